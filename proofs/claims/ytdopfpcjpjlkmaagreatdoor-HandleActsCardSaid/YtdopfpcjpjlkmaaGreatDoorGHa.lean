/- merged -/
import Derived.Test.YtdopfpcjpjlkmaaGreatDoorGFk
set_option maxHeartbeats 2000000
set_option maxRecDepth 100000
set_option linter.unusedSimpArgs false
set_option linter.unusedVariables false
namespace Go.Proofs.YtdopfpcjpjlkmaaGreatDoor
namespace Hd
open Go.RowKit Ex Ino Mm Fs
def hA (h:Nat):Int:=64+16*((h:Int)-1)
theorem yaw (h:Nat)(h1:1≤h)(h4:h≤4)(w:World):Calls Tryz.prog 99 #[.int .i64 (h:Int)] w fun e w'=>e=.returned (.int .i64 (hA h))∧w'=w:=by
 have hv:hA h=64+16*((h:Int)-1):=rfl
 have HV:=zq hv
 clear hv
 go_enter Tryz.func99,Tryz.ntmps99
 go_wp2_with fail
 go_ret
 refine⟨?_,rfl⟩
 rw[HV.out]
 rfl
theorem zqh {P:Program} {fn:Func} {p:Tmp} {ty:TypeId} (h:fn.results=#[.cell p ty])(tmps:Array Value)(w:World)(g:Nat)(t:TypeId)(cs:Array Value)(fr:Nat × Nat)(d:TypeDesc)
  (hp:tmps.getD p undef=.pointer (some ⟨g,0,none⟩)) (hg:w.heap[g]?=some (.cells cs t fr))
  (hu:P.underlying ty=some d) (hd:(match d with | .struct _ | .array _ _=>true | _=>false)=true) (hi:(P.info? ty).map (·.size)=some cs.size):
  (results fn tmps).run P w=.ok (.agg cs) w:=by
 have hp':tmps[p]?.getD undef=.pointer (some ⟨g,0,none⟩):=by simpa using hp
 simp[results,h,hp',asAddr,run_loadVar_row w g t ty cs fr d hg hu hd hi]
theorem yc8 {w:World} {b:Nat} {t:TypeId} {x y a c:Value} (h:w.heap[b]?=some (.cells #[x,y] t (0,0))):((w.setCell ⟨b,0,none⟩ a).setCell ⟨b,1,none⟩ c).heap[b]?=some (.cells #[a,c] t (0,0)):=by
 exact(zah (zs:=[x,y]) (ys:=[a,c]) h rfl).1
theorem sizeC:(Tryz.prog.info? 86).map (·.size)=some 2:=by kernel_rfl
variable {w:World} {p gb mb:Nat} {G M:List UInt8}
def agC (a b:Int):Value:=.agg #[.int .i64 a,.int .i64 b]
def hF (M:List UInt8) (h:Nat):Int:=cel M (hA h)
def hP (M:List UInt8) (h:Nat):Int:=cel M (hA h+8)
theorem zky (h:MemAt w p gb mb G M)(n:Nat)(h1:1≤n)(h4:n≤4):Calls Tryz.prog 84 #[.pointer (some ⟨p,0,none⟩),.int .i64 (n:Int)] w (zb0 w p gb mb G M (agC (hF M n) (hP M n))):=by
 unfold hF hP
 have hlt:64≤hA n∧hA n≤112:=by unfold hA;omega
 have HAT:=zq (fun W=>yaw n h1 h4 W)
 have k0:Keeps (fun _=>False) w (w.alloc (.cells #[.int .i64 0,.int .i64 0] 86)):=Keeps.alloc _ _ _
 have H0:=zq (h.keep k0 (fun f=>f) (fun f=>f) (fun f=>f))
 have K0:=zq k0
 have LT:=zq h.lt
 clear h k0
 generalize hA n=an at *
 go_enter Tryz.func84,Tryz.ntmps84
 go_wp2_with fail
 refine(HAT.out _).mono ?_
 rintro e w1 ⟨rfl,rfl⟩
 go_wp2_with fail
 refine(zz4 H0.out an (by omega) (by omega)).mono ?_
 rintro e w2 ⟨rfl,h2,k2⟩
 have H2:=zq h2
 have K2:=zq k2
 clear h2 k2
 go_wp2_with fail
 refine(HAT.out _).mono ?_
 rintro e w3 ⟨rfl,rfl⟩
 go_wp2_with fail
 refine(zz4 H2.out (an+8) (by omega) (by omega)).mono ?_
 rintro e w3 ⟨rfl,h3,k3⟩
 have kk:=K2.out.trans k3
 have hb:w3.heap[w.heap.size]?=some (.cells #[.int .i64 0,.int .i64 0] 86 (0,0)):=by
  rw[kk.block _ (by rw[World.size_alloc];omega) (fun e=>by have:=LT.out;omega)]
  exact heap_alloc_new w _
 have c0:w3.cell? ⟨w.heap.size,0,none⟩=some (.int .i64 0):=by rw[cell_of_row _ _ _ _ _ _ hb];rfl
 have c1:w3.cell? ⟨w.heap.size,1,none⟩=some (.int .i64 0):=by rw[cell_of_row _ _ _ _ _ _ hb];rfl
 have f0:=frozen_of_row w3 w.heap.size 0 _ _ hb
 have f1:=frozen_of_row w3 w.heap.size 1 _ _ hb
 have H3:=zq h3
 have KK:=zq ((K0.out.mono fun _ _ f=>f.elim).trans kk)
 have HR:=zq (yc8 (a:=.int .i64 (cel M an)) (c:=.int .i64 (cel M (an+8))) hb)
 have HO:Hid (zb0 w p gb mb G M (agC (cel M an) (cel M (an+8))) (.returned (agC (cel M an) (cel M (an+8)))) ((w3.setCell ⟨w.heap.size,0,none⟩ (.int .i64 (cel M an))).setCell ⟨w.heap.size,1,none⟩ (.int .i64 (cel M (an+8))))):=by
  have hl:=LT.out
  have hlt3:=(Array.getElem?_eq_some_iff.1 hb).1
  have ks:Keeps (fun j=>j=w.heap.size) w3 ((w3.setCell ⟨w.heap.size,0,none⟩ (.int .i64 (cel M an))).setCell ⟨w.heap.size,1,none⟩ (.int .i64 (cel M (an+8)))):=Keeps.trans (Keeps.setCell (fun j=>j=w.heap.size) w3 ⟨w.heap.size,0,none⟩ _ rfl) (Keeps.setCell (fun j=>j=w.heap.size) _ ⟨w.heap.size,1,none⟩ _ rfl)
  exact⟨rfl,H3.out.keep ks (by omega) (by omega) (by omega),Keeps.thru KK.out ks (fun _ _ f=>f) (fun i hi e=>by omega)⟩
 clear h3 k3 kk hb K2 H2
 go_wp2_with fail
 refine bodyPost_ret (v:=agC (cel M an) (cel M (an+8))) ?_ rfl HO.out
 exact zqh rfl _ _ w.heap.size 86 _ (0,0) _ rfl HR.out Tryz.underlying86 rfl sizeC
def zms (a size:Int):Int:=if a<0∨size<a then size else a
theorem zkb (a b size:Int)(w:World):Calls Tryz.prog 92 #[agC a b,.int .i64 size] w (zcx w (.int .i64 (zms b size))):=by
 have hb:Below w.heap.size w (w.alloc (.cells #[.int .i64 a,.int .i64 b] 86)):=(Below.refl _ _).alloc (Nat.le_refl _) _
 have c1:(w.alloc (.cells #[.int .i64 a,.int .i64 b] 86)).cell? ⟨w.heap.size,1,none⟩=some (.int .i64 b):=by rw[cell_of_row _ _ _ _ _ _ (heap_alloc_new w _)];rfl
 have HB:=zq hb
 clear hb
 unfold agC
 by_cases h1:b<0
 ·have hv:zms b size=size:=by unfold zms;rw[zp (.inl h1)]
  rw[hv]
  have d1:decide (b<0)=true:=by simpa using h1
  clear hv h1
  go_enter Tryz.func92,Tryz.ntmps92
  go_wp2_with fail
  go_ret
  exact⟨rfl,HB.out⟩
 ·have d1:decide (b<0)=false:=by simpa using h1
  by_cases h2:size<b
  ·have hv:zms b size=size:=by unfold zms;rw[zp (.inr h2)]
   rw[hv]
   have d2:decide (size<b)=true:=by simpa using h2
   clear hv h1 h2
   go_enter Tryz.func92,Tryz.ntmps92
   go_wp2_with fail
   go_ret
   exact⟨rfl,HB.out⟩
  ·have hv:zms b size=b:=by unfold zms;rw[zn (by omega)]
   rw[hv]
   have d2:decide (size<b)=false:=by simpa using h2
   clear hv h1 h2
   go_enter Tryz.func92,Tryz.ntmps92
   go_wp2_with fail
   go_ret
   exact⟨rfl,HB.out⟩
end Hd
namespace Hd
open Go.RowKit Ex Ino Mm Fs
theorem zd1 {P:Program} {fn:Func} {p q:Tmp} {ty:TypeId} (h:fn.results=#[.cell p ty,.tmp q])(tmps:Array Value)(w:World)(g:Nat)(t:TypeId)(cs:Array Value)(fr:Nat × Nat)(d:TypeDesc)(x:Value)
  (hp:tmps.getD p undef=.pointer (some ⟨g,0,none⟩)) (hx:tmps.getD q undef=x) (hg:w.heap[g]?=some (.cells cs t fr))
  (hu:P.underlying ty=some d) (hd:(match d with | .struct _ | .array _ _=>true | _=>false)=true) (hi:(P.info? ty).map (·.size)=some cs.size):
  (results fn tmps).run P w=.ok (.tuple #[.agg cs,x]) w:=by
 have hp':tmps[p]?.getD undef=.pointer (some ⟨g,0,none⟩):=by simpa using hp
 have hx':tmps[q]?.getD undef=x:=by simpa using hx
 simp[results,h,hp',hx',asAddr,run_loadVar_row w g t ty cs fr d hg hu hd hi]
theorem zyn:(Tryz.prog.info? 78).map (·.size)=some 3:=by kernel_rfl
theorem zoq {w:World} {b:Nat} {t:TypeId} {x y z a c d:Value} (h:w.heap[b]?=some (.cells #[x,y,z] t (0,0))):(((w.setCell ⟨b,0,none⟩ a).setCell ⟨b,1,none⟩ c).setCell ⟨b,2,none⟩ d).heap[b]?=some (.cells #[a,c,d] t (0,0)):=by
 exact(zah (zs:=[x,y,z]) (ys:=[a,c,d]) h rfl).1
theorem zjp (F:Nat→Prop){w:World} {b:Nat} {a c d:Value} (h:F b):Keeps F w (((w.setCell ⟨b,0,none⟩ a).setCell ⟨b,1,none⟩ c).setCell ⟨b,2,none⟩ d):=
 ((Keeps.setCell F w ⟨b,0,none⟩ _ h).trans (Keeps.setCell F _ ⟨b,1,none⟩ _ h)).trans (Keeps.setCell F _ ⟨b,2,none⟩ _ h)
def agO (a b c:Int):Value:=.agg #[.int .i64 a,.int .i64 b,.int .i64 c]
variable {w:World} {p gb mb:Nat} {G M:List UInt8}
theorem zw0 (h:MemAt w p gb mb G M)(n:Int)(hn:n<1∨4<n):Calls Tryz.prog 44 #[.pointer (some ⟨p,0,none⟩),.int .i64 n] w (zb0 w p gb mb G M (.tuple #[agO 0 0 0,.bool false])):=by
 have k0:Keeps (fun k=>k=p∨k=mb) w (w.alloc (.cells #[.int .i64 0,.int .i64 0,.int .i64 0] 78)):=Keeps.alloc _ _ _
 have h0:MemAt (w.alloc (.cells #[.int .i64 0,.int .i64 0,.int .i64 0] 78)) p gb mb G M:=h.keep (Keeps.alloc (fun _=>False) _ _) (fun f=>f) (fun f=>f) (fun f=>f)
 have bO:(w.alloc (.cells #[.int .i64 0,.int .i64 0,.int .i64 0] 78)).heap[w.heap.size]?=some (.cells #[.int .i64 0,.int .i64 0,.int .i64 0] 78 (0,0)):=heap_alloc_new w _
 have HR:=zq bO
 have HG:Hid (zb0 w p gb mb G M (.tuple #[agO 0 0 0,.bool false]) (.returned (.tuple #[agO 0 0 0,.bool false])) (w.alloc (.cells #[.int .i64 0,.int .i64 0,.int .i64 0] 78))):=⟨rfl,h0,k0⟩
 clear bO h k0 h0
 by_cases c1:n<1
 ·have d1:decide (n<1)=true:=by simpa using c1
  clear hn c1
  go_enter Tryz.func44,Tryz.ntmps44
  go_wp2_with fail
  refine bodyPost_ret (v:=.tuple #[agO 0 0 0,.bool false]) ?_ rfl HG.out
  exact zd1 rfl _ _ w.heap.size 78 _ (0,0) _ _ rfl rfl HR.out Tryz.underlying78 rfl zyn
 ·have d1:decide (n<1)=false:=by simpa using c1
  have d2:decide (4<n)=true:=by simp;omega
  clear hn c1
  go_enter Tryz.func44,Tryz.ntmps44
  go_wp2_with fail
  refine bodyPost_ret (v:=.tuple #[agO 0 0 0,.bool false]) ?_ rfl HG.out
  exact zd1 rfl _ _ w.heap.size 78 _ (0,0) _ _ rfl rfl HR.out Tryz.underlying78 rfl zyn
theorem zwy (h:MemAt w p gb mb G M)(ho:okR (zab M))(n:Nat)(h1:1≤n)(h4:n≤4)(N sz:Int)(hN:wrap64 (hF M n-1)=N)
  (hz:ygf (zaa (zab M)) N=.tuple #[.int .i64 sz,.int .i64 0]):
  Calls Tryz.prog 44 #[.pointer (some ⟨p,0,none⟩),.int .i64 (n:Int)] w (zb0 w p gb mb G M (.tuple #[agO N (zms (hP M n) sz) sz,.bool true])):=by
 have k0:Keeps (fun k=>k=p∨k=mb) w (w.alloc (.cells #[.int .i64 0,.int .i64 0,.int .i64 0] 78)):=Keeps.alloc _ _ _
 have h0:MemAt (w.alloc (.cells #[.int .i64 0,.int .i64 0,.int .i64 0] 78)) p gb mb G M:=h.keep (Keeps.alloc (fun _=>False) _ _) (fun f=>f) (fun f=>f) (fun f=>f)
 have LT:=zq h.lt
 have HO:=zq ho
 have TO:=zq (zky h0 n h1 h4)
 have d1:decide ((n:Int)<1)=false:=by simp;omega
 have d2:decide (4<(n:Int))=false:=by simp;omega
 have HNN:=zq hN
 have HZ:=zq hz
 have K0:=zq k0
 have HC:=zq (fun a s W=>zkb (hF M n) a s W)
 clear h h0 ho hN hz k0
 generalize hF M n=a1 at *
 generalize hP M n=a2 at *
 go_enter Tryz.func44,Tryz.ntmps44
 go_wp2_with fail
 refine TO.out.mono ?_
 rintro e w1 ⟨rfl,m1,k1⟩
 have b1:w1.heap[w.heap.size]?=some (.cells #[.int .i64 0,.int .i64 0,.int .i64 0] 78 (0,0)):=by
  have:=LT.out
  rw[k1.block _ (by rw[World.size_alloc];omega) (by omega)]
  exact heap_alloc_new w _
 have M2:=zq (m1.keep (Keeps.alloc (fun _=>False) w1 (.cells #[.int .i64 a1,.int .i64 a2] 86)) (fun f=>f) (fun f=>f) (fun f=>f))
 have K1:=zq k1
 have B1:=zq b1
 clear m1 k1 b1 TO
 unfold agC
 go_wp2_with fail
 rw[HNN.out]
 have hf:=zq8 (zci M2.out) HO.out N
 rw[HZ.out] at hf
 refine hf.mono ?_
 clear hf
 rintro e w2 ⟨m2,k2,rfl⟩
 have bO:w2.heap[w.heap.size]?=some (.cells #[.int .i64 0,.int .i64 0,.int .i64 0] 78 (0,0)):=by
  have:=LT.out
  have:=K1.out.size
  rw[World.size_alloc] at this
  rw[k2.block _ (by rw[World.size_alloc];omega) (by omega)]
  exact(Below.heap_alloc w1 _ w.heap.size (by omega)).trans B1.out
 have bC:w2.heap[w1.heap.size]?=some (.cells #[.int .i64 a1,.int .i64 a2] 86 (0,0)):=by
  have:=LT.out
  have:=K1.out.size
  rw[World.size_alloc] at this
  rw[k2.block _ (by rw[World.size_alloc];omega) (by omega)]
  exact heap_alloc_new w1 _
 have c0:w2.cell? ⟨w1.heap.size,0,none⟩=some (.int .i64 a1):=by rw[cell_of_row _ _ _ _ _ _ bC];rfl
 have c1:w2.cell? ⟨w1.heap.size,1,none⟩=some (.int .i64 a2):=by rw[cell_of_row _ _ _ _ _ _ bC];rfl
 have KK:=zq (K1.out.trans ((Keeps.alloc (fun k=>k=p∨k=mb) w1 _).trans (k2.mono fun _ _ e=>.inr e)))
 have LE2:Hid (w.heap.size<w2.heap.size):=(Array.getElem?_eq_some_iff.1 bO).1
 have BO:=zq bO
 have M3:=zq m2
 unfold agC at HC
 clear bO bC k2 m2 M2 B1
 go_wp2_with fail
 refine(HC.out _ _ _).mono ?_
 rintro e w3 ⟨rfl,b3⟩
 have bO:w3.heap[w.heap.size]?=some (.cells #[.int .i64 0,.int .i64 0,.int .i64 0] 78 (0,0)):=by
  have:=LE2.out
  rw[(zac b3 (F:=fun _=>False)).block _ (by omega) (fun f=>f)]
  exact BO.out
 generalize zms a2 sz=pl at *
 have f0:=frozen_of_row w3 w.heap.size 0 _ _ bO
 have f1:=frozen_of_row w3 w.heap.size 1 _ _ bO
 have f2:=frozen_of_row w3 w.heap.size 2 _ _ bO
 have o0:w3.cell? ⟨w.heap.size,0,none⟩=some (.int .i64 0):=by rw[cell_of_row _ _ _ _ _ _ bO];rfl
 have o1:w3.cell? ⟨w.heap.size,1,none⟩=some (.int .i64 0):=by rw[cell_of_row _ _ _ _ _ _ bO];rfl
 have o2:w3.cell? ⟨w.heap.size,2,none⟩=some (.int .i64 0):=by rw[cell_of_row _ _ _ _ _ _ bO];rfl
 have HR:=zq (zoq (a:=.int .i64 N) (c:=.int .i64 pl) (d:=.int .i64 sz) bO)
 have HG:Hid (zb0 w p gb mb G M (.tuple #[agO N pl sz,.bool true]) (.returned (.tuple #[agO N pl sz,.bool true])) (((w3.setCell ⟨w.heap.size,0,none⟩ (.int .i64 N)).setCell ⟨w.heap.size,1,none⟩ (.int .i64 pl)).setCell ⟨w.heap.size,2,none⟩ (.int .i64 sz))):=by
  have hl:=LT.out
  have h2:=LE2.out
  have kk:Keeps (fun j=>j=w.heap.size) w2 _:=(zac b3 (F:=fun j=>j=w.heap.size)).trans (zjp (fun j=>j=w.heap.size) (a:=.int .i64 N) (c:=.int .i64 pl) (d:=.int .i64 sz) rfl)
  exact⟨rfl,M3.out.keep kk (by omega) (by omega) (by omega),Keeps.thru (K0.out.trans KK.out) kk (fun _ _ f=>f) (fun i hi e=>by omega)⟩
 clear b3 KK bO K1 M3 BO
 go_wp2_with fail
 refine bodyPost_ret (v:=.tuple #[agO N pl sz,.bool true]) ?_ rfl HG.out
 exact zd1 rfl _ _ w.heap.size 78 _ (0,0) _ _ rfl rfl HR.out Tryz.underlying78 rfl zyn
theorem zzo (h:MemAt w p gb mb G M)(ho:okR (zab M))(n:Nat)(h1:1≤n)(h4:n≤4)(N sz E:Int)(hE:E≠0)(hN:wrap64 (hF M n-1)=N)
  (hz:ygf (zaa (zab M)) N=.tuple #[.int .i64 sz,.int .i64 E]):
  Calls Tryz.prog 44 #[.pointer (some ⟨p,0,none⟩),.int .i64 (n:Int)] w (zb0 w p gb mb G M (.tuple #[agO 0 0 0,.bool false])):=by
 have k0:Keeps (fun k=>k=p∨k=mb) w (w.alloc (.cells #[.int .i64 0,.int .i64 0,.int .i64 0] 78)):=Keeps.alloc _ _ _
 have h0:MemAt (w.alloc (.cells #[.int .i64 0,.int .i64 0,.int .i64 0] 78)) p gb mb G M:=h.keep (Keeps.alloc (fun _=>False) _ _) (fun f=>f) (fun f=>f) (fun f=>f)
 have LT:=zq h.lt
 have HO:=zq ho
 have TO:=zq (zky h0 n h1 h4)
 have d1:decide ((n:Int)<1)=false:=by simp;omega
 have d2:decide (4<(n:Int))=false:=by simp;omega
 have HNN:=zq hN
 have HZ:=zq hz
 have K0:=zq k0
 have HC:=zq (fun a s W=>zkb (hF M n) a s W)
 clear h h0 ho hN hz k0
 generalize hF M n=a1 at *
 generalize hP M n=a2 at *
 go_enter Tryz.func44,Tryz.ntmps44
 go_wp2_with fail
 refine TO.out.mono ?_
 rintro e w1 ⟨rfl,m1,k1⟩
 have b1:w1.heap[w.heap.size]?=some (.cells #[.int .i64 0,.int .i64 0,.int .i64 0] 78 (0,0)):=by
  have:=LT.out
  rw[k1.block _ (by rw[World.size_alloc];omega) (by omega)]
  exact heap_alloc_new w _
 have M2:=zq (m1.keep (Keeps.alloc (fun _=>False) w1 (.cells #[.int .i64 a1,.int .i64 a2] 86)) (fun f=>f) (fun f=>f) (fun f=>f))
 have K1:=zq k1
 have B1:=zq b1
 clear m1 k1 b1 TO
 unfold agC
 go_wp2_with fail
 rw[HNN.out]
 have hf:=zq8 (zci M2.out) HO.out N
 rw[HZ.out] at hf
 refine hf.mono ?_
 clear hf
 rintro e w2 ⟨m2,k2,rfl⟩
 have bO:w2.heap[w.heap.size]?=some (.cells #[.int .i64 0,.int .i64 0,.int .i64 0] 78 (0,0)):=by
  have:=LT.out
  have:=K1.out.size
  rw[World.size_alloc] at this
  rw[k2.block _ (by rw[World.size_alloc];omega) (by omega)]
  exact(Below.heap_alloc w1 _ w.heap.size (by omega)).trans B1.out
 have dE:(E != 0)=true:=by simpa using hE
 have HR:=zq (zoq (a:=.int .i64 0) (c:=.int .i64 0) (d:=.int .i64 0) bO)
 have HG:Hid (zb0 w p gb mb G M (.tuple #[agO 0 0 0,.bool false]) (.returned (.tuple #[agO 0 0 0,.bool false])) (((w2.setCell ⟨w.heap.size,0,none⟩ (.int .i64 0)).setCell ⟨w.heap.size,1,none⟩ (.int .i64 0)).setCell ⟨w.heap.size,2,none⟩ (.int .i64 0))):=by
  have hl:=LT.out
  have kk:=zjp (fun j=>j=w.heap.size) (w:=w2) (a:=.int .i64 0) (c:=.int .i64 0) (d:=.int .i64 0) rfl
  have KK:=K1.out.trans ((Keeps.alloc (fun k=>k=p∨k=mb) w1 _).trans (k2.mono fun _ _ e=>.inr e))
  exact⟨rfl,m2.keep kk (by omega) (by omega) (by omega),Keeps.thru (K0.out.trans KK) kk (fun _ _ f=>f) (fun i hi e=>by omega)⟩
 have f0:=frozen_of_row w2 w.heap.size 0 _ _ bO
 have f1:=frozen_of_row w2 w.heap.size 1 _ _ bO
 have f2:=frozen_of_row w2 w.heap.size 2 _ _ bO
 have o0:w2.cell? ⟨w.heap.size,0,none⟩=some (.int .i64 0):=by rw[cell_of_row _ _ _ _ _ _ bO];rfl
 have o1:w2.cell? ⟨w.heap.size,1,none⟩=some (.int .i64 0):=by rw[cell_of_row _ _ _ _ _ _ bO];rfl
 have o2:w2.cell? ⟨w.heap.size,2,none⟩=some (.int .i64 0):=by rw[cell_of_row _ _ _ _ _ _ bO];rfl
 clear bO k2 m2 M2 K1 B1 hE
 go_wp2_with fail
 refine bodyPost_ret (v:=.tuple #[agO 0 0 0,.bool false]) ?_ rfl HG.out
 exact zd1 rfl _ _ w.heap.size 78 _ (0,0) _ _ rfl rfl HR.out Tryz.underlying78 rfl zyn
end Hd
namespace Hd
open Go.RowKit Ex Ino Mm Fs
def zdb (M:List UInt8) (h:Nat) (a b:Int):List UInt8:=zgs (zgs M (hA h) a) (hA h+8) b
theorem ycf (w:World):(isAgg 2).run Tryz.prog w=.ok false w:=by unfold isAgg;rw[Sem.run_bind,run_underlying Tryz.underlying2 w];rfl
variable {w:World} {p gb mb:Nat} {G M:List UInt8}
theorem zmf (h:MemAt w p gb mb G M)(n:Nat)(h1:1≤n)(h4:n≤4)(a b:Int):Calls Tryz.prog 51 #[.pointer (some ⟨p,0,none⟩),.int .i64 (n:Int),.agg #[.int .i64 a,.int .i64 b]] w (zb0 w p gb mb G (zdb M n a b) (.tuple #[])):=by
 have hlt:64≤hA n∧hA n≤112:=by unfold hA;omega
 have HAT:=zq (fun W=>yaw n h1 h4 W)
 have LT:=zq h.lt
 have HH:=zq (h.keep (Keeps.alloc (fun _=>False) w (.cells #[.int .i64 a,.int .i64 b] 86)) (fun f=>f) (fun f=>f) (fun f=>f))
 have K0:Hid (Keeps (fun k=>k=p∨k=mb) w (w.alloc (.cells #[.int .i64 a,.int .i64 b] 86))):=Keeps.alloc _ _ _
 have hb:(w.alloc (.cells #[.int .i64 a,.int .i64 b] 86)).heap[w.heap.size]?=some (.cells #[.int .i64 a,.int .i64 b] 86 (0,0)):=heap_alloc_new w _
 have p0:(w.alloc (.cells #[.int .i64 a,.int .i64 b] 86)).drew.cell? ⟨w.heap.size,0,none⟩=some (.int .i64 a):=by rw[cell_of_row _ _ _ _ _ _ (show(w.alloc (.cells #[.int .i64 a,.int .i64 b] 86)).drew.heap[w.heap.size]?=_ from hb)];rfl
 have p1:(w.alloc (.cells #[.int .i64 a,.int .i64 b] 86)).drew.cell? ⟨w.heap.size,1,none⟩=some (.int .i64 b):=by rw[cell_of_row _ _ _ _ _ _ (show(w.alloc (.cells #[.int .i64 a,.int .i64 b] 86)).drew.heap[w.heap.size]?=_ from hb)];rfl
 have HS0:=zq (And.intro p0 p1)
 have LT1:Hid (w.heap.size<(w.alloc (.cells #[.int .i64 a,.int .i64 b] 86)).heap.size):=(Array.getElem?_eq_some_iff.1 hb).1
 unfold zdb
 clear h hb p0 p1
 generalize hA n=an at *
 go_enter Tryz.func51,Tryz.ntmps51
 go_wp2_with fail
 refine wp_region_held (S:=fun W=>W.cell? ⟨w.heap.size,0,none⟩=some (.int .i64 a)∧W.cell? ⟨w.heap.size,1,none⟩=some (.int .i64 b)) (by kernel_rfl) ?_
 change wpAnyH _ _ _ _ _ _ _ _ (w.alloc (.cells #[.int .i64 a,.int .i64 b] 86)).drew
 have hS:=HS0.out
 refine sqH 0 (.pointer (some ⟨p,0,none⟩)) rfl (Or.inl ⟨by rfl,fun _ _=>rfl⟩) hS ?_
 try simp only[Act.put,sqX]
 refine sqH 1 (.int .i64 (n:Int)) rfl (Or.inl ⟨by rfl,fun _ _=>rfl⟩) hS ?_
 try simp only[Act.put,sqX]
 refine sqH 3 (.pointer (some ⟨w.heap.size,0,none⟩)) rfl (Or.inl ⟨by rfl,fun _ _=>by go_simp⟩) hS ?_
 try simp only[Act.put,sqX]
 refine sqH 4 (.int .i64 a) rfl (zai rfl 2 (.tmp 9) rfl _ _ rfl fun w h=>zal ycf h.1) hS ?_
 try simp only[Act.put,sqX]
 have m0:MemAt (w.alloc (.cells #[.int .i64 a,.int .i64 b] 86)).drew p gb mb G M:=HH.out.keep (Keeps.drew (fun _=>False) _) (fun f=>f) (fun f=>f) (fun f=>f)
 have kd:Keeps (fun k=>k=p∨k=mb) w (w.alloc (.cells #[.int .i64 a,.int .i64 b] 86)).drew:=K0.out.trans (Keeps.drew _ _)
 have ld:w.heap.size<(w.alloc (.cells #[.int .i64 a,.int .i64 b] 86)).drew.heap.size:=LT1.out
 clear HS0 LT1
 generalize (w.alloc (.cells #[.int .i64 a,.int .i64 b] 86)).drew=w1 at *
 refine wpAnyH_all (rs:=[2]) (by kernel_rfl) (by simp) fun i hi=>?_
 obtain rfl:i=2:=by simpa using hi
 refine zbf (om:=⟨_,_,_,_,_,_⟩) (fn:=99) (args:=#[.int .i64 (n:Int)]) (R:=fun u W=>u=.int .i64 an∧W=w1) rfl rfl (by go_simp)
  ((HAT.out w1).mono fun e W he=>⟨_,he.1,rfl,he.2⟩) _ _ rfl rfl ?_
 rintro u w2 ⟨rfl,rfl⟩
 refine⟨hS,?_⟩
 try simp only[Act.put,sqX]
 refine wpAnyH_all (rs:=[5]) (by kernel_rfl) (by simp) fun i hi=>?_
 obtain rfl:i=5:=by simpa using hi
 refine zbf (om:=⟨_,_,_,_,_,_⟩) (fn:=98) (args:=#[.pointer (some ⟨p,0,none⟩),.int .i64 an,.int .i64 a]) (R:=fun u W=>u=.tuple #[]∧MemAt W p gb mb G (zgs M an a)∧Keeps (fun k=>k=p∨k=mb) w2 W) rfl rfl (by go_simp)
  ((zz3 m0 an a (by omega) (by omega)).mono fun e W he=>⟨_,he.1,rfl,he.2⟩) _ _ rfl rfl ?_
 rintro u w3 ⟨rfl,m3,k3⟩
 have hS3:w3.cell? ⟨w.heap.size,0,none⟩=some (.int .i64 a)∧w3.cell? ⟨w.heap.size,1,none⟩=some (.int .i64 b):=by
  have hl:=LT.out
  exact⟨(World.cell?_of_block (a:=⟨w.heap.size,0,none⟩) (k3.block w.heap.size ld (by omega))).trans hS.1,(World.cell?_of_block (a:=⟨w.heap.size,1,none⟩) (k3.block w.heap.size ld (by omega))).trans hS.2⟩
 have l3:w.heap.size<w3.heap.size:=Nat.lt_of_lt_of_le ld k3.size
 have K3:=zq (kd.trans k3)
 have M3:=zq m3
 clear m0 kd ld m3 k3 hS HH K0 hi
 refine⟨hS3,?_⟩
 try simp only[Act.put,sqX]
 refine wpAnyH_done (by kernel_rfl) ?_ _
 try simp only[Act.put,sqX]
 have HS3:=zq hS3
 have L3:=zq l3
 clear hS3 l3
 go_wp2_with fail
 refine wp_region_held (S:=fun W=>W.cell? ⟨w.heap.size,0,none⟩=some (.int .i64 a)∧W.cell? ⟨w.heap.size,1,none⟩=some (.int .i64 b)) (by kernel_rfl) ?_
 change wpAnyH _ _ _ _ _ _ _ _ w3.drew
 have hS:w3.drew.cell? ⟨w.heap.size,0,none⟩=some (.int .i64 a)∧w3.drew.cell? ⟨w.heap.size,1,none⟩=some (.int .i64 b):=HS3.out
 have hw8:IntKind.i64.wrap (an+8)=an+8:=by rw[IntKind.wrap_i64];omega
 have hw8':wrap64 (an+8)=an+8:=by unfold wrap64;omega
 refine sqH 0 (.pointer (some ⟨p,0,none⟩)) rfl (Or.inl ⟨by rfl,fun _ _=>rfl⟩) hS ?_
 try simp only[Act.put,sqX]
 refine sqH 1 (.int .i64 (n:Int)) rfl (Or.inl ⟨by rfl,fun _ _=>rfl⟩) hS ?_
 try simp only[Act.put,sqX]
 refine sqH 4 (.pointer (some ⟨w.heap.size,1,none⟩)) rfl (Or.inl ⟨by rfl,fun _ _=>by go_simp⟩) hS ?_
 try simp only[Act.put,sqX]
 refine sqH 5 (.int .i64 b) rfl (zai rfl 2 (.tmp 16) rfl _ _ rfl fun w h=>zal ycf h.2) hS ?_
 try simp only[Act.put,sqX]
 have m4:MemAt w3.drew p gb mb G (zgs M an a):=M3.out.keep (Keeps.drew (fun _=>False) _) (fun f=>f) (fun f=>f) (fun f=>f)
 have k4:Keeps (fun k=>k=p∨k=mb) w w3.drew:=K3.out.trans (Keeps.drew _ _)
 have l4:w.heap.size<w3.drew.heap.size:=L3.out
 clear HS3 K3 M3 L3
 generalize w3.drew=w4 at *
 refine wpAnyH_all (rs:=[2]) (by kernel_rfl) (by simp) fun i hi=>?_
 obtain rfl:i=2:=by simpa using hi
 refine zbf (om:=⟨_,_,_,_,_,_⟩) (fn:=99) (args:=#[.int .i64 (n:Int)]) (R:=fun u W=>u=.int .i64 an∧W=w4) rfl rfl (by go_simp)
  ((HAT.out w4).mono fun e W he=>⟨_,he.1,rfl,he.2⟩) _ _ rfl rfl ?_
 rintro u w5 ⟨rfl,rfl⟩
 refine⟨hS,?_⟩
 try simp only[Act.put,sqX]
 refine sqH 3 (.int .i64 (an+8)) rfl (Or.inl ⟨by rfl,fun _ _=>by go_simp⟩) hS ?_
 try simp only[Act.put,sqX]
 refine wpAnyH_all (rs:=[6]) (by kernel_rfl) (by simp) fun i hi=>?_
 obtain rfl:i=6:=by simpa using hi
 refine zbf (om:=⟨_,_,_,_,_,_⟩) (fn:=98) (args:=#[.pointer (some ⟨p,0,none⟩),.int .i64 (an+8),.int .i64 b]) (R:=fun u W=>u=.tuple #[]∧MemAt W p gb mb G (zgs (zgs M an a) (an+8) b)∧Keeps (fun k=>k=p∨k=mb) w5 W) rfl rfl (by go_simp)
  ((zz3 m4 (an+8) b (by omega) (by omega)).mono fun e W he=>⟨_,he.1,rfl,he.2⟩) _ _ rfl rfl ?_
 rintro u w6 ⟨rfl,m6,k6⟩
 have hS6:w6.cell? ⟨w.heap.size,0,none⟩=some (.int .i64 a)∧w6.cell? ⟨w.heap.size,1,none⟩=some (.int .i64 b):=by
  have hl:=LT.out
  exact⟨(World.cell?_of_block (a:=⟨w.heap.size,0,none⟩) (k6.block w.heap.size l4 (by omega))).trans hS.1,(World.cell?_of_block (a:=⟨w.heap.size,1,none⟩) (k6.block w.heap.size l4 (by omega))).trans hS.2⟩
 have HG:Hid (zb0 w p gb mb G (zgs (zgs M an a) (an+8) b) (.tuple #[]) (.returned (.tuple #[])) w6):=⟨rfl,m6,k4.trans k6⟩
 refine⟨hS6,?_⟩
 clear hS6 m4 k4 l4 m6 k6 hS hi HAT
 try simp only[Act.put,sqX]
 refine wpAnyH_done (by kernel_rfl) ?_ _
 try simp only[Act.put,sqX]
 go_wp2_with fail
 go_end0
 exact HG.out
end Hd
namespace Hd
open Go.RowKit Ex Ino Mm Fs
def hN (M:List UInt8) (h:Nat):Int:=wrap64 (hF M h-1)
def isO (M:List UInt8) (h:Nat):Bool:=decide (za1 (zaa (zab M)) (hN M h)=0)
def szX (x:IN):Int:=x.size
theorem yf0 (x:IN):x.size=szX x:=rfl
def hS (M:List UInt8) (h:Nat):Int:=szX (za0 (zaa (zab M)) (hN M h))
def yhh (M:List UInt8) (h:Nat):Value:=if isO M h=true then .tuple #[agO (hN M h) (zms (hP M h) (hS M h)) (hS M h),.bool true] else .tuple #[agO 0 0 0,.bool false]
variable {w:World} {p gb mb:Nat} {G M:List UInt8}
theorem yhx (ns:List IN)(N sz E:Int)(hs:(za0 ns N).size=sz)(he:za1 ns N=E):ygf ns N=.tuple #[.int .i64 sz,.int .i64 E]:=by unfold ygf;rw[hs,he]
theorem isO_at (M:List UInt8)(n:Nat)(E:Int)(he:za1 (zaa (zab M)) (hN M n)=E):isO M n=decide (E=0):=by unfold isO;rw[he]
theorem zhl (h:MemAt w p gb mb G M)(ho:okR (zab M))(n:Nat)(h1:1≤n)(h4:n≤4):
  Calls Tryz.prog 44 #[.pointer (some ⟨p,0,none⟩),.int .i64 (n:Int)] w (zb0 w p gb mb G M (yhh M n)):=by
 obtain⟨E,hE⟩:∃ E,za1 (zaa (zab M)) (hN M n)=E:=⟨_,rfl⟩
 have ho':=isO_at M n E hE
 have hz:=yhx (zaa (zab M)) (hN M n) (hS M n) E ((yf0 _).trans (by unfold hS;rfl)) hE
 have hn:wrap64 (hF M n-1)=hN M n:=by unfold hN;rfl
 unfold yhh
 clear hE
 generalize hN M n=N at *
 generalize hS M n=sz at *
 generalize isO M n=b at *
 subst ho'
 by_cases hE:E=0
 ·rw[zp (decide_eq_true hE)]
  rw[hE] at hz
  exact zwy h ho n h1 h4 N _ hn hz
 ·rw[zn (fun e=>hE (of_decide_eq_true e))]
  exact zzo h ho n h1 h4 N _ _ hE hn hz
def ClR (M:List UInt8) (v:Value):Prop:=(∃ k,k<4∧(∀ j,j<k→isO M (j+1)=true)∧isO M (k+1)=false∧v=.tuple #[.int .i64 ((k:Int)+1),.int .i64 0])∨((∀ j,j<4→isO M (j+1)=true)∧v=.tuple #[.int .i64 0,.int .i64 130])
def ClO (w:World) (p gb mb:Nat) (G M:List UInt8) (e:Ending) (w':World):Prop:=∃ v,ClR M v∧zb0 w p gb mb G M v e w'
def Upto (M:List UInt8) (k:Nat):Prop:=∀ j,j<k→isO M (j+1)=true
theorem zoc (h:MemAt w p gb mb G M)(ho:okR (zab M)):Calls Tryz.prog 50 #[.pointer (some ⟨p,0,none⟩)] w (ClO w p gb mb G M):=by
 have HM:=zq h
 have HO:=zq ho
 have LT:=zq h.lt
 clear h ho
 go_enter Tryz.func50,Tryz.ntmps50
 go_wp2_with fail
 go_loopw [7] (fun i W=>∃ (k:Nat),i=.int .i64 (k:Int)∧k≤4∧Hid (Upto M k)∧Hid (MemAt W p gb mb G M)∧Hid (Keeps (fun j=>j=p∨j=mb) w W)) (fun i _=>4-(RowKit.intOf i).toNat)
 case atStart=>exact⟨0,rfl,by omega,fun j hj=>absurd hj (by omega),HM,Keeps.refl _ _⟩
 case round =>
  obtain⟨k,rfl,hk,HU,HW,HK⟩:=hrel
  by_cases hlt:k<4
  ·have hop:=zhl HW.out HO.out (k+1) (by omega) (by omega)
   rw[show((k+1:Nat):Int)=(k:Int)+1 by omega] at hop
   have hw1:wrap64 ((k:Int)+1)=((k+1:Nat):Int):=by unfold wrap64;omega
   have hd:decide ((k:Int)<4)=true:=by simp;omega
   by_cases hs:isO M (k+1)=true
   ·unfold yhh at hop
    rw[zp hs] at hop
    generalize hN M (k+1)=N at *
    generalize hS M (k+1)=sz at *
    generalize zms (hP M (k+1)) sz=pl at *
    have HU2:Hid (Upto M (k+1)):=fun j hj=>by
     rcases Nat.lt_succ_iff_lt_or_eq.1 hj with f | rfl
     ·exact HU.out j f
     ·exact hs
    have HOP:=zq hop
    clear hop hs
    unfold agO at HOP
    go_wp2_with fail
    refine HOP.out.mono ?_
    rintro e w2 ⟨rfl,m2,k2⟩
    have HM2:=zq (m2.keep (Keeps.alloc (fun _=>False) w2 (.cells #[.int .i64 N,.int .i64 pl,.int .i64 sz] 78)) (fun f=>f) (fun f=>f) (fun f=>f))
    have HK2:Hid (Keeps (fun j=>j=p∨j=mb) w (w2.alloc (.cells #[.int .i64 N,.int .i64 pl,.int .i64 sz] 78))):=(HK.out.trans (k2.mono fun _ _ e=>e)).trans (Keeps.alloc _ _ _)
    clear m2 k2 HOP
    go_wp2_with fail
    go_roundw
    case rel=>exact⟨k+1,by go_num,by omega,HU2,HM2,HK2⟩
    case measure=>simp[RowKit.intOf];omega
   ·have hs':isO M (k+1)=false:=by simpa using hs
    unfold yhh at hop
    rw[zn hs] at hop
    have HR:Hid (ClR M (.tuple #[.int .i64 ((k:Int)+1),.int .i64 0])):=.inl ⟨k,hlt,HU.out,hs',rfl⟩
    have HOP:=zq hop
    clear hop hs hs'
    unfold agO at HOP
    go_wp2_with fail
    refine HOP.out.mono ?_
    rintro e w2 ⟨rfl,m2,k2⟩
    have HM2:=m2.keep (Keeps.alloc (fun _=>False) w2 (.cells #[.int .i64 0,.int .i64 0,.int .i64 0] 78)) (fun f=>f) (fun f=>f) (fun f=>f)
    have HG:Hid (ClO w p gb mb G M (.returned (.tuple #[.int .i64 ((k:Int)+1),.int .i64 0])) (w2.alloc (.cells #[.int .i64 0,.int .i64 0,.int .i64 0] 78))):=⟨_,HR.out,rfl,HM2,(HK.out.trans (k2.mono fun _ _ e=>e)).trans (Keeps.alloc _ _ _)⟩
    clear m2 k2 HM2 HOP HR
    go_wp2_with fail
    try rw[Exit.noGoto_ret]
    go_ret2
    exact HG.out
  ·have hk4:k=4:=by omega
   subst hk4
   have HG:Hid (ClO w p gb mb G M (.returned (.tuple #[.int .i64 0,.int .i64 130])) wr):=⟨_,.inr ⟨HU.out,rfl⟩,rfl,HW.out,HK.out⟩
   go_wp2_with fail
   go_ret2
   exact HG.out
theorem zo3 (h:MemAt w p gb mb G M)(n:Nat)(h1:1≤n)(h4:n≤4)(N pl sz at':Int)(hN:-9223372036854775808≤N∧N<9223372036854775807):Calls Tryz.prog 54 #[agO N pl sz,.pointer (some ⟨p,0,none⟩),.int .i64 (n:Int),.int .i64 at'] w (zb0 w p gb mb G (zdb M n (N+1) at') (.tuple #[])):=by
 have HL:=zq (zmf (h.keep (Keeps.alloc (fun _=>False) w (.cells #[.int .i64 N,.int .i64 pl,.int .i64 sz] 78)) (fun f=>f) (fun f=>f) (fun f=>f)) n h1 h4 (N+1) at')
 have K0:Hid (Keeps (fun j=>j=p∨j=mb) w (w.alloc (.cells #[.int .i64 N,.int .i64 pl,.int .i64 sz] 78))):=Keeps.alloc _ _ _
 have hw:wrap64 (N+1)=N+1:=by unfold wrap64;omega
 unfold agO
 clear h
 go_enter Tryz.func54,Tryz.ntmps54
 go_wp2_with fail
 try rw[hw]
 refine HL.out.mono ?_
 rintro e w2 ⟨rfl,m2,k2⟩
 have HG:Hid (zb0 w p gb mb G (zdb M n (N+1) at') (.tuple #[]) (.returned (.tuple #[])) w2):=⟨rfl,m2,K0.out.trans k2⟩
 clear m2 k2 HL K0
 go_wp2_with fail
 go_end0
 exact HG.out
end Hd
namespace Hd
open Go.RowKit Ex Ino Mm Fs
variable {w:World} {p gb mb:Nat} {G M:List UInt8}
def zoh (R:Int→World→Prop) (e:Ending) (w':World):Prop:=∃ E,e=.returned (.int .i64 E)∧R E w'
theorem zeh (h:MemAt w p gb mb G M)(ho:okR (zab M))(n:Nat)(h1:1≤n)(h4:n≤4)(hO:isO M n=true)(N:Nat)(caps:Array Value)
  (en:∀ args W,(callFunc N args).run Tryz.prog W=.ok (.enter N args) W) (R:Int→World→Prop)
  (hc:∀ W,MemAt W p gb mb G M→Keeps (fun j=>j=p∨j=mb) w W→Calls Tryz.prog N (#[agO (hN M n) (zms (hP M n) (hS M n)) (hS M n)]++caps) W (zoh R)):
  Calls Tryz.prog 45 #[.pointer (some ⟨p,0,none⟩),.int .i64 (n:Int),.func (.func N) #[] caps] w (zoh R):=by
 have HCK:=zq (zhp (zci h))
 have HO:=zq ho
 have HOP:Hid (∀ W,MemAt W p gb mb G M→Calls Tryz.prog 44 #[.pointer (some ⟨p,0,none⟩),.int .i64 (n:Int)] W (zb0 W p gb mb G M (.tuple #[agO (hN M n) (zms (hP M n) (hS M n)) (hS M n),.bool true]))):=fun W hW=>by
  have:=zhl hW ho n h1 h4
  unfold yhh at this
  rwa [zp hO] at this
 have HC:=zq hc
 clear h ho hc hO
 generalize hN M n=N1 at *
 generalize hS M n=sz at *
 generalize zms (hP M n) sz=pl at *
 go_enter Tryz.func45,Tryz.ntmps45
 go_wp2_with fail
 refine HCK.out.mono ?_
 rintro e w1 ⟨m1,k1,⟨-,rfl⟩|⟨hno,-⟩⟩
 rotate_left
 ·exact absurd HO.out hno
 have H2:=zq (HOP.out w1 m1)
 have K1:=zq (k1.mono fun _ _ e=>Or.inr e:Keeps (fun j=>j=p∨j=mb) w w1)
 clear k1 m1 HCK HOP
 unfold agO at H2
 go_wp2_with fail
 refine H2.out.mono ?_
 rintro e w2 ⟨rfl,m2,k2⟩
 have hm3:=m2.keep (Keeps.alloc (fun _=>False) w2 (.cells #[.int .i64 N1,.int .i64 pl,.int .i64 sz] 78)) (fun f=>f) (fun f=>f) (fun f=>f)
 have hk3:Keeps (fun j=>j=p∨j=mb) w (w2.alloc (.cells #[.int .i64 N1,.int .i64 pl,.int .i64 sz] 78)):=(K1.out.trans k2).trans (Keeps.alloc _ _ _)
 have H3:=zq (HC.out _ hm3 hk3)
 clear m2 k2 hm3 hk3 HC H2
 unfold agO at H3
 go_wp2_with fail
 refine H3.out.mono ?_
 rintro e w3 ⟨E,rfl,hr⟩
 have HG:Hid (zoh R (.returned (.int .i64 E)) w3):=⟨E,rfl,hr⟩
 clear hr H3
 go_wp2_with fail
 go_ret
 exact HG.out
end Hd
namespace Hd
open Go.RowKit Ex Ino Mm Fs
theorem zc1 {P:Program} {fn:Func} {p q:Tmp} {ty:TypeId} (h:fn.results=#[.cell p ty,.tmp q])(tmps:Array Value)(w:World)(g:Nat)(v x:Value)
  (hp:tmps.getD p undef=.pointer (some ⟨g,0,none⟩)) (hx:tmps.getD q undef=x) (hagg:∀ w,(isAgg ty).run P w=.ok false w) (hc:w.cell? ⟨g,0,none⟩=some v):
  (results fn tmps).run P w=.ok (.tuple #[v,x]) w:=by
 have hp':tmps[p]?.getD undef=.pointer (some ⟨g,0,none⟩):=by simpa using hp
 have hx':tmps[q]?.getD undef=x:=by simpa using hx
 simp[results,h,hp',hx',asAddr,loadVar,hagg,hc]
variable {w:World} {p gb mb:Nat} {G M:List UInt8}
theorem zd7 {w:World} {q:Nat} {t:TypeId} {v:Value} (h:Boxed w q t v)(u:Value):Boxed (w.setCell ⟨q,0,none⟩ u) q t u:=by
 exact(zah (zs:=[v]) (ys:=[u]) h rfl).1
def BoxE (w:World) (q:Nat) (t:TypeId) (v:Value) (E:Int) (w':World):Prop:=E=0∧Boxed w' q t v∧Keeps (fun j=>j=q) w w'
theorem zyp (q:Nat)(v:Value)(hb:Boxed w q 3 v)(a b c:Int):Calls Tryz.prog 47 #[agO a b c,.pointer (some ⟨q,0,none⟩)] w (zoh (BoxE w q 3 (.int .i64 c))):=by
 have hb2:=(zd7 hb (.int .i64 c)).alloc (.cells #[.int .i64 a,.int .i64 b,.int .i64 c] 78)
 have c1:=hb.cell
 have f1:=frozen_of_row _ _ 0 _ _ hb
 have hl:=hb.lt
 have HG:Hid (zoh (BoxE w q 3 (.int .i64 c)) (.returned (.int .i64 0)) ((w.setCell ⟨q,0,none⟩ (.int .i64 c)).alloc (.cells #[.int .i64 a,.int .i64 b,.int .i64 c] 78))):=⟨0,rfl,rfl,hb2,(Keeps.setCell (fun j=>j=q) _ ⟨q,0,none⟩ _ rfl).trans (Keeps.alloc _ _ _)⟩
 unfold agO
 clear hb hb2
 go_enter Tryz.func47,Tryz.ntmps47
 go_wp2_with fail
 go_ret
 exact HG.out
theorem yc6 (h:MemAt w p gb mb G M)(ho:okR (zab M))(n:Nat)(h1:1≤n)(h4:n≤4)(hO:isO M n=true):
  Calls Tryz.prog 16 #[.pointer (some ⟨p,0,none⟩),.int .i64 (n:Int)] w (zb0 w p gb mb G M (.tuple #[.int .i64 (hS M n),.int .i64 0])):=by
 have hl:=h.lt
 have hb:=Boxed.new w 3 (.int .i64 0)
 have K0:=zq (Keeps.alloc (fun j=>j=p∨j=mb) w (.cells #[.int .i64 0] 3))
 have H0:=zq (h.keep (Keeps.alloc (fun _=>False) w (.cells #[.int .i64 0] 3)) (fun f=>f) (fun f=>f) (fun f=>f))
 have HW:=zq (zeh H0.out ho n h1 h4 hO 47 #[.pointer (some ⟨w.heap.size,0,none⟩)] (enters_of Tryz.func47 (by kernel_rfl) rfl)
  (fun E W'=>E=0∧Boxed W' w.heap.size 3 (.int .i64 (hS M n))∧MemAt W' p gb mb G M∧Keeps (fun j=>j=p∨j=mb) w W')
  (fun W hm hk=>by
   have hbw:Boxed W w.heap.size 3 (.int .i64 0):=(hk.block _ hb.lt (by omega)).trans hb
   refine(zyp w.heap.size (.int .i64 0) hbw (hN M n) (zms (hP M n) (hS M n)) (hS M n)).mono ?_
   rintro e w' ⟨E,rfl,rfl,hb',hk'⟩
   exact⟨0,rfl,rfl,hb',hm.keep hk' (by omega) (by omega) (by omega),Keeps.thru (K0.out.trans hk) hk' (fun _ _ f=>f) (fun i hi e=>by omega)⟩))
 have LT:=zq hl
 clear h ho hO hb hl
 generalize hS M n=sz at *
 go_enter Tryz.func16,Tryz.ntmps16
 go_wp2_with fail
 refine HW.out.mono ?_
 rintro e w1 ⟨E,rfl,rfl,hb,hm,hk⟩
 have c1:=hb.cell
 have f1:=frozen_of_row _ _ 0 _ _ hb
 have HB:=zq (zd7 hb (.int .i64 sz))
 have HG:Hid (zb0 w p gb mb G M (.tuple #[.int .i64 sz,.int .i64 0]) (.returned (.tuple #[.int .i64 sz,.int .i64 0])) (w1.setCell ⟨w.heap.size,0,none⟩ (.int .i64 sz))):=by
  have ks:=Keeps.setCell (fun j=>j=w.heap.size) w1 ⟨w.heap.size,0,none⟩ (.int .i64 sz) rfl
  have:=H0.out.lt
  have l0:=LT.out
  exact⟨rfl,hm.keep ks (by omega) (by omega) (by omega),Keeps.thru hk ks (fun _ _ f=>f) (fun i hi e=>by omega)⟩
 clear hb hm hk HW H0
 go_wp2_with fail
 refine bodyPost_ret (v:=.tuple #[.int .i64 sz,.int .i64 0]) ?_ rfl HG.out
 exact zc1 rfl _ _ w.heap.size _ _ rfl rfl zdm HB.out.cell
end Hd
namespace Hd
open Go.RowKit Ex Ino Mm Fs
variable {w:World} {p gb mb:Nat} {G M:List UInt8}
def wrM (M:List UInt8) (n:Nat) (N pl:Int) (k:Nat) (rv:Int × RG):List UInt8:=if rv.1=0 then zdb (zbx M 6144 (zad rv.2)) n (N+1) (pl+(k:Int)) else M
def HwR (w:World) (p gb mb:Nat) (G M':List UInt8) (E0:Int) (E:Int) (W':World):Prop:=E=E0∧MemAt W' p gb mb G M'∧Keeps (fun j=>j=p∨j=mb) w W'
theorem zsx (h:MemAt w p gb mb G M)(ho:okR (zab M))(hT:Tab w)(hmb:mb≠0)(n:Nat)(h1:1≤n)(h4:n≤4)(N pl sz:Int)(hN:0≤N∧N≤8)(hpl:0≤pl∧pl≤1000000)
  {A:Option Addr} {b:List UInt8} (cb:Nat) (hb:BR w w.heap.size A b) (hbl:b.length≤140737488355328) (hA:b≠[]→∀ ad,A=some ad→ad.block≠mb) {q1 q2 q3:Nat}
  (x1:Boxed w q1 25 (.pointer (some ⟨p,0,none⟩))) (x2:Boxed w q2 31 (.slice A b.length cb)) (x3:Boxed w q3 3 (.int .i64 (n:Int)))
  (e1:q1≠p∧q1≠mb) (e2:q2≠p∧q2≠mb) (e3:q3≠p∧q3≠mb):
  Calls Tryz.prog 52 #[agO N pl sz,.pointer (some ⟨q1,0,none⟩),.pointer (some ⟨q2,0,none⟩),.pointer (some ⟨q3,0,none⟩)] w
   (zoh (HwR w p gb mb G (wrM M n N pl b.length (zbu ⟨zab M,zaa (zab M)⟩ N pl b)) (zbu ⟨zab M,zaa (zab M)⟩ N pl b).1)):=by
 have c1:=(x1.alloc (.cells #[.int .i64 N,.int .i64 pl,.int .i64 sz] 78)).cell
 have c2:=(x2.alloc (.cells #[.int .i64 N,.int .i64 pl,.int .i64 sz] 78)).cell
 have c3:=(x3.alloc (.cells #[.int .i64 N,.int .i64 pl,.int .i64 sz] 78)).cell
 have k0:Keeps (fun _=>False) w (w.alloc (.cells #[.int .i64 N,.int .i64 pl,.int .i64 sz] 78)):=Keeps.alloc _ _ _
 have K0:Hid (Keeps (fun j=>j=p∨j=mb) w (w.alloc (.cells #[.int .i64 N,.int .i64 pl,.int .i64 sz] 78))):=Keeps.alloc _ _ _
 have HW:=zq (zxl (h.keep k0 (fun f=>f) (fun f=>f) (fun f=>f)) ho (hT.keep (k0.block 0 hT.pos (fun f=>f))) hmb N pl (by omega) cb (zgp hb k0 fun _ _ _ f=>f) hbl hA)
 have LT:=zq h.lt
 have HX:=zq (And.intro x1 (And.intro x2 x3))
 have HE:=zq (And.intro e1 (And.intro e2 e3))
 clear h ho hT hb hA k0 x1 x2 x3 e1 e2 e3
 generalize zbu ⟨zab M,zaa (zab M)⟩ N pl b=rv at *
 obtain⟨E,g2⟩:=rv
 generalize hk:b.length=k at *
 unfold agO
 go_enter Tryz.func52,Tryz.ntmps52
 go_wp2_with fail
 refine HW.out.mono ?_
 rintro e w2 ⟨rfl,m2,k2⟩
 simp only at m2 ⊢
 have hl:=LT.out
 have hx:=HX.out
 have he:=HE.out
 have b1:Boxed w2 q1 25 (.pointer (some ⟨p,0,none⟩)):=(k2.block _ (hx.1.alloc _).lt (by omega)).trans (hx.1.alloc _)
 have b2:Boxed w2 q2 31 (.slice A k cb):=(k2.block _ (hx.2.1.alloc _).lt (by omega)).trans (hx.2.1.alloc _)
 have b3:Boxed w2 q3 3 (.int .i64 (n:Int)):=(k2.block _ (hx.2.2.alloc _).lt (by omega)).trans (hx.2.2.alloc _)
 have b4:w2.heap[w.heap.size]?=some (.cells #[.int .i64 N,.int .i64 pl,.int .i64 sz] 78 (0,0)):=by
  rw[k2.block _ (by rw[World.size_alloc];omega) (by omega)]
  exact heap_alloc_new w _
 have d1:=b1.cell
 have d2:=b2.cell
 have d3:=b3.cell
 have o0:w2.cell? ⟨w.heap.size,0,none⟩=some (.int .i64 N):=by rw[cell_of_row _ _ _ _ _ _ b4];rfl
 have o1:w2.cell? ⟨w.heap.size,1,none⟩=some (.int .i64 pl):=by rw[cell_of_row _ _ _ _ _ _ b4];rfl
 have o2:w2.cell? ⟨w.heap.size,2,none⟩=some (.int .i64 sz):=by rw[cell_of_row _ _ _ _ _ _ b4];rfl
 have KK:=zq (K0.out.trans k2)
 clear b1 b2 b3 b4 hx he hl c1 c2 c3 k2 HX HE
 by_cases hE:E=0
 ·subst hE
  rw[zp rfl] at m2
  have hw:wrap64 (pl+(k:Int))=pl+(k:Int):=by unfold wrap64;omega
  have hm:=zo3 m2 n h1 h4 N pl sz (pl+(k:Int)) (by omega)
  unfold agO at hm
  have HM:=zq hm
  clear hm m2 HW
  go_wp2_with fail
  try rw[hw]
  refine HM.out.mono ?_
  rintro e w3 ⟨rfl,m3,k3⟩
  have HG:Hid (zoh (HwR w p gb mb G (wrM M n N pl k (0,g2)) 0) (.returned (.int .i64 0)) w3):=⟨0,rfl,rfl,by unfold wrM;rw[zp rfl];exact m3,KK.out.trans k3⟩
  clear m3 k3 HM
  go_wp2_with fail
  go_ret
  exact HG.out
 ·rw[zn hE] at m2
  have hd:(E==0)=false:=by simpa using hE
  have HG:Hid (zoh (HwR w p gb mb G (wrM M n N pl k (E,g2)) E) (.returned (.int .i64 E)) w2):=⟨E,rfl,rfl,by unfold wrM;rw[zn hE];exact m2,KK.out⟩
  clear m2 HW hE
  go_wp2_with fail
  go_ret
  exact HG.out
theorem chk_sz (x:IN)(h:zd6 x=true):0≤szX x∧szX x≤1472:=by
 obtain⟨_,_,hz,_⟩:=zck h
 exact hz
theorem zzv (ns:List IN)(N:Int)(h:za1 ns N=0):za0 ns N=at' ns N.toNat:=by unfold za0;rw[zp h]
theorem zsn (g:RG)(hg:RGood g)(ns:List IN)(hns:g.ns=ns)(N:Int)(h:za1 ns N=0):(0≤N∧N<8)∧0≤szX (za0 ns N)∧szX (za0 ns N)≤1472:=by
 obtain⟨hb,hf⟩:=nodeE_zero.1 h
 subst hns
 rw[zzv _ _ h]
 exact⟨hb,chk_sz _ ((hg.isF_iff (i:=N.toNat) (by omega)).1 hf)⟩
theorem zcd (hm:M.length=8192)(ho:okR (zab M))(n:Nat)(hO:isO M n=true):(0≤hN M n∧hN M n<8)∧0≤hS M n∧hS M n≤1472:=by
 unfold isO at hO
 have hE:=of_decide_eq_true hO
 unfold hS
 generalize hN M n=N at *
 exact zsn ⟨zab M,zaa (zab M)⟩ (zfr hm ho) _ rfl N hE
def hL (M:List UInt8) (n:Nat):Int:=zms (hP M n) (hS M n)
theorem zeu (n:Nat)(h0:0≤hS M n):0≤hL M n∧hL M n≤hS M n:=by
 unfold hL zms
 generalize hS M n=s at *
 generalize hP M n=q at *
 split<;>omega
def wrV (M:List UInt8) (n:Nat) (b:List UInt8):Int × RG:=zbu ⟨zab M,zaa (zab M)⟩ (hN M n) (hL M n) b
theorem znv (h:MemAt w p gb mb G M)(ho:okR (zab M))(hT:Tab w)(hmb:mb≠0)(hp0:p≠0)(n:Nat)(h1:1≤n)(h4:n≤4)(hO:isO M n=true)
  {A:Option Addr} {b:List UInt8} (cb:Nat) (hb:BR w w.heap.size A b) (hbl:b.length≤140737488355328) (hA:b≠[]→∀ ad,A=some ad→ad.block≠mb∧ad.block≠p):
  Calls Tryz.prog 19 #[.pointer (some ⟨p,0,none⟩),.int .i64 (n:Int),.slice A b.length cb] w
   (zb0 w p gb mb G (wrM M n (hN M n) (hL M n) b.length (wrV M n b)) (.int .i64 (wrV M n b).1)):=by
 have hob:=zcd h.ml ho n hO
 have hpb:=zeu n hob.2.1
 have hlt:=h.lt
 let o1:Obj:=.cells #[.pointer (some ⟨p,0,none⟩)] 25
 let o2:Obj:=.cells #[.int .i64 (n:Int)] 3
 let o3:Obj:=.cells #[.slice A b.length cb] 31
 have x1:Boxed (((w.alloc o1).alloc o2).alloc o3) w.heap.size 25 (.pointer (some ⟨p,0,none⟩)):=((Boxed.new w 25 (.pointer (some ⟨p,0,none⟩))).alloc _).alloc _
 have x3:Boxed (((w.alloc o1).alloc o2).alloc o3) (w.heap.size+1) 3 (.int .i64 (n:Int)):=by
  have:=(Boxed.new (w.alloc o1) 3 (.int .i64 (n:Int))).alloc o3
  rwa [World.size_alloc] at this
 have x2:Boxed (((w.alloc o1).alloc o2).alloc o3) (w.heap.size+1+1) 31 (.slice A b.length cb):=by
  have:=Boxed.new ((w.alloc o1).alloc o2) 31 (.slice A b.length cb)
  rwa [World.size_alloc,World.size_alloc] at this
 have k0:Keeps (fun _=>False) w (((w.alloc o1).alloc o2).alloc o3):=Keeps.trans (Keeps.trans (Keeps.alloc _ _ _) (Keeps.alloc _ _ _)) (Keeps.alloc _ _ _)
 have KW:=zq (k0.mono fun _ _ f=>f.elim:Keeps (fun j=>j=p∨j=mb) w _)
 have HW:=zq (zeh (h.keep k0 (fun f=>f) (fun f=>f) (fun f=>f)) ho n h1 h4 hO 52 #[.pointer (some ⟨w.heap.size,0,none⟩),.pointer (some ⟨w.heap.size+1+1,0,none⟩),.pointer (some ⟨w.heap.size+1,0,none⟩)] (enters_of Tryz.func52 (by kernel_rfl) rfl)
  (HwR w p gb mb G (wrM M n (hN M n) (hL M n) b.length (wrV M n b)) (wrV M n b).1)
  (fun W hm hk=>by
   have hA2:b≠[]→∀ ad,A=some ad→ad.block≠mb:=fun hne ad e=>(hA hne ad e).1
   have hb2:=zgp (zgp hb k0 fun _ _ _ f=>f) hk fun hne ad e f=>by
    have:=hA hne ad e
    rcases f with f | f<;>omega
   have hT2:=(hT.keep (k0.block 0 hT.pos (fun f=>f)))
   have hT3:=hT2.keep (hk.block 0 hT2.pos (by omega))
   have y1:=(hk.block _ x1.lt (by omega)).trans x1
   have y2:=(hk.block _ x2.lt (by omega)).trans x2
   have y3:=(hk.block _ x3.lt (by omega)).trans x3
   refine(zsx hm ho hT3 hmb n h1 h4 (hN M n) (hL M n) (hS M n) (by omega) (by omega) cb hb2 hbl hA2 y1 y2 y3 (by omega) (by omega) (by omega)).mono ?_
   rintro e w' ⟨E,rfl,rfl,m',k'⟩
   exact⟨_,rfl,rfl,m',(KW.out.trans hk).trans k'⟩))
 clear h ho hT hb hA hO x1 x2 x3 k0 hob hpb KW
 simp only[o1,o2,o3] at HW
 clear_value o1 o2 o3
 clear o1 o2 o3
 generalize wrV M n b=rv at *
 generalize wrM M n (hN M n) (hL M n) b.length rv=M2 at *
 generalize b.length=k at *
 obtain⟨E0,g2⟩:=rv
 go_enter Tryz.func19,Tryz.ntmps19
 go_wp2_with fail
 refine HW.out.mono ?_
 rintro e w1 ⟨E,rfl,rfl,hm,hk⟩
 have HG:Hid (zb0 w p gb mb G M2 (.int .i64 E) (.returned (.int .i64 E)) w1):=⟨rfl,hm,hk⟩
 clear hm hk HW
 go_wp2_with fail
 go_ret
 exact HG.out
end Hd
namespace Hd
open Go.RowKit Ex Ino Mm Fs
variable {w:World} {p gb mb:Nat} {G M:List UInt8}
theorem yg7 (x:IN)(a k:Int)(ha:0≤a)(hs:0≤szX x∧szX x≤1472):rdN x a k≤1472:=by
 unfold szX at hs
 unfold rdN
 omega
theorem zzd (g:RG)(n a k:Int)(ha:0≤a)(hs:0≤szX (za0 g.ns n)∧szX (za0 g.ns n)≤1472):(zfc g n a k).length≤1472:=by
 have:=yg7 (za0 g.ns n) a k ha hs
 unfold zfc
 split
 ·rw[List.length_take];omega
 ·simp
def rdM (M:List UInt8) (n:Nat) (N pl:Int) (k:Nat) (E:Int):List UInt8:=if E=0 then zdb M n (N+1) (pl+(k:Int)) else M
def RdR (w:World) (p gb mb q:Nat) (G M' xs:List UInt8) (E0:Int) (E:Int) (W':World):Prop:=E=E0∧(∃ A c,Boxed W' q 31 (.slice A xs.length c)∧BR W' W'.heap.size A xs∧∀ ad,A=some ad→w.heap.size≤ad.block)∧MemAt W' p gb mb G M'∧Keeps (fun j=>j=p∨j=mb∨j=q) w W'
theorem zxc (h:MemAt w p gb mb G M)(ho:okR (zab M))(hg:RGood ⟨zab M,zaa (zab M)⟩)(n:Nat)(h1:1≤n)(h4:n≤4)(N pl sz K:Int)(hN:0≤N∧N≤8)(hpl:0≤pl∧pl≤1000000)(hK:-9223372036854775808≤K∧K≤9223372036854775807)
  (hxl:(zfc ⟨zab M,zaa (zab M)⟩ N pl K).length≤1472) {q1 q2 q3 q4:Nat} (v:Value)
  (x1:Boxed w q1 25 (.pointer (some ⟨p,0,none⟩))) (x2:Boxed w q2 3 (.int .i64 K)) (x3:Boxed w q3 31 v) (x4:Boxed w q4 3 (.int .i64 (n:Int)))
  (e1:q1≠p∧q1≠mb∧q1≠q3) (e2:q2≠p∧q2≠mb) (e3:q3≠p∧q3≠mb∧q3≠gb) (e4:q4≠p∧q4≠mb∧q4≠q3):
  Calls Tryz.prog 55 #[agO N pl sz,.pointer (some ⟨q1,0,none⟩),.pointer (some ⟨q2,0,none⟩),.pointer (some ⟨q3,0,none⟩),.pointer (some ⟨q4,0,none⟩)] w
   (zoh (RdR w p gb mb q3 G (rdM M n N pl (zfc ⟨zab M,zaa (zab M)⟩ N pl K).length (zfx ⟨zab M,zaa (zab M)⟩ N pl K)) (zfc ⟨zab M,zaa (zab M)⟩ N pl K) (zfx ⟨zab M,zaa (zab M)⟩ N pl K))):=by
 have c1:=(x1.alloc (.cells #[.int .i64 N,.int .i64 pl,.int .i64 sz] 78)).cell
 have c2:=(x2.alloc (.cells #[.int .i64 N,.int .i64 pl,.int .i64 sz] 78)).cell
 have k0:Keeps (fun _=>False) w (w.alloc (.cells #[.int .i64 N,.int .i64 pl,.int .i64 sz] 78)):=Keeps.alloc _ _ _
 have K0:Hid (Keeps (fun j=>j=p∨j=mb∨j=q3) w (w.alloc (.cells #[.int .i64 N,.int .i64 pl,.int .i64 sz] 78))):=Keeps.alloc _ _ _
 have HW:=zq (ya7 (zci (h.keep k0 (fun f=>f) (fun f=>f) (fun f=>f))) ho hg N pl K (by omega) hK)
 have LT:=zq h.lt
 have HX:=zq (And.intro x1 (And.intro x3 x4))
 have HE:=zq (And.intro e1 (And.intro e3 e4))
 have LL:=zq (And.intro x1.lt (And.intro x3.lt x4.lt))
 clear h ho hg k0 x1 x2 x3 x4 e1 e2 e3 e4
 generalize zfc ⟨zab M,zaa (zab M)⟩ N pl K=xs at *
 generalize zfx ⟨zab M,zaa (zab M)⟩ N pl K=E at *
 unfold agO
 go_enter Tryz.func55,Tryz.ntmps55
 go_wp2_with fail
 refine HW.out.mono ?_
 rintro e w2 ⟨m2,k2,A,c,rfl,br,hnew⟩
 generalize hk:xs.length=k at *
 have hl:=LT.out
 have hx:=HX.out
 have he:=HE.out
 have ll:=LL.out
 have s2:=k2.size
 rw[World.size_alloc] at s2
 have b1:Boxed w2 q1 25 (.pointer (some ⟨p,0,none⟩)):=(k2.block _ (hx.1.alloc _).lt (by omega)).trans (hx.1.alloc _)
 have b3:Boxed w2 q3 31 v:=(k2.block _ (hx.2.1.alloc _).lt (by omega)).trans (hx.2.1.alloc _)
 have b4:Boxed w2 q4 3 (.int .i64 (n:Int)):=(k2.block _ (hx.2.2.alloc _).lt (by omega)).trans (hx.2.2.alloc _)
 have bo:w2.heap[w.heap.size]?=some (.cells #[.int .i64 N,.int .i64 pl,.int .i64 sz] 78 (0,0)):=by
  rw[k2.block _ (by rw[World.size_alloc];omega) (by omega)]
  exact heap_alloc_new w _
 have u3:=b3.cell
 have f3:=frozen_of_row _ _ 0 _ _ b3
 have ks:=Keeps.setCell (fun j=>j=q3) w2 ⟨q3,0,none⟩ (.slice A k c) rfl
 have b1':Boxed (w2.setCell ⟨q3,0,none⟩ (.slice A k c)) q1 25 (.pointer (some ⟨p,0,none⟩)):=(ks.block _ b1.lt (by omega)).trans b1
 have b4':Boxed (w2.setCell ⟨q3,0,none⟩ (.slice A k c)) q4 3 (.int .i64 (n:Int)):=(ks.block _ b4.lt (by omega)).trans b4
 have b3':=zd7 b3 (.slice A k c)
 have bo':(w2.setCell ⟨q3,0,none⟩ (.slice A k c)).heap[w.heap.size]?=some (.cells #[.int .i64 N,.int .i64 pl,.int .i64 sz] 78 (0,0)):=(ks.block _ (by omega) (by omega)).trans bo
 have m3:=m2.keep ks (by omega) (by omega) (by omega)
 have br3:=zgp br ks fun _ ad e f=>by have:=hnew ad e;rw[World.size_alloc] at this;omega
 have KK:Hid (Keeps (fun j=>j=p∨j=mb∨j=q3) w (w2.setCell ⟨q3,0,none⟩ (.slice A k c))):=(K0.out.trans (k2.mono fun _ _ e=>Or.inr (Or.inl e))).trans (ks.mono fun _ _ e=>Or.inr (Or.inr e))
 have NEW:Hid (∀ ad,A=some ad→w.heap.size≤ad.block):=fun ad e=>by have:=hnew ad e;rw[World.size_alloc] at this;omega
 have s3:w.heap.size+1≤(w2.setCell ⟨q3,0,none⟩ (.slice A k c)).heap.size:=Nat.le_trans s2 ks.size
 have hset:Hid (∀ W,w2.setCell ⟨q3,0,none⟩ (.slice A k c)=W→True):=fun _ _=>trivial
 have B3:=zq b3'
 have BR3:=zq br3
 have S3:=zq s3
 clear b1 b4 bo k2 m2 br hnew hx HX b3 br3 s2 s3 hset ks c1 c2
 by_cases hE:E=0
 ·subst hE
  have hw:wrap64 (pl+(k:Int))=pl+(k:Int):=by unfold wrap64;omega
  have hm:=zo3 m3 n h1 h4 N pl sz (pl+(k:Int)) (by omega)
  have d1:=b1'.cell
  have d3:=b3'.cell
  have d4:=b4'.cell
  have o0:(w2.setCell ⟨q3,0,none⟩ (.slice A k c)).cell? ⟨w.heap.size,0,none⟩=some (.int .i64 N):=by rw[cell_of_row _ _ _ _ _ _ bo'];rfl
  have o1:(w2.setCell ⟨q3,0,none⟩ (.slice A k c)).cell? ⟨w.heap.size,1,none⟩=some (.int .i64 pl):=by rw[cell_of_row _ _ _ _ _ _ bo'];rfl
  have o2:(w2.setCell ⟨q3,0,none⟩ (.slice A k c)).cell? ⟨w.heap.size,2,none⟩=some (.int .i64 sz):=by rw[cell_of_row _ _ _ _ _ _ bo'];rfl
  unfold agO at hm
  have HM:=zq hm
  clear hm m3 HW b1' b3' b4' bo' he hl ll
  go_wp2_with fail
  try rw[hw]
  refine HM.out.mono ?_
  rintro e w3 ⟨rfl,m4,k4⟩
  have HG:Hid (zoh (RdR w p gb mb q3 G (rdM M n N pl k 0) xs 0) (.returned (.int .i64 0)) w3):=by
   have he:=HE.out
   have hl:=LT.out
   have ll:=LL.out
   have s3:=S3.out
   refine⟨0,rfl,rfl,⟨A,c,?_,zgp BR3.out k4 fun _ ad e f=>by have:=NEW.out ad e;omega,NEW.out⟩,by unfold rdM;rw[zp rfl];exact m4,KK.out.trans (k4.mono fun j _ f=>by rcases f with f | f;exact .inl f;exact .inr (.inl f))⟩
   rw[hk]
   exact(k4.block _ B3.out.lt (by omega)).trans B3.out
  clear m4 k4 HM
  go_wp2_with fail
  go_ret
  exact HG.out
 ·have hd:(E==0)=false:=by simpa using hE
  have HG:Hid (zoh (RdR w p gb mb q3 G (rdM M n N pl k E) xs E) (.returned (.int .i64 E)) (w2.setCell ⟨q3,0,none⟩ (.slice A k c))):=
   ⟨E,rfl,rfl,⟨A,c,by rw[hk];exact B3.out,BR3.out,NEW.out⟩,by unfold rdM;rw[zn hE];exact m3,KK.out⟩
  clear m3 HW hE b1' b3' b4' bo'
  go_wp2_with fail
  go_ret
  exact HG.out
theorem aggS (w:World):(isAgg 31).run Tryz.prog w=.ok false w:=by unfold isAgg;rw[Sem.run_bind,run_underlying Tryz.underlying31 w];rfl
def rdX (M:List UInt8) (n:Nat) (K:Int):List UInt8:=zfc ⟨zab M,zaa (zab M)⟩ (hN M n) (hL M n) K
def rdE (M:List UInt8) (n:Nat) (K:Int):Int:=zfx ⟨zab M,zaa (zab M)⟩ (hN M n) (hL M n) K
def RdH (w:World) (p gb mb:Nat) (G M' xs:List UInt8) (E:Int) (e:Ending) (w':World):Prop:=
 (∃ A c,e=.returned (.tuple #[.slice A xs.length c,.int .i64 E])∧BR w' w'.heap.size A xs∧∀ ad,A=some ad→w.heap.size≤ad.block)∧MemAt w' p gb mb G M'∧Keeps (fun j=>j=p∨j=mb) w w'
theorem zzg (hm:M.length=8192)(ho:okR (zab M))(n:Nat)(hO:isO M n=true)(K:Int):(rdX M n K).length≤1472:=by
 have hob:=zcd hm ho n hO
 have hpb:=zeu n hob.2.1
 unfold rdX
 refine zzd _ _ _ _ hpb.1 ?_
 exact hob.2
theorem zq5 (h:MemAt w p gb mb G M)(ho:okR (zab M))(n:Nat)(h1:1≤n)(h4:n≤4)(hO:isO M n=true)(K:Int)(hK:-9223372036854775808≤K∧K≤9223372036854775807):
  Calls Tryz.prog 20 #[.pointer (some ⟨p,0,none⟩),.int .i64 (n:Int),.int .i64 K] w
   (RdH w p gb mb G (rdM M n (hN M n) (hL M n) (rdX M n K).length (rdE M n K)) (rdX M n K) (rdE M n K)):=by
 have hob:=zcd h.ml ho n hO
 have hpb:=zeu n hob.2.1
 have hlt:=h.lt
 have hxl:=zzg h.ml ho n hO K
 let o1:Obj:=.cells #[.pointer (some ⟨p,0,none⟩)] 25
 let o2:Obj:=.cells #[.int .i64 (n:Int)] 3
 let o3:Obj:=.cells #[.int .i64 K] 3
 let o4:Obj:=.cells #[.slice none 0 0] 31
 have x1:Boxed ((((w.alloc o1).alloc o2).alloc o3).alloc o4) w.heap.size 25 (.pointer (some ⟨p,0,none⟩)):=(((Boxed.new w 25 (.pointer (some ⟨p,0,none⟩))).alloc _).alloc _).alloc _
 have x4:Boxed ((((w.alloc o1).alloc o2).alloc o3).alloc o4) (w.heap.size+1) 3 (.int .i64 (n:Int)):=by
  have:=((Boxed.new (w.alloc o1) 3 (.int .i64 (n:Int))).alloc o3).alloc o4
  rwa [World.size_alloc] at this
 have x2:Boxed ((((w.alloc o1).alloc o2).alloc o3).alloc o4) (w.heap.size+1+1) 3 (.int .i64 K):=by
  have:=(Boxed.new ((w.alloc o1).alloc o2) 3 (.int .i64 K)).alloc o4
  rwa [World.size_alloc,World.size_alloc] at this
 have x3:Boxed ((((w.alloc o1).alloc o2).alloc o3).alloc o4) (w.heap.size+1+1+1) 31 (.slice none 0 0):=by
  have:=Boxed.new (((w.alloc o1).alloc o2).alloc o3) 31 (.slice none 0 0)
  rwa [World.size_alloc,World.size_alloc,World.size_alloc] at this
 have k0:Keeps (fun _=>False) w ((((w.alloc o1).alloc o2).alloc o3).alloc o4):=Keeps.trans (Keeps.trans (Keeps.trans (Keeps.alloc _ _ _) (Keeps.alloc _ _ _)) (Keeps.alloc _ _ _)) (Keeps.alloc _ _ _)
 have KW:=zq (k0.mono fun _ _ f=>f.elim:Keeps (fun j=>j=p∨j=mb) w _)
 have LT:=zq hlt
 have HW:=zq (zeh (h.keep k0 (fun f=>f) (fun f=>f) (fun f=>f)) ho n h1 h4 hO 55 #[.pointer (some ⟨w.heap.size,0,none⟩),.pointer (some ⟨w.heap.size+1+1,0,none⟩),.pointer (some ⟨w.heap.size+1+1+1,0,none⟩),.pointer (some ⟨w.heap.size+1,0,none⟩)] (enters_of Tryz.func55 (by kernel_rfl) rfl)
  (fun E W'=>E=rdE M n K∧(∃ A c,Boxed W' (w.heap.size+1+1+1) 31 (.slice A (rdX M n K).length c)∧BR W' W'.heap.size A (rdX M n K)∧∀ ad,A=some ad→w.heap.size+1+1+1+1≤ad.block)∧MemAt W' p gb mb G (rdM M n (hN M n) (hL M n) (rdX M n K).length (rdE M n K))∧Keeps (fun j=>j=p∨j=mb) w W')
  (fun W hm hk=>by
   have s0:=hk.size
   rw[World.size_alloc,World.size_alloc,World.size_alloc,World.size_alloc] at s0
   have y1:=(hk.block _ x1.lt (by omega)).trans x1
   have y2:=(hk.block _ x2.lt (by omega)).trans x2
   have y3:=(hk.block _ x3.lt (by omega)).trans x3
   have y4:=(hk.block _ x4.lt (by omega)).trans x4
   refine(zxc hm ho (zfr h.ml ho) n h1 h4 (hN M n) (hL M n) (hS M n) K (by omega) (by omega) hK hxl (.slice none 0 0) y1 y2 y3 y4 (by omega) (by omega) (by omega) (by omega)).mono ?_
   rintro e w' ⟨E,rfl,rfl,⟨A,c,b',r',n'⟩,m',k'⟩
   refine⟨_,rfl,rfl,⟨A,c,b',r',fun ad e=>Nat.le_trans s0 (n' ad e)⟩,m',?_⟩
   exact Keeps.thru (KW.out.trans hk) k' (fun j _ f=>f) (fun j hj f=>by rcases f with f | f | f;exact .inl f;exact .inr f;omega)))
 simp only[o1,o2,o3,o4] at HW
 clear_value o1 o2 o3 o4
 clear o1 o2 o3 o4 x1 x2 x3 x4 k0 KW h ho hO hob hpb hxl hlt
 generalize rdM M n (hN M n) (hL M n) (rdX M n K).length (rdE M n K)=M2 at *
 generalize rdX M n K=xs at *
 generalize rdE M n K=E0 at *
 go_enter Tryz.func20,Tryz.ntmps20
 go_wp2_with fail
 refine HW.out.mono ?_
 rintro e w1 ⟨E,rfl,rfl,⟨A,c,hb,hr,hn⟩,hm,hk⟩
 have hl:=LT.out
 have c1:=hb.cell
 have f1:=frozen_of_row _ _ 0 _ _ hb
 have HB:=zq (zd7 hb (.slice A xs.length c))
 have ks:=Keeps.setCell (fun j=>j=w.heap.size+1+1+1) w1 ⟨w.heap.size+1+1+1,0,none⟩ (.slice A xs.length c) rfl
 have HG:Hid (RdH w p gb mb G M2 xs E (.returned (.tuple #[.slice A xs.length c,.int .i64 E])) (w1.setCell ⟨w.heap.size+1+1+1,0,none⟩ (.slice A xs.length c))):=
  ⟨⟨A,c,rfl,zgp hr ks (fun _ ad e f=>by have:=hn ad e;omega),fun ad e=>by have:=hn ad e;omega⟩,hm.keep ks (by omega) (by omega) (by omega),Keeps.thru hk ks (fun _ _ f=>f) (fun i hi e=>by omega)⟩
 clear hb hr hn hm hk HW ks hl
 generalize xs.length=k at *
 go_wp2_with fail
 refine bodyPost_ret (v:=.tuple #[.slice A k c,.int .i64 E]) ?_ rfl HG.out
 exact zc1 rfl _ _ (w.heap.size+1+1+1) _ _ rfl rfl aggS HB.out.cell
end Hd
namespace Hd
open Go.RowKit Ex Ino Mm Fs
variable {M:List UInt8}
theorem zjf {A B:List UInt8} {a:Int} (h0:0≤a)(h:∀ i:Nat,a≤i→(i:Int)<a+8→A.getD i 0=B.getD i 0):cel A a=cel B a:=by
 unfold cel
 rw[zl7 (xs:=A) (ys:=B) (a:=a) (b:=a) 8 fun j hj=>by
  rw[zcl _ _ (by omega),zcl _ _ (by omega)]
  exact h _ (by omega) (by omega)]
theorem zlv {M:List UInt8} {a v:Int} {i:Nat} (ha:0≤a)(hi:i<M.length)(h:(i:Int)<a∨a+8≤i):(zgs M a v).getD i 0=M.getD i 0:=ycb M a _ i ha hi h
theorem zen (M:List UInt8)(h:Nat)(a b:Int):(zdb M h a b).length=M.length:=by unfold zdb;rw[ze3,ze3]
theorem zhx {h:Nat} (h1:1≤h)(h4:h≤4):64≤hA h∧hA h≤112:=by unfold hA;omega
theorem zg4 {M:List UInt8} {h:Nat} (h1:1≤h)(a b:Int){i:Nat} (hi:i<M.length)(hx:(i:Int)<hA h∨hA h+16≤i):(zdb M h a b).getD i 0=M.getD i 0:=by
 have:0≤hA h:=by unfold hA;omega
 unfold zdb
 rw[zlv (by omega) (by rw[ze3];exact hi) (by omega),zlv this hi (by omega)]
theorem yev {A B:List UInt8} (hl:A.length=B.length)(h:∀ i,i<A.length→A.getD i 0=B.getD i 0):A=B:=by
 refine List.ext_getElem hl fun i h1 h2=>?_
 have:=h i h1
 rwa [List.getD_eq_getElem?_getD,List.getD_eq_getElem?_getD,List.getElem?_eq_getElem h1,List.getElem?_eq_getElem h2] at this
theorem ziy (hm:M.length=8192){h:Nat} (h1:1≤h)(h4:h≤4)(a b:Int):zab (zdb M h a b)=zab M:=by
 have hb:=zhx h1 h4
 unfold zab
 refine yev (by simp[zen]) fun i hi=>?_
 rw[List.length_drop,zen] at hi
 have:=zg4 h1 a b (M:=M) (i:=6144+i) (by omega) (by omega)
 simp only[List.getD_eq_getElem?_getD,List.getElem?_drop] at this ⊢
 exact this
theorem zie (hm:M.length=8192){h:Nat} (h1:1≤h)(h4:h≤4)(a b:Int)(ha:-9223372036854775808≤a∧a≤9223372036854775807):hF (zdb M h a b) h=a:=by
 have hb:=zhx h1 h4
 unfold hF
 rw[zjf (B:=zgs M (hA h) a) (by omega) fun i h1 h2=>by unfold zdb;exact zlv (by omega) (by rw[ze3];omega) (by omega)]
 exact zvw M (hA h) a (by omega) (by omega) ha.1 ha.2
theorem zpf (hm:M.length=8192){h:Nat} (h1:1≤h)(h4:h≤4)(a b:Int)(ha:-9223372036854775808≤b∧b≤9223372036854775807):hP (zdb M h a b) h=b:=by
 have hb:=zhx h1 h4
 unfold hP zdb
 exact zvw _ (hA h+8) b (by omega) (by rw[ze3];omega) ha.1 ha.2
theorem ze4 (hm:M.length=8192){h k:Nat} (h1:1≤h)(k1:1≤k)(k4:k≤4)(hne:k≠h)(a b:Int):hF (zdb M h a b) k=hF M k:=by
 unfold hF
 have hb:=zhx k1 k4
 have:hA k+16≤hA h∨hA h+16≤hA k:=by unfold hA;omega
 exact zjf (by omega) fun i h2 h3=>zg4 h1 a b (by omega) (by omega)
theorem zk7 (hm:M.length=8192){h k:Nat} (h1:1≤h)(k1:1≤k)(k4:k≤4)(hne:k≠h)(a b:Int):hP (zdb M h a b) k=hP M k:=by
 unfold hP
 have hb:=zhx k1 k4
 have:hA k+16≤hA h∨hA h+16≤hA k:=by unfold hA;omega
 exact zjf (by omega) fun i h2 h3=>zg4 h1 a b (by omega) (by omega)
theorem zg5 (hm:M.length=8192){k:Nat} (k1:1≤k)(k4:k≤4)(xs:List UInt8):hF (zbx M 6144 xs) k=hF M k:=by
 unfold hF
 have hb:=zhx k1 k4
 exact zjf (by omega) fun i h2 h3=>by rw[zbs _ _ _ _ (by omega),zn (by omega)]
theorem hP_lay (hm:M.length=8192){k:Nat} (k1:1≤k)(k4:k≤4)(xs:List UInt8):hP (zbx M 6144 xs) k=hP M k:=by
 unfold hP
 have hb:=zhx k1 k4
 exact zjf (by omega) fun i h2 h3=>by rw[zbs _ _ _ _ (by omega),zn (by omega)]
end Hd
end Go.Proofs.YtdopfpcjpjlkmaaGreatDoor
