/- merged -/
import Derived.Test.YtefgabnmcfpdcaaGreatDoorGHg
set_option maxHeartbeats 4000000
set_option linter.unusedSimpArgs false
set_option linter.unusedVariables false
namespace Go.Proofs.YtefgabnmcfpdcaaGreatDoor
namespace Hd
open Go.RowKit Ex Ino Mm Fs Fr
noncomputable def ztk {α:Type} (M:List UInt8) (n:Int) (y:Nat→α) (z:α):α:=by classical exact if zfw M n then y n.toNat else z
theorem zcz {α:Type} {M:List UInt8} {k:Nat} (h:zfw M (k:Int))(y:Nat→α)(z:α):ztk M (k:Int) y z=y k:=by
 unfold ztk
 rw[if_pos h,Int.toNat_natCast]
theorem zdy {α:Type} {M:List UInt8} {n:Int} (h:¬zfw M n)(y:Nat→α)(z:α):ztk M n y z=z:=by
 unfold ztk
 rw[if_neg h]
variable {w:World} {p gb mb mi q b c d e:Nat} {G M:List UInt8}
def zq5 (Q:List UInt8→Value→Ending→World→Prop) (x:Int × List UInt8) (en:Ending) (w':World):Prop:=Q x.2 (.int .i64 x.1) en w'
def zmo (Q:List UInt8→Value→Ending→World→Prop) (x:Int × Int × List UInt8) (en:Ending) (w':World):Prop:=Q x.2.2 (.tuple #[.int .i64 x.1,.int .i64 x.2.1]) en w'
noncomputable def yfa (M:List UInt8) (n:Int):Int × List UInt8:=ztk M n (fun k=>(0,zd7 M k 0 0)) (noE M,M)
noncomputable def zo8 (M:List UInt8) (n s:Int):Int × List UInt8:=ztk M n (fun k=>((zah (zb1 M) (hN M k) s).1,zdk M (zah (zb1 M) (hN M k) s))) (noE M,M)
noncomputable def sekC (M:List UInt8) (n s:Int):Int × List UInt8:=ztk M n (fun k=>(if s<0∨hS M k<s then 1 else 0,if s<0∨hS M k<s then M else zd7 M k (hN M k+1) s)) (noE M,M)
noncomputable def sekD (M:List UInt8) (n s:Int):Int × List UInt8:=ztk M n (fun k=>(if s<0∨hS M k<s then 1 else 0,if s<0∨hS M k<s then M else zjc M (hA k+8) s)) (noE M,M)
noncomputable def wriC (M:List UInt8) (n:Int) (bb:List UInt8):Int × List UInt8:=ztk M n (fun k=>((wrV M k bb).1,wrM M k (hN M k) (hL M k) bb.length (wrV M k bb))) (noE M,M)
noncomputable def wriD (M:List UInt8) (n:Int) (bb:List UInt8):Int × List UInt8:=ztk M n (fun k=>((wrV M k bb).1,if (wrV M k bb).1=0 then zjc (zdk M (wrV M k bb)) (hA k+8) (hL M k+(bb.length:Int)) else M)) (noE M,M)
noncomputable def yeq (M:List UInt8) (n:Int):Int × Int × List UInt8:=ztk M n (fun k=>(hS M k,0,M)) (0,noE M,M)
noncomputable def yet (M:List UInt8) (n:Int):Int × Int × List UInt8:=ztk M n (fun k=>(hL M k,0,M)) (0,noE M,M)
noncomputable def reaC (M:List UInt8) (n K:Int):List UInt8 × Int × List UInt8:=ztk M n (fun k=>(rdX M k K,rdE M k K,rdM M k (hN M k) (hL M k) (rdX M k K).length (rdE M k K))) ([],noE M,M)
noncomputable def reaD (M:List UInt8) (n K:Int):List UInt8 × Int × List UInt8:=ztk M n (fun k=>(rdX M k K,rdE M k K,if rdE M k K=0 then zjc M (hA k+8) (hL M k+((rdX M k K).length:Int)) else M)) ([],noE M,M)
noncomputable def yes (M f t:List UInt8):Int × List UInt8:=by classical exact if okR (zab M) then ((zbe (zb1 M) f t).1,zdk M (zbe (zb1 M) f t)) else (120,M)
theorem zpa {P:Program} {f:FuncId} {a:Array Value} {Q:List UInt8→Value→Ending→World→Prop} {E:Int} {M':List UInt8} (h:Calls P f a w (Q M' (.int .i64 E))):Calls P f a w (zq5 Q (E,M')):=h
theorem zqk {P:Program} {f:FuncId} {a:Array Value} {Q:List UInt8→Value→Ending→World→Prop} {E F:Int} {M':List UInt8} (h:Calls P f a w (Q M' (.tuple #[.int .i64 E,.int .i64 F]))):Calls P f a w (zmo Q (E,F,M')):=h
theorem ygx (h:MemAt w p gb mb G M)(n:Int):Calls Tryz.prog 57 #[.pointer (some ⟨p,0,none⟩),.int .i64 n] w (zq5 (zbv w p gb mb G) (yfa M n)):=by
 unfold yfa
 by_cases hb:zfw M n
 ·obtain⟨k,rfl,h1,h4,hO⟩:=zcu hb
  rw[zcz hb];exact zpa (zwg h hb.1 k h1 h4 hO)
 ·rw[zdy hb];exact zpa (zzy h n hb)
theorem ygw (h:RefH w mi q b c d e M G)(n:Int):Calls Tryz.prog 58 #[.pointer (some ⟨q,0,none⟩),.int .i64 n] w (zq5 (zmp w mi q b d e G) (yfa M n)):=by
 unfold yfa
 by_cases hb:zfw M n
 ·obtain⟨k,rfl,h1,h4,hO⟩:=zcu hb
  rw[zcz hb];exact zpa (zmv h hb.1 k h1 h4 hO)
 ·rw[zdy hb];exact zpa ((zym h n hb).mono fun _ _ x=>zel h x)
theorem yb7 (h:MemAt w p gb mb G M)(hT:Tab w)(hmb:mb≠0)(hp:p≠0)(n s:Int):Calls Tryz.prog 62 #[.pointer (some ⟨p,0,none⟩),.int .i64 n,.int .i64 s] w (zq5 (zbv w p gb mb G) (zo8 M n s)):=by
 unfold zo8
 by_cases hb:zfw M n
 ·obtain⟨k,rfl,h1,h4,hO⟩:=zcu hb
  rw[zcz hb];exact zpa (zr3 h hb.1 hT hmb hp k h1 h4 hO s)
 ·rw[zdy hb];exact zpa (zwd h n s hb)
theorem yb6 (h:RefH w mi q b c d e M G)(n s:Int)(hs:-9223372036854775808≤s∧s≤9223372036854775807):Calls Tryz.prog 63 #[.pointer (some ⟨q,0,none⟩),.int .i64 n,.int .i64 s] w (zq5 (zmp w mi q b d e G) (zo8 M n s)):=by
 unfold zo8
 by_cases hb:zfw M n
 ·obtain⟨k,rfl,h1,h4,hO⟩:=zcu hb
  rw[zcz hb];exact zpa (zpn h hb.1 k h1 h4 hO s hs)
 ·rw[zdy hb];exact zpa ((zvh h n s hb).mono fun _ _ x=>zel h x)
theorem seek_c (h:MemAt w p gb mb G M)(n s:Int):Calls Tryz.prog 65 #[.pointer (some ⟨p,0,none⟩),.int .i64 n,.int .i64 s] w (zq5 (zbv w p gb mb G) (sekC M n s)):=by
 unfold sekC
 by_cases hb:zfw M n
 ·obtain⟨k,rfl,h1,h4,hO⟩:=zcu hb
  rw[zcz hb];exact zpa (zzu h hb.1 k h1 h4 hO s)
 ·rw[zdy hb];exact zpa (ydb h n s hb)
theorem seek_d (h:RefH w mi q b c d e M G)(n s:Int)(hs:-9223372036854775808≤s∧s≤9223372036854775807):Calls Tryz.prog 66 #[.pointer (some ⟨q,0,none⟩),.int .i64 n,.int .i64 s] w (zq5 (zmp w mi q b d e G) (sekD M n s)):=by
 unfold sekD
 by_cases hb:zfw M n
 ·obtain⟨k,rfl,h1,h4,hO⟩:=zcu hb
  rw[zcz hb];exact zpa (zx1 h hb.1 k h1 h4 hO s hs)
 ·rw[zdy hb];exact zpa ((yb3 h n s hb).mono fun _ _ x=>zel h x)
theorem yfi (h:MemAt w p gb mb G M)(hT:Tab w)(hmb:mb≠0)(hp:p≠0)(n:Int){A:Option Addr} {bb:List UInt8} (cb:Nat)(hb':BR w w.heap.size A bb)(hbl:bb.length≤140737488355328)(hA:bb≠[]→∀ ad,A=some ad→ad.block≠mb∧ad.block≠p):
  Calls Tryz.prog 24 #[.pointer (some ⟨p,0,none⟩),.int .i64 n,.slice A bb.length cb] w (zq5 (zbv w p gb mb G) (wriC M n bb)):=by
 unfold wriC
 by_cases hb:zfw M n
 ·obtain⟨k,rfl,h1,h4,hO⟩:=zcu hb
  rw[zcz hb];exact zpa (zm8 h hb.1 hT hmb hp k h1 h4 hO cb hb' hbl hA)
 ·rw[zdy hb];exact zpa (zzs h n A bb.length cb hb)
theorem yfh (h:RefH w mi q b c d e M G)(n:Int){A:Option Addr} {bb:List UInt8} {cb:Nat} (hb':BR w w.heap.size A bb)(hcb:bb.length≤cb)(hbl:bb.length≤140737488355328)(hA:bb≠[]→∀ ad,A=some ad→ad.block≠b):
  Calls Tryz.prog 60 #[.pointer (some ⟨q,0,none⟩),.int .i64 n,.slice A bb.length cb] w (zq5 (zmp w mi q b d e G) (wriD M n bb)):=by
 unfold wriD
 by_cases hb:zfw M n
 ·obtain⟨k,rfl,h1,h4,hO⟩:=zcu hb
  rw[zcz hb];exact zpa (zrf h hb.1 k h1 h4 hO hb' hcb hbl hA)
 ·rw[zdy hb];exact zpa ((zxx h n A bb.length cb hb).mono fun _ _ x=>zel h x)
theorem size_c (h:MemAt w p gb mb G M)(n:Int):Calls Tryz.prog 26 #[.pointer (some ⟨p,0,none⟩),.int .i64 n] w (zmo (zbv w p gb mb G) (yeq M n)):=by
 unfold yeq
 by_cases hb:zfw M n
 ·obtain⟨k,rfl,h1,h4,hO⟩:=zcu hb
  rw[zcz hb];exact zqk (zs8 h hb.1 k h1 h4 hO)
 ·rw[zdy hb];exact zqk (yda h n hb)
theorem size_d (h:RefH w mi q b c d e M G)(n:Int):Calls Tryz.prog 61 #[.pointer (some ⟨q,0,none⟩),.int .i64 n] w (zmo (zmp w mi q b d e G) (yeq M n)):=by
 unfold yeq
 by_cases hb:zfw M n
 ·obtain⟨k,rfl,h1,h4,hO⟩:=zcu hb
  rw[zcz hb];exact zqk ((zvl h hb.1 k h1 h4 hO).mono fun _ _ x=>zel h x)
 ·rw[zdy hb];exact zqk ((yb2 h n hb).mono fun _ _ x=>zel h x)
theorem yfx (h:MemAt w p gb mb G M)(n:Int):Calls Tryz.prog 28 #[.pointer (some ⟨p,0,none⟩),.int .i64 n] w (zmo (zbv w p gb mb G) (yet M n)):=by
 unfold yet
 by_cases hb:zfw M n
 ·obtain⟨k,rfl,h1,h4,hO⟩:=zcu hb
  rw[zcz hb];exact zqk (zjr h hb.1 k h1 h4 hO)
 ·rw[zdy hb];exact zqk (zzv h n hb)
theorem yfw (h:RefH w mi q b c d e M G)(n:Int):Calls Tryz.prog 64 #[.pointer (some ⟨q,0,none⟩),.int .i64 n] w (zmo (zmp w mi q b d e G) (yet M n)):=by
 unfold yet
 by_cases hb:zfw M n
 ·obtain⟨k,rfl,h1,h4,hO⟩:=zcu hb
  rw[zcz hb];exact zqk ((zvi h hb.1 k h1 h4 hO).mono fun _ _ x=>zel h x)
 ·rw[zdy hb];exact zqk ((zx3 h n hb).mono fun _ _ x=>zel h x)
def EndR (w:World) (p gb mb:Nat) (G:List UInt8) (x:List UInt8 × Int × List UInt8) (en:Ending) (w':World):Prop:=RdH w p gb mb G x.2.2 x.1 x.2.1 en w'
def EndS (w:World) (mi q b d e:Nat) (G:List UInt8) (x:List UInt8 × Int × List UInt8) (en:Ending) (w':World):Prop:=RdD w mi q b d e G x.2.2 x.1 x.2.1 en w'
theorem endR {P:Program} {f:FuncId} {a:Array Value} {E:Int} {xs M':List UInt8} (h:Calls P f a w (RdH w p gb mb G M' xs E)):Calls P f a w (EndR w p gb mb G (xs,E,M')):=h
theorem endS {P:Program} {f:FuncId} {a:Array Value} {E:Int} {xs M':List UInt8} (h:Calls P f a w (RdD w mi q b d e G M' xs E)):Calls P f a w (EndS w mi q b d e G (xs,E,M')):=h
theorem read_c (h:MemAt w p gb mb G M)(n K:Int)(hK:-9223372036854775808≤K∧K≤9223372036854775807):Calls Tryz.prog 25 #[.pointer (some ⟨p,0,none⟩),.int .i64 n,.int .i64 K] w (EndR w p gb mb G (reaC M n K)):=by
 unfold reaC
 by_cases hb:zfw M n
 ·obtain⟨k,rfl,h1,h4,hO⟩:=zcu hb
  rw[zcz hb];exact endR (zqe h hb.1 k h1 h4 hO K hK)
 ·rw[zdy hb];exact endR ((ydc h n hb K).mono fun en w' x=>⟨⟨none,0,x.1,BR.nil,fun _ e=>by cases e⟩,x.2.1,x.2.2⟩)
theorem read_d (h:RefH w mi q b c d e M G)(n K:Int)(hK:-9223372036854775808≤K∧K≤9223372036854775807):Calls Tryz.prog 59 #[.pointer (some ⟨q,0,none⟩),.int .i64 n,.int .i64 K] w (EndS w mi q b d e G (reaD M n K)):=by
 unfold reaD
 by_cases hb:zfw M n
 ·obtain⟨k,rfl,h1,h4,hO⟩:=zcu hb
  rw[zcz hb];exact endS (zvm h hb.1 k h1 h4 hO K hK)
 ·rw[zdy hb];exact endS ((yb4 h n K hb).mono fun en w' x=>⟨⟨none,0,x.1,BR.nil⟩,(zel h x).2⟩)
theorem wriE {P:Program} {f:FuncId} {a:Array Value} {rv:Int × RG} (h:Calls P f a w (zi7 w p gb mb G M rv)):Calls P f a w (zq5 (zbv w p gb mb G) (rv.1,zdk M rv)):=h
theorem wriF {P:Program} {f:FuncId} {a:Array Value} {rv:Int × RG} (h:Calls P f a w (zmk w mi q b c d e M G rv)):Calls P f a w (zq5 (zmp w mi q b d e G) (rv.1,zdk M rv)):=h.mono fun _ _ x=>⟨x.1,Dn.of x.2.1 x.2.2⟩
theorem yb9 (h:MemAt w p gb mb G M)(f t:List UInt8)(hf:f.length≤9223372036854775807)(ht:t.length≤9223372036854775807):Calls Tryz.prog 40 #[.pointer (some ⟨p,0,none⟩),St f,St t] w (zq5 (zbv w p gb mb G) (yes M f t)):=by
 unfold yes
 by_cases ho:okR (zab M)
 ·rw[if_pos ho];exact wriE (rv:=zbe (zb1 M) f t) (zr7 h ho f t hf ht)
 ·rw[if_neg ho];exact zpa ((zr6 (zcc h) ho f t).mono fun _ _ x=>⟨x.2.2,x.1,x.2.1.mono fun _ _ e=>.inr e⟩)
theorem yb8 (h:RefH w mi q b c d e M G)(f t:List UInt8)(hf:f.length≤9223372036854775807)(ht:t.length≤9223372036854775807):Calls Tryz.prog 41 #[.pointer (some ⟨q,0,none⟩),St f,St t] w (zq5 (zmp w mi q b d e G) (yes M f t)):=by
 unfold yes
 by_cases ho:okR (zab M)
 ·rw[if_pos ho];exact wriF (rv:=zbe (zb1 M) f t) (zrd h ho f t hf ht)
 ·rw[if_neg ho];exact zpa ((zrc h ho f t hf).mono fun _ _ x=>zel h x)
end Hd
namespace Hd
open Go.ChangeShapes Go.WideShapes Go.ChangeAt Go.RowKit Ex Ino Mm
theorem zqr:Tryz.prog.cellsOf 42=6:=by kernel_rfl
theorem ya5:Tryz.prog.bytesOf 42=80:=by kernel_rfl
structure HAct where
 do_:Int
 s1:List UInt8
 s2:List UInt8
 i3:Int
 i4:Int
 A:Option Addr
 xs:List UInt8
 c:Nat
def zeu (x:HAct):List Value:=[.int .i64 x.do_,St x.s1,St x.s2,.int .i64 x.i3,.int .i64 x.i4,.slice x.A x.xs.length x.c]
structure HAct.Ok (W:World) (x:HAct):Prop where
 do__w:-9223372036854775808≤x.do_∧x.do_≤9223372036854775807
 s1_w:x.s1.length≤9223372036854775807
 s2_w:x.s2.length≤9223372036854775807
 i3_w:-9223372036854775808≤x.i3∧x.i3≤9223372036854775807
 i4_w:-9223372036854775808≤x.i4∧x.i4≤9223372036854775807
 br:BR W W.heap.size x.A x.xs
 cap:x.xs.length≤x.c
theorem zka {H:Type} {P:Program} {e:TypeId}:∀ {l:List (DataW H)} {d:DataW H},d∈l→∀ n∈d.weights P e,n∈DataW.weightsAll P e l
 | [],_,h,_,_=>by cases h
 | x::r,d,h,n,hn=>by
  unfold DataW.weightsAll
  rcases List.mem_cons.1 h with rfl | h
  ·exact List.mem_append_left _ hn
  ·exact List.mem_append_right _ (zka h n hn)
variable {H:Type} {enc:TypeId × Value→H} {W:World}
set_option maxRecDepth 100000 in
theorem zzt {fuel:Nat} {c:Value} {x:DataW H × List MemPlace} (h:DataW.trod enc Tryz.prog W 0 (fun _=>true) true fuel 31 [c]=some x):∃ A xs cap,c=.slice A (xs:List UInt8).length cap∧xs.length≤cap∧BR W W.heap.size A xs ∧
  ∀ (ts:List TypeId) (ds:List (DataW H)) (j:Nat),(DataW.weightsEach Tryz.prog ts ds).all (·≤reachBytes)=true→ts[j]?=some 31→ds[j]?=some x.1→xs.length≤140737488351232:=by
 rcases DataW.trod_slice Tryz.underlying31 h with⟨e,_⟩|⟨a,len,cap,_,_,_,_,e,_,_,hl,_⟩
 ·cases e
  exact⟨none,[],0,rfl,Nat.le_refl _,BR.nil,fun _ _ _ _ _ _=>by simp⟩
 ·cases e
  obtain⟨xs,rfl,hb,hs⟩:=zur (H:=H) (enc:=enc) (W:=W) (a:=some a) (cap:=cap) (d:=x.1) (p:=x.2) ⟨fuel,h⟩
  exact⟨some a,xs,cap,rfl,hl,hb,hs⟩
set_option maxRecDepth 100000 in
theorem zwi {fuel:Nat} {cs:List Value} {x:DataW H × List MemPlace} (h:DataW.trod enc Tryz.prog W 0 (fun _=>true) true fuel 42 cs=some x):
  ∃ a:HAct,cs=zeu a∧a.Ok W∧((∀ n∈x.1.weights Tryz.prog 42,n≤reachBytes)→a.xs.length≤140737488351232):=by
 obtain⟨xs,n,_,hx,hl,hlen,hg⟩:=DataW.trod_struct Tryz.underlying42 h
 rw[zqr] at hl
 match cs,hl with
 | [c0,c1,c2,c3,c4,c5],_ =>
  match xs,hlen with
  | [y0,y1,y2,y3,y4,y5],_ =>
   have g0:=hg 0 _ rfl
   have g1:=hg 1 _ rfl
   have g2:=hg 2 _ rfl
   have g3:=hg 3 _ rfl
   have g4:=hg 4 _ rfl
   have g5:=hg 5 _ rfl
   obtain⟨a0,e0,_,w0⟩:=DataW.trod_int Tryz.underlying3 g0
   cases e0
   obtain⟨t1,e1,_,w1⟩:=DataW.trod_string Tryz.underlying9 g1
   cases e1
   obtain⟨a1,rfl,l1⟩:=Ino.text_of t1
   obtain⟨t2,e2,_,w2⟩:=DataW.trod_string Tryz.underlying9 g2
   cases e2
   obtain⟨a2,rfl,l2⟩:=Ino.text_of t2
   obtain⟨a3,e3,_,w3⟩:=DataW.trod_int Tryz.underlying3 g3
   cases e3
   obtain⟨a4,e4,_,w4⟩:=DataW.trod_int Tryz.underlying3 g4
   cases e4
   obtain⟨A,ys,cap,rfl,hc,hb,hs⟩:=zzt g5
   refine⟨⟨a0,a1,a2,a3,a4,A,ys,cap⟩,rfl,⟨zl0 w0,(by show a1.length≤_;unfold maxLen at w1;omega),(by show a2.length≤_;unfold maxLen at w2;omega),zl0 w3,zl0 w4,hb,hc⟩,fun hw=>?_⟩
   refine hs [3,9,9,3,3,31] [y0.1,y1.1,y2.1,y3.1,y4.1,y5.1] 5 (List.all_eq_true.2 fun m hm=>?_) rfl rfl
   have:x.1=.agg [y0.1,y1.1,y2.1,y3.1,y4.1,y5.1]:=by rw[hx];rfl
   rw[this] at hw
   unfold DataW.weights at hw
   rw[Tryz.underlying42] at hw
   simpa using hw m hm
def HActR (w:World) (B:Nat) (A:Option Addr) (l:List HAct):Prop:=
 l≠[]→∃ ad,A=some ad∧ad.block<B∧∀ k a,l[k]?=some a→∀ j v,(zeu a)[j]?=some v→w.cell? ((ad.add (k*6)).add j)=some v
theorem HActR.below {w w':World} {B:Nat} {A:Option Addr} {l:List HAct} (h:HActR w B A l)(hb:Below B w w'):HActR w' B A l:=by
 intro hn
 obtain⟨ad,e,hlt,hc⟩:=h hn
 exact⟨ad,e,hlt,fun k a ha j v hv=>(hb.cell (by rw[zan,zan];exact hlt)).trans (hc k a ha j v hv)⟩
theorem HActR.nil {w:World} {B:Nat} {A:Option Addr}:HActR w B A []:=fun h=>absurd rfl h
theorem HActR.at_ {w:World} {B:Nat} {A:Option Addr} {l:List HAct} (h:HActR w B A l){k:Nat} (hk:k<l.length):
  ∃ ad,A=some ad∧ad.block<B∧w.cell? (ad.add (k*6))=some (.int .i64 l[k].do_)∧w.cell? ⟨(ad.add (k*6)).block,(ad.add (k*6)).off+1,none⟩=some (St l[k].s1)∧w.cell? ⟨(ad.add (k*6)).block,(ad.add (k*6)).off+2,none⟩=some (St l[k].s2)∧w.cell? ⟨(ad.add (k*6)).block,(ad.add (k*6)).off+3,none⟩=some (.int .i64 l[k].i3)∧w.cell? ⟨(ad.add (k*6)).block,(ad.add (k*6)).off+4,none⟩=some (.int .i64 l[k].i4)∧w.cell? ⟨(ad.add (k*6)).block,(ad.add (k*6)).off+5,none⟩=some (.slice l[k].A l[k].xs.length l[k].c):=by
 obtain⟨ad,e,hb,hc⟩:=h (by intro e;subst e;simp at hk)
 have H:=hc k l[k] (List.getElem?_eq_getElem hk)
 exact⟨ad,e,hb,H 0 _ rfl,H 1 _ rfl,H 2 _ rfl,H 3 _ rfl,H 4 _ rfl,H 5 _ rfl⟩
structure HActsOk (W:World) (A:Option Addr) (l:List HAct):Prop where
 ar:HActR W W.heap.size A l
 ok:∀ a∈l,a.Ok W
theorem ydg {a:Option Addr} {len cap:Nat} {d:DataW H} {p:List MemPlace} (h:DataW.Trod enc Tryz.prog W 0 (fun _=>true) true 39 (.slice a len cap) d p):
  ∃ l:List HAct,l.length=len∧HActsOk W a l∧∀ (ts:List TypeId) (ds:List (DataW H)) (j:Nat),(DataW.weightsEach Tryz.prog ts ds).all (·≤reachBytes)=true→ts[j]?=some 39→ds[j]?=some d→len≤1759218604441∧∀ a∈l,a.xs.length≤140737488351232:=by
 obtain⟨fuel,hf⟩:=h
 rcases Go.Deep.open_slice Tryz.underlying39 hf with⟨e,_⟩|⟨ad,len',cap',m,n,D,Pl,e,_,hlc,hcm,hm,hx,hi⟩
 ·simp[Value.cells] at e
  obtain⟨rfl,rfl,rfl⟩:=e
  exact⟨[],rfl,⟨HActR.nil,(fun a ha=>by cases ha)⟩,fun _ _ _ _ _ _=>⟨by omega,fun a ha=>by cases ha⟩⟩
 ·simp[Value.cells] at e
  obtain⟨rfl,rfl,rfl⟩:=e
  rw[if_pos rfl] at hm
  subst hm
  have hf:∀ i,∃ x:HAct,i<len→(∀ j v,(zeu x)[j]?=some v→W.cell? ((ad.add (i*6)).add j)=some v)∧x.Ok W∧((∀ n∈(D i).weights Tryz.prog 42,n≤reachBytes)→x.xs.length≤140737488351232):=by
   intro i
   by_cases hl:i<len
   ·obtain⟨cs',hc,ht⟩:=hi i (by omega)
    rw[zqr] at hc
    obtain⟨x,rfl,hx,hw⟩:=zwi ht
    obtain⟨_,_,hat⟩:=World.cells?_some hc
    refine⟨x,fun _=>⟨fun j v hv=>?_,hx,hw⟩⟩
    have hj:j<6:=by
     have:=(List.getElem?_eq_some_iff.1 hv).1
     simpa [zeu] using this
    exact(hat j hj).trans hv
   ·exact⟨⟨0,[],[],0,0,none,[],0⟩,fun h=>absurd h hl⟩
  obtain⟨f,hf⟩:=Classical.skolem.1 hf
  refine⟨(List.range len).map f,by simp,⟨?_,?_⟩,?_⟩
  ·intro hne
   have h0:0<len:=by
    rcases Nat.eq_zero_or_pos len with e | e
    ·subst e;simp at hne
    ·exact e
   refine⟨ad,rfl,?_,fun k x hx=>?_⟩
   ·have:=World.block_lt_of_cell? _ _ ((hf 0 h0).1 0 _ rfl)
    rwa [zan,zan] at this
   ·have hk:k<len∧f k=x:=by
     simp only[List.getElem?_map,Option.map_eq_some_iff] at hx
     obtain⟨j,hj,rfl⟩:=hx
     obtain⟨h1,h2⟩:=List.getElem?_eq_some_iff.1 hj
     simp at h1 h2
     exact⟨h1,by rw[h2]⟩
    obtain⟨hk,rfl⟩:=hk
    exact(hf k hk).1
  ·intro x hx
   simp only[List.mem_map,List.mem_range] at hx
   obtain⟨i,hi',rfl⟩:=hx
   exact(hf i hi').2.1
  ·intro ts ds j hs ht hd
   simp only[Prod.mk.injEq] at hx
   rw[hx.1] at hd
   have hsz:=sized_slice hs ht hd Tryz.underlying39
   rw[ya5] at hsz
   simp only[List.length_map,List.length_range,reachBytes] at hsz
   refine⟨by omega,fun x hx'=>?_⟩
   simp only[List.mem_map,List.mem_range] at hx'
   obtain⟨i,hi',rfl⟩:=hx'
   refine(hf i hi').2.2 fun m hm=>?_
   have hmem:=DataW.weights_mem_each ht hd m (by
    unfold DataW.weights
    rw[Tryz.underlying39]
    exact List.mem_cons_of_mem _ (List.mem_append_left _ (zka (List.mem_map.2 ⟨i,List.mem_range.2 hi',rfl⟩) m hm)))
   have:=List.all_eq_true.1 hs m hmem
   simpa using this
end Hd
namespace Hd
open Go.RowKit Ex Ino Mm Fs Fr
structure TwoB (lo:Nat) (w:World) (p gb mb mi q b c d e:Nat) (G Gd M R:List UInt8) (W:World):Prop where
 mem:MemAt W p gb mb G M
 ref:RefH W mi q b c d e R Gd
 tab:Tab W
 sep:p<mi∧gb<mi∧mb<mi∧lo≤p∧lo≤mb∧0<lo
 kp:Keeps (fun k=>lo≤k) w W
def TwoH (lo:Nat) (w:World) (p gb mb mi q d e:Nat) (G Gd M R:List UInt8) (W:World):Prop:=∃ b c,TwoB lo w p gb mb mi q b c d e G Gd M R W
variable {lo:Nat} {w W:World} {p gb mb mi q b c d e:Nat} {G Gd M R M' R':List UInt8}
theorem TwoB.bs (h:TwoB lo w p gb mb mi q b c d e G Gd M R W):mi≤q∧mi≤b∧mi≤d∧p<W.heap.size∧mb<W.heap.size∧b<W.heap.size∧q<W.heap.size:=⟨h.ref.q0,h.ref.now.lt'.1,h.ref.was.lt'.1,h.mem.lt.1,h.mem.lt.2.2,h.ref.lt.2.1,h.ref.lt.1⟩
theorem TwoB.new {W':World} (h:TwoB lo w p gb mb mi q b c d e G Gd M R W)(k:Keeps (fun _=>False) W W'):TwoB lo w p gb mb mi q b c d e G Gd M R W':=
 ⟨h.mem.keep k (fun f=>f) (fun f=>f) (fun f=>f),h.ref.keep k fun _ _ _ f=>f,h.tab.keep (k.block 0 h.tab.pos (fun f=>f)),h.sep,h.kp.trans (k.mono fun _ _ f=>f.elim)⟩
theorem TwoB.both {W' W'':World} (h:TwoB lo w p gb mb mi q b c d e G Gd M R W)(m1:MemAt W' p gb mb G M')(k1:Keeps (fun k=>k=p∨k=mb) W W')(dn:Dn W' mi q b d e Gd R' W''):TwoH lo w p gb mb mi q d e G Gd M' R' W'':=by
 have hb:=h.bs
 have hs:=h.sep
 obtain⟨⟨b',c',hn,r2⟩,k2⟩:=dn
 refine⟨b',c',m1.keep k2 (by omega) (by omega) (by omega),r2,?_,hs,(h.kp.trans (k1.mono fun i _ e=>by rcases e with e | e<;>omega)).trans (k2.mono fun i _ e=>by rcases e with e | e<;>omega)⟩
 exact(h.tab.keep (k1.block 0 h.tab.pos (by omega))).keep (k2.block 0 (Nat.lt_of_lt_of_le h.tab.pos k1.size) (by omega))
theorem TwoB.mid {W':World} (h:TwoB lo w p gb mb mi q b c d e G Gd M R W)(k1:Keeps (fun k=>k=p∨k=mb) W W'):RefH W' mi q b c d e R Gd:=by
 have hb:=h.bs
 have hs:=h.sep
 exact Fr.RefH.keep3 h.ref k1 (by omega) (by omega) (by omega)
def BoxH (W:World) (B:Nat) (a:HAct):Prop:=W.heap[B]?=some (.cells (zeu a).toArray 42 (0,0))
theorem BoxH.lt {B:Nat} {a:HAct} (h:BoxH W B a):B<W.heap.size:=(Array.getElem?_eq_some_iff.1 h).1
theorem BoxH.cs {B:Nat} {a:HAct} (h:BoxH W B a):W.cell? ⟨B,0,none⟩=some (.int .i64 a.do_)∧W.cell? ⟨B,1,none⟩=some (St a.s1)∧W.cell? ⟨B,2,none⟩=some (St a.s2)∧W.cell? ⟨B,3,none⟩=some (.int .i64 a.i3)∧W.cell? ⟨B,4,none⟩=some (.int .i64 a.i4)∧W.cell? ⟨B,5,none⟩=some (.slice a.A a.xs.length a.c):=by
 refine⟨?_,?_,?_,?_,?_,?_⟩<;>rw[cell_of_row _ _ _ _ _ _ h]<;>rfl
theorem BoxH.keep {F:Nat→Prop} {W':World} {B:Nat} {a:HAct} (h:BoxH W B a)(k:Keeps F W W')(hF:¬F B):BoxH W' B a:=(k.block B h.lt hF).trans h
theorem aggB9 (w:World):(isAgg 31).run Tryz.prog w=.ok false w:=by unfold isAgg;rw[Sem.run_bind,run_underlying Tryz.underlying31 w];rfl
def QI (x y:Int × List UInt8) (M' R':List UInt8) (β:Bool):Prop:=(x.1=y.1→β=true)∧M'=x.2∧R'=y.2
def QII (x y:Int × Int × List UInt8) (M' R':List UInt8) (β:Bool):Prop:=(x.1=y.1→x.2.1=y.2.1→β=true)∧M'=x.2.2∧R'=y.2.2
def QR (x y:List UInt8 × Int × List UInt8) (M' R':List UInt8) (β:Bool):Prop:=(x.1=y.1→x.2.1=y.2.1→β=true)∧M'=x.2.2∧R'=y.2.2
theorem qI {x y:Int × List UInt8} {a b:Int} {β:Bool} (hx:x=(a,M'))(hy:y=(b,R'))(h:a=b→β=true):QI x y M' R' β:=by subst hx;subst hy;exact⟨h,rfl,rfl⟩
theorem qII {x y:Int × Int × List UInt8} {a b a' b':Int} {β:Bool} (hx:x=(a,a',M'))(hy:y=(b,b',R'))(h:a=b→a'=b'→β=true):QII x y M' R' β:=by subst hx;subst hy;exact⟨h,rfl,rfl⟩
theorem qR {x y:List UInt8 × Int × List UInt8} {a b:List UInt8} {a' b':Int} {β:Bool} (hx:x=(a,a',M'))(hy:y=(b,b',R'))(h:a=b→a'=b'→β=true):QR x y M' R' β:=by subst hx;subst hy;exact⟨h,rfl,rfl⟩
theorem zxh {P:Program} {f:FuncId} {a:Array Value} {Q:List UInt8→Value→Ending→World→Prop} {E:Int} (h:Calls P f a W (zq5 Q (E,M'))):Calls P f a W (Q M' (.int .i64 E)):=h
theorem zp1 {P:Program} {f:FuncId} {a:Array Value} {Q:List UInt8→Value→Ending→World→Prop} {E F:Int} (h:Calls P f a W (zmo Q (E,F,M'))):Calls P f a W (Q M' (.tuple #[.int .i64 E,.int .i64 F])):=h
theorem outR {P:Program} {f:FuncId} {a:Array Value} {E:Int} {xs:List UInt8} (h:Calls P f a W (EndR W p gb mb G (xs,E,M'))):Calls P f a W (RdH W p gb mb G M' xs E):=h
theorem outS {P:Program} {f:FuncId} {a:Array Value} {E:Int} {xs:List UInt8} (h:Calls P f a W (EndS W mi q b d e G (xs,E,M'))):Calls P f a W (RdD W mi q b d e G M' xs E):=h
theorem zw7 (h:MemAt W p gb mb G M)(hT:Tab W)(hmb:mb≠0)(hp:p≠0)(name:List UInt8)(hn:name.length≤9223372036854775807):Calls Tryz.prog 22 #[.pointer (some ⟨p,0,none⟩),St name] W (zmo (zbv W p gb mb G) (ye9 M name)):=by
 have:=zqs h hT hmb hp name hn
 generalize ye9 M name=x at *
 exact this
theorem ygv (h:MemAt W p gb mb G M)(name:List UInt8)(hn:name.length≤9223372036854775807):Calls Tryz.prog 23 #[.pointer (some ⟨p,0,none⟩),St name] W (zmo (zbv W p gb mb G) (zm0 M name)):=by
 have:=zqo h name hn
 generalize zm0 M name=x at *
 exact this
theorem ya1 (h:MemAt W p gb mb G M)(name:List UInt8)(hn:name.length≤9223372036854775807):Calls Tryz.prog 67 #[.pointer (some ⟨p,0,none⟩),St name] W (zq5 (zbv W p gb mb G) (ygs M name)):=by
 have:=zsl h name hn
 generalize ygs M name=x at *
 exact this
theorem zvu (h:RefH W mi q b c d e M Gd)(name:List UInt8)(hn:name.length≤9223372036854775807):Calls Tryz.prog 55 #[.pointer (some ⟨q,0,none⟩),St name] W (zmo (zmp W mi q b d e Gd) (ye8 M name)):=by
 have:=zpu h name hn
 generalize ye8 M name=x at *
 exact this
theorem yfq (h:RefH W mi q b c d e M Gd)(name:List UInt8)(hn:name.length≤9223372036854775807):Calls Tryz.prog 56 #[.pointer (some ⟨q,0,none⟩),St name] W (zmo (zmp W mi q b d e Gd) (zm0 M name)):=by
 have:=zvk h name hn
 generalize zm0 M name=x at *
 exact this
theorem zyj (h:RefH W mi q b c d e M Gd)(name:List UInt8)(hn:name.length≤9223372036854775807):Calls Tryz.prog 68 #[.pointer (some ⟨q,0,none⟩),St name] W (zq5 (zmp W mi q b d e Gd) (ygr M name)):=by
 have:=zpt h name hn
 generalize ygr M name=x at *
 exact this
def ActQ (a:HAct) (M R M' R':List UInt8) (β:Bool):Prop:=
 (a.do_=0∧QII (ye9 M a.s1) (ye8 R a.s1) M' R' β)∨(a.do_=1∧QII (zm0 M a.s1) (zm0 R a.s1) M' R' β)∨(a.do_=2∧QI (yfa M a.i3) (yfa R a.i3) M' R' β) ∨
 (a.do_=3∧QR (reaC M a.i3 a.i4) (reaD R a.i3 a.i4) M' R' β)∨(a.do_=4∧QI (wriC M a.i3 a.xs) (wriD R a.i3 a.xs) M' R' β)∨(a.do_=5∧QII (yeq M a.i3) (yeq R a.i3) M' R' β) ∨
 (a.do_=6∧QI (zo8 M a.i3 a.i4) (zo8 R a.i3 a.i4) M' R' β)∨(a.do_=7∧QII (yet M a.i3) (yet R a.i3) M' R' β)∨(a.do_=8∧QI (sekC M a.i3 a.i4) (sekD R a.i3 a.i4) M' R' β) ∨
 (a.do_=9∧QI (ygs M a.s1) (ygr R a.s1) M' R' β)∨QI (yes M a.s1 a.s2) (yes R a.s1 a.s2) M' R' β
def zet (lo:Nat) (w:World) (p gb mb mi q d e:Nat) (G Gd M R:List UInt8) (a:HAct) (en:Ending) (W':World):Prop:=∃ β M' R',en=.returned (.bool β)∧TwoH lo w p gb mb mi q d e G Gd M' R' W'∧ActQ a M R M' R' β
set_option maxRecDepth 100000 in
theorem ydh (h:TwoH lo w p gb mb mi q d e G Gd M R W)(hmb:mb≠0)(hp:p≠0)(a:HAct)(ha:a.Ok W)(hxl:a.xs.length≤140737488355328)(hlow:a.xs≠[]→∀ ad,a.A=some ad→ad.block<lo):
  Calls Tryz.prog 19 #[.pointer (some ⟨p,0,none⟩),.pointer (some ⟨q,0,none⟩),.agg (zeu a).toArray] W (zet lo w p gb mb mi q d e G Gd M R a):=by
 obtain⟨b,c,h⟩:=h
 have hbx:BoxH (W.alloc (.cells (zeu a).toArray 42)) W.heap.size a:=World.alloc_heap_new _ _
 have ka:Keeps (fun _=>False) W (W.alloc (.cells (zeu a).toArray 42)):=Keeps.alloc _ _ _
 have h1:=h.new ka
 have hbs:=h.bs
 have hsep:=h.sep
 have hbr:=ka.br ha.br fun _ _ _ f=>f
 obtain⟨c0,c1,c2,c3,c4,c5⟩:=hbx.cs
 have hB:W.heap.size≠p∧W.heap.size≠mb∧W.heap.size≠b∧W.heap.size≠q:=by omega
 have HW:=hq (show W.alloc (.cells #[.int .i64 a.do_,St a.s1,St a.s2,.int .i64 a.i3,.int .i64 a.i4,.slice a.A a.xs.length a.c] 42)=W.alloc (.cells (zeu a).toArray 42) from rfl)
 generalize hwa:W.alloc (.cells (zeu a).toArray 42)=wa at *
 have H1:=hq h1
 have HBX:=hq hbx
 have HA:=hq ha
 have HBR:=hq hbr
 have HLOW:=hq hlow
 clear h h1 hbx ka ha hbr hlow hwa
 show Calls _ _ #[_,_,.agg #[.int .i64 a.do_,St a.s1,St a.s2,.int .i64 a.i3,.int .i64 a.i4,.slice a.A a.xs.length a.c]] W _
 go_enter Tryz.func19,Tryz.ntmps19
 obtain⟨dd,s1,s2,i3,i4,A,xs,cc⟩:=a
 simp only at c0 c1 c2 c3 c4 c5 HW hxl
 by_cases x0:dd=0
 ·subst x0
  have t0:((0:Int)==0)=true:=rfl
  obtain⟨n,v,M2,hx⟩:∃ n v X,ye9 M s1=(n,v,X):=⟨_,_,_,rfl⟩
  obtain⟨n',v',R2,hy⟩:∃ n v X,ye8 R s1=(n,v,X):=⟨_,_,_,rfl⟩
  have hc:=zw7 H1.out.mem H1.out.tab hmb hp s1 HA.out.s1_w
  rw[hx] at hc
  have HC:=hq (zp1 hc)
  have HX:=hq (And.intro hx hy)
  clear hc hx hy
  go_wp2_with fail
  rw[HW.out]
  refine HC.out.mono ?_
  rintro en w1 ⟨rfl,m1,k1⟩
  have r1:=H1.out.mid k1
  have hb1:=HBX.out.keep k1 (by omega)
  obtain⟨d0,d1,d2,d3,d4,d5⟩:=hb1.cs
  simp only at d0 d1 d2 d3 d4 d5
  have hd:=zvu r1 s1 HA.out.s1_w
  rw[HX.out.2] at hd
  have HD1:=hq (zp1 hd)
  have HCO:=hq (And.intro m1 k1)
  clear c0 c1 c2 c3 c4 c5 m1 k1 r1 hb1 HC HW hd
  go_wp2_with fail
  refine HD1.out.mono ?_
  rintro en w2 ⟨rfl,dn⟩
  have HT:=hq (H1.out.both HCO.out.1 HCO.out.2 dn)
  clear dn HD1 HCO
  by_cases hn:n=n'
  ·subst hn
   have HG:Hid (zet lo w p gb mb mi q d e G Gd M R (⟨0,s1,s2,i3,i4,A,xs,cc⟩:HAct) (.returned (.bool (v==v'))) w2):=⟨_,M2,R2,rfl,HT.out,Or.inl ⟨rfl,qII HX.out.1 HX.out.2 fun _ e=>by rw[e];simp⟩⟩
   have s1':(n==n)=true:=by simp
   go_wp2_with fail
   go_ret
   exact HG.out
  ·have HG:Hid (zet lo w p gb mb mi q d e G Gd M R (⟨0,s1,s2,i3,i4,A,xs,cc⟩:HAct) (.returned (.bool false)) w2):=⟨_,M2,R2,rfl,HT.out,Or.inl ⟨rfl,qII HX.out.1 HX.out.2 fun e _=>absurd e hn⟩⟩
   have s1':(n==n')=false:=by simpa using hn
   go_wp2_with fail
   go_ret
   exact HG.out
 by_cases x1:dd=1
 ·subst x1
  have t0:((1:Int)==0)=false:=rfl
  have t1:((1:Int)==1)=true:=rfl
  obtain⟨n,v,M2,hx⟩:∃ n v X,zm0 M s1=(n,v,X):=⟨_,_,_,rfl⟩
  obtain⟨n',v',R2,hy⟩:∃ n v X,zm0 R s1=(n,v,X):=⟨_,_,_,rfl⟩
  have hc:=ygv H1.out.mem s1 HA.out.s1_w
  rw[hx] at hc
  have HC:=hq (zp1 hc)
  have HX:=hq (And.intro hx hy)
  clear hc hx hy
  go_wp2_with fail
  rw[HW.out]
  refine HC.out.mono ?_
  rintro en w1 ⟨rfl,m1,k1⟩
  have r1:=H1.out.mid k1
  have hb1:=HBX.out.keep k1 (by omega)
  obtain⟨d0,d1,d2,d3,d4,d5⟩:=hb1.cs
  simp only at d0 d1 d2 d3 d4 d5
  have hd:=yfq r1 s1 HA.out.s1_w
  rw[HX.out.2] at hd
  have HD1:=hq (zp1 hd)
  have HCO:=hq (And.intro m1 k1)
  clear c0 c1 c2 c3 c4 c5 m1 k1 r1 hb1 HC HW hd
  go_wp2_with fail
  refine HD1.out.mono ?_
  rintro en w2 ⟨rfl,dn⟩
  have HT:=hq (H1.out.both HCO.out.1 HCO.out.2 dn)
  clear dn HD1 HCO
  by_cases hn:n=n'
  ·subst hn
   have HG:Hid (zet lo w p gb mb mi q d e G Gd M R (⟨1,s1,s2,i3,i4,A,xs,cc⟩:HAct) (.returned (.bool (v==v'))) w2):=⟨_,M2,R2,rfl,HT.out,Or.inr (Or.inl ⟨rfl,qII HX.out.1 HX.out.2 fun _ e=>by rw[e];simp⟩)⟩
   have s1':(n==n)=true:=by simp
   go_wp2_with fail
   go_ret
   exact HG.out
  ·have HG:Hid (zet lo w p gb mb mi q d e G Gd M R (⟨1,s1,s2,i3,i4,A,xs,cc⟩:HAct) (.returned (.bool false)) w2):=⟨_,M2,R2,rfl,HT.out,Or.inr (Or.inl ⟨rfl,qII HX.out.1 HX.out.2 fun e _=>absurd e hn⟩)⟩
   have s1':(n==n')=false:=by simpa using hn
   go_wp2_with fail
   go_ret
   exact HG.out
 by_cases x2:dd=2
 ·subst x2
  have t0:((2:Int)==0)=false:=rfl
  have t1:((2:Int)==1)=false:=rfl
  have t2:((2:Int)==2)=true:=rfl
  go_wp2_with fail
  refine wp_region_held (S:=fun W'=>BoxH W' W.heap.size (⟨2,s1,s2,i3,i4,A,xs,cc⟩:HAct)) (by kernel_rfl) ?_
  change wpAnyH _ _ _ _ _ _ _ _ (W.alloc (.cells #[.int .i64 2,St s1,St s2,.int .i64 i3,.int .i64 i4,.slice A xs.length cc] 42)).drew
  rw[HW.out]
  have kd:Keeps (fun _=>False) wa wa.drew:=zac ((Below.refl _ _).drew)
  have hS:=HBX.out.keep kd (fun f=>f)
  have H2:=H1.out.new kd
  have hbr2:=kd.br HBR.out fun _ _ _ f=>f
  generalize wa.drew=wd at *
  obtain⟨vc,M2,hx⟩:∃ v X,yfa M i3=(v,X):=⟨_,_,rfl⟩
  obtain⟨vd,R2,hy⟩:∃ v X,yfa R i3=(v,X):=⟨_,_,rfl⟩
  have hc:=ygx H2.mem i3
  rw[hx] at hc
  replace hc:=zxh hc
  refine sqH 0 (.pointer (some ⟨p,0,none⟩)) rfl (Or.inl ⟨by rfl,fun _ _=>rfl⟩) hS ?_
  try simp only[Act.put,sqX]
  refine sqH 1 (.pointer (some ⟨W.heap.size,3,none⟩)) rfl (Or.inl ⟨by rfl,fun _ _=>by go_simp⟩) hS ?_
  try simp only[Act.put,sqX]
  refine sqH 2 (.int .i64 i3) rfl (zag rfl 3 (.tmp 80) rfl _ _ rfl fun w h=>zal zdh h.cs.2.2.2.1) hS ?_
  try simp only[Act.put,sqX]
  refine sqH 4 (.pointer (some ⟨q,0,none⟩)) rfl (Or.inl ⟨by rfl,fun _ _=>rfl⟩) hS ?_
  try simp only[Act.put,sqX]
  refine sqH 5 (.pointer (some ⟨W.heap.size,3,none⟩)) rfl (Or.inl ⟨by rfl,fun _ _=>by go_simp⟩) hS ?_
  try simp only[Act.put,sqX]
  refine sqH 6 (.int .i64 i3) rfl (zag rfl 3 (.tmp 84) rfl _ _ rfl fun w h=>zal zdh h.cs.2.2.2.1) hS ?_
  try simp only[Act.put,sqX]
  refine wpAnyH_all (rs:=[3]) (by kernel_rfl) (by simp) fun i hi=>?_
  obtain rfl:i=3:=by simpa using hi
  refine zbc (om:=⟨_,_,_,_,_,_⟩) (fn:=57) (args:=#[.pointer (some ⟨p,0,none⟩),.int .i64 i3]) (R:=fun u W'=>u=.int .i64 vc∧MemAt W' p gb mb G M2∧Keeps (fun k=>k=p∨k=mb) wd W') rfl rfl (by go_simp)
   (hc.mono fun en W' ⟨he,m,k⟩=>⟨_,he,rfl,m,k⟩) _ _ rfl rfl ?_
  rintro u w1 ⟨rfl,m1,k1⟩
  have hS:BoxH w1 W.heap.size (⟨2,s1,s2,i3,i4,A,xs,cc⟩:HAct):=BoxH.keep hS k1 (by omega)
  have r1:=H2.mid k1
  have hd:=ygw r1 i3
  rw[hy] at hd
  replace hd:=zxh hd
  refine⟨hS,?_⟩
  try simp only[Act.put,sqX]
  refine wpAnyH_all (rs:=[7]) (by kernel_rfl) (by simp) fun i hi=>?_
  obtain rfl:i=7:=by simpa using hi
  refine zbc (om:=⟨_,_,_,_,_,_⟩) (fn:=58) (args:=#[.pointer (some ⟨q,0,none⟩),.int .i64 i3]) (R:=fun u W'=>u=.int .i64 vd∧Dn w1 mi q b d e Gd R2 W') rfl rfl (by go_simp)
   (hd.mono fun en W' ⟨he,dn⟩=>⟨_,he,rfl,dn⟩) _ _ rfl rfl ?_
  rintro u w2 ⟨rfl,dn⟩
  have hS:BoxH w2 W.heap.size (⟨2,s1,s2,i3,i4,A,xs,cc⟩:HAct):=BoxH.keep hS dn.kp (by omega)
  refine⟨hS,?_⟩
  try simp only[Act.put,sqX]
  refine sqH 8 (.bool (vc==vd)) rfl (Or.inl ⟨by rfl,fun _ _=>by go_simp⟩) hS ?_
  try simp only[Act.put,sqX]
  refine sqH 9 (.bool (vc==vd)) rfl (Or.inl ⟨by rfl,fun _ _=>rfl⟩) hS ?_
  try simp only[Act.put,sqX]
  refine wpAnyH_done (by kernel_rfl) ?_ _
  try simp only[Act.put,sqX]
  have HG:Hid (zet lo w p gb mb mi q d e G Gd M R (⟨2,s1,s2,i3,i4,A,xs,cc⟩:HAct) (.returned (.bool (vc==vd))) w2):=⟨_,M2,R2,rfl,H2.both m1 k1 dn,Or.inr (Or.inr (Or.inl ⟨rfl,qI hx hy fun e=>by rw[e];simp⟩))⟩
  clear hS m1 k1 r1 dn hc hd H2 kd c0 c1 c2 c3 c4 c5 hbr2 hx hy
  go_wp2_with fail
  go_ret
  exact HG.out
 by_cases x3:dd=3
 ·subst x3
  have t0:((3:Int)==0)=false:=rfl
  have t1:((3:Int)==1)=false:=rfl
  have t2:((3:Int)==2)=false:=rfl
  have t3:((3:Int)==3)=true:=rfl
  obtain⟨ys,v,M2,hx⟩:∃ n v X,reaC M i3 i4=(n,v,X):=⟨_,_,_,rfl⟩
  obtain⟨zs,v',R2,hy⟩:∃ n v X,reaD R i3 i4=(n,v,X):=⟨_,_,_,rfl⟩
  have hc:=read_c H1.out.mem i3 i4 HA.out.i4_w
  rw[hx] at hc
  have HC:=hq (outR hc)
  have HX:=hq (And.intro hx hy)
  clear hc hx hy
  go_wp2_with fail
  rw[HW.out]
  refine HC.out.mono ?_
  rintro en w1 ⟨⟨A1,n1,rfl,hb1,hn1⟩,m1,k1⟩
  have r1:=H1.out.mid k1
  have hbx1:=HBX.out.keep k1 (by omega)
  obtain⟨d0,d1,d2,d3,d4,d5⟩:=hbx1.cs
  simp only at d0 d1 d2 d3 d4 d5
  have hd:=read_d r1 i3 i4 HA.out.i4_w
  rw[HX.out.2] at hd
  have HD1:=hq (outS hd)
  have HCO:=hq (And.intro m1 k1)
  have HB1:=hq (And.intro hb1 hn1)
  clear c0 c1 c2 c3 c4 c5 m1 k1 r1 hbx1 HC HW hb1 hn1 hd
  go_wp2_with fail
  refine HD1.out.mono ?_
  rintro en w2 ⟨⟨A2,n2,rfl,hb2⟩,dn⟩
  have hb1':=dn.kp.br HB1.out.1 (fun ad e hne=>by have h3:=HB1.out.2 ad e;have h4:=H1.out.bs;omega)
  have cv1:=zfj (P:=Tryz.prog) w2 _ 31 9 5 A1 ys n1 hb1' Tryz.underlying31 Tryz.underlying5 Tryz.underlying9
  have cv2:=zfj (P:=Tryz.prog) w2 _ 31 9 5 A2 zs n2 hb2 Tryz.underlying31 Tryz.underlying5 Tryz.underlying9
  have HT:=hq (H1.out.both HCO.out.1 HCO.out.2 dn)
  clear dn HD1 HCO hb1' hb2 HB1
  by_cases hk:ys=zs
  ·subst hk
   have s1':((⟨ys.toArray⟩:ByteArray).toList==(⟨ys.toArray⟩:ByteArray).toList)=true:=by simp
   have HG:Hid (zet lo w p gb mb mi q d e G Gd M R (⟨3,s1,s2,i3,i4,A,xs,cc⟩:HAct) (.returned (.bool (v==v'))) w2):=⟨_,M2,R2,rfl,HT.out,Or.inr (Or.inr (Or.inr (Or.inl ⟨rfl,qR HX.out.1 HX.out.2 fun _ e=>by rw[e];simp⟩)))⟩
   go_wp2_with fail
   go_ret
   exact HG.out
  ·have HG:Hid (zet lo w p gb mb mi q d e G Gd M R (⟨3,s1,s2,i3,i4,A,xs,cc⟩:HAct) (.returned (.bool false)) w2):=⟨_,M2,R2,rfl,HT.out,Or.inr (Or.inr (Or.inr (Or.inl ⟨rfl,qR HX.out.1 HX.out.2 fun e _=>absurd e hk⟩)))⟩
   have s1':((⟨ys.toArray⟩:ByteArray).toList==(⟨zs.toArray⟩:ByteArray).toList)=false:=by simpa using hk
   go_wp2_with fail
   go_ret
   exact HG.out
 by_cases x4:dd=4
 ·subst x4
  have t0:((4:Int)==0)=false:=rfl
  have t1:((4:Int)==1)=false:=rfl
  have t2:((4:Int)==2)=false:=rfl
  have t3:((4:Int)==3)=false:=rfl
  have t4:((4:Int)==4)=true:=rfl
  go_wp2_with fail
  refine wp_region_held (S:=fun W'=>BoxH W' W.heap.size (⟨4,s1,s2,i3,i4,A,xs,cc⟩:HAct)) (by kernel_rfl) ?_
  change wpAnyH _ _ _ _ _ _ _ _ (W.alloc (.cells #[.int .i64 4,St s1,St s2,.int .i64 i3,.int .i64 i4,.slice A xs.length cc] 42)).drew
  rw[HW.out]
  have kd:Keeps (fun _=>False) wa wa.drew:=zac ((Below.refl _ _).drew)
  have hS:=HBX.out.keep kd (fun f=>f)
  have H2:=H1.out.new kd
  have hbr2:=kd.br HBR.out fun _ _ _ f=>f
  generalize wa.drew=wd at *
  obtain⟨vc,M2,hx⟩:∃ v X,wriC M i3 xs=(v,X):=⟨_,_,rfl⟩
  obtain⟨vd,R2,hy⟩:∃ v X,wriD R i3 xs=(v,X):=⟨_,_,rfl⟩
  have hc:=yfi H2.mem H2.tab hmb hp i3 cc hbr2 hxl (fun hne ad e=>by have:=HLOW.out hne ad e;omega)
  rw[hx] at hc
  replace hc:=zxh hc
  refine sqH 0 (.pointer (some ⟨p,0,none⟩)) rfl (Or.inl ⟨by rfl,fun _ _=>rfl⟩) hS ?_
  try simp only[Act.put,sqX]
  refine sqH 1 (.pointer (some ⟨W.heap.size,3,none⟩)) rfl (Or.inl ⟨by rfl,fun _ _=>by go_simp⟩) hS ?_
  try simp only[Act.put,sqX]
  refine sqH 2 (.int .i64 i3) rfl (zag rfl 3 (.tmp 121) rfl _ _ rfl fun w h=>zal zdh h.cs.2.2.2.1) hS ?_
  try simp only[Act.put,sqX]
  refine sqH 3 (.pointer (some ⟨W.heap.size,5,none⟩)) rfl (Or.inl ⟨by rfl,fun _ _=>by go_simp⟩) hS ?_
  try simp only[Act.put,sqX]
  refine sqH 4 (.slice A xs.length cc) rfl (zag rfl 31 (.tmp 123) rfl _ _ rfl fun w h=>zal aggB9 h.cs.2.2.2.2.2) hS ?_
  try simp only[Act.put,sqX]
  refine sqH 6 (.pointer (some ⟨q,0,none⟩)) rfl (Or.inl ⟨by rfl,fun _ _=>rfl⟩) hS ?_
  try simp only[Act.put,sqX]
  refine sqH 7 (.pointer (some ⟨W.heap.size,3,none⟩)) rfl (Or.inl ⟨by rfl,fun _ _=>by go_simp⟩) hS ?_
  try simp only[Act.put,sqX]
  refine sqH 8 (.int .i64 i3) rfl (zag rfl 3 (.tmp 127) rfl _ _ rfl fun w h=>zal zdh h.cs.2.2.2.1) hS ?_
  try simp only[Act.put,sqX]
  refine sqH 9 (.pointer (some ⟨W.heap.size,5,none⟩)) rfl (Or.inl ⟨by rfl,fun _ _=>by go_simp⟩) hS ?_
  try simp only[Act.put,sqX]
  refine sqH 10 (.slice A xs.length cc) rfl (zag rfl 31 (.tmp 129) rfl _ _ rfl fun w h=>zal aggB9 h.cs.2.2.2.2.2) hS ?_
  try simp only[Act.put,sqX]
  refine wpAnyH_all (rs:=[5]) (by kernel_rfl) (by simp) fun i hi=>?_
  obtain rfl:i=5:=by simpa using hi
  refine zbc (om:=⟨_,_,_,_,_,_⟩) (fn:=24) (args:=#[.pointer (some ⟨p,0,none⟩),.int .i64 i3,.slice A xs.length cc]) (R:=fun u W'=>u=.int .i64 vc∧MemAt W' p gb mb G M2∧Keeps (fun k=>k=p∨k=mb) wd W') rfl rfl (by go_simp)
   (hc.mono fun en W' ⟨he,m,k⟩=>⟨_,he,rfl,m,k⟩) _ _ rfl rfl ?_
  rintro u w1 ⟨rfl,m1,k1⟩
  have hS:BoxH w1 W.heap.size (⟨4,s1,s2,i3,i4,A,xs,cc⟩:HAct):=BoxH.keep hS k1 (by omega)
  have r1:=H2.mid k1
  have hbr3:=k1.br hbr2 (fun ad e hne=>by have:=HLOW.out hne ad e;omega)
  have hd:=yfh r1 i3 (cb:=cc) hbr3 HA.out.cap hxl (fun hne ad e=>by have:=HLOW.out hne ad e;have:=hbs;omega)
  rw[hy] at hd
  replace hd:=zxh hd
  refine⟨hS,?_⟩
  try simp only[Act.put,sqX]
  refine wpAnyH_all (rs:=[11]) (by kernel_rfl) (by simp) fun i hi=>?_
  obtain rfl:i=11:=by simpa using hi
  refine zbc (om:=⟨_,_,_,_,_,_⟩) (fn:=60) (args:=#[.pointer (some ⟨q,0,none⟩),.int .i64 i3,.slice A xs.length cc]) (R:=fun u W'=>u=.int .i64 vd∧Dn w1 mi q b d e Gd R2 W') rfl rfl (by go_simp)
   (hd.mono fun en W' ⟨he,dn⟩=>⟨_,he,rfl,dn⟩) _ _ rfl rfl ?_
  rintro u w2 ⟨rfl,dn⟩
  have hS:BoxH w2 W.heap.size (⟨4,s1,s2,i3,i4,A,xs,cc⟩:HAct):=BoxH.keep hS dn.kp (by omega)
  refine⟨hS,?_⟩
  try simp only[Act.put,sqX]
  refine sqH 12 (.bool (vc==vd)) rfl (Or.inl ⟨by rfl,fun _ _=>by go_simp⟩) hS ?_
  try simp only[Act.put,sqX]
  refine sqH 13 (.bool (vc==vd)) rfl (Or.inl ⟨by rfl,fun _ _=>rfl⟩) hS ?_
  try simp only[Act.put,sqX]
  refine wpAnyH_done (by kernel_rfl) ?_ _
  try simp only[Act.put,sqX]
  have HG:Hid (zet lo w p gb mb mi q d e G Gd M R (⟨4,s1,s2,i3,i4,A,xs,cc⟩:HAct) (.returned (.bool (vc==vd))) w2):=⟨_,M2,R2,rfl,H2.both m1 k1 dn,Or.inr (Or.inr (Or.inr (Or.inr (Or.inl ⟨rfl,qI hx hy fun e=>by rw[e];simp⟩))))⟩
  clear hS m1 k1 r1 dn hc hd H2 kd c0 c1 c2 c3 c4 c5 hbr2 hx hy
  go_wp2_with fail
  go_ret
  exact HG.out
 by_cases x5:dd=5
 ·subst x5
  have t0:((5:Int)==0)=false:=rfl
  have t1:((5:Int)==1)=false:=rfl
  have t2:((5:Int)==2)=false:=rfl
  have t3:((5:Int)==3)=false:=rfl
  have t4:((5:Int)==4)=false:=rfl
  have t5:((5:Int)==5)=true:=rfl
  obtain⟨n,v,M2,hx⟩:∃ n v X,yeq M i3=(n,v,X):=⟨_,_,_,rfl⟩
  obtain⟨n',v',R2,hy⟩:∃ n v X,yeq R i3=(n,v,X):=⟨_,_,_,rfl⟩
  have hc:=size_c H1.out.mem i3
  rw[hx] at hc
  have HC:=hq (zp1 hc)
  have HX:=hq (And.intro hx hy)
  clear hc hx hy
  go_wp2_with fail
  rw[HW.out]
  refine HC.out.mono ?_
  rintro en w1 ⟨rfl,m1,k1⟩
  have r1:=H1.out.mid k1
  have hb1:=HBX.out.keep k1 (by omega)
  obtain⟨d0,d1,d2,d3,d4,d5⟩:=hb1.cs
  simp only at d0 d1 d2 d3 d4 d5
  have hd:=size_d r1 i3
  rw[HX.out.2] at hd
  have HD1:=hq (zp1 hd)
  have HCO:=hq (And.intro m1 k1)
  clear c0 c1 c2 c3 c4 c5 m1 k1 r1 hb1 HC HW hd
  go_wp2_with fail
  refine HD1.out.mono ?_
  rintro en w2 ⟨rfl,dn⟩
  have HT:=hq (H1.out.both HCO.out.1 HCO.out.2 dn)
  clear dn HD1 HCO
  by_cases hn:n=n'
  ·subst hn
   have HG:Hid (zet lo w p gb mb mi q d e G Gd M R (⟨5,s1,s2,i3,i4,A,xs,cc⟩:HAct) (.returned (.bool (v==v'))) w2):=⟨_,M2,R2,rfl,HT.out,Or.inr (Or.inr (Or.inr (Or.inr (Or.inr (Or.inl ⟨rfl,qII HX.out.1 HX.out.2 fun _ e=>by rw[e];simp⟩)))))⟩
   have s1':(n==n)=true:=by simp
   go_wp2_with fail
   go_ret
   exact HG.out
  ·have HG:Hid (zet lo w p gb mb mi q d e G Gd M R (⟨5,s1,s2,i3,i4,A,xs,cc⟩:HAct) (.returned (.bool false)) w2):=⟨_,M2,R2,rfl,HT.out,Or.inr (Or.inr (Or.inr (Or.inr (Or.inr (Or.inl ⟨rfl,qII HX.out.1 HX.out.2 fun e _=>absurd e hn⟩)))))⟩
   have s1':(n==n')=false:=by simpa using hn
   go_wp2_with fail
   go_ret
   exact HG.out
 by_cases x6:dd=6
 ·subst x6
  have t0:((6:Int)==0)=false:=rfl
  have t1:((6:Int)==1)=false:=rfl
  have t2:((6:Int)==2)=false:=rfl
  have t3:((6:Int)==3)=false:=rfl
  have t4:((6:Int)==4)=false:=rfl
  have t5:((6:Int)==5)=false:=rfl
  have t6:((6:Int)==6)=true:=rfl
  go_wp2_with fail
  refine wp_region_held (S:=fun W'=>BoxH W' W.heap.size (⟨6,s1,s2,i3,i4,A,xs,cc⟩:HAct)) (by kernel_rfl) ?_
  change wpAnyH _ _ _ _ _ _ _ _ (W.alloc (.cells #[.int .i64 6,St s1,St s2,.int .i64 i3,.int .i64 i4,.slice A xs.length cc] 42)).drew
  rw[HW.out]
  have kd:Keeps (fun _=>False) wa wa.drew:=zac ((Below.refl _ _).drew)
  have hS:=HBX.out.keep kd (fun f=>f)
  have H2:=H1.out.new kd
  have hbr2:=kd.br HBR.out fun _ _ _ f=>f
  generalize wa.drew=wd at *
  obtain⟨vc,M2,hx⟩:∃ v X,zo8 M i3 i4=(v,X):=⟨_,_,rfl⟩
  obtain⟨vd,R2,hy⟩:∃ v X,zo8 R i3 i4=(v,X):=⟨_,_,rfl⟩
  have hc:=yb7 H2.mem H2.tab hmb hp i3 i4
  rw[hx] at hc
  replace hc:=zxh hc
  refine sqH 0 (.pointer (some ⟨p,0,none⟩)) rfl (Or.inl ⟨by rfl,fun _ _=>rfl⟩) hS ?_
  try simp only[Act.put,sqX]
  refine sqH 1 (.pointer (some ⟨W.heap.size,3,none⟩)) rfl (Or.inl ⟨by rfl,fun _ _=>by go_simp⟩) hS ?_
  try simp only[Act.put,sqX]
  refine sqH 2 (.int .i64 i3) rfl (zag rfl 3 (.tmp 160) rfl _ _ rfl fun w h=>zal zdh h.cs.2.2.2.1) hS ?_
  try simp only[Act.put,sqX]
  refine sqH 3 (.pointer (some ⟨W.heap.size,4,none⟩)) rfl (Or.inl ⟨by rfl,fun _ _=>by go_simp⟩) hS ?_
  try simp only[Act.put,sqX]
  refine sqH 4 (.int .i64 i4) rfl (zag rfl 3 (.tmp 162) rfl _ _ rfl fun w h=>zal zdh h.cs.2.2.2.2.1) hS ?_
  try simp only[Act.put,sqX]
  refine sqH 6 (.pointer (some ⟨q,0,none⟩)) rfl (Or.inl ⟨by rfl,fun _ _=>rfl⟩) hS ?_
  try simp only[Act.put,sqX]
  refine sqH 7 (.pointer (some ⟨W.heap.size,3,none⟩)) rfl (Or.inl ⟨by rfl,fun _ _=>by go_simp⟩) hS ?_
  try simp only[Act.put,sqX]
  refine sqH 8 (.int .i64 i3) rfl (zag rfl 3 (.tmp 166) rfl _ _ rfl fun w h=>zal zdh h.cs.2.2.2.1) hS ?_
  try simp only[Act.put,sqX]
  refine sqH 9 (.pointer (some ⟨W.heap.size,4,none⟩)) rfl (Or.inl ⟨by rfl,fun _ _=>by go_simp⟩) hS ?_
  try simp only[Act.put,sqX]
  refine sqH 10 (.int .i64 i4) rfl (zag rfl 3 (.tmp 168) rfl _ _ rfl fun w h=>zal zdh h.cs.2.2.2.2.1) hS ?_
  try simp only[Act.put,sqX]
  refine wpAnyH_all (rs:=[5]) (by kernel_rfl) (by simp) fun i hi=>?_
  obtain rfl:i=5:=by simpa using hi
  refine zbc (om:=⟨_,_,_,_,_,_⟩) (fn:=62) (args:=#[.pointer (some ⟨p,0,none⟩),.int .i64 i3,.int .i64 i4]) (R:=fun u W'=>u=.int .i64 vc∧MemAt W' p gb mb G M2∧Keeps (fun k=>k=p∨k=mb) wd W') rfl rfl (by go_simp)
   (hc.mono fun en W' ⟨he,m,k⟩=>⟨_,he,rfl,m,k⟩) _ _ rfl rfl ?_
  rintro u w1 ⟨rfl,m1,k1⟩
  have hS:BoxH w1 W.heap.size (⟨6,s1,s2,i3,i4,A,xs,cc⟩:HAct):=BoxH.keep hS k1 (by omega)
  have r1:=H2.mid k1
  have hd:=yb6 r1 i3 i4 HA.out.i4_w
  rw[hy] at hd
  replace hd:=zxh hd
  refine⟨hS,?_⟩
  try simp only[Act.put,sqX]
  refine wpAnyH_all (rs:=[11]) (by kernel_rfl) (by simp) fun i hi=>?_
  obtain rfl:i=11:=by simpa using hi
  refine zbc (om:=⟨_,_,_,_,_,_⟩) (fn:=63) (args:=#[.pointer (some ⟨q,0,none⟩),.int .i64 i3,.int .i64 i4]) (R:=fun u W'=>u=.int .i64 vd∧Dn w1 mi q b d e Gd R2 W') rfl rfl (by go_simp)
   (hd.mono fun en W' ⟨he,dn⟩=>⟨_,he,rfl,dn⟩) _ _ rfl rfl ?_
  rintro u w2 ⟨rfl,dn⟩
  have hS:BoxH w2 W.heap.size (⟨6,s1,s2,i3,i4,A,xs,cc⟩:HAct):=BoxH.keep hS dn.kp (by omega)
  refine⟨hS,?_⟩
  try simp only[Act.put,sqX]
  refine sqH 12 (.bool (vc==vd)) rfl (Or.inl ⟨by rfl,fun _ _=>by go_simp⟩) hS ?_
  try simp only[Act.put,sqX]
  refine sqH 13 (.bool (vc==vd)) rfl (Or.inl ⟨by rfl,fun _ _=>rfl⟩) hS ?_
  try simp only[Act.put,sqX]
  refine wpAnyH_done (by kernel_rfl) ?_ _
  try simp only[Act.put,sqX]
  have HG:Hid (zet lo w p gb mb mi q d e G Gd M R (⟨6,s1,s2,i3,i4,A,xs,cc⟩:HAct) (.returned (.bool (vc==vd))) w2):=⟨_,M2,R2,rfl,H2.both m1 k1 dn,Or.inr (Or.inr (Or.inr (Or.inr (Or.inr (Or.inr (Or.inl ⟨rfl,qI hx hy fun e=>by rw[e];simp⟩))))))⟩
  clear hS m1 k1 r1 dn hc hd H2 kd c0 c1 c2 c3 c4 c5 hbr2 hx hy
  go_wp2_with fail
  go_ret
  exact HG.out
 by_cases x7:dd=7
 ·subst x7
  have t0:((7:Int)==0)=false:=rfl
  have t1:((7:Int)==1)=false:=rfl
  have t2:((7:Int)==2)=false:=rfl
  have t3:((7:Int)==3)=false:=rfl
  have t4:((7:Int)==4)=false:=rfl
  have t5:((7:Int)==5)=false:=rfl
  have t6:((7:Int)==6)=false:=rfl
  have t7:((7:Int)==7)=true:=rfl
  obtain⟨n,v,M2,hx⟩:∃ n v X,yet M i3=(n,v,X):=⟨_,_,_,rfl⟩
  obtain⟨n',v',R2,hy⟩:∃ n v X,yet R i3=(n,v,X):=⟨_,_,_,rfl⟩
  have hc:=yfx H1.out.mem i3
  rw[hx] at hc
  have HC:=hq (zp1 hc)
  have HX:=hq (And.intro hx hy)
  clear hc hx hy
  go_wp2_with fail
  rw[HW.out]
  refine HC.out.mono ?_
  rintro en w1 ⟨rfl,m1,k1⟩
  have r1:=H1.out.mid k1
  have hb1:=HBX.out.keep k1 (by omega)
  obtain⟨d0,d1,d2,d3,d4,d5⟩:=hb1.cs
  simp only at d0 d1 d2 d3 d4 d5
  have hd:=yfw r1 i3
  rw[HX.out.2] at hd
  have HD1:=hq (zp1 hd)
  have HCO:=hq (And.intro m1 k1)
  clear c0 c1 c2 c3 c4 c5 m1 k1 r1 hb1 HC HW hd
  go_wp2_with fail
  refine HD1.out.mono ?_
  rintro en w2 ⟨rfl,dn⟩
  have HT:=hq (H1.out.both HCO.out.1 HCO.out.2 dn)
  clear dn HD1 HCO
  by_cases hn:n=n'
  ·subst hn
   have HG:Hid (zet lo w p gb mb mi q d e G Gd M R (⟨7,s1,s2,i3,i4,A,xs,cc⟩:HAct) (.returned (.bool (v==v'))) w2):=⟨_,M2,R2,rfl,HT.out,Or.inr (Or.inr (Or.inr (Or.inr (Or.inr (Or.inr (Or.inr (Or.inl ⟨rfl,qII HX.out.1 HX.out.2 fun _ e=>by rw[e];simp⟩)))))))⟩
   have s1':(n==n)=true:=by simp
   go_wp2_with fail
   go_ret
   exact HG.out
  ·have HG:Hid (zet lo w p gb mb mi q d e G Gd M R (⟨7,s1,s2,i3,i4,A,xs,cc⟩:HAct) (.returned (.bool false)) w2):=⟨_,M2,R2,rfl,HT.out,Or.inr (Or.inr (Or.inr (Or.inr (Or.inr (Or.inr (Or.inr (Or.inl ⟨rfl,qII HX.out.1 HX.out.2 fun e _=>absurd e hn⟩)))))))⟩
   have s1':(n==n')=false:=by simpa using hn
   go_wp2_with fail
   go_ret
   exact HG.out
 by_cases x8:dd=8
 ·subst x8
  have t0:((8:Int)==0)=false:=rfl
  have t1:((8:Int)==1)=false:=rfl
  have t2:((8:Int)==2)=false:=rfl
  have t3:((8:Int)==3)=false:=rfl
  have t4:((8:Int)==4)=false:=rfl
  have t5:((8:Int)==5)=false:=rfl
  have t6:((8:Int)==6)=false:=rfl
  have t7:((8:Int)==7)=false:=rfl
  have t8:((8:Int)==8)=true:=rfl
  go_wp2_with fail
  refine wp_region_held (S:=fun W'=>BoxH W' W.heap.size (⟨8,s1,s2,i3,i4,A,xs,cc⟩:HAct)) (by kernel_rfl) ?_
  change wpAnyH _ _ _ _ _ _ _ _ (W.alloc (.cells #[.int .i64 8,St s1,St s2,.int .i64 i3,.int .i64 i4,.slice A xs.length cc] 42)).drew
  rw[HW.out]
  have kd:Keeps (fun _=>False) wa wa.drew:=zac ((Below.refl _ _).drew)
  have hS:=HBX.out.keep kd (fun f=>f)
  have H2:=H1.out.new kd
  have hbr2:=kd.br HBR.out fun _ _ _ f=>f
  generalize wa.drew=wd at *
  obtain⟨vc,M2,hx⟩:∃ v X,sekC M i3 i4=(v,X):=⟨_,_,rfl⟩
  obtain⟨vd,R2,hy⟩:∃ v X,sekD R i3 i4=(v,X):=⟨_,_,rfl⟩
  have hc:=seek_c H2.mem i3 i4
  rw[hx] at hc
  replace hc:=zxh hc
  refine sqH 0 (.pointer (some ⟨p,0,none⟩)) rfl (Or.inl ⟨by rfl,fun _ _=>rfl⟩) hS ?_
  try simp only[Act.put,sqX]
  refine sqH 1 (.pointer (some ⟨W.heap.size,3,none⟩)) rfl (Or.inl ⟨by rfl,fun _ _=>by go_simp⟩) hS ?_
  try simp only[Act.put,sqX]
  refine sqH 2 (.int .i64 i3) rfl (zag rfl 3 (.tmp 199) rfl _ _ rfl fun w h=>zal zdh h.cs.2.2.2.1) hS ?_
  try simp only[Act.put,sqX]
  refine sqH 3 (.pointer (some ⟨W.heap.size,4,none⟩)) rfl (Or.inl ⟨by rfl,fun _ _=>by go_simp⟩) hS ?_
  try simp only[Act.put,sqX]
  refine sqH 4 (.int .i64 i4) rfl (zag rfl 3 (.tmp 201) rfl _ _ rfl fun w h=>zal zdh h.cs.2.2.2.2.1) hS ?_
  try simp only[Act.put,sqX]
  refine sqH 6 (.pointer (some ⟨q,0,none⟩)) rfl (Or.inl ⟨by rfl,fun _ _=>rfl⟩) hS ?_
  try simp only[Act.put,sqX]
  refine sqH 7 (.pointer (some ⟨W.heap.size,3,none⟩)) rfl (Or.inl ⟨by rfl,fun _ _=>by go_simp⟩) hS ?_
  try simp only[Act.put,sqX]
  refine sqH 8 (.int .i64 i3) rfl (zag rfl 3 (.tmp 205) rfl _ _ rfl fun w h=>zal zdh h.cs.2.2.2.1) hS ?_
  try simp only[Act.put,sqX]
  refine sqH 9 (.pointer (some ⟨W.heap.size,4,none⟩)) rfl (Or.inl ⟨by rfl,fun _ _=>by go_simp⟩) hS ?_
  try simp only[Act.put,sqX]
  refine sqH 10 (.int .i64 i4) rfl (zag rfl 3 (.tmp 207) rfl _ _ rfl fun w h=>zal zdh h.cs.2.2.2.2.1) hS ?_
  try simp only[Act.put,sqX]
  refine wpAnyH_all (rs:=[5]) (by kernel_rfl) (by simp) fun i hi=>?_
  obtain rfl:i=5:=by simpa using hi
  refine zbc (om:=⟨_,_,_,_,_,_⟩) (fn:=65) (args:=#[.pointer (some ⟨p,0,none⟩),.int .i64 i3,.int .i64 i4]) (R:=fun u W'=>u=.int .i64 vc∧MemAt W' p gb mb G M2∧Keeps (fun k=>k=p∨k=mb) wd W') rfl rfl (by go_simp)
   (hc.mono fun en W' ⟨he,m,k⟩=>⟨_,he,rfl,m,k⟩) _ _ rfl rfl ?_
  rintro u w1 ⟨rfl,m1,k1⟩
  have hS:BoxH w1 W.heap.size (⟨8,s1,s2,i3,i4,A,xs,cc⟩:HAct):=BoxH.keep hS k1 (by omega)
  have r1:=H2.mid k1
  have hd:=seek_d r1 i3 i4 HA.out.i4_w
  rw[hy] at hd
  replace hd:=zxh hd
  refine⟨hS,?_⟩
  try simp only[Act.put,sqX]
  refine wpAnyH_all (rs:=[11]) (by kernel_rfl) (by simp) fun i hi=>?_
  obtain rfl:i=11:=by simpa using hi
  refine zbc (om:=⟨_,_,_,_,_,_⟩) (fn:=66) (args:=#[.pointer (some ⟨q,0,none⟩),.int .i64 i3,.int .i64 i4]) (R:=fun u W'=>u=.int .i64 vd∧Dn w1 mi q b d e Gd R2 W') rfl rfl (by go_simp)
   (hd.mono fun en W' ⟨he,dn⟩=>⟨_,he,rfl,dn⟩) _ _ rfl rfl ?_
  rintro u w2 ⟨rfl,dn⟩
  have hS:BoxH w2 W.heap.size (⟨8,s1,s2,i3,i4,A,xs,cc⟩:HAct):=BoxH.keep hS dn.kp (by omega)
  refine⟨hS,?_⟩
  try simp only[Act.put,sqX]
  refine sqH 12 (.bool (vc==vd)) rfl (Or.inl ⟨by rfl,fun _ _=>by go_simp⟩) hS ?_
  try simp only[Act.put,sqX]
  refine sqH 13 (.bool (vc==vd)) rfl (Or.inl ⟨by rfl,fun _ _=>rfl⟩) hS ?_
  try simp only[Act.put,sqX]
  refine wpAnyH_done (by kernel_rfl) ?_ _
  try simp only[Act.put,sqX]
  have HG:Hid (zet lo w p gb mb mi q d e G Gd M R (⟨8,s1,s2,i3,i4,A,xs,cc⟩:HAct) (.returned (.bool (vc==vd))) w2):=⟨_,M2,R2,rfl,H2.both m1 k1 dn,Or.inr (Or.inr (Or.inr (Or.inr (Or.inr (Or.inr (Or.inr (Or.inr (Or.inl ⟨rfl,qI hx hy fun e=>by rw[e];simp⟩))))))))⟩
  clear hS m1 k1 r1 dn hc hd H2 kd c0 c1 c2 c3 c4 c5 hbr2 hx hy
  go_wp2_with fail
  go_ret
  exact HG.out
 by_cases x9:dd=9
 ·subst x9
  have t0:((9:Int)==0)=false:=rfl
  have t1:((9:Int)==1)=false:=rfl
  have t2:((9:Int)==2)=false:=rfl
  have t3:((9:Int)==3)=false:=rfl
  have t4:((9:Int)==4)=false:=rfl
  have t5:((9:Int)==5)=false:=rfl
  have t6:((9:Int)==6)=false:=rfl
  have t7:((9:Int)==7)=false:=rfl
  have t8:((9:Int)==8)=false:=rfl
  have t9:((9:Int)==9)=true:=rfl
  go_wp2_with fail
  refine wp_region_held (S:=fun W'=>BoxH W' W.heap.size (⟨9,s1,s2,i3,i4,A,xs,cc⟩:HAct)) (by kernel_rfl) ?_
  change wpAnyH _ _ _ _ _ _ _ _ (W.alloc (.cells #[.int .i64 9,St s1,St s2,.int .i64 i3,.int .i64 i4,.slice A xs.length cc] 42)).drew
  rw[HW.out]
  have kd:Keeps (fun _=>False) wa wa.drew:=zac ((Below.refl _ _).drew)
  have hS:=HBX.out.keep kd (fun f=>f)
  have H2:=H1.out.new kd
  have hbr2:=kd.br HBR.out fun _ _ _ f=>f
  generalize wa.drew=wd at *
  obtain⟨vc,M2,hx⟩:∃ v X,ygs M s1=(v,X):=⟨_,_,rfl⟩
  obtain⟨vd,R2,hy⟩:∃ v X,ygr R s1=(v,X):=⟨_,_,rfl⟩
  have hc:=ya1 H2.mem s1 HA.out.s1_w
  rw[hx] at hc
  replace hc:=zxh hc
  refine sqH 0 (.pointer (some ⟨p,0,none⟩)) rfl (Or.inl ⟨by rfl,fun _ _=>rfl⟩) hS ?_
  try simp only[Act.put,sqX]
  refine sqH 1 (.pointer (some ⟨W.heap.size,1,none⟩)) rfl (Or.inl ⟨by rfl,fun _ _=>by go_simp⟩) hS ?_
  try simp only[Act.put,sqX]
  refine sqH 2 (St s1) rfl (zag rfl 9 (.tmp 214) rfl _ _ rfl fun w h=>zal zgz h.cs.2.1) hS ?_
  try simp only[Act.put,sqX]
  refine sqH 4 (.pointer (some ⟨q,0,none⟩)) rfl (Or.inl ⟨by rfl,fun _ _=>rfl⟩) hS ?_
  try simp only[Act.put,sqX]
  refine sqH 5 (.pointer (some ⟨W.heap.size,1,none⟩)) rfl (Or.inl ⟨by rfl,fun _ _=>by go_simp⟩) hS ?_
  try simp only[Act.put,sqX]
  refine sqH 6 (St s1) rfl (zag rfl 9 (.tmp 218) rfl _ _ rfl fun w h=>zal zgz h.cs.2.1) hS ?_
  try simp only[Act.put,sqX]
  refine wpAnyH_all (rs:=[3]) (by kernel_rfl) (by simp) fun i hi=>?_
  obtain rfl:i=3:=by simpa using hi
  refine zbc (om:=⟨_,_,_,_,_,_⟩) (fn:=67) (args:=#[.pointer (some ⟨p,0,none⟩),St s1]) (R:=fun u W'=>u=.int .i64 vc∧MemAt W' p gb mb G M2∧Keeps (fun k=>k=p∨k=mb) wd W') rfl rfl (by go_simp)
   (hc.mono fun en W' ⟨he,m,k⟩=>⟨_,he,rfl,m,k⟩) _ _ rfl rfl ?_
  rintro u w1 ⟨rfl,m1,k1⟩
  have hS:BoxH w1 W.heap.size (⟨9,s1,s2,i3,i4,A,xs,cc⟩:HAct):=BoxH.keep hS k1 (by omega)
  have r1:=H2.mid k1
  have hd:=zyj r1 s1 HA.out.s1_w
  rw[hy] at hd
  replace hd:=zxh hd
  refine⟨hS,?_⟩
  try simp only[Act.put,sqX]
  refine wpAnyH_all (rs:=[7]) (by kernel_rfl) (by simp) fun i hi=>?_
  obtain rfl:i=7:=by simpa using hi
  refine zbc (om:=⟨_,_,_,_,_,_⟩) (fn:=68) (args:=#[.pointer (some ⟨q,0,none⟩),St s1]) (R:=fun u W'=>u=.int .i64 vd∧Dn w1 mi q b d e Gd R2 W') rfl rfl (by go_simp)
   (hd.mono fun en W' ⟨he,dn⟩=>⟨_,he,rfl,dn⟩) _ _ rfl rfl ?_
  rintro u w2 ⟨rfl,dn⟩
  have hS:BoxH w2 W.heap.size (⟨9,s1,s2,i3,i4,A,xs,cc⟩:HAct):=BoxH.keep hS dn.kp (by omega)
  refine⟨hS,?_⟩
  try simp only[Act.put,sqX]
  refine sqH 8 (.bool (vc==vd)) rfl (Or.inl ⟨by rfl,fun _ _=>by go_simp⟩) hS ?_
  try simp only[Act.put,sqX]
  refine sqH 9 (.bool (vc==vd)) rfl (Or.inl ⟨by rfl,fun _ _=>rfl⟩) hS ?_
  try simp only[Act.put,sqX]
  refine wpAnyH_done (by kernel_rfl) ?_ _
  try simp only[Act.put,sqX]
  have HG:Hid (zet lo w p gb mb mi q d e G Gd M R (⟨9,s1,s2,i3,i4,A,xs,cc⟩:HAct) (.returned (.bool (vc==vd))) w2):=⟨_,M2,R2,rfl,H2.both m1 k1 dn,Or.inr (Or.inr (Or.inr (Or.inr (Or.inr (Or.inr (Or.inr (Or.inr (Or.inr (Or.inl ⟨rfl,qI hx hy fun e=>by rw[e];simp⟩)))))))))⟩
  clear hS m1 k1 r1 dn hc hd H2 kd c0 c1 c2 c3 c4 c5 hbr2 hx hy
  go_wp2_with fail
  go_ret
  exact HG.out
 have t0:(dd==0)=false:=by simp[x0]
 have t1:(dd==1)=false:=by simp[x1]
 have t2:(dd==2)=false:=by simp[x2]
 have t3:(dd==3)=false:=by simp[x3]
 have t4:(dd==4)=false:=by simp[x4]
 have t5:(dd==5)=false:=by simp[x5]
 have t6:(dd==6)=false:=by simp[x6]
 have t7:(dd==7)=false:=by simp[x7]
 have t8:(dd==8)=false:=by simp[x8]
 have t9:(dd==9)=false:=by simp[x9]
 go_wp2_with fail
 refine wp_region_held (S:=fun W'=>BoxH W' W.heap.size (⟨dd,s1,s2,i3,i4,A,xs,cc⟩:HAct)) (by kernel_rfl) ?_
 change wpAnyH _ _ _ _ _ _ _ _ (W.alloc (.cells #[.int .i64 dd,St s1,St s2,.int .i64 i3,.int .i64 i4,.slice A xs.length cc] 42)).drew
 rw[HW.out]
 have kd:Keeps (fun _=>False) wa wa.drew:=zac ((Below.refl _ _).drew)
 have hS:=HBX.out.keep kd (fun f=>f)
 have H2:=H1.out.new kd
 have hbr2:=kd.br HBR.out fun _ _ _ f=>f
 generalize wa.drew=wd at *
 obtain⟨vc,M2,hx⟩:∃ v X,yes M s1 s2=(v,X):=⟨_,_,rfl⟩
 obtain⟨vd,R2,hy⟩:∃ v X,yes R s1 s2=(v,X):=⟨_,_,rfl⟩
 have hc:=yb9 H2.mem s1 s2 HA.out.s1_w HA.out.s2_w
 rw[hx] at hc
 replace hc:=zxh hc
 refine sqH 0 (.pointer (some ⟨p,0,none⟩)) rfl (Or.inl ⟨by rfl,fun _ _=>rfl⟩) hS ?_
 try simp only[Act.put,sqX]
 refine sqH 1 (.pointer (some ⟨W.heap.size,1,none⟩)) rfl (Or.inl ⟨by rfl,fun _ _=>by go_simp⟩) hS ?_
 try simp only[Act.put,sqX]
 refine sqH 2 (St s1) rfl (zag rfl 9 (.tmp 223) rfl _ _ rfl fun w h=>zal zgz h.cs.2.1) hS ?_
 try simp only[Act.put,sqX]
 refine sqH 3 (.pointer (some ⟨W.heap.size,2,none⟩)) rfl (Or.inl ⟨by rfl,fun _ _=>by go_simp⟩) hS ?_
 try simp only[Act.put,sqX]
 refine sqH 4 (St s2) rfl (zag rfl 9 (.tmp 225) rfl _ _ rfl fun w h=>zal zgz h.cs.2.2.1) hS ?_
 try simp only[Act.put,sqX]
 refine sqH 6 (.pointer (some ⟨q,0,none⟩)) rfl (Or.inl ⟨by rfl,fun _ _=>rfl⟩) hS ?_
 try simp only[Act.put,sqX]
 refine sqH 7 (.pointer (some ⟨W.heap.size,1,none⟩)) rfl (Or.inl ⟨by rfl,fun _ _=>by go_simp⟩) hS ?_
 try simp only[Act.put,sqX]
 refine sqH 8 (St s1) rfl (zag rfl 9 (.tmp 229) rfl _ _ rfl fun w h=>zal zgz h.cs.2.1) hS ?_
 try simp only[Act.put,sqX]
 refine sqH 9 (.pointer (some ⟨W.heap.size,2,none⟩)) rfl (Or.inl ⟨by rfl,fun _ _=>by go_simp⟩) hS ?_
 try simp only[Act.put,sqX]
 refine sqH 10 (St s2) rfl (zag rfl 9 (.tmp 231) rfl _ _ rfl fun w h=>zal zgz h.cs.2.2.1) hS ?_
 try simp only[Act.put,sqX]
 refine wpAnyH_all (rs:=[5]) (by kernel_rfl) (by simp) fun i hi=>?_
 obtain rfl:i=5:=by simpa using hi
 refine zbc (om:=⟨_,_,_,_,_,_⟩) (fn:=40) (args:=#[.pointer (some ⟨p,0,none⟩),St s1,St s2]) (R:=fun u W'=>u=.int .i64 vc∧MemAt W' p gb mb G M2∧Keeps (fun k=>k=p∨k=mb) wd W') rfl rfl (by go_simp)
  (hc.mono fun en W' ⟨he,m,k⟩=>⟨_,he,rfl,m,k⟩) _ _ rfl rfl ?_
 rintro u w1 ⟨rfl,m1,k1⟩
 have hS:BoxH w1 W.heap.size (⟨dd,s1,s2,i3,i4,A,xs,cc⟩:HAct):=BoxH.keep hS k1 (by omega)
 have r1:=H2.mid k1
 have hd:=yb8 r1 s1 s2 HA.out.s1_w HA.out.s2_w
 rw[hy] at hd
 replace hd:=zxh hd
 refine⟨hS,?_⟩
 try simp only[Act.put,sqX]
 refine wpAnyH_all (rs:=[11]) (by kernel_rfl) (by simp) fun i hi=>?_
 obtain rfl:i=11:=by simpa using hi
 refine zbc (om:=⟨_,_,_,_,_,_⟩) (fn:=41) (args:=#[.pointer (some ⟨q,0,none⟩),St s1,St s2]) (R:=fun u W'=>u=.int .i64 vd∧Dn w1 mi q b d e Gd R2 W') rfl rfl (by go_simp)
  (hd.mono fun en W' ⟨he,dn⟩=>⟨_,he,rfl,dn⟩) _ _ rfl rfl ?_
 rintro u w2 ⟨rfl,dn⟩
 have hS:BoxH w2 W.heap.size (⟨dd,s1,s2,i3,i4,A,xs,cc⟩:HAct):=BoxH.keep hS dn.kp (by omega)
 refine⟨hS,?_⟩
 try simp only[Act.put,sqX]
 refine sqH 12 (.bool (vc==vd)) rfl (Or.inl ⟨by rfl,fun _ _=>by go_simp⟩) hS ?_
 try simp only[Act.put,sqX]
 refine sqH 13 (.bool (vc==vd)) rfl (Or.inl ⟨by rfl,fun _ _=>rfl⟩) hS ?_
 try simp only[Act.put,sqX]
 refine wpAnyH_done (by kernel_rfl) ?_ _
 try simp only[Act.put,sqX]
 have HG:Hid (zet lo w p gb mb mi q d e G Gd M R (⟨dd,s1,s2,i3,i4,A,xs,cc⟩:HAct) (.returned (.bool (vc==vd))) w2):=⟨_,M2,R2,rfl,H2.both m1 k1 dn,Or.inr (Or.inr (Or.inr (Or.inr (Or.inr (Or.inr (Or.inr (Or.inr (Or.inr (Or.inr (qI hx hy fun e=>by rw[e];simp))))))))))⟩
 clear hS m1 k1 r1 dn hc hd H2 kd c0 c1 c2 c3 c4 c5 hbr2 hx hy
 go_wp2_with fail
 go_ret
 exact HG.out
end Hd
end Go.Proofs.YtefgabnmcfpdcaaGreatDoor
