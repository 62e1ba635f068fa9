/- merged -/
import Derived.Test.YtdopfpcjpjlkmaaGreatDoorGFh
set_option maxHeartbeats 1000000
set_option linter.unusedSimpArgs false
set_option linter.unusedVariables false
namespace Go.Proofs.YtdopfpcjpjlkmaaGreatDoor
namespace Fs
open Go.RowKit Ex Ino Mm
def ns0:List IN:=List.replicate 8 in0
theorem ygk (i:Nat):at' ns0 i=in0:=by
 unfold at' ns0
 rw[List.getD_eq_getElem?_getD,List.getElem?_replicate]
 split<;>rfl
theorem zva {BS:List UInt8} (h:BS.length=2048):RGood ⟨BS,ns0⟩:=by
 refine⟨h,by simp[ns0],fun i hi=>.inl (ygk i),fun i j hi hj hne hf _=>?_⟩
 rw[ygk] at hf
 exact absurd hf (by decide)
theorem yc3:zao ns0=0:=by decide
theorem zqt:∀ n,(List.replicate n in0).flatMap zcf=List.replicate (64*n) 0
 | 0=>rfl
 | n+1=>by
  rw[List.replicate_succ,List.flatMap_cons,zqt n,zi7,show zr64=List.replicate 64 0 from rfl,List.replicate_append_replicate]
  congr 1
  omega
theorem zzu:ns0.flatMap zcf=List.replicate 512 0:=zqt 8
theorem zmw (BS:List UInt8):zad ⟨BS,ns0⟩=fmtB++BS.drop 576:=by
 unfold zad fmtB
 rw[show(⟨BS,ns0⟩:RG).ns=ns0 from rfl,yc3,zzu,List.append_assoc]
theorem yh1 {M:List UInt8} (hm:M.length=8192):zbx M 6144 fmtB=zbx M 6144 (zad ⟨zab M,ns0⟩):=by
 have hl:=zja
 have hr:(zab M).length=2048:=by unfold zab;rw[List.length_drop];omega
 have hrg:∀ j,(zab M)[j]?=M[6144+j]?:=fun j=>by unfold zab;exact List.getElem?_drop ..
 have hb:(zad ⟨zab M,ns0⟩).length=2048:=by rw[zmw,List.length_append,List.length_drop];omega
 refine za7 (by rw[zbd,zbd]) fun k hk=>?_
 rw[zbd] at hk
 rw[zbs _ _ _ _ hk,zbs _ _ _ _ hk,hl,hb]
 by_cases h1:k<6144
 ·rw[zn (by omega),zn (by omega)]
 have hbl:(fmtB++(zab M).drop 576).length=2048:=by rw[← zmw];exact hb
 rw[zp (show(6144:Int)≤k∧(k:Int)<6144+((2048:Nat):Int) by omega),zmw,zcl (fmtB++(zab M).drop 576) ((k:Int)-6144) (by omega)]
 by_cases h2:k<6720
 ·rw[zp (by omega),zcl fmtB ((k:Int)-6144) (by omega)]
  simp only[List.getD_eq_getElem?_getD]
  rw[List.getElem?_append_left (by omega)]
 ·rw[zn (by omega)]
  simp only[List.getD_eq_getElem?_getD]
  rw[List.getElem?_append_right (by omega),List.getElem?_drop,hrg,hl,show 6144+(576+(((k:Int)-6144).toNat-576))=k by omega]
structure Has (M:List UInt8) (g:RG):Prop where
 ml:M.length=8192
 ok:okR (zab M)
 eq:(⟨zab M,zaa (zab M)⟩:RG)=⟨zad g,g.ns⟩
theorem Has.lay {M:List UInt8} {g:RG} (hm:M.length=8192)(h:RGood g):Has (zbx M 6144 (zad g)) g:=by
 obtain⟨h1,h2,h3⟩:=zza hm h
 exact⟨by rw[zbd];exact hm,h1,by rw[h2,h3]⟩
theorem Has.fmt {M:List UInt8} (hm:M.length=8192):Has (zbx M 6144 fmtB) ⟨zab M,ns0⟩:=by
 rw[yh1 hm]
 exact Has.lay hm (zva (by unfold zab;rw[List.length_drop];omega))
end Fs
namespace Fs
open Go.RowKit Ex Ino Mm
def RenI (w:World) (f t:List UInt8) (W:World):Prop:=Boxed W w.heap.size 9 (St f)∧Boxed W (w.heap.size+1) 9 (St t)
def zm7 (w:World):Array Value:=#[.pointer (some ⟨w.heap.size,0,none⟩),.pointer (some ⟨w.heap.size+1,0,none⟩)]
def renF (w:World):List (Nat × Array Value):=[(87,zm7 w)]
def yg5 (w:World) (f t:List UInt8):World:=((w.alloc (.cells #[St f] 9)).alloc (.cells #[St t] 9)).alloc (.cells #[.func (.func 87) #[] (zm7 w)] 110)
set_option maxRecDepth 100000 in
theorem zsd {w:World} {r:Nat} {bs:List UInt8} {l:List ND} (h:RegAt w r bs l)(f t:List UInt8)(hf:f.length≤9223372036854775807)(ht:t.length≤9223372036854775807){q1 q2:Nat} (h1:Boxed w q1 9 (St f))(h2:Boxed w q2 9 (St t)):
  Calls Tryz.prog 87 #[.pointer (some ⟨r,0,none⟩),.pointer (some ⟨q1,0,none⟩),.pointer (some ⟨q2,0,none⟩)] w (zfs w r (zbe ⟨bs,zas l⟩ f t)):=by
 have HC:=zq (zwp h f t hf ht)
 have c1:=h1.cell
 have c2:=h2.cell
 clear h h1 h2
 generalize zbe ⟨bs,zas l⟩ f t=rv at *
 obtain⟨E,g2⟩:=rv
 go_enter Tryz.func87,Tryz.ntmps87
 go_wp2_with fail
 refine HC.out.mono ?_
 rintro e w2 ⟨rfl,hreg2,hk2⟩
 have HG:Hid (zfs w r (E,g2) (.returned (.int .i64 E)) w2):=⟨rfl,hreg2,hk2⟩
 clear hreg2 hk2 HC
 go_wp2_with fail
 go_ret
 exact HG.out
theorem zzb {w:World} {p gb mb:Nat} {G M:List UInt8} (h:MemAt w p gb mb G M)(f t:List UInt8)(hf:f.length≤9223372036854775807)(ht:t.length≤9223372036854775807)(g0:RG):
  Steps (yg5 w f t) p gb mb (fun _=>False) (w.heap.size+1+1) (renF w) [fun g=>zbe g f t] g0 (fun _ W=>RenI w f t W):=by
 obtain⟨l1,l2,l3⟩:=h.lt
 have hsz:(yg5 w f t).heap.size=w.heap.size+1+1+1:=by unfold yg5;rw[World.size_alloc,World.size_alloc,World.size_alloc]
 have b0:Boxed (yg5 w f t) w.heap.size 9 (St f):=((Boxed.new w 9 (St f)).alloc _).alloc _
 have b1:Boxed (yg5 w f t) (w.heap.size+1) 9 (St t):=by
  have:=(Boxed.new (w.alloc (.cells #[St f] 9)) 9 (St t)).alloc (.cells #[.func (.func 87) #[] (zm7 w)] 110)
  rwa [World.size_alloc] at this
 have b2:=Boxed.new ((w.alloc (.cells #[St f] 9)).alloc (.cells #[St t] 9)) 110 (.func (.func 87) #[] (zm7 w))
 rw[World.size_alloc,World.size_alloc] at b2
 have hc0:∀ k,k<(renF w).length→k=0:=fun k hk=>by simp only[renF,List.length_singleton] at hk;omega
 refine⟨rfl,by show 1≤100;omega,fun k hk=>?_,fun k hk=>?_,⟨by omega,by omega,fun f=>f⟩,fun k f=>f.elim,fun W k=>?_,fun W W' k hI hk=>?_,fun k hk gk hgk W r l hr hI hK hreg hns=>?_⟩
 ·obtain rfl:=hc0 k hk
  exact enters_of Tryz.func87 (by kernel_rfl) rfl
 ·obtain rfl:=hc0 k hk
  exact b2.cell
 ·exact⟨(k.block _ b0.lt (by omega)).trans b0,(k.block _ b1.lt (by omega)).trans b1⟩
 ·exact⟨(hk.block _ (Boxed.lt hI.1) (by omega)).trans hI.1,(hk.block _ (Boxed.lt hI.2) (by omega)).trans hI.2⟩
 ·obtain rfl:=hc0 k hk
  have hg:gk=g0:=by simpa [zjn] using hgk.symm
  subst hg
  have he:(⟨gk.bs,zas l⟩:RG)=gk:=by rw[hns]
  have:=zsd hreg f t hf ht hI.1 hI.2
  rw[he] at this
  refine this.mono ?_
  rintro e w' ⟨rfl,⟨l',e1,e2⟩,e3⟩
  exact⟨l',rfl,e2,e1,e3.mono fun _ _ e=>.inl e,(e3.block _ (Boxed.lt hI.1) (fun e=>by omega)).trans hI.1,(e3.block _ (Boxed.lt hI.2) (fun e=>by omega)).trans hI.2⟩
set_option maxRecDepth 100000 in
theorem zs2 {w:World} {p gb mb:Nat} {G M:List UInt8} (h:MemAt w p gb mb G M)(ho:okR (zab M))(f t:List UInt8)(hf:f.length≤9223372036854775807)(ht:t.length≤9223372036854775807):
  Calls Tryz.prog 40 #[.pointer (some ⟨p,0,none⟩),St f,St t] w (zjm w p gb mb G M (zbe ⟨zab M,zaa (zab M)⟩ f t)):=by
 have kw:Keeps (fun _=>False) w (yg5 w f t):=Keeps.trans (Keeps.trans (Keeps.alloc _ _ _) (Keeps.alloc _ _ _)) (Keeps.alloc _ _ _)
 have hch:=zf9 (c:=1) (h.keep kw (fun f=>f) (fun f=>f) (fun f=>f)) ho (zzb h f t hf ht ⟨zab M,zaa (zab M)⟩)
 have hv:=zhh (fun g=>zbe g f t) ⟨zab M,zaa (zab M)⟩
 rw[hv] at hch
 have HC:=zq hch
 have HK:=zq kw
 clear hch kw h hv
 generalize hg0:(⟨zab M,zaa (zab M)⟩:RG)=g0 at *
 unfold yg5 zm7 at HC HK
 go_enter Tryz.func40,Tryz.ntmps40
 go_wp2_with fail
 refine HC.out.mono ?_
 rintro e w2 ⟨W,k,hk1,hI,rfl,h0,h1,hk2,hk3⟩
 dsimp only at h0 h1 ⊢
 generalize zbe g0 f t=rv at *
 have HG:Hid (zjm w p gb mb G M rv (.returned (.int .i64 rv.1)) w2):=by
  refine⟨rfl,?_,(HK.out.mono fun _ _ f=>f.elim).trans (hk3.mono fun j _ f=>by rcases f with f | f | f;exact .inl f;exact .inr f;exact f.elim)⟩
  by_cases hE:rv.1=0
  ·rw[zp hE];exact(h0 hE).2
  ·rw[zn hE];exact h1 hE
 clear hI h0 h1 hk2 hk3 HC
 go_wp2_with fail
 go_ret
 exact HG.out
end Fs
namespace Fs
open Go.RowKit Ex Ino Mm
def RszI (w:World) (n s:Int) (W:World):Prop:=Boxed W w.heap.size 3 (.int .i64 n)∧Boxed W (w.heap.size+1) 3 (.int .i64 s)∧Tab W
def rszF (w:World):List (Nat × Array Value):=[(117,zm7 w)]
def zne (w:World) (n s:Int):World:=((w.alloc (.cells #[.int .i64 n] 3)).alloc (.cells #[.int .i64 s] 3)).alloc (.cells #[.func (.func 117) #[] (zm7 w)] 110)
set_option maxRecDepth 100000 in
theorem zia {w:World} {r:Nat} {bs:List UInt8} {l:List ND} (h:RegAt w r bs l)(hg:RGood ⟨bs,zas l⟩)(hT:Tab w)(n s:Int){q1 q2:Nat} (h1:Boxed w q1 3 (.int .i64 n))(h2:Boxed w q2 3 (.int .i64 s)):
  Calls Tryz.prog 117 #[.pointer (some ⟨r,0,none⟩),.pointer (some ⟨q1,0,none⟩),.pointer (some ⟨q2,0,none⟩)] w (zfs w r (zag ⟨bs,zas l⟩ n s)):=by
 have hc:=znf h hg hT n s
 unfold ze2 at hc
 have HC:=zq hc
 clear hc
 have c1:=h1.cell
 have c2:=h2.cell
 clear h h1 h2 hg hT
 generalize zag ⟨bs,zas l⟩ n s=rv at *
 obtain⟨E,g2⟩:=rv
 go_enter Tryz.func117,Tryz.ntmps117
 go_wp2_with fail
 refine HC.out.mono ?_
 rintro e w2 ⟨rfl,hreg2,hk2⟩
 have HG:Hid (zfs w r (E,g2) (.returned (.int .i64 E)) w2):=⟨rfl,hreg2,hk2⟩
 clear hreg2 hk2 HC
 go_wp2_with fail
 go_ret
 exact HG.out
theorem zyx {w:World} {p gb mb:Nat} {G M:List UInt8} (h:MemAt w p gb mb G M)(hT:Tab w)(hmb:mb≠0)(n s:Int)(g0:RG)(hg0:RGood g0):
  Steps (zne w n s) p gb mb (fun _=>False) (w.heap.size+1+1) (rszF w) [fun g=>zag g n s] g0 (fun _ W=>RszI w n s W):=by
 obtain⟨l1,l2,l3⟩:=h.lt
 have ht0:=hT.pos
 have kw:Keeps (fun _=>False) w (zne w n s):=Keeps.trans (Keeps.trans (Keeps.alloc _ _ _) (Keeps.alloc _ _ _)) (Keeps.alloc _ _ _)
 have hT1:Tab (zne w n s):=hT.keep (kw.block 0 ht0 (fun f=>f))
 have hsz:(zne w n s).heap.size=w.heap.size+1+1+1:=by unfold zne;rw[World.size_alloc,World.size_alloc,World.size_alloc]
 have b0:Boxed (zne w n s) w.heap.size 3 (.int .i64 n):=((Boxed.new w 3 (.int .i64 n)).alloc _).alloc _
 have b1:Boxed (zne w n s) (w.heap.size+1) 3 (.int .i64 s):=by
  have:=(Boxed.new (w.alloc (.cells #[.int .i64 n] 3)) 3 (.int .i64 s)).alloc (.cells #[.func (.func 117) #[] (zm7 w)] 110)
  rwa [World.size_alloc] at this
 have b2:=Boxed.new ((w.alloc (.cells #[.int .i64 n] 3)).alloc (.cells #[.int .i64 s] 3)) 110 (.func (.func 117) #[] (zm7 w))
 rw[World.size_alloc,World.size_alloc] at b2
 have hc0:∀ k,k<(rszF w).length→k=0:=fun k hk=>by simp only[rszF,List.length_singleton] at hk;omega
 refine⟨rfl,by show 1≤100;omega,fun k hk=>?_,fun k hk=>?_,⟨by omega,by omega,fun f=>f⟩,fun k f=>f.elim,fun W k=>?_,fun W W' k hI hk=>?_,fun k hk gk hgk W r l hr hI hK hreg hns=>?_⟩
 ·obtain rfl:=hc0 k hk
  exact enters_of Tryz.func117 (by kernel_rfl) rfl
 ·obtain rfl:=hc0 k hk
  exact b2.cell
 ·exact⟨(k.block _ b0.lt (by omega)).trans b0,(k.block _ b1.lt (by omega)).trans b1,hT1.keep (k.block 0 hT1.pos (by omega))⟩
 ·exact⟨(hk.block _ (Boxed.lt hI.1) (by omega)).trans hI.1,(hk.block _ (Boxed.lt hI.2.1) (by omega)).trans hI.2.1,hI.2.2.keep (hk.block 0 hI.2.2.pos (by omega))⟩
 ·obtain rfl:=hc0 k hk
  have hg:gk=g0:=by simpa [zjn] using hgk.symm
  subst hg
  have he:(⟨gk.bs,zas l⟩:RG)=gk:=by rw[hns]
  have:=zia hreg (by rw[he];exact hg0) hI.2.2 n s hI.1 hI.2.1
  rw[he] at this
  refine this.mono ?_
  rintro e w' ⟨rfl,⟨l',e1,e2⟩,e3⟩
  exact⟨l',rfl,e2,e1,e3.mono fun _ _ e=>.inl e,(e3.block _ (Boxed.lt hI.1) (fun e=>by omega)).trans hI.1,(e3.block _ (Boxed.lt hI.2.1) (fun e=>by omega)).trans hI.2.1,hI.2.2.keep (e3.block 0 hI.2.2.pos (fun e=>by omega))⟩
set_option maxRecDepth 100000 in
theorem zig {w:World} {p gb mb:Nat} {G M:List UInt8} (h:MemAt w p gb mb G M)(ho:okR (zab M))(hT:Tab w)(hmb:mb≠0)(n s:Int):
  Calls Tryz.prog 81 #[.pointer (some ⟨p,0,none⟩),.int .i64 n,.int .i64 s] w (zjm w p gb mb G M (zag ⟨zab M,zaa (zab M)⟩ n s)):=by
 have kw:Keeps (fun _=>False) w (zne w n s):=Keeps.trans (Keeps.trans (Keeps.alloc _ _ _) (Keeps.alloc _ _ _)) (Keeps.alloc _ _ _)
 have hch:=zf9 (c:=1) (h.keep kw (fun f=>f) (fun f=>f) (fun f=>f)) ho (zyx h hT hmb n s ⟨zab M,zaa (zab M)⟩ (zfr h.ml ho))
 have hv:=zhh (fun g=>zag g n s) ⟨zab M,zaa (zab M)⟩
 rw[hv] at hch
 have HC:=zq hch
 have HK:=zq kw
 clear hch kw h hv hT
 generalize hg0:(⟨zab M,zaa (zab M)⟩:RG)=g0 at *
 unfold zne zm7 at HC HK
 go_enter Tryz.func81,Tryz.ntmps81
 go_wp2_with fail
 refine HC.out.mono ?_
 rintro e w2 ⟨W,k,hk1,hI,rfl,h0,h1,hk2,hk3⟩
 dsimp only at h0 h1 ⊢
 generalize zag g0 n s=rv at *
 have HG:Hid (zjm w p gb mb G M rv (.returned (.int .i64 rv.1)) w2):=by
  refine⟨rfl,?_,(HK.out.mono fun _ _ f=>f.elim).trans (hk3.mono fun j _ f=>by rcases f with f | f | f;exact .inl f;exact .inr f;exact f.elim)⟩
  by_cases hE:rv.1=0
  ·rw[zp hE];exact(h0 hE).2
  ·rw[zn hE];exact h1 hE
 clear hI h0 h1 hk2 hk3 HC
 go_wp2_with fail
 go_ret
 exact HG.out
end Fs
namespace Fs
open Go.RowKit Ex Ino Mm
variable {v:Option Addr} {S:World→Prop} {F:Nat→Prop} {w:World} {BS:List UInt8}
def zt8 (x:IN) (a:Int):Nat:=(min a x.size).toNat
def rdN (x:IN) (a k:Int):Nat:=(min k (x.size-min a x.size)).toNat
def zfx (g:RG) (n a k:Int):Int:=if za1 g.ns n≠0 then za1 g.ns n else if a<0∨k<0 then 1 else 0
def zfc (g:RG) (n a k:Int):List UInt8:=if zfx g n a k=0 then ((zam g.bs (za0 g.ns n).ext).drop (zt8 (za0 g.ns n) a)).take (rdN (za0 g.ns n) a k) else []
def ztq (S:World→Prop) (F:Nat→Prop) (w:World) (xs:List UInt8) (E:Int) (e:Ending) (w':World):Prop:=S w'∧Keeps F w w' ∧
 ∃ A c,e=.returned (.tuple #[.slice A xs.length c,.int .i64 E])∧BR w' w'.heap.size A xs∧∀ ad,A=some ad→w.heap.size≤ad.block
set_option maxRecDepth 100000 in
theorem yey (h:MemC v S F w BS)(ho:okR BS)(n a k:Int)(h0:za1 (zaa BS) n≠0):
  Calls Tryz.prog 56 #[.pointer v,.int .i64 n,.int .i64 a,.int .i64 k] w (ztq S F w [] (za1 (zaa BS) n)):=by
 have HC:=zq (zc2 h)
 have HO:=zq ho
 have HST:=zq h.st
 clear h ho
 go_enter Tryz.func56,Tryz.ntmps56
 go_wp2_with fail
 refine HC.out.mono ?_
 rintro e w1 ⟨hs,hk1,⟨-,r,l,rfl,hr,hreg,hns⟩|⟨ho,-⟩⟩
 rotate_left
 ·exact absurd HO.out ho
 have hf:=zgi hreg n
 unfold zby at hf
 have hx:=zj2 l n
 have hdk:=zk6 hreg n
 rw[hns] at hf hx
 have HF:=zq hf
 have HS:=zq hs
 have HK:=zq hk1
 have HREG:=zq hreg
 have HX:=zq hx
 have HDK:=zq hdk
 clear hs hk1 hf hx hdk hreg
 generalize zcu l n=d at *
 generalize za1 (zaa BS) n=E at *
 have HG:Hid (∀ w2,Below w1.heap.size w1 w2→ztq S F w [] E (.returned (.tuple #[.slice none 0 0,.int .i64 E])) w2):=fun w2 b2 =>
  ⟨HST.out w1 _ HS.out HK.out.size (zac b2),HK.out.trans (zac b2),none,0,rfl,BR.nil,fun _ e=>by cases e⟩
 go_wp2_with fail
 refine HF.out.mono ?_
 rintro e w2 ⟨rfl,b2⟩
 have hgo:=zq (HG.out _ (b2.trans ((bA w2 (.cells #[St d.x.name,.int .i64 d.x.size,.slice d.A d.x.ext.length d.c] 113)).mono b2.size)))
 have d0:(E != 0)=true:=by simpa using h0
 clear b2 HC HF HG h0
 go_wp2_with fail
 go_ret2
 exact hgo.out
set_option maxRecDepth 100000 in
theorem ya6 (h:MemC v S F w BS)(ho:okR BS)(n a k:Int)(h0:za1 (zaa BS) n=0)(h1:a<0∨k<0):
  Calls Tryz.prog 56 #[.pointer v,.int .i64 n,.int .i64 a,.int .i64 k] w (ztq S F w [] 1):=by
 have HC:=zq (zc2 h)
 have HO:=zq ho
 have HST:=zq h.st
 clear h ho
 go_enter Tryz.func56,Tryz.ntmps56
 go_wp2_with fail
 refine HC.out.mono ?_
 rintro e w1 ⟨hs,hk1,⟨-,r,l,rfl,hr,hreg,hns⟩|⟨ho,-⟩⟩
 rotate_left
 ·exact absurd HO.out ho
 have hf:=zgi hreg n
 unfold zby at hf
 have hx:=zj2 l n
 have hdk:=zk6 hreg n
 rw[hns] at hf hx
 have HF:=zq hf
 have HS:=zq hs
 have HK:=zq hk1
 have HREG:=zq hreg
 have HX:=zq hx
 have HDK:=zq hdk
 clear hs hk1 hf hx hdk hreg
 generalize zcu l n=d at *
 rw[h0] at HF
 have HG:Hid (∀ w2,Below w1.heap.size w1 w2→ztq S F w [] 1 (.returned (.tuple #[.slice none 0 0,.int .i64 1])) w2):=fun w2 b2 =>
  ⟨HST.out w1 _ HS.out HK.out.size (zac b2),HK.out.trans (zac b2),none,0,rfl,BR.nil,fun _ e=>by cases e⟩
 go_wp2_with fail
 refine HF.out.mono ?_
 rintro e w2 ⟨rfl,b2⟩
 have hgo:=zq (HG.out _ (b2.trans ((bA w2 (.cells #[St d.x.name,.int .i64 d.x.size,.slice d.A d.x.ext.length d.c] 113)).mono b2.size)))
 clear b2 HC HF HG
 by_cases h2:a<0
 ·have d1:decide (a<0)=true:=by simpa using h2
  go_wp2_with fail
  go_ret2
  exact hgo.out
 ·have d1:decide (a<0)=false:=by simpa using h2
  have d2:decide (k<0)=true:=by simp;omega
  go_wp2_with fail
  go_ret2
  exact hgo.out
set_option maxRecDepth 100000 in
theorem ya5 (h:MemC v S F w BS)(ho:okR BS)(hg:RGood ⟨BS,zaa BS⟩)(n a k:Int)(h0:za1 (zaa BS) n=0)(ha:0≤a∧a≤9223372036854775807)(hk:0≤k∧k≤9223372036854775807):
  Calls Tryz.prog 56 #[.pointer v,.int .i64 n,.int .i64 a,.int .i64 k] w (ztq S F w (((zam BS (za0 (zaa BS) n).ext).drop (zt8 (za0 (zaa BS) n) a)).take (rdN (za0 (zaa BS) n) a k)) 0):=by
 have HGD:=zq hg
 clear hg
 generalize hxs:((zam BS (za0 (zaa BS) n).ext).drop (zt8 (za0 (zaa BS) n) a)).take (rdN (za0 (zaa BS) n) a k)=xs
 have HXS:=zq hxs
 clear hxs
 have HC:=zq (zc2 h)
 have HO:=zq ho
 have HST:=zq h.st
 clear h ho
 go_enter Tryz.func56,Tryz.ntmps56
 go_wp2_with fail
 refine HC.out.mono ?_
 rintro e w1 ⟨hs,hk1,⟨-,r,l,rfl,hr,hreg,hns⟩|⟨ho,-⟩⟩
 rotate_left
 ·exact absurd HO.out ho
 have hf:=zgi hreg n
 unfold zby at hf
 have hx:=zj2 l n
 have hdk:=zk6 hreg n
 rw[hns] at hf hx
 have HF:=zq hf
 have HS:=zq hs
 have HK:=zq hk1
 have HREG:=zq hreg
 have HX:=zq hx
 have HDK:=zq hdk
 clear hs hk1 hf hx hdk hreg
 generalize zcu l n=d at *
 rw[h0] at HF
 have ex:za0 (zaa BS) n=at' (zaa BS) n.toNat:=by unfold za0;rw[zp h0]
 obtain⟨hn,fn⟩:=nodeE_zero.1 h0
 have hsz:=HGD.out.size (i:=n.toNat) (by omega)
 rw[show(⟨BS,zaa BS⟩:RG).ns=zaa BS from rfl,← ex,← HX.out] at hsz
 obtain⟨⟨z0,z1⟩,-,z2⟩:=hsz
 have hxs:=HXS.out
 rw[← HX.out] at hxs
 clear ex fn h0 hn HXS
 have ea:(((zt8 d.x a:Nat)):Int)=min a d.x.size:=by unfold zt8;omega
 have ek:(((rdN d.x a k:Nat)):Int)=min k (d.x.size-min a d.x.size):=by unfold rdN;omega
 have hfit:zt8 d.x a+rdN d.x a k≤64*(za4 d.x.ext).length:=by omega
 have HD:Hid (∀ W (X Y:Int),Below w1.heap.size w1 W→X=(zt8 d.x a:Nat)→Y=(rdN d.x a k:Nat)→Calls Tryz.prog 105 #[.pointer (some ⟨r,0,none⟩),Ino.ag d.x d.A d.c,.int .i64 X,.int .i64 Y] W (GivesN W xs)):=fun W X Y b e1 e2=>by
  rw[e1,e2,← hxs]
  exact yfc (HREG.out.below b) d ((HDK.out.keeps (zav r b) HDK.out.no)) (zt8 d.x a) (rdN d.x a k) hfit
 have d1:decide (a<0)=false:=by simp;omega
 have d2:decide (k<0)=false:=by simp;omega
 have HR:Hid (∀ (xs:List UInt8) (g c:Nat) w2 w3,Below w1.heap.size w1 w2→BR w3 w3.heap.size (some ⟨g,0,none⟩) xs→w2.heap.size≤g→Below w2.heap.size w2 w3→ztq S F w xs 0 (.returned (.tuple #[.slice (some ⟨g,0,none⟩) xs.length c,.int .i64 0])) w3):=fun xs g c w2 w3 b2 br hg b3 =>
  have b:=b2.trans (b3.mono b2.size)
  ⟨HST.out w1 _ HS.out HK.out.size (zac b),HK.out.trans (zac b),some ⟨g,0,none⟩,c,rfl,br,fun ad e=>by cases e;show w.heap.size≤g;have:=HK.out.size;have:=b2.size;omega⟩
 clear hxs
 have EA:=zq ea
 have EK:=zq ek
 clear hfit ea ek z2
 generalize zt8 d.x a=ra at *
 generalize rdN d.x a k=rk at *
 go_wp2_with fail
 refine HF.out.mono ?_
 rintro e w2 ⟨rfl,b2⟩
 have hbx:=heap_alloc_new w2 (.cells #[St d.x.name,.int .i64 d.x.size,.slice d.A d.x.ext.length d.c] 113)
 have B2:=zq (b2.trans ((bA w2 (.cells #[St d.x.name,.int .i64 d.x.size,.slice d.A d.x.ext.length d.c] 113)).mono b2.size))
 have cs:(w2.alloc (.cells #[St d.x.name,.int .i64 d.x.size,.slice d.A d.x.ext.length d.c] 113)).cell? ⟨w2.heap.size,1,none⟩=some (.int .i64 d.x.size):=by rw[cell_of_row _ _ _ _ _ _ hbx];rfl
 clear b2 HC HF hbx
 go_wp2_with fail
 all_goals refine(HD.out _ _ _ B2.out (by have:=EA.out;have:=EK.out;omega) (by have:=EA.out;have:=EK.out;omega)).mono ?_
 all_goals rintro e w3 ⟨gd,cd,rfl,hg1,hg2,br,b3,-⟩
 all_goals have hgo:=zq (HR.out xs gd cd _ w3 B2.out br hg1 b3)
 all_goals clear br b3 HR
 all_goals go_wp2_with fail
 all_goals go_ret2
 all_goals exact hgo.out
theorem ya7 (h:MemC v S F w BS)(ho:okR BS)(hg:RGood ⟨BS,zaa BS⟩)(n a k:Int)(ha:-9223372036854775808≤a∧a≤9223372036854775807)(hk:-9223372036854775808≤k∧k≤9223372036854775807):
  Calls Tryz.prog 56 #[.pointer v,.int .i64 n,.int .i64 a,.int .i64 k] w (ztq S F w (zfc ⟨BS,zaa BS⟩ n a k) (zfx ⟨BS,zaa BS⟩ n a k)):=by
 by_cases h0:za1 (zaa BS) n=0
 ·by_cases h1:a<0∨k<0
  ·have hE:zfx ⟨BS,zaa BS⟩ n a k=1:=by unfold zfx;rw[zn (by simp only;rw[h0];decide),zp h1]
   have hX:zfc ⟨BS,zaa BS⟩ n a k=[]:=by unfold zfc;rw[hE,zn (by decide)]
   rw[hE,hX]
   exact ya6 h ho n a k h0 h1
  ·have hE:zfx ⟨BS,zaa BS⟩ n a k=0:=by unfold zfx;rw[zn (by simp only;rw[h0];decide),zn h1]
   have hX:zfc ⟨BS,zaa BS⟩ n a k=((zam BS (za0 (zaa BS) n).ext).drop (zt8 (za0 (zaa BS) n) a)).take (rdN (za0 (zaa BS) n) a k):=by unfold zfc;rw[hE,zp rfl]
   rw[hE,hX]
   exact ya5 h ho hg n a k h0 ⟨by omega,ha.2⟩ ⟨by omega,hk.2⟩
 ·have hE:zfx ⟨BS,zaa BS⟩ n a k=za1 (zaa BS) n:=by unfold zfx;rw[zp h0]
  have hX:zfc ⟨BS,zaa BS⟩ n a k=[]:=by unfold zfc;rw[hE,zn h0]
  rw[hE,hX]
  exact yey h ho n a k h0
end Fs
section
open Go.RowKit
variable {P:Program} {ops:Array Oper} {Q:Exit→Act→World→Prop} {md:Region.Mode}
end
namespace Fs
open Go.RowKit Go.Shelf Ex Ino Mm
structure FD where
 name:List UInt8
 g:Nat
 c:Nat
 xs:List UInt8
def fcl (d:FD):List Value:=[St d.name,.slice (some ⟨d.g,0,none⟩) d.xs.length d.c]
end Fs
namespace Fs
open Go.RowKit Go.Shelf Ex Ino Mm
end Fs
section
open Go.RowKit
section
variable {P:Program} {ops:Array Oper} {Q:Exit→Act→World→Prop} {md:Region.Mode} {S:World→Prop} {z:Nat}
end
end
namespace Fs
open Go.RowKit Go.Shelf Ex Ino Mm
attribute [local go_sem] Oper.semAt_some
variable {v:Option Addr} {S:World→Prop} {F:Nat→Prop} {BS:List UInt8}
end Fs
namespace Mm
open Go.RowKit Go.Maps
def zdo (xs:List UInt8):List UInt8:=zj6 xs 0 8192
theorem zdq (xs:List UInt8):(zdo xs).length=8192:=zda _ _ _
theorem zxk (n k:Nat):(List.replicate n (0:UInt8)).getD k 0=0:=by
 rw[List.getD_eq_getElem?_getD,List.getElem?_replicate]
 split<;>rfl
theorem zlr (xs:List UInt8)(h:xs.length≤8192):splice (List.replicate 8192 0) 0 xs=zdo xs:=by
 have hl:(splice (List.replicate 8192 (0:UInt8)) 0 xs).length=8192:=by
  unfold splice
  simp only[List.length_append,List.length_take,List.length_drop,List.length_replicate]
  omega
 refine za7 (by rw[hl,zdq]) fun k hk=>?_
 rw[hl] at hk
 unfold zdo
 rw[getD_splice _ _ _ _ (by rw[List.length_replicate];omega),zdj _ _ _ _ hk,zn (by omega),zcl _ _ (by omega),show((0:Int)+k).toNat=k by omega]
 have hz:=zxk 8192 k
 by_cases h1:k<0+xs.length
 ·rw[zp h1]
  congr 1
 ·rw[zn h1,hz]
  rw[List.getD_eq_getElem?_getD,List.getElem?_eq_none (by omega)]
  rfl
theorem ybc (xs:List UInt8)(h:8192<xs.length):zdo (xs.take 8192)=zdo xs:=by
 refine za7 (by rw[zdq,zdq]) fun k hk=>?_
 rw[zdq] at hk
 unfold zdo
 rw[zdj _ _ _ _ hk,zdj _ _ _ _ hk,zcl _ _ (by omega),zcl _ _ (by omega),show((0:Int)+k).toNat=k by omega]
 simp only[List.getD_eq_getElem?_getD]
 rw[List.getElem?_take_of_lt hk]
theorem zov {w:World} (g c:Nat)(A:Option Addr)(xs:List UInt8)(hr:Row8 w g 5 (List.replicate 8192 0))(hx:BR w w.heap.size A xs):
  ∃ n w',(Builtin.copy_ #[31,31] 3 #[.slice (some ⟨g,0,none⟩) 8192 8192,.slice A xs.length c]).run Tryz.prog w=.ok (.int .i64 n) w'∧Row8 w' g 5 (zdo xs)∧Keeps (fun k=>k=g) w w':=by
 by_cases h:xs.length≤8192
 ·obtain⟨w',h1,h2,h3⟩:=zlw (P:=Tryz.prog) w 31 31 3 5 5 Tryz.underlying31 zis g 0 8192 8192 (some ⟨g,0,none⟩) _ xs A c _ (fun _=>rfl) hr hx h (by rw[List.length_replicate];omega)
  rw[zlr xs h] at h2
  exact⟨_,w',h1,h2,Keeps.grown _ h3 (fun k e=>by cases e;rfl)⟩
 ·have hne:xs≠[]:=by intro e;rw[e] at h;simp at h
  obtain⟨ad,rfl,_,_⟩:=hx hne
  have hl:(xs.take 8192).length=8192:=by rw[List.length_take];omega
  obtain⟨w',h1,h2,h3⟩:=zhg (P:=Tryz.prog) w 31 31 3 5 5 Tryz.underlying31 zis g 0 8192 8192 _ (xs.take 8192) ad xs.length c hr (hx.take 8192) (by rw[hl];omega) (by rw[hl,List.length_replicate];omega) (by intro e;rw[e] at hl;cases hl)
  rw[zlr _ (by omega),ybc xs (by omega)] at h2
  exact⟨_,w',h1,h2,Keeps.grown _ h3 (fun k e=>by cases e;rfl)⟩
theorem zio {P:Program} {w w':World} {ops:Array Oper} {rest:List Oper} {o:Oper} {a:Act} {Q:Exit→Act→World→Prop} (hgd:o.guard=none)(t:TypeId)(x:Operand)(ho:o.op=.build t #[(1,x)])(u v:Value)(hx:a.eval x=u)
  (hrun:(Instr.build t #[(1,u)]).run P w=.ok v w') (h:wpList P ops Q rest (a.put o.dst v) w'):wpList P ops Q (o::rest) a w:=
 wpList_plain hgd fun _ hK=>by
  unfold Oper.wp execOp
  simp only[ho,Sem.run_bind,List.map_toArray,List.map_cons,List.map_nil,hx,hrun,Result.andThen_ok,Sem.run_pure]
  exact hK _ _ h
theorem zin {P:Program} {w w':World} {ops:Array Oper} {rest:List Oper} {o:Oper} {a:Act} {Q:Exit→Act→World→Prop} (hgd:o.guard=none)(t:TypeId)(x y:Operand)(ho:o.op=.build t #[(0,x),(1,y)])(u u' v:Value)(hx:a.eval x=u)(hy:a.eval y=u')
  (hrun:(Instr.build t #[(0,u),(1,u')]).run P w=.ok v w') (h:wpList P ops Q rest (a.put o.dst v) w'):wpList P ops Q (o::rest) a w:=
 wpList_plain hgd fun _ hK=>by
  unfold Oper.wp execOp
  simp only[ho,Sem.run_bind,List.map_toArray,List.map_cons,List.map_nil,hx,hy,hrun,Result.andThen_ok,Sem.run_pure]
  exact hK _ _ h
theorem zkr {P:Program} {w w':World} {ops:Array Oper} {rest:List Oper} {o:Oper} {a:Act} {Q:Exit→Act→World→Prop} (hgd:o.guard=none)(t:TypeId)(n c:Operand)(ho:o.op=.makeSlice t n c)(x y v:Value)(hx:a.eval n=x)(hy:a.eval c=y)
  (hrun:(Instr.makeSlice t x y).run P w=.ok v w') (h:wpList P ops Q rest (a.put o.dst v) w'):wpList P ops Q (o::rest) a w:=
 wpList_plain hgd fun _ hK=>by
  unfold Oper.wp execOp
  simp only[ho,Sem.run_bind,hx,hy,hrun,Result.andThen_ok,Sem.run_pure]
  exact hK _ _ h
theorem buildS (w:World)(gb:Nat):(Instr.build 51 #[(1,.slice (some ⟨gb,0,none⟩) 8192 8192)]).run Tryz.prog w=.ok (.agg #[.pointer none,.slice (some ⟨gb,0,none⟩) 8192 8192]) w:=by kernel_rfl
theorem buildM (w:World)(gb mb:Nat):(Instr.build 55 #[(0,.agg #[.pointer none,.slice (some ⟨gb,0,none⟩) 8192 8192]),(1,.map (some mb))]).run Tryz.prog w=.ok (.agg (zem gb mb (List.replicate 128 false)).toArray) w:=by kernel_rfl
theorem boxM (w:World)(gb mb:Nat):(Instr.box 55 (.agg (zem gb mb (List.replicate 128 false)).toArray)).run Tryz.prog w=.ok (.pointer (some ⟨w.heap.size,0,none⟩)) (w.alloc (.cells (zem gb mb (List.replicate 128 false)).toArray 55)):=rfl
def MadeM (w:World) (xs:List UInt8) (e:Ending) (w':World):Prop:=∃ p gb mb,e=.returned (.pointer (some ⟨p,0,none⟩))∧w.heap.size≤p∧w.heap.size≤gb∧w.heap.size≤mb∧MemAt w' p gb mb (zdo xs) (zdo xs)∧Keeps (fun _=>False) w w'
theorem mem_of (w:World)(gb:Nat)(G:List UInt8)(hg:G.length=8192)(hr:w.heap[gb]?=some (.cells (G.map B8).toArray 5 (0,0))):
  MemAt ((w.alloc (.map #[] 0)).alloc (.cells (zem gb w.heap.size (List.replicate 128 false)).toArray 55)) (w.heap.size+1) gb w.heap.size G G:=by
 have hlt:=(Array.getElem?_eq_some_iff.1 hr).1
 refine⟨hg,hg,⟨List.replicate 128 false,by simp,heap_alloc2_new w _ _⟩,?_,⟨fun _=>none,?_,⟨fun i hi x h=>by simp at h,fun _ _ _=>rfl⟩⟩⟩
 ·rw[Below.heap_alloc _ _ _ (by simp;omega),Below.heap_alloc _ _ _ hlt]
  exact hr
 ·exact MapF.tight ((MapF.made ydn w).keep (Below.heap_alloc _ _ _ (by simp)))
set_option maxRecDepth 100000 in
theorem zmb (A:Option Addr)(xs:List UInt8)(c:Nat)(w:World)(hx:BR w w.heap.size A xs):Calls Tryz.prog 7 #[.slice A xs.length c] w (MadeM w xs):=by
 have hmk:∀ w:World,(Instr.makeSlice 31 (.int .i64 8192) (.int .i64 8192)).run Tryz.prog w=.ok (.slice (some ⟨w.heap.size,0,none⟩) 8192 8192) (w.alloc (.cells (madeCells #[.int .u8 0] 8192) 5)):=zfq 8192 (by omega)
 have k1:Keeps (fun _=>False) w (w.alloc (.cells (madeCells #[.int .u8 0] 8192) 5)):=Keeps.alloc _ _ _
 have r1:=Row8.made w 8192 5
 have s1:w.heap.size<(w.alloc (.cells (madeCells #[.int .u8 0] 8192) 5)).heap.size:=by simp
 have hx1:BR (w.alloc (.cells (madeCells #[.int .u8 0] 8192) 5)) (w.alloc (.cells (madeCells #[.int .u8 0] 8192) 5)).heap.size A xs:=k1.br hx fun _ _ _ h=>h
 have MK:=zq (hmk w)
 generalize w.alloc (.cells (madeCells #[.int .u8 0] 8192) 5)=w1 at *
 obtain⟨n,w2,cp,r2,k2⟩:=zov w.heap.size c A xs r1 hx1
 have hm:=mem_of w2 w.heap.size (zdo xs) (zdq xs) r2.block
 have HM:=zq hm
 have K2:=zq (Keeps.thru (F'':=fun _=>False) k1 k2 (fun _ _ h=>h) fun _ _ h=>by omega)
 have hmm:=@run_makeMap Tryz.prog
 have S2:=zq (Nat.le_trans (Nat.le_of_lt s1) k2.size)
 clear hmk k1 r1 hx hx1 hm r2 k2 s1
 go_enter Tryz.func7,Tryz.ntmps7
 go_wp2_with (first
  | ((with_reducible refine zd5 (op:=.makeSlice 31 (.const (.int .i64 8192)) (.const (.int .i64 8192))) ?_);refine zkr rfl 31 _ _ rfl _ _ _ rfl rfl MK.out ?_)
  | ((with_reducible refine zd5 (op:=.build 51 #[(1,.tmp 8)]) ?_);refine zio rfl 51 _ rfl _ _ rfl (buildS _ _) ?_)
  | ((with_reducible refine zd5 (op:=.build 55 #[(0,.tmp 9),(1,.tmp 10)]) ?_);refine zin rfl 55 _ _ rfl _ _ _ rfl rfl (buildM _ _ _) ?_)
  | ((with_reducible refine zd5 (op:=.box 55 (.tmp 11)) ?_);refine zhy rfl 55 _ rfl _ _ rfl (boxM _ _ _) ?_))
 go_ret
 exact⟨_,_,_,rfl,by have:=S2.out;omega,Nat.le_refl _,S2.out,HM.out,K2.out.trans ((Keeps.alloc _ _ _).trans (Keeps.alloc _ _ _))⟩
def MadeR (w:World) (mi:Nat) (xs:List UInt8) (e:Ending) (w':World):Prop:=∃ q,e=.returned (.pointer (some ⟨q,0,none⟩))∧MRefAt w' mi q (zdo xs) (zdo xs)∧Keeps (fun _=>False) w w'
theorem zqg {w W:World} (b d:Nat)(A:Option Addr)(xs:List UInt8)(c:Nat)(hx:BR W W.heap.size A xs)(hk:Keeps (fun _=>False) w W)(hA:∀ ad,A=some ad→xs≠[]→ad.block<w.heap.size)
  (hb:Row8 W b 5 (List.replicate 8192 0)) (hd:Row8 W d 5 (List.replicate 8192 0)) (q:Nat) (hh:W.heap[q]?=some (.cells (zfj b 8192 d 8192) 38 (0,0)))
  (b1:w.heap.size≤b) (d1:w.heap.size≤d) (q1:w.heap.size≤q) (bd:b≠d) (bq:b≠q) (dq:d≠q):
  W.cell? ⟨q,0,none⟩=some (.slice (some ⟨b,0,none⟩) 8192 8192)∧∃ n1 w4,(Builtin.copy_ #[31,31] 3 #[.slice (some ⟨b,0,none⟩) 8192 8192,.slice A xs.length c]).run Tryz.prog W=.ok (.int .i64 n1) w4 ∧
   w4.cell? ⟨q,1,none⟩=some (.slice (some ⟨d,0,none⟩) 8192 8192)∧∃ n2 w5,(Builtin.copy_ #[31,31] 3 #[.slice (some ⟨d,0,none⟩) 8192 8192,.slice A xs.length c]).run Tryz.prog w4=.ok (.int .i64 n2) w5 ∧
   MRefAt w5 w.heap.size q (zdo xs) (zdo xs)∧Keeps (fun _=>False) w w5:=by
 have ql:=(Array.getElem?_eq_some_iff.1 hh).1
 obtain⟨n1,w4,c1,r4,k4⟩:=zov b c A xs hb hx
 have hx4:BR w4 w4.heap.size A xs:=k4.br hx fun ad e hn h=>by
  have:=hA ad e hn
  omega
 have hd4:Row8 w4 d 5 (List.replicate 8192 0):=Row8.of_block ((k4.block d hd.lt_ (fun e=>bd e.symm)).trans hd.block)
 have hh4:=(k4.block q ql (fun e=>bq e.symm)).trans hh
 obtain⟨n2,w5,c2,r5,k5⟩:=zov d c A xs hd4 hx4
 have hb5:Row8 w5 b 5 (zdo xs):=Row8.of_block ((k5.block b r4.lt_ bd).trans r4.block)
 have hh5:=(k5.block q (Nat.lt_of_lt_of_le ql k4.size) (fun e=>dq e.symm)).trans hh4
 have kW:Keeps (fun _=>False) w w5:=Keeps.thru (F'':=fun _=>False) (Keeps.thru (F'':=fun _=>False) hk k4 (fun _ _ h=>h) fun i hi h=>by omega) k5 (fun _ _ h=>h) fun i hi h=>by omega
 have fl:=zdq xs
 have ob:=Own8.of_row hb5 b1 (by omega)
 have od:=Own8.of_row r5 d1 (by omega)
 rw[fl] at ob od
 refine⟨by rw[cell_of_row _ _ _ _ _ _ hh];rfl,n1,w4,c1,by rw[cell_of_row _ _ _ _ _ _ hh4];rfl,n2,w5,c2,⟨b,8192,d,8192,⟨q1,fl,fl,hh5,ob,od,bq,dq,bd⟩⟩,kW⟩
set_option maxRecDepth 100000 in
theorem zy4 (A:Option Addr)(xs:List UInt8)(c:Nat)(w:World)(hx:BR w w.heap.size A xs):Calls Tryz.prog 8 #[.slice A xs.length c] w (MadeR w w.heap.size xs):=by
 have hmk:∀ w:World,(Instr.makeSlice 31 (.int .i64 8192) (.int .i64 8192)).run Tryz.prog w=.ok (.slice (some ⟨w.heap.size,0,none⟩) 8192 8192) (w.alloc (.cells (madeCells #[.int .u8 0] 8192) 5)):=zfq 8192 (by omega)
 go_enter Tryz.func8,Tryz.ntmps8
 go_wp2_with fail
 have m1:=Row8.made w 8192 5
 have m2:=Row8.made (w.alloc (.cells (madeCells #[.int .u8 0] 8192) 5)) 8192 5
 rw[World.size_alloc] at m2
 have ka:Keeps (fun _=>False) w (w.alloc (.cells (madeCells #[.int .u8 0] 8192) 5)):=Keeps.alloc _ _ _
 have m1':Row8 ((w.alloc (.cells (madeCells #[.int .u8 0] 8192) 5)).alloc (.cells (madeCells #[.int .u8 0] 8192) 5)) w.heap.size 5 (List.replicate 8192 0):=Row8.of_block ((Below.heap_alloc _ _ _ m1.lt_).trans m1.block)
 have M1:=zq m1'
 have M2:=zq m2
 have HA:=zq (fun ad (e:A=some ad) (hn:xs≠[])=>show ad.block<w.heap.size by
  obtain⟨ad',e',hb,_⟩:=hx hn
  rw[e] at e'
  cases e'
  exact hb)
 have HX:=zq hx
 clear m1 m2 m1' ka hx
 generalize hz:madeCells #[.int .u8 0] 8192=zz at *
 clear hz
 go_region
 ·obtain⟨c0,n1,w4,cp1,c1,n2,w5,cp2,hR,hK⟩:=zqg (w:=w) (W:=(((w.alloc (.cells zz 5)).alloc (.cells zz 5)).alloc (.cells (zfj w.heap.size 8192 (w.heap.size+1) 8192) 38)).drew) w.heap.size (w.heap.size+1) A xs c
   ((((Keeps.alloc _ _ _).trans (Keeps.alloc _ _ _)).trans ((Keeps.alloc (fun _=>False) _ _).trans (Keeps.drew _ _))).br HX.out fun _ _ _ h=>h)
   (((Keeps.alloc _ _ _).trans (Keeps.alloc _ _ _)).trans ((Keeps.alloc (fun _=>False) _ _).trans (Keeps.drew _ _))) HA.out
   (Row8.of_block ((Below.heap_alloc _ _ _ M1.out.lt_).trans M1.out.block)) (Row8.of_block ((Below.heap_alloc _ _ _ M2.out.lt_).trans M2.out.block)) (w.heap.size+1+1)
   (by
    have:=heap_alloc_new ((w.alloc (.cells zz 5)).alloc (.cells zz 5)) (.cells (zfj w.heap.size 8192 (w.heap.size+1) 8192) 38)
    simp only[World.size_alloc] at this
    exact this) (by omega) (by omega) (by omega) (by omega) (by omega) (by omega)
  unfold zfj at c0 cp1
  generalize (((w.alloc (.cells zz 5)).alloc (.cells zz 5)).alloc (.cells #[.slice (some ⟨w.heap.size,0,none⟩) 8192 8192,.slice (some ⟨w.heap.size+1,0,none⟩) 8192 8192,.bool false] 38)).drew=W at *
  have HR:=zq hR
  have HK:=zq hK
  clear hR hK HA HX M1 M2
  go_wp2_with fail
  go_ret
  exact⟨_,rfl,HR.out,HK.out⟩
 ·obtain⟨c0,n1,w4,cp1,c1,n2,w5,cp2,hR,hK⟩:=zqg (w:=w) (W:=(((w.alloc (.cells zz 5)).alloc (.cells zz 5)).alloc (.cells (zfj (w.heap.size+1) 8192 w.heap.size 8192) 38)).drew) (w.heap.size+1) w.heap.size A xs c
   ((((Keeps.alloc _ _ _).trans (Keeps.alloc _ _ _)).trans ((Keeps.alloc (fun _=>False) _ _).trans (Keeps.drew _ _))).br HX.out fun _ _ _ h=>h)
   (((Keeps.alloc _ _ _).trans (Keeps.alloc _ _ _)).trans ((Keeps.alloc (fun _=>False) _ _).trans (Keeps.drew _ _))) HA.out
   (Row8.of_block ((Below.heap_alloc _ _ _ M2.out.lt_).trans M2.out.block)) (Row8.of_block ((Below.heap_alloc _ _ _ M1.out.lt_).trans M1.out.block)) (w.heap.size+1+1)
   (by
    have:=heap_alloc_new ((w.alloc (.cells zz 5)).alloc (.cells zz 5)) (.cells (zfj (w.heap.size+1) 8192 w.heap.size 8192) 38)
    simp only[World.size_alloc] at this
    exact this) (by omega) (by omega) (by omega) (by omega) (by omega) (by omega)
  unfold zfj at c0 cp1
  generalize (((w.alloc (.cells zz 5)).alloc (.cells zz 5)).alloc (.cells #[.slice (some ⟨w.heap.size+1,0,none⟩) 8192 8192,.slice (some ⟨w.heap.size,0,none⟩) 8192 8192,.bool false] 38)).drew=W at *
  have HR:=zq hR
  have HK:=zq hK
  clear hR hK HA HX M1 M2
  go_wp2_with fail
  go_ret
  exact⟨_,rfl,HR.out,HK.out⟩
end Mm
namespace Fs
open Go.RowKit Ex Ino Mm
theorem zht {w w':World} (k:Keeps (fun _=>False) w w'):Below w.heap.size w w':=k.toBelow _ (Nat.le_refl _) fun _ h=>h.elim
structure FilesAt (w:World) (B g:Nat) (fl:List (List UInt8 × List UInt8)):Prop where
 lt:g<w.heap.size
 lo:B≤g
 cs:∀ k,k<fl.length→∃ gd c,w.cell? ⟨g,k*2,none⟩=some (St (fl.getD k ([],[])).1)∧w.cell? ⟨g,k*2+1,none⟩=some (.slice (some ⟨gd,0,none⟩) (fl.getD k ([],[])).2.length c)∧BR w w.heap.size (some ⟨gd,0,none⟩) (fl.getD k ([],[])).2∧B≤gd
theorem FilesAt.keep {w w':World} {B g:Nat} {fl:List (List UInt8 × List UInt8)} {F:Nat→Prop} (h:FilesAt w B g fl)(k:Keeps F w w')(hF:∀ j,B≤j→¬F j):FilesAt w' B g fl:=by
 refine⟨Nat.lt_of_lt_of_le h.lt k.size,h.lo,fun i hi=>?_⟩
 obtain⟨gd,c,h1,h2,h3,h4⟩:=h.cs i hi
 exact⟨gd,c,(k.cell _ _ h.lt (hF _ h.lo)).trans h1,(k.cell _ _ h.lt (hF _ h.lo)).trans h2,k.br h3 (fun ad e hne=>by cases e;exact hF _ h4),h4⟩
end Fs
end Go.Proofs.YtdopfpcjpjlkmaaGreatDoor
