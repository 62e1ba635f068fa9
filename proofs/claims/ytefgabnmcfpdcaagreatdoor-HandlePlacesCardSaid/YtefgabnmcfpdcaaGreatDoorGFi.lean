/- merged -/
import Derived.Test.YtefgabnmcfpdcaaGreatDoorGFh
set_option maxHeartbeats 1000000
set_option linter.unusedSimpArgs false
set_option linter.unusedVariables false
namespace Go.Proofs.YtefgabnmcfpdcaaGreatDoor
namespace Fs
open Go.RowKit Ex Ino Mm
def ns0:List IN:=List.replicate 8 in0
theorem yfc (i:Nat):at' ns0 i=in0:=by
 unfold at' ns0
 rw[List.getD_eq_getElem?_getD,List.getElem?_replicate]
 split<;>rfl
theorem zud {BS:List UInt8} (h:BS.length=2048):RGood ⟨BS,ns0⟩:=by
 refine⟨h,by simp[ns0],fun i hi=>.inl (yfc i),fun i j hi hj hne hf _=>?_⟩
 rw[yfc] at hf
 exact absurd hf (by decide)
theorem ybw:zaq ns0=0:=by decide
theorem zp3:∀ n,(List.replicate n in0).flatMap zcb=List.replicate (64*n) 0
 | 0=>rfl
 | n+1=>by
  rw[List.replicate_succ,List.flatMap_cons,zp3 n,zis,show zr64=List.replicate 64 0 from rfl,List.replicate_append_replicate]
  congr 1
  omega
theorem zyw:ns0.flatMap zcb=List.replicate 512 0:=zp3 8
theorem zmc (BS:List UInt8):zai ⟨BS,ns0⟩=fmtB++BS.drop 576:=by
 unfold zai fmtB
 rw[show(⟨BS,ns0⟩:RG).ns=ns0 from rfl,ybw,zyw,List.append_assoc]
theorem ygh {M:List UInt8} (hm:M.length=8192):zcs M 6144 fmtB=zcs M 6144 (zai ⟨zab M,ns0⟩):=by
 have hl:=zks
 have hr:(zab M).length=2048:=by unfold zab;rw[List.length_drop];omega
 have hrg:∀ j,(zab M)[j]?=M[6144+j]?:=fun j=>by unfold zab;exact List.getElem?_drop ..
 have hb:(zai ⟨zab M,ns0⟩).length=2048:=by rw[zmc,List.length_append,List.length_drop];omega
 refine zba (by rw[zcf,zcf]) fun k hk=>?_
 rw[zcf] at hk
 rw[zcn _ _ _ _ hk,zcn _ _ _ _ hk,hl,hb]
 by_cases h1:k<6144
 ·rw[if_neg (by omega),if_neg (by omega)]
 have hbl:(fmtB++(zab M).drop 576).length=2048:=by rw[← zmc];exact hb
 rw[if_pos (show(6144:Int)≤k∧(k:Int)<6144+((2048:Nat):Int) by omega),zmc,zcw (fmtB++(zab M).drop 576) ((k:Int)-6144) (by omega)]
 by_cases h2:k<6720
 ·rw[if_pos (by omega),zcw fmtB ((k:Int)-6144) (by omega)]
  simp only[List.getD_eq_getElem?_getD]
  rw[List.getElem?_append_left (by omega)]
 ·rw[if_neg (by omega)]
  simp only[List.getD_eq_getElem?_getD]
  rw[List.getElem?_append_right (by omega),List.getElem?_drop,hrg,hl,show 6144+(576+(((k:Int)-6144).toNat-576))=k by omega]
structure Has (M:List UInt8) (g:RG):Prop where
 ml:M.length=8192
 ok:okR (zab M)
 eq:(⟨zab M,zaa (zab M)⟩:RG)=⟨zai g,g.ns⟩
theorem Has.lay {M:List UInt8} {g:RG} (hm:M.length=8192)(h:RGood g):Has (zcs M 6144 (zai g)) g:=by
 obtain⟨h1,h2,h3⟩:=zyd hm h
 exact⟨by rw[zcf];exact hm,h1,by rw[h2,h3]⟩
theorem Has.fmt {M:List UInt8} (hm:M.length=8192):Has (zcs M 6144 fmtB) ⟨zab M,ns0⟩:=by
 rw[ygh hm]
 exact Has.lay hm (zud (by unfold zab;rw[List.length_drop];omega))
end Fs
namespace Fs
open Go.RowKit Ex Ino Mm
def RenI (w:World) (f t:List UInt8) (W:World):Prop:=Boxed W w.heap.size 9 (St f)∧Boxed W (w.heap.size+1) 9 (St t)
def zmn (w:World):Array Value:=#[.pointer (some ⟨w.heap.size,0,none⟩),.pointer (some ⟨w.heap.size+1,0,none⟩)]
def renF (w:World):List (Nat × Array Value):=[(105,zmn w)]
def yfs (w:World) (f t:List UInt8):World:=((w.alloc (.cells #[St f] 9)).alloc (.cells #[St t] 9)).alloc (.cells #[.func (.func 105) #[] (zmn w)] 115)
set_option maxRecDepth 100000 in
theorem zrh {w:World} {r:Nat} {bs:List UInt8} {l:List ND} (h:RegAt w r bs l)(f t:List UInt8)(hf:f.length≤9223372036854775807)(ht:t.length≤9223372036854775807){q1 q2:Nat} (h1:Boxed w q1 9 (St f))(h2:Boxed w q2 9 (St t)):
  Calls Tryz.prog 105 #[.pointer (some ⟨r,0,none⟩),.pointer (some ⟨q1,0,none⟩),.pointer (some ⟨q2,0,none⟩)] w (zfl w r (zbe ⟨bs,zas l⟩ f t)):=by
 have HC:=hq (zvr h f t hf ht)
 have c1:=h1.cell
 have c2:=h2.cell
 clear h h1 h2
 generalize zbe ⟨bs,zas l⟩ f t=rv at *
 obtain⟨E,g2⟩:=rv
 go_enter Tryz.func105,Tryz.ntmps105
 go_wp2_with fail
 refine HC.out.mono ?_
 rintro e w2 ⟨rfl,hreg2,hk2⟩
 have HG:Hid (zfl w r (E,g2) (.returned (.int .i64 E)) w2):=⟨rfl,hreg2,hk2⟩
 clear hreg2 hk2 HC
 go_wp2_with fail
 go_ret
 exact HG.out
theorem zye {w:World} {p gb mb:Nat} {G M:List UInt8} (h:MemAt w p gb mb G M)(f t:List UInt8)(hf:f.length≤9223372036854775807)(ht:t.length≤9223372036854775807)(g0:RG):
  Steps (yfs w f t) p gb mb (fun _=>False) (w.heap.size+1+1) (renF w) [fun g=>zbe g f t] g0 (fun _ W=>RenI w f t W):=by
 obtain⟨l1,l2,l3⟩:=h.lt
 have hsz:(yfs w f t).heap.size=w.heap.size+1+1+1:=by unfold yfs;rw[World.size_alloc,World.size_alloc,World.size_alloc]
 have b0:Boxed (yfs w f t) w.heap.size 9 (St f):=((Boxed.new w 9 (St f)).alloc _).alloc _
 have b1:Boxed (yfs w f t) (w.heap.size+1) 9 (St t):=by
  have:=(Boxed.new (w.alloc (.cells #[St f] 9)) 9 (St t)).alloc (.cells #[.func (.func 105) #[] (zmn w)] 115)
  rwa [World.size_alloc] at this
 have b2:=Boxed.new ((w.alloc (.cells #[St f] 9)).alloc (.cells #[St t] 9)) 115 (.func (.func 105) #[] (zmn w))
 rw[World.size_alloc,World.size_alloc] at b2
 have hc0:∀ k,k<(renF w).length→k=0:=fun k hk=>by simp only[renF,List.length_singleton] at hk;omega
 refine⟨rfl,by show 1≤100;omega,fun k hk=>?_,fun k hk=>?_,⟨by omega,by omega,fun f=>f⟩,fun k f=>f.elim,fun W k=>?_,fun W W' k hI hk=>?_,fun k hk gk hgk W r l hr hI hK hreg hns=>?_⟩
 ·obtain rfl:=hc0 k hk
  exact enters_of Tryz.func105 (by kernel_rfl) rfl
 ·obtain rfl:=hc0 k hk
  exact b2.cell
 ·exact⟨(k.block _ b0.lt (by omega)).trans b0,(k.block _ b1.lt (by omega)).trans b1⟩
 ·exact⟨(hk.block _ (Boxed.lt hI.1) (by omega)).trans hI.1,(hk.block _ (Boxed.lt hI.2) (by omega)).trans hI.2⟩
 ·obtain rfl:=hc0 k hk
  have hg:gk=g0:=by simpa [zi8] using hgk.symm
  subst hg
  have he:(⟨gk.bs,zas l⟩:RG)=gk:=by rw[hns]
  have:=zrh hreg f t hf ht hI.1 hI.2
  rw[he] at this
  refine this.mono ?_
  rintro e w' ⟨rfl,⟨l',e1,e2⟩,e3⟩
  exact⟨l',rfl,e2,e1,e3.mono fun _ _ e=>.inl e,(e3.block _ (Boxed.lt hI.1) (fun e=>by omega)).trans hI.1,(e3.block _ (Boxed.lt hI.2) (fun e=>by omega)).trans hI.2⟩
set_option maxRecDepth 100000 in
theorem zr7 {w:World} {p gb mb:Nat} {G M:List UInt8} (h:MemAt w p gb mb G M)(ho:okR (zab M))(f t:List UInt8)(hf:f.length≤9223372036854775807)(ht:t.length≤9223372036854775807):
  Calls Tryz.prog 40 #[.pointer (some ⟨p,0,none⟩),St f,St t] w (zi7 w p gb mb G M (zbe ⟨zab M,zaa (zab M)⟩ f t)):=by
 have kw:Keeps (fun _=>False) w (yfs w f t):=Keeps.trans (Keeps.trans (Keeps.alloc _ _ _) (Keeps.alloc _ _ _)) (Keeps.alloc _ _ _)
 have hch:=zf1 (c:=1) (h.keep kw (fun f=>f) (fun f=>f) (fun f=>f)) ho (zye h f t hf ht ⟨zab M,zaa (zab M)⟩)
 have hv:=zg5 (fun g=>zbe g f t) ⟨zab M,zaa (zab M)⟩
 rw[hv] at hch
 have HC:=hq hch
 have HK:=hq kw
 clear hch kw h hv
 generalize hg0:(⟨zab M,zaa (zab M)⟩:RG)=g0 at *
 unfold yfs zmn at HC HK
 go_enter Tryz.func40,Tryz.ntmps40
 go_wp2_with fail
 refine HC.out.mono ?_
 rintro e w2 ⟨W,k,hk1,hI,rfl,h0,h1,hk2,hk3⟩
 dsimp only at h0 h1 ⊢
 generalize zbe g0 f t=rv at *
 have HG:Hid (zi7 w p gb mb G M rv (.returned (.int .i64 rv.1)) w2):=by
  refine⟨rfl,?_,(HK.out.mono fun _ _ f=>f.elim).trans (hk3.mono fun j _ f=>by rcases f with f | f | f;exact .inl f;exact .inr f;exact f.elim)⟩
  by_cases hE:rv.1=0
  ·rw[if_pos hE];exact(h0 hE).2
  ·rw[if_neg hE];exact h1 hE
 clear hI h0 h1 hk2 hk3 HC
 go_wp2_with fail
 go_ret
 exact HG.out
end Fs
namespace Fs
open Go.RowKit Ex Ino Mm
def RszI (w:World) (n s:Int) (W:World):Prop:=Boxed W w.heap.size 3 (.int .i64 n)∧Boxed W (w.heap.size+1) 3 (.int .i64 s)∧Tab W
def rszF (w:World):List (Nat × Array Value):=[(107,zmn w)]
def zo8 (w:World) (n s:Int):World:=((w.alloc (.cells #[.int .i64 n] 3)).alloc (.cells #[.int .i64 s] 3)).alloc (.cells #[.func (.func 107) #[] (zmn w)] 115)
set_option maxRecDepth 100000 in
theorem zhx {w:World} {r:Nat} {bs:List UInt8} {l:List ND} (h:RegAt w r bs l)(hg:RGood ⟨bs,zas l⟩)(hT:Tab w)(n s:Int){q1 q2:Nat} (h1:Boxed w q1 3 (.int .i64 n))(h2:Boxed w q2 3 (.int .i64 s)):
  Calls Tryz.prog 107 #[.pointer (some ⟨r,0,none⟩),.pointer (some ⟨q1,0,none⟩),.pointer (some ⟨q2,0,none⟩)] w (zfl w r (zah ⟨bs,zas l⟩ n s)):=by
 have hc:=zms h hg hT n s
 unfold zey at hc
 have HC:=hq hc
 clear hc
 have c1:=h1.cell
 have c2:=h2.cell
 clear h h1 h2 hg hT
 generalize zah ⟨bs,zas l⟩ n s=rv at *
 obtain⟨E,g2⟩:=rv
 go_enter Tryz.func107,Tryz.ntmps107
 go_wp2_with fail
 refine HC.out.mono ?_
 rintro e w2 ⟨rfl,hreg2,hk2⟩
 have HG:Hid (zfl w r (E,g2) (.returned (.int .i64 E)) w2):=⟨rfl,hreg2,hk2⟩
 clear hreg2 hk2 HC
 go_wp2_with fail
 go_ret
 exact HG.out
theorem zxz {w:World} {p gb mb:Nat} {G M:List UInt8} (h:MemAt w p gb mb G M)(hT:Tab w)(hmb:mb≠0)(n s:Int)(g0:RG)(hg0:RGood g0):
  Steps (zo8 w n s) p gb mb (fun _=>False) (w.heap.size+1+1) (rszF w) [fun g=>zah g n s] g0 (fun _ W=>RszI w n s W):=by
 obtain⟨l1,l2,l3⟩:=h.lt
 have ht0:=hT.pos
 have kw:Keeps (fun _=>False) w (zo8 w n s):=Keeps.trans (Keeps.trans (Keeps.alloc _ _ _) (Keeps.alloc _ _ _)) (Keeps.alloc _ _ _)
 have hT1:Tab (zo8 w n s):=hT.keep (kw.block 0 ht0 (fun f=>f))
 have hsz:(zo8 w n s).heap.size=w.heap.size+1+1+1:=by unfold zo8;rw[World.size_alloc,World.size_alloc,World.size_alloc]
 have b0:Boxed (zo8 w n s) w.heap.size 3 (.int .i64 n):=((Boxed.new w 3 (.int .i64 n)).alloc _).alloc _
 have b1:Boxed (zo8 w n s) (w.heap.size+1) 3 (.int .i64 s):=by
  have:=(Boxed.new (w.alloc (.cells #[.int .i64 n] 3)) 3 (.int .i64 s)).alloc (.cells #[.func (.func 107) #[] (zmn w)] 115)
  rwa [World.size_alloc] at this
 have b2:=Boxed.new ((w.alloc (.cells #[.int .i64 n] 3)).alloc (.cells #[.int .i64 s] 3)) 115 (.func (.func 107) #[] (zmn w))
 rw[World.size_alloc,World.size_alloc] at b2
 have hc0:∀ k,k<(rszF w).length→k=0:=fun k hk=>by simp only[rszF,List.length_singleton] at hk;omega
 refine⟨rfl,by show 1≤100;omega,fun k hk=>?_,fun k hk=>?_,⟨by omega,by omega,fun f=>f⟩,fun k f=>f.elim,fun W k=>?_,fun W W' k hI hk=>?_,fun k hk gk hgk W r l hr hI hK hreg hns=>?_⟩
 ·obtain rfl:=hc0 k hk
  exact enters_of Tryz.func107 (by kernel_rfl) rfl
 ·obtain rfl:=hc0 k hk
  exact b2.cell
 ·exact⟨(k.block _ b0.lt (by omega)).trans b0,(k.block _ b1.lt (by omega)).trans b1,hT1.keep (k.block 0 hT1.pos (by omega))⟩
 ·exact⟨(hk.block _ (Boxed.lt hI.1) (by omega)).trans hI.1,(hk.block _ (Boxed.lt hI.2.1) (by omega)).trans hI.2.1,hI.2.2.keep (hk.block 0 hI.2.2.pos (by omega))⟩
 ·obtain rfl:=hc0 k hk
  have hg:gk=g0:=by simpa [zi8] using hgk.symm
  subst hg
  have he:(⟨gk.bs,zas l⟩:RG)=gk:=by rw[hns]
  have:=zhx hreg (by rw[he];exact hg0) hI.2.2 n s hI.1 hI.2.1
  rw[he] at this
  refine this.mono ?_
  rintro e w' ⟨rfl,⟨l',e1,e2⟩,e3⟩
  exact⟨l',rfl,e2,e1,e3.mono fun _ _ e=>.inl e,(e3.block _ (Boxed.lt hI.1) (fun e=>by omega)).trans hI.1,(e3.block _ (Boxed.lt hI.2.1) (fun e=>by omega)).trans hI.2.1,hI.2.2.keep (e3.block 0 hI.2.2.pos (fun e=>by omega))⟩
set_option maxRecDepth 100000 in
theorem zh3 {w:World} {p gb mb:Nat} {G M:List UInt8} (h:MemAt w p gb mb G M)(ho:okR (zab M))(hT:Tab w)(hmb:mb≠0)(n s:Int):
  Calls Tryz.prog 42 #[.pointer (some ⟨p,0,none⟩),.int .i64 n,.int .i64 s] w (zi7 w p gb mb G M (zah ⟨zab M,zaa (zab M)⟩ n s)):=by
 have kw:Keeps (fun _=>False) w (zo8 w n s):=Keeps.trans (Keeps.trans (Keeps.alloc _ _ _) (Keeps.alloc _ _ _)) (Keeps.alloc _ _ _)
 have hch:=zf1 (c:=1) (h.keep kw (fun f=>f) (fun f=>f) (fun f=>f)) ho (zxz h hT hmb n s ⟨zab M,zaa (zab M)⟩ (zgd h.ml ho))
 have hv:=zg5 (fun g=>zah g n s) ⟨zab M,zaa (zab M)⟩
 rw[hv] at hch
 have HC:=hq hch
 have HK:=hq kw
 clear hch kw h hv hT
 generalize hg0:(⟨zab M,zaa (zab M)⟩:RG)=g0 at *
 unfold zo8 zmn at HC HK
 go_enter Tryz.func42,Tryz.ntmps42
 go_wp2_with fail
 refine HC.out.mono ?_
 rintro e w2 ⟨W,k,hk1,hI,rfl,h0,h1,hk2,hk3⟩
 dsimp only at h0 h1 ⊢
 generalize zah g0 n s=rv at *
 have HG:Hid (zi7 w p gb mb G M rv (.returned (.int .i64 rv.1)) w2):=by
  refine⟨rfl,?_,(HK.out.mono fun _ _ f=>f.elim).trans (hk3.mono fun j _ f=>by rcases f with f | f | f;exact .inl f;exact .inr f;exact f.elim)⟩
  by_cases hE:rv.1=0
  ·rw[if_pos hE];exact(h0 hE).2
  ·rw[if_neg hE];exact h1 hE
 clear hI h0 h1 hk2 hk3 HC
 go_wp2_with fail
 go_ret
 exact HG.out
end Fs
namespace Fs
open Go.RowKit Ex Ino Mm
variable {v:Option Addr} {S:World→Prop} {F:Nat→Prop} {w:World} {BS:List UInt8}
def ztc (x:IN) (a:Int):Nat:=(min a x.size).toNat
def rdN (x:IN) (a k:Int):Nat:=(min k (x.size-min a x.size)).toNat
def zfp (g:RG) (n a k:Int):Int:=if za0 g.ns n≠0 then za0 g.ns n else if a<0∨k<0 then 1 else 0
def ze6 (g:RG) (n a k:Int):List UInt8:=if zfp g n a k=0 then ((zam g.bs (za1 g.ns n).ext).drop (ztc (za1 g.ns n) a)).take (rdN (za1 g.ns n) a k) else []
def zsu (S:World→Prop) (F:Nat→Prop) (w:World) (xs:List UInt8) (E:Int) (e:Ending) (w':World):Prop:=S w'∧Keeps F w w' ∧
 ∃ A c,e=.returned (.tuple #[.slice A xs.length c,.int .i64 E])∧BR w' w'.heap.size A xs∧∀ ad,A=some ad→w.heap.size≤ad.block
set_option maxRecDepth 100000 in
theorem ydp (h:MemC v S F w BS)(ho:okR BS)(n a k:Int)(h0:za0 (zaa BS) n≠0):
  Calls Tryz.prog 45 #[.pointer v,.int .i64 n,.int .i64 a,.int .i64 k] w (zsu S F w [] (za0 (zaa BS) n)):=by
 have HC:=hq (zcy h)
 have HO:=hq ho
 have HST:=hq h.st
 clear h ho
 go_enter Tryz.func45,Tryz.ntmps45
 go_wp2_with fail
 refine HC.out.mono ?_
 rintro e w1 ⟨hs,hk1,⟨-,r,l,rfl,hr,hreg,hns⟩|⟨ho,-⟩⟩
 rotate_left
 ·exact absurd HO.out ho
 have hf:=zf9 hreg n
 unfold zbs at hf
 have hx:=zjl l n
 have hdk:=zko hreg n
 rw[hns] at hf hx
 have HF:=hq hf
 have HS:=hq hs
 have HK:=hq hk1
 have HREG:=hq hreg
 have HX:=hq hx
 have HDK:=hq hdk
 clear hs hk1 hf hx hdk hreg
 generalize zcm l n=d at *
 generalize za0 (zaa BS) n=E at *
 have HG:Hid (∀ w2,Below w1.heap.size w1 w2→zsu S F w [] E (.returned (.tuple #[.slice none 0 0,.int .i64 E])) w2):=fun w2 b2 =>
  ⟨HST.out w1 _ HS.out HK.out.size (zac b2),HK.out.trans (zac b2),none,0,rfl,BR.nil,fun _ e=>by cases e⟩
 go_wp2_with fail
 refine HF.out.mono ?_
 rintro e w2 ⟨rfl,b2⟩
 have hgo:=hq (HG.out _ (b2.trans ((bA w2 (.cells #[St d.x.name,.int .i64 d.x.size,.slice d.A d.x.ext.length d.c] 123)).mono b2.size)))
 have d0:(E != 0)=true:=by simpa using h0
 clear b2 HC HF HG h0
 go_wp2_with fail
 go_ret2
 exact hgo.out
set_option maxRecDepth 100000 in
theorem zz9 (h:MemC v S F w BS)(ho:okR BS)(n a k:Int)(h0:za0 (zaa BS) n=0)(h1:a<0∨k<0):
  Calls Tryz.prog 45 #[.pointer v,.int .i64 n,.int .i64 a,.int .i64 k] w (zsu S F w [] 1):=by
 have HC:=hq (zcy h)
 have HO:=hq ho
 have HST:=hq h.st
 clear h ho
 go_enter Tryz.func45,Tryz.ntmps45
 go_wp2_with fail
 refine HC.out.mono ?_
 rintro e w1 ⟨hs,hk1,⟨-,r,l,rfl,hr,hreg,hns⟩|⟨ho,-⟩⟩
 rotate_left
 ·exact absurd HO.out ho
 have hf:=zf9 hreg n
 unfold zbs at hf
 have hx:=zjl l n
 have hdk:=zko hreg n
 rw[hns] at hf hx
 have HF:=hq hf
 have HS:=hq hs
 have HK:=hq hk1
 have HREG:=hq hreg
 have HX:=hq hx
 have HDK:=hq hdk
 clear hs hk1 hf hx hdk hreg
 generalize zcm l n=d at *
 rw[h0] at HF
 have HG:Hid (∀ w2,Below w1.heap.size w1 w2→zsu S F w [] 1 (.returned (.tuple #[.slice none 0 0,.int .i64 1])) w2):=fun w2 b2 =>
  ⟨HST.out w1 _ HS.out HK.out.size (zac b2),HK.out.trans (zac b2),none,0,rfl,BR.nil,fun _ e=>by cases e⟩
 go_wp2_with fail
 refine HF.out.mono ?_
 rintro e w2 ⟨rfl,b2⟩
 have hgo:=hq (HG.out _ (b2.trans ((bA w2 (.cells #[St d.x.name,.int .i64 d.x.size,.slice d.A d.x.ext.length d.c] 123)).mono b2.size)))
 clear b2 HC HF HG
 by_cases h2:a<0
 ·have d1:decide (a<0)=true:=by simpa using h2
  go_wp2_with fail
  go_ret2
  exact hgo.out
 ·have d1:decide (a<0)=false:=by simpa using h2
  have d2:decide (k<0)=true:=by simp;omega
  go_wp2_with fail
  go_ret2
  exact hgo.out
set_option maxRecDepth 100000 in
theorem zz8 (h:MemC v S F w BS)(ho:okR BS)(hg:RGood ⟨BS,zaa BS⟩)(n a k:Int)(h0:za0 (zaa BS) n=0)(ha:0≤a∧a≤9223372036854775807)(hk:0≤k∧k≤9223372036854775807):
  Calls Tryz.prog 45 #[.pointer v,.int .i64 n,.int .i64 a,.int .i64 k] w (zsu S F w (((zam BS (za1 (zaa BS) n).ext).drop (ztc (za1 (zaa BS) n) a)).take (rdN (za1 (zaa BS) n) a k)) 0):=by
 have HGD:=hq hg
 clear hg
 generalize hxs:((zam BS (za1 (zaa BS) n).ext).drop (ztc (za1 (zaa BS) n) a)).take (rdN (za1 (zaa BS) n) a k)=xs
 have HXS:=hq hxs
 clear hxs
 have HC:=hq (zcy h)
 have HO:=hq ho
 have HST:=hq h.st
 clear h ho
 go_enter Tryz.func45,Tryz.ntmps45
 go_wp2_with fail
 refine HC.out.mono ?_
 rintro e w1 ⟨hs,hk1,⟨-,r,l,rfl,hr,hreg,hns⟩|⟨ho,-⟩⟩
 rotate_left
 ·exact absurd HO.out ho
 have hf:=zf9 hreg n
 unfold zbs at hf
 have hx:=zjl l n
 have hdk:=zko hreg n
 rw[hns] at hf hx
 have HF:=hq hf
 have HS:=hq hs
 have HK:=hq hk1
 have HREG:=hq hreg
 have HX:=hq hx
 have HDK:=hq hdk
 clear hs hk1 hf hx hdk hreg
 generalize zcm l n=d at *
 rw[h0] at HF
 have ex:za1 (zaa BS) n=at' (zaa BS) n.toNat:=by unfold za1;rw[if_pos h0]
 obtain⟨hn,fn⟩:=nodeE_zero.1 h0
 have hsz:=HGD.out.size (i:=n.toNat) (by omega)
 rw[show(⟨BS,zaa BS⟩:RG).ns=zaa BS from rfl,← ex,← HX.out] at hsz
 obtain⟨⟨z0,z1⟩,-,z2⟩:=hsz
 have hxs:=HXS.out
 rw[← HX.out] at hxs
 clear ex fn h0 hn HXS
 have ea:(((ztc d.x a:Nat)):Int)=min a d.x.size:=by unfold ztc;omega
 have ek:(((rdN d.x a k:Nat)):Int)=min k (d.x.size-min a d.x.size):=by unfold rdN;omega
 have hfit:ztc d.x a+rdN d.x a k≤64*(za3 d.x.ext).length:=by omega
 have HD:Hid (∀ W (X Y:Int),Below w1.heap.size w1 W→X=(ztc d.x a:Nat)→Y=(rdN d.x a k:Nat)→Calls Tryz.prog 89 #[.pointer (some ⟨r,0,none⟩),Ino.ag d.x d.A d.c,.int .i64 X,.int .i64 Y] W (GivesN W xs)):=fun W X Y b e1 e2=>by
  rw[e1,e2,← hxs]
  exact yd1 (HREG.out.below b) d ((HDK.out.keeps (zav r b) HDK.out.no)) (ztc d.x a) (rdN d.x a k) hfit
 have d1:decide (a<0)=false:=by simp;omega
 have d2:decide (k<0)=false:=by simp;omega
 have HR:Hid (∀ (xs:List UInt8) (g c:Nat) w2 w3,Below w1.heap.size w1 w2→BR w3 w3.heap.size (some ⟨g,0,none⟩) xs→w2.heap.size≤g→Below w2.heap.size w2 w3→zsu S F w xs 0 (.returned (.tuple #[.slice (some ⟨g,0,none⟩) xs.length c,.int .i64 0])) w3):=fun xs g c w2 w3 b2 br hg b3 =>
  have b:=b2.trans (b3.mono b2.size)
  ⟨HST.out w1 _ HS.out HK.out.size (zac b),HK.out.trans (zac b),some ⟨g,0,none⟩,c,rfl,br,fun ad e=>by cases e;show w.heap.size≤g;have:=HK.out.size;have:=b2.size;omega⟩
 clear hxs
 have EA:=hq ea
 have EK:=hq ek
 clear hfit ea ek z2
 generalize ztc d.x a=ra at *
 generalize rdN d.x a k=rk at *
 go_wp2_with fail
 refine HF.out.mono ?_
 rintro e w2 ⟨rfl,b2⟩
 have hbx:=heap_alloc_new w2 (.cells #[St d.x.name,.int .i64 d.x.size,.slice d.A d.x.ext.length d.c] 123)
 have B2:=hq (b2.trans ((bA w2 (.cells #[St d.x.name,.int .i64 d.x.size,.slice d.A d.x.ext.length d.c] 123)).mono b2.size))
 have cs:(w2.alloc (.cells #[St d.x.name,.int .i64 d.x.size,.slice d.A d.x.ext.length d.c] 123)).cell? ⟨w2.heap.size,1,none⟩=some (.int .i64 d.x.size):=by rw[cell_of_row _ _ _ _ _ _ hbx];rfl
 clear b2 HC HF hbx
 go_wp2_with fail
 all_goals refine(HD.out _ _ _ B2.out (by have:=EA.out;have:=EK.out;omega) (by have:=EA.out;have:=EK.out;omega)).mono ?_
 all_goals rintro e w3 ⟨gd,cd,rfl,hg1,hg2,br,b3,-⟩
 all_goals have hgo:=hq (HR.out xs gd cd _ w3 B2.out br hg1 b3)
 all_goals clear br b3 HR
 all_goals go_wp2_with fail
 all_goals go_ret2
 all_goals exact hgo.out
theorem yaa (h:MemC v S F w BS)(ho:okR BS)(hg:RGood ⟨BS,zaa BS⟩)(n a k:Int)(ha:-9223372036854775808≤a∧a≤9223372036854775807)(hk:-9223372036854775808≤k∧k≤9223372036854775807):
  Calls Tryz.prog 45 #[.pointer v,.int .i64 n,.int .i64 a,.int .i64 k] w (zsu S F w (ze6 ⟨BS,zaa BS⟩ n a k) (zfp ⟨BS,zaa BS⟩ n a k)):=by
 by_cases h0:za0 (zaa BS) n=0
 ·by_cases h1:a<0∨k<0
  ·have hE:zfp ⟨BS,zaa BS⟩ n a k=1:=by unfold zfp;rw[if_neg (by simp only;rw[h0];decide),if_pos h1]
   have hX:ze6 ⟨BS,zaa BS⟩ n a k=[]:=by unfold ze6;rw[hE,if_neg (by decide)]
   rw[hE,hX]
   exact zz9 h ho n a k h0 h1
  ·have hE:zfp ⟨BS,zaa BS⟩ n a k=0:=by unfold zfp;rw[if_neg (by simp only;rw[h0];decide),if_neg h1]
   have hX:ze6 ⟨BS,zaa BS⟩ n a k=((zam BS (za1 (zaa BS) n).ext).drop (ztc (za1 (zaa BS) n) a)).take (rdN (za1 (zaa BS) n) a k):=by unfold ze6;rw[hE,if_pos rfl]
   rw[hE,hX]
   exact zz8 h ho hg n a k h0 ⟨by omega,ha.2⟩ ⟨by omega,hk.2⟩
 ·have hE:zfp ⟨BS,zaa BS⟩ n a k=za0 (zaa BS) n:=by unfold zfp;rw[if_pos h0]
  have hX:ze6 ⟨BS,zaa BS⟩ n a k=[]:=by unfold ze6;rw[hE,if_neg h0]
  rw[hE,hX]
  exact ydp h ho n a k h0
end Fs
section
open Go.RowKit
variable {P:Program} {ops:Array Oper} {Q:Exit→Act→World→Prop} {md:Region.Mode}
end
namespace Fs
open Go.RowKit Go.Shelf Ex Ino Mm
structure FD where
 name:List UInt8
 g:Nat
 c:Nat
 xs:List UInt8
def fcl (d:FD):List Value:=[St d.name,.slice (some ⟨d.g,0,none⟩) d.xs.length d.c]
theorem Tryz.infoFi:(Tryz.prog.info? 63).map (fun i=>(i.zero,i.size,i.bytes))=some (some (.agg #[.string ⟨#[]⟩,.slice none 0 0]),2,40):=by kernel_rfl
def OwnL (w:World) (B g cap:Nat) (l:List FD):Prop:=w.ownsRow B 63 2 (.slice (some ⟨g,0,none⟩) l.length cap) l.length (l.flatMap fcl)
theorem OwnL.block {w:World} {B g cap:Nat} {l:List FD} (h:OwnL w B g cap l):B≤g∧g<w.heap.size∧∃ cs t,w.heap[g]?=some (.cells cs t (0,0)):=by
 have h1:=World.ownsRow.lt h g rfl
 refine⟨h1.1,h1.2,?_⟩
 rcases h.2 with⟨hn,_⟩|⟨g',cap',cur,e',_,hg,_⟩
 ·cases hn
 ·injection e' with e1;injection e1 with e1;injection e1 with e1;subst e1;exact⟨_,_,hg⟩
theorem OwnL.kept {w w':World} {B g cap:Nat} {l:List FD} (h:OwnL w B g cap l){row:Option Nat} (hg:w.grownBy w' row)(hr:∀ r,row=some r→∃ o:Obj,w.heap[r]?=some o∧o.isCells=false):OwnL w' B g cap l:=
 World.ownsRow.kept (row:=row) h hg (.inr fun e2=>by
  obtain⟨_,_,cs,t,hc⟩:=h.block
  obtain⟨o,ho,hoc⟩:=hr g e2.symm
  rw[hc] at ho
  cases ho
  cases hoc)
theorem OwnL.same {w w':World} {B g cap:Nat} {l:List FD} (h:OwnL w B g cap l)(hk:w'.heap[g]?=w.heap[g]?):OwnL w' B g cap l:=by
 refine⟨h.1,?_⟩
 rcases h.2 with h0 | ⟨g',cap',cur,hv,hB,hgg,rest⟩
 ·exact .inl h0
 ·refine .inr ⟨g',cap',cur,hv,hB,?_,rest⟩
  injection hv with e1;injection e1 with e1;injection e1 with e1;subst e1
  exact hk.trans hgg
theorem OwnL.app {w:World} {B g cap:Nat} {l:List FD} (h:OwnL w B g cap l)(hB:B≤w.heap.size)(hl:l.length≤1000)(d:FD)(ad:Addr)(c:Nat)(ty:TypeId)(hc:∀ j u,(fcl d)[j]?=some u→w.cell? (ad.add j)=some u):
  ∃ g' cap' w',(Builtin.append_ #[59,59] ty #[.slice (some ⟨g,0,none⟩) l.length cap,.slice (some ad) 1 c]).run Tryz.prog w=.ok (.slice (some ⟨g',0,none⟩) (l.length+1) cap') w'∧OwnL w' B g' cap' (l++[d])∧w.grownBy w' (some g)∧(g'=g∨g'=w.heap.size):=by
 obtain⟨i0,hi,hz0,hz1,hz2⟩:=info_parts Tryz.infoFi
 obtain⟨v',w',hrun,hown,hg,_,hb⟩:=run_append_own_at (P:=Tryz.prog) w B 59 ty 63 i0 _ 2 40 Tryz.underlying59 hi hz0 hz1 hz2 rfl (by decide) _ l.length _ h ad 1 c (fcl d) rfl hc (fun u hu=>by
  simp only[fcl,List.mem_cons,List.not_mem_nil,or_false] at hu
  rcases hu with rfl | rfl<;>rfl) (by unfold maxLen;omega) (by omega) hB
 obtain⟨g',cap',rfl,_,_⟩:=World.ownsRow.form hown (by omega)
 refine⟨g',cap',w',hrun,?_,hg,?_⟩
 ·unfold OwnL
  rw[List.length_append,List.flatMap_append]
  simpa using hown
 ·rcases hb with hb | hb
  ·injection hb with hb;exact .inl hb
  ·injection hb with hb;exact .inr hb
theorem OwnL.empty (w:World){B:Nat} (hB:B≤w.heap.size):OwnL (w.alloc (.cells #[] 63)) B w.heap.size 0 []:=World.ownsRow_lit w #[] 0 hB (by unfold maxLen;omega) rfl
structure FilI (w:World) (r:Nat) (R0:RG) (pre:List Nat) (g cap:Nat) (l:List FD) (W:World):Prop where
 rb:Boxed W w.heap.size 93 (.pointer (some ⟨r,0,none⟩))
 own:OwnL W (w.heap.size+1) g cap l
 fb:Boxed W (w.heap.size+1+1) 59 (.slice (some ⟨g,0,none⟩) l.length cap)
 gn:g≠w.heap.size+1+1
 rows:∀ d∈l,w.heap.size+1+1<d.g∧d.g<W.heap.size∧d.g≠g∧BR W W.heap.size (some ⟨d.g,0,none⟩) d.xs
 vals:l.map (fun d=>(d.name,d.xs))=pre.map (fun i=>((at' R0.ns i).name,zgx R0 (at' R0.ns i)))
 bel:Below w.heap.size w W
theorem FilI.below {w:World} {r:Nat} {R0:RG} {pre:List Nat} {g cap:Nat} {l:List FD} {W W':World} (h:FilI w r R0 pre g cap l W)(k:Below W.heap.size W W'):FilI w r R0 pre g cap l W':=
 ⟨(k.block _ h.rb.lt).trans h.rb,h.own.same (k.block _ h.own.block.2.1),(k.block _ h.fb.lt).trans h.fb,h.gn,fun d hd=>⟨(h.rows d hd).1,Nat.lt_of_lt_of_le (h.rows d hd).2.1 k.size,(h.rows d hd).2.2.1,brK (h.rows d hd).2.2.2 k⟩,h.vals,h.bel.trans (k.mono h.bel.size)⟩
end Fs
namespace Fs
open Go.RowKit Go.Shelf Ex Ino Mm
def FilS (w:World) (r:Nat) (R0:RG) (pre:List Nat) (W:World):Prop:=∃ g cap l,FilI w r R0 pre g cap l W
theorem FilI.start (w:World)(r:Nat)(R0:RG):FilI w r R0 [] (w.heap.size+1) 0 [] (((w.alloc (.cells #[.pointer (some ⟨r,0,none⟩)] 93)).alloc (.cells #[] 63)).alloc (.cells #[.slice (some ⟨w.heap.size+1,0,none⟩) 0 0] 59)):=by
 have b0:=((Boxed.new w 93 (.pointer (some ⟨r,0,none⟩))).alloc (.cells #[] 63)).alloc (.cells #[.slice (some ⟨w.heap.size+1,0,none⟩) 0 0] 59)
 have b1:=OwnL.empty (w.alloc (.cells #[.pointer (some ⟨r,0,none⟩)] 93)) (B:=w.heap.size+1) (by simp)
 have b2:=Boxed.new ((w.alloc (.cells #[.pointer (some ⟨r,0,none⟩)] 93)).alloc (.cells #[] 63)) 59 (.slice (some ⟨w.heap.size+1,0,none⟩) 0 0)
 rw[World.size_alloc] at b1
 rw[World.size_alloc,World.size_alloc] at b2
 have b1':=b1.same (w':=((w.alloc (.cells #[.pointer (some ⟨r,0,none⟩)] 93)).alloc (.cells #[] 63)).alloc (.cells #[.slice (some ⟨w.heap.size+1,0,none⟩) 0 0] 59)) (Below.heap_alloc _ _ _ (by simp))
 exact⟨b0,b1',b2,by omega,(fun d hd=>by cases hd),rfl,(((Below.refl _ w).alloc (Nat.le_refl _) _).alloc (by simp) _).alloc (by simp;omega) _⟩
theorem FilI.step {w:World} {r:Nat} {R0:RG} {pre:List Nat} {g cap:Nat} {l:List FD} {W:World} (h:FilI w r R0 pre g cap l W)(hl:pre.length≤8)(i:Nat){gd cd:Nat} {xs:List UInt8} (h1:w.heap.size+1+1<gd)(h2:gd<W.heap.size)(h3:gd≠g)
  (h4:BR W W.heap.size (some ⟨gd,0,none⟩) xs) (hx:xs=zgx R0 (at' R0.ns i)):
  ∃ g' cap' w7,(Builtin.append_ #[59,59] 59 #[.slice (some ⟨g,0,none⟩) l.length cap,.slice (some ⟨W.heap.size,0,none⟩) 1 1]).run Tryz.prog (W.alloc (.cells #[St (at' R0.ns i).name,.slice (some ⟨gd,0,none⟩) xs.length cd] 63))=.ok (.slice (some ⟨g',0,none⟩) (l.length+1) cap') w7 ∧
   Boxed w7 (w.heap.size+1+1) 59 (.slice (some ⟨g,0,none⟩) l.length cap) ∧
   KeepsOthers W (w7.setCell ⟨w.heap.size+1+1,0,none⟩ (.slice (some ⟨g',0,none⟩) (l.length+1) cap')) ∧
   FilS w r R0 (pre++[i]) (w7.setCell ⟨w.heap.size+1+1,0,none⟩ (.slice (some ⟨g',0,none⟩) (l.length+1) cap')):=by
 have hs:=h.bel.size
 have l0:=h.rb.lt
 have l2:=h.fb.lt
 have hll:l.length=pre.length:=by have:=congrArg List.length h.vals;simpa using this
 have b6:Below W.heap.size W (W.alloc (.cells #[St (at' R0.ns i).name,.slice (some ⟨gd,0,none⟩) xs.length cd] 63)):=(Below.refl _ _).alloc (Nat.le_refl _) _
 have h6:=h.below b6
 obtain⟨g',cap',w7,hrun,hown,hg,hgg⟩:=h6.own.app (by rw[World.size_alloc];omega) (by omega) ⟨(at' R0.ns i).name,gd,cd,xs⟩ ⟨W.heap.size,0,none⟩ 1 59 (fun j u hu=>by
  rw[show(⟨W.heap.size,0,none⟩:Addr).add j=⟨W.heap.size,j,none⟩ from by unfold Addr.add;split<;>simp_all,cell_of_row (W.alloc (.cells #[St (at' R0.ns i).name,.slice (some ⟨gd,0,none⟩) xs.length cd] 63)) W.heap.size j _ _ _ (World.alloc_heap_new _ _)]
  simpa [fcl] using hu)
 rw[World.size_alloc] at hgg
 obtain⟨gb1,gb2,gcs,gt,gh⟩:=h6.own.block
 have gW:g<W.heap.size:=h.own.block.2.1
 have hbk:∀ k,k<W.heap.size→k≠g→w7.heap[k]?=W.heap[k]?:=fun k hk hne=>(hg.block k (by rw[World.size_alloc];omega) (fun e=>hne (by injection e))).trans (b6.block k hk)
 have hsz7:W.heap.size<w7.heap.size:=by have:=hg.size;rw[World.size_alloc] at this;omega
 have n7:Boxed w7 (w.heap.size+1+1) 59 _:=(hbk _ h.fb.lt (fun e=>h.gn e.symm)).trans h.fb
 have t7:Boxed w7 w.heap.size 93 _:=(hbk _ h.rb.lt (fun e=>by omega)).trans h.rb
 have hk7:KeepsOthers W w7:=by
  refine⟨by omega,fun k o hk ho=>?_⟩
  have hkl:=(Array.getElem?_eq_some_iff.1 hk).1
  refine(hbk k hkl fun e=>?_).trans hk
  subst e
  rw[b6.block k hkl,hk] at gh
  cases gh
  cases ho
 have b7:Below w.heap.size w w7:=h.bel.trans ⟨hg.os,hg.tape,hg.output,by omega,fun k hk=>hbk k (by omega) (by omega)⟩
 have hgn:g'≠w.heap.size+1+1:=by
  rcases hgg with e | e
  ·rw[e];exact h.gn
  ·omega
 have hbr:∀ (bd:Nat) (ys:List UInt8),w.heap.size+1+1<bd→bd<W.heap.size→bd≠g→BR W W.heap.size (some ⟨bd,0,none⟩) ys→∀ v,BR (w7.setCell ⟨w.heap.size+1+1,0,none⟩ v) (w7.setCell ⟨w.heap.size+1+1,0,none⟩ v).heap.size (some ⟨bd,0,none⟩) ys:=fun bd ys q1 q2 q3 hb v hne=>by
  obtain⟨ad,e,hl2,hc⟩:=hb hne
  cases e
  refine⟨_,rfl,by rw[World.size_setCell];show bd<_;omega,fun k u hu=>(World.cell?_of_block (w:=W) (a:=(⟨bd,0,none⟩:Addr).add k) ?_).trans (hc k u hu)⟩
  rw[zan]
  show(w7.setCell ⟨w.heap.size+1+1,0,none⟩ v).heap[bd]?=_
  rw[heap_setCell_other _ _ _ _ (by dsimp only;omega)]
  exact hbk bd q2 q3
 have hgd:∀ bd,bd<W.heap.size→bd≠g→bd≠g':=fun bd q1 q2=>by rcases hgg with e | e<;>omega
 refine⟨g',cap',w7,hrun,n7,hk7.trans (KeepsOthers.setCell _ _ _),g',cap',l++[⟨(at' R0.ns i).name,gd,cd,xs⟩],t7.other (by omega) _,hown.same (heap_setCell_other _ _ _ _ hgn),?_,hgn,fun d hd=>?_,?_,b7.setCell (by show w.heap.size≤w.heap.size+1+1;omega) _⟩
 ·rw[List.length_append,List.length_singleton];exact n7.set _
 ·rcases List.mem_append.1 hd with hd | hd
  ·obtain⟨r1,r2,r3,r4⟩:=h.rows d hd
   exact⟨r1,by rw[World.size_setCell];omega,hgd _ r2 r3,hbr _ _ r1 r2 r3 r4 _⟩
  ·rw[List.mem_singleton] at hd
   subst hd
   exact⟨h1,by rw[World.size_setCell];show gd<_;omega,hgd _ h2 h3,hbr _ _ h1 h2 h3 h4 _⟩
 ·rw[List.map_append,List.map_append,h.vals]
  simp[hx]
end Fs
section
open Go.RowKit
section
variable {P:Program} {ops:Array Oper} {Q:Exit→Act→World→Prop} {md:Region.Mode} {S:World→Prop} {z:Nat}
end
end
namespace Fs
open Go.RowKit Go.Shelf Ex Ino Mm
attribute [local go_sem] Oper.semAt_some
variable {v:Option Addr} {S:World→Prop} {F:Nat→Prop} {BS:List UInt8}
theorem OwnL.low {w:World} {B B' g cap:Nat} {l:List FD} (h:OwnL w B g cap l)(hB:B'≤B):OwnL w B' g cap l:=by
 refine⟨h.1,?_⟩
 rcases h.2 with h0 | ⟨g',cap',cur,hv,hb,rest⟩
 ·exact .inl h0
 ·exact .inr ⟨g',cap',cur,hv,Nat.le_trans hB hb,rest⟩
end Fs
namespace Mm
open Go.RowKit Go.Maps
def zc8 (xs:List UInt8):List UInt8:=zjp xs 0 8192
theorem zd3 (xs:List UInt8):(zc8 xs).length=8192:=zc6 _ _ _
theorem zwm (n k:Nat):(List.replicate n (0:UInt8)).getD k 0=0:=by
 rw[List.getD_eq_getElem?_getD,List.getElem?_replicate]
 split<;>rfl
theorem zlb (xs:List UInt8)(h:xs.length≤8192):splice (List.replicate 8192 0) 0 xs=zc8 xs:=by
 have hl:(splice (List.replicate 8192 (0:UInt8)) 0 xs).length=8192:=by
  unfold splice
  simp only[List.length_append,List.length_take,List.length_drop,List.length_replicate]
  omega
 refine zba (by rw[hl,zd3]) fun k hk=>?_
 rw[hl] at hk
 unfold zc8
 rw[getD_splice _ _ _ _ (by rw[List.length_replicate];omega),zdf _ _ _ _ hk,if_neg (by omega),zcw _ _ (by omega),show((0:Int)+k).toNat=k by omega]
 have hz:=zwm 8192 k
 by_cases h1:k<0+xs.length
 ·rw[if_pos h1]
  congr 1
 ·rw[if_neg h1,hz]
  rw[List.getD_eq_getElem?_getD,List.getElem?_eq_none (by omega)]
  rfl
theorem yac (xs:List UInt8)(h:8192<xs.length):zc8 (xs.take 8192)=zc8 xs:=by
 refine zba (by rw[zd3,zd3]) fun k hk=>?_
 rw[zd3] at hk
 unfold zc8
 rw[zdf _ _ _ _ hk,zdf _ _ _ _ hk,zcw _ _ (by omega),zcw _ _ (by omega),show((0:Int)+k).toNat=k by omega]
 simp only[List.getD_eq_getElem?_getD]
 rw[List.getElem?_take_of_lt hk]
theorem zn5 {w:World} (g c:Nat)(A:Option Addr)(xs:List UInt8)(hr:Row8 w g 5 (List.replicate 8192 0))(hx:BR w w.heap.size A xs):
  ∃ n w',(Builtin.copy_ #[31,31] 3 #[.slice (some ⟨g,0,none⟩) 8192 8192,.slice A xs.length c]).run Tryz.prog w=.ok (.int .i64 n) w'∧Row8 w' g 5 (zc8 xs)∧Keeps (fun k=>k=g) w w':=by
 by_cases h:xs.length≤8192
 ·obtain⟨w',h1,h2,h3⟩:=zlg (P:=Tryz.prog) w 31 31 3 5 5 Tryz.underlying31 zie g 0 8192 8192 (some ⟨g,0,none⟩) _ xs A c _ (fun _=>rfl) hr hx h (by rw[List.length_replicate];omega)
  rw[zlb xs h] at h2
  exact⟨_,w',h1,h2,Keeps.grown _ h3 (fun k e=>by cases e;rfl)⟩
 ·have hne:xs≠[]:=by intro e;rw[e] at h;simp at h
  obtain⟨ad,rfl,_,_⟩:=hx hne
  have hl:(xs.take 8192).length=8192:=by rw[List.length_take];omega
  obtain⟨w',h1,h2,h3⟩:=zg4 (P:=Tryz.prog) w 31 31 3 5 5 Tryz.underlying31 zie g 0 8192 8192 _ (xs.take 8192) ad xs.length c hr (hx.take 8192) (by rw[hl];omega) (by rw[hl,List.length_replicate];omega) (by intro e;rw[e] at hl;cases hl)
  rw[zlb _ (by omega),yac xs (by omega)] at h2
  exact⟨_,w',h1,h2,Keeps.grown _ h3 (fun k e=>by cases e;rfl)⟩
theorem zib {P:Program} {w w':World} {ops:Array Oper} {rest:List Oper} {o:Oper} {a:Act} {Q:Exit→Act→World→Prop} (hgd:o.guard=none)(t:TypeId)(x:Operand)(ho:o.op=.build t #[(1,x)])(u v:Value)(hx:a.eval x=u)
  (hrun:(Instr.build t #[(1,u)]).run P w=.ok v w') (h:wpList P ops Q rest (a.put o.dst v) w'):wpList P ops Q (o::rest) a w:=
 wpList_plain hgd fun _ hK=>by
  unfold Oper.wp execOp
  simp only[ho,Sem.run_bind,List.map_toArray,List.map_cons,List.map_nil,hx,hrun,Result.andThen_ok,Sem.run_pure]
  exact hK _ _ h
theorem zia {P:Program} {w w':World} {ops:Array Oper} {rest:List Oper} {o:Oper} {a:Act} {Q:Exit→Act→World→Prop} (hgd:o.guard=none)(t:TypeId)(x y:Operand)(ho:o.op=.build t #[(0,x),(1,y)])(u u' v:Value)(hx:a.eval x=u)(hy:a.eval y=u')
  (hrun:(Instr.build t #[(0,u),(1,u')]).run P w=.ok v w') (h:wpList P ops Q rest (a.put o.dst v) w'):wpList P ops Q (o::rest) a w:=
 wpList_plain hgd fun _ hK=>by
  unfold Oper.wp execOp
  simp only[ho,Sem.run_bind,List.map_toArray,List.map_cons,List.map_nil,hx,hy,hrun,Result.andThen_ok,Sem.run_pure]
  exact hK _ _ h
theorem zkc {P:Program} {w w':World} {ops:Array Oper} {rest:List Oper} {o:Oper} {a:Act} {Q:Exit→Act→World→Prop} (hgd:o.guard=none)(t:TypeId)(n c:Operand)(ho:o.op=.makeSlice t n c)(x y v:Value)(hx:a.eval n=x)(hy:a.eval c=y)
  (hrun:(Instr.makeSlice t x y).run P w=.ok v w') (h:wpList P ops Q rest (a.put o.dst v) w'):wpList P ops Q (o::rest) a w:=
 wpList_plain hgd fun _ hK=>by
  unfold Oper.wp execOp
  simp only[ho,Sem.run_bind,hx,hy,hrun,Result.andThen_ok,Sem.run_pure]
  exact hK _ _ h
theorem buildS (w:World)(gb:Nat):(Instr.build 66 #[(1,.slice (some ⟨gb,0,none⟩) 8192 8192)]).run Tryz.prog w=.ok (.agg #[.pointer none,.slice (some ⟨gb,0,none⟩) 8192 8192]) w:=by kernel_rfl
theorem buildM (w:World)(gb mb:Nat):(Instr.build 70 #[(0,.agg #[.pointer none,.slice (some ⟨gb,0,none⟩) 8192 8192]),(1,.map (some mb))]).run Tryz.prog w=.ok (.agg (zej gb mb (List.replicate 128 false)).toArray) w:=by kernel_rfl
theorem boxM (w:World)(gb mb:Nat):(Instr.box 70 (.agg (zej gb mb (List.replicate 128 false)).toArray)).run Tryz.prog w=.ok (.pointer (some ⟨w.heap.size,0,none⟩)) (w.alloc (.cells (zej gb mb (List.replicate 128 false)).toArray 70)):=rfl
def MadeM (w:World) (xs:List UInt8) (e:Ending) (w':World):Prop:=∃ p gb mb,e=.returned (.pointer (some ⟨p,0,none⟩))∧w.heap.size≤p∧w.heap.size≤gb∧w.heap.size≤mb∧MemAt w' p gb mb (zc8 xs) (zc8 xs)∧Keeps (fun _=>False) w w'
theorem mem_of (w:World)(gb:Nat)(G:List UInt8)(hg:G.length=8192)(hr:w.heap[gb]?=some (.cells (G.map B8).toArray 5 (0,0))):
  MemAt ((w.alloc (.map #[] 0)).alloc (.cells (zej gb w.heap.size (List.replicate 128 false)).toArray 70)) (w.heap.size+1) gb w.heap.size G G:=by
 have hlt:=(Array.getElem?_eq_some_iff.1 hr).1
 refine⟨hg,hg,⟨List.replicate 128 false,by simp,heap_alloc2_new w _ _⟩,?_,⟨fun _=>none,?_,⟨fun i hi x h=>by simp at h,fun _ _ _=>rfl⟩⟩⟩
 ·rw[Below.heap_alloc _ _ _ (by simp;omega),Below.heap_alloc _ _ _ hlt]
  exact hr
 ·exact MapF.tight ((MapF.made ycg w).keep (Below.heap_alloc _ _ _ (by simp)))
set_option maxRecDepth 100000 in
theorem zls (A:Option Addr)(xs:List UInt8)(c:Nat)(w:World)(hx:BR w w.heap.size A xs):Calls Tryz.prog 10 #[.slice A xs.length c] w (MadeM w xs):=by
 have hmk:∀ w:World,(Instr.makeSlice 31 (.int .i64 8192) (.int .i64 8192)).run Tryz.prog w=.ok (.slice (some ⟨w.heap.size,0,none⟩) 8192 8192) (w.alloc (.cells (madeCells #[.int .u8 0] 8192) 5)):=zfu 8192 (by omega)
 have k1:Keeps (fun _=>False) w (w.alloc (.cells (madeCells #[.int .u8 0] 8192) 5)):=Keeps.alloc _ _ _
 have r1:=Row8.made w 8192 5
 have s1:w.heap.size<(w.alloc (.cells (madeCells #[.int .u8 0] 8192) 5)).heap.size:=by simp
 have hx1:BR (w.alloc (.cells (madeCells #[.int .u8 0] 8192) 5)) (w.alloc (.cells (madeCells #[.int .u8 0] 8192) 5)).heap.size A xs:=k1.br hx fun _ _ _ h=>h
 have MK:=hq (hmk w)
 generalize w.alloc (.cells (madeCells #[.int .u8 0] 8192) 5)=w1 at *
 obtain⟨n,w2,cp,r2,k2⟩:=zn5 w.heap.size c A xs r1 hx1
 have hm:=mem_of w2 w.heap.size (zc8 xs) (zd3 xs) r2.block
 have HM:=hq hm
 have K2:=hq (Keeps.thru (F'':=fun _=>False) k1 k2 (fun _ _ h=>h) fun _ _ h=>by omega)
 have hmm:=@run_makeMap Tryz.prog
 have S2:=hq (Nat.le_trans (Nat.le_of_lt s1) k2.size)
 clear hmk k1 r1 hx hx1 hm r2 k2 s1
 go_enter Tryz.func10,Tryz.ntmps10
 go_wp2_with (first
  | ((with_reducible refine zd1 (op:=.makeSlice 31 (.const (.int .i64 8192)) (.const (.int .i64 8192))) ?_);refine zkc rfl 31 _ _ rfl _ _ _ rfl rfl MK.out ?_)
  | ((with_reducible refine zd1 (op:=.build 66 #[(1,.tmp 8)]) ?_);refine zib rfl 66 _ rfl _ _ rfl (buildS _ _) ?_)
  | ((with_reducible refine zd1 (op:=.build 70 #[(0,.tmp 9),(1,.tmp 10)]) ?_);refine zia rfl 70 _ _ rfl _ _ _ rfl rfl (buildM _ _ _) ?_)
  | ((with_reducible refine zd1 (op:=.box 70 (.tmp 11)) ?_);refine zhm rfl 70 _ rfl _ _ rfl (boxM _ _ _) ?_))
 go_ret
 exact⟨_,_,_,rfl,by have:=S2.out;omega,Nat.le_refl _,S2.out,HM.out,K2.out.trans ((Keeps.alloc _ _ _).trans (Keeps.alloc _ _ _))⟩
def MadeR (w:World) (mi:Nat) (xs:List UInt8) (e:Ending) (w':World):Prop:=∃ q,e=.returned (.pointer (some ⟨q,0,none⟩))∧MRefAt w' mi q (zc8 xs) (zc8 xs)∧Keeps (fun _=>False) w w'
theorem zpp {w W:World} (b d:Nat)(A:Option Addr)(xs:List UInt8)(c:Nat)(hx:BR W W.heap.size A xs)(hk:Keeps (fun _=>False) w W)(hA:∀ ad,A=some ad→xs≠[]→ad.block<w.heap.size)
  (hb:Row8 W b 5 (List.replicate 8192 0)) (hd:Row8 W d 5 (List.replicate 8192 0)) (q:Nat) (hh:W.heap[q]?=some (.cells (zfd b 8192 d 8192) 46 (0,0)))
  (b1:w.heap.size≤b) (d1:w.heap.size≤d) (q1:w.heap.size≤q) (bd:b≠d) (bq:b≠q) (dq:d≠q):
  W.cell? ⟨q,0,none⟩=some (.slice (some ⟨b,0,none⟩) 8192 8192)∧∃ n1 w4,(Builtin.copy_ #[31,31] 3 #[.slice (some ⟨b,0,none⟩) 8192 8192,.slice A xs.length c]).run Tryz.prog W=.ok (.int .i64 n1) w4 ∧
   w4.cell? ⟨q,1,none⟩=some (.slice (some ⟨d,0,none⟩) 8192 8192)∧∃ n2 w5,(Builtin.copy_ #[31,31] 3 #[.slice (some ⟨d,0,none⟩) 8192 8192,.slice A xs.length c]).run Tryz.prog w4=.ok (.int .i64 n2) w5 ∧
   MRefAt w5 w.heap.size q (zc8 xs) (zc8 xs)∧Keeps (fun _=>False) w w5:=by
 have ql:=(Array.getElem?_eq_some_iff.1 hh).1
 obtain⟨n1,w4,c1,r4,k4⟩:=zn5 b c A xs hb hx
 have hx4:BR w4 w4.heap.size A xs:=k4.br hx fun ad e hn h=>by
  have:=hA ad e hn
  omega
 have hd4:Row8 w4 d 5 (List.replicate 8192 0):=Row8.of_block ((k4.block d hd.lt_ (fun e=>bd e.symm)).trans hd.block)
 have hh4:=(k4.block q ql (fun e=>bq e.symm)).trans hh
 obtain⟨n2,w5,c2,r5,k5⟩:=zn5 d c A xs hd4 hx4
 have hb5:Row8 w5 b 5 (zc8 xs):=Row8.of_block ((k5.block b r4.lt_ bd).trans r4.block)
 have hh5:=(k5.block q (Nat.lt_of_lt_of_le ql k4.size) (fun e=>dq e.symm)).trans hh4
 have kW:Keeps (fun _=>False) w w5:=Keeps.thru (F'':=fun _=>False) (Keeps.thru (F'':=fun _=>False) hk k4 (fun _ _ h=>h) fun i hi h=>by omega) k5 (fun _ _ h=>h) fun i hi h=>by omega
 have fl:=zd3 xs
 have ob:=Own8.of_row hb5 b1 (by omega)
 have od:=Own8.of_row r5 d1 (by omega)
 rw[fl] at ob od
 refine⟨by rw[cell_of_row _ _ _ _ _ _ hh];rfl,n1,w4,c1,by rw[cell_of_row _ _ _ _ _ _ hh4];rfl,n2,w5,c2,⟨b,8192,d,8192,⟨q1,fl,fl,hh5,ob,od,bq,dq,bd⟩⟩,kW⟩
set_option maxRecDepth 100000 in
theorem zx7 (A:Option Addr)(xs:List UInt8)(c:Nat)(w:World)(hx:BR w w.heap.size A xs):Calls Tryz.prog 11 #[.slice A xs.length c] w (MadeR w w.heap.size xs):=by
 have hmk:∀ w:World,(Instr.makeSlice 31 (.int .i64 8192) (.int .i64 8192)).run Tryz.prog w=.ok (.slice (some ⟨w.heap.size,0,none⟩) 8192 8192) (w.alloc (.cells (madeCells #[.int .u8 0] 8192) 5)):=zfu 8192 (by omega)
 go_enter Tryz.func11,Tryz.ntmps11
 go_wp2_with fail
 have m1:=Row8.made w 8192 5
 have m2:=Row8.made (w.alloc (.cells (madeCells #[.int .u8 0] 8192) 5)) 8192 5
 rw[World.size_alloc] at m2
 have ka:Keeps (fun _=>False) w (w.alloc (.cells (madeCells #[.int .u8 0] 8192) 5)):=Keeps.alloc _ _ _
 have m1':Row8 ((w.alloc (.cells (madeCells #[.int .u8 0] 8192) 5)).alloc (.cells (madeCells #[.int .u8 0] 8192) 5)) w.heap.size 5 (List.replicate 8192 0):=Row8.of_block ((Below.heap_alloc _ _ _ m1.lt_).trans m1.block)
 have M1:=hq m1'
 have M2:=hq m2
 have HA:=hq (fun ad (e:A=some ad) (hn:xs≠[])=>show ad.block<w.heap.size by
  obtain⟨ad',e',hb,_⟩:=hx hn
  rw[e] at e'
  cases e'
  exact hb)
 have HX:=hq hx
 clear m1 m2 m1' ka hx
 generalize hz:madeCells #[.int .u8 0] 8192=zz at *
 clear hz
 go_region
 ·obtain⟨c0,n1,w4,cp1,c1,n2,w5,cp2,hR,hK⟩:=zpp (w:=w) (W:=(((w.alloc (.cells zz 5)).alloc (.cells zz 5)).alloc (.cells (zfd w.heap.size 8192 (w.heap.size+1) 8192) 46)).drew) w.heap.size (w.heap.size+1) A xs c
   ((((Keeps.alloc _ _ _).trans (Keeps.alloc _ _ _)).trans ((Keeps.alloc (fun _=>False) _ _).trans (Keeps.drew _ _))).br HX.out fun _ _ _ h=>h)
   (((Keeps.alloc _ _ _).trans (Keeps.alloc _ _ _)).trans ((Keeps.alloc (fun _=>False) _ _).trans (Keeps.drew _ _))) HA.out
   (Row8.of_block ((Below.heap_alloc _ _ _ M1.out.lt_).trans M1.out.block)) (Row8.of_block ((Below.heap_alloc _ _ _ M2.out.lt_).trans M2.out.block)) (w.heap.size+1+1)
   (by
    have:=heap_alloc_new ((w.alloc (.cells zz 5)).alloc (.cells zz 5)) (.cells (zfd w.heap.size 8192 (w.heap.size+1) 8192) 46)
    simp only[World.size_alloc] at this
    exact this) (by omega) (by omega) (by omega) (by omega) (by omega) (by omega)
  unfold zfd at c0 cp1
  generalize (((w.alloc (.cells zz 5)).alloc (.cells zz 5)).alloc (.cells #[.slice (some ⟨w.heap.size,0,none⟩) 8192 8192,.slice (some ⟨w.heap.size+1,0,none⟩) 8192 8192,.bool false] 46)).drew=W at *
  have HR:=hq hR
  have HK:=hq hK
  clear hR hK HA HX M1 M2
  go_wp2_with fail
  go_ret
  exact⟨_,rfl,HR.out,HK.out⟩
 ·obtain⟨c0,n1,w4,cp1,c1,n2,w5,cp2,hR,hK⟩:=zpp (w:=w) (W:=(((w.alloc (.cells zz 5)).alloc (.cells zz 5)).alloc (.cells (zfd (w.heap.size+1) 8192 w.heap.size 8192) 46)).drew) (w.heap.size+1) w.heap.size A xs c
   ((((Keeps.alloc _ _ _).trans (Keeps.alloc _ _ _)).trans ((Keeps.alloc (fun _=>False) _ _).trans (Keeps.drew _ _))).br HX.out fun _ _ _ h=>h)
   (((Keeps.alloc _ _ _).trans (Keeps.alloc _ _ _)).trans ((Keeps.alloc (fun _=>False) _ _).trans (Keeps.drew _ _))) HA.out
   (Row8.of_block ((Below.heap_alloc _ _ _ M2.out.lt_).trans M2.out.block)) (Row8.of_block ((Below.heap_alloc _ _ _ M1.out.lt_).trans M1.out.block)) (w.heap.size+1+1)
   (by
    have:=heap_alloc_new ((w.alloc (.cells zz 5)).alloc (.cells zz 5)) (.cells (zfd (w.heap.size+1) 8192 w.heap.size 8192) 46)
    simp only[World.size_alloc] at this
    exact this) (by omega) (by omega) (by omega) (by omega) (by omega) (by omega)
  unfold zfd at c0 cp1
  generalize (((w.alloc (.cells zz 5)).alloc (.cells zz 5)).alloc (.cells #[.slice (some ⟨w.heap.size+1,0,none⟩) 8192 8192,.slice (some ⟨w.heap.size,0,none⟩) 8192 8192,.bool false] 46)).drew=W at *
  have HR:=hq hR
  have HK:=hq hK
  clear hR hK HA HX M1 M2
  go_wp2_with fail
  go_ret
  exact⟨_,rfl,HR.out,HK.out⟩
end Mm
namespace Fs
open Go.RowKit Ex Ino Mm
theorem zhh {w w':World} (k:Keeps (fun _=>False) w w'):Below w.heap.size w w':=k.toBelow _ (Nat.le_refl _) fun _ h=>h.elim
structure FilesAt (w:World) (B g:Nat) (fl:List (List UInt8 × List UInt8)):Prop where
 lt:g<w.heap.size
 lo:B≤g
 cs:∀ k,k<fl.length→∃ gd c,w.cell? ⟨g,k*2,none⟩=some (St (fl.getD k ([],[])).1)∧w.cell? ⟨g,k*2+1,none⟩=some (.slice (some ⟨gd,0,none⟩) (fl.getD k ([],[])).2.length c)∧BR w w.heap.size (some ⟨gd,0,none⟩) (fl.getD k ([],[])).2∧B≤gd
theorem FilesAt.keep {w w':World} {B g:Nat} {fl:List (List UInt8 × List UInt8)} {F:Nat→Prop} (h:FilesAt w B g fl)(k:Keeps F w w')(hF:∀ j,B≤j→¬F j):FilesAt w' B g fl:=by
 refine⟨Nat.lt_of_lt_of_le h.lt k.size,h.lo,fun i hi=>?_⟩
 obtain⟨gd,c,h1,h2,h3,h4⟩:=h.cs i hi
 exact⟨gd,c,(k.cell _ _ h.lt (hF _ h.lo)).trans h1,(k.cell _ _ h.lt (hF _ h.lo)).trans h2,k.br h3 (fun ad e hne=>by cases e;exact hF _ h4),h4⟩
end Fs
end Go.Proofs.YtefgabnmcfpdcaaGreatDoor
