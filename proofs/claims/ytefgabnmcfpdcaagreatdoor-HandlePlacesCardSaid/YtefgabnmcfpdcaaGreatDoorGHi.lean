/- merged -/
import Derived.Test.YtefgabnmcfpdcaaGreatDoorGHe
import Derived.Test.YtefgabnmcfpdcaaGreatDoorGFm
import Derived.Lib.SlBytesConst
set_option maxHeartbeats 2000000
set_option maxRecDepth 100000
set_option linter.unusedSimpArgs false
set_option linter.unusedVariables false
namespace Go.Proofs.YtefgabnmcfpdcaaGreatDoor
namespace Hd
open Go.RowKit Ex Ino Mm Fs
def nsC (c:UInt8):List IN:=[⟨[c],0,[]⟩,in0,in0,in0,in0,in0,in0,in0]
theorem zjm (B:List UInt8)(c:UInt8)(hc:c=97∨c=102):zae ⟨B,ns0⟩ [c]=(0,0,⟨B,nsC c⟩):=by
 have h2:zhk ns0=some 0:=by decide +kernel
 have h1:za8 ns0 [c]=0:=by rcases hc with rfl | rfl<;>decide +kernel
 unfold zae
 rw[show(⟨B,ns0⟩:RG).ns=ns0 from rfl,if_pos h1,h2]
 rfl
theorem ycs (c:UInt8)(hc:c=97∨c=102):zbf [c]=true:=by rcases hc with rfl | rfl<;>decide +kernel
theorem ycr (c:UInt8)(hc:c=97∨c=102):zkf ns0 [c]=.tuple #[.int .i64 0,.int .i64 123]:=by
 have h1:zbu ns0 [c]=0:=by rcases hc with rfl | rfl<;>decide +kernel
 have h2:zbd ns0 [c]=123:=by rcases hc with rfl | rfl<;>decide +kernel
 unfold zkf
 rw[h1,h2]
 rfl
theorem zts (c:UInt8)(hc:c=97∨c=102):zkf (nsC c) [c]=.tuple #[.int .i64 ((0:Nat):Int),.int .i64 0]:=by
 have h1:zbu (nsC c) [c]=0:=by rcases hc with rfl | rfl<;>decide +kernel
 have h2:zbd (nsC c) [c]=0:=by rcases hc with rfl | rfl<;>decide +kernel
 unfold zkf
 rw[h1,h2]
theorem zuc {B:List UInt8} (h:B.length=2048)(c:UInt8)(hc:c=97∨c=102):RGood ⟨B,nsC c⟩:=by
 obtain⟨i,h2,h3,h4,h5⟩:=zl8 (zud h) [c] (by rw[zjm B c hc])
 rw[zjm B c hc] at h4
 injection h4 with _ h4
 injection h4 with _ h4
 rw[h4]
 exact h5
theorem zv6 (B:List UInt8)(c:UInt8)(hc:c=97∨c=102):zah ⟨B,nsC c⟩ ((0:Nat):Int) 0=(0,⟨B,nsC c⟩):=by
 have h1:za0 (nsC c) ((0:Nat):Int)=0:=by rcases hc with rfl | rfl<;>decide +kernel
 have h2:za1 (nsC c) ((0:Nat):Int)=⟨[c],0,[]⟩:=by rcases hc with rfl | rfl<;>decide +kernel
 have h3:zbo 0=0:=by decide +kernel
 have h4:zaq (nsC c)=0:=by rcases hc with rfl | rfl<;>decide +kernel
 have h5:zh9 [] 0 0=0:=by decide +kernel
 have h6:zeq [] 0 0=[]:=by decide +kernel
 unfold zah
 rw[if_pos]
 ·unfold zcg
  rw[show(⟨B,nsC c⟩:RG).ns=nsC c from rfl,h2,h3,h4]
  show((0:Int),(⟨zbj B (zeq [] 0 0) _,(nsC c).set 0 ⟨[c],0,zeq [] 0 0⟩⟩:RG))=_
  rw[h6]
  rfl
 ·unfold zci
  rw[show(⟨B,nsC c⟩:RG).ns=nsC c from rfl,if_neg (by rw[h1];decide),if_neg (by decide),if_neg (by decide),h2,h3,h4]
  exact h5
variable {M:List UInt8} {g:RG}
theorem zq3 (h:Has M g):zaa (zab M)=g.ns:=by
 have:=h.eq
 injection this
theorem zkz (hh:Has M g){h:Nat} (h1:1≤h)(h4:h≤4)(a b:Int):Has (zd7 M h a b) g:=by
 have hr:=zpr hh.ml h1 h4 a b
 exact⟨by rw[zkp];exact hh.ml,by rw[hr];exact hh.ok,by rw[hr];exact hh.eq⟩
theorem ydj {h:Nat} {a:Int} (hf:hF M h=a)(ha:-9223372036854775808<a∧a≤9223372036854775807):hN M h=a-1:=by
 unfold hN
 rw[hf]
 unfold wrap64
 omega
theorem zzl (hh:Has M g){h:Nat} {N:Int} (hn:hN M h=N):isO M h=decide (za0 g.ns N=0):=by
 unfold isO
 rw[zq3 hh,hn]
theorem zoj (hh:Has M g){h:Nat} (hf:hF M h=0):isO M h=false:=by
 rw[zzl hh (ydj hf (by omega))]
 have:za0 g.ns (0-1)=1:=by unfold za0;rw[if_pos (by omega)]
 rw[this]
 rfl
theorem yf8 (c:UInt8)(hc:c=97∨c=102){B:List UInt8} {ns:List IN} (hns:za0 ns 0=0)(hh:Has M ⟨B,ns⟩){h:Nat} (hf:hF M h=1):isO M h=true:=by
 rw[zzl hh (ydj hf (by omega))]
 have:za0 ns (1-1)=0:=hns
 rw[show(⟨B,ns⟩:RG).ns=ns from rfl,this]
 rfl
theorem zyv (c:UInt8)(hc:c=97∨c=102):za0 (nsC c) 0=0:=by rcases hc with rfl | rfl<;>decide +kernel
theorem low0 (h:isO M 1=false):Low M 0:=⟨by omega,fun j hj=>absurd hj (by omega),h⟩
theorem low1 (h1:isO M 1=true)(h2:isO M 2=false):Low M 1:=⟨by omega,fun j hj=>by
 obtain rfl:j=0:=by omega
 exact h1,h2⟩
end Hd
namespace Hd
open Go.RowKit Ex Ino Mm Fs
def zo9 (k:Nat):List EX:=if k=0 then [] else [(9,(k:Int))]
def nsK (c:UInt8) (s:Int) (k:Nat):List IN:=[⟨[c],s,zo9 k⟩,in0,in0,in0,in0,in0,in0,in0]
theorem ygj:∀ n:Fin 24,∀ k:Fin 24,k.val≤n.val→zh9 (zo9 k.val) (zby (za3 (zo9 k.val))) n.val=0∧zeq (zo9 k.val) (zby (za3 (zo9 k.val))) n.val=zo9 n.val:=by decide +kernel
theorem zid (c:UInt8)(hc:c=97∨c=102)(s:Int)(k:Nat):zaq (nsK c s k)=zby (za3 (zo9 k)):=by
 have h1:zi9 (nsK c s k)=[0]:=by rcases hc with rfl | rfl<;>rfl
 unfold zaq
 rw[h1]
 unfold zeo
 simp only[List.foldl_cons,List.foldl_nil,Nat.zero_or]
 rfl
theorem zgt (c:UInt8)(hc:c=97∨c=102)(s:Int)(k:Nat):za0 (nsK c s k) 0=0:=by
 unfold za0
 rw[if_neg (by omega)]
 rfl
theorem yf5 (c:UInt8)(s:Int)(k:Nat):isF (at' (nsK c s k) 0)=true:=rfl
theorem yf4 (c:UInt8)(hc:c=97∨c=102)(s:Int)(k:Nat):za1 (nsK c s k) 0=⟨[c],s,zo9 k⟩:=by
 unfold za1
 rw[if_pos (zgt c hc s k)]
 rfl
def nd (s:Int):Nat:=(zbo s).toNat
theorem nd_lt {s:Int} (h:s≤1472):nd s<24:=by unfold nd zbo;split<;>omega
theorem nd_le {s t:Int} (h:s≤t):nd s≤nd t:=by
 unfold nd zbo
 split<;>split<;>omega
theorem zna {B:List UInt8} (c:UInt8)(hc:c=97∨c=102)(s:Int)(hs:0≤s)(hg:RGood ⟨B,nsK c s (nd s)⟩)(b:List UInt8)(hb:s+(b.length:Int)≤1472):
  (zbx ⟨B,nsK c s (nd s)⟩ 0 s b).1=0∧(zbx ⟨B,nsK c s (nd s)⟩ 0 s b).2.ns=nsK c (s+(b.length:Int)) (nd (s+(b.length:Int)))∧RGood (zbx ⟨B,nsK c s (nd s)⟩ 0 s b).2:=by
 have h1:=zgt c hc s (nd s)
 have h2:=yf4 c hc s (nd s)
 have h4:=zid c hc s (nd s)
 have hfit:=ygj ⟨nd (s+(b.length:Int)),nd_lt hb⟩ ⟨nd s,nd_lt (by omega)⟩ (nd_le (by omega))
 simp only at hfit
 have hr:(zca ⟨B,nsK c s (nd s)⟩ 0 s b.length).1=0∧(zca ⟨B,nsK c s (nd s)⟩ 0 s b.length).2.ns=nsK c (s+(b.length:Int)) (nd (s+(b.length:Int))):=by
  unfold zca
  rw[show(⟨B,nsK c s (nd s)⟩:RG).ns=nsK c s (nd s) from rfl,if_neg (by rw[h1];decide),h2]
  rw[if_neg (show ¬(s<0∨(⟨[c],s,zo9 (nd s)⟩:IN).size<s) by show ¬(s<0∨s<s);omega)]
  by_cases hl:s<s+(b.length:Int)
  ·rw[if_pos (show(⟨[c],s,zo9 (nd s)⟩:IN).size<s+(b.length:Int) from hl)]
   have hE:zci ⟨B,nsK c s (nd s)⟩ 0 (s+(b.length:Int))=0:=by
    unfold zci
    rw[show(⟨B,nsK c s (nd s)⟩:RG).ns=nsK c s (nd s) from rfl,if_neg (by rw[h1];decide),if_neg (by omega),if_neg (by omega),h2,h4]
    exact hfit.1
   unfold zah
   rw[if_pos hE]
   refine⟨rfl,?_⟩
   show(zcg ⟨B,nsK c s (nd s)⟩ 0 (s+(b.length:Int))).ns=_
   rw[zg7,show(⟨B,nsK c s (nd s)⟩:RG).ns=nsK c s (nd s) from rfl,h2,h4]
   show(nsK c s (nd s)).set 0 ⟨[c],s+(b.length:Int),zeq (zo9 (nd s)) (zby (za3 (zo9 (nd s)))) (nd (s+(b.length:Int)))⟩=_
   rw[hfit.2]
   rfl
  ·rw[if_neg (show ¬(⟨[c],s,zo9 (nd s)⟩:IN).size<s+(b.length:Int) from hl)]
   have:b.length=0:=by omega
   refine⟨rfl,?_⟩
   rw[this,show s+((0:Nat):Int)=s by omega]
 obtain⟨_,ha,hf,hgd⟩:=zje hg (n:=0) (a:=s) (k:=b.length) hr.1
 have hp:=ycd hgd (n:=0) (a:=s) (b:=b) hs hf
 unfold zbx
 rw[if_pos hr.1]
 exact⟨rfl,hr.2,hp⟩
theorem zz2 {B:List UInt8} (c:UInt8)(hc:c=97∨c=102)(s:Int)(hs:0≤s)(hg:RGood ⟨B,nsK c s (nd s)⟩)(b:List UInt8)(hb:s+(b.length:Int)≤1472):
  zgx (zbx ⟨B,nsK c s (nd s)⟩ 0 s b).2 (at' (zbx ⟨B,nsK c s (nd s)⟩ 0 s b).2.ns 0)=zgx ⟨B,nsK c s (nd s)⟩ ⟨[c],s,zo9 (nd s)⟩++b:=
 zu6 hg (i:=0) (by omega) (yf5 c s (nd s)) b (zna c hc s hs hg b hb).1
end Hd
namespace Hd
open Go.RowKit Ex Ino Mm Fs
variable {w:World} {p gb mb:Nat} {G M:List UInt8}
theorem zto (xs:List UInt8)(a:Int)(h:∀ i:Int,byt xs i=0):∀ k:Nat,num xs a k=0
 | 0=>rfl
 | k+1=>by rw[zkn xs a k (h _)];exact zto xs a h k
theorem yd9 (i:Int):byt (zc8 []) i=0:=by
 by_cases h0:i<0
 ·exact ze9 _ _ (.inl h0)
 by_cases h1:i<8192
 ·rw[zcw _ _ (by omega)]
  unfold zc8
  rw[zdf _ _ _ _ (by omega)]
  exact ze9 _ _ (.inr (by simp;omega))
 ·exact ze9 _ _ (.inr (by rw[zd3];omega))
theorem yd6 (a:Int):cel (zc8 []) a=0:=by
 unfold cel
 rw[zto _ _ yd9]
 unfold wrap64
 omega
def yek (M:List UInt8):Prop:=∀ h,1≤h→h≤4→hF M h=0
theorem yaw:yek (zcs (zc8 []) 6144 fmtB):=fun h h1 h4=>by
 rw[zua (zd3 _) h1 h4]
 exact yd6 _
theorem zwz (h:MemAt w p gb mb G M)(hT:Tab w)(hmb:mb≠0)(hp:p≠0)(c:UInt8)(hc:c=97∨c=102){B:List UInt8} (hB:B.length=2048)(hh:Has M ⟨B,ns0⟩)(hcl:yek M):
  ∃ M' B',B'.length=2048∧Has M' ⟨B',nsC c⟩∧hF M' 1=1∧hP M' 1=0∧(∀ h,2≤h→h≤4→hF M' h=0) ∧
   Calls Tryz.prog 22 #[.pointer (some ⟨p,0,none⟩),St [c]] w (zbv w p gb mb G M' (.tuple #[.int .i64 1,.int .i64 0])):=by
 have l0:(zai ⟨B,ns0⟩).length=2048:=zb7 hB (by simp[ns0])
 have l1:(zai ⟨zai ⟨B,ns0⟩,nsC c⟩).length=2048:=zb7 l0 rfl
 have hh1:=Has.lay (M:=M) hh.ml (zuc l0 c hc)
 have hh2:=Has.lay (M:=zcs M 6144 (zai ⟨zai ⟨B,ns0⟩,nsC c⟩)) hh1.ml (zuc l1 c hc)
 obtain⟨M1,e1⟩:∃ M1,zcs M 6144 (zai ⟨zai ⟨B,ns0⟩,nsC c⟩)=M1:=⟨_,rfl⟩
 have cl1:yek M1:=fun k k1 k4=>by rw[← e1,zua hh.ml k1 k4];exact hcl k k1 k4
 have e1':=e1
 rw[e1] at hh1 hh2
 obtain⟨M2,e2⟩:∃ M2,zcs M1 6144 (zai ⟨zai ⟨zai ⟨B,ns0⟩,nsC c⟩,nsC c⟩)=M2:=⟨_,rfl⟩
 rw[e2] at hh2
 have cl2:yek M2:=fun k k1 k4=>by rw[← e2,zua hh1.ml k1 k4];exact cl1 k k1 k4
 have hcr:zae ⟨zab M,zaa (zab M)⟩ [c]=(0,0,⟨zai ⟨B,ns0⟩,nsC c⟩):=by rw[hh.eq];exact zjm _ c hc
 have hrs:zah ⟨zab M1,zaa (zab M1)⟩ ((0:Nat):Int) 0=(0,⟨zai ⟨zai ⟨B,ns0⟩,nsC c⟩,nsC c⟩):=by rw[hh1.eq];exact zv6 _ c hc
 have hf0:zkf (zaa (zab M)) [c]=.tuple #[.int .i64 0,.int .i64 123]:=by rw[zq3 hh];exact ycr c hc
 have hf2:zkf (zaa (zab M2)) [c]=.tuple #[.int .i64 ((0:Nat):Int),.int .i64 0]:=by rw[zq3 hh2];exact zts c hc
 have hcall:=zwj h hh.ok hT hmb hp [c] (by simp) (ycs c hc) hf0 0 (by omega) _ _ hcr M1 M2 e1 hh1.ok hrs e2 hh2.ok hf2 0 0 (low0 (zoj hh (hcl 1 (by omega) (by omega)))) (low0 (zoj hh2 (cl2 1 (by omega) (by omega))))
 refine⟨zd7 M2 1 1 0,zai ⟨zai ⟨B,ns0⟩,nsC c⟩,l1,zkz hh2 (by omega) (by omega) 1 0,zl2 hh2.ml (by omega) (by omega) 1 0 (by omega),zop hh2.ml (by omega) (by omega) 1 0 (by omega),fun k k1 k4=>?_,hcall⟩
 rw[zhc hh2.ml (by omega) (by omega) k4 (by omega)]
 exact cl2 k (by omega) k4
theorem ycm (h:MemAt w p gb mb G M)(c:UInt8)(hc:c=97∨c=102){B:List UInt8} (hh:Has M ⟨B,nsC c⟩)(hf1:hF M 1=1)(hp1:hP M 1=0)(hz:∀ h,2≤h→h≤4→hF M h=0):
  ∃ M',Has M' ⟨B,nsC c⟩∧(hF M' 1=1∧hP M' 1=0)∧(hF M' 2=1∧hP M' 2=0) ∧
   Calls Tryz.prog 23 #[.pointer (some ⟨p,0,none⟩),St [c]] w (zbv w p gb mb G M' (.tuple #[.int .i64 2,.int .i64 0])):=by
 have hf:zkf (zaa (zab M)) [c]=.tuple #[.int .i64 ((0:Nat):Int),.int .i64 0]:=by rw[zq3 hh];exact zts c hc
 have hcall:=zt7 h hh.ok [c] (by simp) 0 (by omega) hf 1 (low1 (yf8 c hc (zyv c hc) hh hf1) (zoj hh (hz 2 (by omega) (by omega))))
 refine⟨zd7 M 2 1 0,zkz hh (by omega) (by omega) 1 0,⟨?_,?_⟩,⟨zl2 hh.ml (by omega) (by omega) 1 0 (by omega),zop hh.ml (by omega) (by omega) 1 0 (by omega)⟩,hcall⟩
 ·rw[zhc hh.ml (by omega) (by omega) (by omega) (by omega)];exact hf1
 ·rw[zkq hh.ml (by omega) (by omega) (by omega) (by omega)];exact hp1
end Hd
namespace Hd
open Go.RowKit Ex Ino Mm Fs
structure HS (M:List UInt8) (c:UInt8) (all:List UInt8) (a q:Int):Prop where
 hc:c=97∨c=102
 le:all.length≤1472
 has:∃ g,Has M g∧g.ns=nsK c (all.length:Int) (nd (all.length:Int))∧zgx g ⟨[c],(all.length:Int),zo9 (nd (all.length:Int))⟩=all
 f1:hF M 1=1
 f2:hF M 2=1
 p1:hP M 1=a
 p2:hP M 2=q
variable {M:List UInt8} {c:UInt8} {all:List UInt8} {a q:Int} {w:World} {p gb mb:Nat} {G:List UInt8}
theorem HS.ok (h:HS M c all a q):okR (zab M):=by
 obtain⟨g,hh,_⟩:=h.has
 exact hh.ok
theorem HS.ml (h:HS M c all a q):M.length=8192:=by
 obtain⟨g,hh,_⟩:=h.has
 exact hh.ml
theorem HS.hN1 (h:HS M c all a q):hN M 1=0:=ydj h.f1 (by omega)
theorem HS.hN2 (h:HS M c all a q):hN M 2=0:=ydj h.f2 (by omega)
theorem HS.ns (h:HS M c all a q):zaa (zab M)=nsK c (all.length:Int) (nd (all.length:Int)):=by
 obtain⟨g,hh,hn,_⟩:=h.has
 rw[zq3 hh,hn]
theorem HS.o1 (h:HS M c all a q):isO M 1=true:=by
 unfold isO
 rw[h.ns,h.hN1,zgt c h.hc]
 rfl
theorem HS.o2 (h:HS M c all a q):isO M 2=true:=by
 unfold isO
 rw[h.ns,h.hN2,zgt c h.hc]
 rfl
theorem zxn (c:UInt8)(hc:c=97∨c=102)(s:Int)(k:Nat):szX (za1 (nsK c s k) 0)=s:=by rw[yf4 c hc];rfl
theorem HS.hS1 (h:HS M c all a q):hS M 1=(all.length:Int):=by
 unfold hS
 rw[h.ns,h.hN1,zxn c h.hc]
theorem HS.hS2 (h:HS M c all a q):hS M 2=(all.length:Int):=by
 unfold hS
 rw[h.ns,h.hN2,zxn c h.hc]
theorem HS.hL1 (h:HS M c all a q)(h0:0≤a)(h1:a≤(all.length:Int)):hL M 1=a:=by
 unfold hL zl9
 rw[h.p1,h.hS1,if_neg (by omega)]
theorem HS.hL2 (h:HS M c all a q)(h0:0≤q)(h1:q≤(all.length:Int)):hL M 2=q:=by
 unfold hL zl9
 rw[h.p2,h.hS2,if_neg (by omega)]
theorem HS.write (h:HS M c all (all.length:Int) q)(x:List UInt8)(hx:all.length+x.length≤1472):
  (wrV M 1 x).1=0∧HS (wrM M 1 (hN M 1) (hL M 1) x.length (wrV M 1 x)) c (all++x) ((all++x).length:Int) q:=by
 have hL:=h.hL1 (by omega) (by omega)
 have hN:=h.hN1
 have hml:=h.ml
 have hgood:=zgd hml h.ok
 obtain⟨g,hh,hn,hd⟩:=h.has
 have hns:=h.ns
 have heq:=hh.eq
 rw[hn] at heq
 rw[heq] at hgood
 have hgl:g.ns.length=8:=by rw[hn];rfl
 have hv:wrV M 1 x=zbx ⟨zai g,nsK c (all.length:Int) (nd (all.length:Int))⟩ 0 (all.length:Int) x:=by
  unfold wrV
  rw[hL,hN,heq]
 obtain⟨w1,w2,w3⟩:=zna c h.hc (all.length:Int) (by omega) hgood x (by omega)
 have w4:=zz2 c h.hc (all.length:Int) (by omega) hgood x (by omega)
 have hda:=zjv (g:=g) hgl ⟨[c],(all.length:Int),zo9 (nd (all.length:Int))⟩
 rw[hn] at hda
 rw[hda,hd] at w4
 rw[← hv] at w1 w2 w3 w4
 generalize wrV M 1 x=rv at *
 have e1:((all++x).length:Int)=(all.length:Int)+(x.length:Int):=by rw[List.length_append];omega
 refine⟨w1,?_⟩
 unfold wrM
 rw[if_pos w1,hL,hN]
 have hl:=Has.lay hml w3
 have hlm:=hl.ml
 refine⟨h.hc,by rw[List.length_append];exact hx,⟨rv.2,zkz hl (by omega) (by omega) _ _,by rw[w2,e1],?_⟩,?_,?_,?_,?_⟩
 ·rw[e1,← w4,w2]
  rfl
 ·rw[zl2 hlm (by omega) (by omega) _ _ (by omega)];rfl
 ·rw[zhc hlm (by omega) (by omega) (by omega) (by omega),zua hml (by omega) (by omega)];exact h.f2
 ·rw[zop hlm (by omega) (by omega) _ _ (by omega),e1]
 ·rw[zkq hlm (by omega) (by omega) (by omega) (by omega),hP_lay hml (by omega) (by omega)];exact h.p2
theorem HS.read (h:HS M c all a q)(h0:0≤q)(h1:q≤(all.length:Int))(K:Int)(hK:0≤K):
  rdE M 2 K=0∧rdX M 2 K=(all.drop q.toNat).take K.toNat∧HS (rdM M 2 (hN M 2) (hL M 2) (rdX M 2 K).length (rdE M 2 K)) c all a (q+(((all.drop q.toNat).take K.toNat).length:Int)):=by
 have hL:=h.hL2 h0 h1
 have hN:=h.hN2
 have hml:=h.ml
 have hle:=h.le
 obtain⟨g,hh,hn,hd⟩:=h.has
 have heq:=hh.eq
 have hgl:g.ns.length=8:=by rw[hn];rfl
 have hda:=zjv (g:=g) hgl ⟨[c],(all.length:Int),zo9 (nd (all.length:Int))⟩
 rw[hd] at hda
 rw[hn] at heq hda
 have hE:rdE M 2 K=0:=by
  unfold rdE zfp
  rw[hN,hL,heq]
  rw[if_neg (show ¬za0 (nsK c (all.length:Int) (nd (all.length:Int))) 0≠0 by rw[zgt c h.hc];decide),if_neg (by omega)]
 have hX:rdX M 2 K=(all.drop q.toNat).take K.toNat:=by
  unfold rdE at hE
  unfold rdX ze6
  rw[if_pos hE,hN,hL,heq]
  show((zam (zai g) (za1 (nsK c (all.length:Int) (nd (all.length:Int))) 0).ext).drop (ztc (za1 (nsK c (all.length:Int) (nd (all.length:Int))) 0) q)).take (rdN (za1 (nsK c (all.length:Int) (nd (all.length:Int))) 0) q K)=_
  rw[yf4 c h.hc]
  unfold zgx at hda
  unfold ztc rdN
  simp only at hda ⊢
  generalize zam (zai g) (zo9 (nd (all.length:Int)))=W at *
  have hm:(min q (all.length:Int)).toNat=q.toNat:=by omega
  rw[hm]
  have e:all=W.take all.length:=by
   have:=hda.symm
   simpa using this
  have hW:all.length≤W.length:=by
   have:=congrArg List.length e
   rw[List.length_take] at this
   omega
  have hn2:(min K ((all.length:Int)-min q (all.length:Int))).toNat=min K.toNat (all.length-q.toNat):=by omega
  rw[hn2]
  conv=>rhs;rw[e]
  rw[List.drop_take,List.take_take]
 refine⟨hE,hX,?_⟩
 rw[hE,hX]
 unfold rdM
 rw[if_pos rfl,hL,hN]
 have hbd:(((all.drop q.toNat).take K.toNat).length:Int)≤1472:=by
  rw[List.length_take,List.length_drop];omega
 refine⟨h.hc,hle,⟨g,zkz hh (by omega) (by omega) _ _,hn,hd⟩,?_,?_,?_,?_⟩
 ·rw[zhc hml (by omega) (by omega) (by omega) (by omega)];exact h.f1
 ·rw[zl2 hml (by omega) (by omega) _ _ (by omega)];rfl
 ·rw[zkq hml (by omega) (by omega) (by omega) (by omega)];exact h.p1
 ·rw[zop hml (by omega) (by omega) _ _ (by omega)]
end Hd
namespace Hd
open Go.RowKit Ex Ino Mm Fs
variable {M:List UInt8} {w:World} {p gb mb:Nat} {G:List UInt8}
theorem ycl (h:MemAt w p gb mb G M)(c:UInt8)(hc:c=97∨c=102){B:List UInt8} (hh:Has M ⟨B,nsC c⟩)(hf1:hF M 1=1)(hp1:hP M 1=0)(hz:∀ h,2≤h→h≤4→hF M h=0):
  ∃ M',HS M' c [] 0 0∧Calls Tryz.prog 23 #[.pointer (some ⟨p,0,none⟩),St [c]] w (zbv w p gb mb G M' (.tuple #[.int .i64 2,.int .i64 0])):=by
 obtain⟨M',h1,⟨h2,h3⟩,⟨h4,h5⟩,hcall⟩:=ycm h c hc hh hf1 hp1 hz
 refine⟨M',⟨hc,by simp,⟨⟨B,nsC c⟩,h1,?_,?_⟩,h2,h4,h3,h5⟩,hcall⟩
 ·rfl
 ·unfold zgx
  rfl
theorem lit_xy:(#[.int .u8 120,.int .u8 121]:Array Value)=(([120,121]:List UInt8).map B8).toArray:=by simp[B8]
set_option maxRecDepth 100000 in
theorem zwh (w:World)(hT:Tab w):Calls Tryz.prog 17 #[] w fun e w'=>e=.returned (.bool true)∧Below w.heap.size w w':=by
 have hT0:=hT.pos
 have HT:=hq hT
 clear hT
 go_enter Tryz.func17,Tryz.ntmps17
 go_wp2_with fail
 refine(zls none [] 0 w BR.nil).mono ?_
 rintro e w2 ⟨p,gb,mb,rfl,p1,p2,p3,hm,k2⟩
 have zl:=zd3 []
 have hcl:=yaw
 generalize zc8 []=Z at *
 have hT2:=HT.out.keep (k2.block 0 hT0 (fun f=>f))
 have K2:=hq k2
 have KT:Hid (∀ W,Keeps (fun k=>k=p∨k=mb) w2 W→Below w.heap.size w W∧Tab W):=fun W k=>by
  have:=Keeps.thru (F'':=fun _=>False) K2.out k (fun _ _ h=>h) fun i hi h=>by omega
  exact⟨this.toBelow _ (Nat.le_refl _) fun _ h=>h.elim,hT2.keep (k.block 0 hT2.pos (fun e=>by omega))⟩
 have HFM:=hq (zwp (zzg hm fmtB (by rw[zks];omega)))
 have HCL:=hq hcl
 clear k2 hT2 hcl
 go_wp2_with fail
 refine HFM.out.mono ?_
 rintro e w3 ⟨rfl,h3,k3⟩
 have k3':Keeps (fun k=>k=p∨k=mb) w2 w3:=k3
 have hrl:(zab Z).length=2048:=by unfold zab;rw[List.length_drop];omega
 obtain⟨M4,B4,-,q2,q3,q4,q5,hc4⟩:=zwz h3 (KT.out _ k3').2 (by omega) (by omega) 97 (.inl rfl) hrl (Has.fmt zl) HCL.out
 have H4:=hq hc4
 have Q:=hq (And.intro q2 (And.intro q3 (And.intro q4 q5)))
 have K3:=hq k3'
 clear h3 k3 k3' HFM hc4 q2 q3 q4 q5 hm HCL
 go_wp2_with fail
 refine H4.out.mono ?_
 rintro e w4 ⟨rfl,h4,k4⟩
 obtain⟨q2,q3,q4,q5⟩:=Q.out
 obtain⟨M5,s5,hc5⟩:=ycl h4 97 (.inl rfl) q2 q3 q4 q5
 have H5:=hq hc5
 have S5:=hq s5
 have K4:=hq (K3.out.trans k4)
 clear h4 k4 K3 H4 hc5 s5 q2 q3 q4 q5 Q
 go_wp2_with fail
 refine H5.out.mono ?_
 rintro e w5 ⟨rfl,h5,k5⟩
 have kc:(convert 31 31 (.slice (some ⟨w5.heap.size,0,none⟩) 2 2)).run Tryz.prog (w5.alloc (.cells #[.int .u8 120,.int .u8 121] 5))=.ok (.slice (some ⟨w5.heap.size,0,none⟩) 2 2) (w5.alloc (.cells #[.int .u8 120,.int .u8 121] 5 (2,3))):=Lib.run_convert_bytes_const (P:=Tryz.prog) w5 31 5 #[.int .u8 120,.int .u8 121] 2 2 Tryz.underlying31 Tryz.underlying5
 have r5:BR (w5.alloc (.cells #[.int .u8 120,.int .u8 121] 5 (2,3))) (w5.alloc (.cells #[.int .u8 120,.int .u8 121] 5 (2,3))).heap.size (some ⟨w5.heap.size,0,none⟩) [120,121]:=(BR.new w5 _ _ _ _ lit_xy).more (by simp)
 have ka:Keeps (fun k=>k=p∨k=mb) w2 (w5.alloc (.cells #[.int .u8 120,.int .u8 121] 5 (2,3))):=(K4.out.trans k5).trans (Keeps.alloc _ _ _)
 have h5a:=h5.keep (Keeps.alloc (fun _=>False) w5 (.cells #[.int .u8 120,.int .u8 121] 5 (2,3))) (fun f=>f) (fun f=>f) (fun f=>f)
 have l5:=h5.lt
 have hw:=zm8 h5a S5.out.ok (KT.out _ ka).2 (by omega) (by omega) 1 (by omega) (by omega) S5.out.o1 2 r5 (by simp) (fun _ ad e=>by cases e;show w5.heap.size≠mb∧w5.heap.size≠p;omega)
 obtain⟨v6,s6⟩:=S5.out.write [120,121] (by simp)
 rw[v6] at hw
 simp only[List.length_cons,List.length_nil,Nat.zero_add,Nat.reduceAdd] at hw s6
 generalize wrM M5 1 (hN M5 1) (hL M5 1) 2 (wrV M5 1 [120,121])=M6 at *
 have HW:=hq hw
 have S6:=hq s6
 have K5:=hq ka
 clear hw s6 v6 ka h5 k5 h5a r5 l5 H5 K4 S5
 go_wp2_with fail
 refine HW.out.mono ?_
 rintro e w6 ⟨rfl,h6,k6⟩
 have hr:=zqe h6 S6.out.ok 2 (by omega) (by omega) S6.out.o2 9 (by omega)
 obtain⟨v7,x7,s7⟩:=S6.out.read (by omega) (by simp) 9 (by omega)
 have x7':rdX M6 2 9=[120,121]:=x7
 rw[v7,x7'] at hr s7
 have s7':HS (rdM M6 2 (hN M6 2) (hL M6 2) ([120,121]:List UInt8).length 0) 97 [120,121] 2 2:=s7
 simp only[List.length_cons,List.length_nil,Nat.zero_add,Nat.reduceAdd] at s7' hr
 generalize rdM M6 2 (hN M6 2) (hL M6 2) 2 0=M7 at *
 have PB:Hid (p<w6.heap.size∧mb<w6.heap.size):=⟨h6.lt.1,h6.lt.2.2⟩
 have HR:=hq hr
 have S7:=hq s7'
 have K6:=hq (K5.out.trans k6)
 clear hr s7 s7' v7 x7 x7' h6 k6 HW K5
 go_wp2_with fail
 refine HR.out.mono ?_
 rintro e w7 ⟨⟨A,c,rfl,br7,hn7⟩,h7,k7⟩
 have hp:=zjr h7 S7.out.ok 2 (by omega) (by omega) S7.out.o2
 rw[S7.out.hL2 (by simp) (by simp)] at hp
 have HP:=hq hp
 have BR7:=hq br7
 have K7:=hq (K6.out.trans k7)
 clear hp h7 k7 br7 HR K6 S7 S6
 go_wp2_with fail
 refine HP.out.mono ?_
 rintro e w8 ⟨rfl,h8,k8⟩
 have br8:=zgh BR7.out k8 fun _ ad e f=>by
  have:=hn7 ad e
  have:=PB.out
  omega
 have cs:(convert 31 9 (.slice A 2 c)).run Tryz.prog w8=.ok (.string ⟨#[120,121]⟩) w8:=zfj (P:=Tryz.prog) w8 _ 31 9 5 A [120,121] c br8 Tryz.underlying31 Tryz.underlying5 Tryz.underlying9
 have HG:=hq (KT.out _ (K7.out.trans k8)).1
 clear h8 k8 br8 HP K7 BR7
 go_wp2_with fail
 go_ret
 exact⟨rfl,HG.out⟩
end Hd
end Go.Proofs.YtefgabnmcfpdcaaGreatDoor
