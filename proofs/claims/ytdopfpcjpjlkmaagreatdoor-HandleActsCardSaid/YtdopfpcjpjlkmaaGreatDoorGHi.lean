/- merged -/
import Derived.Test.YtdopfpcjpjlkmaaGreatDoorGHe
import Derived.Test.YtdopfpcjpjlkmaaGreatDoorGFm
import Derived.Lib.SlBytesConst
set_option maxHeartbeats 2000000
set_option maxRecDepth 100000
set_option linter.unusedSimpArgs false
set_option linter.unusedVariables false
namespace Go.Proofs.YtdopfpcjpjlkmaaGreatDoor
namespace Hd
open Go.RowKit Ex Ino Mm Fs
def nsC (c:UInt8):List IN:=[⟨[c],0,[]⟩,in0,in0,in0,in0,in0,in0,in0]
theorem zj3 (B:List UInt8)(c:UInt8)(hc:c=97∨c=102):zae ⟨B,ns0⟩ [c]=(0,0,⟨B,nsC c⟩):=by
 have h2:zg7 ns0=some 0:=by decide +kernel
 have h1:za2 ns0 [c]=0:=by rcases hc with rfl | rfl<;>decide +kernel
 unfold zae
 rw[show(⟨B,ns0⟩:RG).ns=ns0 from rfl,zp h1,h2]
 rfl
theorem ydz (c:UInt8)(hc:c=97∨c=102):zbg [c]=true:=by rcases hc with rfl | rfl<;>decide +kernel
theorem ydy (c:UInt8)(hc:c=97∨c=102):zku ns0 [c]=.tuple #[.int .i64 0,.int .i64 123]:=by
 have h1:zbi ns0 [c]=0:=by rcases hc with rfl | rfl<;>decide +kernel
 have h2:za5 ns0 [c]=123:=by rcases hc with rfl | rfl<;>decide +kernel
 unfold zku
 rw[h1,h2]
 rfl
theorem zuq (c:UInt8)(hc:c=97∨c=102):zku (nsC c) [c]=.tuple #[.int .i64 ((0:Nat):Int),.int .i64 0]:=by
 have h1:zbi (nsC c) [c]=0:=by rcases hc with rfl | rfl<;>decide +kernel
 have h2:za5 (nsC c) [c]=0:=by rcases hc with rfl | rfl<;>decide +kernel
 unfold zku
 rw[h1,h2]
theorem zu9 {B:List UInt8} (h:B.length=2048)(c:UInt8)(hc:c=97∨c=102):RGood ⟨B,nsC c⟩:=by
 obtain⟨i,h2,h3,h4,h5⟩:=zik (zva h) [c] (by rw[zj3 B c hc])
 rw[zj3 B c hc] at h4
 injection h4 with _ h4
 injection h4 with _ h4
 rw[h4]
 exact h5
theorem zw4 (B:List UInt8)(c:UInt8)(hc:c=97∨c=102):zag ⟨B,nsC c⟩ ((0:Nat):Int) 0=(0,⟨B,nsC c⟩):=by
 have h1:za1 (nsC c) ((0:Nat):Int)=0:=by rcases hc with rfl | rfl<;>decide +kernel
 have h2:za0 (nsC c) ((0:Nat):Int)=⟨[c],0,[]⟩:=by rcases hc with rfl | rfl<;>decide +kernel
 have h3:zbq 0=0:=by decide +kernel
 have h4:zao (nsC c)=0:=by rcases hc with rfl | rfl<;>decide +kernel
 have h5:zh1 [] 0 0=0:=by decide +kernel
 have h6:zd8 [] 0 0=[]:=by decide +kernel
 unfold zag
 rw[zp]
 ·unfold zb5
  rw[show(⟨B,nsC c⟩:RG).ns=nsC c from rfl,h2,h3,h4]
  show((0:Int),(⟨zbo B (zd8 [] 0 0) _,(nsC c).set 0 ⟨[c],0,zd8 [] 0 0⟩⟩:RG))=_
  rw[h6]
  rfl
 ·unfold zch
  rw[show(⟨B,nsC c⟩:RG).ns=nsC c from rfl,zn (by rw[h1];decide),zn (by decide),zn (by decide),h2,h3,h4]
  exact h5
variable {M:List UInt8} {g:RG}
theorem zrw (h:Has M g):zaa (zab M)=g.ns:=by
 have:=h.eq
 injection this
theorem zlf (hh:Has M g){h:Nat} (h1:1≤h)(h4:h≤4)(a b:Int):Has (zdb M h a b) g:=by
 have hr:=ziy hh.ml h1 h4 a b
 exact⟨by rw[zen];exact hh.ml,by rw[hr];exact hh.ok,by rw[hr];exact hh.eq⟩
theorem yes {h:Nat} {a:Int} (hf:hF M h=a)(ha:-9223372036854775808<a∧a≤9223372036854775807):hN M h=a-1:=by
 unfold hN
 rw[hf]
 unfold wrap64
 omega
theorem yah (hh:Has M g){h:Nat} {N:Int} (hn:hN M h=N):isO M h=decide (za1 g.ns N=0):=by
 unfold isO
 rw[zrw hh,hn]
theorem zo8 (hh:Has M g){h:Nat} (hf:hF M h=0):isO M h=false:=by
 rw[yah hh (yes hf (by omega))]
 have:za1 g.ns (0-1)=1:=by unfold za1;rw[zp (by omega)]
 rw[this]
 rfl
theorem yhq (c:UInt8)(hc:c=97∨c=102){B:List UInt8} {ns:List IN} (hns:za1 ns 0=0)(hh:Has M ⟨B,ns⟩){h:Nat} (hf:hF M h=1):isO M h=true:=by
 rw[yah hh (yes hf (by omega))]
 have:za1 ns (1-1)=0:=hns
 rw[show(⟨B,ns⟩:RG).ns=ns from rfl,this]
 rfl
theorem zzt (c:UInt8)(hc:c=97∨c=102):za1 (nsC c) 0=0:=by rcases hc with rfl | rfl<;>decide +kernel
theorem low0 (h:isO M 1=false):Low M 0:=⟨by omega,fun j hj=>absurd hj (by omega),h⟩
theorem low1 (h1:isO M 1=true)(h2:isO M 2=false):Low M 1:=⟨by omega,fun j hj=>by
 obtain rfl:j=0:=by omega
 exact h1,h2⟩
end Hd
namespace Hd
open Go.RowKit Ex Ino Mm Fs
def zp0 (k:Nat):List EX:=if k=0 then [] else [(9,(k:Int))]
def nsK (c:UInt8) (s:Int) (k:Nat):List IN:=[⟨[c],s,zp0 k⟩,in0,in0,in0,in0,in0,in0,in0]
theorem yh3:∀ n:Fin 24,∀ k:Fin 24,k.val≤n.val→zh1 (zp0 k.val) (zb2 (za4 (zp0 k.val))) n.val=0∧zd8 (zp0 k.val) (zb2 (za4 (zp0 k.val))) n.val=zp0 n.val:=by decide +kernel
theorem zir (c:UInt8)(hc:c=97∨c=102)(s:Int)(k:Nat):zao (nsK c s k)=zb2 (za4 (zp0 k)):=by
 have h1:zhw (nsK c s k)=[0]:=by rcases hc with rfl | rfl<;>rfl
 unfold zao
 rw[h1]
 unfold zes
 simp only[List.foldl_cons,List.foldl_nil,Nat.zero_or]
 rfl
theorem zg2 (c:UInt8)(hc:c=97∨c=102)(s:Int)(k:Nat):za1 (nsK c s k) 0=0:=by
 unfold za1
 rw[zn (by omega)]
 rfl
theorem yhm (c:UInt8)(s:Int)(k:Nat):isF (at' (nsK c s k) 0)=true:=rfl
theorem yhl (c:UInt8)(hc:c=97∨c=102)(s:Int)(k:Nat):za0 (nsK c s k) 0=⟨[c],s,zp0 k⟩:=by
 unfold za0
 rw[zp (zg2 c hc s k)]
 rfl
def nd (s:Int):Nat:=(zbq s).toNat
theorem nd_lt {s:Int} (h:s≤1472):nd s<24:=by unfold nd zbq;split<;>omega
theorem nd_le {s t:Int} (h:s≤t):nd s≤nd t:=by
 unfold nd zbq
 split<;>split<;>omega
theorem zny {B:List UInt8} (c:UInt8)(hc:c=97∨c=102)(s:Int)(hs:0≤s)(hg:RGood ⟨B,nsK c s (nd s)⟩)(b:List UInt8)(hb:s+(b.length:Int)≤1472):
  (zbu ⟨B,nsK c s (nd s)⟩ 0 s b).1=0∧(zbu ⟨B,nsK c s (nd s)⟩ 0 s b).2.ns=nsK c (s+(b.length:Int)) (nd (s+(b.length:Int)))∧RGood (zbu ⟨B,nsK c s (nd s)⟩ 0 s b).2:=by
 have h1:=zg2 c hc s (nd s)
 have h2:=yhl c hc s (nd s)
 have h4:=zir c hc s (nd s)
 have hfit:=yh3 ⟨nd (s+(b.length:Int)),nd_lt hb⟩ ⟨nd s,nd_lt (by omega)⟩ (nd_le (by omega))
 simp only at hfit
 have hr:(zb6 ⟨B,nsK c s (nd s)⟩ 0 s b.length).1=0∧(zb6 ⟨B,nsK c s (nd s)⟩ 0 s b.length).2.ns=nsK c (s+(b.length:Int)) (nd (s+(b.length:Int))):=by
  unfold zb6
  rw[show(⟨B,nsK c s (nd s)⟩:RG).ns=nsK c s (nd s) from rfl,zn (by rw[h1];decide),h2]
  rw[zn (show ¬(s<0∨(⟨[c],s,zp0 (nd s)⟩:IN).size<s) by show ¬(s<0∨s<s);omega)]
  by_cases hl:s<s+(b.length:Int)
  ·rw[zp (show(⟨[c],s,zp0 (nd s)⟩:IN).size<s+(b.length:Int) from hl)]
   have hE:zch ⟨B,nsK c s (nd s)⟩ 0 (s+(b.length:Int))=0:=by
    unfold zch
    rw[show(⟨B,nsK c s (nd s)⟩:RG).ns=nsK c s (nd s) from rfl,zn (by rw[h1];decide),zn (by omega),zn (by omega),h2,h4]
    exact hfit.1
   unfold zag
   rw[zp hE]
   refine⟨rfl,?_⟩
   show(zb5 ⟨B,nsK c s (nd s)⟩ 0 (s+(b.length:Int))).ns=_
   rw[zfw,show(⟨B,nsK c s (nd s)⟩:RG).ns=nsK c s (nd s) from rfl,h2,h4]
   show(nsK c s (nd s)).set 0 ⟨[c],s+(b.length:Int),zd8 (zp0 (nd s)) (zb2 (za4 (zp0 (nd s)))) (nd (s+(b.length:Int)))⟩=_
   rw[hfit.2]
   rfl
  ·rw[zn (show ¬(⟨[c],s,zp0 (nd s)⟩:IN).size<s+(b.length:Int) from hl)]
   have:b.length=0:=by omega
   refine⟨rfl,?_⟩
   rw[this,show s+((0:Nat):Int)=s by omega]
 obtain⟨_,ha,hf,hgd⟩:=zhj hg (n:=0) (a:=s) (k:=b.length) hr.1
 have hp:=zua hgd (n:=0) (a:=s) (b:=b) hs hf
 unfold zbu
 rw[zp hr.1]
 exact⟨rfl,hr.2,hp⟩
theorem ya0 {B:List UInt8} (c:UInt8)(hc:c=97∨c=102)(s:Int)(hs:0≤s)(hg:RGood ⟨B,nsK c s (nd s)⟩)(b:List UInt8)(hb:s+(b.length:Int)≤1472):
  zg9 (zbu ⟨B,nsK c s (nd s)⟩ 0 s b).2 (at' (zbu ⟨B,nsK c s (nd s)⟩ 0 s b).2.ns 0)=zg9 ⟨B,nsK c s (nd s)⟩ ⟨[c],s,zp0 (nd s)⟩++b:=
 zv6 hg (i:=0) (by omega) (yhm c s (nd s)) b (zny c hc s hs hg b hb).1
end Hd
namespace Hd
open Go.RowKit Ex Ino Mm Fs
variable {w:World} {p gb mb:Nat} {G M:List UInt8}
theorem zum (xs:List UInt8)(a:Int)(h:∀ i:Int,byt xs i=0):∀ k:Nat,num xs a k=0
 | 0=>rfl
 | k+1=>by rw[zk5 xs a k (h _)];exact zum xs a h k
theorem yfm (i:Int):byt (zdo []) i=0:=by
 by_cases h0:i<0
 ·exact zff _ _ (.inl h0)
 by_cases h1:i<8192
 ·rw[zcl _ _ (by omega)]
  unfold zdo
  rw[zdj _ _ _ _ (by omega)]
  exact zff _ _ (.inr (by simp;omega))
 ·exact zff _ _ (.inr (by rw[zdq];omega))
theorem zvr (a:Int):cel (zdo []) a=0:=by
 unfold cel
 rw[zum _ _ yfm]
 unfold wrap64
 omega
def yfx (M:List UInt8):Prop:=∀ h,1≤h→h≤4→hF M h=0
theorem yby:yfx (zbx (zdo []) 6144 fmtB):=fun h h1 h4=>by
 rw[zg5 (zdq _) h1 h4]
 exact zvr _
theorem zxv (h:MemAt w p gb mb G M)(hT:Tab w)(hmb:mb≠0)(hp:p≠0)(c:UInt8)(hc:c=97∨c=102){B:List UInt8} (hB:B.length=2048)(hh:Has M ⟨B,ns0⟩)(hcl:yfx M):
  ∃ M' B',B'.length=2048∧Has M' ⟨B',nsC c⟩∧hF M' 1=1∧hP M' 1=0∧(∀ h,2≤h→h≤4→hF M' h=0) ∧
   Calls Tryz.prog 17 #[.pointer (some ⟨p,0,none⟩),St [c]] w (zb0 w p gb mb G M' (.tuple #[.int .i64 1,.int .i64 0])):=by
 have l0:(zad ⟨B,ns0⟩).length=2048:=zcb hB (by simp[ns0])
 have l1:(zad ⟨zad ⟨B,ns0⟩,nsC c⟩).length=2048:=zcb l0 rfl
 have hh1:=Has.lay (M:=M) hh.ml (zu9 l0 c hc)
 have hh2:=Has.lay (M:=zbx M 6144 (zad ⟨zad ⟨B,ns0⟩,nsC c⟩)) hh1.ml (zu9 l1 c hc)
 obtain⟨M1,e1⟩:∃ M1,zbx M 6144 (zad ⟨zad ⟨B,ns0⟩,nsC c⟩)=M1:=⟨_,rfl⟩
 have cl1:yfx M1:=fun k k1 k4=>by rw[← e1,zg5 hh.ml k1 k4];exact hcl k k1 k4
 have e1':=e1
 rw[e1] at hh1 hh2
 obtain⟨M2,e2⟩:∃ M2,zbx M1 6144 (zad ⟨zad ⟨zad ⟨B,ns0⟩,nsC c⟩,nsC c⟩)=M2:=⟨_,rfl⟩
 rw[e2] at hh2
 have cl2:yfx M2:=fun k k1 k4=>by rw[← e2,zg5 hh1.ml k1 k4];exact cl1 k k1 k4
 have hcr:zae ⟨zab M,zaa (zab M)⟩ [c]=(0,0,⟨zad ⟨B,ns0⟩,nsC c⟩):=by rw[hh.eq];exact zj3 _ c hc
 have hrs:zag ⟨zab M1,zaa (zab M1)⟩ ((0:Nat):Int) 0=(0,⟨zad ⟨zad ⟨B,ns0⟩,nsC c⟩,nsC c⟩):=by rw[hh1.eq];exact zw4 _ c hc
 have hf0:zku (zaa (zab M)) [c]=.tuple #[.int .i64 0,.int .i64 123]:=by rw[zrw hh];exact ydy c hc
 have hf2:zku (zaa (zab M2)) [c]=.tuple #[.int .i64 ((0:Nat):Int),.int .i64 0]:=by rw[zrw hh2];exact zuq c hc
 have hcall:=zxh h hh.ok hT hmb hp [c] (by simp) (ydz c hc) hf0 0 (by omega) _ _ hcr M1 M2 e1 hh1.ok hrs e2 hh2.ok hf2 0 0 (low0 (zo8 hh (hcl 1 (by omega) (by omega)))) (low0 (zo8 hh2 (cl2 1 (by omega) (by omega))))
 refine⟨zdb M2 1 1 0,zad ⟨zad ⟨B,ns0⟩,nsC c⟩,l1,zlf hh2 (by omega) (by omega) 1 0,zie hh2.ml (by omega) (by omega) 1 0 (by omega),zpf hh2.ml (by omega) (by omega) 1 0 (by omega),fun k k1 k4=>?_,hcall⟩
 rw[ze4 hh2.ml (by omega) (by omega) k4 (by omega)]
 exact cl2 k (by omega) k4
theorem ydt (h:MemAt w p gb mb G M)(c:UInt8)(hc:c=97∨c=102){B:List UInt8} (hh:Has M ⟨B,nsC c⟩)(hf1:hF M 1=1)(hp1:hP M 1=0)(hz:∀ h,2≤h→h≤4→hF M h=0):
  ∃ M',Has M' ⟨B,nsC c⟩∧(hF M' 1=1∧hP M' 1=0)∧(hF M' 2=1∧hP M' 2=0) ∧
   Calls Tryz.prog 18 #[.pointer (some ⟨p,0,none⟩),St [c]] w (zb0 w p gb mb G M' (.tuple #[.int .i64 2,.int .i64 0])):=by
 have hf:zku (zaa (zab M)) [c]=.tuple #[.int .i64 ((0:Nat):Int),.int .i64 0]:=by rw[zrw hh];exact zuq c hc
 have hcall:=zu6 h hh.ok [c] (by simp) 0 (by omega) hf 1 (low1 (yhq c hc (zzt c hc) hh hf1) (zo8 hh (hz 2 (by omega) (by omega))))
 refine⟨zdb M 2 1 0,zlf hh (by omega) (by omega) 1 0,⟨?_,?_⟩,⟨zie hh.ml (by omega) (by omega) 1 0 (by omega),zpf hh.ml (by omega) (by omega) 1 0 (by omega)⟩,hcall⟩
 ·rw[ze4 hh.ml (by omega) (by omega) (by omega) (by omega)];exact hf1
 ·rw[zk7 hh.ml (by omega) (by omega) (by omega) (by omega)];exact hp1
end Hd
namespace Hd
open Go.RowKit Ex Ino Mm Fs
structure HS (M:List UInt8) (c:UInt8) (all:List UInt8) (a q:Int):Prop where
 hc:c=97∨c=102
 le:all.length≤1472
 has:∃ g,Has M g∧g.ns=nsK c (all.length:Int) (nd (all.length:Int))∧zg9 g ⟨[c],(all.length:Int),zp0 (nd (all.length:Int))⟩=all
 f1:hF M 1=1
 f2:hF M 2=1
 p1:hP M 1=a
 p2:hP M 2=q
variable {M:List UInt8} {c:UInt8} {all:List UInt8} {a q:Int} {w:World} {p gb mb:Nat} {G:List UInt8}
theorem HS.ok (h:HS M c all a q):okR (zab M):=by
 obtain⟨g,hh,_⟩:=h.has
 exact hh.ok
theorem HS.ml (h:HS M c all a q):M.length=8192:=by
 obtain⟨g,hh,_⟩:=h.has
 exact hh.ml
theorem HS.hN1 (h:HS M c all a q):hN M 1=0:=yes h.f1 (by omega)
theorem HS.hN2 (h:HS M c all a q):hN M 2=0:=yes h.f2 (by omega)
theorem HS.ns (h:HS M c all a q):zaa (zab M)=nsK c (all.length:Int) (nd (all.length:Int)):=by
 obtain⟨g,hh,hn,_⟩:=h.has
 rw[zrw hh,hn]
theorem HS.o1 (h:HS M c all a q):isO M 1=true:=by
 unfold isO
 rw[h.ns,h.hN1,zg2 c h.hc]
 rfl
theorem HS.o2 (h:HS M c all a q):isO M 2=true:=by
 unfold isO
 rw[h.ns,h.hN2,zg2 c h.hc]
 rfl
theorem zyk (c:UInt8)(hc:c=97∨c=102)(s:Int)(k:Nat):szX (za0 (nsK c s k) 0)=s:=by rw[yhl c hc];rfl
theorem HS.hS1 (h:HS M c all a q):hS M 1=(all.length:Int):=by
 unfold hS
 rw[h.ns,h.hN1,zyk c h.hc]
theorem HS.hS2 (h:HS M c all a q):hS M 2=(all.length:Int):=by
 unfold hS
 rw[h.ns,h.hN2,zyk c h.hc]
theorem HS.hL1 (h:HS M c all a q)(h0:0≤a)(h1:a≤(all.length:Int)):hL M 1=a:=by
 unfold hL zms
 rw[h.p1,h.hS1,zn (by omega)]
theorem HS.hL2 (h:HS M c all a q)(h0:0≤q)(h1:q≤(all.length:Int)):hL M 2=q:=by
 unfold hL zms
 rw[h.p2,h.hS2,zn (by omega)]
theorem HS.write (h:HS M c all (all.length:Int) q)(x:List UInt8)(hx:all.length+x.length≤1472):
  (wrV M 1 x).1=0∧HS (wrM M 1 (hN M 1) (hL M 1) x.length (wrV M 1 x)) c (all++x) ((all++x).length:Int) q:=by
 have hL:=h.hL1 (by omega) (by omega)
 have hN:=h.hN1
 have hml:=h.ml
 have hgood:=zfr hml h.ok
 obtain⟨g,hh,hn,hd⟩:=h.has
 have hns:=h.ns
 have heq:=hh.eq
 rw[hn] at heq
 rw[heq] at hgood
 have hgl:g.ns.length=8:=by rw[hn];rfl
 have hv:wrV M 1 x=zbu ⟨zad g,nsK c (all.length:Int) (nd (all.length:Int))⟩ 0 (all.length:Int) x:=by
  unfold wrV
  rw[hL,hN,heq]
 obtain⟨w1,w2,w3⟩:=zny c h.hc (all.length:Int) (by omega) hgood x (by omega)
 have w4:=ya0 c h.hc (all.length:Int) (by omega) hgood x (by omega)
 have hda:=zhs (g:=g) hgl ⟨[c],(all.length:Int),zp0 (nd (all.length:Int))⟩
 rw[hn] at hda
 rw[hda,hd] at w4
 rw[← hv] at w1 w2 w3 w4
 generalize wrV M 1 x=rv at *
 have e1:((all++x).length:Int)=(all.length:Int)+(x.length:Int):=by rw[List.length_append];omega
 refine⟨w1,?_⟩
 unfold wrM
 rw[zp w1,hL,hN]
 have hl:=Has.lay hml w3
 have hlm:=hl.ml
 refine⟨h.hc,by rw[List.length_append];exact hx,⟨rv.2,zlf hl (by omega) (by omega) _ _,by rw[w2,e1],?_⟩,?_,?_,?_,?_⟩
 ·rw[e1,← w4,w2]
  rfl
 ·rw[zie hlm (by omega) (by omega) _ _ (by omega)];rfl
 ·rw[ze4 hlm (by omega) (by omega) (by omega) (by omega),zg5 hml (by omega) (by omega)];exact h.f2
 ·rw[zpf hlm (by omega) (by omega) _ _ (by omega),e1]
 ·rw[zk7 hlm (by omega) (by omega) (by omega) (by omega),hP_lay hml (by omega) (by omega)];exact h.p2
theorem HS.read (h:HS M c all a q)(h0:0≤q)(h1:q≤(all.length:Int))(K:Int)(hK:0≤K):
  rdE M 2 K=0∧rdX M 2 K=(all.drop q.toNat).take K.toNat∧HS (rdM M 2 (hN M 2) (hL M 2) (rdX M 2 K).length (rdE M 2 K)) c all a (q+(((all.drop q.toNat).take K.toNat).length:Int)):=by
 have hL:=h.hL2 h0 h1
 have hN:=h.hN2
 have hml:=h.ml
 have hle:=h.le
 obtain⟨g,hh,hn,hd⟩:=h.has
 have heq:=hh.eq
 have hgl:g.ns.length=8:=by rw[hn];rfl
 have hda:=zhs (g:=g) hgl ⟨[c],(all.length:Int),zp0 (nd (all.length:Int))⟩
 rw[hd] at hda
 rw[hn] at heq hda
 have hE:rdE M 2 K=0:=by
  unfold rdE zfx
  rw[hN,hL,heq]
  rw[zn (show ¬za1 (nsK c (all.length:Int) (nd (all.length:Int))) 0≠0 by rw[zg2 c h.hc];decide),zn (by omega)]
 have hX:rdX M 2 K=(all.drop q.toNat).take K.toNat:=by
  unfold rdE at hE
  unfold rdX zfc
  rw[zp hE,hN,hL,heq]
  show((zam (zad g) (za0 (nsK c (all.length:Int) (nd (all.length:Int))) 0).ext).drop (zt8 (za0 (nsK c (all.length:Int) (nd (all.length:Int))) 0) q)).take (rdN (za0 (nsK c (all.length:Int) (nd (all.length:Int))) 0) q K)=_
  rw[yhl c h.hc]
  unfold zg9 at hda
  unfold zt8 rdN
  simp only at hda ⊢
  generalize zam (zad g) (zp0 (nd (all.length:Int)))=W at *
  have hm:(min q (all.length:Int)).toNat=q.toNat:=by omega
  rw[hm]
  have e:all=W.take all.length:=by
   have:=hda.symm
   simpa using this
  have hW:all.length≤W.length:=by
   have:=congrArg List.length e
   rw[List.length_take] at this
   omega
  have hn2:(min K ((all.length:Int)-min q (all.length:Int))).toNat=min K.toNat (all.length-q.toNat):=by omega
  rw[hn2]
  conv=>rhs;rw[e]
  rw[List.drop_take,List.take_take]
 refine⟨hE,hX,?_⟩
 rw[hE,hX]
 unfold rdM
 rw[zp rfl,hL,hN]
 have hbd:(((all.drop q.toNat).take K.toNat).length:Int)≤1472:=by
  rw[List.length_take,List.length_drop];omega
 refine⟨h.hc,hle,⟨g,zlf hh (by omega) (by omega) _ _,hn,hd⟩,?_,?_,?_,?_⟩
 ·rw[ze4 hml (by omega) (by omega) (by omega) (by omega)];exact h.f1
 ·rw[zie hml (by omega) (by omega) _ _ (by omega)];rfl
 ·rw[zk7 hml (by omega) (by omega) (by omega) (by omega)];exact h.p1
 ·rw[zpf hml (by omega) (by omega) _ _ (by omega)]
end Hd
namespace Hd
open Go.RowKit Ex Ino Mm Fs
variable {M:List UInt8} {w:World} {p gb mb:Nat} {G:List UInt8}
theorem yds (h:MemAt w p gb mb G M)(c:UInt8)(hc:c=97∨c=102){B:List UInt8} (hh:Has M ⟨B,nsC c⟩)(hf1:hF M 1=1)(hp1:hP M 1=0)(hz:∀ h,2≤h→h≤4→hF M h=0):
  ∃ M',HS M' c [] 0 0∧Calls Tryz.prog 18 #[.pointer (some ⟨p,0,none⟩),St [c]] w (zb0 w p gb mb G M' (.tuple #[.int .i64 2,.int .i64 0])):=by
 obtain⟨M',h1,⟨h2,h3⟩,⟨h4,h5⟩,hcall⟩:=ydt h c hc hh hf1 hp1 hz
 refine⟨M',⟨hc,by simp,⟨⟨B,nsC c⟩,h1,?_,?_⟩,h2,h4,h3,h5⟩,hcall⟩
 ·rfl
 ·unfold zg9
  rfl
theorem lit_xy:(#[.int .u8 120,.int .u8 121]:Array Value)=(([120,121]:List UInt8).map B8).toArray:=by simp[B8]
theorem zxf (w:World)(hT:Tab w):Calls Tryz.prog 5 #[] w fun e w'=>e=.returned (.bool true)∧Below w.heap.size w w':=by
 have hT0:=hT.pos
 have HT:=zq hT
 clear hT
 go_enter Tryz.func5,Tryz.ntmps5
 go_wp2_with fail
 refine(zmb none [] 0 w BR.nil).mono ?_
 rintro e w2 ⟨p,gb,mb,rfl,p1,p2,p3,hm,k2⟩
 have zl:=zdq []
 have hcl:=yby
 generalize zdo []=Z at *
 have hT2:=HT.out.keep (k2.block 0 hT0 (fun f=>f))
 have K2:=zq k2
 have KT:Hid (∀ W,Keeps (fun k=>k=p∨k=mb) w2 W→Below w.heap.size w W∧Tab W):=fun W k=>by
  have:=Keeps.thru (F'':=fun _=>False) K2.out k (fun _ _ h=>h) fun i hi h=>by omega
  exact⟨this.toBelow _ (Nat.le_refl _) fun _ h=>h.elim,hT2.keep (k.block 0 hT2.pos (fun e=>by omega))⟩
 have HFM:=zq (zn3 (zq3 hm fmtB (by rw[zja];omega)))
 have HCL:=zq hcl
 clear k2 hT2 hcl
 go_wp2_with fail
 refine HFM.out.mono ?_
 rintro e w3 ⟨rfl,h3,k3⟩
 have k3':Keeps (fun k=>k=p∨k=mb) w2 w3:=k3
 have hrl:(zab Z).length=2048:=by unfold zab;rw[List.length_drop];omega
 obtain⟨M4,B4,-,q2,q3,q4,q5,hc4⟩:=zxv h3 (KT.out _ k3').2 (by omega) (by omega) 97 (.inl rfl) hrl (Has.fmt zl) HCL.out
 have H4:=zq hc4
 have Q:=zq (And.intro q2 (And.intro q3 (And.intro q4 q5)))
 have K3:=zq k3'
 clear h3 k3 k3' HFM hc4 q2 q3 q4 q5 hm HCL
 go_wp2_with fail
 refine H4.out.mono ?_
 rintro e w4 ⟨rfl,h4,k4⟩
 obtain⟨q2,q3,q4,q5⟩:=Q.out
 obtain⟨M5,s5,hc5⟩:=yds h4 97 (.inl rfl) q2 q3 q4 q5
 have H5:=zq hc5
 have S5:=zq s5
 have K4:=zq (K3.out.trans k4)
 clear h4 k4 K3 H4 hc5 s5 q2 q3 q4 q5 Q
 go_wp2_with fail
 refine H5.out.mono ?_
 rintro e w5 ⟨rfl,h5,k5⟩
 have kc:(convert 31 31 (.slice (some ⟨w5.heap.size,0,none⟩) 2 2)).run Tryz.prog (w5.alloc (.cells #[.int .u8 120,.int .u8 121] 5))=.ok (.slice (some ⟨w5.heap.size,0,none⟩) 2 2) (w5.alloc (.cells #[.int .u8 120,.int .u8 121] 5 (2,3))):=Lib.run_convert_bytes_const (P:=Tryz.prog) w5 31 5 #[.int .u8 120,.int .u8 121] 2 2 Tryz.underlying31 Tryz.underlying5
 have r5:BR (w5.alloc (.cells #[.int .u8 120,.int .u8 121] 5 (2,3))) (w5.alloc (.cells #[.int .u8 120,.int .u8 121] 5 (2,3))).heap.size (some ⟨w5.heap.size,0,none⟩) [120,121]:=(BR.new w5 _ _ _ _ lit_xy).more (by simp)
 have ka:Keeps (fun k=>k=p∨k=mb) w2 (w5.alloc (.cells #[.int .u8 120,.int .u8 121] 5 (2,3))):=(K4.out.trans k5).trans (Keeps.alloc _ _ _)
 have h5a:=h5.keep (Keeps.alloc (fun _=>False) w5 (.cells #[.int .u8 120,.int .u8 121] 5 (2,3))) (fun f=>f) (fun f=>f) (fun f=>f)
 have l5:=h5.lt
 have hw:=znv h5a S5.out.ok (KT.out _ ka).2 (by omega) (by omega) 1 (by omega) (by omega) S5.out.o1 2 r5 (by simp) (fun _ ad e=>by cases e;show w5.heap.size≠mb∧w5.heap.size≠p;omega)
 obtain⟨v6,s6⟩:=S5.out.write [120,121] (by simp)
 rw[v6] at hw
 simp only[List.length_cons,List.length_nil,Nat.zero_add,Nat.reduceAdd] at hw s6
 generalize wrM M5 1 (hN M5 1) (hL M5 1) 2 (wrV M5 1 [120,121])=M6 at *
 have HW:=zq hw
 have S6:=zq s6
 have K5:=zq ka
 clear hw s6 v6 ka h5 k5 h5a r5 l5 H5 K4 S5
 go_wp2_with fail
 refine HW.out.mono ?_
 rintro e w6 ⟨rfl,h6,k6⟩
 have hr:=zq5 h6 S6.out.ok 2 (by omega) (by omega) S6.out.o2 9 (by omega)
 obtain⟨v7,x7,s7⟩:=S6.out.read (by omega) (by simp) 9 (by omega)
 have x7':rdX M6 2 9=[120,121]:=x7
 rw[v7,x7'] at hr s7
 have s7':HS (rdM M6 2 (hN M6 2) (hL M6 2) ([120,121]:List UInt8).length 0) 97 [120,121] 2 2:=s7
 simp only[List.length_cons,List.length_nil,Nat.zero_add,Nat.reduceAdd] at s7' hr
 generalize rdM M6 2 (hN M6 2) (hL M6 2) 2 0=M7 at *
 have PB:Hid (p<w6.heap.size∧mb<w6.heap.size):=⟨h6.lt.1,h6.lt.2.2⟩
 have HR:=zq hr
 have S7:=zq s7'
 have K6:=zq (K5.out.trans k6)
 clear hr s7 s7' v7 x7 x7' h6 k6 HW K5
 go_wp2_with fail
 refine HR.out.mono ?_
 rintro e w7 ⟨⟨A,c,rfl,br7,hn7⟩,h7,k7⟩
 have hp:=znw h7 S7.out.ok 2 (by omega) (by omega) S7.out.o2
 rw[S7.out.hL2 (by simp) (by simp)] at hp
 have HP:=zq hp
 have BR7:=zq br7
 have K7:=zq (K6.out.trans k7)
 clear hp h7 k7 br7 HR K6 S7 S6
 go_wp2_with fail
 refine HP.out.mono ?_
 rintro e w8 ⟨rfl,h8,k8⟩
 have br8:=zgp BR7.out k8 fun _ ad e f=>by
  have:=hn7 ad e
  have:=PB.out
  omega
 have cs:(convert 31 9 (.slice A 2 c)).run Tryz.prog w8=.ok (.string ⟨#[120,121]⟩) w8:=zex (P:=Tryz.prog) w8 _ 31 9 5 A [120,121] c br8 Tryz.underlying31 Tryz.underlying5 Tryz.underlying9
 have HG:=zq (KT.out _ (K7.out.trans k8)).1
 clear h8 k8 br8 HP K7 BR7
 go_wp2_with fail
 go_ret
 exact⟨rfl,HG.out⟩
end Hd
end Go.Proofs.YtdopfpcjpjlkmaaGreatDoor
