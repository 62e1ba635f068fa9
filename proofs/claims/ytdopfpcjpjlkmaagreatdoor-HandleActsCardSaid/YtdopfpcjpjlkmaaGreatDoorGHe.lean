/- merged -/
import Derived.Test.YtdopfpcjpjlkmaaGreatDoorGHd
set_option maxHeartbeats 2000000
set_option linter.unusedSimpArgs false
set_option linter.unusedVariables false
namespace Go.Proofs.YtdopfpcjpjlkmaaGreatDoor
namespace Fr
open Go.RowKit Ex Ino Mm Fs
def wrK (R:List UInt8) (bl:List Nat) (a:Nat) (b:List UInt8):Nat→List UInt8
 | 0=>R
 | k+1=>splice (wrK R bl a b k) (bl.getD ((a+k) / 64) 0*64+(a+k) % 64) [b.getD k 0]
theorem zlj {R:List UInt8} {bl:List Nat} {a:Nat} {b:List UInt8} (hR:R.length=2048)(hg:∀ x∈bl,x<32):∀ k,a+k≤64*bl.length→(wrK R bl a b k).length=2048
 | 0,_=>hR
 | k+1,h=>by
  have ih:=zlj (a:=a) (b:=b) hR hg k (by omega)
  have h1:=(zif hg (k:=(a+k) / 64) (by omega)).1
  show(splice _ _ _).length=_
  rw[zct _ _ _ (by rw[List.length_singleton];omega),ih]
theorem yfz {R:List UInt8} {bl:List Nat} {a:Nat} {b:List UInt8} (hR:R.length=2048)(hg:∀ x∈bl,x<32)(hn:bl.Nodup):∀ k,a+k≤64*bl.length →
  (∀ c,c<32→c ∉ bl→zaw (wrK R bl a b k) c=zaw R c)∧(∀ j,j<bl.length→∀ i,i<64→(zaw (wrK R bl a b k) (bl.getD j 0)).getD i 0=if a≤j*64+i∧j*64+i<a+k then b.getD (j*64+i-a) 0 else (zaw R (bl.getD j 0)).getD i 0)
 | 0,_=>⟨fun _ _ _=>rfl,fun j _ i _=>by rw[zn (by omega)];rfl⟩
 | k+1,h=>by
  obtain⟨h1,h2⟩:=yfz (a:=a) (b:=b) hR hg hn k (by omega)
  have hl:=zlj (a:=a) (b:=b) hR hg k (by omega)
  obtain⟨hm,hmm⟩:=zif hg (k:=(a+k) / 64) (by omega)
  have hp:=fun c (hc:c<32)=>zzl (zs:=[b.getD k 0]) hl hm hc (o:=(a+k) % 64) (by rw[List.length_singleton];omega)
  refine⟨fun c hc hcb=>?_,fun j hj i hi=>?_⟩
  ·show zaw (splice _ _ _) c=_
   rw[hp c hc,zn (fun e=>hcb (by rw[e];exact hmm)),h1 c hc hcb]
  ·obtain⟨hj1,hj2⟩:=zif hg hj
   show(zaw (splice _ _ _) _).getD i 0=_
   rw[hp _ hj1]
   by_cases e:j=(a+k) / 64
   ·rw[← e,zp rfl,Mm.getD_splice _ _ _ _ (by rw[List.length_singleton,zbl hl hj1];omega),List.length_singleton,h2 j hj i hi]
    by_cases h3:i<(a+k) % 64
    ·rw[zp h3]
     by_cases h4:a≤j*64+i
     ·rw[zp (by omega),zp (by omega)]
     ·rw[zn (by omega),zn (by omega)]
    ·rw[zn h3]
     by_cases h4:i=(a+k) % 64
     ·rw[zp (by omega),zp (by omega),show i-(a+k) % 64=0 by omega,show j*64+i-a=k by omega]
      rfl
     ·rw[zn (by omega),zn (by omega),zn (by omega)]
   ·rw[zn ?_,h2 j hj i hi]
    ·by_cases h4:a≤j*64+i∧j*64+i<a+k
     ·rw[zp h4,zp (by omega)]
     ·rw[zn h4,zn (by omega)]
    ·intro e2
     rw[List.getD_eq_getElem?_getD,List.getD_eq_getElem?_getD,List.getElem?_eq_getElem hj,List.getElem?_eq_getElem (show(a+k) / 64<bl.length by omega)] at e2
     exact e ((List.getElem_inj hn).1 e2)
theorem ztv {g:RG} (hb:g.bs.length=2048)(hn:g.ns.length=8){n:Nat} {X:List EX} (hX:(at' g.ns n).ext=X)(hok:ok X=true)(a:Nat)(b:List UInt8)(h:a+b.length≤64*(zaq X).length):
  wrK (zad g) (zaq X) a b b.length=zad (zpz g (n:Int) (a:Int) b):=by
 have hg:=zcr X hok
 have hg32:∀ x∈zaq X,x<32:=fun x hx=>(hg.2 x hx).2
 have hbl:=zcb hb hn
 obtain⟨h1,h2⟩:=yfz (a:=a) (b:=b) hbl hg32 hg.1 b.length h
 have hl:=zlj (a:=a) (b:=b) hbl hg32 b.length h
 have hW:(zam g.bs X).length=64*(zaq X).length:=by rw[zdh hb,zar hok]
 have hsl:(splice (zam g.bs X) a b).length=64*(zaq X).length:=by rw[zct _ _ _ (by omega),hW]
 have hpv:zpz g (n:Int) (a:Int) b=⟨zbo g.bs X (splice (zam g.bs X) a b),g.ns⟩:=by
  unfold zpz
  rw[Int.toNat_natCast,Int.toNat_natCast,hX]
 rw[hpv]
 have hS:(zbo g.bs X (splice (zam g.bs X) a b)).length=2048:=by
  unfold zbo
  exact zc6 _ hb (fun x hx=>((za3 _).2 x hx).2) _ (Nat.le_refl _) (by rw[hsl,zar hok];omega)
 have hD:∀ c,9≤c→zaw (zad ⟨zbo g.bs X (splice (zam g.bs X) a b),g.ns⟩) c=zaw (zbo g.bs X (splice (zam g.bs X) a b)) c:=fun c h=>zdf (g:=⟨zbo g.bs X (splice (zam g.bs X) a b),g.ns⟩) hn h
 have hNd:∀ j,j<8→zaw (zad ⟨zbo g.bs X (splice (zam g.bs X) a b),g.ns⟩) (1+j)=zcf (at' g.ns j):=fun j h=>zde (g:=⟨zbo g.bs X (splice (zam g.bs X) a b),g.ns⟩) hn h
 refine zi1 hl (zcb hS hn) fun c hc=>?_
 by_cases hcX:c∈zaq X
 ·have c9:=(hg.2 c hcX).1
  rw[hD _ c9]
  obtain⟨j,hj,rfl⟩:=List.getElem_of_mem hcX
  have hgd:(zaq X).getD j 0=(zaq X)[j]:=by rw[List.getD_eq_getElem?_getD,List.getElem?_eq_getElem hj];rfl
  have hsp:=zgw (all:=splice (zam g.bs X) a b) hb hg32 hg.1 (zaq X).length (Nat.le_refl _) (by rw[hsl];omega) j hj
  rw[hgd] at hsp
  show _=zaw (zdv g.bs (za4 X) _ (za4 X).length) _
  rw[zar hok,hsp]
  refine za7 (by rw[zbl hl hc,zi2 (by rw[hsl];omega)]) fun i hi=>?_
  rw[zbl hl hc] at hi
  have:=h2 j hj i hi
  rw[hgd] at this
  rw[this,zce (splice (zam g.bs X) a b) j i hi,Mm.getD_splice _ _ _ _ (by omega),zdf hn c9,ztw hb hok hj hi,hgd]
  by_cases h3:j*64+i<a
  ·rw[zp h3,zn (by omega)]
  ·rw[zn h3]
   by_cases h4:j*64+i<a+b.length
   ·rw[zp h4,zp (by omega)]
   ·rw[zn h4,zn (by omega)]
 ·rw[h1 c hc hcX]
  by_cases c0:c=0
  ·subst c0
   rw[zgo,zgo]
  by_cases c9:c<9
  ·obtain⟨j,rfl⟩:∃ j,c=1+j:=⟨c-1,by omega⟩
   rw[zde hn (by omega),hNd j (by omega)]
  ·rw[zdf hn (by omega),hD _ (by omega)]
   show _=zaw (zdv g.bs (za4 X) _ (za4 X).length) _
   rw[zar hok,zet hb hg32 hc hcX _ (Nat.le_refl _) (by rw[hsl];omega)]
end Fr
namespace Fr
open Go.RowKit Ex Ino Mm Fs
variable {w:World} {mi q b c d e:Nat} {M G:List UInt8}
def WrL (w:World) (mi q b c d e:Nat) (M G R:List UInt8) (bl:List Nat) (a:Nat) (bb:List UInt8) (w5:World) (g:Nat) (iv:Value) (wr:World):Prop:=
 ∃ k,g=bb.length-k∧k≤bb.length∧iv=.int .i64 (k:Int)∧RefH wr mi q b c d e (zbx M 6144 (wrK R bl a bb k)) G∧Keeps (fun k=>k=b) w5 wr
theorem ygj {w:World} {ad:Addr} {bb:List UInt8} (h:BR w w.heap.size (some ad) bb){k:Nat} (hk:k<bb.length):BR w w.heap.size (some (ad.add k)) [bb.getD k 0]:=by
 intro _
 obtain⟨ad',e,hb,hc⟩:=h (by intro e;rw[e] at hk;simp at hk)
 cases e
 refine⟨_,rfl,by rw[zan];exact hb,fun j u hu=>?_⟩
 cases j with
 | zero =>
  simp only[List.getElem?_cons_zero,Option.some.injEq] at hu
  have e0:(ad.add k).add 0=ad.add k:=by unfold Addr.add;split<;>simp_all
  rw[e0,← hu]
  exact hc k _ (by rw[List.getD_eq_getElem?_getD,List.getElem?_eq_getElem hk];rfl)
 | succ j=>simp at hu
set_option maxRecDepth 100000 in
theorem zwf (h:RefH w mi q b c d e M G)(ho:okR (zab M))(n a:Int)(hn:-9223372036854775808≤n∧n≤9223372036854775807)(ha:-9223372036854775808≤a∧a≤9223372036854775807){A:Option Addr} {bb:List UInt8} {cb:Nat} (hb:BR w w.heap.size A bb)(hcb:bb.length≤cb)(hbl:bb.length≤140737488355328)(hA:bb≠[]→∀ ad,A=some ad→ad.block≠b):
  Calls Tryz.prog 78 #[.pointer (some ⟨q,0,none⟩),.int .i64 n,.int .i64 a,.slice A bb.length cb] w (zm4 w mi q b c d e M G (zbu ⟨zab M,zaa (zab M)⟩ n a bb)):=by
 have HN:=zq (ze9 h n hn)
 have HO:=zq ho
 have H:=zq h
 have hM:M.length=8192:=h.bl
 have hgd:=zfr hM ho
 have HBB:=zq hb
 have HAA:=zq hA
 clear h ho hb hA
 go_enter Tryz.func78,Tryz.ntmps78
 go_wp2_with fail
 refine HN.out.mono ?_
 rintro en w1 ⟨k1,⟨-,R,cx,rfl,hx⟩|⟨hno,-⟩⟩
 rotate_left
 ·exact absurd HO.out hno
 have hbad:∀ E:Int,(zb6 ⟨zab M,zaa (zab M)⟩ n a bb.length).1=E→E≠0→∀ W,RefH W mi q b c d e M G→Keeps (fun k=>k=b) w W→zm4 w mi q b c d e M G (zbu ⟨zab M,zaa (zab M)⟩ n a bb) (.returned (.int .i64 E)) W:=fun E hE h0 W hW kW=>by
  have:zbu ⟨zab M,zaa (zab M)⟩ n a bb=(E,⟨zab M,zaa (zab M)⟩):=by unfold zbu;rw[hE,zn h0]
  rw[this]
  exact⟨rfl,by rw[zn h0];exact hW,kW⟩
 have hba:∀ W (k:Keeps (fun _=>False) w W),RefH W mi q b c d e M G∧Keeps (fun k=>k=b) w W:=fun W k=>⟨H.out.keep k fun _ _ _ f=>f,k.mono fun _ _ f=>f.elim⟩
 by_cases hE:za1 (zaa (zab M)) n=0
 case neg =>
  have hk:=hba _ (k1.trans (Keeps.alloc _ _ (.cells #[St (za0 (zaa (zab M)) n).name,.int .i64 (za0 (zaa (zab M)) n).size,.slice R (za0 (zaa (zab M)) n).ext.length cx] 113)))
  have HG:=zq (hbad (za1 (zaa (zab M)) n) (by unfold zb6;rw[zp hE]) hE _ hk.1 hk.2)
  have t1:(za1 (zaa (zab M)) n != 0)=true:=by simp[hE]
  clear hbad k1 hx hgd HN HO H hba hk HBB HAA
  generalize zbu ⟨zab M,zaa (zab M)⟩ n a bb=rv at *
  generalize za0 (zaa (zab M)) n=x at *
  generalize za1 (zaa (zab M)) n=E at *
  generalize (if E=0 then (zao (zaa (zab M)):Int) else 0)=u at *
  clear hE
  go_wp2_with fail
  go_ret
  exact HG.out
 have t1:(za1 (zaa (zab M)) n != 0)=false:=by simp[hE]
 obtain⟨⟨hn0,hn8⟩,hisF⟩:=nodeE_zero.1 hE
 have hX:za0 (zaa (zab M)) n=at' (zaa (zab M)) n.toNat:=by unfold za0;rw[zp hE]
 obtain⟨i,rfl⟩:=Int.eq_ofNat_of_zero_le hn0
 have hi8:i<8:=by omega
 have hX:za0 (zaa (zab M)) (i:Int)=at' (zaa (zab M)) i:=hX
 rw[hX] at hx
 rw[hX,hE,zp rfl]
 change isF (at' (zaa (zab M)) i)=true at hisF
 obtain⟨hok,hbits⟩:=hgd.bits hi8 hisF
 change ok (at' (zaa (zab M)) i).ext=true at hok
 have hfew:=(zgl (b:=zaw (zab M) (1+i)) (w:=w1) (R:=R) (by rw[← zbw _ hi8];exact hx)).few
 rw[← zbw _ hi8] at hfew
 have hsz:=hgd.size hi8
 change (0≤(at' (zaa (zab M)) i).size∧(at' (zaa (zab M)) i).size≤1472)∧_∧(at' (zaa (zab M)) i).size≤64*(za4 (at' (zaa (zab M)) i).ext).length at hsz
 obtain⟨⟨hs0,hs1⟩,-,hs2⟩:=hsz
 rw[zar hok] at hs2
 have hRE:zb6 ⟨zab M,zaa (zab M)⟩ (i:Int) a bb.length=if a<0∨(at' (zaa (zab M)) i).size<a then (1,⟨zab M,zaa (zab M)⟩) else if (at' (zaa (zab M)) i).size<a+bb.length then zag ⟨zab M,zaa (zab M)⟩ (i:Int) (a+bb.length) else (0,⟨zab M,zaa (zab M)⟩):=by
  unfold zb6
  rw[zn (by show ¬za1 (zaa (zab M)) (i:Int)≠0;rw[hE];decide)]
  simp only[hX]
 obtain⟨wb,hwb⟩:∃ wb,wb=w1.alloc (.cells #[St (at' (zaa (zab M)) i).name,.int .i64 (at' (zaa (zab M)) i).size,.slice R (at' (zaa (zab M)) i).ext.length cx] 113):=⟨_,rfl⟩
 have k1b:Keeps (fun _=>False) w1 wb:=by rw[hwb];exact Keeps.alloc _ _ _
 have KB:=zq (k1.trans k1b)
 by_cases hr:a<0∨(at' (zaa (zab M)) i).size<a
 ·have hk:=hba wb KB.out
  have HG:=zq (hbad 1 (by rw[hRE,zp hr]) (by decide) wb hk.1 hk.2)
  rw[hwb] at HG
  by_cases hneg:a<0
  ·have d1:decide (a<0)=true:=by simp only[decide_eq_true_eq];exact hneg
   clear hbad k1 hx hgd HN HO H hRE hisF hE hX hok hbits hfew KB k1b hwb hba hk HBB HAA hs0 hs1 hs2 hr
   generalize zbu ⟨zab M,zaa (zab M)⟩ (i:Int) a bb=rv at *
   go_wp2_with fail
   go_ret
   exact HG.out
  ·have d1:decide (a<0)=false:=by simp only[decide_eq_false_iff_not];exact hneg
   have d2:decide ((at' (zaa (zab M)) i).size<a)=true:=by simp only[decide_eq_true_eq];omega
   clear hbad k1 hx hgd HN HO H hRE hisF hE hX hok hbits hfew KB k1b hwb hba hk HBB HAA hs0 hs1 hs2 hr
   generalize zbu ⟨zab M,zaa (zab M)⟩ (i:Int) a bb=rv at *
   go_wp2_with fail
   go_ret
   exact HG.out
 have d1:decide (a<0)=false:=by simp only[decide_eq_false_iff_not];omega
 have d2:decide ((at' (zaa (zab M)) i).size<a)=false:=by simp only[decide_eq_false_iff_not];omega
 rw[zn hr] at hRE
 obtain⟨s,rfl⟩:=Int.eq_ofNat_of_zero_le (show 0≤a by omega)
 have hsle:s≤1472:=by omega
 have q1:IntKind.i64.wrap ((s:Int)+(bb.length:Int))=(s:Int)+(bb.length:Int):=by rw[IntKind.wrap_i64];omega
 have HBX:Hid (BoxN wb w1.heap.size ⟨at' (zaa (zab M)) i,R,cx⟩):=by show BoxN _ _ _;rw[hwb];exact World.alloc_heap_new _ _
 have HXB:Hid (XR wb wb.heap.size R (at' (zaa (zab M)) i).ext):=zez hx k1b fun _ _ _ f=>f
 have hbw:b<w1.heap.size∧w.heap.size≤w1.heap.size:=by have:=H.out.lt;have:=k1.size;omega
 by_cases hgr:(at' (zaa (zab M)) i).size<(s:Int)+(bb.length:Int)
 case neg =>
  have d3:decide ((at' (zaa (zab M)) i).size<(s:Int)+(bb.length:Int))=false:=by simp only[decide_eq_false_iff_not];exact hgr
  rw[zn hgr] at hRE
  obtain⟨g1,hg1⟩:∃ g1:RG,g1=⟨zab M,zaa (zab M)⟩:=⟨_,rfl⟩
  have hgd1:RGood g1:=by rw[hg1];exact hgd
  have HVAL:Hid (zbu ⟨zab M,zaa (zab M)⟩ (i:Int) (s:Int) bb=(0,zpz g1 (i:Int) (s:Int) bb)):=by
   show _=_
   unfold zbu
   rw[hRE,zp rfl,hg1]
  have hX1:(at' g1.ns i).ext=(at' (zaa (zab M)) i).ext:=by rw[hg1]
  have hbd:s+bb.length≤64*(zaq (at' (zaa (zab M)) i).ext).length:=by omega
  have hrf:RefH wb mi q b c d e (zbx M 6144 (zad g1)) G:=by
   rw[hg1,zx5 (zcz hM) HO.out,zj7 hM]
   exact H.out.keep KB.out fun _ _ _ f=>f
  have H0:=zq hrf
  have K0:Hid (Keeps (fun k=>k=b) w wb):=KB.out.mono fun _ _ f=>f.elim
  have HC2:=zq (HBX.out.c.2.2)
  have hc2:=HBX.out.c.2.2
  have hc1:=HBX.out.c.2.1
  clear hbad k1 hx hgd HN H hRE hisF hE hX hbits KB k1b hba hs0 hs1 hs2 hr hg1 hrf hgr
  generalize hXX:(at' (zaa (zab M)) i).ext=X at *
  have HOKX:=zq hok
  have HFW:=zq hfew
  have HBL:=zq (zcc R X cx wb HXB.out hfew)
  clear HXB HBX
  go_wp2_with fail
  rw[← hwb]
  clear hwb
  refine HBL.out.mono ?_
  rintro en w5 ⟨Rl,cl,rfl,own5,b5⟩
  rw[zar HOKX.out] at own5 ⊢
  have K5:=zq (K0.out.trans (zac b5))
  have H5:=zq (H0.out.keep (zac (F:=fun _=>False) b5) fun _ _ _ f=>f)
  have OW:=zq own5
  have hnb:∀ ad,Rl=some ad→ad.block≠b:=fun ad e=>by
   have h1:=World.ownsRow.lt own5 ad.block (by rw[e];rfl)
   have h2:=H0.out.lt
   omega
  have HB5:=zq fun (wr:World) (k:Keeps (fun k=>k=b) w5 wr)=>(K5.out.trans k).br HBB.out (fun ad e hne=>HAA.out hne ad e)
  have HC0:Hid (WrL w mi q b c d e M G (zad g1) (zaq X) s bb w5 bb.length (.int .i64 0) w5):=⟨0,by omega,by omega,rfl,H5.out,Keeps.refl _ _⟩
  have HWB:=zq (ztv hgd1.bl hgd1.nl hX1 HOKX.out s bb hbd)
  have hgg:=zcr X HOKX.out
  have hg32:∀ x∈zaq X,x<32:=fun x hx=>(hgg.2 x hx).2
  have hbl1:=zcb hgd1.bl hgd1.nl
  clear own5 b5 HBL hX1
  go_wp2_with fail
  go_loopg [15,16,67] bb.length (fun g _ _ k wr=>WrL w mi q b c d e M G (zad g1) (zaq X) s bb w5 g k wr)
  case atStart=>exact HC0.out
  case round =>
   obtain⟨k,rfl,hk,rfl,hrf,kw⟩:=hrel
   clear HC0
   by_cases hkl:k<bb.length
   ·have hbr:=HB5.out wr kw
    obtain⟨ad,rfl,-,-⟩:=hbr (by intro e;rw[e] at hkl;simp at hkl)
    obtain⟨J,hJ⟩:∃ J,J=(s+k) / 64:=⟨_,rfl⟩
    obtain⟨r,hr⟩:∃ r,r=(s+k) % 64:=⟨_,rfl⟩
    have hJl:J<(zaq X).length:=by omega
    obtain⟨gl,rfl,hgl,hcl⟩:=OW.out.ir J (zaq X)[J] (List.getElem?_eq_getElem hJl)
    have hgb:gl≠b:=hnb _ rfl
    have hgt:(zaq X).getD J 0=(zaq X)[J]:=by rw[List.getD_eq_getElem?_getD,List.getElem?_eq_getElem hJl];rfl
    have hL32:=hg32 _ (List.getElem_mem hJl)
    have hstep:splice (wrK (zad g1) (zaq X) s bb k) ((zaq X)[J]*64+r) [bb.getD k 0]=wrK (zad g1) (zaq X) s bb (k+1):=by
     rw[← hgt,hJ,hr]
     rfl
    have hwl:=zlj (a:=s) (b:=bb) hbl1 hg32 k (by omega)
    obtain⟨wd,hwd⟩:∃ wd,wd=wr.drew:=⟨_,rfl⟩
    have kd:Keeps (fun _=>False) wr wd:=by rw[hwd];exact zac ((Below.refl _ _).drew)
    have hrd:=hrf.keep kd fun _ _ _ f=>f
    have kwd:=kw.trans (kd.mono (G:=fun k=>k=b) fun _ _ f=>f.elim)
    have hly:=ziw hrd (6144+(((zaq X)[J]*64+r:Nat):Int)) (by omega) (by omega) (some (ad.add k)) [bb.getD k 0] (cb-k) (ygj (HB5.out wd kwd) hkl) (fun ad' e1 _=>by cases e1;rw[zan];exact HAA.out (by intro e;rw[e] at hkl;simp at hkl) _ rfl) (by simp)
    rw[zq1 hM hwl (by rw[List.length_singleton];omega),hstep,List.length_singleton] at hly
    have HLY:=zq hly
    have KW:=zq kwd
    have hS:wd.cell? ⟨gl,J,none⟩=some (.int .i64 ((zaq X)[J]:Int)):=(kwd.cell gl J hgl hgb).trans hcl
    have hgd:gl<wd.heap.size:=by have:=kwd.size;omega
    have d4:decide ((k:Int)<(bb.length:Int))=true:=by simp only[decide_eq_true_eq];omega
    have v0:IntKind.i64.wrap ((s:Int)+(k:Int))=(s:Int)+(k:Int):=by rw[IntKind.wrap_i64];omega
    have q3:IntKind.i64.wrap ((k:Int)+1)=(k:Int)+1:=by rw[IntKind.wrap_i64];omega
    have v1:IntKind.i64.wrap (((zaq X)[J]:Int)*64)=((zaq X)[J]:Int)*64:=by rw[IntKind.wrap_i64];omega
    have v2:IntKind.i64.wrap (6144+((zaq X)[J]:Int)*64)=6144+((zaq X)[J]:Int)*64:=by rw[IntKind.wrap_i64];omega
    have v3:IntKind.i64.wrap (6144+((zaq X)[J]:Int)*64+(r:Int))=6144+(((zaq X)[J]*64+r:Nat):Int):=by rw[IntKind.wrap_i64];omega
    have e1:((s:Int)+(k:Int)) / 64=(J:Int):=by omega
    have e2:((s:Int)+(k:Int)) % 64=(r:Int):=by omega
    have e5:((s:Int)+(k:Int)).tdiv 64=(J:Int):=by rw[Int.tdiv_eq_ediv_of_nonneg (by omega)];exact e1
    have e6:((s:Int)+(k:Int)).tmod 64=(r:Int):=by rw[Int.tmod_eq_emod_of_nonneg (by omega)];exact e2
    have p4:cb≠k:=by omega
    have p5:(0:Int)≤(k:Int)+1:=by omega
    have e3:IntKind.i64.wrap (J:Int)=(J:Int):=by rw[IntKind.wrap_i64];omega
    have e4:IntKind.i64.wrap (r:Int)=(r:Int):=by rw[IntKind.wrap_i64];omega
    have p0:(0:Int)≤J:=by omega
    have p1:(J:Int)<((zaq X).length:Int):=by omega
    have p2:(0:Int)≤k:=by omega
    have p3:(k:Int)+1≤(cb:Int):=by omega
    clear hrf kw hJ hr hgt hstep hwl kd hrd kwd hly hbr hcl
    generalize (zaq X)[J]=L at *
    go_wp2_with fail
    refine wp_region_held (S:=fun W=>W.cell? ⟨gl,J,none⟩=some (.int .i64 (L:Int))) (by kernel_rfl) ?_
    change wpAnyH _ _ _ _ _ _ _ _ wr.drew
    rw[← hwd]
    refine sqH 0 (.pointer (some ⟨q,0,none⟩)) rfl (Or.inl ⟨by rfl,fun _ _=>rfl⟩) hS ?_
    try simp only[Act.put,sqX]
    refine sqH 1 (.slice (some ⟨gl,0,none⟩) (zaq X).length cl) rfl (Or.inl ⟨by rfl,fun _ _=>rfl⟩) hS ?_
    try simp only[Act.put,sqX]
    refine sqH 2 (.int .i64 ((s:Int)+(k:Int))) rfl (Or.inl ⟨by rfl,fun _ _=>rfl⟩) hS ?_
    try simp only[Act.put,sqX]
    refine sqH 3 (.int .i64 (J:Int)) rfl (Or.inl ⟨by rfl,fun _ _=>by go_simp⟩) hS ?_
    try simp only[Act.put,sqX]
    refine sqH 4 (.pointer (some ⟨gl,J,none⟩)) rfl (Or.inl ⟨by rfl,fun _ _=>by go_simp⟩) hS ?_
    try simp only[Act.put,sqX]
    refine sqH 5 (.int .i64 (L:Int)) rfl (zai rfl 3 (.tmp 77) rfl _ _ rfl fun w h=>zal zdm h) hS ?_
    try simp only[Act.put,sqX]
    refine sqH 6 (.int .i64 ((L:Int)*64)) rfl (Or.inl ⟨by rfl,fun _ _=>by go_simp⟩) hS ?_
    try simp only[Act.put,sqX]
    refine sqH 7 (.int .i64 (6144+(L:Int)*64)) rfl (Or.inl ⟨by rfl,fun _ _=>by go_simp⟩) hS ?_
    try simp only[Act.put,sqX]
    refine sqH 8 (.int .i64 ((s:Int)+(k:Int))) rfl (Or.inl ⟨by rfl,fun _ _=>rfl⟩) hS ?_
    try simp only[Act.put,sqX]
    refine sqH 9 (.int .i64 (r:Int)) rfl (Or.inl ⟨by rfl,fun _ _=>by go_simp⟩) hS ?_
    try simp only[Act.put,sqX]
    refine sqH 10 (.int .i64 (6144+((L*64+r:Nat):Int))) rfl (Or.inl ⟨by rfl,fun _ _=>by go_simp⟩) hS ?_
    try simp only[Act.put,sqX]
    refine sqH 11 (.slice (some ad) bb.length cb) rfl (Or.inl ⟨by rfl,fun _ _=>rfl⟩) hS ?_
    try simp only[Act.put,sqX]
    refine sqH 12 (.int .i64 (k:Int)) rfl (Or.inl ⟨by rfl,fun _ _=>rfl⟩) hS ?_
    try simp only[Act.put,sqX]
    refine sqH 13 (.int .i64 (k:Int)) rfl (Or.inl ⟨by rfl,fun _ _=>rfl⟩) hS ?_
    try simp only[Act.put,sqX]
    refine sqH 14 (.int .i64 ((k:Int)+1)) rfl (Or.inl ⟨by rfl,fun _ _=>by go_simp⟩) hS ?_
    try simp only[Act.put,sqX]
    refine sqH 15 (.slice (some (ad.add k)) 1 (cb-k)) rfl (Or.inl ⟨by rfl,fun _ _=>by go_simp⟩) hS ?_
    try simp only[Act.put,sqX]
    refine wpAnyH_all (rs:=[16]) (by kernel_rfl) (by simp) fun i hi=>?_
    obtain rfl:i=16:=by simpa using hi
    refine zbf (om:=⟨_,_,_,_,_,_⟩) (fn:=63) (args:=#[.pointer (some ⟨q,0,none⟩),.int .i64 (6144+((L*64+r:Nat):Int)),.slice (some (ad.add k)) 1 (cb-k)]) (R:=fun u W'=>u=.tuple #[]∧RefH W' mi q b c d e (zbx M 6144 (wrK (zad g1) (zaq X) s bb (k+1))) G∧Keeps (fun k=>k=b) wd W') rfl rfl (by go_simp)
     (HLY.out.mono fun e W' ⟨he,h1,h2⟩=>⟨_,he,rfl,h1,h2⟩) _ _ rfl rfl ?_
    rintro u w6 ⟨rfl,h6,k6⟩
    have hS:w6.cell? ⟨gl,J,none⟩=some (.int .i64 (L:Int)):=(k6.cell gl J hgd hgb).trans hS
    refine⟨hS,?_⟩
    try simp only[Act.put,sqX]
    refine wpAnyH_done (by kernel_rfl) ?_ _
    try simp only[Act.put,sqX]
    have HRR:Hid (WrL w mi q b c d e M G (zad g1) (zaq X) s bb w5 (bb.length-(k+1)) (.int .i64 ((k:Int)+1)) w6):=⟨k+1,rfl,by omega,by rw[Int.natCast_add];rfl,h6,KW.out.trans k6⟩
    clear h6 k6 HLY KW hS
    go_wp2_with fail
    go_roundg (bb.length-(k+1))
    case rel=>exact HRR.out
    case measure=>omega
   ·obtain rfl:k=bb.length:=by omega
    have d4:decide ((bb.length:Int)<(bb.length:Int))=false:=by simp
    have HG:Hid (zm4 w mi q b c d e M G (zbu ⟨zab M,zaa (zab M)⟩ (i:Int) (s:Int) bb) (.returned (.int .i64 0)) wr):=by
     rw[HVAL.out]
     refine⟨rfl,?_,K5.out.trans kw⟩
     rw[zp rfl,← HWB.out]
     exact hrf
    clear hrf kw HB5 OW
    go_wp2_with fail
    go_ret
    exact HG.out
 have d3:decide ((at' (zaa (zab M)) i).size<(s:Int)+(bb.length:Int))=true:=by simp only[decide_eq_true_eq];exact hgr
 rw[zp hgr] at hRE
 have hrz:=zh9 (H.out.keep KB.out fun _ _ _ f=>f) HO.out (i:Int) ((s:Int)+(bb.length:Int)) (by omega) (by omega)
 have hc1:=HBX.out.c.2.1
 obtain⟨rv,hrv⟩:∃ rv,rv=zag ⟨zab M,zaa (zab M)⟩ (i:Int) ((s:Int)+(bb.length:Int)):=⟨_,rfl⟩
 rw[← hrv] at hrz hRE
 have HRZ:=zq hrz
 clear hrz
 by_cases h0:rv.1=0
 case neg =>
  have HBAD:=zq (hbad rv.1 (by rw[hRE]) h0)
  have t2:(rv.1 != 0)=true:=by simp[h0]
  clear hbad k1 hx hgd HN hRE hisF hE hX hok hbits hfew k1b hba HBB HAA hs0 hs1 hs2 hr h0 HXB hrv hgr
  obtain⟨E,g2⟩:=rv
  generalize zbu ⟨zab M,zaa (zab M)⟩ (i:Int) (s:Int) bb=vv at *
  go_wp2_with fail
  rw[← hwb]
  clear hwb
  go_wp2_with fail
  refine HRZ.out.mono ?_
  rintro en w2 ⟨rfl,h2,k2⟩
  have hz:¬((E,g2):Int × RG).1=0:=by simpa using t2
  rw[zn hz] at h2
  have HG:=zq (HBAD.out w2 h2 ((KB.out.mono fun _ _ f=>f.elim).trans k2))
  clear HBAD h2 k2 HRZ hz
  go_wp2_with fail
  go_ret
  exact HG.out
 obtain⟨E,g1⟩:=rv
 change E=0 at h0
 subst h0
 have hre:zch ⟨zab M,zaa (zab M)⟩ (i:Int) ((s:Int)+(bb.length:Int))=0:=by
  unfold zag at hrv
  by_cases h:zch ⟨zab M,zaa (zab M)⟩ (i:Int) ((s:Int)+(bb.length:Int))=0
  ·exact h
  ·rw[zn h] at hrv
   exact absurd (congrArg Prod.fst hrv).symm h
 have hg1:g1=zb5 ⟨zab M,zaa (zab M)⟩ (i:Int) ((s:Int)+(bb.length:Int)):=by
  unfold zag at hrv
  rw[zp hre] at hrv
  exact congrArg Prod.snd hrv
 have hgd1:RGood g1:=by rw[hg1];exact(zfb hgd hre).2.2.2.2
 have HVAL:Hid (zbu ⟨zab M,zaa (zab M)⟩ (i:Int) (s:Int) bb=(0,zpz g1 (i:Int) (s:Int) bb)):=by
  show _=_
  unfold zbu
  rw[hRE,zp rfl]
 have hns:at' g1.ns i=⟨(at' (zaa (zab M)) i).name,(s:Int)+(bb.length:Int),zd8 (at' (zaa (zab M)) i).ext (zao (zaa (zab M))) (zbq ((s:Int)+(bb.length:Int))).toNat⟩:=by
  rw[hg1,zfw]
  show at' ((zaa (zab M)).set (i:Int).toNat _) i=_
  rw[Int.toNat_natCast,zcq _ (by rw[zbp];exact hi8),zp rfl,hX]
 obtain⟨ho1,hr1,hr2⟩:=zza hM hgd1
 have ho1:okR (zab (zbx M 6144 (zad g1))):=ho1
 have hnn:zaa (zab (zbx M 6144 (zad g1)))=g1.ns:=by rw[hr1,hr2]
 have hne:(at' (zaa (zab M)) i).name≠[]:=by simpa [isF] using hisF
 have hE1:za1 g1.ns (i:Int)=0:=by unfold za1;rw[zn (by omega),show((i:Int)).toNat=i by omega,zn (by rw[hns];exact hne)]
 have hX1':za0 g1.ns (i:Int)=at' g1.ns i:=by unfold za0;rw[zp hE1];rfl
 have hsz1:=hgd1.size hi8
 have hokx:ok (at' g1.ns i).ext=true:=(hgd1.bits hi8 (by rw[hns];simpa [isF] using hne)).1
 rw[zar hokx] at hsz1
 have hfew1:(at' g1.ns i).ext.length≤100:=by have:=zkm hokx;omega
 have hbd:s+bb.length≤64*(zaq (at' g1.ns i).ext).length:=by
  have:=hsz1.2.2
  rw[show(at' g1.ns i).size=(s:Int)+(bb.length:Int) by rw[hns]] at this
  omega
 have HNO:=zq ho1
 have HE1:=zq hE1
 have HX1:=zq hX1'
 have HNN:=zq hnn
 have HR1:=zq hr1
 clear hbad k1 hx hgd HN hRE hisF hE hX hok hbits hfew k1b hba hs0 hs1 hs2 hr HXB hrv hgr hre hg1 ho1 hr1 hr2 hnn hE1 hX1' hsz1 hne hns
 go_wp2_with fail
 rw[← hwb]
 clear hwb
 go_wp2_with fail
 refine HRZ.out.mono ?_
 rintro en w2 ⟨rfl,h2,k2⟩
 rw[zp rfl] at h2
 have h2:RefH w2 mi q b c d e (zbx M 6144 (zad g1)) G:=h2
 have hn2:=ze9 h2 (i:Int) (by omega)
 have HN2:=zq hn2
 have H2:=zq h2
 have K2:=zq k2
 clear hn2 h2 k2 HRZ
 go_wp2_with fail
 refine HN2.out.mono ?_
 rintro en w3 ⟨k3,⟨-,R3,c3,rfl,hx3⟩|⟨hno,-⟩⟩
 rotate_left
 ·exact absurd HNO.out hno
 rw[HNN.out,HE1.out,HX1.out,zp rfl]
 rw[HNN.out,HX1.out] at hx3
 have hB:w1.heap.size≠b:=by omega
 have hbx2:BoxN w2 w1.heap.size ⟨at' (zaa (zab M)) i,R,cx⟩:=(K2.out.block _ HBX.out.lt (fun e=>hB e)).trans HBX.out
 have hbx3:BoxN w3 w1.heap.size ⟨at' (zaa (zab M)) i,R,cx⟩:=(k3.block _ hbx2.lt (fun f=>f)).trans hbx2
 have hb1:w3.heap[w1.heap.size]?=some (.cells #[St (at' (zaa (zab M)) i).name,.int .i64 (at' (zaa (zab M)) i).size,.slice R (at' (zaa (zab M)) i).ext.length cx] 113 (0,0)):=hbx3
 have sr:=run_storeAt_mid (P:=Tryz.prog) w3 w1.heap.size 0 113 #[St (at' g1.ns i).name,.int .i64 (at' g1.ns i).size,.slice R3 (at' g1.ns i).ext.length c3] (zax (zs:=[_,_,_]) hb1 0 3 (by simp)) zbc (by simp[Value.oneCell'])
 obtain⟨hz1,ks⟩:=zah (zs:=[_,_,_]) (ys:=[St (at' g1.ns i).name,.int .i64 (at' g1.ns i).size,.slice R3 (at' g1.ns i).ext.length c3]) hb1 rfl
 generalize hwz:w3.setCells w1.heap.size 0 _=wz at sr hz1 ks
 have hc2:wz.cell? ⟨w1.heap.size,2,none⟩=some (.slice R3 (at' g1.ns i).ext.length c3):=by rw[cell_of_row _ _ _ _ _ _ hz1];rfl
 have hlt0:=H.out.lt
 have hrf:RefH wz mi q b c d e (zbx M 6144 (zad g1)) G:=Fr.RefH.keep3 (H2.out.keep k3 fun _ _ _ f=>f) ks (by omega) (by omega) (by omega)
 have K0:Hid (Keeps (fun k=>k=b) w wz):=Keeps.thru (((KB.out.mono (G:=fun k=>k=b) fun _ _ f=>f.elim).trans K2.out).trans (k3.mono (G:=fun k=>k=b) fun _ _ f=>f.elim)) ks (fun _ _ e=>e) (fun j hj e=>by omega)
 have H0:=zq hrf
 have hxz:XR wz wz.heap.size R3 (at' g1.ns i).ext:=zez hx3 ks fun hn ad e=>zoj hbx3 hx3 hn ad e
 have SR:=zq sr
 clear hx3 hbx2 hbx3 hb1 sr hz1 ks k3 HN2 H2 K2 HBX hwz
 go_wp2_with (first
  | ((with_reducible refine at_ (op:=.store 113 (.tmp 9) (.tmp 56)) ?_);refine zat rfl (zbb 113 (.tmp 9) (.tmp 56) rfl _ _ rfl rfl SR.out) ?_)
  | fail)
 generalize hXX:(at' g1.ns i).ext=X at *
 have hX1:(at' g1.ns i).ext=X:=hXX
 have HOKX:=zq hokx
 have HBL:=zq (zcc R3 X c3 wz hxz hfew1)
 clear hrf hxz SR hXX
 refine HBL.out.mono ?_
 rintro en w5 ⟨Rl,cl,rfl,own5,b5⟩
 rw[zar HOKX.out] at own5 ⊢
 have K5:=zq (K0.out.trans (zac b5))
 have H5:=zq (H0.out.keep (zac (F:=fun _=>False) b5) fun _ _ _ f=>f)
 have OW:=zq own5
 have hnb:∀ ad,Rl=some ad→ad.block≠b:=fun ad e=>by
  have h1:=World.ownsRow.lt own5 ad.block (by rw[e];rfl)
  have h2:=H0.out.lt
  omega
 have HB5:=zq fun (wr:World) (k:Keeps (fun k=>k=b) w5 wr)=>(K5.out.trans k).br HBB.out (fun ad e hne=>HAA.out hne ad e)
 have HC0:Hid (WrL w mi q b c d e M G (zad g1) (zaq X) s bb w5 bb.length (.int .i64 0) w5):=⟨0,by omega,by omega,rfl,H5.out,Keeps.refl _ _⟩
 have HWB:=zq (ztv hgd1.bl hgd1.nl hX1 HOKX.out s bb hbd)
 have hgg:=zcr X HOKX.out
 have hg32:∀ x∈zaq X,x<32:=fun x hx=>(hgg.2 x hx).2
 have hbl1:=zcb hgd1.bl hgd1.nl
 clear own5 b5 HBL hX1
 go_wp2_with fail
 go_loopg [15,16,67] bb.length (fun g _ _ k wr=>WrL w mi q b c d e M G (zad g1) (zaq X) s bb w5 g k wr)
 case atStart=>exact HC0.out
 case round =>
  obtain⟨k,rfl,hk,rfl,hrf,kw⟩:=hrel
  clear HC0
  by_cases hkl:k<bb.length
  ·have hbr:=HB5.out wr kw
   obtain⟨ad,rfl,-,-⟩:=hbr (by intro e;rw[e] at hkl;simp at hkl)
   obtain⟨J,hJ⟩:∃ J,J=(s+k) / 64:=⟨_,rfl⟩
   obtain⟨r,hr⟩:∃ r,r=(s+k) % 64:=⟨_,rfl⟩
   have hJl:J<(zaq X).length:=by omega
   obtain⟨gl,rfl,hgl,hcl⟩:=OW.out.ir J (zaq X)[J] (List.getElem?_eq_getElem hJl)
   have hgb:gl≠b:=hnb _ rfl
   have hgt:(zaq X).getD J 0=(zaq X)[J]:=by rw[List.getD_eq_getElem?_getD,List.getElem?_eq_getElem hJl];rfl
   have hL32:=hg32 _ (List.getElem_mem hJl)
   have hstep:splice (wrK (zad g1) (zaq X) s bb k) ((zaq X)[J]*64+r) [bb.getD k 0]=wrK (zad g1) (zaq X) s bb (k+1):=by
    rw[← hgt,hJ,hr]
    rfl
   have hwl:=zlj (a:=s) (b:=bb) hbl1 hg32 k (by omega)
   obtain⟨wd,hwd⟩:∃ wd,wd=wr.drew:=⟨_,rfl⟩
   have kd:Keeps (fun _=>False) wr wd:=by rw[hwd];exact zac ((Below.refl _ _).drew)
   have hrd:=hrf.keep kd fun _ _ _ f=>f
   have kwd:=kw.trans (kd.mono (G:=fun k=>k=b) fun _ _ f=>f.elim)
   have hly:=ziw hrd (6144+(((zaq X)[J]*64+r:Nat):Int)) (by omega) (by omega) (some (ad.add k)) [bb.getD k 0] (cb-k) (ygj (HB5.out wd kwd) hkl) (fun ad' e1 _=>by cases e1;rw[zan];exact HAA.out (by intro e;rw[e] at hkl;simp at hkl) _ rfl) (by simp)
   rw[zq1 hM hwl (by rw[List.length_singleton];omega),hstep,List.length_singleton] at hly
   have HLY:=zq hly
   have KW:=zq kwd
   have hS:wd.cell? ⟨gl,J,none⟩=some (.int .i64 ((zaq X)[J]:Int)):=(kwd.cell gl J hgl hgb).trans hcl
   have hgd:gl<wd.heap.size:=by have:=kwd.size;omega
   have d4:decide ((k:Int)<(bb.length:Int))=true:=by simp only[decide_eq_true_eq];omega
   have v0:IntKind.i64.wrap ((s:Int)+(k:Int))=(s:Int)+(k:Int):=by rw[IntKind.wrap_i64];omega
   have q3:IntKind.i64.wrap ((k:Int)+1)=(k:Int)+1:=by rw[IntKind.wrap_i64];omega
   have v1:IntKind.i64.wrap (((zaq X)[J]:Int)*64)=((zaq X)[J]:Int)*64:=by rw[IntKind.wrap_i64];omega
   have v2:IntKind.i64.wrap (6144+((zaq X)[J]:Int)*64)=6144+((zaq X)[J]:Int)*64:=by rw[IntKind.wrap_i64];omega
   have v3:IntKind.i64.wrap (6144+((zaq X)[J]:Int)*64+(r:Int))=6144+(((zaq X)[J]*64+r:Nat):Int):=by rw[IntKind.wrap_i64];omega
   have e1:((s:Int)+(k:Int)) / 64=(J:Int):=by omega
   have e2:((s:Int)+(k:Int)) % 64=(r:Int):=by omega
   have e5:((s:Int)+(k:Int)).tdiv 64=(J:Int):=by rw[Int.tdiv_eq_ediv_of_nonneg (by omega)];exact e1
   have e6:((s:Int)+(k:Int)).tmod 64=(r:Int):=by rw[Int.tmod_eq_emod_of_nonneg (by omega)];exact e2
   have p4:cb≠k:=by omega
   have p5:(0:Int)≤(k:Int)+1:=by omega
   have e3:IntKind.i64.wrap (J:Int)=(J:Int):=by rw[IntKind.wrap_i64];omega
   have e4:IntKind.i64.wrap (r:Int)=(r:Int):=by rw[IntKind.wrap_i64];omega
   have p0:(0:Int)≤J:=by omega
   have p1:(J:Int)<((zaq X).length:Int):=by omega
   have p2:(0:Int)≤k:=by omega
   have p3:(k:Int)+1≤(cb:Int):=by omega
   clear hrf kw hJ hr hgt hstep hwl kd hrd kwd hly hbr hcl
   generalize (zaq X)[J]=L at *
   go_wp2_with fail
   refine wp_region_held (S:=fun W=>W.cell? ⟨gl,J,none⟩=some (.int .i64 (L:Int))) (by kernel_rfl) ?_
   change wpAnyH _ _ _ _ _ _ _ _ wr.drew
   rw[← hwd]
   refine sqH 0 (.pointer (some ⟨q,0,none⟩)) rfl (Or.inl ⟨by rfl,fun _ _=>rfl⟩) hS ?_
   try simp only[Act.put,sqX]
   refine sqH 1 (.slice (some ⟨gl,0,none⟩) (zaq X).length cl) rfl (Or.inl ⟨by rfl,fun _ _=>rfl⟩) hS ?_
   try simp only[Act.put,sqX]
   refine sqH 2 (.int .i64 ((s:Int)+(k:Int))) rfl (Or.inl ⟨by rfl,fun _ _=>rfl⟩) hS ?_
   try simp only[Act.put,sqX]
   refine sqH 3 (.int .i64 (J:Int)) rfl (Or.inl ⟨by rfl,fun _ _=>by go_simp⟩) hS ?_
   try simp only[Act.put,sqX]
   refine sqH 4 (.pointer (some ⟨gl,J,none⟩)) rfl (Or.inl ⟨by rfl,fun _ _=>by go_simp⟩) hS ?_
   try simp only[Act.put,sqX]
   refine sqH 5 (.int .i64 (L:Int)) rfl (zai rfl 3 (.tmp 77) rfl _ _ rfl fun w h=>zal zdm h) hS ?_
   try simp only[Act.put,sqX]
   refine sqH 6 (.int .i64 ((L:Int)*64)) rfl (Or.inl ⟨by rfl,fun _ _=>by go_simp⟩) hS ?_
   try simp only[Act.put,sqX]
   refine sqH 7 (.int .i64 (6144+(L:Int)*64)) rfl (Or.inl ⟨by rfl,fun _ _=>by go_simp⟩) hS ?_
   try simp only[Act.put,sqX]
   refine sqH 8 (.int .i64 ((s:Int)+(k:Int))) rfl (Or.inl ⟨by rfl,fun _ _=>rfl⟩) hS ?_
   try simp only[Act.put,sqX]
   refine sqH 9 (.int .i64 (r:Int)) rfl (Or.inl ⟨by rfl,fun _ _=>by go_simp⟩) hS ?_
   try simp only[Act.put,sqX]
   refine sqH 10 (.int .i64 (6144+((L*64+r:Nat):Int))) rfl (Or.inl ⟨by rfl,fun _ _=>by go_simp⟩) hS ?_
   try simp only[Act.put,sqX]
   refine sqH 11 (.slice (some ad) bb.length cb) rfl (Or.inl ⟨by rfl,fun _ _=>rfl⟩) hS ?_
   try simp only[Act.put,sqX]
   refine sqH 12 (.int .i64 (k:Int)) rfl (Or.inl ⟨by rfl,fun _ _=>rfl⟩) hS ?_
   try simp only[Act.put,sqX]
   refine sqH 13 (.int .i64 (k:Int)) rfl (Or.inl ⟨by rfl,fun _ _=>rfl⟩) hS ?_
   try simp only[Act.put,sqX]
   refine sqH 14 (.int .i64 ((k:Int)+1)) rfl (Or.inl ⟨by rfl,fun _ _=>by go_simp⟩) hS ?_
   try simp only[Act.put,sqX]
   refine sqH 15 (.slice (some (ad.add k)) 1 (cb-k)) rfl (Or.inl ⟨by rfl,fun _ _=>by go_simp⟩) hS ?_
   try simp only[Act.put,sqX]
   refine wpAnyH_all (rs:=[16]) (by kernel_rfl) (by simp) fun i hi=>?_
   obtain rfl:i=16:=by simpa using hi
   refine zbf (om:=⟨_,_,_,_,_,_⟩) (fn:=63) (args:=#[.pointer (some ⟨q,0,none⟩),.int .i64 (6144+((L*64+r:Nat):Int)),.slice (some (ad.add k)) 1 (cb-k)]) (R:=fun u W'=>u=.tuple #[]∧RefH W' mi q b c d e (zbx M 6144 (wrK (zad g1) (zaq X) s bb (k+1))) G∧Keeps (fun k=>k=b) wd W') rfl rfl (by go_simp)
    (HLY.out.mono fun e W' ⟨he,h1,h2⟩=>⟨_,he,rfl,h1,h2⟩) _ _ rfl rfl ?_
   rintro u w6 ⟨rfl,h6,k6⟩
   have hS:w6.cell? ⟨gl,J,none⟩=some (.int .i64 (L:Int)):=(k6.cell gl J hgd hgb).trans hS
   refine⟨hS,?_⟩
   try simp only[Act.put,sqX]
   refine wpAnyH_done (by kernel_rfl) ?_ _
   try simp only[Act.put,sqX]
   have HRR:Hid (WrL w mi q b c d e M G (zad g1) (zaq X) s bb w5 (bb.length-(k+1)) (.int .i64 ((k:Int)+1)) w6):=⟨k+1,rfl,by omega,by rw[Int.natCast_add];rfl,h6,KW.out.trans k6⟩
   clear h6 k6 HLY KW hS
   go_wp2_with fail
   go_roundg (bb.length-(k+1))
   case rel=>exact HRR.out
   case measure=>omega
  ·obtain rfl:k=bb.length:=by omega
   have d4:decide ((bb.length:Int)<(bb.length:Int))=false:=by simp
   have HG:Hid (zm4 w mi q b c d e M G (zbu ⟨zab M,zaa (zab M)⟩ (i:Int) (s:Int) bb) (.returned (.int .i64 0)) wr):=by
    rw[HVAL.out]
    refine⟨rfl,?_,K5.out.trans kw⟩
    rw[zp rfl,← HWB.out]
    exact hrf
   clear hrf kw HB5 OW
   go_wp2_with fail
   go_ret
   exact HG.out
end Fr
namespace Hd
open Go.RowKit Go.Maps Ex Ino Mm Fs Fr
variable {w:World} {mi q b c d e:Nat} {M G:List UInt8}
noncomputable def fE (M:List UInt8) (name:List UInt8):Int:=by classical exact if okR (zab M) then za5 (zaa (zab M)) name else 120
noncomputable def fN (M:List UInt8) (name:List UInt8):Nat:=by classical exact if okR (zab M) then zbi (zaa (zab M)) name else 0
theorem zvg (ns:List IN)(name:List UInt8):zbi ns name<8:=by
 unfold zbi
 split
 ·omega
 ·cases hf:zdk ns name with
  | none=>show 0<8;omega
  | some j=>exact(zcp hf).1
theorem yh9 (M name:List UInt8):fN M name<8:=by
 unfold fN
 split
 ·exact zvg _ _
 ·omega
theorem zy5 (h:RefH w mi q b c d e M G)(name:List UInt8)(hl:name.length≤9223372036854775807):
  Calls Tryz.prog 69 #[.pointer (some ⟨q,0,none⟩),St name] w (zkw w (.tuple #[.int .i64 (fN M name:Int),.int .i64 (fE M name)])):=by
 unfold fN fE
 by_cases ho:okR (zab M)
 ·rw[zp ho,zp ho];exact zy6 h ho name hl
 ·rw[zn ho,zn ho];exact yg4 h ho name hl
noncomputable def zjx (M name:List UInt8):Int × Int × List UInt8:=
 if fE M name≠0 then (0,fE M name,M) else if zdy M=0 then (0,130,M) else ((zdy M:Int),0,zdb M (zdy M) ((fN M name:Int)+1) 0)
set_option maxRecDepth 100000 in
theorem zwj (h:RefH w mi q b c d e M G)(name:List UInt8)(hl:name.length≤9223372036854775807):
  Calls Tryz.prog 27 #[.pointer (some ⟨q,0,none⟩),St name] w (zm9 w mi q b d e G (zjx M name).2.2 (.tuple #[.int .i64 (zjx M name).1,.int .i64 (zjx M name).2.1])):=by
 have HF:=zq (zy5 h name hl)
 have HFR:=zq (fun (W:World) (k':Keeps (fun _=>False) w W)=>zqf (h.keep k' fun _ _ _ f=>f))
 have H:=zq h
 have hfn:=yh9 M name
 have hlo:=zmd M
 unfold zjx
 by_cases hE:fE M name≠0
 ·rw[zp hE]
  have t1:(fE M name != 0)=true:=by simpa using hE
  clear h hE
  generalize fE M name=E at *
  generalize fN M name=n at *
  go_enter Tryz.func27,Tryz.ntmps27
  go_wp2_with fail
  refine HF.out.mono ?_
  rintro e1 w1 ⟨rfl,k1⟩
  go_wp2_with fail
  go_ret2
  exact⟨rfl,Dn.quiet H.out k1⟩
 ·rw[zn hE]
  have hE0:fE M name=0:=Classical.not_not.1 hE
  rw[hE0] at HF
  clear hE hE0
  by_cases hz:zdy M=0
  ·rw[zp hz]
   rw[hz] at HFR
   clear h hz hlo
   generalize fN M name=n at *
   go_enter Tryz.func27,Tryz.ntmps27
   go_wp2_with fail
   refine HF.out.mono ?_
   rintro e1 w1 ⟨rfl,k1⟩
   go_wp2_with fail
   refine(HFR.out _ k1).mono ?_
   rintro e2 w2 ⟨rfl,k2⟩
   have K2:=zq (k1.trans k2)
   clear k1 k2
   go_wp2_with fail
   go_ret2
   exact⟨rfl,Dn.quiet H.out K2.out⟩
  ·rw[zn hz]
   have t1:((zdy M:Int)==0)=false:=by simpa using hz
   have HBG:=zq (fun (W:World) (h':RefH W mi q b c d e M G)=>zjt h' (zdy M) (by omega) hlo (fN M name:Int) (by omega))
   clear h hz hlo hfn
   generalize fN M name=n at *
   generalize zdy M=k at *
   go_enter Tryz.func27,Tryz.ntmps27
   go_wp2_with fail
   refine HF.out.mono ?_
   rintro e1 w1 ⟨rfl,k1⟩
   go_wp2_with fail
   refine(HFR.out _ k1).mono ?_
   rintro e2 w2 ⟨rfl,k2⟩
   have hk2:=k1.trans k2
   have HB1:=zq (HBG.out _ (H.out.keep hk2 (fun _ _ _ f=>f)))
   have D2:=zq ((Th.refl w q b).quiet hk2)
   clear k1 k2 hk2 HFR H HBG HF
   go_wp2_with fail
   refine HB1.out.mono ?_
   rintro e3 w3 ⟨rfl,d3⟩
   have D3:=zq (Dn.next D2.out d3)
   clear d3 D2 HB1
   go_wp2_with fail
   go_ret2
   exact⟨rfl,D3.out⟩
noncomputable def zry (M name:List UInt8):Int × Int × List UInt8:=by
  classical
  exact
    if ¬okR (zab M) then (0,120,M) else if zbg name=false then (0,121,M) else if zdy M=0 then (0,130,M) else
    if (zae (za6 M) name).1=122 then
      (if (zag (za6 M) (zbi (zaa (zab M)) name:Nat) 0).1=0 then
        ((zdy M:Int),0,zdb (zbz M (zag (za6 M) (zbi (zaa (zab M)) name:Nat) 0)) (zdy M) ((zbi (zaa (zab M)) name:Int)+1) 0)
       else (0,(zag (za6 M) (zbi (zaa (zab M)) name:Nat) 0).1,M))
    else if (zae (za6 M) name).1=0 then ((zdy M:Int),0,zdb (zbx M 6144 (zad (zae (za6 M) name).2.2)) (zdy M) (((zae (za6 M) name).2.1:Int)+1) 0)
    else (0,(zae (za6 M) name).1,M)
theorem cre_lt (g:RG)(name:List UInt8):(zae g name).2.1<8:=by
 unfold zae
 split
 ·split
  ·rename_i i hi
   have:=List.mem_of_find?_eq_some hi
   simpa using this
  ·show 0<8;omega
 ·show 0<8;omega
set_option maxRecDepth 100000 in
theorem zql (h:RefH w mi q b c d e M G)(name:List UInt8)(hl:name.length≤9223372036854775807):
  Calls Tryz.prog 26 #[.pointer (some ⟨q,0,none⟩),St name] w (zm9 w mi q b d e G (zry M name).2.2 (.tuple #[.int .i64 (zry M name).1,.int .i64 (zry M name).2.1])):=by
 have H:=zq h
 unfold zry
 by_cases ho:okR (zab M)
 case neg =>
  rw[zp ho]
  have HC:=zq (zoz h ho)
  clear h ho
  go_enter Tryz.func26,Tryz.ntmps26
  go_wp2_with fail
  refine HC.out.mono ?_
  rintro e1 w1 ⟨rfl,k1⟩
  go_wp2_with fail
  go_ret2
  exact⟨rfl,Dn.quiet H.out k1⟩
 rw[zn (Classical.not_not.2 ho)]
 have HC:=zq (zk1 h ho)
 have HNM:=zq (fun W=>zlz name W hl)
 cases hnb:zbg name with
 | false =>
  rw[zp rfl]
  rw[hnb] at HNM
  clear h ho hnb
  go_enter Tryz.func26,Tryz.ntmps26
  go_wp2_with fail
  refine HC.out.mono ?_
  rintro e1 w1 ⟨rfl,k1⟩
  go_wp2_with fail
  refine(HNM.out _).mono ?_
  rintro e2 w2 ⟨rfl,rfl⟩
  go_wp2_with fail
  go_ret2
  exact⟨rfl,Dn.quiet H.out k1⟩
 | true =>
  rw[zn (by simp)]
  rw[hnb] at HNM
  have HFR:=zq (fun (W:World) (k':Keeps (fun _=>False) w W)=>zqf (h.keep k' fun _ _ _ f=>f))
  have hlo:=zmd M
  by_cases hz:zdy M=0
  ·rw[zp hz]
   rw[hz] at HFR
   clear h ho hnb hz hlo
   go_enter Tryz.func26,Tryz.ntmps26
   go_wp2_with fail
   refine HC.out.mono ?_
   rintro e1 w1 ⟨rfl,k1⟩
   go_wp2_with fail
   refine(HNM.out _).mono ?_
   rintro e2 w2 ⟨rfl,rfl⟩
   go_wp2_with fail
   refine(HFR.out _ k1).mono ?_
   rintro e3 w3 ⟨rfl,k3⟩
   have K3:=zq (k1.trans k3)
   clear k1 k3 HC HNM HFR
   go_wp2_with fail
   go_ret2
   exact⟨rfl,Dn.quiet H.out K3.out⟩
  ·rw[zn hz]
   have t1:((zdy M:Int)==0)=false:=by simpa using hz
   have HCR:=zq (fun (W:World) (h':RefH W mi q b c d e M G)=>zsj h' ho name hl)
   have hrm:(⟨zab M,zaa (zab M)⟩:RG)=za6 M:=rfl
   rw[hrm] at HCR
   have hlk:1≤zdy M:=by omega
   by_cases h122:(zae (za6 M) name).1=122
   ·rw[zp h122]
    have hfe:za5 (zaa (zab M)) name=0:=by
     unfold zae at h122
     by_cases ha:za2 (za6 M).ns name=0
     ·rw[zp ha] at h122
      split at h122<;>cases h122
     ·rw[zn ha] at h122
      unfold za2 at h122
      by_cases hf:za5 (za6 M).ns name=0
      ·exact hf
      ·rw[zn hf] at h122
       split at h122
       ·cases h122
       ·exfalso
        have h3:za5 (za6 M).ns name=122:=h122
        unfold za5 at h3
        split at h3
        ·cases h3
        ·split at h3<;>cases h3
    have hcn:(zae (za6 M) name).2.1=0:=by
     unfold zae at h122 ⊢
     by_cases ha:za2 (za6 M).ns name=0
     ·rw[zp ha] at h122 ⊢
      split at h122<;>cases h122
     ·rw[zn ha]
    have HF:=zq (fun (W:World) (h':RefH W mi q b c d e M G)=>zy6 h' ho name hl)
    rw[hfe] at HF
    have hfn:=zvg (zaa (zab M)) name
    have HRZ:=zq (fun (W:World) (h':RefH W mi q b c d e M G)=>zh9 h' ho (zbi (zaa (zab M)) name:Int) 0 (by omega) (by omega))
    rw[hrm] at HRZ
    have hcr:=fun (W:World) (h':RefH W mi q b c d e M G)=>HCR.out W h'
    have HC2:=zq (fun (W:World) (h':RefH W mi q b c d e M G)=>(HCR.out W h').mono fun en W' (x:ygm W mi q b c d e M G _ en W')=>(show en=.returned (.tuple #[.int .i64 0,.int .i64 122])∧RefH W' mi q b c d e M G∧Keeps (fun k=>k=b) W W' from by
     obtain⟨x1,x2,x3⟩:=x
     rw[h122,hcn] at x1
     rw[h122,zn (by decide)] at x2
     exact⟨x1,x2,x3⟩))
    clear hcr HCR hcn hfe
    generalize zbi (zaa (zab M)) name=fn at *
    by_cases hr0:(zag (za6 M) (fn:Int) 0).1=0
    ·rw[zp hr0]
     have HB2:=zq (fun (W:World) (b' c':Nat) (h':RefH W mi q b' c' d e (zbz M (zag (za6 M) (fn:Int) 0)) G)=>zjt h' (zdy M) hlk hlo (fn:Int) (by omega))
     have HR2:=zq (fun (W:World) (h':RefH W mi q b c d e M G)=>(HRZ.out W h').mono fun en W' (x:zm4 W mi q b c d e M G _ en W')=>(show en=.returned (.int .i64 0)∧RefH W' mi q b c d e (zbz M (zag (za6 M) (fn:Int) 0)) G∧Keeps (fun k=>k=b) W W' from by
      obtain⟨x1,x2,x3⟩:=x
      rw[hr0] at x1
      exact⟨x1,x2,x3⟩))
     clear HRZ hr0 h ho hnb hz hlo h122 hrm hlk hfn
     generalize zbz M (zag (za6 M) (fn:Int) 0)=M2 at *
     generalize zdy M=k at *
     go_enter Tryz.func26,Tryz.ntmps26
     go_wp2_with fail
     refine HC.out.mono ?_
     rintro e1 w1 ⟨rfl,k1⟩
     go_wp2_with fail
     refine(HNM.out _).mono ?_
     rintro e2 w2 ⟨rfl,rfl⟩
     go_wp2_with fail
     refine(HFR.out _ k1).mono ?_
     rintro e3 w3 ⟨rfl,k3⟩
     have K3:=zq (k1.trans k3)
     clear k1 k3 HC HNM HFR
     have HC3:=zq (HC2.out _ (H.out.keep K3.out (fun _ _ _ f=>f)))
     clear HC2 H
     go_wp2_with fail
     refine HC3.out.mono ?_
     rintro e4 w4 ⟨rfl,r4,k4⟩
     have T4:=zq (((Th.refl w q b).quiet K3.out).same k4)
     have HF4:=zq (HF.out _ r4)
     have R4:=zq r4
     clear r4 k4 HF HC3 K3
     go_wp2_with fail
     refine HF4.out.mono ?_
     rintro e5 w5 ⟨rfl,k5⟩
     have r5:=R4.out.keep k5 (fun _ _ _ f=>f)
     have HR5:=zq (HR2.out _ r5)
     have T5:=zq (T4.out.quiet k5)
     clear r5 k5 R4 T4 HR2 HF4
     go_wp2_with fail
     refine HR5.out.mono ?_
     rintro e6 w6 ⟨rfl,r6,k6⟩
     have HB6:=zq (HB2.out _ _ _ r6)
     have T6:=zq (T5.out.same k6)
     clear r6 k6 T5 HR5 HB2
     go_wp2_with fail
     refine HB6.out.mono ?_
     rintro e7 w7 ⟨rfl,d7⟩
     obtain⟨b7,c7,t7,r7⟩:=T6.out.step d7
     have D7:=zq (t7.dn r7)
     clear d7 T6 HB6 t7 r7
     go_wp2_with fail
     go_ret2
     exact⟨rfl,D7.out⟩
    ·rw[zn hr0]
     have tr:((zag (za6 M) (fn:Int) 0).1 != 0)=true:=by simpa using hr0
     have HR2:=zq (fun (W:World) (h':RefH W mi q b c d e M G)=>(HRZ.out W h').mono fun en W' (x:zm4 W mi q b c d e M G _ en W')=>(show en=.returned (.int .i64 (zag (za6 M) (fn:Int) 0).1)∧RefH W' mi q b c d e M G∧Keeps (fun k=>k=b) W W' from by
      obtain⟨x1,x2,x3⟩:=x
      rw[zn hr0] at x2
      exact⟨x1,x2,x3⟩))
     clear HRZ hr0 h ho hnb hz hlo h122 hrm hlk hfn
     generalize (zag (za6 M) (fn:Int) 0).1=E at *
     generalize zdy M=k at *
     go_enter Tryz.func26,Tryz.ntmps26
     go_wp2_with fail
     refine HC.out.mono ?_
     rintro e1 w1 ⟨rfl,k1⟩
     go_wp2_with fail
     refine(HNM.out _).mono ?_
     rintro e2 w2 ⟨rfl,rfl⟩
     go_wp2_with fail
     refine(HFR.out _ k1).mono ?_
     rintro e3 w3 ⟨rfl,k3⟩
     have K3:=zq (k1.trans k3)
     clear k1 k3 HC HNM HFR
     have HC3:=zq (HC2.out _ (H.out.keep K3.out (fun _ _ _ f=>f)))
     clear HC2 H
     go_wp2_with fail
     refine HC3.out.mono ?_
     rintro e4 w4 ⟨rfl,r4,k4⟩
     have T4:=zq (((Th.refl w q b).quiet K3.out).same k4)
     have HF4:=zq (HF.out _ r4)
     have R4:=zq r4
     clear r4 k4 HF HC3 K3
     go_wp2_with fail
     refine HF4.out.mono ?_
     rintro e5 w5 ⟨rfl,k5⟩
     have r5:=R4.out.keep k5 (fun _ _ _ f=>f)
     have HR5:=zq (HR2.out _ r5)
     have T5:=zq (T4.out.quiet k5)
     clear r5 k5 R4 T4 HR2 HF4
     go_wp2_with fail
     refine HR5.out.mono ?_
     rintro e6 w6 ⟨rfl,r6,k6⟩
     have D6:=zq ((T5.out.same k6).dn r6)
     clear r6 k6 T5 HR5
     go_wp2_with fail
     go_ret2
     exact⟨rfl,D6.out⟩
   ·rw[zn h122]
    have t2:((zae (za6 M) name).1==122)=false:=by simpa using h122
    by_cases h0:(zae (za6 M) name).1=0
    ·rw[zp h0]
     have hn8:(zae (za6 M) name).2.1<8:=cre_lt _ _
     have HB2:=zq (fun (W:World) (b' c':Nat) (h':RefH W mi q b' c' d e (zbx M 6144 (zad (zae (za6 M) name).2.2)) G)=>zjt h' (zdy M) hlk hlo ((zae (za6 M) name).2.1:Int) (by omega))
     have HC2:=zq (fun (W:World) (h':RefH W mi q b c d e M G)=>(HCR.out W h').mono fun en W' (x:ygm W mi q b c d e M G _ en W')=>(show en=.returned (.tuple #[.int .i64 ((zae (za6 M) name).2.1:Nat),.int .i64 0])∧RefH W' mi q b c d e (zbx M 6144 (zad (zae (za6 M) name).2.2)) G∧Keeps (fun k=>k=b) W W' from by
      obtain⟨x1,x2,x3⟩:=x
      rw[h0] at x1
      rw[zp h0] at x2
      exact⟨x1,x2,x3⟩))
     clear HCR h0 h122 t2 h ho hnb hz hlo hrm hlk hn8
     generalize zbx M 6144 (zad (zae (za6 M) name).2.2)=M2 at *
     generalize (zae (za6 M) name).2.1=n at *
     generalize zdy M=k at *
     go_enter Tryz.func26,Tryz.ntmps26
     go_wp2_with fail
     refine HC.out.mono ?_
     rintro e1 w1 ⟨rfl,k1⟩
     go_wp2_with fail
     refine(HNM.out _).mono ?_
     rintro e2 w2 ⟨rfl,rfl⟩
     go_wp2_with fail
     refine(HFR.out _ k1).mono ?_
     rintro e3 w3 ⟨rfl,k3⟩
     have K3:=zq (k1.trans k3)
     clear k1 k3 HC HNM HFR
     have HC3:=zq (HC2.out _ (H.out.keep K3.out (fun _ _ _ f=>f)))
     clear HC2 H
     go_wp2_with fail
     refine HC3.out.mono ?_
     rintro e4 w4 ⟨rfl,r4,k4⟩
     have HB4:=zq (HB2.out _ _ _ r4)
     have T4:=zq (((Th.refl w q b).quiet K3.out).same k4)
     clear r4 k4 HC3 K3 HB2
     go_wp2_with fail
     refine HB4.out.mono ?_
     rintro e7 w7 ⟨rfl,d7⟩
     obtain⟨b7,c7,t7,r7⟩:=T4.out.step d7
     have D7:=zq (t7.dn r7)
     clear d7 T4 HB4 t7 r7
     go_wp2_with fail
     go_ret2
     exact⟨rfl,D7.out⟩
    ·rw[zn h0]
     have t3:((zae (za6 M) name).1 != 0)=true:=by simpa using h0
     have HC2:=zq (fun (W:World) (h':RefH W mi q b c d e M G)=>(HCR.out W h').mono fun en W' (x:ygm W mi q b c d e M G _ en W')=>(show en=.returned (.tuple #[.int .i64 ((zae (za6 M) name).2.1:Nat),.int .i64 (zae (za6 M) name).1])∧RefH W' mi q b c d e M G∧Keeps (fun k=>k=b) W W' from by
      obtain⟨x1,x2,x3⟩:=x
      rw[zn h0] at x2
      exact⟨x1,x2,x3⟩))
     clear HCR h0 h122 h ho hnb hz hlo hrm hlk
     generalize (zae (za6 M) name).2.1=n at *
     generalize (zae (za6 M) name).1=E at *
     generalize zdy M=k at *
     go_enter Tryz.func26,Tryz.ntmps26
     go_wp2_with fail
     refine HC.out.mono ?_
     rintro e1 w1 ⟨rfl,k1⟩
     go_wp2_with fail
     refine(HNM.out _).mono ?_
     rintro e2 w2 ⟨rfl,rfl⟩
     go_wp2_with fail
     refine(HFR.out _ k1).mono ?_
     rintro e3 w3 ⟨rfl,k3⟩
     have K3:=zq (k1.trans k3)
     clear k1 k3 HC HNM HFR
     have HC3:=zq (HC2.out _ (H.out.keep K3.out (fun _ _ _ f=>f)))
     clear HC2 H
     go_wp2_with fail
     refine HC3.out.mono ?_
     rintro e4 w4 ⟨rfl,r4,k4⟩
     have D4:=zq ((((Th.refl w q b).quiet K3.out).same k4).dn r4)
     clear r4 k4 HC3 K3
     go_wp2_with fail
     go_ret2
     exact⟨rfl,D4.out⟩
end Hd
namespace Hd
open Go.RowKit Ex Ino Mm Fs
variable {w:World} {p gb mb:Nat} {G M:List UInt8}
def Low (M:List UInt8) (k:Nat):Prop:=k<4∧Upto M k∧isO M (k+1)=false
theorem znx (h:MemAt w p gb mb G M)(ho:okR (zab M))(k:Nat)(hk:Low M k):Calls Tryz.prog 50 #[.pointer (some ⟨p,0,none⟩)] w (zb0 w p gb mb G M (.tuple #[.int .i64 ((k:Int)+1),.int .i64 0])):=by
 refine(zoc h ho).mono ?_
 rintro e w' ⟨v,hv,hw⟩
 obtain⟨k4,ku,ko⟩:=hk
 have hkk:v=.tuple #[.int .i64 ((k:Int)+1),.int .i64 0]:=by
  rcases hv with⟨j,j4,ju,jo,rfl⟩|⟨ju,rfl⟩
  ·have:j=k:=by
    rcases Nat.lt_trichotomy j k with f | f | f
    ·have:=ku j f;rw[jo] at this;exact absurd this (by decide)
    ·exact f
    ·have:=ju k f;rw[ko] at this;exact absurd this (by decide)
   rw[this]
  ·have:=ju k k4
   rw[ko] at this
   exact absurd this (by decide)
 rw[← hkk]
 exact hw
set_option maxRecDepth 100000 in
theorem zu6 (h:MemAt w p gb mb G M)(ho:okR (zab M))(name:List UInt8)(hn:name.length≤9223372036854775807)(i:Nat)(hi:i<8)(hf:zku (zaa (zab M)) name=.tuple #[.int .i64 (i:Int),.int .i64 0])(k:Nat)(hk:Low M k):
  Calls Tryz.prog 18 #[.pointer (some ⟨p,0,none⟩),St name] w (zb0 w p gb mb G (zdb M (k+1) ((i:Int)+1) 0) (.tuple #[.int .i64 ((k:Int)+1),.int .i64 0])):=by
 have hff:=zmo (zci h) ho name hn
 rw[hf] at hff
 have HF:=zq hff
 have HC:Hid (∀ W,MemAt W p gb mb G M→Calls Tryz.prog 50 #[.pointer (some ⟨p,0,none⟩)] W (zb0 W p gb mb G M (.tuple #[.int .i64 ((k:Int)+1),.int .i64 0]))):=fun W hW=>znx hW ho k hk
 have k4:=hk.1
 have HL:Hid (∀ W,MemAt W p gb mb G M→Calls Tryz.prog 51 #[.pointer (some ⟨p,0,none⟩),.int .i64 ((k:Int)+1),.agg #[.int .i64 ((i:Int)+1),.int .i64 0]] W (zb0 W p gb mb G (zdb M (k+1) ((i:Int)+1) 0) (.tuple #[]))):=fun W hW=>by
  have:=zmf hW (k+1) (by omega) (by omega) ((i:Int)+1) 0
  rwa [show((k+1:Nat):Int)=(k:Int)+1 by omega] at this
 have hw:wrap64 ((i:Int)+1)=(i:Int)+1:=by unfold wrap64;omega
 clear h ho hf hk hff
 go_enter Tryz.func18,Tryz.ntmps18
 go_wp2_with fail
 refine HF.out.mono ?_
 rintro e w1 ⟨m1,k1,rfl⟩
 have H2:=zq (HC.out w1 m1)
 have K1:=zq (k1.mono fun _ _ e=>Or.inr e:Keeps (fun j=>j=p∨j=mb) w w1)
 clear m1 k1 HF HC
 go_wp2_with fail
 refine H2.out.mono ?_
 rintro e w2 ⟨rfl,m2,k2⟩
 have H3:=zq (HL.out w2 m2)
 have K2:=zq (K1.out.trans k2)
 clear m2 k2 H2 HL K1
 go_wp2_with fail
 try rw[hw]
 refine H3.out.mono ?_
 rintro e w3 ⟨rfl,m3,k3⟩
 have HG:Hid (zb0 w p gb mb G (zdb M (k+1) ((i:Int)+1) 0) (.tuple #[.int .i64 ((k:Int)+1),.int .i64 0]) (.returned (.tuple #[.int .i64 ((k:Int)+1),.int .i64 0])) w3):=⟨rfl,m3,K2.out.trans k3⟩
 clear m3 k3 H3 K2
 go_wp2_with fail
 go_ret2
 exact HG.out
set_option maxRecDepth 100000 in
theorem yat (h:MemAt w p gb mb G M)(ho:okR (zab M))(hT:Tab w)(hmb:mb≠0)(hp:p≠0)(name:List UInt8)(hn:name.length≤9223372036854775807)(hf:zku (zaa (zab M)) name=.tuple #[.int .i64 0,.int .i64 123])
  (i:Nat) (g1 g2:RG) (hc:zae ⟨zab M,zaa (zab M)⟩ name=(0,i,g1)) (M1 M2:List UInt8) (e1:zbx M 6144 (zad g1)=M1) (ho1:okR (zab M1)) (hr:zag ⟨zab M1,zaa (zab M1)⟩ (i:Int) 0=(0,g2)) (e2:zbx M1 6144 (zad g2)=M2):
  Calls Tryz.prog 95 #[.pointer (some ⟨p,0,none⟩),St name] w (zb0 w p gb mb G M2 (.int .i64 0)):=by
 have hff:=zmo (zci h) ho name hn
 rw[hf] at hff
 have HF:=zq hff
 have HC:Hid (∀ W,MemAt W p gb mb G M→Calls Tryz.prog 127 #[.pointer (some ⟨p,0,none⟩),St name] W (zb0 W p gb mb G M1 (.tuple #[.int .i64 (i:Int),.int .i64 0]))):=fun W hW=>by
  have:=zmp hW ho name hn
  rw[hc] at this
  refine this.mono ?_
  rintro e w' ⟨rfl,m,k⟩
  rw[zp rfl,e1] at m
  exact⟨rfl,m,k⟩
 have HR:Hid (∀ W,MemAt W p gb mb G M1→Tab W→Calls Tryz.prog 81 #[.pointer (some ⟨p,0,none⟩),.int .i64 (i:Int),.int .i64 0] W (zb0 W p gb mb G M2 (.int .i64 0))):=fun W hW hT=>by
  have:=zig hW ho1 hT hmb (i:Int) 0
  rw[hr] at this
  refine this.mono ?_
  rintro e w' ⟨rfl,m,k⟩
  rw[zp rfl,e2] at m
  exact⟨rfl,m,k⟩
 have HT:=zq hT
 clear h ho hf hff hc e1 ho1 hr e2 hT
 go_enter Tryz.func95,Tryz.ntmps95
 go_wp2_with fail
 refine HF.out.mono ?_
 rintro e w1 ⟨m1,k1,rfl⟩
 have H2:=zq (HC.out w1 m1)
 have K1:=zq (k1.mono fun _ _ e=>Or.inr e:Keeps (fun j=>j=p∨j=mb) w w1)
 clear m1 k1 HF HC
 go_wp2_with fail
 refine H2.out.mono ?_
 rintro e w2 ⟨rfl,m2,k2⟩
 have kk:=K1.out.trans k2
 have H3:=zq (HR.out w2 m2 (HT.out.keep (kk.block 0 HT.out.pos (by omega))))
 have K2:=zq kk
 clear m2 k2 H2 HR K1 kk
 go_wp2_with fail
 refine H3.out.mono ?_
 rintro e w3 ⟨rfl,m3,k3⟩
 have HG:Hid (zb0 w p gb mb G M2 (.int .i64 0) (.returned (.int .i64 0)) w3):=⟨rfl,m3,K2.out.trans k3⟩
 clear m3 k3 H3 K2
 go_wp2_with fail
 go_ret
 exact HG.out
set_option maxRecDepth 100000 in
theorem zxd (h:MemAt w p gb mb G M)(ho:okR (zab M))(hT:Tab w)(hmb:mb≠0)(hp:p≠0)(name:List UInt8)(hn:name.length≤1000000)(hnm:zbg name=true)(hf:zku (zaa (zab M)) name=.tuple #[.int .i64 0,.int .i64 123])
  (i:Nat) (hi:i<8) (g1 g2:RG) (hc:zae ⟨zab M,zaa (zab M)⟩ name=(0,i,g1)) (M1 M2:List UInt8) (e1:zbx M 6144 (zad g1)=M1) (ho1:okR (zab M1)) (hr:zag ⟨zab M1,zaa (zab M1)⟩ (i:Int) 0=(0,g2)) (e2:zbx M1 6144 (zad g2)=M2)
  (ho2:okR (zab M2)) (hf2:zku (zaa (zab M2)) name=.tuple #[.int .i64 (i:Int),.int .i64 0]) (k0 k:Nat) (hk0:Low M k0) (hk:Low M2 k):
  Calls Tryz.prog 48 #[.pointer (some ⟨p,0,none⟩),St name] w (zb0 w p gb mb G (zdb M2 (k+1) ((i:Int)+1) 0) (.tuple #[.int .i64 ((k:Int)+1),.int .i64 0])):=by
 have HCK:=zq (zhp (zci h))
 have HO:=zq ho
 have HNM:Hid (∀ W,Calls Tryz.prog 94 #[St name] W (zcx W (.bool true))):=fun W=>by rw[← hnm];exact zfm name W (by omega)
 have HCL:Hid (∀ W,MemAt W p gb mb G M→Calls Tryz.prog 50 #[.pointer (some ⟨p,0,none⟩)] W (zb0 W p gb mb G M (.tuple #[.int .i64 ((k0:Int)+1),.int .i64 0]))):=fun W hW=>znx hW ho k0 hk0
 have HE:Hid (∀ W,MemAt W p gb mb G M→Tab W→Calls Tryz.prog 95 #[.pointer (some ⟨p,0,none⟩),St name] W (zb0 W p gb mb G M2 (.int .i64 0))):=fun W hW hT=>yat hW ho hT hmb hp name (by omega) hf i g1 g2 hc M1 M2 e1 ho1 hr e2
 have HOP:Hid (∀ W,MemAt W p gb mb G M2→Calls Tryz.prog 18 #[.pointer (some ⟨p,0,none⟩),St name] W (zb0 W p gb mb G (zdb M2 (k+1) ((i:Int)+1) 0) (.tuple #[.int .i64 ((k:Int)+1),.int .i64 0]))):=fun W hW=>zu6 hW ho2 name (by omega) i hi hf2 k hk
 have HT:=zq hT
 generalize zdb M2 (k+1) ((i:Int)+1) 0=M3 at *
 clear h ho hf hc e1 ho1 hr e2 hT ho2 hf2 hk0 hk
 go_enter Tryz.func48,Tryz.ntmps48
 go_wp2_with fail
 refine HCK.out.mono ?_
 rintro e w1 ⟨m1,k1,⟨-,rfl⟩|⟨hno,-⟩⟩
 rotate_left
 ·exact absurd HO.out hno
 have M1':=zq m1
 have K1:=zq (k1.mono fun _ _ e=>Or.inr e:Keeps (fun j=>j=p∨j=mb) w w1)
 clear m1 k1 HCK
 go_wp2_with fail
 refine(HNM.out w1).mono ?_
 rintro e w2 ⟨rfl,b2⟩
 have kb:Keeps (fun _=>False) w1 w2:=zac b2
 have H3:=zq (HCL.out w2 (M1'.out.keep kb (fun f=>f) (fun f=>f) (fun f=>f)))
 have K2:=zq (K1.out.trans (kb.mono fun _ _ f=>f.elim))
 clear b2 kb M1' K1 HNM HCL
 go_wp2_with fail
 refine H3.out.mono ?_
 rintro e w3 ⟨rfl,m3,k3⟩
 have kk:=K2.out.trans k3
 have H4:=zq (HE.out w3 m3 (HT.out.keep (kk.block 0 HT.out.pos (by omega))))
 have K3:=zq kk
 clear m3 k3 kk K2 H3 HE
 go_wp2_with fail
 refine H4.out.mono ?_
 rintro e w4 ⟨rfl,m4,k4⟩
 have H5:=zq (HOP.out w4 m4)
 have K4:=zq (K3.out.trans k4)
 clear m4 k4 K3 H4 HOP
 go_wp2_with fail
 refine H5.out.mono ?_
 rintro e w5 ⟨rfl,m5,k5⟩
 have HG:Hid (zb0 w p gb mb G M3 (.tuple #[.int .i64 ((k:Int)+1),.int .i64 0]) (.returned (.tuple #[.int .i64 ((k:Int)+1),.int .i64 0])) w5):=⟨rfl,m5,K4.out.trans k5⟩
 clear m5 k5 H5 K4
 go_wp2_with fail
 go_ret2
 exact HG.out
end Hd
namespace Hd
open Go.RowKit Ex Ino Mm Fs
theorem ye7 (M:List UInt8)(hm:M.length=8192):zdo M=M:=by unfold zdo;exact zqz M hm
def MadeC (w:World) (M:List UInt8) (e:Ending) (w':World):Prop:=∃ p gb mb,e=.returned (.pointer (some ⟨p,0,none⟩))∧(w.heap.size≤p∧w.heap.size≤mb)∧MemAt w' p gb mb M M∧Keeps (fun _=>False) w w'
theorem yd4 (w:World)(M X:List UInt8)(hx:X=M)(e:Ending)(w':World)(h:∃ p gb mb,e=.returned (.pointer (some ⟨p,0,none⟩))∧w.heap.size≤p∧w.heap.size≤gb∧w.heap.size≤mb∧MemAt w' p gb mb X X∧Keeps (fun _=>False) w w'):MadeC w M e w':=by
 subst hx
 obtain⟨p,gb,mb,he,h1,h2,h3,hm,hk⟩:=h
 exact⟨p,gb,mb,he,⟨h1,h3⟩,hm,hk⟩
theorem zj4 (g:Nat)(M:List UInt8)(c:Nat)(w:World)(hm:M.length=8192)(hx:BR w w.heap.size (some ⟨g,0,none⟩) M):Calls Tryz.prog 7 #[.slice (some ⟨g,0,none⟩) M.length c] w (MadeC w M):=
 (zmb (some ⟨g,0,none⟩) M c w hx).mono fun e w' h=>yd4 w M (zdo M) (ye7 M hm) e w' h
variable {w:World} {p gb mb:Nat} {G M:List UInt8}
set_option maxRecDepth 100000 in
theorem zxh (h:MemAt w p gb mb G M)(ho:okR (zab M))(hT:Tab w)(hmb:mb≠0)(hp:p≠0)(name:List UInt8)(hn:name.length≤1000000)(hnm:zbg name=true)(hf:zku (zaa (zab M)) name=.tuple #[.int .i64 0,.int .i64 123])
  (i:Nat) (hi:i<8) (g1 g2:RG) (hc:zae ⟨zab M,zaa (zab M)⟩ name=(0,i,g1)) (M1 M2:List UInt8) (e1:zbx M 6144 (zad g1)=M1) (ho1:okR (zab M1)) (hr:zag ⟨zab M1,zaa (zab M1)⟩ (i:Int) 0=(0,g2)) (e2:zbx M1 6144 (zad g2)=M2)
  (ho2:okR (zab M2)) (hf2:zku (zaa (zab M2)) name=.tuple #[.int .i64 (i:Int),.int .i64 0]) (k0 k:Nat) (hk0:Low M k0) (hk:Low M2 k):
  Calls Tryz.prog 17 #[.pointer (some ⟨p,0,none⟩),St name] w (zb0 w p gb mb G (zdb M2 (k+1) ((i:Int)+1) 0) (.tuple #[.int .i64 ((k:Int)+1),.int .i64 0])):=by
 have ml:=h.ml
 have HC:Hid (∀ W p gb mb G,MemAt W p gb mb G M→Tab W→mb≠0→p≠0→Calls Tryz.prog 48 #[.pointer (some ⟨p,0,none⟩),St name] W (zb0 W p gb mb G (zdb M2 (k+1) ((i:Int)+1) 0) (.tuple #[.int .i64 ((k:Int)+1),.int .i64 0]))):=fun W p gb mb G hW hT hmb hp=>zxd hW ho hT hmb hp name hn hnm hf i hi g1 g2 hc M1 M2 e1 ho1 hr e2 ho2 hf2 k0 k hk0 hk
 have HB:=zq (zmc h)
 have HT:=zq hT
 have LT:=zq h.lt
 generalize zdb M2 (k+1) ((i:Int)+1) 0=M3 at *
 clear h ho hf hc e1 ho1 hr e2 hT ho2 hf2 hk0 hk
 go_enter Tryz.func17,Tryz.ntmps17
 go_wp2_with fail
 refine HB.out.mono ?_
 rintro e w1 ⟨g,rfl,hg,hr,hm,hk⟩
 have hl:=LT.out
 have hT1:=HT.out.keep (hk.block 0 HT.out.pos (by omega))
 have s1:=hk.size
 have hfl:=zj4 g M M.length w1 ml hr.br
 rw[ml] at hfl
 have HFL:=zq hfl
 have HM1:=zq hm
 have K1:Hid (Keeps (fun j=>j=p∨j=mb) w w1):=hk.mono fun _ _ e=>Or.inr e
 have HT1:=zq hT1
 have S1:=zq s1
 have hp1:=hT1.pos
 clear hr hm hk hT1 s1 HB hfl
 go_wp2_with fail
 refine HFL.out.mono ?_
 rintro e w2 ⟨q,gq,mq,rfl,⟨q1,q3⟩,hq,kq⟩
 have hT2:=HT1.out.keep (kq.block 0 hp1 (fun f=>f))
 have s1:=S1.out
 have HM2:=zq (HM1.out.keep kq (fun f=>f) (fun f=>f) (fun f=>f))
 have K2:Hid (Keeps (fun j=>j=p∨j=mb) w w2):=K1.out.trans (kq.mono fun _ _ f=>f.elim)
 have H3:=zq (HC.out w2 q gq mq M hq hT2 (by omega) (by omega))
 have HT2:=zq hT2
 have QQ:Hid (w.heap.size≤q∧w.heap.size≤mq∧w1.heap.size≤q∧w1.heap.size≤mq):=⟨by omega,by omega,q1,q3⟩
 have hp2:=hT2.pos
 clear hq kq hT2 HFL HM1 K1 HT1 S1 q1 q3 s1
 go_wp2_with fail
 refine H3.out.mono ?_
 rintro e w3 ⟨rfl,m3,k3⟩
 have qq:=QQ.out
 have hT3:=HT2.out.keep (k3.block 0 hp2 (by omega))
 have HM3:=HM2.out.keep k3 (fun f=>by omega) (fun f=>by omega) (fun f=>by omega)
 have H4:=zq (HC.out w3 p gb mb G HM3 hT3 hmb hp)
 have K3:Hid (Keeps (fun j=>j=p∨j=mb) w w3):=Keeps.thru K2.out k3 (fun _ _ f=>f) (fun i hi e=>by omega)
 clear m3 k3 hT3 HM3 HM2 K2 HT2 H3 HC
 go_wp2_with fail
 refine H4.out.mono ?_
 rintro e w4 ⟨rfl,m4,k4⟩
 have HG:Hid (zb0 w p gb mb G M3 (.tuple #[.int .i64 ((k:Int)+1),.int .i64 0]) (.returned (.tuple #[.int .i64 ((k:Int)+1),.int .i64 0])) w4):=⟨rfl,m4,K3.out.trans k4⟩
 clear m4 k4 H4 K3
 go_wp2_with fail
 go_ret2
 exact HG.out
end Hd
end Go.Proofs.YtdopfpcjpjlkmaaGreatDoor
