/- merged -/
import Derived.Test.YtdopfpcjpjlkmaaGreatDoorGHb
import Derived.Test.YtdopfpcjpjlkmaaGreatDoorInREncN
import Derived.Test.YtdopfpcjpjlkmaaGreatDoorExRNew
set_option maxHeartbeats 2000000
set_option linter.unusedSimpArgs false
set_option linter.unusedVariables false
namespace Go.Proofs.YtdopfpcjpjlkmaaGreatDoor
namespace Fr
open Go.RowKit Ex Ino Mm Fs
variable {w:World} {mi q b c d e:Nat} {M G:List UInt8}
def RChg (w:World) (mi q b c d e:Nat) (M G:List UInt8) (v:Value) (E:Int) (g:RG) (en:Ending) (w':World):Prop:=
 en=.returned v∧RefH w' mi q b c d e (if E=0 then zbx M 6144 (zad g) else M) G∧Keeps (fun k=>k=b) w w'
theorem RChg.none {w':World} {v:Value} {E:Int} {g:RG} (h:RefH w mi q b c d e M G)(k:Keeps (fun _=>False) w w')(hE:E≠0):RChg w mi q b c d e M G v E g (.returned v) w':=by
 refine⟨rfl,?_,k.mono fun _ _ f=>f.elim⟩
 rw[zn hE]
 exact h.keep k fun _ _ _ f=>f
def zkw (w:World) (v:Value) (en:Ending) (w':World):Prop:=en=.returned v∧Keeps (fun _=>False) w w'
theorem zvy {ns ms:List IN}:∀ {n:Nat},(∀ i,i<n→za4 (at' ms i).ext=za4 (at' ns i).ext)→zdl ms n=zdl ns n
 | 0,_=>rfl
 | n+1,h=>by
  unfold zdl
  rw[zvy fun i hi=>h i (by omega),h n (by omega)]
theorem zcq {ns:List IN} {i j:Nat} (x:IN)(hi:i<ns.length):at' (ns.set i x) j=if j=i then x else at' ns j:=by
 unfold at'
 by_cases hj:j=i
 ·subst hj
  rw[zp rfl,List.getD_eq_getElem?_getD,List.getElem?_set_self hi]
  rfl
 ·rw[zn hj,List.getD_eq_getElem?_getD,List.getElem?_set_ne (by omega),← List.getD_eq_getElem?_getD]
theorem yfr {ns:List IN} (hb:yi3 ns){i:Nat} (hi:i<ns.length)(x:IN)(hx:x.name=[]→za4 x.ext=[]):yi3 (ns.set i x):=fun j hf=>by
 rw[zcq x hi] at hf ⊢
 by_cases hj:j=i
 ·rw[zp hj] at hf ⊢
  exact hx (by simpa [isF] using hf)
 ·rw[zn hj] at hf ⊢
  exact hb j hf
theorem ztx {ns:List IN} (hb:yi3 ns){i:Nat} (hi:i<ns.length)(x:IN)(hx:x.name=[]→za4 x.ext=[])(he:za4 x.ext=za4 (at' ns i).ext):zao (ns.set i x)=zao ns:=by
 rw[← zir hb,← zir (yfr hb hi x hx),zvy fun j hj=>?_]
 rw[zcq x hi]
 by_cases e:j=i
 ·rw[zp e,e,he]
 ·rw[zn e]
def ygm (w:World) (mi q b c d e:Nat) (M G:List UInt8) (cv:Int × Nat × RG) (en:Ending) (w':World):Prop:=
 RChg w mi q b c d e M G (.tuple #[.int .i64 (cv.2.1:Nat),.int .i64 cv.1]) cv.1 cv.2.2 en w'
def CrL (w:World) (mi q b c d e:Nat) (M G:List UInt8) (ns:List IN) (w1:World) (g:Nat) (iv:Value) (wr:World):Prop:=
 ∃ m,g=8-m∧m≤8∧iv=.int .i64 (m:Int)∧(∀ j,j<m→(at' ns j).name≠[])∧Below w1.heap.size w1 wr
theorem yhy {ns:List IN} {m:Nat} (hm:m<8)(h0:(at' ns m).name=[])(h:∀ j,j<m→(at' ns j).name≠[]):zg7 ns=some m:=by
 unfold zg7
 rw[List.find?_range_eq_some]
 exact⟨by simpa using h0,by simpa using hm,fun j hj=>by simpa using h j hj⟩
theorem zs5 {ns:List IN} (h:∀ j,j<8→(at' ns j).name≠[]):zg7 ns=none:=by
 unfold zg7
 rw[List.find?_range_eq_none]
 exact fun j hj=>by simpa using h j hj
theorem ybs {g:RG} {name:List UInt8} {m:Nat} (ha:za2 g.ns name=0)(hf:zg7 g.ns=some m)(h0:at' g.ns m=in0):zae g name=(0,m,⟨g.bs,g.ns.set m ⟨name,0,[]⟩⟩):=by
 unfold zae
 rw[zp ha,hf]
 simp only[h0]
 rfl
theorem ybr {g:RG} {name:List UInt8} (ha:za2 g.ns name=0)(hf:zg7 g.ns=none):zae g name=(124,0,g):=by
 unfold zae
 rw[zp ha,hf]
theorem yir {bs:List UInt8} {i:Nat} (hi:i<8)(h:(at' (zaa bs) i).name=[]):at' (zaa bs) i=in0:=by
 rw[zbw _ hi] at h ⊢
 rcases zij (zaw bs (1+i)) with h1 | h1
 ·exact h1
 ·have:=(zck h1).1.1
  rw[h] at this
  simp at this
set_option maxRecDepth 100000 in
theorem zsj (h:RefH w mi q b c d e M G)(ho:okR (zab M))(name:List UInt8)(hl:name.length≤9223372036854775807):
  Calls Tryz.prog 68 #[.pointer (some ⟨q,0,none⟩),St name] w (ygm w mi q b c d e M G (zae ⟨zab M,zaa (zab M)⟩ name)):=by
 have HF:=zq (zfa h name hl)
 have HO:=zq ho
 have H:=zq h
 clear h ho
 go_enter Tryz.func68,Tryz.ntmps68
 go_wp2_with fail
 refine HF.out.mono ?_
 rintro en w1 ⟨k1,⟨-,rfl⟩|⟨hno,-⟩⟩
 rotate_left
 ·exact absurd HO.out hno
 have H1:=zq (H.out.keep k1 fun _ _ _ f=>f)
 by_cases h0:za5 (zaa (zab M)) name=0
 ·have hE:zae ⟨zab M,zaa (zab M)⟩ name=(122,0,⟨zab M,zaa (zab M)⟩):=by
   have:za2 (zaa (zab M)) name=122:=by unfold za2;rw[zp h0]
   unfold zae
   rw[zn (by show za2 (zaa (zab M)) name≠0;rw[this];decide)]
   show(za2 (zaa (zab M)) name,0,_)=_
   rw[this]
  rw[h0]
  have HG:Hid (ygm w mi q b c d e M G (zae ⟨zab M,zaa (zab M)⟩ name) (.returned (.tuple #[.int .i64 0,.int .i64 122])) w1):=by rw[hE];exact RChg.none H.out k1 (E:=122) (by decide)
  clear k1 HF H1 hE h0
  go_wp2_with fail
  go_ret2
  exact HG.out
 by_cases h1:za5 (zaa (zab M)) name=123
 case neg =>
  have hE:zae ⟨zab M,zaa (zab M)⟩ name=(za5 (zaa (zab M)) name,0,⟨zab M,zaa (zab M)⟩):=by
   have:za2 (zaa (zab M)) name=za5 (zaa (zab M)) name:=by unfold za2;rw[zn h0,zn h1]
   unfold zae
   rw[zn (by show za2 (zaa (zab M)) name≠0;rw[this];exact h0)]
   show(za2 (zaa (zab M)) name,0,_)=_
   rw[this]
  have HG:Hid (ygm w mi q b c d e M G (zae ⟨zab M,zaa (zab M)⟩ name) (.returned (.tuple #[.int .i64 0,.int .i64 (za5 (zaa (zab M)) name)])) w1):=by rw[hE];exact RChg.none H.out k1 h0
  have t1:(za5 (zaa (zab M)) name==0)=false:=by simp[h0]
  have t2:(za5 (zaa (zab M)) name != 123)=true:=by simp[h1]
  clear k1 HF H1 hE h0 h1 HO H
  generalize zae ⟨zab M,zaa (zab M)⟩ name=cv at *
  generalize za5 (zaa (zab M)) name=E at *
  go_wp2_with fail
  go_ret2
  exact HG.out
 have hab:za2 (zaa (zab M)) name=0:=by unfold za2;rw[zn h0,zp h1]
 rw[h1]
 have HT:=zq (zhi H1.out)
 have K1:=zq k1
 have HAB:=zq hab
 clear k1 HF h0 h1 hab
 go_wp2_with fail
 refine HT.out.mono ?_
 rintro en w2 ⟨k2,⟨-,R,cap,ls,rfl,hls,hm,ht⟩|⟨hno,-⟩⟩
 rotate_left
 ·exact absurd HO.out hno
 have H2:=zq (H1.out.keep k2 fun _ _ _ f=>f)
 have K2:=zq (K1.out.trans k2)
 have HTT:=zq ht
 have hmap:ls.map (·.x)=(zaa (zab M)).take 8:=by rw[hm,List.take_of_length_le (by rw[zbp];omega)]
 clear k2 ht HT hm
 go_wp2_with fail
 have HC0:Hid (CrL w mi q b c d e M G (zaa (zab M)) w2 8 (.int .i64 0) w2):=⟨0,by omega,by omega,rfl,fun j hj=>absurd hj (by omega),Below.refl _ _⟩
 go_loopg [11,12,34] 8 (fun g _ _ k wr=>CrL w mi q b c d e M G (zaa (zab M)) w2 g k wr)
 case atStart=>exact HC0.out
 case round =>
  obtain⟨m,rfl,hm,rfl,hnm,bq⟩:=hrel
  clear HC0
  by_cases hml:m<8
  ·obtain⟨gl,rfl,ca0,ca1,ca2⟩:=(HTT.out.keep (F:=fun _=>False) (zac bq) fun _ _ _ f=>f).own.at_ (k:=m) (by omega)
   have hyx:=zuv hmap (by omega:m<ls.length) hls
   have d1:decide ((m:Int)<8)=true:=by simp only[decide_eq_true_eq];omega
   have p0:(0:Int)≤m:=by omega
   have p1:(m:Int)<8:=by omega
   have q3:IntKind.i64.wrap ((m:Int)+1)=(m:Int)+1:=by rw[IntKind.wrap_i64];omega
   have q4:IntKind.i64.wrap (1+(m:Int))=1+(m:Int):=by rw[IntKind.wrap_i64];omega
   generalize ls[m]=y at *
   have ba:=(Below.refl wr.heap.size wr).alloc (Nat.le_refl _) (.cells #[St y.x.name,.int .i64 y.x.size,.slice y.R y.x.ext.length y.c] 113)
   have hst:=zkj y.x.name []
   by_cases heq:y.x.name=[]
   ·have e2:decide (y.x.name=[])=true:=by simp[heq]
    have e3:(y.x.name==[])=true:=by simp[heq]
    have e4:((⟨y.x.name.toArray⟩:ByteArray).toList==(⟨#[]⟩:ByteArray).toList)=true:=by rw[zon,zkj];simp[heq]
    have hem:y.x.name.isEmpty=true:=by simp[heq]
    have h0:(at' (zaa (zab M)) m).name=[]:=by rw[← hyx];exact heq
    have hz:=yir hml h0
    have hab:=HAB.out
    have hnb:=(absent_zero.1 hab).1
    have hchk:=ybz hnb
    have hval:=ybs (g:=⟨zab M,zaa (zab M)⟩) hab (yhy hml h0 hnm) hz
    have kk:=(K2.out.trans (zac bq)).trans (zac ba)
    have hrf:=H.out.keep kk fun _ _ _ f=>f
    generalize hwb:wr.alloc (.cells #[St y.x.name,.int .i64 y.x.size,.slice y.R y.x.ext.length y.c] 113)=wb at *
    have hen:Calls Tryz.prog 90 #[.agg #[St name,.int .i64 0,.slice none 0 0]] wb (zim wb ⟨name,0,[]⟩):=zgf ⟨name,0,[]⟩ none 0 wb ⟨XR.nil,by simp,zhu hab,by simp⟩
    have hlay:∀ W R cc,Own8 W wb.heap.size 5 R cc (zdr ⟨name,0,[]⟩)→Below wb.heap.size wb W→Calls Tryz.prog 24 #[.pointer (some ⟨q,0,none⟩),.int .i64 (1+(m:Int)),.slice R 64 cc] W (ygm w mi q b c d e M G (zae ⟨zab M,zaa (zab M)⟩ name) (.returned (.tuple #[.int .i64 (m:Int),.int .i64 0])) |> fun P en W'=>en=.returned (.tuple #[])∧P W'):=fun W R cc ho hb=>by
     have hM:M.length=8192:=H.out.bl
     have hw:=hrf.keep (zac (F:=fun _=>False) hb) fun _ _ _ f=>f
     have:=zoy (M:=M) (R:=zab M) (by rw[zj7 hM];exact hw) hM (zcz hM) (1+m) (by omega) R (zdr ⟨name,0,[]⟩) cc ho.br (Fr.RefH.own_ne hrf ho) (zay _)
     rw[zay,show((1+m:Nat):Int)=1+(m:Int) by omega] at this
     refine this.mono ?_
     rintro en W' ⟨rfl,h5,k5⟩
     refine⟨rfl,?_⟩
     rw[hval]
     refine⟨rfl,?_,(Keeps.mono ((kk.trans (zac hb))) (fun _ _ f=>f.elim)).trans k5⟩
     rw[zp rfl,← zrn (zcz hM) HO.out hml ⟨name,0,[]⟩ (ztx (zji _) (by rw[zbp];exact hml) _ (fun _=>rfl) (by rw[hz];rfl)),zf1 hchk]
     exact h5
    have HEN:=zq hen
    have HLAY:=zq hlay
    have HCHK:=zq hchk
    have HWB:=zq hwb
    clear hwb hyx hnm bq ba hz hab hnb hchk hval kk hrf hen hlay h0 HAB K2 H2 H1 K1 HTT hmap heq hst hem
    go_wp2_with fail
    rw[HWB.out]
    refine HEN.out.mono ?_
    rintro en w5 (hbad | ⟨Re,ce,rfl,own5,b5⟩)
    ·rw[HCHK.out] at hbad;cases hbad
    have HL:=zq (HLAY.out w5 Re ce own5 b5)
    clear own5 b5 HLAY HEN HCHK HWB
    go_wp2_with fail
    refine HL.out.mono ?_
    rintro en w6 ⟨rfl,hg⟩
    have HG:=zq hg
    clear hg HL
    go_wp2_with fail
    go_ret2
    exact HG.out
   ·have e2:decide (y.x.name=[])=false:=by simp[heq]
    have e3:(y.x.name==[])=false:=by simp[heq]
    have e4:((⟨y.x.name.toArray⟩:ByteArray).toList==(⟨#[]⟩:ByteArray).toList)=false:=by rw[zon,zkj];simp[heq]
    have hem:y.x.name.isEmpty=false:=by cases hh:y.x.name with
     | nil=>exact absurd hh heq
     | cons _ _=>rfl
    have HR:Hid (CrL w mi q b c d e M G (zaa (zab M)) w2 (8-(m+1)) (.int .i64 ((m:Int)+1)) (wr.alloc (.cells #[St y.x.name,.int .i64 y.x.size,.slice y.R y.x.ext.length y.c] 113))):=⟨m+1,rfl,by omega,by rw[Int.natCast_add];rfl,fun j hj=>by
      by_cases e:j=m
      ·subst e
       rw[← hyx]
       exact heq
      ·exact hnm j (by omega),bq.trans (ba.mono bq.size)⟩
    clear hyx hnm bq ba heq hst
    go_wp2_with fail
    go_roundg (8-(m+1))
    case rel=>exact HR.out
    case measure=>omega
  ·obtain rfl:m=8:=by omega
   have hval:=ybr (g:=⟨zab M,zaa (zab M)⟩) HAB.out (zs5 hnm)
   have HG:Hid (ygm w mi q b c d e M G (zae ⟨zab M,zaa (zab M)⟩ name) (.returned (.tuple #[.int .i64 0,.int .i64 124])) wr):=by rw[hval];exact RChg.none H.out (K2.out.trans (zac bq)) (E:=124) (by decide)
   clear hnm bq hval
   go_wp2_with fail
   go_ret2
   exact HG.out
end Fr
namespace Fr
open Go.RowKit Ex Ino Mm Fs
variable {w:World} {mi q b c d e:Nat} {M G:List UInt8}
def zm4 (w:World) (mi q b c d e:Nat) (M G:List UInt8) (rv:Int × RG) (en:Ending) (w':World):Prop:=
 RChg w mi q b c d e M G (.int .i64 rv.1) rv.1 rv.2 en w'
theorem zyi {bs:List UInt8} (ho:okR bs){i:Nat} (hi:i<8)(hf:isF (at' (zaa bs) i)=true):zkv (zao (zaa bs)) (zb2 (za4 (at' (zaa bs) i).ext))=zao ((zaa bs).set i in0):=zjh fun k=>by
 have hr:=zbp bs
 have hap:=((zic bs).1 ho).2.1
 rw[zfn,Bool.eq_iff_iff,zer]
 simp only[Bool.and_eq_true,decide_eq_true_eq,Bool.not_eq_true',zbv,decide_eq_false_iff_not,zer]
 constructor
 ·rintro⟨⟨hk,j,hj,fj,hb⟩,hn⟩
  have hne:j≠i:=by rintro rfl;exact hn hb
  exact⟨j,hj,by rw[zcq _ (by omega),zn hne];exact fj,by rw[zcq _ (by omega),zn hne];exact hb⟩
 ·rintro⟨j,hj,fj,hb⟩
  rw[zcq _ (by omega)] at fj hb
  by_cases hne:j=i
  ·rw[zp hne] at hb;cases hb
  ·rw[zn hne] at fj hb
   exact⟨⟨((za3 _).2 k hb).2,j,hj,fj,hb⟩,fun hc=>(hap j i hj hi hne fj hf).2 k hb hc⟩
theorem nodeL0:zcf in0=List.replicate 64 0:=zi7
set_option maxRecDepth 100000 in
theorem zsh (h:RefH w mi q b c d e M G)(ho:okR (zab M))(name:List UInt8)(hl:name.length≤9223372036854775807):
  Calls Tryz.prog 85 #[.pointer (some ⟨q,0,none⟩),St name] w (zm4 w mi q b c d e M G (zbk ⟨zab M,zaa (zab M)⟩ name)):=by
 have HF:=zq (zfa h name hl)
 have HO:=zq ho
 have H:=zq h
 clear h ho
 go_enter Tryz.func85,Tryz.ntmps85
 go_wp2_with fail
 refine HF.out.mono ?_
 rintro en w1 ⟨k1,⟨-,rfl⟩|⟨hno,-⟩⟩
 rotate_left
 ·exact absurd HO.out hno
 have H1:=zq (H.out.keep k1 fun _ _ _ f=>f)
 by_cases h0:za5 (zaa (zab M)) name=0
 case neg =>
  have hE:zbk ⟨zab M,zaa (zab M)⟩ name=(za5 (zaa (zab M)) name,⟨zab M,zaa (zab M)⟩):=by
   unfold zbk
   rw[zn h0]
  have HG:Hid (zm4 w mi q b c d e M G (zbk ⟨zab M,zaa (zab M)⟩ name) (.returned (.int .i64 (za5 (zaa (zab M)) name))) w1):=by rw[hE];exact RChg.none H.out k1 h0
  have t1:(za5 (zaa (zab M)) name != 0)=true:=by simp[h0]
  clear k1 HF H1 hE h0 HO H
  generalize zbk ⟨zab M,zaa (zab M)⟩ name=cv at *
  generalize za5 (zaa (zab M)) name=E at *
  go_wp2_with fail
  go_ret
  exact HG.out
 obtain⟨hnb,i,hfi⟩:=findE_zero.1 h0
 obtain⟨hi8,hif,hin⟩:=zcp hfi
 have hN:zbi (zaa (zab M)) name=i:=by unfold zbi;rw[zn (by rw[hnb];decide),hfi];rfl
 have hval:zbk ⟨zab M,zaa (zab M)⟩ name=(0,⟨zab M,(zaa (zab M)).set i in0⟩):=by
  unfold zbk
  rw[zp h0]
  show((0:Int),_)=_
  rw[hN]
 have hne:(at' (zaa (zab M)) i).name≠[]:=by simpa [isF] using hif
 have hE:za1 (zaa (zab M)) (i:Int)=0:=by unfold za1;rw[zn (by omega),show((i:Int)).toNat=i by omega,zn hne]
 have hX:za0 (zaa (zab M)) (i:Int)=at' (zaa (zab M)) i:=by unfold za0;rw[zp hE];rfl
 have hnd:=ze9 H1.out (i:Int) (by omega)
 have hl64:=zyi HO.out hi8 hif
 have HVAL:=zq hval
 have HAND:=zq hl64
 have HE:=zq hE
 have HX:=zq hX
 rw[h0,hN]
 have HND:=zq hnd
 have K1:=zq k1
 clear hval hl64 hnd HF hfi hin hnb hif hne h0 hN k1 hE hX H1
 have hmk:∀ w:World,(Instr.makeSlice 31 (.int .i64 64) (.int .i64 64)).run Tryz.prog w=.ok (.slice (some ⟨w.heap.size,0,none⟩) 64 64) (w.alloc (.cells (madeCells #[.int .u8 0] 64) 5)):=zfq 64 (by omega)
 go_wp2_with fail
 refine HND.out.mono ?_
 rintro en w2 ⟨k2,⟨-,R,cx,rfl,hx⟩|⟨hno,-⟩⟩
 rotate_left
 ·exact absurd HO.out hno
 rw[HE.out,HX.out,zp rfl]
 rw[HX.out] at hx
 have hfew:=(zgl (b:=zaw (zab M) (1+i)) (w:=w2) (R:=R) (by rw[← zbw _ hi8];exact hx)).few
 rw[← zbw _ hi8] at hfew
 obtain⟨wb,hwb⟩:∃ wb,wb=w2.alloc (.cells #[St (at' (zaa (zab M)) i).name,.int .i64 (at' (zaa (zab M)) i).size,.slice R (at' (zaa (zab M)) i).ext.length cx] 113):=⟨_,rfl⟩
 have k2b:Keeps (fun _=>False) w2 wb:=by rw[hwb];exact Keeps.alloc _ _ _
 have hbox:wb.heap[w2.heap.size]?=some (.cells #[St (at' (zaa (zab M)) i).name,.int .i64 (at' (zaa (zab M)) i).size,.slice R (at' (zaa (zab M)) i).ext.length cx] 113 (0,0)):=by rw[hwb];exact World.alloc_heap_new _ _
 have c2:wb.cell? ⟨w2.heap.size,2,none⟩=some (.slice R (at' (zaa (zab M)) i).ext.length cx):=by rw[cell_of_row _ _ _ _ _ _ hbox];rfl
 have kb:=(K1.out.trans k2).trans k2b
 have HBL:=zq (zcc R (at' (zaa (zab M)) i).ext cx wb (zez hx k2b fun _ _ _ f=>f) hfew)
 have HB:=zq (H.out.keep kb fun _ _ _ f=>f)
 have KB:=zq kb
 have hM:M.length=8192:=H.out.bl
 have hlb:=zcz hM
 have hlay1:∀ W,Keeps (fun _=>False) wb W→Calls Tryz.prog 24 #[.pointer (some ⟨q,0,none⟩),.int .i64 (1+(i:Int)),.slice (some ⟨W.heap.size,0,none⟩) 64 64] (W.alloc (.cells (madeCells #[.int .u8 0] 64) 5)) (yi2 (W.alloc (.cells (madeCells #[.int .u8 0] 64) 5)) mi q b c d e (zbx M 6144 (zau (zab M) (1+i) (zcf in0))) G):=fun W hW=>by
  have hw:=HB.out.keep (hW.trans (Keeps.alloc (fun _=>False) W (.cells (madeCells #[.int .u8 0] 64) 5))) fun _ _ _ f=>f
  have:=zoy (M:=M) (R:=zab M) (by rw[zj7 hM];exact hw) hM hlb (1+i) (by omega) (some ⟨W.heap.size,0,none⟩) (List.replicate 64 0) 64 (Row8.made W 64 5).br (fun ad e1 _=>by cases e1;have:=HB.out.lt;have:=hW.size;show W.heap.size≠b;omega) (by simp)
  rw[List.length_replicate,show((1+i:Nat):Int)=1+(i:Int) by omega] at this
  rw[nodeL0]
  exact this
 have hlay0:∀ W Rh ch,Own8 W W.heap.size 5 Rh ch (zb7 (zao ((zaa (zab M)).set i in0)))→True:=fun _ _ _ _=>trivial
 have HL1:=zq hlay1
 have hand:=zld (zao (zaa (zab M))) (zb2 (za4 (at' (zaa (zab M)) i).ext)) (zdi _) (za3 _).lt
 rw[HAND.out] at hand
 have hgood:=za3 (at' (zaa (zab M)) i).ext
 have HHD:=zq fun W=>zg0 (zao ((zaa (zab M)).set i in0)) (zdi _) W
 have HSET:=zq fun (R:Option Addr) (c:Nat) (W:World) (h:JR W R (za4 (at' (zaa (zab M)) i).ext))=>ziv R (za4 (at' (zaa (zab M)) i).ext) c W h hgood
 have HEND:=zq (zx4 hlb HO.out hi8 in0)
 have HLN:=zq (zei hlb (n:=1+i) (by omega) (zcn in0))
 have q4:IntKind.i64.wrap (1+(i:Int))=1+(i:Int):=by rw[IntKind.wrap_i64];omega
 have hlt2:w2.heap.size<wb.heap.size:=by rw[hwb,World.size_alloc];omega
 clear hlay1 hlay0 kb k2 hx hfew k2b hbox HAND hgood HND K1 HE HX
 generalize at' (zaa (zab M)) i=x at *
 generalize zao (zaa (zab M))=U at *
 generalize hU2:zao ((zaa (zab M)).set i in0)=U2 at *
 clear hU2
 go_wp2_with fail
 rw[← hwb]
 clear hwb
 go_wp2_with fail
 refine HBL.out.mono ?_
 rintro en w3 ⟨Rb,cb,rfl,own3,b3⟩
 have k3:Keeps (fun _=>False) wb w3:=zac b3
 have HL1':=zq (HL1.out w3 k3)
 have OW3:=zq own3
 have B3:=zq b3
 clear own3 b3 k3 HL1 HBL
 go_wp2_with fail
 refine HL1'.out.mono ?_
 rintro en w4 ⟨rfl,h4,k4⟩
 have bal:=(Below.refl w3.heap.size w3).alloc (Nat.le_refl _) (.cells (madeCells #[.int .u8 0] 64) 5)
 have own4:=zf0 (OW3.out.below bal) k4 fun ad e=>by
  have h1:=World.ownsRow.lt OW3.out ad.block (by rw[e];rfl)
  have h2:=HB.out.lt
  show ¬ad.block=b
  omega
 have kb4:Keeps (fun k=>k=b) w w4:=(((KB.out.trans (zac B3.out)).trans (zac bal)).mono fun _ _ f=>f.elim).trans k4
 have HS4:=zq (HSET.out Rb cb w4 (Ex.IR.jr own4.ir))
 have H4:=zq h4
 have K4:=zq kb4
 clear h4 k4 bal own4 kb4 HSET OW3 B3 HL1' KB HB
 go_wp2_with fail
 refine HS4.out.mono ?_
 rintro en w5 ⟨rfl,rfl⟩
 clear HS4
 go_wp2_with fail
 refine(HHD.out _).mono ?_
 rintro en w6 ⟨Rh,ch,rfl,own6,b6⟩
 have hl:=zoy (M:=M) (R:=zau (zab M) (1+i) (zcf in0)) (H4.out.keep (zac (F:=fun _=>False) b6) fun _ _ _ f=>f) hM HLN.out 0 (by omega) Rh (zb7 U2) ch own6.br (Fr.RefH.own_ne H4.out own6) (zbj _)
 have HL:=zq hl
 have K6:=zq (K4.out.trans (zac b6))
 clear hl own6 b6 HHD
 go_wp2_with fail
 refine HL.out.mono ?_
 rintro en w7 ⟨rfl,h7,k7⟩
 have HG:Hid (zm4 w mi q b c d e M G (zbk ⟨zab M,zaa (zab M)⟩ name) (.returned (.int .i64 0)) w7):=by
  rw[HVAL.out]
  refine⟨rfl,?_,K6.out.trans k7⟩
  rw[zp rfl]
  show RefH w7 mi q b c d e (zbx M 6144 (zad ⟨zab M,(zaa (zab M)).set i in0⟩)) G
  rw[← HEND.out]
  exact h7
 clear h7 k7 HL K6
 go_wp2_with fail
 go_ret
 exact HG.out
end Fr
namespace Fr
open Go.RowKit Ex Ino Mm Fs
variable {w:World} {mi q b c d e:Nat} {M G:List UInt8}
set_option maxRecDepth 100000 in
theorem zr7 (h:RefH w mi q b c d e M G)(ho:¬okR (zab M))(name to:List UInt8)(hl:name.length≤9223372036854775807):
  Calls Tryz.prog 41 #[.pointer (some ⟨q,0,none⟩),St name,St to] w (zkw w (.int .i64 120)):=by
 have HF:=zq (zfa h name hl)
 have HO:=zq ho
 clear h ho
 go_enter Tryz.func41,Tryz.ntmps41
 go_wp2_with fail
 refine HF.out.mono ?_
 rintro en w1 ⟨k1,⟨hok,-⟩|⟨-,rfl⟩⟩
 ·exact absurd hok HO.out
 have HG:Hid (zkw w (.int .i64 120) (.returned (.int .i64 120)) w1):=⟨rfl,k1⟩
 clear k1 HF HO
 go_wp2_with fail
 go_ret
 exact HG.out
theorem zj9 (ns:List IN)(name:List UInt8):(zbg name=false∧za5 ns name=121)∨(zbg name=true∧za5 ns name=0)∨(zbg name=true∧za5 ns name=123):=by
 unfold za5
 cases hn:zbg name with
 | false=>exact .inl ⟨rfl,by rw[zp rfl]⟩
 | true =>
  rw[zn (by decide)]
  by_cases h:(zdk ns name).isSome=true
  ·rw[zp h];exact .inr (.inl ⟨rfl,rfl⟩)
  ·rw[zn h];exact .inr (.inr ⟨rfl,rfl⟩)
set_option maxRecDepth 100000 in
theorem zr8 (h:RefH w mi q b c d e M G)(ho:okR (zab M))(name to:List UInt8)(hl:name.length≤9223372036854775807)(hl2:to.length≤9223372036854775807):
  Calls Tryz.prog 41 #[.pointer (some ⟨q,0,none⟩),St name,St to] w (zm4 w mi q b c d e M G (zbe ⟨zab M,zaa (zab M)⟩ name to)):=by
 have HF:=zq (zfa h name hl)
 have HO:=zq ho
 have H:=zq h
 clear h ho
 go_enter Tryz.func41,Tryz.ntmps41
 go_wp2_with fail
 refine HF.out.mono ?_
 rintro en w1 ⟨k1,⟨-,rfl⟩|⟨hno,-⟩⟩
 rotate_left
 ·exact absurd HO.out hno
 have H1:=zq (H.out.keep k1 fun _ _ _ f=>f)
 have HF2:=zq (zfa H1.out to hl2)
 rcases zj9 (zaa (zab M)) name with⟨hn,h0⟩ | hq
 ·have hE:zbe ⟨zab M,zaa (zab M)⟩ name to=(121,⟨zab M,zaa (zab M)⟩):=by
   unfold zbe
   rw[zp (.inl hn)]
  have HG:Hid (zm4 w mi q b c d e M G (zbe ⟨zab M,zaa (zab M)⟩ name to) (.returned (.int .i64 121)) w1):=by rw[hE];exact RChg.none H.out k1 (E:=121) (by decide)
  rw[h0]
  clear k1 HF H1 hE h0 HO H HF2
  generalize zbe ⟨zab M,zaa (zab M)⟩ name to=cv at *
  go_wp2_with fail
  go_ret
  exact HG.out
 have hn:zbg name=true:=by rcases hq with h | h<;>exact h.1
 have K1:=zq k1
 clear k1 HF
 rcases hq with⟨-,h0⟩|⟨-,h0⟩
 rotate_left
 ·rw[h0]
  go_wp2_with fail
  refine HF2.out.mono ?_
  rintro en w2 ⟨k2,⟨-,rfl⟩|⟨hno,-⟩⟩
  rotate_left
  ·exact absurd HO.out hno
  rcases zj9 (zaa (zab M)) to with⟨hm,h1⟩ | hq
  ·have hE:zbe ⟨zab M,zaa (zab M)⟩ name to=(121,⟨zab M,zaa (zab M)⟩):=by
    unfold zbe
    rw[zp (.inr hm)]
   have HG:Hid (zm4 w mi q b c d e M G (zbe ⟨zab M,zaa (zab M)⟩ name to) (.returned (.int .i64 121)) w2):=by rw[hE];exact RChg.none H.out (K1.out.trans k2) (E:=121) (by decide)
   rw[h1]
   clear k2 H1 hE h0 HO H HF2 K1
   go_wp2_with fail
   go_ret
   exact HG.out
  ·have hm:zbg to=true:=by rcases hq with h | h<;>exact h.1
   have hE:zbe ⟨zab M,zaa (zab M)⟩ name to=(123,⟨zab M,zaa (zab M)⟩):=by
    unfold zbe
    rw[zn (by rw[hn,hm];decide),zn (by rw[h0];decide),h0]
   have HG:Hid (zm4 w mi q b c d e M G (zbe ⟨zab M,zaa (zab M)⟩ name to) (.returned (.int .i64 123)) w2):=by rw[hE];exact RChg.none H.out (K1.out.trans k2) (E:=123) (by decide)
   rcases hq with⟨-,h1⟩|⟨-,h1⟩
   ·rw[h1]
    clear k2 H1 hE h0 HO H HF2 K1
    go_wp2_with fail
    go_ret
    exact HG.out
   ·rw[h1]
    clear k2 H1 hE h0 HO H HF2 K1
    go_wp2_with fail
    go_ret
    exact HG.out
 rw[h0]
 go_wp2_with fail
 refine HF2.out.mono ?_
 rintro en w2 ⟨k2,⟨-,rfl⟩|⟨hno,-⟩⟩
 rotate_left
 ·exact absurd HO.out hno
 have K2:=zq (K1.out.trans k2)
 clear k2 HF2
 rcases zj9 (zaa (zab M)) to with⟨hm,h1⟩|⟨hm,h1⟩|⟨hm,h1⟩
 ·have hE:zbe ⟨zab M,zaa (zab M)⟩ name to=(121,⟨zab M,zaa (zab M)⟩):=by
   unfold zbe
   rw[zp (.inr hm)]
  have HG:Hid (zm4 w mi q b c d e M G (zbe ⟨zab M,zaa (zab M)⟩ name to) (.returned (.int .i64 121)) w2):=by rw[hE];exact RChg.none H.out K2.out (E:=121) (by decide)
  rw[h1]
  clear H1 hE h0 HO H K1 K2
  go_wp2_with fail
  go_ret
  exact HG.out
 ·have ha:za2 (zaa (zab M)) to=122:=by unfold za2;rw[zp h1]
  have hE:zbe ⟨zab M,zaa (zab M)⟩ name to=(122,⟨zab M,zaa (zab M)⟩):=by
   unfold zbe
   rw[zn (by rw[hn,hm];decide),zp h0,zn (by rw[ha];decide),ha]
  have HG:Hid (zm4 w mi q b c d e M G (zbe ⟨zab M,zaa (zab M)⟩ name to) (.returned (.int .i64 122)) w2):=by rw[hE];exact RChg.none H.out K2.out (E:=122) (by decide)
  rw[h1]
  clear H1 hE h0 HO H K1 K2 ha
  go_wp2_with fail
  go_ret
  exact HG.out
 have ha:za2 (zaa (zab M)) to=0:=by unfold za2;rw[zn (by rw[h1];decide),zp h1]
 obtain⟨-,i,hfi⟩:=findE_zero.1 h0
 obtain⟨hi8,hif,hin⟩:=zcp hfi
 have hN:zbi (zaa (zab M)) name=i:=by unfold zbi;rw[zn (by rw[hn];decide),hfi];rfl
 have hval:zbe ⟨zab M,zaa (zab M)⟩ name to=(0,⟨zab M,(zaa (zab M)).set i { at' (zaa (zab M)) i with name:=to }⟩):=by
  unfold zbe
  rw[zn (by rw[hn,hm];decide),zp h0,zp ha]
  show((0:Int),_)=_
  rw[hN]
 have hne:(at' (zaa (zab M)) i).name≠[]:=by simpa [isF] using hif
 have hE:za1 (zaa (zab M)) (i:Int)=0:=by unfold za1;rw[zn (by omega),show((i:Int)).toNat=i by omega,zn hne]
 have hX:za0 (zaa (zab M)) (i:Int)=at' (zaa (zab M)) i:=by unfold za0;rw[zp hE];rfl
 have hchk0:zd6 (at' (zaa (zab M)) i)=true:=by
  rw[zbw _ hi8]
  rcases zij (zaw (zab M) (1+i)) with h | h
  ·rw[zbw _ hi8,h] at hif
   cases hif
  ·exact h
 have hchk:=zri hchk0 hm
 have hnd:=ze9 (H.out.keep K2.out fun _ _ _ f=>f) (i:Int) (by omega)
 have hM:M.length=8192:=H.out.bl
 have hlb:=zcz hM
 have hend:=zrn hlb HO.out hi8 { at' (zaa (zab M)) i with name:=to } (ztx (zji _) (by rw[zbp];exact hi8) _ (fun h=>absurd h (zi8 hm)) rfl)
 rw[zf1 hchk] at hend
 have hto:=zhu ha
 have HVAL:=zq hval
 have HEND:=zq hend
 have HE:=zq hE
 have HX:=zq hX
 rw[h1,hN]
 have HND:=zq hnd
 clear hval hend hnd hfi hin hn hm hif hne h0 h1 hN hE hX H1 K1 ha
 go_wp2_with fail
 refine HND.out.mono ?_
 rintro en w3 ⟨k3,⟨-,R,cx,rfl,hx⟩|⟨hno,-⟩⟩
 rotate_left
 ·exact absurd HO.out hno
 rw[HE.out,HX.out,zp rfl]
 rw[HX.out] at hx
 have hin:=zgl (b:=zaw (zab M) (1+i)) (w:=w3) (R:=R) (by rw[← zbw _ hi8];exact hx)
 rw[← zbw _ hi8] at hin
 clear HND HE HX
 obtain⟨ws,hws⟩:∃ ws,ws=w3.alloc (.cells #[St to,.int .i64 (at' (zaa (zab M)) i).size,.slice R (at' (zaa (zab M)) i).ext.length cx] 113):=⟨_,rfl⟩
 have b3:Below w3.heap.size w3 ws:=by
  rw[hws]
  exact(Below.refl _ _).alloc (Nat.le_refl _) _
 have kk:=(K2.out.trans k3).trans (zac (F:=fun _=>False) b3)
 have hen:Calls Tryz.prog 90 #[.agg #[St to,.int .i64 (at' (zaa (zab M)) i).size,.slice R (at' (zaa (zab M)) i).ext.length cx]] ws (zim ws { at' (zaa (zab M)) i with name:=to }):=
  zgf { at' (zaa (zab M)) i with name:=to } R cx ws ⟨(hin.below b3).xr,hin.few,hto,hin.size⟩
 have hrf:=H.out.keep kk fun _ _ _ f=>f
 have hlay:∀ W R cc,Own8 W ws.heap.size 5 R cc (zdr { at' (zaa (zab M)) i with name:=to })→Below ws.heap.size ws W→Calls Tryz.prog 24 #[.pointer (some ⟨q,0,none⟩),.int .i64 (1+(i:Int)),.slice R 64 cc] W (fun en W'=>en=.returned (.tuple #[])∧zm4 w mi q b c d e M G (zbe ⟨zab M,zaa (zab M)⟩ name to) (.returned (.int .i64 0)) W'):=fun W R cc ho hb=>by
  have hw:=hrf.keep (zac (F:=fun _=>False) hb) fun _ _ _ f=>f
  have:=zoy (M:=M) (R:=zab M) (by rw[zj7 hM];exact hw) hM hlb (1+i) (by omega) R _ cc ho.br (Fr.RefH.own_ne hrf ho) (zay _)
  rw[zay,show((1+i:Nat):Int)=1+(i:Int) by omega] at this
  refine this.mono ?_
  rintro en W' ⟨rfl,h5,k5⟩
  refine⟨rfl,?_⟩
  rw[HVAL.out]
  refine⟨rfl,?_,(Keeps.mono ((kk.trans (zac hb))) (fun _ _ f=>f.elim)).trans k5⟩
  rw[zp rfl]
  show RefH W' mi q b c d e (zbx M 6144 (zad ⟨zab M,(zaa (zab M)).set i { at' (zaa (zab M)) i with name:=to }⟩)) G
  rw[← HEND.out]
  exact h5
 have HEN:=zq hen
 have HLAY:=zq hlay
 have HCHK:=zq hchk
 have q4:IntKind.i64.wrap (1+(i:Int))=1+(i:Int):=by rw[IntKind.wrap_i64];omega
 clear hen hlay hchk b3 kk hrf hx hin k3 HVAL HEND hchk0 hto K2
 subst hws
 generalize zbe ⟨zab M,zaa (zab M)⟩ name to=rv at *
 go_wp2_with fail
 refine HEN.out.mono ?_
 rintro en w5 (hbad | ⟨Re,ce,rfl,own5,b5⟩)
 ·rw[HCHK.out] at hbad;cases hbad
 have HL:=zq (HLAY.out w5 Re ce own5 b5)
 clear own5 b5 HLAY HEN HCHK
 go_wp2_with fail
 refine HL.out.mono ?_
 rintro en w6 ⟨rfl,hg⟩
 have HG:=zq hg
 clear hg HL
 go_wp2_with fail
 go_ret
 exact HG.out
end Fr
namespace Fr
open Go.RowKit Ex Ino Mm Fs
def rzD (l:List EX) (u N:Nat):List EX × Nat × Int:=if (zaq l).length≤N then zcw l u ((N:Int)-(zaq l).length) else zbm l u N
theorem yay {l:List EX} (h:ok l=true)(u:Nat):zcw l u 0=(l,u,0):=by
 unfold zcw
 rw[zn (by rw[h];rintro(h | h);cases h;omega),zn (by omega)]
 simp[zc4,zb2]
theorem zwd {l:List EX} (h:ok l=true){u:Nat} (hu:u<4294967296):zbm l u (zaq l).length=(l,u,0):=by
 unfold zbm
 rw[zn (by rw[h];rintro(h | h | h);cases h;omega;omega),Int.toNat_natCast,List.take_length,List.drop_length,ybh h,zrv hu]
theorem yf3 {l:List EX} (h:ok l=true){u:Nat} (hu:u<4294967296)(hb:∀ b∈zaq l,u.testBit b=true){N:Nat} (he:zh1 l u N=0):(rzD l u N).1=zd8 l u N∧(rzD l u N).2.2=0:=by
 have hk:=(zjc h hb N).1 he
 unfold rzD zd8
 rw[zar h]
 by_cases h1:(zaq l).length<N
 ·rw[zp (by omega),zp h1,show((N:Int)-((zaq l).length:Int))=((N-(zaq l).length:Nat):Int) by omega]
  have:=(zph h hb hk).1
  rw[zp this]
  exact⟨rfl,this⟩
 rw[zn h1]
 by_cases h2:(zaq l).length≤N
 ·obtain rfl:N=(zaq l).length:=by omega
  rw[zp h2,show(((zaq l).length:Int)-((zaq l).length:Int))=0 by omega,yay h,zwd h hu]
  exact⟨rfl,rfl⟩
 ·rw[zn h2]
  exact⟨rfl,(zhf h u (m:=N) (by omega)).1⟩
theorem rzD_no {l:List EX} (h:ok l=true){u:Nat} (hu:u<4294967296)(hb:∀ b∈zaq l,u.testBit b=true){N:Nat} (he:zh1 l u N≠0):zh1 l u N=125∧(zaq l).length≤N∧(rzD l u N).2.2≠0:=by
 have h125:=(zve h hb N).resolve_left he
 have hk:¬N-(zaq l).length≤(zbh u).length:=fun hk=>he ((zjc h hb N).2 hk)
 refine⟨h125,by omega,?_⟩
 unfold rzD
 rw[zp (by omega),show((N:Int)-((zaq l).length:Int))=((N-(zaq l).length:Nat):Int) by omega,zq6 h (by omega)]
 decide
def rzN (l:List EX) (u N:Nat):List Nat:=(zbh u).take (N-(zaq l).length)
theorem zou {l:List EX} {u N b:Nat} (h:b∈rzN l u N):9≤b∧b<32∧u.testBit b=false:=by
 have:=frL_mem.1 (List.mem_of_mem_take h)
 exact⟨this.2.1,this.1,this.2.2⟩
theorem zt5 {bs:List UInt8} (ho:okR bs){i:Nat} (hi:i<8)(hf:isF (at' (zaa bs) i)=true)(hok:ok (at' (zaa bs) i).ext=true)(hb:∀ b∈zaq (at' (zaa bs) i).ext,(zao (zaa bs)).testBit b=true)(name:List UInt8)(hnm:name≠[])(size:Int){N:Nat}
  (he:zh1 (at' (zaa bs) i).ext (zao (zaa bs)) N=0):
  (rzD (at' (zaa bs) i).ext (zao (zaa bs)) N).2.1=zao ((zaa bs).set i ⟨name,size,zd8 (at' (zaa bs) i).ext (zao (zaa bs)) N⟩):=zjh fun k=>by
 have hr:=zbp bs
 have hap:=((zic bs).1 ho).2.1
 obtain⟨f1,f2,f3⟩:=zih hok hb he
 have hk:=(zjc hok hb N).1 he
 have hfO:za4 (zd8 (at' (zaa bs) i).ext (zao (zaa bs)) N)=_:=zar f1
 have hns:isF (⟨name,size,zd8 (at' (zaa bs) i).ext (zao (zaa bs)) N⟩:IN)=true:=by simp[isF,hnm]
 have hsub:(zaq (at' (zaa bs) i).ext).length≤N→((N:Int)-((zaq (at' (zaa bs) i).ext).length:Int))=((N-(zaq (at' (zaa bs) i).ext).length:Nat):Int):=fun h=>by omega
 have hg:(zaq (at' (zaa bs) i).ext).length≤N→(zcw (at' (zaa bs) i).ext (zao (zaa bs)) ((N-(zaq (at' (zaa bs) i).ext).length:Nat):Int)).2.1=zao (zaa bs) ||| zb2 (rzN (at' (zaa bs) i).ext (zao (zaa bs)) N):=fun h2=>by
  unfold zcw
  rw[zn (by rw[hok];rintro(h | h);cases h;omega),zn (by omega),Int.toNat_natCast]
  rfl
 have hsh:¬(zaq (at' (zaa bs) i).ext).length≤N→(zbm (at' (zaa bs) i).ext (zao (zaa bs)) (N:Int)).2.1=zkv (zao (zaa bs)) (zb2 ((zaq (at' (zaa bs) i).ext).drop N))∧rzN (at' (zaa bs) i).ext (zao (zaa bs)) N=[]:=fun h2=>by
  refine⟨?_,?_⟩
  ·unfold zbm
   rw[zn (by rw[hok];rintro(h | h | h);cases h;omega;omega),Int.toNat_natCast]
  ·unfold rzN
   rw[show N-(zaq (at' (zaa bs) i).ext).length=0 by omega,List.take_zero]
 have key:(zao ((zaa bs).set i ⟨name,size,zd8 (at' (zaa bs) i).ext (zao (zaa bs)) N⟩)).testBit k=true↔(k∈(zaq (at' (zaa bs) i).ext).take N∨k∈rzN (at' (zaa bs) i).ext (zao (zaa bs)) N)∨∃ j,j<8∧j≠i∧isF (at' (zaa bs) j)=true∧k∈za4 (at' (zaa bs) j).ext:=by
  rw[zer]
  constructor
  ·rintro⟨j,hj,fj,hb⟩
   rw[zcq _ (by omega)] at fj hb
   by_cases e:j=i
   ·rw[zp e,hfO,f3] at hb
    exact .inl (List.mem_append.1 hb)
   ·rw[zn e] at fj hb
    exact .inr ⟨j,hj,e,fj,hb⟩
  ·rintro(h | ⟨j,hj,e,fj,hb⟩)
   ·refine⟨i,hi,by rw[zcq _ (by omega),zp rfl];exact hns,?_⟩
    rw[zcq _ (by omega),zp rfl,hfO,f3]
    exact List.mem_append.2 h
   ·exact⟨j,hj,by rw[zcq _ (by omega),zn e];exact fj,by rw[zcq _ (by omega),zn e];exact hb⟩
 have old:(zao (zaa bs)).testBit k=true↔k∈zaq (at' (zaa bs) i).ext∨∃ j,j<8∧j≠i∧isF (at' (zaa bs) j)=true∧k∈za4 (at' (zaa bs) j).ext:=by
  rw[zer]
  constructor
  ·rintro⟨j,hj,fj,hj2⟩
   by_cases e:j=i
   ·rw[e,zar hok] at hj2
    exact .inl hj2
   ·exact .inr ⟨j,hj,e,fj,hj2⟩
  ·rintro(h | ⟨j,hj,_,fj,hb⟩)
   ·exact⟨i,hi,hf,by rw[zar hok];exact h⟩
   ·exact⟨j,hj,fj,hb⟩
 have other:∀ j,j<8→j≠i→isF (at' (zaa bs) j)=true→k∈za4 (at' (zaa bs) j).ext→k ∉ zaq (at' (zaa bs) i).ext:=fun j hj e fj hb hc=>(hap j i hj hi e fj hf).2 k hb (by rw[zar hok];exact hc)
 rw[Bool.eq_iff_iff,key]
 unfold rzD
 by_cases h2:(zaq (at' (zaa bs) i).ext).length≤N
 ·rw[zp h2,hsub h2]
  rw[hg h2,Nat.testBit_or,zbv,Bool.or_eq_true,decide_eq_true_eq,old,List.take_of_length_le h2]
  constructor
  ·rintro((h | h) | h)
   ·exact .inl (.inl h)
   ·exact .inr h
   ·exact .inl (.inr h)
  ·rintro((h | h) | h)
   ·exact .inl (.inl h)
   ·exact .inr h
   ·exact .inl (.inr h)
 ·rw[zn h2]
  obtain⟨e,en⟩:=hsh h2
  have hnd:=(zcr _ hok).1
  rw[e,zfn,zbv,en]
  simp only[Bool.and_eq_true,decide_eq_true_eq,Bool.not_eq_true',decide_eq_false_iff_not,old,List.not_mem_nil,or_false]
  have split:∀ a,a∈zaq (at' (zaa bs) i).ext↔a∈(zaq (at' (zaa bs) i).ext).take N∨a∈(zaq (at' (zaa bs) i).ext).drop N:=fun a=>by
   rw[← List.mem_append,List.take_append_drop]
  have disj:∀ a,a∈(zaq (at' (zaa bs) i).ext).take N→a ∉ (zaq (at' (zaa bs) i).ext).drop N:=fun a h1 h2=>by
   rw[← List.take_append_drop N (zaq (at' (zaa bs) i).ext)] at hnd
   exact(List.nodup_append.1 hnd).2.2 a h1 a h2 rfl
  constructor
  ·rintro⟨⟨hk32,h | h⟩,hn⟩
   ·exact .inl (((split k).1 h).resolve_right hn)
   ·exact .inr h
  ·rintro(h | ⟨j,hj,e,fj,hb⟩)
   ·exact⟨⟨((zcr _ hok).2 k ((split k).2 (.inl h))).2,.inl ((split k).2 (.inl h))⟩,disj k h⟩
   ·exact⟨⟨((za3 _).2 k hb).2,.inr ⟨j,hj,e,fj,hb⟩⟩,fun hc=>other j hj e fj hb ((split k).2 (.inr hc))⟩
end Fr
namespace Fr
open Go.RowKit Ex Ino Mm Fs
def zlh (bs:List UInt8) (bl:List Nat) (k:Nat):List UInt8:=zdv bs bl (List.replicate (64*bl.length) 0) k
theorem zl4 {n k:Nat} (h:64*(k+1)≤n):zaw (List.replicate n (0:UInt8)) k=List.replicate 64 0:=by
 unfold zaw
 rw[List.drop_replicate,List.take_replicate]
 congr 1
 omega
theorem zv5 {bs:List UInt8} {bl:List Nat} {k:Nat} (hk:k<bl.length):zau (zlh bs bl k) (bl.getD k 0) (List.replicate 64 0)=zlh bs bl (k+1):=by
 show _=zau (zdv bs bl _ k) _ (zaw _ k)
 rw[zl4 (by omega)]
 rfl
theorem zlg {bs:List UInt8} {bl:List Nat} (hb:bs.length=2048)(hg:∀ b∈bl,b<32){k:Nat} (hk:k≤bl.length):(zlh bs bl k).length=2048:=zc6 bl hb hg k hk (by simp;omega)
theorem zv4 {bs:List UInt8} {bl:List Nat} (hb:bs.length=2048)(hg:∀ b∈bl,b<32)(hn:bl.Nodup){c:Nat} (hc:c<32):zaw (zlh bs bl bl.length) c=if c∈bl then List.replicate 64 0 else zaw bs c:=by
 by_cases h:c∈bl
 ·rw[zp h]
  obtain⟨j,hj,rfl⟩:=List.getElem_of_mem h
  have:=zgw (all:=List.replicate (64*bl.length) 0) hb hg hn bl.length (Nat.le_refl _) (by simp) j hj
  rw[List.getD_eq_getElem?_getD,List.getElem?_eq_getElem hj,zl4 (by omega)] at this
  exact this
 ·rw[zn h]
  exact zet hb hg hc h _ (Nat.le_refl _) (by simp)
theorem zzl {R zs:List UInt8} (hR:R.length=2048){b o c:Nat} (hb:b<32)(hc:c<32)(h:o+zs.length≤64):zaw (splice R (b*64+o) zs) c=if c=b then splice (zaw R b) o zs else zaw R c:=by
 have hs:(splice R (b*64+o) zs).length=2048:=by rw[zct _ _ _ (by omega),hR]
 have hp:=zbl hR hb
 refine za7 ?_ fun k hk=>?_
 ·rw[zbl hs hc]
  split
  ·rw[zct _ _ _ (by omega),hp]
  ·exact(zbl hR hc).symm
 ·rw[zbl hs hc] at hk
  rw[zce _ _ _ hk,Mm.getD_splice _ _ _ _ (by omega)]
  by_cases e:c=b
  ·subst e
   rw[zp rfl,Mm.getD_splice _ _ _ _ (by omega),zce _ _ _ hk]
   by_cases h1:k<o
   ·rw[zp (by omega),zp h1]
   ·rw[zn (by omega),zn h1]
    by_cases h2:k<o+zs.length
    ·rw[zp (by omega),zp h2]
     congr 1
     omega
    ·rw[zn (by omega),zn h2]
  ·rw[zn e,zce _ _ _ hk]
   by_cases h1:c*64+k<b*64+o
   ·rw[zp h1]
   ·rw[zn h1,zn (by omega)]
theorem yeu {xs:List UInt8} {k size p:Nat} (hp:p<k):(zj8 xs k size).getD p 0=if p<size then xs.getD p 0 else 0:=by
 unfold zj8
 simp only[List.getD_eq_getElem?_getD]
 by_cases h1:p<(xs.take (min k size)).length
 ·rw[List.getElem?_append_left h1]
  rw[List.length_take] at h1
  rw[List.getElem?_take_of_lt (by omega),zp (by omega)]
 ·rw[List.getElem?_append_right (by omega),List.getElem?_replicate]
  rw[List.length_take] at h1 ⊢
  have hz:(if p-min (min k size) xs.length<k-min (min k size) xs.length then some (0:UInt8) else none).getD 0=0:=by split<;>rfl
  rw[hz]
  by_cases h2:p<size
  ·rw[zp h2,List.getElem?_eq_none (by omega)]
   rfl
  ·rw[zn h2]
theorem ztw {bs:List UInt8} (hb:bs.length=2048){l:List EX} (hok:ok l=true){j:Nat} (hj:j<(zaq l).length){i:Nat} (hi:i<64):(zam bs l).getD (j*64+i) 0=(zaw bs ((zaq l).getD j 0)).getD i 0:=by
 have key:∀ (bl:List Nat),(∀ b∈bl,b<32)→∀ j,j<bl.length→(bl.flatMap (zaw bs)).getD (j*64+i) 0=(zaw bs (bl.getD j 0)).getD i 0:=by
  intro bl
  induction bl with
  | nil=>intro _ j hj;simp at hj
  | cons x r ih =>
   intro hg j hj
   have hx:=zbl hb (hg x (by simp))
   rw[List.flatMap_cons]
   simp only[List.getD_eq_getElem?_getD] at ih ⊢
   cases j with
   | zero =>
    rw[List.getElem?_append_left (by omega)]
    simp
   | succ j =>
    rw[List.getElem?_append_right (by omega),show(j+1)*64+i-(zaw bs x).length=j*64+i by omega,ih (fun b h=>hg b (by simp[h])) j (by simpa using hj)]
    simp
 unfold zam
 rw[zar hok]
 exact key _ (fun b h=>((zcr l hok).2 b h).2) j hj
def zjo (R:List UInt8) (X:List EX) (N:Nat) (size:Int):List UInt8:=if 0<size % 64 then splice R ((zaq X).getD (N-1) 0*64+(size % 64).toNat) (List.replicate (64-(size % 64).toNat) 0) else R
theorem zt4 {bs:List UInt8} (hb:bs.length=2048)(ho:okR bs){i:Nat} (hi:i<8)(hf:isF (at' (zaa bs) i)=true)(hok:ok (at' (zaa bs) i).ext=true)(hbt:∀ b∈zaq (at' (zaa bs) i).ext,(zao (zaa bs)).testBit b=true)
  {size:Int} (h0:0≤size) (h1:size≤1472) {N:Nat} (hN:zbq size=N) (he:zh1 (at' (zaa bs) i).ext (zao (zaa bs)) N=0) {X:List EX} (hX:zd8 (at' (zaa bs) i).ext (zao (zaa bs)) N=X) {y:IN} (hy:y=⟨(at' (zaa bs) i).name,size,X⟩):
  zjo (zau (zau (zlh bs (rzN (at' (zaa bs) i).ext (zao (zaa bs)) N) (rzN (at' (zaa bs) i).ext (zao (zaa bs)) N).length) (1+i) (zcf y)) 0 (zb7 (zao ((zaa bs).set i y)))) X N size
   = zad ⟨zbo bs X (zj8 (zam bs (at' (zaa bs) i).ext) (N*64) size.toNat),(zaa bs).set i y⟩:=by
 have hr:=zbp bs
 have hrs:((zaa bs).set i y).length=8:=by rw[List.length_set,hr]
 obtain⟨f1,f2,f3⟩:=zih hok hbt he
 rw[hX] at f1 f2 f3
 change zaq X=_++rzN _ _ _ at f3
 have hgX:=zcr X f1
 have hgn:∀ b∈rzN (at' (zaa bs) i).ext (zao (zaa bs)) N,b<32:=fun b h=>(zou h).2.1
 have hg9:∀ b∈rzN (at' (zaa bs) i).ext (zao (zaa bs)) N,9≤b:=fun b h=>(zou h).1
 have hnn:(rzN (at' (zaa bs) i).ext (zao (zaa bs)) N).Nodup:=((zca _).take _).1
 have hdis:∀ b∈rzN (at' (zaa bs) i).ext (zao (zaa bs)) N,b ∉ zaq (at' (zaa bs) i).ext:=fun b h hc=>by
  have e1:=(zou h).2.2
  rw[hbt b hc] at e1
  cases e1
 have hWl:=zdh hb (at' (zaa bs) i).ext
 rw[zar hok] at hWl
 have hnb:=zfl h0 h1
 have hwat:=fun j hj k hk=>ztw (bs:=bs) hb hok (j:=j) hj (i:=k) hk
 have hlen1:=zlg hb hgn (k:=(rzN (at' (zaa bs) i).ext (zao (zaa bs)) N).length) (Nat.le_refl _)
 have hzp:=fun c (hc:c<32)=>zv4 hb hgn hnn hc
 have hat:∀ j,j<8→j≠i→zcf (at' ((zaa bs).set i y) j)=zaw bs (1+j):=fun j hj e=>by
  rw[zcq _ (by omega),zn e,zbw _ hj,zi6 (ho.1 j hj)]
 have hati:at' ((zaa bs).set i y) i=y:=by rw[zcq _ (by omega),zp rfl]
 generalize rzN (at' (zaa bs) i).ext (zao (zaa bs)) N=new at *
 generalize hl:(at' (zaa bs) i).ext=l at *
 generalize zlh bs new new.length=R1 at *
 have hlen2:=zei hlen1 (n:=1+i) (by omega) (zcn y)
 have hlen3:=zei hlen2 (n:=0) (by omega) (zbj (zao ((zaa bs).set i y)))
 have hp3:∀ c,c<32→zaw (zau (zau R1 (1+i) (zcf y)) 0 (zb7 (zao ((zaa bs).set i y)))) c=if c=0 then zb7 (zao ((zaa bs).set i y)) else if c=1+i then zcf y else if c∈new then List.replicate 64 0 else zaw bs c:=fun c hc=>by
  rw[zfe hlen2 (zbj _) (by omega) hc,zfe hlen1 (zcn y) (by omega) hc,hzp c hc]
 generalize zau (zau R1 (1+i) (zcf y)) 0 (zb7 (zao ((zaa bs).set i y)))=R3 at *
 have hXl:(zaq X).length=N:=f2
 have hXm:∀ j,j<N→(zaq X).getD j 0∈zaq X∧9≤(zaq X).getD j 0∧(zaq X).getD j 0<32:=fun j hj=>by
  rw[List.getD_eq_getElem?_getD,List.getElem?_eq_getElem (by omega)]
  have:=hgX.2 _ (List.getElem_mem (show j<(zaq X).length by omega))
  exact⟨List.getElem_mem _,this.1,this.2⟩
 have htp:∀ c,c<32→zaw (zjo R3 X N size) c=if 0<size % 64∧c=(zaq X).getD (N-1) 0 then splice (zaw R3 c) (size % 64).toNat (List.replicate (64-(size % 64).toNat) 0) else zaw R3 c:=fun c hc=>by
  unfold zjo
  by_cases hs:0<size % 64
  ·have hm:=hXm (N-1) (by omega)
   rw[zp hs,zzl hlen3 hm.2.2 hc (by rw[List.length_replicate];omega)]
   by_cases e:c=(zaq X).getD (N-1) 0
   ·rw[zp e,zp ⟨hs,e⟩,e]
   ·rw[zn e,zn (fun h=>e h.2)]
  ·rw[zn hs,zn (fun h=>hs h.1)]
 have hlT:(zjo R3 X N size).length=2048:=by
  unfold zjo
  by_cases hs:0<size % 64
  ·have hm:=hXm (N-1) (by omega)
   rw[zp hs,zct _ _ _ (by rw[List.length_replicate];omega),hlen3]
  ·rw[zn hs,hlen3]
 have hfl:=zho (zam bs l) (N*64) size.toNat
 have hSl:(zbo bs X (zj8 (zam bs l) (N*64) size.toNat)).length=2048:=by
  unfold zbo
  exact zc6 _ hb (fun b h=>((za3 _).2 b h).2) _ (Nat.le_refl _) (by rw[hfl,zar f1,f2];omega)
 refine zi1 hlT (zcb hSl hrs) fun c hc=>?_
 rw[htp c hc]
 by_cases c9:c<9
 ·rw[zn (show ¬(0<size % 64∧c=(zaq X).getD (N-1) 0) from fun h=>by have:=h.1;have:=h.2;have:=(hXm (N-1) (by omega)).2.1;omega),hp3 c hc]
  by_cases c0:c=0
  ·subst c0
   rw[zp rfl,zgo]
  rw[zn c0]
  obtain⟨j,rfl⟩:∃ j,c=1+j:=⟨c-1,by omega⟩
  rw[zde hrs (by omega)]
  show _=zcf (at' ((zaa bs).set i y) j)
  by_cases ej:j=i
  ·subst ej
   rw[zp rfl,hati]
  ·rw[zn (by omega),zn (fun h=>by have:=hg9 _ h;omega),hat j (by omega) ej]
 have hpc:zaw R3 c=if c∈new then List.replicate 64 0 else zaw bs c:=by rw[hp3 c hc,zn (show ¬c=0 by omega),zn (show ¬c=1+i by omega)]
 rw[zdf hrs (by omega),hpc]
 show _=zaw (zdv bs (za4 X) _ (za4 X).length) c
 rw[zar f1]
 by_cases hcX:c∈zaq X
 ·obtain⟨j,hj,rfl⟩:=List.getElem_of_mem hcX
  have hsp:=zgw (all:=zj8 (zam bs l) (N*64) size.toNat) hb (fun b h=>(hgX.2 b h).2) hgX.1 (zaq X).length (Nat.le_refl _) (by rw[hfl];omega) j hj
  have hgd:(zaq X).getD j 0=(zaq X)[j]:=by rw[List.getD_eq_getElem?_getD,List.getElem?_eq_getElem hj];rfl
  rw[hgd] at hsp
  rw[hsp]
  have hlast:(zaq X)[j]=(zaq X).getD (N-1) 0↔j=N-1:=by
   rw[← hgd]
   constructor
   ·intro e
    rw[List.getD_eq_getElem?_getD,List.getD_eq_getElem?_getD,List.getElem?_eq_getElem hj,List.getElem?_eq_getElem (show N-1<(zaq X).length by omega)] at e
    exact(List.getElem_inj hgX.1).1 e
   ·intro e;rw[e]
  have hbase:∀ k,k<64→(if (zaq X)[j]∈new then List.replicate 64 (0:UInt8) else zaw bs (zaq X)[j]).getD k 0=(zam bs l).getD (j*64+k) 0:=fun k hk=>by
   by_cases hjl:j<(zaq l).length
   ·have e:(zaq X)[j]=(zaq l).getD j 0:=by
     have:(zaq X)[j]?=(zaq l)[j]?:=by rw[f3,List.getElem?_append_left (by rw[List.length_take];omega),List.getElem?_take_of_lt (by omega)]
     rw[List.getElem?_eq_getElem hj,List.getElem?_eq_getElem hjl] at this
     rw[List.getD_eq_getElem?_getD,List.getElem?_eq_getElem hjl]
     exact Option.some.inj this
    rw[e,hwat j hjl k hk,zn (fun h=>hdis _ h (by rw[List.getD_eq_getElem?_getD,List.getElem?_eq_getElem hjl];exact List.getElem_mem _))]
   ·have hm:(zaq X)[j]∈new:=by
     have:(zaq X)[j]?=new[j-((zaq l).take N).length]?:=by rw[f3,List.getElem?_append_right (by rw[List.length_take];omega)]
     rw[List.getElem?_eq_getElem hj] at this
     exact List.mem_of_getElem? this.symm
    rw[zp hm,List.getD_eq_getElem?_getD,List.getD_eq_getElem?_getD,List.getElem?_replicate,zp hk,List.getElem?_eq_none (by omega)]
    rfl
  have hbl:(if (zaq X)[j]∈new then List.replicate 64 (0:UInt8) else zaw bs (zaq X)[j]).length=64:=by
   split
   ·simp
   ·exact zbl hb (hgX.2 _ (List.getElem_mem _)).2
  generalize (if (zaq X)[j]∈new then List.replicate 64 (0:UInt8) else zaw bs (zaq X)[j])=P at *
  have hpf:(zaw (zj8 (zam bs l) (N*64) size.toNat) j).length=64:=zi2 (by rw[hfl];omega)
  refine za7 ?_ fun k hk=>?_
  ·rw[hpf]
   split
   ·rw[zct _ _ _ (by simp;omega),hbl]
   ·exact hbl
  ·have hk64:k<64:=by
    split at hk
    ·rw[zct _ _ _ (by simp;omega),hbl] at hk;exact hk
    ·rw[hbl] at hk;exact hk
   rw[zce _ _ _ hk64,yeu (by omega)]
   by_cases hs:0<size % 64∧(zaq X)[j]=(zaq X).getD (N-1) 0
   ·have ej:=hlast.1 hs.2
    rw[zp hs,Mm.getD_splice _ _ _ _ (by simp;omega)]
    by_cases hlt:k<(size % 64).toNat
    ·rw[zp hlt,zp (by omega),hbase k hk64]
    ·rw[zn hlt,zp (show k<(size % 64).toNat+(List.replicate (64-(size % 64).toNat) (0:UInt8)).length by rw[List.length_replicate];omega),zn (show ¬j*64+k<size.toNat by omega),List.getD_eq_getElem?_getD,List.getElem?_replicate]
     split<;>rfl
   ·rw[zn hs,zp ?_,hbase k hk64]
    by_cases hs2:0<size % 64
    ·have ej:j≠N-1:=fun e=>hs ⟨hs2,hlast.2 e⟩
     omega
    ·omega
 ·rw[zn (show ¬(0<size % 64∧c=(zaq X).getD (N-1) 0) from ?_),zet hb (fun b h=>(hgX.2 b h).2) hc hcX _ (Nat.le_refl _) (by rw[hfl];omega)]
  ·rw[zn (fun h=>hcX (by rw[f3];exact List.mem_append.2 (.inr h)))]
  ·rintro⟨hs,e⟩
   exact hcX (by rw[e];exact(hXm (N-1) (by omega)).1)
end Fr
namespace Fr
open Go.RowKit Ex Ino Mm Fs
variable {w:World} {mi q b c d e:Nat} {M G:List UInt8}
theorem RefH.keep3 {w':World} {F:Nat→Prop} (h:RefH w mi q b c d e M G)(k:Keeps F w w')(h1:¬F q)(h2:¬F b)(h3:¬F d):RefH w' mi q b c d e M G:=
 ⟨h.q0,h.bl,h.gl,(k.block q h.lt.1 h1).trans h.head,h.now.keeps' k h2,h.was.keeps' k h3,h.bq,h.dq,h.bd⟩
structure RSt (w:World) (mi q b c d e B:Nat) (M G R:List UInt8) (nd:ND) (A:Option Addr) (X:List EX) (W:World):Prop where
 ref:RefH W mi q b c d e (zbx M 6144 R) G
 box:BoxN W B nd
 xr:XR W W.heap.size A X
 ne:∀ ad,A=some ad→ad.block≠b∧ad.block≠B
 kp:Keeps (fun k=>k=b) w W
 hB:B≠b∧w.heap.size≤B∧B<W.heap.size
theorem RSt.keepB {B:Nat} {R R':List UInt8} {nd:ND} {A:Option Addr} {X:List EX} {W W':World} (h:RSt w mi q b c d e B M G R nd A X W)(k:Keeps (fun k=>k=b) W W')(hr:RefH W' mi q b c d e (zbx M 6144 R') G):RSt w mi q b c d e B M G R' nd A X W':=
 ⟨hr,(k.block B h.hB.2.2 (fun e=>h.hB.1 e)).trans h.box,zez h.xr k fun _ ad e=>(h.ne ad e).1,h.ne,h.kp.trans k,⟨h.hB.1,h.hB.2.1,by have:=k.size;have:=h.hB.2.2;omega⟩⟩
theorem RSt.new {B:Nat} {R:List UInt8} {nd:ND} {A:Option Addr} {X:List EX} {W W':World} (h:RSt w mi q b c d e B M G R nd A X W)(k:Keeps (fun _=>False) W W'):RSt w mi q b c d e B M G R nd A X W':=
 h.keepB (k.mono fun _ _ f=>f.elim) (h.ref.keep k fun _ _ _ f=>f)
theorem RSt.put {B:Nat} {R:List UInt8} {nd nd':ND} {A:Option Addr} {X:List EX} {W W':World} (h:RSt w mi q b c d e B M G R nd A X W)(h0:RefH w mi q b c d e M G)(k:Keeps (fun k=>k=B) W W')(hb:BoxN W' B nd'):RSt w mi q b c d e B M G R nd' A X W':=by
 have hl:=h0.lt
 have hB:=h.hB
 refine⟨Fr.RefH.keep3 h.ref k (by omega) (by omega) (by omega),hb,zez h.xr k fun _ ad e=>(h.ne ad e).2,h.ne,Keeps.thru h.kp k (fun _ _ e=>e) (fun i hi e=>by omega),⟨hB.1,hB.2.1,by have:=k.size;omega⟩⟩
theorem ydp {w:World} {B:Nat} {R:Option Addr} {cap:Nat} {l:List Nat} (h:OwnI w B R cap l){K:Nat} (hK:K≤l.length):∃ T ct,
  (∀ w,(Instr.sliceAt 40 (.slice R l.length cap) (some (.int .i64 (K:Int))) none none).run Tryz.prog w=.ok (.slice T (l.length-K) ct) w) ∧
  ∀ (k x:Nat),(l.drop K)[k]?=some x→∃ g o,T=some ⟨g,o,none⟩∧B≤g∧g<w.heap.size∧w.cell? ⟨g,o+k,none⟩=some (.int .i64 (x:Int)):=by
 have hir:=h.ir
 rcases h.2 with⟨hn,h0⟩|⟨g,cap',cur,e,hB,hg,hnc,_⟩
 ·have hl:l=[]:=List.eq_nil_of_length_eq_zero h0
  subst hl
  obtain rfl:K=0:=by simpa using hK
  injection hn with e1 e2 e3
  subst e1 e3
  exact⟨none,0,zt1,fun k x h=>by simp at h⟩
 ·injection e with e1 e2 e3
  subst e1 e3
  have hgl:g<w.heap.size:=(Array.getElem?_eq_some_iff.1 hg).1
  by_cases hlt:K<cap
  ·refine⟨_,_,fun w=>zt0 g l.length cap K w hK hnc hlt,fun k x hx=>?_⟩
   rw[List.getElem?_drop] at hx
   obtain⟨g',e',hg',hc⟩:=hir _ x hx
   cases e'
   exact⟨g,K,rfl,hB,hgl,hc⟩
  ·have hcK:cap=K:=by omega
   have hlK:l.length=K:=by omega
   refine⟨some ⟨g,0,none⟩,0,fun w=>?_,?_⟩
   ·rw[hlK,hcK,Nat.sub_self]
    exact zp8 g K w
   ·rw[List.drop_of_length_le (by omega)]
    intro k x h
    simp at h
def RzL (w:World) (mi q b c d e B:Nat) (M G:List UInt8) (bs:List UInt8) (new:List Nat) (nd:ND) (A:Option Addr) (X:List EX) (w5:World) (g:Nat) (iv:Value) (wr:World):Prop:=
 ∃ k,g=new.length-k∧k≤new.length∧iv=.int .i64 (k:Int)∧RSt w mi q b c d e B M G (zlh bs new k) nd A X wr∧Keeps (fun k=>k=b) w5 wr
set_option maxRecDepth 100000 in
theorem zh9 (h:RefH w mi q b c d e M G)(ho:okR (zab M))(n size:Int)(hn:-9223372036854775808≤n∧n≤9223372036854775807)(hs:-9223372036854775808≤size∧size≤9223372036854775807):
  Calls Tryz.prog 70 #[.pointer (some ⟨q,0,none⟩),.int .i64 n,.int .i64 size] w (zm4 w mi q b c d e M G (zag ⟨zab M,zaa (zab M)⟩ n size)):=by
 have HN:=zq (ze9 h n hn)
 have HO:=zq ho
 have H:=zq h
 have hM:M.length=8192:=h.bl
 have hgd:=zfr hM ho
 clear h ho
 go_enter Tryz.func70,Tryz.ntmps70
 go_wp2_with fail
 refine HN.out.mono ?_
 rintro en w1 ⟨k1,⟨-,R,cx,rfl,hx⟩|⟨hno,-⟩⟩
 rotate_left
 ·exact absurd HO.out hno
 have hbad:∀ E:Int,zch ⟨zab M,zaa (zab M)⟩ n size=E→E≠0→∀ W,Keeps (fun _=>False) w W→zm4 w mi q b c d e M G (zag ⟨zab M,zaa (zab M)⟩ n size) (.returned (.int .i64 E)) W:=fun E hE h0 W kW=>by
  have:zag ⟨zab M,zaa (zab M)⟩ n size=(E,⟨zab M,zaa (zab M)⟩):=by unfold zag;rw[hE,zn h0]
  rw[this]
  exact RChg.none H.out kW h0
 by_cases hE:za1 (zaa (zab M)) n=0
 case neg =>
  have HG:=zq (hbad (za1 (zaa (zab M)) n) (by unfold zch;rw[zp hE]) hE _ (k1.trans (Keeps.alloc _ _ (.cells #[St (za0 (zaa (zab M)) n).name,.int .i64 (za0 (zaa (zab M)) n).size,.slice R (za0 (zaa (zab M)) n).ext.length cx] 113))))
  have t1:(za1 (zaa (zab M)) n != 0)=true:=by simp[hE]
  clear hbad k1 hx hgd HN HO H
  generalize zag ⟨zab M,zaa (zab M)⟩ n size=rv at *
  generalize za0 (zaa (zab M)) n=x at *
  generalize za1 (zaa (zab M)) n=E at *
  generalize (if E=0 then (zao (zaa (zab M)):Int) else 0)=u at *
  clear hE
  go_wp2_with fail
  go_ret
  exact HG.out
 have t1:(za1 (zaa (zab M)) n != 0)=false:=by simp[hE]
 obtain⟨⟨hn0,hn8⟩,hisF⟩:=nodeE_zero.1 hE
 have hX:za0 (zaa (zab M)) n=at' (zaa (zab M)) n.toNat:=by unfold za0;rw[zp hE]
 obtain⟨i,rfl⟩:=Int.eq_ofNat_of_zero_le hn0
 have hi8:i<8:=by omega
 have hX:za0 (zaa (zab M)) (i:Int)=at' (zaa (zab M)) i:=hX
 rw[hX] at hx
 rw[hX,hE,zp rfl]
 change XR w1 w1.heap.size R (at' (zaa (zab M)) i).ext at hx
 change isF (at' (zaa (zab M)) i)=true at hisF
 obtain⟨hok,hbits⟩:=hgd.bits hi8 hisF
 change ok (at' (zaa (zab M)) i).ext=true at hok
 have hfew:=(zgl (b:=zaw (zab M) (1+i)) (w:=w1) (R:=R) (by rw[← zbw _ hi8];exact hx)).few
 rw[← zbw _ hi8] at hfew
 have hRE:zch ⟨zab M,zaa (zab M)⟩ (i:Int) size=if size<0 then 1 else if 1472<size then 125 else zh1 (at' (zaa (zab M)) i).ext (zao (zaa (zab M))) (zbq size).toNat:=by
  unfold zch
  rw[zn (by show ¬za1 (zaa (zab M)) (i:Int)≠0;rw[hE];decide)]
  show(if size<0 then (1:Int) else if 1472<size then 125 else zh1 (za0 (zaa (zab M)) (i:Int)).ext _ _)=_
  rw[hX]
 obtain⟨wb,hwb⟩:∃ wb,wb=w1.alloc (.cells #[St (at' (zaa (zab M)) i).name,.int .i64 (at' (zaa (zab M)) i).size,.slice R (at' (zaa (zab M)) i).ext.length cx] 113):=⟨_,rfl⟩
 have k1b:Keeps (fun _=>False) w1 wb:=by rw[hwb];exact Keeps.alloc _ _ _
 have KB:=zq (k1.trans k1b)
 by_cases hneg:size<0
 ·have HG:=zq (hbad 1 (by rw[hRE,zp hneg]) (by decide) wb KB.out)
  have d1:decide (size<0)=true:=by simp only[decide_eq_true_eq];exact hneg
  rw[hwb] at HG
  clear hbad k1 hx hgd HN HO H hRE hisF hE hX hok hbits hfew KB k1b hwb
  generalize zag ⟨zab M,zaa (zab M)⟩ (i:Int) size=rv at *
  go_wp2_with fail
  go_ret
  exact HG.out
 have d1:decide (size<0)=false:=by simp only[decide_eq_false_iff_not];exact hneg
 by_cases hbig:1472<size
 ·have HG:=zq (hbad 125 (by rw[hRE,zn hneg,zp hbig]) (by decide) wb KB.out)
  have d2:decide (1472<size)=true:=by simp only[decide_eq_true_eq];exact hbig
  rw[hwb] at HG
  clear hbad k1 hx hgd HN HO H hRE hisF hE hX hok hbits hfew KB k1b hwb
  generalize zag ⟨zab M,zaa (zab M)⟩ (i:Int) size=rv at *
  go_wp2_with fail
  go_ret
  exact HG.out
 have d2:decide (1472<size)=false:=by simp only[decide_eq_false_iff_not];exact hbig
 rw[zn hneg,zn hbig] at hRE
 obtain⟨s,rfl⟩:=Int.eq_ofNat_of_zero_le (show 0≤size by omega)
 have hs72:s≤1472:=by omega
 obtain⟨N,hN⟩:∃ N:Nat,zbq (s:Int)=N:=⟨(zbq (s:Int)).toNat,by have:=zfl (n:=(s:Int)) (by omega) (by omega);omega⟩
 have hnb:=zfl (n:=(s:Int)) (by omega) (by omega)
 rw[hN] at hnb
 rw[hN,Int.toNat_natCast] at hRE
 have hbox:BoxN wb w1.heap.size ⟨at' (zaa (zab M)) i,R,cx⟩:=by rw[hwb];exact World.alloc_heap_new _ _
 have hxb:XR wb wb.heap.size R (at' (zaa (zab M)) i).ext:=zez hx k1b fun _ _ _ f=>f
 have HBL:=zq (zcc R (at' (zaa (zab M)) i).ext cx wb hxb hfew)
 have hc2:=hbox.c.2.2
 have hlt:w1.heap.size<wb.heap.size:=hbox.lt
 have HBX:=zq hbox
 have HXB:=zq hxb
 have HX:=zq hX
 have HRE:=zq hRE
 have HOK:=zq hok
 have HBT:=zq hbits
 have HFW:=zq hfew
 have HF:=zq hisF
 have HBAD:=zq hbad
 have HGD:=zq hgd
 have K1:=zq k1
 have HNN:=zq hN
 have HNE:=zq fun W=>zqd (s:Int) W (by omega)
 rw[hN] at HNE
 clear hbox hxb hX hRE hok hbits hfew hisF hbad hgd k1 k1b hx HN hE hneg hbig hN
 go_wp2_with fail
 rw[← hwb]
 clear hwb
 go_wp2_with fail
 refine HBL.out.mono ?_
 rintro en w2 ⟨Rb,cb,rfl,own2,b2⟩
 rw[zar HOK.out] at own2 ⊢
 have OW2:=zq own2
 have B2:=zq b2
 have hc2':w2.cell? ⟨w1.heap.size,2,none⟩=some (.slice R (at' (zaa (zab M)) i).ext.length cx):=(b2.cell (p:=⟨w1.heap.size,2,none⟩) hlt).trans hc2
 clear own2 b2 HBL hc2
 go_wp2_with fail
 refine(HNE.out _).mono ?_
 rintro en w3 ⟨rfl,rfl⟩
 by_cases hge:(zaq (at' (zaa (zab M)) i).ext).length≤N
 ·have d3:decide (((zaq (at' (zaa (zab M)) i).ext).length:Int)≤(N:Int))=true:=by simp only[decide_eq_true_eq];omega
  have hgr:=zy3 R (at' (zaa (zab M)) i).ext cx (zao (zaa (zab M))) ((N:Int)-((zaq (at' (zaa (zab M)) i).ext).length:Int)) w3 (HXB.out.below B2.out |>.more B2.out.size) HFW.out (zdi _)
  have hgv:zcw (at' (zaa (zab M)) i).ext (zao (zaa (zab M))) ((N:Int)-((zaq (at' (zaa (zab M)) i).ext).length:Int))=rzD (at' (zaa (zab M)) i).ext (zao (zaa (zab M))) N:=by unfold rzD;rw[zp hge]
  rw[hgv] at hgr
  have q1:IntKind.i64.wrap ((N:Int)-((zaq (at' (zaa (zab M)) i).ext).length:Int))=(N:Int)-((zaq (at' (zaa (zab M)) i).ext).length:Int):=by rw[IntKind.wrap_i64];omega
  clear hgv
  have hbw:b<wb.heap.size∧w.heap.size≤w1.heap.size:=by have:=H.out.lt;have:=KB.out.size;have:=K1.out.size;omega
  by_cases hfe:zh1 (at' (zaa (zab M)) i).ext (zao (zaa (zab M))) N=0
  case neg =>
   obtain⟨e1,-,e3⟩:=rzD_no HOK.out (zdi _) HBT.out hfe
   have HG:=zq fun W (hW:Below w3.heap.size w3 W)=>HBAD.out 125 (by rw[HRE.out,e1]) (by decide) W ((KB.out.trans (zac B2.out)).trans (zac hW))
   have t3:((rzD (at' (zaa (zab M)) i).ext (zao (zaa (zab M))) N).2.2 != 0)=true:=by simp[e3]
   have HGR:=zq hgr
   clear e1 e3 hfe HBAD hgr
   generalize rzD (at' (zaa (zab M)) i).ext (zao (zaa (zab M))) N=D at *
   go_wp2_with fail
   refine HGR.out.mono ?_
   rintro en w4 ⟨Rx,cx4,rfl,hx4,b4,hnew⟩
   have HG2:=zq (HG.out w4 b4)
   clear HG b4 hx4 hnew HGR
   go_wp2_with fail
   go_ret
   exact HG2.out
  obtain⟨e1,e2⟩:=yf3 HOK.out (zdi _) HBT.out hfe
  obtain⟨f1,f2,f3⟩:=zih HOK.out HBT.out hfe
  obtain⟨X,U2,hD⟩:∃ X U2,rzD (at' (zaa (zab M)) i).ext (zao (zaa (zab M))) N=(X,U2,0):=⟨_,_,by rw[← e2]⟩
  rw[hD] at hgr e1
  have hXX:zd8 (at' (zaa (zab M)) i).ext (zao (zaa (zab M))) N=X:=e1.symm
  rw[hXX] at f1 f2 f3
  rw[List.take_of_length_le hge] at f3
  change zaq X=_++rzN (at' (zaa (zab M)) i).ext (zao (zaa (zab M))) N at f3
  have hgr2:Calls Tryz.prog 112 #[.slice R (at' (zaa (zab M)) i).ext.length cx,.int .u32 (zao (zaa (zab M)):Int),.int .i64 ((N:Int)-((zaq (at' (zaa (zab M)) i).ext).length:Int))] w3 (fun en w'=>∃ Rx cx4,en=.returned (.tuple #[.slice Rx X.length cx4,.int .u32 (U2:Int),.int .i64 0])∧XR w' w'.heap.size Rx X∧Below w3.heap.size w3 w'∧∀ ad,Rx=some ad→w3.heap.size≤ad.block):=hgr
  have hxl:X.length≤100:=by have:=zkm f1;omega
  have hne1:(at' (zaa (zab M)) i).name≠[]:=by simpa [isF] using HF.out
  have hU2:U2=zao ((zaa (zab M)).set i ⟨(at' (zaa (zab M)) i).name,(s:Int),X⟩):=by
   have:=zt5 HO.out hi8 HF.out HOK.out HBT.out (at' (zaa (zab M)) i).name hne1 (s:Int) hfe
   rw[hD,hXX] at this
   exact this
  have HGR:=zq hgr2
  have HXX:=zq hXX
  have F1:=zq f1
  have F2:=zq f2
  have F3:=zq f3
  have HFE:=zq hfe
  have HU2:=zq hU2
  clear e1 e2 f1 f2 f3 hfe HBAD hgr hgr2 hD hXX hne1 hU2
  go_wp2_with fail
  refine HGR.out.mono ?_
  rintro en w4 ⟨Rx,cx4,rfl,hx4,b4,hnew⟩
  have HBL2:=zq (zcc Rx _ cx4 w4 hx4 hxl)
  have HX4:=zq hx4
  have HNW:=zq hnew
  have B4:=zq b4
  clear hx4 hnew b4 HGR
  go_wp2_with fail
  refine HBL2.out.mono ?_
  rintro en w5 ⟨Ra,ca,rfl,own5,b5⟩
  rw[zar F1.out] at own5 ⊢
  have hlen:(zaq (at' (zaa (zab M)) i).ext).length≤(zaq X).length:=by rw[F3.out,List.length_append];omega
  obtain⟨T,ct,htl,hcell⟩:=ydp own5 hlen
  have hnl:(zaq X).length-(zaq (at' (zaa (zab M)) i).ext).length=(rzN (at' (zaa (zab M)) i).ext (zao (zaa (zab M))) N).length:=by rw[F3.out,List.length_append];omega
  have hdr:(zaq X).drop (zaq (at' (zaa (zab M)) i).ext).length=rzN (at' (zaa (zab M)) i).ext (zao (zaa (zab M))) N:=by rw[F3.out,List.drop_append,List.drop_of_length_le (Nat.le_refl _),List.nil_append,Nat.sub_self,List.drop_zero]
  rw[hnl] at htl
  rw[hdr] at hcell
  have b45:=(B2.out.trans (B4.out.mono B2.out.size)).trans (b5.mono (B2.out.trans (B4.out.mono B2.out.size)).size)
  have hrs:RSt w mi q b c d e w1.heap.size M G (zlh (zab M) (rzN (at' (zaa (zab M)) i).ext (zao (zaa (zab M))) N) 0) ⟨at' (zaa (zab M)) i,R,cx⟩ Rx X w5:=by
   have hk:=KB.out.trans (zac (F:=fun _=>False) b45)
   refine⟨?_,HBX.out.below b45,HX4.out.below b5 |>.more b5.size,fun ad e=>?_,hk.mono fun _ _ f=>f.elim,?_,hbw.2,?_⟩
   ·show RefH w5 mi q b c d e (zbx M 6144 (zab M)) G
    rw[zj7 hM]
    exact H.out.keep hk fun _ _ _ f=>f
   ·have:=HNW.out ad e
    have:=B2.out.size
    omega
   ·have:=H.out.lt;omega
   ·have:=b45.size;omega
  have hnewg:∀ x∈rzN (at' (zaa (zab M)) i).ext (zao (zaa (zab M))) N,x<32:=fun x hx=>(zou hx).2.1
  have HTL:=zq htl
  have HCELL:=zq hcell
  have HB4:=zq (And.intro B4.out.size (And.intro B2.out.size b5.size))
  have HRS:=zq hrs
  have F3':=zq hdr
  clear own5 b5 htl hcell hnl hdr b45 hrs HBL2 HX4 HNW B4 HBX HXB OW2 hc2' hlen
  have hmk:∀ w:World,(Instr.makeSlice 31 (.int .i64 64) (.int .i64 64)).run Tryz.prog w=.ok (.slice (some ⟨w.heap.size,0,none⟩) 64 64) (w.alloc (.cells (madeCells #[.int .u8 0] 64) 5)):=zfq 64 (by omega)
  generalize hnewv:rzN (at' (zaa (zab M)) i).ext (zao (zaa (zab M))) N=new at *
  have HNV:=zq hnewv
  clear hnewv
  have hnl32:new.length≤1000:=by
   have:=F2.out
   have h2:=congrArg List.length F3'.out
   rw[List.length_drop] at h2
   omega
  go_wp2_with (first
   | ((with_reducible refine at_ (op:=.slice 40 (.tmp 71) (some (.tmp 73)) none none) ?_);refine zaj rfl _ (zvk 40 (.tmp 71) (.tmp 73) rfl _ _ _ rfl rfl HTL.out _) ?_)
   | fail)
  have HC0:Hid (RzL w mi q b c d e w1.heap.size M G (zab M) new ⟨at' (zaa (zab M)) i,R,cx⟩ Rx X w5 new.length (.int .i64 0) w5):=⟨0,by omega,by omega,rfl,HRS.out,Keeps.refl _ _⟩
  go_loopg [19,76] new.length (fun g _ k wr=>RzL w mi q b c d e w1.heap.size M G (zab M) new ⟨at' (zaa (zab M)) i,R,cx⟩ Rx X w5 g k wr)
  case atStart=>exact HC0.out
  case round =>
   obtain⟨k,rfl,hk,rfl,hrs,kw⟩:=hrel
   clear HC0
   by_cases hkl:k<new.length
   ·obtain⟨gT,oT,rfl,hgB,hgl,hcc⟩:=HCELL.out k new[k] (List.getElem?_eq_getElem hkl)
    have hgb:gT≠b:=by have:=HB4.out;omega
    have hcc2:=(kw.cell gT (oT+k) hgl hgb).trans hcc
    have d4:decide ((k:Int)<(new.length:Int))=true:=by simp only[decide_eq_true_eq];omega
    have p0:(0:Int)≤k:=by omega
    have p1:(k:Int)<new.length:=by omega
    have q3:IntKind.i64.wrap ((k:Int)+1)=(k:Int)+1:=by rw[IntKind.wrap_i64];omega
    have hx32:=hnewg _ (List.getElem_mem hkl)
    have ka:=Keeps.alloc (fun _=>False) wr (.cells (madeCells #[.int .u8 0] 64) 5)
    have hlb:=zcz hM
    have hl:=zoy (M:=M) (R:=zlh (zab M) new k) (hrs.new ka).ref hM (zlg hlb hnewg (by omega)) new[k] hx32 (some ⟨wr.heap.size,0,none⟩) (List.replicate 64 0) 64 (Row8.made wr 64 5).br (fun ad e1 _=>by cases e1;have:=hrs.ref.lt;show wr.heap.size≠b;omega) (by simp)
    have hzn:=zv5 (bs:=zab M) hkl
    rw[show new.getD k 0=new[k] by rw[List.getD_eq_getElem?_getD,List.getElem?_eq_getElem hkl];rfl] at hzn
    rw[hzn,List.length_replicate] at hl
    have HL:=zq hl
    have HR:=zq (hrs.new ka)
    have KW:=zq (kw.trans (ka.mono fun _ _ f=>f.elim))
    clear hl hzn hrs kw ka hlb hcc hgl
    generalize new[k]=xk at *
    go_wp2_with fail
    refine HL.out.mono ?_
    rintro en w6 ⟨rfl,h6,k6⟩
    have HRR:Hid (RzL w mi q b c d e w1.heap.size M G (zab M) new ⟨at' (zaa (zab M)) i,R,cx⟩ Rx X w5 (new.length-(k+1)) (.int .i64 ((k:Int)+1)) w6):=⟨k+1,rfl,by omega,by rw[Int.natCast_add];rfl,HR.out.keepB k6 h6,KW.out.trans k6⟩
    clear h6 k6 HL HR KW
    go_wp2_with fail
    go_roundg (new.length-(k+1))
    case rel=>exact HRR.out
    case measure=>omega
   ·obtain rfl:k=new.length:=by omega
    have HR0:=zq (zlg (zcz hM) hnewg (Nat.le_refl new.length))
    have d4:decide ((new.length:Int)<(new.length:Int))=false:=by simp
    obtain⟨g0,g1,g2⟩:=hrs.box.c
    have z1:=hrs.box.fz 1
    have z2:=hrs.box.fz 2
    have HR:=zq hrs
    clear hrs kw
    have HEND:=zq (zt4 (zcz hM) HO.out hi8 HF.out HOK.out HBT.out (size:=(s:Int)) (by omega) (by omega) HNN.out HFE.out HXX.out rfl)
    rw[HNV.out,← HU2.out] at HEND
    generalize zlh (zab M) new new.length=R0 at *
    have hR0:R0.length=2048:=HR0.out
    obtain⟨y,hy⟩:∃ y:IN,y=⟨(at' (zaa (zab M)) i).name,(s:Int),X⟩:=⟨_,rfl⟩
    have hchk:zd6 y=true:=by
     have hc:zd6 (at' (zaa (zab M)) i)=true:=by
      have hf:=HF.out
      rw[zbw _ hi8] at hf ⊢
      rcases zij (zaw (zab M) (1+i)) with h | h
      ·rw[h] at hf;cases hf
      ·exact h
     rw[hy]
     unfold zd6 at hc ⊢
     simp only[Bool.and_eq_true,decide_eq_true_eq] at hc ⊢
     rw[zar F1.out,F2.out]
     exact⟨hc.1,by omega,by omega,F1.out,HNN.out.symm⟩
    have hnm:y.name.length≤100000:=by have:=(zck hchk).1;omega
    have hbx2:=HR.out.box.put Rx X cx4
    have hr2:=HR.out.put H.out (Keeps.setCell (fun k=>k=w1.heap.size) wr _ (.slice Rx X.length cx4) rfl) hbx2
    have hr3:=hr2.put H.out (Keeps.setCell (fun k=>k=w1.heap.size) _ ⟨w1.heap.size,1,none⟩ (.int .i64 (s:Int)) rfl) (hr2.box.putSize (s:Int))
    obtain⟨ws,hws⟩:∃ ws,ws=(wr.setCell ⟨w1.heap.size,2,none⟩ (.slice Rx X.length cx4)).setCell ⟨w1.heap.size,1,none⟩ (.int .i64 (s:Int)):=⟨_,rfl⟩
    rw[← hws] at hr3
    have hr4:RSt w mi q b c d e w1.heap.size M G R0 ⟨y,Rx,cx4⟩ Rx X ws:=by rw[hy];exact hr3
    have hen:Calls Tryz.prog 90 #[.agg #[St (at' (zaa (zab M)) i).name,.int .i64 (s:Int),.slice Rx X.length cx4]] ws (zim ws y):=by
     have:=zgf y Rx cx4 ws ⟨by rw[hy];exact hr4.xr,by rw[hy];exact hxl,hnm,by rw[hy];show -9223372036854775808≤(s:Int)∧(s:Int)≤9223372036854775807;omega⟩
     rw[hy] at this ⊢
     exact this
    have HLAY:=zq fun (W:World) (Re:Option Addr) (ce:Nat) (ho:Own8 W ws.heap.size 5 Re ce (zdr y)) (hb:Below ws.heap.size ws W)=>by
     have h5:=hr4.new (zac (F:=fun _=>False) hb)
     have:=zoy (M:=M) (R:=R0) h5.ref hM hR0 (1+i) (by omega) Re (zdr y) ce ho.br (Fr.RefH.own_ne hr4.ref ho) (zay _)
     rw[zay,show((1+i:Nat):Int)=1+(i:Int) by omega,← zf1 hchk] at this
     exact And.intro h5 this
    have HEN:=zq hen
    have HCHK:=zq hchk
    have HWS:=zq hws
    have HR4:=zq hr4
    have HRD:=zq fun W=>zg0 U2 (by rw[HU2.out];exact zdi _) W
    have HLY:=zq (zcn y)
    have q4:IntKind.i64.wrap (1+(i:Int))=1+(i:Int):=by rw[IntKind.wrap_i64];omega
    rw[← hy] at HEND
    have HY:=zq hy
    have hval:zag ⟨zab M,zaa (zab M)⟩ (i:Int) (s:Int)=(0,⟨zbo (zab M) X (zj8 (zam (zab M) (at' (zaa (zab M)) i).ext) (N*64) (s:Int).toNat),(zaa (zab M)).set i y⟩):=by
     unfold zag
     rw[HRE.out,HFE.out,zp rfl]
     unfold zb5
     simp only[HX.out,HNN.out,Int.toNat_natCast,HXX.out]
     rw[hy]
    have HVAL:=zq hval
    clear hval
    clear hen hchk hws hr4 hr3 hr2 hbx2 HR HRS HF HBT HFE HXX HU2 hy
    go_wp2_with fail
    rw[← HWS.out]
    refine HEN.out.mono ?_
    rintro en w6 (hbad | ⟨Re,ce,rfl,own6,b6⟩)
    ·rw[HCHK.out] at hbad;cases hbad
    obtain⟨h6,hl6⟩:=HLAY.out w6 Re ce own6 b6
    have H6:=zq h6
    have HL6:=zq hl6
    clear own6 b6 h6 hl6 HLAY HEN HCHK HWS HR4
    go_wp2_with fail
    refine HL6.out.mono ?_
    rintro en w7 ⟨rfl,h7,k7⟩
    have H7:=zq (H6.out.keepB k7 h7)
    clear h7 k7 HL6 H6
    go_wp2_with fail
    refine(HRD.out w7).mono ?_
    rintro en w8 ⟨Rh,ch,rfl,own8,b8⟩
    have h8:=H7.out.new (zac (F:=fun _=>False) b8)
    have hp2:=zei hR0 (n:=1+i) (by omega) HLY.out
    have hl8:=zoy (M:=M) (R:=zau R0 (1+i) (zcf y)) h8.ref hM hp2 0 (by omega) Rh (zb7 U2) ch own8.br (Fr.RefH.own_ne H7.out.ref own8) (zbj _)
    have HP3:=zq (zei hp2 (n:=0) (by omega) (zbj U2))
    have H8:=zq h8
    have HL8:=zq hl8
    clear own8 b8 h8 hl8 hp2 H7 HRD
    go_wp2_with fail
    refine HL8.out.mono ?_
    rintro en w9 ⟨rfl,h9,k9⟩
    have H9:=zq (H8.out.keepB k9 h9)
    clear h9 k9 HL8 H8
    generalize zau (zau R0 (1+i) (zcf y)) 0 (zb7 U2)=R3 at *
    have hcons:∀ W R4,RSt w mi q b c d e w1.heap.size M G R4 ⟨y,Rx,cx4⟩ Rx X W→zjo R3 X N (s:Int)=R4→zm4 w mi q b c d e M G (zag ⟨zab M,zaa (zab M)⟩ (i:Int) (s:Int)) (.returned (.int .i64 0)) W:=fun W R4 hW hT=>by
     rw[HVAL.out]
     refine⟨rfl,?_,hW.kp⟩
     rw[zp rfl]
     show RefH W mi q b c d e (zbx M 6144 (zad ⟨zbo (zab M) X (zj8 (zam (zab M) (at' (zaa (zab M)) i).ext) (N*64) (s:Int).toNat),(zaa (zab M)).set i y⟩)) G
     rw[← HEND.out,hT]
     exact hW.ref
    have HCONS:=zq hcons
    clear hcons HVAL HEND
    by_cases hrest:0<(s:Int) % 64
    case neg =>
     have d5:decide (0<(s:Int) % 64)=false:=by simp only[decide_eq_false_iff_not];exact hrest
     have HG:=zq (HCONS.out w9 R3 H9.out (by unfold zjo;rw[zn hrest]))
     clear HCONS hrest H9
     go_wp2_with fail
     go_ret
     exact HG.out
    obtain⟨rs,hrs⟩:∃ rs:Nat,(s:Int) % 64=rs:=⟨s % 64,by omega⟩
    have hrs64:0<rs∧rs<64:=by omega
    obtain⟨jl,rfl⟩:∃ jl,N=jl+1:=⟨N-1,by omega⟩
    have hjlt:jl<(zaq X).length:=by have:=F2.out;omega
    have hl32:=(zcr X F1.out).2 (zaq X)[jl] (List.getElem_mem hjlt)
    obtain⟨zl,hzl⟩:∃ zl:Nat,zl=64-rs:=⟨_,rfl⟩
    have HBL3:=zq (zcc Rx X cx4 w9 H9.out.xr hxl)
    have hye:y.ext=X:=by rw[HY.out]
    have g2x:w9.cell? ⟨w1.heap.size,2,none⟩=some (.slice Rx X.length cx4):=by
     have:=H9.out.box.c.2.2
     rw[← hye]
     exact this
    clear hye
    have HTK:Hid (zjo R3 X (jl+1) (s:Int)=splice R3 ((zaq X)[jl]*64+rs) (List.replicate zl 0)):=by
     show _=_
     unfold zjo
     rw[zp hrest,hrs,Int.toNat_natCast,hzl,show jl+1-1=jl by omega,List.getD_eq_getElem?_getD,List.getElem?_eq_getElem hjlt]
     rfl
    have hlen2:=F2.out
    have d5:decide (0<(rs:Int))=true:=by simp only[decide_eq_true_eq];omega
    clear hrest
    go_wp2_with fail
    refine HBL3.out.mono ?_
    rintro en w10 ⟨Rl,cl,rfl,own10,b10⟩
    rw[zar F1.out] at own10 ⊢
    obtain⟨gl,rfl,hgl,hcl⟩:=own10.ir jl (zaq X)[jl] (List.getElem?_eq_getElem hjlt)
    rw[hlen2]
    have h10:=H9.out.new (zac (F:=fun _=>False) b10)
    have h11:=h10.new (Keeps.alloc (fun _=>False) w10 (.cells (madeCells #[.int .u8 0] zl) 5))
    have hlay:=ziw h11.ref (6144+(((zaq X)[jl]*64+rs:Nat):Int)) (by omega) (by omega) (some ⟨w10.heap.size,0,none⟩) (List.replicate zl 0) zl (Row8.made w10 zl 5).br (fun ad e1 _=>by cases e1;have:=h10.ref.lt;show w10.heap.size≠b;omega) (by rw[List.length_replicate];omega)
    rw[zq1 hM HP3.out (by rw[List.length_replicate];omega),← HTK.out,List.length_replicate] at hlay
    have HL:=zq hlay
    have H11:=zq h11
    clear own10 b10 h10 h11 hlay HBL3 H9 HTK HP3 g2x F1 F2 hlen2
    generalize (zaq X)[jl]=L at *
    subst hzl
    have hmk2:=zfq (64-rs) (by omega)
    have v0:IntKind.i64.wrap (((jl+1:Nat):Int)-1)=(jl:Int):=by rw[IntKind.wrap_i64];omega
    have v1:IntKind.i64.wrap ((L:Int)*64)=(L:Int)*64:=by rw[IntKind.wrap_i64];omega
    have v2:IntKind.i64.wrap (6144+(L:Int)*64)=6144+(L:Int)*64:=by rw[IntKind.wrap_i64];omega
    have v3:IntKind.i64.wrap (6144+(L:Int)*64+(rs:Int))=6144+((L*64+rs:Nat):Int):=by rw[IntKind.wrap_i64];omega
    have v5:IntKind.i64.wrap (6144+(L:Int)*64+(s:Int) % 64)=6144+((L*64+rs:Nat):Int):=by rw[IntKind.wrap_i64];omega
    have v6:IntKind.i64.wrap (64-(s:Int) % 64)=((64-rs:Nat):Int):=by rw[IntKind.wrap_i64];omega
    have v4:IntKind.i64.wrap (64-(rs:Int))=((64-rs:Nat):Int):=by rw[IntKind.wrap_i64];omega
    go_wp2_with fail
    refine HL.out.mono ?_
    rintro en w12 ⟨rfl,h12,k12⟩
    have HG:=zq (HCONS.out w12 _ (H11.out.keepB k12 h12) rfl)
    clear h12 k12 HL H11 HCONS
    go_wp2_with fail
    go_ret
    exact HG.out
 ·have d3:decide (((zaq (at' (zaa (zab M)) i).ext).length:Int)≤(N:Int))=false:=by simp only[decide_eq_false_iff_not];omega
  have hgr:=zr6 R (at' (zaa (zab M)) i).ext cx (zao (zaa (zab M))) (N:Int) w3 (HXB.out.below B2.out |>.more B2.out.size) HFW.out (zdi _)
  have hgv:zbm (at' (zaa (zab M)) i).ext (zao (zaa (zab M))) (N:Int)=rzD (at' (zaa (zab M)) i).ext (zao (zaa (zab M))) N:=by unfold rzD;rw[zn hge]
  rw[hgv] at hgr
  clear hgv
  have hbw:b<wb.heap.size∧w.heap.size≤w1.heap.size:=by have:=H.out.lt;have:=KB.out.size;have:=K1.out.size;omega
  have hfe:zh1 (at' (zaa (zab M)) i).ext (zao (zaa (zab M))) N=0:=by
   rw[zjc HOK.out HBT.out]
   omega
  obtain⟨e1,e2⟩:=yf3 HOK.out (zdi _) HBT.out hfe
  obtain⟨f1,f2,f3⟩:=zih HOK.out HBT.out hfe
  obtain⟨X,U2,hD⟩:∃ X U2,rzD (at' (zaa (zab M)) i).ext (zao (zaa (zab M))) N=(X,U2,0):=⟨_,_,by rw[← e2]⟩
  rw[hD] at hgr e1
  have hXX:zd8 (at' (zaa (zab M)) i).ext (zao (zaa (zab M))) N=X:=e1.symm
  rw[hXX] at f1 f2
  have hgr2:Calls Tryz.prog 113 #[.slice R (at' (zaa (zab M)) i).ext.length cx,.int .u32 (zao (zaa (zab M)):Int),.int .i64 (N:Int)] w3 (fun en w'=>∃ Rx cx4,en=.returned (.tuple #[.slice Rx X.length cx4,.int .u32 (U2:Int),.int .i64 0])∧XR w' w'.heap.size Rx X∧Below w3.heap.size w3 w'∧∀ ad,Rx=some ad→w3.heap.size≤ad.block):=hgr
  have hxl:X.length≤100:=by have:=zkm f1;omega
  have hne1:(at' (zaa (zab M)) i).name≠[]:=by simpa [isF] using HF.out
  have hU2:U2=zao ((zaa (zab M)).set i ⟨(at' (zaa (zab M)) i).name,(s:Int),X⟩):=by
   have:=zt5 HO.out hi8 HF.out HOK.out HBT.out (at' (zaa (zab M)) i).name hne1 (s:Int) hfe
   rw[hD,hXX] at this
   exact this
  have hnw:rzN (at' (zaa (zab M)) i).ext (zao (zaa (zab M))) N=[]:=by unfold rzN;rw[show N-(zaq (at' (zaa (zab M)) i).ext).length=0 by omega,List.take_zero]
  have HGR:=zq hgr2
  have HXX:=zq hXX
  have F1:=zq f1
  have F2:=zq f2
  have HFE:=zq hfe
  have HU2:=zq hU2
  have HNV:=zq hnw
  clear e1 e2 f1 f2 f3 hfe HBAD hgr hgr2 hD hXX hne1 hU2 hnw
  obtain⟨h0,h1,h2⟩:=(HBX.out.below B2.out).c
  have y2:=(HBX.out.below B2.out).fz 2
  clear h0 h1
  go_wp2_with fail
  refine HGR.out.mono ?_
  rintro en wr ⟨Rx,cx4,rfl,hx4,b4,hnew⟩
  obtain⟨R0,hR00⟩:∃ R0,R0=zlh (zab M) [] ([]:List Nat).length:=⟨_,rfl⟩
  have hR01:R0=zab M:=hR00
  have hrs:RSt w mi q b c d e w1.heap.size M G R0 ⟨at' (zaa (zab M)) i,R,cx⟩ Rx X wr:=by
   rw[hR01]
   have b45:=B2.out.trans (b4.mono B2.out.size)
   have hk:=KB.out.trans (zac (F:=fun _=>False) b45)
   refine⟨?_,HBX.out.below b45,hx4,fun ad e=>?_,hk.mono fun _ _ f=>f.elim,?_,hbw.2,?_⟩
   ·rw[zj7 hM]
    exact H.out.keep hk fun _ _ _ f=>f
   ·have:=hnew ad e
    have:=B2.out.size
    omega
   ·have:=H.out.lt;omega
   ·have:=b45.size;omega
  obtain⟨g0,g1,g2⟩:=hrs.box.c
  have z1:=hrs.box.fz 1
  have z2:=hrs.box.fz 2
  have HR:=zq hrs
  have HRS:=zq hrs
  have HEND:=zq (zt4 (zcz hM) HO.out hi8 HF.out HOK.out HBT.out (size:=(s:Int)) (by omega) (by omega) HNN.out HFE.out HXX.out rfl)
  rw[HNV.out,← HU2.out] at HEND
  rw[← hR00] at HEND
  have hR0:R0.length=2048:=by rw[hR01];exact zcz hM
  clear hrs hx4 b4 hnew HGR h2 y2 hc2' hR00 hR01
  obtain⟨y,hy⟩:∃ y:IN,y=⟨(at' (zaa (zab M)) i).name,(s:Int),X⟩:=⟨_,rfl⟩
  have hchk:zd6 y=true:=by
   have hc:zd6 (at' (zaa (zab M)) i)=true:=by
    have hf:=HF.out
    rw[zbw _ hi8] at hf ⊢
    rcases zij (zaw (zab M) (1+i)) with h | h
    ·rw[h] at hf;cases hf
    ·exact h
   rw[hy]
   unfold zd6 at hc ⊢
   simp only[Bool.and_eq_true,decide_eq_true_eq] at hc ⊢
   rw[zar F1.out,F2.out]
   exact⟨hc.1,by omega,by omega,F1.out,HNN.out.symm⟩
  have hnm:y.name.length≤100000:=by have:=(zck hchk).1;omega
  have hbx2:=HR.out.box.put Rx X cx4
  have hr2:=HR.out.put H.out (Keeps.setCell (fun k=>k=w1.heap.size) wr _ (.slice Rx X.length cx4) rfl) hbx2
  have hr3:=hr2.put H.out (Keeps.setCell (fun k=>k=w1.heap.size) _ ⟨w1.heap.size,1,none⟩ (.int .i64 (s:Int)) rfl) (hr2.box.putSize (s:Int))
  obtain⟨ws,hws⟩:∃ ws,ws=(wr.setCell ⟨w1.heap.size,2,none⟩ (.slice Rx X.length cx4)).setCell ⟨w1.heap.size,1,none⟩ (.int .i64 (s:Int)):=⟨_,rfl⟩
  rw[← hws] at hr3
  have hr4:RSt w mi q b c d e w1.heap.size M G R0 ⟨y,Rx,cx4⟩ Rx X ws:=by rw[hy];exact hr3
  have hen:Calls Tryz.prog 90 #[.agg #[St (at' (zaa (zab M)) i).name,.int .i64 (s:Int),.slice Rx X.length cx4]] ws (zim ws y):=by
   have:=zgf y Rx cx4 ws ⟨by rw[hy];exact hr4.xr,by rw[hy];exact hxl,hnm,by rw[hy];show -9223372036854775808≤(s:Int)∧(s:Int)≤9223372036854775807;omega⟩
   rw[hy] at this ⊢
   exact this
  have HLAY:=zq fun (W:World) (Re:Option Addr) (ce:Nat) (ho:Own8 W ws.heap.size 5 Re ce (zdr y)) (hb:Below ws.heap.size ws W)=>by
   have h5:=hr4.new (zac (F:=fun _=>False) hb)
   have:=zoy (M:=M) (R:=R0) h5.ref hM hR0 (1+i) (by omega) Re (zdr y) ce ho.br (Fr.RefH.own_ne hr4.ref ho) (zay _)
   rw[zay,show((1+i:Nat):Int)=1+(i:Int) by omega,← zf1 hchk] at this
   exact And.intro h5 this
  have HEN:=zq hen
  have HCHK:=zq hchk
  have HWS:=zq hws
  have HR4:=zq hr4
  have HRD:=zq fun W=>zg0 U2 (by rw[HU2.out];exact zdi _) W
  have HLY:=zq (zcn y)
  have q4:IntKind.i64.wrap (1+(i:Int))=1+(i:Int):=by rw[IntKind.wrap_i64];omega
  rw[← hy] at HEND
  have HY:=zq hy
  have hval:zag ⟨zab M,zaa (zab M)⟩ (i:Int) (s:Int)=(0,⟨zbo (zab M) X (zj8 (zam (zab M) (at' (zaa (zab M)) i).ext) (N*64) (s:Int).toNat),(zaa (zab M)).set i y⟩):=by
   unfold zag
   rw[HRE.out,HFE.out,zp rfl]
   unfold zb5
   simp only[HX.out,HNN.out,Int.toNat_natCast,HXX.out]
   rw[hy]
  have HVAL:=zq hval
  clear hval
  clear hen hchk hws hr4 hr3 hr2 hbx2 HR HRS HF HBT HFE HXX HU2 hy
  go_wp2_with fail
  rw[← HWS.out]
  refine HEN.out.mono ?_
  rintro en w6 (hbad | ⟨Re,ce,rfl,own6,b6⟩)
  ·rw[HCHK.out] at hbad;cases hbad
  obtain⟨h6,hl6⟩:=HLAY.out w6 Re ce own6 b6
  have H6:=zq h6
  have HL6:=zq hl6
  clear own6 b6 h6 hl6 HLAY HEN HCHK HWS HR4
  go_wp2_with fail
  refine HL6.out.mono ?_
  rintro en w7 ⟨rfl,h7,k7⟩
  have H7:=zq (H6.out.keepB k7 h7)
  clear h7 k7 HL6 H6
  go_wp2_with fail
  refine(HRD.out w7).mono ?_
  rintro en w8 ⟨Rh,ch,rfl,own8,b8⟩
  have h8:=H7.out.new (zac (F:=fun _=>False) b8)
  have hp2:=zei hR0 (n:=1+i) (by omega) HLY.out
  have hl8:=zoy (M:=M) (R:=zau R0 (1+i) (zcf y)) h8.ref hM hp2 0 (by omega) Rh (zb7 U2) ch own8.br (Fr.RefH.own_ne H7.out.ref own8) (zbj _)
  have HP3:=zq (zei hp2 (n:=0) (by omega) (zbj U2))
  have H8:=zq h8
  have HL8:=zq hl8
  clear own8 b8 h8 hl8 hp2 H7 HRD
  go_wp2_with fail
  refine HL8.out.mono ?_
  rintro en w9 ⟨rfl,h9,k9⟩
  have H9:=zq (H8.out.keepB k9 h9)
  clear h9 k9 HL8 H8
  generalize zau (zau R0 (1+i) (zcf y)) 0 (zb7 U2)=R3 at *
  have hcons:∀ W R4,RSt w mi q b c d e w1.heap.size M G R4 ⟨y,Rx,cx4⟩ Rx X W→zjo R3 X N (s:Int)=R4→zm4 w mi q b c d e M G (zag ⟨zab M,zaa (zab M)⟩ (i:Int) (s:Int)) (.returned (.int .i64 0)) W:=fun W R4 hW hT=>by
   rw[HVAL.out]
   refine⟨rfl,?_,hW.kp⟩
   rw[zp rfl]
   show RefH W mi q b c d e (zbx M 6144 (zad ⟨zbo (zab M) X (zj8 (zam (zab M) (at' (zaa (zab M)) i).ext) (N*64) (s:Int).toNat),(zaa (zab M)).set i y⟩)) G
   rw[← HEND.out,hT]
   exact hW.ref
  have HCONS:=zq hcons
  clear hcons HVAL HEND
  by_cases hrest:0<(s:Int) % 64
  case neg =>
   have d5:decide (0<(s:Int) % 64)=false:=by simp only[decide_eq_false_iff_not];exact hrest
   have HG:=zq (HCONS.out w9 R3 H9.out (by unfold zjo;rw[zn hrest]))
   clear HCONS hrest H9
   go_wp2_with fail
   go_ret
   exact HG.out
  obtain⟨rs,hrs⟩:∃ rs:Nat,(s:Int) % 64=rs:=⟨s % 64,by omega⟩
  have hrs64:0<rs∧rs<64:=by omega
  obtain⟨jl,rfl⟩:∃ jl,N=jl+1:=⟨N-1,by omega⟩
  have hjlt:jl<(zaq X).length:=by have:=F2.out;omega
  have hl32:=(zcr X F1.out).2 (zaq X)[jl] (List.getElem_mem hjlt)
  obtain⟨zl,hzl⟩:∃ zl:Nat,zl=64-rs:=⟨_,rfl⟩
  have HBL3:=zq (zcc Rx X cx4 w9 H9.out.xr hxl)
  have hye:y.ext=X:=by rw[HY.out]
  have g2x:w9.cell? ⟨w1.heap.size,2,none⟩=some (.slice Rx X.length cx4):=by
   have:=H9.out.box.c.2.2
   rw[← hye]
   exact this
  clear hye
  have HTK:Hid (zjo R3 X (jl+1) (s:Int)=splice R3 ((zaq X)[jl]*64+rs) (List.replicate zl 0)):=by
   show _=_
   unfold zjo
   rw[zp hrest,hrs,Int.toNat_natCast,hzl,show jl+1-1=jl by omega,List.getD_eq_getElem?_getD,List.getElem?_eq_getElem hjlt]
   rfl
  have hlen2:=F2.out
  have d5:decide (0<(rs:Int))=true:=by simp only[decide_eq_true_eq];omega
  clear hrest
  go_wp2_with fail
  refine HBL3.out.mono ?_
  rintro en w10 ⟨Rl,cl,rfl,own10,b10⟩
  rw[zar F1.out] at own10 ⊢
  obtain⟨gl,rfl,hgl,hcl⟩:=own10.ir jl (zaq X)[jl] (List.getElem?_eq_getElem hjlt)
  rw[hlen2]
  have h10:=H9.out.new (zac (F:=fun _=>False) b10)
  have h11:=h10.new (Keeps.alloc (fun _=>False) w10 (.cells (madeCells #[.int .u8 0] zl) 5))
  have hlay:=ziw h11.ref (6144+(((zaq X)[jl]*64+rs:Nat):Int)) (by omega) (by omega) (some ⟨w10.heap.size,0,none⟩) (List.replicate zl 0) zl (Row8.made w10 zl 5).br (fun ad e1 _=>by cases e1;have:=h10.ref.lt;show w10.heap.size≠b;omega) (by rw[List.length_replicate];omega)
  rw[zq1 hM HP3.out (by rw[List.length_replicate];omega),← HTK.out,List.length_replicate] at hlay
  have HL:=zq hlay
  have H11:=zq h11
  clear own10 b10 h10 h11 hlay HBL3 H9 HTK HP3 g2x F1 F2 hlen2
  generalize (zaq X)[jl]=L at *
  subst hzl
  have hmk2:=zfq (64-rs) (by omega)
  have v0:IntKind.i64.wrap (((jl+1:Nat):Int)-1)=(jl:Int):=by rw[IntKind.wrap_i64];omega
  have v1:IntKind.i64.wrap ((L:Int)*64)=(L:Int)*64:=by rw[IntKind.wrap_i64];omega
  have v2:IntKind.i64.wrap (6144+(L:Int)*64)=6144+(L:Int)*64:=by rw[IntKind.wrap_i64];omega
  have v3:IntKind.i64.wrap (6144+(L:Int)*64+(rs:Int))=6144+((L*64+rs:Nat):Int):=by rw[IntKind.wrap_i64];omega
  have v5:IntKind.i64.wrap (6144+(L:Int)*64+(s:Int) % 64)=6144+((L*64+rs:Nat):Int):=by rw[IntKind.wrap_i64];omega
  have v6:IntKind.i64.wrap (64-(s:Int) % 64)=((64-rs:Nat):Int):=by rw[IntKind.wrap_i64];omega
  have v4:IntKind.i64.wrap (64-(rs:Int))=((64-rs:Nat):Int):=by rw[IntKind.wrap_i64];omega
  go_wp2_with fail
  refine HL.out.mono ?_
  rintro en w12 ⟨rfl,h12,k12⟩
  have HG:=zq (HCONS.out w12 _ (H11.out.keepB k12 h12) rfl)
  clear h12 k12 HL H11 HCONS
  go_wp2_with fail
  go_ret
  exact HG.out
end Fr
end Go.Proofs.YtdopfpcjpjlkmaaGreatDoor
