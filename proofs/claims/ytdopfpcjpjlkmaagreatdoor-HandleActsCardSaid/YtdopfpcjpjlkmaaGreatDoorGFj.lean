/- merged -/
import Derived.Test.YtdopfpcjpjlkmaaGreatDoorGFi
set_option maxHeartbeats 1000000
set_option linter.unusedSimpArgs false
set_option linter.unusedVariables false
namespace Go.Proofs.YtdopfpcjpjlkmaaGreatDoor
namespace Mm
open Go.RowKit Go.Maps
end Mm
namespace Mm
open Go.RowKit Go.Maps
variable {w:World} {mi q b c d e:Nat} {B G:List UInt8}
set_option maxRecDepth 100000 in
theorem zm6 (A:Option Addr)(xs:List UInt8)(c:Nat)(a:Int)(n:Int)(w:World)(hx:BR w w.heap.size A xs)(hl:xs.length≤1000000)(ha:-9223372036854775808≤a)(ha':a≤9223372036854775807):
  Calls Tryz.prog 115 #[.slice A xs.length c,.int .i64 a,.int .i64 n] w (zhc w (zfk xs a (IntKind.u64.wrap n).toNat 8)):=by
 go_enter Tryz.func115,Tryz.ntmps115
 have hw:IntKind.u64.wrap n=((IntKind.u64.wrap n).toNat:Int):=(Int.toNat_of_nonneg (by rw[IntKind.wrap_u64];omega)).symm
 have HW:=zq hw
 clear hw
 go_wp2_with fail
 rw[HW.out]
 refine(zd2 _ _ _ _ _ _ _ hx hl ha ha').mono ?_
 rintro e w1 ⟨R,c1,rfl,hr,hb⟩
 go_wp2_with fail
 go_ret
 exact⟨R,c1,rfl,hr,hb⟩
end Mm
namespace Mm
open Go.RowKit Go.Maps
theorem yd7 (M:List UInt8)(a:Int)(xs:List UInt8)(k:Nat)(hk:k<xs.length)(h0:0≤a+k)(h1:a+k<M.length):zkt M a xs (a+((k+1:Nat):Int))=(zkt M a xs (a+k)).set (a+k).toNat (xs.getD k 0):=by
 refine za7 (by rw[zcs,List.length_set,zcs]) fun i hi=>?_
 rw[zcs] at hi
 rw[zdc _ _ _ _ _ hi,List.getD_eq_getElem?_getD (l:=(zkt M a xs (a+k)).set _ _),List.getElem?_set,zcs]
 by_cases e:(a+k).toNat=i
 ·have c1:a≤i∧(i:Int)<a+((k+1:Nat):Int)∧(i:Int)<a+xs.length:=by omega
  have c2:(a+k).toNat<M.length:=by omega
  rw[zp e,zp c1,zp c2,zcl _ _ (by omega),show((i:Int)-a).toNat=k by omega]
  rfl
 ·rw[zn e,← List.getD_eq_getElem?_getD,zdc _ _ _ _ _ hi]
  by_cases c:a≤i∧(i:Int)<a+k∧(i:Int)<a+xs.length
  ·rw[zp c,zp (by omega)]
  ·rw[zn c,zn (by omega)]
theorem zmg (M:List UInt8)(a:Int)(xs:List UInt8)(k:Nat)(h:a+k<0∨M.length≤a+k):zkt M a xs (a+((k+1:Nat):Int))=zkt M a xs (a+k):=by
 refine za7 (by rw[zcs,zcs]) fun i hi=>?_
 rw[zcs] at hi
 rw[zdc _ _ _ _ _ hi,zdc _ _ _ _ _ hi]
 by_cases c:a≤i∧(i:Int)<a+k∧(i:Int)<a+xs.length
 ·rw[zp c,zp (by omega)]
 ·rw[zn c,zn (by omega)]
theorem yd8 (M:List UInt8)(a:Int)(xs:List UInt8):zkt M a xs (a+xs.length)=zbx M a xs:=by
 refine za7 (by rw[zcs,zbd]) fun i hi=>?_
 rw[zcs] at hi
 rw[zdc _ _ _ _ _ hi,zbs _ _ _ _ hi]
 by_cases c:a≤i∧(i:Int)<a+xs.length
 ·rw[zp c,zp (by omega)]
 ·rw[zn c,zn (by omega)]
variable {w:World} {mi q b c d e:Nat} {B G:List UInt8}
set_option maxRecDepth 100000 in
theorem ziw (h:RefH w mi q b c d e B G)(a:Int)(ha:-9223372036854775808≤a)(ha':a≤9223372036854775807)(A:Option Addr)(xs:List UInt8)(cp:Nat)(hx:BR w w.heap.size A xs)
  (hA:∀ ad,A=some ad→xs≠[]→ad.block≠b) (hxl:xs.length≤140737488351232):
  Calls Tryz.prog 63 #[.pointer (some ⟨q,0,none⟩),.int .i64 a,.slice A xs.length cp] w fun e' w'=>e'=.returned (.tuple #[])∧RefH w' mi q b c d e (zbx B a xs) G∧Keeps (fun k=>k=b) w w':=by
 have bl:=h.bl
 have HX:=zq hx
 clear hx
 go_enter Tryz.func63,Tryz.ntmps63
 go_wp2_with fail
 go_loopw [9,6] (fun i _ wr=>∃ k:Nat,k≤xs.length∧i=.int .i64 (k:Int)∧RefH wr mi q b c d e (zkt B a xs (a+k)) G∧Keeps (fun k=>k=b) w wr) (fun i _ _=>xs.length-(RowKit.intOf i).toNat)
 case atStart=>exact⟨0,by omega,rfl,by rw[zhn B a xs _ (by omega)];exact h,Keeps.refl _ _⟩
 case round =>
  obtain⟨k,hk,rfl,hr,kk⟩:=hrel
  by_cases hlt:k<xs.length
  ·by_cases c1:a≤8192
   ·by_cases c2:0≤a+k
    ·by_cases c3:a+k<8192
     ·obtain⟨x0,x1,x2⟩:=hr.cs
      obtain⟨y0,y1⟩:=hr.byte (k:=(a+k).toNat) (by omega)
      have hne:xs≠[]:=by intro e;rw[e] at hlt;simp at hlt
      obtain⟨ad,rfl,hab,hcell⟩:=HX.out hne
      have had:=hA ad rfl hne
      have z0:wr.cell? (ad.add k)=some (B8 (xs.getD k 0)):=by
       rw[World.cell?_of_block (w:=w) (by rw[zan];exact kk.block _ hab had)]
       have hg:xs[k]?=some (xs.getD k 0):=by
        rw[List.getD_eq_getElem?_getD,List.getElem?_eq_getElem hlt];rfl
       exact hcell k _ hg
      have fin:=hr.set_ (a+k).toNat (xs.getD k 0)
      rw[← yd7 B a xs k hlt c2 (by omega)] at fin
      have FIN:=zq fin
      have KF:=zq (kk.trans (Keeps.setCell (fun k=>k=b) wr ⟨b,(a+k).toNat,none⟩ (B8 (xs.getD k 0)) rfl))
      clear fin hr kk hcell
      generalize (zkt B a xs (a+k)).getD (a+k).toNat 0=u0 at *
      generalize xs.getD k 0=u1 at *
      obtain⟨t,ht⟩:∃ t:Nat,a+k=(t:Int):=⟨(a+k).toNat,by omega⟩
      have W1:IntKind.i64.wrap (a+k)=(t:Int):=by rw[ht];exact IntWalk.i64_in _ (by omega)
      have ht':(a+k).toNat=t:=by omega
      rw[ht'] at y0 y1 FIN KF
      clear ht'
      go_wp2_with fail
      go_region
      go_wp2_with fail
      go_roundw
      case rel=>exact⟨k+1,by omega,by go_num,FIN.out.keep (Keeps.drew (fun _=>False) _) (fun _ _ _ h=>h),KF.out.trans (Keeps.drew _ _)⟩
      case measure=>simp[RowKit.intOf];omega
     ·have HR:=zq (zmg B a xs k (by omega) ▸ hr)
      have KF:=zq kk
      clear hr kk
      obtain⟨t,ht⟩:∃ t:Nat,a+k=(t:Int):=⟨(a+k).toNat,by omega⟩
      have W1:IntKind.i64.wrap (a+k)=(t:Int):=by rw[ht];exact IntWalk.i64_in _ (by omega)
      have c4:¬(t:Int)<8192:=by omega
      go_wp2_with fail
      go_roundw
      case rel=>exact⟨k+1,by omega,by go_num,HR.out,KF.out⟩
      case measure=>simp[RowKit.intOf];omega
    ·have HR:=zq (zmg B a xs k (by omega) ▸ hr)
     have KF:=zq kk
     clear hr kk
     obtain⟨t,ht⟩:∃ t:Nat,a+k=-(t:Int):=⟨(-(a+k)).toNat,by omega⟩
     have W1:IntKind.i64.wrap (a+k)=-(t:Int):=by rw[ht];exact IntWalk.i64_in _ (by omega)
     have c4:¬0≤-(t:Int):=by omega
     go_wp2_with fail
     go_roundw
     case rel=>exact⟨k+1,by omega,by go_num,HR.out,KF.out⟩
     case measure=>simp[RowKit.intOf];omega
   ·have HR:=zq (zmg B a xs k (by omega) ▸ hr)
    have KF:=zq kk
    clear hr kk
    go_wp2_with fail
    go_roundw
    case rel=>exact⟨k+1,by omega,by go_num,HR.out,KF.out⟩
    case measure=>simp[RowKit.intOf];omega
  ·obtain rfl:k=xs.length:=by omega
   have HR:=zq (yd8 B a xs ▸ hr)
   have KF:=zq kk
   clear hr kk
   go_wp2_with fail
   all_goals
    go_end0
    exact⟨rfl,HR.out,KF.out⟩
theorem zqy (M:List UInt8)(a:Int)(n k:Nat)(hk:k<n):zf2 M a n (a+((k+1:Nat):Int))=(zf2 M a n (a+k)).set k (byt M (a+k)):=by
 refine za7 (by rw[zcj,List.length_set,zcj]) fun i hi=>?_
 rw[zcj] at hi
 rw[zee _ _ _ _ _ hi,List.getD_eq_getElem?_getD (l:=(zf2 M a n (a+k)).set _ _),List.getElem?_set,zcj]
 by_cases e:k=i
 ·subst e
  have c1:a+(k:Int)<a+((k+1:Nat):Int):=by omega
  rw[zp rfl,zp c1,zp hk]
  rfl
 ·rw[zn e,← List.getD_eq_getElem?_getD,zee _ _ _ _ _ hi]
  by_cases c:a+(i:Int)<a+k
  ·rw[zp c,zp (by omega)]
  ·rw[zn c,zn (by omega)]
theorem zj5 (M:List UInt8)(a:Int)(n k:Nat)(hk:k<n)(h:a+k<0∨M.length≤a+k):zf2 M a n (a+((k+1:Nat):Int))=zf2 M a n (a+k):=by
 rw[zqy M a n k hk,zff _ _ h]
 refine za7 (by rw[List.length_set]) fun i hi=>?_
 rw[List.length_set,zcj] at hi
 rw[List.getD_eq_getElem?_getD (l:=(zf2 M a n (a+k)).set _ _),List.getElem?_set,zcj]
 by_cases e:k=i
 ·subst e
  have c1:¬a+(k:Int)<a+k:=by omega
  rw[zp rfl,zp hk,zee _ _ _ _ _ hk,zn c1]
  rfl
 ·rw[zn e,← List.getD_eq_getElem?_getD]
def yck (w:World) (zs:List UInt8) (e:Ending) (w':World):Prop:=∃ g,e=.returned (.slice (some ⟨g,0,none⟩) zs.length zs.length)∧Row8 w' g 5 zs∧Keeps (fun _=>False) w w'
set_option maxRecDepth 100000 in
theorem yde (h:RefH w mi q b c d e B G)(a n:Int)(ha:-9223372036854775808≤a)(ha':a≤9223372036854775807):
  Calls Tryz.prog 162 #[.pointer (some ⟨q,0,none⟩),.int .i64 a,.int .i64 n] w (yck w (zj6 B a (zds n 8192).toNat)):=by
 have hr:=zef n 8192 (by omega)
 generalize hm:zds n 8192=m at *
 unfold zds at hm
 obtain⟨z,rfl⟩:=Int.eq_ofNat_of_zero_le hr.1
 rw[Int.toNat_natCast]
 have hmk:=zfq z (by omega)
 have bl:=h.bl
 have k1:Keeps (fun _=>False) w (w.alloc (.cells (madeCells #[.int .u8 0] z) 5)):=Keeps.alloc _ _ _
 have h1:=h.keep k1 (fun _ _ _ h=>h)
 have r1:=Row8.made w z 5
 have s1:w.heap.size<(w.alloc (.cells (madeCells #[.int .u8 0] z) 5)).heap.size:=by simp
 have hlt:=h.lt
 clear h
 go_enter Tryz.func162,Tryz.ntmps162
 go_wp2_with fail
 all_goals
  clear hm hmk
  generalize w.alloc (.cells (madeCells #[.int .u8 0] z) 5)=w1 at *
  go_loopw [15,8] (fun i _ wr=>∃ k:Nat,k≤z∧i=.int .i64 (k:Int)∧Row8 wr w.heap.size 5 (zf2 B a z (a+k))∧RefH wr mi q b c d e B G∧Keeps (fun _=>False) w wr) (fun i _ _=>z-(RowKit.intOf i).toNat)
  case atStart=>exact⟨0,by omega,rfl,by rw[zgk B a z _ (by omega)];exact r1,h1,k1⟩
  case round =>
   obtain⟨k,hk,rfl,hrow,hr,kk⟩:=hrel
   by_cases hlt:k<z
   ·by_cases c1:a≤8192
    ·by_cases c2:0≤a+k
     ·by_cases c3:a+k<8192
      ·obtain⟨x0,x1,x2⟩:=hr.cs
       obtain⟨y0,y1⟩:=hr.byte (k:=(a+k).toNat) (by omega)
       have z0:=hrow.cell_ (k:=k) (by rw[zcj];exact hlt)
       have z1:=hrow.free k
       have fin:=hrow.set_ k (byt B (a+k))
       rw[← zqy B a z k hlt] at fin
       rw[zcl _ _ c2] at fin
       have hlw:w.heap.size<wr.heap.size:=hrow.lt_
       have kS:Keeps (fun i=>i=w.heap.size) wr (wr.setCell ⟨w.heap.size,k,none⟩ (B8 (B.getD (a+k).toNat 0))):=Keeps.setCell _ _ _ _ rfl
       have FIN:=zq fin
       have KF:=zq (Keeps.thru (F'':=fun _=>False) kk kS (fun _ _ h=>h) fun i hi h=>by omega)
       have HR:=zq (show RefH (wr.setCell ⟨w.heap.size,k,none⟩ (B8 (B.getD (a+k).toNat 0))) mi q b c d e B G from by
        refine⟨hr.q0,hr.bl,hr.gl,(kS.block q hr.lt.1 ?_).trans hr.head,hr.now.keeps' kS ?_,hr.was.keeps' kS ?_,hr.bq,hr.dq,hr.bd⟩<;>omega)
       clear fin kS hr hrow kk
       generalize (zf2 B a z (a+k)).getD k 0=u0 at *
       obtain⟨t,ht⟩:∃ t:Nat,a+k=(t:Int):=⟨(a+k).toNat,by omega⟩
       have W1:IntKind.i64.wrap (a+k)=(t:Int):=by rw[ht];exact IntWalk.i64_in _ (by omega)
       have ht':(a+k).toNat=t:=by omega
       rw[ht'] at y0 y1 FIN KF HR
       generalize B.getD t 0=u1 at *
       clear ht'
       go_wp2_with fail
       go_roundw
       case rel=>exact⟨k+1,by omega,by go_num,FIN.out,HR.out,KF.out⟩
       case measure=>simp[RowKit.intOf];omega
      ·have R1:=zq (zj5 B a z k hlt (by omega) ▸ hrow)
       have HR:=zq hr
       have KF:=zq kk
       clear hrow hr kk
       obtain⟨t,ht⟩:∃ t:Nat,a+k=(t:Int):=⟨(a+k).toNat,by omega⟩
       have W1:IntKind.i64.wrap (a+k)=(t:Int):=by rw[ht];exact IntWalk.i64_in _ (by omega)
       have c4:¬(t:Int)<8192:=by omega
       go_wp2_with fail
       go_roundw
       case rel=>exact⟨k+1,by omega,by go_num,R1.out,HR.out,KF.out⟩
       case measure=>simp[RowKit.intOf];omega
     ·have R1:=zq (zj5 B a z k hlt (by omega) ▸ hrow)
      have HR:=zq hr
      have KF:=zq kk
      clear hrow hr kk
      obtain⟨t,ht⟩:∃ t:Nat,a+k=-(t:Int):=⟨(-(a+k)).toNat,by omega⟩
      have W1:IntKind.i64.wrap (a+k)=-(t:Int):=by rw[ht];exact IntWalk.i64_in _ (by omega)
      have c4:¬0≤-(t:Int):=by omega
      go_wp2_with fail
      go_roundw
      case rel=>exact⟨k+1,by omega,by go_num,R1.out,HR.out,KF.out⟩
      case measure=>simp[RowKit.intOf];omega
    ·have R1:=zq (zj5 B a z k hlt (by omega) ▸ hrow)
     have HR:=zq hr
     have KF:=zq kk
     clear hrow hr kk
     go_wp2_with fail
     go_roundw
     case rel=>exact⟨k+1,by omega,by go_num,R1.out,HR.out,KF.out⟩
     case measure=>simp[RowKit.intOf];omega
   ·obtain rfl:k=z:=by omega
    have R1:=zq (zns B bl a k (a+k) (Or.inl (by omega)) ▸ hrow)
    have KF:=zq kk
    clear hrow hr kk
    go_wp2_with fail
    go_ret
    exact⟨w.heap.size,by rw[zda];rfl,R1.out,KF.out⟩
end Mm
namespace Mm
open Go.RowKit Go.Maps
theorem aggS:∀ w,(isAgg 31).run Tryz.prog w=.ok false w:=fun w=>by kernel_rfl
theorem yfg {W:World} {mi q b c d e:Nat} {B G:List UInt8} (h:RefH W mi q b c d e B G):(convert 31 9 (.slice (some ⟨b,0,none⟩) 8192 c)).run Tryz.prog W=.ok (.string ⟨B.toArray⟩) W:=by
 have:=zex (P:=Tryz.prog) W _ 31 9 5 _ B c h.br Tryz.underlying31 Tryz.underlying5 Tryz.underlying9
 rw[h.bl] at this
 exact this
theorem yff {W:World} {g:Nat} {B:List UInt8} (n:Nat)(hl:B.length=n)(h:Row8 W g 5 B):(convert 31 9 (.slice (some ⟨g,0,none⟩) n n)).run Tryz.prog W=.ok (.string ⟨B.toArray⟩) W:=by
 have:=zex (P:=Tryz.prog) W _ 31 9 5 _ B B.length h.br Tryz.underlying31 Tryz.underlying5 Tryz.underlying9
 rw[hl] at this
 exact this
theorem RefH.keep3 {w w':World} {mi q b c d e:Nat} {B G:List UInt8} {F:Nat→Prop} (h:RefH w mi q b c d e B G)(k:Keeps F w w')(hq:¬F q)(hb:¬F b)(hd:¬F d):RefH w' mi q b c d e B G:=
 ⟨h.q0,h.bl,h.gl,(k.block q h.lt.1 hq).trans h.head,h.now.keeps' k hb,h.was.keeps' k hd,h.bq,h.dq,h.bd⟩
structure Pair (w:World) (lo mi hi p q:Nat) (G M B:List UInt8):Prop where
 mem:∃ gb mb,MemAt w p gb mb G M∧lo≤p∧lo≤mb∧lo≤gb∧p<mi∧gb<mi∧mb<mi
 ref:∃ b c d e,RefH w mi q b c d e B G∧q<hi∧b<hi∧d<hi
 low:lo≤mi
 mid:mi≤hi
 size:hi≤w.heap.size
variable {w:World} {lo mi hi p q:Nat} {G M B:List UInt8}
theorem Pair.keep {w':World} {F:Nat→Prop} (h:Pair w lo mi hi p q G M B)(k:Keeps F w w')(hF:∀ i,lo≤i→i<hi→¬F i):Pair w' lo mi hi p q G M B:=by
 obtain⟨gb,mb,hm,h1,h2,h0,h3,h4,h5⟩:=h.mem
 obtain⟨b,c,d,e,hr,r1,r2,r3⟩:=h.ref
 have l:=h.low
 have m:=h.mid
 have q0:=hr.q0
 have q1:=hr.now.lt'.1
 have q2:=hr.was.lt'.1
 exact⟨⟨gb,mb,hm.keep k (hF _ h1 (by omega)) (hF _ h0 (by omega)) (hF _ h2 (by omega)),h1,h2,h0,h3,h4,h5⟩,⟨b,c,d,e,hr.keep3 k (hF _ (by omega) r1) (hF _ (by omega) r2) (hF _ (by omega) r3),r1,r2,r3⟩,l,m,Nat.le_trans h.size k.size⟩
theorem Pair.more {hi':Nat} (h:Pair w lo mi hi p q G M B)(h1:hi≤hi')(h2:hi'≤w.heap.size):Pair w lo mi hi' p q G M B:=by
 obtain⟨b,c,d,e,hr,r1,r2,r3⟩:=h.ref
 exact⟨h.mem,⟨b,c,d,e,hr,by omega,by omega,by omega⟩,h.low,Nat.le_trans h.mid h1,h2⟩
def OutP (w:World) (lo mi hi hi' p q:Nat) (G M B:List UInt8) (v:Value) (e:Ending) (w':World):Prop:=e=.returned v∧Pair w' lo mi hi' p q G M B∧Keeps (fun i=>lo≤i∧i<hi) w w'
theorem Pair.code {f:FuncId} {args:Array Value} {M':List UInt8} {v:Value} (h:Pair w lo mi hi p q G M B)(hc:∀ gb mb,MemAt w p gb mb G M→p<hi→lo≤p→lo≤mb→mb<hi→Calls Tryz.prog f args w (zb0 w p gb mb G M' v)):Calls Tryz.prog f args w (OutP w lo mi hi hi p q G M' B v):=by
 obtain⟨gb,mb,hm,h1,h2,h0,h3,h4,h5⟩:=h.mem
 obtain⟨b,c,d,e,hr,r1,r2,r3⟩:=h.ref
 have l:=h.low
 have m:=h.mid
 have q0:=hr.q0
 have q1:=hr.now.lt'.1
 have q2:=hr.was.lt'.1
 refine(hc gb mb hm (by omega) h1 h2 (by omega)).mono ?_
 rintro e w' ⟨rfl,hm',k⟩
 exact⟨rfl,⟨⟨gb,mb,hm',h1,h2,h0,h3,h4,h5⟩,⟨b,c,d,_,hr.keep3 k (by omega) (by omega) (by omega),r1,r2,r3⟩,l,m,Nat.le_trans h.size k.size⟩,k.mono fun i _ hi=>by omega⟩
theorem Pair.start {w1 w2 w3:World} {L:Nat} {xs:List UInt8} {p gb mb q:Nat} (hL:L≤w1.heap.size)(p1:w1.heap.size≤p)(p2:w1.heap.size≤gb)(p3:w1.heap.size≤mb)(hm:MemAt w2 p gb mb (zdo xs) (zdo xs))(k2:Keeps (fun _=>False) w1 w2)
  (hr:MRefAt w3 w2.heap.size q (zdo xs) (zdo xs)) (k3:Keeps (fun _=>False) w2 w3):Pair w3 L w2.heap.size w3.heap.size p q (zdo xs) (zdo xs) (zdo xs):=by
 obtain⟨l1,l2,l3⟩:=hm.lt
 obtain⟨b,c,d,e,hr⟩:=hr
 exact⟨⟨gb,mb,hm.keep k3 (fun h=>h) (fun h=>h) (fun h=>h),by omega,by omega,by omega,l1,l2,l3⟩,⟨b,c,d,e,hr,hr.lt⟩,Nat.le_trans hL k2.size,k3.size,Nat.le_refl _⟩
theorem Below.and {L:Nat} {w u u':World} {F:Nat→Prop} (hb:Below L w u)(k:Keeps F u u')(hF:∀ i,F i→L≤i)(hL:L≤w.heap.size):Below L w u':=hb.trans (k.toBelow L (Nat.le_trans hL hb.size) hF)
end Mm
namespace Fs
open Go.RowKit Ex Ino Mm
theorem zuo (n:Nat){k:Nat} (hk:k<4):(zid n).getD k 0=zga n k:=by
 unfold zid
 rw[zfz _ _ _ _ _ (by simpa using hk),zp (by omega)]
 congr 1
theorem headP (u:Nat):zfk (zfk (List.replicate 64 0) 0 1398362950 4) 4 u 4=zb7 u:=by
 have hl:(zfk (zfk (List.replicate 64 0) 0 1398362950 4) 4 u 4).length=64:=by rw[zb1,zb1,List.length_replicate]
 refine za7 (by rw[hl,zbj]) fun k hk=>?_
 rw[hl] at hk
 rw[zfz _ _ _ _ _ (by rw[zb1,List.length_replicate];exact hk)]
 have e:∀ j,(zb7 u).getD j 0=if j<4 then (zid 1398362950).getD j 0 else if j<8 then (zid u).getD (j-4) 0 else 0:=fun j=>by
  unfold zb7
  have l1:=zgh 1398362950
  have l2:=zgh u
  simp only[List.getD_eq_getElem?_getD]
  split
  ·rw[List.getElem?_append_left (by omega)]
  ·rw[List.getElem?_append_right (by omega),l1]
   split
   ·rw[List.getElem?_append_left (by omega)]
   ·rw[List.getElem?_append_right (by omega),l2,List.getElem?_replicate]
    split<;>rfl
 rw[e]
 by_cases h1:k<4
 ·rw[zn (by omega),zp h1,zfz _ _ _ _ _ (by rw[List.length_replicate];exact hk),zp (by omega),zuo _ h1]
  congr 1
 rw[zn h1]
 by_cases h2:k<8
 ·rw[zp (by omega),zp h2,zuo _ (by omega)]
  congr 1
  omega
 ·rw[zn (by omega),zn h2,zfz _ _ _ _ _ (by rw[List.length_replicate];exact hk),zn (by omega)]
  rw[List.getD_eq_getElem?_getD,List.getElem?_replicate]
  split<;>rfl
set_option maxRecDepth 100000 in
theorem zg0 (u:Nat)(hu:u<4294967296)(w:World):Calls Tryz.prog 25 #[.int .u32 (u:Int)] w (zhc w (zb7 u)):=by
 have hmk:∀ w:World,(Instr.makeSlice 31 (.int .i64 64) (.int .i64 64)).run Tryz.prog w=.ok (.slice (some ⟨w.heap.size,0,none⟩) 64 64) (w.alloc (.cells (madeCells #[.int .u8 0] 64) 5)):=zfq 64 (by omega)
 have h1:=fun (W:World) (h:BR W W.heap.size (some ⟨w.heap.size,0,none⟩) (List.replicate 64 0))=>zd2 (some ⟨w.heap.size,0,none⟩) (List.replicate 64 0) 64 0 4 1398362950 W h (by simp) (by omega) (by omega)
 rw[show(zds 4 8).toNat=4 by decide,List.length_replicate] at h1
 have h2:=fun (R:Option Addr) (c:Nat) (W:World) (h:BR W W.heap.size R (zfk (List.replicate 64 0) 0 1398362950 4))=>zd2 R (zfk (List.replicate 64 0) 0 1398362950 4) c 4 4 u W h (by rw[zb1];simp) (by omega) (by omega)
 rw[show(zds 4 8).toNat=4 by decide,headP,zb1,List.length_replicate] at h2
 have H1:=zq h1
 have H2:=zq h2
 have L1:=zq (show(zfk (List.replicate 64 0) 0 1398362950 4).length=64 by rw[zb1,List.length_replicate])
 clear h1 h2
 generalize zfk (List.replicate 64 0) 0 1398362950 4=P1 at *
 have HB:=zq ((Below.refl w.heap.size w).alloc (Nat.le_refl _) (.cells (madeCells #[.int .u8 0] 64) 5))
 have HR:=zq (Row8.made w 64 5).br
 go_enter Tryz.func25,Tryz.ntmps25
 go_wp2_with fail
 refine(H1.out _ HR.out).mono ?_
 rintro e w2 ⟨R,c,rfl,ho,b2⟩
 rw[L1.out]
 have HB2:=zq (HB.out.trans (b2.mono HB.out.size))
 have HBR:=zq ho.br
 clear ho b2 HB HR H1
 go_wp2_with fail
 refine(H2.out _ _ _ HBR.out).mono ?_
 rintro e w3 ⟨R3,c3,rfl,ho3,b3⟩
 have HG:Hid (zhc w (zb7 u) (.returned (.slice R3 (zb7 u).length c3)) w3):=⟨R3,c3,rfl,ho3.low HB2.out.size,HB2.out.trans (b3.mono HB2.out.size)⟩
 clear ho3 b3 HB2 HBR H2
 go_wp2_with fail
 go_ret
 exact HG.out
variable {w:World} {mi q b c d e:Nat} {B G:List UInt8}
def yi2 (w:World) (mi q b c d e:Nat) (B G:List UInt8) (en:Ending) (w':World):Prop:=en=.returned (.tuple #[])∧RefH w' mi q b c d e B G∧Keeps (fun k=>k=b) w w'
set_option maxRecDepth 100000 in
theorem zl0 (h:RefH w mi q b c d e B G)(n:Nat)(hn:n≤100)(A:Option Addr)(xs:List UInt8)(cp:Nat)(hx:BR w w.heap.size A xs)(hA:∀ ad,A=some ad→xs≠[]→ad.block≠b)(hxl:xs.length≤140737488351232):
  Calls Tryz.prog 24 #[.pointer (some ⟨q,0,none⟩),.int .i64 (n:Int),.slice A xs.length cp] w (yi2 w mi q b c d e (zbx B (6144+(n:Int)*64) xs) G):=by
 have HC:=zq (ziw h (6144+(n:Int)*64) (by omega) (by omega) A xs cp hx hA hxl)
 clear h hx hA
 generalize zbx B (6144+(n:Int)*64) xs=B' at *
 go_enter Tryz.func24,Tryz.ntmps24
 go_wp2_with fail
 refine HC.out.mono ?_
 rintro en w2 ⟨rfl,h2,k2⟩
 have HG:Hid (yi2 w mi q b c d e B' G (.returned (.tuple #[])) w2):=⟨rfl,h2,k2⟩
 clear h2 k2 HC
 go_wp2_with fail
 go_end0
 exact HG.out
def ygg (B:List UInt8) (k:Nat):List UInt8:=zbx B 6144 (zb7 0++List.replicate (64*k) 0)
theorem ya9 {B:List UInt8} (hB:B.length=8192){k:Nat} (hk:k<8):zbx (ygg B k) (6144+((k+1:Nat):Int)*64) (List.replicate 64 0)=ygg B (k+1):=by
 unfold ygg
 have hh:=zbj 0
 refine za7 (by simp only[zbd]) fun i hi=>?_
 rw[zbd,zbd,hB] at hi
 rw[zbs _ _ _ _ (by rw[zbd,hB];exact hi),zbs _ _ _ _ (by rw[hB];exact hi),zbs _ _ _ _ (by rw[hB];exact hi)]
 simp only[List.length_append,List.length_replicate,hh]
 by_cases h1:i<6144
 ·rw[zn (by omega),zn (by omega),zn (by omega)]
 by_cases h2:i<6144+64+64*k
 ·rw[zn (by omega),zp (by omega),zp (by omega),zcl _ _ (by omega),zcl _ _ (by omega)]
  simp only[List.getD_eq_getElem?_getD]
  by_cases h3:i<6144+64
  ·rw[List.getElem?_append_left (by omega),List.getElem?_append_left (by omega)]
  ·rw[List.getElem?_append_right (by omega),List.getElem?_append_right (by omega),List.getElem?_replicate,List.getElem?_replicate,zp (by omega),zp (by omega)]
 by_cases h3:i<6144+64+64*(k+1)
 ·rw[zp (by omega),zp (by omega),zcl _ _ (by omega),zcl _ _ (by omega)]
  simp only[List.getD_eq_getElem?_getD]
  rw[List.getElem?_append_right (by omega),List.getElem?_replicate,List.getElem?_replicate,zp (by omega),zp (by omega)]
 ·rw[zn (by omega),zn (by omega),zn (by omega)]
theorem ya8 (B:List UInt8):zbx B (6144+((0:Nat):Int)*64) (zb7 0)=ygg B 0:=by unfold ygg;simp
set_option maxRecDepth 100000 in
theorem zsb (h:RefH w mi q b c d e B G):Calls Tryz.prog 10 #[.pointer (some ⟨q,0,none⟩)] w (yi2 w mi q b c d e (zbx B 6144 fmtB) G):=by
 obtain⟨lq,lb,ld⟩:=h.lt
 have hmk:∀ w:World,(Instr.makeSlice 31 (.int .i64 64) (.int .i64 64)).run Tryz.prog w=.ok (.slice (some ⟨w.heap.size,0,none⟩) 64 64) (w.alloc (.cells (madeCells #[.int .u8 0] 64) 5)):=zfq 64 (by omega)
 have HB:=zq h.bl
 have hh:=zg0 0 (by omega) w
 have HH:=zq hh
 have hs:=fun (W:World) (R:Option Addr) (cp:Nat) (ho:Own8 W w.heap.size 5 R cp (zb7 0)) (k:Below w.heap.size w W)=>by
  have hk:Keeps (fun _=>False) w W:=zac k
  have h2:RefH W mi q b c d e B G:=h.keep hk (fun _ _ _ f=>f)
  have:=zl0 h2 0 (by omega) R (zb7 0) cp ho.br (fun ad e1 e2=>by
   subst e1
   obtain⟨g,e3,l1,_⟩:=ho.at_ (k:=0) (by rw[zbj];omega)
   cases e3
   show g≠b
   omega) (by rw[zbj];omega)
  rw[ya8] at this
  exact this.mono fun en w' hh=>(⟨hh.1,hh.2.1,(hk.mono fun _ _ f=>f.elim).trans hh.2.2⟩:en=.returned (.tuple #[])∧RefH w' mi q b c d e (ygg B 0) G∧Keeps (fun k=>k=b) w w')
 have HS:=zq hs
 have LB:=zq lb
 clear hh hs h lq ld lb
 go_enter Tryz.func10,Tryz.ntmps10
 go_wp2_with fail
 refine HH.out.mono ?_
 rintro en w2 ⟨R,cp,rfl,ho,b2⟩
 have HS2:=zq (HS.out w2 R cp ho b2)
 clear ho b2 HS HH
 go_wp2_with fail
 refine HS2.out.mono ?_
 rintro en w3 ⟨rfl,h3,k3⟩
 have H3:=zq h3
 have K3:=zq k3
 clear h3 k3 HS2
 go_wp2_with fail
 go_loopw [2] (fun i wr=>∃ k:Nat,k≤8∧i=.int .i64 ((k:Int)+1)∧RefH wr mi q b c d e (ygg B k) G∧Keeps (fun k=>k=b) w wr) (fun i _=>9-(RowKit.intOf i).toNat)
 case atStart=>exact⟨0,by omega,rfl,H3.out,K3.out⟩
 case round =>
  obtain⟨k,hk,rfl,hr,kr⟩:=hrel
  by_cases hlt:k<8
  ·have hr2:RefH (wr.alloc (.cells (madeCells #[.int .u8 0] 64) 5)) mi q b c d e (ygg B k) G:=hr.keep (Keeps.alloc (fun _=>False) _ _) (fun _ _ _ f=>f)
   have hl:=zl0 hr2 (k+1) (by omega) (some ⟨wr.heap.size,0,none⟩) (List.replicate 64 0) 64 (Row8.made wr 64 5).br (fun ad e1 _=>by cases e1;have:=hr.lt;show wr.heap.size≠b;omega) (by simp)
   rw[ya9 (by exact HB.out) hlt,List.length_replicate] at hl
   have HL:=zq hl
   have KR:=zq (kr.trans (Keeps.alloc (fun k=>k=b) wr (.cells (madeCells #[.int .u8 0] 64) 5)))
   have d1:decide ((k:Int)+1≤8)=true:=by simp;omega
   clear hr hr2 hl kr
   go_wp2_with fail
   refine HL.out.mono ?_
   rintro en w4 ⟨rfl,h4,k4⟩
   have H4:=zq h4
   have K4:=zq (KR.out.trans k4)
   clear h4 k4 HL KR
   go_wp2_with fail
   go_roundw
   case rel=>exact⟨k+1,by omega,by go_num,H4.out,K4.out⟩
   case measure=>simp[RowKit.intOf];omega
  ·obtain rfl:k=8:=by omega
   have HG:Hid (yi2 w mi q b c d e (zbx B 6144 fmtB) G (.returned (.tuple #[])) wr):=⟨rfl,hr,kr⟩
   clear hr kr
   go_wp2_with fail
   go_end0
   exact HG.out
end Fs
end Go.Proofs.YtdopfpcjpjlkmaaGreatDoor
