/- merged -/
import Derived.Test.YtefgabnmcfpdcaaGreatDoorGFi
set_option maxHeartbeats 1000000
set_option linter.unusedSimpArgs false
set_option linter.unusedVariables false
namespace Go.Proofs.YtefgabnmcfpdcaaGreatDoor
namespace Mm
open Go.RowKit Go.Maps
end Mm
namespace Mm
open Go.RowKit Go.Maps
variable {w:World} {mi q b c d e:Nat} {B G:List UInt8}
set_option maxRecDepth 100000 in
theorem zmm (A:Option Addr)(xs:List UInt8)(c:Nat)(a:Int)(n:Int)(w:World)(hx:BR w w.heap.size A xs)(hl:xs.length≤1000000)(ha:-9223372036854775808≤a)(ha':a≤9223372036854775807):
  Calls Tryz.prog 157 #[.slice A xs.length c,.int .i64 a,.int .i64 n] w (zg0 w (zfe xs a (IntKind.u64.wrap n).toNat 8)):=by
 go_enter Tryz.func157,Tryz.ntmps157
 have hw:IntKind.u64.wrap n=((IntKind.u64.wrap n).toNat:Int):=(Int.toNat_of_nonneg (by rw[IntKind.wrap_u64];omega)).symm
 have HW:=Lib.hid hw
 clear hw
 go_wp2_with fail
 rw[HW.out]
 refine(zdx _ _ _ _ _ _ _ hx hl ha ha').mono ?_
 rintro e w1 ⟨R,c1,rfl,hr,hb⟩
 go_wp2_with fail
 go_ret
 exact⟨R,c1,rfl,hr,hb⟩
end Mm
namespace Mm
open Go.RowKit Go.Maps
theorem ycz (M:List UInt8)(a:Int)(xs:List UInt8)(k:Nat)(hk:k<xs.length)(h0:0≤a+k)(h1:a+k<M.length):zke M a xs (a+((k+1:Nat):Int))=(zke M a xs (a+k)).set (a+k).toNat (xs.getD k 0):=by
 refine zba (by rw[zck,List.length_set,zck]) fun i hi=>?_
 rw[zck] at hi
 rw[zc7 _ _ _ _ _ hi,List.getD_eq_getElem?_getD (l:=(zke M a xs (a+k)).set _ _),List.getElem?_set,zck]
 by_cases e:(a+k).toNat=i
 ·have c1:a≤i∧(i:Int)<a+((k+1:Nat):Int)∧(i:Int)<a+xs.length:=by omega
  have c2:(a+k).toNat<M.length:=by omega
  rw[if_pos e,if_pos c1,if_pos c2,zcw _ _ (by omega),show((i:Int)-a).toNat=k by omega]
  rfl
 ·rw[if_neg e,← List.getD_eq_getElem?_getD,zc7 _ _ _ _ _ hi]
  by_cases c:a≤i∧(i:Int)<a+k∧(i:Int)<a+xs.length
  ·rw[if_pos c,if_pos (by omega)]
  ·rw[if_neg c,if_neg (by omega)]
theorem zlv (M:List UInt8)(a:Int)(xs:List UInt8)(k:Nat)(h:a+k<0∨M.length≤a+k):zke M a xs (a+((k+1:Nat):Int))=zke M a xs (a+k):=by
 refine zba (by rw[zck,zck]) fun i hi=>?_
 rw[zck] at hi
 rw[zc7 _ _ _ _ _ hi,zc7 _ _ _ _ _ hi]
 by_cases c:a≤i∧(i:Int)<a+k∧(i:Int)<a+xs.length
 ·rw[if_pos c,if_pos (by omega)]
 ·rw[if_neg c,if_neg (by omega)]
theorem yc0 (M:List UInt8)(a:Int)(xs:List UInt8):zke M a xs (a+xs.length)=zcs M a xs:=by
 refine zba (by rw[zck,zcf]) fun i hi=>?_
 rw[zck] at hi
 rw[zc7 _ _ _ _ _ hi,zcn _ _ _ _ hi]
 by_cases c:a≤i∧(i:Int)<a+xs.length
 ·rw[if_pos c,if_pos (by omega)]
 ·rw[if_neg c,if_neg (by omega)]
variable {w:World} {mi q b c d e:Nat} {B G:List UInt8}
set_option maxRecDepth 100000 in
theorem zih (h:RefH w mi q b c d e B G)(a:Int)(ha:-9223372036854775808≤a)(ha':a≤9223372036854775807)(A:Option Addr)(xs:List UInt8)(cp:Nat)(hx:BR w w.heap.size A xs)
  (hA:∀ ad,A=some ad→xs≠[]→ad.block≠b) (hxl:xs.length≤140737488351232):
  Calls Tryz.prog 96 #[.pointer (some ⟨q,0,none⟩),.int .i64 a,.slice A xs.length cp] w fun e' w'=>e'=.returned (.tuple #[])∧RefH w' mi q b c d e (zcs B a xs) G∧Keeps (fun k=>k=b) w w':=by
 have bl:=h.bl
 have HX:=Lib.hid hx
 clear hx
 go_enter Tryz.func96,Tryz.ntmps96
 go_wp2_with fail
 go_loopw [9,6] (fun i _ wr=>∃ k:Nat,k≤xs.length∧i=.int .i64 (k:Int)∧RefH wr mi q b c d e (zke B a xs (a+k)) G∧Keeps (fun k=>k=b) w wr) (fun i _ _=>xs.length-(RowKit.intOf i).toNat)
 case atStart=>exact⟨0,by omega,rfl,by rw[zhb B a xs _ (by omega)];exact h,Keeps.refl _ _⟩
 case round =>
  obtain⟨k,hk,rfl,hr,kk⟩:=hrel
  by_cases hlt:k<xs.length
  ·by_cases c1:a≤8192
   ·by_cases c2:0≤a+k
    ·by_cases c3:a+k<8192
     ·obtain⟨x0,x1,x2⟩:=hr.cs
      obtain⟨y0,y1⟩:=hr.byte (k:=(a+k).toNat) (by omega)
      have hne:xs≠[]:=by intro e;rw[e] at hlt;simp at hlt
      obtain⟨ad,rfl,hab,hcell⟩:=HX.out hne
      have had:=hA ad rfl hne
      have z0:wr.cell? (ad.add k)=some (B8 (xs.getD k 0)):=by
       rw[World.cell?_of_block (w:=w) (by rw[zan];exact kk.block _ hab had)]
       have hg:xs[k]?=some (xs.getD k 0):=by
        rw[List.getD_eq_getElem?_getD,List.getElem?_eq_getElem hlt];rfl
       exact hcell k _ hg
      have fin:=hr.set_ (a+k).toNat (xs.getD k 0)
      rw[← ycz B a xs k hlt c2 (by omega)] at fin
      have FIN:=Lib.hid fin
      have KF:=Lib.hid (kk.trans (Keeps.setCell (fun k=>k=b) wr ⟨b,(a+k).toNat,none⟩ (B8 (xs.getD k 0)) rfl))
      clear fin hr kk hcell
      generalize (zke B a xs (a+k)).getD (a+k).toNat 0=u0 at *
      generalize xs.getD k 0=u1 at *
      obtain⟨t,ht⟩:∃ t:Nat,a+k=(t:Int):=⟨(a+k).toNat,by omega⟩
      have W1:IntKind.i64.wrap (a+k)=(t:Int):=by rw[ht];exact IntWalk.i64_in _ (by omega)
      have ht':(a+k).toNat=t:=by omega
      rw[ht'] at y0 y1 FIN KF
      clear ht'
      go_wp2_with fail
      go_region
      go_wp2_with fail
      go_roundw
      case rel=>exact⟨k+1,by omega,by go_num,FIN.out.keep (Keeps.drew (fun _=>False) _) (fun _ _ _ h=>h),KF.out.trans (Keeps.drew _ _)⟩
      case measure=>simp[RowKit.intOf];omega
     ·have HR:=Lib.hid (zlv B a xs k (by omega) ▸ hr)
      have KF:=Lib.hid kk
      clear hr kk
      obtain⟨t,ht⟩:∃ t:Nat,a+k=(t:Int):=⟨(a+k).toNat,by omega⟩
      have W1:IntKind.i64.wrap (a+k)=(t:Int):=by rw[ht];exact IntWalk.i64_in _ (by omega)
      have c4:¬(t:Int)<8192:=by omega
      go_wp2_with fail
      go_roundw
      case rel=>exact⟨k+1,by omega,by go_num,HR.out,KF.out⟩
      case measure=>simp[RowKit.intOf];omega
    ·have HR:=Lib.hid (zlv B a xs k (by omega) ▸ hr)
     have KF:=Lib.hid kk
     clear hr kk
     obtain⟨t,ht⟩:∃ t:Nat,a+k=-(t:Int):=⟨(-(a+k)).toNat,by omega⟩
     have W1:IntKind.i64.wrap (a+k)=-(t:Int):=by rw[ht];exact IntWalk.i64_in _ (by omega)
     have c4:¬0≤-(t:Int):=by omega
     go_wp2_with fail
     go_roundw
     case rel=>exact⟨k+1,by omega,by go_num,HR.out,KF.out⟩
     case measure=>simp[RowKit.intOf];omega
   ·have HR:=Lib.hid (zlv B a xs k (by omega) ▸ hr)
    have KF:=Lib.hid kk
    clear hr kk
    go_wp2_with fail
    go_roundw
    case rel=>exact⟨k+1,by omega,by go_num,HR.out,KF.out⟩
    case measure=>simp[RowKit.intOf];omega
  ·obtain rfl:k=xs.length:=by omega
   have HR:=Lib.hid (yc0 B a xs ▸ hr)
   have KF:=Lib.hid kk
   clear hr kk
   go_wp2_with fail
   all_goals
    go_end0
    exact⟨rfl,HR.out,KF.out⟩
theorem zp8 (M:List UInt8)(a:Int)(n k:Nat)(hk:k<n):zfv M a n (a+((k+1:Nat):Int))=(zfv M a n (a+k)).set k (byt M (a+k)):=by
 refine zba (by rw[zcd,List.length_set,zcd]) fun i hi=>?_
 rw[zcd] at hi
 rw[zeb _ _ _ _ _ hi,List.getD_eq_getElem?_getD (l:=(zfv M a n (a+k)).set _ _),List.getElem?_set,zcd]
 by_cases e:k=i
 ·subst e
  have c1:a+(k:Int)<a+((k+1:Nat):Int):=by omega
  rw[if_pos rfl,if_pos c1,if_pos hk]
  rfl
 ·rw[if_neg e,← List.getD_eq_getElem?_getD,zeb _ _ _ _ _ hi]
  by_cases c:a+(i:Int)<a+k
  ·rw[if_pos c,if_pos (by omega)]
  ·rw[if_neg c,if_neg (by omega)]
theorem zjo (M:List UInt8)(a:Int)(n k:Nat)(hk:k<n)(h:a+k<0∨M.length≤a+k):zfv M a n (a+((k+1:Nat):Int))=zfv M a n (a+k):=by
 rw[zp8 M a n k hk,ze9 _ _ h]
 refine zba (by rw[List.length_set]) fun i hi=>?_
 rw[List.length_set,zcd] at hi
 rw[List.getD_eq_getElem?_getD (l:=(zfv M a n (a+k)).set _ _),List.getElem?_set,zcd]
 by_cases e:k=i
 ·subst e
  have c1:¬a+(k:Int)<a+k:=by omega
  rw[if_pos rfl,if_pos hk,zeb _ _ _ _ _ hk,if_neg c1]
  rfl
 ·rw[if_neg e,← List.getD_eq_getElem?_getD]
def ybj (w:World) (zs:List UInt8) (e:Ending) (w':World):Prop:=∃ g,e=.returned (.slice (some ⟨g,0,none⟩) zs.length zs.length)∧Row8 w' g 5 zs∧Keeps (fun _=>False) w w'
set_option maxRecDepth 100000 in
theorem yb5 (h:RefH w mi q b c d e B G)(a n:Int)(ha:-9223372036854775808≤a)(ha':a≤9223372036854775807):
  Calls Tryz.prog 168 #[.pointer (some ⟨q,0,none⟩),.int .i64 a,.int .i64 n] w (ybj w (zjp B a (zdn n 8192).toNat)):=by
 have hr:=zec n 8192 (by omega)
 generalize hm:zdn n 8192=m at *
 unfold zdn at hm
 obtain⟨z,rfl⟩:=Int.eq_ofNat_of_zero_le hr.1
 rw[Int.toNat_natCast]
 have hmk:=zfu z (by omega)
 have bl:=h.bl
 have k1:Keeps (fun _=>False) w (w.alloc (.cells (madeCells #[.int .u8 0] z) 5)):=Keeps.alloc _ _ _
 have h1:=h.keep k1 (fun _ _ _ h=>h)
 have r1:=Row8.made w z 5
 have s1:w.heap.size<(w.alloc (.cells (madeCells #[.int .u8 0] z) 5)).heap.size:=by simp
 have hlt:=h.lt
 clear h
 go_enter Tryz.func168,Tryz.ntmps168
 go_wp2_with fail
 all_goals
  clear hm hmk
  generalize w.alloc (.cells (madeCells #[.int .u8 0] z) 5)=w1 at *
  go_loopw [15,8] (fun i _ wr=>∃ k:Nat,k≤z∧i=.int .i64 (k:Int)∧Row8 wr w.heap.size 5 (zfv B a z (a+k))∧RefH wr mi q b c d e B G∧Keeps (fun _=>False) w wr) (fun i _ _=>z-(RowKit.intOf i).toNat)
  case atStart=>exact⟨0,by omega,rfl,by rw[zgb B a z _ (by omega)];exact r1,h1,k1⟩
  case round =>
   obtain⟨k,hk,rfl,hrow,hr,kk⟩:=hrel
   by_cases hlt:k<z
   ·by_cases c1:a≤8192
    ·by_cases c2:0≤a+k
     ·by_cases c3:a+k<8192
      ·obtain⟨x0,x1,x2⟩:=hr.cs
       obtain⟨y0,y1⟩:=hr.byte (k:=(a+k).toNat) (by omega)
       have z0:=hrow.cell_ (k:=k) (by rw[zcd];exact hlt)
       have z1:=hrow.free k
       have fin:=hrow.set_ k (byt B (a+k))
       rw[← zp8 B a z k hlt] at fin
       rw[zcw _ _ c2] at fin
       have hlw:w.heap.size<wr.heap.size:=hrow.lt_
       have kS:Keeps (fun i=>i=w.heap.size) wr (wr.setCell ⟨w.heap.size,k,none⟩ (B8 (B.getD (a+k).toNat 0))):=Keeps.setCell _ _ _ _ rfl
       have FIN:=Lib.hid fin
       have KF:=Lib.hid (Keeps.thru (F'':=fun _=>False) kk kS (fun _ _ h=>h) fun i hi h=>by omega)
       have HR:=Lib.hid (show RefH (wr.setCell ⟨w.heap.size,k,none⟩ (B8 (B.getD (a+k).toNat 0))) mi q b c d e B G from by
        refine⟨hr.q0,hr.bl,hr.gl,(kS.block q hr.lt.1 ?_).trans hr.head,hr.now.keeps' kS ?_,hr.was.keeps' kS ?_,hr.bq,hr.dq,hr.bd⟩<;>omega)
       clear fin kS hr hrow kk
       generalize (zfv B a z (a+k)).getD k 0=u0 at *
       obtain⟨t,ht⟩:∃ t:Nat,a+k=(t:Int):=⟨(a+k).toNat,by omega⟩
       have W1:IntKind.i64.wrap (a+k)=(t:Int):=by rw[ht];exact IntWalk.i64_in _ (by omega)
       have ht':(a+k).toNat=t:=by omega
       rw[ht'] at y0 y1 FIN KF HR
       generalize B.getD t 0=u1 at *
       clear ht'
       go_wp2_with fail
       go_roundw
       case rel=>exact⟨k+1,by omega,by go_num,FIN.out,HR.out,KF.out⟩
       case measure=>simp[RowKit.intOf];omega
      ·have R1:=Lib.hid (zjo B a z k hlt (by omega) ▸ hrow)
       have HR:=Lib.hid hr
       have KF:=Lib.hid kk
       clear hrow hr kk
       obtain⟨t,ht⟩:∃ t:Nat,a+k=(t:Int):=⟨(a+k).toNat,by omega⟩
       have W1:IntKind.i64.wrap (a+k)=(t:Int):=by rw[ht];exact IntWalk.i64_in _ (by omega)
       have c4:¬(t:Int)<8192:=by omega
       go_wp2_with fail
       go_roundw
       case rel=>exact⟨k+1,by omega,by go_num,R1.out,HR.out,KF.out⟩
       case measure=>simp[RowKit.intOf];omega
     ·have R1:=Lib.hid (zjo B a z k hlt (by omega) ▸ hrow)
      have HR:=Lib.hid hr
      have KF:=Lib.hid kk
      clear hrow hr kk
      obtain⟨t,ht⟩:∃ t:Nat,a+k=-(t:Int):=⟨(-(a+k)).toNat,by omega⟩
      have W1:IntKind.i64.wrap (a+k)=-(t:Int):=by rw[ht];exact IntWalk.i64_in _ (by omega)
      have c4:¬0≤-(t:Int):=by omega
      go_wp2_with fail
      go_roundw
      case rel=>exact⟨k+1,by omega,by go_num,R1.out,HR.out,KF.out⟩
      case measure=>simp[RowKit.intOf];omega
    ·have R1:=Lib.hid (zjo B a z k hlt (by omega) ▸ hrow)
     have HR:=Lib.hid hr
     have KF:=Lib.hid kk
     clear hrow hr kk
     go_wp2_with fail
     go_roundw
     case rel=>exact⟨k+1,by omega,by go_num,R1.out,HR.out,KF.out⟩
     case measure=>simp[RowKit.intOf];omega
   ·obtain rfl:k=z:=by omega
    have R1:=Lib.hid (zm5 B bl a k (a+k) (Or.inl (by omega)) ▸ hrow)
    have KF:=Lib.hid kk
    clear hrow hr kk
    go_wp2_with fail
    go_ret
    exact⟨w.heap.size,by rw[zc6];rfl,R1.out,KF.out⟩
end Mm
namespace Mm
open Go.RowKit Go.Maps
theorem aggS:∀ w,(isAgg 31).run Tryz.prog w=.ok false w:=fun w=>by kernel_rfl
theorem RefH.keep3 {w w':World} {mi q b c d e:Nat} {B G:List UInt8} {F:Nat→Prop} (h:RefH w mi q b c d e B G)(k:Keeps F w w')(hq:¬F q)(hb:¬F b)(hd:¬F d):RefH w' mi q b c d e B G:=
 ⟨h.q0,h.bl,h.gl,(k.block q h.lt.1 hq).trans h.head,h.now.keeps' k hb,h.was.keeps' k hd,h.bq,h.dq,h.bd⟩
structure Pair (w:World) (lo mi hi p q:Nat) (G M B:List UInt8):Prop where
 mem:∃ gb mb,MemAt w p gb mb G M∧lo≤p∧lo≤mb∧lo≤gb∧p<mi∧gb<mi∧mb<mi
 ref:∃ b c d e,RefH w mi q b c d e B G∧q<hi∧b<hi∧d<hi
 low:lo≤mi
 mid:mi≤hi
 size:hi≤w.heap.size
variable {w:World} {lo mi hi p q:Nat} {G M B:List UInt8}
theorem Pair.keep {w':World} {F:Nat→Prop} (h:Pair w lo mi hi p q G M B)(k:Keeps F w w')(hF:∀ i,lo≤i→i<hi→¬F i):Pair w' lo mi hi p q G M B:=by
 obtain⟨gb,mb,hm,h1,h2,h0,h3,h4,h5⟩:=h.mem
 obtain⟨b,c,d,e,hr,r1,r2,r3⟩:=h.ref
 have l:=h.low
 have m:=h.mid
 have q0:=hr.q0
 have q1:=hr.now.lt'.1
 have q2:=hr.was.lt'.1
 exact⟨⟨gb,mb,hm.keep k (hF _ h1 (by omega)) (hF _ h0 (by omega)) (hF _ h2 (by omega)),h1,h2,h0,h3,h4,h5⟩,⟨b,c,d,e,hr.keep3 k (hF _ (by omega) r1) (hF _ (by omega) r2) (hF _ (by omega) r3),r1,r2,r3⟩,l,m,Nat.le_trans h.size k.size⟩
theorem Pair.more {hi':Nat} (h:Pair w lo mi hi p q G M B)(h1:hi≤hi')(h2:hi'≤w.heap.size):Pair w lo mi hi' p q G M B:=by
 obtain⟨b,c,d,e,hr,r1,r2,r3⟩:=h.ref
 exact⟨h.mem,⟨b,c,d,e,hr,by omega,by omega,by omega⟩,h.low,Nat.le_trans h.mid h1,h2⟩
def OutP (w:World) (lo mi hi hi' p q:Nat) (G M B:List UInt8) (v:Value) (e:Ending) (w':World):Prop:=e=.returned v∧Pair w' lo mi hi' p q G M B∧Keeps (fun i=>lo≤i∧i<hi) w w'
theorem Pair.code {f:FuncId} {args:Array Value} {M':List UInt8} {v:Value} (h:Pair w lo mi hi p q G M B)(hc:∀ gb mb,MemAt w p gb mb G M→p<hi→lo≤p→lo≤mb→mb<hi→Calls Tryz.prog f args w (zbv w p gb mb G M' v)):Calls Tryz.prog f args w (OutP w lo mi hi hi p q G M' B v):=by
 obtain⟨gb,mb,hm,h1,h2,h0,h3,h4,h5⟩:=h.mem
 obtain⟨b,c,d,e,hr,r1,r2,r3⟩:=h.ref
 have l:=h.low
 have m:=h.mid
 have q0:=hr.q0
 have q1:=hr.now.lt'.1
 have q2:=hr.was.lt'.1
 refine(hc gb mb hm (by omega) h1 h2 (by omega)).mono ?_
 rintro e w' ⟨rfl,hm',k⟩
 exact⟨rfl,⟨⟨gb,mb,hm',h1,h2,h0,h3,h4,h5⟩,⟨b,c,d,_,hr.keep3 k (by omega) (by omega) (by omega),r1,r2,r3⟩,l,m,Nat.le_trans h.size k.size⟩,k.mono fun i _ hi=>by omega⟩
theorem Pair.start {w1 w2 w3:World} {L:Nat} {xs:List UInt8} {p gb mb q:Nat} (hL:L≤w1.heap.size)(p1:w1.heap.size≤p)(p2:w1.heap.size≤gb)(p3:w1.heap.size≤mb)(hm:MemAt w2 p gb mb (zc8 xs) (zc8 xs))(k2:Keeps (fun _=>False) w1 w2)
  (hr:MRefAt w3 w2.heap.size q (zc8 xs) (zc8 xs)) (k3:Keeps (fun _=>False) w2 w3):Pair w3 L w2.heap.size w3.heap.size p q (zc8 xs) (zc8 xs) (zc8 xs):=by
 obtain⟨l1,l2,l3⟩:=hm.lt
 obtain⟨b,c,d,e,hr⟩:=hr
 exact⟨⟨gb,mb,hm.keep k3 (fun h=>h) (fun h=>h) (fun h=>h),by omega,by omega,by omega,l1,l2,l3⟩,⟨b,c,d,e,hr,hr.lt⟩,Nat.le_trans hL k2.size,k3.size,Nat.le_refl _⟩
theorem Below.and {L:Nat} {w u u':World} {F:Nat→Prop} (hb:Below L w u)(k:Keeps F u u')(hF:∀ i,F i→L≤i)(hL:L≤w.heap.size):Below L w u':=hb.trans (k.toBelow L (Nat.le_trans hL hb.size) hF)
end Mm
namespace Fs
open Go.RowKit Ex Ino Mm
theorem ztq (n:Nat){k:Nat} (hk:k<4):(zh1 n).getD k 0=zhl n k:=by
 unfold zh1
 rw[zfr _ _ _ _ _ (by simpa using hk),if_pos (by omega)]
 congr 1
theorem headP (u:Nat):zfe (zfe (List.replicate 64 0) 0 1398362950 4) 4 u 4=zb6 u:=by
 have hl:(zfe (zfe (List.replicate 64 0) 0 1398362950 4) 4 u 4).length=64:=by rw[zbw,zbw,List.length_replicate]
 refine zba (by rw[hl,zbm]) fun k hk=>?_
 rw[hl] at hk
 rw[zfr _ _ _ _ _ (by rw[zbw,List.length_replicate];exact hk)]
 have e:∀ j,(zb6 u).getD j 0=if j<4 then (zh1 1398362950).getD j 0 else if j<8 then (zh1 u).getD (j-4) 0 else 0:=fun j=>by
  unfold zb6
  have l1:=zf8 1398362950
  have l2:=zf8 u
  simp only[List.getD_eq_getElem?_getD]
  split
  ·rw[List.getElem?_append_left (by omega)]
  ·rw[List.getElem?_append_right (by omega),l1]
   split
   ·rw[List.getElem?_append_left (by omega)]
   ·rw[List.getElem?_append_right (by omega),l2,List.getElem?_replicate]
    split<;>rfl
 rw[e]
 by_cases h1:k<4
 ·rw[if_neg (by omega),if_pos h1,zfr _ _ _ _ _ (by rw[List.length_replicate];exact hk),if_pos (by omega),ztq _ h1]
  congr 1
 rw[if_neg h1]
 by_cases h2:k<8
 ·rw[if_pos (by omega),if_pos h2,ztq _ (by omega)]
  congr 1
  omega
 ·rw[if_neg (by omega),if_neg h2,zfr _ _ _ _ _ (by rw[List.length_replicate];exact hk),if_neg (by omega)]
  rw[List.getD_eq_getElem?_getD,List.getElem?_replicate]
  split<;>rfl
set_option maxRecDepth 100000 in
theorem zii (u:Nat)(hu:u<4294967296)(w:World):Calls Tryz.prog 36 #[.int .u32 (u:Int)] w (zg0 w (zb6 u)):=by
 have hmk:∀ w:World,(Instr.makeSlice 31 (.int .i64 64) (.int .i64 64)).run Tryz.prog w=.ok (.slice (some ⟨w.heap.size,0,none⟩) 64 64) (w.alloc (.cells (madeCells #[.int .u8 0] 64) 5)):=zfu 64 (by omega)
 have h1:=fun (W:World) (h:BR W W.heap.size (some ⟨w.heap.size,0,none⟩) (List.replicate 64 0))=>zdx (some ⟨w.heap.size,0,none⟩) (List.replicate 64 0) 64 0 4 1398362950 W h (by simp) (by omega) (by omega)
 rw[show(zdn 4 8).toNat=4 by decide,List.length_replicate] at h1
 have h2:=fun (R:Option Addr) (c:Nat) (W:World) (h:BR W W.heap.size R (zfe (List.replicate 64 0) 0 1398362950 4))=>zdx R (zfe (List.replicate 64 0) 0 1398362950 4) c 4 4 u W h (by rw[zbw];simp) (by omega) (by omega)
 rw[show(zdn 4 8).toNat=4 by decide,headP,zbw,List.length_replicate] at h2
 have H1:=Lib.hid h1
 have H2:=Lib.hid h2
 have L1:=Lib.hid (show(zfe (List.replicate 64 0) 0 1398362950 4).length=64 by rw[zbw,List.length_replicate])
 clear h1 h2
 generalize zfe (List.replicate 64 0) 0 1398362950 4=P1 at *
 have HB:=Lib.hid ((Below.refl w.heap.size w).alloc (Nat.le_refl _) (.cells (madeCells #[.int .u8 0] 64) 5))
 have HR:=Lib.hid (Row8.made w 64 5).br
 go_enter Tryz.func36,Tryz.ntmps36
 go_wp2_with fail
 refine(H1.out _ HR.out).mono ?_
 rintro e w2 ⟨R,c,rfl,ho,b2⟩
 rw[L1.out]
 have HB2:=Lib.hid (HB.out.trans (b2.mono HB.out.size))
 have HBR:=Lib.hid ho.br
 clear ho b2 HB HR H1
 go_wp2_with fail
 refine(H2.out _ _ _ HBR.out).mono ?_
 rintro e w3 ⟨R3,c3,rfl,ho3,b3⟩
 have HG:Hid (zg0 w (zb6 u) (.returned (.slice R3 (zb6 u).length c3)) w3):=⟨R3,c3,rfl,ho3.low HB2.out.size,HB2.out.trans (b3.mono HB2.out.size)⟩
 clear ho3 b3 HB2 HBR H2
 go_wp2_with fail
 go_ret
 exact HG.out
variable {w:World} {mi q b c d e:Nat} {B G:List UInt8}
def OutH (w:World) (mi q b c d e:Nat) (B G:List UInt8) (en:Ending) (w':World):Prop:=en=.returned (.tuple #[])∧RefH w' mi q b c d e B G∧Keeps (fun k=>k=b) w w'
set_option maxRecDepth 100000 in
theorem zx6 (h:RefH w mi q b c d e B G)(n:Nat)(hn:n≤100)(A:Option Addr)(xs:List UInt8)(cp:Nat)(hx:BR w w.heap.size A xs)(hA:∀ ad,A=some ad→xs≠[]→ad.block≠b)(hxl:xs.length≤140737488351232):
  Calls Tryz.prog 35 #[.pointer (some ⟨q,0,none⟩),.int .i64 (n:Int),.slice A xs.length cp] w (OutH w mi q b c d e (zcs B (6144+(n:Int)*64) xs) G):=by
 have HC:=Lib.hid (zih h (6144+(n:Int)*64) (by omega) (by omega) A xs cp hx hA hxl)
 clear h hx hA
 generalize zcs B (6144+(n:Int)*64) xs=B' at *
 go_enter Tryz.func35,Tryz.ntmps35
 go_wp2_with fail
 refine HC.out.mono ?_
 rintro en w2 ⟨rfl,h2,k2⟩
 have HG:Hid (OutH w mi q b c d e B' G (.returned (.tuple #[])) w2):=⟨rfl,h2,k2⟩
 clear h2 k2 HC
 go_wp2_with fail
 go_end0
 exact HG.out
end Fs
end Go.Proofs.YtefgabnmcfpdcaaGreatDoor
