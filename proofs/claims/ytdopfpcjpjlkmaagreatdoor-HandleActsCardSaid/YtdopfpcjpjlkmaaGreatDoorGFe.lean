/- merged -/
import Derived.Test.YtdopfpcjpjlkmaaGreatDoorGLe
import Derived.Test.YtdopfpcjpjlkmaaGreatDoorGMm
set_option maxHeartbeats 400000
set_option linter.unusedVariables false
namespace Go.Proofs.YtdopfpcjpjlkmaaGreatDoor
section
open Go.RowKit
def cel (xs:List UInt8) (a:Int):Int:=wrap64 (num xs a 8:Int)
set_option maxRecDepth 100000 in
theorem zw8 (A:Option Addr)(xs:List UInt8)(c:Nat)(a:Int)(w:World)(hx:BR w w.heap.size A xs)(hl':xs.length≤1000000)(ha:-9223372036854775808≤a):
  Calls Tryz.prog 146 #[.slice A xs.length c,.int .i64 a] w fun e w'=>e=.returned (.int .i64 (cel xs a))∧w=w':=by
 go_enter Tryz.func146,Tryz.ntmps146
 go_wp2_with (go_at_call 165;refine(zme _ _ _ _ _ _ hx hl' ha).mono ?_;rintro e w' ⟨rfl,rfl⟩)
 go_ret
 exact⟨rfl,rfl⟩
set_option maxRecDepth 100000 in
theorem zsf (A:Option Addr)(xs:List UInt8)(c:Nat)(a:Int)(w:World)(hx:BR w w.heap.size A xs)(hl':xs.length≤1000000)(ha:-9223372036854775808≤a)(ha':a≤9223372036854775807):
  Calls Tryz.prog 142 #[.slice A xs.length c,.int .i64 a] w fun e w'=>e=.returned (.int .i64 (cel xs a))∧w=w':=by
 go_enter Tryz.func142,Tryz.ntmps142
 go_wp2_with (go_at_call 161;refine(zni _ _ _ _ _ _ hx hl' ha ha').mono ?_;rintro e w' ⟨rfl,rfl⟩)
 go_ret
 exact⟨rfl,rfl⟩
end
section
open Go.RowKit
end
section
open Go.RowKit
theorem yfs (xs:List UInt8)(a:Int)(n:Nat)(ha:0≤a)(hl:a≤xs.length-8):num (zfk xs a n 8) a 8=n % 2 ^ 64:=by
 refine zko _ a n 8 fun j hj=>?_
 rw[zcl _ _ (by omega),zk3 xs a n 8 _ ha (by omega),zp (by omega)]
 rw[show(((a+j).toNat:Nat):Int)-a=j from by omega,Int.toNat_natCast]
theorem zvw (xs:List UInt8)(a n:Int)(ha:0≤a)(hl:a≤xs.length-8)(h1:-9223372036854775808≤n)(h2:n≤9223372036854775807):cel (zfk xs a (IntKind.u64.wrap n).toNat 8) a=n:=by
 unfold cel wrap64
 rw[yfs xs a _ ha hl,IntKind.wrap_u64]
 omega
theorem ycb (xs:List UInt8)(a:Int)(n i:Nat)(ha:0≤a)(hi:i<xs.length)(h:(i:Int)<a∨a+8≤i):(zfk xs a n 8).getD i 0=xs.getD i 0:=by
 rw[zk3 xs a n 8 i ha hi,zn (by omega)]
end
namespace Mm
open Go.RowKit
theorem zqz (M:List UInt8)(hm:M.length=8192):zj6 M 0 8192=M:=by
 refine za7 (by rw[zda,hm]) fun k hk=>?_
 rw[zda] at hk
 rw[zdj _ _ _ _ hk,zcl _ _ (by omega)]
 congr 1
 omega
theorem zl7 {xs ys:List UInt8} {a b:Int}:∀ k:Nat,(∀ j:Nat,j<k→byt xs (a+j)=byt ys (b+j))→num xs a k=num ys b k
 | 0,_=>rfl
 | k+1,h=>by rw[num,num,zl7 k fun j hj=>h j (by omega),h k (by omega)]
theorem yfi (M:List UInt8)(a:Int):cel (zj6 M a 8) 0=cel M a:=by
 unfold cel
 rw[zl7 (ys:=M) (b:=a) 8 fun j hj=>?_]
 rw[zcl _ _ (by omega),show((0:Int)+j).toNat=j by omega,zdj _ _ _ _ hj]
theorem zfz (xs:List UInt8)(a:Int)(n k i:Nat)(hi:i<xs.length):
  (zfk xs a n k).getD i 0=if a≤i∧(i:Int)<a+k then zga n ((i:Int)-a).toNat else xs.getD i 0:=by
 induction k with
 | zero=>rw[zn (by omega)];rfl
 | succ k ih =>
  by_cases h0:0≤a+k
  ·rw[zfk,zkz _ _ _ h0,List.getD_eq_getElem?_getD,List.getElem?_set]
   by_cases e:(a+k).toNat=i
   ·rw[zp e,zp (by rw[zb1];omega),zp (by omega)]
    rw[show((i:Int)-a).toNat=k from by omega];rfl
   ·rw[zn e,← List.getD_eq_getElem?_getD,ih]
    by_cases h:a≤i∧(i:Int)<a+k
    ·rw[zp h,zp (by omega)]
    ·rw[zn h,zn (by omega)]
  ·rw[zfk,zgy _ _ _ (by omega),ih,zn (by omega),zn (by omega)]
theorem yd9 (M:List UInt8)(a:Int)(n:Nat):zbx M a (zfk (List.replicate 8 0) 0 n 8)=zfk M a n 8:=by
 have hl:(zfk (List.replicate 8 (0:UInt8)) 0 n 8).length=8:=by rw[zb1];rfl
 refine za7 (by rw[zbd,zb1]) fun k hk=>?_
 rw[zbd] at hk
 rw[zbs _ _ _ _ hk,zfz _ _ _ _ _ hk,hl]
 by_cases h:a≤k∧(k:Int)<a+(8:Nat)
 ·rw[zp h,zp h,zcl _ _ (by omega),zfz _ _ _ _ _ (by simp;omega),zp (by omega)]
  congr 1
 ·rw[zn h,zn h]
def zkd (M:List UInt8) (a:Int):Int:=if a<0∨8192≤a then 0 else ((byt M a).toNat:Int)
def zgs (M:List UInt8) (a n:Int):List UInt8:=zfk M a (IntKind.u64.wrap n).toNat 8
theorem ze3 (M:List UInt8)(a n:Int):(zgs M a n).length=M.length:=zb1 _ _ _ _
end Mm
section
open Go.RowKit Go.Maps
theorem Own8.of_row {w:World} {B g:Nat} {t:TypeId} {zs:List UInt8} (h:Row8 w g t zs)(hB:B≤g)(hl:zs.length≤1000000):Own8 w B t (some ⟨g,0,none⟩) zs.length zs:=by
 refine⟨by simp,Or.inr ⟨g,zs.length,(zs.map B8).toArray,rfl,hB,h.block,Nat.le_refl _,by simp[maxLen];omega,by simp,?_⟩⟩
 rw[Nat.mul_one]
 exact List.take_of_length_le (by simp)
theorem Own8.keeps' {w w':World} {B g:Nat} {t:TypeId} {cap:Nat} {zs:List UInt8} (h:Own8 w B t (some ⟨g,0,none⟩) cap zs){F:Nat→Prop} (k:Keeps F w w')(hF:¬F g):Own8 w' B t (some ⟨g,0,none⟩) cap zs:=by
 refine⟨h.1,?_⟩
 rcases h.2 with⟨e,_⟩|⟨g',cap',cur,hv,hb,hgg,rest⟩
 ·cases e
 ·injection hv with e1 e2 e3
  injection e1 with e1
  injection e1 with e1
  subst e1
  exact Or.inr ⟨g,cap',cur,by rw[e3],hb,(k.block g (Array.getElem?_eq_some_iff.1 hgg).1 hF).trans hgg,rest⟩
theorem Own8.lt' {w:World} {B g:Nat} {t:TypeId} {cap:Nat} {zs:List UInt8} (h:Own8 w B t (some ⟨g,0,none⟩) cap zs):B≤g∧g<w.heap.size:=World.ownsRow.lt h g rfl
theorem Own8.low {w:World} {B B':Nat} {t:TypeId} {R:Option Addr} {cap:Nat} {zs:List UInt8} (h:Own8 w B t R cap zs)(hB:B'≤B):Own8 w B' t R cap zs:=by
 refine⟨h.1,?_⟩
 rcases h.2 with h0 | ⟨g,cap',cur,hv,hb,rest⟩
 ·exact Or.inl h0
 ·exact Or.inr ⟨g,cap',cur,hv,Nat.le_trans hB hb,rest⟩
end
namespace Mm
open Go.RowKit Go.Maps
def zfj (b c d e:Nat):Array Value:=#[.slice (some ⟨b,0,none⟩) 8192 c,.slice (some ⟨d,0,none⟩) 8192 e,.bool false]
structure RefH (w:World) (mi q b c d e:Nat) (B G:List UInt8):Prop where
 q0:mi≤q
 bl:B.length=8192
 gl:G.length=8192
 head:w.heap[q]?=some (.cells (zfj b c d e) 38 (0,0))
 now:Own8 w mi 5 (some ⟨b,0,none⟩) c B
 was:Own8 w mi 5 (some ⟨d,0,none⟩) e G
 bq:b≠q
 dq:d≠q
 bd:b≠d
def MRefAt (w:World) (mi q:Nat) (B G:List UInt8):Prop:=∃ b c d e,RefH w mi q b c d e B G
variable {w:World} {mi q b c d e:Nat} {B G:List UInt8}
theorem RefH.lt (h:RefH w mi q b c d e B G):q<w.heap.size∧b<w.heap.size∧d<w.heap.size:=⟨(Array.getElem?_eq_some_iff.1 h.head).1,h.now.lt'.2,h.was.lt'.2⟩
theorem RefH.keep {w':World} {F:Nat→Prop} (h:RefH w mi q b c d e B G)(k:Keeps F w w')(hF:∀ i,mi≤i→i<w.heap.size→¬F i):RefH w' mi q b c d e B G:=
 ⟨h.q0,h.bl,h.gl,(k.block q h.lt.1 (hF q h.q0 h.lt.1)).trans h.head,h.now.keeps' k (hF b h.now.lt'.1 h.lt.2.1),h.was.keeps' k (hF d h.was.lt'.1 h.lt.2.2),h.bq,h.dq,h.bd⟩
theorem MRefAt.keep {w':World} {F:Nat→Prop} (h:MRefAt w mi q B G)(k:Keeps F w w')(hF:∀ i,mi≤i→i<w.heap.size→¬F i):MRefAt w' mi q B G:=by
 obtain⟨b,c,d,e,h⟩:=h
 exact⟨b,c,d,e,h.keep k hF⟩
theorem RefH.cs (h:RefH w mi q b c d e B G):w.cell? ⟨q,0,none⟩=some (.slice (some ⟨b,0,none⟩) 8192 c)∧w.cell? ⟨q,1,none⟩=some (.slice (some ⟨d,0,none⟩) 8192 e)∧w.frozen? ⟨q,0,none⟩=false:=by
 refine⟨?_,?_,frozen_of_row w q _ _ _ h.head⟩<;>rw[cell_of_row _ _ _ _ _ _ h.head]<;>rfl
theorem RefH.br (h:RefH w mi q b c d e B G):BR w w.heap.size (some ⟨b,0,none⟩) B:=h.now.br
theorem RefH.byte (h:RefH w mi q b c d e B G){k:Nat} (hk:k<8192):w.cell? ⟨b,k,none⟩=some (B8 (B.getD k 0))∧w.frozen? ⟨b,k,none⟩=false:=by
 obtain⟨g,e,_,_,h1,h2⟩:=h.now.at_ (k:=k) (by rw[h.bl];exact hk)
 cases e
 exact⟨h1,h2⟩
theorem RefH.set_ (h:RefH w mi q b c d e B G)(k:Nat)(u:UInt8):RefH (w.setCell ⟨b,k,none⟩ (B8 u)) mi q b c d e (B.set k u) G:=by
 have kk:Keeps (fun i=>i=b) w (w.setCell ⟨b,k,none⟩ (B8 u)):=Keeps.setCell _ _ _ _ rfl
 exact⟨h.q0,by rw[List.length_set,h.bl],h.gl,(kk.block q h.lt.1 (fun e=>h.bq e.symm)).trans h.head,h.now.set_ k u,h.was.keeps' kk (fun e=>h.bd e.symm),h.bq,h.dq,h.bd⟩
set_option maxRecDepth 100000 in
theorem zsa (h:RefH w mi q b c d e B G)(a:Int)(ha:-9223372036854775808≤a)(ha':a≤9223372036854775807):
  Calls Tryz.prog 114 #[.pointer (some ⟨q,0,none⟩),.int .i64 a] w fun e w'=>e=.returned (.int .i64 (cel B a))∧w=w':=by
 obtain⟨c0,c1,f0⟩:=h.cs
 have bl:=h.bl
 have C:=zsf (some ⟨b,0,none⟩) B c a w h.br (by omega) ha ha'
 rw[bl] at C
 go_enter Tryz.func114,Tryz.ntmps114
 go_wp2_with fail
 refine C.mono ?_
 rintro e w2 ⟨rfl,rfl⟩
 go_wp2_with fail
 go_ret
 exact⟨rfl,rfl⟩
end Mm
end Go.Proofs.YtdopfpcjpjlkmaaGreatDoor
