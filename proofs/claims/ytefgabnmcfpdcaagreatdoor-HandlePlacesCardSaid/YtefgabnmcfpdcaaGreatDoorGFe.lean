/- merged -/
import Derived.Test.YtefgabnmcfpdcaaGreatDoorGLe
import Derived.Test.YtefgabnmcfpdcaaGreatDoorGMm
set_option maxHeartbeats 400000
set_option linter.unusedVariables false
namespace Go.Proofs.YtefgabnmcfpdcaaGreatDoor
section
open Go.RowKit
def cel (xs:List UInt8) (a:Int):Int:=wrap64 (num xs a 8:Int)
set_option maxRecDepth 100000 in
theorem zwa (A:Option Addr)(xs:List UInt8)(c:Nat)(a:Int)(w:World)(hx:BR w w.heap.size A xs)(hl':xs.length≤1000000)(ha:-9223372036854775808≤a):
  Calls Tryz.prog 176 #[.slice A xs.length c,.int .i64 a] w fun e w'=>e=.returned (.int .i64 (cel xs a))∧w=w':=by
 go_enter Tryz.func176,Tryz.ntmps176
 go_wp2_with (go_at_call 171;refine(zlt _ _ _ _ _ _ hx hl' ha).mono ?_;rintro e w' ⟨rfl,rfl⟩)
 go_ret
 exact⟨rfl,rfl⟩
set_option maxRecDepth 100000 in
theorem zri (A:Option Addr)(xs:List UInt8)(c:Nat)(a:Int)(w:World)(hx:BR w w.heap.size A xs)(hl':xs.length≤1000000)(ha:-9223372036854775808≤a)(ha':a≤9223372036854775807):
  Calls Tryz.prog 175 #[.slice A xs.length c,.int .i64 a] w fun e w'=>e=.returned (.int .i64 (cel xs a))∧w=w':=by
 go_enter Tryz.func175,Tryz.ntmps175
 go_wp2_with (go_at_call 167;refine(zmu _ _ _ _ _ _ hx hl' ha ha').mono ?_;rintro e w' ⟨rfl,rfl⟩)
 go_ret
 exact⟨rfl,rfl⟩
end
section
open Go.RowKit
end
section
open Go.RowKit
theorem yef (xs:List UInt8)(a:Int)(n:Nat)(ha:0≤a)(hl:a≤xs.length-8):num (zfe xs a n 8) a 8=n % 2 ^ 64:=by
 refine zj9 _ a n 8 fun j hj=>?_
 rw[zcw _ _ (by omega),zoa xs a n 8 _ ha (by omega),if_pos (by omega)]
 rw[show(((a+j).toNat:Nat):Int)-a=j from by omega,Int.toNat_natCast]
theorem zuw (xs:List UInt8)(a n:Int)(ha:0≤a)(hl:a≤xs.length-8)(h1:-9223372036854775808≤n)(h2:n≤9223372036854775807):cel (zfe xs a (IntKind.u64.wrap n).toNat 8) a=n:=by
 unfold cel wrap64
 rw[yef xs a _ ha hl,IntKind.wrap_u64]
 omega
theorem ybb (xs:List UInt8)(a:Int)(n i:Nat)(ha:0≤a)(hi:i<xs.length)(h:(i:Int)<a∨a+8≤i):(zfe xs a n 8).getD i 0=xs.getD i 0:=by
 rw[zoa xs a n 8 i ha hi,if_neg (by omega)]
end
namespace Mm
open Go.RowKit
theorem zp9 (M:List UInt8)(hm:M.length=8192):zjp M 0 8192=M:=by
 refine zba (by rw[zc6,hm]) fun k hk=>?_
 rw[zc6] at hk
 rw[zdf _ _ _ _ hk,zcw _ _ (by omega)]
 congr 1
 omega
theorem zlo {xs ys:List UInt8} {a b:Int}:∀ k:Nat,(∀ j:Nat,j<k→byt xs (a+j)=byt ys (b+j))→num xs a k=num ys b k
 | 0,_=>rfl
 | k+1,h=>by rw[num,num,zlo k fun j hj=>h j (by omega),h k (by omega)]
theorem yd5 (M:List UInt8)(a:Int):cel (zjp M a 8) 0=cel M a:=by
 unfold cel
 rw[zlo (ys:=M) (b:=a) 8 fun j hj=>?_]
 rw[zcw _ _ (by omega),show((0:Int)+j).toNat=j by omega,zdf _ _ _ _ hj]
theorem zfr (xs:List UInt8)(a:Int)(n k i:Nat)(hi:i<xs.length):
  (zfe xs a n k).getD i 0=if a≤i∧(i:Int)<a+k then zhl n ((i:Int)-a).toNat else xs.getD i 0:=by
 induction k with
 | zero=>rw[if_neg (by omega)];rfl
 | succ k ih =>
  by_cases h0:0≤a+k
  ·rw[zfe,zkj _ _ _ h0,List.getD_eq_getElem?_getD,List.getElem?_set]
   by_cases e:(a+k).toNat=i
   ·rw[if_pos e,if_pos (by rw[zbw];omega),if_pos (by omega)]
    rw[show((i:Int)-a).toNat=k from by omega];rfl
   ·rw[if_neg e,← List.getD_eq_getElem?_getD,ih]
    by_cases h:a≤i∧(i:Int)<a+k
    ·rw[if_pos h,if_pos (by omega)]
    ·rw[if_neg h,if_neg (by omega)]
  ·rw[zfe,zgq _ _ _ (by omega),ih,if_neg (by omega),if_neg (by omega)]
theorem yc1 (M:List UInt8)(a:Int)(n:Nat):zcs M a (zfe (List.replicate 8 0) 0 n 8)=zfe M a n 8:=by
 have hl:(zfe (List.replicate 8 (0:UInt8)) 0 n 8).length=8:=by rw[zbw];rfl
 refine zba (by rw[zcf,zbw]) fun k hk=>?_
 rw[zcf] at hk
 rw[zcn _ _ _ _ hk,zfr _ _ _ _ _ hk,hl]
 by_cases h:a≤k∧(k:Int)<a+(8:Nat)
 ·rw[if_pos h,if_pos h,zcw _ _ (by omega),zfr _ _ _ _ _ (by simp;omega),if_pos (by omega)]
  congr 1
 ·rw[if_neg h,if_neg h]
def zjx (M:List UInt8) (a:Int):Int:=if a<0∨8192≤a then 0 else ((byt M a).toNat:Int)
def zjc (M:List UInt8) (a n:Int):List UInt8:=zfe M a (IntKind.u64.wrap n).toNat 8
theorem zif (M:List UInt8)(a n:Int):(zjc M a n).length=M.length:=zbw _ _ _ _
end Mm
section
open Go.RowKit Go.Maps
theorem Own8.of_row {w:World} {B g:Nat} {t:TypeId} {zs:List UInt8} (h:Row8 w g t zs)(hB:B≤g)(hl:zs.length≤1000000):Own8 w B t (some ⟨g,0,none⟩) zs.length zs:=by
 refine⟨by simp,Or.inr ⟨g,zs.length,(zs.map B8).toArray,rfl,hB,h.block,Nat.le_refl _,by simp[maxLen];omega,by simp,?_⟩⟩
 rw[Nat.mul_one]
 exact List.take_of_length_le (by simp)
theorem Own8.keeps' {w w':World} {B g:Nat} {t:TypeId} {cap:Nat} {zs:List UInt8} (h:Own8 w B t (some ⟨g,0,none⟩) cap zs){F:Nat→Prop} (k:Keeps F w w')(hF:¬F g):Own8 w' B t (some ⟨g,0,none⟩) cap zs:=by
 refine⟨h.1,?_⟩
 rcases h.2 with⟨e,_⟩|⟨g',cap',cur,hv,hb,hgg,rest⟩
 ·cases e
 ·injection hv with e1 e2 e3
  injection e1 with e1
  injection e1 with e1
  subst e1
  exact Or.inr ⟨g,cap',cur,by rw[e3],hb,(k.block g (Array.getElem?_eq_some_iff.1 hgg).1 hF).trans hgg,rest⟩
theorem Own8.lt' {w:World} {B g:Nat} {t:TypeId} {cap:Nat} {zs:List UInt8} (h:Own8 w B t (some ⟨g,0,none⟩) cap zs):B≤g∧g<w.heap.size:=World.ownsRow.lt h g rfl
theorem Own8.low {w:World} {B B':Nat} {t:TypeId} {R:Option Addr} {cap:Nat} {zs:List UInt8} (h:Own8 w B t R cap zs)(hB:B'≤B):Own8 w B' t R cap zs:=by
 refine⟨h.1,?_⟩
 rcases h.2 with h0 | ⟨g,cap',cur,hv,hb,rest⟩
 ·exact Or.inl h0
 ·exact Or.inr ⟨g,cap',cur,hv,Nat.le_trans hB hb,rest⟩
end
namespace Mm
open Go.RowKit Go.Maps
def zfd (b c d e:Nat):Array Value:=#[.slice (some ⟨b,0,none⟩) 8192 c,.slice (some ⟨d,0,none⟩) 8192 e,.bool false]
structure RefH (w:World) (mi q b c d e:Nat) (B G:List UInt8):Prop where
 q0:mi≤q
 bl:B.length=8192
 gl:G.length=8192
 head:w.heap[q]?=some (.cells (zfd b c d e) 46 (0,0))
 now:Own8 w mi 5 (some ⟨b,0,none⟩) c B
 was:Own8 w mi 5 (some ⟨d,0,none⟩) e G
 bq:b≠q
 dq:d≠q
 bd:b≠d
def MRefAt (w:World) (mi q:Nat) (B G:List UInt8):Prop:=∃ b c d e,RefH w mi q b c d e B G
variable {w:World} {mi q b c d e:Nat} {B G:List UInt8}
theorem RefH.lt (h:RefH w mi q b c d e B G):q<w.heap.size∧b<w.heap.size∧d<w.heap.size:=⟨(Array.getElem?_eq_some_iff.1 h.head).1,h.now.lt'.2,h.was.lt'.2⟩
theorem RefH.keep {w':World} {F:Nat→Prop} (h:RefH w mi q b c d e B G)(k:Keeps F w w')(hF:∀ i,mi≤i→i<w.heap.size→¬F i):RefH w' mi q b c d e B G:=
 ⟨h.q0,h.bl,h.gl,(k.block q h.lt.1 (hF q h.q0 h.lt.1)).trans h.head,h.now.keeps' k (hF b h.now.lt'.1 h.lt.2.1),h.was.keeps' k (hF d h.was.lt'.1 h.lt.2.2),h.bq,h.dq,h.bd⟩
theorem MRefAt.keep {w':World} {F:Nat→Prop} (h:MRefAt w mi q B G)(k:Keeps F w w')(hF:∀ i,mi≤i→i<w.heap.size→¬F i):MRefAt w' mi q B G:=by
 obtain⟨b,c,d,e,h⟩:=h
 exact⟨b,c,d,e,h.keep k hF⟩
theorem RefH.cs (h:RefH w mi q b c d e B G):w.cell? ⟨q,0,none⟩=some (.slice (some ⟨b,0,none⟩) 8192 c)∧w.cell? ⟨q,1,none⟩=some (.slice (some ⟨d,0,none⟩) 8192 e)∧w.frozen? ⟨q,0,none⟩=false:=by
 refine⟨?_,?_,frozen_of_row w q _ _ _ h.head⟩<;>rw[cell_of_row _ _ _ _ _ _ h.head]<;>rfl
theorem RefH.br (h:RefH w mi q b c d e B G):BR w w.heap.size (some ⟨b,0,none⟩) B:=h.now.br
theorem RefH.byte (h:RefH w mi q b c d e B G){k:Nat} (hk:k<8192):w.cell? ⟨b,k,none⟩=some (B8 (B.getD k 0))∧w.frozen? ⟨b,k,none⟩=false:=by
 obtain⟨g,e,_,_,h1,h2⟩:=h.now.at_ (k:=k) (by rw[h.bl];exact hk)
 cases e
 exact⟨h1,h2⟩
theorem RefH.set_ (h:RefH w mi q b c d e B G)(k:Nat)(u:UInt8):RefH (w.setCell ⟨b,k,none⟩ (B8 u)) mi q b c d e (B.set k u) G:=by
 have kk:Keeps (fun i=>i=b) w (w.setCell ⟨b,k,none⟩ (B8 u)):=Keeps.setCell _ _ _ _ rfl
 exact⟨h.q0,by rw[List.length_set,h.bl],h.gl,(kk.block q h.lt.1 (fun e=>h.bq e.symm)).trans h.head,h.now.set_ k u,h.was.keeps' kk (fun e=>h.bd e.symm),h.bq,h.dq,h.bd⟩
set_option maxRecDepth 100000 in
theorem zrg (h:RefH w mi q b c d e B G)(a:Int)(ha:-9223372036854775808≤a)(ha':a≤9223372036854775807):
  Calls Tryz.prog 156 #[.pointer (some ⟨q,0,none⟩),.int .i64 a] w fun e w'=>e=.returned (.int .i64 (cel B a))∧w=w':=by
 obtain⟨c0,c1,f0⟩:=h.cs
 have bl:=h.bl
 have C:=zri (some ⟨b,0,none⟩) B c a w h.br (by omega) ha ha'
 rw[bl] at C
 go_enter Tryz.func156,Tryz.ntmps156
 go_wp2_with fail
 refine C.mono ?_
 rintro e w2 ⟨rfl,rfl⟩
 go_wp2_with fail
 go_ret
 exact⟨rfl,rfl⟩
end Mm
end Go.Proofs.YtefgabnmcfpdcaaGreatDoor
