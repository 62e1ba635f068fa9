/-
  SetSame
-/
import Derived.Test.YtdopfpcjpjlkmaaGreatDoorGFe
set_option linter.unusedVariables false
namespace Go.Proofs.YtdopfpcjpjlkmaaGreatDoor.Mm
open Go.RowKit
theorem zit (M:List UInt8)(a n:Int)(i:Nat)(ha:0≤a)(hi:i<M.length):(zgs M a n).getD i 0=if a≤i∧(i:Int)<a+8 then zga (IntKind.u64.wrap n).toNat ((i:Int)-a).toNat else M.getD i 0:=zk3 M a _ 8 i ha hi
theorem zrp (xs:List UInt8)(a:Int):∀ k j:Nat,j<k→zga (num xs a k) j=byt xs (a+j)
 | 0,_,h=>by omega
 | k+1,j,h=>by
  have hl:=zl6 xs a k
  have hb:(byt xs (a+k)).toNat<256:=(byt xs (a+k)).toNat_lt
  have e:num xs a (k+1)=num xs a k+(byt xs (a+k)).toNat*2 ^ (8*k):=by
   rw[num,Nat.or_comm,← Nat.shiftLeft_add_eq_or_of_lt hl,Nat.shiftLeft_eq]
   omega
  by_cases hj:j=k
  ·subst hj
   unfold zga
   rw[e,Nat.add_mul_div_right _ _ (Nat.two_pow_pos _),Nat.div_eq_of_lt hl,Nat.zero_add,UInt8.ofNat_toNat]
  ·have ih:=zrp xs a k j (by omega)
   rw[← ih]
   unfold zga
   have e2:(byt xs (a+k)).toNat*2 ^ (8*k)=((byt xs (a+k)).toNat*2 ^ (8*(k-j)-8)*256)*2 ^ (8*j):=by
    rw[Nat.mul_assoc,Nat.mul_assoc,show(256:Nat)=2 ^ 8 from rfl,← Nat.pow_add,← Nat.pow_add,show 8*(k-j)-8+(8+8*j)=8*k by omega]
   rw[e,e2,Nat.add_mul_div_right _ _ (Nat.two_pow_pos _)]
   apply UInt8.toNat_inj.1
   simp only[UInt8.toNat_ofNat']
   omega
theorem ycz (xs:List UInt8)(a:Int):(IntKind.u64.wrap (cel xs a)).toNat=num xs a 8:=by
 have hl:=zl6 xs a 8
 unfold cel wrap64
 rw[IntKind.wrap_u64]
 have:(2:Nat) ^ (8*8)=18446744073709551616:=by decide
 omega
theorem yc7 (M:List UInt8)(a:Int)(ha:0≤a):zgs M a (cel M a)=M:=by
 refine za7 (ze3 _ _ _) fun i hi=>?_
 rw[ze3] at hi
 rw[zit _ _ _ _ ha hi]
 split
 ·rename_i h
  rw[ycz,zrp _ _ _ _ (by omega),zcl _ _ (by omega)]
  congr 1
  omega
 ·rfl
end Go.Proofs.YtdopfpcjpjlkmaaGreatDoor.Mm
