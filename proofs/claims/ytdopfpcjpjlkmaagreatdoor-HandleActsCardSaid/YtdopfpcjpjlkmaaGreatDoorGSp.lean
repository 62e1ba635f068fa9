/-
  GSp
-/
import Derived.WalkKit
import Derived.Laws.Bits64b
import Derived.Lib.TrailingZeros
namespace Go.Proofs.YtdopfpcjpjlkmaaGreatDoor.Sp
def popN:Nat→Nat→Nat
 | 0,_=>0
 | k+1,x=>x % 2+popN k (x / 2)
theorem popN_le:∀ k x,popN k x≤k
 | 0,_=>Nat.le_refl 0
 | k+1,x=>by have:=popN_le k (x / 2);unfold popN;omega
theorem zu8 (x m:Nat):x / 2 / 2 ^ m=x / 2 ^ (m+1):=by rw[Nat.div_div_eq_div_mul,Nat.pow_succ,Nat.mul_comm]
theorem zqp:∀ (m x:Nat),popN (m+1) x=popN m x+x / 2 ^ m % 2
 | 0,x=>by simp[popN]
 | m+1,x=>by
  rw[popN,zqp m (x / 2),popN,zu8]
  omega
theorem popN_filter (x:Nat):∀ m:Nat,popN m x=((List.range m).filter fun i=>x.testBit i).length
 | 0=>rfl
 | m+1=>by
  rw[zqp,popN_filter x m,List.range_succ,List.filter_append,List.length_append]
  have:((([m]:List Nat).filter fun i=>x.testBit i).length)=x / 2 ^ m % 2:=by
   rw[List.filter_cons]
   have h:x.testBit m=decide (x / 2 ^ m % 2=1):=Nat.testBit_eq_decide_div_mod_eq
   rw[h]
   have:x / 2 ^ m % 2=0∨x / 2 ^ m % 2=1:=by omega
   rcases this with e | e<;>simp[e]
  rw[this]
theorem zue:∀ (k m x:Nat),popN (k+m) x=popN k x+popN m (x / 2 ^ k)
 | 0,m,x=>by simp[popN]
 | k+1,m,x=>by
  rw[show k+1+m=(k+m)+1 from by omega,popN,zue k m,popN,zu8]
  omega
theorem zud:∀ (k x:Nat),popN k (x % 2 ^ k)=popN k x
 | 0,_=>rfl
 | k+1,x=>by
  have e1:x % 2 ^ (k+1) % 2=x % 2:=Nat.mod_mod_of_dvd _ ⟨2 ^ k,by rw[Nat.pow_succ,Nat.mul_comm]⟩
  have e2:x % 2 ^ (k+1) / 2=x / 2 % 2 ^ k:=by
   rw[Nat.pow_succ,Nat.mul_comm,Nat.mod_mul_right_div_self]
  rw[popN,popN,e1,e2,zud k]
def s1 (l:Nat):Nat:=((l / 2) &&& 85)+(l &&& 85)
def s2 (l:Nat):Nat:=((l / 4) &&& 51)+(l &&& 51)
theorem popN_bytes (k x:Nat):popN (8+k) x=popN 8 (x % 256)+popN k (x / 256):=by
 rw[zue,← zud 8 x]
end Go.Proofs.YtdopfpcjpjlkmaaGreatDoor.Sp
