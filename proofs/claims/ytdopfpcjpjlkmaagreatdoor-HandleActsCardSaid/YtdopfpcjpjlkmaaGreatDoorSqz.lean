/-
  Sqz
-/
import Derived.OrdersHeld
import Derived.ProofKit
import Derived.Lib.Hide
namespace Go.Proofs.YtdopfpcjpjlkmaaGreatDoor
theorem sqT {α:Type _} (l:List α)(i:Nat)(a:α):l.toArray.setIfInBounds i a=(l.set i a).toArray:=List.setIfInBounds_toArray ..
theorem sqZ {α:Type _} (x:α)(l:List α)(a:α):(x::l).set 0 a=a::l:=List.set_cons_zero
theorem sqS {α:Type _} (x:α)(l:List α)(n:Nat)(a:α):(x::l).set (n+1) a=x::l.set n a:=List.set_cons_succ
section
variable {P:Program} {ops:Array Oper} {md:Region.Mode} {S:World→Prop} {Q:Exit→Act→World→Prop}
theorem zq {p:Prop} (h:p):RowKit.Hid p:=h
theorem zp.{u} {c:Prop} {h:Decidable c} (hc:c) {α:Sort u} {t e:α}:(ite c t e)=t:=if_pos hc
theorem zn.{u} {c:Prop} {h:Decidable c} (hc:¬c) {α:Sort u} {t e:α}:(ite c t e)=e:=if_neg hc
theorem sqX.{u}:(∀ {α:Type u} (l:List α)(i:Nat)(a:α),l.toArray.setIfInBounds i a=(l.set i a).toArray)∧(∀ {α:Type u} (x:α)(l:List α)(a:α),(x::l).set 0 a=a::l)∧(∀ {α:Type u} (x:α)(l:List α)(n:Nat)(a:α),(x::l).set (n+1) a=x::l.set n a):=⟨fun l i a=>sqT l i a,fun x l a=>sqZ x l a,fun x l n a=>sqS x l n a⟩
theorem sqH {d:Option Tmp} {op:Op} {ty:TypeId} {pos:String} {af:Array Edge} {g:Option (Nat × Bool)} {fuel:Nat} {listed:Array Bool} {a:Act} {w:World} (i:Nat)(v:Value)(hi:ops[i]?=some ⟨d,op,ty,pos,af,g⟩)
  (hy:YieldsIf P ops S ⟨d,op,ty,pos,af,g⟩ v a) (hS:S w) (h:wpAnyH P md ops Q S fuel (listed.setIfInBounds i true) (a.put d v) w)
  (hs:Region.noSelect ops=true:=by kernel_rfl) (hf:Region.free md ops listed i=true:=by kernel_rfl) (hr:(Region.ready md ops listed).contains i=true:=by kernel_rfl)
  (hQ:∀ c a w,Q (.panic c) (a.put d v) w→Q (.panic c) a w:=by exact fun _ _ _ h=>h):wpAnyH P md ops Q S (fuel+1) listed a w:=
 wpAnyH_take hi hs hf hr hQ hy hS h
end
end Go.Proofs.YtdopfpcjpjlkmaaGreatDoor
