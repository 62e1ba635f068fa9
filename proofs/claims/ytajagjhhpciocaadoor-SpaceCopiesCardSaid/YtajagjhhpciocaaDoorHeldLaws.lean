/-
  A read in a region that draws, by what the world holds. No function of the program is named here.
-/
import Derived.Test.YtajagjhhpciocaaDoorOps
import Derived.Test.YtajagjhhpciocaaDoorBoth
import Derived.OrdersHeld
namespace Go.Proofs.YtajagjhhpciocaaDoor
open Go.RowKit

theorem load_one {P : Program} {t : TypeId} (hagg : ∀ w, (isAgg t).run P w = .ok false w) {w : World} {b o : Nat} {v : Value} (h : w.cell? ⟨b, o, none⟩ = some v) : (Instr.loadAt t (.pointer (some ⟨b, o, none⟩))).run P w = .ok v w := by
  simp [Instr.loadAt, Instr.sureAddr, loadVar, hagg, h]
theorem yif_load {P : Program} {ops : Array Oper} {S : World → Prop} {o : Oper} {a : Act} (hw : Region.wanted o (yielded ops a.tmps) = true) (t : TypeId) (x : Operand) (ho : o.op = .load t x) (p v : Value) (hp : a.eval x = p) (hrun : ∀ w, S w → (Instr.loadAt t p).run P w = .ok v w) : YieldsIf P ops S o v a :=
  Or.inl ⟨hw, fun w hS => ex_load t x ho p v hp (hrun w hS)⟩
end Go.Proofs.YtajagjhhpciocaaDoor
