/-
  HeldMore
-/
import Derived.Test.YthmlhjjcihibnaaHeldLast
namespace Go.Proofs.Ythmlhjjcihibnaa
open Go.RowKit
section
variable {P : Program} {ops : Array Oper} {Q : Exit → Act → World → Prop} {md : Region.Mode} {S S' : World → Prop} {z : Nat}
theorem wpAnyZ_more (hS : ∀ w, S' w → S w) : ∀ (fuel : Nat) (listed : Array Bool) (a : Act) (w : World), wpAnyZ P md ops Q S' z fuel listed a w → wpAnyZ P md ops Q S z fuel listed a w
  | 0, _, _, _, h => h
  | fuel + 1, _, _, _, h => ⟨h.1, fun i hi => wpOp_mono (fun a' w' h' => ⟨h'.1.imp id (hS w'), wpAnyZ_more hS fuel _ a' w' h'.2⟩) (h.2 i hi)⟩
theorem wpOpS {Q' : Exit → Act → World → Prop} {K : Act → World → Prop} {m : Nat} {om : Oper} {a : Act} {w w' : World} (hm : ops[m]? = some om) (hw : Region.wanted om (yielded ops a.tmps) = true) (hrun : (execOp a.eval om).run P w = .ok .skip w') (h : K (a.put om.dst undef) w') : wpOp P ops Q' m K a w := by
  unfold wpOp
  simp only [hm, hw, if_true]
  left
  unfold Oper.wp
  rw [hrun]
  exact h
end
end Go.Proofs.Ythmlhjjcihibnaa
