/-
  ExWith
-/
import Derived.Test.YtcldbgmbkcpdgaaExRow
namespace Go.Proofs.Ytcldbgmbkcpdgaa.Ex
open Go.RowKit

set_option maxRecDepth 100000 in
set_option maxHeartbeats 400000 in
/-- The document's Same at lists that are alike. -/
theorem same_any (A : Option Addr) (l : List EX) (c : Nat) (B : Option Addr) (d : Nat) (w : World) (h : XR w w.heap.size A l) (h2 : XR w w.heap.size B l) (hl : l.length ≤ 1000) :
    Calls Try.prog 27 #[.slice A l.length c, .slice B l.length d] w (Gives w (.bool true)) := by
  go_enter Try.func27, Try.ntmps27
  go_wp2_with fail
  go_loopw [13, 5] (fun i _ wr => ∃ k : Nat, k ≤ l.length ∧ i = .int .i64 (k : Int) ∧ Below w.heap.size w wr) (fun i _ _ => l.length - (intOf i).toNat)
  case atStart => exact ⟨0, by omega, rfl, Below.refl _ _⟩
  case round =>
    obtain ⟨k, hk, rfl, hb⟩ := hrel
    by_cases hlt : k < l.length
    · obtain ⟨ad, rfl, _, d0, d1, _⟩ := (h.below hb).at_ hlt
      obtain ⟨bd, rfl, _, e0, e1, _⟩ := (h2.below hb).at_ hlt
      generalize l[k] = x at *
      obtain ⟨s, t⟩ := x
      simp only at d0 d1 e0 e1
      have HB := Lib.hid hb
      clear h h2 hb
      go_wp2_with fail
      go_quiet (fail)
      go_wp2_with fail
      go_roundw
      case rel => exact ⟨k + 1, by omega, by go_num, below_drewN HB.out _⟩
      case measure => simp [intOf]; omega
    · obtain rfl : k = l.length := by omega
      clear h h2
      go_wp2_with fail
      go_ret
      exact ⟨rfl, hb⟩
end Go.Proofs.Ytcldbgmbkcpdgaa.Ex
