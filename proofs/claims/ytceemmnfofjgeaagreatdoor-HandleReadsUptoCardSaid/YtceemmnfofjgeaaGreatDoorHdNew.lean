/-
  HdNew
-/
import Derived.Test.YtceemmnfofjgeaaGreatDoorHdP
import Derived.Test.YtceemmnfofjgeaaGreatDoorHdOp
import Derived.Test.YtceemmnfofjgeaaGreatDoorGFi
namespace Go.Proofs.YtceemmnfofjgeaaGreatDoor.Hd
open Go.RowKit Ex Ino Mm Fs
set_option linter.unusedVariables false
set_option linter.unusedSimpArgs false

/-- One file of this name, without bytes. -/
def nsC (c : UInt8) : List IN := [⟨[c], 0, []⟩, in0, in0, in0, in0, in0, in0, in0]
theorem new_create (B : List UInt8) (c : UInt8) (hc : c = 97 ∨ c = 102) : createV ⟨B, ns0⟩ [c] = (0, 0, ⟨B, nsC c⟩) := by
  have h2 : freeI ns0 = some 0 := by decide +kernel
  have h1 : absentE ns0 [c] = 0 := by rcases hc with rfl | rfl <;> decide +kernel
  unfold createV
  rw [show (⟨B, ns0⟩ : RG).ns = ns0 from rfl, if_pos h1, h2]
  rfl
theorem new_name (c : UInt8) (hc : c = 97 ∨ c = 102) : nameB [c] = true := by rcases hc with rfl | rfl <;> decide +kernel
theorem new_none (c : UInt8) (hc : c = 97 ∨ c = 102) : fVal ns0 [c] = .tuple #[.int .i64 0, .int .i64 123] := by
  have h1 : findN ns0 [c] = 0 := by rcases hc with rfl | rfl <;> decide +kernel
  have h2 : findE ns0 [c] = 123 := by rcases hc with rfl | rfl <;> decide +kernel
  unfold fVal
  rw [h1, h2]
  rfl
theorem new_find (c : UInt8) (hc : c = 97 ∨ c = 102) : fVal (nsC c) [c] = .tuple #[.int .i64 ((0 : Nat) : Int), .int .i64 0] := by
  have h1 : findN (nsC c) [c] = 0 := by rcases hc with rfl | rfl <;> decide +kernel
  have h2 : findE (nsC c) [c] = 0 := by rcases hc with rfl | rfl <;> decide +kernel
  unfold fVal
  rw [h1, h2]
theorem good_nsC {B : List UInt8} (h : B.length = 2048) (c : UInt8) (hc : c = 97 ∨ c = 102) : RGood ⟨B, nsC c⟩ := by
  obtain ⟨i, h2, h3, h4, h5⟩ := create_good (good_ns0 h) [c] (by rw [new_create B c hc])
  rw [new_create B c hc] at h4
  injection h4 with _ h4
  injection h4 with _ h4
  rw [h4]
  exact h5
theorem new_resize (B : List UInt8) (c : UInt8) (hc : c = 97 ∨ c = 102) : resizeV ⟨B, nsC c⟩ ((0 : Nat) : Int) 0 = (0, ⟨B, nsC c⟩) := by
  have h1 : nodeE (nsC c) ((0 : Nat) : Int) = 0 := by rcases hc with rfl | rfl <;> decide +kernel
  have h2 : nodeX (nsC c) ((0 : Nat) : Int) = ⟨[c], 0, []⟩ := by rcases hc with rfl | rfl <;> decide +kernel
  have h3 : needI 0 = 0 := by decide +kernel
  have h4 : usedN (nsC c) = 0 := by rcases hc with rfl | rfl <;> decide +kernel
  have h5 : fitE [] 0 0 = 0 := by decide +kernel
  have h6 : fitX [] 0 0 = [] := by decide +kernel
  unfold resizeV
  rw [if_pos]
  · unfold resizeG
    rw [show (⟨B, nsC c⟩ : RG).ns = nsC c from rfl, h2, h3, h4]
    show ((0 : Int), (⟨spreadV B (fitX [] 0 0) _, (nsC c).set 0 ⟨[c], 0, fitX [] 0 0⟩⟩ : RG)) = _
    rw [h6]
    rfl
  · unfold resizeE
    rw [show (⟨B, nsC c⟩ : RG).ns = nsC c from rfl, if_neg (by rw [h1]; decide), if_neg (by decide), if_neg (by decide), h2, h3, h4]
    exact h5
variable {M : List UInt8} {g : RG}
theorem Has_ns (h : Has M g) : readN (regB M) = g.ns := by
  have := h.eq
  injection this
theorem Has_layH (hh : Has M g) {h : Nat} (h1 : 1 ≤ h) (h4 : h ≤ 4) (a b : Int) : Has (layH M h a b) g := by
  have hr := regB_layH hh.ml h1 h4 a b
  exact ⟨by rw [layH_len]; exact hh.ml, by rw [hr]; exact hh.ok, by rw [hr]; exact hh.eq⟩
theorem hN_of {h : Nat} {a : Int} (hf : hF M h = a) (ha : -9223372036854775808 < a ∧ a ≤ 9223372036854775807) : hN M h = a - 1 := by
  unfold hN
  rw [hf]
  unfold wrap64
  omega
theorem isO_has (hh : Has M g) {h : Nat} {N : Int} (hn : hN M h = N) : isO M h = decide (nodeE g.ns N = 0) := by
  unfold isO
  rw [Has_ns hh, hn]
/-- A handle whose first cell is 0 isn't open. -/
theorem isO_zero (hh : Has M g) {h : Nat} (hf : hF M h = 0) : isO M h = false := by
  rw [isO_has hh (hN_of hf (by omega))]
  have : nodeE g.ns (0 - 1) = 1 := by unfold nodeE; rw [if_pos (by omega)]
  rw [this]
  rfl
/-- One whose first cell is 1 is open where there is the first file. -/
theorem isO_one (c : UInt8) (hc : c = 97 ∨ c = 102) {B : List UInt8} {ns : List IN} (hns : nodeE ns 0 = 0) (hh : Has M ⟨B, ns⟩) {h : Nat} (hf : hF M h = 1) : isO M h = true := by
  rw [isO_has hh (hN_of hf (by omega))]
  have : nodeE ns (1 - 1) = 0 := hns
  rw [show (⟨B, ns⟩ : RG).ns = ns from rfl, this]
  rfl
theorem nsC_first (c : UInt8) (hc : c = 97 ∨ c = 102) : nodeE (nsC c) 0 = 0 := by rcases hc with rfl | rfl <;> decide +kernel
theorem low0 (h : isO M 1 = false) : Low M 0 := ⟨by omega, fun j hj => absurd hj (by omega), h⟩
theorem low1 (h1 : isO M 1 = true) (h2 : isO M 2 = false) : Low M 1 := ⟨by omega, fun j hj => by
  obtain rfl : j = 0 := by omega
  exact h1, h2⟩
end Go.Proofs.YtceemmnfofjgeaaGreatDoor.Hd
