/-
  DgTxt
-/
import Derived.Test.YtncignjfmcajgaaDgPlain
import Derived.Lib.OthersKept
import Derived.Lib.DecodeN
import Derived.Lib.Strings
import Derived.Deep.LoopGhost
import Derived.SliceStrings
namespace Go.Proofs.Ytncignjfmcajgaa.Dgt
open Go.RowKit
set_option linter.unusedVariables false
set_option linter.unusedSimpArgs false

abbrev St (xs : List UInt8) : Value := .string ⟨xs.toArray⟩
theorem st_size (xs : List UInt8) : (⟨xs.toArray⟩ : ByteArray).size = xs.length := by simp [ByteArray.size]
/-- Nothing but new blocks; this is given back. -/
def Gv (w : World) (v : Value) (e : Ending) (w' : World) : Prop := e = .returned v ∧ Below w.heap.size w w'
set_option maxRecDepth 100000 in
theorem base_any (n : Int) (w : World) : Calls Try.prog 10 #[.int .i64 n] w fun e w' => e = .returned (.int .i64 (bsN n : Int)) ∧ w' = w := by
  have hb : (bsN n : Int) = if n < 2 ∨ 36 < n then 10 else n := by unfold bsN; split <;> omega
  rw [hb]
  by_cases h1 : n < 2
  · have d1 : decide (n < 2) = true := by simp; omega
    rw [if_pos (Or.inl h1)]
    clear hb
    go_enter Try.func10, Try.ntmps10
    go_wp2_with fail
    go_ret
    exact ⟨rfl, rfl⟩
  · have d1 : decide (n < 2) = false := by simp; omega
    by_cases h2 : 36 < n
    · have d2 : decide (36 < n) = true := by simp; omega
      rw [if_pos (Or.inr h2)]
      clear hb
      go_enter Try.func10, Try.ntmps10
      go_wp2_with fail
      go_ret
      exact ⟨rfl, rfl⟩
    · have d2 : decide (36 < n) = false := by simp; omega
      rw [if_neg (by omega)]
      clear hb
      go_enter Try.func10, Try.ntmps10
      go_wp2_with fail
      go_ret
      exact ⟨rfl, rfl⟩
set_option maxRecDepth 100000 in
theorem rbase_any (n : Int) (w : World) : Calls Try.prog 11 #[.int .i64 n] w fun e w' => e = .returned (.int .i64 (bsN n : Int)) ∧ w' = w := by
  have hb : (bsN n : Int) = if n < 2 ∨ 36 < n then 10 else n := by unfold bsN; split <;> omega
  rw [hb]
  by_cases h1 : n < 2
  · have d1 : decide (n < 2) = true := by simp; omega
    rw [if_pos (Or.inl h1)]
    clear hb
    go_enter Try.func11, Try.ntmps11
    go_wp2_with fail
    go_ret
    exact ⟨rfl, rfl⟩
  · have d1 : decide (n < 2) = false := by simp; omega
    by_cases h2 : 36 < n
    · have d2 : decide (36 < n) = true := by simp; omega
      rw [if_pos (Or.inr h2)]
      clear hb
      go_enter Try.func11, Try.ntmps11
      go_wp2_with fail
      go_ret
      exact ⟨rfl, rfl⟩
    · have d2 : decide (36 < n) = false := by simp; omega
      rw [if_neg (by omega)]
      clear hb
      go_enter Try.func11, Try.ntmps11
      go_wp2_with fail
      go_ret
      exact ⟨rfl, rfl⟩
set_option maxRecDepth 100000 in
/-- A rune's worth. -/
theorem value_any (r : Nat) (hr : r < 2147483648) (w : World) : Calls Try.prog 24 #[.int .i32 (r : Int)] w fun e w' => ∃ v, e = .returned (.tuple #[.int .u64 v, .bool (decide (worthV r < 99))]) ∧ w' = w ∧ v = if worthV r < 99 then (worthV r : Int) else 0 := by
  have W : ∀ k : Int, 0 ≤ k → k < 36 → IntKind.u64.wrap k = k := fun k h1 h2 => by simp [IntKind.wrap, IntKind.bits, IntKind.signed]; omega
  have V : ∀ k : Int, 0 ≤ k → k < 36 → IntKind.i32.wrap k = k := fun k h1 h2 => by simp [IntKind.wrap, IntKind.bits, IntKind.signed]; omega
  by_cases c0 : r ≤ 47
  · have d0 : decide ((48 : Int) ≤ (r : Int)) = false := by simp; omega
    have d1 : decide ((r : Int) ≤ 57) = true := by simp; omega
    have d2 : decide ((65 : Int) ≤ (r : Int)) = false := by simp; omega
    have d3 : decide ((r : Int) ≤ 90) = true := by simp; omega
    have d4 : decide ((97 : Int) ≤ (r : Int)) = false := by simp; omega
    have d5 : decide ((r : Int) ≤ 122) = true := by simp; omega
    have hw : worthV r = 99 := by unfold worthV; (repeat' split) <;> omega
    have k1 : decide (worthV r < 99) = false := by rw [hw]; rfl
    have k2 : (if worthV r < 99 then (worthV r : Int) else 0) = 0 := by rw [hw]; rfl
    rw [k1, k2]
    clear hw k1 k2 W V
    go_enter Try.func24, Try.ntmps24
    go_wp2_with fail
    go_ret2
    exact ⟨_, rfl, rfl, rfl⟩
  by_cases c1 : r ≤ 57
  · have d0 : decide ((48 : Int) ≤ (r : Int)) = true := by simp; omega
    have d1 : decide ((r : Int) ≤ 57) = true := by simp; omega
    have d2 : decide ((65 : Int) ≤ (r : Int)) = false := by simp; omega
    have d3 : decide ((r : Int) ≤ 90) = true := by simp; omega
    have d4 : decide ((97 : Int) ≤ (r : Int)) = false := by simp; omega
    have d5 : decide ((r : Int) ≤ 122) = true := by simp; omega
    have hw : worthV r = r - 48 := by unfold worthV; (repeat' split) <;> omega
    have e1 : IntKind.i32.wrap ((r : Int) - 48) = (r : Int) - 48 := V _ (by omega) (by omega)
    have e2 : IntKind.u64.wrap ((r : Int) - 48) = (r : Int) - 48 := W _ (by omega) (by omega)
    have k1 : decide (worthV r < 99) = true := by rw [hw]; simp; omega
    have k2 : (if worthV r < 99 then (worthV r : Int) else 0) = (r : Int) - 48 := by rw [hw, if_pos (by omega)]; omega
    rw [k1, k2]
    clear hw k1 k2 W V
    go_enter Try.func24, Try.ntmps24
    go_wp2_with fail
    go_ret2
    exact ⟨_, rfl, rfl, rfl⟩
  by_cases c2 : r ≤ 64
  · have d0 : decide ((48 : Int) ≤ (r : Int)) = true := by simp; omega
    have d1 : decide ((r : Int) ≤ 57) = false := by simp; omega
    have d2 : decide ((65 : Int) ≤ (r : Int)) = false := by simp; omega
    have d3 : decide ((r : Int) ≤ 90) = true := by simp; omega
    have d4 : decide ((97 : Int) ≤ (r : Int)) = false := by simp; omega
    have d5 : decide ((r : Int) ≤ 122) = true := by simp; omega
    have hw : worthV r = 99 := by unfold worthV; (repeat' split) <;> omega
    have k1 : decide (worthV r < 99) = false := by rw [hw]; rfl
    have k2 : (if worthV r < 99 then (worthV r : Int) else 0) = 0 := by rw [hw]; rfl
    rw [k1, k2]
    clear hw k1 k2 W V
    go_enter Try.func24, Try.ntmps24
    go_wp2_with fail
    go_ret2
    exact ⟨_, rfl, rfl, rfl⟩
  by_cases c3 : r ≤ 90
  · have d0 : decide ((48 : Int) ≤ (r : Int)) = true := by simp; omega
    have d1 : decide ((r : Int) ≤ 57) = false := by simp; omega
    have d2 : decide ((65 : Int) ≤ (r : Int)) = true := by simp; omega
    have d3 : decide ((r : Int) ≤ 90) = true := by simp; omega
    have d4 : decide ((97 : Int) ≤ (r : Int)) = false := by simp; omega
    have d5 : decide ((r : Int) ≤ 122) = true := by simp; omega
    have hw : worthV r = r - 55 := by unfold worthV; (repeat' split) <;> omega
    have e1 : IntKind.i32.wrap ((r : Int) - 65) = (r : Int) - 65 := V _ (by omega) (by omega)
    have e2 : IntKind.u64.wrap ((r : Int) - 65) = (r : Int) - 65 := W _ (by omega) (by omega)
    have e3 : IntKind.u64.wrap ((r : Int) - 65 + 10) = (r : Int) - 55 := by rw [W _ (by omega) (by omega)]; omega
    have k1 : decide (worthV r < 99) = true := by rw [hw]; simp; omega
    have k2 : (if worthV r < 99 then (worthV r : Int) else 0) = (r : Int) - 55 := by rw [hw, if_pos (by omega)]; omega
    rw [k1, k2]
    clear hw k1 k2 W V
    go_enter Try.func24, Try.ntmps24
    go_wp2_with fail
    go_ret2
    exact ⟨_, rfl, rfl, rfl⟩
  by_cases c4 : r ≤ 96
  · have d0 : decide ((48 : Int) ≤ (r : Int)) = true := by simp; omega
    have d1 : decide ((r : Int) ≤ 57) = false := by simp; omega
    have d2 : decide ((65 : Int) ≤ (r : Int)) = true := by simp; omega
    have d3 : decide ((r : Int) ≤ 90) = false := by simp; omega
    have d4 : decide ((97 : Int) ≤ (r : Int)) = false := by simp; omega
    have d5 : decide ((r : Int) ≤ 122) = true := by simp; omega
    have hw : worthV r = 99 := by unfold worthV; (repeat' split) <;> omega
    have k1 : decide (worthV r < 99) = false := by rw [hw]; rfl
    have k2 : (if worthV r < 99 then (worthV r : Int) else 0) = 0 := by rw [hw]; rfl
    rw [k1, k2]
    clear hw k1 k2 W V
    go_enter Try.func24, Try.ntmps24
    go_wp2_with fail
    go_ret2
    exact ⟨_, rfl, rfl, rfl⟩
  by_cases c5 : r ≤ 122
  · have d0 : decide ((48 : Int) ≤ (r : Int)) = true := by simp; omega
    have d1 : decide ((r : Int) ≤ 57) = false := by simp; omega
    have d2 : decide ((65 : Int) ≤ (r : Int)) = true := by simp; omega
    have d3 : decide ((r : Int) ≤ 90) = false := by simp; omega
    have d4 : decide ((97 : Int) ≤ (r : Int)) = true := by simp; omega
    have d5 : decide ((r : Int) ≤ 122) = true := by simp; omega
    have hw : worthV r = r - 87 := by unfold worthV; (repeat' split) <;> omega
    have e1 : IntKind.i32.wrap ((r : Int) - 97) = (r : Int) - 97 := V _ (by omega) (by omega)
    have e2 : IntKind.u64.wrap ((r : Int) - 97) = (r : Int) - 97 := W _ (by omega) (by omega)
    have e3 : IntKind.u64.wrap ((r : Int) - 97 + 10) = (r : Int) - 87 := by rw [W _ (by omega) (by omega)]; omega
    have k1 : decide (worthV r < 99) = true := by rw [hw]; simp; omega
    have k2 : (if worthV r < 99 then (worthV r : Int) else 0) = (r : Int) - 87 := by rw [hw, if_pos (by omega)]; omega
    rw [k1, k2]
    clear hw k1 k2 W V
    go_enter Try.func24, Try.ntmps24
    go_wp2_with fail
    go_ret2
    exact ⟨_, rfl, rfl, rfl⟩
  have d0 : decide ((48 : Int) ≤ (r : Int)) = true := by simp; omega
  have d1 : decide ((r : Int) ≤ 57) = false := by simp; omega
  have d2 : decide ((65 : Int) ≤ (r : Int)) = true := by simp; omega
  have d3 : decide ((r : Int) ≤ 90) = false := by simp; omega
  have d4 : decide ((97 : Int) ≤ (r : Int)) = true := by simp; omega
  have d5 : decide ((r : Int) ≤ 122) = false := by simp; omega
  have hw : worthV r = 99 := by unfold worthV; (repeat' split) <;> omega
  have k1 : decide (worthV r < 99) = false := by rw [hw]; rfl
  have k2 : (if worthV r < 99 then (worthV r : Int) else 0) = 0 := by rw [hw]; rfl
  rw [k1, k2]
  clear hw k1 k2 W V
  go_enter Try.func24, Try.ntmps24
  go_wp2_with fail
  go_ret2
  exact ⟨_, rfl, rfl, rfl⟩
set_option maxRecDepth 100000 in
/-- A byte's worth. -/
theorem worth_any (r : Nat) (hr : r < 256) (w : World) : Calls Try.prog 19 #[.int .u8 (r : Int)] w fun e w' => e = .returned (.int .i64 (worthV r : Int)) ∧ w' = w := by
  have W : ∀ k : Int, 0 ≤ k → k < 36 → IntKind.i64.wrap k = k := fun k h1 h2 => by simp [IntKind.wrap, IntKind.bits, IntKind.signed]; omega
  have V : ∀ k : Int, 0 ≤ k → k < 36 → IntKind.u8.wrap k = k := fun k h1 h2 => by simp [IntKind.wrap, IntKind.bits, IntKind.signed]; omega
  by_cases c0 : r ≤ 47
  · have d0 : decide ((48 : Int) ≤ (r : Int)) = false := by simp; omega
    have d1 : decide ((r : Int) ≤ 57) = true := by simp; omega
    have d2 : decide ((65 : Int) ≤ (r : Int)) = false := by simp; omega
    have d3 : decide ((r : Int) ≤ 90) = true := by simp; omega
    have d4 : decide ((97 : Int) ≤ (r : Int)) = false := by simp; omega
    have d5 : decide ((r : Int) ≤ 122) = true := by simp; omega
    have hw : worthV r = 99 := by unfold worthV; (repeat' split) <;> omega
    rw [hw]
    clear hw W V
    go_enter Try.func19, Try.ntmps19
    go_wp2_with fail
    go_ret
    exact ⟨rfl, rfl⟩
  by_cases c1 : r ≤ 57
  · have d0 : decide ((48 : Int) ≤ (r : Int)) = true := by simp; omega
    have d1 : decide ((r : Int) ≤ 57) = true := by simp; omega
    have d2 : decide ((65 : Int) ≤ (r : Int)) = false := by simp; omega
    have d3 : decide ((r : Int) ≤ 90) = true := by simp; omega
    have d4 : decide ((97 : Int) ≤ (r : Int)) = false := by simp; omega
    have d5 : decide ((r : Int) ≤ 122) = true := by simp; omega
    have hw : worthV r = r - 48 := by unfold worthV; (repeat' split) <;> omega
    have e1 : IntKind.u8.wrap ((r : Int) - 48) = (r : Int) - 48 := V _ (by omega) (by omega)
    have e2 : IntKind.i64.wrap ((r : Int) - 48) = (r : Int) - 48 := W _ (by omega) (by omega)
    have k2 : (worthV r : Int) = (r : Int) - 48 := by rw [hw]; omega
    rw [k2]
    clear hw k2 W V
    go_enter Try.func19, Try.ntmps19
    go_wp2_with fail
    go_ret
    exact ⟨rfl, rfl⟩
  by_cases c2 : r ≤ 64
  · have d0 : decide ((48 : Int) ≤ (r : Int)) = true := by simp; omega
    have d1 : decide ((r : Int) ≤ 57) = false := by simp; omega
    have d2 : decide ((65 : Int) ≤ (r : Int)) = false := by simp; omega
    have d3 : decide ((r : Int) ≤ 90) = true := by simp; omega
    have d4 : decide ((97 : Int) ≤ (r : Int)) = false := by simp; omega
    have d5 : decide ((r : Int) ≤ 122) = true := by simp; omega
    have hw : worthV r = 99 := by unfold worthV; (repeat' split) <;> omega
    rw [hw]
    clear hw W V
    go_enter Try.func19, Try.ntmps19
    go_wp2_with fail
    go_ret
    exact ⟨rfl, rfl⟩
  by_cases c3 : r ≤ 90
  · have d0 : decide ((48 : Int) ≤ (r : Int)) = true := by simp; omega
    have d1 : decide ((r : Int) ≤ 57) = false := by simp; omega
    have d2 : decide ((65 : Int) ≤ (r : Int)) = true := by simp; omega
    have d3 : decide ((r : Int) ≤ 90) = true := by simp; omega
    have d4 : decide ((97 : Int) ≤ (r : Int)) = false := by simp; omega
    have d5 : decide ((r : Int) ≤ 122) = true := by simp; omega
    have hw : worthV r = r - 55 := by unfold worthV; (repeat' split) <;> omega
    have e1 : IntKind.u8.wrap ((r : Int) - 65) = (r : Int) - 65 := V _ (by omega) (by omega)
    have e2 : IntKind.i64.wrap ((r : Int) - 65) = (r : Int) - 65 := W _ (by omega) (by omega)
    have e3 : IntKind.i64.wrap ((r : Int) - 65 + 10) = (r : Int) - 55 := by rw [W _ (by omega) (by omega)]; omega
    have k2 : (worthV r : Int) = (r : Int) - 55 := by rw [hw]; omega
    rw [k2]
    clear hw k2 W V
    go_enter Try.func19, Try.ntmps19
    go_wp2_with fail
    go_ret
    exact ⟨rfl, rfl⟩
  by_cases c4 : r ≤ 96
  · have d0 : decide ((48 : Int) ≤ (r : Int)) = true := by simp; omega
    have d1 : decide ((r : Int) ≤ 57) = false := by simp; omega
    have d2 : decide ((65 : Int) ≤ (r : Int)) = true := by simp; omega
    have d3 : decide ((r : Int) ≤ 90) = false := by simp; omega
    have d4 : decide ((97 : Int) ≤ (r : Int)) = false := by simp; omega
    have d5 : decide ((r : Int) ≤ 122) = true := by simp; omega
    have hw : worthV r = 99 := by unfold worthV; (repeat' split) <;> omega
    rw [hw]
    clear hw W V
    go_enter Try.func19, Try.ntmps19
    go_wp2_with fail
    go_ret
    exact ⟨rfl, rfl⟩
  by_cases c5 : r ≤ 122
  · have d0 : decide ((48 : Int) ≤ (r : Int)) = true := by simp; omega
    have d1 : decide ((r : Int) ≤ 57) = false := by simp; omega
    have d2 : decide ((65 : Int) ≤ (r : Int)) = true := by simp; omega
    have d3 : decide ((r : Int) ≤ 90) = false := by simp; omega
    have d4 : decide ((97 : Int) ≤ (r : Int)) = true := by simp; omega
    have d5 : decide ((r : Int) ≤ 122) = true := by simp; omega
    have hw : worthV r = r - 87 := by unfold worthV; (repeat' split) <;> omega
    have e1 : IntKind.u8.wrap ((r : Int) - 97) = (r : Int) - 97 := V _ (by omega) (by omega)
    have e2 : IntKind.i64.wrap ((r : Int) - 97) = (r : Int) - 97 := W _ (by omega) (by omega)
    have e3 : IntKind.i64.wrap ((r : Int) - 97 + 10) = (r : Int) - 87 := by rw [W _ (by omega) (by omega)]; omega
    have k2 : (worthV r : Int) = (r : Int) - 87 := by rw [hw]; omega
    rw [k2]
    clear hw k2 W V
    go_enter Try.func19, Try.ntmps19
    go_wp2_with fail
    go_ret
    exact ⟨rfl, rfl⟩
  have d0 : decide ((48 : Int) ≤ (r : Int)) = true := by simp; omega
  have d1 : decide ((r : Int) ≤ 57) = false := by simp; omega
  have d2 : decide ((65 : Int) ≤ (r : Int)) = true := by simp; omega
  have d3 : decide ((r : Int) ≤ 90) = false := by simp; omega
  have d4 : decide ((97 : Int) ≤ (r : Int)) = true := by simp; omega
  have d5 : decide ((r : Int) ≤ 122) = false := by simp; omega
  have hw : worthV r = 99 := by unfold worthV; (repeat' split) <;> omega
  rw [hw]
  clear hw W V
  go_enter Try.func19, Try.ntmps19
  go_wp2_with fail
  go_ret
  exact ⟨rfl, rfl⟩
--@end
end Go.Proofs.Ytncignjfmcajgaa.Dgt
