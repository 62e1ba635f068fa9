/-
  PrAwake
-/
import Derived.Test.YthbkjndnconakaaPrOf
namespace Go.Proofs.Ythbkjndnconakaa.Pr
open Go.RowKit Go.Maps
set_option linter.unusedVariables false
set_option linter.unusedSimpArgs false

theorem text_of (s : ByteArray) : ∃ xs : List UInt8, s = ⟨xs.toArray⟩ := ⟨s.data.toList, by cases s; simp⟩
theorem eqlP (xs : List UInt8) (t l : Int) (b1 b2 : Bool) (w : World) : (binOp .eql 24 (.agg #[St xs, .int .i64 t, .int .i64 l, .bool b1, .bool b2]) (.agg #[St xs, .int .i64 t, .int .i64 l, .bool b1, .bool b2])).run Try.prog w = .ok (.bool true) w := by
  go_simp
theorem cells5 {W : World} {b : Nat} {x0 x1 x2 x3 x4 : Value} {t : TypeId} (h : W.heap[b]? = some (.cells #[x0, x1, x2, x3, x4] t (0, 0))) :
    W.cell? ⟨b, 0, none⟩ = some x0 ∧ W.cell? ⟨b, 1, none⟩ = some x1 ∧ W.cell? ⟨b, 2, none⟩ = some x2 ∧ W.cell? ⟨b, 3, none⟩ = some x3 ∧ W.cell? ⟨b, 4, none⟩ = some x4 := by
  refine ⟨?_, ?_, ?_, ?_, ?_⟩ <;> (rw [cell_of_row _ _ _ _ _ _ h]; rfl)
theorem guardP : Try.prog.eqGuardType Try.prog.depth 24 = false := by kernel_rfl
theorem ex_of : pv (ofV 13) = .agg #[St [68, 85, 80], .int .i64 1, .int .i64 2, .bool false, .bool false] := by kernel_rfl
theorem ex_dup : findN (upL [100, 117, 112]) = 13 := by decide +kernel
theorem ex_lit : findN (upL [40, 108, 105, 116, 41]) = 0 := by decide +kernel
theorem ex_xt : xtV 13 = 104 := by decide
theorem ex_num : numV 104 = 13 := by decide
theorem st_lit (xs : List UInt8) (s : ByteArray) (h : s = ⟨xs.toArray⟩) : ((⟨xs.toArray⟩ : ByteArray).toList == s.toList) = true := by rw [h]; simp
set_option maxRecDepth 100000 in
set_option maxHeartbeats 1000000 in
theorem awake_any (w : World) : Calls Try.prog 7 #[] w fun e w' => e = .returned (.bool true) ∧ Below w.heap.size w w' := by
  have q3 : ((⟨([68, 85, 80] : List UInt8).toArray⟩ : ByteArray).toList == (⟨#[68, 85, 80]⟩ : ByteArray).toList) = true := st_lit _ _ rfl
  have H1 := Lib.hid (fun W => of_any 13 (by omega) W)
  have H2 := Lib.hid (fun W => find_any [100, 117, 112] (by simp) W)
  have H3 := Lib.hid (fun W => find_any [40, 108, 105, 116, 41] (by simp) W)
  have H4 := Lib.hid (fun W => xt_any 13 (by omega) W)
  have H5 := Lib.hid (fun W => number_any 104 (by omega) W)
  rw [ex_of, show isV 13 = true from rfl] at H1
  rw [ex_dup] at H2
  rw [ex_lit] at H3
  rw [ex_xt] at H4
  rw [ex_num] at H5
  go_enter Try.func7, Try.ntmps7
  go_wp2_with fail
  refine (H1.out _).mono ?_
  rintro e w1 ⟨rfl, b1⟩
  have B1 := Lib.hid b1
  clear b1
  go_wp2_with fail
  refine (H2.out _).mono ?_
  rintro e w2 ⟨rfl, b2⟩
  have B2 := Lib.hid ((B1.out.alloc B1.out.size (.cells #[.string ⟨#[68, 85, 80]⟩, .int .i64 1, .int .i64 2, .bool false, .bool false] 24)).trans (b2.mono (Nat.le_trans B1.out.size (by rw [World.size_alloc]; omega))))
  clear b2 B1
  go_wp2_with fail
  refine (H3.out _).mono ?_
  rintro e w3 ⟨rfl, b2⟩
  have B3 := Lib.hid (B2.out.trans (b2.mono B2.out.size))
  clear b2 B2
  go_wp2_with fail
  refine (H4.out _).mono ?_
  rintro e w4 ⟨rfl, rfl⟩
  go_wp2_with fail
  refine (H5.out _).mono ?_
  rintro e w5 ⟨rfl, rfl⟩
  go_wp2_with fail
  go_ret
  exact ⟨rfl, B3.out⟩
end Go.Proofs.Ythbkjndnconakaa.Pr
