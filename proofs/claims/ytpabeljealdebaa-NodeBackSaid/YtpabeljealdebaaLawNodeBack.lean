/-
  What is written is read again, and ways and pages lead to one another: for every node and number the law NodeBack returns true.
  Conditions: none of our own; what the row itself says of its inputs (they can be read as data, each slice within the form's own reach).
-/
import Derived.Test.YtpabeljealdebaaFrame
import Derived.ChangeOld
import Derived.Below
import Derived.Deep.QuietTactic
import Derived.BigQuiet
import Derived.WalkSmall
import Derived.Test.YtpabeljealdebaaNdIn
import Derived.Test.YtpabeljealdebaaNdEnc
namespace Go.Proofs.Ytpabeljealdebaa.nodeBack
open Go.ChangeShapes Go.WideShapes Go.ChangeAt Go.RowKit
set_option linter.unusedVariables false

theorem own : ownKnob Try.prog.godebug = none := by kernel_rfl
theorem laidOut : laidOutB Try.prog = true := by kernel_rfl

theorem decO_back {zs : List Int} (hl : zs.length = 32) (h : okN zs = true) : decO (encB zs 32) = zs ∧ decE (encB zs 32) = 0 := by
  have h1 := decN_encB zs hl
  rw [h] at h1
  unfold decO decE
  rw [if_pos (encB_len _ _), if_pos (encB_len _ _)]
  exact ⟨of_decide_eq_true h1, rfl⟩
theorem page_back {p : Int} (h : 0 ≤ p ∧ p < 128) : pageN (pathA p) (pathB p) = p ∧ pageE (pathA p) (pathB p) = 0 ∧ pathE p = 0 := by
  have e1 : pathA p = p / 32 := if_pos h
  have e2 : pathB p = p % 32 := if_pos h
  have e3 : pathE p = 0 := if_pos h
  have hc : (0 ≤ p / 32 ∧ p / 32 < 4) ∧ 0 ≤ p % 32 ∧ p % 32 < 32 := by omega
  rw [e1, e2, e3]
  unfold pageN pageE
  rw [if_pos hc, if_pos hc]
  exact ⟨by omega, rfl, rfl⟩

set_option maxHeartbeats 1000000 in
theorem walk (z0 : List Int) (a1 : Int) (w : World) (o0 : NodeOk z0) (w1 : (Lit.int .i64 a1).wf = true) :
    Calls Try.prog 7 #[ng z0, .int .i64 a1] w fun e w' => e = .returned (.bool true) ∧ Below w.heap.size w w' := by
  have hl := o0.len
  have n1 := NB.box w z0
  have k1 : Below w.heap.size w (w.alloc (.cells (z0.map I6).toArray 23)) := (Below.refl _ _).alloc (Nat.le_refl _) _
  have L1 := Lib.hid (n1.load hl)
  go_enter Try.func7, Try.ntmps7
  go_wp2_with ((with_reducible refine at_ (op := .box 23 (.tmp 0)) ?_); refine wpList_val rfl _ (ex_box 23 (.tmp 0) rfl _ _ rfl (boxN _ _)) ?_)
  generalize (w.alloc (.cells (z0.map I6).toArray 23)) = w1 at *
  refine (awake_any _).mono ?_
  rintro e w2 ⟨rfl, rfl⟩
  go_wp2_with ((with_reducible refine at_ (op := .load 23 (.tmp 2)) ?_); refine wpList_val rfl _ (ex_load 23 (.tmp 2) rfl _ _ rfl L1.out) ?_)
  refine (encode_any z0 _ hl).mono ?_
  rintro e w2 ⟨R2, n2, c2, rfl, q2, r2, k2⟩
  have n3 := n1.below k2 n1.lt
  have k3 := k1.trans (k2.mono k1.size)
  clear L1 n1 k1 k2
  cases ho : okN z0
  · have e1 : encN z0 = 1 := by simp [encN, ho]
    rw [e1]
    clear e1
    clear ho q2 r2 n3
    go_wp2_with fail
    refine (path_any _ _).mono ?_
    rintro e w' ⟨rfl, rfl⟩
    by_cases hp : 0 ≤ a1 ∧ a1 < 128
    · obtain ⟨p1, p2, p3⟩ := page_back hp
      have P1 := Lib.hid p1
      have P2 := Lib.hid p2
      rw [p3]
      clear p1 p2 p3 hp
      go_wp2_with fail
      refine (page_any _ _ _).mono ?_
      rintro e w' ⟨rfl, rfl⟩
      rw [P1.out, P2.out]
      go_wp2_with fail
      go_ret
      exact ⟨ret_bool (by simp), k3⟩
    · have e3 : pathE a1 = 1 := if_neg hp
      rw [e3]
      clear e3
      rcases Int.lt_or_le a1 0 with h0 | h0
      · clear hp
        go_wp2_with fail
        go_ret
        exact ⟨ret_bool (by simp), k3⟩
      · have h1 : (128 : Int) ≤ a1 := by omega
        clear hp
        go_wp2_with fail
        go_ret
        exact ⟨ret_bool (by simp), k3⟩
  · have e1 : encN z0 = 0 := by simp [encN, ho]
    have e2 : encO z0 = encB z0 32 := by simp [encO, ho]
    obtain ⟨g1, g2⟩ := decO_back hl ho
    rw [e2] at q2 r2
    rw [encB_len] at q2
    subst q2
    rw [e1]
    have G1 := Lib.hid g1
    have G2 := Lib.hid g2
    clear e1 e2 ho g1 g2
    go_wp2_with fail
    refine (decode_any R2 _ c2 64 _ r2 (encB_len _ _)).mono ?_
    rw [G1.out, G2.out]
    rintro e w4 ⟨rfl, k4⟩
    have n4 := n3.below k4 n3.lt
    have k5 := k3.trans (k4.mono k3.size)
    have AL := Lib.hid (allocN w4)
    obtain ⟨w5, S0, n5, k6, hs5⟩ := NB.laid w4 z0 hl
    have S5 := Lib.hid S0
    have n6 := n4.below k6 n4.lt
    have k7 := k5.trans (k6.mono k5.size)
    have L5 := Lib.hid (n5.load hl)
    have L6 := Lib.hid (n6.load hl)
    clear S0 n3 n4 n5 n6 k3 k4 k5 k6 hs5 r2
    go_wp2_with (first
      | ((with_reducible refine at_ (op := .alloc 23) (d := some 7) ?_); refine wpList_val rfl _ (ex_alloc 23 rfl _ AL.out) ?_)
      | ((with_reducible refine at_ (op := .store 23 (.tmp 7) (.tmp 26)) ?_); refine wpList_unit rfl (ex_store 23 (.tmp 7) (.tmp 26) rfl _ _ rfl rfl S5.out) ?_)
      | ((with_reducible refine at_ (op := .load 23 (.tmp 7)) ?_); refine wpList_val rfl _ (ex_load 23 (.tmp 7) rfl _ _ rfl L5.out) ?_)
      | ((with_reducible refine at_ (op := .load 23 (.tmp 2)) ?_); refine wpList_val rfl _ (ex_load 23 (.tmp 2) rfl _ _ rfl L6.out) ?_)
      | ((with_reducible refine at_ (op := .binOp .neq 23 (.tmp 31) (.tmp 32) 23) ?_); refine wpList_val rfl _ (ex_bin_agg .neq 23 23 (.tmp 31) (.tmp 32) rfl _ _ _ rfl rfl guardN (neqN _ hl hl)) ?_))
    refine (path_any _ _).mono ?_
    rintro e w' ⟨rfl, rfl⟩
    by_cases hp : 0 ≤ a1 ∧ a1 < 128
    · obtain ⟨p1, p2, p3⟩ := page_back hp
      have P1 := Lib.hid p1
      have P2 := Lib.hid p2
      rw [p3]
      clear p1 p2 p3 hp
      go_wp2_with fail
      refine (page_any _ _ _).mono ?_
      rintro e w' ⟨rfl, rfl⟩
      rw [P1.out, P2.out]
      go_wp2_with fail
      go_ret
      exact ⟨ret_bool (by simp), k7⟩
    · have e3 : pathE a1 = 1 := if_neg hp
      rw [e3]
      clear e3
      rcases Int.lt_or_le a1 0 with h0 | h0
      · clear hp
        go_wp2_with fail
        go_ret
        exact ⟨ret_bool (by simp), k7⟩
      · have h1 : (128 : Int) ≤ a1 := by omega
        clear hp
        go_wp2_with fail
        go_ret
        exact ⟨ret_bool (by simp), k7⟩

set_option maxRecDepth 100000 in
theorem lifted (os : Os) (started : os.Started) (H : Type) (enc : TypeId × Value → H) :
    ReturnsInHanded {} Try.checked os 7 .any (Rows.nodeBackSpec.pre6 enc Try.prog Try.f7 Rows.nodeBackRow.domain false) (Rows.nodeBackSpec.post enc Try.prog Try.f7 false true false false) := by
  refine returnsInHanded_of_change_sized (C := Try.checked) own started (by kernel_rfl) Try.func7
    (ChangeSpec.witness6 (enc := enc) (C := Try.checked) false ⟨#[], #[.agg #[.int .i64 0, .int .i64 0, .int .i64 0, .int .i64 0, .int .i64 0, .int .i64 0, .int .i64 0, .int .i64 0, .int .i64 0, .int .i64 0, .int .i64 0, .int .i64 0, .int .i64 0, .int .i64 0, .int .i64 0, .int .i64 0, .int .i64 0, .int .i64 0, .int .i64 0, .int .i64 0, .int .i64 0, .int .i64 0, .int .i64 0, .int .i64 0, .int .i64 0, .int .i64 0, .int .i64 0, .int .i64 0, .int .i64 0, .int .i64 0, .int .i64 0, .int .i64 0], .int .i64 0], []⟩ 8 (by kernel_rfl) (by kernel_rfl) (by kernel_rfl) (by kernel_rfl)) ?_
  intro W base args ds gs before hval0 hW _ hsz0 _
  have hsz : (DataW.weightsEach Try.prog (Try.f7.params.toList ++ Rows.nodeBackSpec.plain.varTypes Try.prog) (ds ++ gs)).all (· ≤ reachBytes) = true := hsz0
  clear hsz0
  have hval : ∀ (j : Nat) t v, Try.f7.params[j]? = some t → args[j]? = some v → Value.okWide Try.prog W .any base t v := hval0
  have hW' := hW
  obtain ⟨p, q, hA0, hV, rfl, _, _⟩ := hW
  have hA : DataW.TrodAll enc Try.prog W 0 (fun _ => true) true Try.f7.params.toList args.toList ds p := hA0
  rw [Try.params7] at hA hval hsz
  obtain ⟨v0, vs0, d0, ds0, p0, q0, hargs, rfl, rfl, h0, r0⟩ := trodAll_cons hA
  obtain ⟨v1, vs1, d1, ds1, p1, q1, rfl, rfl, rfl, h1, r1⟩ := trodAll_cons r0
  obtain ⟨rfl, rfl, rfl⟩ := trodAll_nil r1
  obtain rfl : args = #[v0, v1] := by cases args; simp_all
  obtain ⟨rfl, rfl⟩ := trodVars_none hV
  have k0 := h0
  have lt0 : ∀ x ∈ p0, x.block < W.heap.size := by obtain ⟨m, hm⟩ := k0; exact DataW.trod_lt m _ _ _ hm
  obtain ⟨z0, rfl, o0⟩ := node_in (hval 0 23 v0 rfl rfl) h0
  obtain ⟨a1, rfl, rfl, rfl, w1⟩ := open_int Try.underlying3 (hval 1 3 v1 rfl rfl) h1
  clear hA0 hval0
  refine (walk z0 a1 W o0 w1).mono fun e W' ⟨he, bel⟩ => ?_
  subst he
  exact ⟨_, rfl, _, _, _, [], _, [], hW', trodAll_mk1 (shut_bool Try.underlying4 _), (trodAll_cons_mk (Below.trod laidOut (by kernel_rfl) (of_decide_eq_true (by kernel_rfl)) k0 bel lt0) (trodAll_cons_mk (shut_int Try.underlying3 w1) trodAll_mk0)), rfl, bel.frame _, fun h => by cases h⟩

theorem proved : Rows.NodeBackSaid :=
  OpenClaim.holds_of_wide 7 Try.f7 rfl rfl rfl rfl rfl rfl rfl ⟨rfl, rfl, rfl, rfl, rfl⟩ rfl rfl rfl rfl rfl (by kernel_rfl) Try.func7 (by kernel_rfl)
    (of_decide_eq_true (by kernel_rfl)) (by unfold Func.isWrapper; first | (rw [if_pos (by decide +kernel)]; kernel_rfl) | (rw [if_neg (by decide +kernel)]; exact ⟨rfl, rfl⟩))
    (fun os started H enc _ => lifted os started H enc)
#print axioms proved
end Go.Proofs.Ytpabeljealdebaa.nodeBack
