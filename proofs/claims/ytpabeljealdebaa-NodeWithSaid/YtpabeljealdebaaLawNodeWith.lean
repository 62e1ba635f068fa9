/-
  One entry is changed, and no other one: for every node, place and number the law NodeWith returns true.
  Conditions: none of our own; what the row itself says of its inputs (they can be read as data, each slice within the form's own reach).
-/
import Derived.Test.YtpabeljealdebaaFrame
import Derived.ChangeOld
import Derived.Below
import Derived.Deep.QuietTactic
import Derived.BigQuiet
import Derived.WalkSmall
import Derived.Test.YtpabeljealdebaaNdIn
namespace Go.Proofs.Ytpabeljealdebaa.nodeWith
open Go.ChangeShapes Go.WideShapes Go.ChangeAt Go.RowKit
set_option linter.unusedVariables false

theorem own : ownKnob Try.prog.godebug = none := by kernel_rfl
theorem laidOut : laidOutB Try.prog = true := by kernel_rfl

set_option maxHeartbeats 1000000 in
theorem walk (z0 : List Int) (a1 : Int) (a2 : Int) (w : World) (o0 : NodeOk z0) (w1 : (Lit.int .i64 a1).wf = true) (w2 : (Lit.int .i64 a2).wf = true) :
    Calls Try.prog 5 #[ng z0, .int .i64 a1, .int .i64 a2] w fun e w' => e = .returned (.bool true) ∧ Below w.heap.size w w' := by
  have hl := o0.len
  have b0 := NB.box w z0
  have k0 : Below w.heap.size w (w.alloc (.cells (z0.map I6).toArray 23)) := (Below.refl _ _).alloc (Nat.le_refl _) _
  have L0 := Lib.hid (b0.load hl)
  by_cases hi : 0 ≤ a1 ∧ a1 < 32
  · obtain ⟨h0, h1⟩ := hi
    obtain ⟨k, rfl⟩ := Int.eq_ofNat_of_zero_le h0
    have hk : k < 32 := by omega
    go_enter Try.func5, Try.ntmps5
    go_wp2_with ((with_reducible refine at_ (op := .box 23 (.tmp 0)) ?_); refine wpList_val rfl _ (ex_box 23 (.tmp 0) rfl _ _ rfl (boxN _ _)) ?_)
    refine (awake_any _).mono ?_
    rintro e w1 ⟨rfl, rfl⟩
    generalize w.alloc (.cells (z0.map I6).toArray 23) = w1 at *
    go_wp2_with ((with_reducible refine at_ (op := .load 23 (.tmp 3)) ?_); refine wpList_val rfl _ (ex_load 23 (.tmp 3) rfl _ _ rfl L0.out) ?_)
    refine (with_in z0 k a2 w1 hl hk).mono ?_
    rintro e w2 ⟨rfl, k2⟩
    have b2 := b0.below k2 b0.lt
    have k3 := k0.trans (k2.mono k0.size)
    have hl2 : (z0.set k a2).length = 32 := by simpa using hl
    have HY := Lib.hid (show (z0.set k a2) = (z0.set k a2) from rfl)
    have A1 := Lib.hid (allocN w2)
    clear b0 k2 k0 L0
    revert HY
    generalize hy : z0.set k a2 = ys at hl2 ⊢
    intro _
    have HY := Lib.hid hy
    clear hy
    obtain ⟨w3, S0, b3, k4, hs3⟩ := NB.laid w2 ys hl2
    have S1 := Lib.hid S0
    have HS := Lib.hid hs3
    have b4 := b2.below k4 b2.lt
    have k5 := k3.trans (k4.mono k3.size)
    have hlt2 := b2.lt
    clear S0 b2 k3 k4 hs3
    have hne : w2.heap.size ≠ w.heap.size := by omega
    have hle : w.heap.size ≤ w2.heap.size := by omega
    have c0 := b4.cell (k := k) (by omega)
    have f0 := b4.free k
    have b5 := b4.set k a2
    rw [HY.out] at b5
    have b6 := b3.keep (Keeps.setCell (· = w.heap.size) w3 ⟨w.heap.size, k, none⟩ (.int .i64 a2) rfl) (fun e => hne e)
    have L1 := Lib.hid (b6.load hl2)
    have L2 := Lib.hid (b5.load hl2)
    have k6 := k5.setCell (p := ⟨w.heap.size, k, none⟩) (Nat.le_refl _) (.int .i64 a2)
    generalize z0.getD k 0 = u0 at c0
    clear b3 b4 b5 b6 k5 hne hle
    go_wp2_with (first
      | ((with_reducible refine at_ (op := .alloc 23) ?_); refine wpList_val rfl _ (ex_alloc 23 rfl _ A1.out) ?_)
      | ((with_reducible refine at_ (op := .store 23 (.tmp 7) (.tmp 16)) ?_); refine wpList_unit rfl (ex_store 23 (.tmp 7) (.tmp 16) rfl _ _ rfl rfl S1.out) ?_)
      | ((with_reducible refine at_ (op := .load 23 (.tmp 7)) ?_); refine wpList_val rfl _ (ex_load 23 (.tmp 7) rfl _ _ rfl L1.out) ?_)
      | ((with_reducible refine at_ (op := .load 23 (.tmp 3)) ?_); refine wpList_val rfl _ (ex_load 23 (.tmp 3) rfl _ _ rfl L2.out) ?_)
      | ((with_reducible refine at_ (op := .binOp .eql 23 (.tmp 37) (.tmp 38) 23) ?_); refine wpList_val rfl _ (ex_bin_agg .eql 23 23 (.tmp 37) (.tmp 38) rfl _ _ _ rfl rfl guardN (eqlN _ hl2 hl2)) ?_))
    go_ret
    exact ⟨ret_bool (by simp), k6⟩
  · have hn : (decide (a1 < 0) || decide (32 ≤ a1)) = true := by simp; omega
    have L1 := Lib.hid (NB.box w z0)
    clear L1
    go_enter Try.func5, Try.ntmps5
    go_wp2_with ((with_reducible refine at_ (op := .box 23 (.tmp 0)) ?_); refine wpList_val rfl _ (ex_box 23 (.tmp 0) rfl _ _ rfl (boxN _ _)) ?_)
    refine (awake_any _).mono ?_
    rintro e w1 ⟨rfl, rfl⟩
    generalize w.alloc (.cells (z0.map I6).toArray 23) = w1 at *
    go_wp2_with ((with_reducible refine at_ (op := .load 23 (.tmp 3)) ?_); refine wpList_val rfl _ (ex_load 23 (.tmp 3) rfl _ _ rfl L0.out) ?_)
    refine (with_out z0 a1 a2 w1 hl (by omega)).mono ?_
    rintro e w2 ⟨rfl, k2⟩
    have k3 := k0.trans (k2.mono k0.size)
    have A1 := Lib.hid (allocN w2)
    obtain ⟨w3, S0, b3, k4, hs3⟩ := NB.laid w2 z32 z32_len
    have S1 := Lib.hid S0
    have L1 := Lib.hid (b3.load z32_len)
    have k5 := k3.trans (k4.mono k3.size)
    clear S0 k3 k4 hs3 b0 k0 k2 b3 L0
    rcases Int.lt_or_le a1 0 with h0 | h0
    all_goals
      go_wp2_with (first
        | ((with_reducible refine at_ (op := .alloc 23) ?_); refine wpList_val rfl _ (ex_alloc 23 rfl _ A1.out) ?_)
        | ((with_reducible refine at_ (op := .store 23 (.tmp 7) (.tmp 16)) ?_); refine wpList_unit rfl (ex_store 23 (.tmp 7) (.tmp 16) rfl _ _ rfl rfl S1.out) ?_)
        | ((with_reducible refine at_ (op := .load 23 (.tmp 7)) ?_); refine wpList_val rfl _ (ex_load 23 (.tmp 7) rfl _ _ rfl L1.out) ?_)
        | ((with_reducible refine at_ (op := .build 23 #[]) ?_); refine wpList_val rfl _ (ex_build0 23 rfl _ (buildN _)) ?_)
        | ((with_reducible refine at_ (op := .binOp .eql 23 (.tmp 27) (.tmp 28) 23) ?_); refine wpList_val rfl _ (ex_bin_agg .eql 23 23 (.tmp 27) (.tmp 28) rfl _ _ _ rfl rfl guardN (eqlN _ z32_len z32_len)) ?_))
      go_ret
      exact ⟨ret_bool (by simp), k5⟩

set_option maxRecDepth 100000 in
theorem lifted (os : Os) (started : os.Started) (H : Type) (enc : TypeId × Value → H) :
    ReturnsInHanded {} Try.checked os 5 .any (Rows.nodeWithSpec.pre6 enc Try.prog Try.f5 Rows.nodeWithRow.domain false) (Rows.nodeWithSpec.post enc Try.prog Try.f5 false true false false) := by
  refine returnsInHanded_of_change_sized (C := Try.checked) own started (by kernel_rfl) Try.func5
    (ChangeSpec.witness6 (enc := enc) (C := Try.checked) false ⟨#[], #[.agg #[.int .i64 0, .int .i64 0, .int .i64 0, .int .i64 0, .int .i64 0, .int .i64 0, .int .i64 0, .int .i64 0, .int .i64 0, .int .i64 0, .int .i64 0, .int .i64 0, .int .i64 0, .int .i64 0, .int .i64 0, .int .i64 0, .int .i64 0, .int .i64 0, .int .i64 0, .int .i64 0, .int .i64 0, .int .i64 0, .int .i64 0, .int .i64 0, .int .i64 0, .int .i64 0, .int .i64 0, .int .i64 0, .int .i64 0, .int .i64 0, .int .i64 0, .int .i64 0], .int .i64 0, .int .i64 0], []⟩ 8 (by kernel_rfl) (by kernel_rfl) (by kernel_rfl) (by kernel_rfl)) ?_
  intro W base args ds gs before hval0 hW _ hsz0 _
  have hsz : (DataW.weightsEach Try.prog (Try.f5.params.toList ++ Rows.nodeWithSpec.plain.varTypes Try.prog) (ds ++ gs)).all (· ≤ reachBytes) = true := hsz0
  clear hsz0
  have hval : ∀ (j : Nat) t v, Try.f5.params[j]? = some t → args[j]? = some v → Value.okWide Try.prog W .any base t v := hval0
  have hW' := hW
  obtain ⟨p, q, hA0, hV, rfl, _, _⟩ := hW
  have hA : DataW.TrodAll enc Try.prog W 0 (fun _ => true) true Try.f5.params.toList args.toList ds p := hA0
  rw [Try.params5] at hA hval hsz
  obtain ⟨v0, vs0, d0, ds0, p0, q0, hargs, rfl, rfl, h0, r0⟩ := trodAll_cons hA
  obtain ⟨v1, vs1, d1, ds1, p1, q1, rfl, rfl, rfl, h1, r1⟩ := trodAll_cons r0
  obtain ⟨v2, vs2, d2, ds2, p2, q2, rfl, rfl, rfl, h2, r2⟩ := trodAll_cons r1
  obtain ⟨rfl, rfl, rfl⟩ := trodAll_nil r2
  obtain rfl : args = #[v0, v1, v2] := by cases args; simp_all
  obtain ⟨rfl, rfl⟩ := trodVars_none hV
  have k0 := h0
  have lt0 : ∀ x ∈ p0, x.block < W.heap.size := by obtain ⟨m, hm⟩ := k0; exact DataW.trod_lt m _ _ _ hm
  obtain ⟨z0, rfl, o0⟩ := node_in (hval 0 23 v0 rfl rfl) h0
  obtain ⟨a1, rfl, rfl, rfl, w1⟩ := open_int Try.underlying3 (hval 1 3 v1 rfl rfl) h1
  obtain ⟨a2, rfl, rfl, rfl, w2⟩ := open_int Try.underlying3 (hval 2 3 v2 rfl rfl) h2
  clear hA0 hval0
  refine (walk z0 a1 a2 W o0 w1 w2).mono fun e W' ⟨he, bel⟩ => ?_
  subst he
  exact ⟨_, rfl, _, _, _, [], _, [], hW', trodAll_mk1 (shut_bool Try.underlying4 _), (trodAll_cons_mk (Below.trod laidOut (by kernel_rfl) (of_decide_eq_true (by kernel_rfl)) k0 bel lt0) (trodAll_cons_mk (shut_int Try.underlying3 w1) (trodAll_cons_mk (shut_int Try.underlying3 w2) trodAll_mk0))), rfl, bel.frame _, fun h => by cases h⟩

theorem proved : Rows.NodeWithSaid :=
  OpenClaim.holds_of_wide 5 Try.f5 rfl rfl rfl rfl rfl rfl rfl ⟨rfl, rfl, rfl, rfl, rfl⟩ rfl rfl rfl rfl rfl (by kernel_rfl) Try.func5 (by kernel_rfl)
    (of_decide_eq_true (by kernel_rfl)) (by unfold Func.isWrapper; first | (rw [if_pos (by decide +kernel)]; kernel_rfl) | (rw [if_neg (by decide +kernel)]; exact ⟨rfl, rfl⟩))
    (fun os started H enc _ => lifted os started H enc)
#print axioms proved
end Go.Proofs.Ytpabeljealdebaa.nodeWith
