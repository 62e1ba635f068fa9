/-
  Any node and any bytes: for every node and all bytes the law NodeBytes returns true.
  Conditions: none of our own; what the row itself says of its inputs (they can be read as data, each slice within the form's own reach).
-/
import Derived.Test.YtpabeljealdebaaFrame
import Derived.ChangeOld
import Derived.Below
import Derived.Deep.QuietTactic
import Derived.BigQuiet
import Derived.WalkSmall
import Derived.Test.YtpabeljealdebaaNdIn
import Derived.Test.YtpabeljealdebaaNdEnc
import Derived.Test.YtpabeljealdebaaSame
namespace Go.Proofs.Ytpabeljealdebaa.nodeBytes
open Go.ChangeShapes Go.WideShapes Go.ChangeAt Go.RowKit
set_option linter.unusedVariables false

theorem own : ownKnob Try.prog.godebug = none := by kernel_rfl
theorem laidOut : laidOutB Try.prog = true := by kernel_rfl

set_option maxHeartbeats 1000000 in
theorem walk (z0 : List Int) (A1 : Option Addr) (x1 : List UInt8) (c1 : Nat) (w : World) (o0 : NodeOk z0) (b1 : BR w w.heap.size A1 x1) (l1 : x1.length ≤ 140737488351232) :
    Calls Try.prog 3 #[ng z0, .slice A1 x1.length c1] w fun e w' => e = .returned (.bool true) ∧ Below w.heap.size w w' := by
  have hl := o0.len
  by_cases hbig : 1000 < x1.length
  · have hb : (1000 : Int) < (x1.length : Int) := by omega
    go_enter Try.func3, Try.ntmps3
    go_wp2_with ((with_reducible refine at_ (op := .box 23 (.tmp 0)) ?_); refine wpList_val rfl _ (ex_box 23 (.tmp 0) rfl _ _ rfl (boxN _ _)) ?_)
    refine (awake_any _).mono ?_
    rintro e w1 ⟨rfl, rfl⟩
    have k1 : Below w.heap.size w (w.alloc (.cells (z0.map I6).toArray 23)) := (Below.refl _ _).alloc (Nat.le_refl _) _
    go_wp2_with fail
    go_ret
    exact ⟨rfl, k1⟩
  · have hb : ¬ (1000 : Int) < (x1.length : Int) := by omega
    have n1 := NB.box w z0
    have k1 : Below w.heap.size w (w.alloc (.cells (z0.map I6).toArray 23)) := (Below.refl _ _).alloc (Nat.le_refl _) _
    have L1 := Lib.hid (n1.load hl)
    go_enter Try.func3, Try.ntmps3
    go_wp2_with ((with_reducible refine at_ (op := .box 23 (.tmp 0)) ?_); refine wpList_val rfl _ (ex_box 23 (.tmp 0) rfl _ _ rfl (boxN _ _)) ?_)
    generalize (w.alloc (.cells (z0.map I6).toArray 23)) = w1 at *
    refine (awake_any _).mono ?_
    rintro e w2 ⟨rfl, rfl⟩
    go_wp2_with ((with_reducible refine at_ (op := .load 23 (.tmp 2)) ?_); refine wpList_val rfl _ (ex_load 23 (.tmp 2) rfl _ _ rfl L1.out) ?_)
    refine (encode_any z0 _ hl).mono ?_
    rintro e w2 ⟨R2, n2, c2, rfl, q2, r2, k2⟩
    have n3 := n1.below k2 n1.lt
    have k3 := k1.trans (k2.mono k1.size)
    have L3 := Lib.hid (n3.load hl)
    clear L1 n1 k1 k2
    go_wp2_with ((with_reducible refine at_ (op := .load 23 (.tmp 2)) ?_); refine wpList_val rfl _ (ex_load 23 (.tmp 2) rfl _ _ rfl L3.out) ?_)
    refine (refEncode_any z0 _ hl).mono ?_
    rintro e w4 ⟨R4, n4, c4, rfl, q4, r4, k4⟩
    have r2' := (r2.below k4).more k4.size
    have k5 := k3.trans (k4.mono k3.size)
    have b5 := (b1.below k5).more k5.size
    clear L3 n3 k3 k4 r2
    go_wp2_with fail
    refine (decode_any A1 x1 c1 _ _ b5 rfl).mono ?_
    rintro e w5 ⟨rfl, k6⟩
    have r2 := (r2'.below k6).more k6.size
    have r4' := (r4.below k6).more k6.size
    have k7 := k5.trans (k6.mono k5.size)
    clear k5 k6 b5 r2' r4
    have AL := Lib.hid (allocN w5)
    obtain ⟨w6, S0, n6, k8, hs6⟩ := NB.laid w5 (decO x1) (decO_len x1)
    have S6 := Lib.hid S0
    have r2' := (r2.below k8).more k8.size
    have r4 := (r4'.below k8).more k8.size
    have k9 := k7.trans (k8.mono k7.size)
    have b6 := (b1.below k9).more k9.size
    clear S0 k8 k7 r2 r4' hs6
    go_wp2_with (first
      | ((with_reducible refine at_ (op := .alloc 23) (d := some 9) ?_); refine wpList_val rfl _ (ex_alloc 23 rfl _ AL.out) ?_)
      | ((with_reducible refine at_ (op := .store 23 (.tmp 9) (.tmp 31)) ?_); refine wpList_unit rfl (ex_store 23 (.tmp 9) (.tmp 31) rfl _ _ rfl rfl S6.out) ?_))
    clear AL S6
    refine (refDecode_any A1 x1 c1 _ _ b6 rfl).mono ?_
    rintro e w7 ⟨rfl, k10⟩
    have n7 := n6.below k10 n6.lt
    have r2 := (r2'.below k10).more k10.size
    have r4' := (r4.below k10).more k10.size
    have k11 := k9.trans (k10.mono k9.size)
    clear k9 k10 r2' r4 b6 n6
    have AL := Lib.hid (allocN w7)
    obtain ⟨w8, S0, n8, k12, hs8⟩ := NB.laid w7 (decO x1) (decO_len x1)
    have S8 := Lib.hid S0
    have n9 := n7.below k12 n7.lt
    have r2' := (r2.below k12).more k12.size
    have r4 := (r4'.below k12).more k12.size
    have k13 := k11.trans (k12.mono k11.size)
    have L8 := Lib.hid (n8.load (decO_len x1))
    have L9 := Lib.hid (n9.load (decO_len x1))
    clear S0 k11 k12 r2 r4' n7 n8 n9 hs8
    go_wp2_with (first
      | ((with_reducible refine at_ (op := .alloc 23) (d := some 11) ?_); refine wpList_val rfl _ (ex_alloc 23 rfl _ AL.out) ?_)
      | ((with_reducible refine at_ (op := .store 23 (.tmp 11) (.tmp 36)) ?_); refine wpList_unit rfl (ex_store 23 (.tmp 11) (.tmp 36) rfl _ _ rfl rfl S8.out) ?_))
    refine (same_len _ _ _ _ _ _ _ _ _ r2' r4 q2 q4).mono ?_
    rintro e w9 ⟨rfl, rfl⟩
    have hd := decO_len x1
    generalize decO x1 = ds at *
    go_wp2_with (first
      | ((with_reducible refine at_ (op := .load 23 (.tmp 9)) ?_); refine wpList_val rfl _ (ex_load 23 (.tmp 9) rfl _ _ rfl L9.out) ?_)
      | ((with_reducible refine at_ (op := .load 23 (.tmp 11)) ?_); refine wpList_val rfl _ (ex_load 23 (.tmp 11) rfl _ _ rfl L8.out) ?_)
      | ((with_reducible refine at_ (op := .binOp .eql 23 (.tmp 52) (.tmp 53) 23) ?_); refine wpList_val rfl _ (ex_bin_agg .eql 23 23 (.tmp 52) (.tmp 53) rfl _ _ _ rfl rfl guardN (eqlN _ hd hd)) ?_))
    go_ret
    exact ⟨ret_bool (by simp), k13⟩

set_option maxRecDepth 100000 in
theorem lifted (os : Os) (started : os.Started) (H : Type) (enc : TypeId × Value → H) :
    ReturnsInHanded {} Try.checked os 3 .any (Rows.nodeBytesSpec.pre6 enc Try.prog Try.f3 Rows.nodeBytesRow.domain false) (Rows.nodeBytesSpec.post enc Try.prog Try.f3 false true false false) := by
  refine returnsInHanded_of_change_sized (C := Try.checked) own started (by kernel_rfl) Try.func3
    (ChangeSpec.witness6 (enc := enc) (C := Try.checked) false ⟨#[], #[.agg #[.int .i64 0, .int .i64 0, .int .i64 0, .int .i64 0, .int .i64 0, .int .i64 0, .int .i64 0, .int .i64 0, .int .i64 0, .int .i64 0, .int .i64 0, .int .i64 0, .int .i64 0, .int .i64 0, .int .i64 0, .int .i64 0, .int .i64 0, .int .i64 0, .int .i64 0, .int .i64 0, .int .i64 0, .int .i64 0, .int .i64 0, .int .i64 0, .int .i64 0, .int .i64 0, .int .i64 0, .int .i64 0, .int .i64 0, .int .i64 0, .int .i64 0, .int .i64 0], .slice none 0 0], []⟩ 8 (by kernel_rfl) (by kernel_rfl) (by kernel_rfl) (by kernel_rfl)) ?_
  intro W base args ds gs before hval0 hW _ hsz0 _
  have hsz : (DataW.weightsEach Try.prog (Try.f3.params.toList ++ Rows.nodeBytesSpec.plain.varTypes Try.prog) (ds ++ gs)).all (· ≤ reachBytes) = true := hsz0
  clear hsz0
  have hval : ∀ (j : Nat) t v, Try.f3.params[j]? = some t → args[j]? = some v → Value.okWide Try.prog W .any base t v := hval0
  have hW' := hW
  obtain ⟨p, q, hA0, hV, rfl, _, _⟩ := hW
  have hA : DataW.TrodAll enc Try.prog W 0 (fun _ => true) true Try.f3.params.toList args.toList ds p := hA0
  rw [Try.params3] at hA hval hsz
  obtain ⟨v0, vs0, d0, ds0, p0, q0, hargs, rfl, rfl, h0, r0⟩ := trodAll_cons hA
  obtain ⟨v1, vs1, d1, ds1, p1, q1, rfl, rfl, rfl, h1, r1⟩ := trodAll_cons r0
  obtain ⟨rfl, rfl, rfl⟩ := trodAll_nil r1
  obtain rfl : args = #[v0, v1] := by cases args; simp_all
  obtain ⟨rfl, rfl⟩ := trodVars_none hV
  have k0 := h0
  have lt0 : ∀ x ∈ p0, x.block < W.heap.size := by obtain ⟨m, hm⟩ := k0; exact DataW.trod_lt m _ _ _ hm
  obtain ⟨z0, rfl, o0⟩ := node_in (hval 0 23 v0 rfl rfl) h0
  obtain ⟨A1, len1, c1, rfl⟩ := okWide_slice Try.underlying24 (hval 1 24 v1 rfl rfl)
  have k1 := h1
  have lt1 : ∀ x ∈ p1, x.block < W.heap.size := by obtain ⟨m, hm⟩ := k1; exact DataW.trod_lt m _ _ _ hm
  obtain ⟨x1, rfl, b1, s1⟩ := bytes_in h1
  have l1 := s1 _ _ 1 hsz rfl rfl
  clear hA0 hval0
  refine (walk z0 A1 x1 c1 W o0 b1 l1).mono fun e W' ⟨he, bel⟩ => ?_
  subst he
  exact ⟨_, rfl, _, _, _, [], _, [], hW', trodAll_mk1 (shut_bool Try.underlying4 _), (trodAll_cons_mk (Below.trod laidOut (by kernel_rfl) (of_decide_eq_true (by kernel_rfl)) k0 bel lt0) (trodAll_cons_mk (Below.trod laidOut (by kernel_rfl) (of_decide_eq_true (by kernel_rfl)) k1 bel lt1) trodAll_mk0)), rfl, bel.frame _, fun h => by cases h⟩

theorem proved : Rows.NodeBytesSaid :=
  OpenClaim.holds_of_wide 3 Try.f3 rfl rfl rfl rfl rfl rfl rfl ⟨rfl, rfl, rfl, rfl, rfl⟩ rfl rfl rfl rfl rfl (by kernel_rfl) Try.func3 (by kernel_rfl)
    (of_decide_eq_true (by kernel_rfl)) (by unfold Func.isWrapper; first | (rw [if_pos (by decide +kernel)]; kernel_rfl) | (rw [if_neg (by decide +kernel)]; exact ⟨rfl, rfl⟩))
    (fun os started H enc _ => lifted os started H enc)
#print axioms proved
end Go.Proofs.Ytpabeljealdebaa.nodeBytes
