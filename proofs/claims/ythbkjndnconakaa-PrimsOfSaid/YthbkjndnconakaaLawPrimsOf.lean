/-
  LawPrimsOf
-/
import Derived.Test.YthbkjndnconakaaGA
import Derived.ChangeOld
import Derived.Below
import Derived.Deep.QuietTactic
import Derived.BigQuiet
import Derived.WalkSmall
import Derived.Test.YthbkjndnconakaaPrAwake
namespace Go.Proofs.Ythbkjndnconakaa.primsOf
open Go.ChangeShapes Go.WideShapes Go.ChangeAt Go.RowKit Pr
set_option linter.unusedVariables false

theorem own : ownKnob Try.prog.godebug = none := by kernel_rfl
theorem laidOut : laidOutB Try.prog = true := by kernel_rfl

set_option maxRecDepth 100000 in
set_option maxHeartbeats 1000000 in
theorem walk (a0 : Int) (w : World) (w0 : (Lit.int .i64 a0).wf = true) :
    Calls Try.prog 3 #[.int .i64 a0] w fun e w' => e = .returned (.bool true) ∧ Below w.heap.size w w' := by
  have i0 := i64_of_wf w0
  have HAW := Lib.hid (awake_any w)
  have HA := Lib.hid (fun W => of_any a0 (by omega) W)
  have HB := Lib.hid (fun W => rof_any a0 (by omega) W)
  have HC := Lib.hid (fun W => xt_any a0 (by omega) W)
  have HD := Lib.hid (fun W => rxt_any a0 (by omega) W)
  have hxr : -9223372036854775808 ≤ xtV a0 ∧ xtV a0 ≤ 9223372036854775807 := by unfold xtV; split <;> omega
  have HE := Lib.hid (fun W => number_any (xtV a0) hxr W)
  have hxn : isV a0 = true → numV (xtV a0) = a0 := by
    intro h
    have h2 : 1 ≤ a0 ∧ a0 ≤ 141 := by unfold isV at h; simpa using h
    unfold xtV
    rw [if_pos h2, Int.mul_comm, numV_k, if_pos h2]
  have HX := Lib.hid hxn
  obtain ⟨xs, t, l, b1, b2, hq⟩ : ∃ xs t l b1 b2, pv (ofV a0) = .agg #[St xs, .int .i64 t, .int .i64 l, .bool b1, .bool b2] := ⟨_, _, _, _, _, rfl⟩
  rw [hq] at HA HB
  have HQ := Lib.hid (fun W => eqlP xs t l b1 b2 W)
  clear w0 i0 hq hxr hxn
  generalize xtV a0 = x at *
  generalize numV x = n2 at *
  cases hiv : isV a0 with
  | true =>
    rw [hiv] at HA HB
    have hn2 := HX.out hiv
    subst hn2
    clear hiv
    go_enter Try.func3, Try.ntmps3
    go_wp2_with fail
    refine HAW.out.mono ?_
    rintro e w1 ⟨rfl, c1⟩
    have B1 := Lib.hid c1
    clear c1
    go_wp2_with fail
    refine (HA.out _).mono ?_
    rintro e w2 ⟨rfl, c2⟩
    have hb2 := B1.out.trans (c2.mono B1.out.size)
    have hb2' := hb2.alloc hb2.size (.cells #[St xs, .int .i64 t, .int .i64 l, .bool b1, .bool b2] 24)
    have B2 := Lib.hid hb2'
    clear c2 B1 hb2 hb2'
    go_wp2_with fail
    refine (HB.out _).mono ?_
    rintro e w3 ⟨rfl, c3⟩
    have hp : w3.heap[w2.heap.size]? = some (.cells #[St xs, .int .i64 t, .int .i64 l, .bool b1, .bool b2] 24 (0, 0)) := (c3.block _ (by simp)).trans (heap_alloc_new w2 _)
    have hp2 : (w3.alloc (.cells #[St xs, .int .i64 t, .int .i64 l, .bool b1, .bool b2] 24)).heap[w2.heap.size]? = some (.cells #[St xs, .int .i64 t, .int .i64 l, .bool b1, .bool b2] 24 (0, 0)) := (Below.heap_alloc _ _ _ (Array.getElem?_eq_some_iff.1 hp).1).trans hp
    obtain ⟨k0, k1, k2, k3, k4⟩ := cells5 hp2
    have hb3 := B2.out.trans (c3.mono B2.out.size)
    have B3 := Lib.hid (hb3.alloc hb3.size (.cells #[St xs, .int .i64 t, .int .i64 l, .bool b1, .bool b2] 24))
    clear c3 B2 hp hp2 hb3
    go_wp2_with (first
      | ((with_reducible refine at_ (op := .binOp .eql 24 (.tmp 19) (.tmp 20) 24) ?_); refine wpList_val rfl _ (ex_bin_agg .eql 24 24 (.tmp 19) (.tmp 20) rfl _ _ _ rfl rfl guardP (HQ.out _)) ?_))
    refine (HC.out _).mono ?_
    rintro e w4 ⟨rfl, rfl⟩
    go_wp2_with fail
    refine (HD.out _).mono ?_
    rintro e w5 ⟨rfl, c5⟩
    have B5 := Lib.hid (B3.out.trans (c5.mono B3.out.size))
    clear c5 B3
    go_wp2_with fail
    refine (HC.out _).mono ?_
    rintro e w6 ⟨rfl, rfl⟩
    go_wp2_with fail
    refine (HE.out _).mono ?_
    rintro e w7 ⟨rfl, rfl⟩
    go_wp2_with fail
    go_ret
    exact ⟨rfl, B5.out⟩
  | false =>
    rw [hiv] at HA HB
    skip
    clear hiv
    go_enter Try.func3, Try.ntmps3
    go_wp2_with fail
    refine HAW.out.mono ?_
    rintro e w1 ⟨rfl, c1⟩
    have B1 := Lib.hid c1
    clear c1
    go_wp2_with fail
    refine (HA.out _).mono ?_
    rintro e w2 ⟨rfl, c2⟩
    have hb2 := B1.out.trans (c2.mono B1.out.size)
    have hb2' := hb2.alloc hb2.size (.cells #[St xs, .int .i64 t, .int .i64 l, .bool b1, .bool b2] 24)
    have B2 := Lib.hid hb2'
    clear c2 B1 hb2 hb2'
    go_wp2_with fail
    refine (HB.out _).mono ?_
    rintro e w3 ⟨rfl, c3⟩
    have hp : w3.heap[w2.heap.size]? = some (.cells #[St xs, .int .i64 t, .int .i64 l, .bool b1, .bool b2] 24 (0, 0)) := (c3.block _ (by simp)).trans (heap_alloc_new w2 _)
    have hp2 : (w3.alloc (.cells #[St xs, .int .i64 t, .int .i64 l, .bool b1, .bool b2] 24)).heap[w2.heap.size]? = some (.cells #[St xs, .int .i64 t, .int .i64 l, .bool b1, .bool b2] 24 (0, 0)) := (Below.heap_alloc _ _ _ (Array.getElem?_eq_some_iff.1 hp).1).trans hp
    obtain ⟨k0, k1, k2, k3, k4⟩ := cells5 hp2
    have hb3 := B2.out.trans (c3.mono B2.out.size)
    have B3 := Lib.hid (hb3.alloc hb3.size (.cells #[St xs, .int .i64 t, .int .i64 l, .bool b1, .bool b2] 24))
    clear c3 B2 hp hp2 hb3
    go_wp2_with (first
      | ((with_reducible refine at_ (op := .binOp .eql 24 (.tmp 19) (.tmp 20) 24) ?_); refine wpList_val rfl _ (ex_bin_agg .eql 24 24 (.tmp 19) (.tmp 20) rfl _ _ _ rfl rfl guardP (HQ.out _)) ?_))
    refine (HC.out _).mono ?_
    rintro e w4 ⟨rfl, rfl⟩
    go_wp2_with fail
    refine (HD.out _).mono ?_
    rintro e w5 ⟨rfl, c5⟩
    have B5 := Lib.hid (B3.out.trans (c5.mono B3.out.size))
    clear c5 B3
    go_wp2_with fail
    go_ret
    exact ⟨rfl, B5.out⟩

set_option maxRecDepth 100000 in
theorem lifted (os : Os) (started : os.Started) (H : Type) (enc : TypeId × Value → H) :
    ReturnsInHanded {} Try.checked os 3 .any (Rows.primsOfSpec.pre6 enc Try.prog Try.f3 Rows.primsOfRow.domain false) (Rows.primsOfSpec.post enc Try.prog Try.f3 false true false false) := by
  refine returnsInHanded_of_change_sized (C := Try.checked) own started (by kernel_rfl) Try.func3
    (ChangeSpec.witness6 (enc := enc) (C := Try.checked) false ⟨#[], #[.int .i64 0], []⟩ 8 (by kernel_rfl) (by kernel_rfl) (by kernel_rfl) (by kernel_rfl)) ?_
  intro W base args ds gs before hval0 hW _ hsz0 _
  have hsz : (DataW.weightsEach Try.prog (Try.f3.params.toList ++ Rows.primsOfSpec.plain.varTypes Try.prog) (ds ++ gs)).all (· ≤ reachBytes) = true := hsz0
  clear hsz0
  have hval : ∀ (j : Nat) t v, Try.f3.params[j]? = some t → args[j]? = some v → Value.okWide Try.prog W .any base t v := hval0
  have hW' := hW
  obtain ⟨p, q, hA0, hV, rfl, _, _⟩ := hW
  have hA : DataW.TrodAll enc Try.prog W 0 (fun _ => true) true Try.f3.params.toList args.toList ds p := hA0
  rw [Try.params3] at hA hval hsz
  obtain ⟨v0, vs0, d0, ds0, p0, q0, hargs, rfl, rfl, h0, r0⟩ := trodAll_cons hA
  obtain ⟨rfl, rfl, rfl⟩ := trodAll_nil r0
  obtain rfl : args = #[v0] := by cases args; simp_all
  obtain ⟨rfl, rfl⟩ := trodVars_none hV
  obtain ⟨a0, rfl, rfl, rfl, w0⟩ := open_int Try.underlying3 (hval 0 3 v0 rfl rfl) h0
  clear hA0 hval0
  refine (walk a0 W w0).mono fun e W' ⟨he, bel⟩ => ?_
  subst he
  exact ⟨_, rfl, _, _, _, [], _, [], hW', trodAll_mk1 (shut_bool Try.underlying4 _), (trodAll_cons_mk (shut_int Try.underlying3 w0) trodAll_mk0), rfl, bel.frame _, fun h => by cases h⟩

theorem proved : Rows.PrimsOfSaid :=
  OpenClaim.holds_of_wide 3 Try.f3 rfl rfl rfl rfl rfl rfl rfl ⟨rfl, rfl, rfl, rfl, rfl⟩ rfl rfl rfl rfl rfl (by kernel_rfl) Try.func3 (by kernel_rfl)
    (of_decide_eq_true (by kernel_rfl)) (by unfold Func.isWrapper; first | (rw [if_pos (by decide +kernel)]; kernel_rfl) | (rw [if_neg (by decide +kernel)]; exact ⟨rfl, rfl⟩))
    (fun os started H enc _ => lifted os started H enc)
#print axioms proved
end Go.Proofs.Ythbkjndnconakaa.primsOf
