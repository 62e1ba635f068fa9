/-
  LawWideMuls
-/
import Derived.Test.YtipolhocplidlaaGA
import Derived.ChangeOld
import Derived.Below
import Derived.Deep.QuietTactic
import Derived.BigQuiet
import Derived.WalkSmall
import Derived.Test.YtipolhocplidlaaWdAwake
namespace Go.Proofs.Ytipolhocplidlaa.wideMuls
open Go.ChangeShapes Go.WideShapes Go.ChangeAt Go.RowKit Wd
set_option linter.unusedVariables false

theorem own : ownKnob Try.prog.godebug = none := by kernel_rfl
theorem laidOut : laidOutB Try.prog = true := by kernel_rfl

set_option maxRecDepth 100000 in
set_option maxHeartbeats 1000000 in
theorem walk (a0 : Int) (a1 : Int) (w : World) (w0 : (Lit.int .i64 a0).wf = true) (w1 : (Lit.int .i64 a1).wf = true) :
    Calls Try.prog 4 #[.int .i64 a0, .int .i64 a1] w fun e w' => e = .returned (.bool true) ∧ Below w.heap.size w w' := by
  have ha0 := i64r_of w0
  have ha1 := i64r_of w1
  obtain ⟨n, hn⟩ : ∃ n : Nat, IntKind.u64.wrap a0 = (n : Int) := ⟨(IntKind.u64.wrap a0).toNat, by rw [IntKind.wrap_u64]; omega⟩
  obtain ⟨m, hm⟩ : ∃ m : Nat, IntKind.u64.wrap a1 = (m : Int) := ⟨(IntKind.u64.wrap a1).toNat, by rw [IntKind.wrap_u64]; omega⟩
  have ln : n < 18446744073709551616 := by rw [IntKind.wrap_u64] at hn; omega
  have lm : m < 18446744073709551616 := by rw [IntKind.wrap_u64] at hm; omega
  have UM := Lib.hid (umul_any n m ln lm)
  have RUM := Lib.hid (rumul_any n m ln lm)
  have MU := Lib.hid (mul_any a0 a1 ha0 ha1)
  have RMU := Lib.hid (rmul_any a0 a1 ha0 ha1)
  clear ln lm ha0 ha1 w0 w1
  go_enter Try.func4, Try.ntmps4
  go_wp2_with fail
  refine (awake_any _).mono ?_
  rintro e wA ⟨rfl, b0⟩
  go_wp2_with fail
  refine (MU.out _).mono ?_
  rintro e wB ⟨x, y, rfl, hx, hy, exy, bb⟩
  replace b0 := b0.trans (bb.mono b0.size)
  have EX := Lib.hid exy
  clear bb exy
  go_wp2_with fail
  refine (RMU.out _).mono ?_
  rintro e wC ⟨x', y', rfl, hx', hy', exy', bb⟩
  replace b0 := b0.trans (bb.mono b0.size)
  obtain ⟨rfl, rfl⟩ := uniqW hx hy hx' hy' (EX.out.trans exy'.symm)
  clear bb exy' EX
  go_wp2_with (first | ((with_reducible refine here (op := .binOp .eql 24 (.tmp 9) (.tmp 12) 24) ?_); refine wpList_rw (by rfl) _ (ex_bin_agg .eql 24 24 (.tmp 9) (.tmp 12) rfl _ _ _ rfl rfl guardW (eqlT _ _ _)) ?_) | fail)
  refine (UM.out _).mono ?_
  rintro e wD ⟨p, q, rfl, hp, hq, epq, bb⟩
  replace b0 := b0.trans (bb.mono b0.size)
  have EP := Lib.hid epq
  clear bb epq
  go_wp2_with fail
  refine (RUM.out _).mono ?_
  rintro e wE ⟨p', q', rfl, hp', hq', epq', bb⟩
  replace b0 := b0.trans (bb.mono b0.size)
  obtain ⟨rfl, rfl⟩ := uniqW hp hq hp' hq' (EP.out.trans epq'.symm)
  clear bb epq' EP
  go_wp2_with (first | ((with_reducible refine here (op := .binOp .eql 24 (.tmp 19) (.tmp 24) 24) ?_); refine wpList_rw (by rfl) _ (ex_bin_agg .eql 24 24 (.tmp 19) (.tmp 24) rfl _ _ _ rfl rfl guardW (eqlT _ _ _)) ?_) | fail)
  go_ret
  exact ⟨rfl, b0⟩

set_option maxRecDepth 100000 in
theorem lifted (os : Os) (started : os.Started) (H : Type) (enc : TypeId × Value → H) :
    ReturnsInHanded {} Try.checked os 4 .any (Rows.wideMulsSpec.pre6 enc Try.prog Try.f4 Rows.wideMulsRow.domain false) (Rows.wideMulsSpec.post enc Try.prog Try.f4 false true false false) := by
  refine returnsInHanded_of_change_sized (C := Try.checked) own started (by kernel_rfl) Try.func4
    (ChangeSpec.witness6 (enc := enc) (C := Try.checked) false ⟨#[], #[.int .i64 0, .int .i64 0], []⟩ 8 (by kernel_rfl) (by kernel_rfl) (by kernel_rfl) (by kernel_rfl)) ?_
  intro W base args ds gs before hval0 hW _ hsz0 _
  have hsz : (DataW.weightsEach Try.prog (Try.f4.params.toList ++ Rows.wideMulsSpec.plain.varTypes Try.prog) (ds ++ gs)).all (· ≤ reachBytes) = true := hsz0
  clear hsz0
  have hval : ∀ (j : Nat) t v, Try.f4.params[j]? = some t → args[j]? = some v → Value.okWide Try.prog W .any base t v := hval0
  have hW' := hW
  obtain ⟨p, q, hA0, hV, rfl, _, _⟩ := hW
  have hA : DataW.TrodAll enc Try.prog W 0 (fun _ => true) true Try.f4.params.toList args.toList ds p := hA0
  rw [Try.params4] at hA hval hsz
  obtain ⟨v0, vs0, d0, ds0, p0, q0, hargs, rfl, rfl, h0, r0⟩ := trodAll_cons hA
  obtain ⟨v1, vs1, d1, ds1, p1, q1, rfl, rfl, rfl, h1, r1⟩ := trodAll_cons r0
  obtain ⟨rfl, rfl, rfl⟩ := trodAll_nil r1
  obtain rfl : args = #[v0, v1] := by cases args; simp_all
  obtain ⟨rfl, rfl⟩ := trodVars_none hV
  obtain ⟨a0, rfl, rfl, rfl, w0⟩ := open_int Try.underlying2 (hval 0 2 v0 rfl rfl) h0
  obtain ⟨a1, rfl, rfl, rfl, w1⟩ := open_int Try.underlying2 (hval 1 2 v1 rfl rfl) h1
  clear hA0 hval0
  refine (walk a0 a1 W w0 w1).mono fun e W' ⟨he, bel⟩ => ?_
  subst he
  exact ⟨_, rfl, _, _, _, [], _, [], hW', trodAll_mk1 (shut_bool Try.underlying4 _), (trodAll_cons_mk (shut_int Try.underlying2 w0) (trodAll_cons_mk (shut_int Try.underlying2 w1) trodAll_mk0)), rfl, bel.frame _, fun h => by cases h⟩

theorem proved : Rows.WideMulsSaid :=
  OpenClaim.holds_of_wide 4 Try.f4 rfl rfl rfl rfl rfl rfl rfl ⟨rfl, rfl, rfl, rfl, rfl⟩ rfl rfl rfl rfl rfl (by kernel_rfl) Try.func4 (by kernel_rfl)
    (of_decide_eq_true (by kernel_rfl)) (by unfold Func.isWrapper; first | (rw [if_pos (by decide +kernel)]; kernel_rfl) | (rw [if_neg (by decide +kernel)]; exact ⟨rfl, rfl⟩))
    (fun os started H enc _ => lifted os started H enc)
#print axioms proved
end Go.Proofs.Ytipolhocplidlaa.wideMuls
