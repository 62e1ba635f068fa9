/-
  LawWideSigned
-/
import Derived.Test.YtipolhocplidlaaGA
import Derived.ChangeOld
import Derived.Below
import Derived.Deep.QuietTactic
import Derived.BigQuiet
import Derived.WalkSmall
import Derived.Test.YtipolhocplidlaaWdAwake
namespace Go.Proofs.Ytipolhocplidlaa.wideSigned
open Go.ChangeShapes Go.WideShapes Go.ChangeAt Go.RowKit Wd
set_option linter.unusedVariables false

theorem own : ownKnob Try.prog.godebug = none := by kernel_rfl
theorem laidOut : laidOutB Try.prog = true := by kernel_rfl

set_option maxRecDepth 100000 in
set_option maxHeartbeats 1000000 in
theorem walk (ah0 al0 : Int) (a1 : Int) (w : World) (hh0 : half ah0) (hl0 : half al0) (w1 : (Lit.int .i64 a1).wf = true) :
    Calls Try.prog 6 #[pw ah0 al0, .int .i64 a1] w fun e w' => e = .returned (.bool true) ∧ Below w.heap.size w w' := by
  have ha1 := i64r_of w1
  have b0 := Below.al w (.cells #[.int .u64 ah0, .int .u64 al0] 24)
  have p0 : PB (w.alloc (.cells #[.int .u64 ah0, .int .u64 al0] 24)) w.heap.size ah0 al0 := PB.new _ _ _
  go_enter Try.func6, Try.ntmps6
  go_wp2_with fail
  refine (awake_any _).mono ?_
  rintro e wA ⟨rfl, bb⟩
  replace p0 := p0.below bb p0.lt
  replace b0 := b0.trans (bb.mono b0.size)
  clear bb
  have LD1 := Lib.hid p0.load
  go_wp2_with (first | ((with_reducible refine here (op := .load 24 (.tmp 2)) ?_); refine wpList_load_run rfl 24 _ rfl _ _ rfl LD1.out ?_) | fail)
  refine (sm_any ah0 al0 a1 hh0 hl0 ha1 _).mono ?_
  rintro e wC1 ⟨rfl, bb⟩
  replace p0 := p0.below bb p0.lt
  replace b0 := b0.trans (bb.mono b0.size)
  clear bb LD1
  have LD2 := Lib.hid p0.load
  go_wp2_with (first | ((with_reducible refine here (op := .load 24 (.tmp 2)) ?_); refine wpList_load_run rfl 24 _ rfl _ _ rfl LD2.out ?_) | fail)
  refine (rsm_any ah0 al0 a1 hh0 hl0 ha1 _).mono ?_
  rintro e wC2 ⟨rfl, bb⟩
  replace p0 := p0.below bb p0.lt
  replace b0 := b0.trans (bb.mono b0.size)
  clear bb LD2
  generalize giveE a1 (tq ah0 al0 a1) (tr ah0 al0 a1) = s0 at *
  generalize giveE a1 (tq ah0 al0 a1) (tq ah0 al0 a1) = s1 at *
  generalize thrE a1 (tq ah0 al0 a1) = s2 at *
  have LD3 := Lib.hid p0.load
  go_wp2_with (first | ((with_reducible refine here (op := .load 24 (.tmp 2)) ?_); refine wpList_load_run rfl 24 _ rfl _ _ rfl LD3.out ?_) | fail)
  refine (fm_any ah0 al0 a1 hh0 hl0 ha1 _).mono ?_
  rintro e wC3 ⟨rfl, bb⟩
  replace p0 := p0.below bb p0.lt
  replace b0 := b0.trans (bb.mono b0.size)
  clear bb LD3
  have LD4 := Lib.hid p0.load
  go_wp2_with (first | ((with_reducible refine here (op := .load 24 (.tmp 2)) ?_); refine wpList_load_run rfl 24 _ rfl _ _ rfl LD4.out ?_) | fail)
  refine (rfm_any ah0 al0 a1 hh0 hl0 ha1 _).mono ?_
  rintro e wC4 ⟨rfl, bb⟩
  replace p0 := p0.below bb p0.lt
  replace b0 := b0.trans (bb.mono b0.size)
  clear bb LD4
  generalize giveE a1 (fq ah0 al0 a1) (fr ah0 al0 a1) = s3 at *
  generalize giveE a1 (fq ah0 al0 a1) (fq ah0 al0 a1) = s4 at *
  generalize thrE a1 (fq ah0 al0 a1) = s5 at *
  clear p0
  go_wp2_with fail
  go_ret
  exact ⟨ret_bool (by simp), b0⟩

set_option maxRecDepth 100000 in
theorem lifted (os : Os) (started : os.Started) (H : Type) (enc : TypeId × Value → H) :
    ReturnsInHanded {} Try.checked os 6 .any (Rows.wideSignedSpec.pre6 enc Try.prog Try.f6 Rows.wideSignedRow.domain false) (Rows.wideSignedSpec.post enc Try.prog Try.f6 false true false false) := by
  refine returnsInHanded_of_change_sized (C := Try.checked) own started (by kernel_rfl) Try.func6
    (ChangeSpec.witness6 (enc := enc) (C := Try.checked) false ⟨#[], #[.agg #[.int .u64 0, .int .u64 0], .int .i64 0], []⟩ 8 (by kernel_rfl) (by kernel_rfl) (by kernel_rfl) (by kernel_rfl)) ?_
  intro W base args ds gs before hval0 hW _ hsz0 _
  have hsz : (DataW.weightsEach Try.prog (Try.f6.params.toList ++ Rows.wideSignedSpec.plain.varTypes Try.prog) (ds ++ gs)).all (· ≤ reachBytes) = true := hsz0
  clear hsz0
  have hval : ∀ (j : Nat) t v, Try.f6.params[j]? = some t → args[j]? = some v → Value.okWide Try.prog W .any base t v := hval0
  have hW' := hW
  obtain ⟨p, q, hA0, hV, rfl, _, _⟩ := hW
  have hA : DataW.TrodAll enc Try.prog W 0 (fun _ => true) true Try.f6.params.toList args.toList ds p := hA0
  rw [Try.params6] at hA hval hsz
  obtain ⟨v0, vs0, d0, ds0, p0, q0, hargs, rfl, rfl, h0, r0⟩ := trodAll_cons hA
  obtain ⟨v1, vs1, d1, ds1, p1, q1, rfl, rfl, rfl, h1, r1⟩ := trodAll_cons r0
  obtain ⟨rfl, rfl, rfl⟩ := trodAll_nil r1
  obtain rfl : args = #[v0, v1] := by cases args; simp_all
  obtain ⟨rfl, rfl⟩ := trodVars_none hV
  have k0 := h0
  have lt0 : ∀ x ∈ p0, x.block < W.heap.size := by obtain ⟨m, hm⟩ := k0; exact DataW.trod_lt m _ _ _ hm
  obtain ⟨ah0, al0, rfl, hh0, hl0⟩ := wide_in (hval 0 24 v0 rfl rfl) h0
  obtain ⟨a1, rfl, rfl, rfl, w1⟩ := open_int Try.underlying2 (hval 1 2 v1 rfl rfl) h1
  clear hA0 hval0
  refine (walk ah0 al0 a1 W hh0 hl0 w1).mono fun e W' ⟨he, bel⟩ => ?_
  subst he
  exact ⟨_, rfl, _, _, _, [], _, [], hW', trodAll_mk1 (shut_bool Try.underlying4 _), (trodAll_cons_mk (Below.trod laidOut (by kernel_rfl) (of_decide_eq_true (by kernel_rfl)) k0 bel lt0) (trodAll_cons_mk (shut_int Try.underlying2 w1) trodAll_mk0)), rfl, bel.frame _, fun h => by cases h⟩

theorem proved : Rows.WideSignedSaid :=
  OpenClaim.holds_of_wide 6 Try.f6 rfl rfl rfl rfl rfl rfl rfl ⟨rfl, rfl, rfl, rfl, rfl⟩ rfl rfl rfl rfl rfl (by kernel_rfl) Try.func6 (by kernel_rfl)
    (of_decide_eq_true (by kernel_rfl)) (by unfold Func.isWrapper; first | (rw [if_pos (by decide +kernel)]; kernel_rfl) | (rw [if_neg (by decide +kernel)]; exact ⟨rfl, rfl⟩))
    (fun os started H enc _ => lifted os started H enc)
#print axioms proved
end Go.Proofs.Ytipolhocplidlaa.wideSigned
