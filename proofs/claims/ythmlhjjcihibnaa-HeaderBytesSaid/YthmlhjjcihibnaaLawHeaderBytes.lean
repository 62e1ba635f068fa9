/-
  LawHeaderBytes
-/
import Derived.Test.YthmlhjjcihibnaaGA
import Derived.ChangeOld
import Derived.Below
import Derived.Deep.QuietTactic
import Derived.BigQuiet
import Derived.WalkSmall
import Derived.Test.YthmlhjjcihibnaaHhEq
import Derived.Test.YthmlhjjcihibnaaHhIn
import Derived.Test.YthmlhjjcihibnaaSame
namespace Go.Proofs.Ythmlhjjcihibnaa.headerBytes
open Go.ChangeShapes Go.WideShapes Go.ChangeAt Go.RowKit Hh Sk Mm
set_option linter.unusedVariables false

theorem own : ownKnob Try.prog.godebug = none := by kernel_rfl
theorem laidOut : laidOutB Try.prog = true := by kernel_rfl

set_option maxRecDepth 100000 in
set_option maxHeartbeats 1000000 in
theorem walk (x0 : HV) (w : World) (o0 : HvOk x0) :
    Calls Try.prog 4 #[hag x0] w fun e w' => e = .returned (.bool true) ∧ Below w.heap.size w w' := by
  have BXH := Lib.hid (boxH w x0)
  have B := HB.boxed w x0
  have bA : Below w.heap.size w (w.alloc (.cells (hcs x0).toArray 29)) := (Below.refl _ _).alloc (Nat.le_refl _) _
  have sA : w.heap.size < (w.alloc (.cells (hcs x0).toArray 29)).heap.size := by simp
  have nl := o0.nl
  have BC := Lib.hid (fun w' => hbytes_code x0 w')
  have BD := Lib.hid (fun w' => hbytes_doc x0 w')
  clear o0
  generalize w.alloc (.cells (hcs x0).toArray 29) = wA at *
  obtain ⟨n, hnn⟩ : ∃ n, x0.name.length = n := ⟨_, rfl⟩
  have HNN := Lib.hid hnn
  rw [hnn] at nl
  have BH := Lib.hid B
  have BA := Lib.hid bA
  clear B bA hnn
  go_enter Try.func4, Try.ntmps4
  go_wp2_with (first
    | ((with_reducible refine at_ (op := .box 29 (.tmp 0)) ?_); refine wpList_val rfl _ (ex_box 29 (.tmp 0) rfl _ _ rfl BXH.out) ?_)
    | fail)
  refine (hawake_any wA).mono ?_
  rintro e w1 ⟨rfl, b1⟩
  have h1 : HB w1 w.heap.size x0 := (b1.block _ sA).trans BH.out
  have B1 := Lib.hid (BA.out.trans (b1.mono BA.out.size))
  have s1 : w.heap.size < w1.heap.size := Nat.lt_of_lt_of_le sA b1.size
  have H1 := Lib.hid h1
  obtain ⟨c0, c1, c2, c3, c4, c5⟩ := h1.c
  have GT := Lib.hid h1.get
  clear h1 b1 BH BA BXH sA
  by_cases hl : 1000 < n
  · have d1 : decide ((1000 : Int) < (n : Int)) = true := decide_eq_true (by omega)
    have d1' : decide (1000 < n) = true := decide_eq_true hl
    go_wp2_with (first
      | ((with_reducible refine at_ (op := .load 9 (.tmp 9)) ?_); refine wpList_val rfl _ (ex_load 9 (.tmp 9) rfl _ _ rfl (load_one (fun w => by kernel_rfl) c2)) ?_)
      | ((with_reducible refine at_ (op := .call { callee := .builtin .len, args := #[.tmp 10], argTypes := #[9] }) ?_); refine wpList_val rfl _ (ex_lenX (.tmp 10) rfl _ rfl) ?_; rw [HNN.out])
      | fail)
    go_ret
    exact ⟨rfl, B1.out⟩
  have d1 : decide ((1000 : Int) < (n : Int)) = false := decide_eq_false (by omega)
  have d1' : decide (1000 < n) = false := decide_eq_false hl
  go_wp2_with (first
    | ((with_reducible refine at_ (op := .load 9 (.tmp 9)) ?_); refine wpList_val rfl _ (ex_load 9 (.tmp 9) rfl _ _ rfl (load_one (fun w => by kernel_rfl) c2)) ?_)
    | ((with_reducible refine at_ (op := .call { callee := .builtin .len, args := #[.tmp 10], argTypes := #[9] }) ?_); refine wpList_val rfl _ (ex_lenX (.tmp 10) rfl _ rfl) ?_; rw [HNN.out])
    | ((with_reducible refine at_ (op := .load 29 (.tmp 1)) ?_); refine wpList_val rfl _ (ex_load 29 (.tmp 1) rfl _ _ rfl GT.out) ?_)
    | fail)
  refine (BC.out w1).mono ?_
  rintro e w2 ⟨R, m, c, rfl, hm, _, hr, _, k2⟩
  have h2 := H1.out.keep k2 fun f => f
  have GT2 := Lib.hid h2.get
  have HR := Lib.hid hr
  have HM := Lib.hid hm
  have K2 := Lib.hid k2
  have B2 := Lib.hid (Below.and B1.out k2 (fun _ f => f.elim) (Nat.le_refl _))
  clear h2 hr hm k2 BC GT H1 c0 c1 c2 c3 c4 c5
  go_wp2_with (first
    | ((with_reducible refine at_ (op := .load 29 (.tmp 1)) ?_); refine wpList_val rfl _ (ex_load 29 (.tmp 1) rfl _ _ rfl GT2.out) ?_)
    | fail)
  refine (BD.out w2).mono ?_
  rintro e w3 ⟨R', m', c', rfl, hm', _, hr', _, k3⟩
  generalize thrV x0.name = t at *
  have SM := same_len R _ c m R' _ c' m' w3 ((HR.out.below (k3.toBelow _ (Nat.le_refl _) fun _ f => f.elim)).more k3.size) hr' HM.out hm'
  rw [decide_eq_true rfl] at SM
  have SMH := Lib.hid SM
  have B3 := Lib.hid (Below.and B2.out k3 (fun _ f => f.elim) (Nat.le_refl _))
  clear SM hr' hm' k3 BD GT2 HR HM K2
  go_wp2_with fail
  refine SMH.out.mono ?_
  rintro e w4 ⟨rfl, rfl⟩
  go_wp2_with fail
  go_ret
  exact ⟨rfl, B3.out⟩

set_option maxRecDepth 100000 in
theorem lifted (os : Os) (started : os.Started) (H : Type) (enc : TypeId × Value → H) :
    ReturnsInHanded {} Try.checked os 4 .any (Rows.headerBytesSpec.pre6 enc Try.prog Try.f4 Rows.headerBytesRow.domain false) (Rows.headerBytesSpec.post enc Try.prog Try.f4 false true false false) := by
  refine returnsInHanded_of_change_sized (C := Try.checked) own started (by kernel_rfl) Try.func4
    (ChangeSpec.witness6 (enc := enc) (C := Try.checked) false ⟨#[], #[.agg #[.int .i64 0, .int .i64 0, .string ⟨#[]⟩, .bool false, .bool false, .int .i64 0]], []⟩ 8 (by kernel_rfl) (by kernel_rfl) (by kernel_rfl) (by kernel_rfl)) ?_
  intro W base args ds gs before hval0 hW _ hsz0 _
  have hsz : (DataW.weightsEach Try.prog (Try.f4.params.toList ++ Rows.headerBytesSpec.plain.varTypes Try.prog) (ds ++ gs)).all (· ≤ reachBytes) = true := hsz0
  clear hsz0
  have hval : ∀ (j : Nat) t v, Try.f4.params[j]? = some t → args[j]? = some v → Value.okWide Try.prog W .any base t v := hval0
  have hW' := hW
  obtain ⟨p, q, hA0, hV, rfl, _, _⟩ := hW
  have hA : DataW.TrodAll enc Try.prog W 0 (fun _ => true) true Try.f4.params.toList args.toList ds p := hA0
  rw [Try.params4] at hA hval hsz
  obtain ⟨v0, vs0, d0, ds0, p0, q0, hargs, rfl, rfl, h0, r0⟩ := trodAll_cons hA
  obtain ⟨rfl, rfl, rfl⟩ := trodAll_nil r0
  obtain rfl : args = #[v0] := by cases args; simp_all
  obtain ⟨rfl, rfl⟩ := trodVars_none hV
  have k0 := h0
  have lt0 : ∀ x ∈ p0, x.block < W.heap.size := by obtain ⟨m, hm⟩ := k0; exact DataW.trod_lt m _ _ _ hm
  obtain ⟨x0, rfl, o0⟩ := header_in (hval 0 29 v0 rfl rfl) h0
  clear hA0 hval0
  refine (walk x0 W o0).mono fun e W' ⟨he, bel⟩ => ?_
  subst he
  exact ⟨_, rfl, _, _, _, [], _, [], hW', trodAll_mk1 (shut_bool Try.underlying4 _), (trodAll_cons_mk (Below.trod laidOut (by kernel_rfl) (of_decide_eq_true (by kernel_rfl)) k0 bel lt0) trodAll_mk0), rfl, bel.frame _, fun h => by cases h⟩

theorem proved : Rows.HeaderBytesSaid :=
  OpenClaim.holds_of_wide 4 Try.f4 rfl rfl rfl rfl rfl rfl rfl ⟨rfl, rfl, rfl, rfl, rfl⟩ rfl rfl rfl rfl rfl (by kernel_rfl) Try.func4 (by kernel_rfl)
    (of_decide_eq_true (by kernel_rfl)) (by unfold Func.isWrapper; first | (rw [if_pos (by decide +kernel)]; kernel_rfl) | (rw [if_neg (by decide +kernel)]; exact ⟨rfl, rfl⟩))
    (fun os started H enc _ => lifted os started H enc)
#print axioms proved
end Go.Proofs.Ythmlhjjcihibnaa.headerBytes
