/-
  LawHeaderBack
-/
import Derived.Test.YthmlhjjcihibnaaGA
import Derived.ChangeOld
import Derived.Below
import Derived.Deep.QuietTactic
import Derived.BigQuiet
import Derived.WalkSmall
import Derived.Test.YthmlhjjcihibnaaHhEq
import Derived.Test.YthmlhjjcihibnaaHhIn
import Derived.Test.YthmlhjjcihibnaaGSnG
namespace Go.Proofs.Ythmlhjjcihibnaa.headerBack
open Go.ChangeShapes Go.WideShapes Go.ChangeAt Go.RowKit Hh Sk Mm
set_option linter.unusedVariables false

theorem own : ownKnob Try.prog.godebug = none := by kernel_rfl
theorem laidOut : laidOutB Try.prog = true := by kernel_rfl

theorem HB.at0 {w : World} {g : Nat} {x : HV} (h : HB w g x) (a : Int) : HB (w.setCell ⟨g, 0, none⟩ (.int .i64 a)) g { x with at_ := a } := by
  unfold HB at *
  rw [heap_setCell_same _ _ _ _ _ _ h]
  rfl
theorem HB.at5 {w : World} {g : Nat} {x : HV} (h : HB w g x) (a : Int) : HB (w.setCell ⟨g, 5, none⟩ (.int .i64 a)) g { x with xt := a } := by
  unfold HB at *
  rw [heap_setCell_same _ _ _ _ _ _ h]
  rfl
theorem HB.free {w : World} {g : Nat} {x : HV} (h : HB w g x) (k : Nat) : w.frozen? ⟨g, k, none⟩ = false := frozen_of_row w g _ _ _ h

set_option maxRecDepth 100000 in
set_option maxHeartbeats 1000000 in
theorem walk (x0 : HV) (a1 : Int) (w : World) (o0 : HvOk x0) (w1 : (Lit.int .i64 a1).wf = true) :
    Calls Try.prog 6 #[hag x0, .int .i64 a1] w fun e w' => e = .returned (.bool true) ∧ Below w.heap.size w w' := by
  have BXH := Lib.hid (boxH w x0)
  have B := HB.boxed w x0
  have bA : Below w.heap.size w (w.alloc (.cells (hcs x0).toArray 29)) := (Below.refl _ _).alloc (Nat.le_refl _) _
  have sA : w.heap.size < (w.alloc (.cells (hcs x0).toArray 29)).heap.size := by simp
  have ok0 := o0.l0
  have ok1 := o0.l1
  have BC := Lib.hid (fun w' => hbytes_code x0 w')
  have a1b := i64_of_wf w1
  clear o0
  generalize w.alloc (.cells (hcs x0).toArray 29) = wA at *
  obtain ⟨n, hnn⟩ : ∃ n, x0.name.length = n := ⟨_, rfl⟩
  have HNN := Lib.hid hnn
  have BH := Lib.hid B
  have BA := Lib.hid bA
  clear B bA hnn w1
  go_enter Try.func6, Try.ntmps6
  go_wp2_with (first
    | ((with_reducible refine at_ (op := .box 29 (.tmp 0)) ?_); refine wpList_val rfl _ (ex_box 29 (.tmp 0) rfl _ _ rfl BXH.out) ?_)
    | fail)
  refine (hawake_any wA).mono ?_
  rintro e w1 ⟨rfl, b1⟩
  have h1 : HB w1 w.heap.size x0 := (b1.block _ sA).trans BH.out
  have B1 := Lib.hid (BA.out.trans (b1.mono BA.out.size))
  have s1 : w.heap.size < w1.heap.size := Nat.lt_of_lt_of_le sA b1.size
  have H1 := Lib.hid h1
  obtain ⟨c0, c1, c2, c3, c4, c5⟩ := h1.c
  clear h1 b1 BH BA BXH sA
  by_cases h0 : n < 1
  · have d0 : decide ((n : Int) < 1) = true := decide_eq_true (by omega)
    have d0' : decide (n < 1) = true := decide_eq_true (by omega)
    go_wp2_with (first
      | ((with_reducible refine at_ (op := .load 9 (.tmp 12)) ?_); refine wpList_val rfl _ (ex_load 9 (.tmp 12) rfl _ _ rfl (load_one (fun w => by kernel_rfl) c2)) ?_)
      | ((with_reducible refine at_ (op := .load 9 (.tmp 17)) ?_); refine wpList_val rfl _ (ex_load 9 (.tmp 17) rfl _ _ rfl (load_one (fun w => by kernel_rfl) c2)) ?_)
      | ((with_reducible refine at_ (op := .call { callee := .builtin .len, args := #[.tmp 13], argTypes := #[9] }) ?_); refine wpList_val rfl _ (ex_lenX (.tmp 13) rfl _ rfl) ?_; rw [HNN.out])
      | ((with_reducible refine at_ (op := .call { callee := .builtin .len, args := #[.tmp 18], argTypes := #[9] }) ?_); refine wpList_val rfl _ (ex_lenX (.tmp 18) rfl _ rfl) ?_; rw [HNN.out])
      | fail)
    go_ret
    exact ⟨rfl, B1.out⟩
  by_cases h1 : 31 < n
  · have d0 : decide ((n : Int) < 1) = false := decide_eq_false (by omega)
    have d0' : decide (n < 1) = false := decide_eq_false (by omega)
    have d1 : decide ((31 : Int) < (n : Int)) = true := decide_eq_true (by omega)
    have d1' : decide (31 < n) = true := decide_eq_true (by omega)
    go_wp2_with (first
      | ((with_reducible refine at_ (op := .load 9 (.tmp 12)) ?_); refine wpList_val rfl _ (ex_load 9 (.tmp 12) rfl _ _ rfl (load_one (fun w => by kernel_rfl) c2)) ?_)
      | ((with_reducible refine at_ (op := .load 9 (.tmp 17)) ?_); refine wpList_val rfl _ (ex_load 9 (.tmp 17) rfl _ _ rfl (load_one (fun w => by kernel_rfl) c2)) ?_)
      | ((with_reducible refine at_ (op := .call { callee := .builtin .len, args := #[.tmp 13], argTypes := #[9] }) ?_); refine wpList_val rfl _ (ex_lenX (.tmp 13) rfl _ rfl) ?_; rw [HNN.out])
      | ((with_reducible refine at_ (op := .call { callee := .builtin .len, args := #[.tmp 18], argTypes := #[9] }) ?_); refine wpList_val rfl _ (ex_lenX (.tmp 18) rfl _ rfl) ?_; rw [HNN.out])
      | fail)
    go_ret
    exact ⟨rfl, B1.out⟩
  by_cases h2 : a1 < 1536
  · have d0 : decide ((n : Int) < 1) = false := decide_eq_false (by omega)
    have d0' : decide (n < 1) = false := decide_eq_false (by omega)
    have d1 : decide ((31 : Int) < (n : Int)) = false := decide_eq_false (by omega)
    have d1' : decide (31 < n) = false := decide_eq_false (by omega)
    have d2 : decide (a1 < 1536) = true := decide_eq_true (by omega)
    go_wp2_with (first
      | ((with_reducible refine at_ (op := .load 9 (.tmp 12)) ?_); refine wpList_val rfl _ (ex_load 9 (.tmp 12) rfl _ _ rfl (load_one (fun w => by kernel_rfl) c2)) ?_)
      | ((with_reducible refine at_ (op := .load 9 (.tmp 17)) ?_); refine wpList_val rfl _ (ex_load 9 (.tmp 17) rfl _ _ rfl (load_one (fun w => by kernel_rfl) c2)) ?_)
      | ((with_reducible refine at_ (op := .call { callee := .builtin .len, args := #[.tmp 13], argTypes := #[9] }) ?_); refine wpList_val rfl _ (ex_lenX (.tmp 13) rfl _ rfl) ?_; rw [HNN.out])
      | ((with_reducible refine at_ (op := .call { callee := .builtin .len, args := #[.tmp 18], argTypes := #[9] }) ?_); refine wpList_val rfl _ (ex_lenX (.tmp 18) rfl _ rfl) ?_; rw [HNN.out])
      | fail)
    go_ret
    exact ⟨rfl, B1.out⟩
  by_cases h3 : 5568 < a1
  · have d0 : decide ((n : Int) < 1) = false := decide_eq_false (by omega)
    have d0' : decide (n < 1) = false := decide_eq_false (by omega)
    have d1 : decide ((31 : Int) < (n : Int)) = false := decide_eq_false (by omega)
    have d1' : decide (31 < n) = false := decide_eq_false (by omega)
    have d2 : decide (a1 < 1536) = false := decide_eq_false (by omega)
    have d3 : decide (5568 < a1) = true := decide_eq_true (by omega)
    go_wp2_with (first
      | ((with_reducible refine at_ (op := .load 9 (.tmp 12)) ?_); refine wpList_val rfl _ (ex_load 9 (.tmp 12) rfl _ _ rfl (load_one (fun w => by kernel_rfl) c2)) ?_)
      | ((with_reducible refine at_ (op := .load 9 (.tmp 17)) ?_); refine wpList_val rfl _ (ex_load 9 (.tmp 17) rfl _ _ rfl (load_one (fun w => by kernel_rfl) c2)) ?_)
      | ((with_reducible refine at_ (op := .call { callee := .builtin .len, args := #[.tmp 13], argTypes := #[9] }) ?_); refine wpList_val rfl _ (ex_lenX (.tmp 13) rfl _ rfl) ?_; rw [HNN.out])
      | ((with_reducible refine at_ (op := .call { callee := .builtin .len, args := #[.tmp 18], argTypes := #[9] }) ?_); refine wpList_val rfl _ (ex_lenX (.tmp 18) rfl _ rfl) ?_; rw [HNN.out])
      | fail)
    go_ret
    exact ⟨rfl, B1.out⟩
  by_cases h4 : ¬ a1.tmod 8 = 0
  · have d0 : decide ((n : Int) < 1) = false := decide_eq_false (by omega)
    have d0' : decide (n < 1) = false := decide_eq_false (by omega)
    have d1 : decide ((31 : Int) < (n : Int)) = false := decide_eq_false (by omega)
    have d1' : decide (31 < n) = false := decide_eq_false (by omega)
    have d2 : decide (a1 < 1536) = false := decide_eq_false (by omega)
    have d3 : decide (5568 < a1) = false := decide_eq_false (by omega)
    have d4 : (a1.tmod 8 != 0) = true := by simpa using h4
    have d4' : (a1 % 8 != 0) = true := by rw [← Int.tmod_eq_emod_of_nonneg (by omega)]; exact d4
    go_wp2_with (first
      | ((with_reducible refine at_ (op := .load 9 (.tmp 12)) ?_); refine wpList_val rfl _ (ex_load 9 (.tmp 12) rfl _ _ rfl (load_one (fun w => by kernel_rfl) c2)) ?_)
      | ((with_reducible refine at_ (op := .load 9 (.tmp 17)) ?_); refine wpList_val rfl _ (ex_load 9 (.tmp 17) rfl _ _ rfl (load_one (fun w => by kernel_rfl) c2)) ?_)
      | ((with_reducible refine at_ (op := .call { callee := .builtin .len, args := #[.tmp 13], argTypes := #[9] }) ?_); refine wpList_val rfl _ (ex_lenX (.tmp 13) rfl _ rfl) ?_; rw [HNN.out])
      | ((with_reducible refine at_ (op := .call { callee := .builtin .len, args := #[.tmp 18], argTypes := #[9] }) ?_); refine wpList_val rfl _ (ex_lenX (.tmp 18) rfl _ rfl) ?_; rw [HNN.out])
      | fail)
    go_ret
    exact ⟨rfl, B1.out⟩
  have d0 : decide ((n : Int) < 1) = false := decide_eq_false (by omega)
  have d0' : decide (n < 1) = false := decide_eq_false (by omega)
  have d1 : decide ((31 : Int) < (n : Int)) = false := decide_eq_false (by omega)
  have d1' : decide (31 < n) = false := decide_eq_false (by omega)
  have d2 : decide (a1 < 1536) = false := decide_eq_false (by omega)
  have d3 : decide (5568 < a1) = false := decide_eq_false (by omega)
  have d4 : (a1.tmod 8 != 0) = false := by simp at h4; simp [h4]
  have d4' : (a1 % 8 != 0) = false := by rw [← Int.tmod_eq_emod_of_nonneg (by omega)]; exact d4
  have a0 : 1536 ≤ a1 := by omega
  have a9 : a1 ≤ 5568 := by omega
  have n1 : 1 ≤ n := by omega
  have n31 : n ≤ 31 := by omega
  have t8 : a1.tmod 8 = 0 := by simpa using h4
  clear h0 h1 h2 h3 h4
  go_wp2_with (first
    | ((with_reducible refine at_ (op := .load 9 (.tmp 12)) ?_); refine wpList_val rfl _ (ex_load 9 (.tmp 12) rfl _ _ rfl (load_one (fun w => by kernel_rfl) c2)) ?_)
    | ((with_reducible refine at_ (op := .load 9 (.tmp 17)) ?_); refine wpList_val rfl _ (ex_load 9 (.tmp 17) rfl _ _ rfl (load_one (fun w => by kernel_rfl) c2)) ?_)
    | ((with_reducible refine at_ (op := .call { callee := .builtin .len, args := #[.tmp 13], argTypes := #[9] }) ?_); refine wpList_val rfl _ (ex_lenX (.tmp 13) rfl _ rfl) ?_; rw [HNN.out])
    | ((with_reducible refine at_ (op := .call { callee := .builtin .len, args := #[.tmp 18], argTypes := #[9] }) ?_); refine wpList_val rfl _ (ex_lenX (.tmp 18) rfl _ rfl) ?_; rw [HNN.out])
    | fail)
  clear d0 d0' d1 d1' d2 d3 d4 d4' c0 c1 c2 c3 c4 c5
  refine (mflat_any none [] 0 w1 BR.nil).mono ?_
  rintro e w2 ⟨p, gb, mb, rfl, p1, p2, p3, hm, k2⟩
  have zl := fillL_len []
  generalize fillL [] = Z at *
  have h2 := H1.out.keep k2 fun f => f
  have GT := Lib.hid h2.get
  have H2 := Lib.hid h2
  have M2 := Lib.hid hm
  have ZL := Lib.hid zl
  have hlt := hm.lt
  have PP := Lib.hid (show w.heap.size < p ∧ w.heap.size < mb ∧ w.heap.size < gb ∧ p < w2.heap.size ∧ mb < w2.heap.size ∧ gb < w2.heap.size from ⟨by omega, by omega, by omega, by omega, by omega, by omega⟩)
  have B2 := Lib.hid (Below.and B1.out k2 (fun _ f => f.elim) (Nat.le_refl _))
  clear h2 hm zl hlt k2 p1 p2 p3 H1 B1 s1
  go_wp2_with (first
    | ((with_reducible refine at_ (op := .load 29 (.tmp 2)) ?_); refine wpList_val rfl _ (ex_load 29 (.tmp 2) rfl _ _ rfl GT.out) ?_)
    | fail)
  refine (BC.out w2).mono ?_
  rintro e w3 ⟨R, m, c, rfl, hm, hmc, hr, hR, k3⟩
  have t0 : thrV x0.name = 0 := thr_ok (by intro e; rw [e] at HNN; have := HNN.out; simp at this; omega) (by rw [HNN.out]; exact n31)
  have o1 : outL x0 = bytesL x0.link x0.name x0.imm x0.hid := by unfold outL; rw [if_pos t0]
  rw [t0]
  rw [o1] at hm hr
  rw [bytesL_len] at hm
  have sb := sizeN_bd x0.name (by rw [HNN.out]; exact n31)
  rw [HNN.out, hm] at sb
  have mm3 := M2.out.keep k3 (fun f => f) (fun f => f) (fun f => f)
  have LY := mlay_at mm3 a1 (by omega) (by omega) R _ c hr (fun ad e hne => by
    have := hR ad e
    have := PP.out
    exact ⟨by omega, by omega⟩) (by rw [bytesL_len]; omega) (by rw [bytesL_len, hm]; exact hmc)
  rw [bytesL_len, hm] at LY
  have LYH := Lib.hid LY
  have h3 := H2.out.keep k3 fun f => f
  obtain ⟨r1, r2⟩ := laid_read Z ZL.out a1 x0.link x0.name x0.imm x0.hid 5632 a0 t8 ok0 ok1 (by rw [HNN.out]; exact n1) (by rw [HNN.out]; exact n31) (by rw [hm]; omega) (by omega)
  rw [hm] at r2
  unfold laidH at r1 r2
  generalize layL Z a1 (bytesL x0.link x0.name x0.imm x0.hid) = M1 at *
  have H3 := Lib.hid h3
  have S1 := Lib.hid r1
  have S2 := Lib.hid r2
  have B3 := Lib.hid (Below.and B2.out k3 (fun _ f => f.elim) (Nat.le_refl _))
  have MB2 : Hid (m ≤ 40) := Lib.hid (by omega)
  clear LY h3 r1 r2 mm3 hm hmc hr hR k3 o1 t0 sb t8 B2 H2 M2 GT BC ZL ok0 ok1
  go_wp2_with fail
  refine LYH.out.mono ?_
  rintro e w4 ⟨rfl, m4, k4⟩
  have H4 := Lib.hid (H3.out.keep k4 (by have := PP.out; omega))
  have B4 := Lib.hid (Below.and B3.out k4 (fun i f => by have := PP.out; rcases f with rfl | rfl <;> omega) (Nat.le_refl _))
  have M4 := Lib.hid m4
  clear k4 m4 H3 B3 LYH
  go_wp2_with fail
  refine (mset_at M4.out 0 5632 (by omega) (by omega)).mono ?_
  rintro e w5 ⟨rfl, m5, k5⟩
  generalize setM M1 0 5632 = M2 at *
  have H5 := Lib.hid (H4.out.keep k5 (by have := PP.out; omega))
  have B5 := Lib.hid (Below.and B4.out k5 (fun i f => by have := PP.out; rcases f with rfl | rfl <;> omega) (Nat.le_refl _))
  have m5' : SM w5 (some ⟨p, 0, none⟩) p gb mb true Z M2 := .inl ⟨rfl, rfl, m5⟩
  have RD := hread_code m5' a1 (by omega) (by omega)
  unfold RdQ at RD
  rw [(read_yes S1.out).1, (read_yes S1.out).2, S2.out] at RD
  have RDH := Lib.hid RD
  clear k5 m5 m5' RD H4 B4 M4 S1 S2
  go_wp2_with fail
  refine RDH.out.mono ?_
  rintro e w6 ⟨rfl, m6, k6⟩
  obtain ⟨y, hy⟩ : ∃ y : HV, y = ⟨a1, x0.link, x0.name, x0.imm, x0.hid, a1 + (m : Int)⟩ := ⟨_, rfl⟩
  have HY := Lib.hid hy
  rw [← hy]
  clear hy
  obtain ⟨s1, s2, s3⟩ := box_put w6 y
  generalize hW : (w6.alloc (.cells #[.int .i64 0, .int .i64 0, .string ⟨#[]⟩, .bool false, .bool false, .int .i64 0] 29)).setCells w6.heap.size 0 (hcs y) = w7 at *
  clear hW
  have h6 := H5.out.keep k6 (by have := PP.out; intro f; rcases f.2 with e | e <;> omega)
  have h7 := h6.keep s3 (fun f => f)
  have lt6 := h6.lt
  have B7 := Lib.hid (Below.and (Below.and B5.out k6 (fun i f => by have := PP.out; rcases f.2 with rfl | rfl <;> omega) (Nat.le_refl _)) s3 (fun _ f => f.elim) (Nat.le_refl _))
  have j1 := HB.at0 h7 a1
  have j2 := HB.at5 j1 (a1 + (m : Int))
  have f7 := HB.free h7 0
  have f8 := HB.free j1 5
  obtain ⟨c0, -, -, -, -, -⟩ := h7.c
  obtain ⟨-, -, -, -, -, c5⟩ := j1.c
  have e7 : HB ((w7.setCell ⟨w.heap.size, 0, none⟩ (.int .i64 a1)).setCell ⟨w.heap.size, 5, none⟩ (.int .i64 (a1 + (m : Int)))) w.heap.size y := by rw [HY.out]; exact j2
  have k8 : Keeps (· = w.heap.size) w7 ((w7.setCell ⟨w.heap.size, 0, none⟩ (.int .i64 a1)).setCell ⟨w.heap.size, 5, none⟩ (.int .i64 (a1 + (m : Int)))) := (Keeps.setCell (· = w.heap.size) _ _ _ rfl).trans (Keeps.setCell _ _ _ _ rfl)
  have g8 := s2.keep k8 (by show ¬ w6.heap.size = w.heap.size; omega)
  have B8 := Lib.hid (Below.and B7.out k8 (fun i f => by omega) (Nat.le_refl _))
  have ST := Lib.hid s1
  have LA := Lib.hid g8.get
  have LB := Lib.hid e7.get
  have mb40 := MB2.out
  clear s1 s2 s3 k6 m6 h6 h7 j1 j2 e7 g8 k8 H5 B5 B7 RDH HY lt6
  go_wp2_with (first
    | ((with_reducible refine at_ (op := .store 29 (.tmp 8) (.tmp 57)) ?_); refine wpList_unit rfl (ex_store 29 (.tmp 8) (.tmp 57) rfl _ _ rfl rfl ST.out) ?_)
    | ((with_reducible refine at_ (op := .load 29 (.tmp 8)) ?_); refine wpList_val rfl _ (ex_load 29 (.tmp 8) rfl _ _ rfl LA.out) ?_)
    | ((with_reducible refine at_ (op := .load 29 (.tmp 2)) ?_); refine wpList_val rfl _ (ex_load 29 (.tmp 2) rfl _ _ rfl LB.out) ?_)
    | ((with_reducible refine at_ (op := .binOp .eql 29 (.tmp 68) (.tmp 69) 29) ?_); refine wpList_val rfl _ (ex_bin_agg .eql 29 29 (.tmp 68) (.tmp 69) rfl _ _ _ rfl rfl eqgH (eql_hag _ y)) ?_)
    | fail)
  go_ret
  exact ⟨rfl, B8.out⟩

set_option maxRecDepth 100000 in
theorem lifted (os : Os) (started : os.Started) (H : Type) (enc : TypeId × Value → H) :
    ReturnsInHanded {} Try.checked os 6 .any (Rows.headerBackSpec.pre6 enc Try.prog Try.f6 Rows.headerBackRow.domain false) (Rows.headerBackSpec.post enc Try.prog Try.f6 false true false false) := by
  refine returnsInHanded_of_change_sized (C := Try.checked) own started (by kernel_rfl) Try.func6
    (ChangeSpec.witness6 (enc := enc) (C := Try.checked) false ⟨#[], #[.agg #[.int .i64 0, .int .i64 0, .string ⟨#[]⟩, .bool false, .bool false, .int .i64 0], .int .i64 0], []⟩ 8 (by kernel_rfl) (by kernel_rfl) (by kernel_rfl) (by kernel_rfl)) ?_
  intro W base args ds gs before hval0 hW _ hsz0 _
  have hsz : (DataW.weightsEach Try.prog (Try.f6.params.toList ++ Rows.headerBackSpec.plain.varTypes Try.prog) (ds ++ gs)).all (· ≤ reachBytes) = true := hsz0
  clear hsz0
  have hval : ∀ (j : Nat) t v, Try.f6.params[j]? = some t → args[j]? = some v → Value.okWide Try.prog W .any base t v := hval0
  have hW' := hW
  obtain ⟨p, q, hA0, hV, rfl, _, _⟩ := hW
  have hA : DataW.TrodAll enc Try.prog W 0 (fun _ => true) true Try.f6.params.toList args.toList ds p := hA0
  rw [Try.params6] at hA hval hsz
  obtain ⟨v0, vs0, d0, ds0, p0, q0, hargs, rfl, rfl, h0, r0⟩ := trodAll_cons hA
  obtain ⟨v1, vs1, d1, ds1, p1, q1, rfl, rfl, rfl, h1, r1⟩ := trodAll_cons r0
  obtain ⟨rfl, rfl, rfl⟩ := trodAll_nil r1
  obtain rfl : args = #[v0, v1] := by cases args; simp_all
  obtain ⟨rfl, rfl⟩ := trodVars_none hV
  have k0 := h0
  have lt0 : ∀ x ∈ p0, x.block < W.heap.size := by obtain ⟨m, hm⟩ := k0; exact DataW.trod_lt m _ _ _ hm
  obtain ⟨x0, rfl, o0⟩ := header_in (hval 0 29 v0 rfl rfl) h0
  obtain ⟨a1, rfl, rfl, rfl, w1⟩ := open_int Try.underlying2 (hval 1 2 v1 rfl rfl) h1
  clear hA0 hval0
  refine (walk x0 a1 W o0 w1).mono fun e W' ⟨he, bel⟩ => ?_
  subst he
  exact ⟨_, rfl, _, _, _, [], _, [], hW', trodAll_mk1 (shut_bool Try.underlying4 _), (trodAll_cons_mk (Below.trod laidOut (by kernel_rfl) (of_decide_eq_true (by kernel_rfl)) k0 bel lt0) (trodAll_cons_mk (shut_int Try.underlying2 w1) trodAll_mk0)), rfl, bel.frame _, fun h => by cases h⟩

theorem proved : Rows.HeaderBackSaid :=
  OpenClaim.holds_of_wide 6 Try.f6 rfl rfl rfl rfl rfl rfl rfl ⟨rfl, rfl, rfl, rfl, rfl⟩ rfl rfl rfl rfl rfl (by kernel_rfl) Try.func6 (by kernel_rfl)
    (of_decide_eq_true (by kernel_rfl)) (by unfold Func.isWrapper; first | (rw [if_pos (by decide +kernel)]; kernel_rfl) | (rw [if_neg (by decide +kernel)]; exact ⟨rfl, rfl⟩))
    (fun os started H enc _ => lifted os started H enc)
#print axioms proved
end Go.Proofs.Ythmlhjjcihibnaa.headerBack
