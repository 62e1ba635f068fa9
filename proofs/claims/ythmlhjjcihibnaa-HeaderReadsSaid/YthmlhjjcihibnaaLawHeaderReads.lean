/-
  LawHeaderReads
-/
import Derived.Test.YthmlhjjcihibnaaGA
import Derived.ChangeOld
import Derived.Below
import Derived.Deep.QuietTactic
import Derived.BigQuiet
import Derived.WalkSmall
import Derived.Test.YthmlhjjcihibnaaHhEq
import Derived.Test.YthmlhjjcihibnaaGSnG
namespace Go.Proofs.Ythmlhjjcihibnaa.headerReads
open Go.ChangeShapes Go.WideShapes Go.ChangeAt Go.RowKit Hh Sk Mm
set_option linter.unusedVariables false

theorem own : ownKnob Try.prog.godebug = none := by kernel_rfl
theorem laidOut : laidOutB Try.prog = true := by kernel_rfl

set_option maxRecDepth 100000 in
set_option maxHeartbeats 1000000 in
theorem walk (A0 : Option Addr) (x0 : List UInt8) (c0 : Nat) (a1 : Int) (w : World) (b0 : BR w w.heap.size A0 x0) (l0 : x0.length ≤ 140737488351232) (q0 : x0.length ≤ c0) (w1 : (Lit.int .i64 a1).wf = true) :
    Calls Try.prog 3 #[.slice A0 x0.length c0, .int .i64 a1] w fun e w' => e = .returned (.bool true) ∧ Below w.heap.size w w' := by
  have bx : ∀ W, Below w.heap.size w W → BR W W.heap.size A0 x0 := fun W hb => (b0.below hb).more hb.size
  have BB := Lib.hid bx
  have a1b := i64_of_wf w1
  clear b0 bx
  by_cases hl : 9000 < x0.length
  · go_enter Try.func3, Try.ntmps3
    go_wp2_with fail
    refine (hawake_any w).mono ?_
    rintro e w1 ⟨rfl, b1⟩
    have B1 := Lib.hid b1
    clear b1
    go_wp2_with fail
    go_ret
    exact ⟨rfl, B1.out⟩
  go_enter Try.func3, Try.ntmps3
  go_wp2_with fail
  refine (hawake_any w).mono ?_
  rintro e w1 ⟨rfl, b1⟩
  have B1 := Lib.hid b1
  have br1 := BB.out _ b1
  clear b1
  go_wp2_with fail
  refine (mflat_any A0 x0 c0 w1 br1).mono ?_
  rintro e w2 ⟨p, gb, mb, rfl, p1, p2, p3, hm, k2⟩
  have b2 := Below.and B1.out k2 (fun _ h => h.elim) (Nat.le_refl _)
  have br2 := BB.out _ b2
  have B2 := Lib.hid b2
  have s1 := B1.out.size
  clear b2 br1
  go_wp2_with fail
  refine (rflat_any A0 x0 c0 w2 br2).mono ?_
  rintro e w3 ⟨q, rfl, hr, k3⟩
  obtain ⟨rb, rc, rd, re, hr⟩ := hr
  have hm3 := hm.keep k3 (fun h => h) (fun h => h) (fun h => h)
  obtain ⟨l1', l2', l3'⟩ := hm.lt
  have B3 := Lib.hid (Below.and B2.out k3 (fun _ h => h.elim) (Nat.le_refl _))
  generalize fillL x0 = Z at *
  have m3 : SM w3 (some ⟨p, 0, none⟩) p gb mb true Z Z := .inl ⟨rfl, rfl, hm3⟩
  have NP : Hid (w.heap.size ≤ p ∧ w.heap.size ≤ mb ∧ p < w2.heap.size ∧ mb < w2.heap.size) := Lib.hid ⟨by omega, by omega, by omega, by omega⟩
  have NQ := Lib.hid (show w2.heap.size ≤ q ∧ w2.heap.size ≤ rb ∧ w2.heap.size ≤ rd from ⟨hr.q0, hr.now.lt'.1, hr.was.lt'.1⟩)
  have KPR : Hid (∀ (a b : World), RefH a w2.heap.size q rb rc rd re Z Z → Keeps (SF true p mb) a b → RefH b w2.heap.size q rb rc rd re Z Z) := Lib.hid fun a b h k => by
    have np := NP.out
    have nq := NQ.out
    exact h.keep3 k (fun f => by rcases f.2 with x | x <;> omega) (fun f => by rcases f.2 with x | x <;> omega) (fun f => by rcases f.2 with x | x <;> omega)
  have KBL : Hid (∀ (a b : World), Below w.heap.size w a → Keeps (SF true p mb) a b → Below w.heap.size w b) := Lib.hid fun a b h k => Below.and h k (fun i f => by have np := NP.out; rcases f.2 with rfl | rfl <;> omega) (Nat.le_refl _)
  have CR := Lib.hid (hread_code m3 a1 a1b.1 a1b.2)
  unfold RdQ at CR
  have DR := Lib.hid (fun w' (h : RefH w' w2.heap.size q rb rc rd re Z Z) => hread_doc h a1 a1b.1 a1b.2)
  unfold RrQ at DR
  generalize readH Z a1 = x at *
  generalize decide (IsH Z a1) = bb at *
  have HR := Lib.hid hr
  have S3 : Hid (w2.heap.size ≤ w3.heap.size) := Lib.hid k3.size
  clear hr hm hm3 k2 k3 br2 B1 B2 p1 p2 p3 m3 l1' l2' l3' s1
  go_wp2_with fail
  refine CR.out.mono ?_
  rintro e w4 ⟨rfl, m4, k4⟩
  obtain ⟨s1, s2, s3⟩ := box_put w4 x
  have m5 := m4.keep s3 (fun _ _ f => f)
  have k5 := k4.trans (s3.mono (G := SF true p mb) fun _ _ f => f.elim)
  have M5 := Lib.hid m5
  have R5 := Lib.hid (KPR.out _ _ HR.out k5)
  have B5 := Lib.hid (KBL.out _ _ B3.out k5)
  have G5 : Hid (¬ SF true p mb w4.heap.size) := Lib.hid fun f => by have := NP.out; have := S3.out; have := k4.size; rcases f.2 with x | x <;> omega
  have H5 := Lib.hid s2
  have ST := Lib.hid s1
  clear s1 s2 s3 m4 m5 k4 k5 HR B3 CR
  generalize hW : (w4.alloc (.cells #[.int .i64 0, .int .i64 0, .string ⟨#[]⟩, .bool false, .bool false, .int .i64 0] 29)).setCells w4.heap.size 0 (hcs x) = w5 at *
  clear hW
  go_wp2_with (first
    | ((with_reducible refine at_ (op := .store 29 (.tmp 7) (.tmp 24)) ?_); refine wpList_unit rfl (ex_store 29 (.tmp 7) (.tmp 24) rfl _ _ rfl rfl ST.out) ?_)
    | fail)
  refine (DR.out w5 R5.out).mono ?_
  rintro e w6 ⟨rfl, r6, k6⟩
  obtain ⟨s1, s2, s3⟩ := box_put w6 x
  have k7 := k6.trans s3
  have m7 := M5.out.keep k7 (fun _ _ f => f)
  have r7 := r6.keep s3 (fun _ _ _ f => f)
  have h7 := H5.out.keep k7 (fun f => f)
  have B7 := Lib.hid (Below.and B5.out k7 (fun _ f => f.elim) (Nat.le_refl _))
  have LA := Lib.hid h7.get
  have LB := Lib.hid s2.get
  have R7 := Lib.hid r7
  have CH := Lib.hid (here_any m7)
  have ST2 := Lib.hid s1
  clear s1 s2 s3 k6 k7 m7 r7 h7 r6 M5 R5 B5 H5 ST DR
  generalize hW : (w6.alloc (.cells #[.int .i64 0, .int .i64 0, .string ⟨#[]⟩, .bool false, .bool false, .int .i64 0] 29)).setCells w6.heap.size 0 (hcs x) = w7 at *
  clear hW
  have EQ := Lib.hid (eql_hag w7 x)
  go_wp2_with (first
    | ((with_reducible refine at_ (op := .store 29 (.tmp 9) (.tmp 30)) ?_); refine wpList_unit rfl (ex_store 29 (.tmp 9) (.tmp 30) rfl _ _ rfl rfl ST2.out) ?_)
    | ((with_reducible refine at_ (op := .load 29 (.tmp 7)) ?_); refine wpList_val rfl _ (ex_load 29 (.tmp 7) rfl _ _ rfl LA.out) ?_)
    | ((with_reducible refine at_ (op := .load 29 (.tmp 9)) ?_); refine wpList_val rfl _ (ex_load 29 (.tmp 9) rfl _ _ rfl LB.out) ?_)
    | ((with_reducible refine at_ (op := .binOp .eql 29 (.tmp 32) (.tmp 33) 29) ?_); refine wpList_val rfl _ (ex_bin_agg .eql 29 29 (.tmp 32) (.tmp 33) rfl _ _ _ rfl rfl eqgH EQ.out) ?_)
    | fail)
  refine CH.out.mono ?_
  rintro e w8 ⟨rfl, m8, k8⟩
  have R8 := Lib.hid (KPR.out _ _ R7.out k8)
  have B8 := Lib.hid (KBL.out _ _ B7.out k8)
  have M8 := Lib.hid m8
  clear m8 k8 CH R7 B7 LA LB EQ ST2
  go_wp2_with fail
  refine (rhere_at R8.out).mono ?_
  rintro e w9 ⟨rfl, rfl⟩
  generalize hereV Z = y at *
  go_wp2_with fail
  refine (latest_code M8.out).mono ?_
  rintro e w9 ⟨rfl, m9, k9⟩
  have R9 := Lib.hid (KPR.out _ _ R8.out k9)
  have B9 := Lib.hid (KBL.out _ _ B8.out k9)
  clear m9 k9 R8 B8 M8
  go_wp2_with fail
  refine (latest_doc R9.out).mono ?_
  rintro e w10 ⟨rfl, -, k10⟩
  generalize latV Z = y2 at *
  have B10 := Lib.hid (Below.and B9.out k10 (fun _ f => f.elim) (Nat.le_refl _))
  clear k10 R9 B9
  go_wp2_with fail
  go_ret
  exact ⟨rfl, B10.out⟩

set_option maxRecDepth 100000 in
theorem lifted (os : Os) (started : os.Started) (H : Type) (enc : TypeId × Value → H) :
    ReturnsInHanded {} Try.checked os 3 .any (Rows.headerReadsSpec.pre6 enc Try.prog Try.f3 Rows.headerReadsRow.domain false) (Rows.headerReadsSpec.post enc Try.prog Try.f3 false true false false) := by
  refine returnsInHanded_of_change_sized (C := Try.checked) own started (by kernel_rfl) Try.func3
    (ChangeSpec.witness6 (enc := enc) (C := Try.checked) false ⟨#[], #[.slice none 0 0, .int .i64 0], []⟩ 8 (by kernel_rfl) (by kernel_rfl) (by kernel_rfl) (by kernel_rfl)) ?_
  intro W base args ds gs before hval0 hW _ hsz0 _
  have hsz : (DataW.weightsEach Try.prog (Try.f3.params.toList ++ Rows.headerReadsSpec.plain.varTypes Try.prog) (ds ++ gs)).all (· ≤ reachBytes) = true := hsz0
  clear hsz0
  have hval : ∀ (j : Nat) t v, Try.f3.params[j]? = some t → args[j]? = some v → Value.okWide Try.prog W .any base t v := hval0
  have hW' := hW
  obtain ⟨p, q, hA0, hV, rfl, _, _⟩ := hW
  have hA : DataW.TrodAll enc Try.prog W 0 (fun _ => true) true Try.f3.params.toList args.toList ds p := hA0
  rw [Try.params3] at hA hval hsz
  obtain ⟨v0, vs0, d0, ds0, p0, q0, hargs, rfl, rfl, h0, r0⟩ := trodAll_cons hA
  obtain ⟨v1, vs1, d1, ds1, p1, q1, rfl, rfl, rfl, h1, r1⟩ := trodAll_cons r0
  obtain ⟨rfl, rfl, rfl⟩ := trodAll_nil r1
  obtain rfl : args = #[v0, v1] := by cases args; simp_all
  obtain ⟨rfl, rfl⟩ := trodVars_none hV
  obtain ⟨A0, len0, c0, rfl⟩ := okWide_slice Try.underlying22 (hval 0 22 v0 rfl rfl)
  have k0 := h0
  have lt0 : ∀ x ∈ p0, x.block < W.heap.size := by obtain ⟨m, hm⟩ := k0; exact DataW.trod_lt m _ _ _ hm
  have q0 := bytes_cap h0
  obtain ⟨x0, rfl, b0, s0⟩ := bytes_in h0
  have l0 := s0 _ _ 0 hsz rfl rfl
  obtain ⟨a1, rfl, rfl, rfl, w1⟩ := open_int Try.underlying2 (hval 1 2 v1 rfl rfl) h1
  clear hA0 hval0
  refine (walk A0 x0 c0 a1 W b0 l0 q0 w1).mono fun e W' ⟨he, bel⟩ => ?_
  subst he
  exact ⟨_, rfl, _, _, _, [], _, [], hW', trodAll_mk1 (shut_bool Try.underlying4 _), (trodAll_cons_mk (Below.trod laidOut (by kernel_rfl) (of_decide_eq_true (by kernel_rfl)) k0 bel lt0) (trodAll_cons_mk (shut_int Try.underlying2 w1) trodAll_mk0)), rfl, bel.frame _, fun h => by cases h⟩

theorem proved : Rows.HeaderReadsSaid :=
  OpenClaim.holds_of_wide 3 Try.f3 rfl rfl rfl rfl rfl rfl rfl ⟨rfl, rfl, rfl, rfl, rfl⟩ rfl rfl rfl rfl rfl (by kernel_rfl) Try.func3 (by kernel_rfl)
    (of_decide_eq_true (by kernel_rfl)) (by unfold Func.isWrapper; first | (rw [if_pos (by decide +kernel)]; kernel_rfl) | (rw [if_neg (by decide +kernel)]; exact ⟨rfl, rfl⟩))
    (fun os started H enc _ => lifted os started H enc)
#print axioms proved
end Go.Proofs.Ythmlhjjcihibnaa.headerReads
