/-
  LawWideAdds
-/
import Derived.Test.YtipolhocplidlaaGA
import Derived.ChangeOld
import Derived.Below
import Derived.Deep.QuietTactic
import Derived.BigQuiet
import Derived.WalkSmall
import Derived.Test.YtipolhocplidlaaWdAwake
namespace Go.Proofs.Ytipolhocplidlaa.wideAdds
open Go.ChangeShapes Go.WideShapes Go.ChangeAt Go.RowKit Wd
set_option linter.unusedVariables false

theorem own : ownKnob Try.prog.godebug = none := by kernel_rfl
theorem laidOut : laidOutB Try.prog = true := by kernel_rfl

set_option maxRecDepth 100000 in
set_option maxHeartbeats 1000000 in
theorem walk (ah0 al0 : Int) (ah1 al1 : Int) (a2 : Int) (w : World) (hh0 : half ah0) (hl0 : half al0) (hh1 : half ah1) (hl1 : half al1) (w2 : (Lit.int .i64 a2).wf = true) :
    Calls Try.prog 3 #[pw ah0 al0, pw ah1 al1, .int .i64 a2] w fun e w' => e = .returned (.bool true) ∧ Below w.heap.size w w' := by
  have ha2 := i64r_of w2
  have p0 : PB ((w.alloc (.cells #[.int .u64 ah0, .int .u64 al0] 24)).alloc (.cells #[.int .u64 ah1, .int .u64 al1] 24)) w.heap.size ah0 al0 := PB.alloc (PB.new _ _ _) _
  have q0 : PB ((w.alloc (.cells #[.int .u64 ah0, .int .u64 al0] 24)).alloc (.cells #[.int .u64 ah1, .int .u64 al1] 24)) (w.heap.size + 1) ah1 al1 := PB.at_ _ (by simp only [World.size_alloc]) _ _
  have b0 : Below w.heap.size w ((w.alloc (.cells #[.int .u64 ah0, .int .u64 al0] 24)).alloc (.cells #[.int .u64 ah1, .int .u64 al1] 24)) := (Below.al _ _).alloc (by simp only [World.size_alloc]; omega) _
  go_enter Try.func3, Try.ntmps3
  go_wp2_with fail
  refine (awake_any _).mono ?_
  rintro e wA ⟨rfl, bb⟩
  replace p0 := p0.below bb p0.lt
  replace q0 := q0.below bb q0.lt
  replace b0 := b0.trans (bb.mono b0.size)
  clear bb
  go_wp2_with fail
  refine wp_region_held (S := fun V => PB V w.heap.size ah0 al0 ∧ PB V (w.heap.size + 1) ah1 al1) (by kernel_rfl) ?_
  change wpAnyH _ _ _ _ _ _ _ _ wA.drew
  replace b0 := b0.drew
  have hS : PB wA.drew w.heap.size ah0 al0 ∧ PB wA.drew (w.heap.size + 1) ah1 al1 := ⟨p0, q0⟩
  clear p0 q0
  generalize wA.drew = x0 at *
  refine wpAnyH_take (oi := ⟨_, _, _, _, _, _⟩) (i := 0) (v := pw ah0 al0) rfl (by kernel_rfl) (by kernel_rfl) (by kernel_rfl) (fun _ _ _ h => h) (yif_load rfl 24 (.tmp 3) rfl _ _ rfl fun w h => h.1.load) hS ?_
  try simp only [Act.put, List.setIfInBounds_toArray, List.set_cons_zero, List.set_cons_succ]
  refine wpAnyH_take (oi := ⟨_, _, _, _, _, _⟩) (i := 1) (v := pw ah1 al1) rfl (by kernel_rfl) (by kernel_rfl) (by kernel_rfl) (fun _ _ _ h => h) (yif_load rfl 24 (.tmp 4) rfl _ _ rfl fun w h => h.2.load) hS ?_
  try simp only [Act.put, List.setIfInBounds_toArray, List.set_cons_zero, List.set_cons_succ]
  refine wpAnyH_take (oi := ⟨_, _, _, _, _, _⟩) (i := 3) (v := pw ah0 al0) rfl (by kernel_rfl) (by kernel_rfl) (by kernel_rfl) (fun _ _ _ h => h) (yif_load rfl 24 (.tmp 3) rfl _ _ rfl fun w h => h.1.load) hS ?_
  try simp only [Act.put, List.setIfInBounds_toArray, List.set_cons_zero, List.set_cons_succ]
  refine wpAnyH_take (oi := ⟨_, _, _, _, _, _⟩) (i := 4) (v := pw ah1 al1) rfl (by kernel_rfl) (by kernel_rfl) (by kernel_rfl) (fun _ _ _ h => h) (yif_load rfl 24 (.tmp 4) rfl _ _ rfl fun w h => h.2.load) hS ?_
  try simp only [Act.put, List.setIfInBounds_toArray, List.set_cons_zero, List.set_cons_succ]
  refine wpAnyH_all (rs := [2]) (by kernel_rfl) (by simp) fun i hi => ?_
  obtain rfl : i = 2 := by simpa using hi
  refine op_call (om := ⟨_, _, _, _, _, _⟩) (fn := 11) (args := #[pw ah0 al0, pw ah1 al1]) (R := fun u w' => GivesW x0 ((ah0 * 18446744073709551616 + al0 + (ah1 * 18446744073709551616 + al1)) % 340282366920938463463374607431768211456) (.returned u) w') rfl rfl (by go_simp)
    ((add_any _ _ _ _ hh0 hl0 hh1 hl1 x0).mono fun e w' h => h.call) _ _ rfl rfl ?_
  rintro u x1 hu
  obtain ⟨f, g, rfl, hf, hg, ef, bb⟩ := hu.open
  have hS : PB x1 w.heap.size ah0 al0 ∧ PB x1 (w.heap.size + 1) ah1 al1 := ⟨hS.1.below bb hS.1.lt, hS.2.below bb hS.2.lt⟩
  replace b0 := b0.trans (bb.mono b0.size)
  refine ⟨hS, ?_⟩
  try simp only [Act.put, List.setIfInBounds_toArray, List.set_cons_zero, List.set_cons_succ]
  refine wpAnyH_all (rs := [5]) (by kernel_rfl) (by simp) fun i hi => ?_
  obtain rfl : i = 5 := by simpa using hi
  refine op_call (om := ⟨_, _, _, _, _, _⟩) (fn := 12) (args := #[pw ah0 al0, pw ah1 al1]) (R := fun u w' => GivesW x1 ((ah0 * 18446744073709551616 + al0 + (ah1 * 18446744073709551616 + al1)) % 340282366920938463463374607431768211456) (.returned u) w') rfl rfl (by go_simp)
    ((radd_any _ _ _ _ hh0 hl0 hh1 hl1 x1).mono fun e w' h => h.call) _ _ rfl rfl ?_
  rintro u x2 hu
  obtain ⟨f2, g2, rfl, hf2, hg2, ef2, bb⟩ := hu.open
  have hS : PB x2 w.heap.size ah0 al0 ∧ PB x2 (w.heap.size + 1) ah1 al1 := ⟨hS.1.below bb hS.1.lt, hS.2.below bb hS.2.lt⟩
  replace b0 := b0.trans (bb.mono b0.size)
  obtain ⟨rfl, rfl⟩ := uniqW hf hg hf2 hg2 (ef.trans ef2.symm)
  refine ⟨hS, ?_⟩
  try simp only [Act.put, List.setIfInBounds_toArray, List.set_cons_zero, List.set_cons_succ]
  refine wpAnyH_take (oi := ⟨_, _, _, _, _, _⟩) (i := 6) (v := .bool true) rfl (by kernel_rfl) (by kernel_rfl) (by kernel_rfl) (fun _ _ _ h => h) (Or.inl ⟨by rfl, fun _ _ => ex_bin_agg .eql 24 24 (.tmp 11) (.tmp 14) rfl _ _ _ rfl rfl guardW (eqlT _ _ _)⟩) hS ?_
  try simp only [Act.put, List.setIfInBounds_toArray, List.set_cons_zero, List.set_cons_succ]
  refine wpAnyH_take (oi := ⟨_, _, _, _, _, _⟩) (i := 7) (v := .bool true) rfl (by kernel_rfl) (by kernel_rfl) (by kernel_rfl) (fun _ _ _ h => h) (Or.inl ⟨by rfl, fun _ _ => rfl⟩) hS ?_
  try simp only [Act.put, List.setIfInBounds_toArray, List.set_cons_zero, List.set_cons_succ]
  refine wpAnyH_take (oi := ⟨_, _, _, _, _, _⟩) (i := 8) (v := pw ah0 al0) rfl (by kernel_rfl) (by kernel_rfl) (by kernel_rfl) (fun _ _ _ h => h) (yif_load rfl 24 (.tmp 3) rfl _ _ rfl fun w h => h.1.load) hS ?_
  try simp only [Act.put, List.setIfInBounds_toArray, List.set_cons_zero, List.set_cons_succ]
  refine wpAnyH_take (oi := ⟨_, _, _, _, _, _⟩) (i := 10) (v := pw ah0 al0) rfl (by kernel_rfl) (by kernel_rfl) (by kernel_rfl) (fun _ _ _ h => h) (yif_load rfl 24 (.tmp 3) rfl _ _ rfl fun w h => h.1.load) hS ?_
  try simp only [Act.put, List.setIfInBounds_toArray, List.set_cons_zero, List.set_cons_succ]
  refine wpAnyH_all (rs := [9]) (by kernel_rfl) (by simp) fun i hi => ?_
  obtain rfl : i = 9 := by simpa using hi
  refine op_call (om := ⟨_, _, _, _, _, _⟩) (fn := 13) (args := #[pw ah0 al0]) (R := fun u w' => GivesW x2 (-(ah0 * 18446744073709551616 + al0) % 340282366920938463463374607431768211456) (.returned u) w') rfl rfl (by go_simp)
    ((neg_any _ _ hh0 hl0 x2).mono fun e w' h => h.call) _ _ rfl rfl ?_
  rintro u x3 hu
  obtain ⟨p, q, rfl, hp, hq, ep, bb⟩ := hu.open
  have hS : PB x3 w.heap.size ah0 al0 ∧ PB x3 (w.heap.size + 1) ah1 al1 := ⟨hS.1.below bb hS.1.lt, hS.2.below bb hS.2.lt⟩
  replace b0 := b0.trans (bb.mono b0.size)
  refine ⟨hS, ?_⟩
  try simp only [Act.put, List.setIfInBounds_toArray, List.set_cons_zero, List.set_cons_succ]
  refine wpAnyH_all (rs := [11]) (by kernel_rfl) (by simp) fun i hi => ?_
  obtain rfl : i = 11 := by simpa using hi
  refine op_call (om := ⟨_, _, _, _, _, _⟩) (fn := 14) (args := #[pw ah0 al0]) (R := fun u w' => GivesW x3 (-(ah0 * 18446744073709551616 + al0) % 340282366920938463463374607431768211456) (.returned u) w') rfl rfl (by go_simp)
    ((rneg_any _ _ hh0 hl0 x3).mono fun e w' h => h.call) _ _ rfl rfl ?_
  rintro u x4 hu
  obtain ⟨p2, q2, rfl, hp2, hq2, ep2, bb⟩ := hu.open
  have hS : PB x4 w.heap.size ah0 al0 ∧ PB x4 (w.heap.size + 1) ah1 al1 := ⟨hS.1.below bb hS.1.lt, hS.2.below bb hS.2.lt⟩
  replace b0 := b0.trans (bb.mono b0.size)
  obtain ⟨rfl, rfl⟩ := uniqW hp hq hp2 hq2 (ep.trans ep2.symm)
  refine ⟨hS, ?_⟩
  try simp only [Act.put, List.setIfInBounds_toArray, List.set_cons_zero, List.set_cons_succ]
  refine wpAnyH_take (oi := ⟨_, _, _, _, _, _⟩) (i := 12) (v := .bool true) rfl (by kernel_rfl) (by kernel_rfl) (by kernel_rfl) (fun _ _ _ h => h) (Or.inl ⟨by rfl, fun _ _ => ex_bin_agg .eql 24 24 (.tmp 18) (.tmp 20) rfl _ _ _ rfl rfl guardW (eqlT _ _ _)⟩) hS ?_
  try simp only [Act.put, List.setIfInBounds_toArray, List.set_cons_zero, List.set_cons_succ]
  refine wpAnyH_take (oi := ⟨_, _, _, _, _, _⟩) (i := 13) (v := .bool true) rfl (by kernel_rfl) (by kernel_rfl) (by kernel_rfl) (fun _ _ _ h => h) (Or.inl ⟨by rfl, fun _ _ => by go_simp⟩) hS ?_
  try simp only [Act.put, List.setIfInBounds_toArray, List.set_cons_zero, List.set_cons_succ]
  refine wpAnyH_take (oi := ⟨_, _, _, _, _, _⟩) (i := 14) (v := .bool true) rfl (by kernel_rfl) (by kernel_rfl) (by kernel_rfl) (fun _ _ _ h => h) (Or.inl ⟨by rfl, fun _ _ => rfl⟩) hS ?_
  try simp only [Act.put, List.setIfInBounds_toArray, List.set_cons_zero, List.set_cons_succ]
  refine wpAnyH_take (oi := ⟨_, _, _, _, _, _⟩) (i := 15) (v := .int .i64 a2) rfl (by kernel_rfl) (by kernel_rfl) (by kernel_rfl) (fun _ _ _ h => h) (Or.inl ⟨by rfl, fun _ _ => rfl⟩) hS ?_
  try simp only [Act.put, List.setIfInBounds_toArray, List.set_cons_zero, List.set_cons_succ]
  refine wpAnyH_take (oi := ⟨_, _, _, _, _, _⟩) (i := 17) (v := .int .i64 a2) rfl (by kernel_rfl) (by kernel_rfl) (by kernel_rfl) (fun _ _ _ h => h) (Or.inl ⟨by rfl, fun _ _ => rfl⟩) hS ?_
  try simp only [Act.put, List.setIfInBounds_toArray, List.set_cons_zero, List.set_cons_succ]
  refine wpAnyH_all (rs := [16]) (by kernel_rfl) (by simp) fun i hi => ?_
  obtain rfl : i = 16 := by simpa using hi
  refine op_call (om := ⟨_, _, _, _, _, _⟩) (fn := 15) (args := #[.int .i64 a2]) (R := fun u w' => GivesW x4 (a2 % 340282366920938463463374607431768211456) (.returned u) w') rfl rfl (by go_simp)
    ((of_any a2 ha2.1 ha2.2 x4).mono fun e w' h => h.call) _ _ rfl rfl ?_
  rintro u x5 hu
  obtain ⟨r, s, rfl, hr, hs, er, bb⟩ := hu.open
  have hS : PB x5 w.heap.size ah0 al0 ∧ PB x5 (w.heap.size + 1) ah1 al1 := ⟨hS.1.below bb hS.1.lt, hS.2.below bb hS.2.lt⟩
  replace b0 := b0.trans (bb.mono b0.size)
  refine ⟨hS, ?_⟩
  try simp only [Act.put, List.setIfInBounds_toArray, List.set_cons_zero, List.set_cons_succ]
  refine wpAnyH_all (rs := [18]) (by kernel_rfl) (by simp) fun i hi => ?_
  obtain rfl : i = 18 := by simpa using hi
  refine op_call (om := ⟨_, _, _, _, _, _⟩) (fn := 16) (args := #[.int .i64 a2]) (R := fun u w' => GivesW x5 (a2 % 340282366920938463463374607431768211456) (.returned u) w') rfl rfl (by go_simp)
    ((rof_any a2 ha2.1 ha2.2 x5).mono fun e w' h => h.call) _ _ rfl rfl ?_
  rintro u x6 hu
  obtain ⟨r2, s2, rfl, hr2, hs2, er2, bb⟩ := hu.open
  have hS : PB x6 w.heap.size ah0 al0 ∧ PB x6 (w.heap.size + 1) ah1 al1 := ⟨hS.1.below bb hS.1.lt, hS.2.below bb hS.2.lt⟩
  replace b0 := b0.trans (bb.mono b0.size)
  obtain ⟨rfl, rfl⟩ := uniqW hr hs hr2 hs2 (er.trans er2.symm)
  refine ⟨hS, ?_⟩
  try simp only [Act.put, List.setIfInBounds_toArray, List.set_cons_zero, List.set_cons_succ]
  refine wpAnyH_take (oi := ⟨_, _, _, _, _, _⟩) (i := 19) (v := .bool true) rfl (by kernel_rfl) (by kernel_rfl) (by kernel_rfl) (fun _ _ _ h => h) (Or.inl ⟨by rfl, fun _ _ => ex_bin_agg .eql 24 24 (.tmp 25) (.tmp 27) rfl _ _ _ rfl rfl guardW (eqlT _ _ _)⟩) hS ?_
  try simp only [Act.put, List.setIfInBounds_toArray, List.set_cons_zero, List.set_cons_succ]
  refine wpAnyH_take (oi := ⟨_, _, _, _, _, _⟩) (i := 20) (v := .bool true) rfl (by kernel_rfl) (by kernel_rfl) (by kernel_rfl) (fun _ _ _ h => h) (Or.inl ⟨by rfl, fun _ _ => by go_simp⟩) hS ?_
  try simp only [Act.put, List.setIfInBounds_toArray, List.set_cons_zero, List.set_cons_succ]
  refine wpAnyH_take (oi := ⟨_, _, _, _, _, _⟩) (i := 21) (v := .bool true) rfl (by kernel_rfl) (by kernel_rfl) (by kernel_rfl) (fun _ _ _ h => h) (Or.inl ⟨by rfl, fun _ _ => rfl⟩) hS ?_
  try simp only [Act.put, List.setIfInBounds_toArray, List.set_cons_zero, List.set_cons_succ]
  refine wpAnyH_done (by kernel_rfl) ?_ _
  try simp only [Act.put, List.setIfInBounds_toArray, List.set_cons_zero, List.set_cons_succ]
  clear hS
  go_wp2_with fail
  go_ret
  exact ⟨rfl, b0⟩

set_option maxRecDepth 100000 in
theorem lifted (os : Os) (started : os.Started) (H : Type) (enc : TypeId × Value → H) :
    ReturnsInHanded {} Try.checked os 3 .any (Rows.wideAddsSpec.pre6 enc Try.prog Try.f3 Rows.wideAddsRow.domain false) (Rows.wideAddsSpec.post enc Try.prog Try.f3 false true false false) := by
  refine returnsInHanded_of_change_sized (C := Try.checked) own started (by kernel_rfl) Try.func3
    (ChangeSpec.witness6 (enc := enc) (C := Try.checked) false ⟨#[], #[.agg #[.int .u64 0, .int .u64 0], .agg #[.int .u64 0, .int .u64 0], .int .i64 0], []⟩ 8 (by kernel_rfl) (by kernel_rfl) (by kernel_rfl) (by kernel_rfl)) ?_
  intro W base args ds gs before hval0 hW _ hsz0 _
  have hsz : (DataW.weightsEach Try.prog (Try.f3.params.toList ++ Rows.wideAddsSpec.plain.varTypes Try.prog) (ds ++ gs)).all (· ≤ reachBytes) = true := hsz0
  clear hsz0
  have hval : ∀ (j : Nat) t v, Try.f3.params[j]? = some t → args[j]? = some v → Value.okWide Try.prog W .any base t v := hval0
  have hW' := hW
  obtain ⟨p, q, hA0, hV, rfl, _, _⟩ := hW
  have hA : DataW.TrodAll enc Try.prog W 0 (fun _ => true) true Try.f3.params.toList args.toList ds p := hA0
  rw [Try.params3] at hA hval hsz
  obtain ⟨v0, vs0, d0, ds0, p0, q0, hargs, rfl, rfl, h0, r0⟩ := trodAll_cons hA
  obtain ⟨v1, vs1, d1, ds1, p1, q1, rfl, rfl, rfl, h1, r1⟩ := trodAll_cons r0
  obtain ⟨v2, vs2, d2, ds2, p2, q2, rfl, rfl, rfl, h2, r2⟩ := trodAll_cons r1
  obtain ⟨rfl, rfl, rfl⟩ := trodAll_nil r2
  obtain rfl : args = #[v0, v1, v2] := by cases args; simp_all
  obtain ⟨rfl, rfl⟩ := trodVars_none hV
  have k0 := h0
  have lt0 : ∀ x ∈ p0, x.block < W.heap.size := by obtain ⟨m, hm⟩ := k0; exact DataW.trod_lt m _ _ _ hm
  obtain ⟨ah0, al0, rfl, hh0, hl0⟩ := wide_in (hval 0 24 v0 rfl rfl) h0
  have k1 := h1
  have lt1 : ∀ x ∈ p1, x.block < W.heap.size := by obtain ⟨m, hm⟩ := k1; exact DataW.trod_lt m _ _ _ hm
  obtain ⟨ah1, al1, rfl, hh1, hl1⟩ := wide_in (hval 1 24 v1 rfl rfl) h1
  obtain ⟨a2, rfl, rfl, rfl, w2⟩ := open_int Try.underlying2 (hval 2 2 v2 rfl rfl) h2
  clear hA0 hval0
  refine (walk ah0 al0 ah1 al1 a2 W hh0 hl0 hh1 hl1 w2).mono fun e W' ⟨he, bel⟩ => ?_
  subst he
  exact ⟨_, rfl, _, _, _, [], _, [], hW', trodAll_mk1 (shut_bool Try.underlying4 _), (trodAll_cons_mk (Below.trod laidOut (by kernel_rfl) (of_decide_eq_true (by kernel_rfl)) k0 bel lt0) (trodAll_cons_mk (Below.trod laidOut (by kernel_rfl) (of_decide_eq_true (by kernel_rfl)) k1 bel lt1) (trodAll_cons_mk (shut_int Try.underlying2 w2) trodAll_mk0))), rfl, bel.frame _, fun h => by cases h⟩

theorem proved : Rows.WideAddsSaid :=
  OpenClaim.holds_of_wide 3 Try.f3 rfl rfl rfl rfl rfl rfl rfl ⟨rfl, rfl, rfl, rfl, rfl⟩ rfl rfl rfl rfl rfl (by kernel_rfl) Try.func3 (by kernel_rfl)
    (of_decide_eq_true (by kernel_rfl)) (by unfold Func.isWrapper; first | (rw [if_pos (by decide +kernel)]; kernel_rfl) | (rw [if_neg (by decide +kernel)]; exact ⟨rfl, rfl⟩))
    (fun os started H enc _ => lifted os started H enc)
#print axioms proved
end Go.Proofs.Ytipolhocplidlaa.wideAdds
