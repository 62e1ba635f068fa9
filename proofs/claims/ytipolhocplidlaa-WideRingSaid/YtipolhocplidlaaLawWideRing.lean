/-
  LawWideRing
-/
import Derived.Test.YtipolhocplidlaaGA
import Derived.ChangeOld
import Derived.Below
import Derived.Deep.QuietTactic
import Derived.BigQuiet
import Derived.WalkSmall
import Derived.Test.YtipolhocplidlaaWdAwake
namespace Go.Proofs.Ytipolhocplidlaa.wideRing
open Go.ChangeShapes Go.WideShapes Go.ChangeAt Go.RowKit Wd
set_option linter.unusedVariables false

theorem own : ownKnob Try.prog.godebug = none := by kernel_rfl
theorem laidOut : laidOutB Try.prog = true := by kernel_rfl

set_option maxRecDepth 100000 in
set_option maxHeartbeats 1000000 in
theorem walk (a0 : Int) (a1 : Int) (a2 : Int) (w : World) (w0 : (Lit.int .i64 a0).wf = true) (w1 : (Lit.int .i64 a1).wf = true) (w2 : (Lit.int .i64 a2).wf = true) :
    Calls Try.prog 9 #[.int .i64 a0, .int .i64 a1, .int .i64 a2] w fun e w' => e = .returned (.bool true) ∧ Below w.heap.size w w' := by
  have ha0 := i64r_of w0
  have ha1 := i64r_of w1
  have ha2 := i64r_of w2
  go_enter Try.func9, Try.ntmps9
  go_wp2_with fail
  refine (awake_any _).mono ?_
  rintro e wA ⟨rfl, b0⟩
  by_cases h1 : 2305843009213693952 < a0
  · go_wp2_with fail
    go_ret
    exact ⟨rfl, b0⟩
  have d1 : decide (2305843009213693952 < a0) = false := by simp; omega
  by_cases h2 : a0 < -2305843009213693952
  · go_wp2_with fail
    go_ret
    exact ⟨rfl, b0⟩
  have d2 : decide (a0 < -2305843009213693952) = false := by simp; omega
  by_cases h3 : 2305843009213693952 < a1
  · go_wp2_with fail
    go_ret
    exact ⟨rfl, b0⟩
  have d3 : decide (2305843009213693952 < a1) = false := by simp; omega
  by_cases h4 : a1 < -2305843009213693952
  · go_wp2_with fail
    go_ret
    exact ⟨rfl, b0⟩
  have d4 : decide (a1 < -2305843009213693952) = false := by simp; omega
  have hs : i64r (a0 + a1) := by unfold i64r; omega
  have hwr : IntKind.i64.wrap (a0 + a1) = a0 + a1 := IntWalk.i64_in _ ⟨hs.1, by have := hs.2; omega⟩
  have MU := Lib.hid (mul_any a0 a2 ha0 ha2)
  go_wp2_with fail
  refine (MU.out _).mono ?_
  rintro e wB ⟨x, y, rfl, hx, hy, exy, bb⟩
  have p0 : PB (wB.alloc (.cells #[.int .u64 x, .int .u64 y] 24)) wB.heap.size x y := PB.new _ _ _
  replace b0 := (b0.trans (bb.mono b0.size)).alloc (by have := b0.size; have := bb.size; omega) (.cells #[.int .u64 x, .int .u64 y] 24)
  clear bb MU
  go_wp2_with fail
  refine wp_region_held (S := fun V => PB V wB.heap.size x y) (by kernel_rfl) ?_
  change wpAnyH _ _ _ _ _ _ _ _ (wB.alloc (.cells #[.int .u64 x, .int .u64 y] 24)).drew
  replace b0 := b0.drew
  have hS : PB (wB.alloc (.cells #[.int .u64 x, .int .u64 y] 24)).drew wB.heap.size x y := p0
  clear p0
  generalize (wB.alloc (.cells #[.int .u64 x, .int .u64 y] 24)).drew = x0 at *
  refine wpAnyH_take (oi := ⟨_, _, _, _, _, _⟩) (i := 0) (v := .int .i64 a0) rfl (by kernel_rfl) (by kernel_rfl) (by kernel_rfl) (fun _ _ _ h => h) (Or.inl ⟨by rfl, fun _ _ => rfl⟩) hS ?_
  try simp only [Act.put, List.setIfInBounds_toArray, List.set_cons_zero, List.set_cons_succ]
  refine wpAnyH_take (oi := ⟨_, _, _, _, _, _⟩) (i := 1) (v := .int .i64 a1) rfl (by kernel_rfl) (by kernel_rfl) (by kernel_rfl) (fun _ _ _ h => h) (Or.inl ⟨by rfl, fun _ _ => rfl⟩) hS ?_
  try simp only [Act.put, List.setIfInBounds_toArray, List.set_cons_zero, List.set_cons_succ]
  refine wpAnyH_take (oi := ⟨_, _, _, _, _, _⟩) (i := 2) (v := .int .i64 (a0 + a1)) rfl (by kernel_rfl) (by kernel_rfl) (by kernel_rfl) (fun _ _ _ h => h) (Or.inl ⟨by rfl, fun _ _ => by go_simp⟩) hS ?_
  try simp only [Act.put, List.setIfInBounds_toArray, List.set_cons_zero, List.set_cons_succ]
  refine wpAnyH_take (oi := ⟨_, _, _, _, _, _⟩) (i := 3) (v := .int .i64 a2) rfl (by kernel_rfl) (by kernel_rfl) (by kernel_rfl) (fun _ _ _ h => h) (Or.inl ⟨by rfl, fun _ _ => rfl⟩) hS ?_
  try simp only [Act.put, List.setIfInBounds_toArray, List.set_cons_zero, List.set_cons_succ]
  refine wpAnyH_take (oi := ⟨_, _, _, _, _, _⟩) (i := 5) (v := pw x y) rfl (by kernel_rfl) (by kernel_rfl) (by kernel_rfl) (fun _ _ _ h => h) (yif_load rfl 24 (.tmp 7) rfl _ _ rfl fun w h => h.load) hS ?_
  try simp only [Act.put, List.setIfInBounds_toArray, List.set_cons_zero, List.set_cons_succ]
  refine wpAnyH_take (oi := ⟨_, _, _, _, _, _⟩) (i := 6) (v := .int .i64 a1) rfl (by kernel_rfl) (by kernel_rfl) (by kernel_rfl) (fun _ _ _ h => h) (Or.inl ⟨by rfl, fun _ _ => rfl⟩) hS ?_
  try simp only [Act.put, List.setIfInBounds_toArray, List.set_cons_zero, List.set_cons_succ]
  refine wpAnyH_take (oi := ⟨_, _, _, _, _, _⟩) (i := 7) (v := .int .i64 a2) rfl (by kernel_rfl) (by kernel_rfl) (by kernel_rfl) (fun _ _ _ h => h) (Or.inl ⟨by rfl, fun _ _ => rfl⟩) hS ?_
  try simp only [Act.put, List.setIfInBounds_toArray, List.set_cons_zero, List.set_cons_succ]
  refine wpAnyH_all (rs := [4]) (by kernel_rfl) (by simp) fun i hi => ?_
  obtain rfl : i = 4 := by simpa using hi
  refine op_call (om := ⟨_, _, _, _, _, _⟩) (fn := 17) (args := #[.int .i64 (a0 + a1), .int .i64 a2]) (R := fun u w' => GivesW x0 (mulV (a0 + a1) a2) (.returned u) w') rfl rfl (by go_simp)
    ((mul_any (a0 + a1) a2 hs ha2 x0).mono fun e w' h => h.call) _ _ rfl rfl ?_
  rintro u x1 hu
  obtain ⟨f, g, rfl, hf, hg, ef, bb⟩ := hu.open
  have hS : PB x1 wB.heap.size x y := hS.below bb hS.lt
  replace b0 := b0.trans (bb.mono b0.size)
  refine ⟨hS, ?_⟩
  try simp only [Act.put, List.setIfInBounds_toArray, List.set_cons_zero, List.set_cons_succ]
  refine wpAnyH_all (rs := [8]) (by kernel_rfl) (by simp) fun i hi => ?_
  obtain rfl : i = 8 := by simpa using hi
  refine op_call (om := ⟨_, _, _, _, _, _⟩) (fn := 17) (args := #[.int .i64 a1, .int .i64 a2]) (R := fun u w' => GivesW x1 (mulV a1 a2) (.returned u) w') rfl rfl (by go_simp)
    ((mul_any a1 a2 ha1 ha2 x1).mono fun e w' h => h.call) _ _ rfl rfl ?_
  rintro u x2 hu
  obtain ⟨p, q, rfl, hp, hq, ep, bb⟩ := hu.open
  have hS : PB x2 wB.heap.size x y := hS.below bb hS.lt
  replace b0 := b0.trans (bb.mono b0.size)
  refine ⟨hS, ?_⟩
  try simp only [Act.put, List.setIfInBounds_toArray, List.set_cons_zero, List.set_cons_succ]
  refine wpAnyH_all (rs := [9]) (by kernel_rfl) (by simp) fun i hi => ?_
  obtain rfl : i = 9 := by simpa using hi
  refine op_call (om := ⟨_, _, _, _, _, _⟩) (fn := 11) (args := #[pw x y, pw p q]) (R := fun u w' => GivesW x2 ((x * 18446744073709551616 + y + (p * 18446744073709551616 + q)) % 340282366920938463463374607431768211456) (.returned u) w') rfl rfl (by go_simp)
    ((add_any x y p q hx hy hp hq x2).mono fun e w' h => h.call) _ _ rfl rfl ?_
  rintro u x3 hu
  obtain ⟨r, s, rfl, hr, hs', er, bb⟩ := hu.open
  have hS : PB x3 wB.heap.size x y := hS.below bb hS.lt
  replace b0 := b0.trans (bb.mono b0.size)
  obtain ⟨rfl, rfl⟩ := uniqW hf hg hr hs' (by rw [ef, er, ep, exy]; exact mul_part a0 a1 a2 ha0 ha1 ha2 hs)
  refine ⟨hS, ?_⟩
  try simp only [Act.put, List.setIfInBounds_toArray, List.set_cons_zero, List.set_cons_succ]
  refine wpAnyH_take (oi := ⟨_, _, _, _, _, _⟩) (i := 10) (v := .bool true) rfl (by kernel_rfl) (by kernel_rfl) (by kernel_rfl) (fun _ _ _ h => h) (Or.inl ⟨by rfl, fun _ _ => ex_bin_agg .eql 24 24 (.tmp 31) (.tmp 36) rfl _ _ _ rfl rfl guardW (eqlT _ _ _)⟩) hS ?_
  try simp only [Act.put, List.setIfInBounds_toArray, List.set_cons_zero, List.set_cons_succ]
  refine wpAnyH_take (oi := ⟨_, _, _, _, _, _⟩) (i := 11) (v := .bool true) rfl (by kernel_rfl) (by kernel_rfl) (by kernel_rfl) (fun _ _ _ h => h) (Or.inl ⟨by rfl, fun _ _ => rfl⟩) hS ?_
  try simp only [Act.put, List.setIfInBounds_toArray, List.set_cons_zero, List.set_cons_succ]
  refine wpAnyH_take (oi := ⟨_, _, _, _, _, _⟩) (i := 12) (v := pw x y) rfl (by kernel_rfl) (by kernel_rfl) (by kernel_rfl) (fun _ _ _ h => h) (yif_load rfl 24 (.tmp 7) rfl _ _ rfl fun w h => h.load) hS ?_
  try simp only [Act.put, List.setIfInBounds_toArray, List.set_cons_zero, List.set_cons_succ]
  refine wpAnyH_take (oi := ⟨_, _, _, _, _, _⟩) (i := 13) (v := .int .i64 a2) rfl (by kernel_rfl) (by kernel_rfl) (by kernel_rfl) (fun _ _ _ h => h) (Or.inl ⟨by rfl, fun _ _ => rfl⟩) hS ?_
  try simp only [Act.put, List.setIfInBounds_toArray, List.set_cons_zero, List.set_cons_succ]
  refine wpAnyH_take (oi := ⟨_, _, _, _, _, _⟩) (i := 14) (v := .int .i64 a0) rfl (by kernel_rfl) (by kernel_rfl) (by kernel_rfl) (fun _ _ _ h => h) (Or.inl ⟨by rfl, fun _ _ => rfl⟩) hS ?_
  try simp only [Act.put, List.setIfInBounds_toArray, List.set_cons_zero, List.set_cons_succ]
  refine wpAnyH_all (rs := [15]) (by kernel_rfl) (by simp) fun i hi => ?_
  obtain rfl : i = 15 := by simpa using hi
  refine op_call (om := ⟨_, _, _, _, _, _⟩) (fn := 17) (args := #[.int .i64 a2, .int .i64 a0]) (R := fun u w' => GivesW x3 (mulV a2 a0) (.returned u) w') rfl rfl (by go_simp)
    ((mul_any a2 a0 ha2 ha0 x3).mono fun e w' h => h.call) _ _ rfl rfl ?_
  rintro u x4 hu
  obtain ⟨k, l, rfl, hk, hl, ek, bb⟩ := hu.open
  have hS : PB x4 wB.heap.size x y := hS.below bb hS.lt
  replace b0 := b0.trans (bb.mono b0.size)
  obtain ⟨rfl, rfl⟩ := uniqW hx hy hk hl (by rw [ek, exy]; exact mul_turn a0 a2)
  refine ⟨hS, ?_⟩
  try simp only [Act.put, List.setIfInBounds_toArray, List.set_cons_zero, List.set_cons_succ]
  refine wpAnyH_take (oi := ⟨_, _, _, _, _, _⟩) (i := 16) (v := .bool true) rfl (by kernel_rfl) (by kernel_rfl) (by kernel_rfl) (fun _ _ _ h => h) (Or.inl ⟨by rfl, fun _ _ => ex_bin_agg .eql 24 24 (.tmp 39) (.tmp 42) rfl _ _ _ rfl rfl guardW (eqlT _ _ _)⟩) hS ?_
  try simp only [Act.put, List.setIfInBounds_toArray, List.set_cons_zero, List.set_cons_succ]
  refine wpAnyH_take (oi := ⟨_, _, _, _, _, _⟩) (i := 17) (v := .bool true) rfl (by kernel_rfl) (by kernel_rfl) (by kernel_rfl) (fun _ _ _ h => h) (Or.inl ⟨by rfl, fun _ _ => by go_simp⟩) hS ?_
  try simp only [Act.put, List.setIfInBounds_toArray, List.set_cons_zero, List.set_cons_succ]
  refine wpAnyH_take (oi := ⟨_, _, _, _, _, _⟩) (i := 18) (v := .bool true) rfl (by kernel_rfl) (by kernel_rfl) (by kernel_rfl) (fun _ _ _ h => h) (Or.inl ⟨by rfl, fun _ _ => rfl⟩) hS ?_
  try simp only [Act.put, List.setIfInBounds_toArray, List.set_cons_zero, List.set_cons_succ]
  refine wpAnyH_take (oi := ⟨_, _, _, _, _, _⟩) (i := 19) (v := pw x y) rfl (by kernel_rfl) (by kernel_rfl) (by kernel_rfl) (fun _ _ _ h => h) (yif_load rfl 24 (.tmp 7) rfl _ _ rfl fun w h => h.load) hS ?_
  try simp only [Act.put, List.setIfInBounds_toArray, List.set_cons_zero, List.set_cons_succ]
  refine wpAnyH_take (oi := ⟨_, _, _, _, _, _⟩) (i := 20) (v := pw x y) rfl (by kernel_rfl) (by kernel_rfl) (by kernel_rfl) (fun _ _ _ h => h) (yif_load rfl 24 (.tmp 7) rfl _ _ rfl fun w h => h.load) hS ?_
  try simp only [Act.put, List.setIfInBounds_toArray, List.set_cons_zero, List.set_cons_succ]
  refine wpAnyH_take (oi := ⟨_, _, _, _, _, _⟩) (i := 23) (v := pw 0 0) rfl (by kernel_rfl) (by kernel_rfl) (by kernel_rfl) (fun _ _ _ h => h) (Or.inl ⟨by rfl, fun _ _ => by go_simp⟩) hS ?_
  try simp only [Act.put, List.setIfInBounds_toArray, List.set_cons_zero, List.set_cons_succ]
  refine wpAnyH_all (rs := [21]) (by kernel_rfl) (by simp) fun i hi => ?_
  obtain rfl : i = 21 := by simpa using hi
  refine op_call (om := ⟨_, _, _, _, _, _⟩) (fn := 13) (args := #[pw x y]) (R := fun u w' => GivesW x4 (-(x * 18446744073709551616 + y) % 340282366920938463463374607431768211456) (.returned u) w') rfl rfl (by go_simp)
    ((neg_any x y hx hy x4).mono fun e w' h => h.call) _ _ rfl rfl ?_
  rintro u x5 hu
  obtain ⟨t1, u1, rfl, ht1, hu1, et1, bb⟩ := hu.open
  have hS : PB x5 wB.heap.size x y := hS.below bb hS.lt
  replace b0 := b0.trans (bb.mono b0.size)
  refine ⟨hS, ?_⟩
  try simp only [Act.put, List.setIfInBounds_toArray, List.set_cons_zero, List.set_cons_succ]
  refine wpAnyH_all (rs := [22]) (by kernel_rfl) (by simp) fun i hi => ?_
  obtain rfl : i = 22 := by simpa using hi
  refine op_call (om := ⟨_, _, _, _, _, _⟩) (fn := 11) (args := #[pw x y, pw t1 u1]) (R := fun u w' => GivesW x5 ((x * 18446744073709551616 + y + (t1 * 18446744073709551616 + u1)) % 340282366920938463463374607431768211456) (.returned u) w') rfl rfl (by go_simp)
    ((add_any x y t1 u1 hx hy ht1 hu1 x5).mono fun e w' h => h.call) _ _ rfl rfl ?_
  rintro u x6 hu
  obtain ⟨c, d, rfl, hc, hd, ec, bb⟩ := hu.open
  have hS : PB x6 wB.heap.size x y := hS.below bb hS.lt
  replace b0 := b0.trans (bb.mono b0.size)
  obtain ⟨rfl, rfl⟩ := uniqW hc hd half0 half0 (by rw [ec, et1]; exact neg_none x y hx hy)
  refine ⟨hS, ?_⟩
  try simp only [Act.put, List.setIfInBounds_toArray, List.set_cons_zero, List.set_cons_succ]
  refine wpAnyH_take (oi := ⟨_, _, _, _, _, _⟩) (i := 24) (v := .bool true) rfl (by kernel_rfl) (by kernel_rfl) (by kernel_rfl) (fun _ _ _ h => h) (Or.inl ⟨by rfl, fun _ _ => ex_bin_agg .eql 24 24 (.tmp 49) (.tmp 50) rfl _ _ _ rfl rfl guardW (eqlT _ _ _)⟩) hS ?_
  try simp only [Act.put, List.setIfInBounds_toArray, List.set_cons_zero, List.set_cons_succ]
  refine wpAnyH_take (oi := ⟨_, _, _, _, _, _⟩) (i := 25) (v := .bool true) rfl (by kernel_rfl) (by kernel_rfl) (by kernel_rfl) (fun _ _ _ h => h) (Or.inl ⟨by rfl, fun _ _ => by go_simp⟩) hS ?_
  try simp only [Act.put, List.setIfInBounds_toArray, List.set_cons_zero, List.set_cons_succ]
  refine wpAnyH_take (oi := ⟨_, _, _, _, _, _⟩) (i := 26) (v := .bool true) rfl (by kernel_rfl) (by kernel_rfl) (by kernel_rfl) (fun _ _ _ h => h) (Or.inl ⟨by rfl, fun _ _ => rfl⟩) hS ?_
  try simp only [Act.put, List.setIfInBounds_toArray, List.set_cons_zero, List.set_cons_succ]
  refine wpAnyH_done (by kernel_rfl) ?_ _
  try simp only [Act.put, List.setIfInBounds_toArray, List.set_cons_zero, List.set_cons_succ]
  clear hS
  go_wp2_with fail
  go_ret
  exact ⟨rfl, b0⟩

set_option maxRecDepth 100000 in
theorem lifted (os : Os) (started : os.Started) (H : Type) (enc : TypeId × Value → H) :
    ReturnsInHanded {} Try.checked os 9 .any (Rows.wideRingSpec.pre6 enc Try.prog Try.f9 Rows.wideRingRow.domain false) (Rows.wideRingSpec.post enc Try.prog Try.f9 false true false false) := by
  refine returnsInHanded_of_change_sized (C := Try.checked) own started (by kernel_rfl) Try.func9
    (ChangeSpec.witness6 (enc := enc) (C := Try.checked) false ⟨#[], #[.int .i64 0, .int .i64 0, .int .i64 0], []⟩ 8 (by kernel_rfl) (by kernel_rfl) (by kernel_rfl) (by kernel_rfl)) ?_
  intro W base args ds gs before hval0 hW _ hsz0 _
  have hsz : (DataW.weightsEach Try.prog (Try.f9.params.toList ++ Rows.wideRingSpec.plain.varTypes Try.prog) (ds ++ gs)).all (· ≤ reachBytes) = true := hsz0
  clear hsz0
  have hval : ∀ (j : Nat) t v, Try.f9.params[j]? = some t → args[j]? = some v → Value.okWide Try.prog W .any base t v := hval0
  have hW' := hW
  obtain ⟨p, q, hA0, hV, rfl, _, _⟩ := hW
  have hA : DataW.TrodAll enc Try.prog W 0 (fun _ => true) true Try.f9.params.toList args.toList ds p := hA0
  rw [Try.params9] at hA hval hsz
  obtain ⟨v0, vs0, d0, ds0, p0, q0, hargs, rfl, rfl, h0, r0⟩ := trodAll_cons hA
  obtain ⟨v1, vs1, d1, ds1, p1, q1, rfl, rfl, rfl, h1, r1⟩ := trodAll_cons r0
  obtain ⟨v2, vs2, d2, ds2, p2, q2, rfl, rfl, rfl, h2, r2⟩ := trodAll_cons r1
  obtain ⟨rfl, rfl, rfl⟩ := trodAll_nil r2
  obtain rfl : args = #[v0, v1, v2] := by cases args; simp_all
  obtain ⟨rfl, rfl⟩ := trodVars_none hV
  obtain ⟨a0, rfl, rfl, rfl, w0⟩ := open_int Try.underlying2 (hval 0 2 v0 rfl rfl) h0
  obtain ⟨a1, rfl, rfl, rfl, w1⟩ := open_int Try.underlying2 (hval 1 2 v1 rfl rfl) h1
  obtain ⟨a2, rfl, rfl, rfl, w2⟩ := open_int Try.underlying2 (hval 2 2 v2 rfl rfl) h2
  clear hA0 hval0
  refine (walk a0 a1 a2 W w0 w1 w2).mono fun e W' ⟨he, bel⟩ => ?_
  subst he
  exact ⟨_, rfl, _, _, _, [], _, [], hW', trodAll_mk1 (shut_bool Try.underlying4 _), (trodAll_cons_mk (shut_int Try.underlying2 w0) (trodAll_cons_mk (shut_int Try.underlying2 w1) (trodAll_cons_mk (shut_int Try.underlying2 w2) trodAll_mk0))), rfl, bel.frame _, fun h => by cases h⟩

theorem proved : Rows.WideRingSaid :=
  OpenClaim.holds_of_wide 9 Try.f9 rfl rfl rfl rfl rfl rfl rfl ⟨rfl, rfl, rfl, rfl, rfl⟩ rfl rfl rfl rfl rfl (by kernel_rfl) Try.func9 (by kernel_rfl)
    (of_decide_eq_true (by kernel_rfl)) (by unfold Func.isWrapper; first | (rw [if_pos (by decide +kernel)]; kernel_rfl) | (rw [if_neg (by decide +kernel)]; exact ⟨rfl, rfl⟩))
    (fun os started H enc _ => lifted os started H enc)
#print axioms proved
end Go.Proofs.Ytipolhocplidlaa.wideRing
