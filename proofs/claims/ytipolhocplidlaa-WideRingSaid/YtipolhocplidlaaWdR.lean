/-
  WdR
-/
import Derived.Test.YtipolhocplidlaaWdC
namespace Go.Proofs.Ytipolhocplidlaa.Wd
set_option linter.unusedSimpArgs false
set_option linter.unusedVariables false
open Go.RowKit

/-- The document's divide, at numbers with their bounds. -/
def QI (w : World) (N d : Int) (e : Ending) (w' : World) : Prop := ∃ x y : Int, e = .returned (.tuple #[pw x y, .int .u64 (N % d)]) ∧ half x ∧ half y ∧ x * 18446744073709551616 + y = N / d ∧ Below w.heap.size w w'
theorem rdiv_any (a b d : Int) (ha : half a) (hb : half b) (hd : half d) (h0 : d ≠ 0) (w : World) :
    Calls Try.prog 39 #[pw a b, .int .u64 d] w (QI w (a * 18446744073709551616 + b) d) := by
  obtain ⟨x, rfl⟩ := Int.eq_ofNat_of_zero_le ha.1
  obtain ⟨y, rfl⟩ := Int.eq_ofNat_of_zero_le hb.1
  obtain ⟨z, rfl⟩ := Int.eq_ofNat_of_zero_le hd.1
  refine (rdivide_any x y z (by have := ha.2; omega) (by have := hb.2; omega) (by have := hd.2; omega) (by omega) w).mono fun e w' h => ?_
  obtain ⟨p, q, h1, h2, h3, h4, h5⟩ := h
  exact ⟨p, q, h1, h2, h3, h4, h5⟩
theorem top_iff {a b d x y : Int} (ha : half a) (hb : half b) (hd : half d) (h0 : d ≠ 0) (hx : half x) (hy : half y) (e : x * 18446744073709551616 + y = (a * 18446744073709551616 + b) / d) : (d ≤ a ↔ x ≠ 0) := by
  have h1 := big_iff (A := a * 18446744073709551616 + b) (D := d) ha hb rfl (by unfold half at *; omega)
  rw [h1, ← e]
  unfold half at *
  omega
set_option maxRecDepth 100000 in
set_option maxHeartbeats 800000 in
theorem rudiv_any (a b d : Int) (ha : half a) (hb : half b) (hd : half d) (w : World) :
    Calls Try.prog 22 #[pw a b, .int .u64 d] w (KO .u64 w (uR a b d) (uQ a b d) (uT a d)) := by
  have b0 := Below.al w (.cells #[.int .u64 a, .int .u64 b] 24)
  by_cases h0 : d = 0
  · have e1 : uT a d = -10 := by unfold uT; rw [if_pos h0]
    have e2 : uR a b d = 0 := by unfold uR; rw [e1]; rfl
    have e3 : uQ a b d = 0 := by unfold uQ; rw [e1]; rfl
    rw [e1, e2, e3]
    subst h0
    clear e1 e2 e3
    go_enter Try.func22, Try.ntmps22
    go_wp2_with fail
    go_ret3
    exact ⟨rfl, b0⟩
  · have h1 : (d == 0) = false := by simpa using h0
    have DV := Lib.hid (rdiv_any a b d ha hb hd h0)
    have TI := Lib.hid (fun x y (hx : half x) (hy : half y) e => top_iff (x := x) (y := y) ha hb hd h0 hx hy e)
    have H0 := Lib.hid h0
    clear h0
    go_enter Try.func22, Try.ntmps22
    go_wp2_with fail
    refine (DV.out _).mono ?_
    rintro e w1 ⟨x, y, rfl, hx, hy, exy, b1⟩
    have b2 := (b0.trans (b1.mono b0.size)).alloc (by have := b0.size; have := b1.size; omega) (.cells #[.int .u64 x, .int .u64 y] 24)
    have p2 : PB (w1.alloc (.cells #[.int .u64 x, .int .u64 y] 24)) w1.heap.size x y := PB.new _ _ _
    have ti := TI.out x y hx hy exy
    by_cases hx0 : x = 0
    · subst hx0
      have ht : uT a d = 0 := by
        unfold uT
        rw [if_neg H0.out, if_neg (fun h => ti.1 h rfl)]
      have hr : uR a b d = (a * 18446744073709551616 + b) % d := by unfold uR; rw [if_pos ht]
      have hq : uQ a b d = y := by unfold uQ; rw [if_pos ht, ← exy, Int.zero_mul, Int.zero_add]
      have HT := Lib.hid (And.intro ht (And.intro hr hq))
      clear ht hr hq ti exy b1 b0 DV TI H0
      generalize (a * 18446744073709551616 + b) % d = r at *
      have c1 := p2.c1
      clear p2
      go_wp2_with fail
      all_goals (go_quiet (fail); go_wp2_with fail; go_ret3; refine ⟨?_, below_drewN b2 _⟩; rw [HT.out.1, HT.out.2.1, HT.out.2.2]; rfl)
    · have ht : uT a d = -11 := by
        unfold uT
        rw [if_neg H0.out, if_pos (ti.2 hx0)]
      have hr : uR a b d = 0 := by unfold uR; rw [ht]; rfl
      have hq : uQ a b d = 0 := by unfold uQ; rw [ht]; rfl
      have HT := Lib.hid (And.intro ht (And.intro hr hq))
      have hx1 : (x != 0) = true := by simpa using hx0
      clear ht hr hq ti exy b1 b0 DV TI H0 p2
      go_wp2_with fail
      all_goals (go_ret3; refine ⟨?_, b2⟩; rw [HT.out.1, HT.out.2.1, HT.out.2.2]; rfl)
/-- Where signed stands. -/
structure SG (w wr : World) (gq gr : Nat) (q0 q1 r0 r1 : Int) : Prop where
  r4 : PB wr (w.heap.size + 1) 0 0
  r5 : PB wr (w.heap.size + 1 + 1) 0 0
  q : PB wr gq q0 q1
  r : PB wr gr r0 r1
  lq : w.heap.size + 3 ≤ gq
  lr : w.heap.size + 3 ≤ gr
  ne : gq ≠ gr
  bel : Below w.heap.size w wr
section
variable {w wr w' : World} {gq gr : Nat} {q0 q1 r0 r1 : Int}
theorem SG.below (h : SG w wr gq gr q0 q1 r0 r1) (k : Below wr.heap.size wr w') : SG w w' gq gr q0 q1 r0 r1 :=
  ⟨h.r4.below k h.r4.lt, h.r5.below k h.r5.lt, h.q.below k h.q.lt, h.r.below k h.r.lt, h.lq, h.lr, h.ne, h.bel.trans (k.mono h.bel.size)⟩
theorem SG.dr (h : SG w wr gq gr q0 q1 r0 r1) : SG w wr.drew gq gr q0 q1 r0 r1 := ⟨h.r4, h.r5, h.q, h.r, h.lq, h.lr, h.ne, h.bel.drew⟩
theorem SG.putQ (h : SG w wr gq gr q0 q1 r0 r1) (x y : Int) : SG w (wput wr gq x y) gq gr x y r0 r1 :=
  ⟨h.r4.puto (by have := h.lq; omega) x y, h.r5.puto (by have := h.lq; omega) x y, h.q.put x y, h.r.puto (Ne.symm h.ne) x y, h.lq, h.lr, h.ne, below_put h.bel (by have := h.lq; omega) x y⟩
theorem SG.putR (h : SG w wr gq gr q0 q1 r0 r1) (x y : Int) : SG w (wput wr gr x y) gq gr q0 q1 x y :=
  ⟨h.r4.puto (by have := h.lr; omega) x y, h.r5.puto (by have := h.lr; omega) x y, h.q.puto h.ne x y, h.r.put x y, h.lq, h.lr, h.ne, below_put h.bel (by have := h.lr; omega) x y⟩
end
/-- What signed and floor hand back. -/
def SO (w : World) (q r : Int) (e : Ending) (w' : World) : Prop := ∃ a b c d : Int, e = .returned (.tuple #[pw a b, pw c d]) ∧ half a ∧ half b ∧ half c ∧ half d ∧
  a * 18446744073709551616 + b = q % 340282366920938463463374607431768211456 ∧ c * 18446744073709551616 + d = r % 340282366920938463463374607431768211456 ∧ Below w.heap.size w w'
/-- Where it stands ahead of the division. -/
structure SP (w wr : World) (x0 x1 : Int) : Prop where
  r4 : PB wr (w.heap.size + 1) 0 0
  r5 : PB wr (w.heap.size + 1 + 1) 0 0
  x : PB wr (w.heap.size + 1 + 1 + 1) x0 x1
  bel : Below w.heap.size w wr
theorem SP.below {w wr w' : World} {x0 x1 : Int} (h : SP w wr x0 x1) (k : Below wr.heap.size wr w') : SP w w' x0 x1 :=
  ⟨h.r4.below k h.r4.lt, h.r5.below k h.r5.lt, h.x.below k h.x.lt, h.bel.trans (k.mono h.bel.size)⟩
theorem SP.dr {w wr : World} {x0 x1 : Int} (h : SP w wr x0 x1) : SP w wr.drew x0 x1 := ⟨h.r4, h.r5, h.x, h.bel.drew⟩
theorem SP.put {w wr : World} {x0 x1 : Int} (h : SP w wr x0 x1) (x y : Int) : SP w (wput wr (w.heap.size + 1 + 1 + 1) x y) x y :=
  ⟨h.r4.puto (by omega) x y, h.r5.puto (by omega) x y, h.x.put x y, below_put h.bel (by omega) x y⟩
theorem SP.start (w : World) (a b : Int) : SP w ((((w.alloc (.cells #[.int .u64 a, .int .u64 b] 24)).alloc (.cells #[.int .u64 0, .int .u64 0] 24)).alloc (.cells #[.int .u64 0, .int .u64 0] 24)).alloc (.cells #[.int .u64 a, .int .u64 b] 24)) a b :=
  ⟨PB.alloc (PB.alloc (PB.at_ _ (by simp only [World.size_alloc]) _ _) _) _, PB.alloc (PB.at_ _ (by simp only [World.size_alloc]) _ _) _, PB.at_ _ (by simp only [World.size_alloc]) _ _,
   (((Below.al _ _).alloc (by simp only [World.size_alloc]; omega) _).alloc (by simp only [World.size_alloc]; omega) _).alloc (by simp only [World.size_alloc]; omega) _⟩
theorem half0 : half 0 := by unfold half; decide
theorem mod_small {n : Int} (h : 0 ≤ n ∧ n < 340282366920938463463374607431768211456) : sgn false n % 340282366920938463463374607431768211456 = n := by unfold sgn; simp; omega
theorem low_small {n : Int} (h : half n) : sgn false n % 340282366920938463463374607431768211456 = 0 * 18446744073709551616 + n := by unfold sgn half at *; simp; omega
theorem mod_self {a b : Int} (ha : half a) (hb : half b) : sgn false (a * 18446744073709551616 + b) % 340282366920938463463374607431768211456 = a * 18446744073709551616 + b := by unfold sgn half at *; simp; omega
set_option maxRecDepth 100000 in
set_option maxHeartbeats 2000000 in
theorem signed_nn (a b d : Int) (ha : half a) (hb : half b) (hd : i64r d) (h0 : d ≠ 0) (hneg : negW a = false) (hsg : decide (d < 0) = false) (w : World) :
    Calls Try.prog 44 #[pw a b, .int .i64 d] w (SO w (tq a b d) (tr a b d)) := by
  have hsh : (a / 9223372036854775808 == 1) = false := by
    rw [← hneg]
    unfold negW half at *
    rw [Bool.eq_iff_iff]
    simp
    omega
  have RS := Lib.hid (rsize_any d hd.1 hd.2)
  have hAI : half (absI d) := by
    have := absI_le hd
    have := absI_pos h0
    unfold half
    omega
  have hA0 : absI d ≠ 0 := by have := absI_pos h0; omega
  have nn := absW_nn ha hb
  have NNQ := Lib.hid (show 0 ≤ absW a b / absI d ∧ absW a b / absI d < 340282366920938463463374607431768211456 from ⟨Int.ediv_nonneg nn.1 hAI.1, by have := Int.ediv_le_self (absI d) nn.1; omega⟩)
  have hrr : half (absW a b % absI d) := by
    have h1 := Int.emod_nonneg (absW a b) hA0
    have h2 := Int.emod_lt_of_pos (absW a b) (absI_pos h0)
    unfold half at *
    omega
  have HTQ := Lib.hid (show tq a b d = sgn false (absW a b / absI d) by unfold tq; rw [hneg, hsg]; rfl)
  have HTR := Lib.hid (show tr a b d = sgn false (absW a b % absI d) by unfold tr; rw [hneg])
  have NR := Lib.hid (fun r w hr => rneg_any 0 r half0 hr w)
  have NQ := Lib.hid (fun x y w hx hy => rneg_any x y hx hy w)
  have s0 := Lib.hid (SP.start w a b)
  have AW := Lib.hid (abs_sgn a b ha hb)
  have AB := Lib.hid (And.intro ha hb)
  clear hd nn
  have hd1 : ¬ d < 0 := by simpa using hsg
  have hd2 : decide (d < 0) = false := hsg
  rw [hneg] at AW
  clear hsg hneg
  go_enter Try.func44, Try.ntmps44
  obtain ⟨x0, hx0'⟩ : ∃ x0, x0 = a := ⟨_, rfl⟩
  obtain ⟨x1, hx1'⟩ : ∃ x1, x1 = b := ⟨_, rfl⟩
  have hx0 : half x0 := by rw [hx0']; exact ha
  have hx1 : half x1 := by rw [hx1']; exact hb
  have EX : Hid (x0 * 18446744073709551616 + x1 = absW a b) := Lib.hid (by
    rw [hx0', hx1', ← AW.out]
    exact (mod_self ha hb).symm)
  go_wp2_with fail
  have DV := Lib.hid (rdiv_any x0 x1 (absI d) hx0 hx1 hAI hA0)
  refine wp_region_held (S := fun V => PB V (w.heap.size + 1 + 1 + 1) x0 x1) (by kernel_rfl) ?_
  have s9 := s0.out.dr
  clear s0
  revert s9
  change SP w ((((w.alloc (.cells #[.int .u64 a, .int .u64 b] 24)).alloc (.cells #[.int .u64 0, .int .u64 0] 24)).alloc (.cells #[.int .u64 0, .int .u64 0] 24)).alloc (.cells #[.int .u64 a, .int .u64 b] 24)).drew _ _ → wpAnyH _ _ _ _ _ _ _ _ ((((w.alloc (.cells #[.int .u64 a, .int .u64 b] 24)).alloc (.cells #[.int .u64 0, .int .u64 0] 24)).alloc (.cells #[.int .u64 0, .int .u64 0] 24)).alloc (.cells #[.int .u64 a, .int .u64 b] 24)).drew
  generalize ((((w.alloc (.cells #[.int .u64 a, .int .u64 b] 24)).alloc (.cells #[.int .u64 0, .int .u64 0] 24)).alloc (.cells #[.int .u64 0, .int .u64 0] 24)).alloc (.cells #[.int .u64 a, .int .u64 b] 24)).drew = w0
  intro s0
  rw [← hx0', ← hx1'] at s0
  have hS : PB w0 (w.heap.size + 1 + 1 + 1) x0 x1 := s0.x
  refine wpAnyH_take (oi := ⟨_, _, _, _, _, _⟩) (i := 0) (v := pw x0 x1) rfl (by kernel_rfl) (by kernel_rfl) (by kernel_rfl) (fun _ _ _ h => h) (yif_load rfl 24 (.tmp 7) rfl _ _ rfl fun w h => h.load) hS ?_
  try simp only [Act.put, List.setIfInBounds_toArray, List.set_cons_zero, List.set_cons_succ]
  refine wpAnyH_take (oi := ⟨_, _, _, _, _, _⟩) (i := 1) (v := .int .i64 d) rfl (by kernel_rfl) (by kernel_rfl) (by kernel_rfl) (fun _ _ _ h => h) (Or.inl ⟨by rfl, fun _ _ => rfl⟩) hS ?_
  try simp only [Act.put, List.setIfInBounds_toArray, List.set_cons_zero, List.set_cons_succ]
  refine wpAnyH_all (rs := [2, 7]) (by kernel_rfl) (by simp) fun i hi => ?_
  have hi2 : i = 2 ∨ i = 7 := by simpa using hi
  rcases hi2 with rfl | rfl
  · refine op_call (om := ⟨_, _, _, _, _, _⟩) (fn := 33) (args := #[.int .i64 d]) (R := fun u w' => u = .int .u64 (absI d) ∧ w0 = w') rfl rfl (by go_simp)
      ((RS.out w0).mono fun e w' h => ⟨_, h.1, rfl, h.2⟩) _ _ rfl rfl ?_
    rintro u wX ⟨rfl, hwX⟩
    subst hwX
    have hS : PB w0 (w.heap.size + 1 + 1 + 1) x0 x1 := s0.x
    refine ⟨hS, ?_⟩
    try simp only [Act.put, List.setIfInBounds_toArray, List.set_cons_zero, List.set_cons_succ]
    refine wpAnyH_all (rs := [3, 7]) (by kernel_rfl) (by simp) fun i hi => ?_
    have hi2 : i = 3 ∨ i = 7 := by simpa using hi
    rcases hi2 with rfl | rfl
    · refine op_call (om := ⟨_, _, _, _, _, _⟩) (fn := 39) (args := #[pw x0 x1, .int .u64 (absI d)]) (R := fun u w' => QI w0 (x0 * 18446744073709551616 + x1) (absI d) (.returned u) w') rfl rfl (by go_simp)
        ((DV.out w0).mono fun e w' h => by obtain ⟨x, y, rfl, h1⟩ := h; exact ⟨_, rfl, x, y, rfl, h1⟩) _ _ rfl rfl ?_
      rintro u w1 ⟨q0, q1, hu, hq0, hq1, eq, bb⟩
      cases hu
      rw [EX.out] at eq ⊢
      have s1 := s0.below bb
      have hS : PB w1 (w.heap.size + 1 + 1 + 1) x0 x1 := s1.x
      refine ⟨hS, ?_⟩
      try simp only [Act.put, List.setIfInBounds_toArray, List.set_cons_zero, List.set_cons_succ]
      refine wpAnyH_take (oi := ⟨_, _, _, _, _, _⟩) (i := 4) (v := .tuple #[pw q0 q1, .int .u64 (absW a b % absI d)]) rfl (by kernel_rfl) (by kernel_rfl) (by kernel_rfl) (fun _ _ _ h => h) (Or.inl ⟨by rfl, fun _ _ => rfl⟩) hS ?_
      try simp only [Act.put, List.setIfInBounds_toArray, List.set_cons_zero, List.set_cons_succ]
      refine wpAnyH_take (oi := ⟨_, _, _, _, _, _⟩) (i := 5) (v := pw q0 q1) rfl (by kernel_rfl) (by kernel_rfl) (by kernel_rfl) (fun _ _ _ h => h) (Or.inl ⟨by rfl, fun _ _ => by go_simp⟩) hS ?_
      try simp only [Act.put, List.setIfInBounds_toArray, List.set_cons_zero, List.set_cons_succ]
      refine wpAnyH_take (oi := ⟨_, _, _, _, _, _⟩) (i := 6) (v := .int .u64 (absW a b % absI d)) rfl (by kernel_rfl) (by kernel_rfl) (by kernel_rfl) (fun _ _ _ h => h) (Or.inl ⟨by rfl, fun _ _ => by go_simp⟩) hS ?_
      try simp only [Act.put, List.setIfInBounds_toArray, List.set_cons_zero, List.set_cons_succ]
      refine wpAnyH_all (rs := [7]) (by kernel_rfl) (by simp) fun i hi => ?_
      obtain rfl : i = 7 := by simpa using hi
      refine op_run (om := ⟨_, _, _, _, _, _⟩) (u := .pointer (some ⟨w1.heap.size, 0, none⟩)) (w' := (w1.alloc (.cells #[.int .u64 0, .int .u64 0] 24))) rfl rfl (by go_simp) _ _ rfl rfl ?_
      rintro u wA ⟨rfl, rfl⟩
      have s2 := s1.below (Below.al w1 (.cells #[.int .u64 0, .int .u64 0] 24))
      have PQ2 : PB (w1.alloc (.cells #[.int .u64 0, .int .u64 0] 24)) w1.heap.size 0 0 := PB.new _ _ _
      have hgq : w.heap.size + 1 + 1 + 1 < w1.heap.size := s1.x.lt
      generalize (w1.alloc (.cells #[.int .u64 0, .int .u64 0] 24)) = w2 at *
      have hS : PB w2 (w.heap.size + 1 + 1 + 1) x0 x1 := s2.x
      refine ⟨hS, ?_⟩
      try simp only [Act.put, List.setIfInBounds_toArray, List.set_cons_zero, List.set_cons_succ]
      refine wpAnyH_all (rs := [8]) (by kernel_rfl) (by simp) fun i hi => ?_
      obtain rfl : i = 8 := by simpa using hi
      refine wpOp_skip (om := ⟨_, _, _, _, _, _⟩) rfl rfl (ex_store 24 (.tmp 8) (.tmp 24) rfl _ _ rfl rfl (PQ2.store q0 q1)) ?_
      have sE : PB (wput w2 w1.heap.size q0 q1) (w.heap.size + 1 + 1 + 1) x0 x1 := s2.x.puto (by omega) q0 q1
      refine ⟨sE, ?_⟩
      try simp only [Act.put, List.setIfInBounds_toArray, List.set_cons_zero, List.set_cons_succ]
      have hS := sE
      refine wpAnyH_take (oi := ⟨_, _, _, _, _, _⟩) (i := 9) (v := .int .u64 (absW a b % absI d)) rfl (by kernel_rfl) (by kernel_rfl) (by kernel_rfl) (fun _ _ _ h => h) (Or.inl ⟨by rfl, fun _ _ => rfl⟩) hS ?_
      try simp only [Act.put, List.setIfInBounds_toArray, List.set_cons_zero, List.set_cons_succ]
      refine wpAnyH_done (by kernel_rfl) ?_ _
      try simp only [Act.put, List.setIfInBounds_toArray, List.set_cons_zero, List.set_cons_succ]
      have hsz : (wput w2 w1.heap.size q0 q1).heap.size = w2.heap.size := wput_size _ _ _ _
      have hql := PQ2.lt
      have HR := Lib.hid (And.intro hrr (And.intro eq (And.intro hq0 hq1)))
      generalize hR : absW a b % absI d = R at *
      have hRR := HR.out.1
      have g0 : SG w ((wput w2 w1.heap.size q0 q1).alloc (.cells #[.int .u64 0, .int .u64 R] 24)) w1.heap.size w2.heap.size q0 q1 0 R := by
        refine ⟨(s2.r4.puto (by omega) q0 q1).alloc _, (s2.r5.puto (by omega) q0 q1).alloc _, (PQ2.put q0 q1).alloc _, ?_, by omega, by have := s2.x.lt; omega, by omega, (below_put s2.bel (by omega) q0 q1).alloc (by rw [hsz]; have := s2.bel.size; omega) _⟩
        exact PB.at_ _ hsz.symm 0 R
      rw [← hsz] at g0
      have GR := Lib.hid g0.r.load
      have GQ := Lib.hid g0.q.load
      have G0 := Lib.hid g0
      clear sE hS hsz hql g0 eq hrr hq0 hq1 hRR
      have G2 := G0
      have GQ2 := GQ
      clear G0 GQ GR
      have g4 := G2
      clear G2
      go_wp2_with fail
      refine wp_region_held (S := fun V => PB V w1.heap.size q0 q1 ∧ PB V (wput w2 w1.heap.size q0 q1).heap.size 0 R) (by kernel_rfl) ?_
      have g5 := g4.out.dr
      clear g4
      revert g5
      change SG w ((wput w2 w1.heap.size q0 q1).alloc (.cells #[.int .u64 0, .int .u64 R] 24)).drew _ _ _ _ _ _ → wpAnyH _ _ _ _ _ _ _ _ ((wput w2 w1.heap.size q0 q1).alloc (.cells #[.int .u64 0, .int .u64 R] 24)).drew
      generalize ((wput w2 w1.heap.size q0 q1).alloc (.cells #[.int .u64 0, .int .u64 R] 24)).drew = wF
      intro g5
      have hS : PB wF w1.heap.size q0 q1 ∧ PB wF (wput w2 w1.heap.size q0 q1).heap.size 0 R := ⟨g5.q, g5.r⟩
      refine wpAnyH_take (oi := ⟨_, _, _, _, _, _⟩) (i := 0) (v := pw q0 q1) rfl (by kernel_rfl) (by kernel_rfl) (by kernel_rfl) (fun _ _ _ h => h) (yif_load rfl 24 (.tmp 8) rfl _ _ rfl fun w h => h.1.load) hS ?_
      try simp only [Act.put, List.setIfInBounds_toArray, List.set_cons_zero, List.set_cons_succ]
      refine wpAnyH_take (oi := ⟨_, _, _, _, _, _⟩) (i := 1) (v := pw 0 R) rfl (by kernel_rfl) (by kernel_rfl) (by kernel_rfl) (fun _ _ _ h => h) (yif_load rfl 24 (.tmp 10) rfl _ _ rfl fun w h => h.2.load) hS ?_
      try simp only [Act.put, List.setIfInBounds_toArray, List.set_cons_zero, List.set_cons_succ]
      refine wpAnyH_all (rs := [2]) (by kernel_rfl) (by simp) fun i hi => ?_
      obtain rfl : i = 2 := by simpa using hi
      refine wpOp_skip (om := ⟨_, _, _, _, _, _⟩) rfl rfl (ex_store 24 (.tmp 4) (.tmp 37) rfl _ _ rfl rfl (g5.r4.store q0 q1)) ?_
      have lq := g5.lq
      have lr := g5.lr
      have hS : PB (wput wF (w.heap.size + 1) q0 q1) w1.heap.size q0 q1 ∧ PB (wput wF (w.heap.size + 1) q0 q1) (wput w2 w1.heap.size q0 q1).heap.size 0 R := ⟨g5.q.puto (by omega) _ _, g5.r.puto (by omega) _ _⟩
      refine ⟨hS, ?_⟩
      try simp only [Act.put, List.setIfInBounds_toArray, List.set_cons_zero, List.set_cons_succ]
      refine wpAnyH_all (rs := [3]) (by kernel_rfl) (by simp) fun i hi => ?_
      obtain rfl : i = 3 := by simpa using hi
      have p5 := g5.r5.puto (show w.heap.size + 1 + 1 ≠ w.heap.size + 1 by omega) q0 q1
      refine wpOp_skip (om := ⟨_, _, _, _, _, _⟩) rfl rfl (ex_store 24 (.tmp 5) (.tmp 38) rfl _ _ rfl rfl (p5.store 0 R)) ?_
      refine ⟨⟨hS.1.puto (by omega) _ _, hS.2.puto (by omega) _ _⟩, ?_⟩
      try simp only [Act.put, List.setIfInBounds_toArray, List.set_cons_zero, List.set_cons_succ]
      refine wpAnyH_done (by kernel_rfl) ?_ _
      try simp only [Act.put, List.setIfInBounds_toArray, List.set_cons_zero, List.set_cons_succ]
      have z4 := (g5.r4.put q0 q1).puto (show w.heap.size + 1 ≠ w.heap.size + 1 + 1 by omega) 0 R
      have z5 := p5.put 0 R
      have zb := below_put (below_put g5.bel (show w.heap.size ≤ w.heap.size + 1 by omega) q0 q1) (show w.heap.size ≤ w.heap.size + 1 + 1 by omega) 0 R
      clear hS p5 g5 lq lr
      go_wp2_with fail
      refine bodyPost_ret (v := .tuple #[pw q0 q1, pw 0 R]) ?_ rfl ⟨q0, q1, 0, R, rfl, HR.out.2.2.1, HR.out.2.2.2, half0, HR.out.1, by rw [HTQ.out, HR.out.2.1]; exact (mod_small NNQ.out).symm, by rw [HTR.out]; exact (low_small HR.out.1).symm, zb⟩
      exact results_row_row rfl _ _ (w.heap.size + 1) (w.heap.size + 1 + 1) 24 _ _ (0, 0) (0, 0) _ rfl rfl z4 z5 Try.underlying24 rfl Try.sizeW Try.sizeW
    · refine op_run (om := ⟨_, _, _, _, _, _⟩) (u := .pointer (some ⟨w0.heap.size, 0, none⟩)) (w' := (w0.alloc (.cells #[.int .u64 0, .int .u64 0] 24))) rfl rfl (by go_simp) _ _ rfl rfl ?_
      rintro u wA ⟨rfl, rfl⟩
      have s1 := s0.below (Below.al w0 (.cells #[.int .u64 0, .int .u64 0] 24))
      have PQ1 : PB (w0.alloc (.cells #[.int .u64 0, .int .u64 0] 24)) w0.heap.size 0 0 := PB.new _ _ _
      have hgq : w.heap.size + 1 + 1 + 1 < w0.heap.size := s0.x.lt
      generalize (w0.alloc (.cells #[.int .u64 0, .int .u64 0] 24)) = w1 at *
      have hS : PB w1 (w.heap.size + 1 + 1 + 1) x0 x1 := s1.x
      refine ⟨hS, ?_⟩
      try simp only [Act.put, List.setIfInBounds_toArray, List.set_cons_zero, List.set_cons_succ]
      refine wpAnyH_all (rs := [3]) (by kernel_rfl) (by simp) fun i hi => ?_
      obtain rfl : i = 3 := by simpa using hi
      have p1 := PQ1
      refine op_call (om := ⟨_, _, _, _, _, _⟩) (fn := 39) (args := #[pw x0 x1, .int .u64 (absI d)]) (R := fun u w' => QI w1 (x0 * 18446744073709551616 + x1) (absI d) (.returned u) w') rfl rfl (by go_simp)
        ((DV.out w1).mono fun e w' h => by obtain ⟨x, y, rfl, h1⟩ := h; exact ⟨_, rfl, x, y, rfl, h1⟩) _ _ rfl rfl ?_
      rintro u w2 ⟨q0, q1, hu, hq0, hq1, eq, bb⟩
      cases hu
      rw [EX.out] at eq ⊢
      have s2 := s1.below bb
      have q2 := p1.below bb p1.lt
      have hS : PB w2 (w.heap.size + 1 + 1 + 1) x0 x1 := s2.x
      refine ⟨hS, ?_⟩
      try simp only [Act.put, List.setIfInBounds_toArray, List.set_cons_zero, List.set_cons_succ]
      refine wpAnyH_take (oi := ⟨_, _, _, _, _, _⟩) (i := 4) (v := .tuple #[pw q0 q1, .int .u64 (absW a b % absI d)]) rfl (by kernel_rfl) (by kernel_rfl) (by kernel_rfl) (fun _ _ _ h => h) (Or.inl ⟨by rfl, fun _ _ => rfl⟩) hS ?_
      try simp only [Act.put, List.setIfInBounds_toArray, List.set_cons_zero, List.set_cons_succ]
      refine wpAnyH_take (oi := ⟨_, _, _, _, _, _⟩) (i := 5) (v := pw q0 q1) rfl (by kernel_rfl) (by kernel_rfl) (by kernel_rfl) (fun _ _ _ h => h) (Or.inl ⟨by rfl, fun _ _ => by go_simp⟩) hS ?_
      try simp only [Act.put, List.setIfInBounds_toArray, List.set_cons_zero, List.set_cons_succ]
      refine wpAnyH_take (oi := ⟨_, _, _, _, _, _⟩) (i := 6) (v := .int .u64 (absW a b % absI d)) rfl (by kernel_rfl) (by kernel_rfl) (by kernel_rfl) (fun _ _ _ h => h) (Or.inl ⟨by rfl, fun _ _ => by go_simp⟩) hS ?_
      try simp only [Act.put, List.setIfInBounds_toArray, List.set_cons_zero, List.set_cons_succ]
      refine wpAnyH_all (rs := [8]) (by kernel_rfl) (by simp) fun i hi => ?_
      obtain rfl : i = 8 := by simpa using hi
      refine wpOp_skip (om := ⟨_, _, _, _, _, _⟩) rfl rfl (ex_store 24 (.tmp 8) (.tmp 24) rfl _ _ rfl rfl (q2.store q0 q1)) ?_
      have sE : PB (wput w2 w0.heap.size q0 q1) (w.heap.size + 1 + 1 + 1) x0 x1 := s2.x.puto (by omega) q0 q1
      refine ⟨sE, ?_⟩
      try simp only [Act.put, List.setIfInBounds_toArray, List.set_cons_zero, List.set_cons_succ]
      have hS := sE
      refine wpAnyH_take (oi := ⟨_, _, _, _, _, _⟩) (i := 9) (v := .int .u64 (absW a b % absI d)) rfl (by kernel_rfl) (by kernel_rfl) (by kernel_rfl) (fun _ _ _ h => h) (Or.inl ⟨by rfl, fun _ _ => rfl⟩) hS ?_
      try simp only [Act.put, List.setIfInBounds_toArray, List.set_cons_zero, List.set_cons_succ]
      refine wpAnyH_done (by kernel_rfl) ?_ _
      try simp only [Act.put, List.setIfInBounds_toArray, List.set_cons_zero, List.set_cons_succ]
      have hsz : (wput w2 w0.heap.size q0 q1).heap.size = w2.heap.size := wput_size _ _ _ _
      have hql := q2.lt
      have HR := Lib.hid (And.intro hrr (And.intro eq (And.intro hq0 hq1)))
      generalize hR : absW a b % absI d = R at *
      have hRR := HR.out.1
      have g0 : SG w ((wput w2 w0.heap.size q0 q1).alloc (.cells #[.int .u64 0, .int .u64 R] 24)) w0.heap.size w2.heap.size q0 q1 0 R := by
        refine ⟨(s2.r4.puto (by omega) q0 q1).alloc _, (s2.r5.puto (by omega) q0 q1).alloc _, (q2.put q0 q1).alloc _, ?_, by omega, by have := s2.x.lt; omega, by omega, (below_put s2.bel (by omega) q0 q1).alloc (by rw [hsz]; have := s2.bel.size; omega) _⟩
        exact PB.at_ _ hsz.symm 0 R
      rw [← hsz] at g0
      have GR := Lib.hid g0.r.load
      have GQ := Lib.hid g0.q.load
      have G0 := Lib.hid g0
      clear sE hS hsz hql g0 eq hrr hq0 hq1 hRR
      have G2 := G0
      have GQ2 := GQ
      clear G0 GQ GR
      have g4 := G2
      clear G2
      go_wp2_with fail
      refine wp_region_held (S := fun V => PB V w0.heap.size q0 q1 ∧ PB V (wput w2 w0.heap.size q0 q1).heap.size 0 R) (by kernel_rfl) ?_
      have g5 := g4.out.dr
      clear g4
      revert g5
      change SG w ((wput w2 w0.heap.size q0 q1).alloc (.cells #[.int .u64 0, .int .u64 R] 24)).drew _ _ _ _ _ _ → wpAnyH _ _ _ _ _ _ _ _ ((wput w2 w0.heap.size q0 q1).alloc (.cells #[.int .u64 0, .int .u64 R] 24)).drew
      generalize ((wput w2 w0.heap.size q0 q1).alloc (.cells #[.int .u64 0, .int .u64 R] 24)).drew = wF
      intro g5
      have hS : PB wF w0.heap.size q0 q1 ∧ PB wF (wput w2 w0.heap.size q0 q1).heap.size 0 R := ⟨g5.q, g5.r⟩
      refine wpAnyH_take (oi := ⟨_, _, _, _, _, _⟩) (i := 0) (v := pw q0 q1) rfl (by kernel_rfl) (by kernel_rfl) (by kernel_rfl) (fun _ _ _ h => h) (yif_load rfl 24 (.tmp 8) rfl _ _ rfl fun w h => h.1.load) hS ?_
      try simp only [Act.put, List.setIfInBounds_toArray, List.set_cons_zero, List.set_cons_succ]
      refine wpAnyH_take (oi := ⟨_, _, _, _, _, _⟩) (i := 1) (v := pw 0 R) rfl (by kernel_rfl) (by kernel_rfl) (by kernel_rfl) (fun _ _ _ h => h) (yif_load rfl 24 (.tmp 10) rfl _ _ rfl fun w h => h.2.load) hS ?_
      try simp only [Act.put, List.setIfInBounds_toArray, List.set_cons_zero, List.set_cons_succ]
      refine wpAnyH_all (rs := [2]) (by kernel_rfl) (by simp) fun i hi => ?_
      obtain rfl : i = 2 := by simpa using hi
      refine wpOp_skip (om := ⟨_, _, _, _, _, _⟩) rfl rfl (ex_store 24 (.tmp 4) (.tmp 37) rfl _ _ rfl rfl (g5.r4.store q0 q1)) ?_
      have lq := g5.lq
      have lr := g5.lr
      have hS : PB (wput wF (w.heap.size + 1) q0 q1) w0.heap.size q0 q1 ∧ PB (wput wF (w.heap.size + 1) q0 q1) (wput w2 w0.heap.size q0 q1).heap.size 0 R := ⟨g5.q.puto (by omega) _ _, g5.r.puto (by omega) _ _⟩
      refine ⟨hS, ?_⟩
      try simp only [Act.put, List.setIfInBounds_toArray, List.set_cons_zero, List.set_cons_succ]
      refine wpAnyH_all (rs := [3]) (by kernel_rfl) (by simp) fun i hi => ?_
      obtain rfl : i = 3 := by simpa using hi
      have p5 := g5.r5.puto (show w.heap.size + 1 + 1 ≠ w.heap.size + 1 by omega) q0 q1
      refine wpOp_skip (om := ⟨_, _, _, _, _, _⟩) rfl rfl (ex_store 24 (.tmp 5) (.tmp 38) rfl _ _ rfl rfl (p5.store 0 R)) ?_
      refine ⟨⟨hS.1.puto (by omega) _ _, hS.2.puto (by omega) _ _⟩, ?_⟩
      try simp only [Act.put, List.setIfInBounds_toArray, List.set_cons_zero, List.set_cons_succ]
      refine wpAnyH_done (by kernel_rfl) ?_ _
      try simp only [Act.put, List.setIfInBounds_toArray, List.set_cons_zero, List.set_cons_succ]
      have z4 := (g5.r4.put q0 q1).puto (show w.heap.size + 1 ≠ w.heap.size + 1 + 1 by omega) 0 R
      have z5 := p5.put 0 R
      have zb := below_put (below_put g5.bel (show w.heap.size ≤ w.heap.size + 1 by omega) q0 q1) (show w.heap.size ≤ w.heap.size + 1 + 1 by omega) 0 R
      clear hS p5 g5 lq lr
      go_wp2_with fail
      refine bodyPost_ret (v := .tuple #[pw q0 q1, pw 0 R]) ?_ rfl ⟨q0, q1, 0, R, rfl, HR.out.2.2.1, HR.out.2.2.2, half0, HR.out.1, by rw [HTQ.out, HR.out.2.1]; exact (mod_small NNQ.out).symm, by rw [HTR.out]; exact (low_small HR.out.1).symm, zb⟩
      exact results_row_row rfl _ _ (w.heap.size + 1) (w.heap.size + 1 + 1) 24 _ _ (0, 0) (0, 0) _ rfl rfl z4 z5 Try.underlying24 rfl Try.sizeW Try.sizeW
  · refine op_run (om := ⟨_, _, _, _, _, _⟩) (u := .pointer (some ⟨w0.heap.size, 0, none⟩)) (w' := (w0.alloc (.cells #[.int .u64 0, .int .u64 0] 24))) rfl rfl (by go_simp) _ _ rfl rfl ?_
    rintro u wA ⟨rfl, rfl⟩
    have s1 := s0.below (Below.al w0 (.cells #[.int .u64 0, .int .u64 0] 24))
    have PQ1 : PB (w0.alloc (.cells #[.int .u64 0, .int .u64 0] 24)) w0.heap.size 0 0 := PB.new _ _ _
    have hgq : w.heap.size + 1 + 1 + 1 < w0.heap.size := s0.x.lt
    generalize (w0.alloc (.cells #[.int .u64 0, .int .u64 0] 24)) = w1 at *
    have hS : PB w1 (w.heap.size + 1 + 1 + 1) x0 x1 := s1.x
    refine ⟨hS, ?_⟩
    try simp only [Act.put, List.setIfInBounds_toArray, List.set_cons_zero, List.set_cons_succ]
    refine wpAnyH_all (rs := [2]) (by kernel_rfl) (by simp) fun i hi => ?_
    obtain rfl : i = 2 := by simpa using hi
    refine op_call (om := ⟨_, _, _, _, _, _⟩) (fn := 33) (args := #[.int .i64 d]) (R := fun u w' => u = .int .u64 (absI d) ∧ w1 = w') rfl rfl (by go_simp)
      ((RS.out w1).mono fun e w' h => ⟨_, h.1, rfl, h.2⟩) _ _ rfl rfl ?_
    rintro u wX ⟨rfl, hwX⟩
    subst hwX
    have hS : PB w1 (w.heap.size + 1 + 1 + 1) x0 x1 := s1.x
    refine ⟨hS, ?_⟩
    try simp only [Act.put, List.setIfInBounds_toArray, List.set_cons_zero, List.set_cons_succ]
    refine wpAnyH_all (rs := [3]) (by kernel_rfl) (by simp) fun i hi => ?_
    obtain rfl : i = 3 := by simpa using hi
    have p1 := PQ1
    refine op_call (om := ⟨_, _, _, _, _, _⟩) (fn := 39) (args := #[pw x0 x1, .int .u64 (absI d)]) (R := fun u w' => QI w1 (x0 * 18446744073709551616 + x1) (absI d) (.returned u) w') rfl rfl (by go_simp)
      ((DV.out w1).mono fun e w' h => by obtain ⟨x, y, rfl, h1⟩ := h; exact ⟨_, rfl, x, y, rfl, h1⟩) _ _ rfl rfl ?_
    rintro u w2 ⟨q0, q1, hu, hq0, hq1, eq, bb⟩
    cases hu
    rw [EX.out] at eq ⊢
    have s2 := s1.below bb
    have q2 := p1.below bb p1.lt
    have hS : PB w2 (w.heap.size + 1 + 1 + 1) x0 x1 := s2.x
    refine ⟨hS, ?_⟩
    try simp only [Act.put, List.setIfInBounds_toArray, List.set_cons_zero, List.set_cons_succ]
    refine wpAnyH_take (oi := ⟨_, _, _, _, _, _⟩) (i := 4) (v := .tuple #[pw q0 q1, .int .u64 (absW a b % absI d)]) rfl (by kernel_rfl) (by kernel_rfl) (by kernel_rfl) (fun _ _ _ h => h) (Or.inl ⟨by rfl, fun _ _ => rfl⟩) hS ?_
    try simp only [Act.put, List.setIfInBounds_toArray, List.set_cons_zero, List.set_cons_succ]
    refine wpAnyH_take (oi := ⟨_, _, _, _, _, _⟩) (i := 5) (v := pw q0 q1) rfl (by kernel_rfl) (by kernel_rfl) (by kernel_rfl) (fun _ _ _ h => h) (Or.inl ⟨by rfl, fun _ _ => by go_simp⟩) hS ?_
    try simp only [Act.put, List.setIfInBounds_toArray, List.set_cons_zero, List.set_cons_succ]
    refine wpAnyH_take (oi := ⟨_, _, _, _, _, _⟩) (i := 6) (v := .int .u64 (absW a b % absI d)) rfl (by kernel_rfl) (by kernel_rfl) (by kernel_rfl) (fun _ _ _ h => h) (Or.inl ⟨by rfl, fun _ _ => by go_simp⟩) hS ?_
    try simp only [Act.put, List.setIfInBounds_toArray, List.set_cons_zero, List.set_cons_succ]
    refine wpAnyH_all (rs := [8]) (by kernel_rfl) (by simp) fun i hi => ?_
    obtain rfl : i = 8 := by simpa using hi
    refine wpOp_skip (om := ⟨_, _, _, _, _, _⟩) rfl rfl (ex_store 24 (.tmp 8) (.tmp 24) rfl _ _ rfl rfl (q2.store q0 q1)) ?_
    have sE : PB (wput w2 w0.heap.size q0 q1) (w.heap.size + 1 + 1 + 1) x0 x1 := s2.x.puto (by omega) q0 q1
    refine ⟨sE, ?_⟩
    try simp only [Act.put, List.setIfInBounds_toArray, List.set_cons_zero, List.set_cons_succ]
    have hS := sE
    refine wpAnyH_take (oi := ⟨_, _, _, _, _, _⟩) (i := 9) (v := .int .u64 (absW a b % absI d)) rfl (by kernel_rfl) (by kernel_rfl) (by kernel_rfl) (fun _ _ _ h => h) (Or.inl ⟨by rfl, fun _ _ => rfl⟩) hS ?_
    try simp only [Act.put, List.setIfInBounds_toArray, List.set_cons_zero, List.set_cons_succ]
    refine wpAnyH_done (by kernel_rfl) ?_ _
    try simp only [Act.put, List.setIfInBounds_toArray, List.set_cons_zero, List.set_cons_succ]
    have hsz : (wput w2 w0.heap.size q0 q1).heap.size = w2.heap.size := wput_size _ _ _ _
    have hql := q2.lt
    have HR := Lib.hid (And.intro hrr (And.intro eq (And.intro hq0 hq1)))
    generalize hR : absW a b % absI d = R at *
    have hRR := HR.out.1
    have g0 : SG w ((wput w2 w0.heap.size q0 q1).alloc (.cells #[.int .u64 0, .int .u64 R] 24)) w0.heap.size w2.heap.size q0 q1 0 R := by
      refine ⟨(s2.r4.puto (by omega) q0 q1).alloc _, (s2.r5.puto (by omega) q0 q1).alloc _, (q2.put q0 q1).alloc _, ?_, by omega, by have := s2.x.lt; omega, by omega, (below_put s2.bel (by omega) q0 q1).alloc (by rw [hsz]; have := s2.bel.size; omega) _⟩
      exact PB.at_ _ hsz.symm 0 R
    rw [← hsz] at g0
    have GR := Lib.hid g0.r.load
    have GQ := Lib.hid g0.q.load
    have G0 := Lib.hid g0
    clear sE hS hsz hql g0 eq hrr hq0 hq1 hRR
    have G2 := G0
    have GQ2 := GQ
    clear G0 GQ GR
    have g4 := G2
    clear G2
    go_wp2_with fail
    refine wp_region_held (S := fun V => PB V w0.heap.size q0 q1 ∧ PB V (wput w2 w0.heap.size q0 q1).heap.size 0 R) (by kernel_rfl) ?_
    have g5 := g4.out.dr
    clear g4
    revert g5
    change SG w ((wput w2 w0.heap.size q0 q1).alloc (.cells #[.int .u64 0, .int .u64 R] 24)).drew _ _ _ _ _ _ → wpAnyH _ _ _ _ _ _ _ _ ((wput w2 w0.heap.size q0 q1).alloc (.cells #[.int .u64 0, .int .u64 R] 24)).drew
    generalize ((wput w2 w0.heap.size q0 q1).alloc (.cells #[.int .u64 0, .int .u64 R] 24)).drew = wF
    intro g5
    have hS : PB wF w0.heap.size q0 q1 ∧ PB wF (wput w2 w0.heap.size q0 q1).heap.size 0 R := ⟨g5.q, g5.r⟩
    refine wpAnyH_take (oi := ⟨_, _, _, _, _, _⟩) (i := 0) (v := pw q0 q1) rfl (by kernel_rfl) (by kernel_rfl) (by kernel_rfl) (fun _ _ _ h => h) (yif_load rfl 24 (.tmp 8) rfl _ _ rfl fun w h => h.1.load) hS ?_
    try simp only [Act.put, List.setIfInBounds_toArray, List.set_cons_zero, List.set_cons_succ]
    refine wpAnyH_take (oi := ⟨_, _, _, _, _, _⟩) (i := 1) (v := pw 0 R) rfl (by kernel_rfl) (by kernel_rfl) (by kernel_rfl) (fun _ _ _ h => h) (yif_load rfl 24 (.tmp 10) rfl _ _ rfl fun w h => h.2.load) hS ?_
    try simp only [Act.put, List.setIfInBounds_toArray, List.set_cons_zero, List.set_cons_succ]
    refine wpAnyH_all (rs := [2]) (by kernel_rfl) (by simp) fun i hi => ?_
    obtain rfl : i = 2 := by simpa using hi
    refine wpOp_skip (om := ⟨_, _, _, _, _, _⟩) rfl rfl (ex_store 24 (.tmp 4) (.tmp 37) rfl _ _ rfl rfl (g5.r4.store q0 q1)) ?_
    have lq := g5.lq
    have lr := g5.lr
    have hS : PB (wput wF (w.heap.size + 1) q0 q1) w0.heap.size q0 q1 ∧ PB (wput wF (w.heap.size + 1) q0 q1) (wput w2 w0.heap.size q0 q1).heap.size 0 R := ⟨g5.q.puto (by omega) _ _, g5.r.puto (by omega) _ _⟩
    refine ⟨hS, ?_⟩
    try simp only [Act.put, List.setIfInBounds_toArray, List.set_cons_zero, List.set_cons_succ]
    refine wpAnyH_all (rs := [3]) (by kernel_rfl) (by simp) fun i hi => ?_
    obtain rfl : i = 3 := by simpa using hi
    have p5 := g5.r5.puto (show w.heap.size + 1 + 1 ≠ w.heap.size + 1 by omega) q0 q1
    refine wpOp_skip (om := ⟨_, _, _, _, _, _⟩) rfl rfl (ex_store 24 (.tmp 5) (.tmp 38) rfl _ _ rfl rfl (p5.store 0 R)) ?_
    refine ⟨⟨hS.1.puto (by omega) _ _, hS.2.puto (by omega) _ _⟩, ?_⟩
    try simp only [Act.put, List.setIfInBounds_toArray, List.set_cons_zero, List.set_cons_succ]
    refine wpAnyH_done (by kernel_rfl) ?_ _
    try simp only [Act.put, List.setIfInBounds_toArray, List.set_cons_zero, List.set_cons_succ]
    have z4 := (g5.r4.put q0 q1).puto (show w.heap.size + 1 ≠ w.heap.size + 1 + 1 by omega) 0 R
    have z5 := p5.put 0 R
    have zb := below_put (below_put g5.bel (show w.heap.size ≤ w.heap.size + 1 by omega) q0 q1) (show w.heap.size ≤ w.heap.size + 1 + 1 by omega) 0 R
    clear hS p5 g5 lq lr
    go_wp2_with fail
    refine bodyPost_ret (v := .tuple #[pw q0 q1, pw 0 R]) ?_ rfl ⟨q0, q1, 0, R, rfl, HR.out.2.2.1, HR.out.2.2.2, half0, HR.out.1, by rw [HTQ.out, HR.out.2.1]; exact (mod_small NNQ.out).symm, by rw [HTR.out]; exact (low_small HR.out.1).symm, zb⟩
    exact results_row_row rfl _ _ (w.heap.size + 1) (w.heap.size + 1 + 1) 24 _ _ (0, 0) (0, 0) _ rfl rfl z4 z5 Try.underlying24 rfl Try.sizeW Try.sizeW
set_option maxRecDepth 100000 in
set_option maxHeartbeats 2000000 in
theorem signed_ny (a b d : Int) (ha : half a) (hb : half b) (hd : i64r d) (h0 : d ≠ 0) (hneg : negW a = false) (hsg : decide (d < 0) = true) (w : World) :
    Calls Try.prog 44 #[pw a b, .int .i64 d] w (SO w (tq a b d) (tr a b d)) := by
  have hsh : (a / 9223372036854775808 == 1) = false := by
    rw [← hneg]
    unfold negW half at *
    rw [Bool.eq_iff_iff]
    simp
    omega
  have RS := Lib.hid (rsize_any d hd.1 hd.2)
  have hAI : half (absI d) := by
    have := absI_le hd
    have := absI_pos h0
    unfold half
    omega
  have hA0 : absI d ≠ 0 := by have := absI_pos h0; omega
  have nn := absW_nn ha hb
  have NNQ := Lib.hid (show 0 ≤ absW a b / absI d ∧ absW a b / absI d < 340282366920938463463374607431768211456 from ⟨Int.ediv_nonneg nn.1 hAI.1, by have := Int.ediv_le_self (absI d) nn.1; omega⟩)
  have hrr : half (absW a b % absI d) := by
    have h1 := Int.emod_nonneg (absW a b) hA0
    have h2 := Int.emod_lt_of_pos (absW a b) (absI_pos h0)
    unfold half at *
    omega
  have HTQ := Lib.hid (show tq a b d = sgn true (absW a b / absI d) by unfold tq; rw [hneg, hsg]; rfl)
  have HTR := Lib.hid (show tr a b d = sgn false (absW a b % absI d) by unfold tr; rw [hneg])
  have NR := Lib.hid (fun r w hr => rneg_any 0 r half0 hr w)
  have NQ := Lib.hid (fun x y w hx hy => rneg_any x y hx hy w)
  have s0 := Lib.hid (SP.start w a b)
  have AW := Lib.hid (abs_sgn a b ha hb)
  have AB := Lib.hid (And.intro ha hb)
  clear hd nn
  have hd1 : d < 0 := by simpa using hsg
  rw [hneg] at AW
  clear hsg hneg
  go_enter Try.func44, Try.ntmps44
  obtain ⟨x0, hx0'⟩ : ∃ x0, x0 = a := ⟨_, rfl⟩
  obtain ⟨x1, hx1'⟩ : ∃ x1, x1 = b := ⟨_, rfl⟩
  have hx0 : half x0 := by rw [hx0']; exact ha
  have hx1 : half x1 := by rw [hx1']; exact hb
  have EX : Hid (x0 * 18446744073709551616 + x1 = absW a b) := Lib.hid (by
    rw [hx0', hx1', ← AW.out]
    exact (mod_self ha hb).symm)
  go_wp2_with fail
  have DV := Lib.hid (rdiv_any x0 x1 (absI d) hx0 hx1 hAI hA0)
  refine wp_region_held (S := fun V => PB V (w.heap.size + 1 + 1 + 1) x0 x1) (by kernel_rfl) ?_
  have s9 := s0.out.dr
  clear s0
  revert s9
  change SP w ((((w.alloc (.cells #[.int .u64 a, .int .u64 b] 24)).alloc (.cells #[.int .u64 0, .int .u64 0] 24)).alloc (.cells #[.int .u64 0, .int .u64 0] 24)).alloc (.cells #[.int .u64 a, .int .u64 b] 24)).drew _ _ → wpAnyH _ _ _ _ _ _ _ _ ((((w.alloc (.cells #[.int .u64 a, .int .u64 b] 24)).alloc (.cells #[.int .u64 0, .int .u64 0] 24)).alloc (.cells #[.int .u64 0, .int .u64 0] 24)).alloc (.cells #[.int .u64 a, .int .u64 b] 24)).drew
  generalize ((((w.alloc (.cells #[.int .u64 a, .int .u64 b] 24)).alloc (.cells #[.int .u64 0, .int .u64 0] 24)).alloc (.cells #[.int .u64 0, .int .u64 0] 24)).alloc (.cells #[.int .u64 a, .int .u64 b] 24)).drew = w0
  intro s0
  rw [← hx0', ← hx1'] at s0
  have hS : PB w0 (w.heap.size + 1 + 1 + 1) x0 x1 := s0.x
  refine wpAnyH_take (oi := ⟨_, _, _, _, _, _⟩) (i := 0) (v := pw x0 x1) rfl (by kernel_rfl) (by kernel_rfl) (by kernel_rfl) (fun _ _ _ h => h) (yif_load rfl 24 (.tmp 7) rfl _ _ rfl fun w h => h.load) hS ?_
  try simp only [Act.put, List.setIfInBounds_toArray, List.set_cons_zero, List.set_cons_succ]
  refine wpAnyH_take (oi := ⟨_, _, _, _, _, _⟩) (i := 1) (v := .int .i64 d) rfl (by kernel_rfl) (by kernel_rfl) (by kernel_rfl) (fun _ _ _ h => h) (Or.inl ⟨by rfl, fun _ _ => rfl⟩) hS ?_
  try simp only [Act.put, List.setIfInBounds_toArray, List.set_cons_zero, List.set_cons_succ]
  refine wpAnyH_all (rs := [2, 7]) (by kernel_rfl) (by simp) fun i hi => ?_
  have hi2 : i = 2 ∨ i = 7 := by simpa using hi
  rcases hi2 with rfl | rfl
  · refine op_call (om := ⟨_, _, _, _, _, _⟩) (fn := 33) (args := #[.int .i64 d]) (R := fun u w' => u = .int .u64 (absI d) ∧ w0 = w') rfl rfl (by go_simp)
      ((RS.out w0).mono fun e w' h => ⟨_, h.1, rfl, h.2⟩) _ _ rfl rfl ?_
    rintro u wX ⟨rfl, hwX⟩
    subst hwX
    have hS : PB w0 (w.heap.size + 1 + 1 + 1) x0 x1 := s0.x
    refine ⟨hS, ?_⟩
    try simp only [Act.put, List.setIfInBounds_toArray, List.set_cons_zero, List.set_cons_succ]
    refine wpAnyH_all (rs := [3, 7]) (by kernel_rfl) (by simp) fun i hi => ?_
    have hi2 : i = 3 ∨ i = 7 := by simpa using hi
    rcases hi2 with rfl | rfl
    · refine op_call (om := ⟨_, _, _, _, _, _⟩) (fn := 39) (args := #[pw x0 x1, .int .u64 (absI d)]) (R := fun u w' => QI w0 (x0 * 18446744073709551616 + x1) (absI d) (.returned u) w') rfl rfl (by go_simp)
        ((DV.out w0).mono fun e w' h => by obtain ⟨x, y, rfl, h1⟩ := h; exact ⟨_, rfl, x, y, rfl, h1⟩) _ _ rfl rfl ?_
      rintro u w1 ⟨q0, q1, hu, hq0, hq1, eq, bb⟩
      cases hu
      rw [EX.out] at eq ⊢
      have s1 := s0.below bb
      have hS : PB w1 (w.heap.size + 1 + 1 + 1) x0 x1 := s1.x
      refine ⟨hS, ?_⟩
      try simp only [Act.put, List.setIfInBounds_toArray, List.set_cons_zero, List.set_cons_succ]
      refine wpAnyH_take (oi := ⟨_, _, _, _, _, _⟩) (i := 4) (v := .tuple #[pw q0 q1, .int .u64 (absW a b % absI d)]) rfl (by kernel_rfl) (by kernel_rfl) (by kernel_rfl) (fun _ _ _ h => h) (Or.inl ⟨by rfl, fun _ _ => rfl⟩) hS ?_
      try simp only [Act.put, List.setIfInBounds_toArray, List.set_cons_zero, List.set_cons_succ]
      refine wpAnyH_take (oi := ⟨_, _, _, _, _, _⟩) (i := 5) (v := pw q0 q1) rfl (by kernel_rfl) (by kernel_rfl) (by kernel_rfl) (fun _ _ _ h => h) (Or.inl ⟨by rfl, fun _ _ => by go_simp⟩) hS ?_
      try simp only [Act.put, List.setIfInBounds_toArray, List.set_cons_zero, List.set_cons_succ]
      refine wpAnyH_take (oi := ⟨_, _, _, _, _, _⟩) (i := 6) (v := .int .u64 (absW a b % absI d)) rfl (by kernel_rfl) (by kernel_rfl) (by kernel_rfl) (fun _ _ _ h => h) (Or.inl ⟨by rfl, fun _ _ => by go_simp⟩) hS ?_
      try simp only [Act.put, List.setIfInBounds_toArray, List.set_cons_zero, List.set_cons_succ]
      refine wpAnyH_all (rs := [7]) (by kernel_rfl) (by simp) fun i hi => ?_
      obtain rfl : i = 7 := by simpa using hi
      refine op_run (om := ⟨_, _, _, _, _, _⟩) (u := .pointer (some ⟨w1.heap.size, 0, none⟩)) (w' := (w1.alloc (.cells #[.int .u64 0, .int .u64 0] 24))) rfl rfl (by go_simp) _ _ rfl rfl ?_
      rintro u wA ⟨rfl, rfl⟩
      have s2 := s1.below (Below.al w1 (.cells #[.int .u64 0, .int .u64 0] 24))
      have PQ2 : PB (w1.alloc (.cells #[.int .u64 0, .int .u64 0] 24)) w1.heap.size 0 0 := PB.new _ _ _
      have hgq : w.heap.size + 1 + 1 + 1 < w1.heap.size := s1.x.lt
      generalize (w1.alloc (.cells #[.int .u64 0, .int .u64 0] 24)) = w2 at *
      have hS : PB w2 (w.heap.size + 1 + 1 + 1) x0 x1 := s2.x
      refine ⟨hS, ?_⟩
      try simp only [Act.put, List.setIfInBounds_toArray, List.set_cons_zero, List.set_cons_succ]
      refine wpAnyH_all (rs := [8]) (by kernel_rfl) (by simp) fun i hi => ?_
      obtain rfl : i = 8 := by simpa using hi
      refine wpOp_skip (om := ⟨_, _, _, _, _, _⟩) rfl rfl (ex_store 24 (.tmp 8) (.tmp 24) rfl _ _ rfl rfl (PQ2.store q0 q1)) ?_
      have sE : PB (wput w2 w1.heap.size q0 q1) (w.heap.size + 1 + 1 + 1) x0 x1 := s2.x.puto (by omega) q0 q1
      refine ⟨sE, ?_⟩
      try simp only [Act.put, List.setIfInBounds_toArray, List.set_cons_zero, List.set_cons_succ]
      have hS := sE
      refine wpAnyH_take (oi := ⟨_, _, _, _, _, _⟩) (i := 9) (v := .int .u64 (absW a b % absI d)) rfl (by kernel_rfl) (by kernel_rfl) (by kernel_rfl) (fun _ _ _ h => h) (Or.inl ⟨by rfl, fun _ _ => rfl⟩) hS ?_
      try simp only [Act.put, List.setIfInBounds_toArray, List.set_cons_zero, List.set_cons_succ]
      refine wpAnyH_done (by kernel_rfl) ?_ _
      try simp only [Act.put, List.setIfInBounds_toArray, List.set_cons_zero, List.set_cons_succ]
      have hsz : (wput w2 w1.heap.size q0 q1).heap.size = w2.heap.size := wput_size _ _ _ _
      have hql := PQ2.lt
      have HR := Lib.hid (And.intro hrr (And.intro eq (And.intro hq0 hq1)))
      generalize hR : absW a b % absI d = R at *
      have hRR := HR.out.1
      have g0 : SG w ((wput w2 w1.heap.size q0 q1).alloc (.cells #[.int .u64 0, .int .u64 R] 24)) w1.heap.size w2.heap.size q0 q1 0 R := by
        refine ⟨(s2.r4.puto (by omega) q0 q1).alloc _, (s2.r5.puto (by omega) q0 q1).alloc _, (PQ2.put q0 q1).alloc _, ?_, by omega, by have := s2.x.lt; omega, by omega, (below_put s2.bel (by omega) q0 q1).alloc (by rw [hsz]; have := s2.bel.size; omega) _⟩
        exact PB.at_ _ hsz.symm 0 R
      rw [← hsz] at g0
      have GR := Lib.hid g0.r.load
      have GQ := Lib.hid g0.q.load
      have G0 := Lib.hid g0
      clear sE hS hsz hql g0 eq hrr hq0 hq1 hRR
      have G2 := G0
      have GQ2 := GQ
      clear G0 GQ GR
      go_wp2_with (first | ((with_reducible refine here (op := .load 24 (.tmp 8)) ?_); refine wpList_load_run rfl 24 _ rfl _ _ rfl GQ2.out ?_) | fail)
      refine (NQ.out q0 q1 _ HR.out.2.2.1 HR.out.2.2.2).mono ?_
      rintro e wM ⟨k0, k1, rfl, hk0, hk1, ek, bb⟩
      have g3 := G2.out.below bb
      have QS2 := Lib.hid (g3.q.store k0 k1)
      have g4 := Lib.hid (g3.putQ k0 k1)
      have EK := Lib.hid ek
      clear bb g3 ek GQ2 G2
      go_wp2_with (first | ((with_reducible refine here (op := .store 24 (.tmp 8) (.tmp 36)) ?_); refine wpList_store_run rfl 24 _ _ rfl _ _ rfl rfl QS2.out ?_) | fail)
      refine wp_region_held (S := fun V => PB V w1.heap.size k0 k1 ∧ PB V (wput w2 w1.heap.size q0 q1).heap.size 0 R) (by kernel_rfl) ?_
      have g5 := g4.out.dr
      clear g4
      revert g5
      change SG w (wput wM w1.heap.size k0 k1).drew _ _ _ _ _ _ → wpAnyH _ _ _ _ _ _ _ _ (wput wM w1.heap.size k0 k1).drew
      generalize (wput wM w1.heap.size k0 k1).drew = wF
      intro g5
      have hS : PB wF w1.heap.size k0 k1 ∧ PB wF (wput w2 w1.heap.size q0 q1).heap.size 0 R := ⟨g5.q, g5.r⟩
      refine wpAnyH_take (oi := ⟨_, _, _, _, _, _⟩) (i := 0) (v := pw k0 k1) rfl (by kernel_rfl) (by kernel_rfl) (by kernel_rfl) (fun _ _ _ h => h) (yif_load rfl 24 (.tmp 8) rfl _ _ rfl fun w h => h.1.load) hS ?_
      try simp only [Act.put, List.setIfInBounds_toArray, List.set_cons_zero, List.set_cons_succ]
      refine wpAnyH_take (oi := ⟨_, _, _, _, _, _⟩) (i := 1) (v := pw 0 R) rfl (by kernel_rfl) (by kernel_rfl) (by kernel_rfl) (fun _ _ _ h => h) (yif_load rfl 24 (.tmp 10) rfl _ _ rfl fun w h => h.2.load) hS ?_
      try simp only [Act.put, List.setIfInBounds_toArray, List.set_cons_zero, List.set_cons_succ]
      refine wpAnyH_all (rs := [2]) (by kernel_rfl) (by simp) fun i hi => ?_
      obtain rfl : i = 2 := by simpa using hi
      refine wpOp_skip (om := ⟨_, _, _, _, _, _⟩) rfl rfl (ex_store 24 (.tmp 4) (.tmp 37) rfl _ _ rfl rfl (g5.r4.store k0 k1)) ?_
      have lq := g5.lq
      have lr := g5.lr
      have hS : PB (wput wF (w.heap.size + 1) k0 k1) w1.heap.size k0 k1 ∧ PB (wput wF (w.heap.size + 1) k0 k1) (wput w2 w1.heap.size q0 q1).heap.size 0 R := ⟨g5.q.puto (by omega) _ _, g5.r.puto (by omega) _ _⟩
      refine ⟨hS, ?_⟩
      try simp only [Act.put, List.setIfInBounds_toArray, List.set_cons_zero, List.set_cons_succ]
      refine wpAnyH_all (rs := [3]) (by kernel_rfl) (by simp) fun i hi => ?_
      obtain rfl : i = 3 := by simpa using hi
      have p5 := g5.r5.puto (show w.heap.size + 1 + 1 ≠ w.heap.size + 1 by omega) k0 k1
      refine wpOp_skip (om := ⟨_, _, _, _, _, _⟩) rfl rfl (ex_store 24 (.tmp 5) (.tmp 38) rfl _ _ rfl rfl (p5.store 0 R)) ?_
      refine ⟨⟨hS.1.puto (by omega) _ _, hS.2.puto (by omega) _ _⟩, ?_⟩
      try simp only [Act.put, List.setIfInBounds_toArray, List.set_cons_zero, List.set_cons_succ]
      refine wpAnyH_done (by kernel_rfl) ?_ _
      try simp only [Act.put, List.setIfInBounds_toArray, List.set_cons_zero, List.set_cons_succ]
      have z4 := (g5.r4.put k0 k1).puto (show w.heap.size + 1 ≠ w.heap.size + 1 + 1 by omega) 0 R
      have z5 := p5.put 0 R
      have zb := below_put (below_put g5.bel (show w.heap.size ≤ w.heap.size + 1 by omega) k0 k1) (show w.heap.size ≤ w.heap.size + 1 + 1 by omega) 0 R
      clear hS p5 g5 lq lr
      go_wp2_with fail
      refine bodyPost_ret (v := .tuple #[pw k0 k1, pw 0 R]) ?_ rfl ⟨k0, k1, 0, R, rfl, hk0, hk1, half0, HR.out.1, by rw [HTQ.out, EK.out, HR.out.2.1]; rfl, by rw [HTR.out]; exact (low_small HR.out.1).symm, zb⟩
      exact results_row_row rfl _ _ (w.heap.size + 1) (w.heap.size + 1 + 1) 24 _ _ (0, 0) (0, 0) _ rfl rfl z4 z5 Try.underlying24 rfl Try.sizeW Try.sizeW
    · refine op_run (om := ⟨_, _, _, _, _, _⟩) (u := .pointer (some ⟨w0.heap.size, 0, none⟩)) (w' := (w0.alloc (.cells #[.int .u64 0, .int .u64 0] 24))) rfl rfl (by go_simp) _ _ rfl rfl ?_
      rintro u wA ⟨rfl, rfl⟩
      have s1 := s0.below (Below.al w0 (.cells #[.int .u64 0, .int .u64 0] 24))
      have PQ1 : PB (w0.alloc (.cells #[.int .u64 0, .int .u64 0] 24)) w0.heap.size 0 0 := PB.new _ _ _
      have hgq : w.heap.size + 1 + 1 + 1 < w0.heap.size := s0.x.lt
      generalize (w0.alloc (.cells #[.int .u64 0, .int .u64 0] 24)) = w1 at *
      have hS : PB w1 (w.heap.size + 1 + 1 + 1) x0 x1 := s1.x
      refine ⟨hS, ?_⟩
      try simp only [Act.put, List.setIfInBounds_toArray, List.set_cons_zero, List.set_cons_succ]
      refine wpAnyH_all (rs := [3]) (by kernel_rfl) (by simp) fun i hi => ?_
      obtain rfl : i = 3 := by simpa using hi
      have p1 := PQ1
      refine op_call (om := ⟨_, _, _, _, _, _⟩) (fn := 39) (args := #[pw x0 x1, .int .u64 (absI d)]) (R := fun u w' => QI w1 (x0 * 18446744073709551616 + x1) (absI d) (.returned u) w') rfl rfl (by go_simp)
        ((DV.out w1).mono fun e w' h => by obtain ⟨x, y, rfl, h1⟩ := h; exact ⟨_, rfl, x, y, rfl, h1⟩) _ _ rfl rfl ?_
      rintro u w2 ⟨q0, q1, hu, hq0, hq1, eq, bb⟩
      cases hu
      rw [EX.out] at eq ⊢
      have s2 := s1.below bb
      have q2 := p1.below bb p1.lt
      have hS : PB w2 (w.heap.size + 1 + 1 + 1) x0 x1 := s2.x
      refine ⟨hS, ?_⟩
      try simp only [Act.put, List.setIfInBounds_toArray, List.set_cons_zero, List.set_cons_succ]
      refine wpAnyH_take (oi := ⟨_, _, _, _, _, _⟩) (i := 4) (v := .tuple #[pw q0 q1, .int .u64 (absW a b % absI d)]) rfl (by kernel_rfl) (by kernel_rfl) (by kernel_rfl) (fun _ _ _ h => h) (Or.inl ⟨by rfl, fun _ _ => rfl⟩) hS ?_
      try simp only [Act.put, List.setIfInBounds_toArray, List.set_cons_zero, List.set_cons_succ]
      refine wpAnyH_take (oi := ⟨_, _, _, _, _, _⟩) (i := 5) (v := pw q0 q1) rfl (by kernel_rfl) (by kernel_rfl) (by kernel_rfl) (fun _ _ _ h => h) (Or.inl ⟨by rfl, fun _ _ => by go_simp⟩) hS ?_
      try simp only [Act.put, List.setIfInBounds_toArray, List.set_cons_zero, List.set_cons_succ]
      refine wpAnyH_take (oi := ⟨_, _, _, _, _, _⟩) (i := 6) (v := .int .u64 (absW a b % absI d)) rfl (by kernel_rfl) (by kernel_rfl) (by kernel_rfl) (fun _ _ _ h => h) (Or.inl ⟨by rfl, fun _ _ => by go_simp⟩) hS ?_
      try simp only [Act.put, List.setIfInBounds_toArray, List.set_cons_zero, List.set_cons_succ]
      refine wpAnyH_all (rs := [8]) (by kernel_rfl) (by simp) fun i hi => ?_
      obtain rfl : i = 8 := by simpa using hi
      refine wpOp_skip (om := ⟨_, _, _, _, _, _⟩) rfl rfl (ex_store 24 (.tmp 8) (.tmp 24) rfl _ _ rfl rfl (q2.store q0 q1)) ?_
      have sE : PB (wput w2 w0.heap.size q0 q1) (w.heap.size + 1 + 1 + 1) x0 x1 := s2.x.puto (by omega) q0 q1
      refine ⟨sE, ?_⟩
      try simp only [Act.put, List.setIfInBounds_toArray, List.set_cons_zero, List.set_cons_succ]
      have hS := sE
      refine wpAnyH_take (oi := ⟨_, _, _, _, _, _⟩) (i := 9) (v := .int .u64 (absW a b % absI d)) rfl (by kernel_rfl) (by kernel_rfl) (by kernel_rfl) (fun _ _ _ h => h) (Or.inl ⟨by rfl, fun _ _ => rfl⟩) hS ?_
      try simp only [Act.put, List.setIfInBounds_toArray, List.set_cons_zero, List.set_cons_succ]
      refine wpAnyH_done (by kernel_rfl) ?_ _
      try simp only [Act.put, List.setIfInBounds_toArray, List.set_cons_zero, List.set_cons_succ]
      have hsz : (wput w2 w0.heap.size q0 q1).heap.size = w2.heap.size := wput_size _ _ _ _
      have hql := q2.lt
      have HR := Lib.hid (And.intro hrr (And.intro eq (And.intro hq0 hq1)))
      generalize hR : absW a b % absI d = R at *
      have hRR := HR.out.1
      have g0 : SG w ((wput w2 w0.heap.size q0 q1).alloc (.cells #[.int .u64 0, .int .u64 R] 24)) w0.heap.size w2.heap.size q0 q1 0 R := by
        refine ⟨(s2.r4.puto (by omega) q0 q1).alloc _, (s2.r5.puto (by omega) q0 q1).alloc _, (q2.put q0 q1).alloc _, ?_, by omega, by have := s2.x.lt; omega, by omega, (below_put s2.bel (by omega) q0 q1).alloc (by rw [hsz]; have := s2.bel.size; omega) _⟩
        exact PB.at_ _ hsz.symm 0 R
      rw [← hsz] at g0
      have GR := Lib.hid g0.r.load
      have GQ := Lib.hid g0.q.load
      have G0 := Lib.hid g0
      clear sE hS hsz hql g0 eq hrr hq0 hq1 hRR
      have G2 := G0
      have GQ2 := GQ
      clear G0 GQ GR
      go_wp2_with (first | ((with_reducible refine here (op := .load 24 (.tmp 8)) ?_); refine wpList_load_run rfl 24 _ rfl _ _ rfl GQ2.out ?_) | fail)
      refine (NQ.out q0 q1 _ HR.out.2.2.1 HR.out.2.2.2).mono ?_
      rintro e wM ⟨k0, k1, rfl, hk0, hk1, ek, bb⟩
      have g3 := G2.out.below bb
      have QS2 := Lib.hid (g3.q.store k0 k1)
      have g4 := Lib.hid (g3.putQ k0 k1)
      have EK := Lib.hid ek
      clear bb g3 ek GQ2 G2
      go_wp2_with (first | ((with_reducible refine here (op := .store 24 (.tmp 8) (.tmp 36)) ?_); refine wpList_store_run rfl 24 _ _ rfl _ _ rfl rfl QS2.out ?_) | fail)
      refine wp_region_held (S := fun V => PB V w0.heap.size k0 k1 ∧ PB V (wput w2 w0.heap.size q0 q1).heap.size 0 R) (by kernel_rfl) ?_
      have g5 := g4.out.dr
      clear g4
      revert g5
      change SG w (wput wM w0.heap.size k0 k1).drew _ _ _ _ _ _ → wpAnyH _ _ _ _ _ _ _ _ (wput wM w0.heap.size k0 k1).drew
      generalize (wput wM w0.heap.size k0 k1).drew = wF
      intro g5
      have hS : PB wF w0.heap.size k0 k1 ∧ PB wF (wput w2 w0.heap.size q0 q1).heap.size 0 R := ⟨g5.q, g5.r⟩
      refine wpAnyH_take (oi := ⟨_, _, _, _, _, _⟩) (i := 0) (v := pw k0 k1) rfl (by kernel_rfl) (by kernel_rfl) (by kernel_rfl) (fun _ _ _ h => h) (yif_load rfl 24 (.tmp 8) rfl _ _ rfl fun w h => h.1.load) hS ?_
      try simp only [Act.put, List.setIfInBounds_toArray, List.set_cons_zero, List.set_cons_succ]
      refine wpAnyH_take (oi := ⟨_, _, _, _, _, _⟩) (i := 1) (v := pw 0 R) rfl (by kernel_rfl) (by kernel_rfl) (by kernel_rfl) (fun _ _ _ h => h) (yif_load rfl 24 (.tmp 10) rfl _ _ rfl fun w h => h.2.load) hS ?_
      try simp only [Act.put, List.setIfInBounds_toArray, List.set_cons_zero, List.set_cons_succ]
      refine wpAnyH_all (rs := [2]) (by kernel_rfl) (by simp) fun i hi => ?_
      obtain rfl : i = 2 := by simpa using hi
      refine wpOp_skip (om := ⟨_, _, _, _, _, _⟩) rfl rfl (ex_store 24 (.tmp 4) (.tmp 37) rfl _ _ rfl rfl (g5.r4.store k0 k1)) ?_
      have lq := g5.lq
      have lr := g5.lr
      have hS : PB (wput wF (w.heap.size + 1) k0 k1) w0.heap.size k0 k1 ∧ PB (wput wF (w.heap.size + 1) k0 k1) (wput w2 w0.heap.size q0 q1).heap.size 0 R := ⟨g5.q.puto (by omega) _ _, g5.r.puto (by omega) _ _⟩
      refine ⟨hS, ?_⟩
      try simp only [Act.put, List.setIfInBounds_toArray, List.set_cons_zero, List.set_cons_succ]
      refine wpAnyH_all (rs := [3]) (by kernel_rfl) (by simp) fun i hi => ?_
      obtain rfl : i = 3 := by simpa using hi
      have p5 := g5.r5.puto (show w.heap.size + 1 + 1 ≠ w.heap.size + 1 by omega) k0 k1
      refine wpOp_skip (om := ⟨_, _, _, _, _, _⟩) rfl rfl (ex_store 24 (.tmp 5) (.tmp 38) rfl _ _ rfl rfl (p5.store 0 R)) ?_
      refine ⟨⟨hS.1.puto (by omega) _ _, hS.2.puto (by omega) _ _⟩, ?_⟩
      try simp only [Act.put, List.setIfInBounds_toArray, List.set_cons_zero, List.set_cons_succ]
      refine wpAnyH_done (by kernel_rfl) ?_ _
      try simp only [Act.put, List.setIfInBounds_toArray, List.set_cons_zero, List.set_cons_succ]
      have z4 := (g5.r4.put k0 k1).puto (show w.heap.size + 1 ≠ w.heap.size + 1 + 1 by omega) 0 R
      have z5 := p5.put 0 R
      have zb := below_put (below_put g5.bel (show w.heap.size ≤ w.heap.size + 1 by omega) k0 k1) (show w.heap.size ≤ w.heap.size + 1 + 1 by omega) 0 R
      clear hS p5 g5 lq lr
      go_wp2_with fail
      refine bodyPost_ret (v := .tuple #[pw k0 k1, pw 0 R]) ?_ rfl ⟨k0, k1, 0, R, rfl, hk0, hk1, half0, HR.out.1, by rw [HTQ.out, EK.out, HR.out.2.1]; rfl, by rw [HTR.out]; exact (low_small HR.out.1).symm, zb⟩
      exact results_row_row rfl _ _ (w.heap.size + 1) (w.heap.size + 1 + 1) 24 _ _ (0, 0) (0, 0) _ rfl rfl z4 z5 Try.underlying24 rfl Try.sizeW Try.sizeW
  · refine op_run (om := ⟨_, _, _, _, _, _⟩) (u := .pointer (some ⟨w0.heap.size, 0, none⟩)) (w' := (w0.alloc (.cells #[.int .u64 0, .int .u64 0] 24))) rfl rfl (by go_simp) _ _ rfl rfl ?_
    rintro u wA ⟨rfl, rfl⟩
    have s1 := s0.below (Below.al w0 (.cells #[.int .u64 0, .int .u64 0] 24))
    have PQ1 : PB (w0.alloc (.cells #[.int .u64 0, .int .u64 0] 24)) w0.heap.size 0 0 := PB.new _ _ _
    have hgq : w.heap.size + 1 + 1 + 1 < w0.heap.size := s0.x.lt
    generalize (w0.alloc (.cells #[.int .u64 0, .int .u64 0] 24)) = w1 at *
    have hS : PB w1 (w.heap.size + 1 + 1 + 1) x0 x1 := s1.x
    refine ⟨hS, ?_⟩
    try simp only [Act.put, List.setIfInBounds_toArray, List.set_cons_zero, List.set_cons_succ]
    refine wpAnyH_all (rs := [2]) (by kernel_rfl) (by simp) fun i hi => ?_
    obtain rfl : i = 2 := by simpa using hi
    refine op_call (om := ⟨_, _, _, _, _, _⟩) (fn := 33) (args := #[.int .i64 d]) (R := fun u w' => u = .int .u64 (absI d) ∧ w1 = w') rfl rfl (by go_simp)
      ((RS.out w1).mono fun e w' h => ⟨_, h.1, rfl, h.2⟩) _ _ rfl rfl ?_
    rintro u wX ⟨rfl, hwX⟩
    subst hwX
    have hS : PB w1 (w.heap.size + 1 + 1 + 1) x0 x1 := s1.x
    refine ⟨hS, ?_⟩
    try simp only [Act.put, List.setIfInBounds_toArray, List.set_cons_zero, List.set_cons_succ]
    refine wpAnyH_all (rs := [3]) (by kernel_rfl) (by simp) fun i hi => ?_
    obtain rfl : i = 3 := by simpa using hi
    have p1 := PQ1
    refine op_call (om := ⟨_, _, _, _, _, _⟩) (fn := 39) (args := #[pw x0 x1, .int .u64 (absI d)]) (R := fun u w' => QI w1 (x0 * 18446744073709551616 + x1) (absI d) (.returned u) w') rfl rfl (by go_simp)
      ((DV.out w1).mono fun e w' h => by obtain ⟨x, y, rfl, h1⟩ := h; exact ⟨_, rfl, x, y, rfl, h1⟩) _ _ rfl rfl ?_
    rintro u w2 ⟨q0, q1, hu, hq0, hq1, eq, bb⟩
    cases hu
    rw [EX.out] at eq ⊢
    have s2 := s1.below bb
    have q2 := p1.below bb p1.lt
    have hS : PB w2 (w.heap.size + 1 + 1 + 1) x0 x1 := s2.x
    refine ⟨hS, ?_⟩
    try simp only [Act.put, List.setIfInBounds_toArray, List.set_cons_zero, List.set_cons_succ]
    refine wpAnyH_take (oi := ⟨_, _, _, _, _, _⟩) (i := 4) (v := .tuple #[pw q0 q1, .int .u64 (absW a b % absI d)]) rfl (by kernel_rfl) (by kernel_rfl) (by kernel_rfl) (fun _ _ _ h => h) (Or.inl ⟨by rfl, fun _ _ => rfl⟩) hS ?_
    try simp only [Act.put, List.setIfInBounds_toArray, List.set_cons_zero, List.set_cons_succ]
    refine wpAnyH_take (oi := ⟨_, _, _, _, _, _⟩) (i := 5) (v := pw q0 q1) rfl (by kernel_rfl) (by kernel_rfl) (by kernel_rfl) (fun _ _ _ h => h) (Or.inl ⟨by rfl, fun _ _ => by go_simp⟩) hS ?_
    try simp only [Act.put, List.setIfInBounds_toArray, List.set_cons_zero, List.set_cons_succ]
    refine wpAnyH_take (oi := ⟨_, _, _, _, _, _⟩) (i := 6) (v := .int .u64 (absW a b % absI d)) rfl (by kernel_rfl) (by kernel_rfl) (by kernel_rfl) (fun _ _ _ h => h) (Or.inl ⟨by rfl, fun _ _ => by go_simp⟩) hS ?_
    try simp only [Act.put, List.setIfInBounds_toArray, List.set_cons_zero, List.set_cons_succ]
    refine wpAnyH_all (rs := [8]) (by kernel_rfl) (by simp) fun i hi => ?_
    obtain rfl : i = 8 := by simpa using hi
    refine wpOp_skip (om := ⟨_, _, _, _, _, _⟩) rfl rfl (ex_store 24 (.tmp 8) (.tmp 24) rfl _ _ rfl rfl (q2.store q0 q1)) ?_
    have sE : PB (wput w2 w0.heap.size q0 q1) (w.heap.size + 1 + 1 + 1) x0 x1 := s2.x.puto (by omega) q0 q1
    refine ⟨sE, ?_⟩
    try simp only [Act.put, List.setIfInBounds_toArray, List.set_cons_zero, List.set_cons_succ]
    have hS := sE
    refine wpAnyH_take (oi := ⟨_, _, _, _, _, _⟩) (i := 9) (v := .int .u64 (absW a b % absI d)) rfl (by kernel_rfl) (by kernel_rfl) (by kernel_rfl) (fun _ _ _ h => h) (Or.inl ⟨by rfl, fun _ _ => rfl⟩) hS ?_
    try simp only [Act.put, List.setIfInBounds_toArray, List.set_cons_zero, List.set_cons_succ]
    refine wpAnyH_done (by kernel_rfl) ?_ _
    try simp only [Act.put, List.setIfInBounds_toArray, List.set_cons_zero, List.set_cons_succ]
    have hsz : (wput w2 w0.heap.size q0 q1).heap.size = w2.heap.size := wput_size _ _ _ _
    have hql := q2.lt
    have HR := Lib.hid (And.intro hrr (And.intro eq (And.intro hq0 hq1)))
    generalize hR : absW a b % absI d = R at *
    have hRR := HR.out.1
    have g0 : SG w ((wput w2 w0.heap.size q0 q1).alloc (.cells #[.int .u64 0, .int .u64 R] 24)) w0.heap.size w2.heap.size q0 q1 0 R := by
      refine ⟨(s2.r4.puto (by omega) q0 q1).alloc _, (s2.r5.puto (by omega) q0 q1).alloc _, (q2.put q0 q1).alloc _, ?_, by omega, by have := s2.x.lt; omega, by omega, (below_put s2.bel (by omega) q0 q1).alloc (by rw [hsz]; have := s2.bel.size; omega) _⟩
      exact PB.at_ _ hsz.symm 0 R
    rw [← hsz] at g0
    have GR := Lib.hid g0.r.load
    have GQ := Lib.hid g0.q.load
    have G0 := Lib.hid g0
    clear sE hS hsz hql g0 eq hrr hq0 hq1 hRR
    have G2 := G0
    have GQ2 := GQ
    clear G0 GQ GR
    go_wp2_with (first | ((with_reducible refine here (op := .load 24 (.tmp 8)) ?_); refine wpList_load_run rfl 24 _ rfl _ _ rfl GQ2.out ?_) | fail)
    refine (NQ.out q0 q1 _ HR.out.2.2.1 HR.out.2.2.2).mono ?_
    rintro e wM ⟨k0, k1, rfl, hk0, hk1, ek, bb⟩
    have g3 := G2.out.below bb
    have QS2 := Lib.hid (g3.q.store k0 k1)
    have g4 := Lib.hid (g3.putQ k0 k1)
    have EK := Lib.hid ek
    clear bb g3 ek GQ2 G2
    go_wp2_with (first | ((with_reducible refine here (op := .store 24 (.tmp 8) (.tmp 36)) ?_); refine wpList_store_run rfl 24 _ _ rfl _ _ rfl rfl QS2.out ?_) | fail)
    refine wp_region_held (S := fun V => PB V w0.heap.size k0 k1 ∧ PB V (wput w2 w0.heap.size q0 q1).heap.size 0 R) (by kernel_rfl) ?_
    have g5 := g4.out.dr
    clear g4
    revert g5
    change SG w (wput wM w0.heap.size k0 k1).drew _ _ _ _ _ _ → wpAnyH _ _ _ _ _ _ _ _ (wput wM w0.heap.size k0 k1).drew
    generalize (wput wM w0.heap.size k0 k1).drew = wF
    intro g5
    have hS : PB wF w0.heap.size k0 k1 ∧ PB wF (wput w2 w0.heap.size q0 q1).heap.size 0 R := ⟨g5.q, g5.r⟩
    refine wpAnyH_take (oi := ⟨_, _, _, _, _, _⟩) (i := 0) (v := pw k0 k1) rfl (by kernel_rfl) (by kernel_rfl) (by kernel_rfl) (fun _ _ _ h => h) (yif_load rfl 24 (.tmp 8) rfl _ _ rfl fun w h => h.1.load) hS ?_
    try simp only [Act.put, List.setIfInBounds_toArray, List.set_cons_zero, List.set_cons_succ]
    refine wpAnyH_take (oi := ⟨_, _, _, _, _, _⟩) (i := 1) (v := pw 0 R) rfl (by kernel_rfl) (by kernel_rfl) (by kernel_rfl) (fun _ _ _ h => h) (yif_load rfl 24 (.tmp 10) rfl _ _ rfl fun w h => h.2.load) hS ?_
    try simp only [Act.put, List.setIfInBounds_toArray, List.set_cons_zero, List.set_cons_succ]
    refine wpAnyH_all (rs := [2]) (by kernel_rfl) (by simp) fun i hi => ?_
    obtain rfl : i = 2 := by simpa using hi
    refine wpOp_skip (om := ⟨_, _, _, _, _, _⟩) rfl rfl (ex_store 24 (.tmp 4) (.tmp 37) rfl _ _ rfl rfl (g5.r4.store k0 k1)) ?_
    have lq := g5.lq
    have lr := g5.lr
    have hS : PB (wput wF (w.heap.size + 1) k0 k1) w0.heap.size k0 k1 ∧ PB (wput wF (w.heap.size + 1) k0 k1) (wput w2 w0.heap.size q0 q1).heap.size 0 R := ⟨g5.q.puto (by omega) _ _, g5.r.puto (by omega) _ _⟩
    refine ⟨hS, ?_⟩
    try simp only [Act.put, List.setIfInBounds_toArray, List.set_cons_zero, List.set_cons_succ]
    refine wpAnyH_all (rs := [3]) (by kernel_rfl) (by simp) fun i hi => ?_
    obtain rfl : i = 3 := by simpa using hi
    have p5 := g5.r5.puto (show w.heap.size + 1 + 1 ≠ w.heap.size + 1 by omega) k0 k1
    refine wpOp_skip (om := ⟨_, _, _, _, _, _⟩) rfl rfl (ex_store 24 (.tmp 5) (.tmp 38) rfl _ _ rfl rfl (p5.store 0 R)) ?_
    refine ⟨⟨hS.1.puto (by omega) _ _, hS.2.puto (by omega) _ _⟩, ?_⟩
    try simp only [Act.put, List.setIfInBounds_toArray, List.set_cons_zero, List.set_cons_succ]
    refine wpAnyH_done (by kernel_rfl) ?_ _
    try simp only [Act.put, List.setIfInBounds_toArray, List.set_cons_zero, List.set_cons_succ]
    have z4 := (g5.r4.put k0 k1).puto (show w.heap.size + 1 ≠ w.heap.size + 1 + 1 by omega) 0 R
    have z5 := p5.put 0 R
    have zb := below_put (below_put g5.bel (show w.heap.size ≤ w.heap.size + 1 by omega) k0 k1) (show w.heap.size ≤ w.heap.size + 1 + 1 by omega) 0 R
    clear hS p5 g5 lq lr
    go_wp2_with fail
    refine bodyPost_ret (v := .tuple #[pw k0 k1, pw 0 R]) ?_ rfl ⟨k0, k1, 0, R, rfl, hk0, hk1, half0, HR.out.1, by rw [HTQ.out, EK.out, HR.out.2.1]; rfl, by rw [HTR.out]; exact (low_small HR.out.1).symm, zb⟩
    exact results_row_row rfl _ _ (w.heap.size + 1) (w.heap.size + 1 + 1) 24 _ _ (0, 0) (0, 0) _ rfl rfl z4 z5 Try.underlying24 rfl Try.sizeW Try.sizeW
set_option maxRecDepth 100000 in
set_option maxHeartbeats 2000000 in
theorem signed_yn (a b d : Int) (ha : half a) (hb : half b) (hd : i64r d) (h0 : d ≠ 0) (hneg : negW a = true) (hsg : decide (d < 0) = false) (w : World) :
    Calls Try.prog 44 #[pw a b, .int .i64 d] w (SO w (tq a b d) (tr a b d)) := by
  have hsh : (a / 9223372036854775808 == 1) = true := by
    rw [← hneg]
    unfold negW half at *
    rw [Bool.eq_iff_iff]
    simp
    omega
  have RS := Lib.hid (rsize_any d hd.1 hd.2)
  have hAI : half (absI d) := by
    have := absI_le hd
    have := absI_pos h0
    unfold half
    omega
  have hA0 : absI d ≠ 0 := by have := absI_pos h0; omega
  have nn := absW_nn ha hb
  have NNQ := Lib.hid (show 0 ≤ absW a b / absI d ∧ absW a b / absI d < 340282366920938463463374607431768211456 from ⟨Int.ediv_nonneg nn.1 hAI.1, by have := Int.ediv_le_self (absI d) nn.1; omega⟩)
  have hrr : half (absW a b % absI d) := by
    have h1 := Int.emod_nonneg (absW a b) hA0
    have h2 := Int.emod_lt_of_pos (absW a b) (absI_pos h0)
    unfold half at *
    omega
  have HTQ := Lib.hid (show tq a b d = sgn true (absW a b / absI d) by unfold tq; rw [hneg, hsg]; rfl)
  have HTR := Lib.hid (show tr a b d = sgn true (absW a b % absI d) by unfold tr; rw [hneg])
  have NR := Lib.hid (fun r w hr => rneg_any 0 r half0 hr w)
  have NQ := Lib.hid (fun x y w hx hy => rneg_any x y hx hy w)
  have s0 := Lib.hid (SP.start w a b)
  have AW := Lib.hid (abs_sgn a b ha hb)
  have AB := Lib.hid (And.intro ha hb)
  clear hd nn
  have hd1 : ¬ d < 0 := by simpa using hsg
  have hd2 : decide (d < 0) = false := hsg
  rw [hneg] at AW
  clear hsg hneg
  go_enter Try.func44, Try.ntmps44
  have LD := Lib.hid (show PB ((((w.alloc (.cells #[.int .u64 a, .int .u64 b] 24)).alloc (.cells #[.int .u64 0, .int .u64 0] 24)).alloc (.cells #[.int .u64 0, .int .u64 0] 24)).alloc (.cells #[.int .u64 a, .int .u64 b] 24)) w.heap.size a b from PB.alloc (PB.alloc (PB.alloc (PB.new _ _ _) _) _) _).load
  go_wp2_with (first | ((with_reducible refine here (op := .load 24 (.tmp 2)) ?_); refine wpList_load_run rfl 24 _ rfl _ _ rfl LD.out ?_) | fail)
  refine (rneg_any a b ha hb _).mono ?_
  rintro e w1 ⟨x0, x1, rfl, hx0, hx1, ex, bb⟩
  have s1 := s0.out.below bb
  have XS := Lib.hid (s1.x.store x0 x1)
  have s2 := Lib.hid (s1.put x0 x1)
  have EX := Lib.hid (ex.trans AW.out)
  clear bb s1 ex LD s0
  go_wp2_with (first | ((with_reducible refine here (op := .store 24 (.tmp 7) (.tmp 18)) ?_); refine wpList_store_run rfl 24 _ _ rfl _ _ rfl rfl XS.out ?_) | fail)
  have DV := Lib.hid (rdiv_any x0 x1 (absI d) hx0 hx1 hAI hA0)
  refine wp_region_held (S := fun V => PB V (w.heap.size + 1 + 1 + 1) x0 x1) (by kernel_rfl) ?_
  have s9 := s2.out.dr
  clear s2
  revert s9
  change SP w (wput w1 (w.heap.size + 1 + 1 + 1) x0 x1).drew _ _ → wpAnyH _ _ _ _ _ _ _ _ (wput w1 (w.heap.size + 1 + 1 + 1) x0 x1).drew
  generalize (wput w1 (w.heap.size + 1 + 1 + 1) x0 x1).drew = w0
  intro s0
  have hS : PB w0 (w.heap.size + 1 + 1 + 1) x0 x1 := s0.x
  refine wpAnyH_take (oi := ⟨_, _, _, _, _, _⟩) (i := 0) (v := pw x0 x1) rfl (by kernel_rfl) (by kernel_rfl) (by kernel_rfl) (fun _ _ _ h => h) (yif_load rfl 24 (.tmp 7) rfl _ _ rfl fun w h => h.load) hS ?_
  try simp only [Act.put, List.setIfInBounds_toArray, List.set_cons_zero, List.set_cons_succ]
  refine wpAnyH_take (oi := ⟨_, _, _, _, _, _⟩) (i := 1) (v := .int .i64 d) rfl (by kernel_rfl) (by kernel_rfl) (by kernel_rfl) (fun _ _ _ h => h) (Or.inl ⟨by rfl, fun _ _ => rfl⟩) hS ?_
  try simp only [Act.put, List.setIfInBounds_toArray, List.set_cons_zero, List.set_cons_succ]
  refine wpAnyH_all (rs := [2, 7]) (by kernel_rfl) (by simp) fun i hi => ?_
  have hi2 : i = 2 ∨ i = 7 := by simpa using hi
  rcases hi2 with rfl | rfl
  · refine op_call (om := ⟨_, _, _, _, _, _⟩) (fn := 33) (args := #[.int .i64 d]) (R := fun u w' => u = .int .u64 (absI d) ∧ w0 = w') rfl rfl (by go_simp)
      ((RS.out w0).mono fun e w' h => ⟨_, h.1, rfl, h.2⟩) _ _ rfl rfl ?_
    rintro u wX ⟨rfl, hwX⟩
    subst hwX
    have hS : PB w0 (w.heap.size + 1 + 1 + 1) x0 x1 := s0.x
    refine ⟨hS, ?_⟩
    try simp only [Act.put, List.setIfInBounds_toArray, List.set_cons_zero, List.set_cons_succ]
    refine wpAnyH_all (rs := [3, 7]) (by kernel_rfl) (by simp) fun i hi => ?_
    have hi2 : i = 3 ∨ i = 7 := by simpa using hi
    rcases hi2 with rfl | rfl
    · refine op_call (om := ⟨_, _, _, _, _, _⟩) (fn := 39) (args := #[pw x0 x1, .int .u64 (absI d)]) (R := fun u w' => QI w0 (x0 * 18446744073709551616 + x1) (absI d) (.returned u) w') rfl rfl (by go_simp)
        ((DV.out w0).mono fun e w' h => by obtain ⟨x, y, rfl, h1⟩ := h; exact ⟨_, rfl, x, y, rfl, h1⟩) _ _ rfl rfl ?_
      rintro u w1 ⟨q0, q1, hu, hq0, hq1, eq, bb⟩
      cases hu
      rw [EX.out] at eq ⊢
      have s1 := s0.below bb
      have hS : PB w1 (w.heap.size + 1 + 1 + 1) x0 x1 := s1.x
      refine ⟨hS, ?_⟩
      try simp only [Act.put, List.setIfInBounds_toArray, List.set_cons_zero, List.set_cons_succ]
      refine wpAnyH_take (oi := ⟨_, _, _, _, _, _⟩) (i := 4) (v := .tuple #[pw q0 q1, .int .u64 (absW a b % absI d)]) rfl (by kernel_rfl) (by kernel_rfl) (by kernel_rfl) (fun _ _ _ h => h) (Or.inl ⟨by rfl, fun _ _ => rfl⟩) hS ?_
      try simp only [Act.put, List.setIfInBounds_toArray, List.set_cons_zero, List.set_cons_succ]
      refine wpAnyH_take (oi := ⟨_, _, _, _, _, _⟩) (i := 5) (v := pw q0 q1) rfl (by kernel_rfl) (by kernel_rfl) (by kernel_rfl) (fun _ _ _ h => h) (Or.inl ⟨by rfl, fun _ _ => by go_simp⟩) hS ?_
      try simp only [Act.put, List.setIfInBounds_toArray, List.set_cons_zero, List.set_cons_succ]
      refine wpAnyH_take (oi := ⟨_, _, _, _, _, _⟩) (i := 6) (v := .int .u64 (absW a b % absI d)) rfl (by kernel_rfl) (by kernel_rfl) (by kernel_rfl) (fun _ _ _ h => h) (Or.inl ⟨by rfl, fun _ _ => by go_simp⟩) hS ?_
      try simp only [Act.put, List.setIfInBounds_toArray, List.set_cons_zero, List.set_cons_succ]
      refine wpAnyH_all (rs := [7]) (by kernel_rfl) (by simp) fun i hi => ?_
      obtain rfl : i = 7 := by simpa using hi
      refine op_run (om := ⟨_, _, _, _, _, _⟩) (u := .pointer (some ⟨w1.heap.size, 0, none⟩)) (w' := (w1.alloc (.cells #[.int .u64 0, .int .u64 0] 24))) rfl rfl (by go_simp) _ _ rfl rfl ?_
      rintro u wA ⟨rfl, rfl⟩
      have s2 := s1.below (Below.al w1 (.cells #[.int .u64 0, .int .u64 0] 24))
      have PQ2 : PB (w1.alloc (.cells #[.int .u64 0, .int .u64 0] 24)) w1.heap.size 0 0 := PB.new _ _ _
      have hgq : w.heap.size + 1 + 1 + 1 < w1.heap.size := s1.x.lt
      generalize (w1.alloc (.cells #[.int .u64 0, .int .u64 0] 24)) = w2 at *
      have hS : PB w2 (w.heap.size + 1 + 1 + 1) x0 x1 := s2.x
      refine ⟨hS, ?_⟩
      try simp only [Act.put, List.setIfInBounds_toArray, List.set_cons_zero, List.set_cons_succ]
      refine wpAnyH_all (rs := [8]) (by kernel_rfl) (by simp) fun i hi => ?_
      obtain rfl : i = 8 := by simpa using hi
      refine wpOp_skip (om := ⟨_, _, _, _, _, _⟩) rfl rfl (ex_store 24 (.tmp 8) (.tmp 24) rfl _ _ rfl rfl (PQ2.store q0 q1)) ?_
      have sE : PB (wput w2 w1.heap.size q0 q1) (w.heap.size + 1 + 1 + 1) x0 x1 := s2.x.puto (by omega) q0 q1
      refine ⟨sE, ?_⟩
      try simp only [Act.put, List.setIfInBounds_toArray, List.set_cons_zero, List.set_cons_succ]
      have hS := sE
      refine wpAnyH_take (oi := ⟨_, _, _, _, _, _⟩) (i := 9) (v := .int .u64 (absW a b % absI d)) rfl (by kernel_rfl) (by kernel_rfl) (by kernel_rfl) (fun _ _ _ h => h) (Or.inl ⟨by rfl, fun _ _ => rfl⟩) hS ?_
      try simp only [Act.put, List.setIfInBounds_toArray, List.set_cons_zero, List.set_cons_succ]
      refine wpAnyH_done (by kernel_rfl) ?_ _
      try simp only [Act.put, List.setIfInBounds_toArray, List.set_cons_zero, List.set_cons_succ]
      have hsz : (wput w2 w1.heap.size q0 q1).heap.size = w2.heap.size := wput_size _ _ _ _
      have hql := PQ2.lt
      have HR := Lib.hid (And.intro hrr (And.intro eq (And.intro hq0 hq1)))
      generalize hR : absW a b % absI d = R at *
      have hRR := HR.out.1
      have g0 : SG w ((wput w2 w1.heap.size q0 q1).alloc (.cells #[.int .u64 0, .int .u64 R] 24)) w1.heap.size w2.heap.size q0 q1 0 R := by
        refine ⟨(s2.r4.puto (by omega) q0 q1).alloc _, (s2.r5.puto (by omega) q0 q1).alloc _, (PQ2.put q0 q1).alloc _, ?_, by omega, by have := s2.x.lt; omega, by omega, (below_put s2.bel (by omega) q0 q1).alloc (by rw [hsz]; have := s2.bel.size; omega) _⟩
        exact PB.at_ _ hsz.symm 0 R
      rw [← hsz] at g0
      have GR := Lib.hid g0.r.load
      have GQ := Lib.hid g0.q.load
      have G0 := Lib.hid g0
      clear sE hS hsz hql g0 eq hrr hq0 hq1 hRR
      go_wp2_with (first | ((with_reducible refine here (op := .load 24 (.tmp 10)) ?_); refine wpList_load_run rfl 24 _ rfl _ _ rfl GR.out ?_) | fail)
      refine (NR.out R _ HR.out.1).mono ?_
      rintro e wN ⟨f0, f1, rfl, hf0, hf1, ef, bb⟩
      have g1 := G0.out.below bb
      have RS2 := Lib.hid (g1.r.store f0 f1)
      have g2 := g1.putR f0 f1
      have GQ2 := Lib.hid g2.q.load
      have G2 := Lib.hid g2
      have EF := Lib.hid ef
      clear bb g1 g2 ef GQ GR G0
      go_wp2_with (first | ((with_reducible refine here (op := .store 24 (.tmp 10) (.tmp 30)) ?_); refine wpList_store_run rfl 24 _ _ rfl _ _ rfl rfl RS2.out ?_) | ((with_reducible refine here (op := .load 24 (.tmp 8)) ?_); refine wpList_load_run rfl 24 _ rfl _ _ rfl GQ2.out ?_) | fail)
      refine (NQ.out q0 q1 _ HR.out.2.2.1 HR.out.2.2.2).mono ?_
      rintro e wM ⟨k0, k1, rfl, hk0, hk1, ek, bb⟩
      have g3 := G2.out.below bb
      have QS2 := Lib.hid (g3.q.store k0 k1)
      have g4 := Lib.hid (g3.putQ k0 k1)
      have EK := Lib.hid ek
      clear bb g3 ek GQ2 G2
      go_wp2_with (first | ((with_reducible refine here (op := .store 24 (.tmp 8) (.tmp 36)) ?_); refine wpList_store_run rfl 24 _ _ rfl _ _ rfl rfl QS2.out ?_) | fail)
      refine wp_region_held (S := fun V => PB V w1.heap.size k0 k1 ∧ PB V (wput w2 w1.heap.size q0 q1).heap.size f0 f1) (by kernel_rfl) ?_
      have g5 := g4.out.dr
      clear g4
      revert g5
      change SG w (wput wM w1.heap.size k0 k1).drew _ _ _ _ _ _ → wpAnyH _ _ _ _ _ _ _ _ (wput wM w1.heap.size k0 k1).drew
      generalize (wput wM w1.heap.size k0 k1).drew = wF
      intro g5
      have hS : PB wF w1.heap.size k0 k1 ∧ PB wF (wput w2 w1.heap.size q0 q1).heap.size f0 f1 := ⟨g5.q, g5.r⟩
      refine wpAnyH_take (oi := ⟨_, _, _, _, _, _⟩) (i := 0) (v := pw k0 k1) rfl (by kernel_rfl) (by kernel_rfl) (by kernel_rfl) (fun _ _ _ h => h) (yif_load rfl 24 (.tmp 8) rfl _ _ rfl fun w h => h.1.load) hS ?_
      try simp only [Act.put, List.setIfInBounds_toArray, List.set_cons_zero, List.set_cons_succ]
      refine wpAnyH_take (oi := ⟨_, _, _, _, _, _⟩) (i := 1) (v := pw f0 f1) rfl (by kernel_rfl) (by kernel_rfl) (by kernel_rfl) (fun _ _ _ h => h) (yif_load rfl 24 (.tmp 10) rfl _ _ rfl fun w h => h.2.load) hS ?_
      try simp only [Act.put, List.setIfInBounds_toArray, List.set_cons_zero, List.set_cons_succ]
      refine wpAnyH_all (rs := [2]) (by kernel_rfl) (by simp) fun i hi => ?_
      obtain rfl : i = 2 := by simpa using hi
      refine wpOp_skip (om := ⟨_, _, _, _, _, _⟩) rfl rfl (ex_store 24 (.tmp 4) (.tmp 37) rfl _ _ rfl rfl (g5.r4.store k0 k1)) ?_
      have lq := g5.lq
      have lr := g5.lr
      have hS : PB (wput wF (w.heap.size + 1) k0 k1) w1.heap.size k0 k1 ∧ PB (wput wF (w.heap.size + 1) k0 k1) (wput w2 w1.heap.size q0 q1).heap.size f0 f1 := ⟨g5.q.puto (by omega) _ _, g5.r.puto (by omega) _ _⟩
      refine ⟨hS, ?_⟩
      try simp only [Act.put, List.setIfInBounds_toArray, List.set_cons_zero, List.set_cons_succ]
      refine wpAnyH_all (rs := [3]) (by kernel_rfl) (by simp) fun i hi => ?_
      obtain rfl : i = 3 := by simpa using hi
      have p5 := g5.r5.puto (show w.heap.size + 1 + 1 ≠ w.heap.size + 1 by omega) k0 k1
      refine wpOp_skip (om := ⟨_, _, _, _, _, _⟩) rfl rfl (ex_store 24 (.tmp 5) (.tmp 38) rfl _ _ rfl rfl (p5.store f0 f1)) ?_
      refine ⟨⟨hS.1.puto (by omega) _ _, hS.2.puto (by omega) _ _⟩, ?_⟩
      try simp only [Act.put, List.setIfInBounds_toArray, List.set_cons_zero, List.set_cons_succ]
      refine wpAnyH_done (by kernel_rfl) ?_ _
      try simp only [Act.put, List.setIfInBounds_toArray, List.set_cons_zero, List.set_cons_succ]
      have z4 := (g5.r4.put k0 k1).puto (show w.heap.size + 1 ≠ w.heap.size + 1 + 1 by omega) f0 f1
      have z5 := p5.put f0 f1
      have zb := below_put (below_put g5.bel (show w.heap.size ≤ w.heap.size + 1 by omega) k0 k1) (show w.heap.size ≤ w.heap.size + 1 + 1 by omega) f0 f1
      clear hS p5 g5 lq lr
      go_wp2_with fail
      refine bodyPost_ret (v := .tuple #[pw k0 k1, pw f0 f1]) ?_ rfl ⟨k0, k1, f0, f1, rfl, hk0, hk1, hf0, hf1, by rw [HTQ.out, EK.out, HR.out.2.1]; rfl, by rw [HTR.out, EF.out, Int.zero_mul, Int.zero_add]; rfl, zb⟩
      exact results_row_row rfl _ _ (w.heap.size + 1) (w.heap.size + 1 + 1) 24 _ _ (0, 0) (0, 0) _ rfl rfl z4 z5 Try.underlying24 rfl Try.sizeW Try.sizeW
    · refine op_run (om := ⟨_, _, _, _, _, _⟩) (u := .pointer (some ⟨w0.heap.size, 0, none⟩)) (w' := (w0.alloc (.cells #[.int .u64 0, .int .u64 0] 24))) rfl rfl (by go_simp) _ _ rfl rfl ?_
      rintro u wA ⟨rfl, rfl⟩
      have s1 := s0.below (Below.al w0 (.cells #[.int .u64 0, .int .u64 0] 24))
      have PQ1 : PB (w0.alloc (.cells #[.int .u64 0, .int .u64 0] 24)) w0.heap.size 0 0 := PB.new _ _ _
      have hgq : w.heap.size + 1 + 1 + 1 < w0.heap.size := s0.x.lt
      generalize (w0.alloc (.cells #[.int .u64 0, .int .u64 0] 24)) = w1 at *
      have hS : PB w1 (w.heap.size + 1 + 1 + 1) x0 x1 := s1.x
      refine ⟨hS, ?_⟩
      try simp only [Act.put, List.setIfInBounds_toArray, List.set_cons_zero, List.set_cons_succ]
      refine wpAnyH_all (rs := [3]) (by kernel_rfl) (by simp) fun i hi => ?_
      obtain rfl : i = 3 := by simpa using hi
      have p1 := PQ1
      refine op_call (om := ⟨_, _, _, _, _, _⟩) (fn := 39) (args := #[pw x0 x1, .int .u64 (absI d)]) (R := fun u w' => QI w1 (x0 * 18446744073709551616 + x1) (absI d) (.returned u) w') rfl rfl (by go_simp)
        ((DV.out w1).mono fun e w' h => by obtain ⟨x, y, rfl, h1⟩ := h; exact ⟨_, rfl, x, y, rfl, h1⟩) _ _ rfl rfl ?_
      rintro u w2 ⟨q0, q1, hu, hq0, hq1, eq, bb⟩
      cases hu
      rw [EX.out] at eq ⊢
      have s2 := s1.below bb
      have q2 := p1.below bb p1.lt
      have hS : PB w2 (w.heap.size + 1 + 1 + 1) x0 x1 := s2.x
      refine ⟨hS, ?_⟩
      try simp only [Act.put, List.setIfInBounds_toArray, List.set_cons_zero, List.set_cons_succ]
      refine wpAnyH_take (oi := ⟨_, _, _, _, _, _⟩) (i := 4) (v := .tuple #[pw q0 q1, .int .u64 (absW a b % absI d)]) rfl (by kernel_rfl) (by kernel_rfl) (by kernel_rfl) (fun _ _ _ h => h) (Or.inl ⟨by rfl, fun _ _ => rfl⟩) hS ?_
      try simp only [Act.put, List.setIfInBounds_toArray, List.set_cons_zero, List.set_cons_succ]
      refine wpAnyH_take (oi := ⟨_, _, _, _, _, _⟩) (i := 5) (v := pw q0 q1) rfl (by kernel_rfl) (by kernel_rfl) (by kernel_rfl) (fun _ _ _ h => h) (Or.inl ⟨by rfl, fun _ _ => by go_simp⟩) hS ?_
      try simp only [Act.put, List.setIfInBounds_toArray, List.set_cons_zero, List.set_cons_succ]
      refine wpAnyH_take (oi := ⟨_, _, _, _, _, _⟩) (i := 6) (v := .int .u64 (absW a b % absI d)) rfl (by kernel_rfl) (by kernel_rfl) (by kernel_rfl) (fun _ _ _ h => h) (Or.inl ⟨by rfl, fun _ _ => by go_simp⟩) hS ?_
      try simp only [Act.put, List.setIfInBounds_toArray, List.set_cons_zero, List.set_cons_succ]
      refine wpAnyH_all (rs := [8]) (by kernel_rfl) (by simp) fun i hi => ?_
      obtain rfl : i = 8 := by simpa using hi
      refine wpOp_skip (om := ⟨_, _, _, _, _, _⟩) rfl rfl (ex_store 24 (.tmp 8) (.tmp 24) rfl _ _ rfl rfl (q2.store q0 q1)) ?_
      have sE : PB (wput w2 w0.heap.size q0 q1) (w.heap.size + 1 + 1 + 1) x0 x1 := s2.x.puto (by omega) q0 q1
      refine ⟨sE, ?_⟩
      try simp only [Act.put, List.setIfInBounds_toArray, List.set_cons_zero, List.set_cons_succ]
      have hS := sE
      refine wpAnyH_take (oi := ⟨_, _, _, _, _, _⟩) (i := 9) (v := .int .u64 (absW a b % absI d)) rfl (by kernel_rfl) (by kernel_rfl) (by kernel_rfl) (fun _ _ _ h => h) (Or.inl ⟨by rfl, fun _ _ => rfl⟩) hS ?_
      try simp only [Act.put, List.setIfInBounds_toArray, List.set_cons_zero, List.set_cons_succ]
      refine wpAnyH_done (by kernel_rfl) ?_ _
      try simp only [Act.put, List.setIfInBounds_toArray, List.set_cons_zero, List.set_cons_succ]
      have hsz : (wput w2 w0.heap.size q0 q1).heap.size = w2.heap.size := wput_size _ _ _ _
      have hql := q2.lt
      have HR := Lib.hid (And.intro hrr (And.intro eq (And.intro hq0 hq1)))
      generalize hR : absW a b % absI d = R at *
      have hRR := HR.out.1
      have g0 : SG w ((wput w2 w0.heap.size q0 q1).alloc (.cells #[.int .u64 0, .int .u64 R] 24)) w0.heap.size w2.heap.size q0 q1 0 R := by
        refine ⟨(s2.r4.puto (by omega) q0 q1).alloc _, (s2.r5.puto (by omega) q0 q1).alloc _, (q2.put q0 q1).alloc _, ?_, by omega, by have := s2.x.lt; omega, by omega, (below_put s2.bel (by omega) q0 q1).alloc (by rw [hsz]; have := s2.bel.size; omega) _⟩
        exact PB.at_ _ hsz.symm 0 R
      rw [← hsz] at g0
      have GR := Lib.hid g0.r.load
      have GQ := Lib.hid g0.q.load
      have G0 := Lib.hid g0
      clear sE hS hsz hql g0 eq hrr hq0 hq1 hRR
      go_wp2_with (first | ((with_reducible refine here (op := .load 24 (.tmp 10)) ?_); refine wpList_load_run rfl 24 _ rfl _ _ rfl GR.out ?_) | fail)
      refine (NR.out R _ HR.out.1).mono ?_
      rintro e wN ⟨f0, f1, rfl, hf0, hf1, ef, bb⟩
      have g1 := G0.out.below bb
      have RS2 := Lib.hid (g1.r.store f0 f1)
      have g2 := g1.putR f0 f1
      have GQ2 := Lib.hid g2.q.load
      have G2 := Lib.hid g2
      have EF := Lib.hid ef
      clear bb g1 g2 ef GQ GR G0
      go_wp2_with (first | ((with_reducible refine here (op := .store 24 (.tmp 10) (.tmp 30)) ?_); refine wpList_store_run rfl 24 _ _ rfl _ _ rfl rfl RS2.out ?_) | ((with_reducible refine here (op := .load 24 (.tmp 8)) ?_); refine wpList_load_run rfl 24 _ rfl _ _ rfl GQ2.out ?_) | fail)
      refine (NQ.out q0 q1 _ HR.out.2.2.1 HR.out.2.2.2).mono ?_
      rintro e wM ⟨k0, k1, rfl, hk0, hk1, ek, bb⟩
      have g3 := G2.out.below bb
      have QS2 := Lib.hid (g3.q.store k0 k1)
      have g4 := Lib.hid (g3.putQ k0 k1)
      have EK := Lib.hid ek
      clear bb g3 ek GQ2 G2
      go_wp2_with (first | ((with_reducible refine here (op := .store 24 (.tmp 8) (.tmp 36)) ?_); refine wpList_store_run rfl 24 _ _ rfl _ _ rfl rfl QS2.out ?_) | fail)
      refine wp_region_held (S := fun V => PB V w0.heap.size k0 k1 ∧ PB V (wput w2 w0.heap.size q0 q1).heap.size f0 f1) (by kernel_rfl) ?_
      have g5 := g4.out.dr
      clear g4
      revert g5
      change SG w (wput wM w0.heap.size k0 k1).drew _ _ _ _ _ _ → wpAnyH _ _ _ _ _ _ _ _ (wput wM w0.heap.size k0 k1).drew
      generalize (wput wM w0.heap.size k0 k1).drew = wF
      intro g5
      have hS : PB wF w0.heap.size k0 k1 ∧ PB wF (wput w2 w0.heap.size q0 q1).heap.size f0 f1 := ⟨g5.q, g5.r⟩
      refine wpAnyH_take (oi := ⟨_, _, _, _, _, _⟩) (i := 0) (v := pw k0 k1) rfl (by kernel_rfl) (by kernel_rfl) (by kernel_rfl) (fun _ _ _ h => h) (yif_load rfl 24 (.tmp 8) rfl _ _ rfl fun w h => h.1.load) hS ?_
      try simp only [Act.put, List.setIfInBounds_toArray, List.set_cons_zero, List.set_cons_succ]
      refine wpAnyH_take (oi := ⟨_, _, _, _, _, _⟩) (i := 1) (v := pw f0 f1) rfl (by kernel_rfl) (by kernel_rfl) (by kernel_rfl) (fun _ _ _ h => h) (yif_load rfl 24 (.tmp 10) rfl _ _ rfl fun w h => h.2.load) hS ?_
      try simp only [Act.put, List.setIfInBounds_toArray, List.set_cons_zero, List.set_cons_succ]
      refine wpAnyH_all (rs := [2]) (by kernel_rfl) (by simp) fun i hi => ?_
      obtain rfl : i = 2 := by simpa using hi
      refine wpOp_skip (om := ⟨_, _, _, _, _, _⟩) rfl rfl (ex_store 24 (.tmp 4) (.tmp 37) rfl _ _ rfl rfl (g5.r4.store k0 k1)) ?_
      have lq := g5.lq
      have lr := g5.lr
      have hS : PB (wput wF (w.heap.size + 1) k0 k1) w0.heap.size k0 k1 ∧ PB (wput wF (w.heap.size + 1) k0 k1) (wput w2 w0.heap.size q0 q1).heap.size f0 f1 := ⟨g5.q.puto (by omega) _ _, g5.r.puto (by omega) _ _⟩
      refine ⟨hS, ?_⟩
      try simp only [Act.put, List.setIfInBounds_toArray, List.set_cons_zero, List.set_cons_succ]
      refine wpAnyH_all (rs := [3]) (by kernel_rfl) (by simp) fun i hi => ?_
      obtain rfl : i = 3 := by simpa using hi
      have p5 := g5.r5.puto (show w.heap.size + 1 + 1 ≠ w.heap.size + 1 by omega) k0 k1
      refine wpOp_skip (om := ⟨_, _, _, _, _, _⟩) rfl rfl (ex_store 24 (.tmp 5) (.tmp 38) rfl _ _ rfl rfl (p5.store f0 f1)) ?_
      refine ⟨⟨hS.1.puto (by omega) _ _, hS.2.puto (by omega) _ _⟩, ?_⟩
      try simp only [Act.put, List.setIfInBounds_toArray, List.set_cons_zero, List.set_cons_succ]
      refine wpAnyH_done (by kernel_rfl) ?_ _
      try simp only [Act.put, List.setIfInBounds_toArray, List.set_cons_zero, List.set_cons_succ]
      have z4 := (g5.r4.put k0 k1).puto (show w.heap.size + 1 ≠ w.heap.size + 1 + 1 by omega) f0 f1
      have z5 := p5.put f0 f1
      have zb := below_put (below_put g5.bel (show w.heap.size ≤ w.heap.size + 1 by omega) k0 k1) (show w.heap.size ≤ w.heap.size + 1 + 1 by omega) f0 f1
      clear hS p5 g5 lq lr
      go_wp2_with fail
      refine bodyPost_ret (v := .tuple #[pw k0 k1, pw f0 f1]) ?_ rfl ⟨k0, k1, f0, f1, rfl, hk0, hk1, hf0, hf1, by rw [HTQ.out, EK.out, HR.out.2.1]; rfl, by rw [HTR.out, EF.out, Int.zero_mul, Int.zero_add]; rfl, zb⟩
      exact results_row_row rfl _ _ (w.heap.size + 1) (w.heap.size + 1 + 1) 24 _ _ (0, 0) (0, 0) _ rfl rfl z4 z5 Try.underlying24 rfl Try.sizeW Try.sizeW
  · refine op_run (om := ⟨_, _, _, _, _, _⟩) (u := .pointer (some ⟨w0.heap.size, 0, none⟩)) (w' := (w0.alloc (.cells #[.int .u64 0, .int .u64 0] 24))) rfl rfl (by go_simp) _ _ rfl rfl ?_
    rintro u wA ⟨rfl, rfl⟩
    have s1 := s0.below (Below.al w0 (.cells #[.int .u64 0, .int .u64 0] 24))
    have PQ1 : PB (w0.alloc (.cells #[.int .u64 0, .int .u64 0] 24)) w0.heap.size 0 0 := PB.new _ _ _
    have hgq : w.heap.size + 1 + 1 + 1 < w0.heap.size := s0.x.lt
    generalize (w0.alloc (.cells #[.int .u64 0, .int .u64 0] 24)) = w1 at *
    have hS : PB w1 (w.heap.size + 1 + 1 + 1) x0 x1 := s1.x
    refine ⟨hS, ?_⟩
    try simp only [Act.put, List.setIfInBounds_toArray, List.set_cons_zero, List.set_cons_succ]
    refine wpAnyH_all (rs := [2]) (by kernel_rfl) (by simp) fun i hi => ?_
    obtain rfl : i = 2 := by simpa using hi
    refine op_call (om := ⟨_, _, _, _, _, _⟩) (fn := 33) (args := #[.int .i64 d]) (R := fun u w' => u = .int .u64 (absI d) ∧ w1 = w') rfl rfl (by go_simp)
      ((RS.out w1).mono fun e w' h => ⟨_, h.1, rfl, h.2⟩) _ _ rfl rfl ?_
    rintro u wX ⟨rfl, hwX⟩
    subst hwX
    have hS : PB w1 (w.heap.size + 1 + 1 + 1) x0 x1 := s1.x
    refine ⟨hS, ?_⟩
    try simp only [Act.put, List.setIfInBounds_toArray, List.set_cons_zero, List.set_cons_succ]
    refine wpAnyH_all (rs := [3]) (by kernel_rfl) (by simp) fun i hi => ?_
    obtain rfl : i = 3 := by simpa using hi
    have p1 := PQ1
    refine op_call (om := ⟨_, _, _, _, _, _⟩) (fn := 39) (args := #[pw x0 x1, .int .u64 (absI d)]) (R := fun u w' => QI w1 (x0 * 18446744073709551616 + x1) (absI d) (.returned u) w') rfl rfl (by go_simp)
      ((DV.out w1).mono fun e w' h => by obtain ⟨x, y, rfl, h1⟩ := h; exact ⟨_, rfl, x, y, rfl, h1⟩) _ _ rfl rfl ?_
    rintro u w2 ⟨q0, q1, hu, hq0, hq1, eq, bb⟩
    cases hu
    rw [EX.out] at eq ⊢
    have s2 := s1.below bb
    have q2 := p1.below bb p1.lt
    have hS : PB w2 (w.heap.size + 1 + 1 + 1) x0 x1 := s2.x
    refine ⟨hS, ?_⟩
    try simp only [Act.put, List.setIfInBounds_toArray, List.set_cons_zero, List.set_cons_succ]
    refine wpAnyH_take (oi := ⟨_, _, _, _, _, _⟩) (i := 4) (v := .tuple #[pw q0 q1, .int .u64 (absW a b % absI d)]) rfl (by kernel_rfl) (by kernel_rfl) (by kernel_rfl) (fun _ _ _ h => h) (Or.inl ⟨by rfl, fun _ _ => rfl⟩) hS ?_
    try simp only [Act.put, List.setIfInBounds_toArray, List.set_cons_zero, List.set_cons_succ]
    refine wpAnyH_take (oi := ⟨_, _, _, _, _, _⟩) (i := 5) (v := pw q0 q1) rfl (by kernel_rfl) (by kernel_rfl) (by kernel_rfl) (fun _ _ _ h => h) (Or.inl ⟨by rfl, fun _ _ => by go_simp⟩) hS ?_
    try simp only [Act.put, List.setIfInBounds_toArray, List.set_cons_zero, List.set_cons_succ]
    refine wpAnyH_take (oi := ⟨_, _, _, _, _, _⟩) (i := 6) (v := .int .u64 (absW a b % absI d)) rfl (by kernel_rfl) (by kernel_rfl) (by kernel_rfl) (fun _ _ _ h => h) (Or.inl ⟨by rfl, fun _ _ => by go_simp⟩) hS ?_
    try simp only [Act.put, List.setIfInBounds_toArray, List.set_cons_zero, List.set_cons_succ]
    refine wpAnyH_all (rs := [8]) (by kernel_rfl) (by simp) fun i hi => ?_
    obtain rfl : i = 8 := by simpa using hi
    refine wpOp_skip (om := ⟨_, _, _, _, _, _⟩) rfl rfl (ex_store 24 (.tmp 8) (.tmp 24) rfl _ _ rfl rfl (q2.store q0 q1)) ?_
    have sE : PB (wput w2 w0.heap.size q0 q1) (w.heap.size + 1 + 1 + 1) x0 x1 := s2.x.puto (by omega) q0 q1
    refine ⟨sE, ?_⟩
    try simp only [Act.put, List.setIfInBounds_toArray, List.set_cons_zero, List.set_cons_succ]
    have hS := sE
    refine wpAnyH_take (oi := ⟨_, _, _, _, _, _⟩) (i := 9) (v := .int .u64 (absW a b % absI d)) rfl (by kernel_rfl) (by kernel_rfl) (by kernel_rfl) (fun _ _ _ h => h) (Or.inl ⟨by rfl, fun _ _ => rfl⟩) hS ?_
    try simp only [Act.put, List.setIfInBounds_toArray, List.set_cons_zero, List.set_cons_succ]
    refine wpAnyH_done (by kernel_rfl) ?_ _
    try simp only [Act.put, List.setIfInBounds_toArray, List.set_cons_zero, List.set_cons_succ]
    have hsz : (wput w2 w0.heap.size q0 q1).heap.size = w2.heap.size := wput_size _ _ _ _
    have hql := q2.lt
    have HR := Lib.hid (And.intro hrr (And.intro eq (And.intro hq0 hq1)))
    generalize hR : absW a b % absI d = R at *
    have hRR := HR.out.1
    have g0 : SG w ((wput w2 w0.heap.size q0 q1).alloc (.cells #[.int .u64 0, .int .u64 R] 24)) w0.heap.size w2.heap.size q0 q1 0 R := by
      refine ⟨(s2.r4.puto (by omega) q0 q1).alloc _, (s2.r5.puto (by omega) q0 q1).alloc _, (q2.put q0 q1).alloc _, ?_, by omega, by have := s2.x.lt; omega, by omega, (below_put s2.bel (by omega) q0 q1).alloc (by rw [hsz]; have := s2.bel.size; omega) _⟩
      exact PB.at_ _ hsz.symm 0 R
    rw [← hsz] at g0
    have GR := Lib.hid g0.r.load
    have GQ := Lib.hid g0.q.load
    have G0 := Lib.hid g0
    clear sE hS hsz hql g0 eq hrr hq0 hq1 hRR
    go_wp2_with (first | ((with_reducible refine here (op := .load 24 (.tmp 10)) ?_); refine wpList_load_run rfl 24 _ rfl _ _ rfl GR.out ?_) | fail)
    refine (NR.out R _ HR.out.1).mono ?_
    rintro e wN ⟨f0, f1, rfl, hf0, hf1, ef, bb⟩
    have g1 := G0.out.below bb
    have RS2 := Lib.hid (g1.r.store f0 f1)
    have g2 := g1.putR f0 f1
    have GQ2 := Lib.hid g2.q.load
    have G2 := Lib.hid g2
    have EF := Lib.hid ef
    clear bb g1 g2 ef GQ GR G0
    go_wp2_with (first | ((with_reducible refine here (op := .store 24 (.tmp 10) (.tmp 30)) ?_); refine wpList_store_run rfl 24 _ _ rfl _ _ rfl rfl RS2.out ?_) | ((with_reducible refine here (op := .load 24 (.tmp 8)) ?_); refine wpList_load_run rfl 24 _ rfl _ _ rfl GQ2.out ?_) | fail)
    refine (NQ.out q0 q1 _ HR.out.2.2.1 HR.out.2.2.2).mono ?_
    rintro e wM ⟨k0, k1, rfl, hk0, hk1, ek, bb⟩
    have g3 := G2.out.below bb
    have QS2 := Lib.hid (g3.q.store k0 k1)
    have g4 := Lib.hid (g3.putQ k0 k1)
    have EK := Lib.hid ek
    clear bb g3 ek GQ2 G2
    go_wp2_with (first | ((with_reducible refine here (op := .store 24 (.tmp 8) (.tmp 36)) ?_); refine wpList_store_run rfl 24 _ _ rfl _ _ rfl rfl QS2.out ?_) | fail)
    refine wp_region_held (S := fun V => PB V w0.heap.size k0 k1 ∧ PB V (wput w2 w0.heap.size q0 q1).heap.size f0 f1) (by kernel_rfl) ?_
    have g5 := g4.out.dr
    clear g4
    revert g5
    change SG w (wput wM w0.heap.size k0 k1).drew _ _ _ _ _ _ → wpAnyH _ _ _ _ _ _ _ _ (wput wM w0.heap.size k0 k1).drew
    generalize (wput wM w0.heap.size k0 k1).drew = wF
    intro g5
    have hS : PB wF w0.heap.size k0 k1 ∧ PB wF (wput w2 w0.heap.size q0 q1).heap.size f0 f1 := ⟨g5.q, g5.r⟩
    refine wpAnyH_take (oi := ⟨_, _, _, _, _, _⟩) (i := 0) (v := pw k0 k1) rfl (by kernel_rfl) (by kernel_rfl) (by kernel_rfl) (fun _ _ _ h => h) (yif_load rfl 24 (.tmp 8) rfl _ _ rfl fun w h => h.1.load) hS ?_
    try simp only [Act.put, List.setIfInBounds_toArray, List.set_cons_zero, List.set_cons_succ]
    refine wpAnyH_take (oi := ⟨_, _, _, _, _, _⟩) (i := 1) (v := pw f0 f1) rfl (by kernel_rfl) (by kernel_rfl) (by kernel_rfl) (fun _ _ _ h => h) (yif_load rfl 24 (.tmp 10) rfl _ _ rfl fun w h => h.2.load) hS ?_
    try simp only [Act.put, List.setIfInBounds_toArray, List.set_cons_zero, List.set_cons_succ]
    refine wpAnyH_all (rs := [2]) (by kernel_rfl) (by simp) fun i hi => ?_
    obtain rfl : i = 2 := by simpa using hi
    refine wpOp_skip (om := ⟨_, _, _, _, _, _⟩) rfl rfl (ex_store 24 (.tmp 4) (.tmp 37) rfl _ _ rfl rfl (g5.r4.store k0 k1)) ?_
    have lq := g5.lq
    have lr := g5.lr
    have hS : PB (wput wF (w.heap.size + 1) k0 k1) w0.heap.size k0 k1 ∧ PB (wput wF (w.heap.size + 1) k0 k1) (wput w2 w0.heap.size q0 q1).heap.size f0 f1 := ⟨g5.q.puto (by omega) _ _, g5.r.puto (by omega) _ _⟩
    refine ⟨hS, ?_⟩
    try simp only [Act.put, List.setIfInBounds_toArray, List.set_cons_zero, List.set_cons_succ]
    refine wpAnyH_all (rs := [3]) (by kernel_rfl) (by simp) fun i hi => ?_
    obtain rfl : i = 3 := by simpa using hi
    have p5 := g5.r5.puto (show w.heap.size + 1 + 1 ≠ w.heap.size + 1 by omega) k0 k1
    refine wpOp_skip (om := ⟨_, _, _, _, _, _⟩) rfl rfl (ex_store 24 (.tmp 5) (.tmp 38) rfl _ _ rfl rfl (p5.store f0 f1)) ?_
    refine ⟨⟨hS.1.puto (by omega) _ _, hS.2.puto (by omega) _ _⟩, ?_⟩
    try simp only [Act.put, List.setIfInBounds_toArray, List.set_cons_zero, List.set_cons_succ]
    refine wpAnyH_done (by kernel_rfl) ?_ _
    try simp only [Act.put, List.setIfInBounds_toArray, List.set_cons_zero, List.set_cons_succ]
    have z4 := (g5.r4.put k0 k1).puto (show w.heap.size + 1 ≠ w.heap.size + 1 + 1 by omega) f0 f1
    have z5 := p5.put f0 f1
    have zb := below_put (below_put g5.bel (show w.heap.size ≤ w.heap.size + 1 by omega) k0 k1) (show w.heap.size ≤ w.heap.size + 1 + 1 by omega) f0 f1
    clear hS p5 g5 lq lr
    go_wp2_with fail
    refine bodyPost_ret (v := .tuple #[pw k0 k1, pw f0 f1]) ?_ rfl ⟨k0, k1, f0, f1, rfl, hk0, hk1, hf0, hf1, by rw [HTQ.out, EK.out, HR.out.2.1]; rfl, by rw [HTR.out, EF.out, Int.zero_mul, Int.zero_add]; rfl, zb⟩
    exact results_row_row rfl _ _ (w.heap.size + 1) (w.heap.size + 1 + 1) 24 _ _ (0, 0) (0, 0) _ rfl rfl z4 z5 Try.underlying24 rfl Try.sizeW Try.sizeW
set_option maxRecDepth 100000 in
set_option maxHeartbeats 2000000 in
theorem signed_yy (a b d : Int) (ha : half a) (hb : half b) (hd : i64r d) (h0 : d ≠ 0) (hneg : negW a = true) (hsg : decide (d < 0) = true) (w : World) :
    Calls Try.prog 44 #[pw a b, .int .i64 d] w (SO w (tq a b d) (tr a b d)) := by
  have hsh : (a / 9223372036854775808 == 1) = true := by
    rw [← hneg]
    unfold negW half at *
    rw [Bool.eq_iff_iff]
    simp
    omega
  have RS := Lib.hid (rsize_any d hd.1 hd.2)
  have hAI : half (absI d) := by
    have := absI_le hd
    have := absI_pos h0
    unfold half
    omega
  have hA0 : absI d ≠ 0 := by have := absI_pos h0; omega
  have nn := absW_nn ha hb
  have NNQ := Lib.hid (show 0 ≤ absW a b / absI d ∧ absW a b / absI d < 340282366920938463463374607431768211456 from ⟨Int.ediv_nonneg nn.1 hAI.1, by have := Int.ediv_le_self (absI d) nn.1; omega⟩)
  have hrr : half (absW a b % absI d) := by
    have h1 := Int.emod_nonneg (absW a b) hA0
    have h2 := Int.emod_lt_of_pos (absW a b) (absI_pos h0)
    unfold half at *
    omega
  have HTQ := Lib.hid (show tq a b d = sgn false (absW a b / absI d) by unfold tq; rw [hneg, hsg]; rfl)
  have HTR := Lib.hid (show tr a b d = sgn true (absW a b % absI d) by unfold tr; rw [hneg])
  have NR := Lib.hid (fun r w hr => rneg_any 0 r half0 hr w)
  have NQ := Lib.hid (fun x y w hx hy => rneg_any x y hx hy w)
  have s0 := Lib.hid (SP.start w a b)
  have AW := Lib.hid (abs_sgn a b ha hb)
  have AB := Lib.hid (And.intro ha hb)
  clear hd nn
  have hd1 : d < 0 := by simpa using hsg
  rw [hneg] at AW
  clear hsg hneg
  go_enter Try.func44, Try.ntmps44
  have LD := Lib.hid (show PB ((((w.alloc (.cells #[.int .u64 a, .int .u64 b] 24)).alloc (.cells #[.int .u64 0, .int .u64 0] 24)).alloc (.cells #[.int .u64 0, .int .u64 0] 24)).alloc (.cells #[.int .u64 a, .int .u64 b] 24)) w.heap.size a b from PB.alloc (PB.alloc (PB.alloc (PB.new _ _ _) _) _) _).load
  go_wp2_with (first | ((with_reducible refine here (op := .load 24 (.tmp 2)) ?_); refine wpList_load_run rfl 24 _ rfl _ _ rfl LD.out ?_) | fail)
  refine (rneg_any a b ha hb _).mono ?_
  rintro e w1 ⟨x0, x1, rfl, hx0, hx1, ex, bb⟩
  have s1 := s0.out.below bb
  have XS := Lib.hid (s1.x.store x0 x1)
  have s2 := Lib.hid (s1.put x0 x1)
  have EX := Lib.hid (ex.trans AW.out)
  clear bb s1 ex LD s0
  go_wp2_with (first | ((with_reducible refine here (op := .store 24 (.tmp 7) (.tmp 18)) ?_); refine wpList_store_run rfl 24 _ _ rfl _ _ rfl rfl XS.out ?_) | fail)
  have DV := Lib.hid (rdiv_any x0 x1 (absI d) hx0 hx1 hAI hA0)
  refine wp_region_held (S := fun V => PB V (w.heap.size + 1 + 1 + 1) x0 x1) (by kernel_rfl) ?_
  have s9 := s2.out.dr
  clear s2
  revert s9
  change SP w (wput w1 (w.heap.size + 1 + 1 + 1) x0 x1).drew _ _ → wpAnyH _ _ _ _ _ _ _ _ (wput w1 (w.heap.size + 1 + 1 + 1) x0 x1).drew
  generalize (wput w1 (w.heap.size + 1 + 1 + 1) x0 x1).drew = w0
  intro s0
  have hS : PB w0 (w.heap.size + 1 + 1 + 1) x0 x1 := s0.x
  refine wpAnyH_take (oi := ⟨_, _, _, _, _, _⟩) (i := 0) (v := pw x0 x1) rfl (by kernel_rfl) (by kernel_rfl) (by kernel_rfl) (fun _ _ _ h => h) (yif_load rfl 24 (.tmp 7) rfl _ _ rfl fun w h => h.load) hS ?_
  try simp only [Act.put, List.setIfInBounds_toArray, List.set_cons_zero, List.set_cons_succ]
  refine wpAnyH_take (oi := ⟨_, _, _, _, _, _⟩) (i := 1) (v := .int .i64 d) rfl (by kernel_rfl) (by kernel_rfl) (by kernel_rfl) (fun _ _ _ h => h) (Or.inl ⟨by rfl, fun _ _ => rfl⟩) hS ?_
  try simp only [Act.put, List.setIfInBounds_toArray, List.set_cons_zero, List.set_cons_succ]
  refine wpAnyH_all (rs := [2, 7]) (by kernel_rfl) (by simp) fun i hi => ?_
  have hi2 : i = 2 ∨ i = 7 := by simpa using hi
  rcases hi2 with rfl | rfl
  · refine op_call (om := ⟨_, _, _, _, _, _⟩) (fn := 33) (args := #[.int .i64 d]) (R := fun u w' => u = .int .u64 (absI d) ∧ w0 = w') rfl rfl (by go_simp)
      ((RS.out w0).mono fun e w' h => ⟨_, h.1, rfl, h.2⟩) _ _ rfl rfl ?_
    rintro u wX ⟨rfl, hwX⟩
    subst hwX
    have hS : PB w0 (w.heap.size + 1 + 1 + 1) x0 x1 := s0.x
    refine ⟨hS, ?_⟩
    try simp only [Act.put, List.setIfInBounds_toArray, List.set_cons_zero, List.set_cons_succ]
    refine wpAnyH_all (rs := [3, 7]) (by kernel_rfl) (by simp) fun i hi => ?_
    have hi2 : i = 3 ∨ i = 7 := by simpa using hi
    rcases hi2 with rfl | rfl
    · refine op_call (om := ⟨_, _, _, _, _, _⟩) (fn := 39) (args := #[pw x0 x1, .int .u64 (absI d)]) (R := fun u w' => QI w0 (x0 * 18446744073709551616 + x1) (absI d) (.returned u) w') rfl rfl (by go_simp)
        ((DV.out w0).mono fun e w' h => by obtain ⟨x, y, rfl, h1⟩ := h; exact ⟨_, rfl, x, y, rfl, h1⟩) _ _ rfl rfl ?_
      rintro u w1 ⟨q0, q1, hu, hq0, hq1, eq, bb⟩
      cases hu
      rw [EX.out] at eq ⊢
      have s1 := s0.below bb
      have hS : PB w1 (w.heap.size + 1 + 1 + 1) x0 x1 := s1.x
      refine ⟨hS, ?_⟩
      try simp only [Act.put, List.setIfInBounds_toArray, List.set_cons_zero, List.set_cons_succ]
      refine wpAnyH_take (oi := ⟨_, _, _, _, _, _⟩) (i := 4) (v := .tuple #[pw q0 q1, .int .u64 (absW a b % absI d)]) rfl (by kernel_rfl) (by kernel_rfl) (by kernel_rfl) (fun _ _ _ h => h) (Or.inl ⟨by rfl, fun _ _ => rfl⟩) hS ?_
      try simp only [Act.put, List.setIfInBounds_toArray, List.set_cons_zero, List.set_cons_succ]
      refine wpAnyH_take (oi := ⟨_, _, _, _, _, _⟩) (i := 5) (v := pw q0 q1) rfl (by kernel_rfl) (by kernel_rfl) (by kernel_rfl) (fun _ _ _ h => h) (Or.inl ⟨by rfl, fun _ _ => by go_simp⟩) hS ?_
      try simp only [Act.put, List.setIfInBounds_toArray, List.set_cons_zero, List.set_cons_succ]
      refine wpAnyH_take (oi := ⟨_, _, _, _, _, _⟩) (i := 6) (v := .int .u64 (absW a b % absI d)) rfl (by kernel_rfl) (by kernel_rfl) (by kernel_rfl) (fun _ _ _ h => h) (Or.inl ⟨by rfl, fun _ _ => by go_simp⟩) hS ?_
      try simp only [Act.put, List.setIfInBounds_toArray, List.set_cons_zero, List.set_cons_succ]
      refine wpAnyH_all (rs := [7]) (by kernel_rfl) (by simp) fun i hi => ?_
      obtain rfl : i = 7 := by simpa using hi
      refine op_run (om := ⟨_, _, _, _, _, _⟩) (u := .pointer (some ⟨w1.heap.size, 0, none⟩)) (w' := (w1.alloc (.cells #[.int .u64 0, .int .u64 0] 24))) rfl rfl (by go_simp) _ _ rfl rfl ?_
      rintro u wA ⟨rfl, rfl⟩
      have s2 := s1.below (Below.al w1 (.cells #[.int .u64 0, .int .u64 0] 24))
      have PQ2 : PB (w1.alloc (.cells #[.int .u64 0, .int .u64 0] 24)) w1.heap.size 0 0 := PB.new _ _ _
      have hgq : w.heap.size + 1 + 1 + 1 < w1.heap.size := s1.x.lt
      generalize (w1.alloc (.cells #[.int .u64 0, .int .u64 0] 24)) = w2 at *
      have hS : PB w2 (w.heap.size + 1 + 1 + 1) x0 x1 := s2.x
      refine ⟨hS, ?_⟩
      try simp only [Act.put, List.setIfInBounds_toArray, List.set_cons_zero, List.set_cons_succ]
      refine wpAnyH_all (rs := [8]) (by kernel_rfl) (by simp) fun i hi => ?_
      obtain rfl : i = 8 := by simpa using hi
      refine wpOp_skip (om := ⟨_, _, _, _, _, _⟩) rfl rfl (ex_store 24 (.tmp 8) (.tmp 24) rfl _ _ rfl rfl (PQ2.store q0 q1)) ?_
      have sE : PB (wput w2 w1.heap.size q0 q1) (w.heap.size + 1 + 1 + 1) x0 x1 := s2.x.puto (by omega) q0 q1
      refine ⟨sE, ?_⟩
      try simp only [Act.put, List.setIfInBounds_toArray, List.set_cons_zero, List.set_cons_succ]
      have hS := sE
      refine wpAnyH_take (oi := ⟨_, _, _, _, _, _⟩) (i := 9) (v := .int .u64 (absW a b % absI d)) rfl (by kernel_rfl) (by kernel_rfl) (by kernel_rfl) (fun _ _ _ h => h) (Or.inl ⟨by rfl, fun _ _ => rfl⟩) hS ?_
      try simp only [Act.put, List.setIfInBounds_toArray, List.set_cons_zero, List.set_cons_succ]
      refine wpAnyH_done (by kernel_rfl) ?_ _
      try simp only [Act.put, List.setIfInBounds_toArray, List.set_cons_zero, List.set_cons_succ]
      have hsz : (wput w2 w1.heap.size q0 q1).heap.size = w2.heap.size := wput_size _ _ _ _
      have hql := PQ2.lt
      have HR := Lib.hid (And.intro hrr (And.intro eq (And.intro hq0 hq1)))
      generalize hR : absW a b % absI d = R at *
      have hRR := HR.out.1
      have g0 : SG w ((wput w2 w1.heap.size q0 q1).alloc (.cells #[.int .u64 0, .int .u64 R] 24)) w1.heap.size w2.heap.size q0 q1 0 R := by
        refine ⟨(s2.r4.puto (by omega) q0 q1).alloc _, (s2.r5.puto (by omega) q0 q1).alloc _, (PQ2.put q0 q1).alloc _, ?_, by omega, by have := s2.x.lt; omega, by omega, (below_put s2.bel (by omega) q0 q1).alloc (by rw [hsz]; have := s2.bel.size; omega) _⟩
        exact PB.at_ _ hsz.symm 0 R
      rw [← hsz] at g0
      have GR := Lib.hid g0.r.load
      have GQ := Lib.hid g0.q.load
      have G0 := Lib.hid g0
      clear sE hS hsz hql g0 eq hrr hq0 hq1 hRR
      go_wp2_with (first | ((with_reducible refine here (op := .load 24 (.tmp 10)) ?_); refine wpList_load_run rfl 24 _ rfl _ _ rfl GR.out ?_) | fail)
      refine (NR.out R _ HR.out.1).mono ?_
      rintro e wN ⟨f0, f1, rfl, hf0, hf1, ef, bb⟩
      have g1 := G0.out.below bb
      have RS2 := Lib.hid (g1.r.store f0 f1)
      have g2 := g1.putR f0 f1
      have GQ2 := Lib.hid g2.q.load
      have G2 := Lib.hid g2
      have EF := Lib.hid ef
      clear bb g1 g2 ef GQ GR G0
      have g4 := G2
      clear G2
      go_wp2_with (first | ((with_reducible refine here (op := .store 24 (.tmp 10) (.tmp 30)) ?_); refine wpList_store_run rfl 24 _ _ rfl _ _ rfl rfl RS2.out ?_) | fail)
      refine wp_region_held (S := fun V => PB V w1.heap.size q0 q1 ∧ PB V (wput w2 w1.heap.size q0 q1).heap.size f0 f1) (by kernel_rfl) ?_
      have g5 := g4.out.dr
      clear g4
      revert g5
      change SG w (wput wN (wput w2 w1.heap.size q0 q1).heap.size f0 f1).drew _ _ _ _ _ _ → wpAnyH _ _ _ _ _ _ _ _ (wput wN (wput w2 w1.heap.size q0 q1).heap.size f0 f1).drew
      generalize (wput wN (wput w2 w1.heap.size q0 q1).heap.size f0 f1).drew = wF
      intro g5
      have hS : PB wF w1.heap.size q0 q1 ∧ PB wF (wput w2 w1.heap.size q0 q1).heap.size f0 f1 := ⟨g5.q, g5.r⟩
      refine wpAnyH_take (oi := ⟨_, _, _, _, _, _⟩) (i := 0) (v := pw q0 q1) rfl (by kernel_rfl) (by kernel_rfl) (by kernel_rfl) (fun _ _ _ h => h) (yif_load rfl 24 (.tmp 8) rfl _ _ rfl fun w h => h.1.load) hS ?_
      try simp only [Act.put, List.setIfInBounds_toArray, List.set_cons_zero, List.set_cons_succ]
      refine wpAnyH_take (oi := ⟨_, _, _, _, _, _⟩) (i := 1) (v := pw f0 f1) rfl (by kernel_rfl) (by kernel_rfl) (by kernel_rfl) (fun _ _ _ h => h) (yif_load rfl 24 (.tmp 10) rfl _ _ rfl fun w h => h.2.load) hS ?_
      try simp only [Act.put, List.setIfInBounds_toArray, List.set_cons_zero, List.set_cons_succ]
      refine wpAnyH_all (rs := [2]) (by kernel_rfl) (by simp) fun i hi => ?_
      obtain rfl : i = 2 := by simpa using hi
      refine wpOp_skip (om := ⟨_, _, _, _, _, _⟩) rfl rfl (ex_store 24 (.tmp 4) (.tmp 37) rfl _ _ rfl rfl (g5.r4.store q0 q1)) ?_
      have lq := g5.lq
      have lr := g5.lr
      have hS : PB (wput wF (w.heap.size + 1) q0 q1) w1.heap.size q0 q1 ∧ PB (wput wF (w.heap.size + 1) q0 q1) (wput w2 w1.heap.size q0 q1).heap.size f0 f1 := ⟨g5.q.puto (by omega) _ _, g5.r.puto (by omega) _ _⟩
      refine ⟨hS, ?_⟩
      try simp only [Act.put, List.setIfInBounds_toArray, List.set_cons_zero, List.set_cons_succ]
      refine wpAnyH_all (rs := [3]) (by kernel_rfl) (by simp) fun i hi => ?_
      obtain rfl : i = 3 := by simpa using hi
      have p5 := g5.r5.puto (show w.heap.size + 1 + 1 ≠ w.heap.size + 1 by omega) q0 q1
      refine wpOp_skip (om := ⟨_, _, _, _, _, _⟩) rfl rfl (ex_store 24 (.tmp 5) (.tmp 38) rfl _ _ rfl rfl (p5.store f0 f1)) ?_
      refine ⟨⟨hS.1.puto (by omega) _ _, hS.2.puto (by omega) _ _⟩, ?_⟩
      try simp only [Act.put, List.setIfInBounds_toArray, List.set_cons_zero, List.set_cons_succ]
      refine wpAnyH_done (by kernel_rfl) ?_ _
      try simp only [Act.put, List.setIfInBounds_toArray, List.set_cons_zero, List.set_cons_succ]
      have z4 := (g5.r4.put q0 q1).puto (show w.heap.size + 1 ≠ w.heap.size + 1 + 1 by omega) f0 f1
      have z5 := p5.put f0 f1
      have zb := below_put (below_put g5.bel (show w.heap.size ≤ w.heap.size + 1 by omega) q0 q1) (show w.heap.size ≤ w.heap.size + 1 + 1 by omega) f0 f1
      clear hS p5 g5 lq lr
      go_wp2_with fail
      refine bodyPost_ret (v := .tuple #[pw q0 q1, pw f0 f1]) ?_ rfl ⟨q0, q1, f0, f1, rfl, HR.out.2.2.1, HR.out.2.2.2, hf0, hf1, by rw [HTQ.out, HR.out.2.1]; exact (mod_small NNQ.out).symm, by rw [HTR.out, EF.out, Int.zero_mul, Int.zero_add]; rfl, zb⟩
      exact results_row_row rfl _ _ (w.heap.size + 1) (w.heap.size + 1 + 1) 24 _ _ (0, 0) (0, 0) _ rfl rfl z4 z5 Try.underlying24 rfl Try.sizeW Try.sizeW
    · refine op_run (om := ⟨_, _, _, _, _, _⟩) (u := .pointer (some ⟨w0.heap.size, 0, none⟩)) (w' := (w0.alloc (.cells #[.int .u64 0, .int .u64 0] 24))) rfl rfl (by go_simp) _ _ rfl rfl ?_
      rintro u wA ⟨rfl, rfl⟩
      have s1 := s0.below (Below.al w0 (.cells #[.int .u64 0, .int .u64 0] 24))
      have PQ1 : PB (w0.alloc (.cells #[.int .u64 0, .int .u64 0] 24)) w0.heap.size 0 0 := PB.new _ _ _
      have hgq : w.heap.size + 1 + 1 + 1 < w0.heap.size := s0.x.lt
      generalize (w0.alloc (.cells #[.int .u64 0, .int .u64 0] 24)) = w1 at *
      have hS : PB w1 (w.heap.size + 1 + 1 + 1) x0 x1 := s1.x
      refine ⟨hS, ?_⟩
      try simp only [Act.put, List.setIfInBounds_toArray, List.set_cons_zero, List.set_cons_succ]
      refine wpAnyH_all (rs := [3]) (by kernel_rfl) (by simp) fun i hi => ?_
      obtain rfl : i = 3 := by simpa using hi
      have p1 := PQ1
      refine op_call (om := ⟨_, _, _, _, _, _⟩) (fn := 39) (args := #[pw x0 x1, .int .u64 (absI d)]) (R := fun u w' => QI w1 (x0 * 18446744073709551616 + x1) (absI d) (.returned u) w') rfl rfl (by go_simp)
        ((DV.out w1).mono fun e w' h => by obtain ⟨x, y, rfl, h1⟩ := h; exact ⟨_, rfl, x, y, rfl, h1⟩) _ _ rfl rfl ?_
      rintro u w2 ⟨q0, q1, hu, hq0, hq1, eq, bb⟩
      cases hu
      rw [EX.out] at eq ⊢
      have s2 := s1.below bb
      have q2 := p1.below bb p1.lt
      have hS : PB w2 (w.heap.size + 1 + 1 + 1) x0 x1 := s2.x
      refine ⟨hS, ?_⟩
      try simp only [Act.put, List.setIfInBounds_toArray, List.set_cons_zero, List.set_cons_succ]
      refine wpAnyH_take (oi := ⟨_, _, _, _, _, _⟩) (i := 4) (v := .tuple #[pw q0 q1, .int .u64 (absW a b % absI d)]) rfl (by kernel_rfl) (by kernel_rfl) (by kernel_rfl) (fun _ _ _ h => h) (Or.inl ⟨by rfl, fun _ _ => rfl⟩) hS ?_
      try simp only [Act.put, List.setIfInBounds_toArray, List.set_cons_zero, List.set_cons_succ]
      refine wpAnyH_take (oi := ⟨_, _, _, _, _, _⟩) (i := 5) (v := pw q0 q1) rfl (by kernel_rfl) (by kernel_rfl) (by kernel_rfl) (fun _ _ _ h => h) (Or.inl ⟨by rfl, fun _ _ => by go_simp⟩) hS ?_
      try simp only [Act.put, List.setIfInBounds_toArray, List.set_cons_zero, List.set_cons_succ]
      refine wpAnyH_take (oi := ⟨_, _, _, _, _, _⟩) (i := 6) (v := .int .u64 (absW a b % absI d)) rfl (by kernel_rfl) (by kernel_rfl) (by kernel_rfl) (fun _ _ _ h => h) (Or.inl ⟨by rfl, fun _ _ => by go_simp⟩) hS ?_
      try simp only [Act.put, List.setIfInBounds_toArray, List.set_cons_zero, List.set_cons_succ]
      refine wpAnyH_all (rs := [8]) (by kernel_rfl) (by simp) fun i hi => ?_
      obtain rfl : i = 8 := by simpa using hi
      refine wpOp_skip (om := ⟨_, _, _, _, _, _⟩) rfl rfl (ex_store 24 (.tmp 8) (.tmp 24) rfl _ _ rfl rfl (q2.store q0 q1)) ?_
      have sE : PB (wput w2 w0.heap.size q0 q1) (w.heap.size + 1 + 1 + 1) x0 x1 := s2.x.puto (by omega) q0 q1
      refine ⟨sE, ?_⟩
      try simp only [Act.put, List.setIfInBounds_toArray, List.set_cons_zero, List.set_cons_succ]
      have hS := sE
      refine wpAnyH_take (oi := ⟨_, _, _, _, _, _⟩) (i := 9) (v := .int .u64 (absW a b % absI d)) rfl (by kernel_rfl) (by kernel_rfl) (by kernel_rfl) (fun _ _ _ h => h) (Or.inl ⟨by rfl, fun _ _ => rfl⟩) hS ?_
      try simp only [Act.put, List.setIfInBounds_toArray, List.set_cons_zero, List.set_cons_succ]
      refine wpAnyH_done (by kernel_rfl) ?_ _
      try simp only [Act.put, List.setIfInBounds_toArray, List.set_cons_zero, List.set_cons_succ]
      have hsz : (wput w2 w0.heap.size q0 q1).heap.size = w2.heap.size := wput_size _ _ _ _
      have hql := q2.lt
      have HR := Lib.hid (And.intro hrr (And.intro eq (And.intro hq0 hq1)))
      generalize hR : absW a b % absI d = R at *
      have hRR := HR.out.1
      have g0 : SG w ((wput w2 w0.heap.size q0 q1).alloc (.cells #[.int .u64 0, .int .u64 R] 24)) w0.heap.size w2.heap.size q0 q1 0 R := by
        refine ⟨(s2.r4.puto (by omega) q0 q1).alloc _, (s2.r5.puto (by omega) q0 q1).alloc _, (q2.put q0 q1).alloc _, ?_, by omega, by have := s2.x.lt; omega, by omega, (below_put s2.bel (by omega) q0 q1).alloc (by rw [hsz]; have := s2.bel.size; omega) _⟩
        exact PB.at_ _ hsz.symm 0 R
      rw [← hsz] at g0
      have GR := Lib.hid g0.r.load
      have GQ := Lib.hid g0.q.load
      have G0 := Lib.hid g0
      clear sE hS hsz hql g0 eq hrr hq0 hq1 hRR
      go_wp2_with (first | ((with_reducible refine here (op := .load 24 (.tmp 10)) ?_); refine wpList_load_run rfl 24 _ rfl _ _ rfl GR.out ?_) | fail)
      refine (NR.out R _ HR.out.1).mono ?_
      rintro e wN ⟨f0, f1, rfl, hf0, hf1, ef, bb⟩
      have g1 := G0.out.below bb
      have RS2 := Lib.hid (g1.r.store f0 f1)
      have g2 := g1.putR f0 f1
      have GQ2 := Lib.hid g2.q.load
      have G2 := Lib.hid g2
      have EF := Lib.hid ef
      clear bb g1 g2 ef GQ GR G0
      have g4 := G2
      clear G2
      go_wp2_with (first | ((with_reducible refine here (op := .store 24 (.tmp 10) (.tmp 30)) ?_); refine wpList_store_run rfl 24 _ _ rfl _ _ rfl rfl RS2.out ?_) | fail)
      refine wp_region_held (S := fun V => PB V w0.heap.size q0 q1 ∧ PB V (wput w2 w0.heap.size q0 q1).heap.size f0 f1) (by kernel_rfl) ?_
      have g5 := g4.out.dr
      clear g4
      revert g5
      change SG w (wput wN (wput w2 w0.heap.size q0 q1).heap.size f0 f1).drew _ _ _ _ _ _ → wpAnyH _ _ _ _ _ _ _ _ (wput wN (wput w2 w0.heap.size q0 q1).heap.size f0 f1).drew
      generalize (wput wN (wput w2 w0.heap.size q0 q1).heap.size f0 f1).drew = wF
      intro g5
      have hS : PB wF w0.heap.size q0 q1 ∧ PB wF (wput w2 w0.heap.size q0 q1).heap.size f0 f1 := ⟨g5.q, g5.r⟩
      refine wpAnyH_take (oi := ⟨_, _, _, _, _, _⟩) (i := 0) (v := pw q0 q1) rfl (by kernel_rfl) (by kernel_rfl) (by kernel_rfl) (fun _ _ _ h => h) (yif_load rfl 24 (.tmp 8) rfl _ _ rfl fun w h => h.1.load) hS ?_
      try simp only [Act.put, List.setIfInBounds_toArray, List.set_cons_zero, List.set_cons_succ]
      refine wpAnyH_take (oi := ⟨_, _, _, _, _, _⟩) (i := 1) (v := pw f0 f1) rfl (by kernel_rfl) (by kernel_rfl) (by kernel_rfl) (fun _ _ _ h => h) (yif_load rfl 24 (.tmp 10) rfl _ _ rfl fun w h => h.2.load) hS ?_
      try simp only [Act.put, List.setIfInBounds_toArray, List.set_cons_zero, List.set_cons_succ]
      refine wpAnyH_all (rs := [2]) (by kernel_rfl) (by simp) fun i hi => ?_
      obtain rfl : i = 2 := by simpa using hi
      refine wpOp_skip (om := ⟨_, _, _, _, _, _⟩) rfl rfl (ex_store 24 (.tmp 4) (.tmp 37) rfl _ _ rfl rfl (g5.r4.store q0 q1)) ?_
      have lq := g5.lq
      have lr := g5.lr
      have hS : PB (wput wF (w.heap.size + 1) q0 q1) w0.heap.size q0 q1 ∧ PB (wput wF (w.heap.size + 1) q0 q1) (wput w2 w0.heap.size q0 q1).heap.size f0 f1 := ⟨g5.q.puto (by omega) _ _, g5.r.puto (by omega) _ _⟩
      refine ⟨hS, ?_⟩
      try simp only [Act.put, List.setIfInBounds_toArray, List.set_cons_zero, List.set_cons_succ]
      refine wpAnyH_all (rs := [3]) (by kernel_rfl) (by simp) fun i hi => ?_
      obtain rfl : i = 3 := by simpa using hi
      have p5 := g5.r5.puto (show w.heap.size + 1 + 1 ≠ w.heap.size + 1 by omega) q0 q1
      refine wpOp_skip (om := ⟨_, _, _, _, _, _⟩) rfl rfl (ex_store 24 (.tmp 5) (.tmp 38) rfl _ _ rfl rfl (p5.store f0 f1)) ?_
      refine ⟨⟨hS.1.puto (by omega) _ _, hS.2.puto (by omega) _ _⟩, ?_⟩
      try simp only [Act.put, List.setIfInBounds_toArray, List.set_cons_zero, List.set_cons_succ]
      refine wpAnyH_done (by kernel_rfl) ?_ _
      try simp only [Act.put, List.setIfInBounds_toArray, List.set_cons_zero, List.set_cons_succ]
      have z4 := (g5.r4.put q0 q1).puto (show w.heap.size + 1 ≠ w.heap.size + 1 + 1 by omega) f0 f1
      have z5 := p5.put f0 f1
      have zb := below_put (below_put g5.bel (show w.heap.size ≤ w.heap.size + 1 by omega) q0 q1) (show w.heap.size ≤ w.heap.size + 1 + 1 by omega) f0 f1
      clear hS p5 g5 lq lr
      go_wp2_with fail
      refine bodyPost_ret (v := .tuple #[pw q0 q1, pw f0 f1]) ?_ rfl ⟨q0, q1, f0, f1, rfl, HR.out.2.2.1, HR.out.2.2.2, hf0, hf1, by rw [HTQ.out, HR.out.2.1]; exact (mod_small NNQ.out).symm, by rw [HTR.out, EF.out, Int.zero_mul, Int.zero_add]; rfl, zb⟩
      exact results_row_row rfl _ _ (w.heap.size + 1) (w.heap.size + 1 + 1) 24 _ _ (0, 0) (0, 0) _ rfl rfl z4 z5 Try.underlying24 rfl Try.sizeW Try.sizeW
  · refine op_run (om := ⟨_, _, _, _, _, _⟩) (u := .pointer (some ⟨w0.heap.size, 0, none⟩)) (w' := (w0.alloc (.cells #[.int .u64 0, .int .u64 0] 24))) rfl rfl (by go_simp) _ _ rfl rfl ?_
    rintro u wA ⟨rfl, rfl⟩
    have s1 := s0.below (Below.al w0 (.cells #[.int .u64 0, .int .u64 0] 24))
    have PQ1 : PB (w0.alloc (.cells #[.int .u64 0, .int .u64 0] 24)) w0.heap.size 0 0 := PB.new _ _ _
    have hgq : w.heap.size + 1 + 1 + 1 < w0.heap.size := s0.x.lt
    generalize (w0.alloc (.cells #[.int .u64 0, .int .u64 0] 24)) = w1 at *
    have hS : PB w1 (w.heap.size + 1 + 1 + 1) x0 x1 := s1.x
    refine ⟨hS, ?_⟩
    try simp only [Act.put, List.setIfInBounds_toArray, List.set_cons_zero, List.set_cons_succ]
    refine wpAnyH_all (rs := [2]) (by kernel_rfl) (by simp) fun i hi => ?_
    obtain rfl : i = 2 := by simpa using hi
    refine op_call (om := ⟨_, _, _, _, _, _⟩) (fn := 33) (args := #[.int .i64 d]) (R := fun u w' => u = .int .u64 (absI d) ∧ w1 = w') rfl rfl (by go_simp)
      ((RS.out w1).mono fun e w' h => ⟨_, h.1, rfl, h.2⟩) _ _ rfl rfl ?_
    rintro u wX ⟨rfl, hwX⟩
    subst hwX
    have hS : PB w1 (w.heap.size + 1 + 1 + 1) x0 x1 := s1.x
    refine ⟨hS, ?_⟩
    try simp only [Act.put, List.setIfInBounds_toArray, List.set_cons_zero, List.set_cons_succ]
    refine wpAnyH_all (rs := [3]) (by kernel_rfl) (by simp) fun i hi => ?_
    obtain rfl : i = 3 := by simpa using hi
    have p1 := PQ1
    refine op_call (om := ⟨_, _, _, _, _, _⟩) (fn := 39) (args := #[pw x0 x1, .int .u64 (absI d)]) (R := fun u w' => QI w1 (x0 * 18446744073709551616 + x1) (absI d) (.returned u) w') rfl rfl (by go_simp)
      ((DV.out w1).mono fun e w' h => by obtain ⟨x, y, rfl, h1⟩ := h; exact ⟨_, rfl, x, y, rfl, h1⟩) _ _ rfl rfl ?_
    rintro u w2 ⟨q0, q1, hu, hq0, hq1, eq, bb⟩
    cases hu
    rw [EX.out] at eq ⊢
    have s2 := s1.below bb
    have q2 := p1.below bb p1.lt
    have hS : PB w2 (w.heap.size + 1 + 1 + 1) x0 x1 := s2.x
    refine ⟨hS, ?_⟩
    try simp only [Act.put, List.setIfInBounds_toArray, List.set_cons_zero, List.set_cons_succ]
    refine wpAnyH_take (oi := ⟨_, _, _, _, _, _⟩) (i := 4) (v := .tuple #[pw q0 q1, .int .u64 (absW a b % absI d)]) rfl (by kernel_rfl) (by kernel_rfl) (by kernel_rfl) (fun _ _ _ h => h) (Or.inl ⟨by rfl, fun _ _ => rfl⟩) hS ?_
    try simp only [Act.put, List.setIfInBounds_toArray, List.set_cons_zero, List.set_cons_succ]
    refine wpAnyH_take (oi := ⟨_, _, _, _, _, _⟩) (i := 5) (v := pw q0 q1) rfl (by kernel_rfl) (by kernel_rfl) (by kernel_rfl) (fun _ _ _ h => h) (Or.inl ⟨by rfl, fun _ _ => by go_simp⟩) hS ?_
    try simp only [Act.put, List.setIfInBounds_toArray, List.set_cons_zero, List.set_cons_succ]
    refine wpAnyH_take (oi := ⟨_, _, _, _, _, _⟩) (i := 6) (v := .int .u64 (absW a b % absI d)) rfl (by kernel_rfl) (by kernel_rfl) (by kernel_rfl) (fun _ _ _ h => h) (Or.inl ⟨by rfl, fun _ _ => by go_simp⟩) hS ?_
    try simp only [Act.put, List.setIfInBounds_toArray, List.set_cons_zero, List.set_cons_succ]
    refine wpAnyH_all (rs := [8]) (by kernel_rfl) (by simp) fun i hi => ?_
    obtain rfl : i = 8 := by simpa using hi
    refine wpOp_skip (om := ⟨_, _, _, _, _, _⟩) rfl rfl (ex_store 24 (.tmp 8) (.tmp 24) rfl _ _ rfl rfl (q2.store q0 q1)) ?_
    have sE : PB (wput w2 w0.heap.size q0 q1) (w.heap.size + 1 + 1 + 1) x0 x1 := s2.x.puto (by omega) q0 q1
    refine ⟨sE, ?_⟩
    try simp only [Act.put, List.setIfInBounds_toArray, List.set_cons_zero, List.set_cons_succ]
    have hS := sE
    refine wpAnyH_take (oi := ⟨_, _, _, _, _, _⟩) (i := 9) (v := .int .u64 (absW a b % absI d)) rfl (by kernel_rfl) (by kernel_rfl) (by kernel_rfl) (fun _ _ _ h => h) (Or.inl ⟨by rfl, fun _ _ => rfl⟩) hS ?_
    try simp only [Act.put, List.setIfInBounds_toArray, List.set_cons_zero, List.set_cons_succ]
    refine wpAnyH_done (by kernel_rfl) ?_ _
    try simp only [Act.put, List.setIfInBounds_toArray, List.set_cons_zero, List.set_cons_succ]
    have hsz : (wput w2 w0.heap.size q0 q1).heap.size = w2.heap.size := wput_size _ _ _ _
    have hql := q2.lt
    have HR := Lib.hid (And.intro hrr (And.intro eq (And.intro hq0 hq1)))
    generalize hR : absW a b % absI d = R at *
    have hRR := HR.out.1
    have g0 : SG w ((wput w2 w0.heap.size q0 q1).alloc (.cells #[.int .u64 0, .int .u64 R] 24)) w0.heap.size w2.heap.size q0 q1 0 R := by
      refine ⟨(s2.r4.puto (by omega) q0 q1).alloc _, (s2.r5.puto (by omega) q0 q1).alloc _, (q2.put q0 q1).alloc _, ?_, by omega, by have := s2.x.lt; omega, by omega, (below_put s2.bel (by omega) q0 q1).alloc (by rw [hsz]; have := s2.bel.size; omega) _⟩
      exact PB.at_ _ hsz.symm 0 R
    rw [← hsz] at g0
    have GR := Lib.hid g0.r.load
    have GQ := Lib.hid g0.q.load
    have G0 := Lib.hid g0
    clear sE hS hsz hql g0 eq hrr hq0 hq1 hRR
    go_wp2_with (first | ((with_reducible refine here (op := .load 24 (.tmp 10)) ?_); refine wpList_load_run rfl 24 _ rfl _ _ rfl GR.out ?_) | fail)
    refine (NR.out R _ HR.out.1).mono ?_
    rintro e wN ⟨f0, f1, rfl, hf0, hf1, ef, bb⟩
    have g1 := G0.out.below bb
    have RS2 := Lib.hid (g1.r.store f0 f1)
    have g2 := g1.putR f0 f1
    have GQ2 := Lib.hid g2.q.load
    have G2 := Lib.hid g2
    have EF := Lib.hid ef
    clear bb g1 g2 ef GQ GR G0
    have g4 := G2
    clear G2
    go_wp2_with (first | ((with_reducible refine here (op := .store 24 (.tmp 10) (.tmp 30)) ?_); refine wpList_store_run rfl 24 _ _ rfl _ _ rfl rfl RS2.out ?_) | fail)
    refine wp_region_held (S := fun V => PB V w0.heap.size q0 q1 ∧ PB V (wput w2 w0.heap.size q0 q1).heap.size f0 f1) (by kernel_rfl) ?_
    have g5 := g4.out.dr
    clear g4
    revert g5
    change SG w (wput wN (wput w2 w0.heap.size q0 q1).heap.size f0 f1).drew _ _ _ _ _ _ → wpAnyH _ _ _ _ _ _ _ _ (wput wN (wput w2 w0.heap.size q0 q1).heap.size f0 f1).drew
    generalize (wput wN (wput w2 w0.heap.size q0 q1).heap.size f0 f1).drew = wF
    intro g5
    have hS : PB wF w0.heap.size q0 q1 ∧ PB wF (wput w2 w0.heap.size q0 q1).heap.size f0 f1 := ⟨g5.q, g5.r⟩
    refine wpAnyH_take (oi := ⟨_, _, _, _, _, _⟩) (i := 0) (v := pw q0 q1) rfl (by kernel_rfl) (by kernel_rfl) (by kernel_rfl) (fun _ _ _ h => h) (yif_load rfl 24 (.tmp 8) rfl _ _ rfl fun w h => h.1.load) hS ?_
    try simp only [Act.put, List.setIfInBounds_toArray, List.set_cons_zero, List.set_cons_succ]
    refine wpAnyH_take (oi := ⟨_, _, _, _, _, _⟩) (i := 1) (v := pw f0 f1) rfl (by kernel_rfl) (by kernel_rfl) (by kernel_rfl) (fun _ _ _ h => h) (yif_load rfl 24 (.tmp 10) rfl _ _ rfl fun w h => h.2.load) hS ?_
    try simp only [Act.put, List.setIfInBounds_toArray, List.set_cons_zero, List.set_cons_succ]
    refine wpAnyH_all (rs := [2]) (by kernel_rfl) (by simp) fun i hi => ?_
    obtain rfl : i = 2 := by simpa using hi
    refine wpOp_skip (om := ⟨_, _, _, _, _, _⟩) rfl rfl (ex_store 24 (.tmp 4) (.tmp 37) rfl _ _ rfl rfl (g5.r4.store q0 q1)) ?_
    have lq := g5.lq
    have lr := g5.lr
    have hS : PB (wput wF (w.heap.size + 1) q0 q1) w0.heap.size q0 q1 ∧ PB (wput wF (w.heap.size + 1) q0 q1) (wput w2 w0.heap.size q0 q1).heap.size f0 f1 := ⟨g5.q.puto (by omega) _ _, g5.r.puto (by omega) _ _⟩
    refine ⟨hS, ?_⟩
    try simp only [Act.put, List.setIfInBounds_toArray, List.set_cons_zero, List.set_cons_succ]
    refine wpAnyH_all (rs := [3]) (by kernel_rfl) (by simp) fun i hi => ?_
    obtain rfl : i = 3 := by simpa using hi
    have p5 := g5.r5.puto (show w.heap.size + 1 + 1 ≠ w.heap.size + 1 by omega) q0 q1
    refine wpOp_skip (om := ⟨_, _, _, _, _, _⟩) rfl rfl (ex_store 24 (.tmp 5) (.tmp 38) rfl _ _ rfl rfl (p5.store f0 f1)) ?_
    refine ⟨⟨hS.1.puto (by omega) _ _, hS.2.puto (by omega) _ _⟩, ?_⟩
    try simp only [Act.put, List.setIfInBounds_toArray, List.set_cons_zero, List.set_cons_succ]
    refine wpAnyH_done (by kernel_rfl) ?_ _
    try simp only [Act.put, List.setIfInBounds_toArray, List.set_cons_zero, List.set_cons_succ]
    have z4 := (g5.r4.put q0 q1).puto (show w.heap.size + 1 ≠ w.heap.size + 1 + 1 by omega) f0 f1
    have z5 := p5.put f0 f1
    have zb := below_put (below_put g5.bel (show w.heap.size ≤ w.heap.size + 1 by omega) q0 q1) (show w.heap.size ≤ w.heap.size + 1 + 1 by omega) f0 f1
    clear hS p5 g5 lq lr
    go_wp2_with fail
    refine bodyPost_ret (v := .tuple #[pw q0 q1, pw f0 f1]) ?_ rfl ⟨q0, q1, f0, f1, rfl, HR.out.2.2.1, HR.out.2.2.2, hf0, hf1, by rw [HTQ.out, HR.out.2.1]; exact (mod_small NNQ.out).symm, by rw [HTR.out, EF.out, Int.zero_mul, Int.zero_add]; rfl, zb⟩
    exact results_row_row rfl _ _ (w.heap.size + 1) (w.heap.size + 1 + 1) 24 _ _ (0, 0) (0, 0) _ rfl rfl z4 z5 Try.underlying24 rfl Try.sizeW Try.sizeW
theorem rsigned_any (a b d : Int) (ha : half a) (hb : half b) (hd : i64r d) (h0 : d ≠ 0) (w : World) :
    Calls Try.prog 44 #[pw a b, .int .i64 d] w (SO w (tq a b d) (tr a b d)) := by
  cases h1 : negW a <;> cases h2 : decide (d < 0)
  · exact signed_nn a b d ha hb hd h0 h1 h2 w
  · exact signed_ny a b d ha hb hd h0 h1 h2 w
  · exact signed_yn a b d ha hb hd h0 h1 h2 w
  · exact signed_yy a b d ha hb hd h0 h1 h2 w
theorem tr_i64 {a b d : Int} (ha : half a) (hb : half b) (hd : i64r d) (h0 : d ≠ 0) : i64r (tr a b d) ∧ -(absI d) < tr a b d ∧ tr a b d < absI d := by
  obtain ⟨r1, r2, r3⟩ := tr_range ha hb hd h0
  have hap := absI_le hd
  unfold tr sgn i64r
  cases negW a <;> simp <;> omega
theorem offD_iff (a b d : Int) : offD a b d = true ↔ tr a b d ≠ 0 ∧ (decide (tr a b d < 0) != decide (d < 0)) = true := by
  unfold offD
  rw [Bool.and_eq_true, bne_iff_ne]
theorem fr_i64 {a b d : Int} (ha : half a) (hb : half b) (hd : i64r d) (h0 : d ≠ 0) : i64r (fr a b d) := by
  obtain ⟨h1, h2, h3⟩ := tr_i64 ha hb hd h0
  unfold fr
  cases ho : offD a b d with
  | false => exact h1
  | true =>
    obtain ⟨h4, h5⟩ := (offD_iff a b d).1 ho
    simp only [bne_iff_ne, ne_eq, decide_eq_decide] at h5
    simp only [if_true]
    unfold i64r at *
    omega
theorem tq_wide {a b d : Int} (ha : half a) (hb : half b) (h0 : d ≠ 0) : -170141183460469231731687303715884105728 ≤ tq a b d ∧ tq a b d ≤ 170141183460469231731687303715884105728 := by
  have nn := absW_nn ha hb
  have q1 : 0 ≤ absW a b / absI d := Int.ediv_nonneg nn.1 (by have := absI_pos h0; omega)
  have q2 := Int.ediv_le_self (absI d) nn.1
  have ht : tq a b d = absW a b / absI d ∨ tq a b d = -(absW a b / absI d) := by unfold tq sgn; cases (negW a != decide (d < 0)) <;> simp
  rcases ht with e | e <;> rw [e] <;> omega
theorem fq_wide {a b d : Int} (ha : half a) (hb : half b) (hd : i64r d) (h0 : d ≠ 0) : -170141183460469231731687303715884105728 ≤ fq a b d ∧ fq a b d ≤ 170141183460469231731687303715884105728 := by
  obtain ⟨t1, t2⟩ := tq_wide (a := a) (b := b) (d := d) ha hb h0
  unfold fq
  cases ho : offD a b d with
  | false => exact ⟨t1, t2⟩
  | true =>
    simp only [if_true]
    refine ⟨?_, by omega⟩
    obtain ⟨h4, _⟩ := (offD_iff a b d).1 ho
    by_cases h1 : absI d = 1
    · refine absurd ?_ h4
      unfold tr
      rw [h1, Int.emod_one]
      unfold sgn
      simp
    · have nn := absW_nn ha hb
      have hp := absI_pos h0
      have q1 : 0 ≤ absW a b / absI d := Int.ediv_nonneg nn.1 (by omega)
      have q3 : absW a b / absI d ≤ 85070591730234615865843651857942052864 := by
        have h5 := Int.mul_ediv_self_le (x := absW a b) (k := absI d) (by omega)
        have h6 : 2 * (absW a b / absI d) ≤ absI d * (absW a b / absI d) := Int.mul_le_mul_of_nonneg_right (by omega) q1
        omega
      have ht : tq a b d = absW a b / absI d ∨ tq a b d = -(absW a b / absI d) := by unfold tq sgn; cases (negW a != decide (d < 0)) <;> simp
      rcases ht with e | e <;> rw [e] <;> omega
set_option maxRecDepth 100000 in
set_option maxHeartbeats 800000 in
theorem rfits_any (x y : Int) (hx : half x) (hy : half y) (w : World) :
    Calls Try.prog 45 #[pw x y] w fun e w' => (∃ bq : Bool, e = .returned (.bool bq) ∧ (bq = true ↔ fitW x y)) ∧ Below w.heap.size w w' := by
  have p0 : PB (w.alloc (.cells #[.int .u64 x, .int .u64 y] 24)) w.heap.size x y := PB.new _ _ _
  have b0 := Below.al w (.cells #[.int .u64 x, .int .u64 y] 24)
  have hi := sg64_i64 hy
  have hw : IntKind.i64.wrap y = sg64 y := rfl
  have HFW := Lib.hid (show fitW x y ↔ x * 18446744073709551616 + y = sg64 y % 340282366920938463463374607431768211456 from Iff.rfl)
  generalize sg64 y = n at *
  have OF := Lib.hid (rof_any n hi.1 hi.2)
  go_enter Try.func45, Try.ntmps45
  go_wp2_with fail
  refine wp_region_held (S := fun W => PB W w.heap.size x y) (by kernel_rfl) ?_
  change wpAnyH _ _ _ _ _ _ _ _ (w.alloc (.cells #[.int .u64 x, .int .u64 y] 24)).drew
  replace p0 : PB (w.alloc (.cells #[.int .u64 x, .int .u64 y] 24)).drew w.heap.size x y := p0
  replace b0 : Below w.heap.size w (w.alloc (.cells #[.int .u64 x, .int .u64 y] 24)).drew := b0.drew
  generalize (w.alloc (.cells #[.int .u64 x, .int .u64 y] 24)).drew = w1 at *
  have hS : PB w1 w.heap.size x y := p0
  refine wpAnyH_take (oi := ⟨_, _, _, _, _, _⟩) (i := 0) (v := pw x y) rfl (by kernel_rfl) (by kernel_rfl) (by kernel_rfl) (fun _ _ _ h => h) (yif_load rfl 24 (.tmp 1) rfl _ _ rfl fun w h => h.load) hS ?_
  try simp only [Act.put, List.setIfInBounds_toArray, List.set_cons_zero, List.set_cons_succ]
  refine wpAnyH_take (oi := ⟨_, _, _, _, _, _⟩) (i := 1) (v := .pointer (some ⟨w.heap.size, 1, none⟩)) rfl (by kernel_rfl) (by kernel_rfl) (by kernel_rfl) (fun _ _ _ h => h) (Or.inl ⟨by rfl, fun _ _ => by go_simp⟩) hS ?_
  try simp only [Act.put, List.setIfInBounds_toArray, List.set_cons_zero, List.set_cons_succ]
  refine wpAnyH_take (oi := ⟨_, _, _, _, _, _⟩) (i := 2) (v := .int .u64 y) rfl (by kernel_rfl) (by kernel_rfl) (by kernel_rfl) (fun _ _ _ h => h) (yif_load rfl 22 (.tmp 4) rfl _ _ rfl fun w h => load_one aggU64 h.c1) hS ?_
  try simp only [Act.put, List.setIfInBounds_toArray, List.set_cons_zero, List.set_cons_succ]
  refine wpAnyH_take (oi := ⟨_, _, _, _, _, _⟩) (i := 3) (v := .int .i64 n) rfl (by kernel_rfl) (by kernel_rfl) (by kernel_rfl) (fun _ _ _ h => h) (Or.inl ⟨by rfl, fun _ _ => by go_simp⟩) hS ?_
  try simp only [Act.put, List.setIfInBounds_toArray, List.set_cons_zero, List.set_cons_succ]
  refine wpAnyH_all (rs := [4]) (by kernel_rfl) (by simp) fun i hi => ?_
  obtain rfl : i = 4 := by simpa using hi
  refine op_call (om := ⟨_, _, _, _, _, _⟩) (fn := 16) (args := #[.int .i64 n]) (R := fun u w' => GivesW w1 (n % 340282366920938463463374607431768211456) (.returned u) w') rfl rfl (by go_simp)
    ((OF.out w1).mono fun e w' h => h.call) _ _ rfl rfl ?_
  rintro u w2 hu
  obtain ⟨f, g, rfl, hf, hg, efg, b1⟩ := hu.open
  have hS := hS.below b1 hS.lt
  replace b0 := b0.trans (b1.mono b0.size)
  refine ⟨hS, ?_⟩
  try simp only [Act.put, List.setIfInBounds_toArray, List.set_cons_zero, List.set_cons_succ]
  refine wpAnyH_take (oi := ⟨_, _, _, _, _, _⟩) (i := 5) (v := .bool ((x == f) && (y == g))) rfl (by kernel_rfl) (by kernel_rfl) (by kernel_rfl) (fun _ _ _ h => h) (Or.inl ⟨by rfl, fun _ _ => ex_bin_agg .eql 24 24 (.tmp 3) (.tmp 7) rfl _ _ _ rfl rfl guardW (eqlW x y f g _)⟩) hS ?_
  try simp only [Act.put, List.setIfInBounds_toArray, List.set_cons_zero, List.set_cons_succ]
  refine wpAnyH_take (oi := ⟨_, _, _, _, _, _⟩) (i := 6) (v := .bool ((x == f) && (y == g))) rfl (by kernel_rfl) (by kernel_rfl) (by kernel_rfl) (fun _ _ _ h => h) (Or.inl ⟨by rfl, fun _ _ => rfl⟩) hS ?_
  try simp only [Act.put, List.setIfInBounds_toArray, List.set_cons_zero, List.set_cons_succ]
  refine wpAnyH_done (by kernel_rfl) ?_ _
  try simp only [Act.put, List.setIfInBounds_toArray, List.set_cons_zero, List.set_cons_succ]
  have HI := Lib.hid (show ((x == f) && (y == g)) = true ↔ fitW x y by
    rw [HFW.out, Bool.and_eq_true, beq_iff_eq, beq_iff_eq]
    clear HFW OF
    unfold half at *
    omega)
  clear hS p0
  generalize ((x == f) && (y == g)) = bq at *
  go_wp2_with fail
  go_ret
  exact ⟨⟨bq, rfl, HI.out⟩, b0⟩
set_option maxRecDepth 100000 in
set_option maxHeartbeats 2000000 in
theorem rsm_any (a b d : Int) (ha : half a) (hb : half b) (hd : i64r d) (w : World) :
    Calls Try.prog 24 #[pw a b, .int .i64 d] w (KO .i64 w (giveE d (tq a b d) (tr a b d)) (giveE d (tq a b d) (tq a b d)) (thrE d (tq a b d))) := by
  have p0 : PB (w.alloc (.cells #[.int .u64 a, .int .u64 b] 24)) w.heap.size a b := PB.new _ _ _
  have b0 := Below.al w (.cells #[.int .u64 a, .int .u64 b] 24)
  by_cases h0 : d = 0
  · have HT := Lib.hid (show thrE d (tq a b d) = -10 ∧ giveE d (tq a b d) (tr a b d) = 0 ∧ giveE d (tq a b d) (tq a b d) = 0 by unfold thrE giveE; rw [if_pos h0, if_pos h0, if_pos h0]; exact ⟨rfl, rfl, rfl⟩)
    have h1 : (d == 0) = true := by simpa using h0
    clear h0 p0
    go_enter Try.func24, Try.ntmps24
    go_wp2_with fail
    go_ret3
    refine ⟨?_, b0⟩
    rw [HT.out.1, HT.out.2.1, HT.out.2.2]
    rfl
  · have h1 : (d == 0) = false := by simpa using h0
    have SG0 := Lib.hid (rsigned_any a b d ha hb hd h0)
    have FIT := Lib.hid (fun x y (hx : half x) (hy : half y) e => fit_of (x := x) (y := y) (q := tq a b d) hx hy (tq_wide ha hb h0) e)
    have hri : i64r (tr a b d) := (tr_i64 ha hb hd h0).1
    have HT := Lib.hid (show ∀ bq, fit64 (tq a b d) = bq → thrE d (tq a b d) = (if bq then 0 else -11) ∧ giveE d (tq a b d) (tr a b d) = (if bq then tr a b d else 0) ∧ giveE d (tq a b d) (tq a b d) = (if bq then tq a b d else 0) from fun bq h => by
      unfold thrE giveE
      rw [if_neg h0, if_neg h0, if_neg h0, h]
      exact ⟨rfl, rfl, rfl⟩)
    have OV := Lib.hid (fun (e1 : a = 9223372036854775808) (e2 : b = 0) (e3 : d = -1) => show fit64 (tq a b d) = false by subst e1; subst e2; subst e3; decide +kernel)
    have HRI := Lib.hid hri
    clear h0 hri
    generalize hT : thrE d (tq a b d) = TT at *
    generalize hGR : giveE d (tq a b d) (tr a b d) = GR at *
    generalize hGQ : giveE d (tq a b d) (tq a b d) = GQ at *
    clear hT hGR hGQ
    generalize tq a b d = QQ at *
    generalize tr a b d = RR at *
    go_enter Try.func24, Try.ntmps24
    go_wp2_with fail
    refine (SG0.out _).mono ?_
    rintro e w1 ⟨x, y, r0, r1, rfl, hx, hy, hr0, hr1, eq, er, b1⟩
    obtain ⟨f1, f2⟩ := FIT.out x y hx hy eq
    have p1 := p0.below b1 p0.lt
    have q2 : PB ((w1.alloc (.cells #[.int .u64 x, .int .u64 y] 24)).alloc (.cells #[.int .u64 r0, .int .u64 r1] 24)) w1.heap.size x y := PB.alloc (PB.new _ _ _) _
    have r2 : PB ((w1.alloc (.cells #[.int .u64 x, .int .u64 y] 24)).alloc (.cells #[.int .u64 r0, .int .u64 r1] 24)) (w1.heap.size + 1) r0 r1 := PB.at_ _ (by simp only [World.size_alloc]) _ _
    have p2 : PB ((w1.alloc (.cells #[.int .u64 x, .int .u64 y] 24)).alloc (.cells #[.int .u64 r0, .int .u64 r1] 24)) w.heap.size a b := (p1.alloc _).alloc _
    have b2 : Below w.heap.size w ((w1.alloc (.cells #[.int .u64 x, .int .u64 y] 24)).alloc (.cells #[.int .u64 r0, .int .u64 r1] 24)) := ((b0.trans (b1.mono b0.size)).alloc (by have := b0.size; have := b1.size; omega) _).alloc (by simp only [World.size_alloc]; have := b0.size; have := b1.size; omega) _
    have LP := Lib.hid p2.load
    have LQ := Lib.hid q2.load
    have RW := Lib.hid ((wrap_low hr0 hr1 er).trans (IntWalk.i64_in RR ⟨HRI.out.1, by have := HRI.out.2; omega⟩))
    have trI := Lib.hid (rfits_any x y hx hy)
    have F1 := Lib.hid f1
    have F2 := Lib.hid f2
    have KP := Lib.hid (And.intro q2 (And.intro r2 b2))
    clear b0 p0 p1 b1 f1 f2 eq er SG0 FIT q2 r2 p2 b2 HRI
    by_cases hE : a = 9223372036854775808 ∧ b = 0
    · have ER := Lib.hid (fun w => show (binOp .eql 24 (pw a b) (pw 9223372036854775808 0)).run Try.prog w = .ok (.bool true) w by rw [eqlW]; simp [hE.1, hE.2])
      by_cases hM : d = -1
      · have ho := OV.out hE.1 hE.2 hM
        obtain ⟨t1, t2, t3⟩ := HT.out false ho
        have T := Lib.hid (And.intro t1 (And.intro t2 t3))
        have hM2 : (d == -1) = true := by simpa using hM
        clear t1 t2 t3 ho hE hM HT OV F1 F2
        go_wp2_with (first | ((with_reducible refine here (op := .load 24 (.tmp 2)) ?_); refine wpList_load_run rfl 24 _ rfl _ _ rfl LP.out ?_) | ((with_reducible refine here (op := .binOp .eql 24 (.tmp 18) (.tmp 19) 24) ?_); refine wpList_val rfl _ (ex_bin_agg .eql 24 24 (.tmp 18) (.tmp 19) rfl _ _ _ rfl rfl guardW (ER.out _)) ?_) | fail)
        go_ret3
        refine ⟨?_, KP.out.2.2⟩
        rw [T.out.1, T.out.2.1, T.out.2.2]
        rfl
      · have hM2 : (d == -1) = false := by simpa using hM
        clear hE hM OV
        go_wp2_with (first | ((with_reducible refine here (op := .load 24 (.tmp 2)) ?_); refine wpList_load_run rfl 24 _ rfl _ _ rfl LP.out ?_) | ((with_reducible refine here (op := .binOp .eql 24 (.tmp 18) (.tmp 19) 24) ?_); refine wpList_val rfl _ (ex_bin_agg .eql 24 24 (.tmp 18) (.tmp 19) rfl _ _ _ rfl rfl guardW (ER.out _)) ?_) | ((with_reducible refine here (op := .load 24 (.tmp 7)) ?_); refine wpList_load_run rfl 24 _ rfl _ _ rfl LQ.out ?_) | fail)
        refine (trI.out _).mono ?_
        rintro e w2 ⟨⟨bq, rfl, hbq⟩, bb⟩
        obtain ⟨q2, r2, b2⟩ := KP.out
        replace q2 := q2.below bb q2.lt
        replace r2 := r2.below bb r2.lt
        replace b2 := b2.trans (bb.mono b2.size)
        clear bb KP LP LQ trI ER
        cases bq with
        | true =>
          have hf := F1.out.1 (hbq.1 rfl)
          have hv : IntKind.i64.wrap y = QQ := F2.out hf
          have hv2 := RW.out
          obtain ⟨t1, t2, t3⟩ := HT.out true hf
          have T := Lib.hid (And.intro t1 (And.intro t2 t3))
          have c1 := q2.c1
          have c2 := r2.c1
          clear t1 t2 t3 hf hbq F1 F2 HT q2 r2 RW
          go_wp2_with fail
          go_quiet (fail)
          go_wp2_with fail
          go_ret3
          refine ⟨?_, below_drewN b2 _⟩
          rw [T.out.1, T.out.2.1, T.out.2.2]
          rfl
        | false =>
          have hf : fit64 QQ = false := by
            cases hh : fit64 QQ with
            | true => exact absurd (hbq.2 (F1.out.2 hh)) (by decide)
            | false => rfl
          obtain ⟨t1, t2, t3⟩ := HT.out false hf
          have T := Lib.hid (And.intro t1 (And.intro t2 t3))
          clear t1 t2 t3 hf hbq F1 F2 HT q2 r2 RW
          go_wp2_with fail
          go_ret3
          refine ⟨?_, b2⟩
          rw [T.out.1, T.out.2.1, T.out.2.2]
          rfl
    · have hE2 : ((a == 9223372036854775808) && (b == 0)) = false := by
        rw [Bool.eq_false_iff, ne_eq, Bool.and_eq_true, beq_iff_eq, beq_iff_eq]
        exact fun h => hE h
      have ER := Lib.hid (fun w => show (binOp .eql 24 (pw a b) (pw 9223372036854775808 0)).run Try.prog w = .ok (.bool false) w by rw [eqlW, hE2])
      clear hE hE2 OV
      go_wp2_with (first | ((with_reducible refine here (op := .load 24 (.tmp 2)) ?_); refine wpList_load_run rfl 24 _ rfl _ _ rfl LP.out ?_) | ((with_reducible refine here (op := .binOp .eql 24 (.tmp 18) (.tmp 19) 24) ?_); refine wpList_val rfl _ (ex_bin_agg .eql 24 24 (.tmp 18) (.tmp 19) rfl _ _ _ rfl rfl guardW (ER.out _)) ?_) | ((with_reducible refine here (op := .load 24 (.tmp 7)) ?_); refine wpList_load_run rfl 24 _ rfl _ _ rfl LQ.out ?_) | fail)
      refine (trI.out _).mono ?_
      rintro e w2 ⟨⟨bq, rfl, hbq⟩, bb⟩
      obtain ⟨q2, r2, b2⟩ := KP.out
      replace q2 := q2.below bb q2.lt
      replace r2 := r2.below bb r2.lt
      replace b2 := b2.trans (bb.mono b2.size)
      clear bb KP LP LQ trI ER
      cases bq with
      | true =>
        have hf := F1.out.1 (hbq.1 rfl)
        have hv : IntKind.i64.wrap y = QQ := F2.out hf
        have hv2 := RW.out
        obtain ⟨t1, t2, t3⟩ := HT.out true hf
        have T := Lib.hid (And.intro t1 (And.intro t2 t3))
        have c1 := q2.c1
        have c2 := r2.c1
        clear t1 t2 t3 hf hbq F1 F2 HT q2 r2 RW
        go_wp2_with fail
        go_quiet (fail)
        go_wp2_with fail
        go_ret3
        refine ⟨?_, below_drewN b2 _⟩
        rw [T.out.1, T.out.2.1, T.out.2.2]
        rfl
      | false =>
        have hf : fit64 QQ = false := by
          cases hh : fit64 QQ with
          | true => exact absurd (hbq.2 (F1.out.2 hh)) (by decide)
          | false => rfl
        obtain ⟨t1, t2, t3⟩ := HT.out false hf
        have T := Lib.hid (And.intro t1 (And.intro t2 t3))
        clear t1 t2 t3 hf hbq F1 F2 HT q2 r2 RW
        go_wp2_with fail
        go_ret3
        refine ⟨?_, b2⟩
        rw [T.out.1, T.out.2.1, T.out.2.2]
        rfl
/-- What floor keeps: the results' blocks, the quotient, the rest, nought. -/
structure FL (w wr : World) (g : Nat) (q0 q1 r0 r1 : Int) : Prop where
  r4 : PB wr (w.heap.size + 1) 0 0
  r5 : PB wr (w.heap.size + 1 + 1) 0 0
  q : PB wr g q0 q1
  r : PB wr (g + 1) r0 r1
  z : PB wr (g + 1 + 1) 0 0
  lt : w.heap.size + 1 + 1 < g
  bel : Below w.heap.size w wr
section
variable {w wr w' : World} {g : Nat} {q0 q1 r0 r1 : Int}
theorem FL.below (h : FL w wr g q0 q1 r0 r1) (k : Below wr.heap.size wr w') : FL w w' g q0 q1 r0 r1 :=
  ⟨h.r4.below k h.r4.lt, h.r5.below k h.r5.lt, h.q.below k h.q.lt, h.r.below k h.r.lt, h.z.below k h.z.lt, h.lt, h.bel.trans (k.mono h.bel.size)⟩
theorem FL.dr (h : FL w wr g q0 q1 r0 r1) : FL w wr.drew g q0 q1 r0 r1 := ⟨h.r4, h.r5, h.q, h.r, h.z, h.lt, h.bel.drew⟩
theorem FL.putQ (h : FL w wr g q0 q1 r0 r1) (x y : Int) : FL w (wput wr g x y) g x y r0 r1 :=
  ⟨h.r4.puto (by have := h.lt; omega) x y, h.r5.puto (by have := h.lt; omega) x y, h.q.put x y, h.r.puto (by omega) x y, h.z.puto (by omega) x y, h.lt, below_put h.bel (by have := h.lt; omega) x y⟩
theorem FL.putR (h : FL w wr g q0 q1 r0 r1) (x y : Int) : FL w (wput wr (g + 1) x y) g q0 q1 x y :=
  ⟨h.r4.puto (by have := h.lt; omega) x y, h.r5.puto (by have := h.lt; omega) x y, h.q.puto (by omega) x y, h.r.put x y, h.z.puto (by omega) x y, h.lt, below_put h.bel (by have := h.lt; omega) x y⟩
end
theorem rest_sign {c e t : Int} (hc : half c) (he : half e) (ht : i64r t) (h : c * 18446744073709551616 + e = t % 340282366920938463463374607431768211456) :
    ((c == 0) && (e == 0)) = decide (t = 0) ∧ (c / 9223372036854775808 == 1) = decide (t < 0) := by
  unfold half i64r at *
  constructor
  · rw [Bool.eq_iff_iff]
    simp
    omega
  · rw [Bool.eq_iff_iff]
    simp
    omega
set_option maxRecDepth 100000 in
set_option maxHeartbeats 2000000 in
theorem rfloor_any (a b d : Int) (ha : half a) (hb : half b) (hd : i64r d) (h0 : d ≠ 0) (w : World) :
    Calls Try.prog 48 #[pw a b, .int .i64 d] w (SO w (fq a b d) (fr a b d)) := by
  have r4 : PB (((w.alloc (.cells #[.int .u64 a, .int .u64 b] 24)).alloc (.cells #[.int .u64 0, .int .u64 0] 24)).alloc (.cells #[.int .u64 0, .int .u64 0] 24)) (w.heap.size + 1) 0 0 := PB.alloc (PB.at_ _ (by simp only [World.size_alloc]) _ _) _
  have r5 : PB (((w.alloc (.cells #[.int .u64 a, .int .u64 b] 24)).alloc (.cells #[.int .u64 0, .int .u64 0] 24)).alloc (.cells #[.int .u64 0, .int .u64 0] 24)) (w.heap.size + 1 + 1) 0 0 := PB.at_ _ (by simp only [World.size_alloc]) _ _
  have b0 : Below w.heap.size w (((w.alloc (.cells #[.int .u64 a, .int .u64 b] 24)).alloc (.cells #[.int .u64 0, .int .u64 0] 24)).alloc (.cells #[.int .u64 0, .int .u64 0] 24)) := ((Below.al _ _).alloc (by simp only [World.size_alloc]; omega) _).alloc (by simp only [World.size_alloc]; omega) _
  have SG0 := Lib.hid (rsigned_any a b d ha hb hd h0)
  have OF := Lib.hid (rof_any d hd.1 hd.2)
  have TI := Lib.hid (tr_i64 ha hb hd h0).1
  have HO := Lib.hid (offD_iff a b d)
  have HF := Lib.hid (show ∀ bq, offD a b d = bq → fq a b d = (if bq then tq a b d - 1 else tq a b d) ∧ fr a b d = (if bq then tr a b d + d else tr a b d) from fun bq h => by unfold fq fr; rw [h]; exact ⟨rfl, rfl⟩)
  generalize hFQ : fq a b d = FQ at *
  generalize hFR : fr a b d = FR at *
  clear hFQ hFR hb hd h0
  generalize tq a b d = TQ at *
  generalize tr a b d = TR at *
  generalize offD a b d = OD at *
  go_enter Try.func48, Try.ntmps48
  go_wp2_with fail
  refine (SG0.out _).mono ?_
  rintro e w1 ⟨q0, q1, c0, c1, rfl, hq0, hq1, hc0, hc1, eq, ec, b1⟩
  obtain ⟨z1, z2⟩ := rest_sign hc0 hc1 TI.out ec
  have hl5 := (r5.below b1 r5.lt).lt
  have f0 : FL w (((w1.alloc (.cells #[.int .u64 q0, .int .u64 q1] 24)).alloc (.cells #[.int .u64 c0, .int .u64 c1] 24)).alloc (.cells #[.int .u64 0, .int .u64 0] 24)) w1.heap.size q0 q1 c0 c1 :=
    ⟨(((r4.below b1 r4.lt).alloc _).alloc _).alloc _, (((r5.below b1 r5.lt).alloc _).alloc _).alloc _, PB.alloc (PB.alloc (PB.new _ _ _) _) _, PB.alloc (PB.at_ _ (by simp only [World.size_alloc]) _ _) _, PB.at_ _ (by simp only [World.size_alloc]) _ _, hl5,
      (((b0.trans (b1.mono b0.size)).alloc (by omega) _).alloc (by simp only [World.size_alloc]; omega) _).alloc (by simp only [World.size_alloc]; omega) _⟩
  have LR := Lib.hid f0.r.load
  have LZ := Lib.hid f0.z.load
  have cr0 := f0.r.c0
  have NE := Lib.hid (fun w => neqW c0 c1 0 0 w)
  have EE := Lib.hid (And.intro eq ec)
  have G0 := Lib.hid f0
  rw [z1] at NE
  clear eq ec b1 r4 r5 b0 f0 SG0 z1 hl5
  by_cases ht0 : TR = 0
  · have NE2 := Lib.hid (fun w => show (binOp .neq 24 (pw c0 c1) (pw 0 0)).run Try.prog w = .ok (.bool false) w by rw [NE.out w]; simp [ht0])
    obtain ⟨k1, k2⟩ := HF.out false (by cases h : OD with
      | false => rfl
      | true => exact absurd ht0 (HO.out.1 h).1)
    have K := Lib.hid (And.intro k1 k2)
    clear NE k1 k2 ht0 HF HO cr0 z2
    go_wp2_with (first | ((with_reducible refine here (op := .load 24 (.tmp 7)) ?_); refine wpList_load_run rfl 24 _ rfl _ _ rfl LR.out ?_) | ((with_reducible refine here (op := .load 24 (.tmp 8)) ?_); refine wpList_load_run rfl 24 _ rfl _ _ rfl LZ.out ?_) | ((with_reducible refine here (op := .binOp .neq 24 (.tmp 16) (.tmp 17) 24) ?_); refine wpList_val rfl _ (ex_bin_agg .neq 24 24 (.tmp 16) (.tmp 17) rfl _ _ _ rfl rfl guardW (NE2.out _)) ?_) | fail)
    clear LR LZ
    refine wp_region_held (S := fun V => PB V w1.heap.size q0 q1 ∧ PB V (w1.heap.size + 1) c0 c1) (by kernel_rfl) ?_
    have g5 := G0.out.dr
    clear G0
    revert g5
    change FL w (((w1.alloc (.cells #[.int .u64 q0, .int .u64 q1] 24)).alloc (.cells #[.int .u64 c0, .int .u64 c1] 24)).alloc (.cells #[.int .u64 0, .int .u64 0] 24)).drew _ _ _ _ _ → wpAnyH _ _ _ _ _ _ _ _ (((w1.alloc (.cells #[.int .u64 q0, .int .u64 q1] 24)).alloc (.cells #[.int .u64 c0, .int .u64 c1] 24)).alloc (.cells #[.int .u64 0, .int .u64 0] 24)).drew
    generalize (((w1.alloc (.cells #[.int .u64 q0, .int .u64 q1] 24)).alloc (.cells #[.int .u64 c0, .int .u64 c1] 24)).alloc (.cells #[.int .u64 0, .int .u64 0] 24)).drew = wF
    intro g5
    have hS : PB wF w1.heap.size q0 q1 ∧ PB wF (w1.heap.size + 1) c0 c1 := ⟨g5.q, g5.r⟩
    refine wpAnyH_take (oi := ⟨_, _, _, _, _, _⟩) (i := 0) (v := pw q0 q1) rfl (by kernel_rfl) (by kernel_rfl) (by kernel_rfl) (fun _ _ _ h => h) (yif_load rfl 24 (.tmp 6) rfl _ _ rfl fun w h => h.1.load) hS ?_
    try simp only [Act.put, List.setIfInBounds_toArray, List.set_cons_zero, List.set_cons_succ]
    refine wpAnyH_take (oi := ⟨_, _, _, _, _, _⟩) (i := 1) (v := pw c0 c1) rfl (by kernel_rfl) (by kernel_rfl) (by kernel_rfl) (fun _ _ _ h => h) (yif_load rfl 24 (.tmp 7) rfl _ _ rfl fun w h => h.2.load) hS ?_
    try simp only [Act.put, List.setIfInBounds_toArray, List.set_cons_zero, List.set_cons_succ]
    refine wpAnyH_all (rs := [2]) (by kernel_rfl) (by simp) fun i hi => ?_
    obtain rfl : i = 2 := by simpa using hi
    have lt := g5.lt
    refine wpOp_skip (om := ⟨_, _, _, _, _, _⟩) rfl rfl (ex_store 24 (.tmp 4) (.tmp 35) rfl _ _ rfl rfl (g5.r4.store q0 q1)) ?_
    have hS : PB (wput wF (w.heap.size + 1) q0 q1) w1.heap.size q0 q1 ∧ PB (wput wF (w.heap.size + 1) q0 q1) (w1.heap.size + 1) c0 c1 := ⟨g5.q.puto (by omega) _ _, g5.r.puto (by omega) _ _⟩
    refine ⟨hS, ?_⟩
    try simp only [Act.put, List.setIfInBounds_toArray, List.set_cons_zero, List.set_cons_succ]
    refine wpAnyH_all (rs := [3]) (by kernel_rfl) (by simp) fun i hi => ?_
    obtain rfl : i = 3 := by simpa using hi
    have p5 := g5.r5.puto (show w.heap.size + 1 + 1 ≠ w.heap.size + 1 by omega) q0 q1
    refine wpOp_skip (om := ⟨_, _, _, _, _, _⟩) rfl rfl (ex_store 24 (.tmp 5) (.tmp 36) rfl _ _ rfl rfl (p5.store c0 c1)) ?_
    refine ⟨⟨hS.1.puto (by omega) _ _, hS.2.puto (by omega) _ _⟩, ?_⟩
    try simp only [Act.put, List.setIfInBounds_toArray, List.set_cons_zero, List.set_cons_succ]
    refine wpAnyH_done (by kernel_rfl) ?_ _
    try simp only [Act.put, List.setIfInBounds_toArray, List.set_cons_zero, List.set_cons_succ]
    have z4 := (g5.r4.put q0 q1).puto (show w.heap.size + 1 ≠ w.heap.size + 1 + 1 by omega) c0 c1
    have z5 := p5.put c0 c1
    have zb := below_put (below_put g5.bel (show w.heap.size ≤ w.heap.size + 1 by omega) q0 q1) (show w.heap.size ≤ w.heap.size + 1 + 1 by omega) c0 c1
    clear hS p5 g5 lt
    go_wp2_with fail
    refine bodyPost_ret (v := .tuple #[pw q0 q1, pw c0 c1]) ?_ rfl ⟨q0, q1, c0, c1, rfl, hq0, hq1, hc0, hc1, by rw [K.out.1]; exact EE.out.1, by rw [K.out.2]; exact EE.out.2, zb⟩
    exact results_row_row rfl _ _ (w.heap.size + 1) (w.heap.size + 1 + 1) 24 _ _ (0, 0) (0, 0) _ rfl rfl z4 z5 Try.underlying24 rfl Try.sizeW Try.sizeW
  · have NE2 := Lib.hid (fun w => show (binOp .neq 24 (pw c0 c1) (pw 0 0)).run Try.prog w = .ok (.bool true) w by rw [NE.out w]; simp [ht0])
    by_cases hT : TR < 0 <;> by_cases hD : d < 0
    · have hs : (decide (TR < 0) != decide (d < 0)) = false := by simp [hT, hD]
      obtain ⟨k1, k2⟩ := HF.out false (by cases h : OD with
        | false => rfl
        | true => have := (HO.out.1 h).2; rw [hs] at this; cases this)
      have K := Lib.hid (And.intro k1 k2)
      clear NE k1 k2 ht0 HF HO hs
      go_wp2_with (first | ((with_reducible refine here (op := .load 24 (.tmp 7)) ?_); refine wpList_load_run rfl 24 _ rfl _ _ rfl LR.out ?_) | ((with_reducible refine here (op := .load 24 (.tmp 8)) ?_); refine wpList_load_run rfl 24 _ rfl _ _ rfl LZ.out ?_) | ((with_reducible refine here (op := .binOp .neq 24 (.tmp 16) (.tmp 17) 24) ?_); refine wpList_val rfl _ (ex_bin_agg .neq 24 24 (.tmp 16) (.tmp 17) rfl _ _ _ rfl rfl guardW (NE2.out _)) ?_) | fail)
      clear LR LZ
      refine wp_region_held (S := fun V => PB V w1.heap.size q0 q1 ∧ PB V (w1.heap.size + 1) c0 c1) (by kernel_rfl) ?_
      have g5 := G0.out.dr
      clear G0
      revert g5
      change FL w (((w1.alloc (.cells #[.int .u64 q0, .int .u64 q1] 24)).alloc (.cells #[.int .u64 c0, .int .u64 c1] 24)).alloc (.cells #[.int .u64 0, .int .u64 0] 24)).drew _ _ _ _ _ → wpAnyH _ _ _ _ _ _ _ _ (((w1.alloc (.cells #[.int .u64 q0, .int .u64 q1] 24)).alloc (.cells #[.int .u64 c0, .int .u64 c1] 24)).alloc (.cells #[.int .u64 0, .int .u64 0] 24)).drew
      generalize (((w1.alloc (.cells #[.int .u64 q0, .int .u64 q1] 24)).alloc (.cells #[.int .u64 c0, .int .u64 c1] 24)).alloc (.cells #[.int .u64 0, .int .u64 0] 24)).drew = wF
      intro g5
      have hS : PB wF w1.heap.size q0 q1 ∧ PB wF (w1.heap.size + 1) c0 c1 := ⟨g5.q, g5.r⟩
      refine wpAnyH_take (oi := ⟨_, _, _, _, _, _⟩) (i := 0) (v := pw q0 q1) rfl (by kernel_rfl) (by kernel_rfl) (by kernel_rfl) (fun _ _ _ h => h) (yif_load rfl 24 (.tmp 6) rfl _ _ rfl fun w h => h.1.load) hS ?_
      try simp only [Act.put, List.setIfInBounds_toArray, List.set_cons_zero, List.set_cons_succ]
      refine wpAnyH_take (oi := ⟨_, _, _, _, _, _⟩) (i := 1) (v := pw c0 c1) rfl (by kernel_rfl) (by kernel_rfl) (by kernel_rfl) (fun _ _ _ h => h) (yif_load rfl 24 (.tmp 7) rfl _ _ rfl fun w h => h.2.load) hS ?_
      try simp only [Act.put, List.setIfInBounds_toArray, List.set_cons_zero, List.set_cons_succ]
      refine wpAnyH_all (rs := [2]) (by kernel_rfl) (by simp) fun i hi => ?_
      obtain rfl : i = 2 := by simpa using hi
      have lt := g5.lt
      refine wpOp_skip (om := ⟨_, _, _, _, _, _⟩) rfl rfl (ex_store 24 (.tmp 4) (.tmp 35) rfl _ _ rfl rfl (g5.r4.store q0 q1)) ?_
      have hS : PB (wput wF (w.heap.size + 1) q0 q1) w1.heap.size q0 q1 ∧ PB (wput wF (w.heap.size + 1) q0 q1) (w1.heap.size + 1) c0 c1 := ⟨g5.q.puto (by omega) _ _, g5.r.puto (by omega) _ _⟩
      refine ⟨hS, ?_⟩
      try simp only [Act.put, List.setIfInBounds_toArray, List.set_cons_zero, List.set_cons_succ]
      refine wpAnyH_all (rs := [3]) (by kernel_rfl) (by simp) fun i hi => ?_
      obtain rfl : i = 3 := by simpa using hi
      have p5 := g5.r5.puto (show w.heap.size + 1 + 1 ≠ w.heap.size + 1 by omega) q0 q1
      refine wpOp_skip (om := ⟨_, _, _, _, _, _⟩) rfl rfl (ex_store 24 (.tmp 5) (.tmp 36) rfl _ _ rfl rfl (p5.store c0 c1)) ?_
      refine ⟨⟨hS.1.puto (by omega) _ _, hS.2.puto (by omega) _ _⟩, ?_⟩
      try simp only [Act.put, List.setIfInBounds_toArray, List.set_cons_zero, List.set_cons_succ]
      refine wpAnyH_done (by kernel_rfl) ?_ _
      try simp only [Act.put, List.setIfInBounds_toArray, List.set_cons_zero, List.set_cons_succ]
      have z4 := (g5.r4.put q0 q1).puto (show w.heap.size + 1 ≠ w.heap.size + 1 + 1 by omega) c0 c1
      have z5 := p5.put c0 c1
      have zb := below_put (below_put g5.bel (show w.heap.size ≤ w.heap.size + 1 by omega) q0 q1) (show w.heap.size ≤ w.heap.size + 1 + 1 by omega) c0 c1
      clear hS p5 g5 lt
      go_wp2_with fail
      refine bodyPost_ret (v := .tuple #[pw q0 q1, pw c0 c1]) ?_ rfl ⟨q0, q1, c0, c1, rfl, hq0, hq1, hc0, hc1, by rw [K.out.1]; exact EE.out.1, by rw [K.out.2]; exact EE.out.2, zb⟩
      exact results_row_row rfl _ _ (w.heap.size + 1) (w.heap.size + 1 + 1) 24 _ _ (0, 0) (0, 0) _ rfl rfl z4 z5 Try.underlying24 rfl Try.sizeW Try.sizeW
    · have hs : (decide (TR < 0) != decide (d < 0)) = true := by simp [hT, hD]
      have dD : decide (d < 0) = false := by simp; omega
      obtain ⟨k1, k2⟩ := HF.out true (by cases h : OD with
        | true => rfl
        | false => have := HO.out.2 ⟨ht0, hs⟩; rw [h] at this; cases this)
      have K := Lib.hid (And.intro k1 k2)
      clear NE k1 k2 ht0 HF HO hs
      go_wp2_with (first | ((with_reducible refine here (op := .load 24 (.tmp 7)) ?_); refine wpList_load_run rfl 24 _ rfl _ _ rfl LR.out ?_) | ((with_reducible refine here (op := .load 24 (.tmp 8)) ?_); refine wpList_load_run rfl 24 _ rfl _ _ rfl LZ.out ?_) | ((with_reducible refine here (op := .binOp .neq 24 (.tmp 16) (.tmp 17) 24) ?_); refine wpList_val rfl _ (ex_bin_agg .neq 24 24 (.tmp 16) (.tmp 17) rfl _ _ _ rfl rfl guardW (NE2.out _)) ?_) | fail)
      refine wp_region_any (by kernel_rfl) (wpAny_of_last (S := fun V => PB V w1.heap.size q0 q1) (z := 3) _ _ _ _ ?_)
      have g5 := G0.out.dr
      clear G0 LR LZ cr0
      revert g5
      change FL w (((w1.alloc (.cells #[.int .u64 q0, .int .u64 q1] 24)).alloc (.cells #[.int .u64 c0, .int .u64 c1] 24)).alloc (.cells #[.int .u64 0, .int .u64 0] 24)).drew _ _ _ _ _ → wpAnyZ _ _ _ _ _ _ _ _ _ (((w1.alloc (.cells #[.int .u64 q0, .int .u64 q1] 24)).alloc (.cells #[.int .u64 c0, .int .u64 c1] 24)).alloc (.cells #[.int .u64 0, .int .u64 0] 24)).drew
      generalize (((w1.alloc (.cells #[.int .u64 q0, .int .u64 q1] 24)).alloc (.cells #[.int .u64 c0, .int .u64 c1] 24)).alloc (.cells #[.int .u64 0, .int .u64 0] 24)).drew = wA
      intro g5
      have hS : PB wA w1.heap.size q0 q1 := g5.q
      refine wpAnyZ_take (oi := ⟨_, _, _, _, _, _⟩) (i := 0) (v := pw q0 q1) rfl (by kernel_rfl) (fun _ _ _ h => h) (yif_load rfl 24 (.tmp 6) rfl _ _ rfl fun w h => h.load) hS ?_
      try simp only [Act.put, List.setIfInBounds_toArray, List.set_cons_zero, List.set_cons_succ]
      refine wpAnyZ_one (i := 1) (by kernel_rfl) ?_
      refine op_call (om := ⟨_, _, _, _, _, _⟩) (fn := 16) (args := #[.int .i64 (-1)]) (R := fun u w' => GivesW wA (-1 % 340282366920938463463374607431768211456) (.returned u) w') rfl rfl (by go_simp)
        ((rof_any (-1) (by decide) (by decide) wA).mono fun e w' h => h.call) _ _ rfl rfl ?_
      rintro u wB hu
      obtain ⟨f, g, rfl, hf, hg, efg, bb⟩ := hu.open
      have g6 := g5.below bb
      have hS := g6.q
      clear bb g5 hu
      refine ⟨.inr hS, ?_⟩
      try simp only [Act.put, List.setIfInBounds_toArray, List.set_cons_zero, List.set_cons_succ]
      refine wpAnyZ_one (i := 2) (by kernel_rfl) ?_
      refine op_call (om := ⟨_, _, _, _, _, _⟩) (fn := 12) (args := #[pw q0 q1, pw f g]) (R := fun u w' => GivesW wB ((q0 * 18446744073709551616 + q1 + (f * 18446744073709551616 + g)) % 340282366920938463463374607431768211456) (.returned u) w') rfl rfl (by go_simp)
        ((radd_any q0 q1 f g hq0 hq1 hf hg wB).mono fun e w' h => h.call) _ _ rfl rfl ?_
      rintro u wC hu
      obtain ⟨f2, g2, rfl, hf2, hg2, efg2, bb⟩ := hu.open
      have g7 := g6.below bb
      have hS := g7.q
      clear bb g6 hu
      refine ⟨.inr hS, ?_⟩
      try simp only [Act.put, List.setIfInBounds_toArray, List.set_cons_zero, List.set_cons_succ]
      refine wpAnyZ_one (i := 3) (by kernel_rfl) ?_
      refine wpOp_skip (om := ⟨_, _, _, _, _, _⟩) rfl rfl (ex_store 24 (.tmp 6) (.tmp 30) rfl _ _ rfl rfl (g7.q.store f2 g2)) ?_
      refine ⟨.inl (by omega), ?_⟩
      try simp only [Act.put, List.setIfInBounds_toArray, List.set_cons_zero, List.set_cons_succ]
      refine wpAnyZ_done (by kernel_rfl) ?_ _
      try simp only [Act.put, List.setIfInBounds_toArray, List.set_cons_zero, List.set_cons_succ]
      have g8 := Lib.hid (g7.putQ f2 g2)
      have EF2 := Lib.hid (efg2.trans (by rw [EE.out.1, efg]))
      clear hS g7 efg2 efg
      go_wp2_with fail
      refine wp_region_any (by kernel_rfl) (wpAny_of_last (S := fun V => PB V (w1.heap.size + 1) c0 c1) (z := 4) _ _ _ _ ?_)
      have g5 := g8.out.dr
      clear g8
      revert g5
      change FL w (wput wC w1.heap.size f2 g2).drew _ _ _ _ _ → wpAnyZ _ _ _ _ _ _ _ _ _ (wput wC w1.heap.size f2 g2).drew
      generalize (wput wC w1.heap.size f2 g2).drew = wD
      intro g5
      have hS : PB wD (w1.heap.size + 1) c0 c1 := g5.r
      refine wpAnyZ_take (oi := ⟨_, _, _, _, _, _⟩) (i := 0) (v := pw c0 c1) rfl (by kernel_rfl) (fun _ _ _ h => h) (yif_load rfl 24 (.tmp 7) rfl _ _ rfl fun w h => h.load) hS ?_
      try simp only [Act.put, List.setIfInBounds_toArray, List.set_cons_zero, List.set_cons_succ]
      refine wpAnyZ_take (oi := ⟨_, _, _, _, _, _⟩) (i := 1) (v := .int .i64 d) rfl (by kernel_rfl) (fun _ _ _ h => h) (Or.inl ⟨by rfl, fun _ _ => rfl⟩) hS ?_
      try simp only [Act.put, List.setIfInBounds_toArray, List.set_cons_zero, List.set_cons_succ]
      refine wpAnyZ_one (i := 2) (by kernel_rfl) ?_
      refine op_call (om := ⟨_, _, _, _, _, _⟩) (fn := 16) (args := #[.int .i64 d]) (R := fun u w' => GivesW wD (d % 340282366920938463463374607431768211456) (.returned u) w') rfl rfl (by go_simp)
        ((OF.out wD).mono fun e w' h => h.call) _ _ rfl rfl ?_
      rintro u wE hu
      obtain ⟨f3, g3, rfl, hf3, hg3, efg3, bb⟩ := hu.open
      have g6 := g5.below bb
      have hS := g6.r
      clear bb g5 hu
      refine ⟨.inr hS, ?_⟩
      try simp only [Act.put, List.setIfInBounds_toArray, List.set_cons_zero, List.set_cons_succ]
      refine wpAnyZ_one (i := 3) (by kernel_rfl) ?_
      refine op_call (om := ⟨_, _, _, _, _, _⟩) (fn := 12) (args := #[pw c0 c1, pw f3 g3]) (R := fun u w' => GivesW wE ((c0 * 18446744073709551616 + c1 + (f3 * 18446744073709551616 + g3)) % 340282366920938463463374607431768211456) (.returned u) w') rfl rfl (by go_simp)
        ((radd_any c0 c1 f3 g3 hc0 hc1 hf3 hg3 wE).mono fun e w' h => h.call) _ _ rfl rfl ?_
      rintro u wG hu
      obtain ⟨f4, g4, rfl, hf4, hg4, efg4, bb⟩ := hu.open
      have g7 := g6.below bb
      have hS := g7.r
      clear bb g6 hu
      refine ⟨.inr hS, ?_⟩
      try simp only [Act.put, List.setIfInBounds_toArray, List.set_cons_zero, List.set_cons_succ]
      refine wpAnyZ_one (i := 4) (by kernel_rfl) ?_
      refine wpOp_skip (om := ⟨_, _, _, _, _, _⟩) rfl rfl (ex_store 24 (.tmp 7) (.tmp 34) rfl _ _ rfl rfl (g7.r.store f4 g4)) ?_
      refine ⟨.inl (by omega), ?_⟩
      try simp only [Act.put, List.setIfInBounds_toArray, List.set_cons_zero, List.set_cons_succ]
      refine wpAnyZ_done (by kernel_rfl) ?_ _
      try simp only [Act.put, List.setIfInBounds_toArray, List.set_cons_zero, List.set_cons_succ]
      have g8 := Lib.hid (g7.putR f4 g4)
      have EF4 := Lib.hid (efg4.trans (by rw [EE.out.2, efg3]))
      clear hS g7 efg4 efg3
      go_wp2_with fail
      refine wp_region_held (S := fun V => PB V w1.heap.size f2 g2 ∧ PB V (w1.heap.size + 1) f4 g4) (by kernel_rfl) ?_
      have g5 := g8.out.dr
      clear g8
      revert g5
      change FL w (wput wG (w1.heap.size + 1) f4 g4).drew _ _ _ _ _ → wpAnyH _ _ _ _ _ _ _ _ (wput wG (w1.heap.size + 1) f4 g4).drew
      generalize (wput wG (w1.heap.size + 1) f4 g4).drew = wF
      intro g5
      have hS : PB wF w1.heap.size f2 g2 ∧ PB wF (w1.heap.size + 1) f4 g4 := ⟨g5.q, g5.r⟩
      refine wpAnyH_take (oi := ⟨_, _, _, _, _, _⟩) (i := 0) (v := pw f2 g2) rfl (by kernel_rfl) (by kernel_rfl) (by kernel_rfl) (fun _ _ _ h => h) (yif_load rfl 24 (.tmp 6) rfl _ _ rfl fun w h => h.1.load) hS ?_
      try simp only [Act.put, List.setIfInBounds_toArray, List.set_cons_zero, List.set_cons_succ]
      refine wpAnyH_take (oi := ⟨_, _, _, _, _, _⟩) (i := 1) (v := pw f4 g4) rfl (by kernel_rfl) (by kernel_rfl) (by kernel_rfl) (fun _ _ _ h => h) (yif_load rfl 24 (.tmp 7) rfl _ _ rfl fun w h => h.2.load) hS ?_
      try simp only [Act.put, List.setIfInBounds_toArray, List.set_cons_zero, List.set_cons_succ]
      refine wpAnyH_all (rs := [2]) (by kernel_rfl) (by simp) fun i hi => ?_
      obtain rfl : i = 2 := by simpa using hi
      have lt := g5.lt
      refine wpOp_skip (om := ⟨_, _, _, _, _, _⟩) rfl rfl (ex_store 24 (.tmp 4) (.tmp 35) rfl _ _ rfl rfl (g5.r4.store f2 g2)) ?_
      have hS : PB (wput wF (w.heap.size + 1) f2 g2) w1.heap.size f2 g2 ∧ PB (wput wF (w.heap.size + 1) f2 g2) (w1.heap.size + 1) f4 g4 := ⟨g5.q.puto (by omega) _ _, g5.r.puto (by omega) _ _⟩
      refine ⟨hS, ?_⟩
      try simp only [Act.put, List.setIfInBounds_toArray, List.set_cons_zero, List.set_cons_succ]
      refine wpAnyH_all (rs := [3]) (by kernel_rfl) (by simp) fun i hi => ?_
      obtain rfl : i = 3 := by simpa using hi
      have p5 := g5.r5.puto (show w.heap.size + 1 + 1 ≠ w.heap.size + 1 by omega) f2 g2
      refine wpOp_skip (om := ⟨_, _, _, _, _, _⟩) rfl rfl (ex_store 24 (.tmp 5) (.tmp 36) rfl _ _ rfl rfl (p5.store f4 g4)) ?_
      refine ⟨⟨hS.1.puto (by omega) _ _, hS.2.puto (by omega) _ _⟩, ?_⟩
      try simp only [Act.put, List.setIfInBounds_toArray, List.set_cons_zero, List.set_cons_succ]
      refine wpAnyH_done (by kernel_rfl) ?_ _
      try simp only [Act.put, List.setIfInBounds_toArray, List.set_cons_zero, List.set_cons_succ]
      have z4 := (g5.r4.put f2 g2).puto (show w.heap.size + 1 ≠ w.heap.size + 1 + 1 by omega) f4 g4
      have z5 := p5.put f4 g4
      have zb := below_put (below_put g5.bel (show w.heap.size ≤ w.heap.size + 1 by omega) f2 g2) (show w.heap.size ≤ w.heap.size + 1 + 1 by omega) f4 g4
      clear hS p5 g5 lt
      go_wp2_with fail
      refine bodyPost_ret (v := .tuple #[pw f2 g2, pw f4 g4]) ?_ rfl ⟨f2, g2, f4, g4, rfl, hf2, hg2, hf4, hg4, by rw [K.out.1]; refine EF2.out.trans ?_; simp only [if_true]; omega, by rw [K.out.2]; refine EF4.out.trans ?_; simp only [if_true]; omega, zb⟩
      exact results_row_row rfl _ _ (w.heap.size + 1) (w.heap.size + 1 + 1) 24 _ _ (0, 0) (0, 0) _ rfl rfl z4 z5 Try.underlying24 rfl Try.sizeW Try.sizeW
    · have hs : (decide (TR < 0) != decide (d < 0)) = true := by simp [hT, hD]
      have dT : decide (TR < 0) = false := by simp; omega
      obtain ⟨k1, k2⟩ := HF.out true (by cases h : OD with
        | true => rfl
        | false => have := HO.out.2 ⟨ht0, hs⟩; rw [h] at this; cases this)
      have K := Lib.hid (And.intro k1 k2)
      clear NE k1 k2 ht0 HF HO hs
      go_wp2_with (first | ((with_reducible refine here (op := .load 24 (.tmp 7)) ?_); refine wpList_load_run rfl 24 _ rfl _ _ rfl LR.out ?_) | ((with_reducible refine here (op := .load 24 (.tmp 8)) ?_); refine wpList_load_run rfl 24 _ rfl _ _ rfl LZ.out ?_) | ((with_reducible refine here (op := .binOp .neq 24 (.tmp 16) (.tmp 17) 24) ?_); refine wpList_val rfl _ (ex_bin_agg .neq 24 24 (.tmp 16) (.tmp 17) rfl _ _ _ rfl rfl guardW (NE2.out _)) ?_) | fail)
      refine wp_region_any (by kernel_rfl) (wpAny_of_last (S := fun V => PB V w1.heap.size q0 q1) (z := 3) _ _ _ _ ?_)
      have g5 := G0.out.dr
      clear G0 LR LZ cr0
      revert g5
      change FL w (((w1.alloc (.cells #[.int .u64 q0, .int .u64 q1] 24)).alloc (.cells #[.int .u64 c0, .int .u64 c1] 24)).alloc (.cells #[.int .u64 0, .int .u64 0] 24)).drew _ _ _ _ _ → wpAnyZ _ _ _ _ _ _ _ _ _ (((w1.alloc (.cells #[.int .u64 q0, .int .u64 q1] 24)).alloc (.cells #[.int .u64 c0, .int .u64 c1] 24)).alloc (.cells #[.int .u64 0, .int .u64 0] 24)).drew
      generalize (((w1.alloc (.cells #[.int .u64 q0, .int .u64 q1] 24)).alloc (.cells #[.int .u64 c0, .int .u64 c1] 24)).alloc (.cells #[.int .u64 0, .int .u64 0] 24)).drew = wA
      intro g5
      have hS : PB wA w1.heap.size q0 q1 := g5.q
      refine wpAnyZ_take (oi := ⟨_, _, _, _, _, _⟩) (i := 0) (v := pw q0 q1) rfl (by kernel_rfl) (fun _ _ _ h => h) (yif_load rfl 24 (.tmp 6) rfl _ _ rfl fun w h => h.load) hS ?_
      try simp only [Act.put, List.setIfInBounds_toArray, List.set_cons_zero, List.set_cons_succ]
      refine wpAnyZ_one (i := 1) (by kernel_rfl) ?_
      refine op_call (om := ⟨_, _, _, _, _, _⟩) (fn := 16) (args := #[.int .i64 (-1)]) (R := fun u w' => GivesW wA (-1 % 340282366920938463463374607431768211456) (.returned u) w') rfl rfl (by go_simp)
        ((rof_any (-1) (by decide) (by decide) wA).mono fun e w' h => h.call) _ _ rfl rfl ?_
      rintro u wB hu
      obtain ⟨f, g, rfl, hf, hg, efg, bb⟩ := hu.open
      have g6 := g5.below bb
      have hS := g6.q
      clear bb g5 hu
      refine ⟨.inr hS, ?_⟩
      try simp only [Act.put, List.setIfInBounds_toArray, List.set_cons_zero, List.set_cons_succ]
      refine wpAnyZ_one (i := 2) (by kernel_rfl) ?_
      refine op_call (om := ⟨_, _, _, _, _, _⟩) (fn := 12) (args := #[pw q0 q1, pw f g]) (R := fun u w' => GivesW wB ((q0 * 18446744073709551616 + q1 + (f * 18446744073709551616 + g)) % 340282366920938463463374607431768211456) (.returned u) w') rfl rfl (by go_simp)
        ((radd_any q0 q1 f g hq0 hq1 hf hg wB).mono fun e w' h => h.call) _ _ rfl rfl ?_
      rintro u wC hu
      obtain ⟨f2, g2, rfl, hf2, hg2, efg2, bb⟩ := hu.open
      have g7 := g6.below bb
      have hS := g7.q
      clear bb g6 hu
      refine ⟨.inr hS, ?_⟩
      try simp only [Act.put, List.setIfInBounds_toArray, List.set_cons_zero, List.set_cons_succ]
      refine wpAnyZ_one (i := 3) (by kernel_rfl) ?_
      refine wpOp_skip (om := ⟨_, _, _, _, _, _⟩) rfl rfl (ex_store 24 (.tmp 6) (.tmp 30) rfl _ _ rfl rfl (g7.q.store f2 g2)) ?_
      refine ⟨.inl (by omega), ?_⟩
      try simp only [Act.put, List.setIfInBounds_toArray, List.set_cons_zero, List.set_cons_succ]
      refine wpAnyZ_done (by kernel_rfl) ?_ _
      try simp only [Act.put, List.setIfInBounds_toArray, List.set_cons_zero, List.set_cons_succ]
      have g8 := Lib.hid (g7.putQ f2 g2)
      have EF2 := Lib.hid (efg2.trans (by rw [EE.out.1, efg]))
      clear hS g7 efg2 efg
      go_wp2_with fail
      refine wp_region_any (by kernel_rfl) (wpAny_of_last (S := fun V => PB V (w1.heap.size + 1) c0 c1) (z := 4) _ _ _ _ ?_)
      have g5 := g8.out.dr
      clear g8
      revert g5
      change FL w (wput wC w1.heap.size f2 g2).drew _ _ _ _ _ → wpAnyZ _ _ _ _ _ _ _ _ _ (wput wC w1.heap.size f2 g2).drew
      generalize (wput wC w1.heap.size f2 g2).drew = wD
      intro g5
      have hS : PB wD (w1.heap.size + 1) c0 c1 := g5.r
      refine wpAnyZ_take (oi := ⟨_, _, _, _, _, _⟩) (i := 0) (v := pw c0 c1) rfl (by kernel_rfl) (fun _ _ _ h => h) (yif_load rfl 24 (.tmp 7) rfl _ _ rfl fun w h => h.load) hS ?_
      try simp only [Act.put, List.setIfInBounds_toArray, List.set_cons_zero, List.set_cons_succ]
      refine wpAnyZ_take (oi := ⟨_, _, _, _, _, _⟩) (i := 1) (v := .int .i64 d) rfl (by kernel_rfl) (fun _ _ _ h => h) (Or.inl ⟨by rfl, fun _ _ => rfl⟩) hS ?_
      try simp only [Act.put, List.setIfInBounds_toArray, List.set_cons_zero, List.set_cons_succ]
      refine wpAnyZ_one (i := 2) (by kernel_rfl) ?_
      refine op_call (om := ⟨_, _, _, _, _, _⟩) (fn := 16) (args := #[.int .i64 d]) (R := fun u w' => GivesW wD (d % 340282366920938463463374607431768211456) (.returned u) w') rfl rfl (by go_simp)
        ((OF.out wD).mono fun e w' h => h.call) _ _ rfl rfl ?_
      rintro u wE hu
      obtain ⟨f3, g3, rfl, hf3, hg3, efg3, bb⟩ := hu.open
      have g6 := g5.below bb
      have hS := g6.r
      clear bb g5 hu
      refine ⟨.inr hS, ?_⟩
      try simp only [Act.put, List.setIfInBounds_toArray, List.set_cons_zero, List.set_cons_succ]
      refine wpAnyZ_one (i := 3) (by kernel_rfl) ?_
      refine op_call (om := ⟨_, _, _, _, _, _⟩) (fn := 12) (args := #[pw c0 c1, pw f3 g3]) (R := fun u w' => GivesW wE ((c0 * 18446744073709551616 + c1 + (f3 * 18446744073709551616 + g3)) % 340282366920938463463374607431768211456) (.returned u) w') rfl rfl (by go_simp)
        ((radd_any c0 c1 f3 g3 hc0 hc1 hf3 hg3 wE).mono fun e w' h => h.call) _ _ rfl rfl ?_
      rintro u wG hu
      obtain ⟨f4, g4, rfl, hf4, hg4, efg4, bb⟩ := hu.open
      have g7 := g6.below bb
      have hS := g7.r
      clear bb g6 hu
      refine ⟨.inr hS, ?_⟩
      try simp only [Act.put, List.setIfInBounds_toArray, List.set_cons_zero, List.set_cons_succ]
      refine wpAnyZ_one (i := 4) (by kernel_rfl) ?_
      refine wpOp_skip (om := ⟨_, _, _, _, _, _⟩) rfl rfl (ex_store 24 (.tmp 7) (.tmp 34) rfl _ _ rfl rfl (g7.r.store f4 g4)) ?_
      refine ⟨.inl (by omega), ?_⟩
      try simp only [Act.put, List.setIfInBounds_toArray, List.set_cons_zero, List.set_cons_succ]
      refine wpAnyZ_done (by kernel_rfl) ?_ _
      try simp only [Act.put, List.setIfInBounds_toArray, List.set_cons_zero, List.set_cons_succ]
      have g8 := Lib.hid (g7.putR f4 g4)
      have EF4 := Lib.hid (efg4.trans (by rw [EE.out.2, efg3]))
      clear hS g7 efg4 efg3
      go_wp2_with fail
      refine wp_region_held (S := fun V => PB V w1.heap.size f2 g2 ∧ PB V (w1.heap.size + 1) f4 g4) (by kernel_rfl) ?_
      have g5 := g8.out.dr
      clear g8
      revert g5
      change FL w (wput wG (w1.heap.size + 1) f4 g4).drew _ _ _ _ _ → wpAnyH _ _ _ _ _ _ _ _ (wput wG (w1.heap.size + 1) f4 g4).drew
      generalize (wput wG (w1.heap.size + 1) f4 g4).drew = wF
      intro g5
      have hS : PB wF w1.heap.size f2 g2 ∧ PB wF (w1.heap.size + 1) f4 g4 := ⟨g5.q, g5.r⟩
      refine wpAnyH_take (oi := ⟨_, _, _, _, _, _⟩) (i := 0) (v := pw f2 g2) rfl (by kernel_rfl) (by kernel_rfl) (by kernel_rfl) (fun _ _ _ h => h) (yif_load rfl 24 (.tmp 6) rfl _ _ rfl fun w h => h.1.load) hS ?_
      try simp only [Act.put, List.setIfInBounds_toArray, List.set_cons_zero, List.set_cons_succ]
      refine wpAnyH_take (oi := ⟨_, _, _, _, _, _⟩) (i := 1) (v := pw f4 g4) rfl (by kernel_rfl) (by kernel_rfl) (by kernel_rfl) (fun _ _ _ h => h) (yif_load rfl 24 (.tmp 7) rfl _ _ rfl fun w h => h.2.load) hS ?_
      try simp only [Act.put, List.setIfInBounds_toArray, List.set_cons_zero, List.set_cons_succ]
      refine wpAnyH_all (rs := [2]) (by kernel_rfl) (by simp) fun i hi => ?_
      obtain rfl : i = 2 := by simpa using hi
      have lt := g5.lt
      refine wpOp_skip (om := ⟨_, _, _, _, _, _⟩) rfl rfl (ex_store 24 (.tmp 4) (.tmp 35) rfl _ _ rfl rfl (g5.r4.store f2 g2)) ?_
      have hS : PB (wput wF (w.heap.size + 1) f2 g2) w1.heap.size f2 g2 ∧ PB (wput wF (w.heap.size + 1) f2 g2) (w1.heap.size + 1) f4 g4 := ⟨g5.q.puto (by omega) _ _, g5.r.puto (by omega) _ _⟩
      refine ⟨hS, ?_⟩
      try simp only [Act.put, List.setIfInBounds_toArray, List.set_cons_zero, List.set_cons_succ]
      refine wpAnyH_all (rs := [3]) (by kernel_rfl) (by simp) fun i hi => ?_
      obtain rfl : i = 3 := by simpa using hi
      have p5 := g5.r5.puto (show w.heap.size + 1 + 1 ≠ w.heap.size + 1 by omega) f2 g2
      refine wpOp_skip (om := ⟨_, _, _, _, _, _⟩) rfl rfl (ex_store 24 (.tmp 5) (.tmp 36) rfl _ _ rfl rfl (p5.store f4 g4)) ?_
      refine ⟨⟨hS.1.puto (by omega) _ _, hS.2.puto (by omega) _ _⟩, ?_⟩
      try simp only [Act.put, List.setIfInBounds_toArray, List.set_cons_zero, List.set_cons_succ]
      refine wpAnyH_done (by kernel_rfl) ?_ _
      try simp only [Act.put, List.setIfInBounds_toArray, List.set_cons_zero, List.set_cons_succ]
      have z4 := (g5.r4.put f2 g2).puto (show w.heap.size + 1 ≠ w.heap.size + 1 + 1 by omega) f4 g4
      have z5 := p5.put f4 g4
      have zb := below_put (below_put g5.bel (show w.heap.size ≤ w.heap.size + 1 by omega) f2 g2) (show w.heap.size ≤ w.heap.size + 1 + 1 by omega) f4 g4
      clear hS p5 g5 lt
      go_wp2_with fail
      refine bodyPost_ret (v := .tuple #[pw f2 g2, pw f4 g4]) ?_ rfl ⟨f2, g2, f4, g4, rfl, hf2, hg2, hf4, hg4, by rw [K.out.1]; refine EF2.out.trans ?_; simp only [if_true]; omega, by rw [K.out.2]; refine EF4.out.trans ?_; simp only [if_true]; omega, zb⟩
      exact results_row_row rfl _ _ (w.heap.size + 1) (w.heap.size + 1 + 1) 24 _ _ (0, 0) (0, 0) _ rfl rfl z4 z5 Try.underlying24 rfl Try.sizeW Try.sizeW
    · have hs : (decide (TR < 0) != decide (d < 0)) = false := by simp [hT, hD]
      have dT : decide (TR < 0) = false := by simp; omega
      have dD : decide (d < 0) = false := by simp; omega
      obtain ⟨k1, k2⟩ := HF.out false (by cases h : OD with
        | false => rfl
        | true => have := (HO.out.1 h).2; rw [hs] at this; cases this)
      have K := Lib.hid (And.intro k1 k2)
      clear NE k1 k2 ht0 HF HO hs
      go_wp2_with (first | ((with_reducible refine here (op := .load 24 (.tmp 7)) ?_); refine wpList_load_run rfl 24 _ rfl _ _ rfl LR.out ?_) | ((with_reducible refine here (op := .load 24 (.tmp 8)) ?_); refine wpList_load_run rfl 24 _ rfl _ _ rfl LZ.out ?_) | ((with_reducible refine here (op := .binOp .neq 24 (.tmp 16) (.tmp 17) 24) ?_); refine wpList_val rfl _ (ex_bin_agg .neq 24 24 (.tmp 16) (.tmp 17) rfl _ _ _ rfl rfl guardW (NE2.out _)) ?_) | fail)
      clear LR LZ
      refine wp_region_held (S := fun V => PB V w1.heap.size q0 q1 ∧ PB V (w1.heap.size + 1) c0 c1) (by kernel_rfl) ?_
      have g5 := G0.out.dr
      clear G0
      revert g5
      change FL w (((w1.alloc (.cells #[.int .u64 q0, .int .u64 q1] 24)).alloc (.cells #[.int .u64 c0, .int .u64 c1] 24)).alloc (.cells #[.int .u64 0, .int .u64 0] 24)).drew _ _ _ _ _ → wpAnyH _ _ _ _ _ _ _ _ (((w1.alloc (.cells #[.int .u64 q0, .int .u64 q1] 24)).alloc (.cells #[.int .u64 c0, .int .u64 c1] 24)).alloc (.cells #[.int .u64 0, .int .u64 0] 24)).drew
      generalize (((w1.alloc (.cells #[.int .u64 q0, .int .u64 q1] 24)).alloc (.cells #[.int .u64 c0, .int .u64 c1] 24)).alloc (.cells #[.int .u64 0, .int .u64 0] 24)).drew = wF
      intro g5
      have hS : PB wF w1.heap.size q0 q1 ∧ PB wF (w1.heap.size + 1) c0 c1 := ⟨g5.q, g5.r⟩
      refine wpAnyH_take (oi := ⟨_, _, _, _, _, _⟩) (i := 0) (v := pw q0 q1) rfl (by kernel_rfl) (by kernel_rfl) (by kernel_rfl) (fun _ _ _ h => h) (yif_load rfl 24 (.tmp 6) rfl _ _ rfl fun w h => h.1.load) hS ?_
      try simp only [Act.put, List.setIfInBounds_toArray, List.set_cons_zero, List.set_cons_succ]
      refine wpAnyH_take (oi := ⟨_, _, _, _, _, _⟩) (i := 1) (v := pw c0 c1) rfl (by kernel_rfl) (by kernel_rfl) (by kernel_rfl) (fun _ _ _ h => h) (yif_load rfl 24 (.tmp 7) rfl _ _ rfl fun w h => h.2.load) hS ?_
      try simp only [Act.put, List.setIfInBounds_toArray, List.set_cons_zero, List.set_cons_succ]
      refine wpAnyH_all (rs := [2]) (by kernel_rfl) (by simp) fun i hi => ?_
      obtain rfl : i = 2 := by simpa using hi
      have lt := g5.lt
      refine wpOp_skip (om := ⟨_, _, _, _, _, _⟩) rfl rfl (ex_store 24 (.tmp 4) (.tmp 35) rfl _ _ rfl rfl (g5.r4.store q0 q1)) ?_
      have hS : PB (wput wF (w.heap.size + 1) q0 q1) w1.heap.size q0 q1 ∧ PB (wput wF (w.heap.size + 1) q0 q1) (w1.heap.size + 1) c0 c1 := ⟨g5.q.puto (by omega) _ _, g5.r.puto (by omega) _ _⟩
      refine ⟨hS, ?_⟩
      try simp only [Act.put, List.setIfInBounds_toArray, List.set_cons_zero, List.set_cons_succ]
      refine wpAnyH_all (rs := [3]) (by kernel_rfl) (by simp) fun i hi => ?_
      obtain rfl : i = 3 := by simpa using hi
      have p5 := g5.r5.puto (show w.heap.size + 1 + 1 ≠ w.heap.size + 1 by omega) q0 q1
      refine wpOp_skip (om := ⟨_, _, _, _, _, _⟩) rfl rfl (ex_store 24 (.tmp 5) (.tmp 36) rfl _ _ rfl rfl (p5.store c0 c1)) ?_
      refine ⟨⟨hS.1.puto (by omega) _ _, hS.2.puto (by omega) _ _⟩, ?_⟩
      try simp only [Act.put, List.setIfInBounds_toArray, List.set_cons_zero, List.set_cons_succ]
      refine wpAnyH_done (by kernel_rfl) ?_ _
      try simp only [Act.put, List.setIfInBounds_toArray, List.set_cons_zero, List.set_cons_succ]
      have z4 := (g5.r4.put q0 q1).puto (show w.heap.size + 1 ≠ w.heap.size + 1 + 1 by omega) c0 c1
      have z5 := p5.put c0 c1
      have zb := below_put (below_put g5.bel (show w.heap.size ≤ w.heap.size + 1 by omega) q0 q1) (show w.heap.size ≤ w.heap.size + 1 + 1 by omega) c0 c1
      clear hS p5 g5 lt
      go_wp2_with fail
      refine bodyPost_ret (v := .tuple #[pw q0 q1, pw c0 c1]) ?_ rfl ⟨q0, q1, c0, c1, rfl, hq0, hq1, hc0, hc1, by rw [K.out.1]; exact EE.out.1, by rw [K.out.2]; exact EE.out.2, zb⟩
      exact results_row_row rfl _ _ (w.heap.size + 1) (w.heap.size + 1 + 1) 24 _ _ (0, 0) (0, 0) _ rfl rfl z4 z5 Try.underlying24 rfl Try.sizeW Try.sizeW
set_option maxRecDepth 100000 in
set_option maxHeartbeats 2000000 in
theorem rfm_any (a b d : Int) (ha : half a) (hb : half b) (hd : i64r d) (w : World) :
    Calls Try.prog 26 #[pw a b, .int .i64 d] w (KO .i64 w (giveE d (fq a b d) (fr a b d)) (giveE d (fq a b d) (fq a b d)) (thrE d (fq a b d))) := by
  have p0 : PB (w.alloc (.cells #[.int .u64 a, .int .u64 b] 24)) w.heap.size a b := PB.new _ _ _
  have b0 := Below.al w (.cells #[.int .u64 a, .int .u64 b] 24)
  by_cases h0 : d = 0
  · have HT := Lib.hid (show thrE d (fq a b d) = -10 ∧ giveE d (fq a b d) (fr a b d) = 0 ∧ giveE d (fq a b d) (fq a b d) = 0 by unfold thrE giveE; rw [if_pos h0, if_pos h0, if_pos h0]; exact ⟨rfl, rfl, rfl⟩)
    have h1 : (d == 0) = true := by simpa using h0
    clear h0 p0
    go_enter Try.func26, Try.ntmps26
    go_wp2_with fail
    go_ret3
    refine ⟨?_, b0⟩
    rw [HT.out.1, HT.out.2.1, HT.out.2.2]
    rfl
  · have h1 : (d == 0) = false := by simpa using h0
    have SG0 := Lib.hid (rfloor_any a b d ha hb hd h0)
    have FIT := Lib.hid (fun x y (hx : half x) (hy : half y) e => fit_of (x := x) (y := y) (q := fq a b d) hx hy (fq_wide ha hb hd h0) e)
    have hri : i64r (fr a b d) := fr_i64 ha hb hd h0
    have HT := Lib.hid (show ∀ bq, fit64 (fq a b d) = bq → thrE d (fq a b d) = (if bq then 0 else -11) ∧ giveE d (fq a b d) (fr a b d) = (if bq then fr a b d else 0) ∧ giveE d (fq a b d) (fq a b d) = (if bq then fq a b d else 0) from fun bq h => by
      unfold thrE giveE
      rw [if_neg h0, if_neg h0, if_neg h0, h]
      exact ⟨rfl, rfl, rfl⟩)
    have OV := Lib.hid (fun (e1 : a = 9223372036854775808) (e2 : b = 0) (e3 : d = -1) => show fit64 (fq a b d) = false by subst e1; subst e2; subst e3; decide +kernel)
    have HRI := Lib.hid hri
    clear h0 hri
    generalize hT : thrE d (fq a b d) = TT at *
    generalize hGR : giveE d (fq a b d) (fr a b d) = GR at *
    generalize hGQ : giveE d (fq a b d) (fq a b d) = GQ at *
    clear hT hGR hGQ
    generalize fq a b d = QQ at *
    generalize fr a b d = RR at *
    go_enter Try.func26, Try.ntmps26
    go_wp2_with fail
    refine (SG0.out _).mono ?_
    rintro e w1 ⟨x, y, r0, r1, rfl, hx, hy, hr0, hr1, eq, er, b1⟩
    obtain ⟨f1, f2⟩ := FIT.out x y hx hy eq
    have p1 := p0.below b1 p0.lt
    have q2 : PB ((w1.alloc (.cells #[.int .u64 x, .int .u64 y] 24)).alloc (.cells #[.int .u64 r0, .int .u64 r1] 24)) w1.heap.size x y := PB.alloc (PB.new _ _ _) _
    have r2 : PB ((w1.alloc (.cells #[.int .u64 x, .int .u64 y] 24)).alloc (.cells #[.int .u64 r0, .int .u64 r1] 24)) (w1.heap.size + 1) r0 r1 := PB.at_ _ (by simp only [World.size_alloc]) _ _
    have p2 : PB ((w1.alloc (.cells #[.int .u64 x, .int .u64 y] 24)).alloc (.cells #[.int .u64 r0, .int .u64 r1] 24)) w.heap.size a b := (p1.alloc _).alloc _
    have b2 : Below w.heap.size w ((w1.alloc (.cells #[.int .u64 x, .int .u64 y] 24)).alloc (.cells #[.int .u64 r0, .int .u64 r1] 24)) := ((b0.trans (b1.mono b0.size)).alloc (by have := b0.size; have := b1.size; omega) _).alloc (by simp only [World.size_alloc]; have := b0.size; have := b1.size; omega) _
    have LP := Lib.hid p2.load
    have LQ := Lib.hid q2.load
    have RW := Lib.hid ((wrap_low hr0 hr1 er).trans (IntWalk.i64_in RR ⟨HRI.out.1, by have := HRI.out.2; omega⟩))
    have frI := Lib.hid (rfits_any x y hx hy)
    have F1 := Lib.hid f1
    have F2 := Lib.hid f2
    have KP := Lib.hid (And.intro q2 (And.intro r2 b2))
    clear b0 p0 p1 b1 f1 f2 eq er SG0 FIT q2 r2 p2 b2 HRI
    by_cases hE : a = 9223372036854775808 ∧ b = 0
    · have ER := Lib.hid (fun w => show (binOp .eql 24 (pw a b) (pw 9223372036854775808 0)).run Try.prog w = .ok (.bool true) w by rw [eqlW]; simp [hE.1, hE.2])
      by_cases hM : d = -1
      · have ho := OV.out hE.1 hE.2 hM
        obtain ⟨t1, t2, t3⟩ := HT.out false ho
        have T := Lib.hid (And.intro t1 (And.intro t2 t3))
        have hM2 : (d == -1) = true := by simpa using hM
        clear t1 t2 t3 ho hE hM HT OV F1 F2
        go_wp2_with (first | ((with_reducible refine here (op := .load 24 (.tmp 2)) ?_); refine wpList_load_run rfl 24 _ rfl _ _ rfl LP.out ?_) | ((with_reducible refine here (op := .binOp .eql 24 (.tmp 18) (.tmp 19) 24) ?_); refine wpList_val rfl _ (ex_bin_agg .eql 24 24 (.tmp 18) (.tmp 19) rfl _ _ _ rfl rfl guardW (ER.out _)) ?_) | fail)
        go_ret3
        refine ⟨?_, KP.out.2.2⟩
        rw [T.out.1, T.out.2.1, T.out.2.2]
        rfl
      · have hM2 : (d == -1) = false := by simpa using hM
        clear hE hM OV
        go_wp2_with (first | ((with_reducible refine here (op := .load 24 (.tmp 2)) ?_); refine wpList_load_run rfl 24 _ rfl _ _ rfl LP.out ?_) | ((with_reducible refine here (op := .binOp .eql 24 (.tmp 18) (.tmp 19) 24) ?_); refine wpList_val rfl _ (ex_bin_agg .eql 24 24 (.tmp 18) (.tmp 19) rfl _ _ _ rfl rfl guardW (ER.out _)) ?_) | ((with_reducible refine here (op := .load 24 (.tmp 7)) ?_); refine wpList_load_run rfl 24 _ rfl _ _ rfl LQ.out ?_) | fail)
        refine (frI.out _).mono ?_
        rintro e w2 ⟨⟨bq, rfl, hbq⟩, bb⟩
        obtain ⟨q2, r2, b2⟩ := KP.out
        replace q2 := q2.below bb q2.lt
        replace r2 := r2.below bb r2.lt
        replace b2 := b2.trans (bb.mono b2.size)
        clear bb KP LP LQ frI ER
        cases bq with
        | true =>
          have hf := F1.out.1 (hbq.1 rfl)
          have hv : IntKind.i64.wrap y = QQ := F2.out hf
          have hv2 := RW.out
          obtain ⟨t1, t2, t3⟩ := HT.out true hf
          have T := Lib.hid (And.intro t1 (And.intro t2 t3))
          have c1 := q2.c1
          have c2 := r2.c1
          clear t1 t2 t3 hf hbq F1 F2 HT q2 r2 RW
          go_wp2_with fail
          go_quiet (fail)
          go_wp2_with fail
          go_ret3
          refine ⟨?_, below_drewN b2 _⟩
          rw [T.out.1, T.out.2.1, T.out.2.2]
          rfl
        | false =>
          have hf : fit64 QQ = false := by
            cases hh : fit64 QQ with
            | true => exact absurd (hbq.2 (F1.out.2 hh)) (by decide)
            | false => rfl
          obtain ⟨t1, t2, t3⟩ := HT.out false hf
          have T := Lib.hid (And.intro t1 (And.intro t2 t3))
          clear t1 t2 t3 hf hbq F1 F2 HT q2 r2 RW
          go_wp2_with fail
          go_ret3
          refine ⟨?_, b2⟩
          rw [T.out.1, T.out.2.1, T.out.2.2]
          rfl
    · have hE2 : ((a == 9223372036854775808) && (b == 0)) = false := by
        rw [Bool.eq_false_iff, ne_eq, Bool.and_eq_true, beq_iff_eq, beq_iff_eq]
        exact fun h => hE h
      have ER := Lib.hid (fun w => show (binOp .eql 24 (pw a b) (pw 9223372036854775808 0)).run Try.prog w = .ok (.bool false) w by rw [eqlW, hE2])
      clear hE hE2 OV
      go_wp2_with (first | ((with_reducible refine here (op := .load 24 (.tmp 2)) ?_); refine wpList_load_run rfl 24 _ rfl _ _ rfl LP.out ?_) | ((with_reducible refine here (op := .binOp .eql 24 (.tmp 18) (.tmp 19) 24) ?_); refine wpList_val rfl _ (ex_bin_agg .eql 24 24 (.tmp 18) (.tmp 19) rfl _ _ _ rfl rfl guardW (ER.out _)) ?_) | ((with_reducible refine here (op := .load 24 (.tmp 7)) ?_); refine wpList_load_run rfl 24 _ rfl _ _ rfl LQ.out ?_) | fail)
      refine (frI.out _).mono ?_
      rintro e w2 ⟨⟨bq, rfl, hbq⟩, bb⟩
      obtain ⟨q2, r2, b2⟩ := KP.out
      replace q2 := q2.below bb q2.lt
      replace r2 := r2.below bb r2.lt
      replace b2 := b2.trans (bb.mono b2.size)
      clear bb KP LP LQ frI ER
      cases bq with
      | true =>
        have hf := F1.out.1 (hbq.1 rfl)
        have hv : IntKind.i64.wrap y = QQ := F2.out hf
        have hv2 := RW.out
        obtain ⟨t1, t2, t3⟩ := HT.out true hf
        have T := Lib.hid (And.intro t1 (And.intro t2 t3))
        have c1 := q2.c1
        have c2 := r2.c1
        clear t1 t2 t3 hf hbq F1 F2 HT q2 r2 RW
        go_wp2_with fail
        go_quiet (fail)
        go_wp2_with fail
        go_ret3
        refine ⟨?_, below_drewN b2 _⟩
        rw [T.out.1, T.out.2.1, T.out.2.2]
        rfl
      | false =>
        have hf : fit64 QQ = false := by
          cases hh : fit64 QQ with
          | true => exact absurd (hbq.2 (F1.out.2 hh)) (by decide)
          | false => rfl
        obtain ⟨t1, t2, t3⟩ := HT.out false hf
        have T := Lib.hid (And.intro t1 (And.intro t2 t3))
        clear t1 t2 t3 hf hbq F1 F2 HT q2 r2 RW
        go_wp2_with fail
        go_ret3
        refine ⟨?_, b2⟩
        rw [T.out.1, T.out.2.1, T.out.2.2]
        rfl
set_option maxRecDepth 100000 in
set_option maxHeartbeats 2000000 in
theorem rdv_any (a d : Int) (ha : i64r a) (hd : i64r d) (w : World) :
    Calls Try.prog 28 #[.int .i64 a, .int .i64 d] w (KO .i64 w (dvR a d) (dvQ a d) (dvT d)) := by
  by_cases h0 : d = 0
  · have HT := Lib.hid (show dvT d = -10 ∧ dvR a d = 0 ∧ dvQ a d = 0 from ⟨if_pos h0, if_pos h0, if_pos h0⟩)
    have h1 : (d == 0) = true := by simpa using h0
    clear h0
    go_enter Try.func28, Try.ntmps28
    go_wp2_with fail
    go_ret3
    refine ⟨?_, Below.refl _ _⟩
    rw [HT.out.1, HT.out.2.1, HT.out.2.2]
    rfl
  · have h1 : (d == 0) = false := by simpa using h0
    have HT := Lib.hid (show dvT d = 0 ∧ dvR a d = fr (hiI a) (loI a) d ∧ dvQ a d = IntKind.i64.wrap (fq (hiI a) (loI a) d) from ⟨if_neg h0, if_neg h0, if_neg h0⟩)
    have OF := Lib.hid (rof_any a ha.1 ha.2)
    have HL := Lib.hid (fun x y (hx : half x) (hy : half y) e => hi_lo (x := x) (y := y) ha hx hy e)
    have FLR := Lib.hid (rfloor_any (hiI a) (loI a) d (hi_half a).1 (hi_half a).2 hd h0)
    have RI := Lib.hid (fr_i64 (hi_half a).1 (hi_half a).2 hd h0)
    clear h0 hd
    go_enter Try.func28, Try.ntmps28
    go_wp2_with fail
    refine (OF.out _).mono ?_
    rintro e w1 ⟨x, y, rfl, hx, hy, exy, b1⟩
    obtain ⟨rfl, rfl⟩ := HL.out x y hx hy exy
    clear exy OF HL
    go_wp2_with fail
    refine (FLR.out _).mono ?_
    rintro e w2 ⟨q0, q1, r0, r1, rfl, hq0, hq1, hr0, hr1, eq, er, b2⟩
    have hwq := wrap_low hq0 hq1 eq
    have hwr := (wrap_low hr0 hr1 er).trans (IntWalk.i64_in _ ⟨RI.out.1, by have := RI.out.2; omega⟩)
    have b3 : Below w.heap.size w ((w2.alloc (.cells #[.int .u64 q0, .int .u64 q1] 24)).alloc (.cells #[.int .u64 r0, .int .u64 r1] 24)) := ((b1.trans (b2.mono b1.size)).alloc (by have := b1.size; have := b2.size; omega) _).alloc (by simp only [World.size_alloc]; have := b1.size; have := b2.size; omega) _
    have c1 := (show PB ((w2.alloc (.cells #[.int .u64 q0, .int .u64 q1] 24)).alloc (.cells #[.int .u64 r0, .int .u64 r1] 24)) w2.heap.size q0 q1 from PB.alloc (PB.new _ _ _) _).c1
    have c2 := (show PB ((w2.alloc (.cells #[.int .u64 q0, .int .u64 q1] 24)).alloc (.cells #[.int .u64 r0, .int .u64 r1] 24)) (w2.heap.size + 1) r0 r1 from PB.at_ _ (by simp only [World.size_alloc]) _ _).c1
    clear eq er b1 b2 FLR RI
    generalize fr (hiI a) (loI a) d = R at *
    generalize IntKind.i64.wrap (fq (hiI a) (loI a) d) = Q at *
    go_wp2_with fail
    go_quiet (fail)
    go_wp2_with fail
    go_ret3
    refine ⟨?_, below_drewN b3 _⟩
    rw [HT.out.1, HT.out.2.1, HT.out.2.2]
    rfl
end Go.Proofs.Ytipolhocplidlaa.Wd
