/-
  WdQ
-/
import Derived.Test.YtipolhocplidlaaWdMul
import Derived.Test.YtipolhocplidlaaWdDiv
import Derived.Test.YtipolhocplidlaaHeldLast
namespace Go.Proofs.Ytipolhocplidlaa.Wd
set_option linter.unusedSimpArgs false
set_option linter.unusedVariables false
open Go.RowKit

/-- A number thrown. -/
def thrownI (t : Int) : Ending := .panicked [{ v := .iface 3 (.int .i64 t), recovered := false }]
set_option maxRecDepth 100000 in
set_option maxHeartbeats 400000 in
theorem demand_ok (t : Int) (w : World) : Calls Try.prog 52 #[.bool true, .int .i64 t] w fun e w' => e = .returned (.tuple #[]) ∧ w = w' := by
  go_enter Try.func52, Try.ntmps52
  go_wp2
  go_end0
  exact ⟨rfl, rfl⟩
set_option maxRecDepth 100000 in
set_option maxHeartbeats 400000 in
theorem demand_bad (t : Int) (w : World) : Calls Try.prog 52 #[.bool false, .int .i64 t] w fun e w' => e = thrownI t ∧ w = w' := by
  go_enter Try.func52, Try.ntmps52
  go_wp2
  exact ⟨rfl, rfl, rfl⟩
/-- What divide does. -/
def DOut (w : World) (a b d : Int) (e : Ending) (w' : World) : Prop := Below w.heap.size w w' ∧
  ((d = 0 ∧ e = thrownI (-10)) ∨ (d ≠ 0 ∧ d ≤ a ∧ e = thrownI (-11)) ∨
   (d ≠ 0 ∧ a < d ∧ e = .returned (.tuple #[.int .u64 ((a * 18446744073709551616 + b) % d), .int .u64 ((a * 18446744073709551616 + b) / d)])))
set_option maxRecDepth 100000 in
set_option maxHeartbeats 400000 in
theorem divide_any (a b d : Int) (ha : half a) (hb : half b) (hd : half d) (w : World) :
    Calls Try.prog 38 #[pw a b, .int .u64 d] w (DOut w a b d) := by
  have b0 := Below.al w (.cells #[.int .u64 a, .int .u64 b] 24)
  have p0 : PB (w.alloc (.cells #[.int .u64 a, .int .u64 b] 24)) w.heap.size a b := PB.new _ _ _
  by_cases h0 : d = 0
  · subst h0
    have h1 : ((0 : Int) != 0) = false := by decide
    go_enter Try.func38, Try.ntmps38
    go_wp2_with fail
    refine (demand_bad (-10) _).mono ?_
    rintro e w1 ⟨rfl, rfl⟩
    exact ⟨rfl, b0, .inl ⟨rfl, rfl⟩⟩
  · have h1 : (d != 0) = true := by simpa using h0
    by_cases h2 : a < d
    · have DV := Lib.hid (div64_any a b d ha.1 hb hd.2 h2)
      have c0 := p0.c0
      have c1 := p0.c1
      have H0 := Lib.hid (And.intro h0 h2)
      clear p0 hb hd h0
      go_enter Try.func38, Try.ntmps38
      go_wp2_with fail
      refine (demand_ok (-10) _).mono ?_
      rintro e w1 ⟨rfl, rfl⟩
      go_wp2_with fail
      refine (demand_ok (-11) _).mono ?_
      rintro e w1 ⟨rfl, rfl⟩
      go_wp2_with fail
      refine (DV.out _).mono ?_
      rintro e w1 ⟨rfl, b1⟩
      have b2 := b0.trans (b1.mono b0.size)
      clear b0 b1 c0 c1
      go_wp2_with fail
      go_ret2
      exact ⟨b2, .inr (.inr ⟨H0.out.1, H0.out.2, rfl⟩)⟩
    · have h3 : decide (a < d) = false := by simpa using h2
      have H0 := Lib.hid (And.intro h0 (show d ≤ a by omega))
      clear hb hd h0 p0
      go_enter Try.func38, Try.ntmps38
      go_wp2_with fail
      refine (demand_ok (-10) _).mono ?_
      rintro e w1 ⟨rfl, rfl⟩
      go_wp2_with fail
      refine (demand_bad (-11) _).mono ?_
      rintro e w1 ⟨rfl, rfl⟩
      exact ⟨rfl, b0, .inr (.inl ⟨H0.out.1, H0.out.2, rfl⟩)⟩
set_option maxRecDepth 100000 in
set_option maxHeartbeats 400000 in
theorem rbelow_any (a b d : Int) (ha : half a) (hb : half b) (hd : half d) (w : World) :
    Calls Try.prog 54 #[pw a b, pw 0 d] w fun e w' => e = .returned (.bool (decide (a * 18446744073709551616 + b < d))) ∧ Below w.heap.size w w' := by
  have b0 := (Below.al w (.cells #[.int .u64 a, .int .u64 b] 24)).alloc (by simp only [World.size_alloc]; omega) (.cells #[.int .u64 0, .int .u64 d] 24)
  have h1 : decide (a < 0) = false := by unfold half at *; simp; omega
  by_cases h2 : a = 0
  · subst h2
    have h3 : decide ((0 : Int) * 18446744073709551616 + b < d) = decide (b < d) := by rw [Int.zero_mul, Int.zero_add]
    rw [h3]
    clear h3 ha hb hd
    go_enter Try.func54, Try.ntmps54
    go_wp2_with fail
    all_goals (go_ret; exact ⟨by simp_all, b0⟩)
  · have h3 : decide (a * 18446744073709551616 + b < d) = false := by unfold half at *; simp; omega
    have h4 : (a == 0) = false := by simpa using h2
    rw [h3]
    clear h3 ha hb hd
    go_enter Try.func54, Try.ntmps54
    go_wp2_with fail
    all_goals (go_ret; exact ⟨by simp_all, b0⟩)
/-- The bits of a number of two halves. -/
theorem bit_low (a b j : Nat) (hb : b < 18446744073709551616) (hj : j < 64) : (a * 18446744073709551616 + b) / 2 ^ j % 2 = b / 2 ^ j % 2 := by
  have h := Nat.testBit_two_pow_mul_add a (show b < 2 ^ 64 from hb) j
  rw [if_pos hj, Nat.testBit_eq_decide_div_mod_eq, Nat.testBit_eq_decide_div_mod_eq, Nat.mul_comm] at h
  have e := decide_eq_decide.1 h
  have e1 : (2 : Nat) ^ 64 = 18446744073709551616 := rfl
  rw [e1] at e
  omega
theorem bit_high (a b j : Nat) (hb : b < 18446744073709551616) : (a * 18446744073709551616 + b) / 2 ^ (j + 64) % 2 = a / 2 ^ j % 2 := by
  have h := Nat.testBit_two_pow_mul_add a (show b < 2 ^ 64 from hb) (j + 64)
  rw [if_neg (by omega), Nat.testBit_eq_decide_div_mod_eq, Nat.testBit_eq_decide_div_mod_eq, Nat.mul_comm, Nat.add_sub_cancel] at h
  have e := decide_eq_decide.1 h
  have e1 : (2 : Nat) ^ 64 = 18446744073709551616 := rfl
  rw [e1] at e
  omega
theorem or_bit (l d : Nat) (hl : l % 2 = 0) (hd : d < 2) (h : l < 18446744073709551616) : bits .or .u64 (l : Int) (d : Int) = ((l + d : Nat) : Int) := by
  rw [u64_or_nat l d h (by omega)]
  have := Nat.shiftLeft_add_eq_or_of_lt (show d < 2 ^ 1 by omega) (l / 2)
  rw [Nat.shiftLeft_eq, show l / 2 * 2 ^ 1 = l from by omega] at this
  rw [this]
/-- One step of the division. -/
theorem div_step (N d j : Nat) (hd : 0 < d) : N / 2 ^ j = 2 * (N / 2 ^ (j + 1)) + N / 2 ^ j % 2 := by
  have h : N / 2 ^ (j + 1) = N / 2 ^ j / 2 := by rw [Nat.pow_succ, Nat.div_div_eq_div_mul]
  rw [h]
  omega
theorem div_next (n m d b : Nat) (hd : 0 < d) (hb : b < 2) (hn : n = 2 * m + b) :
    (d ≤ 2 * (m % d) + b → n / d = 2 * (m / d) + 1 ∧ n % d = 2 * (m % d) + b - d) ∧ (2 * (m % d) + b < d → n / d = 2 * (m / d) ∧ n % d = 2 * (m % d) + b) := by
  have h1 := Nat.div_add_mod m d
  have h2 := Nat.mod_lt m hd
  generalize hq : m / d = q at *
  generalize hr : m % d = r at *
  have e : n = d * (2 * q) + (2 * r + b) := by
    have : d * (2 * q) = 2 * (d * q) := by rw [Nat.mul_left_comm]
    omega
  refine ⟨fun h => ?_, fun h => ?_⟩
  · have e2 : n = d * (2 * q + 1) + (2 * r + b - d) := by rw [Nat.mul_add, Nat.mul_one]; omega
    rw [e2, Nat.mul_add_div hd, Nat.mul_add_mod, Nat.div_eq_of_lt (by omega), Nat.mod_eq_of_lt (by omega)]
    exact ⟨rfl, rfl⟩
  · rw [e, Nat.mul_add_div hd, Nat.mul_add_mod, Nat.div_eq_of_lt h, Nat.mod_eq_of_lt h]
    exact ⟨rfl, rfl⟩
/-- What a round comes to. -/
theorem div_fin (N d j a b : Nat) (q0 q1 r0 r1 c e0 c5 e5 : Int) (β : Nat) (hN : N = a * 18446744073709551616 + b) (ha : a < 18446744073709551616) (hb : b < 18446744073709551616) (hd : d < 18446744073709551616) (h0 : 0 < d) (hβ : β = N / 2 ^ j % 2)
    (eq : q0 * 18446744073709551616 + q1 = ((N / 2 ^ (j + 1) / d : Nat) : Int)) (er : r0 * 18446744073709551616 + r1 = ((N / 2 ^ (j + 1) % d : Nat) : Int))
    (e1 : c * 18446744073709551616 + e0 = (r0 * 18446744073709551616 + r1 + (r0 * 18446744073709551616 + r1)) % 340282366920938463463374607431768211456) (e2 : c5 * 18446744073709551616 + e5 = (q0 * 18446744073709551616 + q1 + (q0 * 18446744073709551616 + q1)) % 340282366920938463463374607431768211456) :
    (d ≤ 2 * (N / 2 ^ (j + 1) % d) + β → c5 * 18446744073709551616 + e5 + 1 = ((N / 2 ^ j / d : Nat) : Int) ∧ c * 18446744073709551616 + (e0 + (β : Int)) - (d : Int) = ((N / 2 ^ j % d : Nat) : Int)) ∧
    (2 * (N / 2 ^ (j + 1) % d) + β < d → c5 * 18446744073709551616 + e5 = ((N / 2 ^ j / d : Nat) : Int) ∧ c * 18446744073709551616 + (e0 + (β : Int)) = ((N / 2 ^ j % d : Nat) : Int)) ∧
    c * 18446744073709551616 + (e0 + (β : Int)) = ((2 * (N / 2 ^ (j + 1) % d) + β : Nat) : Int) := by
  have hst := div_step N d j h0
  rw [← hβ] at hst
  have hb2 : β < 2 := by rw [hβ]; exact Nat.mod_lt _ (by omega)
  obtain ⟨n1, n2⟩ := div_next (N / 2 ^ j) (N / 2 ^ (j + 1)) d β h0 hb2 hst
  have hr := Nat.mod_lt (N / 2 ^ (j + 1)) h0
  have hq : N / 2 ^ (j + 1) / d ≤ N / 2 ^ (j + 1) := Nat.div_le_self _ _
  have hj : N / 2 ^ j ≤ N := Nat.div_le_self _ _
  clear hβ
  generalize N / 2 ^ (j + 1) / d = q at *
  generalize N / 2 ^ (j + 1) % d = r at *
  generalize N / 2 ^ (j + 1) = m at *
  generalize N / 2 ^ j / d = Q at *
  generalize N / 2 ^ j % d = R at *
  generalize N / 2 ^ j = n at *
  rw [eq] at e2
  rw [er] at e1
  clear eq er
  refine ⟨fun h => ?_, fun h => ?_, by omega⟩
  · obtain ⟨h1, h2⟩ := n1 h
    exact ⟨by omega, by omega⟩
  · obtain ⟨h1, h2⟩ := n2 h
    exact ⟨by omega, by omega⟩
theorem div_fin0 (N d j a b : Nat) (q0 q1 r0 r1 c e0 c5 e5 : Int) (β : Nat) (hN : N = a * 18446744073709551616 + b) (ha : a < 18446744073709551616) (hb : b < 18446744073709551616) (hd : d < 18446744073709551616) (h0 : 0 < d) (hβ : β = N / 2 ^ j % 2)
    (eq : q0 * 18446744073709551616 + q1 = ((N / 2 ^ (j + 1) / d : Nat) : Int)) (er : r0 * 18446744073709551616 + r1 = ((N / 2 ^ (j + 1) % d : Nat) : Int))
    (e1 : c * 18446744073709551616 + e0 = (r0 * 18446744073709551616 + r1 + (r0 * 18446744073709551616 + r1)) % 340282366920938463463374607431768211456) (e2 : c5 * 18446744073709551616 + e5 = (q0 * 18446744073709551616 + q1 + (q0 * 18446744073709551616 + q1)) % 340282366920938463463374607431768211456)
    (hlt : c * 18446744073709551616 + (e0 + (β : Int)) < (d : Int)) :
    c5 * 18446744073709551616 + e5 = ((N / 2 ^ j / d : Nat) : Int) ∧ c * 18446744073709551616 + (e0 + (β : Int)) = ((N / 2 ^ j % d : Nat) : Int) := by
  obtain ⟨_, h2, h3⟩ := div_fin N d j a b q0 q1 r0 r1 c e0 c5 e5 β hN ha hb hd h0 hβ eq er e1 e2
  exact h2 (by omega)
theorem div_fin1 (N d j a b : Nat) (q0 q1 r0 r1 c e0 c5 e5 : Int) (β : Nat) (hN : N = a * 18446744073709551616 + b) (ha : a < 18446744073709551616) (hb : b < 18446744073709551616) (hd : d < 18446744073709551616) (h0 : 0 < d) (hβ : β = N / 2 ^ j % 2)
    (eq : q0 * 18446744073709551616 + q1 = ((N / 2 ^ (j + 1) / d : Nat) : Int)) (er : r0 * 18446744073709551616 + r1 = ((N / 2 ^ (j + 1) % d : Nat) : Int))
    (e1 : c * 18446744073709551616 + e0 = (r0 * 18446744073709551616 + r1 + (r0 * 18446744073709551616 + r1)) % 340282366920938463463374607431768211456) (e2 : c5 * 18446744073709551616 + e5 = (q0 * 18446744073709551616 + q1 + (q0 * 18446744073709551616 + q1)) % 340282366920938463463374607431768211456)
    (hlt : ¬ c * 18446744073709551616 + (e0 + (β : Int)) < (d : Int)) :
    c5 * 18446744073709551616 + e5 + 1 = ((N / 2 ^ j / d : Nat) : Int) ∧ c * 18446744073709551616 + (e0 + (β : Int)) - (d : Int) = ((N / 2 ^ j % d : Nat) : Int) := by
  obtain ⟨h1, _, h3⟩ := div_fin N d j a b q0 q1 r0 r1 c e0 c5 e5 β hN ha hb hd h0 hβ eq er e1 e2
  exact h1 (by omega)
/-- Where the document's divide stands. -/
structure RD (w wr : World) (a b q0 q1 r0 r1 : Int) : Prop where
  box : PB wr w.heap.size a b
  res : PB wr (w.heap.size + 1) 0 0
  q : PB wr (w.heap.size + 2) q0 q1
  r : PB wr (w.heap.size + 3) r0 r1
  bel : Below w.heap.size w wr
section
variable {w wr w' : World} {a b q0 q1 r0 r1 : Int}
theorem RD.below (h : RD w wr a b q0 q1 r0 r1) (k : Below wr.heap.size wr w') : RD w w' a b q0 q1 r0 r1 :=
  ⟨h.box.below k h.box.lt, h.res.below k h.res.lt, h.q.below k h.q.lt, h.r.below k h.r.lt, h.bel.trans (k.mono h.bel.size)⟩
theorem RD.putR (h : RD w wr a b q0 q1 r0 r1) (x y : Int) : RD w (wput wr (w.heap.size + 3) x y) a b q0 q1 x y :=
  ⟨h.box.puto (by omega) x y, h.res.puto (by omega) x y, h.q.puto (by omega) x y, h.r.put x y, below_put h.bel (by omega) x y⟩
theorem RD.putQ (h : RD w wr a b q0 q1 r0 r1) (x y : Int) : RD w (wput wr (w.heap.size + 2) x y) a b x y r0 r1 :=
  ⟨h.box.puto (by omega) x y, h.res.puto (by omega) x y, h.q.put x y, h.r.puto (by omega) x y, below_put h.bel (by omega) x y⟩
theorem RD.setR (h : RD w wr a b q0 q1 r0 r1) (y : Int) : RD w (wr.setCell ⟨w.heap.size + 3, 1, none⟩ (.int .u64 y)) a b q0 q1 r0 y :=
  ⟨h.box.other (by omega), h.res.other (by omega), h.q.other (by omega), h.r.set1 y, h.bel.setCell (p := ⟨w.heap.size + 3, 1, none⟩) (by show _ ≤ w.heap.size + 3; omega) _⟩
theorem RD.setQ (h : RD w wr a b q0 q1 r0 r1) (y : Int) : RD w (wr.setCell ⟨w.heap.size + 2, 1, none⟩ (.int .u64 y)) a b q0 y r0 r1 :=
  ⟨h.box.other (by omega), h.res.other (by omega), h.q.set1 y, h.r.other (by omega), h.bel.setCell (p := ⟨w.heap.size + 2, 1, none⟩) (by show _ ≤ w.heap.size + 2; omega) _⟩
end
theorem RD.start (w : World) (a b : Int) : RD w ((((w.alloc (.cells #[.int .u64 a, .int .u64 b] 24)).alloc (.cells #[.int .u64 0, .int .u64 0] 24)).alloc (.cells #[.int .u64 0, .int .u64 0] 24)).alloc (.cells #[.int .u64 0, .int .u64 0] 24)) a b 0 0 0 0 :=
  ⟨PB.alloc (PB.alloc (PB.alloc (PB.new _ _ _) _) _) _, PB.alloc (PB.alloc (PB.at_ _ (by simp only [World.size_alloc]) _ _) _) _, PB.alloc (PB.at_ _ (by simp only [World.size_alloc]) _ _) _, PB.at_ _ (by simp only [World.size_alloc]) _ _,
   (((Below.al _ _).alloc (by simp only [World.size_alloc]; omega) _).alloc (by simp only [World.size_alloc]; omega) _).alloc (by simp only [World.size_alloc]; omega) _⟩
/-- The document's divide hands back a wide quotient and a rest. -/
def QOut (w : World) (N d : Nat) (e : Ending) (w' : World) : Prop := ∃ x y : Int, e = .returned (.tuple #[pw x y, .int .u64 ((N % d : Nat) : Int)]) ∧ half x ∧ half y ∧ x * 18446744073709551616 + y = ((N / d : Nat) : Int) ∧ Below w.heap.size w w'
set_option maxRecDepth 100000 in
set_option maxHeartbeats 2000000 in
theorem rdivide_any (a b d : Nat) (ha : a < 18446744073709551616) (hb : b < 18446744073709551616) (hd : d < 18446744073709551616) (h0 : 0 < d) (w : World) :
    Calls Try.prog 39 #[pw (a : Int) (b : Int), .int .u64 (d : Int)] w (QOut w (a * 18446744073709551616 + b) d) := by
  have HI := Lib.hid (RD.start w a b)
  have HAB := Lib.hid (And.intro ha (And.intro hb (And.intro hd h0)))
  have hdI : (d : Int) < 18446744073709551616 := by omega
  obtain ⟨N, hN⟩ : ∃ N, N = a * 18446744073709551616 + b := ⟨_, rfl⟩
  have HN := Lib.hid hN
  rw [← hN]
  have hz : N / 2 ^ 128 = 0 := Nat.div_eq_of_lt (by rw [hN]; omega)
  have HZ := Lib.hid hz
  clear ha hb hd h0 hN hz
  go_enter Try.func39, Try.ntmps39
  go_wp2_with fail
  go_loopw [8, 9] (fun i _ wr => ∃ (z : Int) (k : Nat) (q0 q1 r0 r1 : Int), i = .int .i64 z ∧ z + 1 = k ∧ k ≤ 128 ∧ half q0 ∧ half q1 ∧ half r0 ∧ half r1 ∧ q0 * 18446744073709551616 + q1 = ((N / 2 ^ k / d : Nat) : Int) ∧ r0 * 18446744073709551616 + r1 = ((N / 2 ^ k % d : Nat) : Int) ∧ RD w wr a b q0 q1 r0 r1) (fun i _ _ => (RowKit.intOf i + 1).toNat)
  case atStart => exact ⟨127, 128, 0, 0, 0, 0, rfl, rfl, by omega, by unfold half; decide, by unfold half; decide, by unfold half; decide, by unfold half; decide, by rw [HZ.out]; simp, by rw [HZ.out]; simp, HI.out⟩
  case round =>
    obtain ⟨z, k, q0, q1, r0, r1, rfl, hz, hk, hq0, hq1, hr0, hr1, eq, er, h⟩ := hrel
    by_cases hneg : 0 ≤ z
    · obtain ⟨j, hj⟩ := Int.eq_ofNat_of_zero_le hneg
      obtain rfl : k = j + 1 := by omega
      have L0 := Lib.hid h.r.load
      have TW := Lib.hid (fun w => twice_any r0 r1 hr0 hr1 w)
      have HEQ := Lib.hid (And.intro eq (And.intro er (And.intro hk hj)))
      have hz1 : z ≤ 127 := by omega
      clear eq er hz hk hj
      go_wp2_with (first | ((with_reducible refine here (op := .load 24 (.tmp 7)) ?_); refine wpList_load_run rfl 24 _ rfl _ _ rfl L0.out ?_) | fail)
      refine (TW.out wr).mono ?_
      rintro e w2 ⟨c, e0, rfl, hc, he0, ece, b2⟩
      have h2 := h.below b2
      have QS := Lib.hid (h2.r.store c e0)
      have h3 := h2.putR c e0
      clear b2 h h2 TW L0
      have ECE := Lib.hid ece
      clear ece
      have cb0 := h3.box.c0
      have cb1 := h3.box.c1
      have cr1 := h3.r.c1
      have fr1 := h3.r.f 1
      obtain ⟨_, _, hk, hj⟩ := HEQ.out
      obtain ⟨_, hbN, _, _⟩ := HAB.out
      have hβ2 : N / 2 ^ j % 2 < 2 := Nat.mod_lt _ (by omega)
      have hev : e0 % 2 = 0 := by
        have h1 := ECE.out
        clear QS HEQ HAB HN HZ
        unfold half at *
        omega
      by_cases hj64 : z < 64
      · have dz : decide (64 ≤ z) = false := by simp; omega
        obtain ⟨β, hβ⟩ : ∃ β, β = N / 2 ^ j % 2 := ⟨_, rfl⟩
        rw [← hβ] at hβ2
        have hbl : bits .and .u64 ((b : Int) / 2 ^ (z % 64).toNat) 1 = (β : Int) := by
          have e1 : (z % 64).toNat = j := by omega
          have e2 : (b : Int) / 2 ^ j = ((b / 2 ^ j : Nat) : Int) := by simp
          have e3 : b / 2 ^ j ≤ b := Nat.div_le_self _ _
          rw [e1, e2, and_one _ (by omega), hβ, HN.out, bit_low a b j hbN (by omega)]
        have HB := Lib.hid hβ
        have hor : bits .or .u64 e0 (β : Int) = e0 + (β : Int) := by
          obtain ⟨l, rfl⟩ := Int.eq_ofNat_of_zero_le he0.1
          rw [or_bit l β (by omega) hβ2 (by have := he0.2; omega)]
          rfl
        have h4 := h3.setR (e0 + (β : Int))
        have LQ := Lib.hid h4.q.load
        have TQ := Lib.hid (fun w => twice_any q0 q1 hq0 hq1 w)
        have HEV := Lib.hid hev
        have HB2 := Lib.hid hβ2
        have HZ3 := Lib.hid (And.intro hk hj)
        clear hk hj hβ hbN hev hβ2
        go_wp2_with (first | ((with_reducible refine here (op := .store 24 (.tmp 7) (.tmp 16)) ?_); refine wpList_store_run rfl 24 _ _ rfl _ _ rfl rfl QS.out ?_) | ((with_reducible refine here (op := .load 24 (.tmp 6)) ?_); refine wpList_load_run rfl 24 _ rfl _ _ rfl LQ.out ?_) | fail)
        refine (TQ.out _).mono ?_
        rintro e w5 ⟨c5, e5, rfl, hc5, he5, ece5, b5⟩
        have h5 := h4.below b5
        clear h3 h4 b5 cb0 cb1 cr1 fr1 LQ TQ QS hor hbl
        have ECE5 := Lib.hid ece5
        clear ece5
        have h6 := h5.putQ c5 e5
        have QS := Lib.hid (h5.q.store c5 e5)
        have LD := Lib.hid h6.r.load
        have her : half (e0 + (β : Int)) := by
          have h1 := HEV.out
          have h2 := HB2.out
          clear QS LD HEQ HAB HN HZ HB HZ3 ECE ECE5
          unfold half at *
          omega
        have RB := Lib.hid (fun w => rbelow_any c (e0 + (β : Int)) (d : Int) hc her ⟨by omega, hdI⟩ w)
        go_wp2_with (first | ((with_reducible refine here (op := .store 24 (.tmp 6) (.tmp 39)) ?_); refine wpList_store_run rfl 24 _ _ rfl _ _ rfl rfl QS.out ?_) | ((with_reducible refine here (op := .load 24 (.tmp 7)) ?_); refine wpList_load_run rfl 24 _ rfl _ _ rfl LD.out ?_) | fail)
        refine (RB.out _).mono ?_
        rintro e w7 ⟨rfl, b7⟩
        have h7 := h6.below b7
        clear h5 h6 b7 RB QS LD
        by_cases hlt : c * 18446744073709551616 + (e0 + (β : Int)) < (d : Int)
        · rw [decide_eq_true hlt]
          have HLT := Lib.hid hlt
          clear hlt
          go_wp2_with fail
          have HF := Lib.hid h7
          have hfin : c5 * 18446744073709551616 + e5 = ((N / 2 ^ j / d : Nat) : Int) ∧ c * 18446744073709551616 + (e0 + (β : Int)) = ((N / 2 ^ j % d : Nat) : Int) := by
            obtain ⟨eq, er, _, _⟩ := HEQ.out
            obtain ⟨ha, hb, hd, h0⟩ := HAB.out
            exact div_fin0 N d j a b q0 q1 r0 r1 c e0 c5 e5 β HN.out ha hb hd h0 HB.out eq er ECE.out ECE5.out HLT.out
          have HFIN := Lib.hid hfin
          clear hfin h7 HLT
          go_roundw
          case rel => exact ⟨z - 1, j, c5, e5, c, e0 + (β : Int), by go_num, by have := HZ3.out; omega, by have := HZ3.out; omega, hc5, he5, hc, her, HFIN.out.1, HFIN.out.2, HF.out⟩
          case measure => simp [RowKit.intOf] <;> omega
        · rw [decide_eq_false hlt]
          have HLT := Lib.hid hlt
          clear hlt
          go_wp2_with fail
          refine wp_region_any (by kernel_rfl) (wpAny_of_last (S := fun W => PB W (w.heap.size + 3) c (e0 + (β : Int))) (z := 5) _ _ _ _ ?_)
          change wpAnyZ _ _ _ _ _ _ _ _ _ w7.drew
          have h8 : RD w w7.drew a b c5 e5 c (e0 + (β : Int)) := ⟨h7.box, h7.res, h7.q, h7.r, h7.bel.drew⟩
          clear h7
          generalize w7.drew = w8 at *
          have hS : PB w8 (w.heap.size + 3) c (e0 + (β : Int)) := h8.r
          refine wpAnyZ_take (oi := ⟨_, _, _, _, _, _⟩) (i := 0) (v := pw c (e0 + (β : Int))) rfl (by kernel_rfl) (fun _ _ _ h => h) (yif_load rfl 24 (.tmp 7) rfl _ _ rfl fun w h => h.load) hS ?_
          try simp only [Act.put, List.setIfInBounds_toArray, List.set_cons_zero, List.set_cons_succ]
          refine wpAnyZ_take (oi := ⟨_, _, _, _, _, _⟩) (i := 1) (v := .int .u64 (d : Int)) rfl (by kernel_rfl) (fun _ _ _ h => h) (Or.inl ⟨by rfl, fun _ _ => rfl⟩) hS ?_
          try simp only [Act.put, List.setIfInBounds_toArray, List.set_cons_zero, List.set_cons_succ]
          refine wpAnyZ_take (oi := ⟨_, _, _, _, _, _⟩) (i := 2) (v := pw 0 (d : Int)) rfl (by kernel_rfl) (fun _ _ _ h => h) (Or.inl ⟨by rfl, fun _ _ => by go_simp⟩) hS ?_
          try simp only [Act.put, List.setIfInBounds_toArray, List.set_cons_zero, List.set_cons_succ]
          refine wpAnyZ_one (i := 3) (by kernel_rfl) ?_
          refine op_call (om := ⟨_, _, _, _, _, _⟩) (fn := 14) (args := #[pw 0 (d : Int)]) (R := fun u w' => GivesW w8 (-(0 * 18446744073709551616 + (d : Int)) % 340282366920938463463374607431768211456) (.returned u) w') rfl rfl (by go_simp)
            ((rneg_any 0 (d : Int) (by unfold half; decide) ⟨by omega, hdI⟩ w8).mono fun e w' h => h.call) _ _ rfl rfl ?_
          rintro u w81 hu
          obtain ⟨f, n, rfl, hf, hn, efn, b81⟩ := hu.open
          have h81 := h8.below b81
          have hS := h81.r
          have EFN := Lib.hid efn
          clear efn b81 h8 hu
          refine ⟨.inr hS, ?_⟩
          try simp only [Act.put, List.setIfInBounds_toArray, List.set_cons_zero, List.set_cons_succ]
          refine wpAnyZ_one (i := 4) (by kernel_rfl) ?_
          refine op_call (om := ⟨_, _, _, _, _, _⟩) (fn := 12) (args := #[pw c (e0 + (β : Int)), pw f n]) (R := fun u w' => GivesW w81 ((c * 18446744073709551616 + (e0 + (β : Int)) + (f * 18446744073709551616 + n)) % 340282366920938463463374607431768211456) (.returned u) w') rfl rfl (by go_simp)
            ((radd_any c (e0 + (β : Int)) f n hc her hf hn w81).mono fun e w' h => h.call) _ _ rfl rfl ?_
          rintro u w9 hu
          obtain ⟨x, y, rfl, hx, hy, exy, b9⟩ := hu.open
          have h9 := h81.below b9
          have EXY := Lib.hid exy
          clear exy b9 h81 hu
          have hS := h9.r
          refine ⟨.inr hS, ?_⟩
          try simp only [Act.put, List.setIfInBounds_toArray, List.set_cons_zero, List.set_cons_succ]
          refine wpAnyZ_one (i := 5) (by kernel_rfl) ?_
          refine wpOp_skip (om := ⟨_, _, _, _, _, _⟩) rfl rfl (ex_store 24 (.tmp 7) (.tmp 49) rfl _ _ rfl rfl (h9.r.store x y)) ?_
          refine ⟨.inl (by omega), ?_⟩
          try simp only [Act.put, List.setIfInBounds_toArray, List.set_cons_zero, List.set_cons_succ]
          refine wpAnyZ_done (by kernel_rfl) ?_ _
          try simp only [Act.put, List.setIfInBounds_toArray, List.set_cons_zero, List.set_cons_succ]
          have h10 := h9.putR x y
          have hxy : (x * 18446744073709551616 + y = c * 18446744073709551616 + (e0 + (β : Int)) - (d : Int)) := by
            obtain ⟨ha, hb, hd, h0⟩ := HAB.out
            have h1 := HLT.out
            have h2 := EXY.out
            have h3 := EFN.out
            clear HEQ HAB HN HZ HB HZ3 ECE ECE5 HI
            unfold half at *
            omega
          have hev5 : e5 % 2 = 0 := by
            have h1 := ECE5.out
            clear HEQ HAB HN HZ HB HZ3 ECE ECE5 HI EXY EFN
            unfold half at *
            omega
          have hor : bits .or .u64 e5 1 = e5 + 1 := by
            obtain ⟨l, rfl⟩ := Int.eq_ofNat_of_zero_le he5.1
            have := or_bit l 1 (by omega) (by omega) (by have := he5.2; omega)
            exact this
          have he5' : half (e5 + 1) := by
            clear HEQ HAB HN HZ HB HZ3 ECE ECE5 HI EXY EFN
            unfold half at *
            omega
          have cq1 := h10.q.c1
          have fq1 := h10.q.f 1
          have HF := Lib.hid (h10.setQ (e5 + 1))
          have hfin : c5 * 18446744073709551616 + (e5 + 1) = ((N / 2 ^ j / d : Nat) : Int) ∧ x * 18446744073709551616 + y = ((N / 2 ^ j % d : Nat) : Int) := by
            obtain ⟨eq, er, _, _⟩ := HEQ.out
            obtain ⟨ha, hb, hd, h0⟩ := HAB.out
            have := div_fin1 N d j a b q0 q1 r0 r1 c e0 c5 e5 β HN.out ha hb hd h0 HB.out eq er ECE.out ECE5.out (by have := HLT.out; omega)
            exact ⟨by omega, by rw [hxy]; exact this.2⟩
          have HFIN := Lib.hid hfin
          clear hfin hxy hev5 h9 h10 HLT EXY EFN
          go_wp2_with fail
          go_roundw
          case rel => exact ⟨z - 1, j, c5, e5 + 1, x, y, by go_num, by have := HZ3.out; omega, by have := HZ3.out; omega, hc5, he5', hx, hy, HFIN.out.1, HFIN.out.2, HF.out⟩
          case measure => simp [RowKit.intOf] <;> omega
      · have dz : decide (64 ≤ z) = true := by simp; omega
        obtain ⟨β, hβ⟩ : ∃ β, β = N / 2 ^ j % 2 := ⟨_, rfl⟩
        rw [← hβ] at hβ2
        have hbl : bits .and .u64 ((a : Int) / 2 ^ (z - 64).toNat) 1 = (β : Int) := by
          have e1 : (z - 64).toNat = j - 64 := by omega
          have e2 : (a : Int) / 2 ^ (j - 64) = ((a / 2 ^ (j - 64) : Nat) : Int) := by simp
          have e3 : a / 2 ^ (j - 64) ≤ a := Nat.div_le_self _ _
          rw [e1, e2, and_one _ (by omega), hβ, HN.out]
          have := bit_high a b (j - 64) hbN
          rw [show j - 64 + 64 = j from by omega] at this
          rw [this]
        have HB := Lib.hid hβ
        have hor : bits .or .u64 e0 (β : Int) = e0 + (β : Int) := by
          obtain ⟨l, rfl⟩ := Int.eq_ofNat_of_zero_le he0.1
          rw [or_bit l β (by omega) hβ2 (by have := he0.2; omega)]
          rfl
        have h4 := h3.setR (e0 + (β : Int))
        have LQ := Lib.hid h4.q.load
        have TQ := Lib.hid (fun w => twice_any q0 q1 hq0 hq1 w)
        have HEV := Lib.hid hev
        have HB2 := Lib.hid hβ2
        have HZ3 := Lib.hid (And.intro hk hj)
        clear hk hj hβ hbN hev hβ2
        go_wp2_with (first | ((with_reducible refine here (op := .store 24 (.tmp 7) (.tmp 16)) ?_); refine wpList_store_run rfl 24 _ _ rfl _ _ rfl rfl QS.out ?_) | ((with_reducible refine here (op := .load 24 (.tmp 6)) ?_); refine wpList_load_run rfl 24 _ rfl _ _ rfl LQ.out ?_) | fail)
        refine (TQ.out _).mono ?_
        rintro e w5 ⟨c5, e5, rfl, hc5, he5, ece5, b5⟩
        have h5 := h4.below b5
        clear h3 h4 b5 cb0 cb1 cr1 fr1 LQ TQ QS hor hbl
        have ECE5 := Lib.hid ece5
        clear ece5
        have h6 := h5.putQ c5 e5
        have QS := Lib.hid (h5.q.store c5 e5)
        have LD := Lib.hid h6.r.load
        have her : half (e0 + (β : Int)) := by
          have h1 := HEV.out
          have h2 := HB2.out
          clear QS LD HEQ HAB HN HZ HB HZ3 ECE ECE5
          unfold half at *
          omega
        have RB := Lib.hid (fun w => rbelow_any c (e0 + (β : Int)) (d : Int) hc her ⟨by omega, hdI⟩ w)
        go_wp2_with (first | ((with_reducible refine here (op := .store 24 (.tmp 6) (.tmp 39)) ?_); refine wpList_store_run rfl 24 _ _ rfl _ _ rfl rfl QS.out ?_) | ((with_reducible refine here (op := .load 24 (.tmp 7)) ?_); refine wpList_load_run rfl 24 _ rfl _ _ rfl LD.out ?_) | fail)
        refine (RB.out _).mono ?_
        rintro e w7 ⟨rfl, b7⟩
        have h7 := h6.below b7
        clear h5 h6 b7 RB QS LD
        by_cases hlt : c * 18446744073709551616 + (e0 + (β : Int)) < (d : Int)
        · rw [decide_eq_true hlt]
          have HLT := Lib.hid hlt
          clear hlt
          go_wp2_with fail
          have HF := Lib.hid h7
          have hfin : c5 * 18446744073709551616 + e5 = ((N / 2 ^ j / d : Nat) : Int) ∧ c * 18446744073709551616 + (e0 + (β : Int)) = ((N / 2 ^ j % d : Nat) : Int) := by
            obtain ⟨eq, er, _, _⟩ := HEQ.out
            obtain ⟨ha, hb, hd, h0⟩ := HAB.out
            exact div_fin0 N d j a b q0 q1 r0 r1 c e0 c5 e5 β HN.out ha hb hd h0 HB.out eq er ECE.out ECE5.out HLT.out
          have HFIN := Lib.hid hfin
          clear hfin h7 HLT
          go_roundw
          case rel => exact ⟨z - 1, j, c5, e5, c, e0 + (β : Int), by go_num, by have := HZ3.out; omega, by have := HZ3.out; omega, hc5, he5, hc, her, HFIN.out.1, HFIN.out.2, HF.out⟩
          case measure => simp [RowKit.intOf] <;> omega
        · rw [decide_eq_false hlt]
          have HLT := Lib.hid hlt
          clear hlt
          go_wp2_with fail
          refine wp_region_any (by kernel_rfl) (wpAny_of_last (S := fun W => PB W (w.heap.size + 3) c (e0 + (β : Int))) (z := 5) _ _ _ _ ?_)
          change wpAnyZ _ _ _ _ _ _ _ _ _ w7.drew
          have h8 : RD w w7.drew a b c5 e5 c (e0 + (β : Int)) := ⟨h7.box, h7.res, h7.q, h7.r, h7.bel.drew⟩
          clear h7
          generalize w7.drew = w8 at *
          have hS : PB w8 (w.heap.size + 3) c (e0 + (β : Int)) := h8.r
          refine wpAnyZ_take (oi := ⟨_, _, _, _, _, _⟩) (i := 0) (v := pw c (e0 + (β : Int))) rfl (by kernel_rfl) (fun _ _ _ h => h) (yif_load rfl 24 (.tmp 7) rfl _ _ rfl fun w h => h.load) hS ?_
          try simp only [Act.put, List.setIfInBounds_toArray, List.set_cons_zero, List.set_cons_succ]
          refine wpAnyZ_take (oi := ⟨_, _, _, _, _, _⟩) (i := 1) (v := .int .u64 (d : Int)) rfl (by kernel_rfl) (fun _ _ _ h => h) (Or.inl ⟨by rfl, fun _ _ => rfl⟩) hS ?_
          try simp only [Act.put, List.setIfInBounds_toArray, List.set_cons_zero, List.set_cons_succ]
          refine wpAnyZ_take (oi := ⟨_, _, _, _, _, _⟩) (i := 2) (v := pw 0 (d : Int)) rfl (by kernel_rfl) (fun _ _ _ h => h) (Or.inl ⟨by rfl, fun _ _ => by go_simp⟩) hS ?_
          try simp only [Act.put, List.setIfInBounds_toArray, List.set_cons_zero, List.set_cons_succ]
          refine wpAnyZ_one (i := 3) (by kernel_rfl) ?_
          refine op_call (om := ⟨_, _, _, _, _, _⟩) (fn := 14) (args := #[pw 0 (d : Int)]) (R := fun u w' => GivesW w8 (-(0 * 18446744073709551616 + (d : Int)) % 340282366920938463463374607431768211456) (.returned u) w') rfl rfl (by go_simp)
            ((rneg_any 0 (d : Int) (by unfold half; decide) ⟨by omega, hdI⟩ w8).mono fun e w' h => h.call) _ _ rfl rfl ?_
          rintro u w81 hu
          obtain ⟨f, n, rfl, hf, hn, efn, b81⟩ := hu.open
          have h81 := h8.below b81
          have hS := h81.r
          have EFN := Lib.hid efn
          clear efn b81 h8 hu
          refine ⟨.inr hS, ?_⟩
          try simp only [Act.put, List.setIfInBounds_toArray, List.set_cons_zero, List.set_cons_succ]
          refine wpAnyZ_one (i := 4) (by kernel_rfl) ?_
          refine op_call (om := ⟨_, _, _, _, _, _⟩) (fn := 12) (args := #[pw c (e0 + (β : Int)), pw f n]) (R := fun u w' => GivesW w81 ((c * 18446744073709551616 + (e0 + (β : Int)) + (f * 18446744073709551616 + n)) % 340282366920938463463374607431768211456) (.returned u) w') rfl rfl (by go_simp)
            ((radd_any c (e0 + (β : Int)) f n hc her hf hn w81).mono fun e w' h => h.call) _ _ rfl rfl ?_
          rintro u w9 hu
          obtain ⟨x, y, rfl, hx, hy, exy, b9⟩ := hu.open
          have h9 := h81.below b9
          have EXY := Lib.hid exy
          clear exy b9 h81 hu
          have hS := h9.r
          refine ⟨.inr hS, ?_⟩
          try simp only [Act.put, List.setIfInBounds_toArray, List.set_cons_zero, List.set_cons_succ]
          refine wpAnyZ_one (i := 5) (by kernel_rfl) ?_
          refine wpOp_skip (om := ⟨_, _, _, _, _, _⟩) rfl rfl (ex_store 24 (.tmp 7) (.tmp 49) rfl _ _ rfl rfl (h9.r.store x y)) ?_
          refine ⟨.inl (by omega), ?_⟩
          try simp only [Act.put, List.setIfInBounds_toArray, List.set_cons_zero, List.set_cons_succ]
          refine wpAnyZ_done (by kernel_rfl) ?_ _
          try simp only [Act.put, List.setIfInBounds_toArray, List.set_cons_zero, List.set_cons_succ]
          have h10 := h9.putR x y
          have hxy : (x * 18446744073709551616 + y = c * 18446744073709551616 + (e0 + (β : Int)) - (d : Int)) := by
            obtain ⟨ha, hb, hd, h0⟩ := HAB.out
            have h1 := HLT.out
            have h2 := EXY.out
            have h3 := EFN.out
            clear HEQ HAB HN HZ HB HZ3 ECE ECE5 HI
            unfold half at *
            omega
          have hev5 : e5 % 2 = 0 := by
            have h1 := ECE5.out
            clear HEQ HAB HN HZ HB HZ3 ECE ECE5 HI EXY EFN
            unfold half at *
            omega
          have hor : bits .or .u64 e5 1 = e5 + 1 := by
            obtain ⟨l, rfl⟩ := Int.eq_ofNat_of_zero_le he5.1
            have := or_bit l 1 (by omega) (by omega) (by have := he5.2; omega)
            exact this
          have he5' : half (e5 + 1) := by
            clear HEQ HAB HN HZ HB HZ3 ECE ECE5 HI EXY EFN
            unfold half at *
            omega
          have cq1 := h10.q.c1
          have fq1 := h10.q.f 1
          have HF := Lib.hid (h10.setQ (e5 + 1))
          have hfin : c5 * 18446744073709551616 + (e5 + 1) = ((N / 2 ^ j / d : Nat) : Int) ∧ x * 18446744073709551616 + y = ((N / 2 ^ j % d : Nat) : Int) := by
            obtain ⟨eq, er, _, _⟩ := HEQ.out
            obtain ⟨ha, hb, hd, h0⟩ := HAB.out
            have := div_fin1 N d j a b q0 q1 r0 r1 c e0 c5 e5 β HN.out ha hb hd h0 HB.out eq er ECE.out ECE5.out (by have := HLT.out; omega)
            exact ⟨by omega, by rw [hxy]; exact this.2⟩
          have HFIN := Lib.hid hfin
          clear hfin hxy hev5 h9 h10 HLT EXY EFN
          go_wp2_with fail
          go_roundw
          case rel => exact ⟨z - 1, j, c5, e5 + 1, x, y, by go_num, by have := HZ3.out; omega, by have := HZ3.out; omega, hc5, he5', hx, hy, HFIN.out.1, HFIN.out.2, HF.out⟩
          case measure => simp [RowKit.intOf] <;> omega
    · obtain rfl : k = 0 := by omega
      rw [Nat.pow_zero, Nat.div_one] at eq er
      have hr1v : r1 = ((N % d : Nat) : Int) := by
        obtain ⟨ha, hb, hd, h0⟩ := HAB.out
        have := Nat.mod_lt N h0
        clear HN HI
        unfold half at *
        omega
      have HV := Lib.hid (And.intro eq hr1v)
      clear eq er hr1v hz hk
      go_wp2_with fail
      refine wp_region_held (S := fun W => PB W (w.heap.size + 2) q0 q1 ∧ PB W (w.heap.size + 3) r0 r1) (by kernel_rfl) ?_
      change wpAnyH _ _ _ _ _ _ _ _ wr.drew
      have h1 : RD w wr.drew a b q0 q1 r0 r1 := ⟨h.box, h.res, h.q, h.r, h.bel.drew⟩
      clear h
      generalize wr.drew = w1 at *
      have hS : PB w1 (w.heap.size + 2) q0 q1 ∧ PB w1 (w.heap.size + 3) r0 r1 := ⟨h1.q, h1.r⟩
      refine wpAnyH_take (oi := ⟨_, _, _, _, _, _⟩) (i := 0) (v := pw q0 q1) rfl (by kernel_rfl) (by kernel_rfl) (by kernel_rfl) (fun _ _ _ h => h) (yif_load rfl 24 (.tmp 6) rfl _ _ rfl fun w h => h.1.load) hS ?_
      try simp only [Act.put, List.setIfInBounds_toArray, List.set_cons_zero, List.set_cons_succ]
      refine wpAnyH_take (oi := ⟨_, _, _, _, _, _⟩) (i := 1) (v := .pointer (some ⟨w.heap.size + 3, 1, none⟩)) rfl (by kernel_rfl) (by kernel_rfl) (by kernel_rfl) (fun _ _ _ h => h) (Or.inl ⟨by rfl, fun _ _ => by go_simp⟩) hS ?_
      try simp only [Act.put, List.setIfInBounds_toArray, List.set_cons_zero, List.set_cons_succ]
      refine wpAnyH_take (oi := ⟨_, _, _, _, _, _⟩) (i := 2) (v := .int .u64 r1) rfl (by kernel_rfl) (by kernel_rfl) (by kernel_rfl) (fun _ _ _ h => h) (yif_load rfl 22 (.tmp 55) rfl _ _ rfl fun w h => load_one aggU64 h.2.c1) hS ?_
      try simp only [Act.put, List.setIfInBounds_toArray, List.set_cons_zero, List.set_cons_succ]
      refine wpAnyH_all (rs := [3]) (by kernel_rfl) (by simp) fun i hi => ?_
      obtain rfl : i = 3 := by simpa using hi
      refine wpOp_skip (om := ⟨_, _, _, _, _, _⟩) rfl rfl (ex_store 24 (.tmp 4) (.tmp 54) rfl _ _ rfl rfl (h1.res.store q0 q1)) ?_
      have hS : PB (wput w1 (w.heap.size + 1) q0 q1) (w.heap.size + 2) q0 q1 ∧ PB (wput w1 (w.heap.size + 1) q0 q1) (w.heap.size + 3) r0 r1 := ⟨h1.q.puto (by omega) _ _, h1.r.puto (by omega) _ _⟩
      refine ⟨hS, ?_⟩
      try simp only [Act.put, List.setIfInBounds_toArray, List.set_cons_zero, List.set_cons_succ]
      refine wpAnyH_take (oi := ⟨_, _, _, _, _, _⟩) (i := 4) (v := .int .u64 r1) rfl (by kernel_rfl) (by kernel_rfl) (by kernel_rfl) (fun _ _ _ h => h) (Or.inl ⟨by rfl, fun _ _ => rfl⟩) hS ?_
      try simp only [Act.put, List.setIfInBounds_toArray, List.set_cons_zero, List.set_cons_succ]
      refine wpAnyH_done (by kernel_rfl) ?_ _
      try simp only [Act.put, List.setIfInBounds_toArray, List.set_cons_zero, List.set_cons_succ]
      have h2 : PB (wput w1 (w.heap.size + 1) q0 q1) (w.heap.size + 1) q0 q1 := h1.res.put q0 q1
      have b2 := below_put h1.bel (show w.heap.size ≤ w.heap.size + 1 by omega) q0 q1
      go_wp2_with fail
      refine bodyPost_ret (v := .tuple #[pw q0 q1, .int .u64 r1]) ?_ rfl ⟨q0, q1, by rw [HV.out.2], hq0, hq1, HV.out.1, b2⟩
      exact results_row_tmp rfl _ _ (w.heap.size + 1) 24 _ (0, 0) _ _ rfl rfl h2 Try.underlying24 rfl Try.sizeW
end Go.Proofs.Ytipolhocplidlaa.Wd
