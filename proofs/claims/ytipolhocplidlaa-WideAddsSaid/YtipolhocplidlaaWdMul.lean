/-
  WdMul
-/
import Derived.Test.YtipolhocplidlaaWdN
import Derived.Test.YtipolhocplidlaaWdLen
namespace Go.Proofs.Ytipolhocplidlaa.Wd
set_option linter.unusedSimpArgs false
set_option linter.unusedVariables false
open Go.RowKit

theorem prod_lt {a b : Nat} (ha : a < 18446744073709551616) (hb : b < 18446744073709551616) : a * b < 340282366920938463463374607431768211456 := by
  have := Nat.mul_le_mul (show a ≤ 18446744073709551615 by omega) (show b ≤ 18446744073709551615 by omega)
  omega
set_option maxRecDepth 100000 in
set_option maxHeartbeats 400000 in
theorem umul_any (a b : Nat) (ha : a < 18446744073709551616) (hb : b < 18446744073709551616) (w : World) :
    Calls Try.prog 19 #[.int .u64 (a : Int), .int .u64 (b : Int)] w (GivesW w ((a * b : Nat) : Int)) := by
  have hp := prod_lt ha hb
  have e : ((a * b : Nat) : Int) = (a : Int) * (b : Int) := Int.natCast_mul _ _
  have hm := Lib.hid (mul64_any a b (by omega) (by omega))
  have h0 : 0 ≤ (a : Int) * (b : Int) := by omega
  have h1 : (a : Int) * (b : Int) < 340282366920938463463374607431768211456 := by omega
  rw [e]
  generalize (a : Int) * (b : Int) = N at *
  have k1 := Below.al w (.cells #[.int .u64 0, .int .u64 0] 24)
  clear e hp
  go_enter Try.func19, Try.ntmps19
  go_wp2_with fail
  refine (hm.out _).mono ?_
  rintro e w1 ⟨rfl, rfl⟩
  go_wp2_with fail
  refine ret_w rfl rfl rfl (PB.new _ _ _) ?_ ?_ ?_ (Below.al _ _)
  all_goals ((try unfold half); omega)
theorem bit_step (a b j : Nat) : a / 2 ^ j * b = 2 * (a / 2 ^ (j + 1) * b) + a / 2 ^ j % 2 * b := by
  have h : a / 2 ^ (j + 1) = a / 2 ^ j / 2 := by rw [Nat.pow_succ, Nat.div_div_eq_div_mul]
  rw [h]
  generalize a / 2 ^ j = n
  have := Nat.div_add_mod n 2
  have e : (2 * (n / 2) + n % 2) * b = 2 * (n / 2 * b) + n % 2 * b := by rw [Nat.add_mul, Nat.mul_assoc]
  rw [this] at e
  exact e
theorem and_one (n : Nat) (h : n < 18446744073709551616) : bits .and .u64 (n : Int) 1 = ((n % 2 : Nat) : Int) := by
  have := bits_and_u64_nat n 1 h (by omega)
  rw [Nat.and_one_is_mod] at this
  exact this
set_option maxRecDepth 100000 in
set_option maxHeartbeats 1000000 in
theorem rumul_any (a b : Nat) (ha : a < 18446744073709551616) (hb : b < 18446744073709551616) (w : World) :
    Calls Try.prog 20 #[.int .u64 (a : Int), .int .u64 (b : Int)] w (GivesW w ((a * b : Nat) : Int)) := by
  have hbI : (b : Int) < 18446744073709551616 := by omega
  have hab := Lib.hid (prod_lt ha hb)
  have p0 : PB ((w.alloc (.cells #[.int .u64 0, .int .u64 0] 24)).alloc (.cells #[.int .u64 0, .int .u64 0] 24)) w.heap.size 0 0 := PB.alloc (PB.new _ _ _) _
  have q0 : PB ((w.alloc (.cells #[.int .u64 0, .int .u64 0] 24)).alloc (.cells #[.int .u64 0, .int .u64 0] 24)) (w.heap.size + 1) 0 0 := PB.at_ _ (by simp only [World.size_alloc]) _ _
  have b0 : Below w.heap.size w ((w.alloc (.cells #[.int .u64 0, .int .u64 0] 24)).alloc (.cells #[.int .u64 0, .int .u64 0] 24)) := (Below.al _ _).alloc (by simp only [World.size_alloc]; omega) _
  have HI := Lib.hid (And.intro p0 (And.intro q0 b0))
  have ha0 := Lib.hid (show ((a / 2 ^ 64 * b : Nat) : Int) = 0 by rw [Nat.div_eq_of_lt ha]; simp)
  have HA := Lib.hid ha
  clear p0 q0 b0 ha
  go_enter Try.func20, Try.ntmps20
  go_wp2_with fail
  go_loopw [6] (fun i wr => ∃ (z : Int) (k : Nat) (x y : Int), i = .int .i64 z ∧ z + 1 = k ∧ k ≤ 64 ∧ half x ∧ half y ∧ x * 18446744073709551616 + y = ((a / 2 ^ k * b : Nat) : Int) ∧ PB wr w.heap.size 0 0 ∧ PB wr (w.heap.size + 1) x y ∧ Below w.heap.size w wr) (fun i _ => (RowKit.intOf i + 1).toNat)
  case atStart => exact ⟨63, 64, 0, 0, rfl, rfl, by omega, by unfold half; decide, by unfold half; decide, by rw [ha0.out]; rfl, HI.out.1, HI.out.2.1, HI.out.2.2⟩
  case round =>
    obtain ⟨z, k, x, y, rfl, hz, hk, hx, hy, he, hp, hq, hbl⟩ := hrel
    by_cases hneg : 0 ≤ z
    · obtain ⟨j, rfl⟩ := Int.eq_ofNat_of_zero_le hneg
      obtain rfl : k = j + 1 := by omega
      have hj : (j : Int) ≤ 63 := by omega
      have L0 := Lib.hid hq.load
      have hle : a / 2 ^ j ≤ a := Nat.div_le_self _ _
      have haj : a / 2 ^ j < 18446744073709551616 := by have := HA.out; omega
      have hbd := Nat.mul_le_mul_right b hle
      have hst := bit_step a b j
      have hab2 := hab.out
      have and1 := and_one _ haj
      have hc : ((a / 2 ^ j : Nat) : Int) = (a : Int) / 2 ^ j := by simp
      rw [hc] at and1
      have TW := Lib.hid (fun w => twice_any x y hx hy w)
      have hl := hq.lt
      by_cases hbit : a / 2 ^ j % 2 = 1
      · rw [hbit] at and1 hst
        rw [Nat.one_mul] at hst
        have HE := Lib.hid (And.intro he (And.intro hst (And.intro hbd hab2)))
        clear he hst hbd hab2 hbit hle haj hc hz hk
        go_wp2_with (first | ((with_reducible refine here (op := .load 24 (.tmp 5)) ?_); refine wpList_load_run rfl 24 _ rfl _ _ rfl L0.out ?_) | fail)
        refine (TW.out wr).mono ?_
        rintro e w2 ⟨c, d, rfl, hc, hd, ecd, b2⟩
        have q2 := hq.below b2 hl
        have p2 := hp.below b2 hp.lt
        have bl2 := hbl.trans (b2.mono hbl.size)
        have QS := Lib.hid (q2.store c d)
        have q3 := q2.put c d
        have LD := Lib.hid q3.load
        have p3 := p2.puto (show w.heap.size ≠ w.heap.size + 1 by omega) c d
        have bl3 := below_put bl2 (show w.heap.size ≤ w.heap.size + 1 by omega) c d
        have RA := Lib.hid (fun w => radd_any c d 0 b hc hd (by unfold half; decide) (by unfold half; omega) w)
        clear q2 p2 bl2 b2 L0 hq hp hbl
        go_wp2_with (first | ((with_reducible refine here (op := .store 24 (.tmp 5) (.tmp 12)) ?_); refine wpList_store_run rfl 24 _ _ rfl _ _ rfl rfl QS.out ?_) | ((with_reducible refine here (op := .load 24 (.tmp 5)) ?_); refine wpList_load_run rfl 24 _ rfl _ _ rfl LD.out ?_) | fail)
        refine (RA.out _).mono ?_
        rintro e w4 ⟨c2, d2, rfl, hc2, hd2, ecd2, b4⟩
        have q4 := q3.below b4 q3.lt
        have p4 := p3.below b4 p3.lt
        have bl4 := bl3.trans (b4.mono bl3.size)
        have QS2 := Lib.hid (q4.store c2 d2)
        have q5 := q4.put c2 d2
        have p5 := p4.puto (show w.heap.size ≠ w.heap.size + 1 by omega) c2 d2
        have bl5 := below_put bl4 (show w.heap.size ≤ w.heap.size + 1 by omega) c2 d2
        have HF := Lib.hid (And.intro p5 (And.intro q5 bl5))
        obtain ⟨he, hst, hbd, hab2⟩ := HE.out
        have heN : c2 * 18446744073709551616 + d2 = ((a / 2 ^ j * b : Nat) : Int) := by
          generalize a / 2 ^ j * b = m at *
          generalize a / 2 ^ (j + 1) * b = n at *
          generalize a * b = o at *
          clear HE HF QS QS2 LD RA TW
          unfold half at *
          omega
        have HEN := Lib.hid heN
        clear q4 p4 bl4 q5 p5 bl5 q3 p3 bl3 b4 HE he hst hbd hab2 heN QS LD RA TW ecd ecd2
        go_wp2_with (first | ((with_reducible refine here (op := .store 24 (.tmp 5) (.tmp 22)) ?_); refine wpList_store_run rfl 24 _ _ rfl _ _ rfl rfl QS2.out ?_) | fail)
        go_roundw
        case rel => exact ⟨(j : Int) - 1, j, c2, d2, by go_num, by omega, by omega, hc2, hd2, HEN.out, HF.out.1, HF.out.2.1, HF.out.2.2⟩
        case measure => simp [RowKit.intOf] <;> omega
      · have hb0 : a / 2 ^ j % 2 = 0 := by omega
        rw [hb0] at and1 hst
        rw [Nat.zero_mul] at hst
        have HE := Lib.hid (And.intro he (And.intro hst (And.intro hbd hab2)))
        clear he hst hbd hab2 hbit hle haj hc hz hk hb0
        go_wp2_with (first | ((with_reducible refine here (op := .load 24 (.tmp 5)) ?_); refine wpList_load_run rfl 24 _ rfl _ _ rfl L0.out ?_) | fail)
        refine (TW.out wr).mono ?_
        rintro e w2 ⟨c, d, rfl, hc, hd, ecd, b2⟩
        have q2 := hq.below b2 hl
        have p2 := hp.below b2 hp.lt
        have bl2 := hbl.trans (b2.mono hbl.size)
        have QS := Lib.hid (q2.store c d)
        have q3 := q2.put c d
        have p3 := p2.puto (show w.heap.size ≠ w.heap.size + 1 by omega) c d
        have bl3 := below_put bl2 (show w.heap.size ≤ w.heap.size + 1 by omega) c d
        have HF := Lib.hid (And.intro p3 (And.intro q3 bl3))
        obtain ⟨he, hst, hbd, hab2⟩ := HE.out
        have heN : c * 18446744073709551616 + d = ((a / 2 ^ j * b : Nat) : Int) := by
          generalize a / 2 ^ j * b = m at *
          generalize a / 2 ^ (j + 1) * b = n at *
          generalize a * b = o at *
          clear HE HF QS TW
          unfold half at *
          omega
        have HEN := Lib.hid heN
        clear q2 p2 bl2 q3 p3 bl3 b2 L0 hq hp hbl HE he hst hbd hab2 heN TW ecd
        go_wp2_with (first | ((with_reducible refine here (op := .store 24 (.tmp 5) (.tmp 12)) ?_); refine wpList_store_run rfl 24 _ _ rfl _ _ rfl rfl QS.out ?_) | fail)
        go_roundw
        case rel => exact ⟨(j : Int) - 1, j, c, d, by go_num, by omega, by omega, hc, hd, HEN.out, HF.out.1, HF.out.2.1, HF.out.2.2⟩
        case measure => simp [RowKit.intOf] <;> omega
    · obtain rfl : k = 0 := by omega
      have LD := Lib.hid hq.load
      have QS := Lib.hid (hp.store x y)
      have HF := Lib.hid (And.intro (hp.put x y) (below_put hbl (Nat.le_refl _) x y))
      rw [Nat.pow_zero, Nat.div_one] at he
      have HE := Lib.hid he
      clear he hq hp hbl hz hk
      go_wp2_with (first | ((with_reducible refine here (op := .load 24 (.tmp 5)) ?_); refine wpList_load_run rfl 24 _ rfl _ _ rfl LD.out ?_) | ((with_reducible refine here (op := .store 24 (.tmp 4) (.tmp 23)) ?_); refine wpList_store_run rfl 24 _ _ rfl _ _ rfl rfl QS.out ?_) | fail)
      exact ret_w rfl rfl rfl HF.out.1 hx hy HE.out HF.out.2
/-- The signs' question. -/
def mulV (a b : Int) : Int := sgn (decide (a < 0) != decide (b < 0)) (absI a * absI b) % 340282366920938463463374607431768211456
theorem absI_nat (a : Int) : ∃ n : Nat, absI a = (n : Int) := ⟨(absI a).toNat, by unfold absI; split <;> omega⟩
theorem absI_lt {a : Int} (h0 : -9223372036854775808 ≤ a) (h1 : a < 9223372036854775808) : absI a < 18446744073709551616 := by unfold absI; split <;> omega
set_option maxRecDepth 100000 in
set_option maxHeartbeats 400000 in
theorem mul_any (a b : Int) (ha : -9223372036854775808 ≤ a ∧ a < 9223372036854775808) (hb : -9223372036854775808 ≤ b ∧ b < 9223372036854775808) (w : World) :
    Calls Try.prog 17 #[.int .i64 a, .int .i64 b] w (GivesW w (mulV a b)) := by
  obtain ⟨hx1, hx2⟩ := xor_sign a b ha hb
  have p0 : PB (w.alloc (.cells #[.int .u64 0, .int .u64 0] 24)) w.heap.size 0 0 := PB.new _ _ _
  have b0 := Below.al w (.cells #[.int .u64 0, .int .u64 0] 24)
  obtain ⟨n, hn⟩ := absI_nat a
  obtain ⟨m, hm⟩ := absI_nat b
  have ln := absI_lt ha.1 ha.2
  have lm := absI_lt hb.1 hb.2
  have SA := Lib.hid (size_any a ha.1 ha.2)
  have SB := Lib.hid (size_any b hb.1 hb.2)
  have BX := Lib.hid (below0_any (bits .xor .i64 a b) hx1.1 hx1.2)
  have HX := Lib.hid hx2
  rw [hn] at SA ln
  rw [hm] at SB lm
  have UM := Lib.hid (umul_any n m (by omega) (by omega))
  have HN := Lib.hid (And.intro hn hm)
  clear ln lm hx1 hx2 ha hb hn hm
  go_enter Try.func17, Try.ntmps17
  go_wp2_with fail
  refine (SA.out _).mono ?_
  rintro e w1 ⟨rfl, b1⟩
  have p1 := p0.below b1 p0.lt
  replace b0 := b0.trans (b1.mono b0.size)
  clear b1 p0
  go_wp2_with fail
  refine (SB.out _).mono ?_
  rintro e w2 ⟨rfl, b1⟩
  have p2 := p1.below b1 p1.lt
  replace b0 := b0.trans (b1.mono b0.size)
  clear b1 p1
  go_wp2_with fail
  refine (UM.out _).mono ?_
  rintro e w3 ⟨c, d, rfl, hc, hd, ecd, b1⟩
  have p3 := p2.below b1 p2.lt
  replace b0 := b0.trans (b1.mono b0.size)
  clear b1 p2
  have ECD := Lib.hid ecd
  clear ecd
  go_wp2_with fail
  refine (BX.out _).mono ?_
  rintro e w4 ⟨rfl, rfl⟩
  rw [HX.out]
  go_wp2_with fail
  refine (turned_any c d hc hd _ _).mono ?_
  rintro e w5 ⟨x, y, rfl, hx, hy, exy, b1⟩
  have p5 := p3.below b1 p3.lt
  replace b0 := b0.trans (b1.mono b0.size)
  clear b1 p3
  have QS := Lib.hid (p5.store x y)
  have EXY := Lib.hid exy
  clear exy
  go_wp2_with (first | ((with_reducible refine here (op := .store 24 (.tmp 4) (.tmp 14)) ?_); refine wpList_store_run rfl 24 _ _ rfl _ _ rfl rfl QS.out ?_) | fail)
  refine ret_w rfl rfl rfl (p5.put x y) hx hy ?_ (below_put b0 (Nat.le_refl _) x y)
  rw [EXY.out, ECD.out]
  unfold mulV
  rw [HN.out.1, HN.out.2, Int.natCast_mul]
set_option maxRecDepth 100000 in
set_option maxHeartbeats 400000 in
theorem rmul_any (a b : Int) (ha : -9223372036854775808 ≤ a ∧ a < 9223372036854775808) (hb : -9223372036854775808 ≤ b ∧ b < 9223372036854775808) (w : World) :
    Calls Try.prog 18 #[.int .i64 a, .int .i64 b] w (GivesW w (mulV a b)) := by
  have p0 : PB (w.alloc (.cells #[.int .u64 0, .int .u64 0] 24)) w.heap.size 0 0 := PB.new _ _ _
  have b0 := Below.al w (.cells #[.int .u64 0, .int .u64 0] 24)
  obtain ⟨n, hn⟩ := absI_nat a
  obtain ⟨m, hm⟩ := absI_nat b
  have ln := absI_lt ha.1 ha.2
  have lm := absI_lt hb.1 hb.2
  have SA := Lib.hid (rsize_any a ha.1 ha.2)
  have SB := Lib.hid (rsize_any b hb.1 hb.2)
  rw [hn] at SA ln
  rw [hm] at SB lm
  have hlt := prod_lt (show n < 18446744073709551616 by omega) (show m < 18446744073709551616 by omega)
  have UM := Lib.hid (rumul_any n m (by omega) (by omega))
  have hab : mulV a b = sgn (decide (a < 0) != decide (b < 0)) ((n * m : Nat) : Int) % 340282366920938463463374607431768211456 := by
    unfold mulV
    rw [hn, hm, Int.natCast_mul]
  have HAB := Lib.hid hab
  have HLT := Lib.hid hlt
  clear ln lm ha hb hn hm hab hlt
  go_enter Try.func18, Try.ntmps18
  go_wp2_with fail
  refine (SA.out _).mono ?_
  rintro e w1 ⟨rfl, rfl⟩
  go_wp2_with fail
  refine (SB.out _).mono ?_
  rintro e w2 ⟨rfl, rfl⟩
  go_wp2_with fail
  refine (UM.out _).mono ?_
  rintro e w3 ⟨c, d, rfl, hc, hd, ecd, b1⟩
  have p3 := p0.below b1 p0.lt
  replace b0 := b0.trans (b1.mono b0.size)
  have q4 : PB (w3.alloc (.cells #[.int .u64 c, .int .u64 d] 24)) w3.heap.size c d := PB.new _ _ _
  have p4 : PB (w3.alloc (.cells #[.int .u64 c, .int .u64 d] 24)) w.heap.size 0 0 := p3.alloc _
  have b4 := b0.alloc b0.size (.cells #[.int .u64 c, .int .u64 d] 24)
  have LD := Lib.hid q4.load
  have ECD := Lib.hid ecd
  clear b1 p0 ecd p3 b0
  by_cases h1 : a < 0
  · by_cases h2 : b < 0
    · have HS := Lib.hid (show (decide (a < 0) != decide (b < 0)) = false by simp [h1, h2])
      have QS := Lib.hid (p4.store c d)
      have HF := Lib.hid (And.intro (p4.put c d) (below_put b4 (Nat.le_refl _) c d))
      clear p4 b4 q4
      go_wp2_with (first | ((with_reducible refine here (op := .load 24 (.tmp 5)) ?_); refine wpList_load_run rfl 24 _ rfl _ _ rfl LD.out ?_) | ((with_reducible refine here (op := .store 24 (.tmp 4) (.tmp 18)) ?_); refine wpList_store_run rfl 24 _ _ rfl _ _ rfl rfl QS.out ?_) | fail)
      refine ret_w rfl rfl rfl HF.out.1 hc hd ?_ HF.out.2
      rw [HAB.out, HS.out, ECD.out]
      have h1 := HLT.out
      generalize n * m = k at *
      unfold sgn
      simp only [Bool.false_eq_true, if_false]
      omega
    · have HS := Lib.hid (show (decide (a < 0) != decide (b < 0)) = true by simp [h1, h2])
      have h4 : decide (b < 0) = false := by simp; omega
      go_wp2_with (first | ((with_reducible refine here (op := .load 24 (.tmp 5)) ?_); refine wpList_load_run rfl 24 _ rfl _ _ rfl LD.out ?_) | fail)
      refine (rneg_any c d hc hd _).mono ?_
      rintro e w5 ⟨x, y, rfl, hx, hy, exy, b1⟩
      have p5 := p4.below b1 p4.lt
      replace b4 := b4.trans (b1.mono b4.size)
      have QS := Lib.hid (p5.store x y)
      have EXY := Lib.hid exy
      clear b1 p4 exy q4 LD
      go_wp2_with (first | ((with_reducible refine here (op := .store 24 (.tmp 4) (.tmp 17)) ?_); refine wpList_store_run rfl 24 _ _ rfl _ _ rfl rfl QS.out ?_) | fail)
      refine ret_w rfl rfl rfl (p5.put x y) hx hy ?_ (below_put b4 (Nat.le_refl _) x y)
      rw [EXY.out, HAB.out, HS.out, ECD.out]
      rfl
  · by_cases h2 : b < 0
    · have HS := Lib.hid (show (decide (a < 0) != decide (b < 0)) = true by simp [h1, h2])
      have h3 : decide (a < 0) = false := by simp; omega
      go_wp2_with (first | ((with_reducible refine here (op := .load 24 (.tmp 5)) ?_); refine wpList_load_run rfl 24 _ rfl _ _ rfl LD.out ?_) | fail)
      refine (rneg_any c d hc hd _).mono ?_
      rintro e w5 ⟨x, y, rfl, hx, hy, exy, b1⟩
      have p5 := p4.below b1 p4.lt
      replace b4 := b4.trans (b1.mono b4.size)
      have QS := Lib.hid (p5.store x y)
      have EXY := Lib.hid exy
      clear b1 p4 exy q4 LD
      go_wp2_with (first | ((with_reducible refine here (op := .store 24 (.tmp 4) (.tmp 17)) ?_); refine wpList_store_run rfl 24 _ _ rfl _ _ rfl rfl QS.out ?_) | fail)
      refine ret_w rfl rfl rfl (p5.put x y) hx hy ?_ (below_put b4 (Nat.le_refl _) x y)
      rw [EXY.out, HAB.out, HS.out, ECD.out]
      rfl
    · have HS := Lib.hid (show (decide (a < 0) != decide (b < 0)) = false by simp [h1, h2])
      have h3 : decide (a < 0) = false := by simp; omega
      have h4 : decide (b < 0) = false := by simp; omega
      have QS := Lib.hid (p4.store c d)
      have HF := Lib.hid (And.intro (p4.put c d) (below_put b4 (Nat.le_refl _) c d))
      clear p4 b4 q4
      go_wp2_with (first | ((with_reducible refine here (op := .load 24 (.tmp 5)) ?_); refine wpList_load_run rfl 24 _ rfl _ _ rfl LD.out ?_) | ((with_reducible refine here (op := .store 24 (.tmp 4) (.tmp 18)) ?_); refine wpList_store_run rfl 24 _ _ rfl _ _ rfl rfl QS.out ?_) | fail)
      refine ret_w rfl rfl rfl HF.out.1 hc hd ?_ HF.out.2
      rw [HAB.out, HS.out, ECD.out]
      have h1 := HLT.out
      generalize n * m = k at *
      unfold sgn
      simp only [Bool.false_eq_true, if_false]
      omega
end Go.Proofs.Ytipolhocplidlaa.Wd
