/-
  WdAwake
-/
import Derived.Test.YtipolhocplidlaaWdR
import Derived.Test.YtipolhocplidlaaGA
import Derived.ProofKit
import Derived.OpenShut
import Derived.SizedLaws
import Derived.Deep.Cut
namespace Go.Proofs.Ytipolhocplidlaa.Wd
set_option linter.unusedSimpArgs false
set_option linter.unusedVariables false
open Go.ChangeShapes Go.WideShapes Go.ChangeAt Go.RowKit

theorem Try.cellsW : Try.prog.cellsOf 24 = 2 := by kernel_rfl
set_option maxRecDepth 100000 in
theorem wide_in {H : Type} {enc : TypeId × Value → H} {W : World} {r : Reach} {b0 : Nat} {v : Value} {d : DataW H} {p : List MemPlace} (hv : Value.okWide Try.prog W r b0 24 v) (h : DataW.Trod enc Try.prog W 0 (fun _ => true) true 24 v d p) : ∃ x y : Int, v = pw x y ∧ half x ∧ half y := by
  obtain ⟨cs, rfl, hsz⟩ := okWide_struct Try.underlying24 hv
  obtain ⟨fuel, hf⟩ := h
  have e0 : (Value.agg cs).cells = cs := rfl
  rw [e0] at hf
  have key : ∀ (l : List Value) (x : DataW H × List MemPlace), DataW.trod enc Try.prog W 0 (fun _ => true) true fuel 24 l = some x → ∃ a b : Int, l = [.int .u64 a, .int .u64 b] ∧ half a ∧ half b := by
    intro l x hx
    obtain ⟨xs, n, _, _, hl, hlen, hg⟩ := DataW.trod_struct Try.underlying24 hx
    rw [Try.cellsW] at hl
    match l, hl with
    | [c0, c1], _ =>
      match xs, hlen with
      | [y0, y1], _ =>
        have g0 := hg 0 _ rfl
        have g1 := hg 1 _ rfl
        obtain ⟨a0, e0, _, w0⟩ := DataW.trod_int Try.underlying22 g0
        obtain ⟨a1, e1, _, w1⟩ := DataW.trod_int Try.underlying22 g1
        cases e0; cases e1
        have k0 := u64_of_wf w0
        have k1 := u64_of_wf w1
        exact ⟨a0, a1, rfl, ⟨k0.1, by omega⟩, ⟨k1.1, by omega⟩⟩
  obtain ⟨a, b, e, ha, hb⟩ := key _ _ hf
  refine ⟨a, b, ?_, ha, hb⟩
  have : cs = #[.int .u64 a, .int .u64 b] := by
    apply Array.toList_inj.1
    exact e
  rw [this]
theorem half_of {a : Int} (h : (Lit.int .u64 a).wf = true) : half a := by have := u64_of_wf h; exact ⟨this.1, by omega⟩
theorem i64r_of {a : Int} (h : (Lit.int .i64 a).wf = true) : i64r a := by have := i64_of_wf h; exact ⟨this.1, by omega⟩
theorem exa : giveE 2 (fq (hiI (-7)) (loI (-7)) 2) (fr (hiI (-7)) (loI (-7)) 2) = 1 ∧ giveE 2 (fq (hiI (-7)) (loI (-7)) 2) (fq (hiI (-7)) (loI (-7)) 2) = -4 ∧ thrE 2 (fq (hiI (-7)) (loI (-7)) 2) = 0 := by decide +kernel
theorem exb : giveE 2 (tq (hiI (-7)) (loI (-7)) 2) (tr (hiI (-7)) (loI (-7)) 2) = -1 ∧ giveE 2 (tq (hiI (-7)) (loI (-7)) 2) (tq (hiI (-7)) (loI (-7)) 2) = -3 ∧ thrE 2 (tq (hiI (-7)) (loI (-7)) 2) = 0 := by decide +kernel
theorem exc : uT 1 1 = -11 := by decide +kernel
set_option maxRecDepth 100000 in
set_option maxHeartbeats 1000000 in
theorem awake_any (w : World) : Calls Try.prog 10 #[] w fun e w' => e = .returned (.bool true) ∧ Below w.heap.size w w' := by
  have h7 : i64r (-7) := by unfold i64r; decide
  have h2 : i64r 2 := by unfold i64r; decide
  have E : ∀ w, (binOp .eql 24 (pw 1 0) (pw 1 0)).run Try.prog w = .ok (.bool true) w := fun w => by rw [eqlW]; rfl
  have EE := Lib.hid E
  clear E
  go_enter Try.func10, Try.ntmps10
  go_wp2_with fail
  refine (of_any (-7) (by decide) (by decide) w).mono ?_
  rintro e w1 ⟨x, y, rfl, hx, hy, exy, b1⟩
  obtain ⟨rfl, rfl⟩ := hi_lo h7 hx hy exy
  go_wp2_with fail
  refine (fm_any _ _ 2 hx hy h2 w1).mono ?_
  rintro e w2 ⟨rfl, b2⟩
  rw [exa.1, exa.2.1, exa.2.2]
  have c2 := b1.trans (b2.mono b1.size)
  clear b1 b2 exy
  go_wp2_with fail
  refine (of_any (-7) (by decide) (by decide) w2).mono ?_
  rintro e w3 ⟨x, y, rfl, hx3, hy3, exy, b3⟩
  obtain ⟨rfl, rfl⟩ := hi_lo h7 hx3 hy3 exy
  have c3 := c2.trans (b3.mono c2.size)
  clear b3 exy c2
  go_wp2_with fail
  refine (sm_any _ _ 2 hx hy h2 w3).mono ?_
  rintro e w4 ⟨rfl, b4⟩
  rw [exb.1, exb.2.1, exb.2.2]
  have c4 := c3.trans (b4.mono c3.size)
  clear b4 c3
  go_wp2_with fail
  refine (udiv_any 1 0 1 (by unfold half; decide) half0 (by unfold half; decide) w4).mono ?_
  rintro e w5 ⟨rfl, b5⟩
  rw [exc]
  have c5 := c4.trans (b5.mono c4.size)
  clear b5 c4
  generalize uR 1 0 1 = r at *
  generalize uQ 1 0 1 = q at *
  go_wp2_with fail
  refine (umul_any 9223372036854775808 2 (by omega) (by omega) w5).mono ?_
  rintro e w6 ⟨x, y, rfl, hx6, hy6, exy, b6⟩
  have c6 := c5.trans (b6.mono c5.size)
  obtain ⟨rfl, rfl⟩ : x = 1 ∧ y = 0 := by
    unfold half at hx6 hy6
    omega
  clear b6 c5 exy
  go_wp2_with (first | ((with_reducible refine here (op := .binOp .eql 24 (.tmp 55) (.tmp 56) 24) ?_); refine wpList_val (by rfl) _ (ex_bin_agg .eql 24 24 (.tmp 55) (.tmp 56) rfl _ _ _ rfl rfl guardW (EE.out _)) ?_) | fail)
  go_ret
  exact ⟨rfl, c6⟩
theorem sgn_mul (s t : Bool) (a b : Int) : sgn s a * sgn t b = sgn (s != t) (a * b) := by
  unfold sgn
  cases s <;> cases t <;> simp [Int.neg_mul, Int.mul_neg]
theorem absI_sgn (a : Int) : sgn (decide (a < 0)) (absI a) = a := by
  unfold sgn absI
  by_cases h : a < 0
  · rw [decide_eq_true h, if_pos h]; simp
  · rw [decide_eq_false h, if_neg h]; simp
theorem mulV_eq (a b : Int) : mulV a b = a * b % 340282366920938463463374607431768211456 := by
  unfold mulV
  rw [← sgn_mul, absI_sgn, absI_sgn]
theorem mul_part (a b c : Int) (ha : i64r a) (hb : i64r b) (hc : i64r c) (hs : i64r (a + b)) : mulV (a + b) c = (mulV a c + mulV b c) % 340282366920938463463374607431768211456 := by
  rw [mulV_eq, mulV_eq, mulV_eq, Int.add_mul]
  generalize a * c = p
  generalize b * c = q
  omega
theorem mul_turn (a b : Int) : mulV a b = mulV b a := by rw [mulV_eq, mulV_eq, Int.mul_comm]
theorem neg_none (x y : Int) (hx : half x) (hy : half y) : (x * 18446744073709551616 + y + -(x * 18446744073709551616 + y) % 340282366920938463463374607431768211456) % 340282366920938463463374607431768211456 = 0 * 18446744073709551616 + 0 := by
  unfold half at *
  omega
/-- A wide number with its sign. -/
def svW (a b : Int) : Int := if negW a then a * 18446744073709551616 + b - 340282366920938463463374607431768211456 else a * 18446744073709551616 + b
theorem svW_sgn {a b : Int} (ha : half a) (hb : half b) : svW a b = sgn (negW a) (absW a b) := by
  unfold svW sgn absW negW half at *
  by_cases h : 9223372036854775808 ≤ a
  · have h2 : ¬ a < 9223372036854775808 := by omega
    simp [h, h2]
    omega
  · have h2 : a < 9223372036854775808 := by omega
    simp [h, h2]
theorem svW_mod {a b : Int} (ha : half a) (hb : half b) : svW a b % 340282366920938463463374607431768211456 = a * 18446744073709551616 + b := by
  unfold svW half at *
  split <;> omega
theorem tq_back {a b d : Int} (ha : half a) (hb : half b) (h0 : d ≠ 0) : tq a b d * d + tr a b d = svW a b := by
  rw [svW_sgn ha hb]
  have e := Int.mul_ediv_add_emod (absW a b) (absI d)
  have h1 : tq a b d * d = sgn (negW a) (absI d * (absW a b / absI d)) := by
    have h2 := absI_sgn d
    unfold tq
    conv => lhs; rhs; rw [← h2]
    rw [sgn_mul, Int.mul_comm (absI d)]
    congr 1
    cases negW a <;> cases decide (d < 0) <;> rfl
  rw [h1]
  unfold tr
  generalize absI d * (absW a b / absI d) = p at *
  generalize absW a b % absI d = q at *
  rw [← e]
  unfold sgn
  cases negW a <;> simp <;> omega
theorem fq_back {a b d : Int} (ha : half a) (hb : half b) (h0 : d ≠ 0) : fq a b d * d + fr a b d = svW a b := by
  rw [← tq_back ha hb h0]
  unfold fq fr
  cases offD a b d with
  | false => rfl
  | true =>
    simp only [if_true]
    rw [Int.sub_mul, Int.one_mul]
    generalize tq a b d * d = p
    omega
theorem fr_sign {a b d : Int} (ha : half a) (hb : half b) (hd : i64r d) (h0 : d ≠ 0) : (0 < d → 0 ≤ fr a b d ∧ fr a b d < d) ∧ (d < 0 → d < fr a b d ∧ fr a b d ≤ 0) := by
  obtain ⟨h1, h2, h3⟩ := tr_i64 ha hb hd h0
  have h4 := offD_iff a b d
  have h5 : absI d = if d < 0 then -d else d := rfl
  unfold fr
  cases ho : offD a b d with
  | false =>
    have h6 : tr a b d = 0 ∨ (decide (tr a b d < 0) = decide (d < 0)) := by
      by_cases h7 : tr a b d = 0
      · exact .inl h7
      · right
        cases h8 : (decide (tr a b d < 0) != decide (d < 0)) with
        | false => simpa using h8
        | true => rw [h4.2 ⟨h7, h8⟩] at ho; cases ho
    simp only [Bool.false_eq_true, if_false]
    rcases h6 with h6 | h6
    · constructor <;> intro h <;> omega
    · rw [decide_eq_decide] at h6
      constructor <;> intro h <;> split at h5 <;> omega
  | true =>
    obtain ⟨h7, h8⟩ := h4.1 ho
    simp only [bne_iff_ne, ne_eq, decide_eq_decide] at h8
    simp only [if_true]
    constructor <;> intro h <;> split at h5 <;> omega
theorem tr_sign {a b d : Int} (ha : half a) (hb : half b) (hd : i64r d) (h0 : d ≠ 0) (hr : tr a b d ≠ 0) : decide (tr a b d < 0) = (a / 9223372036854775808 == 1) := by
  obtain ⟨r1, _, _⟩ := tr_range ha hb hd h0
  unfold tr sgn negW at *
  unfold half at *
  generalize absW a b % absI d = r at *
  by_cases h : 9223372036854775808 ≤ a
  · rw [decide_eq_true h] at hr ⊢
    simp only [if_true] at hr ⊢
    rw [Bool.eq_iff_iff]
    simp
    omega
  · rw [decide_eq_false h] at hr ⊢
    simp only [Bool.false_eq_true, if_false] at hr ⊢
    rw [Bool.eq_iff_iff]
    simp
    omega
theorem back_mod {a b d q r : Int} (ha : half a) (hb : half b) (e : q * d + r = svW a b) : (mulV q d + r % 340282366920938463463374607431768211456) % 340282366920938463463374607431768211456 = a * 18446744073709551616 + b := by
  rw [mulV_eq, ← svW_mod ha hb, ← e]
  generalize q * d = p
  omega
/-- What the law asks of FmMod's answer, and of SmRem's. -/
def BackF (a b d r q t : Int) : Prop := t = 0 → i64r q ∧ i64r r ∧ (mulV q d + r % 340282366920938463463374607431768211456) % 340282366920938463463374607431768211456 = a * 18446744073709551616 + b ∧ d ≠ 0 ∧ (0 < d → 0 ≤ r ∧ r < d) ∧ (d < 0 → d < r ∧ r ≤ 0)
def BackS (a b d r q t : Int) : Prop := t = 0 → i64r q ∧ i64r r ∧ (mulV q d + r % 340282366920938463463374607431768211456) % 340282366920938463463374607431768211456 = a * 18446744073709551616 + b ∧ (r ≠ 0 → decide (r < 0) = (a / 9223372036854775808 == 1))
theorem thr_none {d q x : Int} (h : thrE d q = 0) : d ≠ 0 ∧ fit64 q = true ∧ giveE d q x = x := by
  unfold thrE at h
  by_cases h0 : d = 0
  · rw [if_pos h0] at h; omega
  · rw [if_neg h0] at h
    cases hf : fit64 q with
    | false => rw [hf] at h; simp at h
    | true =>
      refine ⟨h0, rfl, ?_⟩
      unfold giveE
      rw [if_neg h0, hf]
      rfl
theorem fit_i64 {q : Int} (h : fit64 q = true) : i64r q := by
  unfold fit64 at h
  simp at h
  exact h
theorem backF {a b d : Int} (ha : half a) (hb : half b) (hd : i64r d) : BackF a b d (giveE d (fq a b d) (fr a b d)) (giveE d (fq a b d) (fq a b d)) (thrE d (fq a b d)) := by
  intro h
  obtain ⟨h0, hf, e1⟩ := thr_none (x := fr a b d) h
  obtain ⟨_, _, e2⟩ := thr_none (x := fq a b d) h
  rw [e1, e2]
  exact ⟨fit_i64 hf, fr_i64 ha hb hd h0, back_mod ha hb (fq_back ha hb h0), h0, fr_sign ha hb hd h0⟩
theorem backS {a b d : Int} (ha : half a) (hb : half b) (hd : i64r d) : BackS a b d (giveE d (tq a b d) (tr a b d)) (giveE d (tq a b d) (tq a b d)) (thrE d (tq a b d)) := by
  intro h
  obtain ⟨h0, hf, e1⟩ := thr_none (x := tr a b d) h
  obtain ⟨_, _, e2⟩ := thr_none (x := tq a b d) h
  rw [e1, e2]
  exact ⟨fit_i64 hf, (tr_i64 ha hb hd h0).1, back_mod ha hb (tq_back ha hb h0), fun hr => tr_sign ha hb hd h0 hr⟩
theorem ureal {a b d : Int} (ha : half a) (hb : half b) (hd : half d) (h : uT a d = 0) : half (uR a b d) ∧ half (uQ a b d) ∧ uR a b d < d ∧ uQ a b d * d + uR a b d = a * 18446744073709551616 + b := by
  have h0 : d ≠ 0 := fun e => by unfold uT at h; rw [if_pos e] at h; omega
  have h1 : ¬ d ≤ a := fun e => by unfold uT at h; rw [if_neg h0, if_pos e] at h; omega
  have er : uR a b d = (a * 18446744073709551616 + b) % d := by unfold uR; rw [if_pos h]
  have eq : uQ a b d = (a * 18446744073709551616 + b) / d := by unfold uQ; rw [if_pos h]
  have hp : 0 < d := by unfold half at *; omega
  have k1 := Int.emod_nonneg (a * 18446744073709551616 + b) h0
  have k2 := Int.emod_lt_of_pos (a * 18446744073709551616 + b) hp
  have k3 := Int.mul_ediv_add_emod (a * 18446744073709551616 + b) d
  have k4 := big_iff (A := a * 18446744073709551616 + b) ha hb rfl hp
  have k5 : 0 ≤ (a * 18446744073709551616 + b) / d := Int.ediv_nonneg (by unfold half at *; omega) (by omega)
  rw [er, eq]
  refine ⟨⟨k1, by unfold half at *; omega⟩, ⟨k5, by omega⟩, k2, ?_⟩
  rw [Int.mul_comm]
  exact k3
theorem whole {a b : Int} (ha : half a) (hb : half b) : (a * 18446744073709551616 + b) % 340282366920938463463374607431768211456 = a * 18446744073709551616 + b := by unfold half at *; omega
/-- An operation with a guard that says yes, its run being known. -/
theorem wpList_rw {P : Program} {w w' : World} {ops : Array Oper} {rest : List Oper} {o : Oper} {a : Act} {Q : Exit → Act → World → Prop} (hw : Region.wanted o (yielded ops a.tmps) = true) (v : Value) (hrun : (execOp a.eval o).run P w = .ok (.value v) w') (h : wpList P ops Q rest (a.put o.dst v) w') : wpList P ops Q (o :: rest) a w :=
  BigFrame.wpList_want hw fun K hK => by
    unfold Oper.wp
    rw [hrun]
    exact hK _ _ h
theorem uniqW {x y x' y' : Int} (hx : half x) (hy : half y) (hx' : half x') (hy' : half y') (e : x * 18446744073709551616 + y = x' * 18446744073709551616 + y') : x = x' ∧ y = y' := by
  unfold half at *
  omega
theorem eqlT (x y : Int) (w : World) : (binOp .eql 24 (pw x y) (pw x y)).run Try.prog w = .ok (.bool true) w := by rw [eqlW]; simp
theorem neqF (x y : Int) (w : World) : (binOp .neq 24 (pw x y) (pw x y)).run Try.prog w = .ok (.bool false) w := by rw [neqW]; simp
end Go.Proofs.Ytipolhocplidlaa.Wd
