/-
  DgAwake
-/
import Derived.Test.YtncignjfmcajgaaDgNum
import Derived.Test.YtncignjfmcajgaaDgShow
import Derived.Test.YtncignjfmcajgaaGA
namespace Go.Proofs.Ytncignjfmcajgaa.Dgt
open Go.RowKit
set_option linter.unusedVariables false
set_option linter.unusedSimpArgs false

theorem ex1 : numV [36, 45, 49, 70] 10 = (-31, true) := by decide +kernel
theorem ex2 : numV [45, 36, 49, 70] 10 = (0, false) := by decide +kernel
theorem ex3 : showV (-255) 16 = [45, 70, 70] := by decide +kernel
theorem ex4 : digs (bsN 36) 35 = [90] := by decide +kernel
theorem st_eq (xs : List UInt8) (s : ByteArray) (h : s = ⟨xs.toArray⟩) : ((⟨xs.toArray⟩ : ByteArray).toList == s.toList) = true := by rw [h]; simp
set_option maxRecDepth 100000 in
set_option maxHeartbeats 1000000 in
theorem awake_any (w : World) : Calls Try.prog 7 #[] w fun e w' => e = .returned (.bool true) ∧ Below w.heap.size w w' := by
  have q3 : ((⟨([45, 70, 70] : List UInt8).toArray⟩ : ByteArray).toList == (⟨#[45, 70, 70]⟩ : ByteArray).toList) = true := st_eq _ _ rfl
  have q4 : ((⟨([90] : List UInt8).toArray⟩ : ByteArray).toList == (⟨#[90]⟩ : ByteArray).toList) = true := st_eq _ _ rfl
  have H1 := Lib.hid (fun W => number_any [36, 45, 49, 70] (by simp) 10 W)
  have H2 := Lib.hid (fun W => number_any [45, 36, 49, 70] (by simp) 10 W)
  have H3 := Lib.hid (fun W => show_any (-255) (by omega) (by omega) 16 W)
  have H4 := Lib.hid (fun W => showu_any 35 (by omega) 36 W)
  rw [ex1] at H1
  rw [ex2] at H2
  rw [ex3] at H3
  rw [ex4] at H4
  go_enter Try.func7, Try.ntmps7
  go_wp2_with fail
  refine (H1.out _).mono ?_
  rintro e w1 ⟨rfl, b1⟩
  have B1 := Lib.hid b1
  clear b1
  go_wp2_with fail
  refine (H2.out _).mono ?_
  rintro e w2 ⟨rfl, b2⟩
  have B2 := Lib.hid (B1.out.trans (b2.mono B1.out.size))
  clear b2 B1
  go_wp2_with fail
  refine (H3.out _).mono ?_
  rintro e w3 ⟨rfl, b3⟩
  have B3 := Lib.hid (B2.out.trans (b3.mono B2.out.size))
  clear b3 B2
  go_wp2_with fail
  refine (H4.out _).mono ?_
  rintro e w4 ⟨rfl, b4⟩
  have B4 := Lib.hid (B3.out.trans (b4.mono B3.out.size))
  clear b4 B3
  go_wp2_with fail
  go_ret
  exact ⟨rfl, B4.out⟩

/-! ### read again -/
theorem digC_not (c : UInt8) (h : digC c) : c ≠ 35 ∧ c ≠ 36 ∧ c ≠ 37 ∧ c ≠ 39 ∧ c ≠ 45 := by
  unfold digC at h
  refine ⟨?_, ?_, ?_, ?_, ?_⟩ <;> (rintro rfl; revert h; decide)
/-- Whether a word's bytes are digits, small ones too. -/
def dgS (c : UInt8) : Prop := digC c ∨ (97 ≤ c.toNat ∧ c.toNat ≤ 122)
theorem dgS_not (c : UInt8) (h : dgS c) : c ≠ 35 ∧ c ≠ 36 ∧ c ≠ 37 ∧ c ≠ 39 ∧ c ≠ 45 := by
  unfold dgS digC at h
  refine ⟨?_, ?_, ?_, ?_, ?_⟩ <;> (rintro rfl; revert h; decide)
theorem dgS_low (c : UInt8) (h : digC c) : dgS (lowC c) := by
  unfold dgS digC at *
  rw [lowC_nat]
  split <;> omega
/-- A word of digits, a minus ahead or none. -/
theorem word_plain (b : Nat) (c : UInt8) (t : List UInt8) (h : dgS c) (n : Int) : quotV (c :: t) = false ∧ markB b (c :: t) = b ∧ markT (c :: t) = c :: t ∧ minB (c :: t) = false ∧ minT (c :: t) = c :: t := by
  obtain ⟨h1, h2, h3, h4, h5⟩ := dgS_not c h
  refine ⟨?_, ?_, ?_, ?_, ?_⟩
  · simp [quotV, h4]
  · simp [markB, h1, h2, h3]
  · simp [markT, h1, h2, h3]
  · simp [minB, h5]
  · simp [minT, h5]
theorem num_plain (base : Int) (ds : List UInt8) (hne : ds ≠ []) (hd : ∀ c ∈ ds, dgS c) (k : Nat) (hs : sumV (bsN base) ds 0 = some k) : numV ds base = (IntKind.i64.wrap (k : Int), true) := by
  cases ds with
  | nil => exact absurd rfl hne
  | cons c t =>
    obtain ⟨h1, h2, h3, h4, h5⟩ := word_plain (bsN base) c t (hd c (by simp)) base
    unfold numV wordV
    rw [if_neg (by rw [h1]; simp), h2, h3, h4, h5, hs]
    simp
theorem num_minus (base : Int) (ds : List UInt8) (hne : ds ≠ []) (k : Nat) (hs : sumV (bsN base) ds 0 = some k) : numV (45 :: ds) base = (IntKind.i64.wrap (-(k : Int)), true) := by
  unfold numV wordV
  rw [if_neg (by simp [quotV])]
  have h2 : markB (bsN base) (45 :: ds) = bsN base := by simp [markB]
  have h3 : markT (45 :: ds) = 45 :: ds := by simp [markT]
  have h4 : minB (45 :: ds) = true := by simp [minB]
  have h5 : minT (45 :: ds) = ds := by simp [minT]
  rw [h2, h3, h4, h5, hs]
  simp [hne]
/-- A mark ahead of a word. -/
theorem num_mark (base : Int) (m : UInt8) (b : Nat) (hm : (m = 35 ∧ b = 10) ∨ (m = 36 ∧ b = 16) ∨ (m = 37 ∧ b = 2)) (xs : List UInt8) : numV (m :: xs) base = wordV b (minB xs) (minT xs) := by
  unfold numV
  have h1 : quotV (m :: xs) = false := by rcases hm with ⟨rfl, rfl⟩ | ⟨rfl, rfl⟩ | ⟨rfl, rfl⟩ <;> simp [quotV]
  have h2 : markB (bsN base) (m :: xs) = b := by rcases hm with ⟨rfl, rfl⟩ | ⟨rfl, rfl⟩ | ⟨rfl, rfl⟩ <;> rfl
  have h3 : markT (m :: xs) = xs := by rcases hm with ⟨rfl, rfl⟩ | ⟨rfl, rfl⟩ | ⟨rfl, rfl⟩ <;> rfl
  rw [if_neg (by rw [h1]; simp), h2, h3]
theorem digs_ne (b n : Nat) : digs b n ≠ [] := digsF_ne b 63 n
theorem digs_all (base : Int) (n : Nat) : ∀ c ∈ digs (bsN base) n, digC c := digsF_all _ (bsN_range base).1 (bsN_range base).2 64 n
theorem digs_back (base : Int) (n : Nat) (h : n < 18446744073709551616) : sumV (bsN base) (digs (bsN base) n) 0 = some n := digs_sum _ n (bsN_range base).1 (bsN_range base).2 h
variable {n base : Int}
theorem i64_same {k : Int} (h0 : -9223372036854775808 ≤ k) (h1 : k ≤ 9223372036854775807) : IntKind.i64.wrap k = k := by rw [wrap_i64]; omega
theorem show_back (h0 : -9223372036854775808 ≤ n) (h1 : n ≤ 9223372036854775807) : numV (showV n base) base = (n, true) := by
  by_cases hn : n < 0
  · have hv : showV n base = 45 :: digs (bsN base) (-n).toNat := if_pos hn
    rw [hv, num_minus base _ (digs_ne _ _) (-n).toNat (digs_back base _ (by omega)), show (-(((-n).toNat : Nat) : Int)) = n by omega, i64_same h0 h1]
  · rw [showV_pos base hn, num_plain base _ (digs_ne _ _) (fun c hc => Or.inl (digs_all base _ c hc)) n.toNat (digs_back base _ (by omega)), show ((n.toNat : Nat) : Int) = n by omega, i64_same h0 h1]
theorem small_back (h0 : -9223372036854775808 ≤ n) (h1 : n ≤ 9223372036854775807) : numV ((showV n base).map lowC) base = (n, true) := by
  by_cases hn : n < 0
  · have hv : showV n base = 45 :: digs (bsN base) (-n).toNat := if_pos hn
    rw [hv, List.map_cons, show lowC 45 = 45 from rfl, num_minus base _ (by simp [digs_ne]) (-n).toNat (by rw [sum_low]; exact digs_back base _ (by omega)), show (-(((-n).toNat : Nat) : Int)) = n by omega, i64_same h0 h1]
  · rw [showV_pos base hn, num_plain base _ (by simp [digs_ne]) (fun c hc => by
      obtain ⟨d, hd, rfl⟩ := List.mem_map.1 hc
      exact dgS_low d (digs_all base _ d hd)) n.toNat (by rw [sum_low]; exact digs_back base _ (by omega)), show ((n.toNat : Nat) : Int) = n by omega, i64_same h0 h1]
theorem u_back (h0 : -9223372036854775808 ≤ n) (h1 : n ≤ 9223372036854775807) : numV (digs (bsN base) (IntKind.u64.wrap n).toNat) base = (n, true) := by
  have hr := u64_wrap_range n
  rw [num_plain base _ (digs_ne _ _) (fun c hc => Or.inl (digs_all base _ c hc)) (IntKind.u64.wrap n).toNat (digs_back base _ (by omega)), show (((IntKind.u64.wrap n).toNat : Nat) : Int) = IntKind.u64.wrap n by omega, wrap_both, i64_same h0 h1]
/-- A word behind a mark. -/
theorem mark_back (h0 : -9223372036854775808 ≤ n) (h1 : n ≤ 9223372036854775807) (m : UInt8) (b : Nat) (hm : (m = 35 ∧ b = 10) ∨ (m = 36 ∧ b = 16) ∨ (m = 37 ∧ b = 2)) : numV (m :: showV n (b : Int)) base = (n, true) := by
  have hb : bsN (b : Int) = b := by rcases hm with ⟨rfl, rfl⟩ | ⟨rfl, rfl⟩ | ⟨rfl, rfl⟩ <;> rfl
  rw [num_mark base m b hm]
  by_cases hn : n < 0
  · have hv : showV n (b : Int) = 45 :: digs b (-n).toNat := by rw [show showV n (b : Int) = _ from if_pos hn, hb]
    have hs := digs_back (b : Int) (-n).toNat (by omega)
    rw [hb] at hs
    rw [hv]
    have h4 : minB (45 :: digs b (-n).toNat) = true := by simp [minB]
    have h5 : minT (45 :: digs b (-n).toNat) = digs b (-n).toNat := by simp [minT]
    unfold wordV
    rw [h4, h5, hs]
    simp only [if_true]
    rw [if_neg (digs_ne _ _), show (-(((-n).toNat : Nat) : Int)) = n by omega, i64_same h0 h1]
  · have hv : showV n (b : Int) = digs b n.toNat := by rw [showV_pos _ hn, hb]
    have hs := digs_back (b : Int) n.toNat (by omega)
    have ha := digs_all (b : Int) n.toNat
    have hne := digs_ne b n.toNat
    rw [hb] at hs ha
    rw [hv]
    generalize digs b n.toNat = ds at *
    cases ds with
    | nil => exact absurd rfl hne
    | cons c t =>
      obtain ⟨_, _, _, h4, h5⟩ := word_plain b c t (Or.inl (ha c (by simp))) base
      unfold wordV
      rw [h4, h5, hs]
      simp only [Bool.false_eq_true, if_false, reduceCtorEq]
      rw [show ((n.toNat : Nat) : Int) = n by omega, i64_same h0 h1]
theorem showV_len : (showV n base).length ≤ 65 := by
  unfold showV
  have h1 := digsF_len (bsN base) 64 (-n).toNat
  have h2 := digsF_len (bsN base) 64 n.toNat
  split
  · rw [List.length_cons]; unfold digs; omega
  · unfold digs; omega
theorem text_of (s : ByteArray) : ∃ xs : List UInt8, s = ⟨xs.toArray⟩ ∧ xs.length = s.size := ⟨s.data.toList, by simp, by show s.data.toList.length = s.data.size; simp⟩
end Go.Proofs.Ytncignjfmcajgaa.Dgt
