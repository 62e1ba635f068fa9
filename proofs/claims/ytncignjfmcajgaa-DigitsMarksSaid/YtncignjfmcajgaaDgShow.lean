/-
  DgShow
-/
import Derived.Test.YtncignjfmcajgaaDgSum
import Derived.Test.YtncignjfmcajgaaGA
import Derived.Test.YtncignjfmcajgaaGLe
import Derived.BigQuiet
import Derived.Laws.Concat
namespace Go.Proofs.Ytncignjfmcajgaa.Dgt
open Go.RowKit
set_option linter.unusedVariables false
set_option linter.unusedSimpArgs false

theorem u64_small (k : Int) (h1 : 0 ≤ k) (h2 : k < 18446744073709551616) : IntKind.u64.wrap k = k := by simp [IntKind.wrap, IntKind.bits, IntKind.signed]; omega
set_option maxRecDepth 100000 in
theorem letter_any (d : Nat) (hd : d < 36) (w : World) : Calls Try.prog 20 #[.int .u64 (d : Int)] w fun e w' => e = .returned (B8 (letN d)) ∧ w' = w := by
  have V : ∀ k : Int, 0 ≤ k → k < 256 → IntKind.u8.wrap k = k := fun k h1 h2 => by simp [IntKind.wrap, IntKind.bits, IntKind.signed]; omega
  have U : ∀ k : Int, 0 ≤ k → k < 256 → IntKind.u64.wrap k = k := fun k h1 h2 => by simp [IntKind.wrap, IntKind.bits, IntKind.signed]; omega
  have hn := letN_nat d hd
  by_cases h : d < 10
  · have hw : ((letN d).toNat : Int) = 48 + (d : Int) := by rw [hn, if_pos h]; omega
    have d1 : decide ((d : Int) < 10) = true := by simp; omega
    have d2 : decide (d < 10) = true := by simp; omega
    have e1 : IntKind.u8.wrap (d : Int) = d := V _ (by omega) (by omega)
    have e2 : IntKind.u8.wrap (48 + (d : Int)) = 48 + (d : Int) := V _ (by omega) (by omega)
    show Calls Try.prog 20 #[.int .u64 (d : Int)] w fun e w' => e = .returned (.int .u8 ((letN d).toNat : Int)) ∧ w' = w
    rw [hw]
    clear hw hn V U
    go_enter Try.func20, Try.ntmps20
    go_wp2_with fail
    go_ret
    exact ⟨rfl, rfl⟩
  · have hw : ((letN d).toNat : Int) = 55 + (d : Int) := by rw [hn, if_neg h]; omega
    have d1 : decide ((d : Int) < 10) = false := by simp; omega
    have d2 : decide (d < 10) = false := by simp; omega
    have e0 : IntKind.u64.wrap ((d : Int) - 10) = (d : Int) - 10 := U _ (by omega) (by omega)
    have e1 : IntKind.u8.wrap ((d : Int) - 10) = (d : Int) - 10 := V _ (by omega) (by omega)
    have e2 : IntKind.u8.wrap (65 + ((d : Int) - 10)) = 55 + (d : Int) := by rw [V _ (by omega) (by omega)]; omega
    show Calls Try.prog 20 #[.int .u64 (d : Int)] w fun e w' => e = .returned (.int .u8 ((letN d).toNat : Int)) ∧ w' = w
    rw [hw]
    clear hw hn V U
    go_enter Try.func20, Try.ntmps20
    go_wp2_with fail
    go_ret
    exact ⟨rfl, rfl⟩

/-- The digits of k: those that are still to come, those that are laid. -/
structure ShS (b k a m : Nat) (fst : Bool) (suf : List UInt8) : Prop where
  dig : digs b k = (if (fst || decide (0 < m)) = true then digsF a b m else []) ++ suf
  lt : m < 2 ^ a
  f : fst = true → a = 64
  len : suf.length + a = 64
theorem ShS.start (b k : Nat) (hk : k < 18446744073709551616) : ShS b k 64 k true [] := ⟨by simp [digs], by simpa using hk, fun _ => rfl, rfl⟩
theorem ShS.pos {b k a m : Nat} {fst : Bool} {suf : List UInt8} (h : ShS b k a m fst suf) (hm : (fst || decide (0 < m)) = true) : 1 ≤ a ∧ a ≤ 64 := by
  have := h.len
  refine ⟨?_, by omega⟩
  rcases Nat.eq_zero_or_pos a with e | e
  · exfalso
    subst e
    cases fst with
    | true => have := h.f rfl; omega
    | false =>
      have := h.lt
      simp at hm this
      omega
  · exact e
theorem ShS.step {b k a m : Nat} {fst : Bool} {suf : List UInt8} (hb : 2 ≤ b) (h : ShS b k a m fst suf) (hm : (fst || decide (0 < m)) = true) : ShS b k (a - 1) (m / b) false (letN (m % b) :: suf) := by
  obtain ⟨h1, h2⟩ := h.pos hm
  obtain ⟨a, rfl⟩ : ∃ c, a = c + 1 := ⟨a - 1, by omega⟩
  refine ⟨?_, half_lt hb h.lt, fun h => (by cases h), by have := h.len; simp at this ⊢; omega⟩
  rw [h.dig, if_pos hm, digsF]
  simp only [Bool.false_or, decide_eq_true_eq, Nat.add_sub_cancel]
  by_cases hlt : m < b
  · rw [if_pos hlt, if_neg (by rw [Nat.div_eq_of_lt hlt]; omega)]
    simp
  · rw [if_neg hlt, if_pos (Nat.div_pos (by omega) (by omega))]
    simp
theorem ShS.done {b k a m : Nat} {fst : Bool} {suf : List UInt8} (h : ShS b k a m fst suf) (hm : (fst || decide (0 < m)) = false) : digs b k = suf := by
  rw [h.dig, if_neg (by rw [hm]; simp)]
  rfl
def ShR (b k : Nat) (w : World) (g : Nat) (n at_ first : Value) (wr : World) : Prop :=
  ∃ (a m : Nat) (fst : Bool) (suf pre : List UInt8), g = a ∧ n = .int .u64 (m : Int) ∧ at_ = .int .i64 (a : Int) ∧ first = .bool fst ∧ ShS b k a m fst suf ∧ pre.length = a ∧ Row8 wr w.heap.size 38 (pre ++ suf) ∧ Below w.heap.size w wr
theorem Try.len64 : Try.prog.arrayLen 38 = 64 := by kernel_rfl
set_option maxRecDepth 100000 in
set_option maxHeartbeats 1000000 in
theorem showu_any (k : Nat) (hk : k < 18446744073709551616) (base : Int) (w : World) :
    Calls Try.prog 14 #[.int .u64 (k : Int), .int .i64 base] w (Gv w (St (digs (bsN base) k))) := by
  have hb := bsN_range base
  have HB := Lib.hid (fun W => base_any base W)
  generalize bsN base = b at *
  have e0 : IntKind.u64.wrap (b : Int) = b := by simp [IntKind.wrap, IntKind.bits, IntKind.signed]; omega
  have HS := Lib.hid (ShS.start b k hk)
  have HR := Lib.hid (Row8.made w 64 38)
  have HBL := Lib.hid ((Below.refl w.heap.size w).alloc (Nat.le_refl _) (.cells (madeCells #[.int .u8 0] 64) 38))
  have hmc : madeCells #[.int .u8 0] 64 = (List.replicate 64 (.int .u8 0 : Value)).toArray := by kernel_rfl
  have HST : Hid (ShR b k w 64 (.int .u64 (k : Int)) (.int .i64 64) (.bool true) (w.alloc (.cells (List.replicate 64 (.int .u8 0 : Value)).toArray 38))) := by
    rw [← hmc]
    exact ⟨64, k, true, [], List.replicate 64 0, rfl, rfl, rfl, rfl, HS.out, by simp, by simpa using HR.out, HBL.out⟩
  clear HS HR HBL hmc
  go_enter Try.func14, Try.ntmps14
  go_wp2_with fail
  refine (HB.out _).mono ?_
  rintro e w1 ⟨rfl, rfl⟩
  go_wp2_with fail
  go_loopg [0, 7, 8] 64 (fun g n a f wr => ShR b k w1 g n a f wr)
  case atStart => exact HST.out
  case round =>
    obtain ⟨_, m, fst, suf, pre, rfl, rfl, rfl, rfl, hs, hpl, hr, hb2⟩ := hrel
    clear HST
    by_cases hm : (fst || decide (0 < m)) = true
    · have hps := hs.pos hm
      have hst := hs.step hb.1 hm
      have hd : m % b < 36 := Nat.lt_of_lt_of_le (Nat.mod_lt _ (by omega)) hb.2
      have hset := hr.set_ (gk - 1) (letN (m % b))
      have hfz := hr.free (gk - 1)
      have hlen : (pre ++ suf).length = 64 := by have := hs.len; rw [List.length_append]; omega
      have hcell := hr.cell_ (k := gk - 1) (by omega)
      have hml : m < 18446744073709551616 := Nat.lt_of_lt_of_le hs.lt (by
        have : 2 ^ gk ≤ 2 ^ 64 := Nat.pow_le_pow_right (by omega) hps.2
        simpa using this)
      have hsplit : (pre ++ suf).set (gk - 1) (letN (m % b)) = pre.take (gk - 1) ++ (letN (m % b) :: suf) := by
        rw [List.set_append_left _ _ (by omega), List.set_eq_take_append_cons_drop, if_pos (by omega)]
        rw [List.drop_eq_nil_of_le (by omega)]
        simp
      rw [hsplit] at hset
      have HR2 : Hid (ShR b k w1 (gk - 1) (.int .u64 ((m / b : Nat) : Int)) (.int .i64 ((gk - 1 : Nat) : Int)) (.bool false) (wr.setCell ⟨w1.heap.size, gk - 1, none⟩ (B8 (letN (m % b))))) := ⟨gk - 1, m / b, false, _, _, rfl, rfl, rfl, rfl, hst, by simp; omega, hset, hb2.setCell (Nat.le_refl _) _⟩
      obtain ⟨c, hc, hcg⟩ : ∃ c : Nat, gk - 1 = c ∧ (gk : Int) - 1 = (c : Int) := ⟨gk - 1, rfl, by omega⟩
      rw [hc] at HR2 hfz hcell
      have hlt : c < gk := by omega
      have c64 : (c : Int) < 64 := by omega
      have c0 : (0 : Int) ≤ (c : Int) := by omega
      have w1c : IntKind.i64.wrap (c : Int) = (c : Int) := by simp [IntKind.wrap, IntKind.bits, IntKind.signed]; omega
      have eb : ((b : Int) == 0) = false := by simp; omega
      have eb2 : (b == 0) = false := by simp; omega
      have hl := fun W => letter_any (m % b) hd W
      have em : ((m % b : Nat) : Int) = (m : Int) % (b : Int) := Int.natCast_emod m b
      have eq_ : ((m / b : Nat) : Int) = (m : Int) / (b : Int) := Int.natCast_ediv m b
      have hmb : m / b ≤ m := Nat.div_le_self _ _
      have wq : IntKind.u64.wrap ((m / b : Nat) : Int) = ((m / b : Nat) : Int) := u64_small _ (Int.natCast_nonneg _) (Int.lt_of_le_of_lt (Int.ofNat_le.2 hmb) (by omega))
      rw [em] at hl
      rw [eq_] at HR2 wq
      have HL := Lib.hid hl
      generalize letN (m % b) = L at *
      generalize hMD : (m : Int) % (b : Int) = md at *
      generalize hMQ : (m : Int) / (b : Int) = mq at *
      have HMD := Lib.hid hMD
      clear em eq_ hmb hl hs hr hset hsplit hpl hlen hst hps hb2 hc
      cases fst with
      | true =>
        clear hm
        go_wp2_with fail
        refine (HL.out _).mono ?_
        rintro e w2 ⟨rfl, rfl⟩
        go_wp2_with fail
        go_roundg c
        case rel => exact HR2.out
        case measure => omega
      | false =>
        have hm1 : 0 < m := by simpa using hm
        have t1 : decide ((0 : Int) < (m : Int)) = true := by simp; omega
        have t2 : decide (0 < m) = true := by simp; omega
        clear hm
        go_wp2_with fail
        refine (HL.out _).mono ?_
        rintro e w2 ⟨rfl, rfl⟩
        go_wp2_with fail
        go_roundg c
        case rel => exact HR2.out
        case measure => omega
    · have hm' : (fst || decide (0 < m)) = false := by simpa using hm
      have hdig := hs.done hm'
      rw [Bool.or_eq_false_iff] at hm'
      obtain ⟨rfl, hm0⟩ := hm'
      have t1 : decide ((0 : Int) < (m : Int)) = false := by simp at hm0 ⊢; omega
      have hsl := hs.len
      have hne : suf ≠ [] := by rw [← hdig]; exact digsF_ne b 63 k
      have hpos : 0 < suf.length := List.length_pos_iff.2 hne
      have g64 : (gk : Int) ≤ 64 := by omega
      have n64 : ¬ 64 = gk := by omega
      have gn : (0 : Int) ≤ gk := by omega
      have hbr : BR wr wr.heap.size (some ⟨w1.heap.size, gk, none⟩) suf := by
        intro _
        obtain ⟨ad, e, hb1, hc⟩ := hr.br (by simp [hne])
        cases e
        refine ⟨_, rfl, hb1, fun j u hu => ?_⟩
        have := hc (gk + j) u (by rw [List.getElem?_append_right (by omega), ← hu]; congr 1; omega)
        have e1 : (⟨w1.heap.size, 0, none⟩ : Addr).add (gk + j) = ⟨w1.heap.size, gk + j, none⟩ := by unfold Addr.add; split <;> simp_all
        have e2 : (⟨w1.heap.size, gk, none⟩ : Addr).add j = ⟨w1.heap.size, gk + j, none⟩ := by unfold Addr.add; split <;> simp_all
        rw [e1] at this
        rw [e2]
        exact this
      have hstr := fun c => run_str (P := Try.prog) wr wr.heap.size 31 9 5 (some ⟨w1.heap.size, gk, none⟩) suf c hbr Try.underlying31 Try.underlying5 Try.underlying9
      have hl : suf.length = 64 - gk := by omega
      rw [hl] at hstr
      have HD := Lib.hid hdig
      have HB2 := Lib.hid hb2
      have HH := Lib.hid hs.f
      clear hs hr hbr hdig hl hm hb2 hne hpos
      go_wp2_with fail
      go_ret
      exact ⟨by rw [HD.out]; rfl, HB2.out⟩
theorem st_app (c : UInt8) (t : List UInt8) : (⟨#[c]⟩ : ByteArray) ++ ⟨t.toArray⟩ = ⟨(c :: t).toArray⟩ := by
  apply ByteArray.ext
  simp
/-- A table of letters. -/
def letB : ByteArray := ⟨#[48, 49, 50, 51, 52, 53, 54, 55, 56, 57, 65, 66, 67, 68, 69, 70, 71, 72, 73, 74, 75, 76, 77, 78, 79, 80, 81, 82, 83, 84, 85, 86, 87, 88, 89, 90]⟩
theorem let_cut : ∀ d : Fin 36, letB.extract d.val (d.val + 1) = ⟨#[letN d.val]⟩ := by decide +kernel
def RhR (b k : Nat) (w : World) (g : Nat) (n s : Value) (wr : World) : Prop :=
  ∃ (m : Nat) (fst : Bool) (suf : List UInt8), n = .int .u64 (m : Int) ∧ s = St suf ∧ (fst || decide (0 < m)) = true ∧ ShS b k g m fst suf ∧ Below w.heap.size w wr
set_option maxRecDepth 100000 in
set_option maxHeartbeats 1000000 in
theorem rshowu_any (k : Nat) (hk : k < 18446744073709551616) (base : Int) (w : World) :
    Calls Try.prog 15 #[.int .u64 (k : Int), .int .i64 base] w (Gv w (St (digs (bsN base) k))) := by
  have hb := bsN_range base
  have HB := Lib.hid (fun W => rbase_any base W)
  generalize bsN base = b at *
  have e0 : IntKind.u64.wrap (b : Int) = b := by simp [IntKind.wrap, IntKind.bits, IntKind.signed]; omega
  have HS := Lib.hid (ShS.start b k hk)
  go_enter Try.func15, Try.ntmps15
  go_wp2_with fail
  refine (HB.out _).mono ?_
  rintro e w1 ⟨rfl, rfl⟩
  go_wp2_with fail
  go_loopg [0, 6] 64 (fun g n s wr => RhR b k w1 g n s wr)
  case atStart => exact ⟨k, true, [], rfl, rfl, rfl, HS.out, Below.refl _ _⟩
  case round =>
    obtain ⟨m, fst, suf, rfl, rfl, hm, hs, hb2⟩ := hrel
    have hps := hs.pos hm
    have hst := hs.step hb.1 hm
    have hd : m % b < 36 := Nat.lt_of_lt_of_le (Nat.mod_lt _ (by omega)) hb.2
    have em : ((m % b : Nat) : Int) = (m : Int) % (b : Int) := Int.natCast_emod m b
    have eq_ : ((m / b : Nat) : Int) = (m : Int) / (b : Int) := Int.natCast_ediv m b
    have hsl : ∀ W, (Instr.slice 9 (.string ⟨#[48, 49, 50, 51, 52, 53, 54, 55, 56, 57, 65, 66, 67, 68, 69, 70, 71, 72, 73, 74, 75, 76, 77, 78, 79, 80, 81, 82, 83, 84, 85, 86, 87, 88, 89, 90]⟩) (some (.int .u64 ((m : Int) % (b : Int)))) (some (.int .u64 ((m : Int) % (b : Int) + 1))) none).run Try.prog W = .ok (.string ⟨#[letN (m % b)]⟩) W := fun W => by
      rw [← em]
      have h := run_slice_string W 9 letB .u64 .u64 ((m % b : Nat) : Int) (((m % b : Nat) : Int) + 1) Try.underlying9 (by omega) (by omega) (by show _ ≤ ((36 : Nat) : Int); omega)
      rw [show (((m % b : Nat) : Int)).toNat = m % b by omega, show ((((m % b : Nat) : Int)) + 1).toNat = m % b + 1 by omega, let_cut ⟨m % b, hd⟩] at h
      exact h
    have hml : m < 18446744073709551616 := Nat.lt_of_lt_of_le hs.lt (by
      have : 2 ^ gk ≤ 2 ^ 64 := Nat.pow_le_pow_right (by omega) hps.2
      simpa using this)
    have hmb : m / b ≤ m := Nat.div_le_self _ _
    have wq : IntKind.u64.wrap ((m / b : Nat) : Int) = ((m / b : Nat) : Int) := u64_small _ (Int.natCast_nonneg _) (Int.lt_of_le_of_lt (Int.ofNat_le.2 hmb) (by omega))
    have w1m : IntKind.u64.wrap (((m % b : Nat) : Int) + 1) = ((m % b : Nat) : Int) + 1 := u64_small _ (by omega) (by omega)
    have eb : ((b : Int) == 0) = false := by simp; omega
    have eb2 : (b == 0) = false := by simp; omega
    have hsz : suf.length ≤ 64 := by have := hs.len; omega
    have hadd : ∀ W, (Op.stringOp .add ⟨#[letN (m % b)]⟩ ⟨suf.toArray⟩).run Try.prog W = .ok (.string ⟨(letN (m % b) :: suf).toArray⟩) W := fun W => by
      exact (run_string_add_sum (P := Try.prog) W _ _ (by rw [st_size]; show 1 + suf.length ≤ _; omega)).trans (by rw [st_app])
    have hcut : (⟨#[48, 49, 50, 51, 52, 53, 54, 55, 56, 57, 65, 66, 67, 68, 69, 70, 71, 72, 73, 74, 75, 76, 77, 78, 79, 80, 81, 82, 83, 84, 85, 86, 87, 88, 89, 90]⟩ : ByteArray).extract (m % b) (m % b + 1) = ⟨#[letN (m % b)]⟩ := let_cut ⟨m % b, hd⟩
    have HN := Lib.hid (fun h : 0 < m / b => (⟨m / b, false, letN (m % b) :: suf, rfl, rfl, by simpa using h, hst, hb2.trans ⟨rfl, rfl, rfl, Nat.le_refl _, fun _ _ => rfl⟩⟩ : RhR b k w1 (gk - 1) (.int .u64 ((m / b : Nat) : Int)) (St (letN (m % b) :: suf)) wr.drew))
    have HD := Lib.hid (fun h : ¬ 0 < m / b => hst.done (by simpa using h))
    have HB2 := Lib.hid hb2
    rw [em] at w1m
    clear HS hs hst hb2
    by_cases hz : 0 < m / b
    · have HN2 := Lib.hid (HN.out hz)
      have z1 : (((m / b : Nat) : Int) == 0) = false := by simp; omega
      rw [eq_] at HN2 wq z1
      clear HN HD
      generalize letN (m % b) = L at *
      clear em eq_ hmb hz
      go_wp2_with fail
      go_region
      all_goals (go_wp2_with fail; go_roundg (gk - 1))
      case rel => exact HN2.out
      case measure => omega
    · have hz0 : m / b = 0 := Nat.eq_zero_of_not_pos hz
      have HD2 := Lib.hid (HD.out hz)
      have z1 : (((m / b : Nat) : Int) == 0) = true := by rw [hz0]; rfl
      rw [eq_] at wq z1
      clear HN HD
      generalize letN (m % b) = L at *
      clear em eq_ hmb hz hz0
      go_wp2_with fail
      go_region
      all_goals (go_wp2_with fail; go_ret)
      all_goals exact ⟨by rw [HD2.out]; rfl, HB2.out.trans ⟨rfl, rfl, rfl, Nat.le_refl _, fun _ _ => rfl⟩⟩
theorem showV_pos {n : Int} (base : Int) (h : ¬ n < 0) : showV n base = digs (bsN base) n.toNat := if_neg h
set_option maxRecDepth 100000 in
theorem show_any (n : Int) (h0 : -9223372036854775808 ≤ n) (h1 : n ≤ 9223372036854775807) (base : Int) (w : World) :
    Calls Try.prog 12 #[.int .i64 n, .int .i64 base] w (Gv w (St (showV n base))) := by
  by_cases hn : n < 0
  · have hv : showV n base = 45 :: digs (bsN base) (-n).toNat := if_pos hn
    rw [hv]
    have d1 : decide (n < 0) = true := by simp; omega
    have e1 : IntKind.u64.wrap (-IntKind.u64.wrap n) = (((-n).toNat : Nat) : Int) := by simp [IntKind.wrap, IntKind.bits, IntKind.signed]; omega
    have H := Lib.hid (showu_any (-n).toNat (by omega) base w)
    have hl : (digs (bsN base) (-n).toNat).length ≤ 64 := digsF_len _ 64 _
    have hadd : ∀ W, (Op.stringOp .add ⟨#[45]⟩ ⟨(digs (bsN base) (-n).toNat).toArray⟩).run Try.prog W = .ok (.string ⟨(45 :: digs (bsN base) (-n).toNat).toArray⟩) W := fun W => by
      exact (run_string_add_sum (P := Try.prog) W _ _ (by rw [st_size]; show 1 + (digs (bsN base) (-n).toNat).length ≤ _; omega)).trans (by rw [st_app])
    generalize digs (bsN base) (-n).toNat = ds at *
    generalize ((-n).toNat : Nat) = z at *
    clear hv hn
    go_enter Try.func12, Try.ntmps12
    go_wp2_with fail
    refine H.out.mono ?_
    rintro e w2 ⟨rfl, b2⟩
    have B2 := Lib.hid b2
    clear b2 H
    go_wp2_with fail
    go_ret
    exact ⟨rfl, B2.out⟩
  · have hv := showV_pos base hn
    rw [hv]
    have d1 : decide (n < 0) = false := by simp; omega
    have e1 : IntKind.u64.wrap n = ((n.toNat : Nat) : Int) := by simp [IntKind.wrap, IntKind.bits, IntKind.signed]; omega
    have H := Lib.hid (showu_any n.toNat (by omega) base w)
    generalize digs (bsN base) n.toNat = ds at *
    generalize (n.toNat : Nat) = z at *
    clear hv hn
    go_enter Try.func12, Try.ntmps12
    go_wp2_with fail
    refine H.out.mono ?_
    rintro e w2 ⟨rfl, b2⟩
    have B2 := Lib.hid b2
    clear b2 H
    go_wp2_with fail
    go_ret
    exact ⟨rfl, B2.out⟩
set_option maxRecDepth 100000 in
theorem rshow_any (n : Int) (h0 : -9223372036854775808 ≤ n) (h1 : n ≤ 9223372036854775807) (base : Int) (w : World) :
    Calls Try.prog 13 #[.int .i64 n, .int .i64 base] w (Gv w (St (showV n base))) := by
  by_cases hn : n < 0
  · have hv : showV n base = 45 :: digs (bsN base) (-n).toNat := if_pos hn
    rw [hv]
    have d1 : decide (n < 0) = true := by simp; omega
    have e1 : IntKind.u64.wrap (-IntKind.u64.wrap n) = (((-n).toNat : Nat) : Int) := by simp [IntKind.wrap, IntKind.bits, IntKind.signed]; omega
    have H := Lib.hid (rshowu_any (-n).toNat (by omega) base w)
    have hl : (digs (bsN base) (-n).toNat).length ≤ 64 := digsF_len _ 64 _
    have hadd : ∀ W, (Op.stringOp .add ⟨#[45]⟩ ⟨(digs (bsN base) (-n).toNat).toArray⟩).run Try.prog W = .ok (.string ⟨(45 :: digs (bsN base) (-n).toNat).toArray⟩) W := fun W => by
      exact (run_string_add_sum (P := Try.prog) W _ _ (by rw [st_size]; show 1 + (digs (bsN base) (-n).toNat).length ≤ _; omega)).trans (by rw [st_app])
    generalize digs (bsN base) (-n).toNat = ds at *
    generalize ((-n).toNat : Nat) = z at *
    clear hv hn
    go_enter Try.func13, Try.ntmps13
    go_wp2_with fail
    refine H.out.mono ?_
    rintro e w2 ⟨rfl, b2⟩
    have B2 := Lib.hid b2
    clear b2 H
    go_wp2_with fail
    go_ret
    exact ⟨rfl, B2.out⟩
  · have hv := showV_pos base hn
    rw [hv]
    have d1 : decide (n < 0) = false := by simp; omega
    have e1 : IntKind.u64.wrap n = ((n.toNat : Nat) : Int) := by simp [IntKind.wrap, IntKind.bits, IntKind.signed]; omega
    have H := Lib.hid (rshowu_any n.toNat (by omega) base w)
    generalize digs (bsN base) n.toNat = ds at *
    generalize (n.toNat : Nat) = z at *
    clear hv hn
    go_enter Try.func13, Try.ntmps13
    go_wp2_with fail
    refine H.out.mono ?_
    rintro e w2 ⟨rfl, b2⟩
    have B2 := Lib.hid b2
    clear b2 H
    go_wp2_with fail
    go_ret
    exact ⟨rfl, B2.out⟩
end Go.Proofs.Ytncignjfmcajgaa.Dgt
