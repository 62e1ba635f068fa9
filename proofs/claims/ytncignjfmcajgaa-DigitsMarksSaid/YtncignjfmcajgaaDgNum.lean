/-
  DgNum
-/
import Derived.Test.YtncignjfmcajgaaDgPart
import Derived.Deep.Cut
namespace Go.Proofs.Ytncignjfmcajgaa.Dgt
open Go.RowKit
set_option linter.unusedVariables false
set_option linter.unusedSimpArgs false

/-- What stands between the quotes. -/
def quotN (xs : List UInt8) : Int := if quotV xs = true then ((xs.getD 1 0).toNat : Int) else 0
theorem u8_eq (a : UInt8) (n : UInt8) : ((a.toNat : Int) == (n.toNat : Int)) = (a == n) := by
  rw [Bool.eq_iff_iff]
  simp only [beq_iff_eq]
  exact ⟨fun h => UInt8.toNat_inj.1 (by omega), fun h => by rw [h]⟩
set_option maxRecDepth 100000 in
theorem quoted_any (xs : List UInt8) (w : World) : Calls Try.prog 16 #[St xs] w fun e w' => e = .returned (.tuple #[.int .i64 (quotN xs), .bool (quotV xs)]) ∧ w' = w := by
  have hsz := st_size xs
  by_cases h3 : xs.length = 3
  · obtain ⟨a, b, c, rfl⟩ : ∃ a b c, xs = [a, b, c] := by
      match xs, h3 with
      | [a, b, c], _ => exact ⟨a, b, c, rfl⟩
    clear h3 hsz
    have q1 : quotV [a, b, c] = ((a == 39) && (c == 39)) := by simp [quotV]
    have u1 := u8_eq a 39
    have u2 := u8_eq c 39
    have hn : quotN [a, b, c] = if ((a == 39) && (c == 39)) = true then (b.toNat : Int) else 0 := by unfold quotN; rw [q1]; rfl
    rw [hn, q1]
    have HS : (⟨#[a, b, c]⟩ : ByteArray).size = 3 := rfl
    have g0 : (((⟨#[a, b, c]⟩ : ByteArray)[0]'(by rw [HS]; decide)).toNat : Int) = (a.toNat : Int) := rfl
    have g1 : (((⟨#[a, b, c]⟩ : ByteArray)[1]'(by rw [HS]; decide)).toNat : Int) = (b.toNat : Int) := rfl
    have g2 : (((⟨#[a, b, c]⟩ : ByteArray)[2]'(by rw [HS]; decide)).toNat : Int) = (c.toNat : Int) := rfl
    have hb : wrap64 (b.toNat : Int) = (b.toNat : Int) := by have := b.toNat_lt; unfold wrap64; omega
    have n1 : ((a.toNat : Int) != 39) = !(a == 39) := by rw [← u1]; rfl
    have n2 : ((c.toNat : Int) != 39) = !(c == 39) := by rw [← u2]; rfl
    show Calls Try.prog 16 #[.string ⟨#[a, b, c]⟩] w _
    clear hn q1 u1 u2
    cases ha : (a == 39) with
    | false =>
      rw [ha] at n1
      have n1' : ((a.toNat : Int) != 39) = true := n1
      clear n1 n2
      go_enter Try.func16, Try.ntmps16
      go_wp2_with fail
      go_ret2
      exact ⟨rfl, rfl⟩
    | true =>
      rw [ha] at n1
      have n1' : ((a.toNat : Int) != 39) = false := n1
      cases hc : (c == 39) with
      | false =>
        rw [hc] at n2
        have n2' : ((c.toNat : Int) != 39) = true := n2
        clear n1 n2
        go_enter Try.func16, Try.ntmps16
        go_wp2_with fail
        go_ret2
        exact ⟨rfl, rfl⟩
      | true =>
        rw [hc] at n2
        have n2' : ((c.toNat : Int) != 39) = false := n2
        clear n1 n2
        go_enter Try.func16, Try.ntmps16
        go_wp2_with fail
        go_ret2
        exact ⟨rfl, rfl⟩
  · have q1 : quotV xs = false := by simp [quotV, h3]
    have hn : quotN xs = 0 := by unfold quotN; rw [q1]; rfl
    rw [hn, q1]
    have n3 : ((xs.length : Int) != 3) = true := by simp; omega
    clear h3 hn q1
    go_enter Try.func16, Try.ntmps16
    go_wp2_with fail
    go_ret2
    exact ⟨rfl, rfl⟩
theorem wrap_i64 (n : Int) : IntKind.i64.wrap n = (n + 9223372036854775808) % 18446744073709551616 - 9223372036854775808 := (IntKind.wrap_i64 n).trans rfl
theorem wrap64_eq (n : Int) : wrap64 n = IntKind.i64.wrap n := by unfold wrap64; exact (IntKind.wrap_i64 n).symm
theorem wrap_u64 (n : Int) : IntKind.u64.wrap n = n % 18446744073709551616 := by simp [IntKind.wrap, IntKind.bits, IntKind.signed]
theorem wrap_both (n : Int) : IntKind.i64.wrap (IntKind.u64.wrap n) = IntKind.i64.wrap n := by rw [wrap_i64, wrap_i64, wrap_u64]; omega
theorem wrap_neg (n : Int) : IntKind.i64.wrap (IntKind.u64.wrap (-IntKind.u64.wrap n)) = IntKind.i64.wrap (-n) := by rw [wrap_i64, wrap_i64, wrap_u64, wrap_u64]; omega
theorem wordV_eq (b : Nat) (minus : Bool) (s : List UInt8) :
    wordV b minus s = if (sumP b s).2 = true then (IntKind.i64.wrap (if minus = true then IntKind.u64.wrap (-(sumP b s).1) else (sumP b s).1), true) else (0, false) := by
  unfold wordV sumP
  cases sumV b s 0 with
  | none => rfl
  | some n =>
    cases s with
    | nil => rfl
    | cons c t =>
      simp only [List.isEmpty_cons, Bool.not_false, if_true, reduceCtorEq, if_false]
      cases minus with
      | true =>
        simp only [if_true]
        rw [wrap_neg]
      | false =>
        simp only [Bool.false_eq_true, if_false]
        rw [wrap_both]
set_option maxRecDepth 100000 in
theorem number_any (xs : List UInt8) (hl : xs.length ≤ 9223372036854775807) (n : Int) (w : World) :
    Calls Try.prog 8 #[St xs, .int .i64 n] w (Gv w (.tuple #[.int .i64 (numV xs n).1, .bool (numV xs n).2])) := by
  have HQ := Lib.hid (quoted_any xs w)
  cases hq : quotV xs with
  | true =>
    have hv : numV xs n = (quotN xs, true) := by unfold numV quotN; rw [if_pos hq, if_pos hq]
    rw [hv]
    rw [hq] at HQ
    clear hv hq
    go_enter Try.func8, Try.ntmps8
    go_wp2_with fail
    refine HQ.out.mono ?_
    rintro e w2 ⟨rfl, rfl⟩
    go_wp2_with fail
    go_ret2
    exact ⟨rfl, Below.refl _ _⟩
  | false =>
    have hv : numV xs n = wordV (markB (bsN n) xs) (minB (markT xs)) (minT (markT xs)) := by unfold numV; rw [if_neg (by rw [hq]; simp)]
    rw [hv, wordV_eq]
    rw [hq] at HQ
    have hbr := bsN_range n
    have hmr := markB_range (bsN n) hbr.1 hbr.2 xs
    have hml : (minT (markT xs)).length ≤ 9223372036854775807 := Nat.le_trans (minT_len _) (Nat.le_trans (markT_len _) hl)
    have HB := Lib.hid (base_any n w)
    have HP := Lib.hid (parts_any xs (bsN n) w)
    have HS := Lib.hid (fun W => sum_any (markB (bsN n) xs) hmr.1 hmr.2 (minT (markT xs)) W hml)
    have wb : IntKind.u64.wrap ((markB (bsN n) xs : Nat) : Int) = ((markB (bsN n) xs : Nat) : Int) := by rw [wrap_u64]; omega
    have hs0 : 0 ≤ (sumP (markB (bsN n) xs) (minT (markT xs))).1 ∧ (sumP (markB (bsN n) xs) (minT (markT xs))).1 < 18446744073709551616 := by
      unfold sumP
      split
      · omega
      · exact u64_wrap_range _
    generalize markB (bsN n) xs = b at *
    generalize bsN n = bb at *
    generalize minB (markT xs) = mm at *
    generalize minT (markT xs) = s at *
    generalize sumP b s = sp at *
    obtain ⟨v, is⟩ := sp
    simp only at HS hs0 ⊢
    clear hv hq hmr hbr hl hml
    cases is with
    | false =>
      rw [if_neg (by simp)]
      go_enter Try.func8, Try.ntmps8
      go_wp2_with fail
      refine HQ.out.mono ?_
      rintro e w2 ⟨rfl, rfl⟩
      go_wp2_with fail
      refine HB.out.mono ?_
      rintro e w3 ⟨rfl, rfl⟩
      go_wp2_with fail
      refine HP.out.mono ?_
      rintro e w4 ⟨rfl, b4⟩
      have B4 := Lib.hid b4
      clear b4 HQ HB HP
      go_wp2_with fail
      refine (HS.out w4).mono ?_
      rintro e w5 ⟨rfl, b5⟩
      have B5 := Lib.hid (B4.out.trans (b5.mono B4.out.size))
      clear b5 B4 HS
      go_wp2_with fail
      go_ret2
      exact ⟨rfl, B5.out⟩
    | true =>
      rw [if_pos rfl]
      cases mm with
      | true =>
        rw [if_pos rfl]
        go_enter Try.func8, Try.ntmps8
        go_wp2_with fail
        refine HQ.out.mono ?_
        rintro e w2 ⟨rfl, rfl⟩
        go_wp2_with fail
        refine HB.out.mono ?_
        rintro e w3 ⟨rfl, rfl⟩
        go_wp2_with fail
        refine HP.out.mono ?_
        rintro e w4 ⟨rfl, b4⟩
        have B4 := Lib.hid b4
        clear b4 HQ HB HP
        go_wp2_with fail
        refine (HS.out w4).mono ?_
        rintro e w5 ⟨rfl, b5⟩
        have B5 := Lib.hid (B4.out.trans (b5.mono B4.out.size))
        clear b5 B4 HS
        go_wp2_with fail
        go_ret2
        exact ⟨by rw [← wrap64_eq]; rfl, B5.out⟩
      | false =>
        rw [if_neg (by simp)]
        go_enter Try.func8, Try.ntmps8
        go_wp2_with fail
        refine HQ.out.mono ?_
        rintro e w2 ⟨rfl, rfl⟩
        go_wp2_with fail
        refine HB.out.mono ?_
        rintro e w3 ⟨rfl, rfl⟩
        go_wp2_with fail
        refine HP.out.mono ?_
        rintro e w4 ⟨rfl, b4⟩
        have B4 := Lib.hid b4
        clear b4 HQ HB HP
        go_wp2_with fail
        refine (HS.out w4).mono ?_
        rintro e w5 ⟨rfl, b5⟩
        have B5 := Lib.hid (B4.out.trans (b5.mono B4.out.size))
        clear b5 B4 HS
        go_wp2_with fail
        go_ret2
        exact ⟨by rw [← wrap64_eq]; rfl, B5.out⟩
/-! ### the document's Number -/
def DocRel (b : Nat) (w : World) (s : List UInt8) (g : Nat) (v i : Value) (wr : World) : Prop :=
  ∃ pos acc, g = s.length - pos ∧ pos ≤ s.length ∧ sumV b s 0 = sumV b (s.drop pos) acc ∧ v = .int .i64 (wrap64 (acc : Int)) ∧ i = .int .i64 (pos : Int) ∧ Below w.heap.size w wr
theorem i64_step (a b d : Nat) : wrap64 (wrap64 (wrap64 (a : Int) * (b : Int)) + (d : Int)) = wrap64 ((a * b + d : Nat) : Int) := by
  simp only [wrap64_eq]
  have e : ((a * b + d : Nat) : Int) = (a : Int) * (b : Int) + (d : Int) := by norm_cast
  rw [e]
  have h1 : IntKind.i64.wrap (a : Int) * (b : Int) = (a : Int) * (b : Int) - ((a : Int) - IntKind.i64.wrap (a : Int)) * (b : Int) := by rw [Int.sub_mul]; omega
  obtain ⟨q, hq⟩ : ∃ q : Int, (a : Int) - IntKind.i64.wrap (a : Int) = q * 18446744073709551616 := ⟨((a : Int) + 9223372036854775808) / 18446744073709551616, by rw [wrap_i64]; omega⟩
  rw [hq, Int.mul_right_comm] at h1
  rw [h1]
  generalize (a : Int) * (b : Int) = x at *
  generalize q * (b : Int) = y at *
  rw [wrap_i64, wrap_i64, wrap_i64]
  omega
theorem three (xs : List UInt8) (h : xs.length = 3) : ∃ a b c, xs = [a, b, c] := by
  match xs, h with
  | [a, b, c], _ => exact ⟨a, b, c, rfl⟩
set_option maxRecDepth 100000 in
set_option maxHeartbeats 2000000 in
theorem rnumber_any (xs : List UInt8) (hl : xs.length ≤ 1000) (n : Int) (w : World) :
    Calls Try.prog 9 #[St xs, .int .i64 n] w (Gv w (.tuple #[.int .i64 (numV xs n).1, .bool (numV xs n).2])) := by
  have hsz := st_size xs
  have HB := Lib.hid (rbase_any n w)
  go_enter Try.func9, Try.ntmps9
  go_upto_region 1 with fail
  go_cut [22] from 10 (fun s22 wc => s22 = .bool (quotV xs) ∧ wc = w)
  case first =>
    by_cases h3 : xs.length = 3
    · obtain ⟨a, b, c, rfl⟩ := three xs h3
      have q1 : quotV [a, b, c] = ((a == 39) && (c == 39)) := by simp [quotV]
      have u1 := u8_eq a 39
      have u2 := u8_eq c 39
      have HS : (⟨#[a, b, c]⟩ : ByteArray).size = 3 := rfl
      have g0 : (((⟨#[a, b, c]⟩ : ByteArray)[0]'(by rw [HS]; decide)).toNat : Int) = (a.toNat : Int) := rfl
      have g2 : (((⟨#[a, b, c]⟩ : ByteArray)[2]'(by rw [HS]; decide)).toNat : Int) = (c.toNat : Int) := rfl
      have n1 : ((a.toNat : Int) == 39) = (a == 39) := u1
      have n2 : ((c.toNat : Int) == 39) = (c == 39) := u2
      clear hsz h3 hl u1 u2 HB
      cases ha : (a == 39) with
      | false =>
        rw [ha] at n1
        have HQ := Lib.hid (q1.trans (by rw [ha]; rfl) : quotV [a, b, c] = false)
        clear n2 q1 ha
        go_wp2_with fail
        go_meet
        case rel => exact ⟨by rw [HQ.out], rfl⟩
      | true =>
        rw [ha] at n1
        cases hc : (c == 39) with
        | false =>
          rw [hc] at n2
          have HQ := Lib.hid (q1.trans (by rw [ha, hc]; rfl) : quotV [a, b, c] = false)
          clear q1 ha hc
          go_wp2_with fail
          go_meet
          case rel => exact ⟨by rw [HQ.out], rfl⟩
        | true =>
          rw [hc] at n2
          have HQ := Lib.hid (q1.trans (by rw [ha, hc]; rfl) : quotV [a, b, c] = true)
          clear q1 ha hc
          go_wp2_with fail
          go_meet
          case rel => exact ⟨by rw [HQ.out], rfl⟩
    · have q1 : quotV xs = false := by simp [quotV, h3]
      have HQ := Lib.hid q1
      have n3 : ((xs.length : Int) == 3) = false := by simp; omega
      clear h3 q1
      go_wp2_with fail
      go_meet
      case rel => exact ⟨by rw [HQ.out], rfl⟩
  case rest =>
    obtain ⟨rfl, rfl⟩ := hcut
    cases hq : quotV xs with
    | true =>
      have hq' := hq
      unfold quotV at hq'
      simp only [Bool.and_eq_true, decide_eq_true_eq] at hq'
      obtain ⟨a, b, c, rfl⟩ := three xs hq'.1.1
      have hv : numV [a, b, c] n = ((b.toNat : Int), true) := by unfold numV; rw [if_pos hq]; rfl
      have HV := Lib.hid hv
      have HS : (⟨#[a, b, c]⟩ : ByteArray).size = 3 := rfl
      have g1 : (((⟨#[a, b, c]⟩ : ByteArray)[1]'(by rw [HS]; decide)).toNat : Int) = (b.toNat : Int) := rfl
      have hb : wrap64 (b.toNat : Int) = (b.toNat : Int) := by have := b.toNat_lt; unfold wrap64; omega
      clear hq hq' hv HB hsz hl
      go_wp2_with fail
      go_ret2
      exact ⟨by rw [HV.out]; show Ending.returned (.tuple #[.int .i64 (wrap64 (b.toNat : Int)), .bool true]) = _; rw [hb], Below.refl _ _⟩
    | false =>
      have hv : numV xs n = wordV (markB (bsN n) xs) (minB (markT xs)) (minT (markT xs)) := by unfold numV; rw [if_neg (by rw [hq]; simp)]
      have HV := Lib.hid hv
      have hbr := bsN_range n
      have hmr := markB_range (bsN n) hbr.1 hbr.2 xs
      have hml : (minT (markT xs)).length ≤ 1000 := Nat.le_trans (minT_len _) (Nat.le_trans (markT_len _) hl)
      generalize bsN n = bb at *
      clear hv hq
      go_upto_if 29 with (refine HB.out.mono ?_; rintro e w2 ⟨rfl, rfl⟩)
      have bd : ∀ W : World, Below w2.heap.size w2 W → Below w2.heap.size w2 W.drew := fun W h => h.trans ⟨rfl, rfl, rfl, Nat.le_refl _, fun _ _ => rfl⟩
      go_cut [0, 1] from 10 (fun s0 s1 wd => s0 = St (markT xs) ∧ s1 = .int .i64 (markB bb xs : Int) ∧ Below w2.heap.size w2 wd)
      case first =>
        cases xs with
        | nil =>
          go_wp2_with fail
          go_meet
          case rel => exact ⟨rfl, rfl, Below.refl _ _⟩
        | cons c t =>
          have ne := st_ne c t
          have g0 : (((⟨(c :: t).toArray⟩ : ByteArray)[0]'(by rw [st_size]; simp)).toNat : Int) = (c.toNat : Int) := rfl
          have hcut := cut_any c t
          have u5 : ((c.toNat : Int) == 35) = (c == 35) := u8_eq c 35
          have u6 : ((c.toNat : Int) == 36) = (c == 36) := u8_eq c 36
          have u7 : ((c.toNat : Int) == 37) = (c == 37) := u8_eq c 37
          by_cases c5 : c = 35
          · have HM : Hid (markT (c :: t) = t ∧ markB bb (c :: t) = 10) := ⟨by simp [markT, c5], by simp [markB, c5]⟩
            rw [show (c == 35) = true by simp [c5]] at u5
            clear u6 u7 c5
            go_wp2_with fail
            go_region
            all_goals (go_wp2_with fail; go_meet)
            case rel => exact ⟨by rw [HM.out.1], by rw [HM.out.2]; rfl, bd _ (Below.refl _ _)⟩
          · rw [show (c == 35) = false by simp [c5]] at u5
            by_cases c6 : c = 36
            · have HM : Hid (markT (c :: t) = t ∧ markB bb (c :: t) = 16) := ⟨by simp [markT, c6], by simp [markB, c6]⟩
              rw [show (c == 36) = true by simp [c6]] at u6
              clear u7 c5 c6
              go_wp2_with fail
              go_region
              all_goals (go_wp2_with fail; go_meet)
              case rel => exact ⟨by rw [HM.out.1], by rw [HM.out.2]; rfl, bd _ (Below.refl _ _)⟩
            · rw [show (c == 36) = false by simp [c6]] at u6
              by_cases c7 : c = 37
              · have HM : Hid (markT (c :: t) = t ∧ markB bb (c :: t) = 2) := ⟨by simp [markT, c7], by simp [markB, c7]⟩
                rw [show (c == 37) = true by simp [c7]] at u7
                clear c5 c6 c7
                go_wp2_with fail
                go_region
                all_goals (go_wp2_with fail; go_meet)
                case rel => exact ⟨by rw [HM.out.1], by rw [HM.out.2]; rfl, bd _ (Below.refl _ _)⟩
              · have HM : Hid (markT (c :: t) = c :: t ∧ markB bb (c :: t) = bb) := ⟨by simp [markT, c5, c6, c7], by simp [markB, c5, c6, c7]⟩
                rw [show (c == 37) = false by simp [c7]] at u7
                clear c5 c6 c7
                go_wp2_with fail
                go_meet
                case rel => exact ⟨by rw [HM.out.1], by rw [HM.out.2], Below.refl _ _⟩
      case rest =>
        obtain ⟨rfl, rfl, hbd⟩ := hcut
        have HBD := Lib.hid hbd
        clear hbd HB hsz bd
        generalize markB bb xs = b at *
        generalize markT xs = ys at *
        go_upto_region 12 with fail
        go_cut [6] from 10 (fun s6 wd => s6 = .bool (minB ys) ∧ Below w2.heap.size w2 wd)
        case first =>
          cases ys with
          | nil =>
            go_wp2_with fail
            go_meet
            case rel => exact ⟨rfl, HBD.out⟩
          | cons c t =>
            have ne := st_ne c t
            have g0 : (((⟨(c :: t).toArray⟩ : ByteArray)[0]'(by rw [st_size]; simp)).toNat : Int) = (c.toNat : Int) := rfl
            have u5 : ((c.toNat : Int) == 45) = (c == 45) := u8_eq c 45
            have HM : Hid (minB (c :: t) = (c == 45)) := rfl
            go_wp2_with fail
            go_meet
            case rel => exact ⟨by rw [HM.out, ← u5], HBD.out⟩
        case rest =>
          obtain ⟨rfl, hbd⟩ := hcut
          have HBD2 := Lib.hid hbd
          clear hbd HBD
          generalize hmm : minB ys = mm at *
          go_upto_if 51 with fail
          go_cut [0] from 10 (fun s0 wd => s0 = St (minT ys) ∧ Below w2.heap.size w2 wd)
          case first =>
            cases ys with
            | nil =>
              have h0 : mm = false := hmm.symm
              subst h0
              go_wp2_with fail
              go_meet
              case rel => exact ⟨rfl, HBD2.out⟩
            | cons c t =>
              have hcut := cut_any c t
              by_cases c5 : c = 45
              · have h0 : mm = true := by rw [← hmm]; simp [minB, c5]
                have HM := Lib.hid (show minT (c :: t) = t by simp [minT, c5])
                clear c5 hmm
                subst h0
                go_wp2_with fail
                go_meet
                case rel => exact ⟨by rw [HM.out], HBD2.out⟩
              · have h0 : mm = false := by rw [← hmm]; simp [minB, c5]
                have HM := Lib.hid (show minT (c :: t) = c :: t by simp [minT, c5])
                clear c5 hmm
                subst h0
                go_wp2_with fail
                go_meet
                case rel => exact ⟨by rw [HM.out], HBD2.out⟩
          case rest =>
            obtain ⟨rfl, hbd⟩ := hcut
            have HST : Hid (DocRel b w2 (minT ys) (minT ys).length (.int .i64 0) (.int .i64 0) wc) := ⟨0, 0, by omega, by omega, by simp, by rw [show wrap64 ((0 : Nat) : Int) = 0 by unfold wrap64; rfl], rfl, hbd⟩
            clear hbd HBD2
            generalize minT ys = s at *
            clear hmm
            have hsz := st_size s
            go_wp2_with fail
            go_loopg [7, 8, 9] s.length (fun g n i _ wr => DocRel b w2 s g n i wr)
            case atStart => exact HST.out
            case round =>
              obtain ⟨pos, acc, rfl, hp, hs, rfl, rfl, hbd⟩ := hrel
              clear HST
              by_cases hlt : pos < s.length
              · have hd : s.drop pos = s[pos] :: s.drop (pos + 1) := List.drop_eq_getElem_cons hlt
                rw [hd, sumV] at hs
                have hwd : wordV b mm s = match (if worthV s[pos].toNat < b then sumV b (s.drop (pos + 1)) (acc * b + worthV s[pos].toNat) else none) with
                  | none => ((0 : Int), false)
                  | some n => if s = [] then (0, false) else (IntKind.i64.wrap (if mm then -(n : Int) else n), true) := by unfold wordV; rw [hs]; rfl
                have d0 : decide ((pos : Int) < (s.length : Int)) = true := by simp; omega
                have d0' : decide (pos < s.length) = true := by simp; omega
                have p0 : (0 : Int) ≤ pos := by omega
                have p1 : (pos : Int) < s.length := by omega
                have wp : IntKind.i64.wrap ((pos : Int) + 1) = (pos : Int) + 1 := by rw [wrap_i64]; omega
                have g0 : (((⟨s.toArray⟩ : ByteArray)[pos]'(by rw [hsz]; exact hlt)).toNat : Int) = (s[pos].toNat : Int) := rfl
                have HW := Lib.hid (fun W => worth_any s[pos].toNat s[pos].toNat_lt W)
                have hst := i64_step acc b (worthV s[pos].toNat)
                by_cases hw : worthV s[pos].toNat < b
                · rw [if_pos hw] at hs
                  have d1 : decide ((b : Int) ≤ (worthV s[pos].toNat : Int)) = false := by simp; omega
                  have d2 : decide (b ≤ worthV s[pos].toNat) = false := by simp; omega
                  have HR : Hid (DocRel b w2 s (s.length - (pos + 1)) (.int .i64 (wrap64 ((acc * b + worthV s[pos].toNat : Nat) : Int))) (.int .i64 ((pos : Int) + 1)) wr) := ⟨pos + 1, _, rfl, by omega, hs, rfl, by rw [Int.natCast_add]; rfl, hbd⟩
                  clear hwd hs hd hbd
                  generalize worthV s[pos].toNat = z at *
                  generalize acc * b + z = acc2 at *
                  have HST2 := Lib.hid hst
                  clear hst
                  go_wp2_with fail
                  refine (HW.out _).mono ?_
                  rintro e w3 ⟨rfl, rfl⟩
                  go_wp2_with fail
                  go_roundg (s.length - (pos + 1))
                  case rel =>
                    rw [HST2.out]
                    exact HR.out
                  case measure => omega
                · rw [if_neg hw] at hwd
                  have HE := Lib.hid (hwd : wordV b mm s = (0, false))
                  have d1 : decide ((b : Int) ≤ (worthV s[pos].toNat : Int)) = true := by simp; omega
                  have d2 : decide (b ≤ worthV s[pos].toNat) = true := by simp; omega
                  have HBD := Lib.hid hbd
                  clear hwd hs hd hbd hst
                  generalize worthV s[pos].toNat = z at *
                  go_wp2_with fail
                  refine (HW.out _).mono ?_
                  rintro e w3 ⟨rfl, rfl⟩
                  go_wp2_with fail
                  go_ret2
                  exact ⟨by rw [HV.out, HE.out]; rfl, HBD.out⟩
              · have hwd : wordV b mm s = if s = [] then (0, false) else (IntKind.i64.wrap (if mm then -(acc : Int) else acc), true) := by
                  unfold wordV
                  rw [hs, List.drop_eq_nil_of_le (by omega)]
                  rfl
                have d0 : decide ((pos : Int) < (s.length : Int)) = false := by simp; omega
                have d0' : decide (pos < s.length) = false := by simp; omega
                have HBD := Lib.hid hbd
                cases s with
                | nil =>
                  rw [if_pos rfl] at hwd
                  have h0 : acc = 0 := by
                    have : sumV b [] 0 = sumV b (List.drop pos []) acc := hs
                    rw [List.drop_nil] at this
                    simpa [sumV] using this.symm
                  have za : wrap64 (acc : Int) = 0 := by rw [h0]; unfold wrap64; rfl
                  have z1 : wrap64 0 = 0 := by unfold wrap64; rfl
                  have HE := Lib.hid hwd
                  have ZA := Lib.hid (And.intro za (show wrap64 (-wrap64 (acc : Int)) = 0 by rw [za]; exact z1))
                  clear za z1
                  clear hwd hs hbd h0
                  cases mm with
                  | true =>
                    go_wp2_with fail
                    go_ret2
                    exact ⟨by rw [HV.out, HE.out]; show Ending.returned (.tuple #[.int .i64 (wrap64 (-wrap64 (acc : Int))), .bool false]) = _; rw [ZA.out.2], HBD.out⟩
                  | false =>
                    go_wp2_with fail
                    go_ret2
                    exact ⟨by rw [HV.out, HE.out]; show Ending.returned (.tuple #[.int .i64 (wrap64 (acc : Int)), .bool false]) = _; rw [ZA.out.1], HBD.out⟩
                | cons c t =>
                  rw [if_neg (by simp)] at hwd
                  have ne := st_ne c t
                  have d1 : decide ((pos : Int) < (t.length : Int) + 1) = false := by simp only [List.length_cons] at hlt; simp; omega
                  have d2 : decide (pos < t.length + 1) = false := by simp only [List.length_cons] at hlt; simp; omega
                  clear hs hbd
                  cases mm with
                  | true =>
                    have hn : wrap64 (-wrap64 (acc : Int)) = IntKind.i64.wrap (-(acc : Int)) := by
                      rw [wrap64_eq, wrap64_eq, wrap_i64, wrap_i64, wrap_i64]
                      omega
                    have HE := Lib.hid (hwd.trans (by rw [if_pos rfl, ← hn]) : wordV b true (c :: t) = (wrap64 (-wrap64 (acc : Int)), true))
                    clear hwd hn
                    go_wp2_with fail
                    go_ret2
                    exact ⟨by rw [HV.out, HE.out]; rfl, HBD.out⟩
                  | false =>
                    have HE := Lib.hid (hwd.trans (by rw [if_neg (by simp), ← wrap64_eq]) : wordV b false (c :: t) = (wrap64 (acc : Int), true))
                    clear hwd
                    go_wp2_with fail
                    go_ret2
                    exact ⟨by rw [HV.out, HE.out]; rfl, HBD.out⟩
end Go.Proofs.Ytncignjfmcajgaa.Dgt
