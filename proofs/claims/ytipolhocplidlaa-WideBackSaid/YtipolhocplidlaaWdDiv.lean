/-
  WdDiv
-/
import Derived.Test.YtipolhocplidlaaWdLen
import Derived.Test.YtipolhocplidlaaWdDig
import Derived.BigQuiet
import Derived.Laws.BitsAllLaws
namespace Go.Proofs.Ytipolhocplidlaa.Wd
set_option linter.unusedSimpArgs false
set_option linter.unusedVariables false
open Go.RowKit

set_option maxRecDepth 100000 in
set_option maxHeartbeats 1000000 in
theorem div_low (lo y : Int) (hl : 0 ≤ lo ∧ lo < 18446744073709551616) (hy : 0 < y ∧ y < 18446744073709551616) (w : World) :
    Calls Try.prog 53 #[.int .u64 0, .int .u64 lo, .int .u64 y] w fun e w' => e = .returned (.tuple #[.int .u64 (lo / y), .int .u64 (lo % y)]) ∧ Below w.heap.size w w' := by
  have h1 : (y == 0) = false := by simp; omega
  have h2 : ¬ y = 0 := by omega
  have h3 : ¬ y ≤ 0 := by omega
  have d0 : 0 ≤ lo / y := Int.ediv_nonneg (by omega) (by omega)
  have d1 : lo / y ≤ lo := Int.ediv_le_self _ (by omega)
  go_enter Try.func53, Try.ntmps53
  go_wp2_with fail
  go_quiet (fail)
  go_wp2_with fail
  go_ret2
  exact ⟨rfl, below_drewN (Below.refl _ _) _⟩
/-- Div64's answer. -/
def DivOut (w : World) (q r : Nat) (e : Ending) (w' : World) : Prop := e = .returned (.tuple #[.int .u64 (q : Int), .int .u64 (r : Int)]) ∧ Below w.heap.size w w'
theorem tdivN (a b : Nat) : (a : Int).tdiv (b : Int) = ((a / b : Nat) : Int) := rfl
set_option maxHeartbeats 4000000 in
set_option maxRecDepth 100000 in
theorem div_core (hi lo y s Y y1 y0 U v L un0 : Nat) (h1 : ((y : Int) == 0) = false) (h2 : ¬ (y : Int) = 0) (h3 : ¬ (y : Int) ≤ hi) (h4 : ((hi : Int) == 0) = false) (h5 : ¬ (hi : Int) = 0)
    (eY : IntKind.u64.wrap ((y : Int) * 2 ^ s) = (Y : Int)) (e1 : (Y : Int) / 4294967296 = (y1 : Int)) (e0 : bits .and .u64 (Y : Int) 4294967295 = (y0 : Int))
    (eU : bits .or .u64 (IntKind.u64.wrap ((hi : Int) * 2 ^ s)) ((lo : Int) / 2 ^ (64 - s)) = (U : Int)) (eL : IntKind.u64.wrap ((lo : Int) * 2 ^ s) = (L : Int)) (ev : (L : Int) / 4294967296 = (v : Int)) (e00 : bits .and .u64 (L : Int) 4294967295 = (un0 : Int))
    (w : World) (cl : ∀ w, Calls Try.prog 57 #[.int .u64 (y : Int)] w fun e w' => e = .returned (.int .i64 (s : Int)) ∧ w' = w) (hs : (s : Int) ≤ 63)
    (hy10 : ¬ (y1 : Int) = 0) (bU : (U : Int) < 18446744073709551616) (by0 : (y0 : Int) < 4294967296) (by1 : (y1 : Int) < 4294967296) (bv : (v : Int) < 4294967296) (bun0 : (un0 : Int) < 4294967296)
    (q1 r1 qr : Nat) (hd : (U : Int).tdiv (y1 : Int) = (q1 : Int)) (hp : (q1 : Int) * (y1 : Int) = (qr : Int)) (hr : (U : Int) - (qr : Int) = (r1 : Int)) (bq : (q1 : Int) ≤ 4294967297) (br : (r1 : Int) < 4294967296)
    (d1 : Nat) (rel : Nat → Nat → Prop) (rel0 : rel q1 r1)
    (more : ∀ a b : Nat, rel a b → 4294967296 ≤ (a : Int) ∨ 4294967296 * (b : Int) + (v : Int) < (a : Int) * (y0 : Int) → 1 ≤ a ∧ rel (a - 1) (b + y1))
    (stop : ∀ a b : Nat, rel a b → (a : Int) < 4294967296 → (a : Int) * (y0 : Int) ≤ 4294967296 * (b : Int) + (v : Int) → a = d1) (brk : ∀ a b : Nat, rel a b → (a : Int) ≤ 4294967296 → 4294967296 ≤ (b : Int) → a = d1) (small : ∀ a b : Nat, rel a b → a ≤ 4294967297)
    (R : Nat) (t1 : IntKind.u64.wrap (IntKind.u64.wrap (IntKind.u64.wrap ((U : Int) * 4294967296) + (v : Int)) - IntKind.u64.wrap ((d1 : Int) * (Y : Int))) = (R : Int)) (bR : (R : Int) < 18446744073709551616)
    (q2 r2 qr2 : Nat) (hd2 : (R : Int).tdiv (y1 : Int) = (q2 : Int)) (hp2 : (q2 : Int) * (y1 : Int) = (qr2 : Int)) (hr2 : (R : Int) - (qr2 : Int) = (r2 : Int)) (bq2 : (q2 : Int) ≤ 4294967297) (br2 : (r2 : Int) < 4294967296)
    (d2 : Nat) (rel2 : Nat → Nat → Prop) (rel20 : rel2 q2 r2)
    (more2 : ∀ a b : Nat, rel2 a b → 4294967296 ≤ (a : Int) ∨ 4294967296 * (b : Int) + (un0 : Int) < (a : Int) * (y0 : Int) → 1 ≤ a ∧ rel2 (a - 1) (b + y1))
    (stop2 : ∀ a b : Nat, rel2 a b → (a : Int) < 4294967296 → (a : Int) * (y0 : Int) ≤ 4294967296 * (b : Int) + (un0 : Int) → a = d2) (brk2 : ∀ a b : Nat, rel2 a b → (a : Int) ≤ 4294967296 → 4294967296 ≤ (b : Int) → a = d2) (small2 : ∀ a b : Nat, rel2 a b → a ≤ 4294967297)
    (bd1 : (d1 : Int) < 4294967296) (bd2 : (d2 : Int) < 4294967296) (Q Z r : Nat) (t2 : IntKind.u64.wrap (IntKind.u64.wrap (IntKind.u64.wrap ((R : Int) * 4294967296) + (un0 : Int)) - IntKind.u64.wrap ((d2 : Int) * (Y : Int))) = (Z : Int)) (t3 : (Z : Int) / 2 ^ s = (r : Int)) (t4 : d1 * 4294967296 + d2 = Q) :
    Calls Try.prog 53 #[.int .u64 (hi : Int), .int .u64 (lo : Int), .int .u64 (y : Int)] w (DivOut w Q r) := by
  have CL := Lib.hid cl
  have MORE := Lib.hid more
  have STOP := Lib.hid stop
  have BRK := Lib.hid brk
  have SMALL := Lib.hid small
  have RZ := Lib.hid rel0
  have MORE2 := Lib.hid more2
  have STOP2 := Lib.hid stop2
  have BRK2 := Lib.hid brk2
  have SMALL2 := Lib.hid small2
  have RZ2 := Lib.hid rel20
  have T4 := Lib.hid t4
  have bqr : (qr : Int) ≤ (U : Int) := by omega
  have bqr2 : (qr2 : Int) ≤ (R : Int) := by omega
  clear cl more stop brk small more2 stop2 brk2 small2 rel0 rel20 t4
  go_enter Try.func53, Try.ntmps53
  go_wp2_with fail
  refine (CL.out w).mono ?_
  rintro e w1 ⟨rfl, rfl⟩
  go_wp2_with fail
  go_loop [15, 16] (fun q r => ∃ a b : Nat, q = .int .u64 (a : Int) ∧ r = .int .u64 (b : Int) ∧ rel a b ∧ (b : Int) < 4294967296) (fun q _ => (RowKit.intOf q).toNat)
  case atStart => exact ⟨q1, r1, rfl, rfl, RZ.out, by omega⟩
  case round =>
    obtain ⟨a, b, rfl, rfl, D, hb⟩ := hrel
    have hsm := SMALL.out a b D
    by_cases hA : 4294967296 ≤ (a : Int)
    · obtain ⟨ha1, D2⟩ := MORE.out a b D (.inl hA)
      by_cases hB : 4294967296 ≤ (b : Int) + (y1 : Int)
      · have hd1 := BRK.out _ _ D2 (by omega) (by omega)
        have ea1 : (a : Int) - 1 = (d1 : Int) := by omega
        clear D D2 hd1
        go_wp2_with fail
        go_loop [18, 16] (fun q r => ∃ a b : Nat, q = .int .u64 (a : Int) ∧ r = .int .u64 (b : Int) ∧ rel2 a b ∧ (b : Int) < 4294967296) (fun q _ => (RowKit.intOf q).toNat)
        case atStart => exact ⟨q2, r2, rfl, rfl, RZ2.out, by omega⟩
        case round =>
          obtain ⟨a2, b2, rfl, rfl, D, hb2⟩ := hrel
          have hsm := SMALL2.out a2 b2 D
          by_cases hA : 4294967296 ≤ (a2 : Int)
          · obtain ⟨ha1, D2⟩ := MORE2.out a2 b2 D (.inl hA)
            by_cases hB : 4294967296 ≤ (b2 : Int) + (y1 : Int)
            · have hd1 := BRK2.out _ _ D2 (by omega) (by omega)
              have ea1 : (a2 : Int) - 1 = (d2 : Int) := by omega
              clear D D2 hd1
              go_wp2_with fail
              rw [show (d1 : Int) * 4294967296 + (d2 : Int) = (Q : Int) from by rw [← T4.out]; rfl]
              go_ret2
              exact ⟨rfl, Below.refl _ _⟩
            · have REL := Lib.hid D2
              clear D D2
              go_wp2_with fail
              go_round
              case rel => exact ⟨a2 - 1, b2 + y1, by go_num, by go_num, REL.out, by omega⟩
              case measure => simp [RowKit.intOf]; omega
          · have hA2 : (a2 : Int) < 4294967296 := by omega
            have hP0 : 0 ≤ (a2 : Int) * (y0 : Int) := Int.mul_nonneg (by omega) (by omega)
            have hP1 : (a2 : Int) * (y0 : Int) ≤ 18446744065119617025 := by
              have h1 := Int.mul_le_mul_of_nonneg_right (show (a2 : Int) ≤ 4294967295 by omega) (show 0 ≤ (y0 : Int) by omega)
              omega
            by_cases hB0 : 4294967296 * (b2 : Int) + (un0 : Int) < (a2 : Int) * (y0 : Int)
            · obtain ⟨ha1, D2⟩ := MORE2.out a2 b2 D (.inr hB0)
              have ha2 : (1 : Int) ≤ (a2 : Int) := by omega
              clear ha1
              generalize hP : (a2 : Int) * (y0 : Int) = P at *
              by_cases hB : 4294967296 ≤ (b2 : Int) + (y1 : Int)
              · have hd1 := BRK2.out _ _ D2 (by omega) (by omega)
                have ea1 : (a2 : Int) - 1 = (d2 : Int) := by omega
                clear D D2 hd1
                go_wp2_with fail
                clear hP hP0 hP1 hB0
                rw [show (d1 : Int) * 4294967296 + (d2 : Int) = (Q : Int) from by rw [← T4.out]; rfl]
                go_ret2
                exact ⟨rfl, Below.refl _ _⟩
              · have REL := Lib.hid D2
                clear D D2 hsm hA2
                go_wp2_with fail
                go_round
                case rel => exact ⟨a2 - 1, b2 + y1, by go_num, by go_num, REL.out, by omega⟩
                case measure => simp [RowKit.intOf]; omega
            · have hd1 := STOP2.out _ _ D hA2 (by omega)
              have hB1 : (a2 : Int) * (y0 : Int) ≤ 4294967296 * (b2 : Int) + (un0 : Int) := by omega
              have ea1 : (a2 : Int) = (d2 : Int) := by omega
              rw [ea1] at hB1 hP0 hP1
              generalize hP : (d2 : Int) * (y0 : Int) = P at *
              have hB2 : ¬ (4294967296 * (b2 : Int) + (un0 : Int) < P) := by omega
              clear D hB0 hA2 hA hsm hd1 hB1
              have hA3 : decide (4294967296 ≤ (d2 : Int)) = false := by simp; omega
              go_wp2_with fail
              clear hP hP0 hP1
              rw [show (d1 : Int) * 4294967296 + (d2 : Int) = (Q : Int) from by rw [← T4.out]; rfl]
              go_ret2
              exact ⟨rfl, Below.refl _ _⟩
      · have REL := Lib.hid D2
        clear D D2
        go_wp2_with fail
        go_round
        case rel => exact ⟨a - 1, b + y1, by go_num, by go_num, REL.out, by omega⟩
        case measure => simp [RowKit.intOf]; omega
    · have hA2 : (a : Int) < 4294967296 := by omega
      have hP0 : 0 ≤ (a : Int) * (y0 : Int) := Int.mul_nonneg (by omega) (by omega)
      have hP1 : (a : Int) * (y0 : Int) ≤ 18446744065119617025 := by
        have h1 := Int.mul_le_mul_of_nonneg_right (show (a : Int) ≤ 4294967295 by omega) (show 0 ≤ (y0 : Int) by omega)
        omega
      by_cases hB0 : 4294967296 * (b : Int) + (v : Int) < (a : Int) * (y0 : Int)
      · obtain ⟨ha1, D2⟩ := MORE.out a b D (.inr hB0)
        have ha2 : (1 : Int) ≤ (a : Int) := by omega
        clear ha1
        generalize hP : (a : Int) * (y0 : Int) = P at *
        by_cases hB : 4294967296 ≤ (b : Int) + (y1 : Int)
        · have hd1 := BRK.out _ _ D2 (by omega) (by omega)
          have ea1 : (a : Int) - 1 = (d1 : Int) := by omega
          clear D D2 hd1
          go_wp2_with fail
          clear hP hP0 hP1 hB0
          go_loop [18, 16] (fun q r => ∃ a b : Nat, q = .int .u64 (a : Int) ∧ r = .int .u64 (b : Int) ∧ rel2 a b ∧ (b : Int) < 4294967296) (fun q _ => (RowKit.intOf q).toNat)
          case atStart => exact ⟨q2, r2, rfl, rfl, RZ2.out, by omega⟩
          case round =>
            obtain ⟨a2, b2, rfl, rfl, D, hb2⟩ := hrel
            have hsm := SMALL2.out a2 b2 D
            by_cases hA : 4294967296 ≤ (a2 : Int)
            · obtain ⟨ha1, D2⟩ := MORE2.out a2 b2 D (.inl hA)
              by_cases hB : 4294967296 ≤ (b2 : Int) + (y1 : Int)
              · have hd1 := BRK2.out _ _ D2 (by omega) (by omega)
                have ea1 : (a2 : Int) - 1 = (d2 : Int) := by omega
                clear D D2 hd1
                go_wp2_with fail
                rw [show (d1 : Int) * 4294967296 + (d2 : Int) = (Q : Int) from by rw [← T4.out]; rfl]
                go_ret2
                exact ⟨rfl, Below.refl _ _⟩
              · have REL := Lib.hid D2
                clear D D2
                go_wp2_with fail
                go_round
                case rel => exact ⟨a2 - 1, b2 + y1, by go_num, by go_num, REL.out, by omega⟩
                case measure => simp [RowKit.intOf]; omega
            · have hA2 : (a2 : Int) < 4294967296 := by omega
              have hP0 : 0 ≤ (a2 : Int) * (y0 : Int) := Int.mul_nonneg (by omega) (by omega)
              have hP1 : (a2 : Int) * (y0 : Int) ≤ 18446744065119617025 := by
                have h1 := Int.mul_le_mul_of_nonneg_right (show (a2 : Int) ≤ 4294967295 by omega) (show 0 ≤ (y0 : Int) by omega)
                omega
              by_cases hB0 : 4294967296 * (b2 : Int) + (un0 : Int) < (a2 : Int) * (y0 : Int)
              · obtain ⟨ha1, D2⟩ := MORE2.out a2 b2 D (.inr hB0)
                have ha2 : (1 : Int) ≤ (a2 : Int) := by omega
                clear ha1
                generalize hP : (a2 : Int) * (y0 : Int) = P at *
                by_cases hB : 4294967296 ≤ (b2 : Int) + (y1 : Int)
                · have hd1 := BRK2.out _ _ D2 (by omega) (by omega)
                  have ea1 : (a2 : Int) - 1 = (d2 : Int) := by omega
                  clear D D2 hd1
                  go_wp2_with fail
                  clear hP hP0 hP1 hB0
                  rw [show (d1 : Int) * 4294967296 + (d2 : Int) = (Q : Int) from by rw [← T4.out]; rfl]
                  go_ret2
                  exact ⟨rfl, Below.refl _ _⟩
                · have REL := Lib.hid D2
                  clear D D2 hsm hA2
                  go_wp2_with fail
                  go_round
                  case rel => exact ⟨a2 - 1, b2 + y1, by go_num, by go_num, REL.out, by omega⟩
                  case measure => simp [RowKit.intOf]; omega
              · have hd1 := STOP2.out _ _ D hA2 (by omega)
                have hB1 : (a2 : Int) * (y0 : Int) ≤ 4294967296 * (b2 : Int) + (un0 : Int) := by omega
                have ea1 : (a2 : Int) = (d2 : Int) := by omega
                rw [ea1] at hB1 hP0 hP1
                generalize hP : (d2 : Int) * (y0 : Int) = P at *
                have hB2 : ¬ (4294967296 * (b2 : Int) + (un0 : Int) < P) := by omega
                clear D hB0 hA2 hA hsm hd1 hB1
                have hA3 : decide (4294967296 ≤ (d2 : Int)) = false := by simp; omega
                go_wp2_with fail
                clear hP hP0 hP1
                rw [show (d1 : Int) * 4294967296 + (d2 : Int) = (Q : Int) from by rw [← T4.out]; rfl]
                go_ret2
                exact ⟨rfl, Below.refl _ _⟩
        · have REL := Lib.hid D2
          clear D D2 hsm hA2
          go_wp2_with fail
          go_round
          case rel => exact ⟨a - 1, b + y1, by go_num, by go_num, REL.out, by omega⟩
          case measure => simp [RowKit.intOf]; omega
      · have hd1 := STOP.out _ _ D hA2 (by omega)
        have hB1 : (a : Int) * (y0 : Int) ≤ 4294967296 * (b : Int) + (v : Int) := by omega
        have ea1 : (a : Int) = (d1 : Int) := by omega
        rw [ea1] at hB1 hP0 hP1
        generalize hP : (d1 : Int) * (y0 : Int) = P at *
        have hB2 : ¬ (4294967296 * (b : Int) + (v : Int) < P) := by omega
        clear D hB0 hA2 hA hsm hd1 hB1
        have hA3 : decide (4294967296 ≤ (d1 : Int)) = false := by simp; omega
        go_wp2_with fail
        clear hP hP0 hP1
        go_loop [18, 16] (fun q r => ∃ a b : Nat, q = .int .u64 (a : Int) ∧ r = .int .u64 (b : Int) ∧ rel2 a b ∧ (b : Int) < 4294967296) (fun q _ => (RowKit.intOf q).toNat)
        case atStart => exact ⟨q2, r2, rfl, rfl, RZ2.out, by omega⟩
        case round =>
          obtain ⟨a2, b2, rfl, rfl, D, hb2⟩ := hrel
          have hsm := SMALL2.out a2 b2 D
          by_cases hA : 4294967296 ≤ (a2 : Int)
          · obtain ⟨ha1, D2⟩ := MORE2.out a2 b2 D (.inl hA)
            by_cases hB : 4294967296 ≤ (b2 : Int) + (y1 : Int)
            · have hd1 := BRK2.out _ _ D2 (by omega) (by omega)
              have ea1 : (a2 : Int) - 1 = (d2 : Int) := by omega
              clear D D2 hd1
              go_wp2_with fail
              rw [show (d1 : Int) * 4294967296 + (d2 : Int) = (Q : Int) from by rw [← T4.out]; rfl]
              go_ret2
              exact ⟨rfl, Below.refl _ _⟩
            · have REL := Lib.hid D2
              clear D D2
              go_wp2_with fail
              go_round
              case rel => exact ⟨a2 - 1, b2 + y1, by go_num, by go_num, REL.out, by omega⟩
              case measure => simp [RowKit.intOf]; omega
          · have hA2 : (a2 : Int) < 4294967296 := by omega
            have hP0 : 0 ≤ (a2 : Int) * (y0 : Int) := Int.mul_nonneg (by omega) (by omega)
            have hP1 : (a2 : Int) * (y0 : Int) ≤ 18446744065119617025 := by
              have h1 := Int.mul_le_mul_of_nonneg_right (show (a2 : Int) ≤ 4294967295 by omega) (show 0 ≤ (y0 : Int) by omega)
              omega
            by_cases hB0 : 4294967296 * (b2 : Int) + (un0 : Int) < (a2 : Int) * (y0 : Int)
            · obtain ⟨ha1, D2⟩ := MORE2.out a2 b2 D (.inr hB0)
              have ha2 : (1 : Int) ≤ (a2 : Int) := by omega
              clear ha1
              generalize hP : (a2 : Int) * (y0 : Int) = P at *
              by_cases hB : 4294967296 ≤ (b2 : Int) + (y1 : Int)
              · have hd1 := BRK2.out _ _ D2 (by omega) (by omega)
                have ea1 : (a2 : Int) - 1 = (d2 : Int) := by omega
                clear D D2 hd1
                go_wp2_with fail
                clear hP hP0 hP1 hB0
                rw [show (d1 : Int) * 4294967296 + (d2 : Int) = (Q : Int) from by rw [← T4.out]; rfl]
                go_ret2
                exact ⟨rfl, Below.refl _ _⟩
              · have REL := Lib.hid D2
                clear D D2 hsm hA2
                go_wp2_with fail
                go_round
                case rel => exact ⟨a2 - 1, b2 + y1, by go_num, by go_num, REL.out, by omega⟩
                case measure => simp [RowKit.intOf]; omega
            · have hd1 := STOP2.out _ _ D hA2 (by omega)
              have hB1 : (a2 : Int) * (y0 : Int) ≤ 4294967296 * (b2 : Int) + (un0 : Int) := by omega
              have ea1 : (a2 : Int) = (d2 : Int) := by omega
              rw [ea1] at hB1 hP0 hP1
              generalize hP : (d2 : Int) * (y0 : Int) = P at *
              have hB2 : ¬ (4294967296 * (b2 : Int) + (un0 : Int) < P) := by omega
              clear D hB0 hA2 hA hsm hd1 hB1
              have hA3 : decide (4294967296 ≤ (d2 : Int)) = false := by simp; omega
              go_wp2_with fail
              clear hP hP0 hP1
              rw [show (d1 : Int) * 4294967296 + (d2 : Int) = (Q : Int) from by rw [← T4.out]; rfl]
              go_ret2
              exact ⟨rfl, Below.refl _ _⟩
theorem lz_is (y : Nat) (h0 : 0 < y) (h : y < 18446744073709551616) : ∃ s : Nat, s ≤ 63 ∧ 9223372036854775808 ≤ y * 2 ^ s ∧ y * 2 ^ s < 18446744073709551616 := by
  have h1 := Nat.log2_self_le (n := y) (by omega)
  have h2 := Nat.lt_log2_self (n := y)
  have h3 : y.log2 < 64 := (Nat.log2_lt (by omega)).2 h
  have e1 : 2 ^ y.log2 * 2 ^ (63 - y.log2) = 9223372036854775808 := by rw [← Nat.pow_add, show y.log2 + (63 - y.log2) = 63 from by omega]
  have e2 : 2 ^ (y.log2 + 1) * 2 ^ (63 - y.log2) = 18446744073709551616 := by rw [← Nat.pow_add, show y.log2 + 1 + (63 - y.log2) = 64 from by omega]
  have hp := Nat.two_pow_pos (63 - y.log2)
  have e3 := Nat.mul_le_mul_right (2 ^ (63 - y.log2)) h1
  have e4 := Nat.mul_lt_mul_of_pos_right h2 hp
  exact ⟨63 - y.log2, by omega, by omega, by omega⟩
theorem lz_one (y s t : Nat) (h1 : 9223372036854775808 ≤ y * 2 ^ s) (h2 : y * 2 ^ s < 18446744073709551616) (h3 : 9223372036854775808 ≤ y * 2 ^ t) (h4 : y * 2 ^ t < 18446744073709551616) : s = t := by
  have key : ∀ a b : Nat, a < b → 9223372036854775808 ≤ y * 2 ^ a → 18446744073709551616 ≤ y * 2 ^ b := fun a b hab ha => by
    have e : y * 2 ^ b = y * 2 ^ a * 2 ^ (b - a) := by rw [Nat.mul_assoc, ← Nat.pow_add, show a + (b - a) = b from by omega]
    have h5 : 2 ^ 1 ≤ 2 ^ (b - a) := Nat.pow_le_pow_right (by omega) (by omega)
    rw [e]
    have := Nat.mul_le_mul ha h5
    omega
  rcases Nat.lt_trichotomy s t with h | h | h
  · have := key s t h h1; omega
  · exact h
  · have := key t s h h3; omega
/-- The shifted number's halves. -/
theorem shift_halves (hi lo s : Nat) (hl : lo < 18446744073709551616) (hs : s ≤ 63) (hh : hi * 2 ^ s < 18446744073709551616) :
    (hi * 18446744073709551616 + lo) * 2 ^ s = (hi * 2 ^ s + lo / 2 ^ (64 - s)) * 18446744073709551616 + lo * 2 ^ s % 18446744073709551616 ∧ lo / 2 ^ (64 - s) < 2 ^ s ∧ hi * 2 ^ s ||| lo / 2 ^ (64 - s) = hi * 2 ^ s + lo / 2 ^ (64 - s) := by
  have e64 : 2 ^ (64 - s) * 2 ^ s = 18446744073709551616 := by rw [← Nat.pow_add, show 64 - s + s = 64 from by omega]
  have h1 : lo / 2 ^ (64 - s) < 2 ^ s := by
    rw [Nat.div_lt_iff_lt_mul (Nat.two_pow_pos _), Nat.mul_comm, e64]
    exact hl
  have h2 : lo * 2 ^ s / 18446744073709551616 = lo / 2 ^ (64 - s) := by rw [← e64]; exact Nat.mul_div_mul_right _ _ (Nat.two_pow_pos s)
  refine ⟨?_, h1, ?_⟩
  · rw [← h2, Nat.add_mul]
    have := Nat.div_add_mod (lo * 2 ^ s) 18446744073709551616
    have e : hi * 18446744073709551616 * 2 ^ s = hi * 2 ^ s * 18446744073709551616 := by rw [Nat.mul_right_comm]
    omega
  · have := Nat.shiftLeft_add_eq_or_of_lt h1 hi
    rw [Nat.shiftLeft_eq] at this
    exact this.symm
theorem low32N (x : Nat) (h1 : x < 18446744073709551616) : bits .and .u64 (x : Int) 4294967295 = ((x % 4294967296 : Nat) : Int) := by
  rw [low32 _ (by omega) (by omega)]
  omega
theorem wrapU (x : Int) : IntKind.u64.wrap x = x % 18446744073709551616 := IntKind.wrap_u64 x
theorem dg_more {U v y1 y0 Y : Nat} (hY : Y = y1 * 4294967296 + y0) (hy : 2147483648 ≤ y1) (hU : U < Y) (hv : v < 4294967296) : ∀ a b : Nat, Dg U v y1 y0 a b → 4294967296 ≤ (a : Int) ∨ 4294967296 * (b : Int) + (v : Int) < (a : Int) * (y0 : Int) → 1 ≤ a ∧ Dg U v y1 y0 (a - 1) (b + y1) := fun a b d h => d.more hy (by omega) hv (by
  have e : ((a * y0 : Nat) : Int) = (a : Int) * (y0 : Int) := Int.natCast_mul _ _
  rw [← e] at h
  omega)
theorem dg_stop {U v y1 y0 d : Nat} (hy : 2147483648 ≤ y1) (hd : dig U v y1 y0 = d) : ∀ a b : Nat, Dg U v y1 y0 a b → (a : Int) < 4294967296 → (a : Int) * (y0 : Int) ≤ 4294967296 * (b : Int) + (v : Int) → a = d := fun a b D _ h => by
  have e : ((a * y0 : Nat) : Int) = (a : Int) * (y0 : Int) := Int.natCast_mul _ _
  rw [← e] at h
  rw [← hd]
  exact D.stop hy (by omega)
theorem dg_brk {U v y1 y0 d : Nat} (hy : 2147483648 ≤ y1) (hy0 : y0 < 4294967296) (hd : dig U v y1 y0 = d) : ∀ a b : Nat, Dg U v y1 y0 a b → (a : Int) ≤ 4294967296 → 4294967296 ≤ (b : Int) → a = d := fun a b D h1 h2 => by
  rw [← hd]
  exact D.brk hy hy0 (by omega) (by omega)
theorem first_facts (U y1 : Nat) (hy : 2147483648 ≤ y1) (hy' : y1 < 4294967296) : (((U / y1 : Nat) : Int) * (y1 : Int) = ((U / y1 * y1 : Nat) : Int)) ∧ (U : Int) - ((U / y1 * y1 : Nat) : Int) = ((U - U / y1 * y1 : Nat) : Int) ∧ ((U - U / y1 * y1 : Nat) : Int) < 4294967296 := by
  have h1 := Nat.div_mul_le_self U y1
  have h2 := first_lt (U := U) hy
  exact ⟨(Int.natCast_mul _ _).symm, by omega, by omega⟩
theorem sub_step (n p R : Nat) (h : p ≤ n) (e : n - p = R) (hR : R < 18446744073709551616) (U v : Int) (hn : (n : Int) = U * 4294967296 + v) (P : Int) (hp : (p : Int) = P) :
    ((U * 4294967296 % 18446744073709551616 + v) % 18446744073709551616 - P % 18446744073709551616) % 18446744073709551616 = (R : Int) := by omega
theorem join_low (U L N : Nat) (hN : N = U * 4294967296 + L / 4294967296) : N * 4294967296 + L % 4294967296 = U * 18446744073709551616 + L := by omega
theorem div_high (hi lo y : Nat) (hl : lo < 18446744073709551616) (hy : y < 18446744073709551616) (hh : hi < y) (h0 : hi ≠ 0) (w : World) :
    Calls Try.prog 53 #[.int .u64 (hi : Int), .int .u64 (lo : Int), .int .u64 (y : Int)] w (DivOut w ((hi * 18446744073709551616 + lo) / y) ((hi * 18446744073709551616 + lo) % y)) := by
  obtain ⟨s, hs, hlo, hhi⟩ := lz_is y (by omega) hy
  have cl : ∀ w, Calls Try.prog 57 #[.int .u64 (y : Int)] w fun e w' => e = .returned (.int .i64 (s : Int)) ∧ w' = w := fun w => (lz64_any y hy (by omega) w).mono fun e w' h => by
    obtain ⟨⟨t, rfl, _, h3, h4⟩, h5⟩ := h
    rw [lz_one y s t hlo hhi h3 h4]
    exact ⟨rfl, h5⟩
  have h2s := Nat.two_pow_pos s
  have hmul : hi * 2 ^ s < y * 2 ^ s := Nat.mul_lt_mul_of_pos_right hh h2s
  obtain ⟨eN, hlt, hor⟩ := shift_halves hi lo s hl hs (by omega)
  have hmul2 : (hi + 1) * 2 ^ s ≤ y * 2 ^ s := Nat.mul_le_mul_right _ hh
  rw [Nat.add_mul, Nat.one_mul] at hmul2
  obtain ⟨sh1, sh2⟩ := shifted (hi * 18446744073709551616 + lo) y s
  have p2 : ((2 : Int) ^ s) = ((2 ^ s : Nat) : Int) := by simp
  have p3 : ((2 : Int) ^ (64 - s)) = ((2 ^ (64 - s) : Nat) : Int) := by simp
  rw [← sh1, ← sh2, eN]
  have eY : IntKind.u64.wrap ((y : Int) * 2 ^ s) = ((y * 2 ^ s : Nat) : Int) := by
    rw [p2, ← Int.natCast_mul, wrapU]
    omega
  have eL : IntKind.u64.wrap ((lo : Int) * 2 ^ s) = ((lo * 2 ^ s % 18446744073709551616 : Nat) : Int) := by
    rw [p2, ← Int.natCast_mul, wrapU]
    omega
  have eU : bits .or .u64 (IntKind.u64.wrap ((hi : Int) * 2 ^ s)) ((lo : Int) / 2 ^ (64 - s)) = ((hi * 2 ^ s + lo / 2 ^ (64 - s) : Nat) : Int) := by
    rw [p2, p3, ← Int.natCast_mul, wrapU, ← Int.natCast_ediv, show ((hi * 2 ^ s : Nat) : Int) % 18446744073709551616 = ((hi * 2 ^ s : Nat) : Int) from by omega, u64_or_nat _ _ (by omega) (by omega), hor]
  generalize hYn : y * 2 ^ s = Y at *
  generalize hUn : hi * 2 ^ s + lo / 2 ^ (64 - s) = U at *
  generalize hLn : lo * 2 ^ s % 18446744073709551616 = L at *
  have hL : L < 18446744073709551616 := by omega
  have hUY : U < Y := by omega
  obtain ⟨N, hN⟩ : ∃ N, N = U * 4294967296 + L / 4294967296 := ⟨_, rfl⟩
  obtain ⟨t1, t2, t3, t4, t5, t6⟩ := two_digits N Y (Y / 4294967296) (Y % 4294967296) (L % 4294967296) U (L / 4294967296) hN (by omega) (by omega)
  rw [join_low U L N hN] at t4 t6
  obtain ⟨R, hR⟩ : ∃ R, R = N % Y := ⟨_, rfl⟩
  rw [← hR] at t2 t3 t4 t5 t6
  obtain ⟨f1, f2, f3⟩ := first_facts U (Y / 4294967296) (by omega) (by omega)
  obtain ⟨g1, g2, g3⟩ := first_facts R (Y / 4294967296) (by omega) (by omega)
  have D1 := Dg.first (U := U) (v := L / 4294967296) (y1 := Y / 4294967296) (y0 := Y % 4294967296) (by omega) (by omega) (by omega) (by omega) (by omega)
  have D2 := Dg.first (U := R) (v := L % 4294967296) (y1 := Y / 4294967296) (y0 := Y % 4294967296) (by omega) (by omega) (by omega) (by omega) (by omega)
  have l1 := dig_lt (U := U) (v := L / 4294967296) (y1 := Y / 4294967296) (y0 := Y % 4294967296) (by omega) (by omega)
  have l2 := dig_lt (U := R) (v := L % 4294967296) (y1 := Y / 4294967296) (y0 := Y % 4294967296) (by omega) (by omega)
  generalize hd1 : dig U (L / 4294967296) (Y / 4294967296) (Y % 4294967296) = d1 at *
  generalize hd2 : dig R (L % 4294967296) (Y / 4294967296) (Y % 4294967296) = d2 at *
  have c1 : ((d1 * Y : Nat) : Int) = (d1 : Int) * (Y : Int) := Int.natCast_mul _ _
  have c2 : ((d2 * Y : Nat) : Int) = (d2 : Int) * (Y : Int) := Int.natCast_mul _ _
  have s1 := D1.small
  have s2 := D2.small
  refine div_core hi lo y s Y (Y / 4294967296) (Y % 4294967296) U (L / 4294967296) L (L % 4294967296) (by simp; omega) (by omega) (by omega) (by simp; omega) (by omega)
    eY (by omega) (low32N Y (by omega)) eU eL (by omega) (low32N L hL) w cl (by omega) (by omega) (by omega) (by omega) (by omega) (by omega) (by omega)
    (U / (Y / 4294967296)) (U - U / (Y / 4294967296) * (Y / 4294967296)) (U / (Y / 4294967296) * (Y / 4294967296)) rfl f1 f2 (by omega) f3 d1 (Dg U (L / 4294967296) (Y / 4294967296) (Y % 4294967296)) D1
    (dg_more (by omega) (by omega) hUY (by omega)) (dg_stop (by omega) hd1) (dg_brk (by omega) (by omega) hd1) (fun a b d => d.small)
    R ?_ (by omega)
    (R / (Y / 4294967296)) (R - R / (Y / 4294967296) * (Y / 4294967296)) (R / (Y / 4294967296) * (Y / 4294967296)) rfl g1 g2 (by omega) g3 d2 (Dg R (L % 4294967296) (Y / 4294967296) (Y % 4294967296)) D2
    (dg_more (by omega) (by omega) t3 (by omega)) (dg_stop (by omega) hd2) (dg_brk (by omega) (by omega) hd2) (fun a b d => d.small)
    (by omega) (by omega) _ ((U * 18446744073709551616 + L) % Y) _ ?_ ?_ t4
  · rw [wrapU, wrapU, wrapU, wrapU]
    exact sub_step _ _ R t1 t2 (by omega) _ _ (by omega) _ c1
  · rw [wrapU, wrapU, wrapU, wrapU]
    exact sub_step _ _ _ t5 t6 (Nat.lt_of_lt_of_le (Nat.mod_lt _ (by omega)) (by omega)) _ _ (by omega) _ c2
  · rw [p2, ← Int.natCast_ediv]
/-- Div64 at halves: quotient and rest. -/
theorem div64_any (hi lo y : Int) (hh : 0 ≤ hi) (hl : 0 ≤ lo ∧ lo < 18446744073709551616) (hy : y < 18446744073709551616) (h : hi < y) (w : World) :
    Calls Try.prog 53 #[.int .u64 hi, .int .u64 lo, .int .u64 y] w fun e w' => e = .returned (.tuple #[.int .u64 ((hi * 18446744073709551616 + lo) / y), .int .u64 ((hi * 18446744073709551616 + lo) % y)]) ∧ Below w.heap.size w w' := by
  by_cases h0 : hi = 0
  · subst h0
    rw [Int.zero_mul, Int.zero_add]
    exact div_low lo y hl ⟨h, hy⟩ w
  · obtain ⟨a, rfl⟩ := Int.eq_ofNat_of_zero_le hh
    obtain ⟨b, rfl⟩ := Int.eq_ofNat_of_zero_le hl.1
    obtain ⟨c, rfl⟩ := Int.eq_ofNat_of_zero_le (show 0 ≤ y by omega)
    exact div_high a b c (by omega) (by omega) (by omega) (by omega) w
end Go.Proofs.Ytipolhocplidlaa.Wd
