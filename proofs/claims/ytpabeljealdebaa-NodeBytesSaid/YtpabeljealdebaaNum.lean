/-
  The contracts of le.Num, le.Cell and of the document's Num, Cell.
-/
import Derived.Test.YtpabeljealdebaaPure
import Derived.Laws.BitsAllLaws
namespace Go.Proofs.Ytpabeljealdebaa
open Go.RowKit

/-- The number that k bytes from a on make, the lowest ahead. -/
def num (xs : List UInt8) (a : Int) : Nat → Nat
  | 0 => 0
  | k + 1 => num xs a k ||| ((byt xs (a + k)).toNat <<< (8 * k))
theorem num_lt (xs : List UInt8) (a : Int) (k : Nat) : num xs a k < 2 ^ (8 * k) := by
  induction k with
  | zero => simp [num]
  | succ k ih =>
    refine Nat.or_lt_two_pow (Nat.lt_of_lt_of_le ih (Nat.pow_le_pow_right (by omega) (by omega))) ?_
    rw [Nat.shiftLeft_eq, show 8 * (k + 1) = 8 + 8 * k from by omega, Nat.pow_add]
    exact Nat.mul_lt_mul_of_pos_right (byt xs (a + k)).toNat_lt (Nat.two_pow_pos _)

theorem num_step (xs : List UInt8) (a : Int) (k : Nat) (hk : k < 8) :
    bits .or .u64 (num xs a k : Int) (IntKind.u64.wrap (IntKind.u64.wrap ((byt xs (a + k)).toNat : Int) * 2 ^ (8 * k))) = (num xs a (k + 1) : Int) := by
  have h1 := num_lt xs a k
  have h3 : (byt xs (a + k)).toNat * 2 ^ (8 * k) < 2 ^ (8 * (k + 1)) := by
    rw [show 8 * (k + 1) = 8 + 8 * k from by omega, Nat.pow_add]
    exact Nat.mul_lt_mul_of_pos_right (byt xs (a + k)).toNat_lt (Nat.two_pow_pos _)
  have h5 : (2 : Nat) ^ (8 * k) ≤ 2 ^ 64 := Nat.pow_le_pow_right (by omega) (by omega)
  have h6 : (2 : Nat) ^ (8 * (k + 1)) ≤ 2 ^ 64 := Nat.pow_le_pow_right (by omega) (by omega)
  have h2 : (byt xs (a + k)).toNat < 256 := (byt xs (a + k)).toNat_lt
  have e : IntKind.u64.wrap (IntKind.u64.wrap ((byt xs (a + k)).toNat : Int) * 2 ^ (8 * k)) = (((byt xs (a + k)).toNat * 2 ^ (8 * k) : Nat) : Int) := by
    rw [IntKind.wrap_u64, IntKind.wrap_u64, Int.emod_eq_of_lt (a := ((byt xs (a + k)).toNat : Int)) (by omega) (by omega)]
    rw [show ((byt xs (a + k)).toNat : Int) * 2 ^ (8 * k) = (((byt xs (a + k)).toNat * 2 ^ (8 * k) : Nat) : Int) from by simp]
    exact Int.emod_eq_of_lt (by omega) (by omega)
  rw [e, u64_or_nat _ _ (by omega) (by omega), num, Nat.shiftLeft_eq]

theorem num_skip (xs : List UInt8) (a : Int) (k : Nat) (h : byt xs (a + k) = 0) : num xs a (k + 1) = num xs a k := by
  simp [num, h]

set_option maxHeartbeats 400000 in
theorem leNum_any (A : Option Addr) (xs : List UInt8) (c : Nat) (a s : Int) (w : World) (hx : BR w w.heap.size A xs) (hl' : xs.length ≤ 1000000) (ha : -9223372036854775808 ≤ a) :
    Calls Try.prog 30 #[.slice A xs.length c, .int .i64 a, .int .i64 s] w fun e w' => e = .returned (.int .u64 (num xs a (clamp s 8).toNat)) ∧ w = w' := by
  have hr := clamp_range s 8 (by omega)
  generalize hm : clamp s 8 = m at *
  have HM := Lib.hid hm
  clear hm
  obtain ⟨m, rfl⟩ := Int.eq_ofNat_of_zero_le hr.1
  rw [Int.toNat_natCast]
  go_enter Try.func30, Try.ntmps30
  go_wp2_with (go_at_call 29; refine (within_any _ _ _).mono ?_; rintro e w' ⟨rfl, rfl⟩; rw [HM.out])
  go_loop [7, 8, 11] (fun n _ i => ∃ k : Nat, k ≤ m ∧ i = .int .i64 k ∧ n = .int .u64 (num xs a k)) (fun _ _ i => m - (intOf i).toNat)
  case atStart => exact ⟨0, Nat.zero_le _, rfl, rfl⟩
  case round =>
    obtain ⟨k, hk, rfl, rfl⟩ := hrel
    by_cases hlt : k < m
    · go_wp2_with (go_at_call 31; refine (byteOf_any _ _ _ _ _ _ hx hl' ha (by omega) (by omega)).mono ?_; rintro e w' ⟨rfl, rfl⟩)
      go_round
      case rel => exact ⟨k + 1, by omega, by go_num, by rw [num_step _ _ _ (by omega)]⟩
      case measure => simp [intOf]; omega
    · go_wp2
      go_ret
      exact ⟨ret_int (by rw [show m = k from by omega]), rfl⟩

set_option maxHeartbeats 400000 in
theorem refNum_any (A : Option Addr) (xs : List UInt8) (c : Nat) (a s : Int) (w : World) (hx : BR w w.heap.size A xs) (hl' : xs.length ≤ 1000000) (ha : -9223372036854775808 ≤ a) (ha' : a ≤ 9223372036854775807) :
    Calls Try.prog 24 #[.slice A xs.length c, .int .i64 a, .int .i64 s] w fun e w' => e = .returned (.int .u64 (num xs a (clamp s 8).toNat)) ∧ w = w' := by
  have hr := clamp_range s 8 (by omega)
  generalize hm : clamp s 8 = m at *
  unfold clamp at hm
  obtain ⟨m, rfl⟩ := Int.eq_ofNat_of_zero_le hr.1
  rw [Int.toNat_natCast]
  go_enter Try.func24, Try.ntmps24
  go_wp2
  all_goals
    clear hm
    go_loop [7, 8, 9] (fun n i _ => ∃ k : Nat, k ≤ m ∧ i = .int .i64 k ∧ n = .int .u64 (num xs a k)) (fun _ i _ => m - (intOf i).toNat)
    case atStart => exact ⟨0, Nat.zero_le _, rfl, rfl⟩
    case round =>
      obtain ⟨k, hk, rfl, rfl⟩ := hrel
      by_cases hlt : k < m
      · have HS := Lib.hid (num_step xs a k (by omega))
        by_cases hle : a ≤ xs.length
        · by_cases h0 : 0 ≤ a + k
          · by_cases h1 : a + k < xs.length
            · obtain ⟨ad, rfl, _, hc⟩ := hx.at_ (k := (a + k).toNat) (by omega)
              have he := byt_in xs (a + k) h0
              rw [← he] at hc
              clear he
              go_wp2
              go_round
              case rel => exact ⟨k + 1, by omega, by go_num, by rw [HS.out]⟩
              case measure => simp [intOf]; omega
            · have he := Lib.hid (byt_out xs (a + k) (by omega))
              go_wp2
              go_round
              case rel => exact ⟨k + 1, by omega, by go_num, by rw [num_skip _ _ _ he.out]⟩
              case measure => simp [intOf]; omega
          · have he := Lib.hid (byt_out xs (a + k) (by omega))
            go_wp2
            go_round
            case rel => exact ⟨k + 1, by omega, by go_num, by rw [num_skip _ _ _ he.out]⟩
            case measure => simp [intOf]; omega
        · have he := Lib.hid (byt_out xs (a + k) (by omega))
          go_wp2
          go_round
          case rel => exact ⟨k + 1, by omega, by go_num, by rw [num_skip _ _ _ he.out]⟩
          case measure => simp [intOf]; omega
      · go_wp2
        go_ret
        exact ⟨ret_int (by rw [show m = k from by omega]), rfl⟩
end Go.Proofs.Ytpabeljealdebaa
