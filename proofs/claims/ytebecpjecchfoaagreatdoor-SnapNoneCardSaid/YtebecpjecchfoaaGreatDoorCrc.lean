/-
  Crc
-/
import Derived.Test.YtebecpjecchfoaaGreatDoorGB
import Derived.Laws.BitsAllLaws
namespace Go.Proofs.YtebecpjecchfoaaGreatDoor
open Go.RowKit

/-- One shift of the register. -/
def crc1 (c : Nat) : Nat := if c % 2 = 1 then (c / 2) ^^^ 3988292384 else c / 2
/-- k shifts. -/
def crcN (c : Nat) : Nat → Nat
  | 0 => c
  | k + 1 => crc1 (crcN c k)
/-- The register behind bytes. -/
def crcL (c : Nat) : List UInt8 → Nat
  | [] => c
  | x :: xs => crcL (crcN (c ^^^ x.toNat) 8) xs
theorem crcL_snoc (c : Nat) (xs : List UInt8) (x : UInt8) : crcL c (xs ++ [x]) = crcN (crcL c xs ^^^ x.toNat) 8 := by
  induction xs generalizing c with
  | nil => rfl
  | cons y ys ih => exact ih _
theorem crc1_lt (c : Nat) (h : c < 4294967296) : crc1 c < 4294967296 := by
  unfold crc1
  split
  · exact Nat.xor_lt_two_pow (n := 32) (by omega) (by omega)
  · omega
theorem crcN_lt (c k : Nat) (h : c < 4294967296) : crcN c k < 4294967296 := by
  induction k with
  | zero => exact h
  | succ k ih => exact crc1_lt _ ih
theorem xor8_lt (c : Nat) (x : UInt8) (h : c < 4294967296) : c ^^^ x.toNat < 4294967296 :=
  Nat.xor_lt_two_pow (n := 32) (by omega) (by have := x.toNat_lt; omega)
theorem crcL_lt (c : Nat) (xs : List UInt8) (h : c < 4294967296) : crcL c xs < 4294967296 := by
  induction xs generalizing c with
  | nil => exact h
  | cons y ys ih => exact ih _ (crcN_lt _ _ (xor8_lt _ _ h))

theorem and_one (x : Nat) (hx : x < 4294967296) : bits .and .u32 (x : Int) 1 = ((x % 2 : Nat) : Int) := by
  rw [show (1 : Int) = ((1 : Nat) : Int) from rfl, u32_and_nat x 1 hx (by omega), Nat.and_one_is_mod]
theorem crc_yes (x : Nat) (hx : x < 4294967296) (h : (bits .and .u32 (x : Int) 1 == 1) = true) : bits .xor .u32 ((x : Int) / 2) 3988292384 = (crc1 x : Int) := by
  rw [and_one x hx, beq_iff_eq] at h
  rw [show ((x : Int) / 2) = ((x / 2 : Nat) : Int) from by omega, show (3988292384 : Int) = ((3988292384 : Nat) : Int) from rfl, u32_xor_nat _ _ (by omega) (by omega)]
  rw [crc1, if_pos (by omega)]
theorem crc_no (x : Nat) (hx : x < 4294967296) (h : (bits .and .u32 (x : Int) 1 == 1) = false) : ((x : Int) / 2) = (crc1 x : Int) := by
  rw [and_one x hx, beq_eq_false_iff_ne] at h
  rw [crc1, if_neg (by omega)]
  omega
theorem xor_byte (c : Nat) (x : UInt8) (h : c < 4294967296) : bits .xor .u32 (c : Int) (x.toNat : Int) = ((c ^^^ x.toNat : Nat) : Int) :=
  u32_xor_nat _ _ h (by have := x.toNat_lt; omega)

set_option maxRecDepth 100000 in
set_option maxHeartbeats 400000 in
theorem crcByte_any (c : Nat) (w : World) (hc : c < 4294967296) :
    Calls Tryz.prog 193 #[.int .u32 c] w fun e w' => e = .returned (.int .u32 (crcN c 8)) ∧ w = w' := by
  go_enter Tryz.func193, Tryz.ntmps193
  go_wp2
  go_loop [0, 3, 4] (fun s _ i => ∃ k : Nat, k ≤ 8 ∧ i = .int .i64 k ∧ s = .int .u32 (crcN c k)) (fun _ _ i => 8 - (intOf i).toNat)
  case atStart => exact ⟨0, by omega, rfl, rfl⟩
  case round =>
    obtain ⟨k, hk, rfl, rfl⟩ := hrel
    by_cases hlt : k < 8
    · have hb := crcN_lt c k hc
      have HS : Hid (crcN c (k + 1) = crc1 (crcN c k)) := rfl
      generalize crcN c k = x at *
      go_wp2
      all_goals
        go_round
        case rel => exact ⟨k + 1, by omega, by go_num, by rw [HS.out]; first | rw [crc_yes x hb ‹_›] | rw [crc_no x hb ‹_›]⟩
        case measure => simp [intOf]; omega
    · go_wp2
      go_ret
      exact ⟨ret_int (by rw [show k = 8 from by omega]), rfl⟩

theorem take_snoc (xs : List UInt8) (k : Nat) (h : k < xs.length) : xs.take (k + 1) = xs.take k ++ [xs.getD k 0] := by
  rw [List.take_succ_eq_append_getElem h]; simp [List.getD_eq_getElem?_getD, List.getElem?_eq_getElem h]

/-- The sum. -/
def crcOf (xs : List UInt8) : Nat := 4294967295 ^^^ crcL 4294967295 xs
theorem not32 (x : Nat) (h : x < 4294967296) : bits .xor .u32 IntKind.u32.max (x : Int) = ((4294967295 ^^^ x : Nat) : Int) := by
  rw [show IntKind.u32.max = ((4294967295 : Nat) : Int) from rfl]
  exact u32_xor_nat _ _ (by omega) h

set_option maxRecDepth 100000 in
set_option maxHeartbeats 400000 in
theorem leCrc_any (A : Option Addr) (xs : List UInt8) (c : Nat) (w : World) (hx : BR w w.heap.size A xs) (hl' : xs.length ≤ 1000000) :
    Calls Tryz.prog 161 #[.slice A xs.length c] w fun e w' => e = .returned (.int .u32 (crcOf xs)) ∧ w = w' := by
  go_enter Tryz.func161, Tryz.ntmps161
  go_wp2
  go_loop [3, 4, 7] (fun s _ i => ∃ k : Nat, k ≤ xs.length ∧ i = .int .i64 k ∧ s = .int .u32 (crcL 4294967295 (xs.take k))) (fun _ _ i => xs.length - (intOf i).toNat)
  case atStart => exact ⟨0, by omega, rfl, rfl⟩
  case round =>
    obtain ⟨k, hk, rfl, rfl⟩ := hrel
    have hb := crcL_lt 4294967295 (xs.take k) (by omega)
    by_cases hlt : k < xs.length
    · obtain ⟨ad, rfl, _, hc⟩ := hx.at_ hlt
      have HS := Lib.hid (crcL_snoc 4294967295 (xs.take k) (xs.getD k 0))
      rw [← take_snoc xs k hlt] at HS
      generalize crcL 4294967295 (xs.take k) = x at *
      generalize xs.getD k 0 = u at *
      have hu := u.toNat_lt
      go_wp2_with fail
      rw [xor_byte x u hb]
      refine (crcByte_any _ _ (xor8_lt _ _ hb)).mono ?_
      rintro e w' ⟨rfl, rfl⟩
      go_wp2
      go_round
      case rel => exact ⟨k + 1, by omega, by go_num, by rw [HS.out]⟩
      case measure => simp [intOf]; omega
    · have HK : Hid (xs.take k = xs) := List.take_of_length_le (by omega)
      go_wp2
      go_ret
      exact ⟨ret_int (by rw [HK.out, not32 _ (crcL_lt _ _ (by omega))]; rfl), rfl⟩

/-- The same, the length being said otherwise. -/
theorem leCrc_len (A : Option Addr) (xs : List UInt8) (c n : Nat) (w : World) (hx : BR w w.heap.size A xs) (hl' : xs.length ≤ 1000000) (hn : xs.length = n) :
    Calls Tryz.prog 161 #[.slice A n c] w fun e w' => e = .returned (.int .u32 (crcOf xs)) ∧ w = w' := by
  subst hn
  exact leCrc_any A xs c w hx hl'
end Go.Proofs.YtebecpjecchfoaaGreatDoor
