/-
  The contract of the document's PutNum.
-/
import Derived.Test.YtpabeljealdebaaPut
import Derived.Test.YtpabeljealdebaaApp
namespace Go.Proofs.Ytpabeljealdebaa
open Go.RowKit

theorem givesB_br {w w' : World} {R : Option Addr} {zs : List UInt8} {n c : Nat} (hn : zs.length = n) (h : BR w' w'.heap.size R zs) (hb : Below w.heap.size w w') :
    GivesB w zs (.returned (.slice R n c)) w' := by
  subst hn
  exact ⟨_, _, rfl, h, hb⟩

theorem givesC_br {w w' : World} {R : Option Addr} {zs : List UInt8} {n c : Nat} (hn : zs.length = n) (h : BR w' w'.heap.size R zs) (hb : Below w.heap.size w w') (hc : n ≤ c) :
    GivesC w zs (.returned (.slice R n c)) w' := by
  subst hn
  exact ⟨_, _, rfl, h, hb, hc⟩

set_option maxHeartbeats 1000000 in
theorem refPutNum_cap (A : Option Addr) (xs : List UInt8) (c : Nat) (a s : Int) (n : Nat) (w : World) (hx : BR w w.heap.size A xs) (hl : xs.length ≤ 1000000) (ha : -9223372036854775808 ≤ a) (ha' : a ≤ 9223372036854775807) :
    Calls Try.prog 22 #[.slice A xs.length c, .int .i64 a, .int .i64 s, .int .u64 n] w (GivesC w (putL xs a n (clamp s 8).toNat)) := by
  have hr := clamp_range s 8 (by omega)
  generalize hm : clamp s 8 = m at *
  unfold clamp at hm
  obtain ⟨m, rfl⟩ := Int.eq_ofNat_of_zero_le hr.1
  rw [Int.toNat_natCast]
  obtain ⟨R, cap, w1, hap, hown, hb1⟩ := run_append8 (P := Try.prog) w 24 24 5 Try.info8 Try.underlying24 A xs c hx hl
  have HAP := Lib.hid hap
  clear hap
  go_enter Try.func22, Try.ntmps22
  go_wp2_with (at_builtin; refine wpList_append_run rfl _ _ 24 rfl _ HAP.out ?_)
  all_goals
    clear HAP hm
    go_loopw [10, 11] (fun i _ wr => ∃ k : Nat, k ≤ m ∧ i = .int .i64 k ∧ Own8 wr w.heap.size 5 R cap (putL xs a n k) ∧ Below w.heap.size w wr) (fun i _ _ => m - (intOf i).toNat)
    case atStart => exact ⟨0, by omega, rfl, hown, hb1⟩
    case round =>
      clear hown hb1
      obtain ⟨k, hk, rfl, hown, hb⟩ := hrel
      have hlen := putL_len xs a n k
      by_cases hlt : k < m
      · by_cases hle : a ≤ xs.length
        · by_cases h0 : 0 ≤ a + k
          · by_cases h1 : a + k < xs.length
            · obtain ⟨g, rfl, hBg, hglt, hc, hf⟩ := hown.at_ (k := (a + k).toNat) (by omega)
              generalize (putL xs a n k).getD (a + k).toNat 0 = u0 at hc
              have HR : Hid (∀ v : Int, v = ((byteN n k).toNat : Int) → Own8 (wr.setCell ⟨g, (a + k).toNat, none⟩ (.int .u8 v)) w.heap.size 5 (some ⟨g, 0, none⟩) cap (putL xs a n (k + 1))) := fun v hv => by
                rw [hv, putL, setAt_in _ _ _ h0]; exact hown.set_ _ _
              clear hown hlen
              go_wp2
              go_roundw
              case rel => exact ⟨k + 1, by omega, by go_num, HR.out _ (byteN_val n k), hb.setCell hBg _⟩
              case measure => simp [intOf]; omega
            · have HR : Hid (Own8 wr w.heap.size 5 R cap (putL xs a n (k + 1))) := by
                show Own8 _ _ _ _ _ _
                rw [putL, setAt_out _ _ _ (by omega)]; exact hown
              clear hown hlen
              go_wp2
              go_roundw
              case rel => exact ⟨k + 1, by omega, by go_num, HR.out, hb⟩
              case measure => simp [intOf]; omega
          · have HR : Hid (Own8 wr w.heap.size 5 R cap (putL xs a n (k + 1))) := by
              show Own8 _ _ _ _ _ _
              rw [putL, setAt_out _ _ _ (by omega)]; exact hown
            clear hown hlen
            go_wp2
            go_roundw
            case rel => exact ⟨k + 1, by omega, by go_num, HR.out, hb⟩
            case measure => simp [intOf]; omega
        · have HR : Hid (Own8 wr w.heap.size 5 R cap (putL xs a n (k + 1))) := by
            show Own8 _ _ _ _ _ _
            rw [putL, setAt_out _ _ _ (by omega)]; exact hown
          clear hown hlen
          go_wp2
          go_roundw
          case rel => exact ⟨k + 1, by omega, by go_num, HR.out, hb⟩
          case measure => simp [intOf]; omega
      · obtain rfl : k = m := by omega
        clear hlen
        go_wp2
        go_ret
        exact givesC_br (putL_len _ _ _ _) hown.br hb (by have := hown.cap_le; rw [putL_len] at this; exact this)
theorem refPutNum_any (A : Option Addr) (xs : List UInt8) (c : Nat) (a s : Int) (n : Nat) (w : World) (hx : BR w w.heap.size A xs) (hl : xs.length ≤ 1000000) (ha : -9223372036854775808 ≤ a) (ha' : a ≤ 9223372036854775807) :
    Calls Try.prog 22 #[.slice A xs.length c, .int .i64 a, .int .i64 s, .int .u64 n] w (GivesB w (putL xs a n (clamp s 8).toNat)) := (refPutNum_cap A xs c a s n w hx hl ha ha').mono fun _ _ h => h.toB
end Go.Proofs.Ytpabeljealdebaa
