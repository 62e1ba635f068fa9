/-
  The contract of le.Mix once more: what it hands back has room for its bytes.
-/
import Derived.Test.YtlefpnplibmgiaaMix
namespace Go.Proofs.Ytlefpnplibmgiaa
open Go.RowKit

theorem givesC_row {w w' : World} {g : Nat} {t : TypeId} {zs : List UInt8} {n : Nat} (hn : zs.length = n) (h : Row8 w' g t zs) (hb : Below w.heap.size w w') :
    GivesC w zs (.returned (.slice (some ⟨g, 0, none⟩) n n)) w' := by
  subst hn
  exact ⟨_, _, rfl, h.br, hb, Nat.le_refl _⟩

set_option maxHeartbeats 400000 in
theorem leMix_cap (A : Option Addr) (xs : List UInt8) (c : Nat) (A' : Option Addr) (ys : List UInt8) (c' : Nat) (cut : Int) (head : Bool) (w : World) (hx : BR w w.heap.size A xs) (hy : BR w w.heap.size A' ys)
    (hl : xs.length ≤ 1000000) (hl' : ys.length ≤ 1000000) :
    Calls Try.prog 30 #[.slice A xs.length c, .slice A' ys.length c', .int .i64 cut, .bool head] w (GivesC w (mixL xs ys (clamp cut xs.length) head)) := by
  have hr := clamp_range cut xs.length (by omega)
  generalize hm : clamp cut xs.length = m at *
  have HM := Lib.hid hm
  clear hm
  have hmk := make8 xs.length hl
  cases head
  · go_enter Try.func30, Try.ntmps30
    go_wp2_with (go_at_call 36; refine (within_any _ _ _).mono ?_; rintro e w' ⟨rfl, rfl⟩; rw [HM.out])
    clear hmk
    go_loopw [12, 28] (fun _ i wr => ∃ k : Nat, k ≤ xs.length ∧ i = .int .i64 k ∧ Row8 wr w.heap.size 5 (mixTo xs ys m false k) ∧ Below w.heap.size w wr) (fun _ i _ => xs.length - (intOf i).toNat)
    case atStart => exact ⟨0, by omega, rfl, by rw [mixTo_zero]; exact Row8.made _ _ _, (Below.refl _ _).alloc (Nat.le_refl _) _⟩
    case round =>
      obtain ⟨k, hk, rfl, hrow, hb⟩ := hrel
      have hx1 := (hx.below hb).more hb.size
      have hy1 := (hy.below hb).more hb.size
      by_cases hlt : k < xs.length
      · have hcl := hrow.cell_ (k := k) (by rw [mixTo_len]; omega)
        have hfz := hrow.free k
        generalize (mixTo xs ys m false k).getD k 0 = u0 at hcl
        have HR : Hid (∀ u, u = mixAt xs ys m false k → Row8 (wr.setCell ⟨w.heap.size, k, none⟩ (B8 u)) w.heap.size 5 (mixTo xs ys m false (k + 1))) := fun u hu => by
          rw [← mixTo_step, ← hu]; exact hrow.set_ k u
        have hlt2 := hrow.lt_
        clear hrow
        by_cases hkm : (k : Int) < m
        · have HU := Lib.hid (mix_yes xs ys m k hkm)
          go_wp2_with (go_at_call 44; refine (byteOf_any _ _ _ _ _ _ hy1 (by omega) (by omega) (by omega) (by omega)).mono ?_; rintro e w' ⟨rfl, rfl⟩)
          go_roundw
          case rel => exact ⟨k + 1, by omega, by go_num, HR.out _ HU.out.2, hb.setCell (Nat.le_refl _) _⟩
          case measure => simp [intOf]; omega
        · have HU := Lib.hid (mix_no xs ys m k hkm)
          go_wp2_with (go_at_call 44; refine (byteOf_any _ _ _ _ _ _ hx1 (by omega) (by omega) (by omega) (by omega)).mono ?_; rintro e w' ⟨rfl, rfl⟩)
          go_roundw
          case rel => exact ⟨k + 1, by omega, by go_num, HR.out _ HU.out.2, hb.setCell (Nat.le_refl _) _⟩
          case measure => simp [intOf]; omega
      · obtain rfl : k = xs.length := by omega
        rw [mixTo_all] at hrow
        go_wp2
        go_ret
        exact givesC_row (mixL_len _ _ _ _) hrow hb
  · go_enter Try.func30, Try.ntmps30
    go_wp2_with (go_at_call 36; refine (within_any _ _ _).mono ?_; rintro e w' ⟨rfl, rfl⟩; rw [HM.out])
    clear hmk
    go_loopw [12, 28] (fun _ i wr => ∃ k : Nat, k ≤ xs.length ∧ i = .int .i64 k ∧ Row8 wr w.heap.size 5 (mixTo xs ys m true k) ∧ Below w.heap.size w wr) (fun _ i _ => xs.length - (intOf i).toNat)
    case atStart => exact ⟨0, by omega, rfl, by rw [mixTo_zero]; exact Row8.made _ _ _, (Below.refl _ _).alloc (Nat.le_refl _) _⟩
    case round =>
      obtain ⟨k, hk, rfl, hrow, hb⟩ := hrel
      have hx1 := (hx.below hb).more hb.size
      have hy1 := (hy.below hb).more hb.size
      by_cases hlt : k < xs.length
      · have hcl := hrow.cell_ (k := k) (by rw [mixTo_len]; omega)
        have hfz := hrow.free k
        generalize (mixTo xs ys m true k).getD k 0 = u0 at hcl
        have HR : Hid (∀ u, u = mixAt xs ys m true k → Row8 (wr.setCell ⟨w.heap.size, k, none⟩ (B8 u)) w.heap.size 5 (mixTo xs ys m true (k + 1))) := fun u hu => by
          rw [← mixTo_step, ← hu]; exact hrow.set_ k u
        have hlt2 := hrow.lt_
        clear hrow
        by_cases hkm : (k : Int) < m
        · have HU := Lib.hid (mix_yes xs ys m k hkm)
          go_wp2_with (go_at_call 44; refine (byteOf_any _ _ _ _ _ _ hx1 (by omega) (by omega) (by omega) (by omega)).mono ?_; rintro e w' ⟨rfl, rfl⟩)
          go_roundw
          case rel => exact ⟨k + 1, by omega, by go_num, HR.out _ HU.out.1, hb.setCell (Nat.le_refl _) _⟩
          case measure => simp [intOf]; omega
        · have HU := Lib.hid (mix_no xs ys m k hkm)
          go_wp2_with (go_at_call 44; refine (byteOf_any _ _ _ _ _ _ hy1 (by omega) (by omega) (by omega) (by omega)).mono ?_; rintro e w' ⟨rfl, rfl⟩)
          go_roundw
          case rel => exact ⟨k + 1, by omega, by go_num, HR.out _ HU.out.1, hb.setCell (Nat.le_refl _) _⟩
          case measure => simp [intOf]; omega
      · obtain rfl : k = xs.length := by omega
        rw [mixTo_all] at hrow
        go_wp2
        go_ret
        exact givesC_row (mixL_len _ _ _ _) hrow hb
end Go.Proofs.Ytlefpnplibmgiaa
