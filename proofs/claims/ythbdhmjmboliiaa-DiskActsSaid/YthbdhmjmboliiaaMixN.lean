/-
  The contract of the document's Mix once more: what it hands back lies in a new block.
-/
import Derived.Test.YthbdhmjmboliiaaMix
namespace Go.Proofs.Ythbdhmjmboliiaa
open Go.RowKit

set_option maxHeartbeats 1000000 in
theorem refMix_new (A : Option Addr) (xs : List UInt8) (c : Nat) (A' : Option Addr) (ys : List UInt8) (c' : Nat) (cut : Int) (head : Bool) (w : World) (hx : BR w w.heap.size A xs) (hy : BR w w.heap.size A' ys)
    (hl : xs.length ≤ 1000000) (hl' : ys.length ≤ 1000000) :
    Calls Try.prog 43 #[.slice A xs.length c, .slice A' ys.length c', .int .i64 cut, .bool head] w (GivesN w (mixL xs ys (clamp cut xs.length) head)) := by
  have hr := clamp_range cut xs.length (by omega)
  generalize hm : clamp cut xs.length = m at *
  unfold clamp at hm
  have hmk := make8 xs.length hl
  go_enter Try.func43, Try.ntmps43
  go_wp2
  all_goals
    clear hmk hm
    go_loopw [10, 21] (fun _ i wr => ∃ k : Nat, k ≤ xs.length ∧ i = .int .i64 k ∧ Row8 wr w.heap.size 5 (mixTo xs ys m head k) ∧ Below w.heap.size w wr) (fun _ i _ => xs.length - (intOf i).toNat)
    case atStart => exact ⟨0, by omega, rfl, by rw [mixTo_zero]; exact Row8.made _ _ _, (Below.refl _ _).alloc (Nat.le_refl _) _⟩
    case round =>
      obtain ⟨k, hk, rfl, hrow, hb⟩ := hrel
      have hx1 := (hx.below hb).more hb.size
      have hy1 := (hy.below hb).more hb.size
      by_cases hlt : k < xs.length
      · have hcl := hrow.cell_ (k := k) (by rw [mixTo_len]; omega)
        have hfz := hrow.free k
        generalize (mixTo xs ys m head k).getD k 0 = u0 at hcl
        have HR : Hid (∀ u, u = mixAt xs ys m head k → Row8 (wr.setCell ⟨w.heap.size, k, none⟩ (B8 u)) w.heap.size 5 (mixTo xs ys m head (k + 1))) := fun u hu => by
          rw [← mixTo_step, ← hu]; exact hrow.set_ k u
        have HR0 : Hid (0 = mixAt xs ys m head k → Row8 wr w.heap.size 5 (mixTo xs ys m head (k + 1))) := fun hu => by
          rw [mixTo_skip _ _ _ _ _ hu.symm]; exact hrow
        have hlt2 := hrow.lt_
        clear hrow
        by_cases hd : decide ((k : Int) < m) = head
        · have HU := Lib.hid (mix_a xs ys m head k hd)
          have hd2 : (decide ((k : Int) < m) == head) = true := by simp [hd]
          clear hd
          obtain ⟨ad, rfl, _, hc⟩ := hx1.at_ hlt
          generalize xs.getD k 0 = u at *
          go_wp2
          go_roundw
          case rel => exact ⟨k + 1, by omega, by go_num, HR.out _ HU.out.symm, hb.setCell (Nat.le_refl _) _⟩
          case measure => simp [intOf]; omega
        · have HU := Lib.hid (mix_b xs ys m head k hd)
          have hd2 : (decide ((k : Int) < m) == head) = false := by simp [hd]
          clear hd
          by_cases hlb : k < ys.length
          · obtain ⟨ad, rfl, _, hc⟩ := hy1.at_ hlb
            generalize ys.getD k 0 = u at *
            go_wp2
            go_roundw
            case rel => exact ⟨k + 1, by omega, by go_num, HR.out _ HU.out.symm, hb.setCell (Nat.le_refl _) _⟩
            case measure => simp [intOf]; omega
          · have H0 : Hid (ys.getD k 0 = 0) := by
              show _ = _
              rw [List.getD_eq_getElem?_getD, List.getElem?_eq_none (by omega)]; rfl
            go_wp2
            go_roundw
            case rel => exact ⟨k + 1, by omega, by go_num, HR0.out (by rw [HU.out, H0.out]), hb⟩
            case measure => simp [intOf]; omega
      · obtain rfl : k = xs.length := by omega
        rw [mixTo_all] at hrow
        go_wp2
        go_ret
        exact givesN_row (mixL_len _ _ _ _) (Nat.le_refl _) (Nat.le_refl _) hrow hb
theorem refMix64 (A : Option Addr) (xs : List UInt8) (c : Nat) (A' : Option Addr) (ys : List UInt8) (c' : Nat) (cut : Int) (head : Bool) (w : World) (hx : BR w w.heap.size A xs) (hy : BR w w.heap.size A' ys) (hl : xs.length = 64) (hl' : ys.length = 64) :
    Calls Try.prog 43 #[.slice A 64 c, .slice A' 64 c', .int .i64 cut, .bool head] w fun e w' => ∃ g c2, e = .returned (.slice (some ⟨g, 0, none⟩) 64 c2) ∧ w.heap.size ≤ g ∧ BR w' w'.heap.size (some ⟨g, 0, none⟩) (mixL xs ys (clamp cut 64) head) ∧ Below w.heap.size w w' := by
  have h := refMix_new A xs c A' ys c' cut head w hx hy (by omega) (by omega)
  rw [hl, hl'] at h
  refine h.mono ?_
  rintro e w' ⟨g, c2, rfl, h1, _, h3, h4, _⟩
  exact ⟨g, c2, by rw [mixL_len, hl], h1, h3, h4⟩
end Go.Proofs.Ythbdhmjmboliiaa
