/-
  The contracts of le.Mix and of the document's Mix.
-/
import Derived.Test.YthbdhmjmboliiaaPure
import Derived.Test.YthbdhmjmboliiaaRow
import Derived.Test.YthbdhmjmboliiaaMake8
namespace Go.Proofs.Ythbdhmjmboliiaa
open Go.RowKit

/-- The i-th byte of two texts torn together at cut. -/
def mixAt (xs ys : List UInt8) (cut : Int) (head : Bool) (i : Nat) : UInt8 := if decide ((i : Int) < cut) = head then xs.getD i 0 else ys.getD i 0
def mixL (xs ys : List UInt8) (cut : Int) (head : Bool) : List UInt8 := (List.range xs.length).map (mixAt xs ys cut head)
/-- The same, the first k bytes alone; noughts behind them. -/
def mixTo (xs ys : List UInt8) (cut : Int) (head : Bool) (k : Nat) : List UInt8 := (List.range xs.length).map fun i => if i < k then mixAt xs ys cut head i else 0
theorem mixTo_len (xs ys : List UInt8) (cut : Int) (head : Bool) (k : Nat) : (mixTo xs ys cut head k).length = xs.length := by simp [mixTo]
theorem mixL_len (xs ys : List UInt8) (cut : Int) (head : Bool) : (mixL xs ys cut head).length = xs.length := by simp [mixL]
theorem mixTo_zero (xs ys : List UInt8) (cut : Int) (head : Bool) : mixTo xs ys cut head 0 = List.replicate xs.length 0 := by
  simp [mixTo, List.map_const']
theorem mixTo_all (xs ys : List UInt8) (cut : Int) (head : Bool) : mixTo xs ys cut head xs.length = mixL xs ys cut head := by
  unfold mixTo mixL
  refine List.map_congr_left fun i hi => ?_
  rw [if_pos (by simpa using hi)]
theorem mixTo_step (xs ys : List UInt8) (cut : Int) (head : Bool) (k : Nat) : (mixTo xs ys cut head k).set k (mixAt xs ys cut head k) = mixTo xs ys cut head (k + 1) := by
  refine List.ext_getElem (by simp [mixTo]) fun i h1 h2 => ?_
  rw [List.getElem_set]
  simp only [mixTo, List.getElem_map, List.getElem_range]
  by_cases e : k = i
  · subst e; simp
  · rw [if_neg e]
    by_cases h : i < k
    · rw [if_pos h, if_pos (by omega)]
    · rw [if_neg h, if_neg (by omega)]
theorem mixTo_skip (xs ys : List UInt8) (cut : Int) (head : Bool) (k : Nat) (h : mixAt xs ys cut head k = 0) : mixTo xs ys cut head (k + 1) = mixTo xs ys cut head k := by
  unfold mixTo
  refine List.map_congr_left fun i _ => ?_
  by_cases e : i = k
  · subst e; simp [h]
  · by_cases h : i < k
    · rw [if_pos h, if_pos (by omega)]
    · rw [if_neg h, if_neg (by omega)]

theorem mix_yes (xs ys : List UInt8) (cut : Int) (k : Nat) (h : (k : Int) < cut) : byt xs (k : Int) = mixAt xs ys cut true k ∧ byt ys (k : Int) = mixAt xs ys cut false k := by
  simp [byt, mixAt, h, show ¬ (k : Int) < 0 from by omega]
theorem mix_no (xs ys : List UInt8) (cut : Int) (k : Nat) (h : ¬ (k : Int) < cut) : byt ys (k : Int) = mixAt xs ys cut true k ∧ byt xs (k : Int) = mixAt xs ys cut false k := by
  simp [byt, mixAt, h, show ¬ (k : Int) < 0 from by omega]

set_option maxHeartbeats 400000 in
theorem leMix_any (A : Option Addr) (xs : List UInt8) (c : Nat) (A' : Option Addr) (ys : List UInt8) (c' : Nat) (cut : Int) (head : Bool) (w : World) (hx : BR w w.heap.size A xs) (hy : BR w w.heap.size A' ys)
    (hl : xs.length ≤ 1000000) (hl' : ys.length ≤ 1000000) :
    Calls Try.prog 47 #[.slice A xs.length c, .slice A' ys.length c', .int .i64 cut, .bool head] w (GivesB w (mixL xs ys (clamp cut xs.length) head)) := by
  have hr := clamp_range cut xs.length (by omega)
  generalize hm : clamp cut xs.length = m at *
  have HM := Lib.hid hm
  clear hm
  have hmk := make8 xs.length hl
  cases head
  · go_enter Try.func47, Try.ntmps47
    go_wp2_with (go_at_call 48; refine (within_any _ _ _).mono ?_; rintro e w' ⟨rfl, rfl⟩; rw [HM.out])
    clear hmk
    go_loopw [12, 28] (fun _ i wr => ∃ k : Nat, k ≤ xs.length ∧ i = .int .i64 k ∧ Row8 wr w.heap.size 5 (mixTo xs ys m false k) ∧ Below w.heap.size w wr) (fun _ i _ => xs.length - (intOf i).toNat)
    case atStart => exact ⟨0, by omega, rfl, by rw [mixTo_zero]; exact Row8.made _ _ _, (Below.refl _ _).alloc (Nat.le_refl _) _⟩
    case round =>
      obtain ⟨k, hk, rfl, hrow, hb⟩ := hrel
      have hx1 := (hx.below hb).more hb.size
      have hy1 := (hy.below hb).more hb.size
      by_cases hlt : k < xs.length
      · have hcl := hrow.cell_ (k := k) (by rw [mixTo_len]; omega)
        have hfz := hrow.free k
        generalize (mixTo xs ys m false k).getD k 0 = u0 at hcl
        have HR : Hid (∀ u, u = mixAt xs ys m false k → Row8 (wr.setCell ⟨w.heap.size, k, none⟩ (B8 u)) w.heap.size 5 (mixTo xs ys m false (k + 1))) := fun u hu => by
          rw [← mixTo_step, ← hu]; exact hrow.set_ k u
        have hlt2 := hrow.lt_
        clear hrow
        by_cases hkm : (k : Int) < m
        · have HU := Lib.hid (mix_yes xs ys m k hkm)
          go_wp2_with (go_at_call 49; refine (byteOf_any _ _ _ _ _ _ hy1 (by omega) (by omega) (by omega) (by omega)).mono ?_; rintro e w' ⟨rfl, rfl⟩)
          go_roundw
          case rel => exact ⟨k + 1, by omega, by go_num, HR.out _ HU.out.2, hb.setCell (Nat.le_refl _) _⟩
          case measure => simp [intOf]; omega
        · have HU := Lib.hid (mix_no xs ys m k hkm)
          go_wp2_with (go_at_call 49; refine (byteOf_any _ _ _ _ _ _ hx1 (by omega) (by omega) (by omega) (by omega)).mono ?_; rintro e w' ⟨rfl, rfl⟩)
          go_roundw
          case rel => exact ⟨k + 1, by omega, by go_num, HR.out _ HU.out.2, hb.setCell (Nat.le_refl _) _⟩
          case measure => simp [intOf]; omega
      · obtain rfl : k = xs.length := by omega
        rw [mixTo_all] at hrow
        go_wp2
        go_ret
        exact givesB_row (mixL_len _ _ _ _) hrow hb
  · go_enter Try.func47, Try.ntmps47
    go_wp2_with (go_at_call 48; refine (within_any _ _ _).mono ?_; rintro e w' ⟨rfl, rfl⟩; rw [HM.out])
    clear hmk
    go_loopw [12, 28] (fun _ i wr => ∃ k : Nat, k ≤ xs.length ∧ i = .int .i64 k ∧ Row8 wr w.heap.size 5 (mixTo xs ys m true k) ∧ Below w.heap.size w wr) (fun _ i _ => xs.length - (intOf i).toNat)
    case atStart => exact ⟨0, by omega, rfl, by rw [mixTo_zero]; exact Row8.made _ _ _, (Below.refl _ _).alloc (Nat.le_refl _) _⟩
    case round =>
      obtain ⟨k, hk, rfl, hrow, hb⟩ := hrel
      have hx1 := (hx.below hb).more hb.size
      have hy1 := (hy.below hb).more hb.size
      by_cases hlt : k < xs.length
      · have hcl := hrow.cell_ (k := k) (by rw [mixTo_len]; omega)
        have hfz := hrow.free k
        generalize (mixTo xs ys m true k).getD k 0 = u0 at hcl
        have HR : Hid (∀ u, u = mixAt xs ys m true k → Row8 (wr.setCell ⟨w.heap.size, k, none⟩ (B8 u)) w.heap.size 5 (mixTo xs ys m true (k + 1))) := fun u hu => by
          rw [← mixTo_step, ← hu]; exact hrow.set_ k u
        have hlt2 := hrow.lt_
        clear hrow
        by_cases hkm : (k : Int) < m
        · have HU := Lib.hid (mix_yes xs ys m k hkm)
          go_wp2_with (go_at_call 49; refine (byteOf_any _ _ _ _ _ _ hx1 (by omega) (by omega) (by omega) (by omega)).mono ?_; rintro e w' ⟨rfl, rfl⟩)
          go_roundw
          case rel => exact ⟨k + 1, by omega, by go_num, HR.out _ HU.out.1, hb.setCell (Nat.le_refl _) _⟩
          case measure => simp [intOf]; omega
        · have HU := Lib.hid (mix_no xs ys m k hkm)
          go_wp2_with (go_at_call 49; refine (byteOf_any _ _ _ _ _ _ hy1 (by omega) (by omega) (by omega) (by omega)).mono ?_; rintro e w' ⟨rfl, rfl⟩)
          go_roundw
          case rel => exact ⟨k + 1, by omega, by go_num, HR.out _ HU.out.1, hb.setCell (Nat.le_refl _) _⟩
          case measure => simp [intOf]; omega
      · obtain rfl : k = xs.length := by omega
        rw [mixTo_all] at hrow
        go_wp2
        go_ret
        exact givesB_row (mixL_len _ _ _ _) hrow hb

theorem mix_a (xs ys : List UInt8) (cut : Int) (head : Bool) (k : Nat) (h : decide ((k : Int) < cut) = head) : mixAt xs ys cut head k = xs.getD k 0 := by
  unfold mixAt; rw [if_pos h]
theorem mix_b (xs ys : List UInt8) (cut : Int) (head : Bool) (k : Nat) (h : ¬ decide ((k : Int) < cut) = head) : mixAt xs ys cut head k = ys.getD k 0 := by
  unfold mixAt; rw [if_neg h]

set_option maxHeartbeats 1000000 in
theorem refMix_any (A : Option Addr) (xs : List UInt8) (c : Nat) (A' : Option Addr) (ys : List UInt8) (c' : Nat) (cut : Int) (head : Bool) (w : World) (hx : BR w w.heap.size A xs) (hy : BR w w.heap.size A' ys)
    (hl : xs.length ≤ 1000000) (hl' : ys.length ≤ 1000000) :
    Calls Try.prog 43 #[.slice A xs.length c, .slice A' ys.length c', .int .i64 cut, .bool head] w (GivesB w (mixL xs ys (clamp cut xs.length) head)) := by
  have hr := clamp_range cut xs.length (by omega)
  generalize hm : clamp cut xs.length = m at *
  unfold clamp at hm
  have hmk := make8 xs.length hl
  go_enter Try.func43, Try.ntmps43
  go_wp2
  all_goals
    clear hmk hm
    go_loopw [10, 21] (fun _ i wr => ∃ k : Nat, k ≤ xs.length ∧ i = .int .i64 k ∧ Row8 wr w.heap.size 5 (mixTo xs ys m head k) ∧ Below w.heap.size w wr) (fun _ i _ => xs.length - (intOf i).toNat)
    case atStart => exact ⟨0, by omega, rfl, by rw [mixTo_zero]; exact Row8.made _ _ _, (Below.refl _ _).alloc (Nat.le_refl _) _⟩
    case round =>
      obtain ⟨k, hk, rfl, hrow, hb⟩ := hrel
      have hx1 := (hx.below hb).more hb.size
      have hy1 := (hy.below hb).more hb.size
      by_cases hlt : k < xs.length
      · have hcl := hrow.cell_ (k := k) (by rw [mixTo_len]; omega)
        have hfz := hrow.free k
        generalize (mixTo xs ys m head k).getD k 0 = u0 at hcl
        have HR : Hid (∀ u, u = mixAt xs ys m head k → Row8 (wr.setCell ⟨w.heap.size, k, none⟩ (B8 u)) w.heap.size 5 (mixTo xs ys m head (k + 1))) := fun u hu => by
          rw [← mixTo_step, ← hu]; exact hrow.set_ k u
        have HR0 : Hid (0 = mixAt xs ys m head k → Row8 wr w.heap.size 5 (mixTo xs ys m head (k + 1))) := fun hu => by
          rw [mixTo_skip _ _ _ _ _ hu.symm]; exact hrow
        have hlt2 := hrow.lt_
        clear hrow
        by_cases hd : decide ((k : Int) < m) = head
        · have HU := Lib.hid (mix_a xs ys m head k hd)
          have hd2 : (decide ((k : Int) < m) == head) = true := by simp [hd]
          clear hd
          obtain ⟨ad, rfl, _, hc⟩ := hx1.at_ hlt
          generalize xs.getD k 0 = u at *
          go_wp2
          go_roundw
          case rel => exact ⟨k + 1, by omega, by go_num, HR.out _ HU.out.symm, hb.setCell (Nat.le_refl _) _⟩
          case measure => simp [intOf]; omega
        · have HU := Lib.hid (mix_b xs ys m head k hd)
          have hd2 : (decide ((k : Int) < m) == head) = false := by simp [hd]
          clear hd
          by_cases hlb : k < ys.length
          · obtain ⟨ad, rfl, _, hc⟩ := hy1.at_ hlb
            generalize ys.getD k 0 = u at *
            go_wp2
            go_roundw
            case rel => exact ⟨k + 1, by omega, by go_num, HR.out _ HU.out.symm, hb.setCell (Nat.le_refl _) _⟩
            case measure => simp [intOf]; omega
          · have H0 : Hid (ys.getD k 0 = 0) := by
              show _ = _
              rw [List.getD_eq_getElem?_getD, List.getElem?_eq_none (by omega)]; rfl
            go_wp2
            go_roundw
            case rel => exact ⟨k + 1, by omega, by go_num, HR0.out (by rw [HU.out, H0.out]), hb⟩
            case measure => simp [intOf]; omega
      · obtain rfl : k = xs.length := by omega
        rw [mixTo_all] at hrow
        go_wp2
        go_ret
        exact givesB_row (mixL_len _ _ _ _) hrow hb
end Go.Proofs.Ythbdhmjmboliiaa
