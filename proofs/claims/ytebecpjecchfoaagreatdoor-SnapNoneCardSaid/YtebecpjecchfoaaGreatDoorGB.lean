/-
  Merged by wip/tools/merge.py: Pure Make8 Mix
-/
import Derived.Test.YtebecpjecchfoaaGreatDoorRows
import Derived.Test.YtebecpjecchfoaaGreatDoorGA
import Derived.WalkLawsBesides
import Derived.Lib.Hide
namespace Go.Proofs.YtebecpjecchfoaaGreatDoor
open Go.RowKit

set_option maxRecDepth 100000 in
set_option maxHeartbeats 400000 in
theorem inside_any (l a i : Int) (w : World) (hl : 0 ≤ l) (hl' : l ≤ 4611686018427387904) (ha : -9223372036854775808 ≤ a) (hi : 0 ≤ i) (hi' : i ≤ 4611686018427387904) :
    Calls Tryz.prog 191 #[.int .i64 l, .int .i64 a, .int .i64 i] w fun e w' => e = .returned (.bool (decide (0 ≤ a + i) && decide (a + i < l))) ∧ w = w' := by
  by_cases h1 : a < l
  · by_cases h2 : 0 ≤ a + i
    · by_cases h3 : a + i < l
      · go_enter Tryz.func191, Tryz.ntmps191
        go_wp2
        go_ret
        exact ⟨ret_bool (by simp [h2, h3]), rfl⟩
      · go_enter Tryz.func191, Tryz.ntmps191
        go_wp2
        go_ret
        exact ⟨ret_bool (by simp [h3]), rfl⟩
    · go_enter Tryz.func191, Tryz.ntmps191
      go_wp2
      go_ret
      exact ⟨ret_bool (by simp; omega), rfl⟩
  · have h3 : ¬ a + i < l := by omega
    go_enter Tryz.func191, Tryz.ntmps191
    go_wp2
    go_ret
    exact ⟨ret_bool (by simp [h3]), rfl⟩

set_option maxRecDepth 100000 in
set_option maxHeartbeats 400000 in
theorem within_any (n m : Int) (w : World) :
    Calls Tryz.prog 192 #[.int .i64 n, .int .i64 m] w fun e w' => e = .returned (.int .i64 (clamp n m)) ∧ w = w' := by
  unfold clamp
  go_enter Tryz.func192, Tryz.ntmps192
  go_wp2
  all_goals
    go_ret
    exact ⟨rfl, rfl⟩

set_option maxRecDepth 100000 in
set_option maxHeartbeats 400000 in
theorem byteOf_any (A : Option Addr) (xs : List UInt8) (c : Nat) (a i : Int) (w : World) (hx : BR w w.heap.size A xs) (hl' : xs.length ≤ 1000000) (ha : -9223372036854775808 ≤ a) (hi : 0 ≤ i) (hi' : i ≤ 4611686018427387904) :
    Calls Tryz.prog 194 #[.slice A xs.length c, .int .i64 a, .int .i64 i] w fun e w' => e = .returned (B8 (byt xs (a + i))) ∧ w = w' := by
  by_cases h : 0 ≤ a + i ∧ a + i < xs.length
  · obtain ⟨h2, h3⟩ := h
    have hb : (decide (0 ≤ a + i) && decide (a + i < (xs.length : Int))) = true := by simp [h2, h3]
    obtain ⟨ad, rfl, _, hc⟩ := hx.at_ (k := (a + i).toNat) (by omega)
    have he := byt_in xs (a + i) h2
    rw [← he] at hc
    have HE := Lib.hid he
    clear he hx
    go_enter Tryz.func194, Tryz.ntmps194
    go_wp2_with (go_at_call 191; refine (inside_any _ _ _ _ (by omega) (by omega) ha hi hi').mono ?_; rintro e w' ⟨rfl, rfl⟩)
    go_ret
    exact ⟨rfl, rfl⟩
  · have hb : (decide (0 ≤ a + i) && decide (a + i < (xs.length : Int))) = false := by
      rw [Bool.eq_false_iff]; simp; omega
    have he := byt_out xs (a + i) (by omega)
    have HE := Lib.hid he
    clear he hx
    go_enter Tryz.func194, Tryz.ntmps194
    go_wp2_with (go_at_call 191; refine (inside_any _ _ _ _ (by omega) (by omega) ha hi hi').mono ?_; rintro e w' ⟨rfl, rfl⟩)
    go_ret
    exact ⟨by rw [HE.out]; rfl, rfl⟩
end Go.Proofs.YtebecpjecchfoaaGreatDoor
namespace Go.Proofs.YtebecpjecchfoaaGreatDoor
open Go.RowKit

theorem Tryz.info8 : (Tryz.prog.info? 5).map (fun i => (i.zero, i.size, i.bytes)) = some (some (.int .u8 0), 1, 1) := by kernel_rfl

theorem make8 (n : Nat) (hn : n ≤ 1000000) (w : World) :
    (Instr.makeSlice 34 (.int .i64 (n : Int)) (.int .i64 (n : Int))).run Tryz.prog w = .ok (.slice (some ⟨w.heap.size, 0, none⟩) n n) (w.alloc (.cells (madeCells #[.int .u8 0] n) 5)) := by
  obtain ⟨i0, hi, hz0, hz1, hz2⟩ := info_parts Tryz.info8
  exact run_make_row 34 5 i0 (.int .u8 0) Tryz.underlying34 hi hz0 hz1 rfl .i64 .i64 n (by rw [hz2]; omega) (by omega) w
end Go.Proofs.YtebecpjecchfoaaGreatDoor
namespace Go.Proofs.YtebecpjecchfoaaGreatDoor
open Go.RowKit

/-- The i-th byte of two texts torn together at cut. -/
def mixAt (xs ys : List UInt8) (cut : Int) (head : Bool) (i : Nat) : UInt8 := if decide ((i : Int) < cut) = head then xs.getD i 0 else ys.getD i 0
def mixL (xs ys : List UInt8) (cut : Int) (head : Bool) : List UInt8 := (List.range xs.length).map (mixAt xs ys cut head)
/-- The same, the first k bytes alone; noughts behind them. -/
def mixTo (xs ys : List UInt8) (cut : Int) (head : Bool) (k : Nat) : List UInt8 := (List.range xs.length).map fun i => if i < k then mixAt xs ys cut head i else 0
theorem mixTo_len (xs ys : List UInt8) (cut : Int) (head : Bool) (k : Nat) : (mixTo xs ys cut head k).length = xs.length := by simp [mixTo]
theorem mixL_len (xs ys : List UInt8) (cut : Int) (head : Bool) : (mixL xs ys cut head).length = xs.length := by simp [mixL]
theorem mixTo_zero (xs ys : List UInt8) (cut : Int) (head : Bool) : mixTo xs ys cut head 0 = List.replicate xs.length 0 := by
  simp [mixTo, List.map_const']
theorem mixTo_all (xs ys : List UInt8) (cut : Int) (head : Bool) : mixTo xs ys cut head xs.length = mixL xs ys cut head := by
  unfold mixTo mixL
  refine List.map_congr_left fun i hi => ?_
  rw [if_pos (by simpa using hi)]
theorem mixTo_step (xs ys : List UInt8) (cut : Int) (head : Bool) (k : Nat) : (mixTo xs ys cut head k).set k (mixAt xs ys cut head k) = mixTo xs ys cut head (k + 1) := by
  refine List.ext_getElem (by simp [mixTo]) fun i h1 h2 => ?_
  rw [List.getElem_set]
  simp only [mixTo, List.getElem_map, List.getElem_range]
  by_cases e : k = i
  · subst e; simp
  · rw [if_neg e]
    by_cases h : i < k
    · rw [if_pos h, if_pos (by omega)]
    · rw [if_neg h, if_neg (by omega)]
theorem mix_yes (xs ys : List UInt8) (cut : Int) (k : Nat) (h : (k : Int) < cut) : byt xs (k : Int) = mixAt xs ys cut true k ∧ byt ys (k : Int) = mixAt xs ys cut false k := by
  simp [byt, mixAt, h, show ¬ (k : Int) < 0 from by omega]
theorem mix_no (xs ys : List UInt8) (cut : Int) (k : Nat) (h : ¬ (k : Int) < cut) : byt ys (k : Int) = mixAt xs ys cut true k ∧ byt xs (k : Int) = mixAt xs ys cut false k := by
  simp [byt, mixAt, h, show ¬ (k : Int) < 0 from by omega]

set_option maxRecDepth 100000 in
set_option maxHeartbeats 400000 in
theorem leMix_any (A : Option Addr) (xs : List UInt8) (c : Nat) (A' : Option Addr) (ys : List UInt8) (c' : Nat) (cut : Int) (head : Bool) (w : World) (hx : BR w w.heap.size A xs) (hy : BR w w.heap.size A' ys)
    (hl : xs.length ≤ 1000000) (hl' : ys.length ≤ 1000000) :
    Calls Tryz.prog 165 #[.slice A xs.length c, .slice A' ys.length c', .int .i64 cut, .bool head] w (GivesB w (mixL xs ys (clamp cut xs.length) head)) := by
  have hr := clamp_range cut xs.length (by omega)
  generalize hm : clamp cut xs.length = m at *
  have HM := Lib.hid hm
  clear hm
  have hmk := make8 xs.length hl
  cases head
  · go_enter Tryz.func165, Tryz.ntmps165
    go_wp2_with (go_at_call 192; refine (within_any _ _ _).mono ?_; rintro e w' ⟨rfl, rfl⟩; rw [HM.out])
    clear hmk
    go_loopw [12, 28] (fun _ i wr => ∃ k : Nat, k ≤ xs.length ∧ i = .int .i64 k ∧ Row8 wr w.heap.size 5 (mixTo xs ys m false k) ∧ Below w.heap.size w wr) (fun _ i _ => xs.length - (intOf i).toNat)
    case atStart => exact ⟨0, by omega, rfl, by rw [mixTo_zero]; exact Row8.made _ _ _, (Below.refl _ _).alloc (Nat.le_refl _) _⟩
    case round =>
      obtain ⟨k, hk, rfl, hrow, hb⟩ := hrel
      have hx1 := (hx.below hb).more hb.size
      have hy1 := (hy.below hb).more hb.size
      by_cases hlt : k < xs.length
      · have hcl := hrow.cell_ (k := k) (by rw [mixTo_len]; omega)
        have hfz := hrow.free k
        generalize (mixTo xs ys m false k).getD k 0 = u0 at hcl
        have HR : Hid (∀ u, u = mixAt xs ys m false k → Row8 (wr.setCell ⟨w.heap.size, k, none⟩ (B8 u)) w.heap.size 5 (mixTo xs ys m false (k + 1))) := fun u hu => by
          rw [← mixTo_step, ← hu]; exact hrow.set_ k u
        have hlt2 := hrow.lt_
        clear hrow
        by_cases hkm : (k : Int) < m
        · have HU := Lib.hid (mix_yes xs ys m k hkm)
          go_wp2_with (go_at_call 194; refine (byteOf_any _ _ _ _ _ _ hy1 (by omega) (by omega) (by omega) (by omega)).mono ?_; rintro e w' ⟨rfl, rfl⟩)
          go_roundw
          case rel => exact ⟨k + 1, by omega, by go_num, HR.out _ HU.out.2, hb.setCell (Nat.le_refl _) _⟩
          case measure => simp [intOf]; omega
        · have HU := Lib.hid (mix_no xs ys m k hkm)
          go_wp2_with (go_at_call 194; refine (byteOf_any _ _ _ _ _ _ hx1 (by omega) (by omega) (by omega) (by omega)).mono ?_; rintro e w' ⟨rfl, rfl⟩)
          go_roundw
          case rel => exact ⟨k + 1, by omega, by go_num, HR.out _ HU.out.2, hb.setCell (Nat.le_refl _) _⟩
          case measure => simp [intOf]; omega
      · obtain rfl : k = xs.length := by omega
        rw [mixTo_all] at hrow
        go_wp2
        go_ret
        exact givesB_row (mixL_len _ _ _ _) hrow hb
  · go_enter Tryz.func165, Tryz.ntmps165
    go_wp2_with (go_at_call 192; refine (within_any _ _ _).mono ?_; rintro e w' ⟨rfl, rfl⟩; rw [HM.out])
    clear hmk
    go_loopw [12, 28] (fun _ i wr => ∃ k : Nat, k ≤ xs.length ∧ i = .int .i64 k ∧ Row8 wr w.heap.size 5 (mixTo xs ys m true k) ∧ Below w.heap.size w wr) (fun _ i _ => xs.length - (intOf i).toNat)
    case atStart => exact ⟨0, by omega, rfl, by rw [mixTo_zero]; exact Row8.made _ _ _, (Below.refl _ _).alloc (Nat.le_refl _) _⟩
    case round =>
      obtain ⟨k, hk, rfl, hrow, hb⟩ := hrel
      have hx1 := (hx.below hb).more hb.size
      have hy1 := (hy.below hb).more hb.size
      by_cases hlt : k < xs.length
      · have hcl := hrow.cell_ (k := k) (by rw [mixTo_len]; omega)
        have hfz := hrow.free k
        generalize (mixTo xs ys m true k).getD k 0 = u0 at hcl
        have HR : Hid (∀ u, u = mixAt xs ys m true k → Row8 (wr.setCell ⟨w.heap.size, k, none⟩ (B8 u)) w.heap.size 5 (mixTo xs ys m true (k + 1))) := fun u hu => by
          rw [← mixTo_step, ← hu]; exact hrow.set_ k u
        have hlt2 := hrow.lt_
        clear hrow
        by_cases hkm : (k : Int) < m
        · have HU := Lib.hid (mix_yes xs ys m k hkm)
          go_wp2_with (go_at_call 194; refine (byteOf_any _ _ _ _ _ _ hx1 (by omega) (by omega) (by omega) (by omega)).mono ?_; rintro e w' ⟨rfl, rfl⟩)
          go_roundw
          case rel => exact ⟨k + 1, by omega, by go_num, HR.out _ HU.out.1, hb.setCell (Nat.le_refl _) _⟩
          case measure => simp [intOf]; omega
        · have HU := Lib.hid (mix_no xs ys m k hkm)
          go_wp2_with (go_at_call 194; refine (byteOf_any _ _ _ _ _ _ hy1 (by omega) (by omega) (by omega) (by omega)).mono ?_; rintro e w' ⟨rfl, rfl⟩)
          go_roundw
          case rel => exact ⟨k + 1, by omega, by go_num, HR.out _ HU.out.1, hb.setCell (Nat.le_refl _) _⟩
          case measure => simp [intOf]; omega
      · obtain rfl : k = xs.length := by omega
        rw [mixTo_all] at hrow
        go_wp2
        go_ret
        exact givesB_row (mixL_len _ _ _ _) hrow hb

end Go.Proofs.YtebecpjecchfoaaGreatDoor
