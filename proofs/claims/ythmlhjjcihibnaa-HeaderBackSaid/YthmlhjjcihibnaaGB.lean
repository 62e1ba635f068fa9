/-
  Merged by wip/tools/merge.py: Pure Make8 Mix
-/
import Derived.Test.YthmlhjjcihibnaaRows
import Derived.Test.YthmlhjjcihibnaaGA
import Derived.WalkLawsBesides
import Derived.Lib.Hide
namespace Go.Proofs.Ythmlhjjcihibnaa
open Go.RowKit

set_option maxRecDepth 100000 in
set_option maxHeartbeats 400000 in
theorem inside_any (l a i : Int) (w : World) (hl : 0 ≤ l) (hl' : l ≤ 4611686018427387904) (ha : -9223372036854775808 ≤ a) (hi : 0 ≤ i) (hi' : i ≤ 4611686018427387904) :
    Calls Try.prog 53 #[.int .i64 l, .int .i64 a, .int .i64 i] w fun e w' => e = .returned (.bool (decide (0 ≤ a + i) && decide (a + i < l))) ∧ w = w' := by
  by_cases h1 : a < l
  · by_cases h2 : 0 ≤ a + i
    · by_cases h3 : a + i < l
      · go_enter Try.func53, Try.ntmps53
        go_wp2
        go_ret
        exact ⟨ret_bool (by simp [h2, h3]), rfl⟩
      · go_enter Try.func53, Try.ntmps53
        go_wp2
        go_ret
        exact ⟨ret_bool (by simp [h3]), rfl⟩
    · go_enter Try.func53, Try.ntmps53
      go_wp2
      go_ret
      exact ⟨ret_bool (by simp; omega), rfl⟩
  · have h3 : ¬ a + i < l := by omega
    go_enter Try.func53, Try.ntmps53
    go_wp2
    go_ret
    exact ⟨ret_bool (by simp [h3]), rfl⟩

set_option maxRecDepth 100000 in
set_option maxHeartbeats 400000 in
theorem within_any (n m : Int) (w : World) :
    Calls Try.prog 54 #[.int .i64 n, .int .i64 m] w fun e w' => e = .returned (.int .i64 (clamp n m)) ∧ w = w' := by
  unfold clamp
  go_enter Try.func54, Try.ntmps54
  go_wp2
  all_goals
    go_ret
    exact ⟨rfl, rfl⟩

set_option maxRecDepth 100000 in
set_option maxHeartbeats 400000 in
theorem byteOf_any (A : Option Addr) (xs : List UInt8) (c : Nat) (a i : Int) (w : World) (hx : BR w w.heap.size A xs) (hl' : xs.length ≤ 1000000) (ha : -9223372036854775808 ≤ a) (hi : 0 ≤ i) (hi' : i ≤ 4611686018427387904) :
    Calls Try.prog 56 #[.slice A xs.length c, .int .i64 a, .int .i64 i] w fun e w' => e = .returned (B8 (byt xs (a + i))) ∧ w = w' := by
  by_cases h : 0 ≤ a + i ∧ a + i < xs.length
  · obtain ⟨h2, h3⟩ := h
    have hb : (decide (0 ≤ a + i) && decide (a + i < (xs.length : Int))) = true := by simp [h2, h3]
    obtain ⟨ad, rfl, _, hc⟩ := hx.at_ (k := (a + i).toNat) (by omega)
    have he := byt_in xs (a + i) h2
    rw [← he] at hc
    have HE := Lib.hid he
    clear he hx
    go_enter Try.func56, Try.ntmps56
    go_wp2_with (go_at_call 53; refine (inside_any _ _ _ _ (by omega) (by omega) ha hi hi').mono ?_; rintro e w' ⟨rfl, rfl⟩)
    go_ret
    exact ⟨rfl, rfl⟩
  · have hb : (decide (0 ≤ a + i) && decide (a + i < (xs.length : Int))) = false := by
      rw [Bool.eq_false_iff]; simp; omega
    have he := byt_out xs (a + i) (by omega)
    have HE := Lib.hid he
    clear he hx
    go_enter Try.func56, Try.ntmps56
    go_wp2_with (go_at_call 53; refine (inside_any _ _ _ _ (by omega) (by omega) ha hi hi').mono ?_; rintro e w' ⟨rfl, rfl⟩)
    go_ret
    exact ⟨by rw [HE.out]; rfl, rfl⟩
end Go.Proofs.Ythmlhjjcihibnaa
namespace Go.Proofs.Ythmlhjjcihibnaa
open Go.RowKit

theorem Try.info8 : (Try.prog.info? 5).map (fun i => (i.zero, i.size, i.bytes)) = some (some (.int .u8 0), 1, 1) := by kernel_rfl

theorem make8 (n : Nat) (hn : n ≤ 1000000) (w : World) :
    (Instr.makeSlice 22 (.int .i64 (n : Int)) (.int .i64 (n : Int))).run Try.prog w = .ok (.slice (some ⟨w.heap.size, 0, none⟩) n n) (w.alloc (.cells (madeCells #[.int .u8 0] n) 5)) := by
  obtain ⟨i0, hi, hz0, hz1, hz2⟩ := info_parts Try.info8
  exact run_make_row 22 5 i0 (.int .u8 0) Try.underlying22 hi hz0 hz1 rfl .i64 .i64 n (by rw [hz2]; omega) (by omega) w
end Go.Proofs.Ythmlhjjcihibnaa
namespace Go.Proofs.Ythmlhjjcihibnaa
open Go.RowKit

/-- The i-th byte of two texts torn together at cut. -/
def mixAt (xs ys : List UInt8) (cut : Int) (head : Bool) (i : Nat) : UInt8 := if decide ((i : Int) < cut) = head then xs.getD i 0 else ys.getD i 0
def mixL (xs ys : List UInt8) (cut : Int) (head : Bool) : List UInt8 := (List.range xs.length).map (mixAt xs ys cut head)
/-- The same, the first k bytes alone; noughts behind them. -/
def mixTo (xs ys : List UInt8) (cut : Int) (head : Bool) (k : Nat) : List UInt8 := (List.range xs.length).map fun i => if i < k then mixAt xs ys cut head i else 0
theorem mixTo_len (xs ys : List UInt8) (cut : Int) (head : Bool) (k : Nat) : (mixTo xs ys cut head k).length = xs.length := by simp [mixTo]
theorem mixL_len (xs ys : List UInt8) (cut : Int) (head : Bool) : (mixL xs ys cut head).length = xs.length := by simp [mixL]
theorem mixTo_zero (xs ys : List UInt8) (cut : Int) (head : Bool) : mixTo xs ys cut head 0 = List.replicate xs.length 0 := by
  simp [mixTo, List.map_const']
theorem mixTo_all (xs ys : List UInt8) (cut : Int) (head : Bool) : mixTo xs ys cut head xs.length = mixL xs ys cut head := by
  unfold mixTo mixL
  refine List.map_congr_left fun i hi => ?_
  rw [if_pos (by simpa using hi)]
theorem mixTo_step (xs ys : List UInt8) (cut : Int) (head : Bool) (k : Nat) : (mixTo xs ys cut head k).set k (mixAt xs ys cut head k) = mixTo xs ys cut head (k + 1) := by
  refine List.ext_getElem (by simp [mixTo]) fun i h1 h2 => ?_
  rw [List.getElem_set]
  simp only [mixTo, List.getElem_map, List.getElem_range]
  by_cases e : k = i
  · subst e; simp
  · rw [if_neg e]
    by_cases h : i < k
    · rw [if_pos h, if_pos (by omega)]
    · rw [if_neg h, if_neg (by omega)]
theorem mixTo_skip (xs ys : List UInt8) (cut : Int) (head : Bool) (k : Nat) (h : mixAt xs ys cut head k = 0) : mixTo xs ys cut head (k + 1) = mixTo xs ys cut head k := by
  unfold mixTo
  refine List.map_congr_left fun i _ => ?_
  by_cases e : i = k
  · subst e; simp [h]
  · by_cases h : i < k
    · rw [if_pos h, if_pos (by omega)]
    · rw [if_neg h, if_neg (by omega)]

theorem mix_yes (xs ys : List UInt8) (cut : Int) (k : Nat) (h : (k : Int) < cut) : byt xs (k : Int) = mixAt xs ys cut true k ∧ byt ys (k : Int) = mixAt xs ys cut false k := by
  simp [byt, mixAt, h, show ¬ (k : Int) < 0 from by omega]
theorem mix_no (xs ys : List UInt8) (cut : Int) (k : Nat) (h : ¬ (k : Int) < cut) : byt ys (k : Int) = mixAt xs ys cut true k ∧ byt xs (k : Int) = mixAt xs ys cut false k := by
  simp [byt, mixAt, h, show ¬ (k : Int) < 0 from by omega]

theorem mix_a (xs ys : List UInt8) (cut : Int) (head : Bool) (k : Nat) (h : decide ((k : Int) < cut) = head) : mixAt xs ys cut head k = xs.getD k 0 := by
  unfold mixAt; rw [if_pos h]
theorem mix_b (xs ys : List UInt8) (cut : Int) (head : Bool) (k : Nat) (h : ¬ decide ((k : Int) < cut) = head) : mixAt xs ys cut head k = ys.getD k 0 := by
  unfold mixAt; rw [if_neg h]

end Go.Proofs.Ythmlhjjcihibnaa
