/-
  Rows of numbers, the table behind bits.TrailingZeros64; the contracts of bits' two functions and of the set's.
-/
import Derived.Test.YtajagjhhpciocaaDoorRows
import Derived.Test.YtajagjhhpciocaaDoorKeeps
import Derived.Test.YtajagjhhpciocaaDoorSpWords
import Derived.Deep.OwnRows
import Derived.Shelf.Spec.TrailingZeros
import Derived.StillTailTactics
import Derived.Lib.Hide
namespace Go.Proofs.YtajagjhhpciocaaDoor.Sp
open Go.RowKit

/-! ### rows of numbers -/
/-- Block g begins with the numbers zs of kind k. -/
def RowK (k : IntKind) (t : TypeId) (w : World) (g : Nat) (zs : List Nat) : Prop := ∃ c : Array Value, w.heap[g]? = some (.cells c t (0, 0)) ∧ ∀ (i u : Nat), zs[i]? = some u → c[i]? = some (.int k (u : Int))
theorem RowK.lt {k : IntKind} {t : TypeId} {w : World} {g : Nat} {zs : List Nat} (h : RowK k t w g zs) : g < w.heap.size := by
  obtain ⟨c, hb, _⟩ := h
  exact (Array.getElem?_eq_some_iff.1 hb).1
theorem RowK.cell {k : IntKind} {t : TypeId} {w : World} {g : Nat} {zs : List Nat} (h : RowK k t w g zs) {i : Nat} (hi : i < zs.length) : w.cell? ⟨g, i, none⟩ = some (.int k ((zs.getD i 0 : Nat) : Int)) := by
  obtain ⟨c, hb, hc⟩ := h
  rw [cell_of_row _ _ _ _ _ _ hb, hc i zs[i] (List.getElem?_eq_getElem hi)]
  simp [List.getD_eq_getElem?_getD, hi]
theorem RowK.free {k : IntKind} {t : TypeId} {w : World} {g : Nat} {zs : List Nat} (h : RowK k t w g zs) (i : Nat) : w.frozen? ⟨g, i, none⟩ = false := by
  obtain ⟨c, hb, _⟩ := h
  exact frozen_of_row w g i _ _ hb
theorem RowK.set {k : IntKind} {t : TypeId} {w : World} {g : Nat} {zs : List Nat} (h : RowK k t w g zs) (i u : Nat) : RowK k t (w.setCell ⟨g, i, none⟩ (.int k (u : Int))) g (zs.set i u) := by
  obtain ⟨c, hb, hc⟩ := h
  refine ⟨_, heap_setCell_same w g i _ t _ hb, fun j v hj => ?_⟩
  rw [List.getElem?_set] at hj
  split at hj
  · rename_i e
    subst e
    split at hj
    · rename_i hl
      cases hj
      have := hc i zs[i] (List.getElem?_eq_getElem hl)
      have hs := (Array.getElem?_eq_some_iff.1 this).1
      simp [hs]
    · cases hj
  · rename_i e
    rw [Array.getElem?_setIfInBounds_ne e]
    exact hc j v hj
theorem RowK.block {k : IntKind} {t : TypeId} {w w' : World} {g : Nat} {zs : List Nat} (h : RowK k t w g zs) (hb : w'.heap[g]? = w.heap[g]?) : RowK k t w' g zs := by
  obtain ⟨c, e, r⟩ := h
  exact ⟨c, hb.trans e, r⟩
theorem RowK.made (k : IntKind) (w : World) (n : Nat) (t : TypeId) : RowK k t (w.alloc (.cells (madeCells #[.int k 0] n) t)) w.heap.size (List.replicate n 0) := by
  obtain ⟨c, hb, hn, hc⟩ := World.rowIs_made w (.int k 0) n t
  refine ⟨c, hb, fun i u hu => ?_⟩
  rw [List.getElem?_replicate] at hu
  split at hu
  · rename_i h
    cases hu
    exact hc i h
  · cases hu
theorem RowK.of_own {k : IntKind} {t : TypeId} {w : World} {B g n c : Nat} {zs : List Nat} (h : w.ownsRow B t 1 (.slice (some ⟨g, 0, none⟩) n c) n (zs.map fun (x : Nat) => Value.int k (x : Int))) (hn : 0 < n) : RowK k t w g zs := by
  obtain ⟨_, ⟨_, h0⟩ | ⟨g', cap', cur, hv, hB, hg, hnc, hcm, hcs, htk⟩⟩ := h
  · omega
  · injection hv with e1 _ e3
    injection e1 with e1
    injection e1 with e1
    subst e1
    refine ⟨cur, hg, fun i u hu => ?_⟩
    have h1 : (cur.toList.take (n * 1))[i]? = some (.int k (u : Int)) := by rw [htk]; simp [hu]
    rw [List.getElem?_take] at h1
    split at h1
    · simpa using h1
    · cases h1

/-! ### math/bits -/
/-- The table behind TrailingZeros64 stands in its variable, block 0. -/
def Tab (w : World) : Prop := TabAt 0 Lib.deBruijn64tab w
theorem Tab.keep {w w' : World} (h : Tab w) (hb : w'.heap[0]? = w.heap[0]?) : Tab w' := fun j hj => (World.cell?_of_block (w := w) (w' := w') (a := ⟨0, j, none⟩) hb).trans (h j hj)
theorem Tab.pos {w : World} (h : Tab w) : 0 < w.heap.size := World.block_lt_of_cell? _ _ (h 0 (by decide))
theorem Tab.below {w w' : World} (h : Tab w) {B : Nat} (hb : Below B w w') (hB : 0 < B) : Tab w' := h.keep (hb.block 0 hB)

set_option maxHeartbeats 400000 in
theorem tz_core (x k idx : Nat) (w : World) (hx0 : ((x : Int) == 0) = false)
    (key : IntKind.u64.wrap (bits BinOp.and IntKind.u64 (x : Int) (IntKind.u64.wrap (-(x : Int))) * 285870213051353865) / 288230376151711744 = (idx : Int))
    (hi : idx < 64) (hk : k < 64) (hcell : w.cell? ⟨0, idx, none⟩ = some (.int .u8 (k : Int))) :
    Calls Tryd.prog 36 #[.int .u64 x] w fun e w' => e = .returned (.int .i64 k) ∧ w = w' := by
  go_enter Tryd.func36, Tryd.ntmps36
  go_wp2_with (simp only [key])
  go_ret
  exact ⟨rfl, rfl⟩
theorem tz_any (x : Nat) (hx : x < 18446744073709551616) (h0 : x ≠ 0) (w : World) (hT : Tab w) :
    Calls Tryd.prog 36 #[.int .u64 x] w fun e w' => e = .returned (.int .i64 (Lib.ctz 64 x : Nat)) ∧ w = w' := by
  obtain ⟨hlow, hk⟩ := Lib.lowest_bit 64 x h0 hx
  obtain ⟨hi, htab⟩ := Lib.deBruijn64_at _ hk
  have hcell := hT _ hi
  rw [htab] at hcell
  exact tz_core x _ _ w (by simp; omega) (tz64_key x _ hx h0 hlow) hi hk hcell

set_option maxHeartbeats 400000 in
theorem ones_core (x y1 y2 y3 y4 y5 y6 p : Nat) (w : World)
    (k1 : bits .and .u64 ((x : Int) / 2) 6148914691236517205 + bits .and .u64 (x : Int) 6148914691236517205 = (y1 : Int))
    (w1 : IntKind.u64.wrap (y1 : Int) = (y1 : Int))
    (k2 : bits .and .u64 ((y1 : Int) / 4) 3689348814741910323 + bits .and .u64 (y1 : Int) 3689348814741910323 = (y2 : Int))
    (w2 : IntKind.u64.wrap (y2 : Int) = (y2 : Int))
    (w3 : IntKind.u64.wrap ((y2 : Int) / 16 + (y2 : Int)) = (y2 : Int) / 16 + (y2 : Int))
    (k3 : bits .and .u64 ((y2 : Int) / 16 + (y2 : Int)) 1085102592571150095 = (y3 : Int))
    (k4 : IntKind.u64.wrap ((y3 : Int) + (y3 : Int) / 256) = (y4 : Int))
    (k5 : IntKind.u64.wrap ((y4 : Int) + (y4 : Int) / 65536) = (y5 : Int))
    (k6 : IntKind.u64.wrap ((y5 : Int) + (y5 : Int) / 4294967296) = (y6 : Int))
    (w6 : IntKind.i64.wrap (y6 : Int) = (y6 : Int))
    (k7 : bits .and .i64 (y6 : Int) 127 = (p : Int)) :
    Calls Tryd.prog 37 #[.int .u64 x] w fun e w' => e = .returned (.int .i64 p) ∧ w = w' := by
  go_enter Tryd.func37, Tryd.ntmps37
  go_wp2_with (first | simp only [k1, w1] | simp only [k2, w2] | simp only [w3] | simp only [k3] | simp only [k4] | simp only [k5] | simp only [k6] | simp only [w6] | simp only [k7])
  go_ret
  exact ⟨rfl, rfl⟩
theorem and_i64 (y : Nat) (hy : y < 9223372036854775808) : bits .and .i64 (y : Int) 127 = ((y % 128 : Nat) : Int) := by
  have h1 : (BitVec.ofInt 64 (y : Int)).toNat = y := by
    rw [BitVec.ofInt_natCast, BitVec.toNat_ofNat]; exact Nat.mod_eq_of_lt (by omega)
  have h2 : (BitVec.ofInt 64 (127 : Int)).toNat = 127 := by decide
  show IntKind.i64.wrap ((BitVec.ofInt 64 (y : Int) &&& BitVec.ofInt 64 127).toNat : Int) = _
  rw [BitVec.toNat_and, h1, h2, show (127 : Nat) = 2 ^ 7 - 1 from rfl, Nat.and_two_pow_sub_one_eq_mod]
  exact IntWalk.i64_in _ (by omega)
theorem ones_any (x : Nat) (hx : x < 18446744073709551616) (w : World) :
    Calls Tryd.prog 37 #[.int .u64 x] w fun e w' => e = .returned (.int .i64 (popN 64 x : Nat)) ∧ w = w' := by
  obtain ⟨a1, a2⟩ := cnt1_lt x
  have hy1 : cnt1 x < 18446744073709551616 := by unfold cnt1; omega
  obtain ⟨b1, b2⟩ := cnt2_lt (cnt1 x)
  have hy2 : cnt2 (cnt1 x) < 8000000000000000000 := by unfold cnt2; omega
  have hp := cnt_packed x
  obtain ⟨p1, p2, hq⟩ := sum_packed x
  obtain ⟨q1, q2, q3⟩ := hq _ _ _ rfl rfl rfl
  have e1 := bits_and_u64_nat (x / 2) 6148914691236517205 (by omega) (by decide)
  have e2 := bits_and_u64_nat x 6148914691236517205 hx (by decide)
  have e3 := bits_and_u64_nat (cnt1 x / 4) 3689348814741910323 (by omega) (by decide)
  have e4 := bits_and_u64_nat (cnt1 x) 3689348814741910323 hy1 (by decide)
  have e5 := bits_and_u64_nat (cnt2 (cnt1 x) / 16 + cnt2 (cnt1 x)) 1085102592571150095 (by omega) (by decide)
  have e6 := and_i64 (packed 8 x + packed 8 x / 256 + (packed 8 x + packed 8 x / 256) / 65536 + (packed 8 x + packed 8 x / 256 + (packed 8 x + packed 8 x / 256) / 65536) / 4294967296) (by omega)
  rw [q3] at e6
  change bits .and .u64 ((x / 2 : Nat) : Int) 6148914691236517205 = _ at e1
  change bits .and .u64 (x : Int) 6148914691236517205 = _ at e2
  change bits .and .u64 ((cnt1 x / 4 : Nat) : Int) 3689348814741910323 = _ at e3
  change bits .and .u64 (cnt1 x : Int) 3689348814741910323 = _ at e4
  change bits .and .u64 ((cnt2 (cnt1 x) / 16 + cnt2 (cnt1 x) : Nat) : Int) 1085102592571150095 = _ at e5
  have e7 : (cnt2 (cnt1 x) / 16 + cnt2 (cnt1 x) &&& 1085102592571150095) = packed 8 x := hp
  rw [e7] at e5
  clear hp q3 e7
  refine ones_core x (cnt1 x) (cnt2 (cnt1 x)) (packed 8 x) (packed 8 x + packed 8 x / 256) (packed 8 x + packed 8 x / 256 + (packed 8 x + packed 8 x / 256) / 65536) (packed 8 x + packed 8 x / 256 + (packed 8 x + packed 8 x / 256) / 65536 + (packed 8 x + packed 8 x / 256 + (packed 8 x + packed 8 x / 256) / 65536) / 4294967296) (popN 64 x) w ?_ ?_ ?_ ?_ ?_ ?_ ?_ ?_ ?_ ?_ e6
  · rw [show ((x : Int) / 2) = ((x / 2 : Nat) : Int) from by omega, e1, e2]; unfold cnt1; omega
  · rw [IntKind.wrap_u64]; omega
  · rw [show ((cnt1 x : Int) / 4) = ((cnt1 x / 4 : Nat) : Int) from by omega, e3, e4]; unfold cnt2; omega
  · rw [IntKind.wrap_u64]; omega
  · rw [IntKind.wrap_u64]; omega
  · rw [show ((cnt2 (cnt1 x) : Int) / 16 + (cnt2 (cnt1 x) : Int)) = ((cnt2 (cnt1 x) / 16 + cnt2 (cnt1 x) : Nat) : Int) from by omega, e5]
  · rw [IntKind.wrap_u64]; omega
  · rw [IntKind.wrap_u64]; omega
  · rw [IntKind.wrap_u64]; omega
  · exact IntWalk.i64_in _ (by omega)

/-! ### the set -/
theorem pow_wrap (m : Nat) (hm : m < 64) : IntKind.u64.wrap ((2 : Int) ^ m) = ((2 ^ m : Nat) : Int) := by
  have hp : (2 : Nat) ^ m < 2 ^ 64 := Nat.pow_lt_pow_right (by decide) hm
  have e : ((2 ^ m : Nat) : Int) = (2 : Int) ^ m := by simp
  rw [IntKind.wrap_u64, ← e]
  clear e
  generalize (2 : Nat) ^ m = s at *
  omega
set_option maxHeartbeats 400000 in
theorem put_any {w : World} {b : Nat} {ws : List Nat} (h : RowK .u64 58 w b ws) (n c : Nat) (hn : n / 64 < ws.length) (hl : ws.length ≤ 64) (u : Nat)
    (hu : bits .or .u64 ((ws.getD (n / 64) 0 : Nat) : Int) ((2 ^ (n % 64) : Nat) : Int) = (u : Int)) :
    Calls Tryd.prog 20 #[.slice (some ⟨b, 0, none⟩) ws.length c, .int .i64 n] w fun e w' => e = .returned (.tuple #[]) ∧ RowK .u64 58 w' b (ws.set (n / 64) u) ∧ Keeps (· = b) w w' := by
  have hc := h.cell hn
  have hf := h.free (n / 64)
  have H := Lib.hid (h.set (n / 64) u)
  have hm : n % 64 < 64 := Nat.mod_lt _ (by decide)
  rw [← pow_wrap _ hm] at hu
  have e5 : (n : Int).tmod 64 = ((n % 64 : Nat) : Int) := by rw [Int.tmod_eq_emod_of_nonneg (by omega)]; omega
  generalize ws.getD (n / 64) 0 = x at *
  generalize n % 64 = m at *
  have e1 : IntKind.i64.wrap ((n : Int) / 64) = (n : Int) / 64 := IntWalk.i64_in _ (by omega)
  have e2 : (0 : Int) ≤ (n : Int) / 64 := by omega
  have e3 : (n : Int) / 64 < (ws.length : Int) := by omega
  have e4 : ((n : Int) / 64).toNat = n / 64 := by omega
  clear h
  go_enter Tryd.func20, Tryd.ntmps20
  go_wp2_with fail
  refine wp_region_still_tail 9 (by kernel_rfl) (by kernel_rfl) ?_
  simp only [List.take_succ_cons, List.take_zero, List.drop_succ_cons, List.drop_zero]
  change wpStill _ _ w.drew (fun a' => wpList _ _ _ _ a' w.drew) _ _
  have K := Lib.hid ((Keeps.setCell (· = b) w ⟨b, n / 64, none⟩ (.int .u64 (u : Int)) rfl).trans (Keeps.drew (· = b) _))
  change w.drew.cell? _ = _ at hc
  change w.drew.frozen? _ = _ at hf
  still_step
  still_step
  still_step
  still_step
  still_step
  still_step
  still_step
  still_step
  still_step
  refine wpStill_nil ?_
  go_wp2_with fail
  go_end0
  exact ⟨rfl, H.out, K.out⟩
set_option maxHeartbeats 400000 in
theorem drop_any {w : World} {b : Nat} {ws : List Nat} (h : RowK .u64 58 w b ws) (n c : Nat) (hn : n / 64 < ws.length) (hl : ws.length ≤ 64) (u : Nat)
    (hu : bits .andNot .u64 ((ws.getD (n / 64) 0 : Nat) : Int) ((2 ^ (n % 64) : Nat) : Int) = (u : Int)) :
    Calls Tryd.prog 28 #[.slice (some ⟨b, 0, none⟩) ws.length c, .int .i64 n] w fun e w' => e = .returned (.tuple #[]) ∧ RowK .u64 58 w' b (ws.set (n / 64) u) ∧ Keeps (· = b) w w' := by
  have hc := h.cell hn
  have hf := h.free (n / 64)
  have H := Lib.hid (h.set (n / 64) u)
  have hm : n % 64 < 64 := Nat.mod_lt _ (by decide)
  rw [← pow_wrap _ hm] at hu
  have e5 : (n : Int).tmod 64 = ((n % 64 : Nat) : Int) := by rw [Int.tmod_eq_emod_of_nonneg (by omega)]; omega
  generalize ws.getD (n / 64) 0 = x at *
  generalize n % 64 = m at *
  have e1 : IntKind.i64.wrap ((n : Int) / 64) = (n : Int) / 64 := IntWalk.i64_in _ (by omega)
  have e2 : (0 : Int) ≤ (n : Int) / 64 := by omega
  have e3 : (n : Int) / 64 < (ws.length : Int) := by omega
  have e4 : ((n : Int) / 64).toNat = n / 64 := by omega
  clear h
  go_enter Tryd.func28, Tryd.ntmps28
  go_wp2_with fail
  refine wp_region_still_tail 9 (by kernel_rfl) (by kernel_rfl) ?_
  simp only [List.take_succ_cons, List.take_zero, List.drop_succ_cons, List.drop_zero]
  change wpStill _ _ w.drew (fun a' => wpList _ _ _ _ a' w.drew) _ _
  have K := Lib.hid ((Keeps.setCell (· = b) w ⟨b, n / 64, none⟩ (.int .u64 (u : Int)) rfl).trans (Keeps.drew (· = b) _))
  change w.drew.cell? _ = _ at hc
  change w.drew.frozen? _ = _ at hf
  still_step
  still_step
  still_step
  still_step
  still_step
  still_step
  still_step
  still_step
  still_step
  refine wpStill_nil ?_
  go_wp2_with fail
  go_end0
  exact ⟨rfl, H.out, K.out⟩
/-- How many are in the first k words. -/
theorem cnt_words_le (f : Nat → Bool) (k : Nat) : cnt f (64 * k) ≤ 64 * k := cnt_le f _
set_option maxHeartbeats 400000 in
theorem many_any {w : World} {b : Nat} {f : Nat → Bool} {m : Nat} (h : m ≠ 0 → RowK .u64 58 w b ((List.range m).map (word f))) (A : Option Addr) (hA : m ≠ 0 → A = some ⟨b, 0, none⟩) (c : Nat) (hm : m ≤ 64) :
    Calls Tryd.prog 32 #[.slice A m c] w fun e w' => e = .returned (.int .i64 (cnt f (64 * m) : Nat)) ∧ w = w' := by
  go_enter Tryd.func32, Tryd.ntmps32
  go_wp2_with fail
  go_loop [8, 3, 5] (fun i s _ => ∃ k : Nat, k ≤ m ∧ i = .int .i64 (k : Int) ∧ s = .int .i64 (cnt f (64 * k) : Nat)) (fun i _ _ => m - (intOf i).toNat)
  case atStart => exact ⟨0, by omega, rfl, rfl⟩
  case round =>
    obtain ⟨k, hk, rfl, rfl⟩ := hrel
    by_cases hlt : k < m
    · obtain rfl := hA (by omega)
      have hc := (h (by omega)).cell (i := k) (by simpa using hlt)
      have e : ((List.range m).map (word f)).getD k 0 = word f k := by simp [List.getD_eq_getElem?_getD, hlt]
      rw [e] at hc
      have hp := ones_any (word f k) (word_lt f k) w
      have hs := cnt_word f k
      have b1 := cnt_words_le f k
      have b2 := popN_le 64 (word f k)
      have HS := Lib.hid hs
      clear h hs e hA
      generalize cnt f (64 * k) = S at *
      generalize popN 64 (word f k) = p at *
      generalize word f k = x at *
      go_wp2_with fail
      refine hp.mono ?_
      rintro e w' ⟨rfl, rfl⟩
      go_wp2_with fail
      go_round
      case rel => exact ⟨k + 1, by omega, by go_num, by rw [HS.out]; go_num⟩
      case measure => simp [intOf]; omega
    · obtain rfl : k = m := by omega
      go_wp2_with fail
      go_ret
      exact ⟨rfl, rfl⟩
set_option maxHeartbeats 400000 in
theorem lowest_any {w : World} {b : Nat} {f : Nat → Bool} {m : Nat} (hT : Tab w) (h : RowK .u64 58 w b ((List.range m).map (word f))) (c : Nat) (hm : m ≤ 64) (r : Nat) (hr : f r = true) (hr' : r < 64 * m) (hj : ∀ j, j < r → f j = false) :
    Calls Tryd.prog 29 #[.slice (some ⟨b, 0, none⟩) m c] w fun e w' => e = .returned (.int .i64 (r : Int)) ∧ w = w' := by
  go_enter Tryd.func29, Tryd.ntmps29
  go_wp2_with fail
  go_loop [7, 3, 4] (fun i _ _ => ∃ k : Nat, 64 * k ≤ r ∧ i = .int .i64 (k : Int)) (fun i _ _ => m - (intOf i).toNat)
  case atStart => exact ⟨0, by omega, rfl⟩
  case round =>
    obtain ⟨k, hk, rfl⟩ := hrel
    have hlt : k < m := by omega
    have hc := h.cell (i := k) (by simpa using hlt)
    have e : ((List.range m).map (word f)).getD k 0 = word f k := by simp [List.getD_eq_getElem?_getD, hlt]
    rw [e] at hc
    by_cases hz : word f k = 0
    · have hw := word_zero hz
      have hnx : 64 * (k + 1) ≤ r := by
        rcases Nat.lt_or_ge r (64 * (k + 1)) with h1 | h1
        · have := hw (r - 64 * k) (by omega)
          rw [show 64 * k + (r - 64 * k) = r from by omega, hr] at this
          cases this
        · exact h1
      rw [hz] at hc
      clear h e hr hj hw
      go_wp2_with fail
      go_round
      case rel => exact ⟨k + 1, hnx, by go_num⟩
      case measure => simp [intOf]; omega
    · obtain ⟨h1, h2, h3⟩ := word_ctz hz
      have htz := tz_any (word f k) (word_lt f k) hz w hT
      generalize Lib.ctz 64 (word f k) = t at *
      have hrt : r = 64 * k + t := by
        rcases Nat.lt_trichotomy r (64 * k + t) with h4 | h4 | h4
        · have := h3 (r - 64 * k) (by omega)
          rw [show 64 * k + (r - 64 * k) = r from by omega, hr] at this
          cases this
        · exact h4
        · have := hj _ h4
          rw [h2] at this
          cases this
      have hne : ((word f k : Int) != 0) = true := by simp; omega
      have HR := Lib.hid hrt
      clear h e hr hj h2 h3 hrt hz
      generalize word f k = x at *
      go_wp2_with fail
      refine htz.mono ?_
      rintro e w' ⟨rfl, rfl⟩
      go_wp2_with fail
      go_ret
      exact ⟨by rw [HR.out]; go_num, rfl⟩
end Go.Proofs.YtajagjhhpciocaaDoor.Sp
