/-
  The contracts of nodeOf, tells and of both Decode.
-/
import Derived.Test.YtpabeljealdebaaNdPlain
import Derived.Test.YtpabeljealdebaaBoth
import Derived.StillTailTactics
namespace Go.Proofs.Ytpabeljealdebaa
open Go.RowKit

theorem leNum64 (A : Option Addr) (xs : List UInt8) (c : Nat) (a : Int) (w : World) (hx : BR w w.heap.size A xs) (hl : xs.length = 64) (ha : 0 ≤ a) :
    Calls Try.prog 30 #[.slice A 64 c, .int .i64 a, .int .i64 2] w fun e w' => e = .returned (.int .u64 (num xs a 2)) ∧ w = w' := by
  have := leNum_any A xs c a 2 w hx (by omega) (by omega)
  rw [hl] at this
  exact this
theorem refNum64 (A : Option Addr) (xs : List UInt8) (c : Nat) (a : Int) (w : World) (hx : BR w w.heap.size A xs) (hl : xs.length = 64) (ha : 0 ≤ a) (ha' : a ≤ 1000) :
    Calls Try.prog 24 #[.slice A 64 c, .int .i64 a, .int .i64 2] w fun e w' => e = .returned (.int .u64 (num xs a 2)) ∧ w = w' := by
  have := refNum_any A xs c a 2 w hx (by omega) (by omega) (by omega)
  rw [hl] at this
  exact this

/-- A new node, zero. -/
theorem NB.new (w : World) : NB (w.alloc (.cells (z32.map I6).toArray 23)) w.heap.size z32 := NB.box w z32
/-- The call hands back a node, and has written nothing that was there. -/
def GivesN1 (w : World) (zs : List Int) (e : Ending) (w' : World) : Prop := e = .returned (ng zs) ∧ Below w.heap.size w w'

/-- What the loop keeps: two new nodes, the second of which is filled. -/
def DecInv (w wr : World) (xs : List UInt8) (k : Nat) : Prop := NB wr w.heap.size z32 ∧ NB wr (w.heap.size + 1) (decT xs k) ∧ Below w.heap.size w wr
theorem DecInv.step {w wr : World} {xs : List UInt8} {k : Nat} (h : DecInv w wr xs k) (_hk : k < 32) : DecInv w (wr.setCell ⟨w.heap.size + 1, k, none⟩ (.int .i64 (num xs (2 * (k : Int)) 2 : Int))) xs (k + 1) := by
  obtain ⟨h1, h2, h3⟩ := h
  refine ⟨(Below.heap_setCell _ _ _ _ (by show w.heap.size ≠ w.heap.size + 1; omega)).trans h1, ?_, h3.setCell (p := ⟨w.heap.size + 1, k, none⟩) (by show w.heap.size ≤ w.heap.size + 1; omega) _⟩
  rw [← decT_step]
  exact h2.set k _

set_option maxHeartbeats 1000000 in
theorem nodeOf_any (A : Option Addr) (xs : List UInt8) (c : Nat) (w : World) (hx : BR w w.heap.size A xs) (hl : xs.length = 64) :
    Calls Try.prog 23 #[.slice A 64 c] w (GivesN1 w (decN xs)) := by
  have A1 := Lib.hid (allocN w)
  have A2 := Lib.hid (allocN (w.alloc (.cells (z32.map I6).toArray 23)))
  have a1 := NB.new w
  have k1 : Below w.heap.size w (w.alloc (.cells (z32.map I6).toArray 23)) := (Below.refl _ _).alloc (Nat.le_refl _) _
  obtain ⟨w2, S0, b2, k2, hs2⟩ := NB.laid (w.alloc (.cells (z32.map I6).toArray 23)) z32 z32_len
  have S1 := Lib.hid S0
  have i0 : DecInv w w2 xs 0 := ⟨a1.below k2 (by simp), by rw [decT_zero]; rw [World.size_alloc] at b2; exact b2, k1.trans (k2.mono k1.size)⟩
  have HI := Lib.hid i0
  clear S0 a1 k1 b2 k2 hs2 i0
  rw [World.size_alloc] at A2 S1
  go_enter Try.func23, Try.ntmps23
  go_wp2_with (first
    | ((with_reducible refine at_ (op := .alloc 23) (d := some 2) ?_); refine wpList_val rfl _ (ex_alloc 23 rfl _ A1.out) ?_)
    | ((with_reducible refine at_ (op := .build 23 #[]) ?_); refine wpList_val rfl _ (ex_build0 23 rfl _ (buildN _)) ?_)
    | ((with_reducible refine at_ (op := .alloc 23) (d := some 3) ?_); refine wpList_val rfl _ (ex_alloc 23 rfl _ A2.out) ?_)
    | ((with_reducible refine at_ (op := .store 23 (.tmp 3) (.tmp 5)) ?_); refine wpList_unit rfl (ex_store 23 (.tmp 3) (.tmp 5) rfl _ _ rfl rfl S1.out) ?_))
  clear A1 A2 S1
  go_loopw [6] (fun i wr => ∃ k : Nat, k ≤ 32 ∧ i = .int .i64 k ∧ DecInv w wr xs k) (fun i _ => 32 - (intOf i).toNat)
  case atStart => exact ⟨0, by omega, rfl, HI.out⟩
  case round =>
    clear HI
    obtain ⟨k, hk, rfl, hi⟩ := hrel
    by_cases hlt : k < 32
    · have hx1 := (hx.below hi.2.2).more hi.2.2.size
      have cN := hi.2.1.cell (k := k) (by rw [decT_len]; exact hlt)
      have fN := hi.2.1.free k
      have HI := Lib.hid (hi.step hlt)
      have hb := num2_lt xs (2 * (k : Int))
      generalize (decT xs k).getD k 0 = u0 at cN
      clear hi
      go_wp2_with fail
      rw [show (k : Int) * 2 = 2 * (k : Int) from by omega]
      refine (leNum64 A xs c (2 * (k : Int)) _ hx1 hl (by omega)).mono ?_
      rintro e w' ⟨rfl, rfl⟩
      generalize num xs (2 * (k : Int)) 2 = v at *
      go_wp2_with fail
      go_roundw
      case rel => exact ⟨k + 1, by omega, by go_num, HI.out⟩
      case measure => simp [intOf]; omega
    · obtain rfl : k = 32 := by omega
      obtain ⟨h1, h2, h3⟩ := hi
      have L1 := Lib.hid (h2.load (decT_len _ _))
      obtain ⟨S0, b3, k3⟩ := h1.store z32_len (decT_len xs 32)
      have S1 := Lib.hid S0
      have B3 := Lib.hid b3
      have k4 := k3.old h3 (Nat.le_refl _)
      clear S0 b3 k3 h1 h2 h3
      go_wp2_with (first
        | ((with_reducible refine at_ (op := .load 23 (.tmp 3)) ?_); refine wpList_val rfl _ (ex_load 23 (.tmp 3) rfl _ _ rfl L1.out) ?_)
        | ((with_reducible refine at_ (op := .store 23 (.tmp 2) (.tmp 17)) ?_); refine wpList_unit rfl (ex_store 23 (.tmp 2) (.tmp 17) rfl _ _ rfl rfl S1.out) ?_))
      refine bodyPost_ret (v := ng (decN xs)) ?_ rfl ⟨rfl, k4⟩
      exact results_cell_row rfl _ _ w.heap.size 23 _ (0, 0) _ rfl B3.out Try.underlying23 rfl (by rw [Try.sizeN]; simp [decN_len])

set_option maxHeartbeats 400000 in
theorem decode_yes (A : Option Addr) (xs : List UInt8) (c : Nat) (w : World) (hx : BR w w.heap.size A xs) (hl : xs.length = 64) :
    Calls Try.prog 11 #[.slice A 64 c] w (GivesNd w (decN xs) 0) := by
  have A1 := Lib.hid (allocN w)
  have k1 : Below w.heap.size w (w.alloc (.cells (z32.map I6).toArray 23)) := (Below.refl _ _).alloc (Nat.le_refl _) _
  have b1 := NB.new w
  have hx1 := (hx.below k1).more k1.size
  go_enter Try.func11, Try.ntmps11
  go_wp2_with ((with_reducible refine at_ (op := .alloc 23) (d := some 2) ?_); refine wpList_val rfl _ (ex_alloc 23 rfl _ A1.out) ?_)
  generalize (w.alloc (.cells (z32.map I6).toArray 23)) = w1 at *
  refine (nodeOf_any A xs c w1 hx1 hl).mono ?_
  rintro e w2 ⟨rfl, k2⟩
  have b2 := b1.below k2 b1.lt
  have k3 := k1.trans (k2.mono k1.size)
  obtain ⟨S0, b3, k4⟩ := b2.store z32_len (decN_len xs)
  have S1 := Lib.hid S0
  have B3 := Lib.hid b3
  have k5 := k4.old k3 (Nat.le_refl _)
  clear A1 S0 b1 b2 b3 k1 k2 k3 k4 hx hx1
  generalize hd : decN xs = zs at *
  have hz : zs.length = 32 := by rw [← hd]; exact decN_len xs
  have HZ := Lib.hid hz
  clear hd hz
  go_wp2_with ((with_reducible refine at_ (op := .store 23 (.tmp 2) (.tmp 9)) ?_); refine wpList_unit rfl (ex_store 23 (.tmp 2) (.tmp 9) rfl _ _ rfl rfl S1.out) ?_)
  refine bodyPost_ret (v := .tuple #[ng zs, .int .i64 0]) ?_ rfl ⟨rfl, k5⟩
  exact results_row_tmp rfl _ _ w.heap.size 23 _ (0, 0) _ _ rfl rfl B3.out Try.underlying23 rfl (by rw [Try.sizeN]; simp [HZ.out])

set_option maxHeartbeats 400000 in
theorem decode_no (A : Option Addr) (n c : Nat) (w : World) (hl : n ≠ 64) :
    Calls Try.prog 11 #[.slice A n c] w (GivesNd w z32 1) := by
  have A1 := Lib.hid (allocN w)
  have k1 : Below w.heap.size w (w.alloc (.cells (z32.map I6).toArray 23)) := (Below.refl _ _).alloc (Nat.le_refl _) _
  obtain ⟨S0, b3, k4⟩ := (NB.new w).store z32_len z32_len
  have S1 := Lib.hid S0
  have B3 := Lib.hid b3
  have k5 := k4.old k1 (Nat.le_refl _)
  have hl' : ((n : Int) != 64) = true := by simp; omega
  clear hl
  clear S0 b3 k1 k4
  go_enter Try.func11, Try.ntmps11
  go_wp2_with (first
    | ((with_reducible refine at_ (op := .alloc 23) (d := some 2) ?_); refine wpList_val rfl _ (ex_alloc 23 rfl _ A1.out) ?_)
    | ((with_reducible refine at_ (op := .build 23 #[]) ?_); refine wpList_val rfl _ (ex_build0 23 rfl _ (buildN _)) ?_)
    | ((with_reducible refine at_ (op := .store 23 (.tmp 2) (.tmp 7)) ?_); refine wpList_unit rfl (ex_store 23 (.tmp 2) (.tmp 7) rfl _ _ rfl rfl S1.out) ?_))
  refine bodyPost_ret (v := .tuple #[ng z32, .int .i64 1]) ?_ rfl ⟨rfl, k5⟩
  exact results_row_tmp rfl _ _ w.heap.size 23 _ (0, 0) _ _ rfl rfl B3.out Try.underlying23 rfl (by rw [Try.sizeN]; simp [z32_len])
theorem decode_any (A : Option Addr) (xs : List UInt8) (c n : Nat) (w : World) (hx : BR w w.heap.size A xs) (hn : xs.length = n) :
    Calls Try.prog 11 #[.slice A n c] w (GivesNd w (decO xs) (decE xs)) := by
  subst hn
  unfold decO decE
  by_cases h : xs.length = 64
  · rw [if_pos h, if_pos h, h]; exact decode_yes A xs c w hx h
  · rw [if_neg h, if_neg h]; exact decode_no A _ c w h

set_option maxHeartbeats 1000000 in
theorem refDecode_yes (A : Option Addr) (xs : List UInt8) (c : Nat) (w : World) (hx : BR w w.heap.size A xs) (hl : xs.length = 64) :
    Calls Try.prog 12 #[.slice A 64 c] w (GivesNd w (decN xs) 0) := by
  have A1 := Lib.hid (allocN w)
  have A2 := Lib.hid (allocN (w.alloc (.cells (z32.map I6).toArray 23)))
  have a1 := NB.new w
  have k1 : Below w.heap.size w (w.alloc (.cells (z32.map I6).toArray 23)) := (Below.refl _ _).alloc (Nat.le_refl _) _
  have a2 := NB.new (w.alloc (.cells (z32.map I6).toArray 23))
  have i0 : DecInv w ((w.alloc (.cells (z32.map I6).toArray 23)).alloc (.cells (z32.map I6).toArray 23)) xs 0 := ⟨a1.below ((Below.refl _ _).alloc (Nat.le_refl _) _) (by simp), by rw [decT_zero]; rw [World.size_alloc] at a2; exact a2, k1.alloc k1.size _⟩
  have HI := Lib.hid i0
  clear a1 k1 a2 i0
  rw [World.size_alloc] at A2
  go_enter Try.func12, Try.ntmps12
  go_wp2_with (first
    | ((with_reducible refine at_ (op := .alloc 23) (d := some 2) ?_); refine wpList_val rfl _ (ex_alloc 23 rfl _ A1.out) ?_)
    | ((with_reducible refine at_ (op := .alloc 23) (d := some 4) ?_); refine wpList_val rfl _ (ex_alloc 23 rfl _ A2.out) ?_))
  clear A1 A2
  go_loopw [5] (fun i wr => ∃ k : Nat, k ≤ 32 ∧ i = .int .i64 k ∧ DecInv w wr xs k) (fun i _ => 32 - (intOf i).toNat)
  case atStart => exact ⟨0, by omega, rfl, HI.out⟩
  case round =>
    clear HI
    obtain ⟨k, hk, rfl, hi⟩ := hrel
    by_cases hlt : k < 32
    · have hx1 := (hx.below hi.2.2).more hi.2.2.size
      have cN := hi.2.1.cell (k := k) (by rw [decT_len]; exact hlt)
      have fN := hi.2.1.free k
      have HI := Lib.hid (hi.step hlt)
      have hb := num2_lt xs (2 * (k : Int))
      generalize (decT xs k).getD k 0 = u0 at cN
      clear hi
      go_wp2_with fail
      refine (refNum64 A xs c (2 * (k : Int)) _ hx1 hl (by omega) (by omega)).mono ?_
      rintro e w' ⟨rfl, rfl⟩
      generalize num xs (2 * (k : Int)) 2 = v at *
      go_wp2_with fail
      go_roundw
      case rel => exact ⟨k + 1, by omega, by go_num, HI.out⟩
      case measure => simp [intOf]; omega
    · obtain rfl : k = 32 := by omega
      obtain ⟨h1, h2, h3⟩ := hi
      have L1 := Lib.hid (h2.load (decT_len _ _))
      obtain ⟨S0, b3, k3⟩ := h1.store z32_len (decT_len xs 32)
      have S1 := Lib.hid S0
      have B3 := Lib.hid b3
      have k4 := k3.old h3 (Nat.le_refl _)
      clear S0 b3 k3 h1 h2 h3
      go_wp2_with (first
        | ((with_reducible refine at_ (op := .load 23 (.tmp 4)) ?_); refine wpList_val rfl _ (ex_load 23 (.tmp 4) rfl _ _ rfl L1.out) ?_)
        | ((with_reducible refine at_ (op := .store 23 (.tmp 2) (.tmp 21)) ?_); refine wpList_unit rfl (ex_store 23 (.tmp 2) (.tmp 21) rfl _ _ rfl rfl S1.out) ?_))
      refine bodyPost_ret (v := .tuple #[ng (decN xs), .int .i64 0]) ?_ rfl ⟨rfl, k4⟩
      exact results_row_tmp rfl _ _ w.heap.size 23 _ (0, 0) _ _ rfl rfl B3.out Try.underlying23 rfl (by rw [Try.sizeN]; simp [decN_len])

set_option maxHeartbeats 400000 in
theorem refDecode_no (A : Option Addr) (n c : Nat) (w : World) (hl : n ≠ 64) :
    Calls Try.prog 12 #[.slice A n c] w (GivesNd w z32 1) := by
  have A1 := Lib.hid (allocN w)
  have A2 := Lib.hid (allocN (w.alloc (.cells (z32.map I6).toArray 23)))
  have a1 := NB.new w
  have k1 : Below w.heap.size w (w.alloc (.cells (z32.map I6).toArray 23)) := (Below.refl _ _).alloc (Nat.le_refl _) _
  have a2 := NB.new (w.alloc (.cells (z32.map I6).toArray 23))
  have i0 : DecInv w ((w.alloc (.cells (z32.map I6).toArray 23)).alloc (.cells (z32.map I6).toArray 23)) [] 0 := ⟨a1.below ((Below.refl _ _).alloc (Nat.le_refl _) _) (by simp), by rw [decT_zero]; rw [World.size_alloc] at a2; exact a2, k1.alloc k1.size _⟩
  obtain ⟨h1, h2, h3⟩ := i0
  rw [decT_zero] at h2
  have L1 := Lib.hid (h2.load z32_len)
  obtain ⟨S0, b3, k3⟩ := h1.store z32_len z32_len
  have S1 := Lib.hid S0
  have B3 := Lib.hid b3
  have k4 := k3.old h3 (Nat.le_refl _)
  have hl' : ((n : Int) != 64) = true := by simp; omega
  clear hl
  clear S0 b3 k3 h1 h2 h3 a1 k1 a2
  rw [World.size_alloc] at A2
  go_enter Try.func12, Try.ntmps12
  go_wp2_with (first
    | ((with_reducible refine at_ (op := .alloc 23) (d := some 2) ?_); refine wpList_val rfl _ (ex_alloc 23 rfl _ A1.out) ?_)
    | ((with_reducible refine at_ (op := .alloc 23) (d := some 4) ?_); refine wpList_val rfl _ (ex_alloc 23 rfl _ A2.out) ?_)
    | ((with_reducible refine at_ (op := .load 23 (.tmp 4)) ?_); refine wpList_val rfl _ (ex_load 23 (.tmp 4) rfl _ _ rfl L1.out) ?_)
    | ((with_reducible refine at_ (op := .store 23 (.tmp 2) (.tmp 9)) ?_); refine wpList_unit rfl (ex_store 23 (.tmp 2) (.tmp 9) rfl _ _ rfl rfl S1.out) ?_))
  refine bodyPost_ret (v := .tuple #[ng z32, .int .i64 1]) ?_ rfl ⟨rfl, k4⟩
  exact results_row_tmp rfl _ _ w.heap.size 23 _ (0, 0) _ _ rfl rfl B3.out Try.underlying23 rfl (by rw [Try.sizeN]; simp [z32_len])
theorem refDecode_any (A : Option Addr) (xs : List UInt8) (c n : Nat) (w : World) (hx : BR w w.heap.size A xs) (hn : xs.length = n) :
    Calls Try.prog 12 #[.slice A n c] w (GivesNd w (decO xs) (decE xs)) := by
  subst hn
  unfold decO decE
  by_cases h : xs.length = 64
  · rw [if_pos h, if_pos h, h]; exact refDecode_yes A xs c w hx h
  · rw [if_neg h, if_neg h]; exact refDecode_no A _ c w h

set_option maxHeartbeats 800000 in
theorem tells_any (A : Option Addr) (xs : List UInt8) (c : Nat) (zs : List Int) (w : World) (hx : BR w w.heap.size A xs) (hl : xs.length = 64) (hz : zs.length = 32) :
    Calls Try.prog 21 #[.slice A 64 c, ng zs] w fun e w' => e = .returned (.bool (decide (decN xs = zs))) ∧ Below w.heap.size w w' := by
  have k1 : Below w.heap.size w (w.alloc (.cells (zs.map I6).toArray 23)) := (Below.refl _ _).alloc (Nat.le_refl _) _
  have b1 := NB.box w zs
  have hx1 := (hx.below k1).more k1.size
  go_enter Try.func21, Try.ntmps21
  go_wp2_with ((with_reducible refine at_ (op := .box 23 (.tmp 1)) ?_); refine wpList_val rfl _ (ex_box 23 (.tmp 1) rfl _ _ rfl (boxN _ _)) ?_)
  refine wp_region_any (by kernel_rfl) ?_
  change wpAny _ _ _ _ _ _ _ (World.drew (w.alloc (.cells (zs.map I6).toArray 23)))
  have b2 : NB (w.alloc (.cells (zs.map I6).toArray 23)).drew w.heap.size zs := b1
  have k2 : Below w.heap.size w (w.alloc (.cells (zs.map I6).toArray 23)).drew := k1.trans ⟨rfl, rfl, rfl, Nat.le_refl _, fun _ _ => rfl⟩
  have hx2 : BR (w.alloc (.cells (zs.map I6).toArray 23)).drew (w.alloc (.cells (zs.map I6).toArray 23)).drew.heap.size A xs := hx1
  clear b1 k1 hx1 hx
  generalize (w.alloc (.cells (zs.map I6).toArray 23)).drew = w1 at *
  have L1 := Lib.hid (b2.load hz)
  refine wpAny_take (oi := ⟨_, _, _, _, _, _⟩) (i := 0) (v := .slice A 64 c) rfl (by kernel_rfl) (by kernel_rfl) (by kernel_rfl) (fun _ _ _ h => h) (Or.inl ⟨by rfl, fun _ => rfl⟩) ?_
  simp only [Act.put, List.setIfInBounds_toArray, List.set_cons_zero, List.set_cons_succ]
  refine Both.go (oi := ⟨_, _, _, _, _, _⟩) (i := 2) (v := ng zs) rfl ?_
  refine Both.step rfl 1 ⟨_, _, _, _, _, _⟩ rfl (by kernel_rfl) (yields_load rfl 23 (.tmp 3) rfl _ _ rfl L1.out) (fun u w' => u = ng (decN xs) ∧ Below w1.heap.size w1 w') (op_call (fn := 23) (args := #[.slice A 64 c]) rfl rfl (by go_simp) ((nodeOf_any A xs c w1 hx2 hl).mono fun e w' ⟨he, hb⟩ => ⟨_, he, rfl, hb⟩)) ?_
  rintro u w2 ⟨rfl, k3⟩
  have b3 := b2.below k3 b2.lt
  have L2 := Lib.hid (b3.load hz)
  have k4 := k2.trans (k3.mono k2.size)
  clear L1 b2 b3 k2 k3 hx2
  simp only [Act.put, List.setIfInBounds_toArray, List.set_cons_zero, List.set_cons_succ]
  refine Both.done rfl (by kernel_rfl) (yields_load rfl 23 (.tmp 3) rfl _ _ rfl L2.out) ?_
  refine wpAny_of_chain [3, 4] [_, _] _ _ _ rfl (by kernel_rfl) ?_
  simp only [Act.put, List.setIfInBounds_toArray, List.set_cons_zero, List.set_cons_succ]
  have hdl := decN_len xs
  generalize hds : decN xs = ds at *
  have HDS := Lib.hid hds
  clear hds
  refine wpList_val rfl _ (ex_bin_agg .eql 23 23 (.tmp 6) (.tmp 7) rfl _ _ _ rfl rfl guardN (eqlN _ hdl hz)) ?_
  go_wp2
  go_ret
  exact ⟨ret_bool (by rw [HDS.out]), k4⟩
end Go.Proofs.Ytpabeljealdebaa
