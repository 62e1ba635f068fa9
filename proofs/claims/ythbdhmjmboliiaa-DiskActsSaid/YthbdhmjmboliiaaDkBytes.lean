/-
  The contracts of Bytes and Of.
-/
import Derived.Test.YthbdhmjmboliiaaDkNew
namespace Go.Proofs.Ythbdhmjmboliiaa
open Go.RowKit Go.Maps

/-- The first k sectors' bytes, noughts behind them. -/
def upTo (L : List UInt8) (n k : Nat) : List UInt8 := L.take (k * 64) ++ List.replicate (n * 64 - k * 64) 0
theorem upTo_len (L : List UInt8) (n k : Nat) (h : L.length = 64 * n) (hk : k ≤ n) : (upTo L n k).length = n * 64 := by simp [upTo]; omega
theorem upTo_zero (L : List UInt8) (n : Nat) : upTo L n 0 = List.replicate (n * 64) 0 := by simp [upTo]
theorem upTo_all (L : List UInt8) (n : Nat) (h : L.length = 64 * n) : upTo L n n = L := by
  unfold upTo
  rw [Nat.sub_self, List.replicate_zero, List.append_nil, List.take_of_length_le (by omega)]
theorem upTo_step (L : List UInt8) (n k : Nat) (h : L.length = 64 * n) (hk : k < n) : splice (upTo L n k) (k * 64) (sec L k) = upTo L n (k + 1) := by
  have hl : (sec L k).length = 64 := sec_lenL (by omega)
  unfold splice
  rw [hl]
  unfold upTo
  have e1 : (L.take (k * 64) ++ List.replicate (n * 64 - k * 64) (0 : UInt8)).take (k * 64) = L.take (k * 64) := by
    rw [List.take_append_of_le_length (by simp; omega), List.take_of_length_le (by simp; omega)]
  have e2 : (L.take (k * 64) ++ List.replicate (n * 64 - k * 64) (0 : UInt8)).drop (k * 64 + 64) = List.replicate (n * 64 - (k + 1) * 64) 0 := by
    rw [List.drop_append, List.drop_of_length_le (by simp; omega), List.nil_append, List.drop_replicate]
    congr 1
    simp
    omega
  rw [e1, e2, ← List.append_assoc]
  congr 1
  unfold sec
  rw [show (k + 1) * 64 = k * 64 + 64 from by omega, List.take_add]

set_option maxHeartbeats 1000000 in
theorem bytes_at {w : World} {p lb mb n : Nat} {iv : Value} {D : DSt} (h : DkAt w p lb mb n iv D) :
    Calls Try.prog 25 #[.pointer (some ⟨p, 0, none⟩)] w (GivesB w D.L) := by
  have hn := h.ok.n_le
  have hlen := h.ok.len
  have HLEN := Lib.hid hlen
  clear hlen
  have hmk : ∀ w : World, (Instr.makeSlice 30 (.int .i64 ((n : Int) * 64)) (.int .i64 ((n : Int) * 64))).run Try.prog w = .ok (.slice (some ⟨w.heap.size, 0, none⟩) (n * 64) (n * 64)) (w.alloc (.cells (madeCells #[.int .u8 0] (n * 64)) 5)) := fun w => by
    have := make8 (n * 64) (by omega) w
    simpa using this
  have MK := Lib.hid hmk
  clear hmk
  have r0 := Row8.made w (n * 64) 5
  have k0 : Keeps (fun _ => False) w (w.alloc (.cells (madeCells #[.int .u8 0] (n * 64)) 5)) := Keeps.alloc _ _ _
  have h1 := h.same k0
  have R0 := Lib.hid r0
  clear r0
  go_enter Try.func25, Try.ntmps25
  go_wp2_with fail
  refine (len_at h).mono ?_
  rintro e w' ⟨rfl, rfl⟩
  go_wp2_with (((with_reducible refine here (op := .makeSlice 30 (.tmp 7) (.tmp 7)) ?_); refine wpList_make_run rfl 30 _ _ rfl _ _ _ rfl rfl (MK.out _) ?_))
  refine (len_at h1).mono ?_
  rintro e w' ⟨rfl, rfl⟩
  have hsz : (w.alloc (.cells (madeCells #[.int .u8 0] (n * 64)) 5)).heap.size = w.heap.size + 1 := by simp
  have HSZ := Lib.hid hsz
  clear hsz MK
  generalize w.alloc (.cells (madeCells #[.int .u8 0] (n * 64)) 5) = w0 at *
  go_wp2_with fail
  go_loopw [11] (fun i wr => ∃ k : Nat, k ≤ n ∧ i = .int .i64 (k : Int) ∧ Row8 wr w.heap.size 5 (upTo D.L n k) ∧ Keeps (fun b => b = w.heap.size) w0 wr) (fun i _ => n - (intOf i).toNat)
  case atStart => exact ⟨0, by omega, rfl, by rw [upTo_zero]; exact R0.out, Keeps.refl _ _⟩
  case round =>
    obtain ⟨k, hk, rfl, hrow, kp⟩ := hrel
    have HROW := Lib.hid hrow
    have hrs := hrow.lt_
    clear hrow
    have hp0 : p < w.heap.size := (Array.getElem?_eq_some_iff.1 h.head).1
    have hl0 : lb < w.heap.size := (Array.getElem?_eq_some_iff.1 h.rows).1
    by_cases hlt : k < n
    · have c0 : wr.cell? ⟨p, 0, none⟩ = some (.slice (some ⟨lb, 0, none⟩) n n) := (kp.cell p 0 (by rw [HSZ.out]; omega) (by omega)).trans h1.c.1
      have c0' : wr.drew.cell? ⟨p, 0, none⟩ = some (.slice (some ⟨lb, 0, none⟩) n n) := c0
      have rl : wr.heap[lb]? = some (.cells (D.L.map B8).toArray 71 (0, 0)) := (kp.block lb (by rw [HSZ.out]; omega) (by omega)).trans h1.rows
      have RL := Lib.hid rl
      have hlm : k * 64 < n * 64 := by omega
      clear rl c0
      go_wp2_with fail
      refine wp_region_still_tail 11 (by kernel_rfl) (by kernel_rfl) ?_
      simp only [List.take_succ_cons, List.take_zero, List.drop_succ_cons, List.drop_zero]
      change wpStill _ _ wr.drew (fun a' => wpList _ _ _ _ a' wr.drew) _ _
      have E : Hid (wr.drew.heap = wr.heap) := rfl
      have hr2 : Row8 wr.drew w.heap.size 5 (upTo D.L n k) := HROW.out
      have hb2 := br_block (w := wr.drew) RL.out (k * 64) 64
      have kd : Keeps (fun b => b = w.heap.size) wr wr.drew := Keeps.drew _ _
      have hsl : (sec D.L k).length = 64 := sec_lenL (by rw [HLEN.out]; omega)
      have cpy := fun ty => run_copy8 (P := Try.prog) wr.drew 30 30 ty 5 5 Try.underlying30 (by kernel_rfl) w.heap.size (k * 64) (n * 64 - k * 64) (n * 64 - k * 64) (some ⟨w.heap.size, k * 64, none⟩) (upTo D.L n k) (sec D.L k) (some ⟨lb, k * 64, none⟩) 64 _ (fun _ => rfl) hr2 hb2 (by rw [hsl]; omega) (by rw [hsl, upTo_len _ _ _ HLEN.out (by omega)]; omega)
      rw [hsl, upTo_step _ _ _ HLEN.out hlt] at cpy
      have CPY := Lib.hid cpy
      clear hr2 hb2 cpy hsl
      generalize wr.drew = w2 at *
      have h3 : (0 : Int) ≤ (k : Int) * 64 := by omega
      have h4 : (k : Int) * 64 ≤ (n : Int) * 64 := by omega
      have h5 : ¬ n * 64 = k * 64 := by omega
      have htn : ((k : Int) * 64).toNat = k * 64 := by omega
      have hwr := IntWalk.i64_in ((k : Int) * 64) (by omega)
      still_step
      still_step
      still_step
      still_step
      still_step
      still_step
      still_step
      still_step
      still_step
      still_step
      still_step
      refine wpStill_nil ?_
      obtain ⟨w3, hrun, hrow3, hg3⟩ := CPY.out 3
      clear CPY hwr htn h3 h4 h5
      have ROW3 := Lib.hid hrow3
      clear hrow3
      go_wp2
      go_roundw
      case rel => exact ⟨k + 1, by omega, by go_num, ROW3.out, (kp.trans kd).trans (Keeps.grown _ hg3 (fun b e => by cases e; rfl))⟩
      case measure => simp [intOf]; omega
    · obtain rfl : k = n := by omega
      have hrow := HROW.out
      rw [upTo_all _ _ HLEN.out] at hrow
      have HR := Lib.hid hrow
      clear hrow HROW
      go_wp2
      go_ret
      refine givesB_row (by rw [HLEN.out]; omega) HR.out ?_
      exact (k0.ofFalse.trans kp).toBelow _ (Nat.le_refl _) (fun b e => by omega)

/-- How many sectors so many bytes take. -/
def nBytes (l : Nat) : Nat := (l + 63) / 64
/-- Bytes, filled up with noughts to whole sectors. -/
def padded (xs : List UInt8) : List UInt8 := xs ++ List.replicate (nBytes xs.length * 64 - xs.length) 0
theorem padded_len (xs : List UInt8) : (padded xs).length = 64 * nBytes xs.length := by simp [padded, nBytes]; omega
def ofD (xs : List UInt8) : DSt := { fresh (nBytes xs.length) with L := padded xs }
theorem drop_past (P R : List UInt8) (a b : Nat) (h : P.length = a) : (P ++ R).drop (a + b) = R.drop b := by
  subst h
  rw [List.drop_append, List.drop_of_length_le (by omega), List.nil_append]
  congr 1
  omega
/-- A sector's worth of bytes laid over noughts. -/
theorem lay_step (xs : List UInt8) (k : Nat) (hk : k < nBytes xs.length) :
    splice (upTo (padded xs) (nBytes xs.length) k) (k * 64) ((xs.drop (k * 64)).take 64) = upTo (padded xs) (nBytes xs.length) (k + 1) := by
  have hl := padded_len xs
  rw [← upTo_step _ _ _ hl hk]
  generalize hn : nBytes xs.length = n at *
  have hsec : sec (padded xs) k = (xs.drop (k * 64)).take 64 ++ List.replicate (64 - ((xs.drop (k * 64)).take 64).length) 0 := by
    unfold sec padded
    rw [hn]
    have hb : k * 64 ≤ xs.length := by unfold nBytes at hn; omega
    rw [List.drop_append_of_le_length hb, List.take_append, List.take_replicate]
    congr 2
    simp only [List.length_take, List.length_drop]
    unfold nBytes at hn
    omega
  rw [hsec]
  generalize hm : (xs.drop (k * 64)).take 64 = ys
  have hy : ys.length ≤ 64 := by rw [← hm]; simp; omega
  unfold splice upTo
  have e0 : ((padded xs).take (k * 64)).length = k * 64 := by rw [List.length_take, hl]; omega
  have e1 : ((padded xs).take (k * 64) ++ List.replicate (n * 64 - k * 64) (0 : UInt8)).take (k * 64) = (padded xs).take (k * 64) := by
    rw [List.take_append_of_le_length (by omega), List.take_of_length_le (by omega)]
  rw [e1, List.length_append, List.length_replicate]
  congr 1
  rw [List.append_assoc]
  congr 1
  rw [drop_past _ _ _ _ e0, drop_past _ _ _ _ e0, List.drop_replicate, List.drop_replicate, List.replicate_append_replicate]
  congr 1
  omega
end Go.Proofs.Ythbdhmjmboliiaa
