/-
  Merged by wip/tools/merge.py: DkBytes DkOf
-/
import Derived.Test.YtebecpjecchfoaaGreatDoorGDk
import Derived.DataElems
namespace Go.Proofs.YtebecpjecchfoaaGreatDoor
open Go.RowKit Go.Maps

/-- The first k sectors' bytes, noughts behind them. -/
def upTo (L : List UInt8) (n k : Nat) : List UInt8 := L.take (k * 64) ++ List.replicate (n * 64 - k * 64) 0
theorem upTo_len (L : List UInt8) (n k : Nat) (h : L.length = 64 * n) (hk : k ≤ n) : (upTo L n k).length = n * 64 := by simp [upTo]; omega
theorem upTo_zero (L : List UInt8) (n : Nat) : upTo L n 0 = List.replicate (n * 64) 0 := by simp [upTo]
theorem upTo_all (L : List UInt8) (n : Nat) (h : L.length = 64 * n) : upTo L n n = L := by
  unfold upTo
  rw [Nat.sub_self, List.replicate_zero, List.append_nil, List.take_of_length_le (by omega)]
theorem upTo_step (L : List UInt8) (n k : Nat) (h : L.length = 64 * n) (hk : k < n) : splice (upTo L n k) (k * 64) (sec L k) = upTo L n (k + 1) := by
  have hl : (sec L k).length = 64 := sec_lenL (by omega)
  unfold splice
  rw [hl]
  unfold upTo
  have e1 : (L.take (k * 64) ++ List.replicate (n * 64 - k * 64) (0 : UInt8)).take (k * 64) = L.take (k * 64) := by
    rw [List.take_append_of_le_length (by simp; omega), List.take_of_length_le (by simp; omega)]
  have e2 : (L.take (k * 64) ++ List.replicate (n * 64 - k * 64) (0 : UInt8)).drop (k * 64 + 64) = List.replicate (n * 64 - (k + 1) * 64) 0 := by
    rw [List.drop_append, List.drop_of_length_le (by simp; omega), List.nil_append, List.drop_replicate]
    congr 1
    simp
    omega
  rw [e1, e2, ← List.append_assoc]
  congr 1
  unfold sec
  rw [show (k + 1) * 64 = k * 64 + 64 from by omega, List.take_add]

/-- What Bytes gives: a row of its own. -/
def BytesOut (w : World) (n : Nat) (L : List UInt8) (e : Ending) (w' : World) : Prop := e = .returned (.slice (some ⟨w.heap.size, 0, none⟩) (n * 64) (n * 64)) ∧ Row8 w' w.heap.size 5 L ∧ Below w.heap.size w w'
set_option maxRecDepth 100000 in
set_option maxHeartbeats 1000000 in
theorem bytes_row {w : World} {p lb mb n : Nat} {iv : Value} {D : DSt} (h : DkAt w p lb mb n iv D) :
    Calls Tryz.prog 22 #[.pointer (some ⟨p, 0, none⟩)] w (BytesOut w n D.L) := by
  have hn := h.ok.n_le
  have hlen := h.ok.len
  have HLEN := Lib.hid hlen
  clear hlen
  have hmk : ∀ w : World, (Instr.makeSlice 34 (.int .i64 ((n : Int) * 64)) (.int .i64 ((n : Int) * 64))).run Tryz.prog w = .ok (.slice (some ⟨w.heap.size, 0, none⟩) (n * 64) (n * 64)) (w.alloc (.cells (madeCells #[.int .u8 0] (n * 64)) 5)) := fun w => by
    have := make8 (n * 64) (by omega) w
    simpa using this
  have MK := Lib.hid hmk
  clear hmk
  have r0 := Row8.made w (n * 64) 5
  have k0 : Keeps (fun _ => False) w (w.alloc (.cells (madeCells #[.int .u8 0] (n * 64)) 5)) := Keeps.alloc _ _ _
  have h1 := h.same k0
  have R0 := Lib.hid r0
  clear r0
  go_enter Tryz.func22, Tryz.ntmps22
  go_wp2_with fail
  refine (len_at h).mono ?_
  rintro e w' ⟨rfl, rfl⟩
  go_wp2_with (((with_reducible refine here (op := .makeSlice 34 (.tmp 7) (.tmp 7)) ?_); refine wpList_make_run rfl 34 _ _ rfl _ _ _ rfl rfl (MK.out _) ?_))
  refine (len_at h1).mono ?_
  rintro e w' ⟨rfl, rfl⟩
  have hsz : (w.alloc (.cells (madeCells #[.int .u8 0] (n * 64)) 5)).heap.size = w.heap.size + 1 := by simp
  have HSZ := Lib.hid hsz
  clear hsz MK
  generalize w.alloc (.cells (madeCells #[.int .u8 0] (n * 64)) 5) = w0 at *
  go_wp2_with fail
  go_loopw [11] (fun i wr => ∃ k : Nat, k ≤ n ∧ i = .int .i64 (k : Int) ∧ Row8 wr w.heap.size 5 (upTo D.L n k) ∧ Keeps (fun b => b = w.heap.size) w0 wr) (fun i _ => n - (intOf i).toNat)
  case atStart => exact ⟨0, by omega, rfl, by rw [upTo_zero]; exact R0.out, Keeps.refl _ _⟩
  case round =>
    obtain ⟨k, hk, rfl, hrow, kp⟩ := hrel
    have HROW := Lib.hid hrow
    have hrs := hrow.lt_
    clear hrow
    have hp0 : p < w.heap.size := (Array.getElem?_eq_some_iff.1 h.head).1
    have hl0 : lb < w.heap.size := (Array.getElem?_eq_some_iff.1 h.rows).1
    by_cases hlt : k < n
    · have c0 : wr.cell? ⟨p, 0, none⟩ = some (.slice (some ⟨lb, 0, none⟩) n n) := (kp.cell p 0 (by rw [HSZ.out]; omega) (by omega)).trans h1.c.1
      have c0' : wr.drew.cell? ⟨p, 0, none⟩ = some (.slice (some ⟨lb, 0, none⟩) n n) := c0
      have rl : wr.heap[lb]? = some (.cells (D.L.map B8).toArray 128 (0, 0)) := (kp.block lb (by rw [HSZ.out]; omega) (by omega)).trans h1.rows
      have RL := Lib.hid rl
      have hlm : k * 64 < n * 64 := by omega
      clear rl c0
      go_wp2_with fail
      refine wp_region_still_tail 11 (by kernel_rfl) (by kernel_rfl) ?_
      simp only [List.take_succ_cons, List.take_zero, List.drop_succ_cons, List.drop_zero]
      change wpStill _ _ wr.drew (fun a' => wpList _ _ _ _ a' wr.drew) _ _
      have E : Hid (wr.drew.heap = wr.heap) := rfl
      have hr2 : Row8 wr.drew w.heap.size 5 (upTo D.L n k) := HROW.out
      have hb2 := br_block (w := wr.drew) RL.out (k * 64) 64
      have kd : Keeps (fun b => b = w.heap.size) wr wr.drew := Keeps.drew _ _
      have hsl : (sec D.L k).length = 64 := sec_lenL (by rw [HLEN.out]; omega)
      have cpy := fun ty => run_copy8 (P := Tryz.prog) wr.drew 34 34 ty 5 5 Tryz.underlying34 (by kernel_rfl) w.heap.size (k * 64) (n * 64 - k * 64) (n * 64 - k * 64) (some ⟨w.heap.size, k * 64, none⟩) (upTo D.L n k) (sec D.L k) (some ⟨lb, k * 64, none⟩) 64 _ (fun _ => rfl) hr2 hb2 (by rw [hsl]; omega) (by rw [hsl, upTo_len _ _ _ HLEN.out (by omega)]; omega)
      rw [hsl, upTo_step _ _ _ HLEN.out hlt] at cpy
      have CPY := Lib.hid cpy
      clear hr2 hb2 cpy hsl
      generalize wr.drew = w2 at *
      have h3 : (0 : Int) ≤ (k : Int) * 64 := by omega
      have h4 : (k : Int) * 64 ≤ (n : Int) * 64 := by omega
      have h5 : ¬ n * 64 = k * 64 := by omega
      have htn : ((k : Int) * 64).toNat = k * 64 := by omega
      have hwr := IntWalk.i64_in ((k : Int) * 64) (by omega)
      still_step
      still_step
      still_step
      still_step
      still_step
      still_step
      still_step
      still_step
      still_step
      still_step
      still_step
      refine wpStill_nil ?_
      obtain ⟨w3, hrun, hrow3, hg3⟩ := CPY.out 3
      clear CPY hwr htn h3 h4 h5
      have ROW3 := Lib.hid hrow3
      clear hrow3
      go_wp2
      go_roundw
      case rel => exact ⟨k + 1, by omega, by go_num, ROW3.out, (kp.trans kd).trans (Keeps.grown _ hg3 (fun b e => by cases e; rfl))⟩
      case measure => simp [intOf]; omega
    · obtain rfl : k = n := by omega
      have hrow := HROW.out
      rw [upTo_all _ _ HLEN.out] at hrow
      have HR := Lib.hid hrow
      clear hrow HROW
      go_wp2
      go_ret
      exact ⟨rfl, HR.out, (k0.ofFalse.trans kp).toBelow _ (Nat.le_refl _) (fun b e => by omega)⟩
theorem bytes_at {w : World} {p lb mb n : Nat} {iv : Value} {D : DSt} (h : DkAt w p lb mb n iv D) :
    Calls Tryz.prog 22 #[.pointer (some ⟨p, 0, none⟩)] w (GivesB w D.L) :=
  (bytes_row h).mono fun e w' ⟨he, hr, hb⟩ => by
    rw [he]
    exact givesB_row (by rw [h.ok.len]; omega) hr hb

/-- How many sectors so many bytes take. -/
def nBytes (l : Nat) : Nat := (l + 63) / 64
/-- Bytes, filled up with noughts to whole sectors. -/
def padded (xs : List UInt8) : List UInt8 := xs ++ List.replicate (nBytes xs.length * 64 - xs.length) 0
theorem padded_len (xs : List UInt8) : (padded xs).length = 64 * nBytes xs.length := by simp [padded, nBytes]; omega
def ofD (xs : List UInt8) : DSt := { fresh (nBytes xs.length) with L := padded xs }
theorem drop_past (P R : List UInt8) (a b : Nat) (h : P.length = a) : (P ++ R).drop (a + b) = R.drop b := by
  subst h
  rw [List.drop_append, List.drop_of_length_le (by omega), List.nil_append]
  congr 1
  omega
/-- A sector's worth of bytes laid over noughts. -/
theorem lay_step (xs : List UInt8) (k : Nat) (hk : k < nBytes xs.length) :
    splice (upTo (padded xs) (nBytes xs.length) k) (k * 64) ((xs.drop (k * 64)).take 64) = upTo (padded xs) (nBytes xs.length) (k + 1) := by
  have hl := padded_len xs
  rw [← upTo_step _ _ _ hl hk]
  generalize hn : nBytes xs.length = n at *
  have hsec : sec (padded xs) k = (xs.drop (k * 64)).take 64 ++ List.replicate (64 - ((xs.drop (k * 64)).take 64).length) 0 := by
    unfold sec padded
    rw [hn]
    have hb : k * 64 ≤ xs.length := by unfold nBytes at hn; omega
    rw [List.drop_append_of_le_length hb, List.take_append, List.take_replicate]
    congr 2
    simp only [List.length_take, List.length_drop]
    unfold nBytes at hn
    omega
  rw [hsec]
  generalize hm : (xs.drop (k * 64)).take 64 = ys
  have hy : ys.length ≤ 64 := by rw [← hm]; simp; omega
  unfold splice upTo
  have e0 : ((padded xs).take (k * 64)).length = k * 64 := by rw [List.length_take, hl]; omega
  have e1 : ((padded xs).take (k * 64) ++ List.replicate (n * 64 - k * 64) (0 : UInt8)).take (k * 64) = (padded xs).take (k * 64) := by
    rw [List.take_append_of_le_length (by omega), List.take_of_length_le (by omega)]
  rw [e1, List.length_append, List.length_replicate]
  congr 1
  rw [List.append_assoc]
  congr 1
  rw [drop_past _ _ _ _ e0, drop_past _ _ _ _ e0, List.drop_replicate, List.drop_replicate, List.replicate_append_replicate]
  congr 1
  omega
end Go.Proofs.YtebecpjecchfoaaGreatDoor
namespace Go.Proofs.YtebecpjecchfoaaGreatDoor
open Go.RowKit Go.Maps

theorem nOf_nat (k : Nat) (h : k ≤ 2000) : nOf (k : Int) = k := by unfold nOf; omega

set_option maxRecDepth 100000 in
set_option maxHeartbeats 1000000 in
theorem of_any (A : Option Addr) (xs : List UInt8) (c : Nat) (w : World) (hx : BR w w.heap.size A xs) (hl : xs.length ≤ 128000) (hc : xs.length ≤ c) :
    Calls Tryz.prog 43 #[.slice A xs.length c] w (Made w (ofD xs)) := by
  have hm : nBytes xs.length ≤ 2000 := by unfold nBytes; omega
  have hq : ((xs.length : Int) + 64 - 1) / 64 = (nBytes xs.length : Int) := by unfold nBytes; omega
  have HQ := Lib.hid hq
  have hnew := new_any ((nBytes xs.length : Nat) : Int) w
  rw [nOf_nat _ hm] at hnew
  have HN := Lib.hid hnew
  clear hq hnew
  go_enter Tryz.func43, Tryz.ntmps43
  go_wp2_with fail
  rw [HQ.out]
  refine HN.out.mono ?_
  rintro e w1 ⟨p, rfl, hd, k1⟩
  obtain ⟨lb, mb, n, iv, h1, fp, fl, fm, fi⟩ := hd
  have hn : n = nBytes xs.length := by have := h1.ok.len; simp [fresh] at this; omega
  subst hn
  have c0 := h1.c.1
  clear HQ HN
  have hstep := fun k hk => lay_step xs k hk
  have HST := Lib.hid hstep
  have HPL := Lib.hid (padded_len xs)
  clear hstep
  have hpl : p < w1.heap.size := (Array.getElem?_eq_some_iff.1 h1.head).1
  have hll : lb < w1.heap.size := (Array.getElem?_eq_some_iff.1 h1.rows).1
  have ap := h1.apart
  have hnb : Hid (∀ k, k < nBytes xs.length → k * 64 < xs.length) := fun k hk => by unfold nBytes at hk; omega
  generalize nBytes xs.length = n at *
  go_wp2_with fail
  go_loopw [16] (fun i wr => ∃ k : Nat, k ≤ n ∧ i = .int .i64 (k : Int) ∧ wr.heap[lb]? = some (.cells ((upTo (padded xs) n k).map B8).toArray 128 (0, 0)) ∧ Keeps (· = lb) w1 wr) (fun i _ => n - (intOf i).toNat)
  case atStart => exact ⟨0, by omega, rfl, by rw [upTo_zero]; exact h1.rows, Keeps.refl _ _⟩
  case round =>
    obtain ⟨k, hk, rfl, hrow, kp⟩ := hrel
    have HROW := Lib.hid hrow
    clear hrow
    by_cases hlt : k < n
    · have hkx := hnb.out k hlt
      have cr : wr.drew.cell? ⟨p, 0, none⟩ = some (.slice (some ⟨lb, 0, none⟩) n n) := (kp.cell p 0 hpl ap.1).trans c0
      obtain ⟨ad, rfl, had, hcs⟩ := hx (by intro e; rw [e] at hkx; simp at hkx)
      have hra : wr.drew.heap[lb]? = some (.cells ((upTo (padded xs) n k).map B8).toArray 128 (0, 0)) := HROW.out
      have hul := upTo_len (padded xs) n k HPL.out (by omega)
      have hcl : ((xs.drop (k * 64)).take 64).length = Nat.min (xs.length - k * 64) 64 := by rw [List.length_take, List.length_drop, Nat.min_comm]
      have hml : Nat.min (xs.length - k * 64) 64 ≤ 64 := Nat.min_le_right _ _
      have cpy := fun ty => run_copy_row (P := Tryz.prog) wr.drew 34 34 ty 5 lb (k * 64) 64 64 (ad.add (k * 64)) (xs.length - k * 64) (c - k * 64) _ 128 (((xs.drop (k * 64)).take 64).map B8) Tryz.underlying34 (by kernel_rfl) hra (by rw [List.length_map]; exact hcl) (fun j v hj => by
        simp only [List.getElem?_map, Option.map_eq_some_iff] at hj
        obtain ⟨u, hu, rfl⟩ := hj
        rw [List.getElem?_take] at hu
        split at hu
        · rw [List.getElem?_drop] at hu
          have hne : ad.block ≠ lb := by have : w.heap.size ≤ lb := fl; omega
          have e1 : wr.drew.cell? (ad.add (k * 64 + j)) = w1.cell? (ad.add (k * 64 + j)) := World.cell?_of_block (w := w1) (by rw [block_add]; exact kp.block _ (Nat.lt_of_lt_of_le had k1.size) hne)
          have e2 : w1.cell? (ad.add (k * 64 + j)) = w.cell? (ad.add (k * 64 + j)) := World.cell?_of_block (w := w) (by rw [block_add]; exact k1.block _ had (fun h => h))
          rw [Addr.add_add, e1, e2]
          exact hcs _ u hu
        · cases hu) (by rw [List.length_map, hcl]; simp only [List.size_toArray, List.length_map, hul]; generalize Nat.min (xs.length - k * 64) 64 = q at *; omega) (fun v hv => by
        simp only [List.mem_map] at hv
        obtain ⟨u, _, rfl⟩ := hv
        rfl)
      have CP := Lib.hid cpy
      have HUL := Lib.hid hul
      clear cpy hul hcl hra
      have kd : Keeps (· = lb) wr wr.drew := Keeps.drew _ _
      have E : Hid (wr.drew.heap[lb]? = some (.cells ((upTo (padded xs) n k).map B8).toArray 128 (0, 0))) := HROW.out
      go_wp2_with fail
      refine wp_region_still_tail 11 (by kernel_rfl) (by kernel_rfl) ?_
      simp only [List.take_succ_cons, List.take_zero, List.drop_succ_cons, List.drop_zero]
      change wpStill _ _ wr.drew (fun a' => wpList _ _ _ _ a' wr.drew) _ _
      generalize wr.drew = w2 at *
      have h3 : (0 : Int) ≤ (k : Int) * 64 := by omega
      have h4 : (k : Int) * 64 ≤ (xs.length : Int) := by omega
      have h5 : ¬ c = k * 64 := by omega
      have htn : ((k : Int) * 64).toNat = k * 64 := by omega
      have hwr := IntWalk.i64_in ((k : Int) * 64) (by omega)
      still_step
      still_step
      still_step
      still_step
      still_step
      still_step
      still_step
      still_step
      still_step
      still_step
      still_step
      refine wpStill_nil ?_
      clear hwr htn h3 h4 h5
      have hrun := CP.out 3
      clear CP
      have e3 : ((((upTo (padded xs) n k).map B8).toArray.toList.take (k * 64) ++ ((xs.drop (k * 64)).take 64).map B8 ++ ((upTo (padded xs) n k).map B8).toArray.toList.drop (k * 64 + (((xs.drop (k * 64)).take 64).map B8).length)).toArray) = ((upTo (padded xs) n (k + 1)).map B8).toArray := by
        rw [← HST.out k hlt]
        simp [splice, List.map_take, List.map_drop]
      rw [e3] at hrun
      have G3 : Hid ((w2.setRow lb ((upTo (padded xs) n (k + 1)).map B8).toArray).heap[lb]? = some (.cells ((upTo (padded xs) n (k + 1)).map B8).toArray 128 (0, 0))) := setRow_heap w2 lb _ _ _ _ E.out
      have K3 : Keeps (· = lb) w2 (w2.setRow lb ((upTo (padded xs) n (k + 1)).map B8).toArray) := ⟨rfl, rfl, rfl, by rw [size_setRow]; exact Nat.le_refl _, fun j _ hj => setRow_other w2 lb j _ hj⟩
      clear e3
      generalize w2.setRow lb ((upTo (padded xs) n (k + 1)).map B8).toArray = w3 at *
      go_wp2
      go_roundw
      case rel => exact ⟨k + 1, by omega, by go_num, G3.out, (kp.trans kd).trans K3⟩
      case measure => simp [intOf]; omega
    · obtain rfl : k = n := by omega
      have hrow := HROW.out
      rw [upTo_all _ _ HPL.out] at hrow
      have HR := Lib.hid hrow
      clear hrow HROW
      go_wp2
      go_ret
      have hD := h1.withL kp (padded xs) (by rw [HPL.out, h1.ok.len]) HR.out
      refine ⟨p, rfl, ⟨lb, mb, k, iv, ?_, fp, fl, fm, fi⟩, ?_⟩
      · exact hD
      · refine ⟨kp.os.trans k1.os, kp.tape.trans k1.tape, kp.output.trans k1.output, Nat.le_trans k1.size kp.size, fun j hj _ => (kp.block j (Nat.lt_of_lt_of_le hj k1.size) (by have : w.heap.size ≤ lb := fl; omega)).trans (k1.block j hj (fun h => h))⟩
end Go.Proofs.YtebecpjecchfoaaGreatDoor
