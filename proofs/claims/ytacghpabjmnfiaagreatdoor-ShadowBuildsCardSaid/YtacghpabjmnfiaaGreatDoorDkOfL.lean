/-
  DkOfL
-/
import Derived.Test.YtacghpabjmnfiaaGreatDoorGDo
namespace Go.Proofs.YtacghpabjmnfiaaGreatDoor
open Go.RowKit Go.Maps

theorem take_same (xs : List UInt8) (k : Nat) (hk : k < 2000) : (xs.drop (k * 64)).take 64 = ((xs.take 128000).drop (k * 64)).take 64 := by
  rw [List.drop_take, List.take_take, Nat.min_eq_left (by omega)]
theorem nOf_long (xs : List UInt8) : nOf ((nBytes xs.length : Nat) : Int) = nBytes (xs.take 128000).length := by
  unfold nOf nBytes
  rw [List.length_take]
  omega
theorem long_le (xs : List UInt8) : nBytes (xs.take 128000).length ≤ 2000 := by
  unfold nBytes
  rw [List.length_take]
  omega
theorem long_lt (xs : List UInt8) (k : Nat) (hk : k < nBytes (xs.take 128000).length) : k * 64 < xs.length := by
  unfold nBytes at hk
  rw [List.length_take] at hk
  omega

set_option maxRecDepth 100000 in
set_option maxHeartbeats 1000000 in
theorem of_long (A : Option Addr) (xs : List UInt8) (c : Nat) (w : World) (hx : BR w w.heap.size A xs) (hl : xs.length ≤ 140737488355328) (hc : xs.length ≤ c) :
    Calls Tryz.prog 20 #[.slice A xs.length c] w (Made w (ofD (xs.take 128000))) := by
  have hq : ((xs.length : Int) + 64 - 1) / 64 = (nBytes xs.length : Int) := by unfold nBytes; omega
  have HQ := Lib.hid hq
  have hnew := new_any ((nBytes xs.length : Nat) : Int) w
  rw [nOf_long] at hnew
  have HN := Lib.hid hnew
  have hm := long_le xs
  clear hq hnew
  go_enter Tryz.func20, Tryz.ntmps20
  go_wp2_with fail
  rw [HQ.out]
  refine HN.out.mono ?_
  rintro e w1 ⟨p, rfl, hd, k1⟩
  obtain ⟨lb, mb, n, iv, h1, fp, fl, fm, fi⟩ := hd
  have hn : n = nBytes (xs.take 128000).length := by have := h1.ok.len; simp [fresh] at this; simp; omega
  subst hn
  have c0 := h1.c.1
  clear HQ HN
  have hstep := fun k (hk : k < nBytes (xs.take 128000).length) => (show splice (upTo (padded (xs.take 128000)) (nBytes (xs.take 128000).length) k) (k * 64) ((xs.drop (k * 64)).take 64) = upTo (padded (xs.take 128000)) (nBytes (xs.take 128000).length) (k + 1) by rw [take_same xs k (by omega)]; exact lay_step (xs.take 128000) k hk)
  have HST := Lib.hid hstep
  have HPL := Lib.hid (padded_len (xs.take 128000))
  clear hstep
  have hpl : p < w1.heap.size := (Array.getElem?_eq_some_iff.1 h1.head).1
  have hll : lb < w1.heap.size := (Array.getElem?_eq_some_iff.1 h1.rows).1
  have ap := h1.apart
  have hnb : Hid (∀ k, k < nBytes (xs.take 128000).length → k * 64 < xs.length) := long_lt xs
  generalize xs.take 128000 = ys at *
  generalize nBytes ys.length = n at *
  go_wp2_with fail
  go_loopw [16] (fun i wr => ∃ k : Nat, k ≤ n ∧ i = .int .i64 (k : Int) ∧ wr.heap[lb]? = some (.cells ((upTo (padded ys) n k).map B8).toArray 139 (0, 0)) ∧ Keeps (· = lb) w1 wr) (fun i _ => n - (intOf i).toNat)
  case atStart => exact ⟨0, by omega, rfl, by rw [upTo_zero]; exact h1.rows, Keeps.refl _ _⟩
  case round =>
    obtain ⟨k, hk, rfl, hrow, kp⟩ := hrel
    have HROW := Lib.hid hrow
    clear hrow
    by_cases hlt : k < n
    · have hkx := hnb.out k hlt
      have cr : wr.drew.cell? ⟨p, 0, none⟩ = some (.slice (some ⟨lb, 0, none⟩) n n) := (kp.cell p 0 hpl ap.1).trans c0
      obtain ⟨ad, rfl, had, hcs⟩ := hx (by intro e; rw [e] at hkx; simp at hkx)
      have hra : wr.drew.heap[lb]? = some (.cells ((upTo (padded ys) n k).map B8).toArray 139 (0, 0)) := HROW.out
      have hul := upTo_len (padded ys) n k HPL.out (by omega)
      have hcl : ((xs.drop (k * 64)).take 64).length = Nat.min (xs.length - k * 64) 64 := by rw [List.length_take, List.length_drop, Nat.min_comm]
      have hml : Nat.min (xs.length - k * 64) 64 ≤ 64 := Nat.min_le_right _ _
      have cpy := fun ty => run_copy_row (P := Tryz.prog) wr.drew 30 30 ty 5 lb (k * 64) 64 64 (ad.add (k * 64)) (xs.length - k * 64) (c - k * 64) _ 139 (((xs.drop (k * 64)).take 64).map B8) Tryz.underlying30 (by kernel_rfl) hra (by rw [List.length_map]; exact hcl) (fun j v hj => by
        simp only [List.getElem?_map, Option.map_eq_some_iff] at hj
        obtain ⟨u, hu, rfl⟩ := hj
        rw [List.getElem?_take] at hu
        split at hu
        · rw [List.getElem?_drop] at hu
          have hne : ad.block ≠ lb := by have : w.heap.size ≤ lb := fl; omega
          have e1 : wr.drew.cell? (ad.add (k * 64 + j)) = w1.cell? (ad.add (k * 64 + j)) := World.cell?_of_block (w := w1) (by rw [block_add]; exact kp.block _ (Nat.lt_of_lt_of_le had k1.size) hne)
          have e2 : w1.cell? (ad.add (k * 64 + j)) = w.cell? (ad.add (k * 64 + j)) := World.cell?_of_block (w := w) (by rw [block_add]; exact k1.block _ had (fun h => h))
          rw [Addr.add_add, e1, e2]
          exact hcs _ u hu
        · cases hu) (by rw [List.length_map, hcl]; simp only [List.size_toArray, List.length_map, hul]; generalize Nat.min (xs.length - k * 64) 64 = q at *; omega) (fun v hv => by
        simp only [List.mem_map] at hv
        obtain ⟨u, _, rfl⟩ := hv
        rfl)
      have CP := Lib.hid cpy
      have HUL := Lib.hid hul
      clear cpy hul hcl hra
      have kd : Keeps (· = lb) wr wr.drew := Keeps.drew _ _
      have E : Hid (wr.drew.heap[lb]? = some (.cells ((upTo (padded ys) n k).map B8).toArray 139 (0, 0))) := HROW.out
      go_wp2_with fail
      refine wp_region_still_tail 11 (by kernel_rfl) (by kernel_rfl) ?_
      simp only [List.take_succ_cons, List.take_zero, List.drop_succ_cons, List.drop_zero]
      change wpStill _ _ wr.drew (fun a' => wpList _ _ _ _ a' wr.drew) _ _
      generalize wr.drew = w2 at *
      have h3 : (0 : Int) ≤ (k : Int) * 64 := by omega
      have h4 : (k : Int) * 64 ≤ (xs.length : Int) := by omega
      have h5 : ¬ c = k * 64 := by omega
      have htn : ((k : Int) * 64).toNat = k * 64 := by omega
      have hwr := IntWalk.i64_in ((k : Int) * 64) (by omega)
      still_step
      still_step
      still_step
      still_step
      still_step
      still_step
      still_step
      still_step
      still_step
      still_step
      still_step
      refine wpStill_nil ?_
      clear hwr htn h3 h4 h5
      have hrun := CP.out 3
      clear CP
      have e3 : ((((upTo (padded ys) n k).map B8).toArray.toList.take (k * 64) ++ ((xs.drop (k * 64)).take 64).map B8 ++ ((upTo (padded ys) n k).map B8).toArray.toList.drop (k * 64 + (((xs.drop (k * 64)).take 64).map B8).length)).toArray) = ((upTo (padded ys) n (k + 1)).map B8).toArray := by
        rw [← HST.out k hlt]
        simp [splice, List.map_take, List.map_drop]
      rw [e3] at hrun
      have G3 : Hid ((w2.setRow lb ((upTo (padded ys) n (k + 1)).map B8).toArray).heap[lb]? = some (.cells ((upTo (padded ys) n (k + 1)).map B8).toArray 139 (0, 0))) := setRow_heap w2 lb _ _ _ _ E.out
      have K3 : Keeps (· = lb) w2 (w2.setRow lb ((upTo (padded ys) n (k + 1)).map B8).toArray) := ⟨rfl, rfl, rfl, by rw [size_setRow]; exact Nat.le_refl _, fun j _ hj => setRow_other w2 lb j _ hj⟩
      clear e3
      generalize w2.setRow lb ((upTo (padded ys) n (k + 1)).map B8).toArray = w3 at *
      go_wp2
      go_roundw
      case rel => exact ⟨k + 1, by omega, by go_num, G3.out, (kp.trans kd).trans K3⟩
      case measure => simp [intOf]; omega
    · obtain rfl : k = n := by omega
      have hrow := HROW.out
      rw [upTo_all _ _ HPL.out] at hrow
      have HR := Lib.hid hrow
      clear hrow HROW
      go_wp2
      go_ret
      have hD := h1.withL kp (padded ys) (by rw [HPL.out, h1.ok.len]) HR.out
      refine ⟨p, rfl, ⟨lb, mb, k, iv, ?_, fp, fl, fm, fi⟩, ?_⟩
      · exact hD
      · refine ⟨kp.os.trans k1.os, kp.tape.trans k1.tape, kp.output.trans k1.output, Nat.le_trans k1.size kp.size, fun j hj _ => (kp.block j (Nat.lt_of_lt_of_le hj k1.size) (by have : w.heap.size ≤ lb := fl; omega)).trans (k1.block j hj (fun h => h))⟩
end Go.Proofs.YtacghpabjmnfiaaGreatDoor
