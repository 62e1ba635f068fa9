/-
  RdOfL
-/
import Derived.Test.YtacghpabjmnfiaaGreatDoorGRd
import Derived.Test.YtacghpabjmnfiaaGreatDoorDkOfL
namespace Go.Proofs.YtacghpabjmnfiaaGreatDoor
open Go.RowKit Go.Maps

set_option maxRecDepth 100000 in
set_option maxHeartbeats 1000000 in
theorem refOf_long (A : Option Addr) (xs : List UInt8) (c : Nat) (w : World) (hx : BR w w.heap.size A xs) (hl : xs.length ≤ 140737488355328) (hc : xs.length ≤ c) :
    Calls Tryz.prog 22 #[.slice A xs.length c] w (RMade w (nBytes (xs.take 128000).length) (fillR (xs.take 128000) (nBytes (xs.take 128000).length))) := by
  have hm := long_le xs
  have hnew := refNew_any ((nBytes xs.length : Nat) : Int) w
  rw [nOf_long] at hnew
  have HNEW := Lib.hid hnew
  clear hnew
  by_cases hr : xs.length % 64 = 0
  · have hr' : ¬ (0 : Int) < (xs.length : Int) % 64 := by omega
    have hq : (xs.length : Int) / 64 = (nBytes xs.length : Int) := by unfold nBytes; omega
    have HQ := Lib.hid hq
    clear hq hr
    go_enter Tryz.func22, Tryz.ntmps22
    go_wp2_with fail
    rw [HQ.out]
    refine HNEW.out.mono ?_
    rintro e w1 ⟨p, v, G, rfl, inv⟩
    have HNB : Hid (∀ k, k < nBytes (xs.take 128000).length → k * 64 < xs.length) := long_lt xs
    have HSP : Hid (∀ k, k < nBytes (xs.take 128000).length → splice zs64 0 ((xs.drop (k * 64)).take 64) = sec (padded (xs.take 128000)) k) := fun k hk => by rw [take_same xs k (by omega)]; exact sec_padded (xs.take 128000) k hk
    have HSL : Hid (∀ k, k < nBytes (xs.take 128000).length → (sec (padded (xs.take 128000)) k).length = 64) := sec_pad_len (xs.take 128000)
    clear HQ HNEW
    generalize xs.take 128000 = ys at *
    generalize nBytes ys.length = n at *
    obtain ⟨A', cap', hv⟩ := inv.secs.form
    subst hv
    have c0 : w1.cell? ⟨p, 0, none⟩ = some (.slice A' n cap') := by rw [cell_of_row _ _ _ _ _ _ inv.head]; rfl
    go_wp2_with fail
    clear c0
    go_loopw [22, 5] (fun i _ wr => ∃ k : Nat, k ≤ n ∧ i = .int .i64 (k : Int) ∧ RNew w wr p n (.slice A' n cap') G (fillR ys k)) (fun i _ _ => n - (intOf i).toNat)
    case atStart =>
      have e0 : fillR ys 0 = fun _ => zs64 := by funext j; simp [fillR]
      exact ⟨0, by omega, rfl, by rw [e0]; exact inv⟩
    case round =>
      clear inv
      obtain ⟨k, hk, rfl, inv⟩ := hrel
      by_cases hlt : k < n
      · obtain ⟨g, cap, hv, hcell⟩ := inv.secs.at_ k hlt
        cases hv
        have hkx := HNB.out k hlt
        have hrow : Row8 wr (G k) 5 zs64 := by
          have h := (inv.secs.row k hlt).1
          have e1 : fillR ys k k = zs64 := by unfold fillR; rw [if_neg (by omega)]
          rw [e1] at h; exact h
        have hxr := inv.kp.br hx fun _ _ _ h => h
        obtain ⟨ad, rfl, had, hcs⟩ := hxr (by intro e; rw [e] at hkx; simp at hkx)
        have d0 : wr.drew.cell? ⟨p, 0, none⟩ = some (.slice (some ⟨g, 0, none⟩) n cap') := by show wr.cell? _ = _; rw [cell_of_row _ _ _ _ _ _ inv.head]; rfl
        have d1 : wr.drew.cell? ⟨g, k, none⟩ = some (.slice (some ⟨G k, 0, none⟩) 64 64) := hcell
        have hra : wr.drew.heap[G k]? = some (.cells (zs64.map B8).toArray 5 (0, 0)) := hrow.block
        have hcl : ((xs.drop (k * 64)).take 64).length = Nat.min (xs.length - k * 64) 64 := by rw [List.length_take, List.length_drop, Nat.min_comm]
        have hml : Nat.min (xs.length - k * 64) 64 ≤ 64 := Nat.min_le_right _ _
        have cpy := fun ty => run_copy_row (P := Tryz.prog) wr.drew 30 30 ty 5 (G k) 0 64 64 (ad.add (k * 64)) (xs.length - k * 64) (c - k * 64) _ 5 (((xs.drop (k * 64)).take 64).map B8) Tryz.underlying30 (by kernel_rfl) hra (by rw [List.length_map]; exact hcl) (fun j v hj => by
          simp only [List.getElem?_map, Option.map_eq_some_iff] at hj
          obtain ⟨u, hu, rfl⟩ := hj
          rw [List.getElem?_take] at hu
          split at hu
          · rw [List.getElem?_drop] at hu
            rw [Addr.add_add]
            exact hcs _ u hu
          · cases hu) (by rw [List.length_map, hcl]; simp only [List.size_toArray, List.length_map, zs64_len]; omega) (fun v hv => by
          simp only [List.mem_map] at hv
          obtain ⟨u, _, rfl⟩ := hv
          rfl)
        have CP := Lib.hid cpy
        have RA := Lib.hid hra
        clear cpy hcl hra hrow hcell
        have kd : Keeps (· = G k) wr wr.drew := Keeps.drew _ _
        have h3 : (0 : Int) ≤ (k : Int) * 64 := by omega
        have h4 : (k : Int) * 64 ≤ (xs.length : Int) := by omega
        have h5 : ¬ c = k * 64 := by omega
        have hk0 : (0 : Int) ≤ (k : Int) := by omega
        have hk1 : (k : Int) < (n : Int) := by omega
        go_wp2_with fail
        refine wp_region_still_tail 11 (by kernel_rfl) (by kernel_rfl) ?_
        simp only [List.take_succ_cons, List.take_zero, List.drop_succ_cons, List.drop_zero]
        change wpStill _ _ wr.drew (fun a' => wpList _ _ _ _ a' wr.drew) _ _
        generalize wr.drew = w2 at *
        have htn : ((k : Int) * 64).toNat = k * 64 := by omega
        have hwr := IntWalk.i64_in ((k : Int) * 64) (by omega)
        still_step
        still_step
        still_step
        still_step
        still_step
        still_step
        still_step
        still_step
        still_step
        still_step
        still_step
        refine wpStill_nil ?_
        clear hwr htn h3 h4 h5 hk0 hk1
        have hrun := CP.out 3
        clear CP
        have e3 : (((zs64.map B8).toArray.toList.take 0 ++ ((xs.drop (k * 64)).take 64).map B8 ++ (zs64.map B8).toArray.toList.drop (0 + (((xs.drop (k * 64)).take 64).map B8).length)).toArray) = ((sec (padded ys) k).map B8).toArray := by
          rw [← HSP.out k hlt]
          simp [splice, List.map_drop]
        rw [e3] at hrun
        have G3 : (w2.setRow (G k) ((sec (padded ys) k).map B8).toArray).heap[G k]? = some (.cells ((sec (padded ys) k).map B8).toArray 5 (0, 0)) := setRow_heap w2 (G k) _ _ _ _ RA.out
        have K3 : Keeps (· = G k) w2 (w2.setRow (G k) ((sec (padded ys) k).map B8).toArray) := ⟨rfl, rfl, rfl, by rw [size_setRow]; exact Nat.le_refl _, fun j _ hj => setRow_other w2 (G k) j _ hj⟩
        have k23 := kd.trans K3
        have INV : Hid (RNew w (w2.setRow (G k) ((sec (padded ys) k).map B8).toArray) p n (.slice (some ⟨g, 0, none⟩) n cap') G (fillR ys (k + 1))) := by
          have hGT := (inv.secs.row k hlt).2.2.1
          have hpl : p < wr.heap.size := (Array.getElem?_eq_some_iff.1 inv.head).1
          refine ⟨(k23.block _ hpl (by omega)).trans inv.head, ?_, ?_, inv.new⟩
          · rw [← fillR_step]
            exact inv.secs.put k hlt _ (HSL.out k hlt) k23 (Row8.of_block G3)
          · refine ⟨k23.os.trans inv.kp.os, k23.tape.trans inv.kp.tape, k23.output.trans inv.kp.output, Nat.le_trans inv.kp.size k23.size, fun b hb _ => ?_⟩
            have := inv.new
            rw [k23.block b (Nat.lt_of_lt_of_le hb inv.kp.size) (by omega)]
            exact inv.kp.block b hb (fun h => h)
        clear e3 G3 K3 k23 kd inv d0 d1 had hcs RA
        generalize w2.setRow (G k) ((sec (padded ys) k).map B8).toArray = w3 at *
        go_wp2
        go_roundw
        case rel => exact ⟨k + 1, by omega, by go_num, INV.out⟩
        case measure => simp [intOf]; omega
      · obtain rfl : k = n := by omega
        go_wp2_with fail
        go_ret
        exact ⟨p, _, G, rfl, inv⟩
  · have hr' : (0 : Int) < (xs.length : Int) % 64 := by omega
    have hq : (xs.length : Int) / 64 + 1 = (nBytes xs.length : Int) := by unfold nBytes; omega
    have HQ := Lib.hid hq
    clear hq hr
    go_enter Tryz.func22, Tryz.ntmps22
    go_wp2_with fail
    rw [HQ.out]
    refine HNEW.out.mono ?_
    rintro e w1 ⟨p, v, G, rfl, inv⟩
    have HNB : Hid (∀ k, k < nBytes (xs.take 128000).length → k * 64 < xs.length) := long_lt xs
    have HSP : Hid (∀ k, k < nBytes (xs.take 128000).length → splice zs64 0 ((xs.drop (k * 64)).take 64) = sec (padded (xs.take 128000)) k) := fun k hk => by rw [take_same xs k (by omega)]; exact sec_padded (xs.take 128000) k hk
    have HSL : Hid (∀ k, k < nBytes (xs.take 128000).length → (sec (padded (xs.take 128000)) k).length = 64) := sec_pad_len (xs.take 128000)
    clear HQ HNEW
    generalize xs.take 128000 = ys at *
    generalize nBytes ys.length = n at *
    obtain ⟨A', cap', hv⟩ := inv.secs.form
    subst hv
    have c0 : w1.cell? ⟨p, 0, none⟩ = some (.slice A' n cap') := by rw [cell_of_row _ _ _ _ _ _ inv.head]; rfl
    go_wp2_with fail
    clear c0
    go_loopw [22, 5] (fun i _ wr => ∃ k : Nat, k ≤ n ∧ i = .int .i64 (k : Int) ∧ RNew w wr p n (.slice A' n cap') G (fillR ys k)) (fun i _ _ => n - (intOf i).toNat)
    case atStart =>
      have e0 : fillR ys 0 = fun _ => zs64 := by funext j; simp [fillR]
      exact ⟨0, by omega, rfl, by rw [e0]; exact inv⟩
    case round =>
      clear inv
      obtain ⟨k, hk, rfl, inv⟩ := hrel
      by_cases hlt : k < n
      · obtain ⟨g, cap, hv, hcell⟩ := inv.secs.at_ k hlt
        cases hv
        have hkx := HNB.out k hlt
        have hrow : Row8 wr (G k) 5 zs64 := by
          have h := (inv.secs.row k hlt).1
          have e1 : fillR ys k k = zs64 := by unfold fillR; rw [if_neg (by omega)]
          rw [e1] at h; exact h
        have hxr := inv.kp.br hx fun _ _ _ h => h
        obtain ⟨ad, rfl, had, hcs⟩ := hxr (by intro e; rw [e] at hkx; simp at hkx)
        have d0 : wr.drew.cell? ⟨p, 0, none⟩ = some (.slice (some ⟨g, 0, none⟩) n cap') := by show wr.cell? _ = _; rw [cell_of_row _ _ _ _ _ _ inv.head]; rfl
        have d1 : wr.drew.cell? ⟨g, k, none⟩ = some (.slice (some ⟨G k, 0, none⟩) 64 64) := hcell
        have hra : wr.drew.heap[G k]? = some (.cells (zs64.map B8).toArray 5 (0, 0)) := hrow.block
        have hcl : ((xs.drop (k * 64)).take 64).length = Nat.min (xs.length - k * 64) 64 := by rw [List.length_take, List.length_drop, Nat.min_comm]
        have hml : Nat.min (xs.length - k * 64) 64 ≤ 64 := Nat.min_le_right _ _
        have cpy := fun ty => run_copy_row (P := Tryz.prog) wr.drew 30 30 ty 5 (G k) 0 64 64 (ad.add (k * 64)) (xs.length - k * 64) (c - k * 64) _ 5 (((xs.drop (k * 64)).take 64).map B8) Tryz.underlying30 (by kernel_rfl) hra (by rw [List.length_map]; exact hcl) (fun j v hj => by
          simp only [List.getElem?_map, Option.map_eq_some_iff] at hj
          obtain ⟨u, hu, rfl⟩ := hj
          rw [List.getElem?_take] at hu
          split at hu
          · rw [List.getElem?_drop] at hu
            rw [Addr.add_add]
            exact hcs _ u hu
          · cases hu) (by rw [List.length_map, hcl]; simp only [List.size_toArray, List.length_map, zs64_len]; omega) (fun v hv => by
          simp only [List.mem_map] at hv
          obtain ⟨u, _, rfl⟩ := hv
          rfl)
        have CP := Lib.hid cpy
        have RA := Lib.hid hra
        clear cpy hcl hra hrow hcell
        have kd : Keeps (· = G k) wr wr.drew := Keeps.drew _ _
        have h3 : (0 : Int) ≤ (k : Int) * 64 := by omega
        have h4 : (k : Int) * 64 ≤ (xs.length : Int) := by omega
        have h5 : ¬ c = k * 64 := by omega
        have hk0 : (0 : Int) ≤ (k : Int) := by omega
        have hk1 : (k : Int) < (n : Int) := by omega
        go_wp2_with fail
        refine wp_region_still_tail 11 (by kernel_rfl) (by kernel_rfl) ?_
        simp only [List.take_succ_cons, List.take_zero, List.drop_succ_cons, List.drop_zero]
        change wpStill _ _ wr.drew (fun a' => wpList _ _ _ _ a' wr.drew) _ _
        generalize wr.drew = w2 at *
        have htn : ((k : Int) * 64).toNat = k * 64 := by omega
        have hwr := IntWalk.i64_in ((k : Int) * 64) (by omega)
        still_step
        still_step
        still_step
        still_step
        still_step
        still_step
        still_step
        still_step
        still_step
        still_step
        still_step
        refine wpStill_nil ?_
        clear hwr htn h3 h4 h5 hk0 hk1
        have hrun := CP.out 3
        clear CP
        have e3 : (((zs64.map B8).toArray.toList.take 0 ++ ((xs.drop (k * 64)).take 64).map B8 ++ (zs64.map B8).toArray.toList.drop (0 + (((xs.drop (k * 64)).take 64).map B8).length)).toArray) = ((sec (padded ys) k).map B8).toArray := by
          rw [← HSP.out k hlt]
          simp [splice, List.map_drop]
        rw [e3] at hrun
        have G3 : (w2.setRow (G k) ((sec (padded ys) k).map B8).toArray).heap[G k]? = some (.cells ((sec (padded ys) k).map B8).toArray 5 (0, 0)) := setRow_heap w2 (G k) _ _ _ _ RA.out
        have K3 : Keeps (· = G k) w2 (w2.setRow (G k) ((sec (padded ys) k).map B8).toArray) := ⟨rfl, rfl, rfl, by rw [size_setRow]; exact Nat.le_refl _, fun j _ hj => setRow_other w2 (G k) j _ hj⟩
        have k23 := kd.trans K3
        have INV : Hid (RNew w (w2.setRow (G k) ((sec (padded ys) k).map B8).toArray) p n (.slice (some ⟨g, 0, none⟩) n cap') G (fillR ys (k + 1))) := by
          have hGT := (inv.secs.row k hlt).2.2.1
          have hpl : p < wr.heap.size := (Array.getElem?_eq_some_iff.1 inv.head).1
          refine ⟨(k23.block _ hpl (by omega)).trans inv.head, ?_, ?_, inv.new⟩
          · rw [← fillR_step]
            exact inv.secs.put k hlt _ (HSL.out k hlt) k23 (Row8.of_block G3)
          · refine ⟨k23.os.trans inv.kp.os, k23.tape.trans inv.kp.tape, k23.output.trans inv.kp.output, Nat.le_trans inv.kp.size k23.size, fun b hb _ => ?_⟩
            have := inv.new
            rw [k23.block b (Nat.lt_of_lt_of_le hb inv.kp.size) (by omega)]
            exact inv.kp.block b hb (fun h => h)
        clear e3 G3 K3 k23 kd inv d0 d1 had hcs RA
        generalize w2.setRow (G k) ((sec (padded ys) k).map B8).toArray = w3 at *
        go_wp2
        go_roundw
        case rel => exact ⟨k + 1, by omega, by go_num, INV.out⟩
        case measure => simp [intOf]; omega
      · obtain rfl : k = n := by omega
        go_wp2_with fail
        go_ret
        exact ⟨p, _, G, rfl, inv⟩
end Go.Proofs.YtacghpabjmnfiaaGreatDoor
