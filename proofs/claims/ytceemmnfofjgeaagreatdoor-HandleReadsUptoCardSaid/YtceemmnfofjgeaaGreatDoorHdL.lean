/-
  HdL
-/
import Derived.Test.YtceemmnfofjgeaaGreatDoorHdO
import Derived.Test.YtceemmnfofjgeaaGreatDoorGT
import Derived.Test.YtceemmnfofjgeaaGreatDoorGSnG
namespace Go.Proofs.YtceemmnfofjgeaaGreatDoor.Hd
open Go.RowKit Ex Ino Mm Fs
set_option linter.unusedVariables false
set_option linter.unusedSimpArgs false

/-- The memory behind a handle's cells laid. -/
def layH (M : List UInt8) (h : Nat) (a b : Int) : List UInt8 := setM (setM M (hA h) a) (hA h + 8) b
theorem aggI64x (w : World) : (isAgg 2).run Tryz.prog w = .ok false w := by unfold isAgg; rw [Sem.run_bind, run_underlying Tryz.underlying2 w]; rfl
variable {w : World} {p gb mb : Nat} {G M : List UInt8}
set_option maxRecDepth 100000 in
set_option maxHeartbeats 2000000 in
theorem lay_any (h : MemAt w p gb mb G M) (n : Nat) (h1 : 1 ≤ n) (h4 : n ≤ 4) (a b : Int) : Calls Tryz.prog 73 #[.pointer (some ⟨p, 0, none⟩), .int .i64 (n : Int), .agg #[.int .i64 a, .int .i64 b]] w (OutM w p gb mb G (layH M n a b) (.tuple #[])) := by
  have hlt : 64 ≤ hA n ∧ hA n ≤ 112 := by unfold hA; omega
  have HAT := Lib.hid (fun W => hat_any n h1 h4 W)
  have LT := Lib.hid h.lt
  have HH := Lib.hid (h.keep (Keeps.alloc (fun _ => False) w (.cells #[.int .i64 a, .int .i64 b] 105)) (fun f => f) (fun f => f) (fun f => f))
  have K0 : Hid (Keeps (fun k => k = p ∨ k = mb) w (w.alloc (.cells #[.int .i64 a, .int .i64 b] 105))) := Keeps.alloc _ _ _
  have hb : (w.alloc (.cells #[.int .i64 a, .int .i64 b] 105)).heap[w.heap.size]? = some (.cells #[.int .i64 a, .int .i64 b] 105 (0, 0)) := heap_alloc_new w _
  have p0 : (w.alloc (.cells #[.int .i64 a, .int .i64 b] 105)).drew.cell? ⟨w.heap.size, 0, none⟩ = some (.int .i64 a) := by rw [cell_of_row _ _ _ _ _ _ (show (w.alloc (.cells #[.int .i64 a, .int .i64 b] 105)).drew.heap[w.heap.size]? = _ from hb)]; rfl
  have p1 : (w.alloc (.cells #[.int .i64 a, .int .i64 b] 105)).drew.cell? ⟨w.heap.size, 1, none⟩ = some (.int .i64 b) := by rw [cell_of_row _ _ _ _ _ _ (show (w.alloc (.cells #[.int .i64 a, .int .i64 b] 105)).drew.heap[w.heap.size]? = _ from hb)]; rfl
  have HS0 := Lib.hid (And.intro p0 p1)
  have LT1 : Hid (w.heap.size < (w.alloc (.cells #[.int .i64 a, .int .i64 b] 105)).heap.size) := (Array.getElem?_eq_some_iff.1 hb).1
  unfold layH
  clear h hb p0 p1
  generalize hA n = an at *
  go_enter Tryz.func73, Tryz.ntmps73
  go_wp2_with fail
  refine wp_region_held (S := fun W => W.cell? ⟨w.heap.size, 0, none⟩ = some (.int .i64 a) ∧ W.cell? ⟨w.heap.size, 1, none⟩ = some (.int .i64 b)) (by kernel_rfl) ?_
  change wpAnyH _ _ _ _ _ _ _ _ (w.alloc (.cells #[.int .i64 a, .int .i64 b] 105)).drew
  have hS := HS0.out
  refine wpAnyH_take (oi := ⟨_, _, _, _, _, _⟩) (i := 0) (v := .pointer (some ⟨p, 0, none⟩)) rfl (by kernel_rfl) (by kernel_rfl) (by kernel_rfl) (fun _ _ _ h => h) (Or.inl ⟨by rfl, fun _ _ => rfl⟩) hS ?_
  try simp only [Act.put, List.setIfInBounds_toArray, List.set_cons_zero, List.set_cons_succ]
  refine wpAnyH_take (oi := ⟨_, _, _, _, _, _⟩) (i := 1) (v := .int .i64 (n : Int)) rfl (by kernel_rfl) (by kernel_rfl) (by kernel_rfl) (fun _ _ _ h => h) (Or.inl ⟨by rfl, fun _ _ => rfl⟩) hS ?_
  try simp only [Act.put, List.setIfInBounds_toArray, List.set_cons_zero, List.set_cons_succ]
  refine wpAnyH_take (oi := ⟨_, _, _, _, _, _⟩) (i := 3) (v := .pointer (some ⟨w.heap.size, 0, none⟩)) rfl (by kernel_rfl) (by kernel_rfl) (by kernel_rfl) (fun _ _ _ h => h) (Or.inl ⟨by rfl, fun _ _ => by go_simp⟩) hS ?_
  try simp only [Act.put, List.setIfInBounds_toArray, List.set_cons_zero, List.set_cons_succ]
  refine wpAnyH_take (oi := ⟨_, _, _, _, _, _⟩) (i := 4) (v := .int .i64 a) rfl (by kernel_rfl) (by kernel_rfl) (by kernel_rfl) (fun _ _ _ h => h) (yif_load rfl 2 (.tmp 9) rfl _ _ rfl fun w h => load_one aggI64x h.1) hS ?_
  try simp only [Act.put, List.setIfInBounds_toArray, List.set_cons_zero, List.set_cons_succ]
  have m0 : MemAt (w.alloc (.cells #[.int .i64 a, .int .i64 b] 105)).drew p gb mb G M := HH.out.keep (Keeps.drew (fun _ => False) _) (fun f => f) (fun f => f) (fun f => f)
  have kd : Keeps (fun k => k = p ∨ k = mb) w (w.alloc (.cells #[.int .i64 a, .int .i64 b] 105)).drew := K0.out.trans (Keeps.drew _ _)
  have ld : w.heap.size < (w.alloc (.cells #[.int .i64 a, .int .i64 b] 105)).drew.heap.size := LT1.out
  clear HS0 LT1
  generalize (w.alloc (.cells #[.int .i64 a, .int .i64 b] 105)).drew = w1 at *
  refine wpAnyH_all (rs := [2]) (by kernel_rfl) (by simp) fun i hi => ?_
  obtain rfl : i = 2 := by simpa using hi
  refine op_call (om := ⟨_, _, _, _, _, _⟩) (fn := 131) (args := #[.int .i64 (n : Int)]) (R := fun u W => u = .int .i64 an ∧ W = w1) rfl rfl (by go_simp)
    ((HAT.out w1).mono fun e W he => ⟨_, he.1, rfl, he.2⟩) _ _ rfl rfl ?_
  rintro u w2 ⟨rfl, rfl⟩
  refine ⟨hS, ?_⟩
  try simp only [Act.put, List.setIfInBounds_toArray, List.set_cons_zero, List.set_cons_succ]
  refine wpAnyH_all (rs := [5]) (by kernel_rfl) (by simp) fun i hi => ?_
  obtain rfl : i = 5 := by simpa using hi
  refine op_call (om := ⟨_, _, _, _, _, _⟩) (fn := 130) (args := #[.pointer (some ⟨p, 0, none⟩), .int .i64 an, .int .i64 a]) (R := fun u W => u = .tuple #[] ∧ MemAt W p gb mb G (setM M an a) ∧ Keeps (fun k => k = p ∨ k = mb) w2 W) rfl rfl (by go_simp)
    ((mset_at m0 an a (by omega) (by omega)).mono fun e W he => ⟨_, he.1, rfl, he.2⟩) _ _ rfl rfl ?_
  rintro u w3 ⟨rfl, m3, k3⟩
  have hS3 : w3.cell? ⟨w.heap.size, 0, none⟩ = some (.int .i64 a) ∧ w3.cell? ⟨w.heap.size, 1, none⟩ = some (.int .i64 b) := by
    have hl := LT.out
    exact ⟨(World.cell?_of_block (a := ⟨w.heap.size, 0, none⟩) (k3.block w.heap.size ld (by omega))).trans hS.1, (World.cell?_of_block (a := ⟨w.heap.size, 1, none⟩) (k3.block w.heap.size ld (by omega))).trans hS.2⟩
  have l3 : w.heap.size < w3.heap.size := Nat.lt_of_lt_of_le ld k3.size
  have K3 := Lib.hid (kd.trans k3)
  have M3 := Lib.hid m3
  clear m0 kd ld m3 k3 hS HH K0 hi
  refine ⟨hS3, ?_⟩
  try simp only [Act.put, List.setIfInBounds_toArray, List.set_cons_zero, List.set_cons_succ]
  refine wpAnyH_done (by kernel_rfl) ?_ _
  try simp only [Act.put, List.setIfInBounds_toArray, List.set_cons_zero, List.set_cons_succ]
  have HS3 := Lib.hid hS3
  have L3 := Lib.hid l3
  clear hS3 l3
  go_wp2_with fail
  refine wp_region_held (S := fun W => W.cell? ⟨w.heap.size, 0, none⟩ = some (.int .i64 a) ∧ W.cell? ⟨w.heap.size, 1, none⟩ = some (.int .i64 b)) (by kernel_rfl) ?_
  change wpAnyH _ _ _ _ _ _ _ _ w3.drew
  have hS : w3.drew.cell? ⟨w.heap.size, 0, none⟩ = some (.int .i64 a) ∧ w3.drew.cell? ⟨w.heap.size, 1, none⟩ = some (.int .i64 b) := HS3.out
  have hw8 : IntKind.i64.wrap (an + 8) = an + 8 := by rw [IntKind.wrap_i64]; omega
  have hw8' : wrap64 (an + 8) = an + 8 := by unfold wrap64; omega
  refine wpAnyH_take (oi := ⟨_, _, _, _, _, _⟩) (i := 0) (v := .pointer (some ⟨p, 0, none⟩)) rfl (by kernel_rfl) (by kernel_rfl) (by kernel_rfl) (fun _ _ _ h => h) (Or.inl ⟨by rfl, fun _ _ => rfl⟩) hS ?_
  try simp only [Act.put, List.setIfInBounds_toArray, List.set_cons_zero, List.set_cons_succ]
  refine wpAnyH_take (oi := ⟨_, _, _, _, _, _⟩) (i := 1) (v := .int .i64 (n : Int)) rfl (by kernel_rfl) (by kernel_rfl) (by kernel_rfl) (fun _ _ _ h => h) (Or.inl ⟨by rfl, fun _ _ => rfl⟩) hS ?_
  try simp only [Act.put, List.setIfInBounds_toArray, List.set_cons_zero, List.set_cons_succ]
  refine wpAnyH_take (oi := ⟨_, _, _, _, _, _⟩) (i := 4) (v := .pointer (some ⟨w.heap.size, 1, none⟩)) rfl (by kernel_rfl) (by kernel_rfl) (by kernel_rfl) (fun _ _ _ h => h) (Or.inl ⟨by rfl, fun _ _ => by go_simp⟩) hS ?_
  try simp only [Act.put, List.setIfInBounds_toArray, List.set_cons_zero, List.set_cons_succ]
  refine wpAnyH_take (oi := ⟨_, _, _, _, _, _⟩) (i := 5) (v := .int .i64 b) rfl (by kernel_rfl) (by kernel_rfl) (by kernel_rfl) (fun _ _ _ h => h) (yif_load rfl 2 (.tmp 16) rfl _ _ rfl fun w h => load_one aggI64x h.2) hS ?_
  try simp only [Act.put, List.setIfInBounds_toArray, List.set_cons_zero, List.set_cons_succ]
  have m4 : MemAt w3.drew p gb mb G (setM M an a) := M3.out.keep (Keeps.drew (fun _ => False) _) (fun f => f) (fun f => f) (fun f => f)
  have k4 : Keeps (fun k => k = p ∨ k = mb) w w3.drew := K3.out.trans (Keeps.drew _ _)
  have l4 : w.heap.size < w3.drew.heap.size := L3.out
  clear HS3 K3 M3 L3
  generalize w3.drew = w4 at *
  refine wpAnyH_all (rs := [2]) (by kernel_rfl) (by simp) fun i hi => ?_
  obtain rfl : i = 2 := by simpa using hi
  refine op_call (om := ⟨_, _, _, _, _, _⟩) (fn := 131) (args := #[.int .i64 (n : Int)]) (R := fun u W => u = .int .i64 an ∧ W = w4) rfl rfl (by go_simp)
    ((HAT.out w4).mono fun e W he => ⟨_, he.1, rfl, he.2⟩) _ _ rfl rfl ?_
  rintro u w5 ⟨rfl, rfl⟩
  refine ⟨hS, ?_⟩
  try simp only [Act.put, List.setIfInBounds_toArray, List.set_cons_zero, List.set_cons_succ]
  refine wpAnyH_take (oi := ⟨_, _, _, _, _, _⟩) (i := 3) (v := .int .i64 (an + 8)) rfl (by kernel_rfl) (by kernel_rfl) (by kernel_rfl) (fun _ _ _ h => h) (Or.inl ⟨by rfl, fun _ _ => by go_simp⟩) hS ?_
  try simp only [Act.put, List.setIfInBounds_toArray, List.set_cons_zero, List.set_cons_succ]
  refine wpAnyH_all (rs := [6]) (by kernel_rfl) (by simp) fun i hi => ?_
  obtain rfl : i = 6 := by simpa using hi
  refine op_call (om := ⟨_, _, _, _, _, _⟩) (fn := 130) (args := #[.pointer (some ⟨p, 0, none⟩), .int .i64 (an + 8), .int .i64 b]) (R := fun u W => u = .tuple #[] ∧ MemAt W p gb mb G (setM (setM M an a) (an + 8) b) ∧ Keeps (fun k => k = p ∨ k = mb) w5 W) rfl rfl (by go_simp)
    ((mset_at m4 (an + 8) b (by omega) (by omega)).mono fun e W he => ⟨_, he.1, rfl, he.2⟩) _ _ rfl rfl ?_
  rintro u w6 ⟨rfl, m6, k6⟩
  have hS6 : w6.cell? ⟨w.heap.size, 0, none⟩ = some (.int .i64 a) ∧ w6.cell? ⟨w.heap.size, 1, none⟩ = some (.int .i64 b) := by
    have hl := LT.out
    exact ⟨(World.cell?_of_block (a := ⟨w.heap.size, 0, none⟩) (k6.block w.heap.size l4 (by omega))).trans hS.1, (World.cell?_of_block (a := ⟨w.heap.size, 1, none⟩) (k6.block w.heap.size l4 (by omega))).trans hS.2⟩
  have HG : Hid (OutM w p gb mb G (setM (setM M an a) (an + 8) b) (.tuple #[]) (.returned (.tuple #[])) w6) := ⟨rfl, m6, k4.trans k6⟩
  refine ⟨hS6, ?_⟩
  clear hS6 m4 k4 l4 m6 k6 hS hi HAT
  try simp only [Act.put, List.setIfInBounds_toArray, List.set_cons_zero, List.set_cons_succ]
  refine wpAnyH_done (by kernel_rfl) ?_ _
  try simp only [Act.put, List.setIfInBounds_toArray, List.set_cons_zero, List.set_cons_succ]
  go_wp2_with fail
  go_end0
  exact HG.out
end Go.Proofs.YtceemmnfofjgeaaGreatDoor.Hd
