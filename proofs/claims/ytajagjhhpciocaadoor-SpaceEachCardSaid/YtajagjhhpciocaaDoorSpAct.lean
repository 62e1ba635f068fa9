/-
  An Act as it lies in memory; a call on both maps (act); maps that stand alike (alike).
-/
import Derived.Test.YtajagjhhpciocaaDoorSpAwake
import Derived.Deep.QuietTactic
import Derived.BigQuiet
namespace Go.Proofs.YtajagjhhpciocaaDoor.Sp
open Go.RowKit
set_option linter.unusedVariables false

structure ActV where
  do_ : Int
  n : Int
def acells (a : ActV) : List Value := [.int .i64 a.do_, .int .i64 a.n]
theorem agg3 (w : World) : (isAgg 3).run Tryd.prog w = .ok false w := by unfold isAgg; rw [Sem.run_bind, run_underlying Tryd.underlying3 w]; rfl
theorem boxA (w : World) (a : ActV) : (Instr.box 29 (.agg (acells a).toArray)).run Tryd.prog w = .ok (.pointer (some ⟨w.heap.size, 0, none⟩)) (w.alloc (.cells (acells a).toArray 29)) := rfl
/-- The Act's variable lies at b. -/
def ActB (b : Nat) (a : ActV) (W : World) : Prop := W.heap[b]? = some (.cells (acells a).toArray 29 (0, 0))
theorem ActB.c {b : Nat} {a : ActV} {W : World} (h : ActB b a W) : W.cell? ⟨b, 0, none⟩ = some (.int .i64 a.do_) ∧ W.cell? ⟨b, 1, none⟩ = some (.int .i64 a.n) := by
  refine ⟨?_, ?_⟩ <;> rw [cell_of_row _ _ _ _ _ _ h] <;> rfl
/-- What a call makes of the counts. -/
def actC (cs : List Nat) (a : ActV) : List Nat := if a.do_ = 0 then holdC cs a.n else if a.do_ = 1 then dropC cs a.n else if a.do_ = 2 then takeC cs else cs
theorem actC_len (cs : List Nat) (a : ActV) : (actC cs a).length = cs.length := by
  unfold actC
  split
  · exact len_hold cs a.n
  · split
    · exact len_drop cs a.n
    · split
      · exact len_take cs
      · rfl
theorem Upto.act {m : Nat} {cs : List Nat} (h : Upto m cs) (a : ActV) : Upto (m + 1) (actC cs a) := by
  unfold actC
  split
  · exact h.hold a.n
  · split
    · exact h.drop a.n
    · split
      · exact h.take
      · exact h.mono (Nat.le_succ _)
/-- What act leaves. -/
def Acted (w : World) (lo mi hi p q : Nat) (cs' : List Nat) (e : Ending) (w' : World) : Prop := e = .returned (.bool true) ∧ MapS w' lo mi p cs' ∧ RefS w' mi hi q cs' ∧ Keeps (fun i => lo ≤ i ∧ i < hi) w w'

section
variable {w : World} {lo mi hi p q : Nat} {cs : List Nat}
set_option maxRecDepth 100000 in
set_option maxHeartbeats 600000 in
theorem act_hold (hm : MapS w lo mi p cs) (hr : RefS w mi hi q cs) (h1 : lo ≤ mi) (h2 : mi ≤ hi) (hB : hi ≤ w.heap.size) (a : ActV) {K : Nat} (hu : Upto K cs) (hK : K < 1000000000000) (h0 : a.do_ = 0) :
    Calls Tryd.prog 10 #[.pointer (some ⟨p, 0, none⟩), .pointer (some ⟨q, 0, none⟩), .agg (acells a).toArray] w (Acted w lo mi hi p q (holdC cs a.n)) := by
  have bx := boxA w a
  have BX := Lib.hid bx
  clear bx
  have hA : ActB w.heap.size a (w.alloc (.cells (acells a).toArray 29)) := heap_alloc_new w _
  have d0 := hA.c.1
  rw [h0] at d0
  clear hA
  go_enter Tryd.func10, Tryd.ntmps10
  go_wp2_with ((with_reducible refine at_ (op := .box 29 (.tmp 2)) ?_); refine wpList_val rfl _ (ex_box 29 (.tmp 2) rfl _ _ rfl BX.out) ?_)
  clear d0 h0
  refine wp_region_held (S := ActB w.heap.size a) (by kernel_rfl) ?_
  change wpAnyH _ _ _ _ _ _ _ _ (w.alloc (.cells (acells a).toArray 29)).drew
  have kA : Keeps (fun i => lo ≤ i ∧ i < hi) w (w.alloc (.cells (acells a).toArray 29)).drew := ((Keeps.alloc (fun _ => False) w _).trans (Keeps.drew _ _)).mono fun _ _ h => h.elim
  have hS : ActB w.heap.size a (w.alloc (.cells (acells a).toArray 29)).drew := heap_alloc_new w _
  have k0 : Keeps (fun _ => False) w (w.alloc (.cells (acells a).toArray 29)).drew := (Keeps.alloc _ w _).trans (Keeps.drew _ _)
  have m1 := hm.keep k0 (fun _ _ _ h => h)
  have r1 := hr.keep k0 (fun _ _ _ h => h)
  clear k0
  generalize (w.alloc (.cells (acells a).toArray 29)).drew = w1 at *
  refine wpAnyH_take (oi := ⟨_, _, _, _, _, _⟩) (i := 0) (v := .pointer (some ⟨p, 0, none⟩)) rfl (by kernel_rfl) (by kernel_rfl) (by kernel_rfl) (fun _ _ _ h => h) (Or.inl ⟨by rfl, fun _ _ => rfl⟩) hS ?_
  simp only [Act.put, List.setIfInBounds_toArray, List.set_cons_zero, List.set_cons_succ]
  refine wpAnyH_take (oi := ⟨_, _, _, _, _, _⟩) (i := 1) (v := .pointer (some ⟨w.heap.size, 1, none⟩)) rfl (by kernel_rfl) (by kernel_rfl) (by kernel_rfl) (fun _ _ _ h => h) (Or.inl ⟨by rfl, fun _ _ => by go_simp⟩) hS ?_
  simp only [Act.put, List.setIfInBounds_toArray, List.set_cons_zero, List.set_cons_succ]
  refine wpAnyH_take (oi := ⟨_, _, _, _, _, _⟩) (i := 2) (v := .int .i64 a.n) rfl (by kernel_rfl) (by kernel_rfl) (by kernel_rfl) (fun _ _ _ h => h) (yif_load rfl 3 (.tmp 16) rfl _ _ rfl fun w h => load_one agg3 (ActB.c h).2) hS ?_
  simp only [Act.put, List.setIfInBounds_toArray, List.set_cons_zero, List.set_cons_succ]
  refine wpAnyH_take (oi := ⟨_, _, _, _, _, _⟩) (i := 4) (v := .pointer (some ⟨q, 0, none⟩)) rfl (by kernel_rfl) (by kernel_rfl) (by kernel_rfl) (fun _ _ _ h => h) (Or.inl ⟨by rfl, fun _ _ => rfl⟩) hS ?_
  simp only [Act.put, List.setIfInBounds_toArray, List.set_cons_zero, List.set_cons_succ]
  refine wpAnyH_take (oi := ⟨_, _, _, _, _, _⟩) (i := 5) (v := .pointer (some ⟨w.heap.size, 1, none⟩)) rfl (by kernel_rfl) (by kernel_rfl) (by kernel_rfl) (fun _ _ _ h => h) (Or.inl ⟨by rfl, fun _ _ => by go_simp⟩) hS ?_
  simp only [Act.put, List.setIfInBounds_toArray, List.set_cons_zero, List.set_cons_succ]
  refine wpAnyH_take (oi := ⟨_, _, _, _, _, _⟩) (i := 6) (v := .int .i64 a.n) rfl (by kernel_rfl) (by kernel_rfl) (by kernel_rfl) (fun _ _ _ h => h) (yif_load rfl 3 (.tmp 20) rfl _ _ rfl fun w h => load_one agg3 (ActB.c h).2) hS ?_
  simp only [Act.put, List.setIfInBounds_toArray, List.set_cons_zero, List.set_cons_succ]
  refine wpAnyH_all (rs := [3]) (by kernel_rfl) (by simp) fun i hmem => ?_
  obtain rfl : i = 3 := by simpa using hmem
  refine op_call (om := ⟨_, _, _, _, _, _⟩) (fn := 12) (args := #[.pointer (some ⟨p, 0, none⟩), .int .i64 a.n]) (R := fun u w' => u = .int .i64 (holdE cs a.n) ∧ MapS w' lo mi p (holdC cs a.n) ∧ Keeps (fun i => lo ≤ i ∧ i < mi) w1 w') rfl rfl (by go_simp)
    ((hold_s m1 a.n hu hK).mono fun e w' ⟨he, h1, h2⟩ => ⟨_, he, rfl, h1, h2⟩) _ _ rfl rfl ?_
  rintro u w2 ⟨rfl, m2, k2⟩
  have hS2 : ActB w.heap.size a w2 := (k2.block _ (Array.getElem?_eq_some_iff.1 hS).1 (by omega)).trans hS
  have r2 := r1.keep k2 (fun i h1 h2 h3 => by omega)
  refine ⟨hS2, ?_⟩
  clear hmem
  simp only [Act.put, List.setIfInBounds_toArray, List.set_cons_zero, List.set_cons_succ]
  refine wpAnyH_all (rs := [7]) (by kernel_rfl) (by simp) fun i hmem => ?_
  obtain rfl : i = 7 := by simpa using hmem
  refine op_call (om := ⟨_, _, _, _, _, _⟩) (fn := 21) (args := #[.pointer (some ⟨q, 0, none⟩), .int .i64 a.n]) (R := fun u w' => u = .int .i64 (holdE cs a.n) ∧ RefS w' mi hi q (holdC cs a.n) ∧ Keeps (fun i => mi ≤ i ∧ i < hi) w2 w') rfl rfl (by go_simp)
    ((rhold_s r2 a.n hu hK).mono fun e w' ⟨he, h1, h2⟩ => ⟨_, he, rfl, h1, h2⟩) _ _ rfl rfl ?_
  rintro u w3 ⟨rfl, r3, k3⟩
  have hS3 : ActB w.heap.size a w3 := (k3.block _ (Array.getElem?_eq_some_iff.1 hS2).1 (by omega)).trans hS2
  have m3 := m2.keep k3 (fun i h1 h2 h3 => by omega)
  refine ⟨hS3, ?_⟩
  clear hmem
  have hfin : Keeps (fun i => lo ≤ i ∧ i < hi) w w3 := (kA.trans (k2.mono fun i _ h => ⟨h.1, by omega⟩)).trans (k3.mono fun i _ h => ⟨by omega, h.2⟩)
  have HF := Lib.hid hfin
  have M3 := Lib.hid m3
  have R3 := Lib.hid r3
  clear hfin m3 r3 k3 k2 m2 r2 hS2 m1 r1 hS kA hm hr
  simp only [Act.put, List.setIfInBounds_toArray, List.set_cons_zero, List.set_cons_succ]
  generalize holdE cs a.n = E
  refine wpAnyH_take (oi := ⟨_, _, _, _, _, _⟩) (i := 8) (v := .bool true) rfl (by kernel_rfl) (by kernel_rfl) (by kernel_rfl) (fun _ _ _ h => h) (Or.inl ⟨by rfl, fun _ _ => by go_simp⟩) hS3 ?_
  simp only [Act.put, List.setIfInBounds_toArray, List.set_cons_zero, List.set_cons_succ]
  refine wpAnyH_take (oi := ⟨_, _, _, _, _, _⟩) (i := 9) (v := .bool true) rfl (by kernel_rfl) (by kernel_rfl) (by kernel_rfl) (fun _ _ _ h => h) (Or.inl ⟨by rfl, fun _ _ => rfl⟩) hS3 ?_
  refine wpAnyH_done (by kernel_rfl) ?_ _
  simp only [Act.put, List.setIfInBounds_toArray, List.set_cons_zero, List.set_cons_succ]
  go_wp2_with fail
  go_ret
  exact ⟨rfl, M3.out, R3.out, HF.out⟩
set_option maxRecDepth 100000 in
set_option maxHeartbeats 600000 in
theorem act_drop (hm : MapS w lo mi p cs) (hr : RefS w mi hi q cs) (h1 : lo ≤ mi) (h2 : mi ≤ hi) (hB : hi ≤ w.heap.size) (a : ActV) {K : Nat} (hu : Upto K cs) (hK : K < 1000000000000) (h0 : a.do_ = 1) :
    Calls Tryd.prog 10 #[.pointer (some ⟨p, 0, none⟩), .pointer (some ⟨q, 0, none⟩), .agg (acells a).toArray] w (Acted w lo mi hi p q (dropC cs a.n)) := by
  have bx := boxA w a
  have BX := Lib.hid bx
  clear bx
  have hA : ActB w.heap.size a (w.alloc (.cells (acells a).toArray 29)) := heap_alloc_new w _
  have d0 := hA.c.1
  rw [h0] at d0
  clear hA
  go_enter Tryd.func10, Tryd.ntmps10
  go_wp2_with ((with_reducible refine at_ (op := .box 29 (.tmp 2)) ?_); refine wpList_val rfl _ (ex_box 29 (.tmp 2) rfl _ _ rfl BX.out) ?_)
  clear d0 h0
  refine wp_region_held (S := ActB w.heap.size a) (by kernel_rfl) ?_
  change wpAnyH _ _ _ _ _ _ _ _ (w.alloc (.cells (acells a).toArray 29)).drew
  have kA : Keeps (fun i => lo ≤ i ∧ i < hi) w (w.alloc (.cells (acells a).toArray 29)).drew := ((Keeps.alloc (fun _ => False) w _).trans (Keeps.drew _ _)).mono fun _ _ h => h.elim
  have hS : ActB w.heap.size a (w.alloc (.cells (acells a).toArray 29)).drew := heap_alloc_new w _
  have k0 : Keeps (fun _ => False) w (w.alloc (.cells (acells a).toArray 29)).drew := (Keeps.alloc _ w _).trans (Keeps.drew _ _)
  have m1 := hm.keep k0 (fun _ _ _ h => h)
  have r1 := hr.keep k0 (fun _ _ _ h => h)
  clear k0
  generalize (w.alloc (.cells (acells a).toArray 29)).drew = w1 at *
  refine wpAnyH_take (oi := ⟨_, _, _, _, _, _⟩) (i := 0) (v := .pointer (some ⟨p, 0, none⟩)) rfl (by kernel_rfl) (by kernel_rfl) (by kernel_rfl) (fun _ _ _ h => h) (Or.inl ⟨by rfl, fun _ _ => rfl⟩) hS ?_
  simp only [Act.put, List.setIfInBounds_toArray, List.set_cons_zero, List.set_cons_succ]
  refine wpAnyH_take (oi := ⟨_, _, _, _, _, _⟩) (i := 1) (v := .pointer (some ⟨w.heap.size, 1, none⟩)) rfl (by kernel_rfl) (by kernel_rfl) (by kernel_rfl) (fun _ _ _ h => h) (Or.inl ⟨by rfl, fun _ _ => by go_simp⟩) hS ?_
  simp only [Act.put, List.setIfInBounds_toArray, List.set_cons_zero, List.set_cons_succ]
  refine wpAnyH_take (oi := ⟨_, _, _, _, _, _⟩) (i := 2) (v := .int .i64 a.n) rfl (by kernel_rfl) (by kernel_rfl) (by kernel_rfl) (fun _ _ _ h => h) (yif_load rfl 3 (.tmp 27) rfl _ _ rfl fun w h => load_one agg3 (ActB.c h).2) hS ?_
  simp only [Act.put, List.setIfInBounds_toArray, List.set_cons_zero, List.set_cons_succ]
  refine wpAnyH_take (oi := ⟨_, _, _, _, _, _⟩) (i := 4) (v := .pointer (some ⟨q, 0, none⟩)) rfl (by kernel_rfl) (by kernel_rfl) (by kernel_rfl) (fun _ _ _ h => h) (Or.inl ⟨by rfl, fun _ _ => rfl⟩) hS ?_
  simp only [Act.put, List.setIfInBounds_toArray, List.set_cons_zero, List.set_cons_succ]
  refine wpAnyH_take (oi := ⟨_, _, _, _, _, _⟩) (i := 5) (v := .pointer (some ⟨w.heap.size, 1, none⟩)) rfl (by kernel_rfl) (by kernel_rfl) (by kernel_rfl) (fun _ _ _ h => h) (Or.inl ⟨by rfl, fun _ _ => by go_simp⟩) hS ?_
  simp only [Act.put, List.setIfInBounds_toArray, List.set_cons_zero, List.set_cons_succ]
  refine wpAnyH_take (oi := ⟨_, _, _, _, _, _⟩) (i := 6) (v := .int .i64 a.n) rfl (by kernel_rfl) (by kernel_rfl) (by kernel_rfl) (fun _ _ _ h => h) (yif_load rfl 3 (.tmp 31) rfl _ _ rfl fun w h => load_one agg3 (ActB.c h).2) hS ?_
  simp only [Act.put, List.setIfInBounds_toArray, List.set_cons_zero, List.set_cons_succ]
  refine wpAnyH_all (rs := [3]) (by kernel_rfl) (by simp) fun i hmem => ?_
  obtain rfl : i = 3 := by simpa using hmem
  refine op_call (om := ⟨_, _, _, _, _, _⟩) (fn := 13) (args := #[.pointer (some ⟨p, 0, none⟩), .int .i64 a.n]) (R := fun u w' => u = .int .i64 (dropE cs a.n) ∧ MapS w' lo mi p (dropC cs a.n) ∧ Keeps (fun i => lo ≤ i ∧ i < mi) w1 w') rfl rfl (by go_simp)
    ((drop_s m1 a.n hu hK).mono fun e w' ⟨he, h1, h2⟩ => ⟨_, he, rfl, h1, h2⟩) _ _ rfl rfl ?_
  rintro u w2 ⟨rfl, m2, k2⟩
  have hS2 : ActB w.heap.size a w2 := (k2.block _ (Array.getElem?_eq_some_iff.1 hS).1 (by omega)).trans hS
  have r2 := r1.keep k2 (fun i h1 h2 h3 => by omega)
  refine ⟨hS2, ?_⟩
  clear hmem
  simp only [Act.put, List.setIfInBounds_toArray, List.set_cons_zero, List.set_cons_succ]
  refine wpAnyH_all (rs := [7]) (by kernel_rfl) (by simp) fun i hmem => ?_
  obtain rfl : i = 7 := by simpa using hmem
  refine op_call (om := ⟨_, _, _, _, _, _⟩) (fn := 22) (args := #[.pointer (some ⟨q, 0, none⟩), .int .i64 a.n]) (R := fun u w' => u = .int .i64 (dropE cs a.n) ∧ RefS w' mi hi q (dropC cs a.n) ∧ Keeps (fun i => mi ≤ i ∧ i < hi) w2 w') rfl rfl (by go_simp)
    ((rdrop_s r2 a.n hu hK).mono fun e w' ⟨he, h1, h2⟩ => ⟨_, he, rfl, h1, h2⟩) _ _ rfl rfl ?_
  rintro u w3 ⟨rfl, r3, k3⟩
  have hS3 : ActB w.heap.size a w3 := (k3.block _ (Array.getElem?_eq_some_iff.1 hS2).1 (by omega)).trans hS2
  have m3 := m2.keep k3 (fun i h1 h2 h3 => by omega)
  refine ⟨hS3, ?_⟩
  clear hmem
  have hfin : Keeps (fun i => lo ≤ i ∧ i < hi) w w3 := (kA.trans (k2.mono fun i _ h => ⟨h.1, by omega⟩)).trans (k3.mono fun i _ h => ⟨by omega, h.2⟩)
  have HF := Lib.hid hfin
  have M3 := Lib.hid m3
  have R3 := Lib.hid r3
  clear hfin m3 r3 k3 k2 m2 r2 hS2 m1 r1 hS kA hm hr
  simp only [Act.put, List.setIfInBounds_toArray, List.set_cons_zero, List.set_cons_succ]
  generalize dropE cs a.n = E
  refine wpAnyH_take (oi := ⟨_, _, _, _, _, _⟩) (i := 8) (v := .bool true) rfl (by kernel_rfl) (by kernel_rfl) (by kernel_rfl) (fun _ _ _ h => h) (Or.inl ⟨by rfl, fun _ _ => by go_simp⟩) hS3 ?_
  simp only [Act.put, List.setIfInBounds_toArray, List.set_cons_zero, List.set_cons_succ]
  refine wpAnyH_take (oi := ⟨_, _, _, _, _, _⟩) (i := 9) (v := .bool true) rfl (by kernel_rfl) (by kernel_rfl) (by kernel_rfl) (fun _ _ _ h => h) (Or.inl ⟨by rfl, fun _ _ => rfl⟩) hS3 ?_
  refine wpAnyH_done (by kernel_rfl) ?_ _
  simp only [Act.put, List.setIfInBounds_toArray, List.set_cons_zero, List.set_cons_succ]
  go_wp2_with fail
  go_ret
  exact ⟨rfl, M3.out, R3.out, HF.out⟩
set_option maxRecDepth 100000 in
set_option maxHeartbeats 600000 in
theorem act_count (hm : MapS w lo mi p cs) (hr : RefS w mi hi q cs) (h1 : lo ≤ mi) (h2 : mi ≤ hi) (hB : hi ≤ w.heap.size) (a : ActV) {K : Nat} (hu : Upto K cs) (hK : K < 1000000000000) (e0 : ¬ a.do_ = 0) (e1 : ¬ a.do_ = 1) (e2 : ¬ a.do_ = 2) :
    Calls Tryd.prog 10 #[.pointer (some ⟨p, 0, none⟩), .pointer (some ⟨q, 0, none⟩), .agg (acells a).toArray] w (Acted w lo mi hi p q (cs)) := by
  have bx := boxA w a
  have BX := Lib.hid bx
  clear bx
  have hA : ActB w.heap.size a (w.alloc (.cells (acells a).toArray 29)) := heap_alloc_new w _
  have d0 := hA.c.1
  have f0 : (a.do_ == 0) = false := by simpa using e0
  have f1 : (a.do_ == 1) = false := by simpa using e1
  have f2 : (a.do_ == 2) = false := by simpa using e2
  clear e0 e1 e2
  clear hA
  go_enter Tryd.func10, Tryd.ntmps10
  go_wp2_with ((with_reducible refine at_ (op := .box 29 (.tmp 2)) ?_); refine wpList_val rfl _ (ex_box 29 (.tmp 2) rfl _ _ rfl BX.out) ?_)
  clear d0 f0 f1 f2
  refine wp_region_held (S := ActB w.heap.size a) (by kernel_rfl) ?_
  change wpAnyH _ _ _ _ _ _ _ _ (w.alloc (.cells (acells a).toArray 29)).drew
  have kA : Keeps (fun i => lo ≤ i ∧ i < hi) w (w.alloc (.cells (acells a).toArray 29)).drew := ((Keeps.alloc (fun _ => False) w _).trans (Keeps.drew _ _)).mono fun _ _ h => h.elim
  have hS : ActB w.heap.size a (w.alloc (.cells (acells a).toArray 29)).drew := heap_alloc_new w _
  have k0 : Keeps (fun _ => False) w (w.alloc (.cells (acells a).toArray 29)).drew := (Keeps.alloc _ w _).trans (Keeps.drew _ _)
  have m1 := hm.keep k0 (fun _ _ _ h => h)
  have r1 := hr.keep k0 (fun _ _ _ h => h)
  clear k0
  generalize (w.alloc (.cells (acells a).toArray 29)).drew = w1 at *
  refine wpAnyH_take (oi := ⟨_, _, _, _, _, _⟩) (i := 0) (v := .pointer (some ⟨p, 0, none⟩)) rfl (by kernel_rfl) (by kernel_rfl) (by kernel_rfl) (fun _ _ _ h => h) (Or.inl ⟨by rfl, fun _ _ => rfl⟩) hS ?_
  simp only [Act.put, List.setIfInBounds_toArray, List.set_cons_zero, List.set_cons_succ]
  refine wpAnyH_take (oi := ⟨_, _, _, _, _, _⟩) (i := 1) (v := .pointer (some ⟨w.heap.size, 1, none⟩)) rfl (by kernel_rfl) (by kernel_rfl) (by kernel_rfl) (fun _ _ _ h => h) (Or.inl ⟨by rfl, fun _ _ => by go_simp⟩) hS ?_
  simp only [Act.put, List.setIfInBounds_toArray, List.set_cons_zero, List.set_cons_succ]
  refine wpAnyH_take (oi := ⟨_, _, _, _, _, _⟩) (i := 2) (v := .int .i64 a.n) rfl (by kernel_rfl) (by kernel_rfl) (by kernel_rfl) (fun _ _ _ h => h) (yif_load rfl 3 (.tmp 56) rfl _ _ rfl fun w h => load_one agg3 (ActB.c h).2) hS ?_
  simp only [Act.put, List.setIfInBounds_toArray, List.set_cons_zero, List.set_cons_succ]
  refine wpAnyH_take (oi := ⟨_, _, _, _, _, _⟩) (i := 4) (v := .pointer (some ⟨q, 0, none⟩)) rfl (by kernel_rfl) (by kernel_rfl) (by kernel_rfl) (fun _ _ _ h => h) (Or.inl ⟨by rfl, fun _ _ => rfl⟩) hS ?_
  simp only [Act.put, List.setIfInBounds_toArray, List.set_cons_zero, List.set_cons_succ]
  refine wpAnyH_take (oi := ⟨_, _, _, _, _, _⟩) (i := 5) (v := .pointer (some ⟨w.heap.size, 1, none⟩)) rfl (by kernel_rfl) (by kernel_rfl) (by kernel_rfl) (fun _ _ _ h => h) (Or.inl ⟨by rfl, fun _ _ => by go_simp⟩) hS ?_
  simp only [Act.put, List.setIfInBounds_toArray, List.set_cons_zero, List.set_cons_succ]
  refine wpAnyH_take (oi := ⟨_, _, _, _, _, _⟩) (i := 6) (v := .int .i64 a.n) rfl (by kernel_rfl) (by kernel_rfl) (by kernel_rfl) (fun _ _ _ h => h) (yif_load rfl 3 (.tmp 60) rfl _ _ rfl fun w h => load_one agg3 (ActB.c h).2) hS ?_
  simp only [Act.put, List.setIfInBounds_toArray, List.set_cons_zero, List.set_cons_succ]
  refine wpAnyH_all (rs := [3]) (by kernel_rfl) (by simp) fun i hmem => ?_
  obtain rfl : i = 3 := by simpa using hmem
  refine op_call (om := ⟨_, _, _, _, _, _⟩) (fn := 18) (args := #[.pointer (some ⟨p, 0, none⟩), .int .i64 a.n]) (R := fun u w' => u = .int .i64 ((countOf cs a.n : Int)) ∧ MapS w' lo mi p (cs) ∧ Keeps (fun i => lo ≤ i ∧ i < mi) w1 w') rfl rfl (by go_simp)
    ((count_s m1 a.n).mono fun e w' ⟨he, h1⟩ => ⟨_, he, rfl, h1 ▸ m1, h1 ▸ Keeps.refl _ _⟩) _ _ rfl rfl ?_
  rintro u w2 ⟨rfl, m2, k2⟩
  have hS2 : ActB w.heap.size a w2 := (k2.block _ (Array.getElem?_eq_some_iff.1 hS).1 (by omega)).trans hS
  have r2 := r1.keep k2 (fun i h1 h2 h3 => by omega)
  refine ⟨hS2, ?_⟩
  clear hmem
  simp only [Act.put, List.setIfInBounds_toArray, List.set_cons_zero, List.set_cons_succ]
  refine wpAnyH_all (rs := [7]) (by kernel_rfl) (by simp) fun i hmem => ?_
  obtain rfl : i = 7 := by simpa using hmem
  refine op_call (om := ⟨_, _, _, _, _, _⟩) (fn := 24) (args := #[.pointer (some ⟨q, 0, none⟩), .int .i64 a.n]) (R := fun u w' => u = .int .i64 ((countOf cs a.n : Int)) ∧ RefS w' mi hi q (cs) ∧ Keeps (fun i => mi ≤ i ∧ i < hi) w2 w') rfl rfl (by go_simp)
    ((rcount_s r2 a.n).mono fun e w' ⟨he, h1⟩ => ⟨_, he, rfl, h1 ▸ r2, h1 ▸ Keeps.refl _ _⟩) _ _ rfl rfl ?_
  rintro u w3 ⟨rfl, r3, k3⟩
  have hS3 : ActB w.heap.size a w3 := (k3.block _ (Array.getElem?_eq_some_iff.1 hS2).1 (by omega)).trans hS2
  have m3 := m2.keep k3 (fun i h1 h2 h3 => by omega)
  refine ⟨hS3, ?_⟩
  clear hmem
  have hfin : Keeps (fun i => lo ≤ i ∧ i < hi) w w3 := (kA.trans (k2.mono fun i _ h => ⟨h.1, by omega⟩)).trans (k3.mono fun i _ h => ⟨by omega, h.2⟩)
  have HF := Lib.hid hfin
  have M3 := Lib.hid m3
  have R3 := Lib.hid r3
  clear hfin m3 r3 k3 k2 m2 r2 hS2 m1 r1 hS kA hm hr
  simp only [Act.put, List.setIfInBounds_toArray, List.set_cons_zero, List.set_cons_succ]
  generalize (countOf cs a.n : Int) = E
  refine wpAnyH_take (oi := ⟨_, _, _, _, _, _⟩) (i := 8) (v := .bool true) rfl (by kernel_rfl) (by kernel_rfl) (by kernel_rfl) (fun _ _ _ h => h) (Or.inl ⟨by rfl, fun _ _ => by go_simp⟩) hS3 ?_
  simp only [Act.put, List.setIfInBounds_toArray, List.set_cons_zero, List.set_cons_succ]
  refine wpAnyH_take (oi := ⟨_, _, _, _, _, _⟩) (i := 9) (v := .bool true) rfl (by kernel_rfl) (by kernel_rfl) (by kernel_rfl) (fun _ _ _ h => h) (Or.inl ⟨by rfl, fun _ _ => rfl⟩) hS3 ?_
  refine wpAnyH_done (by kernel_rfl) ?_ _
  simp only [Act.put, List.setIfInBounds_toArray, List.set_cons_zero, List.set_cons_succ]
  go_wp2_with fail
  go_ret
  exact ⟨rfl, M3.out, R3.out, HF.out⟩
set_option maxRecDepth 100000 in
set_option maxHeartbeats 600000 in
theorem act_take (hm : MapS w lo mi p cs) (hr : RefS w mi hi q cs) (h1 : lo ≤ mi) (h2 : mi ≤ hi) (hB : hi ≤ w.heap.size) (a : ActV) {K : Nat} (hu : Upto K cs) (hK : K < 1000000000000) (hT : Tab w) (h00 : 0 < lo) (h0 : a.do_ = 2) :
    Calls Tryd.prog 10 #[.pointer (some ⟨p, 0, none⟩), .pointer (some ⟨q, 0, none⟩), .agg (acells a).toArray] w (Acted w lo mi hi p q (takeC cs)) := by
  have bx := boxA w a
  have BX := Lib.hid bx
  clear bx
  have hA : ActB w.heap.size a (w.alloc (.cells (acells a).toArray 29)) := heap_alloc_new w _
  have d0 := hA.c.1
  rw [h0] at d0
  have k0 : Keeps (fun _ => False) w (w.alloc (.cells (acells a).toArray 29)) := Keeps.alloc _ w _
  have m1 := hm.keep k0 (fun _ _ _ h => h)
  have r1 := hr.keep k0 (fun _ _ _ h => h)
  have T1 := hT.keeps k0 (fun h => h)
  have HT := Lib.hid (take_s m1 T1 hu hK)
  have K0 := Lib.hid k0
  have R1 := Lib.hid r1
  clear k0 m1 r1 T1 hm hr
  clear hA
  go_enter Tryd.func10, Tryd.ntmps10
  go_wp2_with ((with_reducible refine at_ (op := .box 29 (.tmp 2)) ?_); refine wpList_val rfl _ (ex_box 29 (.tmp 2) rfl _ _ rfl BX.out) ?_)
  refine HT.out.mono ?_
  rintro e w2 ⟨rfl, m2, k2⟩
  have r2 := R1.out.keep k2 (fun i h1 h2 h3 => by omega)
  have RT := Lib.hid (rtake_s r2)
  have M2 := Lib.hid m2
  have K2 := Lib.hid k2
  clear m2 r2 k2 HT R1 d0
  generalize takeN cs = N at *
  generalize takeE cs = E at *
  go_wp2_with fail
  refine RT.out.mono ?_
  rintro e w3 ⟨rfl, r3, k3⟩
  have M3 := Lib.hid (M2.out.keep k3 (fun i h1 h2 h3 => by omega))
  have HF : Hid (Keeps (fun i => lo ≤ i ∧ i < hi) w w3) := ((K0.out.mono fun _ _ h => h.elim).trans (K2.out.mono fun i _ h => ⟨h.1, by omega⟩)).trans (k3.mono fun i _ h => ⟨by omega, h.2⟩)
  have R3 := Lib.hid r3
  clear r3 k3 RT M2 K2 K0
  go_wp2_with fail
  go_ret
  exact ⟨rfl, M3.out, R3.out, HF.out⟩
theorem act_any (hm : MapS w lo mi p cs) (hr : RefS w mi hi q cs) (h1 : lo ≤ mi) (h2 : mi ≤ hi) (hB : hi ≤ w.heap.size) (hT : Tab w) (h00 : 0 < lo) (a : ActV) {K : Nat} (hu : Upto K cs) (hK : K < 1000000000000) :
    Calls Tryd.prog 10 #[.pointer (some ⟨p, 0, none⟩), .pointer (some ⟨q, 0, none⟩), .agg (acells a).toArray] w (Acted w lo mi hi p q (actC cs a)) := by
  unfold actC
  by_cases e0 : a.do_ = 0
  · rw [if_pos e0]; exact act_hold hm hr h1 h2 hB a hu hK e0
  rw [if_neg e0]
  by_cases e1 : a.do_ = 1
  · rw [if_pos e1]; exact act_drop hm hr h1 h2 hB a hu hK e1
  rw [if_neg e1]
  by_cases e2 : a.do_ = 2
  · rw [if_pos e2]; exact act_take hm hr h1 h2 hB a hu hK hT h00 e2
  rw [if_neg e2]
  exact act_count hm hr h1 h2 hB a hu hK e0 e1 e2
end
end Go.Proofs.YtajagjhhpciocaaDoor.Sp
