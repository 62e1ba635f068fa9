/-
  The contracts of the document's New and Of.
-/
import Derived.Test.YthbdhmjmboliiaaRdSec
namespace Go.Proofs.Ythbdhmjmboliiaa
open Go.RowKit

theorem load44 {w : World} {b o : Nat} {v : Value} (h : w.cell? ⟨b, o, none⟩ = some v) : (Instr.loadAt 44 (.pointer (some ⟨b, o, none⟩))).run Try.prog w = .ok v w := by
  have hagg : (isAgg 44).run Try.prog w = .ok false w := by unfold isAgg; rw [Sem.run_bind, run_underlying Try.underlying44 w]; rfl
  simp [Instr.loadAt, Instr.sureAddr, loadVar, hagg, h]
theorem ex_makeSlice {P : Program} {w w' : World} {o : Oper} {ρ : Operand → Value} (t : TypeId) (x y : Operand) (ho : o.op = .makeSlice t x y) (a b v : Value) (hx : ρ x = a) (hy : ρ y = b) (hrun : (Instr.makeSlice t a b).run P w = .ok v w') : (execOp ρ o).run P w = .ok (.value v) w' := by
  unfold execOp
  simp only [ho, hx, hy, Sem.run_bind, hrun, Result.andThen_ok, Sem.run_pure]
theorem make64R (w : World) :
    (Instr.makeSlice 30 (.int .i64 64) (.int .i64 64)).run Try.prog w = .ok (.slice (some ⟨w.heap.size, 0, none⟩) 64 64) (w.alloc (.cells (madeCells #[.int .u8 0] 64) 5)) := make8 64 (by decide) w

/-- The document's disk behind block p while it is made: sectors alone. -/
structure RNew (w wr : World) (p k : Nat) (v : Value) (G : Nat → Nat) (zs : Nat → List UInt8) : Prop where
  head : wr.heap[p]? = some (.cells #[v, .slice none 0 0, .int .i64 (-1), .bool false, .int .i64 0] 66 (0, 0))
  secs : Secs wr (p + 1) k v G zs
  kp : Keeps (fun _ => False) w wr
  new : w.heap.size ≤ p
def RMade (w : World) (k : Nat) (zs : Nat → List UInt8) (e : Ending) (w' : World) : Prop := ∃ p v G, e = .returned (.pointer (some ⟨p, 0, none⟩)) ∧ RNew w w' p k v G zs

set_option maxHeartbeats 1000000 in
theorem refNew_mid (i : Int) (n : Nat) (w : World) (h1 : ¬ i < 0) (h2 : ¬ 2000 < i) (h3 : i = (n : Int)) (hn : n ≤ 2000) : Calls Try.prog 12 #[.int .i64 i] w (RMade w n fun _ => zs64) := by
  go_enter Try.func12, Try.ntmps12
  go_wp2_with fail
  go_loopw [4] (fun s wr => ∃ (k : Nat) (v : Value) (G : Nat → Nat), k ≤ n ∧ s = .int .i64 k ∧ RNew w wr w.heap.size k v G fun _ => zs64) (fun s _ => n - (intOf s).toNat)
  case atStart => exact ⟨0, .slice none 0 0, fun _ => 0, by omega, rfl, heap_alloc_new _ _, Secs.start _ _ _ _, Keeps.alloc _ _ _, Nat.le_refl _⟩
  case round =>
    obtain ⟨k, v, G, hk, rfl, inv⟩ := hrel
    by_cases hlt : k < n
    · have hkn : (k : Int) < i := by omega
      go_wp2_with fail
      refine wp_region_any (by kernel_rfl) ?_
      change wpAny _ _ _ _ _ _ _ (World.drew wr)
      have kd : Keeps (fun _ => False) wr wr.drew := Keeps.drew _ _
      have inv0 : RNew w wr.drew w.heap.size k v G (fun _ => zs64) := ⟨inv.head, inv.secs.keep kd (fun _ _ _ h => h), inv.kp.trans kd, inv.new⟩
      clear inv kd
      generalize wr.drew = w0 at *
      have hp0 : w.heap.size < w0.heap.size := (Array.getElem?_eq_some_iff.1 inv0.head).1
      have kA : Keeps (fun _ => False) w0 (w0.alloc (.cells (madeCells #[.int .u8 0] 64) 5)) := Keeps.alloc _ _ _
      have kB : Keeps (fun _ => False) (w0.alloc (.cells (madeCells #[.int .u8 0] 64) 5)) ((w0.alloc (.cells (madeCells #[.int .u8 0] 64) 5)).alloc (.cells #[.slice (some ⟨w0.heap.size, 0, none⟩) 64 64] 30)) := Keeps.alloc _ _ _
      have hcA := kA.block _ hp0 (fun h => h)
      have hsA : (w0.alloc (.cells (madeCells #[.int .u8 0] 64) 5)).heap.size = w0.heap.size + 1 := by simp
      have hcB := (kB.block w.heap.size (by rw [hsA]; omega) (fun h => h)).trans hcA
      have hl0 := load44 (w := w0) (b := w.heap.size) (o := 0) (v := v) (by rw [cell_of_row _ _ _ _ _ _ inv0.head]; rfl)
      have hlA := load44 (w := w0.alloc (.cells (madeCells #[.int .u8 0] 64) 5)) (b := w.heap.size) (o := 0) (v := v) (by rw [cell_of_row _ _ _ _ _ _ (hcA.trans inv0.head)]; rfl)
      have hlB := load44 (w := (w0.alloc (.cells (madeCells #[.int .u8 0] 64) 5)).alloc (.cells #[.slice (some ⟨w0.heap.size, 0, none⟩) 64 64] 30)) (b := w.heap.size) (o := 0) (v := v) (by rw [cell_of_row _ _ _ _ _ _ (hcB.trans inv0.head)]; rfl)
      refine wpAny_take (oi := ⟨_, _, _, _, _, _⟩) (i := 0) (v := .pointer (some ⟨w.heap.size, 0, none⟩)) rfl (by kernel_rfl) (by kernel_rfl) (by kernel_rfl) (fun _ _ _ h => h) (Or.inl ⟨by rfl, fun _ => rfl⟩) ?_
      refine wpAny_take (oi := ⟨_, _, _, _, _, _⟩) (i := 1) (v := .pointer (some ⟨w.heap.size, 0, none⟩)) rfl (by kernel_rfl) (by kernel_rfl) (by kernel_rfl) (fun _ _ _ h => h) (Or.inl ⟨by rfl, fun _ => rfl⟩) ?_
      refine wpAny_take (oi := ⟨_, _, _, _, _, _⟩) (i := 2) (v := .pointer (some ⟨w.heap.size, 0, none⟩)) rfl (by kernel_rfl) (by kernel_rfl) (by kernel_rfl) (fun _ _ _ h => h) (Or.inl ⟨by rfl, fun _ => rfl⟩) ?_
      refine wpAny_take (oi := ⟨_, _, _, _, _, _⟩) (i := 3) (v := .pointer (some ⟨w.heap.size, 0, none⟩)) rfl (by kernel_rfl) (by kernel_rfl) (by kernel_rfl) (fun _ _ _ h => h) (Or.inl ⟨by rfl, fun w => by go_simp⟩) ?_
      simp only [Act.put, List.setIfInBounds_toArray, List.set_cons_zero, List.set_cons_succ]
      refine Both.go (oi := ⟨_, _, _, _, _, _⟩) (i := 4) (v := v) rfl ?_
      refine Both.step rfl 5 ⟨_, _, _, _, _, _⟩ rfl (by kernel_rfl) (yields_load rfl 44 (.tmp 17) rfl _ _ rfl hl0) _ (op_run rfl rfl (ex_makeSlice 30 (.const (.int .i64 64)) (.const (.int .i64 64)) rfl _ _ _ rfl rfl (make64R w0))) ?_
      rintro u1 w1 ⟨rfl, rfl⟩
      simp only [Act.put, List.setIfInBounds_toArray, List.set_cons_zero, List.set_cons_succ]
      refine Both.step rfl 6 ⟨_, _, _, _, _, _⟩ rfl (by kernel_rfl) (yields_load rfl 44 (.tmp 17) rfl _ _ rfl hlA) _ (op_run rfl rfl (ex_buildSlice 44 (.tmp 19) rfl _ _ rfl (bslice44 _ _ _ _))) ?_
      rintro u2 w2 ⟨rfl, rfl⟩
      simp only [Act.put, List.setIfInBounds_toArray, List.set_cons_zero, List.set_cons_succ]
      refine Both.done rfl (by kernel_rfl) (yields_load rfl 44 (.tmp 17) rfl _ _ rfl hlB) ?_
      refine wpAny_of_chain [7, 8, 9, 10] [_, _, _, _] _ _ _ rfl (by kernel_rfl) ?_
      clear hl0 hlA hlB
      simp only [Act.put, List.setIfInBounds_toArray, List.set_cons_zero, List.set_cons_succ]
      have kAB := kA.trans kB
      have secB := inv0.secs.keep kAB (fun _ _ _ h => h)
      have rowB : Row8 ((w0.alloc (.cells (madeCells #[.int .u8 0] 64) 5)).alloc (.cells #[.slice (some ⟨w0.heap.size, 0, none⟩) 64 64] 30)) w0.heap.size 5 zs64 := ((Row8.made w0 64 5).alloc _ : Row8 ((w0.alloc (.cells (madeCells #[.int .u8 0] 64) 5)).alloc (.cells #[.slice (some ⟨w0.heap.size, 0, none⟩) 64 64] 30)) w0.heap.size 5 (List.replicate 64 0))
      have hvB : v.ownBlock ≠ some w0.heap.size := fun e => by have := (inv0.secs.lt _ e).2; omega
      have hGB : ∀ i, i < k → G i ≠ w0.heap.size := fun i hi e => by have := (inv0.secs.row i hi).1.lt_; omega
      have hsB : (w0.alloc (.cells (madeCells #[.int .u8 0] 64) 5)).heap.size < ((w0.alloc (.cells (madeCells #[.int .u8 0] 64) 5)).alloc (.cells #[.slice (some ⟨w0.heap.size, 0, none⟩) 64 64] 30)).heap.size := by simp
      have cellB : ((w0.alloc (.cells (madeCells #[.int .u8 0] 64) 5)).alloc (.cells #[.slice (some ⟨w0.heap.size, 0, none⟩) 64 64] 30)).cell? ⟨(w0.alloc (.cells (madeCells #[.int .u8 0] 64) 5)).heap.size, 0, none⟩ = some (.slice (some ⟨w0.heap.size, 0, none⟩) 64 64) := by rw [cell_of_row _ _ _ _ _ _ (heap_alloc_new _ _)]; rfl
      obtain ⟨v', w3, hap, sec3, k3⟩ := secB.app (by omega) (by omega) w0.heap.size rowB zs64_len (by omega) hvB hGB _ 1 44 cellB
      refine wpList_append_run rfl _ _ _ rfl v' hap ?_
      have hne : v.ownBlock ≠ some w.heap.size := fun e => by have := (inv0.secs.lt _ e).1; omega
      have h3 := (k3.block w.heap.size (by omega) (fun e => hne e)).trans (hcB.trans inv0.head)
      have d0 : w3.cell? ⟨w.heap.size, 0, none⟩ = some v := by rw [cell_of_row _ _ _ _ _ _ h3]; rfl
      have z0 := frozen_of_row w3 w.heap.size 0 _ _ h3
      have INV : Hid (RNew w (w3.setCell ⟨w.heap.size, 0, none⟩ v') w.heap.size (k + 1) v' (fun i => if i = k then w0.heap.size else G i) fun _ => zs64) := by
        have ks : Keeps (· = w.heap.size) w3 (w3.setCell ⟨w.heap.size, 0, none⟩ v') := Keeps.setCell _ _ _ _ rfl
        refine ⟨?_, sec3.keep ks (fun b h1 _ e => by omega), ?_, Nat.le_refl _⟩
        · rw [heap_setCell_same _ _ _ _ _ _ h3]; rfl
        · refine ⟨ks.os.trans (k3.os.trans (kAB.os.trans inv0.kp.os)), ks.tape.trans (k3.tape.trans (kAB.tape.trans inv0.kp.tape)), ks.output.trans (k3.output.trans (kAB.output.trans inv0.kp.output)), Nat.le_trans inv0.kp.size (Nat.le_trans kAB.size (Nat.le_trans k3.size ks.size)), fun b hb _ => ?_⟩
          have hb0 := Nat.lt_of_lt_of_le hb inv0.kp.size
          have hbB := Nat.lt_of_lt_of_le hb0 kAB.size
          rw [ks.block b (Nat.lt_of_lt_of_le hbB k3.size) (by omega), k3.block b hbB (fun e => by have := (inv0.secs.lt _ e).1; omega), kAB.block b hb0 (fun h => h)]
          exact inv0.kp.block b hb (fun h => h)
      obtain ⟨A', cap', hv'⟩ := sec3.form
      subst hv'
      clear hap sec3 k3 h3 secB rowB hvB hGB cellB inv0 kA kB kAB hcA hcB hne
      go_wp2_with fail
      go_roundw
      case rel => exact ⟨k + 1, _, _, by omega, by go_num, INV.out⟩
      case measure => simp [intOf]; omega
    · obtain rfl : k = n := by omega
      go_wp2_with fail
      go_ret
      exact ⟨w.heap.size, v, G, rfl, inv⟩
set_option maxHeartbeats 1000000 in
theorem refNew_high (i : Int) (n : Nat) (w : World) (h2 : 2000 < i) (h3 : n = 2000) (hn : n ≤ 2000) : Calls Try.prog 12 #[.int .i64 i] w (RMade w n fun _ => zs64) := by
  have H3 := Lib.hid h3
  clear h3
  go_enter Try.func12, Try.ntmps12
  go_wp2_with fail
  go_loopw [4] (fun s wr => ∃ (k : Nat) (v : Value) (G : Nat → Nat), k ≤ n ∧ s = .int .i64 k ∧ RNew w wr w.heap.size k v G fun _ => zs64) (fun s _ => n - (intOf s).toNat)
  case atStart => exact ⟨0, .slice none 0 0, fun _ => 0, by omega, rfl, heap_alloc_new _ _, Secs.start _ _ _ _, Keeps.alloc _ _ _, Nat.le_refl _⟩
  case round =>
    obtain ⟨k, v, G, hk, rfl, inv⟩ := hrel
    by_cases hlt : k < n
    · have hkn : (k : Int) < 2000 := by have := H3.out; omega
      go_wp2_with fail
      refine wp_region_any (by kernel_rfl) ?_
      change wpAny _ _ _ _ _ _ _ (World.drew wr)
      have kd : Keeps (fun _ => False) wr wr.drew := Keeps.drew _ _
      have inv0 : RNew w wr.drew w.heap.size k v G (fun _ => zs64) := ⟨inv.head, inv.secs.keep kd (fun _ _ _ h => h), inv.kp.trans kd, inv.new⟩
      clear inv kd
      generalize wr.drew = w0 at *
      have hp0 : w.heap.size < w0.heap.size := (Array.getElem?_eq_some_iff.1 inv0.head).1
      have kA : Keeps (fun _ => False) w0 (w0.alloc (.cells (madeCells #[.int .u8 0] 64) 5)) := Keeps.alloc _ _ _
      have kB : Keeps (fun _ => False) (w0.alloc (.cells (madeCells #[.int .u8 0] 64) 5)) ((w0.alloc (.cells (madeCells #[.int .u8 0] 64) 5)).alloc (.cells #[.slice (some ⟨w0.heap.size, 0, none⟩) 64 64] 30)) := Keeps.alloc _ _ _
      have hcA := kA.block _ hp0 (fun h => h)
      have hsA : (w0.alloc (.cells (madeCells #[.int .u8 0] 64) 5)).heap.size = w0.heap.size + 1 := by simp
      have hcB := (kB.block w.heap.size (by rw [hsA]; omega) (fun h => h)).trans hcA
      have hl0 := load44 (w := w0) (b := w.heap.size) (o := 0) (v := v) (by rw [cell_of_row _ _ _ _ _ _ inv0.head]; rfl)
      have hlA := load44 (w := w0.alloc (.cells (madeCells #[.int .u8 0] 64) 5)) (b := w.heap.size) (o := 0) (v := v) (by rw [cell_of_row _ _ _ _ _ _ (hcA.trans inv0.head)]; rfl)
      have hlB := load44 (w := (w0.alloc (.cells (madeCells #[.int .u8 0] 64) 5)).alloc (.cells #[.slice (some ⟨w0.heap.size, 0, none⟩) 64 64] 30)) (b := w.heap.size) (o := 0) (v := v) (by rw [cell_of_row _ _ _ _ _ _ (hcB.trans inv0.head)]; rfl)
      refine wpAny_take (oi := ⟨_, _, _, _, _, _⟩) (i := 0) (v := .pointer (some ⟨w.heap.size, 0, none⟩)) rfl (by kernel_rfl) (by kernel_rfl) (by kernel_rfl) (fun _ _ _ h => h) (Or.inl ⟨by rfl, fun _ => rfl⟩) ?_
      refine wpAny_take (oi := ⟨_, _, _, _, _, _⟩) (i := 1) (v := .pointer (some ⟨w.heap.size, 0, none⟩)) rfl (by kernel_rfl) (by kernel_rfl) (by kernel_rfl) (fun _ _ _ h => h) (Or.inl ⟨by rfl, fun _ => rfl⟩) ?_
      refine wpAny_take (oi := ⟨_, _, _, _, _, _⟩) (i := 2) (v := .pointer (some ⟨w.heap.size, 0, none⟩)) rfl (by kernel_rfl) (by kernel_rfl) (by kernel_rfl) (fun _ _ _ h => h) (Or.inl ⟨by rfl, fun _ => rfl⟩) ?_
      refine wpAny_take (oi := ⟨_, _, _, _, _, _⟩) (i := 3) (v := .pointer (some ⟨w.heap.size, 0, none⟩)) rfl (by kernel_rfl) (by kernel_rfl) (by kernel_rfl) (fun _ _ _ h => h) (Or.inl ⟨by rfl, fun w => by go_simp⟩) ?_
      simp only [Act.put, List.setIfInBounds_toArray, List.set_cons_zero, List.set_cons_succ]
      refine Both.go (oi := ⟨_, _, _, _, _, _⟩) (i := 4) (v := v) rfl ?_
      refine Both.step rfl 5 ⟨_, _, _, _, _, _⟩ rfl (by kernel_rfl) (yields_load rfl 44 (.tmp 17) rfl _ _ rfl hl0) _ (op_run rfl rfl (ex_makeSlice 30 (.const (.int .i64 64)) (.const (.int .i64 64)) rfl _ _ _ rfl rfl (make64R w0))) ?_
      rintro u1 w1 ⟨rfl, rfl⟩
      simp only [Act.put, List.setIfInBounds_toArray, List.set_cons_zero, List.set_cons_succ]
      refine Both.step rfl 6 ⟨_, _, _, _, _, _⟩ rfl (by kernel_rfl) (yields_load rfl 44 (.tmp 17) rfl _ _ rfl hlA) _ (op_run rfl rfl (ex_buildSlice 44 (.tmp 19) rfl _ _ rfl (bslice44 _ _ _ _))) ?_
      rintro u2 w2 ⟨rfl, rfl⟩
      simp only [Act.put, List.setIfInBounds_toArray, List.set_cons_zero, List.set_cons_succ]
      refine Both.done rfl (by kernel_rfl) (yields_load rfl 44 (.tmp 17) rfl _ _ rfl hlB) ?_
      refine wpAny_of_chain [7, 8, 9, 10] [_, _, _, _] _ _ _ rfl (by kernel_rfl) ?_
      clear hl0 hlA hlB
      simp only [Act.put, List.setIfInBounds_toArray, List.set_cons_zero, List.set_cons_succ]
      have kAB := kA.trans kB
      have secB := inv0.secs.keep kAB (fun _ _ _ h => h)
      have rowB : Row8 ((w0.alloc (.cells (madeCells #[.int .u8 0] 64) 5)).alloc (.cells #[.slice (some ⟨w0.heap.size, 0, none⟩) 64 64] 30)) w0.heap.size 5 zs64 := ((Row8.made w0 64 5).alloc _ : Row8 ((w0.alloc (.cells (madeCells #[.int .u8 0] 64) 5)).alloc (.cells #[.slice (some ⟨w0.heap.size, 0, none⟩) 64 64] 30)) w0.heap.size 5 (List.replicate 64 0))
      have hvB : v.ownBlock ≠ some w0.heap.size := fun e => by have := (inv0.secs.lt _ e).2; omega
      have hGB : ∀ i, i < k → G i ≠ w0.heap.size := fun i hi e => by have := (inv0.secs.row i hi).1.lt_; omega
      have hsB : (w0.alloc (.cells (madeCells #[.int .u8 0] 64) 5)).heap.size < ((w0.alloc (.cells (madeCells #[.int .u8 0] 64) 5)).alloc (.cells #[.slice (some ⟨w0.heap.size, 0, none⟩) 64 64] 30)).heap.size := by simp
      have cellB : ((w0.alloc (.cells (madeCells #[.int .u8 0] 64) 5)).alloc (.cells #[.slice (some ⟨w0.heap.size, 0, none⟩) 64 64] 30)).cell? ⟨(w0.alloc (.cells (madeCells #[.int .u8 0] 64) 5)).heap.size, 0, none⟩ = some (.slice (some ⟨w0.heap.size, 0, none⟩) 64 64) := by rw [cell_of_row _ _ _ _ _ _ (heap_alloc_new _ _)]; rfl
      obtain ⟨v', w3, hap, sec3, k3⟩ := secB.app (by omega) (by omega) w0.heap.size rowB zs64_len (by omega) hvB hGB _ 1 44 cellB
      refine wpList_append_run rfl _ _ _ rfl v' hap ?_
      have hne : v.ownBlock ≠ some w.heap.size := fun e => by have := (inv0.secs.lt _ e).1; omega
      have h3 := (k3.block w.heap.size (by omega) (fun e => hne e)).trans (hcB.trans inv0.head)
      have d0 : w3.cell? ⟨w.heap.size, 0, none⟩ = some v := by rw [cell_of_row _ _ _ _ _ _ h3]; rfl
      have z0 := frozen_of_row w3 w.heap.size 0 _ _ h3
      have INV : Hid (RNew w (w3.setCell ⟨w.heap.size, 0, none⟩ v') w.heap.size (k + 1) v' (fun i => if i = k then w0.heap.size else G i) fun _ => zs64) := by
        have ks : Keeps (· = w.heap.size) w3 (w3.setCell ⟨w.heap.size, 0, none⟩ v') := Keeps.setCell _ _ _ _ rfl
        refine ⟨?_, sec3.keep ks (fun b h1 _ e => by omega), ?_, Nat.le_refl _⟩
        · rw [heap_setCell_same _ _ _ _ _ _ h3]; rfl
        · refine ⟨ks.os.trans (k3.os.trans (kAB.os.trans inv0.kp.os)), ks.tape.trans (k3.tape.trans (kAB.tape.trans inv0.kp.tape)), ks.output.trans (k3.output.trans (kAB.output.trans inv0.kp.output)), Nat.le_trans inv0.kp.size (Nat.le_trans kAB.size (Nat.le_trans k3.size ks.size)), fun b hb _ => ?_⟩
          have hb0 := Nat.lt_of_lt_of_le hb inv0.kp.size
          have hbB := Nat.lt_of_lt_of_le hb0 kAB.size
          rw [ks.block b (Nat.lt_of_lt_of_le hbB k3.size) (by omega), k3.block b hbB (fun e => by have := (inv0.secs.lt _ e).1; omega), kAB.block b hb0 (fun h => h)]
          exact inv0.kp.block b hb (fun h => h)
      obtain ⟨A', cap', hv'⟩ := sec3.form
      subst hv'
      clear hap sec3 k3 h3 secB rowB hvB hGB cellB inv0 kA kB kAB hcA hcB hne
      go_wp2_with fail
      go_roundw
      case rel => exact ⟨k + 1, _, _, by omega, by go_num, INV.out⟩
      case measure => simp [intOf]; omega
    · obtain rfl : k = n := by omega
      have hkn : ¬ (k : Int) < 2000 := by have := H3.out; omega
      go_wp2_with fail
      go_ret
      exact ⟨w.heap.size, v, G, rfl, inv⟩
set_option maxHeartbeats 400000 in
theorem refNew_low (i : Int) (w : World) (h1 : i < 0) : Calls Try.prog 12 #[.int .i64 i] w (RMade w 0 fun _ => zs64) := by
  go_enter Try.func12, Try.ntmps12
  go_wp2_with fail
  go_loopw [4] (fun s wr => s = .int .i64 0 ∧ RNew w wr w.heap.size 0 (.slice none 0 0) (fun _ => 0) fun _ => zs64) (fun _ _ => 0)
  case atStart => exact ⟨rfl, heap_alloc_new _ _, Secs.start _ _ _ _, Keeps.alloc _ _ _, Nat.le_refl _⟩
  case round =>
    obtain ⟨rfl, inv⟩ := hrel
    go_wp2_with fail
    go_ret
    exact ⟨w.heap.size, _, _, rfl, inv⟩
theorem refNew_any (i : Int) (w : World) : Calls Try.prog 12 #[.int .i64 i] w (RMade w (nOf i) fun _ => zs64) := by
  by_cases h1 : i < 0
  · have e : nOf i = 0 := by unfold nOf; omega
    rw [e]; exact refNew_low i w h1
  · by_cases h2 : 2000 < i
    · exact refNew_high i _ w h2 (by unfold nOf; omega) (by unfold nOf; omega)
    · exact refNew_mid i _ w h1 h2 (by unfold nOf; omega) (by unfold nOf; omega)
end Go.Proofs.Ythbdhmjmboliiaa
