/-
  The contract of New.
-/
import Derived.Test.YthbdhmjmboliiaaDkFlush
import Derived.Carry
namespace Go.Proofs.Ythbdhmjmboliiaa
open Go.RowKit Go.Maps

theorem Try.info71 : (Try.prog.info? 71).map (fun i => (i.zero, i.size, i.bytes)) = some (some (ag zs64), 64, 64) := by kernel_rfl
theorem zs_at (j : Nat) (h : j < (zs64.map B8).toArray.size) : (zs64.map B8).toArray[j]! = B8 0 := by
  have e : (zs64.map B8).toArray[j]! = (zs64.map B8).toArray[j] := getElem!_pos (zs64.map B8).toArray j h
  rw [e]
  simp only [List.getElem_toArray, List.getElem_map, zs64, List.getElem_replicate]
theorem zs_size : (zs64.map B8).toArray.size = 64 := by rw [List.size_toArray, List.length_map, zs64_len]
theorem made_zeros (m : Nat) : madeCells (zs64.map B8).toArray m = ((List.replicate m (0 : UInt8)).map B8).toArray := by
  apply Array.ext
  · simp [madeCells]
  · intro i h1 h2
    simp only [madeCells, Array.getElem_map, Array.getElem_range, List.getElem_toArray, List.getElem_map, List.getElem_replicate]
    exact zs_at _ (Nat.mod_lt _ (by rw [zs_size]; omega))
theorem wpList_make_run {P : Program} {w w' : World} {ops : Array Oper} {rest : List Oper} {o : Oper} {a : Act} {Q : Exit → Act → World → Prop} (hgd : o.guard = none) (t : TypeId) (x y : Operand) (ho : o.op = .makeSlice t x y) (u u' v : Value) (hx : a.eval x = u) (hy : a.eval y = u')
    (hrun : (Instr.makeSlice t u u').run P w = .ok v w') (h : wpList P ops Q rest (a.put o.dst v) w') : wpList P ops Q (o :: rest) a w :=
  wpList_plain hgd fun _ hK => by
    unfold Oper.wp execOp
    simp only [ho, hx, hy, Sem.run_bind, hrun, Result.andThen_ok, Sem.run_pure]
    exact hK _ _ h
theorem make71 (k : Nat) (hk : k ≤ 2000) (w : World) :
    (Instr.makeSlice 52 (.int .i64 (k : Int)) (.int .i64 (k : Int))).run Try.prog w = .ok (.slice (some ⟨w.heap.size, 0, none⟩) k k) (w.alloc (.cells ((List.replicate (k * 64) (0 : UInt8)).map B8).toArray 71)) := by
  obtain ⟨i0, hi, hz0, hz1, hz2⟩ := info_parts Try.info71
  have := run_make (P := Try.prog) w 52 71 i0 (ag zs64) Try.underlying52 hi hz0 .i64 .i64 (k : Int) (k : Int) (by omega) (by omega) (by rw [hz2]; omega) (by omega)
  rw [this, hz1]
  have hc : (ag zs64).cells = (zs64.map B8).toArray := rfl
  rw [hc, made_zeros]
  simp

/-- A disk as New makes it. -/
def fresh (n : Nat) : DSt := ⟨List.replicate (n * 64) 0, [], -1, false, 0⟩
def nOf (i : Int) : Nat := min i.toNat 2000
def Made (w : World) (D : DSt) (e : Ending) (w' : World) : Prop := ∃ p, e = .returned (.pointer (some ⟨p, 0, none⟩)) ∧ Dk w' (fun k => w.heap.size ≤ k) p D ∧ Keeps (fun _ => False) w w'

theorem made_of (w : World) (n : Nat) (hn : n ≤ 2000) (w' : World)
    (h : w' = ((w.alloc (.cells ((List.replicate (n * 64) (0 : UInt8)).map B8).toArray 71)).alloc (.map #[] 0)).alloc (.cells #[.slice (some ⟨w.heap.size, 0, none⟩) n n, .slice none 0 0, .map (some (w.heap.size + 1)), .int .i64 (-1), .bool false, .int .i64 0] 58)) :
    Made w (fresh n) (.returned (.pointer (some ⟨w.heap.size + 2, 0, none⟩))) w' := by
  subst h
  refine ⟨w.heap.size + 2, rfl, ⟨w.heap.size, w.heap.size + 1, n, .slice none 0 0, ⟨⟨by simp [fresh, Nat.mul_comm], hn, fun q hq => (by cases hq), by simp [fresh], by simp [fresh]⟩, ?_, ?_, World.ownsRow_nil _ _ _ _, ?_⟩, ?_, ?_, ?_, fun g hg => (by cases hg)⟩, ?_⟩
  · have e : ((w.alloc (.cells ((List.replicate (n * 64) (0 : UInt8)).map B8).toArray 71)).alloc (.map #[] 0)).heap.size = w.heap.size + 2 := by simp
    rw [← e]
    exact heap_alloc_last _ _
  · exact (Below.heap_alloc _ _ _ (by simp; omega)).trans ((Below.heap_alloc _ _ _ (by simp)).trans (heap_alloc_last w _))
  · have hm := MapIs.made (w.alloc (.cells ((List.replicate (n * 64) (0 : UInt8)).map B8).toArray 71))
    have e : (w.alloc (.cells ((List.replicate (n * 64) (0 : UInt8)).map B8).toArray 71)).heap.size = w.heap.size + 1 := by simp
    rw [e] at hm
    exact hm.keep (Below.heap_alloc _ _ _ (by simp))
  · show w.heap.size ≤ w.heap.size + 2; omega
  · exact Nat.le_refl _
  · show w.heap.size ≤ w.heap.size + 1; omega
  · exact ((Keeps.alloc _ _ _).trans (Keeps.alloc _ _ _)).trans (Keeps.alloc _ _ _)

set_option maxHeartbeats 400000 in
theorem new_any (i : Int) (w : World) : Calls Try.prog 10 #[.int .i64 i] w (Made w (fresh (nOf i))) := by
  have hmm := @run_makeMap Try.prog
  by_cases h1 : i < 0
  · have e : nOf i = 0 := by unfold nOf; omega
    rw [e]
    have hf := made_of w 0 (by omega) _ rfl
    have HF := Lib.hid hf
    have hmk : ∀ w : World, (Instr.makeSlice 52 (.int .i64 0) (.int .i64 0)).run Try.prog w = .ok (.slice (some ⟨w.heap.size, 0, none⟩) 0 0) (w.alloc (.cells ((List.replicate (0 * 64) (0 : UInt8)).map B8).toArray 71)) := make71 0 (by omega)
    have MK := Lib.hid hmk
    clear e hf hmk
    generalize (List.replicate (0 * 64) (0 : UInt8)).map B8 = zz at *
    go_enter Try.func10, Try.ntmps10
    go_wp2_with (((with_reducible refine here (op := .makeSlice 52 (.tmp 7) (.tmp 7)) ?_); refine wpList_make_run rfl 52 _ _ rfl _ _ _ rfl rfl (MK.out _) ?_))
    go_ret
    exact HF.out
  · by_cases h2 : 2000 < i
    · have e : nOf i = 2000 := by unfold nOf; omega
      rw [e]
      have hf := made_of w 2000 (by omega) _ rfl
      have HF := Lib.hid hf
      have hmk : ∀ w : World, (Instr.makeSlice 52 (.int .i64 2000) (.int .i64 2000)).run Try.prog w = .ok (.slice (some ⟨w.heap.size, 0, none⟩) 2000 2000) (w.alloc (.cells ((List.replicate (2000 * 64) (0 : UInt8)).map B8).toArray 71)) := make71 2000 (by omega)
      have MK := Lib.hid hmk
      clear e hf hmk
      generalize (List.replicate (2000 * 64) (0 : UInt8)).map B8 = zz at *
      go_enter Try.func10, Try.ntmps10
      go_wp2_with (((with_reducible refine here (op := .makeSlice 52 (.tmp 7) (.tmp 7)) ?_); refine wpList_make_run rfl 52 _ _ rfl _ _ _ rfl rfl (MK.out _) ?_))
      go_ret
      exact HF.out

    · obtain ⟨k, rfl⟩ := Int.eq_ofNat_of_zero_le (show 0 ≤ i by omega)
      have e : nOf (k : Int) = k := by unfold nOf; omega
      rw [e]
      have hf := made_of w k (by omega) _ rfl
      have HF := Lib.hid hf
      have hmk : ∀ w : World, (Instr.makeSlice 52 (.int .i64 (k : Int)) (.int .i64 (k : Int))).run Try.prog w = .ok (.slice (some ⟨w.heap.size, 0, none⟩) k k) (w.alloc (.cells ((List.replicate (k * 64) (0 : UInt8)).map B8).toArray 71)) := make71 k (by omega)
      have MK := Lib.hid hmk
      clear e hf hmk
      generalize (List.replicate (k * 64) (0 : UInt8)).map B8 = zz at *
      go_enter Try.func10, Try.ntmps10
      go_wp2_with (((with_reducible refine here (op := .makeSlice 52 (.tmp 7) (.tmp 7)) ?_); refine wpList_make_run rfl 52 _ _ rfl _ _ _ rfl rfl (MK.out _) ?_))
      go_ret
      exact HF.out

end Go.Proofs.Ythbdhmjmboliiaa
