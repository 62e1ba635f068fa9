/-
  The contract of awake: chapter 2's example comes out as the document says.
-/
import Derived.Test.YthbdhmjmboliiaaDkNew
import Derived.RegionTactic
namespace Go.Proofs.Ythbdhmjmboliiaa
open Go.RowKit Go.Maps

theorem add_0 (a : Addr) : a.add 0 = a := by cases a; unfold Addr.add; split <;> simp_all
def xa : List UInt8 := 1 :: List.replicate 63 0
def xb : List UInt8 := 2 :: List.replicate 63 0
def f2 : Fate := ⟨2, -1, 0, false⟩
theorem f2_ok : f2.Ok := ⟨by decide, by decide⟩
theorem build2 (w : World) : (Instr.build 33 #[(0, .int .u64 2), (1, .int .i64 (-1))]).run Try.prog w = .ok (agf f2) w := by kernel_rfl
theorem row_set (zs : List UInt8) (u : UInt8) : ((zs.map B8).toArray).setIfInBounds 0 (B8 u) = ((zs.set 0 u).map B8).toArray := by simp [List.map_set]
theorem setA : zs64.set 0 1 = xa := by decide +kernel
theorem setB : zs64.set 0 2 = xb := by decide +kernel
theorem rowA : ((zs64.map B8).toArray).setIfInBounds 0 (.int .u8 1) = (xa.map B8).toArray := by rw [← setA]; exact row_set zs64 1
theorem rowB : ((zs64.map B8).toArray).setIfInBounds 0 (.int .u8 2) = (xb.map B8).toArray := by rw [← setB]; exact row_set zs64 2
def exD : DSt := (((fresh 4).write 1 xa).write 2 xb).restart f2
theorem len1 : (exD.readAt 1).length = 64 := by decide +kernel
theorem len2 : (exD.readAt 2).length = 64 := by decide +kernel
theorem err1 : exD.readErr 1 = 0 := by decide +kernel
theorem err2 : exD.readErr 2 = 0 := by decide +kernel
theorem at1 : (exD.readAt 1).getD 0 0 = 0 := by decide +kernel
theorem at2 : (exD.readAt 2).getD 0 0 = 2 := by decide +kernel
theorem acts2 : exD.acts = 2 := by decide +kernel
/-- 64 bytes of noughts, as make gives them. -/
theorem make64 (w : World) : (Instr.makeSlice 30 (.int .i64 64) (.int .i64 64)).run Try.prog w = .ok (.slice (some ⟨w.heap.size, 0, none⟩) 64 64) (w.alloc (.cells z64 5)) := by
  have := make8 64 (by omega) w
  have e : madeCells #[.int .u8 0] 64 = z64 := by kernel_rfl
  rw [e] at this
  exact this

set_option maxHeartbeats 2000000 in
theorem awake_any (w : World) :
    Calls Try.prog 8 #[] w fun e w' => e = .returned (.bool true) ∧ Below w.heap.size w w' := by
  go_enter Try.func8, Try.ntmps8
  go_wp2_with fail
  refine (new_any 4 w).mono ?_
  rintro e w1 ⟨p, rfl, hd, k1⟩
  rw [show nOf 4 = 4 from by decide] at hd
  have hmk := make64
  have q0 : ((w1.alloc (.cells z64 5)).alloc (.cells z64 5)).drew.heap[w1.heap.size]? = some (.cells (zs64.map B8).toArray 5 (0, 0)) := heap_alloc2_old w1 _ _
  have q1 : ((w1.alloc (.cells z64 5)).alloc (.cells z64 5)).drew.heap[w1.heap.size + 1]? = some (.cells (zs64.map B8).toArray 5 (0, 0)) := heap_alloc2_new w1 _ _
  have s2 : ((w1.alloc (.cells z64 5)).alloc (.cells z64 5)).drew.heap.size = w1.heap.size + 2 := by show ((w1.alloc _).alloc _).heap.size = _; simp
  have k2 : Keeps (fun _ => False) w1 ((w1.alloc (.cells z64 5)).alloc (.cells z64 5)).drew := ((Keeps.alloc _ _ _).trans (Keeps.alloc _ _ _)).trans (Keeps.drew _ _)
  have S2 := Lib.hid s2
  have Q0 := Lib.hid q0
  have Q1 := Lib.hid q1
  clear s2 q0 q1
  go_wp2_with fail
  go_region
  all_goals
    clear hmk
    generalize ((w1.alloc (.cells z64 5)).alloc (.cells z64 5)).drew = w2 at *
  · have ba0 : w2.heap[w1.heap.size]? = some (.cells (zs64.map B8).toArray 5 (0, 0)) := Q0.out
    have bb0 : w2.heap[(w1.heap.size + 1)]? = some (.cells (zs64.map B8).toArray 5 (0, 0)) := Q1.out
    have s2 := S2.out
    have ca : w2.cell? ⟨w1.heap.size, 0, none⟩ = some (.int .u8 0) := by rw [cell_of_row _ _ _ _ _ _ ba0]; rfl
    have fa := frozen_of_row w2 w1.heap.size 0 _ _ ba0
    have cb : (w2.setCell ⟨w1.heap.size, 0, none⟩ (.int .u8 1)).cell? ⟨(w1.heap.size + 1), 0, none⟩ = some (.int .u8 0) := by
      rw [cell_of_row _ _ _ _ _ _ ((Below.heap_setCell _ _ _ _ (by simp)).trans bb0)]; rfl
    have fb : (w2.setCell ⟨w1.heap.size, 0, none⟩ (.int .u8 1)).frozen? ⟨(w1.heap.size + 1), 0, none⟩ = false := frozen_of_row _ (w1.heap.size + 1) 0 _ _ ((Below.heap_setCell _ _ _ _ (by simp)).trans bb0)
    have A1 : Hid (((w2.setCell ⟨w1.heap.size, 0, none⟩ (.int .u8 1)).setCell ⟨(w1.heap.size + 1), 0, none⟩ (.int .u8 2)).heap[w1.heap.size]? = some (.cells (xa.map B8).toArray 5 (0, 0))) := by
      show _ = _
      rw [Below.heap_setCell _ _ _ _ (by simp), heap_setCell_same w2 w1.heap.size 0 _ _ _ ba0, rowA]
    have B1 : Hid (((w2.setCell ⟨w1.heap.size, 0, none⟩ (.int .u8 1)).setCell ⟨(w1.heap.size + 1), 0, none⟩ (.int .u8 2)).heap[(w1.heap.size + 1)]? = some (.cells (xb.map B8).toArray 5 (0, 0))) := by
      show _ = _
      rw [heap_setCell_same _ (w1.heap.size + 1) 0 _ _ _ ((Below.heap_setCell _ _ _ _ (by simp)).trans bb0), rowB]
    have K3 : Keeps (fun k => w1.heap.size ≤ k) w2 ((w2.setCell ⟨w1.heap.size, 0, none⟩ (.int .u8 1)).setCell ⟨(w1.heap.size + 1), 0, none⟩ (.int .u8 2)) := (Keeps.setCell _ _ _ _ (by simp)).trans (Keeps.setCell _ _ _ _ (by simp))
    clear ba0 bb0
    go_wp2_with fail
    generalize (w2.setCell ⟨w1.heap.size, 0, none⟩ (.int .u8 1)).setCell ⟨(w1.heap.size + 1), 0, none⟩ (.int .u8 2) = w3 at *
    clear ca fa cb fb
    have kk : Keeps (fun k => w1.heap.size ≤ k) w1 w3 := k2.ofFalse.trans K3
    have s3 := K3.size
    have hd3 : Dk w3 (fun k => w.heap.size ≤ k ∧ k < w1.heap.size) p (fresh 4) := (hd.mono (fun k hk h => (⟨h, hk⟩ : w.heap.size ≤ k ∧ k < w1.heap.size))).keep kk (fun b _ h => by omega)
    have bra := br_block A1.out 0 64
    have brb := br_block B1.out 0 64
    rw [List.drop_zero, List.take_of_length_le (by decide)] at bra brb
    refine (write_any hd3 1 _ xa 64 bra (fun ad e _ h => by cases e; simp only at h; omega) (by decide) (by decide)).mono ?_
    rintro e w4 ⟨rfl, hd4, k4⟩
    rw [show (fresh 4).writeErr 1 xa = 0 from by decide +kernel]
    have s4 := k4.size
    have brb4 := k4.br brb (fun ad e _ h => by cases e; simp only at h; omega)
    go_wp2_with fail
    refine (write_any hd4 2 _ xb 64 brb4 (fun ad e _ h => by cases e; simp only [Gr] at h; omega) (by decide +kernel) (by decide +kernel)).mono ?_
    rintro e w5 ⟨rfl, hd5, k5⟩
    rw [show ((fresh 4).write 1 xa).writeErr 2 xb = 0 from by decide +kernel]
    have s5 := k5.size
    go_wp2_with (((with_reducible refine here (op := .build 33 #[(0, .const (.int .u64 2)), (1, .const (.int .i64 (-1)))]) ?_); refine wpList_build2_run rfl 33 _ _ rfl _ _ _ rfl rfl (build2 _) ?_))
    refine (restart_any hd5 f2 f2_ok (by decide +kernel)).mono ?_
    rintro e w6 ⟨rfl, hd6, k6⟩
    have s6 := k6.size
    have kA : Keeps (fun k => w.heap.size ≤ k) w w6 := by
      have a1 : Keeps (fun k => w.heap.size ≤ k) w w3 := k1.ofFalse.trans (kk.mono fun k _ h => by have := k1.size; omega)
      have a2 := a1.trans (k4.mono fun k _ h => h.1)
      have a3 := a2.trans (k5.mono fun k _ h => by have := a1.size; simp only [Gr] at h; omega)
      exact a3.trans (k6.mono fun k _ h => by have := a1.size; simp only [Gr] at h; omega)
    obtain ⟨lb, mb, n, iv, hd6, _⟩ := hd6
    change DkAt w6 p lb mb n iv exD at hd6
    go_wp2_with fail
    refine (read_at hd6 1).mono ?_
    rintro e w7 ⟨R1, cc1, rfl, br1, _, k7⟩
    have hd7 := hd6.same k7
    rw [len1, err1]
    go_wp2_with fail
    refine (read_at hd7 2).mono ?_
    rintro e w8 ⟨R2, cc2, rfl, br2, _, k8⟩
    have hd8 := hd7.same k8
    rw [len2, err2]
    have br1' := k8.br br1 (fun _ _ _ h => h)
    obtain ⟨ad1, rfl, _, x1⟩ := br1'.at_ (k := 0) (by rw [len1]; omega)
    obtain ⟨ad2, rfl, _, x2⟩ := br2.at_ (k := 0) (by rw [len2]; omega)
    rw [at1, add_0] at x1
    rw [at2, add_0] at x2
    change w8.cell? ad1 = some (.int .u8 0) at x1
    change w8.cell? ad2 = some (.int .u8 2) at x2
    have ha := acts_at hd8
    rw [acts2] at ha
    have HA := Lib.hid ha
    clear ha br1 br2 br1' hd6 hd7
    go_wp2_with fail
    refine HA.out.mono ?_
    rintro e w9 ⟨rfl, rfl⟩
    go_wp2_with fail
    go_ret
    exact ⟨rfl, (((kA.trans k7.ofFalse).trans k8.ofFalse).toBelow _ (Nat.le_refl _) (fun _ h => h))⟩
  · have ba0 : w2.heap[(w1.heap.size + 1)]? = some (.cells (zs64.map B8).toArray 5 (0, 0)) := Q1.out
    have bb0 : w2.heap[w1.heap.size]? = some (.cells (zs64.map B8).toArray 5 (0, 0)) := Q0.out
    have s2 := S2.out
    have ca : w2.cell? ⟨(w1.heap.size + 1), 0, none⟩ = some (.int .u8 0) := by rw [cell_of_row _ _ _ _ _ _ ba0]; rfl
    have fa := frozen_of_row w2 (w1.heap.size + 1) 0 _ _ ba0
    have cb : (w2.setCell ⟨(w1.heap.size + 1), 0, none⟩ (.int .u8 1)).cell? ⟨w1.heap.size, 0, none⟩ = some (.int .u8 0) := by
      rw [cell_of_row _ _ _ _ _ _ ((Below.heap_setCell _ _ _ _ (by simp)).trans bb0)]; rfl
    have fb : (w2.setCell ⟨(w1.heap.size + 1), 0, none⟩ (.int .u8 1)).frozen? ⟨w1.heap.size, 0, none⟩ = false := frozen_of_row _ w1.heap.size 0 _ _ ((Below.heap_setCell _ _ _ _ (by simp)).trans bb0)
    have A1 : Hid (((w2.setCell ⟨(w1.heap.size + 1), 0, none⟩ (.int .u8 1)).setCell ⟨w1.heap.size, 0, none⟩ (.int .u8 2)).heap[(w1.heap.size + 1)]? = some (.cells (xa.map B8).toArray 5 (0, 0))) := by
      show _ = _
      rw [Below.heap_setCell _ _ _ _ (by simp), heap_setCell_same w2 (w1.heap.size + 1) 0 _ _ _ ba0, rowA]
    have B1 : Hid (((w2.setCell ⟨(w1.heap.size + 1), 0, none⟩ (.int .u8 1)).setCell ⟨w1.heap.size, 0, none⟩ (.int .u8 2)).heap[w1.heap.size]? = some (.cells (xb.map B8).toArray 5 (0, 0))) := by
      show _ = _
      rw [heap_setCell_same _ w1.heap.size 0 _ _ _ ((Below.heap_setCell _ _ _ _ (by simp)).trans bb0), rowB]
    have K3 : Keeps (fun k => w1.heap.size ≤ k) w2 ((w2.setCell ⟨(w1.heap.size + 1), 0, none⟩ (.int .u8 1)).setCell ⟨w1.heap.size, 0, none⟩ (.int .u8 2)) := (Keeps.setCell _ _ _ _ (by simp)).trans (Keeps.setCell _ _ _ _ (by simp))
    clear ba0 bb0
    go_wp2_with fail
    generalize (w2.setCell ⟨(w1.heap.size + 1), 0, none⟩ (.int .u8 1)).setCell ⟨w1.heap.size, 0, none⟩ (.int .u8 2) = w3 at *
    clear ca fa cb fb
    have kk : Keeps (fun k => w1.heap.size ≤ k) w1 w3 := k2.ofFalse.trans K3
    have s3 := K3.size
    have hd3 : Dk w3 (fun k => w.heap.size ≤ k ∧ k < w1.heap.size) p (fresh 4) := (hd.mono (fun k hk h => (⟨h, hk⟩ : w.heap.size ≤ k ∧ k < w1.heap.size))).keep kk (fun b _ h => by omega)
    have bra := br_block A1.out 0 64
    have brb := br_block B1.out 0 64
    rw [List.drop_zero, List.take_of_length_le (by decide)] at bra brb
    refine (write_any hd3 1 _ xa 64 bra (fun ad e _ h => by cases e; simp only at h; omega) (by decide) (by decide)).mono ?_
    rintro e w4 ⟨rfl, hd4, k4⟩
    rw [show (fresh 4).writeErr 1 xa = 0 from by decide +kernel]
    have s4 := k4.size
    have brb4 := k4.br brb (fun ad e _ h => by cases e; simp only at h; omega)
    go_wp2_with fail
    refine (write_any hd4 2 _ xb 64 brb4 (fun ad e _ h => by cases e; simp only [Gr] at h; omega) (by decide +kernel) (by decide +kernel)).mono ?_
    rintro e w5 ⟨rfl, hd5, k5⟩
    rw [show ((fresh 4).write 1 xa).writeErr 2 xb = 0 from by decide +kernel]
    have s5 := k5.size
    go_wp2_with (((with_reducible refine here (op := .build 33 #[(0, .const (.int .u64 2)), (1, .const (.int .i64 (-1)))]) ?_); refine wpList_build2_run rfl 33 _ _ rfl _ _ _ rfl rfl (build2 _) ?_))
    refine (restart_any hd5 f2 f2_ok (by decide +kernel)).mono ?_
    rintro e w6 ⟨rfl, hd6, k6⟩
    have s6 := k6.size
    have kA : Keeps (fun k => w.heap.size ≤ k) w w6 := by
      have a1 : Keeps (fun k => w.heap.size ≤ k) w w3 := k1.ofFalse.trans (kk.mono fun k _ h => by have := k1.size; omega)
      have a2 := a1.trans (k4.mono fun k _ h => h.1)
      have a3 := a2.trans (k5.mono fun k _ h => by have := a1.size; simp only [Gr] at h; omega)
      exact a3.trans (k6.mono fun k _ h => by have := a1.size; simp only [Gr] at h; omega)
    obtain ⟨lb, mb, n, iv, hd6, _⟩ := hd6
    change DkAt w6 p lb mb n iv exD at hd6
    go_wp2_with fail
    refine (read_at hd6 1).mono ?_
    rintro e w7 ⟨R1, cc1, rfl, br1, _, k7⟩
    have hd7 := hd6.same k7
    rw [len1, err1]
    go_wp2_with fail
    refine (read_at hd7 2).mono ?_
    rintro e w8 ⟨R2, cc2, rfl, br2, _, k8⟩
    have hd8 := hd7.same k8
    rw [len2, err2]
    have br1' := k8.br br1 (fun _ _ _ h => h)
    obtain ⟨ad1, rfl, _, x1⟩ := br1'.at_ (k := 0) (by rw [len1]; omega)
    obtain ⟨ad2, rfl, _, x2⟩ := br2.at_ (k := 0) (by rw [len2]; omega)
    rw [at1, add_0] at x1
    rw [at2, add_0] at x2
    change w8.cell? ad1 = some (.int .u8 0) at x1
    change w8.cell? ad2 = some (.int .u8 2) at x2
    have ha := acts_at hd8
    rw [acts2] at ha
    have HA := Lib.hid ha
    clear ha br1 br2 br1' hd6 hd7
    go_wp2_with fail
    refine HA.out.mono ?_
    rintro e w9 ⟨rfl, rfl⟩
    go_wp2_with fail
    go_ret
    exact ⟨rfl, (((kA.trans k7.ofFalse).trans k8.ofFalse).toBelow _ (Nat.le_refl _) (fun _ h => h))⟩
end Go.Proofs.Ythbdhmjmboliiaa
