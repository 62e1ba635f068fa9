/-
  The contracts of torn and stays.
-/
import Derived.Test.YthbdhmjmboliiaaDkWrite
import Derived.Laws.BitsAllLaws
namespace Go.Proofs.Ythbdhmjmboliiaa
open Go.RowKit Go.Maps

/-- A fate as a value. -/
structure Fate where
  stay : Int
  torn : Int
  cut : Int
  head : Bool
def fcells (f : Fate) : Array Value := #[.int .u64 f.stay, .int .i64 f.torn, .int .i64 f.cut, .bool f.head]
def agf (f : Fate) : Value := .agg (fcells f)

theorem box71 (w : World) (xs : List UInt8) : (Instr.box 71 (ag xs)).run Try.prog w = .ok (.pointer (some ⟨w.heap.size, 0, none⟩)) (w.alloc (.cells (xs.map B8).toArray 71)) := rfl
theorem box71_2 (w : World) (o : Obj) (xs : List UInt8) : (Instr.box 71 (ag xs)).run Try.prog (w.alloc o) = .ok (.pointer (some ⟨w.heap.size + 1, 0, none⟩)) ((w.alloc o).alloc (.cells (xs.map B8).toArray 71)) := by
  have := box71 (w.alloc o) xs
  rwa [World.size_alloc] at this
theorem box33_3 (w : World) (o o' : Obj) (f : Fate) : (Instr.box 33 (agf f)).run Try.prog ((w.alloc o).alloc o') = .ok (.pointer (some ⟨w.heap.size + 2, 0, none⟩)) (((w.alloc o).alloc o').alloc (.cells (fcells f) 33)) := by
  have e : ((w.alloc o).alloc o').heap.size = w.heap.size + 2 := by simp
  rw [← e]
  rfl
theorem alloc71_4 (w : World) (o o' o'' : Obj) : (Instr.alloc 71 true (.tuple #[])).run Try.prog (((w.alloc o).alloc o').alloc o'') = .ok (.pointer (some ⟨w.heap.size + 3, 0, none⟩)) ((((w.alloc o).alloc o').alloc o'').alloc (.cells z64 71)) := by
  have e : (((w.alloc o).alloc o').alloc o'').heap.size = w.heap.size + 3 := by simp
  have := alloc71 (((w.alloc o).alloc o').alloc o'')
  rwa [e] at this

def tornW (w : World) (xs ys : List UInt8) (f : Fate) : World := (((w.alloc (.cells (xs.map B8).toArray 71)).alloc (.cells (ys.map B8).toArray 71)).alloc (.cells (fcells f) 33)).alloc (.cells z64 71)
theorem tornW_facts (w : World) (xs ys : List UInt8) (f : Fate) : (tornW w xs ys f).heap.size = w.heap.size + 4 ∧ (tornW w xs ys f).heap[w.heap.size]? = some (.cells (xs.map B8).toArray 71 (0, 0)) ∧ (tornW w xs ys f).heap[w.heap.size + 1]? = some (.cells (ys.map B8).toArray 71 (0, 0)) ∧
    (tornW w xs ys f).heap[w.heap.size + 2]? = some (.cells (fcells f) 33 (0, 0)) ∧ (tornW w xs ys f).heap[w.heap.size + 3]? = some (.cells (zs64.map B8).toArray 71 (0, 0)) ∧ Keeps (fun _ => False) w (tornW w xs ys f) := by
  have k : Keeps (fun _ => False) w (tornW w xs ys f) := ((Keeps.alloc _ _ _).trans (Keeps.alloc _ _ _)).trans ((Keeps.alloc _ _ _).trans (Keeps.alloc _ _ _))
  refine ⟨by simp [tornW], ?_, ?_, ?_, ?_, k⟩
  · exact (Below.heap_alloc _ _ _ (by simp; omega)).trans ((Below.heap_alloc _ _ _ (by simp; omega)).trans ((Below.heap_alloc _ _ _ (by simp)).trans (heap_alloc_last w _)))
  · refine (Below.heap_alloc _ _ _ (by simp)).trans ((Below.heap_alloc _ _ _ (by simp)).trans ?_)
    have e : (w.alloc (.cells (xs.map B8).toArray 71)).heap.size = w.heap.size + 1 := by simp
    rw [← e]
    exact heap_alloc_last _ _
  · refine (Below.heap_alloc _ _ _ (by simp)).trans ?_
    have e : ((w.alloc (.cells (xs.map B8).toArray 71)).alloc (.cells (ys.map B8).toArray 71)).heap.size = w.heap.size + 2 := by simp
    rw [← e]
    exact heap_alloc_last _ _
  · have e : (((w.alloc (.cells (xs.map B8).toArray 71)).alloc (.cells (ys.map B8).toArray 71)).alloc (.cells (fcells f) 33)).heap.size = w.heap.size + 3 := by simp
    rw [← e]
    exact heap_alloc_last _ _

set_option maxHeartbeats 1000000 in
theorem torn_any (xs ys : List UInt8) (f : Fate) (w : World) (hx : xs.length = 64) (hy : ys.length = 64) :
    Calls Try.prog 44 #[ag xs, ag ys, agf f] w fun e w' => e = .returned (ag (mixL xs ys (clamp f.cut 64) f.head)) ∧ Keeps (fun _ => False) w w' := by
  obtain ⟨t0, t1, t2, t3, t4, t5⟩ := tornW_facts w xs ys f
  have HX := Lib.hid hx
  have HY := Lib.hid hy
  have T1 := Lib.hid t1
  have T2 := Lib.hid t2
  have T4 := Lib.hid t4
  have T0 := Lib.hid t0
  have c1 : (tornW w xs ys f).drew.cell? ⟨w.heap.size + 2, 2, none⟩ = some (.int .i64 f.cut) := by
    have e : (tornW w xs ys f).cell? ⟨w.heap.size + 2, 2, none⟩ = some (.int .i64 f.cut) := by rw [cell_of_row _ _ _ _ _ _ t3]; rfl
    exact e
  have c2 : (tornW w xs ys f).drew.cell? ⟨w.heap.size + 2, 3, none⟩ = some (.bool f.head) := by
    have e : (tornW w xs ys f).cell? ⟨w.heap.size + 2, 3, none⟩ = some (.bool f.head) := by rw [cell_of_row _ _ _ _ _ _ t3]; rfl
    exact e
  clear hx hy t0 t1 t2 t3 t4
  generalize hzs : mixL xs ys (clamp f.cut 64) f.head = zs
  have HZS := Lib.hid hzs
  clear hzs
  go_enter Try.func44, Try.ntmps44
  go_wp2_with (first
    | ((with_reducible refine here (op := .box 71 (.tmp 0)) ?_); refine wpList_box_run rfl 71 _ rfl _ _ rfl (box71 _ _) ?_)
    | ((with_reducible refine here (op := .box 71 (.tmp 1)) ?_); refine wpList_box_run rfl 71 _ rfl _ _ rfl (box71_2 _ _ _) ?_)
    | ((with_reducible refine here (op := .box 33 (.tmp 2)) ?_); refine wpList_box_run rfl 33 _ rfl _ _ rfl (box33_3 _ _ _ _) ?_)
    | ((with_reducible refine here (op := .alloc 71) (d := some 6) ?_); refine wpList_alloc_run rfl 71 rfl _ (alloc71_4 _ _ _ _) ?_; refine wpList_world (w' := tornW w xs ys f) rfl ?_))
  refine wp_region_any (by kernel_rfl) ?_
  change wpAny _ _ _ _ _ _ _ (World.drew (tornW w xs ys f))
  have k1 : Keeps (fun _ => False) (tornW w xs ys f) (tornW w xs ys f).drew := Keeps.drew _ _
  have E1 : Hid ((tornW w xs ys f).drew.heap = (tornW w xs ys f).heap) := rfl
  generalize (tornW w xs ys f).drew = W0 at *
  generalize tornW w xs ys f = WT at *
  refine wpAny_take (oi := ⟨_, _, _, _, _, _⟩) (i := 0) (v := .slice (some ⟨w.heap.size, 0, none⟩) 64 64) rfl (by kernel_rfl) (by kernel_rfl) (by kernel_rfl) (fun _ _ _ h => h) (Or.inl ⟨by rfl, fun w => by go_simp⟩) ?_
  simp only [Act.put, List.setIfInBounds_toArray, List.set_cons_zero, List.set_cons_succ]
  refine wpAny_tail [1, 2, 3, 4, 5, 6] [7, 8] [_, _, _, _, _, _] [_, _] rfl rfl rfl (by kernel_rfl) ?_
  still_step
  still_step
  still_step
  still_step
  still_step
  still_step
  refine wpStill_nil ?_
  go_wp2_with fail
  have b0 : W0.heap[w.heap.size]? = some (.cells (xs.map B8).toArray 71 (0, 0)) := by rw [E1.out]; exact T1.out
  have b1 : W0.heap[w.heap.size + 1]? = some (.cells (ys.map B8).toArray 71 (0, 0)) := by rw [E1.out]; exact T2.out
  have b4 : W0.heap[w.heap.size + 3]? = some (.cells (zs64.map B8).toArray 71 (0, 0)) := by rw [E1.out]; exact T4.out
  have s0 : W0.heap.size = w.heap.size + 4 := by rw [E1.out]; exact T0.out
  have hx0 := br_block b0 0 64
  have hy0 := br_block b1 0 64
  rw [List.drop_zero, List.take_of_length_le (by rw [HX.out]; omega)] at hx0
  rw [List.drop_zero, List.take_of_length_le (by rw [HY.out]; omega)] at hy0
  have hc := leMix_any _ xs 64 _ ys 64 f.cut f.head W0 hx0 hy0 (by rw [HX.out]; omega) (by rw [HY.out]; omega)
  rw [HX.out, HY.out] at hc
  rw [show ((64 : Nat) : Int) = 64 from rfl, HZS.out] at hc
  refine hc.mono ?_
  rintro e w1 ⟨R, c, rfl, hr, hb⟩
  have hzl : zs.length = 64 := by rw [← HZS.out, mixL_len, HX.out]
  have d0 : w1.heap[w.heap.size]? = some (.cells (xs.map B8).toArray 71 (0, 0)) := (hb.block _ (by omega)).trans b0
  have d4 : w1.heap[w.heap.size + 3]? = some (.cells (zs64.map B8).toArray 71 (0, 0)) := (hb.block _ (by omega)).trans b4
  have cpy := fun ty => run_copy8 (P := Try.prog) w1 30 30 ty 5 71 Try.underlying30 (by kernel_rfl) w.heap.size 0 64 64 (some ⟨w.heap.size, 0, none⟩) xs zs R c _ (fun _ => rfl) (Row8.of_block d0) hr (by rw [hzl]; exact Nat.le_refl _) (by rw [hzl, HX.out]; exact Nat.le_refl _)
  obtain ⟨w2, hrun, hrow, hg2⟩ := cpy 3
  rw [hzl] at hrun ⊢
  rw [splice_all _ _ (by rw [HX.out, hzl])] at hrow
  have e0 := hrow.block
  have e4 : w2.heap[w.heap.size + 3]? = some (.cells (zs64.map B8).toArray 71 (0, 0)) := (hg2.block _ (by have := hb.size; omega) (by simp)).trans d4
  have r2 := range_block e0 0 64
  rw [List.drop_zero, List.take_of_length_le (by rw [hzl]; omega)] at r2
  have LD := Lib.hid (load71 hzl r2)
  have SD := Lib.hid (store71 (w := w2) (b := w.heap.size + 3) (o := 0) (xs := zs) hzl (there_block e4 0 64 (by rw [zs64_len]; omega)))
  obtain ⟨g1, g2⟩ := setCells_block (w := w2) (ys := zs) 0 e4 (by rw [zs64_len, hzl]; omega)
  rw [splice_all _ _ (by rw [zs64_len, hzl])] at g1
  have G1 := Lib.hid g1
  have HZ := Lib.hid hzl
  have hs2 := hg2.size
  have hs1 := hb.size
  clear b0 b1 b4 hx0 hy0 hc d0 d4 cpy e0 e4 r2 g1 hzl hr hrow
  go_wp2_with (first
    | ((with_reducible refine here (op := .load 71 (.tmp 3)) ?_); refine wpList_load_run rfl 71 _ rfl _ _ rfl LD.out ?_)
    | ((with_reducible refine here (op := .store 71 (.tmp 6) (.tmp 16)) ?_); refine wpList_store_run rfl 71 _ _ rfl _ _ rfl rfl SD.out ?_))
  refine bodyPost_ret (v := ag zs) ?_ rfl ⟨rfl, ?_⟩
  · exact results_cell_row rfl _ _ (w.heap.size + 3) 71 _ (0, 0) _ rfl G1.out Try.underlying71 rfl (by rw [Try.size71]; simp [HZ.out])
  · have hk := t5.trans k1
    refine ⟨g2.os.trans (hg2.os.trans (hb.os.trans hk.os)), g2.tape.trans (hg2.tape.trans (hb.tape.trans hk.tape)), g2.output.trans (hg2.output.trans (hb.output.trans hk.output)), ?_, fun j hj hF => ?_⟩
    · have := g2.size; omega
    · rw [g2.block j (by omega) (by omega), hg2.block j (by omega) (by simp; omega), hb.block j (by omega), hk.block j hj hF]

/-- Does the i-th write stay? -/
def stayB (s : Int) (i : Nat) : Bool := (s / 2 ^ (min i 63)) % 2 == 1
theorem and_one64 (x : Int) (h0 : 0 ≤ x) (h1 : x ≤ 18446744073709551615) : bits .and .u64 x 1 = x % 2 := by
  obtain ⟨n, rfl⟩ := Int.eq_ofNat_of_zero_le h0
  have := bits_and_u64_nat n 1 (by omega) (by omega)
  rw [show ((1 : Nat) : Int) = 1 from rfl] at this
  rw [this, Nat.and_one_is_mod]
  omega
theorem div_range (s : Int) (k : Nat) (h0 : 0 ≤ s) (h1 : s ≤ 18446744073709551615) : 0 ≤ s / 2 ^ k ∧ s / 2 ^ k ≤ 18446744073709551615 := by
  obtain ⟨n, rfl⟩ := Int.eq_ofNat_of_zero_le h0
  have e : ((n : Int) / 2 ^ k) = ((n / 2 ^ k : Nat) : Int) := by simp
  have := Nat.div_le_self n (2 ^ k)
  rw [e]
  clear e
  generalize n / 2 ^ k = m at *
  omega

set_option maxHeartbeats 400000 in
theorem stays_any (s : Int) (i : Nat) (hs0 : 0 ≤ s) (hs1 : s ≤ 18446744073709551615) (hi : i ≤ 1000000000000000) (w : World) :
    Calls Try.prog 45 #[.int .u64 s, .int .i64 (i : Int)] w fun e w' => e = .returned (.bool (stayB s i)) ∧ w = w' := by
  by_cases h63 : 63 < (i : Int)
  · have e : stayB s i = (bits .and .u64 (s / 9223372036854775808) 1 == 1) := by
      have hd := div_range s 63 hs0 hs1
      have e2 : (2 : Int) ^ 63 = 9223372036854775808 := by decide
      rw [e2] at hd
      unfold stayB
      rw [show min i 63 = 63 from by omega, e2, and_one64 _ hd.1 hd.2]
    have E := Lib.hid e
    clear e
    go_enter Try.func45, Try.ntmps45
    go_wp2
    go_ret
    exact ⟨by rw [E.out]; rfl, rfl⟩
  · have e : stayB s i = (bits .and .u64 (s / 2 ^ i) 1 == 1) := by
      have hd := div_range s i hs0 hs1
      unfold stayB
      rw [show min i 63 = i from by omega, and_one64 _ hd.1 hd.2]
    have E := Lib.hid e
    clear e
    go_enter Try.func45, Try.ntmps45
    go_wp2
    go_ret
    exact ⟨by rw [E.out]; rfl, rfl⟩
end Go.Proofs.Ythbdhmjmboliiaa
