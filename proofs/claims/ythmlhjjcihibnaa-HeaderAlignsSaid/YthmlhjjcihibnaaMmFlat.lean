/-
  MmFlat
-/
import Derived.Test.YthmlhjjcihibnaaMmRef
import Derived.Test.YthmlhjjcihibnaaGMm
namespace Go.Proofs.Ythmlhjjcihibnaa.Mm
open Go.RowKit Go.Maps
set_option linter.unusedVariables false

/-- b's bytes, cut or filled up. -/
def fillL (xs : List UInt8) : List UInt8 := loadL xs 0 8192
theorem fillL_len (xs : List UInt8) : (fillL xs).length = 8192 := loadL_len _ _ _
theorem getD_zeros (n k : Nat) : (List.replicate n (0 : UInt8)).getD k 0 = 0 := by
  rw [List.getD_eq_getElem?_getD, List.getElem?_replicate]
  split <;> rfl
theorem splice_fill (xs : List UInt8) (h : xs.length ≤ 8192) : splice (List.replicate 8192 0) 0 xs = fillL xs := by
  have hl : (splice (List.replicate 8192 (0 : UInt8)) 0 xs).length = 8192 := by
    unfold splice
    simp only [List.length_append, List.length_take, List.length_drop, List.length_replicate]
    omega
  refine ext_getD (by rw [hl, fillL_len]) fun k hk => ?_
  rw [hl] at hk
  unfold fillL
  rw [getD_splice _ _ _ _ (by rw [List.length_replicate]; omega), getD_loadL _ _ _ _ hk, if_neg (by omega), byt_in _ _ (by omega), show ((0 : Int) + k).toNat = k by omega]
  have hz := getD_zeros 8192 k
  by_cases h1 : k < 0 + xs.length
  · rw [if_pos h1]
    congr 1
  · rw [if_neg h1, hz]
    rw [List.getD_eq_getElem?_getD, List.getElem?_eq_none (by omega)]
    rfl
theorem fill_take (xs : List UInt8) (h : 8192 < xs.length) : fillL (xs.take 8192) = fillL xs := by
  refine ext_getD (by rw [fillL_len, fillL_len]) fun k hk => ?_
  rw [fillL_len] at hk
  unfold fillL
  rw [getD_loadL _ _ _ _ hk, getD_loadL _ _ _ _ hk, byt_in _ _ (by omega), byt_in _ _ (by omega), show ((0 : Int) + k).toNat = k by omega]
  simp only [List.getD_eq_getElem?_getD]
  rw [List.getElem?_take_of_lt hk]
/-- 'copy' of any bytes into 8192 noughts. -/
theorem run_fill {w : World} (g c : Nat) (A : Option Addr) (xs : List UInt8) (hr : Row8 w g 5 (List.replicate 8192 0)) (hx : BR w w.heap.size A xs) :
    ∃ n w', (Builtin.copy_ #[22, 22] 3 #[.slice (some ⟨g, 0, none⟩) 8192 8192, .slice A xs.length c]).run Try.prog w = .ok (.int .i64 n) w' ∧ Row8 w' g 5 (fillL xs) ∧ Keeps (fun k => k = g) w w' := by
  by_cases h : xs.length ≤ 8192
  · obtain ⟨w', h1, h2, h3⟩ := run_copy8 (P := Try.prog) w 22 22 3 5 5 Try.underlying22 size8' g 0 8192 8192 (some ⟨g, 0, none⟩) _ xs A c _ (fun _ => rfl) hr hx h (by rw [List.length_replicate]; omega)
    rw [splice_fill xs h] at h2
    exact ⟨_, w', h1, h2, Keeps.grown _ h3 (fun k e => by cases e; rfl)⟩
  · have hne : xs ≠ [] := by intro e; rw [e] at h; simp at h
    obtain ⟨ad, rfl, _, _⟩ := hx hne
    have hl : (xs.take 8192).length = 8192 := by rw [List.length_take]; omega
    obtain ⟨w', h1, h2, h3⟩ := run_copy8m (P := Try.prog) w 22 22 3 5 5 Try.underlying22 size8' g 0 8192 8192 _ (xs.take 8192) ad xs.length c hr (hx.take 8192) (by rw [hl]; omega) (by rw [hl, List.length_replicate]; omega) (by intro e; rw [e] at hl; cases hl)
    rw [splice_fill _ (by omega), fill_take xs (by omega)] at h2
    exact ⟨_, w', h1, h2, Keeps.grown _ h3 (fun k e => by cases e; rfl)⟩

theorem wpList_build1m_run {P : Program} {w w' : World} {ops : Array Oper} {rest : List Oper} {o : Oper} {a : Act} {Q : Exit → Act → World → Prop} (hgd : o.guard = none) (t : TypeId) (x : Operand) (ho : o.op = .build t #[(1, x)]) (u v : Value) (hx : a.eval x = u)
    (hrun : (Instr.build t #[(1, u)]).run P w = .ok v w') (h : wpList P ops Q rest (a.put o.dst v) w') : wpList P ops Q (o :: rest) a w :=
  wpList_plain hgd fun _ hK => by
    unfold Oper.wp execOp
    simp only [ho, Sem.run_bind, List.map_toArray, List.map_cons, List.map_nil, hx, hrun, Result.andThen_ok, Sem.run_pure]
    exact hK _ _ h
theorem wpList_build2m_run {P : Program} {w w' : World} {ops : Array Oper} {rest : List Oper} {o : Oper} {a : Act} {Q : Exit → Act → World → Prop} (hgd : o.guard = none) (t : TypeId) (x y : Operand) (ho : o.op = .build t #[(0, x), (1, y)]) (u u' v : Value) (hx : a.eval x = u) (hy : a.eval y = u')
    (hrun : (Instr.build t #[(0, u), (1, u')]).run P w = .ok v w') (h : wpList P ops Q rest (a.put o.dst v) w') : wpList P ops Q (o :: rest) a w :=
  wpList_plain hgd fun _ hK => by
    unfold Oper.wp execOp
    simp only [ho, Sem.run_bind, List.map_toArray, List.map_cons, List.map_nil, hx, hy, hrun, Result.andThen_ok, Sem.run_pure]
    exact hK _ _ h
theorem wpList_makem_run {P : Program} {w w' : World} {ops : Array Oper} {rest : List Oper} {o : Oper} {a : Act} {Q : Exit → Act → World → Prop} (hgd : o.guard = none) (t : TypeId) (n c : Operand) (ho : o.op = .makeSlice t n c) (x y v : Value) (hx : a.eval n = x) (hy : a.eval c = y)
    (hrun : (Instr.makeSlice t x y).run P w = .ok v w') (h : wpList P ops Q rest (a.put o.dst v) w') : wpList P ops Q (o :: rest) a w :=
  wpList_plain hgd fun _ hK => by
    unfold Oper.wp execOp
    simp only [ho, Sem.run_bind, hx, hy, hrun, Result.andThen_ok, Sem.run_pure]
    exact hK _ _ h
theorem memCells0 (gb mb : Nat) : (memCells gb mb (List.replicate 128 false)).toArray.size = 131 := by simp [memCells]
theorem buildS (w : World) (gb : Nat) : (Instr.build 53 #[(1, .slice (some ⟨gb, 0, none⟩) 8192 8192)]).run Try.prog w = .ok (.agg #[.pointer none, .slice (some ⟨gb, 0, none⟩) 8192 8192]) w := by kernel_rfl
theorem buildM (w : World) (gb mb : Nat) : (Instr.build 57 #[(0, .agg #[.pointer none, .slice (some ⟨gb, 0, none⟩) 8192 8192]), (1, .map (some mb))]).run Try.prog w = .ok (.agg (memCells gb mb (List.replicate 128 false)).toArray) w := by kernel_rfl
theorem boxM (w : World) (gb mb : Nat) : (Instr.box 57 (.agg (memCells gb mb (List.replicate 128 false)).toArray)).run Try.prog w = .ok (.pointer (some ⟨w.heap.size, 0, none⟩)) (w.alloc (.cells (memCells gb mb (List.replicate 128 false)).toArray 57)) := rfl

/-- A memory of these bytes was made. -/
def MadeM (w : World) (xs : List UInt8) (e : Ending) (w' : World) : Prop := ∃ p gb mb, e = .returned (.pointer (some ⟨p, 0, none⟩)) ∧ w.heap.size ≤ p ∧ w.heap.size ≤ gb ∧ w.heap.size ≤ mb ∧ MemAt w' p gb mb (fillL xs) (fillL xs) ∧ Keeps (fun _ => False) w w'
theorem mem_of (w : World) (gb : Nat) (G : List UInt8) (hg : G.length = 8192) (hr : w.heap[gb]? = some (.cells (G.map B8).toArray 5 (0, 0))) :
    MemAt ((w.alloc (.map #[] 0)).alloc (.cells (memCells gb w.heap.size (List.replicate 128 false)).toArray 57)) (w.heap.size + 1) gb w.heap.size G G := by
  have hlt := (Array.getElem?_eq_some_iff.1 hr).1
  refine ⟨hg, hg, ⟨List.replicate 128 false, by simp, heap_alloc2_new w _ _⟩, ?_, ⟨fun _ => none, ?_, ⟨fun i hi x h => by simp at h, fun _ _ _ => rfl⟩⟩⟩
  · rw [Below.heap_alloc _ _ _ (by simp; omega), Below.heap_alloc _ _ _ hlt]
    exact hr
  · exact MapF.tight ((MapF.made pageC w).keep (Below.heap_alloc _ _ _ (by simp)))
set_option maxRecDepth 100000 in
set_option maxHeartbeats 400000 in
theorem mflat_any (A : Option Addr) (xs : List UInt8) (c : Nat) (w : World) (hx : BR w w.heap.size A xs) : Calls Try.prog 9 #[.slice A xs.length c] w (MadeM w xs) := by
  have hmk : ∀ w : World, (Instr.makeSlice 22 (.int .i64 8192) (.int .i64 8192)).run Try.prog w = .ok (.slice (some ⟨w.heap.size, 0, none⟩) 8192 8192) (w.alloc (.cells (madeCells #[.int .u8 0] 8192) 5)) := make8 8192 (by omega)
  have k1 : Keeps (fun _ => False) w (w.alloc (.cells (madeCells #[.int .u8 0] 8192) 5)) := Keeps.alloc _ _ _
  have r1 := Row8.made w 8192 5
  have s1 : w.heap.size < (w.alloc (.cells (madeCells #[.int .u8 0] 8192) 5)).heap.size := by simp
  have hx1 : BR (w.alloc (.cells (madeCells #[.int .u8 0] 8192) 5)) (w.alloc (.cells (madeCells #[.int .u8 0] 8192) 5)).heap.size A xs := k1.br hx fun _ _ _ h => h
  have MK := Lib.hid (hmk w)
  generalize w.alloc (.cells (madeCells #[.int .u8 0] 8192) 5) = w1 at *
  obtain ⟨n, w2, cp, r2, k2⟩ := run_fill w.heap.size c A xs r1 hx1
  have hm := mem_of w2 w.heap.size (fillL xs) (fillL_len xs) r2.block
  have HM := Lib.hid hm
  have K2 := Lib.hid (Keeps.thru (F'' := fun _ => False) k1 k2 (fun _ _ h => h) fun _ _ h => by omega)
  have hmm := @run_makeMap Try.prog
  have S2 := Lib.hid (Nat.le_trans (Nat.le_of_lt s1) k2.size)
  clear hmk k1 r1 hx hx1 hm r2 k2 s1
  go_enter Try.func9, Try.ntmps9
  go_wp2_with (first
    | ((with_reducible refine here (op := .makeSlice 22 (.const (.int .i64 8192)) (.const (.int .i64 8192))) ?_); refine wpList_makem_run rfl 22 _ _ rfl _ _ _ rfl rfl MK.out ?_)
    | ((with_reducible refine here (op := .build 53 #[(1, .tmp 8)]) ?_); refine wpList_build1m_run rfl 53 _ rfl _ _ rfl (buildS _ _) ?_)
    | ((with_reducible refine here (op := .build 57 #[(0, .tmp 9), (1, .tmp 10)]) ?_); refine wpList_build2m_run rfl 57 _ _ rfl _ _ _ rfl rfl (buildM _ _ _) ?_)
    | ((with_reducible refine here (op := .box 57 (.tmp 11)) ?_); refine wpList_box_run rfl 57 _ rfl _ _ rfl (boxM _ _ _) ?_))
  go_ret
  exact ⟨_, _, _, rfl, by have := S2.out; omega, Nat.le_refl _, S2.out, HM.out, K2.out.trans ((Keeps.alloc _ _ _).trans (Keeps.alloc _ _ _))⟩

/-! ### the document's -/
/-- The document's memory of these bytes was made. -/
def MadeR (w : World) (mi : Nat) (xs : List UInt8) (e : Ending) (w' : World) : Prop := ∃ q, e = .returned (.pointer (some ⟨q, 0, none⟩)) ∧ MRefAt w' mi q (fillL xs) (fillL xs) ∧ Keeps (fun _ => False) w w'
/-- What the two copies do, whichever of the two rows was made first. -/
theorem rflat_end {w W : World} (b d : Nat) (A : Option Addr) (xs : List UInt8) (c : Nat) (hx : BR W W.heap.size A xs) (hk : Keeps (fun _ => False) w W) (hA : ∀ ad, A = some ad → xs ≠ [] → ad.block < w.heap.size)
    (hb : Row8 W b 5 (List.replicate 8192 0)) (hd : Row8 W d 5 (List.replicate 8192 0)) (q : Nat) (hh : W.heap[q]? = some (.cells (refCells b 8192 d 8192) 44 (0, 0)))
    (b1 : w.heap.size ≤ b) (d1 : w.heap.size ≤ d) (q1 : w.heap.size ≤ q) (bd : b ≠ d) (bq : b ≠ q) (dq : d ≠ q) :
    W.cell? ⟨q, 0, none⟩ = some (.slice (some ⟨b, 0, none⟩) 8192 8192) ∧ ∃ n1 w4, (Builtin.copy_ #[22, 22] 3 #[.slice (some ⟨b, 0, none⟩) 8192 8192, .slice A xs.length c]).run Try.prog W = .ok (.int .i64 n1) w4 ∧
      w4.cell? ⟨q, 1, none⟩ = some (.slice (some ⟨d, 0, none⟩) 8192 8192) ∧ ∃ n2 w5, (Builtin.copy_ #[22, 22] 3 #[.slice (some ⟨d, 0, none⟩) 8192 8192, .slice A xs.length c]).run Try.prog w4 = .ok (.int .i64 n2) w5 ∧
      MRefAt w5 w.heap.size q (fillL xs) (fillL xs) ∧ Keeps (fun _ => False) w w5 := by
  have ql := (Array.getElem?_eq_some_iff.1 hh).1
  obtain ⟨n1, w4, c1, r4, k4⟩ := run_fill b c A xs hb hx
  have hx4 : BR w4 w4.heap.size A xs := k4.br hx fun ad e hn h => by
    have := hA ad e hn
    omega
  have hd4 : Row8 w4 d 5 (List.replicate 8192 0) := Row8.of_block ((k4.block d hd.lt_ (fun e => bd e.symm)).trans hd.block)
  have hh4 := (k4.block q ql (fun e => bq e.symm)).trans hh
  obtain ⟨n2, w5, c2, r5, k5⟩ := run_fill d c A xs hd4 hx4
  have hb5 : Row8 w5 b 5 (fillL xs) := Row8.of_block ((k5.block b r4.lt_ bd).trans r4.block)
  have hh5 := (k5.block q (Nat.lt_of_lt_of_le ql k4.size) (fun e => dq e.symm)).trans hh4
  have kW : Keeps (fun _ => False) w w5 := Keeps.thru (F'' := fun _ => False) (Keeps.thru (F'' := fun _ => False) hk k4 (fun _ _ h => h) fun i hi h => by omega) k5 (fun _ _ h => h) fun i hi h => by omega
  have fl := fillL_len xs
  have ob := Own8.of_row hb5 b1 (by omega)
  have od := Own8.of_row r5 d1 (by omega)
  rw [fl] at ob od
  refine ⟨by rw [cell_of_row _ _ _ _ _ _ hh]; rfl, n1, w4, c1, by rw [cell_of_row _ _ _ _ _ _ hh4]; rfl, n2, w5, c2, ⟨b, 8192, d, 8192, ⟨q1, fl, fl, hh5, ob, od, bq, dq, bd⟩⟩, kW⟩
set_option maxRecDepth 100000 in
set_option maxHeartbeats 400000 in
theorem rflat_any (A : Option Addr) (xs : List UInt8) (c : Nat) (w : World) (hx : BR w w.heap.size A xs) : Calls Try.prog 10 #[.slice A xs.length c] w (MadeR w w.heap.size xs) := by
  have hmk : ∀ w : World, (Instr.makeSlice 22 (.int .i64 8192) (.int .i64 8192)).run Try.prog w = .ok (.slice (some ⟨w.heap.size, 0, none⟩) 8192 8192) (w.alloc (.cells (madeCells #[.int .u8 0] 8192) 5)) := make8 8192 (by omega)
  go_enter Try.func10, Try.ntmps10
  go_wp2_with fail
  have m1 := Row8.made w 8192 5
  have m2 := Row8.made (w.alloc (.cells (madeCells #[.int .u8 0] 8192) 5)) 8192 5
  rw [World.size_alloc] at m2
  have ka : Keeps (fun _ => False) w (w.alloc (.cells (madeCells #[.int .u8 0] 8192) 5)) := Keeps.alloc _ _ _
  have m1' : Row8 ((w.alloc (.cells (madeCells #[.int .u8 0] 8192) 5)).alloc (.cells (madeCells #[.int .u8 0] 8192) 5)) w.heap.size 5 (List.replicate 8192 0) := Row8.of_block ((Below.heap_alloc _ _ _ m1.lt_).trans m1.block)
  have M1 := Lib.hid m1'
  have M2 := Lib.hid m2
  have HA := Lib.hid (fun ad (e : A = some ad) (hn : xs ≠ []) => show ad.block < w.heap.size by
    obtain ⟨ad', e', hb, _⟩ := hx hn
    rw [e] at e'
    cases e'
    exact hb)
  have HX := Lib.hid hx
  clear m1 m2 m1' ka hx
  generalize hz : madeCells #[.int .u8 0] 8192 = zz at *
  clear hz
  go_region
  · obtain ⟨c0, n1, w4, cp1, c1, n2, w5, cp2, hR, hK⟩ := rflat_end (w := w) (W := (((w.alloc (.cells zz 5)).alloc (.cells zz 5)).alloc (.cells (refCells w.heap.size 8192 (w.heap.size + 1) 8192) 44)).drew) w.heap.size (w.heap.size + 1) A xs c
      ((((Keeps.alloc _ _ _).trans (Keeps.alloc _ _ _)).trans ((Keeps.alloc (fun _ => False) _ _).trans (Keeps.drew _ _))).br HX.out fun _ _ _ h => h)
      (((Keeps.alloc _ _ _).trans (Keeps.alloc _ _ _)).trans ((Keeps.alloc (fun _ => False) _ _).trans (Keeps.drew _ _))) HA.out
      (Row8.of_block ((Below.heap_alloc _ _ _ M1.out.lt_).trans M1.out.block)) (Row8.of_block ((Below.heap_alloc _ _ _ M2.out.lt_).trans M2.out.block)) (w.heap.size + 1 + 1)
      (by
        have := heap_alloc_new ((w.alloc (.cells zz 5)).alloc (.cells zz 5)) (.cells (refCells w.heap.size 8192 (w.heap.size + 1) 8192) 44)
        simp only [World.size_alloc] at this
        exact this) (by omega) (by omega) (by omega) (by omega) (by omega) (by omega)
    unfold refCells at c0 cp1
    generalize (((w.alloc (.cells zz 5)).alloc (.cells zz 5)).alloc (.cells #[.slice (some ⟨w.heap.size, 0, none⟩) 8192 8192, .slice (some ⟨w.heap.size + 1, 0, none⟩) 8192 8192, .bool false] 44)).drew = W at *
    have HR := Lib.hid hR
    have HK := Lib.hid hK
    clear hR hK HA HX M1 M2
    go_wp2_with fail
    go_ret
    exact ⟨_, rfl, HR.out, HK.out⟩
  · obtain ⟨c0, n1, w4, cp1, c1, n2, w5, cp2, hR, hK⟩ := rflat_end (w := w) (W := (((w.alloc (.cells zz 5)).alloc (.cells zz 5)).alloc (.cells (refCells (w.heap.size + 1) 8192 w.heap.size 8192) 44)).drew) (w.heap.size + 1) w.heap.size A xs c
      ((((Keeps.alloc _ _ _).trans (Keeps.alloc _ _ _)).trans ((Keeps.alloc (fun _ => False) _ _).trans (Keeps.drew _ _))).br HX.out fun _ _ _ h => h)
      (((Keeps.alloc _ _ _).trans (Keeps.alloc _ _ _)).trans ((Keeps.alloc (fun _ => False) _ _).trans (Keeps.drew _ _))) HA.out
      (Row8.of_block ((Below.heap_alloc _ _ _ M2.out.lt_).trans M2.out.block)) (Row8.of_block ((Below.heap_alloc _ _ _ M1.out.lt_).trans M1.out.block)) (w.heap.size + 1 + 1)
      (by
        have := heap_alloc_new ((w.alloc (.cells zz 5)).alloc (.cells zz 5)) (.cells (refCells (w.heap.size + 1) 8192 w.heap.size 8192) 44)
        simp only [World.size_alloc] at this
        exact this) (by omega) (by omega) (by omega) (by omega) (by omega) (by omega)
    unfold refCells at c0 cp1
    generalize (((w.alloc (.cells zz 5)).alloc (.cells zz 5)).alloc (.cells #[.slice (some ⟨w.heap.size + 1, 0, none⟩) 8192 8192, .slice (some ⟨w.heap.size, 0, none⟩) 8192 8192, .bool false] 44)).drew = W at *
    have HR := Lib.hid hR
    have HK := Lib.hid hK
    clear hR hK HA HX M1 M2
    go_wp2_with fail
    go_ret
    exact ⟨_, rfl, HR.out, HK.out⟩
end Go.Proofs.Ythmlhjjcihibnaa.Mm
