/-
  MmPut
-/
import Derived.Test.YtdbphindnnchfaaMmPage
import Derived.Test.YtdbphindnnchfaaGT
namespace Go.Proofs.Ytdbphindnnchfaa.Mm
open Go.RowKit Go.Maps
set_option linter.unusedVariables false

theorem toNat_map_inj : ∀ {xs ys : List UInt8}, (xs.map fun u => (u.toNat : Int)) = ys.map (fun u => (u.toNat : Int)) ↔ xs = ys := by
  intro xs ys
  constructor
  · intro h
    exact (List.map_inj_right (fun a b e => UInt8.toNat_inj.1 (Int.ofNat.inj e))).1 h
  · rintro rfl; rfl
theorem sizeU (w : World) : (sizeOf 5).run Try.prog w = .ok 1 w := by kernel_rfl
theorem neqP (w : World) (xs ys : List UInt8) (hx : xs.length = 64) (hy : ys.length = 64) : (binOp .neq 63 (ag xs) (ag ys)).run Try.prog w = .ok (.bool (!decide (xs = ys))) w := by
  have h := run_neq_ints (P := Try.prog) w 63 5 64 .u8 Try.underlying63 Try.underlying5 sizeU (xs.map fun u => (u.toNat : Int)) (ys.map fun u => (u.toNat : Int)) (by simpa using hx) (by simpa using hy)
  rw [List.map_map, List.map_map] at h
  have e : decide ((xs.map fun u => (u.toNat : Int)) = ys.map (fun u => (u.toNat : Int))) = decide (xs = ys) := by
    rw [decide_eq_decide]; exact toNat_map_inj
  rw [e] at h
  exact h
theorem guardP : Try.prog.eqGuardType Try.prog.depth 63 = false := by kernel_rfl

/-- The memory with its n-th page x. -/
def setPage (M : List UInt8) (n : Nat) (x : List UInt8) : List UInt8 := splice M (n * 64) x
theorem setPage_len {M x : List UInt8} {n : Nat} (hm : M.length = 8192) (hx : x.length = 64) (hn : n < 128) : (setPage M n x).length = 8192 := by
  unfold setPage splice
  simp only [List.length_append, List.length_take, List.length_drop]
  omega
theorem getD_splice (M ys : List UInt8) (o k : Nat) (h : o + ys.length ≤ M.length) : (splice M o ys).getD k 0 = if k < o then M.getD k 0 else if k < o + ys.length then ys.getD (k - o) 0 else M.getD k 0 := by
  unfold splice
  have hl : (M.take o).length = o := by rw [List.length_take]; omega
  simp only [List.getD_eq_getElem?_getD]
  by_cases h1 : k < o
  · rw [if_pos h1, List.getElem?_append_left (by omega), List.getElem?_take_of_lt h1]
  · rw [if_neg h1, List.getElem?_append_right (by omega), hl]
    by_cases h2 : k < o + ys.length
    · rw [if_pos h2, List.getElem?_append_left (by omega)]
    · rw [if_neg h2, List.getElem?_append_right (by omega), List.getElem?_drop]
      congr 2
      omega
theorem ext_getD {xs ys : List UInt8} (hl : xs.length = ys.length) (h : ∀ k, k < xs.length → xs.getD k 0 = ys.getD k 0) : xs = ys := by
  refine List.ext_getElem hl fun k h1 h2 => ?_
  have := h k h1
  simpa [List.getD_eq_getElem?_getD, List.getElem?_eq_getElem h1, List.getElem?_eq_getElem h2] using this
theorem getD_page (L : List UInt8) (n k : Nat) (hk : k < 64) : (page L n).getD k 0 = L.getD (n * 64 + k) 0 := by
  unfold page
  simp only [List.getD_eq_getElem?_getD]
  rw [List.getElem?_take_of_lt hk, List.getElem?_drop]
theorem page_set {M x : List UInt8} {n i : Nat} (hm : M.length = 8192) (hx : x.length = 64) (hn : n < 128) (hi : i < 128) : page (setPage M n x) i = if i = n then x else page M i := by
  have hs := setPage_len hm hx hn
  have hl := page_len hs hi
  by_cases e : i = n
  · subst e
    rw [if_pos rfl]
    refine ext_getD (by omega) fun k hk => ?_
    rw [getD_page _ _ _ (by omega)]
    unfold setPage
    rw [getD_splice _ _ _ _ (by omega), if_neg (by omega), if_pos (by omega)]
    congr 1
    omega
  · rw [if_neg e]
    have hl2 := page_len hm hi
    refine ext_getD (by omega) fun k hk => ?_
    rw [getD_page _ _ _ (by omega), getD_page _ _ _ (by omega)]
    unfold setPage
    rw [getD_splice _ _ _ _ (by omega)]
    by_cases h1 : i * 64 + k < n * 64
    · rw [if_pos h1]
    · rw [if_neg h1, if_neg (by omega)]
theorem setPage_same {M : List UInt8} {n : Nat} (hm : M.length = 8192) (hn : n < 128) : setPage M n (page M n) = M := by
  have hp := page_len hm hn
  refine ext_getD (by rw [setPage_len hm hp hn, hm]) fun k hk => ?_
  unfold setPage
  rw [getD_splice _ _ _ _ (by omega)]
  split
  · rfl
  · split
    · rw [getD_page _ _ _ (by omega)]
      congr 1
      omega
    · rfl

theorem memCells_set (gb mb : Nat) (ch : List Bool) (n : Nat) : (memCells gb mb ch).toArray.setIfInBounds (3 + n) (.bool true) = (memCells gb mb (ch.set n true)).toArray := by
  rw [List.setIfInBounds_toArray, Nat.add_comm 3 n]
  simp [memCells, List.map_set]

variable {w : World} {p gb mb : Nat} {G M : List UInt8}
set_option maxRecDepth 100000 in
set_option maxHeartbeats 600000 in
theorem mput_at (h : MemAt w p gb mb G M) (n : Nat) (hn : n < 128) (x : List UInt8) (hx : x.length = 64) :
    Calls Try.prog 41 #[.pointer (some ⟨p, 0, none⟩), .int .i64 (n : Int), ag x] w fun e w' => e = .returned (.tuple #[]) ∧ MemAt w' p gb mb G (setPage M n x) ∧ Keeps (fun k => k = p ∨ k = mb) w w' := by
  have hlt := h.lt
  have ap := h.apart
  have k1 : Keeps (fun _ => False) w (w.alloc (.cells (x.map B8).toArray 63)) := Keeps.alloc _ _ _
  have h1 := h.keep k1 (fun h => h) (fun h => h) (fun h => h)
  have p1 : PgAt (w.alloc (.cells (x.map B8).toArray 63)) w.heap.size x := heap_alloc_new w _
  go_enter Try.func41, Try.ntmps41
  go_wp2_with ((with_reducible refine at_ (op := .box 63 (.tmp 2)) ?_); refine wpList_val rfl _ (ex_box 63 (.tmp 2) rfl _ _ rfl (boxP _ x hx)) ?_)
  refine wp_region_held (S := fun W => PgAt W w.heap.size x) (by kernel_rfl) ?_
  change wpAnyH _ _ _ _ _ _ _ _ (w.alloc (.cells (x.map B8).toArray 63)).drew
  have k2 : Keeps (fun _ => False) w (w.alloc (.cells (x.map B8).toArray 63)).drew := k1.trans (Keeps.drew _ _)
  have h2 := h.keep k2 (fun h => h) (fun h => h) (fun h => h)
  have hS : PgAt (w.alloc (.cells (x.map B8).toArray 63)).drew w.heap.size x := p1
  clear k1 h1 p1
  generalize (w.alloc (.cells (x.map B8).toArray 63)).drew = w1 at *
  simp only [Act.put, List.setIfInBounds_toArray, List.set_cons_zero, List.set_cons_succ]
  refine wpAnyH_take (oi := ⟨_, _, _, _, _, _⟩) (i := 0) (v := ag x) rfl (by kernel_rfl) (by kernel_rfl) (by kernel_rfl) (fun _ _ _ h => h) (yif_load rfl 63 (.tmp 5) rfl _ _ rfl fun W (h : PgAt W w.heap.size x) => h.get hx) hS ?_
  simp only [Act.put, List.setIfInBounds_toArray, List.set_cons_zero, List.set_cons_succ]
  refine wpAnyH_take (oi := ⟨_, _, _, _, _, _⟩) (i := 1) (v := .pointer (some ⟨p, 0, none⟩)) rfl (by kernel_rfl) (by kernel_rfl) (by kernel_rfl) (fun _ _ _ h => h) (Or.inl ⟨by rfl, fun _ _ => rfl⟩) hS ?_
  simp only [Act.put, List.setIfInBounds_toArray, List.set_cons_zero, List.set_cons_succ]
  refine wpAnyH_take (oi := ⟨_, _, _, _, _, _⟩) (i := 2) (v := .int .i64 (n : Int)) rfl (by kernel_rfl) (by kernel_rfl) (by kernel_rfl) (fun _ _ _ h => h) (Or.inl ⟨by rfl, fun _ _ => rfl⟩) hS ?_
  simp only [Act.put, List.setIfInBounds_toArray, List.set_cons_zero, List.set_cons_succ]
  refine wpAnyH_all (rs := [3]) (by kernel_rfl) (by simp) fun i hmem => ?_
  obtain rfl : i = 3 := by simpa using hmem
  refine op_call (om := ⟨_, _, _, _, _, _⟩) (fn := 40) (args := #[.pointer (some ⟨p, 0, none⟩), .int .i64 (n : Int)]) (R := fun u w' => u = ag (page M n) ∧ MemAt w' p gb mb G M ∧ Keeps (· = mb) w1 w') rfl rfl (by go_simp)
    ((mpage_at h2 n hn).mono fun e w' ⟨he, h1, h2⟩ => ⟨_, he, rfl, h1, h2⟩) _ _ rfl rfl ?_
  rintro u w2 ⟨rfl, h3, k3⟩
  have hS2 : PgAt w2 w.heap.size x := hS.keep k3 (by omega)
  refine ⟨hS2, ?_⟩
  clear hmem
  have hpl := page_len h.ml hn
  have NE := Lib.hid (neqP · x (page M n) hx hpl)
  have K02 := Lib.hid (Keeps.thru (F'' := fun k => k = mb) k2 k3 (fun _ _ h => h.elim) fun _ _ h => h)
  have H3 := Lib.hid h3
  have HS2 := Lib.hid hS2
  have HX := Lib.hid hx
  have HS := Lib.hid (setPage_same h.ml hn)
  have ML := Lib.hid h.ml
  have HPG := Lib.hid (fun i (hi : i < 128) => page_set h.ml hx hn hi)
  have HSL := Lib.hid (setPage_len h.ml hx hn)
  clear h h2 hS k2 k3 hx hpl
  simp only [Act.put, List.setIfInBounds_toArray, List.set_cons_zero, List.set_cons_succ]
  refine wpAnyH_take (oi := ⟨_, _, _, _, _, _⟩) (i := 4) (v := .bool (!decide (x = page M n))) rfl (by kernel_rfl) (by kernel_rfl) (by kernel_rfl) (fun _ _ _ h => h) (Or.inl ⟨by rfl, fun _ _ => ?_⟩) hS2 ?_
  · exact ex_bin_agg .neq 63 63 (.tmp 6) (.tmp 9) rfl (x.map B8).toArray ((page M n).map B8).toArray _ rfl rfl guardP (NE.out _)
  simp only [Act.put, List.setIfInBounds_toArray, List.set_cons_zero, List.set_cons_succ]
  refine wpAnyH_done (by kernel_rfl) ?_ _
  by_cases he : x = page M n
  · have hd : (!decide (x = page M n)) = false := by simp [he]
    rw [hd]
    have E := Lib.hid he
    clear hd he NE
    go_wp2_with fail
    go_end0
    refine ⟨rfl, ?_, K02.out.mono fun _ _ h => Or.inr h⟩
    rw [E.out, HS.out]
    exact H3.out
  · have hd : (!decide (x = page M n)) = true := by simp [he]
    rw [hd]
    obtain ⟨c0, c1, c2⟩ := H3.out.c
    have c3 : w2.drew.cell? ⟨p, 2, none⟩ = some (.map (some mb)) := c2
    obtain ⟨f, hf, hok⟩ := H3.out.map
    have HO := Lib.hid hok
    have HF := Lib.hid hf
    have LD := Lib.hid ((show PgAt w2.drew w.heap.size x from hS2).get HX.out)
    clear hd he NE hS2 hf hok c0 c1 c2
    go_wp2_with fail
    refine wp_region_still_tail 6 (by kernel_rfl) (by kernel_rfl) ?_
    simp only [List.take_succ_cons, List.take_zero, List.drop_succ_cons, List.drop_zero]
    change wpStill _ _ w2.drew (fun a' => wpList _ _ _ _ a' w2.drew) _ _
    have k23 : Keeps (fun _ => False) w2 w2.drew := Keeps.drew _ _
    have h3 := H3.out.keep k23 (fun h => h) (fun h => h) (fun h => h)
    have m3 := HF.out.keeps k23 (fun h => h)
    generalize w2.drew = w3 at *
    obtain ⟨w4, u1, u2, u3, u4⟩ := put71 m3 n hn x (by unfold maxLen; omega)
    have UP := Lib.hid u1
    clear u1
    still_step
    still_step
    still_step
    still_step
    still_step
    refine wpStill_load rfl 63 (.tmp 5) rfl _ _ rfl LD.out ?_
    refine wpStill_nil ?_
    simp only [Act.put, List.setIfInBounds_toArray, List.set_cons_zero, List.set_cons_succ]
    refine wpList_mapUpdate_run rfl 51 _ _ _ rfl _ _ _ rfl rfl rfl UP.out ?_
    obtain ⟨ch, hcl, hh⟩ := h3.head
    have hh4 : w4.heap[p]? = some (.cells (memCells gb mb ch).toArray 54 (0, 0)) := (u3.block p h3.lt.1 ap.2.1).trans hh
    have d4 : w4.cell? ⟨p, 3 + n, none⟩ = some (.bool (ch.getD n false)) := by
      rw [cell_of_row _ _ _ _ _ _ hh4]
      simp [memCells, Nat.add_comm 3 n, hcl, hn]
    have f4 : w4.frozen? ⟨p, 3 + n, none⟩ = false := frozen_of_row w4 p _ _ _ hh4
    clear c3
    go_wp2_with fail
    go_end0
    have hl4 := h3.lt
    refine ⟨rfl, ⟨h3.gl, HSL.out, ⟨ch.set n true, by simpa using hcl, ?_⟩, ?_, ⟨_, u2.setCell _ _ (fun e => ap.2.1 e.symm), ⟨fun i hi y hy => ?_, fun i hi hy => ?_⟩⟩⟩, ?_⟩
    · rw [heap_setCell_same w4 p (3 + n) _ _ _ hh4, memCells_set]
    · rw [Below.heap_setCell _ _ _ _ (fun e => ap.1 e.symm)]
      exact (u3.block gb hl4.2.1 ap.2.2).trans h3.given
    · rw [HPG.out i hi]
      unfold updF at hy
      split at hy
      · rename_i e
        cases hy
        rw [if_pos e]
      · rename_i e
        rw [if_neg e]
        exact HO.out.now i hi y hy
    · rw [HPG.out i hi]
      unfold updF at hy
      split at hy
      · cases hy
      · rename_i e
        rw [if_neg e]
        exact HO.out.was i hi hy
    · exact Keeps.thru (Keeps.thru (F'' := fun k => k = mb) K02.out (Keeps.thru (F'' := fun k => k = mb) k23 u3 (fun _ _ h => h.elim) fun _ _ h => h) (fun _ _ h => h) fun _ _ h => h) (Keeps.setCell (fun k => k = p) _ _ _ rfl) (fun _ _ h => Or.inr h) fun _ _ h => Or.inl h
end Go.Proofs.Ytdbphindnnchfaa.Mm
