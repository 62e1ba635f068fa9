/-
  The contracts of now and Read.
-/
import Derived.Test.YthbdhmjmboliiaaDkSmall
import Derived.Test.YthbdhmjmboliiaaCopy
namespace Go.Proofs.Ythbdhmjmboliiaa
open Go.RowKit Go.Maps

/-- 64 noughts as cells. -/
def z64 : Array Value := (zs64.map B8).toArray
theorem alloc71 (w : World) : (Instr.alloc 71 true (.tuple #[])).run Try.prog w = .ok (.pointer (some ⟨w.heap.size, 0, none⟩)) (w.alloc (.cells z64 71)) := by kernel_rfl
theorem alloc71_2 (w : World) (o : Obj) : (Instr.alloc 71 true (.tuple #[])).run Try.prog (w.alloc o) = .ok (.pointer (some ⟨w.heap.size + 1, 0, none⟩)) ((w.alloc o).alloc (.cells z64 71)) := by
  have := alloc71 (w.alloc o)
  rwa [World.size_alloc] at this
theorem Try.size71 : (Try.prog.info? 71).map (·.size) = some 64 := by kernel_rfl

theorem ag_cells (xs : List UInt8) : ag xs = .agg (xs.map B8).toArray := rfl
theorem oneCell_b8 (xs : List UInt8) : ((xs.map B8).toArray).all (·.oneCell') = true := all_oneCell_toArray (fun v hv => by
  simp only [List.mem_map] at hv
  obtain ⟨u, _, rfl⟩ := hv
  rfl)

/-- A sector in the middle of a block of bytes. -/
theorem load71 {w : World} {b o : Nat} {xs : List UInt8} (hl : xs.length = 64) (h : w.rangeAt b o (xs.map B8)) :
    (Instr.loadAt 71 (.pointer (some ⟨b, o, none⟩))).run Try.prog w = .ok (ag xs) w :=
  run_loadAt_mid w b o 71 (xs.map B8) _ h Try.underlying71 rfl (by rw [Try.size71, List.length_map, hl])
theorem store71 {w : World} {b o : Nat} {xs : List UInt8} (hl : xs.length = 64) (h : w.there b o 64) :
    (Instr.storeAt 71 (.pointer (some ⟨b, o, none⟩)) (ag xs)).run Try.prog w = .ok () (w.setCells b o (xs.map B8)) := by
  have := run_storeAt_mid (P := Try.prog) w b o 71 (xs.map B8).toArray (by simpa [hl] using h) (by rw [Try.size71]; simp [hl]) (oneCell_b8 xs)
  simpa [ag] using this

/-- A block of bytes, a part of which is written over. -/
theorem setCells_block {w : World} {b : Nat} {zs ys : List UInt8} {t : TypeId} (o : Nat) (hb : w.heap[b]? = some (.cells (zs.map B8).toArray t (0, 0))) (hfit : o + ys.length ≤ zs.length) :
    (w.setCells b o (ys.map B8)).heap[b]? = some (.cells ((splice zs o ys).map B8).toArray t (0, 0)) ∧ Keeps (· = b) w (w.setCells b o (ys.map B8)) := by
  induction ys generalizing w zs o with
  | nil => exact ⟨by simpa [World.setCells, splice] using hb, Keeps.refl _ _⟩
  | cons y r ih =>
    simp only [List.map_cons, World.setCells]
    have h1 : (w.setCell ⟨b, o, none⟩ (B8 y)).heap[b]? = some (.cells ((zs.set o y).map B8).toArray t (0, 0)) := by
      rw [heap_setCell_same w b o _ t _ hb]
      simp [List.map_set]
    simp only [List.length_cons] at hfit
    obtain ⟨h2, h3⟩ := ih (o + 1) h1 (by rw [List.length_set]; omega)
    refine ⟨?_, (Keeps.setCell (· = b) _ _ _ rfl).trans h3⟩
    rw [h2]
    have e : splice (zs.set o y) (o + 1) r = splice zs o (y :: r) := by
      unfold splice
      rw [List.take_set, List.drop_set_of_lt (by omega)]
      have : (zs.take (o + 1)).set o y = zs.take o ++ [y] := by
        rw [List.take_succ_eq_append_getElem (by omega), List.set_append_right _ _ (by simp; omega)]
        simp [show o - min o zs.length = 0 from by omega]
      rw [this]
      simp [Nat.add_assoc, Nat.add_comm 1]
    rw [e]
theorem range_block {w : World} {b : Nat} {zs : List UInt8} {t : TypeId} {fr : Nat × Nat} (hb : w.heap[b]? = some (.cells (zs.map B8).toArray t fr)) (o n : Nat) : w.rangeAt b o (((zs.drop o).take n).map B8) := by
  intro j v hv
  rw [cell_of_row w b (o + j) _ t _ hb]
  simp only [List.getElem?_map, Option.map_eq_some_iff, List.getElem?_take, List.getElem?_drop] at hv
  obtain ⟨u, hu, rfl⟩ := hv
  split at hu
  · simp [hu]
  · cases hu
theorem there_block {w : World} {b : Nat} {zs : List UInt8} {t : TypeId} (hb : w.heap[b]? = some (.cells (zs.map B8).toArray t (0, 0))) (o n : Nat) (h : o + n ≤ zs.length) : w.there b o n := by
  intro j hj
  refine ⟨?_, frozen_of_row w b _ _ t hb⟩
  rw [cell_of_row w b (o + j) _ t _ hb]
  simp
  omega
theorem sec_len {D : DSt} {n i : Nat} (h : D.Ok n) (hi : i < n) : (sec D.L i).length = 64 := by
  unfold sec
  rw [List.length_take, List.length_drop, h.len]
  omega

/-- A sector as last written. -/
def DSt.now (D : DSt) (i : Nat) : List UInt8 := (lastW D.Q i).getD (sec D.L i)
theorem now_len {D : DSt} {n i : Nat} (h : D.Ok n) (hi : i < n) : (D.now i).length = 64 := by
  unfold DSt.now
  cases hl : lastW D.Q i with
  | none => exact sec_len h hi
  | some b => exact (h.q _ (lastW_mem hl)).2
theorem splice_all (xs ys : List UInt8) (h : xs.length = ys.length) : splice xs 0 ys = ys := by
  unfold splice; simp [h]

/-- Two new sectors, the second of which is written over, and the first by it. -/
def nowA (w : World) : World := (w.alloc (.cells z64 71)).alloc (.cells z64 71)
def nowB (w : World) (xs : List UInt8) : World := (nowA w).setCells (w.heap.size + 1) 0 (xs.map B8)
def nowC (w : World) (xs ys : List UInt8) : World := (nowB w xs).setCells w.heap.size 0 (ys.map B8)
theorem nowA_size (w : World) : (nowA w).heap.size = w.heap.size + 2 := by simp [nowA]
theorem nowA_0 (w : World) : (nowA w).heap[w.heap.size]? = some (.cells (zs64.map B8).toArray 71 (0, 0)) := heap_alloc2_old w _ _
theorem nowA_1 (w : World) : (nowA w).heap[w.heap.size + 1]? = some (.cells (zs64.map B8).toArray 71 (0, 0)) := heap_alloc2_new w _ _
theorem nowA_keeps (w : World) : Keeps (fun _ => False) w (nowA w) := (Keeps.alloc _ _ _).trans (Keeps.alloc _ _ _)
theorem nowB_facts (w : World) (xs : List UInt8) (h : xs.length = 64) : (nowB w xs).heap[w.heap.size + 1]? = some (.cells (xs.map B8).toArray 71 (0, 0)) ∧ (nowB w xs).heap[w.heap.size]? = some (.cells (zs64.map B8).toArray 71 (0, 0)) ∧ Keeps (fun _ => False) w (nowB w xs) := by
  obtain ⟨h1, h2⟩ := setCells_block (ys := xs) 0 (nowA_1 w) (by rw [zs64_len]; omega)
  rw [splice_all _ _ (by rw [zs64_len, h])] at h1
  refine ⟨h1, (h2.block _ (by rw [nowA_size]; omega) (by omega)).trans (nowA_0 w), ?_⟩
  refine ⟨h2.os, h2.tape, h2.output, Nat.le_trans (nowA_keeps w).size h2.size, fun k hk _ => (h2.block k (by rw [nowA_size]; omega) (by omega)).trans ((nowA_keeps w).block k hk (fun h => h))⟩
theorem nowC_facts (w : World) (xs ys : List UInt8) (h : xs.length = 64) (h' : ys.length = 64) : (nowC w xs ys).heap[w.heap.size]? = some (.cells (ys.map B8).toArray 71 (0, 0)) ∧ Keeps (fun _ => False) w (nowC w xs ys) := by
  obtain ⟨_, g2, g3⟩ := nowB_facts w xs h
  obtain ⟨h1, h2⟩ := setCells_block (ys := ys) 0 g2 (by rw [zs64_len]; omega)
  rw [splice_all _ _ (by rw [zs64_len, h'])] at h1
  have hs : w.heap.size ≤ (nowB w xs).heap.size := g3.size
  exact ⟨h1, ⟨h2.os.trans g3.os, h2.tape.trans g3.tape, h2.output.trans g3.output, Nat.le_trans hs h2.size, fun k hk hF => (h2.block k (by omega) (by omega)).trans (g3.block k hk hF)⟩⟩

set_option maxHeartbeats 400000 in
theorem now_at {w : World} {p lb mb n : Nat} {iv : Value} {D : DSt} (h : DkAt w p lb mb n iv D) (i : Nat) (hi : i < n) :
    Calls Try.prog 37 #[.pointer (some ⟨p, 0, none⟩), .int .i64 (i : Int)] w fun e w' => e = .returned (ag (D.now i)) ∧ Keeps (fun _ => False) w w' := by
  have hn := h.ok.n_le
  have hlen := now_len h.ok hi
  have hsl := sec_len h.ok hi
  have hlt : p < w.heap.size := (Array.getElem?_eq_some_iff.1 h.head).1
  have hmb := h.map.lt
  have hlb : lb < w.heap.size := (Array.getElem?_eq_some_iff.1 h.rows).1
  obtain ⟨c0, c1, c2, c3, c4, c5, fz⟩ := h.c
  have look := (h.map.keep (w' := w.alloc (.cells z64 71)) (Below.heap_alloc _ _ _ hmb)).look i (by omega)
  clear fz c1 c3 c4 c5
  cases hl : lastW D.Q i with
  | some b =>
    have e : D.now i = b := by unfold DSt.now; rw [hl]; rfl
    rw [e] at hlen ⊢
    rw [hl] at look
    simp only [Option.getD_some, Option.isSome_some] at look
    have LK := Lib.hid look
    clear look e hl
    obtain ⟨g1, g2, g3⟩ := nowB_facts w b hlen
    obtain ⟨k1, k2⟩ := nowC_facts w b b hlen hlen
    have a1 := there_block (nowA_1 w) 0 64 (by rw [zs64_len]; omega)
    have a2 := there_block g2 0 64 (by rw [zs64_len]; omega)
    have r1 := range_block g1 0 64
    rw [List.drop_zero, List.take_of_length_le (by omega)] at r1
    have S1 := Lib.hid (store71 (xs := b) hlen a1)
    have S2 := Lib.hid (store71 (xs := b) hlen a2)
    have L1 := Lib.hid (load71 hlen r1)
    have K1 := Lib.hid k1
    clear a1 a2 r1 g1 g2 g3 k1 hsl
    go_enter Try.func37, Try.ntmps37
    go_wp2_with (first
      | ((with_reducible refine here (op := .alloc 71) (d := some 4) ?_); refine wpList_alloc_run rfl 71 rfl _ (alloc71 _) ?_)
      | ((with_reducible refine here (op := .lookup 56 (.tmp 11) (.tmp 12) true) ?_); refine wpList_lookup_run rfl 56 _ _ true rfl _ _ _ rfl rfl LK.out ?_)
      | ((with_reducible refine here (op := .alloc 71) (d := some 5) ?_); refine wpList_alloc_run rfl 71 rfl _ (alloc71_2 _ _) ?_)
      | ((with_reducible refine here (op := .store 71 (.tmp 5) (.tmp 14)) ?_); refine wpList_store_run rfl 71 _ _ rfl _ _ rfl rfl S1.out ?_)
      | ((with_reducible refine here (op := .load 71 (.tmp 5)) ?_); refine wpList_load_run rfl 71 _ rfl _ _ rfl L1.out ?_)
      | ((with_reducible refine here (op := .store 71 (.tmp 4) (.tmp 17)) ?_); refine wpList_store_run rfl 71 _ _ rfl _ _ rfl rfl S2.out ?_))
    refine bodyPost_ret (v := ag b) ?_ rfl ⟨rfl, k2⟩
    exact results_cell_row rfl _ _ w.heap.size 71 _ (0, 0) _ rfl K1.out Try.underlying71 rfl (by rw [Try.size71]; simp [hlen])
  | none =>
    have e : D.now i = sec D.L i := by unfold DSt.now; rw [hl]; rfl
    rw [e] at hlen ⊢
    rw [hl] at look
    simp only [Option.getD_none, Option.isSome_none] at look
    have LK := Lib.hid look
    obtain ⟨g1, g2, g3⟩ := nowB_facts w zs64 zs64_len
    obtain ⟨k1, k2⟩ := nowC_facts w zs64 (sec D.L i) zs64_len hlen
    have a1 := there_block (nowA_1 w) 0 64 (by rw [zs64_len]; omega)
    have a2 := there_block g2 0 64 (by rw [zs64_len]; omega)
    have r1 := range_block ((g3.block lb hlb (fun h => h)).trans h.rows) (i * 64) 64
    have S1 := Lib.hid (store71 (xs := zs64) zs64_len a1)
    have S2 := Lib.hid (store71 (xs := sec D.L i) hlen a2)
    have L1 := Lib.hid (load71 (xs := sec D.L i) hlen r1)
    have K1 := Lib.hid k1
    have c0' : (nowB w zs64).cell? ⟨p, 0, none⟩ = some (.slice (some ⟨lb, 0, none⟩) n n) := (g3.cell p 0 hlt (fun h => h)).trans c0
    clear a1 a2 r1 g1 g2 g3 k1 hl e look
    have HL := Lib.hid hlen
    clear hlen hsl
    go_enter Try.func37, Try.ntmps37
    go_wp2_with (first
      | ((with_reducible refine here (op := .alloc 71) (d := some 4) ?_); refine wpList_alloc_run rfl 71 rfl _ (alloc71 _) ?_)
      | ((with_reducible refine here (op := .lookup 56 (.tmp 11) (.tmp 12) true) ?_); refine wpList_lookup_run rfl 56 _ _ true rfl _ _ _ rfl rfl LK.out ?_)
      | ((with_reducible refine here (op := .alloc 71) (d := some 5) ?_); refine wpList_alloc_run rfl 71 rfl _ (alloc71_2 _ _) ?_)
      | ((with_reducible refine here (op := .store 71 (.tmp 5) (.tmp 14)) ?_); refine wpList_store_run rfl 71 _ _ rfl _ _ rfl rfl S1.out ?_; refine wpList_world (w' := nowB w zs64) rfl ?_)
      | ((with_reducible refine here (op := .load 71 (.tmp 23)) ?_); refine wpList_load_run rfl 71 _ rfl _ _ rfl L1.out ?_)
      | ((with_reducible refine here (op := .store 71 (.tmp 4) (.tmp 24)) ?_); refine wpList_store_run rfl 71 _ _ rfl _ _ rfl rfl S2.out ?_))
    refine bodyPost_ret (v := ag (sec D.L i)) ?_ rfl ⟨rfl, k2⟩
    exact results_cell_row rfl _ _ w.heap.size 71 _ (0, 0) _ rfl K1.out Try.underlying71 rfl (by rw [Try.size71]; simp [HL.out])

/-- A read hands back new bytes and an error. -/
def GivesRead (w : World) (zs : List UInt8) (err : Int) (e : Ending) (w' : World) : Prop :=
  ∃ R c, e = .returned (.tuple #[.slice R zs.length c, .int .i64 err]) ∧ BR w' w'.heap.size R zs ∧ (∀ ad, R = some ad → w.heap.size ≤ ad.block) ∧ Keeps (fun _ => False) w w'
def DSt.readErr (D : DSt) (i : Int) : Int := if D.down = true then 20 else if 0 ≤ i ∧ i < D.n then 0 else 1
def DSt.readAt (D : DSt) (i : Int) : List UInt8 := if D.down = true then [] else if 0 ≤ i ∧ i < D.n then D.now i.toNat else []

theorem newRow (w : World) (xs : List UInt8) (h : xs.length = 64) :
    ((w.alloc (.cells z64 71)).setCells w.heap.size 0 (xs.map B8)).heap[w.heap.size]? = some (.cells (xs.map B8).toArray 71 (0, 0)) ∧ Keeps (fun _ => False) w ((w.alloc (.cells z64 71)).setCells w.heap.size 0 (xs.map B8)) := by
  obtain ⟨h1, h2⟩ := setCells_block (w := w.alloc (.cells z64 71)) (ys := xs) 0 (heap_alloc_new w _) (by rw [zs64_len]; omega)
  rw [splice_all _ _ (by rw [zs64_len, h])] at h1
  refine ⟨h1, ⟨h2.os, h2.tape, h2.output, Nat.le_trans (by simp) h2.size, fun k hk _ => (h2.block k (by simp; omega) (by omega)).trans (Below.heap_alloc w _ k hk)⟩⟩
theorem br_block {w : World} {b : Nat} {zs : List UInt8} {t : TypeId} {fr : Nat × Nat} (hb : w.heap[b]? = some (.cells (zs.map B8).toArray t fr)) (o n : Nat) : BR w w.heap.size (some ⟨b, o, none⟩) ((zs.drop o).take n) := by
  intro _
  refine ⟨_, rfl, (Array.getElem?_eq_some_iff.1 hb).1, fun k u hu => ?_⟩
  rw [Addr.add_mid]
  exact range_block hb o n k _ (by rw [List.getElem?_map, hu]; rfl)

set_option maxHeartbeats 400000 in
theorem read_at {w : World} {p lb mb n : Nat} {iv : Value} {D : DSt} (h : DkAt w p lb mb n iv D) (i : Int) :
    Calls Try.prog 18 #[.pointer (some ⟨p, 0, none⟩), .int .i64 i] w (GivesRead w (D.readAt i) (D.readErr i)) := by
  have hnn := h.ok.n_eq
  cases hd : D.down with
  | true =>
    have e1 : D.readAt i = [] := by unfold DSt.readAt; rw [if_pos hd]
    have e2 : D.readErr i = 20 := by unfold DSt.readErr; rw [if_pos hd]
    rw [e1, e2]
    have HD := Lib.hid hd
    clear e1 e2 hd hnn
    go_enter Try.func18, Try.ntmps18
    go_wp2_with (go_at_call 23; refine (down_at h).mono ?_; rintro e w' ⟨rfl, rfl⟩; rw [HD.out])
    go_ret2
    exact ⟨none, 0, rfl, BR.nil, fun _ h => (by cases h), Keeps.refl _ _⟩
  | false =>
    by_cases hi : 0 ≤ i ∧ i < n
    · obtain ⟨k, rfl⟩ := Int.eq_ofNat_of_zero_le hi.1
      have hk : k < n := by omega
      have e1 : D.readAt (k : Int) = D.now k := by unfold DSt.readAt; rw [if_neg (by simp [hd]), hnn, if_pos hi]; rfl
      have e2 : D.readErr (k : Int) = 0 := by unfold DSt.readErr; rw [if_neg (by simp [hd]), hnn, if_pos hi]
      rw [e1, e2]
      have HD := Lib.hid hd
      have hlen := now_len h.ok hk
      have HL := Lib.hid hlen
      clear e1 e2 hd hnn hi hlen
      go_enter Try.func18, Try.ntmps18
      go_wp2_with fail
      refine (down_at h).mono ?_
      rintro e w' ⟨rfl, rfl⟩
      rw [HD.out]
      go_wp2_with fail
      refine (has_yes h _ (by omega) (by omega)).mono ?_
      rintro e w' ⟨rfl, rfl⟩
      go_wp2_with fail
      refine (now_at h k hk).mono ?_
      rintro e w1 ⟨rfl, k1⟩
      obtain ⟨g1, g2⟩ := newRow w1 (D.now k) HL.out
      have S1 := Lib.hid (store71 (w := w1.alloc (.cells z64 71)) (b := w1.heap.size) (o := 0) (xs := D.now k) HL.out (there_block (heap_alloc_new w1 _) 0 64 (by rw [zs64_len]; omega)))
      have G1 := Lib.hid g1
      clear g1
      generalize D.now k = xs at *
      go_wp2_with (first
        | ((with_reducible refine here (op := .alloc 71) (d := some 6) ?_); refine wpList_alloc_run rfl 71 rfl _ (alloc71 _) ?_)
        | ((with_reducible refine here (op := .store 71 (.tmp 6) (.tmp 15)) ?_); refine wpList_store_run rfl 71 _ _ rfl _ _ rfl rfl S1.out ?_))
      generalize (w1.alloc (.cells z64 71)).setCells w1.heap.size 0 (xs.map B8) = w2 at *
      go_ret2
      refine ⟨some ⟨w1.heap.size, 0, none⟩, 64, by rw [HL.out]; rfl, ?_, fun ad e => ?_, k1.trans g2⟩
      · have := br_block G1.out 0 64
        rwa [List.drop_zero, List.take_of_length_le (by rw [HL.out]; omega)] at this
      · cases e; exact k1.size
    · have e1 : D.readAt i = [] := by unfold DSt.readAt; rw [if_neg (by simp [hd]), hnn, if_neg hi]
      have e2 : D.readErr i = 1 := by unfold DSt.readErr; rw [if_neg (by simp [hd]), hnn, if_neg hi]
      rw [e1, e2]
      have HD := Lib.hid hd
      have hi' : i < 0 ∨ n ≤ i := by omega
      have HI := Lib.hid hi'
      clear e1 e2 hd hnn hi hi'
      go_enter Try.func18, Try.ntmps18
      go_wp2_with fail
      refine (down_at h).mono ?_
      rintro e w' ⟨rfl, rfl⟩
      rw [HD.out]
      go_wp2_with fail
      refine (has_no h _ HI.out).mono ?_
      rintro e w' ⟨rfl, rfl⟩
      go_wp2_with fail
      go_ret2
      exact ⟨none, 0, rfl, BR.nil, fun _ h => (by cases h), Keeps.refl _ _⟩
end Go.Proofs.Ythbdhmjmboliiaa
