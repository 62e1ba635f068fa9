/-
  ExCShrink
-/
import Derived.Test.YtjconllgghangaaDoorExShr
namespace Go.Proofs.YtjconllgghangaaDoor.Ex
open Go.RowKit Go.Shelf
attribute [local go_sem] Oper.semAt_some

/-- Code that goes on. -/
theorem wp_np {P : Program} {c : Code} {K : Act → World → Prop} {Q : Exit → Act → World → Prop} {a : Act} {w : World} (h : c.wp P (Exit.then K (fun _ _ _ => False)) a w) : c.wp P (Exit.then K Q) a w :=
  wp_mono h fun e a w h => by cases e <;> first | exact h | exact h.elim
theorem aggI : ∀ w, (isAgg 3).run Tryd.prog w = .ok false w := fun _ => by kernel_rfl
/-- The boxes of the set and of the number. -/
structure In2 (w : World) (u K : Int) (W : World) : Prop where
  u0 : Boxed W w.heap.size 33 (.int .u32 u)
  n0 : Boxed W (w.heap.size + 1) 3 (.int .i64 K)
theorem In2.below {w : World} {u K : Int} {W W' : World} (h : In2 w u K W) (k : Below W.heap.size W W') : In2 w u K W' :=
  ⟨(k.block _ (Array.getElem?_eq_some_iff.1 h.u0).1).trans h.u0, (k.block _ (Array.getElem?_eq_some_iff.1 h.n0).1).trans h.n0⟩
theorem In2.start (w : World) (u K : Int) : In2 w u K ((w.alloc (.cells #[.int .u32 u] 33)).alloc (.cells #[.int .i64 K] 3)) := by
  refine ⟨(Boxed.new w 33 (.int .u32 u)).alloc _, ?_⟩
  have := Boxed.new (w.alloc (.cells #[.int .u32 u] 33)) 3 (.int .i64 K)
  rwa [World.size_alloc] at this
def CellN (w : World) (K : Nat) (w1 W : World) : Prop := W.cell? ⟨w.heap.size + 1, 0, none⟩ = some (.int .i64 (K : Int)) ∧ Below w1.heap.size w1 W
theorem CellN.c {w : World} {K : Nat} {w1 W : World} (h : CellN w K w1 W) : W.cell? ⟨w.heap.size + 1, 0, none⟩ = some (.int .i64 (K : Int)) := h.1
theorem CellN.of {w : World} {u : Int} {K : Nat} {w1 W : World} (h : In2 w u (K : Int) w1) (b : Below w1.heap.size w1 W) : CellN w K w1 W := ⟨(h.below b).n0.cell, b⟩
theorem cell_putD {W : World} {D : Nat} {o o' : Obj} (h : W.heap[D]? = some o) (ho : o.isCells = false) (ho' : o'.isCells = false) (a : Addr) : (W.putObj D o').cell? a = W.cell? a := by
  by_cases e : a.block = D
  · have hl := (Array.getElem?_eq_some_iff.1 h).1
    have h2 : (W.putObj D o').heap[D]? = some o' := World.putObj_heap_same hl
    unfold World.cell?
    rw [e, h, h2]
    cases o <;> cases o' <;> simp_all [Obj.isCells]
  · exact World.cell?_of_block (w := W) (World.putObj_heap_other e)
theorem ItOk.start {w W : World} {p q : Nat} {A : Option Addr} {l : List EX} (hx : XR w w.heap.size A l) (hw : Below w.heap.size w W) (hp : w.heap.size ≤ p) (hpq : p < q) (hq : Boxed W q 22 (.slice none 0 0)) : ItOk (WrS p q) (q + 1) W A l := by
  have hql := hq.lt
  have hno : ∀ v, W.cell? ⟨q, 0, none⟩ = some v → ∀ k, v.ownBlock = some k → False := fun v hv k e => by
    rw [hq.cell] at hv
    cases hv
    cases e
  refine ⟨fun k hk => ?_, by omega, (hx.below hw).more hw.size, fun hn ad e hk => ?_⟩
  · rcases hk with e | e | ⟨v, hv, e⟩
    · omega
    · omega
    · exact (hno v hv k e).elim
  · obtain ⟨ad', e', hlt, _⟩ := hx.ar hn
    rw [e] at e'
    cases e'
    rcases hk with e | e | ⟨v, hv, e⟩
    · omega
    · omega
    · exact hno v hv _ e

set_option maxRecDepth 100000 in
set_option maxHeartbeats 2000000 in
theorem shrink_any (A : Option Addr) (l : List EX) (c u : Nat) (n : Int) (w : World) (h : XR w w.heap.size A l) (hl : l.length ≤ 100) (hu : u < 4294967296) :
    Calls Tryd.prog 18 #[.slice A l.length c, .int .u32 (u : Int), .int .i64 n] w (Out3 w (shrinkV l u n)) := by
  have hb : Below w.heap.size w ((w.alloc (.cells #[.int .u32 (u : Int)] 33)).alloc (.cells #[.int .i64 n] 3)) := ((Below.refl _ _).alloc (Nat.le_refl _) _).alloc (by simp) _
  have hck := fun W (hW : Below w.heap.size w W) => check_any A l c W ((h.below hW).more hW.size) hl
  have HI := Lib.hid (In2.start w (u : Int) n)
  have HB := Lib.hid hb
  have HCK := Lib.hid hck
  have hsz : ((w.alloc (.cells #[.int .u32 (u : Int)] 33)).alloc (.cells #[.int .i64 n] 3)).heap.size = w.heap.size + 2 := by simp
  have HSZ := Lib.hid hsz
  clear hb hck hsz
  by_cases hok : ok l = true
  · rw [okE_yes hok] at HCK
    by_cases hneg : n < 0
    · have hv : shrinkV l u n = ([], 0, 1) := by unfold shrinkV; rw [if_pos (.inr (.inl hneg))]
      have HV := Lib.hid hv
      clear hv hok h
      refine (callsIn_wide (n := 8)).1 ?_
      refine callsIn_of_wp_marks Tryd.func18 rfl trivial ?_ rfl
      simp only [Tryd.ntmps18, List.size_toArray, List.length_cons, List.length_nil, Nat.reduceAdd, Nat.reduceSub, Array.replicate_succ, Array.replicate_zero, List.push_toArray, List.append_toArray, List.nil_append, List.cons_append]
      gi_wp2
      generalize ((w.alloc (.cells #[.int .u32 (u : Int)] 33)).alloc (.cells #[.int .i64 n] 3)) = w0 at *
      refine ⟨trivial, ?_⟩
      refine (callsIn_wide.2 (HCK.out w0 HB.out)).mono ?_
      clear HCK
      rintro e w1 ⟨rfl, b1⟩
      have cn := (HI.out.below b1).n0.cell
      have HB1 := Lib.hid (HB.out.trans (b1.mono HB.out.size))
      clear b1 HI HB HSZ
      gi_wp2
      refine wpIn_wide.2 ?_
      go_quiet (fail)
      gi_wp2
      refine ⟨.tuple #[.slice none 0 0, .int .u32 0, .int .i64 1], ?_, Out3.no HV.out (below_drewN HB1.out _)⟩
      simp [results, Tryd.f18, go_sem]
    · obtain ⟨K, rfl⟩ : ∃ K : Nat, n = (K : Int) := ⟨n.toNat, by omega⟩
      have hgood := blkO_good l
      have hlen := hgood.len
      have hto := fun W (hW : Below w.heap.size w W) => total_any A l c W ((h.below hW).more hW.size) hl
      by_cases hbig : (blkO l).length < K
      · have hv : shrinkV l u (K : Int) = ([], 0, 1) := by unfold shrinkV; rw [if_pos (.inr (.inr (by rw [← blkO_yes hok]; omega)))]
        have HV := Lib.hid hv
        have HTO0 := Lib.hid hto
        clear hv hok h hneg hgood hto
        generalize (blkO l).length = N at *
        refine (callsIn_wide (n := 8)).1 ?_
        refine callsIn_of_wp_marks Tryd.func18 rfl trivial ?_ rfl
        simp only [Tryd.ntmps18, List.size_toArray, List.length_cons, List.length_nil, Nat.reduceAdd, Nat.reduceSub, Array.replicate_succ, Array.replicate_zero, List.push_toArray, List.append_toArray, List.nil_append, List.cons_append]
        gi_wp2
        generalize ((w.alloc (.cells #[.int .u32 (u : Int)] 33)).alloc (.cells #[.int .i64 (K : Int)] 3)) = w0 at *
        refine ⟨trivial, ?_⟩
        refine (callsIn_wide.2 (HCK.out w0 HB.out)).mono ?_
        clear HCK
        rintro e w1 ⟨rfl, b1⟩
        have HI1 := Lib.hid (HI.out.below b1)
        have HB1 := Lib.hid (HB.out.trans (b1.mono HB.out.size))
        have HTO : Hid (∀ W, Below w1.heap.size w1 W → Calls Tryd.prog 12 #[.slice A l.length c] W (Gives W (.int .i64 (N : Int)))) := fun W hW => HTO0.out W (HB1.out.trans (hW.mono HB1.out.size))
        clear b1 HI HB HSZ HTO0
        gi_wp2
        refine wpIn_wide.2 (wp_np ?_)
        refine wp_region_held (S := CellN w K w1) (by kernel_rfl) ?_
        change wpAnyH _ _ _ _ _ _ _ _ (w1).drew
        have hS : CellN w K w1 w1.drew := CellN.of HI1.out (below_drewN (Below.refl _ _) 1)
        generalize (w1).drew = w2 at *
        refine wpAnyH_take (oi := ⟨_, _, _, _, _, _⟩) (i := 0) (v := .int .i64 (K : Int)) rfl (by kernel_rfl) (by kernel_rfl) (by kernel_rfl) (fun _ _ _ h => h) (yif_load rfl 3 (.tmp 5) rfl _ _ rfl fun w h => load_one aggI (CellN.c h)) hS ?_
        try simp only [Act.put, List.setIfInBounds_toArray, List.set_cons_zero, List.set_cons_succ]
        refine wpAnyH_take (oi := ⟨_, _, _, _, _, _⟩) (i := 1) (v := .bool false) rfl (by kernel_rfl) (by kernel_rfl) (by kernel_rfl) (fun _ _ _ h => h) (Or.inl ⟨by rfl, fun _ _ => by go_simp⟩) hS ?_
        try simp only [Act.put, List.setIfInBounds_toArray, List.set_cons_zero, List.set_cons_succ]
        refine wpAnyH_take (oi := ⟨_, _, _, _, _, _⟩) (i := 2) (v := .bool false) rfl (by kernel_rfl) (by kernel_rfl) (by kernel_rfl) (fun _ _ _ h => h) (Or.inl ⟨by rfl, fun _ _ => rfl⟩) hS ?_
        try simp only [Act.put, List.setIfInBounds_toArray, List.set_cons_zero, List.set_cons_succ]
        refine wpAnyH_take (oi := ⟨_, _, _, _, _, _⟩) (i := 3) (v := .int .i64 (K : Int)) rfl (by kernel_rfl) (by kernel_rfl) (by kernel_rfl) (fun _ _ _ h => h) (yif_load rfl 3 (.tmp 5) rfl _ _ rfl fun w h => load_one aggI (CellN.c h)) hS ?_
        try simp only [Act.put, List.setIfInBounds_toArray, List.set_cons_zero, List.set_cons_succ]
        refine wpAnyH_take (oi := ⟨_, _, _, _, _, _⟩) (i := 4) (v := .slice A l.length c) rfl (by kernel_rfl) (by kernel_rfl) (by kernel_rfl) (fun _ _ _ h => h) (Or.inl ⟨by rfl, fun _ _ => rfl⟩) hS ?_
        try simp only [Act.put, List.setIfInBounds_toArray, List.set_cons_zero, List.set_cons_succ]
        refine wpAnyH_all (rs := [5]) (by kernel_rfl) (by simp) fun i hi => ?_
        obtain rfl : i = 5 := by simpa using hi
        refine op_call (om := ⟨_, _, _, _, _, _⟩) (fn := 12) (args := #[.slice A l.length c]) (R := fun v W2 => v = .int .i64 (N : Int) ∧ Below w1.heap.size w1 W2) rfl rfl (by go_simp)
          ((HTO.out w2 hS.2).mono fun e W2 ⟨he, hb⟩ => ⟨_, he, rfl, hS.2.trans (hb.mono hS.2.size)⟩) _ _ rfl rfl ?_
        rintro v W2 ⟨rfl, hb4⟩
        have hS : CellN w K w1 W2 := CellN.of HI1.out hb4
        clear hi
        refine ⟨hS, ?_⟩
        try simp only [Act.put, List.setIfInBounds_toArray, List.set_cons_zero, List.set_cons_succ]
        refine wpAnyH_take (oi := ⟨_, _, _, _, _, _⟩) (i := 6) (v := .bool true) rfl (by kernel_rfl) (by kernel_rfl) (by kernel_rfl) (fun _ _ _ h => h) (Or.inl ⟨by rfl, fun _ _ => by go_simp⟩) hS ?_
        try simp only [Act.put, List.setIfInBounds_toArray, List.set_cons_zero, List.set_cons_succ]
        refine wpAnyH_take (oi := ⟨_, _, _, _, _, _⟩) (i := 7) (v := .bool true) rfl (by kernel_rfl) (by kernel_rfl) (by kernel_rfl) (fun _ _ _ h => h) (Or.inl ⟨by rfl, fun _ _ => by go_simp⟩) hS ?_
        try simp only [Act.put, List.setIfInBounds_toArray, List.set_cons_zero, List.set_cons_succ]
        refine wpAnyH_done (by kernel_rfl) ?_ _
        try simp only [Act.put, List.setIfInBounds_toArray, List.set_cons_zero, List.set_cons_succ]
        have HB3 := Lib.hid (HB1.out.trans (hS.2.mono HB1.out.size))
        gi_wp2
        refine ⟨.tuple #[.slice none 0 0, .int .u32 0, .int .i64 1], ?_, Out3.no HV.out HB3.out⟩
        simp [results, Tryd.f18, go_sem]
      · have hKN : ¬ (((blkO l).length : Nat) : Int) < (K : Int) := by omega
        have hv : shrinkV l u (K : Int) = (extV [] ((blkL l).take K), andN u (setN ((blkL l).drop K)), 0) := by
          unfold shrinkV
          rw [blkO_yes hok] at hKN
          rw [if_neg (by rw [hok]; rintro (h | h | h); cases h; omega; exact hKN h), Int.toNat_natCast]
        have HV := Lib.hid hv
        have HTO0 := Lib.hid hto
        have HOK := Lib.hid hok
        have HX := Lib.hid h
        have hN23 : (blkL l).length ≤ 23 := by rw [← blkO_yes hok]; exact hlen
        have hbd : Bd (extV [] ((blkL l).take K)) 50 := by
          have := (bd_ext ((blkL l).take K) fun b hb => ((ok_good l hok).2 b (List.mem_of_mem_take hb)).2).1
          rw [List.length_take] at this
          exact this.mono (by omega)
        have HBD := Lib.hid (hbd.ok (by omega))
        clear hv hok h hneg hgood hto hbd
        generalize (blkO l).length = N at *
        refine (callsIn_wide (n := 8)).1 ?_
        refine callsIn_of_wp_marks Tryd.func18 rfl trivial ?_ rfl
        simp only [Tryd.ntmps18, List.size_toArray, List.length_cons, List.length_nil, Nat.reduceAdd, Nat.reduceSub, Array.replicate_succ, Array.replicate_zero, List.push_toArray, List.append_toArray, List.nil_append, List.cons_append]
        gi_wp2
        generalize ((w.alloc (.cells #[.int .u32 (u : Int)] 33)).alloc (.cells #[.int .i64 (K : Int)] 3)) = w0 at *
        refine ⟨trivial, ?_⟩
        refine (callsIn_wide.2 (HCK.out w0 HB.out)).mono ?_
        clear HCK
        rintro e w1 ⟨rfl, b1⟩
        have HI1 := Lib.hid (HI.out.below b1)
        have HB1 := Lib.hid (HB.out.trans (b1.mono HB.out.size))
        have HTO : Hid (∀ W, Below w1.heap.size w1 W → Calls Tryd.prog 12 #[.slice A l.length c] W (Gives W (.int .i64 (N : Int)))) := fun W hW => HTO0.out W (HB1.out.trans (hW.mono HB1.out.size))
        have hs1 : w.heap.size + 2 ≤ w1.heap.size := by have := b1.size; have := HSZ.out; omega
        clear b1 HI HB HSZ HTO0
        gi_wp2
        refine wpIn_wide.2 (wp_np ?_)
        refine wp_region_held (S := CellN w K w1) (by kernel_rfl) ?_
        change wpAnyH _ _ _ _ _ _ _ _ (w1).drew
        have hS : CellN w K w1 w1.drew := CellN.of HI1.out (below_drewN (Below.refl _ _) 1)
        generalize (w1).drew = w2 at *
        refine wpAnyH_take (oi := ⟨_, _, _, _, _, _⟩) (i := 0) (v := .int .i64 (K : Int)) rfl (by kernel_rfl) (by kernel_rfl) (by kernel_rfl) (fun _ _ _ h => h) (yif_load rfl 3 (.tmp 5) rfl _ _ rfl fun w h => load_one aggI (CellN.c h)) hS ?_
        try simp only [Act.put, List.setIfInBounds_toArray, List.set_cons_zero, List.set_cons_succ]
        refine wpAnyH_take (oi := ⟨_, _, _, _, _, _⟩) (i := 1) (v := .bool false) rfl (by kernel_rfl) (by kernel_rfl) (by kernel_rfl) (fun _ _ _ h => h) (Or.inl ⟨by rfl, fun _ _ => by go_simp⟩) hS ?_
        try simp only [Act.put, List.setIfInBounds_toArray, List.set_cons_zero, List.set_cons_succ]
        refine wpAnyH_take (oi := ⟨_, _, _, _, _, _⟩) (i := 2) (v := .bool false) rfl (by kernel_rfl) (by kernel_rfl) (by kernel_rfl) (fun _ _ _ h => h) (Or.inl ⟨by rfl, fun _ _ => rfl⟩) hS ?_
        try simp only [Act.put, List.setIfInBounds_toArray, List.set_cons_zero, List.set_cons_succ]
        refine wpAnyH_take (oi := ⟨_, _, _, _, _, _⟩) (i := 3) (v := .int .i64 (K : Int)) rfl (by kernel_rfl) (by kernel_rfl) (by kernel_rfl) (fun _ _ _ h => h) (yif_load rfl 3 (.tmp 5) rfl _ _ rfl fun w h => load_one aggI (CellN.c h)) hS ?_
        try simp only [Act.put, List.setIfInBounds_toArray, List.set_cons_zero, List.set_cons_succ]
        refine wpAnyH_take (oi := ⟨_, _, _, _, _, _⟩) (i := 4) (v := .slice A l.length c) rfl (by kernel_rfl) (by kernel_rfl) (by kernel_rfl) (fun _ _ _ h => h) (Or.inl ⟨by rfl, fun _ _ => rfl⟩) hS ?_
        try simp only [Act.put, List.setIfInBounds_toArray, List.set_cons_zero, List.set_cons_succ]
        refine wpAnyH_all (rs := [5]) (by kernel_rfl) (by simp) fun i hi => ?_
        obtain rfl : i = 5 := by simpa using hi
        refine op_call (om := ⟨_, _, _, _, _, _⟩) (fn := 12) (args := #[.slice A l.length c]) (R := fun v W2 => v = .int .i64 (N : Int) ∧ Below w1.heap.size w1 W2) rfl rfl (by go_simp)
          ((HTO.out w2 hS.2).mono fun e W2 ⟨he, hb⟩ => ⟨_, he, rfl, hS.2.trans (hb.mono hS.2.size)⟩) _ _ rfl rfl ?_
        rintro v W2 ⟨rfl, hb4⟩
        have hS : CellN w K w1 W2 := CellN.of HI1.out hb4
        clear hi
        refine ⟨hS, ?_⟩
        try simp only [Act.put, List.setIfInBounds_toArray, List.set_cons_zero, List.set_cons_succ]
        refine wpAnyH_take (oi := ⟨_, _, _, _, _, _⟩) (i := 6) (v := .bool false) rfl (by kernel_rfl) (by kernel_rfl) (by kernel_rfl) (fun _ _ _ h => h) (Or.inl ⟨by rfl, fun _ _ => by go_simp⟩) hS ?_
        try simp only [Act.put, List.setIfInBounds_toArray, List.set_cons_zero, List.set_cons_succ]
        refine wpAnyH_take (oi := ⟨_, _, _, _, _, _⟩) (i := 7) (v := .bool false) rfl (by kernel_rfl) (by kernel_rfl) (by kernel_rfl) (fun _ _ _ h => h) (Or.inl ⟨by rfl, fun _ _ => by go_simp⟩) hS ?_
        try simp only [Act.put, List.setIfInBounds_toArray, List.set_cons_zero, List.set_cons_succ]
        refine wpAnyH_done (by kernel_rfl) ?_ _
        try simp only [Act.put, List.setIfInBounds_toArray, List.set_cons_zero, List.set_cons_succ]
        have HB3 := Lib.hid (HB1.out.trans (hS.2.mono HB1.out.size))
        have HI3 := Lib.hid (HI1.out.below hS.2)
        have hs3 : w.heap.size + 2 ≤ W2.heap.size := by have := hS.2.size; omega
        clear hS HI1 HB1 HTO
        gi_wp2
        refine ⟨trivial, ?_⟩
        refine (callsIn_wide.2 (blocks_any A l.length c _)).mono ?_
        rintro e w6 ⟨rfl, rfl⟩
        have hq6 := (Boxed.new W2 22 (.slice none 0 0)).alloc (.cells #[.slice A l.length c] 22)
        have hbox := heap_alloc_new (W2.alloc (.cells #[.slice none 0 0] 22)) (.cells #[.slice A l.length c] 22)
        have b26 : Below W2.heap.size W2 ((W2.alloc (.cells #[.slice none 0 0] 22)).alloc (.cells #[.slice A l.length c] 22)) := ((Below.refl _ _).alloc (Nat.le_refl _) _).alloc (by simp) _
        have hI6 := HI3.out.below b26
        have hk6 := HB3.out.trans (b26.mono HB3.out.size)
        have hs6 : ((W2.alloc (.cells #[.slice none 0 0] 22)).alloc (.cells #[.slice A l.length c] 22)).heap.size = W2.heap.size + 2 := by simp
        rw [World.size_alloc] at hbox
        have hS6 : InS w w.heap.size W2.heap.size u K [] none 0 ((W2.alloc (.cells #[.slice none 0 0] 22)).alloc (.cells #[.slice A l.length c] 22)) := by
          refine ⟨by omega, by omega, ?_, hI6.n0, hq6, OwnX.nil _ _, Nat.le_refl _, hk6⟩
          show Boxed _ _ _ (.int .u32 ((andN u (setN []) : Nat) : Int))
          rw [andN_none hu]
          exact hI6.u0
        gi_wp2
        generalize ((W2.alloc (.cells #[.slice none 0 0] 22)).alloc (.cells #[.slice A l.length c] 22)) = W6 at *
        generalize W2.heap.size = q at *
        have hit : ∀ W, Below W6.heap.size W6 W → ItOk (WrS w.heap.size q) (q + 1) W A l := fun W hW => ItOk.start HX.out (hk6.trans (hW.mono hk6.size)) (by omega) (by omega) ((hW.block q (by omega)).trans hq6)
        have HBOX := Lib.hid hbox
        have HIT := Lib.hid hit
        have HS6 := Lib.hid hS6
        clear hq6 hbox b26 hI6 hk6 hit hS6 HI3 HB3 HX hb4
        refine wpIn_rangeFunc_ownF rfl (by omega) (gf := 28) (lb := #[.pointer (some ⟨q + 1, 0, none⟩)]) rfl trivial (enters_of Tryd.func28 (by kernel_rfl) rfl)
          (blocks_stopsN Fence.wide _ trivial rfl (by omega) (writesS w.heap.size q) (q + 1) A l c HOK.out hl W6 HBOX.out HIT.out) (fun h k => KpW.trans h k) (fun W y o o' hy h hc _ => KpW.put (writesS w.heap.size q) W y o o' (by omega) h hc) (Below.refl _ _) (fun _ => rfl)
          (fun pre W => ∃ R cap, InS w w.heap.size q u K pre R cap W) (fun _ _ _ => False)
          (inS_own _ (by omega)) (fun _ _ _ _ _ hs _ _ => hs) ⟨none, 0, HS6.out⟩
          (fun x => { tmps := #[.slice A l.length c, .int .u32 (u : Int), .int .i64 (K : Int), undef, .pointer (some ⟨w.heap.size, 0, none⟩), .pointer (some ⟨w.heap.size + 1, 0, none⟩), .slice none 0 0, .int .u32 0, .int .i64 0, .int .i64 0, .pointer (some ⟨q, 0, none⟩), .int .i64 (x.1.2 : Int), .int .i64 (x.1.1 : Int), .slice A l.length c, .int .i64 0, .int .i64 0, .bool false, undef, .int .i64 (K : Int), .bool false, .bool false, .int .i64 (K : Int), .slice A l.length c, .int .i64 (N : Int), .bool false, .bool false, .slice A l.length c, itv (q + 1), .int .i64 (x.1.2 : Int), .int .i64 (x.1.1 : Int), undef, undef, undef, undef, undef, undef, undef, undef, undef, undef, undef, undef], defers := [] }) ?assign ?body ?done ?stop
        case assign =>
          intro y x W Kx hK
          gi_wp2
          exact hK
        case body =>
          rintro y pre ⟨⟨b, i⟩, hb⟩ W ⟨R, cap, hS⟩ hlen
          have c10 := hS.kept.cell
          have f10 := hS.kept.frozen
          have c5 := hS.num.cell
          have hkl := kp_len K pre
          by_cases hi : i < K
          · have hbd := bd_ext (kp K pre) (kp_lt K pre)
            have hwi := with_any hS.own (by have := hS.kept.lt; omega) (by omega) (hbd.1.mono (by omega)) b
            have HW := Lib.hid hwi
            have hS' := Lib.hid hS
            clear hS hbd hwi hkl
            have HLN : Hid (∀ W3 R' cap', OwnX W3 (q + 1) R' cap' (withV (extV [] (kp K pre)) b) → Below (q + 1) W W3 → Beside W W3 (.slice R (extV [] (kp K pre)).length cap) (.slice R' (withV (extV [] (kp K pre)) b).length cap') →
                KeepsOthers W (W3.setCell ⟨q, 0, none⟩ (.slice R' (withV (extV [] (kp K pre)) b).length cap')) ∧ KpW (WrS w.heap.size q) W (W3.setCell ⟨q, 0, none⟩ (.slice R' (withV (extV [] (kp K pre)) b).length cap')) ∧ (∃ R cap, InS w w.heap.size q u K (pre ++ [⟨(b, i), hb⟩]) R cap (W3.setCell ⟨q, 0, none⟩ (.slice R' (withV (extV [] (kp K pre)) b).length cap'))) ∧ W3.frozen? ⟨q, 0, none⟩ = false ∧ ∃ v, W3.cell? ⟨q, 0, none⟩ = some v) := fun W3 R' cap' o5 b5 s5 => by
              obtain ⟨g1, g2, g3⟩ := hS'.out.with (x := ⟨(b, i), hb⟩) hi o5 b5 s5
              have hbx : Boxed W3 q 22 _ := (b5.block q (by omega)).trans hS'.out.kept
              exact ⟨g1, g2, ⟨R', cap', g3⟩, hbx.frozen, _, hbx.cell⟩
            generalize (extV [] (kp K pre)).length = cl at *
            generalize withV (extV [] (kp K pre)) b = nx at *
            gi_wp2
            refine ⟨trivial, ?_⟩
            refine (CallsIn.inRound y (callsIn_wide.2 HW.out)).mono ?_
            rintro e W3 ⟨R', cap', rfl, o5, b5, s5⟩
            obtain ⟨g1, g2, g3, f3, v3, c3⟩ := HLN.out W3 R' cap' o5 b5 s5
            have G1 := Lib.hid g1
            have G2 := Lib.hid g2
            have G3 := Lib.hid g3
            clear o5 b5 s5 g1 g2 g3 HLN HW hS'
            gi_wp2
            exact ⟨G1.out, G2.out, G3.out⟩
          · have c4 := hS.used.cell
            have f4 := hS.used.frozen
            have e1 : IntKind.u32.wrap ((2 : Int) ^ b) = ((2 ^ b : Nat) : Int) := by
              have hpw := pow_lt hb
              have : (2 : Int) ^ b = ((2 ^ b : Nat) : Int) := by simp
              rw [this, IntKind.wrap_u32]
              clear this
              generalize (2 : Nat) ^ b = t at *
              omega
            have hand := andN_int (andN u (setN (dr K pre))) (2 ^ b) (andN_lt _ _) (pow_lt hb)
            rw [andN_next] at hand
            have hdr := hS.drop (x := ⟨(b, i), hb⟩) hi rfl
            have HDR := Lib.hid hdr
            clear hdr hS hkl
            simp only at HDR
            generalize andN u (setN (dr K pre)) = us at *
            generalize andN u (setN (dr K pre ++ [b])) = z at *
            generalize ((2 ^ b : Nat) : Int) = t at *
            gi_wp2
            have hmix : Tryd.prog.follows .mixedOrders = true := by kernel_rfl
            have HE1 := Lib.hid e1
            have HAN := Lib.hid hand
            clear e1 hand
            gi_region_with_o (fail)
            all_goals
              rw [HE1.out, HAN.out]
              gi_wp2
              exact ⟨HDR.out.1, HDR.out.2.1, R, cap, HDR.out.2.2⟩
        case done =>
          rintro D ys W hD hys ⟨R, cap, hS⟩ hK'
          obtain ⟨e1, e2⟩ := kp_all hys
          have c10 := hS.kept.cell
          have c4 := hS.used.cell
          rw [e1] at c10
          rw [e2] at c4
          have hown := hS.own
          rw [e1] at hown
          have hxr := hown.xr HBD.out
          have HXR := Lib.hid hxr
          have HBL := Lib.hid hS.bel
          clear hS hown hxr e1 e2 hys
          generalize extV [] ((blkL l).take K) = X at *
          generalize andN u (setN ((blkL l).drop K)) = V at *
          gi_wp2
          refine wpIn_wide.2 (wp_np ?_)
          go_quiet (fail)
          gi_wp2
          have hKq : (W.drewN nq).heap[D]? = some (.deferred (some [])) := hK'
          refine ⟨by simp, .inl ⟨D, _, rfl, run_takeDeferred hKq, ?_⟩⟩
          refine ⟨.tuple #[.slice R X.length cap, .int .u32 (V : Int), .int .i64 0], ?_, ?_⟩
          · simp [results, Tryd.f18, go_sem]
          · have hsz : ((W.drewN nq).putObj D (.deferred none)).heap.size = W.heap.size := by simp [World.putObj]
            have k2 := (below_drewN HBL.out nq).trans (belowK_b (w := w) (Nat.le_refl _) (W.drewN nq) D _ (.deferred none) (by omega) hKq rfl rfl)
            refine ⟨R, cap, by rw [HV.out], ?_, k2⟩
            rw [HV.out, hsz]
            exact HXR.out.keep fun a _ => cell_putD (W := W.drewN nq) hKq rfl rfl a
        case stop =>
          rintro D c2 pre W _ _ hf _
          exact hf.elim
  · have hno : ok l = false := by simpa using hok
    rw [okE_no hno] at HCK
    have hv : shrinkV l u n = ([], 0, 1) := by unfold shrinkV; rw [if_pos (.inl hno)]
    have HV := Lib.hid hv
    clear hv hok hno h
    refine (callsIn_wide (n := 8)).1 ?_
    refine callsIn_of_wp_marks Tryd.func18 rfl trivial ?_ rfl
    simp only [Tryd.ntmps18, List.size_toArray, List.length_cons, List.length_nil, Nat.reduceAdd, Nat.reduceSub, Array.replicate_succ, Array.replicate_zero, List.push_toArray, List.append_toArray, List.nil_append, List.cons_append]
    gi_wp2
    generalize ((w.alloc (.cells #[.int .u32 (u : Int)] 33)).alloc (.cells #[.int .i64 n] 3)) = w0 at *
    refine ⟨trivial, ?_⟩
    refine (callsIn_wide.2 (HCK.out w0 HB.out)).mono ?_
    clear HCK
    rintro e w1 ⟨rfl, b1⟩
    have HB1 := Lib.hid (HB.out.trans (b1.mono HB.out.size))
    clear b1 HI HB HSZ
    gi_wp2
    refine ⟨.tuple #[.slice none 0 0, .int .u32 0, .int .i64 1], ?_, Out3.no HV.out HB1.out⟩
    simp [results, Tryd.f18, go_sem]
end Go.Proofs.YtjconllgghangaaDoor.Ex
