/-
  The contracts of slices.Clone at the two types, and of the code's Copy.
-/
import Derived.Test.YtajagjhhpciocaaDoorSpNew
import Derived.Test.YtajagjhhpciocaaDoorHeldLaws
namespace Go.Proofs.YtajagjhhpciocaaDoor.Sp
open Go.RowKit

/-- What an append of a row to an empty literal gives. -/
theorem clone_app {k : IntKind} (t e : TypeId) (ht : Tryd.prog.underlying t = some (.slice e)) (hi : (Tryd.prog.info? e).map (fun i => (i.zero, i.size, i.bytes)) = some (some (.int k 0), 1, 8))
    {w : World} {a : Addr} {b cc : Nat} {zs : List Nat} (ha : zs ≠ [] → a = ⟨b, 0, none⟩ ∧ RowK k e w b zs) (hl : zs.length ≤ 2000) :
    ∃ b' c' w', (Builtin.append_ #[t, t] t #[.slice (some ⟨w.heap.size, 0, none⟩) 0 0, .slice (some a) zs.length cc]).run Tryd.prog (w.alloc (.cells #[] e)) = .ok (.slice (some ⟨b', 0, none⟩) zs.length c') w' ∧
      (zs ≠ [] → RowK k e w' b' zs) ∧ w.heap.size ≤ b' ∧ b' < w'.heap.size ∧ Below w.heap.size w w' := by
  obtain ⟨i0, hi, hz0, hz1, hz2⟩ := info_parts hi
  have h0 : (w.alloc (.cells #[] e)).ownsRow w.heap.size e 1 (.slice (some ⟨w.heap.size, 0, none⟩) 0 0) 0 [] := World.ownsRow_lit w #[] 0 (Nat.le_refl _) (by unfold maxLen; omega) rfl
  have hA : Below w.heap.size w (w.alloc (.cells #[] e)) := (Below.refl _ _).alloc (Nat.le_refl _) _
  obtain ⟨v, w', hrun, hown, hg, hv, hv2⟩ := run_append_own_at (P := Tryd.prog) (w.alloc (.cells #[] e)) w.heap.size t t e i0 (.int k 0) 1 8 ht hi hz0 hz1 hz2 rfl (by decide) _ 0 [] h0 a zs.length cc (zs.map fun (x : Nat) => Value.int k (x : Int)) (by simp) (fun j u hj => by
      simp only [List.getElem?_map, Option.map_eq_some_iff] at hj
      obtain ⟨x, hx, rfl⟩ := hj
      have hn : zs ≠ [] := fun e => by subst e; simp at hx
      obtain ⟨rfl, hr⟩ := ha hn
      have hj : j < zs.length := (List.getElem?_eq_some_iff.1 hx).1
      have := (hr.block (hA.block b hr.lt)).cell hj
      have e : (⟨b, 0, none⟩ : Addr).add j = ⟨b, j, none⟩ := by unfold Addr.add; split <;> simp_all
      rw [e, this, List.getD_eq_getElem?_getD, hx]
      rfl) (by
      intro u hu
      simp only [List.mem_map] at hu
      obtain ⟨x, _, rfl⟩ := hu
      rfl) (by unfold maxLen; omega) (by omega) hA.size
  rw [Nat.zero_add, List.nil_append] at hown
  have hne : v ≠ .slice none 0 0 := fun e => by
    have := (hv.1 e).1
    cases this
  have hbel : Below w.heap.size w w' := hA.trans ⟨hg.os, hg.tape, hg.output, hg.size, fun j hj => hg.block j (by simp; omega) (fun e => by
    have : w.heap.size = j := Option.some.inj (show some w.heap.size = some j from e.symm ▸ rfl)
    omega)⟩
  have hown0 := hown
  obtain ⟨_, ⟨e1, _⟩ | ⟨g, cap, cur, e1, hb, hgc, _⟩⟩ := hown
  · exact absurd e1 hne
  · subst e1
    refine ⟨g, cap, w', hrun, fun hn => RowK.of_own hown0 (List.length_pos_iff.2 hn), hb, (Array.getElem?_eq_some_iff.1 hgc).1, hbel⟩
/-- What Clone leaves. -/
def Cloned (k : IntKind) (e : TypeId) (w : World) (zs : List Nat) (v : Value) (w' : World) : Prop := ∃ b' c', v = .slice (some ⟨b', 0, none⟩) zs.length c' ∧ (zs ≠ [] → RowK k e w' b' zs) ∧ w.heap.size ≤ b' ∧ b' < w'.heap.size ∧ Below w.heap.size w w'
set_option maxHeartbeats 400000 in
theorem clone_int {w : World} {a : Addr} {b cc : Nat} {zs : List Nat} (ha : zs ≠ [] → a = ⟨b, 0, none⟩ ∧ RowK .i64 3 w b zs) (hl : zs.length ≤ 2000) :
    Calls Tryd.prog 33 #[.slice (some a) zs.length cc] w fun e w' => ∃ v, e = .returned v ∧ Cloned .i64 3 w zs v w' := by
  obtain ⟨b', c', w2, hap, h1, h2, h3, h4⟩ := clone_app 37 3 Tryd.underlying37 Tryd.infoInt ha hl (cc := cc)
  have hq := Lib.run_eql_slice_nil (P := Tryd.prog) w 37 3 (some a) zs.length cc 0 0 Tryd.underlying37
  have HAP := Lib.hid hap
  have H1 := Lib.hid h1
  have H4 := Lib.hid h4
  clear hap h1 h4 ha
  go_enter Tryd.func33, Tryd.ntmps33
  go_wp2_with (first | (at_builtin; refine wpList_append_run rfl _ _ 37 rfl _ HAP.out ?_) | fail)
  go_ret
  exact ⟨_, rfl, b', c', rfl, H1.out, h2, h3, H4.out⟩
set_option maxHeartbeats 400000 in
theorem clone_set {w : World} {a : Addr} {b cc : Nat} {zs : List Nat} (ha : zs ≠ [] → a = ⟨b, 0, none⟩ ∧ RowK .u64 58 w b zs) (hl : zs.length ≤ 2000) :
    Calls Tryd.prog 34 #[.slice (some a) zs.length cc] w fun e w' => ∃ v, e = .returned v ∧ Cloned .u64 58 w zs v w' := by
  obtain ⟨b', c', w2, hap, h1, h2, h3, h4⟩ := clone_app 43 58 Tryd.underlying43 infoU64 ha hl (cc := cc)
  have hq := Lib.run_eql_slice_nil (P := Tryd.prog) w 43 58 (some a) zs.length cc 0 0 Tryd.underlying43
  have HAP := Lib.hid hap
  have H1 := Lib.hid h1
  have H4 := Lib.hid h4
  clear hap h1 h4 ha
  go_enter Tryd.func34, Tryd.ntmps34
  go_wp2_with (first | (at_builtin; refine wpList_append_run rfl _ _ 43 rfl _ HAP.out ?_) | fail)
  go_ret
  exact ⟨_, rfl, b', c', rfl, H1.out, h2, h3, H4.out⟩

/-! ### Copy -/
theorem aggS (w : World) : (isAgg 43).run Tryd.prog w = .ok false w := by unfold isAgg; rw [Sem.run_bind, run_underlying Tryd.underlying43 w]; rfl
theorem aggI (w : World) : (isAgg 37).run Tryd.prog w = .ok false w := by unfold isAgg; rw [Sem.run_bind, run_underlying Tryd.underlying37 w]; rfl
/-- The map's own cells. -/
def HeadM (p : Nat) (a b : Addr) (n cc m cf : Nat) (W : World) : Prop := W.heap[p]? = some (.cells #[.slice (some a) n cc, .slice (some b) m cf] 45 (0, 0))
theorem HeadM.c {p : Nat} {a b : Addr} {n cc m cf : Nat} {W : World} (h : HeadM p a b n cc m cf W) : W.cell? ⟨p, 0, none⟩ = some (.slice (some a) n cc) ∧ W.cell? ⟨p, 1, none⟩ = some (.slice (some b) m cf) := by
  constructor <;> rw [cell_of_row _ _ _ _ _ _ h] <;> rfl
def CopyM (w : World) (cs : List Nat) (e : Ending) (w' : World) : Prop := ∃ p, e = .returned (.pointer (some ⟨p, 0, none⟩)) ∧ MapS w' w.heap.size w'.heap.size p cs ∧ Below w.heap.size w w'
set_option maxRecDepth 100000 in
set_option maxHeartbeats 1000000 in
theorem copy_at {w : World} {p bc bf cc cf : Nat} {a b : Addr} {cs : List Nat} (h : MapAt w p a b bc bf cc cf cs) : Calls Tryd.prog 17 #[.pointer (some ⟨p, 0, none⟩)] w (CopyM w cs) := by
  have HM := Lib.hid (made_at h)
  have hl := h.len
  go_enter Tryd.func17, Tryd.ntmps17
  go_wp2_with fail
  refine HM.out.mono ?_
  rintro e w' ⟨rfl, rfl⟩
  go_wp2_with fail
  refine wp_region_held (S := HeadM p a b cs.length cc (nw cs.length) cf) (by kernel_rfl) ?_
  change wpAnyH _ _ _ _ _ _ _ _ w.drew
  have kd : Keeps (fun _ => False) w w.drew := Keeps.drew _ _
  have h1 := h.keep kd (fun h => h) (fun _ => ⟨fun h => h, fun h => h⟩)
  clear HM h
  generalize w.drew = w1 at *
  have hS : HeadM p a b cs.length cc (nw cs.length) cf w1 := h1.head
  have hlw : (wsOf cs).length = nw cs.length := wsOf_len cs
  refine wpAnyH_take (oi := ⟨_, _, _, _, _, _⟩) (i := 0) (v := .pointer (some ⟨p, 0, none⟩)) rfl (by kernel_rfl) (by kernel_rfl) (by kernel_rfl) (fun _ _ _ h => h) (Or.inl ⟨by rfl, fun _ _ => rfl⟩) hS ?_
  simp only [Act.put, List.setIfInBounds_toArray, List.set_cons_zero, List.set_cons_succ]
  refine wpAnyH_take (oi := ⟨_, _, _, _, _, _⟩) (i := 1) (v := .pointer (some ⟨p, 0, none⟩)) rfl (by kernel_rfl) (by kernel_rfl) (by kernel_rfl) (fun _ _ _ h => h) (Or.inl ⟨by rfl, fun _ _ => by go_simp⟩) hS ?_
  simp only [Act.put, List.setIfInBounds_toArray, List.set_cons_zero, List.set_cons_succ]
  refine wpAnyH_take (oi := ⟨_, _, _, _, _, _⟩) (i := 2) (v := .pointer (some ⟨p, 0, none⟩)) rfl (by kernel_rfl) (by kernel_rfl) (by kernel_rfl) (fun _ _ _ h => h) (Or.inl ⟨by rfl, fun _ _ => by go_simp⟩) hS ?_
  simp only [Act.put, List.setIfInBounds_toArray, List.set_cons_zero, List.set_cons_succ]
  refine wpAnyH_take (oi := ⟨_, _, _, _, _, _⟩) (i := 3) (v := .slice (some a) cs.length cc) rfl (by kernel_rfl) (by kernel_rfl) (by kernel_rfl) (fun _ _ _ h => h) (yif_load rfl 37 (.tmp 8) rfl _ _ rfl fun w h => load_one aggI (HeadM.c h).1) hS ?_
  simp only [Act.put, List.setIfInBounds_toArray, List.set_cons_zero, List.set_cons_succ]
  refine wpAnyH_take (oi := ⟨_, _, _, _, _, _⟩) (i := 5) (v := .pointer (some ⟨p, 0, none⟩)) rfl (by kernel_rfl) (by kernel_rfl) (by kernel_rfl) (fun _ _ _ h => h) (Or.inl ⟨by rfl, fun _ _ => rfl⟩) hS ?_
  simp only [Act.put, List.setIfInBounds_toArray, List.set_cons_zero, List.set_cons_succ]
  refine wpAnyH_take (oi := ⟨_, _, _, _, _, _⟩) (i := 6) (v := .pointer (some ⟨p, 0, none⟩)) rfl (by kernel_rfl) (by kernel_rfl) (by kernel_rfl) (fun _ _ _ h => h) (Or.inl ⟨by rfl, fun _ _ => by go_simp⟩) hS ?_
  simp only [Act.put, List.setIfInBounds_toArray, List.set_cons_zero, List.set_cons_succ]
  refine wpAnyH_take (oi := ⟨_, _, _, _, _, _⟩) (i := 7) (v := .pointer (some ⟨p, 1, none⟩)) rfl (by kernel_rfl) (by kernel_rfl) (by kernel_rfl) (fun _ _ _ h => h) (Or.inl ⟨by rfl, fun _ _ => by go_simp⟩) hS ?_
  simp only [Act.put, List.setIfInBounds_toArray, List.set_cons_zero, List.set_cons_succ]
  refine wpAnyH_take (oi := ⟨_, _, _, _, _, _⟩) (i := 8) (v := .slice (some b) (nw cs.length) cf) rfl (by kernel_rfl) (by kernel_rfl) (by kernel_rfl) (fun _ _ _ h => h) (yif_load rfl 43 (.tmp 13) rfl _ _ rfl fun w h => load_one aggS (HeadM.c h).2) hS ?_
  simp only [Act.put, List.setIfInBounds_toArray, List.set_cons_zero, List.set_cons_succ]
  refine wpAnyH_all (rs := [4]) (by kernel_rfl) (by simp) fun i hi => ?_
  obtain rfl : i = 4 := by simpa using hi
  refine op_call (om := ⟨_, _, _, _, _, _⟩) (fn := 33) (args := #[.slice (some a) cs.length cc]) (R := fun u w' => Cloned .i64 3 w1 cs u w') rfl rfl (by go_simp)
    (clone_int (fun hn => ⟨(h1.adr hn).1, h1.rowc hn⟩) hl) _ _ rfl rfl ?_
  rintro u w2 ⟨b1, c1, rfl, r1, e1, e1', k1⟩
  have hS2 : HeadM p a b cs.length cc (nw cs.length) cf w2 := (k1.block p h1.lt).trans hS
  have h2 := h1.keep (keeps_below k1) (fun h => h) (fun _ => ⟨fun h => h, fun h => h⟩)
  refine ⟨hS2, ?_⟩
  clear hi
  simp only [Act.put, List.setIfInBounds_toArray, List.set_cons_zero, List.set_cons_succ]
  refine wpAnyH_all (rs := [9]) (by kernel_rfl) (by simp) fun i hi => ?_
  obtain rfl : i = 9 := by simpa using hi
  have hcl := clone_set (w := w2) (a := b) (b := bf) (cc := cf) (zs := wsOf cs) (fun hn => by
    have hn' : cs ≠ [] := fun e => hn (by subst e; rfl)
    exact ⟨(h2.adr hn').2, h2.rowf hn'⟩) (by rw [hlw]; unfold nw; omega)
  rw [hlw] at hcl
  refine op_call (om := ⟨_, _, _, _, _, _⟩) (fn := 34) (args := #[.slice (some b) (nw cs.length) cf]) (R := fun u w' => Cloned .u64 58 w2 (wsOf cs) u w') rfl rfl (by go_simp) hcl _ _ rfl rfl ?_
  rintro u w3 ⟨b2, c2, rfl, r2, e2, e2', k2⟩
  have hS3 : HeadM p a b cs.length cc (nw cs.length) cf w3 := (k2.block p h2.lt).trans hS2
  refine ⟨hS3, ?_⟩
  clear hi hcl
  simp only [Act.put, List.setIfInBounds_toArray, List.set_cons_zero, List.set_cons_succ]
  rw [hlw]
  have sz1 := kd.size
  have sz2 := k1.size
  have sz3 := k2.size
  have r1' : cs ≠ [] → RowK .i64 3 w3 b1 cs := fun hn => (r1 hn).block (k2.block b1 e1')
  refine wpAnyH_take (oi := ⟨_, _, _, _, _, _⟩) (i := 10) (v := .agg #[.slice (some ⟨b1, 0, none⟩) cs.length c1, .slice (some ⟨b2, 0, none⟩) (nw cs.length) c2]) rfl (by kernel_rfl) (by kernel_rfl) (by kernel_rfl) (fun _ _ _ h => h) (Or.inl ⟨by rfl, fun _ _ => by go_simp⟩) hS3 ?_
  simp only [Act.put, List.setIfInBounds_toArray, List.set_cons_zero, List.set_cons_succ]
  refine wpAnyH_all (rs := [11]) (by kernel_rfl) (by simp) fun i hi => ?_
  obtain rfl : i = 11 := by simpa using hi
  have ka : Keeps (fun _ => False) w3 (w3.alloc (.cells #[.slice (some ⟨b1, 0, none⟩) cs.length c1, .slice (some ⟨b2, 0, none⟩) (nw cs.length) c2] 45)) := Keeps.alloc _ _ _
  refine op_run (om := ⟨_, _, _, _, _, _⟩) (u := .pointer (some ⟨w3.heap.size, 0, none⟩)) (w' := w3.alloc (.cells #[.slice (some ⟨b1, 0, none⟩) cs.length c1, .slice (some ⟨b2, 0, none⟩) (nw cs.length) c2] 45)) rfl rfl (by go_simp) _ _ rfl rfl ?_
  rintro u w4 ⟨rfl, hw4⟩
  have hS4 : HeadM p a b cs.length cc (nw cs.length) cf w4 := by rw [hw4]; exact (ka.block p (Array.getElem?_eq_some_iff.1 hS3).1 (fun h => h)).trans hS3
  refine ⟨hS4, ?_⟩
  clear hi
  have hfin : CopyM w cs (.returned (.pointer (some ⟨w3.heap.size, 0, none⟩))) w4 := by
    rw [← hw4] at ka
    refine ⟨w3.heap.size, rfl, ⟨⟨b1, 0, none⟩, ⟨b2, 0, none⟩, b1, b2, c1, c2, ⟨?_, hl, fun _ => ⟨rfl, rfl⟩, fun hn => (r1' hn).block (ka.block b1 (by omega) (fun h => h)), fun hn => (r2 (fun e => hn ?_)).block (ka.block b2 e2' (fun h => h)), by omega, by omega, by omega⟩, by omega, ?_, by omega, by rw [hw4]; simp; omega, by omega, by rw [hw4]; simp; omega⟩, ?_⟩
    · rw [hw4]; exact heap_alloc_new _ _
    · have : (wsOf cs).length = 0 := by rw [e]; rfl
      rw [hlw] at this
      unfold nw at this
      exact List.eq_nil_of_length_eq_zero (by omega)
    · rw [hw4]; simp
    · have := ((kd.trans (keeps_below k1)).trans (keeps_below k2)).trans ka
      exact this.toBelow _ (Nat.le_refl _) fun _ h => h.elim
  have HF := Lib.hid hfin
  clear hfin r1 r1' r2 k1 k2 ka h1 h2 kd hS hS2 hS3 hw4
  simp only [Act.put, List.setIfInBounds_toArray, List.set_cons_zero, List.set_cons_succ]
  refine wpAnyH_take (oi := ⟨_, _, _, _, _, _⟩) (i := 12) (v := .pointer (some ⟨w3.heap.size, 0, none⟩)) rfl (by kernel_rfl) (by kernel_rfl) (by kernel_rfl) (fun _ _ _ h => h) (Or.inl ⟨by rfl, fun _ _ => rfl⟩) hS4 ?_
  refine wpAnyH_done (by kernel_rfl) ?_ _
  simp only [Act.put, List.setIfInBounds_toArray, List.set_cons_zero, List.set_cons_succ]
  go_wp2_with fail
  go_ret
  exact HF.out
end Go.Proofs.YtajagjhhpciocaaDoor.Sp
