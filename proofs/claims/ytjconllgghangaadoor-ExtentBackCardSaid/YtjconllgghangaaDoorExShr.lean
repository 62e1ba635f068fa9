/-
  ExShr
-/
import Derived.Test.YtjconllgghangaaDoorExRShrink
namespace Go.Proofs.YtjconllgghangaaDoor.Ex
open Go.RowKit Go.Shelf

/-- A block below 32, and its place. -/
abbrev BN := { x : Nat × Nat // x.1 < 32 }
abbrev encN (x : BN) : Array Value := encB x.1
theorem blocks_stopsN (F : Fence) (n : Nat) (h : F.fn 28) (hro : F.round = none) (hn : 1 ≤ n) {Wr : World → Nat → Prop} {n0 : Nat} (hw : Writes n0 Wr) (B : Nat) (A : Option Addr) (l : List EX) (c : Nat) (hok : ok l = true) (hl : l.length ≤ 100) (w : World)
    (hbox : w.heap[B]? = some (.cells #[.slice A l.length c] 22 (0, 0))) (hi : ∀ W, Below w.heap.size w W → ItOk Wr n0 W A l) :
    SeqStopsK F n Tryd.prog 28 #[.pointer (some ⟨B, 0, none⟩)] encN (KpW Wr) (fun ys => ys.map (·.1) = (blkL l).zipIdx) (fun pre => pre.map (·.1) <+: (blkL l).zipIdx) (blkL l).length w := fun y J Jx W hW hJ _ hY h0 => by
  have := blocks1_in F n h hro hn hw y B A l c hok hl (fun pre W => ∃ p : List BN, p.map (·.1) = pre ∧ J p W) (fun pre W => ∃ p : List BN, p.map (·.1) = pre ∧ Jx p W) W
    (fun s W1 o ⟨p, e, hs⟩ => ⟨p, e, hJ p W1 _ none hs (World.grownBy_alloc W1 o none) (fun r e => by cases e)⟩)
    (fun pre x W1 ⟨p, e, hs⟩ hlen hpf => by
      subst e
      have hx : x.1 < 32 := by
        have hm : (x.1, x.2) ∈ (blkL l).zipIdx := by
          obtain ⟨t, ht⟩ := hpf
          rw [← ht]
          simp
        rw [List.mk_mem_zipIdx_iff_getElem?] at hm
        exact ((ok_good l hok).2 _ (List.mem_of_getElem? hm)).2
      rw [List.length_map] at hlen
      obtain ⟨fn, tmps, assign, body, hy, hR⟩ := hY p ⟨x, hx⟩ W1 hs hlen
      exact ⟨fn, tmps, assign, body, hy, hR.mono fun e W' h => h.imp (fun ⟨a, b, c⟩ => ⟨a, ⟨p ++ [⟨x, hx⟩], by simp, b⟩, c⟩) (fun ⟨a, b⟩ => ⟨a, p ++ [⟨x, hx⟩], by simp, b⟩)⟩)
    (by rw [cell_of_row _ _ _ _ _ _ ((hW.block B (Array.getElem?_eq_some_iff.1 hbox).1).trans hbox)]; rfl) (hi W hW) ⟨[], rfl, h0⟩
  exact this.mono fun e W' ⟨h1, h2⟩ => ⟨h1, h2.imp (fun ⟨ys, e, p, ep, hp⟩ => ⟨p, ep.trans e, hp⟩) (fun ⟨pre, hpre, p, ep, hp⟩ => ⟨p, (by show p.map (·.1) <+: _; rw [ep]; exact hpre), hp⟩)⟩

/-! ### what has been kept, what dropped -/
def kp (K : Nat) (pre : List BN) : List Nat := (pre.filter fun x => decide (x.1.2 < K)).map (·.1.1)
def dr (K : Nat) (pre : List BN) : List Nat := (pre.filter fun x => !decide (x.1.2 < K)).map (·.1.1)
theorem kp_yes {K : Nat} {pre : List BN} {x : BN} (h : x.1.2 < K) : kp K (pre ++ [x]) = kp K pre ++ [x.1.1] ∧ dr K (pre ++ [x]) = dr K pre := by simp [kp, dr, List.filter_append, h]
theorem kp_no {K : Nat} {pre : List BN} {x : BN} (h : ¬ x.1.2 < K) : kp K (pre ++ [x]) = kp K pre ∧ dr K (pre ++ [x]) = dr K pre ++ [x.1.1] := by simp [kp, dr, List.filter_append, h]
theorem kp_lt (K : Nat) (pre : List BN) : ∀ b ∈ kp K pre, b < 32 := fun b hb => by
  obtain ⟨x, _, rfl⟩ := List.mem_map.1 hb
  exact x.2
theorem dr_lt (K : Nat) (pre : List BN) : ∀ b ∈ dr K pre, b < 32 := fun b hb => by
  obtain ⟨x, _, rfl⟩ := List.mem_map.1 hb
  exact x.2
theorem kp_len (K : Nat) (pre : List BN) : (kp K pre).length ≤ pre.length := by
  unfold kp
  rw [List.length_map]
  exact List.length_filter_le _ _
theorem zip_take (K : Nat) : ∀ (bs : List Nat) (m : Nat), ((bs.zipIdx m).filter fun x => decide (x.2 < K)).map (·.1) = bs.take (K - m)
  | [], m => by simp
  | b :: r, m => by
    have ih := zip_take K r (m + 1)
    rw [List.zipIdx_cons, List.filter_cons]
    by_cases h : m < K
    · rw [if_pos (by simpa using h), List.map_cons, ih, show K - m = (K - (m + 1)) + 1 from by omega, List.take_succ_cons]
    · rw [if_neg (by simpa using h), ih, show K - (m + 1) = 0 from by omega, show K - m = 0 from by omega]
      simp
theorem zip_drop (K : Nat) : ∀ (bs : List Nat) (m : Nat), ((bs.zipIdx m).filter fun x => !decide (x.2 < K)).map (·.1) = bs.drop (K - m)
  | [], m => by simp
  | b :: r, m => by
    have ih := zip_drop K r (m + 1)
    rw [List.zipIdx_cons, List.filter_cons]
    by_cases h : m < K
    · rw [if_neg (by simpa using h), ih, show K - m = (K - (m + 1)) + 1 from by omega, List.drop_succ_cons]
    · rw [if_pos (by simpa using h), List.map_cons, ih, show K - (m + 1) = 0 from by omega, show K - m = 0 from by omega]
      simp
theorem kp_all {K : Nat} {ys : List BN} {bs : List Nat} (h : ys.map (·.1) = bs.zipIdx) : kp K ys = bs.take K ∧ dr K ys = bs.drop K := by
  have h1 := zip_take K bs 0
  have h2 := zip_drop K bs 0
  rw [← h, List.filter_map, List.map_map, Nat.sub_zero] at h1 h2
  exact ⟨h1, h2⟩

/-! ### what a round writes -/
/-- The set, the list, the list's row. -/
def WrS (p q : Nat) (W : World) (k : Nat) : Prop := k = p ∨ k = q ∨ ∃ v, W.cell? ⟨q, 0, none⟩ = some v ∧ v.ownBlock = some k
theorem writesS (p q : Nat) : Writes (q + 1) (WrS p q) := by
  refine ⟨fun W l o' k hl => ?_, fun W o k hW h => ?_⟩
  · have : (W.putObj l o').cell? ⟨q, 0, none⟩ = W.cell? ⟨q, 0, none⟩ := World.cell?_of_block (w := W) (World.putObj_heap_other (by show q ≠ l; omega))
    unfold WrS
    rw [this]
  · have : (W.alloc o).cell? ⟨q, 0, none⟩ = W.cell? ⟨q, 0, none⟩ := World.cell?_of_block (w := W) (Below.heap_alloc _ _ _ (by show q < W.heap.size; omega))
    unfold WrS at h ⊢
    rwa [this] at h
structure InS (w : World) (p q u K : Nat) (pre : List BN) (R : Option Addr) (cap : Nat) (W : World) : Prop where
  hp : p < q
  hq : p + 1 < q
  used : Boxed W p 33 (.int .u32 (andN u (setN (dr K pre)) : Nat))
  num : Boxed W (p + 1) 3 (.int .i64 (K : Int))
  kept : Boxed W q 22 (.slice R (extV [] (kp K pre)).length cap)
  own : OwnX W (q + 1) R cap (extV [] (kp K pre))
  le : w.heap.size ≤ p
  bel : Below w.heap.size w W
section
variable {w : World} {p q u K : Nat} {pre : List BN} {R : Option Addr} {cap : Nat} {W : World}
theorem InS.row (h : InS w p q u K pre R cap W) {k : Nat} (e : Value.ownBlock (.slice R (extV [] (kp K pre)).length cap) = some k) : q + 1 ≤ k ∧ k < W.heap.size ∧ ∃ cs t, W.heap[k]? = some (.cells cs t (0, 0)) := by
  have h1 := World.ownsRow.lt h.own k e
  refine ⟨h1.1, h1.2, ?_⟩
  rcases h.own.2 with ⟨hn, _⟩ | ⟨g, cap', cur, e', _, hg, _⟩
  · rw [hn] at e; cases e
  · rw [e'] at e; cases e; exact ⟨_, _, hg⟩
theorem inS_own (B : Nat) (hB : w.heap.size ≤ B) : OwnFrom B (fun (pre : List BN) W => ∃ R cap, InS w p q u K pre R cap W) := fun pre W W' row hs hg hr => by
  obtain ⟨R, cap, h⟩ := hs
  have hr' : ∀ r, row = some r → ∃ o : Obj, W.heap[r]? = some o ∧ o.isCells = false := fun r e => (hr r e).2
  refine ⟨R, cap, h.hp, h.hq, cells_kept h.used hg hr', cells_kept h.num hg hr', cells_kept h.kept hg hr', World.ownsRow.kept (row := row) h.own hg ?_, h.le, ownFrom_below (w₀ := w) (Nat.le_refl _) hB () W W' row h.bel hg hr⟩
  cases e : Value.ownBlock (.slice R (extV [] (kp K pre)).length cap) with
  | none => exact .inl rfl
  | some k =>
    refine .inr fun e2 => ?_
    obtain ⟨_, _, cs, t, hc⟩ := h.row e
    obtain ⟨o, ho, hoc⟩ := hr' k e2.symm
    rw [hc] at ho
    cases ho
    cases hoc
/-- A block kept. -/
theorem InS.with (h : InS w p q u K pre R cap W) {x : BN} (hx : x.1.2 < K) {W2 : World} {R' : Option Addr} {cap' : Nat} (o5 : OwnX W2 (q + 1) R' cap' (withV (extV [] (kp K pre)) x.1.1)) (b5 : Below (q + 1) W W2)
    (s5 : Beside W W2 (.slice R (extV [] (kp K pre)).length cap) (.slice R' (withV (extV [] (kp K pre)) x.1.1).length cap')) :
    KeepsOthers W (W2.setCell ⟨q, 0, none⟩ (.slice R' (withV (extV [] (kp K pre)) x.1.1).length cap')) ∧ KpW (WrS p q) W (W2.setCell ⟨q, 0, none⟩ (.slice R' (withV (extV [] (kp K pre)) x.1.1).length cap')) ∧
      InS w p q u K (pre ++ [x]) R' cap' (W2.setCell ⟨q, 0, none⟩ (.slice R' (withV (extV [] (kp K pre)) x.1.1).length cap')) := by
  have hql : q < W.heap.size := h.kept.lt
  have hkq : ∀ k, k ≠ q → (W2.setCell ⟨q, 0, none⟩ (.slice R' (withV (extV [] (kp K pre)) x.1.1).length cap')).heap[k]? = W2.heap[k]? := fun k hk => Below.heap_setCell _ _ _ _ hk
  have hsz : (W2.setCell ⟨q, 0, none⟩ (.slice R' (withV (extV [] (kp K pre)) x.1.1).length cap')).heap.size = W2.heap.size := by simp [World.setCell]
  have hkept : Boxed (W2.setCell ⟨q, 0, none⟩ (.slice R' (withV (extV [] (kp K pre)) x.1.1).length cap')) q 22 (.slice R' (withV (extV [] (kp K pre)) x.1.1).length cap') :=
    (show Boxed W2 q 22 (.slice R (extV [] (kp K pre)).length cap) from (b5.block q (by omega)).trans h.kept).set _
  have howns := o5.other (q := q) (by omega) (.slice R' (withV (extV [] (kp K pre)) x.1.1).length cap')
  have h3 := s5.size
  refine ⟨⟨by rw [hsz]; exact h3, fun k o hk ho => ?_⟩, fun hs => ⟨fun k hk => ?_, by rw [hsz]; exact h3, fun k o ho hc hn => ?_⟩, ?_⟩
  · have hlt := (Array.getElem?_eq_some_iff.1 hk).1
    have n1 : k ≠ q := fun e => by subst e; rw [h.kept] at hk; cases hk; cases ho
    have n2 : Value.ownBlock (.slice R (extV [] (kp K pre)).length cap) ≠ some k := fun e => by
      obtain ⟨_, _, cs, t, hc⟩ := h.row e
      rw [hc] at hk; cases hk; cases ho
    rw [hkq k n1, s5.keep k hlt n2]
    exact hk
  · rw [hsz]
    rcases hk with rfl | rfl | ⟨v, hv, hk⟩
    · have := h.hp; omega
    · omega
    · rw [hkept.cell] at hv
      cases hv
      have := (World.ownsRow.lt howns k hk).2
      rwa [hsz] at this
  · have hlt := (Array.getElem?_eq_some_iff.1 ho).1
    have n1 : k ≠ q := fun e => hn (.inr (.inl e))
    have n2 : Value.ownBlock (.slice R (extV [] (kp K pre)).length cap) ≠ some k := fun e => hn (.inr (.inr ⟨_, h.kept.cell, e⟩))
    refine ⟨by rw [hkq k n1, s5.keep k hlt n2]; exact ho, ?_⟩
    rintro (e | e | ⟨v, hv, hk⟩)
    · exact hn (.inl e)
    · exact hn (.inr (.inl e))
    · rw [hkept.cell] at hv
      cases hv
      rcases s5.own k hk with h1 | h1
      · exact n2 h1
      · omega
  · obtain ⟨e1, e2⟩ := kp_yes (pre := pre) hx
    refine ⟨h.hp, h.hq, ?_, ?_, ?_, ?_, h.le, ?_⟩
    · rw [e2]
      exact (hkq p (by have := h.hp; omega)).trans ((b5.block p (by have := h.hp; omega)).trans h.used)
    · exact (hkq (p + 1) (by have := h.hq; omega)).trans ((b5.block (p + 1) (by have := h.hq; omega)).trans h.num)
    · rw [e1, extV_snoc]
      exact hkept
    · rw [e1, extV_snoc]
      exact howns
    · have h1 := h.le
      have h2 := h.hp
      exact (h.bel.trans (b5.mono (by omega))).setCell (p := ⟨q, 0, none⟩) (by show w.heap.size ≤ q; omega) _
/-- A block dropped. -/
theorem InS.drop (h : InS w p q u K pre R cap W) {x : BN} (hx : ¬ x.1.2 < K) {z : Nat} (hz : z = andN u (setN (dr K pre ++ [x.1.1]))) :
    KeepsOthers W (W.drew.setCell ⟨p, 0, none⟩ (.int .u32 (z : Int))) ∧ KpW (WrS p q) W (W.drew.setCell ⟨p, 0, none⟩ (.int .u32 (z : Int))) ∧ InS w p q u K (pre ++ [x]) R cap (W.drew.setCell ⟨p, 0, none⟩ (.int .u32 (z : Int))) := by
  have hpl : p < W.heap.size := h.used.lt
  have hpq := h.hp
  have hkq : ∀ k, k ≠ p → (W.drew.setCell ⟨p, 0, none⟩ (.int .u32 (z : Int))).heap[k]? = W.heap[k]? := fun k hk => Below.heap_setCell W.drew _ _ _ hk
  have hsz : (W.drew.setCell ⟨p, 0, none⟩ (.int .u32 (z : Int))).heap.size = W.heap.size := by simp [World.setCell]
  have hkept : Boxed (W.drew.setCell ⟨p, 0, none⟩ (.int .u32 (z : Int))) q 22 (.slice R (extV [] (kp K pre)).length cap) := (hkq q (by omega)).trans h.kept
  have hused : Boxed (W.drew.setCell ⟨p, 0, none⟩ (.int .u32 (z : Int))) p 33 (.int .u32 (z : Int)) := (show Boxed W.drew p 33 _ from h.used).set _
  refine ⟨⟨by rw [hsz]; exact Nat.le_refl _, fun k o hk ho => ?_⟩, fun hs => ⟨fun k hk => ?_, by rw [hsz]; exact Nat.le_refl _, fun k o ho hc hn => ?_⟩, ?_⟩
  · have n1 : k ≠ p := fun e => by subst e; rw [h.used] at hk; cases hk; cases ho
    rw [hkq k n1]
    exact hk
  · rw [hsz]
    refine hs k ?_
    rcases hk with e | e | ⟨v, hv, hk⟩
    · exact .inl e
    · exact .inr (.inl e)
    · rw [hkept.cell] at hv
      exact .inr (.inr ⟨v, by rw [h.kept.cell]; exact hv, hk⟩)
  · have n1 : k ≠ p := fun e => hn (.inl e)
    refine ⟨by rw [hkq k n1]; exact ho, ?_⟩
    rintro (e | e | ⟨v, hv, hk⟩)
    · exact hn (.inl e)
    · exact hn (.inr (.inl e))
    · rw [hkept.cell] at hv
      exact hn (.inr (.inr ⟨v, by rw [h.kept.cell]; exact hv, hk⟩))
  · obtain ⟨e1, e2⟩ := kp_no (pre := pre) hx
    refine ⟨h.hp, h.hq, ?_, ?_, ?_, ?_, h.le, ?_⟩
    · rw [e2, ← hz]
      exact hused
    · exact (hkq (p + 1) (by omega)).trans h.num
    · rw [e1]
      exact hkept
    · rw [e1]
      exact (show OwnX W.drew (q + 1) R cap _ from h.own.drewN 1).other (q := p) (by omega) _
    · have h1 := h.le
      exact (below_drewN h.bel 1).setCell (p := ⟨p, 0, none⟩) (by show w.heap.size ≤ p; omega) _
end
end Go.Proofs.YtjconllgghangaaDoor.Ex
