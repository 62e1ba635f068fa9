/-
  ExRow
-/
import Derived.Test.YtcldbgmbkcpdgaaExRef
import Derived.WalkSmall
namespace Go.Proofs.Ytcldbgmbkcpdgaa.Ex
open Go.RowKit

/-- Extents in a row of the call's own. -/
def OwnX (w : World) (B : Nat) (R : Option Addr) (cap : Nat) (l : List EX) : Prop := w.ownsRow B 47 2 (.slice R l.length cap) l.length (l.flatMap xcells)
theorem flatX_at (l : List EX) : ∀ (k : Nat) (a : EX), l[k]? = some a → ∀ j v, (xcells a)[j]? = some v → (l.flatMap xcells)[k * 2 + j]? = some v := by
  induction l with
  | nil => intro k a h; simp at h
  | cons x r ih =>
    intro k a h j v hv
    have hl : (xcells x).length = 2 := rfl
    rw [List.flatMap_cons]
    cases k with
    | zero =>
      simp at h; subst h
      have hj := (List.getElem?_eq_some_iff.1 hv).1
      rw [List.getElem?_append_left (by omega), Nat.zero_mul, Nat.zero_add]
      exact hv
    | succ k =>
      rw [List.getElem?_append_right (by rw [hl]; omega), hl, show (k + 1) * 2 + j - 2 = k * 2 + j from by omega]
      exact ih k a (by simpa using h) j v hv
theorem flatX_len (l : List EX) : (l.flatMap xcells).length = l.length * 2 := by
  induction l with
  | nil => rfl
  | cons x r ih => rw [List.flatMap_cons, List.length_append, ih, List.length_cons, show (xcells x).length = 2 from rfl]; omega
theorem flatX_get (l : List EX) (i : Nat) (u : Value) (h : (l.flatMap xcells)[i]? = some u) : ∃ a, l[i / 2]? = some a ∧ (xcells a)[i % 2]? = some u := by
  have hi := (List.getElem?_eq_some_iff.1 h).1
  rw [flatX_len] at hi
  have hk : i / 2 < l.length := by omega
  have h3 : i % 2 < (xcells l[i / 2]).length := by show i % 2 < 2; omega
  have := flatX_at l (i / 2) l[i / 2] (List.getElem?_eq_getElem hk) (i % 2) _ (List.getElem?_eq_getElem h3)
  rw [show i / 2 * 2 + i % 2 = i from by omega, h] at this
  exact ⟨_, List.getElem?_eq_getElem hk, by rw [List.getElem?_eq_getElem h3]; exact this.symm⟩
theorem oneCellX (l : List EX) : ∀ u ∈ l.flatMap xcells, u.oneCell' = true := by
  intro u hu
  simp only [List.mem_flatMap, xcells, List.mem_cons, List.not_mem_nil, or_false] at hu
  obtain ⟨a, _, rfl | rfl⟩ := hu <;> rfl
theorem Try.infoX : (Try.prog.info? 47).map (fun i => (i.zero, i.size, i.bytes)) = some (some (.agg #[.int .i64 0, .int .i64 0]), 2, 16) := by kernel_rfl
theorem add_zero (g j : Nat) : (⟨g, 0, none⟩ : Addr).add j = ⟨g, j, none⟩ := by unfold Addr.add; split <;> simp_all
/-- Only the row v was written; v' is that row, or lies in new blocks. -/
structure Beside (w w' : World) (v v' : Value) : Prop where
  size : w.heap.size ≤ w'.heap.size
  keep : ∀ k, k < w.heap.size → v.ownBlock ≠ some k → w'.heap[k]? = w.heap[k]?
  own : ∀ k, v'.ownBlock = some k → v.ownBlock = some k ∨ w.heap.size ≤ k
theorem Beside.from {w0 w w' : World} {v v' : Value} (h : Beside w w' v v') (hs : w0.heap.size ≤ w.heap.size) (hk : ∀ k, k < w0.heap.size → w.heap[k]? = w0.heap[k]?) : Beside w0 w' v v' :=
  ⟨Nat.le_trans hs h.size, fun k hk' hn => (h.keep k (by omega) hn).trans (hk k hk'), fun k e => (h.own k e).imp id (fun h => by omega)⟩
/-- More extents, out of cells that lie somewhere. -/
theorem OwnX.app {w : World} {B : Nat} {R : Option Addr} {cap : Nat} {l : List EX} (h : OwnX w B R cap l) (hB : B ≤ w.heap.size) (hl : l.length ≤ 1000) (m : List EX) (hm : m.length ≤ 1000) (ad : Addr) (c : Nat)
    (hc : ∀ j u, (m.flatMap xcells)[j]? = some u → w.cell? (ad.add j) = some u) :
    ∃ R' cap' w', (Builtin.append_ #[26, 26] 26 #[.slice R l.length cap, .slice (some ad) m.length c]).run Try.prog w = .ok (.slice R' (l ++ m).length cap') w' ∧ OwnX w' B R' cap' (l ++ m) ∧ Below B w w' ∧ Beside w w' (.slice R l.length cap) (.slice R' (l ++ m).length cap') := by
  obtain ⟨i0, hi, hz0, hz1, hz2⟩ := info_parts Try.infoX
  obtain ⟨v', w', hrun, hown, hg, hv, hob⟩ := run_append_own_at (P := Try.prog) w B 26 26 47 i0 _ 2 16 Try.underlying26 hi hz0 hz1 hz2 rfl (by decide) _ l.length _ h ad m.length c (m.flatMap xcells) (flatX_len m) hc (oneCellX m) (by unfold maxLen; omega) (by omega) hB
  have hform : ∃ R' cap', v' = .slice R' (l ++ m).length cap' := by
    by_cases h0 : 0 < l.length + m.length
    · obtain ⟨g, cap', rfl, _, _⟩ := World.ownsRow.form hown h0
      exact ⟨_, cap', by rw [List.length_append]⟩
    · rcases hown.2 with ⟨e, _⟩ | ⟨g', cap', cur, e, _⟩
      · exact ⟨none, 0, by rw [e, show (l ++ m).length = 0 from by rw [List.length_append]; omega]⟩
      · exact ⟨_, cap', by rw [e, List.length_append]⟩
  obtain ⟨R', cap', rfl⟩ := hform
  refine ⟨R', cap', w', hrun, ?_, ⟨hg.os, hg.tape, hg.output, hg.size, fun k hk => hg.block k (by omega) (fun e => by have := (World.ownsRow.lt h k e.symm).1; omega)⟩, ⟨hg.size, fun k hk hn => hg.block k hk (fun e => hn e.symm), fun k e => ?_⟩⟩
  · unfold OwnX
    rw [List.flatMap_append]
    rw [List.length_append] at hown ⊢
    exact hown
  · rcases hob with hob | hob
    · rw [hob] at e; exact .inl e
    · rw [hob] at e; cases e; exact .inr (Nat.le_refl _)
theorem OwnX.nil (w : World) (B : Nat) : OwnX w B none 0 [] := World.ownsRow_nil _ _ _ _
theorem OwnX.empty {w : World} {B : Nat} (hB : B ≤ w.heap.size) : OwnX (w.alloc (.cells #[] 47)) B (some ⟨w.heap.size, 0, none⟩) 0 [] := World.ownsRow_lit w #[] 0 hB (by unfold maxLen; omega) rfl
theorem OwnX.alloc {w : World} {B : Nat} {R : Option Addr} {cap : Nat} {l : List EX} (h : OwnX w B R cap l) (o : Obj) : OwnX (w.alloc o) B R cap l := World.ownsRow.alloc h o
theorem OwnX.below {w w' : World} {B : Nat} {R : Option Addr} {cap : Nat} {l : List EX} (h : OwnX w B R cap l) (hb : Below w.heap.size w w') : OwnX w' B R cap l :=
  World.ownsRow.kept (row := none) h ⟨hb.os, hb.tape, hb.output, hb.size, fun k hk _ => hb.block k hk⟩ (by
    cases e : Value.ownBlock (.slice R l.length cap) with
    | none => exact Or.inl rfl
    | some k => exact Or.inr (by simp))
theorem OwnX.drewN {w : World} {B : Nat} {R : Option Addr} {cap : Nat} {l : List EX} (h : OwnX w B R cap l) (n : Nat) : OwnX (w.drewN n) B R cap l := h.below (below_drewN (Below.refl _ _) n)
/-- Where it lies, cell by cell. -/
theorem OwnX.at_ {w : World} {B : Nat} {R : Option Addr} {cap : Nat} {l : List EX} (h : OwnX w B R cap l) {k : Nat} (hk : k < l.length) :
    ∃ g, R = some ⟨g, 0, none⟩ ∧ B ≤ g ∧ g < w.heap.size ∧ w.cell? ⟨g, k * 2, none⟩ = some (.int .i64 l[k].1) ∧ w.cell? ⟨g, k * 2 + 1, none⟩ = some (.int .i64 l[k].2) ∧ ∀ j, w.frozen? ⟨g, j, none⟩ = false := by
  obtain ⟨g, c, hv, hb, hlt⟩ := World.ownsRow.form h (by omega)
  injection hv with e1 _ e3
  subst e1 e3
  refine ⟨g, rfl, hb, hlt, ?_, ?_, fun j => World.ownsRow.frozenAt h j⟩
  · rw [World.ownsRow.cellAt h (k * 2) (by omega)]
    exact flatX_at l k l[k] (List.getElem?_eq_getElem hk) 0 _ rfl
  · rw [World.ownsRow.cellAt h (k * 2 + 1) (by omega)]
    exact flatX_at l k l[k] (List.getElem?_eq_getElem hk) 1 _ rfl
theorem OwnX.xr {w : World} {B : Nat} {R : Option Addr} {cap : Nat} {l : List EX} (h : OwnX w B R cap l) (ho : ∀ a ∈ l, XOk a) : XR w w.heap.size R l := by
  refine ⟨fun hn => ?_, ho⟩
  have h0 : 0 < l.length := List.length_pos_iff.2 hn
  obtain ⟨g, rfl, _, hlt, _⟩ := h.at_ h0
  refine ⟨_, rfl, hlt, fun k a ha j v hv => ?_⟩
  obtain ⟨hk, rfl⟩ := List.getElem?_eq_some_iff.1 ha
  obtain ⟨g', e, _, _, c0, c1, _⟩ := h.at_ hk
  cases e
  rw [add_zero]
  match j, hv with
  | 0, hv => rw [Addr.add_zero']; cases hv; exact c0
  | 1, hv => cases hv; exact c1
/-- The last one made longer. -/
theorem flat_set (q : List EX) (x : EX) (z : Int) : ((q ++ [x]).flatMap xcells).set (q.length * 2 + 1) (.int .i64 z) = (q ++ [(x.1, z)]).flatMap xcells := by
  rw [List.flatMap_append, List.flatMap_append, List.set_append_right _ _ (by rw [flatX_len]; omega), flatX_len]
  rw [show q.length * 2 + 1 - q.length * 2 = 1 from by omega]
  rfl
theorem OwnX.long {w : World} {B : Nat} {g : Nat} {cap : Nat} {q : List EX} {x : EX} (h : OwnX w B (some ⟨g, 0, none⟩) cap (q ++ [x])) (z : Int) : OwnX (w.setCell ⟨g, q.length * 2 + 1, none⟩ (.int .i64 z)) B (some ⟨g, 0, none⟩) cap (q ++ [(x.1, z)]) := by
  have h1 := (World.ownsRow.stored h (q.length * 2 + 1) (.int .i64 z)).1
  rw [flat_set] at h1
  unfold OwnX
  rw [List.length_append] at h1 ⊢
  exact h1
/-- Extents with small numbers. -/
def Bd (l : List EX) (M : Int) : Prop := ∀ x ∈ l, (0 ≤ x.1 ∧ x.1 ≤ 1000) ∧ 0 ≤ x.2 ∧ x.2 ≤ M
theorem Bd.ok {l : List EX} {M : Int} (h : Bd l M) (hM : M ≤ 1000) : ∀ a ∈ l, XOk a := fun a ha => by
  have := h a ha
  unfold XOk
  omega
theorem Bd.with {l : List EX} {M : Int} (h : Bd l M) (hM : 0 ≤ M) {b : Nat} (hb : b < 32) : Bd (withV l b) (M + 1) ∧ (withV l b).length ≤ l.length + 1 := by
  rcases List.eq_nil_or_concat l with rfl | ⟨q, x, rfl⟩
  · refine ⟨fun y hy => ?_, by simp [withV]⟩
    rw [withV_nil, List.mem_singleton] at hy
    subst hy
    simp only
    omega
  · rw [List.concat_eq_append] at h ⊢
    rw [withV_snoc]
    have hq : ∀ y ∈ q, (0 ≤ y.1 ∧ y.1 ≤ 1000) ∧ 0 ≤ y.2 ∧ y.2 ≤ M := fun y hy => h y (by simp [hy])
    have hx := h x (by simp)
    split
    · refine ⟨fun y hy => ?_, by simp⟩
      rcases List.mem_append.1 hy with hy | hy
      · have := hq y hy; omega
      · rw [List.mem_singleton] at hy; subst hy; simp only; omega
    · refine ⟨fun y hy => ?_, by simp⟩
      rcases List.mem_append.1 hy with hy | hy
      · have := h y hy; omega
      · rw [List.mem_singleton] at hy; subst hy; simp only; omega

theorem OwnX.other {w : World} {B : Nat} {R : Option Addr} {cap : Nat} {l : List EX} (h : OwnX w B R cap l) {q : Nat} (hq : q < B) (v : Value) : OwnX (w.setCell ⟨q, 0, none⟩ v) B R cap l :=
  World.ownsRow.kept (row := some q) h ⟨rfl, rfl, rfl, by simp, fun k _ hk => heap_setCell_other w ⟨q, 0, none⟩ k v (fun e => hk (by rw [e]))⟩ (by
    cases e : Value.ownBlock (.slice R l.length cap) with
    | none => exact Or.inl rfl
    | some k => exact Or.inr (fun e2 => by
      have := (World.ownsRow.lt h k e).1
      cases e2
      omega))
/-- The row grown or written, the rest kept. -/
def GivesW (w : World) (B : Nat) (v : Value) (m : List EX) (e : Ending) (w' : World) : Prop := ∃ R cap, e = .returned (.slice R m.length cap) ∧ OwnX w' B R cap m ∧ Below B w w' ∧ Beside w w' v (.slice R m.length cap)
def GivesX (w : World) (B : Nat) (m : List EX) (e : Ending) (w' : World) : Prop := ∃ R cap, e = .returned (.slice R m.length cap) ∧ OwnX w' B R cap m ∧ Below B w w'
end Go.Proofs.Ytcldbgmbkcpdgaa.Ex
