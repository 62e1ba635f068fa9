/-
  Rows of bytes that a call makes, and what a call gives that hands new bytes back. No function of the program is named here.
-/
import Derived.Test.YtajagjhhpciocaaDoorBase
import Derived.Deep.OwnRows
namespace Go.Proofs.YtajagjhhpciocaaDoor
open Go.RowKit

/-- The call hands back bytes 'zs' and has written nothing that was there. -/
def GivesB (w : World) (zs : List UInt8) (e : Ending) (w' : World) : Prop :=
  ∃ R c, e = .returned (.slice R zs.length c) ∧ BR w' w'.heap.size R zs ∧ Below w.heap.size w w'

/-- The same, and what it hands back has room for all its bytes. -/
def GivesC (w : World) (zs : List UInt8) (e : Ending) (w' : World) : Prop :=
  ∃ R c, e = .returned (.slice R zs.length c) ∧ BR w' w'.heap.size R zs ∧ Below w.heap.size w w' ∧ zs.length ≤ c
theorem GivesC.toB {w : World} {zs : List UInt8} {e : Ending} {w' : World} (h : GivesC w zs e w') : GivesB w zs e w' := by
  obtain ⟨R, c, he, hr, hb, _⟩ := h
  exact ⟨_, c, he, hr, hb⟩
theorem BR.take {w : World} {B : Nat} {A : Option Addr} {xs : List UInt8} (h : BR w B A xs) (n : Nat) : BR w B A (xs.take n) := by
  intro hn
  obtain ⟨ad, e, hb, hc⟩ := h (by intro e; subst e; simp at hn)
  refine ⟨ad, e, hb, fun k u hu => hc k u ?_⟩
  rw [List.getElem?_take] at hu
  split at hu
  · exact hu
  · cases hu

/-- The same, the bytes lying in a block that is new. -/
def GivesN (w : World) (zs : List UInt8) (e : Ending) (w' : World) : Prop :=
  ∃ g c, e = .returned (.slice (some ⟨g, 0, none⟩) zs.length c) ∧ w.heap.size ≤ g ∧ g < w'.heap.size ∧ BR w' w'.heap.size (some ⟨g, 0, none⟩) zs ∧ Below w.heap.size w w' ∧ zs.length ≤ c
theorem GivesN.toB {w : World} {zs : List UInt8} {e : Ending} {w' : World} (h : GivesN w zs e w') : GivesB w zs e w' := by
  obtain ⟨g, c, he, _, _, hr, hb, _⟩ := h
  exact ⟨_, c, he, hr, hb⟩

/-- Block g is the bytes 'zs'. -/
def Row8 (w : World) (g : Nat) (t : TypeId) (zs : List UInt8) : Prop := w.rowIs g t zs.length fun i => B8 (zs.getD i 0)

theorem Row8.br {w : World} {g : Nat} {t : TypeId} {zs : List UInt8} (h : Row8 w g t zs) : BR w w.heap.size (some ⟨g, 0, none⟩) zs := by
  intro _
  refine ⟨_, rfl, h.lt, fun k u hu => ?_⟩
  have hk : k < zs.length := by
    rcases Nat.lt_or_ge k zs.length with h | h
    · exact h
    · rw [List.getElem?_eq_none h] at hu; cases hu
  have e : (⟨g, 0, none⟩ : Addr).add k = ⟨g, k, none⟩ := by unfold Addr.add; split <;> simp_all
  rw [e, h.cell hk, List.getD_eq_getElem?_getD, hu]; rfl
theorem Row8.set_ {w : World} {g : Nat} {t : TypeId} {zs : List UInt8} (h : Row8 w g t zs) (k : Nat) (u : UInt8) : Row8 (w.setCell ⟨g, k, none⟩ (B8 u)) g t (zs.set k u) := by
  unfold Row8 at *
  rw [List.length_set]
  refine (h.set k (B8 u)).congr fun i hi => ?_
  by_cases e : i = k
  · subst e; simp [List.getD_eq_getElem?_getD, hi]
  · rw [if_neg e, List.getD_eq_getElem?_getD, List.getD_eq_getElem?_getD, List.getElem?_set_ne (fun h => e h.symm)]
theorem Row8.cell_ {w : World} {g : Nat} {t : TypeId} {zs : List UInt8} (h : Row8 w g t zs) {k : Nat} (hk : k < zs.length) : w.cell? ⟨g, k, none⟩ = some (B8 (zs.getD k 0)) := h.cell hk
theorem Row8.free {w : World} {g : Nat} {t : TypeId} {zs : List UInt8} (h : Row8 w g t zs) (k : Nat) : w.frozen? ⟨g, k, none⟩ = false := h.frozen k
theorem Row8.lt_ {w : World} {g : Nat} {t : TypeId} {zs : List UInt8} (h : Row8 w g t zs) : g < w.heap.size := h.lt
theorem Row8.made (w : World) (n : Nat) (t : TypeId) : Row8 (w.alloc (.cells (madeCells #[.int .u8 0] n) t)) w.heap.size t (List.replicate n 0) := by
  have h := World.rowIs_made w (.int .u8 0) n t
  unfold Row8
  rw [List.length_replicate]
  refine h.congr fun i hi => ?_
  simp [List.getD_eq_getElem?_getD, hi]
theorem givesB_row {w w' : World} {g : Nat} {t : TypeId} {zs : List UInt8} {n c : Nat} (hn : zs.length = n) (h : Row8 w' g t zs) (hb : Below w.heap.size w w') :
    GivesB w zs (.returned (.slice (some ⟨g, 0, none⟩) n c)) w' := by
  subst hn
  exact ⟨_, _, rfl, h.br, hb⟩
theorem givesN_row {w w' : World} {g : Nat} {t : TypeId} {zs : List UInt8} {n c : Nat} (hn : zs.length = n) (hc : n ≤ c) (hg : w.heap.size ≤ g) (h : Row8 w' g t zs) (hb : Below w.heap.size w w') :
    GivesN w zs (.returned (.slice (some ⟨g, 0, none⟩) n c)) w' := by
  subst hn
  exact ⟨_, _, rfl, hg, h.lt_, h.br, hb, hc⟩
theorem BR.new (w : World) (xs : List UInt8) (C : Array Value) (t : TypeId) (fr : Nat × Nat) (hC : C = (xs.map B8).toArray) : BR (w.alloc (.cells C t fr)) (w.heap.size + 1) (some ⟨w.heap.size, 0, none⟩) xs := by
  intro _
  refine ⟨_, rfl, Nat.lt_succ_self _, fun k u hu => ?_⟩
  have e : (⟨w.heap.size, 0, none⟩ : Addr).add k = ⟨w.heap.size, k, none⟩ := by unfold Addr.add; split <;> simp_all
  have hb : (w.alloc (.cells C t fr)).heap[w.heap.size]? = some (.cells C t fr) := heap_alloc_new w _
  rw [e, cell_of_row _ _ _ _ _ _ hb, hC]
  simp [hu]
theorem BR.alloc {w : World} {B : Nat} {A : Option Addr} {xs : List UInt8} (h : BR w B A xs) (hB : B ≤ w.heap.size) (o : Obj) : BR (w.alloc o) B A xs :=
  h.keep fun p hp => World.cell?_alloc_lt w o p (by omega)
theorem BR.new2 (w : World) (o : Obj) (xs : List UInt8) (C : Array Value) (t : TypeId) (fr : Nat × Nat) (hC : C = (xs.map B8).toArray) :
    BR ((w.alloc o).alloc (.cells C t fr)) (w.heap.size + 2) (some ⟨w.heap.size + 1, 0, none⟩) xs := by
  have h := BR.new (w.alloc o) xs C t fr hC
  rwa [World.size_alloc] at h
end Go.Proofs.YtajagjhhpciocaaDoor
