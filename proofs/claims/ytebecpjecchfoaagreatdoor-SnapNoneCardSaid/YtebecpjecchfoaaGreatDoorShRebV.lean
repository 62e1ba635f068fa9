/-
  ShRebV
-/
import Derived.Test.YtebecpjecchfoaaGreatDoorGShP
import Derived.Test.YtebecpjecchfoaaGreatDoorShCatch
import Derived.Test.YtebecpjecchfoaaGreatDoorGShI
namespace Go.Proofs.YtebecpjecchfoaaGreatDoor
open Go.RowKit Go.Maps

/-- Top, error, state. -/
def rebV {σ : Type} (nxt : σ → List UInt8 → Nat × σ) (D : DSt) (top : Nat) (E : Int) (l : List ChV) (s : σ) : Int × Int × σ :=
  if ∀ a ∈ l, a.good then
    if E = 0 then
      if keysF (latestF l) = [] then ((top : Int), 0, s)
      else (tTop nxt (nodeD D top) (leafG D (nodeD D top) (keysF (latestF l))) (latestF l) s, 0, (t3 nxt (nodeD D top) (leafG D (nodeD D top) (keysF (latestF l))) (latestF l) s).1)
    else (0, E, s)
  else (0, 1, s)

/-- The two named results. -/
def rebW (w : World) : World := (w.alloc (.cells #[.int .i64 0] 3)).alloc (.cells #[.int .i64 0] 26)
theorem rebW_size (w : World) : (rebW w).heap.size = w.heap.size + 2 := by unfold rebW; simp
theorem rebW_keeps (w : World) : Keeps (fun _ => False) w (rebW w) := (Keeps.alloc _ _ _).trans (Keeps.alloc _ _ _)
theorem rebW_0 (w : World) : (rebW w).heap[w.heap.size]? = some (.cells #[.int .i64 0] 3 (0, 0)) := by unfold rebW; rw [Below.heap_alloc _ _ _ (by simp)]; exact heap_alloc_new _ _
theorem rebW_1 (w : World) : (rebW w).heap[w.heap.size + 1]? = some (.cells #[.int .i64 0] 26 (0, 0)) := blk_at_last _ _ _ (by simp)
/-- A cell of a block of one. -/
theorem cell1 {w : World} {b : Nat} {v : Value} {t : TypeId} (h : w.heap[b]? = some (.cells #[v] t (0, 0))) : w.cell? ⟨b, 0, none⟩ = some v ∧ w.frozen? ⟨b, 0, none⟩ = false :=
  ⟨by rw [cell_of_row _ _ _ _ _ _ h]; rfl, frozen_of_row _ _ _ _ _ h⟩
theorem set1 {w : World} {b : Nat} {v : Value} {t : TypeId} (h : w.heap[b]? = some (.cells #[v] t (0, 0))) (u : Value) : (w.setCell ⟨b, 0, none⟩ u).heap[b]? = some (.cells #[u] t (0, 0)) := by
  rw [heap_setCell_same w b 0 _ _ _ h]; rfl
theorem set1_ne {w : World} {b b' : Nat} (u : Value) (h : b' ≠ b) : (w.setCell ⟨b, 0, none⟩ u).heap[b']? = w.heap[b']? := Below.heap_setCell _ _ _ _ h
theorem Keeps.setNew {w w2 : World} (k : Keeps (fun _ => False) w w2) {b : Nat} (hb : w.heap.size ≤ b) (v : Value) : Keeps (fun _ => False) w (w2.setCell ⟨b, 0, none⟩ v) :=
  ⟨k.os, k.tape, k.output, by simpa [World.setCell] using k.size, fun i hi hn => (set1_ne v (by omega)).trans (k.block i hi hn)⟩
theorem size_set (w : World) (a : Addr) (v : Value) : (w.setCell a v).heap.size = w.heap.size := by simp [World.setCell]
theorem Keeps.drewN {F : Nat → Prop} {w w2 : World} (k : Keeps F w w2) : Keeps F w w2.drew := ⟨k.os, k.tape, k.output, k.size, k.block⟩
theorem rebV_bad {σ : Type} (nxt : σ → List UInt8 → Nat × σ) (D : DSt) (top : Nat) (E : Int) {l : List ChV} (s : σ) (h : ¬ ∀ a ∈ l, a.good) : rebV nxt D top E l s = (0, 1, s) := if_neg h
theorem rebV_err {σ : Type} (nxt : σ → List UInt8 → Nat × σ) (D : DSt) (top : Nat) {E : Int} {l : List ChV} (s : σ) (h : ∀ a ∈ l, a.good) (hE : E ≠ 0) : rebV nxt D top E l s = (0, E, s) := by unfold rebV; rw [if_pos h, if_neg hE]
theorem rebV_none {σ : Type} (nxt : σ → List UInt8 → Nat × σ) (D : DSt) (top : Nat) {l : List ChV} (s : σ) (h : ∀ a ∈ l, a.good) (hk : keysF (latestF l) = []) : rebV nxt D top 0 l s = ((top : Int), 0, s) := by unfold rebV; rw [if_pos h, if_pos rfl, if_pos hk]
theorem rebV_some {σ : Type} (nxt : σ → List UInt8 → Nat × σ) (D : DSt) (top : Nat) {l : List ChV} (s : σ) (h : ∀ a ∈ l, a.good) (hk : keysF (latestF l) ≠ []) : rebV nxt D top 0 l s = (tTop nxt (nodeD D top) (leafG D (nodeD D top) (keysF (latestF l))) (latestF l) s, 0, (t3 nxt (nodeD D top) (leafG D (nodeD D top) (keysF (latestF l))) (latestF l) s).1) := by
  unfold rebV; rw [if_pos h, if_pos rfl, if_neg hk]
end Go.Proofs.YtebecpjecchfoaaGreatDoor
