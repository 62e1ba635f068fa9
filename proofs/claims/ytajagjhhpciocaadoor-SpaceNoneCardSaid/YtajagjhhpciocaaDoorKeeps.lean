/-
  What is kept where a call writes some blocks of its own. No function of the program is named here.
-/
import Derived.Test.YtajagjhhpciocaaDoorBase
namespace Go.Proofs.YtajagjhhpciocaaDoor
open Go.RowKit

/-- What is kept: all blocks but those of F, and new ones. -/
structure Keeps (F : Nat → Prop) (w w' : World) : Prop where
  os : w'.os = w.os
  tape : w'.tape = w.tape
  output : w'.output = w.output
  size : w.heap.size ≤ w'.heap.size
  block : ∀ k, k < w.heap.size → ¬ F k → w'.heap[k]? = w.heap[k]?
theorem Keeps.refl (F : Nat → Prop) (w : World) : Keeps F w w := ⟨rfl, rfl, rfl, Nat.le_refl _, fun _ _ _ => rfl⟩
theorem Keeps.trans {F : Nat → Prop} {a b c : World} (h : Keeps F a b) (k : Keeps F b c) : Keeps F a c :=
  ⟨k.os.trans h.os, k.tape.trans h.tape, k.output.trans h.output, Nat.le_trans h.size k.size, fun i hi hF => (k.block i (Nat.lt_of_lt_of_le hi h.size) hF).trans (h.block i hi hF)⟩
theorem Keeps.mono {F G : Nat → Prop} {w w' : World} (h : Keeps F w w') (hF : ∀ k, k < w.heap.size → F k → G k) : Keeps G w w' := ⟨h.os, h.tape, h.output, h.size, fun k hk hG => h.block k hk fun hf => hG (hF k hk hf)⟩
theorem Keeps.grown {w w' : World} {row : Option Nat} (F : Nat → Prop) (hg : w.grownBy w' row) (hr : ∀ k, row = some k → F k) : Keeps F w w' := ⟨hg.os, hg.tape, hg.output, hg.size, fun k hk hF => hg.block k hk fun e => hF (hr k e.symm)⟩
theorem Keeps.alloc (F : Nat → Prop) (w : World) (o : Obj) : Keeps F w (w.alloc o) := ⟨rfl, rfl, rfl, by simp, fun k hk _ => Below.heap_alloc w o k hk⟩
theorem Keeps.drew (F : Nat → Prop) (w : World) : Keeps F w w.drew := ⟨rfl, rfl, rfl, Nat.le_refl _, fun _ _ _ => rfl⟩
theorem Keeps.setCell (F : Nat → Prop) (w : World) (a : Addr) (v : Value) (h : F a.block) : Keeps F w (w.setCell a v) := ⟨rfl, rfl, rfl, by simp [World.setCell], fun k _ hF => Below.heap_setCell _ _ _ _ fun e => hF (by rw [e]; exact h)⟩
theorem Keeps.below {B : Nat} {w w' : World} (h : Below B w w') (F : Nat → Prop) (hF : ∀ k, k < w.heap.size → B ≤ k → F k) : Keeps F w w' := ⟨h.os, h.tape, h.output, h.size, fun k hk hn => h.block k (Nat.lt_of_not_le fun hb => hn (hF k hk hb))⟩
theorem Keeps.toBelow {F : Nat → Prop} {w w' : World} (h : Keeps F w w') (B : Nat) (hB : B ≤ w.heap.size) (hF : ∀ k, F k → B ≤ k) : Below B w w' := ⟨h.os, h.tape, h.output, h.size, fun k hk => h.block k (by omega) fun hf => by have := hF k hf; omega⟩
theorem Keeps.cell {F : Nat → Prop} {w w' : World} (h : Keeps F w w') (b o : Nat) (hb : b < w.heap.size) (hF : ¬ F b) : w'.cell? ⟨b, o, none⟩ = w.cell? ⟨b, o, none⟩ := World.cell?_of_block (w := w) (w' := w') (a := ⟨b, o, none⟩) (h.block b hb hF)
theorem Keeps.fz {F : Nat → Prop} {w w' : World} (h : Keeps F w w') (b o : Nat) (hb : b < w.heap.size) (hF : ¬ F b) : w'.frozen? ⟨b, o, none⟩ = w.frozen? ⟨b, o, none⟩ := World.frozen?_of_block (w := w) (w' := w') (a := ⟨b, o, none⟩) (h.block b hb hF)
/-- A slice's bytes, where others are written. -/
theorem Keeps.br {F : Nat → Prop} {w w' : World} (h : Keeps F w w') {A : Option Addr} {xs : List UInt8} (hx : BR w w.heap.size A xs) (ha : ∀ ad, A = some ad → xs ≠ [] → ¬ F ad.block) : BR w' w'.heap.size A xs := by
  intro hn
  obtain ⟨ad, e, hb, hc⟩ := hx hn
  refine ⟨ad, e, Nat.lt_of_lt_of_le hb h.size, fun k u hu => ?_⟩
  rw [World.cell?_of_block (w := w) (by rw [block_add]; exact h.block _ hb (ha ad e hn))]
  exact hc k u hu
end Go.Proofs.YtajagjhhpciocaaDoor
