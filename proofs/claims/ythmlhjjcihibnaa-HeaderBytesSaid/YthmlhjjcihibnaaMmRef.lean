/-
  MmRef
-/
import Derived.Test.YthmlhjjcihibnaaMmNum
import Derived.Test.YthmlhjjcihibnaaGMm
import Derived.Test.YthmlhjjcihibnaaGLe
namespace Go.Proofs.Ythmlhjjcihibnaa
open Go.RowKit Go.Maps
theorem Own8.of_row {w : World} {B g : Nat} {t : TypeId} {zs : List UInt8} (h : Row8 w g t zs) (hB : B ≤ g) (hl : zs.length ≤ 1000000) : Own8 w B t (some ⟨g, 0, none⟩) zs.length zs := by
  refine ⟨by simp, Or.inr ⟨g, zs.length, (zs.map B8).toArray, rfl, hB, h.block, Nat.le_refl _, by simp [maxLen]; omega, by simp, ?_⟩⟩
  rw [Nat.mul_one]
  exact List.take_of_length_le (by simp)
theorem Own8.keeps' {w w' : World} {B g : Nat} {t : TypeId} {cap : Nat} {zs : List UInt8} (h : Own8 w B t (some ⟨g, 0, none⟩) cap zs) {F : Nat → Prop} (k : Keeps F w w') (hF : ¬ F g) : Own8 w' B t (some ⟨g, 0, none⟩) cap zs := by
  refine ⟨h.1, ?_⟩
  rcases h.2 with ⟨e, _⟩ | ⟨g', cap', cur, hv, hb, hgg, rest⟩
  · cases e
  · injection hv with e1 e2 e3
    injection e1 with e1
    injection e1 with e1
    subst e1
    exact Or.inr ⟨g, cap', cur, by rw [e3], hb, (k.block g (Array.getElem?_eq_some_iff.1 hgg).1 hF).trans hgg, rest⟩
theorem Own8.lt' {w : World} {B g : Nat} {t : TypeId} {cap : Nat} {zs : List UInt8} (h : Own8 w B t (some ⟨g, 0, none⟩) cap zs) : B ≤ g ∧ g < w.heap.size := World.ownsRow.lt h g rfl
theorem Own8.low {w : World} {B B' : Nat} {t : TypeId} {R : Option Addr} {cap : Nat} {zs : List UInt8} (h : Own8 w B t R cap zs) (hB : B' ≤ B) : Own8 w B' t R cap zs := by
  refine ⟨h.1, ?_⟩
  rcases h.2 with h0 | ⟨g, cap', cur, hv, hb, rest⟩
  · exact Or.inl h0
  · exact Or.inr ⟨g, cap', cur, hv, Nat.le_trans hB hb, rest⟩
end Go.Proofs.Ythmlhjjcihibnaa
namespace Go.Proofs.Ythmlhjjcihibnaa.Mm
open Go.RowKit Go.Maps
set_option linter.unusedVariables false

def refCells (b c d e : Nat) : Array Value := #[.slice (some ⟨b, 0, none⟩) 8192 c, .slice (some ⟨d, 0, none⟩) 8192 e, .bool false]
/-- The document's memory at block q: B now, G as it was; its blocks are from mi on. -/
structure RefH (w : World) (mi q b c d e : Nat) (B G : List UInt8) : Prop where
  q0 : mi ≤ q
  bl : B.length = 8192
  gl : G.length = 8192
  head : w.heap[q]? = some (.cells (refCells b c d e) 44 (0, 0))
  now : Own8 w mi 5 (some ⟨b, 0, none⟩) c B
  was : Own8 w mi 5 (some ⟨d, 0, none⟩) e G
  bq : b ≠ q
  dq : d ≠ q
  bd : b ≠ d
def MRefAt (w : World) (mi q : Nat) (B G : List UInt8) : Prop := ∃ b c d e, RefH w mi q b c d e B G

variable {w : World} {mi q b c d e : Nat} {B G : List UInt8}
theorem RefH.lt (h : RefH w mi q b c d e B G) : q < w.heap.size ∧ b < w.heap.size ∧ d < w.heap.size := ⟨(Array.getElem?_eq_some_iff.1 h.head).1, h.now.lt'.2, h.was.lt'.2⟩
theorem RefH.keep {w' : World} {F : Nat → Prop} (h : RefH w mi q b c d e B G) (k : Keeps F w w') (hF : ∀ i, mi ≤ i → i < w.heap.size → ¬ F i) : RefH w' mi q b c d e B G :=
  ⟨h.q0, h.bl, h.gl, (k.block q h.lt.1 (hF q h.q0 h.lt.1)).trans h.head, h.now.keeps' k (hF b h.now.lt'.1 h.lt.2.1), h.was.keeps' k (hF d h.was.lt'.1 h.lt.2.2), h.bq, h.dq, h.bd⟩
theorem MRefAt.keep {w' : World} {F : Nat → Prop} (h : MRefAt w mi q B G) (k : Keeps F w w') (hF : ∀ i, mi ≤ i → i < w.heap.size → ¬ F i) : MRefAt w' mi q B G := by
  obtain ⟨b, c, d, e, h⟩ := h
  exact ⟨b, c, d, e, h.keep k hF⟩
theorem RefH.cs (h : RefH w mi q b c d e B G) : w.cell? ⟨q, 0, none⟩ = some (.slice (some ⟨b, 0, none⟩) 8192 c) ∧ w.cell? ⟨q, 1, none⟩ = some (.slice (some ⟨d, 0, none⟩) 8192 e) ∧ w.frozen? ⟨q, 0, none⟩ = false := by
  refine ⟨?_, ?_, frozen_of_row w q _ _ _ h.head⟩ <;> rw [cell_of_row _ _ _ _ _ _ h.head] <;> rfl
theorem RefH.br (h : RefH w mi q b c d e B G) : BR w w.heap.size (some ⟨b, 0, none⟩) B := h.now.br
theorem RefH.byte (h : RefH w mi q b c d e B G) {k : Nat} (hk : k < 8192) : w.cell? ⟨b, k, none⟩ = some (B8 (B.getD k 0)) ∧ w.frozen? ⟨b, k, none⟩ = false := by
  obtain ⟨g, e, _, _, h1, h2⟩ := h.now.at_ (k := k) (by rw [h.bl]; exact hk)
  cases e
  exact ⟨h1, h2⟩
/-- One of its bytes is written. -/
theorem RefH.set_ (h : RefH w mi q b c d e B G) (k : Nat) (u : UInt8) : RefH (w.setCell ⟨b, k, none⟩ (B8 u)) mi q b c d e (B.set k u) G := by
  have kk : Keeps (fun i => i = b) w (w.setCell ⟨b, k, none⟩ (B8 u)) := Keeps.setCell _ _ _ _ rfl
  exact ⟨h.q0, by rw [List.length_set, h.bl], h.gl, (kk.block q h.lt.1 (fun e => h.bq e.symm)).trans h.head, h.now.set_ k u, h.was.keeps' kk (fun e => h.bd e.symm), h.bq, h.dq, h.bd⟩
/-- It was answered, and the memory is B. -/
def OutR (w : World) (mi q b : Nat) (B G : List UInt8) (v : Value) (e : Ending) (w' : World) : Prop := e = .returned v ∧ MRefAt w' mi q B G ∧ Keeps (fun k => k = q ∨ k = b) w w'

set_option maxRecDepth 100000 in
set_option maxHeartbeats 400000 in
theorem rget_at (h : RefH w mi q b c d e B G) (a : Int) (ha : -9223372036854775808 ≤ a) (ha' : a ≤ 9223372036854775807) :
    Calls Try.prog 34 #[.pointer (some ⟨q, 0, none⟩), .int .i64 a] w fun e w' => e = .returned (.int .i64 (cel B a)) ∧ w = w' := by
  obtain ⟨c0, c1, f0⟩ := h.cs
  have bl := h.bl
  have C := refCell_any (some ⟨b, 0, none⟩) B c a w h.br (by omega) ha ha'
  rw [bl] at C
  go_enter Try.func34, Try.ntmps34
  go_wp2_with fail
  refine C.mono ?_
  rintro e w2 ⟨rfl, rfl⟩
  go_wp2_with fail
  go_ret
  exact ⟨rfl, rfl⟩

end Go.Proofs.Ythmlhjjcihibnaa.Mm
