/-
  ShHeld
-/
import Derived.Test.YtebecpjecchfoaaGreatDoorGSp
namespace Go.Proofs.YtebecpjecchfoaaGreatDoor
open Go.RowKit

/-- Numbers that lie somewhere below B. -/
def ZR (w : World) (B : Nat) (A : Option Addr) (zs : List Int) : Prop :=
  zs ≠ [] → ∃ ad, A = some ad ∧ ad.block < B ∧ ∀ k u, zs[k]? = some u → w.cell? (ad.add k) = some (.int .i64 u)
theorem ZR.keep {w w' : World} {B : Nat} {A : Option Addr} {zs : List Int} (h : ZR w B A zs) {F : Nat → Prop} (k : Keeps F w w') (hB : B ≤ w.heap.size) (hF : ∀ b, b < B → ¬ F b) : ZR w' B A zs := by
  intro hn
  obtain ⟨ad, e, hb, hc⟩ := h hn
  exact ⟨ad, e, hb, fun i u hu => (World.cell?_of_block (w := w) (by rw [block_add]; exact k.block _ (by omega) (hF _ hb))).trans (hc i u hu)⟩
theorem ZR.at_ {w : World} {B : Nat} {A : Option Addr} {zs : List Int} (h : ZR w B A zs) {k : Nat} (hk : k < zs.length) : ∃ ad, A = some ad ∧ w.cell? (ad.add k) = some (.int .i64 zs[k]) := by
  obtain ⟨ad, e, _, hc⟩ := h (by intro e; rw [e] at hk; cases hk)
  exact ⟨ad, e, hc k _ (List.getElem?_eq_getElem hk)⟩

end Go.Proofs.YtebecpjecchfoaaGreatDoor
