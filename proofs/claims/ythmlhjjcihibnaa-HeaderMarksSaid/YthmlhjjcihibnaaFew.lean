/-
  Few
-/
import Derived.Test.YthmlhjjcihibnaaActIn
import Derived.Test.YthmlhjjcihibnaaAwake2
import Derived.Deep.Slices
namespace Go.Proofs.Ythmlhjjcihibnaa
open Go.ChangeShapes Go.WideShapes Go.ChangeAt Go.RowKit

/-- The Acts lie at 'A' (asked only where there are any), below block B. -/
def AR (w : World) (B : Nat) (A : Option Addr) (l : List ActV) : Prop :=
  l ≠ [] → ∃ ad, A = some ad ∧ ad.block < B ∧ ∀ k a, l[k]? = some a → ∀ j v, (acells a)[j]? = some v → w.cell? ((ad.add (k * 7)).add j) = some v
theorem AR.below {w w' : World} {B : Nat} {A : Option Addr} {l : List ActV} (h : AR w B A l) (hb : Below B w w') : AR w' B A l := by
  intro hn
  obtain ⟨ad, e, hlt, hc⟩ := h hn
  exact ⟨ad, e, hlt, fun k a ha j v hv => (hb.cell (by rw [block_add, block_add]; exact hlt)).trans (hc k a ha j v hv)⟩
theorem AR.nil {w : World} {B : Nat} {A : Option Addr} : AR w B A [] := fun h => absurd rfl h
/-- Its cells, one by one, as the walk spells them. -/
theorem AR.at_ {w : World} {B : Nat} {A : Option Addr} {l : List ActV} (h : AR w B A l) {k : Nat} (hk : k < l.length) :
    ∃ ad, A = some ad ∧ ad.block < B ∧ w.cell? (ad.add (k * 7)) = some (.int .i64 l[k].do_) ∧ w.cell? ⟨(ad.add (k * 7)).block, (ad.add (k * 7)).off + 1, none⟩ = some (.int .i64 l[k].n) ∧
      w.cell? ⟨(ad.add (k * 7)).block, (ad.add (k * 7)).off + 2, none⟩ = some (.slice l[k].A l[k].xs.length l[k].c) ∧ w.cell? ⟨(ad.add (k * 7)).block, (ad.add (k * 7)).off + 3, none⟩ = some (.int .u64 l[k].f.stay) ∧
      w.cell? ⟨(ad.add (k * 7)).block, (ad.add (k * 7)).off + 4, none⟩ = some (.int .i64 l[k].f.torn) ∧ w.cell? ⟨(ad.add (k * 7)).block, (ad.add (k * 7)).off + 5, none⟩ = some (.int .i64 l[k].f.cut) ∧
      w.cell? ⟨(ad.add (k * 7)).block, (ad.add (k * 7)).off + 6, none⟩ = some (.bool l[k].f.head) := by
  obtain ⟨ad, e, hb, hc⟩ := h (by intro e; subst e; simp at hk)
  have H := hc k l[k] (List.getElem?_eq_getElem hk)
  exact ⟨ad, e, hb, H 0 _ rfl, H 1 _ rfl, H 2 _ rfl, H 3 _ rfl, H 4 _ rfl, H 5 _ rfl, H 6 _ rfl⟩

def FewOut (w : World) (e : Ending) (w' : World) : Prop := (∃ b, e = .returned (.bool b)) ∧ Below w.heap.size w w'
end Go.Proofs.Ythmlhjjcihibnaa
