/-
  ExRef
-/
import Derived.Test.YthbkjndnconakaaEx
import Derived.Test.YthbkjndnconakaaGA
namespace Go.Proofs.Ythbkjndnconakaa.Ex
open Go.RowKit

theorem okL_take : ∀ (a b : List EX) (out : List Nat) (e : Int), okL out e (a ++ b) = true → okL out e a = true
  | [], _, _, _, _ => rfl
  | x :: r, b, out, e, h => by
    obtain ⟨h1, h2, h3, h4⟩ := (okL_cons _ _ _ _).1 h
    exact (okL_cons _ _ _ _).2 ⟨h1, h2, h3, okL_take r b _ _ h4⟩
theorem ok_take {l : List EX} (h : ok l = true) (k : Nat) : ok (l.take k) = true := okL_take (l.take k) (l.drop k) [] 0 (by rw [List.take_append_drop]; exact h)
theorem ok_ins : ∀ {l : List EX}, ok l = true → ∀ x ∈ l, ins x := fun {l} => snoc_ind (M := fun l => ok l = true → ∀ x ∈ l, ins x) (fun _ _ h => by cases h) (fun q x ih h y hy => by
  obtain ⟨h1, h2, _⟩ := (ok_snoc q x).1 h
  rcases List.mem_append.1 hy with hy | hy
  · exact ih h1 y hy
  · simp at hy; subst hy; exact h2) l
theorem blk_step {l : List EX} {k : Nat} (hk : k < l.length) : blkL (l.take (k + 1)) = blkL (l.take k) ++ exB l[k] := by
  rw [List.take_succ_eq_append_getElem hk, blkL_append, blkL_one]
theorem blkO_yes {l : List EX} (h : ok l = true) : blkO l = blkL l := by simp [blkO, h]
theorem blkO_no {l : List EX} (h : ok l = false) : blkO l = [] := by simp [blkO, h]

/-- Numbers that lie somewhere, perhaps behind others. -/
def JR (w : World) (R : Option Addr) (l : List Nat) : Prop := ∀ (k x : Nat), l[k]? = some x → ∃ g o, R = some ⟨g, o, none⟩ ∧ g < w.heap.size ∧ w.cell? ⟨g, o + k, none⟩ = some (.int .i64 (x : Int))
theorem IR.jr {w : World} {R : Option Addr} {l : List Nat} (h : IR w R l) : JR w R l := fun k x hx => by
  obtain ⟨g, e, hg, hc⟩ := h k x hx
  exact ⟨g, 0, e, hg, by rw [Nat.zero_add]; exact hc⟩
theorem JR.at_ {w : World} {R : Option Addr} {l : List Nat} (h : JR w R l) {k : Nat} (hk : k < l.length) : ∃ g o, R = some ⟨g, o, none⟩ ∧ g < w.heap.size ∧ w.cell? ⟨g, o + k, none⟩ = some (.int .i64 (l[k] : Int)) := h k _ (List.getElem?_eq_getElem hk)
theorem JR.below {w w' : World} {R : Option Addr} {l : List Nat} (h : JR w R l) (hb : Below w.heap.size w w') : JR w' R l := fun k x hx => by
  obtain ⟨g, o, e, hg, hc⟩ := h k x hx
  exact ⟨g, o, e, Nat.lt_of_lt_of_le hg hb.size, (hb.cell (show (⟨g, o + k, none⟩ : Addr).block < _ from hg)).trans hc⟩
end Go.Proofs.Ythbkjndnconakaa.Ex
