/-
  ExBlocks
-/
import Derived.Test.YthbkjndnconakaaExRef
import Derived.WalkSmall
namespace Go.Proofs.Ythbkjndnconakaa.Ex
open Go.RowKit

/-- Which end is asked at place k. -/
def prevE (l : List EX) (k : Nat) : Int := if k = 0 then 0 else (l.getD (k - 1) (0, 0)).1 + (l.getD (k - 1) (0, 0)).2
theorem prevE_succ {l : List EX} {k : Nat} (h : k < l.length) : prevE l (k + 1) = l[k].1 + l[k].2 := by
  simp [prevE, List.getD_eq_getElem?_getD, h]
theorem take_step {x : EX} {j : Nat} (h : j < (exB x).length) : (exB x).take (j + 1) = (exB x).take j ++ [x.1.toNat + j] := by
  rw [List.take_succ_eq_append_getElem h, exB_at]
theorem take_new {x : EX} {j : Nat} : x.1.toNat + j ∉ (exB x).take j := by
  intro h
  obtain ⟨i, hi, e⟩ := List.getElem_of_mem h
  rw [List.getElem_take, exB_at] at e
  rw [List.length_take] at hi
  omega
def BlocksOut (w : World) (l : List EX) (e : Ending) (w' : World) : Prop := ∃ R cap, e = .returned (.tuple #[.slice R (blkO l).length cap, .bool (ok l)]) ∧ OwnI w' w.heap.size R cap (blkO l) ∧ Below w.heap.size w w'
theorem BlocksOut.no {w w' : World} {l : List EX} (h : ok l = false) (hb : Below w.heap.size w w') : BlocksOut w l (.returned (.tuple #[.slice none 0 0, .bool false])) w' := by
  refine ⟨none, 0, ?_, ?_, hb⟩
  · rw [blkO_no h, h]; rfl
  · rw [blkO_no h]; exact World.ownsRow_nil _ _ _ _

end Go.Proofs.Ythbkjndnconakaa.Ex
