/-
  Merged by wip/tools/merge.py: TrRun TrMem TrSame
-/
import Derived.Test.YtebecpjecchfoaaGreatDoorGTr
import Derived.Test.YtebecpjecchfoaaGreatDoorGNd
namespace Go.Proofs.YtebecpjecchfoaaGreatDoor
open Go.RowKit

end Go.Proofs.YtebecpjecchfoaaGreatDoor
namespace Go.Proofs.YtebecpjecchfoaaGreatDoor
open Go.RowKit

theorem Tryz.size128 : (Tryz.prog.info? 72).map (·.size) = some 128 := by kernel_rfl
theorem TrAt.pages {w : World} {b : Nat} {top : Int} {lv pg : List Int} {v : Value} (h : TrAt w b top lv pg v) : (Instr.loadAt 72 (.pointer (some ⟨b, 5, none⟩))).run Tryz.prog w = .ok (.agg (pg.map I6).toArray) w :=
  run_loadAt_mid w b 5 72 (pg.map I6) _ (fun j u hu => by
    obtain ⟨hj, rfl⟩ := List.getElem?_eq_some_iff.1 hu
    rw [List.length_map, h.pgl] at hj
    rw [h.page hj, List.getElem_map]
    have := h.pgl
    simp [List.getD, show j < pg.length by omega]) Tryz.underlying72 rfl (by rw [Tryz.size128, List.length_map, h.pgl])
end Go.Proofs.YtebecpjecchfoaaGreatDoor
namespace Go.Proofs.YtebecpjecchfoaaGreatDoor
open Go.RowKit

/-- An entry: nothing, or a sector that is reached. -/
def EntIn (N : Nat) (l : List Nat) (x : Int) : Prop := x = 0 ∨ (2 ≤ x ∧ x < (N : Int) ∧ x.toNat ∈ l)
theorem EntIn.mono {N : Nat} {l l' : List Nat} {x : Int} (h : EntIn N l x) (hs : ∀ k ∈ l, k ∈ l') : EntIn N l' x := h.imp id fun ⟨a, b, c⟩ => ⟨a, b, hs _ c⟩

end Go.Proofs.YtebecpjecchfoaaGreatDoor
