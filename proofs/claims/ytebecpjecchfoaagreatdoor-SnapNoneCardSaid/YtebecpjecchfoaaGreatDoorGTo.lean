/-
  Merged by wip/tools/merge.py: TrOld TrEnt
-/
import Derived.Test.YtebecpjecchfoaaGreatDoorTrKeep
import Derived.Test.YtebecpjecchfoaaGreatDoorGTm
import Derived.Test.YtebecpjecchfoaaGreatDoorDkOfL
import Derived.Test.YtebecpjecchfoaaGreatDoorGShA
namespace Go.Proofs.YtebecpjecchfoaaGreatDoor
open Go.RowKit

end Go.Proofs.YtebecpjecchfoaaGreatDoor
namespace Go.Proofs.YtebecpjecchfoaaGreatDoor
open Go.RowKit

theorem goLf_ent (N : Nat) (nd : Nat → List Int) : ∀ (xs : List Int) (i : Nat) (s q : List Int × List Int × List Nat), goLf N nd xs i s = some q → ∀ x ∈ xs, x = 0 ∨ (2 ≤ x ∧ x < (N : Int))
  | [], _, _, _, _, x, hx => by cases hx
  | y :: xs, i, s, q, h, x, hx => by
    unfold goLf at h
    split at h
    · rename_i hy
      rcases List.mem_cons.1 hx with rfl | hx
      · exact .inl hy
      · exact goLf_ent N nd xs _ _ q h x hx
    · split at h
      · cases h
      · rw [Option.bind_eq_some_iff] at h
        obtain ⟨l, ha, h⟩ := h
        rw [Option.bind_eq_some_iff] at h
        obtain ⟨r, hr, h⟩ := h
        rcases List.mem_cons.1 hx with rfl | hx
        · exact .inr ⟨(addS_some ha).1, (addS_some ha).2.1⟩
        · exact goLf_ent N nd xs _ _ q h x hx
/-- A good tree's top: 0 or a sector; its node's entries are sectors. -/
theorem readT_top {D : DSt} {N : Nat} {top : Int} {X : List Int × List Int × List Nat} (h : readT D N top = some X) : top = ((top.toNat : Nat) : Int) ∧ (top.toNat = 0 ∨ top.toNat < N) ∧ EntOk N (nodeD D top.toNat) := by
  unfold readT at h
  split at h
  · rename_i h0
    subst h0
    refine ⟨rfl, .inl rfl, fun i hi => ⟨0, ?_, .inl rfl⟩⟩
    show z32.getD i 0 = _
    rw [List.getD_eq_getElem?_getD, z32, List.getElem?_replicate, if_pos hi]
    rfl
  · rw [Option.bind_eq_some_iff] at h
    obtain ⟨l1, ha, h⟩ := h
    obtain ⟨g1, g2, _⟩ := addS_some ha
    refine ⟨by omega, .inr (by omega), fun i hi => ?_⟩
    have hne : top.toNat ≠ 0 := by omega
    have e : nodeD D top.toNat = nodeR D top.toNat := if_neg hne
    rw [e]
    have hl := nodeR_len D top.toNat
    have hx := goLf_ent N _ _ _ _ _ h ((nodeR D top.toNat).getD i 0) (by
      rw [List.getD_eq_getElem?_getD, List.getElem?_eq_getElem (by omega)]
      exact List.getElem_mem _)
    generalize (nodeR D top.toNat).getD i 0 = x at *
    exact ⟨x.toNat, by omega, by omega⟩
end Go.Proofs.YtebecpjecchfoaaGreatDoor
