/-
  TrKeep
-/
import Derived.Test.YtebecpjecchfoaaGreatDoorShLays
import Derived.Test.YtebecpjecchfoaaGreatDoorShRebV
import Derived.Test.YtebecpjecchfoaaGreatDoorGDk
import Derived.Test.YtebecpjecchfoaaGreatDoorGRd
import Derived.Test.YtebecpjecchfoaaGreatDoorShHeld
namespace Go.Proofs.YtebecpjecchfoaaGreatDoor
open Go.RowKit

/-! ### a crash -/

/-! ### what Build lays -/

/-- While Build lays: the lasting bytes are as they were; what waits is for sectors that nobody held; what was held is. -/
def LayI (L0 : List UInt8) (cs0 : List Nat) (s : BSt) : Prop :=
  s.D.L = L0 ∧ (∀ q ∈ s.D.Q, q.1 = 0 ∨ cs0.getD q.1 0 = 0) ∧ ∀ k, 0 < cs0.getD k 0 → 0 < s.cs.getD k 0
theorem spent_same (D : DSt) : D.spent.L = D.L ∧ D.spent.Q = D.Q := by unfold DSt.spent; split <;> exact ⟨rfl, rfl⟩
theorem LayI.next {L0 : List UInt8} {cs0 : List Nat} (s : BSt) (xs : List UInt8) (h : LayI L0 cs0 s) : LayI L0 cs0 (bnxt s xs).2 := by
  obtain ⟨h1, h2, h3⟩ := h
  refine ⟨(spent_same s.D).1.trans h1, fun q hq => ?_, fun k hk => ?_⟩
  · rcases List.mem_append.1 hq with hq | hq
    · exact h2 q hq
    · obtain rfl := List.mem_singleton.1 hq
      show Sp.takeN s.cs = 0 ∨ cs0.getD (Sp.takeN s.cs) 0 = 0
      unfold Sp.takeN
      split
      · exact .inl rfl
      · rename_i hf
        have hfr := Sp.fr_iff.1 (Sp.lo_spec hf).1
        refine .inr (Classical.byContradiction fun hn => ?_)
        have := h3 (Sp.lo s.cs) (by omega)
        omega
  · have h := h3 k hk
    show 0 < (Sp.takeC s.cs).getD k 0
    unfold Sp.takeC
    split
    · exact h
    · rename_i hf
      have hfr := Sp.fr_iff.1 (Sp.lo_spec hf).1
      by_cases e : k = Sp.lo s.cs
      · subst e
        omega
      · rw [List.getD_eq_getElem?_getD, List.getElem?_set_ne (fun h => e h.symm), ← List.getD_eq_getElem?_getD]
        exact h
/-! ### what is held -/

end Go.Proofs.YtebecpjecchfoaaGreatDoor
