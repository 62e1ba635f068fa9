/-
  TrKeep
-/
import Derived.Test.YtacghpabjmnfiaaGreatDoorShLays
import Derived.Test.YtacghpabjmnfiaaGreatDoorShRebV
import Derived.Test.YtacghpabjmnfiaaGreatDoorGDk
import Derived.Test.YtacghpabjmnfiaaGreatDoorGRd
import Derived.Test.YtacghpabjmnfiaaGreatDoorShHeld
namespace Go.Proofs.YtacghpabjmnfiaaGreatDoor
open Go.RowKit

/-! ### a crash -/

theorem layTo_sec {f : Fate} {L : List UInt8} {Q : List (Nat × List UInt8)} {n : Nat} (hQ : ∀ q ∈ Q, q.1 * 64 + 64 ≤ L.length ∧ q.2.length = 64) (hn : ∀ q ∈ Q, q.1 ≠ n) : ∀ k, k ≤ Q.length → sec (layTo f L Q k) n = sec L n
  | 0, _ => rfl
  | k + 1, hk => by
    have ih := layTo_sec (f := f) hQ hn k (by omega)
    have h := hQ _ (List.getElem_mem (show k < Q.length by omega))
    have hne := hn _ (List.getElem_mem (show k < Q.length by omega))
    have hl := layTo_len f L Q hQ k (by omega)
    rw [layTo_succ _ _ _ _ (by omega)]
    unfold layOne
    split
    · rw [sec_splice _ _ _ _ (by rw [mixL_len, h.2]) (by rw [hl]; exact h.1), if_neg hne]
      exact ih
    · split
      · rw [sec_splice _ _ _ _ h.2 (by rw [hl]; exact h.1), if_neg hne]
        exact ih
      · exact ih
theorem lastW_none {Q : List (Nat × List UInt8)} {n : Nat} (hn : ∀ q ∈ Q, q.1 ≠ n) : lastW Q n = none := by
  cases e : lastW Q n with
  | none => rfl
  | some b => exact absurd rfl (hn _ (lastW_mem e))
theorem restart_now {D : DSt} {n : Nat} (h : D.Ok n) (f : Fate) {k : Nat} (hk : ∀ q ∈ D.Q, q.1 ≠ k) : (D.restart f).now k = sec D.L k := by
  have h1 : ∀ q ∈ D.Q, q.1 * 64 + 64 ≤ D.L.length ∧ q.2.length = 64 := fun q hq => ⟨by have := (h.q q hq).1; rw [h.len]; omega, (h.q q hq).2⟩
  exact layTo_sec h1 hk _ (Nat.le_refl _)
theorem now_quiet {D : DSt} {k : Nat} (hk : ∀ q ∈ D.Q, q.1 ≠ k) : D.now k = sec D.L k := by
  unfold DSt.now
  rw [lastW_none hk]
  rfl

/-! ### what Build lays -/

theorem layL_inv {σ V : Type} [DecidableEq V] {nxt : σ → List UInt8 → Nat × σ} {I : σ → Prop} (hI : ∀ s xs, I s → I (nxt s xs).2) (bare : V) (by_ : V → List UInt8) (f : Nat → Option V) : ∀ (l : List Nat) (st : σ × (Nat → Option Int)), I st.1 → I (l.foldl (layStep nxt bare by_ f) st).1
  | [], _, h => h
  | k :: l, st, h => by
    rw [List.foldl_cons]
    refine layL_inv hI bare by_ f l _ ?_
    unfold layStep
    split
    · exact h
    · exact hI _ _ h
theorem rebV_inv {σ : Type} {nxt : σ → List UInt8 → Nat × σ} {I : σ → Prop} (hI : ∀ s xs, I s → I (nxt s xs).2) (D : DSt) (top : Nat) (E : Int) (l : List ChV) (s : σ) (h : I s) : I (rebV nxt D top E l s).2.2 := by
  unfold rebV
  split
  · split
    · split
      · exact h
      · exact layL_inv hI _ _ _ _ _ (layL_inv hI _ _ _ _ _ (layL_inv hI _ _ _ _ _ h))
    · exact h
  · exact h

/-- While Build lays: the lasting bytes are as they were; what waits is for sectors that nobody held; what was held is. -/
def LayI (L0 : List UInt8) (cs0 : List Nat) (s : BSt) : Prop :=
  s.D.L = L0 ∧ (∀ q ∈ s.D.Q, q.1 = 0 ∨ cs0.getD q.1 0 = 0) ∧ ∀ k, 0 < cs0.getD k 0 → 0 < s.cs.getD k 0
theorem spent_same (D : DSt) : D.spent.L = D.L ∧ D.spent.Q = D.Q := by unfold DSt.spent; split <;> exact ⟨rfl, rfl⟩
theorem LayI.next {L0 : List UInt8} {cs0 : List Nat} (s : BSt) (xs : List UInt8) (h : LayI L0 cs0 s) : LayI L0 cs0 (bnxt s xs).2 := by
  obtain ⟨h1, h2, h3⟩ := h
  refine ⟨(spent_same s.D).1.trans h1, fun q hq => ?_, fun k hk => ?_⟩
  · rcases List.mem_append.1 hq with hq | hq
    · exact h2 q hq
    · obtain rfl := List.mem_singleton.1 hq
      show Sp.takeN s.cs = 0 ∨ cs0.getD (Sp.takeN s.cs) 0 = 0
      unfold Sp.takeN
      split
      · exact .inl rfl
      · rename_i hf
        have hfr := Sp.fr_iff.1 (Sp.lo_spec hf).1
        refine .inr (Classical.byContradiction fun hn => ?_)
        have := h3 (Sp.lo s.cs) (by omega)
        omega
  · have h := h3 k hk
    show 0 < (Sp.takeC s.cs).getD k 0
    unfold Sp.takeC
    split
    · exact h
    · rename_i hf
      have hfr := Sp.fr_iff.1 (Sp.lo_spec hf).1
      by_cases e : k = Sp.lo s.cs
      · subst e
        omega
      · rw [List.getD_eq_getElem?_getD, List.getElem?_set_ne (fun h => e h.symm), ← List.getD_eq_getElem?_getD]
        exact h
theorem build_keeps {D : DSt} {cs : List Nat} {K : Nat} (hQ : D.Q = []) (t : Nat) (E : Int) (l : List ChV) : LayI D.L cs (rebV bnxt D t E l ⟨D, cs, K⟩).2.2 :=
  rebV_inv (I := LayI D.L cs) (fun s xs h => h.next s xs) D t E l _ ⟨rfl, (fun q hq => by (have hq2 : q ∈ D.Q := hq); rw [hQ] at hq2; cases hq2), fun _ h => h⟩

/-! ### what is held -/

theorem holdC_ge (cs : List Nat) (n : Int) (k : Nat) (h : 0 < cs.getD k 0) : 0 < (Sp.holdC cs n).getD k 0 := by
  unfold Sp.holdC
  split
  · by_cases e : k = n.toNat
    · subst e
      rw [List.getD_eq_getElem?_getD, List.getElem?_set_self (by
        refine Nat.lt_of_not_le fun hn => ?_
        rw [List.getD_eq_getElem?_getD, List.getElem?_eq_none hn] at h
        exact absurd h (by simp))]
      simp
    · rw [List.getD_eq_getElem?_getD, List.getElem?_set_ne (fun h => e h.symm), ← List.getD_eq_getElem?_getD]
      exact h
  · exact h
theorem foldl_ge : ∀ (zs : List Int) (cs : List Nat) (k : Nat), 0 < cs.getD k 0 → 0 < (zs.foldl Sp.holdC cs).getD k 0
  | [], _, _, h => h
  | z :: zs, cs, k, h => foldl_ge zs _ k (holdC_ge cs z k h)
theorem foldl_in (x : Int) (h2 : 2 ≤ x) : ∀ (zs : List Int) (cs : List Nat), x ∈ zs → x < (cs.length : Int) → 0 < (zs.foldl Sp.holdC cs).getD x.toNat 0
  | z :: zs, cs, hx, hl => by
    rcases List.mem_cons.1 hx with rfl | hx
    · refine foldl_ge zs _ _ ?_
      unfold Sp.holdC
      rw [if_pos (by simp [Sp.hasB]; omega)]
      rw [List.getD_eq_getElem?_getD, List.getElem?_set_self (by omega)]
      simp
    · exact foldl_in x h2 zs _ hx (by rw [Sp.len_hold]; exact hl)
theorem held_in {N : Nat} {zs : List Int} {x : Int} (hx : x ∈ zs) (h2 : 2 ≤ x) (hN : x < (N : Int)) : 0 < (heldC N zs).getD x.toNat 0 :=
  foldl_in x h2 zs _ hx (by rw [List.length_replicate]; exact hN)
end Go.Proofs.YtacghpabjmnfiaaGreatDoor
