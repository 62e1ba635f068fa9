/-
  WkFold
-/
import Derived.Test.YtacghpabjmnfiaaGreatDoorGTr
import Derived.Test.YtacghpabjmnfiaaGreatDoorGNd
namespace Go.Proofs.YtacghpabjmnfiaaGreatDoor
open Go.RowKit

/-- One page more. -/
def stepPg (N i : Nat) (s : List Int × List Nat) (e : EN) : Option (List Int × List Nat) := (addS N s.2 e.1.2).map fun l => (s.1.set (i * 32 + e.1.1) e.1.2, l)
def foldPg (N i : Nat) (s : List Int × List Nat) (es : List EN) : Option (List Int × List Nat) := es.foldl (fun o e => o.bind fun q => stepPg N i q e) (some s)
theorem foldPg_snoc (N i : Nat) (s : List Int × List Nat) (es : List EN) (e : EN) : foldPg N i s (es ++ [e]) = (foldPg N i s es).bind fun q => stepPg N i q e := by simp [foldPg]
theorem goPg_fold (N i : Nat) (zs : List Int) (hl : zs.length = 32) (s : List Int × List Nat) : ∀ k, k ≤ 32 → ((foldPg N i s (entsK zs k)).bind fun q => goPg N i (zs.drop k) k q) = goPg N i zs 0 s
  | 0, _ => rfl
  | k + 1, hk => by
    rw [← goPg_fold N i zs hl s k (by omega)]
    by_cases hz : zs.getD k 0 = 0
    · rw [entsK_no zs k hz]
      congr 1
      funext q
      exact (goPg_skip (by omega) hz).symm
    · rw [entsK_yes zs k ⟨by omega, hz⟩, foldPg_snoc, Option.bind_assoc]
      congr 1
      funext q
      unfold stepPg
      cases ha : addS N q.2 (zs.getD k 0) with
      | none => rw [goPg_none (by omega) hz ha]; rfl
      | some l => rw [goPg_some (by omega) hz ha]; rfl
theorem goPg_all32 (N i : Nat) (zs : List Int) (hl : zs.length = 32) (s : List Int × List Nat) : foldPg N i s (entsK zs 32) = goPg N i zs 0 s := by
  rw [← goPg_fold N i zs hl s 32 (Nat.le_refl _), List.drop_of_length_le (by omega)]
  cases foldPg N i s (entsK zs 32) <;> rfl

/-- One leaf more, with its pages. -/
def stepLf (N : Nat) (nd : Nat → List Int) (s : List Int × List Int × List Nat) (e : EN) : Option (List Int × List Int × List Nat) :=
  if 4 ≤ e.1.1 then none else (addS N s.2.2 e.1.2).bind fun l => (goPg N e.1.1 (nd e.1.2.toNat) 0 (s.2.1, l)).map fun q => (s.1.set e.1.1 e.1.2, q.1, q.2)
def foldLf (N : Nat) (nd : Nat → List Int) (s : List Int × List Int × List Nat) (es : List EN) : Option (List Int × List Int × List Nat) := es.foldl (fun o e => o.bind fun q => stepLf N nd q e) (some s)
theorem foldLf_snoc (N : Nat) (nd : Nat → List Int) (s : List Int × List Int × List Nat) (es : List EN) (e : EN) : foldLf N nd s (es ++ [e]) = (foldLf N nd s es).bind fun q => stepLf N nd q e := by simp [foldLf]
theorem goLf_fold (N : Nat) (nd : Nat → List Int) (zs : List Int) (hl : zs.length = 32) (s : List Int × List Int × List Nat) : ∀ k, k ≤ 32 → ((foldLf N nd s (entsK zs k)).bind fun q => goLf N nd (zs.drop k) k q) = goLf N nd zs 0 s
  | 0, _ => rfl
  | k + 1, hk => by
    rw [← goLf_fold N nd zs hl s k (by omega)]
    by_cases hz : zs.getD k 0 = 0
    · rw [entsK_no zs k hz]
      congr 1
      funext q
      exact (goLf_skip (by omega) hz).symm
    · rw [entsK_yes zs k ⟨by omega, hz⟩, foldLf_snoc, Option.bind_assoc]
      congr 1
      funext q
      by_cases h4 : 4 ≤ k
      · rw [goLf_far (by omega) hz h4]
        unfold stepLf
        rw [if_pos h4]
        rfl
      · unfold stepLf
        rw [if_neg h4]
        cases ha : addS N q.2.2 (zs.getD k 0) with
        | none => rw [goLf_none (by omega) hz h4 ha]; rfl
        | some l =>
          rw [goLf_some (by omega) hz h4 ha, Option.bind_some]
          cases goPg N k (nd (zs.getD k 0).toNat) 0 (q.2.1, l) <;> rfl
theorem goLf_all32 (N : Nat) (nd : Nat → List Int) (zs : List Int) (hl : zs.length = 32) (s : List Int × List Int × List Nat) : foldLf N nd s (entsK zs 32) = goLf N nd zs 0 s := by
  rw [← goLf_fold N nd zs hl s 32 (Nat.le_refl _), List.drop_of_length_le (by omega)]
  cases foldLf N nd s (entsK zs 32) <;> rfl

/-- What comes ahead of some is some. -/
theorem foldPg_pre {N i : Nat} {s : List Int × List Nat} {a b : List EN} (h : (foldPg N i s (a ++ b)).isSome) : (foldPg N i s a).isSome := by
  unfold foldPg at h ⊢
  rw [List.foldl_append] at h
  cases e : a.foldl (fun o e => o.bind fun q => stepPg N i q e) (some s) with
  | some q => rfl
  | none =>
    rw [e] at h
    have : ∀ b : List EN, b.foldl (fun o e => o.bind fun q => stepPg N i q e) none = none := fun b => by
      induction b with
      | nil => rfl
      | cons x r ih => rw [List.foldl_cons]; exact ih
    rw [this] at h
    cases h
theorem foldLf_pre {N : Nat} {nd : Nat → List Int} {s : List Int × List Int × List Nat} {a b : List EN} (h : (foldLf N nd s (a ++ b)).isSome) : (foldLf N nd s a).isSome := by
  unfold foldLf at h ⊢
  rw [List.foldl_append] at h
  cases e : a.foldl (fun o e => o.bind fun q => stepLf N nd q e) (some s) with
  | some q => rfl
  | none =>
    rw [e] at h
    have : ∀ b : List EN, b.foldl (fun o e => o.bind fun q => stepLf N nd q e) none = none := fun b => by
      induction b with
      | nil => rfl
      | cons x r ih => rw [List.foldl_cons]; exact ih
    rw [this] at h
    cases h
end Go.Proofs.YtacghpabjmnfiaaGreatDoor
