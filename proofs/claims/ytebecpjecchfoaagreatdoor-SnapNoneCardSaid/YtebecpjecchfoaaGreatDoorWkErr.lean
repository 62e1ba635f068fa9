/-
  WkErr
-/
import Derived.Test.YtebecpjecchfoaaGreatDoorGWr
import Derived.Test.YtebecpjecchfoaaGreatDoorShHeld
import Derived.Test.YtebecpjecchfoaaGreatDoorShDone
import Derived.Test.YtebecpjecchfoaaGreatDoorGTo
import Derived.Test.YtebecpjecchfoaaGreatDoorGRm
namespace Go.Proofs.YtebecpjecchfoaaGreatDoor
open Go.RowKit

/-- The error of a tree. -/
def errT (X : Option (List Int × List Int × List Nat)) : Int := if X.isSome then 0 else 60
theorem reachE_any {D : DSt} (hd : D.down = false) (p lb mb n : Nat) (iv : Value) (top : Int) (h1 : -9223372036854775808 ≤ top) (h2 : top ≤ 9223372036854775807) : ReachE p lb mb n iv D top (errT (readT D D.n top)) := by
  intro w h
  refine (reach_any h hd top h1 h2).mono ?_
  rintro e w' ⟨hb, ⟨ps, R, c, hX, rfl, _⟩ | ⟨hX, rfl⟩⟩
  · obtain ⟨lv, hr⟩ := walkT_some hX
    rw [h.ok.n_eq, hr]
    exact ⟨⟨_, rfl⟩, hb⟩
  · rw [h.ok.n_eq, walkT_none.1 hX]
    exact ⟨⟨_, rfl⟩, hb⟩
theorem errT_zero {X : Option (List Int × List Int × List Nat)} (h : errT X = 0) : ∃ q, X = some q := by
  cases X with
  | none => cases h
  | some q => exact ⟨q, rfl⟩
theorem top_ok {D : DSt} {top : Int} (h : errT (readT D D.n top) = 0) : top = ((top.toNat : Nat) : Int) ∧ (top.toNat = 0 ∨ top.toNat < D.n) ∧ EntOk D.n (nodeD D top.toNat) := by
  obtain ⟨q, hq⟩ := errT_zero h
  exact readT_top hq
theorem IR.zr {w : World} {R : Option Addr} {l : List Nat} (h : IR w R l) : ZR w w.heap.size R (l.map fun (k : Nat) => (k : Int)) := by
  intro hn
  cases l with
  | nil => exact absurd rfl hn
  | cons x r =>
    obtain ⟨g, e, hlt, _⟩ := h 0 x rfl
    refine ⟨_, e, hlt, fun k u hu => ?_⟩
    rw [List.getElem?_map] at hu
    cases hk : (x :: r)[k]? with
    | none => rw [hk] at hu; cases hu
    | some y =>
      rw [hk] at hu
      cases hu
      obtain ⟨g', e', _, hc⟩ := h k y hk
      rw [e] at e'
      cases e'
      have e0 : ((⟨g, 0, none⟩ : Addr).add k) = ⟨g, k, none⟩ := by
        unfold Addr.add
        by_cases h0 : k = 0 <;> simp [h0]
      rw [e0]
      exact hc
/-! ### what is kept by addS is kept by Read -/
theorem goPg_inv {I : List Nat → Prop} {N : Nat} (hI : ∀ l x l', I l → addS N l x = some l' → I l') (i : Nat) : ∀ (xs : List Int) (k : Nat) (s q : List Int × List Nat), goPg N i xs k s = some q → I s.2 → I q.2
  | [], _, s, q, h, hl => by
    injection h with h
    subst h
    exact hl
  | x :: xs, k, s, q, h, hl => by
    unfold goPg at h
    split at h
    · exact goPg_inv hI i xs _ s q h hl
    · rw [Option.bind_eq_some_iff] at h
      obtain ⟨l, ha, h⟩ := h
      exact goPg_inv hI i xs _ _ q h (hI _ _ _ hl ha)
theorem goLf_inv {I : List Nat → Prop} {N : Nat} (hI : ∀ l x l', I l → addS N l x = some l' → I l') (nd : Nat → List Int) : ∀ (xs : List Int) (i : Nat) (s q : List Int × List Int × List Nat), goLf N nd xs i s = some q → I s.2.2 → I q.2.2
  | [], _, s, q, h, hl => by
    injection h with h
    subst h
    exact hl
  | x :: xs, i, s, q, h, hl => by
    unfold goLf at h
    split at h
    · exact goLf_inv hI nd xs _ s q h hl
    · split at h
      · cases h
      · rw [Option.bind_eq_some_iff] at h
        obtain ⟨l, ha, h⟩ := h
        rw [Option.bind_eq_some_iff] at h
        obtain ⟨r, hr, h⟩ := h
        exact goLf_inv hI nd xs _ _ q h (goPg_inv hI i _ _ _ r hr (hI _ _ _ hl ha))
theorem readT_inv {I : List Nat → Prop} {D : DSt} {N : Nat} (h0 : I []) (hI : ∀ l x l', I l → addS N l x = some l' → I l') {top : Int} {lv pg : List Int} {l : List Nat} (h : readT D N top = some (lv, pg, l)) : I l := by
  unfold readT at h
  split at h
  · injection h with h
    injection h with e1 h
    injection h with e2 e3
    subst e3
    exact h0
  · rw [Option.bind_eq_some_iff] at h
    obtain ⟨l1, ha, h⟩ := h
    exact goLf_inv hI _ _ _ _ _ h (hI _ _ _ h0 ha)
theorem readT_nd {D : DSt} {N : Nat} {top : Int} {lv pg : List Int} {l : List Nat} (h : readT D N top = some (lv, pg, l)) : l.Nodup ∧ ∀ k ∈ l, k < N :=
  readT_inv (I := fun l => l.Nodup ∧ ∀ k ∈ l, k < N) ⟨List.nodup_nil, fun k hk => by cases hk⟩ (fun l x l' hl ha => addS_len ha hl.1 hl.2) h
theorem readT_len {D : DSt} {N : Nat} {top : Int} {lv pg : List Int} {l : List Nat} (h : readT D N top = some (lv, pg, l)) : l.length ≤ N := nodup_le N l (readT_nd h).1 (readT_nd h).2

/-- A tree's list of sectors, in its own place. -/
theorem TrAt.list {w : World} {b : Nat} {top : Int} {lv pg : List Int} {v : Value} (h : TrAt w b top lv pg v) : w.cell? ⟨b, 133, none⟩ = some v := by
  rw [cell_of_row w b _ _ _ _ h.head, List.getElem?_toArray]
  unfold tcells
  have := h.lvl
  have := h.pgl
  rw [show (133 : Nat) = 132 + 1 from rfl, List.getElem?_cons_succ, List.getElem?_append_right (by simp; omega), List.getElem?_append_right (by simp; omega)]
  rw [show 132 - (lv.map I6).length - (pg.map I6).length = 0 from by simp; omega]
  rfl
end Go.Proofs.YtebecpjecchfoaaGreatDoor
