/-
  TrOld
-/
import Derived.Test.YtacghpabjmnfiaaGreatDoorTrKeep
import Derived.Test.YtacghpabjmnfiaaGreatDoorGTm
import Derived.Test.YtacghpabjmnfiaaGreatDoorDkOfL
namespace Go.Proofs.YtacghpabjmnfiaaGreatDoor
open Go.RowKit

theorem addS_rng {N : Nat} {l l' : List Nat} {x : Int} (h : addS N l x = some l') (hl : ∀ k ∈ l, 2 ≤ k ∧ k < N) : ∀ k ∈ l', 2 ≤ k ∧ k < N := by
  obtain ⟨h1, h2, rfl⟩ := addS_some h
  intro k hk
  rcases List.mem_append.1 hk with hk | hk
  · exact hl k hk
  · obtain rfl := List.mem_singleton.1 hk
    omega
theorem goPg_rng (N i : Nat) : ∀ (xs : List Int) (k : Nat) (s q : List Int × List Nat), goPg N i xs k s = some q → (∀ k ∈ s.2, 2 ≤ k ∧ k < N) → ∀ k ∈ q.2, 2 ≤ k ∧ k < N
  | [], _, s, q, h, hl => by
    injection h with h
    subst h
    exact hl
  | x :: xs, k, s, q, h, hl => by
    unfold goPg at h
    split at h
    · exact goPg_rng N i xs _ s q h hl
    · rw [Option.bind_eq_some_iff] at h
      obtain ⟨l, ha, h⟩ := h
      exact goPg_rng N i xs _ _ q h (addS_rng ha hl)
theorem goLf_rng (N : Nat) (nd : Nat → List Int) : ∀ (xs : List Int) (i : Nat) (s q : List Int × List Int × List Nat), goLf N nd xs i s = some q → (∀ k ∈ s.2.2, 2 ≤ k ∧ k < N) → ∀ k ∈ q.2.2, 2 ≤ k ∧ k < N
  | [], _, s, q, h, hl => by
    injection h with h
    subst h
    exact hl
  | x :: xs, i, s, q, h, hl => by
    unfold goLf at h
    split at h
    · exact goLf_rng N nd xs _ s q h hl
    · split at h
      · cases h
      · rw [Option.bind_eq_some_iff] at h
        obtain ⟨l, ha, h⟩ := h
        rw [Option.bind_eq_some_iff] at h
        obtain ⟨r, hr, h⟩ := h
        exact goLf_rng N nd xs _ _ q h (goPg_rng N i _ _ _ r hr (addS_rng ha hl))
theorem readT_rng {D : DSt} {N : Nat} {top : Int} {lv pg : List Int} {l : List Nat} (h : readT D N top = some (lv, pg, l)) : ∀ k ∈ l, 2 ≤ k ∧ k < N := by
  unfold readT at h
  split at h
  · injection h with h
    injection h with e1 h
    injection h with e2 e3
    subst e3
    intro k hk
    cases hk
  · rw [Option.bind_eq_some_iff] at h
    obtain ⟨l1, ha, h⟩ := h
    exact goLf_rng N _ _ _ _ _ h (addS_rng ha (fun k hk => by cases hk))

theorem padded_full {L : List UInt8} {n : Nat} (h : L.length = 64 * n) : padded L = L ∧ nBytes L.length = n := by
  have e : nBytes L.length = n := by unfold nBytes; omega
  refine ⟨?_, e⟩
  have h1 := padded_len L
  rw [e, ← h] at h1
  exact (List.IsPrefix.eq_of_length (show L <+: padded L from List.prefix_append _ _) h1.symm).symm
theorem ofD_full {L : List UInt8} {n : Nat} (h : L.length = 64 * n) (hn : n ≤ 2000) : ofD (L.take 128000) = { fresh n with L := L } := by
  rw [List.take_of_length_le (by omega)]
  unfold ofD
  rw [(padded_full h).1, (padded_full h).2]

theorem old_same {D : DSt} {n : Nat} (hD : D.Ok n) (hQ : D.Q = []) (hd : D.down = false) {cs : List Nat} {s : BSt} (hs : LayI D.L cs s) (hs2 : s.D.Ok n) (f : Fate) {top : Int} {lv pg : List Int} {l : List Nat}
    (h : readT D n top = some (lv, pg, l)) (hpg : pg.length = 128) (hl : ∀ k ∈ l, 0 < cs.getD k 0) :
    (s.D.restart f).L.length = 64 * n ∧ readT (ofD ((s.D.restart f).L.take 128000)) n top = some (lv, pg, l) ∧ memTo (ofD ((s.D.restart f).L.take 128000)) pg 128 = memTo D pg 128 := by
  obtain ⟨e1, e2, _⟩ := hs
  have hn := hD.n_le
  have hlen : (s.D.restart f).L.length = 64 * n := by
    have h1 : ∀ q ∈ s.D.Q, q.1 * 64 + 64 ≤ s.D.L.length ∧ q.2.length = 64 := fun q hq => ⟨by have := (hs2.q q hq).1; rw [hs2.len]; omega, (hs2.q q hq).2⟩
    exact (layTo_len f _ _ h1 _ (Nat.le_refl _)).trans hs2.len
  have hrng := readT_rng h
  have hno : ∀ k ∈ l, ∀ q ∈ s.D.Q, q.1 ≠ k := fun k hk q hq e => by
    have h1 := hrng k hk
    have h2 := hl k hk
    rcases e2 q hq with h3 | h3
    · omega
    · rw [e] at h3
      omega
  have hnow : ∀ k ∈ l, (ofD ((s.D.restart f).L.take 128000)).now k = D.now k := fun k hk => by
    rw [ofD_full hlen hn, now_quiet (D := D) (by rw [hQ]; intro q hq; cases hq)]
    have h1 := restart_now hs2 f (hno k hk)
    rw [e1] at h1
    rw [← h1]
    rfl
  have hok : (ofD ((s.D.restart f).L.take 128000)).Ok n := by
    rw [ofD_full hlen hn]
    exact ⟨hlen, hn, fun q hq => (by cases hq), by simp [fresh], by simp [fresh]⟩
  have hdn : (ofD ((s.D.restart f).L.take 128000)).down = false := by rw [ofD_full hlen hn]; rfl
  refine ⟨hlen, readT_same h hnow, ?_⟩
  exact memTo_same hD hok hd hdn (readT_in h).2.1 hnow 128 (by omega)
end Go.Proofs.YtacghpabjmnfiaaGreatDoor
