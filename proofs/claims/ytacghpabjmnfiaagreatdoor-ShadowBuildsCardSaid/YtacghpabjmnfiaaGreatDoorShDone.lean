/-
  ShDone
-/
import Derived.Test.YtacghpabjmnfiaaGreatDoorGShC
import Derived.Test.YtacghpabjmnfiaaGreatDoorTrKeep
import Derived.Test.YtacghpabjmnfiaaGreatDoorGRd
namespace Go.Proofs.YtacghpabjmnfiaaGreatDoor
open Go.RowKit Go.Maps

theorem rebV_rem {σ : Type} {nxt : σ → List UInt8 → Nat × σ} {rem : σ → Nat → Prop} (hN : Nx nxt rem) (D : DSt) (t : Nat) {l : List ChV} (hg : ∀ a ∈ l, a.good) (s : σ) {r : Nat} (hr : rem s (needs D t l + r)) : rem (rebV nxt D t 0 l s).2.2 r := by
  by_cases hk : keysF (latestF l) = []
  · rw [rebV_none nxt D t s hg hk]
    unfold needs at hr
    rw [if_pos hk, Nat.zero_add] at hr
    exact hr
  · rw [rebV_some nxt D t s hg hk]
    unfold needs at hr
    rw [if_neg hk] at hr
    have hP : ∀ k x, latestF l k = some x → x.length = 64 := fun k x hx => latestF_len hg hx
    have hr2 : rem s (c1 (latestF l) + (n2 (leafG D (nodeD D t) (keysF (latestF l))) (latestF l) + (n3 (nodeD D t) (leafG D (nodeD D t) (keysF (latestF l))) (latestF l) + r))) := by
      rw [← Nat.add_assoc, ← Nat.add_assoc]
      exact hr
    have h2 := t2_rem hN hP (leafG D (nodeD D t) (keysF (latestF l))) hr2
    have h3 := c3_eq hN hP (nodeD D t) (leafG D (nodeD D t) (keysF (latestF l))) hr2
    unfold c3 at h3
    rw [← h3] at h2
    exact layL_rem nxt z32 (fun zs => encB zs 32) (oneF (t2R nxt (nodeD D t) (leafG D (nodeD D t) (keysF (latestF l))) (latestF l) s)) rem (fun k x _ _ => encB_len x 32) (fun xs => hN.down _ _ xs) [0] ((t2 nxt (leafG D (nodeD D t) (keysF (latestF l))) (latestF l) s).1, fun _ => none) r h2
theorem bnxt_nx : Nx bnxt BRem := ⟨fun s r xs _ h => h.next xs, fun s r xs h => by
  show 2 ≤ Sp.takeN s.cs
  rw [h.lo.1]
  exact h.lo.2.1⟩
theorem build_rem {D : DSt} {cs : List Nat} {K : Nat} (hok : BOk D cs K) (t : Nat) {l : List ChV} (hg : ∀ a ∈ l, a.good) (hn : needs D t l ≤ Sp.nfree cs) : BRem (rebV bnxt D t 0 l ⟨D, cs, K⟩).2.2 0 := by
  refine rebV_rem bnxt_nx D t hg ⟨D, cs, K⟩ (r := 0) (hok.rem (by omega) ?_)
  unfold needs
  split
  · omega
  · have := c1_le (latestF l)
    have := n2_le (leafG D (nodeD D t) (keysF (latestF l))) (latestF l)
    have := n3_le (nodeD D t) (leafG D (nodeD D t) (keysF (latestF l))) (latestF l)
    omega

theorem build_out {D : DSt} {t : Nat} {E : Int} {l : List ChV} {cs : List Nat} {K n : Nat} {w w' : World} {Fd : Nat → Prop} {dp lo hi mp : Nat} {e : Ending} (h : BuildOut D t E l cs K w Fd dp lo hi mp e w') (hok : BOk D cs K) (hD : D.Ok n) (hQ : D.Q = []) (hd : Dk w Fd dp D) :
    ∃ u1 u2 s, e = .returned (.tuple #[u1, u2]) ∧ LayI D.L cs s ∧ s.D.Ok n ∧ s.D.Q.length ≤ 1000000 ∧ (∃ Fd', Dk w' Fd' dp s.D ∧ ∀ k, Fd' k → (Fd k ∧ k < w.heap.size) ∨ w.heap.size ≤ k) ∧ Keeps (fun k => (Fd k ∧ k < w.heap.size) ∨ (lo ≤ k ∧ k < hi)) w w' := by
  unfold BuildOut at h
  have same : ∀ {v : Int}, e = .returned (.tuple #[.int .i64 0, .int .i64 v]) ∧ Below w.heap.size w w' → ∃ u1 u2 s, e = .returned (.tuple #[u1, u2]) ∧ LayI D.L cs s ∧ s.D.Ok n ∧ s.D.Q.length ≤ 1000000 ∧ (∃ Fd', Dk w' Fd' dp s.D ∧ ∀ k, Fd' k → (Fd k ∧ k < w.heap.size) ∨ w.heap.size ≤ k) ∧ Keeps (fun k => (Fd k ∧ k < w.heap.size) ∨ (lo ≤ k ∧ k < hi)) w w' := by
    rintro v ⟨rfl, hb⟩
    refine ⟨_, _, ⟨D, cs, K⟩, rfl, ⟨rfl, (fun q hq => by (have hq2 : q ∈ D.Q := hq); rw [hQ] at hq2; cases hq2), fun _ h => h⟩, hD, by (show D.Q.length ≤ _); rw [hQ]; simp, ⟨fun k => Fd k ∧ k < w.heap.size, (hd.mono (fun k hk hf => ⟨hf, hk⟩)).keep (keeps_below hb) (fun _ _ _ h => h), fun k hk => .inl hk⟩, (keeps_below hb).mono (fun _ _ h => h.elim)⟩
  split at h
  · exact same h
  · rename_i h0
    have h0 : (costV D t E l).2 = 0 := Classical.byContradiction fun hn => h0 hn
    split at h
    · exact same h
    · rename_i h1
      obtain ⟨rfl, ⟨Fd', hd', _, hf⟩, _, _, hk⟩ := h
      have hgood : ∀ a ∈ l, a.good := Classical.byContradiction fun hn => by rw [costV_bad D t E hn] at h0; cases h0
      have hE : E = 0 := Classical.byContradiction fun hn => by rw [costV_err D t hgood hn] at h0; exact hn h0
      subst hE
      rw [costV_ok D t hgood] at h1
      have hneed : needs D t l ≤ Sp.nfree cs := by simp only at h1; omega
      have hrem := build_rem hok t hgood hneed
      have hlay := build_keeps (cs := cs) (K := K) hQ t 0 l
      obtain ⟨n', hn'⟩ := hd'.ok
      have hnn : n' = n := by
        have e1 := hn'.len
        have e2 := hD.len
        rw [hlay.1] at e1
        omega
      subst hnn
      exact ⟨_, _, _, rfl, hlay, hn', by have := hrem.que; omega, ⟨Fd', hd', hf⟩, hk⟩
end Go.Proofs.YtacghpabjmnfiaaGreatDoor
