/-
  Merged by wip/tools/merge.py: ShSpot TrList ShTree ShMem ShBuilt
-/
import Derived.Test.YtacghpabjmnfiaaGreatDoorShDone
import Derived.Test.YtacghpabjmnfiaaGreatDoorGCc
import Derived.Test.YtacghpabjmnfiaaGreatDoorWkErr
import Derived.Test.YtacghpabjmnfiaaGreatDoorGShM
namespace Go.Proofs.YtacghpabjmnfiaaGreatDoor
open Go.RowKit Go.Maps

theorem now_next (s : BSt) (xs : List UInt8) (i : Nat) : (bnxt s xs).2.D.now i = if Sp.takeN s.cs = i then xs else s.D.now i := by
  show (lastW (s.D.Q ++ [(Sp.takeN s.cs, xs)]) i).getD (sec s.D.spent.L i) = _
  rw [lastW_snoc, (spent_same s.D).1]
  split <;> rfl
theorem take_get {cs : List Nat} (h : Sp.nfree cs ≠ 0) (hlt : Sp.lo cs < cs.length) (k : Nat) : (Sp.takeC cs).getD k 0 = if k = Sp.lo cs then 1 else cs.getD k 0 := by
  unfold Sp.takeC
  rw [if_neg h, List.getD_eq_getElem?_getD, List.getElem?_set]
  by_cases e : k = Sp.lo cs
  · rw [if_pos e, if_pos e.symm, if_pos hlt]
    rfl
  · rw [if_neg e, if_neg (fun h => e h.symm), ← List.getD_eq_getElem?_getD]

section
variable {V : Type} [DecidableEq V]
structure LaidOk (bare : V) (by_ : V → List UInt8) (f : Nat → Option V) (s : BSt) (l : List Nat) (s' : BSt) (sec : Nat → Option Int) : Prop where
  bare0 : ∀ k ∈ l, (f k).getD bare = bare → sec k = some 0
  spot : ∀ k ∈ l, (f k).getD bare ≠ bare → ∃ n : Nat, sec k = some (n : Int) ∧ 2 ≤ n ∧ n < s.cs.length ∧ s.cs.getD n 0 = 0 ∧ 0 < s'.cs.getD n 0 ∧ s'.D.now n = by_ ((f k).getD bare)
  inj : ∀ k ∈ l, ∀ k' ∈ l, ∀ v, sec k = some v → sec k' = some v → v ≠ 0 → k = k'
  held : ∀ n, 0 < s.cs.getD n 0 → 0 < s'.cs.getD n 0 ∧ s'.D.now n = s.D.now n
  len : s'.cs.length = s.cs.length
theorem laid_take (bare : V) (by_ : V → List UInt8) (f : Nat → Option V) (s : BSt) (r : Nat) (l : List Nat) (hl : l.Nodup) (hb : ∀ k x, f k = some x → x ≠ bare → (by_ x).length = 64) (hr : BRem s (cntB bare f l + r)) :
    ∀ m, m ≤ l.length → LaidOk bare by_ f s (l.take m) (layL bnxt bare by_ f s (l.take m)).1 (layL bnxt bare by_ f s (l.take m)).2
  | 0, _ => ⟨fun k hk => by simp at hk, fun k hk => by simp at hk, fun k hk => by simp at hk, fun n hn => ⟨hn, rfl⟩, rfl⟩
  | m + 1, hm => by
    have ih := laid_take bare by_ f s r l hl hb hr m (by omega)
    have hsum : cntB bare f l = cntB bare f (l.take m) + cntB bare f (l.drop m) := by
      unfold cntB
      rw [← List.length_append, ← List.filter_append, List.take_append_drop]
    have hrem : BRem (layL bnxt bare by_ f s (l.take m)).1 (cntB bare f (l.drop m) + r) :=
      layL_rem bnxt bare by_ f BRem hb (fun xs => bnxt_nx.down _ _ xs) (l.take m) (s, fun _ => none) _ (by rw [hsum, Nat.add_assoc] at hr; exact hr)
    rw [cntB_drop bare f l m (by omega)] at hrem
    have hnew : ∀ k ∈ l.take m, k ≠ l[m] := fun k hk e => by
      obtain ⟨i, hi, rfl⟩ := List.getElem_of_mem hk
      rw [List.getElem_take] at e
      have hi' : i < m := by simp at hi; omega
      exact List.pairwise_iff_getElem.1 hl i m _ _ hi' e
    have hmem : ∀ k, k ∈ l.take (m + 1) ↔ k ∈ l.take m ∨ k = l[m] := fun k => by
      rw [List.take_succ_eq_append_getElem (by omega), List.mem_append, List.mem_singleton]
    rw [layL_take bnxt bare by_ f s l m (by omega)]
    generalize layL bnxt bare by_ f s (l.take m) = st at *
    generalize l[m] = q at *
    generalize l.take m = t at *
    generalize cntB bare f (l.drop (m + 1)) = c at *
    by_cases hx : (f q).getD bare = bare
    · have e : layStep bnxt bare by_ f st q = (st.1, updF st.2 q 0) := if_pos hx
      have eo : ∀ k, k ≠ q → updF st.2 q (0 : Int) k = st.2 k := fun k h => if_neg h
      have eq : updF st.2 q (0 : Int) q = some 0 := if_pos rfl
      rw [e]
      refine ⟨fun k hk hb0 => ?_, fun k hk hne => ?_, fun k hk k' hk' v h1 h2 hv => ?_, ih.held, ih.len⟩
      · rcases (hmem k).1 hk with h | rfl
        · exact (eo k (hnew k h)).trans (ih.bare0 k h hb0)
        · exact eq
      · rcases (hmem k).1 hk with h | rfl
        · obtain ⟨n, h1, h2⟩ := ih.spot k h hne
          exact ⟨n, (eo k (hnew k h)).trans h1, h2⟩
        · exact absurd hx hne
      · rcases (hmem k).1 hk with h | rfl
        · rcases (hmem k').1 hk' with h' | rfl
          · exact ih.inj k h k' h' v ((eo k (hnew k h)).symm.trans h1) ((eo k' (hnew k' h')).symm.trans h2) hv
          · exact absurd (Option.some.inj (eq.symm.trans h2)).symm hv
        · exact absurd (Option.some.inj (eq.symm.trans h1)).symm hv
    · have e : layStep bnxt bare by_ f st q = ((bnxt st.1 (by_ ((f q).getD bare))).2, updF st.2 q ((bnxt st.1 (by_ ((f q).getD bare))).1 : Int)) := if_neg hx
      rw [if_neg hx, show 1 + c + r = (c + r) + 1 from by omega] at hrem
      obtain ⟨l1, l2, l3, l4⟩ := hrem.lo
      have hfree := hrem.free
      have en : (bnxt st.1 (by_ ((f q).getD bare))).1 = Sp.lo st.1.cs := l1
      rw [en] at e
      have eo : ∀ k, k ≠ q → updF st.2 q (Sp.lo st.1.cs : Int) k = st.2 k := fun k h => if_neg h
      have eq : updF st.2 q (Sp.lo st.1.cs : Int) q = some (Sp.lo st.1.cs : Int) := if_pos rfl
      have hcs : ∀ k, (bnxt st.1 (by_ ((f q).getD bare))).2.cs.getD k 0 = if k = Sp.lo st.1.cs then 1 else st.1.cs.getD k 0 := fun k => take_get hfree l3 k
      have hnow : ∀ k, (bnxt st.1 (by_ ((f q).getD bare))).2.D.now k = if Sp.lo st.1.cs = k then by_ ((f q).getD bare) else st.1.D.now k := fun k => by
        rw [now_next, l1]
      have hkeep : ∀ k, 0 < st.1.cs.getD k 0 → 0 < (bnxt st.1 (by_ ((f q).getD bare))).2.cs.getD k 0 ∧ (bnxt st.1 (by_ ((f q).getD bare))).2.D.now k = st.1.D.now k := fun k hk => by
        have hne : k ≠ Sp.lo st.1.cs := fun h => by rw [h, l4] at hk; omega
        rw [hcs, hnow, if_neg hne, if_neg (fun h => hne h.symm)]
        exact ⟨hk, rfl⟩
      have hlen : (bnxt st.1 (by_ ((f q).getD bare))).2.cs.length = st.1.cs.length := Sp.len_take _
      rw [e]
      generalize (bnxt st.1 (by_ ((f q).getD bare))).2 = s2 at *
      refine ⟨fun k hk hb0 => ?_, fun k hk hne => ?_, fun k hk k' hk' v h1 h2 hv => ?_, fun n hn => ?_, hlen.trans ih.len⟩
      · rcases (hmem k).1 hk with h | rfl
        · exact (eo k (hnew k h)).trans (ih.bare0 k h hb0)
        · exact absurd hb0 hx
      · rcases (hmem k).1 hk with h | rfl
        · obtain ⟨n, h1, h2, h3, h4, h5, h6⟩ := ih.spot k h hne
          exact ⟨n, (eo k (hnew k h)).trans h1, h2, h3, h4, (hkeep n h5).1, (hkeep n h5).2.trans h6⟩
        · refine ⟨Sp.lo st.1.cs, eq, l2, by have := ih.len; omega, Classical.byContradiction fun hn => ?_, ?_, ?_⟩
          · have := (ih.held (Sp.lo st.1.cs) (by omega)).1
            omega
          · show 0 < s2.cs.getD _ 0
            rw [hcs, if_pos rfl]
            exact Nat.one_pos
          · show s2.D.now _ = _
            rw [hnow, if_pos rfl]
      · have off : ∀ k, k ∈ t → st.2 k = some v → v = (Sp.lo st.1.cs : Int) → False := fun k h hs hv' => by
          by_cases hb0 : (f k).getD bare = bare
          · rw [ih.bare0 k h hb0] at hs
            cases hs
            exact hv rfl
          · obtain ⟨n, h1, _, _, _, h5, _⟩ := ih.spot k h hb0
            rw [h1] at hs
            injection hs with hs
            have : n = Sp.lo st.1.cs := by omega
            rw [this] at h5
            omega
        rcases (hmem k).1 hk with h | rfl
        · rcases (hmem k').1 hk' with h' | rfl
          · exact ih.inj k h k' h' v ((eo k (hnew k h)).symm.trans h1) ((eo k' (hnew k' h')).symm.trans h2) hv
          · refine (off k h ((eo k (hnew k h)).symm.trans h1) ?_).elim
            exact (Option.some.inj (eq.symm.trans h2)).symm
        · rcases (hmem k').1 hk' with h' | rfl
          · refine (off k' h' ((eo k' (hnew k' h')).symm.trans h2) ?_).elim
            exact (Option.some.inj (eq.symm.trans h1)).symm
          · rfl
      · obtain ⟨h1, h2⟩ := ih.held n hn
        exact ⟨(hkeep n h1).1, (hkeep n h1).2.trans h2⟩
theorem laid_ok (bare : V) (by_ : V → List UInt8) (f : Nat → Option V) (s : BSt) (r : Nat) (l : List Nat) (hl : l.Nodup) (hb : ∀ k x, f k = some x → x ≠ bare → (by_ x).length = 64) (hr : BRem s (cntB bare f l + r)) :
    LaidOk bare by_ f s l (layL bnxt bare by_ f s l).1 (layL bnxt bare by_ f s l).2 := by
  have h := laid_take bare by_ f s r l hl hb hr l.length (Nat.le_refl _)
  rw [List.take_length] at h
  exact h
end
end Go.Proofs.YtacghpabjmnfiaaGreatDoor
namespace Go.Proofs.YtacghpabjmnfiaaGreatDoor
open Go.RowKit

/-- The numbers that aren't 0. -/
def nz (xs : List Int) : List Nat := (xs.filter fun x => decide (x ≠ 0)).map Int.toNat
theorem nz_zero (xs : List Int) : nz (0 :: xs) = nz xs := by simp [nz]
theorem nz_cons {x : Int} (h : x ≠ 0) (xs : List Int) : nz (x :: xs) = x.toNat :: nz xs := by simp [nz, h]
theorem nz_append (xs ys : List Int) : nz (xs ++ ys) = nz xs ++ nz ys := by simp [nz]
theorem nz_none {xs : List Int} (h : ∀ x ∈ xs, x = 0) : nz xs = [] := by
  unfold nz
  rw [List.filter_eq_nil_iff.2 (fun x hx => by simp [h x hx])]
  rfl
theorem nz_mem {xs : List Int} {k : Nat} : k ∈ nz xs ↔ ∃ x ∈ xs, x ≠ 0 ∧ x.toNat = k := by
  unfold nz
  simp only [List.mem_map, List.mem_filter, decide_eq_true_eq, and_assoc]
/-- A list told by leaves: each entry, then its node's. -/
def lfL (nd : Nat → List Int) : List Int → List Int
  | [] => []
  | x :: xs => (x :: nodeZ nd x) ++ lfL nd xs
theorem z32_all : ∀ x ∈ z32, x = 0 := fun _ hx => (List.mem_replicate.1 hx).2
theorem lfL_zero (nd : Nat → List Int) (xs : List Int) : nz (lfL nd (0 :: xs)) = nz (lfL nd xs) := by
  show nz ((0 :: nodeZ nd 0) ++ lfL nd xs) = _
  rw [nz_append, nz_zero, nz_none (xs := nodeZ nd 0) z32_all]
  rfl
theorem lfL_cons (nd : Nat → List Int) {x : Int} (h : x ≠ 0) (xs : List Int) : nz (lfL nd (x :: xs)) = x.toNat :: (nz (nd x.toNat) ++ nz (lfL nd xs)) := by
  show nz ((x :: nodeZ nd x) ++ lfL nd xs) = _
  rw [nz_append, nz_cons h, show nodeZ nd x = nd x.toNat from if_neg h]
  rfl
theorem lfL_len {nd : Nat → List Int} (hnd : ∀ k, (nd k).length = 32) : ∀ xs : List Int, (lfL nd xs).length = 33 * xs.length
  | [] => rfl
  | x :: xs => by
    have h : (nodeZ nd x).length = 32 := by unfold nodeZ; split; rfl; exact hnd _
    show ((x :: nodeZ nd x) ++ lfL nd xs).length = _
    rw [List.length_append, List.length_cons, h, lfL_len hnd xs, List.length_cons]
    omega
theorem lfL_get {nd : Nat → List Int} (hnd : ∀ k, (nd k).length = 32) : ∀ (xs : List Int) (i : Nat), i < xs.length → (lfL nd xs).getD (33 * i) 0 = xs.getD i 0 ∧ ∀ j, j < 32 → (lfL nd xs).getD (33 * i + 1 + j) 0 = (nodeZ nd (xs.getD i 0)).getD j 0
  | [], i, h => by cases h
  | x :: xs, i, h => by
    have hl : (nodeZ nd x).length = 32 := by unfold nodeZ; split; rfl; exact hnd _
    have e : lfL nd (x :: xs) = (x :: nodeZ nd x) ++ lfL nd xs := rfl
    rw [e]
    cases i with
    | zero =>
      refine ⟨rfl, fun j hj => ?_⟩
      rw [List.getD_eq_getElem?_getD, List.getElem?_append_left (by rw [List.length_cons]; omega), show 33 * 0 + 1 + j = j + 1 from by omega, List.getElem?_cons_succ, ← List.getD_eq_getElem?_getD]
      rfl
    | succ i =>
      obtain ⟨h1, h2⟩ := lfL_get hnd xs i (by simpa using h)
      have hs : ∀ k, ((x :: nodeZ nd x) ++ lfL nd xs).getD (33 + k) 0 = (lfL nd xs).getD k 0 := fun k => by
        rw [List.getD_eq_getElem?_getD, List.getElem?_append_right (by rw [List.length_cons]; omega), List.length_cons, hl, show 33 + k - (32 + 1) = k from by omega, ← List.getD_eq_getElem?_getD]
      refine ⟨?_, fun j hj => ?_⟩
      · rw [show 33 * (i + 1) = 33 + 33 * i from by omega, hs, h1]
        rfl
      · rw [show 33 * (i + 1) + 1 + j = 33 + (33 * i + 1 + j) from by omega, hs, h2 j hj]
        rfl

/-! ### what Read goes through -/
theorem goPg_list {N i : Nat} : ∀ (xs : List Int) (k : Nat) (s q : List Int × List Nat), goPg N i xs k s = some q → q.2 = s.2 ++ nz xs
  | [], _, s, q, h => by
    injection h with h
    subst h
    simp [nz]
  | x :: xs, k, s, q, h => by
    unfold goPg at h
    split at h
    · rename_i hx
      subst hx
      rw [nz_zero]
      exact goPg_list xs _ s q h
    · rename_i hx
      rw [Option.bind_eq_some_iff] at h
      obtain ⟨l, ha, h⟩ := h
      obtain ⟨_, _, rfl⟩ := addS_some ha
      rw [goPg_list xs _ _ q h, nz_cons hx]
      simp
theorem goLf_list {N : Nat} {nd : Nat → List Int} : ∀ (xs : List Int) (i : Nat) (s q : List Int × List Int × List Nat), goLf N nd xs i s = some q → q.2.2 = s.2.2 ++ nz (lfL nd xs)
  | [], _, s, q, h => by
    injection h with h
    subst h
    simp [lfL, nz]
  | x :: xs, i, s, q, h => by
    unfold goLf at h
    split at h
    · rename_i hx
      subst hx
      rw [lfL_zero]
      exact goLf_list xs _ s q h
    · rename_i hx
      split at h
      · cases h
      · rw [Option.bind_eq_some_iff] at h
        obtain ⟨l, ha, h⟩ := h
        rw [Option.bind_eq_some_iff] at h
        obtain ⟨r, hr, h⟩ := h
        obtain ⟨_, _, rfl⟩ := addS_some ha
        rw [goLf_list xs _ _ q h, goPg_list _ _ _ r hr, lfL_cons nd hx]
        simp
theorem addS_yes {N : Nat} {l : List Nat} {x : Int} (h1 : 2 ≤ x) (h2 : x < (N : Int)) (h3 : x.toNat ∉ l) : addS N l x = some (l ++ [x.toNat]) := if_pos ⟨h1, h2, h3⟩
theorem nodup_mid {a b : List Nat} {x : Nat} (h : (a ++ x :: b).Nodup) : x ∉ a ∧ ((a ++ [x]) ++ b).Nodup := by
  have e : (a ++ [x]) ++ b = a ++ x :: b := by simp
  refine ⟨fun hx => ?_, by rw [e]; exact h⟩
  exact (List.nodup_append.1 h).2.2 x hx x (by simp) rfl
theorem goPg_make {N i : Nat} : ∀ (xs : List Int) (k : Nat) (s : List Int × List Nat), (∀ x ∈ xs, x ≠ 0 → 2 ≤ x ∧ x < (N : Int)) → (s.2 ++ nz xs).Nodup → ∃ q, goPg N i xs k s = some q
  | [], _, s, _, _ => ⟨s, rfl⟩
  | x :: xs, k, s, hx, hn => by
    unfold goPg
    by_cases h0 : x = 0
    · rw [if_pos h0]
      rw [h0, nz_zero] at hn
      exact goPg_make xs _ s (fun y hy => hx y (List.mem_cons_of_mem _ hy)) hn
    · rw [if_neg h0]
      rw [nz_cons h0] at hn
      obtain ⟨n1, n2⟩ := nodup_mid hn
      obtain ⟨r1, r2⟩ := hx x (by simp) h0
      rw [addS_yes r1 r2 n1, Option.bind_some]
      exact goPg_make xs _ _ (fun y hy => hx y (List.mem_cons_of_mem _ hy)) n2
theorem goLf_make {N : Nat} {nd : Nat → List Int} : ∀ (xs : List Int) (i : Nat) (s : List Int × List Int × List Nat), (∀ x ∈ lfL nd xs, x ≠ 0 → 2 ≤ x ∧ x < (N : Int)) → (s.2.2 ++ nz (lfL nd xs)).Nodup → (∀ j, 4 ≤ i + j → xs.getD j 0 = 0) → ∃ q, goLf N nd xs i s = some q
  | [], _, s, _, _, _ => ⟨s, rfl⟩
  | x :: xs, i, s, hx, hn, hf => by
    have e : lfL nd (x :: xs) = (x :: nodeZ nd x) ++ lfL nd xs := rfl
    have hx2 : ∀ y ∈ lfL nd xs, y ≠ 0 → 2 ≤ y ∧ y < (N : Int) := fun y hy => hx y (by rw [e]; exact List.mem_append_right _ hy)
    have hf2 : ∀ j, 4 ≤ (i + 1) + j → xs.getD j 0 = 0 := fun j hj => hf (j + 1) (by omega)
    unfold goLf
    by_cases h0 : x = 0
    · rw [if_pos h0]
      rw [h0, lfL_zero] at hn
      exact goLf_make xs _ s hx2 hn hf2
    · rw [if_neg h0, if_neg (fun h4 => h0 (hf 0 (by omega)))]
      rw [lfL_cons nd h0] at hn
      obtain ⟨n1, n2⟩ := nodup_mid hn
      obtain ⟨r1, r2⟩ := hx x (by rw [e]; simp) h0
      rw [addS_yes r1 r2 n1, Option.bind_some]
      have ez : nodeZ nd x = nd x.toNat := if_neg h0
      rw [← List.append_assoc] at n2
      obtain ⟨q, hq⟩ := goPg_make (N := N) (i := i) (nd x.toNat) 0 (s.2.1, s.2.2 ++ [x.toNat]) (fun y hy => hx y (by rw [e, ez]; exact List.mem_append_left _ (List.mem_cons_of_mem _ hy))) (List.nodup_append.1 n2).1
      rw [hq, Option.bind_some]
      refine goLf_make xs _ _ hx2 ?_ hf2
      show (q.2 ++ _).Nodup
      rw [goPg_list _ _ _ _ hq]
      exact n2

/-- All that a tree names, place by place. -/
def valsT (D : DSt) (top : Int) : List Int := top :: lfL (nodeR D) (nodeD D top.toNat)
theorem valsT_len (D : DSt) (top : Int) : (valsT D top).length = 1057 := by
  show (lfL (nodeR D) (nodeD D top.toNat)).length + 1 = _
  rw [lfL_len (nodeR_len D), nodeD_len]
theorem valsT_leaf (D : DSt) (top : Int) {i : Nat} (hi : i < 32) : (valsT D top).getD (33 * i + 1) 0 = (nodeD D top.toNat).getD i 0 := by
  have h := (lfL_get (nodeR_len D) (nodeD D top.toNat) i (by rw [nodeD_len]; exact hi)).1
  unfold valsT
  rw [List.getD_cons_succ]
  exact h
theorem valsT_page (D : DSt) (top : Int) {i j : Nat} (hi : i < 32) (hj : j < 32) : (valsT D top).getD (33 * i + 1 + j + 1) 0 = (nodeZ (nodeR D) ((nodeD D top.toNat).getD i 0)).getD j 0 := by
  have h := (lfL_get (nodeR_len D) (nodeD D top.toNat) i (by rw [nodeD_len]; exact hi)).2 j hj
  unfold valsT
  rw [List.getD_cons_succ]
  exact h
theorem lfL_z32 (nd : Nat → List Int) : nz (lfL nd z32) = [] := by
  suffices h : ∀ n, nz (lfL nd (List.replicate n 0)) = [] from h 32
  intro n
  induction n with
  | zero => rfl
  | succ n ih => rw [List.replicate_succ, lfL_zero]; exact ih
theorem readT_list {D : DSt} {N : Nat} {top : Int} {lv pg : List Int} {l : List Nat} (h : readT D N top = some (lv, pg, l)) : l = nz (valsT D top) := by
  have hr := readT_rng h
  unfold readT at h
  split at h
  · rename_i h0
    injection h with h
    injection h with _ h
    injection h with _ e3
    subst e3 h0
    show _ = nz (0 :: lfL _ z32)
    rw [nz_zero, lfL_z32]
  · rename_i h0
    rw [Option.bind_eq_some_iff] at h
    obtain ⟨l1, ha, h⟩ := h
    obtain ⟨h2, _, rfl⟩ := addS_some ha
    have e := goLf_list _ _ _ _ h
    unfold valsT
    rw [nz_cons h0, show nodeD D top.toNat = nodeR D top.toNat from if_neg (by omega)]
    exact e
theorem readT_make {D : DSt} {N : Nat} {top : Int} (hx : ∀ x ∈ valsT D top, x ≠ 0 → 2 ≤ x ∧ x < (N : Int)) (hn : (nz (valsT D top)).Nodup) (hf : ∀ j, 4 ≤ j → (nodeD D top.toNat).getD j 0 = 0) : ∃ lv pg, readT D N top = some (lv, pg, nz (valsT D top)) := by
  have key : ∃ q, readT D N top = some q := by
    unfold readT
    by_cases h0 : top = 0
    · rw [if_pos h0]
      exact ⟨_, rfl⟩
    · obtain ⟨h2, h3⟩ := hx top (by unfold valsT; simp) h0
      have e : nodeD D top.toNat = nodeR D top.toNat := if_neg (by omega)
      rw [if_neg h0, addS_yes h2 h3 (by simp), Option.bind_some]
      unfold valsT at hn hx
      rw [nz_cons h0, e] at hn
      rw [e] at hf hx
      exact goLf_make _ 0 _ (fun x h => hx x (List.mem_cons_of_mem _ h)) hn (fun j hj => hf j (by omega))
  obtain ⟨⟨lv, pg, l⟩, hq⟩ := key
  exact ⟨lv, pg, by rw [hq, readT_list hq]⟩
/-- No number comes twice. -/
theorem nz_nodup {V : List Int} : (nz V).Nodup ↔ ∀ p q, p < q → q < V.length → V.getD p 0 ≠ 0 → V.getD q 0 ≠ 0 → (V.getD p 0).toNat ≠ (V.getD q 0).toNat := by
  unfold nz List.Nodup
  rw [List.pairwise_map, List.pairwise_filter, List.pairwise_iff_getElem]
  constructor
  · intro h p q hpq hq a b
    have e1 : V.getD p 0 = V[p] := by simp [List.getD, show p < V.length by omega]
    have e2 : V.getD q 0 = V[q] := by simp [List.getD, hq]
    rw [e1] at a ⊢
    rw [e2] at b ⊢
    exact h p q (by omega) hq hpq (by simpa using a) (by simpa using b)
  · intro h p q hp hq hpq a b
    have e1 : V.getD p 0 = V[p] := by simp [List.getD, hp]
    have e2 : V.getD q 0 = V[q] := by simp [List.getD, hq]
    have := h p q hpq hq (by rw [e1]; simpa using a) (by rw [e2]; simpa using b)
    rw [e1, e2] at this
    exact this
end Go.Proofs.YtacghpabjmnfiaaGreatDoor
namespace Go.Proofs.YtacghpabjmnfiaaGreatDoor
open Go.RowKit Go.Maps

section
variable {V : Type} [DecidableEq V] {bare : V} {by_ : V → List UInt8} {f : Nat → Option V} {s s' : BSt} {l : List Nat} {sec : Nat → Option Int}
theorem LaidOk.val (h : LaidOk bare by_ f s l s' sec) {k : Nat} (hk : k ∈ l) {v : Int} (hv : sec k = some v) (h0 : v ≠ 0) :
    ∃ n : Nat, v = (n : Int) ∧ 2 ≤ n ∧ n < s.cs.length ∧ s.cs.getD n 0 = 0 ∧ 0 < s'.cs.getD n 0 ∧ s'.D.now n = by_ ((f k).getD bare) ∧ (f k).getD bare ≠ bare := by
  by_cases hb : (f k).getD bare = bare
  · rw [h.bare0 k hk hb] at hv
    injection hv with hv
    exact absurd hv.symm h0
  · obtain ⟨n, h1, h2, h3, h4, h5, h6⟩ := h.spot k hk hb
    rw [h1] at hv
    injection hv with hv
    exact ⟨n, hv.symm, h2, h3, h4, h5, h6, hb⟩
theorem LaidOk.rng (h : LaidOk bare by_ f s l s' sec) (out : ∀ k, k ∉ l → sec k = none) (hs : s.cs.length ≤ 2000) (i : Nat) (v : Int) (hv : sec i = some v) : 0 ≤ v ∧ v ≤ 65535 := by
  by_cases hi : i ∈ l
  · by_cases h0 : v = 0
    · omega
    · obtain ⟨n, h1, h2, h3, _⟩ := h.val hi hv h0
      omega
  · rw [out i hi] at hv
    cases hv
theorem laid_out (bare : V) (by_ : V → List UInt8) (f : Nat → Option V) (s : BSt) (l : List Nat) (k : Nat) (hk : k ∉ l) : (layL bnxt bare by_ f s l).2 k = none := by
  have h := layL_keys bnxt bare by_ f s l k
  rw [decide_eq_false hk] at h
  cases e : (layL bnxt bare by_ f s l).2 k with
  | none => rfl
  | some v => rw [e] at h; cases h
end

/-- The leaves that a change goes through, changed; the top. -/
def g1T (s : BSt) (P : Nat → Option (List UInt8)) (fA : Nat → Option Int) (t : Nat) : Nat → Option (List Int) := leafH (leafG s.D (nodeD s.D t) (keysF P)) fA (keysF P)
def rT (s : BSt) (P : Nat → Option (List UInt8)) (fA fB : Nat → Option Int) (t : Nat) : List Int := rootH (nodeD s.D t) fB (keysF (g1T s P fA t))
theorem g1_mem (s : BSt) (P : Nat → Option (List UInt8)) (fA : Nat → Option Int) (t i : Nat) : i ∈ keysF (g1T s P fA t) ↔ ∃ a ∈ keysF P, a / 32 = i := by
  rw [keysF_mem]
  unfold g1T leafH
  rw [Option.isSome_map]
  unfold leafG
  constructor
  · rintro ⟨_, h⟩
    split at h
    · rename_i ha
      obtain ⟨a, ha, he⟩ := List.any_eq_true.1 ha
      exact ⟨a, ha, by simpa using he⟩
    · cases h
  · rintro ⟨a, ha, rfl⟩
    have := (keysF_mem.1 ha).1
    refine ⟨by omega, ?_⟩
    rw [if_pos (List.any_eq_true.2 ⟨a, ha, by simp⟩)]
    rfl
theorem g1_get (s : BSt) (P : Nat → Option (List UInt8)) (fA : Nat → Option Int) (t i : Nat) (h : i ∈ keysF (g1T s P fA t)) : g1T s P fA t i = some (leafRow fA (keysF P) i (leafV s.D (nodeD s.D t) i)) := by
  obtain ⟨a, ha, rfl⟩ := (g1_mem s P fA t i).1 h
  unfold g1T leafH
  rw [leafG_has s.D (nodeD s.D t) ha]
  rfl
/-- A page's sector, told by its place. -/
theorem pages_vals {D : DSt} {N : Nat} {top : Int} {lv pg : List Int} {l : List Nat} (h : readT D N top = some (lv, pg, l)) {a : Nat} (ha : a < 128) : pg.getD a 0 = (valsT D top).getD (33 * (a / 32) + 1 + a % 32 + 1) 0 := by
  have hp := readT_pages h
  have hi : a / 32 < 4 := by omega
  have e := hp.page (a / 32) (a % 32) hi (by omega)
  rw [show a / 32 * 32 + a % 32 = a from by omega] at e
  have hpos : 0 ≤ (nodeD D top.toNat).getD (a / 32) 0 := by
    rw [List.getD_eq_getElem?_getD]
    cases hg : (nodeD D top.toNat)[a / 32]? with
    | none => simp
    | some z => simpa using (nodeD_ok D top.toNat z (List.mem_of_getElem? hg)).1
  rw [e, valsT_page D top (by omega) (by omega), hp.leaf _ hi, nodeZ_nodeD D hpos]
theorem old_in {s : BSt} {t : Nat} {lv pg : List Int} {l0 : List Nat} (hold : readT s.D s.cs.length (t : Int) = some (lv, pg, l0)) {p : Nat} (hp : p < 1057) (h0 : (valsT s.D (t : Int)).getD p 0 ≠ 0) : ((valsT s.D (t : Int)).getD p 0).toNat ∈ l0 := by
  rw [readT_list hold, nz_mem]
  have hl := valsT_len s.D (t : Int)
  have e : (valsT s.D (t : Int)).getD p 0 = (valsT s.D (t : Int))[p]'(by omega) := by simp [List.getD, show p < (valsT s.D (t : Int)).length by omega]
  rw [e] at h0 ⊢
  exact ⟨_, List.getElem_mem _, h0, rfl⟩
theorem row_get (n : Nat) (F : Nat → Int) {j : Nat} (hj : j < n) : ((List.range n).map F).getD j 0 = F j := by
  rw [List.getD_eq_getElem?_getD, List.getElem?_map, List.getElem?_range hj]
  rfl

theorem root_get {s : BSt} {fA fB : Nat → Option Int} {P : Nat → Option (List UInt8)} {t i : Nat} (hi : i < 32) : (rT s P fA fB t).getD i 0 = if i ∈ keysF (g1T s P fA t) then (fB i).getD 0 else (nodeD s.D t).getD i 0 := row_get 32 (fun i => if i ∈ keysF (g1T s P fA t) then (fB i).getD 0 else (nodeD s.D t).getD i 0) hi

structure NewT (s sA sB sC : BSt) (fA fB fC : Nat → Option Int) (P : Nat → Option (List UInt8)) (t : Nat) : Prop where
  A : LaidOk zs64 (fun xs => xs) P s (keysF P) sA fA
  B : LaidOk z32 (fun zs => encB zs 32) (g1T s P fA t) sA (keysF (g1T s P fA t)) sB fB
  C : LaidOk z32 (fun zs => encB zs 32) (oneF (rT s P fA fB t)) sB [0] sC fC
  oA : ∀ k, k ∉ keysF P → fA k = none
  oB : ∀ k, k ∉ keysF (g1T s P fA t) → fB k = none
  oC : ∀ k, k ∉ [0] → fC k = none
  small : s.cs.length ≤ 2000

/-- A number newly laid, by its place. -/
def Fr (s : BSt) (P : Nat → Option (List UInt8)) (fA fB fC : Nat → Option Int) (t p : Nat) (v : Int) : Prop :=
  (p = 0 ∧ fC 0 = some v) ∨ (∃ i ∈ keysF (g1T s P fA t), p = 33 * i + 1 ∧ fB i = some v) ∨ ∃ a ∈ keysF P, p = 33 * (a / 32) + 1 + a % 32 + 1 ∧ fA a = some v

section
variable {s sA sB sC : BSt} {fA fB fC : Nat → Option Int} {P : Nat → Option (List UInt8)} {t : Nat} (H : NewT s sA sB sC fA fB fC P t)
include H
theorem NewT.lenA : sA.cs.length = s.cs.length := H.A.len
theorem NewT.lenB : sB.cs.length = s.cs.length := H.B.len.trans H.A.len
theorem NewT.heldB {n : Nat} (h : 0 < s.cs.getD n 0) : 0 < sB.cs.getD n 0 := (H.B.held n (H.A.held n h).1).1
theorem NewT.heldC {n : Nat} (h : 0 < s.cs.getD n 0) : 0 < sC.cs.getD n 0 ∧ sC.D.now n = s.D.now n := by
  obtain ⟨a1, a2⟩ := H.A.held n h
  obtain ⟨b1, b2⟩ := H.B.held n a1
  obtain ⟨c1, c2⟩ := H.C.held n b1
  exact ⟨c1, c2.trans (b2.trans a2)⟩
theorem NewT.freeA {n : Nat} (h : sA.cs.getD n 0 = 0) : s.cs.getD n 0 = 0 := Classical.byContradiction fun hn => by
  have := (H.A.held n (by omega)).1
  omega
theorem NewT.freeB {n : Nat} (h : sB.cs.getD n 0 = 0) : sA.cs.getD n 0 = 0 := Classical.byContradiction fun hn => by
  have := (H.B.held n (by omega)).1
  omega
theorem NewT.frVal {p : Nat} {v : Int} (h : Fr s P fA fB fC t p v) (h0 : v ≠ 0) : ∃ n : Nat, v = (n : Int) ∧ 2 ≤ n ∧ n < s.cs.length ∧ s.cs.getD n 0 = 0 := by
  have lA := H.lenA
  have lB := H.lenB
  rcases h with ⟨_, h⟩ | ⟨i, hi, _, h⟩ | ⟨a, ha, _, h⟩
  · obtain ⟨n, h1, h2, h3, h4, _⟩ := H.C.val (by simp) h h0
    exact ⟨n, h1, h2, by omega, H.freeA (H.freeB h4)⟩
  · obtain ⟨n, h1, h2, h3, h4, _⟩ := H.B.val hi h h0
    exact ⟨n, h1, h2, by omega, H.freeA h4⟩
  · obtain ⟨n, h1, h2, h3, h4, _⟩ := H.A.val ha h h0
    exact ⟨n, h1, h2, h3, h4⟩
theorem NewT.frInj {p q : Nat} {v : Int} (h : Fr s P fA fB fC t p v) (h' : Fr s P fA fB fC t q v) (h0 : v ≠ 0) : p = q := by
  have AB : ∀ a ∈ keysF P, ∀ i ∈ keysF (g1T s P fA t), fA a = some v → fB i = some v → False := fun a ha i hi e e' => by
    obtain ⟨n, h1, _, _, _, h5, _⟩ := H.A.val ha e h0
    obtain ⟨m, g1, _, _, g4, _⟩ := H.B.val hi e' h0
    obtain rfl : n = m := by omega
    omega
  have AC : ∀ a ∈ keysF P, fA a = some v → fC 0 = some v → False := fun a ha e e' => by
    obtain ⟨n, h1, _, _, _, h5, _⟩ := H.A.val ha e h0
    obtain ⟨m, g1, _, _, g4, _⟩ := H.C.val (by simp) e' h0
    obtain rfl : n = m := by omega
    have := H.freeB g4
    omega
  have BC : ∀ i ∈ keysF (g1T s P fA t), fB i = some v → fC 0 = some v → False := fun i hi e e' => by
    obtain ⟨n, h1, _, _, _, h5, _⟩ := H.B.val hi e h0
    obtain ⟨m, g1, _, _, g4, _⟩ := H.C.val (by simp) e' h0
    obtain rfl : n = m := by omega
    omega
  rcases h with ⟨e1, h⟩ | ⟨i, hi, e1, h⟩ | ⟨a, ha, e1, h⟩
  · rcases h' with ⟨e2, h'⟩ | ⟨i', hi', e2, h'⟩ | ⟨a', ha', e2, h'⟩
    · omega
    · exact (BC i' hi' h' h).elim
    · exact (AC a' ha' h' h).elim
  · rcases h' with ⟨e2, h'⟩ | ⟨i', hi', e2, h'⟩ | ⟨a', ha', e2, h'⟩
    · exact (BC i hi h h').elim
    · have := H.B.inj i hi i' hi' v h h' h0
      omega
    · exact (AB a' ha' i hi h' h).elim
  · rcases h' with ⟨e2, h'⟩ | ⟨i', hi', e2, h'⟩ | ⟨a', ha', e2, h'⟩
    · exact (AC a ha h h').elim
    · exact (AB a ha i' hi' h h').elim
    · have := H.A.inj a ha a' ha' v h h' h0
      subst this
      omega

theorem NewT.okR : okN (rT s P fA fB t) = true := rootH_ok _ (nodeD_ok _ _) (H.B.rng H.oB (by rw [H.lenA]; exact H.small))
/-- The new top's node. -/
theorem NewT.top : nodeD sC.D ((fC 0).getD 0).toNat = rT s P fA fB t := by
  have e : (oneF (rT s P fA fB t) 0).getD z32 = rT s P fA fB t := rfl
  by_cases hz : rT s P fA fB t = z32
  · rw [H.C.bare0 0 (by simp) (e.trans hz)]
    exact hz.symm
  · obtain ⟨n, h1, h2, _, _, _, h6⟩ := H.C.spot 0 (by simp) (by rw [e]; exact hz)
    rw [h1]
    show nodeD sC.D ((n : Int)).toNat = _
    rw [Int.toNat_natCast]
    unfold nodeD
    rw [if_neg (by omega), h6, e]
    have h := decN_encB (rT s P fA fB t) (rootH_len _ _ _)
    rw [H.okR] at h
    exact of_decide_eq_true h
/-- A leaf that was changed. -/
theorem NewT.leaf {i : Nat} (hi : i ∈ keysF (g1T s P fA t)) : nodeZ (nodeR sC.D) ((fB i).getD 0) = leafRow fA (keysF P) i (leafV s.D (nodeD s.D t) i) := by
  have e : (g1T s P fA t i).getD z32 = leafRow fA (keysF P) i (leafV s.D (nodeD s.D t) i) := by rw [g1_get s P fA t i hi]; rfl
  by_cases hz : leafRow fA (keysF P) i (leafV s.D (nodeD s.D t) i) = z32
  · rw [H.B.bare0 i hi (e.trans hz), hz]
    exact if_pos rfl
  · obtain ⟨n, h1, h2, _, _, h5, h6⟩ := H.B.spot i hi (by rw [e]; exact hz)
    rw [h1]
    show nodeZ (nodeR sC.D) (n : Int) = _
    unfold nodeZ
    rw [if_neg (by omega), Int.toNat_natCast]
    unfold nodeR
    rw [(H.C.held n h5).2, h6, e]
    have h := decN_encB (leafRow fA (keysF P) i (leafV s.D (nodeD s.D t) i)) (leafRow_len _ _ _ _)
    rw [leafRow_ok (secs := fA) (keysF P) i (zs := leafV s.D (nodeD s.D t) i) (fun z hz => nodeD_ok s.D _ z hz) (H.A.rng H.oA H.small)] at h
    exact of_decide_eq_true h
variable {lv pg : List Int} {l0 : List Nat} (hold : readT s.D s.cs.length (t : Int) = some (lv, pg, l0)) (hh : ∀ k ∈ l0, 0 < s.cs.getD k 0)
include hold hh
/-- Each place: as it was, or newly laid. -/
theorem NewT.place {p : Nat} (hp : p < 1057) : (valsT sC.D ((fC 0).getD 0)).getD p 0 = (valsT s.D (t : Int)).getD p 0 ∨ Fr s P fA fB fC t p ((valsT sC.D ((fC 0).getD 0)).getD p 0) := by
  have hT := H.top
  have ht : nodeD s.D ((t : Int)).toNat = nodeD s.D t := by rw [Int.toNat_natCast]
  have cases3 : p = 0 ∨ (∃ i, i < 32 ∧ p = 33 * i + 1) ∨ ∃ i j, i < 32 ∧ j < 32 ∧ p = 33 * i + 1 + j + 1 := by
    by_cases h0 : p = 0
    · exact .inl h0
    · by_cases h1 : (p - 1) % 33 = 0
      · exact .inr (.inl ⟨(p - 1) / 33, by omega, by omega⟩)
      · exact .inr (.inr ⟨(p - 1) / 33, (p - 1) % 33 - 1, by omega, by omega, by omega⟩)
  rcases cases3 with rfl | ⟨i, hi, rfl⟩ | ⟨i, j, hi, hj, rfl⟩
  · right
    left
    refine ⟨rfl, ?_⟩
    have : (valsT sC.D ((fC 0).getD 0)).getD 0 0 = (fC 0).getD 0 := rfl
    rw [this]
    by_cases hz : (oneF (rT s P fA fB t) 0).getD z32 = z32
    · rw [H.C.bare0 0 (by simp) hz]; rfl
    · obtain ⟨n, h1, _⟩ := H.C.spot 0 (by simp) hz
      rw [h1]; rfl
  · rw [valsT_leaf _ _ hi, valsT_leaf _ _ hi, hT, root_get hi, ht]
    by_cases hm : i ∈ keysF (g1T s P fA t)
    · right
      rw [if_pos hm]
      refine .inr (.inl ⟨i, hm, rfl, ?_⟩)
      by_cases hz : (g1T s P fA t i).getD z32 = z32
      · rw [H.B.bare0 i hm hz]; rfl
      · obtain ⟨n, h1, _⟩ := H.B.spot i hm hz
        rw [h1]; rfl
    · left
      rw [if_neg hm]
  · have hold_leaf : (nodeD s.D t).getD i 0 ≠ 0 → ((nodeD s.D t).getD i 0).toNat ∈ l0 := fun h => by
      have h1 := old_in hold (p := 33 * i + 1) (by omega)
      rw [valsT_leaf _ _ hi, ht] at h1
      exact h1 h
    rw [valsT_page _ _ hi hj, valsT_page _ _ hi hj, hT, root_get hi, ht]
    by_cases hm : i ∈ keysF (g1T s P fA t)
    · rw [if_pos hm, H.leaf hm]
      have e : (leafRow fA (keysF P) i (leafV s.D (nodeD s.D t) i)).getD j 0 = if 32 * i + j ∈ keysF P then (fA (32 * i + j)).getD 0 else (leafV s.D (nodeD s.D t) i).getD j 0 := row_get 32 _ hj
      rw [e]
      by_cases ha : 32 * i + j ∈ keysF P
      · right
        rw [if_pos ha]
        refine .inr (.inr ⟨32 * i + j, ha, by omega, ?_⟩)
        by_cases hz : (P (32 * i + j)).getD zs64 = zs64
        · rw [H.A.bare0 _ ha hz]; rfl
        · obtain ⟨n, h1, _⟩ := H.A.spot _ ha hz
          rw [h1]; rfl
      · left
        rw [if_neg ha]
        unfold leafV
        have hpos : 0 ≤ (nodeD s.D t).getD i 0 := by
          rw [List.getD_eq_getElem?_getD]
          cases hg : (nodeD s.D t)[i]? with
          | none => simp
          | some z => simpa using (nodeD_ok s.D t z (List.mem_of_getElem? hg)).1
        rw [← nodeZ_nodeD _ hpos]
    · left
      rw [if_neg hm]
      unfold nodeZ
      by_cases hz : (nodeD s.D t).getD i 0 = 0
      · rw [if_pos hz, if_pos hz]
      · rw [if_neg hz, if_neg hz]
        unfold nodeR
        rw [(H.heldC (hh _ (hold_leaf hz))).2]
theorem NewT.reads : ∃ lv' pg', readT sC.D s.cs.length ((fC 0).getD 0) = some (lv', pg', nz (valsT sC.D ((fC 0).getD 0))) := by
  have hr := readT_rng hold
  have hnd := (readT_nd hold).1
  rw [readT_list hold, nz_nodup, valsT_len] at hnd
  refine readT_make (fun x hx h0 => ?_) ?_ (fun j hj => ?_)
  · obtain ⟨p, hp, rfl⟩ := List.getElem_of_mem hx
    rw [valsT_len] at hp
    have e : (valsT sC.D ((fC 0).getD 0))[p]'(by rw [valsT_len]; exact hp) = (valsT sC.D ((fC 0).getD 0)).getD p 0 := by simp [List.getD, show p < (valsT sC.D ((fC 0).getD 0)).length by rw [valsT_len]; exact hp]
    rw [e] at h0 ⊢
    rcases H.place hold hh hp with h | h
    · rw [h] at h0 ⊢
      have := hr _ (old_in hold hp h0)
      omega
    · obtain ⟨n, h1, h2, h3, _⟩ := H.frVal h h0
      omega
  · rw [nz_nodup, valsT_len]
    intro p q hpq hq a b hab
    have hp : p < 1057 := by omega
    rcases H.place hold hh hp with h | h
    · rcases H.place hold hh hq with h' | h'
      · rw [h] at a hab
        rw [h'] at b hab
        exact hnd p q hpq hq a b hab
      · obtain ⟨n, h1, h2, h3, h4⟩ := H.frVal h' b
        rw [h] at a hab
        have h5 := hh _ (old_in hold hp a)
        rw [hab, h1, Int.toNat_natCast] at h5
        omega
    · obtain ⟨n, h1, h2, h3, h4⟩ := H.frVal h a
      rcases H.place hold hh hq with h' | h'
      · rw [h'] at b hab
        have h5 := hh _ (old_in hold hq b)
        rw [← hab, h1, Int.toNat_natCast] at h5
        omega
      · obtain ⟨m, g1, _⟩ := H.frVal h' b
        have e : (valsT sC.D ((fC 0).getD 0)).getD p 0 = (valsT sC.D ((fC 0).getD 0)).getD q 0 := by omega
        rw [← e] at h'
        have := H.frInj h h' a
        omega
  · rw [H.top]
    by_cases h32 : j < 32
    · rw [root_get h32, if_neg]
      · have h := (readT_pages hold).far j hj
        rw [Int.toNat_natCast] at h
        exact h
      · intro hm
        obtain ⟨a, ha, rfl⟩ := (g1_mem s P fA t j).1 hm
        have := (keysF_mem.1 ha).1
        omega
    · rw [List.getD_eq_getElem?_getD, List.getElem?_eq_none (by unfold rT; rw [rootH_len]; omega)]
      rfl
/-- Each page of the new tree. -/
theorem NewT.page {lv' pg' : List Int} {l' : List Nat} (hnew : readT sC.D s.cs.length ((fC 0).getD 0) = some (lv', pg', l')) {a : Nat} (ha : a < 128) :
    (a ∈ keysF P → ((P a).getD zs64 = zs64 → pg'.getD a 0 = 0) ∧ ((P a).getD zs64 ≠ zs64 → ∃ n : Nat, pg'.getD a 0 = (n : Int) ∧ 2 ≤ n ∧ sC.D.now n = (P a).getD zs64)) ∧ (a ∉ keysF P → pg'.getD a 0 = pg.getD a 0) := by
  have hi : a / 32 < 32 := by omega
  have hj : a % 32 < 32 := by omega
  have hT := H.top
  have ht : nodeD s.D ((t : Int)).toNat = nodeD s.D t := by rw [Int.toNat_natCast]
  have e0 := pages_vals hnew ha
  have e1 := pages_vals hold ha
  rw [valsT_page _ _ hi hj, hT, root_get hi] at e0
  rw [valsT_page _ _ hi hj, ht] at e1
  by_cases hm : a / 32 ∈ keysF (g1T s P fA t)
  · rw [if_pos hm, H.leaf hm] at e0
    have e : (leafRow fA (keysF P) (a / 32) (leafV s.D (nodeD s.D t) (a / 32))).getD (a % 32) 0 = if 32 * (a / 32) + a % 32 ∈ keysF P then (fA (32 * (a / 32) + a % 32)).getD 0 else (leafV s.D (nodeD s.D t) (a / 32)).getD (a % 32) 0 := row_get 32 _ hj
    rw [e, show 32 * (a / 32) + a % 32 = a from by omega] at e0
    refine ⟨fun hk => ?_, fun hk => ?_⟩
    · rw [if_pos hk] at e0
      refine ⟨fun hz => ?_, fun hz => ?_⟩
      · rw [e0, H.A.bare0 a hk hz]; rfl
      · obtain ⟨n, h1, h2, _, _, h5, h6⟩ := H.A.spot a hk hz
        refine ⟨n, by rw [e0, h1]; rfl, h2, ?_⟩
        obtain ⟨b1, b2⟩ := H.B.held n h5
        exact (H.C.held n b1).2.trans (b2.trans h6)
    · rw [if_neg hk] at e0
      have hpos : 0 ≤ (nodeD s.D t).getD (a / 32) 0 := by
        rw [List.getD_eq_getElem?_getD]
        cases hg : (nodeD s.D t)[a / 32]? with
        | none => simp
        | some z => simpa using (nodeD_ok s.D t z (List.mem_of_getElem? hg)).1
      rw [e0, e1, nodeZ_nodeD _ hpos]
      rfl
  · rw [if_neg hm] at e0
    refine ⟨fun hk => absurd ((g1_mem s P fA t (a / 32)).2 ⟨a, hk, rfl⟩) hm, fun _ => ?_⟩
    rw [e0, e1]
    unfold nodeZ
    by_cases hz : (nodeD s.D t).getD (a / 32) 0 = 0
    · rw [if_pos hz, if_pos hz]
    · rw [if_neg hz, if_neg hz]
      unfold nodeR
      have hin := old_in hold (p := 33 * (a / 32) + 1) (by omega)
      rw [valsT_leaf _ _ hi, ht] at hin
      rw [(H.heldC (hh _ (hin hz))).2]
end
end Go.Proofs.YtacghpabjmnfiaaGreatDoor
namespace Go.Proofs.YtacghpabjmnfiaaGreatDoor
open Go.RowKit Go.Maps

theorem get_some {α : Type} {L : List α} {j : Nat} (d : α) (h : j < L.length) : L[j]? = some (L.getD j d) := by simp [List.getD, h]
/-- A page of a memory, byte by byte. -/
theorem mem_get {D : DSt} {n : Nat} (hD : D.Ok n) (hd : D.down = false) {pg : List Int} (hp : ∀ a, a < 128 → pg.getD a 0 = 0 ∨ (0 < pg.getD a 0 ∧ pg.getD a 0 < (n : Int))) : ∀ k, k ≤ 128 → ∀ a j, a < 128 → j < 64 →
    (memTo D pg k)[64 * a + j]? = some (if a < k ∧ 0 < pg.getD a 0 then (D.now (pg.getD a 0).toNat).getD j 0 else 0)
  | 0, _, a, j, ha, hj => by
    rw [if_neg (by omega)]
    unfold memTo
    rw [List.getElem?_replicate, if_pos (by omega)]
  | k + 1, hk, a, j, ha, hj => by
    have ih := mem_get hD hd hp k (by omega) a j ha hj
    by_cases hpos : 0 < pg.getD k 0
    · rw [memTo_yes hpos]
      have hn := hD.n_eq
      have hr : D.readAt (pg.getD k 0) = D.now (pg.getD k 0).toNat := by
        unfold DSt.readAt
        rw [if_neg (by rw [hd]; exact Bool.false_ne_true), if_pos ⟨by omega, by rcases hp k (by omega) with h | h <;> omega⟩]
      have hl : (D.now (pg.getD k 0).toNat).length = 64 := now_len hD (by rcases hp k (by omega) with h | h <;> omega)
      have hm := memTo_len hD pg k (by omega)
      rw [hr, splice_get _ _ _ _ (by omega), hl]
      by_cases h1 : 64 * a + j < k * 64
      · rw [if_pos h1, ih]
        have : (a < k + 1 ∧ 0 < pg.getD a 0) ↔ (a < k ∧ 0 < pg.getD a 0) := by constructor <;> rintro ⟨x, y⟩ <;> exact ⟨by omega, y⟩
        simp only [this]
      · rw [if_neg h1]
        by_cases h2 : 64 * a + j < k * 64 + 64
        · obtain rfl : a = k := by omega
          rw [if_pos h2, if_pos ⟨by omega, hpos⟩, show 64 * a + j - a * 64 = j from by omega, get_some 0 (show j < (D.now (pg.getD a 0).toNat).length by omega)]
        · rw [if_neg h2, ih]
          rw [if_neg (by omega), if_neg (by omega)]
    · rw [memTo_no hpos, ih]
      have : (a < k + 1 ∧ 0 < pg.getD a 0) ↔ (a < k ∧ 0 < pg.getD a 0) := by
        constructor
        · rintro ⟨x, y⟩
          refine ⟨?_, y⟩
          by_cases e : a = k
          · subst e; exact absurd y hpos
          · omega
        · rintro ⟨x, y⟩
          exact ⟨by omega, y⟩
      simp only [this]
theorem mem_ext {X Y : List UInt8} (hX : X.length = 8192) (hY : Y.length = 8192) (h : ∀ a j, a < 128 → j < 64 → X[64 * a + j]? = Y[64 * a + j]?) : X = Y := by
  refine List.ext_getElem? fun i => ?_
  by_cases hi : i < 8192
  · have := h (i / 64) (i % 64) (by omega) (by omega)
    rw [show 64 * (i / 64) + i % 64 = i from by omega] at this
    exact this
  · rw [List.getElem?_eq_none (by omega), List.getElem?_eq_none (by omega)]

/-- The document's Changed. -/
def chgL (b : List UInt8) : List (Int × List UInt8) → List UInt8
  | [] => b
  | c :: r => chgL (splice b (c.1.toNat * 64) c.2) r
theorem chgL_append (b : List UInt8) (l r : List (Int × List UInt8)) : chgL b (l ++ r) = chgL (chgL b l) r := by
  induction l generalizing b with
  | nil => rfl
  | cons c l ih => exact ih _
theorem splice_len8 {b x : List UInt8} {k : Nat} (hb : b.length = 8192) (hk : k < 128) (hx : x.length = 64) : (splice b (k * 64) x).length = 8192 := by
  simp only [splice, List.length_append, List.length_take, List.length_drop, hb, hx]
  omega
theorem chgL_get (P : Nat → Option (List UInt8)) (hP : ∀ k x, P k = some x → x.length = 64) (b : List UInt8) (hb : b.length = 8192) : ∀ K : List Nat, (∀ k ∈ K, k < 128 ∧ (P k).isSome = true) → (chgL b (mergedK P K)).length = 8192 ∧
    ∀ a j, a < 128 → j < 64 → (chgL b (mergedK P K))[64 * a + j]? = if a ∈ K then some (((P a).getD zs64).getD j 0) else b[64 * a + j]? := by
  intro K
  induction K generalizing b with
  | nil => intro _; exact ⟨hb, fun a j _ _ => by rw [if_neg (by simp)]; rfl⟩
  | cons k K ih =>
    intro hK
    obtain ⟨hk, hs⟩ := hK k (by simp)
    obtain ⟨x, hx⟩ := Option.isSome_iff_exists.1 hs
    have e : chgL b (mergedK P (k :: K)) = chgL (splice b (k * 64) x) (mergedK P K) := by
      show chgL (splice b (((k : Nat) : Int).toNat * 64) ((P k).getD zs64)) (mergedK P K) = _
      rw [hx, Int.toNat_natCast]
      rfl
    have hxl := hP k x hx
    obtain ⟨h1, h2⟩ := ih (splice b (k * 64) x) (splice_len8 hb hk hxl) (fun q hq => hK q (List.mem_cons_of_mem _ hq))
    rw [e]
    refine ⟨h1, fun a j ha hj => ?_⟩
    rw [h2 a j ha hj]
    by_cases hm : a ∈ K
    · rw [if_pos hm, if_pos (List.mem_cons_of_mem _ hm)]
    · rw [if_neg hm, splice_get _ _ _ _ (by omega), hxl]
      by_cases e' : a = k
      · subst e'
        rw [if_neg (show ¬ 64 * a + j < a * 64 by omega), if_pos (show 64 * a + j < a * 64 + 64 by omega), if_pos (show a ∈ a :: K by simp), hx, show 64 * a + j - a * 64 = j from by omega, get_some 0 (show j < x.length by omega)]
        rfl
      · rw [if_neg (show ¬ a ∈ k :: K by simp; exact ⟨e', hm⟩)]
        by_cases h3 : 64 * a + j < k * 64
        · rw [if_pos h3]
        · rw [if_neg h3, if_neg (show ¬ 64 * a + j < k * 64 + 64 by omega)]

theorem pg_rng {D : DSt} {N : Nat} {top : Int} {lv pg : List Int} {l : List Nat} (h : readT D N top = some (lv, pg, l)) (a : Nat) (ha : a < 128) : pg.getD a 0 = 0 ∨ (0 < pg.getD a 0 ∧ pg.getD a 0 < (N : Int)) := by
  have hp := readT_pages h
  have hx : pg.getD a 0 = pg[a]'(by have := hp.l128; omega) := by simp [List.getD, show a < pg.length by have := hp.l128; omega]
  rcases (readT_in h).2.1 _ (List.getElem_mem (show a < pg.length by have := hp.l128; omega)) with h | h
  · rw [hx]; exact .inl h
  · rw [hx]; exact .inr ⟨by omega, h.2.1⟩
/-- The new memory. -/
theorem mem_new {s sA sB sC : BSt} {fA fB fC : Nat → Option Int} {P : Nat → Option (List UInt8)} {t : Nat} (H : NewT s sA sB sC fA fB fC P t) (hP : ∀ k x, P k = some x → x.length = 64)
    {lv pg lv' pg' : List Int} {l0 l' : List Nat} (hold : readT s.D s.cs.length (t : Int) = some (lv, pg, l0)) (hh : ∀ k ∈ l0, 0 < s.cs.getD k 0) (hnew : readT sC.D s.cs.length ((fC 0).getD 0) = some (lv', pg', l'))
    (hD : s.D.Ok s.cs.length) (hD' : sC.D.Ok s.cs.length) (hd : s.D.down = false) (hd' : sC.D.down = false) : memTo sC.D pg' 128 = chgL (memTo s.D pg 128) (mergedOf P) := by
  obtain ⟨c1, c2⟩ := chgL_get P hP (memTo s.D pg 128) (memTo_len hD pg 128 (Nat.le_refl _)) (keysF P) (fun k hk => keysF_mem.1 hk)
  refine mem_ext (memTo_len hD' pg' 128 (Nat.le_refl _)) c1 fun a j ha hj => ?_
  have e2 := c2 a j ha hj
  unfold mergedOf
  rw [e2, mem_get hD' hd' (pg_rng hnew) 128 (Nat.le_refl _) a j ha hj, mem_get hD hd (pg_rng hold) 128 (Nat.le_refl _) a j ha hj]
  have hpl := H.page hold hh hnew ha
  by_cases hm : a ∈ keysF P
  · rw [if_pos hm]
    obtain ⟨h1, h2⟩ := hpl.1 hm
    by_cases hz : (P a).getD zs64 = zs64
    · rw [h1 hz, if_neg (by omega), hz]
      congr 1
      unfold zs64
      rw [List.getD_eq_getElem?_getD, List.getElem?_replicate]
      split <;> rfl
    · obtain ⟨n, g1, g2, g3⟩ := h2 hz
      rw [g1, if_pos (by omega), Int.toNat_natCast, g3]
  · rw [if_neg hm, hpl.2 hm]
    congr 1
    by_cases h0 : 0 < pg.getD a 0
    · rw [if_pos ⟨ha, h0⟩, if_pos ⟨ha, h0⟩]
      have hin : (pg.getD a 0).toNat ∈ l0 := by
        have e := pages_vals hold ha
        rw [e]
        exact old_in hold (by omega) (by rw [← e]; omega)
      rw [(H.heldC (hh _ hin)).2]
    · rw [if_neg (fun h => h0 h.2), if_neg (fun h => h0 h.2)]
end Go.Proofs.YtacghpabjmnfiaaGreatDoor
namespace Go.Proofs.YtacghpabjmnfiaaGreatDoor
open Go.RowKit Go.Maps

theorem build_newT {D : DSt} {cs : List Nat} {K : Nat} (hok : BOk D cs K) (t : Nat) {l : List ChV} (hg : ∀ a ∈ l, a.good) (hn : needs D t l ≤ Sp.nfree cs) (hk : keysF (latestF l) ≠ []) :
    NewT ⟨D, cs, K⟩ (t1 bnxt (latestF l) ⟨D, cs, K⟩).1 (t2 bnxt (leafG D (nodeD D t) (keysF (latestF l))) (latestF l) ⟨D, cs, K⟩).1 (t3 bnxt (nodeD D t) (leafG D (nodeD D t) (keysF (latestF l))) (latestF l) ⟨D, cs, K⟩).1
      (t1 bnxt (latestF l) ⟨D, cs, K⟩).2 (t2 bnxt (leafG D (nodeD D t) (keysF (latestF l))) (latestF l) ⟨D, cs, K⟩).2 (t3 bnxt (nodeD D t) (leafG D (nodeD D t) (keysF (latestF l))) (latestF l) ⟨D, cs, K⟩).2 (latestF l) t := by
  have hP : ∀ k x, latestF l k = some x → x.length = 64 := fun k x hx => latestF_len hg hx
  have hle : needs D t l ≤ 1000 := by
    unfold needs
    rw [if_neg hk]
    have := c1_le (latestF l)
    have := n2_le (leafG D (nodeD D t) (keysF (latestF l))) (latestF l)
    have := n3_le (nodeD D t) (leafG D (nodeD D t) (keysF (latestF l))) (latestF l)
    omega
  have hr := hok.rem (r := needs D t l) hn hle
  unfold needs at hr
  rw [if_neg hk] at hr
  have hr2 : BRem ⟨D, cs, K⟩ (c1 (latestF l) + (n2 (leafG D (nodeD D t) (keysF (latestF l))) (latestF l) + n3 (nodeD D t) (leafG D (nodeD D t) (keysF (latestF l))) (latestF l))) := by
    rw [← Nat.add_assoc]
    exact hr
  have h1 := t1_rem bnxt_nx hP hr2
  rw [← c2_eq bnxt_nx hP hr2] at h1
  have h2 := t2_rem bnxt_nx hP (leafG D (nodeD D t) (keysF (latestF l))) hr2
  rw [← c3_eq bnxt_nx hP (nodeD D t) (leafG D (nodeD D t) (keysF (latestF l))) hr2] at h2
  refine ⟨?_, ?_, ?_, ?_, ?_, ?_, hok.small⟩
  · exact laid_ok zs64 (fun xs => xs) (latestF l) ⟨D, cs, K⟩ _ (keysF (latestF l)) (keysF_nodup _) (fun k x h _ => hP k x h) hr2
  · exact laid_ok z32 (fun zs => encB zs 32) _ _ _ _ (keysF_nodup _) (fun k x _ _ => encB_len x 32) h1
  · exact laid_ok z32 (fun zs => encB zs 32) _ _ 0 [0] (by simp) (fun k x _ _ => encB_len x 32) h2
  · exact fun k hk => laid_out zs64 (fun xs => xs) _ _ _ k hk
  · exact fun k hk => laid_out z32 (fun zs => encB zs 32) _ _ _ k hk
  · exact fun k hk => laid_out z32 (fun zs => encB zs 32) _ _ _ k hk

theorem build_new {D : DSt} {cs : List Nat} {K : Nat} (hok : BOk D cs K) (t : Nat) {l : List ChV} (hg : ∀ a ∈ l, a.good) (hn : needs D t l ≤ Sp.nfree cs) (hD : D.Ok cs.length) (hD' : (rebV bnxt D t 0 l ⟨D, cs, K⟩).2.2.D.Ok cs.length)
    {lv pg : List Int} {l0 : List Nat} (hold : readT D cs.length (t : Int) = some (lv, pg, l0)) (hh : ∀ k ∈ l0, 0 < cs.getD k 0) :
    ∃ lv' pg' l', readT (rebV bnxt D t 0 l ⟨D, cs, K⟩).2.2.D cs.length (rebV bnxt D t 0 l ⟨D, cs, K⟩).1 = some (lv', pg', l') ∧ memTo (rebV bnxt D t 0 l ⟨D, cs, K⟩).2.2.D pg' 128 = chgL (memTo D pg 128) (mergedOf (latestF l)) ∧
      ∀ n, 0 < cs.getD n 0 → (rebV bnxt D t 0 l ⟨D, cs, K⟩).2.2.D.now n = D.now n := by
  have hup := (build_rem hok t hg hn).up
  by_cases hk : keysF (latestF l) = []
  · rw [rebV_none bnxt D t _ hg hk] at hup ⊢
    refine ⟨lv, pg, l0, hold, ?_, fun _ _ => rfl⟩
    unfold mergedOf
    rw [hk]
    rfl
  · have H := build_newT hok t hg hn hk
    rw [rebV_some bnxt D t _ hg hk] at hup hD' ⊢
    obtain ⟨lv', pg', hnew⟩ := H.reads hold hh
    exact ⟨lv', pg', _, hnew, mem_new H (fun k x hx => latestF_len hg hx) hold hh hnew hD hD' hok.up hup, fun n hn' => (H.heldC hn').2⟩
end Go.Proofs.YtacghpabjmnfiaaGreatDoor
