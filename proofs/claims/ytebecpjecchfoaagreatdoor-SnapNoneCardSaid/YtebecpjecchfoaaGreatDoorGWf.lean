/-
  Merged by wip/tools/merge.py: WkFold WkPlain
-/
import Derived.Test.YtebecpjecchfoaaGreatDoorGTr
import Derived.Test.YtebecpjecchfoaaGreatDoorGNd
namespace Go.Proofs.YtebecpjecchfoaaGreatDoor
open Go.RowKit

/-- One page more. -/
def stepPg (N i : Nat) (s : List Int × List Nat) (e : EN) : Option (List Int × List Nat) := (addS N s.2 e.1.2).map fun l => (s.1.set (i * 32 + e.1.1) e.1.2, l)
def foldPg (N i : Nat) (s : List Int × List Nat) (es : List EN) : Option (List Int × List Nat) := es.foldl (fun o e => o.bind fun q => stepPg N i q e) (some s)
theorem foldPg_snoc (N i : Nat) (s : List Int × List Nat) (es : List EN) (e : EN) : foldPg N i s (es ++ [e]) = (foldPg N i s es).bind fun q => stepPg N i q e := by simp [foldPg]
theorem goPg_fold (N i : Nat) (zs : List Int) (hl : zs.length = 32) (s : List Int × List Nat) : ∀ k, k ≤ 32 → ((foldPg N i s (entsK zs k)).bind fun q => goPg N i (zs.drop k) k q) = goPg N i zs 0 s
  | 0, _ => rfl
  | k + 1, hk => by
    rw [← goPg_fold N i zs hl s k (by omega)]
    by_cases hz : zs.getD k 0 = 0
    · rw [entsK_no zs k hz]
      congr 1
      funext q
      exact (goPg_skip (by omega) hz).symm
    · rw [entsK_yes zs k ⟨by omega, hz⟩, foldPg_snoc, Option.bind_assoc]
      congr 1
      funext q
      unfold stepPg
      cases ha : addS N q.2 (zs.getD k 0) with
      | none => rw [goPg_none (by omega) hz ha]; rfl
      | some l => rw [goPg_some (by omega) hz ha]; rfl
theorem goPg_all32 (N i : Nat) (zs : List Int) (hl : zs.length = 32) (s : List Int × List Nat) : foldPg N i s (entsK zs 32) = goPg N i zs 0 s := by
  rw [← goPg_fold N i zs hl s 32 (Nat.le_refl _), List.drop_of_length_le (by omega)]
  cases foldPg N i s (entsK zs 32) <;> rfl

/-- One leaf more, with its pages. -/
def stepLf (N : Nat) (nd : Nat → List Int) (s : List Int × List Int × List Nat) (e : EN) : Option (List Int × List Int × List Nat) :=
  if 4 ≤ e.1.1 then none else (addS N s.2.2 e.1.2).bind fun l => (goPg N e.1.1 (nd e.1.2.toNat) 0 (s.2.1, l)).map fun q => (s.1.set e.1.1 e.1.2, q.1, q.2)
def foldLf (N : Nat) (nd : Nat → List Int) (s : List Int × List Int × List Nat) (es : List EN) : Option (List Int × List Int × List Nat) := es.foldl (fun o e => o.bind fun q => stepLf N nd q e) (some s)
theorem foldLf_snoc (N : Nat) (nd : Nat → List Int) (s : List Int × List Int × List Nat) (es : List EN) (e : EN) : foldLf N nd s (es ++ [e]) = (foldLf N nd s es).bind fun q => stepLf N nd q e := by simp [foldLf]
theorem goLf_fold (N : Nat) (nd : Nat → List Int) (zs : List Int) (hl : zs.length = 32) (s : List Int × List Int × List Nat) : ∀ k, k ≤ 32 → ((foldLf N nd s (entsK zs k)).bind fun q => goLf N nd (zs.drop k) k q) = goLf N nd zs 0 s
  | 0, _ => rfl
  | k + 1, hk => by
    rw [← goLf_fold N nd zs hl s k (by omega)]
    by_cases hz : zs.getD k 0 = 0
    · rw [entsK_no zs k hz]
      congr 1
      funext q
      exact (goLf_skip (by omega) hz).symm
    · rw [entsK_yes zs k ⟨by omega, hz⟩, foldLf_snoc, Option.bind_assoc]
      congr 1
      funext q
      by_cases h4 : 4 ≤ k
      · rw [goLf_far (by omega) hz h4]
        unfold stepLf
        rw [if_pos h4]
        rfl
      · unfold stepLf
        rw [if_neg h4]
        cases ha : addS N q.2.2 (zs.getD k 0) with
        | none => rw [goLf_none (by omega) hz h4 ha]; rfl
        | some l =>
          rw [goLf_some (by omega) hz h4 ha, Option.bind_some]
          cases goPg N k (nd (zs.getD k 0).toNat) 0 (q.2.1, l) <;> rfl
theorem goLf_all32 (N : Nat) (nd : Nat → List Int) (zs : List Int) (hl : zs.length = 32) (s : List Int × List Int × List Nat) : foldLf N nd s (entsK zs 32) = goLf N nd zs 0 s := by
  rw [← goLf_fold N nd zs hl s 32 (Nat.le_refl _), List.drop_of_length_le (by omega)]
  cases foldLf N nd s (entsK zs 32) <;> rfl

end Go.Proofs.YtebecpjecchfoaaGreatDoor
namespace Go.Proofs.YtebecpjecchfoaaGreatDoor
open Go.RowKit

/-- Sectors, each with its page (-1: none). -/
abbrev PL := List (Nat × Int)
theorem snoc_ind {α : Type} {P : List α → Prop} (h0 : P []) (hs : ∀ l x, P l → P (l ++ [x])) (l : List α) : P l := by
  have : ∀ (n : Nat) (l : List α), l.length = n → P l := by
    intro n
    induction n with
    | zero => intro l h; rw [List.length_eq_zero_iff.1 h]; exact h0
    | succ n ih =>
      intro l h
      rcases List.eq_nil_or_concat l with rfl | ⟨q, y, rfl⟩
      · cases h
      · rw [List.concat_eq_append] at h ⊢
        exact hs _ _ (ih q (by simpa using h))
  exact this _ l rfl
/-- One page more. -/
def stepP (N i : Nat) (s : PL) (e : EN) : Option PL := (addS N (s.map Prod.fst) e.1.2).map fun _ => s ++ [(e.1.2.toNat, ((i * 32 + e.1.1 : Nat) : Int))]
def foldP (N i : Nat) (s : PL) (es : List EN) : Option PL := es.foldl (fun o e => o.bind fun q => stepP N i q e) (some s)
theorem foldP_snoc (N i : Nat) (s : PL) (es : List EN) (e : EN) : foldP N i s (es ++ [e]) = (foldP N i s es).bind fun q => stepP N i q e := by simp [foldP]
/-- One leaf more, with its pages. -/
def stepL (N : Nat) (nd : Nat → List Int) (s : PL) (e : EN) : Option PL :=
  if 4 ≤ e.1.1 then none else (addS N (s.map Prod.fst) e.1.2).bind fun _ => foldP N e.1.1 (s ++ [(e.1.2.toNat, -1)]) (entsK (nd e.1.2.toNat) 32)
def foldL (N : Nat) (nd : Nat → List Int) (s : PL) (es : List EN) : Option PL := es.foldl (fun o e => o.bind fun q => stepL N nd q e) (some s)
theorem foldL_snoc (N : Nat) (nd : Nat → List Int) (s : PL) (es : List EN) (e : EN) : foldL N nd s (es ++ [e]) = (foldL N nd s es).bind fun q => stepL N nd q e := by simp [foldL]
theorem foldP_none {N i : Nat} {s : PL} {a b : List EN} (h : foldP N i s a = none) : foldP N i s (a ++ b) = none := by
  unfold foldP at h ⊢
  rw [List.foldl_append, h]
  induction b with
  | nil => rfl
  | cons x r ih => rw [List.foldl_cons]; exact ih
theorem foldL_none {N : Nat} {nd : Nat → List Int} {s : PL} {a b : List EN} (h : foldL N nd s a = none) : foldL N nd s (a ++ b) = none := by
  unfold foldL at h ⊢
  rw [List.foldl_append, h]
  induction b with
  | nil => rfl
  | cons x r ih => rw [List.foldl_cons]; exact ih
theorem foldP_none_pre {N i : Nat} {s : PL} {a l : List EN} (h : foldP N i s a = none) (hp : a <+: l) : foldP N i s l = none := by
  obtain ⟨b, rfl⟩ := hp
  exact foldP_none h
theorem foldL_none_pre {N : Nat} {nd : Nat → List Int} {s : PL} {a l : List EN} (h : foldL N nd s a = none) (hp : a <+: l) : foldL N nd s l = none := by
  obtain ⟨b, rfl⟩ := hp
  exact foldL_none h
/-- What a walk over the tree of a top shows. -/
def walkT (D : DSt) (N : Nat) (top : Int) : Option PL :=
  if top = 0 then some [] else (addS N [] top).bind fun _ => foldL N (nodeR D) [(top.toNat, -1)] (entsK (nodeR D top.toNat) 32)

/-- The pages that were shown. -/
def pgOf (ps : PL) : List Int := ps.foldl (fun pg p => if 0 ≤ p.2 then pg.set p.2.toNat (p.1 : Int) else pg) z128
theorem pgOf_snoc (ps : PL) (p : Nat × Int) : pgOf (ps ++ [p]) = if 0 ≤ p.2 then (pgOf ps).set p.2.toNat (p.1 : Int) else pgOf ps := by simp [pgOf]
theorem foldPg_rel (N i : Nat) (ps : PL) : ∀ es : List EN, foldPg N i (pgOf ps, ps.map Prod.fst) es = (foldP N i ps es).map fun qs => (pgOf qs, qs.map Prod.fst) := by
  refine snoc_ind rfl ?_
  · intro es e ih
    rw [foldPg_snoc, foldP_snoc, ih]
    cases foldP N i ps es with
    | none => rfl
    | some qs =>
      simp only [Option.map_some, Option.bind_some]
      unfold stepPg stepP
      cases ha : addS N (qs.map Prod.fst) e.1.2 with
      | none => rfl
      | some l =>
        obtain ⟨h1, h2, rfl⟩ := addS_some ha
        simp only [Option.map_some]
        rw [pgOf_snoc]
        simp only [List.map_append, List.map_cons, List.map_nil]
        rw [if_pos (by omega), Int.toNat_natCast, show ((e.1.2.toNat : Nat) : Int) = e.1.2 from by omega]
theorem foldLf_rel (N : Nat) (nd : Nat → List Int) (hnd : ∀ k, (nd k).length = 32) (ps : PL) (lv : List Int) : ∀ es : List EN, (foldLf N nd (lv, pgOf ps, ps.map Prod.fst) es).map (fun q => q.2) = (foldL N nd ps es).map fun qs => (pgOf qs, qs.map Prod.fst) := by
  refine snoc_ind rfl ?_
  · intro es e ih
    rw [foldLf_snoc, foldL_snoc]
    cases hL : foldL N nd ps es with
    | none =>
      rw [hL] at ih
      cases hF : foldLf N nd (lv, pgOf ps, ps.map Prod.fst) es with
      | none => rfl
      | some q => rw [hF] at ih; cases ih
    | some qs =>
      rw [hL] at ih
      cases hF : foldLf N nd (lv, pgOf ps, ps.map Prod.fst) es with
      | none => rw [hF] at ih; cases ih
      | some q =>
        obtain ⟨lv', pg, l⟩ := q
        rw [hF] at ih
        simp only [Option.map_some, Option.some.injEq, Prod.mk.injEq] at ih
        obtain ⟨rfl, rfl⟩ := ih
        simp only [Option.bind_some]
        unfold stepLf stepL
        split
        · rfl
        · cases ha : addS N (qs.map Prod.fst) e.1.2 with
          | none => rfl
          | some l =>
            obtain ⟨h1, h2, rfl⟩ := addS_some ha
            simp only [Option.bind_some]
            have hr := foldPg_rel N e.1.1 (qs ++ [(e.1.2.toNat, -1)]) (entsK (nd e.1.2.toNat) 32)
            rw [goPg_all32 N _ _ (hnd _), pgOf_snoc, if_neg (show ¬ (0 : Int) ≤ -1 by decide), List.map_append] at hr
            simp only [List.map_cons, List.map_nil] at hr
            rw [hr]
            cases foldP N e.1.1 (qs ++ [(e.1.2.toNat, -1)]) (entsK (nd e.1.2.toNat) 32) <;> rfl
theorem readT_walk (D : DSt) (N : Nat) (top : Int) : (readT D N top).map (fun q => q.2) = (walkT D N top).map fun ps => (pgOf ps, ps.map Prod.fst) := by
  unfold readT walkT
  split
  · rfl
  · cases ha : addS N [] top with
    | none => rfl
    | some l =>
      obtain ⟨h1, h2, rfl⟩ := addS_some ha
      simp only [Option.bind_some]
      have hr := foldLf_rel N (nodeR D) (nodeR_len D) [(top.toNat, -1)] z4 (entsK (nodeR D top.toNat) 32)
      rw [goLf_all32 N _ _ (nodeR_len D _)] at hr
      have h0 : pgOf [(top.toNat, -1)] = z128 := rfl
      rw [h0] at hr
      simp only [List.map_cons, List.map_nil] at hr
      rw [List.nil_append]
      exact hr
theorem walkT_none {D : DSt} {N : Nat} {top : Int} : walkT D N top = none ↔ readT D N top = none := by
  have := readT_walk D N top
  cases h1 : readT D N top <;> cases h2 : walkT D N top <;> simp_all
theorem walkT_some {D : DSt} {N : Nat} {top : Int} {ps : PL} (h : walkT D N top = some ps) : ∃ lv, readT D N top = some (lv, pgOf ps, ps.map Prod.fst) := by
  have := readT_walk D N top
  rw [h] at this
  cases h1 : readT D N top with
  | none => rw [h1] at this; cases this
  | some q =>
    obtain ⟨lv, q2⟩ := q
    rw [h1] at this
    simp only [Option.map_some, Option.some.injEq] at this
    exact ⟨lv, by rw [this]⟩
theorem entsK_mem (zs : List Int) : ∀ (k : Nat) (e : EN), e ∈ entsK zs k → e.1.2 = zs.getD e.1.1 0
  | 0, e, h => by simp [entsK] at h
  | k + 1, e, h => by
    rw [entsK] at h
    split at h
    · rcases List.mem_append.1 h with h | h
      · exact entsK_mem zs k e h
      · obtain rfl := List.mem_singleton.1 h
        rfl
    · exact entsK_mem zs k e h
theorem nodeR_rng (D : DSt) (s k : Nat) : 0 ≤ (nodeR D s).getD k 0 ∧ (nodeR D s).getD k 0 ≤ 65535 := by
  unfold nodeR decN decT
  rw [List.getD_eq_getElem?_getD, List.getElem?_map]
  by_cases hk : k < 32
  · rw [List.getElem?_range hk]
    simp only [Option.map_some, Option.getD_some]
    rw [if_pos hk]
    have := num2_lt (D.now s) (2 * (k : Int))
    omega
  · rw [List.getElem?_eq_none (by simp; omega)]
    simp
theorem ents_rng {D : DSt} {s : Nat} {pre : List EN} {x : EN} (h : pre ++ [x] <+: entsK (nodeR D s) 32) : ∃ y : Nat, x.1.2 = (y : Int) ∧ 0 < y ∧ y ≤ 65535 := by
  have hm : x ∈ entsK (nodeR D s) 32 := h.subset (by simp)
  have e := entsK_mem _ _ _ hm
  have r := nodeR_rng D s x.1.1
  have hx := x.2.2
  exact ⟨x.1.2.toNat, by omega, by omega, by omega⟩
theorem addS_len {N : Nat} {l l' : List Nat} {x : Int} (h : addS N l x = some l') (hn : l.Nodup) (hb : ∀ k ∈ l, k < N) : l'.Nodup ∧ ∀ k ∈ l', k < N := by
  unfold addS at h
  split at h
  · rename_i hc
    injection h with h
    subst h
    refine ⟨List.nodup_append.2 ⟨hn, by simp, fun a ha b hb' => by simp at hb'; subst hb'; intro e; subst e; exact hc.2.2 ha⟩, fun k hk => ?_⟩
    rcases List.mem_append.1 hk with hk | hk
    · exact hb k hk
    · obtain rfl := List.mem_singleton.1 hk
      have := hc.1
      have := hc.2.1
      omega
  · cases h
end Go.Proofs.YtebecpjecchfoaaGreatDoor
