/-
  The document's disk: its sectors, a row of slices, each with 64 bytes of its own.
-/
import Derived.Test.YthbdhmjmboliiaaDkKeep
import Derived.Test.YthbdhmjmboliiaaBoth
namespace Go.Proofs.Ythbdhmjmboliiaa
open Go.RowKit

/-- k sectors: the row v, the i-th one's bytes in block G i. -/
structure Secs (w : World) (T k : Nat) (v : Value) (G : Nat → Nat) (zs : Nat → List UInt8) : Prop where
  own : w.ownsRow T 30 1 v k ((List.range k).map fun i => .slice (some ⟨G i, 0, none⟩) 64 64)
  row : ∀ i, i < k → Row8 w (G i) 5 (zs i) ∧ (zs i).length = 64 ∧ T ≤ G i ∧ v.ownBlock ≠ some (G i)
  inj : ∀ i j, i < k → j < k → G i = G j → i = j
theorem Secs.lt {w : World} {T k : Nat} {v : Value} {G : Nat → Nat} {zs : Nat → List UInt8} (h : Secs w T k v G zs) (b : Nat) (e : v.ownBlock = some b) : T ≤ b ∧ b < w.heap.size := World.ownsRow.lt h.own b e
theorem Row8.keepB {w w' : World} {g : Nat} {t : TypeId} {zs : List UInt8} (h : Row8 w g t zs) (e : w'.heap[g]? = w.heap[g]?) : Row8 w' g t zs := by
  obtain ⟨c, h1, h2⟩ := h
  exact ⟨c, e.trans h1, h2⟩
theorem ownsRow_keepB {w w' : World} {T k : Nat} {t : TypeId} {v : Value} {vs : List Value} (h : w.ownsRow T t 1 v k vs) (e : ∀ b, v.ownBlock = some b → w'.heap[b]? = w.heap[b]?) : w'.ownsRow T t 1 v k vs := by
  obtain ⟨h0, h1⟩ := h
  refine ⟨h0, ?_⟩
  rcases h1 with hn | ⟨g, cap, cur, hv, hb, hgg, rest⟩
  · exact .inl hn
  · exact .inr ⟨g, cap, cur, hv, hb, (e g (by rw [hv]; rfl)).trans hgg, rest⟩
theorem Secs.keep {w w' : World} {F : Nat → Prop} {T k : Nat} {v : Value} {G : Nat → Nat} {zs : Nat → List UInt8} (h : Secs w T k v G zs) (kp : Keeps F w w') (hF : ∀ b, T ≤ b → b < w.heap.size → ¬ F b) : Secs w' T k v G zs :=
  ⟨ownsRow_keepB h.own fun b e => kp.block b (h.lt b e).2 (hF b (h.lt b e).1 (h.lt b e).2), fun i hi => ⟨(h.row i hi).1.keepB (kp.block _ (h.row i hi).1.lt_ (hF _ (h.row i hi).2.2.1 (h.row i hi).1.lt_)), (h.row i hi).2⟩, h.inj⟩
theorem Secs.start (w : World) (T : Nat) (G : Nat → Nat) (zs : Nat → List UInt8) : Secs w T 0 (.slice none 0 0) G zs :=
  ⟨World.ownsRow_nil _ _ _ _, fun i hi => absurd hi (Nat.not_lt_zero i), fun i _ hi => absurd hi (Nat.not_lt_zero i)⟩
theorem Secs.form {w : World} {T k : Nat} {v : Value} {G : Nat → Nat} {zs : Nat → List UInt8} (h : Secs w T k v G zs) : ∃ A cap, v = .slice A k cap := by
  rcases h.own.2 with ⟨rfl, hn⟩ | ⟨_, cap, _, e, _⟩
  · exact ⟨none, 0, by rw [hn]⟩
  · exact ⟨_, cap, e⟩
/-- One sector more, its bytes in a block of its own. -/
theorem Secs.app {w : World} {T k : Nat} {v : Value} {G : Nat → Nat} {zs : Nat → List UInt8} (h : Secs w T k v G zs) (hT : T ≤ w.heap.size) (hk : k ≤ 2000) (g0 : Nat) (hr : Row8 w g0 5 (zs k)) (hz : (zs k).length = 64) (hT0 : T ≤ g0) (hv : v.ownBlock ≠ some g0) (hn : ∀ i, i < k → G i ≠ g0) (g c' : Nat) (ty : TypeId) (hg : w.cell? ⟨g, 0, none⟩ = some (.slice (some ⟨g0, 0, none⟩) 64 64)) :
    ∃ v' w', (Builtin.append_ #[44, 44] ty #[v, .slice (some ⟨g, 0, none⟩) 1 c']).run Try.prog w = .ok v' w' ∧ Secs w' T (k + 1) v' (fun i => if i = k then g0 else G i) zs ∧ Keeps (fun b => v.ownBlock = some b) w w' := by
  obtain ⟨i0, hi, hz0, hz1, hz2⟩ := info_parts Try.info30
  obtain ⟨v', w', hrun, hown, hgr, _, hblk⟩ := run_append_own_at (P := Try.prog) w T 44 ty 30 i0 _ 1 24 Try.underlying44 hi hz0 hz1 hz2 rfl (by decide) v k _ h.own ⟨g, 0, none⟩ 1 c' [.slice (some ⟨g0, 0, none⟩) 64 64] rfl (fun j u hu => by
    match j, hu with
    | 0, hu => cases hu; exact hg
    | j + 1, hu => simp at hu) (by intro u hu; simp at hu; subst hu; rfl) (by unfold maxLen; omega) (by omega) hT
  have hkp : Keeps (fun b => v.ownBlock = some b) w w' := Keeps.grown _ hgr fun _ e => e
  have hlt0 := hr.lt_
  have nb : ∀ b, b < w.heap.size → v.ownBlock ≠ some b → v'.ownBlock ≠ some b := fun b hb hne e => by
    rcases hblk with e1 | e1
    · rw [e1] at e; exact hne e
    · rw [e1] at e; simp only [Option.some.injEq] at e; omega
  refine ⟨v', w', hrun, ⟨?_, fun i hi => ?_, fun i j hi hj e => ?_⟩, hkp⟩
  · have e1 : (List.range (k + 1)).map (fun i => Value.slice (some ⟨if i = k then g0 else G i, 0, none⟩) 64 64) = (List.range k).map (fun i => Value.slice (some ⟨G i, 0, none⟩) 64 64) ++ [.slice (some ⟨g0, 0, none⟩) 64 64] := by
      rw [List.range_succ, List.map_append]
      congr 1
      · refine List.map_congr_left fun i hi => ?_
        rw [if_neg (by have := List.mem_range.1 hi; omega)]
      · simp
    rw [e1]; exact hown
  · by_cases e : i = k
    · subst e
      rw [if_pos rfl]
      exact ⟨hr.keepB (hkp.block _ hlt0 hv), hz, hT0, nb _ hlt0 hv⟩
    · rw [if_neg e]
      have hh := h.row i (by omega)
      exact ⟨hh.1.keepB (hkp.block _ hh.1.lt_ hh.2.2.2), hh.2.1, hh.2.2.1, nb _ hh.1.lt_ hh.2.2.2⟩
  · by_cases ei : i = k
    · by_cases ej : j = k
      · omega
      · rw [if_pos ei, if_neg ej] at e
        exact absurd e.symm (hn j (by omega))
    · by_cases ej : j = k
      · rw [if_neg ei, if_pos ej] at e
        exact absurd e (hn i (by omega))
      · rw [if_neg ei, if_neg ej] at e
        exact h.inj i j (by omega) (by omega) e
/-- The i-th, read. -/
theorem Secs.at_ {w : World} {T k : Nat} {v : Value} {G : Nat → Nat} {zs : Nat → List UInt8} (h : Secs w T k v G zs) (i : Nat) (hi : i < k) : ∃ g cap, v = .slice (some ⟨g, 0, none⟩) k cap ∧ w.cell? ⟨g, i, none⟩ = some (.slice (some ⟨G i, 0, none⟩) 64 64) := by
  obtain ⟨g, cap, hv, _, _⟩ := World.ownsRow.form h.own (by omega)
  have := World.ownsRow.cells h.own (g := g) (by rw [hv]; rfl) i (.slice (some ⟨G i, 0, none⟩) 64 64) (by simp [hi])
  have e0 : (⟨g, 0, none⟩ : Addr).add i = ⟨g, i, none⟩ := by unfold Addr.add; split <;> simp_all
  rw [e0] at this
  exact ⟨g, cap, hv, this⟩
/-- The i-th sector's bytes are others now. -/
theorem Secs.put {w w' : World} {T k : Nat} {v : Value} {G : Nat → Nat} {zs : Nat → List UInt8} (h : Secs w T k v G zs) (i : Nat) (hi : i < k) (ys : List UInt8) (hl : ys.length = 64) (kp : Keeps (· = G i) w w') (hr : Row8 w' (G i) 5 ys) : Secs w' T k v G (fun j => if j = i then ys else zs j) := by
  refine ⟨ownsRow_keepB h.own fun b e => kp.block b (h.lt b e).2 (fun eb => (h.row i hi).2.2.2 (by rw [← eb]; exact e)), fun j hj => ?_, h.inj⟩
  by_cases e : j = i
  · subst e
    rw [if_pos rfl]
    exact ⟨hr, hl, (h.row j hj).2.2⟩
  · rw [if_neg e]
    have hh := h.row j hj
    exact ⟨hh.1.keepB (kp.block _ hh.1.lt_ (fun eb => e (h.inj j i hj hi eb))), hh.2⟩
end Go.Proofs.Ythbdhmjmboliiaa
