/-
  FsRange
-/
import Derived.Test.YthbkjndnconakaaGA
import Derived.Test.YthbkjndnconakaaGNd
namespace Go.Proofs.Ythbkjndnconakaa
open Go.RowKit
set_option linter.unusedVariables false

theorem others_put {W : World} {l : Nat} {o : Obj} (o' : Obj) (h : W.heap[l]? = some o) (D : Nat) (d : Obj) (hd : W.heap[D]? = some d) (hne : D ≠ l) : (W.putObj l o').heap[D]? = some d := (World.putObj_heap_other hne).trans hd

section
variable {F : Fence} {n : Nat} {P : Program} {α : Type} {g : Operand} {ps : Array Tmp} {assign body : Code} {Q : Exit → Act → World → Prop} {a : Act} {w w0 : World} {gf : Nat} {lb : Array Value} {encs : α → Array Value} {S Sp : List α → Prop} {N : Nat}
/-- M: what is so behind the assignment. -/
theorem wpIn_range_new (hro : F.round = none) (h1 : 1 ≤ n) (hg : a.eval g = .func (.func gf) #[] lb) (hFg : F.fn gf) (eg : ∀ args w, (callFunc gf args).run P w = .ok (.enter gf args) w)
    (hseq : SeqStopsK F (n - 1) P gf lb encs (fun _ _ => True) S Sp N w0) (hb0 : Below w0.heap.size w0 w) (hps : ∀ x, (encs x).size = ps.size)
    (I : List α → World → Prop) (Ix : Code → List α → World → Prop) (M : List α → α → Act → World → Prop)
    (hI : OwnFrom w.heap.size I) (hIx : ∀ c, OwnFrom w.heap.size (Ix c)) (hM : ∀ pre x, OwnFrom w.heap.size (M pre x)) (h0 : I [] w)
    (hassign : ∀ (l : Nat) (pre : List α) (x : α) (W : World), I pre W → pre.length < N →
      assign.wpIn (F.inRound l) (n - 1 - 1) P (Exit.then (fun a₁ W₁ => KeepsOthers W W₁ ∧ M pre x a₁ W₁) (fun _ _ _ => False)) { tmps := (ps.zip (encs x)).foldl (fun t (p, v) => t.setIfInBounds p v) a.tmps, defers := [] } W)
    (hbody : ∀ (l : Nat) (pre : List α) (x : α) (a₁ : Act) (W : World), M pre x a₁ W → body.wpIn (F.inRound l) (n - 1 - 1) P (ownPostK (fun _ _ => True) I Ix (pre ++ [x]) W) a₁ W)
    (hdone : ∀ (D : Nat) (xs : List α) (W : World), w.heap.size ≤ D → S xs → I xs W → W.heap[D]? = some (.deferred (some [])) → Q .normal { a with defers := { target := .collected D, args := #[] } :: a.defers } W)
    (hstop : ∀ (D : Nat) (c : Code) (pre : List α) (W : World), w.heap.size ≤ D → Sp pre → Ix c pre W → W.heap[D]? = some (.deferred (some [])) → c.wpIn F n P Q { a with defers := { target := .collected D, args := #[] } :: a.defers } W) :
    (Code.rangeFunc g ps assign body).wpIn F n P Q a w := by
  refine wpIn_rangeFunc ?_
  intro fn hfn
  rw [hro]
  -- the loop's own two blocks
  obtain ⟨rec, hrec⟩ : ∃ rec : LoopState → Option Code → Loop, rec = fun st pe => { state := st, pending := pe, fn, tmps := a.tmps, params := ps, assign, body, defers := w.heap.size } := ⟨_, rfl⟩
  obtain ⟨W1, hW1⟩ : ∃ W1, (w.alloc (.deferred (some []))).alloc (.loop (rec .ready none)) = W1 := ⟨_, rfl⟩
  have bl : Below w.heap.size w W1 := by rw [← hW1]; exact ((Below.refl _ w).alloc (Nat.le_refl _) _).alloc (by simp) _
  have sz : W1.heap.size = w.heap.size + 2 := by rw [← hW1]; simp
  have hl1 : W1.heap[w.heap.size + 1]? = some (.loop (rec .ready none)) := by
    rw [← hW1]
    have := World.alloc_heap_new (w.alloc (.deferred (some []))) (.loop (rec .ready none))
    rwa [World.size_alloc] at this
  have hd1 : W1.heap[w.heap.size]? = some (.deferred (some [])) := by
    rw [← hW1]
    exact (Below.heap_alloc _ _ _ (by simp)).trans (World.alloc_heap_new w _)
  have hi1 : I [] W1 := by rw [← hW1]; exact hI.alloc _ (hI.alloc _ h0)
  -- what is kept of both beside an own statement
  have keepRow : ∀ {A B : World} {row : Option Nat}, A.grownBy B row → (∀ r, row = some r → W1.heap.size ≤ r ∧ ∃ o : Obj, A.heap[r]? = some o ∧ o.isWalk = true) → ∀ {k : Nat} {o : Obj}, k < W1.heap.size → A.heap[k]? = some o → B.heap[k]? = some o := fun hg hr k o hk ho =>
    (hg.block k (Array.getElem?_eq_some_iff.1 ho).1 (fun e => by have := (hr k e.symm).1; omega)).trans ho
  have toOwn : ∀ {A : World} {row : Option Nat}, (∀ r, row = some r → W1.heap.size ≤ r ∧ ∃ o : Obj, A.heap[r]? = some o ∧ o.isWalk = true) → ∀ r, row = some r → w.heap.size ≤ r ∧ ∃ o : Obj, A.heap[r]? = some o ∧ o.isCells = false := fun hr r e => by
    obtain ⟨h2, o, ho, hw⟩ := hr r e
    exact ⟨by omega, o, ho, Obj.not_cells_of_walk hw⟩
  refine ⟨w.heap.size + 1, [{ target := .collected w.heap.size, args := #[] }], W1, { target := .fn (.func gf) lb, args := #[.func (.yield (w.heap.size + 1)) #[] #[]] }, W1, gf, #[.func (.yield (w.heap.size + 1)) #[] #[]] ++ lb, W1, ?_, ?_, ?_, ?_, fun _ => h1, ?_⟩
  · rw [← hW1, hrec]; exact run_enterLoop_outer _ _ _ _ _
  · simp only [resolve, hg]
    simp [go_sem]
  · intro f' hf'; simp [Target.leads] at hf'; subst hf'; exact hFg
  · simp [invoke, go_sem, eg]
  · refine (hseq (w.heap.size + 1)
      (fun pre W => I pre W ∧ W.heap[w.heap.size + 1]? = some (.loop (rec .ready none)) ∧ W.heap[w.heap.size]? = some (.deferred (some [])))
      (fun pre W => ∃ c, Ix c pre W ∧ W.heap[w.heap.size + 1]? = some (.loop (rec .done (some c))) ∧ W.heap[w.heap.size]? = some (.deferred (some [])))
      W1 (hb0.trans (bl.mono hb0.size))
      (fun s A B row hs hg hr => ⟨hI s A B row hs.1 hg (toOwn hr), keepRow hg hr (by omega) hs.2.1, keepRow hg hr (by omega) hs.2.2⟩)
      (fun s A B row ⟨c, h2, h3, h4⟩ hg hr => ⟨c, hIx c s A B row h2 hg (toOwn hr), keepRow hg hr (by omega) h3, keepRow hg hr (by omega) h4⟩)
      ?round ⟨hi1, hl1, hd1⟩).mono ?behind
    case round =>
      rintro pre x W ⟨hi, hl, hd⟩ hlen
      have hy := run_yield (P := P) (args := encs x) hl (by rw [hrec]; exact hps x)
      rw [hrec] at hy
      refine ⟨fn, _, assign, body, hy, roundIn_of_wpIn hfn (wpIn_mono (hassign _ pre x W hi hlen) ?_)⟩
      clear hy
      intro e a₁ Wa hq
      cases e with
      | normal =>
        obtain ⟨ka, hm⟩ := hq
        have hla := ka.same _ _ hl rfl
        have hda := ka.same _ _ hd rfl
        refine ⟨_, run_beginRound hla (by rw [hrec]), wpIn_mono (hbody _ pre x a₁ _ ((hM pre x).putObj _ hm (by omega) hla rfl)) ?_⟩
        have hlb : (Wa.putObj (w.heap.size + 1) (.loop { rec .ready none with state := .busy })).heap[w.heap.size + 1]? = some (.loop { rec .ready none with state := .busy }) := World.putObj_heap_same (Array.getElem?_eq_some_iff.1 hla).1
        have hdb : (Wa.putObj (w.heap.size + 1) (.loop { rec .ready none with state := .busy })).heap[w.heap.size]? = some (.deferred (some [])) := (World.putObj_heap_other (by omega)).trans hda
        -- the round's end, with a jump or none
        have fin : ∀ (jump : Option Code) (Wb : World), KeepsOthers (Wa.putObj (w.heap.size + 1) (.loop { rec .ready none with state := .busy })) Wb →
            ∃ Wc, (Instr.endRound (w.heap.size + 1) jump).run P Wb = .ok (.bool jump.isNone) Wc ∧ Wc = Wb.putObj (w.heap.size + 1) (.loop (rec (if jump.isNone then .ready else .done) jump)) ∧ (∃ o, Wb.heap[w.heap.size + 1]? = some o ∧ o.isCells = false) ∧
              Wc.heap[w.heap.size + 1]? = some (.loop (rec (if jump.isNone then .ready else .done) jump)) ∧ Wc.heap[w.heap.size]? = some (.deferred (some [])) := fun jump Wb kb => by
          have h2 := kb.same _ _ hlb rfl
          have h3 := kb.same _ _ hdb rfl
          have hr := run_endRound (P := P) jump h2
          rw [hrec] at hr ⊢
          exact ⟨_, hr, rfl, ⟨_, h2, rfl⟩, World.putObj_heap_same (Array.getElem?_eq_some_iff.1 h2).1, (World.putObj_heap_other (by omega)).trans h3⟩
        intro e a₂ Wb hq2
        cases e with
        | normal =>
          obtain ⟨kb, _, hi2⟩ := hq2
          obtain ⟨Wc, hr, rfl, ⟨o, ho, hoc⟩, h4, h5⟩ := fin none Wb kb
          exact ⟨_, _, hr, .inl ⟨rfl, ⟨hI.putObj _ hi2 (by omega) ho hoc, h4, h5⟩, trivial⟩⟩
        | ret =>
          obtain ⟨kb, hi2⟩ := hq2
          obtain ⟨Wc, hr, rfl, ⟨o, ho, hoc⟩, h4, h5⟩ := fin (some .ret) Wb kb
          exact ⟨_, _, hr, .inr ⟨rfl, .ret, (hIx _).putObj _ hi2 (by omega) ho hoc, h4, h5⟩⟩
        | exit id =>
          obtain ⟨kb, hi2⟩ := hq2
          obtain ⟨Wc, hr, rfl, ⟨o, ho, hoc⟩, h4, h5⟩ := fin (some (.exit id)) Wb kb
          exact ⟨_, _, hr, .inr ⟨rfl, .exit id, (hIx _).putObj _ hi2 (by omega) ho hoc, h4, h5⟩⟩
        | goto t =>
          obtain ⟨kb, hi2⟩ := hq2
          obtain ⟨Wc, hr, rfl, ⟨o, ho, hoc⟩, h4, h5⟩ := fin (some (.goto t)) Wb kb
          exact ⟨_, _, hr, .inr ⟨rfl, .goto t, (hIx _).putObj _ hi2 (by omega) ho hoc, h4, h5⟩⟩
        | panic ch => exact hq2.elim
        | outgrown => exact hq2.elim
      | ret => exact hq.elim
      | exit id => exact hq.elim
      | goto t => exact hq.elim
      | panic ch => exact hq.elim
      | outgrown => exact hq.elim
    case behind =>
      rintro e W2 ⟨⟨v, rfl⟩, (⟨xs, hS, hi, hl, hd⟩ | ⟨pre, hSp, c, hi, hl, hd⟩)⟩
      · have hr := run_endLoop (P := P) hl (by rw [hrec]; simp)
        rw [hrec] at hr
        exact ⟨none, _, hr, hdone _ xs _ (Nat.le_refl _) hS (hI.putObj _ hi (by omega) hl rfl) ((World.putObj_heap_other (by omega)).trans hd)⟩
      · have hr := run_endLoop (P := P) hl (by rw [hrec]; simp)
        rw [hrec] at hr
        exact ⟨some c, _, hr, hstop _ c pre _ (Nat.le_refl _) hSp ((hIx c).putObj _ hi (by omega) hl rfl) ((World.putObj_heap_other (by omega)).trans hd)⟩
end
end Go.Proofs.Ythbkjndnconakaa
