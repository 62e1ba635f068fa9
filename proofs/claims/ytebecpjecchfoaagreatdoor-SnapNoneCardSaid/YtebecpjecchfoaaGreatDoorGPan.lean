/-
  Merged by wip/tools/merge.py: Pan NdPan
-/
import Derived.Test.YtebecpjecchfoaaGreatDoorGA
import Derived.Test.YtebecpjecchfoaaGreatDoorGNd
namespace Go.Proofs.YtebecpjecchfoaaGreatDoor
open Go.RowKit

/-- A fence that lets everything in. -/
structure OpenF (F : Fence) : Prop where
  fenced : ∀ (P : Program) (m : Machine), m.fenced P F
  room : ∀ k, F.room k
  fn : ∀ f, F.fn f
theorem openWide : OpenF Fence.wide := ⟨fenced_wide, room_wide, fun _ => trivial⟩
theorem OpenF.inRound {F : Fence} (h : OpenF F) (l : Nat) : OpenF (F.inRound l) := ⟨h.fenced, h.room, h.fn⟩

/-- As wpIn, of activations of one function alone. -/
def WpAt (F : Fence) (_ : Nat) (P : Program) (f : FuncId) (c : Code) (Q : Exit → Act → World → Prop) (a : Act) (w : World) : Prop :=
  ∀ (b : Frame) (k : List Item) (cs : List Frame), b.roundOf = F.round → b.fn = f →
    ∃ e a' w', Q e a' w' ∧ ArrivesIn (Machine.fenced P F) P (lone (b.atR a (.code c :: k)) cs w) b k cs e a' w'

section
variable {F : Fence} {n : Nat} {P : Program} {f : FuncId} {Q Q' : Exit → Act → World → Prop} {a : Act} {w : World}
theorem WpAt.of {c : Code} (ho : OpenF F) (h : c.wpIn F n P Q a w) : WpAt F n P f c Q a w := fun b k cs hr _ => h b k cs hr (ho.fn _) (ho.room _)
theorem WpAt.mono {c : Code} (h : WpAt F n P f c Q a w) (hQ : ∀ e a w, Q e a w → Q' e a w) : WpAt F n P f c Q' a w := fun b k cs hr hf =>
  let ⟨e, a', w', q, r⟩ := h b k cs hr hf
  ⟨e, a', w', hQ _ _ _ q, r⟩
theorem WpAt.seq {x y : Code} (ho : OpenF F) (h : WpAt F n P f x (Exit.then (WpAt F n P f y Q) Q) a w) : WpAt F n P f (.seq x y) Q a w := by
  intro b k cs hr hf
  have s0 : StepsIn (Machine.fenced P F) P (lone (b.atR a (.code (.seq x y) :: k)) cs w) (lone (b.atR a (.code x :: .code y :: k)) cs w) := .one (ho.fenced _ _) stepR_seq
  obtain ⟨e, a₁, w₁, hq, harr⟩ := h b (.code y :: k) cs hr hf
  cases e with
  | normal =>
    obtain ⟨e₂, a₂, w₂, hq₂, harr₂⟩ := hq b k cs hr hf
    exact ⟨e₂, a₂, w₂, hq₂, .of_steps (s0.trans harr) harr₂⟩
  | exit id => exact ⟨_, a₁, w₁, hq, .of_steps s0 (.pass (x := .code y) rfl (fun _ _ => .inl (by simp)) harr)⟩
  | goto l => exact ⟨_, a₁, w₁, hq, .of_steps s0 (.pass (x := .code y) rfl (fun _ _ => .inl (by simp)) harr)⟩
  | ret => exact ⟨_, a₁, w₁, hq, .of_steps s0 (.pass (x := .code y) rfl (fun _ _ => .inl (by simp)) harr)⟩
  | panic ch => exact ⟨_, a₁, w₁, hq, .of_steps s0 (.pass (x := .code y) rfl (fun _ _ => .inl (by simp)) harr)⟩
  | outgrown => exact ⟨_, a₁, w₁, hq, .of_steps s0 (.pass (x := .code y) rfl (fun _ _ => .inl (by simp)) harr)⟩
/-- Ends of code that neither jumps nor returns. -/
def npEnd (Q : Exit → Act → World → Prop) : Exit → Act → World → Prop
  | .normal, a, w => Q .normal a w
  | .panic ch, a, w => Q (.panic ch) a w
  | _, _, _ => False
theorem WpAt.block {id : Nat} {c : Code} (ho : OpenF F) (h : WpAt F n P f c (npEnd Q) a w) : WpAt F n P f (.block id c) Q a w := by
  intro b k cs hr hf
  obtain ⟨e, a₁, w₁, hq, harr⟩ := h b (.inBlock id :: k) cs hr hf
  cases e with
  | normal => exact ⟨.normal, a₁, w₁, hq, .head (ho.fenced _ _) stepR_block (StepsIn.trans harr (.one (ho.fenced _ _) stepR_inBlock))⟩
  | panic ch => exact ⟨_, a₁, w₁, hq, .of_steps (.one (ho.fenced _ _) stepR_block) harr⟩
  | exit id' => exact hq.elim
  | goto l => exact hq.elim
  | ret => exact hq.elim
  | outgrown => exact hq.elim

/-- What is asked at a round's end: it goes on, or panics. -/
def roundEnd (P : Program) (l : Nat) (R : Ending → World → Prop) : Exit → Act → World → Prop
  | .normal, _, w => ∃ v w', (Instr.endRound l none).run P w = .ok v w' ∧ R (.returned v) w'
  | .panic ch, a, w => a.defers = [] ∧ R (.panicked ch) w
  | _, _, _ => False

theorem roundIn_of_wpAt {l : Nat} {tmps : Array Value} {assign body : Code} {R : Ending → World → Prop} {fn : Func} (ho : OpenF F) (hf : P.funcs[f]? = some fn)
    (h : WpAt (F.inRound l) n P f assign (Exit.then (fun a₁ w₁ => ∃ w₂, (Instr.beginRound l).run P w₁ = .ok () w₂ ∧ WpAt (F.inRound l) n P f body (roundEnd P l R) a₁ w₂) (fun _ _ _ => False)) { tmps := tmps, defers := [] } w) :
    RoundIn F n P l f tmps assign body w R := by
  refine ⟨ho.fn _, fun c cs _ => ?_⟩
  let b : Frame := { (default : Frame) with fn := f, kind := .normal, roundOf := some l }
  have hb0 : Frame.round l f tmps assign body .normal = b.atR { tmps := tmps, defers := [] } [.code assign, .beginRound, .code body] := by
    simp [Frame.round, Frame.atR, b]
  obtain ⟨e, a₁, w₁, hq, harr⟩ := h b [.beginRound, .code body] (c :: cs) rfl rfl
  rw [← hb0] at harr
  cases e with
  | normal =>
    obtain ⟨w₂, hbr, hbody⟩ := hq
    have s1 : StepsIn (Machine.fenced P (F.inRound l)) P (lone (b.atR a₁ [.beginRound, .code body]) (c :: cs) w₁) (lone (b.atR a₁ [.code body]) (c :: cs) w₂) :=
      .one (ho.fenced _ _) (stepR_beginRound rfl hbr)
    obtain ⟨e₂, a₂, w₃, hq₂, harr₂⟩ := hbody b [] (c :: cs) rfl rfl
    cases e₂ with
    | normal =>
      obtain ⟨v, w₄, hend, hR⟩ := hq₂
      exact ⟨.returned v, w₄, hR, (StepsIn.trans harr s1).trans (StepsIn.trans harr₂ (.one (ho.fenced _ _) (stepR_round_end rfl rfl hend)))⟩
    | panic ch =>
      obtain ⟨hd, hR⟩ := hq₂
      obtain ⟨todo, hs⟩ := harr₂
      exact ⟨.panicked ch, w₃, hR, (StepsIn.trans harr s1).trans (StepsIn.trans hs (.one (ho.fenced _ _) (step_leave_panicked (fr := { b.atR a₂ todo with mode := .panicking ch }) ⟨rfl, hd, fn, hf⟩)))⟩
    | ret => exact hq₂.elim
    | exit id => exact hq₂.elim
    | goto t => exact hq₂.elim
    | outgrown => exact hq₂.elim
  | exit id => exact hq.elim
  | goto t => exact hq.elim
  | ret => exact hq.elim
  | panic chain => exact hq.elim
  | outgrown => exact hq.elim

/-- What is asked when the iterator has ended. -/
def rangeEnd (P : Program) (l : Nat) (Q : Exit → Act → World → Prop) (a' : Act) : Ending → World → Prop
  | .returned _, w₃ => ∃ w₄, (Instr.endLoop l).run P w₃ = .ok none w₄ ∧ Q .normal a' w₄
  | .panicked chain, w₃ => Q (.panic chain) a' w₃
  | .outgrown, _ => False

theorem WpAt.range {g : Operand} {ps : Array Tmp} {assign body : Code} (ho : OpenF F) {l : Nat} {mark : List Deferred} {w₁ : World} {gf : FuncId} {lb : Array Value}
    (he : (Instr.enterLoop f a.tmps ps assign body F.round).run P w = .ok (l, mark) w₁) (hg : a.eval g = .func (.func gf) #[] lb) (eg : ∀ args w, (callFunc gf args).run P w = .ok (.enter gf args) w)
    (hc : CallsIn F (n - 1) P gf (#[.func (.yield l) #[] #[]] ++ lb) w₁ (rangeEnd P l Q { a with defers := mark ++ a.defers })) :
    WpAt F n P f (.rangeFunc g ps assign body) Q a w := by
  intro b k cs hro hb
  rw [← hro, ← hb] at he
  have hres : (resolve a.eval (rangeCall g l) 0).run P w₁ = .ok { target := .fn (.func gf) lb, args := #[.func (.yield l) #[] #[]] } w₁ := by
    simp only [resolve, hg]
    simp [go_sem]
  have hinv : (invoke (.fn (.func gf) lb) #[.func (.yield l) #[] #[]]).run P w₁ = .ok (.enter gf (#[.func (.yield l) #[] #[]] ++ lb)) w₁ := by simp [invoke, go_sem, eg]
  have henter := stepR_rangeFunc (P := P) (b := b) (a := a) (k := k) (cs := cs) (w := w) he hres hinv
  obtain ⟨e, w₃, fr, hR, hsteps, _, hleave⟩ := hc.2 (b.atR { a with defers := mark ++ a.defers } (.inRangeFunc l :: k) :: cs) (ho.room _)
  cases e with
  | outgrown => exact hR.elim
  | returned v =>
    obtain ⟨w₄, hend, hq⟩ := hR
    refine ⟨.normal, _, w₄, hq, .head (ho.fenced _ _) henter (StepsIn.trans hsteps (.head (ho.fenced _ _) ?_ (.one (ho.fenced _ _) (stepR_endRangeFunc (b := b) (a := { a with defers := mark ++ a.defers }) (k := k) (jump := none) hend))))⟩
    rw [← finish_atR_inRangeFunc l v]
    exact step_leave_returned hleave
  | panicked chain =>
    refine ⟨.panic chain, _, w₃, hR, .inRangeFunc l :: k, .head (ho.fenced _ _) henter (StepsIn.trans hsteps (.one (ho.fenced _ _) ?_))⟩
    rw [← Frame.raise_atR]
    exact step_leave_panicked hleave

theorem callsIn_of_wpAt {fn : Func} {c : Code} {args : Array Value} {R : Ending → World → Prop} (ho : OpenF F) (hf : P.funcs[f]? = some fn) (hb : fn.body = some c)
    (h : WpAt F n P f c (bodyPostM F n P fn R) { tmps := args ++ Array.replicate (fn.ntmps - args.size) undef, defers := [] } w) (hro : F.round = none := by rfl) : CallsIn F n P f args w R := by
  refine ⟨ho.fn _, fun cs hr => ?_⟩
  let b : Frame := { (default : Frame) with fn := f, kind := .normal, roundOf := none }
  have henter : Frame.enter P f args .normal = b.atR { tmps := args ++ Array.replicate (fn.ntmps - args.size) undef, defers := [] } [.code c] := by
    simp [Frame.enter, Frame.atR, hf, hb, b]
  obtain ⟨e, a', w', hq, harr⟩ := h b [] cs hro.symm rfl
  rw [← henter] at harr
  cases e with
  | normal =>
    obtain ⟨e', w'', fr', hR, hs, hfn, hl⟩ := leaves_stepsInM a'.defers .returning w' { b.atR a' [] with mode := .returning } cs rfl rfl rfl hf rfl (ho.fn _) hr hq
    exact ⟨e', w'', fr', hR, ComesIn.of_steps (StepsIn.trans harr (.one (ho.fenced _ _) (stepR_end rfl))) hs, hfn, hl⟩
  | ret =>
    obtain ⟨todo, hs₀⟩ := harr.1 rfl
    obtain ⟨e', w'', fr', hR, hs, hfn, hl⟩ := leaves_stepsInM a'.defers .returning w' { b.atR a' todo with mode := .returning } cs rfl rfl rfl hf rfl (ho.fn _) hr hq
    exact ⟨e', w'', fr', hR, ComesIn.of_steps hs₀ hs, hfn, hl⟩
  | panic ch =>
    obtain ⟨todo, hs₀⟩ := harr
    obtain ⟨e', w'', fr', hR, hs, hfn, hl⟩ := leaves_stepsInM a'.defers (.panicking ch) w' { b.atR a' todo with mode := .panicking ch } cs rfl rfl rfl hf rfl (ho.fn _) hr hq
    exact ⟨e', w'', fr', hR, ComesIn.of_steps hs₀ hs, hfn, hl⟩
  | outgrown =>
    rcases harr with h | h
    · cases h
    · exact ⟨.outgrown, w', b, hq, h, rfl, trivial⟩
  | exit id => exact hq.elim
  | goto t => exact hq.elim
end

/-- A drawn region within a round, as outside of any. -/
def noDefer (ops : Array Oper) : Bool := ops.all fun o => match o.op with | .defer _ => false | _ => true
theorem noDefer_at {ops : Array Oper} (h : noDefer ops = true) {i : Nat} {o : Oper} (ho : ops[i]? = some o) (c : Call) : o.op ≠ .defer c := by
  intro e
  obtain ⟨hi, rfl⟩ := Array.getElem?_eq_some_iff.1 ho
  have := (Array.all_eq_true.1 h) i hi
  rw [e] at this
  cases this
theorem wpOpsIn_round {F : Fence} {n : Nat} {P : Program} {ops : Array Oper} {Q : Exit → Act → World → Prop} (l : Nat) (hnd : noDefer ops = true) : ∀ (L : List Nat) (a : Act) (w : World), wpOpsIn F n P ops Q L a w → wpOpsIn (F.inRound l) n P ops Q L a w
  | [], _, _, h => h
  | i :: rest, a, w, h => by
    simp only [wpOpsIn] at h ⊢
    cases ho : ops[i]? with
    | none =>
      simp only [ho] at h
      exact wpOpsIn_round l hnd rest a w h
    | some o =>
      simp only [ho] at h
      by_cases hw : Region.wanted o (yielded ops a.tmps) = true
      · simp only [hw, if_true] at h ⊢
        have h2 := Oper.wpIn_mono (fun a w h => wpOpsIn_round l hnd rest a w h) h
        unfold Oper.wpIn at h2 ⊢
        rw [Oper.semAt_plain _ _ _ (noDefer_at hnd ho)] at h2 ⊢
        exact h2
      · simp only [hw] at h ⊢
        exact ⟨h.1, wpOpsIn_round l hnd rest _ w h.2⟩
theorem wpIn_region_round {F : Fence} {n : Nat} {P : Program} {id : Nat} {ops : Array Oper} {Q : Exit → Act → World → Prop} {a : Act} {w : World} (l : Nat) (hnd : noDefer ops = true) (hm : P.follows .mixedOrders = true)
    (h : wpAnyIn F n P .any ops Q ops.size (Array.replicate ops.size false) a w.drew) : (Code.region id ops true).wpIn (F.inRound l) n P Q a w :=
  wpIn_region_draw fun t => by
    simp only [Region.schedule, hm, Bool.true_or, if_true]
    exact wpOpsIn_round l hnd _ _ _ (wpAnyIn_sound ops.size t _ a _ h)

/-- The contract of an iterator whose rounds go on or panic. -/
def SeqPan {α : Type} (F : Fence) (n : Nat) (P : Program) (g : Nat) (lb : Array Value) (encs : α → Array Value) (St : World → Prop) (S Sp : List α → Prop) (N : Nat) : Prop :=
  ∀ (l : Nat) (J JP : List α → World → Prop) (ch : List PanicEntry) (W : World), St W →
    (∀ pre x W1, J pre W1 → pre.length < N → Sp (pre ++ [x]) → YieldAt F (n - 1) P l (encs x) W1 fun e W' => (e = .returned (.bool true) ∧ J (pre ++ [x]) W') ∨ (e = .panicked ch ∧ JP (pre ++ [x]) W')) →
    J [] W →
    CallsIn F n P g (#[.func (.yield l) #[] #[]] ++ lb) W fun e W' => (∃ v xs, e = .returned v ∧ S xs ∧ J xs W') ∨ (∃ pre, e = .panicked ch ∧ Sp pre ∧ JP pre W')

theorem SeqPan.inRound {α : Type} {F : Fence} {n : Nat} {P : Program} {g : Nat} {lb : Array Value} {encs : α → Array Value} {St : World → Prop} {S Sp : List α → Prop} {N : Nat} (l : Nat) (h : SeqPan F n P g lb encs St S Sp N) : SeqPan (F.inRound l) n P g lb encs St S Sp N := h
theorem Keeps.putObj (W : World) (l : Nat) (o : Obj) : Keeps (· = l) W (W.putObj l o) := ⟨rfl, rfl, rfl, by simp, fun k _ h => World.putObj_heap_other h⟩

/-- How the body of a round may be left: B the first of the loop's own blocks, E the first behind them. -/
def bodyEnd {α : Type} (B E : Nat) (I IP : List α → World → Prop) (ch : List PanicEntry) (xs : List α) (W : World) : Exit → Act → World → Prop
  | .normal, _, W' => (∀ k, B ≤ k → k < E → W'.heap[k]? = W.heap[k]?) ∧ I xs W'
  | .panic c, a, W' => c = ch ∧ a.defers = [] ∧ (∀ k, B ≤ k → k < E → W'.heap[k]? = W.heap[k]?) ∧ IP xs W'
  | _, _, _ => False

section
variable {F : Fence} {n : Nat} {P : Program} {f : FuncId} {Q : Exit → Act → World → Prop} {a : Act} {w : World} {α : Type} {g : Operand} {ps : Array Tmp} {assign body : Code} {fn : Func} {gf : FuncId} {lb : Array Value} {encs : α → Array Value} {St : World → Prop} {S Sp : List α → Prop} {N : Nat} {I IP : List α → World → Prop} {ch : List PanicEntry}

theorem range_core (ho : OpenF F) (hf : P.funcs[f]? = some fn) (hg : a.eval g = .func (.func gf) #[] lb) (eg : ∀ args w, (callFunc gf args).run P w = .ok (.enter gf args) w) (hps : ∀ x, (encs x).size = ps.size)
    {l df B E : Nat} {mark : List Deferred} {w₁ : World} (he : (Instr.enterLoop f a.tmps ps assign body F.round).run P w = .ok (l, mark) w₁)
    (hl1 : w₁.heap[l]? = some (.loop { state := .ready, pending := none, fn := f, tmps := a.tmps, params := ps, assign := assign, body := body, defers := df })) (hB : B ≤ l) (hE : l < E)
    (KD : World → Prop) (hKD : ∀ W W', KD W → (∀ k, B ≤ k → k < E → k ≠ l → W'.heap[k]? = W.heap[k]?) → KD W') (hkd : KD w₁)
    (hseq : SeqPan F (n - 1) P gf lb encs St S Sp N) (hst : St w₁) (hI : ∀ xs W W', I xs W → Keeps (· = l) W W' → I xs W') (h0 : I [] w₁)
    (hround : ∀ (pre : List α) (x : α) (W : World), I pre W → (∃ r, W.heap[l]? = some (.loop r)) → pre.length < N → Sp (pre ++ [x]) →
      WpAt (F.inRound l) (n - 1 - 1) P f assign (Exit.then (fun a₁ W₁ => (∀ k, B ≤ k → k < E → W₁.heap[k]? = W.heap[k]?) ∧
        ∀ W₂, Keeps (· = l) W₁ W₂ → (∃ r, W₂.heap[l]? = some (.loop r)) → WpAt (F.inRound l) (n - 1 - 1) P f body (bodyEnd B E I IP ch (pre ++ [x]) W₂) a₁ W₂) (fun _ _ _ => False))
        { tmps := (ps.zip (encs x)).foldl (fun t (p, v) => t.setIfInBounds p v) a.tmps, defers := [] } W)
    (hdone : ∀ xs W, S xs → I xs W → KD W → Q .normal { a with defers := mark ++ a.defers } W)
    (hpan : ∀ xs W, Sp xs → IP xs W → KD W → Q (.panic ch) { a with defers := mark ++ a.defers } W) :
    WpAt F n P f (.rangeFunc g ps assign body) Q a w := by
  refine WpAt.range ho he hg eg ?_
  obtain ⟨rec, hrec⟩ : ∃ rec : LoopState → Loop, rec = fun st => { state := st, pending := none, fn := f, tmps := a.tmps, params := ps, assign := assign, body := body, defers := df } := ⟨_, rfl⟩
  have hl1' : w₁.heap[l]? = some (.loop (rec .ready)) := by rw [hrec]; exact hl1
  have hput : ∀ (W : World) (o : Obj), KD W → KD (W.putObj l o) := fun W o h => hKD W _ h (fun k _ _ hk => World.putObj_heap_other hk)
  refine CallsIn.mono (hseq l (fun xs W => I xs W ∧ W.heap[l]? = some (.loop (rec .ready)) ∧ KD W) (fun xs W => IP xs W ∧ KD W) ch w₁ hst ?_ ⟨h0, hl1', hkd⟩) ?_
  · rintro pre x W ⟨hi, hl, hk⟩ hlen hsp
    have hlt : l < W.heap.size := (Array.getElem?_eq_some_iff.1 hl).1
    have hy := run_yield (P := P) (args := encs x) hl (by rw [hrec]; exact hps x)
    rw [hrec] at hy
    refine ⟨f, _, assign, body, hy, roundIn_of_wpAt ho hf ((hround pre x W hi ⟨_, hl⟩ hlen hsp).mono ?_)⟩
    clear hy
    intro e a₁ W₁ hq
    cases e with
    | normal =>
      obtain ⟨hk1, hb⟩ := hq
      have hl2 : W₁.heap[l]? = some (.loop (rec .ready)) := (hk1 l hB hE).trans hl
      have hlt1 : l < W₁.heap.size := (Array.getElem?_eq_some_iff.1 hl2).1
      have hk2 : KD W₁ := hKD W _ hk (fun k h1 h2 _ => hk1 k h1 h2)
      refine ⟨_, run_beginRound hl2 (by rw [hrec]), ?_⟩
      have hl3 : (W₁.putObj l (.loop { rec .ready with state := .busy })).heap[l]? = some (.loop { rec .ready with state := .busy }) := World.putObj_heap_same hlt1
      refine (hb _ (Keeps.putObj _ _ _) ⟨_, hl3⟩).mono ?_
      intro e a₂ W₃ hq
      cases e with
      | normal =>
        obtain ⟨hk3, hi3⟩ := hq
        have hl4 := (hk3 l hB hE).trans hl3
        have hlt3 : l < W₃.heap.size := (Array.getElem?_eq_some_iff.1 hl4).1
        have hk4 : KD W₃ := hKD _ _ (hput _ _ hk2) (fun k h1 h2 _ => hk3 k h1 h2)
        have hr := run_endRound (P := P) none hl4
        refine ⟨_, _, hr, .inl ⟨rfl, hI _ _ _ hi3 (Keeps.putObj _ _ _), ?_, hput _ _ hk4⟩⟩
        rw [World.putObj_heap_same hlt3, hrec]
        rfl
      | panic c =>
        obtain ⟨rfl, hd, hk3, hi3⟩ := hq
        exact ⟨hd, .inr ⟨rfl, hi3, hKD _ _ (hput _ _ hk2) (fun k h1 h2 _ => hk3 k h1 h2)⟩⟩
      | ret => exact hq.elim
      | exit id => exact hq.elim
      | goto t => exact hq.elim
      | outgrown => exact hq.elim
    | ret => exact hq.elim
    | exit id => exact hq.elim
    | goto t => exact hq.elim
    | panic c => exact hq.elim
    | outgrown => exact hq.elim
  · rintro e W2 (⟨v, xs, rfl, hS, hi, hl, hk⟩ | ⟨pre, rfl, hSp, hi, hk⟩)
    · have hr := run_endLoop (P := P) hl (by rw [hrec]; simp)
      rw [hrec] at hr
      exact ⟨_, hr, hdone xs _ hS (hI _ _ _ hi (Keeps.putObj _ _ _)) (hput _ _ hk)⟩
    · exact hpan pre _ hSp hi hk

/-- An outermost loop. -/
theorem range_outer (ho : OpenF F) (hro : F.round = none) (hf : P.funcs[f]? = some fn) (hg : a.eval g = .func (.func gf) #[] lb) (eg : ∀ args w, (callFunc gf args).run P w = .ok (.enter gf args) w) (hps : ∀ x, (encs x).size = ps.size)
    {B l E : Nat} (hB : B = w.heap.size) (hl : l = w.heap.size + 1) (hE : E = w.heap.size + 2)
    (hseq : SeqPan F (n - 1) P gf lb encs St S Sp N) (hst : ∀ W, Below w.heap.size w W → St W) (hI : ∀ xs W W', I xs W → Keeps (fun k => B ≤ k ∧ k < E) W W' → I xs W') (h0 : ∀ W, Below w.heap.size w W → W.heap.size = E → I [] W)
    (hround : ∀ (pre : List α) (x : α) (W : World), I pre W → (∃ r, W.heap[l]? = some (.loop r)) → pre.length < N → Sp (pre ++ [x]) →
      WpAt (F.inRound l) (n - 1 - 1) P f assign (Exit.then (fun a₁ W₁ => (∀ k, B ≤ k → k < E → W₁.heap[k]? = W.heap[k]?) ∧
        ∀ W₂, Keeps (· = l) W₁ W₂ → (∃ r, W₂.heap[l]? = some (.loop r)) → WpAt (F.inRound l) (n - 1 - 1) P f body (bodyEnd B E I IP ch (pre ++ [x]) W₂) a₁ W₂) (fun _ _ _ => False))
        { tmps := (ps.zip (encs x)).foldl (fun t (p, v) => t.setIfInBounds p v) a.tmps, defers := [] } W)
    (hdone : ∀ xs W, S xs → I xs W → W.heap[B]? = some (.deferred (some [])) → Q .normal { a with defers := { target := .collected B, args := #[] } :: a.defers } W)
    (hpan : ∀ xs W, Sp xs → IP xs W → W.heap[B]? = some (.deferred (some [])) → Q (.panic ch) { a with defers := { target := .collected B, args := #[] } :: a.defers } W) :
    WpAt F n P f (.rangeFunc g ps assign body) Q a w := by
  subst hB hl hE
  have he := run_enterLoop_outer (P := P) (w := w) f a.tmps ps assign body
  rw [← hro] at he
  have hb : Below w.heap.size w ((w.alloc (.deferred (some []))).alloc (.loop { state := .ready, pending := none, fn := f, tmps := a.tmps, params := ps, assign := assign, body := body, defers := w.heap.size })) := ((Below.refl _ w).alloc (Nat.le_refl _) _).alloc (by simp) _
  refine range_core (I := I) (IP := IP) ho hf hg eg hps he (df := w.heap.size) (B := w.heap.size) (E := w.heap.size + 2) ?_ (by omega) (by omega) (fun W => W.heap[w.heap.size]? = some (.deferred (some []))) ?_ ?_ hseq (hst _ hb)
    (fun xs W W' h k => hI xs W W' h (k.mono (fun _ _ e => by omega))) (h0 _ hb (by simp)) hround hdone hpan
  · have := World.alloc_heap_new (w.alloc (.deferred (some []))) (.loop { state := .ready, pending := none, fn := f, tmps := a.tmps, params := ps, assign := assign, body := body, defers := w.heap.size })
    rwa [World.size_alloc] at this
  · intro W W' h hk
    exact (hk _ (by omega) (by omega) (by omega)).trans h
  · exact (Below.heap_alloc _ _ _ (by simp)).trans (World.alloc_heap_new w _)

/-- A loop within a round of another. -/
theorem range_inner (ho : OpenF F) {l₀ : Nat} {r₀ : Loop} (hro : F.round = some l₀) (hl₀ : w.heap[l₀]? = some (.loop r₀)) (hf : P.funcs[f]? = some fn) (hg : a.eval g = .func (.func gf) #[] lb) (eg : ∀ args w, (callFunc gf args).run P w = .ok (.enter gf args) w) (hps : ∀ x, (encs x).size = ps.size)
    {l E : Nat} (hl : l = w.heap.size) (hE : E = w.heap.size + 1)
    (hseq : SeqPan F (n - 1) P gf lb encs St S Sp N) (hst : ∀ W, Below w.heap.size w W → St W) (hI : ∀ xs W W', I xs W → Keeps (fun k => l ≤ k ∧ k < E) W W' → I xs W') (h0 : ∀ W, Below w.heap.size w W → W.heap.size = E → I [] W)
    (hround : ∀ (pre : List α) (x : α) (W : World), I pre W → (∃ r, W.heap[l]? = some (.loop r)) → pre.length < N → Sp (pre ++ [x]) →
      WpAt (F.inRound l) (n - 1 - 1) P f assign (Exit.then (fun a₁ W₁ => (∀ k, l ≤ k → k < E → W₁.heap[k]? = W.heap[k]?) ∧
        ∀ W₂, Keeps (· = l) W₁ W₂ → (∃ r, W₂.heap[l]? = some (.loop r)) → WpAt (F.inRound l) (n - 1 - 1) P f body (bodyEnd l E I IP ch (pre ++ [x]) W₂) a₁ W₂) (fun _ _ _ => False))
        { tmps := (ps.zip (encs x)).foldl (fun t (p, v) => t.setIfInBounds p v) a.tmps, defers := [] } W)
    (hdone : ∀ xs W, S xs → I xs W → Q .normal a W)
    (hpan : ∀ xs W, Sp xs → IP xs W → Q (.panic ch) a W) :
    WpAt F n P f (.rangeFunc g ps assign body) Q a w := by
  subst hl hE
  have he := run_enterLoop_inner (P := P) hl₀ f a.tmps ps assign body
  rw [← hro] at he
  have hb : Below w.heap.size w (w.alloc (.loop { state := .ready, pending := none, fn := f, tmps := a.tmps, params := ps, assign := assign, body := body, defers := r₀.defers })) := (Below.refl _ w).alloc (Nat.le_refl _) _
  exact range_core (I := I) (IP := IP) ho hf hg eg hps he (df := r₀.defers) (B := w.heap.size) (E := w.heap.size + 1) (World.alloc_heap_new w _) (by omega) (by omega) (fun _ => True) (fun _ _ _ _ => trivial) trivial hseq (hst _ hb)
    (fun xs W W' h k => hI xs W W' h (k.mono (fun _ _ e => by omega))) (h0 _ hb (by simp)) hround (fun xs W h1 h2 _ => hdone xs W h1 h2) (fun xs W h1 h2 _ => hpan xs W h1 h2)
end
end Go.Proofs.YtebecpjecchfoaaGreatDoor
namespace Go.Proofs.YtebecpjecchfoaaGreatDoor
open Go.RowKit Go.Shelf
attribute [local go_sem] Oper.semAt_some

set_option maxRecDepth 100000 in
set_option maxHeartbeats 2000000 in
theorem entries_pan (F : Fence) (n : Nat) (h : F.fn 229) (hro : F.round = none) (hn : 1 ≤ n) (B : Nat) (zs : List Int) (hl : zs.length = 32) :
    SeqPan F n Tryz.prog 229 #[.pointer (some ⟨B, 0, none⟩)] encE (fun W => NB W B zs) (fun ys => ys = entsK zs 32) (fun pre => pre <+: entsK zs 32) 32 := fun l J JP ch W hB hY h0 => by
  have L1 := Lib.hid (hB.load hl)
  refine callsIn_of_wp Tryz.func229 rfl h ?_ hro
  simp only [Tryz.ntmps229, List.size_toArray, List.length_cons, List.length_nil, Nat.reduceAdd, Nat.reduceSub, Array.replicate_succ, Array.replicate_zero, List.push_toArray, List.append_toArray, List.nil_append, List.cons_append]
  clear hB
  gi_wp2_with ((with_reducible refine atIn_ (op := .load 183 (.tmp 1)) ?_); refine wpListIn_val rfl (by intro c h; cases h) rfl _ (ex_load 183 (.tmp 1) rfl _ _ rfl L1.out) ?_)
  clear L1
  gi_loopw [6] (fun i wr => ∃ k : Nat, k ≤ 32 ∧ i = .int .i64 k ∧ J (entsK zs k) wr) (fun i _ => 32 - (intOf i).toNat)
  case atStart => exact ⟨0, Nat.zero_le _, rfl, h0⟩
  case round =>
    obtain ⟨k, hk, rfl, hJs⟩ := hrel
    by_cases hlt : k < 32
    · have IX := fun w => Lib.hid (idxN w hl hlt)
      by_cases hz : zs.getD k 0 = 0
      · have HE := Lib.hid (entsK_no zs k hz)
        generalize zs.getD k 0 = z at *
        subst hz
        gi_wp2_with ((with_reducible refine atIn_ (op := .index 183 (.tmp 5) (.tmp 6)) ?_); refine wpListIn_val rfl (by intro c h; cases h) rfl _ (ex_index 183 (.tmp 5) (.tmp 6) rfl _ _ _ rfl rfl (IX _).out) ?_)
        refine ⟨fun _ h => (by cases h), ?_⟩
        gi_wp2
        go_roundw
        case rel => exact ⟨k + 1, by omega, by go_num, by rw [HE.out]; exact hJs⟩
        case measure => simp [intOf]; omega
      · have HE := Lib.hid (entsK_yes zs k ⟨hlt, hz⟩)
        have hlen := entsK_len zs k
        have hp := Lib.hid (entsK_prefix zs (k + 1) (32 - (k + 1)))
        obtain ⟨fn, tmps, assign, body, hy, hR⟩ := hY (entsK zs k) ⟨(k, zs.getD k 0), hlt, hz⟩ wr hJs (by omega) (by
          have := hp.out
          rw [HE.out] at this
          rwa [show k + 1 + (32 - (k + 1)) = 32 from by omega] at this)
        have HZ := Lib.hid hl
        rw [← HE.out] at hR
        have hz1 : (zs.getD k 0 == 0) = false := by simpa using hz
        have hz2 : (zs.getD k 0 != 0) = true := by simpa using hz
        clear HE
        change (Instr.yield l #[.int .i64 (k : Int), .int .i64 (zs.getD k 0)]).run _ wr = _ at hy
        generalize zs.getD k 0 = z at *
        clear hlen
        gi_wp2_with ((with_reducible refine atIn_ (op := .index 183 (.tmp 5) (.tmp 6)) ?_); refine wpListIn_val rfl (by intro c h; cases h) rfl _ (ex_index 183 (.tmp 5) (.tmp 6) rfl _ _ _ rfl rfl (IX _).out) ?_)
        refine hR.mono ?_
        rintro e W3 (⟨rfl, hJ3⟩ | ⟨rfl, hJ3⟩)
        · gi_wp2
          go_roundw
          case rel => exact ⟨k + 1, by omega, by go_num, hJ3⟩
          case measure => simp [intOf]; omega
        · have hp' : entsK zs (k + 1) <+: entsK zs 32 := by
            have := hp.out
            rwa [show k + 1 + (32 - (k + 1)) = 32 from by omega] at this
          exact ⟨rfl, .inr ⟨_, rfl, hp', hJ3⟩⟩
    · obtain rfl : k = 32 := by omega
      gi_wp2
      go_end0
      exact .inl ⟨_, _, rfl, rfl, hJs⟩
end Go.Proofs.YtebecpjecchfoaaGreatDoor
