/-
  ExIt
-/
import Derived.Test.YthbkjndnconakaaExBlocks
import Derived.Test.YthbkjndnconakaaGNd
import Derived.Scope
import Derived.WalkMore
namespace Go.Proofs.Ythbkjndnconakaa.Ex
open Go.RowKit Go.Shelf
attribute [local go_sem] Oper.semAt_some

section
variable {P : Program} {F : Fence} {n : Nat} {Q : Exit → Act → World → Prop} {a : Act} {w : World}
theorem stepR_scope {b : Frame} {k : List Item} {cs : List Frame} {c : Code} : step P (lone (b.atR a (.code (.scope c) :: k)) cs w) = .next (lone (b.atR a (.code c :: .inScope c :: k)) cs w) :=
  step_lone_go (by simp [stepG, stepG.exec, Frame.atR])
theorem stepR_inScope {b : Frame} {k : List Item} {cs : List Frame} {c : Code} : step P (lone (b.atR a (.inScope c :: k)) cs w) = .next (lone (b.atR a k) cs w) :=
  step_lone_go (by simp [stepG, stepG.exec, Frame.atR])
/-- A scope through which the run goes without a goto, within a fence. -/
theorem wpIn_scope {c : Code} (h : c.wpIn F n P (Exit.noGoto Q) a w) : (Code.scope c).wpIn F n P Q a w := by
  intro b k cs hro hb hr
  have h0 : (lone (b.atR a (.code (.scope c) :: k)) cs w).fenced P F := fenced_calm hb hr rfl
  obtain ⟨e, a₁, w₁, hq, harr⟩ := h b (.inScope c :: k) cs hro hb hr
  cases e with
  | normal => exact ⟨.normal, a₁, w₁, hq, .head h0 stepR_scope (StepsIn.trans harr (.one (fenced_calm hb hr rfl) stepR_inScope))⟩
  | exit id' =>
    have hx : exitTo id' (.inScope c :: k) = exitTo id' k := by simp [exitTo]
    exact ⟨.exit id', a₁, w₁, hq, fun k' hk => .head h0 stepR_scope (harr.1 k' (by rw [hx]; exact hk)),
      fun hr' hk => let ⟨k₁, h1, h2⟩ := harr.2 hr' (by rw [hx]; exact hk); ⟨k₁, h1, .head h0 stepR_scope h2⟩⟩
  | goto l => exact hq.elim
  | ret => exact ⟨_, a₁, w₁, hq, .of_steps (.one h0 stepR_scope) harr⟩
  | panic ch => exact ⟨_, a₁, w₁, hq, .of_steps (.one h0 stepR_scope) harr⟩
  | outgrown => exact ⟨_, a₁, w₁, hq, .of_steps (.one h0 stepR_scope) harr⟩
end

/-! ### what a round may write -/
/-- Which blocks a round may write: told of each world. -/
structure Writes (n0 : Nat) (Wr : World → Nat → Prop) : Prop where
  put : ∀ W l o' k, n0 ≤ l → (Wr (W.putObj l o') k ↔ Wr W k)
  new : ∀ W o k, n0 ≤ W.heap.size → Wr (W.alloc o) k → Wr W k
def San (Wr : World → Nat → Prop) (W : World) : Prop := ∀ k, Wr W k → k < W.heap.size
/-- What a round keeps. -/
def KpW (Wr : World → Nat → Prop) (W W' : World) : Prop := San Wr W → San Wr W' ∧ W.heap.size ≤ W'.heap.size ∧ ∀ k o, W.heap[k]? = some o → o.isCells = true → ¬ Wr W k → W'.heap[k]? = some o ∧ ¬ Wr W' k
theorem KpW.trans {Wr : World → Nat → Prop} {A B C : World} (h : KpW Wr A B) (k : KpW Wr B C) : KpW Wr A C := fun s => by
  obtain ⟨s1, z1, h1⟩ := h s
  obtain ⟨s2, z2, h2⟩ := k s1
  refine ⟨s2, by omega, fun i o ho hc hn => ?_⟩
  obtain ⟨g1, g2⟩ := h1 i o ho hc hn
  exact h2 i o g1 hc g2
theorem KpW.put {Wr : World → Nat → Prop} {n0 : Nat} (hw : Writes n0 Wr) (W : World) (l : Nat) (o o' : Obj) (hl : n0 ≤ l) (h : W.heap[l]? = some o) (hc : o.isCells = false) : KpW Wr W (W.putObj l o') := fun s => by
  have hs : (W.putObj l o').heap.size = W.heap.size := by simp [World.putObj]
  refine ⟨fun k hk => ?_, by omega, fun k o2 ho hc2 hn => ?_⟩
  · rw [hs]
    exact s k ((hw.put W l o' k hl).1 hk)
  · have hne : k ≠ l := fun e => by subst e; rw [h] at ho; cases ho; rw [hc] at hc2; cases hc2
    exact ⟨(World.putObj_heap_other hne).trans ho, fun hk => hn ((hw.put W l o' k hl).1 hk)⟩

/-- What the iterator goes on: the list lies where no round writes. -/
structure ItOk (Wr : World → Nat → Prop) (n0 : Nat) (W : World) (A : Option Addr) (l : List EX) : Prop where
  san : San Wr W
  le : n0 ≤ W.heap.size
  xr : XR W W.heap.size A l
  no : l ≠ [] → ∀ ad, A = some ad → ¬ Wr W ad.block
section
variable {Wr : World → Nat → Prop} {n0 : Nat} {W W' : World} {A : Option Addr} {l : List EX}
theorem ItOk.alloc (hw : Writes n0 Wr) (h : ItOk Wr n0 W A l) (o : Obj) : ItOk Wr n0 (W.alloc o) A l ∧ ¬ Wr (W.alloc o) W.heap.size := by
  refine ⟨⟨fun k hk => ?_, by have := h.le; simp; omega, ?_, fun hn ad e hk => h.no hn ad e (hw.new W o _ h.le hk)⟩, fun hk => ?_⟩
  · have := h.san k (hw.new W o k h.le hk)
    simp
    omega
  · exact (h.xr.below ((Below.refl _ _).alloc (Nat.le_refl _) _)).more (by simp)
  · have := h.san _ (hw.new W o _ h.le hk)
    omega
theorem ItOk.kept (h : ItOk Wr n0 W A l) (k : KpW Wr W W') : ItOk Wr n0 W' A l := by
  obtain ⟨s, z, hk⟩ := k h.san
  have hb : ∀ ad, A = some ad → l ≠ [] → ∃ o, W.heap[ad.block]? = some o ∧ W'.heap[ad.block]? = some o ∧ ¬ Wr W' ad.block := fun ad e hn => by
    obtain ⟨ad', e', hlt, hc⟩ := h.xr.ar hn
    rw [e] at e'
    cases e'
    have h0 := hc 0 (l[0]'(List.length_pos_iff.2 hn)) (List.getElem?_eq_getElem _) 0 _ rfl
    obtain ⟨o, ho, hoc⟩ := cells_of_cell h0
    rw [block_add, block_add] at ho
    obtain ⟨g1, g2⟩ := hk _ o ho hoc (h.no hn ad e)
    exact ⟨o, ho, g1, g2⟩
  refine ⟨s, by have := h.le; omega, ⟨fun hn => ?_, h.xr.ok⟩, fun hn ad e => ?_⟩
  · obtain ⟨ad, e, hlt, hc⟩ := h.xr.ar hn
    obtain ⟨o, h1, h2, _⟩ := hb ad e hn
    refine ⟨ad, e, by omega, fun k a ha j v hv => ?_⟩
    exact (World.cell?_of_block (w := W) (w' := W') (a := (ad.add (k * 2)).add j) (by rw [block_add, block_add, h1, h2])).trans (hc k a ha j v hv)
  · obtain ⟨o, _, _, h3⟩ := hb ad e hn
    exact h3
end

abbrev encB (x : Nat × Nat) : Array Value := #[.int .i64 (x.2 : Int), .int .i64 (x.1 : Int)]
theorem seq_snoc (o : List Nat) (b : Nat) : (o ++ [b]).zipIdx = o.zipIdx ++ [(b, o.length)] := by simp [List.zipIdx_append]
theorem seq_prefix {o m : List Nat} (h : o <+: m) : o.zipIdx <+: m.zipIdx := by
  obtain ⟨t, rfl⟩ := h
  rw [List.zipIdx_append]
  exact List.prefix_append _ _
theorem blk_prefix {l : List EX} {k j : Nat} (hk : k < l.length) : (blkL (l.take k) ++ (exB l[k]).take j) <+: blkL l := by
  have h1 : (blkL (l.take k) ++ (exB l[k]).take j) <+: blkL (l.take (k + 1)) := by
    rw [blk_step hk]
    exact (List.prefix_append_right_inj _).2 (List.take_prefix _ _)
  refine h1.trans ?_
  have : l = l.take (k + 1) ++ l.drop (k + 1) := (List.take_append_drop _ _).symm
  conv => rhs; rw [this]
  rw [blkL_append]
  exact List.prefix_append _ _

end Go.Proofs.Ythbkjndnconakaa.Ex
