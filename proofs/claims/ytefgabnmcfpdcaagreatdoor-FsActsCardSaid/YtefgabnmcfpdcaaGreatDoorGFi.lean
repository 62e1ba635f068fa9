/-
  Merged by wip/tools/merge.py: FsRound FsFil FsFil2 HeldLast FsFil3 FsDemo FsRen FsRsz FsRd MmFlat FsAwake
-/
import Derived.Test.YtefgabnmcfpdcaaGreatDoorSqz
import Derived.Test.YtefgabnmcfpdcaaGreatDoorGFh
import Derived.Test.YtefgabnmcfpdcaaGreatDoorGT
import Derived.Test.YtefgabnmcfpdcaaGreatDoorGFd
import Derived.Test.YtefgabnmcfpdcaaGreatDoorGFe
import Derived.Test.YtefgabnmcfpdcaaGreatDoorGMm
namespace Go.Proofs.YtefgabnmcfpdcaaGreatDoor
open Go.RowKit
variable {P : Program} {ops : Array Oper} {Q : Exit → Act → World → Prop} {md : Region.Mode}
theorem op_round {l n : Nat} {o : Oper} {a : Act} {w : World} {K : Act → World → Prop} (hd : ∀ c, o.op ≠ .defer c) (h : o.wp P a w K Q) : o.wpIn (Fence.wide.inRound l) n P a w K Q := by
 refine ⟨fun _ _ => trivial, ?_⟩
 rw [Oper.semAt_eq _ _ _ hd]
 unfold Oper.wp at h
 generalize (execOp a.eval o).run P w = r at *
 have hdep : ((Fence.wide.inRound l).depth.isSome = true → 1 ≤ n) := fun e => by cases e
 cases r with
 | ok x w' =>
  cases x <;> simp only [Oper.upon, Oper.uponIn] at h ⊢
  case value u => exact h
  case skip => exact h
  case defer d => exact h
  case enter f args => exact ⟨hdep, CallsIn.inRound l (callsIn_wide.2 h)⟩
  case row row args => exact ⟨hdep, fun c cs _ => let ⟨v, w', r, s⟩ := h c cs; ⟨v, w', r, stepsIn_wide.2 s⟩⟩
 | halt x w' =>
  cases x <;> simp only [Oper.upon, Oper.uponIn] at h ⊢
  case panic u => exact h
theorem opAt_round {l n i : Nat} {a : Act} {w : World} {K K' : Act → World → Prop} (hd : ∀ (j : Nat) (o : Oper), ops[j]? = some o → ∀ c, o.op ≠ .defer c) (hL : ¬ LetsOut Q) (hK : ∀ a w, K a w → K' a w) (h : wpOp P ops Q i K a w) : wpOpIn (Fence.wide.inRound l) n P ops Q i K' a w := by
 unfold wpOp at h
 unfold wpOpIn
 cases ho : ops[i]? with
 | none => simp only [ho] at h ⊢; exact hK _ _ h
 | some o =>
  simp only [ho] at h ⊢
  split
  ·rename_i hw
   rw [if_pos hw] at h
   rcases h with h | h
   ·exact Oper.wpIn_mono hK (op_round (hd i o ho) h)
   ·exact absurd h.2 hL
  ·rename_i hw
   rw [if_neg hw] at h
   exact ⟨fun _ _ => trivial, hK _ _ h⟩
theorem any_round {l n : Nat} (hd : ∀ (j : Nat) (o : Oper), ops[j]? = some o → ∀ c, o.op ≠ .defer c) (hL : ¬ LetsOut Q) : ∀ (fuel : Nat) (listed : Array Bool) (a : Act) (w : World), wpAny P md ops Q fuel listed a w → wpAnyIn (Fence.wide.inRound l) n P md ops Q fuel listed a w := by
 intro fuel
 induction fuel with
 | zero => intro listed a w h; exact h
 | succ fuel ih => intro listed a w h; exact ⟨h.1, fun i hi => opAt_round hd hL (fun a w => ih _ a w) (h.2 i hi)⟩
def noDefer (ops : Array Oper) : Bool := ops.all fun o => match o.op with | .defer _ => false | _ => true
theorem noDefer_spec (h : noDefer ops = true) (j : Nat) (o : Oper) (ho : ops[j]? = some o) (c : _) : o.op ≠ .defer c := fun e => by
 unfold noDefer at h
 rw [Array.all_eq_true] at h
 obtain ⟨hj, ho⟩ := Array.getElem?_eq_some_iff.1 ho
 have := h j hj
 rw [ho, e] at this
 cases this
theorem wpIn_region_round {l n id : Nat} {K : Act → World → Prop} {a : Act} {w : World} (hm : P.follows .mixedOrders = true) (hd : noDefer ops = true)
  (h : wpAny P .any ops (Exit.then K (fun _ _ _ => False)) ops.size (Array.replicate ops.size false) a w.drew) : (Code.region id ops true).wpIn (Fence.wide.inRound l) n P (Exit.then K Q) a w := by
 refine wpIn_mono (wpIn_region_any hm (any_round (noDefer_spec hd) (fun hl => ?_) _ _ _ _ h)) fun e a w h => by cases e <;> first | exact h | exact h.elim
 obtain ⟨_, _, hf⟩ := hl
 exact hf
end Go.Proofs.YtefgabnmcfpdcaaGreatDoor
namespace Go.Proofs.YtefgabnmcfpdcaaGreatDoor.Fs
open Go.RowKit Go.Shelf Ex Ino Mm
set_option linter.unusedVariables false
set_option linter.unusedSimpArgs false
structure FD where
 name : List UInt8
 g : Nat
 c : Nat
 xs : List UInt8
def fcl (d : FD) : List Value := [St d.name, .slice (some ⟨d.g, 0, none⟩) d.xs.length d.c]
theorem Tryz.infoFi : (Tryz.prog.info? 63).map (fun i => (i.zero, i.size, i.bytes)) = some (some (.agg #[.string ⟨#[]⟩, .slice none 0 0]), 2, 40) := by kernel_rfl
def OwnL (w : World) (B g cap : Nat) (l : List FD) : Prop := w.ownsRow B 63 2 (.slice (some ⟨g, 0, none⟩) l.length cap) l.length (l.flatMap fcl)
theorem OwnL.block {w : World} {B g cap : Nat} {l : List FD} (h : OwnL w B g cap l) : B ≤ g ∧ g < w.heap.size ∧ ∃ cs t, w.heap[g]? = some (.cells cs t (0, 0)) := by
 have h1 := World.ownsRow.lt h g rfl
 refine ⟨h1.1, h1.2, ?_⟩
 rcases h.2 with ⟨hn, _⟩ | ⟨g', cap', cur, e', _, hg, _⟩
 ·cases hn
 ·injection e' with e1; injection e1 with e1; injection e1 with e1; subst e1; exact ⟨_, _, hg⟩
theorem OwnL.kept {w w' : World} {B g cap : Nat} {l : List FD} (h : OwnL w B g cap l) {row : Option Nat} (hg : w.grownBy w' row) (hr : ∀ r, row = some r → ∃ o : Obj, w.heap[r]? = some o ∧ o.isCells = false) : OwnL w' B g cap l :=
 World.ownsRow.kept (row := row) h hg (.inr fun e2 => by
  obtain ⟨_, _, cs, t, hc⟩ := h.block
  obtain ⟨o, ho, hoc⟩ := hr g e2.symm
  rw [hc] at ho
  cases ho
  cases hoc)
theorem OwnL.same {w w' : World} {B g cap : Nat} {l : List FD} (h : OwnL w B g cap l) (hk : w'.heap[g]? = w.heap[g]?) : OwnL w' B g cap l := by
 refine ⟨h.1, ?_⟩
 rcases h.2 with h0 | ⟨g', cap', cur, hv, hB, hgg, rest⟩
 ·exact .inl h0
 ·refine .inr ⟨g', cap', cur, hv, hB, ?_, rest⟩
  injection hv with e1; injection e1 with e1; injection e1 with e1; subst e1
  exact hk.trans hgg
theorem OwnL.app {w : World} {B g cap : Nat} {l : List FD} (h : OwnL w B g cap l) (hB : B ≤ w.heap.size) (hl : l.length ≤ 1000) (d : FD) (ad : Addr) (c : Nat) (ty : TypeId) (hc : ∀ j u, (fcl d)[j]? = some u → w.cell? (ad.add j) = some u) :
  ∃ g' cap' w', (Builtin.append_ #[59, 59] ty #[.slice (some ⟨g, 0, none⟩) l.length cap, .slice (some ad) 1 c]).run Tryz.prog w = .ok (.slice (some ⟨g', 0, none⟩) (l.length + 1) cap') w' ∧ OwnL w' B g' cap' (l ++ [d]) ∧ w.grownBy w' (some g) ∧ (g' = g ∨ g' = w.heap.size) := by
 obtain ⟨i0, hi, hz0, hz1, hz2⟩ := info_parts Tryz.infoFi
 obtain ⟨v', w', hrun, hown, hg, _, hb⟩ := run_append_own_at (P := Tryz.prog) w B 59 ty 63 i0 _ 2 40 Tryz.underlying59 hi hz0 hz1 hz2 rfl (by decide) _ l.length _ h ad 1 c (fcl d) rfl hc (fun u hu => by
  simp only [fcl, List.mem_cons, List.not_mem_nil, or_false] at hu
  rcases hu with rfl | rfl <;> rfl) (by unfold maxLen; omega) (by omega) hB
 obtain ⟨g', cap', rfl, _, _⟩ := World.ownsRow.form hown (by omega)
 refine ⟨g', cap', w', hrun, ?_, hg, ?_⟩
 ·unfold OwnL
  rw [List.length_append, List.flatMap_append]
  simpa using hown
 ·rcases hb with hb | hb
  ·injection hb with hb; exact .inl hb
  ·injection hb with hb; exact .inr hb
theorem OwnL.empty (w : World) {B : Nat} (hB : B ≤ w.heap.size) : OwnL (w.alloc (.cells #[] 63)) B w.heap.size 0 [] := World.ownsRow_lit w #[] 0 hB (by unfold maxLen; omega) rfl
structure FilI (w : World) (r : Nat) (R0 : RG) (pre : List Nat) (g cap : Nat) (l : List FD) (W : World) : Prop where
 rb : Boxed W w.heap.size 93 (.pointer (some ⟨r, 0, none⟩))
 own : OwnL W (w.heap.size + 1) g cap l
 fb : Boxed W (w.heap.size + 1 + 1) 59 (.slice (some ⟨g, 0, none⟩) l.length cap)
 gn : g ≠ w.heap.size + 1 + 1
 rows : ∀ d ∈ l, w.heap.size + 1 + 1 < d.g ∧ d.g < W.heap.size ∧ d.g ≠ g ∧ BR W W.heap.size (some ⟨d.g, 0, none⟩) d.xs
 vals : l.map (fun d => (d.name, d.xs)) = pre.map (fun i => ((at' R0.ns i).name, dataV R0 (at' R0.ns i)))
 bel : Below w.heap.size w W
theorem FilI.below {w : World} {r : Nat} {R0 : RG} {pre : List Nat} {g cap : Nat} {l : List FD} {W W' : World} (h : FilI w r R0 pre g cap l W) (k : Below W.heap.size W W') : FilI w r R0 pre g cap l W' :=
 ⟨(k.block _ h.rb.lt).trans h.rb, h.own.same (k.block _ h.own.block.2.1), (k.block _ h.fb.lt).trans h.fb, h.gn, fun d hd => ⟨(h.rows d hd).1, Nat.lt_of_lt_of_le (h.rows d hd).2.1 k.size, (h.rows d hd).2.2.1, brK (h.rows d hd).2.2.2 k⟩, h.vals, h.bel.trans (k.mono h.bel.size)⟩
end Go.Proofs.YtefgabnmcfpdcaaGreatDoor.Fs
namespace Go.Proofs.YtefgabnmcfpdcaaGreatDoor.Fs
open Go.RowKit Go.Shelf Ex Ino Mm
set_option linter.unusedVariables false
set_option linter.unusedSimpArgs false
theorem br_grown {W W' : World} {A : Option Addr} {xs : List UInt8} (h : BR W W.heap.size A xs) {row : Option Nat} (hg : W.grownBy W' row) (hr : ∀ r, row = some r → ∃ o : Obj, W.heap[r]? = some o ∧ o.isCells = false) : BR W' W'.heap.size A xs := fun hne => by
 obtain ⟨ad, e, hl, hc⟩ := h hne
 have hb : W'.heap[ad.block]? = W.heap[ad.block]? := hg.block _ hl fun e2 => by
  obtain ⟨o, ho, hoc⟩ := hr _ e2.symm
  obtain ⟨u, xs', rfl⟩ := List.exists_cons_of_ne_nil hne
  have h1 := hc 0 u rfl
  unfold World.cell? at h1
  rw [block_add, ho] at h1
  cases o <;> simp_all [Obj.isCells]
 exact ⟨ad, e, Nat.lt_of_lt_of_le hl hg.size, fun i u hu => (World.cell?_of_block (w := W) (w' := W') (a := ad.add i) (by rw [block_add]; exact hb)).trans (hc i u hu)⟩
def FilS (w : World) (r : Nat) (R0 : RG) (pre : List Nat) (W : World) : Prop := ∃ g cap l, FilI w r R0 pre g cap l W
theorem fil_own (w : World) (r : Nat) (R0 : RG) {B : Nat} (hB : w.heap.size ≤ B) : OwnFrom B (FilS w r R0) := fun pre W W' row ⟨g, cap, l, h⟩ hg hr =>
 have hr' : ∀ r, row = some r → ∃ o : Obj, W.heap[r]? = some o ∧ o.isCells = false := fun r e => (hr r e).2
 ⟨g, cap, l, cells_kept h.rb hg hr', h.own.kept hg hr', cells_kept h.fb hg hr', h.gn, fun d hd => ⟨(h.rows d hd).1, Nat.lt_of_lt_of_le (h.rows d hd).2.1 hg.size, (h.rows d hd).2.2.1, br_grown (h.rows d hd).2.2.2 hg hr'⟩, h.vals, ownFrom_below (Nat.le_refl _) hB () W W' row h.bel hg hr⟩
theorem FilI.start (w : World) (r : Nat) (R0 : RG) : FilI w r R0 [] (w.heap.size + 1) 0 [] (((w.alloc (.cells #[.pointer (some ⟨r, 0, none⟩)] 93)).alloc (.cells #[] 63)).alloc (.cells #[.slice (some ⟨w.heap.size + 1, 0, none⟩) 0 0] 59)) := by
 have b0 := ((Boxed.new w 93 (.pointer (some ⟨r, 0, none⟩))).alloc (.cells #[] 63)).alloc (.cells #[.slice (some ⟨w.heap.size + 1, 0, none⟩) 0 0] 59)
 have b1 := OwnL.empty (w.alloc (.cells #[.pointer (some ⟨r, 0, none⟩)] 93)) (B := w.heap.size + 1) (by simp)
 have b2 := Boxed.new ((w.alloc (.cells #[.pointer (some ⟨r, 0, none⟩)] 93)).alloc (.cells #[] 63)) 59 (.slice (some ⟨w.heap.size + 1, 0, none⟩) 0 0)
 rw [World.size_alloc] at b1
 rw [World.size_alloc, World.size_alloc] at b2
 have b1' := b1.same (w' := ((w.alloc (.cells #[.pointer (some ⟨r, 0, none⟩)] 93)).alloc (.cells #[] 63)).alloc (.cells #[.slice (some ⟨w.heap.size + 1, 0, none⟩) 0 0] 59)) (Below.heap_alloc _ _ _ (by simp))
 exact ⟨b0, b1', b2, by omega, (fun d hd => by cases hd), rfl, (((Below.refl _ w).alloc (Nat.le_refl _) _).alloc (by simp) _).alloc (by simp; omega) _⟩
theorem FilI.step {w : World} {r : Nat} {R0 : RG} {pre : List Nat} {g cap : Nat} {l : List FD} {W : World} (h : FilI w r R0 pre g cap l W) (hl : pre.length ≤ 8) (i : Nat) {gd cd : Nat} {xs : List UInt8} (h1 : w.heap.size + 1 + 1 < gd) (h2 : gd < W.heap.size) (h3 : gd ≠ g)
  (h4 : BR W W.heap.size (some ⟨gd, 0, none⟩) xs) (hx : xs = dataV R0 (at' R0.ns i)) :
  ∃ g' cap' w7, (Builtin.append_ #[59, 59] 59 #[.slice (some ⟨g, 0, none⟩) l.length cap, .slice (some ⟨W.heap.size, 0, none⟩) 1 1]).run Tryz.prog (W.alloc (.cells #[St (at' R0.ns i).name, .slice (some ⟨gd, 0, none⟩) xs.length cd] 63)) = .ok (.slice (some ⟨g', 0, none⟩) (l.length + 1) cap') w7 ∧
   Boxed w7 (w.heap.size + 1 + 1) 59 (.slice (some ⟨g, 0, none⟩) l.length cap) ∧
   KeepsOthers W (w7.setCell ⟨w.heap.size + 1 + 1, 0, none⟩ (.slice (some ⟨g', 0, none⟩) (l.length + 1) cap')) ∧
   FilS w r R0 (pre ++ [i]) (w7.setCell ⟨w.heap.size + 1 + 1, 0, none⟩ (.slice (some ⟨g', 0, none⟩) (l.length + 1) cap')) := by
 have hs := h.bel.size
 have l0 := h.rb.lt
 have l2 := h.fb.lt
 have hll : l.length = pre.length := by have := congrArg List.length h.vals; simpa using this
 have b6 : Below W.heap.size W (W.alloc (.cells #[St (at' R0.ns i).name, .slice (some ⟨gd, 0, none⟩) xs.length cd] 63)) := (Below.refl _ _).alloc (Nat.le_refl _) _
 have h6 := h.below b6
 obtain ⟨g', cap', w7, hrun, hown, hg, hgg⟩ := h6.own.app (by rw [World.size_alloc]; omega) (by omega) ⟨(at' R0.ns i).name, gd, cd, xs⟩ ⟨W.heap.size, 0, none⟩ 1 59 (fun j u hu => by
  rw [show (⟨W.heap.size, 0, none⟩ : Addr).add j = ⟨W.heap.size, j, none⟩ from by unfold Addr.add; split <;> simp_all, cell_of_row (W.alloc (.cells #[St (at' R0.ns i).name, .slice (some ⟨gd, 0, none⟩) xs.length cd] 63)) W.heap.size j _ _ _ (World.alloc_heap_new _ _)]
  simpa [fcl] using hu)
 rw [World.size_alloc] at hgg
 obtain ⟨gb1, gb2, gcs, gt, gh⟩ := h6.own.block
 have gW : g < W.heap.size := h.own.block.2.1
 have hbk : ∀ k, k < W.heap.size → k ≠ g → w7.heap[k]? = W.heap[k]? := fun k hk hne => (hg.block k (by rw [World.size_alloc]; omega) (fun e => hne (by injection e))).trans (b6.block k hk)
 have hsz7 : W.heap.size < w7.heap.size := by have := hg.size; rw [World.size_alloc] at this; omega
 have n7 : Boxed w7 (w.heap.size + 1 + 1) 59 _ := (hbk _ h.fb.lt (fun e => h.gn e.symm)).trans h.fb
 have t7 : Boxed w7 w.heap.size 93 _ := (hbk _ h.rb.lt (fun e => by omega)).trans h.rb
 have hk7 : KeepsOthers W w7 := by
  refine ⟨by omega, fun k o hk ho => ?_⟩
  have hkl := (Array.getElem?_eq_some_iff.1 hk).1
  refine (hbk k hkl fun e => ?_).trans hk
  subst e
  rw [b6.block k hkl, hk] at gh
  cases gh
  cases ho
 have b7 : Below w.heap.size w w7 := h.bel.trans ⟨hg.os, hg.tape, hg.output, by omega, fun k hk => hbk k (by omega) (by omega)⟩
 have hgn : g' ≠ w.heap.size + 1 + 1 := by
  rcases hgg with e | e
  ·rw [e]; exact h.gn
  ·omega
 have hbr : ∀ (bd : Nat) (ys : List UInt8), w.heap.size + 1 + 1 < bd → bd < W.heap.size → bd ≠ g → BR W W.heap.size (some ⟨bd, 0, none⟩) ys → ∀ v, BR (w7.setCell ⟨w.heap.size + 1 + 1, 0, none⟩ v) (w7.setCell ⟨w.heap.size + 1 + 1, 0, none⟩ v).heap.size (some ⟨bd, 0, none⟩) ys := fun bd ys q1 q2 q3 hb v hne => by
  obtain ⟨ad, e, hl2, hc⟩ := hb hne
  cases e
  refine ⟨_, rfl, by rw [World.size_setCell]; show bd < _; omega, fun k u hu => (World.cell?_of_block (w := W) (a := (⟨bd, 0, none⟩ : Addr).add k) ?_).trans (hc k u hu)⟩
  rw [block_add]
  show (w7.setCell ⟨w.heap.size + 1 + 1, 0, none⟩ v).heap[bd]? = _
  rw [heap_setCell_other _ _ _ _ (by dsimp only; omega)]
  exact hbk bd q2 q3
 have hgd : ∀ bd, bd < W.heap.size → bd ≠ g → bd ≠ g' := fun bd q1 q2 => by rcases hgg with e | e <;> omega
 refine ⟨g', cap', w7, hrun, n7, hk7.trans (KeepsOthers.setCell _ _ _), g', cap', l ++ [⟨(at' R0.ns i).name, gd, cd, xs⟩], t7.other (by omega) _, hown.same (heap_setCell_other _ _ _ _ hgn), ?_, hgn, fun d hd => ?_, ?_, b7.setCell (by show w.heap.size ≤ w.heap.size + 1 + 1; omega) _⟩
 ·rw [List.length_append, List.length_singleton]; exact n7.set _
 ·rcases List.mem_append.1 hd with hd | hd
  ·obtain ⟨r1, r2, r3, r4⟩ := h.rows d hd
   exact ⟨r1, by rw [World.size_setCell]; omega, hgd _ r2 r3, hbr _ _ r1 r2 r3 r4 _⟩
  ·rw [List.mem_singleton] at hd
   subst hd
   exact ⟨h1, by rw [World.size_setCell]; show gd < _; omega, hgd _ h2 h3, hbr _ _ h1 h2 h3 h4 _⟩
 ·rw [List.map_append, List.map_append, h.vals]
  simp [hx]
end Go.Proofs.YtefgabnmcfpdcaaGreatDoor.Fs
namespace Go.Proofs.YtefgabnmcfpdcaaGreatDoor
open Go.RowKit
section
variable {P : Program} {ops : Array Oper} {Q : Exit → Act → World → Prop} {md : Region.Mode} {S : World → Prop} {z : Nat}
def wpAnyZ (P : Program) (md : Region.Mode) (ops : Array Oper) (Q : Exit → Act → World → Prop) (S : World → Prop) (z : Nat) : Nat → Array Bool → Act → World → Prop
 | 0, listed, a, w => Region.ready md ops listed = [] ∧ Q .normal a w
 | fuel + 1, listed, a, w =>
  (Region.ready md ops listed = [] → Q .normal a w) ∧
  ∀ i ∈ Region.ready md ops listed, wpOp P ops Q i (fun a' w' => (z ≤ i ∨ S w') ∧ wpAnyZ P md ops Q S z fuel (listed.setIfInBounds i true) a' w') a w
theorem wpAny_of_last : ∀ (fuel : Nat) (listed : Array Bool) (a : Act) (w : World), wpAnyZ P md ops Q S z fuel listed a w → wpAny P md ops Q fuel listed a w
 | 0, _, _, _, h => h
 | fuel + 1, _, _, _, h => ⟨h.1, fun i hi => wpOp_mono (fun a' w' h' => wpAny_of_last fuel _ a' w' h'.2) (h.2 i hi)⟩
theorem wpAnyZ_first {i : Nat} {oi : Oper} {v : Value} (hi : ops[i]? = some oi) (hsel : ∀ (j : Nat) (o : Oper) cs b, ops[j]? = some o → o.op ≠ .select cs b)
  (hQ : ∀ c a w, Q (.panic c) (a.put oi.dst v) w → Q (.panic c) a w) (hz : ∀ t, z ≤ t → t < ops.size → reaches md ops i ops.size t = true) :
  ∀ (fuel : Nat) (listed : Array Bool) (a : Act) (w : World), Shut md ops listed →
   (∀ j oj, ops[j]? = some oj → j ≠ i → listed.getD j true = false → (∀ e ∈ oj.after, Region.binds md e = true → e.on ≠ i) → oi.apart ops oj = true) →
   i ∈ Region.ready md ops listed → YieldsIf P ops S oi v a → S w →
   wpAnyZ P md ops Q S z fuel (listed.setIfInBounds i true) (a.put oi.dst v) w → wpAnyZ P md ops Q S z (fuel + 1) listed a w := by
 intro fuel
 induction fuel with
 | zero =>
  intro listed a w _ _ hr hy hS H
  refine ⟨fun h => (by rw [h] at hr; cases hr), fun j hj => ?_⟩
  by_cases hji : j = i
  ·subst hji; exact hy.wpOp hi hS ⟨.inr hS, H⟩
  ·have := ready_mono hj hji
   rw [H.1] at this
   cases this
 | succ fuel ih =>
  intro listed a w sh hfree hr hy hS H
  refine ⟨fun h => (by rw [h] at hr; cases hr), fun j hj => ?_⟩
  by_cases hji : j = i
  ·subst hji; exact hy.wpOp hi hS ⟨.inr hS, H⟩
  ·have hjs : j < ops.size := by
    obtain ⟨_, oj, hoj, _⟩ := mem_ready.1 hj
    exact (Array.getElem?_eq_some_iff.1 hoj).1
   have hjz : ¬ z ≤ j := fun e => reaches_not_ready sh (mem_ready.1 hr).1 (hz j e hjs) hj
   have h1 := H.2 j (ready_mono hj hji)
   obtain ⟨hjun, oj, hoj, hall⟩ := mem_ready.1 hj
   have hnot : ∀ e ∈ oj.after, Region.binds md e = true → e.on ≠ i := fun e he hb heq => by
    have h1 := hall e he hb
    rw [heq, getD_both (mem_ready.1 hr).1] at h1
    cases h1
   have h2 := wpOp_putIf hoj (hfree j oj hoj hji hjun hnot) (fun cs b => hsel i oi cs b hi) (fun cs b => hsel j oj cs b hoj) hQ hy h1
   have hfree' : ∀ k ok, ops[k]? = some ok → k ≠ i → (listed.setIfInBounds j true).getD k true = false →
     (∀ e ∈ ok.after, Region.binds md e = true → e.on ≠ i) → oi.apart ops ok = true := fun k ok hk hki hun hno => by
    refine hfree k ok hk hki ?_ hno
    by_cases hjk : j = k
    ·subst hjk; exact hjun
    ·rw [getD_set_ne true hjk] at hun; exact hun
   refine wpOp_mono (fun a' w' h3 => ⟨h3.2.1, ih (listed.setIfInBounds j true) a' w' (sh.set hj) hfree' (ready_mono hr (Ne.symm hji)) h3.1 (h3.2.1.resolve_left hjz) ?_⟩) h2
   rw [Array.setIfInBounds_comm _ _ hji]
   exact h3.2.2
theorem wpAnyZ_take {i : Nat} {oi : Oper} {v : Value} {fuel : Nat} {listed : Array Bool} {a : Act} {w : World} (hi : ops[i]? = some oi)
  (hs : (Region.noSelect ops && Region.free md ops listed i && (Region.ready md ops listed).contains i && shutB md ops listed && (List.range ops.size).all fun t => decide (t < z) || reaches md ops i ops.size t) = true)
  (hQ : ∀ c a w, Q (.panic c) (a.put oi.dst v) w → Q (.panic c) a w) (hy : YieldsIf P ops S oi v a) (hS : S w)
  (h : wpAnyZ P md ops Q S z fuel (listed.setIfInBounds i true) (a.put oi.dst v) w) : wpAnyZ P md ops Q S z (fuel + 1) listed a w := by
 simp only [Bool.and_eq_true] at hs
 have hz : ∀ t, z ≤ t → t < ops.size → reaches md ops i ops.size t = true := fun t h1 h2 => by
  have := List.all_eq_true.1 hs.2 t (List.mem_range.2 h2)
  simpa [Nat.not_lt.2 h1] using this
 exact wpAnyZ_first hi (Region.noSelect_spec hs.1.1.1.1) hQ hz fuel listed a w (shut_of hs.1.2) (Region.free_spec hi hs.1.1.1.2) (by simpa using hs.1.1.2) hy hS h
theorem wpAnyZ_one {i : Nat} {fuel : Nat} {listed : Array Bool} {a : Act} {w : World} (hr : Region.ready md ops listed = [i])
  (h : wpOp P ops Q i (fun a' w' => (z ≤ i ∨ S w') ∧ wpAnyZ P md ops Q S z fuel (listed.setIfInBounds i true) a' w') a w) : wpAnyZ P md ops Q S z (fuel + 1) listed a w :=
 by
 refine ⟨fun h0 => ?_, fun j hj => ?_⟩
 ·rw [h0] at hr; cases hr
 ·rw [hr] at hj
  obtain rfl : j = i := by simpa using hj
  exact h
theorem wpAnyZ_done {listed : Array Bool} {a : Act} {w : World} (hr : Region.ready md ops listed = []) (h : Q .normal a w) : ∀ fuel, wpAnyZ P md ops Q S z fuel listed a w
 | 0 => ⟨hr, h⟩
 | _ + 1 => ⟨fun _ => h, by rw [hr]; simp⟩
end
end Go.Proofs.YtefgabnmcfpdcaaGreatDoor
namespace Go.Proofs.YtefgabnmcfpdcaaGreatDoor.Fs
open Go.RowKit Go.Shelf Ex Ino Mm
attribute [local go_sem] Oper.semAt_some
set_option linter.unusedVariables false
set_option linter.unusedSimpArgs false
variable {v : Option Addr} {S : World → Prop} {F : Nat → Prop} {BS : List UInt8}
def FilesOut (S : World → Prop) (F : Nat → Prop) (w : World) (R0 : RG) (e : Ending) (w' : World) : Prop := S w' ∧ Keeps F w w' ∧
 ∃ g cap l, e = .returned (.tuple #[.slice (some ⟨g, 0, none⟩) l.length cap, .int .i64 0]) ∧ OwnL w' w.heap.size g cap l ∧ (∀ d ∈ l, BR w' w'.heap.size (some ⟨d.g, 0, none⟩) d.xs ∧ w.heap.size ≤ d.g) ∧ l.map (fun d => (d.name, d.xs)) = filesV R0
def actL (w1 : World) (v : Option Addr) (l : List ND) (r g b i : Nat) : Act := { tmps := #[.pointer v, undef, .slice none 0 0, .int .i64 0, .pointer (some ⟨w1.heap.size, 0, none⟩), .int .i64 0, .pointer (some ⟨w1.heap.size + 1 + 1, 0, none⟩), undef, .pointer (some ⟨b, 0, none⟩), .tuple #[.pointer (some ⟨r, 0, none⟩), .int .i64 0], .pointer v, .tuple #[.pointer (some ⟨r, 0, none⟩), .int .i64 0], .pointer (some ⟨r, 0, none⟩), .int .i64 0, .int .i64 0, .bool false, undef, .slice (some ⟨w1.heap.size + 1, 0, none⟩) 0 0, .pointer (some ⟨r, 0, none⟩), itf g, .int .i64 (i : Int), Ino.ag (ndAt l i).x (ndAt l i).A (ndAt l i).c, undef, undef, undef, undef, undef, undef, undef, undef, undef, undef, undef, undef], defers := [] }
def MidL (w1 : World) (v : Option Addr) (l : List ND) (R0 : RG) (r g : Nat) (pre : List Nat) (i : Nat) (a : Act) (W : World) : Prop := ∃ b, a = actL w1 v l r g b i ∧ BoxN W b (ndAt l i) ∧ FilS w1 r R0 pre W ∧ pre.length ≤ 8
theorem midL_own (w1 : World) (v : Option Addr) (l : List ND) (R0 : RG) (r g : Nat) (pre : List Nat) (i : Nat) {B : Nat} (hB : w1.heap.size ≤ B) : OwnFrom B (MidL w1 v l R0 r g pre i) := fun a W W' row ⟨b, e, h1, h2, h3⟩ hg hr =>
 ⟨b, e, h1.grown hg (fun r e => (hr r e).2), fil_own w1 r R0 hB pre W W' row h2 hg hr, h3⟩
theorem at_fit {g : RG} (h : RGood g) (i : Nat) : 0 ≤ (at' g.ns i).size ∧ (at' g.ns i).size ≤ 64 * (blkO (at' g.ns i).ext).length := by
 by_cases hi : i < 8
 ·rcases h.nd i hi with e | e
  ·rw [e]; decide
  ·obtain ⟨_, _, h3, _, h5⟩ := chk_parts e
   refine ⟨h3.1, ?_⟩
   rw [h5]
   unfold needI
   split <;> omega
 ·have e : at' g.ns i = in0 := by
   unfold at'
   rw [List.getD_eq_getElem?_getD, List.getElem?_eq_none (by rw [h.nl]; omega)]
   rfl
  rw [e]; decide
theorem ex_build2F {P : Program} {w w' : World} {o : Oper} {ρ : Operand → Value} (t : TypeId) (x y : Operand) (ho : o.op = .build t #[(0, x), (1, y)]) (u u' v : Value) (hx : ρ x = u) (hy : ρ y = u') (hrun : (Instr.build t #[(0, u), (1, u')]).run P w = .ok v w') : (execOp ρ o).run P w = .ok (.value v) w' := by
 unfold execOp
 simp only [ho, Sem.run_bind, List.map_toArray, List.map_cons, List.map_nil, hx, hy, hrun, Result.andThen_ok, Sem.run_pure]
theorem runBuildF (xs : List UInt8) (g n c : Nat) (w : World) : (Instr.build 63 #[(0, St xs), (1, .slice (some ⟨g, 0, none⟩) n c)]).run Tryz.prog w = .ok (.agg #[St xs, .slice (some ⟨g, 0, none⟩) n c]) w := by kernel_rfl
theorem sizeSl : (Tryz.prog.info? 59).map (·.size) = some 1 := by kernel_rfl
theorem storeSl {w : World} {b n c n' c' : Nat} {A A' : Option Addr} (h : Boxed w b 59 (.slice A n c)) : (Instr.storeAt 59 (.pointer (some ⟨b, 0, none⟩)) (.slice A' n' c')).run Tryz.prog w = .ok () (w.setCell ⟨b, 0, none⟩ (.slice A' n' c')) := by
 have h1 := h.cell
 have h2 := h.frozen
 have := run_storeAt_mid (P := Tryz.prog) w b 0 59 #[.slice A' n' c'] (fun j hj => by
  obtain rfl : j = 0 := by simpa using hj
  exact ⟨by rw [h1]; rfl, h2⟩) (by rw [sizeSl]; rfl) (by simp [Value.oneCell'])
 rw [show Instr.storeAt 59 (.pointer (some ⟨b, 0, none⟩)) (.slice A' n' c') = Instr.storeAt 59 (.pointer (some ⟨b, 0, none⟩)) (.agg #[.slice A' n' c']) from rfl, this]
 rfl
theorem op_unit {P : Program} {ops : Array Oper} {Q : Exit → Act → World → Prop} {m : Nat} {om : Oper} {a : Act} {w w' : World} (hm : ops[m]? = some om) (hw : Region.wanted om (yielded ops a.tmps) = true) (hrun : (execOp a.eval om).run P w = .ok .skip w') {K : Act → World → Prop} (h : K (a.put om.dst undef) w') : wpOp P ops Q m K a w := by
 unfold wpOp
 simp only [hm, hw, if_true]
 left
 unfold Oper.wp
 rw [hrun]
 exact h
theorem aggFL (w : World) : (isAgg 59).run Tryz.prog w = .ok false w := by unfold isAgg; rw [Sem.run_bind, run_underlying Tryz.underlying59 w]; rfl
theorem aggRg (w : World) : (isAgg 93).run Tryz.prog w = .ok false w := by unfold isAgg; rw [Sem.run_bind, run_underlying Tryz.underlying93 w]; rfl
theorem OwnL.low {w : World} {B B' g cap : Nat} {l : List FD} (h : OwnL w B g cap l) (hB : B' ≤ B) : OwnL w B' g cap l := by
 refine ⟨h.1, ?_⟩
 rcases h.2 with h0 | ⟨g', cap', cur, hv, hb, rest⟩
 ·exact .inl h0
 ·exact .inr ⟨g', cap', cur, hv, Nat.le_trans hB hb, rest⟩
set_option maxRecDepth 100000 in
set_option maxHeartbeats 2000000 in
theorem ffiles_any {w : World} (h : MemC v S F w BS) (ho : okR BS) (hg : RGood ⟨BS, readN BS⟩) : Calls Tryz.prog 31 #[.pointer v] w (FilesOut S F w ⟨BS, readN BS⟩) := by
 have HM := Lib.hid h
 have HC := Lib.hid (copied_any h)
 have HO := Lib.hid ho
 have HG0 := Lib.hid hg
 clear h ho hg
 refine (callsIn_wide (n := 8)).1 ?_
 refine callsIn_of_wp_marks Tryz.func31 rfl trivial ?_ rfl
 simp only [Tryz.ntmps31, List.size_toArray, List.length_cons, List.length_nil, Nat.reduceAdd, Nat.reduceSub, Array.replicate_succ, Array.replicate_zero, List.push_toArray, List.append_toArray, List.nil_append, List.cons_append]
 gi_wp2
 refine ⟨trivial, ?_⟩
 refine (callsIn_wide.2 HC.out).mono ?_
 rintro e w1 ⟨hs, hk, ⟨-, r, l, rfl, hr, hreg, hns⟩ | ⟨ho, -⟩⟩
 rotate_left
 ·exact absurd HO.out ho
 have hst := FilI.start w1 r ⟨BS, readN BS⟩
 have HREG1 := Lib.hid hreg
 have HREG := Lib.hid (hreg.below (hst.bel.mono (Nat.le_refl _)))
 have HST := Lib.hid hst
 have HS := Lib.hid hs
 have HK := Lib.hid hk
 have HNS := Lib.hid hns
 clear hst hreg hs hk hns
 gi_wp2
 generalize (((w1.alloc (.cells #[.pointer (some ⟨r, 0, none⟩)] 93)).alloc (.cells #[] 63)).alloc (.cells #[.slice (some ⟨w1.heap.size + 1, 0, none⟩) 0 0] 59)) = w2 at *
 refine ⟨trivial, ?_⟩
 refine (callsIn_wide.2 (files_any r w2)).mono ?_
 rintro e w3 ⟨rfl, rfl⟩
 have hbox := Boxed.new w2 93 (.pointer (some ⟨r, 0, none⟩))
 have hb2 : Below w2.heap.size w2 (w2.alloc (.cells #[.pointer (some ⟨r, 0, none⟩)] 93)) := (Below.refl _ _).alloc (Nat.le_refl _) _
 have H2 := Lib.hid (HREG.out.below hb2)
 have hi2 := HST.out.below hb2
 have HI2 : Hid (FilS w1 r ⟨BS, readN BS⟩ [] (w2.alloc (.cells #[.pointer (some ⟨r, 0, none⟩)] 93))) := ⟨_, _, _, hi2⟩
 have HBOX := Lib.hid hbox
 have HS2 : Hid (w1.heap.size ≤ (w2.alloc (.cells #[.pointer (some ⟨r, 0, none⟩)] 93)).heap.size ∧ w1.heap.size + 1 + 1 < (w2.alloc (.cells #[.pointer (some ⟨r, 0, none⟩)] 93)).heap.size) := ⟨hi2.bel.size, hi2.fb.lt⟩
 clear hi2 hbox hb2 HREG HST
 gi_wp2
 generalize w2.alloc (.cells #[.pointer (some ⟨r, 0, none⟩)] 93) = w3 at *
 generalize w2.heap.size = g at *
 have hs2 := HS2.out.1
 refine wpIn_range_new rfl (by omega) (gf := 137) (lb := #[.pointer (some ⟨g, 0, none⟩)]) rfl trivial (enters_of Tryz.func137 (by kernel_rfl) rfl)
  (files_stops Fence.wide _ trivial rfl (by omega) g r BS l w3 HBOX.out H2.out) (Below.refl _ _) (fun _ => rfl)
  (FilS w1 r ⟨BS, readN BS⟩) (fun _ _ _ => False) (MidL w1 v l ⟨BS, readN BS⟩ r g)
  (fil_own w1 r _ hs2) (fun _ _ _ _ _ hs _ _ => hs) (fun pre i => midL_own w1 v l _ r g pre i hs2) HI2.out ?assign ?body ?done ?stop
 case assign =>
  intro y pre i W hi hpl
  have hk : KeepsOthers W (W.alloc (.cells #[St (ndAt l i).x.name, .int .i64 (ndAt l i).x.size, .slice (ndAt l i).A (ndAt l i).x.ext.length (ndAt l i).c] 123)) := KeepsOthers.alloc _ _
  obtain ⟨gg, cap, ll, hw⟩ := hi
  have hm : MidL w1 v l ⟨BS, readN BS⟩ r g pre i (actL w1 v l r g W.heap.size i) (W.alloc (.cells #[St (ndAt l i).x.name, .int .i64 (ndAt l i).x.size, .slice (ndAt l i).A (ndAt l i).x.ext.length (ndAt l i).c] 123)) :=
   ⟨W.heap.size, rfl, heap_alloc_new W _, ⟨gg, cap, ll, hw.below ((Below.refl _ _).alloc (Nat.le_refl _) _)⟩, by omega⟩
  have HK2 := Lib.hid hk
  have HM2 := Lib.hid hm
  clear hw hs2 hk hm
  gi_wp2
  exact ⟨HK2.out, HM2.out⟩
 case body =>
  rintro y pre i a W ⟨b, rfl, hn, ⟨gg, cap, ll, hu⟩, hpl⟩
  have hmix : Tryz.prog.follows .mixedOrders = true := by kernel_rfl
  unfold actL
  gi_wp2
  rename_i QQ
  have hQQ : QQ = ownPostK (fun _ _ => True) (FilS w1 r ⟨BS, readN BS⟩) (fun _ _ _ => False) (pre ++ [i]) W := rfl
  clear_value QQ
  have HQQ := Lib.hid hQQ
  clear hQQ
  have hpx : at' (readN BS) i = (ndAt l i).x := by rw [← HNS.out]; exact at_nd l i
  have hfit := at_fit HG0.out i
  rw [show (⟨BS, readN BS⟩ : RG).ns = readN BS from rfl, hpx] at hfit
  obtain ⟨hf0, hf1⟩ := hfit
  have hdv : dataV ⟨BS, readN BS⟩ (at' (readN BS) i) = ((wholeV BS (ndAt l i).x.ext).drop 0).take (ndAt l i).x.size.toNat := by rw [hpx]; rfl
  have hbel0 : Below W.heap.size W W.drew := (Below.refl _ W).drew
  refine wpIn_mono (Q := Exit.then (fun a w => Exit.inBlock 1 QQ .normal a w) (fun _ _ _ => False)) (wpIn_region_round (Q := fun _ _ _ => False) hmix (by kernel_rfl) (wpAny_of_last (S := fun W' => Below W.heap.size W W') (z := 10) _ _ _ _ ?go)) (fun e a w h => ?post)
  case post => cases e <;> first | exact h | exact h.elim
  case go =>
   have hS : Below W.heap.size W W.drew := hbel0
   generalize W.drew = w4 at *
   have c4 := hu.rb
   have c6 := hu.fb
   refine wpAnyZ_take (oi := ⟨_, _, _, _, _, _⟩) (i := 0) (v := .slice (some ⟨gg, 0, none⟩) ll.length cap) rfl (by kernel_rfl) (fun _ _ _ h => h) (yif_load rfl 59 (.tmp 6) rfl _ _ rfl fun w h => load_one aggFL ((h.cell (p := ⟨_, 0, none⟩) c6.lt).trans c6.cell)) hS ?_
   try simp only [Act.put, sqT, sqZ, sqS]
   refine wpAnyZ_take (oi := ⟨_, _, _, _, _, _⟩) (i := 1) (v := .pointer (some ⟨b, 0, none⟩)) rfl (by kernel_rfl) (fun _ _ _ h => h) (Or.inl ⟨by rfl, fun _ _ => by go_simp⟩) hS ?_
   try simp only [Act.put, sqT, sqZ, sqS]
   refine wpAnyZ_take (oi := ⟨_, _, _, _, _, _⟩) (i := 2) (v := St (ndAt l i).x.name) rfl (by kernel_rfl) (fun _ _ _ h => h) (yif_load rfl 9 (.tmp 23) rfl _ _ rfl fun w h => load_one aggStr ((h.cell (p := ⟨_, 0, none⟩) hn.lt).trans hn.c.1)) hS ?_
   try simp only [Act.put, sqT, sqZ, sqS]
   refine wpAnyZ_take (oi := ⟨_, _, _, _, _, _⟩) (i := 3) (v := .pointer (some ⟨r, 0, none⟩)) rfl (by kernel_rfl) (fun _ _ _ h => h) (yif_load rfl 93 (.tmp 4) rfl _ _ rfl fun w h => load_one aggRg ((h.cell (p := ⟨_, 0, none⟩) c4.lt).trans c4.cell)) hS ?_
   try simp only [Act.put, sqT, sqZ, sqS]
   refine wpAnyZ_take (oi := ⟨_, _, _, _, _, _⟩) (i := 4) (v := Ino.ag (ndAt l i).x (ndAt l i).A (ndAt l i).c) rfl (by kernel_rfl) (fun _ _ _ h => h) (yif_load rfl 123 (.tmp 8) rfl _ _ rfl fun w h => (hn.below h).load) hS ?_
   try simp only [Act.put, sqT, sqZ, sqS]
   refine wpAnyZ_take (oi := ⟨_, _, _, _, _, _⟩) (i := 5) (v := .pointer (some ⟨b, 1, none⟩)) rfl (by kernel_rfl) (fun _ _ _ h => h) (Or.inl ⟨by rfl, fun _ _ => by go_simp⟩) hS ?_
   try simp only [Act.put, sqT, sqZ, sqS]
   refine wpAnyZ_take (oi := ⟨_, _, _, _, _, _⟩) (i := 6) (v := .int .i64 (ndAt l i).x.size) rfl (by kernel_rfl) (fun _ _ _ h => h) (yif_load rfl 3 (.tmp 27) rfl _ _ rfl fun w h => load_one aggI3 ((h.cell (p := ⟨_, 1, none⟩) hn.lt).trans hn.c.2.1)) hS ?_
   try simp only [Act.put, sqT, sqZ, sqS]
   have hW4 : Below w1.heap.size w1 w4 := hu.bel.trans (hS.mono hu.bel.size)
   have hreg4 := HREG1.out.below hW4
   have hdat := data_any hreg4 (ndAt l i) (ndAt_ok hreg4 i) 0 (ndAt l i).x.size.toNat (by omega)
   rw [Int.toNat_of_nonneg hf0] at hdat
   refine wpAnyZ_one (i := 7) (by kernel_rfl) ?_
   refine op_call (om := ⟨_, _, _, _, _, _⟩) (fn := 89) (args := #[.pointer (some ⟨r, 0, none⟩), Ino.ag (ndAt l i).x (ndAt l i).A (ndAt l i).c, .int .i64 0, .int .i64 (ndAt l i).x.size])
    (R := fun u W' => ∃ gd cd, u = .slice (some ⟨gd, 0, none⟩) (((wholeV BS (ndAt l i).x.ext).drop 0).take (ndAt l i).x.size.toNat).length cd ∧ w4.heap.size ≤ gd ∧ gd < W'.heap.size ∧ BR W' W'.heap.size (some ⟨gd, 0, none⟩) (((wholeV BS (ndAt l i).x.ext).drop 0).take (ndAt l i).x.size.toNat) ∧ Below w4.heap.size w4 W') rfl (by kernel_rfl) (by go_simp)
    (hdat.mono fun e W' ⟨gd, cd, he, q1, q2, q3, q4, _⟩ => ⟨_, he, gd, cd, rfl, q1, q2, q3, q4⟩) _ _ rfl rfl ?_
   rintro u w5 ⟨gd, cd, rfl, q1, q2, q3, q4⟩
   rw [← hdv] at q3 ⊢
   have hS5 : Below W.heap.size W w5 := hS.trans (q4.mono hS.size)
   have hu5 := hu.below hS5
   have l6 := hu.fb.lt
   have lg := hu.own.block.2.1
   obtain ⟨g', cap', w7, s1, s2, s3, s4⟩ := hu5.step hpl i (gd := gd) (cd := cd) (xs := dataV ⟨BS, readN BS⟩ (at' (readN BS) i)) (by have := hS.size; omega) q2 (by have := hS.size; omega) q3 rfl
   generalize dataV ⟨BS, readN BS⟩ (at' (readN BS) i) = xs at *
   clear hdat hreg4 hdv q3 hu hu5
   refine ⟨.inr hS5, ?_⟩
   try simp only [Act.put, sqT, sqZ, sqS]
   refine wpAnyZ_take (oi := ⟨_, _, _, _, _, _⟩) (i := 8) (v := .agg #[St (ndAt l i).x.name, .slice (some ⟨gd, 0, none⟩) xs.length cd]) rfl (by kernel_rfl) (fun _ _ _ h => h) (Or.inl ⟨by rfl, fun _ _ => ex_build2F 63 (.tmp 24) (.tmp 29) rfl (St (ndAt l i).x.name) (.slice (some ⟨gd, 0, none⟩) xs.length cd) _ rfl rfl (runBuildF _ _ _ _ _)⟩) hS5 ?_
   try simp only [Act.put, sqT, sqZ, sqS]
   refine wpAnyZ_one (i := 9) (by kernel_rfl) ?_
   refine op_run (om := ⟨_, _, _, _, _, _⟩) (u := .slice (some ⟨w5.heap.size, 0, none⟩) 1 1) (w' := w5.alloc (.cells #[St (ndAt l i).x.name, .slice (some ⟨gd, 0, none⟩) xs.length cd] 63)) rfl (by kernel_rfl) (ex_buildSlice 59 _ rfl _ _ rfl (by go_simp)) _ _ rfl rfl ?_
   rintro u w6 ⟨rfl, rfl⟩
   refine ⟨.inr (hS5.alloc hS5.size _), ?_⟩
   try simp only [Act.put, sqT, sqZ, sqS]
   rw [hpx] at s1
   refine wpAnyZ_one (i := 10) (by kernel_rfl) ?_
   refine op_run (om := ⟨_, _, _, _, _, _⟩) rfl (by kernel_rfl) (ex_append2 _ _ 59 59 rfl _ s1) _ _ rfl rfl ?_
   rintro u w8 ⟨rfl, rfl⟩
   refine ⟨.inl (by omega), ?_⟩
   try simp only [Act.put, sqT, sqZ, sqS]
   refine wpAnyZ_one (i := 11) (by kernel_rfl) ?_
   refine op_unit (om := ⟨_, _, _, _, _, _⟩) rfl (by kernel_rfl) (ex_store 59 _ _ rfl _ _ rfl rfl (w' := w8.setCell ⟨w1.heap.size + 1 + 1, 0, none⟩ (.slice (some ⟨g', 0, none⟩) (ll.length + 1) cap')) (storeSl s2)) ?_
   refine ⟨.inl (by omega), ?_⟩
   try simp only [Act.put, sqT, sqZ, sqS]
   refine wpAnyZ_done (by kernel_rfl) ?_ _
   have hk5 : KeepsOthers W w5 := ⟨hS5.size, fun k o hk ho => (hS5.block k (Array.getElem?_eq_some_iff.1 hk).1).trans hk⟩
   show QQ .normal _ _
   rw [HQQ.out]
   exact ⟨hk5.trans s3, trivial, s4⟩
 case done =>
  rintro D ys W hD rfl ⟨gg, cap, ll, hu⟩ hK
  have cb := hu.fb.cell
  have HU := Lib.hid hu
  clear hu hs2
  gi_wp2
  have hDs : w1.heap.size ≤ D := by have := HS2.out.1; omega
  have g2 := grownBy_putObj' W D (.deferred none)
  have hr2 : ∀ r, some D = some r → ∃ o : Obj, W.heap[r]? = some o ∧ o.isCells = false := fun r e => by cases e; exact ⟨_, hK, rfl⟩
  have k2 := HU.out.bel.trans (belowK_b (w := w1) (Nat.le_refl _) W D _ (.deferred none) hDs hK rfl rfl)
  refine ⟨by simp, .inl ⟨D, _, rfl, run_takeDeferred hK, ?_⟩⟩
  refine ⟨.tuple #[.slice (some ⟨gg, 0, none⟩) ll.length cap, .int .i64 0], ?_, HM.out.st w1 _ HS.out HK.out.size (keeps_below' k2), HK.out.trans (keeps_below' k2), gg, cap, ll, rfl, (HU.out.own.kept g2 hr2).low (by have := HK.out.size; omega), fun d hd => ⟨br_grown (HU.out.rows d hd).2.2.2 g2 hr2, by have := (HU.out.rows d hd).1; have := HK.out.size; omega⟩, ?_⟩
  ·simp [results, Tryz.f31, go_sem]
  ·rw [HU.out.vals]
   unfold filesV
   rw [← HNS.out]
 case stop =>
  rintro D c2 pre W _ _ hf _
  exact hf.elim
end Go.Proofs.YtefgabnmcfpdcaaGreatDoor.Fs
namespace Go.Proofs.YtefgabnmcfpdcaaGreatDoor.Fs
open Go.RowKit Ex Ino Mm
set_option linter.unusedVariables false
def ns0 : List IN := List.replicate 8 in0
theorem at_ns0 (i : Nat) : at' ns0 i = in0 := by
 unfold at' ns0
 rw [List.getD_eq_getElem?_getD, List.getElem?_replicate]
 split <;> rfl
theorem good_ns0 {BS : List UInt8} (h : BS.length = 2048) : RGood ⟨BS, ns0⟩ := by
 refine ⟨h, by simp [ns0], fun i hi => .inl (at_ns0 i), fun i j hi hj hne hf _ => ?_⟩
 rw [at_ns0] at hf
 exact absurd hf (by decide)
theorem used_ns0 : usedN ns0 = 0 := by decide
theorem nodes_rep : ∀ n, (List.replicate n in0).flatMap nodeL = List.replicate (64 * n) 0
 | 0 => rfl
 | n + 1 => by
  rw [List.replicate_succ, List.flatMap_cons, nodes_rep n, nodeL_in0, show zr64 = List.replicate 64 0 from rfl, List.replicate_append_replicate]
  congr 1
  omega
theorem nodes_ns0 : ns0.flatMap nodeL = List.replicate 512 0 := nodes_rep 8
theorem bytes_ns0 (BS : List UInt8) : bytesL ⟨BS, ns0⟩ = fmtB ++ BS.drop 576 := by
 unfold bytesL fmtB
 rw [show (⟨BS, ns0⟩ : RG).ns = ns0 from rfl, used_ns0, nodes_ns0, List.append_assoc]
theorem fmt_lay {M : List UInt8} (hm : M.length = 8192) : layL M 6144 fmtB = layL M 6144 (bytesL ⟨regB M, ns0⟩) := by
 have hl := fmtB_len
 have hr : (regB M).length = 2048 := by unfold regB; rw [List.length_drop]; omega
 have hrg : ∀ j, (regB M)[j]? = M[6144 + j]? := fun j => by unfold regB; exact List.getElem?_drop ..
 have hb : (bytesL ⟨regB M, ns0⟩).length = 2048 := by rw [bytes_ns0, List.length_append, List.length_drop]; omega
 refine ext_getD (by rw [layL_len, layL_len]) fun k hk => ?_
 rw [layL_len] at hk
 rw [getD_layL _ _ _ _ hk, getD_layL _ _ _ _ hk, hl, hb]
 by_cases h1 : k < 6144
 ·rw [if_neg (by omega), if_neg (by omega)]
 have hbl : (fmtB ++ (regB M).drop 576).length = 2048 := by rw [← bytes_ns0]; exact hb
 rw [if_pos (show (6144 : Int) ≤ k ∧ (k : Int) < 6144 + ((2048 : Nat) : Int) by omega), bytes_ns0, byt_in (fmtB ++ (regB M).drop 576) ((k : Int) - 6144) (by omega)]
 by_cases h2 : k < 6720
 ·rw [if_pos (by omega), byt_in fmtB ((k : Int) - 6144) (by omega)]
  simp only [List.getD_eq_getElem?_getD]
  rw [List.getElem?_append_left (by omega)]
 ·rw [if_neg (by omega)]
  simp only [List.getD_eq_getElem?_getD]
  rw [List.getElem?_append_right (by omega), List.getElem?_drop, hrg, hl, show 6144 + (576 + (((k : Int) - 6144).toNat - 576)) = k by omega]
structure Has (M : List UInt8) (g : RG) : Prop where
 ml : M.length = 8192
 ok : okR (regB M)
 eq : (⟨regB M, readN (regB M)⟩ : RG) = ⟨bytesL g, g.ns⟩
theorem Has.lay {M : List UInt8} {g : RG} (hm : M.length = 8192) (h : RGood g) : Has (layL M 6144 (bytesL g)) g := by
 obtain ⟨h1, h2, h3⟩ := reread hm h
 exact ⟨by rw [layL_len]; exact hm, h1, by rw [h2, h3]⟩
theorem Has.fmt {M : List UInt8} (hm : M.length = 8192) : Has (layL M 6144 fmtB) ⟨regB M, ns0⟩ := by
 rw [fmt_lay hm]
 exact Has.lay hm (good_ns0 (by unfold regB; rw [List.length_drop]; omega))
def ns1 : List IN := [⟨[97], 0, []⟩, in0, in0, in0, in0, in0, in0, in0]
def ns2 : List IN := [⟨[97], 70, [(9, 2)]⟩, in0, in0, in0, in0, in0, in0, in0]
theorem demo_create (B : List UInt8) : createV ⟨B, ns0⟩ [97] = (0, 0, ⟨B, ns1⟩) := by
 have h1 : absentE ns0 [97] = 0 := by decide +kernel
 have h2 : freeI ns0 = some 0 := by decide +kernel
 unfold createV
 rw [show (⟨B, ns0⟩ : RG).ns = ns0 from rfl, if_pos h1, h2]
 rfl
theorem good_ns1 {B : List UInt8} (h : B.length = 2048) : RGood ⟨B, ns1⟩ := by
 have h1 := create_good (good_ns0 h) [97] (by rw [demo_create])
 obtain ⟨i, h2, h3, h4, h5⟩ := h1
 rw [demo_create] at h4
 injection h4 with _ h4
 injection h4 with _ h4
 rw [h4]
 exact h5
theorem demo_write {B : List UInt8} (h : B.length = 2048) : ∃ bs, bs.length = 2048 ∧ writeV ⟨B, ns1⟩ 0 0 (List.replicate 70 0) = (0, ⟨bs, ns2⟩) := by
 have h1 : nodeE ns1 0 = 0 := by decide +kernel
 have h2 : nodeX ns1 0 = ⟨[97], 0, []⟩ := by decide +kernel
 have h3 : needI (0 + (70 : Nat) : Int) = 2 := by decide +kernel
 have h4 : usedN ns1 = 0 := by decide +kernel
 have h5 : fitE [] 0 2 = 0 := by decide +kernel
 have h6 : fitX [] 0 2 = [(9, 2)] := by decide +kernel
 have hr : (reachV ⟨B, ns1⟩ 0 0 70) = (0, resizeG ⟨B, ns1⟩ 0 (0 + (70 : Nat) : Int)) := by
  unfold reachV
  rw [show (⟨B, ns1⟩ : RG).ns = ns1 from rfl, if_neg (by rw [h1]; decide), h2, if_neg (by decide), if_pos (by decide)]
  unfold resizeV
  rw [if_pos]
  unfold resizeE
  rw [show (⟨B, ns1⟩ : RG).ns = ns1 from rfl, if_neg (by rw [h1]; decide), if_neg (by decide), if_neg (by decide), h2, h3, h4]
  exact h5
 have hns : (resizeG ⟨B, ns1⟩ 0 (0 + (70 : Nat) : Int)).ns = ns2 := by
  unfold resizeG
  rw [show (⟨B, ns1⟩ : RG).ns = ns1 from rfl, h2, h3, h4]
  show ns1.set 0 ⟨[97], 0 + (70 : Nat), fitX [] 0 2⟩ = ns2
  rw [h6]
  rfl
 have hg := reach_good (good_ns1 h) (n := 0) (a := 0) (k := 70) (by rw [hr])
 rw [hr] at hg
 obtain ⟨_, _, hf, hgd⟩ := hg
 have hp := put_good hgd (n := 0) (a := 0) (b := List.replicate 70 0) (by decide) hf
 refine ⟨(putV (resizeG ⟨B, ns1⟩ 0 (0 + (70 : Nat) : Int)) 0 0 (List.replicate 70 0)).bs, hp.bl, ?_⟩
 unfold writeV
 rw [List.length_replicate, hr, if_pos rfl]
 refine Prod.ext rfl ?_
 show putV _ 0 0 _ = _
 rw [← hns]
 rfl
theorem good_ns2 {B : List UInt8} (h : B.length = 2048) {bs : List UInt8} (hw : writeV ⟨B, ns1⟩ 0 0 (List.replicate 70 0) = (0, ⟨bs, ns2⟩)) : RGood ⟨bs, ns2⟩ := by
 unfold writeV at hw
 split at hw
 ·rename_i hr
  obtain ⟨_, _, hf, hgd⟩ := reach_good (good_ns1 h) (n := 0) (a := 0) (k := (List.replicate 70 (0 : UInt8)).length) hr
  injection hw with _ hw
  rw [← hw]
  exact put_good hgd (by decide) hf
 ·rename_i hr
  injection hw with hw _
  exact absurd hw hr
theorem demo_files {bs : List UInt8} (h : bs.length = 2048) : ∃ d, d.length = 70 ∧ filesV ⟨bs, ns2⟩ = [([97], d)] := by
 have h1 : idxL ns2 = [0] := by decide +kernel
 refine ⟨dataV ⟨bs, ns2⟩ (at' ns2 0), ?_, ?_⟩
 ·unfold dataV
  rw [List.length_take, wholeV_len h]
  decide +kernel
 ·unfold filesV
  rw [show (⟨bs, ns2⟩ : RG).ns = ns2 from rfl, h1]
  rfl
end Go.Proofs.YtefgabnmcfpdcaaGreatDoor.Fs
namespace Go.Proofs.YtefgabnmcfpdcaaGreatDoor.Fs
open Go.RowKit Ex Ino Mm
set_option linter.unusedVariables false
set_option linter.unusedSimpArgs false
def RenI (w : World) (f t : List UInt8) (W : World) : Prop := Boxed W w.heap.size 9 (St f) ∧ Boxed W (w.heap.size + 1) 9 (St t)
def caps2 (w : World) : Array Value := #[.pointer (some ⟨w.heap.size, 0, none⟩), .pointer (some ⟨w.heap.size + 1, 0, none⟩)]
def renF (w : World) : List (Nat × Array Value) := [(105, caps2 w)]
def renW (w : World) (f t : List UInt8) : World := ((w.alloc (.cells #[St f] 9)).alloc (.cells #[St t] 9)).alloc (.cells #[.func (.func 105) #[] (caps2 w)] 115)
set_option maxRecDepth 100000 in
set_option maxHeartbeats 1000000 in
theorem rename1_any {w : World} {r : Nat} {bs : List UInt8} {l : List ND} (h : RegAt w r bs l) (f t : List UInt8) (hf : f.length ≤ 9223372036854775807) (ht : t.length ≤ 9223372036854775807) {q1 q2 : Nat} (h1 : Boxed w q1 9 (St f)) (h2 : Boxed w q2 9 (St t)) :
  Calls Tryz.prog 105 #[.pointer (some ⟨r, 0, none⟩), .pointer (some ⟨q1, 0, none⟩), .pointer (some ⟨q2, 0, none⟩)] w (Wri1Out w r (renameV ⟨bs, nsOf l⟩ f t)) := by
 have HC := Lib.hid (rename_any h f t hf ht)
 have c1 := h1.cell
 have c2 := h2.cell
 clear h h1 h2
 generalize renameV ⟨bs, nsOf l⟩ f t = rv at *
 obtain ⟨E, g2⟩ := rv
 go_enter Tryz.func105, Tryz.ntmps105
 go_wp2_with fail
 refine HC.out.mono ?_
 rintro e w2 ⟨rfl, hreg2, hk2⟩
 have HG : Hid (Wri1Out w r (E, g2) (.returned (.int .i64 E)) w2) := ⟨rfl, hreg2, hk2⟩
 clear hreg2 hk2 HC
 go_wp2_with fail
 go_ret
 exact HG.out
set_option maxHeartbeats 1000000 in
theorem ren_steps {w : World} {p gb mb : Nat} {G M : List UInt8} (h : MemAt w p gb mb G M) (f t : List UInt8) (hf : f.length ≤ 9223372036854775807) (ht : t.length ≤ 9223372036854775807) (g0 : RG) :
  Steps (renW w f t) p gb mb (fun _ => False) (w.heap.size + 1 + 1) (renF w) [fun g => renameV g f t] g0 (fun _ W => RenI w f t W) := by
 obtain ⟨l1, l2, l3⟩ := h.lt
 have hsz : (renW w f t).heap.size = w.heap.size + 1 + 1 + 1 := by unfold renW; rw [World.size_alloc, World.size_alloc, World.size_alloc]
 have b0 : Boxed (renW w f t) w.heap.size 9 (St f) := ((Boxed.new w 9 (St f)).alloc _).alloc _
 have b1 : Boxed (renW w f t) (w.heap.size + 1) 9 (St t) := by
  have := (Boxed.new (w.alloc (.cells #[St f] 9)) 9 (St t)).alloc (.cells #[.func (.func 105) #[] (caps2 w)] 115)
  rwa [World.size_alloc] at this
 have b2 := Boxed.new ((w.alloc (.cells #[St f] 9)).alloc (.cells #[St t] 9)) 115 (.func (.func 105) #[] (caps2 w))
 rw [World.size_alloc, World.size_alloc] at b2
 have hc0 : ∀ k, k < (renF w).length → k = 0 := fun k hk => by simp only [renF, List.length_singleton] at hk; omega
 refine ⟨rfl, by show 1 ≤ 100; omega, fun k hk => ?_, fun k hk => ?_, ⟨by omega, by omega, fun f => f⟩, fun k f => f.elim, fun W k => ?_, fun W W' k hI hk => ?_, fun k hk gk hgk W r l hr hI hK hreg hns => ?_⟩
 ·obtain rfl := hc0 k hk
  exact enters_of Tryz.func105 (by kernel_rfl) rfl
 ·obtain rfl := hc0 k hk
  exact b2.cell
 ·exact ⟨(k.block _ b0.lt (by omega)).trans b0, (k.block _ b1.lt (by omega)).trans b1⟩
 ·exact ⟨(hk.block _ (Boxed.lt hI.1) (by omega)).trans hI.1, (hk.block _ (Boxed.lt hI.2) (by omega)).trans hI.2⟩
 ·obtain rfl := hc0 k hk
  have hg : gk = g0 := by simpa [runV] using hgk.symm
  subst hg
  have he : (⟨gk.bs, nsOf l⟩ : RG) = gk := by rw [hns]
  have := rename1_any hreg f t hf ht hI.1 hI.2
  rw [he] at this
  refine this.mono ?_
  rintro e w' ⟨rfl, ⟨l', e1, e2⟩, e3⟩
  exact ⟨l', rfl, e2, e1, e3.mono fun _ _ e => .inl e, (e3.block _ (Boxed.lt hI.1) (fun e => by omega)).trans hI.1, (e3.block _ (Boxed.lt hI.2) (fun e => by omega)).trans hI.2⟩
set_option maxRecDepth 100000 in
set_option maxHeartbeats 1000000 in
theorem frename_any {w : World} {p gb mb : Nat} {G M : List UInt8} (h : MemAt w p gb mb G M) (ho : okR (regB M)) (f t : List UInt8) (hf : f.length ≤ 9223372036854775807) (ht : t.length ≤ 9223372036854775807) :
  Calls Tryz.prog 40 #[.pointer (some ⟨p, 0, none⟩), St f, St t] w (WriOut w p gb mb G M (renameV ⟨regB M, readN (regB M)⟩ f t)) := by
 have kw : Keeps (fun _ => False) w (renW w f t) := Keeps.trans (Keeps.trans (Keeps.alloc _ _ _) (Keeps.alloc _ _ _)) (Keeps.alloc _ _ _)
 have hch := change_any (c := 1) (h.keep kw (fun f => f) (fun f => f) (fun f => f)) ho (ren_steps h f t hf ht ⟨regB M, readN (regB M)⟩)
 have hv := runV_one (fun g => renameV g f t) ⟨regB M, readN (regB M)⟩
 rw [hv] at hch
 have HC := Lib.hid hch
 have HK := Lib.hid kw
 clear hch kw h hv
 generalize hg0 : (⟨regB M, readN (regB M)⟩ : RG) = g0 at *
 unfold renW caps2 at HC HK
 go_enter Tryz.func40, Tryz.ntmps40
 go_wp2_with fail
 refine HC.out.mono ?_
 rintro e w2 ⟨W, k, hk1, hI, rfl, h0, h1, hk2, hk3⟩
 dsimp only at h0 h1 ⊢
 generalize renameV g0 f t = rv at *
 have HG : Hid (WriOut w p gb mb G M rv (.returned (.int .i64 rv.1)) w2) := by
  refine ⟨rfl, ?_, (HK.out.mono fun _ _ f => f.elim).trans (hk3.mono fun j _ f => by rcases f with f | f | f; exact .inl f; exact .inr f; exact f.elim)⟩
  by_cases hE : rv.1 = 0
  ·rw [if_pos hE]; exact (h0 hE).2
  ·rw [if_neg hE]; exact h1 hE
 clear hI h0 h1 hk2 hk3 HC
 go_wp2_with fail
 go_ret
 exact HG.out
end Go.Proofs.YtefgabnmcfpdcaaGreatDoor.Fs
namespace Go.Proofs.YtefgabnmcfpdcaaGreatDoor.Fs
open Go.RowKit Ex Ino Mm
set_option linter.unusedVariables false
set_option linter.unusedSimpArgs false
def RszI (w : World) (n s : Int) (W : World) : Prop := Boxed W w.heap.size 3 (.int .i64 n) ∧ Boxed W (w.heap.size + 1) 3 (.int .i64 s) ∧ Tab W
def rszF (w : World) : List (Nat × Array Value) := [(107, caps2 w)]
def rszW (w : World) (n s : Int) : World := ((w.alloc (.cells #[.int .i64 n] 3)).alloc (.cells #[.int .i64 s] 3)).alloc (.cells #[.func (.func 107) #[] (caps2 w)] 115)
set_option maxRecDepth 100000 in
set_option maxHeartbeats 1000000 in
theorem resize1_any {w : World} {r : Nat} {bs : List UInt8} {l : List ND} (h : RegAt w r bs l) (hg : RGood ⟨bs, nsOf l⟩) (hT : Tab w) (n s : Int) {q1 q2 : Nat} (h1 : Boxed w q1 3 (.int .i64 n)) (h2 : Boxed w q2 3 (.int .i64 s)) :
  Calls Tryz.prog 107 #[.pointer (some ⟨r, 0, none⟩), .pointer (some ⟨q1, 0, none⟩), .pointer (some ⟨q2, 0, none⟩)] w (Wri1Out w r (resizeV ⟨bs, nsOf l⟩ n s)) := by
 have hc := resize_any h hg hT n s
 unfold ResOut at hc
 have HC := Lib.hid hc
 clear hc
 have c1 := h1.cell
 have c2 := h2.cell
 clear h h1 h2 hg hT
 generalize resizeV ⟨bs, nsOf l⟩ n s = rv at *
 obtain ⟨E, g2⟩ := rv
 go_enter Tryz.func107, Tryz.ntmps107
 go_wp2_with fail
 refine HC.out.mono ?_
 rintro e w2 ⟨rfl, hreg2, hk2⟩
 have HG : Hid (Wri1Out w r (E, g2) (.returned (.int .i64 E)) w2) := ⟨rfl, hreg2, hk2⟩
 clear hreg2 hk2 HC
 go_wp2_with fail
 go_ret
 exact HG.out
set_option maxHeartbeats 1000000 in
theorem rsz_steps {w : World} {p gb mb : Nat} {G M : List UInt8} (h : MemAt w p gb mb G M) (hT : Tab w) (hmb : mb ≠ 0) (n s : Int) (g0 : RG) (hg0 : RGood g0) :
  Steps (rszW w n s) p gb mb (fun _ => False) (w.heap.size + 1 + 1) (rszF w) [fun g => resizeV g n s] g0 (fun _ W => RszI w n s W) := by
 obtain ⟨l1, l2, l3⟩ := h.lt
 have ht0 := hT.pos
 have kw : Keeps (fun _ => False) w (rszW w n s) := Keeps.trans (Keeps.trans (Keeps.alloc _ _ _) (Keeps.alloc _ _ _)) (Keeps.alloc _ _ _)
 have hT1 : Tab (rszW w n s) := hT.keep (kw.block 0 ht0 (fun f => f))
 have hsz : (rszW w n s).heap.size = w.heap.size + 1 + 1 + 1 := by unfold rszW; rw [World.size_alloc, World.size_alloc, World.size_alloc]
 have b0 : Boxed (rszW w n s) w.heap.size 3 (.int .i64 n) := ((Boxed.new w 3 (.int .i64 n)).alloc _).alloc _
 have b1 : Boxed (rszW w n s) (w.heap.size + 1) 3 (.int .i64 s) := by
  have := (Boxed.new (w.alloc (.cells #[.int .i64 n] 3)) 3 (.int .i64 s)).alloc (.cells #[.func (.func 107) #[] (caps2 w)] 115)
  rwa [World.size_alloc] at this
 have b2 := Boxed.new ((w.alloc (.cells #[.int .i64 n] 3)).alloc (.cells #[.int .i64 s] 3)) 115 (.func (.func 107) #[] (caps2 w))
 rw [World.size_alloc, World.size_alloc] at b2
 have hc0 : ∀ k, k < (rszF w).length → k = 0 := fun k hk => by simp only [rszF, List.length_singleton] at hk; omega
 refine ⟨rfl, by show 1 ≤ 100; omega, fun k hk => ?_, fun k hk => ?_, ⟨by omega, by omega, fun f => f⟩, fun k f => f.elim, fun W k => ?_, fun W W' k hI hk => ?_, fun k hk gk hgk W r l hr hI hK hreg hns => ?_⟩
 ·obtain rfl := hc0 k hk
  exact enters_of Tryz.func107 (by kernel_rfl) rfl
 ·obtain rfl := hc0 k hk
  exact b2.cell
 ·exact ⟨(k.block _ b0.lt (by omega)).trans b0, (k.block _ b1.lt (by omega)).trans b1, hT1.keep (k.block 0 hT1.pos (by omega))⟩
 ·exact ⟨(hk.block _ (Boxed.lt hI.1) (by omega)).trans hI.1, (hk.block _ (Boxed.lt hI.2.1) (by omega)).trans hI.2.1, hI.2.2.keep (hk.block 0 hI.2.2.pos (by omega))⟩
 ·obtain rfl := hc0 k hk
  have hg : gk = g0 := by simpa [runV] using hgk.symm
  subst hg
  have he : (⟨gk.bs, nsOf l⟩ : RG) = gk := by rw [hns]
  have := resize1_any hreg (by rw [he]; exact hg0) hI.2.2 n s hI.1 hI.2.1
  rw [he] at this
  refine this.mono ?_
  rintro e w' ⟨rfl, ⟨l', e1, e2⟩, e3⟩
  exact ⟨l', rfl, e2, e1, e3.mono fun _ _ e => .inl e, (e3.block _ (Boxed.lt hI.1) (fun e => by omega)).trans hI.1, (e3.block _ (Boxed.lt hI.2.1) (fun e => by omega)).trans hI.2.1, hI.2.2.keep (e3.block 0 hI.2.2.pos (fun e => by omega))⟩
set_option maxRecDepth 100000 in
set_option maxHeartbeats 1000000 in
theorem fresize_any {w : World} {p gb mb : Nat} {G M : List UInt8} (h : MemAt w p gb mb G M) (ho : okR (regB M)) (hT : Tab w) (hmb : mb ≠ 0) (n s : Int) :
  Calls Tryz.prog 42 #[.pointer (some ⟨p, 0, none⟩), .int .i64 n, .int .i64 s] w (WriOut w p gb mb G M (resizeV ⟨regB M, readN (regB M)⟩ n s)) := by
 have kw : Keeps (fun _ => False) w (rszW w n s) := Keeps.trans (Keeps.trans (Keeps.alloc _ _ _) (Keeps.alloc _ _ _)) (Keeps.alloc _ _ _)
 have hch := change_any (c := 1) (h.keep kw (fun f => f) (fun f => f) (fun f => f)) ho (rsz_steps h hT hmb n s ⟨regB M, readN (regB M)⟩ (good_of h.ml ho))
 have hv := runV_one (fun g => resizeV g n s) ⟨regB M, readN (regB M)⟩
 rw [hv] at hch
 have HC := Lib.hid hch
 have HK := Lib.hid kw
 clear hch kw h hv hT
 generalize hg0 : (⟨regB M, readN (regB M)⟩ : RG) = g0 at *
 unfold rszW caps2 at HC HK
 go_enter Tryz.func42, Tryz.ntmps42
 go_wp2_with fail
 refine HC.out.mono ?_
 rintro e w2 ⟨W, k, hk1, hI, rfl, h0, h1, hk2, hk3⟩
 dsimp only at h0 h1 ⊢
 generalize resizeV g0 n s = rv at *
 have HG : Hid (WriOut w p gb mb G M rv (.returned (.int .i64 rv.1)) w2) := by
  refine ⟨rfl, ?_, (HK.out.mono fun _ _ f => f.elim).trans (hk3.mono fun j _ f => by rcases f with f | f | f; exact .inl f; exact .inr f; exact f.elim)⟩
  by_cases hE : rv.1 = 0
  ·rw [if_pos hE]; exact (h0 hE).2
  ·rw [if_neg hE]; exact h1 hE
 clear hI h0 h1 hk2 hk3 HC
 go_wp2_with fail
 go_ret
 exact HG.out
end Go.Proofs.YtefgabnmcfpdcaaGreatDoor.Fs
namespace Go.Proofs.YtefgabnmcfpdcaaGreatDoor.Fs
open Go.RowKit Ex Ino Mm
set_option linter.unusedVariables false
set_option linter.unusedSimpArgs false
variable {v : Option Addr} {S : World → Prop} {F : Nat → Prop} {w : World} {BS : List UInt8}
def rdAt (x : IN) (a : Int) : Nat := (min a x.size).toNat
def rdN (x : IN) (a k : Int) : Nat := (min k (x.size - min a x.size)).toNat
def readE (g : RG) (n a k : Int) : Int := if nodeE g.ns n ≠ 0 then nodeE g.ns n else if a < 0 ∨ k < 0 then 1 else 0
def readX (g : RG) (n a k : Int) : List UInt8 := if readE g n a k = 0 then ((wholeV g.bs (nodeX g.ns n).ext).drop (rdAt (nodeX g.ns n) a)).take (rdN (nodeX g.ns n) a k) else []
def RdOut (S : World → Prop) (F : Nat → Prop) (w : World) (xs : List UInt8) (E : Int) (e : Ending) (w' : World) : Prop := S w' ∧ Keeps F w w' ∧
 ∃ A c, e = .returned (.tuple #[.slice A xs.length c, .int .i64 E]) ∧ BR w' w'.heap.size A xs ∧ ∀ ad, A = some ad → w.heap.size ≤ ad.block
set_option maxRecDepth 100000 in
set_option maxHeartbeats 1000000 in
theorem fread_no (h : MemC v S F w BS) (ho : okR BS) (n a k : Int) (h0 : nodeE (readN BS) n ≠ 0) :
  Calls Tryz.prog 45 #[.pointer v, .int .i64 n, .int .i64 a, .int .i64 k] w (RdOut S F w [] (nodeE (readN BS) n)) := by
 have HC := Lib.hid (copied_any h)
 have HO := Lib.hid ho
 have HST := Lib.hid h.st
 clear h ho
 go_enter Tryz.func45, Tryz.ntmps45
 go_wp2_with fail
 refine HC.out.mono ?_
 rintro e w1 ⟨hs, hk1, ⟨-, r, l, rfl, hr, hreg, hns⟩ | ⟨ho, -⟩⟩
 rotate_left
 ·exact absurd HO.out ho
 have hf := node_any hreg n
 unfold GivesNode at hf
 have hx := nodeD_x l n
 have hdk := nodeD_ok hreg n
 rw [hns] at hf hx
 have HF := Lib.hid hf
 have HS := Lib.hid hs
 have HK := Lib.hid hk1
 have HREG := Lib.hid hreg
 have HX := Lib.hid hx
 have HDK := Lib.hid hdk
 clear hs hk1 hf hx hdk hreg
 generalize nodeD l n = d at *
 generalize nodeE (readN BS) n = E at *
 have HG : Hid (∀ w2, Below w1.heap.size w1 w2 → RdOut S F w [] E (.returned (.tuple #[.slice none 0 0, .int .i64 E])) w2) := fun w2 b2 =>
  ⟨HST.out w1 _ HS.out HK.out.size (keeps_below' b2), HK.out.trans (keeps_below' b2), none, 0, rfl, BR.nil, fun _ e => by cases e⟩
 go_wp2_with fail
 refine HF.out.mono ?_
 rintro e w2 ⟨rfl, b2⟩
 have hgo := Lib.hid (HG.out _ (b2.trans ((bA w2 (.cells #[St d.x.name, .int .i64 d.x.size, .slice d.A d.x.ext.length d.c] 123)).mono b2.size)))
 have d0 : (E != 0) = true := by simpa using h0
 clear b2 HC HF HG h0
 go_wp2_with fail
 go_ret2
 exact hgo.out
set_option maxRecDepth 100000 in
set_option maxHeartbeats 1000000 in
theorem fread_rng (h : MemC v S F w BS) (ho : okR BS) (n a k : Int) (h0 : nodeE (readN BS) n = 0) (h1 : a < 0 ∨ k < 0) :
  Calls Tryz.prog 45 #[.pointer v, .int .i64 n, .int .i64 a, .int .i64 k] w (RdOut S F w [] 1) := by
 have HC := Lib.hid (copied_any h)
 have HO := Lib.hid ho
 have HST := Lib.hid h.st
 clear h ho
 go_enter Tryz.func45, Tryz.ntmps45
 go_wp2_with fail
 refine HC.out.mono ?_
 rintro e w1 ⟨hs, hk1, ⟨-, r, l, rfl, hr, hreg, hns⟩ | ⟨ho, -⟩⟩
 rotate_left
 ·exact absurd HO.out ho
 have hf := node_any hreg n
 unfold GivesNode at hf
 have hx := nodeD_x l n
 have hdk := nodeD_ok hreg n
 rw [hns] at hf hx
 have HF := Lib.hid hf
 have HS := Lib.hid hs
 have HK := Lib.hid hk1
 have HREG := Lib.hid hreg
 have HX := Lib.hid hx
 have HDK := Lib.hid hdk
 clear hs hk1 hf hx hdk hreg
 generalize nodeD l n = d at *
 rw [h0] at HF
 have HG : Hid (∀ w2, Below w1.heap.size w1 w2 → RdOut S F w [] 1 (.returned (.tuple #[.slice none 0 0, .int .i64 1])) w2) := fun w2 b2 =>
  ⟨HST.out w1 _ HS.out HK.out.size (keeps_below' b2), HK.out.trans (keeps_below' b2), none, 0, rfl, BR.nil, fun _ e => by cases e⟩
 go_wp2_with fail
 refine HF.out.mono ?_
 rintro e w2 ⟨rfl, b2⟩
 have hgo := Lib.hid (HG.out _ (b2.trans ((bA w2 (.cells #[St d.x.name, .int .i64 d.x.size, .slice d.A d.x.ext.length d.c] 123)).mono b2.size)))
 clear b2 HC HF HG
 by_cases h2 : a < 0
 ·have d1 : decide (a < 0) = true := by simpa using h2
  go_wp2_with fail
  go_ret2
  exact hgo.out
 ·have d1 : decide (a < 0) = false := by simpa using h2
  have d2 : decide (k < 0) = true := by simp; omega
  go_wp2_with fail
  go_ret2
  exact hgo.out
set_option maxRecDepth 100000 in
set_option maxHeartbeats 1000000 in
theorem fread_yes (h : MemC v S F w BS) (ho : okR BS) (hg : RGood ⟨BS, readN BS⟩) (n a k : Int) (h0 : nodeE (readN BS) n = 0) (ha : 0 ≤ a ∧ a ≤ 9223372036854775807) (hk : 0 ≤ k ∧ k ≤ 9223372036854775807) :
  Calls Tryz.prog 45 #[.pointer v, .int .i64 n, .int .i64 a, .int .i64 k] w (RdOut S F w (((wholeV BS (nodeX (readN BS) n).ext).drop (rdAt (nodeX (readN BS) n) a)).take (rdN (nodeX (readN BS) n) a k)) 0) := by
 have HGD := Lib.hid hg
 clear hg
 generalize hxs : ((wholeV BS (nodeX (readN BS) n).ext).drop (rdAt (nodeX (readN BS) n) a)).take (rdN (nodeX (readN BS) n) a k) = xs
 have HXS := Lib.hid hxs
 clear hxs
 have HC := Lib.hid (copied_any h)
 have HO := Lib.hid ho
 have HST := Lib.hid h.st
 clear h ho
 go_enter Tryz.func45, Tryz.ntmps45
 go_wp2_with fail
 refine HC.out.mono ?_
 rintro e w1 ⟨hs, hk1, ⟨-, r, l, rfl, hr, hreg, hns⟩ | ⟨ho, -⟩⟩
 rotate_left
 ·exact absurd HO.out ho
 have hf := node_any hreg n
 unfold GivesNode at hf
 have hx := nodeD_x l n
 have hdk := nodeD_ok hreg n
 rw [hns] at hf hx
 have HF := Lib.hid hf
 have HS := Lib.hid hs
 have HK := Lib.hid hk1
 have HREG := Lib.hid hreg
 have HX := Lib.hid hx
 have HDK := Lib.hid hdk
 clear hs hk1 hf hx hdk hreg
 generalize nodeD l n = d at *
 rw [h0] at HF
 have ex : nodeX (readN BS) n = at' (readN BS) n.toNat := by unfold nodeX; rw [if_pos h0]
 obtain ⟨hn, fn⟩ := nodeE_zero.1 h0
 have hsz := HGD.out.size (i := n.toNat) (by omega)
 rw [show (⟨BS, readN BS⟩ : RG).ns = readN BS from rfl, ← ex, ← HX.out] at hsz
 obtain ⟨⟨z0, z1⟩, -, z2⟩ := hsz
 have hxs := HXS.out
 rw [← HX.out] at hxs
 clear ex fn h0 hn HXS
 have ea : (((rdAt d.x a : Nat)) : Int) = min a d.x.size := by unfold rdAt; omega
 have ek : (((rdN d.x a k : Nat)) : Int) = min k (d.x.size - min a d.x.size) := by unfold rdN; omega
 have hfit : rdAt d.x a + rdN d.x a k ≤ 64 * (blkO d.x.ext).length := by omega
 have HD : Hid (∀ W (X Y : Int), Below w1.heap.size w1 W → X = (rdAt d.x a : Nat) → Y = (rdN d.x a k : Nat) → Calls Tryz.prog 89 #[.pointer (some ⟨r, 0, none⟩), Ino.ag d.x d.A d.c, .int .i64 X, .int .i64 Y] W (GivesN W xs)) := fun W X Y b e1 e2 => by
  rw [e1, e2, ← hxs]
  exact data_any (HREG.out.below b) d ((HDK.out.keeps (keeps_below r b) HDK.out.no)) (rdAt d.x a) (rdN d.x a k) hfit
 have d1 : decide (a < 0) = false := by simp; omega
 have d2 : decide (k < 0) = false := by simp; omega
 have HR : Hid (∀ (xs : List UInt8) (g c : Nat) w2 w3, Below w1.heap.size w1 w2 → BR w3 w3.heap.size (some ⟨g, 0, none⟩) xs → w2.heap.size ≤ g → Below w2.heap.size w2 w3 → RdOut S F w xs 0 (.returned (.tuple #[.slice (some ⟨g, 0, none⟩) xs.length c, .int .i64 0])) w3) := fun xs g c w2 w3 b2 br hg b3 =>
  have b := b2.trans (b3.mono b2.size)
  ⟨HST.out w1 _ HS.out HK.out.size (keeps_below' b), HK.out.trans (keeps_below' b), some ⟨g, 0, none⟩, c, rfl, br, fun ad e => by cases e; show w.heap.size ≤ g; have := HK.out.size; have := b2.size; omega⟩
 clear hxs
 have EA := Lib.hid ea
 have EK := Lib.hid ek
 clear hfit ea ek z2
 generalize rdAt d.x a = ra at *
 generalize rdN d.x a k = rk at *
 go_wp2_with fail
 refine HF.out.mono ?_
 rintro e w2 ⟨rfl, b2⟩
 have hbx := heap_alloc_new w2 (.cells #[St d.x.name, .int .i64 d.x.size, .slice d.A d.x.ext.length d.c] 123)
 have B2 := Lib.hid (b2.trans ((bA w2 (.cells #[St d.x.name, .int .i64 d.x.size, .slice d.A d.x.ext.length d.c] 123)).mono b2.size))
 have cs : (w2.alloc (.cells #[St d.x.name, .int .i64 d.x.size, .slice d.A d.x.ext.length d.c] 123)).cell? ⟨w2.heap.size, 1, none⟩ = some (.int .i64 d.x.size) := by rw [cell_of_row _ _ _ _ _ _ hbx]; rfl
 clear b2 HC HF hbx
 go_wp2_with fail
 all_goals refine (HD.out _ _ _ B2.out (by have := EA.out; have := EK.out; omega) (by have := EA.out; have := EK.out; omega)).mono ?_
 all_goals rintro e w3 ⟨gd, cd, rfl, hg1, hg2, br, b3, -⟩
 all_goals have hgo := Lib.hid (HR.out xs gd cd _ w3 B2.out br hg1 b3)
 all_goals clear br b3 HR
 all_goals go_wp2_with fail
 all_goals go_ret2
 all_goals exact hgo.out
theorem fread_any (h : MemC v S F w BS) (ho : okR BS) (hg : RGood ⟨BS, readN BS⟩) (n a k : Int) (ha : -9223372036854775808 ≤ a ∧ a ≤ 9223372036854775807) (hk : -9223372036854775808 ≤ k ∧ k ≤ 9223372036854775807) :
  Calls Tryz.prog 45 #[.pointer v, .int .i64 n, .int .i64 a, .int .i64 k] w (RdOut S F w (readX ⟨BS, readN BS⟩ n a k) (readE ⟨BS, readN BS⟩ n a k)) := by
 by_cases h0 : nodeE (readN BS) n = 0
 ·by_cases h1 : a < 0 ∨ k < 0
  ·have hE : readE ⟨BS, readN BS⟩ n a k = 1 := by unfold readE; rw [if_neg (by simp only; rw [h0]; decide), if_pos h1]
   have hX : readX ⟨BS, readN BS⟩ n a k = [] := by unfold readX; rw [hE, if_neg (by decide)]
   rw [hE, hX]
   exact fread_rng h ho n a k h0 h1
  ·have hE : readE ⟨BS, readN BS⟩ n a k = 0 := by unfold readE; rw [if_neg (by simp only; rw [h0]; decide), if_neg h1]
   have hX : readX ⟨BS, readN BS⟩ n a k = ((wholeV BS (nodeX (readN BS) n).ext).drop (rdAt (nodeX (readN BS) n) a)).take (rdN (nodeX (readN BS) n) a k) := by unfold readX; rw [hE, if_pos rfl]
   rw [hE, hX]
   exact fread_yes h ho hg n a k h0 ⟨by omega, ha.2⟩ ⟨by omega, hk.2⟩
 ·have hE : readE ⟨BS, readN BS⟩ n a k = nodeE (readN BS) n := by unfold readE; rw [if_pos h0]
  have hX : readX ⟨BS, readN BS⟩ n a k = [] := by unfold readX; rw [hE, if_neg h0]
  rw [hE, hX]
  exact fread_no h ho n a k h0
end Go.Proofs.YtefgabnmcfpdcaaGreatDoor.Fs
namespace Go.Proofs.YtefgabnmcfpdcaaGreatDoor.Mm
open Go.RowKit Go.Maps
set_option linter.unusedVariables false
def fillL (xs : List UInt8) : List UInt8 := loadL xs 0 8192
theorem fillL_len (xs : List UInt8) : (fillL xs).length = 8192 := loadL_len _ _ _
theorem getD_zeros (n k : Nat) : (List.replicate n (0 : UInt8)).getD k 0 = 0 := by
 rw [List.getD_eq_getElem?_getD, List.getElem?_replicate]
 split <;> rfl
theorem splice_fill (xs : List UInt8) (h : xs.length ≤ 8192) : splice (List.replicate 8192 0) 0 xs = fillL xs := by
 have hl : (splice (List.replicate 8192 (0 : UInt8)) 0 xs).length = 8192 := by
  unfold splice
  simp only [List.length_append, List.length_take, List.length_drop, List.length_replicate]
  omega
 refine ext_getD (by rw [hl, fillL_len]) fun k hk => ?_
 rw [hl] at hk
 unfold fillL
 rw [getD_splice _ _ _ _ (by rw [List.length_replicate]; omega), getD_loadL _ _ _ _ hk, if_neg (by omega), byt_in _ _ (by omega), show ((0 : Int) + k).toNat = k by omega]
 have hz := getD_zeros 8192 k
 by_cases h1 : k < 0 + xs.length
 ·rw [if_pos h1]
  congr 1
 ·rw [if_neg h1, hz]
  rw [List.getD_eq_getElem?_getD, List.getElem?_eq_none (by omega)]
  rfl
theorem fill_take (xs : List UInt8) (h : 8192 < xs.length) : fillL (xs.take 8192) = fillL xs := by
 refine ext_getD (by rw [fillL_len, fillL_len]) fun k hk => ?_
 rw [fillL_len] at hk
 unfold fillL
 rw [getD_loadL _ _ _ _ hk, getD_loadL _ _ _ _ hk, byt_in _ _ (by omega), byt_in _ _ (by omega), show ((0 : Int) + k).toNat = k by omega]
 simp only [List.getD_eq_getElem?_getD]
 rw [List.getElem?_take_of_lt hk]
theorem run_fill {w : World} (g c : Nat) (A : Option Addr) (xs : List UInt8) (hr : Row8 w g 5 (List.replicate 8192 0)) (hx : BR w w.heap.size A xs) :
  ∃ n w', (Builtin.copy_ #[31, 31] 3 #[.slice (some ⟨g, 0, none⟩) 8192 8192, .slice A xs.length c]).run Tryz.prog w = .ok (.int .i64 n) w' ∧ Row8 w' g 5 (fillL xs) ∧ Keeps (fun k => k = g) w w' := by
 by_cases h : xs.length ≤ 8192
 ·obtain ⟨w', h1, h2, h3⟩ := run_copy8 (P := Tryz.prog) w 31 31 3 5 5 Tryz.underlying31 size8' g 0 8192 8192 (some ⟨g, 0, none⟩) _ xs A c _ (fun _ => rfl) hr hx h (by rw [List.length_replicate]; omega)
  rw [splice_fill xs h] at h2
  exact ⟨_, w', h1, h2, Keeps.grown _ h3 (fun k e => by cases e; rfl)⟩
 ·have hne : xs ≠ [] := by intro e; rw [e] at h; simp at h
  obtain ⟨ad, rfl, _, _⟩ := hx hne
  have hl : (xs.take 8192).length = 8192 := by rw [List.length_take]; omega
  obtain ⟨w', h1, h2, h3⟩ := run_copy8m (P := Tryz.prog) w 31 31 3 5 5 Tryz.underlying31 size8' g 0 8192 8192 _ (xs.take 8192) ad xs.length c hr (hx.take 8192) (by rw [hl]; omega) (by rw [hl, List.length_replicate]; omega) (by intro e; rw [e] at hl; cases hl)
  rw [splice_fill _ (by omega), fill_take xs (by omega)] at h2
  exact ⟨_, w', h1, h2, Keeps.grown _ h3 (fun k e => by cases e; rfl)⟩
theorem wpList_build1m_run {P : Program} {w w' : World} {ops : Array Oper} {rest : List Oper} {o : Oper} {a : Act} {Q : Exit → Act → World → Prop} (hgd : o.guard = none) (t : TypeId) (x : Operand) (ho : o.op = .build t #[(1, x)]) (u v : Value) (hx : a.eval x = u)
  (hrun : (Instr.build t #[(1, u)]).run P w = .ok v w') (h : wpList P ops Q rest (a.put o.dst v) w') : wpList P ops Q (o :: rest) a w :=
 wpList_plain hgd fun _ hK => by
  unfold Oper.wp execOp
  simp only [ho, Sem.run_bind, List.map_toArray, List.map_cons, List.map_nil, hx, hrun, Result.andThen_ok, Sem.run_pure]
  exact hK _ _ h
theorem wpList_build2m_run {P : Program} {w w' : World} {ops : Array Oper} {rest : List Oper} {o : Oper} {a : Act} {Q : Exit → Act → World → Prop} (hgd : o.guard = none) (t : TypeId) (x y : Operand) (ho : o.op = .build t #[(0, x), (1, y)]) (u u' v : Value) (hx : a.eval x = u) (hy : a.eval y = u')
  (hrun : (Instr.build t #[(0, u), (1, u')]).run P w = .ok v w') (h : wpList P ops Q rest (a.put o.dst v) w') : wpList P ops Q (o :: rest) a w :=
 wpList_plain hgd fun _ hK => by
  unfold Oper.wp execOp
  simp only [ho, Sem.run_bind, List.map_toArray, List.map_cons, List.map_nil, hx, hy, hrun, Result.andThen_ok, Sem.run_pure]
  exact hK _ _ h
theorem wpList_makem_run {P : Program} {w w' : World} {ops : Array Oper} {rest : List Oper} {o : Oper} {a : Act} {Q : Exit → Act → World → Prop} (hgd : o.guard = none) (t : TypeId) (n c : Operand) (ho : o.op = .makeSlice t n c) (x y v : Value) (hx : a.eval n = x) (hy : a.eval c = y)
  (hrun : (Instr.makeSlice t x y).run P w = .ok v w') (h : wpList P ops Q rest (a.put o.dst v) w') : wpList P ops Q (o :: rest) a w :=
 wpList_plain hgd fun _ hK => by
  unfold Oper.wp execOp
  simp only [ho, Sem.run_bind, hx, hy, hrun, Result.andThen_ok, Sem.run_pure]
  exact hK _ _ h
theorem buildS (w : World) (gb : Nat) : (Instr.build 66 #[(1, .slice (some ⟨gb, 0, none⟩) 8192 8192)]).run Tryz.prog w = .ok (.agg #[.pointer none, .slice (some ⟨gb, 0, none⟩) 8192 8192]) w := by kernel_rfl
theorem buildM (w : World) (gb mb : Nat) : (Instr.build 70 #[(0, .agg #[.pointer none, .slice (some ⟨gb, 0, none⟩) 8192 8192]), (1, .map (some mb))]).run Tryz.prog w = .ok (.agg (memCells gb mb (List.replicate 128 false)).toArray) w := by kernel_rfl
theorem boxM (w : World) (gb mb : Nat) : (Instr.box 70 (.agg (memCells gb mb (List.replicate 128 false)).toArray)).run Tryz.prog w = .ok (.pointer (some ⟨w.heap.size, 0, none⟩)) (w.alloc (.cells (memCells gb mb (List.replicate 128 false)).toArray 70)) := rfl
def MadeM (w : World) (xs : List UInt8) (e : Ending) (w' : World) : Prop := ∃ p gb mb, e = .returned (.pointer (some ⟨p, 0, none⟩)) ∧ w.heap.size ≤ p ∧ w.heap.size ≤ gb ∧ w.heap.size ≤ mb ∧ MemAt w' p gb mb (fillL xs) (fillL xs) ∧ Keeps (fun _ => False) w w'
theorem mem_of (w : World) (gb : Nat) (G : List UInt8) (hg : G.length = 8192) (hr : w.heap[gb]? = some (.cells (G.map B8).toArray 5 (0, 0))) :
  MemAt ((w.alloc (.map #[] 0)).alloc (.cells (memCells gb w.heap.size (List.replicate 128 false)).toArray 70)) (w.heap.size + 1) gb w.heap.size G G := by
 have hlt := (Array.getElem?_eq_some_iff.1 hr).1
 refine ⟨hg, hg, ⟨List.replicate 128 false, by simp, heap_alloc2_new w _ _⟩, ?_, ⟨fun _ => none, ?_, ⟨fun i hi x h => by simp at h, fun _ _ _ => rfl⟩⟩⟩
 ·rw [Below.heap_alloc _ _ _ (by simp; omega), Below.heap_alloc _ _ _ hlt]
  exact hr
 ·exact MapF.tight ((MapF.made pageC w).keep (Below.heap_alloc _ _ _ (by simp)))
set_option maxRecDepth 100000 in
set_option maxHeartbeats 400000 in
theorem mflat_any (A : Option Addr) (xs : List UInt8) (c : Nat) (w : World) (hx : BR w w.heap.size A xs) : Calls Tryz.prog 10 #[.slice A xs.length c] w (MadeM w xs) := by
 have hmk : ∀ w : World, (Instr.makeSlice 31 (.int .i64 8192) (.int .i64 8192)).run Tryz.prog w = .ok (.slice (some ⟨w.heap.size, 0, none⟩) 8192 8192) (w.alloc (.cells (madeCells #[.int .u8 0] 8192) 5)) := make8 8192 (by omega)
 have k1 : Keeps (fun _ => False) w (w.alloc (.cells (madeCells #[.int .u8 0] 8192) 5)) := Keeps.alloc _ _ _
 have r1 := Row8.made w 8192 5
 have s1 : w.heap.size < (w.alloc (.cells (madeCells #[.int .u8 0] 8192) 5)).heap.size := by simp
 have hx1 : BR (w.alloc (.cells (madeCells #[.int .u8 0] 8192) 5)) (w.alloc (.cells (madeCells #[.int .u8 0] 8192) 5)).heap.size A xs := k1.br hx fun _ _ _ h => h
 have MK := Lib.hid (hmk w)
 generalize w.alloc (.cells (madeCells #[.int .u8 0] 8192) 5) = w1 at *
 obtain ⟨n, w2, cp, r2, k2⟩ := run_fill w.heap.size c A xs r1 hx1
 have hm := mem_of w2 w.heap.size (fillL xs) (fillL_len xs) r2.block
 have HM := Lib.hid hm
 have K2 := Lib.hid (Keeps.thru (F'' := fun _ => False) k1 k2 (fun _ _ h => h) fun _ _ h => by omega)
 have hmm := @run_makeMap Tryz.prog
 have S2 := Lib.hid (Nat.le_trans (Nat.le_of_lt s1) k2.size)
 clear hmk k1 r1 hx hx1 hm r2 k2 s1
 go_enter Tryz.func10, Tryz.ntmps10
 go_wp2_with (first
  | ((with_reducible refine here (op := .makeSlice 31 (.const (.int .i64 8192)) (.const (.int .i64 8192))) ?_); refine wpList_makem_run rfl 31 _ _ rfl _ _ _ rfl rfl MK.out ?_)
  | ((with_reducible refine here (op := .build 66 #[(1, .tmp 8)]) ?_); refine wpList_build1m_run rfl 66 _ rfl _ _ rfl (buildS _ _) ?_)
  | ((with_reducible refine here (op := .build 70 #[(0, .tmp 9), (1, .tmp 10)]) ?_); refine wpList_build2m_run rfl 70 _ _ rfl _ _ _ rfl rfl (buildM _ _ _) ?_)
  | ((with_reducible refine here (op := .box 70 (.tmp 11)) ?_); refine wpList_box_run rfl 70 _ rfl _ _ rfl (boxM _ _ _) ?_))
 go_ret
 exact ⟨_, _, _, rfl, by have := S2.out; omega, Nat.le_refl _, S2.out, HM.out, K2.out.trans ((Keeps.alloc _ _ _).trans (Keeps.alloc _ _ _))⟩
def MadeR (w : World) (mi : Nat) (xs : List UInt8) (e : Ending) (w' : World) : Prop := ∃ q, e = .returned (.pointer (some ⟨q, 0, none⟩)) ∧ MRefAt w' mi q (fillL xs) (fillL xs) ∧ Keeps (fun _ => False) w w'
theorem rflat_end {w W : World} (b d : Nat) (A : Option Addr) (xs : List UInt8) (c : Nat) (hx : BR W W.heap.size A xs) (hk : Keeps (fun _ => False) w W) (hA : ∀ ad, A = some ad → xs ≠ [] → ad.block < w.heap.size)
  (hb : Row8 W b 5 (List.replicate 8192 0)) (hd : Row8 W d 5 (List.replicate 8192 0)) (q : Nat) (hh : W.heap[q]? = some (.cells (refCells b 8192 d 8192) 46 (0, 0)))
  (b1 : w.heap.size ≤ b) (d1 : w.heap.size ≤ d) (q1 : w.heap.size ≤ q) (bd : b ≠ d) (bq : b ≠ q) (dq : d ≠ q) :
  W.cell? ⟨q, 0, none⟩ = some (.slice (some ⟨b, 0, none⟩) 8192 8192) ∧ ∃ n1 w4, (Builtin.copy_ #[31, 31] 3 #[.slice (some ⟨b, 0, none⟩) 8192 8192, .slice A xs.length c]).run Tryz.prog W = .ok (.int .i64 n1) w4 ∧
   w4.cell? ⟨q, 1, none⟩ = some (.slice (some ⟨d, 0, none⟩) 8192 8192) ∧ ∃ n2 w5, (Builtin.copy_ #[31, 31] 3 #[.slice (some ⟨d, 0, none⟩) 8192 8192, .slice A xs.length c]).run Tryz.prog w4 = .ok (.int .i64 n2) w5 ∧
   MRefAt w5 w.heap.size q (fillL xs) (fillL xs) ∧ Keeps (fun _ => False) w w5 := by
 have ql := (Array.getElem?_eq_some_iff.1 hh).1
 obtain ⟨n1, w4, c1, r4, k4⟩ := run_fill b c A xs hb hx
 have hx4 : BR w4 w4.heap.size A xs := k4.br hx fun ad e hn h => by
  have := hA ad e hn
  omega
 have hd4 : Row8 w4 d 5 (List.replicate 8192 0) := Row8.of_block ((k4.block d hd.lt_ (fun e => bd e.symm)).trans hd.block)
 have hh4 := (k4.block q ql (fun e => bq e.symm)).trans hh
 obtain ⟨n2, w5, c2, r5, k5⟩ := run_fill d c A xs hd4 hx4
 have hb5 : Row8 w5 b 5 (fillL xs) := Row8.of_block ((k5.block b r4.lt_ bd).trans r4.block)
 have hh5 := (k5.block q (Nat.lt_of_lt_of_le ql k4.size) (fun e => dq e.symm)).trans hh4
 have kW : Keeps (fun _ => False) w w5 := Keeps.thru (F'' := fun _ => False) (Keeps.thru (F'' := fun _ => False) hk k4 (fun _ _ h => h) fun i hi h => by omega) k5 (fun _ _ h => h) fun i hi h => by omega
 have fl := fillL_len xs
 have ob := Own8.of_row hb5 b1 (by omega)
 have od := Own8.of_row r5 d1 (by omega)
 rw [fl] at ob od
 refine ⟨by rw [cell_of_row _ _ _ _ _ _ hh]; rfl, n1, w4, c1, by rw [cell_of_row _ _ _ _ _ _ hh4]; rfl, n2, w5, c2, ⟨b, 8192, d, 8192, ⟨q1, fl, fl, hh5, ob, od, bq, dq, bd⟩⟩, kW⟩
set_option maxRecDepth 100000 in
set_option maxHeartbeats 400000 in
theorem rflat_any (A : Option Addr) (xs : List UInt8) (c : Nat) (w : World) (hx : BR w w.heap.size A xs) : Calls Tryz.prog 11 #[.slice A xs.length c] w (MadeR w w.heap.size xs) := by
 have hmk : ∀ w : World, (Instr.makeSlice 31 (.int .i64 8192) (.int .i64 8192)).run Tryz.prog w = .ok (.slice (some ⟨w.heap.size, 0, none⟩) 8192 8192) (w.alloc (.cells (madeCells #[.int .u8 0] 8192) 5)) := make8 8192 (by omega)
 go_enter Tryz.func11, Tryz.ntmps11
 go_wp2_with fail
 have m1 := Row8.made w 8192 5
 have m2 := Row8.made (w.alloc (.cells (madeCells #[.int .u8 0] 8192) 5)) 8192 5
 rw [World.size_alloc] at m2
 have ka : Keeps (fun _ => False) w (w.alloc (.cells (madeCells #[.int .u8 0] 8192) 5)) := Keeps.alloc _ _ _
 have m1' : Row8 ((w.alloc (.cells (madeCells #[.int .u8 0] 8192) 5)).alloc (.cells (madeCells #[.int .u8 0] 8192) 5)) w.heap.size 5 (List.replicate 8192 0) := Row8.of_block ((Below.heap_alloc _ _ _ m1.lt_).trans m1.block)
 have M1 := Lib.hid m1'
 have M2 := Lib.hid m2
 have HA := Lib.hid (fun ad (e : A = some ad) (hn : xs ≠ []) => show ad.block < w.heap.size by
  obtain ⟨ad', e', hb, _⟩ := hx hn
  rw [e] at e'
  cases e'
  exact hb)
 have HX := Lib.hid hx
 clear m1 m2 m1' ka hx
 generalize hz : madeCells #[.int .u8 0] 8192 = zz at *
 clear hz
 go_region
 ·obtain ⟨c0, n1, w4, cp1, c1, n2, w5, cp2, hR, hK⟩ := rflat_end (w := w) (W := (((w.alloc (.cells zz 5)).alloc (.cells zz 5)).alloc (.cells (refCells w.heap.size 8192 (w.heap.size + 1) 8192) 46)).drew) w.heap.size (w.heap.size + 1) A xs c
   ((((Keeps.alloc _ _ _).trans (Keeps.alloc _ _ _)).trans ((Keeps.alloc (fun _ => False) _ _).trans (Keeps.drew _ _))).br HX.out fun _ _ _ h => h)
   (((Keeps.alloc _ _ _).trans (Keeps.alloc _ _ _)).trans ((Keeps.alloc (fun _ => False) _ _).trans (Keeps.drew _ _))) HA.out
   (Row8.of_block ((Below.heap_alloc _ _ _ M1.out.lt_).trans M1.out.block)) (Row8.of_block ((Below.heap_alloc _ _ _ M2.out.lt_).trans M2.out.block)) (w.heap.size + 1 + 1)
   (by
    have := heap_alloc_new ((w.alloc (.cells zz 5)).alloc (.cells zz 5)) (.cells (refCells w.heap.size 8192 (w.heap.size + 1) 8192) 46)
    simp only [World.size_alloc] at this
    exact this) (by omega) (by omega) (by omega) (by omega) (by omega) (by omega)
  unfold refCells at c0 cp1
  generalize (((w.alloc (.cells zz 5)).alloc (.cells zz 5)).alloc (.cells #[.slice (some ⟨w.heap.size, 0, none⟩) 8192 8192, .slice (some ⟨w.heap.size + 1, 0, none⟩) 8192 8192, .bool false] 46)).drew = W at *
  have HR := Lib.hid hR
  have HK := Lib.hid hK
  clear hR hK HA HX M1 M2
  go_wp2_with fail
  go_ret
  exact ⟨_, rfl, HR.out, HK.out⟩
 ·obtain ⟨c0, n1, w4, cp1, c1, n2, w5, cp2, hR, hK⟩ := rflat_end (w := w) (W := (((w.alloc (.cells zz 5)).alloc (.cells zz 5)).alloc (.cells (refCells (w.heap.size + 1) 8192 w.heap.size 8192) 46)).drew) (w.heap.size + 1) w.heap.size A xs c
   ((((Keeps.alloc _ _ _).trans (Keeps.alloc _ _ _)).trans ((Keeps.alloc (fun _ => False) _ _).trans (Keeps.drew _ _))).br HX.out fun _ _ _ h => h)
   (((Keeps.alloc _ _ _).trans (Keeps.alloc _ _ _)).trans ((Keeps.alloc (fun _ => False) _ _).trans (Keeps.drew _ _))) HA.out
   (Row8.of_block ((Below.heap_alloc _ _ _ M2.out.lt_).trans M2.out.block)) (Row8.of_block ((Below.heap_alloc _ _ _ M1.out.lt_).trans M1.out.block)) (w.heap.size + 1 + 1)
   (by
    have := heap_alloc_new ((w.alloc (.cells zz 5)).alloc (.cells zz 5)) (.cells (refCells (w.heap.size + 1) 8192 w.heap.size 8192) 46)
    simp only [World.size_alloc] at this
    exact this) (by omega) (by omega) (by omega) (by omega) (by omega) (by omega)
  unfold refCells at c0 cp1
  generalize (((w.alloc (.cells zz 5)).alloc (.cells zz 5)).alloc (.cells #[.slice (some ⟨w.heap.size + 1, 0, none⟩) 8192 8192, .slice (some ⟨w.heap.size, 0, none⟩) 8192 8192, .bool false] 46)).drew = W at *
  have HR := Lib.hid hR
  have HK := Lib.hid hK
  clear hR hK HA HX M1 M2
  go_wp2_with fail
  go_ret
  exact ⟨_, rfl, HR.out, HK.out⟩
end Go.Proofs.YtefgabnmcfpdcaaGreatDoor.Mm
namespace Go.Proofs.YtefgabnmcfpdcaaGreatDoor.Fs
open Go.RowKit Ex Ino Mm
set_option linter.unusedVariables false
set_option linter.unusedSimpArgs false
theorem flatF_at (l : List FD) : ∀ (k : Nat) (a : FD), l[k]? = some a → ∀ j v, (fcl a)[j]? = some v → (l.flatMap fcl)[k * 2 + j]? = some v := by
 induction l with
 | nil => intro k a h; simp at h
 | cons x r ih =>
  intro k a h j v hv
  have hj : j < 2 := by have := (List.getElem?_eq_some_iff.1 hv).1; simpa [fcl] using this
  rw [List.flatMap_cons]
  cases k with
  | zero =>
   have e : x = a := by simpa using h
   subst e
   rw [List.getElem?_append_left (by simp [fcl]; omega)]
   simpa using hv
  | succ k =>
   rw [List.getElem?_append_right (by simp [fcl]; omega), show (k + 1) * 2 + j - (fcl x).length = k * 2 + j by simp [fcl]; omega]
   exact ih k a (by simpa using h) j v hv
structure FilesAt (w : World) (B g : Nat) (fl : List (List UInt8 × List UInt8)) : Prop where
 lt : g < w.heap.size
 lo : B ≤ g
 cs : ∀ k, k < fl.length → ∃ gd c, w.cell? ⟨g, k * 2, none⟩ = some (St (fl.getD k ([], [])).1) ∧ w.cell? ⟨g, k * 2 + 1, none⟩ = some (.slice (some ⟨gd, 0, none⟩) (fl.getD k ([], [])).2.length c) ∧ BR w w.heap.size (some ⟨gd, 0, none⟩) (fl.getD k ([], [])).2 ∧ B ≤ gd
theorem filesAt {w : World} {B g cap : Nat} {l : List FD} {fl : List (List UInt8 × List UInt8)} (h : OwnL w B g cap l) (hr : ∀ d ∈ l, BR w w.heap.size (some ⟨d.g, 0, none⟩) d.xs ∧ B ≤ d.g) (hm : l.map (fun d => (d.name, d.xs)) = fl) : FilesAt w B g fl ∧ l.length = fl.length := by
 have hl : l.length = fl.length := by rw [← hm, List.length_map]
 refine ⟨⟨h.block.2.1, h.block.1, fun k hk => ?_⟩, hl⟩
 have hk' : k < l.length := by omega
 have e : fl.getD k ([], []) = (l[k].name, l[k].xs) := by
  rw [← hm, List.getD_eq_getElem?_getD, List.getElem?_map, List.getElem?_eq_getElem hk']
  rfl
 have hd := hr l[k] (List.getElem_mem _)
 rw [e]
 refine ⟨l[k].g, l[k].c, ?_, ?_, hd⟩
 ·rw [World.ownsRow.cellAt h (k * 2) (by omega)]
  exact flatF_at l k l[k] (List.getElem?_eq_getElem hk') 0 _ rfl
 ·rw [World.ownsRow.cellAt h (k * 2 + 1) (by omega)]
  exact flatF_at l k l[k] (List.getElem?_eq_getElem hk') 1 _ rfl
theorem FilesAt.keep {w w' : World} {B g : Nat} {fl : List (List UInt8 × List UInt8)} {F : Nat → Prop} (h : FilesAt w B g fl) (k : Keeps F w w') (hF : ∀ j, B ≤ j → ¬ F j) : FilesAt w' B g fl := by
 refine ⟨Nat.lt_of_lt_of_le h.lt k.size, h.lo, fun i hi => ?_⟩
 obtain ⟨gd, c, h1, h2, h3, h4⟩ := h.cs i hi
 exact ⟨gd, c, (k.cell _ _ h.lt (hF _ h.lo)).trans h1, (k.cell _ _ h.lt (hF _ h.lo)).trans h2, k.br h3 (fun ad e hne => by cases e; exact hF _ h4), h4⟩
set_option maxRecDepth 100000 in
set_option maxHeartbeats 1000000 in
theorem fawake_any (w : World) (hT : Tab w) : Calls Tryz.prog 8 #[] w fun e w' => e = .returned (.bool true) ∧ Below w.heap.size w w' := by
 have hT0 := hT.pos
 have HT := Lib.hid hT
 clear hT
 go_enter Tryz.func8, Tryz.ntmps8
 go_wp2_with fail
 refine (mflat_any none [] 0 w BR.nil).mono ?_
 rintro e w2 ⟨p, gb, mb, rfl, p1, p2, p3, hm, k2⟩
 have zl := fillL_len []
 generalize fillL [] = Z at *
 have hT2 := HT.out.keep (k2.block 0 hT0 (fun f => f))
 have K2 := Lib.hid k2
 have KT : Hid (∀ W, Keeps (fun k => k = p ∨ k = mb) w2 W → Below w.heap.size w W ∧ Tab W) := fun W k => by
  have := Keeps.thru (F'' := fun _ => False) K2.out k (fun _ _ h => h) fun i hi h => by omega
  exact ⟨this.toBelow _ (Nat.le_refl _) fun _ h => h.elim, hT2.keep (k.block 0 hT2.pos (fun e => by omega))⟩
 have HFM := Lib.hid (format_any (layC_flat hm fmtB (by rw [fmtB_len]; omega)))
 clear k2 hT2
 go_wp2_with fail
 refine HFM.out.mono ?_
 rintro e w3 ⟨rfl, h3, k3⟩
 have g3 := Has.fmt zl
 have b0 : (bytesL ⟨regB Z, ns0⟩).length = 2048 := bytesL_len (by unfold regB; rw [List.length_drop]; omega) (by simp [ns0])
 generalize regB Z = Z0 at *
 generalize layL Z 6144 fmtB = M3 at *
 have hcr := fcreate_any h3 g3.ok [97] (by decide)
 rw [g3.eq, show (⟨bytesL ⟨Z0, ns0⟩, (⟨Z0, ns0⟩ : RG).ns⟩ : RG) = ⟨bytesL ⟨Z0, ns0⟩, ns0⟩ from rfl, demo_create] at hcr
 generalize bytesL ⟨Z0, ns0⟩ = B0 at *
 have HCR := Lib.hid hcr
 have K3 := Lib.hid k3
 have m3 := Lib.hid g3.ml
 clear hcr k3 h3 g3 HFM hm
 go_wp2_with fail
 refine HCR.out.mono ?_
 rintro e w4 ⟨rfl, h4, k4⟩
 rw [if_pos rfl] at h4
 have g4 := Has.lay m3.out (good_ns1 b0)
 have b1 : (bytesL ⟨B0, ns1⟩).length = 2048 := bytesL_len b0 rfl
 generalize layL M3 6144 _ = M4 at *
 have K4 := Lib.hid (K3.out.trans k4)
 clear HCR k4 m3 K3
 obtain ⟨bs, hbs, hw⟩ := demo_write b1
 have hg5 := good_ns2 b1 hw
 have hmk : ∀ w : World, (Instr.makeSlice 31 (.int .i64 70) (.int .i64 70)).run Tryz.prog w = .ok (.slice (some ⟨w.heap.size, 0, none⟩) 70 70) (w.alloc (.cells (madeCells #[.int .u8 0] 70) 5)) := make8 70 (by omega)
 have hwr := fun (o : Obj) (hr : BR (w4.alloc o) (w4.alloc o).heap.size (some ⟨w4.heap.size, 0, none⟩) (List.replicate 70 0)) => fwrite_any (h4.keep (Keeps.alloc (fun _ => False) w4 o) (fun f => f) (fun f => f) (fun f => f)) g4.ok ((KT.out _ K4.out).2.keep ((Keeps.alloc (fun _ => False) w4 o).block 0 (KT.out _ K4.out).2.pos (fun f => f))) (by omega) 0 0 (by omega) (A := some ⟨w4.heap.size, 0, none⟩) (b := List.replicate 70 0) 70 hr (by simp) (fun _ ad e => by cases e; have := h4.lt; show w4.heap.size ≠ mb; omega)
 rw [g4.eq, show (⟨bytesL ⟨B0, ns1⟩, (⟨B0, ns1⟩ : RG).ns⟩ : RG) = ⟨bytesL ⟨B0, ns1⟩, ns1⟩ from rfl, hw] at hwr
 simp only [List.length_replicate] at hwr
 have HWR := Lib.hid hwr
 have G4 := Lib.hid g4.ml
 clear hwr h4 hw g4
 go_wp2_with fail
 refine (HWR.out _ (Row8.made w4 70 _).br).mono ?_
 rintro e w5 ⟨rfl, h5, k5⟩
 rw [if_pos rfl] at h5
 have g5 := Has.lay G4.out hg5
 have b2 : (bytesL ⟨bs, ns2⟩).length = 2048 := bytesL_len hbs rfl
 obtain ⟨d, hd, hfv⟩ := demo_files b2
 generalize layL M4 6144 _ = M5 at *
 have K5 := Lib.hid ((K4.out.trans (Keeps.alloc _ _ _)).trans k5)
 have hfi := ffiles_any (memC_flat h5) g5.ok (good_of g5.ml g5.ok)
 rw [g5.eq] at hfi
 have HFI := Lib.hid hfi
 have HFV := Lib.hid hfv
 have OK5 := Lib.hid g5.ok
 clear HWR k5 K4 G4 h5 hfi hfv g5 hg5
 go_wp2_with fail
 refine HFI.out.mono ?_
 rintro e w6 ⟨h6, k6, g, cap, l, rfl, ho, hr, hm⟩
 rw [show (⟨bytesL ⟨bs, ns2⟩, (⟨bs, ns2⟩ : RG).ns⟩ : RG) = ⟨bytesL ⟨bs, ns2⟩, ns2⟩ from rfl, HFV.out] at hm
 obtain ⟨hfa, hll⟩ := filesAt ho hr hm
 obtain ⟨gd, c, c0, c1, -⟩ := hfa.cs 0 (by simp)
 rw [hll]
 have c0' : w6.cell? ⟨g, 0, none⟩ = some (St [97]) := c0
 have c1' : w6.cell? ⟨g, 1, none⟩ = some (.slice (some ⟨gd, 0, none⟩) 70 c) := by rw [← hd]; exact c1
 have K6 := Lib.hid (K5.out.trans (k6.mono fun _ _ e => Or.inr e))
 have HCK := Lib.hid (fcheck_any (memC_flat h6))
 clear hfa c0 c1 ho hr hm k6 K5 HFI h6
 go_wp2_with fail
 refine HCK.out.mono ?_
 rintro e w7 ⟨h7, k7, ⟨-, rfl⟩ | ⟨hno, -⟩⟩
 rotate_left
 ·exact absurd OK5.out hno
 have BF := Lib.hid (KT.out _ (K6.out.trans (k7.mono fun _ _ e => Or.inr e))).1
 clear k7 h7 K6 HCK
 go_wp2_with fail
 go_ret
 exact ⟨rfl, BF.out⟩
end Go.Proofs.YtefgabnmcfpdcaaGreatDoor.Fs
