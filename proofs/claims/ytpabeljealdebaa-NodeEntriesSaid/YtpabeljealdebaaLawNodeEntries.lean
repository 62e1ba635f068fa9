/-
  The entries that there are, in order, as often as one likes: for every node the law NodeEntries returns true.
  Conditions: none of our own; what the row itself says of its inputs (they can be read as data, each slice within the form's own reach).
-/
import Derived.Test.YtpabeljealdebaaFrame
import Derived.ChangeOld
import Derived.Below
import Derived.Deep.QuietTactic
import Derived.BigQuiet
import Derived.WalkSmall
import Derived.Test.YtpabeljealdebaaNdIn
import Derived.Test.YtpabeljealdebaaNdIt
namespace Go.Proofs.Ytpabeljealdebaa.nodeEntries
open Go.ChangeShapes Go.WideShapes Go.ChangeAt Go.RowKit
set_option linter.unusedVariables false

theorem own : ownKnob Try.prog.godebug = none := by kernel_rfl
theorem laidOut : laidOutB Try.prog = true := by kernel_rfl

open Go.Shelf
attribute [local go_sem] Oper.semAt_some

/-- The value of the iterator. -/
def itv (B : Nat) : Value := .func (.func 26) #[] #[.pointer (some ⟨B, 0, none⟩)]
/-- What the first loop keeps. -/
def In1 (w : World) (z0 : List Int) (W : World) : Prop := NB W w.heap.size z0 ∧ NB W (w.heap.size + 1 + 1) z0 ∧ Boxed W (w.heap.size + 1) 4 (.bool false)
theorem in1_own (w : World) (z0 : List Int) {β : Type} : Own (fun (_ : β) W => In1 w z0 W) := fun _ _ _ _ hs hg hr => ⟨cells_kept hs.1 hg hr, cells_kept hs.2.1 hg hr, cells_kept hs.2.2 hg hr⟩
/-- What the second loop keeps. -/
def In2 (w : World) (z0 : List Int) (S D : Nat) (pre : List EN) (W : World) : Prop :=
  NB W w.heap.size z0 ∧ Boxed W (w.heap.size + 1) 4 (.bool false) ∧ NB W S (seenF pre) ∧ Boxed W (S + 1) 3 (.int .i64 (lastF pre)) ∧ W.heap[D]? = some (.deferred (some []))
theorem in2_own (w : World) (z0 : List Int) (S D B : Nat) (hD : D < B) : OwnFrom B (fun (pre : List EN) W => In2 w z0 S D pre W) := fun _ _ _ _ hs hg hr =>
  ⟨cells_kept hs.1 hg (fun r e => (hr r e).2), cells_kept hs.2.1 hg (fun r e => (hr r e).2), cells_kept hs.2.2.1 hg (fun r e => (hr r e).2), cells_kept hs.2.2.2.1 hg (fun r e => (hr r e).2), old_kept hs.2.2.2.2 hD hg hr⟩
theorem In2.step {w V : World} {z0 : List Int} {S D : Nat} {pre : List EN} (h : In2 w z0 S D pre V) (hS : w.heap.size + 1 + 1 < S) (hD : D < S) (x : EN) :
    In2 w z0 S D (pre ++ [x]) ((V.setCell ⟨S + 1, 0, none⟩ (.int .i64 (x.1.1 : Int))).setCell ⟨S, x.1.1, none⟩ (.int .i64 x.1.2)) := by
  obtain ⟨h1, h2, h3, h4, h5⟩ := h
  have o : ∀ b, b ≠ S → b ≠ S + 1 → ((V.setCell ⟨S + 1, 0, none⟩ (.int .i64 (x.1.1 : Int))).setCell ⟨S, x.1.1, none⟩ (.int .i64 x.1.2)).heap[b]? = V.heap[b]? := fun b n1 n2 =>
    (Below.heap_setCell _ _ _ _ n1).trans (Below.heap_setCell _ _ _ _ n2)
  refine ⟨(o _ (by omega) (by omega)).trans h1, (o _ (by omega) (by omega)).trans h2, ?_, ?_, (o _ (by omega) (by omega)).trans h5⟩
  · rw [seenF_snoc]
    exact NB.set ((Below.heap_setCell _ _ _ _ (by show S ≠ S + 1; omega)).trans h3) _ _
  · rw [lastF_snoc]
    exact (Below.heap_setCell _ _ _ _ (by show S + 1 ≠ S; omega)).trans (h4.set _)
/-- The last place does not rise. -/
def Bad (pre : List EN) : Prop := ∃ q y, pre = q ++ [y] ∧ ((y : EN).1.1 : Int) ≤ lastF q

set_option maxHeartbeats 1000000 in
theorem walk (z0 : List Int) (w : World) (o0 : NodeOk z0) :
    Calls Try.prog 6 #[ng z0] w fun e w' => e = .returned (.bool true) ∧ Below w.heap.size w w' := by
  have hl := o0.len
  refine (callsIn_wide (n := 8)).1 ?_
  refine callsIn_of_wp_marks Try.func6 rfl trivial ?_ rfl
  simp only [Try.ntmps6, List.size_toArray, List.length_cons, List.length_nil, Nat.reduceAdd, Nat.reduceSub, Array.replicate_succ, Array.replicate_zero, List.push_toArray, List.append_toArray, List.nil_append, List.cons_append]
  have b0 := NB.box w z0
  have b0' : NB ((w.alloc (.cells (z0.map I6).toArray 23)).alloc (.cells #[.bool false] 4)) w.heap.size z0 := b0.below ((Below.refl _ _).alloc (Nat.le_refl _) _) b0.lt
  have x0 : Boxed ((w.alloc (.cells (z0.map I6).toArray 23)).alloc (.cells #[.bool false] 4)) (w.heap.size + 1) 4 (.bool false) := by
    have := Boxed.new (w.alloc (.cells (z0.map I6).toArray 23)) 4 (.bool false)
    rwa [World.size_alloc] at this
  have L0 := Lib.hid (b0'.load hl)
  have k0 : Below w.heap.size w ((w.alloc (.cells (z0.map I6).toArray 23)).alloc (.cells #[.bool false] 4)) := ((Below.refl _ _).alloc (Nat.le_refl _) _).alloc (by simp) _
  have hsz : ((w.alloc (.cells (z0.map I6).toArray 23)).alloc (.cells #[.bool false] 4)).heap.size = w.heap.size + 1 + 1 := by simp
  have HSZ := Lib.hid hsz
  clear hsz b0
  gi_wp2_with (first
    | ((with_reducible refine atIn_ (op := .box 23 (.tmp 0)) ?_); refine wpListIn_val rfl (by intro c h; cases h) rfl _ (ex_box 23 (.tmp 0) rfl _ _ rfl (boxN _ _)) ?_)
    | (refine ⟨trivial, ?_⟩; gi_at_call 8; refine (callsIn_wide.2 (awake_any _)).mono ?_; rintro e w' ⟨rfl, rfl⟩)
    | ((with_reducible refine atIn_ (op := .load 23 (.tmp 1)) ?_); refine wpListIn_val rfl (by intro c h; cases h) rfl _ (ex_load 23 (.tmp 1) rfl _ _ rfl L0.out) ?_))
  generalize ((w.alloc (.cells (z0.map I6).toArray 23)).alloc (.cells #[.bool false] 4)) = wa at *
  refine ⟨trivial, ?_⟩
  refine (callsIn_wide.2 (entries_any z0 _)).mono ?_
  rintro e w' ⟨rfl, rfl⟩
  have i1 : In1 w z0 (wa.alloc (.cells (z0.map I6).toArray 23)) := ⟨b0'.below ((Below.refl _ _).alloc (Nat.le_refl _) _) b0'.lt, by have := NB.box wa z0; rwa [HSZ.out] at this, x0.alloc _⟩
  have k1 := k0.alloc k0.size (.cells (z0.map I6).toArray 23)
  have hs1 : w.heap.size + 1 + 1 < (wa.alloc (.cells (z0.map I6).toArray 23)).heap.size := by rw [World.size_alloc, HSZ.out]; omega
  rw [HSZ.out]
  clear L0 b0' x0 k0
  generalize (wa.alloc (.cells (z0.map I6).toArray 23)) = w1 at *
  have hnf : ∀ (B : Nat) (w : World), (binOp .eql 49 (.func (.func 26) #[] #[.pointer (some ⟨B, 0, none⟩)]) .nilFunc).run Try.prog w = .ok (.bool false) w := fun _ _ => rfl
  have HNF := Lib.hid hs1
  gi_wp2
  clear hnf
  refine wpIn_rangeFunc_ownF rfl (by omega) (gf := 26) (lb := #[.pointer (some ⟨w.heap.size + 1 + 1, 0, none⟩)]) rfl trivial (enters_of Try.func26 (by kernel_rfl) rfl)
    (entries_stops Fence.wide _ trivial rfl (by omega) _ z0 hl _ i1.2.1) (fun _ _ => trivial) (fun _ _ _ _ _ _ _ _ => trivial) (Below.refl _ _) (fun _ => rfl)
    (fun _ W => In1 w z0 W ∧ Below w.heap.size w W)
    (fun c _ W => c = .exit 0 ∧ In1 w z0 W ∧ Below w.heap.size w W)
    (OwnFrom.and (Own.from (in1_own w z0) _) (ownFrom_below (Nat.le_refl _) (by omega)))
    (fun c => OwnFrom.and (ownFrom_pure _ (fun _ => c = .exit 0)) (OwnFrom.and (Own.from (in1_own w z0) _) (ownFrom_below (Nat.le_refl _) (by omega))))
    ⟨i1, k1⟩
    (fun x => { tmps := #[ng z0, .pointer (some ⟨w.heap.size, 0, none⟩), .pointer (some ⟨w.heap.size + 1, 0, none⟩), itv (w.heap.size + 1 + 1), undef, undef, undef, undef, .bool true, .bool false, ng z0, itv (w.heap.size + 1 + 1), itv (w.heap.size + 1 + 1), .bool false, itv (w.heap.size + 1 + 1), .int .i64 (x.1.1 : Int), .int .i64 x.1.2, undef, undef, undef, undef, undef, undef, undef, undef, undef, undef, undef, undef, undef, undef, undef, undef, undef, undef, undef, undef, undef], defers := [] }) ?assign ?body ?done ?stop
  case assign =>
    intro l x W K hK
    gi_wp2
    exact hK
  case body =>
    rintro l pre x W hI _
    gi_wp2
    exact ⟨KeepsOthers.refl _, rfl, hI⟩
  case' done => rintro D ys W hD _ ⟨i2, k2⟩ hK
  case' stop => rintro D c pre W hD _ ⟨rfl, i2, k2⟩ hK
  all_goals
    have hDs : D < W.heap.size := (Array.getElem?_eq_some_iff.1 hK).1
    have hs2 : w.heap.size + 1 + 1 < W.heap.size := by have := i2.2.1.lt; omega
    have A1 := Lib.hid (allocN W)
    have j0 : In2 w z0 W.heap.size D [] ((W.alloc (.cells (z32.map I6).toArray 23)).alloc (.cells #[.int .i64 (-1)] 3)) := by
      refine ⟨(i2.1.below ((Below.refl _ _).alloc (Nat.le_refl _) _) i2.1.lt).below ((Below.refl _ _).alloc (Nat.le_refl _) _) (by have := i2.1.lt; simp; omega), (i2.2.2.alloc _).alloc _, (NB.box W z32).below ((Below.refl _ _).alloc (Nat.le_refl _) _) (by simp), ?_, ?_⟩
      · have := Boxed.new (W.alloc (.cells (z32.map I6).toArray 23)) 3 (.int .i64 (-1))
        rwa [World.size_alloc] at this
      · rw [Below.heap_alloc _ _ _ (by simp; omega), Below.heap_alloc _ _ _ hDs]
        exact hK
    have n0 : NB ((W.alloc (.cells (z32.map I6).toArray 23)).alloc (.cells #[.int .i64 (-1)] 3)) (w.heap.size + 1 + 1) z0 := (i2.2.1.below ((Below.refl _ _).alloc (Nat.le_refl _) _) i2.2.1.lt).below ((Below.refl _ _).alloc (Nat.le_refl _) _) (by have := i2.2.1.lt; simp; omega)
    have k3 : Below w.heap.size w ((W.alloc (.cells (z32.map I6).toArray 23)).alloc (.cells #[.int .i64 (-1)] 3)) := (k2.alloc k2.size _).alloc (by have := k2.size; simp; omega) _
    have hs3 : ((W.alloc (.cells (z32.map I6).toArray 23)).alloc (.cells #[.int .i64 (-1)] 3)).heap.size = W.heap.size + 1 + 1 := by simp
    have HS3 := Lib.hid hs3
    clear hs3 i1 k1
    gi_wp2_with ((with_reducible refine atIn_ (op := .alloc 23) ?_); refine wpListIn_val rfl (by intro c h; cases h) rfl _ (ex_alloc 23 rfl _ A1.out) ?_)
    generalize ((W.alloc (.cells (z32.map I6).toArray 23)).alloc (.cells #[.int .i64 (-1)] 3)) = w3 at *
    refine wpIn_rangeFunc_ownF rfl (by omega) (gf := 26) (lb := #[.pointer (some ⟨w.heap.size + 1 + 1, 0, none⟩)]) rfl trivial (enters_of Try.func26 (by kernel_rfl) rfl)
      (entries_stops Fence.wide _ trivial rfl (by omega) _ z0 hl _ n0) (fun _ _ => trivial) (fun _ _ _ _ _ _ _ _ => trivial) (Below.refl _ _) (fun _ => rfl)
      (fun pre V => In2 w z0 W.heap.size D pre V ∧ Below w.heap.size w V)
      (fun _ pre _ => Bad pre)
      (OwnFrom.and (in2_own w z0 _ D _ (by rw [HS3.out]; omega)) (ownFrom_below (Nat.le_refl _) (by rw [HS3.out]; omega)))
      (fun c => ownFrom_pure _ _)
      ⟨j0, k3⟩
      (fun x => { tmps := #[ng z0, .pointer (some ⟨w.heap.size, 0, none⟩), .pointer (some ⟨w.heap.size + 1, 0, none⟩), itv (w.heap.size + 1 + 1), .pointer (some ⟨W.heap.size, 0, none⟩), .pointer (some ⟨W.heap.size + 1, 0, none⟩), .int .i64 (x.1.1 : Int), .int .i64 x.1.2, .bool true, .bool false, ng z0, itv (w.heap.size + 1 + 1), itv (w.heap.size + 1 + 1), .bool false, itv (w.heap.size + 1 + 1), undef, undef, itv (w.heap.size + 1 + 1), .int .i64 (x.1.1 : Int), .int .i64 x.1.2, undef, undef, undef, undef, undef, undef, undef, undef, undef, undef, undef, undef, undef, undef, undef, undef, undef, undef], defers := [] }) ?assign2 ?body2 ?done2 ?stop2
    case assign2 =>
      intro l x W K hK
      gi_wp2
      exact hK
    case body2 =>
      rintro l pre x V ⟨hI, kv⟩ _
      have hx1 := x.2.1
      have hx2 := x.2.2
      have hlb := lastF_bd pre
      have c5 := hI.2.2.2.1.cell
      have f5 := hI.2.2.2.1.frozen
      have cS := hI.2.2.1.cell (k := x.1.1) (by rw [seenF_len]; exact hx1)
      have fS := hI.2.2.1.free x.1.1
      have cR := hI.2.1.cell
      have fR := hI.2.1.frozen
      have HST := Lib.hid (hI.step hs2 hDs x)
      have HKV := Lib.hid ((kv.setCell (p := ⟨W.heap.size + 1, 0, none⟩) (by show w.heap.size ≤ W.heap.size + 1; omega) (.int .i64 (x.1.1 : Int))).setCell (p := ⟨W.heap.size, x.1.1, none⟩) (by show w.heap.size ≤ W.heap.size; omega) (.int .i64 x.1.2))
      have HBD := Lib.hid (show (x.1.1 : Int) ≤ lastF pre → Bad (pre ++ [x]) from fun h => ⟨pre, x, rfl, h⟩)
      generalize (seenF pre).getD x.1.1 0 = u0 at cS
      generalize lastF pre = lp at *
      have hz1 : (x.1.2 == 0) = false := by simpa using hx2
      clear hI kv
      rcases Int.lt_or_le lp (x.1.1 : Int) with hlt | hle
      · gi_wp2
        exact ⟨(KeepsOthers.setCell _ _ _).trans (KeepsOthers.setCell _ _ _), trivial, HST.out, HKV.out⟩
      · have HB := HBD.out hle
        gi_wp2
        exact ⟨KeepsOthers.setCell _ _ _, HB⟩
    case done2 =>
      rintro D2 ys V hD2 rfl ⟨j1, k4⟩ hK2
      have jS := j1.2.2.1
      rw [seenF_all z0 hl] at jS
      have L1 := Lib.hid (jS.load hl)
      have L2 := Lib.hid (j1.1.load hl)
      have cR := j1.2.1.cell
      have fR := j1.2.1.frozen
      clear A1
      gi_wp2_with (first
        | ((with_reducible refine atIn_ (op := .load 23 (.tmp 4)) ?_); refine wpListIn_val rfl (by intro c h; cases h) rfl _ (ex_load 23 (.tmp 4) rfl _ _ rfl L1.out) ?_)
        | ((with_reducible refine atIn_ (op := .load 23 (.tmp 1)) ?_); refine wpListIn_val rfl (by intro c h; cases h) rfl _ (ex_load 23 (.tmp 1) rfl _ _ rfl L2.out) ?_)
        | ((with_reducible refine atIn_ (op := .binOp .eql 23 (.tmp 35) (.tmp 36) 23) ?_); refine wpListIn_val rfl (by intro c h; cases h) rfl _ (ex_bin_agg .eql 23 23 (.tmp 35) (.tmp 36) rfl _ _ _ rfl rfl guardN (eqlN _ hl hl)) ?_))
      have x1 := j1.2.1.set (.bool true)
      have k5 := k4.setCell (p := ⟨w.heap.size + 1, 0, none⟩) (by show w.heap.size ≤ w.heap.size + 1; omega) (.bool true)
      have d2 := (KeepsOthers.setCell V ⟨w.heap.size + 1, 0, none⟩ (.bool true)).same D2 _ hK2 rfl
      have d1 := (KeepsOthers.setCell V ⟨w.heap.size + 1, 0, none⟩ (.bool true)).same D _ j1.2.2.2.2 rfl
      generalize V.setCell ⟨w.heap.size + 1, 0, none⟩ (.bool true) = V1 at *
      have hne : D2 ≠ D := by have := HS3.out; omega
      have g2 := grownBy_putObj' V1 D2 (.deferred none)
      have d1' := (g2.block D (Array.getElem?_eq_some_iff.1 d1).1 (fun e => hne (by cases e; rfl))).trans d1
      have x2 : Boxed (V1.putObj D2 (.deferred none)) (w.heap.size + 1) 4 (.bool true) := cells_kept x1 g2 (fun r e => by cases e; exact ⟨_, d2, rfl⟩)
      have k6 := k5.trans (belowK_b (w := w) (Nat.le_refl _) V1 D2 _ (.deferred none) (by have := HS3.out; omega) d2 rfl rfl)
      generalize hV2 : V1.putObj D2 (.deferred none) = V2 at *
      have g3 := grownBy_putObj' V2 D (.deferred none)
      have x3 : Boxed (V2.putObj D (.deferred none)) (w.heap.size + 1) 4 (.bool true) := cells_kept x2 g3 (fun r e => by cases e; exact ⟨_, d1', rfl⟩)
      have k7 := k6.trans (belowK_b (w := w) (Nat.le_refl _) V2 D _ (.deferred none) (by omega) d1' rfl rfl)
      refine ⟨by simp, .inl ⟨D2, _, rfl, run_takeDeferred d2, ⟨by simp, .inl ⟨D, _, rfl, run_takeDeferred (by rw [hV2]; exact d1'), ?_⟩⟩⟩⟩
      rw [hV2]
      have cx := x3.cell
      refine ⟨.bool true, ?_, rfl, k7⟩
      simp [results, Try.f6, go_sem, cx]
    case stop2 =>
      rintro D2 c pre V hD2 hpre ⟨q, y, rfl, hle⟩ _
      exact absurd (entsK_rise z0 32 q y hpre) (by omega)

set_option maxRecDepth 100000 in
theorem lifted (os : Os) (started : os.Started) (H : Type) (enc : TypeId × Value → H) :
    ReturnsInHanded {} Try.checked os 6 .any (Rows.nodeEntriesSpec.pre6 enc Try.prog Try.f6 Rows.nodeEntriesRow.domain false) (Rows.nodeEntriesSpec.post enc Try.prog Try.f6 false true false false) := by
  refine returnsInHanded_of_change_sized (C := Try.checked) own started (by kernel_rfl) Try.func6
    (ChangeSpec.witness6 (enc := enc) (C := Try.checked) false ⟨#[], #[.agg #[.int .i64 0, .int .i64 0, .int .i64 0, .int .i64 0, .int .i64 0, .int .i64 0, .int .i64 0, .int .i64 0, .int .i64 0, .int .i64 0, .int .i64 0, .int .i64 0, .int .i64 0, .int .i64 0, .int .i64 0, .int .i64 0, .int .i64 0, .int .i64 0, .int .i64 0, .int .i64 0, .int .i64 0, .int .i64 0, .int .i64 0, .int .i64 0, .int .i64 0, .int .i64 0, .int .i64 0, .int .i64 0, .int .i64 0, .int .i64 0, .int .i64 0, .int .i64 0]], []⟩ 8 (by kernel_rfl) (by kernel_rfl) (by kernel_rfl) (by kernel_rfl)) ?_
  intro W base args ds gs before hval0 hW _ hsz0 _
  have hsz : (DataW.weightsEach Try.prog (Try.f6.params.toList ++ Rows.nodeEntriesSpec.plain.varTypes Try.prog) (ds ++ gs)).all (· ≤ reachBytes) = true := hsz0
  clear hsz0
  have hval : ∀ (j : Nat) t v, Try.f6.params[j]? = some t → args[j]? = some v → Value.okWide Try.prog W .any base t v := hval0
  have hW' := hW
  obtain ⟨p, q, hA0, hV, rfl, _, _⟩ := hW
  have hA : DataW.TrodAll enc Try.prog W 0 (fun _ => true) true Try.f6.params.toList args.toList ds p := hA0
  rw [Try.params6] at hA hval hsz
  obtain ⟨v0, vs0, d0, ds0, p0, q0, hargs, rfl, rfl, h0, r0⟩ := trodAll_cons hA
  obtain ⟨rfl, rfl, rfl⟩ := trodAll_nil r0
  obtain rfl : args = #[v0] := by cases args; simp_all
  obtain ⟨rfl, rfl⟩ := trodVars_none hV
  have k0 := h0
  have lt0 : ∀ x ∈ p0, x.block < W.heap.size := by obtain ⟨m, hm⟩ := k0; exact DataW.trod_lt m _ _ _ hm
  obtain ⟨z0, rfl, o0⟩ := node_in (hval 0 23 v0 rfl rfl) h0
  clear hA0 hval0
  refine (walk z0 W o0).mono fun e W' ⟨he, bel⟩ => ?_
  subst he
  exact ⟨_, rfl, _, _, _, [], _, [], hW', trodAll_mk1 (shut_bool Try.underlying4 _), (trodAll_cons_mk (Below.trod laidOut (by kernel_rfl) (of_decide_eq_true (by kernel_rfl)) k0 bel lt0) trodAll_mk0), rfl, bel.frame _, fun h => by cases h⟩

theorem proved : Rows.NodeEntriesSaid :=
  OpenClaim.holds_of_wide 6 Try.f6 rfl rfl rfl rfl rfl rfl rfl ⟨rfl, rfl, rfl, rfl, rfl⟩ rfl rfl rfl rfl rfl (by kernel_rfl) Try.func6 (by kernel_rfl)
    (of_decide_eq_true (by kernel_rfl)) (by unfold Func.isWrapper; first | (rw [if_pos (by decide +kernel)]; kernel_rfl) | (rw [if_neg (by decide +kernel)]; exact ⟨rfl, rfl⟩))
    (fun os started H enc _ => lifted os started H enc)
#print axioms proved
end Go.Proofs.Ytpabeljealdebaa.nodeEntries
