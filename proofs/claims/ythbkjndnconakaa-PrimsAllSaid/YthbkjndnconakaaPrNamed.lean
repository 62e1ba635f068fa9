/-
  PrNamed
-/
import Derived.Test.YthbkjndnconakaaPrMap
namespace Go.Proofs.Ythbkjndnconakaa.Pr
open Go.RowKit Go.Shelf Go.Maps
attribute [local go_sem] Oper.semAt_some
set_option linter.unusedVariables false
set_option linter.unusedSimpArgs false

/-- The value of the iterator. -/
def itp : Value := .func (.func 23) #[] #[]
set_option maxRecDepth 100000 in
theorem all_any (w : World) : Calls Try.prog 18 #[] w fun e w' => e = .returned itp ∧ w' = w := by
  go_enter Try.func18, Try.ntmps18
  go_wp2_with fail
  go_ret
  exact ⟨rfl, rfl⟩
set_option maxRecDepth 100000 in
theorem inner_any (n : Nat) (w : World) : Calls Try.prog 24 #[.int .i64 (n : Int)] w fun e w' => e = .returned (.bool (prH n)) ∧ w' = w := by
  unfold prH
  by_cases h1 : 2 ≤ n
  · have d1 : decide ((2 : Int) ≤ (n : Int)) = true := by simp only [decide_eq_true_eq]; omega
    have e1 : decide (2 ≤ n ∧ n ≤ 11) = decide ((n : Int) ≤ 11) := by simp only [decide_eq_decide]; omega
    rw [e1]
    clear e1 h1
    generalize (n : Int) = z at *
    go_enter Try.func24, Try.ntmps24
    go_wp2_with fail
    go_ret
    exact ⟨rfl, rfl⟩
  · have d1 : decide ((2 : Int) ≤ (n : Int)) = false := by simp only [decide_eq_false_iff_not]; omega
    have e1 : decide (2 ≤ n ∧ n ≤ 11) = false := by simp only [decide_eq_false_iff_not]; omega
    rw [e1]
    clear e1 h1
    generalize (n : Int) = z at *
    go_enter Try.func24, Try.ntmps24
    go_wp2_with fail
    go_ret
    exact ⟨rfl, rfl⟩
theorem grown_below {W1 W2 : World} (h : Below W1.heap.size W1 W2) : W1.grownBy W2 none := ⟨h.os, h.tape, h.output, h.size, fun k hk _ => h.block k hk⟩
theorem all_stops (n : Nat) (hn : 1 ≤ n) (w : World) : SeqStopsK Fence.wide n Try.prog 23 #[] encP (fun _ _ => True) (fun ys => ys = numL) (fun pre => pre <+: numL) 141 w := fun y J Jx W hW hJ _ hY h0 =>
  all1_in n hn y J Jx W (fun s W1 W2 hs hb => hJ s W1 _ none hs (grown_below hb) (fun r e => by cases e)) (fun pre x W1 h1 h2 _ => hY pre x W1 h1 h2) h0
theorem others_below {W W' : World} (h : Below W.heap.size W W') : KeepsOthers W W' := ⟨h.size, fun k o hk _ => (h.block k (Array.getElem?_eq_some_iff.1 hk).1).trans hk⟩

/-! ### named -/
/-- What the loop keeps: the map in block h, its variable behind it. -/
def InN (w : World) (pre : List PN) (W : World) : Prop :=
  Boxed W (w.heap.size + 1) 43 (.map (some w.heap.size)) ∧ (∃ nn, nn ≤ pre.length ∧ PMap W w.heap.size nn (fun s => (fndP pre s : Int))) ∧ Below w.heap.size w W
theorem inN_own (w : World) {B : Nat} (hB : w.heap.size + 1 < B) : OwnFrom B (InN w) := fun pre W W' row ⟨h1, ⟨nn, hn, h2⟩, h3⟩ hg hr =>
  ⟨cells_kept h1 hg (fun r e => (hr r e).2), ⟨nn, hn, h2.keep (hg.block _ h2.lt (fun e => by have := (hr _ e.symm).1; omega))⟩, ownFrom_below (Nat.le_refl _) (by omega) () W W' row h3 hg hr⟩
theorem InN.below {w : World} {pre : List PN} {W W' : World} (h : InN w pre W) (k : Below W.heap.size W W') : InN w pre W' := by
  obtain ⟨h1, ⟨nn, hn, h2⟩, h3⟩ := h
  exact ⟨(k.block _ h1.lt).trans h1, ⟨nn, hn, h2.below k⟩, h3.trans (k.mono h3.size)⟩
/-- A primitive's cells in block b. -/
def BoxP (W : World) (b : Nat) (x : PN) : Prop := W.heap[b]? = some (.cells (pcl (prAt x.1)).toArray 24 (0, 0))
theorem BoxP.c {W : World} {b : Nat} {x : PN} (h : BoxP W b x) : W.cell? ⟨b, 0, none⟩ = some (St (prAt x.1).nm) := by rw [cell_of_row _ _ _ _ _ _ h]; rfl
theorem BoxP.below {W W' : World} {b : Nat} {x : PN} (h : BoxP W b x) (k : Below W.heap.size W W') : BoxP W' b x := (k.block b (Array.getElem?_eq_some_iff.1 h).1).trans h
def actN (w : World) (b : Nat) (x : PN) : Act := { tmps := #[.map none, .pointer (some ⟨w.heap.size + 1, 0, none⟩), .int .i64 (x.1 : Int), .pointer (some ⟨b, 0, none⟩), .map (some w.heap.size), itp, .int .i64 (x.1 : Int), pv (prAt x.1), undef, undef, undef, undef, undef, undef, undef, undef, undef], defers := [] }
def MidN (w : World) (pre : List PN) (x : PN) (a : Act) (W : World) : Prop := ∃ b, a = actN w b x ∧ BoxP W b x ∧ InN w pre W ∧ pre.length < 141
theorem midN_own (w : World) (pre : List PN) (x : PN) {B : Nat} (hB : w.heap.size + 1 < B) : OwnFrom B (MidN w pre x) := fun a W W' row ⟨b, e, h1, h2, h3⟩ hg hr =>
  ⟨b, e, cells_kept h1 hg (fun r e => (hr r e).2), inN_own w hB pre W W' row h2 hg hr, h3⟩
theorem InN.put {w : World} {pre : List PN} {W : World} (h : InN w pre W) (hl : pre.length < 141) (x : PN) (hx : prH x.1 = false) {W' : World} (k : Below W.heap.size W W') :
    ∃ W2, (Instr.mapUpdate 43 (.map (some w.heap.size)) (St (upL (prAt x.1).nm)) (.int .i64 (x.1 : Int))).run Try.prog W' = .ok () W2 ∧ InN w (pre ++ [x]) W2 ∧ KeepsFrom (w.heap.size + 2) W W2 := by
  obtain ⟨h1, ⟨nn, hn, h2⟩, h3⟩ := h.below k
  have hs := (small x.1 (by have := x.2; omega)).1
  obtain ⟨W2, hr, hm, hg, hz⟩ := h2.put (upL (prAt x.1).nm) (by unfold upL; rw [List.length_map]; omega) (x.1 : Int) (by unfold maxLen; omega)
  refine ⟨W2, hr, ⟨?_, ⟨nn + 1, by rw [List.length_append, List.length_singleton]; omega, ?_⟩, h3.grown hg h3.size (fun k hk => by cases hk; exact Nat.le_refl _)⟩, ((others_below k).from _).trans (KeepsFrom.of_grownBy hg fun j e => by cases e; omega)⟩
  · exact (hg.block _ h1.lt (fun e => by injection e; omega)).trans h1
  · have hu := ((names x.1 (by have := x.2; omega)).1 hx).1
    rw [hu] at hm
    refine (show (fun s => ((fndP (pre ++ [x]) s : Nat) : Int)) = _ from ?_) ▸ hm
    funext s
    rw [fndP_snoc]
    by_cases e : s = (prAt x.1).nm
    · rw [if_pos ⟨hx, e.symm⟩, if_pos e]
    · rw [if_neg (fun h => e h.2.symm), if_neg e]
theorem InN.pass {w : World} {pre : List PN} {W : World} (h : InN w pre W) (x : PN) (hx : prH x.1 = true) : InN w (pre ++ [x]) W := by
  obtain ⟨h1, ⟨nn, hn, h2⟩, h3⟩ := h
  refine ⟨h1, ⟨nn, by rw [List.length_append]; omega, ?_⟩, h3⟩
  refine (show (fun s => ((fndP (pre ++ [x]) s : Nat) : Int)) = _ from ?_) ▸ h2
  funext s
  rw [fndP_snoc, if_neg (fun h => by rw [hx] at h; cases h.1)]

theorem hint_map (w : World) : (Instr.makeMap 43 (some (.int .i64 141))).run Try.prog w = .ok (.map (some w.heap.size)) (w.alloc (.map #[] 0)) := by kernel_rfl
set_option maxRecDepth 100000 in
set_option maxHeartbeats 1000000 in
theorem named_any (w : World) : Calls Try.prog 22 #[] w fun e w' => e = .returned (.map (some w.heap.size)) ∧ (∃ nn, PMap w' w.heap.size nn (fun s => (findN s : Int))) ∧ Below w.heap.size w w' := by
  refine (callsIn_wide (n := 8)).1 ?_
  refine callsIn_of_wp_marks Try.func22 rfl trivial ?_ rfl
  simp only [Try.ntmps22, List.size_toArray, List.length_cons, List.length_nil, Nat.reduceAdd, Nat.reduceSub, Array.replicate_succ, Array.replicate_zero, List.push_toArray, List.append_toArray, List.nil_append, List.cons_append]
  have hmm := hint_map
  have hin : InN w [] ((w.alloc (.map #[] 0)).alloc (.cells #[.map (some w.heap.size)] 43)) := by
    refine ⟨?_, ⟨0, Nat.le_refl _, (PMap.made w).below ((Below.refl _ _).alloc (Nat.le_refl _) _)⟩, ((Below.refl _ _).alloc (Nat.le_refl _) _).alloc (by simp) _⟩
    have := Boxed.new (w.alloc (.map #[] 0)) 43 (.map (some w.heap.size))
    rwa [World.size_alloc] at this
  have hs2 : ((w.alloc (.map #[] 0)).alloc (.cells #[.map (some w.heap.size)] 43)).heap.size = w.heap.size + 2 := by simp
  have HIN := Lib.hid hin
  have HS2 := Lib.hid hs2
  clear hin hs2
  gi_wp2
  generalize (w.alloc (.map #[] 0)).alloc (.cells #[.map (some w.heap.size)] 43) = w1 at *
  refine ⟨trivial, ?_⟩
  refine (callsIn_wide.2 (all_any w1)).mono ?_
  rintro e w2 ⟨rfl, rfl⟩
  gi_wp2
  have hs2 := HS2.out
  refine wpIn_range_newG rfl (by omega) (gf := 23) (lb := #[]) rfl trivial (enters_of Try.func23 (by kernel_rfl) rfl)
    (all_stops _ (by omega) w2) (Below.refl _ _) (fun _ => rfl)
    (InN w) (fun _ _ _ => False) (MidN w)
    (inN_own w (by omega)) (fun _ _ _ _ _ hs _ _ => hs) (fun pre x => midN_own w pre x (by omega)) HIN.out ?assign ?body ?done ?stop
  case assign =>
    intro y pre x W hi hl
    have hm : MidN w pre x (actN w W.heap.size x) (W.alloc (.cells (pcl (prAt x.1)).toArray 24)) := ⟨_, rfl, heap_alloc_new W _, hi.below ((Below.refl _ _).alloc (Nat.le_refl _) _), hl⟩
    have hk := KeepsOthers.alloc W (.cells (pcl (prAt x.1)).toArray 24)
    unfold actN pv at hm
    obtain ⟨xs, t, l, b1, b2, hq⟩ : ∃ xs t l b1 b2, pcl (prAt x.1) = [St xs, .int .i64 t, .int .i64 l, .bool b1, .bool b2] := ⟨_, _, _, _, _, rfl⟩
    unfold encP pv
    rw [hq] at hm hk ⊢
    have HK := Lib.hid hk
    have HM := Lib.hid hm
    clear hi hs2 hk hm hq
    gi_wp2
    exact ⟨HK.out, HM.out⟩
  case body =>
    rintro y pre x a W ⟨b, rfl, hn, hu, hl⟩
    unfold actN pv
    cases hx : prH x.1 with
    | true =>
      have HP := Lib.hid (hu.pass x hx)
      have hin := fun W2 => inner_any x.1 W2
      rw [hx] at hin
      have HI := Lib.hid hin
      clear hin hu hs2 hx
      gi_wp2
      refine ⟨trivial, (CallsIn.inRound y (callsIn_wide.2 (HI.out _))).mono ?_⟩
      rintro e W3 ⟨rfl, rfl⟩
      gi_wp2
      exact ⟨KeepsFrom.refl _ _, trivial, HP.out⟩
    | false =>
      have hin := fun W2 => inner_any x.1 W2
      rw [hx] at hin
      have HI := Lib.hid hin
      have HST := Lib.hid (fun W2 (k : Below W.heap.size W W2) => hu.put hl x hx k)
      have c0 := hn.c
      have c1 := hu.1.cell
      have hcc := fun W2 (hW : Below W.heap.size W W2) => (show W2.cell? ⟨w.heap.size + 1, 0, none⟩ = some (.map (some w.heap.size)) from
        (show Boxed W2 (w.heap.size + 1) 43 _ from (hW.block _ hu.1.lt).trans hu.1).cell)
      have HCC := Lib.hid hcc
      have hlg := fun W2 => large_any (prAt x.1).nm (by have := (small x.1 (by have := x.2; omega)).1; omega) W2
      have HLG := Lib.hid hlg
      have hmix : Try.prog.follows .mixedOrders = true := by kernel_rfl
      clear hin hu hs2 hx hcc hlg hn
      gi_wp2
      refine ⟨trivial, (CallsIn.inRound y (callsIn_wide.2 (HI.out _))).mono ?_⟩
      rintro e W3 ⟨rfl, rfl⟩
      gi_wp2
      gi_region_with_o (first | (refine ⟨trivial, (CallsIn.inRound y (callsIn_wide.2 (HLG.out _))).mono ?_⟩; rintro e W4 ⟨rfl, hb4⟩; have c1' := HCC.out W4 (((Below.refl _ _).drew).trans hb4); obtain ⟨W5, hst, HS5⟩ := HST.out W4 (((Below.refl _ _).drew).trans hb4)))
      all_goals
        gi_wp2
        rw [HS2.out]
        exact ⟨HS5.2, trivial, HS5.1⟩
  case done =>
    rintro D ys W hD rfl hu hK
    obtain ⟨h1, ⟨nn, _, h2⟩, h3⟩ := hu
    have c1 := h1.cell
    have k2 := h3.trans (belowK_b (w := w) (Nat.le_refl _) W D _ (.deferred none) (by omega) hK rfl rfl)
    have m2 : PMap (W.putObj D (.deferred none)) w.heap.size nn (fun s => (fndP numL s : Int)) := h2.keep (World.putObj_heap_other (by omega))
    have M2 := Lib.hid m2
    have K2 := Lib.hid k2
    clear h1 h2 h3 hs2 m2 k2
    gi_wp2
    refine ⟨by simp, .inl ⟨D, _, rfl, run_takeDeferred hK, ?_⟩⟩
    refine ⟨.map (some w.heap.size), ?_, rfl, ⟨nn, ?_⟩, K2.out⟩
    · simp [results, Try.f22, go_sem]
    · refine (show (fun s => ((findN s : Nat) : Int)) = _ from ?_) ▸ M2.out
      funext s
      rw [show fndP numL s = findN s from fndP_num 141 (Nat.le_refl _) s]
  case stop =>
    rintro D c2 pre W _ _ hf _
    exact hf.elim

set_option maxRecDepth 100000 in
theorem find_any (s : List UInt8) (hs : s.length ≤ 140737488351232) (w : World) : Calls Try.prog 13 #[St s] w (Gv w (.int .i64 (findN (upL s) : Int))) := by
  have HN := Lib.hid (named_any w)
  have HL := Lib.hid (fun W => large_any s hs W)
  go_enter Try.func13, Try.ntmps13
  go_wp2_with fail
  refine HN.out.mono ?_
  rintro e w1 ⟨rfl, ⟨nn, hm⟩, b1⟩
  have HM := Lib.hid hm
  have B1 := Lib.hid b1
  clear hm b1
  go_wp2_with fail
  refine (HL.out _).mono ?_
  rintro e w2 ⟨rfl, b2⟩
  have hk := (HM.out.below b2).look (upL s) (by unfold upL; rw [List.length_map]; exact hs)
  have B2 := Lib.hid (B1.out.trans (b2.mono B1.out.size))
  clear b2 B1
  go_wp2_with fail
  go_ret
  exact ⟨rfl, B2.out⟩
end Go.Proofs.Ythbkjndnconakaa.Pr
