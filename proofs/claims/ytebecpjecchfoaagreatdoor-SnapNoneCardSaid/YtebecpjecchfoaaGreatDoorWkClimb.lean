/-
  WkClimb
-/
import Derived.Test.YtebecpjecchfoaaGreatDoorWkSmall
import Derived.Test.YtebecpjecchfoaaGreatDoorGWf
import Derived.Test.YtebecpjecchfoaaGreatDoorGPan
import Derived.Test.YtebecpjecchfoaaGreatDoorGA
namespace Go.Proofs.YtebecpjecchfoaaGreatDoor
open Go.RowKit Go.Shelf
attribute [local go_sem] Oper.semAt_some

/-- What a call of goThrough's closure gives where the sector may be reached. -/
def TOut (T : (Nat → Prop) → PL → World → Prop) (fp : Nat → Prop) (l : PL) (m : Nat) (pg : Int) (w : World) (e : Ending) (w' : World) : Prop :=
  e = .returned (.tuple #[]) ∧ ∃ fp', T fp' (l ++ [(m, pg)]) w' ∧ Keeps fp w w' ∧ ∀ k, fp' k → fp k ∨ w.heap.size ≤ k
/-- A state of what was reached (its blocks that may be written: fp; all others of its lie below C), and the closure's contracts on it. -/
structure TOk (T : (Nat → Prop) → PL → World → Prop) (C p lb mb0 n : Nat) (iv : Value) (D : DSt) (b7 b3 b5 : Nat) : Prop where
  keep : ∀ {fp : Nat → Prop} {l : PL} {W W' : World} {G : Nat → Prop}, T fp l W → Keeps G W W' → (∀ k, G k → C ≤ k ∧ ¬ fp k) → T fp l W'
  lt : ∀ {fp : Nat → Prop} {l : PL} {W : World} {k : Nat}, T fp l W → fp k → k < W.heap.size
  disk : ∀ {fp : Nat → Prop} {l : PL} {W : World}, T fp l W → DkAt W p lb mb0 n iv D
  ok : ∀ {fp : Nat → Prop} {l : PL} {W : World} {m : Nat} {pg : Int} {l' : List Nat}, T fp l W → addS n (l.map Prod.fst) (m : Int) = some l' → (-1 ≤ pg ∧ pg < 128) →
    Calls Tryz.prog 201 #[.int .i64 (m : Int), .int .i64 pg, .pointer (some ⟨b7, 0, none⟩), .pointer (some ⟨b3, 0, none⟩), .pointer (some ⟨b5, 0, none⟩)] W (TOut T fp l m pg W)
  bad : ∀ {fp : Nat → Prop} {l : PL} {W : World} {s pg : Int}, T fp l W → -9223372036854775808 ≤ s → s ≤ 9223372036854775807 → addS n (l.map Prod.fst) s = none →
    Calls Tryz.prog 201 #[.int .i64 s, .int .i64 pg, .pointer (some ⟨b7, 0, none⟩), .pointer (some ⟨b3, 0, none⟩), .pointer (some ⟨b5, 0, none⟩)] W fun e W' => e = thrownT ∧ Below W.heap.size W W'

theorem _root_.Go.RowKit.Below.keepsNone {w w' : World} (h : Below w.heap.size w w') : Keeps (fun _ => False) w w' := keeps_below h
theorem _root_.Go.RowKit.Below.keeps {w w' : World} {F : Nat → Prop} (h : Below w.heap.size w w') : Keeps F w w' := (keeps_below h).mono (fun _ _ h => h.elim)
/-- What walk throws. -/
def chT : List PanicEntry := [{ v := .iface 26 (.int .i64 60), recovered := false }]
/-- What climb gives. -/
def ClimbOut (T : (Nat → Prop) → PL → World → Prop) (fp : Nat → Prop) (X : Option PL) (w : World) (e : Ending) (w' : World) : Prop :=
  (∃ ps fp', X = some ps ∧ e = .returned (.tuple #[]) ∧ T fp' ps w' ∧ Keeps fp w w' ∧ ∀ k, fp' k → fp k ∨ w.heap.size ≤ k) ∨ (X = none ∧ e = thrownT ∧ Keeps fp w w')

/-- While climb works: E the first block behind the loop's own, H blocks that are nobody else's. -/
structure CI (T : (Nat → Prop) → PL → World → Prop) (w : World) (p : Nat) (rv : Value) (fp : Nat → Prop) (E : Nat) (H : Nat → Prop) (ps : PL) (fp' : Nat → Prop) (W : World) : Prop where
  t : T fp' ps W
  k : Keeps fp w W
  sub : ∀ k, fp' k → ((fp k ∧ k < w.heap.size) ∨ E ≤ k) ∧ ¬ H k
  ea : W.heap[w.heap.size]? = some (.cells #[.pointer (some ⟨p, 0, none⟩)] 29 (0, 0))
  eb : W.heap[w.heap.size + 1]? = some (.cells #[rv] 225 (0, 0))
  lo : w.heap.size + 2 ≤ E
  hi : E ≤ W.heap.size
section
variable {T : (Nat → Prop) → PL → World → Prop} {p lb mb0 n : Nat} {iv : Value} {D : DSt} {b7 b3 b5 : Nat} {w W W' : World} {rv : Value} {fp fp' fp'' : Nat → Prop} {E : Nat} {H : Nat → Prop} {ps ps' : PL}
theorem CI.same (h : CI T w p rv fp E H ps fp' W) (ht : TOk T w.heap.size p lb mb0 n iv D b7 b3 b5) {G : Nat → Prop} (k : Keeps G W W') (hG : ∀ b, G b → w.heap.size + 2 ≤ b ∧ ¬ fp' b) : CI T w p rv fp E H ps fp' W' := by
  have h1 := h.lo
  have h2 := h.hi
  refine ⟨ht.keep h.t k (fun b hb => ⟨by have := (hG b hb).1; omega, (hG b hb).2⟩), ⟨k.os.trans h.k.os, k.tape.trans h.k.tape, k.output.trans h.k.output, Nat.le_trans h.k.size k.size, fun b hb hf => ?_⟩, h.sub, ?_, ?_, h1, Nat.le_trans h2 k.size⟩
  · exact (k.block b (by have := h.k.size; omega) (fun hb' => by have := (hG b hb').1; omega)).trans (h.k.block b hb hf)
  · exact (k.block _ (by omega) (fun hb' => by have := (hG _ hb').1; omega)).trans h.ea
  · exact (k.block _ (by omega) (fun hb' => by have := (hG _ hb').1; omega)).trans h.eb
theorem CI.new (h : CI T w p rv fp E H ps fp' W) (ht : TOk T w.heap.size p lb mb0 n iv D b7 b3 b5) (k : Keeps (fun _ => False) W W') : CI T w p rv fp E H ps fp' W' := h.same ht k (fun _ h => h.elim)
theorem CI.holes (h : CI T w p rv fp E H ps fp' W) (ht : TOk T w.heap.size p lb mb0 n iv D b7 b3 b5) {H' : Nat → Prop} (hH : ∀ b, H' b → H b ∨ W.heap.size ≤ b) : CI T w p rv fp E H' ps fp' W :=
  ⟨h.t, h.k, fun b hb => ⟨(h.sub b hb).1, fun h' => by
    rcases hH b h' with h3 | h3
    · exact (h.sub b hb).2 h3
    · have := ht.lt h.t hb
      omega⟩, h.ea, h.eb, h.lo, h.hi⟩
theorem CI.hk (h : CI T w p rv fp E H ps fp' W) (k : Keeps fp' W W') {b : Nat} (hb : H b) (hlt : b < W.heap.size) : W'.heap[b]? = W.heap[b]? := k.block b hlt (fun hf => (h.sub b hf).2 hb)
theorem CI.not (h : CI T w p rv fp E H ps fp' W) {b : Nat} (hb : w.heap.size ≤ b) (hE : b < E) : ¬ fp' b := fun hf => by
  rcases (h.sub b hf).1 with h1 | h1
  · omega
  · omega
theorem CI.took (h : CI T w p rv fp E H ps fp' W) (t : T fp'' ps' W') (k : Keeps fp' W W') (hs : ∀ b, fp'' b → fp' b ∨ W.heap.size ≤ b) (hH : ∀ b, H b → b < W.heap.size) : CI T w p rv fp E H ps' fp'' W' := by
  have h1 := h.lo
  have h2 := h.hi
  refine ⟨t, ⟨k.os.trans h.k.os, k.tape.trans h.k.tape, k.output.trans h.k.output, Nat.le_trans h.k.size k.size, fun b hb hf => ?_⟩, fun b hb => ?_, ?_, ?_, h1, Nat.le_trans h2 k.size⟩
  · refine (k.block b (by have := h.k.size; omega) (fun hb' => ?_)).trans (h.k.block b hb hf)
    rcases (h.sub b hb').1 with h3 | h3
    · exact hf h3.1
    · omega
  · rcases hs b hb with h3 | h3
    · exact h.sub b h3
    · exact ⟨.inr (by omega), fun hb' => by have := hH b hb'; omega⟩
  · exact (k.block _ (by omega) (h.not (by omega) (by omega))).trans h.ea
  · exact (k.block _ (by omega) (h.not (by omega) (by omega))).trans h.eb
end

set_option maxRecDepth 100000 in
set_option maxHeartbeats 1600000 in
theorem climb_any {T : (Nat → Prop) → PL → World → Prop} {p lb mb0 n : Nat} {iv : Value} {D : DSt} {b7 b3 b5 : Nat} {w : World} {fp : Nat → Prop} (ht : TOk T w.heap.size p lb mb0 n iv D b7 b3 b5) (h : T fp [] w) (hd : D.down = false)
    (top : Int) (h1 : -9223372036854775808 ≤ top) (h2 : top ≤ 9223372036854775807) :
    Calls Tryz.prog 200 #[.pointer (some ⟨p, 0, none⟩), .int .i64 top, .func (.func 201) #[] #[.pointer (some ⟨b7, 0, none⟩), .pointer (some ⟨b3, 0, none⟩), .pointer (some ⟨b5, 0, none⟩)]] w (ClimbOut T fp (walkT D n top) w) := by
  refine (callsIn_wide (n := 12)).1 ?_
  refine callsIn_of_wpAt openWide Tryz.func200 rfl ?_ rfl
  simp only [Tryz.ntmps200, List.size_toArray, List.length_cons, List.length_nil, Nat.reduceAdd, Nat.reduceSub, Array.replicate_succ, Array.replicate_zero, List.push_toArray, List.append_toArray, List.nil_append, List.cons_append]
  have c0 : CI T w p (.func (.func 201) #[] #[.pointer (some ⟨b7, 0, none⟩), .pointer (some ⟨b3, 0, none⟩), .pointer (some ⟨b5, 0, none⟩)]) fp (w.heap.size + 2) (fun _ => False) [] fp ((w.alloc (.cells #[.pointer (some ⟨p, 0, none⟩)] 29)).alloc (.cells #[.func (.func 201) #[] #[.pointer (some ⟨b7, 0, none⟩), .pointer (some ⟨b3, 0, none⟩), .pointer (some ⟨b5, 0, none⟩)]] 225)) := by
    have k2 : Keeps (fun _ => False) w ((w.alloc (.cells #[.pointer (some ⟨p, 0, none⟩)] 29)).alloc (.cells #[.func (.func 201) #[] #[.pointer (some ⟨b7, 0, none⟩), .pointer (some ⟨b3, 0, none⟩), .pointer (some ⟨b5, 0, none⟩)]] 225)) := (Keeps.alloc _ _ _).trans (Keeps.alloc _ _ _)
    exact ⟨ht.keep h k2 (fun _ h => h.elim), k2.mono (fun _ _ h => h.elim), fun k hk => ⟨.inl ⟨hk, ht.lt h hk⟩, fun h => h⟩, (Below.heap_alloc _ _ _ (by simp)).trans (heap_alloc_new w _), blk_at_last _ _ _ (by simp), by omega, by simp⟩
  generalize hwa : ((w.alloc (.cells #[.pointer (some ⟨p, 0, none⟩)] 29)).alloc (.cells #[.func (.func 201) #[] #[.pointer (some ⟨b7, 0, none⟩), .pointer (some ⟨b3, 0, none⟩), .pointer (some ⟨b5, 0, none⟩)]] 225)) = wa at *
  have HWA := Lib.hid hwa
  clear hwa h
  refine WpAt.seq openWide (WpAt.of openWide ?_)
  gi_wp2
  rw [HWA.out]
  clear HWA
  refine WpAt.seq openWide ?_
  by_cases h0 : top = 0
  · subst h0
    refine WpAt.of openWide ?_
    gi_wp2
    refine ⟨_, results_none rfl _ _ _, .inl ⟨[], fp, rfl, rfl, c0.t, c0.k, fun k hk => .inl hk⟩⟩
  · have hx0 : (top == 0) = false := by simpa using h0
    refine WpAt.of openWide ?_
    gi_wp2
    refine WpAt.seq openWide (WpAt.of openWide ?_)
    obtain ⟨cb, zb⟩ := cell1 c0.eb
    cases ha : addS n [] top with
    | none =>
      have HW := Lib.hid (show walkT D n top = none by unfold walkT; rw [if_neg h0, ha]; rfl)
      gi_wp2
      refine ⟨trivial, ?_⟩
      refine (callsIn_wide.2 (ht.bad c0.t h1 h2 ha)).mono ?_
      rintro e w3 ⟨rfl, b3⟩
      refine .inr ⟨HW.out, rfl, c0.k.trans (b3.keeps)⟩
    | some l0 =>
      obtain ⟨g1, g2, rfl⟩ := addS_some ha
      obtain ⟨m, rfl⟩ : ∃ m : Nat, top = (m : Int) := ⟨top.toNat, by omega⟩
      have HW := Lib.hid (show walkT D n (m : Int) = foldL n (nodeR D) [(m, -1)] (entsK (nodeR D m) 32) by unfold walkT; rw [if_neg h0, ha]; rfl)
      gi_wp2
      refine ⟨trivial, ?_⟩
      refine (callsIn_wide.2 (ht.ok (pg := -1) c0.t ha (by decide))).mono ?_
      rintro e w3 ⟨rfl, fp3, t3, k3, s3⟩
      have c3 := c0.took t3 k3 s3 (fun _ h => h.elim)
      clear t3 k3 s3 c0 ha cb zb
      gi_wp2
      refine WpAt.seq openWide (WpAt.of openWide ?_)
      obtain ⟨ca, za⟩ := cell1 c3.ea
      gi_wp2
      refine ⟨trivial, ?_⟩
      refine (callsIn_wide.2 (wnode_ok (ht.disk c3.t) m (by omega) hd)).mono ?_
      rintro e w4 ⟨rfl, b4⟩
      have c4 := c3.new ht (b4.keepsNone)
      clear c3 b4 ca za
      have hzl := nodeR_len D m
      have hzs : decN (D.now m) = nodeR D m := rfl
      rw [hzs]
      clear hzs
      have hrg : ∀ (pre : List EN) (x : EN), pre ++ [x] <+: entsK (nodeR D m) 32 → ∃ y : Nat, x.1.2 = (y : Int) ∧ 0 < y ∧ y ≤ 65535 := fun _ _ => ents_rng
      generalize nodeR D m = zs at *
      gi_wp2
      refine ⟨trivial, ?_⟩
      refine (callsIn_wide.2 (entries_any zs _)).mono ?_
      rintro e w' ⟨rfl, rfl⟩
      have c5 := c4.new ht (Keeps.alloc (fun _ => False) w4 (.cells (zs.map I6).toArray 183))
      have n5 : NB (w4.alloc (.cells (zs.map I6).toArray 183)) w4.heap.size zs := NB.box w4 zs
      have s5 : w4.heap.size < (w4.alloc (.cells (zs.map I6).toArray 183)).heap.size := by simp
      clear c4
      generalize w4.alloc (.cells (zs.map I6).toArray 183) = w5 at *
      generalize w4.heap.size = B at *
      gi_wp2
      refine WpAt.block openWide ?_
      obtain ⟨RV, hRV⟩ : ∃ RV : Value, RV = .func (.func 201) #[] #[.pointer (some ⟨b7, 0, none⟩), .pointer (some ⟨b3, 0, none⟩), .pointer (some ⟨b5, 0, none⟩)] := ⟨_, rfl⟩
      rw [← hRV] at c5
      obtain ⟨H1, hH1⟩ : ∃ H1 : Nat → Prop, H1 = fun k => w5.heap.size ≤ k ∧ k < w5.heap.size + 2 := ⟨_, rfl⟩
      refine range_outer openWide rfl Tryz.func200 (gf := 229) (lb := #[.pointer (some ⟨B, 0, none⟩)]) rfl (enters_of Tryz.func229 (by kernel_rfl) rfl) (fun _ => rfl) rfl rfl rfl
        (entries_pan Fence.wide 11 trivial rfl (by omega) B zs hzl) (fun W hb => n5.below hb s5)
        (I := fun pre W => ∃ ps fp', foldL n (nodeR D) [(m, -1)] pre = some ps ∧ CI T w p RV fp (w.heap.size + 2) H1 ps fp' W)
        (IP := fun pre W => foldL n (nodeR D) [(m, -1)] pre = none ∧ Keeps fp w W) (ch := chT) ?_ ?_ ?_ ?_ ?_
      · rintro xs W W' ⟨ps, fp', hf, hc⟩ k
        refine ⟨ps, fp', hf, hc.same ht k (fun b hb => ⟨by have := c5.hi; omega, fun hfb => (hc.sub b hfb).2 (by rw [hH1]; exact hb)⟩)⟩
      · intro W hb hs
        exact ⟨_, fp3, rfl, (c5.holes ht (fun b h => by rw [hH1] at h; right; omega)).new ht hb.keepsNone⟩
      · rintro pre x W ⟨ps, fp', hf, hc⟩ hr _ hsp
        obtain ⟨y, hxy, hy1, hy2⟩ := hrg pre x hsp
        have ol := openWide.inRound (w5.heap.size + 1)
        have hsW := (hc.new ht (Keeps.alloc _ W (.cells #[.int .i64 (x.1.1 : Int)] 3)))
        have hW5 : w5.heap.size + 2 ≤ W.heap.size := by
          obtain ⟨r, hr⟩ := hr
          have := (Array.getElem?_eq_some_iff.1 hr).1
          omega
        refine WpAt.of ol ?_
        gi_wp2
        refine ⟨fun k _ hk => Below.heap_alloc _ _ _ (by omega), ?_⟩
        intro W2 k2 hr2
        obtain ⟨H2, hH2⟩ : ∃ H2 : Nat → Prop, H2 = fun k => H1 k ∨ k = W.heap.size := ⟨_, rfl⟩
        have hh : w.heap.size + 2 ≤ w5.heap.size := c5.hi
        have c6 : CI T w p RV fp (w.heap.size + 2) H2 ps fp' W2 := ((hc.holes ht (H' := H2) (fun b h => by rw [hH2] at h; exact h.imp id (fun e => by omega))).new ht (Keeps.alloc _ W (.cells #[.int .i64 (x.1.1 : Int)] 3))).same ht k2
          (fun b hb => ⟨by omega, fun hfb => (hc.sub _ hfb).2 (by rw [hH1]; omega)⟩)
        have e6 : W2.heap[W.heap.size]? = some (.cells #[.int .i64 (x.1.1 : Int)] 3 (0, 0)) := (k2.block _ (by simp) (by omega)).trans (heap_alloc_new W _)
        have s6 : W.heap.size < W2.heap.size := (Array.getElem?_eq_some_iff.1 e6).1
        have hH2' : ∀ b, H2 b → b < W2.heap.size := fun b hb => by
          rw [hH2, hH1] at hb
          rcases hb with hb | hb <;> omega
        have HF := Lib.hid hf
        have hx := x.2.1
        generalize W.heap.size = ib at *
        clear hf hc hsW k2 hr
        obtain ⟨ci6, zi6⟩ := cell1 e6
        refine WpAt.block ol ?_
        refine WpAt.seq ol (WpAt.of ol ?_)
        by_cases hfar : 4 ≤ x.1.1
        · have hst : foldL n (nodeR D) [(m, -1)] (pre ++ [x]) = none := by
            rw [foldL_snoc, HF.out, Option.bind_some]
            unfold stepL
            rw [if_pos hfar]
          have hl4 : decide (x.1.1 < 4) = false := decide_eq_false (by omega)
          have HST := Lib.hid hst
          have hld := wleads_any x.1.1 W2
          rw [hl4] at hld
          clear hst hl4
          gi_wp2
          refine ⟨trivial, ?_⟩
          refine (CallsIn.inRound _ (callsIn_wide.2 hld)).mono ?_
          rintro e w' ⟨rfl, rfl⟩
          gi_wp2
          refine ⟨trivial, ?_⟩
          refine (CallsIn.inRound _ (callsIn_wide.2 (wdemand_bad _))).mono ?_
          rintro e w' ⟨rfl, rfl⟩
          exact ⟨rfl, rfl, fun _ _ _ => rfl, HST.out, c6.k⟩
        · have hl4 : decide (x.1.1 < 4) = true := decide_eq_true (by omega)
          have hld := wleads_any x.1.1 W2
          rw [hl4] at hld
          clear hl4
          gi_wp2
          refine ⟨trivial, ?_⟩
          refine (CallsIn.inRound _ (callsIn_wide.2 hld)).mono ?_
          rintro e w' ⟨rfl, rfl⟩
          gi_wp2
          refine ⟨trivial, ?_⟩
          refine (CallsIn.inRound _ (callsIn_wide.2 (wdemand_ok _))).mono ?_
          rintro e w' ⟨rfl, rfl⟩
          clear hld ci6 zi6
          gi_wp2
          refine WpAt.seq ol (WpAt.of ol ?_)
          obtain ⟨cb6, zb6⟩ := cell1 c6.eb
          rw [hRV] at cb6
          cases ha : addS n (ps.map Prod.fst) (y : Int) with
          | none =>
            have HST := Lib.hid (show foldL n (nodeR D) [(m, -1)] (pre ++ [x]) = none by
              rw [foldL_snoc, HF.out, Option.bind_some]
              unfold stepL
              rw [if_neg hfar, hxy, ha]
              rfl)
            clear HF
            gi_wp2
            refine ⟨trivial, ?_⟩
            refine (CallsIn.inRound _ (callsIn_wide.2 (ht.bad (pg := -1) c6.t (by omega) (by omega) ha))).mono ?_
            rintro e w7 ⟨rfl, b7⟩
            exact ⟨rfl, rfl, fun k _ _ => b7.block k (by omega), HST.out, c6.k.trans b7.keeps⟩
          | some l0 =>
            have HST := Lib.hid (show foldL n (nodeR D) [(m, -1)] (pre ++ [x]) = foldP n x.1.1 (ps ++ [(y, -1)]) (entsK (nodeR D y) 32) by
              rw [foldL_snoc, HF.out, Option.bind_some]
              unfold stepL
              rw [if_neg hfar, hxy, ha]
              rfl)
            have hyn := (addS_some ha).2.1
            clear HF
            gi_wp2
            refine ⟨trivial, ?_⟩
            refine (CallsIn.inRound _ (callsIn_wide.2 (ht.ok (pg := -1) c6.t ha (by decide)))).mono ?_
            rintro e w7 ⟨rfl, fp7, t7, k7, s7⟩
            have c7 := c6.took t7 k7 s7 hH2'
            have k72 : ∀ b, H2 b → w7.heap[b]? = W2.heap[b]? := fun b hb => c6.hk k7 hb (hH2' b hb)
            have z7 := k7.size
            clear t7 k7 s7 ha cb6 zb6 c6
            gi_wp2
            refine WpAt.seq ol (WpAt.of ol ?_)
            obtain ⟨ca7, za7⟩ := cell1 c7.ea
            gi_wp2
            refine ⟨trivial, ?_⟩
            refine (CallsIn.inRound _ (callsIn_wide.2 (wnode_ok (ht.disk c7.t) y (by omega) hd))).mono ?_
            rintro e w8 ⟨rfl, b8⟩
            have c8 := c7.new ht b8.keepsNone
            have k82 : ∀ b, H2 b → w8.heap[b]? = W2.heap[b]? := fun b hb => (b8.block b (by have := hH2' b hb; omega)).trans (k72 b hb)
            have z8 := b8.size
            clear c7 b8 ca7 za7 k72
            have hyl := nodeR_len D y
            have hys : decN (D.now y) = nodeR D y := rfl
            have hrg2 : ∀ (pre : List EN) (x : EN), pre ++ [x] <+: entsK (nodeR D y) 32 → ∃ y : Nat, x.1.2 = (y : Int) ∧ 0 < y ∧ y ≤ 65535 := fun _ _ => ents_rng
            rw [hys]
            clear hys
            generalize nodeR D y = ys at *
            gi_wp2
            refine ⟨trivial, ?_⟩
            refine (CallsIn.inRound _ (callsIn_wide.2 (entries_any ys _))).mono ?_
            rintro e w' ⟨rfl, rfl⟩
            have c9 := c8.new ht (Keeps.alloc (fun _ => False) w8 (.cells (ys.map I6).toArray 183))
            have n9 : NB (w8.alloc (.cells (ys.map I6).toArray 183)) w8.heap.size ys := NB.box w8 ys
            have s9 : w8.heap.size < (w8.alloc (.cells (ys.map I6).toArray 183)).heap.size := by simp
            have k92 : ∀ b, H2 b → (w8.alloc (.cells (ys.map I6).toArray 183)).heap[b]? = W2.heap[b]? := fun b hb => (Below.heap_alloc _ _ _ (by have := hH2' b hb; omega)).trans (k82 b hb)
            clear c8 k82
            generalize w8.alloc (.cells (ys.map I6).toArray 183) = w9 at *
            generalize w8.heap.size = B2 at *
            gi_wp2
            refine WpAt.block ol ?_
            obtain ⟨H3, hH3⟩ : ∃ H3 : Nat → Prop, H3 = fun k => H2 k ∨ k = w9.heap.size := ⟨_, rfl⟩
            have hl0 : H2 (w5.heap.size + 1) := by rw [hH2, hH1]; left; omega
            have hib : H2 ib := by rw [hH2]; right; rfl
            have hr9 : ∃ r, w9.heap[w5.heap.size + 1]? = some (.loop r) := by rw [k92 _ hl0]; exact hr2
            obtain ⟨r0, hr9⟩ := hr9
            clear hr2
            refine range_inner ol (l₀ := w5.heap.size + 1) rfl hr9 Tryz.func200 (gf := 229) (lb := #[.pointer (some ⟨B2, 0, none⟩)]) rfl (enters_of Tryz.func229 (by kernel_rfl) rfl) (fun _ => rfl) rfl rfl
              ((entries_pan Fence.wide 9 trivial rfl (by omega) B2 ys hyl).inRound (w5.heap.size + 1)) (fun W hb => n9.below hb s9)
              (I := fun pre V => ∃ ps2 fp2, foldP n x.1.1 (ps ++ [(y, -1)]) pre = some ps2 ∧ CI T w p RV fp (w.heap.size + 2) H3 ps2 fp2 V ∧ ∀ b, H2 b → V.heap[b]? = W2.heap[b]?)
              (IP := fun pre V => foldP n x.1.1 (ps ++ [(y, -1)]) pre = none ∧ Keeps fp w V ∧ ∀ b, H2 b → V.heap[b]? = W2.heap[b]?) (ch := chT) ?_ ?_ ?_ ?_ ?_
            · rintro xs V V' ⟨ps2, fp2, hf2, hc2, hk2⟩ kk
              refine ⟨ps2, fp2, hf2, hc2.same ht kk (fun b hb => ⟨by omega, fun hfb => (hc2.sub b hfb).2 (by rw [hH3]; right; omega)⟩), fun b hb => (kk.block b ?_ ?_).trans (hk2 b hb)⟩
              · have e := hk2 b hb
                have h5 := hH2' b hb
                rw [Array.getElem?_eq_getElem h5] at e
                exact (Array.getElem?_eq_some_iff.1 e).1
              · have := hH2' b hb
                omega
            · intro V hb hs
              exact ⟨_, fp7, rfl, (c9.holes ht (H' := H3) (fun b h => by rw [hH3] at h; exact h.imp id (fun e => by omega))).new ht hb.keepsNone, fun b hb2 => (hb.block b (by have := hH2' b hb2; omega)).trans (k92 b hb2)⟩
            · rintro pre2 z V ⟨ps2, fp2, hf2, hc2, hk2⟩ _ _ hsp2
              obtain ⟨q, hzq, hq1, hq2⟩ := hrg2 pre2 z hsp2
              have HF2 := Lib.hid hf2
              have ol2 := ol.inRound w9.heap.size
              refine WpAt.of ol2 ?_
              clear hf2
              gi_wp2
              refine ⟨fun _ _ _ => trivial, ?_⟩
              intro V2 kv hv
              have c10 := hc2.same ht kv (fun b hb => ⟨by omega, fun hfb => (hc2.sub b hfb).2 (by rw [hH3]; right; omega)⟩)
              have hlt : ∀ b, H2 b → b < V.heap.size := fun b hb => by
                have e := hk2 b hb
                rw [Array.getElem?_eq_getElem (hH2' b hb)] at e
                exact (Array.getElem?_eq_some_iff.1 e).1
              have k10 : ∀ b, H2 b → V2.drew.heap[b]? = W2.heap[b]? := fun b hb => (kv.block b (hlt b hb) (by have := hH2' b hb; omega)).trans (hk2 b hb)
              have hl2 : w9.heap.size < V2.heap.size := by
                obtain ⟨r, hr⟩ := hv
                exact (Array.getElem?_eq_some_iff.1 hr).1
              have hH3' : ∀ b, H3 b → b < V2.drew.heap.size := fun b hb => by
                rw [hH3] at hb
                rcases hb with hb | rfl
                · exact Nat.lt_of_lt_of_le (hlt b hb) kv.size
                · exact hl2
              have c11 := c10.same ht (Keeps.drew (fun _ => False) V2) (fun _ h => h.elim)
              obtain ⟨ci, zi⟩ := cell1 ((k10 ib hib).trans e6)
              obtain ⟨cb, zb⟩ := cell1 c11.eb
              rw [hRV] at cb
              have hz := z.2.1
              have hx4 : x.1.1 < 4 := by omega
              have hpg := wpage_ok x.1.1 z.1.1 hx4 hz
              have HK10 := Lib.hid k10
              have HLT := Lib.hid hlt
              clear c10 kv hv hk2 hc2 k10 hlt
              have hst : ∀ X, addS n (ps2.map Prod.fst) (q : Int) = X → foldP n x.1.1 (ps ++ [(y, -1)]) (pre2 ++ [z]) = X.map fun _ => ps2 ++ [(q, ((x.1.1 * 32 + z.1.1 : Nat) : Int))] := fun X hX => by
                rw [foldP_snoc, HF2.out, Option.bind_some]
                unfold stepP
                rw [hzq, hX, Int.toNat_natCast]
              generalize hQQ : bodyEnd w9.heap.size (w9.heap.size + 1) _ _ chT (pre2 ++ [z]) V2 = QQ
              have hN := fun (a : Act) (W' : World) (ps' : PL) (fp' : Nat → Prop) (e1 : foldP n x.1.1 (ps ++ [(y, -1)]) (pre2 ++ [z]) = some ps') (e2 : CI T w p RV fp (w.heap.size + 2) H3 ps' fp' W') (e3 : ∀ b, H3 b → W'.heap[b]? = V2.drew.heap[b]?) =>
                show QQ .normal a W' by
                  rw [← hQQ]
                  exact ⟨fun k a b => e3 k (by rw [hH3]; right; omega), ps', fp', e1, e2, fun b hb => (e3 b (by rw [hH3]; left; exact hb)).trans (HK10.out b hb)⟩
              have hP := fun (a : Act) (W' : World) (e0 : a.defers = []) (e1 : foldP n x.1.1 (ps ++ [(y, -1)]) (pre2 ++ [z]) = none) (e2 : Keeps fp w W') (e3 : ∀ b, H3 b → W'.heap[b]? = V2.drew.heap[b]?) =>
                show QQ (.panic chT) a W' by
                  rw [← hQQ]
                  exact ⟨rfl, e0, fun k a b => e3 k (by rw [hH3]; right; omega), e1, e2, fun b hb => (e3 b (by rw [hH3]; left; exact hb)).trans (HK10.out b hb)⟩
              have HQ := Lib.hid (show ∀ (c : List PanicEntry) (a : Act) (d : Option Tmp) (v : Value) (W : World), QQ (.panic c) (a.put d v) W → QQ (.panic c) a W by
                rw [← hQQ]
                intro c a d v W h
                cases d <;> exact h)
              have HN := Lib.hid hN
              have HP := Lib.hid hP
              have HST2 := Lib.hid hst
              have HH3 := Lib.hid hH3'
              clear hQQ hN hP hst hH3' hH1 hH2 hH3 hRV
              refine WpAt.block ol2 (WpAt.of ol2 ?_)
              refine wpIn_region_round (F := Fence.wide) w9.heap.size (by kernel_rfl) (by kernel_rfl) ?_
              refine wpAnyIn_take (i := 1) (v := .int .i64 (q : Int)) rfl rfl (by kernel_rfl) (by kernel_rfl) (by kernel_rfl) (fun _ _ _ h => HQ.out _ _ _ _ _ h) ⟨Or.inl ⟨by rfl, fun w => by go_simp⟩, fun _ => rfl⟩ ?_
              refine wpAnyIn_take (i := 3) (v := .int .i64 (z.1.1 : Int)) rfl rfl (by kernel_rfl) (by kernel_rfl) (by kernel_rfl) (fun _ _ _ h => HQ.out _ _ _ _ _ h) ⟨Or.inl ⟨by rfl, fun w => by go_simp⟩, fun _ => rfl⟩ ?_
              refine wpAnyIn_ready (rs := [0, 2]) (by kernel_rfl) (by simp) ?_
              refine AllReadyIn.cons rfl (fun K hK => ?_) (AllReadyIn.cons rfl (fun K hK => ?_) AllReadyIn.nil)
              all_goals
                go_simp
                refine hK _ _ ?_
                clear hK K
              · refine wpAnyIn_ready (rs := [2]) (by kernel_rfl) (by simp) ?_
                refine AllReadyIn.cons rfl (fun K hK => ?_) AllReadyIn.nil
                go_simp
                refine hK _ _ ?_
                clear hK K
                refine wpAnyIn_ready (rs := [4]) (by kernel_rfl) (by simp) ?_
                refine AllReadyIn.cons rfl (fun K hK => ?_) AllReadyIn.nil
                go_simp
                refine ⟨trivial, (callsIn_wide.2 (hpg _)).mono ?_⟩
                rintro e w' ⟨rfl, rfl⟩
                refine hK _ _ ?_
                clear hK K
                refine wpAnyIn_ready (rs := [5]) (by kernel_rfl) (by simp) ?_
                refine AllReadyIn.cons rfl (fun K hK => ?_) AllReadyIn.nil
                go_simp
                cases ha2 : addS n (ps2.map Prod.fst) (q : Int) with
                | none =>
                  refine ⟨trivial, (callsIn_wide.2 (ht.bad c11.t (by omega) (by omega) ha2)).mono ?_⟩
                  rintro e w12 ⟨rfl, b12⟩
                  exact HP.out _ _ rfl (by rw [HST2.out _ ha2]; rfl) (c11.k.trans b12.keeps) (fun b hb => b12.block b (HH3.out b hb))
                | some l1 =>
                  refine ⟨trivial, (callsIn_wide.2 (ht.ok c11.t ha2 ⟨by omega, by omega⟩)).mono ?_⟩
                  rintro e w12 ⟨rfl, fp12, t12, k12, s12⟩
                  refine hK _ _ ?_
                  refine wpAnyIn_done (by kernel_rfl) ?_ _
                  exact HN.out _ _ _ _ (by rw [HST2.out _ ha2]; rfl) (c11.took t12 k12 s12 HH3.out) (fun b hb => c11.hk k12 hb (HH3.out b hb))
              · refine wpAnyIn_ready (rs := [0, 4]) (by kernel_rfl) (by simp) ?_
                refine AllReadyIn.cons rfl (fun K hK => ?_) (AllReadyIn.cons rfl (fun K hK => ?_) AllReadyIn.nil)
                · go_simp
                  refine hK _ _ ?_
                  clear hK K
                  refine wpAnyIn_ready (rs := [4]) (by kernel_rfl) (by simp) ?_
                  refine AllReadyIn.cons rfl (fun K hK => ?_) AllReadyIn.nil
                  go_simp
                  refine ⟨trivial, (callsIn_wide.2 (hpg _)).mono ?_⟩
                  rintro e w' ⟨rfl, rfl⟩
                  refine hK _ _ ?_
                  clear hK K
                  refine wpAnyIn_ready (rs := [5]) (by kernel_rfl) (by simp) ?_
                  refine AllReadyIn.cons rfl (fun K hK => ?_) AllReadyIn.nil
                  go_simp
                  cases ha2 : addS n (ps2.map Prod.fst) (q : Int) with
                  | none =>
                    refine ⟨trivial, (callsIn_wide.2 (ht.bad c11.t (by omega) (by omega) ha2)).mono ?_⟩
                    rintro e w12 ⟨rfl, b12⟩
                    exact HP.out _ _ rfl (by rw [HST2.out _ ha2]; rfl) (c11.k.trans b12.keeps) (fun b hb => b12.block b (HH3.out b hb))
                  | some l1 =>
                    refine ⟨trivial, (callsIn_wide.2 (ht.ok c11.t ha2 ⟨by omega, by omega⟩)).mono ?_⟩
                    rintro e w12 ⟨rfl, fp12, t12, k12, s12⟩
                    refine hK _ _ ?_
                    refine wpAnyIn_done (by kernel_rfl) ?_ _
                    exact HN.out _ _ _ _ (by rw [HST2.out _ ha2]; rfl) (c11.took t12 k12 s12 HH3.out) (fun b hb => c11.hk k12 hb (HH3.out b hb))
                · go_simp
                  refine ⟨trivial, (callsIn_wide.2 (hpg _)).mono ?_⟩
                  rintro e w' ⟨rfl, rfl⟩
                  refine hK _ _ ?_
                  clear hK K
                  refine wpAnyIn_ready (rs := [0]) (by kernel_rfl) (by simp) ?_
                  refine AllReadyIn.cons rfl (fun K hK => ?_) AllReadyIn.nil
                  go_simp
                  refine hK _ _ ?_
                  clear hK K
                  refine wpAnyIn_ready (rs := [5]) (by kernel_rfl) (by simp) ?_
                  refine AllReadyIn.cons rfl (fun K hK => ?_) AllReadyIn.nil
                  go_simp
                  cases ha2 : addS n (ps2.map Prod.fst) (q : Int) with
                  | none =>
                    refine ⟨trivial, (callsIn_wide.2 (ht.bad c11.t (by omega) (by omega) ha2)).mono ?_⟩
                    rintro e w12 ⟨rfl, b12⟩
                    exact HP.out _ _ rfl (by rw [HST2.out _ ha2]; rfl) (c11.k.trans b12.keeps) (fun b hb => b12.block b (HH3.out b hb))
                  | some l1 =>
                    refine ⟨trivial, (callsIn_wide.2 (ht.ok c11.t ha2 ⟨by omega, by omega⟩)).mono ?_⟩
                    rintro e w12 ⟨rfl, fp12, t12, k12, s12⟩
                    refine hK _ _ ?_
                    refine wpAnyIn_done (by kernel_rfl) ?_ _
                    exact HN.out _ _ _ _ (by rw [HST2.out _ ha2]; rfl) (c11.took t12 k12 s12 HH3.out) (fun b hb => c11.hk k12 hb (HH3.out b hb))
            · rintro xs V rfl ⟨ps2, fp2, hf2, hc2, hk2⟩
              refine ⟨fun k a b => hk2 k ?_, ps2, fp2, by rw [HST.out]; exact hf2, hc2.holes ht (fun b h => ?_)⟩
              · rw [hH2, hH1]; left; omega
              · rw [hH3, hH2]; left; left; left; exact h
            · rintro xs V hp ⟨hf2, hc2, hk2⟩
              refine ⟨rfl, rfl, fun k a b => hk2 k ?_, by rw [HST.out]; exact foldP_none_pre hf2 hp, hc2⟩
              rw [hH2, hH1]; left; omega
      · rintro xs W rfl ⟨ps, fp', hf, hc⟩ hdf
        refine ⟨by simp, .inl ⟨w5.heap.size, _, rfl, run_takeDeferred hdf, ?_⟩⟩
        refine ⟨_, results_none rfl _ _ _, .inl ⟨ps, fp', by rw [HW.out]; exact hf, rfl, ?_⟩⟩
        have hh : w.heap.size + 2 ≤ w5.heap.size := c5.hi
        have c6 := hc.same ht (Keeps.putObj W w5.heap.size (.deferred none)) (fun b hb => by
          subst hb
          exact ⟨hh, fun hfb => (hc.sub _ hfb).2 (by rw [hH1]; omega)⟩)
        exact ⟨c6.t, c6.k, fun k hk => ((c6.sub k hk).1.imp (fun h => h.1) (fun h => by omega))⟩
      · rintro xs W hp ⟨hf, hk⟩ hdf
        refine ⟨by simp, .inl ⟨w5.heap.size, _, rfl, run_takeDeferred hdf, ?_⟩⟩
        refine .inr ⟨by rw [HW.out]; exact foldL_none_pre hf hp, rfl, ?_⟩
        have hh : w.heap.size + 2 ≤ w5.heap.size := c5.hi
        exact ⟨hk.os, hk.tape, hk.output, by simpa using hk.size, fun b hb hn => (World.putObj_heap_other (by omega)).trans (hk.block b hb hn)⟩
end Go.Proofs.YtebecpjecchfoaaGreatDoor
