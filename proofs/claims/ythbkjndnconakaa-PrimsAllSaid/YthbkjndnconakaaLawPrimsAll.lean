/-
  LawPrimsAll
-/
import Derived.Test.YthbkjndnconakaaGA
import Derived.ChangeOld
import Derived.Below
import Derived.Deep.QuietTactic
import Derived.BigQuiet
import Derived.WalkSmall
import Derived.Test.YthbkjndnconakaaPrAwake
namespace Go.Proofs.Ythbkjndnconakaa.primsAll
open Go.ChangeShapes Go.WideShapes Go.ChangeAt Go.RowKit Pr
set_option linter.unusedVariables false

theorem own : ownKnob Try.prog.godebug = none := by kernel_rfl
theorem laidOut : laidOutB Try.prog = true := by kernel_rfl

open Go.Shelf
attribute [local go_sem] Oper.semAt_some

theorem neqP (xs : List UInt8) (t l : Int) (b1 b2 : Bool) (w : World) : (binOp .neq 24 (.agg #[St xs, .int .i64 t, .int .i64 l, .bool b1, .bool b2]) (.agg #[St xs, .int .i64 t, .int .i64 l, .bool b1, .bool b2])).run Try.prog w = .ok (.bool false) w := by
  go_simp
/-- What the loops keep: the result, the count, the first loop's mark. -/
structure Sa (w : World) (kb j : Nat) (W : World) : Prop where
  res : Boxed W (w.heap.size + 1) 4 (.bool false)
  cnt : Boxed W kb 3 (.int .i64 (j : Int))
  stop : ∃ z : Int, Boxed W w.heap.size 3 (.int .i64 z)
  b : Below w.heap.size w W
  lt : w.heap.size + 1 < kb
theorem Sa.below {w : World} {kb j : Nat} {W W' : World} (h : Sa w kb j W) (k : Below W.heap.size W W') : Sa w kb j W' := by
  obtain ⟨h1, h2, ⟨z, h3⟩, h4, h5⟩ := h
  exact ⟨(k.block _ h1.lt).trans h1, (k.block _ h2.lt).trans h2, ⟨z, (k.block _ h3.lt).trans h3⟩, h4.trans (k.mono h4.size), h5⟩
theorem Sa.set {w : World} {kb j : Nat} {W : World} (h : Sa w kb j W) (i : Nat) : Sa w kb i (W.setCell ⟨kb, 0, none⟩ (.int .i64 (i : Int))) := by
  obtain ⟨h1, h2, ⟨z, h3⟩, h4, h5⟩ := h
  exact ⟨(Below.heap_setCell _ _ _ _ (by show w.heap.size + 1 ≠ kb; omega)).trans h1, h2.set _, ⟨z, (Below.heap_setCell _ _ _ _ (by show w.heap.size ≠ kb; omega)).trans h3⟩, h4.setCell (p := ⟨kb, 0, none⟩) (by show w.heap.size ≤ kb; omega) _, h5⟩
theorem sa_own (w : World) (kb : Nat) {B : Nat} (hB : w.heap.size ≤ B) (f : List PN → Nat) : OwnFrom B (fun pre W => Sa w kb (f pre) W) := fun pre W W' row ⟨h1, h2, ⟨z, h3⟩, h4, h5⟩ hg hr =>
  ⟨cells_kept h1 hg (fun r e => (hr r e).2), cells_kept h2 hg (fun r e => (hr r e).2), ⟨z, cells_kept h3 hg (fun r e => (hr r e).2)⟩, ownFrom_below (Nat.le_refl _) hB () W W' row h4 hg hr, h5⟩
/-- The second loop's besides. -/
def Sb (w : World) (kb D : Nat) (pre : List PN) (W : World) : Prop := Sa w kb pre.length W ∧ W.heap[D]? = some (.deferred (some []))
theorem sb_own (w : World) (kb D : Nat) {B : Nat} (hB : w.heap.size ≤ B) (hD : D < B) : OwnFrom B (Sb w kb D) := fun pre W W' row ⟨h1, h2⟩ hg hr =>
  ⟨sa_own w kb hB List.length pre W W' row h1 hg hr, old_kept h2 hD hg hr⟩
theorem Sb.below {w : World} {kb D : Nat} {pre : List PN} {W W' : World} (h : Sb w kb D pre W) (k : Below W.heap.size W W') : Sb w kb D pre W' := ⟨h.1.below k, (k.block _ (Array.getElem?_eq_some_iff.1 h.2).1).trans h.2⟩
theorem Sb.set {w : World} {kb D : Nat} {pre : List PN} {W : World} (h : Sb w kb D pre W) (x : PN) : Sb w kb D (pre ++ [x]) (W.setCell ⟨kb, 0, none⟩ (.int .i64 ((pre.length : Int) + 1))) := by
  have h1 := h.1.set (pre.length + 1)
  rw [show ((pre.length + 1 : Nat) : Int) = (pre.length : Int) + 1 from by omega] at h1
  have h2 := h.1.cnt
  refine ⟨by rw [List.length_append]; exact h1, (Below.heap_setCell _ _ _ _ ?_).trans h.2⟩
  intro e
  have h3 : W.heap[kb]? = some (.deferred (some [])) := by rw [← show D = kb from e]; exact h.2
  rw [show W.heap[kb]? = _ from h2] at h3
  cases h3
def actA (w : World) (kb : Nat) (a0 : Int) (b : Nat) (x : PN) : Act := { tmps := #[.int .i64 a0, .pointer (some ⟨w.heap.size, 0, none⟩), .pointer (some ⟨w.heap.size + 1, 0, none⟩), itp, .pointer (some ⟨kb, 0, none⟩), .int .i64 (x.1 : Int), .pointer (some ⟨b, 0, none⟩), undef, undef, undef, .bool true, .bool false, itp, itp, .bool false, itp, undef, undef, undef, undef, undef, undef, undef, itp, .int .i64 (x.1 : Int), pv (prAt x.1), undef, undef, undef, undef, undef, undef, undef, undef, undef, undef, undef, undef, undef, undef, undef, undef, undef, undef, undef, undef, undef, undef, undef, undef, undef, undef, undef, undef, undef, undef, undef, undef, undef, undef, undef, undef], defers := [] }
def MidA (w : World) (kb D : Nat) (A : Nat → PN → Act) (pre : List PN) (x : PN) (a : Act) (W : World) : Prop := ∃ b, a = A b x ∧ BoxP W b x ∧ Sb w kb D pre W ∧ pre.length < 141
theorem midA_own (w : World) (kb D : Nat) (A : Nat → PN → Act) (pre : List PN) (x : PN) {B : Nat} (hB : w.heap.size ≤ B) (hD : D < B) : OwnFrom B (MidA w kb D A pre x) := fun a W W' row ⟨b, e, h1, h2, h3⟩ hg hr =>
  ⟨b, e, cells_kept h1 hg (fun r e => (hr r e).2), sb_own w kb D hB hD pre W W' row h2 hg hr, h3⟩
/-- A number that isn't the next one. -/
def BadP (pre : List PN) : Prop := ∃ q y, pre = q ++ [y] ∧ (y : PN).1 ≠ q.length + 1
theorem badP_no (pre : List PN) (h : pre <+: numL) : ¬ BadP pre := by
  rintro ⟨q, y, rfl, hne⟩
  obtain ⟨t, ht⟩ := h
  have h1 : (numK 141)[q.length]? = some y := by
    show numL[q.length]? = some y
    rw [← ht, List.append_assoc, List.getElem?_append_right (Nat.le_refl _)]
    simp
  unfold numK at h1
  rw [List.getElem?_map] at h1
  by_cases hq : q.length < 141
  · rw [List.getElem?_range hq] at h1
    simp only [Option.map_some, Option.some.injEq] at h1
    exact hne (by rw [← h1]; exact pn_val _ hq)
  · rw [List.getElem?_eq_none (by simp; omega)] at h1
    cases h1
theorem numL_len : numL.length = 141 := numK_len 141

set_option maxRecDepth 100000 in
set_option maxHeartbeats 1000000 in
theorem walk (a0 : Int) (w : World) (w0 : (Lit.int .i64 a0).wf = true) :
    Calls Try.prog 6 #[.int .i64 a0] w fun e w' => e = .returned (.bool true) ∧ Below w.heap.size w w' := by
  have i0 := i64_of_wf w0
  refine (callsIn_wide (n := 8)).1 ?_
  refine callsIn_of_wp_marks Try.func6 rfl trivial ?_ rfl
  simp only [Try.ntmps6, List.size_toArray, List.length_cons, List.length_nil, Nat.reduceAdd, Nat.reduceSub, Array.replicate_succ, Array.replicate_zero, List.push_toArray, List.append_toArray, List.nil_append, List.cons_append]
  have x0 : Boxed ((w.alloc (.cells #[.int .i64 a0] 3)).alloc (.cells #[.bool false] 4)) w.heap.size 3 (.int .i64 a0) := (Boxed.new w 3 (.int .i64 a0)).alloc _
  have x1 : Boxed ((w.alloc (.cells #[.int .i64 a0] 3)).alloc (.cells #[.bool false] 4)) (w.heap.size + 1) 4 (.bool false) := by
    have := Boxed.new (w.alloc (.cells #[.int .i64 a0] 3)) 4 (.bool false)
    rwa [World.size_alloc] at this
  have k0 : Below w.heap.size w ((w.alloc (.cells #[.int .i64 a0] 3)).alloc (.cells #[.bool false] 4)) := ((Below.refl _ _).alloc (Nat.le_refl _) _).alloc (by simp) _
  have hsz : ((w.alloc (.cells #[.int .i64 a0] 3)).alloc (.cells #[.bool false] 4)).heap.size = w.heap.size + 1 + 1 := by simp
  have HA := Lib.hid (And.intro (And.intro x0 x1) (And.intro k0 hsz))
  clear x0 x1 k0 hsz
  gi_wp2
  generalize (w.alloc (.cells #[.int .i64 a0] 3)).alloc (.cells #[.bool false] 4) = wa at *
  refine ⟨trivial, ?_⟩
  refine (callsIn_wide.2 (awake_any wa)).mono ?_
  rintro e w1 ⟨rfl, b1⟩
  obtain ⟨⟨x0, x1⟩, k0, hsz⟩ := HA.out
  have y0 : Boxed w1 w.heap.size 3 (.int .i64 a0) := (b1.block _ x0.lt).trans x0
  have y1 : Boxed w1 (w.heap.size + 1) 4 (.bool false) := (b1.block _ x1.lt).trans x1
  have k1 := k0.trans (b1.mono k0.size)
  have hlt : w.heap.size + 1 < w1.heap.size := y1.lt
  have s0 : Sa w w1.heap.size 0 (w1.alloc (.cells #[.int .i64 0] 3)) := ⟨y1.alloc _, Boxed.new w1 3 (.int .i64 0), ⟨a0, y0.alloc _⟩, k1.alloc k1.size _, hlt⟩
  have HS := Lib.hid s0
  have HZ := Lib.hid (y0.alloc (.cells #[.int .i64 0] 3))
  have HL := Lib.hid (And.intro hlt (World.size_alloc w1 (.cells #[.int .i64 0] 3)))
  clear HA b1 x0 x1 k0 hsz y0 y1 k1 hlt s0
  gi_wp2
  refine ⟨trivial, ?_⟩
  refine (callsIn_wide.2 (all_any w1)).mono ?_
  rintro e w2 ⟨rfl, rfl⟩
  have hnf : ∀ (w : World), (binOp .eql 35 (.func (.func 23) #[] #[]) .nilFunc).run Try.prog w = .ok (.bool false) w := fun _ => rfl
  unfold itp
  gi_wp2
  clear hnf
  generalize w2.heap.size = kb at *
  generalize w2.alloc (.cells #[.int .i64 0] 3) = w3 at *
  refine wpIn_rangeFunc_ownF rfl (by omega) (gf := 23) (lb := #[]) rfl trivial (enters_of Try.func23 (by kernel_rfl) rfl)
    (all_stops _ (by omega) w3) (fun _ _ => trivial) (fun _ _ _ _ _ _ _ _ => trivial) (Below.refl _ _) (fun _ => rfl)
    (fun pre W => Sa w kb pre.length W)
    (fun c pre W => c = .exit 0 ∧ Sa w kb pre.length W)
    (sa_own w kb (by have := HL.out; omega) List.length)
    (fun c => OwnFrom.and (ownFrom_pure _ (fun _ => c = .exit 0)) (sa_own w kb (by have := HL.out; omega) List.length))
    HS.out
    (fun x => { tmps := #[.int .i64 a0, .pointer (some ⟨w.heap.size, 0, none⟩), .pointer (some ⟨w.heap.size + 1, 0, none⟩), itp, .pointer (some ⟨kb, 0, none⟩), undef, undef, undef, undef, undef, .bool true, .bool false, itp, itp, .bool false, itp, .int .i64 (x.1 : Int), pv (prAt x.1), undef, undef, undef, undef, undef, undef, undef, undef, undef, undef, undef, undef, undef, undef, undef, undef, undef, undef, undef, undef, undef, undef, undef, undef, undef, undef, undef, undef, undef, undef, undef, undef, undef, undef, undef, undef, undef, undef, undef, undef, undef, undef, undef, undef], defers := [] }) ?assign ?body ?done ?stop
  case assign =>
    intro l x W K hK
    gi_wp2
    exact hK
  case body =>
    rintro l pre x W hI hl
    obtain ⟨z, hz⟩ := hI.stop
    have hset := hI.set (pre.length + 1)
    rw [show ((pre.length + 1 : Nat) : Int) = (pre.length : Int) + 1 from by omega] at hset
    have hkl := hI.lt
    have hz2 : Boxed (W.setCell ⟨kb, 0, none⟩ (.int .i64 ((pre.length : Int) + 1))) w.heap.size 3 (.int .i64 z) := (Below.heap_setCell _ _ _ _ (by show w.heap.size ≠ kb; omega)).trans hz
    have c4 := hI.cnt.cell
    have f4 := hI.cnt.frozen
    have c1 := hz2.cell
    have c5 := hset.cnt.cell
    have wk : IntKind.i64.wrap ((pre.length : Int) + 1) = (pre.length : Int) + 1 := by simp only [IntKind.wrap, IntKind.bits, IntKind.signed, Bool.true_and]; split <;> simp_all <;> omega
    have HR := Lib.hid (show Sa w kb (pre ++ [x]).length _ from by rw [List.length_append]; exact hset)
    have HK := Lib.hid (KeepsOthers.setCell W ⟨kb, 0, none⟩ (.int .i64 ((pre.length : Int) + 1)))
    rw [show ((pre.length + 1 : Nat) : Int) = (pre.length : Int) + 1 from by omega] at c5
    clear hI hset hz hz2 hkl hl
    generalize (pre.length : Int) = m at *
    by_cases hzm : z ≤ m + 1
    · have d1 : decide (z ≤ m + 1) = true := by simpa using hzm
      clear hzm
      gi_wp2
      exact ⟨HK.out, rfl, HR.out⟩
    · have d1 : decide (z ≤ m + 1) = false := by simpa using hzm
      clear hzm
      gi_wp2
      exact ⟨HK.out, trivial, HR.out⟩
  case' done => rintro D pre W hD _ i2 hK
  case' stop => rintro D c pre W hD _ ⟨rfl, i2⟩ hK
  all_goals
    have hne : D ≠ kb := by
      intro e
      have h3 := i2.cnt
      rw [← e] at h3
      rw [show W.heap[D]? = _ from h3] at hK
      cases hK
    have hk2 : (W.setCell ⟨kb, 0, none⟩ (.int .i64 0)).heap[D]? = some (.deferred (some [])) := (Below.heap_setCell _ _ _ _ hne).trans hK
    have hs2 : Sb w kb D [] (W.setCell ⟨kb, 0, none⟩ (.int .i64 0)) := ⟨i2.set 0, hk2⟩
    have c4 := i2.cnt.cell
    have f4 := i2.cnt.frozen
    have hsz : D < W.heap.size := (Array.getElem?_eq_some_iff.1 hK).1
    have hw : w.heap.size ≤ W.heap.size := i2.b.size
    have HSB := Lib.hid hs2
    have HZZ := Lib.hid (And.intro (And.intro hsz hw) (World.size_setCell W ⟨kb, 0, none⟩ (.int .i64 0)))
    have hwD := hD
    have hws := HL.out
    have hwl := Nat.le_trans i2.b.size (Nat.le_refl _)
    have HWD := Lib.hid (show w.heap.size ≤ D from by omega)
    clear hne hk2 hs2 i2 hsz hw hK hD hwD hws hwl
    gi_wp2
    generalize W.setCell ⟨kb, 0, none⟩ (.int .i64 0) = w4 at *
    have hzz := HZZ.out
    refine wpIn_range_newG rfl (by omega) (gf := 23) (lb := #[]) rfl trivial (enters_of Try.func23 (by kernel_rfl) rfl)
      (all_stops _ (by omega) w4) (Below.refl _ _) (fun _ => rfl)
      (Sb w kb D) (fun _ pre _ => BadP pre) (MidA w kb D (actA w kb a0))
      (sb_own w kb D (by omega) (by omega)) (fun _ => ownFrom_pure _ _) (fun pre x => midA_own w kb D _ pre x (by omega) (by omega)) HSB.out ?assign2 ?body2 ?done2 ?stop2
    case assign2 =>
      intro y pre x V hi hl
      have hm : MidA w kb D (actA w kb a0) pre x (actA w kb a0 V.heap.size x) (V.alloc (.cells (pcl (prAt x.1)).toArray 24)) := ⟨_, rfl, heap_alloc_new V _, hi.below ((Below.refl _ _).alloc (Nat.le_refl _) _), hl⟩
      have hk := KeepsOthers.alloc V (.cells (pcl (prAt x.1)).toArray 24)
      unfold actA pv at hm
      obtain ⟨xs, t, l, b1, b2, hq⟩ : ∃ xs t l b1 b2, pcl (prAt x.1) = [St xs, .int .i64 t, .int .i64 l, .bool b1, .bool b2] := ⟨_, _, _, _, _, rfl⟩
      unfold encP pv
      rw [hq] at hm hk ⊢
      have HK := Lib.hid hk
      have HM := Lib.hid hm
      clear hi hl hk hm hq hzz
      gi_wp2
      exact ⟨HK.out, HM.out⟩
    case body2 =>
      rintro y pre x a V ⟨b, rfl, hp, hu, hl⟩
      have hx2 := x.2
      have hbk : b ≠ kb := by
        intro e
        have h3 := hu.1.cnt
        rw [← e] at h3
        have h5 := Option.some.inj ((show V.heap[b]? = some (.cells (pcl (prAt x.1)).toArray 24 (0, 0)) from hp).symm.trans h3)
        injection h5 with _ e2
        exact absurd e2 (by decide)
      have hset := hu.set x
      have hp1 : BoxP (V.setCell ⟨kb, 0, none⟩ (.int .i64 ((pre.length : Int) + 1))) b x := (Below.heap_setCell _ _ _ _ hbk).trans hp
      have hk1 := (KeepsOthers.setCell V ⟨kb, 0, none⟩ (.int .i64 ((pre.length : Int) + 1))).from w4.heap.size
      have c4 := hu.1.cnt.cell
      have f4 := hu.1.cnt.frozen
      have wk : IntKind.i64.wrap ((pre.length : Int) + 1) = (pre.length : Int) + 1 := by simp only [IntKind.wrap, IntKind.bits, IntKind.signed, Bool.true_and]; split <;> simp_all <;> omega
      have HP1 := Lib.hid hp1
      have HS1 := Lib.hid hset
      have HK1 := Lib.hid hk1
      have hof := fun W2 => rof_any (x.1 : Int) (by omega) W2
      rw [show isV (x.1 : Int) = true from by unfold isV; simp only [decide_eq_true_eq]; omega, show ofV (x.1 : Int) = prAt x.1 from by unfold ofV; rw [if_pos (by omega)]; rfl] at hof
      obtain ⟨xs, t, l, b1, b2, hxs, hq⟩ : ∃ xs t l b1 b2, xs = (prAt x.1).nm ∧ pcl (prAt x.1) = [St xs, .int .i64 t, .int .i64 l, .bool b1, .bool b2] := ⟨_, _, _, _, _, rfl, rfl⟩
      have hfd := fun W2 => find_any xs (by rw [hxs]; have := (small x.1 (by omega)).1; omega) W2
      have hup := find_up x.1 (by omega) (by omega)
      rw [← hxs] at hup
      unfold pv at hof
      rw [hq] at hof
      have HOF := Lib.hid hof
      have HFD := Lib.hid hfd
      have HUP := Lib.hid hup
      have HNE := Lib.hid (fun W => neqP xs t l b1 b2 W)
      have hphd : prH x.1 = decide (2 ≤ x.1 ∧ x.1 ≤ 11) := rfl
      unfold actA pv
      rw [hq]
      unfold BoxP at HP1
      rw [hq] at HP1
      have hxl : decide (x.1 = pre.length + 1) = true → x.1 = pre.length + 1 := of_decide_eq_true
      clear hp hu hbk hset hp1 hk1 hof hfd hup hxs hq hzz
      generalize hpl : (pre.length : Int) = m at *
      gi_wp2
      generalize V.setCell ⟨kb, 0, none⟩ (.int .i64 (m + 1)) = v1 at *
      have hlen : (((pre ++ [x]).length : Nat) : Int) = m + 1 := by rw [List.length_append, List.length_singleton]; omega
      have HLEN := Lib.hid hlen
      have HPL := Lib.hid hpl
      clear hlen hpl c4 f4 wk hxl hl
      refine ⟨trivial, (CallsIn.inRound y (callsIn_wide.2 (HOF.out _))).mono ?_⟩
      rintro e v3 ⟨rfl, b3⟩
      have b3' : Below v1.heap.size v1 (v3.alloc (.cells #[St xs, .int .i64 t, .int .i64 l, .bool b1, .bool b2] 24)) := b3.alloc b3.size _
      have hS3 := HS1.out.below b3'
      have c4 := hS3.1.cnt.cell
      rw [HLEN.out] at c4
      have r3 := hS3.1.res.cell
      have rf3 := hS3.1.res.frozen
      have hP3 : (v3.alloc (.cells #[St xs, .int .i64 t, .int .i64 l, .bool b1, .bool b2] 24)).heap[b]? = some (.cells #[St xs, .int .i64 t, .int .i64 l, .bool b1, .bool b2] 24 (0, 0)) := (b3'.block b (Array.getElem?_eq_some_iff.1 HP1.out).1).trans HP1.out
      obtain ⟨p0, p1, p2, p3, p4⟩ := cells5 hP3
      obtain ⟨q0, q1, q2, q3, q4⟩ := cells5 (heap_alloc_new v3 (.cells #[St xs, .int .i64 t, .int .i64 l, .bool b1, .bool b2] 24))
      have HK3 := Lib.hid (HK1.out.trans ((others_below b3').from w4.heap.size))
      have HS3 := Lib.hid hS3
      clear b3 b3' hS3 hP3 HS1 HK1 HP1
      have key : (decide ((2 : Int) ≤ (x.1 : Int)) = false ∧ prH x.1 = false) ∨ (decide ((2 : Int) ≤ (x.1 : Int)) = true ∧ decide ((x.1 : Int) ≤ 11) = true ∧ prH x.1 = true) ∨ (decide ((2 : Int) ≤ (x.1 : Int)) = true ∧ decide ((x.1 : Int) ≤ 11) = false ∧ prH x.1 = false) := by
        rw [hphd]
        simp only [decide_eq_true_eq, decide_eq_false_iff_not]
        omega
      have HBAD := Lib.hid (show (x.1 : Int) ≠ m + 1 → BadP (pre ++ [x]) from fun h => ⟨pre, x, rfl, by have := HPL.out; omega⟩)
      clear hphd hx2
      generalize hxi : (x.1 : Int) = n at *
      rcases key with ⟨t2, hh⟩ | ⟨t2, t11, hh⟩ | ⟨t2, t11, hh⟩
      all_goals
        have tf : ((findN (upL xs) : Int) == n) = !(prH x.1) := by
          have hu := HUP.out
          rw [Bool.eq_iff_iff, beq_iff_eq, ← hxi, Bool.not_eq_true', ← hu]
          omega
        rw [hh] at tf
        clear hh
        by_cases hn : n = m + 1
        · have d1 : (n != m + 1) = false := by simpa using hn
          clear hn hxi
          generalize hfi : (findN (upL xs) : Int) = fi at *
          gi_wp2_with (first
            | ((with_reducible refine atIn_ (op := .binOp .neq 24 (.tmp 47) (.tmp 48) 24) ?_); refine wpListIn_val rfl (by intro c h; cases h) rfl _ (ex_bin_agg .neq 24 24 (.tmp 47) (.tmp 48) rfl _ _ _ rfl rfl guardP (HNE.out _)) ?_))
          refine ⟨trivial, (CallsIn.inRound y (callsIn_wide.2 (HFD.out _))).mono ?_⟩
          rintro e v5 ⟨rfl, b5⟩
          have HE := Lib.hid (And.intro (HK3.out.trans ((others_below b5).from w4.heap.size)) (HS3.out.below b5))
          clear b5
          gi_wp2
          exact ⟨HE.out.1, trivial, HE.out.2⟩
        · have d1 : (n != m + 1) = true := by simpa using hn
          have HB2 := Lib.hid (HBAD.out hn)
          clear hn hxi tf
          have HK4 := Lib.hid (HK3.out.trans ((KeepsOthers.setCell _ ⟨w.heap.size + 1, 0, none⟩ (.bool false)).from w4.heap.size))
          gi_wp2
          refine ⟨trivial, ?_⟩
          gi_wp2
          exact ⟨HK4.out, HB2.out⟩
    case done2 =>
      rintro D2 ys V hD2 rfl hsb hK2
      have c4 := hsb.1.cnt.cell
      rw [numL_len] at c4
      have r4 := hsb.1.res.cell
      have rf4 := hsb.1.res.frozen
      have x1 := hsb.1.res.set (.bool true)
      have k5 := hsb.1.b.setCell (p := ⟨w.heap.size + 1, 0, none⟩) (by show w.heap.size ≤ w.heap.size + 1; omega) (.bool true)
      have d2 := (KeepsOthers.setCell V ⟨w.heap.size + 1, 0, none⟩ (.bool true)).same D2 _ hK2 rfl
      have d1 := (KeepsOthers.setCell V ⟨w.heap.size + 1, 0, none⟩ (.bool true)).same D _ hsb.2 rfl
      have hD1 := HZZ.out
      have hWD := HWD.out
      have HX := Lib.hid (And.intro (And.intro x1 k5) (And.intro d2 d1))
      clear x1 k5 d2 d1 hsb hzz
      gi_wp2
      obtain ⟨⟨x1, k5⟩, d2, d1⟩ := HX.out
      generalize V.setCell ⟨w.heap.size + 1, 0, none⟩ (.bool true) = V1 at *
      have hne : D2 ≠ D := by omega
      have g2 := grownBy_putObj' V1 D2 (.deferred none)
      have d1' := (g2.block D (Array.getElem?_eq_some_iff.1 d1).1 (fun e => hne (by cases e; rfl))).trans d1
      have x2 : Boxed (V1.putObj D2 (.deferred none)) (w.heap.size + 1) 4 (.bool true) := cells_kept x1 g2 (fun r e => by cases e; exact ⟨_, d2, rfl⟩)
      have k6 := k5.trans (belowK_b (w := w) (Nat.le_refl _) V1 D2 _ (.deferred none) (by omega) d2 rfl rfl)
      generalize hV2 : V1.putObj D2 (.deferred none) = V2 at *
      have g3 := grownBy_putObj' V2 D (.deferred none)
      have x3 : Boxed (V2.putObj D (.deferred none)) (w.heap.size + 1) 4 (.bool true) := cells_kept x2 g3 (fun r e => by cases e; exact ⟨_, d1', rfl⟩)
      have k7 := k6.trans (belowK_b (w := w) (Nat.le_refl _) V2 D _ (.deferred none) (by omega) d1' rfl rfl)
      refine ⟨by simp, .inl ⟨D2, _, rfl, run_takeDeferred d2, ⟨by simp, .inl ⟨D, _, rfl, run_takeDeferred (by rw [hV2]; exact d1'), ?_⟩⟩⟩⟩
      rw [hV2]
      have cx := x3.cell
      refine ⟨.bool true, ?_, rfl, k7⟩
      simp [results, Try.f6, go_sem, cx]
    case stop2 =>
      rintro D2 c pre V hD2 hpre hbad _
      exact absurd hbad (badP_no pre hpre)

set_option maxRecDepth 100000 in
theorem lifted (os : Os) (started : os.Started) (H : Type) (enc : TypeId × Value → H) :
    ReturnsInHanded {} Try.checked os 6 .any (Rows.primsAllSpec.pre6 enc Try.prog Try.f6 Rows.primsAllRow.domain false) (Rows.primsAllSpec.post enc Try.prog Try.f6 false true false false) := by
  refine returnsInHanded_of_change_sized (C := Try.checked) own started (by kernel_rfl) Try.func6
    (ChangeSpec.witness6 (enc := enc) (C := Try.checked) false ⟨#[], #[.int .i64 0], []⟩ 8 (by kernel_rfl) (by kernel_rfl) (by kernel_rfl) (by kernel_rfl)) ?_
  intro W base args ds gs before hval0 hW _ hsz0 _
  have hsz : (DataW.weightsEach Try.prog (Try.f6.params.toList ++ Rows.primsAllSpec.plain.varTypes Try.prog) (ds ++ gs)).all (· ≤ reachBytes) = true := hsz0
  clear hsz0
  have hval : ∀ (j : Nat) t v, Try.f6.params[j]? = some t → args[j]? = some v → Value.okWide Try.prog W .any base t v := hval0
  have hW' := hW
  obtain ⟨p, q, hA0, hV, rfl, _, _⟩ := hW
  have hA : DataW.TrodAll enc Try.prog W 0 (fun _ => true) true Try.f6.params.toList args.toList ds p := hA0
  rw [Try.params6] at hA hval hsz
  obtain ⟨v0, vs0, d0, ds0, p0, q0, hargs, rfl, rfl, h0, r0⟩ := trodAll_cons hA
  obtain ⟨rfl, rfl, rfl⟩ := trodAll_nil r0
  obtain rfl : args = #[v0] := by cases args; simp_all
  obtain ⟨rfl, rfl⟩ := trodVars_none hV
  obtain ⟨a0, rfl, rfl, rfl, w0⟩ := open_int Try.underlying3 (hval 0 3 v0 rfl rfl) h0
  clear hA0 hval0
  refine (walk a0 W w0).mono fun e W' ⟨he, bel⟩ => ?_
  subst he
  exact ⟨_, rfl, _, _, _, [], _, [], hW', trodAll_mk1 (shut_bool Try.underlying4 _), (trodAll_cons_mk (shut_int Try.underlying3 w0) trodAll_mk0), rfl, bel.frame _, fun h => by cases h⟩

theorem proved : Rows.PrimsAllSaid :=
  OpenClaim.holds_of_wide 6 Try.f6 rfl rfl rfl rfl rfl rfl rfl ⟨rfl, rfl, rfl, rfl, rfl⟩ rfl rfl rfl rfl rfl (by kernel_rfl) Try.func6 (by kernel_rfl)
    (of_decide_eq_true (by kernel_rfl)) (by unfold Func.isWrapper; first | (rw [if_pos (by decide +kernel)]; kernel_rfl) | (rw [if_neg (by decide +kernel)]; exact ⟨rfl, rfl⟩))
    (fun os started H enc _ => lifted os started H enc)
#print axioms proved
end Go.Proofs.Ythbkjndnconakaa.primsAll
