/-
  Whatever is held, dropped and taken: behind each call the free sectors and the held ones together are all of them, and the held ones are told once each, rising, none of them a root's.
  Conditions: none of our own; what the row itself says of its inputs (they can be read as data, each slice within the form's own reach), and that the table behind bits.TrailingZeros64 holds what the library's text lays there, which the card ties.
-/
import Derived.Test.YtajagjhhpciocaaDoorCards
import Derived.Test.YtajagjhhpciocaaDoorTie
import Derived.WalkKit
import Derived.ProofKit
import Derived.OpenShut
import Derived.Deep.DeepHandedRow
import Derived.Lib.LaidTab
import Derived.ChangeOld
import Derived.Below
import Derived.Deep.QuietTactic
import Derived.BigQuiet
import Derived.WalkSmall
import Derived.Test.YtajagjhhpciocaaDoorSpActIn
namespace Go.Proofs.YtajagjhhpciocaaDoor.spaceEach
open Go.ChangeShapes Go.WideShapes Go.ChangeAt Go.RowKit Sp
set_option linter.unusedVariables false

theorem own : ownKnob Tryd.prog.godebug = none := by kernel_rfl
theorem laidOut : laidOutB Tryd.prog = true := by kernel_rfl

theorem upto_zero (n : Nat) : Upto 0 (List.replicate n 0) := fun c hc => by
  rw [List.mem_replicate] at hc
  omega
/-- One of the three calls. -/
def stepC (cs : List Nat) (a : ActV) : List Nat := if a.do_ = 0 then holdC cs a.n else if a.do_ = 1 then dropC cs a.n else takeC cs
theorem stepC_len (cs : List Nat) (a : ActV) : (stepC cs a).length = cs.length := by
  unfold stepC
  split
  · exact len_hold cs a.n
  · split
    · exact len_drop cs a.n
    · exact len_take cs
theorem upto_step {m : Nat} {cs : List Nat} (h : Upto m cs) (a : ActV) : Upto (m + 1) (stepC cs a) := by
  unfold stepC
  split
  · exact h.hold a.n
  · split
    · exact h.drop a.n
    · exact h.take
set_option maxRecDepth 100000 in

set_option maxHeartbeats 1000000 in
theorem walk (a0 : Int) (A1 : Option Addr) (l1 : List ActV) (c1 : Nat) (w : World) (w0 : (Lit.int .i64 a0).wf = true) (o1 : AR w w.heap.size A1 l1) (m1 : l1.length ≤ 8796093021952) (hT : Tab w) :
    Calls Tryd.prog 4 #[.int .i64 a0, .slice A1 l1.length c1] w fun e w' => e = .returned (.bool true) ∧ Below w.heap.size w w' := by
  have hn64 := i64_of_wf w0
  have AROF : Hid (∀ W, Below w.heap.size w W → AR W w.heap.size A1 l1) := fun W hb => o1.below hb
  by_cases h1 : 300 < a0
  · skip
    go_enter Tryd.func4, Tryd.ntmps4
    go_wp2_with fail
    refine (awake_any _ hT).mono ?_
    rintro e w1 ⟨rfl, b1⟩
    go_wp2_with fail
    go_ret
    exact ⟨rfl, b1⟩
  by_cases h3 : 200 < l1.length
  · skip
    go_enter Tryd.func4, Tryd.ntmps4
    go_wp2_with fail
    refine (awake_any _ hT).mono ?_
    rintro e w1 ⟨rfl, b1⟩
    go_wp2_with fail
    go_ret
    exact ⟨rfl, b1⟩
  have h5 : l1.length ≤ 200 := by omega
  clear h3
  go_enter Tryd.func4, Tryd.ntmps4
  go_wp2_with fail
  refine (awake_any _ hT).mono ?_
  rintro e w1 ⟨rfl, b1⟩
  have T1 := hT.below b1 hT.pos
  have hp1 := T1.pos
  go_wp2_with fail
  refine (new_any a0 w1).mono ?_
  rintro e w2 ⟨p, rfl, m2, b2⟩
  have M2 := Lib.hid m2
  have K2 := Lib.hid ((keeps_below b2).mono (G := fun i => w1.heap.size ≤ i) fun _ _ h => h.elim)
  have s1 := b2.size
  have B1 := Lib.hid b1
  have hn : nS a0 = a0.toNat := by unfold nS; omega
  rw [hn] at M2
  clear m2 b1 b2 hn
  go_wp2_with fail
  go_loopw [25] (fun i wr => ∃ (k : Nat) (cs : List Nat), k ≤ l1.length ∧ i = .int .i64 (k : Int) ∧ Upto k cs ∧ cs.length = a0.toNat ∧ MapS wr w1.heap.size w2.heap.size p cs ∧ Keeps (fun i => w1.heap.size ≤ i) w1 wr ∧ w2.heap.size ≤ wr.heap.size) (fun i _ => l1.length - (intOf i).toNat)
  case atStart => exact ⟨0, List.replicate a0.toNat 0, by omega, rfl, upto_zero _, by simp, M2.out, K2.out, Nat.le_refl _⟩
  case round =>
    clear M2 K2
    obtain ⟨k, cs, hk, rfl, up, hcl, mr, kr, sr⟩ := hrel
    have bw : Below w.heap.size w wr := B1.out.trans ((kr.toBelow w1.heap.size (Nat.le_refl _) fun _ h => h).mono B1.out.size)
    by_cases hlt : k < l1.length
    · obtain ⟨ad, rfl, hlb, d0, d1⟩ := (AROF.out wr bw).at_ hlt
      have hsz := bw.size
      have T4 := T1.keeps kr (by omega)
      generalize l1[k] = a at *
      have kA : Keeps (fun _ => False) wr (wr.alloc (.cells #[.int .i64 a.do_, .int .i64 a.n] 29)) := Keeps.alloc _ _ _
      have mA := mr.keep kA (fun _ _ _ h => h)
      have TA := T4.keeps kA (fun h => h)
      have KA : Keeps (fun i => w1.heap.size ≤ i) w1 (wr.alloc (.cells #[.int .i64 a.do_, .int .i64 a.n] 29)) := kr.trans (kA.mono fun _ _ h => h.elim)
      have sA := kA.size
      have HU := Lib.hid (upto_step up a)
      have hcl2 : (stepC cs a).length = a0.toNat := (stepC_len cs a).trans hcl
      have HC := Lib.hid hcl2
      have hh := hold_s mA a.n up (by omega)
      have hd := drop_s mA a.n up (by omega)
      have ht := take_s mA TA up (by omega)
      have KAH := Lib.hid KA
      have hst : (a.do_ = 0 → stepC cs a = holdC cs a.n) ∧ (a.do_ = 1 → stepC cs a = dropC cs a.n) ∧ (a.do_ ≠ 0 → a.do_ ≠ 1 → stepC cs a = takeC cs) := by
        unfold stepC
        refine ⟨fun e => by rw [if_pos e], fun e => by rw [if_neg (by omega), if_pos e], fun e f => by rw [if_neg e, if_neg f]⟩
      obtain ⟨q0, q1, q2⟩ := hst
      clear hcl2 mr kr up bw T4 kA mA TA KA hcl
      have hcase : a.do_ = 0 ∨ a.do_ = 1 ∨ (a.do_ ≠ 0 ∧ a.do_ ≠ 1) := by omega
      rcases hcase with h | h | h
      · rw [h] at d0 hh hd ht KAH sA
        have HS := Lib.hid hh
        have EQ : Hid (holdC cs a.n = stepC cs a) := (q0 h).symm
        clear hh hd ht q0 q1 q2
        go_wp2_with fail
        generalize wr.alloc (.cells #[.int .i64 0, .int .i64 a.n] 29) = wA at *
        refine HS.out.mono ?_
        rintro e w5 ⟨rfl, m5, k5⟩
        have M5 : Hid (MapS w5 w1.heap.size w2.heap.size p (stepC cs a)) := EQ.out ▸ m5
        have K5 := Lib.hid (KAH.out.trans (k5.mono (G := fun i => w1.heap.size ≤ i) fun _ _ h => h.1))
        have s5 := k5.size
        clear m5 k5 HS KAH EQ d0 d1
        generalize hcs : stepC cs a = ds at *
        clear hcs
        have HU5 := Lib.hid (used_s M5.out)
        go_wp2_with fail
        refine HU5.out.mono ?_
        rintro e w6 ⟨R, c, rfl, ir, b6⟩
        have M6 := Lib.hid (M5.out.below b6)
        have K6 := Lib.hid (K5.out.trans ((keeps_below b6).mono fun _ _ h => h.elim))
        have HF := Lib.hid (free_s M6.out)
        have IRH := Lib.hid ir
        have hnu := nfree_used ds
        rw [HC.out] at hnu
        have hmem : ∀ (j : Nat) (hj : j < (usedOf ds ds.length).length), 2 ≤ (usedOf ds ds.length)[j] ∧ (usedOf ds ds.length)[j] < ds.length := fun j hj => by
          have := usedOf_mem (List.getElem_mem hj)
          exact ⟨this.1, this.2.1⟩
        have hris : ∀ (i j : Nat) (hi : i < (usedOf ds ds.length).length) (hj : j < (usedOf ds ds.length).length), i < j → (usedOf ds ds.length)[i] < (usedOf ds ds.length)[j] := List.pairwise_iff_getElem.1 (usedOf_rise ds ds.length)
        have HMEM := Lib.hid hmem
        have HRIS := Lib.hid hris
        have s6 := b6.size
        have hdl := HC.out
        clear hmem hris ir b6 M5 K5 HU5
        rw [hdl] at HMEM HRIS IRH ⊢
        generalize usedOf ds a0.toNat = u at *
        generalize hnf : nfree ds = f at *
        clear hnf hdl
        go_wp2_with fail
        refine HF.out.mono ?_
        rintro e w' ⟨rfl, rfl⟩
        have HU2 := HU.out
        have HUH := Lib.hid HU2
        have K6H := Lib.hid K6.out
        clear HF HU2 HU K6
        obtain ⟨wo, rfl⟩ : ∃ wo : World, wo = wr := ⟨_, rfl⟩
        have hM : (a0 < 2 ∧ ((f : Int) + (u.length : Int) != 0) = false) ∨ (2 ≤ a0 ∧ ((f : Int) + (u.length : Int) != a0 - 2) = false) := by
          by_cases ha : a0 < 2
          · refine Or.inl ⟨ha, ?_⟩
            simp only [bne_eq_false_iff_eq]
            omega
          · refine Or.inr ⟨by omega, ?_⟩
            simp only [bne_eq_false_iff_eq]
            omega
        have hul : u.length ≤ 300 := by omega
        have hfl : f ≤ 300 := by omega
        clear hnu
        rcases hM with ⟨ha, ht⟩ | ⟨ha, ht⟩
        all_goals
          go_wp2_with fail
          clear ht
          go_loopw [58, 9] (fun i _ wr => ∃ j : Nat, j ≤ u.length ∧ i = .int .i64 (j : Int) ∧ Below w6.heap.size w6 wr) (fun i _ _ => u.length - (intOf i).toNat)
          case atStart => exact ⟨0, by omega, rfl, Below.refl _ _⟩
          case round =>
            obtain ⟨j, hj, rfl, bel⟩ := hrel
            by_cases hjl : j < u.length
            · obtain ⟨g, rfl, hg, ex⟩ := (IRH.out.below bel).at_ hjl
              obtain ⟨x2, xn⟩ := HMEM.out j hjl
              have BEL := Lib.hid bel
              have tx : decide ((u[j] : Int) < 2) = false := by rw [decide_eq_false_iff_not]; omega
              have tn : decide (a0 ≤ (u[j] : Int)) = false := by rw [decide_eq_false_iff_not]; omega
              by_cases hj0 : j = 0
              · subst hj0
                generalize u[0] = x at *
                clear bel
                go_wp2_with fail
                go_quiet (fail)
                go_wp2_with fail
                go_roundw
                case rel => exact ⟨0 + 1, by omega, by go_num, BEL.out.trans ⟨rfl, rfl, rfl, Nat.le_refl _, fun _ _ => rfl⟩⟩
                case measure => simp [intOf]; omega
              · have hj1 : j - 1 < u.length := by omega
                obtain ⟨g', e', hg', ey⟩ := (IRH.out.below bel).at_ hj1
                cases e'
                have hlt2 := HRIS.out (j - 1) j hj1 hjl (by omega)
                have ty : decide (u[j] ≤ u[j - 1]) = false := by rw [decide_eq_false_iff_not]; omega
                have ty2 : decide ((u[j] : Int) ≤ (u[j - 1] : Int)) = false := by rw [decide_eq_false_iff_not]; omega
                have tp : decide (0 < (j : Int)) = true := by rw [decide_eq_true_iff]; omega
                have tp2 : decide (0 < j) = true := by rw [decide_eq_true_iff]; omega
                have tp3 : 0 < j := by omega
                have q1 : IntKind.i64.wrap ((j : Int) - 1) = (j : Int) - 1 := IntWalk.i64_in _ (by omega)
                have q2 : (0 : Int) ≤ (j : Int) - 1 := by omega
                have q2' : (1 : Int) ≤ (j : Int) := by omega
                have q3 : (j : Int) - 1 < (u.length : Int) := by omega
                have q4 : ((j : Int) - 1).toNat = j - 1 := by omega
                generalize u[j - 1] = y at *
                generalize u[j] = x at *
                clear bel
                go_wp2_with fail
                go_quiet (fail)
                clear q1 q2 q2' q3 q4 tp tp2 tp3 ty ty2
                go_wp2_with fail
                go_roundw
                case rel => exact ⟨j + 1, by omega, by go_num, BEL.out.trans ⟨rfl, rfl, rfl, Nat.le_refl _, fun _ _ => rfl⟩⟩
                case measure => simp [intOf]; omega
            · have BEL := Lib.hid bel
              have kB : Keeps (fun _ => False) w6 wr := keeps_below bel
              have M7 := Lib.hid (M6.out.keep kB (fun _ _ _ h => h))
              have K7 := Lib.hid (K6H.out.trans (kB.mono fun _ _ h => h.elim))
              have s7 := bel.size
              clear bel kB
              go_wp2_with fail
              go_roundw
              case rel => exact ⟨k + 1, ds, by omega, by go_num, HUH.out, HC.out, M7.out, K7.out, by omega⟩
              case measure => simp [intOf]; omega
      · rw [h] at d0 hh hd ht KAH sA
        have HS := Lib.hid hd
        have EQ : Hid (dropC cs a.n = stepC cs a) := (q1 h).symm
        clear hh hd ht q0 q1 q2
        go_wp2_with fail
        generalize wr.alloc (.cells #[.int .i64 1, .int .i64 a.n] 29) = wA at *
        refine HS.out.mono ?_
        rintro e w5 ⟨rfl, m5, k5⟩
        have M5 : Hid (MapS w5 w1.heap.size w2.heap.size p (stepC cs a)) := EQ.out ▸ m5
        have K5 := Lib.hid (KAH.out.trans (k5.mono (G := fun i => w1.heap.size ≤ i) fun _ _ h => h.1))
        have s5 := k5.size
        clear m5 k5 HS KAH EQ d0 d1
        generalize hcs : stepC cs a = ds at *
        clear hcs
        have HU5 := Lib.hid (used_s M5.out)
        go_wp2_with fail
        refine HU5.out.mono ?_
        rintro e w6 ⟨R, c, rfl, ir, b6⟩
        have M6 := Lib.hid (M5.out.below b6)
        have K6 := Lib.hid (K5.out.trans ((keeps_below b6).mono fun _ _ h => h.elim))
        have HF := Lib.hid (free_s M6.out)
        have IRH := Lib.hid ir
        have hnu := nfree_used ds
        rw [HC.out] at hnu
        have hmem : ∀ (j : Nat) (hj : j < (usedOf ds ds.length).length), 2 ≤ (usedOf ds ds.length)[j] ∧ (usedOf ds ds.length)[j] < ds.length := fun j hj => by
          have := usedOf_mem (List.getElem_mem hj)
          exact ⟨this.1, this.2.1⟩
        have hris : ∀ (i j : Nat) (hi : i < (usedOf ds ds.length).length) (hj : j < (usedOf ds ds.length).length), i < j → (usedOf ds ds.length)[i] < (usedOf ds ds.length)[j] := List.pairwise_iff_getElem.1 (usedOf_rise ds ds.length)
        have HMEM := Lib.hid hmem
        have HRIS := Lib.hid hris
        have s6 := b6.size
        have hdl := HC.out
        clear hmem hris ir b6 M5 K5 HU5
        rw [hdl] at HMEM HRIS IRH ⊢
        generalize usedOf ds a0.toNat = u at *
        generalize hnf : nfree ds = f at *
        clear hnf hdl
        go_wp2_with fail
        refine HF.out.mono ?_
        rintro e w' ⟨rfl, rfl⟩
        have HU2 := HU.out
        have HUH := Lib.hid HU2
        have K6H := Lib.hid K6.out
        clear HF HU2 HU K6
        obtain ⟨wo, rfl⟩ : ∃ wo : World, wo = wr := ⟨_, rfl⟩
        have hM : (a0 < 2 ∧ ((f : Int) + (u.length : Int) != 0) = false) ∨ (2 ≤ a0 ∧ ((f : Int) + (u.length : Int) != a0 - 2) = false) := by
          by_cases ha : a0 < 2
          · refine Or.inl ⟨ha, ?_⟩
            simp only [bne_eq_false_iff_eq]
            omega
          · refine Or.inr ⟨by omega, ?_⟩
            simp only [bne_eq_false_iff_eq]
            omega
        have hul : u.length ≤ 300 := by omega
        have hfl : f ≤ 300 := by omega
        clear hnu
        rcases hM with ⟨ha, ht⟩ | ⟨ha, ht⟩
        all_goals
          go_wp2_with fail
          clear ht
          go_loopw [58, 9] (fun i _ wr => ∃ j : Nat, j ≤ u.length ∧ i = .int .i64 (j : Int) ∧ Below w6.heap.size w6 wr) (fun i _ _ => u.length - (intOf i).toNat)
          case atStart => exact ⟨0, by omega, rfl, Below.refl _ _⟩
          case round =>
            obtain ⟨j, hj, rfl, bel⟩ := hrel
            by_cases hjl : j < u.length
            · obtain ⟨g, rfl, hg, ex⟩ := (IRH.out.below bel).at_ hjl
              obtain ⟨x2, xn⟩ := HMEM.out j hjl
              have BEL := Lib.hid bel
              have tx : decide ((u[j] : Int) < 2) = false := by rw [decide_eq_false_iff_not]; omega
              have tn : decide (a0 ≤ (u[j] : Int)) = false := by rw [decide_eq_false_iff_not]; omega
              by_cases hj0 : j = 0
              · subst hj0
                generalize u[0] = x at *
                clear bel
                go_wp2_with fail
                go_quiet (fail)
                go_wp2_with fail
                go_roundw
                case rel => exact ⟨0 + 1, by omega, by go_num, BEL.out.trans ⟨rfl, rfl, rfl, Nat.le_refl _, fun _ _ => rfl⟩⟩
                case measure => simp [intOf]; omega
              · have hj1 : j - 1 < u.length := by omega
                obtain ⟨g', e', hg', ey⟩ := (IRH.out.below bel).at_ hj1
                cases e'
                have hlt2 := HRIS.out (j - 1) j hj1 hjl (by omega)
                have ty : decide (u[j] ≤ u[j - 1]) = false := by rw [decide_eq_false_iff_not]; omega
                have ty2 : decide ((u[j] : Int) ≤ (u[j - 1] : Int)) = false := by rw [decide_eq_false_iff_not]; omega
                have tp : decide (0 < (j : Int)) = true := by rw [decide_eq_true_iff]; omega
                have tp2 : decide (0 < j) = true := by rw [decide_eq_true_iff]; omega
                have tp3 : 0 < j := by omega
                have q1 : IntKind.i64.wrap ((j : Int) - 1) = (j : Int) - 1 := IntWalk.i64_in _ (by omega)
                have q2 : (0 : Int) ≤ (j : Int) - 1 := by omega
                have q2' : (1 : Int) ≤ (j : Int) := by omega
                have q3 : (j : Int) - 1 < (u.length : Int) := by omega
                have q4 : ((j : Int) - 1).toNat = j - 1 := by omega
                generalize u[j - 1] = y at *
                generalize u[j] = x at *
                clear bel
                go_wp2_with fail
                go_quiet (fail)
                clear q1 q2 q2' q3 q4 tp tp2 tp3 ty ty2
                go_wp2_with fail
                go_roundw
                case rel => exact ⟨j + 1, by omega, by go_num, BEL.out.trans ⟨rfl, rfl, rfl, Nat.le_refl _, fun _ _ => rfl⟩⟩
                case measure => simp [intOf]; omega
            · have BEL := Lib.hid bel
              have kB : Keeps (fun _ => False) w6 wr := keeps_below bel
              have M7 := Lib.hid (M6.out.keep kB (fun _ _ _ h => h))
              have K7 := Lib.hid (K6H.out.trans (kB.mono fun _ _ h => h.elim))
              have s7 := bel.size
              clear bel kB
              go_wp2_with fail
              go_roundw
              case rel => exact ⟨k + 1, ds, by omega, by go_num, HUH.out, HC.out, M7.out, K7.out, by omega⟩
              case measure => simp [intOf]; omega
      · obtain ⟨h0, h1'⟩ := h
        have e0 : (a.do_ == 0) = false := by simpa using h0
        have e1 : (a.do_ == 1) = false := by simpa using h1'
        have HS := Lib.hid ht
        have EQ : Hid (takeC cs = stepC cs a) := (q2 h0 h1').symm
        clear hh hd ht q0 q1 q2
        go_wp2_with fail
        generalize wr.alloc (.cells #[.int .i64 a.do_, .int .i64 a.n] 29) = wA at *
        refine HS.out.mono ?_
        rintro e w5 ⟨rfl, m5, k5⟩
        have M5 : Hid (MapS w5 w1.heap.size w2.heap.size p (stepC cs a)) := EQ.out ▸ m5
        have K5 := Lib.hid (KAH.out.trans (k5.mono (G := fun i => w1.heap.size ≤ i) fun _ _ h => h.1))
        have s5 := k5.size
        clear m5 k5 HS KAH EQ d0 d1
        generalize hcs : stepC cs a = ds at *
        clear hcs
        have HU5 := Lib.hid (used_s M5.out)
        go_wp2_with fail
        refine HU5.out.mono ?_
        rintro e w6 ⟨R, c, rfl, ir, b6⟩
        have M6 := Lib.hid (M5.out.below b6)
        have K6 := Lib.hid (K5.out.trans ((keeps_below b6).mono fun _ _ h => h.elim))
        have HF := Lib.hid (free_s M6.out)
        have IRH := Lib.hid ir
        have hnu := nfree_used ds
        rw [HC.out] at hnu
        have hmem : ∀ (j : Nat) (hj : j < (usedOf ds ds.length).length), 2 ≤ (usedOf ds ds.length)[j] ∧ (usedOf ds ds.length)[j] < ds.length := fun j hj => by
          have := usedOf_mem (List.getElem_mem hj)
          exact ⟨this.1, this.2.1⟩
        have hris : ∀ (i j : Nat) (hi : i < (usedOf ds ds.length).length) (hj : j < (usedOf ds ds.length).length), i < j → (usedOf ds ds.length)[i] < (usedOf ds ds.length)[j] := List.pairwise_iff_getElem.1 (usedOf_rise ds ds.length)
        have HMEM := Lib.hid hmem
        have HRIS := Lib.hid hris
        have s6 := b6.size
        have hdl := HC.out
        clear hmem hris ir b6 M5 K5 HU5
        rw [hdl] at HMEM HRIS IRH ⊢
        generalize usedOf ds a0.toNat = u at *
        generalize hnf : nfree ds = f at *
        clear hnf hdl
        go_wp2_with fail
        refine HF.out.mono ?_
        rintro e w' ⟨rfl, rfl⟩
        have HU2 := HU.out
        have HUH := Lib.hid HU2
        have K6H := Lib.hid K6.out
        clear HF HU2 HU K6
        obtain ⟨wo, rfl⟩ : ∃ wo : World, wo = wr := ⟨_, rfl⟩
        have hM : (a0 < 2 ∧ ((f : Int) + (u.length : Int) != 0) = false) ∨ (2 ≤ a0 ∧ ((f : Int) + (u.length : Int) != a0 - 2) = false) := by
          by_cases ha : a0 < 2
          · refine Or.inl ⟨ha, ?_⟩
            simp only [bne_eq_false_iff_eq]
            omega
          · refine Or.inr ⟨by omega, ?_⟩
            simp only [bne_eq_false_iff_eq]
            omega
        have hul : u.length ≤ 300 := by omega
        have hfl : f ≤ 300 := by omega
        clear hnu
        rcases hM with ⟨ha, ht⟩ | ⟨ha, ht⟩
        all_goals
          go_wp2_with fail
          clear ht
          go_loopw [58, 9] (fun i _ wr => ∃ j : Nat, j ≤ u.length ∧ i = .int .i64 (j : Int) ∧ Below w6.heap.size w6 wr) (fun i _ _ => u.length - (intOf i).toNat)
          case atStart => exact ⟨0, by omega, rfl, Below.refl _ _⟩
          case round =>
            obtain ⟨j, hj, rfl, bel⟩ := hrel
            by_cases hjl : j < u.length
            · obtain ⟨g, rfl, hg, ex⟩ := (IRH.out.below bel).at_ hjl
              obtain ⟨x2, xn⟩ := HMEM.out j hjl
              have BEL := Lib.hid bel
              have tx : decide ((u[j] : Int) < 2) = false := by rw [decide_eq_false_iff_not]; omega
              have tn : decide (a0 ≤ (u[j] : Int)) = false := by rw [decide_eq_false_iff_not]; omega
              by_cases hj0 : j = 0
              · subst hj0
                generalize u[0] = x at *
                clear bel
                go_wp2_with fail
                go_quiet (fail)
                go_wp2_with fail
                go_roundw
                case rel => exact ⟨0 + 1, by omega, by go_num, BEL.out.trans ⟨rfl, rfl, rfl, Nat.le_refl _, fun _ _ => rfl⟩⟩
                case measure => simp [intOf]; omega
              · have hj1 : j - 1 < u.length := by omega
                obtain ⟨g', e', hg', ey⟩ := (IRH.out.below bel).at_ hj1
                cases e'
                have hlt2 := HRIS.out (j - 1) j hj1 hjl (by omega)
                have ty : decide (u[j] ≤ u[j - 1]) = false := by rw [decide_eq_false_iff_not]; omega
                have ty2 : decide ((u[j] : Int) ≤ (u[j - 1] : Int)) = false := by rw [decide_eq_false_iff_not]; omega
                have tp : decide (0 < (j : Int)) = true := by rw [decide_eq_true_iff]; omega
                have tp2 : decide (0 < j) = true := by rw [decide_eq_true_iff]; omega
                have tp3 : 0 < j := by omega
                have q1 : IntKind.i64.wrap ((j : Int) - 1) = (j : Int) - 1 := IntWalk.i64_in _ (by omega)
                have q2 : (0 : Int) ≤ (j : Int) - 1 := by omega
                have q2' : (1 : Int) ≤ (j : Int) := by omega
                have q3 : (j : Int) - 1 < (u.length : Int) := by omega
                have q4 : ((j : Int) - 1).toNat = j - 1 := by omega
                generalize u[j - 1] = y at *
                generalize u[j] = x at *
                clear bel
                go_wp2_with fail
                go_quiet (fail)
                clear q1 q2 q2' q3 q4 tp tp2 tp3 ty ty2
                go_wp2_with fail
                go_roundw
                case rel => exact ⟨j + 1, by omega, by go_num, BEL.out.trans ⟨rfl, rfl, rfl, Nat.le_refl _, fun _ _ => rfl⟩⟩
                case measure => simp [intOf]; omega
            · have BEL := Lib.hid bel
              have kB : Keeps (fun _ => False) w6 wr := keeps_below bel
              have M7 := Lib.hid (M6.out.keep kB (fun _ _ _ h => h))
              have K7 := Lib.hid (K6H.out.trans (kB.mono fun _ _ h => h.elim))
              have s7 := bel.size
              clear bel kB
              go_wp2_with fail
              go_roundw
              case rel => exact ⟨k + 1, ds, by omega, by go_num, HUH.out, HC.out, M7.out, K7.out, by omega⟩
              case measure => simp [intOf]; omega
    · obtain rfl : k = l1.length := by omega
      have BW := Lib.hid bw
      clear mr kr up bw
      go_wp2_with fail
      go_ret
      exact ⟨rfl, BW.out⟩

theorem gTab : Tryd.prog.globalNamed "math/bits.deBruijn64tab" = some 0 := by kernel_rfl
theorem gTabType : (Tryd.prog.globals[0]?).map (·.type) = some 60 := by kernel_rfl
theorem cellsT : Tryd.prog.cellsOf 60 = 64 := by kernel_rfl
theorem cellsE : Tryd.prog.cellsOf 5 = 1 := by kernel_rfl
/-- What the row's list gives: the table. -/
theorem table {W : World} (h : laidMetH Tryd.prog Rows.spaceEachRow.laid W) : Tab W := by
  have ht : Lib.TabIs Tryd.prog W "math/bits.deBruijn64tab" .u8 (Lib.deBruijn64tab.map fun (x : Nat) => (x : Int)) :=
    Lib.tabIs_of_head (rest := []) gTab gTabType Tryd.underlying60 Tryd.underlying5 cellsE cellsT h
  intro j hj
  have := ht.cell gTab j (by simpa using hj)
  rw [this]
  simp [List.getD_eq_getElem?_getD, List.getElem?_map, List.getElem?_eq_getElem hj]

set_option maxRecDepth 100000 in
theorem contract (H : Type) (enc : TypeId × Value → H) (W : World) (base : Nat) (args : Array Value) (ds gs : List (DataW H)) (before : List MemPlace)
    (hval : ∀ (j : Nat) t v, Tryd.f4.params[j]? = some t → args[j]? = some v → Value.okWide Tryd.prog W .any base t v)
    (hW : DataW.Whole enc Tryd.prog Tryd.f4.params.toList Rows.spaceEachSpec.vars false W args.toList ds gs before)
    (hsz : (DataW.weightsEach Tryd.prog (Tryd.f4.params.toList ++ Rows.spaceEachSpec.plain.varTypes Tryd.prog) (ds ++ gs)).all (· ≤ reachBytes) = true)
    (hL : laidMetH Tryd.prog Rows.spaceEachRow.laid W) :
    Calls Tryd.prog 4 args W fun e W' => ∃ v, e = .returned v ∧ Rows.spaceEachSpec.post enc Tryd.prog Tryd.f4 false true false false W args v W' := by
  have hT := table hL
  have hW' := hW
  obtain ⟨p, q, hA0, hV, rfl, _, _⟩ := hW
  have hA : DataW.TrodAll enc Tryd.prog W 0 (fun _ => true) true Tryd.f4.params.toList args.toList ds p := hA0
  rw [Tryd.params4] at hA hval hsz
  obtain ⟨v0, vs0, d0, ds0, p0, q0, hargs, rfl, rfl, h0, r0⟩ := trodAll_cons hA
  obtain ⟨v1, vs1, d1, ds1, p1, q1, rfl, rfl, rfl, h1, r1⟩ := trodAll_cons r0
  obtain ⟨rfl, rfl, rfl⟩ := trodAll_nil r1
  obtain rfl : args = #[v0, v1] := by cases args; simp_all
  obtain ⟨rfl, rfl⟩ := trodVars_none hV
  obtain ⟨a0, rfl, rfl, rfl, w0⟩ := open_int Tryd.underlying3 (hval 0 3 v0 rfl rfl) h0
  obtain ⟨A1, len1, c1, rfl⟩ := okWide_slice Tryd.underlying22 (hval 1 22 v1 rfl rfl)
  have k1 := h1
  have lt1 : ∀ x ∈ p1, x.block < W.heap.size := by obtain ⟨m, hm⟩ := k1; exact DataW.trod_lt m _ _ _ hm
  obtain ⟨l1, rfl, o1, s1⟩ := acts_in h1
  have m1 := s1 _ _ 1 hsz rfl rfl
  clear hA0
  refine (walk a0 A1 l1 c1 W w0 o1 m1 hT).mono fun e W' ⟨he, bel⟩ => ?_
  subst he
  exact ⟨_, rfl, _, _, _, [], _, [], hW', trodAll_mk1 (shut_bool Tryd.underlying4 _), (trodAll_cons_mk (shut_int Tryd.underlying3 w0) (trodAll_cons_mk (Below.trod laidOut (by kernel_rfl) (of_decide_eq_true (by kernel_rfl)) k1 bel lt1) trodAll_mk0)), rfl, bel.frame _, fun h => by cases h⟩

/-- A world for the witness: the settled one, the table (block 0) holding what its initialiser lays. -/
noncomputable def laidWorld (os : Os) : World :=
  { World.holding Tryd.prog os ⟨#[], #[], []⟩ with heap := (World.holding Tryd.prog os ⟨#[], #[], []⟩).heap.modify 0 fun
      | .cells _ t frozen => .cells (Lib.deBruijn64tab.map fun (x : Nat) => Value.int .u8 (x : Int)).toArray t frozen
      | o => o }
theorem laid_met (os : Os) : laidMet Tryd.prog Rows.spaceEachRow.laid ((laidWorld os).forCall (fun _ _ => 0) ⟨#[], #[.int .i64 0, .slice none 0 0], []⟩).memory :=
  laidMet_of_run' 8 (by kernel_rfl) (by kernel_rfl)
theorem reads (os : Os) {H : Type} (enc : TypeId × Value → H) : ∃ places, DataW.whole enc Tryd.prog ((laidWorld os).forCall (fun _ _ => 0) ⟨#[], #[.int .i64 0, .slice none 0 0], []⟩).memory Tryd.f4.params.toList Rows.spaceEachSpec.vars false (#[.int .i64 0, .slice none 0 0] : Array Value).toList 8 = some ([.lit (.int .i64 0), .nil], [], places) :=
  ⟨[], by kernel_rfl⟩
set_option maxRecDepth 100000 in
theorem lifted (os : Os) (started : os.Started) (H : Type) (enc : TypeId × Value → H) (F : Stop.Interp) :
    ReturnsInHanded {} Tryd.checked os 4 .any ((OpenSpec.ofChange Rows.spaceEachSpec).preRow enc Tryd.prog Tryd.f4 Rows.spaceEachRow.domain false Rows.spaceEachRow.laid) (((OpenSpec.ofChange Rows.spaceEachSpec).at F).post enc Tryd.prog Tryd.f4 false true false false) := by
  obtain ⟨places, hx⟩ := reads os enc
  refine returnsInHanded_of_row (C := Tryd.checked) (s := OpenSpec.ofChange Rows.spaceEachSpec) own started (by kernel_rfl) Tryd.func4
    (witness_row_at (enc := enc) (C := Tryd.checked) false (laidWorld os) #[.int .i64 0, .slice none 0 0] rfl (by kernel_rfl) (by kernel_rfl) (by kernel_rfl)
      (OpenSpec.preRow_of_cond 8 hx (by kernel_rfl) (fun k hk => by cases hk) (by kernel_rfl) (laid_met os))) ?_
  intro W base args ds gs before hval hW _ _ hsz hL _ _
  exact contract H enc W base args ds gs before hval hW hsz hL

theorem said : Rows.SpaceEachSaid :=
  OpenClaim.holds_of_cond 4 Tryd.f4 rfl rfl rfl rfl rfl rfl rfl ⟨rfl, rfl, rfl, rfl, rfl⟩ rfl rfl rfl rfl rfl (by kernel_rfl) Tryd.func4 (by kernel_rfl)
    (of_decide_eq_true (by kernel_rfl)) (by unfold Func.isWrapper; first | (rw [if_pos (by decide +kernel)]; kernel_rfl) | (rw [if_neg (by decide +kernel)]; exact ⟨rfl, rfl⟩))
    (fun os started H enc _ F => by rw [OpenClaim.pre_eq_preRow]; exact lifted os started H enc F)
theorem plain (f : FuncId) (fn : Func) (hf : Tryd.pinned.checked.prog.funcNamed "carrel/carrellaw05.SpaceEach" = some f) (hfn : Tryd.pinned.checked.prog.funcs[f]? = some fn) :
    false = Tryd.pinned.checked.prog.looks [] ∧ ∀ (j : Nat) t, fn.params[j]? = some t → Tryd.pinned.checked.prog.wantsStandIn t = false := by
  obtain rfl : f = 4 := Option.some.inj ((show Tryd.prog.funcNamed "carrel/carrellaw05.SpaceEach" = some 4 by kernel_rfl).symm.trans hf) |>.symm
  obtain rfl : fn = Tryd.f4 := (Option.some.inj (Tryd.func4.symm.trans hfn)).symm
  refine ⟨by kernel_rfl, fun j t ht => ?_⟩
  rw [Tryd.params4] at ht
  have h : t = 3 ∨ t = 22 := by simpa using Array.mem_of_getElem? ht
  rcases h with rfl | rfl <;> (show Tryd.prog.wantsStandIn _ = false; kernel_rfl)
theorem proved : Rows.SpaceEachCardSaid :=
  Claim7.holds_tied_plain_at .later [] _ _ _ _ said (fun _ h => by cases h) (by kernel_rfl) (fun _ h => by cases h) spaceEach_row_tie rfl ⟨rfl, rfl⟩ (by kernel_rfl) rfl plain (by kernel_rfl)
#print axioms proved
end Go.Proofs.YtajagjhhpciocaaDoor.spaceEach
