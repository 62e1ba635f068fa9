/-
  The contract of the document's Flush.
-/
import Derived.Test.YthbdhmjmboliiaaRDWrite
import Derived.StillTailTactics
namespace Go.Proofs.Ythbdhmjmboliiaa
open Go.RowKit

/-- Nothing waits any more. -/
theorem RDat.clear {w : World} {F : Nat → Prop} {p n : Nat} {sv wv : Value} {svs : List Value} {ws : List (Nat × Value)} {D : DSt} (h : RDat w F p n sv wv svs ws D) :
    RDat (w.setCell ⟨p, 1, none⟩ (.slice none 0 0)) F p n sv (.slice none 0 0) svs [] { D with Q := [] } := by
  have ap := h.apart
  have k : Keeps (· = p) w (w.setCell ⟨p, 1, none⟩ (.slice none 0 0)) := Keeps.setCell _ _ _ _ rfl
  refine ⟨⟨h.ok.len, h.ok.n_le, (fun q hq => by cases hq), h.ok.lo, h.ok.hi⟩, ?_, ownsRow_keepS h.own fun b e => k.block b (h.slt e) (fun eb => ap.1 (by rw [← eb]; exact e)), World.ownsRow_nil _ _ _ _, fun i hi => ?_, rfl, fun j q hq => by simp at hq, h.fp, h.fs, fun g e => by cases e⟩
  · rw [heap_setCell_same w p 1 _ _ _ h.head]; rfl
  · obtain ⟨v, e, s⟩ := h.secs i hi
    refine ⟨v, e, (s.keep k fun b _ hp e2 => hp.2 (Or.inl e2)).mono fun b _ hp => ⟨hp.1, fun hx => ?_⟩⟩
    rcases hx with e1 | e1 | e1
    · exact hp.2 (Or.inl e1)
    · exact hp.2 (Or.inr (Or.inl e1))
    · cases e1
/-- The disk with the first k writes laid. -/
def layD (D : DSt) (f : Fate) (k : Nat) : DSt := { D with L := layTo f D.L D.Q k }
theorem layD_succ (D : DSt) (f : Fate) (k : Nat) (h : k < D.Q.length) : layD D f (k + 1) = { layD D f k with L := layOne f k D.Q[k] (layD D f k).L } := by
  unfold layD
  rw [layTo_succ _ _ _ _ h]
theorem layOne_all (k : Nat) (q : Nat × List UInt8) (L : List UInt8) : layOne fAll k q L = splice L (q.1 * 64) q.2 := by
  have e1 : ((k : Int) == fAll.torn) = false := by rw [beq_eq_false_iff_ne]; show (k : Int) ≠ -1; omega
  unfold layOne
  rw [e1, if_neg (by simp), if_pos (stay_all k)]
set_option maxHeartbeats 2000000 in
theorem rflush_ok {w : World} {F : Nat → Prop} {p n : Nat} {sv wv : Value} {svs : List Value} {ws : List (Nat × Value)} {D : DSt} (h : RDat w F p n sv wv svs ws D) (hd : D.down = false) (hleft : D.left ≠ 0) (hQ : D.Q.length ≤ 1954687338212) (ha : D.acts ≤ 1000000000000000) :
    Calls Try.prog 28 #[.pointer (some ⟨p, 0, none⟩)] w (RWrote w F p (D.spent.settle fAll) 0) := by
  obtain ⟨A', cap', hv⟩ := h.wvf
  subst hv
  obtain ⟨_, _, _, d3, _⟩ := h.c
  rw [hd] at d3
  have he : D.actErr = 0 := by unfold DSt.actErr; rw [if_neg hleft]
  have hsQ := DSt.spent_Q D
  have ract := ract_any h ha
  rw [he] at ract
  have HR := Lib.hid ract
  have HFP := Lib.hid h.fp
  have HFS := Lib.hid h.fs
  have hpl := h.plt
  have HSL := Lib.hid (fun b e => h.slt (b := b) e)
  rw [← hsQ] at hQ
  clear ract he hd hleft ha h
  generalize hD1 : D.spent = D1 at *
  rw [← hsQ] at HR
  clear hsQ hD1
  go_enter Try.func28, Try.ntmps28
  go_wp2_with fail
  refine HR.out.mono ?_
  rintro e w1 ⟨rfl, h1, k1⟩
  obtain ⟨_, d1, _⟩ := h1.c
  clear HR d3
  go_wp2_with fail
  clear d1
  have KW := Lib.hid (k1.mono (G := F) fun b _ e => by rw [e]; exact HFP.out)
  have hsz := k1.size
  clear k1
  go_loopw [20, 5] (fun t _ wr => ∃ (k : Nat) (svs' : List Value), k ≤ D1.Q.length ∧ t = .int .i64 (k : Int) ∧ RDat wr F p n sv (.slice A' D1.Q.length cap') svs' ws (layD D1 fAll k) ∧ Keeps F w wr) (fun t _ _ => D1.Q.length - (intOf t).toNat)
  case atStart => exact ⟨0, svs, by omega, rfl, h1, KW.out⟩
  case round =>
    clear h1 KW
    obtain ⟨k, svs', hk, rfl, hr, kw⟩ := hrel
    by_cases hlt : k < D1.Q.length
    · obtain ⟨g, cap2, v, hv, e0, e1, sw⟩ := hr.wat k hlt
      have hv' := hv
      cases hv
      change wr.cell? _ = some (.int .i64 (D1.Q[k].1 : Int)) at e0
      change SL wr _ v D1.Q[k].2 at sw
      obtain ⟨R1, c1, rfl, _, _⟩ := sw.br
      have hq := (hr.ok.q _ (List.getElem_mem hlt))
      change D1.Q[k].1 < n ∧ D1.Q[k].2.length = 64 at hq
      have ka : Keeps (fun _ => False) wr (wr.alloc (.cells #[.int .i64 (D1.Q[k].1 : Int), .slice R1 64 c1] 79)).drew := (Keeps.alloc _ _ _).trans (Keeps.drew _ _)
      have hrA := hr.same ka
      have swA := sw.keep ka fun _ _ _ h => h
      obtain ⟨gs, cap3, R2, c2, hsv, s1, s2, _, _⟩ := hrA.at_ D1.Q[k].1 hq.1
      have hgs : sv.ownBlock = some gs := by rw [hsv]; rfl
      have a0 : (wr.alloc (.cells #[.int .i64 (D1.Q[k].1 : Int), .slice R1 64 c1] 79)).drew.cell? ⟨wr.heap.size, 0, none⟩ = some (.int .i64 (D1.Q[k].1 : Int)) := by
        show (wr.alloc _).cell? _ = _
        rw [cell_of_row _ _ _ _ _ _ (heap_alloc_new wr _)]; rfl
      have a1 : (wr.alloc (.cells #[.int .i64 (D1.Q[k].1 : Int), .slice R1 64 c1] 79)).drew.cell? ⟨wr.heap.size, 1, none⟩ = some (.slice R1 64 c1) := by
        show (wr.alloc _).cell? _ = _
        rw [cell_of_row _ _ _ _ _ _ (heap_alloc_new wr _)]; rfl
      obtain ⟨hfin, kfin⟩ := hrA.store D1.Q[k].1 hq.1 gs hgs (.slice R1 64 c1) D1.Q[k].2 swA
      have hfin2 : RDat ((wr.alloc (.cells #[.int .i64 (D1.Q[k].1 : Int), .slice R1 64 c1] 79)).drew.setCell ⟨gs, D1.Q[k].1, none⟩ (.slice R1 64 c1)) F p n sv (.slice (some ⟨g, 0, none⟩) D1.Q.length cap') (svs'.set D1.Q[k].1 (.slice R1 64 c1)) ws (layD D1 fAll (k + 1)) := by
        rw [layD_succ _ _ _ hlt, layOne_all]
        exact hfin
      have kfin2 : Keeps F w ((wr.alloc (.cells #[.int .i64 (D1.Q[k].1 : Int), .slice R1 64 c1] 79)).drew.setCell ⟨gs, D1.Q[k].1, none⟩ (.slice R1 64 c1)) := (kw.trans (ka.mono fun _ _ h => h.elim)).trans (kfin.mono fun b _ e => HFS.out b e)
      have HF2 := Lib.hid hfin2
      have HK2 := Lib.hid kfin2
      obtain ⟨dd0, _⟩ := hrA.c
      have hn0 : D1.Q[k].1 < n := hq.1
      subst hsv
      clear hfin hfin2 kfin kfin2 swA sw hgs hq ka hrA hr kw hv'
      generalize D1.Q[k].1 = x at *
      go_wp2_with fail
      refine wp_region_still_tail 8 (by kernel_rfl) (by kernel_rfl) ?_
      simp only [List.take_succ_cons, List.take_zero, List.drop_succ_cons, List.drop_zero]
      change wpStill _ _ (wr.alloc (.cells #[.int .i64 (x : Int), .slice R1 64 c1] 79)).drew (fun a' => wpList _ _ _ _ a' (wr.alloc (.cells #[.int .i64 (x : Int), .slice R1 64 c1] 79)).drew) _ _
      generalize (wr.alloc (.cells #[.int .i64 (x : Int), .slice R1 64 c1] 79)).drew = w6 at *
      still_step
      still_step
      still_step
      still_step
      still_step
      still_step
      still_step
      still_step
      refine wpStill_nil ?_
      go_wp2_with fail
      go_roundw
      case rel => exact ⟨k + 1, _, by omega, by go_num, HF2.out, HK2.out⟩
      case measure => simp [intOf]; omega
    · obtain rfl : k = D1.Q.length := by omega
      have hc := hr.clear
      obtain ⟨_, e1, _, _, _, fz⟩ := hr.c
      have fz1 := fz 1
      have HFIN := Lib.hid (show RWrote w F p (D1.settle fAll) 0 (.returned (.int .i64 0)) (wr.setCell ⟨p, 1, none⟩ (.slice none 0 0)) from ⟨rfl, ⟨n, sv, _, _, _, hc.mono fun _ _ h => Or.inl h⟩, kw.trans (Keeps.setCell _ _ _ _ HFP.out)⟩)
      clear fz hc hr kw
      go_wp2_with fail
      go_ret
      exact HFIN.out
theorem rflush_any {w : World} {F : Nat → Prop} {p : Nat} {D : DSt} (h : RD w F p D) (hQ : D.Q.length ≤ 1954687338212) (ha : D.acts ≤ 1000000000000000) :
    Calls Try.prog 28 #[.pointer (some ⟨p, 0, none⟩)] w (RWrote w F p D.flush D.flushErr) := by
  have h0 := h
  obtain ⟨n, sv, wv, svs, ws, h⟩ := h
  obtain ⟨_, _, _, d3, _⟩ := h.c
  cases hd : D.down with
  | true =>
    have e1 : D.flush = D := by unfold DSt.flush; rw [if_pos hd]
    have e2 : D.flushErr = 20 := by unfold DSt.flushErr; rw [if_pos hd]
    rw [e1, e2]
    rw [hd] at d3
    have HS := Lib.hid (rwrote_same (err := 20) h0)
    clear e1 e2 h hd h0
    go_enter Try.func28, Try.ntmps28
    go_wp2_with fail
    go_ret
    exact HS.out
  | false =>
    by_cases hl : D.left = 0
    · have e1 : D.flush = D.spent := by unfold DSt.flush; rw [if_neg (by rw [hd]; simp), if_pos hl]
      have e2 : D.flushErr = 20 := by unfold DSt.flushErr DSt.actErr; rw [if_neg (by rw [hd]; simp), if_pos hl]
      have he : D.actErr = 20 := by unfold DSt.actErr; rw [if_pos hl]
      rw [hd] at d3
      have ract := ract_any h ha
      rw [he] at ract
      have HR := Lib.hid ract
      have HW : Hid (∀ w', RDat w' F p n sv wv svs ws D.spent → Keeps (· = p) w w' → RWrote w F p D.spent 20 (.returned (.int .i64 20)) w') := fun w' h1 k1 => ⟨rfl, ⟨n, sv, wv, svs, ws, h1.mono fun _ _ h => Or.inl h⟩, k1.mono fun b _ e => by rw [e]; exact h.fp⟩
      rw [e1, e2]
      clear e1 e2 he ract hl hd h h0
      go_enter Try.func28, Try.ntmps28
      go_wp2_with fail
      refine HR.out.mono ?_
      rintro e w1 ⟨rfl, h1, k1⟩
      have HX := Lib.hid (HW.out w1 h1 k1)
      clear h1 k1 HR
      go_wp2_with fail
      go_ret
      exact HX.out
    · have e1 : D.flush = D.spent.settle fAll := by unfold DSt.flush; rw [if_neg (by rw [hd]; simp), if_neg hl]
      have e2 : D.flushErr = 0 := by unfold DSt.flushErr DSt.actErr; rw [if_neg (by rw [hd]; simp), if_neg hl]
      rw [e1, e2]
      exact rflush_ok h hd hl hQ ha
end Go.Proofs.Ythbdhmjmboliiaa
