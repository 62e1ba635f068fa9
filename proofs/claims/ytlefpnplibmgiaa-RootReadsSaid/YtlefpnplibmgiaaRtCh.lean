/-
  The contracts of root.Choose and of the document's Choose.
-/
import Derived.Test.YtlefpnplibmgiaaRtDec
import Derived.Test.YtlefpnplibmgiaaRtSame
namespace Go.Proofs.Ytlefpnplibmgiaa
open Go.RowKit

/-- Which of two counts: 0 none, 1 the second, 2 the first. -/
def chW (a b : List UInt8) : Nat := if decB a = false ∧ decB b = false then 0 else if decB a = false ∨ (decB b = true ∧ genOf a < genOf b) then 1 else 2
def chB (a b : List UInt8) : List UInt8 := if chW a b = 1 then b else a
def chN (a b : List UInt8) : Int := if chW a b = 1 then 1 else 0
def chE (a b : List UInt8) : Int := if chW a b = 0 then 30 else 0
/-- What Choose hands back. -/
def GivesCh (w : World) (a b : List UInt8) (e : Ending) (w' : World) : Prop :=
  ∃ R c, e = .returned (.tuple #[agR (decG (chB a b)) R (decS (chB a b)).length c, .int .i64 (chN a b), .int .i64 (chE a b)]) ∧ SR w' w'.heap.size R (decS (chB a b)) ∧ Below w.heap.size w w'
theorem decE_is (b : List UInt8) : (decB b = true ∧ decE b = 0) ∨ (decB b = false ∧ decE b = 30) := by
  unfold decE
  cases decB b
  · right; simp
  · left; simp
/-- The result's cells, all that was there. -/
structure ChInv (w wr : World) : Prop where
  res : wr.heap[w.heap.size]? = some (.cells #[.int .u64 0, .slice none 0 0] 25 (0, 0))
  bel : Below w.heap.size w wr
theorem ChInv.lt {w wr : World} (h : ChInv w wr) : w.heap.size < wr.heap.size := (Array.getElem?_eq_some_iff.1 h.res).1
theorem ChInv.alloc {w wr : World} (h : ChInv w wr) (o : Obj) : ChInv w (wr.alloc o) := ⟨(Below.heap_alloc _ _ _ h.lt).trans h.res, h.bel.alloc h.bel.size _⟩
theorem ChInv.below {w wr w2 : World} (h : ChInv w wr) (hb : Below wr.heap.size wr w2) : ChInv w w2 := ⟨(hb.block _ h.lt).trans h.res, h.bel.trans (hb.mono h.bel.size)⟩
theorem ChInv.start (w w1 : World) (hb : Below (w.alloc (.cells #[.int .u64 0, .slice none 0 0] 25)).heap.size (w.alloc (.cells #[.int .u64 0, .slice none 0 0] 25)) w1) : ChInv w w1 :=
  ChInv.below (wr := w.alloc (.cells #[.int .u64 0, .slice none 0 0] 25)) ⟨heap_alloc_new _ _, (Below.refl _ _).alloc (Nat.le_refl _) _⟩ hb

theorem SR.keepsA {w w' : World} {F : Nat → Prop} {R : Option Addr} {l : List Sn} (h : SR w w.heap.size R l) (k : Keeps F w w') (hg : ∀ ad, R = some ad → ¬ F ad.block) : SR w' w'.heap.size R l := by
  intro hn
  obtain ⟨ad, e, hb, hc⟩ := h hn
  refine ⟨ad, e, Nat.lt_of_lt_of_le hb k.size, fun i s hs => ?_⟩
  have key : ∀ p : Addr, p.block = ad.block → w'.cell? p = w.cell? p := fun p hp => World.cell?_of_block (by rw [hp]; exact k.block _ hb (hg ad e))
  exact ⟨(key _ (by rw [block_add])).trans (hc i s hs).1, (key _ (by show (ad.add (i * 2)).block = _; rw [block_add])).trans (hc i s hs).2⟩
theorem ch_end {w w4 : World} {R : Option Addr} {l : List Sn} (i : ChInv w w4) (s : SR w4 w4.heap.size R l) (a : ∀ ad, R = some ad → w.heap.size < ad.block) (u v : Value) :
    SR ((w4.setCell ⟨w.heap.size, 0, none⟩ u).setCell ⟨w.heap.size, 1, none⟩ v) ((w4.setCell ⟨w.heap.size, 0, none⟩ u).setCell ⟨w.heap.size, 1, none⟩ v).heap.size R l ∧ Below w.heap.size w ((w4.setCell ⟨w.heap.size, 0, none⟩ u).setCell ⟨w.heap.size, 1, none⟩ v) := by
  have k1 : Keeps (fun k => k = w.heap.size) w4 ((w4.setCell ⟨w.heap.size, 0, none⟩ u).setCell ⟨w.heap.size, 1, none⟩ v) := (Keeps.setCell (fun k => k = w.heap.size) _ _ _ rfl).trans (Keeps.setCell (fun k => k = w.heap.size) _ _ _ rfl)
  exact ⟨s.keepsA k1 fun ad e h => by have := a ad e; omega, i.bel.trans (k1.toBelow _ i.bel.size (fun k e => by omega))⟩
theorem chW_both {a b : List UInt8} (h1 : decB a = true) (h2 : decB b = true) (h : decG a < decG b) : chW a b = 1 := by
  have e1 : decG a = genOf a := by simp [decG, h1]
  have e2 : decG b = genOf b := by simp [decG, h2]
  rw [e1, e2] at h
  simp [chW, h1, h2, h]
theorem chW_first {a b : List UInt8} (h1 : decB a = true) (h : decB b = false ∨ ¬ decG a < decG b) : chW a b = 2 := by
  have e1 : decG a = genOf a := by simp [decG, h1]
  cases h2 : decB b
  · simp [chW, h1, h2]
  · have e2 : decG b = genOf b := by simp [decG, h2]
    rw [h2, e1, e2] at h
    rcases h with h | h
    · cases h
    · simp [chW, h1, h2, h]
theorem chW_second {a b : List UInt8} (h1 : decB a = false) (h2 : decB b = true) : chW a b = 1 := by simp [chW, h1, h2]
theorem givesCh_second {w w' : World} {a b : List UInt8} {g : Nat} {R : Option Addr} {c : Nat} (h : chW a b = 1) (hg : decG b = g) (hs : SR w' w'.heap.size R (decS b) ∧ Below w.heap.size w w') : GivesCh w a b (.returned (.tuple #[.agg #[.int .u64 (g : Int), .slice R (decS b).length c], .int .i64 1, .int .i64 0])) w' := by
  subst hg
  have e1 : chB a b = b := by simp [chB, h]
  have e2 : chN a b = 1 := by simp [chN, h]
  have e3 : chE a b = 0 := by simp [chE, h]
  exact ⟨R, c, by rw [e1, e2, e3], by rw [e1]; exact hs.1, hs.2⟩
theorem givesCh_first {w w' : World} {a b : List UInt8} {g : Nat} {R : Option Addr} {c : Nat} (h : chW a b = 2) (hg : decG a = g) (hs : SR w' w'.heap.size R (decS a) ∧ Below w.heap.size w w') : GivesCh w a b (.returned (.tuple #[.agg #[.int .u64 (g : Int), .slice R (decS a).length c], .int .i64 0, .int .i64 0])) w' := by
  subst hg
  have e1 : chB a b = a := by simp [chB, h]
  have e2 : chN a b = 0 := by simp [chN, h]
  have e3 : chE a b = 0 := by simp [chE, h]
  exact ⟨R, c, by rw [e1, e2, e3], by rw [e1]; exact hs.1, hs.2⟩
theorem givesCh_none {w w' : World} {a b : List UInt8} (h1 : decB a = false) (h2 : decB b = false) (hb : Below w.heap.size w w') : GivesCh w a b (.returned (.tuple #[.agg #[.int .u64 0, .slice none 0 0], .int .i64 0, .int .i64 30])) w' := by
  have h : chW a b = 0 := by simp [chW, h1, h2]
  have e1 : chB a b = a := by simp [chB, h]
  have e2 : chN a b = 0 := by simp [chN, h]
  have e3 : chE a b = 30 := by simp [chE, h]
  have e4 : decG a = 0 := by simp [decG, h1]
  have e5 : decS a = [] := by simp [decS, h1]
  exact ⟨none, 0, by rw [e1, e2, e3, e4, e5]; rfl, by rw [e1, e5]; exact SR.nil, hb⟩

set_option maxHeartbeats 1000000 in
theorem choose_any (A : Option Addr) (xs : List UInt8) (c : Nat) (A' : Option Addr) (ys : List UInt8) (c' : Nat) (w : World) (hx : BR w w.heap.size A xs) (hy : BR w w.heap.size A' ys) (hc : xs.length ≤ c) (hc' : ys.length ≤ c') :
    Calls Try.prog 16 #[.slice A xs.length c, .slice A' ys.length c'] w (GivesCh w xs ys) := by
  go_enter Try.func16, Try.ntmps16
  go_wp2_with fail
  refine (dec_any A xs c _ ((hx.alloc (Nat.le_refl _) _).more (by simp)) hc).mono ?_
  rintro e w1 ⟨R1, c1, rfl, s1, b1, a1⟩
  have i1 : ChInv w w1 := ChInv.start w w1 b1
  have a1' : ∀ ad, R1 = some ad → w.heap.size < ad.block := fun ad e => by have := a1 ad e; rw [World.size_alloc] at this; omega
  have hE1 := decE_is xs
  clear b1 a1
  generalize hg1 : decG xs = g1 at *
  generalize hd1 : decE xs = d1 at *
  have HG1 := Lib.hid hg1
  clear hg1 hd1
  go_wp2_with fail
  have i2 := i1.alloc (.cells #[.int .u64 (g1 : Int), .slice R1 (decS xs).length c1] 25)
  have v2 := heap_alloc_new w1 (.cells #[.int .u64 (g1 : Int), .slice R1 (decS xs).length c1] 25)
  have s2 : SR (w1.alloc (.cells #[.int .u64 (g1 : Int), .slice R1 (decS xs).length c1] 25)) (w1.alloc (.cells #[.int .u64 (g1 : Int), .slice R1 (decS xs).length c1] 25)).heap.size R1 (decS xs) := (s1.keep fun p hp => World.cell?_alloc_lt _ _ p hp).more (by simp)
  have hv2 := i1.lt
  generalize w1.alloc (.cells #[.int .u64 (g1 : Int), .slice R1 (decS xs).length c1] 25) = w2 at *
  generalize w1.heap.size = gv at *
  clear i1 s1
  refine (dec_any A' ys c' _ ((hy.below i2.bel).more i2.bel.size) hc').mono ?_
  rintro e w3 ⟨R3, c3, rfl, s3, b3, a3⟩
  have a3' : ∀ ad, R3 = some ad → w.heap.size < ad.block := fun ad e => Nat.lt_of_lt_of_le i2.lt (a3 ad e)
  have i3 := i2.below b3
  have hgv : gv < w2.heap.size := (Array.getElem?_eq_some_iff.1 v2).1
  have v3 := (b3.block _ hgv).trans v2
  have s2' : SR w3 w3.heap.size R1 (decS xs) := (s2.below b3).more b3.size
  have hgv3 := Nat.lt_of_lt_of_le hgv b3.size
  have hE2 := decE_is ys
  clear i2 b3 v2 s2 a3 hgv
  generalize hg3 : decG ys = g3 at *
  generalize hd3 : decE ys = d3 at *
  have HG3 := Lib.hid hg3
  clear hg3 hd3
  have i4 := i3.alloc (.cells #[.int .u64 (g3 : Int), .slice R3 (decS ys).length c3] 25)
  have v4 := heap_alloc_new w3 (.cells #[.int .u64 (g3 : Int), .slice R3 (decS ys).length c3] 25)
  have s4 : SR (w3.alloc (.cells #[.int .u64 (g3 : Int), .slice R3 (decS ys).length c3] 25)) (w3.alloc (.cells #[.int .u64 (g3 : Int), .slice R3 (decS ys).length c3] 25)).heap.size R3 (decS ys) := (s3.keep fun p hp => World.cell?_alloc_lt _ _ p hp).more (by simp)
  have s2'' : SR (w3.alloc (.cells #[.int .u64 (g3 : Int), .slice R3 (decS ys).length c3] 25)) (w3.alloc (.cells #[.int .u64 (g3 : Int), .slice R3 (decS ys).length c3] 25)).heap.size R1 (decS xs) := (s2'.keep fun p hp => World.cell?_alloc_lt _ _ p hp).more (by simp)
  have v3' : (w3.alloc (.cells #[.int .u64 (g3 : Int), .slice R3 (decS ys).length c3] 25)).heap[gv]? = some (.cells #[.int .u64 (g1 : Int), .slice R1 (decS xs).length c1] 25 (0, 0)) := (Below.heap_alloc _ _ _ hgv3).trans v3
  have f0 : (w3.alloc (.cells #[.int .u64 (g3 : Int), .slice R3 (decS ys).length c3] 25)).cell? ⟨w.heap.size, 0, none⟩ = some (.int .u64 0) := by rw [cell_of_row _ _ _ _ _ _ i4.res]; rfl
  have f1 : (w3.alloc (.cells #[.int .u64 (g3 : Int), .slice R3 (decS ys).length c3] 25)).cell? ⟨w.heap.size, 1, none⟩ = some (.slice none 0 0) := by rw [cell_of_row _ _ _ _ _ _ i4.res]; rfl
  have z0 := frozen_of_row _ w.heap.size 0 _ _ i4.res
  have z1 := frozen_of_row _ w.heap.size 1 _ _ i4.res
  have x0 : (w3.alloc (.cells #[.int .u64 (g3 : Int), .slice R3 (decS ys).length c3] 25)).cell? ⟨gv, 0, none⟩ = some (.int .u64 (g1 : Int)) := by rw [cell_of_row _ _ _ _ _ _ v3']; rfl
  have x1 : (w3.alloc (.cells #[.int .u64 (g3 : Int), .slice R3 (decS ys).length c3] 25)).cell? ⟨gv, 1, none⟩ = some (.slice R1 (decS xs).length c1) := by rw [cell_of_row _ _ _ _ _ _ v3']; rfl
  have y0 : (w3.alloc (.cells #[.int .u64 (g3 : Int), .slice R3 (decS ys).length c3] 25)).cell? ⟨w3.heap.size, 0, none⟩ = some (.int .u64 (g3 : Int)) := by rw [cell_of_row _ _ _ _ _ _ v4]; rfl
  have y1 : (w3.alloc (.cells #[.int .u64 (g3 : Int), .slice R3 (decS ys).length c3] 25)).cell? ⟨w3.heap.size, 1, none⟩ = some (.slice R3 (decS ys).length c3) := by rw [cell_of_row _ _ _ _ _ _ v4]; rfl
  clear v3 s3 s2' i3 v3' v4 hgv3
  rcases hE1 with ⟨hb1, rfl⟩ | ⟨hb1, rfl⟩
  · rcases hE2 with ⟨hb2, rfl⟩ | ⟨hb2, rfl⟩
    · have HB1 := Lib.hid hb1
      have HB2 := Lib.hid hb2
      clear hb1 hb2
      by_cases hgg : g1 < g3
      · go_wp2_with fail
        refine bodyPost_ret (v := .tuple #[.agg #[.int .u64 (g3 : Int), .slice R3 (decS ys).length c3], .int .i64 1, .int .i64 0]) (by simp [results, Try.results16, go_sem, f0, f1]) rfl ?_
        exact givesCh_second (chW_both HB1.out HB2.out (by rw [HG1.out, HG3.out]; exact hgg)) HG3.out (ch_end i4 s4 a3' _ _)
      · go_wp2_with fail
        refine bodyPost_ret (v := .tuple #[.agg #[.int .u64 (g1 : Int), .slice R1 (decS xs).length c1], .int .i64 0, .int .i64 0]) (by simp [results, Try.results16, go_sem, f0, f1]) rfl ?_
        exact givesCh_first (chW_first HB1.out (by rw [HG1.out, HG3.out]; exact .inr hgg)) HG1.out (ch_end i4 s2'' a1' _ _)
    · have HB1 := Lib.hid hb1
      have HB2 := Lib.hid hb2
      clear hb1 hb2
      go_wp2_with fail
      refine bodyPost_ret (v := .tuple #[.agg #[.int .u64 (g1 : Int), .slice R1 (decS xs).length c1], .int .i64 0, .int .i64 0]) (by simp [results, Try.results16, go_sem, f0, f1]) rfl ?_
      exact givesCh_first (chW_first HB1.out (.inl HB2.out)) HG1.out (ch_end i4 s2'' a1' _ _)
  · rcases hE2 with ⟨hb2, rfl⟩ | ⟨hb2, rfl⟩
    · have HB1 := Lib.hid hb1
      have HB2 := Lib.hid hb2
      clear hb1 hb2
      go_wp2_with fail
      refine bodyPost_ret (v := .tuple #[.agg #[.int .u64 (g3 : Int), .slice R3 (decS ys).length c3], .int .i64 1, .int .i64 0]) (by simp [results, Try.results16, go_sem, f0, f1]) rfl ?_
      exact givesCh_second (chW_second HB1.out HB2.out) HG3.out (ch_end i4 s4 a3' _ _)
    · have HB1 := Lib.hid hb1
      have HB2 := Lib.hid hb2
      clear hb1 hb2
      go_wp2_with fail
      refine bodyPost_ret (v := .tuple #[.agg #[.int .u64 0, .slice none 0 0], .int .i64 0, .int .i64 30]) (by simp [results, Try.results16, go_sem, f0, f1]) rfl ?_
      exact givesCh_none HB1.out HB2.out (ch_end i4 s4 a3' _ _).2

set_option maxHeartbeats 1000000 in
theorem refChoose_any (A : Option Addr) (xs : List UInt8) (c : Nat) (A' : Option Addr) (ys : List UInt8) (c' : Nat) (w : World) (hx : BR w w.heap.size A xs) (hy : BR w w.heap.size A' ys) :
    Calls Try.prog 17 #[.slice A xs.length c, .slice A' ys.length c'] w (GivesCh w xs ys) := by
  go_enter Try.func17, Try.ntmps17
  go_wp2_with fail
  refine (refDec_any A xs c _ ((hx.alloc (Nat.le_refl _) _).more (by simp))).mono ?_
  rintro e w1 ⟨R1, c1, rfl, s1, b1, a1⟩
  have i1 : ChInv w w1 := ChInv.start w w1 b1
  have a1' : ∀ ad, R1 = some ad → w.heap.size < ad.block := fun ad e => by have := a1 ad e; rw [World.size_alloc] at this; omega
  have hE1 := decE_is xs
  clear b1 a1
  generalize hg1 : decG xs = g1 at *
  generalize hd1 : decE xs = d1 at *
  have HG1 := Lib.hid hg1
  clear hg1 hd1
  go_wp2_with fail
  have i2 := i1.alloc (.cells #[.int .u64 (g1 : Int), .slice R1 (decS xs).length c1] 25)
  have v2 := heap_alloc_new w1 (.cells #[.int .u64 (g1 : Int), .slice R1 (decS xs).length c1] 25)
  have s2 : SR (w1.alloc (.cells #[.int .u64 (g1 : Int), .slice R1 (decS xs).length c1] 25)) (w1.alloc (.cells #[.int .u64 (g1 : Int), .slice R1 (decS xs).length c1] 25)).heap.size R1 (decS xs) := (s1.keep fun p hp => World.cell?_alloc_lt _ _ p hp).more (by simp)
  have hv2 := i1.lt
  generalize w1.alloc (.cells #[.int .u64 (g1 : Int), .slice R1 (decS xs).length c1] 25) = w2 at *
  generalize w1.heap.size = gv at *
  clear i1 s1
  refine (refDec_any A' ys c' _ ((hy.below i2.bel).more i2.bel.size)).mono ?_
  rintro e w3 ⟨R3, c3, rfl, s3, b3, a3⟩
  have a3' : ∀ ad, R3 = some ad → w.heap.size < ad.block := fun ad e => Nat.lt_of_lt_of_le i2.lt (a3 ad e)
  have i3 := i2.below b3
  have hgv : gv < w2.heap.size := (Array.getElem?_eq_some_iff.1 v2).1
  have v3 := (b3.block _ hgv).trans v2
  have s2' : SR w3 w3.heap.size R1 (decS xs) := (s2.below b3).more b3.size
  have hgv3 := Nat.lt_of_lt_of_le hgv b3.size
  have hE2 := decE_is ys
  clear i2 b3 v2 s2 a3 hgv
  generalize hg3 : decG ys = g3 at *
  generalize hd3 : decE ys = d3 at *
  have HG3 := Lib.hid hg3
  clear hg3 hd3
  have i4 := i3.alloc (.cells #[.int .u64 (g3 : Int), .slice R3 (decS ys).length c3] 25)
  have v4 := heap_alloc_new w3 (.cells #[.int .u64 (g3 : Int), .slice R3 (decS ys).length c3] 25)
  have s4 : SR (w3.alloc (.cells #[.int .u64 (g3 : Int), .slice R3 (decS ys).length c3] 25)) (w3.alloc (.cells #[.int .u64 (g3 : Int), .slice R3 (decS ys).length c3] 25)).heap.size R3 (decS ys) := (s3.keep fun p hp => World.cell?_alloc_lt _ _ p hp).more (by simp)
  have s2'' : SR (w3.alloc (.cells #[.int .u64 (g3 : Int), .slice R3 (decS ys).length c3] 25)) (w3.alloc (.cells #[.int .u64 (g3 : Int), .slice R3 (decS ys).length c3] 25)).heap.size R1 (decS xs) := (s2'.keep fun p hp => World.cell?_alloc_lt _ _ p hp).more (by simp)
  have v3' : (w3.alloc (.cells #[.int .u64 (g3 : Int), .slice R3 (decS ys).length c3] 25)).heap[gv]? = some (.cells #[.int .u64 (g1 : Int), .slice R1 (decS xs).length c1] 25 (0, 0)) := (Below.heap_alloc _ _ _ hgv3).trans v3
  have f0 : (w3.alloc (.cells #[.int .u64 (g3 : Int), .slice R3 (decS ys).length c3] 25)).cell? ⟨w.heap.size, 0, none⟩ = some (.int .u64 0) := by rw [cell_of_row _ _ _ _ _ _ i4.res]; rfl
  have f1 : (w3.alloc (.cells #[.int .u64 (g3 : Int), .slice R3 (decS ys).length c3] 25)).cell? ⟨w.heap.size, 1, none⟩ = some (.slice none 0 0) := by rw [cell_of_row _ _ _ _ _ _ i4.res]; rfl
  have z0 := frozen_of_row _ w.heap.size 0 _ _ i4.res
  have z1 := frozen_of_row _ w.heap.size 1 _ _ i4.res
  have x0 : (w3.alloc (.cells #[.int .u64 (g3 : Int), .slice R3 (decS ys).length c3] 25)).cell? ⟨gv, 0, none⟩ = some (.int .u64 (g1 : Int)) := by rw [cell_of_row _ _ _ _ _ _ v3']; rfl
  have x1 : (w3.alloc (.cells #[.int .u64 (g3 : Int), .slice R3 (decS ys).length c3] 25)).cell? ⟨gv, 1, none⟩ = some (.slice R1 (decS xs).length c1) := by rw [cell_of_row _ _ _ _ _ _ v3']; rfl
  have y0 : (w3.alloc (.cells #[.int .u64 (g3 : Int), .slice R3 (decS ys).length c3] 25)).cell? ⟨w3.heap.size, 0, none⟩ = some (.int .u64 (g3 : Int)) := by rw [cell_of_row _ _ _ _ _ _ v4]; rfl
  have y1 : (w3.alloc (.cells #[.int .u64 (g3 : Int), .slice R3 (decS ys).length c3] 25)).cell? ⟨w3.heap.size, 1, none⟩ = some (.slice R3 (decS ys).length c3) := by rw [cell_of_row _ _ _ _ _ _ v4]; rfl
  clear v3 s3 s2' i3 v3' v4 hgv3
  rcases hE1 with ⟨hb1, rfl⟩ | ⟨hb1, rfl⟩
  · rcases hE2 with ⟨hb2, rfl⟩ | ⟨hb2, rfl⟩
    · have HB1 := Lib.hid hb1
      have HB2 := Lib.hid hb2
      clear hb1 hb2
      by_cases hgg : g1 < g3
      · go_wp2_with fail
        refine bodyPost_ret (v := .tuple #[.agg #[.int .u64 (g3 : Int), .slice R3 (decS ys).length c3], .int .i64 1, .int .i64 0]) (by simp [results, Try.results17, go_sem, f0, f1]) rfl ?_
        exact givesCh_second (chW_both HB1.out HB2.out (by rw [HG1.out, HG3.out]; exact hgg)) HG3.out (ch_end i4 s4 a3' _ _)
      · go_wp2_with fail
        refine bodyPost_ret (v := .tuple #[.agg #[.int .u64 (g1 : Int), .slice R1 (decS xs).length c1], .int .i64 0, .int .i64 0]) (by simp [results, Try.results17, go_sem, f0, f1]) rfl ?_
        exact givesCh_first (chW_first HB1.out (by rw [HG1.out, HG3.out]; exact .inr hgg)) HG1.out (ch_end i4 s2'' a1' _ _)
    · have HB1 := Lib.hid hb1
      have HB2 := Lib.hid hb2
      clear hb1 hb2
      go_wp2_with fail
      refine bodyPost_ret (v := .tuple #[.agg #[.int .u64 (g1 : Int), .slice R1 (decS xs).length c1], .int .i64 0, .int .i64 0]) (by simp [results, Try.results17, go_sem, f0, f1]) rfl ?_
      exact givesCh_first (chW_first HB1.out (.inl HB2.out)) HG1.out (ch_end i4 s2'' a1' _ _)
  · rcases hE2 with ⟨hb2, rfl⟩ | ⟨hb2, rfl⟩
    · have HB1 := Lib.hid hb1
      have HB2 := Lib.hid hb2
      clear hb1 hb2
      go_wp2_with fail
      refine bodyPost_ret (v := .tuple #[.agg #[.int .u64 (g3 : Int), .slice R3 (decS ys).length c3], .int .i64 1, .int .i64 0]) (by simp [results, Try.results17, go_sem, f0, f1]) rfl ?_
      exact givesCh_second (chW_second HB1.out HB2.out) HG3.out (ch_end i4 s4 a3' _ _)
    · have HB1 := Lib.hid hb1
      have HB2 := Lib.hid hb2
      clear hb1 hb2
      go_wp2_with fail
      refine bodyPost_ret (v := .tuple #[.agg #[.int .u64 0, .slice none 0 0], .int .i64 0, .int .i64 30]) (by simp [results, Try.results17, go_sem, f0, f1]) rfl ?_
      exact givesCh_none HB1.out HB2.out (ch_end i4 s4 a3' _ _).2
end Go.Proofs.Ytlefpnplibmgiaa
