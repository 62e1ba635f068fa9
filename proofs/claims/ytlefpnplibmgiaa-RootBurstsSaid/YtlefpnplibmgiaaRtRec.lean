/-
  The contract of root.record.
-/
import Derived.Test.YtlefpnplibmgiaaRtRd
import Derived.Test.YtlefpnplibmgiaaRtEnc
namespace Go.Proofs.Ytlefpnplibmgiaa
open Go.RowKit

def RecOut (w : World) (xs : List UInt8) (e : Ending) (w' : World) : Prop :=
  Below w.heap.size w w' ∧ ((recB xs = true ∧ ∃ g c, e = .returned (.agg #[.int .u64 (genOf xs : Int), .slice (some ⟨g, 0, none⟩) (manyOf xs) c]) ∧ w.heap.size ≤ g ∧ SR w' w'.heap.size (some ⟨g, 0, none⟩) (rdL xs (manyOf xs))) ∨ (recB xs = false ∧ e = thrown))
theorem recOut_no {w w' : World} {xs : List UInt8} (h : recB xs = false) (hb : Below w.heap.size w w') : RecOut w xs thrown w' := ⟨hb, .inr ⟨h, rfl⟩⟩
theorem recB_len {xs : List UInt8} (h : xs.length ≠ 64) : recB xs = false := by simp [recB, h]
theorem recB_mark {xs : List UInt8} (h : num xs 0 4 ≠ 1280459075) : recB xs = false := by
  simp only [recB, decide_eq_false h, Bool.and_false, Bool.false_and]
theorem recB_many {xs : List UInt8} (h : 4 < manyOf xs) : recB xs = false := by
  simp only [recB, decide_eq_false (by omega : ¬ manyOf xs ≤ 4), Bool.and_false, Bool.false_and]
theorem recB_may {xs : List UInt8} (h : mayB (genOf xs) (rdL xs (manyOf xs)) = false) : recB xs = false := by
  simp only [recB, h, Bool.and_false, Bool.false_and]
theorem recB_zeros {xs : List UInt8} (h : zerosB xs (manyOf xs) = false) : recB xs = false := by
  simp only [recB, h, Bool.and_false, Bool.false_and]
theorem recB_sum {xs : List UInt8} (h : num xs 60 4 ≠ crcOf (xs.take 60)) : recB xs = false := by
  simp only [recB, decide_eq_false h, Bool.and_false]
theorem recB_yes {xs : List UInt8} (h1 : xs.length = 64) (h2 : num xs 0 4 = 1280459075) (h3 : manyOf xs ≤ 4) (h4 : mayB (genOf xs) (rdL xs (manyOf xs)) = true) (h5 : zerosB xs (manyOf xs) = true) (h6 : num xs 60 4 = crcOf (xs.take 60)) : recB xs = true := by
  simp only [recB, decide_eq_true h1, decide_eq_true h2, decide_eq_true h3, h4, h5, decide_eq_true h6, Bool.and_true]

/-- What record keeps: its result's cells, the reader behind them, all that was there. -/
structure RecInv (w wr : World) (A : Option Addr) (c : Nat) (xs : List UInt8) (a : Nat) : Prop where
  res : wr.heap[w.heap.size]? = some (.cells #[.int .u64 0, .slice none 0 0] 25 (0, 0))
  rd : Rd wr (w.heap.size + 1) A c xs a
  bel : Below w.heap.size w wr
theorem RecInv.next {w wr w2 : World} {A : Option Addr} {c : Nat} {xs : List UInt8} {a a' : Nat} (h : RecInv w wr A c xs a) (k : Keeps (· = w.heap.size + 1) wr w2) (r : Rd w2 (w.heap.size + 1) A c xs a') : RecInv w w2 A c xs a' :=
  ⟨(k.block _ (by have := h.rd.lt; omega) (by omega)).trans h.res, r, h.bel.trans (k.toBelow _ h.bel.size (fun b e => by omega))⟩
theorem RecInv.below {w wr w2 : World} {A : Option Addr} {c : Nat} {xs : List UInt8} {a : Nat} (h : RecInv w wr A c xs a) (hb : Below wr.heap.size wr w2) : RecInv w w2 A c xs a :=
  ⟨(hb.block _ (by have := h.rd.lt; omega)).trans h.res, h.rd.below hb, h.bel.trans (hb.mono h.bel.size)⟩

set_option maxHeartbeats 400000 in
theorem rec_len (A : Option Addr) (xs : List UInt8) (c : Nat) (w : World) (hn : xs.length ≠ 64) :
    Calls Try.prog 28 #[.slice A xs.length c] w (RecOut w xs) := by
  have h1 : ((xs.length : Int) == 64) = false := by simp; omega
  have HD := Lib.hid (recB_len hn)
  clear hn
  go_enter Try.func28, Try.ntmps28
  go_wp2_with fail
  refine (demand_no _).mono ?_
  rintro e w' ⟨rfl, rfl⟩
  exact ⟨rfl, recOut_no HD.out ((Below.refl _ _).alloc (Nat.le_refl _) _)⟩

/-- The world behind the two first variables. -/
def recW (w : World) (A : Option Addr) (c : Nat) : World := (w.alloc (.cells #[.int .u64 0, .slice none 0 0] 25)).alloc (.cells #[.slice A 64 c, .int .i64 0] 67)
theorem recW_inv (w : World) (A : Option Addr) (c : Nat) (xs : List UInt8) (hx : BR w w.heap.size A xs) (h64 : xs.length = 64) : RecInv w (recW w A c) A c xs 0 := by
  have hb : Below w.heap.size w (recW w A c) := ((Below.refl _ _).alloc (Nat.le_refl _) _).alloc (by simp) _
  refine ⟨?_, ⟨?_, (hx.below hb).more hb.size, h64, fun ad e => ?_⟩, hb⟩
  · unfold recW; rw [Below.heap_alloc _ _ _ (by simp)]; exact heap_alloc_new _ _
  · exact blk_at_last _ _ _ (by simp)
  · obtain ⟨ad', e', hlt, _⟩ := hx (by intro h; subst h; simp at h64)
    rw [e] at e'; cases e'; omega
/-- The root that is being read. -/
theorem rec_end {w w1 : World} {A : Option Addr} {c : Nat} {xs : List UInt8} {a B g : Nat} (inv : RecInv w w1 A c xs a) (hB : w.heap.size < B) (o : OwnS w1 B (some ⟨g, 0, none⟩) (manyOf xs) (rdL xs (manyOf xs))) (hg : B ≤ g) (hr : recB xs = true) (u v : Value) (cc : Nat) :
    RecOut w xs (.returned (.agg #[.int .u64 (genOf xs : Int), .slice (some ⟨g, 0, none⟩) (manyOf xs) cc])) ((w1.setCell ⟨w.heap.size, 0, none⟩ u).setCell ⟨w.heap.size, 1, none⟩ v) := by
  have k1 : Keeps (fun k => k = w.heap.size) w1 ((w1.setCell ⟨w.heap.size, 0, none⟩ u).setCell ⟨w.heap.size, 1, none⟩ v) := (Keeps.setCell (fun k => k = w.heap.size) _ _ _ rfl).trans (Keeps.setCell (fun k => k = w.heap.size) _ _ _ rfl)
  refine ⟨inv.bel.trans (k1.toBelow _ inv.bel.size (fun b e => by omega)), .inl ⟨hr, _, cc, rfl, by omega, ?_⟩⟩
  exact OwnS.sr (B := B) (cap := manyOf xs) (rowS_keeps o k1 (by omega))
theorem RecInv.other {w wr w2 : World} {F : Nat → Prop} {A : Option Addr} {c : Nat} {xs : List UInt8} {a : Nat} (h : RecInv w wr A c xs a) (hx : BR w w.heap.size A xs) (k : Keeps F wr w2) (hF : ∀ b, F b → w.heap.size + 1 < b) : RecInv w w2 A c xs a :=
  ⟨(k.block _ (by have := h.rd.lt; omega) (fun hf => by have := hF _ hf; omega)).trans h.res, h.rd.keeps k (fun hf => by have := hF _ hf; omega) (fun ad e hne hf => by
    obtain ⟨ad', e', hlt, _⟩ := hx hne
    rw [e] at e'; cases e'
    have := hF _ hf
    omega), h.bel.trans (k.toBelow _ h.bel.size (fun b hf => by have := hF b hf; omega))⟩
theorem mayBe_n (b : Bool) (g : Nat) (A : Option Addr) (l : List Sn) (c n : Nat) (w : World) (hx : SR w w.heap.size A l) (hn : l.length = n) (hl : n ≤ 9223372036854775807) (h : mayB g l = b) :
    Calls Try.prog 20 #[agR g A n c] w fun e w' => e = .returned (.bool b) ∧ Below w.heap.size w w' := by
  subst hn h; exact mayBe_any g A l c w hx hl

set_option maxHeartbeats 2000000 in
theorem rec_main (A : Option Addr) (xs : List UInt8) (c : Nat) (w : World) (hx : BR w w.heap.size A xs) (h64 : xs.length = 64) (hcap : 64 ≤ c) :
    Calls Try.prog 28 #[.slice A 64 c] w (RecOut w xs) := by
  have hc60 : (60 : Int) ≤ (c : Int) := by omega
  have inv := recW_inv w A c xs hx h64
  have H64 := Lib.hid h64
  have HBR := Lib.hid hx
  clear h64 hcap hx
  have hmf : ∀ (fn : Fn) (first cap : Array Value) (w : World), (Instr.makeFunc fn first cap).run Try.prog w = .ok (.func fn first cap) w := fun _ _ _ _ => rfl
  go_enter Try.func28, Try.ntmps28
  go_wp2_with fail
  refine (demand_yes _).mono ?_
  rintro e w' ⟨rfl, rfl⟩
  go_wp2_with fail
  change Calls _ _ _ (recW w A c) _
  generalize recW w A c = w1 at *
  generalize hq0 : num xs ((0 : Nat) : Int) 4 = q0
  have HQ0 := Lib.hid hq0
  refine (rdNum _ _ A c xs 0 4 4 q0 inv.rd (by decide) (by decide) rfl hq0).mono ?_
  rintro e w2 ⟨rfl, r2, k2⟩
  have i2 := inv.next k2 r2
  clear inv r2 k2 hq0
  by_cases hmark : q0 = 1280459075
  · subst hmark
    go_wp2_with fail
    refine (demand_yes _).mono ?_
    rintro e w' ⟨rfl, rfl⟩
    go_wp2_with fail
    generalize hq1 : num xs ((0 + 4 : Nat) : Int) 8 = gn
    have HG : Hid (genOf xs = gn) := hq1
    refine (rdGen _ _ A c xs (0 + 4) gn i2.rd (by decide) hq1).mono ?_
    rintro e w3 ⟨rfl, r3, k3⟩
    have i3 := i2.next k3 r3
    clear i2 r3 k3 hq1
    go_wp2_with fail
    have b4 : Below w3.heap.size w3 (w3.alloc (.cells #[.int .u64 (gn : Int), .slice none 0 0] 25)) := (Below.refl _ _).alloc (Nat.le_refl _) _
    have i4 := i3.below b4
    have v4 := heap_alloc_new w3 (.cells #[.int .u64 (gn : Int), .slice none 0 0] 25)
    have hgv : w.heap.size + 1 < w3.heap.size := i3.rd.lt
    generalize w3.alloc (.cells #[.int .u64 (gn : Int), .slice none 0 0] 25) = w4 at *
    generalize w3.heap.size = gv at *
    clear i3 b4
    generalize hq2 : num xs ((0 + 4 + 8 : Nat) : Int) 2 = m
    have HM : Hid (manyOf xs = m) := hq2
    have hm : m < 65536 := by rw [← hq2]; exact num_lt xs _ 2
    refine (rdShort _ _ A c xs (0 + 4 + 8) m i4.rd (by decide) hq2).mono ?_
    rintro e w5 ⟨rfl, r5, k5⟩
    have i5 := i4.next k5 r5
    have hgv4 : gv < w4.heap.size := (Array.getElem?_eq_some_iff.1 v4).1
    have v5 := (k5.block gv hgv4 (by omega)).trans v4
    clear i4 r5 k5 hq2 v4 hgv4
    go_wp2_with fail
    by_cases hm4 : m ≤ 4
    · refine (snaps_yes w5 _ A c xs m i5.rd hm4).mono ?_
      rintro e w6 ⟨g, rfl, hg, o6, r6, k6⟩
      have i6 := i5.next k6 r6
      have hgv5 : gv < w5.heap.size := (Array.getElem?_eq_some_iff.1 v5).1
      have v6 := (k6.block gv hgv5 (by omega)).trans v5
      have x0 : w6.cell? ⟨gv, 0, none⟩ = some (.int .u64 (gn : Int)) := by rw [cell_of_row _ _ _ _ _ _ v6]; rfl
      have x1 : w6.cell? ⟨gv, 1, none⟩ = some (.slice none 0 0) := by rw [cell_of_row _ _ _ _ _ _ v6]; rfl
      have z1 := frozen_of_row w6 gv 1 _ _ v6
      have hB := i5.rd.lt
      clear i5 r6 k6 v5
      go_wp2_with fail
      have k7 : Keeps (· = gv) w6 (w6.setCell ⟨gv, 1, none⟩ (.slice (some ⟨g, 0, none⟩) m m)) := Keeps.setCell _ _ _ _ rfl
      have i7 := i6.other HBR.out k7 (fun b e => by omega)
      have v7 : (w6.setCell ⟨gv, 1, none⟩ (.slice (some ⟨g, 0, none⟩) m m)).heap[gv]? = some (.cells #[.int .u64 (gn : Int), .slice (some ⟨g, 0, none⟩) m m] 25 (0, 0)) := by
        rw [heap_setCell_same _ _ _ _ _ _ v6]; rfl
      have o7 := rowS_keeps o6 k7 (by omega)
      clear i6 k7 v6 o6 x0 x1 z1
      generalize w6.setCell ⟨gv, 1, none⟩ (.slice (some ⟨g, 0, none⟩) m m) = w7 at *
      have hsr : SR w7 w7.heap.size (some ⟨g, 0, none⟩) (rdL xs m) := OwnS.sr (B := w5.heap.size) (cap := m) o7
      cases hmay : mayB gn (rdL xs m)
      · have HY := Lib.hid hmay
        clear hmay
        refine (mayBe_n false gn _ (rdL xs m) m m w7 hsr (rdL_len _ _) (by omega) HY.out).mono ?_
        rintro e w8 ⟨rfl, b8⟩
        have i8 := i7.below b8
        clear i7 b8 v7 o7 hsr
        go_wp2_with fail
        refine (demand_no _).mono ?_
        rintro e w' ⟨rfl, rfl⟩
        exact ⟨rfl, recOut_no (recB_may (by rw [HM.out, HG.out]; exact HY.out)) i8.bel⟩
      · have HY := Lib.hid hmay
        clear hmay
        refine (mayBe_n true gn _ (rdL xs m) m m w7 hsr (rdL_len _ _) (by omega) HY.out).mono ?_
        rintro e w8 ⟨rfl, b8⟩
        have i8 := i7.below b8
        have hgv7 : gv < w7.heap.size := (Array.getElem?_eq_some_iff.1 v7).1
        have v8 := (b8.block _ hgv7).trans v7
        have hg7 : g < w7.heap.size ∨ m = 0 := by
          rcases o7.2 with ⟨hn, h0⟩ | ⟨g', _, _, hv, _, hgg, _⟩
          · cases hn
          · simp only [Value.slice.injEq, Option.some.injEq, Addr.mk.injEq, and_true, true_and] at hv
            obtain ⟨rfl, _⟩ := hv
            exact .inl (Array.getElem?_eq_some_iff.1 hgg).1
        have o8 : OwnS w8 w5.heap.size (some ⟨g, 0, none⟩) m (rdL xs m) := World.ownsRow.kept (row := none) o7 ⟨b8.os, b8.tape, b8.output, b8.size, fun k hk _ => b8.block k hk⟩ (.inr (by simp [Value.ownBlock]))
        clear i7 b8 v7 o7 hsr hgv7 hg7
        go_wp2_with fail
        refine (demand_yes _).mono ?_
        rintro e w' ⟨rfl, rfl⟩
        have y1 : w8.cell? ⟨w.heap.size + 1, 1, none⟩ = some (.int .i64 ((14 + 10 * m : Nat) : Int)) := by rw [cell_of_row _ _ _ _ _ _ i8.rd.blk]; rfl
        generalize hae : 14 + 10 * m = a8 at *
        have HAE := Lib.hid hae
        clear hae
        go_wp2_with fail
        refine (noughts_any w8 _ A c xs m a8 i8.rd hm4 HAE.out.symm).mono ?_
        rintro e w9 ⟨k9, ⟨hz, rfl, r9⟩ | ⟨hz, rfl⟩⟩
        · have i9 := i8.next k9 r9
          have hgv8 : gv < w8.heap.size := (Array.getElem?_eq_some_iff.1 v8).1
          have v9 := (k9.block gv hgv8 (by omega)).trans v8
          have o9 := rowS_keeps o8 k9 (by omega)
          have HZ := Lib.hid hz
          clear i8 k9 r9 v8 o8 hgv8 y1 hz
          go_wp2_with fail
          refine wp_region_any (by kernel_rfl) ?_
          change wpAny _ _ _ _ _ _ _ (World.drew w9)
          have kd : Keeps (fun _ => False) w9 w9.drew := Keeps.drew _ _
          have i10 := i9.other HBR.out kd (fun b e => e.elim)
          have v10 : w9.drew.heap[gv]? = some (.cells #[.int .u64 (gn : Int), .slice (some ⟨g, 0, none⟩) m m] 25 (0, 0)) := v9
          have o10 := rowS_keeps o9 kd (fun e => e.elim)
          clear i9 v9 o9 kd
          generalize w9.drew = w10 at *
          refine wpAny_take (oi := ⟨_, _, _, _, _, _⟩) (i := 0) (v := .pointer (some ⟨w.heap.size + 1, 0, none⟩)) rfl (by kernel_rfl) (by kernel_rfl) (by kernel_rfl) (fun _ _ _ h => h) (Or.inl ⟨by rfl, fun _ => rfl⟩) ?_
          refine wpAny_take (oi := ⟨_, _, _, _, _, _⟩) (i := 2) (v := .slice A 64 c) rfl (by kernel_rfl) (by kernel_rfl) (by kernel_rfl) (fun _ _ _ h => h) (Or.inl ⟨by rfl, fun _ => rfl⟩) ?_
          refine wpAny_take (oi := ⟨_, _, _, _, _, _⟩) (i := 3) (v := .slice A 60 c) rfl (by kernel_rfl) (by kernel_rfl) (by kernel_rfl) (fun _ _ _ h => h) (Or.inl ⟨by rfl, fun w => by go_simp⟩) ?_
          simp only [Act.put, List.setIfInBounds_toArray, List.set_cons_zero, List.set_cons_succ]
          refine wpAny_of_chain [1, 4, 5, 6, 7] [_, _, _, _, _] _ _ _ rfl (by kernel_rfl) ?_
          go_wp2_with fail
          generalize hq6 : num xs ((60 : Nat) : Int) 4 = q6
          have HQ6 : Hid (num xs 60 4 = q6) := hq6
          refine (rdNum _ _ A c xs 60 4 4 q6 i10.rd (by decide) (by decide) rfl hq6).mono ?_
          rintro e w11 ⟨rfl, r11, k11⟩
          have i11 := i10.next k11 r11
          have hgv10 : gv < w10.heap.size := (Array.getElem?_eq_some_iff.1 v10).1
          have v11 := (k11.block gv hgv10 (by omega)).trans v10
          have o11 := rowS_keeps o10 k11 (by omega)
          clear i10 v10 o10 hgv10 r11 k11 hq6
          go_wp2_with fail
          have hq := crcOf_lt (xs.take 60)
          generalize hqe : crcOf (xs.take 60) = q at hq
          have HQ := Lib.hid hqe
          refine (leCrc60 _ _ _ q _ i11.rd.br H64.out hqe).mono ?_
          clear hqe
          rintro e w' ⟨rfl, rfl⟩
          have x0 : w'.cell? ⟨gv, 0, none⟩ = some (.int .u64 (gn : Int)) := by rw [cell_of_row _ _ _ _ _ _ v11]; rfl
          have x1 : w'.cell? ⟨gv, 1, none⟩ = some (.slice (some ⟨g, 0, none⟩) m m) := by rw [cell_of_row _ _ _ _ _ _ v11]; rfl
          have y0 : w'.cell? ⟨w.heap.size, 0, none⟩ = some (.int .u64 0) := by rw [cell_of_row _ _ _ _ _ _ i11.res]; rfl
          have y1 : w'.cell? ⟨w.heap.size, 1, none⟩ = some (.slice none 0 0) := by rw [cell_of_row _ _ _ _ _ _ i11.res]; rfl
          have z0 := frozen_of_row w' w.heap.size 0 _ _ i11.res
          have z1 := frozen_of_row w' w.heap.size 1 _ _ i11.res
          by_cases hsum : q6 = q
          · have HS : Hid (num xs 60 4 = crcOf (xs.take 60)) := by
              show _ = _
              rw [HQ6.out, HQ.out, hsum]
            subst hsum
            go_wp2_with fail
            refine (demand_yes _).mono ?_
            rintro e w12 ⟨rfl, rfl⟩
            go_wp2_with fail
            refine bodyPost_ret (v := .agg #[.int .u64 (gn : Int), .slice (some ⟨g, 0, none⟩) m m]) (by simp [results, Try.results28, go_sem, y0, y1]) rfl ?_
            have hfin := rec_end (g := g) (B := w5.heap.size) i11 (by omega) (by rw [HM.out]; exact o11) (by omega) (recB_yes H64.out HQ0.out (by rw [HM.out]; exact hm4) (by rw [HM.out, HG.out]; exact HY.out) (by rw [HM.out]; exact HZ.out) HS.out) (.int .u64 (gn : Int)) (.slice (some ⟨g, 0, none⟩) m m) m
            rw [HM.out, HG.out] at hfin
            exact hfin
          · have HS : Hid (num xs 60 4 ≠ crcOf (xs.take 60)) := by
              show _ ≠ _
              rw [HQ6.out, HQ.out]; exact hsum
            have hb : ((q6 : Int) == (q : Int)) = false := by simpa using (by omega : ¬ (q6 : Int) = (q : Int))
            have hb2 : (q6 == q) = false := by simpa using hsum
            clear hsum
            go_wp2_with fail
            refine (demand_no _).mono ?_
            rintro e w12 ⟨rfl, rfl⟩
            exact ⟨rfl, recOut_no (recB_sum HS.out) i11.bel⟩
        · have b9 : Below w.heap.size w w9 := i8.bel.trans (k9.toBelow _ i8.bel.size (fun b e => by omega))
          exact ⟨rfl, recOut_no (recB_zeros (by rw [HM.out]; exact hz)) b9⟩
    · refine (snaps_no w5 m _ _ (by omega) hm).mono ?_
      rintro e w' ⟨rfl, rfl⟩
      exact ⟨rfl, recOut_no (recB_many (by rw [HM.out]; omega)) i5.bel⟩
  · have hb : ((q0 : Int) == 1280459075) = false := by simpa using (by omega : ¬ (q0 : Int) = 1280459075)
    have HN : Hid (num xs 0 4 ≠ 1280459075) := by
      show num xs 0 4 ≠ _
      have := HQ0.out
      rw [show num xs 0 4 = q0 from this]
      exact hmark
    clear hmark
    go_wp2_with fail
    refine (demand_no _).mono ?_
    rintro e w' ⟨rfl, rfl⟩
    exact ⟨rfl, recOut_no (recB_mark HN.out) i2.bel⟩
end Go.Proofs.Ytlefpnplibmgiaa
