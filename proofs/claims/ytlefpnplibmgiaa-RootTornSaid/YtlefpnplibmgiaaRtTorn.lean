/-
  The contracts of root.Torn and of the document's Torn.
-/
import Derived.Test.YtlefpnplibmgiaaRtCh
import Derived.Test.YtlefpnplibmgiaaMixC
namespace Go.Proofs.Ytlefpnplibmgiaa
open Go.RowKit

/-- What a torn sector is. -/
def tornV (b now old : List UInt8) : Int := if decB b = false then 0 else if b = now then 2 else if b = old then 1 else 3
theorem dec_enc_self {b : List UInt8} (h : decB b = true) : encL (genOf b) (rdL b (manyOf b)) = b := by
  simp only [decB, Bool.and_eq_true, decide_eq_true_eq] at h
  exact h.2
theorem dec_same {a b : List UInt8} (h1 : decB a = true) (h2 : decB b = true) : (decG a = decG b ∧ decS a = decS b) ↔ a = b := by
  have e1 : decG a = genOf a := by simp [decG, h1]
  have e2 : decG b = genOf b := by simp [decG, h2]
  have e3 : decS a = rdL a (manyOf a) := by simp [decS, h1]
  have e4 : decS b = rdL b (manyOf b) := by simp [decS, h2]
  constructor
  · rw [e1, e2, e3, e4]
    rintro ⟨p, q⟩
    rw [← dec_enc_self h1, ← dec_enc_self h2, p, q]
  · rintro rfl; exact ⟨rfl, rfl⟩
theorem decS_len (b : List UInt8) : (decS b).length ≤ 9223372036854775807 := by
  unfold decS
  split
  · rw [rdL_len]; have := manyOf_lt b; omega
  · simp

theorem equal_is (b : Bool) (A : Option Addr) (xs : List UInt8) (c : Nat) (A' : Option Addr) (ys : List UInt8) (c' : Nat) (w : World) (hx : BR w w.heap.size A xs) (hy : BR w w.heap.size A' ys) (hb : decide (xs = ys) = b) :
    Calls Try.prog 31 #[.slice A xs.length c, .slice A' ys.length c'] w fun e w' => e = .returned (.bool b) ∧ w = w' := by
  subst hb; exact equal_any A xs c A' ys c' w hx hy
theorem sameR_is (b : Bool) (g : Nat) (A : Option Addr) (l : List Sn) (c : Nat) (g' : Nat) (A' : Option Addr) (l' : List Sn) (c' : Nat) (w : World) (hx : SR w w.heap.size A l) (hx' : SR w w.heap.size A' l') (hl : l.length ≤ 9223372036854775807) (hl' : l'.length ≤ 9223372036854775807) (hb : decide (g = g' ∧ l = l') = b) :
    Calls Try.prog 15 #[agR g A l.length c, agR g' A' l'.length c'] w fun e w' => e = .returned (.bool b) ∧ Below w.heap.size w w' := by
  subst hb; exact sameR_any g A l c g' A' l' c' w hx hx' hl hl'

def IntOut (w : World) (n : Int) (e : Ending) (w' : World) : Prop := e = .returned (.int .i64 n) ∧ Below w.heap.size w w'

set_option maxHeartbeats 1000000 in
theorem torn_any (A : Option Addr) (xs : List UInt8) (c : Nat) (A' : Option Addr) (ys : List UInt8) (c' : Nat) (cut : Int) (head : Bool) (w : World) (hx : BR w w.heap.size A xs) (hy : BR w w.heap.size A' ys) (hl : xs.length ≤ 1000000) (hl' : ys.length ≤ 1000000) :
    Calls Try.prog 18 #[.slice A xs.length c, .slice A' ys.length c', .int .i64 cut, .bool head] w (IntOut w (tornV (mixL ys xs (clamp cut ys.length) head) ys xs)) := by
  go_enter Try.func18, Try.ntmps18
  go_wp2_with fail
  refine (leMix_cap A' ys c' A xs c cut head w hy hx hl' hl).mono ?_
  rintro e w1 ⟨R1, c1, rfl, br1, b1, hc1⟩
  generalize mixL ys xs (clamp cut ys.length) head = zs at *
  go_wp2_with fail
  refine (dec_any R1 zs c1 w1 br1 hc1).mono ?_
  rintro e w2 ⟨R2, c2, rfl, _, b2, _⟩
  have bw := b1.trans (b2.mono b1.size)
  have br2 := (br1.below b2).more b2.size
  have hx2 := (hx.below bw).more bw.size
  have hy2 := (hy.below bw).more bw.size
  have hE := decE_is zs
  generalize decE zs = d at *
  generalize decG zs = g at *
  generalize (decS zs).length = n at *
  clear br1 b1 b2 hx hy
  have b3 : Below w2.heap.size w2 (w2.alloc (.cells #[.int .u64 (g : Int), .slice R2 n c2] 25)) := (Below.refl _ _).alloc (Nat.le_refl _) _
  have bw3 := bw.trans (b3.mono bw.size)
  have br3 := (br2.below b3).more b3.size
  have hx3 := (hx2.below b3).more b3.size
  have hy3 := (hy2.below b3).more b3.size
  clear br2 hx2 hy2 bw b3
  rcases hE with ⟨hb, rfl⟩ | ⟨hb, rfl⟩
  · have HB := Lib.hid hb
    clear hb
    by_cases h1 : zs = ys
    · have H1 := Lib.hid h1
      clear h1
      go_wp2_with fail
      refine (equal_is true _ _ _ _ _ _ _ br3 hy3 (decide_eq_true H1.out)).mono ?_
      rintro e w' ⟨rfl, rfl⟩
      go_wp2_with fail
      go_ret
      refine ⟨?_, bw3⟩
      unfold tornV
      rw [if_neg (by rw [HB.out]; simp), if_pos H1.out]
      rfl
    · have H1 := Lib.hid h1
      clear h1
      go_wp2_with fail
      refine (equal_is false _ _ _ _ _ _ _ br3 hy3 (decide_eq_false H1.out)).mono ?_
      rintro e w' ⟨rfl, e'⟩
      subst e'
      by_cases h2 : zs = xs
      · have H2 := Lib.hid h2
        clear h2
        go_wp2_with fail
        refine (equal_is true _ _ _ _ _ _ _ br3 hx3 (decide_eq_true H2.out)).mono ?_
        rintro e w' ⟨rfl, rfl⟩
        go_wp2_with fail
        go_ret
        refine ⟨?_, bw3⟩
        unfold tornV
        rw [if_neg (by rw [HB.out]; simp), if_neg H1.out, if_pos H2.out]
        rfl
      · have H2 := Lib.hid h2
        clear h2
        go_wp2_with fail
        refine (equal_is false _ _ _ _ _ _ _ br3 hx3 (decide_eq_false H2.out)).mono ?_
        rintro e w' ⟨rfl, rfl⟩
        go_wp2_with fail
        go_ret
        refine ⟨?_, bw3⟩
        unfold tornV
        rw [if_neg (by rw [HB.out]; simp), if_neg H1.out, if_neg H2.out]
        rfl
  · have HB := Lib.hid hb
    clear hb
    go_wp2_with fail
    go_ret
    refine ⟨?_, bw3⟩
    unfold tornV
    rw [if_pos HB.out]
    rfl

set_option maxHeartbeats 2000000 in
theorem refTorn_any (A : Option Addr) (xs : List UInt8) (c : Nat) (A' : Option Addr) (ys : List UInt8) (c' : Nat) (cut : Int) (head : Bool) (w : World) (hx : BR w w.heap.size A xs) (hy : BR w w.heap.size A' ys) (hl : xs.length ≤ 1000000) (hl' : ys.length ≤ 1000000) :
    Calls Try.prog 19 #[.slice A xs.length c, .slice A' ys.length c', .int .i64 cut, .bool head] w (IntOut w (tornV (mixL ys xs (clamp cut ys.length) head) ys xs)) := by
  go_enter Try.func19, Try.ntmps19
  go_wp2_with fail
  refine (refMix_any A' ys c' A xs c cut head w hy hx hl' hl).mono ?_
  rintro e w1 ⟨R1, c1, rfl, br1, b1⟩
  generalize mixL ys xs (clamp cut ys.length) head = zs at *
  go_wp2_with fail
  refine (refDec_any R1 zs c1 w1 br1).mono ?_
  rintro e w2 ⟨R2, c2, rfl, s2, b2, _⟩
  have bw := b1.trans (b2.mono b1.size)
  have hE := decE_is zs
  generalize hge : decG zs = g at *
  generalize hde : decE zs = d at *
  have HG := Lib.hid hge
  clear hge hde br1 b1 b2
  have b3 : Below w2.heap.size w2 (w2.alloc (.cells #[.int .u64 (g : Int), .slice R2 (decS zs).length c2] 25)) := (Below.refl _ _).alloc (Nat.le_refl _) _
  have v3 := heap_alloc_new w2 (.cells #[.int .u64 (g : Int), .slice R2 (decS zs).length c2] 25)
  have bw3 := bw.trans (b3.mono bw.size)
  have s3 := (s2.below b3).more b3.size
  clear s2 bw b3
  rcases hE with ⟨hb, rfl⟩ | ⟨hb, rfl⟩
  · have HB := Lib.hid hb
    clear hb
    go_wp2_with fail
    generalize w2.alloc (.cells #[.int .u64 (g : Int), .slice R2 (decS zs).length c2] 25) = w3 at *
    generalize w2.heap.size = gv at *
    refine (refDec_any A' ys c' w3 ((hy.below bw3).more bw3.size)).mono ?_
    rintro e w4 ⟨R4, c4, rfl, s4, b4, _⟩
    have hE4 := decE_is ys
    generalize hg4 : decG ys = g4 at *
    generalize hd4 : decE ys = d4 at *
    have HG4 := Lib.hid hg4
    clear hg4 hd4
    have hgv3 : gv < w3.heap.size := (Array.getElem?_eq_some_iff.1 v3).1
    have v4 := (b4.block _ hgv3).trans v3
    have bw4 := bw3.trans (b4.mono bw3.size)
    have s4' : SR w4 w4.heap.size R2 (decS zs) := (s3.below b4).more b4.size
    have hgv4 := Nat.lt_of_lt_of_le hgv3 b4.size
    clear b4 v3 s3 bw3 hgv3
    have b5 : Below w4.heap.size w4 (w4.alloc (.cells #[.int .u64 (g4 : Int), .slice R4 (decS ys).length c4] 25)) := (Below.refl _ _).alloc (Nat.le_refl _) _
    have v5 := (b5.block _ hgv4).trans v4
    have bw5 := bw4.trans (b5.mono bw4.size)
    have s5 := (s4'.below b5).more b5.size
    have s5' := (s4.below b5).more b5.size
    have x0 : (w4.alloc (.cells #[.int .u64 (g4 : Int), .slice R4 (decS ys).length c4] 25)).cell? ⟨gv, 0, none⟩ = some (.int .u64 (g : Int)) := by rw [cell_of_row _ _ _ _ _ _ v5]; rfl
    have x1 : (w4.alloc (.cells #[.int .u64 (g4 : Int), .slice R4 (decS ys).length c4] 25)).cell? ⟨gv, 1, none⟩ = some (.slice R2 (decS zs).length c2) := by rw [cell_of_row _ _ _ _ _ _ v5]; rfl
    clear v4 b5 s4 s4' bw4
    rcases hE4 with ⟨hb4, rfl⟩ | ⟨hb4, rfl⟩
    · have HB4 := Lib.hid hb4
      clear hb4
      by_cases h1 : zs = ys
      · have H1 := Lib.hid h1
        clear h1
        go_wp2_with fail
        refine (sameR_is true _ _ _ _ _ _ _ _ _ s5 s5' (decS_len _) (decS_len _) (by rw [← HG.out, ← HG4.out]; exact decide_eq_true ((dec_same HB.out HB4.out).2 H1.out))).mono ?_
        rintro e w8 ⟨rfl, b8⟩
        have bw8 := bw5.trans (b8.mono bw5.size)
        clear b8 x0 x1 s5 s5'
        go_wp2_with fail
        go_ret
        refine ⟨?_, bw8⟩
        unfold tornV
        rw [if_neg (by rw [HB.out]; simp), if_pos H1.out]
        rfl
      · have H1 := Lib.hid h1
        clear h1
        go_wp2_with fail
        refine (sameR_is false _ _ _ _ _ _ _ _ _ s5 s5' (decS_len _) (decS_len _) (by rw [← HG.out, ← HG4.out]; exact decide_eq_false (fun h => H1.out ((dec_same HB.out HB4.out).1 h)))).mono ?_
        rintro e w8 ⟨rfl, b8⟩
        have hgvA : gv < (w4.alloc (.cells #[.int .u64 (g4 : Int), .slice R4 (decS ys).length c4] 25)).heap.size := (Array.getElem?_eq_some_iff.1 v5).1
        have v5' := (b8.block _ hgvA).trans v5
        have bw5' := bw5.trans (b8.mono bw5.size)
        have s5'' := (s5.below b8).more b8.size
        clear b8 x0 x1 s5 s5' v5 bw5 hgvA
        go_wp2_with fail
        obtain ⟨w5, hw5⟩ : ∃ w5 : World, w5 = w8 := ⟨_, rfl⟩
        subst hw5
        have v5 := v5'
        have bw5 := bw5'
        have s5 := s5''
        have hx5 : BR w5 w5.heap.size A xs := (hx.below bw5).more bw5.size
        clear v5' bw5' s5''
        refine (refDec_any A xs c w5 hx5).mono ?_
        rintro e w6 ⟨R6, c6, rfl, s6, b6, _⟩
        have hE6 := decE_is xs
        generalize hg6 : decG xs = g6 at *
        generalize hd6 : decE xs = d6 at *
        have HG6 := Lib.hid hg6
        clear hg6 hd6
        have hgv5 : gv < w5.heap.size := (Array.getElem?_eq_some_iff.1 v5).1
        have v6 := (b6.block _ hgv5).trans v5
        have bw6 := bw5.trans (b6.mono bw5.size)
        have s5' : SR w6 w6.heap.size R2 (decS zs) := (s5.below b6).more b6.size
        have hgv6 := Nat.lt_of_lt_of_le hgv5 b6.size
        clear b6 v5 s5 bw5 hgv5 hx5
        have b7 : Below w6.heap.size w6 (w6.alloc (.cells #[.int .u64 (g6 : Int), .slice R6 (decS xs).length c6] 25)) := (Below.refl _ _).alloc (Nat.le_refl _) _
        have v7 := heap_alloc_new w6 (.cells #[.int .u64 (g6 : Int), .slice R6 (decS xs).length c6] 25)
        have v6' := (b7.block _ hgv6).trans v6
        have bw7 := bw6.trans (b7.mono bw6.size)
        have s7 := (s5'.below b7).more b7.size
        have s7' := (s6.below b7).more b7.size
        have x0 : (w6.alloc (.cells #[.int .u64 (g6 : Int), .slice R6 (decS xs).length c6] 25)).cell? ⟨gv, 0, none⟩ = some (.int .u64 (g : Int)) := by rw [cell_of_row _ _ _ _ _ _ v6']; rfl
        have x1 : (w6.alloc (.cells #[.int .u64 (g6 : Int), .slice R6 (decS xs).length c6] 25)).cell? ⟨gv, 1, none⟩ = some (.slice R2 (decS zs).length c2) := by rw [cell_of_row _ _ _ _ _ _ v6']; rfl
        clear v6 v6' b7 s5' s6 v7
        rcases hE6 with ⟨hb6, rfl⟩ | ⟨hb6, rfl⟩
        · have HB6 := Lib.hid hb6
          clear hb6
          by_cases h2 : zs = xs
          · have H2 := Lib.hid h2
            clear h2
            go_wp2_with fail
            refine (sameR_is true _ _ _ _ _ _ _ _ _ s7 s7' (decS_len _) (decS_len _) (by rw [← HG.out, ← HG6.out]; exact decide_eq_true ((dec_same HB.out HB6.out).2 H2.out))).mono ?_
            rintro e w8 ⟨rfl, b8⟩
            have bw8 := bw7.trans (b8.mono bw7.size)
            clear b8 x0 x1 s7 s7'
            go_wp2_with fail
            go_ret
            refine ⟨?_, bw8⟩
            unfold tornV
            rw [if_neg (by rw [HB.out]; simp), if_neg H1.out, if_pos H2.out]
            rfl
          · have H2 := Lib.hid h2
            clear h2
            go_wp2_with fail
            refine (sameR_is false _ _ _ _ _ _ _ _ _ s7 s7' (decS_len _) (decS_len _) (by rw [← HG.out, ← HG6.out]; exact decide_eq_false (fun h => H2.out ((dec_same HB.out HB6.out).1 h)))).mono ?_
            rintro e w8 ⟨rfl, b8⟩
            have bw8 := bw7.trans (b8.mono bw7.size)
            clear b8 x0 x1 s7 s7'
            go_wp2_with fail
            go_ret
            refine ⟨?_, bw8⟩
            unfold tornV
            rw [if_neg (by rw [HB.out]; simp), if_neg H1.out, if_neg H2.out]
            rfl
        · have H2 : Hid (zs ≠ xs) := by
            show zs ≠ xs
            intro e
            have := HB.out
            rw [e, hb6] at this
            cases this
          clear hb6
          go_wp2_with fail
          go_ret
          refine ⟨?_, bw7⟩
          unfold tornV
          rw [if_neg (by rw [HB.out]; simp), if_neg H1.out, if_neg H2.out]
          rfl
    · have H1 : Hid (zs ≠ ys) := by
        show zs ≠ ys
        intro e
        have := HB.out
        rw [e, hb4] at this
        cases this
      clear hb4 x0 x1 s5'
      go_wp2_with fail
      generalize w4.alloc (.cells #[.int .u64 (g4 : Int), .slice R4 (decS ys).length c4] 25) = w5 at *
      have hx5 : BR w5 w5.heap.size A xs := (hx.below bw5).more bw5.size
      refine (refDec_any A xs c w5 hx5).mono ?_
      rintro e w6 ⟨R6, c6, rfl, s6, b6, _⟩
      have hE6 := decE_is xs
      generalize hg6 : decG xs = g6 at *
      generalize hd6 : decE xs = d6 at *
      have HG6 := Lib.hid hg6
      clear hg6 hd6
      have hgv5 : gv < w5.heap.size := (Array.getElem?_eq_some_iff.1 v5).1
      have v6 := (b6.block _ hgv5).trans v5
      have bw6 := bw5.trans (b6.mono bw5.size)
      have s5' : SR w6 w6.heap.size R2 (decS zs) := (s5.below b6).more b6.size
      have hgv6 := Nat.lt_of_lt_of_le hgv5 b6.size
      clear b6 v5 s5 bw5 hgv5 hx5
      have b7 : Below w6.heap.size w6 (w6.alloc (.cells #[.int .u64 (g6 : Int), .slice R6 (decS xs).length c6] 25)) := (Below.refl _ _).alloc (Nat.le_refl _) _
      have v7 := heap_alloc_new w6 (.cells #[.int .u64 (g6 : Int), .slice R6 (decS xs).length c6] 25)
      have v6' := (b7.block _ hgv6).trans v6
      have bw7 := bw6.trans (b7.mono bw6.size)
      have s7 := (s5'.below b7).more b7.size
      have s7' := (s6.below b7).more b7.size
      have x0 : (w6.alloc (.cells #[.int .u64 (g6 : Int), .slice R6 (decS xs).length c6] 25)).cell? ⟨gv, 0, none⟩ = some (.int .u64 (g : Int)) := by rw [cell_of_row _ _ _ _ _ _ v6']; rfl
      have x1 : (w6.alloc (.cells #[.int .u64 (g6 : Int), .slice R6 (decS xs).length c6] 25)).cell? ⟨gv, 1, none⟩ = some (.slice R2 (decS zs).length c2) := by rw [cell_of_row _ _ _ _ _ _ v6']; rfl
      clear v6 v6' b7 s5' s6 v7
      rcases hE6 with ⟨hb6, rfl⟩ | ⟨hb6, rfl⟩
      · have HB6 := Lib.hid hb6
        clear hb6
        by_cases h2 : zs = xs
        · have H2 := Lib.hid h2
          clear h2
          go_wp2_with fail
          refine (sameR_is true _ _ _ _ _ _ _ _ _ s7 s7' (decS_len _) (decS_len _) (by rw [← HG.out, ← HG6.out]; exact decide_eq_true ((dec_same HB.out HB6.out).2 H2.out))).mono ?_
          rintro e w8 ⟨rfl, b8⟩
          have bw8 := bw7.trans (b8.mono bw7.size)
          clear b8 x0 x1 s7 s7'
          go_wp2_with fail
          go_ret
          refine ⟨?_, bw8⟩
          unfold tornV
          rw [if_neg (by rw [HB.out]; simp), if_neg H1.out, if_pos H2.out]
          rfl
        · have H2 := Lib.hid h2
          clear h2
          go_wp2_with fail
          refine (sameR_is false _ _ _ _ _ _ _ _ _ s7 s7' (decS_len _) (decS_len _) (by rw [← HG.out, ← HG6.out]; exact decide_eq_false (fun h => H2.out ((dec_same HB.out HB6.out).1 h)))).mono ?_
          rintro e w8 ⟨rfl, b8⟩
          have bw8 := bw7.trans (b8.mono bw7.size)
          clear b8 x0 x1 s7 s7'
          go_wp2_with fail
          go_ret
          refine ⟨?_, bw8⟩
          unfold tornV
          rw [if_neg (by rw [HB.out]; simp), if_neg H1.out, if_neg H2.out]
          rfl
      · have H2 : Hid (zs ≠ xs) := by
          show zs ≠ xs
          intro e
          have := HB.out
          rw [e, hb6] at this
          cases this
        clear hb6
        go_wp2_with fail
        go_ret
        refine ⟨?_, bw7⟩
        unfold tornV
        rw [if_neg (by rw [HB.out]; simp), if_neg H1.out, if_neg H2.out]
        rfl
  · have HB := Lib.hid hb
    clear hb
    go_wp2_with fail
    go_ret
    refine ⟨?_, bw3⟩
    unfold tornV
    rw [if_pos HB.out]
    rfl
end Go.Proofs.Ytlefpnplibmgiaa
