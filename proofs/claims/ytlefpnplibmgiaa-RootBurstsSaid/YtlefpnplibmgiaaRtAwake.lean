/-
  The contract of awake: chapter 3's example.
-/
import Derived.Test.YtlefpnplibmgiaaRtCh
namespace Go.Proofs.Ytlefpnplibmgiaa
open Go.RowKit

def exL : List Sn := [⟨2, 9⟩]
theorem ex_may : mayB 2 exL = true := by decide
theorem ex_dec : decB (encL 2 exL) = true ∧ genOf (encL 2 exL) = 2 ∧ rdL (encL 2 exL) (manyOf (encL 2 exL)) = exL := dec_enc 2 exL ex_may (by decide) (by decide)
theorem ex_14 : (encL 2 exL).getD 14 0 = 2 := by rw [encL_get 2 exL 14 (by decide) (by decide)]; decide
theorem ex_22 : (encL 2 exL).getD 22 0 = 9 := by rw [encL_get 2 exL 22 (by decide) (by decide)]; decide
theorem dec_nil : decB [] = false := by decide
theorem ex_ch : chW [] (encL 2 exL) = 1 := chW_second dec_nil ex_dec.1

theorem enc_good (g : Nat) (A : Option Addr) (l : List Sn) (c n : Nat) (w : World) (hx : SR w w.heap.size A l) (hl : l.length ≤ 9223372036854775807) (hn : l.length = n) (hm : mayB g l = true) :
    Calls Try.prog 10 #[agR g A n c] w fun e w' => ∃ R c', e = .returned (.tuple #[.slice R 64 c', .int .i64 0]) ∧ BR w' w'.heap.size R (encL g l) ∧ Below w.heap.size w w' ∧ 64 ≤ c' := by
  subst hn
  refine (enc_any g A l c w hx hl).mono ?_
  rintro e w' ⟨R, c', rfl, hr, hb, hc⟩
  have e1 : encOut g l = encL g l := by simp [encOut, hm]
  have e2 : encErr g l = 0 := by simp [encErr, hm]
  rw [e1] at hr hc
  rw [encL_len] at hc
  exact ⟨R, c', by rw [e1, e2, encL_len], hr, hb, hc⟩
theorem dec_good (A : Option Addr) (xs : List UInt8) (c n g : Nat) (w : World) (hx : BR w w.heap.size A xs) (hn : xs.length = n) (hc : n ≤ c) (hd : decB xs = true) (hg : genOf xs = g) :
    Calls Try.prog 13 #[.slice A n c] w fun e w' => ∃ R c', e = .returned (.tuple #[agR g R (rdL xs (manyOf xs)).length c', .int .i64 0]) ∧ SR w' w'.heap.size R (rdL xs (manyOf xs)) ∧ Below w.heap.size w w' := by
  subst hn hg
  refine (dec_any A xs c w hx hc).mono ?_
  rintro e w' ⟨R, c', rfl, hr, hb, _⟩
  have e1 : decG xs = genOf xs := by simp [decG, hd]
  have e2 : decS xs = rdL xs (manyOf xs) := by simp [decS, hd]
  have e3 : decE xs = 0 := by simp [decE, hd]
  rw [e2] at hr
  exact ⟨R, c', by rw [e1, e2, e3], hr, hb⟩

set_option maxHeartbeats 1000000 in
theorem awake_any (w : World) :
    Calls Try.prog 9 #[] w fun e w' => e = .returned (.bool true) ∧ Below w.heap.size w w' := by
  go_enter Try.func9, Try.ntmps9
  go_wp2_with fail
  have en := heap_alloc_new w (.cells #[.int .u64 2, .int .i64 9] 50)
  have hsr : SR (w.alloc (.cells #[.int .u64 2, .int .i64 9] 50)) (w.alloc (.cells #[.int .u64 2, .int .i64 9] 50)).heap.size (some ⟨w.heap.size, 0, none⟩) exL := by
    intro _
    refine ⟨_, rfl, by simp, fun k s hs => ?_⟩
    match k, hs with
    | 0, hs =>
      cases hs
      refine ⟨?_, ?_⟩
      · show World.cell? _ ⟨w.heap.size, 0, none⟩ = _
        rw [cell_of_row _ _ _ _ _ _ en]; rfl
      · show World.cell? _ ⟨w.heap.size, 1, none⟩ = _
        rw [cell_of_row _ _ _ _ _ _ en]; rfl
    | k + 1, hs => simp [exL] at hs
  refine (enc_good 2 _ exL 1 1 _ hsr (by decide) rfl ex_may).mono ?_
  clear en hsr
  rintro e w1 ⟨R, c1, rfl, br1, b1, hc1⟩
  have bw : Below w.heap.size w w1 := ((Below.refl _ _).alloc (Nat.le_refl _) _).trans (b1.mono (by simp))
  obtain ⟨ad, rfl, _, d14⟩ := br1.at_ (k := 14) (by rw [encL_len]; omega)
  obtain ⟨ad', e', _, d22⟩ := br1.at_ (k := 22) (by rw [encL_len]; omega)
  cases e'
  rw [ex_14] at d14
  rw [ex_22] at d22
  change w1.cell? ⟨ad.block, ad.off + 14, none⟩ = some (.int .u8 2) at d14
  change w1.cell? ⟨ad.block, ad.off + 22, none⟩ = some (.int .u8 9) at d22
  clear b1
  go_wp2_with fail
  refine (dec_good _ (encL 2 exL) c1 64 2 _ br1 (encL_len _ _) hc1 ex_dec.1 ex_dec.2.1).mono ?_
  rintro e w2 ⟨R2, c2, rfl, _, b2⟩
  have bw2 := bw.trans (b2.mono bw.size)
  have br2 := (br1.below b2).more b2.size
  clear b2 br1 d14 d22 bw
  go_wp2_with fail
  have b3 : Below w2.heap.size w2 (w2.alloc (.cells #[.int .u64 2, .slice R2 (rdL (encL 2 exL) (manyOf (encL 2 exL))).length c2] 25)) := (Below.refl _ _).alloc (Nat.le_refl _) _
  have bw3 := bw2.trans (b3.mono bw2.size)
  have br3 := (br2.below b3).more b3.size
  have v3 := heap_alloc_new w2 (.cells #[.int .u64 2, .slice R2 (rdL (encL 2 exL) (manyOf (encL 2 exL))).length c2] 25)
  generalize w2.alloc (.cells #[.int .u64 2, .slice R2 (rdL (encL 2 exL) (manyOf (encL 2 exL))).length c2] 25) = w3 at *
  clear b3 bw2 br2
  have hch := choose_any none [] 0 (some ad) (encL 2 exL) c1 w3 BR.nil br3 (by decide) (by rw [encL_len]; exact hc1)
  rw [encL_len] at hch
  refine Calls.mono (R := GivesCh w3 [] (encL 2 exL)) hch ?_
  clear hch
  rintro e w4 ⟨R4, c4, rfl, _, b4⟩
  have e2 : chN [] (encL 2 exL) = 1 := by simp [chN, ex_ch]
  have e3 : chE [] (encL 2 exL) = 0 := by simp [chE, ex_ch]
  rw [e2, e3]
  have hv : w2.heap.size < w3.heap.size := (Array.getElem?_eq_some_iff.1 v3).1
  have v4 := (b4.block _ hv).trans v3
  have x0 : w4.cell? ⟨w2.heap.size, 0, none⟩ = some (.int .u64 2) := by rw [cell_of_row _ _ _ _ _ _ v4]; rfl
  have hs4 := Nat.lt_of_lt_of_le hv b4.size
  have bw4 := bw3.trans (b4.mono bw3.size)
  clear e2 e3 v3 v4 b4 bw3 br3 hv
  generalize decG (chB [] (encL 2 exL)) = g4
  generalize (decS (chB [] (encL 2 exL))).length = n4
  go_wp2_with fail
  go_ret
  exact ⟨rfl, bw4.alloc bw4.size _⟩
end Go.Proofs.Ytlefpnplibmgiaa
