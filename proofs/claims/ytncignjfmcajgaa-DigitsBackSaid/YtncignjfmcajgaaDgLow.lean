/-
  DgLow
-/
import Derived.Test.YtncignjfmcajgaaDgAwake
import Derived.Laws.IdiomStrings
namespace Go.Proofs.Ytncignjfmcajgaa.Dgt
open Go.RowKit
set_option linter.unusedVariables false
set_option linter.unusedSimpArgs false

/-- Block g holds these bytes, the first i of them made small. -/
structure SmR (w : World) (xs : List UInt8) (i : Nat) (wr : World) : Prop where
  cl : ∀ j, j < xs.length → wr.cell? ⟨w.heap.size, j, none⟩ = some (B8 (if j < i then lowC (xs.getD j 0) else xs.getD j 0))
  fz : ∀ j, j < xs.length → wr.frozen? ⟨w.heap.size, j, none⟩ = false
  bel : Below w.heap.size w wr
theorem SmR.start (xs : List UInt8) (w : World) : ∃ cap W, (convert 9 31 (St xs)).run Try.prog w = .ok (.slice (some ⟨w.heap.size, 0, none⟩) xs.length cap) W ∧ SmR w xs 0 W := by
  have h := run_bytes_of_string (P := Try.prog) w 9 31 5 ⟨xs.toArray⟩ Try.underlying9 Try.underlying31 Try.underlying5
  rw [st_size] at h
  generalize grownCap w xs.length 0 5 = cap at h
  refine ⟨cap, _, h, ?_, ?_, ?_⟩
  · intro j hj
    have hh : (w.drew.alloc (.cells (bytesRow ⟨xs.toArray⟩ cap) 5 ((bytesRow ⟨xs.toArray⟩ cap).size, (bytesRow ⟨xs.toArray⟩ cap).size + 1))).heap[w.heap.size]? = some (.cells (bytesRow ⟨xs.toArray⟩ cap) 5 ((bytesRow ⟨xs.toArray⟩ cap).size, (bytesRow ⟨xs.toArray⟩ cap).size + 1)) := by
      show (w.heap.push _)[w.heap.size]? = _
      simp
    simp only [World.cell?, hh]
    simp only [Nat.not_lt_zero, if_false]
    simp only [bytesRow]
    rw [Array.getElem?_append_left (by simpa using hj)]
    simp [hj, List.getD_eq_getElem?_getD]
  · intro j hj
    have hh : (w.drew.alloc (.cells (bytesRow ⟨xs.toArray⟩ cap) 5 ((bytesRow ⟨xs.toArray⟩ cap).size, (bytesRow ⟨xs.toArray⟩ cap).size + 1))).heap[w.heap.size]? = some (.cells (bytesRow ⟨xs.toArray⟩ cap) 5 ((bytesRow ⟨xs.toArray⟩ cap).size, (bytesRow ⟨xs.toArray⟩ cap).size + 1)) := by
      show (w.heap.push _)[w.heap.size]? = _
      simp
    have hs : xs.length ≤ (bytesRow ⟨xs.toArray⟩ cap).size := by simp [bytesRow]
    simp only [World.frozen?, hh]
    simp
    omega
  · exact ((Below.refl w.heap.size w).trans (⟨rfl, rfl, rfl, Nat.le_refl _, fun _ _ => rfl⟩ : Below w.heap.size w w.drew)).alloc (Nat.le_refl _) _
theorem SmR.skip {w wr : World} {xs : List UInt8} {i : Nat} (h : SmR w xs i wr) (hi : i < xs.length) (hc : lowC (xs.getD i 0) = xs.getD i 0) : SmR w xs (i + 1) wr := by
  refine ⟨fun j hj => ?_, h.fz, h.bel⟩
  rw [h.cl j hj]
  by_cases e : j = i
  · subst e
    rw [if_neg (by omega), if_pos (by omega), hc]
  · by_cases l : j < i
    · rw [if_pos l, if_pos (by omega)]
    · rw [if_neg l, if_neg (by omega)]
theorem SmR.put {w wr : World} {xs : List UInt8} {i : Nat} (h : SmR w xs i wr) (hi : i < xs.length) : SmR w xs (i + 1) (wr.setCell ⟨w.heap.size, i, none⟩ (B8 (lowC (xs.getD i 0)))) := by
  refine ⟨fun j hj => ?_, fun j hj => by rw [World.frozen?_setCell]; exact h.fz j hj, h.bel.setCell (Nat.le_refl _) _⟩
  by_cases e : j = i
  · subst e
    rw [if_pos (by omega)]
    exact World.cell?_setCell_same _ _ _ (h.cl j hj)
  · rw [World.cell?_setCell_other _ _ _ _ (by intro e2; injection e2 with _ e2; exact e e2.symm), h.cl j hj]
    by_cases l : j < i
    · rw [if_pos l, if_pos (by omega)]
    · rw [if_neg l, if_neg (by omega)]
theorem SmR.at_ {w wr : World} {xs : List UInt8} {i : Nat} (h : SmR w xs i wr) (hi : i < xs.length) : wr.cell? ⟨w.heap.size, i, none⟩ = some (B8 (xs.getD i 0)) := by
  rw [h.cl i hi, if_neg (by omega)]
theorem SmR.done {w wr : World} {xs : List UInt8} (h : SmR w xs xs.length wr) (hp : 0 < xs.length) (c : Nat) : (convert 31 9 (.slice (some ⟨w.heap.size, 0, none⟩) xs.length c)).run Try.prog wr = .ok (St (xs.map lowC)) wr := by
  have := run_convert_bytes_back (P := Try.prog) wr 31 9 5 ⟨w.heap.size, 0, none⟩ c (xs.map lowC) Try.underlying31 Try.underlying5 Try.underlying9 (fun j hj => by
    have hj' : j < xs.length := by simpa using hj
    have e : (⟨w.heap.size, 0, none⟩ : Addr).add j = ⟨w.heap.size, j, none⟩ := by unfold Addr.add; split <;> simp_all
    rw [e, h.cl j hj', if_pos hj']
    simp [List.getD_eq_getElem?_getD, hj'])
  rw [List.length_map] at this
  exact this
theorem lowC_up (c : UInt8) (h : 65 ≤ c.toNat ∧ c.toNat ≤ 90) : ((lowC c).toNat : Int) = (c.toNat : Int) + 32 := by rw [lowC_nat, if_pos h]; omega
theorem lowC_no (c : UInt8) (h : ¬ (65 ≤ c.toNat ∧ c.toNat ≤ 90)) : lowC c = c := by unfold lowC; rw [if_neg h]
theorem showV_pos_len (n base : Int) : 0 < (showV n base).length := by
  unfold showV
  have h2 := List.length_pos_iff.2 (digs_ne (bsN base) n.toNat)
  split
  · simp
  · exact h2
def BkR (w : World) (xs : List UInt8) (g : Nat) (k : Value) (wr : World) : Prop := ∃ m, g = xs.length - m ∧ m ≤ xs.length ∧ k = .int .i64 (m : Int) ∧ SmR w xs m wr
end Go.Proofs.Ytncignjfmcajgaa.Dgt
