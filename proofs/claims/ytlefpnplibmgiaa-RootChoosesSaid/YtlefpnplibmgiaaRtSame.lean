/-
  The contracts of the document's Same of roots, and of bytes.Equal.
-/
import Derived.Test.YtlefpnplibmgiaaRtMay
import Derived.Test.YtlefpnplibmgiaaSame
import Derived.Laws.StructEq
namespace Go.Proofs.Ytlefpnplibmgiaa
open Go.RowKit

set_option maxHeartbeats 400000 in
theorem equal_any (A : Option Addr) (xs : List UInt8) (c : Nat) (A' : Option Addr) (ys : List UInt8) (c' : Nat) (w : World) (hx : BR w w.heap.size A xs) (hy : BR w w.heap.size A' ys) :
    Calls Try.prog 31 #[.slice A xs.length c, .slice A' ys.length c'] w fun e w' => e = .returned (.bool (decide (xs = ys))) ∧ w = w' := by
  have c1 := run_str (P := Try.prog) w _ _ _ _ A xs c hx Try.underlying27 Try.underlying5 Try.underlying9
  have c2 := run_str (P := Try.prog) w _ _ _ _ A' ys c' hy Try.underlying27 Try.underlying5 Try.underlying9
  clear hx hy
  go_enter Try.func31, Try.ntmps31
  go_wp2
  go_ret
  exact ⟨ret_bool (list_eq xs ys), rfl⟩

/-- The two roots in their blocks. -/
structure SameInv (w wr : World) (g : Nat) (A : Option Addr) (n c : Nat) (g' : Nat) (A' : Option Addr) (n' c' : Nat) : Prop where
  b0 : wr.heap[w.heap.size]? = some (.cells #[.int .u64 (g : Int), .slice A n c] 25 (0, 0))
  b1 : wr.heap[w.heap.size + 1]? = some (.cells #[.int .u64 (g' : Int), .slice A' n' c'] 25 (0, 0))
  bel : Below w.heap.size w wr
theorem SameInv.drewN {w wr : World} {g : Nat} {A : Option Addr} {n c : Nat} {g' : Nat} {A' : Option Addr} {n' c' : Nat} (h : SameInv w wr g A n c g' A' n' c') (j : Nat) : SameInv w (wr.drewN j) g A n c g' A' n' c' :=
  ⟨h.b0, h.b1, ⟨h.bel.os, h.bel.tape, h.bel.output, h.bel.size, h.bel.block⟩⟩
theorem sn_eq {s s' : Sn} (h1 : s.g = s'.g) (h2 : s.t = s'.t) : s = s' := by cases s; cases s'; simp_all
/-- The first k alike. -/
def likeTo (l l' : List Sn) (k : Nat) : Prop := ∀ i, i < k → l.getD i sn0 = l'.getD i sn0
theorem likeTo_all {l l' : List Sn} (hn : l.length = l'.length) (h : likeTo l l' l.length) : l = l' := by
  refine List.ext_getElem hn fun i h1 h2 => ?_
  have := h i h1
  simpa [List.getD_eq_getElem?_getD, List.getElem?_eq_getElem h1, List.getElem?_eq_getElem h2] using this
theorem not_like {l l' : List Sn} {k : Nat} (h : l.getD k sn0 ≠ l'.getD k sn0) : l ≠ l' := fun e => h (by rw [e])
set_option maxHeartbeats 800000 in
theorem sameR_any (g : Nat) (A : Option Addr) (l : List Sn) (c : Nat) (g' : Nat) (A' : Option Addr) (l' : List Sn) (c' : Nat) (w : World) (hx : SR w w.heap.size A l) (hx' : SR w w.heap.size A' l') (hl : l.length ≤ 9223372036854775807) (hl' : l'.length ≤ 9223372036854775807) :
    Calls Try.prog 15 #[agR g A l.length c, agR g' A' l'.length c'] w fun e w' => e = .returned (.bool (decide (g = g' ∧ l = l'))) ∧ Below w.heap.size w w' := by
  by_cases hg : g = g'
  · subst hg
    by_cases hn : l.length = l'.length
    · have e1 : decide (g = g ∧ l = l') = decide (l = l') := by simp
      rw [e1]
      clear e1
      have HN := Lib.hid hn
      rw [← hn]
      clear hn
      go_enter Try.func15, Try.ntmps15
      go_wp2_with fail
      go_loopw [23, 5] (fun i _ wr => ∃ k : Nat, k ≤ l.length ∧ i = .int .i64 k ∧ likeTo l l' k ∧ SameInv w wr g A l.length c g A' l.length c') (fun i _ _ => l.length - (intOf i).toNat)
      case atStart =>
        refine ⟨0, by omega, rfl, (fun i hi => absurd hi (Nat.not_lt_zero i)), ?_, ?_, ?_⟩
        · rw [Below.heap_alloc _ _ _ (by simp)]; exact heap_alloc_new _ _
        · exact blk_at_last _ _ _ (by simp)
        · exact ((Below.refl _ _).alloc (Nat.le_refl _) _).alloc (by simp) _
      case round =>
        obtain ⟨k, hk, rfl, hlk, inv⟩ := hrel
        have HL := Lib.hid hlk
        clear hlk
        by_cases hlt : k < l.length
        · have hx0 := (hx.below inv.bel).more inv.bel.size
          have hx0' := (hx'.below inv.bel).more inv.bel.size
          obtain ⟨ad, rfl, _, c0, c1⟩ := hx0.at_ hlt
          obtain ⟨ad', rfl, _, c0', c1'⟩ := hx0'.at_ (k := k) (by rw [← HN.out]; exact hlt)
          have r0 : wr.cell? ⟨w.heap.size, 1, none⟩ = some (.slice (some ad) l.length c) := by rw [cell_of_row _ _ _ _ _ _ inv.b0]; rfl
          have r1 : wr.cell? ⟨w.heap.size + 1, 1, none⟩ = some (.slice (some ad') l.length c') := by rw [cell_of_row _ _ _ _ _ _ inv.b1]; rfl
          generalize hse : l.getD k sn0 = s at c0 c1
          generalize hse' : l'.getD k sn0 = s' at c0' c1'
          have HS := Lib.hid hse
          have HS' := Lib.hid hse'
          clear hse hse' hx hx' hx0 hx0'
          have hk0 : (0 : Int) ≤ (k : Int) := by omega
          have hk1 : (k : Int) < (l.length : Int) := by omega
          by_cases hgg : s.g = s'.g
          · by_cases htt : s.t = s'.t
            · have HE := Lib.hid (sn_eq hgg htt)
              have he1 : ((s.g : Int) == (s'.g : Int)) = true := by simp [hgg]
              have he2 : (s.t == s'.t) = true := by simp [htt]
              clear hgg htt
              go_wp2_with fail
              go_quiet (fail)
              go_wp2_with fail
              go_roundw
              case rel =>
                refine ⟨k + 1, by omega, by go_num, fun i hi => ?_, inv.drewN _⟩
                by_cases e : i = k
                · subst e; rw [HS.out, HS'.out, HE.out]
                · exact HL.out i (by omega)
              case measure => simp [intOf]; omega
            · have HE : Hid (l ≠ l') := not_like (k := k) (by rw [HS.out, HS'.out]; exact fun e => htt (by rw [e]))
              have he1 : ((s.g : Int) == (s'.g : Int)) = true := by simp [hgg]
              have he2 : (s.t == s'.t) = false := by simpa using htt
              clear hgg htt
              go_wp2_with fail
              go_quiet (fail)
              go_wp2_with fail
              go_ret
              exact ⟨ret_bool (by rw [decide_eq_false HE.out]), (inv.drewN _).bel⟩
          · have HE : Hid (l ≠ l') := not_like (k := k) (by rw [HS.out, HS'.out]; exact fun e => hgg (by rw [e]))
            have he1 : ((s.g : Int) == (s'.g : Int)) = false := by simpa using (by omega : ¬ (s.g : Int) = (s'.g : Int))
            clear hgg
            go_wp2_with fail
            go_quiet (fail)
            go_wp2_with fail
            go_ret
            exact ⟨ret_bool (by rw [decide_eq_false HE.out]), (inv.drewN _).bel⟩
        · obtain rfl : k = l.length := by omega
          go_wp2_with fail
          go_ret
          exact ⟨ret_bool (by rw [decide_eq_true (likeTo_all HN.out HL.out)]), inv.bel⟩
    · have e1 : decide (g = g ∧ l = l') = false := by
        rw [decide_eq_false_iff_not]; rintro ⟨_, rfl⟩; exact hn rfl
      rw [e1]
      have hb : ((l.length : Int) != (l'.length : Int)) = true := by simp; omega
      have hb2 : (l.length != l'.length) = true := by simp; omega
      clear e1 hn
      go_enter Try.func15, Try.ntmps15
      go_wp2_with fail
      go_ret
      exact ⟨rfl, ((Below.refl _ _).alloc (Nat.le_refl _) _).alloc (by simp) _⟩
  · have e1 : decide (g = g' ∧ l = l') = false := by
      rw [decide_eq_false_iff_not]; rintro ⟨h, _⟩; exact hg h
    rw [e1]
    have hb : ((g : Int) != (g' : Int)) = true := by simp; omega
    have hb2 : (g != g') = true := by simp; omega
    clear e1 hg
    go_enter Try.func15, Try.ntmps15
    go_wp2_with fail
    go_ret
    exact ⟨rfl, ((Below.refl _ _).alloc (Nat.le_refl _) _).alloc (by simp) _⟩
end Go.Proofs.Ytlefpnplibmgiaa
