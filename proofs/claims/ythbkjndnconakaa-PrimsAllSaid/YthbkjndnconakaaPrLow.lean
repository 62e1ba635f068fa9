/-
  PrLow
-/
import Derived.Test.YthbkjndnconakaaPrPlain
import Derived.Test.YthbkjndnconakaaGA
import Derived.Lib.Strings
import Derived.Deep.LoopGhost
import Derived.Laws.IdiomStrings
namespace Go.Proofs.Ythbkjndnconakaa.Pr
open Go.RowKit
set_option linter.unusedVariables false
set_option linter.unusedSimpArgs false

abbrev St (xs : List UInt8) : Value := .string ⟨xs.toArray⟩
theorem st_size (xs : List UInt8) : (⟨xs.toArray⟩ : ByteArray).size = xs.length := by simp [ByteArray.size]
/-- Nothing but new blocks; this is given back. -/
def Gv (w : World) (v : Value) (e : Ending) (w' : World) : Prop := e = .returned v ∧ Below w.heap.size w w'
/-- Block g holds these bytes, the first i of them made large. -/
structure UpR (w : World) (xs : List UInt8) (i : Nat) (wr : World) : Prop where
  cl : ∀ j, j < xs.length → wr.cell? ⟨w.heap.size, j, none⟩ = some (B8 (if j < i then upC (xs.getD j 0) else xs.getD j 0))
  fz : ∀ j, j < xs.length → wr.frozen? ⟨w.heap.size, j, none⟩ = false
  bel : Below w.heap.size w wr
theorem UpR.start (xs : List UInt8) (w : World) : ∃ cap W, (convert 9 45 (St xs)).run Try.prog w = .ok (.slice (some ⟨w.heap.size, 0, none⟩) xs.length cap) W ∧ UpR w xs 0 W := by
  have h := run_bytes_of_string (P := Try.prog) w 9 45 5 ⟨xs.toArray⟩ Try.underlying9 Try.underlying45 Try.underlying5
  rw [st_size] at h
  generalize grownCap w xs.length 0 5 = cap at h
  refine ⟨cap, _, h, ?_, ?_, ?_⟩
  · intro j hj
    have hh : (w.drew.alloc (.cells (bytesRow ⟨xs.toArray⟩ cap) 5 ((bytesRow ⟨xs.toArray⟩ cap).size, (bytesRow ⟨xs.toArray⟩ cap).size + 1))).heap[w.heap.size]? = some (.cells (bytesRow ⟨xs.toArray⟩ cap) 5 ((bytesRow ⟨xs.toArray⟩ cap).size, (bytesRow ⟨xs.toArray⟩ cap).size + 1)) := by
      show (w.heap.push _)[w.heap.size]? = _
      simp
    simp only [World.cell?, hh]
    simp only [Nat.not_lt_zero, if_false]
    simp only [bytesRow]
    rw [Array.getElem?_append_left (by simpa using hj)]
    simp [hj, List.getD_eq_getElem?_getD]
  · intro j hj
    have hh : (w.drew.alloc (.cells (bytesRow ⟨xs.toArray⟩ cap) 5 ((bytesRow ⟨xs.toArray⟩ cap).size, (bytesRow ⟨xs.toArray⟩ cap).size + 1))).heap[w.heap.size]? = some (.cells (bytesRow ⟨xs.toArray⟩ cap) 5 ((bytesRow ⟨xs.toArray⟩ cap).size, (bytesRow ⟨xs.toArray⟩ cap).size + 1)) := by
      show (w.heap.push _)[w.heap.size]? = _
      simp
    have hs : xs.length ≤ (bytesRow ⟨xs.toArray⟩ cap).size := by simp [bytesRow]
    simp only [World.frozen?, hh]
    simp
    omega
  · exact ((Below.refl w.heap.size w).trans (⟨rfl, rfl, rfl, Nat.le_refl _, fun _ _ => rfl⟩ : Below w.heap.size w w.drew)).alloc (Nat.le_refl _) _
theorem UpR.skip {w wr : World} {xs : List UInt8} {i : Nat} (h : UpR w xs i wr) (hi : i < xs.length) (hc : upC (xs.getD i 0) = xs.getD i 0) : UpR w xs (i + 1) wr := by
  refine ⟨fun j hj => ?_, h.fz, h.bel⟩
  rw [h.cl j hj]
  by_cases e : j = i
  · subst e
    rw [if_neg (by omega), if_pos (by omega), hc]
  · by_cases l : j < i
    · rw [if_pos l, if_pos (by omega)]
    · rw [if_neg l, if_neg (by omega)]
theorem UpR.put {w wr : World} {xs : List UInt8} {i : Nat} (h : UpR w xs i wr) (hi : i < xs.length) : UpR w xs (i + 1) (wr.setCell ⟨w.heap.size, i, none⟩ (B8 (upC (xs.getD i 0)))) := by
  refine ⟨fun j hj => ?_, fun j hj => by rw [World.frozen?_setCell]; exact h.fz j hj, h.bel.setCell (Nat.le_refl _) _⟩
  by_cases e : j = i
  · subst e
    rw [if_pos (by omega)]
    exact World.cell?_setCell_same _ _ _ (h.cl j hj)
  · rw [World.cell?_setCell_other _ _ _ _ (by intro e2; injection e2 with _ e2; exact e e2.symm), h.cl j hj]
    by_cases l : j < i
    · rw [if_pos l, if_pos (by omega)]
    · rw [if_neg l, if_neg (by omega)]
theorem UpR.at_ {w wr : World} {xs : List UInt8} {i : Nat} (h : UpR w xs i wr) (hi : i < xs.length) : wr.cell? ⟨w.heap.size, i, none⟩ = some (B8 (xs.getD i 0)) := by
  rw [h.cl i hi, if_neg (by omega)]
theorem UpR.done {w wr : World} {xs : List UInt8} (h : UpR w xs xs.length wr) (c : Nat) : (convert 45 9 (.slice (some ⟨w.heap.size, 0, none⟩) xs.length c)).run Try.prog wr = .ok (St (xs.map upC)) wr := by
  have := run_convert_bytes_back (P := Try.prog) wr 45 9 5 ⟨w.heap.size, 0, none⟩ c (xs.map upC) Try.underlying45 Try.underlying5 Try.underlying9 (fun j hj => by
    have hj' : j < xs.length := by simpa using hj
    have e : (⟨w.heap.size, 0, none⟩ : Addr).add j = ⟨w.heap.size, j, none⟩ := by unfold Addr.add; split <;> simp_all
    rw [e, h.cl j hj', if_pos hj']
    simp [List.getD_eq_getElem?_getD, hj'])
  rw [List.length_map] at this
  exact this
def BkR (w : World) (xs : List UInt8) (g : Nat) (k : Value) (wr : World) : Prop := ∃ m, g = xs.length - m ∧ m ≤ xs.length ∧ k = .int .i64 (m : Int) ∧ UpR w xs m wr

set_option maxRecDepth 100000 in
set_option maxHeartbeats 1000000 in
theorem large_any (s : List UInt8) (hs : s.length ≤ 140737488351232) (w3 : World) : Calls Try.prog 15 #[St s] w3 (Gv w3 (St (upL s))) := by
  obtain ⟨cap, W4, hcv, sm0⟩ := UpR.start s w3
  have SM := Lib.hid sm0
  clear sm0
  go_enter Try.func15, Try.ntmps15
  go_wp2_with fail
  go_loopg [4, 5, 10] s.length (fun g _ _ n wr => BkR w3 s g n wr)
  case atStart => exact ⟨0, by omega, by omega, rfl, SM.out⟩
  case round =>
    obtain ⟨m, rfl, hm, rfl, sm⟩ := hrel
    clear SM hcv
    by_cases hlt : m < s.length
    · have d0 : decide ((m : Int) < (s.length : Int)) = true := by simp; omega
      have d0' : decide (m < s.length) = true := by simp; omega
      have p0 : (0 : Int) ≤ m := by omega
      have p1 : (m : Int) < s.length := by omega
      have wm : IntKind.i64.wrap ((m : Int) + 1) = (m : Int) + 1 := by simp only [IntKind.wrap, IntKind.bits, IntKind.signed, Bool.true_and]; split <;> simp_all <;> omega
      have c1 := sm.at_ hlt
      have f1 := sm.fz m hlt
      have hu8 := (s.getD m 0).toNat_lt
      by_cases hup : 97 ≤ (s.getD m 0).toNat ∧ (s.getD m 0).toNat ≤ 122
      · have HR : Hid (BkR w3 s (s.length - (m + 1)) (.int .i64 ((m : Int) + 1)) (wr.setCell ⟨w3.heap.size, m, none⟩ (.int .u8 ((upC (s.getD m 0)).toNat : Int)))) := ⟨m + 1, rfl, by omega, by rw [Int.natCast_add]; rfl, sm.put hlt⟩
        rw [upC_up _ hup] at HR
        have t1 : decide ((97 : Int) ≤ ((s.getD m 0).toNat : Int)) = true := by simp only [decide_eq_true_eq]; omega
        have t2 : decide (((s.getD m 0).toNat : Int) ≤ 122) = true := by simp only [decide_eq_true_eq]; omega
        have wu : IntKind.u8.wrap (((s.getD m 0).toNat : Int) - 97) = ((s.getD m 0).toNat : Int) - 97 := by simp only [IntKind.wrap, IntKind.bits, IntKind.signed, Bool.false_and, Bool.false_eq_true, if_false]; omega
        have wv : IntKind.u8.wrap (((s.getD m 0).toNat : Int) - 97 + 65) = ((s.getD m 0).toNat : Int) - 32 := by simp only [IntKind.wrap, IntKind.bits, IntKind.signed, Bool.false_and, Bool.false_eq_true, if_false]; omega
        clear sm hup hu8
        have c1' : wr.cell? ⟨w3.heap.size, m, none⟩ = some (.int .u8 ((s.getD m 0).toNat : Int)) := c1
        clear c1
        generalize ((s.getD m 0).toNat : Int) = z at *
        go_wp2_with fail
        go_roundg (s.length - (m + 1))
        case rel => exact HR.out
        case measure => omega
      · have HR : Hid (BkR w3 s (s.length - (m + 1)) (.int .i64 ((m : Int) + 1)) wr) := ⟨m + 1, rfl, by omega, by rw [Int.natCast_add]; rfl, sm.skip hlt (upC_no _ hup)⟩
        by_cases hlo : 97 ≤ (s.getD m 0).toNat
        · have t1 : decide ((97 : Int) ≤ ((s.getD m 0).toNat : Int)) = true := by simp only [decide_eq_true_eq]; omega
          have t2 : decide (((s.getD m 0).toNat : Int) ≤ 122) = false := by simp only [decide_eq_false_iff_not]; omega
          clear sm hup hu8 hlo
          have c1' : wr.cell? ⟨w3.heap.size, m, none⟩ = some (.int .u8 ((s.getD m 0).toNat : Int)) := c1
          clear c1
          generalize ((s.getD m 0).toNat : Int) = z at *
          go_wp2_with fail
          go_roundg (s.length - (m + 1))
          case rel => exact HR.out
          case measure => omega
        · have t1 : decide ((97 : Int) ≤ ((s.getD m 0).toNat : Int)) = false := by simp only [decide_eq_false_iff_not]; omega
          clear sm hup hu8 hlo
          have c1' : wr.cell? ⟨w3.heap.size, m, none⟩ = some (.int .u8 ((s.getD m 0).toNat : Int)) := c1
          clear c1
          generalize ((s.getD m 0).toNat : Int) = z at *
          go_wp2_with fail
          go_roundg (s.length - (m + 1))
          case rel => exact HR.out
          case measure => omega
    · obtain rfl : m = s.length := by omega
      have hcb := sm.done cap
      have hcb' : (convert 45 9 (.slice (some ⟨w3.heap.size, 0, none⟩) s.length cap)).run Try.prog wr = .ok (St (upL s)) wr := hcb
      have B5 := Lib.hid sm.bel
      have d0 : decide ((s.length : Int) < (s.length : Int)) = false := by simp
      clear sm hcb
      go_wp2_with fail
      go_ret
      exact ⟨rfl, B5.out⟩

set_option maxRecDepth 100000 in
set_option maxHeartbeats 1000000 in
theorem rlarge_any (s : List UInt8) (hs : s.length ≤ 140737488351232) (w3 : World) : Calls Try.prog 16 #[St s] w3 (Gv w3 (St (upL s))) := by
  obtain ⟨cap, W4, hcv, sm0⟩ := UpR.start s w3
  have SM := Lib.hid sm0
  clear sm0
  go_enter Try.func16, Try.ntmps16
  go_wp2_with fail
  go_loopg [4, 9] s.length (fun g _ n wr => BkR w3 s g n wr)
  case atStart => exact ⟨0, by omega, by omega, rfl, SM.out⟩
  case round =>
    obtain ⟨m, rfl, hm, rfl, sm⟩ := hrel
    clear SM hcv
    by_cases hlt : m < s.length
    · have d0 : decide ((m : Int) < (s.length : Int)) = true := by simp; omega
      have d0' : decide (m < s.length) = true := by simp; omega
      have p0 : (0 : Int) ≤ m := by omega
      have p1 : (m : Int) < s.length := by omega
      have wm : IntKind.i64.wrap ((m : Int) + 1) = (m : Int) + 1 := by simp only [IntKind.wrap, IntKind.bits, IntKind.signed, Bool.true_and]; split <;> simp_all <;> omega
      have c1 := sm.at_ hlt
      have f1 := sm.fz m hlt
      have hu8 := (s.getD m 0).toNat_lt
      by_cases hup : 97 ≤ (s.getD m 0).toNat ∧ (s.getD m 0).toNat ≤ 122
      · have HR : Hid (BkR w3 s (s.length - (m + 1)) (.int .i64 ((m : Int) + 1)) (wr.setCell ⟨w3.heap.size, m, none⟩ (.int .u8 ((upC (s.getD m 0)).toNat : Int)))) := ⟨m + 1, rfl, by omega, by rw [Int.natCast_add]; rfl, sm.put hlt⟩
        rw [upC_up _ hup] at HR
        have t1 : decide ((97 : Int) ≤ ((s.getD m 0).toNat : Int)) = true := by simp only [decide_eq_true_eq]; omega
        have t2 : decide (((s.getD m 0).toNat : Int) ≤ 122) = true := by simp only [decide_eq_true_eq]; omega
        have wu : IntKind.u8.wrap (((s.getD m 0).toNat : Int) - 32) = ((s.getD m 0).toNat : Int) - 32 := by simp only [IntKind.wrap, IntKind.bits, IntKind.signed, Bool.false_and, Bool.false_eq_true, if_false]; omega
        clear sm hup hu8
        have c1' : wr.cell? ⟨w3.heap.size, m, none⟩ = some (.int .u8 ((s.getD m 0).toNat : Int)) := c1
        clear c1
        generalize ((s.getD m 0).toNat : Int) = z at *
        go_wp2_with fail
        go_roundg (s.length - (m + 1))
        case rel => exact HR.out
        case measure => omega
      · have HR : Hid (BkR w3 s (s.length - (m + 1)) (.int .i64 ((m : Int) + 1)) wr) := ⟨m + 1, rfl, by omega, by rw [Int.natCast_add]; rfl, sm.skip hlt (upC_no _ hup)⟩
        by_cases hlo : 97 ≤ (s.getD m 0).toNat
        · have t1 : decide ((97 : Int) ≤ ((s.getD m 0).toNat : Int)) = true := by simp only [decide_eq_true_eq]; omega
          have t2 : decide (((s.getD m 0).toNat : Int) ≤ 122) = false := by simp only [decide_eq_false_iff_not]; omega
          clear sm hup hu8 hlo
          have c1' : wr.cell? ⟨w3.heap.size, m, none⟩ = some (.int .u8 ((s.getD m 0).toNat : Int)) := c1
          clear c1
          generalize ((s.getD m 0).toNat : Int) = z at *
          go_wp2_with fail
          go_roundg (s.length - (m + 1))
          case rel => exact HR.out
          case measure => omega
        · have t1 : decide ((97 : Int) ≤ ((s.getD m 0).toNat : Int)) = false := by simp only [decide_eq_false_iff_not]; omega
          clear sm hup hu8 hlo
          have c1' : wr.cell? ⟨w3.heap.size, m, none⟩ = some (.int .u8 ((s.getD m 0).toNat : Int)) := c1
          clear c1
          generalize ((s.getD m 0).toNat : Int) = z at *
          go_wp2_with fail
          go_roundg (s.length - (m + 1))
          case rel => exact HR.out
          case measure => omega
    · obtain rfl : m = s.length := by omega
      have hcb := sm.done cap
      have hcb' : (convert 45 9 (.slice (some ⟨w3.heap.size, 0, none⟩) s.length cap)).run Try.prog wr = .ok (St (upL s)) wr := hcb
      have B5 := Lib.hid sm.bel
      have d0 : decide ((s.length : Int) < (s.length : Int)) = false := by simp
      clear sm hcb
      go_wp2_with fail
      go_ret
      exact ⟨rfl, B5.out⟩
end Go.Proofs.Ythbkjndnconakaa.Pr
