/-
  The contract of the set's without: nested loops, left by a label.
-/
import Derived.Test.YtajagjhhpciocaaDoorSp
import Derived.Test.YtajagjhhpciocaaDoorInts
import Derived.Deep.LoopGhost
import Derived.WalkMore
namespace Go.Proofs.YtajagjhhpciocaaDoor.Sp
open Go.RowKit

/-- Which of a word's bits is not set: held, where f tells what is free. -/
theorem not_free {cs : List Nat} {i : Nat} (hi : i < cs.length) (h2 : 2 ≤ i) : heldB cs i = !fr cs i := by
  by_cases hz : cs.getD i 0 = 0 <;> simp only [heldB, fr, hz] <;> simp [h2, hi]
theorem held_low {cs : List Nat} {i : Nat} (h2 : ¬ 2 ≤ i) : heldB cs i = false := by simp [heldB, h2]
def WoRel (w : World) (cs : List Nat) (m : Nat) (g : Nat) (i s : Value) (wr : World) : Prop :=
  ∃ (k : Nat) (R : Option Addr) (cap : Nat), g = m - k ∧ k ≤ m ∧ 64 * k ≤ cs.length ∧ i = .int .i64 (k : Int) ∧ s = .slice R (usedOf cs (64 * k)).length cap ∧ OwnI wr w.heap.size R cap (usedOf cs (64 * k)) ∧ Below w.heap.size w wr
def WiRel (w : World) (cs : List Nat) (k : Nat) (g : Nat) (i s : Value) (wr : World) : Prop :=
  ∃ (j : Nat) (R : Option Addr) (cap : Nat), g = 64 - j ∧ j ≤ 64 ∧ 64 * k + j ≤ cs.length ∧ i = .int .i64 (j : Int) ∧ s = .slice R (usedOf cs (64 * k + j)).length cap ∧ OwnI wr w.heap.size R cap (usedOf cs (64 * k + j)) ∧ Below w.heap.size w wr
set_option maxHeartbeats 1000000 in
theorem without_any {w : World} {b : Nat} {cs : List Nat} {m : Nat} (hm : m = nw cs.length) (h : m ≠ 0 → RowK .u64 58 w b ((List.range m).map (word (fr cs)))) (A : Option Addr) (hA : m ≠ 0 → A = some ⟨b, 0, none⟩) (c : Nat) (hl : cs.length ≤ 2000) :
    Calls Tryd.prog 31 #[.slice A m c, .int .i64 2, .int .i64 (cs.length : Int)] w (GivesI w (usedOf cs cs.length)) := by
  have hm64 : m ≤ 64 := by rw [hm]; unfold nw; omega
  have hm1 : cs.length ≤ 64 * m := by rw [hm]; unfold nw; omega
  have hm2 : ∀ k, k < m → 64 * k < cs.length := by intro k hk; rw [hm] at hk; unfold nw at hk; omega
  have HM2 := Lib.hid hm2
  clear hm hm2
  go_enter Tryd.func31, Tryd.ntmps31
  go_wp2_with fail
  go_step3
  go_wp2_with fail
  go_step3
  go_wp2_with fail
  go_loopg [15, 7] m (WoRel w cs m)
  case atStart => exact ⟨0, some ⟨w.heap.size, 0, none⟩, 0, by omega, by omega, by omega, rfl, by rfl, OwnI.empty (Nat.le_refl _), (Below.refl _ _).alloc (Nat.le_refl _) _⟩
  case round =>
    obtain ⟨k, R, cap, rfl, hk, hkl, rfl, rfl, own, bel⟩ := hrel
    by_cases hlt : k < m
    · obtain rfl := hA (by omega)
      have hrow := h (by omega)
      have hb := hrow.lt
      have hc := (hrow.block (bel.block b hb)).cell (i := k) (by simpa using hlt)
      have e : ((List.range m).map (word (fr cs))).getD k 0 = word (fr cs) k := by simp [List.getD_eq_getElem?_getD, hlt]
      rw [e] at hc
      clear e hA h hrow
      have hx := Lib.hid (word_and1 (fr cs) k)
      have hn0 := HM2.out k hlt
      obtain ⟨wo, rfl⟩ : ∃ wo : World, wo = wr := ⟨_, rfl⟩
      have hxl := word_lt (fr cs) k
      generalize word (fr cs) k = x at *
      go_wp2_with fail
      clear hc
      go_loopg [20, 7] 64 (WiRel w cs k)
      case atStart => exact ⟨0, R, cap, by omega, by omega, by omega, rfl, rfl, own, bel⟩
      case round =>
        clear own bel
        obtain ⟨j, R, cap, rfl, hj, hjl, rfl, rfl, own, bel⟩ := hrel
        by_cases hj64 : j < 64
        · have hsu := usedOf_succ cs (64 * k + j)
          by_cases hbd : 64 * k + j < cs.length
          · by_cases h2 : 2 ≤ 64 * k + j
            · have hf := hx.out j hj64
              rw [show ((x / 2 ^ j : Nat) : Int) = (x : Int) / 2 ^ j from by simp] at hf
              have hh := not_free hbd h2
              have hle := usedOf_le cs (64 * k + j)
              cases hfr : fr cs (64 * k + j)
              · rw [hfr] at hf hh
                have hs : usedOf cs (64 * k + (j + 1)) = usedOf cs (64 * k + j) ++ [64 * k + j] := by rw [← Nat.add_assoc, hsu, hh]; rfl
                have ht : (bits .and .u64 ((x : Int) / 2 ^ j) 1 == 0) = true := by rw [hf]; rfl
                have HS := Lib.hid hs
                have ownA : OwnI (wr.alloc (.cells #[.int .i64 ((64 * k + j : Nat) : Int)] 3)) w.heap.size R cap (usedOf cs (64 * k + j)) := own.alloc _
                have belA : Below w.heap.size w (wr.alloc (.cells #[.int .i64 ((64 * k + j : Nat) : Int)] 3)) := bel.alloc bel.size _
                obtain ⟨R', cap', w2, hap, own3, b3⟩ := ownA.app belA.size (by omega) (64 * k + j) wr.heap.size (by rw [cell_of_row _ _ _ _ _ _ (heap_alloc_new wr _)]; rfl)
                rw [← hs] at own3
                have HL : Hid ((usedOf cs (64 * k + (j + 1))).length = (usedOf cs (64 * k + j)).length + 1) := by show _ = _; rw [hs]; simp
                have en : ((64 * k + j : Nat) : Int) = (k : Int) * 64 + (j : Int) := by omega
                rw [en] at hap
                have HAP := Lib.hid hap
                have OWN := Lib.hid own3
                have BEL := Lib.hid (belA.trans b3)
                clear hsu hf hh hfr hs own ownA bel belA hap own3 b3 en
                generalize usedOf cs (64 * k + j) = l at *
                go_wp2_with (first | (at_builtin; refine wpList_append_run rfl _ _ 37 rfl _ HAP.out ?_) | fail)
                go_roundg (64 - (j + 1))
                case measure => omega
                case rel => exact ⟨j + 1, R', cap', rfl, by omega, by omega, by go_num, by rw [HL.out], OWN.out, BEL.out⟩
              · rw [hfr] at hf hh
                have hs : usedOf cs (64 * k + (j + 1)) = usedOf cs (64 * k + j) := by rw [← Nat.add_assoc, hsu, hh]; simp
                have ht : (bits .and .u64 ((x : Int) / 2 ^ j) 1 == 0) = false := by rw [hf]; rfl
                have HS := Lib.hid hs
                clear hsu hf hh hfr hs
                go_wp2_with fail
                go_roundg (64 - (j + 1))
                case measure => omega
                case rel => exact ⟨j + 1, R, cap, rfl, by omega, by omega, by go_num, by rw [HS.out], by rw [HS.out]; exact own, bel⟩
            · have hs : usedOf cs (64 * k + (j + 1)) = usedOf cs (64 * k + j) := by rw [← Nat.add_assoc, hsu, held_low h2]; simp
              have HS := Lib.hid hs
              clear hsu hs
              go_wp2_with fail
              go_roundg (64 - (j + 1))
              case measure => omega
              case rel => exact ⟨j + 1, R, cap, rfl, by omega, by omega, by go_num, by rw [HS.out], by rw [HS.out]; exact own, bel⟩
          · have e : 64 * k + j = cs.length := by omega
            rw [e] at own
            have E := Lib.hid e
            clear hsu e
            go_wp2_with fail
            rw [Exit.noGoto_ret]
            go_ret
            exact ⟨R, cap, by rw [E.out]; rfl, own.ir, bel⟩
        · obtain rfl : j = 64 := by omega
          have e : 64 * k + 64 = 64 * (k + 1) := by omega
          have E := Lib.hid e
          rw [e] at own
          clear e
          go_wp2_with fail
          go_roundg (m - (k + 1))
          case measure => omega
          case rel => exact ⟨k + 1, R, cap, rfl, by omega, by omega, by go_num, by rw [E.out], own, bel⟩
    · obtain rfl : k = m := by omega
      have e : 64 * k = cs.length := by omega
      rw [e] at own
      have E := Lib.hid e
      clear e
      go_wp2_with fail
      rw [Exit.noGoto_ret]
      go_ret
      exact ⟨R, cap, by rw [E.out]; rfl, own.ir, bel⟩
end Go.Proofs.YtajagjhhpciocaaDoor.Sp
