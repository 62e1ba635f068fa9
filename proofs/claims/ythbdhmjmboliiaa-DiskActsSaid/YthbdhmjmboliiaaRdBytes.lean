/-
  The contract of the document's Bytes.
-/
import Derived.Test.YthbdhmjmboliiaaRdOf
namespace Go.Proofs.Ythbdhmjmboliiaa
open Go.RowKit

/-- The bytes of the first k sectors. -/
def catR (zs : Nat → List UInt8) (k : Nat) : List UInt8 := (List.range k).flatMap zs
theorem catR_succ (zs : Nat → List UInt8) (k : Nat) : catR zs (k + 1) = catR zs k ++ zs k := by simp [catR, List.range_succ]
theorem catR_len (zs : Nat → List UInt8) (k : Nat) (h : ∀ i, i < k → (zs i).length = 64) : (catR zs k).length = k * 64 := by
  induction k with
  | zero => rfl
  | succ k ih => rw [catR_succ, List.length_append, ih (fun i hi => h i (by omega)), h k (by omega)]; omega
/-- Bytes appended to a row of the call's own. -/
theorem Own8.app {w : World} {B : Nat} {R : Option Addr} {cap : Nat} {zs : List UInt8} (h : Own8 w B 5 R cap zs) (hB : B ≤ w.heap.size) (hl : zs.length ≤ 200000) (g c : Nat) (ys : List UInt8) (hy : Row8 w g 5 ys) (hyl : ys.length = 64) :
    ∃ R' cap' w', (Builtin.append_ #[30, 30] 30 #[.slice R zs.length cap, .slice (some ⟨g, 0, none⟩) 64 c]).run Try.prog w = .ok (.slice R' (zs.length + 64) cap') w' ∧ Own8 w' B 5 R' cap' (zs ++ ys) ∧ Below B w w' := by
  obtain ⟨i0, hi, hz0, hz1, hz2⟩ := info_parts Try.info8
  obtain ⟨v', w', hrun, hown, hg, _, _⟩ := run_append_own_at (P := Try.prog) w B 30 30 5 i0 (.int .u8 0) 1 1 Try.underlying30 hi hz0 hz1 hz2 rfl (by decide) _ zs.length _ h ⟨g, 0, none⟩ 64 c (ys.map B8) (by rw [List.length_map, hyl]) (fun j u hu => by
    simp only [List.getElem?_map, Option.map_eq_some_iff] at hu
    obtain ⟨x, hx, rfl⟩ := hu
    obtain ⟨ad, e, _, hc⟩ := hy.br (by intro e; rw [e] at hx; simp at hx)
    cases e
    exact hc j x hx) (by
    intro u hu
    simp only [List.mem_map] at hu
    obtain ⟨x, _, rfl⟩ := hu
    rfl) (by unfold maxLen; omega) (by omega) hB
  obtain ⟨g', cap', rfl, _, _⟩ := World.ownsRow.form hown (by omega)
  refine ⟨_, cap', w', hrun, ?_, ⟨hg.os, hg.tape, hg.output, hg.size, fun k hk => hg.block k (by omega) (fun e => by have := (World.ownsRow.lt h k e.symm).1; omega)⟩⟩
  unfold Own8
  rw [List.length_append, hyl, List.map_append]
  exact hown
set_option maxHeartbeats 800000 in
theorem refBytes_any {w : World} {p T k : Nat} {v : Value} {G : Nat → Nat} {zs : Nat → List UInt8} (hp : w.cell? ⟨p, 0, none⟩ = some v) (h : Secs w T k v G zs) (hk : k ≤ 2000) :
    Calls Try.prog 32 #[.pointer (some ⟨p, 0, none⟩)] w (GivesB w (catR zs k)) := by
  obtain ⟨A', cap', hv⟩ := h.form
  subst hv
  have hlen : ∀ j, j ≤ k → (catR zs j).length = j * 64 := fun j hj => catR_len zs j fun i hi => (h.row i (by omega)).2.1
  have HLEN := Lib.hid hlen
  clear hlen
  go_enter Try.func32, Try.ntmps32
  go_wp2_with fail
  clear hp
  go_loopw [11, 3, 5, 13, 14] (fun i s _ _ _ wr => ∃ (j : Nat) (R : Option Addr) (cap : Nat), j ≤ k ∧ i = .int .i64 (j : Int) ∧ s = .slice R (j * 64) cap ∧ Own8 wr w.heap.size 5 R cap (catR zs j) ∧ Below w.heap.size w wr) (fun i _ _ _ _ _ => k - (intOf i).toNat)
  case atStart => exact ⟨0, none, 0, by omega, rfl, rfl, World.ownsRow_nil _ _ _ _, Below.refl _ _⟩
  case round =>
    obtain ⟨j, R, cap, hj, rfl, rfl, own, bel⟩ := hrel
    by_cases hlt : j < k
    · have kp : Keeps (fun _ => False) w wr := ⟨bel.os, bel.tape, bel.output, bel.size, fun b hb _ => bel.block b hb⟩
      have hr := h.keep kp fun _ _ _ h => h
      obtain ⟨g, cap2, hv, hcell⟩ := hr.at_ j hlt
      cases hv
      have hl := HLEN.out j hj
      obtain ⟨R', cap3, w2, hap, own2, b2⟩ := own.app bel.size (by omega) (G j) 64 (zs j) (hr.row j hlt).1 (hr.row j hlt).2.1
      rw [hl] at hap
      rw [← catR_succ] at own2
      have HAP := Lib.hid hap
      have OWN := Lib.hid own2
      have bel2 := bel.trans b2
      clear hap own2 own hr kp hl b2
      go_wp2_with (first | (at_builtin; refine wpList_append_run rfl _ _ 30 rfl _ HAP.out ?_) | fail)
      go_roundw
      case rel => exact ⟨j + 1, R', cap3, by omega, by go_num, by rw [Nat.add_mul], OWN.out, bel2⟩
      case measure => simp [intOf]; omega
    · obtain rfl : j = k := by omega
      go_wp2_with fail
      go_ret
      refine ⟨R, cap, ?_, own.br, bel⟩
      rw [HLEN.out j (Nat.le_refl _)]
      rfl
theorem catR_sec (L : List UInt8) (k : Nat) : catR (sec L) k = L.take (k * 64) := by
  induction k with
  | zero => simp [catR]
  | succ k ih =>
    rw [catR_succ, ih, Nat.add_mul, Nat.one_mul, List.take_add]
    rfl
theorem catR_congr {zs ys : Nat → List UInt8} {k : Nat} (h : ∀ i, i < k → zs i = ys i) : catR zs k = catR ys k := by
  induction k with
  | zero => rfl
  | succ k ih => rw [catR_succ, catR_succ, ih (fun i hi => h i (by omega)), h k (by omega)]
/-- The bytes of a disk that Of made. -/
theorem catR_fill (xs : List UInt8) : catR (fillR xs (nBytes xs.length)) (nBytes xs.length) = padded xs := by
  have e : catR (fillR xs (nBytes xs.length)) (nBytes xs.length) = catR (sec (padded xs)) (nBytes xs.length) := catR_congr fun i hi => by unfold fillR; rw [if_pos hi]
  rw [e, catR_sec, List.take_of_length_le (by rw [padded_len]; omega)]
end Go.Proofs.Ythbdhmjmboliiaa
