/-
  MmCalls
-/
import Derived.Test.YthmlhjjcihibnaaMmLay
import Derived.Test.YthmlhjjcihibnaaMmNum
import Derived.Test.YthmlhjjcihibnaaPutCell
namespace Go.Proofs.Ythmlhjjcihibnaa.Mm
open Go.RowKit Go.Maps
set_option linter.unusedVariables false

set_option maxRecDepth 100000 in
/-- le.PutCell's bytes are in a new block. -/
theorem lePutCell_new (A : Option Addr) (xs : List UInt8) (c : Nat) (a : Int) (n : Int) (w : World) (hx : BR w w.heap.size A xs) (hl : xs.length ≤ 1000000) (ha : -9223372036854775808 ≤ a) :
    Calls Try.prog 36 #[.slice A xs.length c, .int .i64 a, .int .i64 n] w (GivesN w (putL xs a (IntKind.u64.wrap n).toNat 8)) := by
  go_enter Try.func36, Try.ntmps36
  have hw : IntKind.u64.wrap n = ((IntKind.u64.wrap n).toNat : Int) := (Int.toNat_of_nonneg (by rw [IntKind.wrap_u64]; omega)).symm
  have HW := Lib.hid hw
  clear hw
  go_wp2_with fail
  rw [HW.out]
  refine (lePutNum_new _ _ _ _ _ _ _ hx hl ha).mono ?_
  rintro e w1 ⟨g, c1, rfl, h⟩
  go_wp2_with fail
  go_ret
  exact ⟨g, c1, rfl, h⟩

variable {w : World} {p gb mb : Nat} {G M : List UInt8}
/-- The memory is M now, and this was answered. -/
def OutM (w : World) (p gb mb : Nat) (G M : List UInt8) (v : Value) (e : Ending) (w' : World) : Prop := e = .returned v ∧ MemAt w' p gb mb G M ∧ Keeps (fun k => k = p ∨ k = mb) w w'

set_option maxRecDepth 100000 in
set_option maxHeartbeats 400000 in
theorem mget_at (h : MemAt w p gb mb G M) (a : Int) (ha : -9223372036854775808 ≤ a) (ha' : a ≤ 9223372036854775807) :
    Calls Try.prog 29 #[.pointer (some ⟨p, 0, none⟩), .int .i64 a] w (OutM w p gb mb G M (.int .i64 (cel M a))) := by
  go_enter Try.func29, Try.ntmps29
  go_wp2_with fail
  refine (mload_at h a 8 ha ha').mono ?_
  rintro e w2 ⟨g, rfl, hg, hr, hm, hk⟩
  have e8 : (clamp 8 8192).toNat = 8 := by decide
  rw [e8] at hr ⊢
  have H := Lib.hid hm
  have K := Lib.hid hk
  clear hm hk e8
  go_wp2_with fail
  refine (leCell_any _ _ _ _ _ hr.br (by rw [loadL_len]; omega) (by omega)).mono ?_
  rintro e w3 ⟨rfl, rfl⟩
  rw [cel_load]
  go_wp2_with fail
  go_ret
  exact ⟨rfl, H.out, K.out.mono fun _ _ h => Or.inr h⟩

set_option maxRecDepth 100000 in
set_option maxHeartbeats 400000 in
theorem mbytes_at (h : MemAt w p gb mb G M) :
    Calls Try.prog 22 #[.pointer (some ⟨p, 0, none⟩)] w (GivesM w p gb mb G M M) := by
  have ml := h.ml
  go_enter Try.func22, Try.ntmps22
  go_wp2_with fail
  refine (mload_at h 0 8192 (by omega) (by omega)).mono ?_
  rintro e w2 ⟨g, rfl, hg, hr, hm, hk⟩
  have e8 : (clamp 8192 8192).toNat = 8192 := by decide
  rw [e8, loadL_all M ml] at hr ⊢
  have H := Lib.hid hm
  have K := Lib.hid hk
  clear hm hk e8
  go_wp2_with fail
  go_ret
  exact ⟨g, by rw [ml]; rfl, hg, hr, H.out, K.out⟩

set_option maxRecDepth 100000 in
set_option maxHeartbeats 400000 in
theorem mset_at (h : MemAt w p gb mb G M) (a n : Int) (ha : -9223372036854775808 ≤ a) (ha' : a ≤ 9223372036854775807) :
    Calls Try.prog 24 #[.pointer (some ⟨p, 0, none⟩), .int .i64 a, .int .i64 n] w (OutM w p gb mb G (setM M a n) (.tuple #[])) := by
  have hlt := h.lt
  have hmk : ∀ w : World, (Instr.makeSlice 22 (.int .i64 8) (.int .i64 8)).run Try.prog w = .ok (.slice (some ⟨w.heap.size, 0, none⟩) 8 8) (w.alloc (.cells (madeCells #[.int .u8 0] 8) 5)) := make8 8 (by omega)
  have k1 : Keeps (fun _ => False) w (w.alloc (.cells (madeCells #[.int .u8 0] 8) 5)) := Keeps.alloc _ _ _
  have h1 := h.keep k1 (fun h => h) (fun h => h) (fun h => h)
  have r1 := Row8.made w 8 5
  have s1 : w.heap.size < (w.alloc (.cells (madeCells #[.int .u8 0] 8) 5)).heap.size := by simp
  clear h
  go_enter Try.func24, Try.ntmps24
  go_wp2_with fail
  generalize w.alloc (.cells (madeCells #[.int .u8 0] 8) 5) = w1 at *
  refine (lePutCell_new (some ⟨w.heap.size, 0, none⟩) (List.replicate 8 0) 8 0 n w1 r1.br (by simp) (by omega)).mono ?_
  rintro e w2 ⟨g, c, rfl, hg, hg', hr, hb, hc⟩
  have k2 : Keeps (fun _ => False) w1 w2 := Keeps.below hb _ fun k h1 h2 => by omega
  have h2 := h1.keep k2 (fun h => h) (fun h => h) (fun h => h)
  have K := Lib.hid (k1.trans k2)
  clear k1 k2 h1 r1
  go_wp2_with fail
  refine (mlay_at h2 a ha ha' _ _ c hr (fun ad e _ => by cases e; exact ⟨by show g ≠ p; omega, by show g ≠ mb; omega⟩) (by rw [putL_len]; simp) hc).mono ?_
  rintro e w3 ⟨rfl, h3, k3⟩
  rw [layL_put] at h3
  have H := Lib.hid h3
  have K3 := Lib.hid (Keeps.thru (F'' := fun k => k = p ∨ k = mb) K.out k3 (fun _ _ h => h.elim) fun _ _ h => h)
  clear h3 k3 K
  go_wp2_with fail
  all_goals
    go_end0
    exact ⟨rfl, H.out, K3.out⟩

/-- One byte is laid. -/
theorem mlay1_at (h : MemAt w p gb mb G M) (a : Int) (ha : -9223372036854775808 ≤ a) (ha' : a ≤ 9223372036854775807) (g : Nat) (u : UInt8) (br : BR w w.heap.size (some ⟨g, 0, none⟩) [u]) (h1 : g ≠ p) (h2 : g ≠ mb) :
    Calls Try.prog 23 #[.pointer (some ⟨p, 0, none⟩), .int .i64 a, .slice (some ⟨g, 0, none⟩) 1 1] w (BecomesM w p gb mb G (layL M a [u])) :=
  mlay_at h a ha ha' (some ⟨g, 0, none⟩) [u] 1 br (fun ad e _ => by cases e; exact ⟨h1, h2⟩) (by simp) (by simp)
end Go.Proofs.Ythmlhjjcihibnaa.Mm
