/-
  HdPl
-/
import Derived.Test.YtceemmnfofjgeaaGreatDoorHdWr
namespace Go.Proofs.YtceemmnfofjgeaaGreatDoor.Hd
open Go.RowKit Ex Ino Mm Fs
set_option linter.unusedVariables false
set_option linter.unusedSimpArgs false

variable {w : World} {p gb mb : Nat} {G M : List UInt8}
set_option maxRecDepth 100000 in
theorem place1_any (q : Nat) (v : Value) (hb : Boxed w q 3 v) (a b c : Int) : Calls Tryz.prog 80 #[agO a b c, .pointer (some ⟨q, 0, none⟩)] w (RetE (BoxE w q 3 (.int .i64 b))) := by
  have hb2 := (boxed_set hb (.int .i64 b)).alloc (.cells #[.int .i64 a, .int .i64 b, .int .i64 c] 108)
  have c1 := hb.cell
  have f1 := frozen_of_row _ _ 0 _ _ hb
  have hl := hb.lt
  have HG : Hid (RetE (BoxE w q 3 (.int .i64 b)) (.returned (.int .i64 0)) ((w.setCell ⟨q, 0, none⟩ (.int .i64 b)).alloc (.cells #[.int .i64 a, .int .i64 b, .int .i64 c] 108))) := ⟨0, rfl, rfl, hb2, (Keeps.setCell (fun j => j = q) _ ⟨q, 0, none⟩ _ rfl).trans (Keeps.alloc _ _ _)⟩
  unfold agO
  clear hb hb2
  go_enter Tryz.func80, Tryz.ntmps80
  go_wp2_with fail
  go_ret
  exact HG.out
set_option maxRecDepth 100000 in
set_option maxHeartbeats 1000000 in
theorem hplace_any (h : MemAt w p gb mb G M) (ho : okR (regB M)) (n : Nat) (h1 : 1 ≤ n) (h4 : n ≤ 4) (hO : isO M n = true) :
    Calls Tryz.prog 28 #[.pointer (some ⟨p, 0, none⟩), .int .i64 (n : Int)] w (OutM w p gb mb G M (.tuple #[.int .i64 (hL M n), .int .i64 0])) := by
  have hl := h.lt
  have hb := Boxed.new w 3 (.int .i64 0)
  have K0 := Lib.hid (Keeps.alloc (fun j => j = p ∨ j = mb) w (.cells #[.int .i64 0] 3))
  have H0 := Lib.hid (h.keep (Keeps.alloc (fun _ => False) w (.cells #[.int .i64 0] 3)) (fun f => f) (fun f => f) (fun f => f))
  have HW := Lib.hid (with_any H0.out ho n h1 h4 hO 80 #[.pointer (some ⟨w.heap.size, 0, none⟩)] (enters_of Tryz.func80 (by kernel_rfl) rfl)
    (fun E W' => E = 0 ∧ Boxed W' w.heap.size 3 (.int .i64 (hL M n)) ∧ MemAt W' p gb mb G M ∧ Keeps (fun j => j = p ∨ j = mb) w W')
    (fun W hm hk => by
      have hbw : Boxed W w.heap.size 3 (.int .i64 0) := (hk.block _ hb.lt (by omega)).trans hb
      refine (place1_any w.heap.size (.int .i64 0) hbw (hN M n) (cntV (hP M n) (hS M n)) (hS M n)).mono ?_
      rintro e w' ⟨E, rfl, rfl, hb', hk'⟩
      exact ⟨0, rfl, rfl, hb', hm.keep hk' (by omega) (by omega) (by omega), Keeps.thru (K0.out.trans hk) hk' (fun _ _ f => f) (fun i hi e => by omega)⟩))
  have LT := Lib.hid hl
  clear h ho hO hb hl
  generalize hL M n = sz at *
  go_enter Tryz.func28, Tryz.ntmps28
  go_wp2_with fail
  refine HW.out.mono ?_
  rintro e w1 ⟨E, rfl, rfl, hb, hm, hk⟩
  have c1 := hb.cell
  have f1 := frozen_of_row _ _ 0 _ _ hb
  have HB := Lib.hid (boxed_set hb (.int .i64 sz))
  have HG : Hid (OutM w p gb mb G M (.tuple #[.int .i64 sz, .int .i64 0]) (.returned (.tuple #[.int .i64 sz, .int .i64 0])) (w1.setCell ⟨w.heap.size, 0, none⟩ (.int .i64 sz))) := by
    have ks := Keeps.setCell (fun j => j = w.heap.size) w1 ⟨w.heap.size, 0, none⟩ (.int .i64 sz) rfl
    have := H0.out.lt
    have l0 := LT.out
    exact ⟨rfl, hm.keep ks (by omega) (by omega) (by omega), Keeps.thru hk ks (fun _ _ f => f) (fun i hi e => by omega)⟩
  clear hb hm hk HW H0
  go_wp2_with fail
  refine bodyPost_ret (v := .tuple #[.int .i64 sz, .int .i64 0]) ?_ rfl HG.out
  exact results_cell1t rfl _ _ w.heap.size _ _ rfl rfl aggI3 HB.out.cell
end Go.Proofs.YtceemmnfofjgeaaGreatDoor.Hd
