/-
  HdS
-/
import Derived.Test.YtceemmnfofjgeaaGreatDoorHdW
import Derived.Test.YtceemmnfofjgeaaGreatDoorGFi
namespace Go.Proofs.YtceemmnfofjgeaaGreatDoor.Hd
open Go.RowKit Ex Ino Mm Fs
set_option linter.unusedVariables false
set_option linter.unusedSimpArgs false

theorem results_cell1t {P : Program} {fn : Func} {p q : Tmp} {ty : TypeId} (h : fn.results = #[.cell p ty, .tmp q]) (tmps : Array Value) (w : World) (g : Nat) (v x : Value)
    (hp : tmps.getD p undef = .pointer (some ⟨g, 0, none⟩)) (hx : tmps.getD q undef = x) (hagg : ∀ w, (isAgg ty).run P w = .ok false w) (hc : w.cell? ⟨g, 0, none⟩ = some v) :
    (results fn tmps).run P w = .ok (.tuple #[v, x]) w := by
  have hp' : tmps[p]?.getD undef = .pointer (some ⟨g, 0, none⟩) := by simpa using hp
  have hx' : tmps[q]?.getD undef = x := by simpa using hx
  simp [results, h, hp', hx', asAddr, loadVar, hagg, hc]
variable {w : World} {p gb mb : Nat} {G M : List UInt8}
/-- A box gets another value. -/
theorem boxed_set {w : World} {q : Nat} {t : TypeId} {v : Value} (h : Boxed w q t v) (u : Value) : Boxed (w.setCell ⟨q, 0, none⟩ u) q t u := by
  exact (setCells_cells (zs := [v]) (ys := [u]) h rfl).1
def BoxE (w : World) (q : Nat) (t : TypeId) (v : Value) (E : Int) (w' : World) : Prop := E = 0 ∧ Boxed w' q t v ∧ Keeps (fun j => j = q) w w'
set_option maxRecDepth 100000 in
theorem size1_any (q : Nat) (v : Value) (hb : Boxed w q 3 v) (a b c : Int) : Calls Tryz.prog 78 #[agO a b c, .pointer (some ⟨q, 0, none⟩)] w (RetE (BoxE w q 3 (.int .i64 c))) := by
  have hb2 := (boxed_set hb (.int .i64 c)).alloc (.cells #[.int .i64 a, .int .i64 b, .int .i64 c] 108)
  have c1 := hb.cell
  have f1 := frozen_of_row _ _ 0 _ _ hb
  have hl := hb.lt
  have HG : Hid (RetE (BoxE w q 3 (.int .i64 c)) (.returned (.int .i64 0)) ((w.setCell ⟨q, 0, none⟩ (.int .i64 c)).alloc (.cells #[.int .i64 a, .int .i64 b, .int .i64 c] 108))) := ⟨0, rfl, rfl, hb2, (Keeps.setCell (fun j => j = q) _ ⟨q, 0, none⟩ _ rfl).trans (Keeps.alloc _ _ _)⟩
  unfold agO
  clear hb hb2
  go_enter Tryz.func78, Tryz.ntmps78
  go_wp2_with fail
  go_ret
  exact HG.out
set_option maxRecDepth 100000 in
set_option maxHeartbeats 1000000 in
theorem size_any (h : MemAt w p gb mb G M) (ho : okR (regB M)) (n : Nat) (h1 : 1 ≤ n) (h4 : n ≤ 4) (hO : isO M n = true) :
    Calls Tryz.prog 26 #[.pointer (some ⟨p, 0, none⟩), .int .i64 (n : Int)] w (OutM w p gb mb G M (.tuple #[.int .i64 (hS M n), .int .i64 0])) := by
  have hl := h.lt
  have hb := Boxed.new w 3 (.int .i64 0)
  have K0 := Lib.hid (Keeps.alloc (fun j => j = p ∨ j = mb) w (.cells #[.int .i64 0] 3))
  have H0 := Lib.hid (h.keep (Keeps.alloc (fun _ => False) w (.cells #[.int .i64 0] 3)) (fun f => f) (fun f => f) (fun f => f))
  have HW := Lib.hid (with_any H0.out ho n h1 h4 hO 78 #[.pointer (some ⟨w.heap.size, 0, none⟩)] (enters_of Tryz.func78 (by kernel_rfl) rfl)
    (fun E W' => E = 0 ∧ Boxed W' w.heap.size 3 (.int .i64 (hS M n)) ∧ MemAt W' p gb mb G M ∧ Keeps (fun j => j = p ∨ j = mb) w W')
    (fun W hm hk => by
      have hbw : Boxed W w.heap.size 3 (.int .i64 0) := (hk.block _ hb.lt (by omega)).trans hb
      refine (size1_any w.heap.size (.int .i64 0) hbw (hN M n) (cntV (hP M n) (hS M n)) (hS M n)).mono ?_
      rintro e w' ⟨E, rfl, rfl, hb', hk'⟩
      exact ⟨0, rfl, rfl, hb', hm.keep hk' (by omega) (by omega) (by omega), Keeps.thru (K0.out.trans hk) hk' (fun _ _ f => f) (fun i hi e => by omega)⟩))
  have LT := Lib.hid hl
  clear h ho hO hb hl
  generalize hS M n = sz at *
  go_enter Tryz.func26, Tryz.ntmps26
  go_wp2_with fail
  refine HW.out.mono ?_
  rintro e w1 ⟨E, rfl, rfl, hb, hm, hk⟩
  have c1 := hb.cell
  have f1 := frozen_of_row _ _ 0 _ _ hb
  have HB := Lib.hid (boxed_set hb (.int .i64 sz))
  have HG : Hid (OutM w p gb mb G M (.tuple #[.int .i64 sz, .int .i64 0]) (.returned (.tuple #[.int .i64 sz, .int .i64 0])) (w1.setCell ⟨w.heap.size, 0, none⟩ (.int .i64 sz))) := by
    have ks := Keeps.setCell (fun j => j = w.heap.size) w1 ⟨w.heap.size, 0, none⟩ (.int .i64 sz) rfl
    have := H0.out.lt
    have l0 := LT.out
    exact ⟨rfl, hm.keep ks (by omega) (by omega) (by omega), Keeps.thru hk ks (fun _ _ f => f) (fun i hi e => by omega)⟩
  clear hb hm hk HW H0
  go_wp2_with fail
  refine bodyPost_ret (v := .tuple #[.int .i64 sz, .int .i64 0]) ?_ rfl HG.out
  exact results_cell1t rfl _ _ w.heap.size _ _ rfl rfl aggI3 HB.out.cell
end Go.Proofs.YtceemmnfofjgeaaGreatDoor.Hd
