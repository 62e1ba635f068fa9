/-
  ShCatch
-/
import Derived.Test.YtebecpjecchfoaaGreatDoorGShA
import Derived.Recover
namespace Go.Proofs.YtebecpjecchfoaaGreatDoor
open Go.RowKit

theorem scatch_idle (p q : Addr) (w : World) :
    CallsD Tryz.prog 205 #[.pointer (some p), .pointer (some q)] .returning w fun e u' w' => e = .returned (.tuple #[]) ∧ u' = .returning ∧ w' = w := by
  refine callsD_of_wpS Tryz.func205 rfl fun c₀ cs hu => ?_
  apply wpS_seq
  apply wpS_region
  simp [wpOpsS, go_sem, recoverD, hu, Tryz.ntmps205, Exit.thenS]
  apply wpS_seq
  apply wpS_region
  simp [wpOpsS, go_sem, Exit.thenS]
  refine wpS_cond (t := false) (by simp [Act.eval, Array.replicate]) ?_
  simp only [Bool.false_eq_true, if_false]
  refine wpS_of_wp (wp_skip ?_)
  cases c₀
  simp_all [bodyPostS, results, Tryz.results205]

theorem assertE (E : Int) (w : World) : (Instr.typeAssert (.iface 26 (.int .i64 E)) 20 26 false).run Tryz.prog w = .ok (.int .i64 E) w := by kernel_rfl

theorem scatch_panicking (b : Nat) (x z : Value) (E : Int) (older : List PanicEntry) (w : World) (h0 : w.cell? ⟨b, 0, none⟩ = some x) (h2 : w.cell? ⟨b + 1, 0, none⟩ = some z) (z0 : w.frozen? ⟨b, 0, none⟩ = false) (z2 : w.frozen? ⟨b + 1, 0, none⟩ = false) :
    CallsD Tryz.prog 205 #[.pointer (some ⟨b, 0, none⟩), .pointer (some ⟨b + 1, 0, none⟩)] (.panicking ({ v := .iface 26 (.int .i64 E), recovered := false } :: older)) w fun e u' w' =>
      e = .returned (.tuple #[]) ∧ u' = .panicking ({ v := .iface 26 (.int .i64 E), recovered := true } :: older) ∧ w' = (w.drew.setCell ⟨b, 0, none⟩ (.int .i64 0)).setCell ⟨b + 1, 0, none⟩ (.int .i64 E) := by
  refine callsD_of_wpS Tryz.func205 rfl fun c₀ cs hu => ?_
  apply wpS_seq
  apply wpS_region
  simp [wpOpsS, go_sem, recoverD, hu, Tryz.ntmps205, Exit.thenS]
  apply wpS_seq
  apply wpS_region
  simp [wpOpsS, go_sem, Exit.thenS]
  refine wpS_cond (t := true) (by simp [Act.eval, Array.replicate]) ?_
  simp only [if_true]
  refine wpS_of_wp ?_
  simp only [Array.replicate_succ, Array.replicate_zero, List.push_toArray, List.append_toArray, List.nil_append, List.cons_append, List.setIfInBounds_toArray, List.set_cons_zero, List.set_cons_succ]
  have hta := fun w => assertE E w
  have g0 : w.drew.cell? ⟨b, 0, none⟩ = some x := h0
  have g2 : w.drew.cell? ⟨b + 1, 0, none⟩ = some z := h2
  have y0 : w.drew.frozen? ⟨b, 0, none⟩ = false := z0
  have y2 : w.drew.frozen? ⟨b + 1, 0, none⟩ = false := z2
  go_region
  cases c₀
  simp_all [bodyPostS, results, Tryz.results205]
end Go.Proofs.YtebecpjecchfoaaGreatDoor
