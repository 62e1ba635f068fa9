/-
  WkZero
-/
import Derived.Test.YtebecpjecchfoaaGreatDoorGDk
import Derived.Recover
import Derived.Test.YtebecpjecchfoaaGreatDoorGA
namespace Go.Proofs.YtebecpjecchfoaaGreatDoor
open Go.RowKit

theorem wcatch_idle (p : Addr) (w : World) :
    CallsD Tryz.prog 199 #[.pointer (some p)] .returning w fun e u' w' => e = .returned (.tuple #[]) ∧ u' = .returning ∧ w' = w := by
  refine callsD_of_wpS Tryz.func199 rfl fun c₀ cs hu => ?_
  apply wpS_seq
  apply wpS_region
  simp [wpOpsS, go_sem, recoverD, hu, Tryz.ntmps199, Exit.thenS]
  refine wpS_cond (t := false) (by simp [Act.eval, Array.replicate]) ?_
  simp only [Bool.false_eq_true, if_false]
  refine wpS_of_wp (wp_skip ?_)
  cases c₀
  simp_all [bodyPostS, results, Tryz.results199]
theorem wcatch_panicking (b : Nat) (z : Value) (u : TypeId) (pv : Value) (older : List PanicEntry) (w : World) (h2 : w.cell? ⟨b, 0, none⟩ = some z) (z2 : w.frozen? ⟨b, 0, none⟩ = false) :
    CallsD Tryz.prog 199 #[.pointer (some ⟨b, 0, none⟩)] (.panicking ({ v := .iface u pv, recovered := false } :: older)) w fun e u' w' =>
      e = .returned (.tuple #[]) ∧ u' = .panicking ({ v := .iface u pv, recovered := true } :: older) ∧ w' = w.setCell ⟨b, 0, none⟩ (.int .i64 60) := by
  refine callsD_of_wpS Tryz.func199 rfl fun c₀ cs hu => ?_
  apply wpS_seq
  apply wpS_region
  simp [wpOpsS, go_sem, recoverD, hu, Tryz.ntmps199, Exit.thenS]
  refine wpS_cond (t := true) (by simp [Act.eval, Array.replicate]) ?_
  simp only [if_true]
  apply wpS_region
  simp [wpOpsS, go_sem, h2, z2, bodyPostS, results, Tryz.results199]

end Go.Proofs.YtebecpjecchfoaaGreatDoor
