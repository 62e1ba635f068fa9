/-
  WkZero
-/
import Derived.Test.YtacghpabjmnfiaaGreatDoorGDk
import Derived.Recover
import Derived.Test.YtacghpabjmnfiaaGreatDoorGA
namespace Go.Proofs.YtacghpabjmnfiaaGreatDoor
open Go.RowKit

set_option maxRecDepth 100000 in
set_option maxHeartbeats 400000 in
theorem climb_zero (p : Nat) (a b c : Value) (w : World) : Calls Tryz.prog 193 #[.pointer (some ⟨p, 0, none⟩), .int .i64 0, .func (.func 194) #[] #[a, b, c]] w fun e w' => e = .returned (.tuple #[]) ∧ Below w.heap.size w w' := by
  go_enter Tryz.func193, Tryz.ntmps193
  go_wp2
  refine bodyPost_ret (results_none rfl _ _ _) rfl ?_
  exact ⟨rfl, ((Below.refl _ _).alloc (Nat.le_refl _) _).alloc (by simp) _⟩

theorem wcatch_idle (p : Addr) (w : World) :
    CallsD Tryz.prog 192 #[.pointer (some p)] .returning w fun e u' w' => e = .returned (.tuple #[]) ∧ u' = .returning ∧ w' = w := by
  refine callsD_of_wpS Tryz.func192 rfl fun c₀ cs hu => ?_
  apply wpS_seq
  apply wpS_region
  simp [wpOpsS, go_sem, recoverD, hu, Tryz.ntmps192, Exit.thenS]
  refine wpS_cond (t := false) (by simp [Act.eval, Array.replicate]) ?_
  simp only [Bool.false_eq_true, if_false]
  refine wpS_of_wp (wp_skip ?_)
  cases c₀
  simp_all [bodyPostS, results, Tryz.results192]
theorem wcatch_panicking (b : Nat) (z : Value) (u : TypeId) (pv : Value) (older : List PanicEntry) (w : World) (h2 : w.cell? ⟨b, 0, none⟩ = some z) (z2 : w.frozen? ⟨b, 0, none⟩ = false) :
    CallsD Tryz.prog 192 #[.pointer (some ⟨b, 0, none⟩)] (.panicking ({ v := .iface u pv, recovered := false } :: older)) w fun e u' w' =>
      e = .returned (.tuple #[]) ∧ u' = .panicking ({ v := .iface u pv, recovered := true } :: older) ∧ w' = w.setCell ⟨b, 0, none⟩ (.int .i64 60) := by
  refine callsD_of_wpS Tryz.func192 rfl fun c₀ cs hu => ?_
  apply wpS_seq
  apply wpS_region
  simp [wpOpsS, go_sem, recoverD, hu, Tryz.ntmps192, Exit.thenS]
  refine wpS_cond (t := true) (by simp [Act.eval, Array.replicate]) ?_
  simp only [if_true]
  apply wpS_region
  simp [wpOpsS, go_sem, h2, z2, bodyPostS, results, Tryz.results192]

set_option maxRecDepth 100000 in
set_option maxHeartbeats 800000 in
theorem through_zero {w : World} {p lb mb n : Nat} {iv : Value} {D : DSt} (h : DkAt w p lb mb n iv D) (hd : D.down = false) (x : Value) :
    Calls Tryz.prog 165 #[.pointer (some ⟨p, 0, none⟩), .int .i64 0, .func (.func 166) #[] #[x]] w fun e w' => e = .returned (.int .i64 0) ∧ Below w.heap.size w w' := by
  have hmf : ∀ (fn : Fn) (first cap : Array Value) (w : World), (Instr.makeFunc fn first cap).run Tryz.prog w = .ok (.func fn first cap) w := fun _ _ _ _ => rfl
  have hmm := @run_makeMap Tryz.prog
  have hlt : p < w.heap.size := (Array.getElem?_eq_some_iff.1 h.head).1
  have hdn := fun {w' : World} (k : Keeps (fun _ => False) w w') => down_at (h.same k)
  rw [hd] at hdn
  clear h
  go_enter_defers Tryz.func165, Tryz.ntmps165
  go_wp2_with fail
  refine (hdn ?_).mono ?_
  · exact (((Keeps.alloc _ _ _).trans (Keeps.alloc _ _ _)).trans (Keeps.alloc _ _ _))
  rintro e w' ⟨rfl, rfl⟩
  go_wp2_with fail
  have hs5 : (((((w.alloc (.cells #[.pointer (some ⟨p, 0, none⟩)] 36)).alloc (.cells #[.func (.func 166) #[] #[x]] 220)).alloc (.cells #[.int .i64 0] 25)).alloc (.map #[] 0)).alloc (.cells #[.map (some (w.heap.size + 1 + 1 + 1))] 246)).heap.size = w.heap.size + 5 := by simp
  have b5 : Below w.heap.size w (((((w.alloc (.cells #[.pointer (some ⟨p, 0, none⟩)] 36)).alloc (.cells #[.func (.func 166) #[] #[x]] 220)).alloc (.cells #[.int .i64 0] 25)).alloc (.map #[] 0)).alloc (.cells #[.map (some (w.heap.size + 1 + 1 + 1))] 246)) := (((((Below.refl _ _).alloc (Nat.le_refl _) _).alloc (by simp) _).alloc (by simp; omega) _).alloc (by simp; omega) _).alloc (by simp; omega) _
  have e5 : (((((w.alloc (.cells #[.pointer (some ⟨p, 0, none⟩)] 36)).alloc (.cells #[.func (.func 166) #[] #[x]] 220)).alloc (.cells #[.int .i64 0] 25)).alloc (.map #[] 0)).alloc (.cells #[.map (some (w.heap.size + 1 + 1 + 1))] 246)).heap[w.heap.size + 1 + 1]? = some (.cells #[.int .i64 0] 25 (0, 0)) := by
    rw [Below.heap_alloc _ _ _ (by simp), Below.heap_alloc _ _ _ (by simp)]
    have := heap_alloc_new ((w.alloc (.cells #[.pointer (some ⟨p, 0, none⟩)] 36)).alloc (.cells #[.func (.func 166) #[] #[x]] 220)) (.cells #[.int .i64 0] 25)
    simpa using this
  generalize (((((w.alloc (.cells #[.pointer (some ⟨p, 0, none⟩)] 36)).alloc (.cells #[.func (.func 166) #[] #[x]] 220)).alloc (.cells #[.int .i64 0] 25)).alloc (.map #[] 0)).alloc (.cells #[.map (some (w.heap.size + 1 + 1 + 1))] 246)) = w5 at *
  refine (climb_zero p _ _ _ w5).mono ?_
  rintro e w6 ⟨rfl, hb6⟩
  have e6 := (hb6.block _ (by omega)).trans e5
  have b6 := b5.trans (hb6.mono b5.size)
  have r2 : w6.cell? ⟨w.heap.size + 1 + 1, 0, none⟩ = some (.int .i64 0) := by rw [cell_of_row _ _ _ _ _ _ e6]; rfl
  have z2 := frozen_of_row w6 (w.heap.size + 1 + 1) 0 _ _ e6
  clear e5 b5 hs5 hb6 e6
  go_wp2_with fail
  refine leaves_cons (f := 192) (args := #[.pointer (some ⟨w.heap.size + 1 + 1, 0, none⟩)]) (by simp) (by simp [go_sem]) ?_
  refine (wcatch_idle ⟨w.heap.size + 1 + 1, 0, none⟩ _).mono ?_
  rintro e u' w'' ⟨rfl, rfl, rfl⟩
  have hfin := b6.setCell (p := ⟨w.heap.size + 1 + 1, 0, none⟩) (by show w.heap.size ≤ w.heap.size + 1 + 1; omega) (.int .i64 0)
  simp [Leaves, settle, results, Tryz.results165, go_sem, r2]
  exact hfin

set_option maxRecDepth 100000 in
set_option maxHeartbeats 800000 in
theorem reach_zero {w : World} {p lb mb n : Nat} {iv : Value} {D : DSt} (h : DkAt w p lb mb n iv D) (hd : D.down = false) :
    Calls Tryz.prog 127 #[.pointer (some ⟨p, 0, none⟩), .int .i64 0] w fun e w' => (∃ v, e = .returned (.tuple #[v, .int .i64 0])) ∧ Below w.heap.size w w' := by
  have hmf : ∀ (fn : Fn) (first cap : Array Value) (w : World), (Instr.makeFunc fn first cap).run Tryz.prog w = .ok (.func fn first cap) w := fun _ _ _ _ => rfl
  have hbs : ∀ w : World, (Instr.buildSlice 43 0 #[]).run Tryz.prog w = .ok (.slice (some ⟨w.heap.size, 0, none⟩) 0 0) (w.alloc (.cells #[] 3)) := fun w => by kernel_rfl
  have b2 : Below w.heap.size w ((w.alloc (.cells #[] 3)).alloc (.cells #[.slice (some ⟨w.heap.size, 0, none⟩) 0 0] 43)) := ((Below.refl _ _).alloc (Nat.le_refl _) _).alloc (by simp) _
  have h2 := h.same (keeps_below b2)
  have e2 : ((w.alloc (.cells #[] 3)).alloc (.cells #[.slice (some ⟨w.heap.size, 0, none⟩) 0 0] 43)).heap[w.heap.size + 1]? = some (.cells #[.slice (some ⟨w.heap.size, 0, none⟩) 0 0] 43 (0, 0)) := by
    have := heap_alloc_new (w.alloc (.cells #[] 3)) (.cells #[.slice (some ⟨w.heap.size, 0, none⟩) 0 0] 43)
    simpa using this
  clear h
  go_enter Tryz.func127, Tryz.ntmps127
  go_wp2_with fail
  generalize ((w.alloc (.cells #[] 3)).alloc (.cells #[.slice (some ⟨w.heap.size, 0, none⟩) 0 0] 43)) = w2 at *
  refine (through_zero h2 hd _).mono ?_
  rintro e w3 ⟨rfl, hb3⟩
  have e3 := (hb3.block _ (Array.getElem?_eq_some_iff.1 e2).1).trans e2
  have r3 : w3.cell? ⟨w.heap.size + 1, 0, none⟩ = some (.slice (some ⟨w.heap.size, 0, none⟩) 0 0) := by rw [cell_of_row _ _ _ _ _ _ e3]; rfl
  have b3 := b2.trans (hb3.mono b2.size)
  clear e2 e3 hb3 b2 h2 hbs hmf
  go_wp2_with fail
  go_ret2
  exact ⟨⟨_, rfl⟩, b3⟩
end Go.Proofs.YtacghpabjmnfiaaGreatDoor
