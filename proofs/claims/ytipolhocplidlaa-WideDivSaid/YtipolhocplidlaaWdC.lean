/-
  WdC
-/
import Derived.Test.YtipolhocplidlaaWdT
import Derived.Recover
import Derived.Shelf.Abstract
namespace Go.Proofs.Ytipolhocplidlaa.Wd
set_option linter.unusedSimpArgs false
set_option linter.unusedVariables false
open Go.RowKit

theorem assertI (t : Int) (w : World) : (Instr.typeAssert (.iface 3 (.int .i64 t)) 20 3 false).run Try.prog w = .ok (.int .i64 t) w := by kernel_rfl
/-- A rest and a quotient, or a throw. -/
def CO (k : IntKind) (w : World) (r q t : Int) (e : Ending) (w' : World) : Prop := Below w.heap.size w w' ∧
  ((t = 0 ∧ e = .returned (.tuple #[.int k r, .int k q])) ∨ (t ≠ 0 ∧ r = 0 ∧ q = 0 ∧ e = thrownI t))
/-- What a call that catches hands back. -/
def KO (k : IntKind) (w : World) (r q t : Int) (e : Ending) (w' : World) : Prop := e = .returned (.tuple #[.int k r, .int k q, .int .i64 t]) ∧ Below w.heap.size w w'
theorem cuidle (p q r : Addr) (w : World) :
    CallsD Try.prog 51 #[.pointer (some p), .pointer (some q), .pointer (some r)] .returning w fun e u' w' => e = .returned (.tuple #[]) ∧ u' = .returning ∧ w' = w := by
  refine callsD_of_wpS Try.func51 rfl fun c₀ cs hu => ?_
  apply wpS_seq
  apply wpS_region
  simp [wpOpsS, go_sem, recoverD, hu, Try.ntmps51, Exit.thenS]
  apply wpS_seq
  apply wpS_region
  simp [wpOpsS, go_sem, Exit.thenS]
  refine wpS_cond (t := false) (by simp [Act.eval, Array.replicate]) ?_
  simp only [Bool.false_eq_true, if_false]
  refine wpS_of_wp (wp_skip ?_)
  cases c₀
  simp_all [bodyPostS, results, Try.results51]
theorem cupanicking (b : Nat) (x y z : Value) (t : Int) (older : List PanicEntry) (w : World) (h0 : w.cell? ⟨b, 0, none⟩ = some x) (h1 : w.cell? ⟨b + 1, 0, none⟩ = some y) (h2 : w.cell? ⟨b + 1 + 1, 0, none⟩ = some z)
    (z0 : w.frozen? ⟨b, 0, none⟩ = false) (z1 : w.frozen? ⟨b + 1, 0, none⟩ = false) (z2 : w.frozen? ⟨b + 1 + 1, 0, none⟩ = false) :
    CallsD Try.prog 51 #[.pointer (some ⟨b, 0, none⟩), .pointer (some ⟨b + 1, 0, none⟩), .pointer (some ⟨b + 1 + 1, 0, none⟩)] (.panicking ({ v := .iface 3 (.int .i64 t), recovered := false } :: older)) w fun e u' w' =>
      e = .returned (.tuple #[]) ∧ u' = .panicking ({ v := .iface 3 (.int .i64 t), recovered := true } :: older) ∧ w' = ((w.drew.setCell ⟨b, 0, none⟩ (.int .u64 0)).setCell ⟨b + 1, 0, none⟩ (.int .u64 0)).setCell ⟨b + 1 + 1, 0, none⟩ (.int .i64 t) := by
  refine callsD_of_wpS Try.func51 rfl fun c₀ cs hu => ?_
  apply wpS_seq
  apply wpS_region
  simp [wpOpsS, go_sem, recoverD, hu, Try.ntmps51, Exit.thenS]
  apply wpS_seq
  apply wpS_region
  simp [wpOpsS, go_sem, Exit.thenS]
  refine wpS_cond (t := true) (by simp [Act.eval, Array.replicate]) ?_
  simp only [if_true]
  refine wpS_of_wp ?_
  simp only [Array.replicate_succ, Array.replicate_zero, List.push_toArray, List.append_toArray, List.nil_append, List.cons_append, List.setIfInBounds_toArray, List.set_cons_zero, List.set_cons_succ]
  have hta := fun w => assertI t w
  have g0 : w.drew.cell? ⟨b, 0, none⟩ = some x := h0
  have g1 : w.drew.cell? ⟨b + 1, 0, none⟩ = some y := h1
  have g2 : w.drew.cell? ⟨b + 1 + 1, 0, none⟩ = some z := h2
  have y0 : w.drew.frozen? ⟨b, 0, none⟩ = false := z0
  have y1 : w.drew.frozen? ⟨b + 1, 0, none⟩ = false := z1
  have y2 : w.drew.frozen? ⟨b + 1 + 1, 0, none⟩ = false := z2
  go_region
  cases c₀
  simp_all [bodyPostS, results, Try.results51]
/-- The three results, in blocks of their own. -/
def cu3 (w : World) : World := ((w.alloc (.cells #[.int .u64 0] 22)).alloc (.cells #[.int .u64 0] 22)).alloc (.cells #[.int .i64 0] 3)
structure cuAt (w wr : World) (x y z : Int) : Prop where
  e0 : wr.heap[w.heap.size]? = some (.cells #[.int .u64 x] 22 (0, 0))
  e1 : wr.heap[w.heap.size + 1]? = some (.cells #[.int .u64 y] 22 (0, 0))
  e2 : wr.heap[w.heap.size + 1 + 1]? = some (.cells #[.int .i64 z] 3 (0, 0))
  bel : Below w.heap.size w wr
theorem cuAt.start (w : World) : cuAt w (cu3 w) 0 0 0 := by
  have s1 : (w.alloc (.cells #[.int .u64 0] 22)).heap.size = w.heap.size + 1 := World.size_alloc ..
  have s2 : ((w.alloc (.cells #[.int .u64 0] 22)).alloc (.cells #[.int .u64 0] 22)).heap.size = w.heap.size + 1 + 1 := by rw [World.size_alloc, s1]
  refine ⟨?_, ?_, ?_, ?_⟩
  · unfold cu3
    rw [Below.heap_alloc _ _ _ (by rw [s2]; omega), Below.heap_alloc _ _ _ (by rw [s1]; omega)]
    exact heap_alloc_new _ _
  · unfold cu3
    rw [Below.heap_alloc _ _ _ (by rw [s2]; omega)]
    have := heap_alloc_new (w.alloc (.cells #[.int .u64 0] 22)) (.cells #[.int .u64 0] 22)
    rw [s1] at this
    exact this
  · unfold cu3
    have := heap_alloc_new ((w.alloc (.cells #[.int .u64 0] 22)).alloc (.cells #[.int .u64 0] 22)) (.cells #[.int .i64 0] 3)
    rw [s2] at this
    exact this
  · unfold cu3
    exact ((Below.al _ _).alloc (by rw [s1]; omega) _).alloc (by rw [s2]; omega) _
section
variable {w wr w' : World} {x y z : Int}
theorem cuAt.below (h : cuAt w wr x y z) (k : Below wr.heap.size wr w') : cuAt w w' x y z :=
  ⟨(k.block _ (Array.getElem?_eq_some_iff.1 h.e0).1).trans h.e0, (k.block _ (Array.getElem?_eq_some_iff.1 h.e1).1).trans h.e1, (k.block _ (Array.getElem?_eq_some_iff.1 h.e2).1).trans h.e2, h.bel.trans (k.mono h.bel.size)⟩
theorem cuAt.dr (h : cuAt w wr x y z) : cuAt w wr.drew x y z := ⟨h.e0, h.e1, h.e2, h.bel.drew⟩
theorem cuAt.set0 (h : cuAt w wr x y z) (v : Int) : cuAt w (wr.setCell ⟨w.heap.size, 0, none⟩ (.int .u64 v)) v y z :=
  ⟨by rw [heap_setCell_same wr _ 0 _ _ _ h.e0]; rfl, (Below.heap_setCell _ _ _ _ (by show w.heap.size + 1 ≠ w.heap.size; omega)).trans h.e1, (Below.heap_setCell _ _ _ _ (by show w.heap.size + 1 + 1 ≠ w.heap.size; omega)).trans h.e2, h.bel.setCell (p := ⟨w.heap.size, 0, none⟩) (Nat.le_refl _) _⟩
theorem cuAt.set1 (h : cuAt w wr x y z) (v : Int) : cuAt w (wr.setCell ⟨w.heap.size + 1, 0, none⟩ (.int .u64 v)) x v z :=
  ⟨(Below.heap_setCell _ _ _ _ (by show w.heap.size ≠ w.heap.size + 1; omega)).trans h.e0, by rw [heap_setCell_same wr _ 0 _ _ _ h.e1]; rfl, (Below.heap_setCell _ _ _ _ (by show w.heap.size + 1 + 1 ≠ w.heap.size + 1; omega)).trans h.e2, h.bel.setCell (p := ⟨w.heap.size + 1, 0, none⟩) (by show _ ≤ w.heap.size + 1; omega) _⟩
theorem cuAt.set2 (h : cuAt w wr x y z) (v : Int) : cuAt w (wr.setCell ⟨w.heap.size + 1 + 1, 0, none⟩ (.int .i64 v)) x y v :=
  ⟨(Below.heap_setCell _ _ _ _ (by show w.heap.size ≠ w.heap.size + 1 + 1; omega)).trans h.e0, (Below.heap_setCell _ _ _ _ (by show w.heap.size + 1 ≠ w.heap.size + 1 + 1; omega)).trans h.e1, by rw [heap_setCell_same wr _ 0 _ _ _ h.e2]; rfl, h.bel.setCell (p := ⟨w.heap.size + 1 + 1, 0, none⟩) (by show _ ≤ w.heap.size + 1 + 1; omega) _⟩
theorem cuAt.c0 (h : cuAt w wr x y z) : wr.cell? ⟨w.heap.size, 0, none⟩ = some (.int .u64 x) := by rw [cell_of_row _ _ _ _ _ _ h.e0]; rfl
theorem cuAt.c1 (h : cuAt w wr x y z) : wr.cell? ⟨w.heap.size + 1, 0, none⟩ = some (.int .u64 y) := by rw [cell_of_row _ _ _ _ _ _ h.e1]; rfl
theorem cuAt.c2 (h : cuAt w wr x y z) : wr.cell? ⟨w.heap.size + 1 + 1, 0, none⟩ = some (.int .i64 z) := by rw [cell_of_row _ _ _ _ _ _ h.e2]; rfl
theorem cuAt.f0 (h : cuAt w wr x y z) : wr.frozen? ⟨w.heap.size, 0, none⟩ = false := frozen_of_row wr _ 0 _ _ h.e0
theorem cuAt.f1 (h : cuAt w wr x y z) : wr.frozen? ⟨w.heap.size + 1, 0, none⟩ = false := frozen_of_row wr _ 0 _ _ h.e1
theorem cuAt.f2 (h : cuAt w wr x y z) : wr.frozen? ⟨w.heap.size + 1 + 1, 0, none⟩ = false := frozen_of_row wr _ 0 _ _ h.e2
end
set_option maxRecDepth 100000 in
set_option maxHeartbeats 800000 in
theorem cucaught (fn : FuncId) (cap : Array Value) (r q t : Int) (w : World) (hen : ∀ args w, (callFunc fn args).run Try.prog w = .ok (.enter fn args) w)
    (hcl : ∀ W, Below w.heap.size w W → Calls Try.prog fn cap W (CO .u64 W r q t)) :
    Calls Try.prog 36 #[.func (.func fn) #[] cap] w (KO .u64 w r q t) := by
  have hmf : ∀ (fn : Fn) (first cap : Array Value) (w : World), (Instr.makeFunc fn first cap).run Try.prog w = .ok (.func fn first cap) w := fun _ _ _ _ => rfl
  have h0 := cuAt.start w
  have hc := Lib.hid (hcl (cu3 w) h0.bel)
  have H0 := Lib.hid h0
  clear hcl h0
  go_enter_defers Try.func36, Try.ntmps36
  go_wp2_with fail
  refine hc.out.mono ?_
  rintro e w1 ⟨b1, ⟨ht, rfl⟩ | ⟨ht, hr, hq, rfl⟩⟩
  · have h1 := H0.out.below b1
    have c0 := h1.c0
    have c1 := h1.c1
    have f0 := h1.f0
    have f1 := h1.f1
    have h2 := (h1.set0 r).set1 q
    clear b1 H0 hc
    go_wp2_with fail
    have k0 := h2.c0
    have k1 := h2.c1
    have k2 := h2.c2
    have z0 := h2.f0
    have z1 := h2.f1
    have z2 := h2.f2
    clear h1 c0 c1 f0 f1
    generalize ((w1.setCell ⟨w.heap.size, 0, none⟩ (.int .u64 r)).setCell ⟨w.heap.size + 1, 0, none⟩ (.int .u64 q)) = w2 at *
    have h3 := (((h2.set0 r).set1 q).set2 0).dr
    have H3 := Lib.hid h3
    clear h2 h3
    go_region
    go_wp2_with fail
    have h3 := H3.out
    refine leaves_cons (f := 51) (args := #[.pointer (some ⟨w.heap.size, 0, none⟩), .pointer (some ⟨w.heap.size + 1, 0, none⟩), .pointer (some ⟨w.heap.size + 1 + 1, 0, none⟩)]) (by simp) (by simp [go_sem]) ?_
    refine (cuidle ⟨w.heap.size, 0, none⟩ ⟨w.heap.size + 1, 0, none⟩ ⟨w.heap.size + 1 + 1, 0, none⟩ _).mono ?_
    rintro e u' w'' ⟨rfl, rfl, rfl⟩
    clear H3 k0 k1 k2 z0 z1 z2
    generalize (((w2.setCell ⟨w.heap.size, 0, none⟩ (.int .u64 r)).setCell ⟨w.heap.size + 1, 0, none⟩ (.int .u64 q)).setCell ⟨w.heap.size + 1 + 1, 0, none⟩ (.int .i64 0)).drew = w3 at *
    have r0 := h3.c0
    have r1 := h3.c1
    have r2 := h3.c2
    have BL := Lib.hid h3.bel
    clear h3
    simp [Leaves, settle, results, Try.results36, go_sem, r0, r1, r2]
    exact ⟨by rw [ht], BL.out⟩
  · have h1 := H0.out.below b1
    have h2 := ((h1.dr.set0 0).set1 0).set2 t
    have k0 := h1.c0
    have k1 := h1.c1
    have k2 := h1.c2
    have z0 := h1.f0
    have z1 := h1.f1
    have z2 := h1.f2
    clear b1 H0 hc h1
    refine leaves_cons (f := 51) (args := #[.pointer (some ⟨w.heap.size, 0, none⟩), .pointer (some ⟨w.heap.size + 1, 0, none⟩), .pointer (some ⟨w.heap.size + 1 + 1, 0, none⟩)]) (by simp) (by simp [go_sem]) ?_
    refine (cupanicking w.heap.size _ _ _ t [] _ k0 k1 k2 z0 z1 z2).mono ?_
    rintro e u' w'' ⟨rfl, rfl, rfl⟩
    generalize ((w1.drew.setCell ⟨w.heap.size, 0, none⟩ (.int .u64 0)).setCell ⟨w.heap.size + 1, 0, none⟩ (.int .u64 0)).setCell ⟨w.heap.size + 1 + 1, 0, none⟩ (.int .i64 t) = w3 at *
    have r0 := h2.c0
    have r1 := h2.c1
    have r2 := h2.c2
    have BL := Lib.hid h2.bel
    clear h2 k0 k1 k2 z0 z1 z2
    simp [Leaves, settle, results, Try.results36, go_sem, r0, r1, r2]
    exact ⟨by rw [hr, hq], BL.out⟩
theorem ciidle (p q r : Addr) (w : World) :
    CallsD Try.prog 55 #[.pointer (some p), .pointer (some q), .pointer (some r)] .returning w fun e u' w' => e = .returned (.tuple #[]) ∧ u' = .returning ∧ w' = w := by
  refine callsD_of_wpS Try.func55 rfl fun c₀ cs hu => ?_
  apply wpS_seq
  apply wpS_region
  simp [wpOpsS, go_sem, recoverD, hu, Try.ntmps55, Exit.thenS]
  apply wpS_seq
  apply wpS_region
  simp [wpOpsS, go_sem, Exit.thenS]
  refine wpS_cond (t := false) (by simp [Act.eval, Array.replicate]) ?_
  simp only [Bool.false_eq_true, if_false]
  refine wpS_of_wp (wp_skip ?_)
  cases c₀
  simp_all [bodyPostS, results, Try.results55]
theorem cipanicking (b : Nat) (x y z : Value) (t : Int) (older : List PanicEntry) (w : World) (h0 : w.cell? ⟨b, 0, none⟩ = some x) (h1 : w.cell? ⟨b + 1, 0, none⟩ = some y) (h2 : w.cell? ⟨b + 1 + 1, 0, none⟩ = some z)
    (z0 : w.frozen? ⟨b, 0, none⟩ = false) (z1 : w.frozen? ⟨b + 1, 0, none⟩ = false) (z2 : w.frozen? ⟨b + 1 + 1, 0, none⟩ = false) :
    CallsD Try.prog 55 #[.pointer (some ⟨b, 0, none⟩), .pointer (some ⟨b + 1, 0, none⟩), .pointer (some ⟨b + 1 + 1, 0, none⟩)] (.panicking ({ v := .iface 3 (.int .i64 t), recovered := false } :: older)) w fun e u' w' =>
      e = .returned (.tuple #[]) ∧ u' = .panicking ({ v := .iface 3 (.int .i64 t), recovered := true } :: older) ∧ w' = ((w.drew.setCell ⟨b, 0, none⟩ (.int .i64 0)).setCell ⟨b + 1, 0, none⟩ (.int .i64 0)).setCell ⟨b + 1 + 1, 0, none⟩ (.int .i64 t) := by
  refine callsD_of_wpS Try.func55 rfl fun c₀ cs hu => ?_
  apply wpS_seq
  apply wpS_region
  simp [wpOpsS, go_sem, recoverD, hu, Try.ntmps55, Exit.thenS]
  apply wpS_seq
  apply wpS_region
  simp [wpOpsS, go_sem, Exit.thenS]
  refine wpS_cond (t := true) (by simp [Act.eval, Array.replicate]) ?_
  simp only [if_true]
  refine wpS_of_wp ?_
  simp only [Array.replicate_succ, Array.replicate_zero, List.push_toArray, List.append_toArray, List.nil_append, List.cons_append, List.setIfInBounds_toArray, List.set_cons_zero, List.set_cons_succ]
  have hta := fun w => assertI t w
  have g0 : w.drew.cell? ⟨b, 0, none⟩ = some x := h0
  have g1 : w.drew.cell? ⟨b + 1, 0, none⟩ = some y := h1
  have g2 : w.drew.cell? ⟨b + 1 + 1, 0, none⟩ = some z := h2
  have y0 : w.drew.frozen? ⟨b, 0, none⟩ = false := z0
  have y1 : w.drew.frozen? ⟨b + 1, 0, none⟩ = false := z1
  have y2 : w.drew.frozen? ⟨b + 1 + 1, 0, none⟩ = false := z2
  go_region
  cases c₀
  simp_all [bodyPostS, results, Try.results55]
/-- The three results, in blocks of their own. -/
def ci3 (w : World) : World := ((w.alloc (.cells #[.int .i64 0] 2)).alloc (.cells #[.int .i64 0] 2)).alloc (.cells #[.int .i64 0] 3)
structure ciAt (w wr : World) (x y z : Int) : Prop where
  e0 : wr.heap[w.heap.size]? = some (.cells #[.int .i64 x] 2 (0, 0))
  e1 : wr.heap[w.heap.size + 1]? = some (.cells #[.int .i64 y] 2 (0, 0))
  e2 : wr.heap[w.heap.size + 1 + 1]? = some (.cells #[.int .i64 z] 3 (0, 0))
  bel : Below w.heap.size w wr
theorem ciAt.start (w : World) : ciAt w (ci3 w) 0 0 0 := by
  have s1 : (w.alloc (.cells #[.int .i64 0] 2)).heap.size = w.heap.size + 1 := World.size_alloc ..
  have s2 : ((w.alloc (.cells #[.int .i64 0] 2)).alloc (.cells #[.int .i64 0] 2)).heap.size = w.heap.size + 1 + 1 := by rw [World.size_alloc, s1]
  refine ⟨?_, ?_, ?_, ?_⟩
  · unfold ci3
    rw [Below.heap_alloc _ _ _ (by rw [s2]; omega), Below.heap_alloc _ _ _ (by rw [s1]; omega)]
    exact heap_alloc_new _ _
  · unfold ci3
    rw [Below.heap_alloc _ _ _ (by rw [s2]; omega)]
    have := heap_alloc_new (w.alloc (.cells #[.int .i64 0] 2)) (.cells #[.int .i64 0] 2)
    rw [s1] at this
    exact this
  · unfold ci3
    have := heap_alloc_new ((w.alloc (.cells #[.int .i64 0] 2)).alloc (.cells #[.int .i64 0] 2)) (.cells #[.int .i64 0] 3)
    rw [s2] at this
    exact this
  · unfold ci3
    exact ((Below.al _ _).alloc (by rw [s1]; omega) _).alloc (by rw [s2]; omega) _
section
variable {w wr w' : World} {x y z : Int}
theorem ciAt.below (h : ciAt w wr x y z) (k : Below wr.heap.size wr w') : ciAt w w' x y z :=
  ⟨(k.block _ (Array.getElem?_eq_some_iff.1 h.e0).1).trans h.e0, (k.block _ (Array.getElem?_eq_some_iff.1 h.e1).1).trans h.e1, (k.block _ (Array.getElem?_eq_some_iff.1 h.e2).1).trans h.e2, h.bel.trans (k.mono h.bel.size)⟩
theorem ciAt.dr (h : ciAt w wr x y z) : ciAt w wr.drew x y z := ⟨h.e0, h.e1, h.e2, h.bel.drew⟩
theorem ciAt.set0 (h : ciAt w wr x y z) (v : Int) : ciAt w (wr.setCell ⟨w.heap.size, 0, none⟩ (.int .i64 v)) v y z :=
  ⟨by rw [heap_setCell_same wr _ 0 _ _ _ h.e0]; rfl, (Below.heap_setCell _ _ _ _ (by show w.heap.size + 1 ≠ w.heap.size; omega)).trans h.e1, (Below.heap_setCell _ _ _ _ (by show w.heap.size + 1 + 1 ≠ w.heap.size; omega)).trans h.e2, h.bel.setCell (p := ⟨w.heap.size, 0, none⟩) (Nat.le_refl _) _⟩
theorem ciAt.set1 (h : ciAt w wr x y z) (v : Int) : ciAt w (wr.setCell ⟨w.heap.size + 1, 0, none⟩ (.int .i64 v)) x v z :=
  ⟨(Below.heap_setCell _ _ _ _ (by show w.heap.size ≠ w.heap.size + 1; omega)).trans h.e0, by rw [heap_setCell_same wr _ 0 _ _ _ h.e1]; rfl, (Below.heap_setCell _ _ _ _ (by show w.heap.size + 1 + 1 ≠ w.heap.size + 1; omega)).trans h.e2, h.bel.setCell (p := ⟨w.heap.size + 1, 0, none⟩) (by show _ ≤ w.heap.size + 1; omega) _⟩
theorem ciAt.set2 (h : ciAt w wr x y z) (v : Int) : ciAt w (wr.setCell ⟨w.heap.size + 1 + 1, 0, none⟩ (.int .i64 v)) x y v :=
  ⟨(Below.heap_setCell _ _ _ _ (by show w.heap.size ≠ w.heap.size + 1 + 1; omega)).trans h.e0, (Below.heap_setCell _ _ _ _ (by show w.heap.size + 1 ≠ w.heap.size + 1 + 1; omega)).trans h.e1, by rw [heap_setCell_same wr _ 0 _ _ _ h.e2]; rfl, h.bel.setCell (p := ⟨w.heap.size + 1 + 1, 0, none⟩) (by show _ ≤ w.heap.size + 1 + 1; omega) _⟩
theorem ciAt.c0 (h : ciAt w wr x y z) : wr.cell? ⟨w.heap.size, 0, none⟩ = some (.int .i64 x) := by rw [cell_of_row _ _ _ _ _ _ h.e0]; rfl
theorem ciAt.c1 (h : ciAt w wr x y z) : wr.cell? ⟨w.heap.size + 1, 0, none⟩ = some (.int .i64 y) := by rw [cell_of_row _ _ _ _ _ _ h.e1]; rfl
theorem ciAt.c2 (h : ciAt w wr x y z) : wr.cell? ⟨w.heap.size + 1 + 1, 0, none⟩ = some (.int .i64 z) := by rw [cell_of_row _ _ _ _ _ _ h.e2]; rfl
theorem ciAt.f0 (h : ciAt w wr x y z) : wr.frozen? ⟨w.heap.size, 0, none⟩ = false := frozen_of_row wr _ 0 _ _ h.e0
theorem ciAt.f1 (h : ciAt w wr x y z) : wr.frozen? ⟨w.heap.size + 1, 0, none⟩ = false := frozen_of_row wr _ 0 _ _ h.e1
theorem ciAt.f2 (h : ciAt w wr x y z) : wr.frozen? ⟨w.heap.size + 1 + 1, 0, none⟩ = false := frozen_of_row wr _ 0 _ _ h.e2
end
set_option maxRecDepth 100000 in
set_option maxHeartbeats 800000 in
theorem cicaught (fn : FuncId) (cap : Array Value) (r q t : Int) (w : World) (hen : ∀ args w, (callFunc fn args).run Try.prog w = .ok (.enter fn args) w)
    (hcl : ∀ W, Below w.heap.size w W → Calls Try.prog fn cap W (CO .i64 W r q t)) :
    Calls Try.prog 40 #[.func (.func fn) #[] cap] w (KO .i64 w r q t) := by
  have hmf : ∀ (fn : Fn) (first cap : Array Value) (w : World), (Instr.makeFunc fn first cap).run Try.prog w = .ok (.func fn first cap) w := fun _ _ _ _ => rfl
  have h0 := ciAt.start w
  have hc := Lib.hid (hcl (ci3 w) h0.bel)
  have H0 := Lib.hid h0
  clear hcl h0
  go_enter_defers Try.func40, Try.ntmps40
  go_wp2_with fail
  refine hc.out.mono ?_
  rintro e w1 ⟨b1, ⟨ht, rfl⟩ | ⟨ht, hr, hq, rfl⟩⟩
  · have h1 := H0.out.below b1
    have c0 := h1.c0
    have c1 := h1.c1
    have f0 := h1.f0
    have f1 := h1.f1
    have h2 := (h1.set0 r).set1 q
    clear b1 H0 hc
    go_wp2_with fail
    have k0 := h2.c0
    have k1 := h2.c1
    have k2 := h2.c2
    have z0 := h2.f0
    have z1 := h2.f1
    have z2 := h2.f2
    clear h1 c0 c1 f0 f1
    generalize ((w1.setCell ⟨w.heap.size, 0, none⟩ (.int .i64 r)).setCell ⟨w.heap.size + 1, 0, none⟩ (.int .i64 q)) = w2 at *
    have h3 := (((h2.set0 r).set1 q).set2 0).dr
    have H3 := Lib.hid h3
    clear h2 h3
    go_region
    go_wp2_with fail
    have h3 := H3.out
    refine leaves_cons (f := 55) (args := #[.pointer (some ⟨w.heap.size, 0, none⟩), .pointer (some ⟨w.heap.size + 1, 0, none⟩), .pointer (some ⟨w.heap.size + 1 + 1, 0, none⟩)]) (by simp) (by simp [go_sem]) ?_
    refine (ciidle ⟨w.heap.size, 0, none⟩ ⟨w.heap.size + 1, 0, none⟩ ⟨w.heap.size + 1 + 1, 0, none⟩ _).mono ?_
    rintro e u' w'' ⟨rfl, rfl, rfl⟩
    clear H3 k0 k1 k2 z0 z1 z2
    generalize (((w2.setCell ⟨w.heap.size, 0, none⟩ (.int .i64 r)).setCell ⟨w.heap.size + 1, 0, none⟩ (.int .i64 q)).setCell ⟨w.heap.size + 1 + 1, 0, none⟩ (.int .i64 0)).drew = w3 at *
    have r0 := h3.c0
    have r1 := h3.c1
    have r2 := h3.c2
    have BL := Lib.hid h3.bel
    clear h3
    simp [Leaves, settle, results, Try.results40, go_sem, r0, r1, r2]
    exact ⟨by rw [ht], BL.out⟩
  · have h1 := H0.out.below b1
    have h2 := ((h1.dr.set0 0).set1 0).set2 t
    have k0 := h1.c0
    have k1 := h1.c1
    have k2 := h1.c2
    have z0 := h1.f0
    have z1 := h1.f1
    have z2 := h1.f2
    clear b1 H0 hc h1
    refine leaves_cons (f := 55) (args := #[.pointer (some ⟨w.heap.size, 0, none⟩), .pointer (some ⟨w.heap.size + 1, 0, none⟩), .pointer (some ⟨w.heap.size + 1 + 1, 0, none⟩)]) (by simp) (by simp [go_sem]) ?_
    refine (cipanicking w.heap.size _ _ _ t [] _ k0 k1 k2 z0 z1 z2).mono ?_
    rintro e u' w'' ⟨rfl, rfl, rfl⟩
    generalize ((w1.drew.setCell ⟨w.heap.size, 0, none⟩ (.int .i64 0)).setCell ⟨w.heap.size + 1, 0, none⟩ (.int .i64 0)).setCell ⟨w.heap.size + 1 + 1, 0, none⟩ (.int .i64 t) = w3 at *
    have r0 := h2.c0
    have r1 := h2.c1
    have r2 := h2.c2
    have BL := Lib.hid h2.bel
    clear h2 k0 k1 k2 z0 z1 z2
    simp [Leaves, settle, results, Try.results40, go_sem, r0, r1, r2]
    exact ⟨by rw [hr, hq], BL.out⟩
/-- UDiv's answers. -/
def uT (a d : Int) : Int := if d = 0 then -10 else if d ≤ a then -11 else 0
def uR (a b d : Int) : Int := if uT a d = 0 then (a * 18446744073709551616 + b) % d else 0
def uQ (a b d : Int) : Int := if uT a d = 0 then (a * 18446744073709551616 + b) / d else 0
theorem aggI64 (w : World) : (isAgg 2).run Try.prog w = .ok false w := by kernel_rfl
set_option maxRecDepth 100000 in
set_option maxHeartbeats 400000 in
theorem udivC_any (g g' : Nat) (a b d : Int) (ha : half a) (hb : half b) (hd : half d) (W : World) (p : PB W g a b) (c : W.cell? ⟨g', 0, none⟩ = some (.int .u64 d)) :
    Calls Try.prog 37 #[.pointer (some ⟨g, 0, none⟩), .pointer (some ⟨g', 0, none⟩)] W (CO .u64 W (uR a b d) (uQ a b d) (uT a d)) := by
  have DV := Lib.hid (divide_any a b d ha hb hd)
  have LD := Lib.hid p.load
  go_enter Try.func37, Try.ntmps37
  go_wp2_with (first | ((with_reducible refine here (op := .load 24 (.tmp 0)) ?_); refine wpList_load_run rfl 24 _ rfl _ _ rfl LD.out ?_) | fail)
  refine (DV.out _).mono ?_
  rintro e w1 ⟨b1, ⟨h0, rfl⟩ | ⟨h0, h1, rfl⟩ | ⟨h0, h1, rfl⟩⟩
  · exact ⟨rfl, b1, .inr ⟨by unfold uT; rw [if_pos h0]; decide, by unfold uR uT; rw [if_pos h0]; rfl, by unfold uQ uT; rw [if_pos h0]; rfl, by unfold uT; rw [if_pos h0]; rfl⟩⟩
  · exact ⟨rfl, b1, .inr ⟨by unfold uT; rw [if_neg h0, if_pos h1]; decide, by unfold uR uT; rw [if_neg h0, if_pos h1]; rfl, by unfold uQ uT; rw [if_neg h0, if_pos h1]; rfl, by unfold uT; rw [if_neg h0, if_pos h1]; rfl⟩⟩
  · have ht : uT a d = 0 := by unfold uT; rw [if_neg h0, if_neg (by omega)]
    have hr : uR a b d = (a * 18446744073709551616 + b) % d := by unfold uR; rw [if_pos ht]
    have hq : uQ a b d = (a * 18446744073709551616 + b) / d := by unfold uQ; rw [if_pos ht]
    rw [← hr, ← hq]
    have HT := Lib.hid ht
    clear hr hq ht h0 h1
    generalize uR a b d = r at *
    generalize uQ a b d = q at *
    go_wp2_with fail
    go_ret2
    exact ⟨b1, .inl ⟨HT.out, rfl⟩⟩
theorem CO.of {k : IntKind} {w : World} {r q t : Int} {e : Ending} {w' : World} (h : CO k w r q t e w') : CO k w r q t e w' := h
set_option maxRecDepth 100000 in
set_option maxHeartbeats 800000 in
theorem udiv_any (a b d : Int) (ha : half a) (hb : half b) (hd : half d) (w : World) :
    Calls Try.prog 21 #[pw a b, .int .u64 d] w (KO .u64 w (uR a b d) (uQ a b d) (uT a d)) := by
  have hmf : ∀ (fn : Fn) (first cap : Array Value) (w : World), (Instr.makeFunc fn first cap).run Try.prog w = .ok (.func fn first cap) w := fun _ _ _ _ => rfl
  have p0 : PB ((w.alloc (.cells #[.int .u64 a, .int .u64 b] 24)).alloc (.cells #[.int .u64 d] 22)) w.heap.size a b := PB.alloc (PB.new _ _ _) _
  have e0 : ((w.alloc (.cells #[.int .u64 a, .int .u64 b] 24)).alloc (.cells #[.int .u64 d] 22)).heap[w.heap.size + 1]? = some (.cells #[.int .u64 d] 22 (0, 0)) := by
    have := heap_alloc_new (w.alloc (.cells #[.int .u64 a, .int .u64 b] 24)) (.cells #[.int .u64 d] 22)
    rw [World.size_alloc] at this
    exact this
  have b0 : Below w.heap.size w ((w.alloc (.cells #[.int .u64 a, .int .u64 b] 24)).alloc (.cells #[.int .u64 d] 22)) := (Below.al _ _).alloc (by simp only [World.size_alloc]; omega) _
  have s0 : ((w.alloc (.cells #[.int .u64 a, .int .u64 b] 24)).alloc (.cells #[.int .u64 d] 22)).heap.size = w.heap.size + 2 := by simp
  have KC := Lib.hid (cucaught 37 #[.pointer (some ⟨w.heap.size, 0, none⟩), .pointer (some ⟨w.heap.size + 1, 0, none⟩)] (uR a b d) (uQ a b d) (uT a d) _
    (enters_of Try.func37 (by kernel_rfl) rfl)
    (fun W hW => udivC_any w.heap.size (w.heap.size + 1) a b d ha hb hd W (p0.below hW (by omega)) (by rw [hW.cell (p := ⟨w.heap.size + 1, 0, none⟩) (by show w.heap.size + 1 < _; omega), cell_of_row _ _ _ _ _ _ e0]; rfl)))
  have B0 := Lib.hid b0
  clear p0 e0 b0 s0
  go_enter Try.func21, Try.ntmps21
  go_wp2_with fail
  refine KC.out.mono ?_
  rintro e w1 ⟨rfl, b1⟩
  have b2 := B0.out.trans (b1.mono B0.out.size)
  clear b1 KC B0
  generalize uR a b d = r at *
  generalize uQ a b d = q at *
  generalize uT a d = t at *
  go_wp2_with fail
  go_ret3
  exact ⟨rfl, b2⟩
structure BigFit (a b d : Int) : Prop where
  smp : fit64 (tq a b d) = false
  fmp : fit64 (fq a b d) = false
theorem big_fit (a b d : Int) (hd : i64r d) (h0 : d ≠ 0) (h : 18446744073709551616 ≤ absW a b / absI d) : BigFit a b d := by
  have ht : tq a b d = absW a b / absI d ∨ tq a b d = -(absW a b / absI d) := by unfold tq sgn; cases (negW a != decide (d < 0)) <;> simp
  refine ⟨?_, ?_⟩
  · unfold fit64
    rcases ht with e | e <;> rw [e] <;> simp <;> omega
  · have hf : fq a b d = tq a b d ∨ fq a b d = tq a b d - 1 := by unfold fq; cases offD a b d <;> simp
    unfold fit64
    rcases hf with e1 | e1 <;> rcases ht with e | e <;> rw [e1, e] <;> simp <;> omega
structure SmallQ (a b d : Int) : Prop where
  smq : -170141183460469231731687303715884105728 ≤ tq a b d ∧ tq a b d ≤ 170141183460469231731687303715884105728
  fmq : -170141183460469231731687303715884105728 ≤ fq a b d ∧ fq a b d ≤ 170141183460469231731687303715884105728
theorem small_q (a b d : Int) (ha : half a) (hb : half b) (hd : i64r d) (h0 : d ≠ 0) (h : absW a b / absI d < 18446744073709551616) : SmallQ a b d := by
  have nn := absW_nn ha hb
  have ap := absI_pos h0
  have q1 : 0 ≤ absW a b / absI d := Int.ediv_nonneg nn.1 (by omega)
  have ht : tq a b d = absW a b / absI d ∨ tq a b d = -(absW a b / absI d) := by unfold tq sgn; cases (negW a != decide (d < 0)) <;> simp
  have hf : fq a b d = tq a b d ∨ fq a b d = tq a b d - 1 := by unfold fq; cases offD a b d <;> simp
  refine ⟨by rcases ht with e | e <;> rw [e] <;> omega, by rcases hf with e1 | e1 <;> rcases ht with e | e <;> rw [e1, e] <;> omega⟩
set_option maxRecDepth 100000 in
set_option maxHeartbeats 800000 in
theorem smC_any (g g' : Nat) (a b d : Int) (ha : half a) (hb : half b) (hd : i64r d) (W : World) (p : PB W g a b) (c : W.cell? ⟨g', 0, none⟩ = some (.int .i64 d)) :
    Calls Try.prog 41 #[.pointer (some ⟨g, 0, none⟩), .pointer (some ⟨g', 0, none⟩)] W (CO .i64 W (giveE d (tq a b d) (tr a b d)) (giveE d (tq a b d) (tq a b d)) (thrE d (tq a b d))) := by
  have TW := Lib.hid (towards_any a b d ha hb hd)
  have LD := Lib.hid p.load
  have BG := Lib.hid (fun h0 h => big_fit a b d hd h0 h)
  have SM := Lib.hid (fun h0 h => small_q a b d ha hb hd h0 h)
  go_enter Try.func41, Try.ntmps41
  go_wp2_with (first | ((with_reducible refine here (op := .load 24 (.tmp 0)) ?_); refine wpList_load_run rfl 24 _ rfl _ _ rfl LD.out ?_) | fail)
  refine (TW.out _).mono ?_
  rintro e w1 ⟨b1, ⟨h0, rfl⟩ | ⟨h0, h1, rfl⟩ | ⟨h0, h1, x, y, rfl, hx, hy, exy⟩⟩
  · exact ⟨rfl, b1, .inr ⟨by unfold thrE; rw [if_pos h0]; decide, by unfold giveE; rw [if_pos h0], by unfold giveE; rw [if_pos h0], by unfold thrE; rw [if_pos h0]; rfl⟩⟩
  · have hf := (BG.out h0 h1).smp
    exact ⟨rfl, b1, .inr ⟨by unfold thrE; rw [if_neg h0, hf]; decide, by unfold giveE; rw [if_neg h0, hf]; rfl, by unfold giveE; rw [if_neg h0, hf]; rfl, by unfold thrE; rw [if_neg h0, hf]; rfl⟩⟩
  · obtain ⟨f1, f2⟩ := fit_of hx hy (SM.out h0 h1).smq exy
    have NW := Lib.hid (narrow_any x y hx hy)
    have F1 := Lib.hid f1
    have F2 := Lib.hid f2
    have p2 : PB (w1.alloc (.cells #[.int .u64 x, .int .u64 y] 24)) w1.heap.size x y := PB.new _ _ _
    have L2 := Lib.hid p2.load
    have b2 := b1.alloc b1.size (.cells #[.int .u64 x, .int .u64 y] 24)
    have H0 := Lib.hid h0
    have hthr : ∀ bq, fit64 (tq a b d) = bq → thrE d (tq a b d) = (if bq then 0 else -11) ∧ giveE d (tq a b d) (tr a b d) = (if bq then tr a b d else 0) ∧ giveE d (tq a b d) (tq a b d) = (if bq then tq a b d else 0) := fun bq h => by
      unfold thrE giveE
      rw [if_neg h0, if_neg h0, if_neg h0, h]
      exact ⟨rfl, rfl, rfl⟩
    have HT := Lib.hid hthr
    clear f1 f2 hthr p2 h0 h1 exy b1 TW LD SM BG p c
    generalize thrE d (tq a b d) = t at *
    generalize giveE d (tq a b d) (tr a b d) = r at *
    generalize giveE d (tq a b d) (tq a b d) = q at *
    generalize tr a b d = RR at *
    generalize tq a b d = QQ at *
    go_wp2_with (first | ((with_reducible refine here (op := .load 24 (.tmp 5)) ?_); refine wpList_load_run rfl 24 _ rfl _ _ rfl L2.out ?_) | fail)
    refine (NW.out _).mono ?_
    rintro e w2 ⟨b3, ⟨hf, rfl⟩ | ⟨hf, rfl⟩⟩
    · have hq := F1.out.1 hf
      have hv := F2.out hq
      rw [hv]
      obtain ⟨t1, t2, t3⟩ := HT.out true hq
      have T1 := Lib.hid t1
      have T2 := Lib.hid t2
      have T3 := Lib.hid t3
      have b4 := b2.trans (b3.mono b2.size)
      clear b2 b3 t1 t2 t3 hq hv F1 F2 HT NW L2
      go_wp2_with fail
      go_ret2
      refine ⟨b4, .inl ⟨T1.out, ?_⟩⟩
      rw [T2.out, T3.out]
      rfl
    · have hq : fit64 QQ = false := by
        cases hh : fit64 QQ with
        | true => exact absurd (F1.out.2 hh) hf
        | false => rfl
      obtain ⟨t1, t2, t3⟩ := HT.out false hq
      exact ⟨rfl, b2.trans (b3.mono b2.size), .inr ⟨by rw [t1]; decide, t2, t3, by rw [t1]; rfl⟩⟩
set_option maxRecDepth 100000 in
set_option maxHeartbeats 800000 in
theorem sm_any (a b d : Int) (ha : half a) (hb : half b) (hd : i64r d) (w : World) :
    Calls Try.prog 23 #[pw a b, .int .i64 d] w (KO .i64 w (giveE d (tq a b d) (tr a b d)) (giveE d (tq a b d) (tq a b d)) (thrE d (tq a b d))) := by
  have hmf : ∀ (fn : Fn) (first cap : Array Value) (w : World), (Instr.makeFunc fn first cap).run Try.prog w = .ok (.func fn first cap) w := fun _ _ _ _ => rfl
  have p0 : PB ((w.alloc (.cells #[.int .u64 a, .int .u64 b] 24)).alloc (.cells #[.int .i64 d] 2)) w.heap.size a b := PB.alloc (PB.new _ _ _) _
  have e0 : ((w.alloc (.cells #[.int .u64 a, .int .u64 b] 24)).alloc (.cells #[.int .i64 d] 2)).heap[w.heap.size + 1]? = some (.cells #[.int .i64 d] 2 (0, 0)) := by
    have := heap_alloc_new (w.alloc (.cells #[.int .u64 a, .int .u64 b] 24)) (.cells #[.int .i64 d] 2)
    rw [World.size_alloc] at this
    exact this
  have b0 : Below w.heap.size w ((w.alloc (.cells #[.int .u64 a, .int .u64 b] 24)).alloc (.cells #[.int .i64 d] 2)) := (Below.al _ _).alloc (by simp only [World.size_alloc]; omega) _
  have s0 : ((w.alloc (.cells #[.int .u64 a, .int .u64 b] 24)).alloc (.cells #[.int .i64 d] 2)).heap.size = w.heap.size + 2 := by simp
  have KC := Lib.hid (cicaught 41 #[.pointer (some ⟨w.heap.size, 0, none⟩), .pointer (some ⟨w.heap.size + 1, 0, none⟩)] (giveE d (tq a b d) (tr a b d)) (giveE d (tq a b d) (tq a b d)) (thrE d (tq a b d)) _
    (enters_of Try.func41 (by kernel_rfl) rfl)
    (fun W hW => smC_any w.heap.size (w.heap.size + 1) a b d ha hb hd W (p0.below hW (by omega)) (by rw [hW.cell (p := ⟨w.heap.size + 1, 0, none⟩) (by show w.heap.size + 1 < _; omega), cell_of_row _ _ _ _ _ _ e0]; rfl)))
  have B0 := Lib.hid b0
  clear p0 e0 b0 s0
  go_enter Try.func23, Try.ntmps23
  go_wp2_with fail
  refine KC.out.mono ?_
  rintro e w1 ⟨rfl, b1⟩
  have b2 := B0.out.trans (b1.mono B0.out.size)
  clear b1 KC B0
  generalize thrE d (tq a b d) = t at *
  generalize giveE d (tq a b d) (tr a b d) = r at *
  generalize giveE d (tq a b d) (tq a b d) = q at *
  go_wp2_with fail
  go_ret3
  exact ⟨rfl, b2⟩
set_option maxRecDepth 100000 in
set_option maxHeartbeats 800000 in
theorem fmC_any (g g' : Nat) (a b d : Int) (ha : half a) (hb : half b) (hd : i64r d) (W : World) (p : PB W g a b) (c : W.cell? ⟨g', 0, none⟩ = some (.int .i64 d)) :
    Calls Try.prog 46 #[.pointer (some ⟨g, 0, none⟩), .pointer (some ⟨g', 0, none⟩)] W (CO .i64 W (giveE d (fq a b d) (fr a b d)) (giveE d (fq a b d) (fq a b d)) (thrE d (fq a b d))) := by
  have TW := Lib.hid (down_any a b d ha hb hd)
  have LD := Lib.hid p.load
  have BG := Lib.hid (fun h0 h => big_fit a b d hd h0 h)
  have SM := Lib.hid (fun h0 h => small_q a b d ha hb hd h0 h)
  go_enter Try.func46, Try.ntmps46
  go_wp2_with (first | ((with_reducible refine here (op := .load 24 (.tmp 0)) ?_); refine wpList_load_run rfl 24 _ rfl _ _ rfl LD.out ?_) | fail)
  refine (TW.out _).mono ?_
  rintro e w1 ⟨b1, ⟨h0, rfl⟩ | ⟨h0, h1, rfl⟩ | ⟨h0, h1, x, y, rfl, hx, hy, exy⟩⟩
  · exact ⟨rfl, b1, .inr ⟨by unfold thrE; rw [if_pos h0]; decide, by unfold giveE; rw [if_pos h0], by unfold giveE; rw [if_pos h0], by unfold thrE; rw [if_pos h0]; rfl⟩⟩
  · have hf := (BG.out h0 h1).fmp
    exact ⟨rfl, b1, .inr ⟨by unfold thrE; rw [if_neg h0, hf]; decide, by unfold giveE; rw [if_neg h0, hf]; rfl, by unfold giveE; rw [if_neg h0, hf]; rfl, by unfold thrE; rw [if_neg h0, hf]; rfl⟩⟩
  · obtain ⟨f1, f2⟩ := fit_of hx hy (SM.out h0 h1).fmq exy
    have NW := Lib.hid (narrow_any x y hx hy)
    have F1 := Lib.hid f1
    have F2 := Lib.hid f2
    have p2 : PB (w1.alloc (.cells #[.int .u64 x, .int .u64 y] 24)) w1.heap.size x y := PB.new _ _ _
    have L2 := Lib.hid p2.load
    have b2 := b1.alloc b1.size (.cells #[.int .u64 x, .int .u64 y] 24)
    have H0 := Lib.hid h0
    have hthr : ∀ bq, fit64 (fq a b d) = bq → thrE d (fq a b d) = (if bq then 0 else -11) ∧ giveE d (fq a b d) (fr a b d) = (if bq then fr a b d else 0) ∧ giveE d (fq a b d) (fq a b d) = (if bq then fq a b d else 0) := fun bq h => by
      unfold thrE giveE
      rw [if_neg h0, if_neg h0, if_neg h0, h]
      exact ⟨rfl, rfl, rfl⟩
    have HT := Lib.hid hthr
    clear f1 f2 hthr p2 h0 h1 exy b1 TW LD SM BG p c
    generalize thrE d (fq a b d) = t at *
    generalize giveE d (fq a b d) (fr a b d) = r at *
    generalize giveE d (fq a b d) (fq a b d) = q at *
    generalize fr a b d = RR at *
    generalize fq a b d = QQ at *
    go_wp2_with (first | ((with_reducible refine here (op := .load 24 (.tmp 5)) ?_); refine wpList_load_run rfl 24 _ rfl _ _ rfl L2.out ?_) | fail)
    refine (NW.out _).mono ?_
    rintro e w2 ⟨b3, ⟨hf, rfl⟩ | ⟨hf, rfl⟩⟩
    · have hq := F1.out.1 hf
      have hv := F2.out hq
      rw [hv]
      obtain ⟨t1, t2, t3⟩ := HT.out true hq
      have T1 := Lib.hid t1
      have T2 := Lib.hid t2
      have T3 := Lib.hid t3
      have b4 := b2.trans (b3.mono b2.size)
      clear b2 b3 t1 t2 t3 hq hv F1 F2 HT NW L2
      go_wp2_with fail
      go_ret2
      refine ⟨b4, .inl ⟨T1.out, ?_⟩⟩
      rw [T2.out, T3.out]
      rfl
    · have hq : fit64 QQ = false := by
        cases hh : fit64 QQ with
        | true => exact absurd (F1.out.2 hh) hf
        | false => rfl
      obtain ⟨t1, t2, t3⟩ := HT.out false hq
      exact ⟨rfl, b2.trans (b3.mono b2.size), .inr ⟨by rw [t1]; decide, t2, t3, by rw [t1]; rfl⟩⟩
set_option maxRecDepth 100000 in
set_option maxHeartbeats 800000 in
theorem fm_any (a b d : Int) (ha : half a) (hb : half b) (hd : i64r d) (w : World) :
    Calls Try.prog 25 #[pw a b, .int .i64 d] w (KO .i64 w (giveE d (fq a b d) (fr a b d)) (giveE d (fq a b d) (fq a b d)) (thrE d (fq a b d))) := by
  have hmf : ∀ (fn : Fn) (first cap : Array Value) (w : World), (Instr.makeFunc fn first cap).run Try.prog w = .ok (.func fn first cap) w := fun _ _ _ _ => rfl
  have p0 : PB ((w.alloc (.cells #[.int .u64 a, .int .u64 b] 24)).alloc (.cells #[.int .i64 d] 2)) w.heap.size a b := PB.alloc (PB.new _ _ _) _
  have e0 : ((w.alloc (.cells #[.int .u64 a, .int .u64 b] 24)).alloc (.cells #[.int .i64 d] 2)).heap[w.heap.size + 1]? = some (.cells #[.int .i64 d] 2 (0, 0)) := by
    have := heap_alloc_new (w.alloc (.cells #[.int .u64 a, .int .u64 b] 24)) (.cells #[.int .i64 d] 2)
    rw [World.size_alloc] at this
    exact this
  have b0 : Below w.heap.size w ((w.alloc (.cells #[.int .u64 a, .int .u64 b] 24)).alloc (.cells #[.int .i64 d] 2)) := (Below.al _ _).alloc (by simp only [World.size_alloc]; omega) _
  have s0 : ((w.alloc (.cells #[.int .u64 a, .int .u64 b] 24)).alloc (.cells #[.int .i64 d] 2)).heap.size = w.heap.size + 2 := by simp
  have KC := Lib.hid (cicaught 46 #[.pointer (some ⟨w.heap.size, 0, none⟩), .pointer (some ⟨w.heap.size + 1, 0, none⟩)] (giveE d (fq a b d) (fr a b d)) (giveE d (fq a b d) (fq a b d)) (thrE d (fq a b d)) _
    (enters_of Try.func46 (by kernel_rfl) rfl)
    (fun W hW => fmC_any w.heap.size (w.heap.size + 1) a b d ha hb hd W (p0.below hW (by omega)) (by rw [hW.cell (p := ⟨w.heap.size + 1, 0, none⟩) (by show w.heap.size + 1 < _; omega), cell_of_row _ _ _ _ _ _ e0]; rfl)))
  have B0 := Lib.hid b0
  clear p0 e0 b0 s0
  go_enter Try.func25, Try.ntmps25
  go_wp2_with fail
  refine KC.out.mono ?_
  rintro e w1 ⟨rfl, b1⟩
  have b2 := B0.out.trans (b1.mono B0.out.size)
  clear b1 KC B0
  generalize thrE d (fq a b d) = t at *
  generalize giveE d (fq a b d) (fr a b d) = r at *
  generalize giveE d (fq a b d) (fq a b d) = q at *
  go_wp2_with fail
  go_ret3
  exact ⟨rfl, b2⟩
/-- Div's answers. -/
def hiI (a : Int) : Int := (a / 9223372036854775808) % 18446744073709551616
def loI (a : Int) : Int := a % 18446744073709551616
def dvT (d : Int) : Int := if d = 0 then -10 else 0
def dvR (a d : Int) : Int := if d = 0 then 0 else fr (hiI a) (loI a) d
def dvQ (a d : Int) : Int := if d = 0 then 0 else IntKind.i64.wrap (fq (hiI a) (loI a) d)
theorem hi_lo {a x y : Int} (ha : i64r a) (hx : half x) (hy : half y) (e : x * 18446744073709551616 + y = a % 340282366920938463463374607431768211456) : x = hiI a ∧ y = loI a := by
  unfold hiI loI i64r half at *
  omega
theorem hi_half (a : Int) : half (hiI a) ∧ half (loI a) := by unfold hiI loI half; omega
theorem abs_small {a : Int} (ha : i64r a) : absW (hiI a) (loI a) ≤ 9223372036854775808 := by
  unfold absW hiI loI i64r at *
  split <;> omega
theorem no_big {a d : Int} (ha : i64r a) (hd : i64r d) (h0 : d ≠ 0) : absW (hiI a) (loI a) / absI d < 18446744073709551616 := by
  have h1 := abs_small ha
  obtain ⟨k1, k2⟩ := hi_half a
  have h2 := (absW_nn k1 k2).1
  have h3 := absI_pos h0
  have h4 := Int.ediv_le_self (absI d) h2
  omega
theorem wrap_low {q x y : Int} (hx : half x) (hy : half y) (e : x * 18446744073709551616 + y = q % 340282366920938463463374607431768211456) : IntKind.i64.wrap y = IntKind.i64.wrap q := by
  unfold half at *
  simp only [IntKind.wrap, IntKind.bits, IntKind.signed]
  simp
  omega
structure V1 (W wr : World) (g g' : Nat) (a d : Int) : Prop where
  bel : Below W.heap.size W wr
  c : wr.cell? ⟨g, 0, none⟩ = some (.int .i64 a)
  c' : wr.cell? ⟨g', 0, none⟩ = some (.int .i64 d)
  lt : g < W.heap.size ∧ g' < W.heap.size
theorem V1.below {W wr w' : World} {g g' : Nat} {a d : Int} (h : V1 W wr g g' a d) (k : Below wr.heap.size wr w') : V1 W w' g g' a d :=
  ⟨h.bel.trans (k.mono h.bel.size), (k.cell (p := ⟨g, 0, none⟩) (Nat.lt_of_lt_of_le h.lt.1 h.bel.size)).trans h.c, (k.cell (p := ⟨g', 0, none⟩) (Nat.lt_of_lt_of_le h.lt.2 h.bel.size)).trans h.c', h.lt⟩
theorem V1.put {W wr : World} {g g' : Nat} {a d : Int} (h : V1 W wr g g' a d) {q : Nat} (hq : W.heap.size ≤ q) (x y : Int) : V1 W (wput wr q x y) g g' a d := by
  have k : Below W.heap.size wr (wput wr q x y) := below_put (Below.refl _ _) hq x y
  exact ⟨h.bel.trans k, (k.cell (p := ⟨g, 0, none⟩) h.lt.1).trans h.c, (k.cell (p := ⟨g', 0, none⟩) h.lt.2).trans h.c', h.lt⟩
set_option maxRecDepth 100000 in
set_option maxHeartbeats 2000000 in
theorem dvC_any (g g' : Nat) (a d : Int) (ha : i64r a) (hd : i64r d) (W : World) (hv : V1 W W g g' a d) :
    Calls Try.prog 49 #[.pointer (some ⟨g, 0, none⟩), .pointer (some ⟨g', 0, none⟩)] W (CO .i64 W (dvR a d) (dvQ a d) (dvT d)) := by
  have hlt := hv.lt
  have OF := Lib.hid (of_any a ha.1 ha.2)
  have DN := Lib.hid (fun x y hx hy => down_any x y d hx hy hd)
  have HL := Lib.hid (fun x y (hx : half x) (hy : half y) e => hi_lo (x := x) (y := y) ha hx hy e)
  have NB := Lib.hid (fun h0 => no_big ha hd h0)
  have HV := Lib.hid hv
  clear hv
  go_enter Try.func49, Try.ntmps49
  go_wp2_with fail
  refine wp_region_held (S := fun V => V.cell? ⟨g, 0, none⟩ = some (.int .i64 a) ∧ V.cell? ⟨g', 0, none⟩ = some (.int .i64 d)) (by kernel_rfl) ?_
  change wpAnyH _ _ _ _ _ _ _ _ W.drew
  have v0 : V1 W W.drew g g' a d := ⟨HV.out.bel.drew, HV.out.c, HV.out.c', HV.out.lt⟩
  clear HV
  generalize W.drew = w0 at *
  have hS : w0.cell? ⟨g, 0, none⟩ = some (.int .i64 a) ∧ w0.cell? ⟨g', 0, none⟩ = some (.int .i64 d) := ⟨v0.c, v0.c'⟩
  refine wpAnyH_take (oi := ⟨_, _, _, _, _, _⟩) (i := 0) (v := .int .i64 a) rfl (by kernel_rfl) (by kernel_rfl) (by kernel_rfl) (fun _ _ _ h => h) (yif_load rfl 2 (.tmp 0) rfl _ _ rfl fun w h => load_one aggI64 h.1) hS ?_
  try simp only [Act.put, List.setIfInBounds_toArray, List.set_cons_zero, List.set_cons_succ]
  refine wpAnyH_take (oi := ⟨_, _, _, _, _, _⟩) (i := 2) (v := .int .i64 d) rfl (by kernel_rfl) (by kernel_rfl) (by kernel_rfl) (fun _ _ _ h => h) (yif_load rfl 2 (.tmp 1) rfl _ _ rfl fun w h => load_one aggI64 h.2) hS ?_
  try simp only [Act.put, List.setIfInBounds_toArray, List.set_cons_zero, List.set_cons_succ]
  refine wpAnyH_all (rs := [1, 7]) (by kernel_rfl) (by simp) fun i hi => ?_
  have hi2 : i = 1 ∨ i = 7 := by simpa using hi
  rcases hi2 with rfl | rfl
  · refine op_call (om := ⟨_, _, _, _, _, _⟩) (fn := 15) (args := #[.int .i64 a]) (R := fun u w' => GivesW w0 (a % 340282366920938463463374607431768211456) (.returned u) w') rfl rfl (by go_simp)
      ((OF.out w0).mono fun e w' h => h.call) _ _ rfl rfl ?_
    rintro u w1 hu
    obtain ⟨x, y, rfl, hx, hy, exy, bb⟩ := hu.open
    obtain ⟨rfl, rfl⟩ := HL.out x y hx hy exy
    have v1 := v0.below bb
    have hS : w1.cell? ⟨g, 0, none⟩ = some (.int .i64 a) ∧ w1.cell? ⟨g', 0, none⟩ = some (.int .i64 d) := ⟨v1.c, v1.c'⟩
    refine ⟨hS, ?_⟩
    try simp only [Act.put, List.setIfInBounds_toArray, List.set_cons_zero, List.set_cons_succ]
    refine wpAnyH_all (rs := [3, 7]) (by kernel_rfl) (by simp) fun i hi => ?_
    have hi2 : i = 3 ∨ i = 7 := by simpa using hi
    rcases hi2 with rfl | rfl
    · refine op_callP (om := ⟨_, _, _, _, _, _⟩) (fn := 47) (args := #[pw (hiI a) (loI a), .int .i64 d]) (R := fun u w' => Below w1.heap.size w1 w' ∧ d ≠ 0 ∧ ∃ x y : Int, u = .tuple #[.int .i64 (fr (hiI a) (loI a) d), pw x y] ∧ half x ∧ half y ∧ x * 18446744073709551616 + y = fq (hiI a) (loI a) d % 340282366920938463463374607431768211456) (RP := fun ch w' => Below w1.heap.size w1 w' ∧ d = 0 ∧ Ending.panicked ch = thrownI (-10)) rfl rfl (by go_simp)
        ((DN.out _ _ (hi_half a).1 (hi_half a).2 w1).mono fun e w' h => ?_) _ _ rfl rfl ?_ ?_
      · obtain ⟨h1, ⟨h2, h3⟩ | ⟨h2, h3, h4⟩ | ⟨h2, h3, x, y, h4, h5, h6, h7⟩⟩ := h
        · exact .inr ⟨_, h3, h1, h2, rfl⟩
        · exact (Int.not_lt.2 h3 (NB.out h2)).elim
        · exact .inl ⟨_, h4, h1, h2, x, y, rfl, h5, h6, h7⟩
      rotate_left
      · rintro ch w2 ⟨h1, h2, h3⟩
        exact ⟨rfl, v1.bel.trans (h1.mono v1.bel.size), .inr ⟨by unfold dvT; rw [if_pos h2]; decide, by unfold dvR; rw [if_pos h2], by unfold dvQ; rw [if_pos h2], by rw [h3]; unfold dvT; rw [if_pos h2]⟩⟩
      · rintro u w2 ⟨bb, h0, x, y, rfl, hx, hy, exy⟩
        have v2 := v1.below bb
        have hS : w2.cell? ⟨g, 0, none⟩ = some (.int .i64 a) ∧ w2.cell? ⟨g', 0, none⟩ = some (.int .i64 d) := ⟨v2.c, v2.c'⟩
        refine ⟨hS, ?_⟩
        try simp only [Act.put, List.setIfInBounds_toArray, List.set_cons_zero, List.set_cons_succ]
        refine wpAnyH_take (oi := ⟨_, _, _, _, _, _⟩) (i := 4) (v := .tuple #[.int .i64 (fr (hiI a) (loI a) d), pw x y]) rfl (by kernel_rfl) (by kernel_rfl) (by kernel_rfl) (fun _ _ _ h => h) (Or.inl ⟨by rfl, fun _ _ => rfl⟩) hS ?_
        try simp only [Act.put, List.setIfInBounds_toArray, List.set_cons_zero, List.set_cons_succ]
        refine wpAnyH_take (oi := ⟨_, _, _, _, _, _⟩) (i := 5) (v := .int .i64 (fr (hiI a) (loI a) d)) rfl (by kernel_rfl) (by kernel_rfl) (by kernel_rfl) (fun _ _ _ h => h) (Or.inl ⟨by rfl, fun _ _ => by go_simp⟩) hS ?_
        try simp only [Act.put, List.setIfInBounds_toArray, List.set_cons_zero, List.set_cons_succ]
        refine wpAnyH_take (oi := ⟨_, _, _, _, _, _⟩) (i := 6) (v := pw x y) rfl (by kernel_rfl) (by kernel_rfl) (by kernel_rfl) (fun _ _ _ h => h) (Or.inl ⟨by rfl, fun _ _ => by go_simp⟩) hS ?_
        try simp only [Act.put, List.setIfInBounds_toArray, List.set_cons_zero, List.set_cons_succ]
        refine wpAnyH_all (rs := [7]) (by kernel_rfl) (by simp) fun i hi => ?_
        obtain rfl : i = 7 := by simpa using hi
        refine op_run (om := ⟨_, _, _, _, _, _⟩) (u := .pointer (some ⟨w2.heap.size, 0, none⟩)) (w' := (w2.alloc (.cells #[.int .u64 0, .int .u64 0] 24))) rfl rfl (by go_simp) _ _ rfl rfl ?_
        rintro u wA ⟨rfl, rfl⟩
        have v3 := v2.below (Below.al w2 (.cells #[.int .u64 0, .int .u64 0] 24))
        have q3 : PB (w2.alloc (.cells #[.int .u64 0, .int .u64 0] 24)) w2.heap.size 0 0 := PB.new _ _ _
        have hgq : W.heap.size ≤ w2.heap.size := v2.bel.size
        generalize (w2.alloc (.cells #[.int .u64 0, .int .u64 0] 24)) = w3 at *
        have hS : w3.cell? ⟨g, 0, none⟩ = some (.int .i64 a) ∧ w3.cell? ⟨g', 0, none⟩ = some (.int .i64 d) := ⟨v3.c, v3.c'⟩
        refine ⟨hS, ?_⟩
        try simp only [Act.put, List.setIfInBounds_toArray, List.set_cons_zero, List.set_cons_succ]
        refine wpAnyH_take (oi := ⟨_, _, _, _, _, _⟩) (i := 8) (v := .int .i64 (fr (hiI a) (loI a) d)) rfl (by kernel_rfl) (by kernel_rfl) (by kernel_rfl) (fun _ _ _ h => h) (Or.inl ⟨by rfl, fun _ _ => rfl⟩) hS ?_
        try simp only [Act.put, List.setIfInBounds_toArray, List.set_cons_zero, List.set_cons_succ]
        refine wpAnyH_all (rs := [9]) (by kernel_rfl) (by simp) fun i hi => ?_
        obtain rfl : i = 9 := by simpa using hi
        refine wpOp_skip (om := ⟨_, _, _, _, _, _⟩) rfl rfl (ex_store 24 (.tmp 5) (.tmp 12) rfl _ _ rfl rfl (q3.store x y)) ?_
        have vE := v3.put hgq x y
        have qE := q3.put x y
        refine ⟨⟨vE.c, vE.c'⟩, ?_⟩
        try simp only [Act.put, List.setIfInBounds_toArray, List.set_cons_zero, List.set_cons_succ]
        refine wpAnyH_done (by kernel_rfl) ?_ _
        try simp only [Act.put, List.setIfInBounds_toArray, List.set_cons_zero, List.set_cons_succ]
        have cq := qE.c1
        have bE := vE.bel
        have hw := wrap_low hx hy exy
        have HT := Lib.hid (show dvT d = 0 ∧ dvR a d = fr (hiI a) (loI a) d ∧ dvQ a d = IntKind.i64.wrap (fq (hiI a) (loI a) d) from ⟨if_neg h0, if_neg h0, if_neg h0⟩)
        clear hS qE vE OF DN HL NB h0 exy
        generalize wput w3 w2.heap.size x y = wE at *
        generalize hfr : fr (hiI a) (loI a) d = R at *
        generalize hfq : IntKind.i64.wrap (fq (hiI a) (loI a) d) = Q at *
        go_wp2_with fail
        go_quiet (fail)
        go_wp2_with fail
        go_ret2
        exact ⟨below_drewN bE _, .inl ⟨HT.out.1, by rw [HT.out.2.1, HT.out.2.2]; rfl⟩⟩
    · refine op_run (om := ⟨_, _, _, _, _, _⟩) (u := .pointer (some ⟨w1.heap.size, 0, none⟩)) (w' := (w1.alloc (.cells #[.int .u64 0, .int .u64 0] 24))) rfl rfl (by go_simp) _ _ rfl rfl ?_
      rintro u wA ⟨rfl, rfl⟩
      have v2 := v1.below (Below.al w1 (.cells #[.int .u64 0, .int .u64 0] 24))
      have q2 : PB (w1.alloc (.cells #[.int .u64 0, .int .u64 0] 24)) w1.heap.size 0 0 := PB.new _ _ _
      have hgq : W.heap.size ≤ w1.heap.size := v1.bel.size
      generalize (w1.alloc (.cells #[.int .u64 0, .int .u64 0] 24)) = w2 at *
      have hS : w2.cell? ⟨g, 0, none⟩ = some (.int .i64 a) ∧ w2.cell? ⟨g', 0, none⟩ = some (.int .i64 d) := ⟨v2.c, v2.c'⟩
      refine ⟨hS, ?_⟩
      try simp only [Act.put, List.setIfInBounds_toArray, List.set_cons_zero, List.set_cons_succ]
      refine wpAnyH_all (rs := [3]) (by kernel_rfl) (by simp) fun i hi => ?_
      obtain rfl : i = 3 := by simpa using hi
      refine op_callP (om := ⟨_, _, _, _, _, _⟩) (fn := 47) (args := #[pw (hiI a) (loI a), .int .i64 d]) (R := fun u w' => Below w2.heap.size w2 w' ∧ d ≠ 0 ∧ ∃ x y : Int, u = .tuple #[.int .i64 (fr (hiI a) (loI a) d), pw x y] ∧ half x ∧ half y ∧ x * 18446744073709551616 + y = fq (hiI a) (loI a) d % 340282366920938463463374607431768211456) (RP := fun ch w' => Below w2.heap.size w2 w' ∧ d = 0 ∧ Ending.panicked ch = thrownI (-10)) rfl rfl (by go_simp)
        ((DN.out _ _ (hi_half a).1 (hi_half a).2 w2).mono fun e w' h => ?_) _ _ rfl rfl ?_ ?_
      · obtain ⟨h1, ⟨h2, h3⟩ | ⟨h2, h3, h4⟩ | ⟨h2, h3, x, y, h4, h5, h6, h7⟩⟩ := h
        · exact .inr ⟨_, h3, h1, h2, rfl⟩
        · exact (Int.not_lt.2 h3 (NB.out h2)).elim
        · exact .inl ⟨_, h4, h1, h2, x, y, rfl, h5, h6, h7⟩
      rotate_left
      · rintro ch w3 ⟨h1, h2, h3⟩
        exact ⟨rfl, v2.bel.trans (h1.mono v2.bel.size), .inr ⟨by unfold dvT; rw [if_pos h2]; decide, by unfold dvR; rw [if_pos h2], by unfold dvQ; rw [if_pos h2], by rw [h3]; unfold dvT; rw [if_pos h2]⟩⟩
      · rintro u w3 ⟨bb, h0, x, y, rfl, hx, hy, exy⟩
        have v3 := v2.below bb
        have q3 := q2.below bb q2.lt
        have hS : w3.cell? ⟨g, 0, none⟩ = some (.int .i64 a) ∧ w3.cell? ⟨g', 0, none⟩ = some (.int .i64 d) := ⟨v3.c, v3.c'⟩
        refine ⟨hS, ?_⟩
        try simp only [Act.put, List.setIfInBounds_toArray, List.set_cons_zero, List.set_cons_succ]
        refine wpAnyH_take (oi := ⟨_, _, _, _, _, _⟩) (i := 4) (v := .tuple #[.int .i64 (fr (hiI a) (loI a) d), pw x y]) rfl (by kernel_rfl) (by kernel_rfl) (by kernel_rfl) (fun _ _ _ h => h) (Or.inl ⟨by rfl, fun _ _ => rfl⟩) hS ?_
        try simp only [Act.put, List.setIfInBounds_toArray, List.set_cons_zero, List.set_cons_succ]
        refine wpAnyH_take (oi := ⟨_, _, _, _, _, _⟩) (i := 5) (v := .int .i64 (fr (hiI a) (loI a) d)) rfl (by kernel_rfl) (by kernel_rfl) (by kernel_rfl) (fun _ _ _ h => h) (Or.inl ⟨by rfl, fun _ _ => by go_simp⟩) hS ?_
        try simp only [Act.put, List.setIfInBounds_toArray, List.set_cons_zero, List.set_cons_succ]
        refine wpAnyH_take (oi := ⟨_, _, _, _, _, _⟩) (i := 6) (v := pw x y) rfl (by kernel_rfl) (by kernel_rfl) (by kernel_rfl) (fun _ _ _ h => h) (Or.inl ⟨by rfl, fun _ _ => by go_simp⟩) hS ?_
        try simp only [Act.put, List.setIfInBounds_toArray, List.set_cons_zero, List.set_cons_succ]
        refine wpAnyH_take (oi := ⟨_, _, _, _, _, _⟩) (i := 8) (v := .int .i64 (fr (hiI a) (loI a) d)) rfl (by kernel_rfl) (by kernel_rfl) (by kernel_rfl) (fun _ _ _ h => h) (Or.inl ⟨by rfl, fun _ _ => rfl⟩) hS ?_
        try simp only [Act.put, List.setIfInBounds_toArray, List.set_cons_zero, List.set_cons_succ]
        refine wpAnyH_all (rs := [9]) (by kernel_rfl) (by simp) fun i hi => ?_
        obtain rfl : i = 9 := by simpa using hi
        refine wpOp_skip (om := ⟨_, _, _, _, _, _⟩) rfl rfl (ex_store 24 (.tmp 5) (.tmp 12) rfl _ _ rfl rfl (q3.store x y)) ?_
        have vE := v3.put hgq x y
        have qE := q3.put x y
        refine ⟨⟨vE.c, vE.c'⟩, ?_⟩
        try simp only [Act.put, List.setIfInBounds_toArray, List.set_cons_zero, List.set_cons_succ]
        refine wpAnyH_done (by kernel_rfl) ?_ _
        try simp only [Act.put, List.setIfInBounds_toArray, List.set_cons_zero, List.set_cons_succ]
        have cq := qE.c1
        have bE := vE.bel
        have hw := wrap_low hx hy exy
        have HT := Lib.hid (show dvT d = 0 ∧ dvR a d = fr (hiI a) (loI a) d ∧ dvQ a d = IntKind.i64.wrap (fq (hiI a) (loI a) d) from ⟨if_neg h0, if_neg h0, if_neg h0⟩)
        clear hS qE vE OF DN HL NB h0 exy
        generalize wput w3 w1.heap.size x y = wE at *
        generalize hfr : fr (hiI a) (loI a) d = R at *
        generalize hfq : IntKind.i64.wrap (fq (hiI a) (loI a) d) = Q at *
        go_wp2_with fail
        go_quiet (fail)
        go_wp2_with fail
        go_ret2
        exact ⟨below_drewN bE _, .inl ⟨HT.out.1, by rw [HT.out.2.1, HT.out.2.2]; rfl⟩⟩
  · refine op_run (om := ⟨_, _, _, _, _, _⟩) (u := .pointer (some ⟨w0.heap.size, 0, none⟩)) (w' := (w0.alloc (.cells #[.int .u64 0, .int .u64 0] 24))) rfl rfl (by go_simp) _ _ rfl rfl ?_
    rintro u wA ⟨rfl, rfl⟩
    have v1 := v0.below (Below.al w0 (.cells #[.int .u64 0, .int .u64 0] 24))
    have q1 : PB (w0.alloc (.cells #[.int .u64 0, .int .u64 0] 24)) w0.heap.size 0 0 := PB.new _ _ _
    have hgq : W.heap.size ≤ w0.heap.size := v0.bel.size
    generalize (w0.alloc (.cells #[.int .u64 0, .int .u64 0] 24)) = w1 at *
    have hS : w1.cell? ⟨g, 0, none⟩ = some (.int .i64 a) ∧ w1.cell? ⟨g', 0, none⟩ = some (.int .i64 d) := ⟨v1.c, v1.c'⟩
    refine ⟨hS, ?_⟩
    try simp only [Act.put, List.setIfInBounds_toArray, List.set_cons_zero, List.set_cons_succ]
    refine wpAnyH_all (rs := [1]) (by kernel_rfl) (by simp) fun i hi => ?_
    obtain rfl : i = 1 := by simpa using hi
    refine op_call (om := ⟨_, _, _, _, _, _⟩) (fn := 15) (args := #[.int .i64 a]) (R := fun u w' => GivesW w1 (a % 340282366920938463463374607431768211456) (.returned u) w') rfl rfl (by go_simp)
      ((OF.out w1).mono fun e w' h => h.call) _ _ rfl rfl ?_
    rintro u w2 hu
    obtain ⟨x, y, rfl, hx, hy, exy, bb⟩ := hu.open
    obtain ⟨rfl, rfl⟩ := HL.out x y hx hy exy
    have v2 := v1.below bb
    have q2 := q1.below bb q1.lt
    have hS : w2.cell? ⟨g, 0, none⟩ = some (.int .i64 a) ∧ w2.cell? ⟨g', 0, none⟩ = some (.int .i64 d) := ⟨v2.c, v2.c'⟩
    refine ⟨hS, ?_⟩
    try simp only [Act.put, List.setIfInBounds_toArray, List.set_cons_zero, List.set_cons_succ]
    refine wpAnyH_all (rs := [3]) (by kernel_rfl) (by simp) fun i hi => ?_
    obtain rfl : i = 3 := by simpa using hi
    refine op_callP (om := ⟨_, _, _, _, _, _⟩) (fn := 47) (args := #[pw (hiI a) (loI a), .int .i64 d]) (R := fun u w' => Below w2.heap.size w2 w' ∧ d ≠ 0 ∧ ∃ x y : Int, u = .tuple #[.int .i64 (fr (hiI a) (loI a) d), pw x y] ∧ half x ∧ half y ∧ x * 18446744073709551616 + y = fq (hiI a) (loI a) d % 340282366920938463463374607431768211456) (RP := fun ch w' => Below w2.heap.size w2 w' ∧ d = 0 ∧ Ending.panicked ch = thrownI (-10)) rfl rfl (by go_simp)
      ((DN.out _ _ (hi_half a).1 (hi_half a).2 w2).mono fun e w' h => ?_) _ _ rfl rfl ?_ ?_
    · obtain ⟨h1, ⟨h2, h3⟩ | ⟨h2, h3, h4⟩ | ⟨h2, h3, x, y, h4, h5, h6, h7⟩⟩ := h
      · exact .inr ⟨_, h3, h1, h2, rfl⟩
      · exact (Int.not_lt.2 h3 (NB.out h2)).elim
      · exact .inl ⟨_, h4, h1, h2, x, y, rfl, h5, h6, h7⟩
    rotate_left
    · rintro ch w3 ⟨h1, h2, h3⟩
      exact ⟨rfl, v2.bel.trans (h1.mono v2.bel.size), .inr ⟨by unfold dvT; rw [if_pos h2]; decide, by unfold dvR; rw [if_pos h2], by unfold dvQ; rw [if_pos h2], by rw [h3]; unfold dvT; rw [if_pos h2]⟩⟩
    · rintro u w3 ⟨bb, h0, x, y, rfl, hx, hy, exy⟩
      have v3 := v2.below bb
      have q3 := q2.below bb q2.lt
      have hS : w3.cell? ⟨g, 0, none⟩ = some (.int .i64 a) ∧ w3.cell? ⟨g', 0, none⟩ = some (.int .i64 d) := ⟨v3.c, v3.c'⟩
      refine ⟨hS, ?_⟩
      try simp only [Act.put, List.setIfInBounds_toArray, List.set_cons_zero, List.set_cons_succ]
      refine wpAnyH_take (oi := ⟨_, _, _, _, _, _⟩) (i := 4) (v := .tuple #[.int .i64 (fr (hiI a) (loI a) d), pw x y]) rfl (by kernel_rfl) (by kernel_rfl) (by kernel_rfl) (fun _ _ _ h => h) (Or.inl ⟨by rfl, fun _ _ => rfl⟩) hS ?_
      try simp only [Act.put, List.setIfInBounds_toArray, List.set_cons_zero, List.set_cons_succ]
      refine wpAnyH_take (oi := ⟨_, _, _, _, _, _⟩) (i := 5) (v := .int .i64 (fr (hiI a) (loI a) d)) rfl (by kernel_rfl) (by kernel_rfl) (by kernel_rfl) (fun _ _ _ h => h) (Or.inl ⟨by rfl, fun _ _ => by go_simp⟩) hS ?_
      try simp only [Act.put, List.setIfInBounds_toArray, List.set_cons_zero, List.set_cons_succ]
      refine wpAnyH_take (oi := ⟨_, _, _, _, _, _⟩) (i := 6) (v := pw x y) rfl (by kernel_rfl) (by kernel_rfl) (by kernel_rfl) (fun _ _ _ h => h) (Or.inl ⟨by rfl, fun _ _ => by go_simp⟩) hS ?_
      try simp only [Act.put, List.setIfInBounds_toArray, List.set_cons_zero, List.set_cons_succ]
      refine wpAnyH_take (oi := ⟨_, _, _, _, _, _⟩) (i := 8) (v := .int .i64 (fr (hiI a) (loI a) d)) rfl (by kernel_rfl) (by kernel_rfl) (by kernel_rfl) (fun _ _ _ h => h) (Or.inl ⟨by rfl, fun _ _ => rfl⟩) hS ?_
      try simp only [Act.put, List.setIfInBounds_toArray, List.set_cons_zero, List.set_cons_succ]
      refine wpAnyH_all (rs := [9]) (by kernel_rfl) (by simp) fun i hi => ?_
      obtain rfl : i = 9 := by simpa using hi
      refine wpOp_skip (om := ⟨_, _, _, _, _, _⟩) rfl rfl (ex_store 24 (.tmp 5) (.tmp 12) rfl _ _ rfl rfl (q3.store x y)) ?_
      have vE := v3.put hgq x y
      have qE := q3.put x y
      refine ⟨⟨vE.c, vE.c'⟩, ?_⟩
      try simp only [Act.put, List.setIfInBounds_toArray, List.set_cons_zero, List.set_cons_succ]
      refine wpAnyH_done (by kernel_rfl) ?_ _
      try simp only [Act.put, List.setIfInBounds_toArray, List.set_cons_zero, List.set_cons_succ]
      have cq := qE.c1
      have bE := vE.bel
      have hw := wrap_low hx hy exy
      have HT := Lib.hid (show dvT d = 0 ∧ dvR a d = fr (hiI a) (loI a) d ∧ dvQ a d = IntKind.i64.wrap (fq (hiI a) (loI a) d) from ⟨if_neg h0, if_neg h0, if_neg h0⟩)
      clear hS qE vE OF DN HL NB h0 exy
      generalize wput w3 w0.heap.size x y = wE at *
      generalize hfr : fr (hiI a) (loI a) d = R at *
      generalize hfq : IntKind.i64.wrap (fq (hiI a) (loI a) d) = Q at *
      go_wp2_with fail
      go_quiet (fail)
      go_wp2_with fail
      go_ret2
      exact ⟨below_drewN bE _, .inl ⟨HT.out.1, by rw [HT.out.2.1, HT.out.2.2]; rfl⟩⟩
set_option maxRecDepth 100000 in
set_option maxHeartbeats 800000 in
theorem div_any (a d : Int) (ha : i64r a) (hd : i64r d) (w : World) :
    Calls Try.prog 27 #[.int .i64 a, .int .i64 d] w (KO .i64 w (dvR a d) (dvQ a d) (dvT d)) := by
  have hmf : ∀ (fn : Fn) (first cap : Array Value) (w : World), (Instr.makeFunc fn first cap).run Try.prog w = .ok (.func fn first cap) w := fun _ _ _ _ => rfl
  have e1 : ((w.alloc (.cells #[.int .i64 a] 2)).alloc (.cells #[.int .i64 d] 2)).heap[w.heap.size]? = some (.cells #[.int .i64 a] 2 (0, 0)) := (Below.heap_alloc _ _ _ (by simp)).trans (heap_alloc_new _ _)
  have e0 : ((w.alloc (.cells #[.int .i64 a] 2)).alloc (.cells #[.int .i64 d] 2)).heap[w.heap.size + 1]? = some (.cells #[.int .i64 d] 2 (0, 0)) := by
    have := heap_alloc_new (w.alloc (.cells #[.int .i64 a] 2)) (.cells #[.int .i64 d] 2)
    rw [World.size_alloc] at this
    exact this
  have b0 : Below w.heap.size w ((w.alloc (.cells #[.int .i64 a] 2)).alloc (.cells #[.int .i64 d] 2)) := (Below.al _ _).alloc (by simp only [World.size_alloc]; omega) _
  have s0 : ((w.alloc (.cells #[.int .i64 a] 2)).alloc (.cells #[.int .i64 d] 2)).heap.size = w.heap.size + 2 := by simp
  have KC := Lib.hid (cicaught 49 #[.pointer (some ⟨w.heap.size, 0, none⟩), .pointer (some ⟨w.heap.size + 1, 0, none⟩)] (dvR a d) (dvQ a d) (dvT d) _
    (enters_of Try.func49 (by kernel_rfl) rfl)
    (fun W hW => by
      have k1 := hW.cell (p := ⟨w.heap.size, 0, none⟩) (by rw [s0]; show w.heap.size < _; omega)
      have k2 := hW.cell (p := ⟨w.heap.size + 1, 0, none⟩) (by rw [s0]; show w.heap.size + 1 < _; omega)
      have k3 := hW.size
      exact dvC_any w.heap.size (w.heap.size + 1) a d ha hd W ⟨Below.refl _ _, by rw [k1, cell_of_row _ _ _ _ _ _ e1]; rfl, by rw [k2, cell_of_row _ _ _ _ _ _ e0]; rfl, by omega⟩))
  have B0 := Lib.hid b0
  clear e1 e0 b0 s0
  go_enter Try.func27, Try.ntmps27
  go_wp2_with fail
  refine KC.out.mono ?_
  rintro e w1 ⟨rfl, b1⟩
  have b2 := B0.out.trans (b1.mono B0.out.size)
  clear b1 KC B0
  generalize dvT d = t at *
  generalize dvR a d = r at *
  generalize dvQ a d = q at *
  go_wp2_with fail
  go_ret3
  exact ⟨rfl, b2⟩
end Go.Proofs.Ytipolhocplidlaa.Wd
