/-
  WalkFsNone
-/
import Derived.Test.YtdihgfagodjicaaDoorGA
import Derived.WalkKit
import Derived.ProofKit
import Derived.OpenShut
import Derived.Deep.DeepHandedRow
import Derived.Lib.LaidTab
import Derived.ChangeOld
import Derived.Below
import Derived.Deep.QuietTactic
import Derived.BigQuiet
import Derived.WalkSmall
import Derived.Test.YtdihgfagodjicaaDoorGFi
import Derived.Test.YtdihgfagodjicaaDoorGFl
namespace Go.Proofs.YtdihgfagodjicaaDoor.fsNone
open Go.ChangeShapes Go.WideShapes Go.ChangeAt Go.RowKit Ex Fs Ino Mm
set_option linter.unusedVariables false

theorem boxFA (w : World) (a : FAct) : (Instr.box 41 (.agg (facells a).toArray)).run Tryd.prog w = .ok (.pointer (some ⟨w.heap.size, 0, none⟩)) (w.alloc (.cells (facells a).toArray 41)) := rfl
theorem buildM0 (w : World) : (Instr.build 58 #[]).run Tryd.prog w = .ok (.agg noCells) w := by kernel_rfl
theorem boxM0 (w : World) : (Instr.box 58 (.agg noCells)).run Tryd.prog w = .ok (.pointer (some ⟨w.heap.size, 0, none⟩)) (w.alloc (.cells noCells 58)) := rfl
theorem aggS8 (w : World) : (isAgg 22).run Tryd.prog w = .ok false w := by unfold isAgg; rw [Sem.run_bind, run_underlying Tryd.underlying22 w]; rfl
theorem wpList_build0m_run {P : Program} {w w' : World} {ops : Array Oper} {rest : List Oper} {o : Oper} {a : Act} {Q : Exit → Act → World → Prop} (hgd : o.guard = none) (t : TypeId) (ho : o.op = .build t #[]) (v : Value)
    (hrun : (Instr.build t #[]).run P w = .ok v w') (h : wpList P ops Q rest (a.put o.dst v) w') : wpList P ops Q (o :: rest) a w :=
  wpList_plain hgd fun _ hK => by
    unfold Oper.wp execOp
    simp only [ho, Sem.run_bind, List.map_toArray, List.map_nil, hrun, Result.andThen_ok, Sem.run_pure]
    exact hK _ _ h
def ten : Array Value := #[.int .i64 120, .int .i64 120, .int .i64 120, .int .i64 120, .int .i64 120, .int .i64 120, .int .i64 120, .int .i64 120, .int .i64 120, .int .i64 120]
theorem ten_at (k : Nat) (h : k < 10) : ten[k]? = some (.int .i64 120) := by
  match k, h with
  | 0, _ => rfl
  | 1, _ => rfl
  | 2, _ => rfl
  | 3, _ => rfl
  | 4, _ => rfl
  | 5, _ => rfl
  | 6, _ => rfl
  | 7, _ => rfl
  | 8, _ => rfl
  | 9, _ => rfl

set_option maxRecDepth 100000 in
set_option maxHeartbeats 1000000 in
theorem walk (a0 : FAct) (w : World) (o0 : a0.Ok w) (hT : Tab w) :
    Calls Tryd.prog 5 #[.agg (facells a0).toArray] w fun e w' => e = .returned (.bool true) ∧ Below w.heap.size w w' := by
  clear o0
  have hT2 : Tab (w.alloc (.cells (facells a0).toArray 41)) := hT.keep ((Keeps.alloc (fun _ => False) w _).block 0 hT.pos (fun h => h))
  have k0 : Keeps (fun _ => False) w (w.alloc (.cells (facells a0).toArray 41)) := Keeps.alloc _ _ _
  have e0 : (w.alloc (.cells (facells a0).toArray 41)).heap[w.heap.size]? = some (.cells (facells a0).toArray 41 (0, 0)) := heap_alloc_new w _
  go_enter Tryd.func5, Tryd.ntmps5
  go_wp2_with (((with_reducible refine at_ (op := .box 41 (.tmp 0)) ?_); refine wpList_val rfl _ (ex_box 41 (.tmp 0) rfl _ _ rfl (boxFA _ _)) ?_))
  generalize w.alloc (.cells (facells a0).toArray 41) = wa at *
  refine (fawake_any _ hT2).mono ?_
  rintro e w1 ⟨rfl, b1⟩
  have la := (Array.getElem?_eq_some_iff.1 e0).1
  have k1 : Keeps (fun _ => False) w w1 := k0.trans (Keeps.below b1 _ fun k h1 h2 => by omega)
  have e1 := (b1.block _ la).trans e0
  have E1 := Lib.hid e1
  have K1 := Lib.hid k1
  clear k0 e0 b1 la e1 k1 hT2 hT
  go_wp2_with (first
    | ((with_reducible refine here (op := .build 58 #[]) ?_); refine wpList_build0m_run rfl 58 rfl _ (buildM0 _) ?_)
    | ((with_reducible refine here (op := .box 58 (.tmp 21)) ?_); refine wpList_box_run rfl 58 _ rfl _ _ rfl (boxM0 _) ?_))
  have E2 := Lib.hid (show ((w1.alloc (.cells noCells 58)).alloc (.cells #[.pointer none, .pointer (some ⟨w1.heap.size, 0, none⟩)] 24)).heap[w1.heap.size]? = some (.cells noCells 58 (0, 0)) from heap_alloc2_old w1 _ _)
  have E3 := Lib.hid (show ((w1.alloc (.cells noCells 58)).alloc (.cells #[.pointer none, .pointer (some ⟨w1.heap.size, 0, none⟩)] 24)).heap[w1.heap.size + 1]? = some (.cells #[.pointer none, .pointer (some ⟨w1.heap.size, 0, none⟩)] 24 (0, 0)) from heap_alloc2_new w1 _ _)
  have k2 : Keeps (fun _ => False) w1 ((w1.alloc (.cells noCells 58)).alloc (.cells #[.pointer none, .pointer (some ⟨w1.heap.size, 0, none⟩)] 24)) := (Keeps.alloc _ _ _).trans (Keeps.alloc _ _ _)
  have E4 := Lib.hid ((k2.block _ (Array.getElem?_eq_some_iff.1 E1.out).1 (fun h => h)).trans E1.out)
  have K2 := Lib.hid (K1.out.trans k2)
  clear k2 E1
  generalize (w1.alloc (.cells noCells 58)).alloc (.cells #[.pointer none, .pointer (some ⟨w1.heap.size, 0, none⟩)] 24) = w2 at *
  generalize w1.heap.size = s at *
  clear K1
  go_loopw [25] (fun i wr => ∃ k : Nat, k ≤ 2 ∧ i = .int .i64 (k : Int) ∧ Keeps (fun _ => False) w2 wr) (fun i _ => 2 - (RowKit.intOf i).toNat)
  case atStart => exact ⟨0, by omega, rfl, Keeps.refl _ _⟩
  case round =>
    obtain ⟨k, hk, rfl, kp⟩ := hrel
    have l2 := (Array.getElem?_eq_some_iff.1 E2.out).1
    have l3 := (Array.getElem?_eq_some_iff.1 E3.out).1
    have l4 := (Array.getElem?_eq_some_iff.1 E4.out).1
    by_cases hlt : k < 2
    · have r2 := (kp.block _ l2 (fun h => h)).trans E2.out
      have r3 := (kp.block _ l3 (fun h => h)).trans E3.out
      have r4 := (kp.block _ l4 (fun h => h)).trans E4.out
      have hel : ∃ v, wr.cell? ⟨s + 1, k, none⟩ = some (.pointer v) ∧ NoM wr v := by
        have : k = 0 ∨ k = 1 := by omega
        rcases this with rfl | rfl
        · exact ⟨none, by rw [cell_of_row _ _ _ _ _ _ r3]; rfl, Or.inl rfl⟩
        · exact ⟨some ⟨s, 0, none⟩, by rw [cell_of_row _ _ _ _ _ _ r3]; rfl, Or.inr ⟨s, rfl, r2⟩⟩
      obtain ⟨v, hv, hno⟩ := hel
      have HL := Lib.hid (Array.getElem?_eq_some_iff.1 r4).1
      have CA := Lib.hid (fun (W : World) (k : Keeps (fun _ => False) wr W) => show W.cell? ⟨w.heap.size, 1, none⟩ = some (St a0.s1) ∧ W.cell? ⟨w.heap.size, 2, none⟩ = some (St a0.s2) ∧ W.cell? ⟨w.heap.size, 3, none⟩ = some (.int .i64 a0.i3) ∧ W.cell? ⟨w.heap.size, 4, none⟩ = some (.int .i64 a0.i4) ∧ W.cell? ⟨w.heap.size, 5, none⟩ = some (.int .i64 a0.i5) ∧ W.cell? ⟨w.heap.size, 6, none⟩ = some (.slice a0.A a0.xs.length a0.c) from by
        have r := (k.block _ (Array.getElem?_eq_some_iff.1 r4).1 (fun h => h)).trans r4
        refine ⟨?_, ?_, ?_, ?_, ?_, ?_⟩ <;> rw [cell_of_row _ _ _ _ _ _ r] <;> rfl)
      have NN := Lib.hid (fun (W : World) (k : Keeps (fun _ => False) wr W) => hno.keep k (fun _ _ h => h))
      have KP := Lib.hid kp
      clear kp r2 r3 r4 hno
      go_wp2_with fail
      refine (format_any (layC_no (NN.out wr (Keeps.refl _ _)) fmtB)).mono ?_
      rintro e w3 ⟨rfl, -, k3⟩
      clear hv
      have K3 := Lib.hid k3
      clear k3
      go_wp2_with fail
      refine (ffiles_bad (memC_no (NN.out w3 K3.out)) not_ok0).mono ?_
      rintro e w4 ⟨-, k4, rfl⟩
      have K4 := Lib.hid (K3.out.trans k4)
      obtain ⟨c1, c2, c3, c4, c5, c6⟩ := CA.out w4 K4.out
      clear k4
      go_wp2_with fail
      refine (ffind_bad (memC_no (NN.out w4 K4.out)) not_ok0 _).mono ?_
      rintro e w5 ⟨-, k5, rfl⟩
      have K5 := Lib.hid (K4.out.trans k5)
      clear c1 c2 c3 c4 c5 c6 k5
      obtain ⟨c1, c2, c3, c4, c5, c6⟩ := CA.out w5 K5.out
      go_wp2_with fail
      refine (fsize_bad (memC_no (NN.out w5 K5.out)) not_ok0 _).mono ?_
      rintro e w6 ⟨-, k6, rfl⟩
      have K6 := Lib.hid (K5.out.trans k6)
      clear c1 c2 c3 c4 c5 c6 k6
      obtain ⟨c1, c2, c3, c4, c5, c6⟩ := CA.out w6 K6.out
      go_wp2_with fail
      refine (fcreate_bad (memC_no (NN.out w6 K6.out)) not_ok0 _).mono ?_
      rintro e w7 ⟨-, k7, rfl⟩
      have K7 := Lib.hid (K6.out.trans k7)
      clear c1 c2 c3 c4 c5 c6 k7
      obtain ⟨c1, c2, c3, c4, c5, c6⟩ := CA.out w7 K7.out
      go_wp2_with fail
      refine (fread_bad (memC_no (NN.out w7 K7.out)) not_ok0 _ _ _).mono ?_
      rintro e w8 ⟨-, k8, rfl⟩
      have K8 := Lib.hid ((K7.out.trans k8).trans (Keeps.drew (fun _ => False) w8))
      clear c1 c2 c3 c4 c5 c6 k8 K3 K4 K5 K6 K7
      go_wp2_with fail
      refine wp_region_held (S := fun W : World => Keeps (fun _ => False) w8.drew W) (by kernel_rfl) ?_
      change wpAnyH _ _ _ _ _ _ _ _ w8.drew
      generalize w8.drew = wq0 at *
      have HN := Lib.hid (fun (W : World) (k : Keeps (fun _ => False) wq0 W) => NN.out W (K8.out.trans k))
      have HLq := Lib.hid (Nat.lt_of_lt_of_le HL.out K8.out.size)
      have hS : Keeps (fun _ => False) wq0 wq0 := Keeps.refl _ _
      obtain ⟨c1, c2, c3, c4, c5, c6⟩ := CA.out wq0 K8.out
      have KW := Lib.hid (KP.out.trans K8.out)
      clear NN CA HL
      have HL := HLq
      refine wpAnyH_take (oi := ⟨_, _, _, _, _, _⟩) (i := 0) (v := .pointer v) rfl (by kernel_rfl) (by kernel_rfl) (by kernel_rfl) (fun _ _ _ h => h) (Or.inl ⟨by rfl, fun _ _ => rfl⟩) hS ?_
      try simp only [Act.put, List.setIfInBounds_toArray, List.set_cons_zero, List.set_cons_succ]
      refine wpAnyH_take (oi := ⟨_, _, _, _, _, _⟩) (i := 2) (v := .int .i64 120) rfl (by kernel_rfl) (by kernel_rfl) (by kernel_rfl) (fun _ _ _ h => h) (Or.inl ⟨by rfl, fun _ _ => rfl⟩) hS ?_
      try simp only [Act.put, List.setIfInBounds_toArray, List.set_cons_zero, List.set_cons_succ]
      refine wpAnyH_take (oi := ⟨_, _, _, _, _, _⟩) (i := 3) (v := .int .i64 120) rfl (by kernel_rfl) (by kernel_rfl) (by kernel_rfl) (fun _ _ _ h => h) (Or.inl ⟨by rfl, fun _ _ => rfl⟩) hS ?_
      try simp only [Act.put, List.setIfInBounds_toArray, List.set_cons_zero, List.set_cons_succ]
      refine wpAnyH_take (oi := ⟨_, _, _, _, _, _⟩) (i := 4) (v := .int .i64 120) rfl (by kernel_rfl) (by kernel_rfl) (by kernel_rfl) (fun _ _ _ h => h) (Or.inl ⟨by rfl, fun _ _ => rfl⟩) hS ?_
      try simp only [Act.put, List.setIfInBounds_toArray, List.set_cons_zero, List.set_cons_succ]
      refine wpAnyH_take (oi := ⟨_, _, _, _, _, _⟩) (i := 5) (v := .int .i64 120) rfl (by kernel_rfl) (by kernel_rfl) (by kernel_rfl) (fun _ _ _ h => h) (Or.inl ⟨by rfl, fun _ _ => rfl⟩) hS ?_
      try simp only [Act.put, List.setIfInBounds_toArray, List.set_cons_zero, List.set_cons_succ]
      refine wpAnyH_take (oi := ⟨_, _, _, _, _, _⟩) (i := 6) (v := .int .i64 120) rfl (by kernel_rfl) (by kernel_rfl) (by kernel_rfl) (fun _ _ _ h => h) (Or.inl ⟨by rfl, fun _ _ => rfl⟩) hS ?_
      try simp only [Act.put, List.setIfInBounds_toArray, List.set_cons_zero, List.set_cons_succ]
      refine wpAnyH_take (oi := ⟨_, _, _, _, _, _⟩) (i := 7) (v := .pointer v) rfl (by kernel_rfl) (by kernel_rfl) (by kernel_rfl) (fun _ _ _ h => h) (Or.inl ⟨by rfl, fun _ _ => rfl⟩) hS ?_
      try simp only [Act.put, List.setIfInBounds_toArray, List.set_cons_zero, List.set_cons_succ]
      refine wpAnyH_take (oi := ⟨_, _, _, _, _, _⟩) (i := 8) (v := .pointer (some ⟨w.heap.size, 1, none⟩)) rfl (by kernel_rfl) (by kernel_rfl) (by kernel_rfl) (fun _ _ _ h => h) (Or.inl ⟨by rfl, fun _ _ => by go_simp⟩) hS ?_
      try simp only [Act.put, List.setIfInBounds_toArray, List.set_cons_zero, List.set_cons_succ]
      refine wpAnyH_take (oi := ⟨_, _, _, _, _, _⟩) (i := 9) (v := St a0.s1) rfl (by kernel_rfl) (by kernel_rfl) (by kernel_rfl) (fun _ _ _ h => h) (yif_load rfl 9 (.tmp 76) rfl _ _ rfl fun w h => load_one aggStr ((h.cell _ _ HL.out (fun f => f)).trans c1)) hS ?_
      try simp only [Act.put, List.setIfInBounds_toArray, List.set_cons_zero, List.set_cons_succ]
      refine wpAnyH_take (oi := ⟨_, _, _, _, _, _⟩) (i := 11) (v := .pointer v) rfl (by kernel_rfl) (by kernel_rfl) (by kernel_rfl) (fun _ _ _ h => h) (Or.inl ⟨by rfl, fun _ _ => rfl⟩) hS ?_
      try simp only [Act.put, List.setIfInBounds_toArray, List.set_cons_zero, List.set_cons_succ]
      refine wpAnyH_take (oi := ⟨_, _, _, _, _, _⟩) (i := 12) (v := .pointer (some ⟨w.heap.size, 1, none⟩)) rfl (by kernel_rfl) (by kernel_rfl) (by kernel_rfl) (fun _ _ _ h => h) (Or.inl ⟨by rfl, fun _ _ => by go_simp⟩) hS ?_
      try simp only [Act.put, List.setIfInBounds_toArray, List.set_cons_zero, List.set_cons_succ]
      refine wpAnyH_take (oi := ⟨_, _, _, _, _, _⟩) (i := 13) (v := St a0.s1) rfl (by kernel_rfl) (by kernel_rfl) (by kernel_rfl) (fun _ _ _ h => h) (yif_load rfl 9 (.tmp 80) rfl _ _ rfl fun w h => load_one aggStr ((h.cell _ _ HL.out (fun f => f)).trans c1)) hS ?_
      try simp only [Act.put, List.setIfInBounds_toArray, List.set_cons_zero, List.set_cons_succ]
      refine wpAnyH_take (oi := ⟨_, _, _, _, _, _⟩) (i := 14) (v := .pointer (some ⟨w.heap.size, 2, none⟩)) rfl (by kernel_rfl) (by kernel_rfl) (by kernel_rfl) (fun _ _ _ h => h) (Or.inl ⟨by rfl, fun _ _ => by go_simp⟩) hS ?_
      try simp only [Act.put, List.setIfInBounds_toArray, List.set_cons_zero, List.set_cons_succ]
      refine wpAnyH_take (oi := ⟨_, _, _, _, _, _⟩) (i := 15) (v := St a0.s2) rfl (by kernel_rfl) (by kernel_rfl) (by kernel_rfl) (fun _ _ _ h => h) (yif_load rfl 9 (.tmp 82) rfl _ _ rfl fun w h => load_one aggStr ((h.cell _ _ HL.out (fun f => f)).trans c2)) hS ?_
      try simp only [Act.put, List.setIfInBounds_toArray, List.set_cons_zero, List.set_cons_succ]
      refine wpAnyH_take (oi := ⟨_, _, _, _, _, _⟩) (i := 17) (v := .pointer v) rfl (by kernel_rfl) (by kernel_rfl) (by kernel_rfl) (fun _ _ _ h => h) (Or.inl ⟨by rfl, fun _ _ => rfl⟩) hS ?_
      try simp only [Act.put, List.setIfInBounds_toArray, List.set_cons_zero, List.set_cons_succ]
      refine wpAnyH_take (oi := ⟨_, _, _, _, _, _⟩) (i := 18) (v := .pointer (some ⟨w.heap.size, 3, none⟩)) rfl (by kernel_rfl) (by kernel_rfl) (by kernel_rfl) (fun _ _ _ h => h) (Or.inl ⟨by rfl, fun _ _ => by go_simp⟩) hS ?_
      try simp only [Act.put, List.setIfInBounds_toArray, List.set_cons_zero, List.set_cons_succ]
      refine wpAnyH_take (oi := ⟨_, _, _, _, _, _⟩) (i := 19) (v := .int .i64 a0.i3) rfl (by kernel_rfl) (by kernel_rfl) (by kernel_rfl) (fun _ _ _ h => h) (yif_load rfl 3 (.tmp 86) rfl _ _ rfl fun w h => load_one aggI3 ((h.cell _ _ HL.out (fun f => f)).trans c3)) hS ?_
      try simp only [Act.put, List.setIfInBounds_toArray, List.set_cons_zero, List.set_cons_succ]
      refine wpAnyH_take (oi := ⟨_, _, _, _, _, _⟩) (i := 20) (v := .pointer (some ⟨w.heap.size, 5, none⟩)) rfl (by kernel_rfl) (by kernel_rfl) (by kernel_rfl) (fun _ _ _ h => h) (Or.inl ⟨by rfl, fun _ _ => by go_simp⟩) hS ?_
      try simp only [Act.put, List.setIfInBounds_toArray, List.set_cons_zero, List.set_cons_succ]
      refine wpAnyH_take (oi := ⟨_, _, _, _, _, _⟩) (i := 21) (v := .int .i64 a0.i5) rfl (by kernel_rfl) (by kernel_rfl) (by kernel_rfl) (fun _ _ _ h => h) (yif_load rfl 3 (.tmp 88) rfl _ _ rfl fun w h => load_one aggI3 ((h.cell _ _ HL.out (fun f => f)).trans c5)) hS ?_
      try simp only [Act.put, List.setIfInBounds_toArray, List.set_cons_zero, List.set_cons_succ]
      refine wpAnyH_take (oi := ⟨_, _, _, _, _, _⟩) (i := 23) (v := .pointer v) rfl (by kernel_rfl) (by kernel_rfl) (by kernel_rfl) (fun _ _ _ h => h) (Or.inl ⟨by rfl, fun _ _ => rfl⟩) hS ?_
      try simp only [Act.put, List.setIfInBounds_toArray, List.set_cons_zero, List.set_cons_succ]
      refine wpAnyH_take (oi := ⟨_, _, _, _, _, _⟩) (i := 24) (v := .pointer (some ⟨w.heap.size, 3, none⟩)) rfl (by kernel_rfl) (by kernel_rfl) (by kernel_rfl) (fun _ _ _ h => h) (Or.inl ⟨by rfl, fun _ _ => by go_simp⟩) hS ?_
      try simp only [Act.put, List.setIfInBounds_toArray, List.set_cons_zero, List.set_cons_succ]
      refine wpAnyH_take (oi := ⟨_, _, _, _, _, _⟩) (i := 25) (v := .int .i64 a0.i3) rfl (by kernel_rfl) (by kernel_rfl) (by kernel_rfl) (fun _ _ _ h => h) (yif_load rfl 3 (.tmp 92) rfl _ _ rfl fun w h => load_one aggI3 ((h.cell _ _ HL.out (fun f => f)).trans c3)) hS ?_
      try simp only [Act.put, List.setIfInBounds_toArray, List.set_cons_zero, List.set_cons_succ]
      refine wpAnyH_take (oi := ⟨_, _, _, _, _, _⟩) (i := 26) (v := .pointer (some ⟨w.heap.size, 4, none⟩)) rfl (by kernel_rfl) (by kernel_rfl) (by kernel_rfl) (fun _ _ _ h => h) (Or.inl ⟨by rfl, fun _ _ => by go_simp⟩) hS ?_
      try simp only [Act.put, List.setIfInBounds_toArray, List.set_cons_zero, List.set_cons_succ]
      refine wpAnyH_take (oi := ⟨_, _, _, _, _, _⟩) (i := 27) (v := .int .i64 a0.i4) rfl (by kernel_rfl) (by kernel_rfl) (by kernel_rfl) (fun _ _ _ h => h) (yif_load rfl 3 (.tmp 94) rfl _ _ rfl fun w h => load_one aggI3 ((h.cell _ _ HL.out (fun f => f)).trans c4)) hS ?_
      try simp only [Act.put, List.setIfInBounds_toArray, List.set_cons_zero, List.set_cons_succ]
      refine wpAnyH_take (oi := ⟨_, _, _, _, _, _⟩) (i := 28) (v := .pointer (some ⟨w.heap.size, 6, none⟩)) rfl (by kernel_rfl) (by kernel_rfl) (by kernel_rfl) (fun _ _ _ h => h) (Or.inl ⟨by rfl, fun _ _ => by go_simp⟩) hS ?_
      try simp only [Act.put, List.setIfInBounds_toArray, List.set_cons_zero, List.set_cons_succ]
      refine wpAnyH_take (oi := ⟨_, _, _, _, _, _⟩) (i := 29) (v := .slice a0.A a0.xs.length a0.c) rfl (by kernel_rfl) (by kernel_rfl) (by kernel_rfl) (fun _ _ _ h => h) (yif_load rfl 22 (.tmp 96) rfl _ _ rfl fun w h => load_one aggS8 ((h.cell _ _ HL.out (fun f => f)).trans c6)) hS ?_
      try simp only [Act.put, List.setIfInBounds_toArray, List.set_cons_zero, List.set_cons_succ]
      refine wpAnyH_take (oi := ⟨_, _, _, _, _, _⟩) (i := 33) (v := .int .i64 0) rfl (by kernel_rfl) (by kernel_rfl) (by kernel_rfl) (fun _ _ _ h => h) (Or.inl ⟨by rfl, fun _ _ => rfl⟩) hS ?_
      try simp only [Act.put, List.setIfInBounds_toArray, List.set_cons_zero, List.set_cons_succ]
      refine wpAnyH_all (rs := [1]) (by kernel_rfl) (by simp) fun i hi => ?_
      obtain rfl : i = 1 := by simpa using hi
      refine op_call (om := ⟨_, _, _, _, _, _⟩) (fn := 24) (args := #[.pointer v]) (R := fun u W => u = .int .i64 120 ∧ Keeps (fun _ => False) wq0 W) rfl rfl (by go_simp)
        ((fcheck_any (memC_no (HN.out wq0 hS))).mono fun e W hh => ⟨_, (hh.2.2.resolve_left fun h => not_ok0 h.1).2, rfl, hh.2.1⟩) _ _ rfl rfl ?_
      rintro u wq1 ⟨rfl, kk⟩
      have hS : Keeps (fun _ => False) wq0 wq1 := kk
      clear kk
      refine ⟨hS, ?_⟩
      try simp only [Act.put, List.setIfInBounds_toArray, List.set_cons_zero, List.set_cons_succ]
      refine wpAnyH_all (rs := [10]) (by kernel_rfl) (by simp) fun i hi => ?_
      obtain rfl : i = 10 := by simpa using hi
      refine op_call (om := ⟨_, _, _, _, _, _⟩) (fn := 18) (args := #[.pointer v, St a0.s1]) (R := fun u W => u = .int .i64 120 ∧ Keeps (fun _ => False) wq1 W) rfl rfl (by go_simp)
        ((fdelete_bad (memC_no (HN.out wq1 hS)) not_ok0 _).mono fun e W hh => ⟨_, hh.2.2, rfl, hh.2.1⟩) _ _ rfl rfl ?_
      rintro u wq2 ⟨rfl, kk⟩
      have hS : Keeps (fun _ => False) wq0 wq2 := hS.trans kk
      clear kk
      refine ⟨hS, ?_⟩
      try simp only [Act.put, List.setIfInBounds_toArray, List.set_cons_zero, List.set_cons_succ]
      refine wpAnyH_all (rs := [16]) (by kernel_rfl) (by simp) fun i hi => ?_
      obtain rfl : i = 16 := by simpa using hi
      refine op_call (om := ⟨_, _, _, _, _, _⟩) (fn := 25) (args := #[.pointer v, St a0.s1, St a0.s2]) (R := fun u W => u = .int .i64 120 ∧ Keeps (fun _ => False) wq2 W) rfl rfl (by go_simp)
        ((frename_bad (memC_no (HN.out wq2 hS)) not_ok0 _ _).mono fun e W hh => ⟨_, hh.2.2, rfl, hh.2.1⟩) _ _ rfl rfl ?_
      rintro u wq3 ⟨rfl, kk⟩
      have hS : Keeps (fun _ => False) wq0 wq3 := hS.trans kk
      clear kk
      refine ⟨hS, ?_⟩
      try simp only [Act.put, List.setIfInBounds_toArray, List.set_cons_zero, List.set_cons_succ]
      refine wpAnyH_all (rs := [22]) (by kernel_rfl) (by simp) fun i hi => ?_
      obtain rfl : i = 22 := by simpa using hi
      refine op_call (om := ⟨_, _, _, _, _, _⟩) (fn := 26) (args := #[.pointer v, .int .i64 a0.i3, .int .i64 a0.i5]) (R := fun u W => u = .int .i64 120 ∧ Keeps (fun _ => False) wq3 W) rfl rfl (by go_simp)
        ((fresize_bad (memC_no (HN.out wq3 hS)) not_ok0 _ _).mono fun e W hh => ⟨_, hh.2.2, rfl, hh.2.1⟩) _ _ rfl rfl ?_
      rintro u wq4 ⟨rfl, kk⟩
      have hS : Keeps (fun _ => False) wq0 wq4 := hS.trans kk
      clear kk
      refine ⟨hS, ?_⟩
      try simp only [Act.put, List.setIfInBounds_toArray, List.set_cons_zero, List.set_cons_succ]
      refine wpAnyH_all (rs := [30]) (by kernel_rfl) (by simp) fun i hi => ?_
      obtain rfl : i = 30 := by simpa using hi
      refine op_call (om := ⟨_, _, _, _, _, _⟩) (fn := 21) (args := #[.pointer v, .int .i64 a0.i3, .int .i64 a0.i4, .slice a0.A a0.xs.length a0.c]) (R := fun u W => u = .int .i64 120 ∧ Keeps (fun _ => False) wq4 W) rfl rfl (by go_simp)
        ((fwrite_bad (memC_no (HN.out wq4 hS)) not_ok0 _ _ _ _ _).mono fun e W hh => ⟨_, hh.2.2, rfl, hh.2.1⟩) _ _ rfl rfl ?_
      rintro u wq5 ⟨rfl, kk⟩
      have hS : Keeps (fun _ => False) wq0 wq5 := hS.trans kk
      clear kk
      refine ⟨hS, ?_⟩
      try simp only [Act.put, List.setIfInBounds_toArray, List.set_cons_zero, List.set_cons_succ]
      refine wpAnyH_all (rs := [31]) (by kernel_rfl) (by simp) fun i hi => ?_
      obtain rfl : i = 31 := by simpa using hi
      clear hi
      refine op_run (om := ⟨_, _, _, _, _, _⟩) (u := .slice (some ⟨wq5.heap.size, 0, none⟩) 10 10) (w' := wq5.alloc (.cells ten 31)) rfl rfl (by go_simp; rfl) _ _ rfl rfl ?_
      rintro u wq6 ⟨rfl, rfl⟩
      have hS6 : Keeps (fun _ => False) wq0 (wq5.alloc (.cells ten 31)) := hS.trans (Keeps.alloc _ _ _)
      have er := heap_alloc_new wq5 (.cells ten 31)
      generalize wq5.alloc (.cells ten 31) = wq6 at *
      generalize wq5.heap.size = tb at *
      refine ⟨hS6, ?_⟩
      try simp only [Act.put, List.setIfInBounds_toArray, List.set_cons_zero, List.set_cons_succ]
      refine wpAnyH_take (oi := ⟨_, _, _, _, _, _⟩) (i := 32) (v := .int .i64 10) rfl (by kernel_rfl) (by kernel_rfl) (by kernel_rfl) (fun _ _ _ h => h) (Or.inl ⟨by rfl, fun _ _ => by go_simp⟩) hS6 ?_
      try simp only [Act.put, List.setIfInBounds_toArray, List.set_cons_zero, List.set_cons_succ]
      refine wpAnyH_done (by kernel_rfl) ?_ _
      try simp only [Act.put, List.setIfInBounds_toArray, List.set_cons_zero, List.set_cons_succ]
      have HT10 := Lib.hid (fun (j : Nat) (hj : j < 10) => show wq6.cell? ⟨tb, j, none⟩ = some (.int .i64 120) from by rw [cell_of_row _ _ _ _ _ _ er]; exact ten_at j hj)
      have KQ := Lib.hid (KW.out.trans hS6)
      clear hS hS6 er c1 c2 c3 c4 c5 c6 HN KW KP K8 HLq HL
      go_wp2_with fail
      go_loopw [101] (fun i wx => ∃ j : Nat, j ≤ 10 ∧ i = .int .i64 (j : Int) ∧ wx = wq6) (fun i _ => 10 - (RowKit.intOf i).toNat)
      case atStart => exact ⟨0, by omega, rfl, rfl⟩
      case round =>
        obtain ⟨j, hj, rfl, rfl⟩ := hrel
        by_cases hjl : j < 10
        · have hc := HT10.out j hjl
          go_wp2_with fail
          go_roundw
          case rel => exact ⟨j + 1, by omega, by go_num, by first | trivial | rfl⟩
          case measure => simp [RowKit.intOf]; omega
        · go_wp2_with fail
          go_roundw
          case rel => exact ⟨k + 1, by omega, by go_num, KQ.out⟩
          case measure => simp [RowKit.intOf]; omega
    · have KF := Lib.hid (K2.out.trans kp)
      go_wp2_with fail
      go_ret
      exact ⟨rfl, below_none KF.out⟩

end Go.Proofs.YtdihgfagodjicaaDoor.fsNone
