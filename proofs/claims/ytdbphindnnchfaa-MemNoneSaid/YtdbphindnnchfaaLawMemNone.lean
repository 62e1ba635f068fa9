/-
  LawMemNone
-/
import Derived.Test.YtdbphindnnchfaaGA
import Derived.ChangeOld
import Derived.Below
import Derived.Deep.QuietTactic
import Derived.BigQuiet
import Derived.WalkSmall
import Derived.Test.YtdbphindnnchfaaMmTail
import Derived.Test.YtdbphindnnchfaaMmActIn
import Derived.Test.YtdbphindnnchfaaMmNo
import Derived.Test.YtdbphindnnchfaaGT
namespace Go.Proofs.Ytdbphindnnchfaa.memNone
open Go.ChangeShapes Go.WideShapes Go.ChangeAt Go.RowKit Mm Go.Maps
set_option linter.unusedVariables false

theorem own : ownKnob Try.prog.godebug = none := by kernel_rfl
theorem laidOut : laidOutB Try.prog = true := by kernel_rfl

theorem boxA (w : World) (a : MAct) : (Instr.box 31 (.agg (macells a).toArray)).run Try.prog w = .ok (.pointer (some ⟨w.heap.size, 0, none⟩)) (w.alloc (.cells (macells a).toArray 31)) := rfl
theorem buildM0 (w : World) : (Instr.build 54 #[]).run Try.prog w = .ok (.agg noCells) w := by kernel_rfl
theorem boxM0 (w : World) : (Instr.box 54 (.agg noCells)).run Try.prog w = .ok (.pointer (some ⟨w.heap.size, 0, none⟩)) (w.alloc (.cells noCells 54)) := rfl
def ovCells (mb : Nat) : Array Value := (.pointer none :: .slice none 0 0 :: .map (some mb) :: List.replicate 128 (.bool false) : List Value).toArray
theorem buildO (w : World) : (Instr.build 50 #[(0, .pointer none)]).run Try.prog w = .ok (.agg #[.pointer none, .slice none 0 0]) w := by kernel_rfl
theorem buildO2 (w : World) (mb : Nat) : (Instr.build 54 #[(0, .agg #[.pointer none, .slice none 0 0]), (1, .map (some mb))]).run Try.prog w = .ok (.agg (ovCells mb)) w := by kernel_rfl
theorem boxO (w : World) (mb : Nat) : (Instr.box 54 (.agg (ovCells mb))).run Try.prog w = .ok (.pointer (some ⟨w.heap.size, 0, none⟩)) (w.alloc (.cells (ovCells mb) 54)) := rfl
theorem wpList_build0x_run {P : Program} {w w' : World} {ops : Array Oper} {rest : List Oper} {o : Oper} {a : Act} {Q : Exit → Act → World → Prop} (hgd : o.guard = none) (t : TypeId) (x : Operand) (ho : o.op = .build t #[(0, x)]) (u v : Value) (hx : a.eval x = u)
    (hrun : (Instr.build t #[(0, u)]).run P w = .ok v w') (h : wpList P ops Q rest (a.put o.dst v) w') : wpList P ops Q (o :: rest) a w :=
  wpList_plain hgd fun _ hK => by
    unfold Oper.wp execOp
    simp only [ho, Sem.run_bind, List.map_toArray, List.map_cons, List.map_nil, hx, hrun, Result.andThen_ok, Sem.run_pure]
    exact hK _ _ h
theorem wpList_build0m_run {P : Program} {w w' : World} {ops : Array Oper} {rest : List Oper} {o : Oper} {a : Act} {Q : Exit → Act → World → Prop} (hgd : o.guard = none) (t : TypeId) (ho : o.op = .build t #[]) (v : Value)
    (hrun : (Instr.build t #[]).run P w = .ok v w') (h : wpList P ops Q rest (a.put o.dst v) w') : wpList P ops Q (o :: rest) a w :=
  wpList_plain hgd fun _ hK => by
    unfold Oper.wp execOp
    simp only [ho, Sem.run_bind, List.map_toArray, List.map_nil, hrun, Result.andThen_ok, Sem.run_pure]
    exact hK _ _ h
theorem ex_make {P : Program} {w w' : World} {o : Oper} {ρ : Operand → Value} (t : TypeId) (x y : Operand) (ho : o.op = .makeSlice t x y) (u u' v : Value) (hx : ρ x = u) (hy : ρ y = u') (hrun : (Instr.makeSlice t u u').run P w = .ok v w') : (execOp ρ o).run P w = .ok (.value v) w' := by
  unfold execOp
  simp only [ho, hx, hy, Sem.run_bind, hrun, Result.andThen_ok, Sem.run_pure]
set_option maxRecDepth 100000 in
set_option maxHeartbeats 400000 in
theorem over_nil (w : World) : Calls Try.prog 28 #[.pointer none] w fun e w' => e = .returned (.tuple #[.pointer none, .int .i64 3]) ∧ Keeps (fun _ => False) w w' := by
  have hmm := @run_makeMap Try.prog
  have c0 : ((w.alloc (.map #[] 0)).alloc (.cells (ovCells w.heap.size) 54)).cell? ⟨w.heap.size + 1, 0, none⟩ = some (.pointer none) := by
    rw [cell_of_row _ _ _ _ _ _ (heap_alloc2_new w _ _)]
    rfl
  have C0 := Lib.hid c0
  clear c0
  go_enter Try.func28, Try.ntmps28
  go_wp2_with (first
    | ((with_reducible refine here (op := .build 50 #[(0, .tmp 6)]) ?_); refine wpList_build0x_run rfl 50 _ rfl _ _ rfl (buildO _) ?_)
    | ((with_reducible refine here (op := .build 54 #[(0, .tmp 7), (1, .tmp 8)]) ?_); refine wpList_build2m_run rfl 54 _ _ rfl _ _ _ rfl rfl (buildO2 _ _) ?_)
    | ((with_reducible refine here (op := .box 54 (.tmp 9)) ?_); refine wpList_box_run rfl 54 _ rfl _ _ rfl (boxO _ _) ?_))
  refine (refusal_nil (w.heap.size + 1) _ C0.out).mono ?_
  rintro e w2 ⟨rfl, rfl⟩
  go_wp2_with fail
  go_ret2
  exact ⟨rfl, (Keeps.alloc _ _ _).trans (Keeps.alloc _ _ _)⟩

set_option maxRecDepth 100000 in
set_option maxHeartbeats 1000000 in
theorem walk (a0 : MAct) (w : World) (o0 : a0.Ok w) :
    Calls Try.prog 6 #[.agg (macells a0).toArray] w fun e w' => e = .returned (.bool true) ∧ Below w.heap.size w w' := by
  clear o0
  have k0 : Keeps (fun _ => False) w (w.alloc (.cells (macells a0).toArray 31)) := Keeps.alloc _ _ _
  have e0 : (w.alloc (.cells (macells a0).toArray 31)).heap[w.heap.size]? = some (.cells (macells a0).toArray 31 (0, 0)) := heap_alloc_new w _
  go_enter Try.func6, Try.ntmps6
  go_wp2_with (((with_reducible refine at_ (op := .box 31 (.tmp 0)) ?_); refine wpList_val rfl _ (ex_box 31 (.tmp 0) rfl _ _ rfl (boxA _ _)) ?_))
  generalize w.alloc (.cells (macells a0).toArray 31) = wa at *
  refine (memawake_any _).mono ?_
  rintro e w1 ⟨rfl, b1⟩
  have la := (Array.getElem?_eq_some_iff.1 e0).1
  have k1 : Keeps (fun _ => False) w w1 := k0.trans (Keeps.below b1 _ fun k h1 h2 => by omega)
  have e1 := (b1.block _ la).trans e0
  have c2 : w1.cell? ⟨w.heap.size, 2, none⟩ = some (.int .i64 a0.n) := by rw [cell_of_row _ _ _ _ _ _ e1]; rfl
  have E1 := Lib.hid e1
  have K1 := Lib.hid k1
  clear k0 e0 b1 la e1 k1
  by_cases hn : 10000 < a0.n
  · go_wp2_with fail
    go_ret
    exact ⟨rfl, below_false K1.out⟩
  go_wp2_with (first
    | ((with_reducible refine here (op := .build 54 #[]) ?_); refine wpList_build0m_run rfl 54 rfl _ (buildM0 _) ?_)
    | ((with_reducible refine here (op := .box 54 (.tmp 18)) ?_); refine wpList_box_run rfl 54 _ rfl _ _ rfl (boxM0 _) ?_))
  have E2 := Lib.hid (show ((w1.alloc (.cells noCells 54)).alloc (.cells #[.pointer none, .pointer (some ⟨w1.heap.size, 0, none⟩)] 26)).heap[w1.heap.size]? = some (.cells noCells 54 (0, 0)) from heap_alloc2_old w1 _ _)
  have E3 := Lib.hid (show ((w1.alloc (.cells noCells 54)).alloc (.cells #[.pointer none, .pointer (some ⟨w1.heap.size, 0, none⟩)] 26)).heap[w1.heap.size + 1]? = some (.cells #[.pointer none, .pointer (some ⟨w1.heap.size, 0, none⟩)] 26 (0, 0)) from heap_alloc2_new w1 _ _)
  have k2 : Keeps (fun _ => False) w1 ((w1.alloc (.cells noCells 54)).alloc (.cells #[.pointer none, .pointer (some ⟨w1.heap.size, 0, none⟩)] 26)) := (Keeps.alloc _ _ _).trans (Keeps.alloc _ _ _)
  have E4 := Lib.hid ((k2.block _ (Array.getElem?_eq_some_iff.1 E1.out).1 (fun h => h)).trans E1.out)
  have K2 := Lib.hid (K1.out.trans k2)
  clear k2 E1 c2 hn
  generalize (w1.alloc (.cells noCells 54)).alloc (.cells #[.pointer none, .pointer (some ⟨w1.heap.size, 0, none⟩)] 26) = w2 at *
  generalize w1.heap.size = s at *
  clear K1
  have hmk : ∀ w : World, (Instr.makeSlice 22 (.int .i64 8192) (.int .i64 8192)).run Try.prog w = .ok (.slice (some ⟨w.heap.size, 0, none⟩) 8192 8192) (w.alloc (.cells (madeCells #[.int .u8 0] 8192) 5)) := make8 8192 (by omega)
  have MK := Lib.hid hmk
  clear hmk
  go_loopw [22] (fun i wr => ∃ k : Nat, k ≤ 2 ∧ i = .int .i64 (k : Int) ∧ Keeps (fun _ => False) w2 wr) (fun i _ => 2 - (RowKit.intOf i).toNat)
  case atStart => exact ⟨0, by omega, rfl, Keeps.refl _ _⟩
  case round =>
    obtain ⟨k, hk, rfl, kp⟩ := hrel
    have l2 := (Array.getElem?_eq_some_iff.1 E2.out).1
    have l3 := (Array.getElem?_eq_some_iff.1 E3.out).1
    have l4 := (Array.getElem?_eq_some_iff.1 E4.out).1
    by_cases hlt : k < 2
    · have r2 := (kp.block _ l2 (fun h => h)).trans E2.out
      have r3 := (kp.block _ l3 (fun h => h)).trans E3.out
      have r4 := (kp.block _ l4 (fun h => h)).trans E4.out
      have hel : ∃ v, wr.cell? ⟨s + 1, k, none⟩ = some (.pointer v) ∧ NoM wr v := by
        have : k = 0 ∨ k = 1 := by omega
        rcases this with rfl | rfl
        · exact ⟨none, by rw [cell_of_row _ _ _ _ _ _ r3]; rfl, Or.inl rfl⟩
        · exact ⟨some ⟨s, 0, none⟩, by rw [cell_of_row _ _ _ _ _ _ r3]; rfl, Or.inr ⟨s, rfl, r2⟩⟩
      obtain ⟨v, hv, hno⟩ := hel
      have CA := Lib.hid (fun (W : World) (k : Keeps (fun _ => False) wr W) => show W.cell? ⟨w.heap.size, 1, none⟩ = some (.int .i64 a0.a) ∧ W.cell? ⟨w.heap.size, 2, none⟩ = some (.int .i64 a0.n) ∧ W.cell? ⟨w.heap.size, 3, none⟩ = some (.slice a0.A a0.xs.length a0.c) from by
        have r := (k.block _ (Array.getElem?_eq_some_iff.1 r4).1 (fun h => h)).trans r4
        refine ⟨?_, ?_, ?_⟩ <;> rw [cell_of_row _ _ _ _ _ _ r] <;> rfl)
      have NN := Lib.hid (fun (W : World) (k : Keeps (fun _ => False) wr W) => hno.keep k (fun _ _ h => h))
      have KP := Lib.hid kp
      obtain ⟨c1, c2, c3⟩ := CA.out wr (Keeps.refl _ _)
      clear kp r2 r3 r4 hno
      go_wp2_with fail
      refine (set_no (NN.out wr (Keeps.refl _ _)) _ _).mono ?_
      rintro e w3 ⟨rfl, k3⟩
      clear c1 c2 c3 hv
      obtain ⟨c1, c2, c3⟩ := CA.out w3 k3
      go_wp2_with fail
      refine (lay_no (NN.out w3 k3) _ _ _ _).mono ?_
      rintro e w' ⟨rfl, rfl⟩
      go_wp2_with fail
      refine (byte_no (NN.out w3 k3) _).mono ?_
      rintro e w' ⟨rfl, rfl⟩
      go_wp2_with fail
      refine (cell_no (NN.out w3 k3) _).mono ?_
      rintro e w' ⟨rfl, rfl⟩
      go_wp2_with fail
      refine (putbyte_no (NN.out w3 k3) _ _).mono ?_
      rintro e w' ⟨rfl, rfl⟩
      go_wp2_with fail
      refine (putcell_no (NN.out w3 k3) _ _).mono ?_
      rintro e w' ⟨rfl, rfl⟩
      go_wp2_with fail
      refine (get_no (NN.out w3 k3) _).mono ?_
      rintro e w4 ⟨rfl, k4⟩
      have k34 := k3.trans k4
      have KD := Lib.hid (k34.trans (Keeps.drew (fun _ => False) w4))
      clear c1 c2 c3 k3 k4 k34 CA
      go_wp2_with fail
      refine wp_region_held (S := fun W : World => Keeps (fun _ => False) w4.drew W) (by kernel_rfl) ?_
      change wpAnyH _ _ _ _ _ _ _ _ w4.drew
      generalize w4.drew = wB at *
      have HN := Lib.hid (fun (W : World) (k : Keeps (fun _ => False) wB W) => NN.out W (KD.out.trans k))
      have KW := Lib.hid (KP.out.trans KD.out)
      have KB : Keeps (fun _ => False) wB wB := Keeps.refl _ _
      have hmk := MK.out
      clear NN KD KP
      refine wpAnyH_take (oi := ⟨_, _, _, _, _, _⟩) (i := 0) (v := .pointer v) rfl (by kernel_rfl) (by kernel_rfl) (by kernel_rfl) (fun _ _ _ h => h) (Or.inl ⟨by rfl, fun _ _ => rfl⟩) KB ?_
      simp only [Act.put, List.setIfInBounds_toArray, List.set_cons_zero, List.set_cons_succ]
      refine wpAnyH_all (rs := [1]) (by kernel_rfl) (by simp) fun i hi => ?_
      obtain rfl : i = 1 := by simpa using hi
      clear hi
      refine op_call (om := ⟨_, _, _, _, _, _⟩) (fn := 26) (args := #[.pointer v]) (R := fun u w' => u = .int .i64 3 ∧ wB = w') rfl rfl (by go_simp)
          ((sync_no (HN.out wB KB)).mono fun e w' ⟨he, h1⟩ => ⟨_, he, rfl, h1⟩) _ _ rfl rfl ?_
      rintro u w' ⟨rfl, rfl⟩
      refine ⟨KB, ?_⟩
      simp only [Act.put, List.setIfInBounds_toArray, List.set_cons_zero, List.set_cons_succ]
      refine wpAnyH_take (oi := ⟨_, _, _, _, _, _⟩) (i := 2) (v := .bool false) rfl (by kernel_rfl) (by kernel_rfl) (by kernel_rfl) (fun _ _ _ h => h) (Or.inl ⟨by rfl, fun _ _ => by go_simp⟩) KB ?_
      simp only [Act.put, List.setIfInBounds_toArray, List.set_cons_zero, List.set_cons_succ]
      refine wpAnyH_take (oi := ⟨_, _, _, _, _, _⟩) (i := 3) (v := .bool false) rfl (by kernel_rfl) (by kernel_rfl) (by kernel_rfl) (fun _ _ _ h => h) (Or.inl ⟨by rfl, fun _ _ => rfl⟩) KB ?_
      simp only [Act.put, List.setIfInBounds_toArray, List.set_cons_zero, List.set_cons_succ]
      refine wpAnyH_take (oi := ⟨_, _, _, _, _, _⟩) (i := 4) (v := .pointer v) rfl (by kernel_rfl) (by kernel_rfl) (by kernel_rfl) (fun _ _ _ h => h) (Or.inl ⟨by rfl, fun _ _ => rfl⟩) KB ?_
      simp only [Act.put, List.setIfInBounds_toArray, List.set_cons_zero, List.set_cons_succ]
      refine wpAnyH_all (rs := [5]) (by kernel_rfl) (by simp) fun i hi => ?_
      obtain rfl : i = 5 := by simpa using hi
      clear hi
      refine op_call (om := ⟨_, _, _, _, _, _⟩) (fn := 27) (args := #[.pointer v]) (R := fun u w' => u = .int .i64 3 ∧ wB = w') rfl rfl (by go_simp)
          ((renew_no (HN.out wB KB)).mono fun e w' ⟨he, h1⟩ => ⟨_, he, rfl, h1⟩) _ _ rfl rfl ?_
      rintro u w' ⟨rfl, rfl⟩
      refine ⟨KB, ?_⟩
      simp only [Act.put, List.setIfInBounds_toArray, List.set_cons_zero, List.set_cons_succ]
      refine wpAnyH_take (oi := ⟨_, _, _, _, _, _⟩) (i := 6) (v := .bool false) rfl (by kernel_rfl) (by kernel_rfl) (by kernel_rfl) (fun _ _ _ h => h) (Or.inl ⟨by rfl, fun _ _ => by go_simp⟩) KB ?_
      simp only [Act.put, List.setIfInBounds_toArray, List.set_cons_zero, List.set_cons_succ]
      refine wpAnyH_take (oi := ⟨_, _, _, _, _, _⟩) (i := 7) (v := .bool false) rfl (by kernel_rfl) (by kernel_rfl) (by kernel_rfl) (fun _ _ _ h => h) (Or.inl ⟨by rfl, fun _ _ => rfl⟩) KB ?_
      simp only [Act.put, List.setIfInBounds_toArray, List.set_cons_zero, List.set_cons_succ]
      refine wpAnyH_take (oi := ⟨_, _, _, _, _, _⟩) (i := 8) (v := .bool false) rfl (by kernel_rfl) (by kernel_rfl) (by kernel_rfl) (fun _ _ _ h => h) (Or.inl ⟨by rfl, fun _ _ => rfl⟩) KB ?_
      simp only [Act.put, List.setIfInBounds_toArray, List.set_cons_zero, List.set_cons_succ]
      refine wpAnyH_take (oi := ⟨_, _, _, _, _, _⟩) (i := 9) (v := .pointer v) rfl (by kernel_rfl) (by kernel_rfl) (by kernel_rfl) (fun _ _ _ h => h) (Or.inl ⟨by rfl, fun _ _ => rfl⟩) KB ?_
      simp only [Act.put, List.setIfInBounds_toArray, List.set_cons_zero, List.set_cons_succ]
      refine wpAnyH_all (rs := [10]) (by kernel_rfl) (by simp) fun i hi => ?_
      obtain rfl : i = 10 := by simpa using hi
      clear hi
      refine op_call (om := ⟨_, _, _, _, _, _⟩) (fn := 14) (args := #[.pointer v]) (R := fun u w' => u = .slice none 0 0 ∧ wB = w') rfl rfl (by go_simp)
          ((dirty_no (HN.out wB KB)).mono fun e w' ⟨he, h1⟩ => ⟨_, he, rfl, h1⟩) _ _ rfl rfl ?_
      rintro u w' ⟨rfl, rfl⟩
      refine ⟨KB, ?_⟩
      simp only [Act.put, List.setIfInBounds_toArray, List.set_cons_zero, List.set_cons_succ]
      refine wpAnyH_take (oi := ⟨_, _, _, _, _, _⟩) (i := 11) (v := .int .i64 0) rfl (by kernel_rfl) (by kernel_rfl) (by kernel_rfl) (fun _ _ _ h => h) (Or.inl ⟨by rfl, fun _ _ => by go_simp⟩) KB ?_
      simp only [Act.put, List.setIfInBounds_toArray, List.set_cons_zero, List.set_cons_succ]
      refine wpAnyH_take (oi := ⟨_, _, _, _, _, _⟩) (i := 12) (v := .bool false) rfl (by kernel_rfl) (by kernel_rfl) (by kernel_rfl) (fun _ _ _ h => h) (Or.inl ⟨by rfl, fun _ _ => by go_simp⟩) KB ?_
      simp only [Act.put, List.setIfInBounds_toArray, List.set_cons_zero, List.set_cons_succ]
      refine wpAnyH_take (oi := ⟨_, _, _, _, _, _⟩) (i := 13) (v := .bool false) rfl (by kernel_rfl) (by kernel_rfl) (by kernel_rfl) (fun _ _ _ h => h) (Or.inl ⟨by rfl, fun _ _ => rfl⟩) KB ?_
      simp only [Act.put, List.setIfInBounds_toArray, List.set_cons_zero, List.set_cons_succ]
      refine wpAnyH_take (oi := ⟨_, _, _, _, _, _⟩) (i := 14) (v := .bool false) rfl (by kernel_rfl) (by kernel_rfl) (by kernel_rfl) (fun _ _ _ h => h) (Or.inl ⟨by rfl, fun _ _ => rfl⟩) KB ?_
      simp only [Act.put, List.setIfInBounds_toArray, List.set_cons_zero, List.set_cons_succ]
      refine wpAnyH_take (oi := ⟨_, _, _, _, _, _⟩) (i := 15) (v := .pointer v) rfl (by kernel_rfl) (by kernel_rfl) (by kernel_rfl) (fun _ _ _ h => h) (Or.inl ⟨by rfl, fun _ _ => rfl⟩) KB ?_
      simp only [Act.put, List.setIfInBounds_toArray, List.set_cons_zero, List.set_cons_succ]
      refine wpAnyH_all (rs := [16, 18]) (by kernel_rfl) (by simp) fun i hi => ?_
      have hi : i = 16 ∨ i = 18 := by simpa using hi
      rcases hi with rfl | rfl
      · refine op_call (om := ⟨_, _, _, _, _, _⟩) (fn := 12) (args := #[.pointer v]) (R := fun u w' => ∃ g, u = .slice (some ⟨g, 0, none⟩) 8192 8192 ∧ Row8 w' g 5 (List.replicate 8192 0) ∧ Keeps (fun _ => False) wB w') rfl rfl (by go_simp)
            ((bytes_no (HN.out wB KB)).mono fun e w' ⟨g, he, h1, h2⟩ => ⟨_, he, g, rfl, h1, h2⟩) _ _ rfl rfl ?_
        rintro u wC ⟨g1, rfl, rg1, kk⟩
        have KC : Keeps (fun _ => False) wB wC := KB.trans kk
        refine ⟨KC, ?_⟩
        clear kk
        simp only [Act.put, List.setIfInBounds_toArray, List.set_cons_zero, List.set_cons_succ]
        refine wpAnyH_all (rs := [17, 18]) (by kernel_rfl) (by simp) fun i hi => ?_
        have hi : i = 17 ∨ i = 18 := by simpa using hi
        rcases hi with rfl | rfl
        · refine op_run (om := ⟨_, _, _, _, _, _⟩) (u := .string ⟨(List.replicate 8192 (0 : UInt8)).toArray⟩) (w' := wC) rfl rfl (ex_convert 22 9 (.tmp 99) rfl _ _ rfl (conv_row 8192 List.length_replicate rg1)) _ _ rfl rfl ?_
          rintro u wZ ⟨rfl, hz⟩
          have hz := hz.symm
          subst hz
          refine ⟨KC, ?_⟩
          simp only [Act.put, List.setIfInBounds_toArray, List.set_cons_zero, List.set_cons_succ]
          refine wpAnyH_all (rs := [18]) (by kernel_rfl) (by simp) fun i hi => ?_
          obtain rfl : i = 18 := by simpa using hi
          clear hi
          refine op_run (om := ⟨_, _, _, _, _, _⟩) (u := .slice (some ⟨wC.heap.size, 0, none⟩) 8192 8192) (w' := wC.alloc (.cells (madeCells #[.int .u8 0] 8192) 5)) rfl rfl (ex_make 22 _ _ rfl _ _ _ rfl rfl (hmk wC)) _ _ rfl rfl ?_
          rintro u wD ⟨rfl, rfl⟩
          have rg2 := Row8.made wC 8192 5
          have KD : Keeps (fun _ => False) wB (wC.alloc (.cells (madeCells #[.int .u8 0] 8192) 5)) := KC.trans (Keeps.alloc _ _ _)
          refine ⟨KD, ?_⟩
          obtain ⟨g2, hg⟩ : ∃ g : Nat, g = wC.heap.size := ⟨_, rfl⟩
          rw [← hg] at rg2 ⊢
          clear hg
          have kk : Keeps (fun _ => False) wC (wC.alloc (.cells (madeCells #[.int .u8 0] 8192) 5)) := Keeps.alloc _ _ _
          have rg1 : Row8 (wC.alloc (.cells (madeCells #[.int .u8 0] 8192) 5)) g1 5 (List.replicate 8192 0) := Row8.of_block ((kk.block _ rg1.lt_ (fun h => h)).trans rg1.block)
          generalize wC.alloc (.cells (madeCells #[.int .u8 0] 8192) 5) = wD at *
          simp only [Act.put, List.setIfInBounds_toArray, List.set_cons_zero, List.set_cons_succ]
          refine wpAnyH_all (rs := [19]) (by kernel_rfl) (by simp) fun i hi => ?_
          obtain rfl : i = 19 := by simpa using hi
          clear hi
          refine op_run (om := ⟨_, _, _, _, _, _⟩) (u := .string ⟨(List.replicate 8192 (0 : UInt8)).toArray⟩) (w' := wD) rfl rfl (ex_convert 22 9 (.tmp 101) rfl _ _ rfl (conv_row 8192 List.length_replicate rg2)) _ _ rfl rfl ?_
          rintro u wZ ⟨rfl, hz⟩
          have hz := hz.symm
          subst hz
          refine ⟨KD, ?_⟩
          simp only [Act.put, List.setIfInBounds_toArray, List.set_cons_zero, List.set_cons_succ]
          refine wpAnyH_take (oi := ⟨_, _, _, _, _, _⟩) (i := 20) (v := .bool false) rfl (by kernel_rfl) (by kernel_rfl) (by kernel_rfl) (fun _ _ _ h => h) (Or.inl ⟨by rfl, fun _ _ => by go_simp⟩) KD ?_
          simp only [Act.put, List.setIfInBounds_toArray, List.set_cons_zero, List.set_cons_succ]
          refine wpAnyH_take (oi := ⟨_, _, _, _, _, _⟩) (i := 21) (v := .bool false) rfl (by kernel_rfl) (by kernel_rfl) (by kernel_rfl) (fun _ _ _ h => h) (Or.inl ⟨by rfl, fun _ _ => rfl⟩) KD ?_
          simp only [Act.put, List.setIfInBounds_toArray, List.set_cons_zero, List.set_cons_succ]
          have KE := Lib.hid (KW.out.trans KD)
          refine wpAnyH_done (by kernel_rfl) ?_ _
          go_wp2_with fail
          go_roundw
          case rel => exact ⟨k + 1, by omega, by go_num, KE.out⟩
          case measure => simp [RowKit.intOf]; omega
        · refine op_run (om := ⟨_, _, _, _, _, _⟩) (u := .slice (some ⟨wC.heap.size, 0, none⟩) 8192 8192) (w' := wC.alloc (.cells (madeCells #[.int .u8 0] 8192) 5)) rfl rfl (ex_make 22 _ _ rfl _ _ _ rfl rfl (hmk wC)) _ _ rfl rfl ?_
          rintro u wE ⟨rfl, rfl⟩
          have rg2 := Row8.made wC 8192 5
          have KE : Keeps (fun _ => False) wB (wC.alloc (.cells (madeCells #[.int .u8 0] 8192) 5)) := KC.trans (Keeps.alloc _ _ _)
          refine ⟨KE, ?_⟩
          obtain ⟨g2, hg⟩ : ∃ g : Nat, g = wC.heap.size := ⟨_, rfl⟩
          rw [← hg] at rg2 ⊢
          clear hg
          have kk : Keeps (fun _ => False) wC (wC.alloc (.cells (madeCells #[.int .u8 0] 8192) 5)) := Keeps.alloc _ _ _
          have rg1 : Row8 (wC.alloc (.cells (madeCells #[.int .u8 0] 8192) 5)) g1 5 (List.replicate 8192 0) := Row8.of_block ((kk.block _ rg1.lt_ (fun h => h)).trans rg1.block)
          generalize wC.alloc (.cells (madeCells #[.int .u8 0] 8192) 5) = wE at *
          simp only [Act.put, List.setIfInBounds_toArray, List.set_cons_zero, List.set_cons_succ]
          refine wpAnyH_all (rs := [17, 19]) (by kernel_rfl) (by simp) fun i hi => ?_
          have hi : i = 17 ∨ i = 19 := by simpa using hi
          rcases hi with rfl | rfl
          · refine op_run (om := ⟨_, _, _, _, _, _⟩) (u := .string ⟨(List.replicate 8192 (0 : UInt8)).toArray⟩) (w' := wE) rfl rfl (ex_convert 22 9 (.tmp 99) rfl _ _ rfl (conv_row 8192 List.length_replicate rg1)) _ _ rfl rfl ?_
            rintro u wZ ⟨rfl, hz⟩
            have hz := hz.symm
            subst hz
            refine ⟨KE, ?_⟩
            simp only [Act.put, List.setIfInBounds_toArray, List.set_cons_zero, List.set_cons_succ]
            refine wpAnyH_all (rs := [19]) (by kernel_rfl) (by simp) fun i hi => ?_
            obtain rfl : i = 19 := by simpa using hi
            clear hi
            refine op_run (om := ⟨_, _, _, _, _, _⟩) (u := .string ⟨(List.replicate 8192 (0 : UInt8)).toArray⟩) (w' := wE) rfl rfl (ex_convert 22 9 (.tmp 101) rfl _ _ rfl (conv_row 8192 List.length_replicate rg2)) _ _ rfl rfl ?_
            rintro u wZ ⟨rfl, hz⟩
            have hz := hz.symm
            subst hz
            refine ⟨KE, ?_⟩
            simp only [Act.put, List.setIfInBounds_toArray, List.set_cons_zero, List.set_cons_succ]
            refine wpAnyH_take (oi := ⟨_, _, _, _, _, _⟩) (i := 20) (v := .bool false) rfl (by kernel_rfl) (by kernel_rfl) (by kernel_rfl) (fun _ _ _ h => h) (Or.inl ⟨by rfl, fun _ _ => by go_simp⟩) KE ?_
            simp only [Act.put, List.setIfInBounds_toArray, List.set_cons_zero, List.set_cons_succ]
            refine wpAnyH_take (oi := ⟨_, _, _, _, _, _⟩) (i := 21) (v := .bool false) rfl (by kernel_rfl) (by kernel_rfl) (by kernel_rfl) (fun _ _ _ h => h) (Or.inl ⟨by rfl, fun _ _ => rfl⟩) KE ?_
            simp only [Act.put, List.setIfInBounds_toArray, List.set_cons_zero, List.set_cons_succ]
            have KE := Lib.hid (KW.out.trans KE)
            refine wpAnyH_done (by kernel_rfl) ?_ _
            go_wp2_with fail
            go_roundw
            case rel => exact ⟨k + 1, by omega, by go_num, KE.out⟩
            case measure => simp [RowKit.intOf]; omega
          · refine op_run (om := ⟨_, _, _, _, _, _⟩) (u := .string ⟨(List.replicate 8192 (0 : UInt8)).toArray⟩) (w' := wE) rfl rfl (ex_convert 22 9 (.tmp 101) rfl _ _ rfl (conv_row 8192 List.length_replicate rg2)) _ _ rfl rfl ?_
            rintro u wZ ⟨rfl, hz⟩
            have hz := hz.symm
            subst hz
            refine ⟨KE, ?_⟩
            simp only [Act.put, List.setIfInBounds_toArray, List.set_cons_zero, List.set_cons_succ]
            refine wpAnyH_all (rs := [17]) (by kernel_rfl) (by simp) fun i hi => ?_
            obtain rfl : i = 17 := by simpa using hi
            clear hi
            refine op_run (om := ⟨_, _, _, _, _, _⟩) (u := .string ⟨(List.replicate 8192 (0 : UInt8)).toArray⟩) (w' := wE) rfl rfl (ex_convert 22 9 (.tmp 99) rfl _ _ rfl (conv_row 8192 List.length_replicate rg1)) _ _ rfl rfl ?_
            rintro u wZ ⟨rfl, hz⟩
            have hz := hz.symm
            subst hz
            refine ⟨KE, ?_⟩
            simp only [Act.put, List.setIfInBounds_toArray, List.set_cons_zero, List.set_cons_succ]
            refine wpAnyH_take (oi := ⟨_, _, _, _, _, _⟩) (i := 20) (v := .bool false) rfl (by kernel_rfl) (by kernel_rfl) (by kernel_rfl) (fun _ _ _ h => h) (Or.inl ⟨by rfl, fun _ _ => by go_simp⟩) KE ?_
            simp only [Act.put, List.setIfInBounds_toArray, List.set_cons_zero, List.set_cons_succ]
            refine wpAnyH_take (oi := ⟨_, _, _, _, _, _⟩) (i := 21) (v := .bool false) rfl (by kernel_rfl) (by kernel_rfl) (by kernel_rfl) (fun _ _ _ h => h) (Or.inl ⟨by rfl, fun _ _ => rfl⟩) KE ?_
            simp only [Act.put, List.setIfInBounds_toArray, List.set_cons_zero, List.set_cons_succ]
            have KE := Lib.hid (KW.out.trans KE)
            refine wpAnyH_done (by kernel_rfl) ?_ _
            go_wp2_with fail
            go_roundw
            case rel => exact ⟨k + 1, by omega, by go_num, KE.out⟩
            case measure => simp [RowKit.intOf]; omega
      · refine op_run (om := ⟨_, _, _, _, _, _⟩) (u := .slice (some ⟨wB.heap.size, 0, none⟩) 8192 8192) (w' := wB.alloc (.cells (madeCells #[.int .u8 0] 8192) 5)) rfl rfl (ex_make 22 _ _ rfl _ _ _ rfl rfl (hmk wB)) _ _ rfl rfl ?_
        rintro u wF ⟨rfl, rfl⟩
        have rg2 := Row8.made wB 8192 5
        have KF : Keeps (fun _ => False) wB (wB.alloc (.cells (madeCells #[.int .u8 0] 8192) 5)) := KB.trans (Keeps.alloc _ _ _)
        refine ⟨KF, ?_⟩
        obtain ⟨g2, hg⟩ : ∃ g : Nat, g = wB.heap.size := ⟨_, rfl⟩
        rw [← hg] at rg2 ⊢
        clear hg
        have kk : Keeps (fun _ => False) wB (wB.alloc (.cells (madeCells #[.int .u8 0] 8192) 5)) := Keeps.alloc _ _ _
        generalize wB.alloc (.cells (madeCells #[.int .u8 0] 8192) 5) = wF at *
        simp only [Act.put, List.setIfInBounds_toArray, List.set_cons_zero, List.set_cons_succ]
        refine wpAnyH_all (rs := [16, 19]) (by kernel_rfl) (by simp) fun i hi => ?_
        have hi : i = 16 ∨ i = 19 := by simpa using hi
        rcases hi with rfl | rfl
        · refine op_call (om := ⟨_, _, _, _, _, _⟩) (fn := 12) (args := #[.pointer v]) (R := fun u w' => ∃ g, u = .slice (some ⟨g, 0, none⟩) 8192 8192 ∧ Row8 w' g 5 (List.replicate 8192 0) ∧ Keeps (fun _ => False) wF w') rfl rfl (by go_simp)
              ((bytes_no (HN.out wF KF)).mono fun e w' ⟨g, he, h1, h2⟩ => ⟨_, he, g, rfl, h1, h2⟩) _ _ rfl rfl ?_
          rintro u wG ⟨g1, rfl, rg1, kk⟩
          have KG : Keeps (fun _ => False) wB wG := KF.trans kk
          refine ⟨KG, ?_⟩
          have rg2 : Row8 wG g2 5 (List.replicate 8192 0) := Row8.of_block ((kk.block _ rg2.lt_ (fun h => h)).trans rg2.block)
          clear kk
          simp only [Act.put, List.setIfInBounds_toArray, List.set_cons_zero, List.set_cons_succ]
          refine wpAnyH_all (rs := [17, 19]) (by kernel_rfl) (by simp) fun i hi => ?_
          have hi : i = 17 ∨ i = 19 := by simpa using hi
          rcases hi with rfl | rfl
          · refine op_run (om := ⟨_, _, _, _, _, _⟩) (u := .string ⟨(List.replicate 8192 (0 : UInt8)).toArray⟩) (w' := wG) rfl rfl (ex_convert 22 9 (.tmp 99) rfl _ _ rfl (conv_row 8192 List.length_replicate rg1)) _ _ rfl rfl ?_
            rintro u wZ ⟨rfl, hz⟩
            have hz := hz.symm
            subst hz
            refine ⟨KG, ?_⟩
            simp only [Act.put, List.setIfInBounds_toArray, List.set_cons_zero, List.set_cons_succ]
            refine wpAnyH_all (rs := [19]) (by kernel_rfl) (by simp) fun i hi => ?_
            obtain rfl : i = 19 := by simpa using hi
            clear hi
            refine op_run (om := ⟨_, _, _, _, _, _⟩) (u := .string ⟨(List.replicate 8192 (0 : UInt8)).toArray⟩) (w' := wG) rfl rfl (ex_convert 22 9 (.tmp 101) rfl _ _ rfl (conv_row 8192 List.length_replicate rg2)) _ _ rfl rfl ?_
            rintro u wZ ⟨rfl, hz⟩
            have hz := hz.symm
            subst hz
            refine ⟨KG, ?_⟩
            simp only [Act.put, List.setIfInBounds_toArray, List.set_cons_zero, List.set_cons_succ]
            refine wpAnyH_take (oi := ⟨_, _, _, _, _, _⟩) (i := 20) (v := .bool false) rfl (by kernel_rfl) (by kernel_rfl) (by kernel_rfl) (fun _ _ _ h => h) (Or.inl ⟨by rfl, fun _ _ => by go_simp⟩) KG ?_
            simp only [Act.put, List.setIfInBounds_toArray, List.set_cons_zero, List.set_cons_succ]
            refine wpAnyH_take (oi := ⟨_, _, _, _, _, _⟩) (i := 21) (v := .bool false) rfl (by kernel_rfl) (by kernel_rfl) (by kernel_rfl) (fun _ _ _ h => h) (Or.inl ⟨by rfl, fun _ _ => rfl⟩) KG ?_
            simp only [Act.put, List.setIfInBounds_toArray, List.set_cons_zero, List.set_cons_succ]
            have KE := Lib.hid (KW.out.trans KG)
            refine wpAnyH_done (by kernel_rfl) ?_ _
            go_wp2_with fail
            go_roundw
            case rel => exact ⟨k + 1, by omega, by go_num, KE.out⟩
            case measure => simp [RowKit.intOf]; omega
          · refine op_run (om := ⟨_, _, _, _, _, _⟩) (u := .string ⟨(List.replicate 8192 (0 : UInt8)).toArray⟩) (w' := wG) rfl rfl (ex_convert 22 9 (.tmp 101) rfl _ _ rfl (conv_row 8192 List.length_replicate rg2)) _ _ rfl rfl ?_
            rintro u wZ ⟨rfl, hz⟩
            have hz := hz.symm
            subst hz
            refine ⟨KG, ?_⟩
            simp only [Act.put, List.setIfInBounds_toArray, List.set_cons_zero, List.set_cons_succ]
            refine wpAnyH_all (rs := [17]) (by kernel_rfl) (by simp) fun i hi => ?_
            obtain rfl : i = 17 := by simpa using hi
            clear hi
            refine op_run (om := ⟨_, _, _, _, _, _⟩) (u := .string ⟨(List.replicate 8192 (0 : UInt8)).toArray⟩) (w' := wG) rfl rfl (ex_convert 22 9 (.tmp 99) rfl _ _ rfl (conv_row 8192 List.length_replicate rg1)) _ _ rfl rfl ?_
            rintro u wZ ⟨rfl, hz⟩
            have hz := hz.symm
            subst hz
            refine ⟨KG, ?_⟩
            simp only [Act.put, List.setIfInBounds_toArray, List.set_cons_zero, List.set_cons_succ]
            refine wpAnyH_take (oi := ⟨_, _, _, _, _, _⟩) (i := 20) (v := .bool false) rfl (by kernel_rfl) (by kernel_rfl) (by kernel_rfl) (fun _ _ _ h => h) (Or.inl ⟨by rfl, fun _ _ => by go_simp⟩) KG ?_
            simp only [Act.put, List.setIfInBounds_toArray, List.set_cons_zero, List.set_cons_succ]
            refine wpAnyH_take (oi := ⟨_, _, _, _, _, _⟩) (i := 21) (v := .bool false) rfl (by kernel_rfl) (by kernel_rfl) (by kernel_rfl) (fun _ _ _ h => h) (Or.inl ⟨by rfl, fun _ _ => rfl⟩) KG ?_
            simp only [Act.put, List.setIfInBounds_toArray, List.set_cons_zero, List.set_cons_succ]
            have KE := Lib.hid (KW.out.trans KG)
            refine wpAnyH_done (by kernel_rfl) ?_ _
            go_wp2_with fail
            go_roundw
            case rel => exact ⟨k + 1, by omega, by go_num, KE.out⟩
            case measure => simp [RowKit.intOf]; omega
        · refine op_run (om := ⟨_, _, _, _, _, _⟩) (u := .string ⟨(List.replicate 8192 (0 : UInt8)).toArray⟩) (w' := wF) rfl rfl (ex_convert 22 9 (.tmp 101) rfl _ _ rfl (conv_row 8192 List.length_replicate rg2)) _ _ rfl rfl ?_
          rintro u wZ ⟨rfl, hz⟩
          have hz := hz.symm
          subst hz
          refine ⟨KF, ?_⟩
          simp only [Act.put, List.setIfInBounds_toArray, List.set_cons_zero, List.set_cons_succ]
          refine wpAnyH_all (rs := [16]) (by kernel_rfl) (by simp) fun i hi => ?_
          obtain rfl : i = 16 := by simpa using hi
          clear hi
          refine op_call (om := ⟨_, _, _, _, _, _⟩) (fn := 12) (args := #[.pointer v]) (R := fun u w' => ∃ g, u = .slice (some ⟨g, 0, none⟩) 8192 8192 ∧ Row8 w' g 5 (List.replicate 8192 0) ∧ Keeps (fun _ => False) wF w') rfl rfl (by go_simp)
              ((bytes_no (HN.out wF KF)).mono fun e w' ⟨g, he, h1, h2⟩ => ⟨_, he, g, rfl, h1, h2⟩) _ _ rfl rfl ?_
          rintro u wH ⟨g1, rfl, rg1, kk⟩
          have KH : Keeps (fun _ => False) wB wH := KF.trans kk
          refine ⟨KH, ?_⟩
          have rg2 : Row8 wH g2 5 (List.replicate 8192 0) := Row8.of_block ((kk.block _ rg2.lt_ (fun h => h)).trans rg2.block)
          clear kk
          simp only [Act.put, List.setIfInBounds_toArray, List.set_cons_zero, List.set_cons_succ]
          refine wpAnyH_all (rs := [17]) (by kernel_rfl) (by simp) fun i hi => ?_
          obtain rfl : i = 17 := by simpa using hi
          clear hi
          refine op_run (om := ⟨_, _, _, _, _, _⟩) (u := .string ⟨(List.replicate 8192 (0 : UInt8)).toArray⟩) (w' := wH) rfl rfl (ex_convert 22 9 (.tmp 99) rfl _ _ rfl (conv_row 8192 List.length_replicate rg1)) _ _ rfl rfl ?_
          rintro u wZ ⟨rfl, hz⟩
          have hz := hz.symm
          subst hz
          refine ⟨KH, ?_⟩
          simp only [Act.put, List.setIfInBounds_toArray, List.set_cons_zero, List.set_cons_succ]
          refine wpAnyH_take (oi := ⟨_, _, _, _, _, _⟩) (i := 20) (v := .bool false) rfl (by kernel_rfl) (by kernel_rfl) (by kernel_rfl) (fun _ _ _ h => h) (Or.inl ⟨by rfl, fun _ _ => by go_simp⟩) KH ?_
          simp only [Act.put, List.setIfInBounds_toArray, List.set_cons_zero, List.set_cons_succ]
          refine wpAnyH_take (oi := ⟨_, _, _, _, _, _⟩) (i := 21) (v := .bool false) rfl (by kernel_rfl) (by kernel_rfl) (by kernel_rfl) (fun _ _ _ h => h) (Or.inl ⟨by rfl, fun _ _ => rfl⟩) KH ?_
          simp only [Act.put, List.setIfInBounds_toArray, List.set_cons_zero, List.set_cons_succ]
          have KE := Lib.hid (KW.out.trans KH)
          refine wpAnyH_done (by kernel_rfl) ?_ _
          go_wp2_with fail
          go_roundw
          case rel => exact ⟨k + 1, by omega, by go_num, KE.out⟩
          case measure => simp [RowKit.intOf]; omega
    · obtain rfl : k = 2 := by omega
      have KW := Lib.hid (K2.out.trans kp)
      clear kp
      go_wp2_with fail
      refine (over_nil _).mono ?_
      rintro e w5 ⟨rfl, k5⟩
      have K5 := Lib.hid (KW.out.trans k5)
      clear k5
      go_wp2_with fail
      refine (mflat_any none [] 0 w5 BR.nil).mono ?_
      rintro e w6 ⟨p, gb, mb, rfl, _, _, _, hm, k6⟩
      have K6 := Lib.hid (K5.out.trans k6)
      clear k6
      go_wp2_with fail
      refine (sync_at hm).mono ?_
      rintro e w7 ⟨rfl, rfl⟩
      clear hm
      go_wp2_with fail
      go_ret
      exact ⟨rfl, below_false K6.out⟩

set_option maxRecDepth 100000 in
theorem lifted (os : Os) (started : os.Started) (H : Type) (enc : TypeId × Value → H) :
    ReturnsInHanded {} Try.checked os 6 .any (Rows.memNoneSpec.pre6 enc Try.prog Try.f6 Rows.memNoneRow.domain false) (Rows.memNoneSpec.post enc Try.prog Try.f6 false true false false) := by
  refine returnsInHanded_of_change_sized (C := Try.checked) own started (by kernel_rfl) Try.func6
    (ChangeSpec.witness6 (enc := enc) (C := Try.checked) false ⟨#[], #[.agg #[.int .i64 0, .int .i64 0, .int .i64 0, .slice none 0 0]], []⟩ 8 (by kernel_rfl) (by kernel_rfl) (by kernel_rfl) (by kernel_rfl)) ?_
  intro W base args ds gs before hval0 hW _ hsz0 _
  have hsz : (DataW.weightsEach Try.prog (Try.f6.params.toList ++ Rows.memNoneSpec.plain.varTypes Try.prog) (ds ++ gs)).all (· ≤ reachBytes) = true := hsz0
  clear hsz0
  have hval : ∀ (j : Nat) t v, Try.f6.params[j]? = some t → args[j]? = some v → Value.okWide Try.prog W .any base t v := hval0
  have hW' := hW
  obtain ⟨p, q, hA0, hV, rfl, _, _⟩ := hW
  have hA : DataW.TrodAll enc Try.prog W 0 (fun _ => true) true Try.f6.params.toList args.toList ds p := hA0
  rw [Try.params6] at hA hval hsz
  obtain ⟨v0, vs0, d0, ds0, p0, q0, hargs, rfl, rfl, h0, r0⟩ := trodAll_cons hA
  obtain ⟨rfl, rfl, rfl⟩ := trodAll_nil r0
  obtain rfl : args = #[v0] := by cases args; simp_all
  obtain ⟨rfl, rfl⟩ := trodVars_none hV
  have k0 := h0
  have lt0 : ∀ x ∈ p0, x.block < W.heap.size := by obtain ⟨m, hm⟩ := k0; exact DataW.trod_lt m _ _ _ hm
  obtain ⟨a0, rfl, o0⟩ := mact_in (hval 0 31 v0 rfl rfl) h0
  clear hA0 hval0
  refine (walk a0 W o0).mono fun e W' ⟨he, bel⟩ => ?_
  subst he
  exact ⟨_, rfl, _, _, _, [], _, [], hW', trodAll_mk1 (shut_bool Try.underlying4 _), (trodAll_cons_mk (Below.trod laidOut (by kernel_rfl) (of_decide_eq_true (by kernel_rfl)) k0 bel lt0) trodAll_mk0), rfl, bel.frame _, fun h => by cases h⟩

theorem proved : Rows.MemNoneSaid :=
  OpenClaim.holds_of_wide 6 Try.f6 rfl rfl rfl rfl rfl rfl rfl ⟨rfl, rfl, rfl, rfl, rfl⟩ rfl rfl rfl rfl rfl (by kernel_rfl) Try.func6 (by kernel_rfl)
    (of_decide_eq_true (by kernel_rfl)) (by unfold Func.isWrapper; first | (rw [if_pos (by decide +kernel)]; kernel_rfl) | (rw [if_neg (by decide +kernel)]; exact ⟨rfl, rfl⟩))
    (fun os started H enc _ => lifted os started H enc)
#print axioms proved
end Go.Proofs.Ytdbphindnnchfaa.memNone
