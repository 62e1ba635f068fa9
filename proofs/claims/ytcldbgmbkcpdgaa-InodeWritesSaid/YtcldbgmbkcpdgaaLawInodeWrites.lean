/-
  LawInodeWrites
-/
import Derived.Test.YtcldbgmbkcpdgaaGA
import Derived.ChangeOld
import Derived.Below
import Derived.Deep.QuietTactic
import Derived.BigQuiet
import Derived.WalkSmall
import Derived.Test.YtcldbgmbkcpdgaaInAwake
namespace Go.Proofs.Ytcldbgmbkcpdgaa.inodeWrites
open Go.ChangeShapes Go.WideShapes Go.ChangeAt Go.RowKit Ino Ex
set_option linter.unusedVariables false

theorem own : ownKnob Try.prog.godebug = none := by kernel_rfl
theorem laidOut : laidOutB Try.prog = true := by kernel_rfl

set_option maxRecDepth 100000 in
set_option maxHeartbeats 1000000 in
theorem walk (x0 : IN) (A0 : Option Addr) (c0 : Nat) (w : World) (o0 : InIn w x0 A0) :
    Calls Try.prog 4 #[ag x0 A0 c0] w fun e w' => e = .returned (.bool true) ∧ Below w.heap.size w w' := by
  have haw := awake_in w
  have bA : Below w.heap.size w (w.alloc (.cells #[.string ⟨x0.name.toArray⟩, .int .i64 x0.size, .slice A0 x0.ext.length c0] 28)) := (Below.refl _ _).alloc (Nat.le_refl _) _
  have gA : (w.alloc (.cells #[.string ⟨x0.name.toArray⟩, .int .i64 x0.size, .slice A0 x0.ext.length c0] 28)).heap[w.heap.size]? = some (.cells #[.string ⟨x0.name.toArray⟩, .int .i64 x0.size, .slice A0 x0.ext.length c0] 28 (0, 0)) := heap_alloc_new w _
  have sA : w.heap.size < (w.alloc (.cells #[.string ⟨x0.name.toArray⟩, .int .i64 x0.size, .slice A0 x0.ext.length c0] 28)).heap.size := by rw [World.size_alloc]; omega
  have haw2 := awake_in (w.alloc (.cells #[.string ⟨x0.name.toArray⟩, .int .i64 x0.size, .slice A0 x0.ext.length c0] 28))
  have HAW := Lib.hid haw2
  have HO := Lib.hid o0
  have BA := Lib.hid bA
  have GA := Lib.hid gA
  have SA := Lib.hid sA
  have hel := o0.el
  have hnl := o0.nl
  clear haw haw2 o0 bA gA sA
  have hsz := st_size x0.name
  have ewl : IntKind.i64.wrap (x0.name.length : Int) = (x0.name.length : Int) := by rw [IntKind.wrap_i64]; omega
  have ewe : IntKind.i64.wrap (x0.ext.length : Int) = (x0.ext.length : Int) := by rw [IntKind.wrap_i64]; omega
  go_enter Try.func4, Try.ntmps4
  go_wp2_with fail
  generalize w.alloc (.cells #[.string ⟨x0.name.toArray⟩, .int .i64 x0.size, .slice A0 x0.ext.length c0] 28) = wA at *
  refine HAW.out.mono ?_
  clear HAW
  rintro e w1 ⟨rfl, b1⟩
  have g1 := (b1.block w.heap.size SA.out).trans GA.out
  have q0 : w1.cell? ⟨w.heap.size, 0, none⟩ = some (St x0.name) := by rw [cell_of_row _ _ _ _ _ _ g1]; rfl
  have q2 : w1.cell? ⟨w.heap.size, 2, none⟩ = some (.slice A0 x0.ext.length c0) := by rw [cell_of_row _ _ _ _ _ _ g1]; rfl
  have hb1 := BA.out.trans (b1.mono BA.out.size)
  by_cases h1 : 100 < x0.ext.length
  · have n1 : decide ((100 : Int) < (x0.ext.length : Int)) = true := by simp; omega
    have HB1 := Lib.hid hb1
    clear b1 hb1 g1
    go_wp2_with fail
    go_ret
    exact ⟨rfl, HB1.out⟩
  have n1 : decide ((100 : Int) < (x0.ext.length : Int)) = false := by simp; omega
  by_cases h2 : 1000 < x0.name.length
  · have n2 : decide ((1000 : Int) < (x0.name.length : Int)) = true := by simp; omega
    have HB1 := Lib.hid hb1
    clear b1 hb1 g1
    go_wp2_with fail
    go_ret
    exact ⟨rfl, HB1.out⟩
  have n2 : decide ((1000 : Int) < (x0.name.length : Int)) = false := by simp; omega
  have hok : ∀ W, Below w.heap.size w W → InOk W x0 A0 := fun W hW => (HO.out.below hW).ok (by omega) (by omega)
  have q1 : w1.cell? ⟨w.heap.size, 1, none⟩ = some (.int .i64 x0.size) := by rw [cell_of_row _ _ _ _ _ _ g1]; rfl
  have hen := encode_in x0 A0 c0 w1 (hok w1 hb1)
  have HEN := Lib.hid hen
  have HOK := Lib.hid hok
  have HB1 := Lib.hid hb1
  have G1 := Lib.hid g1
  have s1 : w.heap.size < w1.heap.size := Nat.lt_of_lt_of_le SA.out b1.size
  clear hen hok hb1 g1 b1 GA BA SA h1 h2 HO
  go_wp2_with fail
  refine HEN.out.mono ?_
  clear HEN
  rintro e w2 ⟨R2, n2, c2, rfl, hl2, br2, b2, _⟩
  have g2 := (b2.block w.heap.size s1).trans G1.out
  have hb2 := HB1.out.trans (b2.mono HB1.out.size)
  have s2 := b2.size
  clear q0 q1 q2
  have q0 : w2.cell? ⟨w.heap.size, 0, none⟩ = some (St x0.name) := by rw [cell_of_row _ _ _ _ _ _ g2]; rfl
  have q1 : w2.cell? ⟨w.heap.size, 1, none⟩ = some (.int .i64 x0.size) := by rw [cell_of_row _ _ _ _ _ _ g2]; rfl
  have q2 : w2.cell? ⟨w.heap.size, 2, none⟩ = some (.slice A0 x0.ext.length c0) := by rw [cell_of_row _ _ _ _ _ _ g2]; rfl
  have hen := rencode_in x0 A0 c0 w2 (HOK.out w2 hb2)
  have HEN := Lib.hid hen
  have HB2 := Lib.hid hb2
  have G2 := Lib.hid g2
  have BR2 := Lib.hid br2
  have HL2 := Lib.hid hl2
  clear hen hb2 g2 br2 b2 HB1 G1 hl2
  go_wp2_with fail
  refine HEN.out.mono ?_
  clear HEN q0 q1 q2
  rintro e w4 ⟨R4, n4, c4, rfl, hl4, br4, b4, _⟩
  obtain rfl : n4 = n2 := by rw [← hl4, HL2.out]
  have g4 : w4.drew.heap[w.heap.size]? = _ := (b4.block w.heap.size (by omega)).trans G2.out
  have hb4 := (HB2.out.trans (b4.mono HB2.out.size)).drew
  have br24 := (BR2.out.below b4).more b4.size
  have hsm := Go.Proofs.Ytcldbgmbkcpdgaa.same_any R2 (encO x0) c2 R4 (encO x0) c4 w4.drew br24 br4
  rw [hl4, decide_eq_true rfl] at hsm
  have s4 : w.heap.size < w4.drew.heap.size := by show _ < w4.heap.size; have := b4.size; omega
  have HSM0 := Lib.hid hsm
  have HB4 := Lib.hid hb4
  have G4 := Lib.hid g4
  clear hsm hb4 g4 br24 br4 b4 HB2 G2 BR2 hl4
  generalize hm : chkE x0 = m at *
  have HM := Lib.hid hm
  clear hm
  go_wp2_with fail
  refine wp_region_held (S := fun W => Below w4.drew.heap.size w4.drew W) (by kernel_rfl) ?_
  change wpAnyH _ _ _ _ _ _ _ _ w4.drew
  have hS : Below w4.drew.heap.size w4.drew w4.drew := Below.refl _ _
  generalize w4.drew = w5 at *
  have HSM : Hid (Calls Try.prog 14 #[.slice R2 n4 c2, .slice R4 n4 c4] w5 fun e w' => e = .returned (.bool true) ∧ w5 = w') := HSM0
  have HLD : Hid (∀ W, Below w5.heap.size w5 W → (Instr.loadAt 28 (.pointer (some ⟨w.heap.size, 0, none⟩))).run Try.prog W = .ok (ag x0 A0 c0) W) := fun W hW => by
    have h1 := (hW.block w.heap.size s4).trans G4.out
    exact run_loadAt_mid W w.heap.size 0 28 [St x0.name, .int .i64 x0.size, .slice A0 x0.ext.length c0] _ (range_cells (zs := [_, _, _]) h1) Try.underlying28 rfl (by rw [size_i]; rfl)
  have HCK : Hid (∀ W, Below w5.heap.size w5 W → Calls Try.prog 15 #[ag x0 A0 c0] W (Gives W (.int .i64 m))) := fun W hW => by
    have := check_in x0 A0 c0 W (HOK.out W (HB4.out.trans (hW.mono HB4.out.size)))
    rwa [HM.out] at this
  have HRK : Hid (∀ W, Below w5.heap.size w5 W → Calls Try.prog 16 #[ag x0 A0 c0] W (Gives W (.int .i64 m))) := fun W hW => by
    have := rcheck_in x0 A0 c0 W (HOK.out W (HB4.out.trans (hW.mono HB4.out.size)))
    rwa [HM.out] at this
  refine wpAnyH_take (oi := ⟨_, _, _, _, _, _⟩) (i := 0) (v := .int .i64 m) rfl (by kernel_rfl) (by kernel_rfl) (by kernel_rfl) (fun _ _ _ h => h) (Or.inl ⟨by rfl, fun _ _ => rfl⟩) hS ?_
  try simp only [Act.put, List.setIfInBounds_toArray, List.set_cons_zero, List.set_cons_succ]
  refine wpAnyH_take (oi := ⟨_, _, _, _, _, _⟩) (i := 1) (v := .int .i64 m) rfl (by kernel_rfl) (by kernel_rfl) (by kernel_rfl) (fun _ _ _ h => h) (Or.inl ⟨by rfl, fun _ _ => rfl⟩) hS ?_
  try simp only [Act.put, List.setIfInBounds_toArray, List.set_cons_zero, List.set_cons_succ]
  refine wpAnyH_take (oi := ⟨_, _, _, _, _, _⟩) (i := 2) (v := .bool true) rfl (by kernel_rfl) (by kernel_rfl) (by kernel_rfl) (fun _ _ _ h => h) (Or.inl ⟨by rfl, fun _ _ => by go_simp⟩) hS ?_
  try simp only [Act.put, List.setIfInBounds_toArray, List.set_cons_zero, List.set_cons_succ]
  refine wpAnyH_take (oi := ⟨_, _, _, _, _, _⟩) (i := 3) (v := .bool true) rfl (by kernel_rfl) (by kernel_rfl) (by kernel_rfl) (fun _ _ _ h => h) (Or.inl ⟨by rfl, fun _ _ => rfl⟩) hS ?_
  try simp only [Act.put, List.setIfInBounds_toArray, List.set_cons_zero, List.set_cons_succ]
  refine wpAnyH_take (oi := ⟨_, _, _, _, _, _⟩) (i := 4) (v := .slice R2 n4 c2) rfl (by kernel_rfl) (by kernel_rfl) (by kernel_rfl) (fun _ _ _ h => h) (Or.inl ⟨by rfl, fun _ _ => rfl⟩) hS ?_
  try simp only [Act.put, List.setIfInBounds_toArray, List.set_cons_zero, List.set_cons_succ]
  refine wpAnyH_take (oi := ⟨_, _, _, _, _, _⟩) (i := 5) (v := .slice R4 n4 c4) rfl (by kernel_rfl) (by kernel_rfl) (by kernel_rfl) (fun _ _ _ h => h) (Or.inl ⟨by rfl, fun _ _ => rfl⟩) hS ?_
  try simp only [Act.put, List.setIfInBounds_toArray, List.set_cons_zero, List.set_cons_succ]
  refine wpAnyH_all (rs := [6]) (by kernel_rfl) (by simp) fun i hi => ?_
  obtain rfl : i = 6 := by simpa using hi
  refine op_call (om := ⟨_, _, _, _, _, _⟩) (fn := 14) (args := #[.slice R2 n4 c2, .slice R4 n4 c4]) (R := fun u W => u = .bool true ∧ w5 = W) rfl rfl (by go_simp)
    (HSM.out.mono fun e W ⟨he, hb⟩ => ⟨_, he, rfl, hb⟩) _ _ rfl rfl ?_
  rintro u W ⟨rfl, rfl⟩
  clear hi
  refine ⟨hS, ?_⟩
  try simp only [Act.put, List.setIfInBounds_toArray, List.set_cons_zero, List.set_cons_succ]
  refine wpAnyH_take (oi := ⟨_, _, _, _, _, _⟩) (i := 7) (v := .bool true) rfl (by kernel_rfl) (by kernel_rfl) (by kernel_rfl) (fun _ _ _ h => h) (Or.inl ⟨by rfl, fun _ _ => by go_simp⟩) hS ?_
  try simp only [Act.put, List.setIfInBounds_toArray, List.set_cons_zero, List.set_cons_succ]
  refine wpAnyH_take (oi := ⟨_, _, _, _, _, _⟩) (i := 8) (v := .bool true) rfl (by kernel_rfl) (by kernel_rfl) (by kernel_rfl) (fun _ _ _ h => h) (Or.inl ⟨by rfl, fun _ _ => rfl⟩) hS ?_
  try simp only [Act.put, List.setIfInBounds_toArray, List.set_cons_zero, List.set_cons_succ]
  refine wpAnyH_take (oi := ⟨_, _, _, _, _, _⟩) (i := 9) (v := ag x0 A0 c0) rfl (by kernel_rfl) (by kernel_rfl) (by kernel_rfl) (fun _ _ _ h => h) (yif_load rfl 28 (.tmp 1) rfl _ _ rfl HLD.out) hS ?_
  try simp only [Act.put, List.setIfInBounds_toArray, List.set_cons_zero, List.set_cons_succ]
  refine wpAnyH_take (oi := ⟨_, _, _, _, _, _⟩) (i := 11) (v := ag x0 A0 c0) rfl (by kernel_rfl) (by kernel_rfl) (by kernel_rfl) (fun _ _ _ h => h) (yif_load rfl 28 (.tmp 1) rfl _ _ rfl HLD.out) hS ?_
  try simp only [Act.put, List.setIfInBounds_toArray, List.set_cons_zero, List.set_cons_succ]
  refine wpAnyH_all (rs := [10]) (by kernel_rfl) (by simp) fun i hi => ?_
  obtain rfl : i = 10 := by simpa using hi
  refine op_call (om := ⟨_, _, _, _, _, _⟩) (fn := 15) (args := #[ag x0 A0 c0]) (R := fun u W => u = .int .i64 m ∧ Below w5.heap.size w5 W) rfl rfl (by go_simp)
    ((HCK.out w5 hS).mono fun e W ⟨he, hb⟩ => ⟨_, he, rfl, hb⟩) _ _ rfl rfl ?_
  rintro u w6 ⟨rfl, hb⟩
  have hS : Below w5.heap.size w5 w6 := Below.trans hS (hb.mono hS.size)
  clear hb hi
  refine ⟨hS, ?_⟩
  try simp only [Act.put, List.setIfInBounds_toArray, List.set_cons_zero, List.set_cons_succ]
  refine wpAnyH_all (rs := [12]) (by kernel_rfl) (by simp) fun i hi => ?_
  obtain rfl : i = 12 := by simpa using hi
  refine op_call (om := ⟨_, _, _, _, _, _⟩) (fn := 16) (args := #[ag x0 A0 c0]) (R := fun u W => u = .int .i64 m ∧ Below w6.heap.size w6 W) rfl rfl (by go_simp)
    ((HRK.out w6 hS).mono fun e W ⟨he, hb⟩ => ⟨_, he, rfl, hb⟩) _ _ rfl rfl ?_
  rintro u w7 ⟨rfl, hb⟩
  have hS : Below w5.heap.size w5 w7 := Below.trans hS (hb.mono hS.size)
  clear hb hi
  refine ⟨hS, ?_⟩
  try simp only [Act.put, List.setIfInBounds_toArray, List.set_cons_zero, List.set_cons_succ]
  refine wpAnyH_take (oi := ⟨_, _, _, _, _, _⟩) (i := 13) (v := .bool true) rfl (by kernel_rfl) (by kernel_rfl) (by kernel_rfl) (fun _ _ _ h => h) (Or.inl ⟨by rfl, fun _ _ => by go_simp⟩) hS ?_
  try simp only [Act.put, List.setIfInBounds_toArray, List.set_cons_zero, List.set_cons_succ]
  refine wpAnyH_take (oi := ⟨_, _, _, _, _, _⟩) (i := 14) (v := .bool true) rfl (by kernel_rfl) (by kernel_rfl) (by kernel_rfl) (fun _ _ _ h => h) (Or.inl ⟨by rfl, fun _ _ => by go_simp⟩) hS ?_
  try simp only [Act.put, List.setIfInBounds_toArray, List.set_cons_zero, List.set_cons_succ]
  refine wpAnyH_take (oi := ⟨_, _, _, _, _, _⟩) (i := 15) (v := .bool true) rfl (by kernel_rfl) (by kernel_rfl) (by kernel_rfl) (fun _ _ _ h => h) (Or.inl ⟨by rfl, fun _ _ => rfl⟩) hS ?_
  try simp only [Act.put, List.setIfInBounds_toArray, List.set_cons_zero, List.set_cons_succ]
  refine wpAnyH_done (by kernel_rfl) ?_ _
  try simp only [Act.put, List.setIfInBounds_toArray, List.set_cons_zero, List.set_cons_succ]
  have HF := Lib.hid (HB4.out.trans (hS.mono HB4.out.size))
  clear hS
  go_wp2_with fail
  go_ret
  exact ⟨rfl, HF.out⟩

set_option maxRecDepth 100000 in
theorem lifted (os : Os) (started : os.Started) (H : Type) (enc : TypeId × Value → H) :
    ReturnsInHanded {} Try.checked os 4 .any (Rows.inodeWritesSpec.pre6 enc Try.prog Try.f4 Rows.inodeWritesRow.domain false) (Rows.inodeWritesSpec.post enc Try.prog Try.f4 false true false false) := by
  refine returnsInHanded_of_change_sized (C := Try.checked) own started (by kernel_rfl) Try.func4
    (ChangeSpec.witness6 (enc := enc) (C := Try.checked) false ⟨#[], #[.agg #[.string ⟨#[]⟩, .int .i64 0, .slice none 0 0]], []⟩ 8 (by kernel_rfl) (by kernel_rfl) (by kernel_rfl) (by kernel_rfl)) ?_
  intro W base args ds gs before hval0 hW _ hsz0 _
  have hsz : (DataW.weightsEach Try.prog (Try.f4.params.toList ++ Rows.inodeWritesSpec.plain.varTypes Try.prog) (ds ++ gs)).all (· ≤ reachBytes) = true := hsz0
  clear hsz0
  have hval : ∀ (j : Nat) t v, Try.f4.params[j]? = some t → args[j]? = some v → Value.okWide Try.prog W .any base t v := hval0
  have hW' := hW
  obtain ⟨p, q, hA0, hV, rfl, _, _⟩ := hW
  have hA : DataW.TrodAll enc Try.prog W 0 (fun _ => true) true Try.f4.params.toList args.toList ds p := hA0
  rw [Try.params4] at hA hval hsz
  obtain ⟨v0, vs0, d0, ds0, p0, q0, hargs, rfl, rfl, h0, r0⟩ := trodAll_cons hA
  obtain ⟨rfl, rfl, rfl⟩ := trodAll_nil r0
  obtain rfl : args = #[v0] := by cases args; simp_all
  obtain ⟨rfl, rfl⟩ := trodVars_none hV
  have k0 := h0
  have lt0 : ∀ x ∈ p0, x.block < W.heap.size := by obtain ⟨m, hm⟩ := k0; exact DataW.trod_lt m _ _ _ hm
  obtain ⟨x0, A0, c0, rfl, o0⟩ := inode_in (hval 0 28 v0 rfl rfl) h0
  clear hA0 hval0
  refine (walk x0 A0 c0 W o0).mono fun e W' ⟨he, bel⟩ => ?_
  subst he
  exact ⟨_, rfl, _, _, _, [], _, [], hW', trodAll_mk1 (shut_bool Try.underlying4 _), (trodAll_cons_mk (Below.trod laidOut (by kernel_rfl) (of_decide_eq_true (by kernel_rfl)) k0 bel lt0) trodAll_mk0), rfl, bel.frame _, fun h => by cases h⟩

theorem proved : Rows.InodeWritesSaid :=
  OpenClaim.holds_of_wide 4 Try.f4 rfl rfl rfl rfl rfl rfl rfl ⟨rfl, rfl, rfl, rfl, rfl⟩ rfl rfl rfl rfl rfl (by kernel_rfl) Try.func4 (by kernel_rfl)
    (of_decide_eq_true (by kernel_rfl)) (by unfold Func.isWrapper; first | (rw [if_pos (by decide +kernel)]; kernel_rfl) | (rw [if_neg (by decide +kernel)]; exact ⟨rfl, rfl⟩))
    (fun os started H enc _ => lifted os started H enc)
#print axioms proved
end Go.Proofs.Ytcldbgmbkcpdgaa.inodeWrites
