/-
  HhBy1
-/
import Derived.Test.YthmlhjjcihibnaaHhByt
namespace Go.Proofs.Ythmlhjjcihibnaa.Hh
open Go.RowKit Go.Maps Mm Sk
set_option linter.unusedVariables false
set_option linter.unusedSimpArgs false
set_option maxRecDepth 100000 in
set_option maxHeartbeats 800000 in
theorem hbytes_code (x : HV) (w : World) : Calls Try.prog 17 #[hag x] w (GivesH w x) := by
  have B := Lib.hid (HB.boxed w x)
  have K := Lib.hid (Keeps.alloc (fun _ => False) w (.cells (hcs x).toArray 29))
  have AS : w.heap.size < (w.alloc (.cells (hcs x).toArray 29)).heap.size := by simp
  have WR := Lib.hid (fun w' => wrong_any x.name w')
  generalize hwA : w.alloc (.cells (hcs x).toArray 29) = wA at *
  have BXH := Lib.hid (show (Instr.box 29 (hag x)).run Try.prog w = .ok (.pointer (some ⟨w.heap.size, 0, none⟩)) wA from by rw [← hwA]; exact boxH w x)
  clear hwA
  by_cases ct : thrV x.name = 0
  · have hn0 : x.name ≠ [] := by
      intro e
      rw [e] at ct
      exact absurd ct (by decide)
    have hn : x.name.length ≤ 31 := by
      by_cases h : x.name.length ≤ 31
      · exact h
      · rw [thr_long (by omega)] at ct
        exact absurd ct (by decide)
    have YES := Lib.hid (fun (w' : World) (g n c : Nat) (e : n = sizeN x.name) => GivesH.yes (w := w) (w' := w') (x := x) (g := g) (n := n) (c := c) ct e)
    have n1 : 1 ≤ x.name.length := List.length_pos_iff.2 hn0
    rw [ct] at WR
    have sb := sizeN_bd x.name hn
    have AL := Lib.hid (fun w' => align_any (9 + (x.name.length : Int)) w')
    rw [align_size x.name hn] at AL
    have hd := headL_len x.link x.name
    have PC := Lib.hid (fun w' (g : Nat) (r : Row8 w' g 5 (List.replicate (sizeN x.name) 0)) => lePutCell_row (some ⟨g, 0, none⟩) (List.replicate (sizeN x.name) 0) (sizeN x.name) 0 x.link w' r.br (by simp; omega) (by omega))
    rw [List.length_replicate, show putL (List.replicate (sizeN x.name) 0) 0 (IntKind.u64.wrap x.link).toNat 8 = headL x.link x.name from rfl] at PC
    have or1 := (or_marks x.imm x.hid x.name.length (by omega)).2
    have mbv := markB_val (n := x.name.length) (by omega) x.imm x.hid
    have MKS := Lib.hid (fun w' => marks_any x.imm x.hid w')
    unfold bytesL at YES
    generalize hnn : x.name.length = n at *
    generalize headL x.link x.name = hdl at *
    generalize sizeN x.name = z at *
    generalize markN x.imm x.hid = mk at *
    generalize markB n x.imm x.hid = mb at *
    rw [← mbv] at or1
    have mub := mb.toNat_lt
    have HNN := Lib.hid hnn
    have HD := Lib.hid hd
    clear ct hn0 hnn mbv hd
    obtain ⟨c0, c1, c2, c3, c4, c5⟩ := B.out.c
    go_enter Try.func17, Try.ntmps17
    go_wp2_with (first
      | ((with_reducible refine at_ (op := .box 29 (.tmp 0)) ?_); refine wpList_val rfl _ (ex_box 29 (.tmp 0) rfl _ _ rfl BXH.out) ?_)
      | ((with_reducible refine at_ (op := .load 9 (.tmp 7)) ?_); refine wpList_val rfl _ (ex_load 9 (.tmp 7) rfl _ _ rfl (load_one (fun w => by kernel_rfl) c2)) ?_)
      | fail)
    refine (WR.out wA).mono ?_
    rintro e w2 ⟨rfl, rfl⟩
    clear WR
    go_wp2_with (first
      | ((with_reducible refine at_ (op := .load 9 (.tmp 13)) ?_); refine wpList_val rfl _ (ex_load 9 (.tmp 13) rfl _ _ rfl (load_one (fun w => by kernel_rfl) c2)) ?_)
      | ((with_reducible refine at_ (op := .call { callee := .builtin .len, args := #[.tmp 14], argTypes := #[9] }) ?_); refine wpList_val rfl _ (ex_lenX (.tmp 14) rfl _ rfl) ?_; rw [HNN.out])
      | fail)
    refine (AL.out wA).mono ?_
    rintro e w2 ⟨rfl, rfl⟩
    clear AL
    go_wp2_with fail
    refine wp_region_any (by kernel_rfl) (wpAny_of_last (S := fun W => HB W w.heap.size x) (z := 6) _ _ _ _ ?_)
    change wpAnyZ _ _ _ _ _ _ _ _ _ wA.drew
    have hS : HB wA.drew w.heap.size x := B.out.keep (Keeps.drew (fun _ => False) wA) fun f => f
    have K2 := Lib.hid (K.out.trans (Keeps.drew _ wA))
    have AS2 : w.heap.size < wA.drew.heap.size := AS
    generalize wA.drew = w2 at *
    clear K B AS c0 c1 c2 c3 c4 c5
    refine wpAnyZ_take (oi := ⟨_, _, _, _, _, _⟩) (i := 0) (v := .int .i64 (z : Int)) rfl (by kernel_rfl) (fun _ _ _ h => h) (Or.inl ⟨by rfl, fun _ _ => rfl⟩) hS ?_
    try simp only [Act.put, List.setIfInBounds_toArray, List.set_cons_zero, List.set_cons_succ]
    refine wpAnyZ_take (oi := ⟨_, _, _, _, _, _⟩) (i := 2) (v := .pointer (some ⟨w.heap.size, 1, none⟩)) rfl (by kernel_rfl) (fun _ _ _ h => h) (Or.inl ⟨by rfl, fun _ _ => by go_simp⟩) hS ?_
    try simp only [Act.put, List.setIfInBounds_toArray, List.set_cons_zero, List.set_cons_succ]
    refine wpAnyZ_take (oi := ⟨_, _, _, _, _, _⟩) (i := 3) (v := .int .i64 x.link) rfl (by kernel_rfl) (fun _ _ _ h => h) (yif_load rfl 2 (.tmp 20) rfl _ _ rfl (fun W hW => load_one (fun w => by kernel_rfl) (HB.c hW).2.1)) hS ?_
    try simp only [Act.put, List.setIfInBounds_toArray, List.set_cons_zero, List.set_cons_succ]
    have mk8 := make8 z (by omega) w2
    have r3 := Row8.made w2 z 5
    have k3 : Keeps (fun _ => False) w2 (w2.alloc (.cells (madeCells #[.int .u8 0] z) 5)) := Keeps.alloc _ _ _
    refine wpAnyZ_one (i := 1) (by kernel_rfl) ?_
    refine wpOp_run (om := ⟨_, _, _, _, _, _⟩) (u := .slice (some ⟨w2.heap.size, 0, none⟩) z z) (w' := w2.alloc (.cells (madeCells #[.int .u8 0] z) 5)) rfl rfl (ex_makeX 22 (.tmp 18) (.tmp 18) rfl _ _ _ rfl rfl mk8) ?_
    replace hS := HB.keep hS k3 fun f => f
    have K3 := Lib.hid (K2.out.trans k3)
    generalize w2.alloc (.cells (madeCells #[.int .u8 0] z) 5) = w3 at *
    refine ⟨.inr hS, ?_⟩
    try simp only [Act.put, List.setIfInBounds_toArray, List.set_cons_zero, List.set_cons_succ]
    refine wpAnyZ_one (i := 4) (by kernel_rfl) ?_
    refine op_call (om := ⟨_, _, _, _, _, _⟩) (fn := 36) (args := #[.slice (some ⟨w2.heap.size, 0, none⟩) z z, .int .i64 0, .int .i64 x.link]) (R := fun u' w' => ∃ g, u' = .slice (some ⟨g, 0, none⟩) z z ∧ w3.heap.size ≤ g ∧ Row8 w' g 5 hdl ∧ Below w3.heap.size w3 w') rfl rfl (by go_simp)
      ((PC.out w3 _ r3).mono fun e w' y => by obtain ⟨g, e1, y⟩ := y; exact ⟨_, e1, g, rfl, y⟩) _ _ rfl rfl ?_
    rintro u' w4 ⟨g, rfl, hg, r4, b4⟩
    have k4 : Keeps (fun _ => False) w3 w4 := Keeps.below b4 _ fun i h1 h2 => by omega
    replace hS := HB.keep hS k4 fun f => f
    have own4 : Own8 w4 w.heap.size 5 (some ⟨g, 0, none⟩) z hdl := by
      have := Own8.of_row (B := w.heap.size) r4 (by have := K3.out.size; omega) (by rw [HD.out]; omega)
      rw [HD.out] at this
      exact this
    have hgw : w.heap.size < g := by have := k3.size; omega
    have K4 := Lib.hid (K3.out.trans k4)
    clear r3 k3 mk8 K2 K3 k4 r4 b4 hg AS2 PC
    refine ⟨.inr hS, ?_⟩
    try simp only [Act.put, List.setIfInBounds_toArray, List.set_cons_zero, List.set_cons_succ]
    refine wpAnyZ_one (i := 5) (by kernel_rfl) ?_
    refine wpOp_run (om := ⟨_, _, _, _, _, _⟩) (u := .slice (some ⟨g, 0, none⟩) z z) (w' := w4) rfl rfl (by go_simp) ?_
    refine ⟨.inr hS, ?_⟩
    try simp only [Act.put, List.setIfInBounds_toArray, List.set_cons_zero, List.set_cons_succ]
    refine wpAnyZ_done (by kernel_rfl) ?_ _
    try simp only [Act.put, List.setIfInBounds_toArray, List.set_cons_zero, List.set_cons_succ]
    go_wp2_with fail
    refine wp_region_any (by kernel_rfl) (wpAny_of_last (S := fun W => HB W w.heap.size x) (z := 13) _ _ _ _ ?_)
    change wpAnyZ _ _ _ _ _ _ _ _ _ w4.drew
    replace hS := HB.keep hS (Keeps.drew (fun _ => False) w4) fun f => f
    replace own4 := own4.keeps' (Keeps.drew (fun _ => False) w4) fun f => f
    have K5 := Lib.hid (K4.out.trans (Keeps.drew _ w4))
    clear K4
    generalize w4.drew = w5 at *
    refine wpAnyZ_take (oi := ⟨_, _, _, _, _, _⟩) (i := 0) (v := .slice (some ⟨g, 0, none⟩) z z) rfl (by kernel_rfl) (fun _ _ _ h => h) (Or.inl ⟨by rfl, fun _ _ => rfl⟩) hS ?_
    try simp only [Act.put, List.setIfInBounds_toArray, List.set_cons_zero, List.set_cons_succ]
    refine wpAnyZ_take (oi := ⟨_, _, _, _, _, _⟩) (i := 1) (v := .pointer (some ⟨w.heap.size, 3, none⟩)) rfl (by kernel_rfl) (fun _ _ _ h => h) (Or.inl ⟨by rfl, fun _ _ => by go_simp⟩) hS ?_
    try simp only [Act.put, List.setIfInBounds_toArray, List.set_cons_zero, List.set_cons_succ]
    refine wpAnyZ_take (oi := ⟨_, _, _, _, _, _⟩) (i := 2) (v := .bool x.imm) rfl (by kernel_rfl) (fun _ _ _ h => h) (yif_load rfl 4 (.tmp 24) rfl _ _ rfl (fun W hW => load_one (fun w => by kernel_rfl) (HB.c hW).2.2.2.1)) hS ?_
    try simp only [Act.put, List.setIfInBounds_toArray, List.set_cons_zero, List.set_cons_succ]
    refine wpAnyZ_take (oi := ⟨_, _, _, _, _, _⟩) (i := 3) (v := .pointer (some ⟨w.heap.size, 4, none⟩)) rfl (by kernel_rfl) (fun _ _ _ h => h) (Or.inl ⟨by rfl, fun _ _ => by go_simp⟩) hS ?_
    try simp only [Act.put, List.setIfInBounds_toArray, List.set_cons_zero, List.set_cons_succ]
    refine wpAnyZ_take (oi := ⟨_, _, _, _, _, _⟩) (i := 4) (v := .bool x.hid) rfl (by kernel_rfl) (fun _ _ _ h => h) (yif_load rfl 4 (.tmp 26) rfl _ _ rfl (fun W hW => load_one (fun w => by kernel_rfl) (HB.c hW).2.2.2.2.1)) hS ?_
    try simp only [Act.put, List.setIfInBounds_toArray, List.set_cons_zero, List.set_cons_succ]
    refine wpAnyZ_take (oi := ⟨_, _, _, _, _, _⟩) (i := 6) (v := .pointer (some ⟨w.heap.size, 2, none⟩)) rfl (by kernel_rfl) (fun _ _ _ h => h) (Or.inl ⟨by rfl, fun _ _ => by go_simp⟩) hS ?_
    try simp only [Act.put, List.setIfInBounds_toArray, List.set_cons_zero, List.set_cons_succ]
    refine wpAnyZ_take (oi := ⟨_, _, _, _, _, _⟩) (i := 7) (v := Sx x.name) rfl (by kernel_rfl) (fun _ _ _ h => h) (yif_load rfl 9 (.tmp 29) rfl _ _ rfl (fun W hW => load_one (fun w => by kernel_rfl) (HB.c hW).2.2.1)) hS ?_
    try simp only [Act.put, List.setIfInBounds_toArray, List.set_cons_zero, List.set_cons_succ]
    refine wpAnyZ_take (oi := ⟨_, _, _, _, _, _⟩) (i := 8) (v := .int .i64 (n : Int)) rfl (by kernel_rfl) (fun _ _ _ h => h) (Or.inl ⟨by rfl, fun _ _ => by rw [← HNN.out]; exact ex_lenX (.tmp 30) rfl _ rfl⟩) hS ?_
    try simp only [Act.put, List.setIfInBounds_toArray, List.set_cons_zero, List.set_cons_succ]
    refine wpAnyZ_take (oi := ⟨_, _, _, _, _, _⟩) (i := 9) (v := .int .u8 (n : Int)) rfl (by kernel_rfl) (fun _ _ _ h => h) (Or.inl ⟨by rfl, fun _ _ => by go_simp; rw [IntKind.wrap_u8]; omega⟩) hS ?_
    try simp only [Act.put, List.setIfInBounds_toArray, List.set_cons_zero, List.set_cons_succ]
    refine wpAnyZ_one (i := 5) (by kernel_rfl) ?_
    refine op_call (om := ⟨_, _, _, _, _, _⟩) (fn := 37) (args := #[.bool x.imm, .bool x.hid]) (R := fun u' w' => u' = .int .u8 (mk : Int) ∧ w5 = w') rfl rfl (by go_simp)
      ((MKS.out w5).mono fun e w' y => ⟨_, y.1, rfl, y.2⟩) _ _ rfl rfl ?_
    rintro u' _ ⟨rfl, rfl⟩
    refine ⟨.inr hS, ?_⟩
    try simp only [Act.put, List.setIfInBounds_toArray, List.set_cons_zero, List.set_cons_succ]
    refine wpAnyZ_take (oi := ⟨_, _, _, _, _, _⟩) (i := 10) (v := .int .u8 (mb.toNat : Int)) rfl (by kernel_rfl) (fun _ _ _ h => h) (Or.inl ⟨by rfl, fun _ _ => by go_simp⟩) hS ?_
    try simp only [Act.put, List.setIfInBounds_toArray, List.set_cons_zero, List.set_cons_succ]
    refine wpAnyZ_take (oi := ⟨_, _, _, _, _, _⟩) (i := 11) (v := .pointer (some ⟨g, 8, none⟩)) rfl (by kernel_rfl) (fun _ _ _ h => h) (Or.inl ⟨by rfl, fun _ _ => by go_simp; intro hz8; omega⟩) hS ?_
    try simp only [Act.put, List.setIfInBounds_toArray, List.set_cons_zero, List.set_cons_succ]
    obtain ⟨g', e', _, _, hc8, hf8⟩ := Own8.at_ own4 (k := 8) (by rw [HD.out]; omega)
    cases e'
    have own6 := Own8.set_ own4 8 mb
    have k6 : Keeps (· = g) w5 (w5.setCell ⟨g, 8, none⟩ (B8 mb)) := Keeps.setCell _ _ _ _ rfl
    have K6 := Lib.hid (Keeps.thru (F'' := fun _ => False) K5.out k6 (fun _ _ f => f) fun i hi e => by omega)
    replace hS := HB.keep hS k6 (by show ¬ w.heap.size = g; omega)
    refine wpAnyZ_one (i := 12) (by kernel_rfl) ?_
    refine wpOpS (om := ⟨_, _, _, _, _, _⟩) (w' := w5.setCell ⟨g, 8, none⟩ (B8 mb)) rfl rfl (by go_simp) ?_
    generalize w5.setCell ⟨g, 8, none⟩ (B8 mb) = w6 at *
    clear own4 k6 K5 hc8 hf8
    refine ⟨.inr hS, ?_⟩
    try simp only [Act.put, List.setIfInBounds_toArray, List.set_cons_zero, List.set_cons_succ]
    refine wpAnyZ_done (by kernel_rfl) ?_ _
    try simp only [Act.put, List.setIfInBounds_toArray, List.set_cons_zero, List.set_cons_succ]
    go_wp2_with fail
    refine wp_region_any (by kernel_rfl) (wpAny_of_last (S := fun W => HB W w.heap.size x) (z := 5) _ _ _ _ ?_)
    change wpAnyZ _ _ _ _ _ _ _ _ _ w6.drew
    replace hS := HB.keep hS (Keeps.drew (fun _ => False) w6) fun f => f
    replace own6 := own6.keeps' (Keeps.drew (fun _ => False) w6) fun f => f
    have K7 := Lib.hid (K6.out.trans (Keeps.drew _ w6))
    clear K6
    generalize w6.drew = w7 at *
    have l6 : (hdl.set 8 mb).length = z := by rw [List.length_set, HD.out]
    have nb := HNN.out
    refine wpAnyZ_take (oi := ⟨_, _, _, _, _, _⟩) (i := 0) (v := .slice (some ⟨g, 0, none⟩) z z) rfl (by kernel_rfl) (fun _ _ _ h => h) (Or.inl ⟨by rfl, fun _ _ => rfl⟩) hS ?_
    try simp only [Act.put, List.setIfInBounds_toArray, List.set_cons_zero, List.set_cons_succ]
    refine wpAnyZ_take (oi := ⟨_, _, _, _, _, _⟩) (i := 1) (v := .slice (some ⟨g, 9, none⟩) (z - 9) (z - 9)) rfl (by kernel_rfl) (fun _ _ _ h => h) (Or.inl ⟨by rfl, fun _ _ => by go_simp; rw [if_pos (show (9 : Int) ≤ (z : Int) by omega), if_neg (show ¬ z = 9 by omega)]⟩) hS ?_
    try simp only [Act.put, List.setIfInBounds_toArray, List.set_cons_zero, List.set_cons_succ]
    refine wpAnyZ_take (oi := ⟨_, _, _, _, _, _⟩) (i := 2) (v := .pointer (some ⟨w.heap.size, 2, none⟩)) rfl (by kernel_rfl) (fun _ _ _ h => h) (Or.inl ⟨by rfl, fun _ _ => by go_simp⟩) hS ?_
    try simp only [Act.put, List.setIfInBounds_toArray, List.set_cons_zero, List.set_cons_succ]
    refine wpAnyZ_take (oi := ⟨_, _, _, _, _, _⟩) (i := 3) (v := Sx x.name) rfl (by kernel_rfl) (fun _ _ _ h => h) (yif_load rfl 9 (.tmp 37) rfl _ _ rfl (fun W hW => load_one (fun w => by kernel_rfl) (HB.c hW).2.2.1)) hS ?_
    try simp only [Act.put, List.setIfInBounds_toArray, List.set_cons_zero, List.set_cons_succ]
    have cp := fun ty => copy_str (P := Try.prog) w7 22 9 ty 5 Try.underlying22 Try.size8 g 9 (z - 9) (z - 9) x.name (by omega) (Own8.there own6 9 _ (by omega))
    have own8 := Own8.sets x.name _ 9 w7 own6
    have k8 := keeps_sets w7 g 9 (x.name.map B8)
    have K8 := Lib.hid (Keeps.thru (F'' := fun _ => False) K7.out k8 (fun _ _ f => f) fun i hi e => by omega)
    replace hS := HB.keep hS k8 (by show ¬ w.heap.size = g; omega)
    refine wpAnyZ_one (i := 4) (by kernel_rfl) ?_
    refine wpOp_run (om := ⟨_, _, _, _, _, _⟩) (u := goInt x.name.length) (w' := w7.setCells g 9 (x.name.map B8)) rfl rfl (ex_copyB _ _ 22 9 rfl _ (cp _)) ?_
    generalize w7.setCells g 9 (x.name.map B8) = w8 at *
    clear cp own6 k8 K7
    refine ⟨.inr hS, ?_⟩
    try simp only [Act.put, List.setIfInBounds_toArray, List.set_cons_zero, List.set_cons_succ]
    refine wpAnyZ_done (by kernel_rfl) ?_ _
    try simp only [Act.put, List.setIfInBounds_toArray, List.set_cons_zero, List.set_cons_succ]
    have FIN := Lib.hid (YES.out w8 g z z rfl own8 K8.out)
    clear own8 K8 YES hS
    go_wp2_with fail
    go_ret2
    exact FIN.out
  · have NO := Lib.hid (fun (w' : World) => GivesH.no (w := w) (w' := w') (x := x) rfl ct)
    have ctd : (thrV x.name != 0) = true := by simpa using ct
    generalize thrV x.name = t at *
    clear ct
    obtain ⟨c0, c1, c2, c3, c4, c5⟩ := B.out.c
    go_enter Try.func17, Try.ntmps17
    go_wp2_with (first
      | ((with_reducible refine at_ (op := .box 29 (.tmp 0)) ?_); refine wpList_val rfl _ (ex_box 29 (.tmp 0) rfl _ _ rfl BXH.out) ?_)
      | ((with_reducible refine at_ (op := .load 9 (.tmp 7)) ?_); refine wpList_val rfl _ (ex_load 9 (.tmp 7) rfl _ _ rfl (load_one (fun w => by kernel_rfl) c2)) ?_)
      | fail)
    refine (WR.out wA).mono ?_
    rintro e w2 ⟨rfl, rfl⟩
    have FIN := Lib.hid (NO.out wA K.out)
    clear WR NO K B
    go_wp2_with fail
    go_ret2
    exact FIN.out
end Go.Proofs.Ythmlhjjcihibnaa.Hh
