/-
  HhBy2
-/
import Derived.Test.YthmlhjjcihibnaaHhBy1
namespace Go.Proofs.Ythmlhjjcihibnaa.Hh
open Go.RowKit Go.Maps Mm Sk
set_option linter.unusedVariables false
set_option linter.unusedSimpArgs false
set_option maxRecDepth 100000 in
set_option maxHeartbeats 800000 in
theorem hbytes_doc (x : HV) (w : World) : Calls Try.prog 18 #[hag x] w (GivesH w x) := by
  have B := Lib.hid (HB.boxed w x)
  have K := Lib.hid (Keeps.alloc (fun _ => False) w (.cells (hcs x).toArray 29))
  have AS : w.heap.size < (w.alloc (.cells (hcs x).toArray 29)).heap.size := by simp
  generalize hwA : w.alloc (.cells (hcs x).toArray 29) = wA at *
  have BXH := Lib.hid (show (Instr.box 29 (hag x)).run Try.prog w = .ok (.pointer (some ⟨w.heap.size, 0, none⟩)) wA from by rw [← hwA]; exact boxH w x)
  clear hwA
  obtain ⟨n, hnn⟩ : ∃ n, x.name.length = n := ⟨_, rfl⟩
  have HNN := Lib.hid hnn
  by_cases hn0 : x.name = []
  · have d0 : decide (x.name = []) = true := decide_eq_true hn0
    have FIN := Lib.hid (GivesH.no (x := x) (t := -16) (by rw [hn0]; exact thr_nil) (by decide) K.out)
    obtain ⟨c0, c1, c2, c3, c4, c5⟩ := B.out.c
    clear B K hn0 hnn
    go_enter Try.func18, Try.ntmps18
    go_wp2_with (first
      | ((with_reducible refine at_ (op := .box 29 (.tmp 0)) ?_); refine wpList_val rfl _ (ex_box 29 (.tmp 0) rfl _ _ rfl BXH.out) ?_)
      | ((with_reducible refine at_ (op := .load 9 (.tmp 6)) ?_); refine wpList_val rfl _ (ex_load 9 (.tmp 6) rfl _ _ rfl (load_one (fun w => by kernel_rfl) c2)) ?_)
      | ((with_reducible refine at_ (op := .binOp .eql 9 (.tmp 6) (.const (.string ⟨#[]⟩)) 9) ?_); refine wpList_val rfl _ (ex_eqlX (.tmp 6) (.const (.string ⟨#[]⟩)) rfl _ _ rfl rfl) ?_; rw [d0])
      | fail)
    go_ret2
    exact FIN.out
  have d0 : decide (x.name = []) = false := decide_eq_false hn0
  by_cases hb : 31 < n
  · have FIN := Lib.hid (GivesH.no (x := x) (t := -19) (thr_long (by rw [hnn]; exact hb)) (by decide) K.out)
    obtain ⟨c0, c1, c2, c3, c4, c5⟩ := B.out.c
    have d1 : decide ((31 : Int) < (n : Int)) = true := decide_eq_true (by omega)
    have d1' : decide (31 < n) = true := decide_eq_true hb
    clear B K hn0 hnn hb
    go_enter Try.func18, Try.ntmps18
    go_wp2_with (first
      | ((with_reducible refine at_ (op := .box 29 (.tmp 0)) ?_); refine wpList_val rfl _ (ex_box 29 (.tmp 0) rfl _ _ rfl BXH.out) ?_)
      | ((with_reducible refine at_ (op := .load 9 (.tmp 6)) ?_); refine wpList_val rfl _ (ex_load 9 (.tmp 6) rfl _ _ rfl (load_one (fun w => by kernel_rfl) c2)) ?_)
      | ((with_reducible refine at_ (op := .binOp .eql 9 (.tmp 6) (.const (.string ⟨#[]⟩)) 9) ?_); refine wpList_val rfl _ (ex_eqlX (.tmp 6) (.const (.string ⟨#[]⟩)) rfl _ _ rfl rfl) ?_; rw [d0])
      | ((with_reducible refine at_ (op := .load 9 (.tmp 9)) ?_); refine wpList_val rfl _ (ex_load 9 (.tmp 9) rfl _ _ rfl (load_one (fun w => by kernel_rfl) c2)) ?_)
      | ((with_reducible refine at_ (op := .call { callee := .builtin .len, args := #[.tmp 9], argTypes := #[9] }) ?_); refine wpList_val rfl _ (ex_lenX (.tmp 9) rfl _ rfl) ?_; rw [HNN.out])
      | fail)
    go_ret2
    exact FIN.out
  have hn : n ≤ 31 := by omega
  have ct : thrV x.name = 0 := thr_ok hn0 (by omega)
  have n1 : 1 ≤ n := by rw [← hnn]; exact List.length_pos_iff.2 hn0
  have d1 : decide ((31 : Int) < (n : Int)) = false := decide_eq_false (by omega)
  have d1' : decide (31 < n) = false := decide_eq_false hb
  have YES := Lib.hid (fun (w' : World) (g n c : Nat) (e : n = sizeN x.name) => GivesH.yes (w := w) (w' := w') (x := x) (g := g) (n := n) (c := c) ct e)
  have sb := sizeN_bd x.name (by omega)
  have AL := Lib.hid (fun w' => ralign_any (9 + (x.name.length : Int)) w')
  rw [align_size x.name (by omega)] at AL
  have hd := headL_len x.link x.name
  have PC : ∀ w' (g : Nat) (_ : Row8 w' g 5 (List.replicate (sizeN x.name) 0)), _ := fun w' (g : Nat) (r : Row8 w' g 5 (List.replicate (sizeN x.name) 0)) => refPutCell_own (some ⟨g, 0, none⟩) (List.replicate (sizeN x.name) 0) (sizeN x.name) 0 x.link w' r.br (by simp; omega) (by omega) (by omega)
  rw [List.length_replicate, show putL (List.replicate (sizeN x.name) 0) 0 (IntKind.u64.wrap x.link).toNat 8 = headL x.link x.name from rfl] at PC
  have PCH := Lib.hid PC
  clear PC
  have mbv := markB_val (n := x.name.length) (by omega) x.imm x.hid
  have MKS := Lib.hid (fun w' => rmark_any n hn x.imm x.hid w')
  unfold bytesL at YES
  rw [hnn] at YES sb AL mbv
  generalize headL x.link x.name = hdl at *
  generalize sizeN x.name = z at *
  generalize markB n x.imm x.hid = mb at *
  rw [← mbv] at MKS
  have mub := mb.toNat_lt
  have HD := Lib.hid hd
  clear ct hn0 hnn mbv hd hb
  obtain ⟨c0, c1, c2, c3, c4, c5⟩ := B.out.c
  go_enter Try.func18, Try.ntmps18
  go_wp2_with (first
    | ((with_reducible refine at_ (op := .box 29 (.tmp 0)) ?_); refine wpList_val rfl _ (ex_box 29 (.tmp 0) rfl _ _ rfl BXH.out) ?_)
    | ((with_reducible refine at_ (op := .load 9 (.tmp 6)) ?_); refine wpList_val rfl _ (ex_load 9 (.tmp 6) rfl _ _ rfl (load_one (fun w => by kernel_rfl) c2)) ?_)
    | ((with_reducible refine at_ (op := .binOp .eql 9 (.tmp 6) (.const (.string ⟨#[]⟩)) 9) ?_); refine wpList_val rfl _ (ex_eqlX (.tmp 6) (.const (.string ⟨#[]⟩)) rfl _ _ rfl rfl) ?_; rw [d0])
    | ((with_reducible refine at_ (op := .load 9 (.tmp 9)) ?_); refine wpList_val rfl _ (ex_load 9 (.tmp 9) rfl _ _ rfl (load_one (fun w => by kernel_rfl) c2)) ?_)
    | ((with_reducible refine at_ (op := .call { callee := .builtin .len, args := #[.tmp 9], argTypes := #[9] }) ?_); refine wpList_val rfl _ (ex_lenX (.tmp 9) rfl _ rfl) ?_; rw [HNN.out])
    | fail)
  refine wp_region_any (by kernel_rfl) (wpAny_of_last (S := fun W => HB W w.heap.size x) (z := 10) _ _ _ _ ?_)
  change wpAnyZ _ _ _ _ _ _ _ _ _ wA.drew
  have hS : HB wA.drew w.heap.size x := B.out.keep (Keeps.drew (fun _ => False) wA) fun f => f
  have K2 := Lib.hid (K.out.trans (Keeps.drew _ wA))
  have AS2 : w.heap.size < wA.drew.heap.size := AS
  generalize wA.drew = w2 at *
  clear K B AS c0 c1 c2 c3 c4 c5
  refine wpAnyZ_take (oi := ⟨_, _, _, _, _, _⟩) (i := 0) (v := .pointer (some ⟨w.heap.size, 2, none⟩)) rfl (by kernel_rfl) (fun _ _ _ h => h) (Or.inl ⟨by rfl, fun _ _ => by go_simp⟩) hS ?_
  try simp only [Act.put, List.setIfInBounds_toArray, List.set_cons_zero, List.set_cons_succ]
  refine wpAnyZ_take (oi := ⟨_, _, _, _, _, _⟩) (i := 1) (v := Sx x.name) rfl (by kernel_rfl) (fun _ _ _ h => h) (yif_load rfl 9 (.tmp 12) rfl _ _ rfl (fun W hW => load_one (fun w => by kernel_rfl) (HB.c hW).2.2.1)) hS ?_
  try simp only [Act.put, List.setIfInBounds_toArray, List.set_cons_zero, List.set_cons_succ]
  refine wpAnyZ_take (oi := ⟨_, _, _, _, _, _⟩) (i := 2) (v := .int .i64 (n : Int)) rfl (by kernel_rfl) (fun _ _ _ h => h) (Or.inl ⟨by rfl, fun _ _ => by rw [← HNN.out]; exact ex_lenX (.tmp 13) rfl _ rfl⟩) hS ?_
  try simp only [Act.put, List.setIfInBounds_toArray, List.set_cons_zero, List.set_cons_succ]
  refine wpAnyZ_take (oi := ⟨_, _, _, _, _, _⟩) (i := 3) (v := .int .i64 (9 + (n : Int))) rfl (by kernel_rfl) (fun _ _ _ h => h) (Or.inl ⟨by rfl, fun _ _ => by go_simp; exact IntWalk.i64_in _ (by omega)⟩) hS ?_
  try simp only [Act.put, List.setIfInBounds_toArray, List.set_cons_zero, List.set_cons_succ]
  refine wpAnyZ_take (oi := ⟨_, _, _, _, _, _⟩) (i := 6) (v := .pointer (some ⟨w.heap.size, 1, none⟩)) rfl (by kernel_rfl) (fun _ _ _ h => h) (Or.inl ⟨by rfl, fun _ _ => by go_simp⟩) hS ?_
  try simp only [Act.put, List.setIfInBounds_toArray, List.set_cons_zero, List.set_cons_succ]
  refine wpAnyZ_take (oi := ⟨_, _, _, _, _, _⟩) (i := 7) (v := .int .i64 x.link) rfl (by kernel_rfl) (fun _ _ _ h => h) (yif_load rfl 2 (.tmp 18) rfl _ _ rfl (fun W hW => load_one (fun w => by kernel_rfl) (HB.c hW).2.1)) hS ?_
  try simp only [Act.put, List.setIfInBounds_toArray, List.set_cons_zero, List.set_cons_succ]
  refine wpAnyZ_one (i := 4) (by kernel_rfl) ?_
  refine op_call (om := ⟨_, _, _, _, _, _⟩) (fn := 26) (args := #[.int .i64 (9 + (n : Int))]) (R := fun u' w' => u' = .int .i64 (z : Int) ∧ w2 = w') rfl rfl (by go_simp)
    ((AL.out w2).mono fun e w' y => ⟨_, y.1, rfl, y.2⟩) _ _ rfl rfl ?_
  rintro u' _ ⟨rfl, rfl⟩
  refine ⟨.inr hS, ?_⟩
  try simp only [Act.put, List.setIfInBounds_toArray, List.set_cons_zero, List.set_cons_succ]
  have mk8 := make8 z (by omega) w2
  have r3 := Row8.made w2 z 5
  have k3 : Keeps (fun _ => False) w2 (w2.alloc (.cells (madeCells #[.int .u8 0] z) 5)) := Keeps.alloc _ _ _
  refine wpAnyZ_one (i := 5) (by kernel_rfl) ?_
  refine wpOp_run (om := ⟨_, _, _, _, _, _⟩) (u := .slice (some ⟨w2.heap.size, 0, none⟩) z z) (w' := w2.alloc (.cells (madeCells #[.int .u8 0] z) 5)) rfl rfl (ex_makeX 22 (.tmp 16) (.tmp 16) rfl _ _ _ rfl rfl mk8) ?_
  replace hS := HB.keep hS k3 fun f => f
  have K3 := Lib.hid (K2.out.trans k3)
  generalize w2.alloc (.cells (madeCells #[.int .u8 0] z) 5) = w3 at *
  refine ⟨.inr hS, ?_⟩
  try simp only [Act.put, List.setIfInBounds_toArray, List.set_cons_zero, List.set_cons_succ]
  refine wpAnyZ_one (i := 8) (by kernel_rfl) ?_
  refine op_call (om := ⟨_, _, _, _, _, _⟩) (fn := 38) (args := #[.slice (some ⟨w2.heap.size, 0, none⟩) z z, .int .i64 0, .int .i64 x.link]) (R := fun u' w' => ∃ g c, u' = .slice (some ⟨g, 0, none⟩) z c ∧ w3.heap.size ≤ g ∧ Own8 w' w3.heap.size 5 (some ⟨g, 0, none⟩) c hdl ∧ Below w3.heap.size w3 w') rfl rfl (by go_simp)
    ((PCH.out w3 _ r3).mono fun e w' y => by
      obtain ⟨R, c, e1, o, y⟩ := y
      obtain ⟨g, rfl, hg, -⟩ := Own8.at_ o (k := 0) (by rw [HD.out]; omega)
      rw [HD.out] at e1
      exact ⟨_, e1, g, c, rfl, hg, o, y⟩) _ _ rfl rfl ?_
  rintro u' w4 ⟨g, c, rfl, hg, o4, b4⟩
  have k4 : Keeps (fun _ => False) w3 w4 := Keeps.below b4 _ fun i h1 h2 => by omega
  replace hS := HB.keep hS k4 fun f => f
  have own4 := o4.low (B' := w.heap.size) (by have := K3.out.size; omega)
  have hgw : w.heap.size < g := by have := k3.size; omega
  have K4 := Lib.hid (K3.out.trans k4)
  clear r3 k3 mk8 K2 K3 k4 b4 hg AS2 PCH o4
  refine ⟨.inr hS, ?_⟩
  try simp only [Act.put, List.setIfInBounds_toArray, List.set_cons_zero, List.set_cons_succ]
  refine wpAnyZ_one (i := 9) (by kernel_rfl) ?_
  refine wpOp_run (om := ⟨_, _, _, _, _, _⟩) (u := .slice (some ⟨g, 0, none⟩) z c) (w' := w4) rfl rfl (by go_simp) ?_
  refine ⟨.inr hS, ?_⟩
  try simp only [Act.put, List.setIfInBounds_toArray, List.set_cons_zero, List.set_cons_succ]
  refine wpAnyZ_done (by kernel_rfl) ?_ _
  try simp only [Act.put, List.setIfInBounds_toArray, List.set_cons_zero, List.set_cons_succ]
  have cz : z ≤ c := by have := Own8.cap_le own4; rw [HD.out] at this; exact this
  obtain ⟨g', e', _, _, hc8, hf8⟩ := Own8.at_ own4 (k := 8) (by rw [HD.out]; omega)
  cases e'
  obtain ⟨c0, c1, c2, c3, c4, c5⟩ := HB.c hS
  have HS := Lib.hid hS
  have OWN := Lib.hid own4
  clear hS own4
  go_wp2_with (first
    | ((with_reducible refine at_ (op := .load 9 (.tmp 23)) ?_); refine wpList_val rfl _ (ex_load 9 (.tmp 23) rfl _ _ rfl (load_one (fun w => by kernel_rfl) c2)) ?_)
    | ((with_reducible refine at_ (op := .call { callee := .builtin .len, args := #[.tmp 23], argTypes := #[9] }) ?_); refine wpList_val rfl _ (ex_lenX (.tmp 23) rfl _ rfl) ?_; rw [HNN.out])
    | fail)
  refine (MKS.out w4).mono ?_
  rintro e' w5 ⟨rfl, rfl⟩
  have own6 := Own8.set_ OWN.out 8 mb
  have k6 : Keeps (· = g) w4 (w4.setCell ⟨g, 8, none⟩ (.int .u8 (mb.toNat : Int))) := Keeps.setCell _ _ _ _ rfl
  have K6 := Lib.hid (Keeps.thru (F'' := fun _ => False) K4.out k6 (fun _ _ f => f) fun i hi e => by omega)
  have hS := HB.keep HS.out k6 (by show ¬ w.heap.size = g; omega)
  have O6 : Hid (Own8 (w4.setCell ⟨g, 8, none⟩ (.int .u8 (mb.toNat : Int))) w.heap.size 5 (some ⟨g, 0, none⟩) c (hdl.set 8 mb)) := Lib.hid own6
  have H6 := Lib.hid hS
  clear own6 k6 hS OWN HS c0 c1 c2 c3 c4 c5 K4 MKS
  generalize hdl.getD 8 0 = u8 at *
  go_wp2_with fail
  generalize w4.setCell ⟨g, 8, none⟩ (.int .u8 (mb.toNat : Int)) = w6 at *
  have hS := H6.out
  have own6 := O6.out
  clear hc8 hf8 H6 O6
  refine wp_region_any (by kernel_rfl) (wpAny_of_last (S := fun W => HB W w.heap.size x) (z := 5) _ _ _ _ ?_)
  change wpAnyZ _ _ _ _ _ _ _ _ _ w6.drew
  replace hS := HB.keep hS (Keeps.drew (fun _ => False) w6) fun f => f
  replace own6 := own6.keeps' (Keeps.drew (fun _ => False) w6) fun f => f
  have K7 := Lib.hid (K6.out.trans (Keeps.drew _ w6))
  clear K6
  generalize w6.drew = w7 at *
  have l6 : (hdl.set 8 mb).length = z := by rw [List.length_set, HD.out]
  have nb := HNN.out
  refine wpAnyZ_take (oi := ⟨_, _, _, _, _, _⟩) (i := 0) (v := .slice (some ⟨g, 0, none⟩) z c) rfl (by kernel_rfl) (fun _ _ _ h => h) (Or.inl ⟨by rfl, fun _ _ => rfl⟩) hS ?_
  try simp only [Act.put, List.setIfInBounds_toArray, List.set_cons_zero, List.set_cons_succ]
  refine wpAnyZ_take (oi := ⟨_, _, _, _, _, _⟩) (i := 1) (v := .slice (some ⟨g, 9, none⟩) (z - 9) (c - 9)) rfl (by kernel_rfl) (fun _ _ _ h => h) (Or.inl ⟨by rfl, fun _ _ => by go_simp; rw [if_pos (show (9 : Int) ≤ (z : Int) by omega), if_neg (show ¬ c = 9 by omega)]⟩) hS ?_
  try simp only [Act.put, List.setIfInBounds_toArray, List.set_cons_zero, List.set_cons_succ]
  refine wpAnyZ_take (oi := ⟨_, _, _, _, _, _⟩) (i := 2) (v := .pointer (some ⟨w.heap.size, 2, none⟩)) rfl (by kernel_rfl) (fun _ _ _ h => h) (Or.inl ⟨by rfl, fun _ _ => by go_simp⟩) hS ?_
  try simp only [Act.put, List.setIfInBounds_toArray, List.set_cons_zero, List.set_cons_succ]
  refine wpAnyZ_take (oi := ⟨_, _, _, _, _, _⟩) (i := 3) (v := Sx x.name) rfl (by kernel_rfl) (fun _ _ _ h => h) (yif_load rfl 9 (.tmp 33) rfl _ _ rfl (fun W hW => load_one (fun w => by kernel_rfl) (HB.c hW).2.2.1)) hS ?_
  try simp only [Act.put, List.setIfInBounds_toArray, List.set_cons_zero, List.set_cons_succ]
  have cp := fun ty => copy_str (P := Try.prog) w7 22 9 ty 5 Try.underlying22 Try.size8 g 9 (z - 9) (c - 9) x.name (by omega) (Own8.there own6 9 _ (by omega))
  have own8 := Own8.sets x.name _ 9 w7 own6
  have k8 := keeps_sets w7 g 9 (x.name.map B8)
  have K8 := Lib.hid (Keeps.thru (F'' := fun _ => False) K7.out k8 (fun _ _ f => f) fun i hi e => by omega)
  replace hS := HB.keep hS k8 (by show ¬ w.heap.size = g; omega)
  refine wpAnyZ_one (i := 4) (by kernel_rfl) ?_
  refine wpOp_run (om := ⟨_, _, _, _, _, _⟩) (u := goInt x.name.length) (w' := w7.setCells g 9 (x.name.map B8)) rfl rfl (ex_copyB _ _ 22 9 rfl _ (cp _)) ?_
  generalize w7.setCells g 9 (x.name.map B8) = w8 at *
  clear cp own6 k8 K7
  refine ⟨.inr hS, ?_⟩
  try simp only [Act.put, List.setIfInBounds_toArray, List.set_cons_zero, List.set_cons_succ]
  refine wpAnyZ_done (by kernel_rfl) ?_ _
  try simp only [Act.put, List.setIfInBounds_toArray, List.set_cons_zero, List.set_cons_succ]
  have FIN := Lib.hid (YES.out w8 g z c rfl own8 K8.out)
  clear own8 K8 YES hS
  go_wp2_with fail
  go_ret2
  exact FIN.out
end Go.Proofs.Ythmlhjjcihibnaa.Hh
