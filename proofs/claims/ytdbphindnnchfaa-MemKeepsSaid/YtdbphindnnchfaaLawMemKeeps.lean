/-
  LawMemKeeps
-/
import Derived.Test.YtdbphindnnchfaaGA
import Derived.ChangeOld
import Derived.Below
import Derived.Deep.QuietTactic
import Derived.BigQuiet
import Derived.WalkSmall
import Derived.Test.YtdbphindnnchfaaMmTail
namespace Go.Proofs.Ytdbphindnnchfaa.memKeeps
open Go.ChangeShapes Go.WideShapes Go.ChangeAt Go.RowKit Mm Go.Maps
set_option linter.unusedVariables false

theorem own : ownKnob Try.prog.godebug = none := by kernel_rfl
theorem laidOut : laidOutB Try.prog = true := by kernel_rfl

theorem cell_yes (a : Int) (h : pcT a = 0) : 0 ≤ a ∧ a ≤ 8184 ∧ throwT a 0 8192 = 0 := by
  unfold pcT at h
  split at h
  · rename_i e
    subst e
    exact ⟨by omega, by omega, by decide⟩
  · unfold throwT at h ⊢
    by_cases c : a < 768 ∨ 5632 - 8 < a
    · rw [if_pos c] at h; omega
    · rw [if_neg c] at h
      refine ⟨by omega, by omega, ?_⟩
      rw [if_neg (by omega)]
      by_cases c2 : ¬ a.tmod 8 = 0
      · rw [if_pos c2] at h; omega
      · rw [if_neg c2]

set_option maxRecDepth 100000 in
set_option maxHeartbeats 1000000 in
theorem walk (A0 : Option Addr) (x0 : List UInt8) (c0 : Nat) (a1 : Int) (a2 : Int) (w : World) (b0 : BR w w.heap.size A0 x0) (l0 : x0.length ≤ 140737488351232) (w1 : (Lit.int .i64 a1).wf = true) (w2 : (Lit.int .i64 a2).wf = true) :
    Calls Try.prog 4 #[.slice A0 x0.length c0, .int .i64 a1, .int .i64 a2] w fun e w' => e = .returned (.bool true) ∧ Below w.heap.size w w' := by
  have n1 := i64_of_wf w1
  have n2 := i64_of_wf w2
  clear w1 w2
  have bx : ∀ W, Below w.heap.size w W → BR W W.heap.size A0 x0 := fun W hb => (b0.below hb).more hb.size
  have BX := Lib.hid bx
  clear bx b0
  by_cases hl : 9000 < x0.length
  · go_enter Try.func4, Try.ntmps4
    go_wp2_with fail
    refine (memawake_any _).mono ?_
    rintro e u1 ⟨rfl, b1⟩
    go_wp2_with fail
    go_ret
    exact ⟨rfl, b1⟩
  go_enter Try.func4, Try.ntmps4
  go_wp2_with fail
  refine (memawake_any _).mono ?_
  rintro e u1 ⟨rfl, b1⟩
  go_wp2_with fail
  refine (mflat_any A0 x0 c0 u1 (BX.out _ b1)).mono ?_
  rintro e u2 ⟨p, gb, mb, rfl, p1, p2, p3, hm, k2⟩
  have bB2 := b1.trans ((below_false k2).mono b1.size)
  have B2 := Lib.hid bB2
  have HX := Lib.hid (BX.out _ bB2)
  clear bB2 BX
  go_wp2_with fail
  refine (rflat_any A0 x0 c0 u2 HX.out).mono ?_
  rintro e u3 ⟨q, rfl, hr, k3⟩
  have hp := Pair.start (L := w.heap.size) b1.size p1 p2 p3 hm k2 hr k3
  have HB := Lib.hid (Below.and B2.out k3 (fun _ h => h.elim) (Nat.le_refl _))
  have zl := fillL_len x0
  clear hm hr k2 k3 p1 p2 p3 B2 HX
  generalize u2.heap.size = mi at *
  generalize fillL x0 = G at *
  go_wp2_with fail
  refine (hp.code fun gb mb h _ _ _ _ => mputcell_at h a1 a2 n1.1 n1.2).mono ?_
  rintro e u4 ⟨rfl, hp4, k4⟩
  have HB4 := Lib.hid (Below.and HB.out k4 (fun _ h => h.1) (Nat.le_refl _))
  clear HB k4 hp
  unfold pcM at hp4
  by_cases ht : pcT a1 = 0
  · obtain ⟨a0, a8, tt⟩ := cell_yes a1 ht
    rw [if_pos ht] at hp4
    rw [ht]
    have cv : cellV (setM G a1 a2) a1 = a2 := by
      unfold cellV
      rw [if_pos tt]
      exact back_cel G a1 a2 a0 (by omega) n2.1 n2.2
    have CV := Lib.hid cv
    have TT := Lib.hid tt
    clear cv tt ht
    go_wp2_with fail
    refine (hp4.code fun gb mb h _ _ _ _ => mcell_at h a1 n1.1 n1.2).mono ?_
    rintro e u5 ⟨rfl, hp5, k5⟩
    rw [CV.out, TT.out]
    have HB5 := Lib.hid (Below.and HB4.out k5 (fun _ h => h.1) (Nat.le_refl _))
    clear HB4 k5 hp4
    go_wp2_with fail
    refine (hp5.doc fun b c d e h _ _ hs => rset_at h hs a1 a2 n1.1 n1.2).mono ?_
    rintro e u6 ⟨rfl, hp6, k6⟩
    have HB := Lib.hid (Below.and HB5.out k6 (fun _ h => h.1) (Nat.le_refl _))
    have HP := Lib.hid hp6
    clear HB5 k6 hp5 hp6 CV TT
    generalize setM G a1 a2 = M at *
    go_wp2_with fail
    obtain ⟨gb, mb, hmem, lo1, lo2, lo0, lo3, lo4, lo5⟩ := HP.out.mem
    obtain ⟨rb, rc, rd, re, href, _⟩ := HP.out.ref
    have HREF := Lib.hid href
    have HMEM := Lib.hid hmem
    have HLT := Lib.hid (show w.heap.size ≤ mb ∧ mb < mi from ⟨lo2, lo5⟩)
    clear hmem href lo0 lo1 lo2 lo3 lo4 lo5 HP
    refine wp_region_held (S := fun W : World => RefH W mi q rb rc rd re M G) (by kernel_rfl) ?_
    change wpAnyH _ _ _ _ _ _ _ _ u6.drew
    have kd : Keeps (fun _ => False) u6 u6.drew := Keeps.drew _ _
    have HS : (fun W : World => RefH W mi q rb rc rd re M G) u6.drew := HREF.out.keep kd (fun _ _ _ h => h)
    have hmT := HMEM.out.keep kd (fun h => h) (fun h => h) (fun h => h)
    have HBT := Lib.hid (Below.and HB.out kd (fun _ h => h.elim) (Nat.le_refl _))
    generalize u6.drew = wT at *
    refine wpAnyH_take (oi := ⟨_, _, _, _, _, _⟩) (i := 3) (v := .pointer (some ⟨q, 0, none⟩)) rfl (by kernel_rfl) (by kernel_rfl) (by kernel_rfl) (fun _ _ _ h => h) (Or.inl ⟨by rfl, fun _ _ => rfl⟩) HS ?_
    simp only [Act.put, List.setIfInBounds_toArray, List.set_cons_zero, List.set_cons_succ]
    refine wpAnyH_take (oi := ⟨_, _, _, _, _, _⟩) (i := 4) (v := .pointer (some ⟨q, 0, none⟩)) rfl (by kernel_rfl) (by kernel_rfl) (by kernel_rfl) (fun _ _ _ h => h) (Or.inl ⟨by rfl, fun _ _ => rfl⟩) HS ?_
    simp only [Act.put, List.setIfInBounds_toArray, List.set_cons_zero, List.set_cons_succ]
    refine wpAnyH_take (oi := ⟨_, _, _, _, _, _⟩) (i := 5) (v := .pointer (some ⟨q, 0, none⟩)) rfl (by kernel_rfl) (by kernel_rfl) (by kernel_rfl) (fun _ _ _ h => h) (Or.inl ⟨by rfl, fun _ _ => by go_simp⟩) HS ?_
    simp only [Act.put, List.setIfInBounds_toArray, List.set_cons_zero, List.set_cons_succ]
    refine wpAnyH_take (oi := ⟨_, _, _, _, _, _⟩) (i := 6) (v := .slice (some ⟨rb, 0, none⟩) 8192 rc) rfl (by kernel_rfl) (by kernel_rfl) (by kernel_rfl) (fun _ _ _ h => h) (yif_load rfl 22 (.tmp 51) rfl _ _ rfl fun W (h : RefH W mi q rb rc rd re M G) => load_one aggS h.cs.1) HS ?_
    simp only [Act.put, List.setIfInBounds_toArray, List.set_cons_zero, List.set_cons_succ]
    refine wpAnyH_take (oi := ⟨_, _, _, _, _, _⟩) (i := 7) (v := .string ⟨M.toArray⟩) rfl (by kernel_rfl) (by kernel_rfl) (by kernel_rfl) (fun _ _ _ h => h) (Or.inl ⟨by rfl, fun _ h => ex_convert 22 9 (.tmp 52) rfl _ _ rfl (conv_ref h)⟩) HS ?_
    simp only [Act.put, List.setIfInBounds_toArray, List.set_cons_zero, List.set_cons_succ]
    refine wpAnyH_take (oi := ⟨_, _, _, _, _, _⟩) (i := 0) (v := .pointer (some ⟨p, 0, none⟩)) rfl (by kernel_rfl) (by kernel_rfl) (by kernel_rfl) (fun _ _ _ h => h) (Or.inl ⟨by rfl, fun _ _ => rfl⟩) HS ?_
    simp only [Act.put, List.setIfInBounds_toArray, List.set_cons_zero, List.set_cons_succ]
    refine wpAnyH_all (rs := [1]) (by kernel_rfl) (by simp) fun i hi => ?_
    obtain rfl : i = 1 := by simpa using hi
    refine op_call (om := ⟨_, _, _, _, _, _⟩) (fn := 12) (args := #[.pointer (some ⟨p, 0, none⟩)]) (R := fun u w' => ∃ g, u = .slice (some ⟨g, 0, none⟩) 8192 8192 ∧ Row8 w' g 5 M ∧ Keeps (· = mb) wT w') rfl rfl (by go_simp)
        ((mbytes_at hmT).mono fun e w' ⟨g, he, h1, h2, h3, h4⟩ => ⟨_, he, g, by rw [hmT.ml], h2, h4⟩) _ _ rfl rfl ?_
    rintro u wU ⟨gU, rfl, rU, kU⟩
    have HS2 : (fun W : World => RefH W mi q rb rc rd re M G) wU := HS.keep kU (fun i h1 h2 h3 => by have := HLT.out; omega)
    refine ⟨HS2, ?_⟩
    clear hi
    simp only [Act.put, List.setIfInBounds_toArray, List.set_cons_zero, List.set_cons_succ]
    refine wpAnyH_all (rs := [2]) (by kernel_rfl) (by simp) fun i hi => ?_
    obtain rfl : i = 2 := by simpa using hi
    refine op_run (om := ⟨_, _, _, _, _, _⟩) (u := .string ⟨M.toArray⟩) (w' := wU) rfl rfl (ex_convert 22 9 (.tmp 47) rfl _ _ rfl (conv_row 8192 hmT.ml rU)) _ _ rfl rfl ?_
    rintro u wV ⟨rfl, rfl⟩
    refine ⟨HS2, ?_⟩
    clear hi
    simp only [Act.put, List.setIfInBounds_toArray, List.set_cons_zero, List.set_cons_succ]
    refine wpAnyH_take (oi := ⟨_, _, _, _, _, _⟩) (i := 8) (v := .bool true) rfl (by kernel_rfl) (by kernel_rfl) (by kernel_rfl) (fun _ _ _ h => h) (Or.inl ⟨by rfl, fun _ _ => by go_simp⟩) HS2 ?_
    simp only [Act.put, List.setIfInBounds_toArray, List.set_cons_zero, List.set_cons_succ]
    refine wpAnyH_take (oi := ⟨_, _, _, _, _, _⟩) (i := 9) (v := .bool true) rfl (by kernel_rfl) (by kernel_rfl) (by kernel_rfl) (fun _ _ _ h => h) (Or.inl ⟨by rfl, fun _ _ => rfl⟩) HS2 ?_
    simp only [Act.put, List.setIfInBounds_toArray, List.set_cons_zero, List.set_cons_succ]
    have HF := Lib.hid (Below.and HBT.out kU (fun i hi => by have := HLT.out; omega) (Nat.le_refl _))
    clear HBT HB HREF HMEM HS HS2 hmT kU rU kd
    refine wpAnyH_done (by kernel_rfl) ?_ _
    go_wp2_with fail
    go_ret
    exact ⟨rfl, HF.out⟩
  · rw [if_neg ht] at hp4
    generalize pcT a1 = t at *
    have HB := HB4
    have HP := Lib.hid hp4
    clear HB4 hp4
    go_wp2_with fail
    obtain ⟨gb, mb, hmem, lo1, lo2, lo0, lo3, lo4, lo5⟩ := HP.out.mem
    obtain ⟨rb, rc, rd, re, href, _⟩ := HP.out.ref
    have HREF := Lib.hid href
    have HMEM := Lib.hid hmem
    have HLT := Lib.hid (show w.heap.size ≤ mb ∧ mb < mi from ⟨lo2, lo5⟩)
    clear hmem href lo0 lo1 lo2 lo3 lo4 lo5 HP
    refine wp_region_held (S := fun W : World => RefH W mi q rb rc rd re G G) (by kernel_rfl) ?_
    change wpAnyH _ _ _ _ _ _ _ _ u4.drew
    have kd : Keeps (fun _ => False) u4 u4.drew := Keeps.drew _ _
    have HS : (fun W : World => RefH W mi q rb rc rd re G G) u4.drew := HREF.out.keep kd (fun _ _ _ h => h)
    have hmT := HMEM.out.keep kd (fun h => h) (fun h => h) (fun h => h)
    have HBT := Lib.hid (Below.and HB.out kd (fun _ h => h.elim) (Nat.le_refl _))
    generalize u4.drew = wT at *
    refine wpAnyH_take (oi := ⟨_, _, _, _, _, _⟩) (i := 3) (v := .pointer (some ⟨q, 0, none⟩)) rfl (by kernel_rfl) (by kernel_rfl) (by kernel_rfl) (fun _ _ _ h => h) (Or.inl ⟨by rfl, fun _ _ => rfl⟩) HS ?_
    simp only [Act.put, List.setIfInBounds_toArray, List.set_cons_zero, List.set_cons_succ]
    refine wpAnyH_take (oi := ⟨_, _, _, _, _, _⟩) (i := 4) (v := .pointer (some ⟨q, 0, none⟩)) rfl (by kernel_rfl) (by kernel_rfl) (by kernel_rfl) (fun _ _ _ h => h) (Or.inl ⟨by rfl, fun _ _ => rfl⟩) HS ?_
    simp only [Act.put, List.setIfInBounds_toArray, List.set_cons_zero, List.set_cons_succ]
    refine wpAnyH_take (oi := ⟨_, _, _, _, _, _⟩) (i := 5) (v := .pointer (some ⟨q, 0, none⟩)) rfl (by kernel_rfl) (by kernel_rfl) (by kernel_rfl) (fun _ _ _ h => h) (Or.inl ⟨by rfl, fun _ _ => by go_simp⟩) HS ?_
    simp only [Act.put, List.setIfInBounds_toArray, List.set_cons_zero, List.set_cons_succ]
    refine wpAnyH_take (oi := ⟨_, _, _, _, _, _⟩) (i := 6) (v := .slice (some ⟨rb, 0, none⟩) 8192 rc) rfl (by kernel_rfl) (by kernel_rfl) (by kernel_rfl) (fun _ _ _ h => h) (yif_load rfl 22 (.tmp 51) rfl _ _ rfl fun W (h : RefH W mi q rb rc rd re G G) => load_one aggS h.cs.1) HS ?_
    simp only [Act.put, List.setIfInBounds_toArray, List.set_cons_zero, List.set_cons_succ]
    refine wpAnyH_take (oi := ⟨_, _, _, _, _, _⟩) (i := 7) (v := .string ⟨G.toArray⟩) rfl (by kernel_rfl) (by kernel_rfl) (by kernel_rfl) (fun _ _ _ h => h) (Or.inl ⟨by rfl, fun _ h => ex_convert 22 9 (.tmp 52) rfl _ _ rfl (conv_ref h)⟩) HS ?_
    simp only [Act.put, List.setIfInBounds_toArray, List.set_cons_zero, List.set_cons_succ]
    refine wpAnyH_take (oi := ⟨_, _, _, _, _, _⟩) (i := 0) (v := .pointer (some ⟨p, 0, none⟩)) rfl (by kernel_rfl) (by kernel_rfl) (by kernel_rfl) (fun _ _ _ h => h) (Or.inl ⟨by rfl, fun _ _ => rfl⟩) HS ?_
    simp only [Act.put, List.setIfInBounds_toArray, List.set_cons_zero, List.set_cons_succ]
    refine wpAnyH_all (rs := [1]) (by kernel_rfl) (by simp) fun i hi => ?_
    obtain rfl : i = 1 := by simpa using hi
    refine op_call (om := ⟨_, _, _, _, _, _⟩) (fn := 12) (args := #[.pointer (some ⟨p, 0, none⟩)]) (R := fun u w' => ∃ g, u = .slice (some ⟨g, 0, none⟩) 8192 8192 ∧ Row8 w' g 5 G ∧ Keeps (· = mb) wT w') rfl rfl (by go_simp)
        ((mbytes_at hmT).mono fun e w' ⟨g, he, h1, h2, h3, h4⟩ => ⟨_, he, g, by rw [hmT.ml], h2, h4⟩) _ _ rfl rfl ?_
    rintro u wU ⟨gU, rfl, rU, kU⟩
    have HS2 : (fun W : World => RefH W mi q rb rc rd re G G) wU := HS.keep kU (fun i h1 h2 h3 => by have := HLT.out; omega)
    refine ⟨HS2, ?_⟩
    clear hi
    simp only [Act.put, List.setIfInBounds_toArray, List.set_cons_zero, List.set_cons_succ]
    refine wpAnyH_all (rs := [2]) (by kernel_rfl) (by simp) fun i hi => ?_
    obtain rfl : i = 2 := by simpa using hi
    refine op_run (om := ⟨_, _, _, _, _, _⟩) (u := .string ⟨G.toArray⟩) (w' := wU) rfl rfl (ex_convert 22 9 (.tmp 47) rfl _ _ rfl (conv_row 8192 hmT.ml rU)) _ _ rfl rfl ?_
    rintro u wV ⟨rfl, rfl⟩
    refine ⟨HS2, ?_⟩
    clear hi
    simp only [Act.put, List.setIfInBounds_toArray, List.set_cons_zero, List.set_cons_succ]
    refine wpAnyH_take (oi := ⟨_, _, _, _, _, _⟩) (i := 8) (v := .bool true) rfl (by kernel_rfl) (by kernel_rfl) (by kernel_rfl) (fun _ _ _ h => h) (Or.inl ⟨by rfl, fun _ _ => by go_simp⟩) HS2 ?_
    simp only [Act.put, List.setIfInBounds_toArray, List.set_cons_zero, List.set_cons_succ]
    refine wpAnyH_take (oi := ⟨_, _, _, _, _, _⟩) (i := 9) (v := .bool true) rfl (by kernel_rfl) (by kernel_rfl) (by kernel_rfl) (fun _ _ _ h => h) (Or.inl ⟨by rfl, fun _ _ => rfl⟩) HS2 ?_
    simp only [Act.put, List.setIfInBounds_toArray, List.set_cons_zero, List.set_cons_succ]
    have HF := Lib.hid (Below.and HBT.out kU (fun i hi => by have := HLT.out; omega) (Nat.le_refl _))
    clear HBT HB HREF HMEM HS HS2 hmT kU rU kd
    refine wpAnyH_done (by kernel_rfl) ?_ _
    go_wp2_with fail
    go_ret
    exact ⟨rfl, HF.out⟩

set_option maxRecDepth 100000 in
theorem lifted (os : Os) (started : os.Started) (H : Type) (enc : TypeId × Value → H) :
    ReturnsInHanded {} Try.checked os 4 .any (Rows.memKeepsSpec.pre6 enc Try.prog Try.f4 Rows.memKeepsRow.domain false) (Rows.memKeepsSpec.post enc Try.prog Try.f4 false true false false) := by
  refine returnsInHanded_of_change_sized (C := Try.checked) own started (by kernel_rfl) Try.func4
    (ChangeSpec.witness6 (enc := enc) (C := Try.checked) false ⟨#[], #[.slice none 0 0, .int .i64 0, .int .i64 0], []⟩ 8 (by kernel_rfl) (by kernel_rfl) (by kernel_rfl) (by kernel_rfl)) ?_
  intro W base args ds gs before hval0 hW _ hsz0 _
  have hsz : (DataW.weightsEach Try.prog (Try.f4.params.toList ++ Rows.memKeepsSpec.plain.varTypes Try.prog) (ds ++ gs)).all (· ≤ reachBytes) = true := hsz0
  clear hsz0
  have hval : ∀ (j : Nat) t v, Try.f4.params[j]? = some t → args[j]? = some v → Value.okWide Try.prog W .any base t v := hval0
  have hW' := hW
  obtain ⟨p, q, hA0, hV, rfl, _, _⟩ := hW
  have hA : DataW.TrodAll enc Try.prog W 0 (fun _ => true) true Try.f4.params.toList args.toList ds p := hA0
  rw [Try.params4] at hA hval hsz
  obtain ⟨v0, vs0, d0, ds0, p0, q0, hargs, rfl, rfl, h0, r0⟩ := trodAll_cons hA
  obtain ⟨v1, vs1, d1, ds1, p1, q1, rfl, rfl, rfl, h1, r1⟩ := trodAll_cons r0
  obtain ⟨v2, vs2, d2, ds2, p2, q2, rfl, rfl, rfl, h2, r2⟩ := trodAll_cons r1
  obtain ⟨rfl, rfl, rfl⟩ := trodAll_nil r2
  obtain rfl : args = #[v0, v1, v2] := by cases args; simp_all
  obtain ⟨rfl, rfl⟩ := trodVars_none hV
  obtain ⟨A0, len0, c0, rfl⟩ := okWide_slice Try.underlying22 (hval 0 22 v0 rfl rfl)
  have k0 := h0
  have lt0 : ∀ x ∈ p0, x.block < W.heap.size := by obtain ⟨m, hm⟩ := k0; exact DataW.trod_lt m _ _ _ hm
  obtain ⟨x0, rfl, b0, s0⟩ := bytes_in h0
  have l0 := s0 _ _ 0 hsz rfl rfl
  obtain ⟨a1, rfl, rfl, rfl, w1⟩ := open_int Try.underlying2 (hval 1 2 v1 rfl rfl) h1
  obtain ⟨a2, rfl, rfl, rfl, w2⟩ := open_int Try.underlying2 (hval 2 2 v2 rfl rfl) h2
  clear hA0 hval0
  refine (walk A0 x0 c0 a1 a2 W b0 l0 w1 w2).mono fun e W' ⟨he, bel⟩ => ?_
  subst he
  exact ⟨_, rfl, _, _, _, [], _, [], hW', trodAll_mk1 (shut_bool Try.underlying4 _), (trodAll_cons_mk (Below.trod laidOut (by kernel_rfl) (of_decide_eq_true (by kernel_rfl)) k0 bel lt0) (trodAll_cons_mk (shut_int Try.underlying2 w1) (trodAll_cons_mk (shut_int Try.underlying2 w2) trodAll_mk0))), rfl, bel.frame _, fun h => by cases h⟩

theorem proved : Rows.MemKeepsSaid :=
  OpenClaim.holds_of_wide 4 Try.f4 rfl rfl rfl rfl rfl rfl rfl ⟨rfl, rfl, rfl, rfl, rfl⟩ rfl rfl rfl rfl rfl (by kernel_rfl) Try.func4 (by kernel_rfl)
    (of_decide_eq_true (by kernel_rfl)) (by unfold Func.isWrapper; first | (rw [if_pos (by decide +kernel)]; kernel_rfl) | (rw [if_neg (by decide +kernel)]; exact ⟨rfl, rfl⟩))
    (fun os started H enc _ => lifted os started H enc)
#print axioms proved
end Go.Proofs.Ytdbphindnnchfaa.memKeeps
