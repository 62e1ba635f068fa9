/-
  LawHeaderMarks
-/
import Derived.Test.YthmlhjjcihibnaaGA
import Derived.ChangeOld
import Derived.Below
import Derived.Deep.QuietTactic
import Derived.BigQuiet
import Derived.WalkSmall
import Derived.Test.YthmlhjjcihibnaaHhEq
import Derived.Test.YthmlhjjcihibnaaGSnG
namespace Go.Proofs.Ythmlhjjcihibnaa.headerMarks
open Go.ChangeShapes Go.WideShapes Go.ChangeAt Go.RowKit Hh Sk Mm
set_option linter.unusedVariables false

theorem own : ownKnob Try.prog.godebug = none := by kernel_rfl
theorem laidOut : laidOutB Try.prog = true := by kernel_rfl

theorem mrk_len (M : List UInt8) (a : Int) (i h : Bool) : (mrkM M a i h).length = M.length := by
  unfold mrkM
  split
  · exact layL_len _ _ _
  · rfl
theorem lay1_byt (M : List UInt8) (hM : M.length = 8192) (a : Int) (u : UInt8) (h0 : 0 ≤ a) (h1 : a < 8192) (k : Int) : byt (layL M a [u]) k = if k = a then u else byt M k := by
  by_cases c0 : k < 0
  · rw [if_neg (by omega), byt_out _ _ (.inl c0), byt_out _ _ (.inl c0)]
  by_cases c1 : 8192 ≤ k
  · rw [if_neg (by omega), byt_out _ _ (.inr (by rw [layL_len, hM]; omega)), byt_out _ _ (.inr (by rw [hM]; omega))]
  · rw [byt_in _ _ (by omega), byt_in _ _ (by omega), getD_layL _ _ _ _ (by rw [hM]; omega)]
    by_cases e : k = a
    · subst e
      rw [if_pos (show k ≤ (k.toNat : Int) ∧ (k.toNat : Int) < k + ([u].length : Int) by simp; omega), if_pos rfl, byt_in _ _ (by omega), show ((k.toNat : Int) - k).toNat = 0 by omega]
      rfl
    · rw [if_neg (show ¬ (a ≤ (k.toNat : Int) ∧ (k.toNat : Int) < a + ([u].length : Int)) by simp; omega), if_neg e]
/-- A header whose marks were changed is one still, with those marks. -/
theorem mrk_read (M : List UInt8) (hM : M.length = 8192) (a : Int) (i h : Bool) (hy : IsH M a) : IsH (mrkM M a i h) a ∧ (rdV (mrkM M a i h) a).imm = i ∧ (rdV (mrkM M a i h) a).hid = h := by
  have a0 : 1536 ≤ a := hy.1
  have hb := hereV_bd M
  have a1 : a < 5632 := by have := hy.2.1; omega
  have mv := mrkV_val M a i h
  unfold mrkM
  rw [if_pos hy]
  have lb := lay1_byt M hM (a + 8) (mrkV M a i h) (by omega) (by omega)
  have e8 : mkV (layL M (a + 8) [mrkV M a i h]) a = mrkV M a i h := by
    unfold mkV
    rw [lb, if_pos rfl]
  have eh : hereV (layL M (a + 8) [mrkV M a i h]) = hereV M := by
    have : cel (layL M (a + 8) [mrkV M a i h]) 0 = cel M 0 := celS fun j hj => by rw [lb, if_neg (by omega)]
    unfold hereV
    rw [this]
  have el : lgV (layL M (a + 8) [mrkV M a i h]) a = lgV M a := by
    unfold lgV
    rw [e8, mv]
    cases i <;> cases h <;> simp [markN] <;> omega
  have hx : xtV (layL M (a + 8) [mrkV M a i h]) a = xtV M a := by unfold xtV; rw [el]
  refine ⟨?_, ?_, ?_⟩
  · unfold IsH
    rw [eh, el, hx]
    exact hy
  · unfold rdV
    rw [e8]
    show decide (128 ≤ (mrkV M a i h).toNat) = i
    rw [mv]
    cases i <;> cases h <;> simp [markN] <;> omega
  · unfold rdV
    rw [e8]
    show decide ((mrkV M a i h).toNat / 64 % 2 = 1) = h
    rw [mv]
    cases i <;> cases h <;> simp [markN] <;> omega
/-- What is known ahead of the last line: both memories, the header's variable. -/
structure Mk6 (w : World) (mi p gb mb q rb rc rd re g : Nat) (Z M : List UInt8) (x : HV) : Prop where
  m : MemAt w p gb mb Z M
  r : RefH w mi q rb rc rd re Z Z
  h : HB w g x
  ap : p < mi ∧ mb < mi ∧ gb < mi ∧ rb < g ∧ rd < g ∧ q < g

set_option maxRecDepth 100000 in
set_option maxHeartbeats 1000000 in
theorem walk (A0 : Option Addr) (x0 : List UInt8) (c0 : Nat) (a1 : Int) (a2 : Bool) (a3 : Bool) (w : World) (b0 : BR w w.heap.size A0 x0) (l0 : x0.length ≤ 140737488351232) (q0 : x0.length ≤ c0) (w1 : (Lit.int .i64 a1).wf = true) :
    Calls Try.prog 5 #[.slice A0 x0.length c0, .int .i64 a1, .bool a2, .bool a3] w fun e w' => e = .returned (.bool true) ∧ Below w.heap.size w w' := by
  have bx : ∀ W, Below w.heap.size w W → BR W W.heap.size A0 x0 := fun W hb => (b0.below hb).more hb.size
  have BB := Lib.hid bx
  have a1b := i64_of_wf w1
  clear b0 bx
  by_cases hl : 9000 < x0.length
  · go_enter Try.func5, Try.ntmps5
    go_wp2_with fail
    refine (hawake_any w).mono ?_
    rintro e w1 ⟨rfl, b1⟩
    have B1 := Lib.hid b1
    clear b1
    go_wp2_with fail
    go_ret
    exact ⟨rfl, B1.out⟩
  go_enter Try.func5, Try.ntmps5
  go_wp2_with fail
  refine (hawake_any w).mono ?_
  rintro e w1 ⟨rfl, b1⟩
  have B1 := Lib.hid b1
  have br1 := BB.out _ b1
  clear b1
  go_wp2_with fail
  refine (mflat_any A0 x0 c0 w1 br1).mono ?_
  rintro e w2 ⟨p, gb, mb, rfl, p1, p2, p3, hm, k2⟩
  have b2 := Below.and B1.out k2 (fun _ h => h.elim) (Nat.le_refl _)
  have br2 := BB.out _ b2
  have B2 := Lib.hid b2
  have s1 := B1.out.size
  clear b2 br1
  go_wp2_with fail
  refine (rflat_any A0 x0 c0 w2 br2).mono ?_
  rintro e w3 ⟨q, rfl, hr, k3⟩
  obtain ⟨rb, rc, rd, re, hr⟩ := hr
  have hm3 := hm.keep k3 (fun h => h) (fun h => h) (fun h => h)
  obtain ⟨l1', l2', l3'⟩ := hm.lt
  have B3 := Lib.hid (Below.and B2.out k3 (fun _ h => h.elim) (Nat.le_refl _))
  have zl := fillL_len x0
  generalize fillL x0 = Z at *
  have m3 : SM w3 (some ⟨p, 0, none⟩) p gb mb true Z Z := .inl ⟨rfl, rfl, hm3⟩
  have NP : Hid (w.heap.size ≤ p ∧ w.heap.size ≤ mb ∧ p < w2.heap.size ∧ mb < w2.heap.size ∧ gb < w2.heap.size ∧ w.heap.size ≤ w2.heap.size) := Lib.hid ⟨by omega, by omega, by omega, by omega, by omega, by have := B2.out.size; omega⟩
  have NQ := Lib.hid (show w2.heap.size ≤ q ∧ w2.heap.size ≤ rb ∧ w2.heap.size ≤ rd from ⟨hr.q0, hr.now.lt'.1, hr.was.lt'.1⟩)
  have KPR : Hid (∀ (a b : World), RefH a w2.heap.size q rb rc rd re Z Z → Keeps (SF true p mb) a b → RefH b w2.heap.size q rb rc rd re Z Z) := Lib.hid fun a b h k => by
    have np := NP.out
    have nq := NQ.out
    exact h.keep3 k (fun f => by rcases f.2 with x | x <;> omega) (fun f => by rcases f.2 with x | x <;> omega) (fun f => by rcases f.2 with x | x <;> omega)
  have KBL : Hid (∀ (a b : World), Below w.heap.size w a → Keeps (SF true p mb) a b → Below w.heap.size w b) := Lib.hid fun a b h k => Below.and h k (fun i f => by have np := NP.out; rcases f.2 with rfl | rfl <;> omega) (Nat.le_refl _)
  have CM := Lib.hid (mark_code m3 a1 a1b.1 a1b.2 a2 a3)
  have HR := Lib.hid hr
  clear hr hm hm3 k2 k3 br2 B1 B2 p1 p2 p3 m3 l1' l2' l3' s1
  go_wp2_with fail
  refine CM.out.mono ?_
  rintro e w4 ⟨rfl, m4, k4⟩
  have M4 := Lib.hid m4
  have R4 := Lib.hid (KPR.out _ _ HR.out k4)
  have B4 := Lib.hid (KBL.out _ _ B3.out k4)
  clear m4 k4 HR B3 CM
  have ZL := Lib.hid zl
  clear zl
  go_wp2_with fail
  refine (hread_code M4.out a1 a1b.1 a1b.2).mono ?_
  rintro e w5 h5
  unfold RdQ at h5
  obtain ⟨rfl, m5, k5⟩ := h5
  obtain ⟨x, hx⟩ : ∃ x, x = readH (mrkM Z a1 a2 a3) a1 := ⟨_, rfl⟩
  have HX := Lib.hid hx
  rw [← hx]
  clear hx
  generalize decide (IsH (mrkM Z a1 a2 a3) a1) = b5
  obtain ⟨s1, s2, s3⟩ := box_put w5 x
  generalize hW : (w5.alloc (.cells #[.int .i64 0, .int .i64 0, .string ⟨#[]⟩, .bool false, .bool false, .int .i64 0] 29)).setCells w5.heap.size 0 (hcs x) = w6 at *
  clear hW
  have k6 := k5.trans (s3.mono (G := SF true p mb) fun _ _ f => f.elim)
  have m6 := m5.keep s3 (fun _ _ f => f)
  have r6 := KPR.out _ _ R4.out k6
  have B6 := Lib.hid (KBL.out _ _ B4.out k6)
  have mm6 : MemAt w6 p gb mb Z (mrkM Z a1 a2 a3) := by
    rcases m6 with ⟨_, _, hm⟩ | ⟨e, _⟩
    · exact hm
    · cases e
  have r5 := KPR.out _ _ R4.out k5
  have six : Mk6 w6 w2.heap.size p gb mb q rb rc rd re w5.heap.size Z (mrkM Z a1 a2 a3) x := ⟨mm6, r6, s2, by have := NP.out; have l := r5.lt; exact ⟨by omega, by omega, by omega, by omega, by omega, by omega⟩⟩
  have SIX := Lib.hid six
  have ST := Lib.hid s1
  have GH : Hid (w.heap.size ≤ w5.heap.size) := Lib.hid (Nat.le_trans B4.out.size k5.size)
  clear s1 s2 s3 m5 m6 k5 k6 r6 mm6 r5 six M4 R4 B4
  go_wp2_with (first
    | ((with_reducible refine at_ (op := .store 29 (.tmp 12) (.tmp 34)) ?_); refine wpList_unit rfl (ex_store 29 (.tmp 12) (.tmp 34) rfl _ _ rfl rfl ST.out) ?_)
    | fail)
  clear ST
  have DM := Lib.hid (fun w' (h : RefH w' w2.heap.size q rb rc rd re Z Z) => mark_doc h a1 a1b.1 a1b.2 a2 a3)
  have m1l : (mrkM Z a1 a2 a3).length = 8192 := by rw [mrk_len]; exact ZL.out
  have MR := Lib.hid (mrk_read Z ZL.out a1 a2 a3)
  have ML := Lib.hid m1l
  clear m1l
  generalize mrkM Z a1 a2 a3 = M1 at *
  generalize w5.heap.size = g at *
  by_cases hy : IsH Z a1
  · obtain ⟨y1, y2, y3⟩ := MR.out hy
    have xi : x.imm = a2 := by rw [HX.out, (read_yes y1).1]; exact y2
    have xj : x.hid = a3 := by rw [HX.out, (read_yes y1).1]; exact y3
    have XI := Lib.hid xi
    have XJ := Lib.hid xj
    rw [decide_eq_true hy] at DM ⊢
    clear y1 y2 y3 xi xj MR HX hy
    refine wp_region_any (by kernel_rfl) (wpAny_of_last (S := fun W => HB W g x) (z := 35) _ _ _ _ ?_)
    change wpAnyZ _ _ _ _ _ _ _ _ _ w6.drew
    have d6 : Mk6 w6.drew w2.heap.size p gb mb q rb rc rd re g Z M1 x := ⟨SIX.out.m.keep (Keeps.drew (fun _ => False) w6) (fun f => f) (fun f => f) (fun f => f), SIX.out.r.keep (Keeps.drew (fun _ => False) w6) (fun _ _ _ f => f), SIX.out.h.keep (Keeps.drew (fun _ => False) w6) (fun f => f), SIX.out.ap⟩
    have hS : HB w6.drew g x := d6.h
    have B7 := Lib.hid (Below.and B6.out (Keeps.drew (fun _ => False) w6) (fun _ f => f.elim) (Nat.le_refl _))
    have D6 := Lib.hid d6
    clear SIX B6 d6
    generalize w6.drew = w7 at *
    refine wpAnyZ_take (oi := ⟨_, _, _, _, _, _⟩) (i := 0) (v := .bool true) rfl (by kernel_rfl) (fun _ _ _ h => h) (Or.inl ⟨by rfl, fun _ _ => rfl⟩) hS ?_
    try simp only [Act.put, List.setIfInBounds_toArray, List.set_cons_zero, List.set_cons_succ]
    refine wpAnyZ_take (oi := ⟨_, _, _, _, _, _⟩) (i := 1) (v := .pointer (some ⟨q, 0, none⟩)) rfl (by kernel_rfl) (fun _ _ _ h => h) (Or.inl ⟨by rfl, fun _ _ => rfl⟩) hS ?_
    try simp only [Act.put, List.setIfInBounds_toArray, List.set_cons_zero, List.set_cons_succ]
    refine wpAnyZ_take (oi := ⟨_, _, _, _, _, _⟩) (i := 2) (v := .int .i64 a1) rfl (by kernel_rfl) (fun _ _ _ h => h) (Or.inl ⟨by rfl, fun _ _ => rfl⟩) hS ?_
    try simp only [Act.put, List.setIfInBounds_toArray, List.set_cons_zero, List.set_cons_succ]
    refine wpAnyZ_take (oi := ⟨_, _, _, _, _, _⟩) (i := 3) (v := .bool a2) rfl (by kernel_rfl) (fun _ _ _ h => h) (Or.inl ⟨by rfl, fun _ _ => rfl⟩) hS ?_
    try simp only [Act.put, List.setIfInBounds_toArray, List.set_cons_zero, List.set_cons_succ]
    refine wpAnyZ_take (oi := ⟨_, _, _, _, _, _⟩) (i := 4) (v := .bool a3) rfl (by kernel_rfl) (fun _ _ _ h => h) (Or.inl ⟨by rfl, fun _ _ => rfl⟩) hS ?_
    try simp only [Act.put, List.setIfInBounds_toArray, List.set_cons_zero, List.set_cons_succ]
    refine wpAnyZ_one (i := 5) (by kernel_rfl) ?_
    refine op_call (om := ⟨_, _, _, _, _, _⟩) (fn := 21) (args := #[.pointer (some ⟨q, 0, none⟩), .int .i64 a1, .bool a2, .bool a3]) (R := fun u' w' => u' = .bool true ∧ RefH w' w2.heap.size q rb rc rd re M1 Z ∧ Keeps (fun k => k = rb) w7 w') rfl rfl (by go_simp)
      ((DM.out w7 D6.out.r).mono fun e w' y => ⟨_, y.1, rfl, y.2⟩) _ _ rfl rfl ?_
    rintro u' w8 ⟨rfl, r8, k8⟩
    have m8 := D6.out.m.keep k8 (by have := D6.out.ap; have := NQ.out; omega) (by have := D6.out.ap; have := NQ.out; omega) (by have := D6.out.ap; have := NQ.out; omega)
    replace hS := HB.keep hS k8 (by show ¬ g = rb; have := D6.out.ap; omega)
    have B8 := Lib.hid (Below.and B7.out k8 (fun i f => by have := NQ.out; have := NP.out; omega) (Nat.le_refl _))
    have AP := Lib.hid D6.out.ap
    clear D6 B7 k8 DM
    refine ⟨.inr hS, ?_⟩
    try simp only [Act.put, List.setIfInBounds_toArray, List.set_cons_zero, List.set_cons_succ]
    refine wpAnyZ_more (S' := fun W => HB W g x ∧ RefH W w2.heap.size q rb rc rd re M1 Z) (fun _ y => y.1) _ _ _ _ ?_
    replace hS : HB w8 g x ∧ RefH w8 w2.heap.size q rb rc rd re M1 Z := ⟨hS, r8⟩
    refine wpAnyZ_take (oi := ⟨_, _, _, _, _, _⟩) (i := 6) (v := .bool true) rfl (by kernel_rfl) (fun _ _ _ h => h) (Or.inl ⟨by rfl, fun _ _ => by go_simp⟩) hS ?_
    try simp only [Act.put, List.setIfInBounds_toArray, List.set_cons_zero, List.set_cons_succ]
    refine wpAnyZ_take (oi := ⟨_, _, _, _, _, _⟩) (i := 7) (v := .bool true) rfl (by kernel_rfl) (fun _ _ _ h => h) (Or.inl ⟨by rfl, fun _ _ => rfl⟩) hS ?_
    try simp only [Act.put, List.setIfInBounds_toArray, List.set_cons_zero, List.set_cons_succ]
    refine wpAnyZ_take (oi := ⟨_, _, _, _, _, _⟩) (i := 8) (v := .pointer (some ⟨p, 0, none⟩)) rfl (by kernel_rfl) (fun _ _ _ h => h) (Or.inl ⟨by rfl, fun _ _ => rfl⟩) hS ?_
    try simp only [Act.put, List.setIfInBounds_toArray, List.set_cons_zero, List.set_cons_succ]
    refine wpAnyZ_take (oi := ⟨_, _, _, _, _, _⟩) (i := 11) (v := .pointer (some ⟨q, 0, none⟩)) rfl (by kernel_rfl) (fun _ _ _ h => h) (Or.inl ⟨by rfl, fun _ _ => rfl⟩) hS ?_
    try simp only [Act.put, List.setIfInBounds_toArray, List.set_cons_zero, List.set_cons_succ]
    refine wpAnyZ_take (oi := ⟨_, _, _, _, _, _⟩) (i := 12) (v := .pointer (some ⟨q, 0, none⟩)) rfl (by kernel_rfl) (fun _ _ _ h => h) (Or.inl ⟨by rfl, fun _ _ => by go_simp⟩) hS ?_
    try simp only [Act.put, List.setIfInBounds_toArray, List.set_cons_zero, List.set_cons_succ]
    refine wpAnyZ_take (oi := ⟨_, _, _, _, _, _⟩) (i := 13) (v := .pointer (some ⟨q, 0, none⟩)) rfl (by kernel_rfl) (fun _ _ _ h => h) (Or.inl ⟨by rfl, fun _ _ => by go_simp⟩) hS ?_
    try simp only [Act.put, List.setIfInBounds_toArray, List.set_cons_zero, List.set_cons_succ]
    refine wpAnyZ_take (oi := ⟨_, _, _, _, _, _⟩) (i := 14) (v := .slice (some ⟨rb, 0, none⟩) 8192 rc) rfl (by kernel_rfl) (fun _ _ _ h => h) (yif_load rfl 22 (.tmp 49) rfl _ _ rfl (fun W hW => load_one aggS hW.2.cs.1)) hS ?_
    try simp only [Act.put, List.setIfInBounds_toArray, List.set_cons_zero, List.set_cons_succ]
    refine wpAnyZ_take (oi := ⟨_, _, _, _, _, _⟩) (i := 15) (v := .string ⟨M1.toArray⟩) rfl (by kernel_rfl) (fun _ _ _ h => h) (Or.inl ⟨by rfl, fun _ hw => ex_convert 22 9 (.tmp 50) rfl _ _ rfl (conv_ref hw.2)⟩) hS ?_
    try simp only [Act.put, List.setIfInBounds_toArray, List.set_cons_zero, List.set_cons_succ]
    have BY := mbytes_at m8
    refine wpAnyZ_one (i := 9) (by kernel_rfl) ?_
    refine op_call (om := ⟨_, _, _, _, _, _⟩) (fn := 22) (args := #[.pointer (some ⟨p, 0, none⟩)]) (R := fun u' w' => ∃ g', u' = .slice (some ⟨g', 0, none⟩) 8192 8192 ∧ Row8 w' g' 5 M1 ∧ Keeps (· = mb) w8 w') rfl rfl (by go_simp)
      (BY.mono fun e w' y => by
        obtain ⟨g', e1, _, hr, _, hk⟩ := y
        rw [ML.out] at e1
        exact ⟨_, e1, g', rfl, hr, hk⟩) _ _ rfl rfl ?_
    rintro u' w9 ⟨g', rfl, r9, k9⟩
    replace hS : HB w9 g x ∧ RefH w9 w2.heap.size q rb rc rd re M1 Z := ⟨hS.1.keep k9 (by show ¬ g = mb; have := AP.out; have := NQ.out; have := r8.lt; omega), hS.2.keep3 k9 (by show ¬ q = mb; have := AP.out; have := NQ.out; omega) (by show ¬ rb = mb; have := AP.out; have := NQ.out; omega) (by show ¬ rd = mb; have := AP.out; have := NQ.out; omega)⟩
    have B9 := Lib.hid (Below.and B8.out k9 (fun i f => by have := NP.out; omega) (Nat.le_refl _))
    clear BY m8 B8 k9 r8
    refine ⟨.inr hS, ?_⟩
    try simp only [Act.put, List.setIfInBounds_toArray, List.set_cons_zero, List.set_cons_succ]
    refine wpAnyZ_one (i := 10) (by kernel_rfl) ?_
    refine wpOp_run (om := ⟨_, _, _, _, _, _⟩) (u := .string ⟨M1.toArray⟩) (w' := w9) rfl rfl (ex_convert 22 9 (.tmp 45) rfl _ _ rfl (conv_row 8192 ML.out r9)) ?_
    refine ⟨.inr hS, ?_⟩
    try simp only [Act.put, List.setIfInBounds_toArray, List.set_cons_zero, List.set_cons_succ]
    refine wpAnyZ_take (oi := ⟨_, _, _, _, _, _⟩) (i := 16) (v := .bool true) rfl (by kernel_rfl) (fun _ _ _ h => h) (Or.inl ⟨by rfl, fun _ _ => by rw [ex_eqlX (.tmp 46) (.tmp 51) rfl M1 M1 rfl rfl, decide_eq_true rfl]⟩) hS ?_
    try simp only [Act.put, List.setIfInBounds_toArray, List.set_cons_zero, List.set_cons_succ]
    refine wpAnyZ_take (oi := ⟨_, _, _, _, _, _⟩) (i := 17) (v := .bool true) rfl (by kernel_rfl) (fun _ _ _ h => h) (Or.inl ⟨by rfl, fun _ _ => by go_simp⟩) hS ?_
    try simp only [Act.put, List.setIfInBounds_toArray, List.set_cons_zero, List.set_cons_succ]
    refine wpAnyZ_take (oi := ⟨_, _, _, _, _, _⟩) (i := 18) (v := .bool true) rfl (by kernel_rfl) (fun _ _ _ h => h) (Or.inl ⟨by rfl, fun _ _ => rfl⟩) hS ?_
    try simp only [Act.put, List.setIfInBounds_toArray, List.set_cons_zero, List.set_cons_succ]
    refine wpAnyZ_take (oi := ⟨_, _, _, _, _, _⟩) (i := 19) (v := .bool true) rfl (by kernel_rfl) (fun _ _ _ h => h) (Or.inl ⟨by rfl, fun _ _ => rfl⟩) hS ?_
    try simp only [Act.put, List.setIfInBounds_toArray, List.set_cons_zero, List.set_cons_succ]
    refine wpAnyZ_take (oi := ⟨_, _, _, _, _, _⟩) (i := 20) (v := .bool false) rfl (by kernel_rfl) (fun _ _ _ h => h) (Or.inl ⟨by rfl, fun _ _ => by go_simp⟩) hS ?_
    try simp only [Act.put, List.setIfInBounds_toArray, List.set_cons_zero, List.set_cons_succ]
    refine wpAnyZ_take (oi := ⟨_, _, _, _, _, _⟩) (i := 21) (v := .bool false) rfl (by kernel_rfl) (fun _ _ _ h => h) (Or.inl ⟨by rfl, fun _ _ => rfl⟩) hS ?_
    try simp only [Act.put, List.setIfInBounds_toArray, List.set_cons_zero, List.set_cons_succ]
    refine wpAnyZ_take (oi := ⟨_, _, _, _, _, _⟩) (i := 22) (v := .pointer (some ⟨g, 3, none⟩)) rfl (by kernel_rfl) (fun _ _ _ h => h) (Or.inl ⟨by rfl, fun _ _ => by go_simp⟩) hS ?_
    try simp only [Act.put, List.setIfInBounds_toArray, List.set_cons_zero, List.set_cons_succ]
    refine wpAnyZ_take (oi := ⟨_, _, _, _, _, _⟩) (i := 23) (v := .bool a2) rfl (by kernel_rfl) (fun _ _ _ h => h) (yif_load rfl 4 (.tmp 58) rfl _ _ rfl (fun W hW => load_one (fun w => by kernel_rfl) (XI.out ▸ (HB.c hW.1).2.2.2.1))) hS ?_
    try simp only [Act.put, List.setIfInBounds_toArray, List.set_cons_zero, List.set_cons_succ]
    refine wpAnyZ_take (oi := ⟨_, _, _, _, _, _⟩) (i := 24) (v := .bool a2) rfl (by kernel_rfl) (fun _ _ _ h => h) (Or.inl ⟨by rfl, fun _ _ => rfl⟩) hS ?_
    try simp only [Act.put, List.setIfInBounds_toArray, List.set_cons_zero, List.set_cons_succ]
    refine wpAnyZ_take (oi := ⟨_, _, _, _, _, _⟩) (i := 25) (v := .bool true) rfl (by kernel_rfl) (fun _ _ _ h => h) (Or.inl ⟨by rfl, fun _ _ => by go_simp⟩) hS ?_
    try simp only [Act.put, List.setIfInBounds_toArray, List.set_cons_zero, List.set_cons_succ]
    refine wpAnyZ_take (oi := ⟨_, _, _, _, _, _⟩) (i := 26) (v := .bool true) rfl (by kernel_rfl) (fun _ _ _ h => h) (Or.inl ⟨by rfl, fun _ _ => rfl⟩) hS ?_
    try simp only [Act.put, List.setIfInBounds_toArray, List.set_cons_zero, List.set_cons_succ]
    refine wpAnyZ_take (oi := ⟨_, _, _, _, _, _⟩) (i := 27) (v := .pointer (some ⟨g, 4, none⟩)) rfl (by kernel_rfl) (fun _ _ _ h => h) (Or.inl ⟨by rfl, fun _ _ => by go_simp⟩) hS ?_
    try simp only [Act.put, List.setIfInBounds_toArray, List.set_cons_zero, List.set_cons_succ]
    refine wpAnyZ_take (oi := ⟨_, _, _, _, _, _⟩) (i := 28) (v := .bool a3) rfl (by kernel_rfl) (fun _ _ _ h => h) (yif_load rfl 4 (.tmp 63) rfl _ _ rfl (fun W hW => load_one (fun w => by kernel_rfl) (XJ.out ▸ (HB.c hW.1).2.2.2.2.1))) hS ?_
    try simp only [Act.put, List.setIfInBounds_toArray, List.set_cons_zero, List.set_cons_succ]
    refine wpAnyZ_take (oi := ⟨_, _, _, _, _, _⟩) (i := 29) (v := .bool a3) rfl (by kernel_rfl) (fun _ _ _ h => h) (Or.inl ⟨by rfl, fun _ _ => rfl⟩) hS ?_
    try simp only [Act.put, List.setIfInBounds_toArray, List.set_cons_zero, List.set_cons_succ]
    refine wpAnyZ_take (oi := ⟨_, _, _, _, _, _⟩) (i := 30) (v := .bool true) rfl (by kernel_rfl) (fun _ _ _ h => h) (Or.inl ⟨by rfl, fun _ _ => by go_simp⟩) hS ?_
    try simp only [Act.put, List.setIfInBounds_toArray, List.set_cons_zero, List.set_cons_succ]
    refine wpAnyZ_take (oi := ⟨_, _, _, _, _, _⟩) (i := 31) (v := .bool true) rfl (by kernel_rfl) (fun _ _ _ h => h) (Or.inl ⟨by rfl, fun _ _ => by go_simp⟩) hS ?_
    try simp only [Act.put, List.setIfInBounds_toArray, List.set_cons_zero, List.set_cons_succ]
    refine wpAnyZ_take (oi := ⟨_, _, _, _, _, _⟩) (i := 32) (v := .bool true) rfl (by kernel_rfl) (fun _ _ _ h => h) (Or.inl ⟨by rfl, fun _ _ => by go_simp⟩) hS ?_
    try simp only [Act.put, List.setIfInBounds_toArray, List.set_cons_zero, List.set_cons_succ]
    refine wpAnyZ_take (oi := ⟨_, _, _, _, _, _⟩) (i := 33) (v := .bool true) rfl (by kernel_rfl) (fun _ _ _ h => h) (Or.inl ⟨by rfl, fun _ _ => by go_simp⟩) hS ?_
    try simp only [Act.put, List.setIfInBounds_toArray, List.set_cons_zero, List.set_cons_succ]
    refine wpAnyZ_take (oi := ⟨_, _, _, _, _, _⟩) (i := 34) (v := .bool true) rfl (by kernel_rfl) (fun _ _ _ h => h) (Or.inl ⟨by rfl, fun _ _ => by go_simp⟩) hS ?_
    try simp only [Act.put, List.setIfInBounds_toArray, List.set_cons_zero, List.set_cons_succ]
    refine wpAnyZ_done (by kernel_rfl) ?_ _
    try simp only [Act.put, List.setIfInBounds_toArray, List.set_cons_zero, List.set_cons_succ]
    go_wp2_with fail
    go_ret
    exact ⟨rfl, B9.out⟩
  · rw [decide_eq_false hy] at DM ⊢
    clear MR HX hy
    refine wp_region_any (by kernel_rfl) (wpAny_of_last (S := fun W => HB W g x) (z := 35) _ _ _ _ ?_)
    change wpAnyZ _ _ _ _ _ _ _ _ _ w6.drew
    have d6 : Mk6 w6.drew w2.heap.size p gb mb q rb rc rd re g Z M1 x := ⟨SIX.out.m.keep (Keeps.drew (fun _ => False) w6) (fun f => f) (fun f => f) (fun f => f), SIX.out.r.keep (Keeps.drew (fun _ => False) w6) (fun _ _ _ f => f), SIX.out.h.keep (Keeps.drew (fun _ => False) w6) (fun f => f), SIX.out.ap⟩
    have hS : HB w6.drew g x := d6.h
    have B7 := Lib.hid (Below.and B6.out (Keeps.drew (fun _ => False) w6) (fun _ f => f.elim) (Nat.le_refl _))
    have D6 := Lib.hid d6
    clear SIX B6 d6
    generalize w6.drew = w7 at *
    refine wpAnyZ_take (oi := ⟨_, _, _, _, _, _⟩) (i := 0) (v := .bool false) rfl (by kernel_rfl) (fun _ _ _ h => h) (Or.inl ⟨by rfl, fun _ _ => rfl⟩) hS ?_
    try simp only [Act.put, List.setIfInBounds_toArray, List.set_cons_zero, List.set_cons_succ]
    refine wpAnyZ_take (oi := ⟨_, _, _, _, _, _⟩) (i := 1) (v := .pointer (some ⟨q, 0, none⟩)) rfl (by kernel_rfl) (fun _ _ _ h => h) (Or.inl ⟨by rfl, fun _ _ => rfl⟩) hS ?_
    try simp only [Act.put, List.setIfInBounds_toArray, List.set_cons_zero, List.set_cons_succ]
    refine wpAnyZ_take (oi := ⟨_, _, _, _, _, _⟩) (i := 2) (v := .int .i64 a1) rfl (by kernel_rfl) (fun _ _ _ h => h) (Or.inl ⟨by rfl, fun _ _ => rfl⟩) hS ?_
    try simp only [Act.put, List.setIfInBounds_toArray, List.set_cons_zero, List.set_cons_succ]
    refine wpAnyZ_take (oi := ⟨_, _, _, _, _, _⟩) (i := 3) (v := .bool a2) rfl (by kernel_rfl) (fun _ _ _ h => h) (Or.inl ⟨by rfl, fun _ _ => rfl⟩) hS ?_
    try simp only [Act.put, List.setIfInBounds_toArray, List.set_cons_zero, List.set_cons_succ]
    refine wpAnyZ_take (oi := ⟨_, _, _, _, _, _⟩) (i := 4) (v := .bool a3) rfl (by kernel_rfl) (fun _ _ _ h => h) (Or.inl ⟨by rfl, fun _ _ => rfl⟩) hS ?_
    try simp only [Act.put, List.setIfInBounds_toArray, List.set_cons_zero, List.set_cons_succ]
    refine wpAnyZ_one (i := 5) (by kernel_rfl) ?_
    refine op_call (om := ⟨_, _, _, _, _, _⟩) (fn := 21) (args := #[.pointer (some ⟨q, 0, none⟩), .int .i64 a1, .bool a2, .bool a3]) (R := fun u' w' => u' = .bool false ∧ RefH w' w2.heap.size q rb rc rd re M1 Z ∧ Keeps (fun k => k = rb) w7 w') rfl rfl (by go_simp)
      ((DM.out w7 D6.out.r).mono fun e w' y => ⟨_, y.1, rfl, y.2⟩) _ _ rfl rfl ?_
    rintro u' w8 ⟨rfl, r8, k8⟩
    have m8 := D6.out.m.keep k8 (by have := D6.out.ap; have := NQ.out; omega) (by have := D6.out.ap; have := NQ.out; omega) (by have := D6.out.ap; have := NQ.out; omega)
    replace hS := HB.keep hS k8 (by show ¬ g = rb; have := D6.out.ap; omega)
    have B8 := Lib.hid (Below.and B7.out k8 (fun i f => by have := NQ.out; have := NP.out; omega) (Nat.le_refl _))
    have AP := Lib.hid D6.out.ap
    clear D6 B7 k8 DM
    refine ⟨.inr hS, ?_⟩
    try simp only [Act.put, List.setIfInBounds_toArray, List.set_cons_zero, List.set_cons_succ]
    refine wpAnyZ_more (S' := fun W => HB W g x ∧ RefH W w2.heap.size q rb rc rd re M1 Z) (fun _ y => y.1) _ _ _ _ ?_
    replace hS : HB w8 g x ∧ RefH w8 w2.heap.size q rb rc rd re M1 Z := ⟨hS, r8⟩
    refine wpAnyZ_take (oi := ⟨_, _, _, _, _, _⟩) (i := 6) (v := .bool true) rfl (by kernel_rfl) (fun _ _ _ h => h) (Or.inl ⟨by rfl, fun _ _ => by go_simp⟩) hS ?_
    try simp only [Act.put, List.setIfInBounds_toArray, List.set_cons_zero, List.set_cons_succ]
    refine wpAnyZ_take (oi := ⟨_, _, _, _, _, _⟩) (i := 7) (v := .bool true) rfl (by kernel_rfl) (fun _ _ _ h => h) (Or.inl ⟨by rfl, fun _ _ => rfl⟩) hS ?_
    try simp only [Act.put, List.setIfInBounds_toArray, List.set_cons_zero, List.set_cons_succ]
    refine wpAnyZ_take (oi := ⟨_, _, _, _, _, _⟩) (i := 8) (v := .pointer (some ⟨p, 0, none⟩)) rfl (by kernel_rfl) (fun _ _ _ h => h) (Or.inl ⟨by rfl, fun _ _ => rfl⟩) hS ?_
    try simp only [Act.put, List.setIfInBounds_toArray, List.set_cons_zero, List.set_cons_succ]
    refine wpAnyZ_take (oi := ⟨_, _, _, _, _, _⟩) (i := 11) (v := .pointer (some ⟨q, 0, none⟩)) rfl (by kernel_rfl) (fun _ _ _ h => h) (Or.inl ⟨by rfl, fun _ _ => rfl⟩) hS ?_
    try simp only [Act.put, List.setIfInBounds_toArray, List.set_cons_zero, List.set_cons_succ]
    refine wpAnyZ_take (oi := ⟨_, _, _, _, _, _⟩) (i := 12) (v := .pointer (some ⟨q, 0, none⟩)) rfl (by kernel_rfl) (fun _ _ _ h => h) (Or.inl ⟨by rfl, fun _ _ => by go_simp⟩) hS ?_
    try simp only [Act.put, List.setIfInBounds_toArray, List.set_cons_zero, List.set_cons_succ]
    refine wpAnyZ_take (oi := ⟨_, _, _, _, _, _⟩) (i := 13) (v := .pointer (some ⟨q, 0, none⟩)) rfl (by kernel_rfl) (fun _ _ _ h => h) (Or.inl ⟨by rfl, fun _ _ => by go_simp⟩) hS ?_
    try simp only [Act.put, List.setIfInBounds_toArray, List.set_cons_zero, List.set_cons_succ]
    refine wpAnyZ_take (oi := ⟨_, _, _, _, _, _⟩) (i := 14) (v := .slice (some ⟨rb, 0, none⟩) 8192 rc) rfl (by kernel_rfl) (fun _ _ _ h => h) (yif_load rfl 22 (.tmp 49) rfl _ _ rfl (fun W hW => load_one aggS hW.2.cs.1)) hS ?_
    try simp only [Act.put, List.setIfInBounds_toArray, List.set_cons_zero, List.set_cons_succ]
    refine wpAnyZ_take (oi := ⟨_, _, _, _, _, _⟩) (i := 15) (v := .string ⟨M1.toArray⟩) rfl (by kernel_rfl) (fun _ _ _ h => h) (Or.inl ⟨by rfl, fun _ hw => ex_convert 22 9 (.tmp 50) rfl _ _ rfl (conv_ref hw.2)⟩) hS ?_
    try simp only [Act.put, List.setIfInBounds_toArray, List.set_cons_zero, List.set_cons_succ]
    have BY := mbytes_at m8
    refine wpAnyZ_one (i := 9) (by kernel_rfl) ?_
    refine op_call (om := ⟨_, _, _, _, _, _⟩) (fn := 22) (args := #[.pointer (some ⟨p, 0, none⟩)]) (R := fun u' w' => ∃ g', u' = .slice (some ⟨g', 0, none⟩) 8192 8192 ∧ Row8 w' g' 5 M1 ∧ Keeps (· = mb) w8 w') rfl rfl (by go_simp)
      (BY.mono fun e w' y => by
        obtain ⟨g', e1, _, hr, _, hk⟩ := y
        rw [ML.out] at e1
        exact ⟨_, e1, g', rfl, hr, hk⟩) _ _ rfl rfl ?_
    rintro u' w9 ⟨g', rfl, r9, k9⟩
    replace hS : HB w9 g x ∧ RefH w9 w2.heap.size q rb rc rd re M1 Z := ⟨hS.1.keep k9 (by show ¬ g = mb; have := AP.out; have := NQ.out; have := r8.lt; omega), hS.2.keep3 k9 (by show ¬ q = mb; have := AP.out; have := NQ.out; omega) (by show ¬ rb = mb; have := AP.out; have := NQ.out; omega) (by show ¬ rd = mb; have := AP.out; have := NQ.out; omega)⟩
    have B9 := Lib.hid (Below.and B8.out k9 (fun i f => by have := NP.out; omega) (Nat.le_refl _))
    clear BY m8 B8 k9 r8
    refine ⟨.inr hS, ?_⟩
    try simp only [Act.put, List.setIfInBounds_toArray, List.set_cons_zero, List.set_cons_succ]
    refine wpAnyZ_one (i := 10) (by kernel_rfl) ?_
    refine wpOp_run (om := ⟨_, _, _, _, _, _⟩) (u := .string ⟨M1.toArray⟩) (w' := w9) rfl rfl (ex_convert 22 9 (.tmp 45) rfl _ _ rfl (conv_row 8192 ML.out r9)) ?_
    refine ⟨.inr hS, ?_⟩
    try simp only [Act.put, List.setIfInBounds_toArray, List.set_cons_zero, List.set_cons_succ]
    refine wpAnyZ_take (oi := ⟨_, _, _, _, _, _⟩) (i := 16) (v := .bool true) rfl (by kernel_rfl) (fun _ _ _ h => h) (Or.inl ⟨by rfl, fun _ _ => by rw [ex_eqlX (.tmp 46) (.tmp 51) rfl M1 M1 rfl rfl, decide_eq_true rfl]⟩) hS ?_
    try simp only [Act.put, List.setIfInBounds_toArray, List.set_cons_zero, List.set_cons_succ]
    refine wpAnyZ_take (oi := ⟨_, _, _, _, _, _⟩) (i := 17) (v := .bool true) rfl (by kernel_rfl) (fun _ _ _ h => h) (Or.inl ⟨by rfl, fun _ _ => by go_simp⟩) hS ?_
    try simp only [Act.put, List.setIfInBounds_toArray, List.set_cons_zero, List.set_cons_succ]
    refine wpAnyZ_take (oi := ⟨_, _, _, _, _, _⟩) (i := 18) (v := .bool true) rfl (by kernel_rfl) (fun _ _ _ h => h) (Or.inl ⟨by rfl, fun _ _ => rfl⟩) hS ?_
    try simp only [Act.put, List.setIfInBounds_toArray, List.set_cons_zero, List.set_cons_succ]
    refine wpAnyZ_take (oi := ⟨_, _, _, _, _, _⟩) (i := 19) (v := .bool false) rfl (by kernel_rfl) (fun _ _ _ h => h) (Or.inl ⟨by rfl, fun _ _ => rfl⟩) hS ?_
    try simp only [Act.put, List.setIfInBounds_toArray, List.set_cons_zero, List.set_cons_succ]
    refine wpAnyZ_take (oi := ⟨_, _, _, _, _, _⟩) (i := 20) (v := .bool true) rfl (by kernel_rfl) (fun _ _ _ h => h) (Or.inl ⟨by rfl, fun _ _ => by go_simp⟩) hS ?_
    try simp only [Act.put, List.setIfInBounds_toArray, List.set_cons_zero, List.set_cons_succ]
    refine wpAnyZ_take (oi := ⟨_, _, _, _, _, _⟩) (i := 21) (v := .bool true) rfl (by kernel_rfl) (fun _ _ _ h => h) (Or.inl ⟨by rfl, fun _ _ => rfl⟩) hS ?_
    try simp only [Act.put, List.setIfInBounds_toArray, List.set_cons_zero, List.set_cons_succ]
    refine wpAnyZ_take (oi := ⟨_, _, _, _, _, _⟩) (i := 22) (v := undef) rfl (by kernel_rfl) (fun _ _ _ h => h) (Or.inr ⟨by rfl, rfl⟩) hS ?_
    try simp only [Act.put, List.setIfInBounds_toArray, List.set_cons_zero, List.set_cons_succ]
    refine wpAnyZ_take (oi := ⟨_, _, _, _, _, _⟩) (i := 23) (v := undef) rfl (by kernel_rfl) (fun _ _ _ h => h) (Or.inr ⟨by rfl, rfl⟩) hS ?_
    try simp only [Act.put, List.setIfInBounds_toArray, List.set_cons_zero, List.set_cons_succ]
    refine wpAnyZ_take (oi := ⟨_, _, _, _, _, _⟩) (i := 24) (v := undef) rfl (by kernel_rfl) (fun _ _ _ h => h) (Or.inr ⟨by rfl, rfl⟩) hS ?_
    try simp only [Act.put, List.setIfInBounds_toArray, List.set_cons_zero, List.set_cons_succ]
    refine wpAnyZ_take (oi := ⟨_, _, _, _, _, _⟩) (i := 25) (v := undef) rfl (by kernel_rfl) (fun _ _ _ h => h) (Or.inr ⟨by rfl, rfl⟩) hS ?_
    try simp only [Act.put, List.setIfInBounds_toArray, List.set_cons_zero, List.set_cons_succ]
    refine wpAnyZ_take (oi := ⟨_, _, _, _, _, _⟩) (i := 26) (v := undef) rfl (by kernel_rfl) (fun _ _ _ h => h) (Or.inr ⟨by rfl, rfl⟩) hS ?_
    try simp only [Act.put, List.setIfInBounds_toArray, List.set_cons_zero, List.set_cons_succ]
    refine wpAnyZ_take (oi := ⟨_, _, _, _, _, _⟩) (i := 27) (v := undef) rfl (by kernel_rfl) (fun _ _ _ h => h) (Or.inr ⟨by rfl, rfl⟩) hS ?_
    try simp only [Act.put, List.setIfInBounds_toArray, List.set_cons_zero, List.set_cons_succ]
    refine wpAnyZ_take (oi := ⟨_, _, _, _, _, _⟩) (i := 28) (v := undef) rfl (by kernel_rfl) (fun _ _ _ h => h) (Or.inr ⟨by rfl, rfl⟩) hS ?_
    try simp only [Act.put, List.setIfInBounds_toArray, List.set_cons_zero, List.set_cons_succ]
    refine wpAnyZ_take (oi := ⟨_, _, _, _, _, _⟩) (i := 29) (v := undef) rfl (by kernel_rfl) (fun _ _ _ h => h) (Or.inr ⟨by rfl, rfl⟩) hS ?_
    try simp only [Act.put, List.setIfInBounds_toArray, List.set_cons_zero, List.set_cons_succ]
    refine wpAnyZ_take (oi := ⟨_, _, _, _, _, _⟩) (i := 30) (v := undef) rfl (by kernel_rfl) (fun _ _ _ h => h) (Or.inr ⟨by rfl, rfl⟩) hS ?_
    try simp only [Act.put, List.setIfInBounds_toArray, List.set_cons_zero, List.set_cons_succ]
    refine wpAnyZ_take (oi := ⟨_, _, _, _, _, _⟩) (i := 31) (v := undef) rfl (by kernel_rfl) (fun _ _ _ h => h) (Or.inr ⟨by rfl, rfl⟩) hS ?_
    try simp only [Act.put, List.setIfInBounds_toArray, List.set_cons_zero, List.set_cons_succ]
    refine wpAnyZ_take (oi := ⟨_, _, _, _, _, _⟩) (i := 32) (v := .bool true) rfl (by kernel_rfl) (fun _ _ _ h => h) (Or.inl ⟨by rfl, fun _ _ => by go_simp⟩) hS ?_
    try simp only [Act.put, List.setIfInBounds_toArray, List.set_cons_zero, List.set_cons_succ]
    refine wpAnyZ_take (oi := ⟨_, _, _, _, _, _⟩) (i := 33) (v := .bool true) rfl (by kernel_rfl) (fun _ _ _ h => h) (Or.inl ⟨by rfl, fun _ _ => by go_simp⟩) hS ?_
    try simp only [Act.put, List.setIfInBounds_toArray, List.set_cons_zero, List.set_cons_succ]
    refine wpAnyZ_take (oi := ⟨_, _, _, _, _, _⟩) (i := 34) (v := .bool true) rfl (by kernel_rfl) (fun _ _ _ h => h) (Or.inl ⟨by rfl, fun _ _ => by go_simp⟩) hS ?_
    try simp only [Act.put, List.setIfInBounds_toArray, List.set_cons_zero, List.set_cons_succ]
    refine wpAnyZ_done (by kernel_rfl) ?_ _
    try simp only [Act.put, List.setIfInBounds_toArray, List.set_cons_zero, List.set_cons_succ]
    go_wp2_with fail
    go_ret
    exact ⟨rfl, B9.out⟩

set_option maxRecDepth 100000 in
theorem lifted (os : Os) (started : os.Started) (H : Type) (enc : TypeId × Value → H) :
    ReturnsInHanded {} Try.checked os 5 .any (Rows.headerMarksSpec.pre6 enc Try.prog Try.f5 Rows.headerMarksRow.domain false) (Rows.headerMarksSpec.post enc Try.prog Try.f5 false true false false) := by
  refine returnsInHanded_of_change_sized (C := Try.checked) own started (by kernel_rfl) Try.func5
    (ChangeSpec.witness6 (enc := enc) (C := Try.checked) false ⟨#[], #[.slice none 0 0, .int .i64 0, .bool false, .bool false], []⟩ 8 (by kernel_rfl) (by kernel_rfl) (by kernel_rfl) (by kernel_rfl)) ?_
  intro W base args ds gs before hval0 hW _ hsz0 _
  have hsz : (DataW.weightsEach Try.prog (Try.f5.params.toList ++ Rows.headerMarksSpec.plain.varTypes Try.prog) (ds ++ gs)).all (· ≤ reachBytes) = true := hsz0
  clear hsz0
  have hval : ∀ (j : Nat) t v, Try.f5.params[j]? = some t → args[j]? = some v → Value.okWide Try.prog W .any base t v := hval0
  have hW' := hW
  obtain ⟨p, q, hA0, hV, rfl, _, _⟩ := hW
  have hA : DataW.TrodAll enc Try.prog W 0 (fun _ => true) true Try.f5.params.toList args.toList ds p := hA0
  rw [Try.params5] at hA hval hsz
  obtain ⟨v0, vs0, d0, ds0, p0, q0, hargs, rfl, rfl, h0, r0⟩ := trodAll_cons hA
  obtain ⟨v1, vs1, d1, ds1, p1, q1, rfl, rfl, rfl, h1, r1⟩ := trodAll_cons r0
  obtain ⟨v2, vs2, d2, ds2, p2, q2, rfl, rfl, rfl, h2, r2⟩ := trodAll_cons r1
  obtain ⟨v3, vs3, d3, ds3, p3, q3, rfl, rfl, rfl, h3, r3⟩ := trodAll_cons r2
  obtain ⟨rfl, rfl, rfl⟩ := trodAll_nil r3
  obtain rfl : args = #[v0, v1, v2, v3] := by cases args; simp_all
  obtain ⟨rfl, rfl⟩ := trodVars_none hV
  obtain ⟨A0, len0, c0, rfl⟩ := okWide_slice Try.underlying22 (hval 0 22 v0 rfl rfl)
  have k0 := h0
  have lt0 : ∀ x ∈ p0, x.block < W.heap.size := by obtain ⟨m, hm⟩ := k0; exact DataW.trod_lt m _ _ _ hm
  have q0 := bytes_cap h0
  obtain ⟨x0, rfl, b0, s0⟩ := bytes_in h0
  have l0 := s0 _ _ 0 hsz rfl rfl
  obtain ⟨a1, rfl, rfl, rfl, w1⟩ := open_int Try.underlying2 (hval 1 2 v1 rfl rfl) h1
  obtain ⟨a2, rfl, rfl, rfl⟩ := open_bool Try.underlying4 (hval 2 4 v2 rfl rfl) h2
  obtain ⟨a3, rfl, rfl, rfl⟩ := open_bool Try.underlying4 (hval 3 4 v3 rfl rfl) h3
  clear hA0 hval0
  refine (walk A0 x0 c0 a1 a2 a3 W b0 l0 q0 w1  ).mono fun e W' ⟨he, bel⟩ => ?_
  subst he
  exact ⟨_, rfl, _, _, _, [], _, [], hW', trodAll_mk1 (shut_bool Try.underlying4 _), (trodAll_cons_mk (Below.trod laidOut (by kernel_rfl) (of_decide_eq_true (by kernel_rfl)) k0 bel lt0) (trodAll_cons_mk (shut_int Try.underlying2 w1) (trodAll_cons_mk (shut_bool Try.underlying4 _) (trodAll_cons_mk (shut_bool Try.underlying4 _) trodAll_mk0)))), rfl, bel.frame _, fun h => by cases h⟩

theorem proved : Rows.HeaderMarksSaid :=
  OpenClaim.holds_of_wide 5 Try.f5 rfl rfl rfl rfl rfl rfl rfl ⟨rfl, rfl, rfl, rfl, rfl⟩ rfl rfl rfl rfl rfl (by kernel_rfl) Try.func5 (by kernel_rfl)
    (of_decide_eq_true (by kernel_rfl)) (by unfold Func.isWrapper; first | (rw [if_pos (by decide +kernel)]; kernel_rfl) | (rw [if_neg (by decide +kernel)]; exact ⟨rfl, rfl⟩))
    (fun os started H enc _ => lifted os started H enc)
#print axioms proved
end Go.Proofs.Ythmlhjjcihibnaa.headerMarks
