/-
  WalkShadowOld
-/
import Derived.Test.YtacghpabjmnfiaaGreatDoorGA
import Derived.WalkKit
import Derived.ProofKit
import Derived.OpenShut
import Derived.Deep.DeepHandedRow
import Derived.Lib.LaidTab
import Derived.ChangeOld
import Derived.Below
import Derived.Deep.QuietTactic
import Derived.BigQuiet
import Derived.WalkSmall
import Derived.Test.YtacghpabjmnfiaaGreatDoorShAwake
import Derived.Test.YtacghpabjmnfiaaGreatDoorGShI
import Derived.Test.YtacghpabjmnfiaaGreatDoorWkErr
import Derived.Test.YtacghpabjmnfiaaGreatDoorTrLoad
import Derived.Test.YtacghpabjmnfiaaGreatDoorGLe
import Derived.Test.YtacghpabjmnfiaaGreatDoorActIn
import Derived.Test.YtacghpabjmnfiaaGreatDoorGDo
import Derived.Test.YtacghpabjmnfiaaGreatDoorCapIn
namespace Go.Proofs.YtacghpabjmnfiaaGreatDoor.shadowOld
open Go.ChangeShapes Go.WideShapes Go.ChangeAt Go.RowKit Sp
set_option linter.unusedVariables false

set_option maxRecDepth 100000 in
theorem fate_arg {H : Type} {enc : TypeId × Value → H} {W : World} {r : Reach} {b0 : Nat} {v : Value} {d : DataW H} {p : List MemPlace} (hv : Value.okWide Tryz.prog W r b0 68 v) (h : DataW.Trod enc Tryz.prog W 0 (fun _ => true) true 68 v d p) : ∃ f : Fate, v = agf f ∧ f.Ok := by
  obtain ⟨cs, rfl, hsz⟩ := okWide_struct Tryz.underlying68 hv
  obtain ⟨fuel, hf⟩ := h
  obtain ⟨f, e, ho⟩ := fate_in hf
  refine ⟨f, ?_, ho⟩
  have : (Value.agg cs).cells = cs := rfl
  rw [this] at e
  unfold agf
  rw [Array.toList_inj.1 e]

set_option maxRecDepth 100000 in
set_option maxHeartbeats 1000000 in
theorem walk (A0 : Option Addr) (x0 : List UInt8) (c0 : Nat) (a1 : Int) (A2 : Option Addr) (l2 : List ChV) (c2 : Nat) (f3 : Fate) (w : World) (b0 : BR w w.heap.size A0 x0) (l0 : x0.length ≤ 140737488351232) (q0 : x0.length ≤ c0) (w1 : (Lit.int .i64 a1).wf = true) (o2 : CR w w.heap.size A2 l2) (m2 : l2.length ≤ 4398046511104) (o3 : f3.Ok) (hT : Tab w) :
    Calls Tryz.prog 6 #[.slice A0 x0.length c0, .int .i64 a1, .slice A2 l2.length c2, agf f3] w fun e w' => e = .returned (.bool true) ∧ Below w.heap.size w w' := by
  have ha1 := i64_of_wf w1
  have hT2 : Sp.Tab (w.alloc (.cells (fcells f3) 68)) := hT.keeps (Keeps.alloc (fun _ => False) _ _) (fun h => h)
  have bx : Below w.heap.size w (w.alloc (.cells (fcells f3) 68)) := (Below.refl _ _).alloc (Nat.le_refl _) _
  have eF := heap_alloc_new w (.cells (fcells f3) 68)
  have hx1 := (b0.below bx).more bx.size
  have hc1 := (o2.below bx).more bx.size
  have sF : w.heap.size < (w.alloc (.cells (fcells f3) 68)).heap.size := by simp
  have BX := Lib.hid (box33 w f3)
  go_enter Tryz.func6, Tryz.ntmps6
  go_wp2_with ((with_reducible refine at_ (op := .box 68 (.tmp 3)) ?_); refine wpList_val rfl _ (ex_box 68 (.tmp 3) rfl _ _ rfl BX.out) ?_)
  clear BX
  generalize w.alloc (.cells (fcells f3) 68) = wa at *
  refine (shAwake_any _ hT2).mono ?_
  rintro e w1 ⟨rfl, b1⟩
  have hc2 := (hc1.below b1).more b1.size
  have hx2 := (hx1.below b1).more b1.size
  have eF1 := (b1.block _ sF).trans eF
  have sF1 := Nat.lt_of_lt_of_le sF b1.size
  have bw1 := bx.trans (b1.mono bx.size)
  have tb1 := hT2.keeps (keeps_below b1) (fun h => h)
  clear hx1 hc1 bx hT2 eF sF
  go_wp2_with fail
  refine (few_any A0 x0.length c0 A2 l2 c2 w1 hc2 m2).mono ?_
  rintro e w2 ⟨⟨b, rfl⟩, b2⟩
  have hc3 := (hc2.below b2).more b2.size
  have hx3 := (hx2.below b2).more b2.size
  have eF2 := (b2.block _ sF1).trans eF1
  have sF2 := Nat.lt_of_lt_of_le sF1 b2.size
  have bw2 := bw1.trans (b2.mono bw1.size)
  have tb2 := tb1.keeps (keeps_below b2) (fun h => h)
  clear hx2 hc2 b1 b2 eF1 sF1 bw1 tb1
  cases b
  · go_wp2_with fail
    go_ret
    exact ⟨rfl, bw2⟩
  · go_wp2_with fail
    refine (of_long A0 x0 c0 w2 hx3 (by omega) q0).mono ?_
    rintro e w3 ⟨p, rfl, hd3, k3⟩
    have hx4 := k3.br hx3 fun _ _ _ h => h
    clear hx3
    go_wp2_with fail
    refine (refOf_long A0 x0 c0 w3 hx4 (by omega) q0).mono ?_
    rintro e w4 ⟨q, v, G, rfl, hn4⟩
    have hr4 := hn4.rd (ofD_ok (x0.take 128000) (by simp; omega)) rfl rfl rfl rfl fun i hi => by
      show fillR (x0.take 128000) (nBytes (x0.take 128000).length) i = sec (padded (x0.take 128000)) i
      unfold fillR
      rw [if_pos hi]
    have hD : (ofD (x0.take 128000)).Ok (nBytes (x0.take 128000).length) := ofD_ok _ (by simp; omega)
    have hQ0 : (ofD (x0.take 128000)).Q = [] := rfl
    have hdn : (ofD (x0.take 128000)).down = false := rfl
    have hlf : (ofD (x0.take 128000)).left = -1 := rfl
    have hac : (ofD (x0.take 128000)).acts = 0 := rfl
    have s4 := hn4.kp.size
    have s3 := k3.size
    have hd4 := (hd3.mono (G := fun k => w2.heap.size ≤ k ∧ k < w3.heap.size) (fun k hk h => ⟨h, hk⟩)).keep hn4.kp (fun _ _ _ h => h)
    have hc4 : CR w4 w2.heap.size A2 l2 := hc3.keep fun q hq => World.cell?_of_block ((k3.trans hn4.kp).block q.block hq (fun h => h))
    have eF4 := ((k3.trans hn4.kp).block _ sF2 (fun h => h)).trans eF2
    have tb4 := tb2.keeps (k3.trans hn4.kp) (fun h => h)
    have kw4 : Keeps (fun _ => False) w2 w4 := k3.trans hn4.kp
    clear hd3 k3 hx4 hn4 hc3 eF2 tb2
    generalize hDD : ofD (x0.take 128000) = D at *
    generalize nBytes (x0.take 128000).length = n at *
    have HDD := Lib.hid hDD
    clear hDD
    obtain ⟨n', sv, wv, svs, ws, hr⟩ := hr4
    obtain rfl : n' = n := by have h1 := hr.ok.len; have h2 := hD.len; omega
    go_wp2_with fail
    refine (tread_at hr hdn (by rw [hQ0]; exact Nat.zero_le _) a1).mono ?_
    rintro e w5 hout
    obtain ⟨b5, t, lv, pg, l, R, c, rfl, o5, hlv, hpg, hll, hX⟩ := readOut_both hout
    clear hout
    have t1 := TrAt.box w5 (top := 0) (lv := z4) (pg := z128) (v := nilS) (by simp [z4]) (by simp [z128])
    have A1 := Lib.hid (allocTr w5)
    obtain ⟨w6, S6, t6, k6⟩ := t1.store (top' := t) (lv' := lv) (pg' := pg) (R' := R) (m := l.length) (c := c) hlv hpg
    have s5 := b5.size
    have k56 : Keeps (fun _ => False) w5 w6 := ⟨k6.os, k6.tape, k6.output, by have := k6.size; simp at this; omega, fun b hb _ => (k6.block b (by simp; omega) (by omega)).trans (Below.heap_alloc _ _ _ hb)⟩
    have k46 : Keeps (fun _ => False) w4 w6 := (keeps_below b5).trans k56
    have z6 := (o5.ir.keep k56).zr
    have c133 := t6.list
    have hr6 := hr.keep k46 (fun _ _ _ h => h)
    have hd6 := hd4.keep k46 (fun _ _ _ h => h)
    have hc6 : CR w6 w2.heap.size A2 l2 := hc4.keep fun q hq => World.cell?_of_block (k46.block q.block (by omega) (fun h => h))
    have eF6 := (k46.block _ (by omega) (fun h => h)).trans eF4
    have tb6 := tb4.keeps k46 (fun h => h)
    have kw6 := kw4.trans k46
    obtain ⟨d0, _⟩ := hr6.c
    have S6' := Lib.hid S6
    have LT5 := Lib.hid (show w5.heap.size < w6.heap.size from (Array.getElem?_eq_some_iff.1 t6.head).1)
    have s6 := k46.size
    clear S6 t1 t6 k6 o5 k56 k46 hr hd4 hc4 eF4 tb4 kw4 b5
    go_wp2_with (first
      | ((with_reducible refine at_ (op := .alloc 47) ?_); refine wpList_val rfl _ (ex_alloc 47 rfl _ A1.out) ?_)
      | ((with_reducible refine here (op := .store 47 (.tmp 11) (.tmp 33)) ?_); refine wpList_store_run rfl 47 _ _ rfl _ _ rfl rfl S6'.out ?_))
    obtain ⟨A', cap', rfl⟩ := hr6.svf
    have HX := Lib.hid hX
    have HS : (fun W : World => W.cell? ⟨q, 0, none⟩ = some (.slice A' n' cap') ∧ W.cell? ⟨w5.heap.size, 133, none⟩ = some (.slice R l.length c)) w6.drew := ⟨d0, c133⟩
    have lq : q < w6.heap.size := hr6.plt
    have lt5 : w5.heap.size < w6.heap.size := LT5.out
    have zl : ((l.map fun (k : Nat) => (k : Int)).length) = l.length := by simp
    have hheld := held_any (n' : Int) R (l.map fun (k : Nat) => (k : Int)) c w6.drew (z6.keep (Keeps.drew (fun _ => False) w6) (Nat.le_refl _) (fun _ _ h => h)) (by rw [zl]; have := hD.n_le; omega)
    rw [zl, show Sp.nS (n' : Int) = n' from by unfold Sp.nS; have := hD.n_le; omega] at hheld
    have kd6 : Keeps (fun _ => False) w6 w6.drew := Keeps.drew _ _
    clear hX d0 c133 A1 S6' zl z6
    generalize hEE : errT (readT D n' a1) = E at *
    have HE := Lib.hid hEE
    clear hEE
    refine wp_region_held (S := fun W : World => W.cell? ⟨q, 0, none⟩ = some (.slice A' n' cap') ∧ W.cell? ⟨w5.heap.size, 133, none⟩ = some (.slice R l.length c)) (by kernel_rfl) ?_
    change wpAnyH _ _ _ _ _ _ _ _ w6.drew
    refine wpAnyH_take (oi := ⟨_, _, _, _, _, _⟩) (i := 0) (v := .pointer (some ⟨q, 0, none⟩)) rfl (by kernel_rfl) (by kernel_rfl) (by kernel_rfl) (fun _ _ _ h => h) (Or.inl ⟨by rfl, fun _ _ => rfl⟩) HS ?_
    simp only [Act.put, List.setIfInBounds_toArray, List.set_cons_zero, List.set_cons_succ]
    refine wpAnyH_take (oi := ⟨_, _, _, _, _, _⟩) (i := 1) (v := .pointer (some ⟨q, 0, none⟩)) rfl (by kernel_rfl) (by kernel_rfl) (by kernel_rfl) (fun _ _ _ h => h) (Or.inl ⟨by rfl, fun _ _ => by go_simp⟩) HS ?_
    simp only [Act.put, List.setIfInBounds_toArray, List.set_cons_zero, List.set_cons_succ]
    refine wpAnyH_take (oi := ⟨_, _, _, _, _, _⟩) (i := 2) (v := .pointer (some ⟨q, 0, none⟩)) rfl (by kernel_rfl) (by kernel_rfl) (by kernel_rfl) (fun _ _ _ h => h) (Or.inl ⟨by rfl, fun _ _ => by go_simp⟩) HS ?_
    simp only [Act.put, List.setIfInBounds_toArray, List.set_cons_zero, List.set_cons_succ]
    refine wpAnyH_take (oi := ⟨_, _, _, _, _, _⟩) (i := 3) (v := .slice A' n' cap') rfl (by kernel_rfl) (by kernel_rfl) (by kernel_rfl) (fun _ _ _ h => h) (yif_load rfl 54 (.tmp 38) rfl _ _ rfl fun w h => load_one aggB2 h.1) HS ?_
    simp only [Act.put, List.setIfInBounds_toArray, List.set_cons_zero, List.set_cons_succ]
    refine wpAnyH_take (oi := ⟨_, _, _, _, _, _⟩) (i := 4) (v := .int .i64 (n' : Int)) rfl (by kernel_rfl) (by kernel_rfl) (by kernel_rfl) (fun _ _ _ h => h) (Or.inl ⟨by rfl, fun _ _ => by go_simp⟩) HS ?_
    simp only [Act.put, List.setIfInBounds_toArray, List.set_cons_zero, List.set_cons_succ]
    refine wpAnyH_take (oi := ⟨_, _, _, _, _, _⟩) (i := 5) (v := .pointer (some ⟨w5.heap.size, 133, none⟩)) rfl (by kernel_rfl) (by kernel_rfl) (by kernel_rfl) (fun _ _ _ h => h) (Or.inl ⟨by rfl, fun _ _ => by go_simp⟩) HS ?_
    simp only [Act.put, List.setIfInBounds_toArray, List.set_cons_zero, List.set_cons_succ]
    refine wpAnyH_take (oi := ⟨_, _, _, _, _, _⟩) (i := 6) (v := .slice R l.length c) rfl (by kernel_rfl) (by kernel_rfl) (by kernel_rfl) (fun _ _ _ h => h) (yif_load rfl 43 (.tmp 41) rfl _ _ rfl fun w h => load_one aggI1 h.2) HS ?_
    simp only [Act.put, List.setIfInBounds_toArray, List.set_cons_zero, List.set_cons_succ]
    refine wpAnyH_all (rs := [7]) (by kernel_rfl) (by simp) fun i hi => ?_
    obtain rfl : i = 7 := by simpa using hi
    refine op_call (om := ⟨_, _, _, _, _, _⟩) (fn := 24) (args := #[.int .i64 (n' : Int), .slice R l.length c]) (R := fun u w' => ∃ mp rq mi hi, u = .tuple #[.pointer (some ⟨mp, 0, none⟩), .pointer (some ⟨rq, 0, none⟩)] ∧ Sp.MapS w' w6.drew.heap.size mi mp (heldC n' (l.map fun (k : Nat) => (k : Int))) ∧ w6.drew.heap.size ≤ mi ∧ mi ≤ w'.heap.size ∧ Below w6.drew.heap.size w6.drew w') rfl rfl (by go_simp)
      (hheld.mono fun e w' ⟨mp, rq, mi, hi, he, h1, _, h3, h4, h5, h6⟩ => ⟨_, he, mp, rq, mi, hi, rfl, h1, h3, by omega, h6⟩) _ _ rfl rfl ?_
    rintro u w7 ⟨mp, rq, mi, hi', rfl, m7, hmi1, hmi2, b7⟩
    refine ⟨⟨(World.cell?_of_block (w := w6.drew) (b7.block q lq)).trans HS.1, (World.cell?_of_block (w := w6.drew) (b7.block w5.heap.size lt5)).trans HS.2⟩, ?_⟩
    have HS7 : (fun W : World => W.cell? ⟨q, 0, none⟩ = some (.slice A' n' cap') ∧ W.cell? ⟨w5.heap.size, 133, none⟩ = some (.slice R l.length c)) w7 := ⟨(World.cell?_of_block (w := w6.drew) (b7.block q lq)).trans HS.1, (World.cell?_of_block (w := w6.drew) (b7.block w5.heap.size lt5)).trans HS.2⟩
    clear hi hheld HS
    simp only [Act.put, List.setIfInBounds_toArray, List.set_cons_zero, List.set_cons_succ]
    refine wpAnyH_take (oi := ⟨_, _, _, _, _, _⟩) (i := 8) (v := .tuple #[.pointer (some ⟨mp, 0, none⟩), .pointer (some ⟨rq, 0, none⟩)]) rfl (by kernel_rfl) (by kernel_rfl) (by kernel_rfl) (fun _ _ _ h => h) (Or.inl ⟨by rfl, fun _ _ => rfl⟩) HS7 ?_
    simp only [Act.put, List.setIfInBounds_toArray, List.set_cons_zero, List.set_cons_succ]
    refine wpAnyH_take (oi := ⟨_, _, _, _, _, _⟩) (i := 9) (v := .pointer (some ⟨mp, 0, none⟩)) rfl (by kernel_rfl) (by kernel_rfl) (by kernel_rfl) (fun _ _ _ h => h) (Or.inl ⟨by rfl, fun _ _ => by go_simp⟩) HS7 ?_
    simp only [Act.put, List.setIfInBounds_toArray, List.set_cons_zero, List.set_cons_succ]
    refine wpAnyH_take (oi := ⟨_, _, _, _, _, _⟩) (i := 10) (v := .pointer (some ⟨rq, 0, none⟩)) rfl (by kernel_rfl) (by kernel_rfl) (by kernel_rfl) (fun _ _ _ h => h) (Or.inl ⟨by rfl, fun _ _ => by go_simp⟩) HS7 ?_
    simp only [Act.put, List.setIfInBounds_toArray, List.set_cons_zero, List.set_cons_succ]
    refine wpAnyH_take (oi := ⟨_, _, _, _, _, _⟩) (i := 11) (v := .pointer (some ⟨mp, 0, none⟩)) rfl (by kernel_rfl) (by kernel_rfl) (by kernel_rfl) (fun _ _ _ h => h) (Or.inl ⟨by rfl, fun _ _ => rfl⟩) HS7 ?_
    simp only [Act.put, List.setIfInBounds_toArray, List.set_cons_zero, List.set_cons_succ]
    refine wpAnyH_take (oi := ⟨_, _, _, _, _, _⟩) (i := 12) (v := .pointer (some ⟨rq, 0, none⟩)) rfl (by kernel_rfl) (by kernel_rfl) (by kernel_rfl) (fun _ _ _ h => h) (Or.inl ⟨by rfl, fun _ _ => rfl⟩) HS7 ?_
    simp only [Act.put, List.setIfInBounds_toArray, List.set_cons_zero, List.set_cons_succ]
    refine wpAnyH_done (by kernel_rfl) ?_ _
    clear HS7
    rcases HX.out with hs | ⟨hnone, _⟩
    · have hE0 : E = 0 := by rw [← HE.out, hs]; rfl
      subst hE0
      have hzn : (0 : Int) ≤ 0 := Int.le_refl 0
      have hnn := hD.n_eq
      have htop : readT D D.n a1 = some (lv, pg, l) := by rw [hnn]; exact hs
      have hE0' : errT (readT D D.n a1) = 0 := by rw [htop]; rfl
      have hbok : BOk D (heldC n' (l.map fun (k : Nat) => (k : Int))) l.length := by
        refine ⟨hdn, by omega, by rw [heldC_len]; omega, by rw [hQ0]; simp, by omega, ?_, by have := hD.n_le; omega, by rw [heldC_len]; exact hD.n_le⟩
        have := heldC_all n' (l.map fun (k : Nat) => (k : Int))
        rwa [List.length_map] at this
      have hd7 := (hd6.keep kd6 (fun _ _ _ h => h)).keep (keeps_below b7) (fun _ _ _ h => h)
      have hr7 := ((hr6.mono (G := fun b => w3.heap.size ≤ b ∧ b < w6.heap.size) (fun b hb h => ⟨h, hb⟩)).keep kd6 (fun _ _ _ h => h)).keep (keeps_below b7) (fun _ _ _ h => h)
      have tb7 := (tb6.keeps kd6 (fun h => h)).keeps (keeps_below b7) (fun h => h)
      have k67 : Keeps (fun _ => False) w6 w7 := kd6.trans (keeps_below b7)
      have hc7 : CR w7 w2.heap.size A2 l2 := hc6.keep fun q hq => World.cell?_of_block (k67.block q.block (by omega) (fun h => h))
      have eF7 := (k67.block _ (by omega) (fun h => h)).trans eF6
      have kw7 := kw6.trans k67
      have s7 := k67.size
      have hpos := tb7.pos
      have hs67 : w6.drew.heap.size = w6.heap.size := rfl
      have hpos2 : 0 < w2.heap.size := by have := bw2.size; omega
      have hbuild := build_at hd7 m7 tb7 hbok hmi2 (by omega) (fun k hk _ => by omega) a1 a1.toNat (E := 0) (fun lb mb n iv => show ReachE p lb mb n iv D a1 0 from by rw [← hE0']; exact reachE_any hdn p lb mb n iv a1 ha1.1 ha1.2) (fun _ => top_ok hE0') A2 l2 c2 (hc7.more (by omega)) m2
      have HBO := Lib.hid hbok
      have HTOP := Lib.hid hs
      clear hs htop hE0' hbok hd6 hr6 tb6 hc6 eF6 kw6 kd6 b7 m7 hnn tb7 hc7 HX HE
      go_wp2_with fail
      refine hbuild.mono ?_
      rintro e w8 hbo
      obtain ⟨u1, u2, s, rfl, hlay, hok8, hq8, ⟨Fd', hd8, hf8⟩, k8⟩ := build_out hbo HBO.out hD hQ0 hd7
      clear hbo hbuild hd7
      have hr8 := hr7.keep k8 (fun b hb h => by omega)
      have eF8 := (k8.block _ (by omega) (by omega)).trans eF7
      have s8 := k8.size
      have LF := Lib.hid (load33 eF8)
      have bw8 : Below w2.heap.size w2 w8 := (kw7.toBelow w2.heap.size (Nat.le_refl _) (fun _ h => h.elim)).trans (k8.toBelow w2.heap.size kw7.size (fun k h => by omega))
      have hrst := restart_any hd8 f3 o3 (by omega)
      clear hr7 k8 eF8 eF7 kw7 k67 hd8
      go_wp2_with ((with_reducible refine here (op := .load 68 (.tmp 7)) ?_); refine wpList_load_run rfl 68 _ rfl _ _ rfl LF.out ?_)
      clear LF
      refine hrst.mono ?_
      rintro e w9 ⟨rfl, hd9, k9⟩
      have hr9 := hr8.keep k9 (fun b hb h hf => by have := hf8 b hf; omega)
      have bw9 := bw8.trans (k9.toBelow w2.heap.size bw8.size (fun k hf => by have := hf8 k hf; omega))
      clear hr8 k9 hrst bw8
      obtain ⟨hL, hrd, hmem⟩ := old_same hD hQ0 hdn hlay hok8 f3 HTOP.out hpg (fun k hk => by
        have h2 := readT_rng HTOP.out k hk
        have := held_in (N := n') (zs := l.map fun (k : Nat) => (k : Int)) (x := (k : Int)) (List.mem_map.2 ⟨k, hk, rfl⟩) (by omega) (by omega)
        simpa using this)
      have hnB : nBytes (((s.D.restart f3).L.take 128000).length) = n' := by
        rw [List.take_of_length_le (by have := hD.n_le; omega)]
        exact (padded_full hL).2
      obtain ⟨lb9, mb9, m9, iv9, hda9, _⟩ := hd9
      have hm9 : m9 = n' := by have := hda9.ok.len; omega
      subst hm9
      have hby := bytes_row hda9
      have HL := Lib.hid hL
      have HRD := Lib.hid hrd
      have HMEM := Lib.hid hmem
      have HNB := Lib.hid hnB
      clear hlay hok8 hq8 hL hrd hmem hnB hda9 hf8
      generalize (s.D.restart f3).L = L9 at *
      go_wp2_with fail
      refine hby.mono ?_
      rintro e w10 ⟨rfl, row10, b10⟩
      have hr10 := hr9.keep (keeps_below b10) (fun _ _ _ h => h)
      have bw10 := bw9.trans (b10.mono bw9.size)
      have br10 := row10.br
      have hL64 : m9 * 64 = L9.length := by rw [HL.out]; omega
      rw [hL64]
      clear hr9 b10 bw9 hby row10
      go_wp2_with fail
      refine (refOf_long _ L9 L9.length w10 br10 (by have := hD.n_le; omega) (Nat.le_refl _)).mono ?_
      rintro e w11 ⟨q2, v2, G2, rfl, hn11⟩
      have hr11 := hn11.rd (ofD_ok (L9.take 128000) (by simp; omega)) rfl rfl rfl rfl fun i hi => by
        show fillR (L9.take 128000) (nBytes (L9.take 128000).length) i = sec (padded (L9.take 128000)) i
        unfold fillR
        rw [if_pos hi]
      have hok11 : (ofD (L9.take 128000)).Ok m9 := by
        have := ofD_ok (L9.take 128000) (by simp; omega)
        rwa [HNB.out] at this
      have hr10' := hr10.keep hn11.kp (fun _ _ _ h => h)
      have bw11 := bw10.trans (hn11.kp.toBelow w2.heap.size bw10.size (fun _ h => h.elim))
      have hdn11 : (ofD (L9.take 128000)).down = false := rfl
      have hQ11 : (ofD (L9.take 128000)).Q = [] := rfl
      clear hr10 hn11 br10 bw10 hL64
      generalize ofD (L9.take 128000) = D9 at *
      obtain ⟨n2, sv2, wv2, svs2, ws2, hr11⟩ := hr11
      obtain rfl : n2 = m9 := by have h1 := hr11.ok.len; have h2 := hok11.len; omega
      have hld := tload_at hr11 hdn11 (by rw [hQ11]; exact Nat.zero_le _) a1
      rw [HRD.out] at hld
      clear hr11
      go_wp2_with fail
      refine hld.mono ?_
      rintro e w12 ⟨b12, ⟨lv', pg', l', g12, he, rfl, row12⟩ | ⟨he, _⟩⟩
      · injection he with he
        injection he with e1 he
        injection he with e2 e3
        subst e1 e2 e3
        have hr12 := hr10'.keep (keeps_below b12) (fun _ _ _ h => h)
        have bw12 := bw11.trans (b12.mono bw11.size)
        have hlo := tload_at hr12 hdn (by rw [hQ0]; exact Nat.zero_le _) a1
        rw [HTOP.out] at hlo
        have row12' : Row8 w12 g12 5 (memTo D pg 128) := by rw [← HMEM.out]; exact row12
        have lt12 := row12'.br
        clear hr10' hld b12 bw11 row12 hr12
        go_wp2_with fail
        refine hlo.mono ?_
        rintro e w13 ⟨b13, ⟨lv', pg', l', g13, he, rfl, row13⟩ | ⟨he, _⟩⟩
        · injection he with he
          injection he with e1 he
          injection he with e2 e3
          subst e1 e2 e3
          have br12 := (lt12.below b13).more b13.size
          have br13 := row13.br
          have hl8 : (memTo D pg 128).length = 8192 := memTo_len hD pg 128 (by omega)
          have cv12 := run_str (P := Tryz.prog) w13 _ 30 9 5 _ (memTo D pg 128) 8192 br12 Tryz.underlying30 Tryz.underlying5 Tryz.underlying9
          have cv13 := run_str (P := Tryz.prog) w13 _ 30 9 5 _ (memTo D pg 128) 8192 br13 Tryz.underlying30 Tryz.underlying5 Tryz.underlying9
          rw [hl8] at cv12 cv13
          have HFIN := Lib.hid (bw2.trans ((bw12.trans (b13.mono bw12.size)).mono bw2.size))
          clear hl8 br12 br13 row13 b13 bw12 hlo lt12 row12'
          generalize memTo D pg 128 = zs at *
          go_wp2_with fail
          go_ret
          exact ⟨rfl, HFIN.out⟩
        · cases he
      · cases he
    · have hE0 : E = 60 := by rw [← HE.out, hnone]; rfl
      subst hE0
      have hfin := bw2.trans (((kw6.trans kd6).trans (keeps_below b7)).toBelow w2.heap.size (Nat.le_refl _) (fun _ h => h.elim) |>.mono bw2.size)
      clear hnone HX HE
      go_wp2_with fail
      go_ret
      exact ⟨rfl, hfin⟩

end Go.Proofs.YtacghpabjmnfiaaGreatDoor.shadowOld
