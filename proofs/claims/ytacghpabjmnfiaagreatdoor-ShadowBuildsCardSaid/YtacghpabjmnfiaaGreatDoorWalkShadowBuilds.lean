/-
  WalkShadowBuilds
-/
import Derived.Test.YtacghpabjmnfiaaGreatDoorGA
import Derived.WalkKit
import Derived.ProofKit
import Derived.OpenShut
import Derived.Deep.DeepHandedRow
import Derived.Lib.LaidTab
import Derived.ChangeOld
import Derived.Below
import Derived.Deep.QuietTactic
import Derived.BigQuiet
import Derived.WalkSmall
import Derived.Test.YtacghpabjmnfiaaGreatDoorShAwake
import Derived.Test.YtacghpabjmnfiaaGreatDoorGShI
import Derived.Test.YtacghpabjmnfiaaGreatDoorShInts
import Derived.Test.YtacghpabjmnfiaaGreatDoorWkErr
import Derived.Test.YtacghpabjmnfiaaGreatDoorTrLoad
import Derived.Test.YtacghpabjmnfiaaGreatDoorActIn
import Derived.Test.YtacghpabjmnfiaaGreatDoorGDo
import Derived.Test.YtacghpabjmnfiaaGreatDoorCapIn
import Derived.Test.YtacghpabjmnfiaaGreatDoorGSu
import Derived.Test.YtacghpabjmnfiaaGreatDoorSbPlain
import Derived.Test.YtacghpabjmnfiaaGreatDoorGCc
import Derived.Test.YtacghpabjmnfiaaGreatDoorShDone
import Derived.Test.YtacghpabjmnfiaaGreatDoorRdOfL
namespace Go.Proofs.YtacghpabjmnfiaaGreatDoor.shadowBuilds
open Go.ChangeShapes Go.WideShapes Go.ChangeAt Go.RowKit Sp
set_option linter.unusedVariables false

set_option maxRecDepth 100000 in

set_option maxHeartbeats 1000000 in
theorem walk (A0 : Option Addr) (x0 : List UInt8) (c0 : Nat) (a1 : Int) (A2 : Option Addr) (l2 : List ChV) (c2 : Nat) (A3 : Option Addr) (l3 : List Int) (c3 : Nat) (w : World) (b0 : BR w w.heap.size A0 x0) (l0 : x0.length ≤ 140737488351232) (q0 : x0.length ≤ c0) (w1 : (Lit.int .i64 a1).wf = true) (o2 : CR w w.heap.size A2 l2) (m2 : l2.length ≤ 4398046511104) (o3 : ZR w w.heap.size A3 l3) (m3 : l3.length ≤ 17592186044416) (hT : Tab w) :
    Calls Tryz.prog 5 #[.slice A0 x0.length c0, .int .i64 a1, .slice A2 l2.length c2, .slice A3 l3.length c3] w fun e w' => e = .returned (.bool true) ∧ Below w.heap.size w w' := by
  have ha1 := i64_of_wf w1
  have hp0 := hT.pos
  go_enter Tryz.func5, Tryz.ntmps5
  go_wp2_with fail
  refine (shAwake_any _ hT).mono ?_
  rintro e w1 ⟨rfl, b1⟩
  have hc1 := (o2.below b1).more b1.size
  have hx1 := (b0.below b1).more b1.size
  have tb1 := hT.keeps (keeps_below b1) (fun h => h)
  go_wp2_with fail
  refine (few_any A0 x0.length c0 A2 l2 c2 w1 hc1 m2).mono ?_
  rintro e w2 ⟨⟨b, rfl⟩, b2⟩
  have hc2 := (hc1.below b2).more b2.size
  have hx2 := (hx1.below b2).more b2.size
  have bw2 := b1.trans (b2.mono b1.size)
  have tb2 := tb1.keeps (keeps_below b2) (fun h => h)
  clear hx1 hc1 b1 b2 tb1
  cases b
  · go_wp2_with fail
    go_ret
    exact ⟨rfl, bw2⟩
  · by_cases hl300 : l3.length ≤ 300
    · have hx300 : decide ((l3.length : Int) > 300) = false := by simp; omega
      go_wp2_with fail
      refine (of_long A0 x0 c0 w2 hx2 (by omega) q0).mono ?_
      rintro e w3 ⟨p, rfl, hd3, k3⟩
      have hx4 := k3.br hx2 fun _ _ _ h => h
      clear hx2
      go_wp2_with fail
      refine (refOf_long A0 x0 c0 w3 hx4 (by omega) q0).mono ?_
      rintro e w4 ⟨q, v, G, rfl, hn4⟩
      have hr4 := hn4.rd (ofD_ok (x0.take 128000) (by simp; omega)) rfl rfl rfl rfl fun i hi => by
        show fillR (x0.take 128000) (nBytes (x0.take 128000).length) i = sec (padded (x0.take 128000)) i
        unfold fillR
        rw [if_pos hi]
      have hD : (ofD (x0.take 128000)).Ok (nBytes (x0.take 128000).length) := ofD_ok _ (by simp; omega)
      have hQ0 : (ofD (x0.take 128000)).Q = [] := rfl
      have hdn : (ofD (x0.take 128000)).down = false := rfl
      have hlf : (ofD (x0.take 128000)).left = -1 := rfl
      have hac : (ofD (x0.take 128000)).acts = 0 := rfl
      have s4 := hn4.kp.size
      have s3 := k3.size
      have hd4 := (hd3.mono (G := fun k => w2.heap.size ≤ k ∧ k < w3.heap.size) (fun k hk h => ⟨h, hk⟩)).keep hn4.kp (fun _ _ _ h => h)
      have hc4 : CR w4 w2.heap.size A2 l2 := hc2.keep fun q hq => World.cell?_of_block ((k3.trans hn4.kp).block q.block hq (fun h => h))
      have tb4 := tb2.keeps (k3.trans hn4.kp) (fun h => h)
      have kw4 : Keeps (fun _ => False) w2 w4 := k3.trans hn4.kp
      clear hd3 k3 hx4 hn4 hc2 tb2
      generalize hDD : ofD (x0.take 128000) = D at *
      generalize nBytes (x0.take 128000).length = n at *
      clear hDD
      obtain ⟨n', sv, wv, svs, ws, hr⟩ := hr4
      obtain rfl : n' = n := by have h1 := hr.ok.len; have h2 := hD.len; omega
      go_wp2_with fail
      refine (tread_at hr hdn (by rw [hQ0]; exact Nat.zero_le _) a1).mono ?_
      rintro e w5 hout
      obtain ⟨b5, t, lv, pg, l, R, c, rfl, o5, hlv, hpg, hll, hX⟩ := readOut_both hout
      clear hout
      have t1 := TrAt.box w5 (top := 0) (lv := z4) (pg := z128) (v := nilS) (by simp [z4]) (by simp [z128])
      have A1 := Lib.hid (allocTr w5)
      obtain ⟨w6, S6, t6, k6⟩ := t1.store (top' := t) (lv' := lv) (pg' := pg) (R' := R) (m := l.length) (c := c) hlv hpg
      have s5 := b5.size
      have k56 : Keeps (fun _ => False) w5 w6 := ⟨k6.os, k6.tape, k6.output, by have := k6.size; simp at this; omega, fun b hb _ => (k6.block b (by simp; omega) (by omega)).trans (Below.heap_alloc _ _ _ hb)⟩
      have k46 : Keeps (fun _ => False) w4 w6 := (keeps_below b5).trans k56
      have z6 := (o5.ir.keep k56).zr
      have c133 := t6.list
      have hr6 := hr.keep k46 (fun _ _ _ h => h)
      have hd6 := hd4.keep k46 (fun _ _ _ h => h)
      have hc6 : CR w6 w2.heap.size A2 l2 := hc4.keep fun q hq => World.cell?_of_block (k46.block q.block (by omega) (fun h => h))
      have tb6 := tb4.keeps k46 (fun h => h)
      have kw6 := kw4.trans k46
      have LT6 : w5.heap.size < w6.heap.size := (Array.getElem?_eq_some_iff.1 t6.head).1
      have s6 := k46.size
      have S6' := Lib.hid S6
      clear S6 t1 t6 k6 o5 k56 k46 hr hd4 hc4 tb4 kw4 b5
      have hrc := rcost_at hr6 hdn (by rw [hQ0]; exact Nat.zero_le _) a1 A2 l2 c2 (hc6.more (by omega)) m2
      have HX := Lib.hid hX
      clear hX
      go_wp2_with (first
        | ((with_reducible refine at_ (op := .alloc 47) ?_); refine wpList_val rfl _ (ex_alloc 47 rfl _ A1.out) ?_)
        | ((with_reducible refine here (op := .store 47 (.tmp 11) (.tmp 42)) ?_); refine wpList_store_run rfl 47 _ _ rfl _ _ rfl rfl S6'.out ?_))
      refine hrc.mono ?_
      rintro e w7 ⟨b7, h7⟩
      have hr7 := hr6.keep (keeps_below b7) (fun _ _ _ h => h)
      have hd7 := hd6.keep (keeps_below b7) (fun _ _ _ h => h)
      have tb7 := tb6.keeps (keeps_below b7) (fun h => h)
      have hc7 : CR w7 w2.heap.size A2 l2 := hc6.keep fun q hq => World.cell?_of_block (b7.block q.block (by omega))
      have z7 := zr_more (z6.keep (keeps_below b7) (Nat.le_refl _) (fun _ _ h => h)) b7.size
      have c7' := (World.cell?_of_block (w := w6) (b7.block w5.heap.size LT6)).trans c133
      have kw7 := kw6.trans (keeps_below b7)
      have s7 := b7.size
      -- the cost, whichever way
      obtain ⟨kk, worse, rfl, hcase⟩ : ∃ kk worse : Int, e = .returned (.tuple #[.int .i64 kk, .int .i64 worse]) ∧ costV D a1.toNat (errT (readT D n' a1)) l2 = (kk, worse) := by
        rcases h7 with ⟨hb, rfl⟩ | ⟨hg, hn, rfl⟩ | ⟨hg, lv', pg', qq, L, hs, hL, rfl⟩
        · exact ⟨_, _, rfl, costV_bad _ _ _ hb⟩
        · exact ⟨_, _, rfl, by rw [hn]; exact costV_err _ _ hg (by show (60 : Int) ≠ 0; omega)⟩
        · refine ⟨_, _, rfl, ?_⟩
          rw [hs, count_needs hs hg hL]
          exact costV_ok _ _ hg
      have HCASE := Lib.hid hcase
      clear h7 hcase hrc S6' A1 hr6 hd6 tb6 hc6 z6 c133 b7 kw6
      obtain ⟨d0, _⟩ := hr7.c
      obtain ⟨A', cap', rfl⟩ := hr7.svf
      have kd7 : Keeps (fun _ => False) w7 w7.drew := Keeps.drew _ _
      have HS : (fun W : World => W.cell? ⟨q, 0, none⟩ = some (.slice A' n' cap') ∧ W.cell? ⟨w5.heap.size, 133, none⟩ = some (.slice R l.length c)) w7.drew := ⟨d0, c7'⟩
      have lq : q < w7.heap.size := hr7.plt
      have lt5 : w5.heap.size < w7.heap.size := by omega
      have hz3 : ZR w7.drew w.heap.size A3 l3 := o3.keep ((keeps_below bw2).trans (kw7.trans kd7)) (Nat.le_refl _) (fun _ _ h => h)
      have sw2 := bw2.size
      have zl : ((l.map fun (k : Nat) => (k : Int)).length) = l.length := by simp
      have hn2000 := hD.n_le
      obtain ⟨R8, cap8, w8, hap8, own8, b8⟩ := (OwnZ.nil w7.drew w7.heap.size).app (Nat.le_refl _) (by simp) R c (l.map fun (k : Nat) => (k : Int)) (z7.keep kd7 (Nat.le_refl _) (fun _ _ h => h)) (by rw [zl]; omega) 43
      rw [List.nil_append, zl, List.length_nil] at hap8
      rw [List.nil_append] at own8
      have s8 : w7.heap.size ≤ w8.heap.size := b8.size
      obtain ⟨R9, cap9, w9, hap9, own9, b9⟩ := own8.app s8 (by rw [zl]; omega) A3 c3 l3 (zr_more (hz3.keep (keeps_below b8) (by show w.heap.size ≤ w7.heap.size; omega) (fun _ _ h => h)) (by omega)) (by omega) 43
      rw [zl] at hap9
      have s9 : w8.heap.size ≤ w9.heap.size := b9.size
      have hheld := held_any (n' : Int) R9 ((l.map fun (k : Nat) => (k : Int)) ++ l3) cap9 w9 own9.zr (by rw [List.length_append, zl]; omega)
      rw [show Sp.nS (n' : Int) = n' from by unfold Sp.nS; omega] at hheld
      have HAP8 := Lib.hid hap8
      have HAP9 := Lib.hid hap9
      have HHELD := Lib.hid hheld
      have B8 := Lib.hid b8
      have b79 : Below w7.heap.size w7.drew w9 := b8.trans b9
      clear hap8 hap9 hheld own8 own9 z7 hz3 b8 b9 d0 c7'
      go_wp2_with fail
      refine wp_region_held (S := fun W : World => W.cell? ⟨q, 0, none⟩ = some (.slice A' n' cap') ∧ W.cell? ⟨w5.heap.size, 133, none⟩ = some (.slice R l.length c)) (by kernel_rfl) ?_
      change wpAnyH _ _ _ _ _ _ _ _ w7.drew
      refine wpAnyH_take (oi := ⟨_, _, _, _, _, _⟩) (i := 0) (v := .pointer (some ⟨q, 0, none⟩)) rfl (by kernel_rfl) (by kernel_rfl) (by kernel_rfl) (fun _ _ _ h => h) (Or.inl ⟨by rfl, fun _ _ => rfl⟩) HS ?_
      simp only [Act.put, List.setIfInBounds_toArray, List.set_cons_zero, List.set_cons_succ]
      refine wpAnyH_take (oi := ⟨_, _, _, _, _, _⟩) (i := 1) (v := .pointer (some ⟨q, 0, none⟩)) rfl (by kernel_rfl) (by kernel_rfl) (by kernel_rfl) (fun _ _ _ h => h) (Or.inl ⟨by rfl, fun _ _ => by go_simp⟩) HS ?_
      simp only [Act.put, List.setIfInBounds_toArray, List.set_cons_zero, List.set_cons_succ]
      refine wpAnyH_take (oi := ⟨_, _, _, _, _, _⟩) (i := 2) (v := .pointer (some ⟨q, 0, none⟩)) rfl (by kernel_rfl) (by kernel_rfl) (by kernel_rfl) (fun _ _ _ h => h) (Or.inl ⟨by rfl, fun _ _ => by go_simp⟩) HS ?_
      simp only [Act.put, List.setIfInBounds_toArray, List.set_cons_zero, List.set_cons_succ]
      refine wpAnyH_take (oi := ⟨_, _, _, _, _, _⟩) (i := 3) (v := .slice A' n' cap') rfl (by kernel_rfl) (by kernel_rfl) (by kernel_rfl) (fun _ _ _ h => h) (yif_load rfl 54 (.tmp 54) rfl _ _ rfl fun w h => load_one aggB2 h.1) HS ?_
      simp only [Act.put, List.setIfInBounds_toArray, List.set_cons_zero, List.set_cons_succ]
      refine wpAnyH_take (oi := ⟨_, _, _, _, _, _⟩) (i := 4) (v := .int .i64 (n' : Int)) rfl (by kernel_rfl) (by kernel_rfl) (by kernel_rfl) (fun _ _ _ h => h) (Or.inl ⟨by rfl, fun _ _ => by go_simp⟩) HS ?_
      simp only [Act.put, List.setIfInBounds_toArray, List.set_cons_zero, List.set_cons_succ]
      refine wpAnyH_take (oi := ⟨_, _, _, _, _, _⟩) (i := 5) (v := .pointer (some ⟨w5.heap.size, 133, none⟩)) rfl (by kernel_rfl) (by kernel_rfl) (by kernel_rfl) (fun _ _ _ h => h) (Or.inl ⟨by rfl, fun _ _ => by go_simp⟩) HS ?_
      simp only [Act.put, List.setIfInBounds_toArray, List.set_cons_zero, List.set_cons_succ]
      refine wpAnyH_take (oi := ⟨_, _, _, _, _, _⟩) (i := 6) (v := .slice R l.length c) rfl (by kernel_rfl) (by kernel_rfl) (by kernel_rfl) (fun _ _ _ h => h) (yif_load rfl 43 (.tmp 57) rfl _ _ rfl fun w h => load_one aggI1 h.2) HS ?_
      simp only [Act.put, List.setIfInBounds_toArray, List.set_cons_zero, List.set_cons_succ]
      refine wpAnyH_take (oi := ⟨_, _, _, _, _, _⟩) (i := 8) (v := .slice A3 l3.length c3) rfl (by kernel_rfl) (by kernel_rfl) (by kernel_rfl) (fun _ _ _ h => h) (Or.inl ⟨by rfl, fun _ _ => rfl⟩) HS ?_
      simp only [Act.put, List.setIfInBounds_toArray, List.set_cons_zero, List.set_cons_succ]
      refine wpAnyH_all (rs := [7]) (by kernel_rfl) (by simp) fun i hi => ?_
      obtain rfl : i = 7 := by simpa using hi
      refine op_run (om := ⟨_, _, _, _, _, _⟩) (u := .slice R8 l.length cap8) (w' := w8) rfl rfl (ex_append (.const (.slice none 0 0)) (.tmp 58) 43 43 rfl (.slice none 0 0) (.slice R l.length c) (.slice R8 l.length cap8) rfl rfl HAP8.out) _ _ rfl rfl ?_
      rintro u w8' ⟨rfl, rfl⟩
      refine ⟨⟨(World.cell?_of_block (w := w7.drew) (B8.out.block q lq)).trans HS.1, (World.cell?_of_block (w := w7.drew) (B8.out.block w5.heap.size lt5)).trans HS.2⟩, ?_⟩
      have HS8 : (fun W : World => W.cell? ⟨q, 0, none⟩ = some (.slice A' n' cap') ∧ W.cell? ⟨w5.heap.size, 133, none⟩ = some (.slice R l.length c)) w8' := ⟨(World.cell?_of_block (w := w7.drew) (B8.out.block q lq)).trans HS.1, (World.cell?_of_block (w := w7.drew) (B8.out.block w5.heap.size lt5)).trans HS.2⟩
      clear hi HAP8
      simp only [Act.put, List.setIfInBounds_toArray, List.set_cons_zero, List.set_cons_succ]
      refine wpAnyH_all (rs := [9]) (by kernel_rfl) (by simp) fun i hi => ?_
      obtain rfl : i = 9 := by simpa using hi
      refine op_run (om := ⟨_, _, _, _, _, _⟩) (u := .slice R9 ((l.map fun (k : Nat) => (k : Int)) ++ l3).length cap9) (w' := w9) rfl rfl (ex_append (.tmp 59) (.tmp 60) 43 43 rfl (.slice R8 l.length cap8) (.slice A3 l3.length c3) (.slice R9 ((l.map fun (k : Nat) => (k : Int)) ++ l3).length cap9) rfl rfl HAP9.out) _ _ rfl rfl ?_
      rintro u w9' ⟨rfl, rfl⟩
      have HS9 : (fun W : World => W.cell? ⟨q, 0, none⟩ = some (.slice A' n' cap') ∧ W.cell? ⟨w5.heap.size, 133, none⟩ = some (.slice R l.length c)) w9' := ⟨(World.cell?_of_block (w := w7.drew) (b79.block q lq)).trans HS.1, (World.cell?_of_block (w := w7.drew) (b79.block w5.heap.size lt5)).trans HS.2⟩
      refine ⟨HS9, ?_⟩
      clear hi HAP9 HS8 HS
      have HZL : Hid (((l.map fun (k : Nat) => (k : Int)) ++ l3).length ≤ 100000000) := show ((l.map fun (k : Nat) => (k : Int)) ++ l3).length ≤ 100000000 by rw [List.length_append, zl]; omega
      have HZ1 := Lib.hid (show ∀ k ∈ l, (k : Int) ∈ (l.map fun (k : Nat) => (k : Int)) ++ l3 from fun k hk => List.mem_append_left _ (List.mem_map.2 ⟨k, hk, rfl⟩))
      generalize (l.map fun (k : Nat) => (k : Int)) ++ l3 = hz at *
      simp only [Act.put, List.setIfInBounds_toArray, List.set_cons_zero, List.set_cons_succ]
      refine wpAnyH_all (rs := [10]) (by kernel_rfl) (by simp) fun i hi => ?_
      obtain rfl : i = 10 := by simpa using hi
      refine op_call (om := ⟨_, _, _, _, _, _⟩) (fn := 24) (args := #[.int .i64 (n' : Int), .slice R9 hz.length cap9]) (R := fun u w' => ∃ mp rq mi hi, u = .tuple #[.pointer (some ⟨mp, 0, none⟩), .pointer (some ⟨rq, 0, none⟩)] ∧ Sp.MapS w' w9'.heap.size mi mp (heldC n' hz) ∧ Sp.RefS w' mi hi rq (heldC n' hz) ∧ w9'.heap.size ≤ mi ∧ mi ≤ hi ∧ hi ≤ w'.heap.size ∧ Below w9'.heap.size w9' w') rfl rfl (by go_simp)
        (HHELD.out.mono fun e w' ⟨mp, rq, mi, hi, he, h1, h2, h3, h4, h5, h6⟩ => ⟨_, he, mp, rq, mi, hi, rfl, h1, h2, h3, h4, h5, h6⟩) _ _ rfl rfl ?_
      rintro u w10 ⟨mp, rq, mi, hi', rfl, m10, x10, hmi1, hmi2, hmi3, b10⟩
      have HS10 : (fun W : World => W.cell? ⟨q, 0, none⟩ = some (.slice A' n' cap') ∧ W.cell? ⟨w5.heap.size, 133, none⟩ = some (.slice R l.length c)) w10 := ⟨(World.cell?_of_block (w := w9') (b10.block q (by omega))).trans HS9.1, (World.cell?_of_block (w := w9') (b10.block w5.heap.size (by omega))).trans HS9.2⟩
      refine ⟨HS10, ?_⟩
      clear hi HHELD HS9
      simp only [Act.put, List.setIfInBounds_toArray, List.set_cons_zero, List.set_cons_succ]
      refine wpAnyH_take (oi := ⟨_, _, _, _, _, _⟩) (i := 11) (v := .tuple #[.pointer (some ⟨mp, 0, none⟩), .pointer (some ⟨rq, 0, none⟩)]) rfl (by kernel_rfl) (by kernel_rfl) (by kernel_rfl) (fun _ _ _ h => h) (Or.inl ⟨by rfl, fun _ _ => rfl⟩) HS10 ?_
      simp only [Act.put, List.setIfInBounds_toArray, List.set_cons_zero, List.set_cons_succ]
      refine wpAnyH_take (oi := ⟨_, _, _, _, _, _⟩) (i := 12) (v := .pointer (some ⟨mp, 0, none⟩)) rfl (by kernel_rfl) (by kernel_rfl) (by kernel_rfl) (fun _ _ _ h => h) (Or.inl ⟨by rfl, fun _ _ => by go_simp⟩) HS10 ?_
      simp only [Act.put, List.setIfInBounds_toArray, List.set_cons_zero, List.set_cons_succ]
      refine wpAnyH_take (oi := ⟨_, _, _, _, _, _⟩) (i := 13) (v := .pointer (some ⟨rq, 0, none⟩)) rfl (by kernel_rfl) (by kernel_rfl) (by kernel_rfl) (fun _ _ _ h => h) (Or.inl ⟨by rfl, fun _ _ => by go_simp⟩) HS10 ?_
      simp only [Act.put, List.setIfInBounds_toArray, List.set_cons_zero, List.set_cons_succ]
      refine wpAnyH_take (oi := ⟨_, _, _, _, _, _⟩) (i := 14) (v := .pointer (some ⟨mp, 0, none⟩)) rfl (by kernel_rfl) (by kernel_rfl) (by kernel_rfl) (fun _ _ _ h => h) (Or.inl ⟨by rfl, fun _ _ => rfl⟩) HS10 ?_
      simp only [Act.put, List.setIfInBounds_toArray, List.set_cons_zero, List.set_cons_succ]
      refine wpAnyH_take (oi := ⟨_, _, _, _, _, _⟩) (i := 15) (v := .pointer (some ⟨rq, 0, none⟩)) rfl (by kernel_rfl) (by kernel_rfl) (by kernel_rfl) (fun _ _ _ h => h) (Or.inl ⟨by rfl, fun _ _ => rfl⟩) HS10 ?_
      simp only [Act.put, List.setIfInBounds_toArray, List.set_cons_zero, List.set_cons_succ]
      refine wpAnyH_done (by kernel_rfl) ?_ _
      clear HS10
      have k710 : Keeps (fun _ => False) w7 w10 := kd7.trans ((keeps_below b79).trans (keeps_below b10))
      have hr10 := (hr7.mono (G := fun b => w3.heap.size ≤ b ∧ b < w7.heap.size) (fun b hb h => ⟨h, hb⟩)).keep k710 (fun _ _ _ h => h)
      have hd10 := hd7.keep k710 (fun _ _ _ h => h)
      have tb10 := tb7.keeps k710 (fun h => h)
      have hc10 : CR w10 w2.heap.size A2 l2 := hc7.keep fun q hq => World.cell?_of_block (k710.block q.block (by omega) (fun h => h))
      have bw10 := bw2.trans ((kw7.trans k710).toBelow w2.heap.size (Nat.le_refl _) (fun _ h => h.elim) |>.mono bw2.size)
      have s10 := k710.size
      have s9' : w7.heap.size ≤ w9'.heap.size := b79.size
      have hnn := hD.n_eq
      have hzl : hz.length ≤ 100000000 := HZL.out
      have hbok : BOk D (heldC n' hz) hz.length := by
        refine ⟨hdn, by omega, by rw [heldC_len]; omega, by rw [hQ0]; simp, by omega, heldC_all n' hz, by omega, by rw [heldC_len]; exact hD.n_le⟩
      have hreach : ∀ lb mb n iv, ReachE p lb mb n iv D a1 (errT (readT D n' a1)) := fun lb mb n iv => by
        rw [← hnn]
        exact reachE_any hdn p lb mb n iv a1 ha1.1 ha1.2
      have htop : errT (readT D n' a1) = 0 → a1 = ((a1.toNat : Nat) : Int) ∧ (a1.toNat = 0 ∨ a1.toNat < D.n) ∧ EntOk D.n (nodeD D a1.toNat) := fun h => by
        rw [← hnn] at h
        exact top_ok h
      have hbuild := build_at hd10 m10 tb10 hbok (by omega) (by omega) (fun k hk _ => by omega) a1 a1.toNat (E := errT (readT D n' a1)) hreach htop A2 l2 c2 (hc10.more (by omega)) m2
      have HOKB := Lib.hid hbok
      clear hreach htop hbok hd7 hr7 tb7 hc7 kd7 b79 k710 kw7
      have hEx : ∃ E, errT (readT D n' a1) = E := ⟨_, rfl⟩
      obtain ⟨E, hE⟩ := hEx
      rw [hE] at hbuild ⊢
      have hcase := HCASE.out
      rw [hE] at hcase
      have HE := Lib.hid hE
      clear HCASE hE
      go_wp2_with fail
      refine hbuild.mono ?_
      rintro e w11 hbo
      unfold BuildOut at hbo
      rw [hcase] at hbo
      simp only at hbo
      by_cases hw : worse = 0
      · subst hw
        rw [if_neg (by simp)] at hbo
        have hgood : ∀ a ∈ l2, a.good := Classical.byContradiction fun hn => by
          rw [costV_bad D a1.toNat E hn] at hcase
          simp at hcase
        have hE0 : E = 0 := Classical.byContradiction fun hn => by
          rw [costV_err D a1.toNat hgood hn] at hcase
          injection hcase with _ h
          exact hn h
        subst hE0
        have hkk : kk = ((needs D a1.toNat l2 : Nat) : Int) := by
          rw [costV_ok D a1.toNat hgood] at hcase
          injection hcase with h _
          exact h.symm
        have hs : readT D n' a1 = some (lv, pg, l) := by
          rcases HX.out with h | ⟨hnone, _⟩
          · exact h
          · have h := HE.out
            rw [hnone] at h
            cases h
        subst hkk
        have HGD := Lib.hid hgood
        have HS' := Lib.hid hs
        clear hcase hgood hs HE HX hbuild
        by_cases hroom : (Sp.nfree (heldC n' hz) : Int) < ((needs D a1.toNat l2 : Nat) : Int)
        · rw [if_pos hroom] at hbo
          obtain ⟨rfl, b11⟩ := hbo
          have x11 := x10.below b11
          have m11 := m10.below b11
          have hd11 := hd10.keep (keeps_below b11) (fun _ _ _ h => h)
          obtain ⟨bh, ch, hra11, _⟩ := x10.below b11
          have hfr11 := Sp.rfree_at hra11
          have bw11 := bw10.trans (b11.mono bw10.size)
          have hx1 : decide (((needs D a1.toNat l2 : Nat) : Int) > ((Sp.nfree (heldC n' hz) : Nat) : Int)) = true := by simpa using hroom
          have hx2 : decide (Sp.nfree (heldC n' hz) < needs D a1.toNat l2) = true := by simp; omega
          have hx3 : Sp.nfree (heldC n' hz) < needs D a1.toNat l2 := by omega
          clear hroom b11 hra11 hd10 x10 m10 hr10 tb10 hc10 bw10
          generalize needs D a1.toNat l2 = N at *
          go_wp2_with fail
          refine hfr11.mono ?_
          rintro e w12 ⟨rfl, b12⟩
          obtain ⟨lb, mb, m, iv, hda, _⟩ := hd11.keep (keeps_below b12) (fun _ _ _ h => h)
          have hacts := acts_at hda
          rw [hac] at hacts
          obtain ⟨_, _, _, _, _, _, hma, _⟩ := m11.below b12
          have hmf := Sp.free_at hma
          obtain ⟨bh2, ch2, hra12, _⟩ := x11.below b12
          have hfr12 := Sp.rfree_at hra12
          have bw12 := bw11.trans (b12.mono bw11.size)
          clear hda hma hra12 b12 hfr11 hd11 m11 x11 bw11
          go_wp2_with fail
          refine hacts.mono ?_
          rintro e w13 ⟨rfl, rfl⟩
          go_wp2_with fail
          refine hmf.mono ?_
          rintro e w13 ⟨rfl, rfl⟩
          go_wp2_with fail
          refine hfr12.mono ?_
          rintro e w14 ⟨rfl, b14⟩
          have HFIN := Lib.hid (bw12.trans (b14.mono bw12.size))
          clear hacts hmf hfr12 b14 bw12
          go_wp2_with fail
          go_ret
          exact ⟨rfl, HFIN.out⟩
        · rw [if_neg hroom] at hbo
          have hneed : needs D a1.toNat l2 ≤ Sp.nfree (heldC n' hz) := by omega
          have hXR := readT_rng HS'.out
          have htt := (readT_top HS'.out).1
          have hcnt := build_cnt HOKB.out a1.toNat HGD.out hneed
          have hrem := build_rem HOKB.out a1.toNat HGD.out hneed
          have hkeep := build_keeps (D := D) (cs := heldC n' hz) (K := hz.length) hQ0 a1.toNat 0 l2
          have hnew := fun h => build_new HOKB.out a1.toNat HGD.out hneed (by rw [heldC_len]; exact hD) h (lv := lv) (pg := pg) (l0 := l) (by rw [heldC_len, ← htt]; exact HS'.out) (fun k hk => by
            have h2 := hXR k hk
            have := held_in (N := n') (zs := hz) (x := (k : Int)) (HZ1.out k hk) (by omega) (by omega)
            simpa using this)
          rw [heldC_len] at hnew
          generalize rebV bnxt D a1.toNat 0 l2 ⟨D, heldC n' hz, hz.length⟩ = V at *
          obtain ⟨V1, V2, s⟩ := V
          simp only at hbo hcnt hrem hkeep hnew
          obtain ⟨rfl, ⟨Fd', hd11, _, hf11⟩, m11, _, k11⟩ := hbo
          obtain ⟨nn, hok11⟩ := hd11.ok
          have hnn2 : n' = nn := by
            have h1 := hok11.len
            have h2 := hD.len
            rw [hkeep.1] at h1
            omega
          subst hnn2
          obtain ⟨lv2, pg2, l2', hread, hmem, hnowk⟩ := hnew hok11
          obtain ⟨ha, hf, hct⟩ := hcnt
          rw [hac, Nat.zero_add] at ha
          have x11 := x10.keep k11 (fun i h1 h2 h => by omega)
          have hr11 := hr10.keep k11 (fun b hb h => by omega)
          have bw11 := bw10.trans (k11.toBelow w2.heap.size (by have := bw10.size; omega) (fun k h => by omega) |>.mono bw2.size)
          have hc11 : CR w11 w2.heap.size A2 l2 := hc10.keep fun q hq => World.cell?_of_block (k11.block q.block (by omega) (fun h => by omega))
          obtain ⟨M, hM⟩ : ∃ M, Sp.nfree (heldC n' hz) = M + needs D a1.toNat l2 := ⟨Sp.nfree (heldC n' hz) - needs D a1.toNat l2, by omega⟩
          have hf' : Sp.nfree s.cs = M := by rw [hf, hM]; omega
          obtain ⟨bh, ch, hra11, _⟩ := x10.keep k11 (fun i h1 h2 h => by omega)
          have hfr11 := Sp.rfree_at hra11
          unfold Sp.FreeR at hfr11
          rw [hM] at hfr11
          have HM := Lib.hid hM
          have hMN : M + needs D a1.toNat l2 ≤ 2000 := by
            rw [← hM]
            have h1 := Sp.cnt_le (Sp.fr (heldC n' hz)) (heldC n' hz).length
            have h2 : (heldC n' hz).length = n' := heldC_len _ _
            unfold Sp.nfree
            omega
          have s11 : w2.heap.size ≤ w11.heap.size := by have := k11.size; omega
          have hm2 : memTo s.D pg2 128 = chgL (memTo D pg 128) (mergedOf (latestF l2)) := hmem
          have hup := hrem.up
          clear hnew hmem hrem hkeep hra11 hd10 x10 m10 hr10 tb10 hc10 bw10 k11 hf hM hroom hneed
          generalize needs D a1.toNat l2 = N at *
          have HCT := Lib.hid hct
          have HNW := Lib.hid hnowk
          have HRD := Lib.hid hread
          have HM2 := Lib.hid hm2
          have HF := Lib.hid hf'
          have HA := Lib.hid ha
          have HXR := Lib.hid hXR
          clear hct hnowk hread hm2 hf' ha htt hXR
          have hx1 : decide ((N : Int) > ((M + N : Nat) : Int)) = false := by simp; omega
          have hx2 : decide (M + N < N) = false := by simp
          have hx3 : ¬ M + N < N := by omega
          have hx4 : ((M + N : Nat) : Int) - (N : Int) = (M : Int) := by omega
          have hx5 : (M : Int) + (N : Int) - (N : Int) = (M : Int) := by omega
          go_wp2_with fail
          refine hfr11.mono ?_
          rintro e w12 ⟨rfl, b12⟩
          have hd12 := hd11.keep (keeps_below b12) (fun _ _ _ h => h)
          have m12 := m11.below b12
          have x12 := x11.below b12
          have hr12 := hr11.keep (keeps_below b12) (fun _ _ _ h => h)
          have bw12 := bw11.trans (b12.mono bw11.size)
          have hc12 : CR w12 w2.heap.size A2 l2 := hc11.keep fun q hq => World.cell?_of_block (b12.block q.block (by omega))
          obtain ⟨lb, mb, m, iv, hda, _⟩ := hd11.keep (keeps_below b12) (fun _ _ _ h => h)
          have hacts := acts_at hda
          rw [HA.out] at hacts
          obtain ⟨_, _, _, _, _, _, hma, _⟩ := m11.below b12
          have hmf := Sp.free_at hma
          rw [HF.out] at hmf
          obtain ⟨bh2, ch2, hra12, _⟩ := x11.below b12
          have hfr12 := Sp.rfree_at hra12
          unfold Sp.FreeR at hfr12
          rw [HM.out] at hfr12
          have hs12 : w2.heap.size ≤ w12.heap.size := by have := b12.size; omega
          clear hda hma hra12 b12 hfr11 hd11 m11 x11 hr11 hc11 bw11 hx1 hx2 hx3
          go_wp2_with fail
          refine hacts.mono ?_
          rintro e w13 ⟨rfl, rfl⟩
          go_wp2_with fail
          refine hmf.mono ?_
          rintro e w13 ⟨rfl, rfl⟩
          go_wp2_with fail
          refine hfr12.mono ?_
          rintro e w13 ⟨rfl, b13⟩
          have hd13 := hd12.keep (keeps_below b13) (fun _ _ _ h => h)
          have m13 := m12.below b13
          have x13 := x12.below b13
          have hr13 := hr12.keep (keeps_below b13) (fun _ _ _ h => h)
          have bw13 := bw12.trans (b13.mono bw12.size)
          have hc13 : CR w13 w2.heap.size A2 l2 := hc12.keep fun q hq => World.cell?_of_block (b13.block q.block (by have := hs12; omega))
          obtain ⟨bh3, ch3, hra13, _⟩ := x12.below b13
          have hus := Sp.rused_at hra13
          have hs13 := b13.size
          clear hacts hmf hfr12 hra13 b13 hd12 m12 x12 hr12 hc12 bw12
          go_wp2_with fail
          refine hus.mono ?_
          rintro e w14 ⟨Ru, cu, rfl, iru, b14⟩
          have hd14 := hd13.keep (keeps_below b14) (fun _ _ _ h => h)
          have m14 := m13.below b14
          have x14 := x13.below b14
          have hr14 := hr13.keep (keeps_below b14) (fun _ _ _ h => h)
          have bw14 := bw13.trans (b14.mono bw13.size)
          have hc14 : CR w14 w2.heap.size A2 l2 := hc13.keep fun q hq => World.cell?_of_block (b14.block q.block (by omega))
          have hs14 := b14.size
          have hmu : ∀ u ∈ Sp.usedOf (heldC n' hz) (heldC n' hz).length, u < n' ∧ 2 ≤ u ∧ 0 < (heldC n' hz).getD u 0 := fun u hu => by
            have h1 : (heldC n' hz).length = n' := heldC_len _ _
            unfold Sp.usedOf Sp.heldB at hu
            rw [h1] at hu
            simp only [List.mem_filter, List.mem_range, Bool.and_eq_true, decide_eq_true_eq, Bool.not_eq_true', decide_eq_false_iff_not] at hu
            omega
          have hul : (Sp.usedOf (heldC n' hz) (heldC n' hz).length).length ≤ 2000 := by
            have h1 : (heldC n' hz).length = n' := heldC_len _ _
            have h2 := List.length_filter_le (Sp.heldB (heldC n' hz)) (List.range (heldC n' hz).length)
            unfold Sp.usedOf
            rw [List.length_range] at h2
            omega
          have HMU := Lib.hid hmu
          clear hus b14 hd13 m13 x13 hr13 hc13 bw13 hmu
          generalize Sp.usedOf (heldC n' hz) (heldC n' hz).length = U at *
          go_wp2_with fail
          go_loopw [139, 20, 21, 22] (fun i _ _ _ wr => ∃ k : Nat, k ≤ U.length ∧ i = .int .i64 k ∧ Below w14.heap.size w14 wr) (fun i _ _ _ _ => U.length - (Go.RowKit.intOf i).toNat)
          case atStart => exact ⟨0, Nat.zero_le _, rfl, Below.refl _ _⟩
          case round =>
            obtain ⟨k, hk, rfl, hb⟩ := hrel
            by_cases hlt : k < U.length
            · obtain ⟨gu, rfl, hgu, hcu⟩ := (iru.keep (keeps_below hb)) k U[k] (List.getElem?_eq_getElem hlt)
              obtain ⟨u1, u2, u3⟩ := HMU.out _ (List.getElem_mem hlt)
              generalize U[k] = u at *
              have hdr := hd14.keep (keeps_below hb) (fun _ _ _ h => h)
              have hrr := hr14.keep (keeps_below hb) (fun _ _ _ h => h)
              have hrd := hdr.read hok11 hup u u1 _ (HNW.out u u3)
              go_wp2_with fail
              refine hrd.mono ?_
              rintro e w16 ⟨R1, c1, rfl, br1, _, k16⟩
              go_wp2_with fail
              have hrr16 := hrr.keep k16 (fun _ _ _ h => h)
              obtain ⟨d0, _⟩ := hrr16.c
              obtain ⟨vv, hvv, hsl⟩ := hrr16.secs u u1
              obtain ⟨R5, c5, rfl, br5, hl64⟩ := hsl.br
              have hzz : sec D.L u = D.now u := (now_quiet (by rw [hQ0]; intro q hq; cases hq)).symm
              rw [hzz] at br5 hl64
              have hct := HCT.out u u3
              have hlu : u < s.cs.length := Classical.byContradiction fun h => by
                have h0 : s.cs.getD u 0 = 0 := by rw [List.getD_eq_getElem?_getD, List.getElem?_eq_none (by omega)]; rfl
                omega
              have hcc : Sp.countOf s.cs (u : Int) = Sp.countOf (heldC n' hz) (u : Int) := by
                have h1 : (heldC n' hz).length = n' := heldC_len _ _
                unfold Sp.countOf Sp.hasB
                rw [h1, Int.toNat_natCast, hct, decide_eq_true (show (u : Int) < (s.cs.length : Int) by omega), decide_eq_true (show (u : Int) < (n' : Int) by omega)]
              obtain ⟨ga, cga, hA', _, _⟩ := World.ownsRow.form hrr16.own (by omega)
              have d5 : w16.drew.cell? ⟨ga, u, none⟩ = some (.slice R5 64 c5) := by
                have h := hrr16.own
                rw [hA'] at h
                have h2 := World.ownsRow.cellAt h u (by omega)
                exact h2.trans hvv
              injection hA' with e1 _ e3
              subst e1 e3
              have k16d : Keeps (fun _ => False) w16 w16.drew := Keeps.drew _ _
              have kb16 : Keeps (fun _ => False) w14 w16 := (keeps_below hb).trans k16
              obtain ⟨_, _, _, _, _, _, hma, _⟩ := m14.keep (kb16.trans k16d) (fun _ _ _ h => h)
              obtain ⟨_, _, hra, _⟩ := x14.keep (kb16.trans k16d) (fun _ _ _ h => h)
              have hmc := Sp.count_at hma (u : Int)
              have hxc := Sp.rcount_at hra (u : Int)
              rw [hcc] at hmc
              generalize hZ : D.now u = Z at *
              have cv1 := run_str (P := Tryz.prog) w16.drew _ 30 9 5 _ Z c1 (k16d.br br1 fun _ _ _ h => h) Tryz.underlying30 Tryz.underlying5 Tryz.underlying9
              have cv2 := run_str (P := Tryz.prog) w16.drew _ 30 9 5 _ Z c5 (k16d.br br5 fun _ _ _ h => h) Tryz.underlying30 Tryz.underlying5 Tryz.underlying9
              rw [hl64] at cv1 cv2
              have CV1 := Lib.hid cv1
              have CV2 := Lib.hid cv2
              have HMC := Lib.hid hmc
              have HXC := Lib.hid hxc
              have D0 := Lib.hid (show w16.drew.cell? ⟨q, 0, none⟩ = some (.slice (some ⟨ga, 0, none⟩) n' cap') from d0)
              have D5 := Lib.hid d5
              have HS : (fun W : World => W = w16.drew) w16.drew := rfl
              have hbn := hb.trans ((k16.trans k16d).toBelow w14.heap.size hb.size (fun _ h => h.elim))
              clear cv1 cv2 hmc hxc d0 d5 hvv hsl br5 br1 hma hra hrd hdr hrr hrr16 hzz hct hcc hZ
              refine wp_region_held (S := fun W : World => W = w16.drew) (by kernel_rfl) ?_
              change wpAnyH _ _ _ _ _ _ _ _ w16.drew
              refine wpAnyH_take (oi := ⟨_, _, _, _, _, _⟩) (i := 0) (v := .slice R1 64 c1) rfl (by kernel_rfl) (by kernel_rfl) (by kernel_rfl) (fun _ _ _ h => h) (Or.inl ⟨by rfl, fun _ _ => rfl⟩) HS ?_
              simp only [Act.put, List.setIfInBounds_toArray, List.set_cons_zero, List.set_cons_succ]
              refine wpAnyH_take (oi := ⟨_, _, _, _, _, _⟩) (i := 1) (v := .string ⟨Z.toArray⟩) rfl (by kernel_rfl) (by kernel_rfl) (by kernel_rfl) (fun _ _ _ h => h) (Or.inl ⟨by rfl, fun _ h => by subst h; exact ex_convert 30 9 (.tmp 149) rfl _ _ rfl CV1.out⟩) HS ?_
              simp only [Act.put, List.setIfInBounds_toArray, List.set_cons_zero, List.set_cons_succ]
              refine wpAnyH_take (oi := ⟨_, _, _, _, _, _⟩) (i := 2) (v := .pointer (some ⟨q, 0, none⟩)) rfl (by kernel_rfl) (by kernel_rfl) (by kernel_rfl) (fun _ _ _ h => h) (Or.inl ⟨by rfl, fun _ _ => rfl⟩) HS ?_
              simp only [Act.put, List.setIfInBounds_toArray, List.set_cons_zero, List.set_cons_succ]
              refine wpAnyH_take (oi := ⟨_, _, _, _, _, _⟩) (i := 3) (v := .pointer (some ⟨q, 0, none⟩)) rfl (by kernel_rfl) (by kernel_rfl) (by kernel_rfl) (fun _ _ _ h => h) (Or.inl ⟨by rfl, fun _ _ => by go_simp⟩) HS ?_
              simp only [Act.put, List.setIfInBounds_toArray, List.set_cons_zero, List.set_cons_succ]
              refine wpAnyH_take (oi := ⟨_, _, _, _, _, _⟩) (i := 4) (v := .pointer (some ⟨q, 0, none⟩)) rfl (by kernel_rfl) (by kernel_rfl) (by kernel_rfl) (fun _ _ _ h => h) (Or.inl ⟨by rfl, fun _ _ => by go_simp⟩) HS ?_
              simp only [Act.put, List.setIfInBounds_toArray, List.set_cons_zero, List.set_cons_succ]
              refine wpAnyH_take (oi := ⟨_, _, _, _, _, _⟩) (i := 5) (v := .slice (some ⟨ga, 0, none⟩) n' cap') rfl (by kernel_rfl) (by kernel_rfl) (by kernel_rfl) (fun _ _ _ h => h) (yif_load rfl 54 (.tmp 153) rfl _ _ rfl fun w h => load_one aggB2 (by rw [h]; exact D0.out)) HS ?_
              simp only [Act.put, List.setIfInBounds_toArray, List.set_cons_zero, List.set_cons_succ]
              refine wpAnyH_take (oi := ⟨_, _, _, _, _, _⟩) (i := 6) (v := .int .i64 (u : Int)) rfl (by kernel_rfl) (by kernel_rfl) (by kernel_rfl) (fun _ _ _ h => h) (Or.inl ⟨by rfl, fun _ _ => rfl⟩) HS ?_
              simp only [Act.put, List.setIfInBounds_toArray, List.set_cons_zero, List.set_cons_succ]
              refine wpAnyH_take (oi := ⟨_, _, _, _, _, _⟩) (i := 7) (v := .pointer (some ⟨ga, u, none⟩)) rfl (by kernel_rfl) (by kernel_rfl) (by kernel_rfl) (fun _ _ _ h => h) (Or.inl ⟨by rfl, fun _ _ => by go_simp⟩) HS ?_
              simp only [Act.put, List.setIfInBounds_toArray, List.set_cons_zero, List.set_cons_succ]
              refine wpAnyH_take (oi := ⟨_, _, _, _, _, _⟩) (i := 8) (v := .slice R5 64 c5) rfl (by kernel_rfl) (by kernel_rfl) (by kernel_rfl) (fun _ _ _ h => h) (yif_load rfl 30 (.tmp 156) rfl _ _ rfl fun w h => load_one (fun w => by unfold isAgg; rw [Sem.run_bind, run_underlying Tryz.underlying30 w]; rfl) (by rw [h]; exact D5.out)) HS ?_
              simp only [Act.put, List.setIfInBounds_toArray, List.set_cons_zero, List.set_cons_succ]
              refine wpAnyH_take (oi := ⟨_, _, _, _, _, _⟩) (i := 9) (v := .string ⟨Z.toArray⟩) rfl (by kernel_rfl) (by kernel_rfl) (by kernel_rfl) (fun _ _ _ h => h) (Or.inl ⟨by rfl, fun _ h => by subst h; exact ex_convert 30 9 (.tmp 157) rfl _ _ rfl CV2.out⟩) HS ?_
              simp only [Act.put, List.setIfInBounds_toArray, List.set_cons_zero, List.set_cons_succ]
              refine wpAnyH_take (oi := ⟨_, _, _, _, _, _⟩) (i := 10) (v := .bool false) rfl (by kernel_rfl) (by kernel_rfl) (by kernel_rfl) (fun _ _ _ h => h) (Or.inl ⟨by rfl, fun _ _ => by go_simp⟩) HS ?_
              simp only [Act.put, List.setIfInBounds_toArray, List.set_cons_zero, List.set_cons_succ]
              refine wpAnyH_take (oi := ⟨_, _, _, _, _, _⟩) (i := 11) (v := .bool false) rfl (by kernel_rfl) (by kernel_rfl) (by kernel_rfl) (fun _ _ _ h => h) (Or.inl ⟨by rfl, fun _ _ => rfl⟩) HS ?_
              simp only [Act.put, List.setIfInBounds_toArray, List.set_cons_zero, List.set_cons_succ]
              refine wpAnyH_take (oi := ⟨_, _, _, _, _, _⟩) (i := 12) (v := .pointer (some ⟨mp, 0, none⟩)) rfl (by kernel_rfl) (by kernel_rfl) (by kernel_rfl) (fun _ _ _ h => h) (Or.inl ⟨by rfl, fun _ _ => rfl⟩) HS ?_
              simp only [Act.put, List.setIfInBounds_toArray, List.set_cons_zero, List.set_cons_succ]
              refine wpAnyH_take (oi := ⟨_, _, _, _, _, _⟩) (i := 13) (v := .int .i64 (u : Int)) rfl (by kernel_rfl) (by kernel_rfl) (by kernel_rfl) (fun _ _ _ h => h) (Or.inl ⟨by rfl, fun _ _ => rfl⟩) HS ?_
              simp only [Act.put, List.setIfInBounds_toArray, List.set_cons_zero, List.set_cons_succ]
              refine wpAnyH_take (oi := ⟨_, _, _, _, _, _⟩) (i := 15) (v := .pointer (some ⟨rq, 0, none⟩)) rfl (by kernel_rfl) (by kernel_rfl) (by kernel_rfl) (fun _ _ _ h => h) (Or.inl ⟨by rfl, fun _ _ => rfl⟩) HS ?_
              simp only [Act.put, List.setIfInBounds_toArray, List.set_cons_zero, List.set_cons_succ]
              refine wpAnyH_take (oi := ⟨_, _, _, _, _, _⟩) (i := 16) (v := .int .i64 (u : Int)) rfl (by kernel_rfl) (by kernel_rfl) (by kernel_rfl) (fun _ _ _ h => h) (Or.inl ⟨by rfl, fun _ _ => rfl⟩) HS ?_
              simp only [Act.put, List.setIfInBounds_toArray, List.set_cons_zero, List.set_cons_succ]
              refine wpAnyH_all (rs := [14]) (by kernel_rfl) (by simp) fun i hi => ?_
              obtain rfl : i = 14 := by simpa using hi
              refine op_call (om := ⟨_, _, _, _, _, _⟩) (fn := 31) (args := #[.pointer (some ⟨mp, 0, none⟩), .int .i64 (u : Int)]) (R := fun x w' => x = .int .i64 (Sp.countOf (heldC n' hz) (u : Int) : Nat) ∧ w16.drew = w') rfl rfl (by go_simp)
                (HMC.out.mono fun e w' h => ⟨_, h.1, rfl, h.2⟩) _ _ rfl rfl ?_
              rintro x w17 ⟨rfl, rfl⟩
              refine ⟨HS, ?_⟩
              clear hi
              simp only [Act.put, List.setIfInBounds_toArray, List.set_cons_zero, List.set_cons_succ]
              refine wpAnyH_all (rs := [17]) (by kernel_rfl) (by simp) fun i hi => ?_
              obtain rfl : i = 17 := by simpa using hi
              refine op_call (om := ⟨_, _, _, _, _, _⟩) (fn := 32) (args := #[.pointer (some ⟨rq, 0, none⟩), .int .i64 (u : Int)]) (R := fun x w' => x = .int .i64 (Sp.countOf (heldC n' hz) (u : Int) : Nat) ∧ w16.drew = w') rfl rfl (by go_simp)
                (HXC.out.mono fun e w' h => ⟨_, h.1, rfl, h.2⟩) _ _ rfl rfl ?_
              rintro x w17 ⟨rfl, rfl⟩
              refine ⟨HS, ?_⟩
              clear hi
              simp only [Act.put, List.setIfInBounds_toArray, List.set_cons_zero, List.set_cons_succ]
              refine wpAnyH_take (oi := ⟨_, _, _, _, _, _⟩) (i := 18) (v := .bool false) rfl (by kernel_rfl) (by kernel_rfl) (by kernel_rfl) (fun _ _ _ h => h) (Or.inl ⟨by rfl, fun _ _ => by go_simp⟩) HS ?_
              simp only [Act.put, List.setIfInBounds_toArray, List.set_cons_zero, List.set_cons_succ]
              refine wpAnyH_take (oi := ⟨_, _, _, _, _, _⟩) (i := 19) (v := .bool false) rfl (by kernel_rfl) (by kernel_rfl) (by kernel_rfl) (fun _ _ _ h => h) (Or.inl ⟨by rfl, fun _ _ => by go_simp⟩) HS ?_
              simp only [Act.put, List.setIfInBounds_toArray, List.set_cons_zero, List.set_cons_succ]
              refine wpAnyH_done (by kernel_rfl) ?_ _
              clear HS HMC HXC CV1 CV2 D0 D5
              go_wp2_with fail
              go_roundw
              case rel => exact ⟨k + 1, by omega, by go_num, hbn⟩
              case measure => simp [Go.RowKit.intOf]; omega
            · obtain rfl : k = U.length := by omega
              have hdr := hd14.keep (keeps_below hb) (fun _ _ _ h => h)
              have hrr := hr14.keep (keeps_below hb) (fun _ _ _ h => h)
              have hcr : CR wr w2.heap.size A2 l2 := hc14.keep fun q hq => World.cell?_of_block (hb.block q.block (by omega))
              have hsz := hb.size
              have hs := same_any hdr hok11 hup V1 hrr hdn (by rw [hQ0]; exact Nat.zero_le _) a1 A2 l2 c2 (hcr.more (by omega)) m2 HGD.out HRD.out HS'.out HM2.out
              have bwr := bw14.trans (hb.mono bw14.size)
              clear hdr hrr hcr hd14 m14 x14 hr14 hc14 bw14 hb
              go_wp2_with fail
              refine hs.mono ?_
              rintro e w17 ⟨rfl, b17⟩
              have HFIN := Lib.hid (bwr.trans (b17.mono bwr.size))
              clear hs b17 bwr
              go_wp2_with fail
              go_ret
              exact ⟨rfl, HFIN.out⟩
      · rw [if_pos hw] at hbo
        obtain ⟨rfl, b11⟩ := hbo
        obtain ⟨lb, mb, m, iv, hda, _⟩ := hd10.keep (keeps_below b11) (fun _ _ _ h => h)
        have hacts := acts_at hda
        rw [hac] at hacts
        have HFIN := Lib.hid (bw10.trans (b11.mono bw10.size))
        have hx1 : (worse != 0) = true := by simpa using hw
        clear hbuild hcase hda b11 bw10 hw
        go_wp2_with fail
        refine hacts.mono ?_
        rintro e w12 ⟨rfl, rfl⟩
        go_wp2_with fail
        go_ret
        exact ⟨rfl, HFIN.out⟩
    · have hx300 : decide ((l3.length : Int) > 300) = true := by simp; omega
      go_wp2_with fail
      go_ret
      exact ⟨rfl, bw2⟩

end Go.Proofs.YtacghpabjmnfiaaGreatDoor.shadowBuilds
