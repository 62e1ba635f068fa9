/-
  WalkShadowSame
-/
import Derived.Test.YtacghpabjmnfiaaGreatDoorGA
import Derived.WalkKit
import Derived.ProofKit
import Derived.OpenShut
import Derived.Deep.DeepHandedRow
import Derived.Lib.LaidTab
import Derived.ChangeOld
import Derived.Below
import Derived.Deep.QuietTactic
import Derived.BigQuiet
import Derived.WalkSmall
import Derived.Test.YtacghpabjmnfiaaGreatDoorShAwake
import Derived.Test.YtacghpabjmnfiaaGreatDoorGSu
import Derived.Test.YtacghpabjmnfiaaGreatDoorShInts
import Derived.Test.YtacghpabjmnfiaaGreatDoorWkErr
import Derived.Test.YtacghpabjmnfiaaGreatDoorTrLoad
import Derived.Test.YtacghpabjmnfiaaGreatDoorActIn
import Derived.Test.YtacghpabjmnfiaaGreatDoorGDo
import Derived.Test.YtacghpabjmnfiaaGreatDoorCapIn
import Derived.Test.YtacghpabjmnfiaaGreatDoorShDone
import Derived.Test.YtacghpabjmnfiaaGreatDoorRdOfL
namespace Go.Proofs.YtacghpabjmnfiaaGreatDoor.shadowSame
open Go.ChangeShapes Go.WideShapes Go.ChangeAt Go.RowKit Sp
set_option linter.unusedVariables false

set_option maxRecDepth 100000 in
set_option maxHeartbeats 1000000 in
theorem walk (A0 : Option Addr) (x0 : List UInt8) (c0 : Nat) (a1 : Int) (A2 : Option Addr) (l2 : List Int) (c2 : Nat) (w : World) (b0 : BR w w.heap.size A0 x0) (l0 : x0.length ≤ 140737488351232) (q0 : x0.length ≤ c0) (w1 : (Lit.int .i64 a1).wf = true) (o2 : ZR w w.heap.size A2 l2) (m2 : l2.length ≤ 17592186044416) (hT : Tab w) :
    Calls Tryz.prog 7 #[.slice A0 x0.length c0, .int .i64 a1, .slice A2 l2.length c2] w fun e w' => e = .returned (.bool true) ∧ Below w.heap.size w w' := by
  have ha1 := i64_of_wf w1
  have hp0 := hT.pos
  go_enter Tryz.func7, Tryz.ntmps7
  go_wp2_with fail
  refine (shAwake_any _ hT).mono ?_
  rintro e w1 ⟨rfl, b1⟩
  have hz1 : ZR w1 w.heap.size A2 l2 := o2.keep (keeps_below b1) (Nat.le_refl _) (fun _ _ h => h)
  have hx1 := (b0.below b1).more b1.size
  have tb1 := hT.keeps (keeps_below b1) (fun h => h)
  go_wp2_with fail
  refine (few_nil A0 x0.length c0 w1 (by omega)).mono ?_
  rintro e w2 ⟨rfl, rfl⟩
  by_cases hsm : x0.length ≤ 19200
  · rw [decide_eq_true hsm]
    by_cases hl50 : l2.length ≤ 50
    · have hx50 : decide ((l2.length : Int) > 50) = false := by simp; omega
      obtain ⟨R2, cap2, w2, hap2, own2, b2⟩ := run_append8 (P := Tryz.prog) w1 30 30 5 Tryz.info8 Tryz.underlying30 A0 x0 c0 hx1 (by omega)
      obtain ⟨R3, cap3, w3, hap3, own3, b3⟩ := run_app0 w2 30 own2 b2.size (by omega) 9600 (by omega) (by omega)
      rw [show (((9600 : Nat) : Int)) = 9600 from rfl] at hap3
      have hlX : (x0 ++ List.replicate 9600 (0 : UInt8)).length = x0.length + 9600 := by rw [List.length_append, List.length_replicate]
      have hDB : (ofD (x0 ++ List.replicate 9600 0)).Ok (nBytes x0.length + 150) := by
        have := ofD_ok (x0 ++ List.replicate 9600 0) (by rw [hlX]; omega)
        rwa [hlX, nBytes_more] at this
      have hnow : ∀ k, k < nBytes x0.length → (ofD (x0 ++ List.replicate 9600 0)).now k = (ofD x0).now k := fun k hk => more_now x0 hk
      have hof := of_long R3 (x0 ++ List.replicate 9600 0) cap3 w3 own3.br (by rw [hlX]; omega) own3.cap_le
      rw [List.take_of_length_le (by rw [hlX]; omega)] at hof
      have b13 := b2.trans (b3.mono (Nat.le_refl _))
      have hx3 := (hx1.below b13).more b13.size
      have tb3 := tb1.keeps (keeps_below b13) (fun h => h)
      have hup : (ofD (x0 ++ List.replicate 9600 0)).down = false := rfl
      have hQB : (ofD (x0 ++ List.replicate 9600 0)).Q = [] := rfl
      have hlB : (ofD (x0 ++ List.replicate 9600 0)).left = -1 := rfl
      have haB : (ofD (x0 ++ List.replicate 9600 0)).acts = 0 := rfl
      have bw3 := b1.trans (b13.mono b1.size)
      have s03 := bw3.size
      have AP2 := Lib.hid hap2
      have AP3 := Lib.hid hap3
      have HOF := Lib.hid hof
      clear hap2 hap3 own2 own3 hof b2 b3 b13 hlX
      generalize ofD (x0 ++ List.replicate 9600 0) = DB at *
      generalize x0 ++ List.replicate 9600 (0 : UInt8) = X at *
      go_wp2_with (first
        | (at_builtin; refine wpList_append_run rfl _ _ 30 rfl _ AP2.out ?_)
        | (at_builtin; refine wpList_append2 rfl _ _ 30 3 rfl _ AP3.out ?_))
      refine HOF.out.mono ?_
      rintro e w4 ⟨p, rfl, hd4, k4⟩
      have hx4 := k4.br hx3 fun _ _ _ h => h
      clear AP2 AP3 HOF hx3
      go_wp2_with fail
      refine (refOf_long A0 x0 c0 w4 hx4 (by omega) q0).mono ?_
      rw [List.take_of_length_le (show x0.length ≤ 128000 by omega)]
      rintro e w5 ⟨q, v, G, rfl, hn5⟩
      have hDR : (ofD x0).Ok (nBytes x0.length) := ofD_ok x0 (by omega)
      have hr5 := hn5.rd hDR rfl rfl rfl rfl fun i hi => by
        show fillR x0 (nBytes x0.length) i = sec (padded x0) i
        unfold fillR
        rw [if_pos hi]
      have hQ0 : (ofD x0).Q = [] := rfl
      have hdn : (ofD x0).down = false := rfl
      have s4 := k4.size
      have s5 := hn5.kp.size
      have hd5 := (hd4.mono (G := fun k => w3.heap.size ≤ k ∧ k < w4.heap.size) (fun k hk h => ⟨h, hk⟩)).keep hn5.kp (fun _ _ _ h => h)
      have k35 := k4.trans hn5.kp
      have tb5 := tb3.keeps k35 (fun h => h)
      have bw5 := bw3.trans (k35.toBelow w.heap.size bw3.size (fun _ h => h.elim))
      clear hd4 hx4 hn5 tb3 tb1 k35
      generalize hDRx : ofD x0 = DR at *
      clear hDRx
      generalize nBytes x0.length = n at *
      obtain ⟨n', sv, wv, svs, ws, hr5⟩ := hr5
      obtain rfl : n' = n := by have h1 := hr5.ok.len; have h2 := hDR.len; omega
      have htr := tread_at hr5 hdn (by rw [hQ0]; exact Nat.zero_le _) a1
      have hX : ∃ XX, readT DR n' a1 = XX := ⟨_, rfl⟩
      obtain ⟨XX, hX⟩ := hX
      rw [hX] at htr
      go_wp2_with fail
      refine htr.mono ?_
      rintro e w6 ⟨b6, (⟨lv, pg, l, R, c, rfl, rfl, o6, hlv, hpg⟩ | ⟨rfl, rfl⟩)⟩
      · clear htr
        have A1 := Lib.hid (allocTr w6)
        have t1 := TrAt.box w6 (top := 0) (lv := z4) (pg := z128) (v := nilS) (by simp [z4]) (by simp [z128])
        obtain ⟨w7, S7, t7, k7⟩ := t1.store (top' := a1) (lv' := lv) (pg' := pg) (R' := R) (m := l.length) (c := c) hlv hpg
        have S7' := Lib.hid S7
        have s6 := b6.size
        have k67 : Keeps (fun _ => False) w6 w7 := ⟨k7.os, k7.tape, k7.output, by have := k7.size; simp at this; omega, fun b hb _ => (k7.block b (by simp; omega) (by omega)).trans (Below.heap_alloc _ _ _ hb)⟩
        have k57 := (keeps_below b6).trans k67
        have c133 := t7.list
        have LT6 : w6.heap.size < w7.heap.size := (Array.getElem?_eq_some_iff.1 t7.head).1
        have z7 := (o6.ir.keep k67).zr
        have hr7 := hr5.keep k57 (fun _ _ _ h => h)
        have hd7 := hd5.keep k57 (fun _ _ _ h => h)
        have tb7 := tb5.keeps k57 (fun h => h)
        have hlo := tload_at hr7 hdn (by rw [hQ0]; exact Nat.zero_le _) a1
        rw [hX] at hlo
        have bw7 := bw5.trans (k57.toBelow w.heap.size bw5.size (fun _ h => h.elim))
        have s7 := k67.size
        clear S7 t1 t7 k7 k67 k57 hr5 b6 hd5 tb5 o6
        go_wp2_with (first
          | ((with_reducible refine at_ (op := .alloc 47) ?_); refine wpList_val rfl _ (ex_alloc 47 rfl _ A1.out) ?_)
          | ((with_reducible refine here (op := .store 47 (.tmp 9) (.tmp 40)) ?_); refine wpList_store_run rfl 47 _ _ rfl _ _ rfl rfl S7'.out ?_))
        refine hlo.mono ?_
        rintro e w8 ⟨b8, ⟨lv', pg', l', g8, he, rfl, row8⟩ | ⟨he, _⟩⟩
        · injection he with he
          injection he with e1 he
          injection he with e2 e3
          subst e1 e2 e3
          have hr8 := hr7.keep (keeps_below b8) (fun _ _ _ h => h)
          have hd8 := hd7.keep (keeps_below b8) (fun _ _ _ h => h)
          have tb8 := tb7.keeps (keeps_below b8) (fun h => h)
          have z8 := z7.keep (keeps_below b8) (Nat.le_refl _) (fun _ _ h => h)
          have c8 := (World.cell?_of_block (w := w7) (b8.block w6.heap.size LT6)).trans c133
          have s8 := b8.size
          have bw8 := bw7.trans (b8.mono bw7.size)
          have lt8 : w6.heap.size < w8.heap.size := by omega
          have kd8 : Keeps (fun _ => False) w8 w8.drew := Keeps.drew _ _
          have HS : (fun W : World => W.cell? ⟨w6.heap.size, 133, none⟩ = some (.slice R l.length c)) w8.drew := c8
          have zl : ((l.map fun (k : Nat) => (k : Int)).length) = l.length := by simp
          have hll : l.length ≤ n' := readT_len hX
          have hn300 := hDR.n_le
          have hheld := held_any ((n' + 150 : Nat) : Int) R (l.map fun (k : Nat) => (k : Int)) c w8.drew (zr_more (z8.keep kd8 b8.size (fun _ _ h => h)) b8.size) (by rw [zl]; omega)
          rw [zl, show Sp.nS ((n' + 150 : Nat) : Int) = n' + 150 from by unfold Sp.nS; have := hDB.n_le; omega] at hheld
          have HHELD := Lib.hid hheld
          have hlen := (hd8.keep kd8 (fun _ _ _ h => h)).lenN hDB
          have HLEN := Lib.hid hlen
          clear hheld hlen hlo b8 hr7 hd7 tb7 z7 z8 c133 A1 S7' bw7 c8
          go_wp2_with fail
          refine wp_region_held (S := fun W : World => W.cell? ⟨w6.heap.size, 133, none⟩ = some (.slice R l.length c)) (by kernel_rfl) ?_
          change wpAnyH _ _ _ _ _ _ _ _ w8.drew
          refine wpAnyH_take (oi := ⟨_, _, _, _, _, _⟩) (i := 0) (v := .pointer (some ⟨p, 0, none⟩)) rfl (by kernel_rfl) (by kernel_rfl) (by kernel_rfl) (fun _ _ _ h => h) (Or.inl ⟨by rfl, fun _ _ => rfl⟩) HS ?_
          simp only [Act.put, List.setIfInBounds_toArray, List.set_cons_zero, List.set_cons_succ]
          refine wpAnyH_take (oi := ⟨_, _, _, _, _, _⟩) (i := 2) (v := .pointer (some ⟨w6.heap.size, 133, none⟩)) rfl (by kernel_rfl) (by kernel_rfl) (by kernel_rfl) (fun _ _ _ h => h) (Or.inl ⟨by rfl, fun _ _ => by go_simp⟩) HS ?_
          simp only [Act.put, List.setIfInBounds_toArray, List.set_cons_zero, List.set_cons_succ]
          refine wpAnyH_take (oi := ⟨_, _, _, _, _, _⟩) (i := 3) (v := .slice R l.length c) rfl (by kernel_rfl) (by kernel_rfl) (by kernel_rfl) (fun _ _ _ h => h) (yif_load rfl 43 (.tmp 59) rfl _ _ rfl fun w h => load_one aggI1 h) HS ?_
          simp only [Act.put, List.setIfInBounds_toArray, List.set_cons_zero, List.set_cons_succ]
          refine wpAnyH_all (rs := [1]) (by kernel_rfl) (by simp) fun i hi => ?_
          obtain rfl : i = 1 := by simpa using hi
          refine op_call (om := ⟨_, _, _, _, _, _⟩) (fn := 37) (args := #[.pointer (some ⟨p, 0, none⟩)]) (R := fun u w' => u = .int .i64 ((n' + 150 : Nat) : Int) ∧ w8.drew = w') rfl rfl (by go_simp)
            (HLEN.out.mono fun e w' h => ⟨_, h.1, rfl, h.2⟩) _ _ rfl rfl ?_
          rintro u w9 ⟨rfl, rfl⟩
          refine ⟨HS, ?_⟩
          clear hi HLEN
          simp only [Act.put, List.setIfInBounds_toArray, List.set_cons_zero, List.set_cons_succ]
          refine wpAnyH_all (rs := [4]) (by kernel_rfl) (by simp) fun i hi => ?_
          obtain rfl : i = 4 := by simpa using hi
          refine op_call (om := ⟨_, _, _, _, _, _⟩) (fn := 24) (args := #[.int .i64 ((n' + 150 : Nat) : Int), .slice R l.length c]) (R := fun u w' => ∃ mp rq mi hi, u = .tuple #[.pointer (some ⟨mp, 0, none⟩), .pointer (some ⟨rq, 0, none⟩)] ∧ Sp.MapS w' w8.drew.heap.size mi mp (heldC (n' + 150) (l.map fun (k : Nat) => (k : Int))) ∧ w8.drew.heap.size ≤ mi ∧ mi ≤ w'.heap.size ∧ Below w8.drew.heap.size w8.drew w') rfl rfl (by go_simp)
            (HHELD.out.mono fun e w' ⟨mp, rq, mi, hi, he, h1, _, h3, h4, h5, h6⟩ => ⟨_, he, mp, rq, mi, hi, rfl, h1, h3, by omega, h6⟩) _ _ rfl rfl ?_
          rintro u w10 ⟨mp, rq, mi, hi', rfl, m10, hmi1, hmi2, b10⟩
          have HS10 : (fun W : World => W.cell? ⟨w6.heap.size, 133, none⟩ = some (.slice R l.length c)) w10 := (World.cell?_of_block (w := w8.drew) (b10.block w6.heap.size lt8)).trans HS
          refine ⟨HS10, ?_⟩
          clear hi HHELD HS
          simp only [Act.put, List.setIfInBounds_toArray, List.set_cons_zero, List.set_cons_succ]
          refine wpAnyH_take (oi := ⟨_, _, _, _, _, _⟩) (i := 5) (v := .tuple #[.pointer (some ⟨mp, 0, none⟩), .pointer (some ⟨rq, 0, none⟩)]) rfl (by kernel_rfl) (by kernel_rfl) (by kernel_rfl) (fun _ _ _ h => h) (Or.inl ⟨by rfl, fun _ _ => rfl⟩) HS10 ?_
          simp only [Act.put, List.setIfInBounds_toArray, List.set_cons_zero, List.set_cons_succ]
          refine wpAnyH_take (oi := ⟨_, _, _, _, _, _⟩) (i := 6) (v := .pointer (some ⟨mp, 0, none⟩)) rfl (by kernel_rfl) (by kernel_rfl) (by kernel_rfl) (fun _ _ _ h => h) (Or.inl ⟨by rfl, fun _ _ => by go_simp⟩) HS10 ?_
          simp only [Act.put, List.setIfInBounds_toArray, List.set_cons_zero, List.set_cons_succ]
          refine wpAnyH_take (oi := ⟨_, _, _, _, _, _⟩) (i := 7) (v := .pointer (some ⟨rq, 0, none⟩)) rfl (by kernel_rfl) (by kernel_rfl) (by kernel_rfl) (fun _ _ _ h => h) (Or.inl ⟨by rfl, fun _ _ => by go_simp⟩) HS10 ?_
          simp only [Act.put, List.setIfInBounds_toArray, List.set_cons_zero, List.set_cons_succ]
          refine wpAnyH_take (oi := ⟨_, _, _, _, _, _⟩) (i := 8) (v := .pointer (some ⟨mp, 0, none⟩)) rfl (by kernel_rfl) (by kernel_rfl) (by kernel_rfl) (fun _ _ _ h => h) (Or.inl ⟨by rfl, fun _ _ => rfl⟩) HS10 ?_
          simp only [Act.put, List.setIfInBounds_toArray, List.set_cons_zero, List.set_cons_succ]
          refine wpAnyH_take (oi := ⟨_, _, _, _, _, _⟩) (i := 9) (v := .pointer (some ⟨rq, 0, none⟩)) rfl (by kernel_rfl) (by kernel_rfl) (by kernel_rfl) (fun _ _ _ h => h) (Or.inl ⟨by rfl, fun _ _ => rfl⟩) HS10 ?_
          simp only [Act.put, List.setIfInBounds_toArray, List.set_cons_zero, List.set_cons_succ]
          refine wpAnyH_done (by kernel_rfl) ?_ _
          clear HS10
          have k810 : Keeps (fun _ => False) w8 w10 := kd8.trans (keeps_below b10)
          have hr10 := (hr8.mono (G := fun b => w4.heap.size ≤ b ∧ b < w8.heap.size) (fun b hb h => ⟨h, hb⟩)).keep k810 (fun _ _ _ h => h)
          have hd10 := hd8.keep k810 (fun _ _ _ h => h)
          have tb10 := tb8.keeps k810 (fun h => h)
          have row10 := row8.keepB (k810.block g8 row8.lt_ (fun h => h))
          have bw10 := bw8.trans (k810.toBelow w.heap.size bw8.size (fun _ h => h.elim))
          have s10 := k810.size
          have sdr : w8.drew.heap.size = w8.heap.size := rfl
          rw [sdr] at m10 hmi1
          have hMl : (memTo DR pg 128).length = 8192 := memTo_len hDR pg 128 (Nat.le_refl _)
          have r0 := ChRow.nil w10 w10.heap.size
          have R0 := Lib.hid r0
          have HX := Lib.hid hX
          have HNOW := Lib.hid hnow
          have HM0 : Hid (memTo DR pg 128 = memTo DR pg 128) := rfl
          clear r0 hX hnow hd8 hr8 tb8 row8 b10 k810 kd8 bw8 bw5 bw3 sdr
          go_wp2_with fail
          go_loopw [68, 15, 17] (fun i s _ wr => ∃ (k : Nat) (Rl : Option Addr) (cl : Nat) (L : List ChV), k ≤ l2.length ∧ i = .int .i64 k ∧ s = .slice Rl L.length cl ∧ ChRow wr w10.heap.size Rl cl L ∧ L.length ≤ k ∧ (∀ a ∈ L, a.good ∧ ∀ j, j < 64 → a.xs.getD j 0 = (memTo DR pg 128).getD (64 * a.page.toNat + j) 0) ∧ Below w10.heap.size w10 wr) (fun i _ _ _ => l2.length - (Go.RowKit.intOf i).toNat)
          case atStart => exact ⟨0, none, 0, [], Nat.zero_le _, rfl, rfl, R0.out, Nat.le_refl _, (fun a ha => by cases ha), Below.refl _ _⟩
          case round =>
            clear R0
            obtain ⟨k, Rl, cl, L, hk, rfl, rfl, hr, hLk, hLp, hb1⟩ := hrel
            by_cases hlt : k < l2.length
            · have zr := o2.keep (keeps_below (bw10.trans (hb1.mono bw10.size))) (Nat.le_refl _) (fun _ _ h => h)
              obtain ⟨ad, rfl, hcell⟩ := zr.at_ hlt
              generalize l2[k] = x at *
              by_cases hpx : 0 ≤ x ∧ x < 128
              · obtain ⟨pn, rfl⟩ := Int.eq_ofNat_of_zero_le hpx.1
                have hp128 : pn < 128 := by omega
                have rowr := row10.keepB (hb1.block g8 row10.lt_)
                have brp := br_block (w := wr) rowr.block (pn * 64) 64
                have hx64 : (((memTo DR pg 128).drop (pn * 64)).take 64).length = 64 := by rw [List.length_take, List.length_drop, hMl]; omega
                have hxj : ∀ j, j < 64 → (((memTo DR pg 128).drop (pn * 64)).take 64).getD j 0 = (memTo DR pg 128).getD (64 * pn + j) 0 := fun j hj => by
                  rw [List.getD_eq_getElem?_getD, List.getElem?_take, if_pos hj, List.getElem?_drop, ← List.getD_eq_getElem?_getD, show pn * 64 + j = 64 * pn + j from by omega]
                generalize ((memTo DR pg 128).drop (pn * 64)).take 64 = xs at *
                obtain ⟨R2', c2', w3', hap, own3, b3⟩ := run_append8 (P := Tryz.prog) wr 30 30 5 Tryz.info8 Tryz.underlying30 (some ⟨g8, pn * 64, none⟩) xs (8192 - pn * 64) brp (by omega)
                rw [hx64] at hap
                have hAP := Lib.hid hap
                have hb0 : ∀ adr, R2' = some adr → wr.heap.size ≤ adr.block ∧ adr.block < w3'.heap.size := by
                  rintro adr rfl
                  rcases own3.2 with ⟨e, _⟩ | ⟨g', cap'', cur, e, hb', hg', rest⟩
                  · cases e
                  · cases e
                    exact ⟨hb', (Array.getElem?_eq_some_iff.1 hg').1⟩
                have r3 := hr.below b3
                have br3 := own3.br
                have hcap := own3.cap_le
                have s3 := b3.size
                have e4 := heap_alloc_new w3' (.cells #[.int .i64 (pn : Int), .slice R2' 64 c2'] 32)
                have b4 : Below w3'.heap.size w3' (w3'.alloc (.cells #[.int .i64 (pn : Int), .slice R2' 64 c2'] 32)) := (Below.refl _ _).alloc (Nat.le_refl _) _
                have s4' : (w3'.alloc (.cells #[.int .i64 (pn : Int), .slice R2' 64 c2'] 32)).heap.size = w3'.heap.size + 1 := by simp
                have r4 := r3.below b4
                have hob := own_block hr.own
                have h40 : (w3'.alloc (.cells #[.int .i64 (pn : Int), .slice R2' 64 c2'] 32)).cell? ((⟨w3'.heap.size, 0, none⟩ : Addr).add 0) = some (.int .i64 (pn : Int)) := by rw [Addr.add_mid, cell_of_row _ _ _ _ _ _ e4]; rfl
                have h41 : (w3'.alloc (.cells #[.int .i64 (pn : Int), .slice R2' 64 c2'] 32)).cell? ((⟨w3'.heap.size, 0, none⟩ : Addr).add 1) = some (.slice R2' 64 c2') := by rw [Addr.add_mid, cell_of_row _ _ _ _ _ _ e4]; rfl
                obtain ⟨R', cap', w5', hap5, r5, b5, hjk1, hjk2⟩ := r4.app (by have := hb1.size; omega) (by omega) ⟨(pn : Int), R2', xs, c2'⟩ ⟨(br3.below b4).more b4.size, by show (-9223372036854775808 : Int) ≤ pn; omega, by show (pn : Int) ≤ _; omega, hcap⟩
                  (fun adr e => ⟨by have := (hb0 adr e).1; have := hb1.size; omega, by have := (hb0 adr e).2; omega, fun g0 hg0 => by
                    have h1 := (hob g0 hg0).2.1
                    have h2 := (hb0 adr e).1
                    omega⟩) ⟨w3'.heap.size, 0, none⟩ 1 22 h40 (by rw [hx64]; exact h41)
                have hAP5 := Lib.hid hap5
                have hbw : Below w10.heap.size w10 w5' := (hb1.trans (b3.mono hb1.size)).trans ((b4.mono (by have := hb1.size; omega)).trans b5)
                have HLP := Lib.hid (show ∀ a ∈ L ++ [(⟨(pn : Int), R2', xs, c2'⟩ : ChV)], a.good ∧ ∀ j, j < 64 → a.xs.getD j 0 = (memTo DR pg 128).getD (64 * a.page.toNat + j) 0 from fun a ha => by
                  rcases List.mem_append.1 ha with h | h
                  · exact hLp a h
                  · obtain rfl := List.mem_singleton.1 h
                    refine ⟨⟨by show (0 : Int) ≤ pn; omega, by show (pn : Int) < 128; omega, hx64⟩, fun j hj => ?_⟩
                    show xs.getD j 0 = _
                    rw [hxj j hj]
                    show _ = (memTo DR pg 128).getD (64 * ((pn : Nat) : Int).toNat + j) 0
                    rw [Int.toNat_natCast])
                have hok0 : (L ++ [(⟨(pn : Int), R2', xs, c2'⟩ : ChV)]).length = L.length + 1 := by simp
                have hMlH := Lib.hid hMl
                have q1 : (0 : Int) ≤ (pn : Int) * 64 := by omega
                have q2 : (pn : Int) * 64 ≤ ((pn : Int) + 1) * 64 := by omega
                have q3 : ((pn : Int) + 1) * 64 ≤ 8192 := by omega
                have q4 : ((pn : Int) * 64).toNat = pn * 64 := by omega
                have q5 : (((pn : Int) + 1) * 64).toNat = (pn + 1) * 64 := by omega
                have q6 : (pn + 1) * 64 - pn * 64 = 64 := by omega
                have q7 : ¬ 8192 = pn * 64 := by omega
                have hx1 : decide ((pn : Int) ≥ 0) = true := by simp
                have hx2 : decide ((pn : Int) < 128) = true := by simp; omega
                clear hjk1 hjk2 hap hap5 own3 r3 r4 br3 e4 b4 h40 h41 hob hb0 hr b3 b5 hx64 hcap hxj hLp hMl brp rowr zr row10
                go_wp2_with (first
                  | (at_builtin; refine wpList_append_run rfl _ _ 30 rfl _ hAP.out ?_)
                  | (at_builtin; refine wpList_append_run rfl _ _ 22 rfl _ hAP5.out ?_))
                go_roundw
                case rel => exact ⟨k + 1, R', cap', L ++ [(⟨(pn : Int), R2', xs, c2'⟩ : ChV)], by omega, by go_num, by rw [hok0], r5, by rw [hok0]; omega, HLP.out, hbw⟩
                case measure => simp [Go.RowKit.intOf]; omega
              · have HLP := Lib.hid hLp
                clear hLp zr
                by_cases hge : 0 ≤ x
                · have hx1 : decide (x ≥ 0) = true := by simpa using hge
                  have hx2 : decide (x < 128) = false := by simp; omega
                  go_wp2_with fail
                  go_roundw
                  case rel => exact ⟨k + 1, Rl, cl, L, by omega, by go_num, rfl, hr, by omega, HLP.out, hb1⟩
                  case measure => simp [Go.RowKit.intOf]; omega
                · have hx1 : decide (x ≥ 0) = false := by simp; omega
                  go_wp2_with fail
                  go_roundw
                  case rel => exact ⟨k + 1, Rl, cl, L, by omega, by go_num, rfl, hr, by omega, HLP.out, hb1⟩
                  case measure => simp [Go.RowKit.intOf]; omega
            · clear HM0
              have kw : Keeps (fun _ => False) w10 wr := keeps_below hb1
              have hrW := hr10.keep kw (fun _ _ _ h => h)
              have hdW := hd10.keep kw (fun _ _ _ h => h)
              have tbW := tb10.keeps kw (fun h => h)
              have mW := m10.below hb1
              have sW := hb1.size
              have bwW := bw10.trans (hb1.mono bw10.size)
              have hgL : ∀ a ∈ L, a.good := fun a ha => (hLp a ha).1
              have hnn := hDB.n_eq
              have hXR := readT_rng HX.out
              have hXS := readT_same HX.out (fun k hk => HNOW.out k (hXR k hk).2)
              have hXB : readT DB (n' + 150) a1 = some (lv, pg, l) := readT_more (Nat.le_add_right _ _) hXS
              have hE0 : errT (readT DB DB.n a1) = 0 := by rw [hnn, hXB]; rfl
              have htop := top_ok hE0
              have hbok : BOk DB (heldC (n' + 150) (l.map fun (k : Nat) => (k : Int))) l.length := by
                refine ⟨hup, by omega, by rw [heldC_len]; omega, by rw [hQB]; simp, by omega, ?_, by have := hDR.n_le; omega, by rw [heldC_len]; exact hDB.n_le⟩
                have := heldC_all (n' + 150) (l.map fun (k : Nat) => (k : Int))
                rwa [List.length_map] at this
              have hpos : 0 < w8.heap.size := by omega
              have hbuild := build_at hdW mW tbW hbok (by omega) hpos (fun k hk _ => by omega) a1 a1.toNat (E := 0) (fun lb mb n iv => show ReachE p lb mb n iv DB a1 0 from by rw [← hE0]; exact reachE_any hup p lb mb n iv a1 ha1.1 ha1.2) (fun _ => htop) Rl L cl hr.cr (by omega)
              have hneed : needs DB a1.toNat L ≤ Sp.nfree (heldC (n' + 150) (l.map fun (k : Nat) => (k : Int))) := by
                have h1 := needs_few DB a1.toNat L
                have h2 := free_more (N := n') hXR
                omega
              have hcost := costV_ok DB a1.toNat hgL
              have hkeep := build_keeps (D := DB) (cs := heldC (n' + 150) (l.map fun (k : Nat) => (k : Int))) (K := l.length) hQB a1.toNat 0 L
              have hrem := build_rem hbok a1.toNat hgL hneed
              have hnew := fun h => build_new hbok a1.toNat hgL hneed (by rw [heldC_len]; exact hDB) h (lv := lv) (pg := pg) (l0 := l) (by rw [heldC_len, ← htop.1]; exact hXB) (fun k hk => by
                have h2 := hXR k hk
                have := held_in (N := n' + 150) (zs := l.map fun (k : Nat) => (k : Int)) (x := (k : Int)) (List.mem_map.2 ⟨k, hk, rfl⟩) (by omega) (by omega)
                simpa using this)
              have hmsame := memTo_more hDR hDB (Nat.le_add_right _ _) hdn hup (readT_in HX.out).2.1 (fun k hk => HNOW.out k (hXR k hk).2) 128 (by rw [hpg]; exact Nat.le_refl _)
              have hchg := chg_same (memTo DR pg 128) hMl L hgL (fun a ha => (hLp a ha).2)
              rw [heldC_len] at hnew
              clear hLp hbok htop hXS hXB
              have HRL := Lib.hid hgL
              have HNEW := Lib.hid hnew
              have HCOST := Lib.hid hcost
              have HNEED := Lib.hid hneed
              have HREM := Lib.hid hrem
              have HKEEP := Lib.hid hkeep
              have HMS := Lib.hid hmsame
              have HCHG := Lib.hid hchg
              have HE0 := Lib.hid hE0
              clear hnew hcost hneed hrem hkeep hmsame hchg hgL hE0 hXR hr
              go_wp2_with fail
              refine hbuild.mono ?_
              rintro e w11 hbo
              unfold BuildOut at hbo
              rw [HCOST.out, if_neg (by simp), if_neg (by have := HNEED.out; simp; omega)] at hbo
              have hnew := HNEW.out
              have hrem := HREM.out
              have hkeep := HKEEP.out
              clear HNEW HREM HKEEP HCOST HNEED hbuild
              generalize rebV bnxt DB a1.toNat 0 L ⟨DB, heldC (n' + 150) (l.map fun (k : Nat) => (k : Int)), l.length⟩ = V at *
              obtain ⟨V1, V2, s⟩ := V
              simp only at hbo hnew hrem hkeep
              obtain ⟨rfl, ⟨Fd', hd11, _, hf11⟩, _, _, k11⟩ := hbo
              obtain ⟨nn, hok11⟩ := hd11.ok
              have hnn2 : nn = n' + 150 := by
                have h1 := hok11.len
                have h2 := hDB.len
                rw [hkeep.1] at h1
                omega
              subst hnn2
              obtain ⟨lv2, pg2, l2', hread, hmem, _⟩ := hnew hok11
              have hr11 := hrW.keep k11 (fun b hb h => by omega)
              have bw11 := bwW.trans (k11.toBelow w.heap.size bwW.size (fun k h => by omega))
              have hm2 : memTo s.D pg2 128 = chgL (memTo DR pg 128) (mergedOf (latestF [])) := by
                rw [hmem, HMS.out, HCHG.out]
                rfl
              have hs := same_any hd11 hok11 hrem.up V1 hr11 hdn (by rw [hQ0]; exact Nat.zero_le _) a1 none [] 0 CR.nil (by simp) (by simp) hread HX.out hm2
              rw [List.length_nil] at hs
              clear hnew hrem hkeep hread hmem hm2 k11 hd11 hr11 hok11 HMS HCHG HX HNOW
              go_wp2_with fail
              refine hs.mono ?_
              rintro e w12 ⟨rfl, b12⟩
              have HFIN := Lib.hid (bw11.trans (b12.mono bw11.size))
              clear hs b12 bw11
              go_wp2_with fail
              go_ret
              exact ⟨rfl, HFIN.out⟩
        · cases he
      · clear htr
        have A1 := Lib.hid (allocTr w6)
        have t1 := TrAt.box w6 (top := 0) (lv := z4) (pg := z128) (v := nilS) (by simp [z4]) (by simp [z128])
        obtain ⟨w7, S7, t7, k7⟩ := t1.store (top' := 0) (lv' := z4) (pg' := z128) (R' := none) (m := 0) (c := 0) (by simp [z4]) (by simp [z128])
        have S7' := Lib.hid S7
        have s6 := b6.size
        have k67 : Keeps (fun _ => False) w6 w7 := ⟨k7.os, k7.tape, k7.output, by have := k7.size; simp at this; omega, fun b hb _ => (k7.block b (by simp; omega) (by omega)).trans (Below.heap_alloc _ _ _ hb)⟩
        have k57 := (keeps_below b6).trans k67
        have hr7 := hr5.keep k57 (fun _ _ _ h => h)
        have hlo := tload_at hr7 hdn (by rw [hQ0]; exact Nat.zero_le _) a1
        rw [hX] at hlo
        have bw7 := bw5.trans (k57.toBelow w.heap.size bw5.size (fun _ h => h.elim))
        clear S7 t1 t7 k7 k67 k57 hr5 hr7 b6 hd5 tb5
        go_wp2_with (first
          | ((with_reducible refine at_ (op := .alloc 47) ?_); refine wpList_val rfl _ (ex_alloc 47 rfl _ A1.out) ?_)
          | ((with_reducible refine here (op := .store 47 (.tmp 9) (.tmp 40)) ?_); refine wpList_store_run rfl 47 _ _ rfl _ _ rfl rfl S7'.out ?_))
        refine hlo.mono ?_
        rintro e w8 ⟨b8, ⟨lv', pg', l', g8, he, rfl, row8⟩ | ⟨_, rfl⟩⟩
        · cases he
        · have HFIN := Lib.hid (bw7.trans (b8.mono bw7.size))
          clear hlo b8 bw7
          go_wp2_with fail
          go_ret
          exact ⟨rfl, HFIN.out⟩
    · have hx50 : decide ((l2.length : Int) > 50) = true := by simp; omega
      go_wp2_with fail
      go_ret
      exact ⟨rfl, b1⟩
  · rw [decide_eq_false hsm]
    go_wp2_with fail
    go_ret
    exact ⟨rfl, b1⟩

end Go.Proofs.YtacghpabjmnfiaaGreatDoor.shadowSame
