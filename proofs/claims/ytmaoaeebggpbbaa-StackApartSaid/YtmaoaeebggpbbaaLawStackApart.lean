/-
  LawStackApart
-/
import Derived.Test.YtmaoaeebggpbbaaGA
import Derived.ChangeOld
import Derived.Below
import Derived.Deep.QuietTactic
import Derived.BigQuiet
import Derived.WalkSmall
import Derived.Test.YtmaoaeebggpbbaaSkOff
import Derived.Test.YtmaoaeebggpbbaaSkIn
import Derived.Test.YtmaoaeebggpbbaaMmTail
import Derived.Test.YtmaoaeebggpbbaaGSnG
namespace Go.Proofs.Ytmaoaeebggpbbaa.stackApart
open Go.ChangeShapes Go.WideShapes Go.ChangeAt Go.RowKit Sk Mm
set_option linter.unusedVariables false

theorem own : ownKnob Try.prog.godebug = none := by kernel_rfl
theorem laidOut : laidOutB Try.prog = true := by kernel_rfl

set_option maxRecDepth 100000 in
set_option maxHeartbeats 1000000 in
theorem walk (A0 : Option Addr) (x0 : List UInt8) (c0 : Nat) (A1 : Option Addr) (l1 : List Int) (c1 : Nat) (a2 : Bool) (w : World) (b0 : BR w w.heap.size A0 x0) (l0 : x0.length ≤ 140737488351232) (q0 : x0.length ≤ c0) (o1 : IQ w w.heap.size A1 l1) (m1 : inR l1 ∧ l1.length ≤ 17592186044416) :
    Calls Try.prog 6 #[.slice A0 x0.length c0, .slice A1 l1.length c1, .bool a2] w fun e w' => e = .returned (.bool true) ∧ Below w.heap.size w w' := by
  have n1 := m1.2
  have BX := Lib.hid (fun (W : World) (hb : Below w.heap.size w W) => o1.below hb)
  have bx : ∀ W, Below w.heap.size w W → BR W W.heap.size A0 x0 := fun W hb => (b0.below hb).more hb.size
  have BB := Lib.hid bx
  clear o1 bx b0
  by_cases hl : 9000 < x0.length
  · go_enter Try.func6, Try.ntmps6
    go_wp2_with fail
    refine (skawake_any w).mono ?_
    rintro e w1 ⟨rfl, b1⟩
    go_wp2_with fail
    go_ret
    exact ⟨rfl, b1⟩
  by_cases hl2 : 200 < l1.length
  · go_enter Try.func6, Try.ntmps6
    go_wp2_with fail
    refine (skawake_any w).mono ?_
    rintro e w1 ⟨rfl, b1⟩
    go_wp2_with fail
    go_ret
    exact ⟨rfl, b1⟩
  cases a2 with
  | true =>
      go_enter Try.func6, Try.ntmps6
      go_wp2_with fail
      refine (skawake_any w).mono ?_
      rintro e w1 ⟨rfl, b1⟩
      have B1 := Lib.hid b1
      have br1 := BB.out _ b1
      clear b1
      go_wp2_with fail
      refine (mflat_any A0 x0 c0 w1 br1).mono ?_
      rintro e w2 ⟨p, gb, mb, rfl, p1, p2, p3, hm, k2⟩
      have b2 := Below.and B1.out k2 (fun _ h => h.elim) (Nat.le_refl _)
      have br2 := BB.out _ b2
      have B2 := Lib.hid b2
      have s1 := B1.out.size
      clear b2 br1
      go_wp2_with fail
      refine (rflat_any A0 x0 c0 w2 br2).mono ?_
      rintro e w3 ⟨q, rfl, hr, k3⟩
      obtain ⟨rb, rc, rd, re, hr⟩ := hr
      have hm3 := hm.keep k3 (fun h => h) (fun h => h) (fun h => h)
      obtain ⟨l1', l2', l3'⟩ := hm.lt
      have B3 := Lib.hid (Below.and B2.out k3 (fun _ h => h.elim) (Nat.le_refl _))
      have zl := fillL_len x0
      have ofs : OffS (fillL x0) (fillL x0) 40 512 := OffS.refl _ _ _ zl
      generalize fillL x0 = Z at *
      have HM := Lib.hid (show SM w3 (some ⟨p, 0, none⟩) p gb mb true Z Z from .inl ⟨rfl, rfl, hm3⟩)
      have HR := Lib.hid hr
      have NP : Hid (w.heap.size ≤ p ∧ w.heap.size ≤ mb ∧ p < w2.heap.size ∧ mb < w2.heap.size) := Lib.hid ⟨by omega, by omega, by omega, by omega⟩
      have NQ := Lib.hid (show w2.heap.size ≤ q ∧ w2.heap.size ≤ rb ∧ w2.heap.size ≤ rd from ⟨hr.q0, hr.now.lt'.1, hr.was.lt'.1⟩)
      have s3 := k3.size
      have OF := Lib.hid ofs
      have HB3 := B3
      clear hr hm hm3 k2 k3 br2 B1 B2 ofs p1 p2 p3
      go_wp2_with fail
      go_loopw [31, 10, 38, 47, 52] (fun i _ _ _ _ wr => ∃ (j : Nat) (M : List UInt8), j ≤ l1.length ∧ i = .int .i64 (j : Int) ∧ SM wr (some ⟨p, 0, none⟩) p gb mb true Z M ∧ OffS M Z 40 512 ∧ Keeps (SF true p mb) w3 wr) (fun i _ _ _ _ _ => l1.length - (RowKit.intOf i).toNat)
      case atStart => exact ⟨0, Z, by omega, rfl, HM.out, OF.out, Keeps.refl _ _⟩
      case round =>
        clear HM OF
        obtain ⟨j, M, hj, rfl, mr, off, kr⟩ := hrel
        have bw : Below w.heap.size w wr := Below.and B3.out kr (fun i f => by have := NP.out; rcases f.2 with rfl | rfl <;> omega) (Nat.le_refl _)
        by_cases hlt : j < l1.length
        · obtain ⟨ad, rfl, _, hc⟩ := (BX.out _ bw).at_ hlt
          generalize l1.getD j 0 = x at *
          have CP := Lib.hid (RPop_off mr off)
          have CU := Lib.hid (RPush_off mr off x)
          have KR := Lib.hid kr
          clear mr off kr bw
          by_cases h3 : x.tmod 3 = 0
          · have x1 : (x.tmod 3 == 0) = true := by simp [h3]
            go_wp2_with fail
            refine CP.out.mono ?_
            rintro e w5 ⟨y, M5, ⟨r, s, rfl⟩, rfl, m5, o5, k5⟩
            have M5H := Lib.hid m5
            have O5H := Lib.hid o5
            have K5H := Lib.hid (KR.out.trans k5)
            clear m5 o5 k5 hc
            go_wp2_with fail
            go_roundw
            case rel => exact ⟨j + 1, M5, by omega, by go_num, M5H.out, O5H.out, K5H.out⟩
            case measure => simp [RowKit.intOf]; omega
          · have x1 : (x.tmod 3 == 0) = false := by simp [h3]
            go_wp2_with fail
            refine CU.out.mono ?_
            rintro e w5 ⟨y, M5, ⟨r, rfl⟩, rfl, m5, o5, k5⟩
            have M5H := Lib.hid m5
            have O5H := Lib.hid o5
            have K5H := Lib.hid (KR.out.trans k5)
            clear m5 o5 k5 hc
            go_wp2_with fail
            go_roundw
            case rel => exact ⟨j + 1, M5, by omega, by go_num, M5H.out, O5H.out, K5H.out⟩
            case measure => simp [RowKit.intOf]; omega
        · obtain rfl : j = l1.length := by omega
          have hr4 := HR.out.keep kr (fun i h1 h2 f => by have := NP.out; rcases f.2 with rfl | rfl <;> omega)
          have BE := off.back (by omega) (by omega) (by omega) (by omega)
          have BW := Lib.hid bw
          have HR4 := Lib.hid hr4
          have G1 := Lib.hid (rget_at hr4 40 (by omega) (by omega))
          have S1 := sset mr 40 (cel Z 40) (by omega) (by omega)
          simp only [setS, if_pos] at S1
          have SH1 := Lib.hid S1
          have L1 := fun (W : World) (hh : RefH W w2.heap.size q rb rc rd re Z Z) => rload_at hh 512 256 (by omega) (by omega)
          rw [show (clamp 256 8192).toNat = 256 by decide] at L1
          generalize cel Z 40 = x at *
          have xl := loadL_len Z 512 256
          generalize loadL Z 512 256 = xs at *
          generalize setM M 40 x = M4 at *
          have LH := Lib.hid L1
          have BEH := Lib.hid BE
          clear hr4 BE S1 L1 kr off mr HR B3
          go_wp2_with fail
          refine G1.out.mono ?_
          rintro e w4 ⟨rfl, rfl⟩
          go_wp2_with fail
          refine SH1.out.mono ?_
          rintro e w5 ⟨rfl, m5, k5⟩
          have hr5 := HR4.out.keep k5 (fun i h1 h2 f => by have := NP.out; rcases f.2 with rfl | rfl <;> omega)
          have bw5 := Below.and BW.out k5 (fun i f => by have := NP.out; rcases f.2 with rfl | rfl <;> omega) (Nat.le_refl _)
          have m5' := SM.mem m5
          have LL := Lib.hid (LH.out _ hr5)
          have M5H := Lib.hid m5'
          have R5H := Lib.hid hr5
          have BW5 := Lib.hid bw5
          have XL := Lib.hid xl
          clear m5 m5' k5 hr5 bw5 G1 SH1 HR4 BW xl LH
          go_wp2_with fail
          refine LL.out.mono ?_
          rintro e w6 ⟨g, rfl, r6, k6⟩
          have m6 := M5H.out.keep k6 (fun h => h) (fun h => h) (fun h => h)
          have hr6 := R5H.out.keep k6 (fun _ _ _ h => h)
          have ne := row_ne m6 r6
          have C6 := mlay_at m6 512 (by omega) (by omega) (some ⟨g, 0, none⟩) xs xs.length r6.br (fun ad e _ => by cases e; exact ne) (by rw [XL.out]; omega) (Nat.le_refl _)
          rw [BEH.out] at C6
          have C6H := Lib.hid C6
          have R6H := Lib.hid hr6
          have BW6 := Lib.hid (Below.and BW5.out k6 (fun _ h => h.elim) (Nat.le_refl _))
          clear C6 hr6 m6 r6 k6 M5H R5H BW5 ne LL
          go_wp2_with fail
          refine C6H.out.mono ?_
          rintro e w7 ⟨rfl, m7, k7⟩
          have hr7 := R6H.out.keep k7 (fun i h1 h2 f => by have := NP.out; omega)
          have BW7 := Lib.hid (Below.and BW6.out k7 (fun i f => by have := NP.out; omega) (Nat.le_refl _))
          clear k7 R6H BW6 C6H
          go_wp2_with fail
          refine wp_region_held (S := fun W => RefH W w2.heap.size q rb rc rd re Z Z) (by kernel_rfl) ?_
          change wpAnyH _ _ _ _ _ _ _ _ (w7).drew
          have HS : (fun W => RefH W w2.heap.size q rb rc rd re Z Z) w7.drew := hr7.keep (Keeps.drew (fun _ => False) w7) (fun _ _ _ h => h)
          have hS := HS
          have m8 := m7.keep (Keeps.drew (fun _ => False) w7) (fun h => h) (fun h => h) (fun h => h)
          have BW8 := Lib.hid (Below.and BW7.out (Keeps.drew (fun _ => False) w7) (fun _ h => h.elim) (Nat.le_refl _))
          clear HS hr7 m7 BW7
          generalize (w7).drew = w8 at *
          refine wpAnyH_take (oi := ⟨_, _, _, _, _, _⟩) (i := 3) (v := .pointer (some ⟨q, 0, none⟩)) rfl (by kernel_rfl) (by kernel_rfl) (by kernel_rfl) (fun _ _ _ h => h) (Or.inl ⟨by rfl, fun _ _ => rfl⟩) hS ?_
          try simp only [Act.put, List.setIfInBounds_toArray, List.set_cons_zero, List.set_cons_succ]
          refine wpAnyH_take (oi := ⟨_, _, _, _, _, _⟩) (i := 4) (v := .pointer (some ⟨q, 0, none⟩)) rfl (by kernel_rfl) (by kernel_rfl) (by kernel_rfl) (fun _ _ _ h => h) (Or.inl ⟨by rfl, fun _ _ => by go_simp⟩) hS ?_
          try simp only [Act.put, List.setIfInBounds_toArray, List.set_cons_zero, List.set_cons_succ]
          refine wpAnyH_take (oi := ⟨_, _, _, _, _, _⟩) (i := 5) (v := .pointer (some ⟨q, 0, none⟩)) rfl (by kernel_rfl) (by kernel_rfl) (by kernel_rfl) (fun _ _ _ h => h) (Or.inl ⟨by rfl, fun _ _ => by go_simp⟩) hS ?_
          try simp only [Act.put, List.setIfInBounds_toArray, List.set_cons_zero, List.set_cons_succ]
          refine wpAnyH_take (oi := ⟨_, _, _, _, _, _⟩) (i := 6) (v := .slice (some ⟨rb, 0, none⟩) 8192 rc) rfl (by kernel_rfl) (by kernel_rfl) (by kernel_rfl) (fun _ _ _ h => h) (yif_load rfl 22 (.tmp 77) rfl _ _ rfl fun w h => load_one aggS h.cs.1) hS ?_
          try simp only [Act.put, List.setIfInBounds_toArray, List.set_cons_zero, List.set_cons_succ]
          refine wpAnyH_take (oi := ⟨_, _, _, _, _, _⟩) (i := 7) (v := .string ⟨Z.toArray⟩) rfl (by kernel_rfl) (by kernel_rfl) (by kernel_rfl) (fun _ _ _ h => h) (Or.inl ⟨by rfl, fun _ h => ex_convert 22 9 (.tmp 78) rfl _ _ rfl (conv_ref h)⟩) hS ?_
          try simp only [Act.put, List.setIfInBounds_toArray, List.set_cons_zero, List.set_cons_succ]
          refine wpAnyH_take (oi := ⟨_, _, _, _, _, _⟩) (i := 0) (v := .pointer (some ⟨p, 0, none⟩)) rfl (by kernel_rfl) (by kernel_rfl) (by kernel_rfl) (fun _ _ _ h => h) (Or.inl ⟨by rfl, fun _ _ => rfl⟩) hS ?_
          try simp only [Act.put, List.setIfInBounds_toArray, List.set_cons_zero, List.set_cons_succ]
          refine wpAnyH_all (rs := [1]) (by kernel_rfl) (by simp) fun i hI9 => ?_
          obtain rfl : i = 1 := by simpa using hI9
          refine op_call (om := ⟨_, _, _, _, _, _⟩) (fn := 18) (args := #[.pointer (some ⟨p, 0, none⟩)]) (R := fun u w' => ∃ g, u = .slice (some ⟨g, 0, none⟩) 8192 8192 ∧ Row8 w' g 5 Z ∧ MemAt w' p gb mb Z Z ∧ Keeps (· = mb) w8 w') rfl rfl (by go_simp)
            ((mbytes_at m8).mono fun e w' ⟨g, he, h1, h2, h3, h4⟩ => ⟨_, he, g, by rw [m8.ml], h2, h3, h4⟩) _ _ rfl rfl ?_
          rintro u w9 ⟨g9, rfl, r9, m9, k9⟩
          have hS := RefH.keep hS k9 (fun i h1 h2 h3 => by have := NP.out; omega)
          have BW9 := Lib.hid (Below.and BW8.out k9 (fun i hi => by have := NP.out; omega) (Nat.le_refl _))
          clear hI9
          refine ⟨hS, ?_⟩
          try simp only [Act.put, List.setIfInBounds_toArray, List.set_cons_zero, List.set_cons_succ]
          refine wpAnyH_all (rs := [2]) (by kernel_rfl) (by simp) fun i hI9 => ?_
          obtain rfl : i = 2 := by simpa using hI9
          refine op_run (om := ⟨_, _, _, _, _, _⟩) (u := .string ⟨Z.toArray⟩) (w' := w9) rfl rfl (ex_convert 22 9 (.tmp 73) rfl _ _ rfl (conv_row 8192 m8.ml r9)) _ _ rfl rfl ?_
          rintro u w10 ⟨rfl, rfl⟩
          refine ⟨hS, ?_⟩
          clear hI9
          try simp only [Act.put, List.setIfInBounds_toArray, List.set_cons_zero, List.set_cons_succ]
          refine wpAnyH_take (oi := ⟨_, _, _, _, _, _⟩) (i := 8) (v := .bool true) rfl (by kernel_rfl) (by kernel_rfl) (by kernel_rfl) (fun _ _ _ h => h) (Or.inl ⟨by rfl, fun _ _ => by go_simp⟩) hS ?_
          try simp only [Act.put, List.setIfInBounds_toArray, List.set_cons_zero, List.set_cons_succ]
          refine wpAnyH_take (oi := ⟨_, _, _, _, _, _⟩) (i := 9) (v := .bool true) rfl (by kernel_rfl) (by kernel_rfl) (by kernel_rfl) (fun _ _ _ h => h) (Or.inl ⟨by rfl, fun _ _ => rfl⟩) hS ?_
          try simp only [Act.put, List.setIfInBounds_toArray, List.set_cons_zero, List.set_cons_succ]
          refine wpAnyH_done (by kernel_rfl) ?_ _
          try simp only [Act.put, List.setIfInBounds_toArray, List.set_cons_zero, List.set_cons_succ]
          clear hS m8 m9 r9 k9
          go_wp2_with fail
          go_ret
          exact ⟨rfl, BW9.out⟩
  | false =>
      go_enter Try.func6, Try.ntmps6
      go_wp2_with fail
      refine (skawake_any w).mono ?_
      rintro e w1 ⟨rfl, b1⟩
      have B1 := Lib.hid b1
      have br1 := BB.out _ b1
      clear b1
      go_wp2_with fail
      refine (mflat_any A0 x0 c0 w1 br1).mono ?_
      rintro e w2 ⟨p, gb, mb, rfl, p1, p2, p3, hm, k2⟩
      have b2 := Below.and B1.out k2 (fun _ h => h.elim) (Nat.le_refl _)
      have br2 := BB.out _ b2
      have B2 := Lib.hid b2
      have s1 := B1.out.size
      clear b2 br1
      go_wp2_with fail
      refine (rflat_any A0 x0 c0 w2 br2).mono ?_
      rintro e w3 ⟨q, rfl, hr, k3⟩
      obtain ⟨rb, rc, rd, re, hr⟩ := hr
      have hm3 := hm.keep k3 (fun h => h) (fun h => h) (fun h => h)
      obtain ⟨l1', l2', l3'⟩ := hm.lt
      have B3 := Lib.hid (Below.and B2.out k3 (fun _ h => h.elim) (Nat.le_refl _))
      have zl := fillL_len x0
      have ofs : OffS (fillL x0) (fillL x0) 32 256 := OffS.refl _ _ _ zl
      generalize fillL x0 = Z at *
      have HM := Lib.hid (show SM w3 (some ⟨p, 0, none⟩) p gb mb true Z Z from .inl ⟨rfl, rfl, hm3⟩)
      have HR := Lib.hid hr
      have NP : Hid (w.heap.size ≤ p ∧ w.heap.size ≤ mb ∧ p < w2.heap.size ∧ mb < w2.heap.size) := Lib.hid ⟨by omega, by omega, by omega, by omega⟩
      have NQ := Lib.hid (show w2.heap.size ≤ q ∧ w2.heap.size ≤ rb ∧ w2.heap.size ≤ rd from ⟨hr.q0, hr.now.lt'.1, hr.was.lt'.1⟩)
      have s3 := k3.size
      have OF := Lib.hid ofs
      have HB3 := B3
      clear hr hm hm3 k2 k3 br2 B1 B2 ofs p1 p2 p3
      go_wp2_with fail
      go_loopw [31, 10, 38, 47, 52] (fun i _ _ _ _ wr => ∃ (j : Nat) (M : List UInt8), j ≤ l1.length ∧ i = .int .i64 (j : Int) ∧ SM wr (some ⟨p, 0, none⟩) p gb mb true Z M ∧ OffS M Z 32 256 ∧ Keeps (SF true p mb) w3 wr) (fun i _ _ _ _ _ => l1.length - (RowKit.intOf i).toNat)
      case atStart => exact ⟨0, Z, by omega, rfl, HM.out, OF.out, Keeps.refl _ _⟩
      case round =>
        clear HM OF
        obtain ⟨j, M, hj, rfl, mr, off, kr⟩ := hrel
        have bw : Below w.heap.size w wr := Below.and B3.out kr (fun i f => by have := NP.out; rcases f.2 with rfl | rfl <;> omega) (Nat.le_refl _)
        by_cases hlt : j < l1.length
        · obtain ⟨ad, rfl, _, hc⟩ := (BX.out _ bw).at_ hlt
          generalize l1.getD j 0 = x at *
          have CP := Lib.hid (Pop_off mr off)
          have CU := Lib.hid (Push_off mr off x)
          have KR := Lib.hid kr
          clear mr off kr bw
          by_cases h3 : x.tmod 3 = 0
          · have x1 : (x.tmod 3 == 0) = true := by simp [h3]
            go_wp2_with fail
            refine CP.out.mono ?_
            rintro e w5 ⟨y, M5, ⟨r, s, rfl⟩, rfl, m5, o5, k5⟩
            have M5H := Lib.hid m5
            have O5H := Lib.hid o5
            have K5H := Lib.hid (KR.out.trans k5)
            clear m5 o5 k5 hc
            go_wp2_with fail
            go_roundw
            case rel => exact ⟨j + 1, M5, by omega, by go_num, M5H.out, O5H.out, K5H.out⟩
            case measure => simp [RowKit.intOf]; omega
          · have x1 : (x.tmod 3 == 0) = false := by simp [h3]
            go_wp2_with fail
            refine CU.out.mono ?_
            rintro e w5 ⟨y, M5, ⟨r, rfl⟩, rfl, m5, o5, k5⟩
            have M5H := Lib.hid m5
            have O5H := Lib.hid o5
            have K5H := Lib.hid (KR.out.trans k5)
            clear m5 o5 k5 hc
            go_wp2_with fail
            go_roundw
            case rel => exact ⟨j + 1, M5, by omega, by go_num, M5H.out, O5H.out, K5H.out⟩
            case measure => simp [RowKit.intOf]; omega
        · obtain rfl : j = l1.length := by omega
          have hr4 := HR.out.keep kr (fun i h1 h2 f => by have := NP.out; rcases f.2 with rfl | rfl <;> omega)
          have BE := off.back (by omega) (by omega) (by omega) (by omega)
          have BW := Lib.hid bw
          have HR4 := Lib.hid hr4
          have G1 := Lib.hid (rget_at hr4 32 (by omega) (by omega))
          have S1 := sset mr 32 (cel Z 32) (by omega) (by omega)
          simp only [setS, if_pos] at S1
          have SH1 := Lib.hid S1
          have L1 := fun (W : World) (hh : RefH W w2.heap.size q rb rc rd re Z Z) => rload_at hh 256 256 (by omega) (by omega)
          rw [show (clamp 256 8192).toNat = 256 by decide] at L1
          generalize cel Z 32 = x at *
          have xl := loadL_len Z 256 256
          generalize loadL Z 256 256 = xs at *
          generalize setM M 32 x = M4 at *
          have LH := Lib.hid L1
          have BEH := Lib.hid BE
          clear hr4 BE S1 L1 kr off mr HR B3
          go_wp2_with fail
          refine G1.out.mono ?_
          rintro e w4 ⟨rfl, rfl⟩
          go_wp2_with fail
          refine SH1.out.mono ?_
          rintro e w5 ⟨rfl, m5, k5⟩
          have hr5 := HR4.out.keep k5 (fun i h1 h2 f => by have := NP.out; rcases f.2 with rfl | rfl <;> omega)
          have bw5 := Below.and BW.out k5 (fun i f => by have := NP.out; rcases f.2 with rfl | rfl <;> omega) (Nat.le_refl _)
          have m5' := SM.mem m5
          have LL := Lib.hid (LH.out _ hr5)
          have M5H := Lib.hid m5'
          have R5H := Lib.hid hr5
          have BW5 := Lib.hid bw5
          have XL := Lib.hid xl
          clear m5 m5' k5 hr5 bw5 G1 SH1 HR4 BW xl LH
          go_wp2_with fail
          refine LL.out.mono ?_
          rintro e w6 ⟨g, rfl, r6, k6⟩
          have m6 := M5H.out.keep k6 (fun h => h) (fun h => h) (fun h => h)
          have hr6 := R5H.out.keep k6 (fun _ _ _ h => h)
          have ne := row_ne m6 r6
          have C6 := mlay_at m6 256 (by omega) (by omega) (some ⟨g, 0, none⟩) xs xs.length r6.br (fun ad e _ => by cases e; exact ne) (by rw [XL.out]; omega) (Nat.le_refl _)
          rw [BEH.out] at C6
          have C6H := Lib.hid C6
          have R6H := Lib.hid hr6
          have BW6 := Lib.hid (Below.and BW5.out k6 (fun _ h => h.elim) (Nat.le_refl _))
          clear C6 hr6 m6 r6 k6 M5H R5H BW5 ne LL
          go_wp2_with fail
          refine C6H.out.mono ?_
          rintro e w7 ⟨rfl, m7, k7⟩
          have hr7 := R6H.out.keep k7 (fun i h1 h2 f => by have := NP.out; omega)
          have BW7 := Lib.hid (Below.and BW6.out k7 (fun i f => by have := NP.out; omega) (Nat.le_refl _))
          clear k7 R6H BW6 C6H
          go_wp2_with fail
          refine wp_region_held (S := fun W => RefH W w2.heap.size q rb rc rd re Z Z) (by kernel_rfl) ?_
          change wpAnyH _ _ _ _ _ _ _ _ (w7).drew
          have HS : (fun W => RefH W w2.heap.size q rb rc rd re Z Z) w7.drew := hr7.keep (Keeps.drew (fun _ => False) w7) (fun _ _ _ h => h)
          have hS := HS
          have m8 := m7.keep (Keeps.drew (fun _ => False) w7) (fun h => h) (fun h => h) (fun h => h)
          have BW8 := Lib.hid (Below.and BW7.out (Keeps.drew (fun _ => False) w7) (fun _ h => h.elim) (Nat.le_refl _))
          clear HS hr7 m7 BW7
          generalize (w7).drew = w8 at *
          refine wpAnyH_take (oi := ⟨_, _, _, _, _, _⟩) (i := 3) (v := .pointer (some ⟨q, 0, none⟩)) rfl (by kernel_rfl) (by kernel_rfl) (by kernel_rfl) (fun _ _ _ h => h) (Or.inl ⟨by rfl, fun _ _ => rfl⟩) hS ?_
          try simp only [Act.put, List.setIfInBounds_toArray, List.set_cons_zero, List.set_cons_succ]
          refine wpAnyH_take (oi := ⟨_, _, _, _, _, _⟩) (i := 4) (v := .pointer (some ⟨q, 0, none⟩)) rfl (by kernel_rfl) (by kernel_rfl) (by kernel_rfl) (fun _ _ _ h => h) (Or.inl ⟨by rfl, fun _ _ => by go_simp⟩) hS ?_
          try simp only [Act.put, List.setIfInBounds_toArray, List.set_cons_zero, List.set_cons_succ]
          refine wpAnyH_take (oi := ⟨_, _, _, _, _, _⟩) (i := 5) (v := .pointer (some ⟨q, 0, none⟩)) rfl (by kernel_rfl) (by kernel_rfl) (by kernel_rfl) (fun _ _ _ h => h) (Or.inl ⟨by rfl, fun _ _ => by go_simp⟩) hS ?_
          try simp only [Act.put, List.setIfInBounds_toArray, List.set_cons_zero, List.set_cons_succ]
          refine wpAnyH_take (oi := ⟨_, _, _, _, _, _⟩) (i := 6) (v := .slice (some ⟨rb, 0, none⟩) 8192 rc) rfl (by kernel_rfl) (by kernel_rfl) (by kernel_rfl) (fun _ _ _ h => h) (yif_load rfl 22 (.tmp 77) rfl _ _ rfl fun w h => load_one aggS h.cs.1) hS ?_
          try simp only [Act.put, List.setIfInBounds_toArray, List.set_cons_zero, List.set_cons_succ]
          refine wpAnyH_take (oi := ⟨_, _, _, _, _, _⟩) (i := 7) (v := .string ⟨Z.toArray⟩) rfl (by kernel_rfl) (by kernel_rfl) (by kernel_rfl) (fun _ _ _ h => h) (Or.inl ⟨by rfl, fun _ h => ex_convert 22 9 (.tmp 78) rfl _ _ rfl (conv_ref h)⟩) hS ?_
          try simp only [Act.put, List.setIfInBounds_toArray, List.set_cons_zero, List.set_cons_succ]
          refine wpAnyH_take (oi := ⟨_, _, _, _, _, _⟩) (i := 0) (v := .pointer (some ⟨p, 0, none⟩)) rfl (by kernel_rfl) (by kernel_rfl) (by kernel_rfl) (fun _ _ _ h => h) (Or.inl ⟨by rfl, fun _ _ => rfl⟩) hS ?_
          try simp only [Act.put, List.setIfInBounds_toArray, List.set_cons_zero, List.set_cons_succ]
          refine wpAnyH_all (rs := [1]) (by kernel_rfl) (by simp) fun i hI9 => ?_
          obtain rfl : i = 1 := by simpa using hI9
          refine op_call (om := ⟨_, _, _, _, _, _⟩) (fn := 18) (args := #[.pointer (some ⟨p, 0, none⟩)]) (R := fun u w' => ∃ g, u = .slice (some ⟨g, 0, none⟩) 8192 8192 ∧ Row8 w' g 5 Z ∧ MemAt w' p gb mb Z Z ∧ Keeps (· = mb) w8 w') rfl rfl (by go_simp)
            ((mbytes_at m8).mono fun e w' ⟨g, he, h1, h2, h3, h4⟩ => ⟨_, he, g, by rw [m8.ml], h2, h3, h4⟩) _ _ rfl rfl ?_
          rintro u w9 ⟨g9, rfl, r9, m9, k9⟩
          have hS := RefH.keep hS k9 (fun i h1 h2 h3 => by have := NP.out; omega)
          have BW9 := Lib.hid (Below.and BW8.out k9 (fun i hi => by have := NP.out; omega) (Nat.le_refl _))
          clear hI9
          refine ⟨hS, ?_⟩
          try simp only [Act.put, List.setIfInBounds_toArray, List.set_cons_zero, List.set_cons_succ]
          refine wpAnyH_all (rs := [2]) (by kernel_rfl) (by simp) fun i hI9 => ?_
          obtain rfl : i = 2 := by simpa using hI9
          refine op_run (om := ⟨_, _, _, _, _, _⟩) (u := .string ⟨Z.toArray⟩) (w' := w9) rfl rfl (ex_convert 22 9 (.tmp 73) rfl _ _ rfl (conv_row 8192 m8.ml r9)) _ _ rfl rfl ?_
          rintro u w10 ⟨rfl, rfl⟩
          refine ⟨hS, ?_⟩
          clear hI9
          try simp only [Act.put, List.setIfInBounds_toArray, List.set_cons_zero, List.set_cons_succ]
          refine wpAnyH_take (oi := ⟨_, _, _, _, _, _⟩) (i := 8) (v := .bool true) rfl (by kernel_rfl) (by kernel_rfl) (by kernel_rfl) (fun _ _ _ h => h) (Or.inl ⟨by rfl, fun _ _ => by go_simp⟩) hS ?_
          try simp only [Act.put, List.setIfInBounds_toArray, List.set_cons_zero, List.set_cons_succ]
          refine wpAnyH_take (oi := ⟨_, _, _, _, _, _⟩) (i := 9) (v := .bool true) rfl (by kernel_rfl) (by kernel_rfl) (by kernel_rfl) (fun _ _ _ h => h) (Or.inl ⟨by rfl, fun _ _ => rfl⟩) hS ?_
          try simp only [Act.put, List.setIfInBounds_toArray, List.set_cons_zero, List.set_cons_succ]
          refine wpAnyH_done (by kernel_rfl) ?_ _
          try simp only [Act.put, List.setIfInBounds_toArray, List.set_cons_zero, List.set_cons_succ]
          clear hS m8 m9 r9 k9
          go_wp2_with fail
          go_ret
          exact ⟨rfl, BW9.out⟩

set_option maxRecDepth 100000 in
theorem lifted (os : Os) (started : os.Started) (H : Type) (enc : TypeId × Value → H) :
    ReturnsInHanded {} Try.checked os 6 .any (Rows.stackApartSpec.pre6 enc Try.prog Try.f6 Rows.stackApartRow.domain false) (Rows.stackApartSpec.post enc Try.prog Try.f6 false true false false) := by
  refine returnsInHanded_of_change_sized (C := Try.checked) own started (by kernel_rfl) Try.func6
    (ChangeSpec.witness6 (enc := enc) (C := Try.checked) false ⟨#[], #[.slice none 0 0, .slice none 0 0, .bool false], []⟩ 8 (by kernel_rfl) (by kernel_rfl) (by kernel_rfl) (by kernel_rfl)) ?_
  intro W base args ds gs before hval0 hW _ hsz0 _
  have hsz : (DataW.weightsEach Try.prog (Try.f6.params.toList ++ Rows.stackApartSpec.plain.varTypes Try.prog) (ds ++ gs)).all (· ≤ reachBytes) = true := hsz0
  clear hsz0
  have hval : ∀ (j : Nat) t v, Try.f6.params[j]? = some t → args[j]? = some v → Value.okWide Try.prog W .any base t v := hval0
  have hW' := hW
  obtain ⟨p, q, hA0, hV, rfl, _, _⟩ := hW
  have hA : DataW.TrodAll enc Try.prog W 0 (fun _ => true) true Try.f6.params.toList args.toList ds p := hA0
  rw [Try.params6] at hA hval hsz
  obtain ⟨v0, vs0, d0, ds0, p0, q0, hargs, rfl, rfl, h0, r0⟩ := trodAll_cons hA
  obtain ⟨v1, vs1, d1, ds1, p1, q1, rfl, rfl, rfl, h1, r1⟩ := trodAll_cons r0
  obtain ⟨v2, vs2, d2, ds2, p2, q2, rfl, rfl, rfl, h2, r2⟩ := trodAll_cons r1
  obtain ⟨rfl, rfl, rfl⟩ := trodAll_nil r2
  obtain rfl : args = #[v0, v1, v2] := by cases args; simp_all
  obtain ⟨rfl, rfl⟩ := trodVars_none hV
  obtain ⟨A0, len0, c0, rfl⟩ := okWide_slice Try.underlying22 (hval 0 22 v0 rfl rfl)
  have k0 := h0
  have lt0 : ∀ x ∈ p0, x.block < W.heap.size := by obtain ⟨m, hm⟩ := k0; exact DataW.trod_lt m _ _ _ hm
  have q0 := bytes_cap h0
  obtain ⟨x0, rfl, b0, s0⟩ := bytes_in h0
  have l0 := s0 _ _ 0 hsz rfl rfl
  obtain ⟨A1, len1, c1, rfl⟩ := okWide_slice Try.underlying25 (hval 1 25 v1 rfl rfl)
  have k1 := h1
  have lt1 : ∀ x ∈ p1, x.block < W.heap.size := by obtain ⟨m, hm⟩ := k1; exact DataW.trod_lt m _ _ _ hm
  obtain ⟨l1, rfl, o1, r1, s1⟩ := nums_in h1
  have m1 := And.intro r1 (s1 _ _ 1 hsz rfl rfl)
  obtain ⟨a2, rfl, rfl, rfl⟩ := open_bool Try.underlying4 (hval 2 4 v2 rfl rfl) h2
  clear hA0 hval0
  refine (walk A0 x0 c0 A1 l1 c1 a2 W b0 l0 q0 o1 m1 ).mono fun e W' ⟨he, bel⟩ => ?_
  subst he
  exact ⟨_, rfl, _, _, _, [], _, [], hW', trodAll_mk1 (shut_bool Try.underlying4 _), (trodAll_cons_mk (Below.trod laidOut (by kernel_rfl) (of_decide_eq_true (by kernel_rfl)) k0 bel lt0) (trodAll_cons_mk (Below.trod laidOut (by kernel_rfl) (of_decide_eq_true (by kernel_rfl)) k1 bel lt1) (trodAll_cons_mk (shut_bool Try.underlying4 _) trodAll_mk0))), rfl, bel.frame _, fun h => by cases h⟩

theorem proved : Rows.StackApartSaid :=
  OpenClaim.holds_of_wide 6 Try.f6 rfl rfl rfl rfl rfl rfl rfl ⟨rfl, rfl, rfl, rfl, rfl⟩ rfl rfl rfl rfl rfl (by kernel_rfl) Try.func6 (by kernel_rfl)
    (of_decide_eq_true (by kernel_rfl)) (by unfold Func.isWrapper; first | (rw [if_pos (by decide +kernel)]; kernel_rfl) | (rw [if_neg (by decide +kernel)]; exact ⟨rfl, rfl⟩))
    (fun os started H enc _ => lifted os started H enc)
#print axioms proved
end Go.Proofs.Ytmaoaeebggpbbaa.stackApart
