/-
  WalkHandleReads
-/
import Derived.Test.YtceemmnfofjgeaaGreatDoorGA
import Derived.WalkKit
import Derived.ProofKit
import Derived.OpenShut
import Derived.Deep.DeepHandedRow
import Derived.Lib.LaidTab
import Derived.ChangeOld
import Derived.Below
import Derived.Deep.QuietTactic
import Derived.BigQuiet
import Derived.WalkSmall
import Derived.Test.YtceemmnfofjgeaaGreatDoorHdRow
namespace Go.Proofs.YtceemmnfofjgeaaGreatDoor.handleReads
open Go.ChangeShapes Go.WideShapes Go.ChangeAt Go.RowKit Ex Fs Ino Mm Hd
set_option linter.unusedVariables false

set_option maxRecDepth 100000 in
set_option maxHeartbeats 8000000 in
theorem walk (A0 : Option Addr) (l0 : List Pt) (c0 : Nat) (A1 : Option Addr) (l1 : List Int) (c1 : Nat) (w : World) (o0 : PtsOk w A0 l0) (m0 : ptSum l0 ≤ 1048576) (o1 : ZR w w.heap.size A1 l1) (m1 : ∀ z ∈ l1, -9223372036854775808 ≤ z ∧ z ≤ 9223372036854775807) (hT : Tab w) :
    Calls Tryz.prog 6 #[.slice A0 l0.length c0, .slice A1 l1.length c1] w fun e w' => e = .returned (.bool true) ∧ Below w.heap.size w w' := by
  have hT0 := hT.pos
  have HAW := Lib.hid (hawake_any w hT)
  have HT := Lib.hid hT
  have O0 := Lib.hid o0
  have O1 := Lib.hid o1
  have HM1 := Lib.hid m1
  clear hT o0 o1 m1
  have hsl := fun m => ptSum_le l0 m
  have hpl := ptAll_len l0
  go_enter Tryz.func6, Tryz.ntmps6
  go_wp2_with fail
  refine HAW.out.mono ?_
  rintro e w1 ⟨rfl, b1⟩
  have B1 := Lib.hid b1
  clear b1 HAW
  go_wp2_with fail
  go_loopg [5, 7, 27] l0.length (fun g n _ k wr => SumRel w1 l0 g n k wr)
  case atStart => exact ⟨0, by omega, by omega, by simp [ptSum], rfl, rfl⟩
  case round =>
    obtain ⟨m, rfl, hm, rfl, rfl, rfl⟩ := hrel
    have hs1 := hsl m
    by_cases hlt : m < l0.length
    · obtain ⟨ad, rfl, had, hc0⟩ := O0.out.ar.at_ hlt
      have hc1 := (B1.out.cell (p := ad.add m) (by rw [block_add]; exact had)).trans hc0
      have hnx := (take_next l0 hlt).1
      have hs2 := hsl (m + 1)
      have HR : Hid (SumRel wr l0 (l0.length - (m + 1)) (.int .i64 (ptSum (l0.take (m + 1)) : Int)) (.int .i64 ((m : Int) + 1)) wr) := ⟨m + 1, rfl, by omega, rfl, by rw [Int.natCast_add]; rfl, rfl⟩
      have d0 : decide ((m : Int) < (l0.length : Int)) = true := by simp; omega
      have d0' : decide (m < l0.length) = true := by simp; omega
      have p0 : (0 : Int) ≤ m := by omega
      have p1 : (m : Int) < l0.length := by omega
      have q1 : IntKind.i64.wrap ((l0[m].xs.length : Int) + 1) = (l0[m].xs.length : Int) + 1 := by rw [IntKind.wrap_i64]; omega
      have q2 : IntKind.i64.wrap ((ptSum (l0.take m) : Int) + ((l0[m].xs.length : Int) + 1)) = (ptSum (l0.take (m + 1)) : Int) := by rw [IntKind.wrap_i64]; omega
      have q3 : IntKind.i64.wrap ((m : Int) + 1) = (m : Int) + 1 := by rw [IntKind.wrap_i64]; omega
      clear hc0 hnx hs1 hs2
      generalize l0[m].xs.length = z at *
      generalize ptSum (l0.take (m + 1)) = s2 at *
      generalize ptSum (l0.take m) = s1 at *
      go_wp2_with fail
      go_roundg (l0.length - (m + 1))
      case rel => exact HR.out
      case measure => omega
    · obtain rfl : m = l0.length := by omega
      rw [List.take_length] at *
      obtain ⟨wF, rfl⟩ : ∃ x, x = wr := ⟨_, rfl⟩
      have hB1 := B1
      clear hsl
      by_cases hbig : 1472 < ptSum l0
      · have t1 : decide ((1472 : Int) < (ptSum l0 : Int)) = true := by simp; omega
        go_wp2_with fail
        go_ret
        exact ⟨rfl, B1.out⟩
      have t1 : decide ((1472 : Int) < (ptSum l0 : Int)) = false := by simp; omega
      by_cases hmany : 100 < l1.length
      · have t2 : decide ((100 : Int) < (l1.length : Int)) = true := by simp; omega
        go_wp2_with fail
        go_ret
        exact ⟨rfl, B1.out⟩
      have t2 : decide ((100 : Int) < (l1.length : Int)) = false := by simp; omega
      have hT1 := HT.out.below B1.out hT0
      go_wp2_with fail
      refine (mflat_any none [] 0 wF BR.nil).mono ?_
      rintro e w2 ⟨p, gb, mb, rfl, p1, p2, p3, hm, k2⟩
      have zl := fillL_len []
      have hcl := clean_fmt
      generalize fillL [] = Z at *
      have hwr0 := B1.out.size
      have hT2 := hT1.keep (k2.block 0 (by omega) (fun f => f))
      have K2 := Lib.hid k2
      have KT : Hid (∀ W, Keeps (fun k => k = p ∨ k = mb) w2 W → Below wF.heap.size wF W ∧ Tab W) := fun W k => by
        have := Keeps.thru (F'' := fun _ => False) K2.out k (fun _ _ h => h) fun i hi h => by omega
        exact ⟨this.toBelow _ (Nat.le_refl _) fun _ h => h.elim, hT2.keep (k.block 0 hT2.pos (fun e => by omega))⟩
      have HFM := Lib.hid (format_any (layC_flat hm fmtB (by rw [fmtB_len]; omega)))
      have HCL := Lib.hid hcl
      clear k2 hT2 hcl hT1
      go_wp2_with fail
      refine HFM.out.mono ?_
      rintro e w3 ⟨rfl, h3, k3⟩
      have k3' : Keeps (fun k => k = p ∨ k = mb) w2 w3 := k3
      have hrl : (regB Z).length = 2048 := by unfold regB; rw [List.length_drop]; omega
      obtain ⟨M4, B4, -, q2, q3, q4, q5, hc4⟩ := create_new h3 (KT.out _ k3').2 (by omega) (by omega) 102 (.inr rfl) hrl (Has.fmt zl) HCL.out
      have H4 := Lib.hid hc4
      have Q := Lib.hid (And.intro q2 (And.intro q3 (And.intro q4 q5)))
      have K3 := Lib.hid k3'
      clear h3 k3 k3' HFM hc4 q2 q3 q4 q5 hm HCL
      go_wp2_with fail
      refine H4.out.mono ?_
      rintro e w4 ⟨rfl, h4, k4⟩
      obtain ⟨q2, q3, q4, q5⟩ := Q.out
      obtain ⟨M5, s5, hc5⟩ := open_two h4 102 (.inr rfl) q2 q3 q4 q5
      have H5 := Lib.hid hc5
      have S5 := Lib.hid s5
      have K4 := Lib.hid (K3.out.trans k4)
      clear h4 k4 K3 H4 hc5 s5 q2 q3 q4 q5 Q
      go_wp2_with fail
      refine H5.out.mono ?_
      rintro e w5 ⟨rfl, h5, k5⟩
      have HW5 : Hid (WrRel w2 p gb mb Z l0 l0.length (St []) (.int .i64 0) w5) := ⟨0, M5, by omega, by omega, rfl, rfl, h5, S5.out, K4.out.trans k5⟩
      clear h5 k5 K4 H5 S5
      have hpw : wF.heap.size ≤ p := p1
      go_wp2_with fail
      have hlall : (ptAll l0).length ≤ 1472 := by omega
      have hn0 : l0.length ≤ 1472 := by omega
      have hz100 : l1.length ≤ 100 := by omega
      clear hm hs1 hlt hB1 hbig t1 hmany t2 hpl m0 zl
      go_loopg [13, 15, 67] l0.length (fun g al _ k wq => WrRel w2 p gb mb Z l0 g al k wq)
      case atStart => exact HW5.out
      case round =>
        obtain ⟨m, M, rfl, hm, rfl, rfl, hM, hS, hK⟩ := hrel
        have hKT := KT.out wr hK
        have hbw : Below w.heap.size w wr := B1.out.trans (hKT.1.mono hwr0)
        clear HW5
        by_cases hlt : m < l0.length
        · obtain ⟨ad, rfl, had, hc0⟩ := O0.out.ar.at_ hlt
          have hc1 := (hbw.cell (p := ad.add m) (by rw [block_add]; exact had)).trans hc0
          have hok := O0.out.ok _ (List.getElem_mem hlt)
          have hbr0 := hok.1.below hbw
          have hbr : BR wr wr.heap.size l0[m].A l0[m].xs := hbr0.more hbw.size
          have hne : l0[m].xs ≠ [] → ∀ a, l0[m].A = some a → a.block ≠ mb ∧ a.block ≠ p := fun h a e => by
            obtain ⟨a', e', hl, _⟩ := hbr0 h
            rw [e] at e'
            cases e'
            omega
          have hnx := (take_next l0 hlt).2
          have hle := ptAll_le l0 (m + 1)
          have hln : (ptAll (l0.take m)).length + l0[m].xs.length ≤ 1472 := by
            have h1 := ptAll_append (l0.take (m + 1)) (l0.drop (m + 1))
            rw [List.take_append_drop, hnx] at h1
            have := congrArg List.length h1
            simp only [List.length_append] at this
            omega
          have hwc := hwrite_any hM hS.ok hKT.2 (by omega) (by omega) 1 (by omega) (by omega) hS.o1 l0[m].c hbr (by omega) hne
          obtain ⟨v6, s6⟩ := hS.write l0[m].xs hln
          rw [v6] at hwc
          rw [← hnx] at s6
          generalize wrM M 1 (hN M 1) (hL M 1) l0[m].xs.length (wrV M 1 l0[m].xs) = M6 at *
          have HWC := Lib.hid hwc
          have HR : Hid (∀ W, MemAt W p gb mb Z M6 → Keeps (fun k => k = p ∨ k = mb) wr W → WrRel w2 p gb mb Z l0 (l0.length - (m + 1)) (St (ptAll (l0.take m) ++ l0[m].xs)) (.int .i64 ((m : Int) + 1)) W) := fun W h1 h2 =>
            ⟨m + 1, M6, rfl, by omega, by rw [hnx], by rw [Int.natCast_add]; rfl, h1, s6, hK.trans h2⟩
          have HBK : Hid (∀ W, Keeps (fun k => k = p ∨ k = mb) wr W → (convert 31 9 (.slice l0[m].A l0[m].xs.length l0[m].c)).run Tryz.prog W = .ok (.string ⟨l0[m].xs.toArray⟩) W) := fun W k =>
            run_str (P := Tryz.prog) W _ 31 9 5 l0[m].A l0[m].xs l0[m].c (br_keep hbr k fun h a e f => by have := hne h a e; omega) Tryz.underlying31 Tryz.underlying5 Tryz.underlying9
          have hadd : ∀ W, (Op.stringOp .add ⟨(ptAll (l0.take m)).toArray⟩ ⟨l0[m].xs.toArray⟩).run Tryz.prog W = .ok (.string ⟨(ptAll (l0.take m) ++ l0[m].xs).toArray⟩) W := fun W => run_string_add_lists (P := Tryz.prog) W _ _ (by omega) (by omega)
          have d0 : decide ((m : Int) < (l0.length : Int)) = true := by simp; omega
          have d0' : decide (m < l0.length) = true := by simp; omega
          have p0 : (0 : Int) ≤ m := by omega
          have pl1 : (m : Int) < l0.length := by omega
          have q3 : IntKind.i64.wrap ((m : Int) + 1) = (m : Int) + 1 := by rw [IntKind.wrap_i64]; omega
          clear hc0 hok hbr0 hbr hne hnx hle hln hwc v6 s6 hM hS hK hKT hbw
          generalize l0[m].xs = X at *
          generalize l0[m].A = AX at *
          generalize l0[m].c = CX at *
          generalize ptAll (l0.take m) = AL at *
          go_wp2_with fail
          refine HWC.out.mono ?_
          rintro e w6 ⟨rfl, h6, k6⟩
          have hcv := HBK.out w6 k6
          have HRR := Lib.hid (HR.out w6 h6 k6)
          clear h6 k6 HR HBK HWC
          go_wp2_with fail
          go_roundg (l0.length - (m + 1))
          case rel => exact HRR.out
          case measure => omega
        · obtain rfl : m = l0.length := by omega
          rw [List.take_length] at *
          obtain ⟨wW, rfl⟩ : ∃ x, x = wr := ⟨_, rfl⟩
          have hzr := (O1.out.below hbw)
          obtain ⟨R7, c7, w7, hap, own7, b7⟩ := sizes_run wW A1 l1 c1 (fun h => by
            obtain ⟨ad, e, hlt2, hc⟩ := hzr h
            exact ⟨ad, e, Nat.lt_of_lt_of_le hlt2 hbw.size, hc⟩) hz100
          obtain ⟨g8, c8, w8, hap2, g81, g82, hrow, b8⟩ := last_run w7 wW.heap.size R7 c7 l1 own7 b7.size hz100
          have b78 := b7.trans b8
          have kN : Keeps (fun _ => False) wW w8 := keeps_below' b78
          have hM8 := hM.keep kN (fun f => f) (fun f => f) (fun f => f)
          have hlt8 := hM.lt
          have K8 := Lib.hid (hK.trans (kN.mono fun _ _ f => f.elim))
          have HR8 : Hid (RdRel w8 p gb mb Z (ptAll l0) l1.length (l1.length + 1) (St []) (.int .i64 0) w8) := ⟨0, M, 0, by omega, by omega, by omega, fun h => by omega, rfl, rfl, hM8, hS, Keeps.refl _ _⟩
          have ROW := Lib.hid hrow
          have HAP := Lib.hid hap
          have HAP2 := Lib.hid hap2
          have NG : Hid (g8 ≠ p ∧ g8 ≠ mb ∧ g8 < w8.heap.size) := ⟨by omega, by omega, g82⟩
          clear hzr own7 b7 b8 b78 kN hM8 hM hK hS hrow hap hap2 g81 g82 hlt8 hlt hm hKT hbw HT O0 O1
          generalize ptAll l0 = AL at *
          go_wp2_with (first
            | ((with_reducible refine here (op := .call { callee := .builtin .append, args := #[.const (.slice none 0 0), .tmp 81], argTypes := #[49, 49] }) ?_); refine wpList_append_run rfl _ _ 49 rfl _ HAP.out ?_)
            | ((with_reducible refine here (op := .call { callee := .builtin .append, args := #[.tmp 82, .tmp 83], argTypes := #[49, 49] }) ?_); refine wpList_append_run rfl _ _ 49 rfl _ HAP2.out ?_)
            | fail)
          go_loopg [16, 18, 19, 20, 86] (l1.length + 1) (fun g got _ _ _ k wq => RdRel w8 p gb mb Z AL l1.length g got k wq)
          case atStart => exact HR8.out
          case round =>
            obtain ⟨m, M, q, rfl, hm, hq, hend, rfl, rfl, hM, hS, hK⟩ := hrel
            clear HR8 HAP HAP2
            by_cases hlt : m < l1.length + 1
            · obtain ⟨z, hz⟩ : ∃ z, (l1 ++ [1472])[m]? = some z := ⟨(l1 ++ [1472])[m]'(by simp; omega), List.getElem?_eq_getElem _⟩
              have hc1 := (hK.cell g8 m NG.out.2.2 (by have := NG.out; omega)).trans (ROW.out m z hz)
              have hzr : -9223372036854775808 ≤ z ∧ z ≤ 9223372036854775807 := by
                rcases List.mem_append.1 (List.mem_of_getElem? hz) with h | h
                · exact HM1.out z h
                · simp at h; omega
              have hlast : m = l1.length → z = 1472 := fun e => by
                rw [e, List.getElem?_append_right (Nat.le_refl _), Nat.sub_self] at hz
                simpa using hz.symm
              have d0 : decide ((m : Int) < ((l1.length + 1 : Nat) : Int)) = true := by simp only [decide_eq_true_eq]; omega
              have d0' : decide ((m : Int) < (l1.length : Int) + 1) = true := by simp only [decide_eq_true_eq]; omega
              have d0'' : decide (m < l1.length + 1) = true := by simp only [decide_eq_true_eq]; omega
              have p0 : (0 : Int) ≤ m := by omega
              have pl1 : (m : Int) < (l1.length : Int) + 1 := by omega
              have q3 : IntKind.i64.wrap ((m : Int) + 1) = (m : Int) + 1 := by rw [IntKind.wrap_i64]; omega
              by_cases hneg : z < 0
              · have n1 : decide (z < 0) = true := by simp only [decide_eq_true_eq]; omega
                have HRR : Hid (RdRel w8 p gb mb Z AL l1.length (l1.length + 1 - (m + 1)) (St (AL.take q)) (.int .i64 ((m : Int) + 1)) wr) :=
                  ⟨m + 1, M, q, rfl, by omega, hq, fun h => by have := hlast (by omega); omega, rfl, by rw [Int.natCast_add]; rfl, hM, hS, hK⟩
                clear hM hS hK hz hlast hend hneg
                go_wp2_with fail
                go_roundg (l1.length + 1 - (m + 1))
                case rel => exact HRR.out
                case measure => omega
              · have n1 : decide (z < 0) = false := by simp only [decide_eq_false_iff_not]; omega
                have hrc := hread_any hM hS.ok 2 (by omega) (by omega) hS.o2 z hzr
                obtain ⟨v7, x7, s7⟩ := hS.read (by omega) (by omega) z (by omega)
                rw [v7, x7] at hrc s7
                rw [show ((q : Nat) : Int).toNat = q by omega] at hrc s7
                have hxl : ((AL.drop q).take z.toNat).length ≤ z.toNat := by rw [List.length_take]; omega
                have hxq : q + ((AL.drop q).take z.toNat).length ≤ AL.length := by rw [List.length_take, List.length_drop]; omega
                have hfin : m = l1.length → q + ((AL.drop q).take z.toNat).length = AL.length := fun e => by rw [hlast e, List.length_take, List.length_drop]; omega
                have htm := take_more AL q z.toNat
                have htl : (AL.take q).length ≤ 1472 := by rw [List.length_take]; omega
                generalize rdM M 2 (hN M 2) (hL M 2) ((AL.drop q).take z.toNat).length 0 = M7 at *
                have HRC := Lib.hid hrc
                have HRR : Hid (∀ W, MemAt W p gb mb Z M7 → Keeps (fun k => k = p ∨ k = mb) wr W → RdRel w8 p gb mb Z AL l1.length (l1.length + 1 - (m + 1)) (St (AL.take q ++ (AL.drop q).take z.toNat)) (.int .i64 ((m : Int) + 1)) W) := fun W h1 h2 =>
                  ⟨m + 1, M7, q + ((AL.drop q).take z.toNat).length, rfl, by omega, hxq, fun h => hfin (by omega), by rw [htm], by rw [Int.natCast_add]; rfl, h1, by rw [Int.natCast_add]; exact s7, hK.trans h2⟩
                have n2 : decide (z < (((AL.drop q).take z.toNat).length : Int)) = false := by simp only [decide_eq_false_iff_not]; omega
                have hadd : ∀ W, (Op.stringOp .add ⟨(AL.take q).toArray⟩ ⟨((AL.drop q).take z.toNat).toArray⟩).run Tryz.prog W = .ok (.string ⟨(AL.take q ++ (AL.drop q).take z.toNat).toArray⟩) W := fun W => run_string_add_lists (P := Tryz.prog) W _ _ (by omega) (by omega)
                clear hM hS hK hz hlast hend hneg hrc v7 x7 s7 hxl hxq hfin htm htl
                generalize (AL.drop q).take z.toNat = X at *
                generalize AL.take q = Y at *
                go_wp2_with fail
                refine HRC.out.mono ?_
                rintro e w9 ⟨⟨A9, c9, rfl, br9, -⟩, h9, k9⟩
                have HR9 := Lib.hid (HRR.out w9 h9 k9)
                have hcv := run_str (P := Tryz.prog) w9 _ 31 9 5 A9 X c9 br9 Tryz.underlying31 Tryz.underlying5 Tryz.underlying9
                clear h9 k9 br9 HRC HRR
                go_wp2_with fail
                go_roundg (l1.length + 1 - (m + 1))
                case rel => exact HR9.out
                case measure => omega
            · obtain rfl : m = l1.length + 1 := by omega
              obtain rfl := hend rfl
              rw [List.take_length] at *
              have d0 : decide (((l1.length + 1 : Nat) : Int) < ((l1.length + 1 : Nat) : Int)) = false := by simp
              have hsc := size_any hM hS.ok 2 (by omega) (by omega) hS.o2
              rw [hS.hS2] at hsc
              have HSC := Lib.hid hsc
              have hend2 : Hid (∀ W, Keeps (fun j => j = p ∨ j = mb) wr W → Below w.heap.size w W) := fun W k => by
                have h1 := (KT.out _ ((K8.out.trans hK).trans k)).1
                exact B1.out.trans (h1.mono hwr0)
              have hst := st_size AL
              have e1 : ((AL.length : Int) == (AL.length : Int)) = true := by simp
              clear hM hS hK hsc KT K8 K2 ROW
              go_wp2_with fail
              refine HSC.out.mono ?_
              rintro e w9 ⟨rfl, h9, k9⟩
              have HG := Lib.hid (hend2.out w9 k9)
              clear h9 k9 HSC hend2
              go_wp2_with fail
              go_ret
              exact ⟨rfl, HG.out⟩

end Go.Proofs.YtceemmnfofjgeaaGreatDoor.handleReads
