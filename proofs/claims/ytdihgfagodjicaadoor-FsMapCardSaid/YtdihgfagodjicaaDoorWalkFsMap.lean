/-
  WalkFsMap
-/
import Derived.Test.YtdihgfagodjicaaDoorGA
import Derived.WalkKit
import Derived.ProofKit
import Derived.OpenShut
import Derived.Deep.DeepHandedRow
import Derived.Lib.LaidTab
import Derived.ChangeOld
import Derived.Below
import Derived.Deep.QuietTactic
import Derived.BigQuiet
import Derived.WalkSmall
import Derived.Test.YtdihgfagodjicaaDoorGFm
import Derived.Test.YtdihgfagodjicaaDoorGFi
namespace Go.Proofs.YtdihgfagodjicaaDoor.fsMap
open Go.ChangeShapes Go.WideShapes Go.ChangeAt Go.RowKit Ex Fs Ino Mm
set_option linter.unusedVariables false

theorem FActR.more {w : World} {B B' : Nat} {A : Option Addr} {l : List FAct} (h : FActR w B A l) (hB : B ≤ B') : FActR w B' A l := fun hn => by
  obtain ⟨ad, e, hlt, hc⟩ := h hn
  exact ⟨ad, e, Nat.lt_of_lt_of_le hlt hB, hc⟩
theorem filesV_ns0 (B : List UInt8) : filesV ⟨B, ns0⟩ = [] := by
  have h : idxL ns0 = [] := by decide
  unfold filesV
  rw [show (⟨B, ns0⟩ : RG).ns = ns0 from rfl, h]
  rfl
theorem wpList_build0_run {P : Program} {w w' : World} {ops : Array Oper} {rest : List Oper} {o : Oper} {a : Act} {Q : Exit → Act → World → Prop} (hgd : o.guard = none) (t : TypeId) (x : Operand) (ho : o.op = .build t #[(0, x)]) (u v : Value) (hx : a.eval x = u)
    (hrun : (Instr.build t #[(0, u)]).run P w = .ok v w') (h : wpList P ops Q rest (a.put o.dst v) w') : wpList P ops Q (o :: rest) a w :=
  wpList_plain hgd fun _ hK => by
    unfold Oper.wp execOp
    simp only [ho, Sem.run_bind, List.map_toArray, List.map_cons, List.map_nil, hx, hrun, Result.andThen_ok, Sem.run_pure]
    exact hK _ _ h
theorem aggS8 (w : World) : (isAgg 22).run Tryd.prog w = .ok false w := by unfold isAgg; rw [Sem.run_bind, run_underlying Tryd.underlying22 w]; rfl
theorem neqS_same {w : World} {o : Oper} {ρ : Operand → Value} (x y : Operand) (ho : o.op = .binOp .neq 9 x y 9) (xs : List UInt8) (hx : ρ x = St xs) (hy : ρ y = St xs) : (execOp ρ o).run Tryd.prog w = .ok (.value (.bool false)) w := by
  have := Fs.ex_neqS (w := w) x y ho xs xs hx hy
  simpa using this
theorem conv_br {W : World} {A : Option Addr} {xs : List UInt8} {c : Nat} (h : BR W W.heap.size A xs) : (convert 22 9 (.slice A xs.length c)).run Tryd.prog W = .ok (.string ⟨xs.toArray⟩) W :=
  run_str (P := Tryd.prog) W _ 22 9 5 _ xs c h Tryd.underlying22 Tryd.underlying5 Tryd.underlying9
theorem buildF0 (xs : List UInt8) (w : World) : (Instr.build 45 #[(0, St xs)]).run Tryd.prog w = .ok (.agg #[St xs, .slice none 0 0]) w := by kernel_rfl

set_option maxRecDepth 100000 in
set_option maxHeartbeats 16000000 in
theorem walk (A0 : Option Addr) (l0 : List FAct) (c0 : Nat) (w : World) (o0 : FActsOk w A0 l0) (m0 : l0.length ≤ 1599289640401 ∧ ∀ a ∈ l0, a.xs.length ≤ 140737488351232) (hT : Tab w) :
    Calls Tryd.prog 4 #[.slice A0 l0.length c0] w fun e w' => e = .returned (.bool true) ∧ Below w.heap.size w w' := by
  obtain ⟨m1, m2⟩ := m0
  have O0 := Lib.hid o0
  have M2 := Lib.hid m2
  have HTB := Lib.hid hT
  clear o0 m2 hT
  go_enter Tryd.func4, Tryd.ntmps4
  go_wp2_with fail
  refine (fawake_any _ HTB.out).mono ?_
  rintro e u1 ⟨rfl, b1⟩
  go_wp2_with fail
  refine (ffew_any none 0 0 A0 l0 c0 u1 (FActR.more (O0.out.ar.below b1) b1.size) m1).mono ?_
  rintro e u2 ⟨⟨bb, rfl⟩, bf⟩
  have b2 := b1.trans (bf.mono b1.size)
  clear b1 bf
  cases bb
  · go_wp2_with fail
    go_ret
    exact ⟨rfl, b2⟩
  go_wp2_with fail
  refine (mflat_any none [] 0 u2 BR.nil).mono ?_
  rintro e u3 ⟨p, gb, mb, rfl, p1, p2, p3, hm, k3⟩
  have zl : (fillL []).length = 8192 := fillL_len []
  generalize fillL [] = Z at *
  have hlo := b2.size
  have B3 := Lib.hid (b2.trans ((below_none k3).mono b2.size))
  have HFM := Lib.hid (format_any (layC_flat hm fmtB (by rw [fmtB_len]; omega)))
  have LT3 := Lib.hid hm.lt
  clear hm k3 b2
  go_wp2_with fail
  refine HFM.out.mono ?_
  rintro e u4 ⟨rfl, h4, k4⟩
  have hg := Has.fmt zl
  have hfz : filesV (regM (layL Z 6144 fmtB)) = [] := by
    rw [show regM (layL Z 6144 fmtB) = _ from hg.eq]
    exact filesV_ns0 _
  obtain ⟨B, hB⟩ : ∃ B, B = u4.heap.size := ⟨_, rfl⟩
  have PB := Lib.hid (show ∀ i, i = p ∨ i = mb → w.heap.size ≤ i ∧ i < B ∧ i ≠ 0 from fun i hi => by have := LT3.out; have := HTB.out.pos; have := k4.size; omega)
  have GB := Lib.hid (show gb < B from by have := LT3.out; have := k4.size; omega)
  have B4 := Lib.hid (B3.out.trans (k4.toBelow w.heap.size B3.out.size (fun i hi => (PB.out i hi).1)))
  have HMS : Hid (MapS u4 u4 p gb mb B Z [] (layL Z 6144 fmtB) none 0) := ⟨FL.nil _ _, h4, ⟨hg.ml, hg.ok⟩, by unfold MP; rw [hfz]; exact List.Perm.refl _, Keeps.refl _ _, (PB.out p (.inl rfl)).2.1, GB.out, (PB.out mb (.inr rfl)).2.1⟩
  have TB : Hid (∀ W, Keeps (fun j => j = p ∨ j = mb ∨ B ≤ j) u4 W → Tab W ∧ Below w.heap.size w W) := fun W k => by
    have hb : Below w.heap.size w W := B4.out.trans (k.toBelow w.heap.size B4.out.size (fun i hi => by
      rcases hi with h | h | h
      · exact (PB.out i (.inl h)).1
      · exact (PB.out i (.inr h)).1
      · have := B4.out.size; omega))
    exact ⟨HTB.out.keep (hb.block 0 HTB.out.pos), hb⟩
  have HB := Lib.hid hB
  clear h4 k4 hg hfz hB HFM p1 p2 p3 hlo zl
  generalize layL Z 6144 fmtB = M4 at *
  go_wp2_with fail
  go_loopw [35, 4] (fun i fv wr => ∃ (k : Nat) (fl : List FV) (M : List UInt8) (Gf : Option Addr) (cp : Nat), k ≤ l0.length ∧ i = .int .i64 (k : Int) ∧ fv = .slice Gf fl.length cp ∧ MapS u4 wr p gb mb B Z fl M Gf cp) (fun i _ _ => l0.length - (RowKit.intOf i).toNat)
  case atStart => exact ⟨0, [], M4, none, 0, by omega, rfl, rfl, HMS.out⟩
  case round =>
    clear HMS
    obtain ⟨k, fl, M, Gf, cp, hk, rfl, rfl, hms⟩ := hrel
    by_cases hlt : k < l0.length
    · obtain ⟨ad, rfl, hlb, d0, d1, d2, d3, d4, d5, d6⟩ := (O0.out.ar.below (TB.out _ hms.kp).2).at_ hlt
      have hmem : l0[k] ∈ l0 := List.getElem_mem hlt
      have ok := O0.out.ok _ hmem
      have ML := Lib.hid (M2.out _ hmem)
      clear hmem
      generalize l0[k] = a at *
      have kA : Keeps (fun _ => False) wr (wr.alloc (.cells (facells a).toArray 41)) := Keeps.alloc _ _ _
      have HA := Lib.hid (hms.new kA)
      have EA := Lib.hid (heap_alloc_new wr (.cells (facells a).toArray 41))
      have LA := Lib.hid (show w.heap.size ≤ wr.heap.size ∧ B ≤ wr.heap.size from ⟨(TB.out _ hms.kp).2.size, by have := hms.kp.size; have := HB.out; omega⟩)
      have NM := Lib.hid (show a.s1.length ≤ 9223372036854775807 from ok.s1_w)
      have BRA := Lib.hid (show True ∧ ∀ W, Keeps (fun j => j = p ∨ j = mb ∨ B ≤ j) u4 W → BR W W.heap.size a.A a.xs from ⟨trivial, fun W kW => ((ok.br.below (TB.out _ kW).2)).more (TB.out _ kW).2.size⟩)
      have l8 : fl.length ≤ 8 := hms.len
      have HFN := Lib.hid (find_list HA.out.ls (by omega) a.s1)
      clear kA hms O0 M2
      go_wp2_with fail
      refine HFN.out.mono ?_
      rintro e w5 ⟨r, rfl, hfr, hw⟩
      have HA5 : Hid (MapS u4 w5 p gb mb B Z fl M Gf cp) := by rw [hw]; exact HA
      have EA5 : Hid (w5.heap[wr.heap.size]? = some (.cells (facells a).toArray 41 (0, 0))) := by rw [hw]; exact EA
      have HBA : Hid (a.xs ≠ [] → ∀ ad, a.A = some ad → ad.block ≠ mb) := fun hne ad e => by
        obtain ⟨ad', e', hl', _⟩ := ok.br hne
        rw [e] at e'; cases e'
        have := (PB.out mb (.inr rfl)).1
        omega
      clear HFN hw HA EA d0 d1 d2 d3 d4 d5 d6 ok
      generalize wr.heap.size = bx at *
      have CX : Hid (∀ W : World, W.heap[bx]? = w5.heap[bx]? → W.cell? ⟨bx, 0, none⟩ = some (.int .i64 a.do_) ∧ W.cell? ⟨bx, 1, none⟩ = some (St a.s1) ∧ W.cell? ⟨bx, 6, none⟩ = some (.slice a.A a.xs.length a.c)) := fun W h => by
        have r := h.trans EA5.out
        refine ⟨?_, ?_, ?_⟩ <;> rw [cell_of_row _ _ _ _ _ _ r] <;> rfl
      obtain ⟨x0, x1, x6⟩ := CX.out w5 rfl
      generalize hdv : a.do_ = dv at *
      clear hdv
      by_cases hd0 : dv = 0
      · subst hd0
        clear BRA HBA ML TB
        by_cases hnm : nameB a.s1 = true
        rotate_left
        · have hnm' : nameB a.s1 = false := by simpa using hnm
          have hrn := rname_any a.s1 w5 NM.out
          rw [hnm'] at hrn
          have HRN := Lib.hid hrn
          have HCR := Lib.hid (fcreate_bad' HA5.out a.s1 NM.out 121 (by decide) (create_bad1 a.s1 _ hnm'))
          clear hnm hnm' hrn hfr
          go_wp2_with fail
          refine HRN.out.mono ?_
          rintro e w6 ⟨rfl, rfl⟩
          go_wp2_with fail
          refine HCR.out.mono ?_
          rintro e w7 ⟨n, rfl, h7⟩
          have H7 := Lib.hid h7
          clear h7 HCR HRN HA5 EA5 CX x0 x1 x6
          go_wp2_with fail
          go_roundw
          case rel => exact ⟨k + 1, fl, M, Gf, cp, by omega, by go_num, by first | trivial | rfl, H7.out⟩
          case measure => simp [RowKit.intOf]; omega
        · have hrn := rname_any a.s1 w5 NM.out
          rw [hnm] at hrn
          have HRN := Lib.hid hrn
          clear hrn
          rcases hfr with ⟨k2, hk2, rfl, hkn⟩ | ⟨rfl, hno⟩
          · have hfe : findE (regM M).ns a.s1 = 0 := by
              obtain ⟨_, _, _, h1, _, _⟩ := HA5.out.mp.find HA5.out.ok.good hk2
              rw [hkn] at h1
              exact h1
            have HCR := Lib.hid (fcreate_bad' HA5.out a.s1 NM.out 122 (by decide) (create_bad2 hfe))
            clear hnm hfe hkn
            go_wp2_with fail
            refine HRN.out.mono ?_
            rintro e w6 ⟨rfl, rfl⟩
            go_wp2_with fail
            refine HCR.out.mono ?_
            rintro e w7 ⟨n, rfl, h7⟩
            have H7 := Lib.hid h7
            clear h7 HCR HRN HA5 EA5 CX x0 x1 x6
            go_wp2_with fail
            go_roundw
            case rel => exact ⟨k + 1, fl, M, Gf, cp, by omega, by go_num, by first | trivial | rfl, H7.out⟩
            case measure => simp [RowKit.intOf]; omega
          · have hfn := HA5.out.mp.none hno
            by_cases h8 : fl.length = 8
            · have hd8 : ((fl.length : Int) == 8) = true := by simp; omega
              have hfr8 : freeI (regM M).ns = none := by
                cases hq : freeI (regM M).ns with
                | none => rfl
                | some i =>
                  have h1 := free_room hq
                  have h2 := HA5.out.mp.len
                  rw [filesV_len] at h2
                  omega
              have HCR := Lib.hid (fcreate_bad' HA5.out a.s1 NM.out 124 (by decide) (create_bad3 hnm hfn hfr8))
              have H8 := Lib.hid h8
              clear hnm hfn hno hfr8 h8
              go_wp2_with fail
              refine HRN.out.mono ?_
              rintro e w6 ⟨rfl, rfl⟩
              go_wp2_with fail
              refine HCR.out.mono ?_
              rintro e w7 ⟨n, rfl, h7⟩
              have H7 := Lib.hid h7
              clear h7 HCR HRN HA5 EA5 CX x0 x1 x6
              go_wp2_with fail
              go_roundw
              case rel => exact ⟨k + 1, fl, M, Gf, cp, by omega, by go_num, by first | trivial | rfl, H7.out⟩
              case measure => simp [RowKit.intOf]; omega
            · have hd8 : ((fl.length : Int) == 8) = false := by simp; omega
              have hl5 := HA5.out.new (Keeps.alloc (fun _ => False) w5 (.cells #[St a.s1, .slice none 0 0] 45))
              have bB : B ≤ w5.heap.size := by have := HA5.out.kp.size; have := HB.out; omega
              obtain ⟨G', cp', w6, hrun, hls, hkk, hG'⟩ := hl5.ls.app (by rw [World.size_alloc]; omega) (by omega) [⟨a.s1, none, [], 0⟩] (by simp) ⟨w5.heap.size, 0, none⟩ 1 30 (fun j u hu => by
                rw [show (⟨w5.heap.size, 0, none⟩ : Addr).add j = ⟨w5.heap.size, j, none⟩ from by unfold Addr.add; split <;> simp_all, cell_of_row _ _ _ _ _ _ (heap_alloc_new w5 _)]
                simpa [fvc] using hu) (fun d hd => by rw [List.mem_singleton] at hd; subst hd; exact BR.nil) (fun d hd hne => by rw [List.mem_singleton] at hd; subst hd; exact absurd rfl hne)
              obtain ⟨l1, l2, l3⟩ := hl5.list (hkk.mono fun j _ e => (hl5.ls.base e).1) hls
              have HX6 := Lib.hid (show w6.heap[bx]? = w5.heap[bx]? from by
                have hbx := (Array.getElem?_eq_some_iff.1 EA5.out).1
                rw [hkk.block bx (by rw [World.size_alloc]; omega) (fun e => by
                  obtain ⟨_, _, cs, hcs⟩ := hl5.ls.base e
                  rw [Below.heap_alloc _ _ _ hbx, EA5.out] at hcs
                  cases hcs)]
                exact Below.heap_alloc _ _ _ hbx)
              have HCR := Lib.hid (fcreate_new (d0 := ⟨a.s1, none, [], 0⟩) l1 l2 l3 HA5.out.lo HA5.out.ok HA5.out.mp NM.out hnm hfn h8)
              have LN := Lib.hid (show (fl ++ [(⟨a.s1, none, [], 0⟩ : FV)]).length = fl.length + 1 by simp)
              clear hnm hfn hno h8 hl5 hls hkk hG' l1 l2 l3 bB
              simp only [List.length_singleton] at hrun
              obtain ⟨y0, y1, y6⟩ := CX.out w6 HX6.out
              go_wp2_with fail
              refine HRN.out.mono ?_
              rintro e w5' ⟨rfl, rfl⟩
              clear HRN
              go_wp2_with (first
                | ((with_reducible refine here (op := .build 45 #[(0, .tmp 49)]) ?_); refine wpList_build0_run rfl 45 _ rfl _ _ rfl (buildF0 _ _) ?_)
                | ((with_reducible refine at_ (d := some 52) ?_); refine wpList_val rfl _ (ex_append2 (.tmp 47) (.tmp 51) 30 30 rfl _ hrun) ?_))
              refine HCR.out.mono ?_
              rintro e w7 ⟨n, M', rfl, h7⟩
              have H7 := Lib.hid h7
              clear h7 HCR HA5 EA5 CX x0 x1 x6 y0 y1 y6 HX6 hrun
              go_wp2_with fail
              go_roundw
              case rel => exact ⟨k + 1, fl ++ [⟨a.s1, none, [], 0⟩], M', G', cp', by omega, by go_num, by rw [LN.out], H7.out⟩
              case measure => simp [RowKit.intOf]; omega
      have e0 : (dv == 0) = false := by simpa using hd0
      clear hd0
      by_cases hd1 : dv = 1
      · subst hd1
        clear BRA HBA ML TB e0
        rcases hfr with ⟨k2, hk2, rfl, hkn⟩ | ⟨rfl, hno⟩
        · have hdl := fdelete_yes HA5.out hk2 (by rw [hkn]; exact NM.out)
          rw [hkn] at hdl
          have HDL := Lib.hid hdl
          have HLO := Lib.hid HA5.out.lo
          have HKP := Lib.hid HA5.out.kp
          obtain ⟨g, rfl, -⟩ := HA5.out.ls.cell hk2
          clear hkn hdl
          go_wp2_with fail
          refine HDL.out.mono ?_
          rintro e w6 ⟨M', rfl, f6, m6, o6, mp6, k6⟩
          have kd : Keeps (fun _ => False) w6 w6.drew := Keeps.drew _ _
          have f6' := f6.keep kd (fun _ _ f => f)
          have hBs : B ≤ w6.drew.heap.size := by have := HKP.out.size; have := HB.out; have := k6.size; show B ≤ w6.heap.size; omega
          obtain ⟨T, ct, s1, s2, G1, c1, w7, r1, k7, G2, c2, w8, r2, f8, k8⟩ := f6'.cut hBs l8 hk2 30 30
          have HS1 := Lib.hid s1
          have HS2 := Lib.hid s2
          have HR1 := Lib.hid r1
          have HR2 := Lib.hid r2
          have LN := Lib.hid (show (fl.eraseIdx k2).length = fl.length - 1 from List.length_eraseIdx_of_lt hk2)
          have H8 : Hid (MapS u4 w8 p gb mb B Z (fl.eraseIdx k2) M' G2 c2) := by
            have kk : Keeps (fun j => B ≤ j) w6 w8 := (kd.mono fun _ _ f => f.elim).trans (k8.mono fun j _ h => by omega)
            have lo := HLO.out
            exact ⟨f8, m6.keep kk (by omega) (by omega) (by omega), o6, mp6, (HKP.out.trans (k6.mono fun _ _ e => by rcases e with e | e; exact .inl e; exact .inr (.inl e))).trans (kk.mono fun _ _ e => .inr (.inr e)), lo⟩
          clear f6 m6 o6 mp6 k6 kd f6' hBs s1 s2 r1 r2 k7 f8 k8 HDL HA5 EA5 CX x0 x1 x6
          go_wp2_with fail
          refine wp_region_held (S := fun _ : World => True) (by kernel_rfl) ?_
          change wpAnyH _ _ _ _ _ _ _ _ w6.drew
          have hS : (fun _ : World => True) w6.drew := trivial
          refine wpAnyH_take (oi := ⟨_, _, _, _, _, _⟩) (i := 0) (v := .slice (some ⟨g, 0, none⟩) fl.length cp) rfl (by kernel_rfl) (by kernel_rfl) (by kernel_rfl) (fun _ _ _ h => h) (Or.inl ⟨by rfl, fun _ _ => rfl⟩) hS ?_
          try simp only [Act.put, List.setIfInBounds_toArray, List.set_cons_zero, List.set_cons_succ]
          refine wpAnyH_take (oi := ⟨_, _, _, _, _, _⟩) (i := 1) (v := .int .i64 (k2 : Int)) rfl (by kernel_rfl) (by kernel_rfl) (by kernel_rfl) (fun _ _ _ h => h) (Or.inl ⟨by rfl, fun _ _ => rfl⟩) hS ?_
          try simp only [Act.put, List.setIfInBounds_toArray, List.set_cons_zero, List.set_cons_succ]
          refine wpAnyH_take (oi := ⟨_, _, _, _, _, _⟩) (i := 2) (v := .slice (some ⟨g, 0, none⟩) k2 cp) rfl (by kernel_rfl) (by kernel_rfl) (by kernel_rfl) (fun _ _ _ h => h) (Or.inl ⟨by rfl, fun _ _ => ex_slA 30 (.tmp 88) (.tmp 89) rfl _ _ _ rfl rfl HS1.out _⟩) hS ?_
          try simp only [Act.put, List.setIfInBounds_toArray, List.set_cons_zero, List.set_cons_succ]
          refine wpAnyH_take (oi := ⟨_, _, _, _, _, _⟩) (i := 4) (v := .slice (some ⟨g, 0, none⟩) fl.length cp) rfl (by kernel_rfl) (by kernel_rfl) (by kernel_rfl) (fun _ _ _ h => h) (Or.inl ⟨by rfl, fun _ _ => rfl⟩) hS ?_
          try simp only [Act.put, List.setIfInBounds_toArray, List.set_cons_zero, List.set_cons_succ]
          refine wpAnyH_take (oi := ⟨_, _, _, _, _, _⟩) (i := 5) (v := .int .i64 (k2 : Int)) rfl (by kernel_rfl) (by kernel_rfl) (by kernel_rfl) (fun _ _ _ h => h) (Or.inl ⟨by rfl, fun _ _ => rfl⟩) hS ?_
          try simp only [Act.put, List.setIfInBounds_toArray, List.set_cons_zero, List.set_cons_succ]
          refine wpAnyH_take (oi := ⟨_, _, _, _, _, _⟩) (i := 6) (v := .int .i64 ((k2 : Int) + 1)) rfl (by kernel_rfl) (by kernel_rfl) (by kernel_rfl) (fun _ _ _ h => h) (Or.inl ⟨by rfl, fun _ _ => by go_simp; rw [IntKind.wrap_i64]; omega⟩) hS ?_
          try simp only [Act.put, List.setIfInBounds_toArray, List.set_cons_zero, List.set_cons_succ]
          refine wpAnyH_take (oi := ⟨_, _, _, _, _, _⟩) (i := 7) (v := .slice (some T) (fl.length - (k2 + 1)) ct) rfl (by kernel_rfl) (by kernel_rfl) (by kernel_rfl) (fun _ _ _ h => h) (Or.inl ⟨by rfl, fun _ _ => ex_slB 30 (.tmp 92) (.tmp 94) rfl _ _ _ rfl rfl HS2.out _⟩) hS ?_
          try simp only [Act.put, List.setIfInBounds_toArray, List.set_cons_zero, List.set_cons_succ]
          refine wpAnyH_all (rs := [3]) (by kernel_rfl) (by simp) fun i hi => ?_
          obtain rfl : i = 3 := by simpa using hi
          clear hi
          refine op_run (om := ⟨_, _, _, _, _, _⟩) (u := .slice G1 k2 c1) (w' := w7) rfl rfl (ex_appE (.const (.slice none 0 0)) (.tmp 90) 30 30 rfl (.slice none 0 0) (.slice (some ⟨g, 0, none⟩) k2 cp) (.slice G1 k2 c1) rfl rfl rfl HR1.out) _ _ rfl rfl ?_
          rintro u w7' ⟨rfl, rfl⟩
          refine ⟨hS, ?_⟩
          try simp only [Act.put, List.setIfInBounds_toArray, List.set_cons_zero, List.set_cons_succ]
          refine wpAnyH_all (rs := [8]) (by kernel_rfl) (by simp) fun i hi => ?_
          obtain rfl : i = 8 := by simpa using hi
          clear hi
          refine op_run (om := ⟨_, _, _, _, _, _⟩) (u := .slice G2 (fl.length - 1) c2) (w' := w8) rfl rfl (ex_appE (.tmp 91) (.tmp 95) 30 30 rfl (.slice G1 k2 c1) (.slice (some T) (fl.length - (k2 + 1)) ct) (.slice G2 (fl.length - 1) c2) rfl rfl rfl HR2.out) _ _ rfl rfl ?_
          rintro u w8' ⟨rfl, rfl⟩
          refine ⟨hS, ?_⟩
          try simp only [Act.put, List.setIfInBounds_toArray, List.set_cons_zero, List.set_cons_succ]
          refine wpAnyH_take (oi := ⟨_, _, _, _, _, _⟩) (i := 9) (v := .slice G2 (fl.length - 1) c2) rfl (by kernel_rfl) (by kernel_rfl) (by kernel_rfl) (fun _ _ _ h => h) (Or.inl ⟨by rfl, fun _ _ => rfl⟩) hS ?_
          try simp only [Act.put, List.setIfInBounds_toArray, List.set_cons_zero, List.set_cons_succ]
          refine wpAnyH_done (by kernel_rfl) ?_ _
          try simp only [Act.put, List.setIfInBounds_toArray, List.set_cons_zero, List.set_cons_succ]
          clear hS HS1 HS2 HR1 HR2
          go_wp2_with fail
          go_roundw
          case rel => exact ⟨k + 1, fl.eraseIdx k2, M', G2, c2, by omega, by go_num, by rw [LN.out], H8.out⟩
          case measure => simp [RowKit.intOf]; omega
        · have HDL := Lib.hid (fdelete_no HA5.out a.s1 NM.out hno)
          clear hno
          go_wp2_with fail
          refine HDL.out.mono ?_
          rintro e w6 ⟨E, rfl, hE, h6⟩
          have H6 := Lib.hid h6
          have hE' : (E == 0) = false := by simpa using hE
          clear h6 hE HDL HA5 EA5 CX x0 x1 x6
          go_wp2_with fail
          go_roundw
          case rel => exact ⟨k + 1, fl, M, Gf, cp, by omega, by go_num, by first | trivial | rfl, H6.out⟩
          case measure => simp [RowKit.intOf]; omega
      have e1 : (dv == 1) = false := by simpa using hd1
      clear hd1
      by_cases hd4 : dv = 4
      · subst hd4
        rcases hfr with ⟨k2, hk2, rfl, hkn⟩ | ⟨rfl, hno⟩
        rotate_left
        · have HFD := Lib.hid (ffind_no HA5.out a.s1 NM.out hno)
          clear hno BRA HBA ML TB e0 e1
          go_wp2_with fail
          refine HFD.out.mono ?_
          rintro e w6 ⟨n, E, rfl, hE, h6⟩
          have H6 := Lib.hid h6
          have hE' : (E == 0) = false := by simpa using hE
          clear h6 hE HFD HA5 EA5 CX x0 x1 x6
          go_wp2_with fail
          go_roundw
          case rel => exact ⟨k + 1, fl, M, Gf, cp, by omega, by go_num, by first | trivial | rfl, H6.out⟩
          case measure => simp [RowKit.intOf]; omega
        · have hfd := ffind_yes HA5.out hk2 (by rw [hkn]; exact NM.out)
          rw [hkn] at hfd
          have HFD := Lib.hid hfd
          clear hfd hkn e0 e1
          go_wp2_with fail
          refine HFD.out.mono ?_
          rintro e w6 ⟨i, rfl, hi, hfg, h6, k6⟩
          obtain ⟨g, rfl, -, hg, -, c2, -, -⟩ := h6.ls.cell hk2
          have hne : bx ≠ mb := by have := h6.lo; have := LA.out; omega
          have EA6 := (k6.block bx (Array.getElem?_eq_some_iff.1 EA5.out).1 hne).trans EA5.out
          obtain ⟨R1, d1, w7, R2, d2, w8, hwp⟩ := write_prep (c := a.c) h6 HB.out hk2 hi hfg (BRA.out.2 w6 h6.kp) ML.out (PB.out mb (.inr rfl)).2.2 (HBA.out) EA6
          obtain ⟨d0, hd0⟩ : ∃ d0, d0 = fl[k2] := ⟨_, rfl⟩
          rw [← hd0] at hwp c2
          have HW := Lib.hid hwp
          have HR1 := Lib.hid hwp.r1
          have HR2 := Lib.hid hwp.r2
          have LBX := Lib.hid (show bx < w6.drew.heap.size from (Array.getElem?_eq_some_iff.1 EA6).1)
          have X6 := Lib.hid (show w6.drew.cell? ⟨bx, 6, none⟩ = some (.slice a.A a.xs.length a.c) from ((CX.out w6 (EA6.trans EA5.out.symm)).2.2))
          have HLO := Lib.hid h6.lo
          clear hwp hi hfg h6 k6 hg hne EA6 hd0 HFD HA5 x0 x1 x6
          go_wp2_with fail
          refine wp_region_held (S := fun W : World => Keeps (fun _ => False) w6.drew W) (by kernel_rfl) ?_
          change wpAnyH _ _ _ _ _ _ _ _ w6.drew
          have hS : (fun W : World => Keeps (fun _ => False) w6.drew W) w6.drew := Keeps.refl _ _
          refine wpAnyH_take (oi := ⟨_, _, _, _, _, _⟩) (i := 0) (v := .slice d0.A d0.xs.length d0.c) rfl (by kernel_rfl) (by kernel_rfl) (by kernel_rfl) (fun _ _ _ h => h) (Or.inl ⟨by rfl, fun _ _ => rfl⟩) hS ?_
          try simp only [Act.put, List.setIfInBounds_toArray, List.set_cons_zero, List.set_cons_succ]
          refine wpAnyH_take (oi := ⟨_, _, _, _, _, _⟩) (i := 2) (v := .pointer (some ⟨bx, 6, none⟩)) rfl (by kernel_rfl) (by kernel_rfl) (by kernel_rfl) (fun _ _ _ h => h) (Or.inl ⟨by rfl, fun _ _ => by go_simp⟩) hS ?_
          try simp only [Act.put, List.setIfInBounds_toArray, List.set_cons_zero, List.set_cons_succ]
          refine wpAnyH_take (oi := ⟨_, _, _, _, _, _⟩) (i := 3) (v := .slice a.A a.xs.length a.c) rfl (by kernel_rfl) (by kernel_rfl) (by kernel_rfl) (fun _ _ _ h => h) (yif_load rfl 22 (.tmp 120) rfl _ _ rfl fun w h => load_one aggS8 (by rw [h.cell bx 6 LBX.out (fun f => f)]; exact X6.out)) hS ?_
          try simp only [Act.put, List.setIfInBounds_toArray, List.set_cons_zero, List.set_cons_succ]
          refine wpAnyH_all (rs := [1]) (by kernel_rfl) (by simp) fun i hi => ?_
          obtain rfl : i = 1 := by simpa using hi
          clear hi
          refine op_run (om := ⟨_, _, _, _, _, _⟩) (u := .slice R1 d0.xs.length d1) (w' := w7) rfl rfl (ex_appE (.const (.slice none 0 0)) (.tmp 118) 22 22 rfl (.slice none 0 0) (.slice d0.A d0.xs.length d0.c) (.slice R1 d0.xs.length d1) rfl rfl rfl HR1.out) _ _ rfl rfl ?_
          rintro u w7' ⟨rfl, rfl⟩
          have hS : (fun W : World => Keeps (fun _ => False) w6.drew W) w7' := HW.out.k7
          refine ⟨hS, ?_⟩
          try simp only [Act.put, List.setIfInBounds_toArray, List.set_cons_zero, List.set_cons_succ]
          refine wpAnyH_all (rs := [4]) (by kernel_rfl) (by simp) fun i hi => ?_
          obtain rfl : i = 4 := by simpa using hi
          clear hi
          refine op_run (om := ⟨_, _, _, _, _, _⟩) (u := .slice R2 (d0.xs.length + a.xs.length) d2) (w' := w8) rfl rfl (ex_appE (.tmp 119) (.tmp 121) 22 22 rfl (.slice R1 d0.xs.length d1) (.slice a.A a.xs.length a.c) (.slice R2 (d0.xs.length + a.xs.length) d2) rfl rfl rfl HR2.out) _ _ rfl rfl ?_
          rintro u w8' ⟨rfl, rfl⟩
          have hS : (fun W : World => Keeps (fun _ => False) w6.drew W) w8' := HW.out.k8
          refine ⟨hS, ?_⟩
          try simp only [Act.put, List.setIfInBounds_toArray, List.set_cons_zero, List.set_cons_succ]
          refine wpAnyH_take (oi := ⟨_, _, _, _, _, _⟩) (i := 5) (v := .slice R2 (d0.xs.length + a.xs.length) d2) rfl (by kernel_rfl) (by kernel_rfl) (by kernel_rfl) (fun _ _ _ h => h) (Or.inl ⟨by rfl, fun _ _ => rfl⟩) hS ?_
          try simp only [Act.put, List.setIfInBounds_toArray, List.set_cons_zero, List.set_cons_succ]
          refine wpAnyH_done (by kernel_rfl) ?_ _
          try simp only [Act.put, List.setIfInBounds_toArray, List.set_cons_zero, List.set_cons_succ]
          clear hS HR1 HR2 c2
          obtain ⟨c8, f8⟩ := HW.out.c8
          go_wp2_with fail
          refine HW.out.bs.mono ?_
          rintro e w10 ⟨rfl, b10⟩
          have K10 : Hid (Keeps (fun _ => False) (w8'.setCell ⟨g, k2 * 2 + 1, none⟩ (.slice R2 (d0.xs.length + a.xs.length) d2)) w10) := keeps_below' b10
          have KG : Hid (Keeps (fun j => j = g) w8' w10) := Keeps.trans (Keeps.setCell (fun j => j = g) w8' ⟨g, k2 * 2 + 1, none⟩ (.slice R2 (d0.xs.length + a.xs.length) d2) rfl) (K10.out.mono fun _ _ f => f.elim)
          have XG : Hid (∀ W, Keeps (fun j => j = g) w8' W → W.cell? ⟨bx, 6, none⟩ = some (.slice a.A a.xs.length a.c)) := fun W kW => (kW.cell bx 6 HW.out.bw.1 HW.out.bw.2.1).trans ((HW.out.k8.cell bx 6 LBX.out (fun f => f)).trans X6.out)
          clear b10 c8 f8 LBX X6
          by_cases hF : bsum (fl.set k2 ⟨d0.name, R2, d0.xs ++ a.xs, d2⟩) ≤ 23
          · have hd : decide (bsum (fl.set k2 ⟨d0.name, R2, d0.xs ++ a.xs, d2⟩) ≤ 23) = true := by simpa using hF
            have hmm := HW.out.mm w10 KG.out
            have hwe := HW.out.we w10 hmm.1 (TB.out _ hmm.2).1 (BRA.out.2 w10 hmm.2)
            simp only [if_pos hF] at hwe
            have HWE := Lib.hid hwe
            have x6 := XG.out w10 KG.out
            have HF := Lib.hid hF
            clear hwe hmm hF XG
            go_wp2_with fail
            refine HWE.out.mono ?_
            rintro en w11 ⟨M', rfl, m11, o11, k11, q1, -⟩
            have lo := HLO.out
            have H11 : Hid (MapS u4 w11 p gb mb B Z (fl.set k2 ⟨d0.name, R2, d0.xs ++ a.xs, d2⟩) M' (some ⟨g, 0, none⟩) cp) := by
              have l10 := HW.out.st.keep K10.out (fun _ _ f => f)
              exact ⟨l10.keep k11 (fun j h1 h2 => by omega), m11, o11, q1 HF.out, (HW.out.mm w10 KG.out).2.trans (k11.mono fun _ _ e => by rcases e with e | e; exact .inl e; exact .inr (.inl e)), lo⟩
            clear m11 o11 k11 q1 lo x6 HWE
            go_wp2_with fail
            go_roundw
            case rel => exact ⟨k + 1, fl.set k2 ⟨d0.name, R2, d0.xs ++ a.xs, d2⟩, M', some ⟨g, 0, none⟩, cp, by omega, by go_num, by rw [List.length_set], H11.out⟩
            case measure => simp [RowKit.intOf]; omega
          · have hd : decide (bsum (fl.set k2 ⟨d0.name, R2, d0.xs ++ a.xs, d2⟩) ≤ 23) = false := by simpa using hF
            obtain ⟨f1, ⟨vv, hvv⟩, hfz⟩ := HW.out.st2 w10 K10.out
            have KH : Hid (Keeps (fun j => j = g) w8' (w10.setCell ⟨g, k2 * 2 + 1, none⟩ (.slice d0.A d0.xs.length d0.c))) := KG.out.trans (Keeps.setCell (fun j => j = g) _ _ _ rfl)
            have hmm := HW.out.mm _ KH.out
            have hwe := HW.out.we _ hmm.1 (TB.out _ hmm.2).1 (BRA.out.2 _ hmm.2)
            simp only [if_neg hF] at hwe
            have HWE := Lib.hid hwe
            have x6 := XG.out _ KH.out
            have HF := Lib.hid hF
            have F1 := Lib.hid f1
            clear hwe hmm hF XG f1
            go_wp2_with fail
            refine HWE.out.mono ?_
            rintro en w11 ⟨M', rfl, m11, o11, k11, -, q2⟩
            have lo := HLO.out
            have H11 : Hid (MapS u4 w11 p gb mb B Z fl M' (some ⟨g, 0, none⟩) cp) :=
              ⟨F1.out.keep k11 (fun j h1 h2 => by omega), m11, o11, q2 HF.out, (HW.out.mm _ KH.out).2.trans (k11.mono fun _ _ e => by rcases e with e | e; exact .inl e; exact .inr (.inl e)), lo⟩
            clear m11 o11 k11 q2 lo x6 hvv hfz HWE
            go_wp2_with fail
            go_roundw
            case rel => exact ⟨k + 1, fl, M', some ⟨g, 0, none⟩, cp, by omega, by go_num, by first | trivial | rfl, H11.out⟩
            case measure => simp [RowKit.intOf]; omega
      have e4 : (dv == 4) = false := by simpa using hd4
      have H5 := Lib.hid HA5.out
      clear hd4 hfr BRA HBA ML TB HA5 EA5 CX x1 x6
      go_wp2_with fail
      go_roundw
      case rel => exact ⟨k + 1, fl, M, Gf, cp, by omega, by go_num, by first | trivial | rfl, H5.out⟩
      case measure => simp [RowKit.intOf]; omega
    · have hms2 := hms
      have hfi := ffiles_ok hms.mem hms.ok
      unfold FilesOk at hfi
      rw [← hms.mp.len] at hfi
      have HFI := Lib.hid hfi
      have HMS := Lib.hid hms
      have l8 := hms.len
      clear hms hms2 hfi O0 M2
      go_wp2_with fail
      refine HFI.out.mono ?_
      rintro e w7 ⟨g2, cp2, rfl, -, fa2, k7⟩
      have FA := Lib.hid fa2
      have LS := Lib.hid (HMS.out.ls.keep k7 (fun j h1 h2 => by have := HMS.out.lo; omega))
      have BW := Lib.hid (TB.out w7 (HMS.out.kp.trans (k7.mono fun _ _ e => .inr (.inl e)))).2
      have SF := Lib.hid (fun (k : Nat) (hk : k < fl.length) (k3 : Nat) (h3 : k3 < fl.length) (hn : fl[k3].name = ((filesV (regM M)).getD k ([], [])).1) => HMS.out.mp.same HMS.out.ok.good (j := k) (by rw [← HMS.out.mp.len]; exact hk) h3 hn)
      have SB := Lib.hid (fun (k : Nat) (hk : k < fl.length) => HMS.out.mp.back (j := k) (by rw [← HMS.out.mp.len]; exact hk))
      have ML2 := Lib.hid HMS.out.mp.len
      clear fa2 k7 HFI HMS TB
      have hnn : ((fl.length : Int) != (fl.length : Int)) = false := by simp
      go_wp2_with fail
      go_loopw [174] (fun i wx => ∃ k : Nat, k ≤ fl.length ∧ i = .int .i64 (k : Int) ∧ Keeps (fun _ => False) w7 wx) (fun i _ => fl.length - (RowKit.intOf i).toNat)
      case atStart => exact ⟨0, by omega, rfl, Keeps.refl _ _⟩
      case round =>
        obtain ⟨k3', hk3, rfl, kx⟩ := hrel
        by_cases hlt3 : k3' < fl.length
        · obtain ⟨gd, cd, f1, f2, f3, -⟩ := (FA.out.keep kx (fun _ _ f => f)).cs k3' (by rw [← ML2.out]; exact hlt3)
          obtain ⟨kb, hkb, hbk⟩ := SB.out k3' hlt3
          have hsf := SF.out k3' hlt3
          obtain ⟨⟨nm, xe⟩, hpr⟩ : ∃ pr, pr = (filesV (regM M)).getD k3' ([], []) := ⟨_, rfl⟩
          rw [← hpr] at f1 f2 f3 hbk hsf
          simp only at f1 f2 f3 hsf
          have kA : Keeps (fun _ => False) wr (wr.alloc (.cells #[St nm, .slice (some ⟨gd, 0, none⟩) xe.length cd] 45)) := Keeps.alloc _ _ _
          have HFN := Lib.hid (find_list (LS.out.keep (kx.trans kA) (fun _ _ f => f)) (by omega) nm)
          have SFH := Lib.hid hsf
          have HBK := Lib.hid hbk
          have F3 := Lib.hid f3
          have KX := Lib.hid (kx.trans kA)
          have EA := Lib.hid (heap_alloc_new wr (.cells #[St nm, .slice (some ⟨gd, 0, none⟩) xe.length cd] 45))
          clear hbk hsf hpr f3 kA SF SB
          go_wp2_with fail
          refine HFN.out.mono ?_
          rintro e w8 ⟨r, rfl, hfr, hw⟩
          have K8 : Hid (Keeps (fun _ => False) w7 w8) := by rw [hw]; exact KX
          have E8 : Hid (w8.heap[wr.heap.size]? = some (.cells #[St nm, .slice (some ⟨gd, 0, none⟩) xe.length cd] 45 (0, 0))) := by rw [hw]; exact EA
          have F8 : Hid (BR w8 w8.heap.size (some ⟨gd, 0, none⟩) xe) := by
            rw [hw]
            exact (Keeps.alloc (fun _ => False) wr _).br F3.out (fun _ _ _ f => f)
          clear hw HFN KX EA F3 kx f1 f2
          rcases hfr with ⟨k3, hkk, rfl, hkn⟩ | ⟨-, hno⟩
          rotate_left
          · exact absurd (congrArg Prod.fst HBK.out) (hno _ (List.getElem_mem hkb))
          have hxe := SFH.out k3 hkk hkn
          obtain ⟨g3, rfl, -, -, -, c2, -, -⟩ := (LS.out.keep K8.out (fun _ _ f => f)).cell hkk
          have hb := (LS.out.keep K8.out (fun _ _ f => f)).br fl[k3] (List.getElem_mem hkk)
          rw [hxe] at c2 hb
          obtain ⟨Ae, hAe⟩ : ∃ Ae, Ae = fl[k3].A := ⟨_, rfl⟩
          obtain ⟨ce, hce⟩ : ∃ ce, ce = fl[k3].c := ⟨_, rfl⟩
          rw [← hAe] at c2 hb
          rw [← hce] at c2
          have e2 : w8.drew.cell? ⟨g3, k3 * 2 + 1, none⟩ = some (.slice Ae xe.length ce) := c2
          have e3 : BR w8.drew w8.drew.heap.size Ae xe := hb
          have f2 : w8.drew.cell? ⟨wr.heap.size, 1, none⟩ = some (.slice (some ⟨gd, 0, none⟩) xe.length cd) := by
            show w8.cell? _ = _
            rw [cell_of_row _ _ _ _ _ _ E8.out]
            rfl
          have f3 : BR w8.drew w8.drew.heap.size (some ⟨gd, 0, none⟩) xe := F8.out
          have lcap : k3 < fl.length := hkk
          obtain ⟨bx, hbx⟩ : ∃ bx, bx = wr.heap.size := ⟨_, rfl⟩
          have KD := Lib.hid (K8.out.trans (Keeps.drew (fun _ => False) w8))
          clear hxe hkn hkb HBK SFH c2 hb hAe hce E8 F8 K8
          go_wp2_with fail
          rw [← hbx] at f2 ⊢
          refine wp_region_held (S := fun W : World => W = w8.drew) (by kernel_rfl) ?_
          change wpAnyH _ _ _ _ _ _ _ _ w8.drew
          have hS : (fun W : World => W = w8.drew) w8.drew := rfl
          refine wpAnyH_take (oi := ⟨_, _, _, _, _, _⟩) (i := 0) (v := .int .i64 (k3 : Int)) rfl (by kernel_rfl) (by kernel_rfl) (by kernel_rfl) (fun _ _ _ h => h) (Or.inl ⟨by rfl, fun _ _ => rfl⟩) hS ?_
          try simp only [Act.put, List.setIfInBounds_toArray, List.set_cons_zero, List.set_cons_succ]
          refine wpAnyH_take (oi := ⟨_, _, _, _, _, _⟩) (i := 1) (v := .bool false) rfl (by kernel_rfl) (by kernel_rfl) (by kernel_rfl) (fun _ _ _ h => h) (Or.inl ⟨by rfl, fun _ _ => by go_simp⟩) hS ?_
          try simp only [Act.put, List.setIfInBounds_toArray, List.set_cons_zero, List.set_cons_succ]
          refine wpAnyH_take (oi := ⟨_, _, _, _, _, _⟩) (i := 2) (v := .bool false) rfl (by kernel_rfl) (by kernel_rfl) (by kernel_rfl) (fun _ _ _ h => h) (Or.inl ⟨by rfl, fun _ _ => rfl⟩) hS ?_
          try simp only [Act.put, List.setIfInBounds_toArray, List.set_cons_zero, List.set_cons_succ]
          refine wpAnyH_take (oi := ⟨_, _, _, _, _, _⟩) (i := 3) (v := .slice (some ⟨g3, 0, none⟩) fl.length cp) rfl (by kernel_rfl) (by kernel_rfl) (by kernel_rfl) (fun _ _ _ h => h) (Or.inl ⟨by rfl, fun _ _ => rfl⟩) hS ?_
          try simp only [Act.put, List.setIfInBounds_toArray, List.set_cons_zero, List.set_cons_succ]
          refine wpAnyH_take (oi := ⟨_, _, _, _, _, _⟩) (i := 4) (v := .int .i64 (k3 : Int)) rfl (by kernel_rfl) (by kernel_rfl) (by kernel_rfl) (fun _ _ _ h => h) (Or.inl ⟨by rfl, fun _ _ => rfl⟩) hS ?_
          try simp only [Act.put, List.setIfInBounds_toArray, List.set_cons_zero, List.set_cons_succ]
          refine wpAnyH_take (oi := ⟨_, _, _, _, _, _⟩) (i := 5) (v := .pointer (some ⟨g3, k3 * 2, none⟩)) rfl (by kernel_rfl) (by kernel_rfl) (by kernel_rfl) (fun _ _ _ h => h) (Or.inl ⟨by rfl, fun _ _ => by go_simp⟩) hS ?_
          try simp only [Act.put, List.setIfInBounds_toArray, List.set_cons_zero, List.set_cons_succ]
          refine wpAnyH_take (oi := ⟨_, _, _, _, _, _⟩) (i := 6) (v := .pointer (some ⟨g3, k3 * 2 + 1, none⟩)) rfl (by kernel_rfl) (by kernel_rfl) (by kernel_rfl) (fun _ _ _ h => h) (Or.inl ⟨by rfl, fun _ _ => by go_simp⟩) hS ?_
          try simp only [Act.put, List.setIfInBounds_toArray, List.set_cons_zero, List.set_cons_succ]
          refine wpAnyH_take (oi := ⟨_, _, _, _, _, _⟩) (i := 7) (v := .slice Ae xe.length ce) rfl (by kernel_rfl) (by kernel_rfl) (by kernel_rfl) (fun _ _ _ h => h) (yif_load rfl 22 (.tmp 188) rfl _ _ rfl fun w h => load_one aggS8 (by rw [h]; exact e2)) hS ?_
          try simp only [Act.put, List.setIfInBounds_toArray, List.set_cons_zero, List.set_cons_succ]
          refine wpAnyH_take (oi := ⟨_, _, _, _, _, _⟩) (i := 8) (v := .string ⟨xe.toArray⟩) rfl (by kernel_rfl) (by kernel_rfl) (by kernel_rfl) (fun _ _ _ h => h) (Or.inl ⟨by rfl, fun W h => ex_convert 22 9 (.tmp 189) rfl _ _ rfl (conv_br (by rw [h]; exact e3))⟩) hS ?_
          try simp only [Act.put, List.setIfInBounds_toArray, List.set_cons_zero, List.set_cons_succ]
          refine wpAnyH_take (oi := ⟨_, _, _, _, _, _⟩) (i := 9) (v := .pointer (some ⟨bx, 1, none⟩)) rfl (by kernel_rfl) (by kernel_rfl) (by kernel_rfl) (fun _ _ _ h => h) (Or.inl ⟨by rfl, fun _ _ => by go_simp⟩) hS ?_
          try simp only [Act.put, List.setIfInBounds_toArray, List.set_cons_zero, List.set_cons_succ]
          refine wpAnyH_take (oi := ⟨_, _, _, _, _, _⟩) (i := 10) (v := .slice (some ⟨gd, 0, none⟩) xe.length cd) rfl (by kernel_rfl) (by kernel_rfl) (by kernel_rfl) (fun _ _ _ h => h) (yif_load rfl 22 (.tmp 191) rfl _ _ rfl fun w h => load_one aggS8 (by rw [h]; exact f2)) hS ?_
          try simp only [Act.put, List.setIfInBounds_toArray, List.set_cons_zero, List.set_cons_succ]
          refine wpAnyH_take (oi := ⟨_, _, _, _, _, _⟩) (i := 11) (v := .string ⟨xe.toArray⟩) rfl (by kernel_rfl) (by kernel_rfl) (by kernel_rfl) (fun _ _ _ h => h) (Or.inl ⟨by rfl, fun W h => ex_convert 22 9 (.tmp 192) rfl _ _ rfl (conv_br (by rw [h]; exact f3))⟩) hS ?_
          try simp only [Act.put, List.setIfInBounds_toArray, List.set_cons_zero, List.set_cons_succ]
          refine wpAnyH_take (oi := ⟨_, _, _, _, _, _⟩) (i := 12) (v := .bool false) rfl (by kernel_rfl) (by kernel_rfl) (by kernel_rfl) (fun _ _ _ h => h) (Or.inl ⟨by rfl, fun _ _ => neqS_same (.tmp 190) (.tmp 193) rfl xe rfl rfl⟩) hS ?_
          try simp only [Act.put, List.setIfInBounds_toArray, List.set_cons_zero, List.set_cons_succ]
          refine wpAnyH_take (oi := ⟨_, _, _, _, _, _⟩) (i := 13) (v := .bool false) rfl (by kernel_rfl) (by kernel_rfl) (by kernel_rfl) (fun _ _ _ h => h) (Or.inl ⟨by rfl, fun _ _ => by go_simp⟩) hS ?_
          try simp only [Act.put, List.setIfInBounds_toArray, List.set_cons_zero, List.set_cons_succ]
          refine wpAnyH_done (by kernel_rfl) ?_ _
          try simp only [Act.put, List.setIfInBounds_toArray, List.set_cons_zero, List.set_cons_succ]
          clear hS e2 e3 f2 f3 hbx
          go_wp2_with fail
          go_roundw
          case rel => exact ⟨k3' + 1, by omega, by go_num, KD.out⟩
          case measure => simp [RowKit.intOf]; omega
        · obtain rfl : k3' = fl.length := by omega
          have BF := Lib.hid (BW.out.trans ((below_none kx).mono BW.out.size))
          clear kx
          go_wp2_with fail
          go_ret
          exact ⟨rfl, BF.out⟩

end Go.Proofs.YtdihgfagodjicaaDoor.fsMap
