/-
  WalkFsApart
-/
import Derived.Test.YtdihgfagodjicaaDoorGA
import Derived.WalkKit
import Derived.ProofKit
import Derived.OpenShut
import Derived.Deep.DeepHandedRow
import Derived.Lib.LaidTab
import Derived.ChangeOld
import Derived.Below
import Derived.Deep.QuietTactic
import Derived.BigQuiet
import Derived.WalkSmall
import Derived.Test.YtdihgfagodjicaaDoorGFk
import Derived.Test.YtdihgfagodjicaaDoorGFi
import Derived.Test.YtdihgfagodjicaaDoorGSnG
namespace Go.Proofs.YtdihgfagodjicaaDoor.fsApart
open Go.ChangeShapes Go.WideShapes Go.ChangeAt Go.RowKit Ex Fs Ino Mm
set_option linter.unusedVariables false

theorem wpList_build6_run {P : Program} {w w' : World} {ops : Array Oper} {rest : List Oper} {o : Oper} {a : Act} {Q : Exit → Act → World → Prop} (hgd : o.guard = none) (t : TypeId) (x : Operand) (ho : o.op = .build t #[(6, x)]) (u v : Value) (hx : a.eval x = u)
    (hrun : (Instr.build t #[(6, u)]).run P w = .ok v w') (h : wpList P ops Q rest (a.put o.dst v) w') : wpList P ops Q (o :: rest) a w :=
  wpList_plain hgd fun _ hK => by
    unfold Oper.wp execOp
    simp only [ho, Sem.run_bind, List.map_toArray, List.map_cons, List.map_nil, hx, hrun, Result.andThen_ok, Sem.run_pure]
    exact hK _ _ h
theorem build6 (A : Option Addr) (n c : Nat) (w : World) : (Instr.build 41 #[(6, .slice A n c)]).run Tryd.prog w = .ok (.agg #[.int .i64 0, .string ⟨#[]⟩, .string ⟨#[]⟩, .int .i64 0, .int .i64 0, .int .i64 0, .slice A n c]) w := by kernel_rfl
theorem neqS_same {w : World} {o : Oper} {ρ : Operand → Value} (x y : Operand) (ho : o.op = .binOp .neq 9 x y 9) (xs : List UInt8) (hx : ρ x = St xs) (hy : ρ y = St xs) : (execOp ρ o).run Tryd.prog w = .ok (.value (.bool false)) w := by
  have := Fs.ex_neqS (w := w) x y ho xs xs hx hy
  simpa using this
theorem neqS_diff {w : World} {o : Oper} {ρ : Operand → Value} (x y : Operand) (ho : o.op = .binOp .neq 9 x y 9) (xs ys : List UInt8) (hn : xs ≠ ys) (hx : ρ x = St xs) (hy : ρ y = St ys) : (execOp ρ o).run Tryd.prog w = .ok (.value (.bool true)) w := by
  have := Fs.ex_neqS (w := w) x y ho xs ys hx hy
  simpa [hn] using this
theorem aggS8 (w : World) : (isAgg 22).run Tryd.prog w = .ok false w := by unfold isAgg; rw [Sem.run_bind, run_underlying Tryd.underlying22 w]; rfl
theorem conv_br {W : World} {A : Option Addr} {xs : List UInt8} {c : Nat} (h : BR W W.heap.size A xs) : (convert 22 9 (.slice A xs.length c)).run Tryd.prog W = .ok (.string ⟨xs.toArray⟩) W :=
  run_str (P := Tryd.prog) W _ 22 9 5 _ xs c h Tryd.underlying22 Tryd.underlying5 Tryd.underlying9

set_option maxRecDepth 100000 in
set_option maxHeartbeats 1000000 in
theorem walk (A0 : Option Addr) (x0 : List UInt8) (c0 : Nat) (a1 : Int) (a2 : Int) (A3 : Option Addr) (x3 : List UInt8) (c3 : Nat) (a4 : Int) (w : World) (b0 : BR w w.heap.size A0 x0) (l0 : x0.length ≤ 140737488351232) (q0 : x0.length ≤ c0) (w1 : (Lit.int .i64 a1).wf = true) (w2 : (Lit.int .i64 a2).wf = true) (b3 : BR w w.heap.size A3 x3) (l3 : x3.length ≤ 140737488351232) (q3 : x3.length ≤ c3) (w4 : (Lit.int .i64 a4).wf = true) (hT : Tab w) :
    Calls Tryd.prog 6 #[.slice A0 x0.length c0, .int .i64 a1, .int .i64 a2, .slice A3 x3.length c3, .int .i64 a4] w fun e w' => e = .returned (.bool true) ∧ Below w.heap.size w w' := by
  have r1 := i64_of_wf w1
  have r2 := i64_of_wf w2
  have r4 := i64_of_wf w4
  have HTB := Lib.hid hT
  have bx : ∀ W, Below w.heap.size w W → BR W W.heap.size A0 x0 ∧ BR W W.heap.size A3 x3 := fun W hb => ⟨(b0.below hb).more hb.size, (b3.below hb).more hb.size⟩
  have BX := Lib.hid bx
  clear bx b0 hT
  go_enter Tryd.func6, Tryd.ntmps6
  go_wp2_with fail
  refine (fawake_any _ HTB.out).mono ?_
  rintro e u1 ⟨rfl, b1⟩
  have B1 := Lib.hid b1
  clear b1
  go_wp2_with (first
    | ((with_reducible refine here (op := .build 41 #[(6, .tmp 24)]) ?_); refine wpList_build6_run rfl 41 _ rfl _ _ rfl (build6 _ _ _ _) ?_))
  have hA : FActR (u1.alloc (.cells #[.int .i64 0, .string ⟨#[]⟩, .string ⟨#[]⟩, .int .i64 0, .int .i64 0, .int .i64 0, .slice A3 x3.length c3] 41)) (u1.alloc (.cells #[.int .i64 0, .string ⟨#[]⟩, .string ⟨#[]⟩, .int .i64 0, .int .i64 0, .int .i64 0, .slice A3 x3.length c3] 41)).heap.size (some ⟨u1.heap.size, 0, none⟩) [⟨0, [], [], 0, 0, 0, A3, x3, c3⟩] := fun _ => by
    refine ⟨_, rfl, by simp, fun k a ha j v hv => ?_⟩
    obtain ⟨hk, rfl⟩ := List.getElem?_eq_some_iff.1 ha
    obtain rfl : k = 0 := by simpa using hk
    rw [Nat.zero_mul, Addr.add_zero', show (⟨u1.heap.size, 0, none⟩ : Addr).add j = ⟨u1.heap.size, j, none⟩ from by unfold Addr.add; split <;> simp_all, cell_of_row _ _ _ _ _ _ (heap_alloc_new u1 _)]
    simpa [facells] using hv
  have HFW := Lib.hid (ffew_any A0 x0.length c0 _ _ 1 _ hA (by simp))
  have B2 := Lib.hid (B1.out.alloc B1.out.size (.cells #[.int .i64 0, .string ⟨#[]⟩, .string ⟨#[]⟩, .int .i64 0, .int .i64 0, .int .i64 0, .slice A3 x3.length c3] 41))
  clear hA
  refine HFW.out.mono ?_
  rintro e u2 ⟨⟨bb, rfl⟩, bf⟩
  have b2 := B2.out.trans (bf.mono B2.out.size)
  clear bf B1 B2 HFW
  cases bb
  · go_wp2_with fail
    go_ret
    exact ⟨rfl, b2⟩
  go_wp2_with fail
  refine (mflat_any A0 x0 c0 u2 (BX.out _ b2).1).mono ?_
  rintro e u3 ⟨p, gb, mb, rfl, p1, p2, p3, hm, k3⟩
  have hlo := b2.size
  have gl : (fillL x0).length = 8192 := fillL_len x0
  have B3 := Lib.hid (b2.trans ((below_none k3).mono b2.size))
  generalize fillL x0 = G at *
  have LO := Lib.hid (show w.heap.size ≤ p ∧ w.heap.size ≤ mb from ⟨by omega, by omega⟩)
  clear k3 p1 p2 p3 hlo b2
  have HM3 := Lib.hid hm
  have HMC := Lib.hid (memC_flat hm)
  clear hm
  by_cases ho : okR (regB G)
  rotate_left
  · have HFI := Lib.hid (ffiles_bad HMC.out ho)
    go_wp2_with fail
    refine HFI.out.mono ?_
    rintro e u4 ⟨-, k4, rfl⟩
    have BF := Lib.hid (B3.out.trans (k4.toBelow w.heap.size B3.out.size (fun i hi => by have := LO.out; omega)))
    clear k4
    go_wp2_with fail
    go_ret
    exact ⟨rfl, BF.out⟩
  have OK := Lib.hid (OkM.mk gl ho)
  have HFI := Lib.hid (ffiles_any HMC.out ho OK.out.good)
  clear ho HMC
  go_wp2_with fail
  refine HFI.out.mono ?_
  rintro e u4 ⟨h4, k4, g1, cp1, l1, rfl, ho1, hr1, hm1⟩
  obtain ⟨hfa, hll⟩ := filesAt ho1 hr1 hm1
  rw [hll]
  have B4 := Lib.hid (B3.out.trans (k4.toBelow w.heap.size B3.out.size (fun i hi => by have := LO.out; omega)))
  have HFA := Lib.hid hfa
  have HM4 := Lib.hid h4
  have G1 := Lib.hid (show w.heap.size ≤ g1 ∧ u3.heap.size ≤ g1 ∧ mb < u3.heap.size ∧ p < u3.heap.size from ⟨by have := ho1.block; have := B3.out.size; omega, ho1.block.1, HM3.out.lt.2.2, HM3.out.lt.1⟩)
  clear hfa hll hm1 hr1 ho1 k4 h4 HFI HM3 B3
  obtain ⟨fl, hfl⟩ : ∃ fl, fl = filesV ⟨regB G, readN (regB G)⟩ := ⟨_, rfl⟩
  rw [← hfl] at HFA ⊢
  have hf8 : fl.length ≤ 8 := by rw [hfl, filesV_len]; exact Nat.le_trans (List.length_filter_le _ _) (by simp)
  have FL := Lib.hid hfl
  clear hfl
  go_wp2_with fail
  go_loopw [44, 14] (fun i nm wr => ∃ k : Nat, k ≤ fl.length ∧ i = .int .i64 (k : Int) ∧ nm = St (nmK (regM G) a1 k) ∧ MemAt wr p gb mb G G ∧ Keeps (fun j => j = mb) u4 wr) (fun i _ _ => fl.length - (RowKit.intOf i).toNat)
  case atStart => exact ⟨0, by omega, rfl, rfl, HM4.out, Keeps.refl _ _⟩
  case round =>
    obtain ⟨k, hk, rfl, rfl, hmr, kr⟩ := hrel
    by_cases hlt : k < fl.length
    · have hfr := HFA.out.keep kr (fun j h1 h2 => by have := G1.out; omega)
      obtain ⟨gd, c, f1, f2, f3, f4⟩ := hfr.cs k hlt
      have hs := FL.out
      have hlt2 : k < (filesV (regM G)).length := by rw [hs] at hlt; exact hlt
      have hff := find_file OK.out.good hlt2
      have hnl := name_len OK.out.good hlt2
      have hnx := nmK_step (regM G) a1 hlt2
      rw [show filesV (regM G) = fl from hs.symm] at hff hnl hnx
      clear f3 f4 hfr hs hlt2
      generalize (fl.getD k ([], [])).1 = s at *
      generalize (fl.getD k ([], [])).2.length = n2 at *
      generalize (idxL (regM G).ns).getD k 0 = ix at *
      have kA : Keeps (fun _ => False) wr (wr.alloc (.cells #[St s, .slice (some ⟨gd, 0, none⟩) n2 c] 45)) := Keeps.alloc _ _ _
      have hfi := ffind_any (memC_flat (hmr.keep kA (fun f => f) (fun f => f) (fun f => f))) OK.out.ok s (by omega)
      have hfv : fVal (readN (regB G)) s = .tuple #[.int .i64 (ix : Int), .int .i64 0] := by
        unfold fVal
        rw [show findN (readN (regB G)) s = ix from hff.1, show findE (readN (regB G)) s = 0 from hff.2]
      rw [hfv] at hfi
      have HFI := Lib.hid hfi
      have LM := Lib.hid hmr.lt.2.2
      have KA := Lib.hid (kr.trans (kA.mono fun _ _ f => f.elim))
      have NX := Lib.hid hnx
      clear hff hfi kA kr hmr hnl hnx hfv
      generalize nmK (regM G) a1 k = nmk at *
      go_wp2_with fail
      refine HFI.out.mono ?_
      rintro e w5 ⟨h5, k5, rfl⟩
      have cb : w5.cell? ⟨wr.heap.size, 0, none⟩ = some (St s) := by
        rw [k5.cell _ _ (by rw [World.size_alloc]; omega) (by have := LM.out; omega), cell_of_row _ _ _ _ _ _ (heap_alloc_new wr _)]
        rfl
      have K5 := Lib.hid (KA.out.trans k5)
      have H5 := Lib.hid h5
      clear h5 k5 HFI KA
      by_cases hx : (ix : Int) = a1
      · have hd : ((ix : Int) == a1) = true := by simpa using hx
        have hnx := NX.out
        rw [if_pos hx] at hnx
        have NX2 := Lib.hid hnx
        clear hnx NX hx
        go_wp2_with fail
        go_roundw
        case rel => exact ⟨k + 1, by omega, by go_num, by rw [NX2.out], H5.out, K5.out⟩
        case measure => simp [RowKit.intOf]; omega
      · have hd : ((ix : Int) == a1) = false := by simpa using hx
        have hnx := NX.out
        rw [if_neg hx] at hnx
        have NX2 := Lib.hid hnx
        clear hnx NX hx
        go_wp2_with fail
        go_roundw
        case rel => exact ⟨k + 1, by omega, by go_num, by rw [NX2.out], H5.out, K5.out⟩
        case measure => simp [RowKit.intOf]; omega
    · obtain rfl : k = fl.length := by omega
      have hmb : mb ≠ 0 := by have := LO.out; have := HTB.out.pos; omega
      have hTr : Tab wr := HTB.out.keep ((kr.block 0 (by have := B4.out.size; have := HTB.out.pos; omega) (fun e => hmb e.symm)).trans (B4.out.block 0 HTB.out.pos))
      have bwr := B4.out.trans (kr.toBelow w.heap.size B4.out.size (fun i hi => by have := LO.out; omega))
      have hwr := fwrite_sim hmr OK.out hTr hmb a1 a2 r2 c3 (BX.out _ bwr).2 (by omega) (fun hne ad e => by
        subst e
        obtain ⟨ad', e', hl, _⟩ := b3 hne
        cases e'
        have := LO.out
        omega)
      have HWR := Lib.hid hwr
      have BW := Lib.hid bwr
      have KR : Hid (Keeps (fun i => i = p ∨ i = mb) u4 wr) := kr.mono (fun _ _ e => .inr e)
      have TR := Lib.hid hTr
      have NMB := Lib.hid hmb
      have PB := Lib.hid (show ∀ i, i = p ∨ i = mb → w.heap.size ≤ i ∧ i < u3.heap.size ∧ i ≠ 0 from fun i hi => by have := LO.out; have := G1.out; have := HTB.out.pos; omega)
      clear hwr bwr hmr kr hTr hmb hlt hk
      generalize hnk : nmK (regM G) a1 fl.length = nmk at *
      have NMK := Lib.hid hnk
      clear hnk
      go_wp2_with fail
      refine HWR.out.mono ?_
      rintro e w5 ⟨E1, M1, rfl, h5, o5, s5, k5⟩
      have K5 := Lib.hid (KR.out.trans k5)
      have hrz := fresize_sim h5 o5 (TR.out.keep (k5.block 0 TR.out.pos (fun e => (PB.out 0 e).2.2 rfl))) NMB.out a1 a4
      have HRZ := Lib.hid hrz
      have TR5 := Lib.hid (TR.out.keep (k5.block 0 TR.out.pos (fun e => (PB.out 0 e).2.2 rfl)))
      have B5 := Lib.hid (BW.out.trans (k5.toBelow w.heap.size BW.out.size (fun i hi => (PB.out i hi).1)))
      have S5 := Lib.hid s5
      clear h5 o5 s5 k5 hrz HWR BW TR KR
      go_wp2_with fail
      refine HRZ.out.mono ?_
      rintro e w6 ⟨E2, M2, rfl, h6, o6, s6, k6⟩
      have K6 := Lib.hid (K5.out.trans k6)
      have B6 := Lib.hid (B5.out.trans (k6.toBelow w.heap.size B5.out.size (fun i hi => (PB.out i hi).1)))
      have S6 := Lib.hid (S5.out.trans s6)
      have HFI := Lib.hid (ffiles_ok h6 o6)
      clear h6 o6 s6 k6 HRZ B5 S5 K5 TR5
      go_wp2_with fail
      refine HFI.out.mono ?_
      rintro e w7 ⟨g2, cp2, rfl, -, fa2, k7⟩
      have hsl := sim_len S6.out
      rw [show filesV (regM G) = fl from FL.out.symm] at hsl
      rw [hsl]
      have K7 : Hid (Keeps (fun i => i = p ∨ i = mb) u4 w7) := K6.out.trans (k7.mono (fun _ _ e => .inr e))
      have FA1 := Lib.hid (HFA.out.keep K7.out (fun j h1 h2 => by have := PB.out j h2; omega))
      have FA2 := Lib.hid fa2
      have B7 := Lib.hid (B6.out.trans (k7.toBelow w.heap.size B6.out.size (fun i hi => (PB.out i (.inr hi)).1)))
      have SF := Lib.hid (fun (k : Nat) (hk : k < fl.length) => show ((filesV (regM M2)).getD k ([], [])).1 = (fl.getD k ([], [])).1 ∧ ((fl.getD k ([], [])).1 = nmk ∨ ((filesV (regM M2)).getD k ([], [])).2 = (fl.getD k ([], [])).2) from by
        have := sim_files S6.out (k := k) (by rw [show filesV (regM G) = fl from FL.out.symm]; exact hk)
        rw [show filesV (regM G) = fl from FL.out.symm, NMK.out] at this
        exact this.2)
      have SL := Lib.hid hsl
      clear fa2 k7 hsl HFI B6 S6 K6 NMK FL
      generalize filesV (regM M2) = fl2 at *
      have hnn : ((fl.length : Int) != (fl.length : Int)) = false := by simp
      go_wp2_with fail
      go_loopw [86] (fun i wx => ∃ k : Nat, k ≤ fl.length ∧ i = .int .i64 (k : Int) ∧ Keeps (fun _ => False) w7 wx) (fun i _ => fl.length - (RowKit.intOf i).toNat)
      case atStart => exact ⟨0, by omega, rfl, Keeps.refl _ _⟩
      case round =>
        obtain ⟨k, hk, rfl, kx⟩ := hrel
        by_cases hlt : k < fl.length
        · obtain ⟨z1, z2⟩ := SF.out k hlt
          have KX := Lib.hid (kx.trans (Keeps.drew (fun _ => False) wr))
          obtain ⟨gd1, q1, f1, f2, f3, -⟩ := (FA1.out.keep KX.out (fun _ _ f => f)).cs k hlt
          obtain ⟨gd2, q2, e1, e2, e3, -⟩ := (FA2.out.keep KX.out (fun _ _ f => f)).cs k (by rw [SL.out]; exact hlt)
          rw [z1] at e1
          generalize (fl.getD k ([], [])).1 = s at *
          generalize (fl.getD k ([], [])).2 = d1 at *
          generalize (fl2.getD k ([], [])).2 = d2 at *
          clear z1 kx
          by_cases hsn : s = nmk
          · clear z2
            go_wp2_with fail
            refine wp_region_held (S := fun W : World => W = wr.drew) (by kernel_rfl) ?_
            change wpAnyH _ _ _ _ _ _ _ _ wr.drew
            generalize wr.drew = wB at *
            have hS : (fun W : World => W = wB) wB := rfl
            refine wpAnyH_take (oi := ⟨_, _, _, _, _, _⟩) (i := 0) (v := .slice (some ⟨g2, 0, none⟩) fl.length cp2) rfl (by kernel_rfl) (by kernel_rfl) (by kernel_rfl) (fun _ _ _ h => h) (Or.inl ⟨by rfl, fun _ _ => rfl⟩) hS ?_
            try simp only [Act.put, List.setIfInBounds_toArray, List.set_cons_zero, List.set_cons_succ]
            refine wpAnyH_take (oi := ⟨_, _, _, _, _, _⟩) (i := 1) (v := .int .i64 (k : Int)) rfl (by kernel_rfl) (by kernel_rfl) (by kernel_rfl) (fun _ _ _ h => h) (Or.inl ⟨by rfl, fun _ _ => rfl⟩) hS ?_
            try simp only [Act.put, List.setIfInBounds_toArray, List.set_cons_zero, List.set_cons_succ]
            refine wpAnyH_take (oi := ⟨_, _, _, _, _, _⟩) (i := 2) (v := .pointer (some ⟨g2, k * 2, none⟩)) rfl (by kernel_rfl) (by kernel_rfl) (by kernel_rfl) (fun _ _ _ h => h) (Or.inl ⟨by rfl, fun _ _ => by go_simp⟩) hS ?_
            try simp only [Act.put, List.setIfInBounds_toArray, List.set_cons_zero, List.set_cons_succ]
            refine wpAnyH_take (oi := ⟨_, _, _, _, _, _⟩) (i := 3) (v := .pointer (some ⟨g2, k * 2, none⟩)) rfl (by kernel_rfl) (by kernel_rfl) (by kernel_rfl) (fun _ _ _ h => h) (Or.inl ⟨by rfl, fun _ _ => by go_simp⟩) hS ?_
            try simp only [Act.put, List.setIfInBounds_toArray, List.set_cons_zero, List.set_cons_succ]
            refine wpAnyH_take (oi := ⟨_, _, _, _, _, _⟩) (i := 4) (v := St s) rfl (by kernel_rfl) (by kernel_rfl) (by kernel_rfl) (fun _ _ _ h => h) (yif_load rfl 9 (.tmp 92) rfl _ _ rfl fun w h => load_one aggStr (by rw [h]; exact e1)) hS ?_
            try simp only [Act.put, List.setIfInBounds_toArray, List.set_cons_zero, List.set_cons_succ]
            refine wpAnyH_take (oi := ⟨_, _, _, _, _, _⟩) (i := 5) (v := .slice (some ⟨g1, 0, none⟩) fl.length cp1) rfl (by kernel_rfl) (by kernel_rfl) (by kernel_rfl) (fun _ _ _ h => h) (Or.inl ⟨by rfl, fun _ _ => rfl⟩) hS ?_
            try simp only [Act.put, List.setIfInBounds_toArray, List.set_cons_zero, List.set_cons_succ]
            refine wpAnyH_take (oi := ⟨_, _, _, _, _, _⟩) (i := 6) (v := .int .i64 (k : Int)) rfl (by kernel_rfl) (by kernel_rfl) (by kernel_rfl) (fun _ _ _ h => h) (Or.inl ⟨by rfl, fun _ _ => rfl⟩) hS ?_
            try simp only [Act.put, List.setIfInBounds_toArray, List.set_cons_zero, List.set_cons_succ]
            refine wpAnyH_take (oi := ⟨_, _, _, _, _, _⟩) (i := 7) (v := .pointer (some ⟨g1, k * 2, none⟩)) rfl (by kernel_rfl) (by kernel_rfl) (by kernel_rfl) (fun _ _ _ h => h) (Or.inl ⟨by rfl, fun _ _ => by go_simp⟩) hS ?_
            try simp only [Act.put, List.setIfInBounds_toArray, List.set_cons_zero, List.set_cons_succ]
            refine wpAnyH_take (oi := ⟨_, _, _, _, _, _⟩) (i := 8) (v := .pointer (some ⟨g1, k * 2, none⟩)) rfl (by kernel_rfl) (by kernel_rfl) (by kernel_rfl) (fun _ _ _ h => h) (Or.inl ⟨by rfl, fun _ _ => by go_simp⟩) hS ?_
            try simp only [Act.put, List.setIfInBounds_toArray, List.set_cons_zero, List.set_cons_succ]
            refine wpAnyH_take (oi := ⟨_, _, _, _, _, _⟩) (i := 9) (v := St s) rfl (by kernel_rfl) (by kernel_rfl) (by kernel_rfl) (fun _ _ _ h => h) (yif_load rfl 9 (.tmp 97) rfl _ _ rfl fun w h => load_one aggStr (by rw [h]; exact f1)) hS ?_
            try simp only [Act.put, List.setIfInBounds_toArray, List.set_cons_zero, List.set_cons_succ]
            refine wpAnyH_take (oi := ⟨_, _, _, _, _, _⟩) (i := 10) (v := .bool false) rfl (by kernel_rfl) (by kernel_rfl) (by kernel_rfl) (fun _ _ _ h => h) (Or.inl ⟨by rfl, fun _ _ => neqS_same (.tmp 93) (.tmp 98) rfl s rfl rfl⟩) hS ?_
            try simp only [Act.put, List.setIfInBounds_toArray, List.set_cons_zero, List.set_cons_succ]
            refine wpAnyH_take (oi := ⟨_, _, _, _, _, _⟩) (i := 11) (v := .bool false) rfl (by kernel_rfl) (by kernel_rfl) (by kernel_rfl) (fun _ _ _ h => h) (Or.inl ⟨by rfl, fun _ _ => rfl⟩) hS ?_
            try simp only [Act.put, List.setIfInBounds_toArray, List.set_cons_zero, List.set_cons_succ]
            refine wpAnyH_take (oi := ⟨_, _, _, _, _, _⟩) (i := 12) (v := .slice (some ⟨g2, 0, none⟩) fl.length cp2) rfl (by kernel_rfl) (by kernel_rfl) (by kernel_rfl) (fun _ _ _ h => h) (Or.inl ⟨by rfl, fun _ _ => rfl⟩) hS ?_
            try simp only [Act.put, List.setIfInBounds_toArray, List.set_cons_zero, List.set_cons_succ]
            refine wpAnyH_take (oi := ⟨_, _, _, _, _, _⟩) (i := 13) (v := .int .i64 (k : Int)) rfl (by kernel_rfl) (by kernel_rfl) (by kernel_rfl) (fun _ _ _ h => h) (Or.inl ⟨by rfl, fun _ _ => rfl⟩) hS ?_
            try simp only [Act.put, List.setIfInBounds_toArray, List.set_cons_zero, List.set_cons_succ]
            refine wpAnyH_take (oi := ⟨_, _, _, _, _, _⟩) (i := 14) (v := .pointer (some ⟨g2, k * 2, none⟩)) rfl (by kernel_rfl) (by kernel_rfl) (by kernel_rfl) (fun _ _ _ h => h) (Or.inl ⟨by rfl, fun _ _ => by go_simp⟩) hS ?_
            try simp only [Act.put, List.setIfInBounds_toArray, List.set_cons_zero, List.set_cons_succ]
            refine wpAnyH_take (oi := ⟨_, _, _, _, _, _⟩) (i := 15) (v := .pointer (some ⟨g2, k * 2, none⟩)) rfl (by kernel_rfl) (by kernel_rfl) (by kernel_rfl) (fun _ _ _ h => h) (Or.inl ⟨by rfl, fun _ _ => by go_simp⟩) hS ?_
            try simp only [Act.put, List.setIfInBounds_toArray, List.set_cons_zero, List.set_cons_succ]
            refine wpAnyH_take (oi := ⟨_, _, _, _, _, _⟩) (i := 16) (v := St s) rfl (by kernel_rfl) (by kernel_rfl) (by kernel_rfl) (fun _ _ _ h => h) (yif_load rfl 9 (.tmp 104) rfl _ _ rfl fun w h => load_one aggStr (by rw [h]; exact e1)) hS ?_
            try simp only [Act.put, List.setIfInBounds_toArray, List.set_cons_zero, List.set_cons_succ]
            refine wpAnyH_take (oi := ⟨_, _, _, _, _, _⟩) (i := 17) (v := St nmk) rfl (by kernel_rfl) (by kernel_rfl) (by kernel_rfl) (fun _ _ _ h => h) (Or.inl ⟨by rfl, fun _ _ => rfl⟩) hS ?_
            try simp only [Act.put, List.setIfInBounds_toArray, List.set_cons_zero, List.set_cons_succ]
            refine wpAnyH_take (oi := ⟨_, _, _, _, _, _⟩) (i := 18) (v := .bool false) rfl (by kernel_rfl) (by kernel_rfl) (by kernel_rfl) (fun _ _ _ h => h) (Or.inl ⟨by rfl, fun _ _ => neqS_same (.tmp 105) (.tmp 106) rfl s rfl (by rw [hsn]; rfl)⟩) hS ?_
            try simp only [Act.put, List.setIfInBounds_toArray, List.set_cons_zero, List.set_cons_succ]
            refine wpAnyH_take (oi := ⟨_, _, _, _, _, _⟩) (i := 19) (v := .bool false) rfl (by kernel_rfl) (by kernel_rfl) (by kernel_rfl) (fun _ _ _ h => h) (Or.inl ⟨by rfl, fun _ _ => rfl⟩) hS ?_
            try simp only [Act.put, List.setIfInBounds_toArray, List.set_cons_zero, List.set_cons_succ]
            refine wpAnyH_take (oi := ⟨_, _, _, _, _, _⟩) (i := 20) (v := undef) rfl (by kernel_rfl) (by kernel_rfl) (by kernel_rfl) (fun _ _ _ h => h) (Or.inr ⟨by rfl, rfl⟩) hS ?_
            try simp only [Act.put, List.setIfInBounds_toArray, List.set_cons_zero, List.set_cons_succ]
            refine wpAnyH_take (oi := ⟨_, _, _, _, _, _⟩) (i := 21) (v := undef) rfl (by kernel_rfl) (by kernel_rfl) (by kernel_rfl) (fun _ _ _ h => h) (Or.inr ⟨by rfl, rfl⟩) hS ?_
            try simp only [Act.put, List.setIfInBounds_toArray, List.set_cons_zero, List.set_cons_succ]
            refine wpAnyH_take (oi := ⟨_, _, _, _, _, _⟩) (i := 22) (v := undef) rfl (by kernel_rfl) (by kernel_rfl) (by kernel_rfl) (fun _ _ _ h => h) (Or.inr ⟨by rfl, rfl⟩) hS ?_
            try simp only [Act.put, List.setIfInBounds_toArray, List.set_cons_zero, List.set_cons_succ]
            refine wpAnyH_take (oi := ⟨_, _, _, _, _, _⟩) (i := 23) (v := undef) rfl (by kernel_rfl) (by kernel_rfl) (by kernel_rfl) (fun _ _ _ h => h) (Or.inr ⟨by rfl, rfl⟩) hS ?_
            try simp only [Act.put, List.setIfInBounds_toArray, List.set_cons_zero, List.set_cons_succ]
            refine wpAnyH_take (oi := ⟨_, _, _, _, _, _⟩) (i := 24) (v := undef) rfl (by kernel_rfl) (by kernel_rfl) (by kernel_rfl) (fun _ _ _ h => h) (Or.inr ⟨by rfl, rfl⟩) hS ?_
            try simp only [Act.put, List.setIfInBounds_toArray, List.set_cons_zero, List.set_cons_succ]
            refine wpAnyH_take (oi := ⟨_, _, _, _, _, _⟩) (i := 25) (v := undef) rfl (by kernel_rfl) (by kernel_rfl) (by kernel_rfl) (fun _ _ _ h => h) (Or.inr ⟨by rfl, rfl⟩) hS ?_
            try simp only [Act.put, List.setIfInBounds_toArray, List.set_cons_zero, List.set_cons_succ]
            refine wpAnyH_take (oi := ⟨_, _, _, _, _, _⟩) (i := 26) (v := undef) rfl (by kernel_rfl) (by kernel_rfl) (by kernel_rfl) (fun _ _ _ h => h) (Or.inr ⟨by rfl, rfl⟩) hS ?_
            try simp only [Act.put, List.setIfInBounds_toArray, List.set_cons_zero, List.set_cons_succ]
            refine wpAnyH_take (oi := ⟨_, _, _, _, _, _⟩) (i := 27) (v := undef) rfl (by kernel_rfl) (by kernel_rfl) (by kernel_rfl) (fun _ _ _ h => h) (Or.inr ⟨by rfl, rfl⟩) hS ?_
            try simp only [Act.put, List.setIfInBounds_toArray, List.set_cons_zero, List.set_cons_succ]
            refine wpAnyH_take (oi := ⟨_, _, _, _, _, _⟩) (i := 28) (v := undef) rfl (by kernel_rfl) (by kernel_rfl) (by kernel_rfl) (fun _ _ _ h => h) (Or.inr ⟨by rfl, rfl⟩) hS ?_
            try simp only [Act.put, List.setIfInBounds_toArray, List.set_cons_zero, List.set_cons_succ]
            refine wpAnyH_take (oi := ⟨_, _, _, _, _, _⟩) (i := 29) (v := undef) rfl (by kernel_rfl) (by kernel_rfl) (by kernel_rfl) (fun _ _ _ h => h) (Or.inr ⟨by rfl, rfl⟩) hS ?_
            try simp only [Act.put, List.setIfInBounds_toArray, List.set_cons_zero, List.set_cons_succ]
            refine wpAnyH_take (oi := ⟨_, _, _, _, _, _⟩) (i := 30) (v := undef) rfl (by kernel_rfl) (by kernel_rfl) (by kernel_rfl) (fun _ _ _ h => h) (Or.inr ⟨by rfl, rfl⟩) hS ?_
            try simp only [Act.put, List.setIfInBounds_toArray, List.set_cons_zero, List.set_cons_succ]
            refine wpAnyH_take (oi := ⟨_, _, _, _, _, _⟩) (i := 31) (v := undef) rfl (by kernel_rfl) (by kernel_rfl) (by kernel_rfl) (fun _ _ _ h => h) (Or.inr ⟨by rfl, rfl⟩) hS ?_
            try simp only [Act.put, List.setIfInBounds_toArray, List.set_cons_zero, List.set_cons_succ]
            refine wpAnyH_take (oi := ⟨_, _, _, _, _, _⟩) (i := 32) (v := undef) rfl (by kernel_rfl) (by kernel_rfl) (by kernel_rfl) (fun _ _ _ h => h) (Or.inr ⟨by rfl, rfl⟩) hS ?_
            try simp only [Act.put, List.setIfInBounds_toArray, List.set_cons_zero, List.set_cons_succ]
            refine wpAnyH_take (oi := ⟨_, _, _, _, _, _⟩) (i := 33) (v := .bool false) rfl (by kernel_rfl) (by kernel_rfl) (by kernel_rfl) (fun _ _ _ h => h) (Or.inl ⟨by rfl, fun _ _ => by go_simp⟩) hS ?_
            try simp only [Act.put, List.setIfInBounds_toArray, List.set_cons_zero, List.set_cons_succ]
            refine wpAnyH_take (oi := ⟨_, _, _, _, _, _⟩) (i := 34) (v := .bool false) rfl (by kernel_rfl) (by kernel_rfl) (by kernel_rfl) (fun _ _ _ h => h) (Or.inl ⟨by rfl, fun _ _ => by go_simp⟩) hS ?_
            try simp only [Act.put, List.setIfInBounds_toArray, List.set_cons_zero, List.set_cons_succ]
            refine wpAnyH_done (by kernel_rfl) ?_ _
            try simp only [Act.put, List.setIfInBounds_toArray, List.set_cons_zero, List.set_cons_succ]
            clear f1 f2 f3 e1 e2 e3 hS
            go_wp2_with fail
            go_roundw
            case rel => exact ⟨k + 1, by omega, by go_num, KX.out⟩
            case measure => simp [RowKit.intOf]; omega
          · obtain rfl : d2 = d1 := z2.resolve_left hsn
            go_wp2_with fail
            refine wp_region_held (S := fun W : World => W = wr.drew) (by kernel_rfl) ?_
            change wpAnyH _ _ _ _ _ _ _ _ wr.drew
            generalize wr.drew = wB at *
            have hS : (fun W : World => W = wB) wB := rfl
            refine wpAnyH_take (oi := ⟨_, _, _, _, _, _⟩) (i := 0) (v := .slice (some ⟨g2, 0, none⟩) fl.length cp2) rfl (by kernel_rfl) (by kernel_rfl) (by kernel_rfl) (fun _ _ _ h => h) (Or.inl ⟨by rfl, fun _ _ => rfl⟩) hS ?_
            try simp only [Act.put, List.setIfInBounds_toArray, List.set_cons_zero, List.set_cons_succ]
            refine wpAnyH_take (oi := ⟨_, _, _, _, _, _⟩) (i := 1) (v := .int .i64 (k : Int)) rfl (by kernel_rfl) (by kernel_rfl) (by kernel_rfl) (fun _ _ _ h => h) (Or.inl ⟨by rfl, fun _ _ => rfl⟩) hS ?_
            try simp only [Act.put, List.setIfInBounds_toArray, List.set_cons_zero, List.set_cons_succ]
            refine wpAnyH_take (oi := ⟨_, _, _, _, _, _⟩) (i := 2) (v := .pointer (some ⟨g2, k * 2, none⟩)) rfl (by kernel_rfl) (by kernel_rfl) (by kernel_rfl) (fun _ _ _ h => h) (Or.inl ⟨by rfl, fun _ _ => by go_simp⟩) hS ?_
            try simp only [Act.put, List.setIfInBounds_toArray, List.set_cons_zero, List.set_cons_succ]
            refine wpAnyH_take (oi := ⟨_, _, _, _, _, _⟩) (i := 3) (v := .pointer (some ⟨g2, k * 2, none⟩)) rfl (by kernel_rfl) (by kernel_rfl) (by kernel_rfl) (fun _ _ _ h => h) (Or.inl ⟨by rfl, fun _ _ => by go_simp⟩) hS ?_
            try simp only [Act.put, List.setIfInBounds_toArray, List.set_cons_zero, List.set_cons_succ]
            refine wpAnyH_take (oi := ⟨_, _, _, _, _, _⟩) (i := 4) (v := St s) rfl (by kernel_rfl) (by kernel_rfl) (by kernel_rfl) (fun _ _ _ h => h) (yif_load rfl 9 (.tmp 92) rfl _ _ rfl fun w h => load_one aggStr (by rw [h]; exact e1)) hS ?_
            try simp only [Act.put, List.setIfInBounds_toArray, List.set_cons_zero, List.set_cons_succ]
            refine wpAnyH_take (oi := ⟨_, _, _, _, _, _⟩) (i := 5) (v := .slice (some ⟨g1, 0, none⟩) fl.length cp1) rfl (by kernel_rfl) (by kernel_rfl) (by kernel_rfl) (fun _ _ _ h => h) (Or.inl ⟨by rfl, fun _ _ => rfl⟩) hS ?_
            try simp only [Act.put, List.setIfInBounds_toArray, List.set_cons_zero, List.set_cons_succ]
            refine wpAnyH_take (oi := ⟨_, _, _, _, _, _⟩) (i := 6) (v := .int .i64 (k : Int)) rfl (by kernel_rfl) (by kernel_rfl) (by kernel_rfl) (fun _ _ _ h => h) (Or.inl ⟨by rfl, fun _ _ => rfl⟩) hS ?_
            try simp only [Act.put, List.setIfInBounds_toArray, List.set_cons_zero, List.set_cons_succ]
            refine wpAnyH_take (oi := ⟨_, _, _, _, _, _⟩) (i := 7) (v := .pointer (some ⟨g1, k * 2, none⟩)) rfl (by kernel_rfl) (by kernel_rfl) (by kernel_rfl) (fun _ _ _ h => h) (Or.inl ⟨by rfl, fun _ _ => by go_simp⟩) hS ?_
            try simp only [Act.put, List.setIfInBounds_toArray, List.set_cons_zero, List.set_cons_succ]
            refine wpAnyH_take (oi := ⟨_, _, _, _, _, _⟩) (i := 8) (v := .pointer (some ⟨g1, k * 2, none⟩)) rfl (by kernel_rfl) (by kernel_rfl) (by kernel_rfl) (fun _ _ _ h => h) (Or.inl ⟨by rfl, fun _ _ => by go_simp⟩) hS ?_
            try simp only [Act.put, List.setIfInBounds_toArray, List.set_cons_zero, List.set_cons_succ]
            refine wpAnyH_take (oi := ⟨_, _, _, _, _, _⟩) (i := 9) (v := St s) rfl (by kernel_rfl) (by kernel_rfl) (by kernel_rfl) (fun _ _ _ h => h) (yif_load rfl 9 (.tmp 97) rfl _ _ rfl fun w h => load_one aggStr (by rw [h]; exact f1)) hS ?_
            try simp only [Act.put, List.setIfInBounds_toArray, List.set_cons_zero, List.set_cons_succ]
            refine wpAnyH_take (oi := ⟨_, _, _, _, _, _⟩) (i := 10) (v := .bool false) rfl (by kernel_rfl) (by kernel_rfl) (by kernel_rfl) (fun _ _ _ h => h) (Or.inl ⟨by rfl, fun _ _ => neqS_same (.tmp 93) (.tmp 98) rfl s rfl rfl⟩) hS ?_
            try simp only [Act.put, List.setIfInBounds_toArray, List.set_cons_zero, List.set_cons_succ]
            refine wpAnyH_take (oi := ⟨_, _, _, _, _, _⟩) (i := 11) (v := .bool false) rfl (by kernel_rfl) (by kernel_rfl) (by kernel_rfl) (fun _ _ _ h => h) (Or.inl ⟨by rfl, fun _ _ => rfl⟩) hS ?_
            try simp only [Act.put, List.setIfInBounds_toArray, List.set_cons_zero, List.set_cons_succ]
            refine wpAnyH_take (oi := ⟨_, _, _, _, _, _⟩) (i := 12) (v := .slice (some ⟨g2, 0, none⟩) fl.length cp2) rfl (by kernel_rfl) (by kernel_rfl) (by kernel_rfl) (fun _ _ _ h => h) (Or.inl ⟨by rfl, fun _ _ => rfl⟩) hS ?_
            try simp only [Act.put, List.setIfInBounds_toArray, List.set_cons_zero, List.set_cons_succ]
            refine wpAnyH_take (oi := ⟨_, _, _, _, _, _⟩) (i := 13) (v := .int .i64 (k : Int)) rfl (by kernel_rfl) (by kernel_rfl) (by kernel_rfl) (fun _ _ _ h => h) (Or.inl ⟨by rfl, fun _ _ => rfl⟩) hS ?_
            try simp only [Act.put, List.setIfInBounds_toArray, List.set_cons_zero, List.set_cons_succ]
            refine wpAnyH_take (oi := ⟨_, _, _, _, _, _⟩) (i := 14) (v := .pointer (some ⟨g2, k * 2, none⟩)) rfl (by kernel_rfl) (by kernel_rfl) (by kernel_rfl) (fun _ _ _ h => h) (Or.inl ⟨by rfl, fun _ _ => by go_simp⟩) hS ?_
            try simp only [Act.put, List.setIfInBounds_toArray, List.set_cons_zero, List.set_cons_succ]
            refine wpAnyH_take (oi := ⟨_, _, _, _, _, _⟩) (i := 15) (v := .pointer (some ⟨g2, k * 2, none⟩)) rfl (by kernel_rfl) (by kernel_rfl) (by kernel_rfl) (fun _ _ _ h => h) (Or.inl ⟨by rfl, fun _ _ => by go_simp⟩) hS ?_
            try simp only [Act.put, List.setIfInBounds_toArray, List.set_cons_zero, List.set_cons_succ]
            refine wpAnyH_take (oi := ⟨_, _, _, _, _, _⟩) (i := 16) (v := St s) rfl (by kernel_rfl) (by kernel_rfl) (by kernel_rfl) (fun _ _ _ h => h) (yif_load rfl 9 (.tmp 104) rfl _ _ rfl fun w h => load_one aggStr (by rw [h]; exact e1)) hS ?_
            try simp only [Act.put, List.setIfInBounds_toArray, List.set_cons_zero, List.set_cons_succ]
            refine wpAnyH_take (oi := ⟨_, _, _, _, _, _⟩) (i := 17) (v := St nmk) rfl (by kernel_rfl) (by kernel_rfl) (by kernel_rfl) (fun _ _ _ h => h) (Or.inl ⟨by rfl, fun _ _ => rfl⟩) hS ?_
            try simp only [Act.put, List.setIfInBounds_toArray, List.set_cons_zero, List.set_cons_succ]
            refine wpAnyH_take (oi := ⟨_, _, _, _, _, _⟩) (i := 18) (v := .bool true) rfl (by kernel_rfl) (by kernel_rfl) (by kernel_rfl) (fun _ _ _ h => h) (Or.inl ⟨by rfl, fun _ _ => neqS_diff (.tmp 105) (.tmp 106) rfl s nmk hsn rfl rfl⟩) hS ?_
            try simp only [Act.put, List.setIfInBounds_toArray, List.set_cons_zero, List.set_cons_succ]
            refine wpAnyH_take (oi := ⟨_, _, _, _, _, _⟩) (i := 19) (v := .bool true) rfl (by kernel_rfl) (by kernel_rfl) (by kernel_rfl) (fun _ _ _ h => h) (Or.inl ⟨by rfl, fun _ _ => rfl⟩) hS ?_
            try simp only [Act.put, List.setIfInBounds_toArray, List.set_cons_zero, List.set_cons_succ]
            refine wpAnyH_take (oi := ⟨_, _, _, _, _, _⟩) (i := 20) (v := .slice (some ⟨g2, 0, none⟩) fl.length cp2) rfl (by kernel_rfl) (by kernel_rfl) (by kernel_rfl) (fun _ _ _ h => h) (Or.inl ⟨by rfl, fun _ _ => rfl⟩) hS ?_
            try simp only [Act.put, List.setIfInBounds_toArray, List.set_cons_zero, List.set_cons_succ]
            refine wpAnyH_take (oi := ⟨_, _, _, _, _, _⟩) (i := 21) (v := .int .i64 (k : Int)) rfl (by kernel_rfl) (by kernel_rfl) (by kernel_rfl) (fun _ _ _ h => h) (Or.inl ⟨by rfl, fun _ _ => rfl⟩) hS ?_
            try simp only [Act.put, List.setIfInBounds_toArray, List.set_cons_zero, List.set_cons_succ]
            refine wpAnyH_take (oi := ⟨_, _, _, _, _, _⟩) (i := 22) (v := .pointer (some ⟨g2, k * 2, none⟩)) rfl (by kernel_rfl) (by kernel_rfl) (by kernel_rfl) (fun _ _ _ h => h) (Or.inl ⟨by rfl, fun _ _ => by go_simp⟩) hS ?_
            try simp only [Act.put, List.setIfInBounds_toArray, List.set_cons_zero, List.set_cons_succ]
            refine wpAnyH_take (oi := ⟨_, _, _, _, _, _⟩) (i := 23) (v := .pointer (some ⟨g2, k * 2 + 1, none⟩)) rfl (by kernel_rfl) (by kernel_rfl) (by kernel_rfl) (fun _ _ _ h => h) (Or.inl ⟨by rfl, fun _ _ => by go_simp⟩) hS ?_
            try simp only [Act.put, List.setIfInBounds_toArray, List.set_cons_zero, List.set_cons_succ]
            refine wpAnyH_take (oi := ⟨_, _, _, _, _, _⟩) (i := 24) (v := .slice (some ⟨gd2, 0, none⟩) d2.length q2) rfl (by kernel_rfl) (by kernel_rfl) (by kernel_rfl) (fun _ _ _ h => h) (yif_load rfl 22 (.tmp 112) rfl _ _ rfl fun w h => load_one aggS8 (by rw [h]; exact e2)) hS ?_
            try simp only [Act.put, List.setIfInBounds_toArray, List.set_cons_zero, List.set_cons_succ]
            refine wpAnyH_take (oi := ⟨_, _, _, _, _, _⟩) (i := 25) (v := .string ⟨d2.toArray⟩) rfl (by kernel_rfl) (by kernel_rfl) (by kernel_rfl) (fun _ _ _ h => h) (Or.inl ⟨by rfl, fun W h => ex_convert 22 9 (.tmp 113) rfl _ _ rfl (conv_br (by rw [h]; exact e3))⟩) hS ?_
            try simp only [Act.put, List.setIfInBounds_toArray, List.set_cons_zero, List.set_cons_succ]
            refine wpAnyH_take (oi := ⟨_, _, _, _, _, _⟩) (i := 26) (v := .slice (some ⟨g1, 0, none⟩) fl.length cp1) rfl (by kernel_rfl) (by kernel_rfl) (by kernel_rfl) (fun _ _ _ h => h) (Or.inl ⟨by rfl, fun _ _ => rfl⟩) hS ?_
            try simp only [Act.put, List.setIfInBounds_toArray, List.set_cons_zero, List.set_cons_succ]
            refine wpAnyH_take (oi := ⟨_, _, _, _, _, _⟩) (i := 27) (v := .int .i64 (k : Int)) rfl (by kernel_rfl) (by kernel_rfl) (by kernel_rfl) (fun _ _ _ h => h) (Or.inl ⟨by rfl, fun _ _ => rfl⟩) hS ?_
            try simp only [Act.put, List.setIfInBounds_toArray, List.set_cons_zero, List.set_cons_succ]
            refine wpAnyH_take (oi := ⟨_, _, _, _, _, _⟩) (i := 28) (v := .pointer (some ⟨g1, k * 2, none⟩)) rfl (by kernel_rfl) (by kernel_rfl) (by kernel_rfl) (fun _ _ _ h => h) (Or.inl ⟨by rfl, fun _ _ => by go_simp⟩) hS ?_
            try simp only [Act.put, List.setIfInBounds_toArray, List.set_cons_zero, List.set_cons_succ]
            refine wpAnyH_take (oi := ⟨_, _, _, _, _, _⟩) (i := 29) (v := .pointer (some ⟨g1, k * 2 + 1, none⟩)) rfl (by kernel_rfl) (by kernel_rfl) (by kernel_rfl) (fun _ _ _ h => h) (Or.inl ⟨by rfl, fun _ _ => by go_simp⟩) hS ?_
            try simp only [Act.put, List.setIfInBounds_toArray, List.set_cons_zero, List.set_cons_succ]
            refine wpAnyH_take (oi := ⟨_, _, _, _, _, _⟩) (i := 30) (v := .slice (some ⟨gd1, 0, none⟩) d2.length q1) rfl (by kernel_rfl) (by kernel_rfl) (by kernel_rfl) (fun _ _ _ h => h) (yif_load rfl 22 (.tmp 118) rfl _ _ rfl fun w h => load_one aggS8 (by rw [h]; exact f2)) hS ?_
            try simp only [Act.put, List.setIfInBounds_toArray, List.set_cons_zero, List.set_cons_succ]
            refine wpAnyH_take (oi := ⟨_, _, _, _, _, _⟩) (i := 31) (v := .string ⟨d2.toArray⟩) rfl (by kernel_rfl) (by kernel_rfl) (by kernel_rfl) (fun _ _ _ h => h) (Or.inl ⟨by rfl, fun W h => ex_convert 22 9 (.tmp 119) rfl _ _ rfl (conv_br (by rw [h]; exact f3))⟩) hS ?_
            try simp only [Act.put, List.setIfInBounds_toArray, List.set_cons_zero, List.set_cons_succ]
            refine wpAnyH_take (oi := ⟨_, _, _, _, _, _⟩) (i := 32) (v := .bool false) rfl (by kernel_rfl) (by kernel_rfl) (by kernel_rfl) (fun _ _ _ h => h) (Or.inl ⟨by rfl, fun _ _ => neqS_same (.tmp 114) (.tmp 120) rfl d2 rfl rfl⟩) hS ?_
            try simp only [Act.put, List.setIfInBounds_toArray, List.set_cons_zero, List.set_cons_succ]
            refine wpAnyH_take (oi := ⟨_, _, _, _, _, _⟩) (i := 33) (v := .bool false) rfl (by kernel_rfl) (by kernel_rfl) (by kernel_rfl) (fun _ _ _ h => h) (Or.inl ⟨by rfl, fun _ _ => by go_simp⟩) hS ?_
            try simp only [Act.put, List.setIfInBounds_toArray, List.set_cons_zero, List.set_cons_succ]
            refine wpAnyH_take (oi := ⟨_, _, _, _, _, _⟩) (i := 34) (v := .bool false) rfl (by kernel_rfl) (by kernel_rfl) (by kernel_rfl) (fun _ _ _ h => h) (Or.inl ⟨by rfl, fun _ _ => by go_simp⟩) hS ?_
            try simp only [Act.put, List.setIfInBounds_toArray, List.set_cons_zero, List.set_cons_succ]
            refine wpAnyH_done (by kernel_rfl) ?_ _
            try simp only [Act.put, List.setIfInBounds_toArray, List.set_cons_zero, List.set_cons_succ]
            clear f1 f2 f3 e1 e2 e3 hS
            go_wp2_with fail
            go_roundw
            case rel => exact ⟨k + 1, by omega, by go_num, KX.out⟩
            case measure => simp [RowKit.intOf]; omega
        · obtain rfl : k = fl.length := by omega
          have BF := Lib.hid (B7.out.trans ((below_none kx).mono B7.out.size))
          go_wp2_with fail
          go_ret
          exact ⟨rfl, BF.out⟩

end Go.Proofs.YtdihgfagodjicaaDoor.fsApart
