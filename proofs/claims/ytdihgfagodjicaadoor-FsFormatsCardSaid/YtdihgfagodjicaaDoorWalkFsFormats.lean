/-
  WalkFsFormats
-/
import Derived.Test.YtdihgfagodjicaaDoorGA
import Derived.WalkKit
import Derived.ProofKit
import Derived.OpenShut
import Derived.Deep.DeepHandedRow
import Derived.Lib.LaidTab
import Derived.ChangeOld
import Derived.Below
import Derived.Deep.QuietTactic
import Derived.BigQuiet
import Derived.WalkSmall
import Derived.Test.YtdihgfagodjicaaDoorGFi
import Derived.Test.YtdihgfagodjicaaDoorGFj
import Derived.Test.YtdihgfagodjicaaDoorGSnG
namespace Go.Proofs.YtdihgfagodjicaaDoor.fsFormats
open Go.ChangeShapes Go.WideShapes Go.ChangeAt Go.RowKit Ex Fs Ino Mm
set_option linter.unusedVariables false

theorem filesV_ns0 (B : List UInt8) : filesV ⟨B, ns0⟩ = [] := by
  have h : idxL ns0 = [] := by decide
  unfold filesV
  rw [show (⟨B, ns0⟩ : RG).ns = ns0 from rfl, h]
  rfl

set_option maxRecDepth 100000 in
set_option maxHeartbeats 1000000 in
theorem walk (A0 : Option Addr) (x0 : List UInt8) (c0 : Nat) (w : World) (b0 : BR w w.heap.size A0 x0) (l0 : x0.length ≤ 140737488351232) (q0 : x0.length ≤ c0) (hT : Tab w) :
    Calls Tryd.prog 3 #[.slice A0 x0.length c0] w fun e w' => e = .returned (.bool true) ∧ Below w.heap.size w w' := by
  have bx : ∀ W, Below w.heap.size w W → BR W W.heap.size A0 x0 := fun W hb => (b0.below hb).more hb.size
  have BX := Lib.hid bx
  have HTB := Lib.hid hT
  clear bx b0 hT
  go_enter Tryd.func3, Tryd.ntmps3
  go_wp2_with fail
  refine (fawake_any _ HTB.out).mono ?_
  rintro e u1 ⟨rfl, b1⟩
  by_cases hl : 9000 < x0.length
  · go_wp2_with fail
    go_ret
    exact ⟨rfl, b1⟩
  go_wp2_with fail
  refine (mflat_any A0 x0 c0 u1 (BX.out _ b1)).mono ?_
  rintro e u2 ⟨p, gb, mb, rfl, p1, p2, p3, hm, k2⟩
  have bB2 := b1.trans ((below_none k2).mono b1.size)
  have B2 := Lib.hid bB2
  have HX := Lib.hid (BX.out _ bB2)
  clear bB2 BX
  go_wp2_with fail
  refine (rflat_any A0 x0 c0 u2 HX.out).mono ?_
  rintro e u3 ⟨q, rfl, ⟨rb, rc, rd, re, hr⟩, k3⟩
  obtain ⟨l1, l2, l3⟩ := hm.lt
  have hm3 := hm.keep k3 (fun h => h) (fun h => h) (fun h => h)
  have B3 := Lib.hid (B2.out.trans ((below_none k3).mono B2.out.size))
  have hlo := b1.size
  have gl : (fillL x0).length = 8192 := fillL_len x0
  generalize hmi : u2.heap.size = mi at *
  generalize fillL x0 = G at *
  have LO := Lib.hid (show w.heap.size ≤ p ∧ w.heap.size ≤ mb ∧ p < mi ∧ mb < mi from ⟨by omega, by omega, l1, l3⟩)
  have LG := Lib.hid (show gb < mi from l2)
  have HFM := Lib.hid (format_any (layC_flat hm3 fmtB (by rw [fmtB_len]; omega)))
  have HR3 := Lib.hid hr
  clear hm hm3 hr k2 k3 p1 p2 p3 l1 l2 l3 HX hlo b1 hl B2 hmi
  go_wp2_with fail
  refine HFM.out.mono ?_
  rintro e u4 ⟨rfl, h4, k4⟩
  have hr4 := HR3.out.keep k4 (fun i h1 h2 h3 => by have := LO.out; omega)
  have B4 := Lib.hid (B3.out.trans (k4.toBelow w.heap.size B3.out.size (fun i hi => by have := LO.out; omega)))
  have hg := Has.fmt gl
  have HGM := Lib.hid hg
  have HRF := Lib.hid (rformat_any hr4)
  have HM4 := Lib.hid h4
  have Q4 := Lib.hid (show mi ≤ rb ∧ mi ≤ rb from ⟨hr4.now.lt'.1, hr4.now.lt'.1⟩)
  clear h4 k4 hr4 hg HFM HR3 B3
  generalize layL G 6144 fmtB = M2 at *
  go_wp2_with fail
  refine HRF.out.mono ?_
  rintro e u5 ⟨rfl, hr5, k5⟩
  have hm5 := HM4.out.keep k5 (by have := LO.out; have := Q4.out; omega) (by have := LG.out; have := Q4.out; omega) (by have := LO.out; have := Q4.out; omega)
  have B5 := Lib.hid (B4.out.trans (k5.toBelow w.heap.size B4.out.size (fun i hi => by have := LO.out; have := Q4.out; omega)))
  have hfi := ffiles_any (memC_flat hm5) HGM.out.ok (good_of HGM.out.ml HGM.out.ok)
  rw [HGM.out.eq] at hfi
  have HFI := Lib.hid hfi
  have HR5 := Lib.hid hr5
  clear hm5 hr5 k5 hfi HRF HM4 B4
  go_wp2_with fail
  refine HFI.out.mono ?_
  rintro e u6 ⟨h6, k6, gl, cl, ll, rfl, ho, -, hm6⟩
  rw [show (⟨bytesL ⟨regB G, ns0⟩, (⟨regB G, ns0⟩ : RG).ns⟩ : RG) = ⟨bytesL ⟨regB G, ns0⟩, ns0⟩ from rfl, filesV_ns0] at hm6
  obtain rfl : ll = [] := List.map_eq_nil_iff.1 hm6
  have HR6 := Lib.hid (HR5.out.keep k6 (fun i h1 h2 h3 => by have := LO.out; omega))
  have B6 := Lib.hid (B5.out.trans (k6.toBelow w.heap.size B5.out.size (fun i hi => by have := LO.out; omega)))
  have HM6 := Lib.hid h6
  have HLT := Lib.hid (show w.heap.size ≤ mb ∧ mb < mi from ⟨LO.out.2.1, LO.out.2.2.2⟩)
  clear h6 k6 ho hm6 HFI HR5 B5 Q4
  rw [List.length_nil]
  go_wp2_with fail
  refine wp_region_held (S := fun W : World => RefH W mi q rb rc rd re M2 G) (by kernel_rfl) ?_
  change wpAnyH _ _ _ _ _ _ _ _ u6.drew
  have kd : Keeps (fun _ => False) u6 u6.drew := Keeps.drew _ _
  have hS : (fun W : World => RefH W mi q rb rc rd re M2 G) u6.drew := HR6.out.keep kd (fun _ _ _ h => h)
  have HMT := Lib.hid (HM6.out.keep kd (fun h => h) (fun h => h) (fun h => h))
  have HBT := Lib.hid (Below.and B6.out kd (fun _ h => h.elim) (Nat.le_refl _))
  generalize u6.drew = wT at *
  refine wpAnyH_take (oi := ⟨_, _, _, _, _, _⟩) (i := 0) (v := .int .i64 0) rfl (by kernel_rfl) (by kernel_rfl) (by kernel_rfl) (fun _ _ _ h => h) (Or.inl ⟨by rfl, fun _ _ => rfl⟩) hS ?_
  try simp only [Act.put, List.setIfInBounds_toArray, List.set_cons_zero, List.set_cons_succ]
  refine wpAnyH_take (oi := ⟨_, _, _, _, _, _⟩) (i := 1) (v := .bool true) rfl (by kernel_rfl) (by kernel_rfl) (by kernel_rfl) (fun _ _ _ h => h) (Or.inl ⟨by rfl, fun _ _ => by go_simp⟩) hS ?_
  try simp only [Act.put, List.setIfInBounds_toArray, List.set_cons_zero, List.set_cons_succ]
  refine wpAnyH_take (oi := ⟨_, _, _, _, _, _⟩) (i := 2) (v := .bool true) rfl (by kernel_rfl) (by kernel_rfl) (by kernel_rfl) (fun _ _ _ h => h) (Or.inl ⟨by rfl, fun _ _ => rfl⟩) hS ?_
  try simp only [Act.put, List.setIfInBounds_toArray, List.set_cons_zero, List.set_cons_succ]
  refine wpAnyH_take (oi := ⟨_, _, _, _, _, _⟩) (i := 3) (v := .slice (some ⟨gl, 0, none⟩) 0 cl) rfl (by kernel_rfl) (by kernel_rfl) (by kernel_rfl) (fun _ _ _ h => h) (Or.inl ⟨by rfl, fun _ _ => rfl⟩) hS ?_
  try simp only [Act.put, List.setIfInBounds_toArray, List.set_cons_zero, List.set_cons_succ]
  refine wpAnyH_take (oi := ⟨_, _, _, _, _, _⟩) (i := 4) (v := .int .i64 0) rfl (by kernel_rfl) (by kernel_rfl) (by kernel_rfl) (fun _ _ _ h => h) (Or.inl ⟨by rfl, fun _ _ => by go_simp⟩) hS ?_
  try simp only [Act.put, List.setIfInBounds_toArray, List.set_cons_zero, List.set_cons_succ]
  refine wpAnyH_take (oi := ⟨_, _, _, _, _, _⟩) (i := 5) (v := .bool true) rfl (by kernel_rfl) (by kernel_rfl) (by kernel_rfl) (fun _ _ _ h => h) (Or.inl ⟨by rfl, fun _ _ => by go_simp⟩) hS ?_
  try simp only [Act.put, List.setIfInBounds_toArray, List.set_cons_zero, List.set_cons_succ]
  refine wpAnyH_take (oi := ⟨_, _, _, _, _, _⟩) (i := 6) (v := .bool true) rfl (by kernel_rfl) (by kernel_rfl) (by kernel_rfl) (fun _ _ _ h => h) (Or.inl ⟨by rfl, fun _ _ => by go_simp⟩) hS ?_
  try simp only [Act.put, List.setIfInBounds_toArray, List.set_cons_zero, List.set_cons_succ]
  refine wpAnyH_take (oi := ⟨_, _, _, _, _, _⟩) (i := 7) (v := .bool true) rfl (by kernel_rfl) (by kernel_rfl) (by kernel_rfl) (fun _ _ _ h => h) (Or.inl ⟨by rfl, fun _ _ => rfl⟩) hS ?_
  try simp only [Act.put, List.setIfInBounds_toArray, List.set_cons_zero, List.set_cons_succ]
  refine wpAnyH_take (oi := ⟨_, _, _, _, _, _⟩) (i := 11) (v := .pointer (some ⟨q, 0, none⟩)) rfl (by kernel_rfl) (by kernel_rfl) (by kernel_rfl) (fun _ _ _ h => h) (Or.inl ⟨by rfl, fun _ _ => rfl⟩) hS ?_
  try simp only [Act.put, List.setIfInBounds_toArray, List.set_cons_zero, List.set_cons_succ]
  refine wpAnyH_take (oi := ⟨_, _, _, _, _, _⟩) (i := 12) (v := .pointer (some ⟨q, 0, none⟩)) rfl (by kernel_rfl) (by kernel_rfl) (by kernel_rfl) (fun _ _ _ h => h) (Or.inl ⟨by rfl, fun _ _ => by go_simp⟩) hS ?_
  try simp only [Act.put, List.setIfInBounds_toArray, List.set_cons_zero, List.set_cons_succ]
  refine wpAnyH_take (oi := ⟨_, _, _, _, _, _⟩) (i := 13) (v := .pointer (some ⟨q, 0, none⟩)) rfl (by kernel_rfl) (by kernel_rfl) (by kernel_rfl) (fun _ _ _ h => h) (Or.inl ⟨by rfl, fun _ _ => by go_simp⟩) hS ?_
  try simp only [Act.put, List.setIfInBounds_toArray, List.set_cons_zero, List.set_cons_succ]
  refine wpAnyH_take (oi := ⟨_, _, _, _, _, _⟩) (i := 14) (v := .slice (some ⟨rb, 0, none⟩) 8192 rc) rfl (by kernel_rfl) (by kernel_rfl) (by kernel_rfl) (fun _ _ _ h => h) (yif_load rfl 22 (.tmp 40) rfl _ _ rfl fun w h => load_one Mm.aggS h.cs.1) hS ?_
  try simp only [Act.put, List.setIfInBounds_toArray, List.set_cons_zero, List.set_cons_succ]
  refine wpAnyH_take (oi := ⟨_, _, _, _, _, _⟩) (i := 15) (v := .string ⟨M2.toArray⟩) rfl (by kernel_rfl) (by kernel_rfl) (by kernel_rfl) (fun _ _ _ h => h) (Or.inl ⟨by rfl, fun _ h => ex_convert 22 9 (.tmp 41) rfl _ _ rfl (conv_ref h)⟩) hS ?_
  try simp only [Act.put, List.setIfInBounds_toArray, List.set_cons_zero, List.set_cons_succ]
  refine wpAnyH_take (oi := ⟨_, _, _, _, _, _⟩) (i := 8) (v := .pointer (some ⟨p, 0, none⟩)) rfl (by kernel_rfl) (by kernel_rfl) (by kernel_rfl) (fun _ _ _ h => h) (Or.inl ⟨by rfl, fun _ _ => rfl⟩) hS ?_
  try simp only [Act.put, List.setIfInBounds_toArray, List.set_cons_zero, List.set_cons_succ]
  refine wpAnyH_all (rs := [9]) (by kernel_rfl) (by simp) fun i hi => ?_
  obtain rfl : i = 9 := by simpa using hi
  refine op_call (om := ⟨_, _, _, _, _, _⟩) (fn := 13) (args := #[.pointer (some ⟨p, 0, none⟩)]) (R := fun u w' => ∃ g, u = .slice (some ⟨g, 0, none⟩) 8192 8192 ∧ Row8 w' g 5 M2 ∧ Keeps (· = mb) wT w') rfl rfl (by go_simp)
    ((mbytes_at HMT.out).mono fun e w' ⟨g, he, h1, h2, h3, h4⟩ => ⟨_, he, g, by rw [HMT.out.ml], h2, h4⟩) _ _ rfl rfl ?_
  rintro u wU ⟨gU, rfl, rU, kU⟩
  have hS : (fun W : World => RefH W mi q rb rc rd re M2 G) wU := hS.keep kU (fun i h1 h2 h3 => by have := HLT.out; omega)
  refine ⟨hS, ?_⟩
  try simp only [Act.put, List.setIfInBounds_toArray, List.set_cons_zero, List.set_cons_succ]
  refine wpAnyH_all (rs := [10]) (by kernel_rfl) (by simp) fun i hi => ?_
  obtain rfl : i = 10 := by simpa using hi
  clear hi
  refine op_run (om := ⟨_, _, _, _, _, _⟩) (u := .string ⟨M2.toArray⟩) (w' := wU) rfl rfl (ex_convert 22 9 (.tmp 36) rfl _ _ rfl (conv_row 8192 HMT.out.ml rU)) _ _ rfl rfl ?_
  rintro u wV ⟨rfl, rfl⟩
  refine ⟨hS, ?_⟩
  try simp only [Act.put, List.setIfInBounds_toArray, List.set_cons_zero, List.set_cons_succ]
  refine wpAnyH_take (oi := ⟨_, _, _, _, _, _⟩) (i := 16) (v := .bool true) rfl (by kernel_rfl) (by kernel_rfl) (by kernel_rfl) (fun _ _ _ h => h) (Or.inl ⟨by rfl, fun _ _ => by go_simp⟩) hS ?_
  try simp only [Act.put, List.setIfInBounds_toArray, List.set_cons_zero, List.set_cons_succ]
  refine wpAnyH_take (oi := ⟨_, _, _, _, _, _⟩) (i := 17) (v := .bool true) rfl (by kernel_rfl) (by kernel_rfl) (by kernel_rfl) (fun _ _ _ h => h) (Or.inl ⟨by rfl, fun _ _ => by go_simp⟩) hS ?_
  try simp only [Act.put, List.setIfInBounds_toArray, List.set_cons_zero, List.set_cons_succ]
  refine wpAnyH_take (oi := ⟨_, _, _, _, _, _⟩) (i := 18) (v := .bool true) rfl (by kernel_rfl) (by kernel_rfl) (by kernel_rfl) (fun _ _ _ h => h) (Or.inl ⟨by rfl, fun _ _ => rfl⟩) hS ?_
  try simp only [Act.put, List.setIfInBounds_toArray, List.set_cons_zero, List.set_cons_succ]
  refine wpAnyH_done (by kernel_rfl) ?_ _
  try simp only [Act.put, List.setIfInBounds_toArray, List.set_cons_zero, List.set_cons_succ]
  have HF := Lib.hid (Below.and HBT.out kU (fun i hi => by have := HLT.out; omega) (Nat.le_refl _))
  clear hS kU rU kd HMT HBT HR6 HM6 B6
  go_wp2_with fail
  go_ret
  exact ⟨rfl, HF.out⟩

end Go.Proofs.YtdihgfagodjicaaDoor.fsFormats
