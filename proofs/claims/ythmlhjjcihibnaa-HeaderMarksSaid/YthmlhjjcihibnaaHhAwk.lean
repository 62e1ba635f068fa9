/-
  HhAwk
-/
import Derived.Test.YthmlhjjcihibnaaHhBy2
import Derived.Test.YthmlhjjcihibnaaHhBack
import Derived.Test.YthmlhjjcihibnaaMmTail
namespace Go.Proofs.Ythmlhjjcihibnaa.Hh
open Go.RowKit Go.Maps Mm Sk
set_option linter.unusedVariables false
set_option linter.unusedSimpArgs false

def xA : HV := ⟨0, 0, [97], false, false, 0⟩
theorem outA : outL xA = bytesL 0 [97] false false := rfl
theorem lenA : (bytesL 0 [97] false false).length = 16 := bytesL_len _ _ _ _
theorem thrA : thrV xA.name = 0 := rfl
theorem size1 : sizeN [97] = 16 := rfl
theorem align9 : alignV 9 = 16 := (alignV_small (by omega) (by omega)).trans (by decide)
set_option maxRecDepth 100000 in
set_option maxHeartbeats 1600000 in
theorem hawake_any (w : World) : Calls Try.prog 8 #[] w fun e w' => e = .returned (.bool true) ∧ Below w.heap.size w w' := by
  have B0 := Lib.hid (fun w' => hbytes_code xA w')
  have AL := Lib.hid (fun w' => align_any 9 w')
  rw [align9] at AL
  go_enter Try.func8, Try.ntmps8
  go_wp2_with fail
  refine (B0.out w).mono ?_
  rintro e w1 ⟨R, n, c, rfl, hn, hc, hr, hR, k1⟩
  rw [outA, lenA] at hn
  subst hn
  rw [outA] at hr
  rw [thrA]
  have K1 := Lib.hid k1
  have HR := Lib.hid hr
  have HRN := Lib.hid hR
  clear k1 hr hR B0
  go_wp2_with fail
  refine (mflat_any none [] 0 w1 BR.nil).mono ?_
  rintro e w2 ⟨p, gb, mb, rfl, p1, p2, p3, hm, k2⟩
  have zl := fillL_len []
  generalize fillL [] = Z at *
  have s1 := K1.out.size
  have hlt := hm.lt
  have br2 : BR w2 w2.heap.size R (bytesL 0 [97] false false) := (HR.out.below (k2.toBelow _ (Nat.le_refl _) fun _ f => f.elim)).more k2.size
  have LY := mlay_at hm 1536 (by omega) (by omega) R _ c br2 (fun ad e hne => by
    obtain ⟨ad', e', hb, -⟩ := HR.out hne
    rw [e] at e'
    cases e'
    exact ⟨by omega, by omega⟩) (by rw [lenA]; omega) (by rw [lenA]; exact hc)
  rw [lenA] at LY
  have K2 := Lib.hid (K1.out.trans k2)
  have LYH := Lib.hid LY
  have PBD := Lib.hid (show w.heap.size ≤ p ∧ w.heap.size ≤ mb from ⟨by omega, by omega⟩)
  obtain ⟨t1, t2⟩ := laid_read Z zl 1536 0 [97] false false 1560 (by omega) (by decide) (by omega) (by omega) (by decide) (by decide) (by rw [size1]; decide) (by omega)
  have t3 := laid_here Z zl 1536 (bytesL 0 [97] false false) 1560 (by omega) (by omega)
  unfold laidH at t1 t2 t3
  generalize layL Z 1536 (bytesL 0 [97] false false) = M1 at *
  have T1 := Lib.hid t1
  have T2 := Lib.hid t2
  have T3 := Lib.hid t3
  clear LY br2 k2 p1 p2 p3 hlt s1 HR HRN K1 t1 t2 t3 hm zl
  go_wp2_with fail
  refine LYH.out.mono ?_
  rintro e w3 ⟨rfl, m3, k3⟩
  have M3 := Lib.hid m3
  have K3 := Lib.hid (K2.out.toBelow w.heap.size (Nat.le_refl _) (fun _ f => f.elim) |>.trans (k3.toBelow w.heap.size K2.out.size fun i f => by have := PBD.out; rcases f with rfl | rfl <;> omega))
  clear m3 k3 LYH K2
  go_wp2_with fail
  refine (mset_at M3.out 0 1560 (by omega) (by omega)).mono ?_
  rintro e w4 ⟨rfl, m4, k4⟩
  generalize setM M1 0 1560 = M2 at *
  have K4 := Lib.hid (K3.out.trans (k4.toBelow w.heap.size K3.out.size fun i f => by have := PBD.out; rcases f with rfl | rfl <;> omega))
  have S4 := Lib.hid (show SM w4 (some ⟨p, 0, none⟩) p gb mb true Z M2 from .inl ⟨rfl, rfl, m4⟩)
  clear m4 k4 K3 M3
  have RD := hread_code S4.out 1536 (by omega) (by omega)
  unfold RdQ at RD
  rw [(read_yes T1.out).1, (read_yes T1.out).2, T2.out] at RD
  have RDH := Lib.hid RD
  clear RD T1 T2
  go_wp2_with fail
  refine RDH.out.mono ?_
  rintro e w5 ⟨rfl, m5, k5⟩
  obtain ⟨s1, s2, s3⟩ := box_put w5 ⟨1536, 0, [97], false, false, 1536 + (sizeN [97] : Nat)⟩
  have S6 := m5.keep s3 (fun _ _ f => f)
  have K6 := Lib.hid (K4.out.trans ((k5.trans (s3.mono fun _ _ f => f.elim)).toBelow w.heap.size K4.out.size fun i f => by have := PBD.out; rcases f.2 with rfl | rfl <;> omega))
  obtain ⟨c0, c1, c2, c3, c4, c5⟩ := s2.c
  have CH := Lib.hid (here_any S6)
  rw [T3.out] at CH
  have ST := Lib.hid s1
  clear s1 s2 s3 m5 k5 K4 RDH S6 T3
  generalize hW : (w5.alloc (.cells #[.int .i64 0, .int .i64 0, .string ⟨#[]⟩, .bool false, .bool false, .int .i64 0] 29)).setCells w5.heap.size 0 (hcs ⟨1536, 0, [97], false, false, 1536 + (sizeN [97] : Nat)⟩) = w6 at *
  clear hW
  go_wp2_with (first
    | ((with_reducible refine at_ (op := .store 29 (.tmp 4) (.tmp 31)) ?_); refine wpList_unit rfl (ex_store 29 (.tmp 4) (.tmp 31) rfl _ _ rfl rfl ST.out) ?_)
    | ((with_reducible refine at_ (op := .load 9 (.tmp 35)) ?_); refine wpList_val rfl _ (ex_load 9 (.tmp 35) rfl _ _ rfl (load_one (fun w => by kernel_rfl) c2)) ?_)
    | ((with_reducible refine at_ (op := .binOp .eql 9 (.tmp 36) (.const (.string ⟨#[97]⟩)) 9) ?_); refine wpList_val rfl _ (ex_eqlX (.tmp 36) (.const (.string ⟨#[97]⟩)) rfl [97] [97] rfl rfl) ?_)
    | fail)
  refine CH.out.mono ?_
  rintro e w7 ⟨rfl, m7, k7⟩
  have K7 := Lib.hid (K6.out.trans (k7.toBelow w.heap.size K6.out.size fun i f => by have := PBD.out; rcases f.2 with rfl | rfl <;> omega))
  clear m7 k7 K6 CH S4
  go_wp2_with fail
  refine (AL.out w7).mono ?_
  rintro e w8 ⟨rfl, rfl⟩
  go_wp2_with fail
  go_ret
  exact ⟨rfl, K7.out⟩
end Go.Proofs.Ythmlhjjcihibnaa.Hh
