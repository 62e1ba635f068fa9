/-
  MmAwake
-/
import Derived.Test.YtdbphindnnchfaaMmCalls
import Derived.Test.YtdbphindnnchfaaMmFlat
namespace Go.Proofs.Ytdbphindnnchfaa.Mm
open Go.RowKit Go.Maps
set_option linter.unusedVariables false

theorem ex_wrap : (IntKind.u64.wrap (-1)).toNat = 18446744073709551615 := by rw [IntKind.wrap_u64]; decide
theorem ex_get (Z : List UInt8) (hz : Z.length = 8192) : cel (setM Z 768 (-1)) 768 = -1 := back_cel Z 768 (-1) (by omega) (by omega) (by omega) (by omega)
theorem ex_byte (Z : List UInt8) (hz : Z.length = 8192) : byteV (setM Z 768 (-1)) 775 = 255 := by
  unfold byteV
  rw [if_neg (by omega), byt_in _ _ (by omega), show ((775 : Int)).toNat = 775 from rfl]
  unfold setM
  rw [ex_wrap, putL_get' _ _ _ _ _ (by omega), if_pos (by omega)]
  decide
theorem below_false {w w' : World} (k : Keeps (fun _ => False) w w') : Below w.heap.size w w' := k.toBelow _ (Nat.le_refl _) fun _ h => h.elim

set_option maxRecDepth 100000 in
set_option maxHeartbeats 800000 in
theorem memawake_any (w : World) : Calls Try.prog 7 #[] w fun e w' => e = .returned (.bool true) ∧ Below w.heap.size w w' := by
  go_enter Try.func7, Try.ntmps7
  go_wp2_with fail
  refine (mflat_any none [] 0 w BR.nil).mono ?_
  rintro e w2 ⟨p, gb, mb, rfl, p1, p2, p3, hm, k2⟩
  have zl := fillL_len []
  generalize fillL [] = Z at *
  have K2 := Lib.hid k2
  have KT : Hid (∀ W, Keeps (fun k => k = p ∨ k = mb) w2 W → Below w.heap.size w W) := fun W k => by
    have := Keeps.thru (F'' := fun _ => False) K2.out k (fun _ _ h => h) fun i hi h => by omega
    exact below_false this
  clear k2
  go_wp2_with fail
  refine (mputcell_at hm 768 (-1) (by omega) (by omega)).mono ?_
  rintro e w3 ⟨rfl, h3, k3⟩
  rw [show pcT 768 = 0 by decide]
  rw [show pcM Z 768 (-1) = setM Z 768 (-1) by unfold pcM; rw [if_pos (by decide)]] at h3
  have K3 := Lib.hid k3
  clear k3 hm
  go_wp2_with fail
  refine (mbyte_at h3 775 (by omega) (by omega)).mono ?_
  rintro e w4 ⟨rfl, h4, k4⟩
  rw [ex_byte Z zl, show byteT 775 = 0 by decide]
  have K4 := Lib.hid (K3.out.trans k4)
  clear k4 h3 K3
  go_wp2_with fail
  refine (mputcell_at h4 769 1 (by omega) (by omega)).mono ?_
  rintro e w5 ⟨rfl, h5, k5⟩
  rw [show pcT 769 = -23 by decide]
  rw [show pcM (setM Z 768 (-1)) 769 1 = setM Z 768 (-1) by unfold pcM; rw [if_neg (by decide)]] at h5
  have K5 := Lib.hid (K4.out.trans k5)
  clear k5 h4 K4
  go_wp2_with fail
  refine (mputcell_at h5 0 1 (by omega) (by omega)).mono ?_
  rintro e w6 ⟨rfl, h6, k6⟩
  rw [show pcT 0 = -9 by decide]
  rw [show pcM (setM Z 768 (-1)) 0 1 = setM Z 768 (-1) by unfold pcM; rw [if_neg (by decide)]] at h6
  have K6 := Lib.hid (K5.out.trans k6)
  clear k6 h5 K5
  go_wp2_with fail
  refine (mget_at h6 768 (by omega) (by omega)).mono ?_
  rintro e w7 ⟨rfl, h7, k7⟩
  rw [ex_get Z zl]
  have K7 := Lib.hid (K6.out.trans k7)
  clear k7 h6 K6
  go_wp2_with fail
  refine (mbytes_at h7).mono ?_
  rintro e w8 ⟨g, rfl, g1, r8, h8, k8⟩
  have ML := Lib.hid h8.ml
  have BF := Lib.hid (KT.out _ (K7.out.trans (k8.mono fun _ _ h => Or.inr h)))
  rw [ML.out]
  clear k8 h7 K7 r8 h8
  go_wp2_with fail
  go_ret
  exact ⟨rfl, BF.out⟩
end Go.Proofs.Ytdbphindnnchfaa.Mm
