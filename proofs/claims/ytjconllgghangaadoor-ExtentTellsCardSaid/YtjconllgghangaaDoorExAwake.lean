/-
  ExAwake
-/
import Derived.Test.YtjconllgghangaaDoorExRGrow
namespace Go.Proofs.YtjconllgghangaaDoor.Ex
open Go.RowKit

theorem ex1 : growV [] 0 2 = ([(9, 2)], 1536, 0) := by decide +kernel
theorem ex2 : growV [] 1024 2 = ([(9, 1), (11, 1)], 3584, 0) := by decide +kernel
theorem ex3 : (blkO [((9 : Int), (1 : Int)), (11, 1)]).length = 2 := by decide +kernel
set_option maxRecDepth 100000 in
set_option maxHeartbeats 600000 in
theorem awake_any (w : World) (hT : Tab w) : Calls Tryd.prog 8 #[] w (Gives w (.bool true)) := by
  have g1 := grow_any none [] 0 0 2 w XR.nil (by simp) (by decide) (by decide) hT
  rw [ex1] at g1
  have G1 := Lib.hid g1
  clear g1
  go_enter Tryd.func8, Tryd.ntmps8
  go_wp2_with fail
  refine G1.out.mono ?_
  rintro e w1 ⟨R, cap, rfl, xr, b1⟩
  have g2 := grow_any none [] 0 1024 2 w1 XR.nil (by simp) (by decide) (by decide) (hT.below b1 hT.pos)
  rw [ex2] at g2
  have G2 := Lib.hid g2
  have B1 := Lib.hid b1
  have X1 := Lib.hid xr
  clear g2 b1 xr G1
  go_wp2_with fail
  refine G2.out.mono ?_
  rintro e w2 ⟨R2, cap2, rfl, xr2, b2⟩
  obtain ⟨ad, hR, _, d0, d1, _⟩ := (X1.out.below b2).at_ (k := 0) (by decide)
  have ht := total_any R2 [((9 : Int), (1 : Int)), (11, 1)] cap2 w2 xr2 (by decide)
  rw [ex3] at ht
  subst hR
  have HT := Lib.hid ht
  have B2 := Lib.hid (B1.out.trans (b2.mono B1.out.size))
  clear ht b2 B1 X1 G2 xr2 hT
  change w2.cell? (ad.add (0 * 2)) = some (.int .i64 9) at d0
  change w2.cell? ⟨(ad.add (0 * 2)).block, (ad.add (0 * 2)).off + 1, none⟩ = some (.int .i64 2) at d1
  rw [Nat.zero_mul, Addr.add_zero'] at d0 d1
  go_wp2_with fail
  refine HT.out.mono ?_
  rintro e w3 ⟨rfl, b3⟩
  have B3 := Lib.hid (B2.out.trans (b3.mono B2.out.size))
  clear b3
  go_wp2_with fail
  go_ret
  exact ⟨rfl, B3.out⟩
end Go.Proofs.YtjconllgghangaaDoor.Ex
