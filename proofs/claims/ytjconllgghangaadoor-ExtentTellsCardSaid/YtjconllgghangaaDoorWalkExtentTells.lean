/-
  WalkExtentTells
-/
import Derived.Test.YtjconllgghangaaDoorGA
import Derived.WalkKit
import Derived.ProofKit
import Derived.OpenShut
import Derived.Deep.DeepHandedRow
import Derived.Lib.LaidTab
import Derived.ChangeOld
import Derived.Below
import Derived.Deep.QuietTactic
import Derived.BigQuiet
import Derived.WalkSmall
import Derived.Test.YtjconllgghangaaDoorExBlk
namespace Go.Proofs.YtjconllgghangaaDoor.extentTells
open Go.ChangeShapes Go.WideShapes Go.ChangeAt Go.RowKit Ex
set_option linter.unusedVariables false

set_option maxRecDepth 100000 in
set_option maxHeartbeats 1000000 in
theorem walk (A0 : Option Addr) (l0 : List EX) (c0 : Nat) (a1 : Int) (w : World) (o0 : XR w w.heap.size A0 l0) (m0 : l0.length ≤ 8796093022208) (w1 : (Lit.int .i64 a1).wf = true) (hT : Tab w) :
    Calls Tryd.prog 4 #[.slice A0 l0.length c0, .int .i64 a1] w fun e w' => e = .returned (.bool true) ∧ Below w.heap.size w w' := by
  have haw := awake_any w hT
  by_cases h1 : 100 < l0.length
  · clear o0 hT
    go_enter Tryd.func4, Tryd.ntmps4
    go_wp2_with fail
    refine haw.mono ?_
    rintro e w1 ⟨rfl, b1⟩
    go_wp2_with fail
    go_ret
    exact ⟨rfl, b1⟩
  have h2 : l0.length ≤ 100 := by omega
  have HAW := Lib.hid haw
  have HX := Lib.hid o0
  have hgood := blkO_good l0
  have hlen := hgood.len
  have HGD := Lib.hid hgood
  clear haw hT o0 h1 m0 w1 hgood
  go_enter Tryd.func4, Tryd.ntmps4
  go_wp2_with fail
  refine HAW.out.mono ?_
  rintro e w1 ⟨rfl, b1⟩
  have hbl := rblocks_any A0 l0 c0 w1 ((HX.out.below b1).more b1.size) h2
  have HB := Lib.hid hbl
  have B1 := Lib.hid b1
  clear hbl b1 HAW
  go_wp2_with fail
  refine HB.out.mono ?_
  rintro e w2 ⟨R, cap, rfl, own2, b2⟩
  have hB2 := B1.out.trans (b2.mono B1.out.size)
  have hbk := block_any A0 l0 c0 a1 w2 ((HX.out.below hB2).more hB2.size) h2
  have HBK := Lib.hid hbk
  have B2 := Lib.hid hB2
  have OWN2 := Lib.hid own2
  clear hbk hB2 b2 B1 HB own2
  go_wp2_with fail
  refine HBK.out.mono ?_
  rintro e w3 ⟨rfl, b3⟩
  have hB3 := B2.out.trans (b3.mono B2.out.size)
  have hto := total_any A0 l0 c0 w3 ((HX.out.below hB3).more hB3.size) h2
  have HTO := Lib.hid hto
  have B3 := Lib.hid hB3
  have OWN3 := Lib.hid (OWN2.out.below b3)
  clear hto hB3 b3 B2 HBK OWN2
  go_wp2_with fail
  refine HTO.out.mono ?_
  rintro e w4 ⟨rfl, b4⟩
  have hB4 := B3.out.trans (b4.mono B3.out.size)
  have hbi := bits_any A0 l0 c0 w4 ((HX.out.below hB4).more hB4.size) h2
  have HBI := Lib.hid hbi
  have B4 := Lib.hid hB4
  have OWN4 := Lib.hid (OWN3.out.below b4)
  clear hbi hB4 b4 B3 HTO OWN3
  go_wp2_with fail
  refine HBI.out.mono ?_
  rintro e w5 ⟨rfl, b5⟩
  have B5 := Lib.hid (B4.out.trans (b5.mono B4.out.size))
  have own5 := OWN4.out.below b5
  have hse := rset_any R (blkO l0) cap w5 (IR.jr own5.ir) HGD.out
  have HSE := Lib.hid hse
  have OWN5 := Lib.hid own5
  clear hse b5 B4 HBI OWN4 own5
  by_cases hneg : a1 < 0
  · have hv : blockV l0 a1 = (0, 1) := by unfold blockV; rw [if_neg (by omega)]
    rw [hv]
    clear hv
    generalize (blkO l0).length = L at *
    generalize setN (blkO l0) = S at *
    go_wp2_with fail
    refine HSE.out.mono ?_
    rintro e w6 ⟨rfl, rfl⟩
    go_wp2_with fail
    go_ret
    exact ⟨rfl, B5.out⟩
  obtain ⟨K, rfl⟩ : ∃ K : Nat, a1 = (K : Int) := ⟨a1.toNat, by omega⟩
  by_cases hlt : K < (blkO l0).length
  · obtain ⟨g, hR, hg, hc⟩ := OWN5.out.ir.at_ hlt
    have hv : blockV l0 (K : Int) = ((((blkO l0)[K] : Nat) : Int), 0) := by
      unfold blockV
      rw [if_pos (by omega), Int.toNat_natCast, List.getD_eq_getElem?_getD, List.getElem?_eq_getElem hlt]
      rfl
    rw [hv]
    subst hR
    clear hv hneg OWN5 HGD
    generalize (blkO l0)[K] = b at *
    generalize setN (blkO l0) = S at *
    generalize (blkO l0).length = L at *
    go_wp2_with fail
    refine HSE.out.mono ?_
    rintro e w6 ⟨rfl, rfl⟩
    go_wp2_with fail
    go_ret
    exact ⟨rfl, B5.out⟩
  · have hv : blockV l0 (K : Int) = (0, 1) := by unfold blockV; rw [if_neg (by omega)]
    rw [hv]
    clear hv
    generalize (blkO l0).length = L at *
    generalize setN (blkO l0) = S at *
    go_wp2_with fail
    refine HSE.out.mono ?_
    rintro e w6 ⟨rfl, rfl⟩
    go_wp2_with fail
    go_ret
    exact ⟨rfl, B5.out⟩

end Go.Proofs.YtjconllgghangaaDoor.extentTells
