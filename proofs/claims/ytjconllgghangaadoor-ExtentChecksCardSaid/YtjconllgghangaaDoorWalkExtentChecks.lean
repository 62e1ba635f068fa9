/-
  WalkExtentChecks
-/
import Derived.Test.YtjconllgghangaaDoorGA
import Derived.WalkKit
import Derived.ProofKit
import Derived.OpenShut
import Derived.Deep.DeepHandedRow
import Derived.Lib.LaidTab
import Derived.ChangeOld
import Derived.Below
import Derived.Deep.QuietTactic
import Derived.BigQuiet
import Derived.WalkSmall
import Derived.Test.YtjconllgghangaaDoorExAwake
namespace Go.Proofs.YtjconllgghangaaDoor.extentChecks
open Go.ChangeShapes Go.WideShapes Go.ChangeAt Go.RowKit Ex
set_option linter.unusedVariables false

set_option maxRecDepth 100000 in
set_option maxHeartbeats 1000000 in
theorem walk (A0 : Option Addr) (l0 : List EX) (c0 : Nat) (w : World) (o0 : XR w w.heap.size A0 l0) (m0 : l0.length ≤ 8796093022208) (hT : Tab w) :
    Calls Tryd.prog 3 #[.slice A0 l0.length c0] w fun e w' => e = .returned (.bool true) ∧ Below w.heap.size w w' := by
  have haw := awake_any w hT
  by_cases h1 : 100 < l0.length
  · clear o0 hT
    go_enter Tryd.func3, Tryd.ntmps3
    go_wp2_with fail
    refine haw.mono ?_
    rintro e w1 ⟨rfl, b1⟩
    go_wp2_with fail
    go_ret
    exact ⟨rfl, b1⟩
  have h2 : l0.length ≤ 100 := by omega
  have HAW := Lib.hid haw
  have HX := Lib.hid o0
  clear haw hT o0 h1 m0
  go_enter Tryd.func3, Tryd.ntmps3
  go_wp2_with fail
  refine HAW.out.mono ?_
  rintro e w1 ⟨rfl, b1⟩
  have hbl := rblocks_any A0 l0 c0 w1 ((HX.out.below b1).more b1.size) h2
  have HB := Lib.hid hbl
  have B1 := Lib.hid b1
  clear hbl b1 HAW
  go_wp2_with fail
  refine HB.out.mono ?_
  rintro e w2 ⟨R, cap, rfl, _, b2⟩
  have hB2 := B1.out.trans (b2.mono B1.out.size)
  have hck := check_any A0 l0 c0 w2 ((HX.out.below hB2).more hB2.size) h2
  have HC := Lib.hid hck
  have B2 := Lib.hid hB2
  clear hck hB2 b2 B1 HB
  by_cases hok : ok l0 = true
  · rw [okE_yes hok] at HC
    rw [hok]
    clear hok
    go_wp2_with fail
    refine HC.out.mono ?_
    rintro e w3 ⟨rfl, b3⟩
    have B3 := Lib.hid (B2.out.trans (b3.mono B2.out.size))
    clear b3
    go_wp2_with fail
    go_ret
    exact ⟨rfl, B3.out⟩
  · have hno : ok l0 = false := by simpa using hok
    rw [okE_no hno] at HC
    rw [hno]
    clear hok hno
    go_wp2_with fail
    refine HC.out.mono ?_
    rintro e w3 ⟨rfl, b3⟩
    have B3 := Lib.hid (B2.out.trans (b3.mono B2.out.size))
    clear b3
    go_wp2_with fail
    go_ret
    exact ⟨rfl, B3.out⟩

end Go.Proofs.YtjconllgghangaaDoor.extentChecks
