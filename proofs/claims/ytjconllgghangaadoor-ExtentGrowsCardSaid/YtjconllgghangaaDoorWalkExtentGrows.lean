/-
  WalkExtentGrows
-/
import Derived.Test.YtjconllgghangaaDoorGA
import Derived.WalkKit
import Derived.ProofKit
import Derived.OpenShut
import Derived.Deep.DeepHandedRow
import Derived.Lib.LaidTab
import Derived.ChangeOld
import Derived.Below
import Derived.Deep.QuietTactic
import Derived.BigQuiet
import Derived.WalkSmall
import Derived.Test.YtjconllgghangaaDoorExAwake
namespace Go.Proofs.YtjconllgghangaaDoor.extentGrows
open Go.ChangeShapes Go.WideShapes Go.ChangeAt Go.RowKit Ex
set_option linter.unusedVariables false

set_option maxRecDepth 100000 in
set_option maxHeartbeats 1000000 in
theorem walk (A0 : Option Addr) (l0 : List EX) (c0 : Nat) (a1 : Int) (a2 : Int) (w : World) (o0 : XR w w.heap.size A0 l0) (m0 : l0.length ≤ 8796093022208) (w1 : (Lit.int .u32 a1).wf = true) (w2 : (Lit.int .i64 a2).wf = true) (hT : Tab w) :
    Calls Tryd.prog 5 #[.slice A0 l0.length c0, .int .u32 a1, .int .i64 a2] w fun e w' => e = .returned (.bool true) ∧ Below w.heap.size w w' := by
  have haw := awake_any w hT
  by_cases h1 : 100 < l0.length
  · clear o0 hT
    go_enter Tryd.func5, Tryd.ntmps5
    go_wp2_with fail
    refine haw.mono ?_
    rintro e w1 ⟨rfl, b1⟩
    go_wp2_with fail
    go_ret
    exact ⟨rfl, b1⟩
  have h2 : l0.length ≤ 100 := by omega
  have hu : 0 ≤ a1 ∧ a1 < 4294967296 := by have := u32_of_wf w1; omega
  obtain ⟨u, rfl⟩ : ∃ u : Nat, a1 = (u : Int) := ⟨a1.toNat, by omega⟩
  have hu' : u < 4294967296 := by omega
  have hn := (i64_of_wf w2).2
  have HAW := Lib.hid haw
  have HX := Lib.hid o0
  have HT := Lib.hid hT
  have hsp := grow_small l0 u a2 h2 hu'
  have HSP := Lib.hid hsp
  clear haw hT o0 h1 m0 w1 w2 hu hsp
  go_enter Tryd.func5, Tryd.ntmps5
  go_wp2_with fail
  refine HAW.out.mono ?_
  rintro e w1 ⟨rfl, b1⟩
  have hg := grow_any A0 l0 c0 u a2 w1 ((HX.out.below b1).more b1.size) h2 hu' hn (HT.out.below b1 HT.out.pos)
  have HG := Lib.hid hg
  have B1 := Lib.hid b1
  clear hg b1 HAW HT
  go_wp2_with fail
  refine HG.out.mono ?_
  rintro e w2 ⟨R, cap, rfl, x2, b2⟩
  have hB2 := B1.out.trans (b2.mono B1.out.size)
  have hr := rgrow_any A0 l0 c0 u a2 w2 ((HX.out.below hB2).more hB2.size) h2 hu'
  have HR := Lib.hid hr
  have B2 := Lib.hid hB2
  have X2 := Lib.hid x2
  clear hr hB2 b2 B1 HG x2
  go_wp2_with fail
  refine HR.out.mono ?_
  rintro e w3 ⟨R3, cap3, rfl, x3, b3⟩
  have hs := same_any R (growV l0 u a2).1 cap R3 cap3 w3 ((X2.out.below b3).more b3.size) x3 HSP.out.1
  have HS := Lib.hid hs
  have B3 := Lib.hid (B2.out.trans (b3.mono B2.out.size))
  have hv1 := HSP.out.2.1
  have hv2 := HSP.out.2.2
  clear hs b3 B2 HR x3 HSP
  generalize growV l0 u a2 = m at *
  obtain ⟨l, v, z⟩ := m
  simp only at hv1 hv2
  simp only
  go_wp2_with fail
  refine HS.out.mono ?_
  rintro e w4 ⟨rfl, b4⟩
  have B4 := Lib.hid (B3.out.trans (b4.mono B3.out.size))
  clear b4
  go_wp2_with fail
  go_ret
  exact ⟨rfl, B4.out⟩

end Go.Proofs.YtjconllgghangaaDoor.extentGrows
