/-
  WalkExtentBack
-/
import Derived.Test.YtjconllgghangaaDoorGA
import Derived.WalkKit
import Derived.ProofKit
import Derived.OpenShut
import Derived.Deep.DeepHandedRow
import Derived.Lib.LaidTab
import Derived.ChangeOld
import Derived.Below
import Derived.Deep.QuietTactic
import Derived.BigQuiet
import Derived.WalkSmall
import Derived.Test.YtjconllgghangaaDoorExCShrink
namespace Go.Proofs.YtjconllgghangaaDoor.extentBack
open Go.ChangeShapes Go.WideShapes Go.ChangeAt Go.RowKit Ex
set_option linter.unusedVariables false

set_option maxRecDepth 100000 in
set_option maxHeartbeats 1000000 in
theorem walk (A0 : Option Addr) (l0 : List EX) (c0 : Nat) (a1 : Int) (a2 : Int) (w : World) (o0 : XR w w.heap.size A0 l0) (m0 : l0.length ≤ 8796093022208) (w1 : (Lit.int .u32 a1).wf = true) (w2 : (Lit.int .i64 a2).wf = true) (hT : Tab w) :
    Calls Tryd.prog 7 #[.slice A0 l0.length c0, .int .u32 a1, .int .i64 a2] w fun e w' => e = .returned (.bool true) ∧ Below w.heap.size w w' := by
  have haw := awake_any w hT
  by_cases h1 : 100 < l0.length
  · clear o0 hT
    go_enter Tryd.func7, Tryd.ntmps7
    go_wp2_with fail
    refine haw.mono ?_
    rintro e w1 ⟨rfl, b1⟩
    go_wp2_with fail
    go_ret
    exact ⟨rfl, b1⟩
  have h2 : l0.length ≤ 100 := by omega
  have hu : 0 ≤ a1 ∧ a1 < 4294967296 := by have := u32_of_wf w1; omega
  obtain ⟨u, rfl⟩ : ∃ u : Nat, a1 = (u : Int) := ⟨a1.toNat, by omega⟩
  have hu' : u < 4294967296 := by omega
  have hn := (i64_of_wf w2).2
  have HAW := Lib.hid haw
  have HX := Lib.hid o0
  have HT := Lib.hid hT
  clear haw hT o0 h1 m0 w1 w2 hu
  by_cases hok : ok l0 = true
  · by_cases hneg : a2 < 0
    · have HOK := Lib.hid hok
      clear hok hn
      go_enter Tryd.func7, Tryd.ntmps7
      go_wp2_with fail
      refine HAW.out.mono ?_
      rintro e w1 ⟨rfl, b1⟩
      have hbl := rblocks_any A0 l0 c0 w1 ((HX.out.below b1).more b1.size) h2
      have HB := Lib.hid hbl
      have B1 := Lib.hid b1
      clear hbl b1 HAW
      go_wp2_with fail
      refine HB.out.mono ?_
      rintro e w2 ⟨R, cap, rfl, own2, b2⟩
      rw [HOK.out]
      have B2 := Lib.hid (B1.out.trans (b2.mono B1.out.size))
      clear own2 b2
      go_wp2_with fail
      go_ret
      exact ⟨rfl, B2.out⟩
    obtain ⟨N, rfl⟩ : ∃ N : Nat, a2 = (N : Int) := ⟨a2.toNat, by omega⟩
    have hgood := ok_good l0 hok
    rw [← blkO_yes hok] at hgood
    have hlen := hgood.len
    have hor := orI u (setN (blkO l0)) hu' hgood.lt
    have hv0 : u ||| setN (blkO l0) < 4294967296 := or_lt hu' hgood.lt
    have hfree := (freeL_good (u ||| setN (blkO l0))).len
    have hgv : (((freeL (u ||| setN (blkO l0))).length : Int) < (N : Int) ∧ growV l0 (u ||| setN (blkO l0)) (N : Int) = ([], 0, 50)) ∨
        ∃ X V, growV l0 (u ||| setN (blkO l0)) (N : Int) = (X, V, 0) ∧ N ≤ 23 ∧ V < 4294967296 ∧ X.length ≤ 23 ∧ (blkO X).length = (blkO l0).length + N ∧ shrinkV X V (((blkO l0).length : Nat) : Int) = (l0, u ||| setN (blkO l0), 0) := by
      by_cases hf : (((freeL (u ||| setN (blkO l0))).length : Int) < (N : Int))
      · exact .inl ⟨hf, by unfold growV; rw [if_neg (by rw [hok]; rintro (h | h); cases h; omega), if_pos hf]⟩
      · refine .inr ?_
        have hlt := growV_lt l0 (u ||| setN (blkO l0)) (N : Int) hv0
        rw [blkO_yes hok] at hf hlt ⊢
        obtain ⟨g1, g2, g3⟩ := grow_back l0 u (N : Int) hu' hok (by omega) (by omega)
        have he : (growV l0 (u ||| setN (blkL l0)) (N : Int)).2.2 = 0 := by
          unfold growV
          rw [if_neg (by rw [hok]; rintro (h | h); cases h; omega), if_neg hf]
        have hfr := (freeL_good (u ||| setN (blkL l0))).len
        generalize growV l0 (u ||| setN (blkL l0)) (N : Int) = m at *
        obtain ⟨X, V, z⟩ := m
        simp only at g1 g2 g3 he hlt
        subst he
        exact ⟨X, V, rfl, by omega, hlt, ok_len g1, by rw [blkO_yes g1]; omega, g3⟩
    have HOK := Lib.hid hok
    have HGD := Lib.hid hgood
    have HGV := Lib.hid hgv
    clear hok hneg hgood hgv hfree
    go_enter Tryd.func7, Tryd.ntmps7
    go_wp2_with fail
    refine HAW.out.mono ?_
    rintro e w1 ⟨rfl, b1⟩
    have hbl := rblocks_any A0 l0 c0 w1 ((HX.out.below b1).more b1.size) h2
    have HB := Lib.hid hbl
    have B1 := Lib.hid b1
    clear hbl b1 HAW
    go_wp2_with fail
    refine HB.out.mono ?_
    rintro e w2 ⟨R, cap, rfl, own2, b2⟩
    rw [HOK.out]
    have hse := rset_any R (blkO l0) cap w2 (IR.jr own2.ir) HGD.out
    have HSE := Lib.hid hse
    have B2 := Lib.hid (B1.out.trans (b2.mono B1.out.size))
    clear own2 b2 hse HGD HB B1
    generalize hvv : u ||| setN (blkO l0) = v at *
    clear hvv
    generalize setN (blkO l0) = s at *
    generalize (blkO l0).length = L at *
    go_wp2_with fail
    refine HSE.out.mono ?_
    rintro e w3 ⟨rfl, rfl⟩
    have hg := grow_any A0 l0 c0 v (N : Int) w3 ((HX.out.below B2.out).more B2.out.size) h2 hv0 hn (HT.out.below B2.out HT.out.pos)
    have HG := Lib.hid hg
    clear hg HT HSE
    rcases HGV.out with ⟨hf, hv⟩ | ⟨X, V, hv, hN23, hV, hX23, hbx, hsh⟩
    · rw [hv] at HG
      have hN0 : decide (0 < N) = true := by simp; omega
      clear hv HGV hf
      go_wp2_with fail
      refine HG.out.mono ?_
      rintro e w4 ⟨R4, c4, rfl, x4, b4⟩
      have B4 := Lib.hid (B2.out.trans (b4.mono B2.out.size))
      clear x4 b4
      go_wp2_with fail
      go_ret
      exact ⟨rfl, B4.out⟩
    · rw [hv] at HG
      have HSH := Lib.hid hsh
      have HBX := Lib.hid hbx
      clear hv HGV hsh hbx
      go_wp2_with fail
      refine HG.out.mono ?_
      rintro e w4 ⟨R4, c4, rfl, x4, b4⟩
      have hs := shrink_any R4 X c4 V (L : Int) w4 x4 (by omega) hV
      rw [HSH.out] at hs
      have HS := Lib.hid hs
      have B4 := Lib.hid (B2.out.trans (b4.mono B2.out.size))
      have X4 := Lib.hid x4
      clear x4 b4 hs HG
      go_wp2_with fail
      refine HS.out.mono ?_
      rintro e w5 ⟨R5, c5, rfl, x5, b5⟩
      have hB5 := B4.out.trans (b5.mono B4.out.size)
      have hsa := same_any R5 l0 c5 A0 c0 w5 x5 ((HX.out.below hB5).more hB5.size) (by omega)
      have HSA := Lib.hid hsa
      have B5 := Lib.hid hB5
      have X5 := Lib.hid ((X4.out.below b5).more b5.size)
      clear x5 b5 hB5 hsa HS X4
      go_wp2_with fail
      refine HSA.out.mono ?_
      rintro e w6 ⟨rfl, b6⟩
      have hto := total_any R4 X c4 w6 ((X5.out.below b6).more b6.size) (by omega)
      rw [HBX.out] at hto
      have HTO := Lib.hid hto
      have B6 := Lib.hid (B5.out.trans (b6.mono B5.out.size))
      clear hto b6 HSA X5
      have hsum : IntKind.i64.wrap ((L : Int) + (N : Int)) = ((L + N : Nat) : Int) := by rw [IntKind.wrap_i64]; omega
      generalize L + N = M at *
      go_wp2_with fail
      refine HTO.out.mono ?_
      rintro e w7 ⟨rfl, b7⟩
      have B7 := Lib.hid (B6.out.trans (b7.mono B6.out.size))
      clear b7
      go_wp2_with fail
      go_ret
      exact ⟨rfl, B7.out⟩
  · have hno : ok l0 = false := by simpa using hok
    have HNO := Lib.hid hno
    clear hok hno hn
    go_enter Tryd.func7, Tryd.ntmps7
    go_wp2_with fail
    refine HAW.out.mono ?_
    rintro e w1 ⟨rfl, b1⟩
    have hbl := rblocks_any A0 l0 c0 w1 ((HX.out.below b1).more b1.size) h2
    have HB := Lib.hid hbl
    have B1 := Lib.hid b1
    clear hbl b1 HAW
    go_wp2_with fail
    refine HB.out.mono ?_
    rintro e w2 ⟨R, cap, rfl, own2, b2⟩
    rw [HNO.out]
    have B2 := Lib.hid (B1.out.trans (b2.mono B1.out.size))
    clear own2 b2
    go_wp2_with fail
    go_ret
    exact ⟨rfl, B2.out⟩

end Go.Proofs.YtjconllgghangaaDoor.extentBack
