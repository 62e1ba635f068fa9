/-
  WalkShadowCosts
-/
import Derived.Test.YtacghpabjmnfiaaGreatDoorGA
import Derived.WalkKit
import Derived.ProofKit
import Derived.OpenShut
import Derived.Deep.DeepHandedRow
import Derived.Lib.LaidTab
import Derived.ChangeOld
import Derived.Below
import Derived.Deep.QuietTactic
import Derived.BigQuiet
import Derived.WalkSmall
import Derived.Test.YtacghpabjmnfiaaGreatDoorShAwake
import Derived.Test.YtacghpabjmnfiaaGreatDoorGShI
import Derived.Test.YtacghpabjmnfiaaGreatDoorGCc
import Derived.Test.YtacghpabjmnfiaaGreatDoorRdOfL
import Derived.Test.YtacghpabjmnfiaaGreatDoorCapIn
namespace Go.Proofs.YtacghpabjmnfiaaGreatDoor.shadowCosts
open Go.ChangeShapes Go.WideShapes Go.ChangeAt Go.RowKit Sp
set_option linter.unusedVariables false

set_option maxRecDepth 100000 in
set_option maxHeartbeats 1000000 in
theorem walk (A0 : Option Addr) (x0 : List UInt8) (c0 : Nat) (a1 : Int) (A2 : Option Addr) (l2 : List ChV) (c2 : Nat) (w : World) (b0 : BR w w.heap.size A0 x0) (l0 : x0.length ≤ 140737488351232) (q0 : x0.length ≤ c0) (w1 : (Lit.int .i64 a1).wf = true) (o2 : CR w w.heap.size A2 l2) (m2 : l2.length ≤ 4398046511104) (hT : Tab w) :
    Calls Tryz.prog 4 #[.slice A0 x0.length c0, .int .i64 a1, .slice A2 l2.length c2] w fun e w' => e = .returned (.bool true) ∧ Below w.heap.size w w' := by
  have ha1 := i64_of_wf w1
  go_enter Tryz.func4, Tryz.ntmps4
  go_wp2_with fail
  refine (shAwake_any _ hT).mono ?_
  rintro e w1 ⟨rfl, b1⟩
  have hc1 := (o2.below b1).more b1.size
  have hx1 := (b0.below b1).more b1.size
  go_wp2_with fail
  refine (few_any A0 x0.length c0 A2 l2 c2 w1 hc1 m2).mono ?_
  rintro e w2 ⟨⟨b, rfl⟩, b2⟩
  have hc2 := (hc1.below b2).more b2.size
  have hx2 := (hx1.below b2).more b2.size
  have bw2 := b1.trans (b2.mono b1.size)
  clear hc1 hx1 b1 b2
  cases b
  · go_wp2_with fail
    go_ret
    exact ⟨rfl, bw2⟩
  · go_wp2_with fail
    refine (of_long A0 x0 c0 w2 hx2 (by omega) q0).mono ?_
    rintro e w3 ⟨p, rfl, hd3, k3⟩
    have hD : (ofD (x0.take 128000)).Ok (nBytes (x0.take 128000).length) := ofD_ok _ (by simp; omega)
    have hQ0 : (ofD (x0.take 128000)).Q = [] := rfl
    have hdn : (ofD (x0.take 128000)).down = false := rfl
    have hx3 := k3.br hx2 fun _ _ _ h => h
    have hc3 : CR w3 w3.heap.size A2 l2 := (hc2.keep fun q hq => World.cell?_of_block (k3.block q.block hq (fun h => h))).more k3.size
    obtain ⟨lb, mb, n', iv, hda, _⟩ := hd3
    have hnn := hda.ok.n_eq
    have hcost := cost_at hda hdn a1 a1.toNat (E := errT (readT (ofD (x0.take 128000)) (ofD (x0.take 128000)).n a1)) (reachE_any hdn p lb mb n' iv a1 ha1.1 ha1.2) (fun h => by rw [← hnn]; exact top_ok h) A2 l2 c2 hc3 m2
    have bw3 := bw2.trans (k3.toBelow w.heap.size bw2.size (fun _ h => h.elim))
    have HD := Lib.hid (hD.n_eq)
    clear hc2 hx2 k3 hda hnn bw2
    go_wp2_with fail
    refine hcost.mono ?_
    rintro e w4 ⟨rfl, b4⟩
    have hx4 := (hx3.below b4).more b4.size
    have hc4 := (hc3.below b4).more b4.size
    have bw4 := bw3.trans (b4.mono bw3.size)
    clear hcost b4 bw3 hx3 hc3
    go_wp2_with fail
    refine (refOf_long A0 x0 c0 w4 hx4 (by omega) q0).mono ?_
    rintro e w5 ⟨q, v, G, rfl, hn5⟩
    have hr5 := hn5.rd hD rfl rfl rfl rfl fun i hi => by
      show fillR (x0.take 128000) (nBytes (x0.take 128000).length) i = sec (padded (x0.take 128000)) i
      unfold fillR
      rw [if_pos hi]
    have hc5 : CR w5 w5.heap.size A2 l2 := (hc4.keep fun q hq => World.cell?_of_block (hn5.kp.block q.block hq (fun h => h))).more hn5.kp.size
    have bw5 := bw4.trans (hn5.kp.toBelow w.heap.size bw4.size (fun _ h => h.elim))
    obtain ⟨n5, sv, wv, svs, ws, hr5⟩ := hr5
    have hn5' : n5 = (ofD (x0.take 128000)).n := by rw [HD.out]; have h1 := hr5.ok.len; have h2 := hD.len; omega
    subst hn5'
    have hrc := rcost_at hr5 hdn (by rw [hQ0]; exact Nat.zero_le _) a1 A2 l2 c2 hc5 m2
    clear hx4 hc4 hn5 hr5 hc5 bw4 HD hD hQ0
    generalize ofD (x0.take 128000) = D at *
    go_wp2_with fail
    refine hrc.mono ?_
    rintro e w6 ⟨b6, h6⟩
    have bw6 := bw5.trans (b6.mono bw5.size)
    have BW := Lib.hid bw6
    clear b6 hrc bw5 bw6
    rcases h6 with ⟨hb, rfl⟩ | ⟨hg, hn, rfl⟩ | ⟨hg, lv, pg, qq, L, hs, hL, rfl⟩
    · have e1 : costV D a1.toNat (errT (readT D D.n a1)) l2 = (0, 1) := costV_bad _ _ _ hb
      rw [e1]
      clear e1 hb
      go_wp2_with fail
      go_ret
      exact ⟨rfl, BW.out⟩
    · have e1 : costV D a1.toNat (errT (readT D D.n a1)) l2 = (0, 60) := by
        rw [hn]
        exact costV_err _ _ hg (by show (60 : Int) ≠ 0; omega)
      rw [e1]
      clear e1 hg hn
      go_wp2_with fail
      go_ret
      exact ⟨rfl, BW.out⟩
    · have e1 : costV D a1.toNat (errT (readT D D.n a1)) l2 = (((needs D a1.toNat l2 : Nat) : Int), 0) := by
        rw [hs]
        exact costV_ok _ _ hg
      have e2 := count_needs hs hg hL
      rw [e1, e2]
      clear e1 e2 hg hs hL
      generalize needs D a1.toNat l2 = N at *
      go_wp2_with fail
      go_ret
      exact ⟨rfl, BW.out⟩

end Go.Proofs.YtacghpabjmnfiaaGreatDoor.shadowCosts
