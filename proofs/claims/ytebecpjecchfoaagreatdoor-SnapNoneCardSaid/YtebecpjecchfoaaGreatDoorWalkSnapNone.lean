/-
  WalkSnapNone
-/
import Derived.Test.YtebecpjecchfoaaGreatDoorGA
import Derived.WalkKit
import Derived.ProofKit
import Derived.OpenShut
import Derived.Deep.DeepHandedRow
import Derived.Lib.LaidTab
import Derived.ChangeOld
import Derived.Below
import Derived.Deep.QuietTactic
import Derived.BigQuiet
import Derived.WalkSmall
import Derived.Test.YtebecpjecchfoaaGreatDoorGSnF
import Derived.Test.YtebecpjecchfoaaGreatDoorGSnG
import Derived.Test.YtebecpjecchfoaaGreatDoorGSnE
import Derived.Test.YtebecpjecchfoaaGreatDoorGDo
import Derived.Test.YtebecpjecchfoaaGreatDoorGRm
namespace Go.Proofs.YtebecpjecchfoaaGreatDoor.snapNone
open Go.ChangeShapes Go.WideShapes Go.ChangeAt Go.RowKit Sp St
set_option linter.unusedVariables false

theorem boxSA (w : World) (a : SAct) : (Instr.box 36 (.agg (sacells a).toArray)).run Tryz.prog w = .ok (.pointer (some ⟨w.heap.size, 0, none⟩)) (w.alloc (.cells (sacells a).toArray 36)) := rfl
theorem zc84 : Tryz.zeroCells84 = z84.toArray := by kernel_rfl
theorem cell3 : Tryz.zeroCells84[3]? = some (.slice none 0 0) := by
  rw [zc84, z84_eq]
  generalize List.replicate 16384 zb = Z
  simp
theorem fits_small (n : Nat) (h : n < 8) : fitsE (fresh n) = 1 := by
  have ok := (Quiet.fresh n (by omega)).ok
  unfold fitsE
  rw [if_neg (by rw [(Quiet.fresh n (by omega)).up]; simp), ok.n_eq, if_pos h]
theorem few_sectors (i : Int) (h : i < 8) : nOf i < 8 := by
  unfold nOf
  omega

set_option maxRecDepth 100000 in
set_option maxHeartbeats 1000000 in
theorem walk (a0 : SAct) (a1 : Int) (A2 : Option Addr) (x2 : List UInt8) (c2 : Nat) (w : World) (o0 : a0.Ok w) (w1 : (Lit.int .i64 a1).wf = true) (b2 : BR w w.heap.size A2 x2) (l2 : x2.length ≤ 140737488351232) (q2 : x2.length ≤ c2) (hT : Tab w) :
    Calls Tryz.prog 9 #[.agg (sacells a0).toArray, .int .i64 a1, .slice A2 x2.length c2] w fun e w' => e = .returned (.bool true) ∧ Below w.heap.size w w' := by
  have hT2 : Sp.Tab (w.alloc (.cells (sacells a0).toArray 36)) := hT.keeps (Keeps.alloc (fun _ => False) _ _) (fun h => h)
  have ha1 := i64_of_wf w1
  have k0 : Keeps (fun _ => False) w (w.alloc (.cells (sacells a0).toArray 36)) := Keeps.alloc _ _ _
  have e0 := heap_alloc_new w (.cells (sacells a0).toArray 36)
  have l0 : w.heap.size < (w.alloc (.cells (sacells a0).toArray 36)).heap.size := by simp
  go_enter Tryz.func9, Tryz.ntmps9
  go_wp2_with (((with_reducible refine at_ (op := .box 36 (.tmp 0)) ?_); refine wpList_val rfl _ (ex_box 36 (.tmp 0) rfl _ _ rfl (boxSA _ _)) ?_))
  generalize w.alloc (.cells (sacells a0).toArray 36) = wa at *
  refine (awake_s _ hT2).mono ?_
  rintro e wb ⟨rfl, kb⟩
  have e1 := (kb.block _ l0 (fun h => h)).trans e0
  have l1 := Nat.lt_of_lt_of_le l0 kb.size
  have K1 := Lib.hid (k0.trans kb)
  clear k0 e0 l0 kb hT2
  by_cases hn : 5000 < x2.length
  · have hn' : decide ((5000 : Int) < (x2.length : Int)) = true := by simp; omega
    go_wp2_with fail
    go_ret
    exact ⟨rfl, K1.out.toBelow _ (Nat.le_refl _) (fun _ h => h.elim)⟩
  have hn' : decide ((5000 : Int) < (x2.length : Int)) = false := by simp; omega
  go_wp2_with fail
  have e2 : ((wb.alloc (.cells Tryz.zeroCells84 84)).alloc (.cells #[.pointer none, .pointer (some ⟨wb.heap.size, 0, none⟩)] 25)).heap[wb.heap.size]? = some (.cells Tryz.zeroCells84 84 (0, 0)) := by
    rw [Below.heap_alloc _ _ _ (by rw [World.size_alloc]; omega)]; exact heap_alloc_new _ _
  have e3 : ((wb.alloc (.cells Tryz.zeroCells84 84)).alloc (.cells #[.pointer none, .pointer (some ⟨wb.heap.size, 0, none⟩)] 25)).heap[wb.heap.size + 1]? = some (.cells #[.pointer none, .pointer (some ⟨wb.heap.size, 0, none⟩)] 25 (0, 0)) := blk_at_last _ _ _ (by rw [World.size_alloc])
  have k2 : Keeps (fun _ => False) wb ((wb.alloc (.cells Tryz.zeroCells84 84)).alloc (.cells #[.pointer none, .pointer (some ⟨wb.heap.size, 0, none⟩)] 25)) := (Keeps.alloc _ _ _).trans (Keeps.alloc _ _ _)
  have s2 : ((wb.alloc (.cells Tryz.zeroCells84 84)).alloc (.cells #[.pointer none, .pointer (some ⟨wb.heap.size, 0, none⟩)] 25)).heap.size = wb.heap.size + 2 := by rw [World.size_alloc, World.size_alloc]
  generalize hz : Tryz.zeroCells84 = zc at *
  generalize (wb.alloc (.cells zc 84)).alloc (.cells #[.pointer none, .pointer (some ⟨wb.heap.size, 0, none⟩)] 25) = wl at *
  have e1l := (k2.block _ l1 (fun h => h)).trans e1
  have cA1 : wl.cell? ⟨w.heap.size, 1, none⟩ = some (.int .i64 a0.pg) := by rw [cell_of_row _ _ _ _ _ _ e1l]; rfl
  have cA2 : wl.cell? ⟨w.heap.size, 2, none⟩ = some (.slice a0.A a0.xs.length a0.c) := by rw [cell_of_row _ _ _ _ _ _ e1l]; rfl
  have KL := Lib.hid (K1.out.trans k2)
  have hno : ∀ k : Nat, k < 2 → ∃ v, NoS wl v ∧ wl.cell? ⟨wb.heap.size + 1, k, none⟩ = some (.pointer v) := by
    intro k hk
    match k, hk with
    | 0, _ => exact ⟨none, .inl rfl, by rw [cell_of_row _ _ _ _ _ _ e3]; rfl⟩
    | 1, _ => exact ⟨some ⟨wb.heap.size, 0, none⟩, .inr ⟨_, rfl, by omega, by rw [cell_of_row _ _ _ _ _ _ e2, ← hz]; exact cell3⟩, by rw [cell_of_row _ _ _ _ _ _ e3]; rfl⟩
  have HNO := Lib.hid hno
  clear e1 l1 k2 s2 e2 e3 e1l hno K1 hz
  go_loopw [30] (fun i wr => ∃ k : Nat, k ≤ 2 ∧ i = .int .i64 (k : Int) ∧ wr = wl) (fun i _ => 2 - (RowKit.intOf i).toNat)
  case atStart => exact ⟨0, by omega, rfl, rfl⟩
  case round =>
    obtain ⟨k, hk, rfl, rfl⟩ := hrel
    by_cases hlt : k < 2
    · obtain ⟨v, hv, hc⟩ := HNO.out k hlt
      go_wp2_with fail
      refine (abort_no hv).mono ?_
      rintro e w' ⟨rfl, rfl⟩
      go_wp2_with fail
      refine (read_no hv _).mono ?_
      rintro e w' ⟨rfl, rfl⟩
      go_wp2_with fail
      refine (write_no hv _ _ _ _).mono ?_
      rintro e w' ⟨rfl, rfl⟩
      go_wp2_with fail
      refine (commit_no hv).mono ?_
      rintro e w' ⟨rfl, rfl⟩
      go_wp2_with fail
      refine (undo_no hv _).mono ?_
      rintro e w' ⟨rfl, rfl⟩
      go_wp2_with fail
      refine (Go.Proofs.YtebecpjecchfoaaGreatDoor.St.snaps_no hv).mono ?_
      rintro e w' ⟨rfl, rfl⟩
      go_wp2_with fail
      refine (free_no hv).mono ?_
      rintro e w' ⟨rfl, rfl⟩
      go_wp2_with fail
      refine (used_no hv).mono ?_
      rintro e w' ⟨rfl, rfl⟩
      go_wp2_with fail
      refine (down_no hv).mono ?_
      rintro e w' ⟨rfl, rfl⟩
      go_wp2_with fail
      go_roundw
      case rel => exact ⟨k + 1, by omega, by go_num, by trivial⟩
      case measure => simp [RowKit.intOf]; omega
    · obtain rfl : k = 2 := by omega
      clear HNO cA1 cA2
      go_wp2_with fail
      refine (format_nil _).mono ?_
      rintro e wf ⟨rfl, kf⟩
      have KF := Lib.hid (KL.out.trans kf)
      clear KL kf
      go_wp2_with fail
      refine (open_nil _).mono ?_
      rintro e wo ⟨rfl, ko⟩
      have KO := Lib.hid (KF.out.trans ko)
      clear KF ko
      have tail : ∀ wq : World, Keeps (fun _ => False) w wq → Calls Tryz.prog 43 #[.slice A2 x2.length c2] wq (Made wq (ofD x2)) := fun wq kq => of_any A2 x2 c2 wq ((b2.below (kq.toBelow _ (Nat.le_refl _) (fun _ h => h.elim))).more kq.size) (by omega) q2
      have TL := Lib.hid tail
      have hop : ∀ (wq : World) (dp : Nat) (w1 : World), Keeps (fun _ => False) w wq → Keeps (fun _ => False) wq w1 → Dk w1 (fun k => wq.heap.size ≤ k ∧ k < w1.heap.size) dp (ofD x2) → Calls Tryz.prog 19 #[.pointer (some ⟨dp, 0, none⟩)] w1 fun e w' => (∃ p E, e = .returned (.tuple #[.pointer p, .int .i64 E]) ∧ (p = none ↔ E ≠ 0)) ∧ Keeps (fun _ => False) w w' := by
        intro wq dp w1 kq k1 hD
        have ok := ofD_ok x2 (by omega)
        refine (open_any hD (fun b hb => hb.2) (by rw [ok.n_eq]; unfold nBytes; omega)).mono ?_
        rintro e w' (⟨q, S, Fd, rfl, _, _, _, k2, _⟩ | ⟨E, S, hx, rfl, k2⟩)
        · exact ⟨⟨_, _, rfl, by simp⟩, kover (kq.trans k1) k2 (fun x hx => by have := kq.size; omega)⟩
        · exact ⟨⟨_, _, rfl, by simpa using hx.1⟩, kover (kq.trans k1) k2 (fun x hx => by have := kq.size; omega)⟩
      have HOP := Lib.hid hop
      clear tail hop
      by_cases h8 : a1 < 8
      · go_wp2_with fail
        refine (Go.Proofs.YtebecpjecchfoaaGreatDoor.new_any a1 wo).mono ?_
        rintro e w3 ⟨dp, rfl, hD, k3⟩
        have hf1 := fits_small _ (few_sectors a1 h8)
        have hfm := Lib.hid (format_any (hD.mono fun k hk hf => (⟨hf, hk⟩ : wo.heap.size ≤ k ∧ k < w3.heap.size)) (fun b hb => hb.2) (by show (-1 : Int) < 0; decide) (Nat.zero_le _) (Nat.zero_le _))
        clear hD
        go_wp2_with fail
        refine hfm.out.mono ?_
        clear hfm
        rintro e w4 (⟨hf, _⟩ | ⟨hf, rfl, k4⟩)
        · rw [hf1] at hf; cases hf
        rw [hf1]
        have K4 := kover (KO.out.trans k3) k4 (fun x hx => by have := KO.out.size; omega)
        clear KO k3 k4 hf hf1
        go_wp2_with fail
        refine (TL.out _ K4).mono ?_
        rintro e w5 ⟨dp2, rfl, hD, k5⟩
        have ho := Lib.hid (HOP.out _ dp2 w5 K4 k5 (hD.mono fun k hk hf => ⟨hf, hk⟩))
        clear TL HOP hD k5 K4
        go_wp2_with fail
        refine ho.out.mono ?_
        rintro e w6 ⟨⟨P, E, rfl, hPE⟩, k6⟩
        have K6 := Lib.hid k6
        clear k6 ho
        by_cases hE : E = 0
        · subst hE
          obtain ⟨ad, rfl⟩ : ∃ ad, P = some ad := by
            cases P with
            | none => exact absurd rfl (hPE.1 rfl)
            | some ad => exact ⟨ad, rfl⟩
          clear hPE
          go_wp2_with fail
          go_ret
          exact ⟨rfl, K6.out.toBelow _ (Nat.le_refl _) (fun _ h => h.elim)⟩
        · obtain rfl : P = none := hPE.2 hE
          have hE1 : (E != 0) = true := by simpa using hE
          clear hPE
          go_wp2_with fail
          go_ret
          exact ⟨rfl, K6.out.toBelow _ (Nat.le_refl _) (fun _ h => h.elim)⟩
      · have K4 := KO.out
        clear KO
        go_wp2_with fail
        refine (TL.out _ K4).mono ?_
        rintro e w5 ⟨dp2, rfl, hD, k5⟩
        have ho := Lib.hid (HOP.out _ dp2 w5 K4 k5 (hD.mono fun k hk hf => ⟨hf, hk⟩))
        clear TL HOP hD k5 K4
        go_wp2_with fail
        refine ho.out.mono ?_
        rintro e w6 ⟨⟨P, E, rfl, hPE⟩, k6⟩
        have K6 := Lib.hid k6
        clear k6 ho
        by_cases hE : E = 0
        · subst hE
          obtain ⟨ad, rfl⟩ : ∃ ad, P = some ad := by
            cases P with
            | none => exact absurd rfl (hPE.1 rfl)
            | some ad => exact ⟨ad, rfl⟩
          clear hPE
          go_wp2_with fail
          go_ret
          exact ⟨rfl, K6.out.toBelow _ (Nat.le_refl _) (fun _ h => h.elim)⟩
        · obtain rfl : P = none := hPE.2 hE
          have hE1 : (E != 0) = true := by simpa using hE
          clear hPE
          go_wp2_with fail
          go_ret
          exact ⟨rfl, K6.out.toBelow _ (Nat.le_refl _) (fun _ h => h.elim)⟩

end Go.Proofs.YtebecpjecchfoaaGreatDoor.snapNone
