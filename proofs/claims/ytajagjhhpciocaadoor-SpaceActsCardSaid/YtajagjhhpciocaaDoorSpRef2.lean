/-
  The document's map: the contracts of Used, Free and New.
-/
import Derived.Test.YtajagjhhpciocaaDoorSpRef
namespace Go.Proofs.YtajagjhhpciocaaDoor.Sp
open Go.RowKit

section
variable {w : World} {q bh ch : Nat} {cs : List Nat}
set_option maxHeartbeats 600000 in
theorem rused_at (h : RefAt w q bh ch cs) : Calls Tryd.prog 25 #[.pointer (some ⟨q, 0, none⟩)] w (GivesI w (usedOf cs cs.length)) := by
  have hl := h.len
  go_enter Tryd.func25, Tryd.ntmps25
  go_wp2_with fail
  go_loopw [4, 3] (fun i s wr => ∃ (k : Nat) (R : Option Addr) (cap : Nat), 2 ≤ k ∧ (k ≤ cs.length ∨ k = 2) ∧ i = .int .i64 (k : Int) ∧ s = .slice R (usedOf cs k).length cap ∧ OwnI wr w.heap.size R cap (usedOf cs k) ∧ Below w.heap.size w wr) (fun i _ _ => cs.length - (intOf i).toNat)
  case atStart => exact ⟨2, none, 0, by omega, Or.inr rfl, rfl, by rw [usedOf_two]; rfl, by rw [usedOf_two]; exact World.ownsRow_nil _ _ _ _, Below.refl _ _⟩
  case round =>
    obtain ⟨k, R, cap, h2, hk, rfl, rfl, own, bel⟩ := hrel
    have hr := h.keep (keeps_below bel) (fun h => h) (fun h => h)
    have c0 := hr.c
    by_cases hlt : k < cs.length
    · have hc := hr.row.cell hlt
      have hsu := usedOf_succ cs k
      have hle := usedOf_le cs k
      by_cases hz : cs.getD k 0 = 0
      · have hh : heldB cs k = false := by simp only [heldB, hz]; simp
        have hs : usedOf cs (k + 1) = usedOf cs k := by rw [hsu, hh]; simp
        have HS := Lib.hid hs
        rw [hz] at hc
        clear hsu hh hs hz hr
        go_wp2_with fail
        go_roundw
        case rel => exact ⟨k + 1, R, cap, by omega, by omega, by go_num, by rw [HS.out], by rw [HS.out]; exact own, bel⟩
        case measure => simp [intOf]; omega
      · have hh : heldB cs k = true := by simp only [heldB, hz]; simpa using h2
        have hs : usedOf cs (k + 1) = usedOf cs k ++ [k] := by rw [hsu, hh]; rfl
        have hpos : 0 < ((cs.getD k 0 : Nat) : Int) := by omega
        have ownA : OwnI (wr.alloc (.cells #[.int .i64 (k : Int)] 3)) w.heap.size R cap (usedOf cs k) := own.alloc _
        have belA : Below w.heap.size w (wr.alloc (.cells #[.int .i64 (k : Int)] 3)) := bel.alloc bel.size _
        obtain ⟨R', cap', w2, hap, own3, b3⟩ := ownA.app belA.size (by omega) k wr.heap.size (by rw [cell_of_row _ _ _ _ _ _ (heap_alloc_new wr _)]; rfl)
        rw [← hs] at own3
        have HL : Hid ((usedOf cs (k + 1)).length = (usedOf cs k).length + 1) := by show _ = _; rw [hs]; simp
        have HAP := Lib.hid hap
        have OWN := Lib.hid own3
        have BEL := Lib.hid (belA.trans b3)
        clear hsu hh hs hz hr own ownA bel belA hap own3 b3
        generalize usedOf cs k = l at *
        generalize cs.getD k 0 = x at *
        go_wp2_with (first | (at_builtin; refine wpList_append_run rfl _ _ 37 rfl _ HAP.out ?_) | fail)
        go_roundw
        case rel => exact ⟨k + 1, R', cap', by omega, by omega, by go_num, by rw [HL.out], OWN.out, BEL.out⟩
        case measure => simp [intOf]; omega
    · have e : usedOf cs k = usedOf cs cs.length := by
        rcases hk with h3 | h3
        · rw [show k = cs.length from by omega]
        · subst h3
          have h1 := usedOf_two cs
          have h4 : (usedOf cs cs.length).length = 0 := by have := nfree_used cs; omega
          rw [h1, List.eq_nil_of_length_eq_zero h4]
      rw [e] at own
      have E := Lib.hid e
      clear e hr
      go_wp2_with fail
      go_ret
      exact ⟨R, cap, by rw [E.out]; rfl, own.ir, bel⟩
/-- The document's map's own cell. -/
def HeadR (q bh ch n : Nat) (W : World) : Prop := W.heap[q]? = some (.cells #[.slice (some ⟨bh, 0, none⟩) n ch] 52 (0, 0))
theorem HeadR.c {q bh ch n : Nat} {W : World} (h : HeadR q bh ch n W) : W.cell? ⟨q, 0, none⟩ = some (.slice (some ⟨bh, 0, none⟩) n ch) := by rw [cell_of_row _ _ _ _ _ _ h]; rfl
def FreeR (w : World) (cs : List Nat) (e : Ending) (w' : World) : Prop := e = .returned (.int .i64 (nfree cs : Nat)) ∧ Below w.heap.size w w'
set_option maxRecDepth 100000 in
set_option maxHeartbeats 600000 in
theorem rfree_at (h : RefAt w q bh ch cs) : Calls Tryd.prog 26 #[.pointer (some ⟨q, 0, none⟩)] w (FreeR w cs) := by
  have hl := h.len
  have hnu := nfree_used cs
  obtain ⟨M, hM⟩ : ∃ M : Int, M = max ((cs.length : Int) - 2) 0 := ⟨_, rfl⟩
  go_enter Tryd.func26, Tryd.ntmps26
  go_wp2_with fail
  refine wp_region_held (S := HeadR q bh ch cs.length) (by kernel_rfl) ?_
  change wpAnyH _ _ _ _ _ _ _ _ w.drew
  have kd : Keeps (fun _ => False) w w.drew := Keeps.drew _ _
  have h1 := h.keep kd (fun h => h) (fun h => h)
  have KD := Lib.hid kd
  clear h kd
  generalize w.drew = w1 at *
  have hS : HeadR q bh ch cs.length w1 := h1.head
  refine wpAnyH_take (oi := ⟨_, _, _, _, _, _⟩) (i := 0) (v := .pointer (some ⟨q, 0, none⟩)) rfl (by kernel_rfl) (by kernel_rfl) (by kernel_rfl) (fun _ _ _ h => h) (Or.inl ⟨by rfl, fun _ _ => rfl⟩) hS ?_
  simp only [Act.put, List.setIfInBounds_toArray, List.set_cons_zero, List.set_cons_succ]
  refine wpAnyH_take (oi := ⟨_, _, _, _, _, _⟩) (i := 1) (v := .pointer (some ⟨q, 0, none⟩)) rfl (by kernel_rfl) (by kernel_rfl) (by kernel_rfl) (fun _ _ _ h => h) (Or.inl ⟨by rfl, fun _ _ => by go_simp⟩) hS ?_
  simp only [Act.put, List.setIfInBounds_toArray, List.set_cons_zero, List.set_cons_succ]
  refine wpAnyH_take (oi := ⟨_, _, _, _, _, _⟩) (i := 2) (v := .pointer (some ⟨q, 0, none⟩)) rfl (by kernel_rfl) (by kernel_rfl) (by kernel_rfl) (fun _ _ _ h => h) (Or.inl ⟨by rfl, fun _ _ => by go_simp⟩) hS ?_
  simp only [Act.put, List.setIfInBounds_toArray, List.set_cons_zero, List.set_cons_succ]
  refine wpAnyH_take (oi := ⟨_, _, _, _, _, _⟩) (i := 3) (v := .slice (some ⟨bh, 0, none⟩) cs.length ch) rfl (by kernel_rfl) (by kernel_rfl) (by kernel_rfl) (fun _ _ _ h => h) (yif_load rfl 37 (.tmp 5) rfl _ _ rfl fun w h => load_one aggI (HeadR.c h)) hS ?_
  simp only [Act.put, List.setIfInBounds_toArray, List.set_cons_zero, List.set_cons_succ]
  refine wpAnyH_take (oi := ⟨_, _, _, _, _, _⟩) (i := 4) (v := .int .i64 (cs.length : Int)) rfl (by kernel_rfl) (by kernel_rfl) (by kernel_rfl) (fun _ _ _ h => h) (Or.inl ⟨by rfl, fun _ _ => by go_simp⟩) hS ?_
  simp only [Act.put, List.setIfInBounds_toArray, List.set_cons_zero, List.set_cons_succ]
  have hw : IntKind.i64.wrap ((cs.length : Int) - 2) = (cs.length : Int) - 2 := IntWalk.i64_in _ (by omega)
  refine wpAnyH_take (oi := ⟨_, _, _, _, _, _⟩) (i := 5) (v := .int .i64 ((cs.length : Int) - 2)) rfl (by kernel_rfl) (by kernel_rfl) (by kernel_rfl) (fun _ _ _ h => h) (Or.inl ⟨by rfl, fun _ _ => by go_simp⟩) hS ?_
  simp only [Act.put, List.setIfInBounds_toArray, List.set_cons_zero, List.set_cons_succ]
  clear hw
  generalize hD : (cs.length : Int) - 2 = D at *
  have hMx : M = if D < 0 then 0 else D := by rw [hM]; split <;> omega
  refine wpAnyH_take (oi := ⟨_, _, _, _, _, _⟩) (i := 6) (v := .int .i64 M) rfl (by kernel_rfl) (by kernel_rfl) (by kernel_rfl) (fun _ _ _ h => h) (Or.inl ⟨by rfl, fun _ _ => by clear hM; by_cases hd : D < 0 <;> simp only [hd, if_true, if_false] at hMx <;> subst hMx <;> go_simp⟩) hS ?_
  simp only [Act.put, List.setIfInBounds_toArray, List.set_cons_zero, List.set_cons_succ]
  refine wpAnyH_take (oi := ⟨_, _, _, _, _, _⟩) (i := 7) (v := .pointer (some ⟨q, 0, none⟩)) rfl (by kernel_rfl) (by kernel_rfl) (by kernel_rfl) (fun _ _ _ h => h) (Or.inl ⟨by rfl, fun _ _ => rfl⟩) hS ?_
  simp only [Act.put, List.setIfInBounds_toArray, List.set_cons_zero, List.set_cons_succ]
  refine wpAnyH_all (rs := [8]) (by kernel_rfl) (by simp) fun i hi => ?_
  obtain rfl : i = 8 := by simpa using hi
  refine op_call (om := ⟨_, _, _, _, _, _⟩) (fn := 25) (args := #[.pointer (some ⟨q, 0, none⟩)]) (R := fun u w' => ∃ R c, u = .slice R (usedOf cs cs.length).length c ∧ Below w1.heap.size w1 w') rfl rfl (by go_simp)
    ((rused_at h1).mono fun e w' ⟨R, c, he, _, hb⟩ => ⟨_, he, R, c, rfl, hb⟩) _ _ rfl rfl ?_
  rintro u w2 ⟨R, c, rfl, hb⟩
  have hS2 : HeadR q bh ch cs.length w2 := (hb.block q h1.lt).trans hS
  refine ⟨hS2, ?_⟩
  have hfin : Below w.heap.size w w2 := (KD.out.trans (keeps_below hb)).toBelow _ (Nat.le_refl _) fun _ h => h.elim
  have HF := Lib.hid hfin
  have hle := usedOf_le cs cs.length
  have hfl : M - ((usedOf cs cs.length).length : Int) = ((nfree cs : Nat) : Int) := by omega
  have hw2 : IntKind.i64.wrap (M - ((usedOf cs cs.length).length : Int)) = ((nfree cs : Nat) : Int) := by rw [hfl]; exact IntWalk.i64_in _ (by omega)
  clear hi hfin hb h1 hS hfl hnu hM hMx KD hle
  generalize hF : nfree cs = F at *
  have HFQ := Lib.hid hF
  clear hF
  generalize (usedOf cs cs.length).length = U at *
  simp only [Act.put, List.setIfInBounds_toArray, List.set_cons_zero, List.set_cons_succ]
  refine wpAnyH_take (oi := ⟨_, _, _, _, _, _⟩) (i := 9) (v := .int .i64 (U : Int)) rfl (by kernel_rfl) (by kernel_rfl) (by kernel_rfl) (fun _ _ _ h => h) (Or.inl ⟨by rfl, fun _ _ => by go_simp⟩) hS2 ?_
  simp only [Act.put, List.setIfInBounds_toArray, List.set_cons_zero, List.set_cons_succ]
  refine wpAnyH_take (oi := ⟨_, _, _, _, _, _⟩) (i := 10) (v := .int .i64 (F : Int)) rfl (by kernel_rfl) (by kernel_rfl) (by kernel_rfl) (fun _ _ _ h => h) (Or.inl ⟨by rfl, fun _ _ => by go_simp⟩) hS2 ?_
  simp only [Act.put, List.setIfInBounds_toArray, List.set_cons_zero, List.set_cons_succ]
  refine wpAnyH_take (oi := ⟨_, _, _, _, _, _⟩) (i := 11) (v := .int .i64 (F : Int)) rfl (by kernel_rfl) (by kernel_rfl) (by kernel_rfl) (fun _ _ _ h => h) (Or.inl ⟨by rfl, fun _ _ => rfl⟩) hS2 ?_
  refine wpAnyH_done (by kernel_rfl) ?_ _
  simp only [Act.put, List.setIfInBounds_toArray, List.set_cons_zero, List.set_cons_succ]
  clear hw2
  go_wp2_with fail
  go_ret
  exact ⟨by rw [HFQ.out]; rfl, HF.out⟩
end

/-! ### New -/
def RNewM (w : World) (n : Nat) (e : Ending) (w' : World) : Prop := ∃ q, e = .returned (.pointer (some ⟨q, 0, none⟩)) ∧ RefS w' w.heap.size w'.heap.size q (List.replicate n 0) ∧ Below w.heap.size w w'
theorem rnew_of (w : World) (n : Nat) (hn : n ≤ 2000) : RNewM w n (.returned (.pointer (some ⟨w.heap.size + 1, 0, none⟩))) ((w.alloc (.cells (madeCells #[.int .i64 0] n) 3)).alloc (.cells #[.slice (some ⟨w.heap.size, 0, none⟩) n n] 52)) := by
  have b : Below w.heap.size w ((w.alloc (.cells (madeCells #[.int .i64 0] n) 3)).alloc (.cells #[.slice (some ⟨w.heap.size, 0, none⟩) n n] 52)) := ((Below.refl _ _).alloc (Nat.le_refl _) _).alloc (by simp) _
  refine ⟨_, rfl, ⟨w.heap.size, n, ⟨?_, by simpa using hn, (RowK.made .i64 w n 3).block (Below.heap_alloc _ _ _ (by simp)), by omega⟩, by omega, by simp, by omega, by simp; omega⟩, b⟩
  rw [List.length_replicate]
  exact heap_alloc2_new w _ _
set_option maxHeartbeats 400000 in
theorem rnew_in (i : Int) (n : Nat) (w : World) (hi : (if 2000 < (if i < 0 then 0 else i) then 2000 else (if i < 0 then 0 else i)) = (n : Int)) (hn : n ≤ 2000) : Calls Tryd.prog 9 #[.int .i64 i] w (RNewM w n) := by
  have hmk := make_int n (by omega) w
  have MK := Lib.hid hmk
  have HF := Lib.hid (rnew_of w n hn)
  clear hmk
  generalize madeCells #[.int .i64 0] n = C at *
  go_enter Tryd.func9, Tryd.ntmps9
  go_wp2_with ((with_reducible refine at_ (op := .makeSlice 37 (.tmp 5) (.tmp 5)) ?_); refine wpList_val rfl _ (ex_makeSlice 37 (.tmp 5) (.tmp 5) rfl _ _ _ rfl rfl MK.out) ?_)
  all_goals
    go_ret
    exact HF.out
theorem rnew_any (i : Int) (w : World) : Calls Tryd.prog 9 #[.int .i64 i] w (RNewM w (nS i)) := by
  refine rnew_in i _ w ?_ (by unfold nS; omega)
  unfold nS
  split <;> split at * <;> omega
end Go.Proofs.YtajagjhhpciocaaDoor.Sp
