/-
  Merged by wip/tools/merge.py: SnChg SnHeld SnMany SnRoom SnBuild SnCommit SnIdle SnAwake
-/
import Derived.Test.YtebecpjecchfoaaGreatDoorGSnD
import Derived.Test.YtebecpjecchfoaaGreatDoorGShM
import Derived.Test.YtebecpjecchfoaaGreatDoorGMm
import Derived.Test.YtebecpjecchfoaaGreatDoorGT
import Derived.Test.YtebecpjecchfoaaGreatDoorGSnA
import Derived.Test.YtebecpjecchfoaaGreatDoorGSp
import Derived.Test.YtebecpjecchfoaaGreatDoorGShC
import Derived.Test.YtebecpjecchfoaaGreatDoorWkErr
import Derived.Test.YtebecpjecchfoaaGreatDoorGSnE
import Derived.Test.YtebecpjecchfoaaGreatDoorGDk
namespace Go.Proofs.YtebecpjecchfoaaGreatDoor.St
set_option linter.unusedSimpArgs false
set_option linter.unusedVariables false
open Go.RowKit Go.Maps

theorem neqC (w : World) (xs ys : List UInt8) (hx : xs.length = 64) (hy : ys.length = 64) : (binOp .neq 78 (ag xs) (ag ys)).run Tryz.prog w = .ok (.bool (!decide (xs = ys))) w := by
  have h := run_neq_ints (P := Tryz.prog) w 78 5 64 .u8 Tryz.underlying78 Tryz.underlying5 Mm.sizeU (xs.map fun u => (u.toNat : Int)) (ys.map fun u => (u.toNat : Int)) (by simp [hx]) (by simp [hy])
  rw [List.map_map, List.map_map] at h
  have e : decide ((xs.map fun u => (u.toNat : Int)) = ys.map (fun u => (u.toNat : Int))) = decide (xs = ys) := by
    rw [decide_eq_decide]; exact Mm.toNat_map_inj
  rw [e] at h
  exact h
theorem allocC' (w : World) : (Instr.alloc 78 true (.tuple #[])).run Tryz.prog w = .ok (.pointer (some ⟨w.heap.size, 0, none⟩)) (w.alloc (.cells (zs64.map B8).toArray 78)) := by kernel_rfl
theorem guardC : Tryz.prog.eqGuardType Tryz.prog.depth 78 = false := by kernel_rfl
/-- The n-th page. -/
def pg (M : List UInt8) (n : Nat) : List UInt8 := (M.drop (n * 64)).take 64
theorem pg_len {M : List UInt8} (h : M.length = 8192) {n : Nat} (hn : n < 128) : (pg M n).length = 64 := by unfold pg; rw [List.length_take, List.length_drop, h]; omega
theorem ex64 (l : List Value) (o : Nat) : l.toArray.extract o (o + 64) = ((l.drop o).take 64).toArray := by
  simp [List.extract_eq_take_drop]
theorem idxM (w : World) {M : List UInt8} (h : M.length = 8192) {n : Nat} (hn : n < 128) : (Instr.index 80 (ag M) (.int .i64 (n : Int))).run Tryz.prog w = .ok (ag (pg M n)) w := by
  have hsz : (sizeOf 78).run Tryz.prog w = .ok 64 w := by kernel_rfl
  have hag : (isAgg 78).run Tryz.prog w = .ok true w := by unfold isAgg; rw [Sem.run_bind, run_underlying Tryz.underlying78 w]; rfl
  have hp : (part 78 (M.map B8).toArray (n * 64)).run Tryz.prog w = .ok (ag (pg M n)) w := by
    unfold part
    simp only [Sem.run_bind, hag, Result.andThen_ok, if_true, hsz, Sem.run_pure]
    rw [ex64]
    show Result.ok (Value.agg ((M.map B8).drop (n * 64) |>.take 64).toArray) w = .ok (.agg ((pg M n).map B8).toArray) w
    unfold pg
    rw [List.map_take, List.map_drop]
  unfold Instr.index
  simp only [asIntOf, Sem.run_bind, Sem.run_pure, Result.andThen_ok, run_underlying Tryz.underlying80, ag]
  rw [if_pos ⟨by omega, by omega⟩]
  simp only [Sem.run_bind, hsz, Result.andThen_ok]
  rw [Int.toNat_natCast]
  exact hp
/-- The pages up to k that are others now. -/
def chgTo (S : SSt) (k : Nat) : List (Int × List UInt8) := ((List.range k).filter fun n => pg S.live n ≠ pg S.saved n).map fun (n : Nat) => ((n : Int), pg S.live n)
theorem chgTo_yes {S : SSt} {k : Nat} (h : pg S.live k ≠ pg S.saved k) : chgTo S (k + 1) = chgTo S k ++ [((k : Int), pg S.live k)] := by
  unfold chgTo; rw [List.range_succ, List.filter_append]; simp [h]
theorem chgTo_no {S : SSt} {k : Nat} (h : pg S.live k = pg S.saved k) : chgTo S (k + 1) = chgTo S k := by
  unfold chgTo; rw [List.range_succ, List.filter_append]; simp [h]
theorem chgTo_len (S : SSt) (k : Nat) : (chgTo S k).length ≤ k := by
  unfold chgTo
  rw [List.length_map]
  exact Nat.le_trans (List.length_filter_le _ _) (by simp)
/-- What changes gives. -/
def ChgOut (w : World) (S : SSt) (e : Ending) (w' : World) : Prop := ∃ R c L, e = .returned (.slice R L.length c) ∧ CR w' w'.heap.size R L ∧ L.map prC = chgTo S 128 ∧ Keeps (fun _ => False) w w'
section
variable {w : World} {Fd : Nat → Prop} {t : TypeId} {tail : List Value} {p dp : Nat} {S : SSt} {D : DSt}
set_option maxRecDepth 100000 in
set_option maxHeartbeats 1600000 in
theorem changes_at (h : SnAt w Fd t tail p dp S D) : Calls Tryz.prog 143 #[.pointer (some ⟨p, 0, none⟩)] w (ChgOut w S) := by
  have hbs : ∀ w : World, (Instr.buildSlice 134 0 #[]).run Tryz.prog w = .ok (.slice (some ⟨w.heap.size, 0, none⟩) 0 0) (w.alloc (.cells #[] 194)) := fun w => by kernel_rfl
  have k1 : Keeps (fun _ => False) w (w.alloc (.cells #[] 194)) := Keeps.alloc _ _ _
  have h1 := h.new k1
  have hll := h.ok.live
  have hsl := h.ok.saved
  have o1 : ChRow (w.alloc (.cells #[] 194)) w.heap.size (some ⟨w.heap.size, 0, none⟩) 0 [] := ⟨World.ownsRow_lit w #[] 0 (Nat.le_refl _) (by unfold maxLen; omega) rfl, (fun a ha => by cases ha), (fun a ha => by cases ha)⟩
  have s1 : (w.alloc (.cells #[] 194)).heap.size = w.heap.size + 1 := by simp
  have LM := Lib.hid (loadM (w := w.alloc (.cells #[] 194)) (b := p) (o := 8196) hll (by
    have := h1.liveR 0 8192 (by omega)
    rwa [List.drop_zero, List.take_of_length_le (by omega)] at this))
  go_enter Tryz.func143, Tryz.ntmps143
  go_wp2_with (((with_reducible refine here (op := .load 80 (.tmp 9)) ?_); refine wpList_load_run rfl 80 _ rfl _ _ rfl LM.out ?_))
  generalize (w.alloc (.cells #[] 194)) = w1 at *
  have IX := fun w n hn => Lib.hid (idxM w hll (n := n) hn)
  have hag : ag S.live = ag S.live := rfl
  generalize ag S.live = LV at *
  go_loopw [3, 11] (fun sl i wr => ∃ (k : Nat) (R : Option Addr) (cap : Nat) (L : List ChV), k ≤ 128 ∧ i = .int .i64 (k : Int) ∧ sl = .slice R L.length cap ∧ L.map prC = chgTo S k ∧ ChRow wr w.heap.size R cap L ∧ Keeps (fun _ => False) w wr) (fun _ i _ => 128 - (RowKit.intOf i).toNat)
  case atStart => exact ⟨0, _, 0, [], by omega, rfl, rfl, by simp [chgTo], o1, k1⟩
  case round =>
    clear o1
    obtain ⟨k, R, cap, L, hk, rfl, rfl, hL, oL, kL⟩ := hrel
    have sL := kL.size
    have hLl : L.length ≤ 128 := by
      have := chgTo_len S k
      rw [← hL, List.length_map] at this
      omega
    by_cases hlt : k < 128
    · have hx := pg_len hll hlt
      have hy := pg_len hsl hlt
      have IXk := IX wr k hlt
      obtain ⟨e2, k2⟩ := setCells_block (w := wr.alloc (.cells (zs64.map B8).toArray 78)) (ys := pg S.live k) 0 (heap_alloc_new wr _) (by rw [zs64_len]; omega)
      rw [splice_all _ _ (by rw [zs64_len, hx])] at e2
      have ST := Lib.hid (storeC (w := wr.alloc (.cells (zs64.map B8).toArray 78)) (b := wr.heap.size) (o := 0) hx (there_block (heap_alloc_new wr _) 0 64 (by rw [zs64_len]; omega)))
      have ka : Keeps (fun _ => False) wr ((wr.alloc (.cells (zs64.map B8).toArray 78)).setCells wr.heap.size 0 ((pg S.live k).map B8)) := ⟨k2.os, k2.tape, k2.output, Nat.le_trans (by simp) k2.size, fun b hb _ => (k2.block b (by simp; omega) (by omega)).trans (Below.heap_alloc wr _ b hb)⟩
      have s2 : wr.heap.size < ((wr.alloc (.cells (zs64.map B8).toArray 78)).setCells wr.heap.size 0 ((pg S.live k).map B8)).heap.size := (Array.getElem?_eq_some_iff.1 e2).1
      have kw2 := kL.trans ka
      have h2 := h.new kw2
      have o2 := oL.keeps ka (fun _ _ _ h => h)
      clear k2
      go_wp2_with (first
        | ((with_reducible refine at_ (op := .index 80 (.tmp 10) (.tmp 11)) ?_); refine wpList_val rfl _ (ex_index 80 (.tmp 10) (.tmp 11) rfl _ _ _ rfl rfl IXk.out) ?_)
        | ((with_reducible refine here (op := .alloc 78) ?_); refine wpList_alloc_run rfl 78 rfl _ (allocC' _) ?_)
        | ((with_reducible refine here (op := .store 78 (.tmp 5) (.tmp 14)) ?_); refine wpList_store_run rfl 78 _ _ rfl _ _ rfl rfl ST.out ?_))
      have r1 : ((wr.alloc (.cells (zs64.map B8).toArray 78)).setCells wr.heap.size 0 ((pg S.live k).map B8)).drew.rangeAt wr.heap.size 0 ((pg S.live k).map B8) := by
        have := range_block (w := ((wr.alloc (.cells (zs64.map B8).toArray 78)).setCells wr.heap.size 0 ((pg S.live k).map B8))) e2 0 64
        rwa [List.drop_zero, List.take_of_length_le (by omega)] at this
      have r2 : ((wr.alloc (.cells (zs64.map B8).toArray 78)).setCells wr.heap.size 0 ((pg S.live k).map B8)).drew.rangeAt p (4 + k * 64) ((pg S.saved k).map B8) := h2.savedR (k * 64) 64 (by omega)
      have kd := kw2.trans (Keeps.drew (fun _ => False) ((wr.alloc (.cells (zs64.map B8).toArray 78)).setCells wr.heap.size 0 ((pg S.live k).map B8)))
      have hd := h.new kd
      have od := o2.keeps (Keeps.drew (fun _ => False) ((wr.alloc (.cells (zs64.map B8).toArray 78)).setCells wr.heap.size 0 ((pg S.live k).map B8))) (fun _ _ _ h => h)
      have e3 : ((wr.alloc (.cells (zs64.map B8).toArray 78)).setCells wr.heap.size 0 ((pg S.live k).map B8)).drew.heap[wr.heap.size]? = some (.cells ((pg S.live k).map B8).toArray 78 (0, 0)) := e2
      refine wp_region_held (S := fun W => W.rangeAt wr.heap.size 0 ((pg S.live k).map B8) ∧ W.rangeAt p (4 + k * 64) ((pg S.saved k).map B8)) (by kernel_rfl) ?_
      change wpAnyH _ _ _ _ _ _ _ _ ((wr.alloc (.cells (zs64.map B8).toArray 78)).setCells wr.heap.size 0 ((pg S.live k).map B8)).drew
      have hS : ((wr.alloc (.cells (zs64.map B8).toArray 78)).setCells wr.heap.size 0 ((pg S.live k).map B8)).drew.rangeAt wr.heap.size 0 ((pg S.live k).map B8) ∧ ((wr.alloc (.cells (zs64.map B8).toArray 78)).setCells wr.heap.size 0 ((pg S.live k).map B8)).drew.rangeAt p (4 + k * 64) ((pg S.saved k).map B8) := ⟨r1, r2⟩
      have s3 : wr.heap.size < ((wr.alloc (.cells (zs64.map B8).toArray 78)).setCells wr.heap.size 0 ((pg S.live k).map B8)).drew.heap.size := s2
      have hRb : ∀ g, R = some g → g.block < wr.heap.size := fun g e => (own_block oL.own g e).2.1
      clear e2 ST ka s2 kw2 h2 o2 r1 r2 oL kL
      generalize ((wr.alloc (.cells (zs64.map B8).toArray 78)).setCells wr.heap.size 0 ((pg S.live k).map B8)).drew = w4 at *
--@chg1
      refine wpAnyH_take (oi := ⟨_, _, _, _, _, _⟩) (i := 0) (v := ag (pg S.live k)) rfl (by kernel_rfl) (by kernel_rfl) (by kernel_rfl) (fun _ _ _ h => h) (yif_load rfl 78 (.tmp 5) rfl _ _ rfl fun w h => loadC hx h.1) hS ?_
      try simp only [Act.put, List.setIfInBounds_toArray, List.set_cons_zero, List.set_cons_succ]
      refine wpAnyH_take (oi := ⟨_, _, _, _, _, _⟩) (i := 1) (v := .pointer (some ⟨p, 0, none⟩)) rfl (by kernel_rfl) (by kernel_rfl) (by kernel_rfl) (fun _ _ _ h => h) (Or.inl ⟨by rfl, fun _ _ => rfl⟩) hS ?_
      try simp only [Act.put, List.setIfInBounds_toArray, List.set_cons_zero, List.set_cons_succ]
      refine wpAnyH_take (oi := ⟨_, _, _, _, _, _⟩) (i := 2) (v := .int .i64 (k : Int)) rfl (by kernel_rfl) (by kernel_rfl) (by kernel_rfl) (fun _ _ _ h => h) (Or.inl ⟨by rfl, fun _ _ => rfl⟩) hS ?_
      try simp only [Act.put, List.setIfInBounds_toArray, List.set_cons_zero, List.set_cons_succ]
      refine wpAnyH_take (oi := ⟨_, _, _, _, _, _⟩) (i := 3) (v := .pointer (some ⟨p, 0, none⟩)) rfl (by kernel_rfl) (by kernel_rfl) (by kernel_rfl) (fun _ _ _ h => h) (Or.inl ⟨by rfl, fun _ _ => by go_simp⟩) hS ?_
      try simp only [Act.put, List.setIfInBounds_toArray, List.set_cons_zero, List.set_cons_succ]
      refine wpAnyH_take (oi := ⟨_, _, _, _, _, _⟩) (i := 4) (v := .pointer (some ⟨p, 4, none⟩)) rfl (by kernel_rfl) (by kernel_rfl) (by kernel_rfl) (fun _ _ _ h => h) (Or.inl ⟨by rfl, fun _ _ => by go_simp⟩) hS ?_
      try simp only [Act.put, List.setIfInBounds_toArray, List.set_cons_zero, List.set_cons_succ]
      refine wpAnyH_take (oi := ⟨_, _, _, _, _, _⟩) (i := 5) (v := .pointer (some ⟨p, 4 + k * 64, none⟩)) rfl (by kernel_rfl) (by kernel_rfl) (by kernel_rfl) (fun _ _ _ h => h) (Or.inl ⟨by rfl, fun _ _ => by go_simp⟩) hS ?_
      try simp only [Act.put, List.setIfInBounds_toArray, List.set_cons_zero, List.set_cons_succ]
      refine wpAnyH_take (oi := ⟨_, _, _, _, _, _⟩) (i := 6) (v := ag (pg S.saved k)) rfl (by kernel_rfl) (by kernel_rfl) (by kernel_rfl) (fun _ _ _ h => h) (yif_load rfl 78 (.tmp 20) rfl _ _ rfl fun w h => loadC hy h.2) hS ?_
      try simp only [Act.put, List.setIfInBounds_toArray, List.set_cons_zero, List.set_cons_succ]
      refine wpAnyH_take (oi := ⟨_, _, _, _, _, _⟩) (i := 7) (v := .bool (!decide (pg S.live k = pg S.saved k))) rfl (by kernel_rfl) (by kernel_rfl) (by kernel_rfl) (fun _ _ _ h => h) (Or.inl ⟨by rfl, fun _ _ => ex_bin_agg .neq 78 78 (.tmp 15) (.tmp 21) rfl ((pg S.live k).map B8).toArray ((pg S.saved k).map B8).toArray _ rfl rfl guardC (neqC _ _ _ hx hy)⟩) hS ?_
      try simp only [Act.put, List.setIfInBounds_toArray, List.set_cons_zero, List.set_cons_succ]
      refine wpAnyH_done (by kernel_rfl) ?_ _
      try simp only [Act.put, List.setIfInBounds_toArray, List.set_cons_zero, List.set_cons_succ]
--@@
      by_cases hne : pg S.live k = pg S.saved k
      · have HN := Lib.hid (chgTo_no hne)
        have hdec : (!decide (pg S.live k = pg S.saved k)) = false := by simp [hne]
        rw [hdec]
        clear hdec hne
        go_wp2_with fail
        go_roundw
        case rel => exact ⟨k + 1, R, cap, L, by omega, by go_num, rfl, by rw [HN.out]; exact hL, od, kd⟩
        case measure => simp [RowKit.intOf]; omega
      · have HN := Lib.hid (chgTo_yes hne)
        have hdec : (!decide (pg S.live k = pg S.saved k)) = true := by simp [hne]
        rw [hdec]
        clear hdec hne
        have kA : Keeps (fun _ => False) w4 (w4.alloc (.cells #[.int .i64 (k : Int), .slice (some ⟨wr.heap.size, 0, none⟩) 64 64] 194)) := Keeps.alloc _ _ _
        have eA := heap_alloc_new w4 (.cells #[.int .i64 (k : Int), .slice (some ⟨wr.heap.size, 0, none⟩) 64 64] 194)
        have o5 := od.keeps kA (fun _ _ _ h => h)
        have e5 := (kA.block wr.heap.size s3 (fun h => h)).trans e3
        have hbr := br_block e5 0 64
        rw [List.drop_zero, List.take_of_length_le (by omega)] at hbr
        have s5 : (w4.alloc (.cells #[.int .i64 (k : Int), .slice (some ⟨wr.heap.size, 0, none⟩) 64 64] 194)).heap.size = w4.heap.size + 1 := by simp
        have hsz5 : w.heap.size ≤ (w4.alloc (.cells #[.int .i64 (k : Int), .slice (some ⟨wr.heap.size, 0, none⟩) 64 64] 194)).heap.size := by omega
        obtain ⟨R', cap', w6, hap, o6, b6, _, _⟩ := o5.app hsz5 (by omega) ⟨(k : Int), some ⟨wr.heap.size, 0, none⟩, pg S.live k, 64⟩ ⟨hbr, by show -9223372036854775808 ≤ (k : Int); omega, by show (k : Int) ≤ 9223372036854775807; omega, by show (pg S.live k).length ≤ 64; omega⟩
          (fun ad e => by cases e; exact ⟨sL, by rw [s5]; show wr.heap.size < _; omega, fun g hg e => by have := hRb g hg; have e : wr.heap.size = g.block := e; omega⟩) ⟨w4.heap.size, 0, none⟩ 1 134
          (by show World.cell? _ ⟨w4.heap.size, 0, none⟩ = _; rw [cell_of_row _ _ _ _ _ _ eA]; rfl) (by show World.cell? _ ⟨w4.heap.size, 1, none⟩ = _; rw [cell_of_row _ _ _ _ _ _ eA]; show _ = some (Value.slice _ (pg S.live k).length 64); rw [hx]; rfl)
        have HAP := Lib.hid hap
        have hfin : Keeps (fun _ => False) w w6 := (kd.trans kA).toBelow w.heap.size (Nat.le_refl _) (fun _ h => h.elim) |>.trans b6 |> keeps_below
        have HO := Lib.hid o6
        have HK := Lib.hid hfin
        clear kA eA o5 e5 hbr hap o6 b6 hfin od e3 hd hRb hS
        go_wp2_with (first | (at_builtin; refine wpList_append_run rfl _ _ 134 rfl _ HAP.out ?_) | fail)
        go_roundw
        case rel => exact ⟨k + 1, R', cap', L ++ [⟨(k : Int), some ⟨wr.heap.size, 0, none⟩, pg S.live k, 64⟩], by omega, by go_num, by simp, by rw [HN.out, List.map_append, hL]; rfl, HO.out, HK.out⟩
        case measure => simp [RowKit.intOf]; omega
    · obtain rfl : k = 128 := by omega
      have HF := Lib.hid (show ChgOut w S (.returned (.slice R L.length cap)) wr from ⟨R, cap, L, rfl, oL.cr, hL, kL⟩)
      clear hL oL kL IX LM h h1
      go_wp2_with fail
      go_ret
      exact HF.out
end
end Go.Proofs.YtebecpjecchfoaaGreatDoor.St
namespace Go.Proofs.YtebecpjecchfoaaGreatDoor.St
set_option linter.unusedSimpArgs false
set_option linter.unusedVariables false
open Go.RowKit Go.Maps

/-- The holds of one checkpoint more, of a list. -/
def holdK (cs : List Nat) (a : Ck) : List Nat := a.secs.foldl (fun c (n : Nat) => Sp.holdC c (n : Int)) cs
def heldK (N : Nat) (l : List Ck) : List Nat := l.foldl holdK (List.replicate N 0)
theorem heldK_step (N : Nat) (l : List Ck) (k : Nat) (hk : k < l.length) : heldK N (l.take (k + 1)) = holdK (heldK N (l.take k)) l[k] := by
  rw [List.take_succ_eq_append_getElem hk]
  unfold heldK
  rw [List.foldl_append]
  rfl
def holdTo (cs : List Nat) (l : List Nat) : List Nat := l.foldl (fun c (n : Nat) => Sp.holdC c (n : Int)) cs
theorem holdTo_step (cs : List Nat) (l : List Nat) (k : Nat) (hk : k < l.length) : holdTo cs (l.take (k + 1)) = Sp.holdC (holdTo cs (l.take k)) ((l[k] : Nat) : Int) := by
  rw [List.take_succ_eq_append_getElem hk]
  unfold holdTo
  rw [List.foldl_append]
  rfl
theorem holdTo_upto {K : Nat} {cs : List Nat} (h : Sp.Upto K cs) (l : List Nat) : ∀ k, k ≤ l.length → Sp.Upto (K + k) (holdTo cs (l.take k))
  | 0, _ => by simpa [holdTo] using h
  | k + 1, hk => by
    rw [holdTo_step cs l k (by omega)]
    exact (holdTo_upto h l k (by omega)).hold _
theorem heldK_upto (N : Nat) (l : List Ck) (h : ∀ a ∈ l, a.secs.length ≤ 2000) : ∀ k, k ≤ l.length → Sp.Upto (2000 * k) (heldK N (l.take k))
  | 0, _ => fun c hc => by
    simp only [heldK, List.take_zero, List.foldl_nil, List.mem_replicate] at hc
    omega
  | k + 1, hk => by
    rw [heldK_step N l k (by omega)]
    have ih := heldK_upto N l h k (by omega)
    have := holdTo_upto ih l[k].secs l[k].secs.length (Nat.le_refl _)
    rw [List.take_length] at this
    have h2 := h _ (List.getElem_mem (show k < l.length by omega))
    intro c hc
    have := this c hc
    omega
/-- What held leaves. -/
def HeldKOut (w : World) (cs : List Nat) (e : Ending) (w' : World) : Prop := ∃ q hi, e = .returned (.pointer (some ⟨q, 0, none⟩)) ∧ Sp.MapS w' w.heap.size hi q cs ∧ w.heap.size ≤ hi ∧ hi ≤ w'.heap.size ∧ Keeps (fun _ => False) w w'
section
variable {w : World} {Fd : Nat → Prop} {t : TypeId} {tail : List Value} {p dp : Nat} {S : SSt} {D : DSt}
set_option maxRecDepth 100000 in
set_option maxHeartbeats 1600000 in
theorem held_at (h : SnAt w Fd t tail p dp S D) {A : Option Addr} {l : List Ck} (c : Nat) (hr : LR w (own p Fd) A l) (hl : l.length ≤ 4) (hs : ∀ a ∈ l, a.secs.length ≤ 2000) :
    Calls Tryz.prog 74 #[.pointer (some ⟨p, 0, none⟩), .slice A l.length c] w (HeldKOut w (heldK D.n l)) := by
  have c0 := h.c0
  obtain ⟨lb, mb, n, iv, hd, _⟩ := h.disk
  have hnn := hd.ok.n_eq
  have hn2 := hd.ok.n_le
  have hln := len_at hd
  have hN : Sp.nS (n : Int) = n := by unfold Sp.nS; omega
  rw [hnn]
  clear h hd
  go_enter Tryz.func74, Tryz.ntmps74
  go_wp2_with fail
  refine hln.mono ?_
  rintro e w' ⟨rfl, rfl⟩
  go_wp2_with fail
  refine (Sp.new_any (n : Int) w).mono ?_
  rintro e w1 ⟨q, rfl, m1, b1⟩
  rw [hN] at m1
  have s1 := b1.size
  have M1 := Lib.hid m1
  have K1 := Lib.hid (keeps_below b1)
  clear m1 b1 hln hN
  go_wp2_with fail
  go_loopw [18] (fun i wr => ∃ k : Nat, k ≤ l.length ∧ i = .int .i64 (k : Int) ∧ Sp.MapS wr w.heap.size w1.heap.size q (heldK n (l.take k)) ∧ Keeps (fun _ => False) w wr ∧ w1.heap.size ≤ wr.heap.size) (fun i _ => l.length - (RowKit.intOf i).toNat)
  case atStart => exact ⟨0, by omega, rfl, M1.out, K1.out, Nat.le_refl _⟩
  case round =>
    clear M1 K1
    obtain ⟨k, hk, rfl, mr, kr, sr⟩ := hrel
    by_cases hlt : k < l.length
    · have hrr := hr.keep (F' := own p Fd) (kr.mono (fun _ _ h => h.elim)) (fun _ _ f => f)
      obtain ⟨ad, hA, hb, hf, q0, q1, q2, hnr⟩ := hrr.at_ hlt
      have hsk := hs _ (List.getElem_mem hlt)
      have hn0 : NR w (fun b => w.heap.size ≤ b) l[k].R l[k].secs := fun hne => by
        obtain ⟨ad', e', hb', _, hc'⟩ := hr.ok _ (List.getElem_mem hlt) hne
        exact ⟨ad', e', hb', by omega, hc'⟩
      have up := heldK_upto n l hs k hk
      have HS := Lib.hid (heldK_step n l k hlt)
      rw [hA]
      generalize l[k] = a at *
      generalize heldK n (l.take k) = cs at *
      have kA : Keeps (fun _ => False) wr (wr.alloc (.cells #[.int .u64 (a.gen : Int), .int .i64 a.top, .slice a.R a.secs.length a.cap] 176)) := Keeps.alloc _ _ _
      have KA := Lib.hid kA
      have MR := Lib.hid (mr.keep kA (fun _ _ _ h => h))
      have NRA := Lib.hid (hnr.keep (F' := own p Fd) (kA.mono (fun _ _ h => h.elim)) (fun _ _ f => f))
      have SA := Lib.hid (show (wr.alloc (.cells #[.int .u64 (a.gen : Int), .int .i64 a.top, .slice a.R a.secs.length a.cap] 176)).heap.size = wr.heap.size + 1 by simp)
      clear kA mr hrr hnr
      go_wp2_with fail
      generalize (wr.alloc (.cells #[.int .u64 (a.gen : Int), .int .i64 a.top, .slice a.R a.secs.length a.cap] 176)) = w3 at *
      clear q0 q1 q2
      have hend : holdTo cs (a.secs.take a.secs.length) = holdK cs a := by rw [List.take_length]; rfl
      have KW3 := Lib.hid (kr.trans KA.out)
      clear hr hs
      go_loopw [25] (fun i W => ∃ j : Nat, j ≤ a.secs.length ∧ i = .int .i64 (j : Int) ∧ Sp.MapS W w.heap.size w1.heap.size q (holdTo cs (a.secs.take j)) ∧ Keeps (fun i => w.heap.size ≤ i ∧ i < w1.heap.size) w3 W) (fun i _ => a.secs.length - (RowKit.intOf i).toNat)
      case atStart => exact ⟨0, by omega, rfl, MR.out, Keeps.refl _ _⟩
      case round =>
        clear MR
        obtain ⟨j, hj, rfl, mW, kW⟩ := hrel
        have kwW : Keeps (fun b => w.heap.size ≤ b) w _ := (KW3.out.mono (fun _ _ h => h.elim)).trans (kW.mono (fun _ _ h => h.1))
        by_cases hlt2 : j < a.secs.length
        · obtain ⟨ad2, hA2, hc2⟩ := (hn0.keep kwW (fun _ _ f => f)).at_ hlt2
          have up2 := holdTo_upto up a.secs j hj
          have HS2 := Lib.hid (holdTo_step cs a.secs j hlt2)
          rw [hA2]
          generalize a.secs[j] = x at *
          generalize holdTo cs (a.secs.take j) = cs2 at *
          go_wp2_with fail
          refine (Sp.hold_s mW (x : Int) up2 (by omega)).mono ?_
          rintro e w5 ⟨rfl, m5, k5⟩
          have k35 := kW.trans k5
          clear mW kW k5 hc2 kwW
          go_wp2_with fail
          go_roundw
          case rel => exact ⟨j + 1, by omega, by go_num, by rw [HS2.out]; exact m5, k35⟩
          case measure => simp [RowKit.intOf]; omega
        · obtain rfl : j = a.secs.length := by omega
          rw [hend] at mW
          have kfin : Keeps (fun _ => False) w _ := ⟨kW.os.trans KW3.out.os, kW.tape.trans KW3.out.tape, kW.output.trans KW3.out.output, Nat.le_trans KW3.out.size kW.size, fun b hb _ => (kW.block b (by have := KW3.out.size; omega) (by omega)).trans (KW3.out.block b hb (fun h => h))⟩
          have hs6 : w1.heap.size ≤ _ := Nat.le_trans (by have := SA.out; omega) kW.size
          clear kW kwW
          go_wp2_with fail
          go_roundw
          case rel => exact ⟨k + 1, by omega, by go_num, by rw [HS.out]; exact mW, kfin, hs6⟩
          case measure => simp [RowKit.intOf]; omega
    · obtain rfl : k = l.length := by omega
      rw [List.take_length] at mr
      have HF := Lib.hid (show HeldKOut w (heldK n l) (.returned (.pointer (some ⟨q, 0, none⟩))) wr from ⟨q, w1.heap.size, rfl, mr, s1, sr, kr⟩)
      clear mr kr
      go_wp2_with fail
      go_ret
      exact HF.out
end
end Go.Proofs.YtebecpjecchfoaaGreatDoor.St
namespace Go.Proofs.YtebecpjecchfoaaGreatDoor.St
set_option linter.unusedSimpArgs false
set_option linter.unusedVariables false
open Go.RowKit Go.Maps

theorem lastK_congr : ∀ (k : Nat) {l l' : List ChV}, l.map prC = l'.map prC → lastK l k = lastK l' k := by
  intro k
  induction k with
  | zero => intro l l' _; funext i; rfl
  | succ k ih =>
    intro l l' h
    have hk : (l.map prC)[k]? = (l'.map prC)[k]? := by rw [h]
    simp only [List.getElem?_map] at hk
    have e := ih h
    unfold lastK
    cases h1 : l[k]? with
    | none =>
      rw [h1] at hk
      cases h2 : l'[k]? with
      | none => exact e
      | some b => rw [h2] at hk; cases hk
    | some a =>
      rw [h1] at hk
      cases h2 : l'[k]? with
      | none => rw [h2] at hk; cases hk
      | some b =>
        rw [h2] at hk
        simp only [Option.map_some, Option.some.injEq, prC, Prod.mk.injEq] at hk
        show updF (lastK l k) a.page.toNat a.xs = updF (lastK l' k) b.page.toNat b.xs
        rw [e, hk.1, hk.2]
theorem latestF_congr {l l' : List ChV} (h : l.map prC = l'.map prC) : latestF l = latestF l' := by
  have hl : l.length = l'.length := by simpa using congrArg List.length h
  unfold latestF
  rw [hl]
  exact lastK_congr _ h
/-- The changes of a state, wherever they lie. -/
def chgV (S : SSt) : List ChV := (chgTo S 128).map fun q => ⟨q.1, none, q.2, 64⟩
theorem chgV_pr (S : SSt) : (chgV S).map prC = chgTo S 128 := by
  unfold chgV
  rw [List.map_map]
  exact (List.map_congr_left (fun q _ => rfl)).trans (List.map_id _)
theorem good_of {l : List ChV} {S : SSt} (h : l.map prC = chgTo S 128) (hl : S.live.length = 8192) : ∀ a ∈ l, a.good := by
  intro a ha
  have : prC a ∈ chgTo S 128 := by rw [← h]; exact List.mem_map_of_mem ha
  unfold chgTo at this
  simp only [List.mem_map, List.mem_filter, List.mem_range, prC, Prod.mk.injEq] at this
  obtain ⟨n, ⟨hn, _⟩, e1, e2⟩ := this
  exact ⟨by omega, by omega, by rw [← e2]; exact pg_len hl hn⟩
/-- How many sectors the next tree of a state writes. -/
def needS (D : DSt) (S : SSt) (n : Nat) : Prop := n = needs D S.last.top.toNat (chgV S)
theorem needs_congr {D : DSt} {t : Nat} {l l' : List ChV} (h : l.map prC = l'.map prC) : needs D t l = needs D t l' := by
  unfold needs
  rw [latestF_congr h]
/-- How many of the oldest stand in the way. -/
def goneV (N : Nat) (l : List Ck) (cost : Nat) : Option Nat := (List.range l.length).find? fun g => decide (cost ≤ Sp.nfree (heldK N (l.drop g)))
def ManyOut (w : World) (N : Nat) (l : List Ck) (cost : Nat) (e : Ending) (w' : World) : Prop :=
  Keeps (fun _ => False) w w' ∧ ((∃ g, goneV N l cost = some g ∧ e = .returned (.int .i64 (g : Int))) ∨ (goneV N l cost = none ∧ e = thrownE 50))
theorem goneV_some {N : Nat} {l : List Ck} {cost k : Nat} (hk : k < l.length) (hno : ∀ g, g < k → ¬ cost ≤ Sp.nfree (heldK N (l.drop g))) (hy : cost ≤ Sp.nfree (heldK N (l.drop k))) : goneV N l cost = some k := by
  unfold goneV
  rw [List.find?_eq_some_iff_getElem]
  refine ⟨decide_eq_true hy, k, by simpa using hk, by simp, fun j hj => ?_⟩
  simp only [List.getElem_range, Bool.not_eq_true', decide_eq_false_iff_not]
  exact hno j hj
theorem goneV_none {N : Nat} {l : List Ck} {cost : Nat} (hno : ∀ g, g < l.length → ¬ cost ≤ Sp.nfree (heldK N (l.drop g))) : goneV N l cost = none := by
  unfold goneV
  rw [List.find?_eq_none]
  intro g hg
  simpa using hno g (by simpa using hg)
section
variable {w : World} {Fd : Nat → Prop} {t : TypeId} {tail : List Value} {p dp : Nat} {S : SSt} {D : DSt}
set_option maxRecDepth 100000 in
set_option maxHeartbeats 1600000 in
theorem tooMany_at (h : SnAt w Fd t tail p dp S D) (hd : D.down = false) (hl : S.l ≠ []) {ps : PL} (hw : walkT D D.n S.last.top = some ps) {cost : Nat} (hc : needS D S cost) :
    Calls Tryz.prog 141 #[.pointer (some ⟨p, 0, none⟩)] w (ManyOut w D.n S.l cost) := by
  have hsec : 0 ≤ S.last.top ∧ S.last.top ≤ 65535 := by
    obtain ⟨hk, e⟩ := SSt.last_eq hl
    rw [e]
    exact (h.ok.secs _ (List.getElem_mem hk)).2.2
  obtain ⟨lv, hrd⟩ := walkT_some hw
  have hE : errT (readT D D.n S.last.top) = 0 := by rw [hrd]; rfl
  have HT := Lib.hid (top_ok hE)
  have h0 := h.new (Keeps.drew (fun _ => False) w)
  have K0 := Lib.hid (Keeps.drew (fun _ => False) w)
  have hpl := h.pl
  have hpl1 : p < w.drew.heap.size := hpl
  go_enter Tryz.func141, Tryz.ntmps141
  go_wp2_with fail
  refine wp_region_held (S := fun W => W.cell? ⟨p, 0, none⟩ = some (.pointer (some ⟨dp, 0, none⟩))) (by kernel_rfl) ?_
  change wpAnyH _ _ _ _ _ _ _ _ w.drew
  generalize w.drew = w1 at *
  have hS : w1.cell? ⟨p, 0, none⟩ = some (.pointer (some ⟨dp, 0, none⟩)) := h0.c0
  have hla := last_at h0 hl
  have hfk := fieldK
  have hfs := fieldS
--@many1
  refine wpAnyH_take (oi := ⟨_, _, _, _, _, _⟩) (i := 0) (v := .pointer (some ⟨p, 0, none⟩)) rfl (by kernel_rfl) (by kernel_rfl) (by kernel_rfl) (fun _ _ _ h => h) (Or.inl ⟨by rfl, fun _ _ => rfl⟩) hS ?_
  try simp only [Act.put, List.setIfInBounds_toArray, List.set_cons_zero, List.set_cons_succ]
  refine wpAnyH_take (oi := ⟨_, _, _, _, _, _⟩) (i := 1) (v := .pointer (some ⟨p, 0, none⟩)) rfl (by kernel_rfl) (by kernel_rfl) (by kernel_rfl) (fun _ _ _ h => h) (Or.inl ⟨by rfl, fun _ _ => by go_simp⟩) hS ?_
  try simp only [Act.put, List.setIfInBounds_toArray, List.set_cons_zero, List.set_cons_succ]
  refine wpAnyH_take (oi := ⟨_, _, _, _, _, _⟩) (i := 2) (v := .pointer (some ⟨p, 0, none⟩)) rfl (by kernel_rfl) (by kernel_rfl) (by kernel_rfl) (fun _ _ _ h => h) (Or.inl ⟨by rfl, fun _ _ => by go_simp⟩) hS ?_
  try simp only [Act.put, List.setIfInBounds_toArray, List.set_cons_zero, List.set_cons_succ]
  refine wpAnyH_take (oi := ⟨_, _, _, _, _, _⟩) (i := 3) (v := .pointer (some ⟨dp, 0, none⟩)) rfl (by kernel_rfl) (by kernel_rfl) (by kernel_rfl) (fun _ _ _ h => h) (yif_load rfl 29 (.tmp 9) rfl _ _ rfl fun w h => load_one aggDp h) hS ?_
  try simp only [Act.put, List.setIfInBounds_toArray, List.set_cons_zero, List.set_cons_succ]
  refine wpAnyH_take (oi := ⟨_, _, _, _, _, _⟩) (i := 4) (v := .pointer (some ⟨p, 0, none⟩)) rfl (by kernel_rfl) (by kernel_rfl) (by kernel_rfl) (fun _ _ _ h => h) (Or.inl ⟨by rfl, fun _ _ => rfl⟩) hS ?_
  try simp only [Act.put, List.setIfInBounds_toArray, List.set_cons_zero, List.set_cons_succ]
  refine wpAnyH_take (oi := ⟨_, _, _, _, _, _⟩) (i := 8) (v := .pointer (some ⟨p, 0, none⟩)) rfl (by kernel_rfl) (by kernel_rfl) (by kernel_rfl) (fun _ _ _ h => h) (Or.inl ⟨by rfl, fun _ _ => rfl⟩) hS ?_
  try simp only [Act.put, List.setIfInBounds_toArray, List.set_cons_zero, List.set_cons_succ]
  refine wpAnyH_all (rs := [5]) (by kernel_rfl) (by simp) fun i hi => ?_
  obtain rfl : i = 5 := by simpa using hi
  refine op_call (om := ⟨_, _, _, _, _, _⟩) (fn := 128) (args := #[.pointer (some ⟨p, 0, none⟩)]) (R := fun u w' => u = .agg #[.int .u64 (S.last.gen : Int), .int .i64 S.last.top, .slice S.last.R S.last.secs.length S.last.cap] ∧ Keeps (fun _ => False) w1 w') rfl rfl (by go_simp)
    (hla.mono fun e w' h => ⟨_, h.1, rfl, h.2⟩) _ _ rfl rfl ?_
  rintro u w2 ⟨hu, k2⟩
  subst hu
  have hS : w2.cell? ⟨p, 0, none⟩ = some (.pointer (some ⟨dp, 0, none⟩)) := (k2.cell p 0 hpl1 (fun h => h)).trans hS
  clear hla
  refine ⟨hS, ?_⟩
  try simp only [Act.put, List.setIfInBounds_toArray, List.set_cons_zero, List.set_cons_succ]
  refine wpAnyH_take (oi := ⟨_, _, _, _, _, _⟩) (i := 6) (v := .agg #[.int .u64 (S.last.gen : Int), .int .i64 S.last.top]) rfl (by kernel_rfl) (by kernel_rfl) (by kernel_rfl) (fun _ _ _ h => h) (Or.inl ⟨by rfl, fun _ _ => by go_simp⟩) hS ?_
  try simp only [Act.put, List.setIfInBounds_toArray, List.set_cons_zero, List.set_cons_succ]
  refine wpAnyH_take (oi := ⟨_, _, _, _, _, _⟩) (i := 7) (v := .int .i64 S.last.top) rfl (by kernel_rfl) (by kernel_rfl) (by kernel_rfl) (fun _ _ _ h => h) (Or.inl ⟨by rfl, fun _ _ => by go_simp⟩) hS ?_
  try simp only [Act.put, List.setIfInBounds_toArray, List.set_cons_zero, List.set_cons_succ]
--@@
  have h2 := h0.new k2
  have hch := changes_at h2
  have hpl2 := h2.pl
--@many2
  refine wpAnyH_all (rs := [9]) (by kernel_rfl) (by simp) fun i hi => ?_
  obtain rfl : i = 9 := by simpa using hi
  refine op_call (om := ⟨_, _, _, _, _, _⟩) (fn := 143) (args := #[.pointer (some ⟨p, 0, none⟩)]) (R := fun u w' => ChgOut w2 S (.returned u) w') rfl rfl (by go_simp)
    (hch.mono fun e w' h => by obtain ⟨R, c, L, rfl, h1⟩ := h; exact ⟨_, rfl, R, c, L, rfl, h1⟩) _ _ rfl rfl ?_
  rintro u w3 hu
  have hS3 : w3.cell? ⟨p, 0, none⟩ = some (.pointer (some ⟨dp, 0, none⟩)) := by obtain ⟨_, _, _, _, _, _, k3⟩ := hu; exact (k3.cell p 0 hpl2 (fun h => h)).trans hS
  have hS := hS3
  clear hch
  refine ⟨hS, ?_⟩
  try simp only [Act.put, List.setIfInBounds_toArray, List.set_cons_zero, List.set_cons_succ]
--@@
  obtain ⟨R, c, L, hu, cr, hL, k3⟩ := hu
  cases hu
  have h3 := h2.new k3
  have hLl : L.length ≤ 128 := by
    have := chgTo_len S 128
    rw [← hL, List.length_map] at this
    exact this
  obtain ⟨lb, mb, n, iv, hdk, _⟩ := h3.disk
  have hnn := hdk.ok.n_eq
  have hre : ReachE dp lb mb n iv D S.last.top 0 := hE ▸ reachE_any hd dp lb mb n iv S.last.top (by omega) (by omega)
  have hco := cost_at hdk hd S.last.top S.last.top.toNat hre (fun _ => ⟨HT.out.1, by rw [← hnn]; exact HT.out.2.1, by rw [← hnn]; exact HT.out.2.2⟩) R L c cr (by omega)
  rw [costV_ok D S.last.top.toNat (good_of hL h.ok.live), needs_congr (hL.trans (chgV_pr S).symm), ← hc] at hco
  have hpl3 := h3.pl
--@many3
  refine wpAnyH_all (rs := [10]) (by kernel_rfl) (by simp) fun i hi => ?_
  obtain rfl : i = 10 := by simpa using hi
  refine op_call (om := ⟨_, _, _, _, _, _⟩) (fn := 178) (args := #[.pointer (some ⟨dp, 0, none⟩), .int .i64 S.last.top, .slice R L.length c]) (R := fun u w' => u = .tuple #[.int .i64 (cost : Int), .int .i64 0] ∧ Below w3.heap.size w3 w') rfl rfl (by go_simp)
    (hco.mono fun e w' h => ⟨_, h.1, rfl, h.2⟩) _ _ rfl rfl ?_
  rintro u w4 ⟨hu, b4⟩
  subst hu
  have hS4 : w4.cell? ⟨p, 0, none⟩ = some (.pointer (some ⟨dp, 0, none⟩)) := (b4.cell (p := ⟨p, 0, none⟩) hpl3).trans hS
  have hS := hS4
  clear hco
  refine ⟨hS, ?_⟩
  try simp only [Act.put, List.setIfInBounds_toArray, List.set_cons_zero, List.set_cons_succ]
  refine wpAnyH_take (oi := ⟨_, _, _, _, _, _⟩) (i := 11) (v := .tuple #[.int .i64 (cost : Int), .int .i64 0]) rfl (by kernel_rfl) (by kernel_rfl) (by kernel_rfl) (fun _ _ _ h => h) (Or.inl ⟨by rfl, fun _ _ => rfl⟩) hS ?_
  try simp only [Act.put, List.setIfInBounds_toArray, List.set_cons_zero, List.set_cons_succ]
  refine wpAnyH_take (oi := ⟨_, _, _, _, _, _⟩) (i := 12) (v := .int .i64 (cost : Int)) rfl (by kernel_rfl) (by kernel_rfl) (by kernel_rfl) (fun _ _ _ h => h) (Or.inl ⟨by rfl, fun _ _ => by go_simp⟩) hS ?_
  try simp only [Act.put, List.setIfInBounds_toArray, List.set_cons_zero, List.set_cons_succ]
  refine wpAnyH_take (oi := ⟨_, _, _, _, _, _⟩) (i := 13) (v := .int .i64 0) rfl (by kernel_rfl) (by kernel_rfl) (by kernel_rfl) (fun _ _ _ h => h) (Or.inl ⟨by rfl, fun _ _ => by go_simp⟩) hS ?_
  try simp only [Act.put, List.setIfInBounds_toArray, List.set_cons_zero, List.set_cons_succ]
  refine wpAnyH_take (oi := ⟨_, _, _, _, _, _⟩) (i := 14) (v := .int .i64 (cost : Int)) rfl (by kernel_rfl) (by kernel_rfl) (by kernel_rfl) (fun _ _ _ h => h) (Or.inl ⟨by rfl, fun _ _ => rfl⟩) hS ?_
  try simp only [Act.put, List.setIfInBounds_toArray, List.set_cons_zero, List.set_cons_succ]
  refine wpAnyH_take (oi := ⟨_, _, _, _, _, _⟩) (i := 15) (v := .int .i64 0) rfl (by kernel_rfl) (by kernel_rfl) (by kernel_rfl) (fun _ _ _ h => h) (Or.inl ⟨by rfl, fun _ _ => rfl⟩) hS ?_
  try simp only [Act.put, List.setIfInBounds_toArray, List.set_cons_zero, List.set_cons_succ]
  refine wpAnyH_done (by kernel_rfl) ?_ _
  try simp only [Act.put, List.setIfInBounds_toArray, List.set_cons_zero, List.set_cons_succ]
--@@
  have k4 : Keeps (fun _ => False) w w4 := ((K0.out.trans k2).trans k3).trans (keeps_below b4)
  have h4 := h.new k4
  have hok := h.ok
  clear hnn hL cr hre hdk h0 h2 h3 hfk hfs k2 k3 b4 hS hpl1 hpl2 hpl3
  go_wp2_with fail
  refine (demand_ok w4).mono ?_
  rintro e w' ⟨rfl, rfl⟩
  have c3 := h4.c3
  obtain ⟨ad, hA, _⟩ := h4.row.ar hl
  rw [hA] at c3
  have HA := Lib.hid hA
  clear hA
  go_wp2_with fail
  go_loopw [2, 5, 27] (fun _ _ i wr => ∃ k : Nat, k ≤ S.l.length ∧ i = .int .i64 (k : Int) ∧ (∀ g, g < k → ¬ cost ≤ Sp.nfree (heldK D.n (S.l.drop g))) ∧ Keeps (fun _ => False) w wr) (fun _ _ i _ => S.l.length - (RowKit.intOf i).toNat)
  case atStart => exact ⟨0, by omega, rfl, fun g hg => by omega, k4⟩
  case round =>
    clear c3 k4
    obtain ⟨k, hk, rfl, hno, kr⟩ := hrel
    have hk4 := h.new kr
    have c3 := hk4.c3
    have hb0 := hok.room
    have hl4 := hok.len
    by_cases hlt : k < S.l.length
    · have hrow := hk4.row
      rw [HA.out] at c3 hrow
      have hhe := held_at hk4 (S.c - k) (hrow.drop k) (by rw [List.length_drop]; omega) (fun a ha => (hok.secs a (List.mem_of_mem_drop ha)).1)
      rw [List.length_drop] at hhe
      have hbk : 0 ≤ (k : Int) ∧ (k : Int) ≤ (S.l.length : Int) := by omega
      clear hk4 hrow h4
      go_wp2_with fail
      refine hhe.mono ?_
      rintro e w5 ⟨q, hi, rfl, m5, hlo, hhi, k5⟩
      clear hhe
      have hfr := Sp.free_s m5
      have HM := Lib.hid m5
      generalize hfe : Sp.nfree (heldK D.n (S.l.drop k)) = nf at *
      have HFE := Lib.hid hfe
      have k55 := kr.trans k5
      clear m5 hfe k5
      go_wp2_with fail
      refine hfr.mono ?_
      rintro e w6 ⟨rfl, rfl⟩
      clear hfr
      by_cases hge : cost ≤ nf
      · have hd1 : decide ((nf : Int) ≥ (cost : Int)) = true := by simp; omega
        have HF := Lib.hid (show ManyOut w D.n S.l cost (.returned (.int .i64 (k : Int))) w5 from ⟨k55, .inl ⟨k, goneV_some hlt hno (by rw [HFE.out]; exact hge), rfl⟩⟩)
        clear hno kr k55 HM
        go_wp2_with fail
        go_ret
        exact HF.out
      · have hd1 : decide ((nf : Int) ≥ (cost : Int)) = false := by simp; omega
        have hno' : ∀ g, g < k + 1 → ¬ cost ≤ Sp.nfree (heldK D.n (S.l.drop g)) := fun g hg => by
          by_cases e : g = k
          · subst e; rw [HFE.out]; exact hge
          · exact hno g (by omega)
        clear hno kr HM
        go_wp2_with fail
        go_roundw
        case rel => exact ⟨k + 1, by omega, by go_num, hno', k55⟩
        case measure => simp [RowKit.intOf]; omega
    · obtain rfl : k = S.l.length := by omega
      have HF := Lib.hid (show ManyOut w D.n S.l cost (thrownE 50) _ from ⟨kr, .inr ⟨goneV_none hno, rfl⟩⟩)
      clear hno kr hk4 h4
      go_wp2_with fail
      exact ⟨rfl, HF.out⟩
end
end Go.Proofs.YtebecpjecchfoaaGreatDoor.St
namespace Go.Proofs.YtebecpjecchfoaaGreatDoor.St
set_option linter.unusedSimpArgs false
set_option linter.unusedVariables false
open Go.RowKit Go.Maps

/-- The state without its g oldest checkpoints, its root written. -/
def SSt.less (S : SSt) (g : Nat) (A : Option Addr) (c : Nat) : SSt := if g = 0 then S else ({ S with A := A, c := c, l := S.l.drop g } : SSt).put
def lessD (D : DSt) (S : SSt) (g : Nat) : DSt := if g = 0 then D else (D.write (1 - S.at_) (encL (S.gen + 1) ((S.l.drop g).map snOf))).flush
def RoomOut (w : World) (Fd : Nat → Prop) (t : TypeId) (tail : List Value) (p dp : Nat) (S : SSt) (D : DSt) (cost : Nat) (e : Ending) (w' : World) : Prop :=
  (∃ g, goneV D.n S.l cost = some g ∧ e = .returned (.tuple #[]) ∧ ∃ A c, Stepped w Fd t tail p dp (S.less g A c) (lessD D S g) w' ∧ Rows w S (S.less g A c) w') ∨ (goneV D.n S.l cost = none ∧ e = thrownE 50 ∧ Keeps (fun _ => False) w w')
theorem goneV_lt {N : Nat} {l : List Ck} {cost g : Nat} (h : goneV N l cost = some g) : g < l.length := by
  have := List.mem_of_find?_eq_some h
  simpa using this
section
variable {w : World} {Fd : Nat → Prop} {t : TypeId} {tail : List Value} {p dp : Nat} {S : SSt} {D : DSt}
set_option maxRecDepth 100000 in
set_option maxHeartbeats 800000 in
theorem room_at (h : SnAt w Fd t tail p dp S D) (on : On D) (hq : D.Q.length ≤ 900000) (ha : D.acts ≤ 90000000) (hl : S.l ≠ []) {ps : PL} (hw : walkT D D.n S.last.top = some ps) {cost : Nat} (hc : needS D S cost) (hg : S.gen + 1 < 18446744073709551616) (hm : ∀ g, g < S.l.length → mayB (S.gen + 1) ((S.l.drop g).map snOf) = true) :
    Calls Tryz.prog 84 #[.pointer (some ⟨p, 0, none⟩)] w (RoomOut w Fd t tail p dp S D cost) := by
  have htm := tooMany_at h on.up hl hw hc
  go_enter Tryz.func84, Tryz.ntmps84
  go_wp2_with fail
  refine htm.mono ?_
  clear htm
  rintro e w1 ⟨k1, ⟨g, hgo, rfl⟩ | ⟨hno, rfl⟩⟩
  · by_cases hg0 : g = 0
    · subst hg0
      have h1 := h.new k1
      have HF := Lib.hid (show RoomOut w Fd t tail p dp S D cost (.returned (.tuple #[])) w1 from .inl ⟨0, hgo, rfl, none, 0, ⟨⟨Fd, h1, fun _ h => .inl h⟩, k1.mono (fun _ _ h => h.elim)⟩, fun Z _ hz => h.row.both hz (k1.mono (fun _ _ h => h.elim))⟩)
      clear h h1 k1 hgo
      go_wp2_with fail
      go_end0
      exact HF.out
    · have hgl := goneV_lt hgo
      have h1 := h.new k1
      have hgd : decide ((g : Int) > 0) = true := by simp; omega
      obtain ⟨ad, hA, _⟩ := h1.row.ar hl
      have c3 := h1.c3
      rw [hA] at c3
      have z3 := h1.fz 3
      have hrow := h1.row
      rw [hA] at hrow
      have hdr := hrow.drop g
      have hrm := h.ok.room
      have hln := h.ok.len
      have hok2 : ({ S with A := some (ad.add (g * 3)), c := S.c - g, l := S.l.drop g } : SSt).Ok := by
        refine ⟨h.ok.gen, h.ok.at_, ?_, ?_, h.ok.saved, h.ok.live, fun a ha => h.ok.secs a (List.mem_of_mem_drop ha)⟩
        · show (S.l.drop g).length ≤ 4
          rw [List.length_drop]; omega
        · show (S.l.drop g).length ≤ S.c - g
          rw [List.length_drop]; omega
      obtain ⟨h2, k2⟩ := h1.set (S' := { S with A := some (ad.add (g * 3)), c := S.c - g, l := S.l.drop g }) 3 (.slice (some (ad.add (g * 3))) (S.l.length - g) (S.c - g)) (by
        unfold scells hcells
        simp only [List.length_drop]
        rfl) hdr hok2
      have hput := putRoot_at h2 on hg (hm g hgl)
      have r2 : Rows w S { S with A := some (ad.add (g * 3)), c := S.c - g, l := S.l.drop g } (w1.setCell ⟨p, 3, none⟩ (.slice (some (ad.add (g * 3))) (S.l.length - g) (S.c - g))) := fun Z hZ hz => by
        have hz1 := h.row.both hz (k1.mono (fun _ _ h => h.elim))
        rw [hA] at hz1
        exact hdr.both (hz1.drop g) k2
      have K2 := Lib.hid ((k1.mono (fun _ _ h => h.elim) : Keeps (own p Fd) w w1).trans k2)
      have H2 := Lib.hid h2
      have hb : 0 ≤ (g : Int) ∧ (g : Int) ≤ (S.l.length : Int) := by omega
      clear h h1 hrow hdr k1 k2 h2 hA hok2
      go_wp2_with fail
      refine hput.mono ?_
      clear hput
      rintro e w3 ⟨rfl, s3⟩
      have r3 := Stepped.rows H2.out s3 rfl rfl
      obtain ⟨⟨Fd3, h3, f3⟩, k3⟩ := s3
      have on3 := on.wr (1 - S.at_) (encL (S.gen + 1) ((S.l.drop g).map snOf)) (by have := H2.out.ok.at_; rcases this with e | e <;> (have e : S.at_ = _ := e; rw [e]; decide)) (encL_len _ _) (by omega) (by omega)
      have hfl := flush_at h3 (by have := on3.que; exact Nat.le_trans this (by omega)) (by have := on3.acts; exact Nat.le_trans this (by omega))
      go_wp2_with fail
      refine hfl.mono ?_
      rintro e w4 ⟨rfl, s4⟩
      have r4 := Stepped.rows h3 s4 rfl rfl
      have hend : endE (D.write (1 - S.at_) (SSt.record { S with A := some (ad.add (g * 3)), c := S.c - g, l := S.l.drop g })).flushErr = .returned (.tuple #[]) := if_pos on3.fl
      rw [hend]
      have HF := Lib.hid (show RoomOut w Fd t tail p dp S D cost (.returned (.tuple #[])) w4 from by
        refine .inl ⟨g, hgo, rfl, some (ad.add (g * 3)), S.c - g, ?_, fun Z hZ hz => ?_⟩
        · unfold SSt.less lessD
          rw [if_neg hg0, if_neg hg0]
          exact Stepped.trans K2.out (fun b hb => .inl hb) (Stepped.trans k3 f3 s4)
        · unfold SSt.less
          rw [if_neg hg0]
          have z3 := r3 Z (fun b hb => by have := hZ b hb; have := K2.out.size; omega) (r2 Z hZ hz)
          exact r4 Z (fun b hb => by have := hZ b hb; have := K2.out.size; have := k3.size; omega) z3)
      clear s4 r4 hfl h3 k3 r3 f3
      go_wp2_with fail
      go_end0
      exact HF.out
  · exact ⟨rfl, .inr ⟨hno, rfl, k1⟩⟩
end
end Go.Proofs.YtebecpjecchfoaaGreatDoor.St
namespace Go.Proofs.YtebecpjecchfoaaGreatDoor.St
set_option linter.unusedSimpArgs false
set_option linter.unusedVariables false
open Go.RowKit Go.Maps

theorem rebV_congr {σ : Type} (nxt : σ → List UInt8 → Nat × σ) (D : DSt) (t : Nat) {l l' : List ChV} (s : σ) (h : l.map prC = l'.map prC) (g : ∀ a ∈ l, a.good) (g' : ∀ a ∈ l', a.good) : rebV nxt D t 0 l s = rebV nxt D t 0 l' s := by
  have e := latestF_congr h
  by_cases hk : keysF (latestF l) = []
  · rw [rebV_none nxt D t s g hk, rebV_none nxt D t s g' (by rw [← e]; exact hk)]
  · rw [rebV_some nxt D t s g hk, rebV_some nxt D t s g' (by rw [← e]; exact hk), e]
theorem heldK_len (N : Nat) (l : List Ck) : (heldK N l).length = N := by
  have h1 : ∀ (m : List Nat) (cs : List Nat), (m.foldl (fun c (n : Nat) => Sp.holdC c (n : Int)) cs).length = cs.length := by
    intro m
    induction m with
    | nil => intro cs; rfl
    | cons x r ih => intro cs; rw [List.foldl_cons, ih, Sp.len_hold]
  have h2 : ∀ (m : List Ck) (cs : List Nat), (m.foldl holdK cs).length = cs.length := by
    intro m
    induction m with
    | nil => intro cs; rfl
    | cons x r ih => intro cs; rw [List.foldl_cons, ih]; exact h1 _ _
  unfold heldK
  rw [h2, List.length_replicate]
/-- What Build makes of a state: the top, the disk, the map. -/
def bldV (D : DSt) (S : SSt) : Int × Int × BSt := rebV bnxt D S.last.top.toNat 0 (chgV S) ⟨D, heldK D.n S.l, 8000⟩
theorem BOk.of {D : DSt} {l : List Ck} (on : On D) (hq : D.Q.length ≤ 1000) (ha : D.acts ≤ 900000) (hn : D.n ≤ 2000) (hl : l.length ≤ 4) (hs : ∀ a ∈ l, a.secs.length ≤ 2000) : BOk D (heldK D.n l) 8000 := by
  refine ⟨on.up, on.left, by rw [heldK_len]; exact Nat.le_refl _, hq, ha, ?_, by omega, by rw [heldK_len]; exact hn⟩
  have := heldK_upto D.n l hs l.length (Nat.le_refl _)
  rw [List.take_length] at this
  intro c hc
  have := this c hc
  omega
theorem buildOut_ok {D : DSt} {t : Nat} {l l' : List ChV} {cs : List Nat} {K : Nat} {w : World} {Fd : Nat → Prop} {dp lo hi mp : Nat} {e : Ending} {w' : World} (h : BuildOut D t 0 l cs K w Fd dp lo hi mp e w') (g : ∀ a ∈ l, a.good) (g' : ∀ a ∈ l', a.good) (hp : l.map prC = l'.map prC) (hn : needs D t l' ≤ Sp.nfree cs) :
    e = .returned (.tuple #[.int .i64 (rebV bnxt D t 0 l' ⟨D, cs, K⟩).1, .int .i64 0]) ∧ Built w Fd dp lo hi mp (rebV bnxt D t 0 l' ⟨D, cs, K⟩).2.2 w' := by
  unfold BuildOut at h
  rw [costV_ok D t g, needs_congr hp, rebV_congr bnxt D t _ hp g g'] at h
  rw [if_neg (by simp), if_neg (by simp only; omega)] at h
  exact h
section
variable {w : World} {Fd : Nat → Prop} {t : TypeId} {tail : List Value} {p dp : Nat} {S : SSt} {D : DSt}
/-- What build leaves. -/
def BuildSt (w : World) (Fd : Nat → Prop) (t : TypeId) (tail : List Value) (p dp : Nat) (S : SSt) (D1 : DSt) (top : Nat) (secs : List Nat) (e : Ending) (w' : World) : Prop :=
  e = .returned (.tuple #[]) ∧ ∃ A c R cp, Stepped w Fd t tail p dp { S with A := A, c := c, l := addL S.l ⟨S.gen + 1, top, R, secs, cp⟩, saved := S.live } D1 w' ∧ Rows w S { S with A := A, c := c, l := addL S.l ⟨S.gen + 1, top, R, secs, cp⟩, saved := S.live } w'
set_option maxRecDepth 100000 in
set_option maxHeartbeats 1600000 in
theorem build_st (h : SnAt w Fd t tail p dp S D) (on : On D) (hq : D.Q.length ≤ 1000) (ha : D.acts ≤ 900000) (hl : S.l ≠ []) {ps : PL} (hw : walkT D D.n S.last.top = some ps) (hT : Sp.Tab w) (hF0 : ¬ Fd 0) (hroom : needs D S.last.top.toNat (chgV S) ≤ Sp.nfree (heldK D.n S.l))
    {top : Nat} (ht : (bldV D S).1 = (top : Int)) (ht2 : top ≤ 65535) {ps1 : PL} (hw1 : walkT (bldV D S).2.2.D (bldV D S).2.2.D.n top = some ps1) (hps : ps1.length ≤ 2000) (hd1 : (bldV D S).2.2.D.down = false) (hg : S.gen + 1 < 18446744073709551616) :
    Calls Tryz.prog 85 #[.pointer (some ⟨p, 0, none⟩)] w (BuildSt w Fd t tail p dp S (bldV D S).2.2.D top (ps1.map Prod.fst)) := by
  have hsec : 0 ≤ S.last.top ∧ S.last.top ≤ 65535 := by
    obtain ⟨hk, e⟩ := SSt.last_eq hl
    rw [e]
    exact (h.ok.secs _ (List.getElem_mem hk)).2.2
  obtain ⟨lv, hrd⟩ := walkT_some hw
  have hE : errT (readT D D.n S.last.top) = 0 := by rw [hrd]; rfl
  have HT := Lib.hid (top_ok hE)
  have h0 := h.new (Keeps.drew (fun _ => False) w)
  have K0 := Lib.hid (Keeps.drew (fun _ => False) w)
  have hpl := h.pl
  have hpl1 : p < w.drew.heap.size := hpl
  go_enter Tryz.func85, Tryz.ntmps85
  go_wp2_with fail
  refine wp_region_held (S := fun W => W.cell? ⟨p, 0, none⟩ = some (.pointer (some ⟨dp, 0, none⟩)) ∧ W.cell? ⟨p, 3, none⟩ = some (.slice S.A S.l.length S.c)) (by kernel_rfl) ?_
  change wpAnyH _ _ _ _ _ _ _ _ w.drew
  have hsz1 : w.drew.heap.size = w.heap.size := rfl
  generalize w.drew = w1 at *
  have hS : w1.cell? ⟨p, 0, none⟩ = some (.pointer (some ⟨dp, 0, none⟩)) ∧ w1.cell? ⟨p, 3, none⟩ = some (.slice S.A S.l.length S.c) := ⟨h0.c0, h0.c3⟩
  have hhe := held_at h0 S.c h0.row h0.ok.len (fun a ha => (h0.ok.secs a ha).1)
  have hfk := fieldK
  have hfs := fieldS
--@bld1
  refine wpAnyH_take (oi := ⟨_, _, _, _, _, _⟩) (i := 0) (v := .pointer (some ⟨p, 0, none⟩)) rfl (by kernel_rfl) (by kernel_rfl) (by kernel_rfl) (fun _ _ _ h => h) (Or.inl ⟨by rfl, fun _ _ => rfl⟩) hS ?_
  try simp only [Act.put, List.setIfInBounds_toArray, List.set_cons_zero, List.set_cons_succ]
  refine wpAnyH_take (oi := ⟨_, _, _, _, _, _⟩) (i := 1) (v := .pointer (some ⟨p, 0, none⟩)) rfl (by kernel_rfl) (by kernel_rfl) (by kernel_rfl) (fun _ _ _ h => h) (Or.inl ⟨by rfl, fun _ _ => by go_simp⟩) hS ?_
  try simp only [Act.put, List.setIfInBounds_toArray, List.set_cons_zero, List.set_cons_succ]
  refine wpAnyH_take (oi := ⟨_, _, _, _, _, _⟩) (i := 2) (v := .pointer (some ⟨p, 0, none⟩)) rfl (by kernel_rfl) (by kernel_rfl) (by kernel_rfl) (fun _ _ _ h => h) (Or.inl ⟨by rfl, fun _ _ => by go_simp⟩) hS ?_
  try simp only [Act.put, List.setIfInBounds_toArray, List.set_cons_zero, List.set_cons_succ]
  refine wpAnyH_take (oi := ⟨_, _, _, _, _, _⟩) (i := 3) (v := .pointer (some ⟨dp, 0, none⟩)) rfl (by kernel_rfl) (by kernel_rfl) (by kernel_rfl) (fun _ _ _ h => h) (yif_load rfl 29 (.tmp 7) rfl _ _ rfl fun w h => load_one aggDp h.1) hS ?_
  try simp only [Act.put, List.setIfInBounds_toArray, List.set_cons_zero, List.set_cons_succ]
  refine wpAnyH_take (oi := ⟨_, _, _, _, _, _⟩) (i := 4) (v := .pointer (some ⟨p, 0, none⟩)) rfl (by kernel_rfl) (by kernel_rfl) (by kernel_rfl) (fun _ _ _ h => h) (Or.inl ⟨by rfl, fun _ _ => rfl⟩) hS ?_
  try simp only [Act.put, List.setIfInBounds_toArray, List.set_cons_zero, List.set_cons_succ]
  refine wpAnyH_take (oi := ⟨_, _, _, _, _, _⟩) (i := 5) (v := .pointer (some ⟨p, 0, none⟩)) rfl (by kernel_rfl) (by kernel_rfl) (by kernel_rfl) (fun _ _ _ h => h) (Or.inl ⟨by rfl, fun _ _ => rfl⟩) hS ?_
  try simp only [Act.put, List.setIfInBounds_toArray, List.set_cons_zero, List.set_cons_succ]
  refine wpAnyH_take (oi := ⟨_, _, _, _, _, _⟩) (i := 6) (v := .pointer (some ⟨p, 0, none⟩)) rfl (by kernel_rfl) (by kernel_rfl) (by kernel_rfl) (fun _ _ _ h => h) (Or.inl ⟨by rfl, fun _ _ => by go_simp⟩) hS ?_
  try simp only [Act.put, List.setIfInBounds_toArray, List.set_cons_zero, List.set_cons_succ]
  refine wpAnyH_take (oi := ⟨_, _, _, _, _, _⟩) (i := 7) (v := .pointer (some ⟨p, 3, none⟩)) rfl (by kernel_rfl) (by kernel_rfl) (by kernel_rfl) (fun _ _ _ h => h) (Or.inl ⟨by rfl, fun _ _ => by go_simp⟩) hS ?_
  try simp only [Act.put, List.setIfInBounds_toArray, List.set_cons_zero, List.set_cons_succ]
  refine wpAnyH_take (oi := ⟨_, _, _, _, _, _⟩) (i := 8) (v := .slice S.A S.l.length S.c) rfl (by kernel_rfl) (by kernel_rfl) (by kernel_rfl) (fun _ _ _ h => h) (yif_load rfl 76 (.tmp 12) rfl _ _ rfl fun w h => load_one aggSl h.2) hS ?_
  try simp only [Act.put, List.setIfInBounds_toArray, List.set_cons_zero, List.set_cons_succ]
  refine wpAnyH_take (oi := ⟨_, _, _, _, _, _⟩) (i := 10) (v := .pointer (some ⟨p, 0, none⟩)) rfl (by kernel_rfl) (by kernel_rfl) (by kernel_rfl) (fun _ _ _ h => h) (Or.inl ⟨by rfl, fun _ _ => rfl⟩) hS ?_
  try simp only [Act.put, List.setIfInBounds_toArray, List.set_cons_zero, List.set_cons_succ]
  refine wpAnyH_take (oi := ⟨_, _, _, _, _, _⟩) (i := 14) (v := .pointer (some ⟨p, 0, none⟩)) rfl (by kernel_rfl) (by kernel_rfl) (by kernel_rfl) (fun _ _ _ h => h) (Or.inl ⟨by rfl, fun _ _ => rfl⟩) hS ?_
  try simp only [Act.put, List.setIfInBounds_toArray, List.set_cons_zero, List.set_cons_succ]
  refine wpAnyH_all (rs := [9]) (by kernel_rfl) (by simp) fun i hi => ?_
  obtain rfl : i = 9 := by simpa using hi
  refine op_call (om := ⟨_, _, _, _, _, _⟩) (fn := 74) (args := #[.pointer (some ⟨p, 0, none⟩), .slice S.A S.l.length S.c]) (R := fun u w' => HeldKOut w1 (heldK D.n S.l) (.returned u) w') rfl rfl (by go_simp)
    (hhe.mono fun e w' h => by obtain ⟨q, hi, rfl, h1⟩ := h; exact ⟨_, rfl, q, hi, rfl, h1⟩) _ _ rfl rfl ?_
  rintro u w2 hu
  obtain ⟨mp, hb2, hu, m2, hlo, hhi, k2⟩ := hu
  cases hu
  have hS2 : w2.cell? ⟨p, 0, none⟩ = some (.pointer (some ⟨dp, 0, none⟩)) ∧ w2.cell? ⟨p, 3, none⟩ = some (.slice S.A S.l.length S.c) := ⟨(k2.cell p 0 hpl1 (fun h => h)).trans hS.1, (k2.cell p 3 hpl1 (fun h => h)).trans hS.2⟩
  have hS := hS2
  clear hhe
  refine ⟨hS, ?_⟩
  try simp only [Act.put, List.setIfInBounds_toArray, List.set_cons_zero, List.set_cons_succ]
--@@
  have h2 := h0.new k2
  have hpl2 := h2.pl
  have hla := last_at h2 hl
--@bld2
  refine wpAnyH_all (rs := [11]) (by kernel_rfl) (by simp) fun i hi => ?_
  obtain rfl : i = 11 := by simpa using hi
  refine op_call (om := ⟨_, _, _, _, _, _⟩) (fn := 128) (args := #[.pointer (some ⟨p, 0, none⟩)]) (R := fun u w' => u = .agg #[.int .u64 (S.last.gen : Int), .int .i64 S.last.top, .slice S.last.R S.last.secs.length S.last.cap] ∧ Keeps (fun _ => False) w2 w') rfl rfl (by go_simp)
    (hla.mono fun e w' h => ⟨_, h.1, rfl, h.2⟩) _ _ rfl rfl ?_
  rintro u w3 ⟨hu, k3⟩
  subst hu
  have hS3 : w3.cell? ⟨p, 0, none⟩ = some (.pointer (some ⟨dp, 0, none⟩)) ∧ w3.cell? ⟨p, 3, none⟩ = some (.slice S.A S.l.length S.c) := ⟨(k3.cell p 0 hpl2 (fun h => h)).trans hS.1, (k3.cell p 3 hpl2 (fun h => h)).trans hS.2⟩
  have hS := hS3
  clear hla
  refine ⟨hS, ?_⟩
  try simp only [Act.put, List.setIfInBounds_toArray, List.set_cons_zero, List.set_cons_succ]
  refine wpAnyH_take (oi := ⟨_, _, _, _, _, _⟩) (i := 12) (v := .agg #[.int .u64 (S.last.gen : Int), .int .i64 S.last.top]) rfl (by kernel_rfl) (by kernel_rfl) (by kernel_rfl) (fun _ _ _ h => h) (Or.inl ⟨by rfl, fun _ _ => by go_simp⟩) hS ?_
  try simp only [Act.put, List.setIfInBounds_toArray, List.set_cons_zero, List.set_cons_succ]
  refine wpAnyH_take (oi := ⟨_, _, _, _, _, _⟩) (i := 13) (v := .int .i64 S.last.top) rfl (by kernel_rfl) (by kernel_rfl) (by kernel_rfl) (fun _ _ _ h => h) (Or.inl ⟨by rfl, fun _ _ => by go_simp⟩) hS ?_
  try simp only [Act.put, List.setIfInBounds_toArray, List.set_cons_zero, List.set_cons_succ]
--@@
  have h3 := h2.new k3
  have hpl3 := h3.pl
  have hch := changes_at h3
--@bld3
  refine wpAnyH_all (rs := [15]) (by kernel_rfl) (by simp) fun i hi => ?_
  obtain rfl : i = 15 := by simpa using hi
  refine op_call (om := ⟨_, _, _, _, _, _⟩) (fn := 143) (args := #[.pointer (some ⟨p, 0, none⟩)]) (R := fun u w' => ChgOut w3 S (.returned u) w') rfl rfl (by go_simp)
    (hch.mono fun e w' h => by obtain ⟨R, c, L, rfl, h1⟩ := h; exact ⟨_, rfl, R, c, L, rfl, h1⟩) _ _ rfl rfl ?_
  rintro u w4 hu
  have hS4 : w4.cell? ⟨p, 0, none⟩ = some (.pointer (some ⟨dp, 0, none⟩)) ∧ w4.cell? ⟨p, 3, none⟩ = some (.slice S.A S.l.length S.c) := by obtain ⟨_, _, _, _, _, _, k4⟩ := hu; exact ⟨(k4.cell p 0 hpl3 (fun h => h)).trans hS.1, (k4.cell p 3 hpl3 (fun h => h)).trans hS.2⟩
  have hS := hS4
  clear hch
  refine ⟨hS, ?_⟩
  try simp only [Act.put, List.setIfInBounds_toArray, List.set_cons_zero, List.set_cons_succ]
--@@
  obtain ⟨R, c, L, hu, cr, hL, k4⟩ := hu
  cases hu
  have h4 := h3.new k4
  have hLl : L.length ≤ 128 := by
    have := chgTo_len S 128
    rw [← hL, List.length_map] at this
    exact this
  have hpl4 := h4.pl
  have k24 : Keeps (fun _ => False) w2 w4 := k3.trans k4
  have hM4 := m2.keep k24 (fun _ _ _ h => h)
  have kw4 : Keeps (fun _ => False) w w4 := (K0.out.trans k2).trans k24
  have hT4 := hT.keeps kw4 (fun h => h)
  have hgL := good_of hL h.ok.live
  have hgV := good_of (chgV_pr S) h.ok.live
  obtain ⟨_, _, _, _, hdk0, _⟩ := h.disk
  have hok := BOk.of (l := S.l) on hq ha (by rw [hdk0.ok.n_eq]; exact hdk0.ok.n_le) h.ok.len (fun a ha => (h.ok.secs a ha).1)
  have hbu := build_at h4.disk hM4 hT4 hok (Nat.le_trans hhi k24.size) (by have := hT.pos; omega) (fun k hk _ => by
    have := h.lt k hk
    exact ⟨by omega, fun e => hF0 (e ▸ hk)⟩) S.last.top S.last.top.toNat (E := 0) (fun lb mb n iv => hE ▸ reachE_any on.up dp lb mb n iv S.last.top (by omega) (by omega)) (fun _ => HT.out) R L c cr (by omega)
  have hbu2 := hbu.mono fun e w' hb => buildOut_ok hb hgL hgV (hL.trans (chgV_pr S).symm) hroom
  have hbv : rebV bnxt D S.last.top.toNat 0 (chgV S) ⟨D, heldK D.n S.l, 8000⟩ = bldV D S := rfl
  rw [hbv, ht] at hbu2
  clear hbu hbv hok hgL hgV hT4 hM4 cr hL
--@bld4
  refine wpAnyH_all (rs := [16]) (by kernel_rfl) (by simp) fun i hi => ?_
  obtain rfl : i = 16 := by simpa using hi
  refine op_call (om := ⟨_, _, _, _, _, _⟩) (fn := 142) (args := #[.pointer (some ⟨dp, 0, none⟩), .pointer (some ⟨mp, 0, none⟩), .int .i64 S.last.top, .slice R L.length c]) (R := fun u w' => u = .tuple #[.int .i64 (top : Int), .int .i64 0] ∧ Built w4 Fd dp w1.heap.size hb2 mp (bldV D S).2.2 w') rfl rfl (by go_simp)
    (hbu2.mono fun e w' h => ⟨_, h.1, rfl, h.2⟩) _ _ rfl rfl ?_
  rintro u w5 ⟨hu, hB⟩
  subst hu
  have k5 := hB.2.2.2
  have hS5 : w5.cell? ⟨p, 0, none⟩ = some (.pointer (some ⟨dp, 0, none⟩)) ∧ w5.cell? ⟨p, 3, none⟩ = some (.slice S.A S.l.length S.c) := ⟨(k5.cell p 0 hpl4 (fun f => f.elim (fun f => h.np f.1) (fun f => by omega))).trans hS.1, (k5.cell p 3 hpl4 (fun f => f.elim (fun f => h.np f.1) (fun f => by omega))).trans hS.2⟩
  have hS := hS5
  clear hbu2
  refine ⟨hS, ?_⟩
  try simp only [Act.put, List.setIfInBounds_toArray, List.set_cons_zero, List.set_cons_succ]
  refine wpAnyH_take (oi := ⟨_, _, _, _, _, _⟩) (i := 17) (v := .tuple #[.int .i64 (top : Int), .int .i64 0]) rfl (by kernel_rfl) (by kernel_rfl) (by kernel_rfl) (fun _ _ _ h => h) (Or.inl ⟨by rfl, fun _ _ => rfl⟩) hS ?_
  try simp only [Act.put, List.setIfInBounds_toArray, List.set_cons_zero, List.set_cons_succ]
  refine wpAnyH_take (oi := ⟨_, _, _, _, _, _⟩) (i := 18) (v := .int .i64 (top : Int)) rfl (by kernel_rfl) (by kernel_rfl) (by kernel_rfl) (fun _ _ _ h => h) (Or.inl ⟨by rfl, fun _ _ => by go_simp⟩) hS ?_
  try simp only [Act.put, List.setIfInBounds_toArray, List.set_cons_zero, List.set_cons_succ]
  refine wpAnyH_take (oi := ⟨_, _, _, _, _, _⟩) (i := 19) (v := .int .i64 0) rfl (by kernel_rfl) (by kernel_rfl) (by kernel_rfl) (fun _ _ _ h => h) (Or.inl ⟨by rfl, fun _ _ => by go_simp⟩) hS ?_
  try simp only [Act.put, List.setIfInBounds_toArray, List.set_cons_zero, List.set_cons_succ]
  refine wpAnyH_take (oi := ⟨_, _, _, _, _, _⟩) (i := 20) (v := .int .i64 (top : Int)) rfl (by kernel_rfl) (by kernel_rfl) (by kernel_rfl) (fun _ _ _ h => h) (Or.inl ⟨by rfl, fun _ _ => rfl⟩) hS ?_
  try simp only [Act.put, List.setIfInBounds_toArray, List.set_cons_zero, List.set_cons_succ]
  refine wpAnyH_take (oi := ⟨_, _, _, _, _, _⟩) (i := 21) (v := .int .i64 0) rfl (by kernel_rfl) (by kernel_rfl) (by kernel_rfl) (fun _ _ _ h => h) (Or.inl ⟨by rfl, fun _ _ => rfl⟩) hS ?_
  try simp only [Act.put, List.setIfInBounds_toArray, List.set_cons_zero, List.set_cons_succ]
  refine wpAnyH_done (by kernel_rfl) ?_ _
  try simp only [Act.put, List.setIfInBounds_toArray, List.set_cons_zero, List.set_cons_succ]
--@@
  obtain ⟨⟨Fd1, hD5, hlt5, hs5⟩, _, _, _⟩ := hB
  have K5 : Keeps Fd w w5 := ⟨k5.os.trans kw4.os, k5.tape.trans kw4.tape, k5.output.trans kw4.output, Nat.le_trans kw4.size k5.size, fun b hb hf => (k5.block b (Nat.lt_of_lt_of_le hb kw4.size) (fun f => f.elim (fun f => hf f.1) (fun f => by omega))).trans (kw4.block b hb (fun h => h))⟩
  have hd5 : Dk w5 (Gr Fd w) dp (bldV D S).2.2.D := hD5.mono (fun b hb f => (hs5 b f).elim (fun f => .inl f.1) (fun f => .inr (by have := kw4.size; omega)))
  obtain ⟨Fd2, h5, hs2⟩ := h.wrote hd5 K5
  have hadd := add_at h5 hd1 top ht2 hw1 hps hg (fun e => absurd e hl) (fun e => absurd e hl)
  have K6 : Keeps (own p Fd) w w5 := K5.mono (fun _ _ f => .inr f)
  have HK := Lib.hid K6
  have HS2 := Lib.hid hs2
  have HR := Lib.hid (show ∀ Z : Nat → Prop, (∀ b, Z b → b < w.heap.size) → LR w Z S.A S.l → LR w5 Z S.A S.l from fun Z _ hz => h.row.both hz K6)
  try clear hS
  try clear hS5
  try clear hD5
  try clear hlt5
  try clear hs5
  try clear K5
  try clear hd5
  try clear hs2
  try clear K6
  try clear k5
  try clear h4
  try clear k4
  try clear k24
  try clear kw4
  try clear hpl4
  try clear hpl3
  try clear hpl2
  try clear hpl1
  try clear h3
  try clear k3
  try clear hS4
  try clear hS3
  try clear hS2
  try clear h2
  try clear k2
  try clear m2
  try clear hhi
  try clear hlo
  try clear h0
  try clear hsz1
  try clear hfk
  try clear hfs
  try clear hi
  go_wp2_with fail
  refine (demand_ok w5).mono ?_
  rintro e w5' ⟨rfl, rfl⟩
  go_wp2_with fail
  refine hadd.mono ?_
  rintro e w6 ⟨rfl, A, c1, R1, cp, ⟨⟨Fd3, h6, hs3⟩, k6⟩, hr6⟩
  have hml : S.live.length = 8192 := h.ok.live
  have hv1 := h6.ok.saved
  have hrs : w6.rangeAt p 8196 (S.live.map B8) := by
    have := h6.liveR 0 8192 (by omega)
    rwa [List.drop_zero, List.take_of_length_le (by show S.live.length ≤ 8192; omega)] at this
  have LM := Lib.hid (loadM (w := w6) hml hrs)
  have SM := Lib.hid (storeM (w := w6) (b := p) (o := 4) hml (h6.there 4 8192 (by omega)))
  obtain ⟨q, kq⟩ := h6.putSaved 0 S.live (by omega)
  rw [Nat.add_zero, splice_whole (show S.saved.length = S.live.length by rw [hml]; exact hv1)] at q
  have st6 : Stepped w6 Fd3 t tail p dp { S with A := A, c := c1, l := addL S.l ⟨S.gen + 1, top, R1, ps1.map Prod.fst, cp⟩, saved := S.live } (bldV D S).2.2.D (w6.setCells p 4 (S.live.map B8)) := ⟨⟨Fd3, q, fun _ h => .inl h⟩, kq⟩
  have r6 := Stepped.rows h6 st6 rfl rfl
  have HF := Lib.hid (show BuildSt w Fd t tail p dp S (bldV D S).2.2.D top (ps1.map Prod.fst) (.returned (.tuple #[])) (w6.setCells p 4 (S.live.map B8)) from ⟨rfl, A, c1, R1, cp, Stepped.trans HK.out HS2.out (Stepped.trans k6 hs3 st6), fun Z hZ hz => r6 Z (fun b hb => by have := hZ b hb; have := HK.out.size; have := k6.size; omega) (hr6 Z (fun b hb => by have := hZ b hb; have := HK.out.size; omega) (HR.out Z hZ hz))⟩)
  clear h6 hs3 k6 hr6 hrs q kq st6 r6
  go_wp2_with (first
    | ((with_reducible refine here (op := .load 80 (.tmp 32)) ?_); refine wpList_load_run rfl 80 _ rfl _ _ rfl LM.out ?_)
    | ((with_reducible refine here (op := .store 80 (.tmp 35) (.tmp 33)) ?_); refine wpList_store_run rfl 80 _ _ rfl _ _ rfl rfl SM.out ?_))
  go_end0
  exact HF.out
end
end Go.Proofs.YtebecpjecchfoaaGreatDoor.St
namespace Go.Proofs.YtebecpjecchfoaaGreatDoor.St
set_option linter.unusedSimpArgs false
set_option linter.unusedVariables false
open Go.RowKit Go.Maps

/-- The state behind build. -/
def newS (S1 : SSt) (top : Nat) (secs : List Nat) (A : Option Addr) (c : Nat) (R : Option Addr) (cp : Nat) : SSt := { S1 with A := A, c := c, l := addL S1.l ⟨S1.gen + 1, top, R, secs, cp⟩, saved := S1.live }
/-- The root's record behind it. -/
def recS (S1 : SSt) (top : Nat) : List UInt8 := encL (S1.gen + 1) ((addL S1.l ⟨S1.gen + 1, top, none, [], 0⟩).map snOf)
theorem newS_sn (S1 : SSt) (top : Nat) (secs : List Nat) (A : Option Addr) (c : Nat) (R : Option Addr) (cp : Nat) : (newS S1 top secs A c R cp).l.map snOf = (addL S1.l ⟨S1.gen + 1, top, none, [], 0⟩).map snOf := by
  unfold newS addL
  simp [List.map_drop, snOf]
theorem newS_rec (S1 : SSt) (top : Nat) (secs : List Nat) (A : Option Addr) (c : Nat) (R : Option Addr) (cp : Nat) : (newS S1 top secs A c R cp).record = recS S1 top := by
  unfold SSt.record recS
  rw [newS_sn]
  rfl
def fsC : List FuncId := [84, 85, 61, 59, 61]
theorem fsC_enters : ∀ f ∈ fsC, ∀ args w, (callFunc f args).run Tryz.prog w = .ok (.enter f args) w := by
  intro f hf args w
  simp only [fsC, List.mem_cons, List.not_mem_nil, or_false] at hf
  rcases hf with rfl | rfl | rfl | rfl | rfl
  · exact enters_of Tryz.func84 (by kernel_rfl) rfl args w
  · exact enters_of Tryz.func85 (by kernel_rfl) rfl args w
  · exact enters_of Tryz.func61 (by kernel_rfl) rfl args w
  · exact enters_of Tryz.func59 (by kernel_rfl) rfl args w
  · exact enters_of Tryz.func61 (by kernel_rfl) rfl args w
/-- What is asked of a commit: g of the oldest go, the new tree is at top, its pages at ps1. -/
structure ComH (D0 : DSt) (S0 : SSt) (cost g : Nat) (S1 : SSt) (D1 D2 : DSt) (top : Nat) (ps0 ps1 ps2 : PL) : Prop where
  on0 : On D0
  q0 : D0.Q.length ≤ 900000
  a0 : D0.acts ≤ 90000000
  l0 : S0.l ≠ []
  w0 : walkT D0 D0.n S0.last.top = some ps0
  need : needS D0 S0 cost
  g0 : S0.gen + 1 < 18446744073709551616
  may0 : ∀ g, g < S0.l.length → mayB (S0.gen + 1) ((S0.l.drop g).map snOf) = true
  gone : goneV D0.n S0.l cost = some g
  s1 : S1 = S0.less g none 0
  d1 : D1 = lessD D0 S0 g
  on1 : On D1
  q1 : D1.Q.length ≤ 1000
  a1 : D1.acts ≤ 900000
  l1 : S1.l ≠ []
  w1 : walkT D1 D1.n S1.last.top = some ps1
  room : needs D1 S1.last.top.toNat (chgV S1) ≤ Sp.nfree (heldK D1.n S1.l)
  top1 : (bldV D1 S1).1 = (top : Int)
  top2 : top ≤ 65535
  d2 : D2 = (bldV D1 S1).2.2.D
  w2 : walkT D2 D2.n top = some ps2
  n2 : ps2.length ≤ 2000
  g1 : S1.gen + 1 < 18446744073709551616
  on2 : On D2
  q2 : D2.Q.length ≤ 900000
  a2 : D2.acts ≤ 90000000
  on3 : On D2.flush
  q3 : D2.flush.Q.length ≤ 900000
  a3 : D2.flush.acts ≤ 90000000
  at1 : S1.at_ = 0 ∨ S1.at_ = 1
  may1 : mayB (S1.gen + 1) ((addL S1.l ⟨S1.gen + 1, top, none, [], 0⟩).map snOf) = true
def comD (S1 : SSt) (D2 : DSt) (top : Nat) : DSt := (D2.flush.write (1 - S1.at_) (recS S1 top)).flush
def CP (D0 : DSt) (S0 S1 : SSt) (D1 D2 : DSt) (top : Nat) (ps2 : PL) : Nat → SSt → DSt → Prop
  | 0, S, D => S = S0 ∧ D = D0
  | 1, S, D => (∃ A c, S = { S1 with A := A, c := c }) ∧ D = D1
  | 2, S, D => (∃ A c R cp, S = newS S1 top (ps2.map Prod.fst) A c R cp) ∧ D = D2
  | 3, S, D => (∃ A c R cp, S = newS S1 top (ps2.map Prod.fst) A c R cp) ∧ D = D2.flush
  | 4, S, D => (∃ A c R cp, S = (newS S1 top (ps2.map Prod.fst) A c R cp).put) ∧ D = D2.flush.write (1 - S1.at_) (recS S1 top)
  | _, S, D => (∃ A c R cp, S = (newS S1 top (ps2.map Prod.fst) A c R cp).put) ∧ D = comD S1 D2 top
theorem less_form (S0 : SSt) (g : Nat) (A : Option Addr) (c : Nat) : ∃ A' c', S0.less g A c = { S0.less g none 0 with A := A', c := c' } := by
  unfold SSt.less
  split
  · exact ⟨S0.A, S0.c, rfl⟩
  · exact ⟨A, c, rfl⟩
theorem commit_steps {D0 : DSt} {S0 S1 : SSt} {D1 D2 : DSt} {cost g top : Nat} {ps0 ps1 ps2 : PL} (H : ComH D0 S0 cost g S1 D1 D2 top ps0 ps1 ps2)
    (B : Nat) (Z : Nat → Prop) (hZ : ∀ b, Z b → b < B) (t : TypeId) (p dp : Nat) (hp : p ≠ 0) (hB : B ≠ 0) : Steps (IS True (CP D0 S0 S1 D1 D2 top ps2) B Z t p dp) (XS (fun _ _ _ => False) B Z t p dp) B fsC (.pointer (some ⟨p, 0, none⟩)) := by
  refine steps_of (fun _ => ⟨hp, hB⟩) hZ fsC_enters ?_
  intro k hk w Fd S D' h hP hM
  have hk5 : k < 5 := hk
  match k, hk5 with
  | 0, _ =>
    obtain ⟨rfl, rfl⟩ := hP
    refine (room_at h H.on0 H.q0 H.a0 H.l0 H.w0 H.need H.g0 H.may0).mono ?_
    rintro e w' (⟨g', hg', rfl, A, c, hs, hr⟩ | ⟨hno, _⟩)
    · rw [H.gone] at hg'
      cases hg'
      obtain ⟨A', c', e⟩ := less_form S g A c
      rw [← H.s1] at e
      rw [← H.d1] at hs
      exact .inl ⟨rfl, _, _, hs, hr, ⟨A', c', e⟩, rfl⟩
    · rw [H.gone] at hno; cases hno
  | 1, _ =>
    obtain ⟨⟨A, c, rfl⟩, rfl⟩ := hP
    obtain ⟨hT, hF0⟩ := hM trivial
    refine (build_st h H.on1 H.q1 H.a1 H.l1 H.w1 hT hF0 H.room H.top1 H.top2 (by have := H.w2; rw [H.d2] at this; exact this) H.n2 (by have := H.on2.up; rw [H.d2] at this; exact this) H.g1).mono ?_
    rintro e w' ⟨rfl, A', c', R, cp, hs, hr⟩
    exact .inl ⟨rfl, _, _, hs, hr, ⟨A', c', R, cp, rfl⟩, H.d2.symm⟩
  | 2, _ =>
    obtain ⟨⟨A, c, R, cp, rfl⟩, rfl⟩ := hP
    refine (flush_at h (by have := H.q2; omega) (by have := H.a2; omega)).mono ?_
    rintro e w' ⟨rfl, hs⟩
    rw [H.on2.fl]
    exact .inl ⟨rfl, _, _, hs, Stepped.rows h hs rfl rfl, ⟨A, c, R, cp, rfl⟩, rfl⟩
  | 3, _ =>
    obtain ⟨⟨A, c, R, cp, rfl⟩, rfl⟩ := hP
    refine (putRoot_at h H.on3 H.g1 (by rw [newS_sn]; exact H.may1)).mono ?_
    rintro e w' ⟨rfl, hs⟩
    refine .inl ⟨rfl, _, _, hs, Stepped.rows h hs rfl rfl, ⟨A, c, R, cp, rfl⟩, ?_⟩
    rw [newS_rec]
    rfl
  | 4, _ =>
    obtain ⟨⟨A, c, R, cp, rfl⟩, rfl⟩ := hP
    have h01 : 1 - S1.at_ = 0 ∨ 1 - S1.at_ = 1 := by rcases H.at1 with e | e <;> omega
    have hq := H.q3
    have ha := H.a3
    have on1 := H.on3.wr (1 - S1.at_) (recS S1 top) h01 (encL_len _ _) (by omega) (by omega)
    refine (flush_at h (by have := on1.que; omega) (by have := on1.acts; omega)).mono ?_
    rintro e w' ⟨rfl, hs⟩
    rw [on1.fl]
    exact .inl ⟨rfl, _, _, hs, Stepped.rows h hs rfl rfl, ⟨A, c, R, cp, rfl⟩, rfl⟩
section
variable {w : World} {Fd : Nat → Prop} {p dp : Nat} {S : SSt} {D : DSt}
/-- What Commit leaves. -/
def CommitOut (w : World) (Fd : Nat → Prop) (p dp : Nat) (S1 : SSt) (D2 : DSt) (top : Nat) (ps2 : PL) (e : Ending) (w' : World) : Prop :=
  e = .returned (.int .i64 0) ∧ ∃ A c R cp Fd', SnAt w' Fd' 84 [.bool false] p dp (newS S1 top (ps2.map Prod.fst) A c R cp).put (comD S1 D2 top) ∧ Keeps (own p Fd) w w' ∧ ∀ b, Fd' b → Fd b ∨ w.heap.size ≤ b
/-- What Commit comes to, by its steps. -/
def ComVia (w : World) (Fd : Nat → Prop) (p dp : Nat) (S0 : SSt) (P : Nat → SSt → DSt → Prop) (PX : Int → SSt → DSt → Prop) (e : Ending) (w' : World) : Prop :=
  ∃ E S' D' Fd', e = .returned (.int .i64 E) ∧ Keeps (own p Fd) w w' ∧ (∀ b, Fd' b → Fd b ∨ w.heap.size ≤ b) ∧
    ((E = 0 ∧ P 5 S' D' ∧ SnAt w' Fd' 84 [.bool false] p dp S' D') ∨ (E ≠ 0 ∧ PX E S' D' ∧ SnAt w' Fd' 84 [.bool (E == 20)] p dp S0 D'))
set_option maxRecDepth 20000 in
set_option maxHeartbeats 1600000 in
theorem commit_via (h : SnAt w Fd 84 [.bool false] p dp S D) (hl0 : S.l ≠ []) {P : Nat → SSt → DSt → Prop} {PX : Int → SSt → DSt → Prop} (hP0 : P 0 S D) (hPX : ∀ {E S D}, PX E S D → E ≠ 0) (hT : Sp.Tab w) (hF0 : ¬ Fd 0)
    (hst : ∀ (B : Nat) (Z : Nat → Prop), (∀ b, Z b → b < B) → ∀ q, q ≠ 0 → B ≠ 0 → Steps (IS True P B Z 82 q dp) (XS PX B Z 82 q dp) B fsC (.pointer (some ⟨q, 0, none⟩))) :
    Calls Tryz.prog 31 #[.pointer (some ⟨p, 0, none⟩)] w (ComVia w Fd p dp S P PX) := by
  have hf := fault_at h hl0
  simp only [Bool.false_eq_true, if_false] at hf
  obtain ⟨hp1, hq1, hz1, hzq1, k1, s1, th1⟩ := copy_st h
  have LD := Lib.hid (loadSt (w := w) (b := p) (dp := dp) h.ok.saved h.ok.live h.state)
  have ST := Lib.hid (storeSt (b := w.heap.size) (dp := dp) h.ok.saved h.ok.live th1)
  have hpl := h.pl
  have hlt := h.lt
  have hnp := h.np
  have hco : copied w Tryz.zeroCells82 dp S = (newSt w Tryz.zeroCells82).setCells w.heap.size 0 (scells dp S []) := rfl
  rw [hco] at hp1 hq1 hz1 hzq1 k1 s1
  have BL := Lib.hid (fun w q => bslice5 w q 84 85 61 59 61)
  clear h th1 hco
  go_enter Tryz.func31, Tryz.ntmps31
  go_wp2_with fail
  refine hf.mono ?_
  rintro e w2 ⟨rfl, rfl⟩
  clear hf
  generalize (scells dp S []).toArray = cs at *
  generalize scells dp S [] = cl at *
  go_wp2_with (first
    | ((with_reducible refine here (op := .load 82 (.tmp 12)) ?_); refine wpList_load_run rfl 82 _ rfl _ _ rfl LD.out ?_)
    | ((with_reducible refine here (op := .store 82 (.tmp 4) (.tmp 13)) ?_); refine wpList_store_run rfl 82 _ _ rfl _ _ rfl rfl ST.out ?_))
  have hfs : (fsC.map fun f => Value.func (.func f) #[.pointer (some ⟨w.heap.size, 0, none⟩)] #[]).toArray = #[mv 84 w.heap.size, mv 85 w.heap.size, mv 61 w.heap.size, mv 59 w.heap.size, mv 61 w.heap.size] := rfl
  generalize (newSt w Tryz.zeroCells82).setCells w.heap.size 0 cl = w4 at *
  have kA : Keeps (fun _ => False) w4 (w4.alloc (.cells #[mv 84 w.heap.size, mv 85 w.heap.size, mv 61 w.heap.size, mv 59 w.heap.size, mv 61 w.heap.size] 1)) := Keeps.alloc _ _ _
  have eA : (w4.alloc (.cells #[mv 84 w.heap.size, mv 85 w.heap.size, mv 61 w.heap.size, mv 59 w.heap.size, mv 61 w.heap.size] 1)).heap[w.heap.size + 1]? = some (.cells #[mv 84 w.heap.size, mv 85 w.heap.size, mv 61 w.heap.size, mv 59 w.heap.size, mv 61 w.heap.size] 1 (0, 0)) := blk_at_last _ _ _ s1.symm
  have sA : (w4.alloc (.cells #[mv 84 w.heap.size, mv 85 w.heap.size, mv 61 w.heap.size, mv 59 w.heap.size, mv 61 w.heap.size] 1)).heap.size = w.heap.size + 2 := by rw [World.size_alloc, s1]
  rw [← hfs] at kA eA sA
  change Calls Tryz.prog _ _ (w4.alloc (.cells (fsC.map fun f => Value.func (.func f) #[.pointer (some ⟨w.heap.size, 0, none⟩)] #[]).toArray 1)) _
  generalize w4.alloc (.cells (fsC.map fun f => Value.func (.func f) #[.pointer (some ⟨w.heap.size, 0, none⟩)] #[]).toArray 1) = w5 at *
  have kz : ∀ {F : Nat → Prop} {A : Option Addr} {l : List Ck}, LR w4 F A l → LR w5 F A l := fun h => h.keep (kA.mono (fun _ _ h => h.elim)) (fun _ _ f => f)
  have hpos := hT.pos
  have hbc := become_any (T := True) (fs := fsC) (hp1.new kA) (hq1.new kA) (by omega) (kz hz1) (kz hzq1)
    (hst w5.heap.size (· = p) (fun b e => by omega) w.heap.size (by omega) (by omega)) hP0 (fun _ => ⟨hT.keeps (k1.trans kA) (fun h => h), hF0⟩) hPX eA (fun f => by
      rcases f with f | f
      · omega
      · have := hlt _ f; omega) (by decide)
  have HB := Lib.hid hbc
  have KW := Lib.hid (k1.trans kA)
  clear hbc hp1 hq1 hz1 hzq1 kz eA hfs kA k1
  refine HB.out.mono ?_
  rintro e w6 ⟨E, S', D', Fd', rfl, k6, s6, h6⟩
  have HF := Lib.hid (show ComVia w Fd p dp S P PX (.returned (.int .i64 E)) w6 from ⟨E, S', D', Fd', rfl, ((KW.out.mono (fun _ _ h => h.elim) : Keeps (fun b => b = p ∨ b = w.heap.size ∨ Fd b) w w5).trans k6).mono (fun b hb f => by
      rcases f with f | f | f
      · exact .inl f
      · omega
      · exact .inr f), fun b hb => by
      rcases s6 b hb with f | f
      · exact .inl f
      · exact .inr (by omega), h6⟩)
  clear h6 k6 s6 HB
  go_wp2_with fail
  go_ret
  exact HF.out
theorem commit_ok (h : SnAt w Fd 84 [.bool false] p dp S D) {S1 : SSt} {D1 D2 : DSt} {cost g top : Nat} {ps0 ps1 ps2 : PL} (H : ComH D S cost g S1 D1 D2 top ps0 ps1 ps2) (hT : Sp.Tab w) (hF0 : ¬ Fd 0) :
    Calls Tryz.prog 31 #[.pointer (some ⟨p, 0, none⟩)] w (CommitOut w Fd p dp S1 D2 top ps2) := by
  refine (commit_via h H.l0 (P := CP D S S1 D1 D2 top ps2) (PX := fun _ _ _ => False) ⟨rfl, rfl⟩ (fun h => h.elim) hT hF0 (fun B Z hZ q hq hB => commit_steps H B Z hZ _ q dp hq hB)).mono ?_
  rintro e w' ⟨E, S', D', Fd', rfl, k, s, ⟨rfl, ⟨⟨A, c, R, cp, rfl⟩, rfl⟩, h'⟩ | ⟨_, hx, _⟩⟩
  · exact ⟨rfl, A, c, R, cp, Fd', h', k, s⟩
  · exact hx.elim
end
end Go.Proofs.YtebecpjecchfoaaGreatDoor.St
namespace Go.Proofs.YtebecpjecchfoaaGreatDoor.St
set_option linter.unusedSimpArgs false
set_option linter.unusedVariables false
open Go.RowKit Go.Maps

/-- n sectors, the power on, at most q writes that wait, at most a acts. -/
structure Quiet (n : Nat) (D : DSt) (q a : Nat) : Prop where
  ok : D.Ok n
  up : D.down = false
  left : D.left = -1
  q_le : D.Q.length ≤ q
  a_le : D.acts ≤ a
theorem Quiet.more {n : Nat} {D : DSt} {q a q' a' : Nat} (h : Quiet n D q a) (hq : q ≤ q') (ha : a ≤ a') : Quiet n D q' a' := ⟨h.ok, h.up, h.left, Nat.le_trans h.q_le hq, Nat.le_trans h.a_le ha⟩
theorem Quiet.on {n : Nat} {D : DSt} {q a : Nat} (h : Quiet n D q a) (hn : 8 ≤ n) (hq : q ≤ 1000000) (ha : a ≤ 100000000) : On D :=
  ⟨h.up, by rw [h.left]; decide, by rw [h.ok.n_eq]; exact hn, Nat.le_trans h.q_le hq, Nat.le_trans h.a_le ha⟩
theorem quiet_spent {D : DSt} (hl : D.left = -1) : D.spent = { D with acts := D.acts + 1 } := by
  unfold DSt.spent
  rw [if_neg (by rw [hl]; decide), if_neg (by rw [hl]; decide)]
theorem Quiet.flush {n : Nat} {D : DSt} {q a : Nat} (h : Quiet n D q a) : Quiet n D.flush 0 (a + 1) := by
  have e : D.flush = { D with L := layTo fAll D.L D.Q D.Q.length, Q := [], acts := D.acts + 1 } := by
    unfold DSt.flush
    rw [if_neg (by rw [h.up]; simp), if_neg (by rw [h.left]; decide), quiet_spent h.left]
    rfl
  have hQ : ∀ q ∈ D.Q, q.1 * 64 + 64 ≤ D.L.length ∧ q.2.length = 64 := fun q hq => by
    have := h.ok.q q hq
    have := h.ok.len
    omega
  rw [e]
  refine ⟨⟨?_, h.ok.n_le, fun q hq => (by cases hq), h.ok.lo, h.ok.hi⟩, h.up, h.left, Nat.le_refl _, Nat.succ_le_succ h.a_le⟩
  show (layTo fAll D.L D.Q D.Q.length).length = 64 * n
  rw [layTo_len _ _ _ hQ _ (Nat.le_refl _), h.ok.len]
theorem Quiet.write {n : Nat} {D : DSt} {q a : Nat} (h : Quiet n D q a) (i : Int) (b : List UInt8) (hi : i = 0 ∨ i = 1) (hb : b.length = 64) (hn : 8 ≤ n) (hq : q ≤ 1000000) (ha : a ≤ 100000000) : Quiet n (D.write i b) (q + 1) (a + 1) := by
  rw [((h.on hn hq ha).write i b hi hb).2, quiet_spent h.left]
  refine ⟨⟨h.ok.len, h.ok.n_le, fun q hq => ?_, h.ok.lo, h.ok.hi⟩, h.up, h.left, ?_, Nat.succ_le_succ h.a_le⟩
  · rcases List.mem_append.1 hq with hq | hq
    · exact h.ok.q q hq
    · rw [List.mem_singleton] at hq
      subst hq
      exact ⟨by rcases hi with e | e <;> subst e <;> simp <;> omega, hb⟩
  · show (D.Q ++ [(i.toNat, b)]).length ≤ q + 1
    rw [List.length_append]
    have := h.q_le
    simp
    exact this
theorem Quiet.fresh (n : Nat) (hn : n ≤ 2000) : Quiet n (fresh n) 0 0 :=
  ⟨⟨by simp [Go.Proofs.YtebecpjecchfoaaGreatDoor.fresh, Nat.mul_comm], hn, fun q hq => (by cases hq), by simp [Go.Proofs.YtebecpjecchfoaaGreatDoor.fresh], by simp [Go.Proofs.YtebecpjecchfoaaGreatDoor.fresh]⟩, rfl, rfl, Nat.le_refl _, Nat.le_refl _⟩
theorem rec1_len : rec1.length = 64 := encL_len _ _
theorem Quiet.formatted {n : Nat} {D : DSt} {q a : Nat} (h : Quiet n D q a) (hn : 8 ≤ n) (hq : q ≤ 100000) (ha : a ≤ 10000000) : Quiet n (DSt.formatted D) 0 (a + 3) := by
  unfold DSt.formatted
  have h1 := h.write 0 rec1 (.inl rfl) rec1_len hn (by omega) (by omega)
  have h2 := h1.write 1 zs64 (.inr rfl) zs64_len hn (by omega) (by omega)
  exact h2.flush
theorem chg_none {S : SSt} (h : S.live = S.saved) : chgV S = [] := by
  have : chgTo S 128 = [] := by
    unfold chgTo
    rw [h]
    simp
  unfold chgV
  rw [this]
  rfl
theorem keys_none : keysF (latestF []) = [] := by
  unfold keysF
  rw [List.filter_eq_nil_iff]
  intro k _
  simp [latestF]
  rfl
/-- What Commit asks where nothing is changed and the tree is noughts. -/
theorem idle {n : Nat} {D : DSt} {S : SSt} {q a : Nat} (hD : Quiet n D q a) (hn : 8 ≤ n) (hq : q ≤ 1000) (ha : a ≤ 900000) (hl : S.l ≠ []) (ht : S.last.top = 0) (hs : S.live = S.saved) (hg : S.gen + 1 < 18446744073709551616) (hat : S.at_ = 0 ∨ S.at_ = 1)
    (hm : ∀ g, g < S.l.length → mayB (S.gen + 1) ((S.l.drop g).map snOf) = true) (hm1 : mayB (S.gen + 1) ((addL S.l ⟨S.gen + 1, 0, none, [], 0⟩).map snOf) = true) :
    ComH D S 0 0 S D D 0 [] [] [] := by
  have hc := chg_none hs
  have hb : bldV D S = (0, 0, ⟨D, heldK D.n S.l, 8000⟩) := by
    unfold bldV
    rw [hc, rebV_none bnxt D S.last.top.toNat _ (fun a ha => by cases ha) keys_none, ht]
    rfl
  have hneed : needs D S.last.top.toNat (chgV S) = 0 := by
    unfold needs
    rw [hc, if_pos keys_none]
  have on := hD.on hn (by omega) (by omega)
  have hf := hD.flush
  have onf := hf.on hn (by omega) (by omega)
  have hwt : walkT D D.n S.last.top = some [] := by unfold walkT; rw [if_pos ht]
  have hlen : 0 < S.l.length := List.length_pos_iff.2 hl
  refine { on0 := on, q0 := by have := hD.q_le; omega, a0 := by have := hD.a_le; omega, l0 := hl, w0 := hwt, need := hneed.symm, g0 := hg, may0 := hm, gone := goneV_some hlen (fun g hg => by omega) (Nat.zero_le _), s1 := ?_, d1 := ?_, on1 := on, q1 := by have := hD.q_le; omega, a1 := by have := hD.a_le; omega, l1 := hl, w1 := hwt, room := by rw [hneed]; exact Nat.zero_le _, top1 := by rw [hb]; rfl, top2 := by decide, d2 := by rw [hb], w2 := by unfold walkT; exact if_pos (by rfl), n2 := by decide, g1 := hg, on2 := on, q2 := by have := hD.q_le; omega, a2 := by have := hD.a_le; omega, on3 := onf, q3 := by have := hf.q_le; omega, a3 := by have := hf.a_le; omega, at1 := hat, may1 := hm1 }
  · unfold SSt.less; rw [if_pos rfl]
  · unfold lessD; rw [if_pos rfl]
theorem Quiet.com {n : Nat} {D : DSt} {S : SSt} {q a : Nat} (h : Quiet n D q a) (hn : 8 ≤ n) (hq : q ≤ 1000) (ha : a ≤ 900000) (hat : S.at_ = 0 ∨ S.at_ = 1) (top : Nat) : Quiet n (comD S D top) 0 (a + 3) := by
  unfold comD
  have h1 := h.flush
  have h01 : 1 - S.at_ = 0 ∨ 1 - S.at_ = 1 := by rcases hat with e | e <;> omega
  have h2 := h1.write (1 - S.at_) (recS S top) h01 (encL_len _ _) hn (by omega) (by omega)
  exact h2.flush
theorem addL_sn (l : List Ck) (a : Ck) : (addL l a).map snOf = ((l.map snOf) ++ [snOf a]).drop ((l.map snOf).length - 3) := by
  unfold addL
  simp [List.map_drop]
theorem last_top {S : SSt} {L : List Sn} (hL : S.l.map snOf = L) (h0 : L ≠ []) : S.last.top = (L.getD (L.length - 1) sn0).t := by
  subst hL
  have hl : S.l ≠ [] := fun e => h0 (by rw [e]; rfl)
  obtain ⟨hk, e⟩ := SSt.last_eq hl
  rw [e, List.getD_eq_getElem?_getD, List.getElem?_map, List.length_map, List.getElem?_eq_getElem hk]
  rfl
/-- The same, by the checkpoints' Gens and Tops alone. -/
theorem idle2 {n : Nat} {D : DSt} {S : SSt} {q a : Nat} (L : List Sn) (hD : Quiet n D q a) (hn : 8 ≤ n) (hq : q ≤ 1000) (ha : a ≤ 900000) (hL : S.l.map snOf = L) (h0 : L ≠ []) (ht : (L.getD (L.length - 1) sn0).t = 0) (hs : S.live = S.saved) (hg : S.gen + 1 < 18446744073709551616) (hat : S.at_ = 0 ∨ S.at_ = 1)
    (hm : ∀ g, g < L.length → mayB (S.gen + 1) (L.drop g) = true) (hm1 : mayB (S.gen + 1) ((L ++ ([⟨S.gen + 1, 0⟩] : List Sn)).drop (L.length - 3)) = true) :
    ComH D S 0 0 S D D 0 [] [] [] := by
  have hlen : S.l.length = L.length := by rw [← hL, List.length_map]
  refine idle hD hn hq ha (fun e => h0 (by rw [← hL, e]; rfl)) ((last_top hL h0).trans ht) hs hg hat (fun g hgl => ?_) ?_
  · rw [List.map_drop, hL]
    exact hm g (by omega)
  · rw [addL_sn, hL]
    exact hm1
end Go.Proofs.YtebecpjecchfoaaGreatDoor.St
namespace Go.Proofs.YtebecpjecchfoaaGreatDoor.St
set_option linter.unusedSimpArgs false
set_option linter.unusedVariables false
open Go.RowKit Go.Maps

/-- A store of noughts at work, told by numbers. -/
structure Calm (w : World) (Fd : Nat → Prop) (p dp n q a : Nat) (g : Nat) (L : List Sn) (S : SSt) (D : DSt) : Prop where
  at_ : SnAt w Fd 84 [.bool false] p dp S D
  quiet : Quiet n D q a
  sn : S.l.map snOf = L
  gen : S.gen = g
  same : S.live = S.saved
section
variable {w : World} {Fd : Nat → Prop} {p dp n q a g : Nat} {L : List Sn} {S : SSt} {D : DSt}
theorem Calm.len (h : Calm w Fd p dp n q a g L S D) : S.l.length = L.length := by rw [← h.sn, List.length_map]
theorem Calm.ne (h : Calm w Fd p dp n q a g L S D) (h0 : L ≠ []) : S.l ≠ [] := fun e => h0 (by rw [← h.sn, e]; rfl)
theorem Calm.new {w' : World} (h : Calm w Fd p dp n q a g L S D) (k : Keeps (fun _ => False) w w') : Calm w' Fd p dp n q a g L S D := ⟨h.at_.new k, h.quiet, h.sn, h.gen, h.same⟩
def CalmOut (w : World) (Fd : Nat → Prop) (p dp n a g : Nat) (L : List Sn) (e : Ending) (w' : World) : Prop :=
  e = .returned (.int .i64 0) ∧ ∃ Fd' S D, Calm w' Fd' p dp n 0 a g L S D ∧ Keeps (own p Fd) w w' ∧ ∀ b, Fd' b → Fd b ∨ w.heap.size ≤ b
theorem commit_calm (h : Calm w Fd p dp n q a g L S D) (hn : 8 ≤ n) (hq : q ≤ 1000) (ha : a ≤ 900000) (h0 : L ≠ []) (ht : (L.getD (L.length - 1) sn0).t = 0) (hg : g + 1 < 18446744073709551616)
    (hm : ∀ k, k < L.length → mayB (g + 1) (L.drop k) = true) (hm1 : mayB (g + 1) ((L ++ ([⟨g + 1, 0⟩] : List Sn)).drop (L.length - 3)) = true) (hT : Sp.Tab w) (hF0 : ¬ Fd 0) :
    Calls Tryz.prog 31 #[.pointer (some ⟨p, 0, none⟩)] w (CalmOut w Fd p dp n (a + 3) (g + 1) ((L ++ ([⟨g + 1, 0⟩] : List Sn)).drop (L.length - 3))) := by
  obtain ⟨hat, hD, hL, hge, hs⟩ := h
  subst hge
  have hc := idle2 L hD hn hq ha hL h0 ht hs hg hat.ok.at_ hm hm1
  refine (commit_ok hat hc hT hF0).mono ?_
  rintro e w' ⟨rfl, A, c, R, cp, Fd', h', k, s⟩
  refine ⟨rfl, Fd', _, _, ⟨h', hD.com hn hq ha hat.ok.at_ 0, ?_, rfl, rfl⟩, k, s⟩
  show (newS S 0 _ A c R cp).l.map snOf = _
  rw [newS_sn, addL_sn, hL]
  rfl
theorem undo_calm (h : Calm w Fd p dp n q a g L S D) (hn : 8 ≤ n) (hq : q ≤ 1000) (ha : a ≤ 900000) (m : Nat) (hm0 : 0 < m) (hm : m < L.length) (ht : ((L.take (L.length - m)).getD (L.length - m - 1) sn0).t = 0) (hg : g + 1 < 18446744073709551616) (hmay : mayB (g + 1) (L.take (L.length - m)) = true) :
    Calls Tryz.prog 42 #[.pointer (some ⟨p, 0, none⟩), .int .i64 (m : Int)] w (CalmOut w Fd p dp n (a + 2) (g + 1) (L.take (L.length - m))) := by
  have hlen := h.len
  obtain ⟨hat, hD, hL, hge, hs⟩ := h
  subst hge
  have hcut : (S.cut (S.l.length - m)).l.map snOf = L.take (L.length - m) := by
    show (S.l.take _).map snOf = _
    rw [List.map_take, hL, hlen]
  have hne : L.take (L.length - m) ≠ [] := fun e => by
    have := congrArg List.length e
    rw [List.length_take] at this
    simp at this
    omega
  have htop := last_top hcut hne
  rw [List.length_take, show min (L.length - m) L.length - 1 = L.length - m - 1 from by omega, ht] at htop
  have on := hD.on hn (by omega) (by omega)
  refine (undo_ok hat on (by have := hD.q_le; omega) (by have := hD.a_le; omega) m hm0 (by omega) (ps := []) (by unfold walkT; rw [if_pos htop]) hg (by rw [hcut]; exact hmay)).mono ?_
  rintro e w' ⟨rfl, Fd', h', k, s⟩
  have h01 : 1 - S.at_ = 0 ∨ 1 - S.at_ = 1 := by rcases hat.ok.at_ with e | e <;> omega
  exact ⟨rfl, Fd', _, _, ⟨h', (hD.write (1 - S.at_) (S.cut (S.l.length - m)).record h01 (encL_len _ _) hn (by omega) (by omega)).flush, hcut, rfl, rfl⟩, k, s⟩
end
theorem fits20 : fitsE (fresh 20) = 0 := by kernel_rfl
/-- A store that Format made. -/
theorem calm_first {w : World} {Fd : Nat → Prop} {q dp n a : Nat} {A : Option Addr} {c : Nat} {R : Option Addr} {cp : Nat} {D : DSt} (h : SnAt w Fd 84 [.bool false] q dp (first A c R cp) D) (hD : Quiet n D 0 a) : Calm w Fd q dp n 0 a 1 [⟨1, 0⟩] (first A c R cp) D := ⟨h, hD, rfl, rfl, rfl⟩
theorem kover {w a b : World} {G : Nat → Prop} (h : Keeps (fun _ => False) w a) (k : Keeps G a b) (hG : ∀ x, G x → w.heap.size ≤ x) : Keeps (fun _ => False) w b :=
  ⟨k.os.trans h.os, k.tape.trans h.tape, k.output.trans h.output, Nat.le_trans h.size k.size, fun x hx _ => (k.block x (Nat.lt_of_lt_of_le hx h.size) (fun g => by have := hG x g; omega)).trans (h.block x hx (fun f => f))⟩
theorem own_over {w a : World} {q : Nat} {Fd Fd' : Nat → Prop} (h : ∀ b, own q Fd b → w.heap.size ≤ b) (hs : w.heap.size ≤ a.heap.size) (s : ∀ b, Fd' b → Fd b ∨ a.heap.size ≤ b) : ∀ b, own q Fd' b → w.heap.size ≤ b := by
  rintro b (rfl | hb)
  · exact h b (.inl rfl)
  · rcases s b hb with f | f
    · exact h b (.inr f)
    · omega
theorem snaps_calm {w : World} {Fd : Nat → Prop} {p dp n q a g k : Nat} {L : List Sn} {S : SSt} {D : DSt} (h : Calm w Fd p dp n q a g L S D) (h0 : L ≠ []) (hk : L.length = k) :
    Calls Tryz.prog 23 #[.pointer (some ⟨p, 0, none⟩)] w fun e w' => ∃ g, e = .returned (.slice (some ⟨g, 0, none⟩) k k) ∧ Keeps (fun _ => False) w w' := by
  refine (snapsS_at h.at_ (h.ne h0)).mono ?_
  rintro e w' ⟨g, rfl, _, _, k'⟩
  rw [h.len, hk]
  exact ⟨g, rfl, k'⟩
theorem nO20 : nOf 20 = 20 := by decide
set_option maxRecDepth 100000 in
set_option maxHeartbeats 2000000 in
theorem awake_s (w : World) (hT : Sp.Tab w) : Calls Tryz.prog 11 #[] w fun e w' => e = .returned (.bool true) ∧ Keeps (fun _ => False) w w' := by
  have hpos := hT.pos
  go_enter Tryz.func11, Tryz.ntmps11
  go_wp2_with fail
  refine (new_any 20 w).mono ?_
  rintro e w1 ⟨dp, rfl, hD, k1⟩
  rw [nO20] at hD
  have hD1 : Dk w1 (fun k => w.heap.size ≤ k ∧ k < w1.heap.size) dp (fresh 20) := hD.mono fun k hk hf => ⟨hf, hk⟩
  have hfm := Lib.hid (format_any hD1 (fun b hb => hb.2) (by decide) (by decide) (by decide))
  clear hD hD1
  go_wp2_with fail
  refine hfm.out.mono ?_
  clear hfm
  rintro e w2 (⟨_, q, A, c, R, cp, Fd, rfl, hq, h2, k2, s2⟩ | ⟨hf, _⟩)
  · have K2 := kover k1 k2 (fun x hx => hx.1)
    have hs1 := k1.size
    have hsub : ∀ b, own q Fd b → w.heap.size ≤ b := by
      rintro b (rfl | hb)
      · omega
      · rcases s2 b hb with f | f
        · exact f.1
        · omega
    have c2 := calm_first h2 ((Quiet.fresh 20 (by decide)).formatted (by decide) (by decide) (by decide))
    have m2 := Lib.hid (commit_calm c2 (by decide) (by decide) (by decide) (by simp) rfl (by decide) (by decide) (by decide) (hT.keeps K2 (fun h => h)) (fun h => by have := hsub 0 (.inr h); omega))
    clear h2 k1 k2 s2 hs1 hq
    have K2h := Lib.hid K2
    have hsubh := Lib.hid hsub
    clear K2 hsub c2
    go_wp2_with fail
    refine m2.out.mono ?_
    clear m2
    rintro e w3 ⟨rfl, Fd3, S3, D3, c3, k3, s3⟩
    have K3h := Lib.hid (kover K2h.out k3 hsubh.out)
    have sub3 := Lib.hid (own_over hsubh.out K2h.out.size s3)
    replace c3 : Calm w3 Fd3 q dp 20 0 6 2 [⟨1, 0⟩, ⟨2, 0⟩] S3 D3 := c3
    have m3 := Lib.hid (commit_calm c3 (by decide) (by decide) (by decide) (by simp) rfl (by decide) (by decide) (by decide) (hT.keeps K3h.out (fun h => h)) (fun h => by have := sub3.out 0 (.inr h); omega))
    clear K2h hsubh c3 k3 s3
    go_wp2_with fail
    refine m3.out.mono ?_
    clear m3
    rintro e w4 ⟨rfl, Fd4, S4, D4, c4, k4, s4⟩
    have K4h := Lib.hid (kover K3h.out k4 sub3.out)
    have sub4 := Lib.hid (own_over sub3.out K3h.out.size s4)
    replace c4 : Calm w4 Fd4 q dp 20 0 9 3 [⟨1, 0⟩, ⟨2, 0⟩, ⟨3, 0⟩] S4 D4 := c4
    have m4 := Lib.hid (snaps_calm c4 (by simp) (k := 3) rfl)
    have C4 := Lib.hid c4
    clear K3h sub3 c4 k4 s4
    go_wp2_with fail
    refine m4.out.mono ?_
    clear m4
    rintro e w5 ⟨g5, rfl, k5⟩
    have c5 := C4.out.new k5
    have K5h := Lib.hid (K4h.out.trans k5)
    have m5 : Hid (Calls Tryz.prog 42 #[.pointer (some ⟨q, 0, none⟩), .int .i64 2] w5 (CalmOut w5 Fd4 q dp 20 11 4 [⟨1, 0⟩])) := Lib.hid (undo_calm c5 (by decide) (by decide) (by decide) 2 (by decide) (by decide) rfl (by decide) (by decide))
    clear K4h C4 c5 k5
    go_wp2_with fail
    refine m5.out.mono ?_
    clear m5
    rintro e w6 ⟨rfl, Fd6, S6, D6, c6, k6, s6⟩
    have K6h := Lib.hid (kover K5h.out k6 sub4.out)
    have m6 := Lib.hid (snaps_calm c6 (by simp) (k := 1) rfl)
    have C6 := Lib.hid c6
    clear K5h sub4 c6 k6 s6
    go_wp2_with fail
    refine m6.out.mono ?_
    clear m6
    rintro e w7 ⟨g7, rfl, k7⟩
    have c7 := C6.out.new k7
    have K7h := Lib.hid (K6h.out.trans k7)
    have m7 := Lib.hid (undo_bad c7.at_ (c7.ne (by simp)) 1 (.inr (by rw [c7.len]; decide)))
    clear K6h C6 c7 k7
    go_wp2_with fail
    refine m7.out.mono ?_
    clear m7
    rintro e w8 ⟨rfl, k8⟩
    have K8h := Lib.hid (K7h.out.trans k8)
    clear K7h k8
    go_wp2_with fail
    go_ret
    exact ⟨rfl, K8h.out⟩
  · exact absurd fits20 hf
end Go.Proofs.YtebecpjecchfoaaGreatDoor.St
