/-
  Merged by wip/tools/merge.py: SnLast SnSnaps SnCat SnAdd
-/
import Derived.Test.YtebecpjecchfoaaGreatDoorGSnA
import Derived.Test.YtebecpjecchfoaaGreatDoorGWr
import Derived.Test.YtebecpjecchfoaaGreatDoorGRtA
import Derived.Test.YtebecpjecchfoaaGreatDoorGT
import Derived.Test.YtebecpjecchfoaaGreatDoorGRtB
import Derived.Test.YtebecpjecchfoaaGreatDoorGA
import Derived.Deep.QuietTactic
namespace Go.Proofs.YtebecpjecchfoaaGreatDoor.St
open Go.RowKit Go.Maps

theorem Tryz.sizeCk : (Tryz.prog.info? 176).map (·.size) = some 3 := by kernel_rfl
def agk (a : Ck) : Value := .agg (kcells a).toArray
section
variable {w : World} {Fd : Nat → Prop} {t : TypeId} {tail : List Value} {p dp : Nat} {S : SSt} {D : DSt}
/-- The last checkpoint. -/
def SSt.last (S : SSt) : Ck := S.l.getD (S.l.length - 1) ⟨0, 0, none, [], 0⟩
theorem SSt.last_eq {S : SSt} (h : S.l ≠ []) : ∃ hk : S.l.length - 1 < S.l.length, S.last = S.l[S.l.length - 1] := by
  have : 0 < S.l.length := List.length_pos_iff.2 h
  refine ⟨by omega, ?_⟩
  unfold SSt.last
  rw [List.getD_eq_getElem?_getD, List.getElem?_eq_getElem (by omega)]; rfl
set_option maxRecDepth 100000 in
set_option maxHeartbeats 400000 in
theorem last_at (h : SnAt w Fd t tail p dp S D) (hl : S.l ≠ []) : Calls Tryz.prog 128 #[.pointer (some ⟨p, 0, none⟩)] w fun e w' => e = .returned (agk S.last) ∧ Keeps (fun _ => False) w w' := by
  obtain ⟨hk, e⟩ := SSt.last_eq hl
  have k1 : Keeps (fun _ => False) w (w.alloc (.cells #[.int .u64 0, .int .i64 0, Value.slice none 0 0] 176)) := Keeps.alloc _ _ _
  have h1 := h.new k1
  obtain ⟨ad, hA, hb, hf, r0, r1, r2, _⟩ := h1.row.at_ hk
  have c3 := h1.c3
  have hlen := h.ok.len
  rw [hA] at c3
  rw [e]
  generalize S.l[S.l.length - 1] = a at *
  have z1 := frozen_of_row _ w.heap.size 0 _ _ (heap_alloc_new w (.cells #[.int .u64 0, .int .i64 0, Value.slice none 0 0] 176))
  have hw : ((S.l.length : Int) - 1) = ((S.l.length - 1 : Nat) : Int) := by omega
  clear h h1 e
  go_enter Tryz.func128, Tryz.ntmps128
  go_wp2_with fail
  have HW := Lib.hid hw
  clear hw
  go_region
  clear z1 r0 r1 r2 c3
  have k2 : Keeps (fun _ => False) w (w.alloc (.cells #[.int .u64 (a.gen : Int), .int .i64 a.top, .slice a.R a.secs.length a.cap] 176)).drew := (Keeps.alloc _ _ _).trans (Keeps.drew _ _)
  have E1 := Lib.hid (heap_alloc_new w (.cells #[.int .u64 (a.gen : Int), .int .i64 a.top, .slice a.R a.secs.length a.cap] 176))
  go_wp2_with fail
  refine bodyPost_ret (v := agk a) ?_ rfl ⟨rfl, k2⟩
  exact results_cell_row rfl _ _ w.heap.size 176 _ (0, 0) _ rfl E1.out Tryz.underlying176 rfl (by rw [Tryz.sizeCk]; rfl)
theorem aggDp (w : World) : (isAgg 29).run Tryz.prog w = .ok false w := by unfold isAgg; rw [Sem.run_bind, run_underlying Tryz.underlying29 w]; rfl
theorem aggIn (w : World) : (isAgg 3).run Tryz.prog w = .ok false w := by unfold isAgg; rw [Sem.run_bind, run_underlying Tryz.underlying3 w]; rfl
theorem reachOut_ret {D : DSt} {n : Nat} {top : Int} {w w' : World} {e : Ending} (h : ReachOut D n top w e w') : ∃ u, e = .returned u ∧ ReachOut D n top w (.returned u) w' := by
  obtain ⟨hb, ⟨ps, R, c, h1, rfl, h2⟩ | ⟨h1, rfl⟩⟩ := h
  · exact ⟨_, rfl, hb, .inl ⟨ps, R, c, h1, rfl, h2⟩⟩
  · exact ⟨_, rfl, hb, .inr ⟨h1, rfl⟩⟩
/-- Numbers in blocks that are new since w. -/
def NewI (w w' : World) (R : Option Addr) (l : List Nat) : Prop :=
  l ≠ [] → ∃ ad, R = some ad ∧ w.heap.size ≤ ad.block ∧ ad.block < w'.heap.size ∧ ∀ i u, l[i]? = some u → w'.cell? (ad.add i) = some (.int .i64 ((u : Nat) : Int))
theorem NewI.of {w w' : World} {R : Option Addr} {c : Nat} {l : List Nat} (h : OwnI w' w.heap.size R c l) : NewI w w' R l := by
  intro hn
  have hl : 0 < l.length := List.length_pos_iff.2 hn
  obtain ⟨g, c', hv, _, hlt⟩ := World.ownsRow.form h hl
  injection hv with e1 _ e3
  subst e1 e3
  refine ⟨_, rfl, (World.ownsRow.lt h g rfl).1, hlt, fun i u hu => ?_⟩
  have hi := (List.getElem?_eq_some_iff.1 hu).1
  have e := World.ownsRow.cellAt h i (by omega)
  have e2 : (⟨g, 0, none⟩ : Addr).add i = ⟨g, i, none⟩ := by unfold Addr.add; split <;> simp_all
  rw [e2]
  have := e
  simp [hu] at this
  exact this
/-- What reached leaves. -/
def ReachedOut (w : World) (D : DSt) (g : Nat) (top : Int) (e : Ending) (w' : World) : Prop :=
  Keeps (fun _ => False) w w' ∧ ((∃ ps R c, walkT D D.n top = some ps ∧ e = .returned (agk ⟨g, top, R, ps.map Prod.fst, c⟩) ∧ NewI w w' R (ps.map Prod.fst)) ∨ (walkT D D.n top = none ∧ e = thrownE 60))
set_option maxRecDepth 100000 in
set_option maxHeartbeats 800000 in
theorem reached_at (h : SnAt w Fd t tail p dp S D) (hd : D.down = false) (g : Nat) (top : Int) (h1 : -9223372036854775808 ≤ top) (h2 : top ≤ 9223372036854775807) :
    Calls Tryz.prog 126 #[.pointer (some ⟨p, 0, none⟩), .agg #[.int .u64 (g : Int), .int .i64 top]] w (ReachedOut w D g top) := by
  have k1 : Keeps (fun _ => False) w ((w.alloc (.cells #[.int .u64 (g : Int), .int .i64 top] 117)).alloc (.cells #[.int .u64 0, .int .i64 0, Value.slice none 0 0] 176)) := (Keeps.alloc _ _ _).trans (Keeps.alloc _ _ _)
  have e0 : ((w.alloc (.cells #[.int .u64 (g : Int), .int .i64 top] 117)).alloc (.cells #[.int .u64 0, .int .i64 0, Value.slice none 0 0] 176)).heap[w.heap.size]? = some (.cells #[.int .u64 (g : Int), .int .i64 top] 117 (0, 0)) := (Below.heap_alloc _ _ _ (by simp)).trans (heap_alloc_new w _)
  have e1 : ((w.alloc (.cells #[.int .u64 (g : Int), .int .i64 top] 117)).alloc (.cells #[.int .u64 0, .int .i64 0, Value.slice none 0 0] 176)).heap[w.heap.size + 1]? = some (.cells #[.int .u64 0, .int .i64 0, Value.slice none 0 0] 176 (0, 0)) := blk_at_last _ _ _ (by simp)
  have s1 : ((w.alloc (.cells #[.int .u64 (g : Int), .int .i64 top] 117)).alloc (.cells #[.int .u64 0, .int .i64 0, Value.slice none 0 0] 176)).heap.size = w.heap.size + 2 := by simp
  have K1 := Lib.hid k1
  have E0 := Lib.hid e0
  have E1 := Lib.hid e1
  have S1 := Lib.hid s1
  clear k1 e0 e1 s1
  go_enter Tryz.func126, Tryz.ntmps126
  go_wp2_with fail
  generalize ((w.alloc (.cells #[.int .u64 (g : Int), .int .i64 top] 117)).alloc (.cells #[.int .u64 0, .int .i64 0, Value.slice none 0 0] 176)) = w1 at *
  refine wp_region_held (S := fun W => W.cell? ⟨p, 0, none⟩ = some (.pointer (some ⟨dp, 0, none⟩)) ∧ W.cell? ⟨w.heap.size, 1, none⟩ = some (.int .i64 top)) (by kernel_rfl) ?_
  change wpAnyH _ _ _ _ _ _ _ _ w1.drew
  have K2 := Lib.hid (K1.out.trans (Keeps.drew _ w1))
  have E2 : Hid (w1.drew.heap[w.heap.size]? = some (.cells #[.int .u64 (g : Int), .int .i64 top] 117 (0, 0))) := E0.out
  have E3 : Hid (w1.drew.heap[w.heap.size + 1]? = some (.cells #[.int .u64 0, .int .i64 0, Value.slice none 0 0] 176 (0, 0))) := E1.out
  have S2 : Hid (w1.drew.heap.size = w.heap.size + 2) := S1.out
  clear K1 E0 E1 S1
  generalize w1.drew = w2 at *
  have hs := h.new K2.out
  have hS : w2.cell? ⟨p, 0, none⟩ = some (.pointer (some ⟨dp, 0, none⟩)) ∧ w2.cell? ⟨w.heap.size, 1, none⟩ = some (.int .i64 top) := ⟨hs.c0, by rw [cell_of_row _ _ _ _ _ _ E2.out]; rfl⟩
  have hpl := hs.pl
  have hnl : w.heap.size < w2.heap.size := by have := S2.out; omega
  obtain ⟨lb, mb, n, iv, hdk, _⟩ := hs.disk
  have hnn := hdk.ok.n_eq
  have hr := reach_any hdk hd top h1 h2
  rw [← hnn] at hr
  clear hs hdk hnn h
--@reached1
  refine wpAnyH_take (oi := ⟨_, _, _, _, _, _⟩) (i := 0) (v := .pointer (some ⟨p, 0, none⟩)) rfl (by kernel_rfl) (by kernel_rfl) (by kernel_rfl) (fun _ _ _ h => h) (Or.inl ⟨by rfl, fun _ _ => rfl⟩) hS ?_
  try simp only [Act.put, List.setIfInBounds_toArray, List.set_cons_zero, List.set_cons_succ]
  refine wpAnyH_take (oi := ⟨_, _, _, _, _, _⟩) (i := 1) (v := .pointer (some ⟨p, 0, none⟩)) rfl (by kernel_rfl) (by kernel_rfl) (by kernel_rfl) (fun _ _ _ h => h) (Or.inl ⟨by rfl, fun _ _ => by go_simp⟩) hS ?_
  try simp only [Act.put, List.setIfInBounds_toArray, List.set_cons_zero, List.set_cons_succ]
  refine wpAnyH_take (oi := ⟨_, _, _, _, _, _⟩) (i := 2) (v := .pointer (some ⟨p, 0, none⟩)) rfl (by kernel_rfl) (by kernel_rfl) (by kernel_rfl) (fun _ _ _ h => h) (Or.inl ⟨by rfl, fun _ _ => by go_simp⟩) hS ?_
  try simp only [Act.put, List.setIfInBounds_toArray, List.set_cons_zero, List.set_cons_succ]
  refine wpAnyH_take (oi := ⟨_, _, _, _, _, _⟩) (i := 3) (v := .pointer (some ⟨dp, 0, none⟩)) rfl (by kernel_rfl) (by kernel_rfl) (by kernel_rfl) (fun _ _ _ h => h) (yif_load rfl 29 (.tmp 10) rfl _ _ rfl fun w h => load_one aggDp h.1) hS ?_
  try simp only [Act.put, List.setIfInBounds_toArray, List.set_cons_zero, List.set_cons_succ]
  refine wpAnyH_take (oi := ⟨_, _, _, _, _, _⟩) (i := 4) (v := .pointer (some ⟨w.heap.size, 1, none⟩)) rfl (by kernel_rfl) (by kernel_rfl) (by kernel_rfl) (fun _ _ _ h => h) (Or.inl ⟨by rfl, fun _ _ => by go_simp⟩) hS ?_
  try simp only [Act.put, List.setIfInBounds_toArray, List.set_cons_zero, List.set_cons_succ]
  refine wpAnyH_take (oi := ⟨_, _, _, _, _, _⟩) (i := 5) (v := .int .i64 top) rfl (by kernel_rfl) (by kernel_rfl) (by kernel_rfl) (fun _ _ _ h => h) (yif_load rfl 3 (.tmp 12) rfl _ _ rfl fun w h => load_one aggIn h.2) hS ?_
  try simp only [Act.put, List.setIfInBounds_toArray, List.set_cons_zero, List.set_cons_succ]
  refine wpAnyH_all (rs := [6]) (by kernel_rfl) (by simp) fun i hi => ?_
  obtain rfl : i = 6 := by simpa using hi
  refine op_call (om := ⟨_, _, _, _, _, _⟩) (fn := 168) (args := #[.pointer (some ⟨dp, 0, none⟩), .int .i64 top]) (R := fun u w' => ReachOut D D.n top w2 (.returned u) w') rfl rfl (by go_simp)
    (hr.mono fun e w' h => reachOut_ret h) _ _ rfl rfl ?_
  rintro u w3 hu
  have hS : w3.cell? ⟨p, 0, none⟩ = some (.pointer (some ⟨dp, 0, none⟩)) ∧ w3.cell? ⟨w.heap.size, 1, none⟩ = some (.int .i64 top) := ⟨(hu.1.cell (p := ⟨p, 0, none⟩) hpl).trans hS.1, (hu.1.cell (p := ⟨w.heap.size, 1, none⟩) hnl).trans hS.2⟩
  clear hr
  refine ⟨hS, ?_⟩
  try simp only [Act.put, List.setIfInBounds_toArray, List.set_cons_zero, List.set_cons_succ]
--@@
  have b3 := hu.1
  obtain ⟨_, ⟨ps, R, c, hw, hu, hown⟩ | ⟨hw, hu⟩⟩ := hu
  · cases hu
    have K3 := Lib.hid (K2.out.trans (keeps_below b3))
    have g0 := (b3.block w.heap.size (by have := S2.out; omega)).trans E2.out
    have g1 := (b3.block (w.heap.size + 1) (by have := S2.out; omega)).trans E3.out
    generalize hl : ps.map Prod.fst = l at hown ⊢
    have n3 : NewI w w3 R l := fun hn => by
      obtain ⟨ad, q1, q2, q3⟩ := NewI.of hown hn
      exact ⟨ad, q1, by have := S2.out; omega, q3⟩
    have hne : l ≠ [] → ∀ ad, R = some ad → w.heap.size + 2 ≤ ad.block := fun hn ad e => by
      obtain ⟨ad', q1, q2, _⟩ := NewI.of hown hn
      rw [e] at q1; cases q1; have := S2.out; omega
    have N3 := Lib.hid n3
    have HW := Lib.hid hw
    have HL := Lib.hid hl
    clear n3 hw hown b3 hl
    have q0 : w3.cell? ⟨w.heap.size, 0, none⟩ = some (.int .u64 (g : Int)) := by rw [cell_of_row _ _ _ _ _ _ g0]; rfl
    have q1 : w3.cell? ⟨w.heap.size, 1, none⟩ = some (.int .i64 top) := by rw [cell_of_row _ _ _ _ _ _ g0]; rfl
    have y0 : w3.cell? ⟨w.heap.size + 1, 0, none⟩ = some (.int .u64 0) := by rw [cell_of_row _ _ _ _ _ _ g1]; rfl
    have y1 : w3.cell? ⟨w.heap.size + 1, 1, none⟩ = some (.int .i64 0) := by rw [cell_of_row _ _ _ _ _ _ g1]; rfl
    have y2 : w3.cell? ⟨w.heap.size + 1, 2, none⟩ = some (.slice none 0 0) := by rw [cell_of_row _ _ _ _ _ _ g1]; rfl
    have v0 := frozen_of_row _ _ 0 _ _ g1
    have v1 := frozen_of_row _ _ 1 _ _ g1
    have v2 := frozen_of_row _ _ 2 _ _ g1
    have G1 := Lib.hid g1
    clear g0 g1
--@reached2
    refine wpAnyH_take (oi := ⟨_, _, _, _, _, _⟩) (i := 7) (v := .tuple #[.slice R l.length c, .int .i64 0]) rfl (by kernel_rfl) (by kernel_rfl) (by kernel_rfl) (fun _ _ _ h => h) (Or.inl ⟨by rfl, fun _ _ => rfl⟩) hS ?_
    try simp only [Act.put, List.setIfInBounds_toArray, List.set_cons_zero, List.set_cons_succ]
    refine wpAnyH_take (oi := ⟨_, _, _, _, _, _⟩) (i := 8) (v := .slice R l.length c) rfl (by kernel_rfl) (by kernel_rfl) (by kernel_rfl) (fun _ _ _ h => h) (Or.inl ⟨by rfl, fun _ _ => by go_simp⟩) hS ?_
    try simp only [Act.put, List.setIfInBounds_toArray, List.set_cons_zero, List.set_cons_succ]
    refine wpAnyH_take (oi := ⟨_, _, _, _, _, _⟩) (i := 9) (v := .int .i64 0) rfl (by kernel_rfl) (by kernel_rfl) (by kernel_rfl) (fun _ _ _ h => h) (Or.inl ⟨by rfl, fun _ _ => by go_simp⟩) hS ?_
    try simp only [Act.put, List.setIfInBounds_toArray, List.set_cons_zero, List.set_cons_succ]
    refine wpAnyH_take (oi := ⟨_, _, _, _, _, _⟩) (i := 10) (v := .slice R l.length c) rfl (by kernel_rfl) (by kernel_rfl) (by kernel_rfl) (fun _ _ _ h => h) (Or.inl ⟨by rfl, fun _ _ => rfl⟩) hS ?_
    try simp only [Act.put, List.setIfInBounds_toArray, List.set_cons_zero, List.set_cons_succ]
    refine wpAnyH_take (oi := ⟨_, _, _, _, _, _⟩) (i := 11) (v := .int .i64 0) rfl (by kernel_rfl) (by kernel_rfl) (by kernel_rfl) (fun _ _ _ h => h) (Or.inl ⟨by rfl, fun _ _ => rfl⟩) hS ?_
    try simp only [Act.put, List.setIfInBounds_toArray, List.set_cons_zero, List.set_cons_succ]
    refine wpAnyH_done (by kernel_rfl) ?_ _
    try simp only [Act.put, List.setIfInBounds_toArray, List.set_cons_zero, List.set_cons_succ]
--@@
    go_wp2_with fail
    refine (demand_ok w3).mono ?_
    rintro e w' ⟨rfl, rfl⟩
    go_wp2_with fail
    have k4 : Keeps (· = w.heap.size + 1) w3 (((w3.setCell ⟨w.heap.size + 1, 0, none⟩ (.int .u64 (g : Int))).setCell ⟨w.heap.size + 1, 1, none⟩ (.int .i64 top)).setCell ⟨w.heap.size + 1, 2, none⟩ (.slice R l.length c)) := ((Keeps.setCell (· = w.heap.size + 1) _ _ _ rfl).trans (Keeps.setCell (· = w.heap.size + 1) _ _ _ rfl)).trans (Keeps.setCell (· = w.heap.size + 1) _ _ _ rfl)
    have e4 : (((w3.setCell ⟨w.heap.size + 1, 0, none⟩ (.int .u64 (g : Int))).setCell ⟨w.heap.size + 1, 1, none⟩ (.int .i64 top)).setCell ⟨w.heap.size + 1, 2, none⟩ (.slice R l.length c)).heap[w.heap.size + 1]? = some (.cells #[.int .u64 (g : Int), .int .i64 top, .slice R l.length c] 176 (0, 0)) := by
      have a1 := heap_setCell_same w3 (w.heap.size + 1) 0 _ 176 (.int .u64 (g : Int)) G1.out
      have a2 := heap_setCell_same _ (w.heap.size + 1) 1 _ 176 (.int .i64 top) a1
      exact heap_setCell_same _ (w.heap.size + 1) 2 _ 176 (.slice R l.length c) a2
    have E4 := Lib.hid e4
    clear e4
    generalize (((w3.setCell ⟨w.heap.size + 1, 0, none⟩ (.int .u64 (g : Int))).setCell ⟨w.heap.size + 1, 1, none⟩ (.int .i64 top)).setCell ⟨w.heap.size + 1, 2, none⟩ (.slice R l.length c)) = w4 at *
    refine bodyPost_ret (v := agk ⟨g, top, R, l, c⟩) ?_ rfl ⟨?_, .inl ⟨ps, R, c, HW.out, by rw [HL.out], ?_⟩⟩
    · exact results_cell_row rfl _ _ (w.heap.size + 1) 176 _ (0, 0) _ rfl E4.out Tryz.underlying176 rfl (by rw [Tryz.sizeCk]; rfl)
    · exact ⟨k4.os.trans K3.out.os, k4.tape.trans K3.out.tape, k4.output.trans K3.out.output, Nat.le_trans K3.out.size k4.size, fun b hb _ => (k4.block b (by have := K3.out.size; omega) (by omega)).trans (K3.out.block b hb (fun h => h))⟩
    · rw [HL.out]
      intro hn
      obtain ⟨ad, q1, q2, q3, q4⟩ := N3.out hn
      refine ⟨ad, q1, q2, Nat.lt_of_lt_of_le q3 k4.size, fun i u hu => ?_⟩
      have hnb := hne hn ad q1
      rw [World.cell?_of_block (w := w3) (by rw [block_add]; exact k4.block _ q3 (by omega))]
      exact q4 i u hu
  · cases hu
    have K3 := Lib.hid (K2.out.trans (keeps_below b3))
    have HW := Lib.hid hw
    clear hw b3
--@reached3
    refine wpAnyH_take (oi := ⟨_, _, _, _, _, _⟩) (i := 7) (v := .tuple #[.slice none 0 0, .int .i64 60]) rfl (by kernel_rfl) (by kernel_rfl) (by kernel_rfl) (fun _ _ _ h => h) (Or.inl ⟨by rfl, fun _ _ => rfl⟩) hS ?_
    try simp only [Act.put, List.setIfInBounds_toArray, List.set_cons_zero, List.set_cons_succ]
    refine wpAnyH_take (oi := ⟨_, _, _, _, _, _⟩) (i := 8) (v := .slice none 0 0) rfl (by kernel_rfl) (by kernel_rfl) (by kernel_rfl) (fun _ _ _ h => h) (Or.inl ⟨by rfl, fun _ _ => by go_simp⟩) hS ?_
    try simp only [Act.put, List.setIfInBounds_toArray, List.set_cons_zero, List.set_cons_succ]
    refine wpAnyH_take (oi := ⟨_, _, _, _, _, _⟩) (i := 9) (v := .int .i64 60) rfl (by kernel_rfl) (by kernel_rfl) (by kernel_rfl) (fun _ _ _ h => h) (Or.inl ⟨by rfl, fun _ _ => by go_simp⟩) hS ?_
    try simp only [Act.put, List.setIfInBounds_toArray, List.set_cons_zero, List.set_cons_succ]
    refine wpAnyH_take (oi := ⟨_, _, _, _, _, _⟩) (i := 10) (v := .slice none 0 0) rfl (by kernel_rfl) (by kernel_rfl) (by kernel_rfl) (fun _ _ _ h => h) (Or.inl ⟨by rfl, fun _ _ => rfl⟩) hS ?_
    try simp only [Act.put, List.setIfInBounds_toArray, List.set_cons_zero, List.set_cons_succ]
    refine wpAnyH_take (oi := ⟨_, _, _, _, _, _⟩) (i := 11) (v := .int .i64 60) rfl (by kernel_rfl) (by kernel_rfl) (by kernel_rfl) (fun _ _ _ h => h) (Or.inl ⟨by rfl, fun _ _ => rfl⟩) hS ?_
    try simp only [Act.put, List.setIfInBounds_toArray, List.set_cons_zero, List.set_cons_succ]
    refine wpAnyH_done (by kernel_rfl) ?_ _
    try simp only [Act.put, List.setIfInBounds_toArray, List.set_cons_zero, List.set_cons_succ]
--@@
    go_wp2_with fail
    refine (demand_bad 60 (by decide) w3).mono ?_
    rintro e w' ⟨rfl, rfl⟩
    exact ⟨rfl, K3.out, .inr ⟨HW.out, rfl⟩⟩
end
end Go.Proofs.YtebecpjecchfoaaGreatDoor.St
namespace Go.Proofs.YtebecpjecchfoaaGreatDoor.St
open Go.RowKit Go.Maps

def snOf (a : Ck) : Sn := ⟨a.gen, a.top⟩
def fillK (l : List Ck) (k : Nat) : List Sn := (l.take k).map snOf ++ List.replicate (l.length - k) sn0
theorem fillK_len (l : List Ck) (k : Nat) (h : k ≤ l.length) : (fillK l k).length = l.length := by simp [fillK]; omega
theorem fillK_step (l : List Ck) (k : Nat) (h : k < l.length) : (fillK l k).set k (snOf l[k]) = fillK l (k + 1) := by
  unfold fillK
  have hk : ((l.take k).map snOf).length = k := by simp; omega
  rw [List.set_append_right _ _ (by omega), hk, Nat.sub_self, show l.length - k = (l.length - (k + 1)) + 1 from by omega, List.replicate_succ, List.set_cons_zero, List.take_succ_eq_append_getElem h, List.map_append, List.append_assoc]
  rfl
theorem fillK_all (l : List Ck) : fillK l l.length = l.map snOf := by simp [fillK]
def SnapsOut (w : World) (l : List Ck) (e : Ending) (w' : World) : Prop :=
  ∃ g, e = .returned (.slice (some ⟨g, 0, none⟩) l.length l.length) ∧ w.heap.size ≤ g ∧ SR w' w'.heap.size (some ⟨g, 0, none⟩) (l.map snOf) ∧ Keeps (fun _ => False) w w'
section
variable {w : World} {Fd : Nat → Prop} {t : TypeId} {tail : List Value} {p dp : Nat} {S : SSt} {D : DSt}
set_option maxRecDepth 100000 in
set_option maxHeartbeats 800000 in
theorem snaps_at (h : SnAt w Fd t tail p dp S D) : Calls Tryz.prog 73 #[.pointer (some ⟨p, 0, none⟩)] w (SnapsOut w S.l) := by
  have c3 := h.c3
  have hl := h.ok.len
  have hmk := make23 S.l.length hl w
  have k1 : Keeps (· = w.heap.size) w (w.alloc (.cells (zcells S.l.length) 117)) := Keeps.alloc _ _ _
  have h1 := h.new (Keeps.alloc (fun _ => False) w (.cells (zcells S.l.length) 117))
  have o1 : OwnS (w.alloc (.cells (zcells S.l.length) 117)) w.heap.size (some ⟨w.heap.size, 0, none⟩) S.l.length (fillK S.l 0) := by
    have := World.ownsRow_lit (e := 117) (base := w.heap.size) (size := 2) w (zcells S.l.length) S.l.length (Nat.le_refl _) (by unfold maxLen; omega) (zcells_size _)
    unfold OwnS
    rw [fillK_len _ _ (by omega)]
    exact this
  have c3' := h1.c3
  have r1 := h.row
  have ka := Keeps.alloc (fun _ => False) w (.cells (zcells S.l.length) 117)
  have s1 : w.heap.size < (w.alloc (.cells (zcells S.l.length) 117)).heap.size := by simp
  have hpl := h.pl
  clear h h1
  generalize S.l = l at *
  go_enter Tryz.func73, Tryz.ntmps73
  go_wp2_with fail
  generalize (w.alloc (.cells (zcells l.length) 117)) = w1 at *
  clear hmk c3
  go_loopw [17] (fun i wr => ∃ k : Nat, k ≤ l.length ∧ i = .int .i64 k ∧ OwnS wr w.heap.size (some ⟨w.heap.size, 0, none⟩) l.length (fillK l k) ∧ Keeps (· = w.heap.size) w1 wr) (fun i _ => l.length - (intOf i).toNat)
  case atStart => exact ⟨0, by omega, rfl, o1, Keeps.refl _ _⟩
  case round =>
    clear o1
    obtain ⟨k, hk, rfl, o1, kk⟩ := hrel
    have kw : Keeps (fun _ => False) w wr := ⟨kk.os.trans ka.os, kk.tape.trans ka.tape, kk.output.trans ka.output, Nat.le_trans ka.size kk.size, fun b hb _ => (kk.block b (by omega) (by omega)).trans (ka.block b hb (fun h => h))⟩
    have hwr := kk.size
    by_cases hlt : k < l.length
    · have ro : LR wr (own p Fd) S.A l := r1.keep (kw.mono (fun _ _ h => h.elim)) (fun _ _ f => f)
      obtain ⟨ad, hA, hb, hf, q0, q1, q2, _⟩ := ro.at_ hlt
      have kA : Keeps (fun _ => False) wr (wr.alloc (.cells #[.int .u64 (l[k].gen : Int), .int .i64 l[k].top, .slice l[k].R l[k].secs.length l[k].cap] 176)) := Keeps.alloc _ _ _
      have hfl := fillK_len l k hk
      have hst := fillK_step l k hlt
      have o2 := rowS_keeps o1 kA (fun h => h)
      rw [hfl] at o2
      obtain ⟨⟨v0, d0⟩, f0⟩ := spotS o2 (k * 2) (by omega)
      have o3 := (World.ownsRow.stored o2 (k * 2) (.int .u64 (l[k].gen : Int))).1
      obtain ⟨⟨v1, d1⟩, f1⟩ := spotS o3 (k * 2 + 1) (by omega)
      have o4 := OwnS.put2 (n := l.length) k (snOf l[k]) (by omega) (by omega) o3
      rw [hst] at o4
      have O4 := Lib.hid o4
      have KA := Lib.hid kA
      rw [hA]
      clear ro o1 o2 o3 o4 kA hst
      generalize l[k] = a at *
      go_wp2_with fail
      go_roundw
      case rel => exact ⟨k + 1, by omega, by go_num, O4.out, ⟨kk.os, kk.tape, kk.output, by simp [World.setCell]; omega, fun b hb hne => (Below.heap_setCell _ _ _ _ hne).trans ((Below.heap_setCell _ _ _ _ hne).trans ((KA.out.block b (by omega) (fun h => h)).trans (kk.block b hb hne)))⟩⟩
      case measure => simp [intOf]; omega
    · obtain rfl : k = l.length := by omega
      rw [fillK_all] at o1
      have hsr := OwnS.sr o1
      have HS := Lib.hid hsr
      clear o1 hsr
      go_wp2_with fail
      go_ret
      exact ⟨w.heap.size, rfl, Nat.le_refl _, HS.out, kw⟩
end
end Go.Proofs.YtebecpjecchfoaaGreatDoor.St
namespace Go.Proofs.YtebecpjecchfoaaGreatDoor.St
open Go.RowKit Go.Maps

/-- Checkpoints in a row of the call's own. -/
def OwnK (w : World) (B : Nat) (R : Option Addr) (cap : Nat) (l : List Ck) : Prop := w.ownsRow B 176 3 (.slice R l.length cap) l.length (l.flatMap kcells)
theorem flatK_at (l : List Ck) : ∀ (k : Nat) (a : Ck), l[k]? = some a → ∀ j v, (kcells a)[j]? = some v → (l.flatMap kcells)[k * 3 + j]? = some v := by
  induction l with
  | nil => intro k a h; simp at h
  | cons x r ih =>
    intro k a h j v hv
    have hl : (kcells x).length = 3 := rfl
    rw [List.flatMap_cons]
    cases k with
    | zero =>
      simp at h; subst h
      have hj := (List.getElem?_eq_some_iff.1 hv).1
      rw [List.getElem?_append_left (by omega), Nat.zero_mul, Nat.zero_add]
      exact hv
    | succ k =>
      rw [List.getElem?_append_right (by rw [hl]; omega), hl, show (k + 1) * 3 + j - 3 = k * 3 + j from by omega]
      exact ih k a (by simpa using h) j v hv
theorem flatK_len (l : List Ck) : (l.flatMap kcells).length = l.length * 3 := by
  induction l with
  | nil => rfl
  | cons x r ih => rw [List.flatMap_cons, List.length_append, ih, List.length_cons, show (kcells x).length = 3 from rfl]; omega
theorem flatK_get (l : List Ck) (i : Nat) (u : Value) (h : (l.flatMap kcells)[i]? = some u) : ∃ a, l[i / 3]? = some a ∧ (kcells a)[i % 3]? = some u := by
  have hi := (List.getElem?_eq_some_iff.1 h).1
  rw [flatK_len] at hi
  have hk : i / 3 < l.length := by omega
  have h3 : i % 3 < (kcells l[i / 3]).length := by show i % 3 < 3; omega
  have := flatK_at l (i / 3) l[i / 3] (List.getElem?_eq_getElem hk) (i % 3) _ (List.getElem?_eq_getElem h3)
  rw [show i / 3 * 3 + i % 3 = i from by omega, h] at this
  exact ⟨_, List.getElem?_eq_getElem hk, by rw [List.getElem?_eq_getElem h3]; exact this.symm⟩
theorem oneCellK (l : List Ck) : ∀ u ∈ l.flatMap kcells, u.oneCell' = true := by
  intro u hu
  simp only [List.mem_flatMap, kcells, List.mem_cons, List.not_mem_nil, or_false] at hu
  obtain ⟨a, _, rfl | rfl | rfl⟩ := hu <;> rfl
theorem Tryz.infoK : (Tryz.prog.info? 176).map (fun i => (i.zero, i.size, i.bytes)) = some (some (.agg #[.int .u64 0, .int .i64 0, .slice none 0 0]), 3, 40) := by kernel_rfl
/-- More checkpoints, out of cells that lie somewhere. -/
theorem OwnK.app {w : World} {B : Nat} {R : Option Addr} {cap : Nat} {l : List Ck} (h : OwnK w B R cap l) (hB : B ≤ w.heap.size) (hl : l.length ≤ 1000) (m : List Ck) (hm : m.length ≤ 1000) (hm0 : 0 < m.length) (ad : Addr) (c : Nat) (ty : TypeId)
    (hc : ∀ j u, (m.flatMap kcells)[j]? = some u → w.cell? (ad.add j) = some u) :
    ∃ R' cap' w', (Builtin.append_ #[76, 76] ty #[.slice R l.length cap, .slice (some ad) m.length c]).run Tryz.prog w = .ok (.slice R' (l.length + m.length) cap') w' ∧ OwnK w' B R' cap' (l ++ m) ∧ w.grownBy w' (Value.ownBlock (.slice R l.length cap)) := by
  obtain ⟨i0, hi, hz0, hz1, hz2⟩ := info_parts Tryz.infoK
  obtain ⟨v', w', hrun, hown, hg, _, _⟩ := run_append_own_at (P := Tryz.prog) w B 76 ty 176 i0 _ 3 40 Tryz.underlying76 hi hz0 hz1 hz2 rfl (by decide) _ l.length _ h ad m.length c (m.flatMap kcells) (flatK_len m) hc (oneCellK m) (by unfold maxLen; omega) (by omega) hB
  obtain ⟨g, cap', rfl, _, _⟩ := World.ownsRow.form hown (by omega)
  refine ⟨_, cap', w', hrun, ?_, hg⟩
  unfold OwnK
  rw [List.flatMap_append, List.length_append]
  exact hown
theorem LR.flat {w : World} {F : Nat → Prop} {ad : Addr} {l : List Ck} (h : LR w F (some ad) l) : ∀ j u, (l.flatMap kcells)[j]? = some u → w.cell? (ad.add j) = some u := by
  intro j u hu
  obtain ⟨a, ha, hv⟩ := flatK_get l j u hu
  obtain ⟨ad', e, _, _, hc⟩ := h.ar (by intro e; subst e; simp at ha)
  cases e
  have := hc _ a ha _ u hv
  rw [Go.Deep.add_add, show j / 3 * 3 + j % 3 = j from by omega] at this
  exact this
theorem OwnK.appL {w : World} {B : Nat} {R : Option Addr} {cap : Nat} {l : List Ck} (h : OwnK w B R cap l) (hB : B ≤ w.heap.size) (hl : l.length ≤ 1000) (m : List Ck) (hm : m.length ≤ 1000) {F : Nat → Prop} {A : Option Addr} (hr : LR w F A m) (hA : m = [] → A = none) (c : Nat) (ty : TypeId) :
    ∃ R' cap' w', (Builtin.append_ #[76, 76] ty #[.slice R l.length cap, .slice A m.length (if m = [] then 0 else c)]).run Tryz.prog w = .ok (.slice R' (l.length + m.length) cap') w' ∧ OwnK w' B R' cap' (l ++ m) ∧ w.grownBy w' (Value.ownBlock (.slice R l.length cap)) := by
  by_cases hn : m = []
  · subst hn
    obtain rfl := hA rfl
    obtain ⟨i0, hi, _⟩ := info_parts Tryz.infoK
    have := run_append_owned_none (P := Tryz.prog) (w := w) B 76 ty 176 i0 3 Tryz.underlying76 hi _ _ _ h
    exact ⟨R, cap, w, by simpa using this, by simpa using h, World.grownBy.refl w _⟩
  · rw [if_neg hn]
    obtain ⟨ad, rfl, _⟩ := hr.ar hn
    exact h.app hB hl m hm (List.length_pos_iff.2 hn) ad c ty hr.flat
/-- Room for n checkpoints, out of nothing. -/
theorem run_growK (w : World) (ty : TypeId) (n : Nat) (hn0 : 0 < n) (hn : n ≤ 1000) :
    ∃ cap C, (Builtin.append_ #[76, 3] ty #[.slice none 0 0, .int .i64 (n : Int)]).run Tryz.prog w = .ok (.slice (some ⟨w.heap.size, 0, none⟩) n cap) (w.drew.alloc (.cells C 176)) ∧ n ≤ cap ∧ cap ≤ maxLen ∧ C.size = cap * 3 := by
  obtain ⟨i0, hi, hz0, hz1, hz2⟩ := info_parts Tryz.infoK
  have hu : Tryz.prog.underlying 76 = some (.slice 176) := Tryz.underlying76
  have hui : Tryz.prog.underlying 3 = some (.int .i64) := Tryz.underlying3
  have hw : IntKind.i64.wrap (n : Int) = (n : Int) := by rw [IntKind.wrap_i64]; omega
  have hneg : ¬ ((n : Int) < 0) := by omega
  have hbig : ¬ (281474976710656 < (n : Int) * (i0.bytes : Int)) := by rw [hz2]; omega
  have hm1 : n ≠ 0 := by omega
  have h48 : ¬ (281474976710656 < Builtin.nextslicecap n 0 * i0.bytes) := by rw [nextslicecap_zero hn0, hz2]; omega
  have h63 : ¬ (9223372036854775807 < (n : Int)) := by omega
  have hmx : max (n : Int) 0 = (n : Int) := by omega
  have hcl : (Value.agg #[.int .u64 0, .int .i64 0, .slice none 0 0]).cells = #[.int .u64 0, .int .i64 0, .slice none 0 0] := rfl
  have hge := grownCap_ge w n 0 176
  have hcm : grownCap w n 0 176 ≤ maxLen := grownCap_le_maxLen w n 0 176 (by unfold maxLen; omega)
  refine ⟨grownCap w n 0 176, #[] ++ Builtin.zeroCells #[.int .u64 0, .int .i64 0, .slice none 0 0] n ++ Builtin.zeroCells #[.int .u64 0, .int .i64 0, .slice none 0 0] (grownCap w n 0 176 - n), ?_, hge, hcm, ?_⟩
  · simp [Builtin.append_, run_underlying hu, run_underlying hui, sizeOf, typeInfo, zeroValue, hi, hz0, hz1, asInt, asIntOf, hw, hneg, hm1, hbig, h63, h48, hmx, hcl, Question.forced, Builtin.firstCells, Go.newRow, grownCap]
    intro h
    omega
  · simp [size_zeroCells]
    have := hge
    omega
theorem wpList_append2_run {P : Program} {w w' : World} {ops : Array Oper} {rest : List Oper} {o : Oper} {a : Act} {Q : Exit → Act → World → Prop} (hgd : o.guard = none) (s x : Operand) (t t' : TypeId)
    (ho : o.op = .call { callee := .builtin .append, args := #[s, x], argTypes := #[t, t'] }) (v : Value)
    (hrun : (Builtin.append_ #[t, t'] o.type #[a.eval s, a.eval x]).run P w = .ok v w') (h : wpList P ops Q rest (a.put o.dst v) w') : wpList P ops Q (o :: rest) a w :=
  wpList_plain hgd fun _ hK => by
    unfold Oper.wp execOp
    simp only [ho, resolve, invoke, builtin, Sem.run_bind, Sem.run_pure, Result.andThen_ok, List.map_toArray, List.map_cons, List.map_nil, hrun]
    exact hK _ _ h
set_option maxRecDepth 100000 in
/-- What Grow leaves. -/
theorem grow_any (n : Nat) (hn0 : 0 < n) (hn : n ≤ 1000) (w : World) : Calls Tryz.prog 188 #[.slice none 0 0, .int .i64 (n : Int)] w fun e w' => ∃ g cap, e = .returned (.slice (some ⟨g, 0, none⟩) 0 cap) ∧ OwnK w' w.heap.size (some ⟨g, 0, none⟩) cap [] ∧ Keeps (fun _ => False) w w' := by
  obtain ⟨cap, C, hrun, hc1, hc2, hC⟩ := run_growK w 76 n hn0 hn
  have hn1 : decide ((n : Int) < 0) = false := by simp
  have hn2 : decide (0 < (n : Int)) = true := by simp; omega
  have hk : Keeps (fun _ => False) w (w.drew.alloc (.cells C 176)) := (Keeps.drew _ w).trans (Keeps.alloc _ _ _)
  have ho : OwnK (w.drew.alloc (.cells C 176)) w.heap.size (some ⟨w.heap.size, 0, none⟩) cap [] := ⟨by simp, .inr ⟨w.heap.size, cap, C, rfl, Nat.le_refl _, heap_alloc_new w.drew _, by simp, hc2, hC, by simp⟩⟩
  have HR := Lib.hid hrun
  have HK := Lib.hid hk
  have HO := Lib.hid ho
  clear hrun hk ho
  go_enter Tryz.func188, Tryz.ntmps188
  go_wp2_with (first | (at_builtin; refine wpList_append2_run rfl _ _ 76 3 rfl _ HR.out ?_) | fail)
  go_ret
  exact ⟨_, cap, rfl, HO.out, HK.out⟩

theorem OwnK.keeps {w w' : World} {B : Nat} {R : Option Addr} {cap : Nat} {l : List Ck} {F : Nat → Prop} (h : OwnK w B R cap l) (k : Keeps F w w') (hF : ∀ g, Value.ownBlock (.slice R l.length cap) = some g → ¬ F g) : OwnK w' B R cap l := by
  refine ⟨h.1, ?_⟩
  rcases h.2 with hn | ⟨g, cap', cur, e, hb, hg, rest⟩
  · exact .inl hn
  · refine .inr ⟨g, cap', cur, e, hb, ?_, rest⟩
    have : Value.ownBlock (.slice R l.length cap) = some g := by rw [e]; rfl
    exact (k.block g ((Array.getElem?_eq_some_iff.1 hg).1) (hF g this)).trans hg
theorem OwnK.grew {w0 W W' : World} {R : Option Addr} {cap : Nat} {m : List Ck} (o : OwnK W w0.heap.size R cap m) (k : Keeps (fun _ => False) w0 W) (g : W.grownBy W' (Value.ownBlock (.slice R m.length cap))) : Keeps (fun _ => False) w0 W' :=
  ⟨g.os.trans k.os, g.tape.trans k.tape, g.output.trans k.output, Nat.le_trans k.size g.size, fun b hb _ => (g.block b (by have := k.size; omega) (fun e => by have := (World.ownsRow.lt o b e.symm).1; omega)).trans (k.block b hb (fun h => h))⟩
/-- What Concat leaves. -/
def CatOut (w : World) (l : List Ck) (a : Ck) (e : Ending) (w' : World) : Prop := ∃ R cap, e = .returned (.slice R (l.length + 1) cap) ∧ OwnK w' w.heap.size R cap (l ++ [a]) ∧ Keeps (fun _ => False) w w'
set_option maxRecDepth 100000 in
set_option maxHeartbeats 800000 in
theorem cat_any {w : World} {F : Nat → Prop} {A : Option Addr} {l : List Ck} (c : Nat) (a : Ck) (hr : LR w F A l) (hl : l.length ≤ 4) (hc0 : l = [] → c = 0) (hA : l = [] → A = none) {ob nb : Nat} (ho : w.heap[ob]? = some (.cells #[.slice A l.length c, .slice (some ⟨nb, 0, none⟩) 1 1] 76 (0, 0)))
    (hn : w.heap[nb]? = some (.cells (kcells a).toArray 176 (0, 0))) :
    Calls Tryz.prog 157 #[.slice (some ⟨ob, 0, none⟩) 2 2] w (CatOut w l a) := by
  have c0 : w.cell? ⟨ob, 0, none⟩ = some (.slice A l.length c) := by rw [cell_of_row _ _ _ _ _ _ ho]; rfl
  have c1 : w.cell? ⟨ob, 1, none⟩ = some (.slice (some ⟨nb, 0, none⟩) 1 1) := by rw [cell_of_row _ _ _ _ _ _ ho]; rfl
  have hg := grow_any (l.length + 1) (by omega) (by omega) w
  rw [show ((l.length + 1 : Nat) : Int) = (l.length : Int) + 1 from by omega] at hg
  go_enter Tryz.func157, Tryz.ntmps157
  go_wp2_with fail
  go_loopw [3, 11] (fun s i wr => ∃ k : Nat, k ≤ 2 ∧ i = .int .i64 (k : Int) ∧ s = .int .i64 (if k = 0 then 0 else if k = 1 then (l.length : Int) else (l.length : Int) + 1) ∧ wr = w) (fun _ i _ => 2 - (RowKit.intOf i).toNat)
  case atStart => exact ⟨0, by omega, rfl, rfl, rfl⟩
  case round =>
    obtain ⟨k, hk, rfl, rfl, rfl⟩ := hrel
    match k, hk with
    | 0, _ =>
      have e1 : decide ((l.length : Int) < 0) = false := by simp
      go_wp2_with fail
      go_roundw
      case rel => exact ⟨1, by omega, by go_num, by simp, trivial⟩
      case measure => simp [RowKit.intOf]
    | 1, _ =>
      have e1 : IntKind.i64.wrap ((l.length : Int) + 1) = (l.length : Int) + 1 := by rw [IntKind.wrap_i64]; omega
      have e2 : decide ((l.length : Int) + 1 < 0) = false := by simp; omega
      go_wp2_with fail
      go_roundw
      case rel => exact ⟨2, by omega, by go_num, by simp, trivial⟩
      case measure => simp [RowKit.intOf]
    | 2, _ =>
      go_wp2_with fail
      refine hg.mono ?_
      rintro e w2 ⟨g, cap, rfl, o2, k2⟩
      clear hg
      have O2 := Lib.hid o2
      have K2 := Lib.hid k2
      clear o2 k2
      go_wp2_with fail
      go_loopw [6, 27] (fun s i W => ∃ (k : Nat) (R : Option Addr) (cap : Nat) (m : List Ck), k ≤ 2 ∧ i = .int .i64 (k : Int) ∧ s = .slice R m.length cap ∧ m = (if k = 0 then [] else if k = 1 then l else l ++ [a]) ∧ OwnK W wr.heap.size R cap m ∧ Keeps (fun _ => False) wr W) (fun _ i _ => 2 - (RowKit.intOf i).toNat)
      case atStart => exact ⟨0, _, cap, [], by omega, rfl, rfl, rfl, O2.out, K2.out⟩
      case round =>
        obtain ⟨k, R, cap2, m, hk, rfl, rfl, hm, o3, k3⟩ := hrel
        have s3 := k3.size
        have c0' := (k3.cell ob 0 (Array.getElem?_eq_some_iff.1 ho).1 (fun h => h)).trans c0
        have c1' := (k3.cell ob 1 (Array.getElem?_eq_some_iff.1 ho).1 (fun h => h)).trans c1
        match k, hk with
        | 0, _ =>
          obtain rfl : m = [] := hm
          have hr3 := hr.keep (F' := F) (k3.mono (fun _ _ h => h.elim)) (fun _ _ f => f)
          obtain ⟨R', cap', w4, hap, o4, g4⟩ := o3.appL s3 (by simp) l (by omega) hr3 hA c 76
          have hcc : (if l = [] then 0 else c) = c := by
            by_cases hl0 : l = []
            · rw [if_pos hl0, hc0 hl0]
            · rw [if_neg hl0]
          rw [hcc] at hap
          have HAP := Lib.hid hap
          have HO := Lib.hid o4
          have HK := Lib.hid (o3.grew k3 g4)
          clear hap o4 g4 o3 k3 hr3 hr ho hn O2 K2
          go_wp2_with (first | (at_builtin; refine wpList_append_run rfl _ _ 76 rfl _ HAP.out ?_) | fail)
          go_roundw
          case rel => exact ⟨1, R', cap', l, by omega, by go_num, by simp, rfl, HO.out, HK.out⟩
          case measure => simp [RowKit.intOf]
        | 1, _ =>
          obtain rfl : m = l := hm
          have hn3 := (k3.block nb (Array.getElem?_eq_some_iff.1 hn).1 (fun h => h)).trans hn
          obtain ⟨R', cap', w4, hap, o4, g4⟩ := o3.app s3 (by omega) [a] (by simp) (by simp) ⟨nb, 0, none⟩ 1 76 (fun j u hu => by
            have e : (⟨nb, 0, none⟩ : Addr).add j = ⟨nb, j, none⟩ := by unfold Addr.add; split <;> simp_all
            rw [e, cell_of_row _ _ _ _ _ _ hn3]
            simpa [kcells] using hu)
          have HAP := Lib.hid hap
          have HO := Lib.hid o4
          have HK := Lib.hid (o3.grew k3 g4)
          clear hap o4 g4 o3 k3 hr ho hn hn3 O2 K2
          go_wp2_with (first | (at_builtin; refine wpList_append_run rfl _ _ 76 rfl _ HAP.out ?_) | fail)
          go_roundw
          case rel => exact ⟨2, R', cap', m ++ [a], by omega, by go_num, by simp, by simp, HO.out, HK.out⟩
          case measure => simp [RowKit.intOf]
        | 2, _ =>
          obtain rfl : m = l ++ [a] := hm
          have HO := Lib.hid o3
          have HK := Lib.hid k3
          clear o3 k3 hr ho hn O2 K2
          go_wp2_with fail
          go_ret
          exact ⟨R, cap2, by simp, HO.out, HK.out⟩
end Go.Proofs.YtebecpjecchfoaaGreatDoor.St
namespace Go.Proofs.YtebecpjecchfoaaGreatDoor.St
open Go.RowKit Go.Maps

theorem bsliceK (w : World) (g : Nat) (t : Int) (R : Option Addr) (n c : Nat) : (Instr.buildSlice 76 1 #[(0, .agg #[.int .u64 (g : Int), .int .i64 t, .slice R n c])]).run Tryz.prog w = .ok (.slice (some ⟨w.heap.size, 0, none⟩) 1 1) (w.alloc (.cells #[.int .u64 (g : Int), .int .i64 t, .slice R n c] 176)) := by kernel_rfl
theorem bsliceKK (w : World) (A A' : Option Addr) (n c n' c' : Nat) : (Instr.buildSlice 237 2 #[(0, .slice A n c), (1, .slice A' n' c')]).run Tryz.prog w = .ok (.slice (some ⟨w.heap.size, 0, none⟩) 2 2) (w.alloc (.cells #[.slice A n c, .slice A' n' c'] 76)) := by kernel_rfl
theorem aggSl (w : World) : (isAgg 76).run Tryz.prog w = .ok false w := by unfold isAgg; rw [Sem.run_bind, run_underlying Tryz.underlying76 w]; rfl
theorem aggU64' (w : World) : (isAgg 40).run Tryz.prog w = .ok false w := by unfold isAgg; rw [Sem.run_bind, run_underlying Tryz.underlying40 w]; rfl
theorem reached_ret {D : DSt} {g : Nat} {top : Int} {w w' : World} {e : Ending} {ps : PL} (h : ReachedOut w D g top e w') (hw : walkT D D.n top = some ps) : ∃ u, e = .returned u ∧ ReachedOut w D g top (.returned u) w' := by
  obtain ⟨k, ⟨ps', R, c, h1, rfl, h2⟩ | ⟨h1, _⟩⟩ := h
  · exact ⟨_, rfl, k, .inl ⟨ps', R, c, h1, rfl, h2⟩⟩
  · rw [hw] at h1; cases h1
/-- The list with one more, of which the last four are kept. -/
def addL (l : List Ck) (a : Ck) : List Ck := (l ++ [a]).drop (l.length - 3)
theorem addL_len (l : List Ck) (a : Ck) (h : l.length ≤ 4) : (addL l a).length ≤ 4 ∧ (addL l a).length = min (l.length + 1) 4 := by unfold addL; simp; omega
theorem LR.ofOwn {w : World} {F : Nat → Prop} {B : Nat} {R : Option Addr} {cap : Nat} {l : List Ck} (h : OwnK w B R cap l) (hB : ∀ b, B ≤ b → b < w.heap.size → ¬ F b) (hn : ∀ a ∈ l, NR w F a.R a.secs) : LR w F R l := by
  refine ⟨fun hne => ?_, hn⟩
  have h0 : 0 < l.length := List.length_pos_iff.2 hne
  obtain ⟨g, c, hv, hb, hlt⟩ := World.ownsRow.form h (by omega)
  injection hv with e1 _ e3
  subst e1
  refine ⟨_, rfl, hlt, hB _ hb hlt, fun k a ha j v hvv => ?_⟩
  have := World.ownsRow.cells h (g := g) rfl (k * 3 + j) v (flatK_at l k a ha j v hvv)
  rw [Go.Deep.add_add]
  exact this
theorem NewI.nr {w w2 : World} {F : Nat → Prop} {R : Option Addr} {l : List Nat} (h : NewI w w2 R l) (hF : ∀ b, w.heap.size ≤ b → ¬ F b) : NR w2 F R l := by
  intro hn
  obtain ⟨ad, e, hb, hlt, hc⟩ := h hn
  exact ⟨ad, e, hlt, hF _ hb, hc⟩
def AddOut (w : World) (Fd : Nat → Prop) (t : TypeId) (tail : List Value) (p dp : Nat) (S : SSt) (D : DSt) (top : Int) (secs : List Nat) (e : Ending) (w' : World) : Prop :=
  e = .returned (.tuple #[]) ∧ ∃ A c R cp, Stepped w Fd t tail p dp { S with A := A, c := c, l := addL S.l ⟨S.gen + 1, top, R, secs, cp⟩ } D w' ∧ Rows w S { S with A := A, c := c, l := addL S.l ⟨S.gen + 1, top, R, secs, cp⟩ } w'
section
variable {w : World} {Fd : Nat → Prop} {t : TypeId} {tail : List Value} {p dp : Nat} {S : SSt} {D : DSt}
set_option maxRecDepth 100000 in
set_option maxHeartbeats 1600000 in
theorem add_at (h : SnAt w Fd t tail p dp S D) (hd : D.down = false) (top : Nat) (ht : top ≤ 65535) {ps : PL} (hw : walkT D D.n top = some ps) (hps : ps.length ≤ 2000) (hg : S.gen + 1 < 18446744073709551616) (hA : S.l = [] → S.A = none) (hc : S.l = [] → S.c = 0) :
    Calls Tryz.prog 113 #[.pointer (some ⟨p, 0, none⟩), .int .i64 (top : Int)] w (AddOut w Fd t tail p dp S D top (ps.map Prod.fst)) := by
  have hgw : IntKind.u64.wrap ((S.gen : Int) + 1) = ((S.gen + 1 : Nat) : Int) := by rw [IntKind.wrap_u64]; omega
  have h0 := h.new (Keeps.drew (fun _ => False) w)
  have K0 := Lib.hid (Keeps.drew (fun _ => False) w)
  have HG := Lib.hid hgw
  have hpl0 : p < w.drew.heap.size := h.pl
  go_enter Tryz.func113, Tryz.ntmps113
  go_wp2_with fail
  refine wp_region_held (S := fun W => W.cell? ⟨p, 1, none⟩ = some (.int .u64 (S.gen : Int)) ∧ W.cell? ⟨p, 3, none⟩ = some (.slice S.A S.l.length S.c)) (by kernel_rfl) ?_
  change wpAnyH _ _ _ _ _ _ _ _ w.drew
  generalize w.drew = w1 at *
  have hS : w1.cell? ⟨p, 1, none⟩ = some (.int .u64 (S.gen : Int)) ∧ w1.cell? ⟨p, 3, none⟩ = some (.slice S.A S.l.length S.c) := ⟨h0.c1, h0.c3⟩
  have hre := reached_at h0 hd (S.gen + 1) (top : Int) (by omega) (by omega)
--@add1
  refine wpAnyH_take (oi := ⟨_, _, _, _, _, _⟩) (i := 0) (v := .pointer (some ⟨p, 0, none⟩)) rfl (by kernel_rfl) (by kernel_rfl) (by kernel_rfl) (fun _ _ _ h => h) (Or.inl ⟨by rfl, fun _ _ => rfl⟩) hS ?_
  try simp only [Act.put, List.setIfInBounds_toArray, List.set_cons_zero, List.set_cons_succ]
  refine wpAnyH_take (oi := ⟨_, _, _, _, _, _⟩) (i := 1) (v := .pointer (some ⟨p, 0, none⟩)) rfl (by kernel_rfl) (by kernel_rfl) (by kernel_rfl) (fun _ _ _ h => h) (Or.inl ⟨by rfl, fun _ _ => by go_simp⟩) hS ?_
  try simp only [Act.put, List.setIfInBounds_toArray, List.set_cons_zero, List.set_cons_succ]
  refine wpAnyH_take (oi := ⟨_, _, _, _, _, _⟩) (i := 2) (v := .pointer (some ⟨p, 3, none⟩)) rfl (by kernel_rfl) (by kernel_rfl) (by kernel_rfl) (fun _ _ _ h => h) (Or.inl ⟨by rfl, fun _ _ => by go_simp⟩) hS ?_
  try simp only [Act.put, List.setIfInBounds_toArray, List.set_cons_zero, List.set_cons_succ]
  refine wpAnyH_take (oi := ⟨_, _, _, _, _, _⟩) (i := 3) (v := .slice S.A S.l.length S.c) rfl (by kernel_rfl) (by kernel_rfl) (by kernel_rfl) (fun _ _ _ h => h) (yif_load rfl 76 (.tmp 7) rfl _ _ rfl fun w h => load_one aggSl h.2) hS ?_
  try simp only [Act.put, List.setIfInBounds_toArray, List.set_cons_zero, List.set_cons_succ]
  refine wpAnyH_take (oi := ⟨_, _, _, _, _, _⟩) (i := 4) (v := .pointer (some ⟨p, 0, none⟩)) rfl (by kernel_rfl) (by kernel_rfl) (by kernel_rfl) (fun _ _ _ h => h) (Or.inl ⟨by rfl, fun _ _ => rfl⟩) hS ?_
  try simp only [Act.put, List.setIfInBounds_toArray, List.set_cons_zero, List.set_cons_succ]
  refine wpAnyH_take (oi := ⟨_, _, _, _, _, _⟩) (i := 5) (v := .pointer (some ⟨p, 0, none⟩)) rfl (by kernel_rfl) (by kernel_rfl) (by kernel_rfl) (fun _ _ _ h => h) (Or.inl ⟨by rfl, fun _ _ => rfl⟩) hS ?_
  try simp only [Act.put, List.setIfInBounds_toArray, List.set_cons_zero, List.set_cons_succ]
  refine wpAnyH_take (oi := ⟨_, _, _, _, _, _⟩) (i := 6) (v := .pointer (some ⟨p, 0, none⟩)) rfl (by kernel_rfl) (by kernel_rfl) (by kernel_rfl) (fun _ _ _ h => h) (Or.inl ⟨by rfl, fun _ _ => by go_simp⟩) hS ?_
  try simp only [Act.put, List.setIfInBounds_toArray, List.set_cons_zero, List.set_cons_succ]
  refine wpAnyH_take (oi := ⟨_, _, _, _, _, _⟩) (i := 7) (v := .pointer (some ⟨p, 1, none⟩)) rfl (by kernel_rfl) (by kernel_rfl) (by kernel_rfl) (fun _ _ _ h => h) (Or.inl ⟨by rfl, fun _ _ => by go_simp⟩) hS ?_
  try simp only [Act.put, List.setIfInBounds_toArray, List.set_cons_zero, List.set_cons_succ]
  refine wpAnyH_take (oi := ⟨_, _, _, _, _, _⟩) (i := 8) (v := .int .u64 (S.gen : Int)) rfl (by kernel_rfl) (by kernel_rfl) (by kernel_rfl) (fun _ _ _ h => h) (yif_load rfl 40 (.tmp 12) rfl _ _ rfl fun w h => load_one aggU64' h.1) hS ?_
  try simp only [Act.put, List.setIfInBounds_toArray, List.set_cons_zero, List.set_cons_succ]
  refine wpAnyH_take (oi := ⟨_, _, _, _, _, _⟩) (i := 9) (v := .int .u64 (IntKind.u64.wrap ((S.gen : Int) + 1))) rfl (by kernel_rfl) (by kernel_rfl) (by kernel_rfl) (fun _ _ _ h => h) (Or.inl ⟨by rfl, fun _ _ => by go_simp⟩) hS ?_
  try simp only [Act.put, List.setIfInBounds_toArray, List.set_cons_zero, List.set_cons_succ]
  rw [HG.out]
  refine wpAnyH_take (oi := ⟨_, _, _, _, _, _⟩) (i := 10) (v := .int .i64 (top : Int)) rfl (by kernel_rfl) (by kernel_rfl) (by kernel_rfl) (fun _ _ _ h => h) (Or.inl ⟨by rfl, fun _ _ => rfl⟩) hS ?_
  try simp only [Act.put, List.setIfInBounds_toArray, List.set_cons_zero, List.set_cons_succ]
  refine wpAnyH_take (oi := ⟨_, _, _, _, _, _⟩) (i := 11) (v := .agg #[.int .u64 ((S.gen + 1 : Nat) : Int), .int .i64 (top : Int)]) rfl (by kernel_rfl) (by kernel_rfl) (by kernel_rfl) (fun _ _ _ h => h) (Or.inl ⟨by rfl, fun _ _ => by go_simp⟩) hS ?_
  try simp only [Act.put, List.setIfInBounds_toArray, List.set_cons_zero, List.set_cons_succ]
  refine wpAnyH_all (rs := [12]) (by kernel_rfl) (by simp) fun i hi => ?_
  obtain rfl : i = 12 := by simpa using hi
  refine op_call (om := ⟨_, _, _, _, _, _⟩) (fn := 126) (args := #[.pointer (some ⟨p, 0, none⟩), .agg #[.int .u64 ((S.gen + 1 : Nat) : Int), .int .i64 (top : Int)]]) (R := fun u w' => ReachedOut w1 D (S.gen + 1) top (.returned u) w') rfl rfl (by go_simp)
    (hre.mono fun e w' h => reached_ret h hw) _ _ rfl rfl ?_
  rintro u w2 hu
  have hS : w2.cell? ⟨p, 1, none⟩ = some (.int .u64 (S.gen : Int)) ∧ w2.cell? ⟨p, 3, none⟩ = some (.slice S.A S.l.length S.c) := ⟨(hu.1.cell p 1 hpl0 (fun h => h)).trans hS.1, (hu.1.cell p 3 hpl0 (fun h => h)).trans hS.2⟩
  clear hre
  refine ⟨hS, ?_⟩
  try simp only [Act.put, List.setIfInBounds_toArray, List.set_cons_zero, List.set_cons_succ]
--@@
  obtain ⟨k2, ⟨ps', R, cp, hw', hu, hni⟩ | ⟨hw', _⟩⟩ := hu
  · rw [hw] at hw'
    cases hw'
    cases hu
    have k3 : Keeps (fun _ => False) w2 (w2.alloc (.cells #[.int .u64 ((S.gen + 1 : Nat) : Int), .int .i64 (top : Int), .slice R (ps.map Prod.fst).length cp] 176)) := Keeps.alloc _ _ _
    have k4 : Keeps (fun _ => False) w2 ((w2.alloc (.cells #[.int .u64 ((S.gen + 1 : Nat) : Int), .int .i64 (top : Int), .slice R (ps.map Prod.fst).length cp] 176)).alloc (.cells #[.slice S.A S.l.length S.c, .slice (some ⟨w2.heap.size, 0, none⟩) 1 1] 76)) := k3.trans (Keeps.alloc _ _ _)
    have hpl2 : p < w2.heap.size := Nat.lt_of_lt_of_le hpl0 k2.size
    have hS3 : (w2.alloc (.cells #[.int .u64 ((S.gen + 1 : Nat) : Int), .int .i64 (top : Int), .slice R (ps.map Prod.fst).length cp] 176)).cell? ⟨p, 1, none⟩ = some (.int .u64 (S.gen : Int)) ∧ (w2.alloc (.cells #[.int .u64 ((S.gen + 1 : Nat) : Int), .int .i64 (top : Int), .slice R (ps.map Prod.fst).length cp] 176)).cell? ⟨p, 3, none⟩ = some (.slice S.A S.l.length S.c) := ⟨(k3.cell p 1 hpl2 (fun h => h)).trans hS.1, (k3.cell p 3 hpl2 (fun h => h)).trans hS.2⟩
    have hS4 : ((w2.alloc (.cells #[.int .u64 ((S.gen + 1 : Nat) : Int), .int .i64 (top : Int), .slice R (ps.map Prod.fst).length cp] 176)).alloc (.cells #[.slice S.A S.l.length S.c, .slice (some ⟨w2.heap.size, 0, none⟩) 1 1] 76)).cell? ⟨p, 1, none⟩ = some (.int .u64 (S.gen : Int)) ∧ ((w2.alloc (.cells #[.int .u64 ((S.gen + 1 : Nat) : Int), .int .i64 (top : Int), .slice R (ps.map Prod.fst).length cp] 176)).alloc (.cells #[.slice S.A S.l.length S.c, .slice (some ⟨w2.heap.size, 0, none⟩) 1 1] 76)).cell? ⟨p, 3, none⟩ = some (.slice S.A S.l.length S.c) := ⟨(k4.cell p 1 hpl2 (fun h => h)).trans hS.1, (k4.cell p 3 hpl2 (fun h => h)).trans hS.2⟩
    refine wpAnyH_all (rs := [13]) (by kernel_rfl) (by simp) fun i hi => ?_
    obtain rfl : i = 13 := by simpa using hi
    refine op_run (om := ⟨_, _, _, _, _, _⟩) (u := .slice (some ⟨w2.heap.size, 0, none⟩) 1 1) (w' := (w2.alloc (.cells #[.int .u64 ((S.gen + 1 : Nat) : Int), .int .i64 (top : Int), .slice R (ps.map Prod.fst).length cp] 176))) rfl rfl ?_ _ _ rfl rfl ?_
    · simp only [execOp, Sem.run_bind, List.map_toArray, List.map_cons, List.map_nil]
      erw [bsliceK]
      rfl
    rintro x y ⟨rfl, rfl⟩
    refine ⟨hS3, ?_⟩
    try simp only [Act.put, List.setIfInBounds_toArray, List.set_cons_zero, List.set_cons_succ]
    refine wpAnyH_all (rs := [14]) (by kernel_rfl) (by simp) fun i hi => ?_
    obtain rfl : i = 14 := by simpa using hi
    refine op_run (om := ⟨_, _, _, _, _, _⟩) (u := .slice (some ⟨w2.heap.size + 1, 0, none⟩) 2 2) (w' := ((w2.alloc (.cells #[.int .u64 ((S.gen + 1 : Nat) : Int), .int .i64 (top : Int), .slice R (ps.map Prod.fst).length cp] 176)).alloc (.cells #[.slice S.A S.l.length S.c, .slice (some ⟨w2.heap.size, 0, none⟩) 1 1] 76))) rfl rfl ?_ _ _ rfl rfl ?_
    · simp only [execOp, Sem.run_bind, List.map_toArray, List.map_cons, List.map_nil]
      erw [bsliceKK]
      simp only [World.size_alloc]
      rfl
    rintro x y ⟨rfl, rfl⟩
    refine ⟨hS4, ?_⟩
    try simp only [Act.put, List.setIfInBounds_toArray, List.set_cons_zero, List.set_cons_succ]
    have n4 : ((w2.alloc (.cells #[.int .u64 ((S.gen + 1 : Nat) : Int), .int .i64 (top : Int), .slice R (ps.map Prod.fst).length cp] 176)).alloc (.cells #[.slice S.A S.l.length S.c, .slice (some ⟨w2.heap.size, 0, none⟩) 1 1] 76)).heap[w2.heap.size]? = some (.cells #[.int .u64 ((S.gen + 1 : Nat) : Int), .int .i64 (top : Int), .slice R (ps.map Prod.fst).length cp] 176 (0, 0)) := by
      rw [Below.heap_alloc _ _ _ (by simp)]; exact heap_alloc_new _ _
    have o4 : ((w2.alloc (.cells #[.int .u64 ((S.gen + 1 : Nat) : Int), .int .i64 (top : Int), .slice R (ps.map Prod.fst).length cp] 176)).alloc (.cells #[.slice S.A S.l.length S.c, .slice (some ⟨w2.heap.size, 0, none⟩) 1 1] 76)).heap[w2.heap.size + 1]? = some (.cells #[.slice S.A S.l.length S.c, .slice (some ⟨w2.heap.size, 0, none⟩) 1 1] 76 (0, 0)) := blk_at_last _ _ _ (by simp)
    have K4 := Lib.hid ((K0.out.trans k2).trans k4)
    have h4 := h.new K4.out
    have hs4 : ((w2.alloc (.cells #[.int .u64 ((S.gen + 1 : Nat) : Int), .int .i64 (top : Int), .slice R (ps.map Prod.fst).length cp] 176)).alloc (.cells #[.slice S.A S.l.length S.c, .slice (some ⟨w2.heap.size, 0, none⟩) 1 1] 76)).heap.size = w2.heap.size + 2 := by simp
    have hni4 : NewI w1 ((w2.alloc (.cells #[.int .u64 ((S.gen + 1 : Nat) : Int), .int .i64 (top : Int), .slice R (ps.map Prod.fst).length cp] 176)).alloc (.cells #[.slice S.A S.l.length S.c, .slice (some ⟨w2.heap.size, 0, none⟩) 1 1] 76)) R (ps.map Prod.fst) := fun hn => by
      obtain ⟨ad, e, q1, q2, q3⟩ := hni hn
      exact ⟨ad, e, q1, by rw [hs4]; omega, fun i u hu => (World.cell?_of_block (w := w2) (by rw [block_add]; exact k4.block _ q2 (fun h => h))).trans (q3 i u hu)⟩
    have hpl4 : p < ((w2.alloc (.cells #[.int .u64 ((S.gen + 1 : Nat) : Int), .int .i64 (top : Int), .slice R (ps.map Prod.fst).length cp] 176)).alloc (.cells #[.slice S.A S.l.length S.c, .slice (some ⟨w2.heap.size, 0, none⟩) 1 1] 76)).heap.size := by rw [hs4]; omega
    have hw1s : w.heap.size ≤ w1.heap.size := K0.out.size
    have hok := h.ok
    have hrw0 := h.row
    have hown : ∀ b, own p Fd b → b < w.heap.size := fun b hb => by
      rcases hb with rfl | hb
      · exact h.pl
      · exact h.lt b hb
    clear hS hS3 hs4 k3 k4 h0 hni h
    have hS := hS4
    clear hS4
    generalize ((w2.alloc (.cells #[.int .u64 ((S.gen + 1 : Nat) : Int), .int .i64 (top : Int), .slice R (ps.map Prod.fst).length cp] 176)).alloc (.cells #[.slice S.A S.l.length S.c, .slice (some ⟨w2.heap.size, 0, none⟩) 1 1] 76)) = w4 at *
    have hca := cat_any S.c ⟨S.gen + 1, (top : Int), R, ps.map Prod.fst, cp⟩ h4.row hok.len hc hA o4 n4
--@add2
    refine wpAnyH_all (rs := [15]) (by kernel_rfl) (by simp) fun i hi => ?_
    obtain rfl : i = 15 := by simpa using hi
    refine op_call (om := ⟨_, _, _, _, _, _⟩) (fn := 157) (args := #[.slice (some ⟨w2.heap.size + 1, 0, none⟩) 2 2]) (R := fun u w' => CatOut w4 S.l ⟨S.gen + 1, (top : Int), R, ps.map Prod.fst, cp⟩ (.returned u) w') rfl rfl (by go_simp)
      (hca.mono fun e w' h => by obtain ⟨R, cap, rfl, h1⟩ := h; exact ⟨_, rfl, R, cap, rfl, h1⟩) _ _ rfl rfl ?_
    rintro u w5 hu
    have hS5 : w5.cell? ⟨p, 1, none⟩ = some (.int .u64 (S.gen : Int)) ∧ w5.cell? ⟨p, 3, none⟩ = some (.slice S.A S.l.length S.c) := by obtain ⟨_, _, _, _, k5⟩ := hu; exact ⟨(k5.cell p 1 hpl4 (fun h => h)).trans hS.1, (k5.cell p 3 hpl4 (fun h => h)).trans hS.2⟩
    have hS := hS5
    clear hca
    refine ⟨hS, ?_⟩
    try simp only [Act.put, List.setIfInBounds_toArray, List.set_cons_zero, List.set_cons_succ]
--@@
    obtain ⟨R5, cap5, hu, o5, k5⟩ := hu
    cases hu
    have h5 := h4.new k5
    have hni5 : NR w5 (own p Fd) R (ps.map Prod.fst) := by
      refine NewI.nr (w := w1) (fun hn => ?_) (fun b hb f => ?_)
      · obtain ⟨ad, e, q1, q2, q3⟩ := hni4 hn
        exact ⟨ad, e, q1, Nat.lt_of_lt_of_le q2 k5.size, fun i u hu => (World.cell?_of_block (w := w4) (by rw [block_add]; exact k5.block _ q2 (fun h => h))).trans (q3 i u hu)⟩
      · have := hown b f
        omega
    have hrow : LR w5 (own p Fd) R5 (S.l ++ [⟨S.gen + 1, (top : Int), R, ps.map Prod.fst, cp⟩]) := by
      refine LR.ofOwn o5 (fun b hb _ f => ?_) (fun a ha => ?_)
      · have := hown b f
        have := K4.out.size
        omega
      · rcases List.mem_append.1 ha with ha | ha
        · exact h5.row.ok a ha
        · obtain rfl := List.mem_singleton.1 ha
          exact hni5
    have hrowZ : ∀ Z : Nat → Prop, (∀ b, Z b → b < w.heap.size) → LR w Z S.A S.l → LR w5 Z R5 (S.l ++ [⟨S.gen + 1, (top : Int), R, ps.map Prod.fst, cp⟩]) := fun Z hZ hz => by
      have hz5 : LR w5 Z S.A S.l := hrw0.both hz ((K4.out.trans k5).mono (fun _ _ h => h.elim))
      refine LR.ofOwn o5 (fun b hb _ f => ?_) (fun a ha => ?_)
      · have := hZ b f
        have := K4.out.size
        omega
      · rcases List.mem_append.1 ha with ha | ha
        · exact hz5.ok a ha
        · obtain rfl := List.mem_singleton.1 ha
          refine NewI.nr (w := w1) (fun hn => ?_) (fun b hb f => ?_)
          · obtain ⟨ad, e, q1, q2, q3⟩ := hni4 hn
            exact ⟨ad, e, q1, Nat.lt_of_lt_of_le q2 k5.size, fun i u hu => (World.cell?_of_block (w := w4) (by rw [block_add]; exact k5.block _ q2 (fun h => h))).trans (q3 i u hu)⟩
          · have := hZ b f
            omega
    have hcap : S.l.length + 1 ≤ cap5 := by
      rcases o5.2 with ⟨hv, hn⟩ | ⟨g, c', cur, hv, _, _, hnc, _⟩
      · injection hv with _ e2 _
        simp at e2
      · injection hv with _ _ e3
        simp only [List.length_append, List.length_singleton] at hnc
        omega
    have h0len : 0 < (S.l ++ [(⟨S.gen + 1, (top : Int), R, ps.map Prod.fst, cp⟩ : Ck)]).length := by simp
    obtain ⟨ad5, rfl, _⟩ := hrow.ar (by intro e; rw [e] at h0len; cases h0len)
    have hdr := hrow.drop (S.l.length - 3)
    have hlen := hok.len
    have hal := addL_len S.l ⟨S.gen + 1, (top : Int), R, ps.map Prod.fst, cp⟩ hlen
    have hokS : ({ S with A := some (ad5.add ((S.l.length - 3) * 3)), c := cap5 - (S.l.length - 3), l := addL S.l ⟨S.gen + 1, (top : Int), R, ps.map Prod.fst, cp⟩ } : SSt).Ok := by
      refine ⟨hok.gen, hok.at_, hal.1, ?_, hok.saved, hok.live, fun a ha => ?_⟩
      · show (addL _ _).length ≤ cap5 - (S.l.length - 3)
        rw [hal.2]; omega
      · rcases List.mem_append.1 (List.mem_of_mem_drop ha) with ha | ha
        · exact hok.secs a ha
        · obtain rfl := List.mem_singleton.1 ha
          exact ⟨by simpa using hps, hg, by show (0 : Int) ≤ top; omega, by show (top : Int) ≤ 65535; omega⟩
    have hset := fun v e => h5.set (S' := { S with A := some (ad5.add ((S.l.length - 3) * 3)), c := cap5 - (S.l.length - 3), l := addL S.l ⟨S.gen + 1, (top : Int), R, ps.map Prod.fst, cp⟩ }) 3 v e hdr hokS
    obtain ⟨q, kq⟩ := hset (.slice (some (ad5.add ((S.l.length - 3) * 3))) (S.l.length + 1 - (S.l.length - 3)) (cap5 - (S.l.length - 3))) (by
      have e : (addL S.l ⟨S.gen + 1, (top : Int), R, ps.map Prod.fst, cp⟩).length = S.l.length + 1 - (S.l.length - 3) := by rw [hal.2]; omega
      show _ = scells _ _ _
      unfold scells hcells
      rw [e]
      rfl)
    have HF := Lib.hid (show AddOut w Fd t tail p dp S D top (ps.map Prod.fst) (.returned (.tuple #[])) _ from ⟨rfl, _, _, R, cp, ⟨⟨Fd, q, fun _ h => .inl h⟩, ((K4.out.trans k5).mono (fun _ _ h => h.elim)).trans kq⟩, fun Z hZ hz => hdr.both ((hrowZ Z hZ hz).drop (S.l.length - 3)) kq⟩)
    have c3 := h5.c3
    have z3 := h5.fz 3
    clear q kq hset hokS hdr hrow hrowZ hrw0 hni5 hni4 h5 h4 o5 k5 n4 o4 hS5
--@add3
    refine wpAnyH_take (oi := ⟨_, _, _, _, _, _⟩) (i := 16) (v := .slice (some ad5) (S.l.length + 1) cap5) rfl (by kernel_rfl) (by kernel_rfl) (by kernel_rfl) (fun _ _ _ h => h) (Or.inl ⟨by rfl, fun _ _ => rfl⟩) hS ?_
    try simp only [Act.put, List.setIfInBounds_toArray, List.set_cons_zero, List.set_cons_succ]
    refine wpAnyH_done (by kernel_rfl) ?_ _
    try simp only [Act.put, List.setIfInBounds_toArray, List.set_cons_zero, List.set_cons_succ]
--@@
    have hmax : (max ((S.l.length : Int) + 1 - 4) 0).toNat = S.l.length - 3 := by omega
    have HM := Lib.hid hmax
    clear hmax
    go_wp2_with fail
    rw [HM.out]
    go_end0
    exact HF.out
  · rw [hw] at hw'
    cases hw'
set_option maxRecDepth 100000 in
set_option maxHeartbeats 400000 in
theorem start_at (h : SnAt w Fd t tail p dp S D) (hd : D.down = false) (hg : S.gen + 1 < 18446744073709551616) (hA : S.l = [] → S.A = none) (hc : S.l = [] → S.c = 0) :
    Calls Tryz.prog 58 #[.pointer (some ⟨p, 0, none⟩)] w (AddOut w Fd t tail p dp S D 0 []) := by
  have ha := add_at h hd 0 (by omega) (ps := []) (if_pos rfl) (by simp) hg hA hc
  go_enter Tryz.func58, Tryz.ntmps58
  go_wp2_with fail
  refine ha.mono ?_
  rintro e w2 ⟨rfl, hs⟩
  go_wp2_with fail
  go_end0
  exact ⟨rfl, hs⟩
end
end Go.Proofs.YtebecpjecchfoaaGreatDoor.St
