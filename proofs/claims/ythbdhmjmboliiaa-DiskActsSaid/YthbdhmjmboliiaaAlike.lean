/-
  The contract of alike: two disks that stand alike, without change.
-/
import Derived.Test.YthbdhmjmboliiaaActAll
import Derived.Test.YthbdhmjmboliiaaTri
namespace Go.Proofs.Ythbdhmjmboliiaa
open Go.RowKit

section
variable {P : Program} {ops : Array Oper} {md : Region.Mode} {S : World → Prop}
/-- As Both, where operations that come earlier were taken by what the world holds. -/
structure BothH (P : Program) (md : Region.Mode) (ops : Array Oper) (Q : Exit → Act → World → Prop) (S : World → Prop) (i : Nat) (oi : Oper) (v : Value) (f : Nat) (listed : Array Bool) (a : Act) (w : World) : Prop where
  any : wpAnyH P md ops Q S (f + 1) listed a w
  first : wpAnyH P md ops Q S f (listed.setIfInBounds i true) (a.put oi.dst v) w
variable {Q : Exit → Act → World → Prop} {i : Nat} {oi : Oper} {v : Value}
theorem BothH.go {f : Nat} {listed : Array Bool} {a : Act} {w : World} (_hi : ops[i]? = some oi) (h : BothH P md ops Q S i oi v f listed a w) : wpAnyH P md ops Q S (f + 1) listed a w := h.any
theorem BothH.done {f : Nat} {listed : Array Bool} {a : Act} {w : World} (hi : ops[i]? = some oi) (hr : Region.ready md ops listed = [i]) (hS : S w) (hy : YieldsAt P ops w oi v a) (h : wpAnyH P md ops Q S f (listed.setIfInBounds i true) (a.put oi.dst v) w) : BothH P md ops Q S i oi v f listed a w := by
  refine ⟨⟨fun h0 => (by rw [hr] at h0; cases h0), fun j hj => ?_⟩, h⟩
  rw [hr] at hj
  obtain rfl : j = i := by simpa using hj
  exact wpOp_yields hi hy ⟨hS, h⟩
theorem BothH.step {f : Nat} {listed : Array Bool} {a : Act} {w : World} (hi : ops[i]? = some oi) (m : Nat) (om : Oper) (hm : ops[m]? = some om)
    (hB : ((Region.ready md ops listed).all (fun j => j == i || j == m) && !(Region.ready md ops listed).isEmpty && decide (Region.ready md ops (listed.setIfInBounds i true) = [m]) && oi.apart ops om && Region.noSelect ops && i != m) = true)
    (hS : S w) (hy : YieldsAt P ops w oi v a) (R : Value → World → Prop) (hRS : ∀ u w', R u w' → S w')
    (hop : ∀ (K : Act → World → Prop) (a' : Act), execOp a'.eval om = execOp a.eval om → Region.wanted om (yielded ops a'.tmps) = Region.wanted om (yielded ops a.tmps) → (∀ u w', R u w' → K (a'.put om.dst u) w') → wpOp P ops Q m K a' w)
    (h : ∀ u w', R u w' → BothH P md ops Q S i oi v f (listed.setIfInBounds m true) (a.put om.dst u) w') : BothH P md ops Q S i oi v (f + 1) listed a w := by
  simp only [Bool.and_eq_true, decide_eq_true_eq, List.all_eq_true, Bool.or_eq_true, beq_iff_eq, Bool.not_eq_true', List.isEmpty_eq_false_iff] at hB
  obtain ⟨⟨⟨⟨⟨hall, hne0⟩, hr⟩, hap⟩, hs⟩, hne⟩ := hB
  obtain ⟨h1, h2, h3⟩ := Oper.apart_spec hap
  have hF : wpAnyH P md ops Q S (f + 1) (listed.setIfInBounds i true) (a.put oi.dst v) w := by
    refine ⟨fun h0 => (by rw [hr] at h0; cases h0), fun j hj => ?_⟩
    rw [hr] at hj
    obtain rfl : j = m := by simpa using hj
    refine hop _ _ (execOp_put om (fun cs b => Region.noSelect_spec hs j om cs b hm) a oi.dst v h1) (wanted_put om a oi.dst v h1) fun u w' hu => ⟨hRS u w' hu, ?_⟩
    rw [Act.put_comm a v u h2, Array.setIfInBounds_comm _ _ (by simpa using hne)]
    exact (h u w' hu).first
  refine ⟨⟨fun h0 => absurd h0 hne0, fun j hj => ?_⟩, hF⟩
  rcases hall j hj with rfl | rfl
  · exact wpOp_yields hi hy ⟨hS, hF⟩
  · exact hop _ _ rfl rfl fun u w' hu => ⟨hRS u w' hu, (h u w' hu).any⟩
end

/-- The document's disk's own cells lie at q. -/
def HeadS (q : Nat) (sv wv : Value) (D : DSt) (W : World) : Prop := W.heap[q]? = some (rhead sv wv D)
theorem HeadS.c {q : Nat} {sv wv : Value} {D : DSt} {W : World} (h : HeadS q sv wv D W) : W.cell? ⟨q, 0, none⟩ = some sv ∧ W.cell? ⟨q, 3, none⟩ = some (.bool D.down) ∧ W.cell? ⟨q, 4, none⟩ = some (.int .i64 (D.acts : Int)) := by
  refine ⟨?_, ?_, ?_⟩ <;> rw [cell_of_row _ _ _ _ _ _ h] <;> rfl
def Alike (w : World) (e : Ending) (w' : World) : Prop := e = .returned (.bool true) ∧ Keeps (fun _ => False) w w'
theorem keeps_of_below {w w' : World} (h : Below w.heap.size w w') : Keeps (fun _ => False) w w' := ⟨h.os, h.tape, h.output, h.size, fun i hi _ => h.block i hi⟩

set_option maxRecDepth 100000 in
set_option maxHeartbeats 1600000 in
theorem alike_any {w : World} {F G : Nat → Prop} {p q : Nat} {D : DSt} (hp : Dk w F p D) (hq : RD w G q D) (hQ : D.Q.length ≤ 1954687338212) :
    Calls Try.prog 14 #[.pointer (some ⟨p, 0, none⟩), .pointer (some ⟨q, 0, none⟩)] w (Alike w) := by
  obtain ⟨n', sv, wv, svs, ws, hr⟩ := hq
  obtain ⟨lb, mb, n, iv, hd, hdF⟩ := hp
  have en : n' = n := by have := hr.ok.n_eq; have := hd.ok.n_eq; omega
  subst en
  obtain ⟨A, cap, hsv⟩ := hr.svf
  have hr0 : RD w G q D := ⟨n', sv, wv, svs, ws, hr⟩
  have hd0 : Dk w F p D := ⟨lb, mb, n', iv, hd, hdF⟩
  go_enter Try.func14, Try.ntmps14
  go_wp2_with fail
  refine wp_region_held (S := HeadS q sv wv D) (by kernel_rfl) ?_
  change wpAnyH _ _ _ _ _ _ _ _ w.drew
  have kd : Keeps (fun _ => False) w w.drew := Keeps.drew _ _
  have hrd := hr.same kd
  have hdd := hd.same kd
  have K1 := Lib.hid kd
  clear kd hr hd hr0 hd0
  generalize w.drew = w1 at *
  have hS := hrd.head
  change HeadS q sv wv D w1 at hS
  subst hsv
  refine wpAnyH_take (oi := ⟨_, _, _, _, _, _⟩) (i := 0) (v := .pointer (some ⟨p, 0, none⟩)) rfl (by kernel_rfl) (by kernel_rfl) (by kernel_rfl) (fun _ _ _ h => h) (Or.inl ⟨by rfl, fun _ _ => rfl⟩) hS ?_
  simp only [Act.put, List.setIfInBounds_toArray, List.set_cons_zero, List.set_cons_succ]
  refine wpAnyH_take (oi := ⟨_, _, _, _, _, _⟩) (i := 2) (v := .pointer (some ⟨q, 0, none⟩)) rfl (by kernel_rfl) (by kernel_rfl) (by kernel_rfl) (fun _ _ _ h => h) (Or.inl ⟨by rfl, fun _ _ => rfl⟩) hS ?_
  simp only [Act.put, List.setIfInBounds_toArray, List.set_cons_zero, List.set_cons_succ]
  refine wpAnyH_take (oi := ⟨_, _, _, _, _, _⟩) (i := 3) (v := .pointer (some ⟨q, 0, none⟩)) rfl (by kernel_rfl) (by kernel_rfl) (by kernel_rfl) (fun _ _ _ h => h) (Or.inl ⟨by rfl, fun _ _ => by go_simp⟩) hS ?_
  simp only [Act.put, List.setIfInBounds_toArray, List.set_cons_zero, List.set_cons_succ]
  refine wpAnyH_take (oi := ⟨_, _, _, _, _, _⟩) (i := 4) (v := .pointer (some ⟨q, 0, none⟩)) rfl (by kernel_rfl) (by kernel_rfl) (by kernel_rfl) (fun _ _ _ h => h) (Or.inl ⟨by rfl, fun _ _ => by go_simp⟩) hS ?_
  simp only [Act.put, List.setIfInBounds_toArray, List.set_cons_zero, List.set_cons_succ]
  refine wpAnyH_take (oi := ⟨_, _, _, _, _, _⟩) (i := 5) (v := .slice A n' cap) rfl (by kernel_rfl) (by kernel_rfl) (by kernel_rfl) (fun _ _ _ h => h) (yif_load rfl 44 (.tmp 12) rfl _ _ rfl fun w h => load_one agg44 (HeadS.c h).1) hS ?_
  simp only [Act.put, List.setIfInBounds_toArray, List.set_cons_zero, List.set_cons_succ]
  refine wpAnyH_take (oi := ⟨_, _, _, _, _, _⟩) (i := 6) (v := .int .i64 n') rfl (by kernel_rfl) (by kernel_rfl) (by kernel_rfl) (fun _ _ _ h => h) (Or.inl ⟨by rfl, fun _ _ => by go_simp⟩) hS ?_
  simp only [Act.put, List.setIfInBounds_toArray, List.set_cons_zero, List.set_cons_succ]
  refine wpAnyH_all (rs := [1]) (by kernel_rfl) (by simp) fun i hi => ?_
  obtain rfl : i = 1 := by simpa using hi
  refine op_call (om := ⟨_, _, _, _, _, _⟩) (fn := 11) (args := #[.pointer (some ⟨p, 0, none⟩)]) (R := fun u w' => u = .int .i64 n' ∧ w1 = w') rfl rfl (by go_simp) ((len_at hdd).mono fun e w' ⟨he, h1⟩ => ⟨_, he, rfl, h1⟩) _ _ rfl rfl ?_
  rintro u w' ⟨rfl, rfl⟩
  refine ⟨hS, ?_⟩
  clear hi
  simp only [Act.put, List.setIfInBounds_toArray, List.set_cons_zero, List.set_cons_succ]
  refine wpAnyH_take (oi := ⟨_, _, _, _, _, _⟩) (i := 7) (v := .bool false) rfl (by kernel_rfl) (by kernel_rfl) (by kernel_rfl) (fun _ _ _ h => h) (Or.inl ⟨by rfl, fun _ _ => by go_simp⟩) hS ?_
  simp only [Act.put, List.setIfInBounds_toArray, List.set_cons_zero, List.set_cons_succ]
  refine wpAnyH_take (oi := ⟨_, _, _, _, _, _⟩) (i := 8) (v := .bool false) rfl (by kernel_rfl) (by kernel_rfl) (by kernel_rfl) (fun _ _ _ h => h) (Or.inl ⟨by rfl, fun _ _ => rfl⟩) hS ?_
  simp only [Act.put, List.setIfInBounds_toArray, List.set_cons_zero, List.set_cons_succ]
  refine wpAnyH_take (oi := ⟨_, _, _, _, _, _⟩) (i := 9) (v := .pointer (some ⟨p, 0, none⟩)) rfl (by kernel_rfl) (by kernel_rfl) (by kernel_rfl) (fun _ _ _ h => h) (Or.inl ⟨by rfl, fun _ _ => rfl⟩) hS ?_
  simp only [Act.put, List.setIfInBounds_toArray, List.set_cons_zero, List.set_cons_succ]
  refine wpAnyH_take (oi := ⟨_, _, _, _, _, _⟩) (i := 11) (v := .pointer (some ⟨q, 0, none⟩)) rfl (by kernel_rfl) (by kernel_rfl) (by kernel_rfl) (fun _ _ _ h => h) (Or.inl ⟨by rfl, fun _ _ => rfl⟩) hS ?_
  simp only [Act.put, List.setIfInBounds_toArray, List.set_cons_zero, List.set_cons_succ]
  refine wpAnyH_take (oi := ⟨_, _, _, _, _, _⟩) (i := 12) (v := .pointer (some ⟨q, 0, none⟩)) rfl (by kernel_rfl) (by kernel_rfl) (by kernel_rfl) (fun _ _ _ h => h) (Or.inl ⟨by rfl, fun _ _ => by go_simp⟩) hS ?_
  simp only [Act.put, List.setIfInBounds_toArray, List.set_cons_zero, List.set_cons_succ]
  refine wpAnyH_take (oi := ⟨_, _, _, _, _, _⟩) (i := 13) (v := .pointer (some ⟨q, 3, none⟩)) rfl (by kernel_rfl) (by kernel_rfl) (by kernel_rfl) (fun _ _ _ h => h) (Or.inl ⟨by rfl, fun _ _ => by go_simp⟩) hS ?_
  simp only [Act.put, List.setIfInBounds_toArray, List.set_cons_zero, List.set_cons_succ]
  refine wpAnyH_take (oi := ⟨_, _, _, _, _, _⟩) (i := 14) (v := .bool D.down) rfl (by kernel_rfl) (by kernel_rfl) (by kernel_rfl) (fun _ _ _ h => h) (yif_load rfl 4 (.tmp 21) rfl _ _ rfl fun w h => load_one agg4 (HeadS.c h).2.1) hS ?_
  simp only [Act.put, List.setIfInBounds_toArray, List.set_cons_zero, List.set_cons_succ]
  refine wpAnyH_all (rs := [10]) (by kernel_rfl) (by simp) fun i hi => ?_
  obtain rfl : i = 10 := by simpa using hi
  refine op_call (om := ⟨_, _, _, _, _, _⟩) (fn := 23) (args := #[.pointer (some ⟨p, 0, none⟩)]) (R := fun u w' => u = .bool D.down ∧ w1 = w') rfl rfl (by go_simp) ((down_at hdd).mono fun e w' ⟨he, h1⟩ => ⟨_, he, rfl, h1⟩) _ _ rfl rfl ?_
  rintro u w' ⟨rfl, rfl⟩
  refine ⟨hS, ?_⟩
  clear hi
  simp only [Act.put, List.setIfInBounds_toArray, List.set_cons_zero, List.set_cons_succ]
  refine wpAnyH_take (oi := ⟨_, _, _, _, _, _⟩) (i := 15) (v := .bool false) rfl (by kernel_rfl) (by kernel_rfl) (by kernel_rfl) (fun _ _ _ h => h) (Or.inl ⟨by rfl, fun _ _ => by go_simp⟩) hS ?_
  simp only [Act.put, List.setIfInBounds_toArray, List.set_cons_zero, List.set_cons_succ]
  refine wpAnyH_take (oi := ⟨_, _, _, _, _, _⟩) (i := 16) (v := .bool false) rfl (by kernel_rfl) (by kernel_rfl) (by kernel_rfl) (fun _ _ _ h => h) (Or.inl ⟨by rfl, fun _ _ => by go_simp⟩) hS ?_
  simp only [Act.put, List.setIfInBounds_toArray, List.set_cons_zero, List.set_cons_succ]
  refine wpAnyH_take (oi := ⟨_, _, _, _, _, _⟩) (i := 17) (v := .bool false) rfl (by kernel_rfl) (by kernel_rfl) (by kernel_rfl) (fun _ _ _ h => h) (Or.inl ⟨by rfl, fun _ _ => rfl⟩) hS ?_
  simp only [Act.put, List.setIfInBounds_toArray, List.set_cons_zero, List.set_cons_succ]
  refine wpAnyH_take (oi := ⟨_, _, _, _, _, _⟩) (i := 18) (v := .pointer (some ⟨p, 0, none⟩)) rfl (by kernel_rfl) (by kernel_rfl) (by kernel_rfl) (fun _ _ _ h => h) (Or.inl ⟨by rfl, fun _ _ => rfl⟩) hS ?_
  simp only [Act.put, List.setIfInBounds_toArray, List.set_cons_zero, List.set_cons_succ]
  refine wpAnyH_take (oi := ⟨_, _, _, _, _, _⟩) (i := 20) (v := .pointer (some ⟨q, 0, none⟩)) rfl (by kernel_rfl) (by kernel_rfl) (by kernel_rfl) (fun _ _ _ h => h) (Or.inl ⟨by rfl, fun _ _ => rfl⟩) hS ?_
  simp only [Act.put, List.setIfInBounds_toArray, List.set_cons_zero, List.set_cons_succ]
  refine wpAnyH_take (oi := ⟨_, _, _, _, _, _⟩) (i := 21) (v := .pointer (some ⟨q, 0, none⟩)) rfl (by kernel_rfl) (by kernel_rfl) (by kernel_rfl) (fun _ _ _ h => h) (Or.inl ⟨by rfl, fun _ _ => by go_simp⟩) hS ?_
  simp only [Act.put, List.setIfInBounds_toArray, List.set_cons_zero, List.set_cons_succ]
  refine wpAnyH_take (oi := ⟨_, _, _, _, _, _⟩) (i := 22) (v := .pointer (some ⟨q, 4, none⟩)) rfl (by kernel_rfl) (by kernel_rfl) (by kernel_rfl) (fun _ _ _ h => h) (Or.inl ⟨by rfl, fun _ _ => by go_simp⟩) hS ?_
  simp only [Act.put, List.setIfInBounds_toArray, List.set_cons_zero, List.set_cons_succ]
  refine wpAnyH_take (oi := ⟨_, _, _, _, _, _⟩) (i := 23) (v := .int .i64 (D.acts : Int)) rfl (by kernel_rfl) (by kernel_rfl) (by kernel_rfl) (fun _ _ _ h => h) (yif_load rfl 3 (.tmp 30) rfl _ _ rfl fun w h => load_one agg3 (HeadS.c h).2.2) hS ?_
  simp only [Act.put, List.setIfInBounds_toArray, List.set_cons_zero, List.set_cons_succ]
  refine wpAnyH_all (rs := [19]) (by kernel_rfl) (by simp) fun i hi => ?_
  obtain rfl : i = 19 := by simpa using hi
  refine op_call (om := ⟨_, _, _, _, _, _⟩) (fn := 24) (args := #[.pointer (some ⟨p, 0, none⟩)]) (R := fun u w' => u = .int .i64 (D.acts : Int) ∧ w1 = w') rfl rfl (by go_simp) ((acts_at hdd).mono fun e w' ⟨he, h1⟩ => ⟨_, he, rfl, h1⟩) _ _ rfl rfl ?_
  rintro u w' ⟨rfl, rfl⟩
  refine ⟨hS, ?_⟩
  clear hi
  simp only [Act.put, List.setIfInBounds_toArray, List.set_cons_zero, List.set_cons_succ]
  refine wpAnyH_take (oi := ⟨_, _, _, _, _, _⟩) (i := 24) (v := .bool false) rfl (by kernel_rfl) (by kernel_rfl) (by kernel_rfl) (fun _ _ _ h => h) (Or.inl ⟨by rfl, fun _ _ => by go_simp⟩) hS ?_
  simp only [Act.put, List.setIfInBounds_toArray, List.set_cons_zero, List.set_cons_succ]
  refine wpAnyH_take (oi := ⟨_, _, _, _, _, _⟩) (i := 25) (v := .bool false) rfl (by kernel_rfl) (by kernel_rfl) (by kernel_rfl) (fun _ _ _ h => h) (Or.inl ⟨by rfl, fun _ _ => by go_simp⟩) hS ?_
  simp only [Act.put, List.setIfInBounds_toArray, List.set_cons_zero, List.set_cons_succ]
  refine wpAnyH_take (oi := ⟨_, _, _, _, _, _⟩) (i := 26) (v := .bool false) rfl (by kernel_rfl) (by kernel_rfl) (by kernel_rfl) (fun _ _ _ h => h) (Or.inl ⟨by rfl, fun _ _ => rfl⟩) hS ?_
  simp only [Act.put, List.setIfInBounds_toArray, List.set_cons_zero, List.set_cons_succ]
  refine wpAnyH_take (oi := ⟨_, _, _, _, _, _⟩) (i := 27) (v := .pointer (some ⟨p, 0, none⟩)) rfl (by kernel_rfl) (by kernel_rfl) (by kernel_rfl) (fun _ _ _ h => h) (Or.inl ⟨by rfl, fun _ _ => rfl⟩) hS ?_
  simp only [Act.put, List.setIfInBounds_toArray, List.set_cons_zero, List.set_cons_succ]
  refine wpAnyH_take (oi := ⟨_, _, _, _, _, _⟩) (i := 30) (v := .pointer (some ⟨q, 0, none⟩)) rfl (by kernel_rfl) (by kernel_rfl) (by kernel_rfl) (fun _ _ _ h => h) (Or.inl ⟨by rfl, fun _ _ => rfl⟩) hS ?_
  simp only [Act.put, List.setIfInBounds_toArray, List.set_cons_zero, List.set_cons_succ]
  refine wpAnyH_all (rs := [28]) (by kernel_rfl) (by simp) fun i hi => ?_
  obtain rfl : i = 28 := by simpa using hi
  have hb1 := bytes_at hdd
  have hW1 : q < w1.heap.size := (Array.getElem?_eq_some_iff.1 hS).1
  refine op_call (om := ⟨_, _, _, _, _, _⟩) (fn := 25) (args := #[.pointer (some ⟨p, 0, none⟩)]) (R := fun u w' => ∃ R c, u = .slice R D.L.length c ∧ BR w' w'.heap.size R D.L ∧ Below w1.heap.size w1 w') rfl rfl (by go_simp) (hb1.mono fun e w' ⟨R, c, he, h1, h2⟩ => ⟨_, he, R, c, rfl, h1, h2⟩) _ _ rfl rfl ?_
  rintro u w2 ⟨R1, c1, rfl, br1, b2⟩
  have k2 := keeps_of_below b2
  have hr2 := hrd.same k2
  have hS2 : HeadS q (.slice A n' cap) wv D w2 := hr2.head
  refine ⟨hS2, ?_⟩
  clear hi hb1
  simp only [Act.put, List.setIfInBounds_toArray, List.set_cons_zero, List.set_cons_succ]
  have cv1 := run_str (P := Try.prog) w2 _ 30 9 5 R1 D.L c1 br1 rfl rfl rfl
  refine BothH.go (oi := ⟨_, _, _, _, _, _⟩) (i := 29) (v := .string ⟨D.L.toArray⟩) rfl ?_
  refine BothH.step rfl 31 ⟨_, _, _, _, _, _⟩ rfl (by kernel_rfl) hS2 (Or.inl ⟨rfl, Or.inl (ex_convert 30 9 (.tmp 36) rfl _ _ rfl cv1)⟩) (fun u w' => ∃ R c, u = .slice R D.L.length c ∧ BR w' w'.heap.size R D.L ∧ Below w2.heap.size w2 w') (fun u w' ⟨_, _, _, _, hb⟩ => (hb.block q (Array.getElem?_eq_some_iff.1 hS2).1).trans hS2) (op_call (fn := 32) (args := #[.pointer (some ⟨q, 0, none⟩)]) rfl rfl (by go_simp) ((rbytes_any hr2).mono fun e w' ⟨R, c, he, h1, h2⟩ => ⟨_, he, R, c, rfl, h1, h2⟩)) ?_
  rintro u w3 ⟨R2, c2, rfl, br2, b3⟩
  have k3 := keeps_of_below b3
  have hr3 := hr2.same k3
  have hS3 : HeadS q (.slice A n' cap) wv D w3 := hr3.head
  have br1' := (br1.below b3).more b3.size
  have hd3 := (hdd.same k2).same k3
  have K3 := Lib.hid ((K1.out.trans k2).trans k3)
  clear br1 cv1 hS hS2 hW1 b2 b3 k2 k3 hr2 hrd hdd
  simp only [Act.put, List.setIfInBounds_toArray, List.set_cons_zero, List.set_cons_succ]
  have cv1 := run_str (P := Try.prog) w3 _ 30 9 5 R1 D.L c1 br1' rfl rfl rfl
  have cv2 := run_str (P := Try.prog) w3 _ 30 9 5 R2 D.L c2 br2 rfl rfl rfl
  refine BothH.step rfl 32 ⟨_, _, _, _, _, _⟩ rfl (by kernel_rfl) hS3 (Or.inl ⟨rfl, Or.inl (ex_convert 30 9 (.tmp 36) rfl _ _ rfl cv1)⟩) _ (by rintro _ _ ⟨_, rfl⟩; exact hS3) (op_run rfl rfl (ex_convert 30 9 (.tmp 39) rfl _ _ rfl cv2)) ?_
  rintro u w3 ⟨rfl, rfl⟩
  simp only [Act.put, List.setIfInBounds_toArray, List.set_cons_zero, List.set_cons_succ]
  refine BothH.done rfl (by kernel_rfl) hS3 (Or.inl ⟨rfl, Or.inl (ex_convert 30 9 (.tmp 36) rfl _ _ rfl cv1)⟩) ?_
  clear cv1 cv2 br1' br2
  simp only [Act.put, List.setIfInBounds_toArray, List.set_cons_zero, List.set_cons_succ]
  refine wpAnyH_take (oi := ⟨_, _, _, _, _, _⟩) (i := 33) (v := .bool false) rfl (by kernel_rfl) (by kernel_rfl) (by kernel_rfl) (fun _ _ _ h => h) (Or.inl ⟨by rfl, fun _ _ => by go_simp⟩) hS3 ?_
  simp only [Act.put, List.setIfInBounds_toArray, List.set_cons_zero, List.set_cons_succ]
  refine wpAnyH_take (oi := ⟨_, _, _, _, _, _⟩) (i := 34) (v := .bool false) rfl (by kernel_rfl) (by kernel_rfl) (by kernel_rfl) (fun _ _ _ h => h) (Or.inl ⟨by rfl, fun _ _ => by go_simp⟩) hS3 ?_
  simp only [Act.put, List.setIfInBounds_toArray, List.set_cons_zero, List.set_cons_succ]
  refine wpAnyH_done (by kernel_rfl) ?_ _
  have hw3 := waiting_any (w := w3) ⟨lb, mb, n', iv, hd3, hdF⟩ hQ
  have hlen : (D.Q.map (·.1)).length ≤ 1954687338212 := by simpa using hQ
  have hw4 : ∀ w4, Keeps (fun _ => False) w3 w4 → Calls Try.prog 33 #[.pointer (some ⟨q, 0, none⟩)] w4 (GivesI w4 (D.Q.map (·.1))) := fun w4 k4 => rwaiting_any (hr3.same k4) hQ
  generalize D.Q.map (·.1) = l at *
  have HW3 := Lib.hid hw3
  have HW4' := Lib.hid hw4
  clear hw3 hS3 hw4 hr3 hd3
  generalize (⟨D.L.toArray⟩ : ByteArray) = str at *
  go_wp2_with fail
  refine HW3.out.mono ?_
  rintro e w4 ⟨R4, c4, rfl, ir4, b4⟩
  have k4 := keeps_of_below b4
  have HW4 := Lib.hid (HW4'.out w4 k4)
  clear HW4' HW3
  go_wp2_with fail
  refine HW4.out.mono ?_
  rintro e w5 ⟨R5, c5, rfl, ir5, b5⟩
  have k5 := keeps_of_below b5
  have ir4 := ir4.keep k5
  have K5 := Lib.hid ((K3.out.trans k4).trans k5)
  clear K3 k4 k5 b4 b5 HW4 K1
  go_wp2_with fail
  go_loopw [54, 7] (fun tK _ wr => ∃ k : Nat, k ≤ l.length ∧ tK = .int .i64 (k : Int) ∧ Keeps (fun _ => False) w5 wr) (fun tK _ _ => l.length - (intOf tK).toNat)
  case atStart => exact ⟨0, by omega, rfl, Keeps.refl _ _⟩
  case round =>
    obtain ⟨k, hk, rfl, kr⟩ := hrel
    by_cases hlt : k < l.length
    · have kdr := kr.trans (Keeps.drew _ wr)
      obtain ⟨g4, rfl, hg4, e4⟩ := (ir4.keep kdr) k l[k] (List.getElem?_eq_getElem hlt)
      obtain ⟨g5, rfl, hg5, e5⟩ := (ir5.keep kdr) k l[k] (List.getElem?_eq_getElem hlt)
      have KR := Lib.hid kdr
      clear kr kdr ir4 ir5
      generalize l[k] = x at *
      go_wp2_with fail
      refine wp_region_still_tail 8 (by kernel_rfl) (by kernel_rfl) ?_
      simp only [List.take_succ_cons, List.take_zero, List.drop_succ_cons, List.drop_zero]
      change wpStill _ _ wr.drew (fun a' => wpList _ _ _ _ a' wr.drew) _ _
      generalize wr.drew = w6 at *
      still_step
      still_step
      still_step
      still_step
      still_step
      still_step
      still_step
      still_step
      refine wpStill_nil ?_
      go_wp2_with fail
      go_roundw
      case rel => exact ⟨k + 1, by omega, by go_num, KR.out⟩
      case measure => simp [intOf]; omega
    · obtain rfl : k = l.length := by omega
      have KF := Lib.hid (K5.out.trans kr)
      clear ir4 ir5 kr
      go_wp2_with fail
      go_ret
      exact ⟨rfl, KF.out⟩
end Go.Proofs.Ythbdhmjmboliiaa
