/-
  MmAct
-/
import Derived.Test.YtdbphindnnchfaaMmActIn
import Derived.Test.YtdbphindnnchfaaMmTail
import Derived.Test.YtdbphindnnchfaaMmCalls
import Derived.Test.YtdbphindnnchfaaGT
namespace Go.Proofs.Ytdbphindnnchfaa.Mm
open Go.RowKit Go.Maps
set_option linter.unusedVariables false

theorem aggI : ∀ w, (isAgg 2).run Try.prog w = .ok false w := fun w => by kernel_rfl
theorem boxA (w : World) (a : MAct) : (Instr.box 31 (.agg (macells a).toArray)).run Try.prog w = .ok (.pointer (some ⟨w.heap.size, 0, none⟩)) (w.alloc (.cells (macells a).toArray 31)) := rfl
/-- An Act's variable. -/
def ActB (g : Nat) (a : MAct) (W : World) : Prop := W.heap[g]? = some (.cells (macells a).toArray 31 (0, 0))
theorem ActB.c {g : Nat} {a : MAct} {W : World} (h : ActB g a W) : W.cell? ⟨g, 1, none⟩ = some (.int .i64 a.a) ∧ W.cell? ⟨g, 2, none⟩ = some (.int .i64 a.n) ∧ W.cell? ⟨g, 3, none⟩ = some (.slice a.A a.xs.length a.c) ∧ W.cell? ⟨g, 0, none⟩ = some (.int .i64 a.do_) := by
  refine ⟨?_, ?_, ?_, ?_⟩ <;> rw [cell_of_row _ _ _ _ _ _ h] <;> rfl
theorem ActB.keep {g : Nat} {a : MAct} {W W' : World} {F : Nat → Prop} (h : ActB g a W) (k : Keeps F W W') (hF : ¬ F g) : ActB g a W' := (k.block g (Array.getElem?_eq_some_iff.1 h).1 hF).trans h
/-- What a call makes of the bytes. -/
def aM (M : List UInt8) (a : MAct) : List UInt8 := if a.do_ = 0 then pbM M a.a a.n else if a.do_ = 1 then pcM M a.a a.n else if a.do_ = 2 then setM M a.a a.n else if a.do_ = 3 then layL M a.a a.xs else M
/-- Both answered alike, and both have become so. -/
def ActOut (w : World) (lo mi hi p q : Nat) (G M : List UInt8) (e : Ending) (w' : World) : Prop := e = .returned (.bool true) ∧ Pair w' lo mi w'.heap.size p q G M M ∧ Keeps (fun i => lo ≤ i ∧ i < hi) w w'
variable {w : World} {lo mi hi p q : Nat} {G M : List UInt8}
/-- The Act is boxed, nothing else has changed. -/
theorem act_start (h : Pair w lo mi hi p q G M M) (a : MAct) : ActB w.heap.size a (w.alloc (.cells (macells a).toArray 31)) ∧ Pair (w.alloc (.cells (macells a).toArray 31)) lo mi hi p q G M M ∧ Keeps (fun _ => False) w (w.alloc (.cells (macells a).toArray 31)) :=
  ⟨heap_alloc_new w _, h.keep (Keeps.alloc (fun _ => False) _ _) (fun _ _ _ h => h), Keeps.alloc _ _ _⟩
set_option maxRecDepth 100000 in
set_option maxHeartbeats 1000000 in
theorem act0 (h : Pair w lo mi hi p q G M M) (a : MAct) (ho : a.Ok w)  (d0 : a.do_ = 0) :
    Calls Try.prog 11 #[.pointer (some ⟨p, 0, none⟩), .pointer (some ⟨q, 0, none⟩), .agg (macells a).toArray] w (ActOut w lo mi hi p q G (pbM M a.a a.n)) := by
  obtain ⟨x0, h0, k0⟩ := act_start h a
  have hs := h.size
  have hL : lo ≤ w.heap.size := Nat.le_trans h.low (Nat.le_trans h.mid hs)
  have an := ho.a0
  have an' := ho.a1
  have nn := ho.n0
  have nn' := ho.n1
  obtain ⟨ca, cn, cs, cd⟩ := x0.c
  have e0 : (a.do_ == 0) = true := by simpa using d0
  have X0 := Lib.hid x0
  have H0 := Lib.hid h0
  have K0 := Lib.hid k0
  have OB := Lib.hid ho.br
  have OC := Lib.hid ho.cap
  clear x0 h0 k0 h ho d0
  go_enter Try.func11, Try.ntmps11
  go_wp2_with ((with_reducible refine at_ (op := .box 31 (.tmp 2)) ?_); refine wpList_val rfl _ (ex_box 31 (.tmp 2) rfl _ _ rfl (boxA _ _)) ?_)
  refine wp_region_held (S := ActB w.heap.size a) (by kernel_rfl) ?_
  change wpAnyH _ _ _ _ _ _ _ _ (w.alloc (.cells (macells a).toArray 31)).drew
  have kd : Keeps (fun _ => False) (w.alloc (.cells (macells a).toArray 31)) (w.alloc (.cells (macells a).toArray 31)).drew := Keeps.drew _ _
  have HS : ActB w.heap.size a (w.alloc (.cells (macells a).toArray 31)).drew := X0.out.keep kd (fun h => h)
  have h1 := H0.out.keep kd (fun _ _ _ h => h)
  have k1 := K0.out.trans kd
  clear X0 H0 K0 kd ca cn cs cd
  generalize (w.alloc (.cells (macells a).toArray 31)).drew = w1 at *
  refine wpAnyH_take (oi := ⟨_, _, _, _, _, _⟩) (i := 0) (v := .pointer (some ⟨p, 0, none⟩)) rfl (by kernel_rfl) (by kernel_rfl) (by kernel_rfl) (fun _ _ _ h => h) (Or.inl ⟨by rfl, fun _ _ => rfl⟩) HS ?_
  simp only [Act.put, List.setIfInBounds_toArray, List.set_cons_zero, List.set_cons_succ]
  refine wpAnyH_take (oi := ⟨_, _, _, _, _, _⟩) (i := 1) (v := .pointer (some ⟨w.heap.size, 1, none⟩)) rfl (by kernel_rfl) (by kernel_rfl) (by kernel_rfl) (fun _ _ _ h => h) (Or.inl ⟨by rfl, fun _ _ => by go_simp⟩) HS ?_
  simp only [Act.put, List.setIfInBounds_toArray, List.set_cons_zero, List.set_cons_succ]
  refine wpAnyH_take (oi := ⟨_, _, _, _, _, _⟩) (i := 2) (v := .int .i64 a.a) rfl (by kernel_rfl) (by kernel_rfl) (by kernel_rfl) (fun _ _ _ h => h) (yif_load rfl 2 (.tmp 20) rfl _ _ rfl fun W (h : ActB w.heap.size a W) => load_one aggI h.c.1) HS ?_
  simp only [Act.put, List.setIfInBounds_toArray, List.set_cons_zero, List.set_cons_succ]
  refine wpAnyH_take (oi := ⟨_, _, _, _, _, _⟩) (i := 3) (v := .pointer (some ⟨w.heap.size, 2, none⟩)) rfl (by kernel_rfl) (by kernel_rfl) (by kernel_rfl) (fun _ _ _ h => h) (Or.inl ⟨by rfl, fun _ _ => by go_simp⟩) HS ?_
  simp only [Act.put, List.setIfInBounds_toArray, List.set_cons_zero, List.set_cons_succ]
  refine wpAnyH_take (oi := ⟨_, _, _, _, _, _⟩) (i := 4) (v := .int .i64 a.n) rfl (by kernel_rfl) (by kernel_rfl) (by kernel_rfl) (fun _ _ _ h => h) (yif_load rfl 2 (.tmp 22) rfl _ _ rfl fun W (h : ActB w.heap.size a W) => load_one aggI h.c.2.1) HS ?_
  simp only [Act.put, List.setIfInBounds_toArray, List.set_cons_zero, List.set_cons_succ]
  refine wpAnyH_take (oi := ⟨_, _, _, _, _, _⟩) (i := 6) (v := .pointer (some ⟨q, 0, none⟩)) rfl (by kernel_rfl) (by kernel_rfl) (by kernel_rfl) (fun _ _ _ h => h) (Or.inl ⟨by rfl, fun _ _ => rfl⟩) HS ?_
  simp only [Act.put, List.setIfInBounds_toArray, List.set_cons_zero, List.set_cons_succ]
  refine wpAnyH_take (oi := ⟨_, _, _, _, _, _⟩) (i := 7) (v := .pointer (some ⟨w.heap.size, 1, none⟩)) rfl (by kernel_rfl) (by kernel_rfl) (by kernel_rfl) (fun _ _ _ h => h) (Or.inl ⟨by rfl, fun _ _ => by go_simp⟩) HS ?_
  simp only [Act.put, List.setIfInBounds_toArray, List.set_cons_zero, List.set_cons_succ]
  refine wpAnyH_take (oi := ⟨_, _, _, _, _, _⟩) (i := 8) (v := .int .i64 a.a) rfl (by kernel_rfl) (by kernel_rfl) (by kernel_rfl) (fun _ _ _ h => h) (yif_load rfl 2 (.tmp 26) rfl _ _ rfl fun W (h : ActB w.heap.size a W) => load_one aggI h.c.1) HS ?_
  simp only [Act.put, List.setIfInBounds_toArray, List.set_cons_zero, List.set_cons_succ]
  refine wpAnyH_take (oi := ⟨_, _, _, _, _, _⟩) (i := 9) (v := .pointer (some ⟨w.heap.size, 2, none⟩)) rfl (by kernel_rfl) (by kernel_rfl) (by kernel_rfl) (fun _ _ _ h => h) (Or.inl ⟨by rfl, fun _ _ => by go_simp⟩) HS ?_
  simp only [Act.put, List.setIfInBounds_toArray, List.set_cons_zero, List.set_cons_succ]
  refine wpAnyH_take (oi := ⟨_, _, _, _, _, _⟩) (i := 10) (v := .int .i64 a.n) rfl (by kernel_rfl) (by kernel_rfl) (by kernel_rfl) (fun _ _ _ h => h) (yif_load rfl 2 (.tmp 28) rfl _ _ rfl fun W (h : ActB w.heap.size a W) => load_one aggI h.c.2.1) HS ?_
  simp only [Act.put, List.setIfInBounds_toArray, List.set_cons_zero, List.set_cons_succ]
  refine wpAnyH_all (rs := [5]) (by kernel_rfl) (by simp) fun i hi => ?_
  obtain rfl : i = 5 := by simpa using hi
  clear hi
  refine op_call (om := ⟨_, _, _, _, _, _⟩) (fn := 24) (args := #[.pointer (some ⟨p, 0, none⟩), .int .i64 a.a, .int .i64 a.n]) (R := fun u w' => u = .int .i64 (pbT a.a) ∧ Pair w' lo mi hi p q G (pbM M a.a a.n) M ∧ Keeps (fun i => lo ≤ i ∧ i < hi) w1 w') rfl rfl (by go_simp)
      ((h1.code fun gb mb h _ _ _ _ => mputbyte_at h a.a a.n an an').mono fun e w' ⟨he, h1, h2⟩ => ⟨_, he, rfl, h1, h2⟩) _ _ rfl rfl ?_
  rintro u w2 ⟨rfl, h2, k2⟩
  have HS2 : ActB w.heap.size a w2 := HS.keep k2 (by omega)
  refine ⟨HS2, ?_⟩
  simp only [Act.put, List.setIfInBounds_toArray, List.set_cons_zero, List.set_cons_succ]
  refine wpAnyH_all (rs := [11]) (by kernel_rfl) (by simp) fun i hi => ?_
  obtain rfl : i = 11 := by simpa using hi
  clear hi
  refine op_call (om := ⟨_, _, _, _, _, _⟩) (fn := 29) (args := #[.pointer (some ⟨q, 0, none⟩), .int .i64 a.a, .int .i64 a.n]) (R := fun u w' => u = .int .i64 (pbT a.a) ∧ Pair w' lo mi w'.heap.size p q G (pbM M a.a a.n) (pbM M a.a a.n) ∧ Keeps (fun i => lo ≤ i ∧ i < hi) w2 w') rfl rfl (by go_simp)
      ((h2.doc fun b c d e h _ _ hs => rputbyte_at h a.a a.n).mono fun e w' ⟨he, h1, h2⟩ => ⟨_, he, rfl, h1, h2⟩) _ _ rfl rfl ?_
  rintro u w3 ⟨rfl, h3, k3⟩
  have HS3 : ActB w.heap.size a w3 := HS2.keep k3 (by omega)
  refine ⟨HS3, ?_⟩
  simp only [Act.put, List.setIfInBounds_toArray, List.set_cons_zero, List.set_cons_succ]
  refine wpAnyH_take (oi := ⟨_, _, _, _, _, _⟩) (i := 12) (v := .bool true) rfl (by kernel_rfl) (by kernel_rfl) (by kernel_rfl) (fun _ _ _ h => h) (Or.inl ⟨by rfl, fun _ _ => by go_simp⟩) HS3 ?_
  simp only [Act.put, List.setIfInBounds_toArray, List.set_cons_zero, List.set_cons_succ]
  refine wpAnyH_take (oi := ⟨_, _, _, _, _, _⟩) (i := 13) (v := .bool true) rfl (by kernel_rfl) (by kernel_rfl) (by kernel_rfl) (fun _ _ _ h => h) (Or.inl ⟨by rfl, fun _ _ => rfl⟩) HS3 ?_
  simp only [Act.put, List.setIfInBounds_toArray, List.set_cons_zero, List.set_cons_succ]
  have H3 := Lib.hid h3
  have K3 := Lib.hid ((k1.mono (G := fun i => lo ≤ i ∧ i < hi) fun _ _ h => h.elim).trans (k2.trans k3))
  clear h1 h2 h3 k1 k2 k3 HS HS2 HS3
  refine wpAnyH_done (by kernel_rfl) ?_ _
  go_wp2_with fail
  go_ret
  exact ⟨rfl, H3.out, K3.out⟩
set_option maxRecDepth 100000 in
set_option maxHeartbeats 1000000 in
theorem act1 (h : Pair w lo mi hi p q G M M) (a : MAct) (ho : a.Ok w) (d0 : ¬ a.do_ = 0) (d1 : a.do_ = 1) :
    Calls Try.prog 11 #[.pointer (some ⟨p, 0, none⟩), .pointer (some ⟨q, 0, none⟩), .agg (macells a).toArray] w (ActOut w lo mi hi p q G (pcM M a.a a.n)) := by
  obtain ⟨x0, h0, k0⟩ := act_start h a
  have hs := h.size
  have hL : lo ≤ w.heap.size := Nat.le_trans h.low (Nat.le_trans h.mid hs)
  have an := ho.a0
  have an' := ho.a1
  have nn := ho.n0
  have nn' := ho.n1
  obtain ⟨ca, cn, cs, cd⟩ := x0.c
  have e0 : (a.do_ == 0) = false := by simpa using d0
  have e1 : (a.do_ == 1) = true := by simpa using d1
  have X0 := Lib.hid x0
  have H0 := Lib.hid h0
  have K0 := Lib.hid k0
  have OB := Lib.hid ho.br
  have OC := Lib.hid ho.cap
  clear x0 h0 k0 h ho d0 d1
  go_enter Try.func11, Try.ntmps11
  go_wp2_with ((with_reducible refine at_ (op := .box 31 (.tmp 2)) ?_); refine wpList_val rfl _ (ex_box 31 (.tmp 2) rfl _ _ rfl (boxA _ _)) ?_)
  refine wp_region_held (S := ActB w.heap.size a) (by kernel_rfl) ?_
  change wpAnyH _ _ _ _ _ _ _ _ (w.alloc (.cells (macells a).toArray 31)).drew
  have kd : Keeps (fun _ => False) (w.alloc (.cells (macells a).toArray 31)) (w.alloc (.cells (macells a).toArray 31)).drew := Keeps.drew _ _
  have HS : ActB w.heap.size a (w.alloc (.cells (macells a).toArray 31)).drew := X0.out.keep kd (fun h => h)
  have h1 := H0.out.keep kd (fun _ _ _ h => h)
  have k1 := K0.out.trans kd
  clear X0 H0 K0 kd ca cn cs cd
  generalize (w.alloc (.cells (macells a).toArray 31)).drew = w1 at *
  refine wpAnyH_take (oi := ⟨_, _, _, _, _, _⟩) (i := 0) (v := .pointer (some ⟨p, 0, none⟩)) rfl (by kernel_rfl) (by kernel_rfl) (by kernel_rfl) (fun _ _ _ h => h) (Or.inl ⟨by rfl, fun _ _ => rfl⟩) HS ?_
  simp only [Act.put, List.setIfInBounds_toArray, List.set_cons_zero, List.set_cons_succ]
  refine wpAnyH_take (oi := ⟨_, _, _, _, _, _⟩) (i := 1) (v := .pointer (some ⟨w.heap.size, 1, none⟩)) rfl (by kernel_rfl) (by kernel_rfl) (by kernel_rfl) (fun _ _ _ h => h) (Or.inl ⟨by rfl, fun _ _ => by go_simp⟩) HS ?_
  simp only [Act.put, List.setIfInBounds_toArray, List.set_cons_zero, List.set_cons_succ]
  refine wpAnyH_take (oi := ⟨_, _, _, _, _, _⟩) (i := 2) (v := .int .i64 a.a) rfl (by kernel_rfl) (by kernel_rfl) (by kernel_rfl) (fun _ _ _ h => h) (yif_load rfl 2 (.tmp 35) rfl _ _ rfl fun W (h : ActB w.heap.size a W) => load_one aggI h.c.1) HS ?_
  simp only [Act.put, List.setIfInBounds_toArray, List.set_cons_zero, List.set_cons_succ]
  refine wpAnyH_take (oi := ⟨_, _, _, _, _, _⟩) (i := 3) (v := .pointer (some ⟨w.heap.size, 2, none⟩)) rfl (by kernel_rfl) (by kernel_rfl) (by kernel_rfl) (fun _ _ _ h => h) (Or.inl ⟨by rfl, fun _ _ => by go_simp⟩) HS ?_
  simp only [Act.put, List.setIfInBounds_toArray, List.set_cons_zero, List.set_cons_succ]
  refine wpAnyH_take (oi := ⟨_, _, _, _, _, _⟩) (i := 4) (v := .int .i64 a.n) rfl (by kernel_rfl) (by kernel_rfl) (by kernel_rfl) (fun _ _ _ h => h) (yif_load rfl 2 (.tmp 37) rfl _ _ rfl fun W (h : ActB w.heap.size a W) => load_one aggI h.c.2.1) HS ?_
  simp only [Act.put, List.setIfInBounds_toArray, List.set_cons_zero, List.set_cons_succ]
  refine wpAnyH_take (oi := ⟨_, _, _, _, _, _⟩) (i := 6) (v := .pointer (some ⟨q, 0, none⟩)) rfl (by kernel_rfl) (by kernel_rfl) (by kernel_rfl) (fun _ _ _ h => h) (Or.inl ⟨by rfl, fun _ _ => rfl⟩) HS ?_
  simp only [Act.put, List.setIfInBounds_toArray, List.set_cons_zero, List.set_cons_succ]
  refine wpAnyH_take (oi := ⟨_, _, _, _, _, _⟩) (i := 7) (v := .pointer (some ⟨w.heap.size, 1, none⟩)) rfl (by kernel_rfl) (by kernel_rfl) (by kernel_rfl) (fun _ _ _ h => h) (Or.inl ⟨by rfl, fun _ _ => by go_simp⟩) HS ?_
  simp only [Act.put, List.setIfInBounds_toArray, List.set_cons_zero, List.set_cons_succ]
  refine wpAnyH_take (oi := ⟨_, _, _, _, _, _⟩) (i := 8) (v := .int .i64 a.a) rfl (by kernel_rfl) (by kernel_rfl) (by kernel_rfl) (fun _ _ _ h => h) (yif_load rfl 2 (.tmp 41) rfl _ _ rfl fun W (h : ActB w.heap.size a W) => load_one aggI h.c.1) HS ?_
  simp only [Act.put, List.setIfInBounds_toArray, List.set_cons_zero, List.set_cons_succ]
  refine wpAnyH_take (oi := ⟨_, _, _, _, _, _⟩) (i := 9) (v := .pointer (some ⟨w.heap.size, 2, none⟩)) rfl (by kernel_rfl) (by kernel_rfl) (by kernel_rfl) (fun _ _ _ h => h) (Or.inl ⟨by rfl, fun _ _ => by go_simp⟩) HS ?_
  simp only [Act.put, List.setIfInBounds_toArray, List.set_cons_zero, List.set_cons_succ]
  refine wpAnyH_take (oi := ⟨_, _, _, _, _, _⟩) (i := 10) (v := .int .i64 a.n) rfl (by kernel_rfl) (by kernel_rfl) (by kernel_rfl) (fun _ _ _ h => h) (yif_load rfl 2 (.tmp 43) rfl _ _ rfl fun W (h : ActB w.heap.size a W) => load_one aggI h.c.2.1) HS ?_
  simp only [Act.put, List.setIfInBounds_toArray, List.set_cons_zero, List.set_cons_succ]
  refine wpAnyH_all (rs := [5]) (by kernel_rfl) (by simp) fun i hi => ?_
  obtain rfl : i = 5 := by simpa using hi
  clear hi
  refine op_call (om := ⟨_, _, _, _, _, _⟩) (fn := 16) (args := #[.pointer (some ⟨p, 0, none⟩), .int .i64 a.a, .int .i64 a.n]) (R := fun u w' => u = .int .i64 (pcT a.a) ∧ Pair w' lo mi hi p q G (pcM M a.a a.n) M ∧ Keeps (fun i => lo ≤ i ∧ i < hi) w1 w') rfl rfl (by go_simp)
      ((h1.code fun gb mb h _ _ _ _ => mputcell_at h a.a a.n an an').mono fun e w' ⟨he, h1, h2⟩ => ⟨_, he, rfl, h1, h2⟩) _ _ rfl rfl ?_
  rintro u w2 ⟨rfl, h2, k2⟩
  have HS2 : ActB w.heap.size a w2 := HS.keep k2 (by omega)
  refine ⟨HS2, ?_⟩
  simp only [Act.put, List.setIfInBounds_toArray, List.set_cons_zero, List.set_cons_succ]
  refine wpAnyH_all (rs := [11]) (by kernel_rfl) (by simp) fun i hi => ?_
  obtain rfl : i = 11 := by simpa using hi
  clear hi
  refine op_call (om := ⟨_, _, _, _, _, _⟩) (fn := 30) (args := #[.pointer (some ⟨q, 0, none⟩), .int .i64 a.a, .int .i64 a.n]) (R := fun u w' => u = .int .i64 (pcT a.a) ∧ Pair w' lo mi w'.heap.size p q G (pcM M a.a a.n) (pcM M a.a a.n) ∧ Keeps (fun i => lo ≤ i ∧ i < hi) w2 w') rfl rfl (by go_simp)
      ((h2.doc fun b c d e h _ _ hs => rputcell_at h hs a.a a.n an an').mono fun e w' ⟨he, h1, h2⟩ => ⟨_, he, rfl, h1, h2⟩) _ _ rfl rfl ?_
  rintro u w3 ⟨rfl, h3, k3⟩
  have HS3 : ActB w.heap.size a w3 := HS2.keep k3 (by omega)
  refine ⟨HS3, ?_⟩
  simp only [Act.put, List.setIfInBounds_toArray, List.set_cons_zero, List.set_cons_succ]
  refine wpAnyH_take (oi := ⟨_, _, _, _, _, _⟩) (i := 12) (v := .bool true) rfl (by kernel_rfl) (by kernel_rfl) (by kernel_rfl) (fun _ _ _ h => h) (Or.inl ⟨by rfl, fun _ _ => by go_simp⟩) HS3 ?_
  simp only [Act.put, List.setIfInBounds_toArray, List.set_cons_zero, List.set_cons_succ]
  refine wpAnyH_take (oi := ⟨_, _, _, _, _, _⟩) (i := 13) (v := .bool true) rfl (by kernel_rfl) (by kernel_rfl) (by kernel_rfl) (fun _ _ _ h => h) (Or.inl ⟨by rfl, fun _ _ => rfl⟩) HS3 ?_
  simp only [Act.put, List.setIfInBounds_toArray, List.set_cons_zero, List.set_cons_succ]
  have H3 := Lib.hid h3
  have K3 := Lib.hid ((k1.mono (G := fun i => lo ≤ i ∧ i < hi) fun _ _ h => h.elim).trans (k2.trans k3))
  clear h1 h2 h3 k1 k2 k3 HS HS2 HS3
  refine wpAnyH_done (by kernel_rfl) ?_ _
  go_wp2_with fail
  go_ret
  exact ⟨rfl, H3.out, K3.out⟩
set_option maxRecDepth 100000 in
set_option maxHeartbeats 1000000 in
theorem act2 (h : Pair w lo mi hi p q G M M) (a : MAct) (ho : a.Ok w) (d0 : ¬ a.do_ = 0) (d1 : ¬ a.do_ = 1) (d2 : a.do_ = 2) :
    Calls Try.prog 11 #[.pointer (some ⟨p, 0, none⟩), .pointer (some ⟨q, 0, none⟩), .agg (macells a).toArray] w (ActOut w lo mi hi p q G (setM M a.a a.n)) := by
  obtain ⟨x0, h0, k0⟩ := act_start h a
  have hs := h.size
  have hL : lo ≤ w.heap.size := Nat.le_trans h.low (Nat.le_trans h.mid hs)
  have an := ho.a0
  have an' := ho.a1
  have nn := ho.n0
  have nn' := ho.n1
  obtain ⟨ca, cn, cs, cd⟩ := x0.c
  have e0 : (a.do_ == 0) = false := by simpa using d0
  have e1 : (a.do_ == 1) = false := by simpa using d1
  have e2 : (a.do_ == 2) = true := by simpa using d2
  have X0 := Lib.hid x0
  have H0 := Lib.hid h0
  have K0 := Lib.hid k0
  have OB := Lib.hid ho.br
  have OC := Lib.hid ho.cap
  clear x0 h0 k0 h ho d0 d1 d2
  go_enter Try.func11, Try.ntmps11
  go_wp2_with ((with_reducible refine at_ (op := .box 31 (.tmp 2)) ?_); refine wpList_val rfl _ (ex_box 31 (.tmp 2) rfl _ _ rfl (boxA _ _)) ?_)
  have h1 := H0.out
  have k1 := K0.out
  have x1 := X0.out
  clear X0 H0 K0
  generalize w.alloc (.cells (macells a).toArray 31) = w1 at *
  refine (h1.code fun gb mb h u1 u2 u3 u4 => mset_at h a.a a.n an an').mono ?_
  rintro e w2 ⟨rfl, h2, k2⟩
  have x2 := x1.keep k2 (by omega)
  clear ca cn cs cd
  obtain ⟨ca, cn, cs, cd⟩ := x2.c
  have K2 := Lib.hid k2
  clear k2
  go_wp2_with fail
  refine (h2.doc fun b c d e h u1 u2 hs => rset_at h hs a.a a.n an an').mono ?_
  rintro e w3 ⟨rfl, h3, k3⟩
  have x3 := x2.keep k3 (by omega)
  clear ca cn cs cd
  obtain ⟨ca, cn, cs, cd⟩ := x3.c
  have K3 := Lib.hid k3
  clear k3
  go_wp2_with fail
  go_ret
  exact ⟨rfl, h3, (k1.mono fun _ _ h => h.elim).trans (K2.out.trans K3.out)⟩
set_option maxRecDepth 100000 in
set_option maxHeartbeats 1000000 in
theorem act3 (h : Pair w lo mi hi p q G M M) (a : MAct) (ho : a.Ok w) (hb : BR w lo a.A a.xs) (hl : a.xs.length ≤ 140737488351232) (d0 : ¬ a.do_ = 0) (d1 : ¬ a.do_ = 1) (d2 : ¬ a.do_ = 2) (d3 : a.do_ = 3) :
    Calls Try.prog 11 #[.pointer (some ⟨p, 0, none⟩), .pointer (some ⟨q, 0, none⟩), .agg (macells a).toArray] w (ActOut w lo mi hi p q G (layL M a.a a.xs)) := by
  obtain ⟨x0, h0, k0⟩ := act_start h a
  have hs := h.size
  have hL : lo ≤ w.heap.size := Nat.le_trans h.low (Nat.le_trans h.mid hs)
  have an := ho.a0
  have an' := ho.a1
  have nn := ho.n0
  have nn' := ho.n1
  obtain ⟨ca, cn, cs, cd⟩ := x0.c
  have e0 : (a.do_ == 0) = false := by simpa using d0
  have e1 : (a.do_ == 1) = false := by simpa using d1
  have e2 : (a.do_ == 2) = false := by simpa using d2
  have e3 : (a.do_ == 3) = true := by simpa using d3
  have X0 := Lib.hid x0
  have H0 := Lib.hid h0
  have K0 := Lib.hid k0
  have OB := Lib.hid ho.br
  have OC := Lib.hid ho.cap
  clear x0 h0 k0 h ho d0 d1 d2 d3
  go_enter Try.func11, Try.ntmps11
  go_wp2_with ((with_reducible refine at_ (op := .box 31 (.tmp 2)) ?_); refine wpList_val rfl _ (ex_box 31 (.tmp 2) rfl _ _ rfl (boxA _ _)) ?_)
  have h1 := H0.out
  have k1 := K0.out
  have x1 := X0.out
  clear X0 H0 K0
  have HL := Lib.hid h1.low
  have s1 := k1.size
  have bw := hb.below (k1.toBelow lo hL (fun _ h => h.elim))
  have hA : ∀ ad, a.A = some ad → a.xs ≠ [] → ∀ i, lo ≤ i → ∀ j, lo ≤ j → ad.block ≠ i ∧ ad.block ≠ j := fun ad e hne i hi j hj => by
    obtain ⟨ad', e', hlt, _⟩ := bw hne
    cases e.symm.trans e'
    omega
  generalize w.alloc (.cells (macells a).toArray 31) = w1 at *
  refine (h1.code fun gb mb h u1 u2 u3 u4 => mlay_at h a.a an an' a.A a.xs a.c (bw.more (Nat.le_trans hL s1)) (fun ad e hne => hA ad e hne _ u2 _ u3) hl OC.out).mono ?_
  rintro e w2 ⟨rfl, h2, k2⟩
  have x2 := x1.keep k2 (by omega)
  clear ca cn cs cd
  obtain ⟨ca, cn, cs, cd⟩ := x2.c
  have K2 := Lib.hid k2
  clear k2
  go_wp2_with fail
  refine (h2.doc fun b c d e h u1 u2 hs => rlay_at h a.a an an' a.A a.xs a.c ((bw.below (K2.out.toBelow lo (Nat.le_trans hL s1) (fun i hi => hi.1))).more (Nat.le_trans (Nat.le_trans hL s1) K2.out.size)) (fun ad e hne => (hA ad e hne b (Nat.le_trans HL.out u2) b (Nat.le_trans HL.out u2)).1) hl).mono ?_
  rintro e w3 ⟨rfl, h3, k3⟩
  have x3 := x2.keep k3 (by omega)
  clear ca cn cs cd
  obtain ⟨ca, cn, cs, cd⟩ := x3.c
  have K3 := Lib.hid k3
  clear k3
  go_wp2_with fail
  go_ret
  exact ⟨rfl, h3, (k1.mono fun _ _ h => h.elim).trans (K2.out.trans K3.out)⟩
set_option maxRecDepth 100000 in
set_option maxHeartbeats 1000000 in
theorem act4 (h : Pair w lo mi hi p q G M M) (a : MAct) (ho : a.Ok w) (d0 : ¬ a.do_ = 0) (d1 : ¬ a.do_ = 1) (d2 : ¬ a.do_ = 2) (d3 : ¬ a.do_ = 3) (d4 : a.do_ = 4) :
    Calls Try.prog 11 #[.pointer (some ⟨p, 0, none⟩), .pointer (some ⟨q, 0, none⟩), .agg (macells a).toArray] w (ActOut w lo mi hi p q G M) := by
  obtain ⟨x0, h0, k0⟩ := act_start h a
  have hs := h.size
  have hL : lo ≤ w.heap.size := Nat.le_trans h.low (Nat.le_trans h.mid hs)
  have an := ho.a0
  have an' := ho.a1
  have nn := ho.n0
  have nn' := ho.n1
  obtain ⟨ca, cn, cs, cd⟩ := x0.c
  have e0 : (a.do_ == 0) = false := by simpa using d0
  have e1 : (a.do_ == 1) = false := by simpa using d1
  have e2 : (a.do_ == 2) = false := by simpa using d2
  have e3 : (a.do_ == 3) = false := by simpa using d3
  have e4 : (a.do_ == 4) = true := by simpa using d4
  have X0 := Lib.hid x0
  have H0 := Lib.hid h0
  have K0 := Lib.hid k0
  have OB := Lib.hid ho.br
  have OC := Lib.hid ho.cap
  clear x0 h0 k0 h ho d0 d1 d2 d3 d4
  go_enter Try.func11, Try.ntmps11
  go_wp2_with ((with_reducible refine at_ (op := .box 31 (.tmp 2)) ?_); refine wpList_val rfl _ (ex_box 31 (.tmp 2) rfl _ _ rfl (boxA _ _)) ?_)
  have h1 := H0.out
  have k1 := K0.out
  have x1 := X0.out
  clear X0 H0 K0
  generalize w.alloc (.cells (macells a).toArray 31) = w1 at *
  refine (h1.code fun gb mb h u1 u2 u3 u4 => mbyte_at h a.a an an').mono ?_
  rintro e w2 ⟨rfl, h2, k2⟩
  have x2 := x1.keep k2 (by omega)
  clear ca cn cs cd
  obtain ⟨ca, cn, cs, cd⟩ := x2.c
  have K2 := Lib.hid k2
  clear k2
  go_wp2_with fail
  refine (h2.docr fun b c d e h => rbyte_at h a.a).mono ?_
  rintro e w' ⟨rfl, rfl⟩
  go_wp2_with fail
  go_ret
  exact ⟨rfl, (h2.more h2.size (Nat.le_refl _)), (k1.mono fun _ _ h => h.elim).trans K2.out⟩
set_option maxRecDepth 100000 in
set_option maxHeartbeats 1000000 in
theorem act5 (h : Pair w lo mi hi p q G M M) (a : MAct) (ho : a.Ok w) (d0 : ¬ a.do_ = 0) (d1 : ¬ a.do_ = 1) (d2 : ¬ a.do_ = 2) (d3 : ¬ a.do_ = 3) (d4 : ¬ a.do_ = 4) (d5 : a.do_ = 5) :
    Calls Try.prog 11 #[.pointer (some ⟨p, 0, none⟩), .pointer (some ⟨q, 0, none⟩), .agg (macells a).toArray] w (ActOut w lo mi hi p q G M) := by
  obtain ⟨x0, h0, k0⟩ := act_start h a
  have hs := h.size
  have hL : lo ≤ w.heap.size := Nat.le_trans h.low (Nat.le_trans h.mid hs)
  have an := ho.a0
  have an' := ho.a1
  have nn := ho.n0
  have nn' := ho.n1
  obtain ⟨ca, cn, cs, cd⟩ := x0.c
  have e0 : (a.do_ == 0) = false := by simpa using d0
  have e1 : (a.do_ == 1) = false := by simpa using d1
  have e2 : (a.do_ == 2) = false := by simpa using d2
  have e3 : (a.do_ == 3) = false := by simpa using d3
  have e4 : (a.do_ == 4) = false := by simpa using d4
  have e5 : (a.do_ == 5) = true := by simpa using d5
  have X0 := Lib.hid x0
  have H0 := Lib.hid h0
  have K0 := Lib.hid k0
  have OB := Lib.hid ho.br
  have OC := Lib.hid ho.cap
  clear x0 h0 k0 h ho d0 d1 d2 d3 d4 d5
  go_enter Try.func11, Try.ntmps11
  go_wp2_with ((with_reducible refine at_ (op := .box 31 (.tmp 2)) ?_); refine wpList_val rfl _ (ex_box 31 (.tmp 2) rfl _ _ rfl (boxA _ _)) ?_)
  have h1 := H0.out
  have k1 := K0.out
  have x1 := X0.out
  clear X0 H0 K0
  generalize w.alloc (.cells (macells a).toArray 31) = w1 at *
  refine (h1.code fun gb mb h u1 u2 u3 u4 => mcell_at h a.a an an').mono ?_
  rintro e w2 ⟨rfl, h2, k2⟩
  have x2 := x1.keep k2 (by omega)
  clear ca cn cs cd
  obtain ⟨ca, cn, cs, cd⟩ := x2.c
  have K2 := Lib.hid k2
  clear k2
  go_wp2_with fail
  refine (h2.docr fun b c d e h => rcell_at h a.a an an').mono ?_
  rintro e w' ⟨rfl, rfl⟩
  go_wp2_with fail
  go_ret
  exact ⟨rfl, (h2.more h2.size (Nat.le_refl _)), (k1.mono fun _ _ h => h.elim).trans K2.out⟩
set_option maxRecDepth 100000 in
set_option maxHeartbeats 1000000 in
theorem act6 (h : Pair w lo mi hi p q G M M) (a : MAct) (ho : a.Ok w) (d0 : ¬ a.do_ = 0) (d1 : ¬ a.do_ = 1) (d2 : ¬ a.do_ = 2) (d3 : ¬ a.do_ = 3) (d4 : ¬ a.do_ = 4) (d5 : ¬ a.do_ = 5) (d6 : a.do_ = 6) :
    Calls Try.prog 11 #[.pointer (some ⟨p, 0, none⟩), .pointer (some ⟨q, 0, none⟩), .agg (macells a).toArray] w (ActOut w lo mi hi p q G M) := by
  obtain ⟨x0, h0, k0⟩ := act_start h a
  have hs := h.size
  have hL : lo ≤ w.heap.size := Nat.le_trans h.low (Nat.le_trans h.mid hs)
  have an := ho.a0
  have an' := ho.a1
  have nn := ho.n0
  have nn' := ho.n1
  obtain ⟨ca, cn, cs, cd⟩ := x0.c
  have e0 : (a.do_ == 0) = false := by simpa using d0
  have e1 : (a.do_ == 1) = false := by simpa using d1
  have e2 : (a.do_ == 2) = false := by simpa using d2
  have e3 : (a.do_ == 3) = false := by simpa using d3
  have e4 : (a.do_ == 4) = false := by simpa using d4
  have e5 : (a.do_ == 5) = false := by simpa using d5
  have e6 : (a.do_ == 6) = true := by simpa using d6
  have X0 := Lib.hid x0
  have H0 := Lib.hid h0
  have K0 := Lib.hid k0
  have OB := Lib.hid ho.br
  have OC := Lib.hid ho.cap
  clear x0 h0 k0 h ho d0 d1 d2 d3 d4 d5 d6
  go_enter Try.func11, Try.ntmps11
  go_wp2_with ((with_reducible refine at_ (op := .box 31 (.tmp 2)) ?_); refine wpList_val rfl _ (ex_box 31 (.tmp 2) rfl _ _ rfl (boxA _ _)) ?_)
  refine wp_region_held (S := ActB w.heap.size a) (by kernel_rfl) ?_
  change wpAnyH _ _ _ _ _ _ _ _ (w.alloc (.cells (macells a).toArray 31)).drew
  have kd : Keeps (fun _ => False) (w.alloc (.cells (macells a).toArray 31)) (w.alloc (.cells (macells a).toArray 31)).drew := Keeps.drew _ _
  have HS : ActB w.heap.size a (w.alloc (.cells (macells a).toArray 31)).drew := X0.out.keep kd (fun h => h)
  have h1 := H0.out.keep kd (fun _ _ _ h => h)
  have k1 := K0.out.trans kd
  clear X0 H0 K0 kd ca cn cs cd
  generalize (w.alloc (.cells (macells a).toArray 31)).drew = w1 at *
  refine wpAnyH_take (oi := ⟨_, _, _, _, _, _⟩) (i := 0) (v := .pointer (some ⟨p, 0, none⟩)) rfl (by kernel_rfl) (by kernel_rfl) (by kernel_rfl) (fun _ _ _ h => h) (Or.inl ⟨by rfl, fun _ _ => rfl⟩) HS ?_
  simp only [Act.put, List.setIfInBounds_toArray, List.set_cons_zero, List.set_cons_succ]
  refine wpAnyH_take (oi := ⟨_, _, _, _, _, _⟩) (i := 1) (v := .pointer (some ⟨w.heap.size, 1, none⟩)) rfl (by kernel_rfl) (by kernel_rfl) (by kernel_rfl) (fun _ _ _ h => h) (Or.inl ⟨by rfl, fun _ _ => by go_simp⟩) HS ?_
  simp only [Act.put, List.setIfInBounds_toArray, List.set_cons_zero, List.set_cons_succ]
  refine wpAnyH_take (oi := ⟨_, _, _, _, _, _⟩) (i := 2) (v := .int .i64 a.a) rfl (by kernel_rfl) (by kernel_rfl) (by kernel_rfl) (fun _ _ _ h => h) (yif_load rfl 2 (.tmp 126) rfl _ _ rfl fun W (h : ActB w.heap.size a W) => load_one aggI h.c.1) HS ?_
  simp only [Act.put, List.setIfInBounds_toArray, List.set_cons_zero, List.set_cons_succ]
  refine wpAnyH_take (oi := ⟨_, _, _, _, _, _⟩) (i := 4) (v := .pointer (some ⟨q, 0, none⟩)) rfl (by kernel_rfl) (by kernel_rfl) (by kernel_rfl) (fun _ _ _ h => h) (Or.inl ⟨by rfl, fun _ _ => rfl⟩) HS ?_
  simp only [Act.put, List.setIfInBounds_toArray, List.set_cons_zero, List.set_cons_succ]
  refine wpAnyH_take (oi := ⟨_, _, _, _, _, _⟩) (i := 5) (v := .pointer (some ⟨w.heap.size, 1, none⟩)) rfl (by kernel_rfl) (by kernel_rfl) (by kernel_rfl) (fun _ _ _ h => h) (Or.inl ⟨by rfl, fun _ _ => by go_simp⟩) HS ?_
  simp only [Act.put, List.setIfInBounds_toArray, List.set_cons_zero, List.set_cons_succ]
  refine wpAnyH_take (oi := ⟨_, _, _, _, _, _⟩) (i := 6) (v := .int .i64 a.a) rfl (by kernel_rfl) (by kernel_rfl) (by kernel_rfl) (fun _ _ _ h => h) (yif_load rfl 2 (.tmp 130) rfl _ _ rfl fun W (h : ActB w.heap.size a W) => load_one aggI h.c.1) HS ?_
  simp only [Act.put, List.setIfInBounds_toArray, List.set_cons_zero, List.set_cons_succ]
  refine wpAnyH_all (rs := [3]) (by kernel_rfl) (by simp) fun i hi => ?_
  obtain rfl : i = 3 := by simpa using hi
  clear hi
  refine op_call (om := ⟨_, _, _, _, _, _⟩) (fn := 25) (args := #[.pointer (some ⟨p, 0, none⟩), .int .i64 a.a]) (R := fun u w' => u = .int .i64 (cel M a.a) ∧ Pair w' lo mi hi p q G M M ∧ Keeps (fun i => lo ≤ i ∧ i < hi) w1 w') rfl rfl (by go_simp)
      ((h1.code fun gb mb h _ _ _ _ => mget_at h a.a an an').mono fun e w' ⟨he, h1, h2⟩ => ⟨_, he, rfl, h1, h2⟩) _ _ rfl rfl ?_
  rintro u w2 ⟨rfl, h2, k2⟩
  have HS2 : ActB w.heap.size a w2 := HS.keep k2 (by omega)
  refine ⟨HS2, ?_⟩
  simp only [Act.put, List.setIfInBounds_toArray, List.set_cons_zero, List.set_cons_succ]
  refine wpAnyH_all (rs := [7]) (by kernel_rfl) (by simp) fun i hi => ?_
  obtain rfl : i = 7 := by simpa using hi
  clear hi
  refine op_call (om := ⟨_, _, _, _, _, _⟩) (fn := 33) (args := #[.pointer (some ⟨q, 0, none⟩), .int .i64 a.a]) (R := fun u w' => u = .int .i64 (cel M a.a) ∧ w2 = w') rfl rfl (by go_simp)
      ((h2.docr fun b c d e h => rget_at h a.a an an').mono fun e w' ⟨he, h1⟩ => ⟨_, he, rfl, h1⟩) _ _ rfl rfl ?_
  rintro u w' ⟨rfl, rfl⟩
  refine ⟨HS2, ?_⟩
  simp only [Act.put, List.setIfInBounds_toArray, List.set_cons_zero, List.set_cons_succ]
  refine wpAnyH_take (oi := ⟨_, _, _, _, _, _⟩) (i := 8) (v := .bool true) rfl (by kernel_rfl) (by kernel_rfl) (by kernel_rfl) (fun _ _ _ h => h) (Or.inl ⟨by rfl, fun _ _ => by go_simp⟩) HS2 ?_
  simp only [Act.put, List.setIfInBounds_toArray, List.set_cons_zero, List.set_cons_succ]
  refine wpAnyH_take (oi := ⟨_, _, _, _, _, _⟩) (i := 9) (v := .bool true) rfl (by kernel_rfl) (by kernel_rfl) (by kernel_rfl) (fun _ _ _ h => h) (Or.inl ⟨by rfl, fun _ _ => rfl⟩) HS2 ?_
  simp only [Act.put, List.setIfInBounds_toArray, List.set_cons_zero, List.set_cons_succ]
  have H2 := Lib.hid (h2.more h2.size (Nat.le_refl _))
  have K2 := Lib.hid ((k1.mono (G := fun i => lo ≤ i ∧ i < hi) fun _ _ h => h.elim).trans k2)
  clear h1 h2 k1 k2 HS HS2
  refine wpAnyH_done (by kernel_rfl) ?_ _
  go_wp2_with fail
  go_ret
  exact ⟨rfl, H2.out, K2.out⟩
/-- Loads of both. -/
theorem Pair.loadm {B : List UInt8} (h : Pair w lo mi hi p q G M B) (a n : Int) (ha : -9223372036854775808 ≤ a) (ha' : a ≤ 9223372036854775807) (Z : List UInt8) (hZ : loadL M a (clamp n 8192).toNat = Z) :
    Calls Try.prog 21 #[.pointer (some ⟨p, 0, none⟩), .int .i64 a, .int .i64 n] w fun e w' => ∃ g, e = .returned (.slice (some ⟨g, 0, none⟩) Z.length Z.length) ∧ Row8 w' g 5 Z ∧ Pair w' lo mi hi p q G M B ∧ Keeps (fun i => lo ≤ i ∧ i < hi) w w' := by
  subst hZ
  obtain ⟨gb, mb, hm, h1, h2, h0, h3, h4, h5⟩ := h.mem
  obtain ⟨b, c, d, e, hr, r1, r2, r3⟩ := h.ref
  have l := h.low
  have m := h.mid
  have q0 := hr.q0
  have q1 := hr.now.lt'.1
  have q2 := hr.was.lt'.1
  refine (mload_at hm a n ha ha').mono ?_
  rintro e w' ⟨g, rfl, _, hg, hm', k⟩
  exact ⟨g, rfl, hg, ⟨⟨gb, mb, hm', h1, h2, h0, h3, h4, h5⟩, ⟨b, c, d, _, hr.keep3 k (by omega) (by omega) (by omega), r1, r2, r3⟩, l, m, Nat.le_trans h.size k.size⟩, k.mono fun i _ hi => by omega⟩
theorem Pair.loadr {B : List UInt8} (h : Pair w lo mi hi p q G M B) (a n : Int) (ha : -9223372036854775808 ≤ a) (ha' : a ≤ 9223372036854775807) (Z : List UInt8) (hZ : loadL B a (clamp n 8192).toNat = Z) :
    Calls Try.prog 34 #[.pointer (some ⟨q, 0, none⟩), .int .i64 a, .int .i64 n] w fun e w' => ∃ g, e = .returned (.slice (some ⟨g, 0, none⟩) Z.length Z.length) ∧ Row8 w' g 5 Z ∧ Keeps (fun _ => False) w w' := by
  subst hZ
  obtain ⟨b, c, d, e, hr, _⟩ := h.ref
  exact (rload_at hr a n ha ha').mono fun e w' ⟨g, he, h1, h2⟩ => ⟨g, he, h1, h2⟩
set_option maxRecDepth 100000 in
set_option maxHeartbeats 1000000 in
theorem act7 (h : Pair w lo mi hi p q G M M) (a : MAct) (ho : a.Ok w) (d0 : ¬ a.do_ = 0) (d1 : ¬ a.do_ = 1) (d2 : ¬ a.do_ = 2) (d3 : ¬ a.do_ = 3) (d4 : ¬ a.do_ = 4) (d5 : ¬ a.do_ = 5) (d6 : ¬ a.do_ = 6) :
    Calls Try.prog 11 #[.pointer (some ⟨p, 0, none⟩), .pointer (some ⟨q, 0, none⟩), .agg (macells a).toArray] w (ActOut w lo mi hi p q G M) := by
  obtain ⟨x0, h0, k0⟩ := act_start h a
  have hs := h.size
  have hL : lo ≤ w.heap.size := Nat.le_trans h.low (Nat.le_trans h.mid hs)
  have an := ho.a0
  have an' := ho.a1
  have nn := ho.n0
  have nn' := ho.n1
  generalize hZ : loadL M a.a (clamp a.n 8192).toNat = Z
  obtain ⟨ca, cn, cs, cd⟩ := x0.c
  have e0 : (a.do_ == 0) = false := by simpa using d0
  have e1 : (a.do_ == 1) = false := by simpa using d1
  have e2 : (a.do_ == 2) = false := by simpa using d2
  have e3 : (a.do_ == 3) = false := by simpa using d3
  have e4 : (a.do_ == 4) = false := by simpa using d4
  have e5 : (a.do_ == 5) = false := by simpa using d5
  have e6 : (a.do_ == 6) = false := by simpa using d6
  have X0 := Lib.hid x0
  have H0 := Lib.hid h0
  have K0 := Lib.hid k0
  have OB := Lib.hid ho.br
  have OC := Lib.hid ho.cap
  clear x0 h0 k0 h ho d0 d1 d2 d3 d4 d5 d6
  go_enter Try.func11, Try.ntmps11
  go_wp2_with ((with_reducible refine at_ (op := .box 31 (.tmp 2)) ?_); refine wpList_val rfl _ (ex_box 31 (.tmp 2) rfl _ _ rfl (boxA _ _)) ?_)
  refine wp_region_held (S := ActB w.heap.size a) (by kernel_rfl) ?_
  change wpAnyH _ _ _ _ _ _ _ _ (w.alloc (.cells (macells a).toArray 31)).drew
  have kd : Keeps (fun _ => False) (w.alloc (.cells (macells a).toArray 31)) (w.alloc (.cells (macells a).toArray 31)).drew := Keeps.drew _ _
  have HS : ActB w.heap.size a (w.alloc (.cells (macells a).toArray 31)).drew := X0.out.keep kd (fun h => h)
  have h1 := H0.out.keep kd (fun _ _ _ h => h)
  have k1 := K0.out.trans kd
  clear X0 H0 K0 kd ca cn cs cd
  generalize (w.alloc (.cells (macells a).toArray 31)).drew = w1 at *
  refine wpAnyH_take (oi := ⟨_, _, _, _, _, _⟩) (i := 0) (v := .pointer (some ⟨p, 0, none⟩)) rfl (by kernel_rfl) (by kernel_rfl) (by kernel_rfl) (fun _ _ _ h => h) (Or.inl ⟨by rfl, fun _ _ => rfl⟩) HS ?_
  simp only [Act.put, List.setIfInBounds_toArray, List.set_cons_zero, List.set_cons_succ]
  refine wpAnyH_take (oi := ⟨_, _, _, _, _, _⟩) (i := 1) (v := .pointer (some ⟨w.heap.size, 1, none⟩)) rfl (by kernel_rfl) (by kernel_rfl) (by kernel_rfl) (fun _ _ _ h => h) (Or.inl ⟨by rfl, fun _ _ => by go_simp⟩) HS ?_
  simp only [Act.put, List.setIfInBounds_toArray, List.set_cons_zero, List.set_cons_succ]
  refine wpAnyH_take (oi := ⟨_, _, _, _, _, _⟩) (i := 2) (v := .int .i64 a.a) rfl (by kernel_rfl) (by kernel_rfl) (by kernel_rfl) (fun _ _ _ h => h) (yif_load rfl 2 (.tmp 135) rfl _ _ rfl fun W (h : ActB w.heap.size a W) => load_one aggI h.c.1) HS ?_
  simp only [Act.put, List.setIfInBounds_toArray, List.set_cons_zero, List.set_cons_succ]
  refine wpAnyH_take (oi := ⟨_, _, _, _, _, _⟩) (i := 3) (v := .pointer (some ⟨w.heap.size, 2, none⟩)) rfl (by kernel_rfl) (by kernel_rfl) (by kernel_rfl) (fun _ _ _ h => h) (Or.inl ⟨by rfl, fun _ _ => by go_simp⟩) HS ?_
  simp only [Act.put, List.setIfInBounds_toArray, List.set_cons_zero, List.set_cons_succ]
  refine wpAnyH_take (oi := ⟨_, _, _, _, _, _⟩) (i := 4) (v := .int .i64 a.n) rfl (by kernel_rfl) (by kernel_rfl) (by kernel_rfl) (fun _ _ _ h => h) (yif_load rfl 2 (.tmp 137) rfl _ _ rfl fun W (h : ActB w.heap.size a W) => load_one aggI h.c.2.1) HS ?_
  simp only [Act.put, List.setIfInBounds_toArray, List.set_cons_zero, List.set_cons_succ]
  refine wpAnyH_take (oi := ⟨_, _, _, _, _, _⟩) (i := 7) (v := .pointer (some ⟨q, 0, none⟩)) rfl (by kernel_rfl) (by kernel_rfl) (by kernel_rfl) (fun _ _ _ h => h) (Or.inl ⟨by rfl, fun _ _ => rfl⟩) HS ?_
  simp only [Act.put, List.setIfInBounds_toArray, List.set_cons_zero, List.set_cons_succ]
  refine wpAnyH_take (oi := ⟨_, _, _, _, _, _⟩) (i := 8) (v := .pointer (some ⟨w.heap.size, 1, none⟩)) rfl (by kernel_rfl) (by kernel_rfl) (by kernel_rfl) (fun _ _ _ h => h) (Or.inl ⟨by rfl, fun _ _ => by go_simp⟩) HS ?_
  simp only [Act.put, List.setIfInBounds_toArray, List.set_cons_zero, List.set_cons_succ]
  refine wpAnyH_take (oi := ⟨_, _, _, _, _, _⟩) (i := 9) (v := .int .i64 a.a) rfl (by kernel_rfl) (by kernel_rfl) (by kernel_rfl) (fun _ _ _ h => h) (yif_load rfl 2 (.tmp 142) rfl _ _ rfl fun W (h : ActB w.heap.size a W) => load_one aggI h.c.1) HS ?_
  simp only [Act.put, List.setIfInBounds_toArray, List.set_cons_zero, List.set_cons_succ]
  refine wpAnyH_take (oi := ⟨_, _, _, _, _, _⟩) (i := 10) (v := .pointer (some ⟨w.heap.size, 2, none⟩)) rfl (by kernel_rfl) (by kernel_rfl) (by kernel_rfl) (fun _ _ _ h => h) (Or.inl ⟨by rfl, fun _ _ => by go_simp⟩) HS ?_
  simp only [Act.put, List.setIfInBounds_toArray, List.set_cons_zero, List.set_cons_succ]
  refine wpAnyH_take (oi := ⟨_, _, _, _, _, _⟩) (i := 11) (v := .int .i64 a.n) rfl (by kernel_rfl) (by kernel_rfl) (by kernel_rfl) (fun _ _ _ h => h) (yif_load rfl 2 (.tmp 144) rfl _ _ rfl fun W (h : ActB w.heap.size a W) => load_one aggI h.c.2.1) HS ?_
  simp only [Act.put, List.setIfInBounds_toArray, List.set_cons_zero, List.set_cons_succ]
  refine wpAnyH_all (rs := [5]) (by kernel_rfl) (by simp) fun i hi => ?_
  obtain rfl : i = 5 := by simpa using hi
  clear hi
  refine op_call (om := ⟨_, _, _, _, _, _⟩) (fn := 21) (args := #[.pointer (some ⟨p, 0, none⟩), .int .i64 a.a, .int .i64 a.n]) (R := fun u w' => ∃ g, u = .slice (some ⟨g, 0, none⟩) Z.length Z.length ∧ Row8 w' g 5 Z ∧ Pair w' lo mi hi p q G M M ∧ Keeps (fun i => lo ≤ i ∧ i < hi) w1 w') rfl rfl (by go_simp)
      ((h1.loadm a.a a.n an an' Z hZ).mono fun e w' ⟨g, he, h1, h2⟩ => ⟨_, he, g, rfl, h1, h2⟩) _ _ rfl rfl ?_
  rintro u w2 ⟨g1, rfl, r1, h2, k2⟩
  have HS2 : ActB w.heap.size a w2 := HS.keep k2 (by omega)
  refine ⟨HS2, ?_⟩
  simp only [Act.put, List.setIfInBounds_toArray, List.set_cons_zero, List.set_cons_succ]
  refine wpAnyH_all (rs := [6, 12]) (by kernel_rfl) (by simp) fun i hj => ?_
  have hj : i = 6 ∨ i = 12 := by simpa using hj
  rcases hj with rfl | rfl
  · refine op_run (om := ⟨_, _, _, _, _, _⟩) (u := .string ⟨Z.toArray⟩) (w' := w2) rfl rfl (ex_convert 22 9 (.tmp 139) rfl _ _ rfl (conv_row Z.length rfl r1)) _ _ rfl rfl ?_
    rintro u wZ ⟨rfl, hz⟩
    have hz := hz.symm
    subst hz
    refine ⟨HS2, ?_⟩
    simp only [Act.put, List.setIfInBounds_toArray, List.set_cons_zero, List.set_cons_succ]
    refine wpAnyH_all (rs := [12]) (by kernel_rfl) (by simp) fun i hi => ?_
    obtain rfl : i = 12 := by simpa using hi
    clear hi
    refine op_call (om := ⟨_, _, _, _, _, _⟩) (fn := 34) (args := #[.pointer (some ⟨q, 0, none⟩), .int .i64 a.a, .int .i64 a.n]) (R := fun u w' => ∃ g, u = .slice (some ⟨g, 0, none⟩) Z.length Z.length ∧ Row8 w' g 5 Z ∧ Keeps (fun _ => False) w2 w') rfl rfl (by go_simp)
        ((h2.loadr a.a a.n an an' Z hZ).mono fun e w' ⟨g, he, h1, h2⟩ => ⟨_, he, g, rfl, h1, h2⟩) _ _ rfl rfl ?_
    rintro u w3 ⟨g2, rfl, r2, k3⟩
    have HS3 : ActB w.heap.size a w3 := HS2.keep k3 (fun h => h)
    have h3 : Pair w3 lo mi hi p q G M M := h2.keep k3 (fun _ _ _ h => h)
    have k3 := k2.trans (k3.mono (G := fun i => lo ≤ i ∧ i < hi) fun _ _ h => h.elim)
    refine ⟨HS3, ?_⟩
    simp only [Act.put, List.setIfInBounds_toArray, List.set_cons_zero, List.set_cons_succ]
    refine wpAnyH_all (rs := [13]) (by kernel_rfl) (by simp) fun i hi => ?_
    obtain rfl : i = 13 := by simpa using hi
    clear hi
    refine op_run (om := ⟨_, _, _, _, _, _⟩) (u := .string ⟨Z.toArray⟩) (w' := w3) rfl rfl (ex_convert 22 9 (.tmp 146) rfl _ _ rfl (conv_row Z.length rfl r2)) _ _ rfl rfl ?_
    rintro u wZ ⟨rfl, hz⟩
    have hz := hz.symm
    subst hz
    refine ⟨HS3, ?_⟩
    simp only [Act.put, List.setIfInBounds_toArray, List.set_cons_zero, List.set_cons_succ]
    refine wpAnyH_take (oi := ⟨_, _, _, _, _, _⟩) (i := 14) (v := .bool true) rfl (by kernel_rfl) (by kernel_rfl) (by kernel_rfl) (fun _ _ _ h => h) (Or.inl ⟨by rfl, fun _ _ => by go_simp⟩) HS3 ?_
    simp only [Act.put, List.setIfInBounds_toArray, List.set_cons_zero, List.set_cons_succ]
    refine wpAnyH_take (oi := ⟨_, _, _, _, _, _⟩) (i := 15) (v := .bool true) rfl (by kernel_rfl) (by kernel_rfl) (by kernel_rfl) (fun _ _ _ h => h) (Or.inl ⟨by rfl, fun _ _ => rfl⟩) HS3 ?_
    simp only [Act.put, List.setIfInBounds_toArray, List.set_cons_zero, List.set_cons_succ]
    have H3 := Lib.hid (h3.more h3.size (Nat.le_refl _))
    have K3 := Lib.hid ((k1.mono (G := fun i => lo ≤ i ∧ i < hi) fun _ _ h => h.elim).trans k3)
    clear h1 h2 h3 k1 k2 k3 HS HS2 HS3
    refine wpAnyH_done (by kernel_rfl) ?_ _
    go_wp2_with fail
    go_ret
    exact ⟨rfl, H3.out, K3.out⟩
  · refine op_call (om := ⟨_, _, _, _, _, _⟩) (fn := 34) (args := #[.pointer (some ⟨q, 0, none⟩), .int .i64 a.a, .int .i64 a.n]) (R := fun u w' => ∃ g, u = .slice (some ⟨g, 0, none⟩) Z.length Z.length ∧ Row8 w' g 5 Z ∧ Keeps (fun _ => False) w2 w') rfl rfl (by go_simp)
        ((h2.loadr a.a a.n an an' Z hZ).mono fun e w' ⟨g, he, h1, h2⟩ => ⟨_, he, g, rfl, h1, h2⟩) _ _ rfl rfl ?_
    rintro u w3 ⟨g2, rfl, r2, k3⟩
    have HS3 : ActB w.heap.size a w3 := HS2.keep k3 (fun h => h)
    have KK := k3
    have h3 : Pair w3 lo mi hi p q G M M := h2.keep k3 (fun _ _ _ h => h)
    have k3 := k2.trans (k3.mono (G := fun i => lo ≤ i ∧ i < hi) fun _ _ h => h.elim)
    refine ⟨HS3, ?_⟩
    have r1 : Row8 w3 g1 5 Z := Row8.of_block ((KK.block _ r1.lt_ (fun h => h)).trans r1.block)
    simp only [Act.put, List.setIfInBounds_toArray, List.set_cons_zero, List.set_cons_succ]
    refine wpAnyH_all (rs := [6, 13]) (by kernel_rfl) (by simp) fun i hj => ?_
    have hj : i = 6 ∨ i = 13 := by simpa using hj
    rcases hj with rfl | rfl
    · refine op_run (om := ⟨_, _, _, _, _, _⟩) (u := .string ⟨Z.toArray⟩) (w' := w3) rfl rfl (ex_convert 22 9 (.tmp 139) rfl _ _ rfl (conv_row Z.length rfl r1)) _ _ rfl rfl ?_
      rintro u wZ ⟨rfl, hz⟩
      have hz := hz.symm
      subst hz
      refine ⟨HS3, ?_⟩
      simp only [Act.put, List.setIfInBounds_toArray, List.set_cons_zero, List.set_cons_succ]
      refine wpAnyH_all (rs := [13]) (by kernel_rfl) (by simp) fun i hi => ?_
      obtain rfl : i = 13 := by simpa using hi
      clear hi
      refine op_run (om := ⟨_, _, _, _, _, _⟩) (u := .string ⟨Z.toArray⟩) (w' := w3) rfl rfl (ex_convert 22 9 (.tmp 146) rfl _ _ rfl (conv_row Z.length rfl r2)) _ _ rfl rfl ?_
      rintro u wZ ⟨rfl, hz⟩
      have hz := hz.symm
      subst hz
      refine ⟨HS3, ?_⟩
      simp only [Act.put, List.setIfInBounds_toArray, List.set_cons_zero, List.set_cons_succ]
      refine wpAnyH_take (oi := ⟨_, _, _, _, _, _⟩) (i := 14) (v := .bool true) rfl (by kernel_rfl) (by kernel_rfl) (by kernel_rfl) (fun _ _ _ h => h) (Or.inl ⟨by rfl, fun _ _ => by go_simp⟩) HS3 ?_
      simp only [Act.put, List.setIfInBounds_toArray, List.set_cons_zero, List.set_cons_succ]
      refine wpAnyH_take (oi := ⟨_, _, _, _, _, _⟩) (i := 15) (v := .bool true) rfl (by kernel_rfl) (by kernel_rfl) (by kernel_rfl) (fun _ _ _ h => h) (Or.inl ⟨by rfl, fun _ _ => rfl⟩) HS3 ?_
      simp only [Act.put, List.setIfInBounds_toArray, List.set_cons_zero, List.set_cons_succ]
      have H3 := Lib.hid (h3.more h3.size (Nat.le_refl _))
      have K3 := Lib.hid ((k1.mono (G := fun i => lo ≤ i ∧ i < hi) fun _ _ h => h.elim).trans k3)
      clear h1 h2 h3 k1 k2 k3 HS HS2 HS3
      refine wpAnyH_done (by kernel_rfl) ?_ _
      go_wp2_with fail
      go_ret
      exact ⟨rfl, H3.out, K3.out⟩
    · refine op_run (om := ⟨_, _, _, _, _, _⟩) (u := .string ⟨Z.toArray⟩) (w' := w3) rfl rfl (ex_convert 22 9 (.tmp 146) rfl _ _ rfl (conv_row Z.length rfl r2)) _ _ rfl rfl ?_
      rintro u wZ ⟨rfl, hz⟩
      have hz := hz.symm
      subst hz
      refine ⟨HS3, ?_⟩
      simp only [Act.put, List.setIfInBounds_toArray, List.set_cons_zero, List.set_cons_succ]
      refine wpAnyH_all (rs := [6]) (by kernel_rfl) (by simp) fun i hi => ?_
      obtain rfl : i = 6 := by simpa using hi
      clear hi
      refine op_run (om := ⟨_, _, _, _, _, _⟩) (u := .string ⟨Z.toArray⟩) (w' := w3) rfl rfl (ex_convert 22 9 (.tmp 139) rfl _ _ rfl (conv_row Z.length rfl r1)) _ _ rfl rfl ?_
      rintro u wZ ⟨rfl, hz⟩
      have hz := hz.symm
      subst hz
      refine ⟨HS3, ?_⟩
      simp only [Act.put, List.setIfInBounds_toArray, List.set_cons_zero, List.set_cons_succ]
      refine wpAnyH_take (oi := ⟨_, _, _, _, _, _⟩) (i := 14) (v := .bool true) rfl (by kernel_rfl) (by kernel_rfl) (by kernel_rfl) (fun _ _ _ h => h) (Or.inl ⟨by rfl, fun _ _ => by go_simp⟩) HS3 ?_
      simp only [Act.put, List.setIfInBounds_toArray, List.set_cons_zero, List.set_cons_succ]
      refine wpAnyH_take (oi := ⟨_, _, _, _, _, _⟩) (i := 15) (v := .bool true) rfl (by kernel_rfl) (by kernel_rfl) (by kernel_rfl) (fun _ _ _ h => h) (Or.inl ⟨by rfl, fun _ _ => rfl⟩) HS3 ?_
      simp only [Act.put, List.setIfInBounds_toArray, List.set_cons_zero, List.set_cons_succ]
      have H3 := Lib.hid (h3.more h3.size (Nat.le_refl _))
      have K3 := Lib.hid ((k1.mono (G := fun i => lo ≤ i ∧ i < hi) fun _ _ h => h.elim).trans k3)
      clear h1 h2 h3 k1 k2 k3 HS HS2 HS3
      refine wpAnyH_done (by kernel_rfl) ?_ _
      go_wp2_with fail
      go_ret
      exact ⟨rfl, H3.out, K3.out⟩
/-- Any call. -/
theorem act_any (h : Pair w lo mi hi p q G M M) (a : MAct) (ho : a.Ok w) (hb : BR w lo a.A a.xs) (hl : a.xs.length ≤ 140737488351232) :
    Calls Try.prog 11 #[.pointer (some ⟨p, 0, none⟩), .pointer (some ⟨q, 0, none⟩), .agg (macells a).toArray] w (ActOut w lo mi hi p q G (aM M a)) := by
  unfold aM
  by_cases d0 : a.do_ = 0
  · rw [if_pos d0]; exact act0 h a ho d0
  rw [if_neg d0]
  by_cases d1 : a.do_ = 1
  · rw [if_pos d1]; exact act1 h a ho d0 d1
  rw [if_neg d1]
  by_cases d2 : a.do_ = 2
  · rw [if_pos d2]; exact act2 h a ho d0 d1 d2
  rw [if_neg d2]
  by_cases d3 : a.do_ = 3
  · rw [if_pos d3]; exact act3 h a ho hb hl d0 d1 d2 d3
  rw [if_neg d3]
  by_cases d4 : a.do_ = 4
  · exact act4 h a ho d0 d1 d2 d3 d4
  by_cases d5 : a.do_ = 5
  · exact act5 h a ho d0 d1 d2 d3 d4 d5
  by_cases d6 : a.do_ = 6
  · exact act6 h a ho d0 d1 d2 d3 d4 d5 d6
  exact act7 h a ho d0 d1 d2 d3 d4 d5 d6
end Go.Proofs.Ytdbphindnnchfaa.Mm
