/-
  SkAct
-/
import Derived.Test.YtmaoaeebggpbbaaSkPair
import Derived.Test.YtmaoaeebggpbbaaSkIn
namespace Go.Proofs.Ytmaoaeebggpbbaa.Sk
open Go.RowKit Go.Maps Mm Hd
set_option linter.unusedVariables false
set_option linter.unusedSimpArgs false

def KB (w : World) (g : Nat) (a : KAct) : Prop := w.heap[g]? = some (.cells (kcells a).toArray 27 (0, 0))
theorem KB.lt {w : World} {g : Nat} {a : KAct} (h : KB w g a) : g < w.heap.size := (Array.getElem?_eq_some_iff.1 h).1
theorem KB.keep {w w' : World} {g : Nat} {a : KAct} {F : Nat → Prop} (h : KB w g a) (k : Keeps F w w') (hF : ¬ F g) : KB w' g a := (k.block g h.lt hF).trans h
theorem KB.c {w : World} {g : Nat} {a : KAct} (h : KB w g a) : w.cell? ⟨g, 0, none⟩ = some (.int .i64 a.do_) ∧ w.cell? ⟨g, 1, none⟩ = some (.int .i64 a.n) ∧ w.cell? ⟨g, 2, none⟩ = some (.slice a.A a.xs.length a.c) := by
  unfold KB at h
  refine ⟨?_, ?_, ?_⟩ <;> rw [cell_of_row _ _ _ _ _ _ h] <;> rfl
theorem aggI64 (w : World) : (isAgg 2).run Try.prog w = .ok false w := by unfold isAgg; rw [Sem.run_bind, run_underlying Try.underlying2]; rfl
theorem aggSl (w : World) : (isAgg 25).run Try.prog w = .ok false w := by unfold isAgg; rw [Sem.run_bind, run_underlying Try.underlying25]; rfl
variable {L : Nat} {w0 w w' : World} {p gb mb mi q d e : Nat} {Z M M' B B' : List UInt8}
def ActT (L : Nat) (w0 : World) (p gb mb mi q d e : Nat) (Z : List UInt8) (en : Ending) (w' : World) : Prop := en = .returned (.bool true) ∧ ∃ M', Tw L w0 w' p gb mb mi q d e Z M' M'
theorem Tw.sf (h : Tw L w0 w p gb mb mi q d e Z M B) {g : Nat} (hg : w.heap.size ≤ g) : ¬ SF true p mb g := fun f => by have := h.m.lt f; omega
theorem Tw.bq {b c : Nat} (hr : RefH w mi q b c d e B Z) {g : Nat} (hg : w.heap.size ≤ g) : ¬ (g = q ∨ g = b) := fun f => by have := hr.lt; omega
theorem KB.new (w : World) (a : KAct) : KB (w.alloc (.cells #[.int .i64 a.do_, .int .i64 a.n, .slice a.A a.xs.length a.c] 27)) w.heap.size a := heap_alloc_new w _
set_option maxRecDepth 100000 in
set_option maxHeartbeats 1600000 in
theorem act_0 (h : Tw L w0 w p gb mb mi q d e Z M M) (a : KAct) (hq : IQ w L a.A a.xs) (hn : -9223372036854775808 ≤ a.n ∧ a.n ≤ 9223372036854775807) : Calls Try.prog 10 #[.pointer (some ⟨p, 0, none⟩), .pointer (some ⟨q, 0, none⟩), .agg #[.int .i64 0, .int .i64 a.n, .slice a.A a.xs.length a.c]] w (ActT L w0 p gb mb mi q d e Z) := by
  obtain ⟨r, M1, CC, DD⟩ := pair_Push p gb mb mi q d e Z M a.n
  have CH := Lib.hid CC
  have DH := Lib.hid DD
  clear CC DD
  have h1 := h.quiet (Keeps.alloc (fun _ => False) w (.cells #[.int .i64 0, .int .i64 a.n, .slice a.A a.xs.length a.c] 27))
  have kb := KB.new w ⟨0, a.n, a.A, a.xs, a.c⟩
  have nsf := h.sf (Nat.le_refl w.heap.size)
  obtain ⟨b, c, hr⟩ := h.r
  have nbq := Tw.bq hr (Nat.le_refl w.heap.size)
  have hr1 := hr.keep (Keeps.alloc (fun _ => False) w (.cells #[.int .i64 0, .int .i64 a.n, .slice a.A a.xs.length a.c] 27)) fun _ _ _ f => f
  have NSF := Lib.hid nsf
  have NBQ := Lib.hid nbq
  have q1 := hq.keep (Keeps.alloc (fun _ => False) w (.cells #[.int .i64 0, .int .i64 a.n, .slice a.A a.xs.length a.c] 27)) (Nat.le_trans h.l h.b.size) fun _ _ _ f => f
  have QQ := Lib.hid q1
  have TN := Lib.hid h.n
  have RN := Lib.hid (show mi ≤ q ∧ mi ≤ b from ⟨hr.q0, hr.now.lt'.1⟩)
  have LW := Lib.hid (Nat.le_trans h.l h.b.size)
  clear h hr hq nsf nbq q1
  go_enter Try.func10, Try.ntmps10
  go_wp2_with fail
  generalize w.alloc (.cells #[.int .i64 0, .int .i64 a.n, .slice a.A a.xs.length a.c] 27) = w1 at *
  generalize w.heap.size = g at *
  obtain ⟨y0, y1, y2⟩ := kb.c
  dsimp only at y0 y1 y2
  go_wp2_with fail
  clear y0 y1 y2
  refine wp_region_held (S := fun W => KB W g ⟨0, a.n, a.A, a.xs, a.c⟩) (by kernel_rfl) ?_
  change wpAnyH _ _ _ _ _ _ _ _ (w1).drew
  have hS : KB w1.drew g ⟨0, a.n, a.A, a.xs, a.c⟩ := kb
  have h2 := h1.quiet (Keeps.drew (fun _ => False) w1)
  have hr2 := hr1.keep (Keeps.drew (fun _ => False) w1) fun _ _ _ f => f
  have q2 := QQ.out.keep (Keeps.drew (fun _ => False) w1) (by have := LW.out; have := h1.b.size; have := h1.l; omega) fun _ _ _ f => f
  clear kb h1 hr1
  generalize (w1).drew = w2 at *
  refine wpAnyH_take (oi := ⟨_, _, _, _, _, _⟩) (i := 0) (v := .pointer (some ⟨p, 0, none⟩)) rfl (by kernel_rfl) (by kernel_rfl) (by kernel_rfl) (fun _ _ _ h => h) (Or.inl ⟨by rfl, fun _ _ => rfl⟩) hS ?_
  try simp only [Act.put, List.setIfInBounds_toArray, List.set_cons_zero, List.set_cons_succ]
  refine wpAnyH_take (oi := ⟨_, _, _, _, _, _⟩) (i := 1) (v := .pointer (some ⟨g, 1, none⟩)) rfl (by kernel_rfl) (by kernel_rfl) (by kernel_rfl) (fun _ _ _ h => h) (Or.inl ⟨by rfl, fun _ _ => by go_simp⟩) hS ?_
  try simp only [Act.put, List.setIfInBounds_toArray, List.set_cons_zero, List.set_cons_succ]
  refine wpAnyH_take (oi := ⟨_, _, _, _, _, _⟩) (i := 2) (v := .int .i64 a.n) rfl (by kernel_rfl) (by kernel_rfl) (by kernel_rfl) (fun _ _ _ h => h) (yif_load rfl 2 (.tmp 28) rfl _ _ rfl fun w h => load_one aggI64 (KB.c h).2.1) hS ?_
  try simp only [Act.put, List.setIfInBounds_toArray, List.set_cons_zero, List.set_cons_succ]
  refine wpAnyH_take (oi := ⟨_, _, _, _, _, _⟩) (i := 4) (v := .pointer (some ⟨q, 0, none⟩)) rfl (by kernel_rfl) (by kernel_rfl) (by kernel_rfl) (fun _ _ _ h => h) (Or.inl ⟨by rfl, fun _ _ => rfl⟩) hS ?_
  try simp only [Act.put, List.setIfInBounds_toArray, List.set_cons_zero, List.set_cons_succ]
  refine wpAnyH_take (oi := ⟨_, _, _, _, _, _⟩) (i := 5) (v := .pointer (some ⟨g, 1, none⟩)) rfl (by kernel_rfl) (by kernel_rfl) (by kernel_rfl) (fun _ _ _ h => h) (Or.inl ⟨by rfl, fun _ _ => by go_simp⟩) hS ?_
  try simp only [Act.put, List.setIfInBounds_toArray, List.set_cons_zero, List.set_cons_succ]
  refine wpAnyH_take (oi := ⟨_, _, _, _, _, _⟩) (i := 6) (v := .int .i64 a.n) rfl (by kernel_rfl) (by kernel_rfl) (by kernel_rfl) (fun _ _ _ h => h) (yif_load rfl 2 (.tmp 32) rfl _ _ rfl fun w h => load_one aggI64 (KB.c h).2.1) hS ?_
  try simp only [Act.put, List.setIfInBounds_toArray, List.set_cons_zero, List.set_cons_succ]
  refine wpAnyH_all (rs := [3]) (by kernel_rfl) (by simp) fun i hI9 => ?_
  obtain rfl : i = 3 := by simpa using hI9
  refine op_call (om := ⟨_, _, _, _, _, _⟩) (fn := 19) (args := #[.pointer (some ⟨p, 0, none⟩), .int .i64 a.n]) (R := fun u w' => u = .int .i64 r ∧ SM w' (some ⟨p, 0, none⟩) p gb mb true Z M1 ∧ Keeps (SF true p mb) w2 w') rfl rfl (by go_simp)
    ((CH.out w2 h2.m).mono fun e w' h => ⟨_, h.1, rfl, h.2⟩) _ _ rfl rfl ?_
  rintro u w3 ⟨eu, m3, k3⟩
  subst eu
  have h3 := h2.code m3 k3
  have hS := KB.keep hS k3 NSF.out
  have hr3 := hr2.keep k3 fun i h1 h2 f => by have := TN.out; rcases f.2 with rfl | rfl <;> omega
  have q3 := q2.keep k3 (by have := LW.out; have := h2.b.size; have := h2.l; omega) (fun ad e1 e2 f => by obtain ⟨ad', e', hb, _⟩ := q2 e2; rw [e1] at e'; cases e'; have := TN.out; rcases f.2 with f | f <;> omega)
  clear h2 hr2 m3 k3 hI9
  refine ⟨hS, ?_⟩
  try simp only [Act.put, List.setIfInBounds_toArray, List.set_cons_zero, List.set_cons_succ]
  refine wpAnyH_all (rs := [7]) (by kernel_rfl) (by simp) fun i hI9 => ?_
  obtain rfl : i = 7 := by simpa using hI9
  refine op_call (om := ⟨_, _, _, _, _, _⟩) (fn := 31) (args := #[.pointer (some ⟨q, 0, none⟩), .int .i64 a.n]) (R := fun u w' => u = .int .i64 r ∧ Dn w3 mi q b d e Z M1 w') rfl rfl (by go_simp)
    ((DH.out w3 b c hr3).mono fun e w' h => ⟨_, h.1, rfl, h.2⟩) _ _ rfl rfl ?_
  rintro u w4 ⟨eu, d4⟩
  subst eu
  have TT := Lib.hid (h3.doc hr3 d4)
  have hS := KB.keep hS d4.kp NBQ.out
  clear h3 hr3 d4 hI9
  refine ⟨hS, ?_⟩
  try simp only [Act.put, List.setIfInBounds_toArray, List.set_cons_zero, List.set_cons_succ]
  refine wpAnyH_take (oi := ⟨_, _, _, _, _, _⟩) (i := 8) (v := .int .i64 r) rfl (by kernel_rfl) (by kernel_rfl) (by kernel_rfl) (fun _ _ _ h => h) (Or.inl ⟨by rfl, fun _ _ => rfl⟩) hS ?_
  try simp only [Act.put, List.setIfInBounds_toArray, List.set_cons_zero, List.set_cons_succ]
  refine wpAnyH_take (oi := ⟨_, _, _, _, _, _⟩) (i := 9) (v := .int .i64 r) rfl (by kernel_rfl) (by kernel_rfl) (by kernel_rfl) (fun _ _ _ h => h) (Or.inl ⟨by rfl, fun _ _ => rfl⟩) hS ?_
  try simp only [Act.put, List.setIfInBounds_toArray, List.set_cons_zero, List.set_cons_succ]
  refine wpAnyH_done (by kernel_rfl) ?_ _
  try simp only [Act.put, List.setIfInBounds_toArray, List.set_cons_zero, List.set_cons_succ]
  clear hS
  go_wp2_with fail
  go_ret
  exact ⟨rfl, _, TT.out⟩
set_option maxRecDepth 100000 in
set_option maxHeartbeats 1600000 in
theorem act_1 (h : Tw L w0 w p gb mb mi q d e Z M M) (a : KAct) (hq : IQ w L a.A a.xs) (hn : -9223372036854775808 ≤ a.n ∧ a.n ≤ 9223372036854775807) : Calls Try.prog 10 #[.pointer (some ⟨p, 0, none⟩), .pointer (some ⟨q, 0, none⟩), .agg #[.int .i64 1, .int .i64 a.n, .slice a.A a.xs.length a.c]] w (ActT L w0 p gb mb mi q d e Z) := by
  obtain ⟨x, r, M1, CC, DD⟩ := pair_Pop p gb mb mi q d e Z M 
  have CH := Lib.hid CC
  have DH := Lib.hid DD
  clear CC DD
  have h1 := h.quiet (Keeps.alloc (fun _ => False) w (.cells #[.int .i64 1, .int .i64 a.n, .slice a.A a.xs.length a.c] 27))
  have kb := KB.new w ⟨1, a.n, a.A, a.xs, a.c⟩
  have nsf := h.sf (Nat.le_refl w.heap.size)
  obtain ⟨b, c, hr⟩ := h.r
  have nbq := Tw.bq hr (Nat.le_refl w.heap.size)
  have hr1 := hr.keep (Keeps.alloc (fun _ => False) w (.cells #[.int .i64 1, .int .i64 a.n, .slice a.A a.xs.length a.c] 27)) fun _ _ _ f => f
  have NSF := Lib.hid nsf
  have NBQ := Lib.hid nbq
  have q1 := hq.keep (Keeps.alloc (fun _ => False) w (.cells #[.int .i64 1, .int .i64 a.n, .slice a.A a.xs.length a.c] 27)) (Nat.le_trans h.l h.b.size) fun _ _ _ f => f
  have QQ := Lib.hid q1
  have TN := Lib.hid h.n
  have RN := Lib.hid (show mi ≤ q ∧ mi ≤ b from ⟨hr.q0, hr.now.lt'.1⟩)
  have LW := Lib.hid (Nat.le_trans h.l h.b.size)
  clear h hr hq nsf nbq q1
  go_enter Try.func10, Try.ntmps10
  go_wp2_with fail
  generalize w.alloc (.cells #[.int .i64 1, .int .i64 a.n, .slice a.A a.xs.length a.c] 27) = w1 at *
  generalize w.heap.size = g at *
  obtain ⟨y0, y1, y2⟩ := kb.c
  dsimp only at y0 y1 y2
  go_wp2_with fail
  refine (CH.out _ h1.m).mono ?_
  rintro e w2 ⟨rfl, m2, k2⟩
  have h2 := h1.code m2 k2
  have hr2 := hr1.keep k2 fun i h1 h2 f => by have := TN.out; rcases f.2 with rfl | rfl <;> omega
  have kb2 := KB.keep kb k2 NSF.out
  clear h1 hr1 kb m2 k2 y0 y1 y2
  obtain ⟨y0, y1, y2⟩ := kb2.c
  dsimp only at y0 y1 y2
  go_wp2_with fail
  refine (DH.out _ b c hr2).mono ?_
  rintro e w3 ⟨rfl, d3⟩
  have TT := Lib.hid (h2.doc hr2 d3)
  clear h2 hr2 kb2 d3 y0 y1 y2
  go_wp2_with fail
  go_ret
  exact ⟨rfl, _, TT.out⟩
set_option maxRecDepth 100000 in
set_option maxHeartbeats 1600000 in
theorem act_2 (h : Tw L w0 w p gb mb mi q d e Z M M) (a : KAct) (hq : IQ w L a.A a.xs) (hn : -9223372036854775808 ≤ a.n ∧ a.n ≤ 9223372036854775807) : Calls Try.prog 10 #[.pointer (some ⟨p, 0, none⟩), .pointer (some ⟨q, 0, none⟩), .agg #[.int .i64 2, .int .i64 a.n, .slice a.A a.xs.length a.c]] w (ActT L w0 p gb mb mi q d e Z) := by
  obtain ⟨r, M1, CC, DD⟩ := pair_RPush p gb mb mi q d e Z M a.n
  have CH := Lib.hid CC
  have DH := Lib.hid DD
  clear CC DD
  have h1 := h.quiet (Keeps.alloc (fun _ => False) w (.cells #[.int .i64 2, .int .i64 a.n, .slice a.A a.xs.length a.c] 27))
  have kb := KB.new w ⟨2, a.n, a.A, a.xs, a.c⟩
  have nsf := h.sf (Nat.le_refl w.heap.size)
  obtain ⟨b, c, hr⟩ := h.r
  have nbq := Tw.bq hr (Nat.le_refl w.heap.size)
  have hr1 := hr.keep (Keeps.alloc (fun _ => False) w (.cells #[.int .i64 2, .int .i64 a.n, .slice a.A a.xs.length a.c] 27)) fun _ _ _ f => f
  have NSF := Lib.hid nsf
  have NBQ := Lib.hid nbq
  have q1 := hq.keep (Keeps.alloc (fun _ => False) w (.cells #[.int .i64 2, .int .i64 a.n, .slice a.A a.xs.length a.c] 27)) (Nat.le_trans h.l h.b.size) fun _ _ _ f => f
  have QQ := Lib.hid q1
  have TN := Lib.hid h.n
  have RN := Lib.hid (show mi ≤ q ∧ mi ≤ b from ⟨hr.q0, hr.now.lt'.1⟩)
  have LW := Lib.hid (Nat.le_trans h.l h.b.size)
  clear h hr hq nsf nbq q1
  go_enter Try.func10, Try.ntmps10
  go_wp2_with fail
  generalize w.alloc (.cells #[.int .i64 2, .int .i64 a.n, .slice a.A a.xs.length a.c] 27) = w1 at *
  generalize w.heap.size = g at *
  obtain ⟨y0, y1, y2⟩ := kb.c
  dsimp only at y0 y1 y2
  go_wp2_with fail
  clear y0 y1 y2
  refine wp_region_held (S := fun W => KB W g ⟨2, a.n, a.A, a.xs, a.c⟩) (by kernel_rfl) ?_
  change wpAnyH _ _ _ _ _ _ _ _ (w1).drew
  have hS : KB w1.drew g ⟨2, a.n, a.A, a.xs, a.c⟩ := kb
  have h2 := h1.quiet (Keeps.drew (fun _ => False) w1)
  have hr2 := hr1.keep (Keeps.drew (fun _ => False) w1) fun _ _ _ f => f
  have q2 := QQ.out.keep (Keeps.drew (fun _ => False) w1) (by have := LW.out; have := h1.b.size; have := h1.l; omega) fun _ _ _ f => f
  clear kb h1 hr1
  generalize (w1).drew = w2 at *
  refine wpAnyH_take (oi := ⟨_, _, _, _, _, _⟩) (i := 0) (v := .pointer (some ⟨p, 0, none⟩)) rfl (by kernel_rfl) (by kernel_rfl) (by kernel_rfl) (fun _ _ _ h => h) (Or.inl ⟨by rfl, fun _ _ => rfl⟩) hS ?_
  try simp only [Act.put, List.setIfInBounds_toArray, List.set_cons_zero, List.set_cons_succ]
  refine wpAnyH_take (oi := ⟨_, _, _, _, _, _⟩) (i := 1) (v := .pointer (some ⟨g, 1, none⟩)) rfl (by kernel_rfl) (by kernel_rfl) (by kernel_rfl) (fun _ _ _ h => h) (Or.inl ⟨by rfl, fun _ _ => by go_simp⟩) hS ?_
  try simp only [Act.put, List.setIfInBounds_toArray, List.set_cons_zero, List.set_cons_succ]
  refine wpAnyH_take (oi := ⟨_, _, _, _, _, _⟩) (i := 2) (v := .int .i64 a.n) rfl (by kernel_rfl) (by kernel_rfl) (by kernel_rfl) (fun _ _ _ h => h) (yif_load rfl 2 (.tmp 50) rfl _ _ rfl fun w h => load_one aggI64 (KB.c h).2.1) hS ?_
  try simp only [Act.put, List.setIfInBounds_toArray, List.set_cons_zero, List.set_cons_succ]
  refine wpAnyH_take (oi := ⟨_, _, _, _, _, _⟩) (i := 4) (v := .pointer (some ⟨q, 0, none⟩)) rfl (by kernel_rfl) (by kernel_rfl) (by kernel_rfl) (fun _ _ _ h => h) (Or.inl ⟨by rfl, fun _ _ => rfl⟩) hS ?_
  try simp only [Act.put, List.setIfInBounds_toArray, List.set_cons_zero, List.set_cons_succ]
  refine wpAnyH_take (oi := ⟨_, _, _, _, _, _⟩) (i := 5) (v := .pointer (some ⟨g, 1, none⟩)) rfl (by kernel_rfl) (by kernel_rfl) (by kernel_rfl) (fun _ _ _ h => h) (Or.inl ⟨by rfl, fun _ _ => by go_simp⟩) hS ?_
  try simp only [Act.put, List.setIfInBounds_toArray, List.set_cons_zero, List.set_cons_succ]
  refine wpAnyH_take (oi := ⟨_, _, _, _, _, _⟩) (i := 6) (v := .int .i64 a.n) rfl (by kernel_rfl) (by kernel_rfl) (by kernel_rfl) (fun _ _ _ h => h) (yif_load rfl 2 (.tmp 54) rfl _ _ rfl fun w h => load_one aggI64 (KB.c h).2.1) hS ?_
  try simp only [Act.put, List.setIfInBounds_toArray, List.set_cons_zero, List.set_cons_succ]
  refine wpAnyH_all (rs := [3]) (by kernel_rfl) (by simp) fun i hI9 => ?_
  obtain rfl : i = 3 := by simpa using hI9
  refine op_call (om := ⟨_, _, _, _, _, _⟩) (fn := 20) (args := #[.pointer (some ⟨p, 0, none⟩), .int .i64 a.n]) (R := fun u w' => u = .int .i64 r ∧ SM w' (some ⟨p, 0, none⟩) p gb mb true Z M1 ∧ Keeps (SF true p mb) w2 w') rfl rfl (by go_simp)
    ((CH.out w2 h2.m).mono fun e w' h => ⟨_, h.1, rfl, h.2⟩) _ _ rfl rfl ?_
  rintro u w3 ⟨eu, m3, k3⟩
  subst eu
  have h3 := h2.code m3 k3
  have hS := KB.keep hS k3 NSF.out
  have hr3 := hr2.keep k3 fun i h1 h2 f => by have := TN.out; rcases f.2 with rfl | rfl <;> omega
  have q3 := q2.keep k3 (by have := LW.out; have := h2.b.size; have := h2.l; omega) (fun ad e1 e2 f => by obtain ⟨ad', e', hb, _⟩ := q2 e2; rw [e1] at e'; cases e'; have := TN.out; rcases f.2 with f | f <;> omega)
  clear h2 hr2 m3 k3 hI9
  refine ⟨hS, ?_⟩
  try simp only [Act.put, List.setIfInBounds_toArray, List.set_cons_zero, List.set_cons_succ]
  refine wpAnyH_all (rs := [7]) (by kernel_rfl) (by simp) fun i hI9 => ?_
  obtain rfl : i = 7 := by simpa using hI9
  refine op_call (om := ⟨_, _, _, _, _, _⟩) (fn := 33) (args := #[.pointer (some ⟨q, 0, none⟩), .int .i64 a.n]) (R := fun u w' => u = .int .i64 r ∧ Dn w3 mi q b d e Z M1 w') rfl rfl (by go_simp)
    ((DH.out w3 b c hr3).mono fun e w' h => ⟨_, h.1, rfl, h.2⟩) _ _ rfl rfl ?_
  rintro u w4 ⟨eu, d4⟩
  subst eu
  have TT := Lib.hid (h3.doc hr3 d4)
  have hS := KB.keep hS d4.kp NBQ.out
  clear h3 hr3 d4 hI9
  refine ⟨hS, ?_⟩
  try simp only [Act.put, List.setIfInBounds_toArray, List.set_cons_zero, List.set_cons_succ]
  refine wpAnyH_take (oi := ⟨_, _, _, _, _, _⟩) (i := 8) (v := .int .i64 r) rfl (by kernel_rfl) (by kernel_rfl) (by kernel_rfl) (fun _ _ _ h => h) (Or.inl ⟨by rfl, fun _ _ => rfl⟩) hS ?_
  try simp only [Act.put, List.setIfInBounds_toArray, List.set_cons_zero, List.set_cons_succ]
  refine wpAnyH_take (oi := ⟨_, _, _, _, _, _⟩) (i := 9) (v := .int .i64 r) rfl (by kernel_rfl) (by kernel_rfl) (by kernel_rfl) (fun _ _ _ h => h) (Or.inl ⟨by rfl, fun _ _ => rfl⟩) hS ?_
  try simp only [Act.put, List.setIfInBounds_toArray, List.set_cons_zero, List.set_cons_succ]
  refine wpAnyH_done (by kernel_rfl) ?_ _
  try simp only [Act.put, List.setIfInBounds_toArray, List.set_cons_zero, List.set_cons_succ]
  clear hS
  go_wp2_with fail
  go_ret
  exact ⟨rfl, _, TT.out⟩
set_option maxRecDepth 100000 in
set_option maxHeartbeats 1600000 in
theorem act_3 (h : Tw L w0 w p gb mb mi q d e Z M M) (a : KAct) (hq : IQ w L a.A a.xs) (hn : -9223372036854775808 ≤ a.n ∧ a.n ≤ 9223372036854775807) : Calls Try.prog 10 #[.pointer (some ⟨p, 0, none⟩), .pointer (some ⟨q, 0, none⟩), .agg #[.int .i64 3, .int .i64 a.n, .slice a.A a.xs.length a.c]] w (ActT L w0 p gb mb mi q d e Z) := by
  obtain ⟨x, r, M1, CC, DD⟩ := pair_RPop p gb mb mi q d e Z M 
  have CH := Lib.hid CC
  have DH := Lib.hid DD
  clear CC DD
  have h1 := h.quiet (Keeps.alloc (fun _ => False) w (.cells #[.int .i64 3, .int .i64 a.n, .slice a.A a.xs.length a.c] 27))
  have kb := KB.new w ⟨3, a.n, a.A, a.xs, a.c⟩
  have nsf := h.sf (Nat.le_refl w.heap.size)
  obtain ⟨b, c, hr⟩ := h.r
  have nbq := Tw.bq hr (Nat.le_refl w.heap.size)
  have hr1 := hr.keep (Keeps.alloc (fun _ => False) w (.cells #[.int .i64 3, .int .i64 a.n, .slice a.A a.xs.length a.c] 27)) fun _ _ _ f => f
  have NSF := Lib.hid nsf
  have NBQ := Lib.hid nbq
  have q1 := hq.keep (Keeps.alloc (fun _ => False) w (.cells #[.int .i64 3, .int .i64 a.n, .slice a.A a.xs.length a.c] 27)) (Nat.le_trans h.l h.b.size) fun _ _ _ f => f
  have QQ := Lib.hid q1
  have TN := Lib.hid h.n
  have RN := Lib.hid (show mi ≤ q ∧ mi ≤ b from ⟨hr.q0, hr.now.lt'.1⟩)
  have LW := Lib.hid (Nat.le_trans h.l h.b.size)
  clear h hr hq nsf nbq q1
  go_enter Try.func10, Try.ntmps10
  go_wp2_with fail
  generalize w.alloc (.cells #[.int .i64 3, .int .i64 a.n, .slice a.A a.xs.length a.c] 27) = w1 at *
  generalize w.heap.size = g at *
  obtain ⟨y0, y1, y2⟩ := kb.c
  dsimp only at y0 y1 y2
  go_wp2_with fail
  refine (CH.out _ h1.m).mono ?_
  rintro e w2 ⟨rfl, m2, k2⟩
  have h2 := h1.code m2 k2
  have hr2 := hr1.keep k2 fun i h1 h2 f => by have := TN.out; rcases f.2 with rfl | rfl <;> omega
  have kb2 := KB.keep kb k2 NSF.out
  clear h1 hr1 kb m2 k2 y0 y1 y2
  obtain ⟨y0, y1, y2⟩ := kb2.c
  dsimp only at y0 y1 y2
  go_wp2_with fail
  refine (DH.out _ b c hr2).mono ?_
  rintro e w3 ⟨rfl, d3⟩
  have TT := Lib.hid (h2.doc hr2 d3)
  clear h2 hr2 kb2 d3 y0 y1 y2
  go_wp2_with fail
  go_ret
  exact ⟨rfl, _, TT.out⟩
set_option maxRecDepth 100000 in
set_option maxHeartbeats 1600000 in
theorem act_4 (h : Tw L w0 w p gb mb mi q d e Z M M) (a : KAct) (hq : IQ w L a.A a.xs) (hn : -9223372036854775808 ≤ a.n ∧ a.n ≤ 9223372036854775807) : Calls Try.prog 10 #[.pointer (some ⟨p, 0, none⟩), .pointer (some ⟨q, 0, none⟩), .agg #[.int .i64 4, .int .i64 a.n, .slice a.A a.xs.length a.c]] w (ActT L w0 p gb mb mi q d e Z) := by
  obtain ⟨z, z1, z2, PP⟩ := place_any a.n
  have PH := Lib.hid PP
  clear PP
  obtain ⟨x, r, CC, DD⟩ := pair_At p gb mb mi q d e Z M z
  have CH := Lib.hid CC
  have DH := Lib.hid DD
  clear CC DD
  have h1 := h.quiet (Keeps.alloc (fun _ => False) w (.cells #[.int .i64 4, .int .i64 a.n, .slice a.A a.xs.length a.c] 27))
  have kb := KB.new w ⟨4, a.n, a.A, a.xs, a.c⟩
  have nsf := h.sf (Nat.le_refl w.heap.size)
  obtain ⟨b, c, hr⟩ := h.r
  have nbq := Tw.bq hr (Nat.le_refl w.heap.size)
  have hr1 := hr.keep (Keeps.alloc (fun _ => False) w (.cells #[.int .i64 4, .int .i64 a.n, .slice a.A a.xs.length a.c] 27)) fun _ _ _ f => f
  have NSF := Lib.hid nsf
  have NBQ := Lib.hid nbq
  have q1 := hq.keep (Keeps.alloc (fun _ => False) w (.cells #[.int .i64 4, .int .i64 a.n, .slice a.A a.xs.length a.c] 27)) (Nat.le_trans h.l h.b.size) fun _ _ _ f => f
  have QQ := Lib.hid q1
  have TN := Lib.hid h.n
  have RN := Lib.hid (show mi ≤ q ∧ mi ≤ b from ⟨hr.q0, hr.now.lt'.1⟩)
  have LW := Lib.hid (Nat.le_trans h.l h.b.size)
  clear h hr hq nsf nbq q1
  go_enter Try.func10, Try.ntmps10
  go_wp2_with fail
  generalize w.alloc (.cells #[.int .i64 4, .int .i64 a.n, .slice a.A a.xs.length a.c] 27) = w1 at *
  generalize w.heap.size = g at *
  obtain ⟨y0, y1, y2⟩ := kb.c
  dsimp only at y0 y1 y2
  go_wp2_with fail
  refine (PH.out _).mono ?_
  rintro e w9 ⟨rfl, rfl⟩
  go_wp2_with fail
  refine (CH.out _ h1.m).mono ?_
  rintro e w2 ⟨rfl, m2, k2⟩
  have h2 := h1.code m2 k2
  have hr2 := hr1.keep k2 fun i h1 h2 f => by have := TN.out; rcases f.2 with rfl | rfl <;> omega
  have kb2 := KB.keep kb k2 NSF.out
  clear h1 hr1 kb m2 k2 y0 y1 y2
  obtain ⟨y0, y1, y2⟩ := kb2.c
  dsimp only at y0 y1 y2
  go_wp2_with fail
  refine (PH.out _).mono ?_
  rintro e w9 ⟨rfl, rfl⟩
  go_wp2_with fail
  refine (DH.out _ b c hr2).mono ?_
  rintro e w3 ⟨rfl, d3⟩
  have TT := Lib.hid (h2.doc hr2 d3)
  clear h2 hr2 kb2 d3 y0 y1 y2
  go_wp2_with fail
  go_ret
  exact ⟨rfl, _, TT.out⟩
set_option maxRecDepth 100000 in
set_option maxHeartbeats 1600000 in
theorem act_5 (h : Tw L w0 w p gb mb mi q d e Z M M) (a : KAct) (hq : IQ w L a.A a.xs) (hn : -9223372036854775808 ≤ a.n ∧ a.n ≤ 9223372036854775807) : Calls Try.prog 10 #[.pointer (some ⟨p, 0, none⟩), .pointer (some ⟨q, 0, none⟩), .agg #[.int .i64 5, .int .i64 a.n, .slice a.A a.xs.length a.c]] w (ActT L w0 p gb mb mi q d e Z) := by
  obtain ⟨z, z1, z2, PP⟩ := place_any a.n
  have PH := Lib.hid PP
  clear PP
  obtain ⟨x, r, CC, DD⟩ := pair_RAt p gb mb mi q d e Z M z
  have CH := Lib.hid CC
  have DH := Lib.hid DD
  clear CC DD
  have h1 := h.quiet (Keeps.alloc (fun _ => False) w (.cells #[.int .i64 5, .int .i64 a.n, .slice a.A a.xs.length a.c] 27))
  have kb := KB.new w ⟨5, a.n, a.A, a.xs, a.c⟩
  have nsf := h.sf (Nat.le_refl w.heap.size)
  obtain ⟨b, c, hr⟩ := h.r
  have nbq := Tw.bq hr (Nat.le_refl w.heap.size)
  have hr1 := hr.keep (Keeps.alloc (fun _ => False) w (.cells #[.int .i64 5, .int .i64 a.n, .slice a.A a.xs.length a.c] 27)) fun _ _ _ f => f
  have NSF := Lib.hid nsf
  have NBQ := Lib.hid nbq
  have q1 := hq.keep (Keeps.alloc (fun _ => False) w (.cells #[.int .i64 5, .int .i64 a.n, .slice a.A a.xs.length a.c] 27)) (Nat.le_trans h.l h.b.size) fun _ _ _ f => f
  have QQ := Lib.hid q1
  have TN := Lib.hid h.n
  have RN := Lib.hid (show mi ≤ q ∧ mi ≤ b from ⟨hr.q0, hr.now.lt'.1⟩)
  have LW := Lib.hid (Nat.le_trans h.l h.b.size)
  clear h hr hq nsf nbq q1
  go_enter Try.func10, Try.ntmps10
  go_wp2_with fail
  generalize w.alloc (.cells #[.int .i64 5, .int .i64 a.n, .slice a.A a.xs.length a.c] 27) = w1 at *
  generalize w.heap.size = g at *
  obtain ⟨y0, y1, y2⟩ := kb.c
  dsimp only at y0 y1 y2
  go_wp2_with fail
  refine (PH.out _).mono ?_
  rintro e w9 ⟨rfl, rfl⟩
  go_wp2_with fail
  refine (CH.out _ h1.m).mono ?_
  rintro e w2 ⟨rfl, m2, k2⟩
  have h2 := h1.code m2 k2
  have hr2 := hr1.keep k2 fun i h1 h2 f => by have := TN.out; rcases f.2 with rfl | rfl <;> omega
  have kb2 := KB.keep kb k2 NSF.out
  clear h1 hr1 kb m2 k2 y0 y1 y2
  obtain ⟨y0, y1, y2⟩ := kb2.c
  dsimp only at y0 y1 y2
  go_wp2_with fail
  refine (PH.out _).mono ?_
  rintro e w9 ⟨rfl, rfl⟩
  go_wp2_with fail
  refine (DH.out _ b c hr2).mono ?_
  rintro e w3 ⟨rfl, d3⟩
  have TT := Lib.hid (h2.doc hr2 d3)
  clear h2 hr2 kb2 d3 y0 y1 y2
  go_wp2_with fail
  go_ret
  exact ⟨rfl, _, TT.out⟩
set_option maxRecDepth 100000 in
set_option maxHeartbeats 1600000 in
theorem act_6 (h : Tw L w0 w p gb mb mi q d e Z M M) (a : KAct) (hq : IQ w L a.A a.xs) (hn : -9223372036854775808 ≤ a.n ∧ a.n ≤ 9223372036854775807) : Calls Try.prog 10 #[.pointer (some ⟨p, 0, none⟩), .pointer (some ⟨q, 0, none⟩), .agg #[.int .i64 6, .int .i64 a.n, .slice a.A a.xs.length a.c]] w (ActT L w0 p gb mb mi q d e Z) := by
  obtain ⟨z, z1, z2, PP⟩ := place_any a.n
  have PH := Lib.hid PP
  clear PP
  obtain ⟨zs, r, M1, zl, CC, DD⟩ := pair_Takes p gb mb mi q d e Z M z
  have CH := Lib.hid CC
  have DH := Lib.hid DD
  clear CC DD
  have h1 := h.quiet (Keeps.alloc (fun _ => False) w (.cells #[.int .i64 6, .int .i64 a.n, .slice a.A a.xs.length a.c] 27))
  have kb := KB.new w ⟨6, a.n, a.A, a.xs, a.c⟩
  have nsf := h.sf (Nat.le_refl w.heap.size)
  obtain ⟨b, c, hr⟩ := h.r
  have nbq := Tw.bq hr (Nat.le_refl w.heap.size)
  have hr1 := hr.keep (Keeps.alloc (fun _ => False) w (.cells #[.int .i64 6, .int .i64 a.n, .slice a.A a.xs.length a.c] 27)) fun _ _ _ f => f
  have NSF := Lib.hid nsf
  have NBQ := Lib.hid nbq
  have q1 := hq.keep (Keeps.alloc (fun _ => False) w (.cells #[.int .i64 6, .int .i64 a.n, .slice a.A a.xs.length a.c] 27)) (Nat.le_trans h.l h.b.size) fun _ _ _ f => f
  have QQ := Lib.hid q1
  have TN := Lib.hid h.n
  have RN := Lib.hid (show mi ≤ q ∧ mi ≤ b from ⟨hr.q0, hr.now.lt'.1⟩)
  have LW := Lib.hid (Nat.le_trans h.l h.b.size)
  clear h hr hq nsf nbq q1
  go_enter Try.func10, Try.ntmps10
  go_wp2_with fail
  generalize w.alloc (.cells #[.int .i64 6, .int .i64 a.n, .slice a.A a.xs.length a.c] 27) = w1 at *
  generalize w.heap.size = g at *
  obtain ⟨y0, y1, y2⟩ := kb.c
  dsimp only at y0 y1 y2
  go_wp2_with fail
  refine (PH.out _).mono ?_
  rintro e w9 ⟨rfl, rfl⟩
  go_wp2_with fail
  refine (CH.out _ h1.m).mono ?_
  rintro e w2 ⟨R, cR, rfl, iq, hnew, m2, k2⟩
  have h2 := h1.code m2 k2
  have hr2 := hr1.keep k2 fun i h1 h2 f => by have := TN.out; rcases f.2 with rfl | rfl <;> omega
  have kb2 := KB.keep kb k2 NSF.out
  have rlt := hr1.lt
  clear h1 hr1 kb m2 k2 y0 y1 y2
  obtain ⟨y0, y1, y2⟩ := kb2.c
  dsimp only at y0 y1 y2
  have IQ2 := Lib.hid iq
  have NEW := Lib.hid hnew
  clear iq hnew
  go_wp2_with fail
  refine (PH.out _).mono ?_
  rintro e w9 ⟨rfl, rfl⟩
  go_wp2_with fail
  refine (DH.out _ b c hr2).mono ?_
  rintro e w3 ⟨R', cR', rfl, iq', hnew', d3⟩
  have iq3 := (IQ2.out.keep d3.kp (Nat.le_refl _) (fun ad e1 e2 f => by have := NEW.out ad e1; omega)).more d3.kp.size
  have h3 := h2.doc hr2 d3
  have AL := Lib.hid (alike_any R R' zs zs cR cR' iq3 iq' (by omega) rfl)
  have H3 := Lib.hid h3
  clear h2 hr2 kb2 d3 y0 y1 y2 iq3 iq' hnew' h3 IQ2 NEW
  go_wp2_with fail
  refine AL.out.mono ?_
  rintro e w4 ⟨rfl, k4⟩
  have TT := Lib.hid (H3.out.quiet k4)
  clear k4 AL H3
  go_wp2_with fail
  go_ret
  exact ⟨rfl, _, TT.out⟩
set_option maxRecDepth 100000 in
set_option maxHeartbeats 1600000 in
theorem act_7 (h : Tw L w0 w p gb mb mi q d e Z M M) (a : KAct) (hq : IQ w L a.A a.xs) (hn : -9223372036854775808 ≤ a.n ∧ a.n ≤ 9223372036854775807) : Calls Try.prog 10 #[.pointer (some ⟨p, 0, none⟩), .pointer (some ⟨q, 0, none⟩), .agg #[.int .i64 7, .int .i64 a.n, .slice a.A a.xs.length a.c]] w (ActT L w0 p gb mb mi q d e Z) := by
  obtain ⟨r, M1, CC, DD⟩ := pair_Lays p gb mb mi q d e Z M a.A a.xs a.c
  have CH := Lib.hid CC
  have DH := Lib.hid DD
  clear CC DD
  have h1 := h.quiet (Keeps.alloc (fun _ => False) w (.cells #[.int .i64 7, .int .i64 a.n, .slice a.A a.xs.length a.c] 27))
  have kb := KB.new w ⟨7, a.n, a.A, a.xs, a.c⟩
  have nsf := h.sf (Nat.le_refl w.heap.size)
  obtain ⟨b, c, hr⟩ := h.r
  have nbq := Tw.bq hr (Nat.le_refl w.heap.size)
  have hr1 := hr.keep (Keeps.alloc (fun _ => False) w (.cells #[.int .i64 7, .int .i64 a.n, .slice a.A a.xs.length a.c] 27)) fun _ _ _ f => f
  have NSF := Lib.hid nsf
  have NBQ := Lib.hid nbq
  have q1 := hq.keep (Keeps.alloc (fun _ => False) w (.cells #[.int .i64 7, .int .i64 a.n, .slice a.A a.xs.length a.c] 27)) (Nat.le_trans h.l h.b.size) fun _ _ _ f => f
  have QQ := Lib.hid q1
  have TN := Lib.hid h.n
  have RN := Lib.hid (show mi ≤ q ∧ mi ≤ b from ⟨hr.q0, hr.now.lt'.1⟩)
  have LW := Lib.hid (Nat.le_trans h.l h.b.size)
  clear h hr hq nsf nbq q1
  go_enter Try.func10, Try.ntmps10
  go_wp2_with fail
  generalize w.alloc (.cells #[.int .i64 7, .int .i64 a.n, .slice a.A a.xs.length a.c] 27) = w1 at *
  generalize w.heap.size = g at *
  obtain ⟨y0, y1, y2⟩ := kb.c
  dsimp only at y0 y1 y2
  go_wp2_with fail
  clear y0 y1 y2
  refine wp_region_held (S := fun W => KB W g ⟨7, a.n, a.A, a.xs, a.c⟩) (by kernel_rfl) ?_
  change wpAnyH _ _ _ _ _ _ _ _ (w1).drew
  have hS : KB w1.drew g ⟨7, a.n, a.A, a.xs, a.c⟩ := kb
  have h2 := h1.quiet (Keeps.drew (fun _ => False) w1)
  have hr2 := hr1.keep (Keeps.drew (fun _ => False) w1) fun _ _ _ f => f
  have q2 := QQ.out.keep (Keeps.drew (fun _ => False) w1) (by have := LW.out; have := h1.b.size; have := h1.l; omega) fun _ _ _ f => f
  clear kb h1 hr1
  generalize (w1).drew = w2 at *
  refine wpAnyH_take (oi := ⟨_, _, _, _, _, _⟩) (i := 0) (v := .pointer (some ⟨p, 0, none⟩)) rfl (by kernel_rfl) (by kernel_rfl) (by kernel_rfl) (fun _ _ _ h => h) (Or.inl ⟨by rfl, fun _ _ => rfl⟩) hS ?_
  try simp only [Act.put, List.setIfInBounds_toArray, List.set_cons_zero, List.set_cons_succ]
  refine wpAnyH_take (oi := ⟨_, _, _, _, _, _⟩) (i := 1) (v := .pointer (some ⟨g, 2, none⟩)) rfl (by kernel_rfl) (by kernel_rfl) (by kernel_rfl) (fun _ _ _ h => h) (Or.inl ⟨by rfl, fun _ _ => by go_simp⟩) hS ?_
  try simp only [Act.put, List.setIfInBounds_toArray, List.set_cons_zero, List.set_cons_succ]
  refine wpAnyH_take (oi := ⟨_, _, _, _, _, _⟩) (i := 2) (v := .slice a.A a.xs.length a.c) rfl (by kernel_rfl) (by kernel_rfl) (by kernel_rfl) (fun _ _ _ h => h) (yif_load rfl 25 (.tmp 134) rfl _ _ rfl fun w h => load_one aggSl (KB.c h).2.2) hS ?_
  try simp only [Act.put, List.setIfInBounds_toArray, List.set_cons_zero, List.set_cons_succ]
  refine wpAnyH_take (oi := ⟨_, _, _, _, _, _⟩) (i := 4) (v := .pointer (some ⟨q, 0, none⟩)) rfl (by kernel_rfl) (by kernel_rfl) (by kernel_rfl) (fun _ _ _ h => h) (Or.inl ⟨by rfl, fun _ _ => rfl⟩) hS ?_
  try simp only [Act.put, List.setIfInBounds_toArray, List.set_cons_zero, List.set_cons_succ]
  refine wpAnyH_take (oi := ⟨_, _, _, _, _, _⟩) (i := 5) (v := .pointer (some ⟨g, 2, none⟩)) rfl (by kernel_rfl) (by kernel_rfl) (by kernel_rfl) (fun _ _ _ h => h) (Or.inl ⟨by rfl, fun _ _ => by go_simp⟩) hS ?_
  try simp only [Act.put, List.setIfInBounds_toArray, List.set_cons_zero, List.set_cons_succ]
  refine wpAnyH_take (oi := ⟨_, _, _, _, _, _⟩) (i := 6) (v := .slice a.A a.xs.length a.c) rfl (by kernel_rfl) (by kernel_rfl) (by kernel_rfl) (fun _ _ _ h => h) (yif_load rfl 25 (.tmp 138) rfl _ _ rfl fun w h => load_one aggSl (KB.c h).2.2) hS ?_
  try simp only [Act.put, List.setIfInBounds_toArray, List.set_cons_zero, List.set_cons_succ]
  refine wpAnyH_all (rs := [3]) (by kernel_rfl) (by simp) fun i hI9 => ?_
  obtain rfl : i = 3 := by simpa using hI9
  refine op_call (om := ⟨_, _, _, _, _, _⟩) (fn := 40) (args := #[.pointer (some ⟨p, 0, none⟩), .slice a.A a.xs.length a.c]) (R := fun u w' => u = .int .i64 r ∧ SM w' (some ⟨p, 0, none⟩) p gb mb true Z M1 ∧ Keeps (SF true p mb) w2 w') rfl rfl (by go_simp)
    ((CH.out w2 h2.m (q2.more (by have := h2.b.size; have := h2.l; omega)) (fun ad e1 e2 => by obtain ⟨ad', e', hb, _⟩ := q2 e2; rw [e1] at e'; cases e'; have := TN.out; omega)).mono fun e w' h => ⟨_, h.1, rfl, h.2⟩) _ _ rfl rfl ?_
  rintro u w3 ⟨eu, m3, k3⟩
  subst eu
  have h3 := h2.code m3 k3
  have hS := KB.keep hS k3 NSF.out
  have hr3 := hr2.keep k3 fun i h1 h2 f => by have := TN.out; rcases f.2 with rfl | rfl <;> omega
  have q3 := q2.keep k3 (by have := LW.out; have := h2.b.size; have := h2.l; omega) (fun ad e1 e2 f => by obtain ⟨ad', e', hb, _⟩ := q2 e2; rw [e1] at e'; cases e'; have := TN.out; rcases f.2 with f | f <;> omega)
  clear h2 hr2 m3 k3 hI9
  refine ⟨hS, ?_⟩
  try simp only [Act.put, List.setIfInBounds_toArray, List.set_cons_zero, List.set_cons_succ]
  refine wpAnyH_all (rs := [7]) (by kernel_rfl) (by simp) fun i hI9 => ?_
  obtain rfl : i = 7 := by simpa using hI9
  refine op_call (om := ⟨_, _, _, _, _, _⟩) (fn := 41) (args := #[.pointer (some ⟨q, 0, none⟩), .slice a.A a.xs.length a.c]) (R := fun u w' => u = .int .i64 r ∧ Dn w3 mi q b d e Z M1 w') rfl rfl (by go_simp)
    ((DH.out w3 b c hr3 (q3.more (by have := h3.b.size; have := h3.l; omega)) (fun ad e1 e2 => by obtain ⟨ad', e', hb, _⟩ := q3 e2; rw [e1] at e'; cases e'; have := TN.out; have := RN.out; omega)).mono fun e w' h => ⟨_, h.1, rfl, h.2⟩) _ _ rfl rfl ?_
  rintro u w4 ⟨eu, d4⟩
  subst eu
  have TT := Lib.hid (h3.doc hr3 d4)
  have hS := KB.keep hS d4.kp NBQ.out
  clear h3 hr3 d4 hI9
  refine ⟨hS, ?_⟩
  try simp only [Act.put, List.setIfInBounds_toArray, List.set_cons_zero, List.set_cons_succ]
  refine wpAnyH_take (oi := ⟨_, _, _, _, _, _⟩) (i := 8) (v := .int .i64 r) rfl (by kernel_rfl) (by kernel_rfl) (by kernel_rfl) (fun _ _ _ h => h) (Or.inl ⟨by rfl, fun _ _ => rfl⟩) hS ?_
  try simp only [Act.put, List.setIfInBounds_toArray, List.set_cons_zero, List.set_cons_succ]
  refine wpAnyH_take (oi := ⟨_, _, _, _, _, _⟩) (i := 9) (v := .int .i64 r) rfl (by kernel_rfl) (by kernel_rfl) (by kernel_rfl) (fun _ _ _ h => h) (Or.inl ⟨by rfl, fun _ _ => rfl⟩) hS ?_
  try simp only [Act.put, List.setIfInBounds_toArray, List.set_cons_zero, List.set_cons_succ]
  refine wpAnyH_done (by kernel_rfl) ?_ _
  try simp only [Act.put, List.setIfInBounds_toArray, List.set_cons_zero, List.set_cons_succ]
  clear hS
  go_wp2_with fail
  go_ret
  exact ⟨rfl, _, TT.out⟩
set_option maxRecDepth 100000 in
set_option maxHeartbeats 1600000 in
theorem act_8 (h : Tw L w0 w p gb mb mi q d e Z M M) (a : KAct) (hq : IQ w L a.A a.xs) (hn : -9223372036854775808 ≤ a.n ∧ a.n ≤ 9223372036854775807) : Calls Try.prog 10 #[.pointer (some ⟨p, 0, none⟩), .pointer (some ⟨q, 0, none⟩), .agg #[.int .i64 8, .int .i64 a.n, .slice a.A a.xs.length a.c]] w (ActT L w0 p gb mb mi q d e Z) := by
  obtain ⟨M1, CC, DD⟩ := pair_Clear p gb mb mi q d e Z M 
  have CH := Lib.hid CC
  have DH := Lib.hid DD
  clear CC DD
  have h1 := h.quiet (Keeps.alloc (fun _ => False) w (.cells #[.int .i64 8, .int .i64 a.n, .slice a.A a.xs.length a.c] 27))
  have kb := KB.new w ⟨8, a.n, a.A, a.xs, a.c⟩
  have nsf := h.sf (Nat.le_refl w.heap.size)
  obtain ⟨b, c, hr⟩ := h.r
  have nbq := Tw.bq hr (Nat.le_refl w.heap.size)
  have hr1 := hr.keep (Keeps.alloc (fun _ => False) w (.cells #[.int .i64 8, .int .i64 a.n, .slice a.A a.xs.length a.c] 27)) fun _ _ _ f => f
  have NSF := Lib.hid nsf
  have NBQ := Lib.hid nbq
  have q1 := hq.keep (Keeps.alloc (fun _ => False) w (.cells #[.int .i64 8, .int .i64 a.n, .slice a.A a.xs.length a.c] 27)) (Nat.le_trans h.l h.b.size) fun _ _ _ f => f
  have QQ := Lib.hid q1
  have TN := Lib.hid h.n
  have RN := Lib.hid (show mi ≤ q ∧ mi ≤ b from ⟨hr.q0, hr.now.lt'.1⟩)
  have LW := Lib.hid (Nat.le_trans h.l h.b.size)
  clear h hr hq nsf nbq q1
  go_enter Try.func10, Try.ntmps10
  go_wp2_with fail
  generalize w.alloc (.cells #[.int .i64 8, .int .i64 a.n, .slice a.A a.xs.length a.c] 27) = w1 at *
  generalize w.heap.size = g at *
  obtain ⟨y0, y1, y2⟩ := kb.c
  dsimp only at y0 y1 y2
  go_wp2_with fail
  refine (CH.out _ h1.m).mono ?_
  rintro e w2 ⟨rfl, m2, k2⟩
  have h2 := h1.code m2 k2
  have hr2 := hr1.keep k2 fun i h1 h2 f => by have := TN.out; rcases f.2 with rfl | rfl <;> omega
  have kb2 := KB.keep kb k2 NSF.out
  clear h1 hr1 kb m2 k2 y0 y1 y2
  obtain ⟨y0, y1, y2⟩ := kb2.c
  dsimp only at y0 y1 y2
  go_wp2_with fail
  refine (DH.out _ b c hr2).mono ?_
  rintro e w3 ⟨rfl, d3⟩
  have TT := Lib.hid (h2.doc hr2 d3)
  clear h2 hr2 kb2 d3 y0 y1 y2
  go_wp2_with fail
  go_ret
  exact ⟨rfl, _, TT.out⟩
set_option maxRecDepth 100000 in
set_option maxHeartbeats 1600000 in
theorem act_rest (h : Tw L w0 w p gb mb mi q d e Z M M) (a : KAct) (hq : IQ w L a.A a.xs) (hn : -9223372036854775808 ≤ a.n ∧ a.n ≤ 9223372036854775807) (d0 : ¬ a.do_ = 0) (d1 : ¬ a.do_ = 1) (d2 : ¬ a.do_ = 2) (d3 : ¬ a.do_ = 3) (d4 : ¬ a.do_ = 4) (d5 : ¬ a.do_ = 5) (d6 : ¬ a.do_ = 6) (d7 : ¬ a.do_ = 7) (d8 : ¬ a.do_ = 8) : Calls Try.prog 10 #[.pointer (some ⟨p, 0, none⟩), .pointer (some ⟨q, 0, none⟩), .agg #[.int .i64 a.do_, .int .i64 a.n, .slice a.A a.xs.length a.c]] w (ActT L w0 p gb mb mi q d e Z) := by
  have x0 : (a.do_ == 0) = false := by simp [d0]
  have x1 : (a.do_ == 1) = false := by simp [d1]
  have x2 : (a.do_ == 2) = false := by simp [d2]
  have x3 : (a.do_ == 3) = false := by simp [d3]
  have x4 : (a.do_ == 4) = false := by simp [d4]
  have x5 : (a.do_ == 5) = false := by simp [d5]
  have x6 : (a.do_ == 6) = false := by simp [d6]
  have x7 : (a.do_ == 7) = false := by simp [d7]
  have x8 : (a.do_ == 8) = false := by simp [d8]
  obtain ⟨M1, CC, DD⟩ := pair_Set p gb mb mi q d e Z M a.n
  have CH := Lib.hid CC
  have DH := Lib.hid DD
  clear CC DD
  have h1 := h.quiet (Keeps.alloc (fun _ => False) w (.cells #[.int .i64 a.do_, .int .i64 a.n, .slice a.A a.xs.length a.c] 27))
  have kb := KB.new w ⟨a.do_, a.n, a.A, a.xs, a.c⟩
  have nsf := h.sf (Nat.le_refl w.heap.size)
  obtain ⟨b, c, hr⟩ := h.r
  have nbq := Tw.bq hr (Nat.le_refl w.heap.size)
  have hr1 := hr.keep (Keeps.alloc (fun _ => False) w (.cells #[.int .i64 a.do_, .int .i64 a.n, .slice a.A a.xs.length a.c] 27)) fun _ _ _ f => f
  have NSF := Lib.hid nsf
  have NBQ := Lib.hid nbq
  have q1 := hq.keep (Keeps.alloc (fun _ => False) w (.cells #[.int .i64 a.do_, .int .i64 a.n, .slice a.A a.xs.length a.c] 27)) (Nat.le_trans h.l h.b.size) fun _ _ _ f => f
  have QQ := Lib.hid q1
  have TN := Lib.hid h.n
  have RN := Lib.hid (show mi ≤ q ∧ mi ≤ b from ⟨hr.q0, hr.now.lt'.1⟩)
  have LW := Lib.hid (Nat.le_trans h.l h.b.size)
  clear h hr hq nsf nbq q1
  go_enter Try.func10, Try.ntmps10
  go_wp2_with fail
  generalize w.alloc (.cells #[.int .i64 a.do_, .int .i64 a.n, .slice a.A a.xs.length a.c] 27) = w1 at *
  generalize w.heap.size = g at *
  obtain ⟨y0, y1, y2⟩ := kb.c
  dsimp only at y0 y1 y2
  go_wp2_with fail
  refine (CH.out _ h1.m).mono ?_
  rintro e w2 ⟨rfl, m2, k2⟩
  have h2 := h1.code m2 k2
  have hr2 := hr1.keep k2 fun i h1 h2 f => by have := TN.out; rcases f.2 with rfl | rfl <;> omega
  have kb2 := KB.keep kb k2 NSF.out
  clear h1 hr1 kb m2 k2 y0 y1 y2
  obtain ⟨y0, y1, y2⟩ := kb2.c
  dsimp only at y0 y1 y2
  go_wp2_with fail
  refine (DH.out _ b c hr2).mono ?_
  rintro e w3 ⟨rfl, d3⟩
  have TT := Lib.hid (h2.doc hr2 d3)
  clear h2 hr2 kb2 d3 y0 y1 y2
  go_wp2_with fail
  go_ret
  exact ⟨rfl, _, TT.out⟩
theorem act_any (h : Tw L w0 w p gb mb mi q d e Z M M) (a : KAct) (hq : IQ w L a.A a.xs) (hn : -9223372036854775808 ≤ a.n ∧ a.n ≤ 9223372036854775807) : Calls Try.prog 10 #[.pointer (some ⟨p, 0, none⟩), .pointer (some ⟨q, 0, none⟩), .agg #[.int .i64 a.do_, .int .i64 a.n, .slice a.A a.xs.length a.c]] w (ActT L w0 p gb mb mi q d e Z) := by
  by_cases d0 : a.do_ = 0
  · rw [d0]; exact act_0 h a hq hn
  by_cases d1 : a.do_ = 1
  · rw [d1]; exact act_1 h a hq hn
  by_cases d2 : a.do_ = 2
  · rw [d2]; exact act_2 h a hq hn
  by_cases d3 : a.do_ = 3
  · rw [d3]; exact act_3 h a hq hn
  by_cases d4 : a.do_ = 4
  · rw [d4]; exact act_4 h a hq hn
  by_cases d5 : a.do_ = 5
  · rw [d5]; exact act_5 h a hq hn
  by_cases d6 : a.do_ = 6
  · rw [d6]; exact act_6 h a hq hn
  by_cases d7 : a.do_ = 7
  · rw [d7]; exact act_7 h a hq hn
  by_cases d8 : a.do_ = 8
  · rw [d8]; exact act_8 h a hq hn
  exact act_rest h a hq hn d0 d1 d2 d3 d4 d5 d6 d7 d8
end Go.Proofs.Ytmaoaeebggpbbaa.Sk
