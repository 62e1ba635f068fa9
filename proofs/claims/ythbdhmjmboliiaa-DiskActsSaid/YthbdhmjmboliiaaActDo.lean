/-
  The contract of act: a call on both disks.
-/
import Derived.Test.YthbdhmjmboliiaaTwo
namespace Go.Proofs.Ythbdhmjmboliiaa
open Go.RowKit

set_option maxRecDepth 100000 in
set_option maxHeartbeats 600000 in
theorem act_write {w : World} {B : Nat} {X : Nat → Prop} {p q : Nat} {D : DSt} (two : Two w B X p q D D) (hB : B ≤ w.heap.size) (hX : ∀ k, X k → k < w.heap.size) (a : ActV) (hbr : BR w B a.A a.xs) (hQ : D.Q.length < 1954687338212) (ha : D.acts ≤ 1000000000000000) (h0 : a.do_ = 0) :
    Calls Try.prog 13 #[.pointer (some ⟨p, 0, none⟩), .pointer (some ⟨q, 0, none⟩), .agg (acells a).toArray] w (Acted w B X p q (D.write a.n a.xs)) := by
  have st := ActSt.start two hB hX a
  have bx := box35 w a
  have BX := Lib.hid bx
  clear bx
  have hbrA : BR (w.alloc (.cells (acells a).toArray 35)) B a.A a.xs := hbr.alloc hB _
  have d0 := st.act.c.1
  rw [h0] at d0
  go_enter Try.func13, Try.ntmps13
  go_wp2_with ((with_reducible refine at_ (op := .box 35 (.tmp 2)) ?_); refine wpList_val rfl _ (ex_box 35 (.tmp 2) rfl _ _ rfl BX.out) ?_)
  clear d0 h0
  refine wp_region_held (S := ActB w.heap.size a) (by kernel_rfl) ?_
  change wpAnyH _ _ _ _ _ _ _ _ (w.alloc (.cells (acells a).toArray 35)).drew
  have st := st.drew
  have hbrA : BR (w.alloc (.cells (acells a).toArray 35)).drew B a.A a.xs := hbrA
  generalize (w.alloc (.cells (acells a).toArray 35)).drew = w1 at *
  have hS := st.act
  refine wpAnyH_take (oi := ⟨_, _, _, _, _, _⟩) (i := 0) (v := .pointer (some ⟨p, 0, none⟩)) rfl (by kernel_rfl) (by kernel_rfl) (by kernel_rfl) (fun _ _ _ h => h) (Or.inl ⟨by rfl, fun _ _ => rfl⟩) hS ?_
  refine wpAnyH_take (oi := ⟨_, _, _, _, _, _⟩) (i := 1) (v := .pointer (some ⟨w.heap.size, 1, none⟩)) rfl (by kernel_rfl) (by kernel_rfl) (by kernel_rfl) (fun _ _ _ h => h) (Or.inl ⟨by rfl, fun _ _ => by go_simp⟩) hS ?_
  refine wpAnyH_take (oi := ⟨_, _, _, _, _, _⟩) (i := 2) (v := .int .i64 a.n) rfl (by kernel_rfl) (by kernel_rfl) (by kernel_rfl) (fun _ _ _ h => h) (yif_load rfl 3 (.tmp 16) rfl _ _ rfl fun w h => load_one agg3 (ActB.c h).2.1) hS ?_
  simp only [Act.put, List.setIfInBounds_toArray, List.set_cons_zero, List.set_cons_succ]
  refine wpAnyH_take (oi := ⟨_, _, _, _, _, _⟩) (i := 3) (v := .pointer (some ⟨w.heap.size, 2, none⟩)) rfl (by kernel_rfl) (by kernel_rfl) (by kernel_rfl) (fun _ _ _ h => h) (Or.inl ⟨by rfl, fun _ _ => by go_simp⟩) hS ?_
  refine wpAnyH_take (oi := ⟨_, _, _, _, _, _⟩) (i := 4) (v := .slice a.A a.xs.length a.c) rfl (by kernel_rfl) (by kernel_rfl) (by kernel_rfl) (fun _ _ _ h => h) (yif_load rfl 30 (.tmp 18) rfl _ _ rfl fun w h => load_one agg30 (ActB.c h).2.2) hS ?_
  simp only [Act.put, List.setIfInBounds_toArray, List.set_cons_zero, List.set_cons_succ]
  refine wpAnyH_take (oi := ⟨_, _, _, _, _, _⟩) (i := 6) (v := .pointer (some ⟨q, 0, none⟩)) rfl (by kernel_rfl) (by kernel_rfl) (by kernel_rfl) (fun _ _ _ h => h) (Or.inl ⟨by rfl, fun _ _ => rfl⟩) hS ?_
  refine wpAnyH_take (oi := ⟨_, _, _, _, _, _⟩) (i := 7) (v := .pointer (some ⟨w.heap.size, 1, none⟩)) rfl (by kernel_rfl) (by kernel_rfl) (by kernel_rfl) (fun _ _ _ h => h) (Or.inl ⟨by rfl, fun _ _ => by go_simp⟩) hS ?_
  simp only [Act.put, List.setIfInBounds_toArray, List.set_cons_zero, List.set_cons_succ]
  refine wpAnyH_take (oi := ⟨_, _, _, _, _, _⟩) (i := 8) (v := .int .i64 a.n) rfl (by kernel_rfl) (by kernel_rfl) (by kernel_rfl) (fun _ _ _ h => h) (yif_load rfl 3 (.tmp 22) rfl _ _ rfl fun w h => load_one agg3 (ActB.c h).2.1) hS ?_
  refine wpAnyH_take (oi := ⟨_, _, _, _, _, _⟩) (i := 9) (v := .pointer (some ⟨w.heap.size, 2, none⟩)) rfl (by kernel_rfl) (by kernel_rfl) (by kernel_rfl) (fun _ _ _ h => h) (Or.inl ⟨by rfl, fun _ _ => by go_simp⟩) hS ?_
  simp only [Act.put, List.setIfInBounds_toArray, List.set_cons_zero, List.set_cons_succ]
  refine wpAnyH_take (oi := ⟨_, _, _, _, _, _⟩) (i := 10) (v := .slice a.A a.xs.length a.c) rfl (by kernel_rfl) (by kernel_rfl) (by kernel_rfl) (fun _ _ _ h => h) (yif_load rfl 30 (.tmp 24) rfl _ _ rfl fun w h => load_one agg30 (ActB.c h).2.2) hS ?_
  simp only [Act.put, List.setIfInBounds_toArray, List.set_cons_zero, List.set_cons_succ]
  have hap : ∀ {F : Nat → Prop}, (∀ k, F k → B ≤ k) → ∀ ad, a.A = some ad → a.xs ≠ [] → ¬ F ad.block := fun hF ad e hn hf => by
    obtain ⟨ad', e', hlt, _⟩ := hbr hn
    rw [e] at e'
    cases e'
    have := hF _ hf
    omega
  obtain ⟨F1, hd1, hF1, up1⟩ := st.two.left st.hB st.hX
  refine wpAnyH_all (rs := [5]) (by kernel_rfl) (by simp) fun i hi => ?_
  obtain rfl : i = 5 := by simpa using hi
  refine op_call (om := ⟨_, _, _, _, _, _⟩) (fn := 17) (args := #[.pointer (some ⟨p, 0, none⟩), .int .i64 a.n, .slice a.A a.xs.length a.c]) (R := fun u w' => u = .int .i64 (D.writeErr a.n a.xs) ∧ Dk w' (Gr F1 w1) p (D.write a.n a.xs) ∧ Keeps F1 w1 w') rfl rfl (by go_simp)
    ((write_any hd1 a.n a.A a.xs a.c (hbrA.more st.hB) (hap hF1) hQ ha).mono fun e w' ⟨he, h1, h2⟩ => ⟨_, he, rfl, h1, h2⟩) _ _ rfl rfl ?_
  rintro u w2 ⟨rfl, hd2, k2⟩
  obtain ⟨two2, b2, x2⟩ := up1 w2 _ hd2 k2
  have hS2 : ActB w.heap.size a w2 := (x2 _ (Or.inr rfl)).trans hS
  have hB2 : B ≤ w2.heap.size := Nat.le_trans st.hB b2.size
  have hX2 : ∀ k, X k ∨ k = w.heap.size → k < w2.heap.size := fun k hk => Nat.lt_of_lt_of_le (st.hX k hk) b2.size
  have hbr2 : BR w2 B a.A a.xs := hbrA.below b2
  refine ⟨hS2, ?_⟩
  simp only [Act.put, List.setIfInBounds_toArray, List.set_cons_zero, List.set_cons_succ]
  obtain ⟨F2, hr2, hF2, up2⟩ := two2.right hB2 hX2
  refine wpAnyH_all (rs := [11]) (by kernel_rfl) (by simp) fun i hi => ?_
  obtain rfl : i = 11 := by simpa using hi
  refine op_call (om := ⟨_, _, _, _, _, _⟩) (fn := 27) (args := #[.pointer (some ⟨q, 0, none⟩), .int .i64 a.n, .slice a.A a.xs.length a.c]) (R := fun u w' => u = .int .i64 (D.writeErr a.n a.xs) ∧ RD w' (Gr F2 w2) q (D.write a.n a.xs) ∧ Keeps F2 w2 w') rfl rfl (by go_simp)
    ((rwrite_any hr2 a.n a.A a.xs a.c (hbr2.more hB2) (hap hF2) hQ ha).mono fun e w' ⟨he, h1, h2⟩ => ⟨_, he, rfl, h1, h2⟩) _ _ rfl rfl ?_
  rintro u w3 ⟨rfl, hr3, k3⟩
  obtain ⟨two3, b3, x3⟩ := up2 w3 _ hr3 k3
  have hS3 : ActB w.heap.size a w3 := (x3 _ (Or.inr rfl)).trans hS2
  have HFIN := Lib.hid (st.done b2 x2 two3 b3 x3)
  refine ⟨hS3, ?_⟩
  clear hd1 hF1 up1 hd2 k2 two2 b2 x2 hr2 hF2 up2 hr3 k3 two3 b3 x3 st hap hbr hbrA hbr2
  simp only [Act.put, List.setIfInBounds_toArray, List.set_cons_zero, List.set_cons_succ]
  generalize D.writeErr a.n a.xs = E
  refine wpAnyH_take (oi := ⟨_, _, _, _, _, _⟩) (i := 12) (v := .bool true) rfl (by kernel_rfl) (by kernel_rfl) (by kernel_rfl) (fun _ _ _ h => h) (Or.inl ⟨by rfl, fun _ _ => by go_simp⟩) hS3 ?_
  refine wpAnyH_take (oi := ⟨_, _, _, _, _, _⟩) (i := 13) (v := .bool true) rfl (by kernel_rfl) (by kernel_rfl) (by kernel_rfl) (fun _ _ _ h => h) (Or.inl ⟨by rfl, fun _ _ => rfl⟩) hS3 ?_
  refine wpAnyH_done (by kernel_rfl) ?_ _
  simp only [Act.put, List.setIfInBounds_toArray, List.set_cons_zero, List.set_cons_succ]
  go_wp2_with fail
  go_ret
  exact HFIN.out
end Go.Proofs.Ythbdhmjmboliiaa
