/-
  The contract of act: Restart and Read on both disks; then any call.
-/
import Derived.Test.YthbdhmjmboliiaaActDo2
import Derived.Test.YthbdhmjmboliiaaStr
namespace Go.Proofs.Ythbdhmjmboliiaa
open Go.RowKit

set_option maxRecDepth 100000 in
set_option maxHeartbeats 800000 in
theorem act_restart {w : World} {B : Nat} {X : Nat → Prop} {p q : Nat} {D : DSt} (two : Two w B X p q D D) (hB : B ≤ w.heap.size) (hX : ∀ k, X k → k < w.heap.size) (a : ActV) (hf : a.f.Ok) (hQ : D.Q.length ≤ 1954687338212) (h3 : a.do_ = 3) :
    Calls Try.prog 13 #[.pointer (some ⟨p, 0, none⟩), .pointer (some ⟨q, 0, none⟩), .agg (acells a).toArray] w (Acted w B X p q (D.restart a.f)) := by
  have st := ActSt.start two hB hX a
  have bx := box35 w a
  have BX := Lib.hid bx
  clear bx
  have d0 := st.act.c.1
  rw [h3] at d0
  have L1 := Lib.hid (load33_at st.act)
  obtain ⟨F1, hd1, hF1, up1⟩ := st.two.left st.hB st.hX
  have HF := Lib.hid (restart_any hd1 a.f hf hQ)
  have U1 := Lib.hid up1
  have ST := Lib.hid st
  clear up1 hF1 hd1 st
  go_enter Try.func13, Try.ntmps13
  go_wp2_with (first
    | ((with_reducible refine at_ (op := .box 35 (.tmp 2)) ?_); refine wpList_val rfl _ (ex_box 35 (.tmp 2) rfl _ _ rfl BX.out) ?_)
    | ((with_reducible refine here (op := .load 33 (.tmp 48)) ?_); refine wpList_load_run rfl 33 _ rfl _ _ rfl L1.out ?_))
  refine HF.out.mono ?_
  rintro e w2 ⟨rfl, hd2, k2⟩
  obtain ⟨two2, b2, x2⟩ := U1.out w2 _ hd2 k2
  have L2 := Lib.hid (load33_at ((x2 _ (Or.inr rfl)).trans ST.out.act))
  have hB2 : B ≤ w2.heap.size := Nat.le_trans ST.out.hB b2.size
  have hX2 : ∀ k, X k ∨ k = w.heap.size → k < w2.heap.size := fun k hk => Nat.lt_of_lt_of_le (ST.out.hX k hk) b2.size
  obtain ⟨F2, hr2, hF2, up2⟩ := two2.right hB2 hX2
  obtain ⟨n, sv, wv, svs, ws, hr2⟩ := hr2
  have HR := Lib.hid (rrestart_at hr2 a.f hf hQ)
  have U2 := Lib.hid up2
  have X2 := Lib.hid x2
  clear up2 hF2 hr2 two2 x2 hd2 k2 hX2 HF U1
  go_wp2_with ((with_reducible refine here (op := .load 33 (.tmp 52)) ?_); refine wpList_load_run rfl 33 _ rfl _ _ rfl L2.out ?_)
  refine HR.out.mono ?_
  rintro e w3 ⟨rfl, hr3, k3⟩
  obtain ⟨two3, b3, x3⟩ := U2.out w3 _ hr3 k3
  have HFIN := Lib.hid (ST.out.done b2 X2.out two3 b3 x3)
  clear two3 b3 x3 hr3 k3 U2 X2 ST HR
  go_wp2_with fail
  go_ret
  exact HFIN.out

/-- Nothing of theirs was written. -/
theorem ActSt.quiet {w wA w1 : World} {B : Nat} {X : Nat → Prop} {p q : Nat} {D : DSt} {a : ActV} (h : ActSt w wA B X p q D a) (k : Keeps (fun _ => False) wA w1) : Acted w B X p q D (.returned (.bool true)) w1 := by
  have h1 := h.more k
  exact ⟨rfl, h1.two.mark (Below.refl _ _) _ fun k hk => Or.inl (Or.inl hk), h1.bel, h1.keep⟩

set_option maxRecDepth 100000 in
set_option maxHeartbeats 800000 in
theorem act_read {w : World} {B : Nat} {X : Nat → Prop} {p q : Nat} {D : DSt} (two : Two w B X p q D D) (hB : B ≤ w.heap.size) (hX : ∀ k, X k → k < w.heap.size) (a : ActV) (hQ : D.Q.length ≤ 1954687338212) (h0 : ¬ a.do_ = 0) (h1 : ¬ a.do_ = 1) (h2 : ¬ a.do_ = 2) (h3 : ¬ a.do_ = 3) :
    Calls Try.prog 13 #[.pointer (some ⟨p, 0, none⟩), .pointer (some ⟨q, 0, none⟩), .agg (acells a).toArray] w (Acted w B X p q D) := by
  have st := ActSt.start two hB hX a
  have bx := box35 w a
  have BX := Lib.hid bx
  clear bx
  have d0 := st.act.c.1
  have d1 := st.act.c.2.1
  have e0 : (a.do_ == 0) = false := by simpa using h0
  have e1 : (a.do_ == 1) = false := by simpa using h1
  have e2 : (a.do_ == 2) = false := by simpa using h2
  have e3 : (a.do_ == 3) = false := by simpa using h3
  obtain ⟨F1, hd1, _⟩ := st.two.left st.hB st.hX
  obtain ⟨lb, mb, n, iv, hd1, _⟩ := hd1
  have HF := Lib.hid (read_at hd1 a.n)
  have ST := Lib.hid st
  clear hd1 st h0 h1 h2 h3
  go_enter Try.func13, Try.ntmps13
  go_wp2_with ((with_reducible refine at_ (op := .box 35 (.tmp 2)) ?_); refine wpList_val rfl _ (ex_box 35 (.tmp 2) rfl _ _ rfl BX.out) ?_)
  refine HF.out.mono ?_
  rintro e w2 ⟨R, c, rfl, br, _, k2⟩
  have st2 := ST.out.more k2
  have d1 := st2.act.c.2.1
  obtain ⟨F2, hr2, _⟩ := st2.two.right st2.hB st2.hX
  have HR := Lib.hid (rread_any hr2 a.n hQ)
  clear hr2 st2 HF
  generalize D.readErr a.n = E at *
  generalize D.readAt a.n = zs at *
  go_wp2_with fail
  refine HR.out.mono ?_
  rintro e w3 ⟨R', n', c', rfl, hl, br', k3⟩
  subst hl
  have s1 := run_str (P := Try.prog) w3 w2.heap.size 30 9 5 R zs c (br.keep fun p hp => World.cell?_of_block (k3.block _ hp fun h => h)) rfl rfl rfl
  have s2 := run_str (P := Try.prog) w3 w3.heap.size 30 9 5 R' zs c' br' rfl rfl rfl
  have S1 := Lib.hid s1
  have S2 := Lib.hid s2
  have HFIN := Lib.hid (ST.out.quiet (k2.trans k3))
  clear s1 s2 k2 k3 br br' ST HR d0 d1 e0 e1 e2 e3
  go_wp2_with (first
    | ((with_reducible refine at_ (op := .convert 30 9 (.tmp 73)) ?_); refine wpList_val rfl _ (ex_convert 30 9 (.tmp 73) rfl _ _ rfl S1.out) ?_)
    | ((with_reducible refine at_ (op := .convert 30 9 (.tmp 75)) ?_); refine wpList_val rfl _ (ex_convert 30 9 (.tmp 75) rfl _ _ rfl S2.out) ?_))
  go_ret
  exact HFIN.out

theorem act_any {w : World} {B : Nat} {X : Nat → Prop} {p q : Nat} {D : DSt} (two : Two w B X p q D D) (hB : B ≤ w.heap.size) (hX : ∀ k, X k → k < w.heap.size) (a : ActV) (hbr : BR w B a.A a.xs) (hf : a.f.Ok) (hn : a.n ≤ 9223372036854775807) (hQ : D.Q.length < 1954687338212) (ha : D.acts ≤ 1000000000000000) :
    Calls Try.prog 13 #[.pointer (some ⟨p, 0, none⟩), .pointer (some ⟨q, 0, none⟩), .agg (acells a).toArray] w (Acted w B X p q (D.actOn a)) := by
  unfold DSt.actOn
  by_cases h0 : a.do_ = 0
  · rw [if_pos h0]; exact act_write two hB hX a hbr hQ ha h0
  rw [if_neg h0]
  by_cases h1 : a.do_ = 1
  · rw [if_pos h1]; exact act_flush two hB hX a (by omega) ha h1
  rw [if_neg h1]
  by_cases h2 : a.do_ = 2
  · rw [if_pos h2]; exact act_arm two hB hX a hn h2
  rw [if_neg h2]
  by_cases h3 : a.do_ = 3
  · rw [if_pos h3]; exact act_restart two hB hX a hf (by omega) h3
  rw [if_neg h3]
  exact act_read two hB hX a (by omega) h0 h1 h2 h3
end Go.Proofs.Ythbdhmjmboliiaa
