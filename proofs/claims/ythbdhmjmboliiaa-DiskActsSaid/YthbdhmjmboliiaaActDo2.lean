/-
  The contract of act: Flush, Arm and Restart on both disks.
-/
import Derived.Test.YthbdhmjmboliiaaActDo
namespace Go.Proofs.Ythbdhmjmboliiaa
open Go.RowKit

theorem arm_any {w : World} {F : Nat → Prop} {p : Nat} {D : DSt} (h : Dk w F p D) (x : Int) (hx : x ≤ 9223372036854775807) :
    Calls Try.prog 22 #[.pointer (some ⟨p, 0, none⟩), .int .i64 x] w fun e w' => e = .returned (.tuple #[]) ∧ Dk w' (Gr F w) p (D.armed x) ∧ Keeps F w w' := by
  obtain ⟨lb, mb, n, iv, h, fp, fl, fm, fi⟩ := h
  refine (arm_at h x hx).mono ?_
  rintro e w' ⟨he, h1, k⟩
  exact ⟨he, ⟨lb, mb, n, iv, h1, Or.inl fp, Or.inl fl, Or.inl fm, fun b e => Or.inl (fi b e)⟩, k.mono fun b _ e => by rw [e]; exact fp⟩
theorem rarm_F {w : World} {F : Nat → Prop} {p : Nat} {D : DSt} (h : RD w F p D) (x : Int) (hx : x ≤ 9223372036854775807) :
    Calls Try.prog 29 #[.pointer (some ⟨p, 0, none⟩), .int .i64 x] w fun e w' => e = .returned (.tuple #[]) ∧ RD w' (Gr F w) p (D.armed x) ∧ Keeps F w w' := by
  obtain ⟨n, sv, wv, svs, ws, h⟩ := h
  have hp := h.fp
  refine (rarm_any h x hx).mono ?_
  rintro e w' ⟨he, h1, k⟩
  exact ⟨he, ⟨n, sv, wv, svs, ws, h1.mono fun _ _ h => Or.inl h⟩, k.mono fun b _ e => by rw [e]; exact hp⟩

set_option maxRecDepth 100000 in
set_option maxHeartbeats 800000 in
theorem act_flush {w : World} {B : Nat} {X : Nat → Prop} {p q : Nat} {D : DSt} (two : Two w B X p q D D) (hB : B ≤ w.heap.size) (hX : ∀ k, X k → k < w.heap.size) (a : ActV) (hQ : D.Q.length ≤ 1954687338212) (ha : D.acts ≤ 1000000000000000) (h1 : a.do_ = 1) :
    Calls Try.prog 13 #[.pointer (some ⟨p, 0, none⟩), .pointer (some ⟨q, 0, none⟩), .agg (acells a).toArray] w (Acted w B X p q D.flush) := by
  have st := ActSt.start two hB hX a
  have bx := box35 w a
  have BX := Lib.hid bx
  clear bx
  have d0 := st.act.c.1
  rw [h1] at d0
  obtain ⟨F1, hd1, hF1, up1⟩ := st.two.left st.hB st.hX
  have HF := Lib.hid (flush_any hd1 hQ ha)
  have U1 := Lib.hid up1
  have ST := Lib.hid st
  clear up1 hF1 hd1 st
  go_enter Try.func13, Try.ntmps13
  go_wp2_with ((with_reducible refine at_ (op := .box 35 (.tmp 2)) ?_); refine wpList_val rfl _ (ex_box 35 (.tmp 2) rfl _ _ rfl BX.out) ?_)
  refine HF.out.mono ?_
  rintro e w2 ⟨rfl, hd2, k2⟩
  obtain ⟨two2, b2, x2⟩ := U1.out w2 _ hd2 k2
  have hB2 : B ≤ w2.heap.size := Nat.le_trans ST.out.hB b2.size
  have hX2 : ∀ k, X k ∨ k = w.heap.size → k < w2.heap.size := fun k hk => Nat.lt_of_lt_of_le (ST.out.hX k hk) b2.size
  obtain ⟨F2, hr2, hF2, up2⟩ := two2.right hB2 hX2
  have HR := Lib.hid (rflush_any hr2 hQ ha)
  have U2 := Lib.hid up2
  have X2 := Lib.hid x2
  clear up2 hF2 hr2 two2 x2 hd2 k2 hX2 HF U1
  generalize D.flushErr = E at *
  go_wp2_with fail
  refine HR.out.mono ?_
  rintro e w3 ⟨rfl, hr3, k3⟩
  obtain ⟨two3, b3, x3⟩ := U2.out w3 _ hr3 k3
  have HFIN := Lib.hid (ST.out.done b2 X2.out two3 b3 x3)
  clear two3 b3 x3 hr3 k3 U2 X2 ST HR
  go_wp2_with fail
  go_ret
  exact HFIN.out

set_option maxRecDepth 100000 in
set_option maxHeartbeats 800000 in
theorem act_arm {w : World} {B : Nat} {X : Nat → Prop} {p q : Nat} {D : DSt} (two : Two w B X p q D D) (hB : B ≤ w.heap.size) (hX : ∀ k, X k → k < w.heap.size) (a : ActV) (hn : a.n ≤ 9223372036854775807) (h2 : a.do_ = 2) :
    Calls Try.prog 13 #[.pointer (some ⟨p, 0, none⟩), .pointer (some ⟨q, 0, none⟩), .agg (acells a).toArray] w (Acted w B X p q (D.armed a.n)) := by
  have st := ActSt.start two hB hX a
  have bx := box35 w a
  have BX := Lib.hid bx
  clear bx
  have d0 := st.act.c.1
  have d1 := st.act.c.2.1
  rw [h2] at d0
  obtain ⟨F1, hd1, hF1, up1⟩ := st.two.left st.hB st.hX
  have HF := Lib.hid (arm_any hd1 a.n hn)
  have U1 := Lib.hid up1
  have ST := Lib.hid st
  clear up1 hF1 hd1 st
  go_enter Try.func13, Try.ntmps13
  go_wp2_with ((with_reducible refine at_ (op := .box 35 (.tmp 2)) ?_); refine wpList_val rfl _ (ex_box 35 (.tmp 2) rfl _ _ rfl BX.out) ?_)
  refine HF.out.mono ?_
  rintro e w2 ⟨rfl, hd2, k2⟩
  obtain ⟨two2, b2, x2⟩ := U1.out w2 _ hd2 k2
  have d1 := (ActB.c ((x2 _ (Or.inr rfl)).trans ST.out.act)).2.1
  have hB2 : B ≤ w2.heap.size := Nat.le_trans ST.out.hB b2.size
  have hX2 : ∀ k, X k ∨ k = w.heap.size → k < w2.heap.size := fun k hk => Nat.lt_of_lt_of_le (ST.out.hX k hk) b2.size
  obtain ⟨F2, hr2, hF2, up2⟩ := two2.right hB2 hX2
  have HR := Lib.hid (rarm_F hr2 a.n hn)
  have U2 := Lib.hid up2
  have X2 := Lib.hid x2
  clear up2 hF2 hr2 two2 x2 hd2 k2 hX2 HF U1
  go_wp2_with fail
  refine HR.out.mono ?_
  rintro e w3 ⟨rfl, hr3, k3⟩
  obtain ⟨two3, b3, x3⟩ := U2.out w3 _ hr3 k3
  have HFIN := Lib.hid (ST.out.done b2 X2.out two3 b3 x3)
  clear two3 b3 x3 hr3 k3 U2 X2 ST HR
  go_wp2_with fail
  go_ret
  exact HFIN.out
end Go.Proofs.Ythbdhmjmboliiaa
