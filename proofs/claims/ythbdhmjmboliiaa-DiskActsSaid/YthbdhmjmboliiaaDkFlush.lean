/-
  The contracts of Flush and Restart.
-/
import Derived.Test.YthbdhmjmboliiaaDkSettle
namespace Go.Proofs.Ythbdhmjmboliiaa
open Go.RowKit Go.Maps

/-- All that waits lasts. -/
def fAll : Fate := ⟨18446744073709551615, -1, 0, false⟩
theorem fAll_ok : fAll.Ok := ⟨by decide, by decide⟩
def DSt.flushErr (D : DSt) : Int := if D.down = true then 20 else D.actErr
def DSt.flush (D : DSt) : DSt := if D.down = true then D else if D.left = 0 then D.spent else D.spent.settle fAll
def DSt.restart (D : DSt) (f : Fate) : DSt := { D.settle f with left := -1, down := false }
theorem buildAll (w : World) : (Instr.build 33 #[(0, .int .u64 18446744073709551615), (1, .int .i64 (-1))]).run Try.prog w = .ok (agf fAll) w := by kernel_rfl

theorem wpList_build2_run {P : Program} {w w' : World} {ops : Array Oper} {rest : List Oper} {o : Oper} {a : Act} {Q : Exit → Act → World → Prop} (hgd : o.guard = none) (t : TypeId) (x y : Operand) (ho : o.op = .build t #[(0, x), (1, y)]) (u u' v : Value) (hx : a.eval x = u) (hy : a.eval y = u')
    (hrun : (Instr.build t #[(0, u), (1, u')]).run P w = .ok v w') (h : wpList P ops Q rest (a.put o.dst v) w') : wpList P ops Q (o :: rest) a w :=
  wpList_plain hgd fun _ hK => by
    unfold Oper.wp execOp
    simp only [ho, Sem.run_bind, List.map_toArray, List.map_cons, List.map_nil, hx, hy, hrun, Result.andThen_ok, Sem.run_pure]
    exact hK _ _ h

theorem Keeps.disk {w w' : World} {F : Nat → Prop} {p lb mb : Nat} (h : Keeps (fun k => k = p ∨ k = lb ∨ k = mb) w w') (fp : F p) (fl : F lb) (fm : F mb) : Keeps F w w' := h.mono fun k _ e => by
  rcases e with rfl | rfl | rfl <;> assumption

set_option maxHeartbeats 1000000 in
theorem flush_any {w : World} {F : Nat → Prop} {p : Nat} {D : DSt} (h0 : Dk w F p D) (hQ : D.Q.length ≤ 1954687338212) (ha : D.acts ≤ 1000000000000000) :
    Calls Try.prog 19 #[.pointer (some ⟨p, 0, none⟩)] w (Wrote w F p D.flush D.flushErr) := by
  cases hd : D.down with
  | true =>
    have e1 : D.flush = D := by unfold DSt.flush; rw [if_pos hd]
    have e2 : D.flushErr = 20 := by unfold DSt.flushErr; rw [if_pos hd]
    rw [e1, e2]
    have HW := Lib.hid h0
    obtain ⟨lb, mb, n, iv, h, _⟩ := h0
    have HD := Lib.hid hd
    clear e1 e2 hd
    go_enter Try.func19, Try.ntmps19
    go_wp2_with (go_at_call 23; refine (down_at h).mono ?_; rintro e w' ⟨rfl, rfl⟩; rw [HD.out])
    go_ret
    exact HW.out.wrote_same 20
  | false =>
    obtain ⟨lb, mb, n, iv, h, fp, fl, fm, fi⟩ := h0
    have HD := Lib.hid hd
    by_cases hl : D.left = 0
    · have e1 : D.flush = D.spent := by unfold DSt.flush; rw [if_neg (by simp [hd]), if_pos hl]
      have e3 : D.actErr = 20 := by unfold DSt.actErr; rw [if_pos hl]
      have e2 : D.flushErr = 20 := by unfold DSt.flushErr; rw [if_neg (by simp [hd]), e3]
      rw [e1, e2]
      have HE := Lib.hid e3
      clear e1 e2 e3 hd hl
      go_enter Try.func19, Try.ntmps19
      go_wp2_with fail
      refine (down_at h).mono ?_
      rintro e w' ⟨rfl, rfl⟩
      rw [HD.out]
      go_wp2_with fail
      refine (act_at h ha).mono ?_
      rintro e w1 ⟨rfl, h1, k1⟩
      rw [HE.out]
      go_wp2_with fail
      go_ret
      exact ⟨rfl, ⟨lb, mb, n, iv, h1, Or.inl fp, Or.inl fl, Or.inl fm, fun g hg => Or.inl (fi g hg)⟩, k1.mono fun _ _ e => e ▸ fp⟩
    · have e1 : D.flush = D.spent.settle fAll := by unfold DSt.flush; rw [if_neg (by simp [hd]), if_neg hl]
      have e3 : D.actErr = 0 := by unfold DSt.actErr; rw [if_neg hl]
      have e2 : D.flushErr = 0 := by unfold DSt.flushErr; rw [if_neg (by simp [hd]), e3]
      rw [e1, e2]
      have HE := Lib.hid e3
      have hQ2 : D.spent.Q.length ≤ 1954687338212 := by rw [DSt.spent_Q]; exact hQ
      clear e1 e2 e3 hd hl
      go_enter Try.func19, Try.ntmps19
      go_wp2_with fail
      refine (down_at h).mono ?_
      rintro e w' ⟨rfl, rfl⟩
      rw [HD.out]
      go_wp2_with fail
      refine (act_at h ha).mono ?_
      rintro e w1 ⟨rfl, h1, k1⟩
      rw [HE.out]
      go_wp2_with (((with_reducible refine here (op := .build 33 #[(0, .const (.int .u64 18446744073709551615)), (1, .const (.int .i64 (-1)))]) ?_); refine wpList_build2_run rfl 33 _ _ rfl _ _ _ rfl rfl (buildAll _) ?_))
      refine (settle_at h1 fAll fAll_ok hQ2).mono ?_
      rintro e w2 ⟨rfl, h2, k2⟩
      go_wp2_with fail
      go_ret
      exact ⟨rfl, ⟨lb, mb, n, _, h2, Or.inl fp, Or.inl fl, Or.inl fm, fun g hg => (by cases hg)⟩, (k1.mono fun _ _ e => e ▸ fp).trans (k2.disk fp fl fm)⟩

set_option maxHeartbeats 1000000 in
theorem restart_any {w : World} {F : Nat → Prop} {p : Nat} {D : DSt} (h0 : Dk w F p D) (f : Fate) (hf : f.Ok) (hQ : D.Q.length ≤ 1954687338212) :
    Calls Try.prog 20 #[.pointer (some ⟨p, 0, none⟩), agf f] w fun e w' => e = .returned (.tuple #[]) ∧ Dk w' (Gr F w) p (D.restart f) ∧ Keeps F w w' := by
  obtain ⟨lb, mb, n, iv, h, fp, fl, fm, fi⟩ := h0
  have h1 : DkAt (w.alloc (.cells (fcells f) 33)) p lb mb n iv D := h.same (Keeps.alloc _ _ _)
  have kw : Keeps (fun _ => False) w (w.alloc (.cells (fcells f) 33)) := Keeps.alloc _ _ _
  have LF := Lib.hid (load33 (heap_alloc_last w (.cells (fcells f) 33)))
  have HF := Lib.hid hf
  clear hf h
  go_enter Try.func20, Try.ntmps20
  go_wp2_with (first
    | ((with_reducible refine here (op := .box 33 (.tmp 1)) ?_); refine wpList_box_run rfl 33 _ rfl _ _ rfl (box33 _ _) ?_)
    | (go_at_call 26; refine (made_at h1).mono ?_; rintro e w' ⟨rfl, rfl⟩)
    | ((with_reducible refine here (op := .load 33 (.tmp 3)) ?_); refine wpList_load_run rfl 33 _ rfl _ _ rfl LF.out ?_))
  refine (settle_at h1 f HF.out hQ).mono ?_
  rintro e w2 ⟨rfl, h2, k2⟩
  have h3 := h2.setDown false
  have h4 := h3.setLeft (-1) (by omega) (by omega)
  obtain ⟨c0, c1, c2, c3, c4, c5, fz⟩ := h2.c
  have fz3 := fz 3
  have fz4 := fz 4
  have H4 := Lib.hid h4
  clear h3 h4 fz c0 c1 c2 c5 LF
  go_wp2_with fail
  go_end0
  exact ⟨rfl, ⟨lb, mb, n, _, H4.out, Or.inl fp, Or.inl fl, Or.inl fm, fun g hg => (by cases hg)⟩, (kw.ofFalse.trans (k2.disk fp fl fm)).trans ((Keeps.setCell F _ _ _ fp).trans (Keeps.setCell F _ _ _ fp))⟩
end Go.Proofs.Ythbdhmjmboliiaa
