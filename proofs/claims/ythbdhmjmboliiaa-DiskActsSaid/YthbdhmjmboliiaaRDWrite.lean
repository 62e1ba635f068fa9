/-
  The contract of the document's Write.
-/
import Derived.Test.YthbdhmjmboliiaaDkWait
namespace Go.Proofs.Ythbdhmjmboliiaa
open Go.RowKit

theorem ex_append {P : Program} {w w' : World} {o : Oper} {ρ : Operand → Value} (s x : Operand) (t : TypeId) (ho : o.op = .call { callee := .builtin .append, args := #[s, x], argTypes := #[t, t] }) (a b v : Value) (ha : ρ s = a) (hb : ρ x = b)
    (hrun : (Builtin.append_ #[t, t] o.type #[a, b]).run P w = .ok v w') : (execOp ρ o).run P w = .ok (.value v) w' := by
  unfold execOp
  simp only [ho, resolve, invoke, builtin, Sem.run_bind, Sem.run_pure, Result.andThen_ok, List.map_toArray, List.map_cons, List.map_nil, ha, hb, hrun]
theorem ex_build2 {P : Program} {w w' : World} {o : Oper} {ρ : Operand → Value} (t : TypeId) (x y : Operand) (ho : o.op = .build t #[(0, x), (1, y)]) (u u' v : Value) (hx : ρ x = u) (hy : ρ y = u') (hrun : (Instr.build t #[(0, u), (1, u')]).run P w = .ok v w') : (execOp ρ o).run P w = .ok (.value v) w' := by
  unfold execOp
  simp only [ho, Sem.run_bind, List.map_toArray, List.map_cons, List.map_nil, hx, hy, hrun, Result.andThen_ok, Sem.run_pure]
theorem build79 (w : World) (i : Int) (R : Option Addr) (m c : Nat) : (Instr.build 79 #[(0, .int .i64 i), (1, .slice R m c)]).run Try.prog w = .ok (.agg #[.int .i64 i, .slice R m c]) w := by kernel_rfl
theorem bslice64 (w : World) (i : Int) (R : Option Addr) (m c : Nat) :
    (Instr.buildSlice 64 1 #[(0, .agg #[.int .i64 i, .slice R m c])]).run Try.prog w = .ok (.slice (some ⟨w.heap.size, 0, none⟩) 1 1) (w.alloc (.cells #[.int .i64 i, .slice R m c] 79)) := by kernel_rfl
theorem load64 {w : World} {b o : Nat} {v : Value} (h : w.cell? ⟨b, o, none⟩ = some v) : (Instr.loadAt 64 (.pointer (some ⟨b, o, none⟩))).run Try.prog w = .ok v w := by
  have hagg : (isAgg 64).run Try.prog w = .ok false w := by unfold isAgg; rw [Sem.run_bind, run_underlying Try.underlying64 w]; rfl
  simp [Instr.loadAt, Instr.sureAddr, loadVar, hagg, h]
theorem Try.info79 : (Try.prog.info? 79).map (fun i => (i.zero, i.size, i.bytes)) = some (some (.agg #[.int .i64 0, .slice none 0 0]), 2, 32) := by kernel_rfl

/-- One write more. -/
theorem RDat.push {w4 w5 : World} {F : Nat → Prop} {p n : Nat} {sv wv : Value} {svs : List Value} {ws : List (Nat × Value)} {D : DSt} (h : RDat w4 F p n sv wv svs ws D) (B : Nat) (hB : ∀ b, XR p sv wv b → b < B) (v' vb : Value) (i : Nat) (hi : i < n) (xs : List UInt8)
    (hown : w5.ownsRow 0 79 2 v' (D.Q.length + 1) (ws.flatMap wcells ++ [.int .i64 (i : Int), vb])) (k5 : Keeps (fun b => wv.ownBlock = some b) w4 w5) (hblk : v'.ownBlock = wv.ownBlock ∨ v'.ownBlock = some w4.heap.size) (sb : SL w4 (fun b => B ≤ b) vb xs) (hBw : B ≤ w4.heap.size) :
    RDat (w5.setCell ⟨p, 1, none⟩ v') (fun b => F b ∨ B ≤ b) p n sv v' svs (ws ++ [(i, vb)]) { D with Q := D.Q ++ [(i, xs)] } ∧ Keeps F w4 (w5.setCell ⟨p, 1, none⟩ v') := by
  have ap := h.apart
  have hp5 : w5.heap[p]? = some (rhead sv wv D) := (k5.block _ h.plt ap.2.1).trans h.head
  have hvp : v'.ownBlock ≠ some p := fun e => by
    rcases hblk with e1 | e1
    · rw [e1] at e; exact ap.2.1 e
    · rw [e1] at e
      simp only [Option.some.injEq] at e
      have := h.plt
      omega
  have k6 : Keeps (· = p) w5 (w5.setCell ⟨p, 1, none⟩ v') := Keeps.setCell _ _ _ _ rfl
  have hl : xs.length = 64 := by obtain ⟨_, _, _, hl, _⟩ := sb; exact hl
  have hold : ∀ {v : Value} {ys : List UInt8}, SL w4 (PF F p sv wv) v ys → SL (w5.setCell ⟨p, 1, none⟩ v') (PF (fun b => F b ∨ B ≤ b) p sv v') v ys := fun s => by
    have s1 : SL w4 (PF (fun b => F b ∨ B ≤ b) p sv v') _ _ := s.mono fun b hb hp => ⟨Or.inl hp.1, fun hx => by
      rcases hx with e | e | e
      · exact hp.2 (Or.inl e)
      · exact hp.2 (Or.inr (Or.inl e))
      · rcases hblk with e1 | e1
        · rw [e1] at e; exact hp.2 (Or.inr (Or.inr e))
        · rw [e1] at e
          simp only [Option.some.injEq] at e
          omega⟩
    obtain ⟨ad, c, e, hl', hb, hp, hc⟩ := s
    have s2 := SL.keep (P := fun b => b = ad.block) ⟨ad, c, e, hl', hb, rfl, hc⟩ k5 fun b _ e1 e2 => hp.2 (Or.inr (Or.inr (by rw [← e1]; exact e2)))
    have s3 := s2.keep k6 fun b _ e1 e2 => hp.2 (Or.inl (by rw [← e1]; exact e2))
    obtain ⟨ad1, c1, e1, _, _, hp1, _⟩ := s1
    rw [e] at e1
    cases e1
    exact s3.mono fun b _ e2 => by rw [e2]; exact hp1
  refine ⟨⟨⟨h.ok.len, h.ok.n_le, fun q hq => ?_, h.ok.lo, h.ok.hi⟩, ?_, ?_, ?_, fun j hj => ?_, by simp [h.wl], fun j q hq => ?_, Or.inl h.fp, fun g e => Or.inl (h.fs g e), fun g e => ?_⟩, ?_⟩
  · rcases List.mem_append.1 hq with hq | hq
    · exact h.ok.q q hq
    · simp only [List.mem_singleton] at hq
      subst hq
      exact ⟨hi, hl⟩
  · rw [heap_setCell_same w5 p 1 _ _ _ hp5]; rfl
  · exact ownsRow_keepS h.own fun b e => (k6.block b (Nat.lt_of_lt_of_le (h.slt e) k5.size) (fun eb => ap.1 (by rw [← eb]; exact e))).trans (k5.block b (h.slt e) (ap.2.2 b e))
  · show World.ownsRow _ _ _ _ _ (D.Q ++ [(i, xs)]).length ((ws ++ [(i, vb)]).flatMap wcells)
    rw [List.length_append, List.flatMap_append]
    refine ownsRow_keepS ?_ fun b e => k6.block b (World.ownsRow.lt hown b e).2 (fun eb => hvp (by rw [← eb]; exact e))
    simpa [wcells] using hown
  · obtain ⟨v, e, s⟩ := h.secs j hj
    exact ⟨v, e, hold s⟩
  · have hq' : (D.Q ++ [(i, xs)])[j]? = some q := hq
    by_cases hj : j < D.Q.length
    · rw [List.getElem?_append_left hj] at hq'
      obtain ⟨v, e, s⟩ := h.wts j q hq'
      exact ⟨v, by rw [List.getElem?_append_left (by rw [h.wl]; exact hj)]; exact e, hold s⟩
    · have hj' : j = D.Q.length := by
        have := (List.getElem?_eq_some_iff.1 hq').1
        simp at this
        omega
      subst hj'
      rw [List.getElem?_append_right (Nat.le_refl _)] at hq'
      simp at hq'
      subst hq'
      refine ⟨vb, by rw [List.getElem?_append_right (by rw [h.wl]; exact Nat.le_refl _), h.wl]; simp, ?_⟩
      obtain ⟨ad, c, e, hl', hb, hp, hc⟩ := sb
      have s2 := SL.keep (P := fun b => b = ad.block) ⟨ad, c, e, hl', hb, rfl, hc⟩ k5 fun b _ e1 e2 => by have := hB b (Or.inr (Or.inr e2)); omega
      have s3 := s2.keep k6 fun b _ e1 e2 => by have := hB b (Or.inl e2); omega
      refine s3.mono fun b _ e2 => ⟨Or.inr (by rw [e2]; exact hp), fun hx => ?_⟩
      rcases hx with e3 | e3 | e3
      · have := hB b (Or.inl e3); omega
      · have := hB b (Or.inr (Or.inl e3)); omega
      · rcases hblk with e1 | e1
        · rw [e1] at e3; have := hB b (Or.inr (Or.inr e3)); omega
        · rw [e1] at e3
          simp only [Option.some.injEq] at e3
          omega
  · rcases hblk with e1 | e1
    · rw [e1] at e; exact Or.inl (h.fw g e)
    · rw [e1] at e
      simp only [Option.some.injEq] at e
      subst e
      exact Or.inr hBw
  · exact (k5.mono fun b _ e => h.fw b e).trans (k6.mono fun b _ e => by rw [e]; exact h.fp)

def RWrote (w : World) (F : Nat → Prop) (p : Nat) (D : DSt) (err : Int) (e : Ending) (w' : World) : Prop := e = .returned (.int .i64 err) ∧ RD w' (Gr F w) p D ∧ Keeps F w w'
theorem rwrote_same {w : World} {F : Nat → Prop} {p : Nat} {D : DSt} {err : Int} (h : RD w F p D) : RWrote w F p D err (.returned (.int .i64 err)) w := ⟨rfl, h.mono fun _ _ h => Or.inl h, Keeps.refl _ _⟩

set_option maxHeartbeats 2000000 in
theorem rwrite_ok {w : World} {F : Nat → Prop} {p n : Nat} {sv wv : Value} {svs : List Value} {ws : List (Nat × Value)} {D : DSt} (h : RDat w F p n sv wv svs ws D) (k : Nat) (hk : k < n) (A : Option Addr) (xs : List UInt8) (c : Nat) (hx : BR w w.heap.size A xs) (hA : ∀ ad, A = some ad → xs ≠ [] → ¬ F ad.block) (hl : xs.length = 64)
    (hd : D.down = false) (hleft : D.left ≠ 0) (hQ : D.Q.length < 1954687338212) (ha : D.acts ≤ 1000000000000000) :
    Calls Try.prog 27 #[.pointer (some ⟨p, 0, none⟩), .int .i64 (k : Int), .slice A 64 c] w (RWrote w F p { D.spent with Q := D.Q ++ [(k, xs)] } 0) := by
  obtain ⟨_, _, _, d3, _⟩ := h.c
  rw [hd] at d3
  have he : D.actErr = 0 := by unfold DSt.actErr; rw [if_neg hleft]
  have hsQ := DSt.spent_Q D
  have ract := ract_any h ha
  rw [he] at ract
  have hk' : (k : Int) < (n : Int) := by omega
  have HR := Lib.hid ract
  have HL := Lib.hid hl
  have HSQ := Lib.hid hsQ
  clear ract he hd hleft ha hsQ
  go_enter Try.func27, Try.ntmps27
  go_wp2_with fail
  refine (rhas_yes h (k : Int) (by omega) hk').mono ?_
  rintro e w' ⟨rfl, rfl⟩
  go_wp2_with fail
  refine HR.out.mono ?_
  rintro e w1 ⟨rfl, h1, k1⟩
  have hx1 : BR w1 w1.heap.size A xs := k1.br hx fun ad e hn eb => hA ad e hn (by rw [eb]; exact h.fp)
  clear HR d3
  go_wp2_with fail
  refine wp_region_any (by kernel_rfl) ?_
  change wpAny _ _ _ _ _ _ _ (World.drew w1)
  have kd : Keeps (fun _ => False) w1 w1.drew := Keeps.drew _ _
  have h2 := h1.same kd
  have hx2 : BR w1.drew w1.drew.heap.size A xs := hx1
  have k2 : Keeps (· = p) w w1.drew := k1.trans (kd.mono fun _ _ h => h.elim)
  clear h1 hx1 k1 kd
  generalize w1.drew = w2 at *
  have hsz : w.heap.size ≤ w2.heap.size := k2.size
  obtain ⟨_, d1, _⟩ := h2.c
  obtain ⟨R3, c3, w3, hap, own3, b3⟩ := run_append8 (P := Try.prog) w2 30 30 5 Try.info8 Try.underlying30 A xs c hx2 (by rw [HL.out]; omega)
  rw [HL.out] at hap
  have k3 := keeps_below b3
  have k4 : Keeps (fun _ => False) w3 (w3.alloc (.cells #[.int .i64 (k : Int), .slice R3 64 c3] 79)) := Keeps.alloc _ _ _
  have e3 := (h2.same k3).c.2.1
  have e4 := ((h2.same k3).same k4).c.2.1
  have l2 := load64 d1
  have l3 := load64 e3
  have l4 := load64 e4
  refine wpAny_take (oi := ⟨_, _, _, _, _, _⟩) (i := 0) (v := .pointer (some ⟨p, 0, none⟩)) rfl (by kernel_rfl) (by kernel_rfl) (by kernel_rfl) (fun _ _ _ h => h) (Or.inl ⟨by rfl, fun _ => rfl⟩) ?_
  refine wpAny_take (oi := ⟨_, _, _, _, _, _⟩) (i := 1) (v := .pointer (some ⟨p, 0, none⟩)) rfl (by kernel_rfl) (by kernel_rfl) (by kernel_rfl) (fun _ _ _ h => h) (Or.inl ⟨by rfl, fun _ => rfl⟩) ?_
  refine wpAny_take (oi := ⟨_, _, _, _, _, _⟩) (i := 2) (v := .pointer (some ⟨p, 0, none⟩)) rfl (by kernel_rfl) (by kernel_rfl) (by kernel_rfl) (fun _ _ _ h => h) (Or.inl ⟨by rfl, fun _ => rfl⟩) ?_
  refine wpAny_take (oi := ⟨_, _, _, _, _, _⟩) (i := 3) (v := .pointer (some ⟨p, 1, none⟩)) rfl (by kernel_rfl) (by kernel_rfl) (by kernel_rfl) (fun _ _ _ h => h) (Or.inl ⟨by rfl, fun w => by go_simp⟩) ?_
  refine wpAny_take (oi := ⟨_, _, _, _, _, _⟩) (i := 5) (v := .int .i64 (k : Int)) rfl (by kernel_rfl) (by kernel_rfl) (by kernel_rfl) (fun _ _ _ h => h) (Or.inl ⟨by rfl, fun _ => rfl⟩) ?_
  refine wpAny_take (oi := ⟨_, _, _, _, _, _⟩) (i := 6) (v := .slice A 64 c) rfl (by kernel_rfl) (by kernel_rfl) (by kernel_rfl) (fun _ _ _ h => h) (Or.inl ⟨by rfl, fun _ => rfl⟩) ?_
  simp only [Act.put, List.setIfInBounds_toArray, List.set_cons_zero, List.set_cons_succ]
  refine Both.go (oi := ⟨_, _, _, _, _, _⟩) (i := 4) (v := wv) rfl ?_
  refine Both.step rfl 7 ⟨_, _, _, _, _, _⟩ rfl (by kernel_rfl) (yields_load rfl 64 (.tmp 29) rfl _ _ rfl l2) _ (op_run rfl rfl (ex_append (.const (.slice none 0 0)) (.tmp 32) 30 rfl _ _ _ rfl rfl hap)) ?_
  rintro u1 w3 ⟨rfl, rfl⟩
  simp only [Act.put, List.setIfInBounds_toArray, List.set_cons_zero, List.set_cons_succ]
  refine Both.step rfl 8 ⟨_, _, _, _, _, _⟩ rfl (by kernel_rfl) (yields_load rfl 64 (.tmp 29) rfl _ _ rfl l3) _ (op_run rfl rfl (ex_build2 79 (.tmp 31) (.tmp 33) rfl _ _ _ rfl rfl (build79 _ _ _ _ _))) ?_
  rintro u2 w3 ⟨rfl, rfl⟩
  simp only [Act.put, List.setIfInBounds_toArray, List.set_cons_zero, List.set_cons_succ]
  refine Both.step rfl 9 ⟨_, _, _, _, _, _⟩ rfl (by kernel_rfl) (yields_load rfl 64 (.tmp 29) rfl _ _ rfl l3) _ (op_run rfl rfl (ex_buildSlice 64 (.tmp 34) rfl _ _ rfl (bslice64 _ _ _ _ _))) ?_
  rintro u3 w4' ⟨rfl, rfl⟩
  simp only [Act.put, List.setIfInBounds_toArray, List.set_cons_zero, List.set_cons_succ]
  refine Both.done rfl (by kernel_rfl) (yields_load rfl 64 (.tmp 29) rfl _ _ rfl l4) ?_
  refine wpAny_of_chain [10, 11, 12, 13] [_, _, _, _] _ _ _ rfl (by kernel_rfl) ?_
  clear l2 l3 l4 e3 e4 d1 hap
  simp only [Act.put, List.setIfInBounds_toArray, List.set_cons_zero, List.set_cons_succ]
  have hB : ∀ b, XR p sv wv b → b < w.heap.size := fun b e => h.xlt e
  have sb : SL (w3.alloc (.cells #[.int .i64 (k : Int), .slice R3 64 c3] 79)) (fun b => w.heap.size ≤ b) (.slice R3 64 c3) xs := by
    have b0 := own3.br
    obtain ⟨g, e, hg, _⟩ := own3.at_ (k := 0) (by rw [HL.out]; omega)
    refine SL.keep (SL.of HL.out b0 fun ad e' => ?_) k4 fun _ _ _ h => h
    rw [e] at e'
    cases e'
    show w.heap.size ≤ g
    omega
  have h4 := (h2.same k3).same k4
  have cell4 : (w3.alloc (.cells #[.int .i64 (k : Int), .slice R3 64 c3] 79)).heap[w3.heap.size]? = some (.cells #[.int .i64 (k : Int), .slice R3 64 c3] 79) := heap_alloc_new _ _
  have hs4 : w.heap.size ≤ (w3.alloc (.cells #[.int .i64 (k : Int), .slice R3 64 c3] 79)).heap.size := by have := k3.size; simp; omega
  have kw4 := (k2.trans (k3.mono fun _ _ h => h.elim)).trans (k4.mono fun _ _ h => h.elim)
  obtain ⟨i0, hi, hz0, hz1, hz2⟩ := info_parts Try.info79
  obtain ⟨v', w5, hrun, hown, hg, _, hblk⟩ := run_append_own_at (P := Try.prog) (w3.alloc (.cells #[.int .i64 (k : Int), .slice R3 64 c3] 79)) 0 64 64 79 i0 _ 2 32 Try.underlying64 hi hz0 hz1 hz2 rfl (by decide) wv D.spent.Q.length _ h4.que ⟨w3.heap.size, 0, none⟩ 1 1 [.int .i64 (k : Int), .slice R3 64 c3] rfl (fun j u hu => by
    rw [Addr.add_mid, cell_of_row _ _ _ _ _ _ cell4]
    simpa using hu) (by intro u hu; simp at hu; rcases hu with rfl | rfl <;> rfl) (by rw [HSQ.out]; unfold maxLen; omega) (by rw [HSQ.out]; omega) (Nat.zero_le _)
  have k5 : Keeps (fun b => wv.ownBlock = some b) (w3.alloc (.cells #[.int .i64 (k : Int), .slice R3 64 c3] 79)) w5 := Keeps.grown _ hg fun _ e => e
  obtain ⟨hfin, kfin⟩ := h4.push w.heap.size hB v' (.slice R3 64 c3) k hk xs hown k5 hblk sb hs4
  have ap := h4.apart
  have hp5 := (k5.block _ h4.plt ap.2.1).trans h4.head
  have d5 : w5.cell? ⟨p, 1, none⟩ = some wv := by rw [cell_of_row _ _ _ _ _ _ hp5]; rfl
  have z5 := frozen_of_row w5 p 1 _ _ hp5
  have hv : ∃ A' cap', v' = .slice A' (D.spent.Q.length + 1) cap' := by
    rcases hown.2 with ⟨_, hn⟩ | ⟨_, cap, _, e, _⟩
    · omega
    · exact ⟨_, cap, e⟩
  have HFIN := Lib.hid hfin
  have HKF := Lib.hid ((kw4.mono fun b _ e => by rw [e]; exact h.fp).trans kfin)
  refine wpList_append_run rfl _ _ _ rfl v' hrun ?_
  obtain ⟨A', cap', rfl⟩ := hv
  clear hrun hown hg hblk k5 hfin kfin ap hp5 cell4 hs4 kw4 sb h4 own3 b3 k3 k4 h2 hx2 k2 h hx hA hB hi hz0 hz1 hz2
  go_wp2_with fail
  go_ret
  refine ⟨rfl, ?_, HKF.out⟩
  have hf := HFIN.out
  rw [HSQ.out] at hf
  rw [HSQ.out]
  exact ⟨n, sv, _, svs, _, hf⟩
theorem rwrite_any {w : World} {F : Nat → Prop} {p : Nat} {D : DSt} (h : RD w F p D) (i : Int) (A : Option Addr) (xs : List UInt8) (c : Nat) (hx : BR w w.heap.size A xs) (hA : ∀ ad, A = some ad → xs ≠ [] → ¬ F ad.block) (hQ : D.Q.length < 1954687338212) (ha : D.acts ≤ 1000000000000000) :
    Calls Try.prog 27 #[.pointer (some ⟨p, 0, none⟩), .int .i64 i, .slice A xs.length c] w (RWrote w F p (D.write i xs) (D.writeErr i xs)) := by
  have h0 := h
  obtain ⟨n, sv, wv, svs, ws, h⟩ := h
  have hn := h.ok.n_eq
  obtain ⟨_, _, _, d3, _⟩ := h.c
  cases hd : D.down with
  | true =>
    have e1 : D.write i xs = D := by unfold DSt.write; rw [if_pos hd]
    have e2 : D.writeErr i xs = 20 := by unfold DSt.writeErr; rw [if_pos hd]
    rw [e1, e2]
    rw [hd] at d3
    have HS := Lib.hid (rwrote_same (err := 20) h0)
    clear e1 e2 h hn hd h0 hA hx
    go_enter Try.func27, Try.ntmps27
    go_wp2_with fail
    go_ret
    exact HS.out
  | false =>
    rw [hd] at d3
    by_cases hf : D.fits i xs
    · obtain ⟨f0, f1, f2⟩ := hf
      have hf : D.fits i xs := ⟨f0, f1, f2⟩
      rw [hn] at f1
      obtain ⟨k, rfl⟩ := Int.eq_ofNat_of_zero_le f0
      by_cases hl : D.left = 0
      · have e1 : D.write (k : Int) xs = D.spent := by unfold DSt.write; rw [if_neg (by rw [hd]; simp), if_pos hf, if_pos hl]
        have e2 : D.writeErr (k : Int) xs = 20 := by unfold DSt.writeErr DSt.actErr; rw [if_neg (by rw [hd]; simp), if_pos hf, if_pos hl]
        have he : D.actErr = 20 := by unfold DSt.actErr; rw [if_pos hl]
        have ract := ract_any h ha
        rw [he] at ract
        have HR := Lib.hid ract
        have HW : Hid (∀ w', RDat w' F p n sv wv svs ws D.spent → Keeps (· = p) w w' → RWrote w F p D.spent 20 (.returned (.int .i64 20)) w') := fun w' h1 k1 => ⟨rfl, ⟨n, sv, wv, svs, ws, h1.mono fun _ _ h => Or.inl h⟩, k1.mono fun b _ e => by rw [e]; exact h.fp⟩
        have HS := fun (w : World) => rhas_yes h (k : Int) (by omega) f1
        have hk1 : (k : Int) < (n : Int) := f1
        rw [e1, e2, f2]
        have HH := Lib.hid (rhas_yes h (k : Int) (by omega) f1)
        clear e1 e2 he ract hf hn hl hd f2 HS h h0 hA hx
        go_enter Try.func27, Try.ntmps27
        go_wp2_with fail
        refine HH.out.mono ?_
        rintro e w' ⟨rfl, rfl⟩
        go_wp2_with fail
        refine HR.out.mono ?_
        rintro e w1 ⟨rfl, h1, k1⟩
        have HX := Lib.hid (HW.out w1 h1 k1)
        clear h1 k1 HR HH
        go_wp2_with fail
        go_ret
        exact HX.out
      · have e1 : D.write (k : Int) xs = { D.spent with Q := D.Q ++ [(k, xs)] } := by unfold DSt.write; rw [if_neg (by rw [hd]; simp), if_pos hf, if_neg hl]; rfl
        have e2 : D.writeErr (k : Int) xs = 0 := by unfold DSt.writeErr DSt.actErr; rw [if_neg (by rw [hd]; simp), if_pos hf, if_neg hl]
        rw [e1, e2, f2]
        exact rwrite_ok h k (by omega) A xs c hx hA f2 hd hl hQ ha
    · have e1 : D.write i xs = D := by unfold DSt.write; rw [if_neg (by rw [hd]; simp), if_neg hf]
      have e2 : D.writeErr i xs = 1 := by unfold DSt.writeErr; rw [if_neg (by rw [hd]; simp), if_neg hf]
      rw [e1, e2]
      have HS := Lib.hid (rwrote_same (err := 1) h0)
      by_cases hi : 0 ≤ i ∧ i < n
      · have hl : ¬ xs.length = 64 := fun e => hf ⟨hi.1, by rw [hn]; exact hi.2, e⟩
        have HH := Lib.hid (rhas_yes h i hi.1 hi.2)
        generalize xs.length = m at *
        have hl' : ((m : Int) != 64) = true := by simp; omega
        clear e1 e2 hf hn h h0 hA hx hl hd hi
        go_enter Try.func27, Try.ntmps27
        go_wp2_with fail
        refine HH.out.mono ?_
        rintro e w' ⟨rfl, rfl⟩
        go_wp2_with fail
        go_ret
        exact HS.out
      · have HH := Lib.hid (rhas_no h i (by omega))
        clear e1 e2 hf hn h h0 hA hx hd hi
        go_enter Try.func27, Try.ntmps27
        go_wp2_with fail
        refine HH.out.mono ?_
        rintro e w' ⟨rfl, rfl⟩
        go_wp2_with fail
        go_ret
        exact HS.out
end Go.Proofs.Ythbdhmjmboliiaa
