/-
  ShLays
-/
import Derived.Test.YtebecpjecchfoaaGreatDoorGShP
import Derived.Test.YtebecpjecchfoaaGreatDoorGShA
import Derived.Test.YtebecpjecchfoaaGreatDoorGSp
namespace Go.Proofs.YtebecpjecchfoaaGreatDoor
open Go.RowKit

/-- Cost's counter: a number in a cell. -/
def CntI (cb : Nat) (F : Nat → Prop) (s : Nat) (W : World) : Prop := (∀ k, F k ↔ k = cb) ∧ W.heap[cb]? = some (.cells #[.int .i64 (s : Int)] 3 (0, 0))

set_option maxRecDepth 100000 in
set_option maxHeartbeats 400000 in
theorem count_any (cb s : Nat) (hs : s ≤ 1000000) (A : Option Addr) (c : Nat) (W : World) (h : W.heap[cb]? = some (.cells #[.int .i64 (s : Int)] 3 (0, 0))) :
    Calls Tryz.prog 204 #[.slice A 64 c, .pointer (some ⟨cb, 0, none⟩)] W fun e w' => e = .returned (.int .i64 2) ∧ w' = W.setCell ⟨cb, 0, none⟩ (.int .i64 ((s + 1 : Nat) : Int)) := by
  have c0 : W.cell? ⟨cb, 0, none⟩ = some (.int .i64 (s : Int)) := by rw [cell_of_row _ _ _ _ _ _ h]; rfl
  have z0 := frozen_of_row W cb 0 _ _ h
  have e1 : ((s : Int) + 1) = ((s + 1 : Nat) : Int) := by omega
  clear h e1
  go_enter Tryz.func204, Tryz.ntmps204
  go_wp2_with fail
  go_ret
  exact ⟨rfl, by simp⟩

def layC (cb : Nat) : Lay Nat (fun A c W Q => Calls Tryz.prog 204 #[.slice A 64 c, .pointer (some ⟨cb, 0, none⟩)] W Q) where
  I := CntI cb
  nxt := fun s _ => (2, s + 1)
  rem := fun s r => s + r ≤ 1000000
  keep := fun {F G s W W'} h k hd => ⟨h.1, (k.block cb (Array.getElem?_eq_some_iff.1 h.2).1 (hd cb (Array.getElem?_eq_some_iff.1 h.2).1 ((h.1 cb).2 rfl))).trans h.2⟩
  lt := fun {F s W} h k hk => by
    obtain rfl := (h.1 k).1 hk
    exact (Array.getElem?_eq_some_iff.1 h.2).1
  down := fun {s r} xs _ h => by omega
  val := fun {s r} xs _ => by omega
  run := fun {F s r W A xs c} h hr _ _ _ => by
    refine (count_any cb s (by omega) A c W h.2).mono ?_
    rintro e w' ⟨rfl, rfl⟩
    refine ⟨rfl, ⟨F, ⟨h.1, ?_⟩, fun k hk => .inl hk⟩, Keeps.setCell _ _ _ _ ((h.1 cb).2 rfl)⟩
    rw [heap_setCell_same W cb 0 _ _ _ h.2]
    rfl

/-! ### Build's closure -/
/-- The disk and the map. -/
structure BSt where
  D : DSt
  cs : List Nat
  K : Nat
structure BldI (dp mp bm bd lo hi : Nat) (z0 : Option Obj) (F : Nat → Prop) (s : BSt) (W : World) : Prop where
  ex : ∃ (Fd : Nat → Prop), Dk W Fd dp s.D ∧ Sp.MapS W lo hi mp s.cs ∧ Sp.Tab W ∧ W.heap[0]? = z0 ∧ hi ≤ W.heap.size ∧ 0 < lo ∧ bm ≠ 0 ∧ bd ≠ 0 ∧
    W.heap[bm]? = some (.cells #[.pointer (some ⟨mp, 0, none⟩)] 129 (0, 0)) ∧ W.heap[bd]? = some (.cells #[.pointer (some ⟨dp, 0, none⟩)] 29 (0, 0)) ∧
    (∀ k, F k ↔ (Fd k ∧ k < W.heap.size) ∨ (lo ≤ k ∧ k < hi) ∨ k = bm ∨ k = bd ∨ k = 0) ∧ (∀ k, Fd k → k < W.heap.size → ¬ (lo ≤ k ∧ k < hi) ∧ k ≠ bm ∧ k ≠ bd ∧ k ≠ 0) ∧ ¬ (lo ≤ bm ∧ bm < hi) ∧ ¬ (lo ≤ bd ∧ bd < hi)
def bnxt (s : BSt) (xs : List UInt8) : Nat × BSt := (Sp.takeN s.cs, ⟨{ s.D.spent with Q := s.D.Q ++ [(Sp.takeN s.cs, xs)] }, Sp.takeC s.cs, s.K + 1⟩)
structure BRem (s : BSt) (r : Nat) : Prop where
  room : r ≤ Sp.nfree s.cs
  up : s.D.down = false
  left : s.D.left < 0
  len : s.cs.length ≤ s.D.n
  que : s.D.Q.length + r ≤ 1000000
  acts : s.D.acts + r ≤ 1000000
  held : Sp.Upto s.K s.cs
  K : s.K + r ≤ 1000000000
  small : s.cs.length ≤ 2000
theorem BRem.free {s : BSt} {r : Nat} (h : BRem s (r + 1)) : Sp.nfree s.cs ≠ 0 := by have := h.room; omega
theorem BRem.lo {s : BSt} {r : Nat} (h : BRem s (r + 1)) : Sp.takeN s.cs = Sp.lo s.cs ∧ 2 ≤ Sp.lo s.cs ∧ Sp.lo s.cs < s.cs.length ∧ s.cs.getD (Sp.lo s.cs) 0 = 0 := by
  have h1 := Sp.fr_iff.1 (Sp.lo_spec h.free).1
  exact ⟨if_neg h.free, h1⟩
theorem take_free {cs : List Nat} (h : Sp.nfree cs ≠ 0) : Sp.nfree (Sp.takeC cs) + 1 = Sp.nfree cs := by
  have h1 := Sp.fr_iff.1 (Sp.lo_spec h).1
  unfold Sp.takeC
  rw [if_neg h]
  unfold Sp.nfree
  rw [List.length_set]
  have key : ∀ n, n ≤ cs.length → Sp.cnt (Sp.fr (cs.set (Sp.lo cs) 1)) n + (if Sp.lo cs < n then 1 else 0) = Sp.cnt (Sp.fr cs) n := by
    intro n
    induction n with
    | zero => intro _; simp [Sp.cnt]
    | succ n ih =>
      intro hn
      have ih := ih (by omega)
      rw [Sp.cnt_succ, Sp.cnt_succ]
      by_cases e : n = Sp.lo cs
      · rw [if_neg (show ¬ Sp.lo cs < n by omega)] at ih
        rw [if_pos (show Sp.lo cs < n + 1 by omega)]
        have e1 : Sp.fr (cs.set (Sp.lo cs) 1) n = false := by rw [e, Sp.fr_set h1.1 h1.2.1]; rfl
        have e2 : Sp.fr cs n = true := by rw [e]; exact (Sp.lo_spec h).1
        rw [e1, e2]
        simp
        omega
      · rw [Sp.fr_set_ne e]
        by_cases hl : Sp.lo cs < n
        · rw [if_pos hl] at ih
          rw [if_pos (show Sp.lo cs < n + 1 by omega)]
          omega
        · rw [if_neg hl] at ih
          rw [if_neg (show ¬ Sp.lo cs < n + 1 by omega)]
          omega
  have := key cs.length (Nat.le_refl _)
  rw [if_pos h1.2.1] at this
  exact this
theorem BRem.next {s : BSt} {r : Nat} (h : BRem s (r + 1)) (xs : List UInt8) : BRem (bnxt s xs).2 r := by
  have h1 := take_free h.free
  have h2 := h.room
  have hn : s.D.left ≠ 0 := by have := h.left; omega
  refine ⟨by show r ≤ Sp.nfree (Sp.takeC s.cs); omega, ?_, ?_, ?_, ?_, ?_, h.held.take, by have := h.K; show s.K + 1 + r ≤ _; omega, by show (Sp.takeC s.cs).length ≤ 2000; rw [Sp.len_take]; exact h.small⟩
  · show s.D.spent.down = false
    unfold DSt.spent; rw [if_neg hn]; exact h.up
  · show s.D.spent.left < 0
    unfold DSt.spent; rw [if_neg hn]
    have := h.left
    show (if 0 < s.D.left then s.D.left - 1 else s.D.left) < 0
    rw [if_neg (by omega)]; exact this
  · show (Sp.takeC s.cs).length ≤ s.D.spent.L.length / 64
    rw [Sp.len_take, DSt.spent_L]; exact h.len
  · show (s.D.Q ++ [(Sp.takeN s.cs, xs)]).length + r ≤ 1000000
    rw [List.length_append]
    have := h.que
    simp; omega
  · show s.D.spent.acts + r ≤ 1000000
    unfold DSt.spent; rw [if_neg hn]
    have := h.acts
    show s.D.acts + 1 + r ≤ 1000000
    omega

set_option maxRecDepth 100000 in
set_option maxHeartbeats 1000000 in
theorem put_any (dp mp bm bd lo hi : Nat) (z0 : Option Obj) {F : Nat → Prop} {s : BSt} {r : Nat} {W : World} {A : Option Addr} {xs : List UInt8} {c : Nat} (h : BldI dp mp bm bd lo hi z0 F s W) (hr : BRem s (r + 1)) (hl : xs.length = 64) (hx : BR W W.heap.size A xs) (hA : ∀ ad, A = some ad → ¬ F ad.block) :
    Calls Tryz.prog 180 #[.slice A 64 c, .pointer (some ⟨bm, 0, none⟩), .pointer (some ⟨bd, 0, none⟩)] W (Laid (BldI dp mp bm bd lo hi z0) F (bnxt s xs).1 (bnxt s xs).2 W) := by
  obtain ⟨Fd, hD, hM, hT, hz0, hhi, hlo0, hbm0, hbd0, hbm, hbd, hF, hFd, hnm, hnd⟩ := h
  obtain ⟨hn1, hn2, hn3, _⟩ := hr.lo
  have hK := hr.K
  have hfree := hr.free
  have hE := Lib.hid (show Sp.takeE s.cs = 0 from if_neg hfree)
  have htk := Sp.take_s hM hT hr.held (by omega)
  have hlen := hr.len
  have hk : Sp.takeN s.cs < s.D.n := by rw [hn1]; omega
  have hQ : s.D.Q.length < 1954687338212 := by have := hr.que; omega
  have hac : s.D.acts ≤ 1000000000000000 := by have := hr.acts; omega
  have hleft : s.D.left ≠ 0 := by have := hr.left; omega
  have hup := hr.up
  have hbmlt : bm < W.heap.size := (Array.getElem?_eq_some_iff.1 hbm).1
  have hbdlt : bd < W.heap.size := (Array.getElem?_eq_some_iff.1 hbd).1
  have c1 : W.cell? ⟨bm, 0, none⟩ = some (.pointer (some ⟨mp, 0, none⟩)) := by rw [cell_of_row _ _ _ _ _ _ hbm]; rfl
  have hpos := hT.pos
  clear hn2 hn3 hlen hK
  clear hn1
  generalize hm : Sp.takeN s.cs = m at *
  have HM := Lib.hid hm
  clear hm
  generalize hP : Laid (BldI dp mp bm bd lo hi z0) F (bnxt s xs).1 (bnxt s xs).2 W = PP at *
  have HP := Lib.hid hP
  clear hP
  go_enter Tryz.func180, Tryz.ntmps180
  go_wp2_with fail
  refine htk.mono ?_
  rintro e w1 ⟨rfl, hM1, k1⟩
  rw [hE.out]
  have s1 := k1.size
  have hT1 := hT.keeps k1 (by omega)
  have hbm1 := (k1.block bm hbmlt hnm).trans hbm
  have hbd1 := (k1.block bd hbdlt hnd).trans hbd
  have hD1 : Dk w1 (fun k => Fd k ∧ k < W.heap.size) dp s.D := (hD.mono (fun k hk hf => ⟨hf, hk⟩)).keep k1 (fun b hb hf hg => (hFd b hf.1 hb).1 hg)
  have hAF : ∀ ad, A = some ad → xs ≠ [] → ¬ (lo ≤ ad.block ∧ ad.block < hi) := fun ad e _ hh => hA ad e ((hF _).2 (.inr (.inl hh)))
  have hx1 := k1.br hx hAF
  have hA1 : ∀ ad, A = some ad → ¬ (Fd ad.block ∧ ad.block < W.heap.size) := fun ad e hh => hA ad e ((hF _).2 (.inl hh))
  have c2 : w1.cell? ⟨bd, 0, none⟩ = some (.pointer (some ⟨dp, 0, none⟩)) := by rw [cell_of_row _ _ _ _ _ _ hbd1]; rfl
  have hwr := write_ok hD1 m hk A xs c hx1 hA1 hl hup hleft hQ hac
  rw [hl] at hwr
  clear htk hx c1
  go_wp2_with fail
  refine (demand_ok _).mono ?_
  rintro e w' ⟨rfl, rfl⟩
  go_wp2_with fail
  refine hwr.mono ?_
  rintro e w2 ⟨rfl, hD2, k2⟩
  clear hwr
  go_wp2_with fail
  refine (demand_ok _).mono ?_
  rintro e w' ⟨rfl, rfl⟩
  go_wp2_with fail
  rw [← HP.out]
  have s2 := k2.size
  have hn : ∀ k, (Fd k ∧ k < W.heap.size) → ¬ (lo ≤ k ∧ k < hi) ∧ k ≠ bm ∧ k ≠ bd ∧ k ≠ 0 := fun k hk => hFd k hk.1 hk.2
  have hM2 : Sp.MapS w2 lo hi mp (Sp.takeC s.cs) := hM1.keep k2 (fun i h1 h2 hh => (hn i hh).1 ⟨h1, h2⟩)
  have hT2 := hT1.keeps k2 (fun hh => (hn 0 hh).2.2.2 rfl)
  have hbm2 := (k2.block bm (by omega) (fun hh => (hn bm hh).2.1 rfl)).trans hbm1
  have hbd2 := (k2.block bd (by omega) (fun hh => (hn bd hh).2.2.1 rfl)).trans hbd1
  have hG : ∀ k, Gr (fun k => Fd k ∧ k < W.heap.size) w1 k → k < w2.heap.size → ¬ (lo ≤ k ∧ k < hi) ∧ k ≠ bm ∧ k ≠ bd ∧ k ≠ 0 := by
    intro k hk hk2
    rcases hk with hk | hk
    · exact hn k hk
    · exact ⟨by omega, by omega, by omega, by omega⟩
  refine ⟨by rw [← HM.out]; rfl, ⟨fun k => (Gr (fun k => Fd k ∧ k < W.heap.size) w1 k ∧ k < w2.heap.size) ∨ (lo ≤ k ∧ k < hi) ∨ k = bm ∨ k = bd ∨ k = 0, ⟨⟨_, ?_, ?_, hT2, (k2.block 0 (by omega) (fun hh => (hn 0 hh).2.2.2 rfl)).trans ((k1.block 0 hpos (by omega)).trans hz0), by omega, hlo0, hbm0, hbd0, hbm2, hbd2, fun k => Iff.rfl, hG, hnm, hnd⟩⟩, ?_⟩, ?_⟩
  · have := HM.out; subst this; exact hD2
  · exact hM2
  · rintro k (⟨hk | hk, hk2⟩ | hk)
    · exact .inl ((hF k).2 (.inl hk))
    · exact .inr (by omega)
    · exact .inl ((hF k).2 (.inr hk))
  · exact (k1.mono (fun k _ hk => (hF k).2 (.inr (.inl hk)))).trans (k2.mono (fun k _ hk => (hF k).2 (.inl hk)))

def layB (dp mp bm bd lo hi : Nat) (z0 : Option Obj) : Lay BSt (fun A c W Q => Calls Tryz.prog 180 #[.slice A 64 c, .pointer (some ⟨bm, 0, none⟩), .pointer (some ⟨bd, 0, none⟩)] W Q) where
  I := BldI dp mp bm bd lo hi z0
  nxt := bnxt
  rem := BRem
  keep := fun {F G s W W'} h k hd => by
    obtain ⟨Fd, hD, hM, hT, hz0, hhi, hlo0, hbm0, hbd0, hbm, hbd, hF, hFd, hnm, hnd⟩ := h
    have hbmlt : bm < W.heap.size := (Array.getElem?_eq_some_iff.1 hbm).1
    have hbdlt : bd < W.heap.size := (Array.getElem?_eq_some_iff.1 hbd).1
    have hpos := hT.pos
    have ks := k.size
    refine ⟨fun k => Fd k ∧ k < W.heap.size, (hD.mono (fun k hk hf => ⟨hf, hk⟩)).keep k (fun b hb hf hg => hd b hb ((hF b).2 (.inl hf)) hg), hM.keep k (fun i h1 h2 hg => hd i (by omega) ((hF i).2 (.inr (.inl ⟨h1, h2⟩))) hg),
      hT.keeps k (hd 0 hpos ((hF 0).2 (by simp))), (k.block 0 hpos (hd 0 hpos ((hF 0).2 (by simp)))).trans hz0, by omega, hlo0, hbm0, hbd0, (k.block bm hbmlt (hd bm hbmlt ((hF bm).2 (by simp)))).trans hbm, (k.block bd hbdlt (hd bd hbdlt ((hF bd).2 (by simp)))).trans hbd, fun b => ?_, fun b hb _ => hFd b hb.1 hb.2, hnm, hnd⟩
    rw [hF b]
    constructor
    · rintro (h | h)
      · exact .inl ⟨h, by omega⟩
      · exact .inr h
    · rintro (h | h)
      · exact .inl h.1
      · exact .inr h
  lt := fun {F s W} h b hb => by
    obtain ⟨Fd, hD, hM, hT, hz0, hhi, hlo0, hbm0, hbd0, hbm, hbd, hF, hFd, hnm, hnd⟩ := h
    have hbmlt : bm < W.heap.size := (Array.getElem?_eq_some_iff.1 hbm).1
    have hbdlt : bd < W.heap.size := (Array.getElem?_eq_some_iff.1 hbd).1
    have hpos := hT.pos
    rcases (hF b).1 hb with h | h | h | h | h
    · exact h.2
    · omega
    · omega
    · omega
    · omega
  down := fun {s r} xs _ h => h.next xs
  val := fun {s r} xs h => by
    obtain ⟨h1, h2, h3, _⟩ := h.lo
    have := h.small
    show 2 ≤ Sp.takeN s.cs ∧ Sp.takeN s.cs ≤ 65535
    omega
  run := fun {F s r W A xs c} h hr hl hx hA => put_any dp mp bm bd lo hi z0 h hr hl hx hA
end Go.Proofs.YtebecpjecchfoaaGreatDoor
