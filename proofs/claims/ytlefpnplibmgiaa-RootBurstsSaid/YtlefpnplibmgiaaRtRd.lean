/-
  The contracts of root.demand, of the reader's num, gen and short, of root.snaps and root.noughts.
-/
import Derived.Test.YtlefpnplibmgiaaRtRefDec
namespace Go.Proofs.Ytlefpnplibmgiaa
open Go.RowKit

/-- What demand throws. -/
def thrown : Ending := .panicked [{ v := .iface 28 (.int .i64 30), recovered := false }]

set_option maxHeartbeats 400000 in
theorem demand_yes (w : World) : Calls Try.prog 38 #[.bool true] w fun e w' => e = .returned (.tuple #[]) ∧ w = w' := by
  go_enter Try.func38, Try.ntmps38
  go_wp2
  go_end0
  exact ⟨rfl, rfl⟩
set_option maxHeartbeats 400000 in
theorem demand_no (w : World) : Calls Try.prog 38 #[.bool false] w fun e w' => e = thrown ∧ w = w' := by
  go_enter Try.func38, Try.ntmps38
  go_wp2
  exact ⟨rfl, rfl, rfl⟩

/-- The reader at block gr: 64 bytes, a place. -/
structure Rd (w : World) (gr : Nat) (A : Option Addr) (c : Nat) (xs : List UInt8) (a : Nat) : Prop where
  blk : w.heap[gr]? = some (.cells #[.slice A 64 c, .int .i64 (a : Int)] 67 (0, 0))
  br : BR w w.heap.size A xs
  len : xs.length = 64
  apart : ∀ ad, A = some ad → ad.block ≠ gr
theorem Rd.lt {w : World} {gr : Nat} {A : Option Addr} {c : Nat} {xs : List UInt8} {a : Nat} (h : Rd w gr A c xs a) : gr < w.heap.size := (Array.getElem?_eq_some_iff.1 h.blk).1
theorem Rd.below {w w' : World} {gr : Nat} {A : Option Addr} {c : Nat} {xs : List UInt8} {a : Nat} (h : Rd w gr A c xs a) (hb : Below w.heap.size w w') : Rd w' gr A c xs a :=
  ⟨(hb.block _ h.lt).trans h.blk, (h.br.below hb).more hb.size, h.len, h.apart⟩
theorem Rd.keeps {w w' : World} {F : Nat → Prop} {gr : Nat} {A : Option Addr} {c : Nat} {xs : List UInt8} {a : Nat} (h : Rd w gr A c xs a) (k : Keeps F w w') (h1 : ¬ F gr) (h2 : ∀ ad, A = some ad → xs ≠ [] → ¬ F ad.block) : Rd w' gr A c xs a :=
  ⟨(k.block _ h.lt h1).trans h.blk, k.br h.br h2, h.len, h.apart⟩
theorem Rd.set {w : World} {gr : Nat} {A : Option Addr} {c : Nat} {xs : List UInt8} {a : Nat} (h : Rd w gr A c xs a) (x : Int) (a' : Nat) (hx : x = (a' : Int)) (n : Nat) : Rd ((w.drewN n).setCell ⟨gr, 1, none⟩ (.int .i64 x)) gr A c xs a' ∧ Keeps (· = gr) w ((w.drewN n).setCell ⟨gr, 1, none⟩ (.int .i64 x)) := by
  subst hx
  have k1 : Keeps (· = gr) w ((w.drewN n).setCell ⟨gr, 1, none⟩ (.int .i64 (a' : Int))) := Keeps.trans (b := w.drewN n) ⟨rfl, rfl, rfl, Nat.le_refl _, fun _ _ _ => rfl⟩ (Keeps.setCell _ _ _ _ rfl)
  refine ⟨⟨?_, k1.br h.br fun ad e _ => h.apart ad e, h.len, h.apart⟩, k1⟩
  have e : (w.drewN n).heap[gr]? = some (.cells #[.slice A 64 c, .int .i64 (a : Int)] 67 (0, 0)) := h.blk
  rw [heap_setCell_same _ _ _ _ _ _ e]; rfl

def RdOut (w : World) (gr : Nat) (A : Option Addr) (c : Nat) (xs : List UInt8) (a : Nat) (v : Value) (e : Ending) (w' : World) : Prop :=
  e = .returned v ∧ Rd w' gr A c xs a ∧ Keeps (· = gr) w w'

theorem leNum64 (A : Option Addr) (xs : List UInt8) (c : Nat) (a s : Int) (k q : Nat) (w : World) (hx : BR w w.heap.size A xs) (h64 : xs.length = 64) (ha : 0 ≤ a) (hk : (clamp s 8).toNat = k) (hq : num xs a k = q) :
    Calls Try.prog 45 #[.slice A 64 c, .int .i64 a, .int .i64 s] w fun e w' => e = .returned (.int .u64 (q : Int)) ∧ w' = w := by
  subst hq hk
  have h := leNum_any A xs c a s w hx (by omega) (by omega)
  rw [h64] at h
  exact h.mono fun _ _ ⟨he, hw⟩ => ⟨he, hw.symm⟩

set_option maxHeartbeats 400000 in
theorem rdNum (w : World) (gr : Nat) (A : Option Addr) (c : Nat) (xs : List UInt8) (a s k q : Nat) (h : Rd w gr A c xs a) (ha : a ≤ 1000) (hs : s ≤ 8) (hk : (clamp (s : Int) 8).toNat = k) (hq : num xs (a : Int) k = q) :
    Calls Try.prog 39 #[.pointer (some ⟨gr, 0, none⟩), .int .i64 (s : Int)] w (RdOut w gr A c xs (a + s) (.int .u64 (q : Int))) := by
  have c0 : w.cell? ⟨gr, 0, none⟩ = some (.slice A 64 c) := by rw [cell_of_row _ _ _ _ _ _ h.blk]; rfl
  have c1 : w.cell? ⟨gr, 1, none⟩ = some (.int .i64 (a : Int)) := by rw [cell_of_row _ _ _ _ _ _ h.blk]; rfl
  have z1 := frozen_of_row w gr 1 _ _ h.blk
  have HK := Lib.hid hk
  have HQ := Lib.hid hq
  clear hk hq
  go_enter Try.func39, Try.ntmps39
  go_wp2_with fail
  go_quiet ((go_at_call 45; exact Calls.quiet_of_same (leNum64 _ _ _ _ _ k q _ h.br h.len (by omega) HK.out HQ.out)))
  go_wp2_with fail
  go_ret
  obtain ⟨r1, r2⟩ := h.set (a + s) (a + s) (by simp) ‹Nat›
  exact ⟨rfl, r1, r2⟩
set_option maxHeartbeats 400000 in
theorem rdGen (w : World) (gr : Nat) (A : Option Addr) (c : Nat) (xs : List UInt8) (a q : Nat) (h : Rd w gr A c xs a) (ha : a ≤ 1000) (hq : num xs (a : Int) 8 = q) :
    Calls Try.prog 40 #[.pointer (some ⟨gr, 0, none⟩)] w (RdOut w gr A c xs (a + 8) (.int .u64 (q : Int))) := by
  have HQ := Lib.hid hq
  clear hq
  go_enter Try.func40, Try.ntmps40
  go_wp2_with fail
  refine (rdNum w gr A c xs a 8 8 q h ha (by decide) rfl HQ.out).mono ?_
  rintro e w1 ⟨rfl, r1, k1⟩
  go_wp2_with fail
  go_ret
  exact ⟨rfl, r1, k1⟩
set_option maxHeartbeats 400000 in
theorem rdShort (w : World) (gr : Nat) (A : Option Addr) (c : Nat) (xs : List UInt8) (a q : Nat) (h : Rd w gr A c xs a) (ha : a ≤ 1000) (hq : num xs (a : Int) 2 = q) :
    Calls Try.prog 42 #[.pointer (some ⟨gr, 0, none⟩)] w (RdOut w gr A c xs (a + 2) (.int .i64 (q : Int))) := by
  have hl : q < 65536 := by rw [← hq]; exact num_lt xs a 2
  have HQ := Lib.hid hq
  clear hq
  go_enter Try.func42, Try.ntmps42
  go_wp2_with fail
  refine (rdNum w gr A c xs a 2 2 q h ha (by decide) rfl HQ.out).mono ?_
  rintro e w1 ⟨rfl, r1, k1⟩
  go_wp2_with fail
  go_ret
  exact ⟨rfl, r1, k1⟩

/-- The method values. -/
abbrev fnGen (gr : Nat) : Value := .func (.func 40) #[.pointer (some ⟨gr, 0, none⟩)] #[]
abbrev fnShort (gr : Nat) : Value := .func (.func 42) #[.pointer (some ⟨gr, 0, none⟩)] #[]

/-! ### the row of checkpoints -/
def zcells (n : Nat) : Array Value := ((List.replicate n sn0).flatMap snCells).toArray
theorem make23 (n : Nat) (hn : n ≤ 4) (w : World) : (Instr.makeSlice 23 (.int .i64 (n : Int)) (.int .i64 (n : Int))).run Try.prog w = .ok (.slice (some ⟨w.heap.size, 0, none⟩) n n) (w.alloc (.cells (zcells n) 50)) := by
  have h0 : (Instr.makeSlice 23 (.int .i64 0) (.int .i64 0)).run Try.prog w = .ok (.slice (some ⟨w.heap.size, 0, none⟩) 0 0) (w.alloc (.cells (zcells 0) 50)) := by kernel_rfl
  have h1 : (Instr.makeSlice 23 (.int .i64 1) (.int .i64 1)).run Try.prog w = .ok (.slice (some ⟨w.heap.size, 0, none⟩) 1 1) (w.alloc (.cells (zcells 1) 50)) := by kernel_rfl
  have h2 : (Instr.makeSlice 23 (.int .i64 2) (.int .i64 2)).run Try.prog w = .ok (.slice (some ⟨w.heap.size, 0, none⟩) 2 2) (w.alloc (.cells (zcells 2) 50)) := by kernel_rfl
  have h3 : (Instr.makeSlice 23 (.int .i64 3) (.int .i64 3)).run Try.prog w = .ok (.slice (some ⟨w.heap.size, 0, none⟩) 3 3) (w.alloc (.cells (zcells 3) 50)) := by kernel_rfl
  have h4 : (Instr.makeSlice 23 (.int .i64 4) (.int .i64 4)).run Try.prog w = .ok (.slice (some ⟨w.heap.size, 0, none⟩) 4 4) (w.alloc (.cells (zcells 4) 50)) := by kernel_rfl
  have : n = 0 ∨ n = 1 ∨ n = 2 ∨ n = 3 ∨ n = 4 := by omega
  rcases this with rfl | rfl | rfl | rfl | rfl
  · exact h0
  · exact h1
  · exact h2
  · exact h3
  · exact h4
theorem zcells_size (n : Nat) : (zcells n).size = n * 2 := by
  unfold zcells
  simp [snCells]
/-- The first k read, noughts behind. -/
def fillS (b : List UInt8) (n k : Nat) : List Sn := rdL b k ++ List.replicate (n - k) sn0
theorem fillS_len (b : List UInt8) (n k : Nat) (h : k ≤ n) : (fillS b n k).length = n := by simp [fillS, rdL_len]; omega
theorem fillS_step (b : List UInt8) (n k : Nat) (h : k < n) : (fillS b n k).set k (rdSn b k) = fillS b n (k + 1) := by
  unfold fillS
  rw [List.set_append_right _ _ (by rw [rdL_len]; exact Nat.le_refl _), rdL_len, Nat.sub_self, rdL_succ, show n - k = (n - (k + 1)) + 1 from by omega, List.replicate_succ, List.set_cons_zero, List.append_assoc]
  rfl
theorem fillS_all (b : List UInt8) (n : Nat) : fillS b n n = rdL b n := by simp [fillS]
theorem flatS_set (l : List Sn) : ∀ (k : Nat) (s : Sn), k < l.length → ((l.flatMap snCells).set (k * 2) (.int .u64 (s.g : Int))).set (k * 2 + 1) (.int .i64 s.t) = (l.set k s).flatMap snCells := by
  induction l with
  | nil => intro k s h; simp at h
  | cons x r ih =>
    intro k s h
    cases k with
    | zero => rfl
    | succ k =>
      have := ih k s (by simpa using h)
      rw [List.set_cons_succ, List.flatMap_cons, List.flatMap_cons, ← this]
      rw [show (k + 1) * 2 = k * 2 + 2 from by omega, show k * 2 + 2 + 1 = (k * 2 + 1) + 2 from by omega]
      rfl
theorem OwnS.put {w : World} {B g n cap : Nat} {l : List Sn} (h : OwnS w B (some ⟨g, 0, none⟩) cap l) (k : Nat) (s : Sn) (hn : n = l.length) :
    (w.setCell ⟨g, k * 2, none⟩ (.int .u64 (s.g : Int))).ownsRow B 50 2 (.slice (some ⟨g, 0, none⟩) n cap) n ((l.flatMap snCells).set (k * 2) (.int .u64 (s.g : Int))) := by
  subst hn
  exact (World.ownsRow.stored h (k * 2) _).1
theorem OwnS.put2 {w : World} {B g n cap : Nat} {l : List Sn} (k : Nat) (s : Sn) (hk : k < l.length) (hn : n = l.length) (h : w.ownsRow B 50 2 (.slice (some ⟨g, 0, none⟩) n cap) n ((l.flatMap snCells).set (k * 2) (.int .u64 (s.g : Int)))) :
    OwnS (w.setCell ⟨g, k * 2 + 1, none⟩ (.int .i64 s.t)) B (some ⟨g, 0, none⟩) cap (l.set k s) := by
  subst hn
  unfold OwnS
  rw [List.length_set, ← flatS_set l k s hk]
  exact (World.ownsRow.stored h (k * 2 + 1) _).1

theorem spotS {w : World} {B g n cap : Nat} {vs : List Value} (h : w.ownsRow B 50 2 (.slice (some ⟨g, 0, none⟩) n cap) n vs) (j : Nat) (hj : j < n * 2) : (∃ v, w.cell? ⟨g, j, none⟩ = some v) ∧ w.frozen? ⟨g, j, none⟩ = false := by
  refine ⟨?_, World.ownsRow.frozenAt h j⟩
  rw [World.ownsRow.cellAt h j hj, List.getElem?_eq_getElem (by rw [h.1]; exact hj)]
  exact ⟨_, rfl⟩
theorem rowS_keeps {w w' : World} {F : Nat → Prop} {B g n cap : Nat} {vs : List Value} (h : w.ownsRow B 50 2 (.slice (some ⟨g, 0, none⟩) n cap) n vs) (k : Keeps F w w') (hg : ¬ F g) : w'.ownsRow B 50 2 (.slice (some ⟨g, 0, none⟩) n cap) n vs := by
  obtain ⟨h0, h1⟩ := h
  refine ⟨h0, ?_⟩
  rcases h1 with hn | ⟨g', cap', cur, hv, hb, hgg, rest⟩
  · exact .inl hn
  · have hv' := hv
    simp only [Value.slice.injEq, Option.some.injEq, Addr.mk.injEq, and_true, true_and] at hv'
    obtain ⟨rfl, _⟩ := hv'
    exact .inr ⟨g, cap', cur, hv, hb, (k.block _ (Array.getElem?_eq_some_iff.1 hgg).1 hg).trans hgg, rest⟩

def SnapsOut (w : World) (gr : Nat) (A : Option Addr) (c : Nat) (xs : List UInt8) (n : Nat) (e : Ending) (w' : World) : Prop :=
  ∃ g, e = .returned (.slice (some ⟨g, 0, none⟩) n n) ∧ w.heap.size ≤ g ∧ OwnS w' w.heap.size (some ⟨g, 0, none⟩) n (rdL xs n) ∧ Rd w' gr A c xs (14 + 10 * n) ∧ Keeps (· = gr) w w'

set_option maxHeartbeats 400000 in
theorem snaps_no (w : World) (n : Nat) (f g : Value) (hn : 4 < n) (hn' : n < 65536) :
    Calls Try.prog 41 #[.int .i64 (n : Int), f, g] w fun e w' => e = thrown ∧ w = w' := by
  have h : decide ((n : Int) ≤ 4) = false := by simp; omega
  go_enter Try.func41, Try.ntmps41
  go_wp2_with fail
  refine (demand_no _).mono ?_
  rintro e w' ⟨rfl, rfl⟩
  exact ⟨rfl, rfl, rfl⟩

set_option maxHeartbeats 800000 in
theorem snaps_yes (w : World) (gr : Nat) (A : Option Addr) (c : Nat) (xs : List UInt8) (n : Nat) (h : Rd w gr A c xs 14) (hn : n ≤ 4) :
    Calls Try.prog 41 #[.int .i64 (n : Int), fnGen gr, fnShort gr] w (SnapsOut w gr A c xs n) := by
  have hd : decide ((n : Int) ≤ 4) = true := by simp; omega
  have hmk := make23 n hn
  go_enter Try.func41, Try.ntmps41
  go_wp2_with fail
  refine (demand_yes _).mono ?_
  rintro e w' ⟨rfl, rfl⟩
  go_wp2_with fail
  clear hmk hd
  have h1 := h.below ((Below.refl _ _).alloc (Nat.le_refl _) (.cells (zcells n) 50))
  have o1 : OwnS (w.alloc (.cells (zcells n) 50)) w.heap.size (some ⟨w.heap.size, 0, none⟩) n (fillS xs n 0) := by
    have := World.ownsRow_lit (e := 50) (base := w.heap.size) (size := 2) w (zcells n) n (Nat.le_refl _) (by unfold maxLen; omega) (zcells_size n)
    unfold OwnS
    rw [fillS_len _ _ _ (by omega)]
    exact this
  have k1 : Keeps (fun k => k = gr ∨ k = w.heap.size) w (w.alloc (.cells (zcells n) 50)) := Keeps.alloc _ _ _
  have hgr := h.lt
  have hs1 : w.heap.size < (w.alloc (.cells (zcells n) 50)).heap.size := by simp
  have hapart : ∀ ad, A = some ad → xs ≠ [] → ad.block < w.heap.size := fun ad e hne => by
    obtain ⟨ad', e', hb, _⟩ := h.br hne
    rw [e] at e'; cases e'; exact hb
  have HAP := Lib.hid hapart
  clear h hapart
  go_loopw [16, 8, 18] (fun i _ _ wr => ∃ k : Nat, k ≤ n ∧ i = .int .i64 k ∧ Rd wr gr A c xs (14 + 10 * k) ∧ OwnS wr w.heap.size (some ⟨w.heap.size, 0, none⟩) n (fillS xs n k) ∧ Keeps (fun k => k = gr ∨ k = w.heap.size) w wr ∧ w.heap.size < wr.heap.size) (fun i _ _ _ => n - (intOf i).toNat)
  case atStart => exact ⟨0, by omega, rfl, h1, o1, k1, hs1⟩
  case round =>
    clear h1 o1 k1 hs1
    obtain ⟨k, hk, rfl, h1, o1, k1, hs1⟩ := hrel
    by_cases hlt : k < n
    · go_wp2_with fail
      generalize hq1 : num xs ((14 + 10 * k : Nat) : Int) 8 = q1
      refine (rdGen _ gr A c xs (14 + 10 * k) q1 h1 (by omega) hq1).mono ?_
      rintro e w2 ⟨rfl, h2, kk2⟩
      have hfl := fillS_len xs n k (by omega)
      have o2 := rowS_keeps o1 kk2 (by omega)
      rw [hfl] at o2
      have k2 := k1.trans (kk2.mono (G := fun k => k = gr ∨ k = w.heap.size) fun k _ e => .inl e)
      have hs2 := Nat.lt_of_lt_of_le hs1 kk2.size
      obtain ⟨⟨v0, d0⟩, f0⟩ := spotS o2 (k * 2) (by omega)
      have HFL := Lib.hid hfl
      clear h1 o1 k1 kk2 hs1 hfl
      go_wp2_with fail
      clear d0 f0
      generalize hq2 : num xs ((14 + 10 * k + 8 : Nat) : Int) 2 = q2
      have kk3 : Keeps (· = w.heap.size) w2 (w2.setCell ⟨w.heap.size, k * 2, none⟩ (.int .u64 (q1 : Int))) := Keeps.setCell _ _ _ _ rfl
      have h3 := h2.keeps kk3 (by omega) (fun ad e hne => Nat.ne_of_lt (HAP.out ad e hne))
      have o3 := (World.ownsRow.stored o2 (k * 2) (.int .u64 (q1 : Int))).1
      have k3 := k2.trans (kk3.mono (G := fun k => k = gr ∨ k = w.heap.size) fun k _ e => .inr e)
      have hs3 := Nat.lt_of_lt_of_le hs2 kk3.size
      clear h2 o2 k2 kk3 hs2
      generalize w2.setCell ⟨w.heap.size, k * 2, none⟩ (.int .u64 (q1 : Int)) = w3 at *
      refine (rdShort _ gr A c xs (14 + 10 * k + 8) q2 h3 (by omega) hq2).mono ?_
      rintro e w4 ⟨rfl, h4, kk4⟩
      have o4 := rowS_keeps o3 kk4 (by omega)
      have k4 := k3.trans (kk4.mono (G := fun k => k = gr ∨ k = w.heap.size) fun k _ e => .inl e)
      have hs4 := Nat.lt_of_lt_of_le hs3 kk4.size
      obtain ⟨⟨v1, d1⟩, f1⟩ := spotS o4 (k * 2 + 1) (by omega)
      have HQ1 := Lib.hid hq1
      have HQ2 := Lib.hid hq2
      clear h3 o3 k3 kk4 hs3 hq1 hq2
      go_wp2_with fail
      have kk5 : Keeps (· = w.heap.size) w4 (w4.setCell ⟨w.heap.size, k * 2 + 1, none⟩ (.int .i64 (q2 : Int))) := Keeps.setCell _ _ _ _ rfl
      have h5 := h4.keeps kk5 (by omega) (fun ad e hne => Nat.ne_of_lt (HAP.out ad e hne))
      have k5 := k4.trans (kk5.mono (G := fun k => k = gr ∨ k = w.heap.size) fun k _ e => .inr e)
      have hs5 := Nat.lt_of_lt_of_le hs4 kk5.size
      have o5 : OwnS (w4.setCell ⟨w.heap.size, k * 2 + 1, none⟩ (.int .i64 (q2 : Int))) w.heap.size (some ⟨w.heap.size, 0, none⟩) n (fillS xs n (k + 1)) := by
        rw [← fillS_step xs n k hlt]
        have e : rdSn xs k = ⟨q1, (q2 : Int)⟩ := by
          unfold rdSn
          rw [← HQ1.out, ← HQ2.out, show ((14 + 10 * k : Nat) : Int) = 14 + 10 * (k : Int) from by omega, show ((14 + 10 * k + 8 : Nat) : Int) = 22 + 10 * (k : Int) from by omega]
        rw [e]
        exact OwnS.put2 (n := n) k ⟨q1, (q2 : Int)⟩ (by rw [HFL.out]; exact hlt) HFL.out.symm o4
      clear d1 f1 h4 o4 k4 kk5 hs4
      go_roundw
      case rel => exact ⟨k + 1, by omega, by go_num, h5, o5, k5, hs5⟩
      case measure => simp [intOf]; omega
    · obtain rfl : k = n := by omega
      rw [fillS_all] at o1
      go_wp2_with fail
      go_ret
      exact ⟨w.heap.size, rfl, Nat.le_refl _, o1, h1, ⟨k1.os, k1.tape, k1.output, k1.size, fun b hb hne => k1.block b hb (by omega)⟩⟩

/-! ### noughts -/
def NoughtsOut (w : World) (gr : Nat) (A : Option Addr) (c : Nat) (xs : List UInt8) (n : Nat) (e : Ending) (w' : World) : Prop :=
  Keeps (· = gr) w w' ∧ ((zerosB xs n = true ∧ e = .returned (.tuple #[]) ∧ Rd w' gr A c xs 60) ∨ (zerosB xs n = false ∧ e = thrown))
theorem zerosB_no (xs : List UInt8) (n j : Nat) (hj : j < 23 - 5 * n) (h : num xs (14 + 10 * n + 2 * j) 2 ≠ 0) : zerosB xs n = false := by
  unfold zerosB
  rw [decide_eq_false_iff_not]
  intro h2
  exact h (h2 j hj)
theorem zerosB_yes (xs : List UInt8) (n j : Nat) (hj : 23 - 5 * n ≤ j) (h : ∀ i, i < j → num xs (14 + 10 * n + 2 * i) 2 = 0) : zerosB xs n = true := by
  unfold zerosB
  rw [decide_eq_true_eq]
  intro i hi
  exact h i (by omega)
/-- What the loop of noughts has seen. -/
def SeenTo (xs : List UInt8) (n j p : Nat) : Prop := p = 14 + 10 * n + 2 * j ∧ ∀ i, i < j → num xs (14 + 10 * n + 2 * i) 2 = 0
set_option maxHeartbeats 800000 in
theorem noughts_any (w : World) (gr : Nat) (A : Option Addr) (c : Nat) (xs : List UInt8) (n a : Nat) (h : Rd w gr A c xs a) (hn : n ≤ 4) (ha : a = 14 + 10 * n) :
    Calls Try.prog 43 #[.int .i64 (a : Int), fnShort gr] w (NoughtsOut w gr A c xs n) := by
  have HA := Lib.hid ha
  have ha1 : a ≤ 54 := by omega
  clear ha
  go_enter Try.func43, Try.ntmps43
  go_wp2_with fail
  go_loopw [4] (fun i wr => ∃ j p : Nat, p ≤ 60 ∧ i = .int .i64 (p : Int) ∧ SeenTo xs n j p ∧ Rd wr gr A c xs p ∧ Keeps (· = gr) w wr) (fun i _ => 60 - (intOf i).toNat)
  case atStart => exact ⟨0, a, by omega, rfl, ⟨by have := HA.out; omega, fun i hi => absurd hi (Nat.not_lt_zero i)⟩, h, Keeps.refl _ _⟩
  case round =>
    clear h
    obtain ⟨j, p, hp, rfl, hz, h, kp⟩ := hrel
    have HZ := Lib.hid hz
    clear hz
    by_cases hlt : p < 60
    · go_wp2_with fail
      generalize hq : num xs (p : Int) 2 = q
      have HQ := Lib.hid hq
      refine (rdShort _ gr A c xs p q h (by omega) hq).mono ?_
      rintro e w2 ⟨rfl, h2, k2⟩
      have kp2 := kp.trans k2
      clear h kp k2 hq
      have hN : ((14 + 10 * n + 2 * j : Nat) : Int) = 14 + 10 * (n : Int) + 2 * (j : Int) := by omega
      have HN := Lib.hid hN
      clear hN
      by_cases h0 : q = 0
      · subst h0
        go_wp2_with fail
        refine (demand_yes _).mono ?_
        rintro e w' ⟨rfl, rfl⟩
        go_wp2_with fail
        go_roundw
        case rel =>
          refine ⟨j + 1, p + 2, by have := HZ.out.1; omega, by go_num, ⟨by have := HZ.out.1; omega, fun i hi => ?_⟩, h2, kp2⟩
          by_cases e : i = j
          · subst e
            have h := HQ.out
            rw [HZ.out.1, HN.out] at h
            exact h
          · exact HZ.out.2 i (by omega)
        case measure => simp [intOf]; omega
      · have hb : ((q : Int) == 0) = false := by simpa using h0
        have H0 := Lib.hid h0
        clear h0
        go_wp2_with fail
        refine (demand_no _).mono ?_
        rintro e w' ⟨rfl, rfl⟩
        refine ⟨rfl, kp2, .inr ⟨zerosB_no xs n j (by have := HZ.out.1; omega) ?_, rfl⟩⟩
        have h := HQ.out
        rw [HZ.out.1, HN.out] at h
        rw [h]
        exact H0.out
    · obtain rfl : p = 60 := by omega
      go_wp2_with fail
      go_end0
      exact ⟨kp, .inl ⟨zerosB_yes xs n j (by have := HZ.out.1; omega) HZ.out.2, rfl, h⟩⟩
end Go.Proofs.Ytlefpnplibmgiaa
