/-
  Merged by wip/tools/merge.py: RtRefDec RtRd RtRec RtDec RtSame RtCh
-/
import Derived.Test.YtebecpjecchfoaaGreatDoorGRtA
import Derived.Test.YtebecpjecchfoaaGreatDoorGA
import Derived.Test.YtebecpjecchfoaaGreatDoorGT
import Derived.Test.YtebecpjecchfoaaGreatDoorSame
import Derived.Maps.AppendAt
import Derived.Recover
import Derived.Laws.StructEq
namespace Go.Proofs.YtebecpjecchfoaaGreatDoor
open Go.RowKit

def snCells (s : Sn) : List Value := [.int .u64 (s.g : Int), .int .i64 s.t]
/-- The checkpoints in a row of the call's own. -/
def OwnS (w : World) (B : Nat) (R : Option Addr) (cap : Nat) (l : List Sn) : Prop := w.ownsRow B 117 2 (.slice R l.length cap) l.length (l.flatMap snCells)
theorem flatS_at (l : List Sn) : ∀ (k : Nat) (s : Sn), l[k]? = some s → (l.flatMap snCells)[k * 2]? = some (.int .u64 (s.g : Int)) ∧ (l.flatMap snCells)[k * 2 + 1]? = some (.int .i64 s.t) := by
  induction l with
  | nil => intro k s h; simp at h
  | cons x r ih =>
    intro k s h
    cases k with
    | zero => simp at h; subst h; exact ⟨rfl, rfl⟩
    | succ k =>
      rw [List.flatMap_cons]
      have := ih k s (by simpa using h)
      have hl : (snCells x).length = 2 := rfl
      rw [List.getElem?_append_right (by rw [hl]; omega), List.getElem?_append_right (by rw [hl]; omega), hl, show (k + 1) * 2 - 2 = k * 2 from by omega, show (k + 1) * 2 + 1 - 2 = k * 2 + 1 from by omega]
      exact this
theorem OwnS.sr {w : World} {B : Nat} {R : Option Addr} {cap : Nat} {l : List Sn} (h : OwnS w B R cap l) : SR w w.heap.size R l := by
  intro hn
  have h0 : 0 < l.length := List.length_pos_iff.2 hn
  obtain ⟨g, c, hv, hb, hlt⟩ := World.ownsRow.form h (by omega)
  injection hv with e1 _ e3
  subst e1
  refine ⟨_, rfl, hlt, fun k s hs => ?_⟩
  obtain ⟨f0, f1⟩ := flatS_at l k s hs
  have c0 := World.ownsRow.cells h (g := g) rfl _ _ f0
  have c1 := World.ownsRow.cells h (g := g) rfl _ _ f1
  have e0 : (⟨g, 0, none⟩ : Addr).add (k * 2) = ⟨g, k * 2, none⟩ := by unfold Addr.add; split <;> simp_all
  have e1 : (⟨g, 0, none⟩ : Addr).add (k * 2 + 1) = ⟨g, k * 2 + 1, none⟩ := by unfold Addr.add; split <;> simp_all
  refine ⟨c0, ?_⟩
  rw [e0]
  rw [e1] at c1
  exact c1
theorem Tryz.info50 : (Tryz.prog.info? 117).map (fun i => (i.zero, i.size, i.bytes)) = some (some (.agg #[.int .u64 0, .int .i64 0]), 2, 16) := by kernel_rfl
/-- One checkpoint more. -/
theorem OwnS.app {w : World} {B : Nat} {R : Option Addr} {cap : Nat} {l : List Sn} (h : OwnS w B R cap l) (hB : B ≤ w.heap.size) (hl : l.length ≤ 1000) (s : Sn) (ad : Addr) (c : Nat) (ty : TypeId)
    (h0 : w.cell? (ad.add 0) = some (.int .u64 (s.g : Int))) (h1 : w.cell? (ad.add 1) = some (.int .i64 s.t)) :
    ∃ R' cap' w', (Builtin.append_ #[48, 48] ty #[.slice R l.length cap, .slice (some ad) 1 c]).run Tryz.prog w = .ok (.slice R' (l.length + 1) cap') w' ∧ OwnS w' B R' cap' (l ++ [s]) ∧ w.grownBy w' (Value.ownBlock (.slice R l.length cap)) := by
  obtain ⟨i0, hi, hz0, hz1, hz2⟩ := info_parts Tryz.info50
  obtain ⟨v', w', hrun, hown, hg, _, _⟩ := run_append_own_at (P := Tryz.prog) w B 48 ty 117 i0 _ 2 16 Tryz.underlying48 hi hz0 hz1 hz2 rfl (by decide) _ l.length _ h ad 1 c (snCells s) rfl (fun j u hu => by
    match j, hu with
    | 0, hu => cases hu; exact h0
    | 1, hu => cases hu; exact h1
    | j + 2, hu => simp [snCells] at hu) (by intro u hu; simp [snCells] at hu; rcases hu with rfl | rfl <;> rfl) (by unfold maxLen; omega) (by omega) hB
  obtain ⟨g, cap', rfl, _, _⟩ := World.ownsRow.form hown (by omega)
  refine ⟨_, cap', w', hrun, ?_, hg⟩
  unfold OwnS
  rw [List.flatMap_append, List.length_append]
  exact hown
/-- What Decode hands back. -/
def decG (b : List UInt8) : Nat := if decB b = true then genOf b else 0
def decS (b : List UInt8) : List Sn := if decB b = true then rdL b (manyOf b) else []
def rdecE (b : List UInt8) : Int := if decB b = true then 0 else 30
def GivesDec (w : World) (b : List UInt8) (e : Ending) (w' : World) : Prop :=
  ∃ R c, e = .returned (.tuple #[agR (decG b) R (decS b).length c, .int .i64 (rdecE b)]) ∧ SR w' w'.heap.size R (decS b) ∧ Below w.heap.size w w' ∧ ∀ ad, R = some ad → w.heap.size ≤ ad.block
theorem givesDec_no {w w' : World} {b : List UInt8} (h : decB b = false) (hb : Below w.heap.size w w') : GivesDec w b (.returned (.tuple #[.agg #[.int .u64 0, .slice none 0 0], .int .i64 30])) w' := by
  have e1 : decG b = 0 := by simp [decG, h]
  have e2 : decS b = [] := by simp [decS, h]
  have e3 : rdecE b = 30 := by simp [rdecE, h]
  exact ⟨none, 0, by rw [e1, e2, e3]; rfl, by rw [e2]; exact SR.nil, hb, fun ad e => by cases e⟩
theorem givesDec_yes {w w' : World} {b : List UInt8} {R : Option Addr} {c n : Nat} (h : decB b = true) (hn : (rdL b (manyOf b)).length = n) (hs : SR w' w'.heap.size R (rdL b (manyOf b))) (hb : Below w.heap.size w w') (hR : ∀ ad, R = some ad → w.heap.size ≤ ad.block) : GivesDec w b (.returned (.tuple #[.agg #[.int .u64 (genOf b : Int), .slice R n c], .int .i64 0])) w' := by
  subst hn
  have e1 : decG b = genOf b := by simp [decG, h]
  have e2 : decS b = rdL b (manyOf b) := by simp [decS, h]
  have e3 : rdecE b = 0 := by simp [rdecE, h]
  exact ⟨R, c, by rw [e1, e2, e3], by rw [e2]; exact hs, hb, hR⟩
/-- What the loop of Decode keeps. -/
structure rt_DecInv (w wr : World) (g : Nat) (R : Option Addr) (cap : Nat) (l : List Sn) : Prop where
  res : wr.heap[w.heap.size]? = some (.cells #[.int .u64 0, .slice none 0 0] 138 (0, 0))
  var : wr.heap[w.heap.size + 1]? = some (.cells #[.int .u64 (g : Int), .slice R l.length cap] 138 (0, 0))
  own : OwnS wr (w.heap.size + 2) R cap l
  bel : Below w.heap.size w wr
theorem rt_DecInv.lt {w wr : World} {g : Nat} {R : Option Addr} {cap : Nat} {l : List Sn} (h : rt_DecInv w wr g R cap l) : w.heap.size + 1 < wr.heap.size := (Array.getElem?_eq_some_iff.1 h.var).1
theorem rt_DecInv.drew {w wr : World} {g : Nat} {R : Option Addr} {cap : Nat} {l : List Sn} (h : rt_DecInv w wr g R cap l) : rt_DecInv w wr.drew g R cap l :=
  ⟨h.res, h.var, h.own, ⟨h.bel.os, h.bel.tape, h.bel.output, h.bel.size, h.bel.block⟩⟩
/-- A checkpoint was laid into the row, and the row into the root. -/
theorem rt_DecInv.step {w wr w2 : World} {g : Nat} {R R' : Option Addr} {cap cap' n : Nat} {l : List Sn} {s : Sn} (h : rt_DecInv w wr g R cap l) (hg : wr.grownBy w2 (Value.ownBlock (.slice R l.length cap))) (ho : OwnS w2 (w.heap.size + 2) R' cap' (l ++ [s])) (hn : n = l.length + 1) :
    rt_DecInv w (w2.setCell ⟨w.heap.size + 1, 1, none⟩ (.slice R' n cap')) g R' cap' (l ++ [s]) := by
  subst hn
  have hlt := h.lt
  have apart : ∀ k, k ≤ w.heap.size + 1 → Value.ownBlock (.slice R l.length cap) ≠ some k := fun k hk e => by
    have := (World.ownsRow.lt h.own k e).1
    omega
  have b0 : ∀ k, k ≤ w.heap.size + 1 → w2.heap[k]? = wr.heap[k]? := fun k hk => hg.block k (by omega) fun e => apart k hk e.symm
  have hl : (l ++ [s]).length = l.length + 1 := by simp
  refine ⟨?_, ?_, ?_, ?_⟩
  · rw [Below.heap_setCell _ _ _ _ (by simp), b0 _ (by omega)]; exact h.res
  · rw [heap_setCell_same _ _ _ _ _ _ ((b0 _ (Nat.le_refl _)).trans h.var), hl]; rfl
  · refine World.ownsRow.kept (row := some (w.heap.size + 1)) ho ⟨rfl, rfl, rfl, by simp [World.setCell], fun i _ hi => Below.heap_setCell _ _ _ _ fun e => hi (by rw [e])⟩ ?_
    right
    intro e
    have := (World.ownsRow.lt ho _ e).1
    omega
  · refine h.bel.trans (Below.trans (b := w2) ⟨hg.os, hg.tape, hg.output, hg.size, fun k hk => b0 k (by omega)⟩ ⟨rfl, rfl, rfl, by simp [World.setCell], fun k hk => Below.heap_setCell _ _ _ _ (by simp; omega)⟩)
theorem rt_DecInv.alloc {w wr : World} {g : Nat} {R : Option Addr} {cap : Nat} {l : List Sn} (h : rt_DecInv w wr g R cap l) (o : Obj) : rt_DecInv w (wr.alloc o) g R cap l :=
  ⟨(Below.heap_alloc _ _ _ (by have := h.lt; omega)).trans h.res, (Below.heap_alloc _ _ _ h.lt).trans h.var, World.ownsRow.alloc h.own _, h.bel.alloc h.bel.size _⟩
theorem rt_DecInv.below {w wr w2 : World} {g : Nat} {R : Option Addr} {cap : Nat} {l : List Sn} (h : rt_DecInv w wr g R cap l) (hb : Below wr.heap.size wr w2) : rt_DecInv w w2 g R cap l :=
  ⟨(hb.block _ (by have := h.lt; omega)).trans h.res, (hb.block _ h.lt).trans h.var, World.ownsRow.kept (row := none) h.own ⟨hb.os, hb.tape, hb.output, hb.size, fun k hk _ => hb.block k hk⟩ (by
    cases e : Value.ownBlock (.slice R l.length cap) with
    | none => exact .inl rfl
    | some k => exact .inr (by simp)), h.bel.trans (hb.mono h.bel.size)⟩
theorem rt_DecInv.cells {w wr w2 : World} {g : Nat} {R : Option Addr} {cap : Nat} {l : List Sn} (h : rt_DecInv w wr g R cap l) (hg : wr.grownBy w2 (Value.ownBlock (.slice R l.length cap))) :
    w2.cell? ⟨w.heap.size + 1, 1, none⟩ = some (.slice R l.length cap) ∧ w2.frozen? ⟨w.heap.size + 1, 1, none⟩ = false := by
  have e : w2.heap[w.heap.size + 1]? = wr.heap[w.heap.size + 1]? := hg.block _ h.lt fun e => by
    have := (World.ownsRow.lt h.own _ e.symm).1
    omega
  have e2 := e.trans h.var
  exact ⟨by rw [cell_of_row _ _ _ _ _ _ e2]; rfl, frozen_of_row _ _ _ _ _ e2⟩
/-- The result laid. -/
theorem rt_DecInv.out {w wr : World} {g : Nat} {R : Option Addr} {cap : Nat} {l : List Sn} (h : rt_DecInv w wr g R cap l) (u v : Value) :
    SR ((wr.setCell ⟨w.heap.size, 0, none⟩ u).setCell ⟨w.heap.size, 1, none⟩ v) ((wr.setCell ⟨w.heap.size, 0, none⟩ u).setCell ⟨w.heap.size, 1, none⟩ v).heap.size R l ∧ Below w.heap.size w ((wr.setCell ⟨w.heap.size, 0, none⟩ u).setCell ⟨w.heap.size, 1, none⟩ v) := by
  have k1 : Keeps (fun k => k = w.heap.size) wr ((wr.setCell ⟨w.heap.size, 0, none⟩ u).setCell ⟨w.heap.size, 1, none⟩ v) := (Keeps.setCell (fun k => k = w.heap.size) _ _ _ rfl).trans (Keeps.setCell (fun k => k = w.heap.size) _ _ _ rfl)
  refine ⟨OwnS.sr (B := w.heap.size + 2) (cap := cap) (World.ownsRow.kept (row := some w.heap.size) h.own ⟨k1.os, k1.tape, k1.output, k1.size, fun k hk hn => k1.block k hk fun e => hn (by rw [e])⟩ ?_), h.bel.trans (k1.toBelow _ h.bel.size (fun k e => by omega))⟩
  right
  intro e
  have := (World.ownsRow.lt h.own _ e).1
  omega
theorem rdL_succ (b : List UInt8) (k : Nat) : rdL b (k + 1) = rdL b k ++ [rdSn b k] := by simp [rdL, List.range_succ]

end Go.Proofs.YtebecpjecchfoaaGreatDoor
namespace Go.Proofs.YtebecpjecchfoaaGreatDoor
open Go.RowKit

/-- What demand throws. -/
def thrown : Ending := .panicked [{ v := .iface 26 (.int .i64 30), recovered := false }]

set_option maxRecDepth 100000 in
set_option maxHeartbeats 400000 in
theorem demand_yes (w : World) : Calls Tryz.prog 209 #[.bool true] w fun e w' => e = .returned (.tuple #[]) ∧ w = w' := by
  go_enter Tryz.func209, Tryz.ntmps209
  go_wp2
  go_end0
  exact ⟨rfl, rfl⟩
set_option maxRecDepth 100000 in
set_option maxHeartbeats 400000 in
theorem demand_no (w : World) : Calls Tryz.prog 209 #[.bool false] w fun e w' => e = thrown ∧ w = w' := by
  go_enter Tryz.func209, Tryz.ntmps209
  go_wp2
  exact ⟨rfl, rfl, rfl⟩

/-- The reader at block gr: 64 bytes, a place. -/
structure Rd (w : World) (gr : Nat) (A : Option Addr) (c : Nat) (xs : List UInt8) (a : Nat) : Prop where
  blk : w.heap[gr]? = some (.cells #[.slice A 64 c, .int .i64 (a : Int)] 258 (0, 0))
  br : BR w w.heap.size A xs
  len : xs.length = 64
  apart : ∀ ad, A = some ad → ad.block ≠ gr
theorem Rd.lt {w : World} {gr : Nat} {A : Option Addr} {c : Nat} {xs : List UInt8} {a : Nat} (h : Rd w gr A c xs a) : gr < w.heap.size := (Array.getElem?_eq_some_iff.1 h.blk).1
theorem Rd.below {w w' : World} {gr : Nat} {A : Option Addr} {c : Nat} {xs : List UInt8} {a : Nat} (h : Rd w gr A c xs a) (hb : Below w.heap.size w w') : Rd w' gr A c xs a :=
  ⟨(hb.block _ h.lt).trans h.blk, (h.br.below hb).more hb.size, h.len, h.apart⟩
theorem Rd.keeps {w w' : World} {F : Nat → Prop} {gr : Nat} {A : Option Addr} {c : Nat} {xs : List UInt8} {a : Nat} (h : Rd w gr A c xs a) (k : Keeps F w w') (h1 : ¬ F gr) (h2 : ∀ ad, A = some ad → xs ≠ [] → ¬ F ad.block) : Rd w' gr A c xs a :=
  ⟨(k.block _ h.lt h1).trans h.blk, k.br h.br h2, h.len, h.apart⟩
theorem Rd.set {w : World} {gr : Nat} {A : Option Addr} {c : Nat} {xs : List UInt8} {a : Nat} (h : Rd w gr A c xs a) (x : Int) (a' : Nat) (hx : x = (a' : Int)) (n : Nat) : Rd ((w.drewN n).setCell ⟨gr, 1, none⟩ (.int .i64 x)) gr A c xs a' ∧ Keeps (· = gr) w ((w.drewN n).setCell ⟨gr, 1, none⟩ (.int .i64 x)) := by
  subst hx
  have k1 : Keeps (· = gr) w ((w.drewN n).setCell ⟨gr, 1, none⟩ (.int .i64 (a' : Int))) := Keeps.trans (b := w.drewN n) ⟨rfl, rfl, rfl, Nat.le_refl _, fun _ _ _ => rfl⟩ (Keeps.setCell _ _ _ _ rfl)
  refine ⟨⟨?_, k1.br h.br fun ad e _ => h.apart ad e, h.len, h.apart⟩, k1⟩
  have e : (w.drewN n).heap[gr]? = some (.cells #[.slice A 64 c, .int .i64 (a : Int)] 258 (0, 0)) := h.blk
  rw [heap_setCell_same _ _ _ _ _ _ e]; rfl

def RdOut (w : World) (gr : Nat) (A : Option Addr) (c : Nat) (xs : List UInt8) (a : Nat) (v : Value) (e : Ending) (w' : World) : Prop :=
  e = .returned v ∧ Rd w' gr A c xs a ∧ Keeps (· = gr) w w'

theorem rt_leNum64 (A : Option Addr) (xs : List UInt8) (c : Nat) (a s : Int) (k q : Nat) (w : World) (hx : BR w w.heap.size A xs) (h64 : xs.length = 64) (ha : 0 ≤ a) (hk : (clamp s 8).toNat = k) (hq : num xs a k = q) :
    Calls Tryz.prog 187 #[.slice A 64 c, .int .i64 a, .int .i64 s] w fun e w' => e = .returned (.int .u64 (q : Int)) ∧ w' = w := by
  subst hq hk
  have h := leNum_any A xs c a s w hx (by omega) (by omega)
  rw [h64] at h
  exact h.mono fun _ _ ⟨he, hw⟩ => ⟨he, hw.symm⟩

set_option maxRecDepth 100000 in
set_option maxHeartbeats 400000 in
theorem rdNum (w : World) (gr : Nat) (A : Option Addr) (c : Nat) (xs : List UInt8) (a s k q : Nat) (h : Rd w gr A c xs a) (ha : a ≤ 1000) (hs : s ≤ 8) (hk : (clamp (s : Int) 8).toNat = k) (hq : num xs (a : Int) k = q) :
    Calls Tryz.prog 210 #[.pointer (some ⟨gr, 0, none⟩), .int .i64 (s : Int)] w (RdOut w gr A c xs (a + s) (.int .u64 (q : Int))) := by
  have c0 : w.cell? ⟨gr, 0, none⟩ = some (.slice A 64 c) := by rw [cell_of_row _ _ _ _ _ _ h.blk]; rfl
  have c1 : w.cell? ⟨gr, 1, none⟩ = some (.int .i64 (a : Int)) := by rw [cell_of_row _ _ _ _ _ _ h.blk]; rfl
  have z1 := frozen_of_row w gr 1 _ _ h.blk
  have HK := Lib.hid hk
  have HQ := Lib.hid hq
  clear hk hq
  go_enter Tryz.func210, Tryz.ntmps210
  go_wp2_with fail
  go_quiet ((go_at_call 187; exact Calls.quiet_of_same (rt_leNum64 _ _ _ _ _ k q _ h.br h.len (by omega) HK.out HQ.out)))
  go_wp2_with fail
  go_ret
  obtain ⟨r1, r2⟩ := h.set (a + s) (a + s) (by simp) ‹Nat›
  exact ⟨rfl, r1, r2⟩
set_option maxRecDepth 100000 in
set_option maxHeartbeats 400000 in
theorem rdGen (w : World) (gr : Nat) (A : Option Addr) (c : Nat) (xs : List UInt8) (a q : Nat) (h : Rd w gr A c xs a) (ha : a ≤ 1000) (hq : num xs (a : Int) 8 = q) :
    Calls Tryz.prog 211 #[.pointer (some ⟨gr, 0, none⟩)] w (RdOut w gr A c xs (a + 8) (.int .u64 (q : Int))) := by
  have HQ := Lib.hid hq
  clear hq
  go_enter Tryz.func211, Tryz.ntmps211
  go_wp2_with fail
  refine (rdNum w gr A c xs a 8 8 q h ha (by decide) rfl HQ.out).mono ?_
  rintro e w1 ⟨rfl, r1, k1⟩
  go_wp2_with fail
  go_ret
  exact ⟨rfl, r1, k1⟩
set_option maxRecDepth 100000 in
set_option maxHeartbeats 400000 in
theorem rdShort (w : World) (gr : Nat) (A : Option Addr) (c : Nat) (xs : List UInt8) (a q : Nat) (h : Rd w gr A c xs a) (ha : a ≤ 1000) (hq : num xs (a : Int) 2 = q) :
    Calls Tryz.prog 213 #[.pointer (some ⟨gr, 0, none⟩)] w (RdOut w gr A c xs (a + 2) (.int .i64 (q : Int))) := by
  have hl : q < 65536 := by rw [← hq]; exact num_lt xs a 2
  have HQ := Lib.hid hq
  clear hq
  go_enter Tryz.func213, Tryz.ntmps213
  go_wp2_with fail
  refine (rdNum w gr A c xs a 2 2 q h ha (by decide) rfl HQ.out).mono ?_
  rintro e w1 ⟨rfl, r1, k1⟩
  go_wp2_with fail
  go_ret
  exact ⟨rfl, r1, k1⟩

/-- The method values. -/
abbrev fnGen (gr : Nat) : Value := .func (.func 211) #[.pointer (some ⟨gr, 0, none⟩)] #[]
abbrev fnShort (gr : Nat) : Value := .func (.func 213) #[.pointer (some ⟨gr, 0, none⟩)] #[]

/-! ### the row of checkpoints -/
def zcells (n : Nat) : Array Value := ((List.replicate n sn0).flatMap snCells).toArray
theorem make23 (n : Nat) (hn : n ≤ 4) (w : World) : (Instr.makeSlice 48 (.int .i64 (n : Int)) (.int .i64 (n : Int))).run Tryz.prog w = .ok (.slice (some ⟨w.heap.size, 0, none⟩) n n) (w.alloc (.cells (zcells n) 117)) := by
  have h0 : (Instr.makeSlice 48 (.int .i64 0) (.int .i64 0)).run Tryz.prog w = .ok (.slice (some ⟨w.heap.size, 0, none⟩) 0 0) (w.alloc (.cells (zcells 0) 117)) := by kernel_rfl
  have h1 : (Instr.makeSlice 48 (.int .i64 1) (.int .i64 1)).run Tryz.prog w = .ok (.slice (some ⟨w.heap.size, 0, none⟩) 1 1) (w.alloc (.cells (zcells 1) 117)) := by kernel_rfl
  have h2 : (Instr.makeSlice 48 (.int .i64 2) (.int .i64 2)).run Tryz.prog w = .ok (.slice (some ⟨w.heap.size, 0, none⟩) 2 2) (w.alloc (.cells (zcells 2) 117)) := by kernel_rfl
  have h3 : (Instr.makeSlice 48 (.int .i64 3) (.int .i64 3)).run Tryz.prog w = .ok (.slice (some ⟨w.heap.size, 0, none⟩) 3 3) (w.alloc (.cells (zcells 3) 117)) := by kernel_rfl
  have h4 : (Instr.makeSlice 48 (.int .i64 4) (.int .i64 4)).run Tryz.prog w = .ok (.slice (some ⟨w.heap.size, 0, none⟩) 4 4) (w.alloc (.cells (zcells 4) 117)) := by kernel_rfl
  have : n = 0 ∨ n = 1 ∨ n = 2 ∨ n = 3 ∨ n = 4 := by omega
  rcases this with rfl | rfl | rfl | rfl | rfl
  · exact h0
  · exact h1
  · exact h2
  · exact h3
  · exact h4
theorem zcells_size (n : Nat) : (zcells n).size = n * 2 := by
  unfold zcells
  simp [snCells]
/-- The first k read, noughts behind. -/
def fillS (b : List UInt8) (n k : Nat) : List Sn := rdL b k ++ List.replicate (n - k) sn0
theorem fillS_len (b : List UInt8) (n k : Nat) (h : k ≤ n) : (fillS b n k).length = n := by simp [fillS, rdL_len]; omega
theorem fillS_step (b : List UInt8) (n k : Nat) (h : k < n) : (fillS b n k).set k (rdSn b k) = fillS b n (k + 1) := by
  unfold fillS
  rw [List.set_append_right _ _ (by rw [rdL_len]; exact Nat.le_refl _), rdL_len, Nat.sub_self, rdL_succ, show n - k = (n - (k + 1)) + 1 from by omega, List.replicate_succ, List.set_cons_zero, List.append_assoc]
  rfl
theorem fillS_all (b : List UInt8) (n : Nat) : fillS b n n = rdL b n := by simp [fillS]
theorem flatS_set (l : List Sn) : ∀ (k : Nat) (s : Sn), k < l.length → ((l.flatMap snCells).set (k * 2) (.int .u64 (s.g : Int))).set (k * 2 + 1) (.int .i64 s.t) = (l.set k s).flatMap snCells := by
  induction l with
  | nil => intro k s h; simp at h
  | cons x r ih =>
    intro k s h
    cases k with
    | zero => rfl
    | succ k =>
      have := ih k s (by simpa using h)
      rw [List.set_cons_succ, List.flatMap_cons, List.flatMap_cons, ← this]
      rw [show (k + 1) * 2 = k * 2 + 2 from by omega, show k * 2 + 2 + 1 = (k * 2 + 1) + 2 from by omega]
      rfl
theorem OwnS.put {w : World} {B g n cap : Nat} {l : List Sn} (h : OwnS w B (some ⟨g, 0, none⟩) cap l) (k : Nat) (s : Sn) (hn : n = l.length) :
    (w.setCell ⟨g, k * 2, none⟩ (.int .u64 (s.g : Int))).ownsRow B 117 2 (.slice (some ⟨g, 0, none⟩) n cap) n ((l.flatMap snCells).set (k * 2) (.int .u64 (s.g : Int))) := by
  subst hn
  exact (World.ownsRow.stored h (k * 2) _).1
theorem OwnS.put2 {w : World} {B g n cap : Nat} {l : List Sn} (k : Nat) (s : Sn) (hk : k < l.length) (hn : n = l.length) (h : w.ownsRow B 117 2 (.slice (some ⟨g, 0, none⟩) n cap) n ((l.flatMap snCells).set (k * 2) (.int .u64 (s.g : Int)))) :
    OwnS (w.setCell ⟨g, k * 2 + 1, none⟩ (.int .i64 s.t)) B (some ⟨g, 0, none⟩) cap (l.set k s) := by
  subst hn
  unfold OwnS
  rw [List.length_set, ← flatS_set l k s hk]
  exact (World.ownsRow.stored h (k * 2 + 1) _).1

theorem spotS {w : World} {B g n cap : Nat} {vs : List Value} (h : w.ownsRow B 117 2 (.slice (some ⟨g, 0, none⟩) n cap) n vs) (j : Nat) (hj : j < n * 2) : (∃ v, w.cell? ⟨g, j, none⟩ = some v) ∧ w.frozen? ⟨g, j, none⟩ = false := by
  refine ⟨?_, World.ownsRow.frozenAt h j⟩
  rw [World.ownsRow.cellAt h j hj, List.getElem?_eq_getElem (by rw [h.1]; exact hj)]
  exact ⟨_, rfl⟩
theorem rowS_keeps {w w' : World} {F : Nat → Prop} {B g n cap : Nat} {vs : List Value} (h : w.ownsRow B 117 2 (.slice (some ⟨g, 0, none⟩) n cap) n vs) (k : Keeps F w w') (hg : ¬ F g) : w'.ownsRow B 117 2 (.slice (some ⟨g, 0, none⟩) n cap) n vs := by
  obtain ⟨h0, h1⟩ := h
  refine ⟨h0, ?_⟩
  rcases h1 with hn | ⟨g', cap', cur, hv, hb, hgg, rest⟩
  · exact .inl hn
  · have hv' := hv
    simp only [Value.slice.injEq, Option.some.injEq, Addr.mk.injEq, and_true, true_and] at hv'
    obtain ⟨rfl, _⟩ := hv'
    exact .inr ⟨g, cap', cur, hv, hb, (k.block _ (Array.getElem?_eq_some_iff.1 hgg).1 hg).trans hgg, rest⟩

def SnapsOut (w : World) (gr : Nat) (A : Option Addr) (c : Nat) (xs : List UInt8) (n : Nat) (e : Ending) (w' : World) : Prop :=
  ∃ g, e = .returned (.slice (some ⟨g, 0, none⟩) n n) ∧ w.heap.size ≤ g ∧ OwnS w' w.heap.size (some ⟨g, 0, none⟩) n (rdL xs n) ∧ Rd w' gr A c xs (14 + 10 * n) ∧ Keeps (· = gr) w w'

set_option maxRecDepth 100000 in
set_option maxHeartbeats 400000 in
theorem snaps_no (w : World) (n : Nat) (f g : Value) (hn : 4 < n) (hn' : n < 65536) :
    Calls Tryz.prog 212 #[.int .i64 (n : Int), f, g] w fun e w' => e = thrown ∧ w = w' := by
  have h : decide ((n : Int) ≤ 4) = false := by simp; omega
  go_enter Tryz.func212, Tryz.ntmps212
  go_wp2_with fail
  refine (demand_no _).mono ?_
  rintro e w' ⟨rfl, rfl⟩
  exact ⟨rfl, rfl, rfl⟩

set_option maxRecDepth 100000 in
set_option maxHeartbeats 800000 in
theorem snaps_yes (w : World) (gr : Nat) (A : Option Addr) (c : Nat) (xs : List UInt8) (n : Nat) (h : Rd w gr A c xs 14) (hn : n ≤ 4) :
    Calls Tryz.prog 212 #[.int .i64 (n : Int), fnGen gr, fnShort gr] w (SnapsOut w gr A c xs n) := by
  have hd : decide ((n : Int) ≤ 4) = true := by simp; omega
  have hmk := make23 n hn
  go_enter Tryz.func212, Tryz.ntmps212
  go_wp2_with fail
  refine (demand_yes _).mono ?_
  rintro e w' ⟨rfl, rfl⟩
  go_wp2_with fail
  clear hmk hd
  have h1 := h.below ((Below.refl _ _).alloc (Nat.le_refl _) (.cells (zcells n) 117))
  have o1 : OwnS (w.alloc (.cells (zcells n) 117)) w.heap.size (some ⟨w.heap.size, 0, none⟩) n (fillS xs n 0) := by
    have := World.ownsRow_lit (e := 117) (base := w.heap.size) (size := 2) w (zcells n) n (Nat.le_refl _) (by unfold maxLen; omega) (zcells_size n)
    unfold OwnS
    rw [fillS_len _ _ _ (by omega)]
    exact this
  have k1 : Keeps (fun k => k = gr ∨ k = w.heap.size) w (w.alloc (.cells (zcells n) 117)) := Keeps.alloc _ _ _
  have hgr := h.lt
  have hs1 : w.heap.size < (w.alloc (.cells (zcells n) 117)).heap.size := by simp
  have hapart : ∀ ad, A = some ad → xs ≠ [] → ad.block < w.heap.size := fun ad e hne => by
    obtain ⟨ad', e', hb, _⟩ := h.br hne
    rw [e] at e'; cases e'; exact hb
  have HAP := Lib.hid hapart
  clear h hapart
  go_loopw [16, 8, 18] (fun i _ _ wr => ∃ k : Nat, k ≤ n ∧ i = .int .i64 k ∧ Rd wr gr A c xs (14 + 10 * k) ∧ OwnS wr w.heap.size (some ⟨w.heap.size, 0, none⟩) n (fillS xs n k) ∧ Keeps (fun k => k = gr ∨ k = w.heap.size) w wr ∧ w.heap.size < wr.heap.size) (fun i _ _ _ => n - (intOf i).toNat)
  case atStart => exact ⟨0, by omega, rfl, h1, o1, k1, hs1⟩
  case round =>
    clear h1 o1 k1 hs1
    obtain ⟨k, hk, rfl, h1, o1, k1, hs1⟩ := hrel
    by_cases hlt : k < n
    · go_wp2_with fail
      generalize hq1 : num xs ((14 + 10 * k : Nat) : Int) 8 = q1
      refine (rdGen _ gr A c xs (14 + 10 * k) q1 h1 (by omega) hq1).mono ?_
      rintro e w2 ⟨rfl, h2, kk2⟩
      have hfl := fillS_len xs n k (by omega)
      have o2 := rowS_keeps o1 kk2 (by omega)
      rw [hfl] at o2
      have k2 := k1.trans (kk2.mono (G := fun k => k = gr ∨ k = w.heap.size) fun k _ e => .inl e)
      have hs2 := Nat.lt_of_lt_of_le hs1 kk2.size
      obtain ⟨⟨v0, d0⟩, f0⟩ := spotS o2 (k * 2) (by omega)
      have HFL := Lib.hid hfl
      clear h1 o1 k1 kk2 hs1 hfl
      go_wp2_with fail
      clear d0 f0
      generalize hq2 : num xs ((14 + 10 * k + 8 : Nat) : Int) 2 = q2
      have kk3 : Keeps (· = w.heap.size) w2 (w2.setCell ⟨w.heap.size, k * 2, none⟩ (.int .u64 (q1 : Int))) := Keeps.setCell _ _ _ _ rfl
      have h3 := h2.keeps kk3 (by omega) (fun ad e hne => Nat.ne_of_lt (HAP.out ad e hne))
      have o3 := (World.ownsRow.stored o2 (k * 2) (.int .u64 (q1 : Int))).1
      have k3 := k2.trans (kk3.mono (G := fun k => k = gr ∨ k = w.heap.size) fun k _ e => .inr e)
      have hs3 := Nat.lt_of_lt_of_le hs2 kk3.size
      clear h2 o2 k2 kk3 hs2
      generalize w2.setCell ⟨w.heap.size, k * 2, none⟩ (.int .u64 (q1 : Int)) = w3 at *
      refine (rdShort _ gr A c xs (14 + 10 * k + 8) q2 h3 (by omega) hq2).mono ?_
      rintro e w4 ⟨rfl, h4, kk4⟩
      have o4 := rowS_keeps o3 kk4 (by omega)
      have k4 := k3.trans (kk4.mono (G := fun k => k = gr ∨ k = w.heap.size) fun k _ e => .inl e)
      have hs4 := Nat.lt_of_lt_of_le hs3 kk4.size
      obtain ⟨⟨v1, d1⟩, f1⟩ := spotS o4 (k * 2 + 1) (by omega)
      have HQ1 := Lib.hid hq1
      have HQ2 := Lib.hid hq2
      clear h3 o3 k3 kk4 hs3 hq1 hq2
      go_wp2_with fail
      have kk5 : Keeps (· = w.heap.size) w4 (w4.setCell ⟨w.heap.size, k * 2 + 1, none⟩ (.int .i64 (q2 : Int))) := Keeps.setCell _ _ _ _ rfl
      have h5 := h4.keeps kk5 (by omega) (fun ad e hne => Nat.ne_of_lt (HAP.out ad e hne))
      have k5 := k4.trans (kk5.mono (G := fun k => k = gr ∨ k = w.heap.size) fun k _ e => .inr e)
      have hs5 := Nat.lt_of_lt_of_le hs4 kk5.size
      have o5 : OwnS (w4.setCell ⟨w.heap.size, k * 2 + 1, none⟩ (.int .i64 (q2 : Int))) w.heap.size (some ⟨w.heap.size, 0, none⟩) n (fillS xs n (k + 1)) := by
        rw [← fillS_step xs n k hlt]
        have e : rdSn xs k = ⟨q1, (q2 : Int)⟩ := by
          unfold rdSn
          rw [← HQ1.out, ← HQ2.out, show ((14 + 10 * k : Nat) : Int) = 14 + 10 * (k : Int) from by omega, show ((14 + 10 * k + 8 : Nat) : Int) = 22 + 10 * (k : Int) from by omega]
        rw [e]
        exact OwnS.put2 (n := n) k ⟨q1, (q2 : Int)⟩ (by rw [HFL.out]; exact hlt) HFL.out.symm o4
      clear d1 f1 h4 o4 k4 kk5 hs4
      go_roundw
      case rel => exact ⟨k + 1, by omega, by go_num, h5, o5, k5, hs5⟩
      case measure => simp [intOf]; omega
    · obtain rfl : k = n := by omega
      rw [fillS_all] at o1
      go_wp2_with fail
      go_ret
      exact ⟨w.heap.size, rfl, Nat.le_refl _, o1, h1, ⟨k1.os, k1.tape, k1.output, k1.size, fun b hb hne => k1.block b hb (by omega)⟩⟩

/-! ### noughts -/
def NoughtsOut (w : World) (gr : Nat) (A : Option Addr) (c : Nat) (xs : List UInt8) (n : Nat) (e : Ending) (w' : World) : Prop :=
  Keeps (· = gr) w w' ∧ ((zerosB xs n = true ∧ e = .returned (.tuple #[]) ∧ Rd w' gr A c xs 60) ∨ (zerosB xs n = false ∧ e = thrown))
theorem zerosB_no (xs : List UInt8) (n j : Nat) (hj : j < 23 - 5 * n) (h : num xs (14 + 10 * n + 2 * j) 2 ≠ 0) : zerosB xs n = false := by
  unfold zerosB
  rw [decide_eq_false_iff_not]
  intro h2
  exact h (h2 j hj)
theorem zerosB_yes (xs : List UInt8) (n j : Nat) (hj : 23 - 5 * n ≤ j) (h : ∀ i, i < j → num xs (14 + 10 * n + 2 * i) 2 = 0) : zerosB xs n = true := by
  unfold zerosB
  rw [decide_eq_true_eq]
  intro i hi
  exact h i (by omega)
/-- What the loop of noughts has seen. -/
def SeenTo (xs : List UInt8) (n j p : Nat) : Prop := p = 14 + 10 * n + 2 * j ∧ ∀ i, i < j → num xs (14 + 10 * n + 2 * i) 2 = 0
set_option maxRecDepth 100000 in
set_option maxHeartbeats 800000 in
theorem noughts_any (w : World) (gr : Nat) (A : Option Addr) (c : Nat) (xs : List UInt8) (n a : Nat) (h : Rd w gr A c xs a) (hn : n ≤ 4) (ha : a = 14 + 10 * n) :
    Calls Tryz.prog 214 #[.int .i64 (a : Int), fnShort gr] w (NoughtsOut w gr A c xs n) := by
  have HA := Lib.hid ha
  have ha1 : a ≤ 54 := by omega
  clear ha
  go_enter Tryz.func214, Tryz.ntmps214
  go_wp2_with fail
  go_loopw [4] (fun i wr => ∃ j p : Nat, p ≤ 60 ∧ i = .int .i64 (p : Int) ∧ SeenTo xs n j p ∧ Rd wr gr A c xs p ∧ Keeps (· = gr) w wr) (fun i _ => 60 - (intOf i).toNat)
  case atStart => exact ⟨0, a, by omega, rfl, ⟨by have := HA.out; omega, fun i hi => absurd hi (Nat.not_lt_zero i)⟩, h, Keeps.refl _ _⟩
  case round =>
    clear h
    obtain ⟨j, p, hp, rfl, hz, h, kp⟩ := hrel
    have HZ := Lib.hid hz
    clear hz
    by_cases hlt : p < 60
    · go_wp2_with fail
      generalize hq : num xs (p : Int) 2 = q
      have HQ := Lib.hid hq
      refine (rdShort _ gr A c xs p q h (by omega) hq).mono ?_
      rintro e w2 ⟨rfl, h2, k2⟩
      have kp2 := kp.trans k2
      clear h kp k2 hq
      have hN : ((14 + 10 * n + 2 * j : Nat) : Int) = 14 + 10 * (n : Int) + 2 * (j : Int) := by omega
      have HN := Lib.hid hN
      clear hN
      by_cases h0 : q = 0
      · subst h0
        go_wp2_with fail
        refine (demand_yes _).mono ?_
        rintro e w' ⟨rfl, rfl⟩
        go_wp2_with fail
        go_roundw
        case rel =>
          refine ⟨j + 1, p + 2, by have := HZ.out.1; omega, by go_num, ⟨by have := HZ.out.1; omega, fun i hi => ?_⟩, h2, kp2⟩
          by_cases e : i = j
          · subst e
            have h := HQ.out
            rw [HZ.out.1, HN.out] at h
            exact h
          · exact HZ.out.2 i (by omega)
        case measure => simp [intOf]; omega
      · have hb : ((q : Int) == 0) = false := by simpa using h0
        have H0 := Lib.hid h0
        clear h0
        go_wp2_with fail
        refine (demand_no _).mono ?_
        rintro e w' ⟨rfl, rfl⟩
        refine ⟨rfl, kp2, .inr ⟨zerosB_no xs n j (by have := HZ.out.1; omega) ?_, rfl⟩⟩
        have h := HQ.out
        rw [HZ.out.1, HN.out] at h
        rw [h]
        exact H0.out
    · obtain rfl : p = 60 := by omega
      go_wp2_with fail
      go_end0
      exact ⟨kp, .inl ⟨zerosB_yes xs n j (by have := HZ.out.1; omega) HZ.out.2, rfl, h⟩⟩
end Go.Proofs.YtebecpjecchfoaaGreatDoor
namespace Go.Proofs.YtebecpjecchfoaaGreatDoor
open Go.RowKit

def RecOut (w : World) (xs : List UInt8) (e : Ending) (w' : World) : Prop :=
  Below w.heap.size w w' ∧ ((recB xs = true ∧ ∃ g c, e = .returned (.agg #[.int .u64 (genOf xs : Int), .slice (some ⟨g, 0, none⟩) (manyOf xs) c]) ∧ w.heap.size ≤ g ∧ SR w' w'.heap.size (some ⟨g, 0, none⟩) (rdL xs (manyOf xs))) ∨ (recB xs = false ∧ e = thrown))
theorem recOut_no {w w' : World} {xs : List UInt8} (h : recB xs = false) (hb : Below w.heap.size w w') : RecOut w xs thrown w' := ⟨hb, .inr ⟨h, rfl⟩⟩
theorem recB_len {xs : List UInt8} (h : xs.length ≠ 64) : recB xs = false := by simp [recB, h]
theorem recB_mark {xs : List UInt8} (h : num xs 0 4 ≠ 1280459075) : recB xs = false := by
  simp only [recB, decide_eq_false h, Bool.and_false, Bool.false_and]
theorem recB_many {xs : List UInt8} (h : 4 < manyOf xs) : recB xs = false := by
  simp only [recB, decide_eq_false (by omega : ¬ manyOf xs ≤ 4), Bool.and_false, Bool.false_and]
theorem recB_may {xs : List UInt8} (h : mayB (genOf xs) (rdL xs (manyOf xs)) = false) : recB xs = false := by
  simp only [recB, h, Bool.and_false, Bool.false_and]
theorem recB_zeros {xs : List UInt8} (h : zerosB xs (manyOf xs) = false) : recB xs = false := by
  simp only [recB, h, Bool.and_false, Bool.false_and]
theorem recB_sum {xs : List UInt8} (h : num xs 60 4 ≠ crcOf (xs.take 60)) : recB xs = false := by
  simp only [recB, decide_eq_false h, Bool.and_false]
theorem recB_yes {xs : List UInt8} (h1 : xs.length = 64) (h2 : num xs 0 4 = 1280459075) (h3 : manyOf xs ≤ 4) (h4 : mayB (genOf xs) (rdL xs (manyOf xs)) = true) (h5 : zerosB xs (manyOf xs) = true) (h6 : num xs 60 4 = crcOf (xs.take 60)) : recB xs = true := by
  simp only [recB, decide_eq_true h1, decide_eq_true h2, decide_eq_true h3, h4, h5, decide_eq_true h6, Bool.and_true]

/-- What record keeps: its result's cells, the reader behind them, all that was there. -/
structure RecInv (w wr : World) (A : Option Addr) (c : Nat) (xs : List UInt8) (a : Nat) : Prop where
  res : wr.heap[w.heap.size]? = some (.cells #[.int .u64 0, .slice none 0 0] 138 (0, 0))
  rd : Rd wr (w.heap.size + 1) A c xs a
  bel : Below w.heap.size w wr
theorem RecInv.next {w wr w2 : World} {A : Option Addr} {c : Nat} {xs : List UInt8} {a a' : Nat} (h : RecInv w wr A c xs a) (k : Keeps (· = w.heap.size + 1) wr w2) (r : Rd w2 (w.heap.size + 1) A c xs a') : RecInv w w2 A c xs a' :=
  ⟨(k.block _ (by have := h.rd.lt; omega) (by omega)).trans h.res, r, h.bel.trans (k.toBelow _ h.bel.size (fun b e => by omega))⟩
theorem RecInv.below {w wr w2 : World} {A : Option Addr} {c : Nat} {xs : List UInt8} {a : Nat} (h : RecInv w wr A c xs a) (hb : Below wr.heap.size wr w2) : RecInv w w2 A c xs a :=
  ⟨(hb.block _ (by have := h.rd.lt; omega)).trans h.res, h.rd.below hb, h.bel.trans (hb.mono h.bel.size)⟩

set_option maxRecDepth 100000 in
set_option maxHeartbeats 400000 in
theorem rec_len (A : Option Addr) (xs : List UInt8) (c : Nat) (w : World) (hn : xs.length ≠ 64) :
    Calls Tryz.prog 196 #[.slice A xs.length c] w (RecOut w xs) := by
  have h1 : ((xs.length : Int) == 64) = false := by simp; omega
  have HD := Lib.hid (recB_len hn)
  clear hn
  go_enter Tryz.func196, Tryz.ntmps196
  go_wp2_with fail
  refine (demand_no _).mono ?_
  rintro e w' ⟨rfl, rfl⟩
  exact ⟨rfl, recOut_no HD.out ((Below.refl _ _).alloc (Nat.le_refl _) _)⟩

/-- The world behind the two first variables. -/
def recW (w : World) (A : Option Addr) (c : Nat) : World := (w.alloc (.cells #[.int .u64 0, .slice none 0 0] 138)).alloc (.cells #[.slice A 64 c, .int .i64 0] 258)
theorem recW_inv (w : World) (A : Option Addr) (c : Nat) (xs : List UInt8) (hx : BR w w.heap.size A xs) (h64 : xs.length = 64) : RecInv w (recW w A c) A c xs 0 := by
  have hb : Below w.heap.size w (recW w A c) := ((Below.refl _ _).alloc (Nat.le_refl _) _).alloc (by simp) _
  refine ⟨?_, ⟨?_, (hx.below hb).more hb.size, h64, fun ad e => ?_⟩, hb⟩
  · unfold recW; rw [Below.heap_alloc _ _ _ (by simp)]; exact heap_alloc_new _ _
  · exact blk_at_last _ _ _ (by simp)
  · obtain ⟨ad', e', hlt, _⟩ := hx (by intro h; subst h; simp at h64)
    rw [e] at e'; cases e'; omega
/-- The root that is being read. -/
theorem rec_end {w w1 : World} {A : Option Addr} {c : Nat} {xs : List UInt8} {a B g : Nat} (inv : RecInv w w1 A c xs a) (hB : w.heap.size < B) (o : OwnS w1 B (some ⟨g, 0, none⟩) (manyOf xs) (rdL xs (manyOf xs))) (hg : B ≤ g) (hr : recB xs = true) (u v : Value) (cc : Nat) :
    RecOut w xs (.returned (.agg #[.int .u64 (genOf xs : Int), .slice (some ⟨g, 0, none⟩) (manyOf xs) cc])) ((w1.setCell ⟨w.heap.size, 0, none⟩ u).setCell ⟨w.heap.size, 1, none⟩ v) := by
  have k1 : Keeps (fun k => k = w.heap.size) w1 ((w1.setCell ⟨w.heap.size, 0, none⟩ u).setCell ⟨w.heap.size, 1, none⟩ v) := (Keeps.setCell (fun k => k = w.heap.size) _ _ _ rfl).trans (Keeps.setCell (fun k => k = w.heap.size) _ _ _ rfl)
  refine ⟨inv.bel.trans (k1.toBelow _ inv.bel.size (fun b e => by omega)), .inl ⟨hr, _, cc, rfl, by omega, ?_⟩⟩
  exact OwnS.sr (B := B) (cap := manyOf xs) (rowS_keeps o k1 (by omega))
theorem RecInv.other {w wr w2 : World} {F : Nat → Prop} {A : Option Addr} {c : Nat} {xs : List UInt8} {a : Nat} (h : RecInv w wr A c xs a) (hx : BR w w.heap.size A xs) (k : Keeps F wr w2) (hF : ∀ b, F b → w.heap.size + 1 < b) : RecInv w w2 A c xs a :=
  ⟨(k.block _ (by have := h.rd.lt; omega) (fun hf => by have := hF _ hf; omega)).trans h.res, h.rd.keeps k (fun hf => by have := hF _ hf; omega) (fun ad e hne hf => by
    obtain ⟨ad', e', hlt, _⟩ := hx hne
    rw [e] at e'; cases e'
    have := hF _ hf
    omega), h.bel.trans (k.toBelow _ h.bel.size (fun b hf => by have := hF b hf; omega))⟩
theorem mayBe_n (b : Bool) (g : Nat) (A : Option Addr) (l : List Sn) (c n : Nat) (w : World) (hx : SR w w.heap.size A l) (hn : l.length = n) (hl : n ≤ 9223372036854775807) (h : mayB g l = b) :
    Calls Tryz.prog 158 #[agR g A n c] w fun e w' => e = .returned (.bool b) ∧ Below w.heap.size w w' := by
  subst hn h; exact mayBe_any g A l c w hx hl

set_option maxRecDepth 100000 in
set_option maxHeartbeats 2000000 in
theorem rec_main (A : Option Addr) (xs : List UInt8) (c : Nat) (w : World) (hx : BR w w.heap.size A xs) (h64 : xs.length = 64) (hcap : 64 ≤ c) :
    Calls Tryz.prog 196 #[.slice A 64 c] w (RecOut w xs) := by
  have hc60 : (60 : Int) ≤ (c : Int) := by omega
  have inv := recW_inv w A c xs hx h64
  have H64 := Lib.hid h64
  have HBR := Lib.hid hx
  clear h64 hcap hx
  have hmf : ∀ (fn : Fn) (first cap : Array Value) (w : World), (Instr.makeFunc fn first cap).run Tryz.prog w = .ok (.func fn first cap) w := fun _ _ _ _ => rfl
  go_enter Tryz.func196, Tryz.ntmps196
  go_wp2_with fail
  refine (demand_yes _).mono ?_
  rintro e w' ⟨rfl, rfl⟩
  go_wp2_with fail
  change Calls _ _ _ (recW w A c) _
  generalize recW w A c = w1 at *
  generalize hq0 : num xs ((0 : Nat) : Int) 4 = q0
  have HQ0 := Lib.hid hq0
  refine (rdNum _ _ A c xs 0 4 4 q0 inv.rd (by decide) (by decide) rfl hq0).mono ?_
  rintro e w2 ⟨rfl, r2, k2⟩
  have i2 := inv.next k2 r2
  clear inv r2 k2 hq0
  by_cases hmark : q0 = 1280459075
  · subst hmark
    go_wp2_with fail
    refine (demand_yes _).mono ?_
    rintro e w' ⟨rfl, rfl⟩
    go_wp2_with fail
    generalize hq1 : num xs ((0 + 4 : Nat) : Int) 8 = gn
    have HG : Hid (genOf xs = gn) := hq1
    refine (rdGen _ _ A c xs (0 + 4) gn i2.rd (by decide) hq1).mono ?_
    rintro e w3 ⟨rfl, r3, k3⟩
    have i3 := i2.next k3 r3
    clear i2 r3 k3 hq1
    go_wp2_with fail
    have b4 : Below w3.heap.size w3 (w3.alloc (.cells #[.int .u64 (gn : Int), .slice none 0 0] 138)) := (Below.refl _ _).alloc (Nat.le_refl _) _
    have i4 := i3.below b4
    have v4 := heap_alloc_new w3 (.cells #[.int .u64 (gn : Int), .slice none 0 0] 138)
    have hgv : w.heap.size + 1 < w3.heap.size := i3.rd.lt
    generalize w3.alloc (.cells #[.int .u64 (gn : Int), .slice none 0 0] 138) = w4 at *
    generalize w3.heap.size = gv at *
    clear i3 b4
    generalize hq2 : num xs ((0 + 4 + 8 : Nat) : Int) 2 = m
    have HM : Hid (manyOf xs = m) := hq2
    have hm : m < 65536 := by rw [← hq2]; exact num_lt xs _ 2
    refine (rdShort _ _ A c xs (0 + 4 + 8) m i4.rd (by decide) hq2).mono ?_
    rintro e w5 ⟨rfl, r5, k5⟩
    have i5 := i4.next k5 r5
    have hgv4 : gv < w4.heap.size := (Array.getElem?_eq_some_iff.1 v4).1
    have v5 := (k5.block gv hgv4 (by omega)).trans v4
    clear i4 r5 k5 hq2 v4 hgv4
    go_wp2_with fail
    by_cases hm4 : m ≤ 4
    · refine (snaps_yes w5 _ A c xs m i5.rd hm4).mono ?_
      rintro e w6 ⟨g, rfl, hg, o6, r6, k6⟩
      have i6 := i5.next k6 r6
      have hgv5 : gv < w5.heap.size := (Array.getElem?_eq_some_iff.1 v5).1
      have v6 := (k6.block gv hgv5 (by omega)).trans v5
      have x0 : w6.cell? ⟨gv, 0, none⟩ = some (.int .u64 (gn : Int)) := by rw [cell_of_row _ _ _ _ _ _ v6]; rfl
      have x1 : w6.cell? ⟨gv, 1, none⟩ = some (.slice none 0 0) := by rw [cell_of_row _ _ _ _ _ _ v6]; rfl
      have z1 := frozen_of_row w6 gv 1 _ _ v6
      have hB := i5.rd.lt
      clear i5 r6 k6 v5
      go_wp2_with fail
      have k7 : Keeps (· = gv) w6 (w6.setCell ⟨gv, 1, none⟩ (.slice (some ⟨g, 0, none⟩) m m)) := Keeps.setCell _ _ _ _ rfl
      have i7 := i6.other HBR.out k7 (fun b e => by omega)
      have v7 : (w6.setCell ⟨gv, 1, none⟩ (.slice (some ⟨g, 0, none⟩) m m)).heap[gv]? = some (.cells #[.int .u64 (gn : Int), .slice (some ⟨g, 0, none⟩) m m] 138 (0, 0)) := by
        rw [heap_setCell_same _ _ _ _ _ _ v6]; rfl
      have o7 := rowS_keeps o6 k7 (by omega)
      clear i6 k7 v6 o6 x0 x1 z1
      generalize w6.setCell ⟨gv, 1, none⟩ (.slice (some ⟨g, 0, none⟩) m m) = w7 at *
      have hsr : SR w7 w7.heap.size (some ⟨g, 0, none⟩) (rdL xs m) := OwnS.sr (B := w5.heap.size) (cap := m) o7
      cases hmay : mayB gn (rdL xs m)
      · have HY := Lib.hid hmay
        clear hmay
        refine (mayBe_n false gn _ (rdL xs m) m m w7 hsr (rdL_len _ _) (by omega) HY.out).mono ?_
        rintro e w8 ⟨rfl, b8⟩
        have i8 := i7.below b8
        clear i7 b8 v7 o7 hsr
        go_wp2_with fail
        refine (demand_no _).mono ?_
        rintro e w' ⟨rfl, rfl⟩
        exact ⟨rfl, recOut_no (recB_may (by rw [HM.out, HG.out]; exact HY.out)) i8.bel⟩
      · have HY := Lib.hid hmay
        clear hmay
        refine (mayBe_n true gn _ (rdL xs m) m m w7 hsr (rdL_len _ _) (by omega) HY.out).mono ?_
        rintro e w8 ⟨rfl, b8⟩
        have i8 := i7.below b8
        have hgv7 : gv < w7.heap.size := (Array.getElem?_eq_some_iff.1 v7).1
        have v8 := (b8.block _ hgv7).trans v7
        have hg7 : g < w7.heap.size ∨ m = 0 := by
          rcases o7.2 with ⟨hn, h0⟩ | ⟨g', _, _, hv, _, hgg, _⟩
          · cases hn
          · simp only [Value.slice.injEq, Option.some.injEq, Addr.mk.injEq, and_true, true_and] at hv
            obtain ⟨rfl, _⟩ := hv
            exact .inl (Array.getElem?_eq_some_iff.1 hgg).1
        have o8 : OwnS w8 w5.heap.size (some ⟨g, 0, none⟩) m (rdL xs m) := World.ownsRow.kept (row := none) o7 ⟨b8.os, b8.tape, b8.output, b8.size, fun k hk _ => b8.block k hk⟩ (.inr (by simp [Value.ownBlock]))
        clear i7 b8 v7 o7 hsr hgv7 hg7
        go_wp2_with fail
        refine (demand_yes _).mono ?_
        rintro e w' ⟨rfl, rfl⟩
        have y1 : w8.cell? ⟨w.heap.size + 1, 1, none⟩ = some (.int .i64 ((14 + 10 * m : Nat) : Int)) := by rw [cell_of_row _ _ _ _ _ _ i8.rd.blk]; rfl
        generalize hae : 14 + 10 * m = a8 at *
        have HAE := Lib.hid hae
        clear hae
        go_wp2_with fail
        refine (noughts_any w8 _ A c xs m a8 i8.rd hm4 HAE.out.symm).mono ?_
        rintro e w9 ⟨k9, ⟨hz, rfl, r9⟩ | ⟨hz, rfl⟩⟩
        · have i9 := i8.next k9 r9
          have hgv8 : gv < w8.heap.size := (Array.getElem?_eq_some_iff.1 v8).1
          have v9 := (k9.block gv hgv8 (by omega)).trans v8
          have o9 := rowS_keeps o8 k9 (by omega)
          have HZ := Lib.hid hz
          clear i8 k9 r9 v8 o8 hgv8 y1 hz
          go_wp2_with fail
          refine wp_region_any (by kernel_rfl) ?_
          change wpAny _ _ _ _ _ _ _ (World.drew w9)
          have kd : Keeps (fun _ => False) w9 w9.drew := Keeps.drew _ _
          have i10 := i9.other HBR.out kd (fun b e => e.elim)
          have v10 : w9.drew.heap[gv]? = some (.cells #[.int .u64 (gn : Int), .slice (some ⟨g, 0, none⟩) m m] 138 (0, 0)) := v9
          have o10 := rowS_keeps o9 kd (fun e => e.elim)
          clear i9 v9 o9 kd
          generalize w9.drew = w10 at *
          refine wpAny_take (oi := ⟨_, _, _, _, _, _⟩) (i := 0) (v := .pointer (some ⟨w.heap.size + 1, 0, none⟩)) rfl (by kernel_rfl) (by kernel_rfl) (by kernel_rfl) (fun _ _ _ h => h) (Or.inl ⟨by rfl, fun _ => rfl⟩) ?_
          refine wpAny_take (oi := ⟨_, _, _, _, _, _⟩) (i := 2) (v := .slice A 64 c) rfl (by kernel_rfl) (by kernel_rfl) (by kernel_rfl) (fun _ _ _ h => h) (Or.inl ⟨by rfl, fun _ => rfl⟩) ?_
          refine wpAny_take (oi := ⟨_, _, _, _, _, _⟩) (i := 3) (v := .slice A 60 c) rfl (by kernel_rfl) (by kernel_rfl) (by kernel_rfl) (fun _ _ _ h => h) (Or.inl ⟨by rfl, fun w => by go_simp⟩) ?_
          simp only [Act.put, List.setIfInBounds_toArray, List.set_cons_zero, List.set_cons_succ]
          refine wpAny_of_chain [1, 4, 5, 6, 7] [_, _, _, _, _] _ _ _ rfl (by kernel_rfl) ?_
          go_wp2_with fail
          generalize hq6 : num xs ((60 : Nat) : Int) 4 = q6
          have HQ6 : Hid (num xs 60 4 = q6) := hq6
          refine (rdNum _ _ A c xs 60 4 4 q6 i10.rd (by decide) (by decide) rfl hq6).mono ?_
          rintro e w11 ⟨rfl, r11, k11⟩
          have i11 := i10.next k11 r11
          have hgv10 : gv < w10.heap.size := (Array.getElem?_eq_some_iff.1 v10).1
          have v11 := (k11.block gv hgv10 (by omega)).trans v10
          have o11 := rowS_keeps o10 k11 (by omega)
          clear i10 v10 o10 hgv10 r11 k11 hq6
          go_wp2_with fail
          have hq := crcOf_lt (xs.take 60)
          generalize hqe : crcOf (xs.take 60) = q at hq
          have HQ := Lib.hid hqe
          refine (leCrc60 _ _ _ q _ i11.rd.br H64.out hqe).mono ?_
          clear hqe
          rintro e w' ⟨rfl, rfl⟩
          have x0 : w'.cell? ⟨gv, 0, none⟩ = some (.int .u64 (gn : Int)) := by rw [cell_of_row _ _ _ _ _ _ v11]; rfl
          have x1 : w'.cell? ⟨gv, 1, none⟩ = some (.slice (some ⟨g, 0, none⟩) m m) := by rw [cell_of_row _ _ _ _ _ _ v11]; rfl
          have y0 : w'.cell? ⟨w.heap.size, 0, none⟩ = some (.int .u64 0) := by rw [cell_of_row _ _ _ _ _ _ i11.res]; rfl
          have y1 : w'.cell? ⟨w.heap.size, 1, none⟩ = some (.slice none 0 0) := by rw [cell_of_row _ _ _ _ _ _ i11.res]; rfl
          have z0 := frozen_of_row w' w.heap.size 0 _ _ i11.res
          have z1 := frozen_of_row w' w.heap.size 1 _ _ i11.res
          by_cases hsum : q6 = q
          · have HS : Hid (num xs 60 4 = crcOf (xs.take 60)) := by
              show _ = _
              rw [HQ6.out, HQ.out, hsum]
            subst hsum
            go_wp2_with fail
            refine (demand_yes _).mono ?_
            rintro e w12 ⟨rfl, rfl⟩
            go_wp2_with fail
            refine bodyPost_ret (v := .agg #[.int .u64 (gn : Int), .slice (some ⟨g, 0, none⟩) m m]) (by simp [results, Tryz.results196, go_sem, y0, y1]) rfl ?_
            have hfin := rec_end (g := g) (B := w5.heap.size) i11 (by omega) (by rw [HM.out]; exact o11) (by omega) (recB_yes H64.out HQ0.out (by rw [HM.out]; exact hm4) (by rw [HM.out, HG.out]; exact HY.out) (by rw [HM.out]; exact HZ.out) HS.out) (.int .u64 (gn : Int)) (.slice (some ⟨g, 0, none⟩) m m) m
            rw [HM.out, HG.out] at hfin
            exact hfin
          · have HS : Hid (num xs 60 4 ≠ crcOf (xs.take 60)) := by
              show _ ≠ _
              rw [HQ6.out, HQ.out]; exact hsum
            have hb : ((q6 : Int) == (q : Int)) = false := by simpa using (by omega : ¬ (q6 : Int) = (q : Int))
            have hb2 : (q6 == q) = false := by simpa using hsum
            clear hsum
            go_wp2_with fail
            refine (demand_no _).mono ?_
            rintro e w12 ⟨rfl, rfl⟩
            exact ⟨rfl, recOut_no (recB_sum HS.out) i11.bel⟩
        · have b9 : Below w.heap.size w w9 := i8.bel.trans (k9.toBelow _ i8.bel.size (fun b e => by omega))
          exact ⟨rfl, recOut_no (recB_zeros (by rw [HM.out]; exact hz)) b9⟩
    · refine (snaps_no w5 m _ _ (by omega) hm).mono ?_
      rintro e w' ⟨rfl, rfl⟩
      exact ⟨rfl, recOut_no (recB_many (by rw [HM.out]; omega)) i5.bel⟩
  · have hb : ((q0 : Int) == 1280459075) = false := by simpa using (by omega : ¬ (q0 : Int) = 1280459075)
    have HN : Hid (num xs 0 4 ≠ 1280459075) := by
      show num xs 0 4 ≠ _
      have := HQ0.out
      rw [show num xs 0 4 = q0 from this]
      exact hmark
    clear hmark
    go_wp2_with fail
    refine (demand_no _).mono ?_
    rintro e w' ⟨rfl, rfl⟩
    exact ⟨rfl, recOut_no (recB_mark HN.out) i2.bel⟩
end Go.Proofs.YtebecpjecchfoaaGreatDoor
namespace Go.Proofs.YtebecpjecchfoaaGreatDoor
open Go.RowKit

theorem catch_idle (p q : Addr) (w : World) :
    CallsD Tryz.prog 195 #[.pointer (some p), .pointer (some q)] .returning w fun e u' w' => e = .returned (.tuple #[]) ∧ u' = .returning ∧ w' = w := by
  refine callsD_of_wpS Tryz.func195 rfl fun c₀ cs hu => ?_
  apply wpS_seq
  apply wpS_region
  simp [wpOpsS, go_sem, recoverD, hu, Tryz.ntmps195, Exit.thenS]
  refine wpS_cond (t := false) (by simp [Act.eval, Array.replicate]) ?_
  simp only [Bool.false_eq_true, if_false]
  refine wpS_of_wp (wp_skip ?_)
  cases c₀
  simp_all [bodyPostS, results, Tryz.results195]

theorem catch_panicking (b : Nat) (x y z : Value) (u : TypeId) (pv : Value) (older : List PanicEntry) (w : World) (h0 : w.cell? ⟨b, 0, none⟩ = some x) (h1 : w.cell? ⟨b, 1, none⟩ = some y) (h2 : w.cell? ⟨b + 1, 0, none⟩ = some z)
    (z0 : w.frozen? ⟨b, 0, none⟩ = false) (z1 : w.frozen? ⟨b, 1, none⟩ = false) (z2 : w.frozen? ⟨b + 1, 0, none⟩ = false) :
    CallsD Tryz.prog 195 #[.pointer (some ⟨b, 0, none⟩), .pointer (some ⟨b + 1, 0, none⟩)] (.panicking ({ v := .iface u pv, recovered := false } :: older)) w fun e u' w' =>
      e = .returned (.tuple #[]) ∧ u' = .panicking ({ v := .iface u pv, recovered := true } :: older) ∧ w' = ((w.setCell ⟨b, 0, none⟩ (.int .u64 0)).setCell ⟨b, 1, none⟩ (.slice none 0 0)).setCell ⟨b + 1, 0, none⟩ (.int .i64 30) := by
  refine callsD_of_wpS Tryz.func195 rfl fun c₀ cs hu => ?_
  apply wpS_seq
  apply wpS_region
  simp [wpOpsS, go_sem, recoverD, hu, Tryz.ntmps195, Exit.thenS]
  refine wpS_cond (t := true) (by simp [Act.eval, Array.replicate]) ?_
  simp only [if_true]
  apply wpS_region
  simp [wpOpsS, go_sem, h0, h1, h2, z0, z1, z2, bodyPostS, results, Tryz.results195]
theorem rec_any (A : Option Addr) (xs : List UInt8) (c : Nat) (w : World) (hx : BR w w.heap.size A xs) (hc : xs.length ≤ c) :
    Calls Tryz.prog 196 #[.slice A xs.length c] w (RecOut w xs) := by
  by_cases h : xs.length = 64
  · rw [h]; exact rec_main A xs c w hx h (by omega)
  · exact rec_len A xs c w h

/-- The two named results. -/
def decW (w : World) : World := (w.alloc (.cells #[.int .u64 0, .slice none 0 0] 138)).alloc (.cells #[.int .i64 0] 26)
theorem decW_facts (w w1 : World) (hb : Below (decW w).heap.size (decW w) w1) :
    w1.heap[w.heap.size]? = some (.cells #[.int .u64 0, .slice none 0 0] 138 (0, 0)) ∧ w1.heap[w.heap.size + 1]? = some (.cells #[.int .i64 0] 26 (0, 0)) ∧ Below w.heap.size w w1 := by
  have h0 : (decW w).heap[w.heap.size]? = some (.cells #[.int .u64 0, .slice none 0 0] 138 (0, 0)) := by unfold decW; rw [Below.heap_alloc _ _ _ (by simp)]; exact heap_alloc_new _ _
  have h1 : (decW w).heap[w.heap.size + 1]? = some (.cells #[.int .i64 0] 26 (0, 0)) := blk_at_last _ _ _ (by simp)
  have b0 : Below w.heap.size w (decW w) := ((Below.refl _ _).alloc (Nat.le_refl _) _).alloc (by simp) _
  exact ⟨(hb.block _ (Array.getElem?_eq_some_iff.1 h0).1).trans h0, (hb.block _ (Array.getElem?_eq_some_iff.1 h1).1).trans h1, b0.trans (hb.mono b0.size)⟩
theorem dec_keeps (w w1 : World) (x y z : Value) : Keeps (fun k => k = w.heap.size ∨ k = w.heap.size + 1) w1 (((w1.setCell ⟨w.heap.size, 0, none⟩ x).setCell ⟨w.heap.size, 1, none⟩ y).setCell ⟨w.heap.size + 1, 0, none⟩ z) :=
  ((Keeps.setCell (fun k => k = w.heap.size ∨ k = w.heap.size + 1) _ _ _ (.inl rfl)).trans (Keeps.setCell (fun k => k = w.heap.size ∨ k = w.heap.size + 1) _ _ _ (.inl rfl))).trans (Keeps.setCell (fun k => k = w.heap.size ∨ k = w.heap.size + 1) _ _ _ (.inr rfl))

theorem SR.keeps {w w' : World} {F : Nat → Prop} {g : Nat} {l : List Sn} (h : SR w w.heap.size (some ⟨g, 0, none⟩) l) (k : Keeps F w w') (hg : ¬ F g) : SR w' w'.heap.size (some ⟨g, 0, none⟩) l := by
  intro hn
  obtain ⟨ad, e, hb, hc⟩ := h hn
  cases e
  refine ⟨_, rfl, Nat.lt_of_lt_of_le hb k.size, fun i s hs => ?_⟩
  have key : ∀ p : Addr, p.block = g → w'.cell? p = w.cell? p := fun p hp => World.cell?_of_block (by rw [hp]; exact k.block g hb hg)
  exact ⟨(key _ (by rw [block_add])).trans (hc i s hs).1, (key _ (by show ((⟨g, 0, none⟩ : Addr).add (i * 2)).block = g; rw [block_add])).trans (hc i s hs).2⟩
theorem dec_size (w : World) : (decW w).heap.size = w.heap.size + 2 := by unfold decW; simp

set_option maxRecDepth 100000 in
set_option maxHeartbeats 800000 in
theorem dec_any (A : Option Addr) (xs : List UInt8) (c : Nat) (w : World) (hx : BR w w.heap.size A xs) (hc : xs.length ≤ c) :
    Calls Tryz.prog 166 #[.slice A xs.length c] w (GivesDec w xs) := by
  have hmf : ∀ (fn : Fn) (first cap : Array Value) (w : World), (Instr.makeFunc fn first cap).run Tryz.prog w = .ok (.func fn first cap) w := fun _ _ _ _ => rfl
  have hx0 : BR (decW w) (decW w).heap.size A xs := (hx.alloc (Nat.le_refl _) _ |>.alloc (by simp) _).more (by unfold decW; simp; omega)
  have hrec := rec_any A xs c (decW w) hx0 hc
  clear hx0
  go_enter_defers Tryz.func166, Tryz.ntmps166
  go_wp2_with fail
  refine hrec.mono ?_
  clear hrec
  rintro e w1 ⟨hb, ⟨hy, g, c1, rfl, hg, hs⟩ | ⟨hn, rfl⟩⟩
  · obtain ⟨e0, e1, bel⟩ := decW_facts w w1 hb
    have r0 : w1.cell? ⟨w.heap.size, 0, none⟩ = some (.int .u64 0) := by rw [cell_of_row _ _ _ _ _ _ e0]; rfl
    have r1 : w1.cell? ⟨w.heap.size, 1, none⟩ = some (.slice none 0 0) := by rw [cell_of_row _ _ _ _ _ _ e0]; rfl
    have r2 : w1.cell? ⟨w.heap.size + 1, 0, none⟩ = some (.int .i64 0) := by rw [cell_of_row _ _ _ _ _ _ e1]; rfl
    have z0 := frozen_of_row w1 w.heap.size 0 _ _ e0
    have z1 := frozen_of_row w1 w.heap.size 1 _ _ e0
    have z2 := frozen_of_row w1 (w.heap.size + 1) 0 _ _ e1
    clear e0 e1
    rw [dec_size] at hg
    have HY := Lib.hid hy
    clear hy hb hc hx
    go_wp2_with fail
    refine leaves_cons (f := 195) (args := #[.pointer (some ⟨w.heap.size, 0, none⟩), .pointer (some ⟨w.heap.size + 1, 0, none⟩)]) (by simp) (by simp [go_sem]) ?_
    refine (catch_idle ⟨w.heap.size, 0, none⟩ ⟨w.heap.size + 1, 0, none⟩ _).mono ?_
    rintro e u' w'' ⟨rfl, rfl, rfl⟩
    have kk := dec_keeps w w1 (.int .u64 (genOf xs : Int)) (.slice (some ⟨g, 0, none⟩) (manyOf xs) c1) (.int .i64 0)
    have hfin := givesDec_yes (w := w) (b := xs) (c := c1) (n := manyOf xs) ((recB_decB xs).symm.trans HY.out) (rdL_len _ _) (hs.keeps kk (by omega)) (bel.trans (kk.toBelow _ bel.size (fun b e => by omega))) (fun ad e => by cases e; simp; omega)
    simp [Leaves, settle, results, Tryz.results166, go_sem, r0, r1, r2]
    exact hfin
  · obtain ⟨e0, e1, bel⟩ := decW_facts w w1 hb
    have r0 : w1.cell? ⟨w.heap.size, 0, none⟩ = some (.int .u64 0) := by rw [cell_of_row _ _ _ _ _ _ e0]; rfl
    have r1 : w1.cell? ⟨w.heap.size, 1, none⟩ = some (.slice none 0 0) := by rw [cell_of_row _ _ _ _ _ _ e0]; rfl
    have r2 : w1.cell? ⟨w.heap.size + 1, 0, none⟩ = some (.int .i64 0) := by rw [cell_of_row _ _ _ _ _ _ e1]; rfl
    have z0 := frozen_of_row w1 w.heap.size 0 _ _ e0
    have z1 := frozen_of_row w1 w.heap.size 1 _ _ e0
    have z2 := frozen_of_row w1 (w.heap.size + 1) 0 _ _ e1
    clear e0 e1
    refine leaves_cons (f := 195) (args := #[.pointer (some ⟨w.heap.size, 0, none⟩), .pointer (some ⟨w.heap.size + 1, 0, none⟩)]) (by simp) (by simp [go_sem]) ?_
    refine (catch_panicking w.heap.size _ _ _ _ _ [] _ r0 r1 r2 z0 z1 z2).mono ?_
    rintro e u' w'' ⟨rfl, rfl, rfl⟩
    have kk := dec_keeps w w1 (.int .u64 0) (.slice none 0 0) (.int .i64 30)
    have hfin := givesDec_no (w := w) (b := xs) ((recB_decB xs).symm.trans hn) (bel.trans (kk.toBelow _ bel.size (fun b e => by omega)))
    simp [Leaves, settle, results, Tryz.results166, go_sem, r0, r1, r2]
    exact hfin
end Go.Proofs.YtebecpjecchfoaaGreatDoor
namespace Go.Proofs.YtebecpjecchfoaaGreatDoor
open Go.RowKit

/-- The two roots in their blocks. -/
structure SameInv (w wr : World) (g : Nat) (A : Option Addr) (n c : Nat) (g' : Nat) (A' : Option Addr) (n' c' : Nat) : Prop where
  b0 : wr.heap[w.heap.size]? = some (.cells #[.int .u64 (g : Int), .slice A n c] 138 (0, 0))
  b1 : wr.heap[w.heap.size + 1]? = some (.cells #[.int .u64 (g' : Int), .slice A' n' c'] 138 (0, 0))
  bel : Below w.heap.size w wr
theorem SameInv.drewN {w wr : World} {g : Nat} {A : Option Addr} {n c : Nat} {g' : Nat} {A' : Option Addr} {n' c' : Nat} (h : SameInv w wr g A n c g' A' n' c') (j : Nat) : SameInv w (wr.drewN j) g A n c g' A' n' c' :=
  ⟨h.b0, h.b1, ⟨h.bel.os, h.bel.tape, h.bel.output, h.bel.size, h.bel.block⟩⟩
end Go.Proofs.YtebecpjecchfoaaGreatDoor
namespace Go.Proofs.YtebecpjecchfoaaGreatDoor
open Go.RowKit

/-- Which of two counts: 0 none, 1 the second, 2 the first. -/
def chW (a b : List UInt8) : Nat := if decB a = false ∧ decB b = false then 0 else if decB a = false ∨ (decB b = true ∧ genOf a < genOf b) then 1 else 2
def chB (a b : List UInt8) : List UInt8 := if chW a b = 1 then b else a
def chN (a b : List UInt8) : Int := if chW a b = 1 then 1 else 0
def chE (a b : List UInt8) : Int := if chW a b = 0 then 30 else 0
/-- What Choose hands back. -/
def GivesCh (w : World) (a b : List UInt8) (e : Ending) (w' : World) : Prop :=
  ∃ R c, e = .returned (.tuple #[agR (decG (chB a b)) R (decS (chB a b)).length c, .int .i64 (chN a b), .int .i64 (chE a b)]) ∧ SR w' w'.heap.size R (decS (chB a b)) ∧ Below w.heap.size w w'
/-- The same, and where the checkpoints lie. -/
def GivesChL (w : World) (a b : List UInt8) (e : Ending) (w' : World) : Prop :=
  ∃ R c, e = .returned (.tuple #[agR (decG (chB a b)) R (decS (chB a b)).length c, .int .i64 (chN a b), .int .i64 (chE a b)]) ∧ SR w' w'.heap.size R (decS (chB a b)) ∧ Below w.heap.size w w' ∧ ∀ ad, R = some ad → w.heap.size < ad.block
theorem GivesChL.drop {w w' : World} {a b : List UInt8} {e : Ending} (h : GivesChL w a b e w') : GivesCh w a b e w' := by
  obtain ⟨R, c, h1, h2, h3, _⟩ := h
  exact ⟨R, c, h1, h2, h3⟩
theorem rdecE_is (b : List UInt8) : (decB b = true ∧ rdecE b = 0) ∨ (decB b = false ∧ rdecE b = 30) := by
  unfold rdecE
  cases decB b
  · right; simp
  · left; simp
/-- The result's cells, all that was there. -/
structure ChInv (w wr : World) : Prop where
  res : wr.heap[w.heap.size]? = some (.cells #[.int .u64 0, .slice none 0 0] 138 (0, 0))
  bel : Below w.heap.size w wr
theorem ChInv.lt {w wr : World} (h : ChInv w wr) : w.heap.size < wr.heap.size := (Array.getElem?_eq_some_iff.1 h.res).1
theorem ChInv.alloc {w wr : World} (h : ChInv w wr) (o : Obj) : ChInv w (wr.alloc o) := ⟨(Below.heap_alloc _ _ _ h.lt).trans h.res, h.bel.alloc h.bel.size _⟩
theorem ChInv.below {w wr w2 : World} (h : ChInv w wr) (hb : Below wr.heap.size wr w2) : ChInv w w2 := ⟨(hb.block _ h.lt).trans h.res, h.bel.trans (hb.mono h.bel.size)⟩
theorem ChInv.start (w w1 : World) (hb : Below (w.alloc (.cells #[.int .u64 0, .slice none 0 0] 138)).heap.size (w.alloc (.cells #[.int .u64 0, .slice none 0 0] 138)) w1) : ChInv w w1 :=
  ChInv.below (wr := w.alloc (.cells #[.int .u64 0, .slice none 0 0] 138)) ⟨heap_alloc_new _ _, (Below.refl _ _).alloc (Nat.le_refl _) _⟩ hb

theorem SR.keepsA {w w' : World} {F : Nat → Prop} {R : Option Addr} {l : List Sn} (h : SR w w.heap.size R l) (k : Keeps F w w') (hg : ∀ ad, R = some ad → ¬ F ad.block) : SR w' w'.heap.size R l := by
  intro hn
  obtain ⟨ad, e, hb, hc⟩ := h hn
  refine ⟨ad, e, Nat.lt_of_lt_of_le hb k.size, fun i s hs => ?_⟩
  have key : ∀ p : Addr, p.block = ad.block → w'.cell? p = w.cell? p := fun p hp => World.cell?_of_block (by rw [hp]; exact k.block _ hb (hg ad e))
  exact ⟨(key _ (by rw [block_add])).trans (hc i s hs).1, (key _ (by show (ad.add (i * 2)).block = _; rw [block_add])).trans (hc i s hs).2⟩
theorem ch_end {w w4 : World} {R : Option Addr} {l : List Sn} (i : ChInv w w4) (s : SR w4 w4.heap.size R l) (a : ∀ ad, R = some ad → w.heap.size < ad.block) (u v : Value) :
    SR ((w4.setCell ⟨w.heap.size, 0, none⟩ u).setCell ⟨w.heap.size, 1, none⟩ v) ((w4.setCell ⟨w.heap.size, 0, none⟩ u).setCell ⟨w.heap.size, 1, none⟩ v).heap.size R l ∧ Below w.heap.size w ((w4.setCell ⟨w.heap.size, 0, none⟩ u).setCell ⟨w.heap.size, 1, none⟩ v) := by
  have k1 : Keeps (fun k => k = w.heap.size) w4 ((w4.setCell ⟨w.heap.size, 0, none⟩ u).setCell ⟨w.heap.size, 1, none⟩ v) := (Keeps.setCell (fun k => k = w.heap.size) _ _ _ rfl).trans (Keeps.setCell (fun k => k = w.heap.size) _ _ _ rfl)
  exact ⟨s.keepsA k1 fun ad e h => by have := a ad e; omega, i.bel.trans (k1.toBelow _ i.bel.size (fun k e => by omega))⟩
theorem chW_both {a b : List UInt8} (h1 : decB a = true) (h2 : decB b = true) (h : decG a < decG b) : chW a b = 1 := by
  have e1 : decG a = genOf a := by simp [decG, h1]
  have e2 : decG b = genOf b := by simp [decG, h2]
  rw [e1, e2] at h
  simp [chW, h1, h2, h]
theorem chW_first {a b : List UInt8} (h1 : decB a = true) (h : decB b = false ∨ ¬ decG a < decG b) : chW a b = 2 := by
  have e1 : decG a = genOf a := by simp [decG, h1]
  cases h2 : decB b
  · simp [chW, h1, h2]
  · have e2 : decG b = genOf b := by simp [decG, h2]
    rw [h2, e1, e2] at h
    rcases h with h | h
    · cases h
    · simp [chW, h1, h2, h]
theorem chW_second {a b : List UInt8} (h1 : decB a = false) (h2 : decB b = true) : chW a b = 1 := by simp [chW, h1, h2]
theorem givesCh_second {w w' : World} {a b : List UInt8} {g : Nat} {R : Option Addr} {c : Nat} (h : chW a b = 1) (hg : decG b = g) (hs : SR w' w'.heap.size R (decS b) ∧ Below w.heap.size w w') (ha : ∀ ad, R = some ad → w.heap.size < ad.block) : GivesChL w a b (.returned (.tuple #[.agg #[.int .u64 (g : Int), .slice R (decS b).length c], .int .i64 1, .int .i64 0])) w' := by
  subst hg
  have e1 : chB a b = b := by simp [chB, h]
  have e2 : chN a b = 1 := by simp [chN, h]
  have e3 : chE a b = 0 := by simp [chE, h]
  exact ⟨R, c, by rw [e1, e2, e3], by rw [e1]; exact hs.1, hs.2, ha⟩
theorem givesCh_first {w w' : World} {a b : List UInt8} {g : Nat} {R : Option Addr} {c : Nat} (h : chW a b = 2) (hg : decG a = g) (hs : SR w' w'.heap.size R (decS a) ∧ Below w.heap.size w w') (ha : ∀ ad, R = some ad → w.heap.size < ad.block) : GivesChL w a b (.returned (.tuple #[.agg #[.int .u64 (g : Int), .slice R (decS a).length c], .int .i64 0, .int .i64 0])) w' := by
  subst hg
  have e1 : chB a b = a := by simp [chB, h]
  have e2 : chN a b = 0 := by simp [chN, h]
  have e3 : chE a b = 0 := by simp [chE, h]
  exact ⟨R, c, by rw [e1, e2, e3], by rw [e1]; exact hs.1, hs.2, ha⟩
theorem givesCh_none {w w' : World} {a b : List UInt8} (h1 : decB a = false) (h2 : decB b = false) (hb : Below w.heap.size w w') : GivesChL w a b (.returned (.tuple #[.agg #[.int .u64 0, .slice none 0 0], .int .i64 0, .int .i64 30])) w' := by
  have h : chW a b = 0 := by simp [chW, h1, h2]
  have e1 : chB a b = a := by simp [chB, h]
  have e2 : chN a b = 0 := by simp [chN, h]
  have e3 : chE a b = 30 := by simp [chE, h]
  have e4 : decG a = 0 := by simp [decG, h1]
  have e5 : decS a = [] := by simp [decS, h1]
  exact ⟨none, 0, by rw [e1, e2, e3, e4, e5]; rfl, by rw [e1, e5]; exact SR.nil, hb, fun ad e => by cases e⟩

set_option maxRecDepth 100000 in
set_option maxHeartbeats 1000000 in
theorem chooseL_any (A : Option Addr) (xs : List UInt8) (c : Nat) (A' : Option Addr) (ys : List UInt8) (c' : Nat) (w : World) (hx : BR w w.heap.size A xs) (hy : BR w w.heap.size A' ys) (hc : xs.length ≤ c) (hc' : ys.length ≤ c') :
    Calls Tryz.prog 124 #[.slice A xs.length c, .slice A' ys.length c'] w (GivesChL w xs ys) := by
  go_enter Tryz.func124, Tryz.ntmps124
  go_wp2_with fail
  refine (dec_any A xs c _ ((hx.alloc (Nat.le_refl _) _).more (by simp)) hc).mono ?_
  rintro e w1 ⟨R1, c1, rfl, s1, b1, a1⟩
  have i1 : ChInv w w1 := ChInv.start w w1 b1
  have a1' : ∀ ad, R1 = some ad → w.heap.size < ad.block := fun ad e => by have := a1 ad e; rw [World.size_alloc] at this; omega
  have hE1 := rdecE_is xs
  clear b1 a1
  generalize hg1 : decG xs = g1 at *
  generalize hd1 : rdecE xs = d1 at *
  have HG1 := Lib.hid hg1
  clear hg1 hd1
  go_wp2_with fail
  have i2 := i1.alloc (.cells #[.int .u64 (g1 : Int), .slice R1 (decS xs).length c1] 138)
  have v2 := heap_alloc_new w1 (.cells #[.int .u64 (g1 : Int), .slice R1 (decS xs).length c1] 138)
  have s2 : SR (w1.alloc (.cells #[.int .u64 (g1 : Int), .slice R1 (decS xs).length c1] 138)) (w1.alloc (.cells #[.int .u64 (g1 : Int), .slice R1 (decS xs).length c1] 138)).heap.size R1 (decS xs) := (s1.keep fun p hp => World.cell?_alloc_lt _ _ p hp).more (by simp)
  have hv2 := i1.lt
  generalize w1.alloc (.cells #[.int .u64 (g1 : Int), .slice R1 (decS xs).length c1] 138) = w2 at *
  generalize w1.heap.size = gv at *
  clear i1 s1
  refine (dec_any A' ys c' _ ((hy.below i2.bel).more i2.bel.size) hc').mono ?_
  rintro e w3 ⟨R3, c3, rfl, s3, b3, a3⟩
  have a3' : ∀ ad, R3 = some ad → w.heap.size < ad.block := fun ad e => Nat.lt_of_lt_of_le i2.lt (a3 ad e)
  have i3 := i2.below b3
  have hgv : gv < w2.heap.size := (Array.getElem?_eq_some_iff.1 v2).1
  have v3 := (b3.block _ hgv).trans v2
  have s2' : SR w3 w3.heap.size R1 (decS xs) := (s2.below b3).more b3.size
  have hgv3 := Nat.lt_of_lt_of_le hgv b3.size
  have hE2 := rdecE_is ys
  clear i2 b3 v2 s2 a3 hgv
  generalize hg3 : decG ys = g3 at *
  generalize hd3 : rdecE ys = d3 at *
  have HG3 := Lib.hid hg3
  clear hg3 hd3
  have i4 := i3.alloc (.cells #[.int .u64 (g3 : Int), .slice R3 (decS ys).length c3] 138)
  have v4 := heap_alloc_new w3 (.cells #[.int .u64 (g3 : Int), .slice R3 (decS ys).length c3] 138)
  have s4 : SR (w3.alloc (.cells #[.int .u64 (g3 : Int), .slice R3 (decS ys).length c3] 138)) (w3.alloc (.cells #[.int .u64 (g3 : Int), .slice R3 (decS ys).length c3] 138)).heap.size R3 (decS ys) := (s3.keep fun p hp => World.cell?_alloc_lt _ _ p hp).more (by simp)
  have s2'' : SR (w3.alloc (.cells #[.int .u64 (g3 : Int), .slice R3 (decS ys).length c3] 138)) (w3.alloc (.cells #[.int .u64 (g3 : Int), .slice R3 (decS ys).length c3] 138)).heap.size R1 (decS xs) := (s2'.keep fun p hp => World.cell?_alloc_lt _ _ p hp).more (by simp)
  have v3' : (w3.alloc (.cells #[.int .u64 (g3 : Int), .slice R3 (decS ys).length c3] 138)).heap[gv]? = some (.cells #[.int .u64 (g1 : Int), .slice R1 (decS xs).length c1] 138 (0, 0)) := (Below.heap_alloc _ _ _ hgv3).trans v3
  have f0 : (w3.alloc (.cells #[.int .u64 (g3 : Int), .slice R3 (decS ys).length c3] 138)).cell? ⟨w.heap.size, 0, none⟩ = some (.int .u64 0) := by rw [cell_of_row _ _ _ _ _ _ i4.res]; rfl
  have f1 : (w3.alloc (.cells #[.int .u64 (g3 : Int), .slice R3 (decS ys).length c3] 138)).cell? ⟨w.heap.size, 1, none⟩ = some (.slice none 0 0) := by rw [cell_of_row _ _ _ _ _ _ i4.res]; rfl
  have z0 := frozen_of_row _ w.heap.size 0 _ _ i4.res
  have z1 := frozen_of_row _ w.heap.size 1 _ _ i4.res
  have x0 : (w3.alloc (.cells #[.int .u64 (g3 : Int), .slice R3 (decS ys).length c3] 138)).cell? ⟨gv, 0, none⟩ = some (.int .u64 (g1 : Int)) := by rw [cell_of_row _ _ _ _ _ _ v3']; rfl
  have x1 : (w3.alloc (.cells #[.int .u64 (g3 : Int), .slice R3 (decS ys).length c3] 138)).cell? ⟨gv, 1, none⟩ = some (.slice R1 (decS xs).length c1) := by rw [cell_of_row _ _ _ _ _ _ v3']; rfl
  have y0 : (w3.alloc (.cells #[.int .u64 (g3 : Int), .slice R3 (decS ys).length c3] 138)).cell? ⟨w3.heap.size, 0, none⟩ = some (.int .u64 (g3 : Int)) := by rw [cell_of_row _ _ _ _ _ _ v4]; rfl
  have y1 : (w3.alloc (.cells #[.int .u64 (g3 : Int), .slice R3 (decS ys).length c3] 138)).cell? ⟨w3.heap.size, 1, none⟩ = some (.slice R3 (decS ys).length c3) := by rw [cell_of_row _ _ _ _ _ _ v4]; rfl
  clear v3 s3 s2' i3 v3' v4 hgv3
  rcases hE1 with ⟨hb1, rfl⟩ | ⟨hb1, rfl⟩
  · rcases hE2 with ⟨hb2, rfl⟩ | ⟨hb2, rfl⟩
    · have HB1 := Lib.hid hb1
      have HB2 := Lib.hid hb2
      clear hb1 hb2
      by_cases hgg : g1 < g3
      · go_wp2_with fail
        refine bodyPost_ret (v := .tuple #[.agg #[.int .u64 (g3 : Int), .slice R3 (decS ys).length c3], .int .i64 1, .int .i64 0]) (by simp [results, Tryz.results124, go_sem, f0, f1]) rfl ?_
        exact givesCh_second (chW_both HB1.out HB2.out (by rw [HG1.out, HG3.out]; exact hgg)) HG3.out (ch_end i4 s4 a3' _ _) a3'
      · go_wp2_with fail
        refine bodyPost_ret (v := .tuple #[.agg #[.int .u64 (g1 : Int), .slice R1 (decS xs).length c1], .int .i64 0, .int .i64 0]) (by simp [results, Tryz.results124, go_sem, f0, f1]) rfl ?_
        exact givesCh_first (chW_first HB1.out (by rw [HG1.out, HG3.out]; exact .inr hgg)) HG1.out (ch_end i4 s2'' a1' _ _) a1'
    · have HB1 := Lib.hid hb1
      have HB2 := Lib.hid hb2
      clear hb1 hb2
      go_wp2_with fail
      refine bodyPost_ret (v := .tuple #[.agg #[.int .u64 (g1 : Int), .slice R1 (decS xs).length c1], .int .i64 0, .int .i64 0]) (by simp [results, Tryz.results124, go_sem, f0, f1]) rfl ?_
      exact givesCh_first (chW_first HB1.out (.inl HB2.out)) HG1.out (ch_end i4 s2'' a1' _ _) a1'
  · rcases hE2 with ⟨hb2, rfl⟩ | ⟨hb2, rfl⟩
    · have HB1 := Lib.hid hb1
      have HB2 := Lib.hid hb2
      clear hb1 hb2
      go_wp2_with fail
      refine bodyPost_ret (v := .tuple #[.agg #[.int .u64 (g3 : Int), .slice R3 (decS ys).length c3], .int .i64 1, .int .i64 0]) (by simp [results, Tryz.results124, go_sem, f0, f1]) rfl ?_
      exact givesCh_second (chW_second HB1.out HB2.out) HG3.out (ch_end i4 s4 a3' _ _) a3'
    · have HB1 := Lib.hid hb1
      have HB2 := Lib.hid hb2
      clear hb1 hb2
      go_wp2_with fail
      refine bodyPost_ret (v := .tuple #[.agg #[.int .u64 0, .slice none 0 0], .int .i64 0, .int .i64 30]) (by simp [results, Tryz.results124, go_sem, f0, f1]) rfl ?_
      exact givesCh_none HB1.out HB2.out (ch_end i4 s4 a3' _ _).2
end Go.Proofs.YtebecpjecchfoaaGreatDoor
