/-
  Merged by wip/tools/merge.py: Rt RtMay RtRefMay RtRefEnc RtPlain RtEnc
-/
import Derived.Test.YtebecpjecchfoaaGreatDoorGLe
import Derived.Test.YtebecpjecchfoaaGreatDoorCrc
import Derived.Outline
import Derived.Deep.QuietTactic
import Derived.BigQuiet
import Derived.IntWalk
import Derived.Test.YtebecpjecchfoaaGreatDoorGA
import Derived.StillTailTactics
namespace Go.Proofs.YtebecpjecchfoaaGreatDoor
open Go.RowKit

/-- A checkpoint: its generation, its tree's top. -/
structure Sn where
  g : Nat
  t : Int
deriving DecidableEq
def sn0 : Sn := ⟨0, 0⟩
/-- The checkpoints lie at 'A' (asked only where there are any), below block B. -/
def SR (w : World) (B : Nat) (A : Option Addr) (l : List Sn) : Prop :=
  l ≠ [] → ∃ ad, A = some ad ∧ ad.block < B ∧ ∀ k s, l[k]? = some s → w.cell? (ad.add (k * 2)) = some (.int .u64 (s.g : Int)) ∧ w.cell? ⟨(ad.add (k * 2)).block, (ad.add (k * 2)).off + 1, none⟩ = some (.int .i64 s.t)
theorem SR.at_ {w : World} {B : Nat} {A : Option Addr} {l : List Sn} (h : SR w B A l) {k : Nat} (hk : k < l.length) :
    ∃ ad, A = some ad ∧ ad.block < B ∧ w.cell? (ad.add (k * 2)) = some (.int .u64 ((l.getD k sn0).g : Int)) ∧ w.cell? ⟨(ad.add (k * 2)).block, (ad.add (k * 2)).off + 1, none⟩ = some (.int .i64 (l.getD k sn0).t) := by
  obtain ⟨ad, e, hb, hc⟩ := h (by intro e; subst e; simp at hk)
  have := hc k l[k] (List.getElem?_eq_getElem hk)
  exact ⟨ad, e, hb, by simpa [List.getD_eq_getElem?_getD, List.getElem?_eq_getElem hk] using this⟩
theorem SR.keep {w w' : World} {B : Nat} {A : Option Addr} {l : List Sn} (h : SR w B A l) (hk : ∀ p : Addr, p.block < B → w'.cell? p = w.cell? p) : SR w' B A l := by
  intro hn
  obtain ⟨ad, e, hb, hc⟩ := h hn
  exact ⟨ad, e, hb, fun k s hs => ⟨(hk _ (by rw [block_add]; exact hb)).trans (hc k s hs).1, (hk _ (by rw [block_add]; exact hb)).trans (hc k s hs).2⟩⟩
theorem SR.more {w : World} {B B' : Nat} {A : Option Addr} {l : List Sn} (h : SR w B A l) (hB : B ≤ B') : SR w B' A l := by
  intro hn
  obtain ⟨ad, e, hb, hc⟩ := h hn
  exact ⟨ad, e, by omega, hc⟩
theorem SR.below {w w' : World} {B : Nat} {A : Option Addr} {l : List Sn} (h : SR w B A l) (hb : Below B w w') : SR w' B A l := h.keep fun _ hp => hb.cell hp
theorem SR.nil {w : World} {B : Nat} {A : Option Addr} : SR w B A [] := fun h => absurd rfl h

/-- A root as a value. -/
abbrev agR (g : Nat) (A : Option Addr) (n c : Nat) : Value := .agg #[.int .u64 (g : Int), .slice A n c]

/-- A top that may be. -/
def topB (t : Int) : Bool := decide (0 ≤ t) && decide (t < 2000) && decide (t ≠ 1)
/-- The i-th checkpoint's top may be, and its generation is above the one ahead of it. -/
def okAt (l : List Sn) (i : Nat) : Bool := topB (l.getD i sn0).t && (decide (i = 0) || decide ((l.getD (i - 1) sn0).g < (l.getD i sn0).g))
def okTo (l : List Sn) (k : Nat) : Bool := (List.range k).all (okAt l)
theorem okTo_succ (l : List Sn) (k : Nat) : okTo l (k + 1) = (okTo l k && okAt l k) := by simp [okTo, List.range_succ]
/-- Whether a root may be. -/
def mayB (g : Nat) (l : List Sn) : Bool := decide (1 ≤ l.length) && decide (l.length ≤ 4) && okTo l l.length && decide ((l.getD (l.length - 1) sn0).g ≤ g)

theorem okTo_le (l : List Sn) (j k : Nat) (h : okTo l k = true) (hj : j ≤ k) : okTo l j = true := by
  unfold okTo at *
  rw [List.all_eq_true] at *
  intro x hx
  exact h x (by simp at *; omega)
theorem mayB_no (g : Nat) (l : List Sn) (k : Nat) (hk : k < l.length) (h : okAt l k = false) : mayB g l = false := by
  have h2 : okTo l l.length = false := by
    rw [Bool.eq_false_iff]
    intro h1
    have := okTo_le l (k + 1) l.length h1 (by omega)
    rw [okTo_succ, h] at this
    simp at this
  simp [mayB, h2]
theorem okAt_top (l : List Sn) (k : Nat) (h : topB (l.getD k sn0).t = false) : okAt l k = false := by simp only [okAt, h, Bool.false_and]
theorem okAt_zero (l : List Sn) (h : topB (l.getD 0 sn0).t = true) : okAt l 0 = true := by simp only [okAt, h]; rfl
theorem okAt_more (l : List Sn) (k : Nat) (h0 : 1 ≤ k) (h : topB (l.getD k sn0).t = true) : okAt l k = decide ((l.getD (k - 1) sn0).g < (l.getD k sn0).g) := by
  have : decide (k = 0) = false := by simp; omega
  simp only [okAt, h, this, Bool.false_or, Bool.true_and]

theorem mayB_len (g : Nat) (l : List Sn) (h : ¬ (1 ≤ l.length ∧ l.length ≤ 4)) : mayB g l = false := by
  rw [Bool.eq_false_iff]; intro h2; simp [mayB] at h2; omega
theorem mayB_end (g : Nat) (l : List Sn) (h1 : 1 ≤ l.length) (h4 : l.length ≤ 4) (h : okTo l l.length = true) : mayB g l = decide ((l.getD (l.length - 1) sn0).g ≤ g) := by
  simp only [mayB, h, Bool.and_true, decide_eq_true h1, decide_eq_true h4, Bool.true_and]

theorem okTo_at {l : List Sn} {k i : Nat} (h : okTo l k = true) (hi : i < k) : okAt l i = true := by
  unfold okTo at h
  rw [List.all_eq_true] at h
  exact h i (by simpa using hi)
theorem mayB_parts {g : Nat} {l : List Sn} (h : mayB g l = true) : 1 ≤ l.length ∧ l.length ≤ 4 ∧ okTo l l.length = true ∧ (l.getD (l.length - 1) sn0).g ≤ g := by
  simp only [mayB, Bool.and_eq_true, decide_eq_true_eq] at h
  exact ⟨h.1.1.1, h.1.1.2, h.1.2, h.2⟩
/-- A record's bytes up to the k-th checkpoint. -/
def headL (g n : Nat) : List UInt8 := putL (putL (putL (List.replicate 64 0) 0 1280459075 4) 4 g 8) 12 n 2
def snapL (g : Nat) (l : List Sn) : Nat → List UInt8
  | 0 => headL g l.length
  | k + 1 => putL (putL (snapL g l k) (14 + 10 * k) (l.getD k sn0).g 8) (22 + 10 * k) (l.getD k sn0).t.toNat 2
def encL (g : Nat) (l : List Sn) : List UInt8 := putL (snapL g l l.length) 60 (crcOf ((snapL g l l.length).take 60)) 4
theorem headL_len (g n : Nat) : (headL g n).length = 64 := by simp [headL, putL_len]
theorem snapL_len (g : Nat) (l : List Sn) (k : Nat) : (snapL g l k).length = 64 := by
  induction k with
  | zero => exact headL_len _ _
  | succ k ih => rw [snapL, putL_len, putL_len, ih]
theorem encL_len (g : Nat) (l : List Sn) : (encL g l).length = 64 := by rw [encL, putL_len, snapL_len]
end Go.Proofs.YtebecpjecchfoaaGreatDoor
namespace Go.Proofs.YtebecpjecchfoaaGreatDoor
open Go.RowKit

set_option maxRecDepth 100000 in
set_option maxHeartbeats 400000 in
theorem isTop_any (t : Int) (w : World) :
    Calls Tryz.prog 189 #[.int .i64 t] w fun e w' => e = .returned (.bool (topB t)) ∧ w = w' := by
  by_cases h0 : 0 ≤ t
  · by_cases h1 : t < 2000
    · by_cases h2 : t = 1
      · subst h2
        go_enter Tryz.func189, Tryz.ntmps189
        go_wp2
        go_ret
        exact ⟨rfl, rfl⟩
      · have h3 : (t != 1) = true := by simpa using h2
        go_enter Tryz.func189, Tryz.ntmps189
        go_wp2
        go_ret
        exact ⟨ret_bool (by simp [topB, h0, h1, h2]), rfl⟩
    · go_enter Tryz.func189, Tryz.ntmps189
      go_wp2
      go_ret
      exact ⟨ret_bool (by simp [topB]; omega), rfl⟩
  · go_enter Tryz.func189, Tryz.ntmps189
    go_wp2
    go_ret
    exact ⟨ret_bool (by simp [topB]; omega), rfl⟩

theorem isTop_is (t : Int) (b : Bool) (w : World) (h : topB t = b) :
    Calls Tryz.prog 189 #[.int .i64 t] w fun e w' => e = .returned (.bool b) ∧ w' = w := by
  subst h
  exact (isTop_any t w).mono fun _ _ ⟨he, hw⟩ => ⟨he, hw.symm⟩

/-- What the loop keeps: the root's own block, all that was there. -/
structure MayInv (w wr : World) (g : Nat) (A : Option Addr) (n c : Nat) : Prop where
  blk : wr.heap[w.heap.size]? = some (.cells #[.int .u64 (g : Int), .slice A n c] 138 (0, 0))
  bel : Below w.heap.size w wr
theorem MayInv.lt {w wr : World} {g : Nat} {A : Option Addr} {n c : Nat} (h : MayInv w wr g A n c) : w.heap.size < wr.heap.size := (Array.getElem?_eq_some_iff.1 h.blk).1
theorem MayInv.alloc {w wr : World} {g : Nat} {A : Option Addr} {n c : Nat} (h : MayInv w wr g A n c) (o : Obj) : MayInv w (wr.alloc o) g A n c :=
  ⟨(Below.heap_alloc _ _ _ h.lt).trans h.blk, h.bel.alloc h.bel.size _⟩
theorem MayInv.drewN {w wr : World} {g : Nat} {A : Option Addr} {n c : Nat} (h : MayInv w wr g A n c) (j : Nat) : MayInv w (wr.drewN j) g A n c :=
  ⟨by rw [← h.blk]; rfl, ⟨h.bel.os, h.bel.tape, h.bel.output, h.bel.size, h.bel.block⟩⟩

set_option maxRecDepth 100000 in
set_option maxHeartbeats 400000 in
theorem mayBe_any (g : Nat) (A : Option Addr) (l : List Sn) (c : Nat) (w : World) (hx : SR w w.heap.size A l) (hl : l.length ≤ 9223372036854775807) :
    Calls Tryz.prog 158 #[agR g A l.length c] w fun e w' => e = .returned (.bool (mayB g l)) ∧ Below w.heap.size w w' := by
  by_cases hn : 1 ≤ l.length ∧ l.length ≤ 4
  · obtain ⟨hn1, hn4⟩ := hn
    have hb0 : ((l.length : Int) == 0) = false := by simpa using (by omega : ¬ l.length = 0)
    have hb4 : ¬ (4 : Int) < l.length := by omega
    have e0 : l ≠ [] := by intro e; subst e; simp at hn1
    go_enter Tryz.func158, Tryz.ntmps158
    go_wp2
    clear hb0 hb4 e0
    go_loopw [18, 4, 5, 20, 21, 22] (fun i _ _ _ _ _ wr => ∃ k : Nat, k ≤ l.length ∧ i = .int .i64 k ∧ okTo l k = true ∧ MayInv w wr g A l.length c) (fun i _ _ _ _ _ _ => l.length - (intOf i).toNat)
    case atStart => exact ⟨0, by omega, rfl, rfl, heap_alloc_new _ _, (Below.refl _ _).alloc (Nat.le_refl _) _⟩
    case round =>
      obtain ⟨k, hk, rfl, hok, hinv⟩ := hrel
      have HOK := Lib.hid hok
      clear hok
      by_cases hlt : k < l.length
      · have hx0 := (hx.below hinv.bel).more hinv.bel.size
        obtain ⟨ad, rfl, hab, c0, c1⟩ := hx0.at_ hlt
        have HS := Lib.hid (rfl : l.getD k sn0 = l.getD k sn0)
        generalize hse : l.getD k sn0 = s at c0 c1
        have HSE := Lib.hid hse
        clear hse HS
        go_wp2_with fail
        have i2 := hinv.alloc (.cells #[.int .u64 (s.g : Int), .int .i64 s.t] 117)
        have hx1 : SR (wr.alloc (.cells #[.int .u64 (s.g : Int), .int .i64 s.t] 117)) wr.heap.size (some ad) l := hx0.keep fun p hp => World.cell?_alloc_lt _ _ p hp
        have e0 : (wr.alloc (.cells #[.int .u64 (s.g : Int), .int .i64 s.t] 117)).heap[wr.heap.size]? = some (.cells #[.int .u64 (s.g : Int), .int .i64 s.t] 117) := heap_alloc_new _ _
        generalize (wr.alloc (.cells #[.int .u64 (s.g : Int), .int .i64 s.t] 117)) = wA at *
        have s0 : wA.cell? ⟨wr.heap.size, 0, none⟩ = some (.int .u64 (s.g : Int)) := by rw [cell_of_row _ _ _ _ _ _ e0]; rfl
        have s1 : wA.cell? ⟨wr.heap.size, 1, none⟩ = some (.int .i64 s.t) := by rw [cell_of_row _ _ _ _ _ _ e0]; rfl
        have r1 : wA.cell? ⟨w.heap.size, 1, none⟩ = some (.slice (some ad) l.length c) := by rw [cell_of_row _ _ _ _ _ _ i2.blk]; rfl
        clear e0 hx0 hx hinv c0 c1 hab
        cases hT : topB s.t
        · go_quiet ((go_at_call 189; exact Calls.quiet_of_same (isTop_is _ _ _ hT)))
          go_wp2
          go_ret
          exact ⟨ret_bool (mayB_no g l k hlt (okAt_top l k (by rw [HSE.out]; exact hT))).symm, (i2.drewN _).bel⟩
        · by_cases h0 : 1 ≤ k
          · obtain ⟨ad', e, _, p0, _⟩ := hx1.at_ (k := k - 1) (by omega)
            cases e
            generalize hpe : l.getD (k - 1) sn0 = p at p0
            have HPE := Lib.hid hpe
            clear hpe hx1
            have hk0 : 0 < k := by omega
            have hk1 : IntKind.i64.wrap ((k : Int) - 1) = (k : Int) - 1 := IntWalk.i64_in _ (by omega)
            have hk2 : (0 : Int) ≤ (k : Int) - 1 := by omega
            have hk3 : ((k : Int) - 1).toNat = k - 1 := by omega
            have hk4 : (k : Int) - 1 < l.length := by omega
            by_cases hg : s.g ≤ p.g
            · go_quiet ((go_at_call 189; exact Calls.quiet_of_same (isTop_is _ _ _ hT)))
              clear hk1 hk2 hk3
              go_wp2
              go_ret
              exact ⟨ret_bool (mayB_no g l k hlt (by rw [okAt_more l k h0 (by rw [HSE.out]; exact hT), HSE.out, HPE.out]; simpa using hg)).symm, (i2.drewN _).bel⟩
            · go_quiet ((go_at_call 189; exact Calls.quiet_of_same (isTop_is _ _ _ hT)))
              clear hk1 hk2 hk3
              go_wp2
              go_roundw
              case rel => exact ⟨k + 1, by omega, by go_num, by rw [okTo_succ, HOK.out, okAt_more l k h0 (by rw [HSE.out]; exact hT), HSE.out, HPE.out]; simpa using hg, i2.drewN _⟩
              case measure => simp [intOf]; omega
          · obtain rfl : k = 0 := by omega
            go_quiet ((go_at_call 189; exact Calls.quiet_of_same (isTop_is _ _ _ hT)))
            go_wp2
            go_roundw
            case rel => exact ⟨1, by omega, by go_num, by rw [okTo_succ, HOK.out, okAt_zero l (by rw [HSE.out]; exact hT)]; rfl, i2.drewN _⟩
            case measure => simp [intOf]; omega
      · obtain rfl : k = l.length := by omega
        have hx0 := (hx.below hinv.bel).more hinv.bel.size
        obtain ⟨ad, rfl, hab, c0, c1⟩ := hx0.at_ (k := l.length - 1) (by omega)
        have HE := Lib.hid (mayB_end g l hn1 hn4 HOK.out)
        generalize hse : l.getD (l.length - 1) sn0 = s at c0 c1 HE
        have r0 : wr.cell? ⟨w.heap.size, 0, none⟩ = some (.int .u64 (g : Int)) := by rw [cell_of_row _ _ _ _ _ _ hinv.blk]; rfl
        have r1 : wr.cell? ⟨w.heap.size, 1, none⟩ = some (.slice (some ad) l.length c) := by rw [cell_of_row _ _ _ _ _ _ hinv.blk]; rfl
        clear hse hx0 hx c1 HOK
        go_wp2
        have hk1 : IntKind.i64.wrap ((l.length : Int) - 1) = (l.length : Int) - 1 := IntWalk.i64_in _ (by omega)
        have hk2 : (0 : Int) ≤ (l.length : Int) - 1 := by omega
        have hk3 : ((l.length : Int) - 1).toNat = l.length - 1 := by omega
        have hk4 : (l.length : Int) - 1 < l.length := by omega
        go_quiet (fail)
        clear hk1 hk2 hk3
        go_wp2
        go_ret
        exact ⟨ret_bool HE.out.symm, (hinv.drewN _).bel⟩
  · have HE := Lib.hid (mayB_len g l hn)
    clear hx
    by_cases hz : l.length = 0
    · have e : l = [] := List.eq_nil_of_length_eq_zero hz
      subst e
      go_enter Tryz.func158, Tryz.ntmps158
      go_wp2
      go_ret
      exact ⟨ret_bool HE.out.symm, (Below.refl _ _).alloc (Nat.le_refl _) _⟩
    · have hb0 : ((l.length : Int) == 0) = false := by simpa using hz
      have hb4 : (4 : Int) < l.length := by omega
      have e0 : l ≠ [] := by intro e; subst e; simp at hz
      clear hn
      go_enter Tryz.func158, Tryz.ntmps158
      go_wp2
      go_ret
      exact ⟨ret_bool HE.out.symm, (Below.refl _ _).alloc (Nat.le_refl _) _⟩
end Go.Proofs.YtebecpjecchfoaaGreatDoor
namespace Go.Proofs.YtebecpjecchfoaaGreatDoor
open Go.RowKit

end Go.Proofs.YtebecpjecchfoaaGreatDoor
namespace Go.Proofs.YtebecpjecchfoaaGreatDoor
open Go.RowKit

theorem crcOf_lt (xs : List UInt8) : crcOf xs < 4294967296 := Nat.xor_lt_two_pow (n := 32) (by omega) (crcL_lt _ _ (by omega))
theorem rt_make64 (w : World) :
    (Instr.makeSlice 34 (.int .i64 64) (.int .i64 64)).run Tryz.prog w = .ok (.slice (some ⟨w.heap.size, 0, none⟩) 64 64) (w.alloc (.cells (madeCells #[.int .u8 0] 64) 5)) := make8 64 (by decide) w
theorem MayInv.below {w wr w2 : World} {g : Nat} {A : Option Addr} {n c : Nat} (h : MayInv w wr g A n c) (hb : Below wr.heap.size wr w2) : MayInv w w2 g A n c :=
  ⟨(hb.block _ h.lt).trans h.blk, h.bel.trans (hb.mono h.bel.size)⟩

theorem topB_nat {t : Int} (h : topB t = true) : IntKind.u64.wrap t = (t.toNat : Int) := by
  simp only [topB, Bool.and_eq_true, decide_eq_true_eq] at h
  rw [IntKind.wrap_u64]; omega

/-- What Encode hands back: the bytes, or none and an error. -/
def encOut (g : Nat) (l : List Sn) : List UInt8 := if mayB g l = true then encL g l else []
def encErr (g : Nat) (l : List Sn) : Int := if mayB g l = true then 0 else 1
def GivesEnc (w : World) (g : Nat) (l : List Sn) (e : Ending) (w' : World) : Prop :=
  ∃ R c, e = .returned (.tuple #[.slice R (encOut g l).length c, .int .i64 (encErr g l)]) ∧ BR w' w'.heap.size R (encOut g l) ∧ Below w.heap.size w w' ∧ (encOut g l).length ≤ c
end Go.Proofs.YtebecpjecchfoaaGreatDoor
namespace Go.Proofs.YtebecpjecchfoaaGreatDoor
open Go.RowKit

theorem num_add (xs : List UInt8) (a : Int) (k : Nat) : num xs a (k + 1) = num xs a k + (byt xs (a + k)).toNat * 2 ^ (8 * k) := by
  rw [num, Nat.or_comm, ← Nat.shiftLeft_add_eq_or_of_lt (num_lt xs a k), Nat.shiftLeft_eq, Nat.add_comm]
/-- The bytes of a number that was read. -/
theorem byteN_num (xs : List UInt8) (a : Int) (k j : Nat) (hj : j < k) : byteN (num xs a k) j = byt xs (a + j) := by
  apply UInt8.toNat_inj.1
  have hb := (byt xs (a + j)).toNat_lt
  show ((UInt8.ofNat (num xs a k / 2 ^ (8 * j))).toNat) = _
  rw [UInt8.toNat_ofNat']
  induction k with
  | zero => omega
  | succ k ih =>
    rw [num_add]
    by_cases e : j = k
    · subst e
      rw [Nat.add_mul_div_right _ _ (Nat.two_pow_pos _), Nat.div_eq_of_lt (num_lt xs a j), Nat.zero_add]
      exact Nat.mod_eq_of_lt hb
    · rw [← ih (by omega)]
      have e2 : 2 ^ (8 * k) = 2 ^ (8 * j) * (256 * 2 ^ (8 * (k - j - 1))) := by
        rw [show (256 : Nat) = 2 ^ 8 from rfl, ← Nat.pow_add, ← Nat.pow_add]; congr 1; omega
      rw [e2, show (byt xs (a + k)).toNat * (2 ^ (8 * j) * (256 * 2 ^ (8 * (k - j - 1)))) = 2 ^ (8 * j) * (256 * (2 ^ (8 * (k - j - 1)) * (byt xs (a + k)).toNat)) from by
        rw [Nat.mul_comm, Nat.mul_assoc, Nat.mul_assoc], Nat.add_mul_div_left _ _ (Nat.two_pow_pos _)]
      show (_ + 256 * _) % 256 = _ % 256
      rw [Nat.add_mul_mod_self_left]

theorem headL_get (g n i : Nat) (hi : i < 64) : (headL g n).getD i 0 = if i < 4 then byteN 1280459075 i else if i < 12 then byteN g (i - 4) else if i < 14 then byteN n (i - 12) else 0 := by
  unfold headL
  rw [putL_get _ 12 n 2 i (by omega) (by simp [putL_len]; omega), putL_get _ 4 g 8 i (by omega) (by simp [putL_len]; omega), putL_get _ 0 1280459075 4 i (by omega) (by simp; omega)]
  have hz : (List.replicate 64 (0 : UInt8)).getD i 0 = 0 := by rw [List.getD_eq_getElem?_getD, List.getElem?_replicate]; split <;> rfl
  rw [hz]
  by_cases h1 : i < 4
  · rw [if_neg (by omega), if_neg (by omega), if_pos (by omega), if_pos h1]; congr 1
  · rw [if_neg h1]
    by_cases h2 : i < 12
    · rw [if_neg (by omega), if_pos (by omega), if_pos h2]; congr 1; omega
    · rw [if_neg h2]
      by_cases h3 : i < 14
      · rw [if_pos (by omega), if_pos h3]; congr 1; omega
      · rw [if_neg (by omega), if_neg (by omega), if_neg (by omega), if_neg h3]
/-- A byte of the checkpoints. -/
def snByte (l : List Sn) (i : Nat) : UInt8 := if (i - 14) % 10 < 8 then byteN (l.getD ((i - 14) / 10) sn0).g ((i - 14) % 10) else byteN (l.getD ((i - 14) / 10) sn0).t.toNat ((i - 14) % 10 - 8)
theorem snapL_get (g : Nat) (l : List Sn) (k i : Nat) (hk : k ≤ 4) (hi : i < 64) : (snapL g l k).getD i 0 = if i < 14 then (headL g l.length).getD i 0 else if i < 14 + 10 * k then snByte l i else 0 := by
  induction k with
  | zero =>
    show (headL g l.length).getD i 0 = _
    by_cases h : i < 14
    · rw [if_pos h]
    · rw [if_neg h, if_neg (by omega), headL_get _ _ _ hi, if_neg (by omega), if_neg (by omega), if_neg h]
  | succ k ih =>
    rw [snapL, putL_get _ (22 + 10 * (k : Int)) _ 2 i (by omega) (by simp [putL_len, snapL_len]; omega), putL_get _ (14 + 10 * (k : Int)) _ 8 i (by omega) (by simp [snapL_len]; omega), ih (by omega)]
    by_cases h0 : i < 14
    · rw [if_neg (by omega), if_neg (by omega), if_pos h0, if_pos h0]
    · rw [if_neg h0, if_neg h0]
      by_cases h1 : i < 14 + 10 * k
      · rw [if_neg (by omega), if_neg (by omega), if_pos h1, if_pos (by omega)]
      · rw [if_neg h1]
        by_cases h2 : i < 14 + 10 * (k + 1)
        · rw [if_pos h2]
          unfold snByte
          have e : (i - 14) / 10 = k := by omega
          rw [e]
          by_cases h3 : i < 22 + 10 * k
          · rw [if_neg (by omega), if_pos (by omega), if_pos (by omega)]; congr 1; omega
          · rw [if_pos (by omega), if_neg (by omega)]; congr 1; omega
        · rw [if_neg h2, if_neg (by omega), if_neg (by omega)]
theorem encL_get (g : Nat) (l : List Sn) (i : Nat) (hl : l.length ≤ 4) (hi : i < 64) : (encL g l).getD i 0 = if i < 14 then (headL g l.length).getD i 0 else if i < 14 + 10 * l.length then snByte l i else if i < 60 then 0 else byteN (crcOf ((snapL g l l.length).take 60)) (i - 60) := by
  rw [encL, putL_get _ 60 _ 4 i (by omega) (by rw [snapL_len]; exact hi), snapL_get g l l.length i hl hi]
  by_cases h : i < 60
  · rw [if_neg (by omega)]
    by_cases h0 : i < 14
    · rw [if_pos h0, if_pos h0]
    · rw [if_neg h0, if_neg h0]
      by_cases h1 : i < 14 + 10 * l.length
      · rw [if_pos h1, if_pos h1]
      · rw [if_neg h1, if_neg h1, if_pos h]
  · rw [if_pos (by omega), if_neg (by omega), if_neg (by omega), if_neg h]; congr 1; omega

theorem list_ext64 {xs ys : List UInt8} (hx : xs.length = 64) (hy : ys.length = 64) (h : ∀ i, i < 64 → xs.getD i 0 = ys.getD i 0) : xs = ys := by
  refine List.ext_getElem (by omega) fun i h1 h2 => ?_
  have := h i (by omega)
  simpa [List.getD_eq_getElem?_getD, List.getElem?_eq_getElem h1, List.getElem?_eq_getElem h2] using this
theorem take_of_get {xs ys : List UInt8} (n : Nat) (hx : n ≤ xs.length) (hy : n ≤ ys.length) (h : ∀ i, i < n → xs.getD i 0 = ys.getD i 0) : xs.take n = ys.take n := by
  refine List.ext_getElem (by simp; omega) fun i h1 h2 => ?_
  have h1' : i < n := by simp at h1; omega
  have := h i h1'
  simpa [List.getD_eq_getElem?_getD, List.getElem?_eq_getElem (show i < xs.length by omega), List.getElem?_eq_getElem (show i < ys.length by omega)] using this

/-- What is read of 64 bytes. -/
def genOf (b : List UInt8) : Nat := num b 4 8
def manyOf (b : List UInt8) : Nat := num b 12 2
def rdSn (b : List UInt8) (k : Nat) : Sn := ⟨num b (14 + 10 * k) 8, (num b (22 + 10 * k) 2 : Nat)⟩
def rdL (b : List UInt8) (n : Nat) : List Sn := (List.range n).map (rdSn b)
theorem rdL_len (b : List UInt8) (n : Nat) : (rdL b n).length = n := by simp [rdL]
theorem rdL_get (b : List UInt8) (n k : Nat) (h : k < n) : (rdL b n).getD k sn0 = rdSn b k := by simp [rdL, List.getD_eq_getElem?_getD, h]
/-- A record, as the document tells it. -/
def decB (b : List UInt8) : Bool := decide (b.length = 64) && decide (manyOf b ≤ 4) && mayB (genOf b) (rdL b (manyOf b)) && decide (encL (genOf b) (rdL b (manyOf b)) = b)
/-- Noughts, by twos, from a place up to 60. -/
def zerosB (b : List UInt8) (n : Nat) : Bool := decide (∀ j, j < 23 - 5 * n → num b (14 + 10 * n + 2 * j) 2 = 0)
/-- A record, as it is read. -/
def recB (b : List UInt8) : Bool := decide (b.length = 64) && decide (num b 0 4 = 1280459075) && decide (manyOf b ≤ 4) && mayB (genOf b) (rdL b (manyOf b)) && zerosB b (manyOf b) && decide (num b 60 4 = crcOf (b.take 60))

theorem num2_zero (b : List UInt8) (a : Int) : num b a 2 = 0 ↔ byt b a = 0 ∧ byt b (a + 1) = 0 := by
  rw [num_add, num_add]
  have h0 : num b a 0 = 0 := rfl
  rw [h0]
  have e0 : a + ((0 : Nat) : Int) = a := by omega
  have e1 : a + ((0 + 1 : Nat) : Int) = a + 1 := by omega
  rw [e0, e1]
  constructor
  · intro h
    have h1 : (byt b a).toNat = 0 := by omega
    have h2 : (byt b (a + 1)).toNat = 0 := by omega
    exact ⟨UInt8.toNat_inj.1 h1, UInt8.toNat_inj.1 h2⟩
  · rintro ⟨h1, h2⟩
    rw [h1, h2]; rfl
theorem zerosB_iff (b : List UInt8) (n : Nat) (hn : n ≤ 4) : zerosB b n = true ↔ ∀ i, 14 + 10 * n ≤ i → i < 60 → b.getD i 0 = 0 := by
  unfold zerosB
  rw [decide_eq_true_eq]
  constructor
  · intro h i h1 h2
    have h3 := (num2_zero b _).1 (h ((i - (14 + 10 * n)) / 2) (by omega))
    by_cases e : (i - (14 + 10 * n)) % 2 = 0
    · have := h3.1
      rw [byt_in _ _ (by omega)] at this
      rw [← this]; congr 1; omega
    · have := h3.2
      rw [byt_in _ _ (by omega)] at this
      rw [← this]; congr 1; omega
  · intro h j hj
    rw [num2_zero, byt_in _ _ (by omega), byt_in _ _ (by omega)]
    exact ⟨h _ (by omega) (by omega), h _ (by omega) (by omega)⟩

theorem num_of_get (zs : List UInt8) (a n k : Nat) (h : ∀ j, j < k → zs.getD (a + j) 0 = byteN n j) : num zs (a : Int) k = n % 2 ^ (8 * k) := by
  refine num_of_bytes zs a n k fun j hj => ?_
  rw [byt_in _ _ (by omega), ← h j hj]; congr 1
theorem get_num (b : List UInt8) (a k i : Nat) (h1 : a ≤ i) (h2 : i < a + k) : byteN (num b (a : Int) k) (i - a) = b.getD i 0 := by
  rw [byteN_num b _ k _ (by omega), byt_in _ _ (by omega)]; congr 1; omega

/-- Of a record that is read all bytes are told by what was read. -/
theorem enc_of_rec (b : List UInt8) (h64 : b.length = 64) (hm : num b 0 4 = 1280459075) (h4 : manyOf b ≤ 4) (hz : zerosB b (manyOf b) = true) (hs : num b 60 4 = crcOf (b.take 60)) : encL (genOf b) (rdL b (manyOf b)) = b := by
  rw [zerosB_iff b _ h4] at hz
  have key : ∀ i, i < 60 → (if i < 14 then (headL (genOf b) (manyOf b)).getD i 0 else if i < 14 + 10 * manyOf b then snByte (rdL b (manyOf b)) i else 0) = b.getD i 0 := by
    intro i hi
    by_cases h0 : i < 14
    · rw [if_pos h0, headL_get _ _ _ (by omega)]
      by_cases h1 : i < 4
      · rw [if_pos h1, ← hm]; exact get_num b 0 4 i (by omega) (by omega)
      · rw [if_neg h1]
        by_cases h2 : i < 12
        · rw [if_pos h2]; exact get_num b 4 8 i (by omega) (by omega)
        · rw [if_neg h2, if_pos h0]; exact get_num b 12 2 i (by omega) (by omega)
    · rw [if_neg h0]
      by_cases h1 : i < 14 + 10 * manyOf b
      · rw [if_pos h1]
        unfold snByte
        rw [rdL_get _ _ _ (by omega)]
        by_cases h2 : (i - 14) % 10 < 8
        · rw [if_pos h2]
          have := get_num b (14 + 10 * ((i - 14) / 10)) 8 i (by omega) (by omega)
          rw [← this, show i - (14 + 10 * ((i - 14) / 10)) = (i - 14) % 10 from by omega]
          rfl
        · rw [if_neg h2]
          have := get_num b (22 + 10 * ((i - 14) / 10)) 2 i (by omega) (by omega)
          rw [← this, show i - (22 + 10 * ((i - 14) / 10)) = (i - 14) % 10 - 8 from by omega]
          rfl
      · rw [if_neg h1]; exact (hz i (by omega) hi).symm
  have htake : (snapL (genOf b) (rdL b (manyOf b)) (rdL b (manyOf b)).length).take 60 = b.take 60 := by
    refine take_of_get 60 (by rw [snapL_len]; omega) (by omega) fun i hi => ?_
    rw [snapL_get _ _ _ _ (by rw [rdL_len]; exact h4) (by omega), rdL_len]
    exact key i hi
  refine list_ext64 (encL_len _ _) h64 fun i hi => ?_
  rw [encL_get _ _ _ (by rw [rdL_len]; exact h4) hi, htake, ← hs, rdL_len]
  by_cases h : i < 60
  · rw [← key i h]
    by_cases h0 : i < 14
    · rw [if_pos h0, if_pos h0]
    · rw [if_neg h0, if_neg h0, if_pos h]
  · rw [if_neg (by omega), if_neg (by omega), if_neg h]
    exact get_num b 60 4 i (by omega) (by omega)
/-- What a record that the document tells is, as it is read. -/
theorem rec_of_enc (g : Nat) (l : List Sn) (hl : l.length ≤ 4) : num (encL g l) 0 4 = 1280459075 ∧ zerosB (encL g l) l.length = true ∧ num (encL g l) 60 4 = crcOf ((encL g l).take 60) ∧ manyOf (encL g l) = l.length ∧ genOf (encL g l) = g % 2 ^ 64 := by
  have hget := fun i (hi : i < 64) => encL_get g l i hl hi
  refine ⟨?_, ?_, ?_, ?_, ?_⟩
  · have := num_of_get (encL g l) 0 1280459075 4 fun j hj => by rw [hget _ (by omega), if_pos (by omega), headL_get _ _ _ (by omega), if_pos (by omega)]; congr 1; omega
    exact this
  · rw [zerosB_iff _ _ hl]
    intro i h1 h2
    rw [hget i (by omega), if_neg (by omega), if_neg (by omega), if_pos h2]
  · have ht : (encL g l).take 60 = (snapL g l l.length).take 60 := by
      refine take_of_get 60 (by rw [encL_len]; omega) (by rw [snapL_len]; omega) fun i hi => ?_
      rw [hget i (by omega), snapL_get g l _ i hl (by omega)]
      by_cases h0 : i < 14
      · rw [if_pos h0, if_pos h0]
      · rw [if_neg h0, if_neg h0, if_pos hi]
    have := num_of_get (encL g l) 60 (crcOf ((snapL g l l.length).take 60)) 4 fun j hj => by rw [hget _ (by omega), if_neg (by omega), if_neg (by omega), if_neg (by omega)]; congr 1; omega
    rw [ht]
    refine this.trans ?_
    exact Nat.mod_eq_of_lt (Nat.xor_lt_two_pow (n := 32) (by omega) (crcL_lt _ _ (by omega)))
  · have := num_of_get (encL g l) 12 l.length 2 fun j hj => by rw [hget _ (by omega), if_pos (by omega), headL_get _ _ _ (by omega), if_neg (by omega), if_neg (by omega), if_pos (by omega)]; congr 1; omega
    refine this.trans (Nat.mod_eq_of_lt (by omega))
  · exact num_of_get (encL g l) 4 g 8 fun j hj => by rw [hget _ (by omega), if_pos (by omega), headL_get _ _ _ (by omega), if_neg (by omega), if_pos (by omega)]; congr 1; omega
/-- The two ways to tell a record come to the same. -/
theorem recB_decB (b : List UInt8) : recB b = decB b := by
  rw [Bool.eq_iff_iff]
  unfold recB decB
  simp only [Bool.and_eq_true, decide_eq_true_eq]
  constructor
  · rintro ⟨⟨⟨⟨⟨h1, h2⟩, h3⟩, h4⟩, h5⟩, h6⟩
    exact ⟨⟨⟨h1, h3⟩, h4⟩, enc_of_rec b h1 h2 h3 h5 h6⟩
  · rintro ⟨⟨⟨h1, h3⟩, h4⟩, h5⟩
    obtain ⟨r1, r2, r3, -, -⟩ := rec_of_enc (genOf b) (rdL b (manyOf b)) (by rw [rdL_len]; exact h3)
    rw [rdL_len] at r2
    rw [h5] at r1 r2 r3
    exact ⟨⟨⟨⟨⟨h1, r1⟩, h3⟩, h4⟩, r2⟩, r3⟩
end Go.Proofs.YtebecpjecchfoaaGreatDoor
namespace Go.Proofs.YtebecpjecchfoaaGreatDoor
open Go.RowKit
/-- What Encode hands back, in a new block. -/
def GivesEncN (w : World) (g : Nat) (l : List Sn) (e : Ending) (w' : World) : Prop :=
  ∃ R c, e = .returned (.tuple #[.slice R (encOut g l).length c, .int .i64 (encErr g l)]) ∧ BR w' w'.heap.size R (encOut g l) ∧ Below w.heap.size w w' ∧ (encOut g l).length ≤ c ∧ ∀ ad, R = some ad → w.heap.size ≤ ad.block
theorem GivesEncN.to {w w' : World} {g : Nat} {l : List Sn} {e : Ending} (h : GivesEncN w g l e w') : GivesEnc w g l e w' := by
  obtain ⟨R, c, h1, h2, h3, h4, _⟩ := h
  exact ⟨R, c, h1, h2, h3, h4⟩
theorem givesEncN_no {w w' : World} {g : Nat} {l : List Sn} (h : mayB g l = false) (hb : Below w.heap.size w w') : GivesEncN w g l (.returned (.tuple #[.slice none 0 0, .int .i64 1])) w' := by
  have e1 : encOut g l = [] := by simp [encOut, h]
  have e2 : encErr g l = 1 := by simp [encErr, h]
  exact ⟨none, 0, by rw [e1, e2]; rfl, by rw [e1]; exact BR.nil, hb, by rw [e1]; exact Nat.le_refl _, fun _ h => by cases h⟩
theorem givesEncN_yes {w w' : World} {g : Nat} {l : List Sn} {R : Option Addr} {c : Nat} (h : mayB g l = true) (hc : 64 ≤ c) (hr : BR w' w'.heap.size R (encL g l)) (hb : Below w.heap.size w w') (hn : ∀ ad, R = some ad → w.heap.size ≤ ad.block) : GivesEncN w g l (.returned (.tuple #[.slice R 64 c, .int .i64 0])) w' := by
  have e1 : encOut g l = encL g l := by simp [encOut, h]
  have e2 : encErr g l = 0 := by simp [encErr, h]
  exact ⟨R, c, by rw [e1, e2, encL_len], by rw [e1]; exact hr, hb, by rw [e1, encL_len]; exact hc, hn⟩

/-- The two variables of Encode: the bytes so far (64 of them), the place. -/
structure EncSt (w : World) (gb ga : Nat) (zs : List UInt8) (a : Nat) (R : Option Addr) (c : Nat) : Prop where
  ne : gb ≠ ga
  cap : 64 ≤ c
  len : zs.length = 64
  blkb : w.heap[gb]? = some (.cells #[.slice R 64 c] 34 (0, 0))
  blka : w.heap[ga]? = some (.cells #[.int .i64 (a : Int)] 3 (0, 0))
  br : BR w w.heap.size R zs
  apart : ∀ ad, R = some ad → ad.block ≠ gb ∧ ad.block ≠ ga
theorem EncSt.keep {w w' : World} {gb ga : Nat} {zs : List UInt8} {a : Nat} {R : Option Addr} {c : Nat} (h : EncSt w gb ga zs a R c) (hb : Below w.heap.size w w') : EncSt w' gb ga zs a R c :=
  ⟨h.ne, h.cap, h.len, (hb.block _ (Array.getElem?_eq_some_iff.1 h.blkb).1).trans h.blkb, (hb.block _ (Array.getElem?_eq_some_iff.1 h.blka).1).trans h.blka, (h.br.below hb).more hb.size, h.apart⟩

def PutOut (w : World) (gb ga : Nat) (zs : List UInt8) (a : Nat) (e : Ending) (w' : World) : Prop :=
  e = .returned (.tuple #[]) ∧ (∃ R c, EncSt w' gb ga zs a R c) ∧ Keeps (fun k => k = gb ∨ k = ga) w w'

theorem put_end {w w1 : World} {gb ga g c' : Nat} {zs zs' : List UInt8} {a a' : Nat} {R : Option Addr} {c : Nat} (h : EncSt w gb ga zs a R c) (hb : Below w.heap.size w w1) (hg : w.heap.size ≤ g) (hc : 64 ≤ c') (hl : zs'.length = 64)
    (br : BR w1 w1.heap.size (some ⟨g, 0, none⟩) zs') (x : Int) (hx : x = (a' : Int)) :
    PutOut w gb ga zs' a' (.returned (.tuple #[])) ((w1.setCell ⟨gb, 0, none⟩ (.slice (some ⟨g, 0, none⟩) 64 c')).setCell ⟨ga, 0, none⟩ (.int .i64 x)) := by
  subst hx
  have lb : gb < w.heap.size := (Array.getElem?_eq_some_iff.1 h.blkb).1
  have la : ga < w.heap.size := (Array.getElem?_eq_some_iff.1 h.blka).1
  have f0 := (hb.block _ lb).trans h.blkb
  have f1 := (hb.block _ la).trans h.blka
  have k1 : Keeps (fun k => k = gb ∨ k = ga) w1 ((w1.setCell ⟨gb, 0, none⟩ (.slice (some ⟨g, 0, none⟩) 64 c')).setCell ⟨ga, 0, none⟩ (.int .i64 (a' : Int))) :=
    (Keeps.setCell _ _ _ _ (.inl rfl)).trans (Keeps.setCell _ _ _ _ (.inr rfl))
  refine ⟨rfl, ⟨some ⟨g, 0, none⟩, c', h.ne, hc, hl, ?_, ?_, ?_, ?_⟩, (Keeps.below hb _ (fun k hk hk' => absurd hk (by omega))).trans k1⟩
  · rw [Below.heap_setCell _ _ _ _ h.ne, heap_setCell_same _ _ _ _ _ _ f0]; rfl
  · rw [heap_setCell_same _ _ _ _ _ _ ((Below.heap_setCell _ _ _ _ (fun e => h.ne e.symm)).trans f1)]; rfl
  · exact k1.br br fun ad e _ => by cases e; simp; omega
  · intro ad e; cases e; simp; omega

set_option maxRecDepth 100000 in
set_option maxHeartbeats 400000 in
theorem rt_put_any (s n k : Nat) (gb ga : Nat) (zs : List UInt8) (a : Nat) (R : Option Addr) (c : Nat) (w : World) (hs : s ≤ 8) (ha : a ≤ 1000) (hk : (clamp (s : Int) 8).toNat = k) (h : EncSt w gb ga zs a R c) :
    Calls Tryz.prog 159 #[.int .i64 (s : Int), .int .u64 (n : Int), .pointer (some ⟨gb, 0, none⟩), .pointer (some ⟨ga, 0, none⟩)] w (PutOut w gb ga (putL zs (a : Int) n k) (a + s)) := by
  subst hk
  have c0 : w.cell? ⟨gb, 0, none⟩ = some (.slice R 64 c) := by rw [cell_of_row _ _ _ _ _ _ h.blkb]; rfl
  have c1 : w.cell? ⟨ga, 0, none⟩ = some (.int .i64 (a : Int)) := by rw [cell_of_row _ _ _ _ _ _ h.blka]; rfl
  have lb : gb < w.heap.size := (Array.getElem?_eq_some_iff.1 h.blkb).1
  have la : ga < w.heap.size := (Array.getElem?_eq_some_iff.1 h.blka).1
  have hp := lePutNum_new R zs c (a : Int) (s : Int) n w h.br (by rw [h.len]; omega) (by omega)
  rw [h.len] at hp
  go_enter Tryz.func159, Tryz.ntmps159
  go_wp2_with fail
  refine hp.mono ?_
  clear hp c0 c1
  rintro e w1 ⟨g, c', rfl, hg, hg', br, hb, hc⟩
  rw [putL_len, h.len] at hc ⊢
  have f0 := (hb.block _ lb).trans h.blkb
  have f1 := (hb.block _ la).trans h.blka
  have c0 : w1.cell? ⟨gb, 0, none⟩ = some (.slice R 64 c) := by rw [cell_of_row _ _ _ _ _ _ f0]; rfl
  have c1 : w1.cell? ⟨ga, 0, none⟩ = some (.int .i64 (a : Int)) := by rw [cell_of_row _ _ _ _ _ _ f1]; rfl
  have z0 := frozen_of_row w1 gb 0 _ _ f0
  have z1 := frozen_of_row w1 ga 0 _ _ f1
  have n0 : ¬ gb = ga := h.ne
  have n1 : ¬ ga = gb := fun e => h.ne e.symm
  have F0 := Lib.hid f0
  have F1 := Lib.hid f1
  clear f0 f1
  go_wp2_with fail
  go_end0
  exact put_end h hb hg hc (by rw [putL_len, h.len]) br _ (by simp)

theorem mayBe_is (b : Bool) (g : Nat) (A : Option Addr) (l : List Sn) (c : Nat) (w : World) (hx : SR w w.heap.size A l) (hl : l.length ≤ 9223372036854775807) (h : mayB g l = b) :
    Calls Tryz.prog 158 #[agR g A l.length c] w fun e w' => e = .returned (.bool b) ∧ Below w.heap.size w w' := by
  subst h; exact mayBe_any g A l c w hx hl

set_option maxRecDepth 100000 in
set_option maxHeartbeats 800000 in
theorem enc_no (g : Nat) (A : Option Addr) (l : List Sn) (c : Nat) (w : World) (hx : SR w w.heap.size A l) (hl : l.length ≤ 9223372036854775807) (hm : mayB g l = false) :
    Calls Tryz.prog 114 #[agR g A l.length c] w (GivesEncN w g l) := by
  have HM := Lib.hid hm
  clear hm
  go_enter Tryz.func114, Tryz.ntmps114
  go_wp2_with fail
  refine (mayBe_is false g A l c _ ?_ hl HM.out).mono ?_
  · exact (hx.keep fun p hp => World.cell?_alloc_lt _ _ p hp).more (by simp)
  rintro e w1 ⟨rfl, hb⟩
  have b1 : Below w.heap.size w w1 := ((Below.refl _ _).alloc (Nat.le_refl _) _).trans (hb.mono (by simp))
  clear hb
  go_wp2_with fail
  go_ret2
  exact givesEncN_no HM.out b1

theorem leCrc60 (A : Option Addr) (xs : List UInt8) (c q : Nat) (w : World) (hx : BR w w.heap.size A xs) (hl : xs.length = 64) (hq : crcOf (xs.take 60) = q) :
    Calls Tryz.prog 161 #[.slice A 60 c] w fun e w' => e = .returned (.int .u32 (q : Int)) ∧ w' = w := by
  subst hq
  exact (leCrc_len A (xs.take 60) c 60 w (hx.take 60) (by simp; omega) (by simp; omega)).mono fun _ _ ⟨he, hw⟩ => ⟨he, hw.symm⟩
theorem rt_lePut64N (A : Option Addr) (xs : List UInt8) (c : Nat) (a s : Int) (n k : Nat) (w : World) (hx : BR w w.heap.size A xs) (hl : xs.length = 64) (ha : 0 ≤ a) (hk : (clamp s 8).toNat = k) :
    Calls Tryz.prog 160 #[.slice A 64 c, .int .i64 a, .int .i64 s, .int .u64 n] w fun e w' => ∃ R c, e = .returned (.slice R 64 c) ∧ 64 ≤ c ∧ BR w' w'.heap.size R (putL xs a n k) ∧ Below w.heap.size w w' ∧ ∀ ad, R = some ad → w.heap.size ≤ ad.block := by
  subst hk
  have h := lePutNum_new A xs c a s n w hx (by omega) (by omega)
  rw [hl] at h
  refine h.mono ?_
  rintro e w' ⟨g, c', rfl, hg, _, hr, hb, hc⟩
  rw [putL_len, hl] at hc ⊢
  exact ⟨_, c', rfl, hc, hr, hb, fun ad e => by cases e; exact hg⟩
/-- The three new variables of Encode. -/
def encW (w1 : World) : World := ((w1.alloc (.cells (madeCells #[.int .u8 0] 64) 5)).alloc (.cells #[.slice (some ⟨w1.heap.size, 0, none⟩) 64 64] 34)).alloc (.cells #[.int .i64 0] 3)
theorem encW_st (w1 : World) : EncSt (encW w1) (w1.heap.size + 1) (w1.heap.size + 1 + 1) (List.replicate 64 0) 0 (some ⟨w1.heap.size, 0, none⟩) 64 := by
  refine ⟨by omega, by omega, by simp, ?_, ?_, ?_, ?_⟩
  · unfold encW; rw [Below.heap_alloc _ _ _ (by simp)]; exact blk_at_last _ _ _ (by simp)
  · exact blk_at_last _ _ _ (by simp)
  · have h : Row8 (encW w1) w1.heap.size 5 (List.replicate 64 0) := ((Row8.made w1 64 5).alloc _).alloc _
    exact h.br
  · intro ad e; cases e; simp; omega
theorem MayInv.keeps {w wr w2 : World} {g : Nat} {A : Option Addr} {n c : Nat} {F : Nat → Prop} (h : MayInv w wr g A n c) (k : Keeps F wr w2) (hF : ∀ b, F b → w.heap.size < b) : MayInv w w2 g A n c :=
  ⟨(k.block _ h.lt (fun hf => absurd (hF _ hf) (Nat.lt_irrefl _))).trans h.blk, h.bel.trans (k.toBelow _ h.bel.size (fun b hf => Nat.le_of_lt (hF b hf)))⟩

set_option maxRecDepth 100000 in
set_option maxHeartbeats 1000000 in
theorem enc_yes (g : Nat) (A : Option Addr) (l : List Sn) (c : Nat) (w : World) (hx : SR w w.heap.size A l) (hl : l.length ≤ 9223372036854775807) (hm : mayB g l = true) :
    Calls Tryz.prog 114 #[agR g A l.length c] w (GivesEncN w g l) := by
  have HM := Lib.hid hm
  obtain ⟨hn1, hn4, -, -⟩ := mayB_parts hm
  clear hm
  have hmf : ∀ (fn : Fn) (first cap : Array Value) (w : World), (Instr.makeFunc fn first cap).run Tryz.prog w = .ok (.func fn first cap) w := fun _ _ _ _ => rfl
  go_enter Tryz.func114, Tryz.ntmps114
  go_wp2_with fail
  refine (mayBe_is true g A l c _ ?_ hl HM.out).mono ?_
  · exact (hx.keep fun p hp => World.cell?_alloc_lt _ _ p hp).more (by simp)
  rintro e w1 ⟨rfl, hb⟩
  have i0 : MayInv w (w.alloc (.cells #[.int .u64 (g : Int), .slice A l.length c] 138)) g A l.length c := ⟨heap_alloc_new _ _, (Below.refl _ _).alloc (Nat.le_refl _) _⟩
  have i1 := i0.below hb
  clear hb i0
  have hmk := rt_make64
  go_wp2_with fail
  clear hmk
  have i2 : MayInv w (encW w1) g A l.length c := ((i1.alloc _).alloc _).alloc _
  have st := encW_st w1
  have hgb := i1.lt
  clear i1
  change Calls _ _ _ (encW w1) _
  generalize encW w1 = w2 at *
  refine (rt_put_any 4 1280459075 4 _ _ _ 0 _ _ _ (by decide) (by decide) rfl st).mono ?_
  rintro e w3 ⟨rfl, ⟨R3, c3, st3⟩, k3⟩
  have i3 := i2.keeps k3 (by intro b hb; omega)
  clear st i2 k3
  have r0 : w3.cell? ⟨w.heap.size, 0, none⟩ = some (.int .u64 (g : Int)) := by rw [cell_of_row _ _ _ _ _ _ i3.blk]; rfl
  go_wp2_with fail
  refine (rt_put_any 8 g 8 _ _ _ 4 _ _ _ (by decide) (by decide) rfl st3).mono ?_
  rintro e w4 ⟨rfl, ⟨R4, c4, st4⟩, k4⟩
  have i4 := i3.keeps k4 (by intro b hb; omega)
  clear st3 i3 k4 r0
  have r1 : w4.cell? ⟨w.heap.size, 1, none⟩ = some (.slice A l.length c) := by rw [cell_of_row _ _ _ _ _ _ i4.blk]; rfl
  go_wp2_with fail
  refine (rt_put_any 2 l.length 2 _ _ _ 12 _ _ _ (by decide) (by decide) rfl st4).mono ?_
  rintro e w5 ⟨rfl, ⟨R5, c5, st5⟩, k5⟩
  have i5 := i4.keeps k5 (by intro b hb; omega)
  clear st4 i4 k5 r1
  have r1 : w5.cell? ⟨w.heap.size, 1, none⟩ = some (.slice A l.length c) := by rw [cell_of_row _ _ _ _ _ _ i5.blk]; rfl
  go_wp2_with fail
  clear r1
  go_loopw [29, 8, 31, 32] (fun i _ _ _ wr => ∃ k : Nat, ∃ R6 c6, k ≤ l.length ∧ i = .int .i64 k ∧ EncSt wr (w1.heap.size + 1) (w1.heap.size + 1 + 1) (snapL g l k) (14 + 10 * k) R6 c6 ∧ MayInv w wr g A l.length c) (fun i _ _ _ _ => l.length - (intOf i).toNat)
  case atStart => exact ⟨0, R5, c5, by omega, rfl, st5, i5⟩
  case round =>
    clear st5 i5
    obtain ⟨k, R6, c6, hk, rfl, st6, i6⟩ := hrel
    by_cases hlt : k < l.length
    · have hx0 := (hx.below i6.bel).more i6.bel.size
      obtain ⟨ad, rfl, hab, d0, d1⟩ := hx0.at_ hlt
      have HT : Hid (topB (l.getD k sn0).t = true) := by
        have := okTo_at (mayB_parts HM.out).2.2.1 hlt
        simp only [okAt, Bool.and_eq_true] at this
        exact this.1
      generalize hse : l.getD k sn0 = s at d0 d1 HT
      have HSE := Lib.hid hse
      clear hse
      go_wp2_with fail
      have i7 := i6.alloc (.cells #[.int .u64 (s.g : Int), .int .i64 s.t] 117)
      have st7 := st6.keep ((Below.refl _ _).alloc (Nat.le_refl _) (.cells #[.int .u64 (s.g : Int), .int .i64 s.t] 117))
      have e0 : (wr.alloc (.cells #[.int .u64 (s.g : Int), .int .i64 s.t] 117)).heap[wr.heap.size]? = some (.cells #[.int .u64 (s.g : Int), .int .i64 s.t] 117) := heap_alloc_new _ _
      have hA : wr.heap.size < (wr.alloc (.cells #[.int .u64 (s.g : Int), .int .i64 s.t] 117)).heap.size := by simp
      have hga : w1.heap.size + 1 + 1 < wr.heap.size := (Array.getElem?_eq_some_iff.1 st6.blka).1
      generalize (wr.alloc (.cells #[.int .u64 (s.g : Int), .int .i64 s.t] 117)) = wA at *
      clear d0 d1 hab hx0
      refine (rt_put_any 8 s.g 8 _ _ _ _ _ _ _ (by decide) (by omega) rfl st7).mono ?_
      rintro e w8 ⟨rfl, ⟨R8, c8, st8⟩, k8⟩
      have i8 := i7.keeps k8 (by intro b hb; omega)
      have e8 := (k8.block _ hA (by omega)).trans e0
      have s1 : w8.cell? ⟨wr.heap.size, 1, none⟩ = some (.int .i64 s.t) := by rw [cell_of_row _ _ _ _ _ _ e8]; rfl
      clear e0 e8 i7 st7 k8
      go_wp2_with fail
      rw [topB_nat HT.out]
      refine (rt_put_any 2 s.t.toNat 2 _ _ _ _ _ _ _ (by decide) (by omega) rfl st8).mono ?_
      rintro e w9 ⟨rfl, ⟨R9, c9, st9⟩, k9⟩
      have i9 := i8.keeps k9 (by intro b hb; omega)
      have ST9 : Hid (EncSt w9 (w1.heap.size + 1) (w1.heap.size + 1 + 1) (snapL g l (k + 1)) (14 + 10 * (k + 1)) R9 c9) := by
        show EncSt _ _ _ _ _ _ _
        rw [snapL, HSE.out]
        have e1 : ((14 + 10 * k : Nat) : Int) = 14 + 10 * (k : Int) := by omega
        have e2 : ((14 + 10 * k + 8 : Nat) : Int) = 22 + 10 * (k : Int) := by omega
        rw [e1, e2] at st9
        exact st9
      clear s1 st8 i8 k9 st9
      go_wp2_with fail
      go_roundw
      case rel => exact ⟨k + 1, R9, c9, by omega, by go_num, ST9.out, i9⟩
      case measure => simp [intOf]; omega
    · obtain rfl : k = l.length := by omega
      go_wp2_with fail
      have c0 : wr.drew.cell? ⟨w1.heap.size + 1, 0, none⟩ = some (.slice R6 64 c6) := by
        show wr.cell? _ = _
        rw [cell_of_row _ _ _ _ _ _ st6.blkb]; rfl
      have br6 : BR wr.drew wr.drew.heap.size R6 (snapL g l l.length) := st6.br
      have i7 : MayInv w wr.drew g A l.length c := i6.drewN 1
      have hc6 := st6.cap
      clear st6 i6
      refine wp_region_still_tail 5 (by kernel_rfl) (by kernel_rfl) ?_
      simp only [List.take_succ_cons, List.take_zero, List.drop_succ_cons, List.drop_zero]
      change wpStill _ _ wr.drew (fun a' => wpList _ _ _ _ a' wr.drew) _ _
      generalize wr.drew = w7 at *
      have hc60 : (60 : Int) ≤ (c6 : Int) := by omega
      have hq := crcOf_lt ((snapL g l l.length).take 60)
      generalize hqe : crcOf ((snapL g l l.length).take 60) = q at hq
      have HQ := Lib.hid hqe
      clear hqe
      still_step
      still_step
      still_step
      still_call (leCrc60 _ _ _ q _ br6 (snapL_len _ _ _) HQ.out)
      still_step
      refine wpStill_nil ?_
      go_wp2_with fail
      refine (rt_lePut64N _ _ _ _ _ q 4 _ br6 (snapL_len _ _ _) (by decide) rfl).mono ?_
      rintro e w8 ⟨R8, c8, rfl, hc8, br8, b8, hn8⟩
      have hs7 := i7.bel.size
      rw [← HQ.out] at br8
      have i8 := i7.below b8
      clear br6 i7 b8
      go_wp2_with fail
      go_ret2
      exact givesEncN_yes HM.out hc8 br8 i8.bel (fun ad e => Nat.le_trans hs7 (hn8 ad e))
theorem enc_anyN (g : Nat) (A : Option Addr) (l : List Sn) (c : Nat) (w : World) (hx : SR w w.heap.size A l) (hl : l.length ≤ 9223372036854775807) :
    Calls Tryz.prog 114 #[agR g A l.length c] w (GivesEncN w g l) := by
  cases hm : mayB g l
  · exact enc_no g A l c w hx hl hm
  · exact enc_yes g A l c w hx hl hm
end Go.Proofs.YtebecpjecchfoaaGreatDoor
