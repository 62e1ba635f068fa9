/-
  The contract of the document's Encode.
-/
import Derived.Test.YtlefpnplibmgiaaRtRefMay
namespace Go.Proofs.Ytlefpnplibmgiaa
open Go.RowKit

/-- The call hands back 64 bytes, in memory that has room for them. -/
def Gives64 (w : World) (zs : List UInt8) (e : Ending) (w' : World) : Prop :=
  ∃ R c, e = .returned (.slice R 64 c) ∧ 64 ≤ c ∧ BR w' w'.heap.size R zs ∧ Below w.heap.size w w'
theorem refPut64 (A : Option Addr) (xs : List UInt8) (c : Nat) (a s : Int) (n k : Nat) (w : World) (hx : BR w w.heap.size A xs) (hl : xs.length = 64) (ha : 0 ≤ a) (ha' : a ≤ 1000) (hk : (clamp s 8).toNat = k) :
    Calls Try.prog 25 #[.slice A 64 c, .int .i64 a, .int .i64 s, .int .u64 n] w (Gives64 w (putL xs a n k)) := by
  subst hk
  have h := refPutNum_cap A xs c a s n w hx (by omega) (by omega) (by omega)
  rw [hl] at h
  refine h.mono ?_
  rintro e w' ⟨R, c', rfl, hr, hb, hc⟩
  rw [putL_len, hl] at hc ⊢
  exact ⟨R, c', rfl, hc, hr, hb⟩
theorem refCrc60 (A : Option Addr) (xs : List UInt8) (c : Nat) (w : World) (hx : BR w w.heap.size A xs) (hl : xs.length = 64) :
    Calls Try.prog 26 #[.slice A 60 c] w fun e w' => e = .returned (.int .u32 (crcOf (xs.take 60))) ∧ w = w' := by
  have h := refCrc_any A (xs.take 60) c w (hx.take 60) (by simp; omega)
  rwa [show (xs.take 60).length = 60 from by simp; omega] at h
theorem crcOf_lt (xs : List UInt8) : crcOf xs < 4294967296 := Nat.xor_lt_two_pow (n := 32) (by omega) (crcL_lt _ _ (by omega))
theorem make64 (w : World) :
    (Instr.makeSlice 27 (.int .i64 64) (.int .i64 64)).run Try.prog w = .ok (.slice (some ⟨w.heap.size, 0, none⟩) 64 64) (w.alloc (.cells (madeCells #[.int .u8 0] 64) 5)) := make8 64 (by decide) w
theorem MayInv.below {w wr w2 : World} {g : Nat} {A : Option Addr} {n c : Nat} (h : MayInv w wr g A n c) (hb : Below wr.heap.size wr w2) : MayInv w w2 g A n c :=
  ⟨(hb.block _ h.lt).trans h.blk, h.bel.trans (hb.mono h.bel.size)⟩

theorem topB_nat {t : Int} (h : topB t = true) : IntKind.u64.wrap t = (t.toNat : Int) := by
  simp only [topB, Bool.and_eq_true, decide_eq_true_eq] at h
  rw [IntKind.wrap_u64]; omega

/-- What Encode hands back: the bytes, or none and an error. -/
def encOut (g : Nat) (l : List Sn) : List UInt8 := if mayB g l = true then encL g l else []
def encErr (g : Nat) (l : List Sn) : Int := if mayB g l = true then 0 else 1
def GivesEnc (w : World) (g : Nat) (l : List Sn) (e : Ending) (w' : World) : Prop :=
  ∃ R c, e = .returned (.tuple #[.slice R (encOut g l).length c, .int .i64 (encErr g l)]) ∧ BR w' w'.heap.size R (encOut g l) ∧ Below w.heap.size w w' ∧ (encOut g l).length ≤ c
theorem givesEnc_no {w w' : World} {g : Nat} {l : List Sn} (h : mayB g l = false) (hb : Below w.heap.size w w') : GivesEnc w g l (.returned (.tuple #[.slice none 0 0, .int .i64 1])) w' := by
  have e1 : encOut g l = [] := by simp [encOut, h]
  have e2 : encErr g l = 1 := by simp [encErr, h]
  exact ⟨none, 0, by rw [e1, e2]; rfl, by rw [e1]; exact BR.nil, hb, by rw [e1]; exact Nat.le_refl _⟩
theorem givesEnc_yes {w w' : World} {g : Nat} {l : List Sn} {R : Option Addr} {c : Nat} (h : mayB g l = true) (hc : 64 ≤ c) (hr : BR w' w'.heap.size R (encL g l)) (hb : Below w.heap.size w w') : GivesEnc w g l (.returned (.tuple #[.slice R 64 c, .int .i64 0])) w' := by
  have e1 : encOut g l = encL g l := by simp [encOut, h]
  have e2 : encErr g l = 0 := by simp [encErr, h]
  exact ⟨R, c, by rw [e1, e2, encL_len], by rw [e1]; exact hr, hb, by rw [e1, encL_len]; exact hc⟩

theorem refMay_is (b : Bool) (g : Nat) (A : Option Addr) (l : List Sn) (c : Nat) (w : World) (hx : SR w w.heap.size A l) (hl : l.length ≤ 9223372036854775807) (h : mayB g l = b) :
    Calls Try.prog 24 #[agR g A l.length c] w fun e w' => e = .returned (.bool b) ∧ Below w.heap.size w w' := by
  subst h; exact refMay_any g A l c w hx hl

set_option maxHeartbeats 800000 in
theorem refEnc_no (g : Nat) (A : Option Addr) (l : List Sn) (c : Nat) (w : World) (hx : SR w w.heap.size A l) (hl : l.length ≤ 9223372036854775807) (hm : mayB g l = false) :
    Calls Try.prog 11 #[agR g A l.length c] w (GivesEnc w g l) := by
  have HM := Lib.hid hm
  clear hm
  go_enter Try.func11, Try.ntmps11
  go_wp2_with fail
  refine (refMay_is false g A l c _ ?_ hl HM.out).mono ?_
  · exact (hx.keep fun p hp => World.cell?_alloc_lt _ _ p hp).more (by simp)
  rintro e w1 ⟨rfl, hb⟩
  have b1 : Below w.heap.size w w1 := ((Below.refl _ _).alloc (Nat.le_refl _) _).trans (hb.mono (by simp))
  clear hb
  go_wp2_with fail
  go_ret2
  exact givesEnc_no HM.out b1

set_option maxHeartbeats 1000000 in
theorem refEnc_yes (g : Nat) (A : Option Addr) (l : List Sn) (c : Nat) (w : World) (hx : SR w w.heap.size A l) (hl : l.length ≤ 9223372036854775807) (hm : mayB g l = true) :
    Calls Try.prog 11 #[agR g A l.length c] w (GivesEnc w g l) := by
  have HM := Lib.hid hm
  obtain ⟨hn1, hn4, -, -⟩ := mayB_parts hm
  clear hm
  go_enter Try.func11, Try.ntmps11
  go_wp2_with fail
  refine (refMay_is true g A l c _ ?_ hl HM.out).mono ?_
  · exact (hx.keep fun p hp => World.cell?_alloc_lt _ _ p hp).more (by simp)
  rintro e w1 ⟨rfl, hb⟩
  have i0 : MayInv w (w.alloc (.cells #[.int .u64 (g : Int), .slice A l.length c] 25)) g A l.length c := ⟨heap_alloc_new _ _, (Below.refl _ _).alloc (Nat.le_refl _) _⟩
  have i1 := i0.below hb
  clear hb i0
  have hmk := make64
  go_wp2_with fail
  clear hmk
  have i2 := i1.alloc (.cells (madeCells #[.int .u8 0] 64) 5)
  have br : BR (w1.alloc (.cells (madeCells #[.int .u8 0] 64) 5)) (w1.alloc (.cells (madeCells #[.int .u8 0] 64) 5)).heap.size (some ⟨w1.heap.size, 0, none⟩) (List.replicate 64 0) := (Row8.made w1 64 5).br
  generalize w1.alloc (.cells (madeCells #[.int .u8 0] 64) 5) = w2 at *
  refine (refPut64 _ _ _ _ _ 1280459075 4 _ br (by simp) (by decide) (by decide) rfl).mono ?_
  rintro e w3 ⟨R, c3, rfl, hc, br3, b3⟩
  have i3 := i2.below b3
  clear br b3 i2 i1
  have r0 : w3.cell? ⟨w.heap.size, 0, none⟩ = some (.int .u64 (g : Int)) := by rw [cell_of_row _ _ _ _ _ _ i3.blk]; rfl
  go_wp2_with fail
  refine (refPut64 _ _ _ _ _ g 8 _ br3 (by simp [putL_len]) (by decide) (by decide) rfl).mono ?_
  rintro e w4 ⟨R4, c4, rfl, hc4, br4, b4⟩
  have i4 := i3.below b4
  clear br3 b4 i3 r0
  have r1 : w4.cell? ⟨w.heap.size, 1, none⟩ = some (.slice A l.length c) := by rw [cell_of_row _ _ _ _ _ _ i4.blk]; rfl
  go_wp2_with fail
  refine (refPut64 _ _ _ _ _ l.length 2 _ br4 (by simp [putL_len]) (by decide) (by decide) rfl).mono ?_
  rintro e w5 ⟨R5, c5, rfl, hc5, br5, b5⟩
  have i5 := i4.below b5
  clear br4 b5 i4 r1
  have r1 : w5.cell? ⟨w.heap.size, 1, none⟩ = some (.slice A l.length c) := by rw [cell_of_row _ _ _ _ _ _ i5.blk]; rfl
  go_wp2_with fail
  clear r1
  go_loopw [26, 4, 5, 6, 28, 29, 30] (fun i b _ _ _ _ _ wr => ∃ k : Nat, ∃ R6 c6, k ≤ l.length ∧ i = .int .i64 k ∧ b = .slice R6 64 c6 ∧ 64 ≤ c6 ∧ BR wr wr.heap.size R6 (snapL g l k) ∧ MayInv w wr g A l.length c) (fun i _ _ _ _ _ _ _ => l.length - (intOf i).toNat)
  case atStart => exact ⟨0, R5, c5, by omega, rfl, rfl, hc5, br5, i5⟩
  case round =>
    clear br5 i5 hc5
    obtain ⟨k, R6, c6, hk, rfl, rfl, hc6, br6, i6⟩ := hrel
    by_cases hlt : k < l.length
    · have hx0 := (hx.below i6.bel).more i6.bel.size
      obtain ⟨ad, rfl, hab, d0, d1⟩ := hx0.at_ hlt
      have HT : Hid (topB (l.getD k sn0).t = true) := by
        have := okTo_at (mayB_parts HM.out).2.2.1 hlt
        simp only [okAt, Bool.and_eq_true] at this
        exact this.1
      generalize hse : l.getD k sn0 = s at d0 d1 HT
      have HSE := Lib.hid hse
      clear hse
      go_wp2_with fail
      have i7 := i6.alloc (.cells #[.int .u64 (s.g : Int), .int .i64 s.t] 50)
      have br7 : BR (wr.alloc (.cells #[.int .u64 (s.g : Int), .int .i64 s.t] 50)) (wr.alloc (.cells #[.int .u64 (s.g : Int), .int .i64 s.t] 50)).heap.size R6 (snapL g l k) := (br6.alloc (Nat.le_refl _) _).more (by simp)
      have e0 : (wr.alloc (.cells #[.int .u64 (s.g : Int), .int .i64 s.t] 50)).heap[wr.heap.size]? = some (.cells #[.int .u64 (s.g : Int), .int .i64 s.t] 50) := heap_alloc_new _ _
      have hA : wr.heap.size < (wr.alloc (.cells #[.int .u64 (s.g : Int), .int .i64 s.t] 50)).heap.size := by simp
      generalize (wr.alloc (.cells #[.int .u64 (s.g : Int), .int .i64 s.t] 50)) = wA at *
      clear d0 d1 hab hx0
      refine (refPut64 _ _ _ _ _ s.g 8 _ br7 (snapL_len _ _ _) (by omega) (by omega) rfl).mono ?_
      rintro e w8 ⟨R8, c8, rfl, hc8, br8, b8⟩
      have i8 := i7.below b8
      have e8 := (b8.block _ hA).trans e0
      have s1 : w8.cell? ⟨wr.heap.size, 1, none⟩ = some (.int .i64 s.t) := by rw [cell_of_row _ _ _ _ _ _ e8]; rfl
      clear e0 e8 i7 br7 b8
      go_wp2_with fail
      rw [topB_nat HT.out]
      refine (refPut64 _ _ _ _ _ s.t.toNat 2 _ br8 (by rw [putL_len, snapL_len]) (by omega) (by omega) rfl).mono ?_
      rintro e w9 ⟨R9, c9, rfl, hc9, br9, b9⟩
      have i9 := i8.below b9
      have BR9 : Hid (BR w9 w9.heap.size R9 (snapL g l (k + 1))) := by
        show BR _ _ _ _
        rw [snapL, HSE.out]; exact br9
      clear s1 br8 i8 b9 br9
      go_wp2_with fail
      go_roundw
      case rel => exact ⟨k + 1, R9, c9, by omega, by go_num, rfl, hc9, BR9.out, i9⟩
      case measure => simp [intOf]; omega
    · obtain rfl : k = l.length := by omega
      go_wp2_with fail
      refine (refCrc60 _ _ _ _ br6 (snapL_len _ _ _)).mono ?_
      rintro e w7 ⟨rfl, rfl⟩
      have hq := crcOf_lt ((snapL g l l.length).take 60)
      generalize hqe : crcOf ((snapL g l l.length).take 60) = q at hq ⊢
      have HQ := Lib.hid hqe
      clear hqe
      go_wp2_with fail
      refine (refPut64 _ _ _ _ _ q 4 _ br6 (snapL_len _ _ _) (by decide) (by decide) rfl).mono ?_
      rintro e w8 ⟨R8, c8, rfl, hc8, br8, b8⟩
      rw [← HQ.out] at br8
      have i8 := i6.below b8
      clear br6 i6 b8
      go_wp2_with fail
      go_ret2
      exact givesEnc_yes HM.out hc8 br8 i8.bel
theorem refEnc_any (g : Nat) (A : Option Addr) (l : List Sn) (c : Nat) (w : World) (hx : SR w w.heap.size A l) (hl : l.length ≤ 9223372036854775807) :
    Calls Try.prog 11 #[agR g A l.length c] w (GivesEnc w g l) := by
  cases hm : mayB g l
  · exact refEnc_no g A l c w hx hl hm
  · exact refEnc_yes g A l c w hx hl hm
end Go.Proofs.Ytlefpnplibmgiaa
