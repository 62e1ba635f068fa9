/-
  The contracts of root.Encode and of the function that it lays numbers with.
-/
import Derived.Test.YtlefpnplibmgiaaRtRefEnc
import Derived.Test.YtlefpnplibmgiaaKeeps
import Derived.StillTailTactics
namespace Go.Proofs.Ytlefpnplibmgiaa
open Go.RowKit

/-- The two variables of Encode: the bytes so far (64 of them), the place. -/
structure EncSt (w : World) (gb ga : Nat) (zs : List UInt8) (a : Nat) (R : Option Addr) (c : Nat) : Prop where
  ne : gb ≠ ga
  cap : 64 ≤ c
  len : zs.length = 64
  blkb : w.heap[gb]? = some (.cells #[.slice R 64 c] 27 (0, 0))
  blka : w.heap[ga]? = some (.cells #[.int .i64 (a : Int)] 3 (0, 0))
  br : BR w w.heap.size R zs
  apart : ∀ ad, R = some ad → ad.block ≠ gb ∧ ad.block ≠ ga
theorem EncSt.keep {w w' : World} {gb ga : Nat} {zs : List UInt8} {a : Nat} {R : Option Addr} {c : Nat} (h : EncSt w gb ga zs a R c) (hb : Below w.heap.size w w') : EncSt w' gb ga zs a R c :=
  ⟨h.ne, h.cap, h.len, (hb.block _ (Array.getElem?_eq_some_iff.1 h.blkb).1).trans h.blkb, (hb.block _ (Array.getElem?_eq_some_iff.1 h.blka).1).trans h.blka, (h.br.below hb).more hb.size, h.apart⟩

def PutOut (w : World) (gb ga : Nat) (zs : List UInt8) (a : Nat) (e : Ending) (w' : World) : Prop :=
  e = .returned (.tuple #[]) ∧ (∃ R c, EncSt w' gb ga zs a R c) ∧ Keeps (fun k => k = gb ∨ k = ga) w w'

theorem put_end {w w1 : World} {gb ga g c' : Nat} {zs zs' : List UInt8} {a a' : Nat} {R : Option Addr} {c : Nat} (h : EncSt w gb ga zs a R c) (hb : Below w.heap.size w w1) (hg : w.heap.size ≤ g) (hc : 64 ≤ c') (hl : zs'.length = 64)
    (br : BR w1 w1.heap.size (some ⟨g, 0, none⟩) zs') (x : Int) (hx : x = (a' : Int)) :
    PutOut w gb ga zs' a' (.returned (.tuple #[])) ((w1.setCell ⟨gb, 0, none⟩ (.slice (some ⟨g, 0, none⟩) 64 c')).setCell ⟨ga, 0, none⟩ (.int .i64 x)) := by
  subst hx
  have lb : gb < w.heap.size := (Array.getElem?_eq_some_iff.1 h.blkb).1
  have la : ga < w.heap.size := (Array.getElem?_eq_some_iff.1 h.blka).1
  have f0 := (hb.block _ lb).trans h.blkb
  have f1 := (hb.block _ la).trans h.blka
  have k1 : Keeps (fun k => k = gb ∨ k = ga) w1 ((w1.setCell ⟨gb, 0, none⟩ (.slice (some ⟨g, 0, none⟩) 64 c')).setCell ⟨ga, 0, none⟩ (.int .i64 (a' : Int))) :=
    (Keeps.setCell _ _ _ _ (.inl rfl)).trans (Keeps.setCell _ _ _ _ (.inr rfl))
  refine ⟨rfl, ⟨some ⟨g, 0, none⟩, c', h.ne, hc, hl, ?_, ?_, ?_, ?_⟩, (Keeps.below hb _ (fun k hk hk' => absurd hk (by omega))).trans k1⟩
  · rw [Below.heap_setCell _ _ _ _ h.ne, heap_setCell_same _ _ _ _ _ _ f0]; rfl
  · rw [heap_setCell_same _ _ _ _ _ _ ((Below.heap_setCell _ _ _ _ (fun e => h.ne e.symm)).trans f1)]; rfl
  · exact k1.br br fun ad e _ => by cases e; simp; omega
  · intro ad e; cases e; simp; omega

set_option maxHeartbeats 400000 in
theorem put_any (s n k : Nat) (gb ga : Nat) (zs : List UInt8) (a : Nat) (R : Option Addr) (c : Nat) (w : World) (hs : s ≤ 8) (ha : a ≤ 1000) (hk : (clamp (s : Int) 8).toNat = k) (h : EncSt w gb ga zs a R c) :
    Calls Try.prog 21 #[.int .i64 (s : Int), .int .u64 (n : Int), .pointer (some ⟨gb, 0, none⟩), .pointer (some ⟨ga, 0, none⟩)] w (PutOut w gb ga (putL zs (a : Int) n k) (a + s)) := by
  subst hk
  have c0 : w.cell? ⟨gb, 0, none⟩ = some (.slice R 64 c) := by rw [cell_of_row _ _ _ _ _ _ h.blkb]; rfl
  have c1 : w.cell? ⟨ga, 0, none⟩ = some (.int .i64 (a : Int)) := by rw [cell_of_row _ _ _ _ _ _ h.blka]; rfl
  have lb : gb < w.heap.size := (Array.getElem?_eq_some_iff.1 h.blkb).1
  have la : ga < w.heap.size := (Array.getElem?_eq_some_iff.1 h.blka).1
  have hp := lePutNum_new R zs c (a : Int) (s : Int) n w h.br (by rw [h.len]; omega) (by omega)
  rw [h.len] at hp
  go_enter Try.func21, Try.ntmps21
  go_wp2_with fail
  refine hp.mono ?_
  clear hp c0 c1
  rintro e w1 ⟨g, c', rfl, hg, hg', br, hb, hc⟩
  rw [putL_len, h.len] at hc ⊢
  have f0 := (hb.block _ lb).trans h.blkb
  have f1 := (hb.block _ la).trans h.blka
  have c0 : w1.cell? ⟨gb, 0, none⟩ = some (.slice R 64 c) := by rw [cell_of_row _ _ _ _ _ _ f0]; rfl
  have c1 : w1.cell? ⟨ga, 0, none⟩ = some (.int .i64 (a : Int)) := by rw [cell_of_row _ _ _ _ _ _ f1]; rfl
  have z0 := frozen_of_row w1 gb 0 _ _ f0
  have z1 := frozen_of_row w1 ga 0 _ _ f1
  have n0 : ¬ gb = ga := h.ne
  have n1 : ¬ ga = gb := fun e => h.ne e.symm
  have F0 := Lib.hid f0
  have F1 := Lib.hid f1
  clear f0 f1
  go_wp2_with fail
  go_end0
  exact put_end h hb hg hc (by rw [putL_len, h.len]) br _ (by simp)

theorem mayBe_is (b : Bool) (g : Nat) (A : Option Addr) (l : List Sn) (c : Nat) (w : World) (hx : SR w w.heap.size A l) (hl : l.length ≤ 9223372036854775807) (h : mayB g l = b) :
    Calls Try.prog 20 #[agR g A l.length c] w fun e w' => e = .returned (.bool b) ∧ Below w.heap.size w w' := by
  subst h; exact mayBe_any g A l c w hx hl

set_option maxHeartbeats 800000 in
theorem enc_no (g : Nat) (A : Option Addr) (l : List Sn) (c : Nat) (w : World) (hx : SR w w.heap.size A l) (hl : l.length ≤ 9223372036854775807) (hm : mayB g l = false) :
    Calls Try.prog 10 #[agR g A l.length c] w (GivesEnc w g l) := by
  have HM := Lib.hid hm
  clear hm
  go_enter Try.func10, Try.ntmps10
  go_wp2_with fail
  refine (mayBe_is false g A l c _ ?_ hl HM.out).mono ?_
  · exact (hx.keep fun p hp => World.cell?_alloc_lt _ _ p hp).more (by simp)
  rintro e w1 ⟨rfl, hb⟩
  have b1 : Below w.heap.size w w1 := ((Below.refl _ _).alloc (Nat.le_refl _) _).trans (hb.mono (by simp))
  clear hb
  go_wp2_with fail
  go_ret2
  exact givesEnc_no HM.out b1

theorem leCrc60 (A : Option Addr) (xs : List UInt8) (c q : Nat) (w : World) (hx : BR w w.heap.size A xs) (hl : xs.length = 64) (hq : crcOf (xs.take 60) = q) :
    Calls Try.prog 23 #[.slice A 60 c] w fun e w' => e = .returned (.int .u32 (q : Int)) ∧ w' = w := by
  subst hq
  exact (leCrc_len A (xs.take 60) c 60 w (hx.take 60) (by simp; omega) (by simp; omega)).mono fun _ _ ⟨he, hw⟩ => ⟨he, hw.symm⟩
theorem lePut64 (A : Option Addr) (xs : List UInt8) (c : Nat) (a s : Int) (n k : Nat) (w : World) (hx : BR w w.heap.size A xs) (hl : xs.length = 64) (ha : 0 ≤ a) (hk : (clamp s 8).toNat = k) :
    Calls Try.prog 22 #[.slice A 64 c, .int .i64 a, .int .i64 s, .int .u64 n] w (Gives64 w (putL xs a n k)) := by
  subst hk
  have h := lePutNum_new A xs c a s n w hx (by omega) (by omega)
  rw [hl] at h
  refine h.mono ?_
  rintro e w' ⟨g, c', rfl, _, _, hr, hb, hc⟩
  rw [putL_len, hl] at hc ⊢
  exact ⟨_, c', rfl, hc, hr, hb⟩

/-- The three new variables of Encode. -/
def encW (w1 : World) : World := ((w1.alloc (.cells (madeCells #[.int .u8 0] 64) 5)).alloc (.cells #[.slice (some ⟨w1.heap.size, 0, none⟩) 64 64] 27)).alloc (.cells #[.int .i64 0] 3)
theorem encW_st (w1 : World) : EncSt (encW w1) (w1.heap.size + 1) (w1.heap.size + 1 + 1) (List.replicate 64 0) 0 (some ⟨w1.heap.size, 0, none⟩) 64 := by
  refine ⟨by omega, by omega, by simp, ?_, ?_, ?_, ?_⟩
  · unfold encW; rw [Below.heap_alloc _ _ _ (by simp)]; exact blk_at_last _ _ _ (by simp)
  · exact blk_at_last _ _ _ (by simp)
  · have h : Row8 (encW w1) w1.heap.size 5 (List.replicate 64 0) := ((Row8.made w1 64 5).alloc _).alloc _
    exact h.br
  · intro ad e; cases e; simp; omega
theorem MayInv.keeps {w wr w2 : World} {g : Nat} {A : Option Addr} {n c : Nat} {F : Nat → Prop} (h : MayInv w wr g A n c) (k : Keeps F wr w2) (hF : ∀ b, F b → w.heap.size < b) : MayInv w w2 g A n c :=
  ⟨(k.block _ h.lt (fun hf => absurd (hF _ hf) (Nat.lt_irrefl _))).trans h.blk, h.bel.trans (k.toBelow _ h.bel.size (fun b hf => Nat.le_of_lt (hF b hf)))⟩

set_option maxHeartbeats 1000000 in
theorem enc_yes (g : Nat) (A : Option Addr) (l : List Sn) (c : Nat) (w : World) (hx : SR w w.heap.size A l) (hl : l.length ≤ 9223372036854775807) (hm : mayB g l = true) :
    Calls Try.prog 10 #[agR g A l.length c] w (GivesEnc w g l) := by
  have HM := Lib.hid hm
  obtain ⟨hn1, hn4, -, -⟩ := mayB_parts hm
  clear hm
  have hmf : ∀ (fn : Fn) (first cap : Array Value) (w : World), (Instr.makeFunc fn first cap).run Try.prog w = .ok (.func fn first cap) w := fun _ _ _ _ => rfl
  go_enter Try.func10, Try.ntmps10
  go_wp2_with fail
  refine (mayBe_is true g A l c _ ?_ hl HM.out).mono ?_
  · exact (hx.keep fun p hp => World.cell?_alloc_lt _ _ p hp).more (by simp)
  rintro e w1 ⟨rfl, hb⟩
  have i0 : MayInv w (w.alloc (.cells #[.int .u64 (g : Int), .slice A l.length c] 25)) g A l.length c := ⟨heap_alloc_new _ _, (Below.refl _ _).alloc (Nat.le_refl _) _⟩
  have i1 := i0.below hb
  clear hb i0
  have hmk := make64
  go_wp2_with fail
  clear hmk
  have i2 : MayInv w (encW w1) g A l.length c := ((i1.alloc _).alloc _).alloc _
  have st := encW_st w1
  have hgb := i1.lt
  clear i1
  change Calls _ _ _ (encW w1) _
  generalize encW w1 = w2 at *
  refine (put_any 4 1280459075 4 _ _ _ 0 _ _ _ (by decide) (by decide) rfl st).mono ?_
  rintro e w3 ⟨rfl, ⟨R3, c3, st3⟩, k3⟩
  have i3 := i2.keeps k3 (by intro b hb; omega)
  clear st i2 k3
  have r0 : w3.cell? ⟨w.heap.size, 0, none⟩ = some (.int .u64 (g : Int)) := by rw [cell_of_row _ _ _ _ _ _ i3.blk]; rfl
  go_wp2_with fail
  refine (put_any 8 g 8 _ _ _ 4 _ _ _ (by decide) (by decide) rfl st3).mono ?_
  rintro e w4 ⟨rfl, ⟨R4, c4, st4⟩, k4⟩
  have i4 := i3.keeps k4 (by intro b hb; omega)
  clear st3 i3 k4 r0
  have r1 : w4.cell? ⟨w.heap.size, 1, none⟩ = some (.slice A l.length c) := by rw [cell_of_row _ _ _ _ _ _ i4.blk]; rfl
  go_wp2_with fail
  refine (put_any 2 l.length 2 _ _ _ 12 _ _ _ (by decide) (by decide) rfl st4).mono ?_
  rintro e w5 ⟨rfl, ⟨R5, c5, st5⟩, k5⟩
  have i5 := i4.keeps k5 (by intro b hb; omega)
  clear st4 i4 k5 r1
  have r1 : w5.cell? ⟨w.heap.size, 1, none⟩ = some (.slice A l.length c) := by rw [cell_of_row _ _ _ _ _ _ i5.blk]; rfl
  go_wp2_with fail
  clear r1
  go_loopw [29, 8, 31, 32] (fun i _ _ _ wr => ∃ k : Nat, ∃ R6 c6, k ≤ l.length ∧ i = .int .i64 k ∧ EncSt wr (w1.heap.size + 1) (w1.heap.size + 1 + 1) (snapL g l k) (14 + 10 * k) R6 c6 ∧ MayInv w wr g A l.length c) (fun i _ _ _ _ => l.length - (intOf i).toNat)
  case atStart => exact ⟨0, R5, c5, by omega, rfl, st5, i5⟩
  case round =>
    clear st5 i5
    obtain ⟨k, R6, c6, hk, rfl, st6, i6⟩ := hrel
    by_cases hlt : k < l.length
    · have hx0 := (hx.below i6.bel).more i6.bel.size
      obtain ⟨ad, rfl, hab, d0, d1⟩ := hx0.at_ hlt
      have HT : Hid (topB (l.getD k sn0).t = true) := by
        have := okTo_at (mayB_parts HM.out).2.2.1 hlt
        simp only [okAt, Bool.and_eq_true] at this
        exact this.1
      generalize hse : l.getD k sn0 = s at d0 d1 HT
      have HSE := Lib.hid hse
      clear hse
      go_wp2_with fail
      have i7 := i6.alloc (.cells #[.int .u64 (s.g : Int), .int .i64 s.t] 50)
      have st7 := st6.keep ((Below.refl _ _).alloc (Nat.le_refl _) (.cells #[.int .u64 (s.g : Int), .int .i64 s.t] 50))
      have e0 : (wr.alloc (.cells #[.int .u64 (s.g : Int), .int .i64 s.t] 50)).heap[wr.heap.size]? = some (.cells #[.int .u64 (s.g : Int), .int .i64 s.t] 50) := heap_alloc_new _ _
      have hA : wr.heap.size < (wr.alloc (.cells #[.int .u64 (s.g : Int), .int .i64 s.t] 50)).heap.size := by simp
      have hga : w1.heap.size + 1 + 1 < wr.heap.size := (Array.getElem?_eq_some_iff.1 st6.blka).1
      generalize (wr.alloc (.cells #[.int .u64 (s.g : Int), .int .i64 s.t] 50)) = wA at *
      clear d0 d1 hab hx0
      refine (put_any 8 s.g 8 _ _ _ _ _ _ _ (by decide) (by omega) rfl st7).mono ?_
      rintro e w8 ⟨rfl, ⟨R8, c8, st8⟩, k8⟩
      have i8 := i7.keeps k8 (by intro b hb; omega)
      have e8 := (k8.block _ hA (by omega)).trans e0
      have s1 : w8.cell? ⟨wr.heap.size, 1, none⟩ = some (.int .i64 s.t) := by rw [cell_of_row _ _ _ _ _ _ e8]; rfl
      clear e0 e8 i7 st7 k8
      go_wp2_with fail
      rw [topB_nat HT.out]
      refine (put_any 2 s.t.toNat 2 _ _ _ _ _ _ _ (by decide) (by omega) rfl st8).mono ?_
      rintro e w9 ⟨rfl, ⟨R9, c9, st9⟩, k9⟩
      have i9 := i8.keeps k9 (by intro b hb; omega)
      have ST9 : Hid (EncSt w9 (w1.heap.size + 1) (w1.heap.size + 1 + 1) (snapL g l (k + 1)) (14 + 10 * (k + 1)) R9 c9) := by
        show EncSt _ _ _ _ _ _ _
        rw [snapL, HSE.out]
        have e1 : ((14 + 10 * k : Nat) : Int) = 14 + 10 * (k : Int) := by omega
        have e2 : ((14 + 10 * k + 8 : Nat) : Int) = 22 + 10 * (k : Int) := by omega
        rw [e1, e2] at st9
        exact st9
      clear s1 st8 i8 k9 st9
      go_wp2_with fail
      go_roundw
      case rel => exact ⟨k + 1, R9, c9, by omega, by go_num, ST9.out, i9⟩
      case measure => simp [intOf]; omega
    · obtain rfl : k = l.length := by omega
      go_wp2_with fail
      have c0 : wr.drew.cell? ⟨w1.heap.size + 1, 0, none⟩ = some (.slice R6 64 c6) := by
        show wr.cell? _ = _
        rw [cell_of_row _ _ _ _ _ _ st6.blkb]; rfl
      have br6 : BR wr.drew wr.drew.heap.size R6 (snapL g l l.length) := st6.br
      have i7 : MayInv w wr.drew g A l.length c := i6.drewN 1
      have hc6 := st6.cap
      clear st6 i6
      refine wp_region_still_tail 5 (by kernel_rfl) (by kernel_rfl) ?_
      simp only [List.take_succ_cons, List.take_zero, List.drop_succ_cons, List.drop_zero]
      change wpStill _ _ wr.drew (fun a' => wpList _ _ _ _ a' wr.drew) _ _
      generalize wr.drew = w7 at *
      have hc60 : (60 : Int) ≤ (c6 : Int) := by omega
      have hq := crcOf_lt ((snapL g l l.length).take 60)
      generalize hqe : crcOf ((snapL g l l.length).take 60) = q at hq
      have HQ := Lib.hid hqe
      clear hqe
      still_step
      still_step
      still_step
      still_call (leCrc60 _ _ _ q _ br6 (snapL_len _ _ _) HQ.out)
      still_step
      refine wpStill_nil ?_
      go_wp2_with fail
      refine (lePut64 _ _ _ _ _ q 4 _ br6 (snapL_len _ _ _) (by decide) rfl).mono ?_
      rintro e w8 ⟨R8, c8, rfl, hc8, br8, b8⟩
      rw [← HQ.out] at br8
      have i8 := i7.below b8
      clear br6 i7 b8
      go_wp2_with fail
      go_ret2
      exact givesEnc_yes HM.out hc8 br8 i8.bel
theorem enc_any (g : Nat) (A : Option Addr) (l : List Sn) (c : Nat) (w : World) (hx : SR w w.heap.size A l) (hl : l.length ≤ 9223372036854775807) :
    Calls Try.prog 10 #[agR g A l.length c] w (GivesEnc w g l) := by
  cases hm : mayB g l
  · exact enc_no g A l c w hx hl hm
  · exact enc_yes g A l c w hx hl hm
end Go.Proofs.Ytlefpnplibmgiaa
