/-
  The contracts of root.isTop, root.mayBe and of the document's may.
-/
import Derived.Test.YtlefpnplibmgiaaRt
import Derived.Outline
import Derived.Deep.QuietTactic
import Derived.BigQuiet
import Derived.IntWalk
namespace Go.Proofs.Ytlefpnplibmgiaa
open Go.RowKit

set_option maxHeartbeats 400000 in
theorem isTop_any (t : Int) (w : World) :
    Calls Try.prog 33 #[.int .i64 t] w fun e w' => e = .returned (.bool (topB t)) ∧ w = w' := by
  by_cases h0 : 0 ≤ t
  · by_cases h1 : t < 2000
    · by_cases h2 : t = 1
      · subst h2
        go_enter Try.func33, Try.ntmps33
        go_wp2
        go_ret
        exact ⟨rfl, rfl⟩
      · have h3 : (t != 1) = true := by simpa using h2
        go_enter Try.func33, Try.ntmps33
        go_wp2
        go_ret
        exact ⟨ret_bool (by simp [topB, h0, h1, h2]), rfl⟩
    · go_enter Try.func33, Try.ntmps33
      go_wp2
      go_ret
      exact ⟨ret_bool (by simp [topB]; omega), rfl⟩
  · go_enter Try.func33, Try.ntmps33
    go_wp2
    go_ret
    exact ⟨ret_bool (by simp [topB]; omega), rfl⟩

theorem isTop_is (t : Int) (b : Bool) (w : World) (h : topB t = b) :
    Calls Try.prog 33 #[.int .i64 t] w fun e w' => e = .returned (.bool b) ∧ w' = w := by
  subst h
  exact (isTop_any t w).mono fun _ _ ⟨he, hw⟩ => ⟨he, hw.symm⟩

/-- What the loop keeps: the root's own block, all that was there. -/
structure MayInv (w wr : World) (g : Nat) (A : Option Addr) (n c : Nat) : Prop where
  blk : wr.heap[w.heap.size]? = some (.cells #[.int .u64 (g : Int), .slice A n c] 25 (0, 0))
  bel : Below w.heap.size w wr
theorem MayInv.lt {w wr : World} {g : Nat} {A : Option Addr} {n c : Nat} (h : MayInv w wr g A n c) : w.heap.size < wr.heap.size := (Array.getElem?_eq_some_iff.1 h.blk).1
theorem MayInv.alloc {w wr : World} {g : Nat} {A : Option Addr} {n c : Nat} (h : MayInv w wr g A n c) (o : Obj) : MayInv w (wr.alloc o) g A n c :=
  ⟨(Below.heap_alloc _ _ _ h.lt).trans h.blk, h.bel.alloc h.bel.size _⟩
theorem MayInv.drewN {w wr : World} {g : Nat} {A : Option Addr} {n c : Nat} (h : MayInv w wr g A n c) (j : Nat) : MayInv w (wr.drewN j) g A n c :=
  ⟨by rw [← h.blk]; rfl, ⟨h.bel.os, h.bel.tape, h.bel.output, h.bel.size, h.bel.block⟩⟩

set_option maxHeartbeats 400000 in
theorem mayBe_any (g : Nat) (A : Option Addr) (l : List Sn) (c : Nat) (w : World) (hx : SR w w.heap.size A l) (hl : l.length ≤ 9223372036854775807) :
    Calls Try.prog 20 #[agR g A l.length c] w fun e w' => e = .returned (.bool (mayB g l)) ∧ Below w.heap.size w w' := by
  by_cases hn : 1 ≤ l.length ∧ l.length ≤ 4
  · obtain ⟨hn1, hn4⟩ := hn
    have hb0 : ((l.length : Int) == 0) = false := by simpa using (by omega : ¬ l.length = 0)
    have hb4 : ¬ (4 : Int) < l.length := by omega
    have e0 : l ≠ [] := by intro e; subst e; simp at hn1
    go_enter Try.func20, Try.ntmps20
    go_wp2
    clear hb0 hb4 e0
    go_loopw [18, 4, 5, 20, 21, 22] (fun i _ _ _ _ _ wr => ∃ k : Nat, k ≤ l.length ∧ i = .int .i64 k ∧ okTo l k = true ∧ MayInv w wr g A l.length c) (fun i _ _ _ _ _ _ => l.length - (intOf i).toNat)
    case atStart => exact ⟨0, by omega, rfl, rfl, heap_alloc_new _ _, (Below.refl _ _).alloc (Nat.le_refl _) _⟩
    case round =>
      obtain ⟨k, hk, rfl, hok, hinv⟩ := hrel
      have HOK := Lib.hid hok
      clear hok
      by_cases hlt : k < l.length
      · have hx0 := (hx.below hinv.bel).more hinv.bel.size
        obtain ⟨ad, rfl, hab, c0, c1⟩ := hx0.at_ hlt
        have HS := Lib.hid (rfl : l.getD k sn0 = l.getD k sn0)
        generalize hse : l.getD k sn0 = s at c0 c1
        have HSE := Lib.hid hse
        clear hse HS
        go_wp2_with fail
        have i2 := hinv.alloc (.cells #[.int .u64 (s.g : Int), .int .i64 s.t] 50)
        have hx1 : SR (wr.alloc (.cells #[.int .u64 (s.g : Int), .int .i64 s.t] 50)) wr.heap.size (some ad) l := hx0.keep fun p hp => World.cell?_alloc_lt _ _ p hp
        have e0 : (wr.alloc (.cells #[.int .u64 (s.g : Int), .int .i64 s.t] 50)).heap[wr.heap.size]? = some (.cells #[.int .u64 (s.g : Int), .int .i64 s.t] 50) := heap_alloc_new _ _
        generalize (wr.alloc (.cells #[.int .u64 (s.g : Int), .int .i64 s.t] 50)) = wA at *
        have s0 : wA.cell? ⟨wr.heap.size, 0, none⟩ = some (.int .u64 (s.g : Int)) := by rw [cell_of_row _ _ _ _ _ _ e0]; rfl
        have s1 : wA.cell? ⟨wr.heap.size, 1, none⟩ = some (.int .i64 s.t) := by rw [cell_of_row _ _ _ _ _ _ e0]; rfl
        have r1 : wA.cell? ⟨w.heap.size, 1, none⟩ = some (.slice (some ad) l.length c) := by rw [cell_of_row _ _ _ _ _ _ i2.blk]; rfl
        clear e0 hx0 hx hinv c0 c1 hab
        cases hT : topB s.t
        · go_quiet ((go_at_call 33; exact Calls.quiet_of_same (isTop_is _ _ _ hT)))
          go_wp2
          go_ret
          exact ⟨ret_bool (mayB_no g l k hlt (okAt_top l k (by rw [HSE.out]; exact hT))).symm, (i2.drewN _).bel⟩
        · by_cases h0 : 1 ≤ k
          · obtain ⟨ad', e, _, p0, _⟩ := hx1.at_ (k := k - 1) (by omega)
            cases e
            generalize hpe : l.getD (k - 1) sn0 = p at p0
            have HPE := Lib.hid hpe
            clear hpe hx1
            have hk0 : 0 < k := by omega
            have hk1 : IntKind.i64.wrap ((k : Int) - 1) = (k : Int) - 1 := IntWalk.i64_in _ (by omega)
            have hk2 : (0 : Int) ≤ (k : Int) - 1 := by omega
            have hk3 : ((k : Int) - 1).toNat = k - 1 := by omega
            have hk4 : (k : Int) - 1 < l.length := by omega
            by_cases hg : s.g ≤ p.g
            · go_quiet ((go_at_call 33; exact Calls.quiet_of_same (isTop_is _ _ _ hT)))
              clear hk1 hk2 hk3
              go_wp2
              go_ret
              exact ⟨ret_bool (mayB_no g l k hlt (by rw [okAt_more l k h0 (by rw [HSE.out]; exact hT), HSE.out, HPE.out]; simpa using hg)).symm, (i2.drewN _).bel⟩
            · go_quiet ((go_at_call 33; exact Calls.quiet_of_same (isTop_is _ _ _ hT)))
              clear hk1 hk2 hk3
              go_wp2
              go_roundw
              case rel => exact ⟨k + 1, by omega, by go_num, by rw [okTo_succ, HOK.out, okAt_more l k h0 (by rw [HSE.out]; exact hT), HSE.out, HPE.out]; simpa using hg, i2.drewN _⟩
              case measure => simp [intOf]; omega
          · obtain rfl : k = 0 := by omega
            go_quiet ((go_at_call 33; exact Calls.quiet_of_same (isTop_is _ _ _ hT)))
            go_wp2
            go_roundw
            case rel => exact ⟨1, by omega, by go_num, by rw [okTo_succ, HOK.out, okAt_zero l (by rw [HSE.out]; exact hT)]; rfl, i2.drewN _⟩
            case measure => simp [intOf]; omega
      · obtain rfl : k = l.length := by omega
        have hx0 := (hx.below hinv.bel).more hinv.bel.size
        obtain ⟨ad, rfl, hab, c0, c1⟩ := hx0.at_ (k := l.length - 1) (by omega)
        have HE := Lib.hid (mayB_end g l hn1 hn4 HOK.out)
        generalize hse : l.getD (l.length - 1) sn0 = s at c0 c1 HE
        have r0 : wr.cell? ⟨w.heap.size, 0, none⟩ = some (.int .u64 (g : Int)) := by rw [cell_of_row _ _ _ _ _ _ hinv.blk]; rfl
        have r1 : wr.cell? ⟨w.heap.size, 1, none⟩ = some (.slice (some ad) l.length c) := by rw [cell_of_row _ _ _ _ _ _ hinv.blk]; rfl
        clear hse hx0 hx c1 HOK
        go_wp2
        have hk1 : IntKind.i64.wrap ((l.length : Int) - 1) = (l.length : Int) - 1 := IntWalk.i64_in _ (by omega)
        have hk2 : (0 : Int) ≤ (l.length : Int) - 1 := by omega
        have hk3 : ((l.length : Int) - 1).toNat = l.length - 1 := by omega
        have hk4 : (l.length : Int) - 1 < l.length := by omega
        go_quiet (fail)
        clear hk1 hk2 hk3
        go_wp2
        go_ret
        exact ⟨ret_bool HE.out.symm, (hinv.drewN _).bel⟩
  · have HE := Lib.hid (mayB_len g l hn)
    clear hx
    by_cases hz : l.length = 0
    · have e : l = [] := List.eq_nil_of_length_eq_zero hz
      subst e
      go_enter Try.func20, Try.ntmps20
      go_wp2
      go_ret
      exact ⟨ret_bool HE.out.symm, (Below.refl _ _).alloc (Nat.le_refl _) _⟩
    · have hb0 : ((l.length : Int) == 0) = false := by simpa using hz
      have hb4 : (4 : Int) < l.length := by omega
      have e0 : l ≠ [] := by intro e; subst e; simp at hz
      clear hn
      go_enter Try.func20, Try.ntmps20
      go_wp2
      go_ret
      exact ⟨ret_bool HE.out.symm, (Below.refl _ _).alloc (Nat.le_refl _) _⟩
end Go.Proofs.Ytlefpnplibmgiaa
