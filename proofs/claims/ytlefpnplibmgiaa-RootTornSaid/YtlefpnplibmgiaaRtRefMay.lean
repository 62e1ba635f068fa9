/-
  The contract of the document's may.
-/
import Derived.Test.YtlefpnplibmgiaaRtMay
namespace Go.Proofs.Ytlefpnplibmgiaa
open Go.RowKit

set_option maxHeartbeats 800000 in
theorem refMay_any (g : Nat) (A : Option Addr) (l : List Sn) (c : Nat) (w : World) (hx : SR w w.heap.size A l) (hl : l.length ≤ 9223372036854775807) :
    Calls Try.prog 24 #[agR g A l.length c] w fun e w' => e = .returned (.bool (mayB g l)) ∧ Below w.heap.size w w' := by
  by_cases hn : 1 ≤ l.length ∧ l.length ≤ 4
  · obtain ⟨hn1, hn4⟩ := hn
    have hb0 : ¬ (l.length : Int) < 1 := by omega
    have hb4 : ¬ (4 : Int) < l.length := by omega
    have e0 : l ≠ [] := by intro e; subst e; simp at hn1
    go_enter Try.func24, Try.ntmps24
    go_wp2
    clear hb0 hb4 e0
    go_loopw [18, 3, 4, 20, 21, 22] (fun i _ _ _ _ _ wr => ∃ k : Nat, k ≤ l.length ∧ i = .int .i64 k ∧ okTo l k = true ∧ genTo g l k ∧ MayInv w wr g A l.length c) (fun i _ _ _ _ _ _ => l.length - (intOf i).toNat)
    case atStart => exact ⟨0, by omega, rfl, rfl, (fun i hi => absurd hi (Nat.not_lt_zero i)), heap_alloc_new _ _, (Below.refl _ _).alloc (Nat.le_refl _) _⟩
    case round =>
      obtain ⟨k, hk, rfl, hok, hge, hinv⟩ := hrel
      have HOK := Lib.hid hok
      have HGE := Lib.hid hge
      clear hok hge
      by_cases hlt : k < l.length
      · have hx0 := (hx.below hinv.bel).more hinv.bel.size
        obtain ⟨ad, rfl, hab, c0, c1⟩ := hx0.at_ hlt
        generalize hse : l.getD k sn0 = s at c0 c1
        have HSE := Lib.hid hse
        clear hse
        go_wp2_with fail
        have i2 := hinv.alloc (.cells #[.int .u64 (s.g : Int), .int .i64 s.t] 50)
        have hx1 : SR (wr.alloc (.cells #[.int .u64 (s.g : Int), .int .i64 s.t] 50)) wr.heap.size (some ad) l := hx0.keep fun p hp => World.cell?_alloc_lt _ _ p hp
        have e0 : (wr.alloc (.cells #[.int .u64 (s.g : Int), .int .i64 s.t] 50)).heap[wr.heap.size]? = some (.cells #[.int .u64 (s.g : Int), .int .i64 s.t] 50) := heap_alloc_new _ _
        generalize (wr.alloc (.cells #[.int .u64 (s.g : Int), .int .i64 s.t] 50)) = wA at *
        have s0 : wA.cell? ⟨wr.heap.size, 0, none⟩ = some (.int .u64 (s.g : Int)) := by rw [cell_of_row _ _ _ _ _ _ e0]; rfl
        have s1 : wA.cell? ⟨wr.heap.size, 1, none⟩ = some (.int .i64 s.t) := by rw [cell_of_row _ _ _ _ _ _ e0]; rfl
        have r1 : wA.cell? ⟨w.heap.size, 1, none⟩ = some (.slice (some ad) l.length c) := by rw [cell_of_row _ _ _ _ _ _ i2.blk]; rfl
        have r0 : wA.cell? ⟨w.heap.size, 0, none⟩ = some (.int .u64 (g : Int)) := by rw [cell_of_row _ _ _ _ _ _ i2.blk]; rfl
        clear e0 hx0 hx hinv c0 c1 hab
        by_cases ht0 : s.t < 0
        · go_quiet (fail)
          go_wp2
          go_ret
          exact ⟨ret_bool (mayB_no g l k hlt (okAt_top l k (by rw [HSE.out]; simp [topB]; omega))).symm, (i2.drewN _).bel⟩
        have ht0' : decide (s.t < 0) = false := by simpa using ht0
        by_cases ht1 : s.t = 1
        · have ht1' : (s.t == 1) = true := by simpa using ht1
          have HT1 := Lib.hid ht1
          clear ht1 ht0
          go_quiet (fail)
          go_wp2
          go_ret
          exact ⟨ret_bool (mayB_no g l k hlt (okAt_top l k (by rw [HSE.out, HT1.out]; rfl))).symm, (i2.drewN _).bel⟩
        have ht1' : (s.t == 1) = false := by simpa using ht1
        by_cases ht2 : 2000 ≤ s.t
        · go_quiet (fail)
          go_wp2
          go_ret
          exact ⟨ret_bool (mayB_no g l k hlt (okAt_top l k (by rw [HSE.out]; simp [topB]; omega))).symm, (i2.drewN _).bel⟩
        have ht2' : decide (2000 ≤ s.t) = false := by simpa using ht2
        have HT : Hid (topB (l.getD k sn0).t = true) := by show topB _ = true; rw [HSE.out]; simp [topB]; omega
        by_cases hgg : g < s.g
        · go_quiet (fail)
          go_wp2
          go_ret
          exact ⟨ret_bool (mayB_gen_no g l k hlt (by rw [HSE.out]; exact hgg)).symm, (i2.drewN _).bel⟩
        have hgg' : decide (g < s.g) = false := by simpa using hgg
        by_cases h0 : 1 ≤ k
        · obtain ⟨ad', e, _, p0, _⟩ := hx1.at_ (k := k - 1) (by omega)
          cases e
          generalize hpe : l.getD (k - 1) sn0 = p at p0
          have HPE := Lib.hid hpe
          clear hpe hx1
          have hk0 : 0 < k := by omega
          have hk1 : IntKind.i64.wrap ((k : Int) - 1) = (k : Int) - 1 := IntWalk.i64_in _ (by omega)
          have hk2 : (0 : Int) ≤ (k : Int) - 1 := by omega
          have hk3 : ((k : Int) - 1).toNat = k - 1 := by omega
          have hk4 : (k : Int) - 1 < l.length := by omega
          by_cases hg : s.g ≤ p.g
          · go_quiet (fail)
            clear hk1 hk2 hk3
            go_wp2
            go_ret
            exact ⟨ret_bool (mayB_no g l k hlt (by rw [okAt_more l k h0 HT.out, HSE.out, HPE.out]; simpa using hg)).symm, (i2.drewN _).bel⟩
          · go_quiet (fail)
            clear hk1 hk2 hk3
            go_wp2
            go_roundw
            case rel => exact ⟨k + 1, by omega, by go_num, by rw [okTo_succ, HOK.out, okAt_more l k h0 HT.out, HSE.out, HPE.out]; simpa using hg, genTo_succ HGE.out (by rw [HSE.out]; omega), i2.drewN _⟩
            case measure => simp [intOf]; omega
        · obtain rfl : k = 0 := by omega
          go_quiet (fail)
          go_wp2
          go_roundw
          case rel => exact ⟨1, by omega, by go_num, by rw [okTo_succ, HOK.out, okAt_zero l HT.out]; rfl, genTo_succ HGE.out (by rw [HSE.out]; omega), i2.drewN _⟩
          case measure => simp [intOf]; omega
      · obtain rfl : k = l.length := by omega
        go_wp2
        go_ret
        exact ⟨ret_bool (mayB_all g l hn1 hn4 HOK.out HGE.out).symm, hinv.bel⟩
  · have HE := Lib.hid (mayB_len g l hn)
    clear hx
    by_cases hz : l.length = 0
    · have e : l = [] := List.eq_nil_of_length_eq_zero hz
      subst e
      go_enter Try.func24, Try.ntmps24
      go_wp2
      go_ret
      exact ⟨ret_bool HE.out.symm, (Below.refl _ _).alloc (Nat.le_refl _) _⟩
    · have hb0 : ¬ (l.length : Int) < 1 := by omega
      have hb4 : (4 : Int) < l.length := by omega
      have e0 : l ≠ [] := by intro e; subst e; simp at hz
      clear hn
      go_enter Try.func24, Try.ntmps24
      go_wp2
      go_ret
      exact ⟨ret_bool HE.out.symm, (Below.refl _ _).alloc (Nat.le_refl _) _⟩
end Go.Proofs.Ytlefpnplibmgiaa
