/-
  LawStackOrder
-/
import Derived.Test.YtmaoaeebggpbbaaGA
import Derived.ChangeOld
import Derived.Below
import Derived.Deep.QuietTactic
import Derived.BigQuiet
import Derived.WalkSmall
import Derived.Test.YtmaoaeebggpbbaaSkAwk
import Derived.Test.YtmaoaeebggpbbaaSkIn
namespace Go.Proofs.Ytmaoaeebggpbbaa.stackOrder
open Go.ChangeShapes Go.WideShapes Go.ChangeAt Go.RowKit Sk Mm
set_option linter.unusedVariables false

theorem own : ownKnob Try.prog.godebug = none := by kernel_rfl
theorem laidOut : laidOutB Try.prog = true := by kernel_rfl

set_option maxRecDepth 100000 in
set_option maxHeartbeats 1000000 in
theorem walk (A0 : Option Addr) (l0 : List Int) (c0 : Nat) (A1 : Option Addr) (l1 : List Int) (c1 : Nat) (w : World) (o0 : IQ w w.heap.size A0 l0) (m0 : inR l0 ∧ l0.length ≤ 17592186044416) (o1 : IQ w w.heap.size A1 l1) (m1 : inR l1 ∧ l1.length ≤ 17592186044416) :
    Calls Try.prog 4 #[.slice A0 l0.length c0, .slice A1 l1.length c1] w fun e w' => e = .returned (.bool true) ∧ Below w.heap.size w w' := by
  have n0 := m0.2
  have n1 := m1.2
  have BX := Lib.hid (fun (W : World) (hb : Below w.heap.size w W) => o0.below hb)
  have BY := Lib.hid (fun (W : World) (hb : Below w.heap.size w W) => o1.below hb)
  clear o0 o1
  by_cases hl : 100 < l0.length
  · go_enter Try.func4, Try.ntmps4
    go_wp2_with fail
    refine (skawake_any w).mono ?_
    rintro e w1 ⟨rfl, b1⟩
    go_wp2_with fail
    go_ret
    exact ⟨rfl, b1⟩
  by_cases hl2 : 100 < l1.length
  · go_enter Try.func4, Try.ntmps4
    go_wp2_with fail
    refine (skawake_any w).mono ?_
    rintro e w1 ⟨rfl, b1⟩
    go_wp2_with fail
    go_ret
    exact ⟨rfl, b1⟩
  go_enter Try.func4, Try.ntmps4
  go_wp2_with fail
  refine (skawake_any w).mono ?_
  rintro e w1 ⟨rfl, b1⟩
  have B1 := Lib.hid b1
  clear b1
  go_wp2_with fail
  refine (mflat_any none [] 0 w1 BR.nil).mono ?_
  rintro e w2 ⟨p, gb, mb, rfl, p1, p2, p3, hm, k2⟩
  have s2 := (Stk.start p1 p2 p3 hm k2).old B1.out
  generalize fillL [] = Z at *
  have S2 := Lib.hid s2
  clear k2 hm p1 p2 p3 s2 B1
  go_wp2_with fail
  go_loopw [37, 6, 7, 8] (fun i _ _ _ wr => ∃ (j : Nat) (M : List UInt8), j ≤ l0.length ∧ i = .int .i64 (j : Int) ∧ Stk w wr p gb mb Z M (l0.take (min j 32)) []) (fun i _ _ _ _ => l0.length - (RowKit.intOf i).toNat)
  case atStart => exact ⟨0, _, by omega, rfl, by simpa using S2.out⟩
  case round =>
    clear S2
    obtain ⟨j, M, hj, rfl, sr⟩ := hrel
    by_cases hlt : j < l0.length
    · obtain ⟨ad, rfl, _, hc⟩ := (BX.out _ sr.b).at_ hlt
      have hin := m0.1 (l0.getD j 0) (by rw [List.getD_eq_getElem?_getD, List.getElem?_eq_getElem hlt]; exact List.getElem_mem _)
      by_cases h32 : j < 32
      · have dd := sr.c.dd
        rw [List.length_take, show min (min j 32) l0.length = j by omega] at dd
        have C := Lib.hid (Push_ok sr.m (l0.getD j 0) (by rw [dd]; exact h32))
        have c2 := sr.c.push (by rw [List.length_take]; omega) (l0.getD j 0) hin.1 hin.2
        have e1 : l0.take (min j 32) ++ [l0.getD j 0] = l0.take (min (j + 1) 32) := by
          rw [show min j 32 = j by omega, show min (j + 1) 32 = j + 1 by omega, List.take_add_one, List.getElem?_eq_getElem hlt, List.getD_eq_getElem?_getD, List.getElem?_eq_getElem hlt]
          rfl
        rw [e1] at c2
        have C2 := Lib.hid c2
        have SR := Lib.hid sr
        clear sr c2 e1 hin dd
        generalize l0.getD j 0 = x at *
        generalize laysL M _ _ [x] = M2 at *
        have x1 : decide ((j : Int) < 32) = true := by simp; omega
        go_wp2_with fail
        refine C.out.mono ?_
        rintro e w9 ⟨rfl, m9, k9⟩
        have S9 := Lib.hid (SR.out.next m9 k9 C2.out)
        clear m9 k9 C hc
        go_wp2_with fail
        go_roundw
        case rel => exact ⟨j + 1, M2, by omega, by go_num, S9.out⟩
        case measure => simp [RowKit.intOf]; omega
      · have dd := sr.c.dd
        rw [List.length_take, show min (min j 32) l0.length = 32 by omega] at dd
        have C := Lib.hid (Push_over sr.m (l0.getD j 0) (fun _ => dd))
        have e1 : min j 32 = min (j + 1) 32 := by omega
        rw [e1] at sr
        have SR := Lib.hid sr
        clear sr e1 hin dd
        generalize l0.getD j 0 = x at *
        have x1 : decide ((j : Int) < 32) = false := by simp; omega
        go_wp2_with fail
        refine C.out.mono ?_
        rintro e w9 ⟨rfl, m9, k9⟩
        have S9 := Lib.hid (SR.out.next m9 k9 SR.out.c)
        clear m9 k9 C hc
        go_wp2_with fail
        go_roundw
        case rel => exact ⟨j + 1, M, by omega, by go_num, S9.out⟩
        case measure => simp [RowKit.intOf]; omega
    · obtain rfl : j = l0.length := by omega
      have S2 := Lib.hid sr
      clear sr hj hlt
      go_wp2_with fail
      go_loopw [61, 9, 10, 11] (fun i _ _ _ wr => ∃ (j : Nat) (M : List UInt8), j ≤ l1.length ∧ i = .int .i64 (j : Int) ∧ Stk w wr p gb mb Z M (l0.take (min l0.length 32)) (l1.take (min j 32))) (fun i _ _ _ _ => l1.length - (RowKit.intOf i).toNat)
      case atStart => exact ⟨0, _, by omega, rfl, by simpa using S2.out⟩
      case round =>
        clear S2
        obtain ⟨j, M, hj, rfl, sr⟩ := hrel
        by_cases hlt : j < l1.length
        · obtain ⟨ad, rfl, _, hc⟩ := (BY.out _ sr.b).at_ hlt
          have hin := m1.1 (l1.getD j 0) (by rw [List.getD_eq_getElem?_getD, List.getElem?_eq_getElem hlt]; exact List.getElem_mem _)
          by_cases h32 : j < 32
          · have dd := sr.c.db
            rw [List.length_take, show min (min j 32) l1.length = j by omega] at dd
            have C := Lib.hid (RPush_ok sr.m (l1.getD j 0) (by rw [dd]; exact h32))
            have c2 := sr.c.rpush (by rw [List.length_take]; omega) (l1.getD j 0) hin.1 hin.2
            have e1 : l1.take (min j 32) ++ [l1.getD j 0] = l1.take (min (j + 1) 32) := by
              rw [show min j 32 = j by omega, show min (j + 1) 32 = j + 1 by omega, List.take_add_one, List.getElem?_eq_getElem hlt, List.getD_eq_getElem?_getD, List.getElem?_eq_getElem hlt]
              rfl
            rw [e1] at c2
            have C2 := Lib.hid c2
            have SR := Lib.hid sr
            clear sr c2 e1 hin dd
            generalize l1.getD j 0 = x at *
            generalize laysL M _ _ [x] = M2 at *
            have x1 : decide ((j : Int) < 32) = true := by simp; omega
            go_wp2_with fail
            refine C.out.mono ?_
            rintro e w9 ⟨rfl, m9, k9⟩
            have S9 := Lib.hid (SR.out.next m9 k9 C2.out)
            clear m9 k9 C hc
            go_wp2_with fail
            go_roundw
            case rel => exact ⟨j + 1, M2, by omega, by go_num, S9.out⟩
            case measure => simp [RowKit.intOf]; omega
          · have dd := sr.c.db
            rw [List.length_take, show min (min j 32) l1.length = 32 by omega] at dd
            have C := Lib.hid (RPush_over sr.m (l1.getD j 0) (fun _ => dd))
            have e1 : min j 32 = min (j + 1) 32 := by omega
            rw [e1] at sr
            have SR := Lib.hid sr
            clear sr e1 hin dd
            generalize l1.getD j 0 = x at *
            have x1 : decide ((j : Int) < 32) = false := by simp; omega
            go_wp2_with fail
            refine C.out.mono ?_
            rintro e w9 ⟨rfl, m9, k9⟩
            have S9 := Lib.hid (SR.out.next m9 k9 SR.out.c)
            clear m9 k9 C hc
            go_wp2_with fail
            go_roundw
            case rel => exact ⟨j + 1, M, by omega, by go_num, S9.out⟩
            case measure => simp [RowKit.intOf]; omega
        · obtain rfl : j = l1.length := by omega
          have S2 := Lib.hid sr
          clear sr hj hlt
          by_cases g0 : l0.length ≤ 32
          ·   have S3 := S2
              rw [Nat.min_eq_left g0] at S3
              clear S2
              go_wp2_with fail
              go_loopw [12, 13, 14] (fun i _ _ wr => ∃ (j : Nat) (z : Int) (M : List UInt8), Hid (z = (j : Int) - 1) ∧ j ≤ l0.length ∧ i = .int .i64 z ∧ Stk w wr p gb mb Z M (l0.take j) (l1.take (min l1.length 32))) (fun i _ _ _ => (RowKit.intOf i + 1).toNat)
              case atStart => exact ⟨l0.length, _, _, Lib.hid (by first | rfl | simp), by omega, rfl, S3.out⟩
              case round =>
                clear S3
                obtain ⟨j, z, M, hz, hj, rfl, sr⟩ := hrel
                have HZ := hz.out
                clear hz
                by_cases hlt : 1 ≤ j
                · obtain ⟨y, rfl⟩ : ∃ y : Nat, j = y + 1 := ⟨j - 1, by omega⟩
                  obtain rfl : z = (y : Int) := by omega
                  clear HZ
                  have yl : y < l0.length := by omega
                  obtain ⟨ad, rfl, _, hc⟩ := (BX.out _ sr.b).at_ yl
                  have e1 : l0.take (y + 1) = l0.take y ++ [l0.getD y 0] := by
                    rw [List.take_add_one, List.getElem?_eq_getElem yl, List.getD_eq_getElem?_getD, List.getElem?_eq_getElem yl]
                    rfl
                  rw [e1] at sr
                  have dd := sr.c.dd
                  obtain ⟨px, pc⟩ := Both2.pop sr.c
                  have C := Pop_ok sr.m (by rw [dd]; simp)
                  rw [px] at C
                  have CH := Lib.hid C
                  have PC := Lib.hid pc
                  have SR := Lib.hid sr
                  clear sr C pc px dd e1
                  generalize l0.getD y 0 = x at *
                  generalize takM M _ _ 1 = M2 at *
                  go_wp2_with fail
                  refine CH.out.mono ?_
                  rintro e w9 ⟨rfl, m9, k9⟩
                  have s9 := SR.out.next m9 k9 PC.out
                  have hc9 : w9.cell? (ad.add y) = some (.int .i64 x) := by
                    obtain ⟨ad2, e2, hl2', hc2⟩ := BX.out _ SR.out.b (by intro e; rw [e] at yl; simp at yl)
                    cases e2
                    rw [World.cell?_of_block (w := wr) (by rw [block_add]; exact k9.block _ (Nat.lt_of_lt_of_le hl2' SR.out.b.size) (fun f => by have n3 := SR.out.n; rcases f.2 with f | f <;> omega))]
                    exact hc
                  have S9 := Lib.hid s9
                  clear m9 k9 s9 CH hc PC SR
                  go_wp2_with fail
                  go_roundw
                  case rel => exact ⟨y, (y : Int) - 1, M2, Lib.hid rfl, by omega, rfl, S9.out⟩
                  case measure => simp [RowKit.intOf]
                · obtain rfl : j = 0 := by omega
                  obtain rfl : z = -1 := by omega
                  have S3 := Lib.hid sr
                  clear sr hj hlt HZ
                  simp only [List.take_zero] at S3
                  by_cases g1 : l1.length ≤ 32
                  ·   rw [Nat.min_eq_left g1] at S3
                      go_wp2_with fail
                      go_loopw [15, 16, 17] (fun i _ _ wr => ∃ (j : Nat) (z : Int) (M : List UInt8), Hid (z = (j : Int) - 1) ∧ j ≤ l1.length ∧ i = .int .i64 z ∧ Stk w wr p gb mb Z M [] (l1.take j)) (fun i _ _ _ => (RowKit.intOf i + 1).toNat)
                      case atStart => exact ⟨l1.length, _, _, Lib.hid (by first | rfl | simp), by omega, rfl, S3.out⟩
                      case round =>
                        clear S3
                        obtain ⟨j, z, M, hz, hj, rfl, sr⟩ := hrel
                        have HZ := hz.out
                        clear hz
                        by_cases hlt : 1 ≤ j
                        · obtain ⟨y, rfl⟩ : ∃ y : Nat, j = y + 1 := ⟨j - 1, by omega⟩
                          obtain rfl : z = (y : Int) := by omega
                          clear HZ
                          have yl : y < l1.length := by omega
                          obtain ⟨ad, rfl, _, hc⟩ := (BY.out _ sr.b).at_ yl
                          have e1 : l1.take (y + 1) = l1.take y ++ [l1.getD y 0] := by
                            rw [List.take_add_one, List.getElem?_eq_getElem yl, List.getD_eq_getElem?_getD, List.getElem?_eq_getElem yl]
                            rfl
                          rw [e1] at sr
                          have dd := sr.c.db
                          obtain ⟨px, pc⟩ := Both2.rpop sr.c
                          have C := RPop_ok sr.m (by rw [dd]; simp)
                          rw [px] at C
                          have CH := Lib.hid C
                          have PC := Lib.hid pc
                          have SR := Lib.hid sr
                          clear sr C pc px dd e1
                          generalize l1.getD y 0 = x at *
                          generalize takM M _ _ 1 = M2 at *
                          go_wp2_with fail
                          refine CH.out.mono ?_
                          rintro e w9 ⟨rfl, m9, k9⟩
                          have s9 := SR.out.next m9 k9 PC.out
                          have hc9 : w9.cell? (ad.add y) = some (.int .i64 x) := by
                            obtain ⟨ad2, e2, hl2', hc2⟩ := BY.out _ SR.out.b (by intro e; rw [e] at yl; simp at yl)
                            cases e2
                            rw [World.cell?_of_block (w := wr) (by rw [block_add]; exact k9.block _ (Nat.lt_of_lt_of_le hl2' SR.out.b.size) (fun f => by have n3 := SR.out.n; rcases f.2 with f | f <;> omega))]
                            exact hc
                          have S9 := Lib.hid s9
                          clear m9 k9 s9 CH hc PC SR
                          go_wp2_with fail
                          go_roundw
                          case rel => exact ⟨y, (y : Int) - 1, M2, Lib.hid rfl, by omega, rfl, S9.out⟩
                          case measure => simp [RowKit.intOf]
                        · obtain rfl : j = 0 := by omega
                          obtain rfl : z = -1 := by omega
                          have S3 := Lib.hid sr
                          clear sr hj hlt HZ
                          simp only [List.take_zero] at S3
                          go_wp2_with fail
                          refine (Pop_under S3.out.m S3.out.c.dd).mono ?_
                          rintro e w7 ⟨rfl, m7, k7⟩
                          have S7 := Lib.hid (S3.out.next m7 k7 S3.out.c)
                          clear m7 k7 S3
                          go_wp2_with fail
                          refine (RPop_under S7.out.m S7.out.c.db).mono ?_
                          rintro e w8 ⟨rfl, m7, k7⟩
                          have S8 := Lib.hid (S7.out.next m7 k7 S7.out.c).b
                          clear m7 k7 S7
                          go_wp2_with fail
                          go_ret
                          exact ⟨rfl, S8.out⟩
                  ·   rw [show min l1.length 32 = 32 by omega] at S3
                      go_wp2_with fail
                      go_loopw [15, 16, 17] (fun i _ _ wr => ∃ (j : Nat) (z : Int) (M : List UInt8), Hid (z = (j : Int) - 1) ∧ j ≤ 32 ∧ i = .int .i64 z ∧ Stk w wr p gb mb Z M [] (l1.take j)) (fun i _ _ _ => (RowKit.intOf i + 1).toNat)
                      case atStart => exact ⟨32, _, _, Lib.hid (by first | rfl | simp), by omega, rfl, S3.out⟩
                      case round =>
                        clear S3
                        obtain ⟨j, z, M, hz, hj, rfl, sr⟩ := hrel
                        have HZ := hz.out
                        clear hz
                        by_cases hlt : 1 ≤ j
                        · obtain ⟨y, rfl⟩ : ∃ y : Nat, j = y + 1 := ⟨j - 1, by omega⟩
                          obtain rfl : z = (y : Int) := by omega
                          clear HZ
                          have yl : y < l1.length := by omega
                          obtain ⟨ad, rfl, _, hc⟩ := (BY.out _ sr.b).at_ yl
                          have e1 : l1.take (y + 1) = l1.take y ++ [l1.getD y 0] := by
                            rw [List.take_add_one, List.getElem?_eq_getElem yl, List.getD_eq_getElem?_getD, List.getElem?_eq_getElem yl]
                            rfl
                          rw [e1] at sr
                          have dd := sr.c.db
                          obtain ⟨px, pc⟩ := Both2.rpop sr.c
                          have C := RPop_ok sr.m (by rw [dd]; simp)
                          rw [px] at C
                          have CH := Lib.hid C
                          have PC := Lib.hid pc
                          have SR := Lib.hid sr
                          clear sr C pc px dd e1
                          generalize l1.getD y 0 = x at *
                          generalize takM M _ _ 1 = M2 at *
                          go_wp2_with fail
                          refine CH.out.mono ?_
                          rintro e w9 ⟨rfl, m9, k9⟩
                          have s9 := SR.out.next m9 k9 PC.out
                          have hc9 : w9.cell? (ad.add y) = some (.int .i64 x) := by
                            obtain ⟨ad2, e2, hl2', hc2⟩ := BY.out _ SR.out.b (by intro e; rw [e] at yl; simp at yl)
                            cases e2
                            rw [World.cell?_of_block (w := wr) (by rw [block_add]; exact k9.block _ (Nat.lt_of_lt_of_le hl2' SR.out.b.size) (fun f => by have n3 := SR.out.n; rcases f.2 with f | f <;> omega))]
                            exact hc
                          have S9 := Lib.hid s9
                          clear m9 k9 s9 CH hc PC SR
                          go_wp2_with fail
                          go_roundw
                          case rel => exact ⟨y, (y : Int) - 1, M2, Lib.hid rfl, by omega, rfl, S9.out⟩
                          case measure => simp [RowKit.intOf]
                        · obtain rfl : j = 0 := by omega
                          obtain rfl : z = -1 := by omega
                          have S3 := Lib.hid sr
                          clear sr hj hlt HZ
                          simp only [List.take_zero] at S3
                          go_wp2_with fail
                          refine (Pop_under S3.out.m S3.out.c.dd).mono ?_
                          rintro e w7 ⟨rfl, m7, k7⟩
                          have S7 := Lib.hid (S3.out.next m7 k7 S3.out.c)
                          clear m7 k7 S3
                          go_wp2_with fail
                          refine (RPop_under S7.out.m S7.out.c.db).mono ?_
                          rintro e w8 ⟨rfl, m7, k7⟩
                          have S8 := Lib.hid (S7.out.next m7 k7 S7.out.c).b
                          clear m7 k7 S7
                          go_wp2_with fail
                          go_ret
                          exact ⟨rfl, S8.out⟩
          ·   have S3 := S2
              rw [show min l0.length 32 = 32 by omega] at S3
              clear S2
              go_wp2_with fail
              go_loopw [12, 13, 14] (fun i _ _ wr => ∃ (j : Nat) (z : Int) (M : List UInt8), Hid (z = (j : Int) - 1) ∧ j ≤ 32 ∧ i = .int .i64 z ∧ Stk w wr p gb mb Z M (l0.take j) (l1.take (min l1.length 32))) (fun i _ _ _ => (RowKit.intOf i + 1).toNat)
              case atStart => exact ⟨32, _, _, Lib.hid (by first | rfl | simp), by omega, rfl, S3.out⟩
              case round =>
                clear S3
                obtain ⟨j, z, M, hz, hj, rfl, sr⟩ := hrel
                have HZ := hz.out
                clear hz
                by_cases hlt : 1 ≤ j
                · obtain ⟨y, rfl⟩ : ∃ y : Nat, j = y + 1 := ⟨j - 1, by omega⟩
                  obtain rfl : z = (y : Int) := by omega
                  clear HZ
                  have yl : y < l0.length := by omega
                  obtain ⟨ad, rfl, _, hc⟩ := (BX.out _ sr.b).at_ yl
                  have e1 : l0.take (y + 1) = l0.take y ++ [l0.getD y 0] := by
                    rw [List.take_add_one, List.getElem?_eq_getElem yl, List.getD_eq_getElem?_getD, List.getElem?_eq_getElem yl]
                    rfl
                  rw [e1] at sr
                  have dd := sr.c.dd
                  obtain ⟨px, pc⟩ := Both2.pop sr.c
                  have C := Pop_ok sr.m (by rw [dd]; simp)
                  rw [px] at C
                  have CH := Lib.hid C
                  have PC := Lib.hid pc
                  have SR := Lib.hid sr
                  clear sr C pc px dd e1
                  generalize l0.getD y 0 = x at *
                  generalize takM M _ _ 1 = M2 at *
                  go_wp2_with fail
                  refine CH.out.mono ?_
                  rintro e w9 ⟨rfl, m9, k9⟩
                  have s9 := SR.out.next m9 k9 PC.out
                  have hc9 : w9.cell? (ad.add y) = some (.int .i64 x) := by
                    obtain ⟨ad2, e2, hl2', hc2⟩ := BX.out _ SR.out.b (by intro e; rw [e] at yl; simp at yl)
                    cases e2
                    rw [World.cell?_of_block (w := wr) (by rw [block_add]; exact k9.block _ (Nat.lt_of_lt_of_le hl2' SR.out.b.size) (fun f => by have n3 := SR.out.n; rcases f.2 with f | f <;> omega))]
                    exact hc
                  have S9 := Lib.hid s9
                  clear m9 k9 s9 CH hc PC SR
                  go_wp2_with fail
                  go_roundw
                  case rel => exact ⟨y, (y : Int) - 1, M2, Lib.hid rfl, by omega, rfl, S9.out⟩
                  case measure => simp [RowKit.intOf]
                · obtain rfl : j = 0 := by omega
                  obtain rfl : z = -1 := by omega
                  have S3 := Lib.hid sr
                  clear sr hj hlt HZ
                  simp only [List.take_zero] at S3
                  by_cases g1 : l1.length ≤ 32
                  ·   rw [Nat.min_eq_left g1] at S3
                      go_wp2_with fail
                      go_loopw [15, 16, 17] (fun i _ _ wr => ∃ (j : Nat) (z : Int) (M : List UInt8), Hid (z = (j : Int) - 1) ∧ j ≤ l1.length ∧ i = .int .i64 z ∧ Stk w wr p gb mb Z M [] (l1.take j)) (fun i _ _ _ => (RowKit.intOf i + 1).toNat)
                      case atStart => exact ⟨l1.length, _, _, Lib.hid (by first | rfl | simp), by omega, rfl, S3.out⟩
                      case round =>
                        clear S3
                        obtain ⟨j, z, M, hz, hj, rfl, sr⟩ := hrel
                        have HZ := hz.out
                        clear hz
                        by_cases hlt : 1 ≤ j
                        · obtain ⟨y, rfl⟩ : ∃ y : Nat, j = y + 1 := ⟨j - 1, by omega⟩
                          obtain rfl : z = (y : Int) := by omega
                          clear HZ
                          have yl : y < l1.length := by omega
                          obtain ⟨ad, rfl, _, hc⟩ := (BY.out _ sr.b).at_ yl
                          have e1 : l1.take (y + 1) = l1.take y ++ [l1.getD y 0] := by
                            rw [List.take_add_one, List.getElem?_eq_getElem yl, List.getD_eq_getElem?_getD, List.getElem?_eq_getElem yl]
                            rfl
                          rw [e1] at sr
                          have dd := sr.c.db
                          obtain ⟨px, pc⟩ := Both2.rpop sr.c
                          have C := RPop_ok sr.m (by rw [dd]; simp)
                          rw [px] at C
                          have CH := Lib.hid C
                          have PC := Lib.hid pc
                          have SR := Lib.hid sr
                          clear sr C pc px dd e1
                          generalize l1.getD y 0 = x at *
                          generalize takM M _ _ 1 = M2 at *
                          go_wp2_with fail
                          refine CH.out.mono ?_
                          rintro e w9 ⟨rfl, m9, k9⟩
                          have s9 := SR.out.next m9 k9 PC.out
                          have hc9 : w9.cell? (ad.add y) = some (.int .i64 x) := by
                            obtain ⟨ad2, e2, hl2', hc2⟩ := BY.out _ SR.out.b (by intro e; rw [e] at yl; simp at yl)
                            cases e2
                            rw [World.cell?_of_block (w := wr) (by rw [block_add]; exact k9.block _ (Nat.lt_of_lt_of_le hl2' SR.out.b.size) (fun f => by have n3 := SR.out.n; rcases f.2 with f | f <;> omega))]
                            exact hc
                          have S9 := Lib.hid s9
                          clear m9 k9 s9 CH hc PC SR
                          go_wp2_with fail
                          go_roundw
                          case rel => exact ⟨y, (y : Int) - 1, M2, Lib.hid rfl, by omega, rfl, S9.out⟩
                          case measure => simp [RowKit.intOf]
                        · obtain rfl : j = 0 := by omega
                          obtain rfl : z = -1 := by omega
                          have S3 := Lib.hid sr
                          clear sr hj hlt HZ
                          simp only [List.take_zero] at S3
                          go_wp2_with fail
                          refine (Pop_under S3.out.m S3.out.c.dd).mono ?_
                          rintro e w7 ⟨rfl, m7, k7⟩
                          have S7 := Lib.hid (S3.out.next m7 k7 S3.out.c)
                          clear m7 k7 S3
                          go_wp2_with fail
                          refine (RPop_under S7.out.m S7.out.c.db).mono ?_
                          rintro e w8 ⟨rfl, m7, k7⟩
                          have S8 := Lib.hid (S7.out.next m7 k7 S7.out.c).b
                          clear m7 k7 S7
                          go_wp2_with fail
                          go_ret
                          exact ⟨rfl, S8.out⟩
                  ·   rw [show min l1.length 32 = 32 by omega] at S3
                      go_wp2_with fail
                      go_loopw [15, 16, 17] (fun i _ _ wr => ∃ (j : Nat) (z : Int) (M : List UInt8), Hid (z = (j : Int) - 1) ∧ j ≤ 32 ∧ i = .int .i64 z ∧ Stk w wr p gb mb Z M [] (l1.take j)) (fun i _ _ _ => (RowKit.intOf i + 1).toNat)
                      case atStart => exact ⟨32, _, _, Lib.hid (by first | rfl | simp), by omega, rfl, S3.out⟩
                      case round =>
                        clear S3
                        obtain ⟨j, z, M, hz, hj, rfl, sr⟩ := hrel
                        have HZ := hz.out
                        clear hz
                        by_cases hlt : 1 ≤ j
                        · obtain ⟨y, rfl⟩ : ∃ y : Nat, j = y + 1 := ⟨j - 1, by omega⟩
                          obtain rfl : z = (y : Int) := by omega
                          clear HZ
                          have yl : y < l1.length := by omega
                          obtain ⟨ad, rfl, _, hc⟩ := (BY.out _ sr.b).at_ yl
                          have e1 : l1.take (y + 1) = l1.take y ++ [l1.getD y 0] := by
                            rw [List.take_add_one, List.getElem?_eq_getElem yl, List.getD_eq_getElem?_getD, List.getElem?_eq_getElem yl]
                            rfl
                          rw [e1] at sr
                          have dd := sr.c.db
                          obtain ⟨px, pc⟩ := Both2.rpop sr.c
                          have C := RPop_ok sr.m (by rw [dd]; simp)
                          rw [px] at C
                          have CH := Lib.hid C
                          have PC := Lib.hid pc
                          have SR := Lib.hid sr
                          clear sr C pc px dd e1
                          generalize l1.getD y 0 = x at *
                          generalize takM M _ _ 1 = M2 at *
                          go_wp2_with fail
                          refine CH.out.mono ?_
                          rintro e w9 ⟨rfl, m9, k9⟩
                          have s9 := SR.out.next m9 k9 PC.out
                          have hc9 : w9.cell? (ad.add y) = some (.int .i64 x) := by
                            obtain ⟨ad2, e2, hl2', hc2⟩ := BY.out _ SR.out.b (by intro e; rw [e] at yl; simp at yl)
                            cases e2
                            rw [World.cell?_of_block (w := wr) (by rw [block_add]; exact k9.block _ (Nat.lt_of_lt_of_le hl2' SR.out.b.size) (fun f => by have n3 := SR.out.n; rcases f.2 with f | f <;> omega))]
                            exact hc
                          have S9 := Lib.hid s9
                          clear m9 k9 s9 CH hc PC SR
                          go_wp2_with fail
                          go_roundw
                          case rel => exact ⟨y, (y : Int) - 1, M2, Lib.hid rfl, by omega, rfl, S9.out⟩
                          case measure => simp [RowKit.intOf]
                        · obtain rfl : j = 0 := by omega
                          obtain rfl : z = -1 := by omega
                          have S3 := Lib.hid sr
                          clear sr hj hlt HZ
                          simp only [List.take_zero] at S3
                          go_wp2_with fail
                          refine (Pop_under S3.out.m S3.out.c.dd).mono ?_
                          rintro e w7 ⟨rfl, m7, k7⟩
                          have S7 := Lib.hid (S3.out.next m7 k7 S3.out.c)
                          clear m7 k7 S3
                          go_wp2_with fail
                          refine (RPop_under S7.out.m S7.out.c.db).mono ?_
                          rintro e w8 ⟨rfl, m7, k7⟩
                          have S8 := Lib.hid (S7.out.next m7 k7 S7.out.c).b
                          clear m7 k7 S7
                          go_wp2_with fail
                          go_ret
                          exact ⟨rfl, S8.out⟩

set_option maxRecDepth 100000 in
theorem lifted (os : Os) (started : os.Started) (H : Type) (enc : TypeId × Value → H) :
    ReturnsInHanded {} Try.checked os 4 .any (Rows.stackOrderSpec.pre6 enc Try.prog Try.f4 Rows.stackOrderRow.domain false) (Rows.stackOrderSpec.post enc Try.prog Try.f4 false true false false) := by
  refine returnsInHanded_of_change_sized (C := Try.checked) own started (by kernel_rfl) Try.func4
    (ChangeSpec.witness6 (enc := enc) (C := Try.checked) false ⟨#[], #[.slice none 0 0, .slice none 0 0], []⟩ 8 (by kernel_rfl) (by kernel_rfl) (by kernel_rfl) (by kernel_rfl)) ?_
  intro W base args ds gs before hval0 hW _ hsz0 _
  have hsz : (DataW.weightsEach Try.prog (Try.f4.params.toList ++ Rows.stackOrderSpec.plain.varTypes Try.prog) (ds ++ gs)).all (· ≤ reachBytes) = true := hsz0
  clear hsz0
  have hval : ∀ (j : Nat) t v, Try.f4.params[j]? = some t → args[j]? = some v → Value.okWide Try.prog W .any base t v := hval0
  have hW' := hW
  obtain ⟨p, q, hA0, hV, rfl, _, _⟩ := hW
  have hA : DataW.TrodAll enc Try.prog W 0 (fun _ => true) true Try.f4.params.toList args.toList ds p := hA0
  rw [Try.params4] at hA hval hsz
  obtain ⟨v0, vs0, d0, ds0, p0, q0, hargs, rfl, rfl, h0, r0⟩ := trodAll_cons hA
  obtain ⟨v1, vs1, d1, ds1, p1, q1, rfl, rfl, rfl, h1, r1⟩ := trodAll_cons r0
  obtain ⟨rfl, rfl, rfl⟩ := trodAll_nil r1
  obtain rfl : args = #[v0, v1] := by cases args; simp_all
  obtain ⟨rfl, rfl⟩ := trodVars_none hV
  obtain ⟨A0, len0, c0, rfl⟩ := okWide_slice Try.underlying25 (hval 0 25 v0 rfl rfl)
  have k0 := h0
  have lt0 : ∀ x ∈ p0, x.block < W.heap.size := by obtain ⟨m, hm⟩ := k0; exact DataW.trod_lt m _ _ _ hm
  obtain ⟨l0, rfl, o0, r0, s0⟩ := nums_in h0
  have m0 := And.intro r0 (s0 _ _ 0 hsz rfl rfl)
  obtain ⟨A1, len1, c1, rfl⟩ := okWide_slice Try.underlying25 (hval 1 25 v1 rfl rfl)
  have k1 := h1
  have lt1 : ∀ x ∈ p1, x.block < W.heap.size := by obtain ⟨m, hm⟩ := k1; exact DataW.trod_lt m _ _ _ hm
  obtain ⟨l1, rfl, o1, r1, s1⟩ := nums_in h1
  have m1 := And.intro r1 (s1 _ _ 1 hsz rfl rfl)
  clear hA0 hval0
  refine (walk A0 l0 c0 A1 l1 c1 W o0 m0 o1 m1).mono fun e W' ⟨he, bel⟩ => ?_
  subst he
  exact ⟨_, rfl, _, _, _, [], _, [], hW', trodAll_mk1 (shut_bool Try.underlying4 _), (trodAll_cons_mk (Below.trod laidOut (by kernel_rfl) (of_decide_eq_true (by kernel_rfl)) k0 bel lt0) (trodAll_cons_mk (Below.trod laidOut (by kernel_rfl) (of_decide_eq_true (by kernel_rfl)) k1 bel lt1) trodAll_mk0)), rfl, bel.frame _, fun h => by cases h⟩

theorem proved : Rows.StackOrderSaid :=
  OpenClaim.holds_of_wide 4 Try.f4 rfl rfl rfl rfl rfl rfl rfl ⟨rfl, rfl, rfl, rfl, rfl⟩ rfl rfl rfl rfl rfl (by kernel_rfl) Try.func4 (by kernel_rfl)
    (of_decide_eq_true (by kernel_rfl)) (by unfold Func.isWrapper; first | (rw [if_pos (by decide +kernel)]; kernel_rfl) | (rw [if_neg (by decide +kernel)]; exact ⟨rfl, rfl⟩))
    (fun os started H enc _ => lifted os started H enc)
#print axioms proved
end Go.Proofs.Ytmaoaeebggpbbaa.stackOrder
