/-
  Merged by wip/tools/merge.py: Put RefPut Num PutGet Str
-/
import Derived.Test.YthmlhjjcihibnaaGB
import Derived.Test.YthmlhjjcihibnaaGA
import Derived.Laws.BitsAllLaws
import Derived.Laws.CopyOwn
import Derived.RegionTactic
import Derived.ChangeAlike
import Derived.Laws.BytesArg
namespace Go.Proofs.Ythmlhjjcihibnaa
open Go.RowKit

/-- One byte laid at a place; outside it is lost. -/
def setAt (zs : List UInt8) (k : Int) (u : UInt8) : List UInt8 := if k < 0 then zs else zs.set k.toNat u
/-- The k-th byte of a number. -/
def byteN (n k : Nat) : UInt8 := UInt8.ofNat (n / 2 ^ (8 * k))
/-- The lowest k bytes of n laid from a on. -/
def putL (xs : List UInt8) (a : Int) (n : Nat) : Nat → List UInt8
  | 0 => xs
  | k + 1 => setAt (putL xs a n k) (a + k) (byteN n k)
theorem setAt_len (zs : List UInt8) (k : Int) (u : UInt8) : (setAt zs k u).length = zs.length := by unfold setAt; split <;> simp
theorem putL_len (xs : List UInt8) (a : Int) (n k : Nat) : (putL xs a n k).length = xs.length := by
  induction k with
  | zero => rfl
  | succ k ih => rw [putL, setAt_len, ih]
theorem setAt_out (zs : List UInt8) (k : Int) (u : UInt8) (h : k < 0 ∨ zs.length ≤ k) : setAt zs k u = zs := by
  unfold setAt
  split
  · rfl
  · exact List.set_eq_of_length_le (by omega)
theorem setAt_in (zs : List UInt8) (k : Int) (u : UInt8) (h : 0 ≤ k) : setAt zs k u = zs.set k.toNat u := by
  unfold setAt; rw [if_neg (by omega)]

theorem byteN_val (n i : Nat) : (n : Int) / 2 ^ (8 * i) % 256 = ((byteN n i).toNat : Int) := by
  have e : (byteN n i).toNat = n / 2 ^ (8 * i) % 256 := by simp [byteN]
  rw [e]; simp
theorem only_store (w : World) (g k : Nat) (u : Value) : w.grownBy (w.setCell ⟨g, k, none⟩ u).drew (some g) :=
  ⟨rfl, rfl, rfl, by simp, fun i _ hne => Below.heap_setCell w ⟨g, k, none⟩ u i (fun e => hne (by rw [e]))⟩

theorem splice_all (zs xs : List UInt8) (h : zs.length = xs.length) : splice zs 0 xs = xs := by simp [splice, ← h]
theorem blk_at_last (w : World) (o : Obj) (k : Nat) (h : k = w.heap.size) : (w.alloc o).heap[k]? = some o := by subst h; exact heap_alloc_new w o
theorem Try.size8 : (Try.prog.info? 5).map (·.size) = some 1 := by kernel_rfl

set_option maxRecDepth 100000 in
set_option maxHeartbeats 400000 in
theorem putOne_in (i : Nat) (a : Int) (n : Nat) (go ga gn g : Nat) (zs : List UInt8) (w : World) (hi : i < 8) (ha : -9223372036854775808 ≤ a) (hl : zs.length ≤ 1000000)
    (h1 : w.cell? ⟨go, 0, none⟩ = some (.slice (some ⟨g, 0, none⟩) zs.length zs.length)) (h2 : w.cell? ⟨ga, 0, none⟩ = some (.int .i64 a)) (h3 : w.cell? ⟨gn, 0, none⟩ = some (.int .u64 n)) (hr : Row8 w g 5 zs)
    (h0 : 0 ≤ a + i) (hlt : a + i < zs.length) :
    Calls Try.prog 52 #[.int .i64 i, .pointer (some ⟨go, 0, none⟩), .pointer (some ⟨ga, 0, none⟩), .pointer (some ⟨gn, 0, none⟩)] w fun e w' =>
      e = .returned (.tuple #[]) ∧ Row8 w' g 5 (setAt zs (a + i) (byteN n i)) ∧ w.grownBy w' (some g) := by
  have hb : (decide (0 ≤ a + i) && decide (a + i < (zs.length : Int))) = true := by simp [h0, hlt]
  have hc := hr.cell_ (k := (a + i).toNat) (by omega)
  have hf := hr.free (a + i).toNat
  generalize zs.getD (a + i).toNat 0 = u0 at hc
  go_enter Try.func52, Try.ntmps52
  go_wp2_with (go_at_call 53; refine (inside_any _ _ _ _ (by omega) (by omega) ha (by omega) (by omega)).mono ?_; rintro e w' ⟨rfl, rfl⟩)
  go_region
  go_end0
  rw [byteN_val]
  exact ⟨rfl, by rw [setAt_in _ _ _ h0]; exact (hr.set_ _ _).drew, only_store w g _ _⟩

set_option maxRecDepth 100000 in
set_option maxHeartbeats 400000 in
theorem putOne_out (i : Nat) (a : Int) (go ga : Nat) (gn : Option Addr) (g : Option Addr) (c : Nat) (zs : List UInt8) (w : World) (hi : i < 8) (ha : -9223372036854775808 ≤ a) (hl : zs.length ≤ 1000000)
    (h1 : w.cell? ⟨go, 0, none⟩ = some (.slice g zs.length c)) (h2 : w.cell? ⟨ga, 0, none⟩ = some (.int .i64 a))
    (hout : a + i < 0 ∨ zs.length ≤ a + i) :
    Calls Try.prog 52 #[.int .i64 i, .pointer (some ⟨go, 0, none⟩), .pointer (some ⟨ga, 0, none⟩), .pointer gn] w fun e w' => e = .returned (.tuple #[]) ∧ w = w' := by
  have hb : (decide (0 ≤ a + i) && decide (a + i < (zs.length : Int))) = false := by
    rw [Bool.eq_false_iff]; simp; omega
  clear hout
  go_enter Try.func52, Try.ntmps52
  go_wp2_with (go_at_call 53; refine (inside_any _ _ _ _ (by omega) (by omega) ha (by omega) (by omega)).mono ?_; rintro e w' ⟨rfl, rfl⟩)
  go_end0
  exact ⟨rfl, rfl⟩

theorem putOne_any (i : Nat) (a : Int) (n : Nat) (go ga gn g : Nat) (zs : List UInt8) (w : World) (hi : i < 8) (ha : -9223372036854775808 ≤ a) (hl : zs.length ≤ 1000000)
    (h1 : w.cell? ⟨go, 0, none⟩ = some (.slice (some ⟨g, 0, none⟩) zs.length zs.length)) (h2 : w.cell? ⟨ga, 0, none⟩ = some (.int .i64 a)) (h3 : w.cell? ⟨gn, 0, none⟩ = some (.int .u64 n)) (hr : Row8 w g 5 zs) :
    Calls Try.prog 52 #[.int .i64 i, .pointer (some ⟨go, 0, none⟩), .pointer (some ⟨ga, 0, none⟩), .pointer (some ⟨gn, 0, none⟩)] w fun e w' =>
      e = .returned (.tuple #[]) ∧ Row8 w' g 5 (setAt zs (a + i) (byteN n i)) ∧ w.grownBy w' (some g) := by
  by_cases h : 0 ≤ a + i ∧ a + i < zs.length
  · exact putOne_in i a n go ga gn g zs w hi ha hl h1 h2 h3 hr h.1 h.2
  · refine (putOne_out i a go ga _ _ _ zs w hi ha hl h1 h2 (by omega)).mono ?_
    rintro e w' ⟨rfl, rfl⟩
    exact ⟨rfl, by rw [setAt_out _ _ _ (by omega)]; exact hr, World.grownBy.refl w _⟩

/-- What the loop of PutNum keeps: the row, the three variables, all that was there. -/
def PutInv (w wr : World) (xs : List UInt8) (a : Int) (n : Nat) (zs : List UInt8) : Prop :=
  Row8 wr (w.heap.size + 1 + 1) 5 zs ∧ wr.cell? ⟨w.heap.size + 1 + 1 + 1, 0, none⟩ = some (.slice (some ⟨w.heap.size + 1 + 1, 0, none⟩) xs.length xs.length) ∧
  wr.cell? ⟨w.heap.size, 0, none⟩ = some (.int .i64 a) ∧ wr.cell? ⟨w.heap.size + 1, 0, none⟩ = some (.int .u64 n) ∧ Below w.heap.size w wr ∧ w.heap.size + 1 + 1 + 1 < wr.heap.size
theorem PutInv.step {w wr w2 : World} {xs : List UInt8} {a : Int} {n : Nat} {zs zs' : List UInt8} (h : PutInv w wr xs a n zs) (hr : Row8 w2 (w.heap.size + 1 + 1) 5 zs') (hon : wr.grownBy w2 (some (w.heap.size + 1 + 1))) : PutInv w w2 xs a n zs' := by
  obtain ⟨_, g1, g3, g4, hb, hs⟩ := h
  have c : ∀ k, k < wr.heap.size → k ≠ w.heap.size + 1 + 1 → w2.cell? ⟨k, 0, none⟩ = wr.cell? ⟨k, 0, none⟩ := fun k hk hne => World.cell?_of_block (hon.block k hk (by simpa using hne))
  exact ⟨hr, (c _ hs (by omega)).trans g1, (c _ (by omega) (by omega)).trans g3, (c _ (by omega) (by omega)).trans g4,
    hb.trans ⟨hon.os, hon.tape, hon.output, hon.size, fun k hk => hon.block k (by omega) (by simp; omega)⟩, Nat.lt_of_lt_of_le hs hon.size⟩

set_option maxRecDepth 100000 in
set_option maxHeartbeats 400000 in
theorem lePutNum_row (A : Option Addr) (xs : List UInt8) (c : Nat) (a s : Int) (n : Nat) (w : World) (hx : BR w w.heap.size A xs) (hl : xs.length ≤ 1000000) (ha : -9223372036854775808 ≤ a) :
    Calls Try.prog 47 #[.slice A xs.length c, .int .i64 a, .int .i64 s, .int .u64 n] w (fun e w' => ∃ g, e = .returned (.slice (some ⟨g, 0, none⟩) xs.length xs.length) ∧ w.heap.size ≤ g ∧ Row8 w' g 5 (putL xs a n (clamp s 8).toNat) ∧ Below w.heap.size w w') := by
  have hr := clamp_range s 8 (by omega)
  generalize hm : clamp s 8 = m at *
  have HM := Lib.hid hm
  clear hm
  obtain ⟨m, rfl⟩ := Int.eq_ofNat_of_zero_le hr.1
  rw [Int.toNat_natCast]
  have hmk := make8 xs.length hl
  obtain ⟨W0, hW0⟩ : ∃ W0 : World, W0 = (((w.alloc (.cells #[.int .i64 a] 3)).alloc (.cells #[.int .u64 n] 77)).alloc (.cells (madeCells #[.int .u8 0] xs.length) 5)).alloc (.cells #[.slice (some ⟨w.heap.size + 1 + 1, 0, none⟩) xs.length xs.length] 22) := ⟨_, rfl⟩
  have f1 : W0.heap[w.heap.size + 1 + 1 + 1]? = some (.cells #[.slice (some ⟨w.heap.size + 1 + 1, 0, none⟩) xs.length xs.length] 22) := by
    subst hW0; exact blk_at_last _ _ _ (by simp)
  have f2 : Row8 W0 (w.heap.size + 1 + 1) 5 (List.replicate xs.length 0) := by
    subst hW0
    have h := Row8.made ((w.alloc (.cells #[.int .i64 a] 3)).alloc (.cells #[.int .u64 n] 77)) xs.length 5
    simp only [World.size_alloc] at h
    exact h.alloc _
  have f3 : W0.heap[w.heap.size]? = some (.cells #[.int .i64 a] 3) := by
    subst hW0
    rw [Below.heap_alloc _ _ _ (by simp; omega), Below.heap_alloc _ _ _ (by simp; omega), Below.heap_alloc _ _ _ (by simp)]
    exact heap_alloc_new _ _
  have f4 : W0.heap[w.heap.size + 1]? = some (.cells #[.int .u64 n] 77) := by
    subst hW0
    rw [Below.heap_alloc _ _ _ (by simp), Below.heap_alloc _ _ _ (by simp)]
    exact blk_at_last _ _ _ (by simp)
  have f5 : Below w.heap.size w W0 := by
    subst hW0
    exact ((((Below.refl _ _).alloc (Nat.le_refl _) _).alloc (by simp) _).alloc (by simp; omega) _).alloc (by simp; omega) _
  obtain ⟨w1, hcp, hrow, hon⟩ := run_copy8 (P := Try.prog) W0 22 22 3 5 5 Try.underlying22 Try.size8 (w.heap.size + 1 + 1) 0 xs.length xs.length (some ⟨w.heap.size + 1 + 1, 0, none⟩) (List.replicate xs.length 0) xs A c _ (fun _ => rfl) f2 (hx.below f5) (Nat.le_refl _) (by simp)
  rw [splice_all _ _ (by simp)] at hrow
  have hsz : w.heap.size + 1 + 1 + 1 < W0.heap.size := by subst hW0; simp
  have g1 : w1.cell? ⟨w.heap.size + 1 + 1 + 1, 0, none⟩ = some (.slice (some ⟨w.heap.size + 1 + 1, 0, none⟩) xs.length xs.length) := by
    rw [cell_of_row w1 _ _ _ _ _ ((hon.block _ hsz (by simp)).trans f1)]; rfl
  have g3 : w1.cell? ⟨w.heap.size, 0, none⟩ = some (.int .i64 a) := by
    rw [cell_of_row w1 _ _ _ _ _ ((hon.block _ (by omega) (by simp; omega)).trans f3)]; rfl
  have g4 : w1.cell? ⟨w.heap.size + 1, 0, none⟩ = some (.int .u64 n) := by
    rw [cell_of_row w1 _ _ _ _ _ ((hon.block _ (by omega) (by simp)).trans f4)]; rfl
  have hb1 : Below w.heap.size w w1 := f5.trans ⟨hon.os, hon.tape, hon.output, hon.size, fun k hk => hon.block k (by omega) (by simp; omega)⟩
  have hs1 : w.heap.size + 1 + 1 + 1 < w1.heap.size := Nat.lt_of_lt_of_le hsz hon.size
  clear f1 f2 f3 f4 f5 hon hsz
  subst hW0
  go_enter Try.func47, Try.ntmps47
  go_wp2_with (go_at_call 54; refine (within_any _ _ _).mono ?_; rintro e w' ⟨rfl, rfl⟩; rw [HM.out])
  clear hmk hcp
  go_loopw [11, 21] (fun _ i wr => ∃ k : Nat, k ≤ m ∧ i = .int .i64 k ∧ PutInv w wr xs a n (putL xs a n k)) (fun _ i _ => m - (RowKit.intOf i).toNat)
  case atStart => exact ⟨0, by omega, rfl, hrow, g1, g3, g4, hb1, hs1⟩
  case round =>
    clear hrow g1 g3 g4 hb1 hs1
    obtain ⟨k, hk, rfl, hrow, g1, g3, g4, hb1, hs1⟩ := hrel
    by_cases hlt : k < m
    · go_wp2_with fail
      rw [← putL_len xs a n k] at g1
      refine (putOne_any k a n _ _ _ _ _ _ (by omega) ha (by rw [putL_len]; exact hl) g1 g3 g4 hrow).mono ?_
      rintro e w2 ⟨rfl, hrow2, hon⟩
      rw [putL_len xs a n k] at g1
      have hinv : Hid (PutInv w w2 xs a n (putL xs a n (k + 1))) := PutInv.step ⟨hrow, g1, g3, g4, hb1, hs1⟩ hrow2 hon
      clear hrow g1 g3 g4 hb1 hs1 hrow2 hon
      go_wp2_with fail
      go_roundw
      case rel => exact ⟨k + 1, by omega, by go_num, hinv.out⟩
      case measure => simp [RowKit.intOf]; omega
    · obtain rfl : k = m := by omega
      go_wp2_with fail
      go_ret
      exact ⟨_, rfl, by omega, hrow, hb1⟩
theorem lePutNum_new (A : Option Addr) (xs : List UInt8) (c : Nat) (a s : Int) (n : Nat) (w : World) (hx : BR w w.heap.size A xs) (hl : xs.length ≤ 1000000) (ha : -9223372036854775808 ≤ a) :
    Calls Try.prog 47 #[.slice A xs.length c, .int .i64 a, .int .i64 s, .int .u64 n] w (GivesN w (putL xs a n (clamp s 8).toNat)) := (lePutNum_row A xs c a s n w hx hl ha).mono fun _ _ ⟨_, e, hg, hrow, hb⟩ => e ▸ givesN_row (putL_len _ _ _ _) (Nat.le_refl _) hg hrow hb
theorem lePutNum_any (A : Option Addr) (xs : List UInt8) (c : Nat) (a s : Int) (n : Nat) (w : World) (hx : BR w w.heap.size A xs) (hl : xs.length ≤ 1000000) (ha : -9223372036854775808 ≤ a) :
    Calls Try.prog 47 #[.slice A xs.length c, .int .i64 a, .int .i64 s, .int .u64 n] w (GivesB w (putL xs a n (clamp s 8).toNat)) := (lePutNum_new A xs c a s n w hx hl ha).mono fun _ _ h => h.toB
end Go.Proofs.Ythmlhjjcihibnaa
namespace Go.Proofs.Ythmlhjjcihibnaa
open Go.RowKit

theorem givesB_br {w w' : World} {R : Option Addr} {zs : List UInt8} {n c : Nat} (hn : zs.length = n) (h : BR w' w'.heap.size R zs) (hb : Below w.heap.size w w') :
    GivesB w zs (.returned (.slice R n c)) w' := by
  subst hn
  exact ⟨_, _, rfl, h, hb⟩

theorem givesC_br {w w' : World} {R : Option Addr} {zs : List UInt8} {n c : Nat} (hn : zs.length = n) (h : BR w' w'.heap.size R zs) (hb : Below w.heap.size w w') (hc : n ≤ c) :
    GivesC w zs (.returned (.slice R n c)) w' := by
  subst hn
  exact ⟨_, _, rfl, h, hb, hc⟩

/-- It hands back a slice of its own, whose bytes are 'zs'. -/
def GivesO (w : World) (zs : List UInt8) (e : Ending) (w' : World) : Prop :=
  ∃ R c, e = .returned (.slice R zs.length c) ∧ Own8 w' w.heap.size 5 R c zs ∧ Below w.heap.size w w'
theorem givesO_own {w w' : World} {R : Option Addr} {zs : List UInt8} {n c : Nat} (hn : zs.length = n) (h : Own8 w' w.heap.size 5 R c zs) (hb : Below w.heap.size w w') :
    GivesO w zs (.returned (.slice R n c)) w' := by
  subst hn
  exact ⟨_, _, rfl, h, hb⟩
theorem GivesO.toC {w : World} {zs : List UInt8} {e : Ending} {w' : World} (h : GivesO w zs e w') : GivesC w zs e w' := by
  obtain ⟨R, c, he, ho, hb⟩ := h
  exact ⟨R, c, he, ho.br, hb, ho.cap_le⟩
set_option maxRecDepth 100000 in
set_option maxHeartbeats 1000000 in
theorem refPutNum_own (A : Option Addr) (xs : List UInt8) (c : Nat) (a s : Int) (n : Nat) (w : World) (hx : BR w w.heap.size A xs) (hl : xs.length ≤ 1000000) (ha : -9223372036854775808 ≤ a) (ha' : a ≤ 9223372036854775807) :
    Calls Try.prog 48 #[.slice A xs.length c, .int .i64 a, .int .i64 s, .int .u64 n] w (GivesO w (putL xs a n (clamp s 8).toNat)) := by
  have hr := clamp_range s 8 (by omega)
  generalize hm : clamp s 8 = m at *
  unfold clamp at hm
  obtain ⟨m, rfl⟩ := Int.eq_ofNat_of_zero_le hr.1
  rw [Int.toNat_natCast]
  obtain ⟨R, cap, w1, hap, hown, hb1⟩ := run_append8 (P := Try.prog) w 22 22 5 Try.info8 Try.underlying22 A xs c hx hl
  have HAP := Lib.hid hap
  clear hap
  go_enter Try.func48, Try.ntmps48
  go_wp2_with (at_builtin; refine wpList_append_run rfl _ _ 22 rfl _ HAP.out ?_)
  all_goals
    clear HAP hm
    go_loopw [10, 11] (fun i _ wr => ∃ k : Nat, k ≤ m ∧ i = .int .i64 k ∧ Own8 wr w.heap.size 5 R cap (putL xs a n k) ∧ Below w.heap.size w wr) (fun i _ _ => m - (RowKit.intOf i).toNat)
    case atStart => exact ⟨0, by omega, rfl, hown, hb1⟩
    case round =>
      clear hown hb1
      obtain ⟨k, hk, rfl, hown, hb⟩ := hrel
      have hlen := putL_len xs a n k
      by_cases hlt : k < m
      · by_cases hle : a ≤ xs.length
        · by_cases h0 : 0 ≤ a + k
          · by_cases h1 : a + k < xs.length
            · obtain ⟨g, rfl, hBg, hglt, hc, hf⟩ := hown.at_ (k := (a + k).toNat) (by omega)
              generalize (putL xs a n k).getD (a + k).toNat 0 = u0 at hc
              have HR : Hid (∀ v : Int, v = ((byteN n k).toNat : Int) → Own8 (wr.setCell ⟨g, (a + k).toNat, none⟩ (.int .u8 v)) w.heap.size 5 (some ⟨g, 0, none⟩) cap (putL xs a n (k + 1))) := fun v hv => by
                rw [hv, putL, setAt_in _ _ _ h0]; exact hown.set_ _ _
              clear hown hlen
              go_wp2
              go_roundw
              case rel => exact ⟨k + 1, by omega, by go_num, HR.out _ (byteN_val n k), hb.setCell hBg _⟩
              case measure => simp [RowKit.intOf]; omega
            · have HR : Hid (Own8 wr w.heap.size 5 R cap (putL xs a n (k + 1))) := by
                show Own8 _ _ _ _ _ _
                rw [putL, setAt_out _ _ _ (by omega)]; exact hown
              clear hown hlen
              go_wp2
              go_roundw
              case rel => exact ⟨k + 1, by omega, by go_num, HR.out, hb⟩
              case measure => simp [RowKit.intOf]; omega
          · have HR : Hid (Own8 wr w.heap.size 5 R cap (putL xs a n (k + 1))) := by
              show Own8 _ _ _ _ _ _
              rw [putL, setAt_out _ _ _ (by omega)]; exact hown
            clear hown hlen
            go_wp2
            go_roundw
            case rel => exact ⟨k + 1, by omega, by go_num, HR.out, hb⟩
            case measure => simp [RowKit.intOf]; omega
        · have HR : Hid (Own8 wr w.heap.size 5 R cap (putL xs a n (k + 1))) := by
            show Own8 _ _ _ _ _ _
            rw [putL, setAt_out _ _ _ (by omega)]; exact hown
          clear hown hlen
          go_wp2
          go_roundw
          case rel => exact ⟨k + 1, by omega, by go_num, HR.out, hb⟩
          case measure => simp [RowKit.intOf]; omega
      · obtain rfl : k = m := by omega
        clear hlen
        go_wp2
        go_ret
        exact givesO_own (putL_len _ _ _ _) hown hb
theorem refPutNum_cap (A : Option Addr) (xs : List UInt8) (c : Nat) (a s : Int) (n : Nat) (w : World) (hx : BR w w.heap.size A xs) (hl : xs.length ≤ 1000000) (ha : -9223372036854775808 ≤ a) (ha' : a ≤ 9223372036854775807) :
    Calls Try.prog 48 #[.slice A xs.length c, .int .i64 a, .int .i64 s, .int .u64 n] w (GivesC w (putL xs a n (clamp s 8).toNat)) := (refPutNum_own A xs c a s n w hx hl ha ha').mono fun _ _ h => h.toC
theorem refPutNum_any (A : Option Addr) (xs : List UInt8) (c : Nat) (a s : Int) (n : Nat) (w : World) (hx : BR w w.heap.size A xs) (hl : xs.length ≤ 1000000) (ha : -9223372036854775808 ≤ a) (ha' : a ≤ 9223372036854775807) :
    Calls Try.prog 48 #[.slice A xs.length c, .int .i64 a, .int .i64 s, .int .u64 n] w (GivesB w (putL xs a n (clamp s 8).toNat)) := (refPutNum_cap A xs c a s n w hx hl ha ha').mono fun _ _ h => h.toB
end Go.Proofs.Ythmlhjjcihibnaa
namespace Go.Proofs.Ythmlhjjcihibnaa
open Go.RowKit

/-- The number that k bytes from a on make, the lowest ahead. -/
def num (xs : List UInt8) (a : Int) : Nat → Nat
  | 0 => 0
  | k + 1 => num xs a k ||| ((byt xs (a + k)).toNat <<< (8 * k))
theorem num_lt (xs : List UInt8) (a : Int) (k : Nat) : num xs a k < 2 ^ (8 * k) := by
  induction k with
  | zero => simp [num]
  | succ k ih =>
    refine Nat.or_lt_two_pow (Nat.lt_of_lt_of_le ih (Nat.pow_le_pow_right (by omega) (by omega))) ?_
    rw [Nat.shiftLeft_eq, show 8 * (k + 1) = 8 + 8 * k from by omega, Nat.pow_add]
    exact Nat.mul_lt_mul_of_pos_right (byt xs (a + k)).toNat_lt (Nat.two_pow_pos _)

theorem num_step (xs : List UInt8) (a : Int) (k : Nat) (hk : k < 8) :
    bits .or .u64 (num xs a k : Int) (IntKind.u64.wrap (IntKind.u64.wrap ((byt xs (a + k)).toNat : Int) * 2 ^ (8 * k))) = (num xs a (k + 1) : Int) := by
  have h1 := num_lt xs a k
  have h3 : (byt xs (a + k)).toNat * 2 ^ (8 * k) < 2 ^ (8 * (k + 1)) := by
    rw [show 8 * (k + 1) = 8 + 8 * k from by omega, Nat.pow_add]
    exact Nat.mul_lt_mul_of_pos_right (byt xs (a + k)).toNat_lt (Nat.two_pow_pos _)
  have h5 : (2 : Nat) ^ (8 * k) ≤ 2 ^ 64 := Nat.pow_le_pow_right (by omega) (by omega)
  have h6 : (2 : Nat) ^ (8 * (k + 1)) ≤ 2 ^ 64 := Nat.pow_le_pow_right (by omega) (by omega)
  have h2 : (byt xs (a + k)).toNat < 256 := (byt xs (a + k)).toNat_lt
  have e : IntKind.u64.wrap (IntKind.u64.wrap ((byt xs (a + k)).toNat : Int) * 2 ^ (8 * k)) = (((byt xs (a + k)).toNat * 2 ^ (8 * k) : Nat) : Int) := by
    rw [IntKind.wrap_u64, IntKind.wrap_u64, Int.emod_eq_of_lt (a := ((byt xs (a + k)).toNat : Int)) (by omega) (by omega)]
    rw [show ((byt xs (a + k)).toNat : Int) * 2 ^ (8 * k) = (((byt xs (a + k)).toNat * 2 ^ (8 * k) : Nat) : Int) from by simp]
    exact Int.emod_eq_of_lt (by omega) (by omega)
  rw [e, u64_or_nat _ _ (by omega) (by omega), num, Nat.shiftLeft_eq]

theorem num_skip (xs : List UInt8) (a : Int) (k : Nat) (h : byt xs (a + k) = 0) : num xs a (k + 1) = num xs a k := by
  simp [num, h]

set_option maxRecDepth 100000 in
set_option maxHeartbeats 400000 in
theorem leNum_any (A : Option Addr) (xs : List UInt8) (c : Nat) (a s : Int) (w : World) (hx : BR w w.heap.size A xs) (hl' : xs.length ≤ 1000000) (ha : -9223372036854775808 ≤ a) :
    Calls Try.prog 50 #[.slice A xs.length c, .int .i64 a, .int .i64 s] w fun e w' => e = .returned (.int .u64 (num xs a (clamp s 8).toNat)) ∧ w = w' := by
  have hr := clamp_range s 8 (by omega)
  generalize hm : clamp s 8 = m at *
  have HM := Lib.hid hm
  clear hm
  obtain ⟨m, rfl⟩ := Int.eq_ofNat_of_zero_le hr.1
  rw [Int.toNat_natCast]
  go_enter Try.func50, Try.ntmps50
  go_wp2_with (go_at_call 54; refine (within_any _ _ _).mono ?_; rintro e w' ⟨rfl, rfl⟩; rw [HM.out])
  go_loop [7, 8, 11] (fun n _ i => ∃ k : Nat, k ≤ m ∧ i = .int .i64 k ∧ n = .int .u64 (num xs a k)) (fun _ _ i => m - (RowKit.intOf i).toNat)
  case atStart => exact ⟨0, Nat.zero_le _, rfl, rfl⟩
  case round =>
    obtain ⟨k, hk, rfl, rfl⟩ := hrel
    by_cases hlt : k < m
    · go_wp2_with (go_at_call 56; refine (byteOf_any _ _ _ _ _ _ hx hl' ha (by omega) (by omega)).mono ?_; rintro e w' ⟨rfl, rfl⟩)
      go_round
      case rel => exact ⟨k + 1, by omega, by go_num, by rw [num_step _ _ _ (by omega)]⟩
      case measure => simp [RowKit.intOf]; omega
    · go_wp2
      go_ret
      exact ⟨ret_int (by rw [show m = k from by omega]), rfl⟩

set_option maxRecDepth 100000 in
set_option maxHeartbeats 400000 in
theorem refNum_any (A : Option Addr) (xs : List UInt8) (c : Nat) (a s : Int) (w : World) (hx : BR w w.heap.size A xs) (hl' : xs.length ≤ 1000000) (ha : -9223372036854775808 ≤ a) (ha' : a ≤ 9223372036854775807) :
    Calls Try.prog 51 #[.slice A xs.length c, .int .i64 a, .int .i64 s] w fun e w' => e = .returned (.int .u64 (num xs a (clamp s 8).toNat)) ∧ w = w' := by
  have hr := clamp_range s 8 (by omega)
  generalize hm : clamp s 8 = m at *
  unfold clamp at hm
  obtain ⟨m, rfl⟩ := Int.eq_ofNat_of_zero_le hr.1
  rw [Int.toNat_natCast]
  go_enter Try.func51, Try.ntmps51
  go_wp2
  all_goals
    clear hm
    go_loop [7, 8, 9] (fun n i _ => ∃ k : Nat, k ≤ m ∧ i = .int .i64 k ∧ n = .int .u64 (num xs a k)) (fun _ i _ => m - (RowKit.intOf i).toNat)
    case atStart => exact ⟨0, Nat.zero_le _, rfl, rfl⟩
    case round =>
      obtain ⟨k, hk, rfl, rfl⟩ := hrel
      by_cases hlt : k < m
      · have HS := Lib.hid (num_step xs a k (by omega))
        by_cases hle : a ≤ xs.length
        · by_cases h0 : 0 ≤ a + k
          · by_cases h1 : a + k < xs.length
            · obtain ⟨ad, rfl, _, hc⟩ := hx.at_ (k := (a + k).toNat) (by omega)
              have he := byt_in xs (a + k) h0
              rw [← he] at hc
              clear he
              go_wp2
              go_round
              case rel => exact ⟨k + 1, by omega, by go_num, by rw [HS.out]⟩
              case measure => simp [RowKit.intOf]; omega
            · have he := Lib.hid (byt_out xs (a + k) (by omega))
              go_wp2
              go_round
              case rel => exact ⟨k + 1, by omega, by go_num, by rw [num_skip _ _ _ he.out]⟩
              case measure => simp [RowKit.intOf]; omega
          · have he := Lib.hid (byt_out xs (a + k) (by omega))
            go_wp2
            go_round
            case rel => exact ⟨k + 1, by omega, by go_num, by rw [num_skip _ _ _ he.out]⟩
            case measure => simp [RowKit.intOf]; omega
        · have he := Lib.hid (byt_out xs (a + k) (by omega))
          go_wp2
          go_round
          case rel => exact ⟨k + 1, by omega, by go_num, by rw [num_skip _ _ _ he.out]⟩
          case measure => simp [RowKit.intOf]; omega
      · go_wp2
        go_ret
        exact ⟨ret_int (by rw [show m = k from by omega]), rfl⟩
end Go.Proofs.Ythmlhjjcihibnaa
namespace Go.Proofs.Ythmlhjjcihibnaa
open Go.RowKit

theorem putL_get (xs : List UInt8) (a : Int) (n k i : Nat) (ha : 0 ≤ a) (hi : i < xs.length) :
    (putL xs a n k).getD i 0 = if a ≤ i ∧ (i : Int) < a + k then byteN n ((i : Int) - a).toNat else xs.getD i 0 := by
  induction k with
  | zero => rw [if_neg (by omega)]; rfl
  | succ k ih =>
    rw [putL, setAt_in _ _ _ (by omega), List.getD_eq_getElem?_getD, List.getElem?_set]
    by_cases e : (a + k).toNat = i
    · rw [if_pos e, if_pos (by rw [putL_len]; omega), if_pos (by omega)]
      rw [show ((i : Int) - a).toNat = k from by omega]; rfl
    · rw [if_neg e, ← List.getD_eq_getElem?_getD, ih]
      by_cases h : a ≤ i ∧ (i : Int) < a + k
      · rw [if_pos h, if_pos (by omega)]
      · rw [if_neg h, if_neg (by omega)]

theorem num_of_bytes (zs : List UInt8) (a : Int) (n k : Nat) (h : ∀ j, j < k → byt zs (a + j) = byteN n j) : num zs a k = n % 2 ^ (8 * k) := by
  induction k with
  | zero => simp [num, Nat.mod_one]
  | succ k ih =>
    rw [num, ih fun j hj => h j (by omega), h k (by omega)]
    have e : (byteN n k).toNat = n / 2 ^ (8 * k) % 256 := by simp [byteN]
    have hl : n % 2 ^ (8 * k) < 2 ^ (8 * k) := Nat.mod_lt _ (Nat.two_pow_pos _)
    rw [e, Nat.or_comm, ← Nat.shiftLeft_add_eq_or_of_lt hl, Nat.shiftLeft_eq, show 8 * (k + 1) = 8 * k + 8 from by omega, Nat.pow_add, Nat.mod_mul]
    rw [Nat.mul_comm, Nat.add_comm]
end Go.Proofs.Ythmlhjjcihibnaa
namespace Go.Proofs.Ythmlhjjcihibnaa
open Go.RowKit

theorem run_str {P : Program} (w : World) (B : Nat) (src dst e : TypeId) (A : Option Addr) (xs : List UInt8) (c : Nat) (hx : BR w B A xs)
    (hs : P.underlying src = some (.slice e)) (he : P.underlying e = some (.int .u8)) (hd : P.underlying dst = some .string) :
    (convert src dst (.slice A xs.length c)).run P w = .ok (.string ⟨xs.toArray⟩) w := by
  rw [run_convert_bytes_string w src dst e A xs.length c hs he hd]
  by_cases hn : xs = []
  · subst hn
    rcases A with _ | ad
    · simp [Conv.bytesToString]; rfl
    · have hl : (loadCells ad 0).run P w = .ok (([] : List Int).map (Value.int .u8)).toArray w := by
        simpa using run_loadCells_list (P := P) w ad [] (fun j v hj => by simp at hj)
      rw [List.length_nil, run_bytesToString w ad 0 c [] hl]
      rfl
  · obtain ⟨ad, rfl, _, hc⟩ := hx hn
    have hl : (loadCells ad xs.length).run P w = .ok ((xs.map fun u => (u.toNat : Int)).map (Value.int .u8)).toArray w := by
      have := run_loadCells_list (P := P) w ad ((xs.map fun u => (u.toNat : Int)).map (Value.int .u8)) (fun j v hj => by
        simp only [List.map_map, List.getElem?_map, Option.map_eq_some_iff] at hj
        obtain ⟨u, hu, rfl⟩ := hj
        exact hc j u hu)
      simpa using this
    rw [run_bytesToString w ad xs.length c _ hl, foldl_push_bytes]
    simp [ByteArray.empty, ByteArray.emptyWithCapacity, Function.comp_def]
    rfl

theorem list_eq (xs ys : List UInt8) : (xs == ys) = decide (xs = ys) := by
  rw [Bool.eq_iff_iff]; simp
theorem ex_convert {P : Program} {w w' : World} {o : Oper} {ρ : Operand → Value} (s d : TypeId) (x : Operand) (ho : o.op = .convert s d x) (y v : Value) (hy : ρ x = y) (hrun : (convert s d y).run P w = .ok v w') : (execOp ρ o).run P w = .ok (.value v) w' := by
  unfold execOp
  simp only [ho, hy, Sem.run_bind, hrun, Result.andThen_ok, Sem.run_pure]
end Go.Proofs.Ythmlhjjcihibnaa
