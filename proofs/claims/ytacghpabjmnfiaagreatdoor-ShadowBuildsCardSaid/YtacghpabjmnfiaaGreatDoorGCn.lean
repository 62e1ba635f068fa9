/-
  Merged by wip/tools/merge.py: CnBlank CnCount
-/
import Derived.Test.YtacghpabjmnfiaaGreatDoorMapF
import Derived.Test.YtacghpabjmnfiaaGreatDoorGNd
import Derived.Test.YtacghpabjmnfiaaGreatDoorGShI
import Derived.Test.YtacghpabjmnfiaaGreatDoorGT
import Derived.Test.YtacghpabjmnfiaaGreatDoorGA
namespace Go.Proofs.YtacghpabjmnfiaaGreatDoor
open Go.RowKit

def blankB (xs : List UInt8) : Bool := xs.all (· == 0)
theorem blankB_zs {xs : List UInt8} (h : xs.length = 64) : blankB xs = decide (xs = zs64) := by
  unfold blankB zs64
  rw [Bool.eq_iff_iff, List.all_eq_true, decide_eq_true_eq]
  constructor
  · intro hx
    rw [List.eq_replicate_iff]
    exact ⟨h, fun b hb => by simpa using hx b hb⟩
  · intro hx b hb
    rw [hx] at hb
    simpa using (List.mem_replicate.1 hb).2
set_option maxRecDepth 100000 in
set_option maxHeartbeats 400000 in
theorem blank_any (A : Option Addr) (xs : List UInt8) (c : Nat) (w : World) (hx : BR w w.heap.size A xs) (hl : xs.length ≤ 140737488355328) :
    Calls Tryz.prog 129 #[.slice A xs.length c] w fun e w' => e = .returned (.bool (blankB xs)) ∧ w = w' := by
  go_enter Tryz.func129, Tryz.ntmps129
  go_wp2
  go_loop [7, 4] (fun i _ => ∃ k : Nat, k ≤ xs.length ∧ i = .int .i64 k ∧ blankB (xs.take k) = true) (fun i _ => xs.length - (Go.RowKit.intOf i).toNat)
  case atStart => exact ⟨0, Nat.zero_le _, rfl, rfl⟩
  case round =>
    obtain ⟨k, hk, rfl, hb⟩ := hrel
    by_cases hlt : k < xs.length
    · obtain ⟨ad, rfl, _, hc⟩ := hx.at_ hlt
      rw [show xs.getD k 0 = xs[k] from by simp [List.getD_eq_getElem?_getD, hlt]] at hc
      have hs : xs.take (k + 1) = xs.take k ++ [xs[k]] := List.take_succ_eq_append_getElem hlt
      have hsn : blankB (xs.take (k + 1)) = (xs[k] == 0) := by
        rw [hs]
        unfold blankB at hb ⊢
        rw [List.all_append, hb]
        simp
      have hall : (xs[k] == 0) = false → blankB xs = false := fun h => by
        unfold blankB
        rw [List.all_eq_false]
        exact ⟨xs[k], List.getElem_mem hlt, by simpa using h⟩
      have HS := Lib.hid hsn
      have HA := Lib.hid hall
      have HB := Lib.hid hx
      clear hsn hall hs hb hx
      by_cases hz : xs[k] = 0
      · have h0 : (xs[k].toNat : Int) = 0 := by rw [hz]; rfl
        have HZ := Lib.hid hz
        clear hz
        generalize xs[k] = u at *
        unfold B8 at hc
        rw [h0] at hc
        clear h0
        go_wp2
        go_round
        case rel => exact ⟨k + 1, by omega, by go_num, by rw [HS.out, HZ.out]; rfl⟩
        case measure => simp [Go.RowKit.intOf]; omega
      · have h0 : ((xs[k].toNat : Int) != 0) = true := by
          have : xs[k].toNat ≠ 0 := fun e => hz (UInt8.toNat_inj.1 e)
          simp
          omega
        have HZ := Lib.hid (HA.out (by simpa using hz))
        clear hz
        generalize xs[k] = u at *
        unfold B8 at hc
        go_wp2
        go_ret
        exact ⟨by rw [HZ.out]; rfl, rfl⟩
    · obtain rfl : k = xs.length := by omega
      rw [List.take_length] at hb
      have HB := Lib.hid hb
      clear hb
      go_wp2
      go_ret
      exact ⟨by rw [HB.out]; rfl, rfl⟩

/-! ### arrays of bools -/
abbrev VB (b : Bool) : Value := .bool b
def bv (bs : List Bool) : Value := .agg (bs.map VB).toArray
/-- Block b is the array. -/
def BB (w : World) (t : TypeId) (b : Nat) (bs : List Bool) : Prop := w.heap[b]? = some (.cells (bs.map VB).toArray t (0, 0))
section
variable {w w' : World} {t : TypeId} {b : Nat} {bs : List Bool}
theorem BB.lt (h : BB w t b bs) : b < w.heap.size := (Array.getElem?_eq_some_iff.1 h).1
theorem BB.keep {F : Nat → Prop} (h : BB w t b bs) (k : Keeps F w w') (hF : ¬ F b) : BB w' t b bs := (k.block b h.lt hF).trans h
theorem BB.cell (h : BB w t b bs) {k : Nat} (hk : k < bs.length) : w.cell? ⟨b, k, none⟩ = some (.bool (bs.getD k false)) := by
  rw [cell_of_row w b k _ _ _ h]
  simp [List.getD_eq_getElem?_getD, hk]
theorem BB.free (h : BB w t b bs) (k : Nat) : w.frozen? ⟨b, k, none⟩ = false := frozen_of_row w b k _ _ h
theorem BB.set (h : BB w t b bs) (k : Nat) (z : Bool) : BB (w.setCell ⟨b, k, none⟩ (.bool z)) t b (bs.set k z) := by
  unfold BB
  rw [heap_setCell_same w b k _ _ _ h]
  simp [List.map_set]
theorem BB.other (h : BB w t b bs) {b' k : Nat} {v : Value} (hne : b ≠ b') : BB (w.setCell ⟨b', k, none⟩ v) t b bs := (Below.heap_setCell _ _ _ _ hne).trans h
theorem BB.box (w : World) (t : TypeId) (bs : List Bool) : BB (w.alloc (.cells (bs.map VB).toArray t)) t w.heap.size bs := heap_alloc_new w _
end
def f128 : List Bool := List.replicate 128 false
def f4 : List Bool := List.replicate 4 false
theorem box128 (w : World) (bs : List Bool) : (Instr.box 140 (bv bs)).run Tryz.prog w = .ok (.pointer (some ⟨w.heap.size, 0, none⟩)) (w.alloc (.cells (bs.map VB).toArray 140)) := rfl
theorem box4 (w : World) (bs : List Bool) : (Instr.box 141 (bv bs)).run Tryz.prog w = .ok (.pointer (some ⟨w.heap.size, 0, none⟩)) (w.alloc (.cells (bs.map VB).toArray 141)) := rfl
theorem alloc128 (w : World) : (Instr.alloc 140 true (.tuple #[])).run Tryz.prog w = .ok (.pointer (some ⟨w.heap.size, 0, none⟩)) (w.alloc (.cells (f128.map VB).toArray 140)) := by kernel_rfl
theorem alloc4 (w : World) : (Instr.alloc 141 true (.tuple #[])).run Tryz.prog w = .ok (.pointer (some ⟨w.heap.size, 0, none⟩)) (w.alloc (.cells (f4.map VB).toArray 141)) := by kernel_rfl
theorem Tryz.sizeB128 : (Tryz.prog.info? 140).map (·.size) = some 128 := by kernel_rfl
theorem Tryz.sizeB4 : (Tryz.prog.info? 141).map (·.size) = some 4 := by kernel_rfl
theorem BB.load128 {w : World} {b : Nat} {bs : List Bool} (h : BB w 140 b bs) (hl : bs.length = 128) : (Instr.loadAt 140 (.pointer (some ⟨b, 0, none⟩))).run Tryz.prog w = .ok (bv bs) w :=
  run_loadAt_mid w b 0 140 (bs.map VB) _ (range_cells h) Tryz.underlying140 rfl (by rw [Tryz.sizeB128, List.length_map, hl])
theorem BB.load4 {w : World} {b : Nat} {bs : List Bool} (h : BB w 141 b bs) (hl : bs.length = 4) : (Instr.loadAt 141 (.pointer (some ⟨b, 0, none⟩))).run Tryz.prog w = .ok (bv bs) w :=
  run_loadAt_mid w b 0 141 (bs.map VB) _ (range_cells h) Tryz.underlying141 rfl (by rw [Tryz.sizeB4, List.length_map, hl])
end Go.Proofs.YtacghpabjmnfiaaGreatDoor
namespace Go.Proofs.YtacghpabjmnfiaaGreatDoor
open Go.RowKit

/-- Behind k changes: which pages there are, which leaves are touched, how many pages are written. -/
def cn1 (M : List ChV) (hs : List Bool) : Nat → List Bool × List Bool × Nat
  | 0 => (hs, f4, 0)
  | k + 1 => match M[k]? with
    | none => cn1 M hs k
    | some a => ((cn1 M hs k).1.set a.page.toNat (!blankB a.xs), (cn1 M hs k).2.1.set (a.page.toNat / 32) true, if blankB a.xs then (cn1 M hs k).2.2 else (cn1 M hs k).2.2 + 1)
theorem cn1_step {M : List ChV} (hs : List Bool) {k : Nat} (hk : k < M.length) : cn1 M hs (k + 1) = ((cn1 M hs k).1.set M[k].page.toNat (!blankB M[k].xs), (cn1 M hs k).2.1.set (M[k].page.toNat / 32) true, if blankB M[k].xs then (cn1 M hs k).2.2 else (cn1 M hs k).2.2 + 1) := by
  rw [cn1, List.getElem?_eq_getElem hk]
theorem cn1_len (M : List ChV) {hs : List Bool} (h : hs.length = 128) : ∀ k, (cn1 M hs k).1.length = 128 ∧ (cn1 M hs k).2.1.length = 4 ∧ (cn1 M hs k).2.2 ≤ k
  | 0 => ⟨h, by simp [cn1, f4], Nat.le_refl _⟩
  | k + 1 => by
    obtain ⟨a, b, c⟩ := cn1_len M h k
    rw [cn1]
    cases M[k]? with
    | none => exact ⟨a, b, Nat.le_succ_of_le c⟩
    | some x => exact ⟨by simpa using a, by simpa using b, by simp only; split <;> omega⟩
/-- Is one of the first k pages of leaf i there? -/
def orTo (hs : List Bool) (i k : Nat) : Bool := (List.range k).any fun j => hs.getD (i * 32 + j) false
theorem orTo_succ (hs : List Bool) (i k : Nat) : orTo hs i (k + 1) = (orTo hs i k || hs.getD (i * 32 + k) false) := by
  unfold orTo
  rw [List.range_succ, List.any_append]
  simp
/-- Behind i leaves: which there are, whether one is, how many sectors are written. -/
def cn2 (hs tch ls : List Bool) (n : Nat) : Nat → List Bool × Bool × Nat
  | 0 => (ls, false, n)
  | i + 1 => if tch.getD i false then ((cn2 hs tch ls n i).1.set i (orTo hs i 32), (cn2 hs tch ls n i).2.1 || orTo hs i 32, if orTo hs i 32 then (cn2 hs tch ls n i).2.2 + 1 else (cn2 hs tch ls n i).2.2)
    else ((cn2 hs tch ls n i).1, (cn2 hs tch ls n i).2.1 || (cn2 hs tch ls n i).1.getD i false, (cn2 hs tch ls n i).2.2)
theorem cn2_len (hs tch : List Bool) {ls : List Bool} (n : Nat) (h : ls.length = 4) : ∀ i, (cn2 hs tch ls n i).1.length = 4 ∧ (cn2 hs tch ls n i).2.2 ≤ n + i
  | 0 => ⟨h, Nat.le_refl _⟩
  | i + 1 => by
    obtain ⟨a, b⟩ := cn2_len hs tch n h i
    rw [cn2]
    split
    · exact ⟨by simpa using a, by simp only; split <;> omega⟩
    · exact ⟨a, by simp only; omega⟩
theorem cn2_yes (hs tch ls : List Bool) (n i : Nat) (h : tch.getD i false = true) : cn2 hs tch ls n (i + 1) = ((cn2 hs tch ls n i).1.set i (orTo hs i 32), (cn2 hs tch ls n i).2.1 || orTo hs i 32, if orTo hs i 32 then (cn2 hs tch ls n i).2.2 + 1 else (cn2 hs tch ls n i).2.2) := by rw [cn2, if_pos h]
theorem cn2_no (hs tch ls : List Bool) (n i : Nat) (h : tch.getD i false = false) : cn2 hs tch ls n (i + 1) = ((cn2 hs tch ls n i).1, (cn2 hs tch ls n i).2.1 || (cn2 hs tch ls n i).1.getD i false, (cn2 hs tch ls n i).2.2) := by rw [cn2, if_neg (by rw [h]; simp)]
/-- How many sectors a change writes. -/
def countV (hs ls : List Bool) (M : List ChV) : Nat :=
  if M ≠ [] ∧ (cn2 (cn1 M hs M.length).1 (cn1 M hs M.length).2.1 ls (cn1 M hs M.length).2.2 4).2.1 = true then (cn2 (cn1 M hs M.length).1 (cn1 M hs M.length).2.1 ls (cn1 M hs M.length).2.2 4).2.2 + 1
  else (cn2 (cn1 M hs M.length).1 (cn1 M hs M.length).2.1 ls (cn1 M hs M.length).2.2 4).2.2

theorem getD_setB (l : List Bool) {k : Nat} (hk : k < l.length) (b : Bool) : (l.set k b).getD k false = b := by simp [List.getD_eq_getElem?_getD, hk]
set_option maxRecDepth 100000 in
set_option maxHeartbeats 1600000 in
theorem docCount_any (hs ls : List Bool) (hh : hs.length = 128) (hl4 : ls.length = 4) (A : Option Addr) (M : List ChV) (c : Nat) (w : World) (hM : CR w w.heap.size A M) (hg : ∀ a ∈ M, a.good) (hm : M.length ≤ 128) :
    Calls Tryz.prog 73 #[bv hs, bv ls, .slice A M.length c] w fun e w' => e = .returned (.int .i64 (countV hs ls M : Nat)) ∧ Below w.heap.size w w' := by
  have B3 := Lib.hid (box128 w hs)
  have B4 := Lib.hid (box4 (w.alloc (.cells (hs.map VB).toArray 140)) ls)
  have A8 := Lib.hid (alloc4 ((w.alloc (.cells (hs.map VB).toArray 140)).alloc (.cells (ls.map VB).toArray 141)))
  have b3 : BB (((w.alloc (.cells (hs.map VB).toArray 140)).alloc (.cells (ls.map VB).toArray 141)).alloc (.cells (f4.map VB).toArray 141)) 140 w.heap.size hs :=
    ((BB.box w _ hs).keep (Keeps.alloc (fun _ => False) _ _) (fun h => h)).keep (Keeps.alloc (fun _ => False) _ _) (fun h => h)
  have b4 : BB (((w.alloc (.cells (hs.map VB).toArray 140)).alloc (.cells (ls.map VB).toArray 141)).alloc (.cells (f4.map VB).toArray 141)) 141 (w.heap.size + 1) ls := by
    have := (BB.box (w.alloc (.cells (hs.map VB).toArray 140)) 141 ls).keep (Keeps.alloc (fun _ => False) _ (.cells (f4.map VB).toArray 141)) (fun h => h)
    rwa [World.size_alloc] at this
  have b8 : BB (((w.alloc (.cells (hs.map VB).toArray 140)).alloc (.cells (ls.map VB).toArray 141)).alloc (.cells (f4.map VB).toArray 141)) 141 (w.heap.size + 2) f4 := by
    have := BB.box ((w.alloc (.cells (hs.map VB).toArray 140)).alloc (.cells (ls.map VB).toArray 141)) 141 f4
    simpa using this
  have bw : Below w.heap.size w (((w.alloc (.cells (hs.map VB).toArray 140)).alloc (.cells (ls.map VB).toArray 141)).alloc (.cells (f4.map VB).toArray 141)) :=
    (((Below.refl _ _).alloc (Nat.le_refl _) _).alloc (by simp) _).alloc (by simp; omega) _
  have sz : (((w.alloc (.cells (hs.map VB).toArray 140)).alloc (.cells (ls.map VB).toArray 141)).alloc (.cells (f4.map VB).toArray 141)).heap.size = w.heap.size + 3 := by simp
  have SZ := Lib.hid sz
  clear sz
  go_enter Tryz.func73, Tryz.ntmps73
  go_wp2_with (first
    | ((with_reducible refine at_ (op := .box 140 (.tmp 0)) ?_); refine wpList_val rfl _ (ex_box 140 (.tmp 0) rfl _ _ rfl B3.out) ?_)
    | ((with_reducible refine at_ (op := .box 141 (.tmp 1)) ?_); refine wpList_val rfl _ (ex_box 141 (.tmp 1) rfl _ _ rfl B4.out) ?_)
    | ((with_reducible refine at_ (op := .alloc 141) ?_); refine wpList_val rfl _ (ex_alloc 141 rfl _ A8.out) ?_))
  clear B3 B4 A8
  generalize (((w.alloc (.cells (hs.map VB).toArray 140)).alloc (.cells (ls.map VB).toArray 141)).alloc (.cells (f4.map VB).toArray 141)) = w3 at *
  have HM := Lib.hid hM
  have hM3 := hM.below bw
  have HG := Lib.hid hg
  clear hM hg
  go_loopw [16, 7] (fun i n wr => ∃ k : Nat, k ≤ M.length ∧ i = .int .i64 k ∧ n = .int .i64 ((cn1 M hs k).2.2 : Nat) ∧ BB wr 140 w.heap.size (cn1 M hs k).1 ∧ BB wr 141 (w.heap.size + 1) ls ∧ BB wr 141 (w.heap.size + 2) (cn1 M hs k).2.1 ∧ Below w.heap.size w wr ∧ w.heap.size + 3 ≤ wr.heap.size) (fun i _ _ => M.length - (Go.RowKit.intOf i).toNat)
  case atStart => exact ⟨0, Nat.zero_le _, rfl, rfl, b3, b4, b8, bw, by rw [SZ.out]; omega⟩
  case round =>
    obtain ⟨k, hk, rfl, rfl, c3, c4, c8, cb, cs⟩ := hrel
    clear b3 b4 b8 bw hM3
    by_cases hlt : k < M.length
    · have hMr := (HM.out.below cb)
      obtain ⟨ad, rfl, hlb, d0, d1, hok⟩ := hMr.at_ hlt
      obtain ⟨g1, g2, g3⟩ := HG.out _ (List.getElem_mem hlt)
      have hst := cn1_step hs hlt
      obtain ⟨e1, e2, e3⟩ := cn1_len M hh k
      generalize hMk : M[k] = a at *
      obtain ⟨p, hp⟩ : ∃ p : Nat, a.page = (p : Int) := ⟨a.page.toNat, by omega⟩
      rw [hp] at d0 g1 g2
      rw [hp, Int.toNat_natCast] at hst
      have HST := Lib.hid hst
      clear hst hMk
      generalize cn1 M hs k = S at *
      obtain ⟨hs', tch, n⟩ := S
      simp only at *
      have g3' : a.xs.length ≤ 64 := by omega
      have HG3 := Lib.hid g3
      clear g3
      have k1 : Keeps (fun _ => False) wr (wr.alloc (.cells #[.int .i64 (p : Int), .slice a.A a.xs.length a.c] 32)).drew := (Keeps.alloc _ _ _).trans (Keeps.drew _ _)
      have e10 : (wr.alloc (.cells #[.int .i64 (p : Int), .slice a.A a.xs.length a.c] 32)).drew.heap[wr.heap.size]? = some (.cells #[.int .i64 (p : Int), .slice a.A a.xs.length a.c] 32 (0, 0)) := heap_alloc_new wr _
      have bk1 := k1.toBelow w.heap.size (by omega) (fun _ h => h.elim)
      have f3 := c3.keep k1 (fun h => h)
      have f4' := c4.keep k1 (fun h => h)
      have f8 := c8.keep k1 (fun h => h)
      have brA : BR (wr.alloc (.cells #[.int .i64 (p : Int), .slice a.A a.xs.length a.c] 32)).drew (wr.alloc (.cells #[.int .i64 (p : Int), .slice a.A a.xs.length a.c] 32)).drew.heap.size a.A a.xs := (hok.br.below bk1).more (by have := k1.size; omega)
      have q0 : (wr.alloc (.cells #[.int .i64 (p : Int), .slice a.A a.xs.length a.c] 32)).drew.cell? ⟨wr.heap.size, 0, none⟩ = some (.int .i64 (p : Int)) := by rw [cell_of_row _ _ _ _ _ _ e10]; rfl
      have q1 : (wr.alloc (.cells #[.int .i64 (p : Int), .slice a.A a.xs.length a.c] 32)).drew.cell? ⟨wr.heap.size, 1, none⟩ = some (.slice a.A a.xs.length a.c) := by rw [cell_of_row _ _ _ _ _ _ e10]; rfl
      have t3 := f3.cell (k := p) (by omega)
      have z3 := f3.free p
      have bl := blank_any a.A a.xs a.c _ brA (by omega)
      have hq32 : (p : Int) / 32 = ((p / 32 : Nat) : Int) := by omega
      have HOK := Lib.hid hok
      have hpq : p / 32 < 4 := by omega
      have cb1 := cb.trans bk1
      have cs1 : w.heap.size + 3 < (wr.alloc (.cells #[.int .i64 (p : Int), .slice a.A a.xs.length a.c] 32)).drew.heap.size := by
        show w.heap.size + 3 < (wr.alloc _).heap.size
        rw [World.size_alloc]
        omega
      clear c3 c4 c8 hMr hok brA k1 bk1 cb
      go_wp2_with fail
      refine wp_region_still_tail 7 (by kernel_rfl) (by kernel_rfl) ?_
      simp only [List.take_succ_cons, List.take_zero, List.drop_succ_cons, List.drop_zero]
      change wpStill _ _ (wr.alloc (.cells #[.int .i64 (p : Int), .slice a.A a.xs.length a.c] 32)).drew (fun a' => wpList _ _ _ _ a' (wr.alloc (.cells #[.int .i64 (p : Int), .slice a.A a.xs.length a.c] 32)).drew) _ _
      clear d0 d1
      generalize (wr.alloc (.cells #[.int .i64 (p : Int), .slice a.A a.xs.length a.c] 32)).drew = W1 at *
      still_step
      still_step
      still_step
      still_step
      have hix : (p : Int) < 128 := g2
      still_call (bl.mono fun e w2 h => ⟨h.1, h.2.symm⟩)
      still_step
      still_step
      refine wpStill_nil ?_
      clear bl
      have s3 := f3.set p (!blankB a.xs)
      have s8 := f8.other (b' := w.heap.size) (k := p) (v := .bool (!blankB a.xs)) (by omega)
      have s4 := f4'.other (b' := w.heap.size) (k := p) (v := .bool (!blankB a.xs)) (by omega)
      have e10' := (Below.heap_setCell W1 ⟨w.heap.size, p, none⟩ (.bool (!blankB a.xs)) wr.heap.size (by show wr.heap.size ≠ w.heap.size; omega)).trans e10
      have cb2 := cb1.setCell (p := ⟨w.heap.size, p, none⟩) (Nat.le_refl _) (.bool (!blankB a.xs))
      have cs2 : w.heap.size + 3 < (W1.setCell ⟨w.heap.size, p, none⟩ (.bool (!blankB a.xs))).heap.size := by simpa [World.setCell] using cs1
      generalize hW2 : W1.setCell ⟨w.heap.size, p, none⟩ (.bool (!blankB a.xs)) = W2 at *
      have q0' : W2.cell? ⟨wr.heap.size, 0, none⟩ = some (.int .i64 (p : Int)) := by rw [cell_of_row _ _ _ _ _ _ e10']; rfl
      have t8 := s8.cell (k := p / 32) (by omega)
      have z8 := s8.free (p / 32)
      have r8 := s8.set (p / 32) true
      have r3 := s3.other (b' := w.heap.size + 2) (k := p / 32) (v := .bool true) (by omega)
      have r4 := s4.other (b' := w.heap.size + 2) (k := p / 32) (v := .bool true) (by omega)
      have e10'' := (Below.heap_setCell W2 ⟨w.heap.size + 2, p / 32, none⟩ (.bool true) wr.heap.size (by show wr.heap.size ≠ w.heap.size + 2; omega)).trans e10'
      have cb3 := cb2.setCell (p := ⟨w.heap.size + 2, p / 32, none⟩) (by show w.heap.size ≤ w.heap.size + 2; omega) (.bool true)
      have cs3 : w.heap.size + 3 < (W2.setCell ⟨w.heap.size + 2, p / 32, none⟩ (.bool true)).heap.size := by simpa [World.setCell] using cs2
      have q0'' : (W2.setCell ⟨w.heap.size + 2, p / 32, none⟩ (.bool true)).cell? ⟨wr.heap.size, 0, none⟩ = some (.int .i64 (p : Int)) := by rw [cell_of_row _ _ _ _ _ _ e10'']; rfl
      have t3'' := r3.cell (k := p) (by rw [List.length_set]; omega)
      rw [getD_setB _ (by omega)] at t3''
      generalize blankB a.xs = bb at *
      have hpn : p / 32 < 4 := hpq
      clear f3 f4' f8 e10 cb1 cs1 q0 q1 e10' s3 s4 s8 cb2 cs2 e10'' hpq
      generalize hj : p / 32 = j at *
      have HJ := Lib.hid hj
      clear hj
      have HR4 := Lib.hid r4
      have HR8 := Lib.hid r8
      have HR3 := Lib.hid r3
      clear r4 r8 r3
      cases bb
      · simp only [Bool.not_false] at hW2 t3'' 
        go_wp2_with fail
        go_roundw
        case rel => exact ⟨k + 1, by omega, by go_num, by rw [HST.out]; go_num, by rw [HST.out]; exact HR3.out, HR4.out, by rw [HST.out]; exact HR8.out, cb3, Nat.le_of_lt cs3⟩
        case measure => simp [Go.RowKit.intOf]; omega
      · simp only [Bool.not_true] at hW2 t3''
        go_wp2_with fail
        go_roundw
        case rel => exact ⟨k + 1, by omega, by go_num, by rw [HST.out]; rfl, by rw [HST.out]; exact HR3.out, HR4.out, by rw [HST.out]; exact HR8.out, cb3, Nat.le_of_lt cs3⟩
        case measure => simp [Go.RowKit.intOf]; omega
    · obtain rfl : k = M.length := by omega
      obtain ⟨e1, e2, e3⟩ := cn1_len M hh M.length
      have hCV : countV hs ls M = if M ≠ [] ∧ (cn2 (cn1 M hs M.length).1 (cn1 M hs M.length).2.1 ls (cn1 M hs M.length).2.2 4).2.1 = true then (cn2 (cn1 M hs M.length).1 (cn1 M hs M.length).2.1 ls (cn1 M hs M.length).2.2 4).2.2 + 1
        else (cn2 (cn1 M hs M.length).1 (cn1 M hs M.length).2.1 ls (cn1 M hs M.length).2.2 4).2.2 := rfl
      generalize cn1 M hs M.length = S at *
      obtain ⟨hs', tch, n⟩ := S
      simp only at *
      have HCV := Lib.hid hCV
      clear hCV HM
      go_wp2_with fail
      go_loopw [38, 7, 11, 12, 13] (fun i m sm _ _ wz => ∃ j : Nat, j ≤ 4 ∧ i = .int .i64 j ∧ m = .int .i64 ((cn2 hs' tch ls n j).2.2 : Nat) ∧ sm = .bool (cn2 hs' tch ls n j).2.1 ∧ BB wz 140 w.heap.size hs' ∧ BB wz 141 (w.heap.size + 1) (cn2 hs' tch ls n j).1 ∧ BB wz 141 (w.heap.size + 2) tch ∧ Below w.heap.size w wz) (fun i _ _ _ _ _ => 4 - (Go.RowKit.intOf i).toNat)
      case atStart => exact ⟨0, by omega, rfl, rfl, rfl, c3, c4, c8, cb⟩
      case round =>
        clear c3 c4 c8 cb cs
        obtain ⟨j, hj, rfl, rfl, rfl, c3, c4, c8, cb⟩ := hrel
        by_cases hjl : j < 4
        · obtain ⟨f1, f2⟩ := cn2_len hs' tch n hl4 j
          have hyes := cn2_yes hs' tch ls n j
          have hno := cn2_no hs' tch ls n j
          generalize cn2 hs' tch ls n j = T at *
          obtain ⟨ls', sm, m⟩ := T
          simp only at *
          have t8 := c8.cell (k := j) (by omega)
          have t4 := c4.cell (k := j) (by omega)
          have z4 := c4.free j
          cases ht : tch.getD j false with
          | false =>
            have HST := Lib.hid (hno ht)
            rw [ht] at t8
            clear hno hyes ht
            generalize ls'.getD j false = lj at *
            cases sm
            all_goals
              go_wp2_with fail
              go_roundw
              case rel => exact ⟨j + 1, by omega, by go_num, by rw [HST.out], by rw [HST.out]; rfl, c3, by rw [HST.out]; exact c4, c8, cb⟩
              case measure => simp [Go.RowKit.intOf]; omega
          | true =>
            have HST := Lib.hid (hyes ht)
            rw [ht] at t8
            clear hno hyes ht
            have d4 := c4.set j false
            have d3 := c3.other (b' := w.heap.size + 1) (k := j) (v := .bool false) (by omega)
            have d8 := c8.other (b' := w.heap.size + 1) (k := j) (v := .bool false) (by omega)
            have db := cb.setCell (p := ⟨w.heap.size + 1, j, none⟩) (by show w.heap.size ≤ w.heap.size + 1; omega) (.bool false)
            clear c3 c4 c8 cb
            go_wp2_with fail
            clear t8 t4 z4
            go_loopw [13] (fun k wz => ∃ q : Nat, q ≤ 32 ∧ k = .int .i64 q ∧ BB wz 140 w.heap.size hs' ∧ BB wz 141 (w.heap.size + 1) (ls'.set j (orTo hs' j q)) ∧ BB wz 141 (w.heap.size + 2) tch ∧ Below w.heap.size w wz) (fun k _ => 32 - (Go.RowKit.intOf k).toNat)
            case atStart => exact ⟨0, by omega, rfl, d3, d4, d8, db⟩
            case round =>
              clear d3 d4 d8 db
              obtain ⟨q, hq, rfl, c3, c4, c8, cb⟩ := hrel
              by_cases hql : q < 32
              · have t4 := c4.cell (k := j) (by rw [List.length_set]; omega)
                rw [getD_setB _ (by omega)] at t4
                have z4 := c4.free j
                have t3 := c3.cell (k := j * 32 + q) (by omega)
                have HOR := Lib.hid (orTo_succ hs' j q)
                have hss : ∀ b, BB (wr.setCell ⟨w.heap.size + 1, j, none⟩ (.bool b)) 141 (w.heap.size + 1) (ls'.set j b) := fun b => by
                  have := c4.set j b
                  rwa [List.set_set] at this
                have HSS := Lib.hid hss
                have d3 := fun b => Lib.hid (c3.other (b' := w.heap.size + 1) (k := j) (v := .bool b) (by omega))
                have d8 := fun b => Lib.hid (c8.other (b' := w.heap.size + 1) (k := j) (v := .bool b) (by omega))
                have db := fun b => Lib.hid (cb.setCell (p := ⟨w.heap.size + 1, j, none⟩) (by show w.heap.size ≤ w.heap.size + 1; omega) (.bool b))
                clear hss c3 c4 c8 cb
                generalize orTo hs' j q = o at *
                generalize hs'.getD (j * 32 + q) false = hb at *
                cases o
                all_goals
                  go_wp2_with fail
                  go_roundw
                  case rel => exact ⟨q + 1, by omega, by go_num, (d3 _).out, by rw [HOR.out]; exact HSS.out _, (d8 _).out, (db _).out⟩
                  case measure => simp [Go.RowKit.intOf]; omega
              · obtain rfl : q = 32 := by omega
                have t4 := c4.cell (k := j) (by rw [List.length_set]; omega)
                rw [getD_setB _ (by omega)] at t4
                generalize orTo hs' j 32 = o at *
                cases o
                all_goals
                  cases sm
                  all_goals
                    go_wp2_with fail
                    go_roundw
                    case rel => exact ⟨j + 1, by omega, by go_num, by rw [HST.out]; first | rfl | go_num, by rw [HST.out]; rfl, c3, by rw [HST.out]; exact c4, c8, cb⟩
                    case measure => simp [Go.RowKit.intOf]; omega
        · obtain rfl : j = 4 := by omega
          obtain ⟨f1, f2⟩ := cn2_len hs' tch n hl4 4
          generalize cn2 hs' tch ls n 4 = T at *
          obtain ⟨ls', sm, m⟩ := T
          simp only at *
          clear c3 c4 c8
          have hcv := HCV.out
          by_cases hM0 : M = []
          · have hx1 : decide (0 < M.length) = false := by rw [hM0]; rfl
            rw [if_neg (fun h => h.1 hM0)] at hcv
            have HC := Lib.hid hcv
            clear hcv HCV hM0
            go_wp2_with fail
            go_ret
            exact ⟨by rw [HC.out]; rfl, cb⟩
          · have hx1 : decide (0 < M.length) = true := by
              have : 0 < M.length := by
                cases M with
                | nil => exact absurd rfl hM0
                | cons x r => simp
              simpa using this
            cases sm
            · rw [if_neg (fun h => by cases h.2)] at hcv
              have HC := Lib.hid hcv
              clear hcv HCV hM0
              go_wp2_with fail
              go_ret
              exact ⟨by rw [HC.out]; rfl, cb⟩
            · rw [if_pos ⟨hM0, rfl⟩] at hcv
              have HC := Lib.hid hcv
              clear hcv HCV hM0
              go_wp2_with fail
              go_ret
              exact ⟨by rw [HC.out]; exact congrArg Ending.returned (by go_num), cb⟩
end Go.Proofs.YtacghpabjmnfiaaGreatDoor
