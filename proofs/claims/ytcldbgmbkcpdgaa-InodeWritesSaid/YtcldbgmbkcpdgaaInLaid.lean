/-
  InLaid
-/
import Derived.Test.YtcldbgmbkcpdgaaInArr
import Derived.Test.YtcldbgmbkcpdgaaGB
import Derived.Test.YtcldbgmbkcpdgaaGLe
namespace Go.Proofs.Ytcldbgmbkcpdgaa.Ino
open Go.RowKit Ex
set_option linter.unusedSimpArgs false
set_option linter.unusedVariables false

/-- What stands in the array behind each of laid's steps. -/
def lay0 (x : IN) : List UInt8 := UInt8.ofNat x.name.length :: List.replicate 63 0
def lay1 (x : IN) : List UInt8 := splice (lay0 x) 1 x.name
def two (n : Nat) : List UInt8 := [byteN n 0, byteN n 1]
def lay2 (x : IN) : List UInt8 := splice (lay1 x) 16 (two x.size.toNat)
theorem splice_get (xs ys : List UInt8) (o i : Nat) (h : o + ys.length ≤ xs.length) : (splice xs o ys).getD i 0 = if o ≤ i ∧ i < o + ys.length then ys.getD (i - o) 0 else xs.getD i 0 := by
  unfold splice
  rw [List.getD_eq_getElem?_getD, List.getD_eq_getElem?_getD, List.getD_eq_getElem?_getD, List.getElem?_append, List.getElem?_append]
  simp only [List.length_take, List.getElem?_take, List.getElem?_drop]
  by_cases h1 : i < o
  · rw [if_pos (by omega), if_pos h1, if_neg (by omega)]
  · rw [if_neg (by omega)]
    by_cases h2 : i < o + ys.length
    · rw [if_pos (by omega), if_pos (by omega), show i - min o xs.length = i - o by omega]
    · rw [if_neg (by omega), if_neg (by omega), show o + ys.length + (i - min o xs.length - ys.length) = i by omega]
theorem splice_len (xs ys : List UInt8) (o : Nat) (h : o + ys.length ≤ xs.length) : (splice xs o ys).length = xs.length := by
  unfold splice
  simp
  omega
theorem lay0_len (x : IN) : (lay0 x).length = 64 := by simp [lay0]
theorem lay1_len (x : IN) (h : x.name.length ≤ 15) : (lay1 x).length = 64 := by
  unfold lay1
  rw [splice_len _ _ _ (by rw [lay0_len]; omega), lay0_len]
theorem lay2_len (x : IN) (h : x.name.length ≤ 15) : (lay2 x).length = 64 := by
  unfold lay2
  rw [splice_len _ _ _ (by rw [lay1_len x h]; simp [two]), lay1_len x h]
theorem lay2_enc (x : IN) (h : x.name.length ≤ 15) : lay2 x = encL { x with ext := [] } := by
  refine list64 (lay2_len x h) (encL_len _) fun i hi => ?_
  rw [encL_get _ _ hi]
  unfold lay2
  rw [splice_get _ _ _ _ (by rw [lay1_len x h]; simp [two])]
  unfold lay1
  rw [splice_get _ _ _ _ (by rw [lay0_len]; omega)]
  unfold encF
  have e2 : (two x.size.toNat).length = 2 := rfl
  rw [e2]
  have er : ∀ j, (List.replicate 63 (0 : UInt8)).getD j 0 = 0 := by
    intro j
    rw [List.getD_eq_getElem?_getD, List.getElem?_replicate]
    split <;> rfl
  by_cases h0 : i = 0
  · subst h0
    rw [if_neg (by omega), if_neg (by omega), if_pos rfl]
    rfl
  rw [if_neg h0]
  obtain ⟨j, rfl⟩ : ∃ j, i = j + 1 := ⟨i - 1, by omega⟩
  have el : (lay0 x).getD (j + 1) 0 = 0 := by unfold lay0; rw [List.getD_cons_succ, er]
  by_cases h1 : j + 1 < 16
  · rw [if_neg (by omega), if_pos h1, el]
    split
    · rfl
    · rw [List.getD_eq_getElem?_getD, List.getElem?_eq_none (show x.name.length ≤ j + 1 - 1 by omega)]; rfl
  rw [if_neg h1]
  by_cases h2 : j + 1 < 18
  · rw [if_pos (by omega), if_pos h2]
    have : j + 1 = 16 ∨ j + 1 = 17 := by omega
    rcases this with e | e <;> rw [e] <;> rfl
  · rw [if_neg (by omega), if_neg (by omega), if_neg h2, el]
    unfold extF
    split <;> rfl

/-- What the loop over the list keeps. -/
def LaidRel (w : World) (x : IN) (wr : World) (i : Value) : Prop := ∃ k : Nat, i = .int .i64 (k : Int) ∧ k ≤ x.ext.length ∧ wr.heap[w.heap.size + 1 + 1]? = some (.cells ((encL { x with ext := x.ext.take k }).map B8).toArray 49 (0, 0)) ∧ wr.heap[w.heap.size + 1]? = some (.cells (zr64.map B8).toArray 49 (0, 0)) ∧ w.heap.size + 3 ≤ wr.heap.size ∧ Below w.heap.size w wr
set_option maxRecDepth 20000 in
set_option maxHeartbeats 1000000 in
theorem laid_any (x : IN) (A : Option Addr) (c : Nat) (w : World) (hx : InOk w x A) (hc : chkB x = true) :
    Calls Try.prog 20 #[ag x A c] w (Gives w (ag8 (encL x))) := by
  obtain ⟨⟨hn1, hn2⟩, _, ⟨hs1, hs2⟩, hok, _⟩ := chk_parts hc
  have hcv : IntKind.u8.wrap (x.name.length : Int) = ((UInt8.ofNat x.name.length).toNat : Int) := by
    rw [UInt8.toNat_ofNat']
    simp [IntKind.wrap, IntKind.bits, IntKind.signed]
  obtain ⟨wA, hwA⟩ : ∃ wA, wA = w.alloc (.cells #[St x.name, .int .i64 x.size, .slice A x.ext.length c] 28) := ⟨_, rfl⟩
  have a0 : wA.heap[w.heap.size]? = some (.cells #[St x.name, .int .i64 x.size, .slice A x.ext.length c] 28 (0, 0)) := by rw [hwA]; exact heap_alloc_new w _
  have bA : Below w.heap.size w wA := by rw [hwA]; exact (Below.refl _ _).alloc (Nat.le_refl _) _
  have sA : wA.heap.size = w.heap.size + 1 := by rw [hwA, World.size_alloc]
  obtain ⟨wB, hwB⟩ : ∃ wB, wB = wA.alloc (.cells (zr64.map B8).toArray 49) := ⟨_, rfl⟩
  have b0 : wB.heap[w.heap.size]? = some (.cells #[St x.name, .int .i64 x.size, .slice A x.ext.length c] 28 (0, 0)) := by rw [hwB]; exact (Below.heap_alloc _ _ _ (by omega)).trans a0
  have b1 : wB.heap[w.heap.size + 1]? = some (.cells (zr64.map B8).toArray 49 (0, 0)) := by rw [hwB, ← sA]; exact heap_alloc_new wA _
  have bB : Below w.heap.size w wB := by rw [hwB]; exact bA.alloc bA.size _
  have sB : wB.heap.size = w.heap.size + 1 + 1 := by rw [hwB, World.size_alloc, sA]
  obtain ⟨wC, hwC⟩ : ∃ wC, wC = wB.alloc (.cells (zr64.map B8).toArray 49) := ⟨_, rfl⟩
  have c0 : wC.heap[w.heap.size]? = some (.cells #[St x.name, .int .i64 x.size, .slice A x.ext.length c] 28 (0, 0)) := by rw [hwC]; exact (Below.heap_alloc _ _ _ (by omega)).trans b0
  have c1 : wC.heap[w.heap.size + 1]? = some (.cells (zr64.map B8).toArray 49 (0, 0)) := by rw [hwC]; exact (Below.heap_alloc _ _ _ (by omega)).trans b1
  have c2 : wC.heap[w.heap.size + 1 + 1]? = some (.cells (zr64.map B8).toArray 49 (0, 0)) := by rw [hwC, ← sB]; exact heap_alloc_new wB _
  have bC : Below w.heap.size w wC := by rw [hwC]; exact bB.alloc bB.size _
  have sC : wC.heap.size = w.heap.size + 3 := by rw [hwC, World.size_alloc, sB]
  have st := store_r (w := wC) (b := w.heap.size + 1 + 1) (o := 0) (xs := lay0 x) (lay0_len x) (there_b c2 0 64 (by rw [zr64_len]; omega))
  obtain ⟨d2, kd⟩ := set_block (ys := lay0 x) 0 c2 (by rw [zr64_len, lay0_len]; omega)
  rw [splice_whole _ _ (by rw [zr64_len, lay0_len])] at d2
  generalize wC.setCells (w.heap.size + 1 + 1) 0 ((lay0 x).map B8) = w3 at st d2 kd
  have d0 := (kd.block _ (by omega) (by omega)).trans c0
  have d1 := (kd.block _ (by omega) (by omega)).trans c1
  have bD : Below w.heap.size w w3 := bC.trans (kd.toBelow _ (by omega) (by intro k hk; omega))
  have sD : w.heap.size + 3 ≤ w3.heap.size := by rw [← sC]; exact kd.size
  have hbu : ∀ W, (Instr.build 49 #[(0, B8 (UInt8.ofNat x.name.length))]).run Try.prog W = .ok (ag8 (lay0 x)) W := fun W => build_r W _
  have al2 := alloc_r wA
  have al3 := alloc_r wB
  rw [sA] at al2
  rw [sB] at al3
  rw [hwC, hwB, hwA] at st
  rw [hwB, hwA] at al3
  rw [hwA] at al2
  have AL2 := Lib.hid al2
  have AL3 := Lib.hid al3
  have e8 : ∀ W : World, IntKind.u8.wrap (x.name.length : Int) = ((UInt8.ofNat x.name.length).toNat : Int) := fun _ => hcv
  have ST := Lib.hid st
  have BU := Lib.hid hbu
  have LX := Lib.hid hx
  have BD := Lib.hid bD
  have D0 := Lib.hid d0
  have D1 := Lib.hid d1
  have D2 := Lib.hid d2
  have hxe : x.ext.length ≤ 23 := ok_few hok
  have HOK := Lib.hid hok
  clear al2 al3 hx hc hwA hwB hwC a0 bA sA b0 b1 bB sB c0 c1 c2 bC sC st kd d0 d1 d2 bD hbu hok e8
  go_enter Try.func20, Try.ntmps20
  go_wp2_with (first
    | ((with_reducible refine at_ (op := .alloc 49) (d := some 2) ?_); refine wpList_val rfl _ (ex_alloc 49 rfl _ AL2.out) ?_)
    | ((with_reducible refine at_ (op := .build 49 #[(0, .tmp 10)]) ?_); refine wpList_val rfl _ (ex_build1 49 (.tmp 10) rfl _ _ rfl (BU.out _)) ?_)
    | ((with_reducible refine at_ (op := .alloc 49) (d := some 3) ?_); refine wpList_val rfl _ (ex_alloc 49 rfl _ AL3.out) ?_)
    | ((with_reducible refine at_ (op := .store 49 (.tmp 3) (.tmp 11)) ?_); refine wpList_unit rfl (ex_store 49 (.tmp 3) (.tmp 11) rfl _ _ rfl rfl ST.out) ?_)
    | fail)
  simp only [Act.put, List.setIfInBounds_toArray, List.set_cons_zero, List.set_cons_succ]
  refine wp_region_still_tail 3 (by kernel_rfl) (by kernel_rfl) ?_
  simp only [List.take_succ_cons, List.take_zero, List.drop_succ_cons, List.drop_zero]
  change wpStill _ _ w3.drew (fun a' => wpList _ _ _ _ a' w3.drew) _ _
  have e0 : w3.drew.heap[w.heap.size]? = _ := D0.out
  have e2 : w3.drew.heap[w.heap.size + 1 + 1]? = _ := D2.out
  have e1 : w3.drew.heap[w.heap.size + 1]? = _ := D1.out
  have be : Below w.heap.size w w3.drew := BD.out.drew
  have se : w.heap.size + 3 ≤ w3.drew.heap.size := sD
  generalize w3.drew = w4 at *
  have q0 : w4.cell? ⟨w.heap.size, 0, none⟩ = some (St x.name) := by rw [cell_of_row _ _ _ _ _ _ e0]; rfl
  have cp := run_copy_str (P := Try.prog) w4 29 9 3 5 Try.underlying29 (by kernel_rfl) (w.heap.size + 1 + 1) 1 15 63 x.name hn2 (there_b e2 1 x.name.length (by rw [lay0_len]; omega))
  obtain ⟨f2, kf⟩ := set_block (ys := x.name) 1 e2 (by rw [lay0_len]; omega)
  generalize w4.setCells (w.heap.size + 1 + 1) 1 (x.name.map B8) = w5 at cp f2 kf
  have f0 := (kf.block _ (by omega) (by omega)).trans e0
  have f1 := (kf.block _ (by omega) (by omega)).trans e1
  have bf := be.trans (kf.toBelow _ (by omega) (by intro k hk; omega))
  have sf : w.heap.size + 3 ≤ w5.heap.size := by have := kf.size; omega
  have CP := Lib.hid cp
  have F0 := Lib.hid f0
  have F1 := Lib.hid f1
  have F2 := Lib.hid f2
  have BF := Lib.hid bf
  clear cp f0 f1 f2 bf kf e0 e1 e2 be se D0 D1 D2 BD ST AL2 AL3 BU
  still_step
  still_step
  still_step
  refine wpStill_nil ?_
  have cp := CP.out
  clear CP
  go_wp2_with fail
  clear cp
  refine wp_region_held (S := fun W => Below (w.heap.size + 1 + 1) w5 W) (by kernel_rfl) ?_
  change wpAnyH _ _ _ _ _ _ _ _ w5.drew
  have hS : Below (w.heap.size + 1 + 1) w5 w5.drew := (Below.refl _ _).drew
  have p0 : w5.cell? ⟨w.heap.size, 1, none⟩ = some (.int .i64 x.size) := by rw [cell_of_row _ _ _ _ _ _ F0.out]; rfl
  have h3 : w.heap.size < w.heap.size + 1 + 1 := by omega
  have hwr : IntKind.u64.wrap x.size = max x.size 0 := by simp [IntKind.wrap, IntKind.bits, IntKind.signed]; omega
  have s6 : w.heap.size + 3 ≤ w5.drew.heap.size := sf
  have G6 : Hid (w5.drew.heap[w.heap.size + 1 + 1]? = _) := Lib.hid F2.out
  generalize w5.drew = w6 at *
  refine wpAnyH_take (oi := ⟨_, _, _, _, _, _⟩) (i := 0) (v := .slice (some ⟨w.heap.size + 1 + 1, 16, none⟩) 2 48) rfl (by kernel_rfl) (by kernel_rfl) (by kernel_rfl) (fun _ _ _ h => h) (Or.inl ⟨by rfl, fun _ _ => by go_simp⟩) hS ?_
  try simp only [Act.put, List.setIfInBounds_toArray, List.set_cons_zero, List.set_cons_succ]
  refine wpAnyH_take (oi := ⟨_, _, _, _, _, _⟩) (i := 2) (v := .pointer (some ⟨w.heap.size, 1, none⟩)) rfl (by kernel_rfl) (by kernel_rfl) (by kernel_rfl) (fun _ _ _ h => h) (Or.inl ⟨by rfl, fun _ _ => by go_simp⟩) hS ?_
  try simp only [Act.put, List.setIfInBounds_toArray, List.set_cons_zero, List.set_cons_succ]
  refine wpAnyH_take (oi := ⟨_, _, _, _, _, _⟩) (i := 3) (v := .int .i64 x.size) rfl (by kernel_rfl) (by kernel_rfl) (by kernel_rfl) (fun _ _ _ h => h) (yif_load rfl 3 (.tmp 18) rfl _ _ rfl fun w h => load_one aggI3 ((Below.cell (p := ⟨_, 1, none⟩) h h3).trans p0)) hS ?_
  try simp only [Act.put, List.setIfInBounds_toArray, List.set_cons_zero, List.set_cons_succ]
  refine wpAnyH_take (oi := ⟨_, _, _, _, _, _⟩) (i := 4) (v := .int .u64 (x.size.toNat : Nat)) rfl (by kernel_rfl) (by kernel_rfl) (by kernel_rfl) (fun _ _ _ h => h) (Or.inl ⟨by rfl, fun _ _ => by go_simp⟩) hS ?_
  try simp only [Act.put, List.setIfInBounds_toArray, List.set_cons_zero, List.set_cons_succ]
  refine wpAnyH_all (rs := [1]) (by kernel_rfl) (by simp) fun i hi => ?_
  obtain rfl : i = 1 := by simpa using hi
  have hmk : (Instr.makeSlice 29 (.int .i64 2) (.int .i64 2)).run Try.prog w6 = .ok (.slice (some ⟨w6.heap.size, 0, none⟩) 2 2) (w6.alloc (.cells (madeCells #[.int .u8 0] 2) 5)) := make8 2 (by decide) w6
  refine op_run (om := ⟨_, _, _, _, _, _⟩) (u := .slice (some ⟨w6.heap.size, 0, none⟩) 2 2) (w' := w6.alloc (.cells (madeCells #[.int .u8 0] 2) 5)) rfl rfl (by go_simp) _ _ rfl rfl ?_
  rintro u W7 ⟨rfl, rfl⟩
  have r7 := Row8.made w6 2 5
  have hS7 : Below (w.heap.size + 1 + 1) w5 (w6.alloc (.cells (madeCells #[.int .u8 0] 2) 5)) := hS.alloc (by omega) _
  have G7 : Hid ((w6.alloc (.cells (madeCells #[.int .u8 0] 2) 5)).heap[w.heap.size + 1 + 1]? = _) := Lib.hid ((Below.heap_alloc _ _ _ (by omega)).trans G6.out)
  have hz7 : w6.heap.size < (w6.alloc (.cells (madeCells #[.int .u8 0] 2) 5)).heap.size := by rw [World.size_alloc]; omega
  clear hmk hS hi G6
  generalize w6.alloc (.cells (madeCells #[.int .u8 0] 2) 5) = w7 at *
  have hS : Below (w.heap.size + 1 + 1) w5 w7 := hS7
  refine ⟨hS, ?_⟩
  try simp only [Act.put, List.setIfInBounds_toArray, List.set_cons_zero, List.set_cons_succ]
  have hpn := lePutNum_any (some ⟨w6.heap.size, 0, none⟩) (List.replicate 2 0) 2 0 2 x.size.toNat w7 r7.br (by decide) (by decide)
  rw [show putL (List.replicate 2 0) 0 x.size.toNat (clamp 2 8).toNat = two x.size.toNat from rfl] at hpn
  refine wpAnyH_all (rs := [5]) (by kernel_rfl) (by simp) fun i hi => ?_
  obtain rfl : i = 5 := by simpa using hi
  refine op_call (om := ⟨_, _, _, _, _, _⟩) (fn := 28) (args := #[.slice (some ⟨w6.heap.size, 0, none⟩) 2 2, .int .i64 0, .int .i64 2, .int .u64 (x.size.toNat : Nat)]) (R := fun u W => ∃ R c2, u = .slice R 2 c2 ∧ BR W W.heap.size R (two x.size.toNat) ∧ Below w7.heap.size w7 W) rfl rfl (by go_simp)
    (hpn.mono fun e W ⟨R, c2, he, hr, hb⟩ => ⟨_, he, R, c2, rfl, hr, hb⟩) _ _ rfl rfl ?_
  rintro u w8 ⟨R, c2, rfl, hr8, hb8⟩
  have hS : Below (w.heap.size + 1 + 1) w5 w8 := Below.trans hS (hb8.mono (by omega))
  have s8 : w.heap.size + 3 ≤ w8.heap.size := by have := hb8.size; omega
  have G8 := Lib.hid ((hb8.block _ (by omega)).trans G7.out)
  clear hb8 hi hpn r7 hS7 hz7 G7
  refine ⟨hS, ?_⟩
  try simp only [Act.put, List.setIfInBounds_toArray, List.set_cons_zero, List.set_cons_succ]
  refine wpAnyH_all (rs := [6]) (by kernel_rfl) (by simp) fun i hi => ?_
  obtain rfl : i = 6 := by simpa using hi
  obtain ⟨w9, cp, r9, k9⟩ := run_copy8 (P := Try.prog) w8 29 29 3 5 49 Try.underlying29 (by kernel_rfl) (w.heap.size + 1 + 1) 16 2 48 (some ⟨w.heap.size + 1 + 1, 16, none⟩) (lay1 x) (two x.size.toNat) R c2 _ (fun _ => rfl) (Row8.of_block G8.out) hr8 (Nat.le_refl 2) (by rw [lay1_len x hn2]; show 16 + 2 ≤ 64; decide)
  have cp' : (Builtin.copy_ #[29, 29] 3 #[.slice (some ⟨w.heap.size + 1 + 1, 16, none⟩) 2 48, .slice R 2 c2]).run Try.prog w8 = .ok (.int .i64 2) w9 := cp
  have g9 := r9.block
  refine op_run (om := ⟨_, _, _, _, _, _⟩) (u := .int .i64 2) (w' := w9) rfl rfl (by go_simp) _ _ rfl rfl ?_
  rintro u W9 ⟨rfl, rfl⟩
  have hS : Below (w.heap.size + 1 + 1) w5 W9 := hS.trans ⟨k9.os, k9.tape, k9.output, k9.size, fun k hk => k9.block k (by omega) (fun e => by injection e with e; omega)⟩
  have s9 : w.heap.size + 3 ≤ W9.heap.size := by have := k9.size; omega
  clear cp cp' hi
  refine ⟨hS, ?_⟩
  try simp only [Act.put, List.setIfInBounds_toArray, List.set_cons_zero, List.set_cons_succ]
  refine wpAnyH_done (by kernel_rfl) ?_ _
  try simp only [Act.put, List.setIfInBounds_toArray, List.set_cons_zero, List.set_cons_succ]
  have g9' : W9.heap[w.heap.size + 1 + 1]? = some (.cells ((encL { x with ext := [] }).map B8).toArray 49 (0, 0)) := by
    rw [← lay2_enc x hn2]; exact g9
  have f9 := (hS.block _ (by omega)).trans F0.out
  have f9' := (hS.block _ (by omega)).trans F1.out
  have b9 := BF.out.trans (hS.mono (by omega))
  have q2 : W9.cell? ⟨w.heap.size, 2, none⟩ = some (.slice A x.ext.length c) := by rw [cell_of_row _ _ _ _ _ _ f9]; rfl
  have XR0 := Lib.hid (LX.out.xr.below b9)
  have B9 := Lib.hid b9
  have G9 := Lib.hid g9'
  have H9 := Lib.hid f9'
  clear g9 g9' r9 k9 G8 F0 F1 F2 BF hS f9 f9' b9 p0 hr8
  go_wp2_with fail
  go_loopw [26, 4, 5, 6] (fun i _ _ _ wr => LaidRel w x wr i) (fun i _ _ _ _ => x.ext.length - (intOf i).toNat)
  case atStart => exact ⟨0, rfl, by omega, by rw [List.take_zero]; exact G9.out, H9.out, s9, B9.out⟩
  case round =>
    obtain ⟨k, rfl, hk, hg2, hg1, hsz, hb⟩ := hrel
    by_cases hlt : k < x.ext.length
    · obtain ⟨ad, rfl, hlb, d0, d1, hxo⟩ := (LX.out.xr.below hb).at_ hlt
      have hen := enc_more { x with ext := x.ext.take k } k x.ext[k] (x.ext.take k) (by omega) (by simp; omega) rfl
      have hsm := ok_small HOK.out _ (List.getElem_mem hlt)
      have htk : x.ext.take k ++ [x.ext[k]] = x.ext.take (k + 1) := (List.take_succ_eq_append_getElem hlt).symm
      rw [htk] at hen
      generalize x.ext[k] = e at *
      obtain ⟨es, en⟩ := e
      simp only at d0 d1 hsm hen
      have b1 := hb.alloc (by omega) (.cells #[.int .i64 es, .int .i64 en] 47)
      have g1 := (Below.heap_alloc wr (.cells #[.int .i64 es, .int .i64 en] 47) (w.heap.size + 1) (by omega)).trans hg1
      have g2 := (Below.heap_alloc wr (.cells #[.int .i64 es, .int .i64 en] 47) (w.heap.size + 1 + 1) (by omega)).trans hg2
      have hat : (wr.alloc (.cells #[.int .i64 es, .int .i64 en] 47)).heap[wr.heap.size]? = some (.cells #[.int .i64 es, .int .i64 en] 47 (0, 0)) := heap_alloc_new wr _
      have hs1 : w.heap.size + 3 ≤ (wr.alloc (.cells #[.int .i64 es, .int .i64 en] 47)).heap.size := by rw [World.size_alloc]; omega
      have HS1 := Lib.hid hs1
      have HB1 := Lib.hid b1
      have HG1 := Lib.hid g1
      have HG2 := Lib.hid g2
      have HAT := Lib.hid hat
      have HEN := Lib.hid hen
      have HTK := Lib.hid htk
      clear b1 g1 g2 hat hen htk hg2 hg1 hb hs1 G9 H9 XR0 B9
      have ew1 : IntKind.i64.wrap ((k : Int) * 2) = (k : Int) * 2 := by rw [IntKind.wrap_i64]; omega
      obtain ⟨K, hK⟩ : ∃ K : Nat, K = 18 + 2 * k := ⟨_, rfl⟩
      have ew2 : IntKind.i64.wrap (18 + (k : Int) * 2) = (K : Int) := by rw [IntKind.wrap_i64]; omega
      have ew3 : IntKind.i64.wrap ((K : Int) + 1) = ((K + 1 : Nat) : Int) := by rw [IntKind.wrap_i64]; omega
      have ex1 : IntKind.u8.wrap es = ((u8 es).toNat : Int) := by rw [u8_nat (by omega)]; simp [IntKind.wrap, IntKind.bits, IntKind.signed]; omega
      have ex2 : IntKind.u8.wrap en = ((u8 en).toNat : Int) := by rw [u8_nat (by omega)]; simp [IntKind.wrap, IntKind.bits, IntKind.signed]; omega
      have hK1 : (K : Int) < 64 := by omega
      have hK2 : ((K + 1 : Nat) : Int) < 64 := by omega
      have HK := Lib.hid hK
      clear hK
      go_wp2_with fail
      have hne : wr.heap.size ≠ w.heap.size + 1 + 1 := by omega
      have p0 : (wr.alloc (.cells #[.int .i64 es, .int .i64 en] 47)).drew.cell? ⟨wr.heap.size, 0, none⟩ = some (.int .i64 es) := by rw [cell_of_row _ _ _ _ _ _ (show (wr.alloc (.cells #[.int .i64 es, .int .i64 en] 47)).drew.heap[wr.heap.size]? = _ from HAT.out)]; rfl
      have p1 : (wr.alloc (.cells #[.int .i64 es, .int .i64 en] 47)).drew.cell? ⟨wr.heap.size, 1, none⟩ = some (.int .i64 en) := by rw [cell_of_row _ _ _ _ _ _ (show (wr.alloc (.cells #[.int .i64 es, .int .i64 en] 47)).drew.heap[wr.heap.size]? = _ from HAT.out)]; rfl
      have HZ2 : Hid ((wr.alloc (.cells #[.int .i64 es, .int .i64 en] 47)).drew.heap[w.heap.size + 1 + 1]? = _) := Lib.hid HG2.out
      have HZ1 : Hid ((wr.alloc (.cells #[.int .i64 es, .int .i64 en] 47)).drew.heap[w.heap.size + 1]? = _) := Lib.hid HG1.out
      have HZB := Lib.hid HB1.out.drew
      have HZS : Hid (w.heap.size + 3 ≤ (wr.alloc (.cells #[.int .i64 es, .int .i64 en] 47)).drew.heap.size) := Lib.hid HS1.out
      clear HAT HG1 HG2 HB1 HS1 d0 d1
      refine wp_region_held (S := fun W => W.cell? ⟨wr.heap.size, 0, none⟩ = some (.int .i64 es) ∧ W.cell? ⟨wr.heap.size, 1, none⟩ = some (.int .i64 en)) (by kernel_rfl) ?_
      change wpAnyH _ _ _ _ _ _ _ _ (wr.alloc (.cells #[.int .i64 es, .int .i64 en] 47)).drew
      generalize (wr.alloc (.cells #[.int .i64 es, .int .i64 en] 47)).drew = w2 at *
      have hS := And.intro p0 p1
      have hK := HK.out
      have hen' := HEN.out
      rw [show 19 + 2 * k = K + 1 by omega, show 18 + 2 * k = K by omega] at hen'
      have HEN2 := Lib.hid hen'
      clear hK hen' HEN
      refine wpAnyH_take (oi := ⟨_, _, _, _, _, _⟩) (i := 0) (v := .int .i64 (K : Int)) rfl (by kernel_rfl) (by kernel_rfl) (by kernel_rfl) (fun _ _ _ h => h) (Or.inl ⟨by rfl, fun _ _ => rfl⟩) hS ?_
      try simp only [Act.put, List.setIfInBounds_toArray, List.set_cons_zero, List.set_cons_succ]
      refine wpAnyH_take (oi := ⟨_, _, _, _, _, _⟩) (i := 1) (v := .int .i64 (K : Int)) rfl (by kernel_rfl) (by kernel_rfl) (by kernel_rfl) (fun _ _ _ h => h) (Or.inl ⟨by rfl, fun _ _ => rfl⟩) hS ?_
      try simp only [Act.put, List.setIfInBounds_toArray, List.set_cons_zero, List.set_cons_succ]
      refine wpAnyH_take (oi := ⟨_, _, _, _, _, _⟩) (i := 2) (v := .int .i64 ((K + 1 : Nat) : Int)) rfl (by kernel_rfl) (by kernel_rfl) (by kernel_rfl) (fun _ _ _ h => h) (Or.inl ⟨by rfl, fun _ _ => by go_simp⟩) hS ?_
      try simp only [Act.put, List.setIfInBounds_toArray, List.set_cons_zero, List.set_cons_succ]
      refine wpAnyH_take (oi := ⟨_, _, _, _, _, _⟩) (i := 3) (v := .pointer (some ⟨wr.heap.size, 0, none⟩)) rfl (by kernel_rfl) (by kernel_rfl) (by kernel_rfl) (fun _ _ _ h => h) (Or.inl ⟨by rfl, fun _ _ => by go_simp⟩) hS ?_
      try simp only [Act.put, List.setIfInBounds_toArray, List.set_cons_zero, List.set_cons_succ]
      refine wpAnyH_take (oi := ⟨_, _, _, _, _, _⟩) (i := 4) (v := .int .i64 es) rfl (by kernel_rfl) (by kernel_rfl) (by kernel_rfl) (fun _ _ _ h => h) (yif_load rfl 3 (.tmp 37) rfl _ _ rfl fun w h => load_one aggI3 h.1) hS ?_
      try simp only [Act.put, List.setIfInBounds_toArray, List.set_cons_zero, List.set_cons_succ]
      refine wpAnyH_take (oi := ⟨_, _, _, _, _, _⟩) (i := 5) (v := B8 (u8 es)) rfl (by kernel_rfl) (by kernel_rfl) (by kernel_rfl) (fun _ _ _ h => h) (Or.inl ⟨by rfl, fun _ _ => by go_simp⟩) hS ?_
      try simp only [Act.put, List.setIfInBounds_toArray, List.set_cons_zero, List.set_cons_succ]
      refine wpAnyH_take (oi := ⟨_, _, _, _, _, _⟩) (i := 6) (v := .pointer (some ⟨wr.heap.size, 1, none⟩)) rfl (by kernel_rfl) (by kernel_rfl) (by kernel_rfl) (fun _ _ _ h => h) (Or.inl ⟨by rfl, fun _ _ => by go_simp⟩) hS ?_
      try simp only [Act.put, List.setIfInBounds_toArray, List.set_cons_zero, List.set_cons_succ]
      refine wpAnyH_take (oi := ⟨_, _, _, _, _, _⟩) (i := 7) (v := .int .i64 en) rfl (by kernel_rfl) (by kernel_rfl) (by kernel_rfl) (fun _ _ _ h => h) (yif_load rfl 3 (.tmp 40) rfl _ _ rfl fun w h => load_one aggI3 h.2) hS ?_
      try simp only [Act.put, List.setIfInBounds_toArray, List.set_cons_zero, List.set_cons_succ]
      refine wpAnyH_take (oi := ⟨_, _, _, _, _, _⟩) (i := 8) (v := B8 (u8 en)) rfl (by kernel_rfl) (by kernel_rfl) (by kernel_rfl) (fun _ _ _ h => h) (Or.inl ⟨by rfl, fun _ _ => by go_simp⟩) hS ?_
      try simp only [Act.put, List.setIfInBounds_toArray, List.set_cons_zero, List.set_cons_succ]
      refine wpAnyH_take (oi := ⟨_, _, _, _, _, _⟩) (i := 9) (v := .pointer (some ⟨w.heap.size + 1 + 1, K, none⟩)) rfl (by kernel_rfl) (by kernel_rfl) (by kernel_rfl) (fun _ _ _ h => h) (Or.inl ⟨by rfl, fun _ _ => by go_simp⟩) hS ?_
      try simp only [Act.put, List.setIfInBounds_toArray, List.set_cons_zero, List.set_cons_succ]
      have r2 := Row8.of_block HZ2.out
      have kc0 := r2.cell_ (k := K) (by rw [encL_len]; omega)
      have kf0 := r2.free K
      have kc1 := r2.cell_ (k := K + 1) (by rw [encL_len]; omega)
      refine wpAnyH_all (rs := [10]) (by kernel_rfl) (by simp) fun i hi => ?_
      obtain rfl : i = 10 := by simpa using hi
      refine wpOp_skip (om := ⟨_, _, _, _, _, _⟩) (w' := w2.setCell ⟨w.heap.size + 1 + 1, K, none⟩ (B8 (u8 es))) rfl rfl (by go_simp) ?_
      have r3 := r2.set_ K (u8 es)
      have z3 : (w2.setCell ⟨w.heap.size + 1 + 1, K, none⟩ (B8 (u8 es))).heap[w.heap.size + 1]? = _ := (Below.heap_setCell _ _ _ _ (by simp)).trans HZ1.out
      have zb3 := HZB.out.setCell (p := ⟨w.heap.size + 1 + 1, K, none⟩) (by show _ ≤ w.heap.size + 1 + 1; omega) (B8 (u8 es))
      have zs3 : w.heap.size + 3 ≤ (w2.setCell ⟨w.heap.size + 1 + 1, K, none⟩ (B8 (u8 es))).heap.size := by rw [World.size_setCell]; exact HZS.out
      have hS3 : (w2.setCell ⟨w.heap.size + 1 + 1, K, none⟩ (B8 (u8 es))).cell? ⟨wr.heap.size, 0, none⟩ = some (.int .i64 es) ∧ (w2.setCell ⟨w.heap.size + 1 + 1, K, none⟩ (B8 (u8 es))).cell? ⟨wr.heap.size, 1, none⟩ = some (.int .i64 en) := by
        refine ⟨?_, ?_⟩
        · rw [World.cell?_setCell_other _ _ _ _ (by simp [hne])]; exact hS.1
        · rw [World.cell?_setCell_other _ _ _ _ (by simp [hne])]; exact hS.2
      have kc3 := r3.cell_ (k := K + 1) (by rw [List.length_set, encL_len]; omega)
      have kf3 := r3.free (K + 1)
      clear kc0 kf0 kc1 hi r2 HZ2 HZ1 HZB HZS hS p0 p1
      generalize w2.setCell ⟨w.heap.size + 1 + 1, K, none⟩ (B8 (u8 es)) = w3 at *
      have hS := hS3
      refine ⟨hS, ?_⟩
      try simp only [Act.put, List.setIfInBounds_toArray, List.set_cons_zero, List.set_cons_succ]
      refine wpAnyH_take (oi := ⟨_, _, _, _, _, _⟩) (i := 11) (v := .pointer (some ⟨w.heap.size + 1 + 1, K + 1, none⟩)) rfl (by kernel_rfl) (by kernel_rfl) (by kernel_rfl) (fun _ _ _ h => h) (Or.inl ⟨by rfl, fun _ _ => by go_simp; omega⟩) hS ?_
      try simp only [Act.put, List.setIfInBounds_toArray, List.set_cons_zero, List.set_cons_succ]
      refine wpAnyH_all (rs := [12]) (by kernel_rfl) (by simp) fun i hi => ?_
      obtain rfl : i = 12 := by simpa using hi
      refine wpOp_skip (om := ⟨_, _, _, _, _, _⟩) (w' := w3.setCell ⟨w.heap.size + 1 + 1, K + 1, none⟩ (B8 (u8 en))) rfl rfl (by go_simp) ?_
      have r4 := (r3.set_ (K + 1) (u8 en)).block
      rw [HEN2.out] at r4
      have z4 : (w3.setCell ⟨w.heap.size + 1 + 1, K + 1, none⟩ (B8 (u8 en))).heap[w.heap.size + 1]? = _ := (Below.heap_setCell _ _ _ _ (by simp)).trans z3
      have zb4 := zb3.setCell (p := ⟨w.heap.size + 1 + 1, K + 1, none⟩) (by show _ ≤ w.heap.size + 1 + 1; omega) (B8 (u8 en))
      have zs4 : w.heap.size + 3 ≤ (w3.setCell ⟨w.heap.size + 1 + 1, K + 1, none⟩ (B8 (u8 en))).heap.size := by rw [World.size_setCell]; exact zs3
      have HR : Hid (LaidRel w x (w3.setCell ⟨w.heap.size + 1 + 1, K + 1, none⟩ (B8 (u8 en))) (.int .i64 ((k : Int) + 1))) := ⟨k + 1, by simp, by omega, r4, z4, zs4, zb4⟩
      have hS4 : (w3.setCell ⟨w.heap.size + 1 + 1, K + 1, none⟩ (B8 (u8 en))).cell? ⟨wr.heap.size, 0, none⟩ = some (.int .i64 es) ∧ (w3.setCell ⟨w.heap.size + 1 + 1, K + 1, none⟩ (B8 (u8 en))).cell? ⟨wr.heap.size, 1, none⟩ = some (.int .i64 en) := by
        refine ⟨?_, ?_⟩
        · rw [World.cell?_setCell_other _ _ _ _ (by simp [hne])]; exact hS.1
        · rw [World.cell?_setCell_other _ _ _ _ (by simp [hne])]; exact hS.2
      clear kc3 kf3 hi r3 r4 z3 z4 zb3 zb4 zs3 zs4 hS hS3
      generalize w3.setCell ⟨w.heap.size + 1 + 1, K + 1, none⟩ (B8 (u8 en)) = w4 at *
      have hS := hS4
      clear hS4
      refine ⟨hS, ?_⟩
      try simp only [Act.put, List.setIfInBounds_toArray, List.set_cons_zero, List.set_cons_succ]
      refine wpAnyH_done (by kernel_rfl) ?_ _
      try simp only [Act.put, List.setIfInBounds_toArray, List.set_cons_zero, List.set_cons_succ]
      clear hS
      have ew4 : IntKind.i64.wrap ((k : Int) + 1) = (k : Int) + 1 := by rw [IntKind.wrap_i64]; omega
      go_wp2_with fail
      go_roundw
      case rel => exact HR.out
      case measure => simp [intOf]; omega
    · obtain rfl : k = x.ext.length := by omega
      have lr := load_r (w := wr) (b := w.heap.size + 1 + 1) (o := 0) (xs := encL x) (encL_len x) (by
        rw [List.take_length] at hg2
        exact whole_block hg2)
      have sr := store_r (w := wr) (b := w.heap.size + 1) (o := 0) (xs := encL x) (encL_len x) (there_b hg1 0 64 (by rw [zr64_len]; omega))
      obtain ⟨h1, k1⟩ := set_block (ys := encL x) 0 hg1 (by rw [zr64_len, encL_len]; omega)
      rw [splice_whole _ _ (by rw [zr64_len, encL_len])] at h1
      have hbf := hb.trans (k1.toBelow _ hb.size (by intro k hk; omega))
      generalize wr.setCells (w.heap.size + 1) 0 ((encL x).map B8) = w2 at *
      have LR := Lib.hid lr
      have SR := Lib.hid sr
      have H1 := Lib.hid h1
      have HBF := Lib.hid hbf
      clear lr sr h1 k1 hbf hg1 hg2 hb G9 H9 XR0 B9
      go_wp2_with (first
        | ((with_reducible refine at_ (op := .load 49 (.tmp 3)) ?_); refine wpList_val rfl _ (ex_load 49 (.tmp 3) rfl _ _ rfl LR.out) ?_)
        | ((with_reducible refine at_ (op := .store 49 (.tmp 2) (.tmp 46)) ?_); refine wpList_unit rfl (ex_store 49 (.tmp 2) (.tmp 46) rfl _ _ rfl rfl SR.out) ?_)
        | fail)
      refine bodyPost_ret (v := ag8 (encL x)) ?_ rfl ⟨rfl, HBF.out⟩
      exact results_cell_row rfl _ _ (w.heap.size + 1) 49 _ (0, 0) _ rfl H1.out Try.underlying49 rfl (by rw [size_r]; simp [encL_len])
end Go.Proofs.Ytcldbgmbkcpdgaa.Ino
