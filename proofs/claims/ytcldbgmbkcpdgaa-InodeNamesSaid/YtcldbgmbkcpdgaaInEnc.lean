/-
  InEnc
-/
import Derived.Test.YtcldbgmbkcpdgaaInLaid
import Derived.Test.YtcldbgmbkcpdgaaGLe
namespace Go.Proofs.Ytcldbgmbkcpdgaa.Ino
open Go.RowKit Ex
set_option linter.unusedSimpArgs false
set_option linter.unusedVariables false

/-- The bytes handed back: none where it is refused. -/
def encO (x : IN) : List UInt8 := if chkB x = true then encL x else []
/-- It hands back bytes and an error's number, and has written nothing that was there. -/
def GivesE (w : World) (x : IN) (e : Ending) (w' : World) : Prop := ∃ R n c, e = .returned (.tuple #[.slice R n c, .int .i64 (chkE x)]) ∧ (encO x).length = n ∧ BR w' w'.heap.size R (encO x) ∧ Below w.heap.size w w' ∧ n ≤ c
theorem givesE_no {w w' : World} {x : IN} (h : chkB x = false) (hb : Below w.heap.size w w') : GivesE w x (.returned (.tuple #[.slice none 0 0, .int .i64 110])) w' := by
  have e1 : encO x = [] := by simp [encO, h]
  exact ⟨none, 0, 0, by simp [chkE, h], by rw [e1]; rfl, by rw [e1]; exact BR.nil, hb, by omega⟩
theorem givesE_yes {w w' : World} {x : IN} {R : Option Addr} {c : Nat} (h : chkB x = true) (hr : BR w' w'.heap.size R (encL x)) (hb : Below w.heap.size w w') (hc : 64 ≤ c) : GivesE w x (.returned (.tuple #[.slice R 64 c, .int .i64 0])) w' := by
  have e1 : encO x = encL x := by simp [encO, h]
  exact ⟨R, 64, c, by simp [chkE, h], by rw [e1, encL_len], by rw [e1]; exact hr, hb, hc⟩

set_option maxRecDepth 20000 in
set_option maxHeartbeats 1000000 in
theorem encode_in (x : IN) (A : Option Addr) (c : Nat) (w : World) (hx : InOk w x A) : Calls Try.prog 12 #[ag x A c] w (GivesE w x) := by
  obtain ⟨wA, hwA⟩ : ∃ wA, wA = w.alloc (.cells #[St x.name, .int .i64 x.size, .slice A x.ext.length c] 28) := ⟨_, rfl⟩
  have a0 : wA.heap[w.heap.size]? = some (.cells #[St x.name, .int .i64 x.size, .slice A x.ext.length c] 28 (0, 0)) := by rw [hwA]; exact heap_alloc_new w _
  have bA : Below w.heap.size w wA := by rw [hwA]; exact (Below.refl _ _).alloc (Nat.le_refl _) _
  have sA : wA.heap.size = w.heap.size + 1 := by rw [hwA, World.size_alloc]
  have hck := check_in x A c wA (hx.below bA)
  have c0 : wA.cell? ⟨w.heap.size, 0, none⟩ = some (St x.name) := by rw [cell_of_row _ _ _ _ _ _ a0]; rfl
  have c1 : wA.cell? ⟨w.heap.size, 1, none⟩ = some (.int .i64 x.size) := by rw [cell_of_row _ _ _ _ _ _ a0]; rfl
  have c2 : wA.cell? ⟨w.heap.size, 2, none⟩ = some (.slice A x.ext.length c) := by rw [cell_of_row _ _ _ _ _ _ a0]; rfl
  have HX := Lib.hid hx
  have HCK := Lib.hid hck
  have HB := Lib.hid bA
  have HA := Lib.hid a0
  have HSA := Lib.hid sA
  clear hx hck bA sA a0
  go_enter Try.func12, Try.ntmps12
  go_wp2_with fail
  rw [← hwA]
  clear hwA
  refine HCK.out.mono ?_
  clear HCK
  rintro e w2 ⟨rfl, b2⟩
  have a2 := (b2.block w.heap.size (by rw [HSA.out]; omega)).trans HA.out
  have B2 := Lib.hid (HB.out.trans (b2.mono HB.out.size))
  have hs2 : w.heap.size + 1 ≤ w2.heap.size := by rw [← HSA.out]; exact b2.size
  clear c0 c1 c2 b2 HB HA
  by_cases hc : chkB x = true
  · have he : chkE x = 0 := by simp [chkE, hc]
    rw [he]
    have hl := laid_any x A c w2 (HX.out.below B2.out) hc
    have HL := Lib.hid hl
    have HC := Lib.hid hc
    have c0 : w2.cell? ⟨w.heap.size, 0, none⟩ = some (St x.name) := by rw [cell_of_row _ _ _ _ _ _ a2]; rfl
    have c1 : w2.cell? ⟨w.heap.size, 1, none⟩ = some (.int .i64 x.size) := by rw [cell_of_row _ _ _ _ _ _ a2]; rfl
    have c2 : w2.cell? ⟨w.heap.size, 2, none⟩ = some (.slice A x.ext.length c) := by rw [cell_of_row _ _ _ _ _ _ a2]; rfl
    clear hl hc he a2
    go_wp2_with fail
    refine HL.out.mono ?_
    clear HL c0 c1 c2
    rintro e w3 ⟨rfl, b3⟩
    have al := alloc_r w3
    have b4 := (B2.out.trans (b3.mono B2.out.size)).alloc (Nat.le_trans B2.out.size b3.size) (.cells (zr64.map B8).toArray 49)
    have g4 : (w3.alloc (.cells (zr64.map B8).toArray 49)).heap[w3.heap.size]? = some (.cells (zr64.map B8).toArray 49 (0, 0)) := heap_alloc_new w3 _
    have sr := store_r (w := w3.alloc (.cells (zr64.map B8).toArray 49)) (b := w3.heap.size) (o := 0) (xs := encL x) (encL_len x) (there_b g4 0 64 (by rw [zr64_len]; omega))
    obtain ⟨h5, k5⟩ := set_block (ys := encL x) 0 g4 (by rw [zr64_len, encL_len]; omega)
    rw [splice_whole _ _ (by rw [zr64_len, encL_len])] at h5
    have b5 := b4.trans (k5.toBelow w.heap.size b4.size (by intro k hk; have := b3.size; omega))
    have r5 := (Row8.of_block h5).br
    generalize (w3.alloc (.cells (zr64.map B8).toArray 49)).setCells w3.heap.size 0 ((encL x).map B8) = w5 at *
    have AL := Lib.hid al
    have SR := Lib.hid sr
    have HF := Lib.hid (givesE_yes (c := 64) HC.out r5 b5 (by omega))
    clear al sr b3 b4 g4 h5 k5 b5 r5
    go_wp2_with (first
      | ((with_reducible refine at_ (op := .alloc 49) ?_); refine wpList_val rfl _ (ex_alloc 49 rfl _ AL.out) ?_)
      | ((with_reducible refine at_ (op := .store 49 (.tmp 5) (.tmp 12)) ?_); refine wpList_unit rfl (ex_store 49 (.tmp 5) (.tmp 12) rfl _ _ rfl rfl SR.out) ?_)
      | fail)
    go_ret2
    exact HF.out
  · have hc' : chkB x = false := by simpa using hc
    have he : chkE x = 110 := by simp [chkE, hc]
    rw [he]
    have HC := Lib.hid hc'
    clear hc hc' he
    go_wp2_with fail
    go_ret2
    exact givesE_no HC.out B2.out
/-! ### the document's -/
theorem lay0_set (x : IN) : zr64.set 0 (UInt8.ofNat x.name.length) = lay0 x := by
  simp [zr64, lay0, List.replicate_succ]
theorem lay2_put (x : IN) (h : x.name.length ≤ 15) : putL (lay1 x) 16 x.size.toNat 2 = lay2 x := by
  refine list64 (by rw [putL_len, lay1_len x h]) (lay2_len x h) fun i hi => ?_
  rw [putL_get _ _ _ _ _ (by decide) (by rw [lay1_len x h]; omega)]
  unfold lay2
  rw [splice_get _ _ _ _ (by rw [lay1_len x h]; simp [two])]
  have e2 : (two x.size.toNat).length = 2 := rfl
  rw [e2]
  by_cases h1 : 16 ≤ i ∧ i < 16 + 2
  · rw [if_pos (by omega), if_pos h1]
    have : i = 16 ∨ i = 17 := by omega
    rcases this with e | e <;> subst e <;> rfl
  · rw [if_neg (by omega), if_neg h1]
theorem own8_low {w : World} {B B' : Nat} {t : TypeId} {R : Option Addr} {cap : Nat} {zs : List UInt8} (h : Own8 w B t R cap zs) (hB : B' ≤ B) : Own8 w B' t R cap zs := by
  refine ⟨h.1, ?_⟩
  rcases h.2 with h0 | ⟨g, cap', cur, hv, hb, rest⟩
  · exact Or.inl h0
  · exact Or.inr ⟨g, cap', cur, hv, Nat.le_trans hB hb, rest⟩
/-- What the loop over the list keeps. -/
def REncRel (w : World) (x : IN) (R : Option Addr) (c : Nat) (wr : World) (i : Value) : Prop := ∃ k : Nat, i = .int .i64 (k : Int) ∧ k ≤ x.ext.length ∧ Own8 wr w.heap.size 5 R c (encL { x with ext := x.ext.take k }) ∧ Below w.heap.size w wr
set_option maxRecDepth 20000 in
set_option maxHeartbeats 1000000 in
theorem rencode_in (x : IN) (A : Option Addr) (c : Nat) (w : World) (hx : InOk w x A) : Calls Try.prog 13 #[ag x A c] w (GivesE w x) := by
  obtain ⟨wA, hwA⟩ : ∃ wA, wA = w.alloc (.cells #[St x.name, .int .i64 x.size, .slice A x.ext.length c] 28) := ⟨_, rfl⟩
  have a0 : wA.heap[w.heap.size]? = some (.cells #[St x.name, .int .i64 x.size, .slice A x.ext.length c] 28 (0, 0)) := by rw [hwA]; exact heap_alloc_new w _
  have bA : Below w.heap.size w wA := by rw [hwA]; exact (Below.refl _ _).alloc (Nat.le_refl _) _
  have sA : wA.heap.size = w.heap.size + 1 := by rw [hwA, World.size_alloc]
  have hck := rcheck_in x A c wA (hx.below bA)
  have c0 : wA.cell? ⟨w.heap.size, 0, none⟩ = some (St x.name) := by rw [cell_of_row _ _ _ _ _ _ a0]; rfl
  have c1 : wA.cell? ⟨w.heap.size, 1, none⟩ = some (.int .i64 x.size) := by rw [cell_of_row _ _ _ _ _ _ a0]; rfl
  have c2 : wA.cell? ⟨w.heap.size, 2, none⟩ = some (.slice A x.ext.length c) := by rw [cell_of_row _ _ _ _ _ _ a0]; rfl
  have HX := Lib.hid hx
  have HCK := Lib.hid hck
  have HB := Lib.hid bA
  have HA := Lib.hid a0
  have HSA := Lib.hid sA
  clear hx hck bA sA a0
  go_enter Try.func13, Try.ntmps13
  go_wp2_with fail
  rw [← hwA]
  clear hwA
  refine HCK.out.mono ?_
  clear HCK
  rintro e w2 ⟨rfl, b2⟩
  have a2 := (b2.block w.heap.size (by rw [HSA.out]; omega)).trans HA.out
  have B2 := Lib.hid (HB.out.trans (b2.mono HB.out.size))
  have hs2 : w.heap.size + 1 ≤ w2.heap.size := by rw [← HSA.out]; exact b2.size
  clear c0 c1 c2 b2 HB HA HSA
  by_cases hc : chkB x = true
  · obtain ⟨⟨hn1, hn2⟩, _, ⟨hs1, hs3⟩, hok, _⟩ := chk_parts hc
    have hxe := ok_few hok
    have HOK := Lib.hid hok
    have he : chkE x = 0 := by simp [chkE, hc]
    rw [he]
    have HC := Lib.hid hc
    have hmk : (Instr.makeSlice 29 (.int .i64 64) (.int .i64 64)).run Try.prog w2 = .ok (.slice (some ⟨w2.heap.size, 0, none⟩) 64 64) (w2.alloc (.cells (madeCells #[.int .u8 0] 64) 5)) := make8 64 (by decide) w2
    have r3 := Row8.made w2 64 5
    have b3 := B2.out.alloc B2.out.size (.cells (madeCells #[.int .u8 0] 64) 5)
    have a3 := (Below.heap_alloc w2 (.cells (madeCells #[.int .u8 0] 64) 5) w.heap.size (by omega)).trans a2
    have z3 : w2.heap.size < (w2.alloc (.cells (madeCells #[.int .u8 0] 64) 5)).heap.size := by rw [World.size_alloc]; omega
    generalize w2.alloc (.cells (madeCells #[.int .u8 0] 64) 5) = w3 at *
    have c0 : w3.cell? ⟨w.heap.size, 0, none⟩ = some (St x.name) := by rw [cell_of_row _ _ _ _ _ _ a3]; rfl
    have k0 := r3.cell_ (k := 0) (by simp)
    have f0 := r3.free 0
    have hcv : IntKind.u8.wrap (x.name.length : Int) = ((UInt8.ofNat x.name.length).toNat : Int) := by
      rw [UInt8.toNat_ofNat']
      simp [IntKind.wrap, IntKind.bits, IntKind.signed]
    have R3 := Lib.hid r3
    have B3 := Lib.hid b3
    have A3 := Lib.hid a3
    clear hok hc he a2 r3 b3 a3
    have hv : Value.int .u8 (x.name.length : Int) = B8 (UInt8.ofNat x.name.length) := by show _ = Value.int .u8 ((UInt8.ofNat x.name.length).toNat : Int); rw [UInt8.toNat_ofNat']; congr 1; omega
    have HV := Lib.hid hv
    clear hv hcv
    go_wp2_with fail
    rw [HV.out]
    have r4 := R3.out.set_ 0 (UInt8.ofNat x.name.length)
    rw [show (List.replicate 64 (0 : UInt8)).set 0 (UInt8.ofNat x.name.length) = lay0 x from lay0_set x] at r4
    have b4 := B3.out.setCell (p := ⟨w2.heap.size, 0, none⟩) (by show _ ≤ w2.heap.size; omega) (B8 (UInt8.ofNat x.name.length))
    have a4 := (Below.heap_setCell w3 ⟨w2.heap.size, 0, none⟩ (B8 (UInt8.ofNat x.name.length)) w.heap.size (by show _ ≠ w2.heap.size; omega)).trans A3.out
    have z4 : w2.heap.size < (w3.setCell ⟨w2.heap.size, 0, none⟩ (B8 (UInt8.ofNat x.name.length))).heap.size := by rw [World.size_setCell]; exact z3
    clear k0 f0 R3 B3 A3 c0 z3 HV
    generalize w3.setCell ⟨w2.heap.size, 0, none⟩ (B8 (UInt8.ofNat x.name.length)) = w4 at *
    refine wp_region_still_tail 4 (by kernel_rfl) (by kernel_rfl) ?_
    simp only [List.take_succ_cons, List.take_zero, List.drop_succ_cons, List.drop_zero]
    change wpStill _ _ w4.drew (fun a' => wpList _ _ _ _ a' w4.drew) _ _
    have a5 : w4.drew.heap[w.heap.size]? = _ := a4
    have b5 := b4.drew
    have r5 : Row8 w4.drew w2.heap.size 5 (lay0 x) := r4
    have z5 : w2.heap.size < w4.drew.heap.size := z4
    clear a4 b4 r4 z4
    generalize w4.drew = w5 at *
    have c0 : w5.cell? ⟨w.heap.size, 0, none⟩ = some (St x.name) := by rw [cell_of_row _ _ _ _ _ _ a5]; rfl
    have cp := run_copy_str (P := Try.prog) w5 29 9 3 5 Try.underlying29 (by kernel_rfl) w2.heap.size 1 15 63 x.name hn2 (there_b r5.block 1 x.name.length (by rw [lay0_len]; omega))
    obtain ⟨f6, k6⟩ := set_block (ys := x.name) 1 r5.block (by rw [lay0_len]; omega)
    generalize w5.setCells w2.heap.size 1 (x.name.map B8) = w6 at cp f6 k6
    have a6 := (k6.block _ (by omega) (by omega)).trans a5
    have b6 := b5.trans (k6.toBelow w.heap.size b5.size (by intro k hk; omega))
    have z6 : w2.heap.size < w6.heap.size := by have := k6.size; omega
    have CP := Lib.hid cp
    have F6 := Lib.hid f6
    have A6 := Lib.hid a6
    have B6 := Lib.hid b6
    clear cp f6 k6 a5 b5 r5 a6 b6
    still_step
    still_step
    still_step
    still_step
    refine wpStill_nil ?_
    have cp := CP.out
    clear CP
    have c1 : w6.cell? ⟨w.heap.size, 1, none⟩ = some (.int .i64 x.size) := by rw [cell_of_row _ _ _ _ _ _ A6.out]; rfl
    have hwr : IntKind.u64.wrap x.size = (x.size.toNat : Int) := by simp [IntKind.wrap, IntKind.bits, IntKind.signed]; omega
    have hpn := refPutNum_own (some ⟨w2.heap.size, 0, none⟩) (lay1 x) 64 16 2 x.size.toNat w6 (Row8.of_block F6.out).br (by rw [lay1_len x hn2]; decide) (by decide) (by decide)
    rw [show (clamp 2 8).toNat = 2 from rfl, lay2_put x hn2, lay1_len x hn2, lay2_enc x hn2] at hpn
    have HPN := Lib.hid hpn
    clear hpn
    go_wp2_with fail
    rw [show max x.size 0 = ((x.size.toNat : Nat) : Int) by omega]
    refine HPN.out.mono ?_
    clear HPN cp c0 c1
    rintro e w7 ⟨R, c4, rfl, o7, b7⟩
    have a7 := (b7.block w.heap.size (by omega)).trans A6.out
    have b7' := B6.out.trans (b7.mono B6.out.size)
    have c2 : w7.cell? ⟨w.heap.size, 2, none⟩ = some (.slice A x.ext.length c) := by rw [cell_of_row _ _ _ _ _ _ a7]; rfl
    have o7' : Own8 w7 w.heap.size 5 R c4 (encL { x with ext := [] }) := own8_low o7 B6.out.size
    have O7 := Lib.hid o7'
    have B7 := Lib.hid b7'
    have HXR := Lib.hid HX.out.xr
    clear o7 o7' b7 b7' a7 A6 B6 F6
    rw [encL_len]
    go_wp2_with fail
    go_loopw [33, 6, 7] (fun i _ _ wr => REncRel w x R c4 wr i) (fun i _ _ _ => x.ext.length - (intOf i).toNat)
    case atStart => exact ⟨0, rfl, by omega, by rw [List.take_zero]; exact O7.out, B7.out⟩
    case round =>
      obtain ⟨k, rfl, hk, ow, hb⟩ := hrel
      by_cases hlt : k < x.ext.length
      · obtain ⟨ad, rfl, hlb, d0, d1, hxo⟩ := (HXR.out.below hb).at_ hlt
        have hen := enc_more { x with ext := x.ext.take k } k x.ext[k] (x.ext.take k) (by omega) (by simp; omega) rfl
        have hsm := ok_small HOK.out _ (List.getElem_mem hlt)
        have htk : x.ext.take k ++ [x.ext[k]] = x.ext.take (k + 1) := (List.take_succ_eq_append_getElem hlt).symm
        rw [htk] at hen
        generalize x.ext[k] = e at *
        obtain ⟨es, en⟩ := e
        simp only at d0 d1 hsm hen
        obtain ⟨K, hK⟩ : ∃ K : Nat, K = 18 + 2 * k := ⟨_, rfl⟩
        obtain ⟨g, rfl, hBg, hgl, _, _⟩ := ow.at_ (k := K) (by rw [encL_len]; omega)
        have hne : ¬ g = wr.heap.size := by omega
        have b1 := (hb.alloc (by exact hb.size) (.cells #[.int .i64 es, .int .i64 en] 47)).drew
        have o1 : Own8 (wr.alloc (.cells #[.int .i64 es, .int .i64 en] 47)).drew w.heap.size 5 (some ⟨g, 0, none⟩) c4 _ := World.ownsRow.alloc ow (.cells #[.int .i64 es, .int .i64 en] 47)
        have hat : (wr.alloc (.cells #[.int .i64 es, .int .i64 en] 47)).heap[wr.heap.size]? = some (.cells #[.int .i64 es, .int .i64 en] 47 (0, 0)) := heap_alloc_new wr _
        have p0 : (wr.alloc (.cells #[.int .i64 es, .int .i64 en] 47)).drew.cell? ⟨wr.heap.size, 0, none⟩ = some (.int .i64 es) := by rw [cell_of_row _ _ _ _ _ _ (show (wr.alloc (.cells #[.int .i64 es, .int .i64 en] 47)).drew.heap[wr.heap.size]? = _ from hat)]; rfl
        have p1 : (wr.alloc (.cells #[.int .i64 es, .int .i64 en] 47)).drew.cell? ⟨wr.heap.size, 1, none⟩ = some (.int .i64 en) := by rw [cell_of_row _ _ _ _ _ _ (show (wr.alloc (.cells #[.int .i64 es, .int .i64 en] 47)).drew.heap[wr.heap.size]? = _ from hat)]; rfl
        have HZB := Lib.hid b1
        have OW := Lib.hid o1
        rw [show 19 + 2 * k = K + 1 by omega, show 18 + 2 * k = K by omega] at hen
        have HEN2 := Lib.hid hen
        have ew1 : IntKind.i64.wrap (2 * (k : Int)) = 2 * (k : Int) := by rw [IntKind.wrap_i64]; omega
        have ew2 : IntKind.i64.wrap (18 + 2 * (k : Int)) = (K : Int) := by rw [IntKind.wrap_i64]; omega
        have ew3 : IntKind.i64.wrap (19 + 2 * (k : Int)) = ((K + 1 : Nat) : Int) := by rw [IntKind.wrap_i64]; omega
        have ex1 : IntKind.u8.wrap es = ((u8 es).toNat : Int) := by rw [u8_nat (by omega)]; simp [IntKind.wrap, IntKind.bits, IntKind.signed]; omega
        have ex2 : IntKind.u8.wrap en = ((u8 en).toNat : Int) := by rw [u8_nat (by omega)]; simp [IntKind.wrap, IntKind.bits, IntKind.signed]; omega
        have hK1 : (K : Int) < 64 := by omega
        have hK2 : ((K + 1 : Nat) : Int) < 64 := by omega
        obtain ⟨g1, e1, _, _, kc0, kf0⟩ := o1.at_ (k := K) (by rw [encL_len]; omega)
        cases e1
        clear b1 o1 hat hen htk ow hb hK O7 B7
        go_wp2_with fail
        refine wp_region_held (S := fun W => W.cell? ⟨wr.heap.size, 0, none⟩ = some (.int .i64 es) ∧ W.cell? ⟨wr.heap.size, 1, none⟩ = some (.int .i64 en)) (by kernel_rfl) ?_
        change wpAnyH _ _ _ _ _ _ _ _ (wr.alloc (.cells #[.int .i64 es, .int .i64 en] 47)).drew
        generalize (wr.alloc (.cells #[.int .i64 es, .int .i64 en] 47)).drew = w8 at *
        have hS := And.intro p0 p1
        refine wpAnyH_take (oi := ⟨_, _, _, _, _, _⟩) (i := 0) (v := .slice (some ⟨g, 0, none⟩) 64 c4) rfl (by kernel_rfl) (by kernel_rfl) (by kernel_rfl) (fun _ _ _ h => h) (Or.inl ⟨by rfl, fun _ _ => rfl⟩) hS ?_
        try simp only [Act.put, List.setIfInBounds_toArray, List.set_cons_zero, List.set_cons_succ]
        refine wpAnyH_take (oi := ⟨_, _, _, _, _, _⟩) (i := 1) (v := .int .i64 (k : Int)) rfl (by kernel_rfl) (by kernel_rfl) (by kernel_rfl) (fun _ _ _ h => h) (Or.inl ⟨by rfl, fun _ _ => rfl⟩) hS ?_
        try simp only [Act.put, List.setIfInBounds_toArray, List.set_cons_zero, List.set_cons_succ]
        refine wpAnyH_take (oi := ⟨_, _, _, _, _, _⟩) (i := 2) (v := .int .i64 (2 * (k : Int))) rfl (by kernel_rfl) (by kernel_rfl) (by kernel_rfl) (fun _ _ _ h => h) (Or.inl ⟨by rfl, fun _ _ => by go_simp⟩) hS ?_
        try simp only [Act.put, List.setIfInBounds_toArray, List.set_cons_zero, List.set_cons_succ]
        refine wpAnyH_take (oi := ⟨_, _, _, _, _, _⟩) (i := 3) (v := .int .i64 (K : Int)) rfl (by kernel_rfl) (by kernel_rfl) (by kernel_rfl) (fun _ _ _ h => h) (Or.inl ⟨by rfl, fun _ _ => by go_simp⟩) hS ?_
        try simp only [Act.put, List.setIfInBounds_toArray, List.set_cons_zero, List.set_cons_succ]
        refine wpAnyH_take (oi := ⟨_, _, _, _, _, _⟩) (i := 4) (v := .slice (some ⟨g, 0, none⟩) 64 c4) rfl (by kernel_rfl) (by kernel_rfl) (by kernel_rfl) (fun _ _ _ h => h) (Or.inl ⟨by rfl, fun _ _ => rfl⟩) hS ?_
        try simp only [Act.put, List.setIfInBounds_toArray, List.set_cons_zero, List.set_cons_succ]
        refine wpAnyH_take (oi := ⟨_, _, _, _, _, _⟩) (i := 5) (v := .int .i64 (k : Int)) rfl (by kernel_rfl) (by kernel_rfl) (by kernel_rfl) (fun _ _ _ h => h) (Or.inl ⟨by rfl, fun _ _ => rfl⟩) hS ?_
        try simp only [Act.put, List.setIfInBounds_toArray, List.set_cons_zero, List.set_cons_succ]
        refine wpAnyH_take (oi := ⟨_, _, _, _, _, _⟩) (i := 6) (v := .int .i64 (2 * (k : Int))) rfl (by kernel_rfl) (by kernel_rfl) (by kernel_rfl) (fun _ _ _ h => h) (Or.inl ⟨by rfl, fun _ _ => by go_simp⟩) hS ?_
        try simp only [Act.put, List.setIfInBounds_toArray, List.set_cons_zero, List.set_cons_succ]
        refine wpAnyH_take (oi := ⟨_, _, _, _, _, _⟩) (i := 7) (v := .int .i64 ((K + 1 : Nat) : Int)) rfl (by kernel_rfl) (by kernel_rfl) (by kernel_rfl) (fun _ _ _ h => h) (Or.inl ⟨by rfl, fun _ _ => by go_simp⟩) hS ?_
        try simp only [Act.put, List.setIfInBounds_toArray, List.set_cons_zero, List.set_cons_succ]
        refine wpAnyH_take (oi := ⟨_, _, _, _, _, _⟩) (i := 8) (v := .pointer (some ⟨wr.heap.size, 0, none⟩)) rfl (by kernel_rfl) (by kernel_rfl) (by kernel_rfl) (fun _ _ _ h => h) (Or.inl ⟨by rfl, fun _ _ => by go_simp⟩) hS ?_
        try simp only [Act.put, List.setIfInBounds_toArray, List.set_cons_zero, List.set_cons_succ]
        refine wpAnyH_take (oi := ⟨_, _, _, _, _, _⟩) (i := 9) (v := .int .i64 es) rfl (by kernel_rfl) (by kernel_rfl) (by kernel_rfl) (fun _ _ _ h => h) (yif_load rfl 3 (.tmp 46) rfl _ _ rfl fun w h => load_one aggI3 h.1) hS ?_
        try simp only [Act.put, List.setIfInBounds_toArray, List.set_cons_zero, List.set_cons_succ]
        refine wpAnyH_take (oi := ⟨_, _, _, _, _, _⟩) (i := 10) (v := B8 (u8 es)) rfl (by kernel_rfl) (by kernel_rfl) (by kernel_rfl) (fun _ _ _ h => h) (Or.inl ⟨by rfl, fun _ _ => by go_simp⟩) hS ?_
        try simp only [Act.put, List.setIfInBounds_toArray, List.set_cons_zero, List.set_cons_succ]
        refine wpAnyH_take (oi := ⟨_, _, _, _, _, _⟩) (i := 11) (v := .pointer (some ⟨wr.heap.size, 1, none⟩)) rfl (by kernel_rfl) (by kernel_rfl) (by kernel_rfl) (fun _ _ _ h => h) (Or.inl ⟨by rfl, fun _ _ => by go_simp⟩) hS ?_
        try simp only [Act.put, List.setIfInBounds_toArray, List.set_cons_zero, List.set_cons_succ]
        refine wpAnyH_take (oi := ⟨_, _, _, _, _, _⟩) (i := 12) (v := .int .i64 en) rfl (by kernel_rfl) (by kernel_rfl) (by kernel_rfl) (fun _ _ _ h => h) (yif_load rfl 3 (.tmp 49) rfl _ _ rfl fun w h => load_one aggI3 h.2) hS ?_
        try simp only [Act.put, List.setIfInBounds_toArray, List.set_cons_zero, List.set_cons_succ]
        refine wpAnyH_take (oi := ⟨_, _, _, _, _, _⟩) (i := 13) (v := B8 (u8 en)) rfl (by kernel_rfl) (by kernel_rfl) (by kernel_rfl) (fun _ _ _ h => h) (Or.inl ⟨by rfl, fun _ _ => by go_simp⟩) hS ?_
        try simp only [Act.put, List.setIfInBounds_toArray, List.set_cons_zero, List.set_cons_succ]
        refine wpAnyH_take (oi := ⟨_, _, _, _, _, _⟩) (i := 14) (v := .pointer (some ⟨g, K, none⟩)) rfl (by kernel_rfl) (by kernel_rfl) (by kernel_rfl) (fun _ _ _ h => h) (Or.inl ⟨by rfl, fun _ _ => by go_simp⟩) hS ?_
        try simp only [Act.put, List.setIfInBounds_toArray, List.set_cons_zero, List.set_cons_succ]
        refine wpAnyH_all (rs := [15]) (by kernel_rfl) (by simp) fun i hi => ?_
        obtain rfl : i = 15 := by simpa using hi
        refine wpOp_skip (om := ⟨_, _, _, _, _, _⟩) (w' := w8.setCell ⟨g, K, none⟩ (B8 (u8 es))) rfl rfl (by go_simp) ?_
        have o9 := OW.out.set_ K (u8 es)
        have zb9 := HZB.out.setCell (p := ⟨g, K, none⟩) hBg (B8 (u8 es))
        have hS3 : (w8.setCell ⟨g, K, none⟩ (B8 (u8 es))).cell? ⟨wr.heap.size, 0, none⟩ = some (.int .i64 es) ∧ (w8.setCell ⟨g, K, none⟩ (B8 (u8 es))).cell? ⟨wr.heap.size, 1, none⟩ = some (.int .i64 en) := by
          refine ⟨?_, ?_⟩
          · rw [World.cell?_setCell_other _ _ _ _ (by simp [hne])]; exact hS.1
          · rw [World.cell?_setCell_other _ _ _ _ (by simp [hne])]; exact hS.2
        obtain ⟨g1, e1, _, _, kc3, kf3⟩ := o9.at_ (k := K + 1) (by rw [List.length_set, encL_len]; omega)
        cases e1
        clear kc0 kf0 hi OW HZB hS p0 p1
        generalize w8.setCell ⟨g, K, none⟩ (B8 (u8 es)) = w9 at *
        have hS := hS3
        refine ⟨hS, ?_⟩
        try simp only [Act.put, List.setIfInBounds_toArray, List.set_cons_zero, List.set_cons_succ]
        refine wpAnyH_take (oi := ⟨_, _, _, _, _, _⟩) (i := 16) (v := .pointer (some ⟨g, K + 1, none⟩)) rfl (by kernel_rfl) (by kernel_rfl) (by kernel_rfl) (fun _ _ _ h => h) (Or.inl ⟨by rfl, fun _ _ => by go_simp; omega⟩) hS ?_
        try simp only [Act.put, List.setIfInBounds_toArray, List.set_cons_zero, List.set_cons_succ]
        refine wpAnyH_all (rs := [17]) (by kernel_rfl) (by simp) fun i hi => ?_
        obtain rfl : i = 17 := by simpa using hi
        refine wpOp_skip (om := ⟨_, _, _, _, _, _⟩) (w' := w9.setCell ⟨g, K + 1, none⟩ (B8 (u8 en))) rfl rfl (by go_simp) ?_
        have o10 := o9.set_ (K + 1) (u8 en)
        rw [HEN2.out] at o10
        have zb10 := zb9.setCell (p := ⟨g, K + 1, none⟩) hBg (B8 (u8 en))
        have HR : Hid (REncRel w x (some ⟨g, 0, none⟩) c4 (w9.setCell ⟨g, K + 1, none⟩ (B8 (u8 en))) (.int .i64 ((k : Int) + 1))) := ⟨k + 1, by simp, by omega, o10, zb10⟩
        have hS4 : (w9.setCell ⟨g, K + 1, none⟩ (B8 (u8 en))).cell? ⟨wr.heap.size, 0, none⟩ = some (.int .i64 es) ∧ (w9.setCell ⟨g, K + 1, none⟩ (B8 (u8 en))).cell? ⟨wr.heap.size, 1, none⟩ = some (.int .i64 en) := by
          refine ⟨?_, ?_⟩
          · rw [World.cell?_setCell_other _ _ _ _ (by simp [hne])]; exact hS.1
          · rw [World.cell?_setCell_other _ _ _ _ (by simp [hne])]; exact hS.2
        clear kc3 kf3 hi o9 o10 zb9 zb10 hS hS3
        generalize w9.setCell ⟨g, K + 1, none⟩ (B8 (u8 en)) = w10 at *
        have hS := hS4
        clear hS4
        refine ⟨hS, ?_⟩
        try simp only [Act.put, List.setIfInBounds_toArray, List.set_cons_zero, List.set_cons_succ]
        refine wpAnyH_done (by kernel_rfl) ?_ _
        try simp only [Act.put, List.setIfInBounds_toArray, List.set_cons_zero, List.set_cons_succ]
        clear hS
        have ew4 : IntKind.i64.wrap ((k : Int) + 1) = (k : Int) + 1 := by rw [IntKind.wrap_i64]; omega
        go_wp2_with fail
        go_roundw
        case rel => exact HR.out
        case measure => simp [intOf]; omega
      · obtain rfl : k = x.ext.length := by omega
        rw [List.take_length] at ow
        have HF := Lib.hid (givesE_yes (c := c4) HC.out ow.br hb (by have := ow.cap_le; rwa [encL_len] at this))
        clear ow hb
        go_wp2_with fail
        go_ret2
        exact HF.out
  · have hc' : chkB x = false := by simpa using hc
    have he : chkE x = 110 := by simp [chkE, hc]
    rw [he]
    have HC := Lib.hid hc'
    clear hc hc' he
    go_wp2_with fail
    go_ret2
    exact givesE_no HC.out B2.out
end Go.Proofs.Ytcldbgmbkcpdgaa.Ino
