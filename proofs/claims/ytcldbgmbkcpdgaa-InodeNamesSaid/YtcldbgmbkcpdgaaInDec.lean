/-
  InDec
-/
import Derived.Test.YtcldbgmbkcpdgaaInRead
namespace Go.Proofs.Ytcldbgmbkcpdgaa.Ino
open Go.RowKit Ex
set_option linter.unusedSimpArgs false
set_option linter.unusedVariables false

theorem load_at_r {w : World} {ad : Addr} {xs : List UInt8} (hl : xs.length = 64) (hc : ∀ k u, xs[k]? = some u → w.cell? (ad.add k) = some (B8 u)) :
    (Instr.loadAt 49 (.pointer (some ad))).run Try.prog w = .ok (ag8 xs) w := by
  have hl2 : (loadCells ad (xs.map B8).length).run Try.prog w = .ok (xs.map B8).toArray w :=
    run_loadCells_list (P := Try.prog) w ad (xs.map B8) (fun j v hv => by
      simp only [List.getElem?_map, Option.map_eq_some_iff] at hv
      obtain ⟨u, hu, rfl⟩ := hv
      exact hc j u hu)
  rw [List.length_map, hl] at hl2
  have hs : (sizeOf 49).run Try.prog w = .ok 64 w := by
    have := size_r
    unfold sizeOf typeInfo
    cases hq : Try.prog.info? 49 with
    | none => rw [hq] at this; cases this
    | some i =>
      rw [hq] at this
      simp only [Option.map_some, Option.some.injEq] at this
      simp [hq, this]
  have hagg : (isAgg 49).run Try.prog w = .ok true w := by
    unfold isAgg
    rw [Sem.run_bind, run_underlying Try.underlying49 w]
    rfl
  simp [Instr.loadAt, Instr.sureAddr, loadVar, Sem.run_bind, hagg, hs, hl2, ag8]
theorem ag8_ints (xs : List UInt8) : ag8 xs = .agg ((xs.map fun u => (u.toNat : Int)).map (Value.int .u8)).toArray := by
  unfold ag8
  rw [List.map_map]
  rfl
theorem ints_eq (xs ys : List UInt8) : ((xs.map fun u => (u.toNat : Int)) = ys.map fun u => (u.toNat : Int)) ↔ xs = ys := by
  constructor
  · intro h
    have hl : xs.length = ys.length := by simpa using congrArg List.length h
    apply List.ext_getElem hl
    intro i h1 h2
    have := congrArg (fun l => l[i]?) h
    simp only [List.getElem?_map, List.getElem?_eq_getElem h1, List.getElem?_eq_getElem h2, Option.map_some, Option.some.injEq] at this
    exact UInt8.toNat_inj.1 (by omega)
  · rintro rfl; rfl
theorem size_u8 : ∀ w, (sizeOf 5).run Try.prog w = .ok 1 w := fun w => by kernel_rfl
theorem eql_r (w : World) (xs ys : List UInt8) (hx : xs.length = 64) (hy : ys.length = 64) : (binOp .eql 49 (ag8 xs) (ag8 ys)).run Try.prog w = .ok (.bool (decide (xs = ys))) w := by
  rw [ag8_ints, ag8_ints, run_eql_ints w 49 5 64 .u8 Try.underlying49 Try.underlying5 size_u8 _ _ (by simpa using hx) (by simpa using hy)]
  congr 2
  rw [decide_eq_decide]
  exact ints_eq xs ys
theorem neq_r (w : World) (xs ys : List UInt8) (hx : xs.length = 64) (hy : ys.length = 64) : (binOp .neq 49 (ag8 xs) (ag8 ys)).run Try.prog w = .ok (.bool (!decide (xs = ys))) w := by
  rw [ag8_ints, ag8_ints, run_neq_ints w 49 5 64 .u8 Try.underlying49 Try.underlying5 size_u8 _ _ (by simpa using hx) (by simpa using hy)]
  congr 3
  rw [decide_eq_decide]
  exact ints_eq xs ys
theorem array_at (w : World) (ad : Addr) (c : Nat) : (Instr.arrayAt 49 (.slice (some ad) 64 c)).run Try.prog w = .ok (.pointer (some ad)) w := by
  simp [Instr.arrayAt, run_underlying Try.underlying49]
theorem eqg_r : Try.prog.eqGuardType Try.prog.depth 49 = false := by kernel_rfl
/-- Three results, the first of which lies in cells. -/
theorem results_row_tmp2 {P : Program} {fn : Func} {p q r : Tmp} {ty : TypeId} (h : fn.results = #[.cell p ty, .tmp q, .tmp r]) (tmps : Array Value) (w : World) (g : Nat) (t : TypeId) (cs : Array Value) (fr : Nat × Nat) (d : TypeDesc) (v u : Value)
    (hp : tmps.getD p undef = .pointer (some ⟨g, 0, none⟩)) (hq : tmps.getD q undef = v) (hr : tmps.getD r undef = u) (hg : w.heap[g]? = some (.cells cs t fr))
    (hu : P.underlying ty = some d) (hd : (match d with | .struct _ | .array _ _ => true | _ => false) = true) (hi : (P.info? ty).map (·.size) = some cs.size) :
    (results fn tmps).run P w = .ok (.tuple #[.agg cs, v, u]) w := by
  have hp' : tmps[p]?.getD undef = .pointer (some ⟨g, 0, none⟩) := by simpa using hp
  have hq' : tmps[q]?.getD undef = v := by simpa using hq
  have hr' : tmps[r]?.getD undef = u := by simpa using hr
  simp [results, h, hp', hq', hr', asAddr, run_loadVar_row w g t ty cs fr d hg hu hd hi]
def in0 : IN := ⟨[], 0, []⟩
/-- What Decode hands back: the inode, the error. -/
def decX (b : List UInt8) : IN := if isIn b = true then readC b else in0
def decE (b : List UInt8) : Int := if isIn b = true then 0 else if b = zr64 then 0 else 110
def GivesD (w : World) (b : List UInt8) (e : Ending) (w' : World) : Prop := ∃ R c, e = .returned (.tuple #[ag (decX b) R c, .bool (isIn b), .int .i64 (decE b)]) ∧ XR w' w'.heap.size R (decX b).ext ∧ Below w.heap.size w w'
theorem givesD_no {w w' : World} {b : List UInt8} (h : isIn b = false) (hb : Below w.heap.size w w') (E : Int) (hE : decE b = E) : GivesD w b (.returned (.tuple #[.agg #[.string ⟨#[]⟩, .int .i64 0, .slice none 0 0], .bool false, .int .i64 E])) w' := by
  have e1 : decX b = in0 := by simp [decX, h]
  exact ⟨none, 0, by rw [e1, h, hE]; rfl, by rw [e1]; exact XR.nil, hb⟩
theorem decE_len {b : List UInt8} (h : b.length ≠ 64) : isIn b = false ∧ decE b = 110 := by
  have h1 : isIn b = false := by
    cases hq : isIn b with
    | false => rfl
    | true => exact absurd (isIn_len hq) h
  refine ⟨h1, ?_⟩
  unfold decE
  rw [h1, if_neg (by simp), if_neg (by rintro rfl; exact h zr64_len)]
theorem isIn_zero : isIn zr64 = false := by
  cases hq : isIn zr64 with
  | false => rfl
  | true =>
    unfold isIn at hq
    simp only [Bool.and_eq_true, decide_eq_true_eq] at hq
    exact absurd hq.2 (enc_full hq.1)
theorem decE_zero : decE zr64 = 0 := by simp [decE]
theorem decE_bad {b : List UInt8} (h : isIn b = false) (h0 : b ≠ zr64) : decE b = 110 := by simp [decE, h, h0]
theorem readC_few (b : List UInt8) : (readC b).ext.length ≤ 100 ∧ (readC b).name.length ≤ 100000 ∧ (-9223372036854775808 ≤ (readC b).size ∧ (readC b).size ≤ 9223372036854775807) := by
  have h1 : (extC b).length ≤ (pairsL b).length := (List.takeWhile_sublist _).length_le
  have h2 : (pairsL b).length = 23 := by simp [pairsL]
  have h3 := num_lt b 16 2
  refine ⟨by show (extC b).length ≤ 100; omega, ?_, ?_⟩
  · show ((b.drop 1).take (min (b.getD 0 0).toNat 15)).length ≤ 100000
    rw [List.length_take]
    omega
  · show -9223372036854775808 ≤ ((num b 16 2 : Nat) : Int) ∧ ((num b 16 2 : Nat) : Int) ≤ 9223372036854775807
    have h4 : num b 16 2 < 65536 := h3
    omega
set_option maxRecDepth 20000 in
set_option maxHeartbeats 1000000 in
theorem decode_any (A : Option Addr) (b : List UInt8) (c : Nat) (w : World) (hx : BR w w.heap.size A b) (hl : b.length ≤ 1000) (hq : b.length ≤ c) : Calls Try.prog 17 #[.slice A b.length c] w (GivesD w b) := by
  obtain ⟨wA, hwA⟩ : ∃ wA, wA = w.alloc (.cells #[.string ⟨#[]⟩, .int .i64 0, .slice none 0 0] 28) := ⟨_, rfl⟩
  have a0 : wA.heap[w.heap.size]? = some (.cells #[.string ⟨#[]⟩, .int .i64 0, .slice none 0 0] 28 (0, 0)) := by rw [hwA]; exact heap_alloc_new w _
  have bA : Below w.heap.size w wA := by rw [hwA]; exact (Below.refl _ _).alloc (Nat.le_refl _) _
  have sA : wA.heap.size = w.heap.size + 1 := by rw [hwA, World.size_alloc]
  by_cases h64 : b.length = 64
  · obtain ⟨ad, rfl, had, hcb⟩ := hx (by intro h; rw [h] at h64; simp at h64)
    have hcA : ∀ k u, b[k]? = some u → wA.cell? (ad.add k) = some (B8 u) := fun k u hu => (bA.cell (p := ad.add k) (by rw [block_add]; exact had)).trans (hcb k u hu)
    have lda := load_at_r h64 hcA
    have al := alloc_r wA
    rw [sA] at al
    have b0 := (Below.heap_alloc wA (.cells (zr64.map B8).toArray 49) w.heap.size (by omega)).trans a0
    have b1 : (wA.alloc (.cells (zr64.map B8).toArray 49)).heap[w.heap.size + 1]? = some (.cells (zr64.map B8).toArray 49 (0, 0)) := by rw [← sA]; exact heap_alloc_new wA _
    have bB := bA.alloc bA.size (.cells (zr64.map B8).toArray 49)
    have sr := store_r (w := wA.alloc (.cells (zr64.map B8).toArray 49)) (b := w.heap.size + 1) (o := 0) (xs := b) h64 (there_b b1 0 64 (by rw [zr64_len]; omega))
    obtain ⟨c1, k1⟩ := set_block (ys := b) 0 b1 (by rw [zr64_len, h64]; omega)
    rw [splice_whole _ _ (by rw [zr64_len, h64])] at c1
    have c0 := (k1.block w.heap.size (by rw [World.size_alloc]; omega) (by omega)).trans b0
    have bC := bB.trans (k1.toBelow w.heap.size bB.size (by intro k hk; omega))
    have sC : w.heap.size + 2 ≤ ((wA.alloc (.cells (zr64.map B8).toArray 49)).setCells (w.heap.size + 1) 0 (b.map B8)).heap.size := by have := k1.size; rw [World.size_alloc] at this; omega
    generalize hwC : (wA.alloc (.cells (zr64.map B8).toArray 49)).setCells (w.heap.size + 1) 0 (b.map B8) = wC at *
    have lr := load_r (w := wC) (b := w.heap.size + 1) (o := 0) (xs := b) h64 (whole_block c1)
    have er := eql_r wC b zr64 h64 zr64_len
    rw [hwA] at lda al sr
    have LDA := Lib.hid lda
    have AL := Lib.hid al
    have SR := Lib.hid sr
    have LR := Lib.hid lr
    have ER := Lib.hid er
    have C0 := Lib.hid c0
    have C1 := Lib.hid c1
    have BC := Lib.hid bC
    have HL := Lib.hid h64
    have haa := fun W => array_at W ad c
    rw [h64] at hq ⊢
    clear lda al sr lr er c0 c1 bC b0 b1 bB k1 hcA hcb a0 bA sA h64 hx hwC
    by_cases hz : b = zr64
    · have hzd : decide (b = zr64) = true := by simp [hz]
      rw [hzd] at ER
      have sr2 := run_storeAt_mid (P := Try.prog) wC w.heap.size 0 28 #[.string ⟨#[]⟩, .int .i64 0, .slice none 0 0] (there_cells (zs := [_, _, _]) C0.out 0 3 (by simp)) size_i (by simp [Value.oneCell'])
      obtain ⟨h1, k1⟩ := setCells_cells (zs := [_, _, _]) (ys := [.string ⟨#[]⟩, .int .i64 0, .slice none 0 0]) C0.out rfl
      have hb1 := BC.out.trans (k1.toBelow w.heap.size BC.out.size (by intro k hk; omega))
      generalize wC.setCells w.heap.size 0 [.string ⟨#[]⟩, .int .i64 0, .slice none 0 0] = w1 at *
      have HF1 := Lib.hid (givesD_no (b := b) (by rw [hz]; exact isIn_zero) hb1 0 (by rw [hz]; exact decE_zero))
      have SR2 := Lib.hid sr2
      have H1 := Lib.hid h1
      clear sr2 h1 k1 hb1 hz hzd hwA
      go_enter Try.func17, Try.ntmps17
      go_wp2_with (first
        | ((with_reducible refine at_ (op := .load 49 (.tmp 12)) ?_); refine wpList_val rfl _ (ex_load 49 (.tmp 12) rfl _ _ rfl LDA.out) ?_)
        | ((with_reducible refine at_ (op := .alloc 49) ?_); refine wpList_val rfl _ (ex_alloc 49 rfl _ AL.out) ?_)
        | ((with_reducible refine at_ (op := .store 49 (.tmp 5) (.tmp 13)) ?_); refine wpList_unit rfl (ex_store 49 (.tmp 5) (.tmp 13) rfl _ _ rfl rfl SR.out) ?_)
        | ((with_reducible refine at_ (op := .load 49 (.tmp 5)) ?_); refine wpList_val rfl _ (ex_load 49 (.tmp 5) rfl _ _ rfl LR.out) ?_)
        | ((with_reducible refine at_ (op := .build 49 #[]) ?_); refine wpList_val rfl _ (ex_build0 49 rfl _ (build_r0 _)) ?_)
        | ((with_reducible refine at_ (op := .binOp .eql 49 (.tmp 14) (.tmp 15) 49) ?_); refine wpList_val rfl _ (ex_bin_agg .eql 49 49 (.tmp 14) (.tmp 15) rfl _ _ _ rfl rfl eqg_r ER.out) ?_)
        | ((with_reducible refine at_ (op := .store 28 (.tmp 2) (.tmp 17)) ?_); refine wpList_unit rfl (ex_store 28 (.tmp 2) (.tmp 17) rfl _ _ rfl rfl SR2.out) ?_)
        | fail)
      refine bodyPost_ret (v := .tuple #[.agg #[.string ⟨#[]⟩, .int .i64 0, .slice none 0 0], .bool false, .int .i64 0]) ?_ rfl HF1.out
      exact results_row_tmp2 rfl _ _ w.heap.size 28 _ (0, 0) _ _ _ rfl rfl rfl H1.out Try.underlying28 rfl (by rw [size_i]; rfl)
    · have hzd : decide (b = zr64) = false := by simp [hz]
      rw [hzd] at ER
      have HZ := Lib.hid hz
      have hr := read_any b wC HL.out
      have HR := Lib.hid hr
      clear hz hzd hr hwA
      go_enter Try.func17, Try.ntmps17
      go_wp2_with (first
        | ((with_reducible refine at_ (op := .load 49 (.tmp 12)) ?_); refine wpList_val rfl _ (ex_load 49 (.tmp 12) rfl _ _ rfl LDA.out) ?_)
        | ((with_reducible refine at_ (op := .alloc 49) ?_); refine wpList_val rfl _ (ex_alloc 49 rfl _ AL.out) ?_)
        | ((with_reducible refine at_ (op := .store 49 (.tmp 5) (.tmp 13)) ?_); refine wpList_unit rfl (ex_store 49 (.tmp 5) (.tmp 13) rfl _ _ rfl rfl SR.out) ?_)
        | ((with_reducible refine at_ (op := .load 49 (.tmp 5)) ?_); refine wpList_val rfl _ (ex_load 49 (.tmp 5) rfl _ _ rfl LR.out) ?_)
        | ((with_reducible refine at_ (op := .build 49 #[]) ?_); refine wpList_val rfl _ (ex_build0 49 rfl _ (build_r0 _)) ?_)
        | ((with_reducible refine at_ (op := .binOp .eql 49 (.tmp 14) (.tmp 15) 49) ?_); refine wpList_val rfl _ (ex_bin_agg .eql 49 49 (.tmp 14) (.tmp 15) rfl _ _ _ rfl rfl eqg_r ER.out) ?_)
        | fail)
      refine HR.out.mono ?_
      clear HR
      rintro e w4 ⟨R, cR, rfl, xr4, b4, hnew⟩
      have HNEW := Lib.hid hnew
      clear hnew
      have d0 := (b4.block w.heap.size (by omega)).trans C0.out
      have d1 := (b4.block (w.heap.size + 1) (by omega)).trans C1.out
      have bD := BC.out.trans (b4.mono BC.out.size)
      have z4 : w.heap.size + 2 ≤ w4.heap.size := Nat.le_trans sC b4.size
      clear b4 C0 C1 BC LDA AL SR LR ER
      go_wp2_with fail
      have g5 : (w4.alloc (.cells #[.string ⟨(readC b).name.toArray⟩, .int .i64 (readC b).size, .slice R (readC b).ext.length cR] 28)).drew.heap[w4.heap.size]? = some (.cells #[.string ⟨(readC b).name.toArray⟩, .int .i64 (readC b).size, .slice R (readC b).ext.length cR] 28 (0, 0)) := heap_alloc_new w4 _
      have b45 : Below w4.heap.size w4 (w4.alloc (.cells #[.string ⟨(readC b).name.toArray⟩, .int .i64 (readC b).size, .slice R (readC b).ext.length cR] 28)).drew := ((Below.refl _ _).alloc (Nat.le_refl _) _).drew
      have s5 : w4.heap.size < (w4.alloc (.cells #[.string ⟨(readC b).name.toArray⟩, .int .i64 (readC b).size, .slice R (readC b).ext.length cR] 28)).drew.heap.size := by show _ < (w4.alloc _).heap.size; rw [World.size_alloc]; omega
      refine wp_region_held (S := fun W => Below (w4.alloc (.cells #[.string ⟨(readC b).name.toArray⟩, .int .i64 (readC b).size, .slice R (readC b).ext.length cR] 28)).drew.heap.size (w4.alloc (.cells #[.string ⟨(readC b).name.toArray⟩, .int .i64 (readC b).size, .slice R (readC b).ext.length cR] 28)).drew W) (by kernel_rfl) ?_
      change wpAnyH _ _ _ _ _ _ _ _ (w4.alloc (.cells #[.string ⟨(readC b).name.toArray⟩, .int .i64 (readC b).size, .slice R (readC b).ext.length cR] 28)).drew
      generalize (w4.alloc (.cells #[.string ⟨(readC b).name.toArray⟩, .int .i64 (readC b).size, .slice R (readC b).ext.length cR] 28)).drew = w5 at *
      have hS : Below w5.heap.size w5 w5 := Below.refl _ _
      have e0 := (b45.block w.heap.size (by omega)).trans d0
      have e1 := (b45.block (w.heap.size + 1) (by omega)).trans d1
      have bE := bD.trans (b45.mono bD.size)
      obtain ⟨hf1, hf2, hf3⟩ := readC_few b
      have hin : ∀ W, Below w5.heap.size w5 W → InOk W (readC b) R := fun W hW => ⟨((xr4.below b45).below (hW.mono (Nat.le_of_lt s5))).more (Nat.le_trans b45.size hW.size), hf1, hf2, hf3⟩
      have hld : ∀ W, Below w5.heap.size w5 W → (Instr.loadAt 28 (.pointer (some ⟨w4.heap.size, 0, none⟩))).run Try.prog W = .ok (ag (readC b) R cR) W := fun W hW => by
        have h1 := (hW.block w4.heap.size s5).trans g5
        exact run_loadAt_mid W w4.heap.size 0 28 [St (readC b).name, .int .i64 (readC b).size, .slice R (readC b).ext.length cR] _ (range_cells (zs := [_, _, _]) h1) Try.underlying28 rfl (by rw [size_i]; rfl)
      have hl5 : ∀ W, Below w5.heap.size w5 W → (Instr.loadAt 49 (.pointer (some ⟨w.heap.size + 1, 0, none⟩))).run Try.prog W = .ok (ag8 b) W := fun W hW =>
        load_r HL.out (whole_block ((hW.block (w.heap.size + 1) (by have := b45.size; omega)).trans e1))
      have HLD := Lib.hid hld
      have HL5 := Lib.hid hl5
      have HIN := Lib.hid hin
      have XR4 := Lib.hid (xr4.below b45)
      have E0 := Lib.hid e0
      have BE := Lib.hid bE
      have G5 := Lib.hid g5
      have z5 : w.heap.size + 2 ≤ w5.heap.size := Nat.le_trans z4 b45.size
      clear d0 d1 bD b45 g5 e0 e1 bE hin hld hl5 xr4 hf1 hf2 hf3
      by_cases hc : chkB (readC b) = true
      · have he : chkE (readC b) = 0 := by simp [chkE, hc]
        have HC := Lib.hid hc
        have HCK : Hid (∀ W, Below w5.heap.size w5 W → Calls Try.prog 15 #[ag (readC b) R cR] W (Gives W (.int .i64 0))) := fun W hW => by
          have := check_in (readC b) R cR W (HIN.out W hW)
          rwa [he] at this
        have HLA : Hid (∀ W, Below w5.heap.size w5 W → Calls Try.prog 20 #[ag (readC b) R cR] W (Gives W (ag8 (encL (readC b))))) := fun W hW => laid_any (readC b) R cR W (HIN.out W hW) hc
        have HNE : Hid (∀ W, (binOp .neq 49 (ag8 (encL (readC b))) (ag8 b)).run Try.prog W = .ok (.bool (!decide (encL (readC b) = b))) W) := fun W => neq_r W _ _ (encL_len _) HL.out
        clear he hc
        refine wpAnyH_take (oi := ⟨_, _, _, _, _, _⟩) (i := 0) (v := ag (readC b) R cR) rfl (by kernel_rfl) (by kernel_rfl) (by kernel_rfl) (fun _ _ _ h => h) (yif_load rfl 28 (.tmp 6) rfl _ _ rfl HLD.out) hS ?_
        try simp only [Act.put, List.setIfInBounds_toArray, List.set_cons_zero, List.set_cons_succ]
        refine wpAnyH_all (rs := [1]) (by kernel_rfl) (by simp) fun i hi => ?_
        obtain rfl : i = 1 := by simpa using hi
        refine op_call (om := ⟨_, _, _, _, _, _⟩) (fn := 15) (args := #[ag (readC b) R cR]) (R := fun u W => u = .int .i64 0 ∧ Below w5.heap.size w5 W) rfl rfl (by go_simp)
          ((HCK.out w5 hS).mono fun e W ⟨he, hb⟩ => ⟨_, he, rfl, hb⟩) _ _ rfl rfl ?_
        rintro u w6 ⟨rfl, hb⟩
        have hS : Below w5.heap.size w5 w6 := Below.trans hS (hb.mono hS.size)
        clear hb hi
        refine ⟨hS, ?_⟩
        try simp only [Act.put, List.setIfInBounds_toArray, List.set_cons_zero, List.set_cons_succ]
        refine wpAnyH_take (oi := ⟨_, _, _, _, _, _⟩) (i := 2) (v := .bool false) rfl (by kernel_rfl) (by kernel_rfl) (by kernel_rfl) (fun _ _ _ h => h) (Or.inl ⟨by rfl, fun _ _ => by go_simp⟩) hS ?_
        try simp only [Act.put, List.setIfInBounds_toArray, List.set_cons_zero, List.set_cons_succ]
        refine wpAnyH_take (oi := ⟨_, _, _, _, _, _⟩) (i := 3) (v := .bool false) rfl (by kernel_rfl) (by kernel_rfl) (by kernel_rfl) (fun _ _ _ h => h) (Or.inl ⟨by rfl, fun _ _ => rfl⟩) hS ?_
        try simp only [Act.put, List.setIfInBounds_toArray, List.set_cons_zero, List.set_cons_succ]
        refine wpAnyH_take (oi := ⟨_, _, _, _, _, _⟩) (i := 4) (v := ag (readC b) R cR) rfl (by kernel_rfl) (by kernel_rfl) (by kernel_rfl) (fun _ _ _ h => h) (yif_load rfl 28 (.tmp 6) rfl _ _ rfl HLD.out) hS ?_
        try simp only [Act.put, List.setIfInBounds_toArray, List.set_cons_zero, List.set_cons_succ]
        refine wpAnyH_take (oi := ⟨_, _, _, _, _, _⟩) (i := 6) (v := ag8 b) rfl (by kernel_rfl) (by kernel_rfl) (by kernel_rfl) (fun _ _ _ h => h) (yif_load rfl 49 (.tmp 5) rfl _ _ rfl HL5.out) hS ?_
        try simp only [Act.put, List.setIfInBounds_toArray, List.set_cons_zero, List.set_cons_succ]
        refine wpAnyH_all (rs := [5]) (by kernel_rfl) (by simp) fun i hi => ?_
        obtain rfl : i = 5 := by simpa using hi
        refine op_call (om := ⟨_, _, _, _, _, _⟩) (fn := 20) (args := #[ag (readC b) R cR]) (R := fun u W => u = ag8 (encL (readC b)) ∧ Below w6.heap.size w6 W) rfl rfl (by go_simp)
          ((HLA.out w6 hS).mono fun e W ⟨he, hb⟩ => ⟨_, he, rfl, hb⟩) _ _ rfl rfl ?_
        rintro u w7 ⟨rfl, hb⟩
        have hS : Below w5.heap.size w5 w7 := Below.trans hS (hb.mono hS.size)
        clear hb hi
        refine ⟨hS, ?_⟩
        try simp only [Act.put, List.setIfInBounds_toArray, List.set_cons_zero, List.set_cons_succ]
        refine wpAnyH_take (oi := ⟨_, _, _, _, _, _⟩) (i := 7) (v := .bool (!decide (encL (readC b) = b))) rfl (by kernel_rfl) (by kernel_rfl) (by kernel_rfl) (fun _ _ _ h => h) (Or.inl ⟨by rfl, fun W _ => ex_bin_agg .neq 49 49 (.tmp 25) (.tmp 26) rfl _ _ _ rfl rfl eqg_r (HNE.out W)⟩) hS ?_
        try simp only [Act.put, List.setIfInBounds_toArray, List.set_cons_zero, List.set_cons_succ]
        refine wpAnyH_take (oi := ⟨_, _, _, _, _, _⟩) (i := 8) (v := .bool (!decide (encL (readC b) = b))) rfl (by kernel_rfl) (by kernel_rfl) (by kernel_rfl) (fun _ _ _ h => h) (Or.inl ⟨by rfl, fun _ _ => by go_simp⟩) hS ?_
        try simp only [Act.put, List.setIfInBounds_toArray, List.set_cons_zero, List.set_cons_succ]
        refine wpAnyH_done (by kernel_rfl) ?_ _
        try simp only [Act.put, List.setIfInBounds_toArray, List.set_cons_zero, List.set_cons_succ]
        have w6s := hS.size
        by_cases hq : encL (readC b) = b
        · have hqd : (!decide (encL (readC b) = b)) = false := by simp [hq]
          rw [hqd]
          have hyes : isIn b = true := by unfold isIn; rw [HC.out]; simp [hq]
          have f0 := (hS.block w.heap.size (by omega)).trans E0.out
          have sr := run_storeAt_mid (P := Try.prog) w7 w.heap.size 0 28 #[St (readC b).name, .int .i64 (readC b).size, .slice R (readC b).ext.length cR] (there_cells (zs := [_, _, _]) f0 0 3 (by simp)) size_i (by simp [Value.oneCell'])
          obtain ⟨h1, k1⟩ := setCells_cells (zs := [_, _, _]) (ys := [St (readC b).name, .int .i64 (readC b).size, .slice R (readC b).ext.length cR]) f0 rfl
          have hb1 := (BE.out.trans (hS.mono BE.out.size)).trans (k1.toBelow w.heap.size (Nat.le_trans BE.out.size hS.size) (by intro k hk; omega))
          have lr := HLD.out w7 hS
          have xr7 : XR w7 w4.heap.size R (readC b).ext := XR4.out.below (hS.mono (Nat.le_of_lt s5))
          generalize w7.setCells w.heap.size 0 [St (readC b).name, .int .i64 (readC b).size, .slice R (readC b).ext.length cR] = w9 at *
          have xr9 : XR w9 w9.heap.size R (readC b).ext := by
            refine ⟨fun hn => ?_, xr7.ok⟩
            obtain ⟨ad', e, hb', hc'⟩ := xr7.ar hn
            have h7 : w4.heap.size ≤ w7.heap.size := by omega
            have hnw := HNEW.out ad' e hn
            refine ⟨ad', e, by have := k1.size; omega, fun k a ha j v hv => ?_⟩
            refine (World.cell?_of_block (w := w7) (k1.block _ ?_ ?_)).trans (hc' k a ha j v hv)
            · rw [block_add, block_add]; omega
            · rw [block_add, block_add]; omega
          have hdx : decX b = readC b := by simp [decX, hyes]
          have hde : decE b = 0 := by simp [decE, hyes]
          have HF1 : Hid (GivesD w b (.returned (.tuple #[.agg #[St (readC b).name, .int .i64 (readC b).size, .slice R (readC b).ext.length cR], .bool true, .int .i64 0])) w9) := ⟨R, cR, by rw [hdx, hde, hyes], by rw [hdx]; exact xr9, hb1⟩
          have SR2 := Lib.hid sr
          have LR2 := Lib.hid lr
          have H1 := Lib.hid h1
          clear sr lr h1 k1 hb1 f0 hS hyes xr7 xr9 hdx hde hq hqd
          go_wp2_with (first
            | ((with_reducible refine at_ (op := .load 28 (.tmp 6)) ?_); refine wpList_val rfl _ (ex_load 28 (.tmp 6) rfl _ _ rfl LR2.out) ?_)
            | ((with_reducible refine at_ (op := .store 28 (.tmp 2) (.tmp 30)) ?_); refine wpList_unit rfl (ex_store 28 (.tmp 2) (.tmp 30) rfl _ _ rfl rfl SR2.out) ?_)
            | fail)
          refine bodyPost_ret (v := .tuple #[.agg #[St (readC b).name, .int .i64 (readC b).size, .slice R (readC b).ext.length cR], .bool true, .int .i64 0]) ?_ rfl HF1.out
          exact results_row_tmp2 rfl _ _ w.heap.size 28 _ (0, 0) _ _ _ rfl rfl rfl H1.out Try.underlying28 rfl (by rw [size_i]; rfl)
        · have hqd : (!decide (encL (readC b) = b)) = true := by simp [hq]
          rw [hqd]
          have hno : isIn b = false := by unfold isIn; simp [hq]
          have f0 := (hS.block w.heap.size (by omega)).trans E0.out
          have sr := run_storeAt_mid (P := Try.prog) w7 w.heap.size 0 28 #[.string ⟨#[]⟩, .int .i64 0, .slice none 0 0] (there_cells (zs := [_, _, _]) f0 0 3 (by simp)) size_i (by simp [Value.oneCell'])
          obtain ⟨h1, k1⟩ := setCells_cells (zs := [_, _, _]) (ys := [.string ⟨#[]⟩, .int .i64 0, .slice none 0 0]) f0 rfl
          have hb1 := (BE.out.trans (hS.mono BE.out.size)).trans (k1.toBelow w.heap.size (Nat.le_trans BE.out.size hS.size) (by intro k hk; omega))
          generalize w7.setCells w.heap.size 0 [.string ⟨#[]⟩, .int .i64 0, .slice none 0 0] = w9 at *
          have HF1 := Lib.hid (givesD_no (b := b) hno hb1 110 (decE_bad hno HZ.out))
          have SR2 := Lib.hid sr
          have H1 := Lib.hid h1
          clear sr h1 k1 hb1 f0 hS hno
          go_wp2_with (first
            | ((with_reducible refine at_ (op := .store 28 (.tmp 2) (.tmp 29)) ?_); refine wpList_unit rfl (ex_store 28 (.tmp 2) (.tmp 29) rfl _ _ rfl rfl SR2.out) ?_)
            | fail)
          refine bodyPost_ret (v := .tuple #[.agg #[.string ⟨#[]⟩, .int .i64 0, .slice none 0 0], .bool false, .int .i64 110]) ?_ rfl HF1.out
          exact results_row_tmp2 rfl _ _ w.heap.size 28 _ (0, 0) _ _ _ rfl rfl rfl H1.out Try.underlying28 rfl (by rw [size_i]; rfl)
      · have hno : isIn b = false := by unfold isIn; simp [hc]
        have he : chkE (readC b) = 110 := by simp [chkE, hc]
        have HCK : Hid (∀ W, Below w5.heap.size w5 W → Calls Try.prog 15 #[ag (readC b) R cR] W (Gives W (.int .i64 110))) := fun W hW => by
          have := check_in (readC b) R cR W (HIN.out W hW)
          rwa [he] at this
        clear he hc
        refine wpAnyH_take (oi := ⟨_, _, _, _, _, _⟩) (i := 0) (v := ag (readC b) R cR) rfl (by kernel_rfl) (by kernel_rfl) (by kernel_rfl) (fun _ _ _ h => h) (yif_load rfl 28 (.tmp 6) rfl _ _ rfl HLD.out) hS ?_
        try simp only [Act.put, List.setIfInBounds_toArray, List.set_cons_zero, List.set_cons_succ]
        refine wpAnyH_all (rs := [1]) (by kernel_rfl) (by simp) fun i hi => ?_
        obtain rfl : i = 1 := by simpa using hi
        refine op_call (om := ⟨_, _, _, _, _, _⟩) (fn := 15) (args := #[ag (readC b) R cR]) (R := fun u W => u = .int .i64 110 ∧ Below w5.heap.size w5 W) rfl rfl (by go_simp)
          ((HCK.out w5 hS).mono fun e W ⟨he, hb⟩ => ⟨_, he, rfl, hb⟩) _ _ rfl rfl ?_
        rintro u w6 ⟨rfl, hb⟩
        have hS : Below w5.heap.size w5 w6 := Below.trans hS (hb.mono hS.size)
        clear hb hi
        refine ⟨hS, ?_⟩
        try simp only [Act.put, List.setIfInBounds_toArray, List.set_cons_zero, List.set_cons_succ]
        refine wpAnyH_take (oi := ⟨_, _, _, _, _, _⟩) (i := 2) (v := .bool true) rfl (by kernel_rfl) (by kernel_rfl) (by kernel_rfl) (fun _ _ _ h => h) (Or.inl ⟨by rfl, fun _ _ => by go_simp⟩) hS ?_
        try simp only [Act.put, List.setIfInBounds_toArray, List.set_cons_zero, List.set_cons_succ]
        refine wpAnyH_take (oi := ⟨_, _, _, _, _, _⟩) (i := 3) (v := .bool true) rfl (by kernel_rfl) (by kernel_rfl) (by kernel_rfl) (fun _ _ _ h => h) (Or.inl ⟨by rfl, fun _ _ => rfl⟩) hS ?_
        try simp only [Act.put, List.setIfInBounds_toArray, List.set_cons_zero, List.set_cons_succ]
        refine wpAnyH_take (oi := ⟨_, _, _, _, _, _⟩) (i := 4) (v := undef) rfl (by kernel_rfl) (by kernel_rfl) (by kernel_rfl) (fun _ _ _ h => h) (Or.inr ⟨by rfl, rfl⟩) hS ?_
        try simp only [Act.put, List.setIfInBounds_toArray, List.set_cons_zero, List.set_cons_succ]
        refine wpAnyH_take (oi := ⟨_, _, _, _, _, _⟩) (i := 5) (v := undef) rfl (by kernel_rfl) (by kernel_rfl) (by kernel_rfl) (fun _ _ _ h => h) (Or.inr ⟨by rfl, rfl⟩) hS ?_
        try simp only [Act.put, List.setIfInBounds_toArray, List.set_cons_zero, List.set_cons_succ]
        refine wpAnyH_take (oi := ⟨_, _, _, _, _, _⟩) (i := 6) (v := undef) rfl (by kernel_rfl) (by kernel_rfl) (by kernel_rfl) (fun _ _ _ h => h) (Or.inr ⟨by rfl, rfl⟩) hS ?_
        try simp only [Act.put, List.setIfInBounds_toArray, List.set_cons_zero, List.set_cons_succ]
        refine wpAnyH_take (oi := ⟨_, _, _, _, _, _⟩) (i := 7) (v := undef) rfl (by kernel_rfl) (by kernel_rfl) (by kernel_rfl) (fun _ _ _ h => h) (Or.inr ⟨by rfl, rfl⟩) hS ?_
        try simp only [Act.put, List.setIfInBounds_toArray, List.set_cons_zero, List.set_cons_succ]
        refine wpAnyH_take (oi := ⟨_, _, _, _, _, _⟩) (i := 8) (v := .bool true) rfl (by kernel_rfl) (by kernel_rfl) (by kernel_rfl) (fun _ _ _ h => h) (Or.inl ⟨by rfl, fun _ _ => by go_simp⟩) hS ?_
        try simp only [Act.put, List.setIfInBounds_toArray, List.set_cons_zero, List.set_cons_succ]
        refine wpAnyH_done (by kernel_rfl) ?_ _
        try simp only [Act.put, List.setIfInBounds_toArray, List.set_cons_zero, List.set_cons_succ]
        have f0 := (hS.block w.heap.size (by omega)).trans E0.out
        have sr := run_storeAt_mid (P := Try.prog) w6 w.heap.size 0 28 #[.string ⟨#[]⟩, .int .i64 0, .slice none 0 0] (there_cells (zs := [_, _, _]) f0 0 3 (by simp)) size_i (by simp [Value.oneCell'])
        obtain ⟨h1, k1⟩ := setCells_cells (zs := [_, _, _]) (ys := [.string ⟨#[]⟩, .int .i64 0, .slice none 0 0]) f0 rfl
        have hb1 := (BE.out.trans (hS.mono BE.out.size)).trans (k1.toBelow w.heap.size (Nat.le_trans BE.out.size hS.size) (by intro k hk; omega))
        generalize w6.setCells w.heap.size 0 [.string ⟨#[]⟩, .int .i64 0, .slice none 0 0] = w9 at *
        have HF1 := Lib.hid (givesD_no (b := b) hno hb1 110 (decE_bad hno HZ.out))
        have SR2 := Lib.hid sr
        have H1 := Lib.hid h1
        clear sr h1 k1 hb1 f0 hS hno
        go_wp2_with (first
          | ((with_reducible refine at_ (op := .store 28 (.tmp 2) (.tmp 29)) ?_); refine wpList_unit rfl (ex_store 28 (.tmp 2) (.tmp 29) rfl _ _ rfl rfl SR2.out) ?_)
          | fail)
        refine bodyPost_ret (v := .tuple #[.agg #[.string ⟨#[]⟩, .int .i64 0, .slice none 0 0], .bool false, .int .i64 110]) ?_ rfl HF1.out
        exact results_row_tmp2 rfl _ _ w.heap.size 28 _ (0, 0) _ _ _ rfl rfl rfl H1.out Try.underlying28 rfl (by rw [size_i]; rfl)
  · have hd := decE_len h64
    have HF := Lib.hid (givesD_no hd.1 bA 110 hd.2)
    have x0 : wA.cell? ⟨w.heap.size, 0, none⟩ = some (.string ⟨#[]⟩) := by rw [cell_of_row _ _ _ _ _ _ a0]; rfl
    have n1 : ((b.length : Int) != 64) = true := by simp; omega
    have sr := run_storeAt_mid (P := Try.prog) wA w.heap.size 0 28 #[.string ⟨#[]⟩, .int .i64 0, .slice none 0 0] (there_cells (zs := [_, _, _]) a0 0 3 (by simp)) size_i (by simp [Value.oneCell'])
    obtain ⟨h1, k1⟩ := setCells_cells (zs := [_, _, _]) (ys := [.string ⟨#[]⟩, .int .i64 0, .slice none 0 0]) a0 rfl
    have hb1 := bA.trans (k1.toBelow w.heap.size bA.size (by intro k hk; omega))
    rw [hwA] at sr h1 hb1
    generalize (w.alloc (.cells #[.string ⟨#[]⟩, .int .i64 0, .slice none 0 0] 28)).setCells w.heap.size 0 [.string ⟨#[]⟩, .int .i64 0, .slice none 0 0] = w1 at *
    have HF1 := Lib.hid (givesD_no hd.1 hb1 110 hd.2)
    have SR := Lib.hid sr
    have H1 := Lib.hid h1
    clear hx hd HF x0 sr h1 k1 hb1 a0 bA sA hwA h64
    go_enter Try.func17, Try.ntmps17
    go_wp2_with (first
      | ((with_reducible refine at_ (op := .store 28 (.tmp 2) (.tmp 10)) ?_); refine wpList_unit rfl (ex_store 28 (.tmp 2) (.tmp 10) rfl _ _ rfl rfl SR.out) ?_)
      | fail)
    refine bodyPost_ret (v := .tuple #[.agg #[.string ⟨#[]⟩, .int .i64 0, .slice none 0 0], .bool false, .int .i64 110]) ?_ rfl HF1.out
    exact results_row_tmp2 rfl _ _ w.heap.size 28 _ (0, 0) _ _ _ rfl rfl rfl H1.out Try.underlying28 rfl (by rw [size_i]; rfl)
end Go.Proofs.Ytcldbgmbkcpdgaa.Ino
