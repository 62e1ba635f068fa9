/-
  PrIt
-/
import Derived.Test.YthbkjndnconakaaPrTab
import Derived.Test.YthbkjndnconakaaGNd
import Derived.Test.YthbkjndnconakaaFsRange
import Derived.Test.YthbkjndnconakaaExIt
namespace Go.Proofs.Ythbkjndnconakaa.Pr
open Go.RowKit Go.Shelf
attribute [local go_sem] Oper.semAt_some
set_option linter.unusedVariables false
set_option linter.unusedSimpArgs false

/-- A primitive's number. -/
abbrev PN := { n : Nat // 1 ≤ n ∧ n ≤ 141 }
def pn (i : Nat) : PN := ⟨min i 140 + 1, by omega⟩
def numK (k : Nat) : List PN := (List.range k).map pn
def numL : List PN := numK 141
set_option maxRecDepth 100000 in
theorem numK_succ (k : Nat) : numK (k + 1) = numK k ++ [pn k] := by
  unfold numK
  rw [List.range_succ, List.map_append]
  rfl
theorem numK_len (k : Nat) : (numK k).length = k := by simp [numK]
theorem numK_prefix (k j : Nat) : numK k <+: numK (k + j) := by
  induction j with
  | zero => exact List.prefix_refl _
  | succ j ih =>
    refine ih.trans ?_
    rw [show k + (j + 1) = (k + j) + 1 from rfl, numK_succ]
    exact List.prefix_append _ _
theorem pn_val (k : Nat) (h : k < 141) : (pn k).1 = k + 1 := by show min k 140 + 1 = k + 1; omega
abbrev encP (x : PN) : Array Value := #[.int .i64 (x.1 : Int), pv (prAt x.1)]

/-- A row out of the table. -/
theorem idxP (w : World) (n : Nat) (hn : n < 142) : (Instr.index 37 tabV (.int .i64 (n : Int))).run Try.prog w = .ok (pv (prAt n)) w := by
  have hs : (sizeOf 24).run Try.prog w = .ok 5 w := by
    have := size_p
    unfold sizeOf typeInfo
    cases hq : Try.prog.info? 24 with
    | none => rw [hq] at this; cases this
    | some i =>
      rw [hq] at this
      simp only [Option.map_some, Option.some.injEq] at this
      simp [hq, this]
  have hagg : (isAgg 24).run Try.prog w = .ok true w := by
    unfold isAgg
    rw [Sem.run_bind, run_underlying Try.underlying24 w]
    rfl
  have he : List.take 5 (List.drop (n * 5) tabC) = pcl (prAt n) := flat_at pcl 5 (fun _ => rfl) _ n _ (prAt_get n hn)
  have hp : (part 24 tabC.toArray (n * 5)).run Try.prog w = .ok (pv (prAt n)) w := by
    simp [part, hagg, hs, he]
    rfl
  unfold Instr.index
  simp only [asIntOf, Sem.run_bind, Sem.run_pure, Result.andThen_ok, run_underlying Try.underlying37, tabV]
  rw [if_pos ⟨by omega, by omega⟩]
  simp only [Sem.run_bind, hs, Result.andThen_ok]
  rw [Int.toNat_natCast]
  exact hp

set_option maxRecDepth 100000 in
set_option maxHeartbeats 2000000 in
/-- The closure of All, for every loop body. -/
theorem all1_in (n : Nat) (hn : 1 ≤ n) (y : Nat) (J Jx : List PN → World → Prop)
    (W : World) (hJ : ∀ s W1 W2, J s W1 → Below W1.heap.size W1 W2 → J s W2)
    (hY : ∀ pre x W, J pre W → pre.length < 141 → (pre ++ [x] : List PN) <+: numL → YieldAt Fence.wide (n - 1) Try.prog y (encP x) W fun e W' =>
      (e = .returned (.bool true) ∧ J (pre ++ [x]) W' ∧ True) ∨ (e = .returned (.bool false) ∧ Jx (pre ++ [x]) W'))
    (h0 : J [] W) :
    CallsIn Fence.wide n Try.prog 23 #[.func (.yield y) #[] #[]] W fun e W' => (∃ v, e = .returned v) ∧
      ((∃ ys, ys = numL ∧ J ys W') ∨ (∃ pre, pre <+: numL ∧ Jx pre W')) := by
  have HJ := Lib.hid hJ
  have HY := Lib.hid hY
  have H0 := Lib.hid h0
  clear hJ hY h0
  have HT := Lib.hid (table_any W)
  have IX := fun w n hn => Lib.hid (idxP w n hn)
  refine callsIn_of_wp Try.func23 rfl trivial ?_ rfl
  simp only [Try.ntmps23, List.size_toArray, List.length_cons, List.length_nil, Nat.reduceAdd, Nat.reduceSub, Array.replicate_succ, Array.replicate_zero, List.push_toArray, List.append_toArray, List.nil_append, List.cons_append]
  gi_wp2
  refine ⟨trivial, ?_⟩
  refine (callsIn_wide.2 HT.out).mono ?_
  rintro e w1 ⟨rfl, hb1⟩
  have hj1 := HJ.out _ _ _ H0.out hb1
  clear HT H0 hb1
  generalize htv : tabV = tv at *
  have HTV := Lib.hid htv
  clear htv
  gi_wp2
  gi_loopw [2, 3, 5] (fun _ _ i wr => ∃ k : Nat, k ≤ 142 ∧ i = .int .i64 k ∧ J (numK (k - 1)) wr) (fun _ _ i _ => 142 - (RowKit.intOf i).toNat)
  case atStart => exact ⟨0, by omega, rfl, hj1⟩
  case round =>
    obtain ⟨k, hk, rfl, hJs⟩ := hrel
    clear hj1
    by_cases hlt : k < 142
    · have hi := fun w => (HTV.out ▸ (IX w k hlt).out : (Instr.index 37 tv (.int .i64 (k : Int))).run Try.prog w = .ok (pv (prAt k)) w)
      obtain ⟨xs, t, l, b1, b2, hq⟩ : ∃ xs t l b1 b2, pv (prAt k) = .agg #[St xs, .int .i64 t, .int .i64 l, .bool b1, .bool b2] := ⟨_, _, _, _, _, rfl⟩
      have d0 : decide ((k : Int) < 142) = true := by simp; omega
      have hb := fun (W2 : World) (o : Obj) => (Below.refl W2.heap.size W2).alloc (Nat.le_refl _) o
      have hj2 := HJ.out _ _ _ hJs (hb wr (.cells #[St xs, .int .i64 t, .int .i64 l, .bool b1, .bool b2] 24))
      have wk : IntKind.i64.wrap ((k : Int) + 1) = (k : Int) + 1 := by simp only [IntKind.wrap, IntKind.bits, IntKind.signed, Bool.true_and]; split <;> simp_all <;> omega
      by_cases h0 : k = 0
      · subst h0
        rw [hq] at hi
        have HI := fun w => Lib.hid (hi w)
        have HJ2 := Lib.hid hj2
        clear hJs hj2 hb hi hq wk
        gi_wp2_with (first
          | ((with_reducible refine atIn_ (op := .index 37 (.tmp 4) (.tmp 5)) ?_); refine wpListIn_val rfl (by intro c h; cases h) rfl _ (ex_index 37 (.tmp 4) (.tmp 5) rfl _ _ _ rfl rfl (HI _).out) ?_)
          | ((with_reducible refine atIn_ (d := some 15) ?_); refine wpListIn_skip (by rfl) (by rfl) ?_))
        go_roundw
        case rel => exact ⟨1, by omega, by go_num, HJ2.out⟩
        case measure => simp [RowKit.intOf]
      · obtain ⟨m, rfl⟩ : ∃ m, k = m + 1 := ⟨k - 1, by omega⟩
        have hp := numK_prefix (m + 1) (141 - (m + 1))
        rw [show m + 1 + (141 - (m + 1)) = 141 by omega] at hp
        have hpf : numK m ++ [pn m] <+: numL := by rw [← numK_succ]; exact hp
        obtain ⟨fn, tmps, assign, body, hy, hR⟩ := HY.out (numK m) (pn m) _ hj2 (by rw [numK_len]; omega) hpf
        rw [← numK_succ] at hR
        unfold encP at hy
        rw [pn_val m (by omega), hq] at hy
        simp only [Int.natCast_add, Int.natCast_one] at hy
        change (Instr.yield y #[.int .i64 ((m : Int) + 1), .agg #[St xs, .int .i64 t, .int .i64 l, .bool b1, .bool b2]]).run _ _ = _ at hy
        rw [hq] at hi
        have HI := fun w => Lib.hid (hi w)
        have HP := Lib.hid hp
        have d1 : decide ((0 : Int) < (m : Int) + 1) = true := by simp only [decide_eq_true_eq]; omega
        clear hJs hj2 hb hi hq hpf hp h0
        gi_wp2_with (first
          | ((with_reducible refine atIn_ (op := .index 37 (.tmp 4) (.tmp 5)) ?_); refine wpListIn_val rfl (by intro c h; cases h) rfl _ (ex_index 37 (.tmp 4) (.tmp 5) rfl _ _ _ rfl rfl (HI _).out) ?_))
        refine hR.mono ?_
        rintro e W3 (⟨rfl, hJ3, hk3⟩ | ⟨rfl, hJx3⟩)
        · gi_wp2
          go_roundw
          case rel => exact ⟨m + 1 + 1, by omega, by go_num, hJ3⟩
          case measure => simp [RowKit.intOf]; omega
        · gi_wp2
          refine bodyPost_ret (results_none rfl _ _ _) rfl ?_
          exact ⟨⟨_, rfl⟩, .inr ⟨_, HP.out, hJx3⟩⟩
    · obtain rfl : k = 142 := by omega
      gi_wp2
      go_end0
      exact ⟨⟨_, rfl⟩, .inl ⟨_, rfl, hJs⟩⟩
end Go.Proofs.Ythbkjndnconakaa.Pr
