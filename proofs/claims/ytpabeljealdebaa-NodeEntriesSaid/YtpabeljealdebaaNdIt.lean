/-
  Entries of a node: what comes, in order; the contract of the iterator.
-/
import Derived.Test.YtpabeljealdebaaNd
import Derived.Test.YtpabeljealdebaaOpsIn
namespace Go.Proofs.Ytpabeljealdebaa
open Go.RowKit Go.Shelf
attribute [local go_sem] Oper.semAt_some

/-- An entry: a place from 0 to 31 and a number that isn't 0. -/
abbrev EN := { p : Nat × Int // p.1 < 32 ∧ p.2 ≠ 0 }
abbrev encE (x : EN) : Array Value := #[.int .i64 (x.1.1 : Int), .int .i64 x.1.2]
/-- What comes of the first k entries. -/
def entsK (zs : List Int) : Nat → List EN
  | 0 => []
  | k + 1 => if h : k < 32 ∧ zs.getD k 0 ≠ 0 then entsK zs k ++ [⟨(k, zs.getD k 0), h⟩] else entsK zs k
theorem entsK_yes (zs : List Int) (k : Nat) (h : k < 32 ∧ zs.getD k 0 ≠ 0) : entsK zs (k + 1) = entsK zs k ++ [⟨(k, zs.getD k 0), h⟩] := by rw [entsK, dif_pos h]
theorem entsK_no (zs : List Int) (k : Nat) (h : zs.getD k 0 = 0) : entsK zs (k + 1) = entsK zs k := by rw [entsK, dif_neg (fun h' => h'.2 h)]
theorem entsK_len (zs : List Int) (k : Nat) : (entsK zs k).length ≤ k := by
  induction k with
  | zero => simp [entsK]
  | succ k ih =>
    rw [entsK]
    split
    · simp; omega
    · omega
theorem entsK_prefix (zs : List Int) (k j : Nat) : entsK zs k <+: entsK zs (k + j) := by
  induction j with
  | zero => exact List.prefix_refl _
  | succ j ih =>
    refine ih.trans ?_
    rw [show k + (j + 1) = (k + j) + 1 from rfl, entsK]
    split
    · exact List.prefix_append _ _
    · exact List.prefix_refl _

theorem idxN (w : World) {zs : List Int} (hl : zs.length = 32) {k : Nat} (hk : k < 32) : (Instr.index 23 (ng zs) (.int .i64 (k : Int))).run Try.prog w = .ok (.int .i64 (zs.getD k 0)) w := by
  have hp : (part 3 (zs.map I6).toArray (k * 1)).run Try.prog w = .ok (.int .i64 (zs.getD k 0)) w := by
    simp [part, isAgg, run_underlying Try.underlying3, List.getD, List.getElem?_eq_getElem (show k < zs.length by omega)]
  unfold Instr.index
  simp only [asIntOf, Sem.run_bind, Sem.run_pure, Result.andThen_ok, run_underlying Try.underlying23, ng]
  rw [if_pos ⟨by omega, by omega⟩]
  simp only [Sem.run_bind, sizeI, Result.andThen_ok]
  rw [Int.toNat_natCast]
  exact hp

set_option maxRecDepth 100000 in
set_option maxHeartbeats 2000000 in
/-- The closure of Entries, for every loop body. -/
theorem entries1_in (F : Fence) (n : Nat) (h : F.fn 26) (hro : F.round = none) (hn : 1 ≤ n) (l B : Nat) (zs : List Int) (hl : zs.length = 32) (J Jx : List EN → World → Prop)
    (hY : ∀ pre x W, J pre W → pre.length < 32 → YieldAt F (n - 1) Try.prog l (encE x) W fun e W' =>
      (e = .returned (.bool true) ∧ J (pre ++ [x]) W' ∧ True) ∨ (e = .returned (.bool false) ∧ Jx (pre ++ [x]) W'))
    (W : World) (hB : NB W B zs) (h0 : J [] W) :
    CallsIn F n Try.prog 26 #[.func (.yield l) #[] #[], .pointer (some ⟨B, 0, none⟩)] W fun e W' => (∃ v, e = .returned v) ∧
      ((∃ ys, ys = entsK zs 32 ∧ J ys W') ∨ (∃ pre, pre <+: entsK zs 32 ∧ Jx pre W')) := by
  have L1 := Lib.hid (hB.load hl)
  refine callsIn_of_wp Try.func26 rfl h ?_ hro
  simp only [Try.ntmps26, List.size_toArray, List.length_cons, List.length_nil, Nat.reduceAdd, Nat.reduceSub, Array.replicate_succ, Array.replicate_zero, List.push_toArray, List.append_toArray, List.nil_append, List.cons_append]
  clear hB
  gi_wp2_with ((with_reducible refine atIn_ (op := .load 23 (.tmp 1)) ?_); refine wpListIn_val rfl (by intro c h; cases h) rfl _ (ex_load 23 (.tmp 1) rfl _ _ rfl L1.out) ?_)
  clear L1
  gi_loopw [6] (fun i wr => ∃ k : Nat, k ≤ 32 ∧ i = .int .i64 k ∧ J (entsK zs k) wr) (fun i _ => 32 - (intOf i).toNat)
  case atStart => exact ⟨0, Nat.zero_le _, rfl, h0⟩
  case round =>
    obtain ⟨k, hk, rfl, hJs⟩ := hrel
    by_cases hlt : k < 32
    · have IX := fun w => Lib.hid (idxN w hl hlt)
      by_cases hz : zs.getD k 0 = 0
      · have HE := Lib.hid (entsK_no zs k hz)
        generalize zs.getD k 0 = z at *
        subst hz
        gi_wp2_with ((with_reducible refine atIn_ (op := .index 23 (.tmp 5) (.tmp 6)) ?_); refine wpListIn_val rfl (by intro c h; cases h) rfl _ (ex_index 23 (.tmp 5) (.tmp 6) rfl _ _ _ rfl rfl (IX _).out) ?_)
        refine ⟨fun _ h => (by cases h), ?_⟩
        gi_wp2
        go_roundw
        case rel => exact ⟨k + 1, by omega, by go_num, by rw [HE.out]; exact hJs⟩
        case measure => simp [intOf]; omega
      · have HE := Lib.hid (entsK_yes zs k ⟨hlt, hz⟩)
        have hlen := entsK_len zs k
        obtain ⟨fn, tmps, assign, body, hy, hR⟩ := hY (entsK zs k) ⟨(k, zs.getD k 0), hlt, hz⟩ wr hJs (by omega)
        have hp := Lib.hid (entsK_prefix zs (k + 1) (32 - (k + 1)))
        have HZ := Lib.hid hl
        rw [← HE.out] at hR
        have hz1 : (zs.getD k 0 == 0) = false := by simpa using hz
        have hz2 : (zs.getD k 0 != 0) = true := by simpa using hz
        clear HE
        change (Instr.yield l #[.int .i64 (k : Int), .int .i64 (zs.getD k 0)]).run _ wr = _ at hy
        generalize zs.getD k 0 = z at *
        clear hlen
        gi_wp2_with ((with_reducible refine atIn_ (op := .index 23 (.tmp 5) (.tmp 6)) ?_); refine wpListIn_val rfl (by intro c h; cases h) rfl _ (ex_index 23 (.tmp 5) (.tmp 6) rfl _ _ _ rfl rfl (IX _).out) ?_)
        refine hR.mono ?_
        rintro e W3 (⟨rfl, hJ3, hk3⟩ | ⟨rfl, hJx3⟩)
        · gi_wp2
          go_roundw
          case rel => exact ⟨k + 1, by omega, by go_num, hJ3⟩
          case measure => simp [intOf]; omega
        · gi_wp2
          refine bodyPost_ret (results_none rfl _ _ _) rfl ?_
          exact ⟨⟨_, rfl⟩, .inr ⟨_, by have := hp.out; rwa [show k + 1 + (32 - (k + 1)) = 32 from by omega] at this, hJx3⟩⟩
    · obtain rfl : k = 32 := by omega
      gi_wp2
      go_end0
      exact ⟨⟨_, rfl⟩, .inl ⟨_, rfl, hJs⟩⟩
theorem entries_stops (F : Fence) (n : Nat) (h : F.fn 26) (hro : F.round = none) (hn : 1 ≤ n) (B : Nat) (zs : List Int) (hl : zs.length = 32) (w : World) (hB : NB w B zs) :
    SeqStopsK F n Try.prog 26 #[.pointer (some ⟨B, 0, none⟩)] encE (fun _ _ => True) (fun ys => ys = entsK zs 32) (fun pre => pre <+: entsK zs 32) 32 w := fun l J Jx W hW _ _ hY h0 =>
  entries1_in F n h hro hn l B zs hl J Jx hY W (hB.below hW hB.lt) h0

set_option maxHeartbeats 400000 in
theorem entries_any (zs : List Int) (w : World) :
    Calls Try.prog 19 #[ng zs] w fun e w' => e = .returned (.func (.func 26) #[] #[.pointer (some ⟨w.heap.size, 0, none⟩)]) ∧ w' = w.alloc (.cells (zs.map I6).toArray 23) := by
  have hmf : ∀ (fn : Fn) (first cap : Array Value) (w : World), (Instr.makeFunc fn first cap).run Try.prog w = .ok (.func fn first cap) w := fun _ _ _ _ => rfl
  go_enter Try.func19, Try.ntmps19
  go_wp2_with ((with_reducible refine at_ (op := .box 23 (.tmp 0)) ?_); refine wpList_val rfl _ (ex_box 23 (.tmp 0) rfl _ _ rfl (boxN _ _)) ?_)
  go_ret
  exact ⟨rfl, rfl⟩

/-! ### what has been seen -/
def lastF (l : List EN) : Int := l.foldl (fun _ x => (x.1.1 : Int)) (-1)
def seenF (l : List EN) : List Int := l.foldl (fun s x => s.set x.1.1 x.1.2) z32
theorem lastF_snoc (l : List EN) (x : EN) : lastF (l ++ [x]) = x.1.1 := by simp [lastF]
theorem seenF_snoc (l : List EN) (x : EN) : seenF (l ++ [x]) = (seenF l).set x.1.1 x.1.2 := by simp [seenF]
theorem seenF_len (l : List EN) : (seenF l).length = 32 := by
  have : ∀ (l : List EN) (s : List Int), (l.foldl (fun s x => s.set x.1.1 x.1.2) s).length = s.length := by
    intro l
    induction l with
    | nil => intro s; rfl
    | cons x r ih => intro s; rw [List.foldl_cons, ih, List.length_set]
  rw [seenF, this, z32_len]
theorem lastF_bd (l : List EN) : -1 ≤ lastF l ∧ lastF l < 32 := by
  rcases List.eq_nil_or_concat l with rfl | ⟨q, y, rfl⟩
  · simp [lastF]
  · rw [List.concat_eq_append, lastF_snoc]
    have := y.2.1
    omega
/-- Places rise. -/
def Rise (l : List EN) : Prop := ∀ q y, q ++ [y] <+: l → lastF q < y.1.1
theorem entsK_last (zs : List Int) (k : Nat) : lastF (entsK zs k) < k := by
  induction k with
  | zero => simp [entsK, lastF]
  | succ k ih =>
    rw [entsK]
    split
    · rw [lastF_snoc]; simp; omega
    · omega
theorem entsK_rise (zs : List Int) (k : Nat) : Rise (entsK zs k) := by
  induction k with
  | zero =>
    intro q y h
    have := h.length_le
    simp [entsK] at this
  | succ k ih =>
    rw [entsK]
    split
    · rename_i hk
      intro q y h
      rcases List.prefix_concat_iff.1 h with e | h
      · obtain ⟨rfl, e2⟩ := List.append_inj' e rfl
        simp only [List.cons.injEq, and_true] at e2
        subst e2
        exact entsK_last zs k
      · exact ih q y h
    · exact ih
theorem seenF_ents (zs : List Int) (hl : zs.length = 32) (k : Nat) (hk : k ≤ 32) : seenF (entsK zs k) = zs.take k ++ List.replicate (32 - k) 0 := by
  induction k with
  | zero => simp [entsK, seenF, z32]
  | succ k ih =>
    have ih := ih (by omega)
    have h1 : zs.take (k + 1) = zs.take k ++ [zs.getD k 0] := by
      rw [List.take_succ_eq_append_getElem (by omega)]
      simp [List.getD_eq_getElem?_getD, List.getElem?_eq_getElem (show k < zs.length by omega)]
    have h2 : List.replicate (32 - k) (0 : Int) = 0 :: List.replicate (32 - (k + 1)) 0 := by
      rw [show 32 - k = (32 - (k + 1)) + 1 from by omega, List.replicate_succ]
    rw [entsK]
    split
    · rw [seenF_snoc, ih, h1, List.set_append_right _ _ (by simp; omega)]
      simp only [List.length_take, show k - min k zs.length = 0 from by omega]
      rw [h2, List.set_cons_zero]
      simp
    · rename_i hz
      have h0 : zs.getD k 0 = 0 := Classical.byContradiction fun h => hz ⟨by omega, h⟩
      rw [ih, h1, h0, h2]
      simp
theorem seenF_all (zs : List Int) (hl : zs.length = 32) : seenF (entsK zs 32) = zs := by
  rw [seenF_ents zs hl 32 (Nat.le_refl _), List.take_of_length_le (by omega)]
  simp
end Go.Proofs.Ytpabeljealdebaa
