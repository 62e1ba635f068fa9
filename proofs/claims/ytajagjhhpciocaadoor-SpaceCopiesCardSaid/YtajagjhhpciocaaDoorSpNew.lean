/-
  The contract of the code's New.
-/
import Derived.Test.YtajagjhhpciocaaDoorSpMap2
import Derived.Test.YtajagjhhpciocaaDoorBoth
import Derived.Test.YtajagjhhpciocaaDoorOps
namespace Go.Proofs.YtajagjhhpciocaaDoor.Sp
open Go.RowKit

theorem infoU64 : (Tryd.prog.info? 58).map (fun i => (i.zero, i.size, i.bytes)) = some (some (.int .u64 0), 1, 8) := by kernel_rfl
theorem make_set (n : Nat) (hn : n ≤ 1000000) (w : World) :
    (Instr.makeSlice 43 (.int .i64 (n : Int)) (.int .i64 (n : Int))).run Tryd.prog w = .ok (.slice (some ⟨w.heap.size, 0, none⟩) n n) (w.alloc (.cells (madeCells #[.int .u64 0] n) 58)) := by
  obtain ⟨i0, hi, hz0, hz1, hz2⟩ := info_parts infoU64
  exact run_make_row 43 58 i0 (.int .u64 0) Tryd.underlying43 hi hz0 hz1 rfl .i64 .i64 n (by rw [hz2]; omega) (by omega) w
theorem make_int (n : Nat) (hn : n ≤ 1000000) (w : World) :
    (Instr.makeSlice 37 (.int .i64 (n : Int)) (.int .i64 (n : Int))).run Tryd.prog w = .ok (.slice (some ⟨w.heap.size, 0, none⟩) n n) (w.alloc (.cells (madeCells #[.int .i64 0] n) 3)) := by
  obtain ⟨i0, hi, hz0, hz1, hz2⟩ := info_parts Tryd.infoInt
  exact run_make_row 37 3 i0 (.int .i64 0) Tryd.underlying37 hi hz0 hz1 rfl .i64 .i64 n (by rw [hz2]; omega) (by omega) w
theorem ex_makeSlice {P : Program} {w w' : World} {o : Oper} {ρ : Operand → Value} (t : TypeId) (x y : Operand) (ho : o.op = .makeSlice t x y) (a b v : Value) (hx : ρ x = a) (hy : ρ y = b) (hrun : (Instr.makeSlice t a b).run P w = .ok v w') : (execOp ρ o).run P w = .ok (.value v) w' := by
  unfold execOp
  simp only [ho, hx, hy, Sem.run_bind, hrun, Result.andThen_ok, Sem.run_pure]
/-- How many sectors New makes. -/
def nS (i : Int) : Nat := min i.toNat 2000
set_option maxHeartbeats 400000 in
theorem newSet_any (n : Nat) (hn : n ≤ 2000) (w : World) : Calls Tryd.prog 19 #[.int .i64 n] w fun e w' => e = .returned (.slice (some ⟨w.heap.size, 0, none⟩) (nw n) (nw n)) ∧ w' = w.alloc (.cells (madeCells #[.int .u64 0] (nw n)) 58) := by
  have hmk := make_set (nw n) (by unfold nw; omega) w
  have he : ((n : Int) + 64 - 1) / 64 = ((nw n : Nat) : Int) := by unfold nw; omega
  have MK := Lib.hid hmk
  clear hmk
  generalize nw n = m at *
  generalize madeCells #[.int .u64 0] m = C at *
  go_enter Tryd.func19, Tryd.ntmps19
  go_wp2_with ((with_reducible refine at_ (op := .makeSlice 43 (.tmp 6) (.tmp 6)) ?_); simp only [he]; refine wpList_val rfl _ (ex_makeSlice 43 (.tmp 6) (.tmp 6) rfl _ _ _ rfl rfl MK.out) ?_)
  go_ret
  exact ⟨rfl, rfl⟩

/-! ### New -/
/-- What is free of n sectors when those below 2 + i were put in. -/
def upTo (i j : Nat) : Bool := decide (2 ≤ j) && decide (j < 2 + i)
theorem words_zero (m : Nat) : List.replicate m 0 = (List.range m).map (word (upTo 0)) := by
  have h : ∀ k, word (upTo 0) k = 0 := fun k => by
    apply Nat.eq_of_testBit_eq
    intro i
    rw [word_bit]
    have : upTo 0 (64 * k + i) = false := by simp [upTo]
    simp [this]
  apply List.ext_getElem
  · simp
  · intro i h1 h2
    simp [h]
theorem map_set {f g : Nat → Bool} {n m : Nat} (h : ∀ i, i ≠ n → g i = f i) : ((List.range m).map (word f)).set (n / 64) (word g (n / 64)) = (List.range m).map (word g) := by
  apply List.ext_getElem
  · simp
  · intro k h1 h2
    rw [List.getElem_set]
    split
    · rename_i e; simp [e]
    · rename_i e
      simp only [List.getElem_map, List.getElem_range]
      exact (word_other h (fun h => e h.symm)).symm
theorem upTo_all (n : Nat) : (List.range (nw n)).map (word (upTo (n - 2))) = wsOf (List.replicate n 0) := by
  unfold wsOf
  rw [List.length_replicate]
  refine List.map_congr_left fun k _ => word_congr fun i hi => ?_
  by_cases h : 64 * k + i < n
  · simp [upTo, fr, List.getD_eq_getElem?_getD, h]; omega
  · rw [fr_out (by simpa using Nat.le_of_not_lt h)]
    simp [upTo]; omega
/-- What New leaves. -/
def NewM (w : World) (n : Nat) (e : Ending) (w' : World) : Prop := ∃ p, e = .returned (.pointer (some ⟨p, 0, none⟩)) ∧ MapS w' w.heap.size w'.heap.size p (List.replicate n 0) ∧ Below w.heap.size w w'
/-- The map while it is made. -/
structure Half (w wr : World) (n i p bc bf : Nat) : Prop where
  head : wr.heap[p]? = some (.cells #[.slice (some ⟨bc, 0, none⟩) n n, .slice (some ⟨bf, 0, none⟩) (nw n) (nw n)] 45 (0, 0))
  rc : RowK .i64 3 wr bc (List.replicate n 0)
  rf : RowK .u64 58 wr bf ((List.range (nw n)).map (word (upTo i)))
  kp : Keeps (fun k => w.heap.size ≤ k) w wr
  d1 : bc ≠ bf
  d2 : bc ≠ p
  d3 : bf ≠ p
  b1 : w.heap.size ≤ bc
  b2 : w.heap.size ≤ bf
  b3 : w.heap.size ≤ p
theorem Half.start {w w2 : World} {n bc bf : Nat} (hc : RowK .i64 3 w2 bc (List.replicate n 0)) (hf : RowK .u64 58 w2 bf (List.replicate (nw n) 0)) (kp : Keeps (fun _ => False) w w2) (d1 : bc ≠ bf) (b1 : w.heap.size ≤ bc) (b2 : w.heap.size ≤ bf) :
    Half w (w2.alloc (.cells #[.slice (some ⟨bc, 0, none⟩) n n, .slice (some ⟨bf, 0, none⟩) (nw n) (nw n)] 45)) n 0 w2.heap.size bc bf := by
  have ka : Keeps (fun _ => False) w2 (w2.alloc (.cells #[.slice (some ⟨bc, 0, none⟩) n n, .slice (some ⟨bf, 0, none⟩) (nw n) (nw n)] 45)) := Keeps.alloc _ _ _
  refine ⟨heap_alloc_new _ _, hc.block (ka.block _ hc.lt fun h => h), ?_, (kp.trans ka).mono (fun _ _ h => h.elim), d1, ?_, ?_, b1, b2, kp.size⟩
  · rw [← words_zero]
    exact hf.block (ka.block _ hf.lt fun h => h)
  · have := hc.lt; omega
  · have := hf.lt; omega
theorem Half.done {w wr : World} {n p bc bf : Nat} (h : Half w wr n (n - 2) p bc bf) (hn : n ≤ 2000) : NewM w n (.returned (.pointer (some ⟨p, 0, none⟩))) wr := by
  have hp : p < wr.heap.size := (Array.getElem?_eq_some_iff.1 h.head).1
  refine ⟨p, rfl, ⟨_, _, bc, bf, n, nw n, ⟨?_, by simpa using hn, fun _ => ⟨rfl, rfl⟩, fun _ => h.rc, fun _ => by rw [← upTo_all]; exact h.rf, h.d1, h.d2, h.d3⟩, h.b3, hp, h.b1, h.rc.lt, h.b2, h.rf.lt⟩, h.kp.toBelow _ (Nat.le_refl _) fun _ h => h⟩
  rw [List.length_replicate]
  exact h.head
theorem Half.next {w wr w2 : World} {n i p bc bf : Nat} (h : Half w wr n i p bc bf) (hf : RowK .u64 58 w2 bf ((List.range (nw n)).map (word (upTo (i + 1))))) (k : Keeps (· = bf) wr w2) : Half w w2 n (i + 1) p bc bf := by
  have hp : p < wr.heap.size := (Array.getElem?_eq_some_iff.1 h.head).1
  exact ⟨(k.block p hp (fun e => h.d3 e.symm)).trans h.head, h.rc.block (k.block bc h.rc.lt (fun e => h.d1 e)), hf, h.kp.trans (k.mono fun j _ e => by rw [e]; exact h.b2), h.d1, h.d2, h.d3, h.b1, h.b2, h.b3⟩
theorem build_map (w : World) (x y : Value) (a b : Addr) (n c n' c' : Nat) (hx : x = .slice (some a) n c) (hy : y = .slice (some b) n' c') : (Instr.build 45 #[(0, x), (1, y)]).run Tryd.prog w = .ok (.agg #[x, y]) w := by
  subst hx hy
  kernel_rfl
set_option maxRecDepth 100000 in
set_option maxHeartbeats 1000000 in
theorem new_in (i : Int) (n : Nat) (w : World) (hi : (if 2000 < (if i < 0 then 0 else i) then 2000 else (if i < 0 then 0 else i)) = (n : Int)) (hn : n ≤ 2000) : Calls Tryd.prog 8 #[.int .i64 i] w (NewM w n) := by
  go_enter Tryd.func8, Tryd.ntmps8
  go_wp2_with fail
  all_goals
    refine wp_region_any (by kernel_rfl) ?_
    change wpAny _ _ _ _ _ _ _ w.drew
    have kd : Keeps (fun _ => False) w w.drew := Keeps.drew _ _
    generalize w.drew = w0 at *
    refine wpAny_take (oi := ⟨_, _, _, _, _, _⟩) (i := 0) (v := .int .i64 (n : Int)) rfl (by kernel_rfl) (by kernel_rfl) (by kernel_rfl) (fun _ _ _ h => h) (Or.inl ⟨by rfl, fun _ => rfl⟩) ?_
    refine wpAny_take (oi := ⟨_, _, _, _, _, _⟩) (i := 2) (v := .int .i64 (n : Int)) rfl (by kernel_rfl) (by kernel_rfl) (by kernel_rfl) (fun _ _ _ h => h) (Or.inl ⟨by rfl, fun _ => rfl⟩) ?_
    simp only [Act.put, List.setIfInBounds_toArray, List.set_cons_zero, List.set_cons_succ]
    refine wpAny_all (rs := [1, 3]) (by kernel_rfl) (by simp) fun j hj => ?_
    have hj2 : j = 1 ∨ j = 3 := by simpa using hj
    clear hj
    rcases hj2 with rfl | rfl
    · refine op_run (om := ⟨_, _, _, _, _, _⟩) rfl rfl (ex_makeSlice 37 (.tmp 9) (.tmp 9) rfl _ _ _ rfl rfl (make_int n (by omega) w0)) _ _ rfl rfl ?_
      rintro u w1 ⟨rfl, rfl⟩
      simp only [Act.put, List.setIfInBounds_toArray, List.set_cons_zero, List.set_cons_succ]
      refine any_call 3 ⟨_, _, _, _, _, _⟩ 19 #[.int .i64 (n : Int)] rfl (by kernel_rfl) rfl (by go_simp) (fun u w' => u = .slice (some ⟨w0.heap.size + 1, 0, none⟩) (nw n) (nw n) ∧ w' = (w0.alloc (.cells (madeCells #[.int .i64 0] n) 3)).alloc (.cells (madeCells #[.int .u64 0] (nw n)) 58)) ((newSet_any n hn _).mono fun e w' ⟨he, hw⟩ => ⟨_, he, by simp, hw⟩) ?_
      rintro u w2 ⟨rfl, hw2⟩
      have rc : RowK .i64 3 w2 w0.heap.size (List.replicate n 0) := by
        rw [hw2]
        exact (RowK.made .i64 w0 n 3).block (Below.heap_alloc _ _ _ (by simp))
      have rf : RowK .u64 58 w2 (w0.heap.size + 1) (List.replicate (nw n) 0) := by
        rw [hw2]
        have := RowK.made .u64 (w0.alloc (.cells (madeCells #[.int .i64 0] n) 3)) (nw n) 58
        rwa [World.size_alloc] at this
      have kk : Keeps (fun _ => False) w0 w2 := by rw [hw2]; exact (Keeps.alloc _ _ _).trans (Keeps.alloc _ _ _)
      have HH := Lib.hid (Half.start rc rf (kd.trans kk) (by omega) kd.size (by have := kd.size; omega))
      clear rc rf kk hw2 kd
      generalize w0.heap.size = bc at *
      generalize bc + 1 = bf at *
      generalize hpe : w2.heap.size = p at *
      have hpn := Lib.hid hpe
      clear hpe
      simp only [Act.put, List.setIfInBounds_toArray, List.set_cons_zero, List.set_cons_succ]
      refine wpAny_of_chain [4, 5, 6] [_, _, _] _ _ _ rfl (by kernel_rfl) ?_
      have HH2 : Hid (Half w (w2.alloc (.cells #[.slice (some ⟨bc, 0, none⟩) n n, .slice (some ⟨bf, 0, none⟩) (nw n) (nw n)] 45)) n 0 w2.heap.size bc bf) := by
        have e := hpn.out
        subst e
        exact HH
      clear HH hpn
      go_wp2_with fail
      go_loopw [17, 5] (fun i _ wr => ∃ k : Nat, k ≤ n - 2 ∧ i = .int .i64 (k : Int) ∧ Half w wr n k w2.heap.size bc bf) (fun i _ _ => (n - 2) - (intOf i).toNat)
      case atStart => exact ⟨0, by omega, rfl, HH2.out⟩
      case round =>
        obtain ⟨k, hk, rfl, hf⟩ := hrel
        clear HH2
        generalize w2.heap.size = p at *
        by_cases hlt : k < n - 2
        · have c1 : wr.cell? ⟨p, 1, none⟩ = some (.slice (some ⟨bf, 0, none⟩) (nw n) (nw n)) := by rw [cell_of_row _ _ _ _ _ _ hf.head]; rfl
          have hl : ((List.range (nw n)).map (word (upTo k))).length = nw n := by simp
          have hq : (2 + k) / 64 < nw n := by unfold nw; omega
          have hne : ∀ i, i ≠ 2 + k → upTo (k + 1) i = upTo k i := fun i hi => by
            unfold upTo
            have : (i < 2 + (k + 1)) = (i < 2 + k) := by rw [eq_iff_iff]; omega
            simp only [this]
          have hu := word_put_bits (f := upTo k) (g := upTo (k + 1)) (n := 2 + k) (by simp [upTo]) hne
          rw [show word (upTo k) ((2 + k) / 64) = ((List.range (nw n)).map (word (upTo k))).getD ((2 + k) / 64) 0 from by simp [List.getD_eq_getElem?_getD, hq]] at hu
          have hput := put_any hf.rf (2 + k) (nw n) (by rw [hl]; exact hq) (by rw [hl]; unfold nw; omega) _ hu
          rw [hl, map_set hne] at hput
          rw [show ((2 + k : Nat) : Int) = 2 + (k : Int) from by omega] at hput
          have HP := Lib.hid hput
          have HF := Lib.hid hf
          clear hput hu hne hl hf
          go_wp2_with fail
          all_goals
            refine HP.out.mono ?_
            rintro e w3 ⟨rfl, r3, k3⟩
            have H3 := Lib.hid (HF.out.next r3 k3)
            clear HP HF r3 k3 c1
            go_wp2_with fail
            go_roundw
            case rel => exact ⟨k + 1, by omega, by go_num, H3.out⟩
            case measure => simp [intOf]; omega
        · obtain rfl : k = n - 2 := by omega
          have HF := Lib.hid (hf.done hn)
          clear hf
          go_wp2_with fail
          go_ret
          exact HF.out
    · refine op_call (om := ⟨_, _, _, _, _, _⟩) (fn := 19) (args := #[.int .i64 (n : Int)]) (R := fun u w' => u = .slice (some ⟨w0.heap.size, 0, none⟩) (nw n) (nw n) ∧ w' = w0.alloc (.cells (madeCells #[.int .u64 0] (nw n)) 58)) rfl rfl (by go_simp) ((newSet_any n hn _).mono fun e w' ⟨he, hw⟩ => ⟨_, he, rfl, hw⟩) _ _ rfl rfl ?_
      rintro u w1 ⟨rfl, hw1⟩
      simp only [Act.put, List.setIfInBounds_toArray, List.set_cons_zero, List.set_cons_succ]
      refine wpAny_all (rs := [1]) (by kernel_rfl) (by simp) fun j hj => ?_
      obtain rfl : j = 1 := by simpa using hj
      refine op_run (om := ⟨_, _, _, _, _, _⟩) rfl rfl (ex_makeSlice 37 (.tmp 9) (.tmp 9) rfl _ _ _ rfl rfl (make_int n (by omega) w1)) _ _ rfl rfl ?_
      rintro u w2 ⟨rfl, hw2⟩
      have hs1 : w1.heap.size = w0.heap.size + 1 := by rw [hw1]; simp
      have rf : RowK .u64 58 w2 w0.heap.size (List.replicate (nw n) 0) := by
        rw [hw2]
        refine RowK.block (w := w1) ?_ (Below.heap_alloc _ _ _ (by omega))
        rw [hw1]
        exact RowK.made .u64 w0 (nw n) 58
      have rc : RowK .i64 3 w2 w1.heap.size (List.replicate n 0) := by rw [hw2]; exact RowK.made .i64 w1 n 3
      have kk : Keeps (fun _ => False) w0 w2 := by rw [hw2, hw1]; exact (Keeps.alloc _ _ _).trans (Keeps.alloc _ _ _)
      have HH := Lib.hid (Half.start rc rf (kd.trans kk) (by omega) (by have := kd.size; omega) kd.size)
      clear rc rf kk hw2 kd hs1 hj
      generalize w1.heap.size = bc at *
      generalize w0.heap.size = bf at *
      clear hw1
      generalize hpe : w2.heap.size = p at *
      have hpn := Lib.hid hpe
      clear hpe
      simp only [Act.put, List.setIfInBounds_toArray, List.set_cons_zero, List.set_cons_succ]
      refine wpAny_of_chain [4, 5, 6] [_, _, _] _ _ _ rfl (by kernel_rfl) ?_
      have HH2 : Hid (Half w (w2.alloc (.cells #[.slice (some ⟨bc, 0, none⟩) n n, .slice (some ⟨bf, 0, none⟩) (nw n) (nw n)] 45)) n 0 w2.heap.size bc bf) := by
        have e := hpn.out
        subst e
        exact HH
      clear HH hpn
      go_wp2_with fail
      go_loopw [17, 5] (fun i _ wr => ∃ k : Nat, k ≤ n - 2 ∧ i = .int .i64 (k : Int) ∧ Half w wr n k w2.heap.size bc bf) (fun i _ _ => (n - 2) - (intOf i).toNat)
      case atStart => exact ⟨0, by omega, rfl, HH2.out⟩
      case round =>
        obtain ⟨k, hk, rfl, hf⟩ := hrel
        clear HH2
        generalize w2.heap.size = p at *
        by_cases hlt : k < n - 2
        · have c1 : wr.cell? ⟨p, 1, none⟩ = some (.slice (some ⟨bf, 0, none⟩) (nw n) (nw n)) := by rw [cell_of_row _ _ _ _ _ _ hf.head]; rfl
          have hl : ((List.range (nw n)).map (word (upTo k))).length = nw n := by simp
          have hq : (2 + k) / 64 < nw n := by unfold nw; omega
          have hne : ∀ i, i ≠ 2 + k → upTo (k + 1) i = upTo k i := fun i hi => by
            unfold upTo
            have : (i < 2 + (k + 1)) = (i < 2 + k) := by rw [eq_iff_iff]; omega
            simp only [this]
          have hu := word_put_bits (f := upTo k) (g := upTo (k + 1)) (n := 2 + k) (by simp [upTo]) hne
          rw [show word (upTo k) ((2 + k) / 64) = ((List.range (nw n)).map (word (upTo k))).getD ((2 + k) / 64) 0 from by simp [List.getD_eq_getElem?_getD, hq]] at hu
          have hput := put_any hf.rf (2 + k) (nw n) (by rw [hl]; exact hq) (by rw [hl]; unfold nw; omega) _ hu
          rw [hl, map_set hne] at hput
          rw [show ((2 + k : Nat) : Int) = 2 + (k : Int) from by omega] at hput
          have HP := Lib.hid hput
          have HF := Lib.hid hf
          clear hput hu hne hl hf
          go_wp2_with fail
          all_goals
            refine HP.out.mono ?_
            rintro e w3 ⟨rfl, r3, k3⟩
            have H3 := Lib.hid (HF.out.next r3 k3)
            clear HP HF r3 k3 c1
            go_wp2_with fail
            go_roundw
            case rel => exact ⟨k + 1, by omega, by go_num, H3.out⟩
            case measure => simp [intOf]; omega
        · obtain rfl : k = n - 2 := by omega
          have HF := Lib.hid (hf.done hn)
          clear hf
          go_wp2_with fail
          go_ret
          exact HF.out
theorem new_any (i : Int) (w : World) : Calls Tryd.prog 8 #[.int .i64 i] w (NewM w (nS i)) := by
  refine new_in i _ w ?_ (by unfold nS; omega)
  unfold nS
  split <;> split at * <;> omega
end Go.Proofs.YtajagjhhpciocaaDoor.Sp
