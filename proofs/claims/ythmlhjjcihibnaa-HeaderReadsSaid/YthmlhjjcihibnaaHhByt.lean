/-
  HhByt
-/
import Derived.Test.YthmlhjjcihibnaaHhMrkR
import Derived.Test.YthmlhjjcihibnaaGLe
import Derived.Test.YthmlhjjcihibnaaMmRefW
namespace Go.Proofs.Ythmlhjjcihibnaa.Hh
open Go.RowKit Go.Maps Mm Sk
set_option linter.unusedVariables false
set_option linter.unusedSimpArgs false

section
variable {P : Program} {w w' : World} {o : Oper} {ρ : Operand → Value}
theorem ex_eqlX (x y : Operand) (ho : o.op = .binOp .eql 9 x y 9) (xs ys : List UInt8) (hx : ρ x = Sx xs) (hy : ρ y = Sx ys) : (execOp ρ o).run Try.prog w = .ok (.value (.bool (decide (xs = ys)))) w := by
  unfold Sx at hx hy
  unfold execOp
  simp only [ho, hx, hy]
  go_simp
  by_cases h : xs = ys <;> simp [h]
theorem ex_makeX (t : TypeId) (x y : Operand) (ho : o.op = .makeSlice t x y) (a b v : Value) (hx : ρ x = a) (hy : ρ y = b) (hrun : (Instr.makeSlice t a b).run P w = .ok v w') : (execOp ρ o).run P w = .ok (.value v) w' := by
  unfold execOp
  simp only [ho, hx, hy, Sem.run_bind, hrun, Result.andThen_ok, Sem.run_pure]
theorem ex_copyB (s x : Operand) (t t' : TypeId) (ho : o.op = .call { callee := .builtin .copy, args := #[s, x], argTypes := #[t, t'] }) (v : Value) (hrun : (Builtin.copy_ #[t, t'] o.type #[ρ s, ρ x]).run P w = .ok v w') : (execOp ρ o).run P w = .ok (.value v) w' := by
  unfold execOp
  simp only [ho, resolve, invoke, builtin, Sem.run_bind, Sem.run_pure, Result.andThen_ok, List.map_toArray, List.map_cons, List.map_nil, hrun]
theorem ex_lenX (x : Operand) (ho : o.op = .call { callee := .builtin .len, args := #[x], argTypes := #[9] }) (xs : List UInt8) (hx : ρ x = Sx xs) : (execOp ρ o).run Try.prog w = .ok (.value (.int .i64 (xs.length : Int))) w := by
  unfold Sx at hx
  have st : (⟨xs.toArray⟩ : ByteArray).size = xs.length := by show xs.toArray.size = _; simp
  unfold execOp
  simp only [ho, resolve, invoke, builtin, Sem.run_bind, Sem.run_pure, Result.andThen_ok, List.map_toArray, List.map_cons, List.map_nil, hx]
  simp [Builtin.len_, Builtin.lenOf, goInt, run_underlying Try.underlying9, st]
end
theorem copy_str {P : Program} (w : World) (dT sT ty elem : TypeId) (hu : P.underlying dT = some (.slice elem)) (hsz : (P.info? elem).map (·.size) = some 1)
    (b o dLen dCap : Nat) (xs : List UInt8) (hle : xs.length ≤ dLen) (h : w.there b o xs.length) :
    (Builtin.copy_ #[dT, sT] ty #[.slice (some ⟨b, o, none⟩) dLen dCap, Sx xs]).run P w = .ok (goInt xs.length) (w.setCells b o (xs.map B8)) := by
  unfold Sx
  have hst := run_storeCells_cells (P := P) b o (xs.map B8) 0 w (by simpa using fun j hj => (h j hj).1) (by simpa using fun j hj => (h j hj).2) (by
    intro v hv
    simp only [List.mem_map] at hv
    obtain ⟨u, _, rfl⟩ := hv
    rfl)
  have e1 : min xs.length dLen = xs.length := Nat.min_eq_left hle
  have st : (⟨xs.toArray⟩ : ByteArray).size = xs.length := by show xs.toArray.size = _; simp
  cases hq : P.info? elem with
  | none => simp [hq] at hsz
  | some i =>
    have hi : i.size = 1 := by simpa [hq] using hsz
    simp only [Builtin.copy_]
    simp [run_underlying hu, Builtin.lenOf, Builtin.firstCells, sizeOf, typeInfo, hq, hi, st, e1]
    rw [List.take_of_length_le (by simp)]
    exact (congrArg (fun r => r.andThen fun _ w' => Result.ok (goInt xs.length) w') hst).trans rfl
/-- Bytes laid one by one into a row of one's own. -/
theorem Own8.sets {B : Nat} {t : TypeId} {g cap : Nat} : ∀ (ys zs : List UInt8) (k : Nat) (w : World), Own8 w B t (some ⟨g, 0, none⟩) cap zs → Own8 (w.setCells g k (ys.map B8)) B t (some ⟨g, 0, none⟩) cap (setsL zs k ys)
  | [], _, _, _, h => h
  | u :: r, zs, k, w, h => Own8.sets r _ _ _ (Own8.set_ h k u)
theorem Own8.there {w : World} {B : Nat} {t : TypeId} {g cap : Nat} {zs : List UInt8} (h : Own8 w B t (some ⟨g, 0, none⟩) cap zs) (o n : Nat) (hn : o + n ≤ zs.length) : w.there g o n := fun j hj => by
  obtain ⟨g', e, _, _, hc, hf⟩ := Own8.at_ h (k := o + j) (by omega)
  cases e
  exact ⟨by rw [hc]; rfl, hf⟩
theorem keeps_sets (w : World) (g o : Nat) (vs : List Value) : Keeps (· = g) w (w.setCells g o vs) := by
  induction vs generalizing w o with
  | nil => exact Keeps.refl _ _
  | cons v r ih => exact (Keeps.setCell (· = g) w ⟨g, o, none⟩ v rfl).trans (ih _ _)
def outL (x : HV) : List UInt8 := if thrV x.name = 0 then bytesL x.link x.name x.imm x.hid else []
/-- The header's bytes are handed out in a new block, or the throw is. -/
def GivesH (w : World) (x : HV) (e : Ending) (w' : World) : Prop := ∃ R n c, e = .returned (.tuple #[.slice R n c, .int .i64 (thrV x.name)]) ∧ (outL x).length = n ∧ n ≤ c ∧ BR w' w'.heap.size R (outL x) ∧ (∀ ad, R = some ad → w.heap.size ≤ ad.block) ∧ Keeps (fun _ => False) w w'
theorem GivesH.no {w w' : World} {x : HV} {t : Int} (h : thrV x.name = t) (h0 : t ≠ 0) (k : Keeps (fun _ => False) w w') : GivesH w x (.returned (.tuple #[.slice none 0 0, .int .i64 t])) w' :=
  ⟨none, 0, 0, by rw [h], by unfold outL; rw [if_neg (by rw [h]; exact h0)]; rfl, Nat.le_refl _, by unfold outL; rw [if_neg (by rw [h]; exact h0)]; exact BR.nil, (fun _ e => by cases e), k⟩
theorem GivesH.yes {w w' : World} {x : HV} {g n c : Nat} (h : thrV x.name = 0) (hn : n = sizeN x.name) (ho : Own8 w' w.heap.size 5 (some ⟨g, 0, none⟩) c (bytesL x.link x.name x.imm x.hid)) (k : Keeps (fun _ => False) w w') : GivesH w x (.returned (.tuple #[.slice (some ⟨g, 0, none⟩) n c, .int .i64 0])) w' := by
  have hl := bytesL_len x.link x.name x.imm x.hid
  have hc := Own8.cap_le ho
  refine ⟨some ⟨g, 0, none⟩, n, c, by rw [h], by unfold outL; rw [if_pos h, hl, hn], by omega, by unfold outL; rw [if_pos h]; exact ho.br, fun ad e => ?_, k⟩
  cases e
  exact ho.lt'.1
theorem boxH (w : World) (x : HV) : (Instr.box 29 (hag x)).run Try.prog w = .ok (.pointer (some ⟨w.heap.size, 0, none⟩)) (w.alloc (.cells (hcs x).toArray 29)) := rfl
theorem HB.boxed (w : World) (x : HV) : HB (w.alloc (.cells (hcs x).toArray 29)) w.heap.size x := heap_alloc_new w _
theorem thr_nil : thrV [] = -16 := rfl
theorem thr_long {n : List UInt8} (h : 31 < n.length) : thrV n = -19 := by
  unfold thrV
  rw [if_neg (by rintro rfl; simp at h), if_pos h]
theorem thr_ok {n : List UInt8} (h0 : n ≠ []) (h : n.length ≤ 31) : thrV n = 0 := by
  unfold thrV
  rw [if_neg h0, if_neg (by omega)]
set_option maxRecDepth 100000 in
theorem wrong_any (n : List UInt8) (w : World) : Calls Try.prog 35 #[Sx n] w fun e w' => e = .returned (.int .i64 (thrV n)) ∧ w = w' := by
  by_cases c0 : n = []
  · subst c0
    rw [thr_nil]
    unfold Sx
    go_enter Try.func35, Try.ntmps35
    go_wp2_with fail
    go_ret
    exact ⟨rfl, rfl⟩
  have d0 : decide (n = []) = false := decide_eq_false c0
  by_cases c1 : 31 < n.length
  · rw [thr_long c1]
    have d1 : decide ((31 : Int) < (n.length : Int)) = true := decide_eq_true (by omega)
    have d1' : decide (31 < n.length) = true := decide_eq_true c1
    go_enter Try.func35, Try.ntmps35
    go_wp2_with (first
      | ((with_reducible refine at_ (op := .binOp .eql 9 (.tmp 4) (.const (.string ⟨#[]⟩)) 9) ?_); refine wpList_val rfl _ (ex_eqlX (.tmp 4) (.const (.string ⟨#[]⟩)) rfl _ _ rfl rfl) ?_; rw [d0])
      | ((with_reducible refine at_ (op := .call { callee := .builtin .len, args := #[.tmp 7], argTypes := #[9] }) ?_); refine wpList_val rfl _ (ex_lenX (.tmp 7) rfl _ rfl) ?_)
      | fail)
    go_ret
    exact ⟨rfl, rfl⟩
  · rw [thr_ok c0 (by omega)]
    have d1 : decide ((31 : Int) < (n.length : Int)) = false := decide_eq_false (by omega)
    have d1' : decide (31 < n.length) = false := decide_eq_false c1
    go_enter Try.func35, Try.ntmps35
    go_wp2_with (first
      | ((with_reducible refine at_ (op := .binOp .eql 9 (.tmp 4) (.const (.string ⟨#[]⟩)) 9) ?_); refine wpList_val rfl _ (ex_eqlX (.tmp 4) (.const (.string ⟨#[]⟩)) rfl _ _ rfl rfl) ?_; rw [d0])
      | ((with_reducible refine at_ (op := .call { callee := .builtin .len, args := #[.tmp 7], argTypes := #[9] }) ?_); refine wpList_val rfl _ (ex_lenX (.tmp 7) rfl _ rfl) ?_)
      | fail)
    go_ret
    exact ⟨rfl, rfl⟩
set_option maxRecDepth 100000 in
theorem lePutCell_row (A : Option Addr) (xs : List UInt8) (c : Nat) (a : Int) (n : Int) (w : World) (hx : BR w w.heap.size A xs) (hl : xs.length ≤ 1000000) (ha : -9223372036854775808 ≤ a) :
    Calls Try.prog 36 #[.slice A xs.length c, .int .i64 a, .int .i64 n] w (fun e w' => ∃ g, e = .returned (.slice (some ⟨g, 0, none⟩) xs.length xs.length) ∧ w.heap.size ≤ g ∧ Row8 w' g 5 (putL xs a (IntKind.u64.wrap n).toNat 8) ∧ Below w.heap.size w w') := by
  go_enter Try.func36, Try.ntmps36
  have hw : IntKind.u64.wrap n = ((IntKind.u64.wrap n).toNat : Int) := (Int.toNat_of_nonneg (by rw [IntKind.wrap_u64]; omega)).symm
  have HW := Lib.hid hw
  clear hw
  go_wp2_with fail
  rw [HW.out]
  refine (lePutNum_row _ _ _ _ _ _ _ hx hl ha).mono ?_
  rintro e w1 ⟨g, rfl, h⟩
  go_wp2_with fail
  go_ret
  exact ⟨g, rfl, h⟩
end Go.Proofs.Ythmlhjjcihibnaa.Hh
