/-
  Words for a disk in memory: its struct, its lasting sectors, its queue of writes and its map of the latest ones.
-/
import Derived.Test.YthbdhmjmboliiaaMix
import Derived.Maps.OwnSet
import Derived.Deep.MidRow
import Derived.Lib.Hide
namespace Go.Proofs.Ythbdhmjmboliiaa
open Go.RowKit Go.Maps Go.MapKept Go.ChangeMaps

/-! ### laws at an operation, from its run -/
theorem wpList_load_run {P : Program} {w w' : World} {ops : Array Oper} {rest : List Oper} {o : Oper} {a : Act} {Q : Exit → Act → World → Prop} (hgd : o.guard = none) (t : TypeId) (x : Operand) (ho : o.op = .load t x) (p v : Value) (hp : a.eval x = p)
    (hrun : (Instr.loadAt t p).run P w = .ok v w') (h : wpList P ops Q rest (a.put o.dst v) w') : wpList P ops Q (o :: rest) a w :=
  wpList_plain hgd fun _ hK => by
    unfold Oper.wp execOp
    simp only [ho, hp, Sem.run_bind, hrun, Result.andThen_ok, Sem.run_pure]
    exact hK _ _ h
theorem wpList_store_run {P : Program} {w w' : World} {ops : Array Oper} {rest : List Oper} {o : Oper} {a : Act} {Q : Exit → Act → World → Prop} (hgd : o.guard = none) (t : TypeId) (x y : Operand) (ho : o.op = .store t x y) (p v : Value) (hp : a.eval x = p) (hv : a.eval y = v)
    (hrun : (Instr.storeAt t p v).run P w = .ok () w') (h : wpList P ops Q rest (a.put o.dst undef) w') : wpList P ops Q (o :: rest) a w :=
  wpList_plain hgd fun _ hK => by
    unfold Oper.wp execOp
    simp only [ho, hp, hv, Sem.run_bind, hrun, Result.andThen_ok, Sem.run_pure]
    exact hK _ _ h
theorem wpList_alloc_run {P : Program} {w w' : World} {ops : Array Oper} {rest : List Oper} {o : Oper} {a : Act} {Q : Exit → Act → World → Prop} (hgd : o.guard = none) (t : TypeId) (ho : o.op = .alloc t) (v : Value)
    (hrun : (Instr.alloc t true (.tuple #[])).run P w = .ok v w') (h : wpList P ops Q rest (a.put o.dst v) w') : wpList P ops Q (o :: rest) a w :=
  wpList_plain hgd fun _ hK => by
    unfold Oper.wp execOp
    simp only [ho, Sem.run_bind, hrun, Result.andThen_ok, Sem.run_pure]
    exact hK _ _ h
theorem wpList_box_run {P : Program} {w w' : World} {ops : Array Oper} {rest : List Oper} {o : Oper} {a : Act} {Q : Exit → Act → World → Prop} (hgd : o.guard = none) (t : TypeId) (x : Operand) (ho : o.op = .box t x) (y v : Value) (hy : a.eval x = y)
    (hrun : (Instr.box t y).run P w = .ok v w') (h : wpList P ops Q rest (a.put o.dst v) w') : wpList P ops Q (o :: rest) a w :=
  wpList_plain hgd fun _ hK => by
    unfold Oper.wp execOp
    simp only [ho, hy, Sem.run_bind, hrun, Result.andThen_ok, Sem.run_pure]
    exact hK _ _ h
theorem wpList_lookup_run {P : Program} {w w' : World} {ops : Array Oper} {rest : List Oper} {o : Oper} {a : Act} {Q : Exit → Act → World → Prop} (hgd : o.guard = none) (t : TypeId) (x y : Operand) (c : Bool) (ho : o.op = .lookup t x y c) (m k v : Value) (hm : a.eval x = m) (hk : a.eval y = k)
    (hrun : (Instr.lookup t m k c).run P w = .ok v w') (h : wpList P ops Q rest (a.put o.dst v) w') : wpList P ops Q (o :: rest) a w :=
  wpList_plain hgd fun _ hK => by
    unfold Oper.wp execOp
    simp only [ho, hm, hk, Sem.run_bind, hrun, Result.andThen_ok, Sem.run_pure]
    exact hK _ _ h

theorem wpList_world {P : Program} {w w' : World} {ops : Array Oper} {l : List Oper} {a : Act} {Q : Exit → Act → World → Prop} (e : w' = w) (h : wpList P ops Q l a w') : wpList P ops Q l a w := by rw [← e]; exact h
/-- A mark at an operation: the goal as it was. -/
theorem here {P : Program} {w : World} {ops : Array Oper} {rest : List Oper} {a : Act} {Q : Exit → Act → World → Prop} {op : Op} {d : Option Tmp} {ty : TypeId} {pos : String} {af : Array Edge} {g : Option (Nat × Bool)}
    (h : wpList P ops Q (⟨d, op, ty, pos, af, g⟩ :: rest) a w) : wpList P ops Q (⟨d, op, ty, pos, af, g⟩ :: rest) a w := h

/-! ### the latest writes, by sector -/
def byteV : Value → Option UInt8
  | .int .u8 n => if 0 ≤ n ∧ n < 256 then some (UInt8.ofNat n.toNat) else none
  | _ => none
def R8 : Value → Option (DataW Unit × List MemPlace)
  | .agg cs => (cs.toList.mapM byteV).map fun xs => (.lit (.string xs), [])
  | _ => none
theorem byteV_mk (x : UInt8) : byteV (B8 x) = some x := by
  have h := x.toNat_lt
  simp only [byteV]
  rw [if_pos ⟨by omega, by omega⟩]
  simp
theorem byteV_inv {v : Value} {x : UInt8} (h : byteV v = some x) : v = B8 x := by
  unfold byteV at h
  split at h
  · rename_i n
    split at h
    · rename_i hn
      simp only [Option.some.injEq] at h
      subst h
      have e : ((UInt8.ofNat n.toNat).toNat : Int) = n := by simp; omega
      show Value.int .u8 n = .int .u8 _
      rw [e]
    · cases h
  · cases h
theorem mapM_byteV (xs : List UInt8) : (xs.map B8).mapM byteV = some xs := by
  induction xs with
  | nil => rfl
  | cons x r ih => rw [List.map_cons, List.mapM_cons, byteV_mk, ih]; rfl
theorem mapM_byteV_inv : ∀ {vs : List Value} {xs : List UInt8}, vs.mapM byteV = some xs → vs = xs.map B8
  | [], xs, h => by cases h; rfl
  | v :: r, xs, h => by
    rw [List.mapM_cons] at h
    cases hv : byteV v with
    | none => rw [hv] at h; cases h
    | some x =>
      rw [hv] at h
      cases hr : r.mapM byteV with
      | none => rw [hr] at h; cases h
      | some ys =>
        rw [hr] at h
        cases h
        rw [byteV_inv hv, mapM_byteV_inv hr]
        rfl
/-- 64 bytes (or any) as one value. -/
def ag (xs : List UInt8) : Value := .agg (xs.map B8).toArray
theorem R8_mk (xs : List UInt8) : R8 (ag xs) = some (.lit (.string xs), []) := by
  show Option.map _ (List.mapM byteV (xs.map B8)) = _
  rw [mapM_byteV]; rfl
theorem R8_inv {v : Value} {xs : List UInt8} {ps : List MemPlace} (h : R8 v = some (.lit (.string xs), ps)) : v = ag xs := by
  unfold R8 at h
  split at h
  · rename_i cs
    cases hm : cs.toList.mapM byteV with
    | none => rw [hm] at h; cases h
    | some ys =>
      rw [hm] at h
      simp only [Option.map_some, Option.some.injEq, Prod.mk.injEq, DataW.lit.injEq, Lit.string.injEq] at h
      obtain ⟨rfl, _⟩ := h
      have := mapM_byteV_inv hm
      unfold ag
      rw [← this]
  · cases h

/-- The last write to a sector that waits. -/
def lastW : List (Nat × List UInt8) → Nat → Option (List UInt8)
  | [], _ => none
  | q :: r, n => match lastW r n with
    | some b => some b
    | none => if q.1 = n then some q.2 else none
theorem lastW_snoc (Q : List (Nat × List UInt8)) (m : Nat) (b : List UInt8) (n : Nat) : lastW (Q ++ [(m, b)]) n = if m = n then some b else lastW Q n := by
  induction Q with
  | nil => simp [lastW]
  | cons q r ih =>
    simp only [List.cons_append, lastW, ih]
    by_cases h : m = n
    · simp [h]
    · simp [h]
theorem lastW_mem {Q : List (Nat × List UInt8)} {n : Nat} {b : List UInt8} (h : lastW Q n = some b) : (n, b) ∈ Q := by
  induction Q with
  | nil => cases h
  | cons q r ih =>
    unfold lastW at h
    cases hr : lastW r n with
    | some c => rw [hr] at h; cases h; exact List.mem_cons_of_mem _ (ih hr)
    | none =>
      rw [hr] at h
      simp only at h
      split at h
      · rename_i e; cases h; subst e; exact List.mem_cons_self
      · cases h

theorem intKeyed : Keyed Try.prog 3 := int_keyed Try.underlying3
theorem keyNat (n : Nat) (h : n < 1000000) : keyOf Try.prog 3 (.int .i64 (n : Int)) = some (.int .i64 (n : Int)) := keyOf_int_mk Try.underlying3 (by
  simp [Lit.wf, IntKind.min, IntKind.max, IntKind.signed, IntKind.bits]; omega)

/-- The map in block mb has, by sector, the last write of Q. -/
def MapIs (w : World) (mb : Nat) (Q : List (Nat × List UInt8)) : Prop :=
  ∃ DM, w.ownsMap Try.prog 3 R8 mb Q.length DM ∧ IsMap DM ∧ ∀ n : Nat, n < 1000000 → has DM (.int .i64 (n : Int)) = (lastW Q n).isSome ∧ ∀ b, lastW Q n = some b → ∀ z, DM.atKey (.int .i64 (n : Int)) z = .lit (.string b)

def zs64 : List UInt8 := List.replicate 64 0
theorem zs64_len : zs64.length = 64 := by simp [zs64]
theorem zero71 (w : World) : (zeroValue 71).run Try.prog w = .ok (ag zs64) w := by kernel_rfl

theorem MapIs.look {w : World} {mb : Nat} {Q : List (Nat × List UInt8)} (h : MapIs w mb Q) (n : Nat) (hn : n < 1000000) :
    (Instr.lookup 56 (.map (some mb)) (.int .i64 (n : Int)) true).run Try.prog w = .ok (.tuple #[ag ((lastW Q n).getD zs64), .bool (lastW Q n).isSome]) w := by
  obtain ⟨DM, hown, _, hall⟩ := h
  obtain ⟨hh, hat⟩ := hall n hn
  obtain ⟨v, ps, hrun, hv⟩ := hown.look_ok intKeyed Try.underlying56 (zero71 w) (R8_mk zs64) (keyNat n hn)
  rw [hrun, hh]
  cases hl : lastW Q n with
  | none =>
    rw [hl] at hh
    rw [atKey_of_not_has hh] at hv
    rw [R8_inv hv]
    rfl
  | some b =>
    rw [hat b hl] at hv
    rw [R8_inv hv]
    rfl
theorem lit_ne {a b : Nat} (h : a ≠ b) : (Lit.int .i64 (a : Int)) ≠ .int .i64 (b : Int) := by
  intro e
  injection e with _ e
  omega
theorem MapIs.put {w : World} {mb : Nat} {Q : List (Nat × List UInt8)} (h : MapIs w mb Q) (n : Nat) (hn : n < 1000000) (b : List UInt8) (hq : Q.length < 1954687338212) :
    ∃ w', (Instr.mapUpdate 56 (.map (some mb)) (.int .i64 (n : Int)) (ag b)).run Try.prog w = .ok () w' ∧ MapIs w' mb (Q ++ [(n, b)]) ∧ w.grownBy w' (some mb) := by
  obtain ⟨DM, hown, hm, hall⟩ := h
  obtain ⟨w', hrun, hown', hg⟩ := hown.update intKeyed Try.underlying56 (by unfold maxLen; omega) (keyNat n hn) (R8_mk b)
  refine ⟨w', hrun, ⟨_, by rw [List.length_append]; exact hown', hm.put _ _, fun i hi => ?_⟩, hg⟩
  rw [lastW_snoc]
  by_cases e : n = i
  · subst e
    rw [if_pos rfl, has_put_same hm (by trivial)]
    exact ⟨rfl, fun b' hb z => by cases hb; exact atKey_put_same hm (by trivial) _ _⟩
  · rw [if_neg e, has_put_other (lit_ne (Ne.symm e))]
    refine ⟨(hall i hi).1, fun b' hb z => ?_⟩
    rw [atKey_put_other (lit_ne (Ne.symm e))]
    exact (hall i hi).2 b' hb z
theorem MapIs.made (w : World) : MapIs (w.alloc (.map #[] 0)) w.heap.size [] :=
  ⟨_, World.ownsMap_made w _ _ _, isMap_empty, fun _ _ => ⟨rfl, fun b hb => by cases hb⟩⟩
theorem MapIs.keep {w w' : World} {mb : Nat} {Q : List (Nat × List UInt8)} (h : MapIs w mb Q) (hk : w'.heap[mb]? = w.heap[mb]?) : MapIs w' mb Q := by
  obtain ⟨DM, ⟨es, clock, hb, r⟩, rest⟩ := h
  exact ⟨DM, ⟨es, clock, hk.trans hb, r⟩, rest⟩
theorem MapIs.lt {w : World} {mb : Nat} {Q : List (Nat × List UInt8)} (h : MapIs w mb Q) : mb < w.heap.size := by
  obtain ⟨DM, hown, _⟩ := h; exact hown.lt
theorem MapIs.obj {w : World} {mb : Nat} {Q : List (Nat × List UInt8)} (h : MapIs w mb Q) : ∃ es clock, w.heap[mb]? = some (.map es clock) := by
  obtain ⟨DM, ⟨es, clock, hb, _⟩, _⟩ := h; exact ⟨es, clock, hb⟩
theorem MapIs.clear {w : World} {mb : Nat} {Q : List (Nat × List UInt8)} (h : MapIs w mb Q) (ty : TypeId) :
    ∃ w', (Builtin.clear_ #[56] ty #[.map (some mb)]).run Try.prog w = .ok (.tuple #[]) w' ∧ MapIs w' mb [] ∧ w.grownBy w' (some mb) := by
  obtain ⟨DM, ⟨es, clock, hb, F, _⟩, _⟩ := h
  refine ⟨setBlock w mb (.map #[] clock), ?_, ⟨.map [], ⟨#[], clock, heap_setBlock_same hb _, ⟨by simp, ⟨fun _ h => (by simp at h), by simp, by simp⟩, fun _ h => (by simp at h)⟩, by simp, rfl⟩, isMap_empty, fun _ _ => ⟨rfl, fun b hb => by cases hb⟩⟩,
    ⟨rfl, rfl, rfl, by simp [setBlock], fun i _ hi => heap_setBlock_other hb _ (fun e => hi (by rw [e]))⟩⟩
  simp [Builtin.clear_, run_underlying Try.underlying56, MapKept.run_getObj_map hb, MapKept.run_setObj_map _ hb, Result.andThen]
  rfl
end Go.Proofs.Ythbdhmjmboliiaa
