/-
  Merged by wip/tools/merge.py: Dk DkAt DkSmall DkRead DkQueue DkWrite DkTorn DkSettle DkFlush DkNew
-/
import Derived.Test.YthmlhjjcihibnaaGB
import Derived.Maps.OwnSet
import Derived.Deep.MidRow
import Derived.Lib.Hide
import Derived.Test.YthmlhjjcihibnaaGA
import Derived.Outline
import Derived.Deep.QuietTactic
import Derived.BigQuiet
import Derived.Maps.AppendAt
import Derived.StillTailTactics
import Derived.Test.YthmlhjjcihibnaaGT
import Derived.Deep.WholeRow
import Derived.Laws.BitsAllLaws
import Derived.Carry
namespace Go.Proofs.Ythmlhjjcihibnaa
open Go.RowKit Go.Maps Go.MapKept Go.ChangeMaps

/-! ### laws at an operation, from its run -/
theorem wpList_load_run {P : Program} {w w' : World} {ops : Array Oper} {rest : List Oper} {o : Oper} {a : Act} {Q : Exit → Act → World → Prop} (hgd : o.guard = none) (t : TypeId) (x : Operand) (ho : o.op = .load t x) (p v : Value) (hp : a.eval x = p)
    (hrun : (Instr.loadAt t p).run P w = .ok v w') (h : wpList P ops Q rest (a.put o.dst v) w') : wpList P ops Q (o :: rest) a w :=
  wpList_plain hgd fun _ hK => by
    unfold Oper.wp execOp
    simp only [ho, hp, Sem.run_bind, hrun, Result.andThen_ok, Sem.run_pure]
    exact hK _ _ h
theorem wpList_store_run {P : Program} {w w' : World} {ops : Array Oper} {rest : List Oper} {o : Oper} {a : Act} {Q : Exit → Act → World → Prop} (hgd : o.guard = none) (t : TypeId) (x y : Operand) (ho : o.op = .store t x y) (p v : Value) (hp : a.eval x = p) (hv : a.eval y = v)
    (hrun : (Instr.storeAt t p v).run P w = .ok () w') (h : wpList P ops Q rest (a.put o.dst undef) w') : wpList P ops Q (o :: rest) a w :=
  wpList_plain hgd fun _ hK => by
    unfold Oper.wp execOp
    simp only [ho, hp, hv, Sem.run_bind, hrun, Result.andThen_ok, Sem.run_pure]
    exact hK _ _ h
theorem wpList_alloc_run {P : Program} {w w' : World} {ops : Array Oper} {rest : List Oper} {o : Oper} {a : Act} {Q : Exit → Act → World → Prop} (hgd : o.guard = none) (t : TypeId) (ho : o.op = .alloc t) (v : Value)
    (hrun : (Instr.alloc t true (.tuple #[])).run P w = .ok v w') (h : wpList P ops Q rest (a.put o.dst v) w') : wpList P ops Q (o :: rest) a w :=
  wpList_plain hgd fun _ hK => by
    unfold Oper.wp execOp
    simp only [ho, Sem.run_bind, hrun, Result.andThen_ok, Sem.run_pure]
    exact hK _ _ h
theorem wpList_box_run {P : Program} {w w' : World} {ops : Array Oper} {rest : List Oper} {o : Oper} {a : Act} {Q : Exit → Act → World → Prop} (hgd : o.guard = none) (t : TypeId) (x : Operand) (ho : o.op = .box t x) (y v : Value) (hy : a.eval x = y)
    (hrun : (Instr.box t y).run P w = .ok v w') (h : wpList P ops Q rest (a.put o.dst v) w') : wpList P ops Q (o :: rest) a w :=
  wpList_plain hgd fun _ hK => by
    unfold Oper.wp execOp
    simp only [ho, hy, Sem.run_bind, hrun, Result.andThen_ok, Sem.run_pure]
    exact hK _ _ h
theorem wpList_lookup_run {P : Program} {w w' : World} {ops : Array Oper} {rest : List Oper} {o : Oper} {a : Act} {Q : Exit → Act → World → Prop} (hgd : o.guard = none) (t : TypeId) (x y : Operand) (c : Bool) (ho : o.op = .lookup t x y c) (m k v : Value) (hm : a.eval x = m) (hk : a.eval y = k)
    (hrun : (Instr.lookup t m k c).run P w = .ok v w') (h : wpList P ops Q rest (a.put o.dst v) w') : wpList P ops Q (o :: rest) a w :=
  wpList_plain hgd fun _ hK => by
    unfold Oper.wp execOp
    simp only [ho, hm, hk, Sem.run_bind, hrun, Result.andThen_ok, Sem.run_pure]
    exact hK _ _ h

theorem wpList_world {P : Program} {w w' : World} {ops : Array Oper} {l : List Oper} {a : Act} {Q : Exit → Act → World → Prop} (e : w' = w) (h : wpList P ops Q l a w') : wpList P ops Q l a w := by rw [← e]; exact h
/-- A mark at an operation: the goal as it was. -/
theorem here {P : Program} {w : World} {ops : Array Oper} {rest : List Oper} {a : Act} {Q : Exit → Act → World → Prop} {op : Op} {d : Option Tmp} {ty : TypeId} {pos : String} {af : Array Edge} {g : Option (Nat × Bool)}
    (h : wpList P ops Q (⟨d, op, ty, pos, af, g⟩ :: rest) a w) : wpList P ops Q (⟨d, op, ty, pos, af, g⟩ :: rest) a w := h

/-! ### the latest writes, by sector -/
def byteV : Value → Option UInt8
  | .int .u8 n => if 0 ≤ n ∧ n < 256 then some (UInt8.ofNat n.toNat) else none
  | _ => none
def R8 : Value → Option (DataW Unit × List MemPlace)
  | .agg cs => (cs.toList.mapM byteV).map fun xs => (.lit (.string xs), [])
  | _ => none
theorem byteV_mk (x : UInt8) : byteV (B8 x) = some x := by
  have h := x.toNat_lt
  simp only [byteV]
  rw [if_pos ⟨by omega, by omega⟩]
  simp
theorem byteV_inv {v : Value} {x : UInt8} (h : byteV v = some x) : v = B8 x := by
  unfold byteV at h
  split at h
  · rename_i n
    split at h
    · rename_i hn
      simp only [Option.some.injEq] at h
      subst h
      have e : ((UInt8.ofNat n.toNat).toNat : Int) = n := by simp; omega
      show Value.int .u8 n = .int .u8 _
      rw [e]
    · cases h
  · cases h
theorem mapM_byteV (xs : List UInt8) : (xs.map B8).mapM byteV = some xs := by
  induction xs with
  | nil => rfl
  | cons x r ih => rw [List.map_cons, List.mapM_cons, byteV_mk, ih]; rfl
theorem mapM_byteV_inv : ∀ {vs : List Value} {xs : List UInt8}, vs.mapM byteV = some xs → vs = xs.map B8
  | [], xs, h => by cases h; rfl
  | v :: r, xs, h => by
    rw [List.mapM_cons] at h
    cases hv : byteV v with
    | none => rw [hv] at h; cases h
    | some x =>
      rw [hv] at h
      cases hr : r.mapM byteV with
      | none => rw [hr] at h; cases h
      | some ys =>
        rw [hr] at h
        cases h
        rw [byteV_inv hv, mapM_byteV_inv hr]
        rfl
/-- 64 bytes (or any) as one value. -/
def ag (xs : List UInt8) : Value := .agg (xs.map B8).toArray
theorem R8_mk (xs : List UInt8) : R8 (ag xs) = some (.lit (.string xs), []) := by
  show Option.map _ (List.mapM byteV (xs.map B8)) = _
  rw [mapM_byteV]; rfl
theorem R8_inv {v : Value} {xs : List UInt8} {ps : List MemPlace} (h : R8 v = some (.lit (.string xs), ps)) : v = ag xs := by
  unfold R8 at h
  split at h
  · rename_i cs
    cases hm : cs.toList.mapM byteV with
    | none => rw [hm] at h; cases h
    | some ys =>
      rw [hm] at h
      simp only [Option.map_some, Option.some.injEq, Prod.mk.injEq, DataW.lit.injEq, Lit.string.injEq] at h
      obtain ⟨rfl, _⟩ := h
      have := mapM_byteV_inv hm
      unfold ag
      rw [← this]
  · cases h

/-- The last write to a sector that waits. -/
def lastW : List (Nat × List UInt8) → Nat → Option (List UInt8)
  | [], _ => none
  | q :: r, n => match lastW r n with
    | some b => some b
    | none => if q.1 = n then some q.2 else none
theorem lastW_snoc (Q : List (Nat × List UInt8)) (m : Nat) (b : List UInt8) (n : Nat) : lastW (Q ++ [(m, b)]) n = if m = n then some b else lastW Q n := by
  induction Q with
  | nil => simp [lastW]
  | cons q r ih =>
    simp only [List.cons_append, lastW, ih]
    by_cases h : m = n
    · simp [h]
    · simp [h]
theorem lastW_mem {Q : List (Nat × List UInt8)} {n : Nat} {b : List UInt8} (h : lastW Q n = some b) : (n, b) ∈ Q := by
  induction Q with
  | nil => cases h
  | cons q r ih =>
    unfold lastW at h
    cases hr : lastW r n with
    | some c => rw [hr] at h; cases h; exact List.mem_cons_of_mem _ (ih hr)
    | none =>
      rw [hr] at h
      simp only at h
      split at h
      · rename_i e; cases h; subst e; exact List.mem_cons_self
      · cases h

theorem intKeyed : Keyed Try.prog 3 := int_keyed Try.underlying3
theorem keyNat (n : Nat) (h : n < 1000000) : keyOf Try.prog 3 (.int .i64 (n : Int)) = some (.int .i64 (n : Int)) := keyOf_int_mk Try.underlying3 (by
  simp [Lit.wf, IntKind.min, IntKind.max, IntKind.signed, IntKind.bits]; omega)

/-- The map in block mb has, by sector, the last write of Q. -/
def MapIs (w : World) (mb : Nat) (Q : List (Nat × List UInt8)) : Prop :=
  ∃ DM, w.ownsMap Try.prog 3 R8 mb Q.length DM ∧ IsMap DM ∧ ∀ n : Nat, n < 1000000 → has DM (.int .i64 (n : Int)) = (lastW Q n).isSome ∧ ∀ b, lastW Q n = some b → ∀ z, DM.atKey (.int .i64 (n : Int)) z = .lit (.string b)

def zs64 : List UInt8 := List.replicate 64 0
theorem zs64_len : zs64.length = 64 := by simp [zs64]
theorem zero71 (w : World) : (zeroValue 130).run Try.prog w = .ok (ag zs64) w := by kernel_rfl

theorem MapIs.look {w : World} {mb : Nat} {Q : List (Nat × List UInt8)} (h : MapIs w mb Q) (n : Nat) (hn : n < 1000000) :
    (Instr.lookup 121 (.map (some mb)) (.int .i64 (n : Int)) true).run Try.prog w = .ok (.tuple #[ag ((lastW Q n).getD zs64), .bool (lastW Q n).isSome]) w := by
  obtain ⟨DM, hown, _, hall⟩ := h
  obtain ⟨hh, hat⟩ := hall n hn
  obtain ⟨v, ps, hrun, hv⟩ := hown.look_ok intKeyed Try.underlying121 (zero71 w) (R8_mk zs64) (keyNat n hn)
  rw [hrun, hh]
  cases hl : lastW Q n with
  | none =>
    rw [hl] at hh
    rw [atKey_of_not_has hh] at hv
    rw [R8_inv hv]
    rfl
  | some b =>
    rw [hat b hl] at hv
    rw [R8_inv hv]
    rfl
theorem lit_ne {a b : Nat} (h : a ≠ b) : (Lit.int .i64 (a : Int)) ≠ .int .i64 (b : Int) := by
  intro e
  injection e with _ e
  omega
theorem MapIs.put {w : World} {mb : Nat} {Q : List (Nat × List UInt8)} (h : MapIs w mb Q) (n : Nat) (hn : n < 1000000) (b : List UInt8) (hq : Q.length < 1954687338212) :
    ∃ w', (Instr.mapUpdate 121 (.map (some mb)) (.int .i64 (n : Int)) (ag b)).run Try.prog w = .ok () w' ∧ MapIs w' mb (Q ++ [(n, b)]) ∧ w.grownBy w' (some mb) := by
  obtain ⟨DM, hown, hm, hall⟩ := h
  obtain ⟨w', hrun, hown', hg⟩ := hown.update intKeyed Try.underlying121 (by unfold maxLen; omega) (keyNat n hn) (R8_mk b)
  refine ⟨w', hrun, ⟨_, by rw [List.length_append]; exact hown', hm.put _ _, fun i hi => ?_⟩, hg⟩
  rw [lastW_snoc]
  by_cases e : n = i
  · subst e
    rw [if_pos rfl, has_put_same hm (by trivial)]
    exact ⟨rfl, fun b' hb z => by cases hb; exact atKey_put_same hm (by trivial) _ _⟩
  · rw [if_neg e, has_put_other (lit_ne (Ne.symm e))]
    refine ⟨(hall i hi).1, fun b' hb z => ?_⟩
    rw [atKey_put_other (lit_ne (Ne.symm e))]
    exact (hall i hi).2 b' hb z
theorem MapIs.made (w : World) : MapIs (w.alloc (.map #[] 0)) w.heap.size [] :=
  ⟨_, World.ownsMap_made w _ _ _, isMap_empty, fun _ _ => ⟨rfl, fun b hb => by cases hb⟩⟩
theorem MapIs.keep {w w' : World} {mb : Nat} {Q : List (Nat × List UInt8)} (h : MapIs w mb Q) (hk : w'.heap[mb]? = w.heap[mb]?) : MapIs w' mb Q := by
  obtain ⟨DM, ⟨es, clock, hb, r⟩, rest⟩ := h
  exact ⟨DM, ⟨es, clock, hk.trans hb, r⟩, rest⟩
theorem MapIs.lt {w : World} {mb : Nat} {Q : List (Nat × List UInt8)} (h : MapIs w mb Q) : mb < w.heap.size := by
  obtain ⟨DM, hown, _⟩ := h; exact hown.lt
theorem MapIs.obj {w : World} {mb : Nat} {Q : List (Nat × List UInt8)} (h : MapIs w mb Q) : ∃ es clock, w.heap[mb]? = some (.map es clock) := by
  obtain ⟨DM, ⟨es, clock, hb, _⟩, _⟩ := h; exact ⟨es, clock, hb⟩
theorem MapIs.clear {w : World} {mb : Nat} {Q : List (Nat × List UInt8)} (h : MapIs w mb Q) (ty : TypeId) :
    ∃ w', (Builtin.clear_ #[121] ty #[.map (some mb)]).run Try.prog w = .ok (.tuple #[]) w' ∧ MapIs w' mb [] ∧ w.grownBy w' (some mb) := by
  obtain ⟨DM, ⟨es, clock, hb, F, _⟩, _⟩ := h
  refine ⟨setBlock w mb (.map #[] clock), ?_, ⟨.map [], ⟨#[], clock, heap_setBlock_same hb _, ⟨by simp, ⟨fun _ h => (by simp at h), by simp, by simp⟩, fun _ h => (by simp at h)⟩, by simp, rfl⟩, isMap_empty, fun _ _ => ⟨rfl, fun b hb => by cases hb⟩⟩,
    ⟨rfl, rfl, rfl, by simp [setBlock], fun i _ hi => heap_setBlock_other hb _ (fun e => hi (by rw [e]))⟩⟩
  simp [Builtin.clear_, run_underlying Try.underlying121, MapKept.run_getObj_map hb, MapKept.run_setObj_map _ hb, Result.andThen]
  rfl
end Go.Proofs.Ythmlhjjcihibnaa
namespace Go.Proofs.Ythmlhjjcihibnaa
open Go.RowKit Go.Maps

/-- A disk, as the document has it: its sectors' bytes one behind the other, the writes that wait, what Arm left, whether it is down, its acts. -/
structure DSt where
  L : List UInt8
  Q : List (Nat × List UInt8)
  left : Int
  down : Bool
  acts : Nat

def qcells (q : Nat × List UInt8) : List Value := .int .i64 (q.1 : Int) :: q.2.map B8
/-- A sector's bytes. -/
def sec (L : List UInt8) (n : Nat) : List UInt8 := (L.drop (n * 64)).take 64

structure DSt.Ok (D : DSt) (n : Nat) : Prop where
  len : D.L.length = 64 * n
  n_le : n ≤ 2000
  q : ∀ q ∈ D.Q, q.1 < n ∧ q.2.length = 64
  lo : -1 ≤ D.left
  hi : D.left ≤ 9223372036854775807

/-- The disk lies at block p. -/
structure DkAt (w : World) (p lb mb n : Nat) (iv : Value) (D : DSt) : Prop where
  ok : D.Ok n
  head : w.heap[p]? = some (.cells #[.slice (some ⟨lb, 0, none⟩) n n, iv, .map (some mb), .int .i64 D.left, .bool D.down, .int .i64 (D.acts : Int)] 123 (0, 0))
  rows : w.heap[lb]? = some (.cells (D.L.map B8).toArray 130 (0, 0))
  que : w.ownsRow 0 132 65 iv D.Q.length (D.Q.flatMap qcells)
  map : MapIs w mb D.Q

/-- The disk at block p, in blocks of F alone. -/
def Dk (w : World) (F : Nat → Prop) (p : Nat) (D : DSt) : Prop :=
  ∃ lb mb n iv, DkAt w p lb mb n iv D ∧ F p ∧ F lb ∧ F mb ∧ ∀ g, Value.ownBlock iv = some g → F g

theorem DkAt.keep {w w' : World} {p lb mb n : Nat} {iv : Value} {D : DSt} (h : DkAt w p lb mb n iv D) (hp : w'.heap[p]? = w.heap[p]?) (hl : w'.heap[lb]? = w.heap[lb]?) (hm : w'.heap[mb]? = w.heap[mb]?)
    (hi : ∀ g, Value.ownBlock iv = some g → w'.heap[g]? = w.heap[g]?) : DkAt w' p lb mb n iv D := by
  refine ⟨h.ok, hp.trans h.head, hl.trans h.rows, ?_, h.map.keep hm⟩
  refine ⟨h.que.1, ?_⟩
  rcases h.que.2 with hn | ⟨g, cap, cur, rfl, hb, hgg, rest⟩
  · exact .inl hn
  · exact .inr ⟨g, cap, cur, rfl, hb, (hi g rfl).trans hgg, rest⟩
theorem Dk.lt {w : World} {F : Nat → Prop} {p : Nat} {D : DSt} (h : Dk w F p D) : p < w.heap.size := by
  obtain ⟨lb, mb, n, iv, h, _⟩ := h
  exact (Array.getElem?_eq_some_iff.1 h.head).1
/-- The disk is as it was where only other blocks were written. -/
theorem Dk.keep {w w' : World} {F G : Nat → Prop} {p : Nat} {D : DSt} (h : Dk w F p D) (k : Keeps G w w') (hd : ∀ b, b < w.heap.size → F b → ¬ G b) : Dk w' F p D := by
  obtain ⟨lb, mb, n, iv, h, fp, fl, fm, fi⟩ := h
  have lt : ∀ {b : Nat} {o : Obj}, w.heap[b]? = some o → b < w.heap.size := fun e => (Array.getElem?_eq_some_iff.1 e).1
  have keep : ∀ {b : Nat} {o : Obj}, w.heap[b]? = some o → F b → w'.heap[b]? = w.heap[b]? := fun e hf => k.block _ (lt e) (hd _ (lt e) hf)
  obtain ⟨es, clock, hm⟩ := h.map.obj
  refine ⟨lb, mb, n, iv, h.keep (keep h.head fp) (keep h.rows fl) (keep hm fm) (fun g hg => ?_), fp, fl, fm, fi⟩
  exact k.block g (h.que.lt g hg).2 (hd _ (h.que.lt g hg).2 (fi g hg))
theorem Dk.mono {w : World} {F G : Nat → Prop} {p : Nat} {D : DSt} (h : Dk w F p D) (hF : ∀ k, k < w.heap.size → F k → G k) : Dk w G p D := by
  obtain ⟨lb, mb, n, iv, h, fp, fl, fm, fi⟩ := h
  obtain ⟨es, clock, hm⟩ := h.map.obj
  have lt : ∀ {b : Nat} {o : Obj}, w.heap[b]? = some o → b < w.heap.size := fun e => (Array.getElem?_eq_some_iff.1 e).1
  exact ⟨lb, mb, n, iv, h, hF _ (lt h.head) fp, hF _ (lt h.rows) fl, hF _ (lt hm) fm, fun g hg => hF _ (h.que.lt g hg).2 (fi g hg)⟩
theorem DkAt.apart {w : World} {p lb mb n : Nat} {iv : Value} {D : DSt} (h : DkAt w p lb mb n iv D) : p ≠ lb ∧ p ≠ mb ∧ lb ≠ mb ∧ ∀ g, Value.ownBlock iv = some g → g ≠ p ∧ g ≠ lb ∧ g ≠ mb := by
  obtain ⟨es, clock, hm⟩ := h.map.obj
  have h1 := h.head
  have h2 := h.rows
  refine ⟨?_, ?_, ?_, fun g hg => ?_⟩
  · rintro rfl; rw [h1] at h2; simp at h2
  · rintro rfl; rw [h1] at hm; simp at hm
  · rintro rfl; rw [h2] at hm; simp at hm
  · rcases h.que.2 with ⟨rfl, _⟩ | ⟨g', cap, cur, rfl, hb, hgg, rest⟩
    · cases hg
    · simp only [Value.ownBlock, Option.some.injEq] at hg
      subst hg
      refine ⟨?_, ?_, ?_⟩
      · rintro rfl; rw [h1] at hgg; simp at hgg
      · rintro rfl; rw [h2] at hgg; simp at hgg
      · rintro rfl; rw [hm] at hgg; simp at hgg
/-- The struct's cells. -/
theorem DkAt.c {w : World} {p lb mb n : Nat} {iv : Value} {D : DSt} (h : DkAt w p lb mb n iv D) :
    w.cell? ⟨p, 0, none⟩ = some (.slice (some ⟨lb, 0, none⟩) n n) ∧ w.cell? ⟨p, 1, none⟩ = some iv ∧ w.cell? ⟨p, 2, none⟩ = some (.map (some mb)) ∧ w.cell? ⟨p, 3, none⟩ = some (.int .i64 D.left) ∧ w.cell? ⟨p, 4, none⟩ = some (.bool D.down) ∧
    w.cell? ⟨p, 5, none⟩ = some (.int .i64 (D.acts : Int)) ∧ ∀ i, w.frozen? ⟨p, i, none⟩ = false := by
  have hh := h.head
  refine ⟨?_, ?_, ?_, ?_, ?_, ?_, fun i => frozen_of_row w p i _ _ hh⟩ <;> rw [cell_of_row w p _ _ _ _ hh] <;> rfl
theorem DkAt.setLeft {w : World} {p lb mb n : Nat} {iv : Value} {D : DSt} (h : DkAt w p lb mb n iv D) (x : Int) (h1 : -1 ≤ x) (h2 : x ≤ 9223372036854775807) : DkAt (w.setCell ⟨p, 3, none⟩ (.int .i64 x)) p lb mb n iv { D with left := x } := by
  have ap := h.apart
  have k : ∀ b, b ≠ p → (w.setCell ⟨p, 3, none⟩ (.int .i64 x)).heap[b]? = w.heap[b]? := fun b hb => Below.heap_setCell _ _ _ _ hb
  refine ⟨⟨h.ok.len, h.ok.n_le, h.ok.q, h1, h2⟩, ?_, (k _ ap.1.symm).trans h.rows, ?_, h.map.keep (k _ ap.2.1.symm)⟩
  · rw [heap_setCell_same w p 3 _ _ _ h.head]; rfl
  · refine ⟨h.que.1, ?_⟩
    rcases h.que.2 with hn | ⟨g, cap, cur, rfl, hb, hgg, rest⟩
    · exact .inl hn
    · exact .inr ⟨g, cap, cur, rfl, hb, (k _ (ap.2.2.2 g rfl).1).trans hgg, rest⟩
theorem DkAt.setDown {w : World} {p lb mb n : Nat} {iv : Value} {D : DSt} (h : DkAt w p lb mb n iv D) (x : Bool) : DkAt (w.setCell ⟨p, 4, none⟩ (.bool x)) p lb mb n iv { D with down := x } := by
  have ap := h.apart
  have k : ∀ b, b ≠ p → (w.setCell ⟨p, 4, none⟩ (.bool x)).heap[b]? = w.heap[b]? := fun b hb => Below.heap_setCell _ _ _ _ hb
  refine ⟨⟨h.ok.len, h.ok.n_le, h.ok.q, h.ok.lo, h.ok.hi⟩, ?_, (k _ ap.1.symm).trans h.rows, ?_, h.map.keep (k _ ap.2.1.symm)⟩
  · rw [heap_setCell_same w p 4 _ _ _ h.head]; rfl
  · refine ⟨h.que.1, ?_⟩
    rcases h.que.2 with hn | ⟨g, cap, cur, rfl, hb, hgg, rest⟩
    · exact .inl hn
    · exact .inr ⟨g, cap, cur, rfl, hb, (k _ (ap.2.2.2 g rfl).1).trans hgg, rest⟩
theorem DkAt.setActs {w : World} {p lb mb n : Nat} {iv : Value} {D : DSt} (h : DkAt w p lb mb n iv D) (x : Nat) : DkAt (w.setCell ⟨p, 5, none⟩ (.int .i64 (x : Int))) p lb mb n iv { D with acts := x } := by
  have ap := h.apart
  have k : ∀ b, b ≠ p → (w.setCell ⟨p, 5, none⟩ (.int .i64 (x : Int))).heap[b]? = w.heap[b]? := fun b hb => Below.heap_setCell _ _ _ _ hb
  refine ⟨⟨h.ok.len, h.ok.n_le, h.ok.q, h.ok.lo, h.ok.hi⟩, ?_, (k _ ap.1.symm).trans h.rows, ?_, h.map.keep (k _ ap.2.1.symm)⟩
  · rw [heap_setCell_same w p 5 _ _ _ h.head]; rfl
  · refine ⟨h.que.1, ?_⟩
    rcases h.que.2 with hn | ⟨g, cap, cur, rfl, hb, hgg, rest⟩
    · exact .inl hn
    · exact .inr ⟨g, cap, cur, rfl, hb, (k _ (ap.2.2.2 g rfl).1).trans hgg, rest⟩
theorem Dk.setC {w : World} {F : Nat → Prop} {p lb mb n : Nat} {iv : Value} {D : DSt} (hF : F p ∧ F lb ∧ F mb ∧ ∀ g, Value.ownBlock iv = some g → F g) (h : DkAt w p lb mb n iv D) : Dk w F p D := ⟨lb, mb, n, iv, h, hF⟩
end Go.Proofs.Ythmlhjjcihibnaa
namespace Go.Proofs.Ythmlhjjcihibnaa
open Go.RowKit Go.Maps

/-- How many sectors. -/
def DSt.n (D : DSt) : Nat := D.L.length / 64
theorem DSt.Ok.n_eq {D : DSt} {n : Nat} (h : D.Ok n) : D.n = n := by unfold DSt.n; rw [h.len]; omega


/-- What one act makes of a disk: done, or the power goes. -/
def DSt.spent (D : DSt) : DSt := if D.left = 0 then { D with down := true } else { D with left := if 0 < D.left then D.left - 1 else D.left, acts := D.acts + 1 }

/-- The error of an act. -/
def DSt.actErr (D : DSt) : Int := if D.left = 0 then 20 else 0

def DSt.armed (D : DSt) (x : Int) : DSt := { D with left := max x (-1) }
end Go.Proofs.Ythmlhjjcihibnaa
namespace Go.Proofs.Ythmlhjjcihibnaa
open Go.RowKit Go.Maps

/-- 64 noughts as cells. -/
def z64 : Array Value := (zs64.map B8).toArray
theorem alloc71 (w : World) : (Instr.alloc 130 true (.tuple #[])).run Try.prog w = .ok (.pointer (some ⟨w.heap.size, 0, none⟩)) (w.alloc (.cells z64 130)) := by kernel_rfl
theorem alloc71_2 (w : World) (o : Obj) : (Instr.alloc 130 true (.tuple #[])).run Try.prog (w.alloc o) = .ok (.pointer (some ⟨w.heap.size + 1, 0, none⟩)) ((w.alloc o).alloc (.cells z64 130)) := by
  have := alloc71 (w.alloc o)
  rwa [World.size_alloc] at this
theorem Try.size71 : (Try.prog.info? 130).map (·.size) = some 64 := by kernel_rfl

theorem ag_cells (xs : List UInt8) : ag xs = .agg (xs.map B8).toArray := rfl
theorem oneCell_b8 (xs : List UInt8) : ((xs.map B8).toArray).all (·.oneCell') = true := all_oneCell_toArray (fun v hv => by
  simp only [List.mem_map] at hv
  obtain ⟨u, _, rfl⟩ := hv
  rfl)

/-- A sector in the middle of a block of bytes. -/
theorem load71 {w : World} {b o : Nat} {xs : List UInt8} (hl : xs.length = 64) (h : w.rangeAt b o (xs.map B8)) :
    (Instr.loadAt 130 (.pointer (some ⟨b, o, none⟩))).run Try.prog w = .ok (ag xs) w :=
  run_loadAt_mid w b o 130 (xs.map B8) _ h Try.underlying130 rfl (by rw [Try.size71, List.length_map, hl])
theorem store71 {w : World} {b o : Nat} {xs : List UInt8} (hl : xs.length = 64) (h : w.there b o 64) :
    (Instr.storeAt 130 (.pointer (some ⟨b, o, none⟩)) (ag xs)).run Try.prog w = .ok () (w.setCells b o (xs.map B8)) := by
  have := run_storeAt_mid (P := Try.prog) w b o 130 (xs.map B8).toArray (by simpa [hl] using h) (by rw [Try.size71]; simp [hl]) (oneCell_b8 xs)
  simpa [ag] using this

/-- A block of bytes, a part of which is written over. -/
theorem setCells_block {w : World} {b : Nat} {zs ys : List UInt8} {t : TypeId} (o : Nat) (hb : w.heap[b]? = some (.cells (zs.map B8).toArray t (0, 0))) (hfit : o + ys.length ≤ zs.length) :
    (w.setCells b o (ys.map B8)).heap[b]? = some (.cells ((splice zs o ys).map B8).toArray t (0, 0)) ∧ Keeps (· = b) w (w.setCells b o (ys.map B8)) := by
  induction ys generalizing w zs o with
  | nil => exact ⟨by simpa [World.setCells, splice] using hb, Keeps.refl _ _⟩
  | cons y r ih =>
    simp only [List.map_cons, World.setCells]
    have h1 : (w.setCell ⟨b, o, none⟩ (B8 y)).heap[b]? = some (.cells ((zs.set o y).map B8).toArray t (0, 0)) := by
      rw [heap_setCell_same w b o _ t _ hb]
      simp [List.map_set]
    simp only [List.length_cons] at hfit
    obtain ⟨h2, h3⟩ := ih (o + 1) h1 (by rw [List.length_set]; omega)
    refine ⟨?_, (Keeps.setCell (· = b) _ _ _ rfl).trans h3⟩
    rw [h2]
    have e : splice (zs.set o y) (o + 1) r = splice zs o (y :: r) := by
      unfold splice
      rw [List.take_set, List.drop_set_of_lt (by omega)]
      have : (zs.take (o + 1)).set o y = zs.take o ++ [y] := by
        rw [List.take_succ_eq_append_getElem (by omega), List.set_append_right _ _ (by simp; omega)]
        simp [show o - min o zs.length = 0 from by omega]
      rw [this]
      simp [Nat.add_assoc, Nat.add_comm 1]
    rw [e]
theorem range_block {w : World} {b : Nat} {zs : List UInt8} {t : TypeId} {fr : Nat × Nat} (hb : w.heap[b]? = some (.cells (zs.map B8).toArray t fr)) (o n : Nat) : w.rangeAt b o (((zs.drop o).take n).map B8) := by
  intro j v hv
  rw [cell_of_row w b (o + j) _ t _ hb]
  simp only [List.getElem?_map, Option.map_eq_some_iff, List.getElem?_take, List.getElem?_drop] at hv
  obtain ⟨u, hu, rfl⟩ := hv
  split at hu
  · simp [hu]
  · cases hu
theorem there_block {w : World} {b : Nat} {zs : List UInt8} {t : TypeId} (hb : w.heap[b]? = some (.cells (zs.map B8).toArray t (0, 0))) (o n : Nat) (h : o + n ≤ zs.length) : w.there b o n := by
  intro j hj
  refine ⟨?_, frozen_of_row w b _ _ t hb⟩
  rw [cell_of_row w b (o + j) _ t _ hb]
  simp
  omega
theorem sec_len {D : DSt} {n i : Nat} (h : D.Ok n) (hi : i < n) : (sec D.L i).length = 64 := by
  unfold sec
  rw [List.length_take, List.length_drop, h.len]
  omega

/-- A sector as last written. -/
def DSt.now (D : DSt) (i : Nat) : List UInt8 := (lastW D.Q i).getD (sec D.L i)
theorem now_len {D : DSt} {n i : Nat} (h : D.Ok n) (hi : i < n) : (D.now i).length = 64 := by
  unfold DSt.now
  cases hl : lastW D.Q i with
  | none => exact sec_len h hi
  | some b => exact (h.q _ (lastW_mem hl)).2
theorem splice_all (xs ys : List UInt8) (h : xs.length = ys.length) : splice xs 0 ys = ys := by
  unfold splice; simp [h]

/-- Two new sectors, the second of which is written over, and the first by it. -/
def nowA (w : World) : World := (w.alloc (.cells z64 130)).alloc (.cells z64 130)
def nowB (w : World) (xs : List UInt8) : World := (nowA w).setCells (w.heap.size + 1) 0 (xs.map B8)
def nowC (w : World) (xs ys : List UInt8) : World := (nowB w xs).setCells w.heap.size 0 (ys.map B8)
theorem nowA_size (w : World) : (nowA w).heap.size = w.heap.size + 2 := by simp [nowA]
theorem nowA_0 (w : World) : (nowA w).heap[w.heap.size]? = some (.cells (zs64.map B8).toArray 130 (0, 0)) := heap_alloc2_old w _ _
theorem nowA_1 (w : World) : (nowA w).heap[w.heap.size + 1]? = some (.cells (zs64.map B8).toArray 130 (0, 0)) := heap_alloc2_new w _ _
theorem nowA_keeps (w : World) : Keeps (fun _ => False) w (nowA w) := (Keeps.alloc _ _ _).trans (Keeps.alloc _ _ _)
theorem nowB_facts (w : World) (xs : List UInt8) (h : xs.length = 64) : (nowB w xs).heap[w.heap.size + 1]? = some (.cells (xs.map B8).toArray 130 (0, 0)) ∧ (nowB w xs).heap[w.heap.size]? = some (.cells (zs64.map B8).toArray 130 (0, 0)) ∧ Keeps (fun _ => False) w (nowB w xs) := by
  obtain ⟨h1, h2⟩ := setCells_block (ys := xs) 0 (nowA_1 w) (by rw [zs64_len]; omega)
  rw [splice_all _ _ (by rw [zs64_len, h])] at h1
  refine ⟨h1, (h2.block _ (by rw [nowA_size]; omega) (by omega)).trans (nowA_0 w), ?_⟩
  refine ⟨h2.os, h2.tape, h2.output, Nat.le_trans (nowA_keeps w).size h2.size, fun k hk _ => (h2.block k (by rw [nowA_size]; omega) (by omega)).trans ((nowA_keeps w).block k hk (fun h => h))⟩
theorem nowC_facts (w : World) (xs ys : List UInt8) (h : xs.length = 64) (h' : ys.length = 64) : (nowC w xs ys).heap[w.heap.size]? = some (.cells (ys.map B8).toArray 130 (0, 0)) ∧ Keeps (fun _ => False) w (nowC w xs ys) := by
  obtain ⟨_, g2, g3⟩ := nowB_facts w xs h
  obtain ⟨h1, h2⟩ := setCells_block (ys := ys) 0 g2 (by rw [zs64_len]; omega)
  rw [splice_all _ _ (by rw [zs64_len, h'])] at h1
  have hs : w.heap.size ≤ (nowB w xs).heap.size := g3.size
  exact ⟨h1, ⟨h2.os.trans g3.os, h2.tape.trans g3.tape, h2.output.trans g3.output, Nat.le_trans hs h2.size, fun k hk hF => (h2.block k (by omega) (by omega)).trans (g3.block k hk hF)⟩⟩

/-- A read hands back new bytes and an error. -/
def GivesRead (w : World) (zs : List UInt8) (err : Int) (e : Ending) (w' : World) : Prop :=
  ∃ R c, e = .returned (.tuple #[.slice R zs.length c, .int .i64 err]) ∧ BR w' w'.heap.size R zs ∧ (∀ ad, R = some ad → w.heap.size ≤ ad.block) ∧ Keeps (fun _ => False) w w'
def DSt.readErr (D : DSt) (i : Int) : Int := if D.down = true then 20 else if 0 ≤ i ∧ i < D.n then 0 else 1
def DSt.readAt (D : DSt) (i : Int) : List UInt8 := if D.down = true then [] else if 0 ≤ i ∧ i < D.n then D.now i.toNat else []

theorem newRow (w : World) (xs : List UInt8) (h : xs.length = 64) :
    ((w.alloc (.cells z64 130)).setCells w.heap.size 0 (xs.map B8)).heap[w.heap.size]? = some (.cells (xs.map B8).toArray 130 (0, 0)) ∧ Keeps (fun _ => False) w ((w.alloc (.cells z64 130)).setCells w.heap.size 0 (xs.map B8)) := by
  obtain ⟨h1, h2⟩ := setCells_block (w := w.alloc (.cells z64 130)) (ys := xs) 0 (heap_alloc_new w _) (by rw [zs64_len]; omega)
  rw [splice_all _ _ (by rw [zs64_len, h])] at h1
  refine ⟨h1, ⟨h2.os, h2.tape, h2.output, Nat.le_trans (by simp) h2.size, fun k hk _ => (h2.block k (by simp; omega) (by omega)).trans (Below.heap_alloc w _ k hk)⟩⟩
theorem br_block {w : World} {b : Nat} {zs : List UInt8} {t : TypeId} {fr : Nat × Nat} (hb : w.heap[b]? = some (.cells (zs.map B8).toArray t fr)) (o n : Nat) : BR w w.heap.size (some ⟨b, o, none⟩) ((zs.drop o).take n) := by
  intro _
  refine ⟨_, rfl, (Array.getElem?_eq_some_iff.1 hb).1, fun k u hu => ?_⟩
  rw [Addr.add_mid]
  exact range_block hb o n k _ (by rw [List.getElem?_map, hu]; rfl)

/-- With the bytes' room. -/
def GivesReadC (w : World) (zs : List UInt8) (err : Int) (e : Ending) (w' : World) : Prop :=
  ∃ R c, e = .returned (.tuple #[.slice R zs.length c, .int .i64 err]) ∧ BR w' w'.heap.size R zs ∧ (∀ ad, R = some ad → w.heap.size ≤ ad.block) ∧ Keeps (fun _ => False) w w' ∧ zs.length ≤ c
end Go.Proofs.Ythmlhjjcihibnaa
namespace Go.Proofs.Ythmlhjjcihibnaa
open Go.RowKit Go.Maps

/-! ### more laws at an operation -/
theorem wpStill_load {P : Program} {w : World} {ops : Array Oper} {rest : List Oper} {o : Oper} {a : Act} {Q : Act → Prop} (hw : Region.wanted o (yielded ops a.tmps) = true) (t : TypeId) (x : Operand) (ho : o.op = .load t x) (p v : Value) (hp : a.eval x = p)
    (hrun : (Instr.loadAt t p).run P w = .ok v w) (h : wpStill P ops w Q rest (a.put o.dst v)) : wpStill P ops w Q (o :: rest) a := by
  unfold wpStill
  rw [if_pos hw]
  unfold Oper.still execOp
  simp only [ho, hp, Sem.run_bind, hrun, Result.andThen_ok, Sem.run_pure, Oper.stillUpon, true_and]
  exact h
theorem wpList_buildSlice_run {P : Program} {w w' : World} {ops : Array Oper} {rest : List Oper} {o : Oper} {a : Act} {Q : Exit → Act → World → Prop} (hgd : o.guard = none) (t : TypeId) (x : Operand) (ho : o.op = .buildSlice t 1 #[(0, x)]) (y v : Value) (hy : a.eval x = y)
    (hrun : (Instr.buildSlice t 1 #[(0, y)]).run P w = .ok v w') (h : wpList P ops Q rest (a.put o.dst v) w') : wpList P ops Q (o :: rest) a w :=
  wpList_plain hgd fun _ hK => by
    unfold Oper.wp execOp
    simp only [ho, Sem.run_bind, List.map_toArray, List.map_cons, List.map_nil, hy, hrun, Result.andThen_ok, Sem.run_pure]
    exact hK _ _ h

/-! ### a value laid whole into new cells -/
theorem fold_set (l : List Value) : ∀ (k : Nat) (A : Array Value), k + l.length ≤ A.size →
    ((l.zipIdx k).foldl (fun (cs : Array Value) (x : Value × Nat) => cs.setIfInBounds (0 + x.2) x.1) A) = (A.toList.take k ++ l ++ A.toList.drop (k + l.length)).toArray := by
  induction l with
  | nil => intro k A _; simp
  | cons v r ih =>
    intro k A h
    simp only [List.length_cons] at h
    rw [List.zipIdx_cons, List.foldl_cons, ih (k + 1) _ (by simp; omega)]
    congr 1
    simp only [Nat.zero_add, Array.toList_setIfInBounds, List.length_cons]
    rw [List.take_set, List.drop_set_of_lt (by omega)]
    have : (A.toList.take (k + 1)).set k v = A.toList.take k ++ [v] := by
      rw [List.take_succ_eq_append_getElem (by simp; omega), List.set_append_right _ _ (by simp; omega)]
      simp [show k - min k A.size = 0 from by omega]
    rw [this]
    simp [Nat.add_assoc, Nat.add_comm 1]
theorem fill_one (place : Nat → Option (Nat × Nat)) (A cs : Array Value) (h : cs.size = A.size) (hp : place 0 = some (0, cs.size)) : Instr.fill place A [(0, .agg cs)] = some cs := by
  have hc : (Value.agg cs).cells = cs := rfl
  unfold Instr.fill
  simp only [hp]
  rw [if_neg (by rw [hc]; simp; omega), hc]
  unfold Instr.fill
  have := fold_set cs.toList 0 A (by simp; omega)
  simp only [List.take_zero, List.nil_append, Nat.zero_add, Array.length_toList] at this
  rw [← Array.foldl_toList, Array.toList_zipIdx]
  simp only [Nat.zero_add]
  rw [this, List.drop_of_length_le (by simp; omega)]
  simp

/-- A write as one value. -/
def agq (q : Nat × List UInt8) : Value := .agg (qcells q).toArray
theorem qcells_len {q : Nat × List UInt8} (h : q.2.length = 64) : (qcells q).length = 65 := by simp [qcells, h]
theorem oneCell_q (q : Nat × List UInt8) : ∀ v ∈ qcells q, v.oneCell' = true := by
  intro v hv
  simp only [qcells, List.mem_cons, List.mem_map] at hv
  rcases hv with rfl | ⟨u, _, rfl⟩ <;> rfl
theorem Try.size74 : (Try.prog.info? 132).map (·.size) = some 65 := by kernel_rfl
theorem Try.info74 : (Try.prog.info? 132).map (fun i => (i.zero, i.size, i.bytes)) = some (some (agq (0, zs64)), 65, 72) := by kernel_rfl
theorem zq_len : (qcells (0, zs64)).length = 65 := qcells_len zs64_len
def zq : Array Value := (qcells (0, zs64)).toArray
theorem alloc74 (w : World) : (Instr.alloc 132 true (.tuple #[])).run Try.prog w = .ok (.pointer (some ⟨w.heap.size, 0, none⟩)) (w.alloc (.cells zq 132)) := by kernel_rfl
theorem box74 (w : World) (q : Nat × List UInt8) : (Instr.box 132 (agq q)).run Try.prog w = .ok (.pointer (some ⟨w.heap.size, 0, none⟩)) (w.alloc (.cells (qcells q).toArray 132)) := rfl
theorem load74 {w : World} {b o : Nat} {q : Nat × List UInt8} (hl : q.2.length = 64) (h : w.rangeAt b o (qcells q)) :
    (Instr.loadAt 132 (.pointer (some ⟨b, o, none⟩))).run Try.prog w = .ok (agq q) w :=
  run_loadAt_mid w b o 132 (qcells q) _ h Try.underlying132 rfl (by rw [Try.size74, qcells_len hl])
theorem store74 {w : World} {b o : Nat} {q : Nat × List UInt8} (hl : q.2.length = 64) (h : w.there b o 65) :
    (Instr.storeAt 132 (.pointer (some ⟨b, o, none⟩)) (agq q)).run Try.prog w = .ok () (w.setCells b o (qcells q)) := by
  have := run_storeAt_mid (P := Try.prog) w b o 132 (qcells q).toArray (by simpa [qcells_len hl] using h) (by rw [Try.size74]; simp [qcells_len hl]) (all_oneCell_toArray (oneCell_q q))
  simpa [agq] using this
theorem bslice74 (w : World) {q : Nat × List UInt8} (hl : q.2.length = 64) :
    (Instr.buildSlice 118 1 #[(0, agq q)]).run Try.prog w = .ok (.slice (some ⟨w.heap.size, 0, none⟩) 1 1) (w.alloc (.cells (qcells q).toArray 132)) := by
  obtain ⟨i0, hi, hz0, hz1, hz2⟩ := info_parts Try.info74
  have hzv : ∀ w, (zeroValue 132).run Try.prog w = .ok (agq (0, zs64)) w := fun w => by kernel_rfl
  have hf := fill_one (fun i => some (i * 65, 65)) ((Array.range (1 * 65)).map fun x => ((agq (0, zs64)).cells)[x % ((agq (0, zs64)).cells).size]!) (qcells q).toArray (by simp [qcells_len hl]) (by simp [qcells_len hl])
  have hsz : ∀ w, (sizeOf 132).run Try.prog w = .ok 65 w := fun w => by kernel_rfl
  have hc : (Value.agg (qcells q).toArray).cells = (qcells q).toArray := rfl
  unfold Instr.buildSlice
  simp only [Sem.run_bind, run_underlying Try.underlying118, Result.andThen_ok, hsz]
  rw [if_neg (by decide)]
  rw [if_neg (by decide)]
  simp only [Sem.run_bind, hzv, Result.andThen_ok, Sem.run_pure]
  have e : (agq q) = .agg (qcells q).toArray := rfl
  rw [e, hf]
  rfl

/-! ### blocks of any cells -/
theorem setCells_blockV {w : World} {b : Nat} {zs ys : List Value} {t : TypeId} (o : Nat) (hb : w.heap[b]? = some (.cells zs.toArray t (0, 0))) (hfit : o + ys.length ≤ zs.length) :
    (w.setCells b o ys).heap[b]? = some (.cells (splice zs o ys).toArray t (0, 0)) ∧ Keeps (· = b) w (w.setCells b o ys) := by
  induction ys generalizing w zs o with
  | nil => exact ⟨by simpa [World.setCells, splice] using hb, Keeps.refl _ _⟩
  | cons y r ih =>
    simp only [World.setCells]
    have h1 : (w.setCell ⟨b, o, none⟩ y).heap[b]? = some (.cells (zs.set o y).toArray t (0, 0)) := by
      rw [heap_setCell_same w b o _ t _ hb]
      simp
    simp only [List.length_cons] at hfit
    obtain ⟨h2, h3⟩ := ih (o + 1) h1 (by rw [List.length_set]; omega)
    refine ⟨?_, (Keeps.setCell (· = b) _ _ _ rfl).trans h3⟩
    rw [h2]
    have e : splice (zs.set o y) (o + 1) r = splice zs o (y :: r) := by
      unfold splice
      rw [List.take_set, List.drop_set_of_lt (by omega)]
      have : (zs.take (o + 1)).set o y = zs.take o ++ [y] := by
        rw [List.take_succ_eq_append_getElem (by omega), List.set_append_right _ _ (by simp; omega)]
        simp [show o - min o zs.length = 0 from by omega]
      rw [this]
      simp [Nat.add_assoc, Nat.add_comm 1]
    rw [e]
theorem there_blockV {w : World} {b : Nat} {zs : List Value} {t : TypeId} (hb : w.heap[b]? = some (.cells zs.toArray t (0, 0))) (o n : Nat) (h : o + n ≤ zs.length) : w.there b o n := by
  intro j hj
  refine ⟨?_, frozen_of_row w b _ _ t hb⟩
  rw [cell_of_row w b (o + j) _ t _ hb]
  simp
  omega
theorem range_blockV {w : World} {b : Nat} {zs : List Value} {t : TypeId} {fr : Nat × Nat} (hb : w.heap[b]? = some (.cells zs.toArray t fr)) : w.rangeAt b 0 zs := by
  intro j v hv
  rw [cell_of_row w b (0 + j) _ t _ hb]
  simpa using hv
theorem splice_allV (xs ys : List Value) (h : xs.length = ys.length) : splice xs 0 ys = ys := by
  unfold splice; simp [h]

/-! ### the queue's cells -/
theorem flat_at : ∀ (Q : List (Nat × List UInt8)), (∀ q ∈ Q, q.2.length = 64) → ∀ (i : Nat) (h : i < Q.length) (j : Nat) (v : Value), (qcells Q[i])[j]? = some v → (Q.flatMap qcells)[i * 65 + j]? = some v
  | [], _, i, h, _, _, _ => absurd h (by simp)
  | q :: r, hq, 0, _, j, v, hv => by
    have hj : j < (qcells q).length := (List.getElem?_eq_some_iff.1 hv).1
    rw [List.flatMap_cons, List.getElem?_append_left (by omega)]
    simpa using hv
  | q :: r, hq, i + 1, h, j, v, hv => by
    have h0 : (qcells q).length = 65 := qcells_len (hq q (by simp))
    have := flat_at r (fun x hx => hq x (by simp [hx])) i (by simpa using h) j v (by simpa using hv)
    rw [List.flatMap_cons, List.getElem?_append_right (by omega), h0]
    rw [show (i + 1) * 65 + j - 65 = i * 65 + j from by omega]
    exact this
theorem flat_len (Q : List (Nat × List UInt8)) (h : ∀ q ∈ Q, q.2.length = 64) : (Q.flatMap qcells).length = Q.length * 65 := by
  induction Q with
  | nil => rfl
  | cons q r ih => rw [List.flatMap_cons, List.length_append, ih (fun x hx => h x (by simp [hx])), qcells_len (h q (by simp)), List.length_cons]; omega
/-- Where the queue's i-th write lies. -/
theorem que_range {w : World} {iv : Value} {Q : List (Nat × List UInt8)} (h : w.ownsRow 0 132 65 iv Q.length (Q.flatMap qcells)) (hq : ∀ q ∈ Q, q.2.length = 64) (i : Nat) (hi : i < Q.length) :
    ∃ g cap, iv = .slice (some ⟨g, 0, none⟩) Q.length cap ∧ g < w.heap.size ∧ w.rangeAt g (i * 65) (qcells Q[i]) := by
  obtain ⟨g, cap, hv, _, hlt⟩ := World.ownsRow.form h (by omega)
  refine ⟨g, cap, hv, hlt, fun j v hj => ?_⟩
  have := World.ownsRow.cells h (g := g) (by rw [hv]; rfl) (i * 65 + j) v (flat_at Q hq i hi j v hj)
  rwa [Addr.add_mid, Nat.zero_add] at this

/-- What add leaves. -/
def Added (w : World) (p : Nat) (iv : Value) (Q : List (Nat × List UInt8)) (q : Nat × List UInt8) (e : Ending) (w' : World) : Prop :=
  e = .returned (.tuple #[]) ∧ ∃ w1 iv', w'.heap = (w1.setCell ⟨p, 1, none⟩ iv').heap ∧ w1.ownsRow 0 132 65 iv' (Q.length + 1) ((Q ++ [q]).flatMap qcells) ∧ Keeps (fun k => Value.ownBlock iv = some k) w w1 ∧
    (∀ g, Value.ownBlock iv' = some g → Value.ownBlock iv = some g ∨ w.heap.size ≤ g) ∧ Keeps (fun k => k = p ∨ Value.ownBlock iv = some k) w w'

theorem load53 {w : World} {b o : Nat} {v : Value} (h : w.cell? ⟨b, o, none⟩ = some v) : (Instr.loadAt 118 (.pointer (some ⟨b, o, none⟩))).run Try.prog w = .ok v w := by
  have hagg : (isAgg 118).run Try.prog w = .ok false w := by unfold isAgg; rw [Sem.run_bind, run_underlying Try.underlying118 w]; rfl
  simp [Instr.loadAt, Instr.sureAddr, loadVar, hagg, h]
end Go.Proofs.Ythmlhjjcihibnaa
namespace Go.Proofs.Ythmlhjjcihibnaa
open Go.RowKit Go.Maps

theorem wpList_build_run {P : Program} {w w' : World} {ops : Array Oper} {rest : List Oper} {o : Oper} {a : Act} {Q : Exit → Act → World → Prop} (hgd : o.guard = none) (t : TypeId) (x : Operand) (ho : o.op = .build t #[(0, x)]) (y v : Value) (hy : a.eval x = y)
    (hrun : (Instr.build t #[(0, y)]).run P w = .ok v w') (h : wpList P ops Q rest (a.put o.dst v) w') : wpList P ops Q (o :: rest) a w :=
  wpList_plain hgd fun _ hK => by
    unfold Oper.wp execOp
    simp only [ho, Sem.run_bind, List.map_toArray, List.map_cons, List.map_nil, hy, hrun, Result.andThen_ok, Sem.run_pure]
    exact hK _ _ h
theorem wpList_mapUpdate_run {P : Program} {w w' : World} {ops : Array Oper} {rest : List Oper} {o : Oper} {a : Act} {Q : Exit → Act → World → Prop} (hgd : o.guard = none) (t : TypeId) (x y z : Operand) (ho : o.op = .mapUpdate t x y z) (m k v : Value) (hm : a.eval x = m) (hk : a.eval y = k) (hv : a.eval z = v)
    (hrun : (Instr.mapUpdate t m k v).run P w = .ok () w') (h : wpList P ops Q rest (a.put o.dst undef) w') : wpList P ops Q (o :: rest) a w :=
  wpList_plain hgd fun _ hK => by
    unfold Oper.wp execOp
    simp only [ho, hm, hk, hv, Sem.run_bind, hrun, Result.andThen_ok, Sem.run_pure]
    exact hK _ _ h
theorem build74 (w : World) (k : Nat) : (Instr.build 132 #[(0, .int .i64 (k : Int))]).run Try.prog w = .ok (agq (k, zs64)) w := by kernel_rfl

/-- F and what is new. -/
def Gr (F : Nat → Prop) (w : World) : Nat → Prop := fun k => F k ∨ w.heap.size ≤ k

def DSt.fits (D : DSt) (i : Int) (b : List UInt8) : Prop := 0 ≤ i ∧ i < D.n ∧ b.length = 64
instance (D : DSt) (i : Int) (b : List UInt8) : Decidable (D.fits i b) := by unfold DSt.fits; infer_instance
def DSt.writeErr (D : DSt) (i : Int) (b : List UInt8) : Int := if D.down = true then 20 else if D.fits i b then D.actErr else 1
def DSt.write (D : DSt) (i : Int) (b : List UInt8) : DSt := if D.down = true then D else if D.fits i b then (if D.left = 0 then D.spent else { D.spent with Q := D.Q ++ [(i.toNat, b)] }) else D
def Wrote (w : World) (F : Nat → Prop) (p : Nat) (D : DSt) (err : Int) (e : Ending) (w' : World) : Prop := e = .returned (.int .i64 err) ∧ Dk w' (Gr F w) p D ∧ Keeps F w w'

theorem DkAt.same {w w' : World} {p lb mb n : Nat} {iv : Value} {D : DSt} (h : DkAt w p lb mb n iv D) (k : Keeps (fun _ => False) w w') : DkAt w' p lb mb n iv D := by
  obtain ⟨es, clock, hm⟩ := h.map.obj
  have lt : ∀ {b : Nat} {o : Obj}, w.heap[b]? = some o → w'.heap[b]? = w.heap[b]? := fun e => k.block _ (Array.getElem?_eq_some_iff.1 e).1 (fun h => h)
  exact h.keep (lt h.head) (lt h.rows) (lt hm) (fun g hg => k.block g (h.que.lt g hg).2 (fun h => h))
theorem DSt.spent_Q (D : DSt) : D.spent.Q = D.Q := by unfold DSt.spent; split <;> rfl
theorem DSt.spent_L (D : DSt) : D.spent.L = D.L := by unfold DSt.spent; split <;> rfl
theorem Keeps.ofFalse {F : Nat → Prop} {w w' : World} (h : Keeps (fun _ => False) w w') : Keeps F w w' := h.mono fun _ _ hf => hf.elim

/-- The write's variable, filled in. -/
theorem write_var (w : World) (k : Nat) (xs : List UInt8) :
    ∃ W2, W2 = (w.alloc (.cells zq 132)).setCells w.heap.size 0 (qcells (k, zs64)) ∧ W2.heap[w.heap.size]? = some (.cells (qcells (k, zs64)).toArray 132 (0, 0)) ∧ Keeps (fun _ => False) w W2 ∧
      (W2.setRow w.heap.size (qcells (k, xs)).toArray).heap[w.heap.size]? = some (.cells (qcells (k, xs)).toArray 132 (0, 0)) ∧ Keeps (fun _ => False) w (W2.setRow w.heap.size (qcells (k, xs)).toArray) := by
  have e1 := heap_alloc_last w (.cells zq 132)
  obtain ⟨b1, b2⟩ := setCells_blockV (ys := qcells (k, zs64)) 0 e1 (by rw [zq_len, qcells_len zs64_len]; omega)
  rw [splice_allV _ _ (by rw [zq_len, qcells_len zs64_len])] at b1
  have k0 : Keeps (fun _ => False) w (w.alloc (.cells zq 132)) := Keeps.alloc _ _ _
  have kk : Keeps (fun _ => False) w ((w.alloc (.cells zq 132)).setCells w.heap.size 0 (qcells (k, zs64))) :=
    ⟨b2.os, b2.tape, b2.output, Nat.le_trans k0.size b2.size, fun j hj hF => (b2.block j (by simp; omega) (by omega)).trans (k0.block j hj hF)⟩
  refine ⟨_, rfl, b1, kk, ?_⟩
  clear b2 e1 k0
  generalize (w.alloc (.cells zq 132)).setCells w.heap.size 0 (qcells (k, zs64)) = W2 at *
  have kr : Keeps (fun _ => False) w (W2.setRow w.heap.size (qcells (k, xs)).toArray) :=
    ⟨kk.os, kk.tape, kk.output, by rw [size_setRow]; exact kk.size, fun j hj hF => (setRow_other W2 w.heap.size j _ (by omega)).trans (kk.block j hj hF)⟩
  exact ⟨setRow_heap W2 w.heap.size _ _ _ _ b1, kr⟩

theorem Dk.wrote_same {w : World} {F : Nat → Prop} {p : Nat} {D : DSt} (h : Dk w F p D) (err : Int) : Wrote w F p D err (.returned (.int .i64 err)) w := ⟨rfl, h.mono (fun _ _ hf => Or.inl hf), Keeps.refl _ _⟩

end Go.Proofs.Ythmlhjjcihibnaa
namespace Go.Proofs.Ythmlhjjcihibnaa
open Go.RowKit Go.Maps

/-- A fate as a value. -/
structure Fate where
  stay : Int
  torn : Int
  cut : Int
  head : Bool
def fcells (f : Fate) : Array Value := #[.int .u64 f.stay, .int .i64 f.torn, .int .i64 f.cut, .bool f.head]
def agf (f : Fate) : Value := .agg (fcells f)

theorem box71 (w : World) (xs : List UInt8) : (Instr.box 130 (ag xs)).run Try.prog w = .ok (.pointer (some ⟨w.heap.size, 0, none⟩)) (w.alloc (.cells (xs.map B8).toArray 130)) := rfl
theorem box71_2 (w : World) (o : Obj) (xs : List UInt8) : (Instr.box 130 (ag xs)).run Try.prog (w.alloc o) = .ok (.pointer (some ⟨w.heap.size + 1, 0, none⟩)) ((w.alloc o).alloc (.cells (xs.map B8).toArray 130)) := by
  have := box71 (w.alloc o) xs
  rwa [World.size_alloc] at this
theorem alloc71_4 (w : World) (o o' o'' : Obj) : (Instr.alloc 130 true (.tuple #[])).run Try.prog (((w.alloc o).alloc o').alloc o'') = .ok (.pointer (some ⟨w.heap.size + 3, 0, none⟩)) ((((w.alloc o).alloc o').alloc o'').alloc (.cells z64 130)) := by
  have e : (((w.alloc o).alloc o').alloc o'').heap.size = w.heap.size + 3 := by simp
  have := alloc71 (((w.alloc o).alloc o').alloc o'')
  rwa [e] at this

/-- Does the i-th write stay? -/
def stayB (s : Int) (i : Nat) : Bool := (s / 2 ^ (min i 63)) % 2 == 1
theorem and_one64 (x : Int) (h0 : 0 ≤ x) (h1 : x ≤ 18446744073709551615) : bits .and .u64 x 1 = x % 2 := by
  obtain ⟨n, rfl⟩ := Int.eq_ofNat_of_zero_le h0
  have := bits_and_u64_nat n 1 (by omega) (by omega)
  rw [show ((1 : Nat) : Int) = 1 from rfl] at this
  rw [this, Nat.and_one_is_mod]
  omega
theorem div_range (s : Int) (k : Nat) (h0 : 0 ≤ s) (h1 : s ≤ 18446744073709551615) : 0 ≤ s / 2 ^ k ∧ s / 2 ^ k ≤ 18446744073709551615 := by
  obtain ⟨n, rfl⟩ := Int.eq_ofNat_of_zero_le h0
  have e : ((n : Int) / 2 ^ k) = ((n / 2 ^ k : Nat) : Int) := by simp
  have := Nat.div_le_self n (2 ^ k)
  rw [e]
  clear e
  generalize n / 2 ^ k = m at *
  omega

end Go.Proofs.Ythmlhjjcihibnaa
namespace Go.Proofs.Ythmlhjjcihibnaa
open Go.RowKit Go.Maps

/-- What the i-th write that waits makes of the lasting bytes. -/
def layOne (f : Fate) (i : Nat) (q : Nat × List UInt8) (L : List UInt8) : List UInt8 :=
  if ((i : Int) == f.torn) = true then splice L (q.1 * 64) (mixL q.2 (sec L q.1) (clamp f.cut 64) f.head) else if stayB f.stay i = true then splice L (q.1 * 64) q.2 else L
/-- .. the first k. -/
def layTo (f : Fate) (L : List UInt8) (Q : List (Nat × List UInt8)) : Nat → List UInt8
  | 0 => L
  | k + 1 => match Q[k]? with
    | some q => layOne f k q (layTo f L Q k)
    | none => layTo f L Q k
theorem layTo_succ (f : Fate) (L : List UInt8) (Q : List (Nat × List UInt8)) (k : Nat) (h : k < Q.length) : layTo f L Q (k + 1) = layOne f k Q[k] (layTo f L Q k) := by
  simp [layTo, h]
def DSt.settle (D : DSt) (f : Fate) : DSt := { D with L := layTo f D.L D.Q D.Q.length, Q := [] }
theorem layOne_len (f : Fate) (i : Nat) (q : Nat × List UInt8) (L : List UInt8) (h : q.2.length = 64) (hq : q.1 * 64 + 64 ≤ L.length) : (layOne f i q L).length = L.length := by
  unfold layOne
  split
  · exact length_splice _ _ _ (by rw [mixL_len, h]; exact hq)
  · split
    · exact length_splice _ _ _ (by rw [h]; exact hq)
    · rfl
theorem layTo_len (f : Fate) (L : List UInt8) (Q : List (Nat × List UInt8)) (hQ : ∀ q ∈ Q, q.1 * 64 + 64 ≤ L.length ∧ q.2.length = 64) (k : Nat) (hk : k ≤ Q.length) : (layTo f L Q k).length = L.length := by
  induction k with
  | zero => rfl
  | succ k ih =>
    have h := hQ _ (List.getElem_mem (show k < Q.length by omega))
    have ih := ih (by omega)
    rw [layTo_succ _ _ _ _ (by omega), layOne_len _ _ _ _ h.2 (by rw [ih]; exact h.1), ih]

theorem DkAt.withL {w w' : World} {p lb mb n : Nat} {iv : Value} {D : DSt} (h : DkAt w p lb mb n iv D) (k : Keeps (· = lb) w w') (L : List UInt8) (hl : L.length = D.L.length) (hb : w'.heap[lb]? = some (.cells (L.map B8).toArray 130 (0, 0))) :
    DkAt w' p lb mb n iv { D with L := L } := by
  have ap := h.apart
  obtain ⟨es, clock, hm⟩ := h.map.obj
  have lt : ∀ {b : Nat} {o : Obj}, w.heap[b]? = some o → b ≠ lb → w'.heap[b]? = w.heap[b]? := fun e hn => k.block _ (Array.getElem?_eq_some_iff.1 e).1 hn
  refine ⟨⟨hl.trans h.ok.len, h.ok.n_le, h.ok.q, h.ok.lo, h.ok.hi⟩, (lt h.head ap.1).trans h.head, hb, ?_, h.map.keep (lt hm (Ne.symm ap.2.2.1))⟩
  refine ⟨h.que.1, ?_⟩
  rcases h.que.2 with hn | ⟨g, cap, cur, rfl, hb, hgg, rest⟩
  · exact .inl hn
  · exact .inr ⟨g, cap, cur, rfl, hb, (lt hgg (ap.2.2.2 g rfl).2.1).trans hgg, rest⟩

/-- A round's variable: the i-th write, in a new block. -/
theorem var74 (w : World) (q : Nat × List UInt8) (hl : q.2.length = 64) :
    ((w.alloc (.cells zq 132)).setCells w.heap.size 0 (qcells q)).heap[w.heap.size]? = some (.cells (qcells q).toArray 132 (0, 0)) ∧ Keeps (fun _ => False) w ((w.alloc (.cells zq 132)).setCells w.heap.size 0 (qcells q)) ∧
    (Instr.storeAt 132 (.pointer (some ⟨w.heap.size, 0, none⟩)) (agq q)).run Try.prog (w.alloc (.cells zq 132)) = .ok () ((w.alloc (.cells zq 132)).setCells w.heap.size 0 (qcells q)) := by
  have e1 := heap_alloc_last w (.cells zq 132)
  obtain ⟨b1, b2⟩ := setCells_blockV (ys := qcells q) 0 e1 (by rw [zq_len, qcells_len hl]; omega)
  rw [splice_allV _ _ (by rw [zq_len, qcells_len hl])] at b1
  have k0 : Keeps (fun _ => False) w (w.alloc (.cells zq 132)) := Keeps.alloc _ _ _
  exact ⟨b1, ⟨b2.os, b2.tape, b2.output, Nat.le_trans k0.size b2.size, fun j hj hF => (b2.block j (by simp; omega) (by omega)).trans (k0.block j hj hF)⟩, store74 hl (there_blockV e1 0 65 (by rw [zq_len]; omega))⟩
structure Fate.Ok (f : Fate) : Prop where
  s0 : 0 ≤ f.stay
  s1 : f.stay ≤ 18446744073709551615

theorem range_q {w : World} {b k : Nat} {xs : List UInt8} {t : TypeId} {fr : Nat × Nat} (h : w.heap[b]? = some (.cells (qcells (k, xs)).toArray t fr)) : w.rangeAt b 1 (xs.map B8) := by
  intro j v hv
  rw [cell_of_row w _ _ _ _ _ h]
  simp only [qcells, List.getElem?_toArray, Nat.add_comm 1 j, List.getElem?_cons_succ]
  exact hv
theorem sec_lenL {L : List UInt8} {i : Nat} (h : i * 64 + 64 ≤ L.length) : (sec L i).length = 64 := by
  unfold sec
  rw [List.length_take, List.length_drop]
  omega

end Go.Proofs.Ythmlhjjcihibnaa
namespace Go.Proofs.Ythmlhjjcihibnaa
open Go.RowKit Go.Maps

/-- All that waits lasts. -/
def fAll : Fate := ⟨18446744073709551615, -1, 0, false⟩
theorem fAll_ok : fAll.Ok := ⟨by decide, by decide⟩
def DSt.flushErr (D : DSt) : Int := if D.down = true then 20 else D.actErr
def DSt.flush (D : DSt) : DSt := if D.down = true then D else if D.left = 0 then D.spent else D.spent.settle fAll
def DSt.restart (D : DSt) (f : Fate) : DSt := { D.settle f with left := -1, down := false }
theorem wpList_build2_run {P : Program} {w w' : World} {ops : Array Oper} {rest : List Oper} {o : Oper} {a : Act} {Q : Exit → Act → World → Prop} (hgd : o.guard = none) (t : TypeId) (x y : Operand) (ho : o.op = .build t #[(0, x), (1, y)]) (u u' v : Value) (hx : a.eval x = u) (hy : a.eval y = u')
    (hrun : (Instr.build t #[(0, u), (1, u')]).run P w = .ok v w') (h : wpList P ops Q rest (a.put o.dst v) w') : wpList P ops Q (o :: rest) a w :=
  wpList_plain hgd fun _ hK => by
    unfold Oper.wp execOp
    simp only [ho, Sem.run_bind, List.map_toArray, List.map_cons, List.map_nil, hx, hy, hrun, Result.andThen_ok, Sem.run_pure]
    exact hK _ _ h

theorem Keeps.disk {w w' : World} {F : Nat → Prop} {p lb mb : Nat} (h : Keeps (fun k => k = p ∨ k = lb ∨ k = mb) w w') (fp : F p) (fl : F lb) (fm : F mb) : Keeps F w w' := h.mono fun k _ e => by
  rcases e with rfl | rfl | rfl <;> assumption

end Go.Proofs.Ythmlhjjcihibnaa
namespace Go.Proofs.Ythmlhjjcihibnaa
open Go.RowKit Go.Maps

theorem Try.info71 : (Try.prog.info? 130).map (fun i => (i.zero, i.size, i.bytes)) = some (some (ag zs64), 64, 64) := by kernel_rfl
theorem zs_at (j : Nat) (h : j < (zs64.map B8).toArray.size) : (zs64.map B8).toArray[j]! = B8 0 := by
  have e : (zs64.map B8).toArray[j]! = (zs64.map B8).toArray[j] := getElem!_pos (zs64.map B8).toArray j h
  rw [e]
  simp only [List.getElem_toArray, List.getElem_map, zs64, List.getElem_replicate]
theorem zs_size : (zs64.map B8).toArray.size = 64 := by rw [List.size_toArray, List.length_map, zs64_len]
theorem made_zeros (m : Nat) : madeCells (zs64.map B8).toArray m = ((List.replicate m (0 : UInt8)).map B8).toArray := by
  apply Array.ext
  · simp [madeCells]
  · intro i h1 h2
    simp only [madeCells, Array.getElem_map, Array.getElem_range, List.getElem_toArray, List.getElem_map, List.getElem_replicate]
    exact zs_at _ (Nat.mod_lt _ (by rw [zs_size]; omega))
theorem wpList_make_run {P : Program} {w w' : World} {ops : Array Oper} {rest : List Oper} {o : Oper} {a : Act} {Q : Exit → Act → World → Prop} (hgd : o.guard = none) (t : TypeId) (x y : Operand) (ho : o.op = .makeSlice t x y) (u u' v : Value) (hx : a.eval x = u) (hy : a.eval y = u')
    (hrun : (Instr.makeSlice t u u').run P w = .ok v w') (h : wpList P ops Q rest (a.put o.dst v) w') : wpList P ops Q (o :: rest) a w :=
  wpList_plain hgd fun _ hK => by
    unfold Oper.wp execOp
    simp only [ho, hx, hy, Sem.run_bind, hrun, Result.andThen_ok, Sem.run_pure]
    exact hK _ _ h
theorem make71 (k : Nat) (hk : k ≤ 2000) (w : World) :
    (Instr.makeSlice 117 (.int .i64 (k : Int)) (.int .i64 (k : Int))).run Try.prog w = .ok (.slice (some ⟨w.heap.size, 0, none⟩) k k) (w.alloc (.cells ((List.replicate (k * 64) (0 : UInt8)).map B8).toArray 130)) := by
  obtain ⟨i0, hi, hz0, hz1, hz2⟩ := info_parts Try.info71
  have := run_make (P := Try.prog) w 117 130 i0 (ag zs64) Try.underlying117 hi hz0 .i64 .i64 (k : Int) (k : Int) (by omega) (by omega) (by rw [hz2]; omega) (by omega)
  rw [this, hz1]
  have hc : (ag zs64).cells = (zs64.map B8).toArray := rfl
  rw [hc, made_zeros]
  simp

/-- A disk as New makes it. -/
def fresh (n : Nat) : DSt := ⟨List.replicate (n * 64) 0, [], -1, false, 0⟩
def nOf (i : Int) : Nat := min i.toNat 2000
def Made (w : World) (D : DSt) (e : Ending) (w' : World) : Prop := ∃ p, e = .returned (.pointer (some ⟨p, 0, none⟩)) ∧ Dk w' (fun k => w.heap.size ≤ k) p D ∧ Keeps (fun _ => False) w w'

theorem made_of (w : World) (n : Nat) (hn : n ≤ 2000) (w' : World)
    (h : w' = ((w.alloc (.cells ((List.replicate (n * 64) (0 : UInt8)).map B8).toArray 130)).alloc (.map #[] 0)).alloc (.cells #[.slice (some ⟨w.heap.size, 0, none⟩) n n, .slice none 0 0, .map (some (w.heap.size + 1)), .int .i64 (-1), .bool false, .int .i64 0] 123)) :
    Made w (fresh n) (.returned (.pointer (some ⟨w.heap.size + 2, 0, none⟩))) w' := by
  subst h
  refine ⟨w.heap.size + 2, rfl, ⟨w.heap.size, w.heap.size + 1, n, .slice none 0 0, ⟨⟨by simp [fresh, Nat.mul_comm], hn, fun q hq => (by cases hq), by simp [fresh], by simp [fresh]⟩, ?_, ?_, World.ownsRow_nil _ _ _ _, ?_⟩, ?_, ?_, ?_, fun g hg => (by cases hg)⟩, ?_⟩
  · have e : ((w.alloc (.cells ((List.replicate (n * 64) (0 : UInt8)).map B8).toArray 130)).alloc (.map #[] 0)).heap.size = w.heap.size + 2 := by simp
    rw [← e]
    exact heap_alloc_last _ _
  · exact (Below.heap_alloc _ _ _ (by simp; omega)).trans ((Below.heap_alloc _ _ _ (by simp)).trans (heap_alloc_last w _))
  · have hm := MapIs.made (w.alloc (.cells ((List.replicate (n * 64) (0 : UInt8)).map B8).toArray 130))
    have e : (w.alloc (.cells ((List.replicate (n * 64) (0 : UInt8)).map B8).toArray 130)).heap.size = w.heap.size + 1 := by simp
    rw [e] at hm
    exact hm.keep (Below.heap_alloc _ _ _ (by simp))
  · show w.heap.size ≤ w.heap.size + 2; omega
  · exact Nat.le_refl _
  · show w.heap.size ≤ w.heap.size + 1; omega
  · exact ((Keeps.alloc _ _ _).trans (Keeps.alloc _ _ _)).trans (Keeps.alloc _ _ _)

end Go.Proofs.Ythmlhjjcihibnaa
