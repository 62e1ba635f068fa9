/-
  Merged by wip/tools/merge.py: Dk DkAt DkSmall DkRead DkQueue DkWrite DkTorn DkSettle DkFlush DkNew
-/
import Derived.Test.YtebecpjecchfoaaGreatDoorGB
import Derived.Maps.OwnSet
import Derived.Deep.MidRow
import Derived.Lib.Hide
import Derived.Test.YtebecpjecchfoaaGreatDoorGA
import Derived.Outline
import Derived.Deep.QuietTactic
import Derived.BigQuiet
import Derived.Maps.AppendAt
import Derived.StillTailTactics
import Derived.Test.YtebecpjecchfoaaGreatDoorGT
import Derived.Deep.WholeRow
import Derived.Laws.BitsAllLaws
import Derived.Carry
namespace Go.Proofs.YtebecpjecchfoaaGreatDoor
open Go.RowKit Go.Maps Go.MapKept Go.ChangeMaps

/-! ### laws at an operation, from its run -/
theorem wpList_load_run {P : Program} {w w' : World} {ops : Array Oper} {rest : List Oper} {o : Oper} {a : Act} {Q : Exit → Act → World → Prop} (hgd : o.guard = none) (t : TypeId) (x : Operand) (ho : o.op = .load t x) (p v : Value) (hp : a.eval x = p)
    (hrun : (Instr.loadAt t p).run P w = .ok v w') (h : wpList P ops Q rest (a.put o.dst v) w') : wpList P ops Q (o :: rest) a w :=
  wpList_plain hgd fun _ hK => by
    unfold Oper.wp execOp
    simp only [ho, hp, Sem.run_bind, hrun, Result.andThen_ok, Sem.run_pure]
    exact hK _ _ h
theorem wpList_store_run {P : Program} {w w' : World} {ops : Array Oper} {rest : List Oper} {o : Oper} {a : Act} {Q : Exit → Act → World → Prop} (hgd : o.guard = none) (t : TypeId) (x y : Operand) (ho : o.op = .store t x y) (p v : Value) (hp : a.eval x = p) (hv : a.eval y = v)
    (hrun : (Instr.storeAt t p v).run P w = .ok () w') (h : wpList P ops Q rest (a.put o.dst undef) w') : wpList P ops Q (o :: rest) a w :=
  wpList_plain hgd fun _ hK => by
    unfold Oper.wp execOp
    simp only [ho, hp, hv, Sem.run_bind, hrun, Result.andThen_ok, Sem.run_pure]
    exact hK _ _ h
theorem wpList_alloc_run {P : Program} {w w' : World} {ops : Array Oper} {rest : List Oper} {o : Oper} {a : Act} {Q : Exit → Act → World → Prop} (hgd : o.guard = none) (t : TypeId) (ho : o.op = .alloc t) (v : Value)
    (hrun : (Instr.alloc t true (.tuple #[])).run P w = .ok v w') (h : wpList P ops Q rest (a.put o.dst v) w') : wpList P ops Q (o :: rest) a w :=
  wpList_plain hgd fun _ hK => by
    unfold Oper.wp execOp
    simp only [ho, Sem.run_bind, hrun, Result.andThen_ok, Sem.run_pure]
    exact hK _ _ h
theorem wpList_box_run {P : Program} {w w' : World} {ops : Array Oper} {rest : List Oper} {o : Oper} {a : Act} {Q : Exit → Act → World → Prop} (hgd : o.guard = none) (t : TypeId) (x : Operand) (ho : o.op = .box t x) (y v : Value) (hy : a.eval x = y)
    (hrun : (Instr.box t y).run P w = .ok v w') (h : wpList P ops Q rest (a.put o.dst v) w') : wpList P ops Q (o :: rest) a w :=
  wpList_plain hgd fun _ hK => by
    unfold Oper.wp execOp
    simp only [ho, hy, Sem.run_bind, hrun, Result.andThen_ok, Sem.run_pure]
    exact hK _ _ h
theorem wpList_lookup_run {P : Program} {w w' : World} {ops : Array Oper} {rest : List Oper} {o : Oper} {a : Act} {Q : Exit → Act → World → Prop} (hgd : o.guard = none) (t : TypeId) (x y : Operand) (c : Bool) (ho : o.op = .lookup t x y c) (m k v : Value) (hm : a.eval x = m) (hk : a.eval y = k)
    (hrun : (Instr.lookup t m k c).run P w = .ok v w') (h : wpList P ops Q rest (a.put o.dst v) w') : wpList P ops Q (o :: rest) a w :=
  wpList_plain hgd fun _ hK => by
    unfold Oper.wp execOp
    simp only [ho, hm, hk, Sem.run_bind, hrun, Result.andThen_ok, Sem.run_pure]
    exact hK _ _ h

theorem wpList_world {P : Program} {w w' : World} {ops : Array Oper} {l : List Oper} {a : Act} {Q : Exit → Act → World → Prop} (e : w' = w) (h : wpList P ops Q l a w') : wpList P ops Q l a w := by rw [← e]; exact h
/-- A mark at an operation: the goal as it was. -/
theorem here {P : Program} {w : World} {ops : Array Oper} {rest : List Oper} {a : Act} {Q : Exit → Act → World → Prop} {op : Op} {d : Option Tmp} {ty : TypeId} {pos : String} {af : Array Edge} {g : Option (Nat × Bool)}
    (h : wpList P ops Q (⟨d, op, ty, pos, af, g⟩ :: rest) a w) : wpList P ops Q (⟨d, op, ty, pos, af, g⟩ :: rest) a w := h

/-! ### the latest writes, by sector -/
def byteV : Value → Option UInt8
  | .int .u8 n => if 0 ≤ n ∧ n < 256 then some (UInt8.ofNat n.toNat) else none
  | _ => none
def R8 : Value → Option (DataW Unit × List MemPlace)
  | .agg cs => (cs.toList.mapM byteV).map fun xs => (.lit (.string xs), [])
  | _ => none
theorem byteV_mk (x : UInt8) : byteV (B8 x) = some x := by
  have h := x.toNat_lt
  simp only [byteV]
  rw [if_pos ⟨by omega, by omega⟩]
  simp
theorem byteV_inv {v : Value} {x : UInt8} (h : byteV v = some x) : v = B8 x := by
  unfold byteV at h
  split at h
  · rename_i n
    split at h
    · rename_i hn
      simp only [Option.some.injEq] at h
      subst h
      have e : ((UInt8.ofNat n.toNat).toNat : Int) = n := by simp; omega
      show Value.int .u8 n = .int .u8 _
      rw [e]
    · cases h
  · cases h
theorem mapM_byteV (xs : List UInt8) : (xs.map B8).mapM byteV = some xs := by
  induction xs with
  | nil => rfl
  | cons x r ih => rw [List.map_cons, List.mapM_cons, byteV_mk, ih]; rfl
theorem mapM_byteV_inv : ∀ {vs : List Value} {xs : List UInt8}, vs.mapM byteV = some xs → vs = xs.map B8
  | [], xs, h => by cases h; rfl
  | v :: r, xs, h => by
    rw [List.mapM_cons] at h
    cases hv : byteV v with
    | none => rw [hv] at h; cases h
    | some x =>
      rw [hv] at h
      cases hr : r.mapM byteV with
      | none => rw [hr] at h; cases h
      | some ys =>
        rw [hr] at h
        cases h
        rw [byteV_inv hv, mapM_byteV_inv hr]
        rfl
/-- 64 bytes (or any) as one value. -/
def ag (xs : List UInt8) : Value := .agg (xs.map B8).toArray
theorem R8_mk (xs : List UInt8) : R8 (ag xs) = some (.lit (.string xs), []) := by
  show Option.map _ (List.mapM byteV (xs.map B8)) = _
  rw [mapM_byteV]; rfl
theorem R8_inv {v : Value} {xs : List UInt8} {ps : List MemPlace} (h : R8 v = some (.lit (.string xs), ps)) : v = ag xs := by
  unfold R8 at h
  split at h
  · rename_i cs
    cases hm : cs.toList.mapM byteV with
    | none => rw [hm] at h; cases h
    | some ys =>
      rw [hm] at h
      simp only [Option.map_some, Option.some.injEq, Prod.mk.injEq, DataW.lit.injEq, Lit.string.injEq] at h
      obtain ⟨rfl, _⟩ := h
      have := mapM_byteV_inv hm
      unfold ag
      rw [← this]
  · cases h

/-- The last write to a sector that waits. -/
def lastW : List (Nat × List UInt8) → Nat → Option (List UInt8)
  | [], _ => none
  | q :: r, n => match lastW r n with
    | some b => some b
    | none => if q.1 = n then some q.2 else none
theorem lastW_snoc (Q : List (Nat × List UInt8)) (m : Nat) (b : List UInt8) (n : Nat) : lastW (Q ++ [(m, b)]) n = if m = n then some b else lastW Q n := by
  induction Q with
  | nil => simp [lastW]
  | cons q r ih =>
    simp only [List.cons_append, lastW, ih]
    by_cases h : m = n
    · simp [h]
    · simp [h]
theorem lastW_mem {Q : List (Nat × List UInt8)} {n : Nat} {b : List UInt8} (h : lastW Q n = some b) : (n, b) ∈ Q := by
  induction Q with
  | nil => cases h
  | cons q r ih =>
    unfold lastW at h
    cases hr : lastW r n with
    | some c => rw [hr] at h; cases h; exact List.mem_cons_of_mem _ (ih hr)
    | none =>
      rw [hr] at h
      simp only at h
      split at h
      · rename_i e; cases h; subst e; exact List.mem_cons_self
      · cases h

theorem intKeyed : Keyed Tryz.prog 3 := int_keyed Tryz.underlying3
theorem keyNat (n : Nat) (h : n < 1000000) : keyOf Tryz.prog 3 (.int .i64 (n : Int)) = some (.int .i64 (n : Int)) := keyOf_int_mk Tryz.underlying3 (by
  simp [Lit.wf, IntKind.min, IntKind.max, IntKind.signed, IntKind.bits]; omega)

/-- The map in block mb has, by sector, the last write of Q. -/
def MapIs (w : World) (mb : Nat) (Q : List (Nat × List UInt8)) : Prop :=
  ∃ DM, w.ownsMap Tryz.prog 3 R8 mb Q.length DM ∧ IsMap DM ∧ ∀ n : Nat, n < 1000000 → has DM (.int .i64 (n : Int)) = (lastW Q n).isSome ∧ ∀ b, lastW Q n = some b → ∀ z, DM.atKey (.int .i64 (n : Int)) z = .lit (.string b)

def zs64 : List UInt8 := List.replicate 64 0
theorem zs64_len : zs64.length = 64 := by simp [zs64]
theorem zero71 (w : World) : (zeroValue 128).run Tryz.prog w = .ok (ag zs64) w := by kernel_rfl

theorem MapIs.look {w : World} {mb : Nat} {Q : List (Nat × List UInt8)} (h : MapIs w mb Q) (n : Nat) (hn : n < 1000000) :
    (Instr.lookup 109 (.map (some mb)) (.int .i64 (n : Int)) true).run Tryz.prog w = .ok (.tuple #[ag ((lastW Q n).getD zs64), .bool (lastW Q n).isSome]) w := by
  obtain ⟨DM, hown, _, hall⟩ := h
  obtain ⟨hh, hat⟩ := hall n hn
  obtain ⟨v, ps, hrun, hv⟩ := hown.look_ok intKeyed Tryz.underlying109 (zero71 w) (R8_mk zs64) (keyNat n hn)
  rw [hrun, hh]
  cases hl : lastW Q n with
  | none =>
    rw [hl] at hh
    rw [atKey_of_not_has hh] at hv
    rw [R8_inv hv]
    rfl
  | some b =>
    rw [hat b hl] at hv
    rw [R8_inv hv]
    rfl
theorem lit_ne {a b : Nat} (h : a ≠ b) : (Lit.int .i64 (a : Int)) ≠ .int .i64 (b : Int) := by
  intro e
  injection e with _ e
  omega
theorem MapIs.put {w : World} {mb : Nat} {Q : List (Nat × List UInt8)} (h : MapIs w mb Q) (n : Nat) (hn : n < 1000000) (b : List UInt8) (hq : Q.length < 1954687338212) :
    ∃ w', (Instr.mapUpdate 109 (.map (some mb)) (.int .i64 (n : Int)) (ag b)).run Tryz.prog w = .ok () w' ∧ MapIs w' mb (Q ++ [(n, b)]) ∧ w.grownBy w' (some mb) := by
  obtain ⟨DM, hown, hm, hall⟩ := h
  obtain ⟨w', hrun, hown', hg⟩ := hown.update intKeyed Tryz.underlying109 (by unfold maxLen; omega) (keyNat n hn) (R8_mk b)
  refine ⟨w', hrun, ⟨_, by rw [List.length_append]; exact hown', hm.put _ _, fun i hi => ?_⟩, hg⟩
  rw [lastW_snoc]
  by_cases e : n = i
  · subst e
    rw [if_pos rfl, has_put_same hm (by trivial)]
    exact ⟨rfl, fun b' hb z => by cases hb; exact atKey_put_same hm (by trivial) _ _⟩
  · rw [if_neg e, has_put_other (lit_ne (Ne.symm e))]
    refine ⟨(hall i hi).1, fun b' hb z => ?_⟩
    rw [atKey_put_other (lit_ne (Ne.symm e))]
    exact (hall i hi).2 b' hb z
theorem MapIs.made (w : World) : MapIs (w.alloc (.map #[] 0)) w.heap.size [] :=
  ⟨_, World.ownsMap_made w _ _ _, isMap_empty, fun _ _ => ⟨rfl, fun b hb => by cases hb⟩⟩
theorem MapIs.keep {w w' : World} {mb : Nat} {Q : List (Nat × List UInt8)} (h : MapIs w mb Q) (hk : w'.heap[mb]? = w.heap[mb]?) : MapIs w' mb Q := by
  obtain ⟨DM, ⟨es, clock, hb, r⟩, rest⟩ := h
  exact ⟨DM, ⟨es, clock, hk.trans hb, r⟩, rest⟩
theorem MapIs.lt {w : World} {mb : Nat} {Q : List (Nat × List UInt8)} (h : MapIs w mb Q) : mb < w.heap.size := by
  obtain ⟨DM, hown, _⟩ := h; exact hown.lt
theorem MapIs.obj {w : World} {mb : Nat} {Q : List (Nat × List UInt8)} (h : MapIs w mb Q) : ∃ es clock, w.heap[mb]? = some (.map es clock) := by
  obtain ⟨DM, ⟨es, clock, hb, _⟩, _⟩ := h; exact ⟨es, clock, hb⟩
theorem MapIs.clear {w : World} {mb : Nat} {Q : List (Nat × List UInt8)} (h : MapIs w mb Q) (ty : TypeId) :
    ∃ w', (Builtin.clear_ #[109] ty #[.map (some mb)]).run Tryz.prog w = .ok (.tuple #[]) w' ∧ MapIs w' mb [] ∧ w.grownBy w' (some mb) := by
  obtain ⟨DM, ⟨es, clock, hb, F, _⟩, _⟩ := h
  refine ⟨setBlock w mb (.map #[] clock), ?_, ⟨.map [], ⟨#[], clock, heap_setBlock_same hb _, ⟨by simp, ⟨fun _ h => (by simp at h), by simp, by simp⟩, fun _ h => (by simp at h)⟩, by simp, rfl⟩, isMap_empty, fun _ _ => ⟨rfl, fun b hb => by cases hb⟩⟩,
    ⟨rfl, rfl, rfl, by simp [setBlock], fun i _ hi => heap_setBlock_other hb _ (fun e => hi (by rw [e]))⟩⟩
  simp [Builtin.clear_, run_underlying Tryz.underlying109, MapKept.run_getObj_map hb, MapKept.run_setObj_map _ hb, Result.andThen]
  rfl
end Go.Proofs.YtebecpjecchfoaaGreatDoor
namespace Go.Proofs.YtebecpjecchfoaaGreatDoor
open Go.RowKit Go.Maps

/-- A disk, as the document has it: its sectors' bytes one behind the other, the writes that wait, what Arm left, whether it is down, its acts. -/
structure DSt where
  L : List UInt8
  Q : List (Nat × List UInt8)
  left : Int
  down : Bool
  acts : Nat

def qcells (q : Nat × List UInt8) : List Value := .int .i64 (q.1 : Int) :: q.2.map B8
/-- A sector's bytes. -/
def sec (L : List UInt8) (n : Nat) : List UInt8 := (L.drop (n * 64)).take 64

structure DSt.Ok (D : DSt) (n : Nat) : Prop where
  len : D.L.length = 64 * n
  n_le : n ≤ 2000
  q : ∀ q ∈ D.Q, q.1 < n ∧ q.2.length = 64
  lo : -1 ≤ D.left
  hi : D.left ≤ 9223372036854775807

/-- The disk lies at block p. -/
structure DkAt (w : World) (p lb mb n : Nat) (iv : Value) (D : DSt) : Prop where
  ok : D.Ok n
  head : w.heap[p]? = some (.cells #[.slice (some ⟨lb, 0, none⟩) n n, iv, .map (some mb), .int .i64 D.left, .bool D.down, .int .i64 (D.acts : Int)] 114 (0, 0))
  rows : w.heap[lb]? = some (.cells (D.L.map B8).toArray 128 (0, 0))
  que : w.ownsRow 0 168 65 iv D.Q.length (D.Q.flatMap qcells)
  map : MapIs w mb D.Q

/-- The disk at block p, in blocks of F alone. -/
def Dk (w : World) (F : Nat → Prop) (p : Nat) (D : DSt) : Prop :=
  ∃ lb mb n iv, DkAt w p lb mb n iv D ∧ F p ∧ F lb ∧ F mb ∧ ∀ g, Value.ownBlock iv = some g → F g

theorem DkAt.keep {w w' : World} {p lb mb n : Nat} {iv : Value} {D : DSt} (h : DkAt w p lb mb n iv D) (hp : w'.heap[p]? = w.heap[p]?) (hl : w'.heap[lb]? = w.heap[lb]?) (hm : w'.heap[mb]? = w.heap[mb]?)
    (hi : ∀ g, Value.ownBlock iv = some g → w'.heap[g]? = w.heap[g]?) : DkAt w' p lb mb n iv D := by
  refine ⟨h.ok, hp.trans h.head, hl.trans h.rows, ?_, h.map.keep hm⟩
  refine ⟨h.que.1, ?_⟩
  rcases h.que.2 with hn | ⟨g, cap, cur, rfl, hb, hgg, rest⟩
  · exact .inl hn
  · exact .inr ⟨g, cap, cur, rfl, hb, (hi g rfl).trans hgg, rest⟩
theorem Dk.lt {w : World} {F : Nat → Prop} {p : Nat} {D : DSt} (h : Dk w F p D) : p < w.heap.size := by
  obtain ⟨lb, mb, n, iv, h, _⟩ := h
  exact (Array.getElem?_eq_some_iff.1 h.head).1
/-- The disk is as it was where only other blocks were written. -/
theorem Dk.keep {w w' : World} {F G : Nat → Prop} {p : Nat} {D : DSt} (h : Dk w F p D) (k : Keeps G w w') (hd : ∀ b, b < w.heap.size → F b → ¬ G b) : Dk w' F p D := by
  obtain ⟨lb, mb, n, iv, h, fp, fl, fm, fi⟩ := h
  have lt : ∀ {b : Nat} {o : Obj}, w.heap[b]? = some o → b < w.heap.size := fun e => (Array.getElem?_eq_some_iff.1 e).1
  have keep : ∀ {b : Nat} {o : Obj}, w.heap[b]? = some o → F b → w'.heap[b]? = w.heap[b]? := fun e hf => k.block _ (lt e) (hd _ (lt e) hf)
  obtain ⟨es, clock, hm⟩ := h.map.obj
  refine ⟨lb, mb, n, iv, h.keep (keep h.head fp) (keep h.rows fl) (keep hm fm) (fun g hg => ?_), fp, fl, fm, fi⟩
  exact k.block g (h.que.lt g hg).2 (hd _ (h.que.lt g hg).2 (fi g hg))
theorem Dk.mono {w : World} {F G : Nat → Prop} {p : Nat} {D : DSt} (h : Dk w F p D) (hF : ∀ k, k < w.heap.size → F k → G k) : Dk w G p D := by
  obtain ⟨lb, mb, n, iv, h, fp, fl, fm, fi⟩ := h
  obtain ⟨es, clock, hm⟩ := h.map.obj
  have lt : ∀ {b : Nat} {o : Obj}, w.heap[b]? = some o → b < w.heap.size := fun e => (Array.getElem?_eq_some_iff.1 e).1
  exact ⟨lb, mb, n, iv, h, hF _ (lt h.head) fp, hF _ (lt h.rows) fl, hF _ (lt hm) fm, fun g hg => hF _ (h.que.lt g hg).2 (fi g hg)⟩
theorem DkAt.apart {w : World} {p lb mb n : Nat} {iv : Value} {D : DSt} (h : DkAt w p lb mb n iv D) : p ≠ lb ∧ p ≠ mb ∧ lb ≠ mb ∧ ∀ g, Value.ownBlock iv = some g → g ≠ p ∧ g ≠ lb ∧ g ≠ mb := by
  obtain ⟨es, clock, hm⟩ := h.map.obj
  have h1 := h.head
  have h2 := h.rows
  refine ⟨?_, ?_, ?_, fun g hg => ?_⟩
  · rintro rfl; rw [h1] at h2; simp at h2
  · rintro rfl; rw [h1] at hm; simp at hm
  · rintro rfl; rw [h2] at hm; simp at hm
  · rcases h.que.2 with ⟨rfl, _⟩ | ⟨g', cap, cur, rfl, hb, hgg, rest⟩
    · cases hg
    · simp only [Value.ownBlock, Option.some.injEq] at hg
      subst hg
      refine ⟨?_, ?_, ?_⟩
      · rintro rfl; rw [h1] at hgg; simp at hgg
      · rintro rfl; rw [h2] at hgg; simp at hgg
      · rintro rfl; rw [hm] at hgg; simp at hgg
/-- The struct's cells. -/
theorem DkAt.c {w : World} {p lb mb n : Nat} {iv : Value} {D : DSt} (h : DkAt w p lb mb n iv D) :
    w.cell? ⟨p, 0, none⟩ = some (.slice (some ⟨lb, 0, none⟩) n n) ∧ w.cell? ⟨p, 1, none⟩ = some iv ∧ w.cell? ⟨p, 2, none⟩ = some (.map (some mb)) ∧ w.cell? ⟨p, 3, none⟩ = some (.int .i64 D.left) ∧ w.cell? ⟨p, 4, none⟩ = some (.bool D.down) ∧
    w.cell? ⟨p, 5, none⟩ = some (.int .i64 (D.acts : Int)) ∧ ∀ i, w.frozen? ⟨p, i, none⟩ = false := by
  have hh := h.head
  refine ⟨?_, ?_, ?_, ?_, ?_, ?_, fun i => frozen_of_row w p i _ _ hh⟩ <;> rw [cell_of_row w p _ _ _ _ hh] <;> rfl
theorem DkAt.setLeft {w : World} {p lb mb n : Nat} {iv : Value} {D : DSt} (h : DkAt w p lb mb n iv D) (x : Int) (h1 : -1 ≤ x) (h2 : x ≤ 9223372036854775807) : DkAt (w.setCell ⟨p, 3, none⟩ (.int .i64 x)) p lb mb n iv { D with left := x } := by
  have ap := h.apart
  have k : ∀ b, b ≠ p → (w.setCell ⟨p, 3, none⟩ (.int .i64 x)).heap[b]? = w.heap[b]? := fun b hb => Below.heap_setCell _ _ _ _ hb
  refine ⟨⟨h.ok.len, h.ok.n_le, h.ok.q, h1, h2⟩, ?_, (k _ ap.1.symm).trans h.rows, ?_, h.map.keep (k _ ap.2.1.symm)⟩
  · rw [heap_setCell_same w p 3 _ _ _ h.head]; rfl
  · refine ⟨h.que.1, ?_⟩
    rcases h.que.2 with hn | ⟨g, cap, cur, rfl, hb, hgg, rest⟩
    · exact .inl hn
    · exact .inr ⟨g, cap, cur, rfl, hb, (k _ (ap.2.2.2 g rfl).1).trans hgg, rest⟩
theorem DkAt.setDown {w : World} {p lb mb n : Nat} {iv : Value} {D : DSt} (h : DkAt w p lb mb n iv D) (x : Bool) : DkAt (w.setCell ⟨p, 4, none⟩ (.bool x)) p lb mb n iv { D with down := x } := by
  have ap := h.apart
  have k : ∀ b, b ≠ p → (w.setCell ⟨p, 4, none⟩ (.bool x)).heap[b]? = w.heap[b]? := fun b hb => Below.heap_setCell _ _ _ _ hb
  refine ⟨⟨h.ok.len, h.ok.n_le, h.ok.q, h.ok.lo, h.ok.hi⟩, ?_, (k _ ap.1.symm).trans h.rows, ?_, h.map.keep (k _ ap.2.1.symm)⟩
  · rw [heap_setCell_same w p 4 _ _ _ h.head]; rfl
  · refine ⟨h.que.1, ?_⟩
    rcases h.que.2 with hn | ⟨g, cap, cur, rfl, hb, hgg, rest⟩
    · exact .inl hn
    · exact .inr ⟨g, cap, cur, rfl, hb, (k _ (ap.2.2.2 g rfl).1).trans hgg, rest⟩
theorem DkAt.setActs {w : World} {p lb mb n : Nat} {iv : Value} {D : DSt} (h : DkAt w p lb mb n iv D) (x : Nat) : DkAt (w.setCell ⟨p, 5, none⟩ (.int .i64 (x : Int))) p lb mb n iv { D with acts := x } := by
  have ap := h.apart
  have k : ∀ b, b ≠ p → (w.setCell ⟨p, 5, none⟩ (.int .i64 (x : Int))).heap[b]? = w.heap[b]? := fun b hb => Below.heap_setCell _ _ _ _ hb
  refine ⟨⟨h.ok.len, h.ok.n_le, h.ok.q, h.ok.lo, h.ok.hi⟩, ?_, (k _ ap.1.symm).trans h.rows, ?_, h.map.keep (k _ ap.2.1.symm)⟩
  · rw [heap_setCell_same w p 5 _ _ _ h.head]; rfl
  · refine ⟨h.que.1, ?_⟩
    rcases h.que.2 with hn | ⟨g, cap, cur, rfl, hb, hgg, rest⟩
    · exact .inl hn
    · exact .inr ⟨g, cap, cur, rfl, hb, (k _ (ap.2.2.2 g rfl).1).trans hgg, rest⟩
end Go.Proofs.YtebecpjecchfoaaGreatDoor
namespace Go.Proofs.YtebecpjecchfoaaGreatDoor
open Go.RowKit Go.Maps

/-- How many sectors. -/
def DSt.n (D : DSt) : Nat := D.L.length / 64
theorem DSt.Ok.n_eq {D : DSt} {n : Nat} (h : D.Ok n) : D.n = n := by unfold DSt.n; rw [h.len]; omega


set_option maxRecDepth 100000 in
set_option maxHeartbeats 400000 in
theorem made_at {w : World} {p lb mb n : Nat} {iv : Value} {D : DSt} (h : DkAt w p lb mb n iv D) :
    Calls Tryz.prog 65 #[.pointer (some ⟨p, 0, none⟩)] w fun e w' => e = .returned (.bool true) ∧ w = w' := by
  obtain ⟨c0, c1, c2, c3, c4, c5, fz⟩ := h.c
  clear h fz c0 c1 c3 c4 c5
  have hm := fun (w : World) => run_neq_map_nil (P := Tryz.prog) w 109 3 128 (some mb) Tryz.underlying109
  go_enter Tryz.func65, Tryz.ntmps65
  go_wp2
  go_ret
  exact ⟨rfl, rfl⟩

set_option maxRecDepth 100000 in
set_option maxHeartbeats 400000 in
theorem len_at {w : World} {p lb mb n : Nat} {iv : Value} {D : DSt} (h : DkAt w p lb mb n iv D) :
    Calls Tryz.prog 71 #[.pointer (some ⟨p, 0, none⟩)] w fun e w' => e = .returned (.int .i64 (n : Int)) ∧ w = w' := by
  obtain ⟨c0, c1, c2, c3, c4, c5, fz⟩ := h.c
  clear fz c1 c3 c4 c5
  go_enter Tryz.func71, Tryz.ntmps71
  go_wp2_with (go_at_call 65; refine (made_at h).mono ?_; rintro e w' ⟨rfl, rfl⟩)
  go_ret
  exact ⟨rfl, rfl⟩

set_option maxRecDepth 100000 in
set_option maxHeartbeats 400000 in
theorem down_at {w : World} {p lb mb n : Nat} {iv : Value} {D : DSt} (h : DkAt w p lb mb n iv D) :
    Calls Tryz.prog 112 #[.pointer (some ⟨p, 0, none⟩)] w fun e w' => e = .returned (.bool D.down) ∧ w = w' := by
  obtain ⟨c0, c1, c2, c3, c4, c5, fz⟩ := h.c
  clear fz c0 c1 c2 c3 c5
  go_enter Tryz.func112, Tryz.ntmps112
  go_wp2_with (go_at_call 65; refine (made_at h).mono ?_; rintro e w' ⟨rfl, rfl⟩)
  go_ret
  exact ⟨rfl, rfl⟩

set_option maxRecDepth 100000 in
set_option maxHeartbeats 400000 in
theorem has_yes {w : World} {p lb mb n : Nat} {iv : Value} {D : DSt} (h : DkAt w p lb mb n iv D) (i : Int) (h0 : 0 ≤ i) (h1 : i < n) :
    Calls Tryz.prog 162 #[.pointer (some ⟨p, 0, none⟩), .int .i64 i] w fun e w' => e = .returned (.bool true) ∧ w = w' := by
  go_enter Tryz.func162, Tryz.ntmps162
  go_wp2_with (go_at_call 71; refine (len_at h).mono ?_; rintro e w' ⟨rfl, rfl⟩)
  go_ret
  exact ⟨ret_bool (by simp), rfl⟩
set_option maxRecDepth 100000 in
set_option maxHeartbeats 400000 in
theorem has_no {w : World} {p lb mb n : Nat} {iv : Value} {D : DSt} (h : DkAt w p lb mb n iv D) (i : Int) (h0 : i < 0 ∨ n ≤ i) :
    Calls Tryz.prog 162 #[.pointer (some ⟨p, 0, none⟩), .int .i64 i] w fun e w' => e = .returned (.bool false) ∧ w = w' := by
  by_cases hn : i < 0
  · clear h0
    go_enter Tryz.func162, Tryz.ntmps162
    go_wp2_with (go_at_call 71; refine (len_at h).mono ?_; rintro e w' ⟨rfl, rfl⟩)
    go_ret
    exact ⟨rfl, rfl⟩
  · have h1 : n ≤ i := by omega
    clear h0
    go_enter Tryz.func162, Tryz.ntmps162
    go_wp2_with (go_at_call 71; refine (len_at h).mono ?_; rintro e w' ⟨rfl, rfl⟩)
    go_ret
    exact ⟨ret_bool (by simp; omega), rfl⟩

/-- What one act makes of a disk: done, or the power goes. -/
def DSt.spent (D : DSt) : DSt := if D.left = 0 then { D with down := true } else { D with left := if 0 < D.left then D.left - 1 else D.left, acts := D.acts + 1 }

/-- The error of an act. -/
def DSt.actErr (D : DSt) : Int := if D.left = 0 then 20 else 0

set_option maxRecDepth 100000 in
set_option maxHeartbeats 400000 in
theorem act_at {w : World} {p lb mb n : Nat} {iv : Value} {D : DSt} (h : DkAt w p lb mb n iv D) (ha : D.acts ≤ 1000000000000000) :
    Calls Tryz.prog 163 #[.pointer (some ⟨p, 0, none⟩)] w fun e w' => e = .returned (.int .i64 D.actErr) ∧ DkAt w' p lb mb n iv D.spent ∧ Keeps (· = p) w w' := by
  have hlo := h.ok.lo
  have hhi := h.ok.hi
  obtain ⟨c0, c1, c2, c3, c4, c5, fz⟩ := h.c
  have fz3 := fz 3
  have fz4 := fz 4
  have fz5 := fz 5
  clear fz c0 c1 c2
  by_cases h0 : D.left = 0
  · have hs : D.spent = { D with down := true } := by unfold DSt.spent; rw [if_pos h0]
    have he : D.actErr = 20 := by unfold DSt.actErr; rw [if_pos h0]
    have HS := Lib.hid hs
    have HE := Lib.hid he
    rw [h0] at c3
    clear h0 hs he
    go_enter Tryz.func163, Tryz.ntmps163
    go_wp2
    go_ret
    rw [HE.out, HS.out]
    exact ⟨rfl, h.setDown true, Keeps.setCell (· = p) _ _ _ rfl⟩
  · have hb0 : (D.left == 0) = false := beq_eq_false_iff_ne.2 h0
    have he : D.actErr = 0 := by unfold DSt.actErr; rw [if_neg h0]
    have HE := Lib.hid he
    clear he
    by_cases h1 : 0 < D.left
    · have hs : D.spent = { D with left := D.left - 1, acts := D.acts + 1 } := by unfold DSt.spent; rw [if_neg h0, if_pos h1]
      have HS := Lib.hid hs
      clear hs h0
      have c5' : (w.setCell ⟨p, 3, none⟩ (.int .i64 (D.left - 1))).cell? ⟨p, 5, none⟩ = some (.int .i64 (D.acts : Int)) := by rw [World.cell?_setCell_other _ _ _ _ (by simp)]; exact c5
      go_enter Tryz.func163, Tryz.ntmps163
      go_wp2
      go_ret
      rw [HE.out, HS.out]
      exact ⟨rfl, (h.setLeft (D.left - 1) (by omega) (by omega)).setActs (D.acts + 1), (Keeps.setCell (· = p) _ _ _ rfl).trans (Keeps.setCell (· = p) _ _ _ rfl)⟩
    · have hs : D.spent = { D with acts := D.acts + 1 } := by unfold DSt.spent; rw [if_neg h0, if_neg h1]
      have HS := Lib.hid hs
      clear hs h0
      go_enter Tryz.func163, Tryz.ntmps163
      go_wp2
      go_ret
      rw [HE.out, HS.out]
      exact ⟨rfl, h.setActs (D.acts + 1), Keeps.setCell (· = p) _ _ _ rfl⟩

set_option maxRecDepth 100000 in
set_option maxHeartbeats 400000 in
theorem many_at {w : World} {p lb mb n : Nat} {iv : Value} {D : DSt} (h : DkAt w p lb mb n iv D) :
    Calls Tryz.prog 119 #[.pointer (some ⟨p, 1, none⟩)] w fun e w' => e = .returned (.int .i64 (D.Q.length : Int)) ∧ w = w' := by
  obtain ⟨c0, c1, c2, c3, c4, c5, fz⟩ := h.c
  clear fz c0 c2 c3 c4 c5
  have hv : ∃ A cap, iv = .slice A D.Q.length cap := by
    rcases h.que.2 with ⟨e, hn⟩ | ⟨g, cap, cur, e, _⟩
    · exact ⟨none, 0, by rw [e, hn]⟩
    · exact ⟨_, _, e⟩
  obtain ⟨A, cap, rfl⟩ := hv
  clear h
  go_enter Tryz.func119, Tryz.ntmps119
  go_wp2
  go_ret
  exact ⟨rfl, rfl⟩
end Go.Proofs.YtebecpjecchfoaaGreatDoor
namespace Go.Proofs.YtebecpjecchfoaaGreatDoor
open Go.RowKit Go.Maps

/-- 64 noughts as cells. -/
def z64 : Array Value := (zs64.map B8).toArray
theorem alloc71 (w : World) : (Instr.alloc 128 true (.tuple #[])).run Tryz.prog w = .ok (.pointer (some ⟨w.heap.size, 0, none⟩)) (w.alloc (.cells z64 128)) := by kernel_rfl
theorem alloc71_2 (w : World) (o : Obj) : (Instr.alloc 128 true (.tuple #[])).run Tryz.prog (w.alloc o) = .ok (.pointer (some ⟨w.heap.size + 1, 0, none⟩)) ((w.alloc o).alloc (.cells z64 128)) := by
  have := alloc71 (w.alloc o)
  rwa [World.size_alloc] at this
theorem Tryz.size71 : (Tryz.prog.info? 128).map (·.size) = some 64 := by kernel_rfl

theorem oneCell_b8 (xs : List UInt8) : ((xs.map B8).toArray).all (·.oneCell') = true := all_oneCell_toArray (fun v hv => by
  simp only [List.mem_map] at hv
  obtain ⟨u, _, rfl⟩ := hv
  rfl)

/-- A sector in the middle of a block of bytes. -/
theorem load71 {w : World} {b o : Nat} {xs : List UInt8} (hl : xs.length = 64) (h : w.rangeAt b o (xs.map B8)) :
    (Instr.loadAt 128 (.pointer (some ⟨b, o, none⟩))).run Tryz.prog w = .ok (ag xs) w :=
  run_loadAt_mid w b o 128 (xs.map B8) _ h Tryz.underlying128 rfl (by rw [Tryz.size71, List.length_map, hl])
theorem store71 {w : World} {b o : Nat} {xs : List UInt8} (hl : xs.length = 64) (h : w.there b o 64) :
    (Instr.storeAt 128 (.pointer (some ⟨b, o, none⟩)) (ag xs)).run Tryz.prog w = .ok () (w.setCells b o (xs.map B8)) := by
  have := run_storeAt_mid (P := Tryz.prog) w b o 128 (xs.map B8).toArray (by simpa [hl] using h) (by rw [Tryz.size71]; simp [hl]) (oneCell_b8 xs)
  simpa [ag] using this

/-- A block of bytes, a part of which is written over. -/
theorem setCells_block {w : World} {b : Nat} {zs ys : List UInt8} {t : TypeId} (o : Nat) (hb : w.heap[b]? = some (.cells (zs.map B8).toArray t (0, 0))) (hfit : o + ys.length ≤ zs.length) :
    (w.setCells b o (ys.map B8)).heap[b]? = some (.cells ((splice zs o ys).map B8).toArray t (0, 0)) ∧ Keeps (· = b) w (w.setCells b o (ys.map B8)) := by
  induction ys generalizing w zs o with
  | nil => exact ⟨by simpa [World.setCells, splice] using hb, Keeps.refl _ _⟩
  | cons y r ih =>
    simp only [List.map_cons, World.setCells]
    have h1 : (w.setCell ⟨b, o, none⟩ (B8 y)).heap[b]? = some (.cells ((zs.set o y).map B8).toArray t (0, 0)) := by
      rw [heap_setCell_same w b o _ t _ hb]
      simp [List.map_set]
    simp only [List.length_cons] at hfit
    obtain ⟨h2, h3⟩ := ih (o + 1) h1 (by rw [List.length_set]; omega)
    refine ⟨?_, (Keeps.setCell (· = b) _ _ _ rfl).trans h3⟩
    rw [h2]
    have e : splice (zs.set o y) (o + 1) r = splice zs o (y :: r) := by
      unfold splice
      rw [List.take_set, List.drop_set_of_lt (by omega)]
      have : (zs.take (o + 1)).set o y = zs.take o ++ [y] := by
        rw [List.take_succ_eq_append_getElem (by omega), List.set_append_right _ _ (by simp; omega)]
        simp [show o - min o zs.length = 0 from by omega]
      rw [this]
      simp [Nat.add_assoc, Nat.add_comm 1]
    rw [e]
theorem range_block {w : World} {b : Nat} {zs : List UInt8} {t : TypeId} {fr : Nat × Nat} (hb : w.heap[b]? = some (.cells (zs.map B8).toArray t fr)) (o n : Nat) : w.rangeAt b o (((zs.drop o).take n).map B8) := by
  intro j v hv
  rw [cell_of_row w b (o + j) _ t _ hb]
  simp only [List.getElem?_map, Option.map_eq_some_iff, List.getElem?_take, List.getElem?_drop] at hv
  obtain ⟨u, hu, rfl⟩ := hv
  split at hu
  · simp [hu]
  · cases hu
theorem there_block {w : World} {b : Nat} {zs : List UInt8} {t : TypeId} (hb : w.heap[b]? = some (.cells (zs.map B8).toArray t (0, 0))) (o n : Nat) (h : o + n ≤ zs.length) : w.there b o n := by
  intro j hj
  refine ⟨?_, frozen_of_row w b _ _ t hb⟩
  rw [cell_of_row w b (o + j) _ t _ hb]
  simp
  omega
theorem sec_len {D : DSt} {n i : Nat} (h : D.Ok n) (hi : i < n) : (sec D.L i).length = 64 := by
  unfold sec
  rw [List.length_take, List.length_drop, h.len]
  omega

/-- A sector as last written. -/
def DSt.now (D : DSt) (i : Nat) : List UInt8 := (lastW D.Q i).getD (sec D.L i)
theorem now_len {D : DSt} {n i : Nat} (h : D.Ok n) (hi : i < n) : (D.now i).length = 64 := by
  unfold DSt.now
  cases hl : lastW D.Q i with
  | none => exact sec_len h hi
  | some b => exact (h.q _ (lastW_mem hl)).2
theorem splice_all (xs ys : List UInt8) (h : xs.length = ys.length) : splice xs 0 ys = ys := by
  unfold splice; simp [h]

/-- Two new sectors, the second of which is written over, and the first by it. -/
def nowA (w : World) : World := (w.alloc (.cells z64 128)).alloc (.cells z64 128)
def nowB (w : World) (xs : List UInt8) : World := (nowA w).setCells (w.heap.size + 1) 0 (xs.map B8)
def nowC (w : World) (xs ys : List UInt8) : World := (nowB w xs).setCells w.heap.size 0 (ys.map B8)
theorem nowA_size (w : World) : (nowA w).heap.size = w.heap.size + 2 := by simp [nowA]
theorem nowA_0 (w : World) : (nowA w).heap[w.heap.size]? = some (.cells (zs64.map B8).toArray 128 (0, 0)) := heap_alloc2_old w _ _
theorem nowA_1 (w : World) : (nowA w).heap[w.heap.size + 1]? = some (.cells (zs64.map B8).toArray 128 (0, 0)) := heap_alloc2_new w _ _
theorem nowA_keeps (w : World) : Keeps (fun _ => False) w (nowA w) := (Keeps.alloc _ _ _).trans (Keeps.alloc _ _ _)
theorem nowB_facts (w : World) (xs : List UInt8) (h : xs.length = 64) : (nowB w xs).heap[w.heap.size + 1]? = some (.cells (xs.map B8).toArray 128 (0, 0)) ∧ (nowB w xs).heap[w.heap.size]? = some (.cells (zs64.map B8).toArray 128 (0, 0)) ∧ Keeps (fun _ => False) w (nowB w xs) := by
  obtain ⟨h1, h2⟩ := setCells_block (ys := xs) 0 (nowA_1 w) (by rw [zs64_len]; omega)
  rw [splice_all _ _ (by rw [zs64_len, h])] at h1
  refine ⟨h1, (h2.block _ (by rw [nowA_size]; omega) (by omega)).trans (nowA_0 w), ?_⟩
  refine ⟨h2.os, h2.tape, h2.output, Nat.le_trans (nowA_keeps w).size h2.size, fun k hk _ => (h2.block k (by rw [nowA_size]; omega) (by omega)).trans ((nowA_keeps w).block k hk (fun h => h))⟩
theorem nowC_facts (w : World) (xs ys : List UInt8) (h : xs.length = 64) (h' : ys.length = 64) : (nowC w xs ys).heap[w.heap.size]? = some (.cells (ys.map B8).toArray 128 (0, 0)) ∧ Keeps (fun _ => False) w (nowC w xs ys) := by
  obtain ⟨_, g2, g3⟩ := nowB_facts w xs h
  obtain ⟨h1, h2⟩ := setCells_block (ys := ys) 0 g2 (by rw [zs64_len]; omega)
  rw [splice_all _ _ (by rw [zs64_len, h'])] at h1
  have hs : w.heap.size ≤ (nowB w xs).heap.size := g3.size
  exact ⟨h1, ⟨h2.os.trans g3.os, h2.tape.trans g3.tape, h2.output.trans g3.output, Nat.le_trans hs h2.size, fun k hk hF => (h2.block k (by omega) (by omega)).trans (g3.block k hk hF)⟩⟩

set_option maxRecDepth 100000 in
set_option maxHeartbeats 400000 in
theorem now_at {w : World} {p lb mb n : Nat} {iv : Value} {D : DSt} (h : DkAt w p lb mb n iv D) (i : Nat) (hi : i < n) :
    Calls Tryz.prog 197 #[.pointer (some ⟨p, 0, none⟩), .int .i64 (i : Int)] w fun e w' => e = .returned (ag (D.now i)) ∧ Keeps (fun _ => False) w w' := by
  have hn := h.ok.n_le
  have hlen := now_len h.ok hi
  have hsl := sec_len h.ok hi
  have hlt : p < w.heap.size := (Array.getElem?_eq_some_iff.1 h.head).1
  have hmb := h.map.lt
  have hlb : lb < w.heap.size := (Array.getElem?_eq_some_iff.1 h.rows).1
  obtain ⟨c0, c1, c2, c3, c4, c5, fz⟩ := h.c
  have look := (h.map.keep (w' := w.alloc (.cells z64 128)) (Below.heap_alloc _ _ _ hmb)).look i (by omega)
  clear fz c1 c3 c4 c5
  cases hl : lastW D.Q i with
  | some b =>
    have e : D.now i = b := by unfold DSt.now; rw [hl]; rfl
    rw [e] at hlen ⊢
    rw [hl] at look
    simp only [Option.getD_some, Option.isSome_some] at look
    have LK := Lib.hid look
    clear look e hl
    obtain ⟨g1, g2, g3⟩ := nowB_facts w b hlen
    obtain ⟨k1, k2⟩ := nowC_facts w b b hlen hlen
    have a1 := there_block (nowA_1 w) 0 64 (by rw [zs64_len]; omega)
    have a2 := there_block g2 0 64 (by rw [zs64_len]; omega)
    have r1 := range_block g1 0 64
    rw [List.drop_zero, List.take_of_length_le (by omega)] at r1
    have S1 := Lib.hid (store71 (xs := b) hlen a1)
    have S2 := Lib.hid (store71 (xs := b) hlen a2)
    have L1 := Lib.hid (load71 hlen r1)
    have K1 := Lib.hid k1
    clear a1 a2 r1 g1 g2 g3 k1 hsl
    go_enter Tryz.func197, Tryz.ntmps197
    go_wp2_with (first
      | ((with_reducible refine here (op := .alloc 128) (d := some 4) ?_); refine wpList_alloc_run rfl 128 rfl _ (alloc71 _) ?_)
      | ((with_reducible refine here (op := .lookup 109 (.tmp 11) (.tmp 12) true) ?_); refine wpList_lookup_run rfl 109 _ _ true rfl _ _ _ rfl rfl LK.out ?_)
      | ((with_reducible refine here (op := .alloc 128) (d := some 5) ?_); refine wpList_alloc_run rfl 128 rfl _ (alloc71_2 _ _) ?_)
      | ((with_reducible refine here (op := .store 128 (.tmp 5) (.tmp 14)) ?_); refine wpList_store_run rfl 128 _ _ rfl _ _ rfl rfl S1.out ?_)
      | ((with_reducible refine here (op := .load 128 (.tmp 5)) ?_); refine wpList_load_run rfl 128 _ rfl _ _ rfl L1.out ?_)
      | ((with_reducible refine here (op := .store 128 (.tmp 4) (.tmp 17)) ?_); refine wpList_store_run rfl 128 _ _ rfl _ _ rfl rfl S2.out ?_))
    refine bodyPost_ret (v := ag b) ?_ rfl ⟨rfl, k2⟩
    exact results_cell_row rfl _ _ w.heap.size 128 _ (0, 0) _ rfl K1.out Tryz.underlying128 rfl (by rw [Tryz.size71]; simp [hlen])
  | none =>
    have e : D.now i = sec D.L i := by unfold DSt.now; rw [hl]; rfl
    rw [e] at hlen ⊢
    rw [hl] at look
    simp only [Option.getD_none, Option.isSome_none] at look
    have LK := Lib.hid look
    obtain ⟨g1, g2, g3⟩ := nowB_facts w zs64 zs64_len
    obtain ⟨k1, k2⟩ := nowC_facts w zs64 (sec D.L i) zs64_len hlen
    have a1 := there_block (nowA_1 w) 0 64 (by rw [zs64_len]; omega)
    have a2 := there_block g2 0 64 (by rw [zs64_len]; omega)
    have r1 := range_block ((g3.block lb hlb (fun h => h)).trans h.rows) (i * 64) 64
    have S1 := Lib.hid (store71 (xs := zs64) zs64_len a1)
    have S2 := Lib.hid (store71 (xs := sec D.L i) hlen a2)
    have L1 := Lib.hid (load71 (xs := sec D.L i) hlen r1)
    have K1 := Lib.hid k1
    have c0' : (nowB w zs64).cell? ⟨p, 0, none⟩ = some (.slice (some ⟨lb, 0, none⟩) n n) := (g3.cell p 0 hlt (fun h => h)).trans c0
    clear a1 a2 r1 g1 g2 g3 k1 hl e look
    have HL := Lib.hid hlen
    clear hlen hsl
    go_enter Tryz.func197, Tryz.ntmps197
    go_wp2_with (first
      | ((with_reducible refine here (op := .alloc 128) (d := some 4) ?_); refine wpList_alloc_run rfl 128 rfl _ (alloc71 _) ?_)
      | ((with_reducible refine here (op := .lookup 109 (.tmp 11) (.tmp 12) true) ?_); refine wpList_lookup_run rfl 109 _ _ true rfl _ _ _ rfl rfl LK.out ?_)
      | ((with_reducible refine here (op := .alloc 128) (d := some 5) ?_); refine wpList_alloc_run rfl 128 rfl _ (alloc71_2 _ _) ?_)
      | ((with_reducible refine here (op := .store 128 (.tmp 5) (.tmp 14)) ?_); refine wpList_store_run rfl 128 _ _ rfl _ _ rfl rfl S1.out ?_; refine wpList_world (w' := nowB w zs64) rfl ?_)
      | ((with_reducible refine here (op := .load 128 (.tmp 23)) ?_); refine wpList_load_run rfl 128 _ rfl _ _ rfl L1.out ?_)
      | ((with_reducible refine here (op := .store 128 (.tmp 4) (.tmp 24)) ?_); refine wpList_store_run rfl 128 _ _ rfl _ _ rfl rfl S2.out ?_))
    refine bodyPost_ret (v := ag (sec D.L i)) ?_ rfl ⟨rfl, k2⟩
    exact results_cell_row rfl _ _ w.heap.size 128 _ (0, 0) _ rfl K1.out Tryz.underlying128 rfl (by rw [Tryz.size71]; simp [HL.out])

/-- A read hands back new bytes and an error. -/
def GivesRead (w : World) (zs : List UInt8) (err : Int) (e : Ending) (w' : World) : Prop :=
  ∃ R c, e = .returned (.tuple #[.slice R zs.length c, .int .i64 err]) ∧ BR w' w'.heap.size R zs ∧ (∀ ad, R = some ad → w.heap.size ≤ ad.block) ∧ Keeps (fun _ => False) w w'
def DSt.readErr (D : DSt) (i : Int) : Int := if D.down = true then 20 else if 0 ≤ i ∧ i < D.n then 0 else 1
def DSt.readAt (D : DSt) (i : Int) : List UInt8 := if D.down = true then [] else if 0 ≤ i ∧ i < D.n then D.now i.toNat else []

theorem newRow (w : World) (xs : List UInt8) (h : xs.length = 64) :
    ((w.alloc (.cells z64 128)).setCells w.heap.size 0 (xs.map B8)).heap[w.heap.size]? = some (.cells (xs.map B8).toArray 128 (0, 0)) ∧ Keeps (fun _ => False) w ((w.alloc (.cells z64 128)).setCells w.heap.size 0 (xs.map B8)) := by
  obtain ⟨h1, h2⟩ := setCells_block (w := w.alloc (.cells z64 128)) (ys := xs) 0 (heap_alloc_new w _) (by rw [zs64_len]; omega)
  rw [splice_all _ _ (by rw [zs64_len, h])] at h1
  refine ⟨h1, ⟨h2.os, h2.tape, h2.output, Nat.le_trans (by simp) h2.size, fun k hk _ => (h2.block k (by simp; omega) (by omega)).trans (Below.heap_alloc w _ k hk)⟩⟩
theorem br_block {w : World} {b : Nat} {zs : List UInt8} {t : TypeId} {fr : Nat × Nat} (hb : w.heap[b]? = some (.cells (zs.map B8).toArray t fr)) (o n : Nat) : BR w w.heap.size (some ⟨b, o, none⟩) ((zs.drop o).take n) := by
  intro _
  refine ⟨_, rfl, (Array.getElem?_eq_some_iff.1 hb).1, fun k u hu => ?_⟩
  rw [Addr.add_mid]
  exact range_block hb o n k _ (by rw [List.getElem?_map, hu]; rfl)

/-- With the bytes' room. -/
def GivesReadC (w : World) (zs : List UInt8) (err : Int) (e : Ending) (w' : World) : Prop :=
  ∃ R c, e = .returned (.tuple #[.slice R zs.length c, .int .i64 err]) ∧ BR w' w'.heap.size R zs ∧ (∀ ad, R = some ad → w.heap.size ≤ ad.block) ∧ Keeps (fun _ => False) w w' ∧ zs.length ≤ c
set_option maxRecDepth 100000 in
set_option maxHeartbeats 400000 in
theorem read_atC {w : World} {p lb mb n : Nat} {iv : Value} {D : DSt} (h : DkAt w p lb mb n iv D) (i : Int) :
    Calls Tryz.prog 167 #[.pointer (some ⟨p, 0, none⟩), .int .i64 i] w (GivesReadC w (D.readAt i) (D.readErr i)) := by
  have hnn := h.ok.n_eq
  cases hd : D.down with
  | true =>
    have e1 : D.readAt i = [] := by unfold DSt.readAt; rw [if_pos hd]
    have e2 : D.readErr i = 20 := by unfold DSt.readErr; rw [if_pos hd]
    rw [e1, e2]
    have HD := Lib.hid hd
    clear e1 e2 hd hnn
    go_enter Tryz.func167, Tryz.ntmps167
    go_wp2_with (go_at_call 112; refine (down_at h).mono ?_; rintro e w' ⟨rfl, rfl⟩; rw [HD.out])
    go_ret2
    exact ⟨none, 0, rfl, BR.nil, fun _ h => (by cases h), Keeps.refl _ _, by simp⟩
  | false =>
    by_cases hi : 0 ≤ i ∧ i < n
    · obtain ⟨k, rfl⟩ := Int.eq_ofNat_of_zero_le hi.1
      have hk : k < n := by omega
      have e1 : D.readAt (k : Int) = D.now k := by unfold DSt.readAt; rw [if_neg (by simp [hd]), hnn, if_pos hi]; rfl
      have e2 : D.readErr (k : Int) = 0 := by unfold DSt.readErr; rw [if_neg (by simp [hd]), hnn, if_pos hi]
      rw [e1, e2]
      have HD := Lib.hid hd
      have hlen := now_len h.ok hk
      have HL := Lib.hid hlen
      clear e1 e2 hd hnn hi hlen
      go_enter Tryz.func167, Tryz.ntmps167
      go_wp2_with fail
      refine (down_at h).mono ?_
      rintro e w' ⟨rfl, rfl⟩
      rw [HD.out]
      go_wp2_with fail
      refine (has_yes h _ (by omega) (by omega)).mono ?_
      rintro e w' ⟨rfl, rfl⟩
      go_wp2_with fail
      refine (now_at h k hk).mono ?_
      rintro e w1 ⟨rfl, k1⟩
      obtain ⟨g1, g2⟩ := newRow w1 (D.now k) HL.out
      have S1 := Lib.hid (store71 (w := w1.alloc (.cells z64 128)) (b := w1.heap.size) (o := 0) (xs := D.now k) HL.out (there_block (heap_alloc_new w1 _) 0 64 (by rw [zs64_len]; omega)))
      have G1 := Lib.hid g1
      clear g1
      generalize D.now k = xs at *
      go_wp2_with (first
        | ((with_reducible refine here (op := .alloc 128) (d := some 6) ?_); refine wpList_alloc_run rfl 128 rfl _ (alloc71 _) ?_)
        | ((with_reducible refine here (op := .store 128 (.tmp 6) (.tmp 15)) ?_); refine wpList_store_run rfl 128 _ _ rfl _ _ rfl rfl S1.out ?_))
      generalize (w1.alloc (.cells z64 128)).setCells w1.heap.size 0 (xs.map B8) = w2 at *
      go_ret2
      refine ⟨some ⟨w1.heap.size, 0, none⟩, 64, by rw [HL.out]; rfl, ?_, fun ad e => ?_, k1.trans g2, by rw [HL.out]; omega⟩
      · have := br_block G1.out 0 64
        rwa [List.drop_zero, List.take_of_length_le (by rw [HL.out]; omega)] at this
      · cases e; exact k1.size
    · have e1 : D.readAt i = [] := by unfold DSt.readAt; rw [if_neg (by simp [hd]), hnn, if_neg hi]
      have e2 : D.readErr i = 1 := by unfold DSt.readErr; rw [if_neg (by simp [hd]), hnn, if_neg hi]
      rw [e1, e2]
      have HD := Lib.hid hd
      have hi' : i < 0 ∨ n ≤ i := by omega
      have HI := Lib.hid hi'
      clear e1 e2 hd hnn hi hi'
      go_enter Tryz.func167, Tryz.ntmps167
      go_wp2_with fail
      refine (down_at h).mono ?_
      rintro e w' ⟨rfl, rfl⟩
      rw [HD.out]
      go_wp2_with fail
      refine (has_no h _ HI.out).mono ?_
      rintro e w' ⟨rfl, rfl⟩
      go_wp2_with fail
      go_ret2
      exact ⟨none, 0, rfl, BR.nil, fun _ h => (by cases h), Keeps.refl _ _, by simp⟩
theorem read_at {w : World} {p lb mb n : Nat} {iv : Value} {D : DSt} (h : DkAt w p lb mb n iv D) (i : Int) :
    Calls Tryz.prog 167 #[.pointer (some ⟨p, 0, none⟩), .int .i64 i] w (GivesRead w (D.readAt i) (D.readErr i)) := by
  refine (read_atC h i).mono ?_
  rintro e w' ⟨R, c, h1, h2, h3, h4, _⟩
  exact ⟨R, c, h1, h2, h3, h4⟩
end Go.Proofs.YtebecpjecchfoaaGreatDoor
namespace Go.Proofs.YtebecpjecchfoaaGreatDoor
open Go.RowKit Go.Maps

/-! ### more laws at an operation -/
theorem wpStill_load {P : Program} {w : World} {ops : Array Oper} {rest : List Oper} {o : Oper} {a : Act} {Q : Act → Prop} (hw : Region.wanted o (yielded ops a.tmps) = true) (t : TypeId) (x : Operand) (ho : o.op = .load t x) (p v : Value) (hp : a.eval x = p)
    (hrun : (Instr.loadAt t p).run P w = .ok v w) (h : wpStill P ops w Q rest (a.put o.dst v)) : wpStill P ops w Q (o :: rest) a := by
  unfold wpStill
  rw [if_pos hw]
  unfold Oper.still execOp
  simp only [ho, hp, Sem.run_bind, hrun, Result.andThen_ok, Sem.run_pure, Oper.stillUpon, true_and]
  exact h
/-! ### a value laid whole into new cells -/
theorem fold_set (l : List Value) : ∀ (k : Nat) (A : Array Value), k + l.length ≤ A.size →
    ((l.zipIdx k).foldl (fun (cs : Array Value) (x : Value × Nat) => cs.setIfInBounds (0 + x.2) x.1) A) = (A.toList.take k ++ l ++ A.toList.drop (k + l.length)).toArray := by
  induction l with
  | nil => intro k A _; simp
  | cons v r ih =>
    intro k A h
    simp only [List.length_cons] at h
    rw [List.zipIdx_cons, List.foldl_cons, ih (k + 1) _ (by simp; omega)]
    congr 1
    simp only [Nat.zero_add, Array.toList_setIfInBounds, List.length_cons]
    rw [List.take_set, List.drop_set_of_lt (by omega)]
    have : (A.toList.take (k + 1)).set k v = A.toList.take k ++ [v] := by
      rw [List.take_succ_eq_append_getElem (by simp; omega), List.set_append_right _ _ (by simp; omega)]
      simp [show k - min k A.size = 0 from by omega]
    rw [this]
    simp [Nat.add_assoc, Nat.add_comm 1]
theorem fill_one (place : Nat → Option (Nat × Nat)) (A cs : Array Value) (h : cs.size = A.size) (hp : place 0 = some (0, cs.size)) : Instr.fill place A [(0, .agg cs)] = some cs := by
  have hc : (Value.agg cs).cells = cs := rfl
  unfold Instr.fill
  simp only [hp]
  rw [if_neg (by rw [hc]; simp; omega), hc]
  unfold Instr.fill
  have := fold_set cs.toList 0 A (by simp; omega)
  simp only [List.take_zero, List.nil_append, Nat.zero_add, Array.length_toList] at this
  rw [← Array.foldl_toList, Array.toList_zipIdx]
  simp only [Nat.zero_add]
  rw [this, List.drop_of_length_le (by simp; omega)]
  simp

/-- A write as one value. -/
def agq (q : Nat × List UInt8) : Value := .agg (qcells q).toArray
theorem qcells_len {q : Nat × List UInt8} (h : q.2.length = 64) : (qcells q).length = 65 := by simp [qcells, h]
theorem oneCell_q (q : Nat × List UInt8) : ∀ v ∈ qcells q, v.oneCell' = true := by
  intro v hv
  simp only [qcells, List.mem_cons, List.mem_map] at hv
  rcases hv with rfl | ⟨u, _, rfl⟩ <;> rfl
theorem Tryz.size74 : (Tryz.prog.info? 168).map (·.size) = some 65 := by kernel_rfl
theorem Tryz.info74 : (Tryz.prog.info? 168).map (fun i => (i.zero, i.size, i.bytes)) = some (some (agq (0, zs64)), 65, 72) := by kernel_rfl
theorem zq_len : (qcells (0, zs64)).length = 65 := qcells_len zs64_len
def zq : Array Value := (qcells (0, zs64)).toArray
theorem alloc74 (w : World) : (Instr.alloc 168 true (.tuple #[])).run Tryz.prog w = .ok (.pointer (some ⟨w.heap.size, 0, none⟩)) (w.alloc (.cells zq 168)) := by kernel_rfl
theorem box74 (w : World) (q : Nat × List UInt8) : (Instr.box 168 (agq q)).run Tryz.prog w = .ok (.pointer (some ⟨w.heap.size, 0, none⟩)) (w.alloc (.cells (qcells q).toArray 168)) := rfl
theorem load74 {w : World} {b o : Nat} {q : Nat × List UInt8} (hl : q.2.length = 64) (h : w.rangeAt b o (qcells q)) :
    (Instr.loadAt 168 (.pointer (some ⟨b, o, none⟩))).run Tryz.prog w = .ok (agq q) w :=
  run_loadAt_mid w b o 168 (qcells q) _ h Tryz.underlying168 rfl (by rw [Tryz.size74, qcells_len hl])
theorem store74 {w : World} {b o : Nat} {q : Nat × List UInt8} (hl : q.2.length = 64) (h : w.there b o 65) :
    (Instr.storeAt 168 (.pointer (some ⟨b, o, none⟩)) (agq q)).run Tryz.prog w = .ok () (w.setCells b o (qcells q)) := by
  have := run_storeAt_mid (P := Tryz.prog) w b o 168 (qcells q).toArray (by simpa [qcells_len hl] using h) (by rw [Tryz.size74]; simp [qcells_len hl]) (all_oneCell_toArray (oneCell_q q))
  simpa [agq] using this
theorem bslice74 (w : World) {q : Nat × List UInt8} (hl : q.2.length = 64) :
    (Instr.buildSlice 110 1 #[(0, agq q)]).run Tryz.prog w = .ok (.slice (some ⟨w.heap.size, 0, none⟩) 1 1) (w.alloc (.cells (qcells q).toArray 168)) := by
  obtain ⟨i0, hi, hz0, hz1, hz2⟩ := info_parts Tryz.info74
  have hzv : ∀ w, (zeroValue 168).run Tryz.prog w = .ok (agq (0, zs64)) w := fun w => by kernel_rfl
  have hf := fill_one (fun i => some (i * 65, 65)) ((Array.range (1 * 65)).map fun x => ((agq (0, zs64)).cells)[x % ((agq (0, zs64)).cells).size]!) (qcells q).toArray (by simp [qcells_len hl]) (by simp [qcells_len hl])
  have hsz : ∀ w, (sizeOf 168).run Tryz.prog w = .ok 65 w := fun w => by kernel_rfl
  have hc : (Value.agg (qcells q).toArray).cells = (qcells q).toArray := rfl
  unfold Instr.buildSlice
  simp only [Sem.run_bind, run_underlying Tryz.underlying110, Result.andThen_ok, hsz]
  rw [if_neg (by decide)]
  rw [if_neg (by decide)]
  simp only [Sem.run_bind, hzv, Result.andThen_ok, Sem.run_pure]
  have e : (agq q) = .agg (qcells q).toArray := rfl
  rw [e, hf]
  rfl

/-! ### blocks of any cells -/
theorem setCells_blockV {w : World} {b : Nat} {zs ys : List Value} {t : TypeId} (o : Nat) (hb : w.heap[b]? = some (.cells zs.toArray t (0, 0))) (hfit : o + ys.length ≤ zs.length) :
    (w.setCells b o ys).heap[b]? = some (.cells (splice zs o ys).toArray t (0, 0)) ∧ Keeps (· = b) w (w.setCells b o ys) := by
  induction ys generalizing w zs o with
  | nil => exact ⟨by simpa [World.setCells, splice] using hb, Keeps.refl _ _⟩
  | cons y r ih =>
    simp only [World.setCells]
    have h1 : (w.setCell ⟨b, o, none⟩ y).heap[b]? = some (.cells (zs.set o y).toArray t (0, 0)) := by
      rw [heap_setCell_same w b o _ t _ hb]
      simp
    simp only [List.length_cons] at hfit
    obtain ⟨h2, h3⟩ := ih (o + 1) h1 (by rw [List.length_set]; omega)
    refine ⟨?_, (Keeps.setCell (· = b) _ _ _ rfl).trans h3⟩
    rw [h2]
    have e : splice (zs.set o y) (o + 1) r = splice zs o (y :: r) := by
      unfold splice
      rw [List.take_set, List.drop_set_of_lt (by omega)]
      have : (zs.take (o + 1)).set o y = zs.take o ++ [y] := by
        rw [List.take_succ_eq_append_getElem (by omega), List.set_append_right _ _ (by simp; omega)]
        simp [show o - min o zs.length = 0 from by omega]
      rw [this]
      simp [Nat.add_assoc, Nat.add_comm 1]
    rw [e]
theorem there_blockV {w : World} {b : Nat} {zs : List Value} {t : TypeId} (hb : w.heap[b]? = some (.cells zs.toArray t (0, 0))) (o n : Nat) (h : o + n ≤ zs.length) : w.there b o n := by
  intro j hj
  refine ⟨?_, frozen_of_row w b _ _ t hb⟩
  rw [cell_of_row w b (o + j) _ t _ hb]
  simp
  omega
theorem range_blockV {w : World} {b : Nat} {zs : List Value} {t : TypeId} {fr : Nat × Nat} (hb : w.heap[b]? = some (.cells zs.toArray t fr)) : w.rangeAt b 0 zs := by
  intro j v hv
  rw [cell_of_row w b (0 + j) _ t _ hb]
  simpa using hv
theorem splice_allV (xs ys : List Value) (h : xs.length = ys.length) : splice xs 0 ys = ys := by
  unfold splice; simp [h]

/-! ### the queue's cells -/
theorem flat_at : ∀ (Q : List (Nat × List UInt8)), (∀ q ∈ Q, q.2.length = 64) → ∀ (i : Nat) (h : i < Q.length) (j : Nat) (v : Value), (qcells Q[i])[j]? = some v → (Q.flatMap qcells)[i * 65 + j]? = some v
  | [], _, i, h, _, _, _ => absurd h (by simp)
  | q :: r, hq, 0, _, j, v, hv => by
    have hj : j < (qcells q).length := (List.getElem?_eq_some_iff.1 hv).1
    rw [List.flatMap_cons, List.getElem?_append_left (by omega)]
    simpa using hv
  | q :: r, hq, i + 1, h, j, v, hv => by
    have h0 : (qcells q).length = 65 := qcells_len (hq q (by simp))
    have := flat_at r (fun x hx => hq x (by simp [hx])) i (by simpa using h) j v (by simpa using hv)
    rw [List.flatMap_cons, List.getElem?_append_right (by omega), h0]
    rw [show (i + 1) * 65 + j - 65 = i * 65 + j from by omega]
    exact this
/-- Where the queue's i-th write lies. -/
theorem que_range {w : World} {iv : Value} {Q : List (Nat × List UInt8)} (h : w.ownsRow 0 168 65 iv Q.length (Q.flatMap qcells)) (hq : ∀ q ∈ Q, q.2.length = 64) (i : Nat) (hi : i < Q.length) :
    ∃ g cap, iv = .slice (some ⟨g, 0, none⟩) Q.length cap ∧ g < w.heap.size ∧ w.rangeAt g (i * 65) (qcells Q[i]) := by
  obtain ⟨g, cap, hv, _, hlt⟩ := World.ownsRow.form h (by omega)
  refine ⟨g, cap, hv, hlt, fun j v hj => ?_⟩
  have := World.ownsRow.cells h (g := g) (by rw [hv]; rfl) (i * 65 + j) v (flat_at Q hq i hi j v hj)
  rwa [Addr.add_mid, Nat.zero_add] at this

set_option maxRecDepth 100000 in
set_option maxHeartbeats 400000 in
theorem item_at {w : World} {p lb mb n : Nat} {iv : Value} {D : DSt} (h : DkAt w p lb mb n iv D) (i : Nat) (hi : i < D.Q.length) :
    Calls Tryz.prog 120 #[.pointer (some ⟨p, 1, none⟩), .int .i64 (i : Int)] w fun e w' => e = .returned (agq D.Q[i]) ∧ Keeps (fun _ => False) w w' := by
  have hlt : p < w.heap.size := (Array.getElem?_eq_some_iff.1 h.head).1
  obtain ⟨c0, c1, c2, c3, c4, c5, fz⟩ := h.c
  obtain ⟨g, cap, rfl, hg, hr⟩ := que_range h.que (fun q hq => (h.ok.q q hq).2) i hi
  have hl : D.Q[i].2.length = 64 := (h.ok.q _ (List.getElem_mem hi)).2
  have k0 : Keeps (fun _ => False) w (w.alloc (.cells zq 168)) := Keeps.alloc _ _ _
  have r1 : (w.alloc (.cells zq 168)).rangeAt g (i * 65) (qcells D.Q[i]) := fun j v hv => (k0.cell g _ hg (fun h => h)).trans (hr j v hv)
  have e1 := heap_alloc_last w (.cells zq 168)
  have S1 := Lib.hid (store74 (w := w.alloc (.cells zq 168)) (b := w.heap.size) (o := 0) hl (there_blockV e1 0 65 (by rw [zq_len]; omega)))
  have L1 := Lib.hid (load74 hl r1)
  obtain ⟨b1, b2⟩ := setCells_blockV (ys := qcells D.Q[i]) 0 e1 (by rw [zq_len, qcells_len hl]; omega)
  rw [splice_allV _ _ (by rw [zq_len, qcells_len hl])] at b1
  have K1 := Lib.hid b1
  have K2 : Keeps (fun _ => False) w ((w.alloc (.cells zq 168)).setCells w.heap.size 0 (qcells D.Q[i])) :=
    ⟨b2.os, b2.tape, b2.output, Nat.le_trans k0.size b2.size, fun k hk hF => (b2.block k (by simp; omega) (by omega)).trans (k0.block k hk hF)⟩
  have HL := Lib.hid hl
  clear fz c0 c2 c3 c4 c5 b1 b2 r1 hr e1 k0 hl
  have hc1 : (w.alloc (.cells zq 168)).cell? ⟨p, 1, none⟩ = some (.slice (some ⟨g, 0, none⟩) D.Q.length cap) := (World.cell?_alloc_past _ _ _ hlt).trans c1
  clear h c1
  generalize D.Q[i] = q at *
  generalize D.Q.length = len at *
  go_enter Tryz.func120, Tryz.ntmps120
  go_wp2_with (first
    | ((with_reducible refine here (op := .alloc 168) (d := some 4) ?_); refine wpList_alloc_run rfl 168 rfl _ (alloc74 _) ?_)
    | ((with_reducible refine here (op := .load 168 (.tmp 10)) ?_); refine wpList_load_run rfl 168 _ rfl _ _ rfl L1.out ?_)
    | ((with_reducible refine here (op := .store 168 (.tmp 4) (.tmp 11)) ?_); refine wpList_store_run rfl 168 _ _ rfl _ _ rfl rfl S1.out ?_))
  refine bodyPost_ret (v := agq q) ?_ rfl ⟨rfl, K2⟩
  exact results_cell_row rfl _ _ w.heap.size 168 _ (0, 0) _ rfl K1.out Tryz.underlying168 rfl (by rw [Tryz.size74]; simp [qcells_len HL.out])

set_option maxRecDepth 100000 in
set_option maxHeartbeats 400000 in
theorem empty_at {w : World} {p lb mb n : Nat} {iv : Value} {D : DSt} (h : DkAt w p lb mb n iv D) :
    Calls Tryz.prog 123 #[.pointer (some ⟨p, 1, none⟩)] w fun e w' => e = .returned (.tuple #[]) ∧ w' = w.setCell ⟨p, 1, none⟩ (.slice none 0 0) := by
  obtain ⟨c0, c1, c2, c3, c4, c5, fz⟩ := h.c
  have fz1 := fz 1
  clear fz c0 c2 c3 c4 c5 h
  go_enter Tryz.func123, Tryz.ntmps123
  go_wp2
  go_end0
  exact ⟨rfl, rfl⟩

/-- What add leaves. -/
def Added (w : World) (p : Nat) (iv : Value) (Q : List (Nat × List UInt8)) (q : Nat × List UInt8) (e : Ending) (w' : World) : Prop :=
  e = .returned (.tuple #[]) ∧ ∃ w1 iv', w'.heap = (w1.setCell ⟨p, 1, none⟩ iv').heap ∧ w1.ownsRow 0 168 65 iv' (Q.length + 1) ((Q ++ [q]).flatMap qcells) ∧ Keeps (fun k => Value.ownBlock iv = some k) w w1 ∧
    (∀ g, Value.ownBlock iv' = some g → Value.ownBlock iv = some g ∨ w.heap.size ≤ g) ∧ Keeps (fun k => k = p ∨ Value.ownBlock iv = some k) w w'

theorem load53 {w : World} {b o : Nat} {v : Value} (h : w.cell? ⟨b, o, none⟩ = some v) : (Instr.loadAt 110 (.pointer (some ⟨b, o, none⟩))).run Tryz.prog w = .ok v w := by
  have hagg : (isAgg 110).run Tryz.prog w = .ok false w := by unfold isAgg; rw [Sem.run_bind, run_underlying Tryz.underlying110 w]; rfl
  simp [Instr.loadAt, Instr.sureAddr, loadVar, hagg, h]
set_option maxRecDepth 100000 in
set_option maxHeartbeats 1000000 in
theorem qadd_at {w : World} {p lb mb n : Nat} {iv : Value} {D : DSt} (h : DkAt w p lb mb n iv D) (q : Nat × List UInt8) (hq : q.2.length = 64) (hQ : D.Q.length ≤ 1954687338211) :
    Calls Tryz.prog 164 #[.pointer (some ⟨p, 1, none⟩), agq q] w (Added w p iv D.Q q) := by
  have hlt : p < w.heap.size := (Array.getElem?_eq_some_iff.1 h.head).1
  have ap := h.apart
  obtain ⟨c0, c1, c2, c3, c4, c5, fz⟩ := h.c
  have fz1 := fz 1
  have k0 : Keeps (fun _ => False) w (w.alloc (.cells (qcells q).toArray 168)).drew := (Keeps.alloc _ _ _).trans (Keeps.drew _ _)
  have hsz : (w.alloc (.cells (qcells q).toArray 168)).drew.heap.size = w.heap.size + 1 := by show (w.alloc _).heap.size = _; simp
  have r1 : (w.alloc (.cells (qcells q).toArray 168)).drew.rangeAt w.heap.size 0 (qcells q) := range_blockV (heap_alloc_last w (.cells (qcells q).toArray 168))
  have L1 := Lib.hid (load74 hq r1)
  have c1' : (w.alloc (.cells (qcells q).toArray 168)).drew.cell? ⟨p, 1, none⟩ = some iv := (k0.cell p 1 hlt (fun h => h)).trans c1
  have fz1' : (w.alloc (.cells (qcells q).toArray 168)).drew.frozen? ⟨p, 1, none⟩ = false := (k0.fz p 1 hlt (fun h => h)).trans fz1
  have own' : (w.alloc (.cells (qcells q).toArray 168)).drew.ownsRow 0 168 65 iv D.Q.length (D.Q.flatMap qcells) := (h.que.alloc _)
  have OW := Lib.hid own'
  have HQ := Lib.hid hq
  have AP := Lib.hid ap
  have ub : ∀ g, Value.ownBlock iv = some g → g < w.heap.size := fun g hg => (h.que.lt g hg).2
  have UB := Lib.hid ub
  clear h c0 c1 c2 c3 c4 c5 fz fz1 own' hq ap r1 ub
  have K0 := Lib.hid k0
  have HS := Lib.hid hsz
  clear k0 hsz
  go_enter Tryz.func164, Tryz.ntmps164
  go_wp2_with (((with_reducible refine here (op := .box 168 (.tmp 1)) ?_); refine wpList_box_run rfl 168 _ rfl _ _ rfl (box74 _ _) ?_))
  refine wp_region_any (by kernel_rfl) ?_
  change wpAny _ _ _ _ _ _ _ (World.drew (w.alloc (.cells (qcells q).toArray 168)))
  generalize (w.alloc (.cells (qcells q).toArray 168)).drew = w0 at *
  have hl0 : (Instr.loadAt 110 (.pointer (some ⟨p, 1, none⟩))).run Tryz.prog w0 = .ok iv w0 := load53 c1'
  have hl1 : (Instr.loadAt 110 (.pointer (some ⟨p, 1, none⟩))).run Tryz.prog (w0.alloc (.cells (qcells q).toArray 168)) = .ok iv (w0.alloc (.cells (qcells q).toArray 168)) :=
    load53 ((World.cell?_alloc_past _ _ _ (by rw [HS.out]; omega)).trans c1')
  refine wpAny_take (oi := ⟨_, _, _, _, _, _⟩) (i := 0) (v := .pointer (some ⟨p, 1, none⟩)) rfl (by kernel_rfl) (by kernel_rfl) (by kernel_rfl) (fun _ _ _ h => h) (Or.inl ⟨by rfl, fun _ => rfl⟩) ?_
  refine wpAny_take (oi := ⟨_, _, _, _, _, _⟩) (i := 1) (v := .pointer (some ⟨p, 1, none⟩)) rfl (by kernel_rfl) (by kernel_rfl) (by kernel_rfl) (fun _ _ _ h => h) (Or.inl ⟨by rfl, fun _ => rfl⟩) ?_
  refine wpAny_take (oi := ⟨_, _, _, _, _, _⟩) (i := 2) (v := .pointer (some ⟨p, 1, none⟩)) rfl (by kernel_rfl) (by kernel_rfl) (by kernel_rfl) (fun _ _ _ h => h) (Or.inl ⟨by rfl, fun _ => rfl⟩) ?_
  refine wpAny_take (oi := ⟨_, _, _, _, _, _⟩) (i := 3) (v := .pointer (some ⟨p, 1, none⟩)) rfl (by kernel_rfl) (by kernel_rfl) (by kernel_rfl) (fun _ _ _ h => h) (Or.inl ⟨by rfl, fun w => by go_simp⟩) ?_
  simp only [Act.put, List.setIfInBounds_toArray, List.set_cons_zero, List.set_cons_succ]
  refine Late.any (oi := ⟨_, _, _, _, _, _⟩) (i := 4) (v := iv) rfl ?_
  refine Late.step 5 ⟨_, _, _, _, _, _⟩ (agq q) rfl (by kernel_rfl) (yields_load rfl 110 (.tmp 7) rfl _ _ rfl hl0) rfl (ex_load 168 (.tmp 3) rfl _ _ rfl L1.out) ?_
  simp only [Act.put, List.setIfInBounds_toArray, List.set_cons_zero, List.set_cons_succ]
  refine Late.step 6 ⟨_, _, _, _, _, _⟩ _ rfl (by kernel_rfl) (yields_load rfl 110 (.tmp 7) rfl _ _ rfl hl0) rfl (ex_buildSlice 110 (.tmp 9) rfl _ _ rfl (bslice74 w0 HQ.out)) ?_
  simp only [Act.put, List.setIfInBounds_toArray, List.set_cons_zero, List.set_cons_succ]
  refine Late.done (by kernel_rfl) (yields_load rfl 110 (.tmp 7) rfl _ _ rfl hl1) ?_
  refine wpAny_of_chain [7, 8, 9, 10] [_, _, _, _] _ _ _ rfl (by kernel_rfl) ?_
  clear hl0 hl1
  simp only [Act.put, List.setIfInBounds_toArray, List.set_cons_zero, List.set_cons_succ]
  obtain ⟨i0, hi, hz0, hz1, hz2⟩ := info_parts Tryz.info74
  have own2 := (OW.out).alloc (.cells (qcells q).toArray 168)
  have rg := range_blockV (heap_alloc_last w0 (.cells (qcells q).toArray 168))
  obtain ⟨iv', w2, hrun, hown, hg, _, hblk⟩ := run_append_own_at (P := Tryz.prog) (w0.alloc (.cells (qcells q).toArray 168)) 0 110 110 168 i0 _ 65 72 Tryz.underlying110 hi hz0 hz1 hz2 zq_len (by decide) iv D.Q.length _ own2 ⟨w0.heap.size, 0, none⟩ 1 1 (qcells q)
    (by rw [qcells_len HQ.out]) (fun j u hu => by rw [Addr.add_mid]; exact rg j u hu) (oneCell_q q) (by unfold maxLen; omega) (by omega) (by omega)
  have k2 : Keeps (fun k => Value.ownBlock iv = some k) w0 w2 := (Keeps.alloc _ _ _).trans (Keeps.grown _ hg fun _ e => e)
  refine wpList_append_run rfl _ _ _ rfl iv' hrun ?_
  have c2 : w2.cell? ⟨p, 1, none⟩ = some iv := (k2.cell p 1 (by rw [HS.out]; omega) (fun e => (AP.out.2.2.2 p e).1 rfl)).trans c1'
  have f2 : w2.frozen? ⟨p, 1, none⟩ = false := (k2.fz p 1 (by rw [HS.out]; omega) (fun e => (AP.out.2.2.2 p e).1 rfl)).trans fz1'
  have hv : ∃ A cap, iv' = .slice A (D.Q.length + 1) cap := by
    rcases hown.2 with ⟨_, hn⟩ | ⟨_, cap, _, e, _⟩
    · omega
    · exact ⟨_, cap, e⟩
  obtain ⟨A', cap', rfl⟩ := hv
  have OWN := Lib.hid hown
  have BLK := Lib.hid hblk
  clear hrun rg own2 c1' fz1' hown hblk hi hz0 hz1 hz2 hg
  go_wp2
  go_end0
  have hk : Keeps (fun k => Value.ownBlock iv = some k) w w2 := ⟨k2.os.trans K0.out.os, k2.tape.trans K0.out.tape, k2.output.trans K0.out.output, Nat.le_trans K0.out.size k2.size, fun k hk hF => (k2.block k (by rw [HS.out]; omega) hF).trans (K0.out.block k hk (fun h => h))⟩
  have hown := OWN.out
  have hblk := BLK.out
  refine ⟨rfl, w2, _, rfl, ?_, hk, fun g e => ?_, (hk.mono fun k _ e => Or.inr e).trans (Keeps.setCell (fun k => k = p ∨ Value.ownBlock iv = some k) _ _ _ (Or.inl rfl))⟩
  · rw [List.flatMap_append]
    simpa using hown
  · rcases hblk with e1 | e1
    · rw [e1] at e; exact Or.inl e
    · rw [e1] at e
      cases e
      right
      show w.heap.size ≤ (w0.alloc _).heap.size
      rw [World.size_alloc, HS.out]
      omega
end Go.Proofs.YtebecpjecchfoaaGreatDoor
namespace Go.Proofs.YtebecpjecchfoaaGreatDoor
open Go.RowKit Go.Maps

theorem wpList_build_run {P : Program} {w w' : World} {ops : Array Oper} {rest : List Oper} {o : Oper} {a : Act} {Q : Exit → Act → World → Prop} (hgd : o.guard = none) (t : TypeId) (x : Operand) (ho : o.op = .build t #[(0, x)]) (y v : Value) (hy : a.eval x = y)
    (hrun : (Instr.build t #[(0, y)]).run P w = .ok v w') (h : wpList P ops Q rest (a.put o.dst v) w') : wpList P ops Q (o :: rest) a w :=
  wpList_plain hgd fun _ hK => by
    unfold Oper.wp execOp
    simp only [ho, Sem.run_bind, List.map_toArray, List.map_cons, List.map_nil, hy, hrun, Result.andThen_ok, Sem.run_pure]
    exact hK _ _ h
theorem wpList_mapUpdate_run {P : Program} {w w' : World} {ops : Array Oper} {rest : List Oper} {o : Oper} {a : Act} {Q : Exit → Act → World → Prop} (hgd : o.guard = none) (t : TypeId) (x y z : Operand) (ho : o.op = .mapUpdate t x y z) (m k v : Value) (hm : a.eval x = m) (hk : a.eval y = k) (hv : a.eval z = v)
    (hrun : (Instr.mapUpdate t m k v).run P w = .ok () w') (h : wpList P ops Q rest (a.put o.dst undef) w') : wpList P ops Q (o :: rest) a w :=
  wpList_plain hgd fun _ hK => by
    unfold Oper.wp execOp
    simp only [ho, hm, hk, hv, Sem.run_bind, hrun, Result.andThen_ok, Sem.run_pure]
    exact hK _ _ h
theorem build74 (w : World) (k : Nat) : (Instr.build 168 #[(0, .int .i64 (k : Int))]).run Tryz.prog w = .ok (agq (k, zs64)) w := by kernel_rfl

/-- F and what is new. -/
def Gr (F : Nat → Prop) (w : World) : Nat → Prop := fun k => F k ∨ w.heap.size ≤ k

def DSt.fits (D : DSt) (i : Int) (b : List UInt8) : Prop := 0 ≤ i ∧ i < D.n ∧ b.length = 64
instance (D : DSt) (i : Int) (b : List UInt8) : Decidable (D.fits i b) := by unfold DSt.fits; infer_instance
def DSt.writeErr (D : DSt) (i : Int) (b : List UInt8) : Int := if D.down = true then 20 else if D.fits i b then D.actErr else 1
def DSt.write (D : DSt) (i : Int) (b : List UInt8) : DSt := if D.down = true then D else if D.fits i b then (if D.left = 0 then D.spent else { D.spent with Q := D.Q ++ [(i.toNat, b)] }) else D
def Wrote (w : World) (F : Nat → Prop) (p : Nat) (D : DSt) (err : Int) (e : Ending) (w' : World) : Prop := e = .returned (.int .i64 err) ∧ Dk w' (Gr F w) p D ∧ Keeps F w w'

theorem DkAt.same {w w' : World} {p lb mb n : Nat} {iv : Value} {D : DSt} (h : DkAt w p lb mb n iv D) (k : Keeps (fun _ => False) w w') : DkAt w' p lb mb n iv D := by
  obtain ⟨es, clock, hm⟩ := h.map.obj
  have lt : ∀ {b : Nat} {o : Obj}, w.heap[b]? = some o → w'.heap[b]? = w.heap[b]? := fun e => k.block _ (Array.getElem?_eq_some_iff.1 e).1 (fun h => h)
  exact h.keep (lt h.head) (lt h.rows) (lt hm) (fun g hg => k.block g (h.que.lt g hg).2 (fun h => h))
theorem DSt.spent_Q (D : DSt) : D.spent.Q = D.Q := by unfold DSt.spent; split <;> rfl
theorem DSt.spent_L (D : DSt) : D.spent.L = D.L := by unfold DSt.spent; split <;> rfl
theorem Keeps.ofFalse {F : Nat → Prop} {w w' : World} (h : Keeps (fun _ => False) w w') : Keeps F w w' := h.mono fun _ _ hf => hf.elim

/-- The write's variable, filled in. -/
theorem write_var (w : World) (k : Nat) (xs : List UInt8) :
    ∃ W2, W2 = (w.alloc (.cells zq 168)).setCells w.heap.size 0 (qcells (k, zs64)) ∧ W2.heap[w.heap.size]? = some (.cells (qcells (k, zs64)).toArray 168 (0, 0)) ∧ Keeps (fun _ => False) w W2 ∧
      (W2.setRow w.heap.size (qcells (k, xs)).toArray).heap[w.heap.size]? = some (.cells (qcells (k, xs)).toArray 168 (0, 0)) ∧ Keeps (fun _ => False) w (W2.setRow w.heap.size (qcells (k, xs)).toArray) := by
  have e1 := heap_alloc_last w (.cells zq 168)
  obtain ⟨b1, b2⟩ := setCells_blockV (ys := qcells (k, zs64)) 0 e1 (by rw [zq_len, qcells_len zs64_len]; omega)
  rw [splice_allV _ _ (by rw [zq_len, qcells_len zs64_len])] at b1
  have k0 : Keeps (fun _ => False) w (w.alloc (.cells zq 168)) := Keeps.alloc _ _ _
  have kk : Keeps (fun _ => False) w ((w.alloc (.cells zq 168)).setCells w.heap.size 0 (qcells (k, zs64))) :=
    ⟨b2.os, b2.tape, b2.output, Nat.le_trans k0.size b2.size, fun j hj hF => (b2.block j (by simp; omega) (by omega)).trans (k0.block j hj hF)⟩
  refine ⟨_, rfl, b1, kk, ?_⟩
  clear b2 e1 k0
  generalize (w.alloc (.cells zq 168)).setCells w.heap.size 0 (qcells (k, zs64)) = W2 at *
  have kr : Keeps (fun _ => False) w (W2.setRow w.heap.size (qcells (k, xs)).toArray) :=
    ⟨kk.os, kk.tape, kk.output, by rw [size_setRow]; exact kk.size, fun j hj hF => (setRow_other W2 w.heap.size j _ (by omega)).trans (kk.block j hj hF)⟩
  exact ⟨setRow_heap W2 w.heap.size _ _ _ _ b1, kr⟩

set_option maxRecDepth 100000 in
set_option maxHeartbeats 1000000 in
theorem write_ok {w : World} {F : Nat → Prop} {p : Nat} {D : DSt} (h0 : Dk w F p D) (k : Nat) (hk : k < D.n) (A : Option Addr) (xs : List UInt8) (c : Nat) (hx : BR w w.heap.size A xs) (hA : ∀ ad, A = some ad → ¬ F ad.block) (hl : xs.length = 64)
    (hd : D.down = false) (hleft : D.left ≠ 0) (hQ : D.Q.length < 1954687338212) (ha : D.acts ≤ 1000000000000000) :
    Calls Tryz.prog 116 #[.pointer (some ⟨p, 0, none⟩), .int .i64 (k : Int), .slice A xs.length c] w (Wrote w F p { D.spent with Q := D.Q ++ [(k, xs)] } 0) := by
  obtain ⟨lb, mb, n, iv, h, fp, fl, fm, fi⟩ := h0
  have hnn := h.ok.n_eq
  rw [hnn] at hk
  have hn := h.ok.n_le
  obtain ⟨ad, rfl, had, hcs⟩ := hx (by intro e; rw [e] at hl; simp at hl)
  have hnF : ¬ F ad.block := hA ad rfl
  have he : D.actErr = 0 := by unfold DSt.actErr; rw [if_neg hleft]
  have HE := Lib.hid he
  have HD := Lib.hid hd
  have HL := Lib.hid hl
  clear hnn hA hx he hd hleft
  rw [hl]
  clear hl
  generalize hD2 : ({ D.spent with Q := D.Q ++ [(k, xs)] } : DSt) = D2
  have HD2 := Lib.hid hD2
  clear hD2
  go_enter Tryz.func116, Tryz.ntmps116
  go_wp2_with fail
  refine (down_at h).mono ?_
  rintro e w' ⟨rfl, rfl⟩
  rw [HD.out]
  go_wp2_with fail
  refine (has_yes h _ (by omega) (by omega)).mono ?_
  rintro e w' ⟨rfl, rfl⟩
  go_wp2_with fail
  refine (act_at h ha).mono ?_
  rintro e w1 ⟨rfl, h1, k1⟩
  rw [HE.out]
  obtain ⟨W2, eW, v1, v2, v3, v4⟩ := write_var w1 k xs
  have ST := Lib.hid (store74 (w := w1.alloc (.cells zq 168)) (b := w1.heap.size) (o := 0) (q := (k, zs64)) zs64_len (there_blockV (heap_alloc_last w1 (.cells zq 168)) 0 65 (by rw [zq_len]; omega)))
  have CP : ∀ ty, (Builtin.copy_ #[34, 34] ty #[.slice (some ⟨w1.heap.size, 1, none⟩) 64 64, .slice (some ad) 64 c]).run Tryz.prog W2 = .ok (.int .i64 64) (W2.setRow w1.heap.size (qcells (k, xs)).toArray) := fun ty => by
    have hrun := run_copy_row (P := Tryz.prog) W2 34 34 ty 5 w1.heap.size 1 64 64 ad 64 c (qcells (k, zs64)).toArray 168 (xs.map B8) Tryz.underlying34 (by kernel_rfl) v1 (by rw [List.length_map, HL.out]; rfl) (fun j v hj => by
      simp only [List.getElem?_map, Option.map_eq_some_iff] at hj
      obtain ⟨u, hu, rfl⟩ := hj
      have e1 : W2.cell? (ad.add j) = w1.cell? (ad.add j) := World.cell?_of_block (w := w1) (by rw [block_add]; exact v2.block _ (Nat.lt_of_lt_of_le had k1.size) (fun h => h))
      have e2 : w1.cell? (ad.add j) = w.cell? (ad.add j) := World.cell?_of_block (w := w) (by rw [block_add]; exact k1.block _ had (fun e => hnF (e ▸ fp)))
      rw [e1, e2]
      exact hcs j u hu) (by rw [List.length_map, HL.out]; simp [qcells, zs64]) (fun v hv => by
      simp only [List.mem_map] at hv
      obtain ⟨u, _, rfl⟩ := hv
      rfl)
    rw [hrun, List.length_map, HL.out]
    simp [qcells, zs64, goInt]
  have CPH := Lib.hid CP
  have EW := Lib.hid eW
  have V1 := Lib.hid v1
  have V3 := Lib.hid v3
  clear CP eW v1 v3
  go_wp2_with (first
    | ((with_reducible refine here (op := .build 168 #[(0, .tmp 25)]) ?_); refine wpList_build_run rfl 168 _ rfl _ _ rfl (build74 _ _) ?_)
    | ((with_reducible refine here (op := .alloc 168) (d := some 8) ?_); refine wpList_alloc_run rfl 168 rfl _ (alloc74 _) ?_)
    | ((with_reducible refine here (op := .store 168 (.tmp 8) (.tmp 26)) ?_); refine wpList_store_run rfl 168 _ _ rfl _ _ rfl rfl ST.out ?_; refine wpList_world EW.out ?_))
  rw [CPH.out]
  clear CPH ST EW V1 v2
  generalize W2.setRow w1.heap.size (qcells (k, xs)).toArray = W3 at *
  go_wp2_with fail
  -- the write's variable is read, and added
  have h3 : DkAt W3.drew p lb mb n iv D.spent := h1.same (v4.trans (Keeps.drew _ _))
  have r3 : W3.drew.rangeAt w1.heap.size 0 (qcells (k, xs)) := range_blockV V3.out
  have L3 := Lib.hid (load74 (q := (k, xs)) HL.out r3)
  have sQ : D.spent.Q = D.Q := D.spent_Q
  have SQ := Lib.hid sQ
  have V3' : Hid (W3.drew.heap[w1.heap.size]? = some (.cells (qcells (k, xs)).toArray 168 (0, 0))) := V3.out
  have hs3 : w1.heap.size < W3.drew.heap.size := (Array.getElem?_eq_some_iff.1 V3'.out).1
  have k3 : Keeps (fun _ => False) w1 W3.drew := v4.trans (Keeps.drew _ _)
  clear r3 sQ v4 V3 h1
  refine wp_region_still_tail 4 (by kernel_rfl) (by kernel_rfl) ?_
  simp only [List.take_succ_cons, List.take_zero, List.drop_succ_cons, List.drop_zero]
  change wpStill _ _ W3.drew (fun a' => wpList _ _ _ _ a' W3.drew) _ _
  generalize W3.drew = W4 at *
  still_step
  still_step
  still_step
  refine wpStill_load rfl 168 (.tmp 8) rfl _ _ rfl L3.out ?_
  refine wpStill_nil ?_
  clear L3
  simp only [Act.put, List.setIfInBounds_toArray, List.set_cons_zero, List.set_cons_succ]
  go_wp2_with fail
  refine (qadd_at h3 (k, xs) HL.out (by rw [SQ.out]; omega)).mono ?_
  rintro e w5 ⟨rfl, w4, iv', hh, hown, kw4, hnew, kw5⟩
  rw [SQ.out] at hown
  have hltw : p < w.heap.size := (Array.getElem?_eq_some_iff.1 h.head).1
  have hmbw := h.map.lt
  have hlbw : lb < w.heap.size := (Array.getElem?_eq_some_iff.1 h.rows).1
  have s1 := k1.size
  have s3 := k3.size
  have hiw : ∀ g, Value.ownBlock iv = some g → g < w.heap.size := fun g hg => (h.que.lt g hg).2
  have ap := h3.apart
  -- the blocks behind add
  have bp : w5.heap[p]? = some (.cells #[.slice (some ⟨lb, 0, none⟩) n n, iv', .map (some mb), .int .i64 D.spent.left, .bool D.spent.down, .int .i64 (D.spent.acts : Int)] 114 (0, 0)) := by
    rw [hh]
    have : w4.heap[p]? = _ := (kw4.block p (by omega) (fun e => (ap.2.2.2 p e).1 rfl)).trans h3.head
    rw [heap_setCell_same w4 p 1 _ _ _ this]
    rfl
  have bl : w5.heap[lb]? = some (.cells (D.spent.L.map B8).toArray 128 (0, 0)) := (kw5.block lb (by omega) (fun e => e.elim (fun e => ap.1 e.symm) (fun e => (ap.2.2.2 lb e).2.1 rfl))).trans h3.rows
  have bm : MapIs w5 mb D.Q := by
    have := h3.map.keep (kw5.block mb (by omega) (fun e => e.elim (fun e => ap.2.1 e.symm) (fun e => (ap.2.2.2 mb e).2.2 rfl)))
    rwa [SQ.out] at this
  have bv : w5.heap[w1.heap.size]? = some (.cells (qcells (k, xs)).toArray 168 (0, 0)) := (kw5.block _ hs3 (fun e => e.elim (fun e => by omega) (fun e => by have := hiw _ e; omega))).trans V3'.out
  have hgn : ∀ g, Value.ownBlock iv' = some g → g ≠ p ∧ g ≠ lb ∧ g ≠ mb := fun g hg => by
    rcases hnew g hg with e | e
    · exact ap.2.2.2 g e
    · exact ⟨by omega, by omega, by omega⟩
  have c2 : w5.drew.cell? ⟨p, 2, none⟩ = some (.map (some mb)) := by
    have e : w5.cell? ⟨p, 2, none⟩ = some (.map (some mb)) := by rw [cell_of_row w5 p _ _ _ _ bp]; rfl
    exact e
  have r6 : w5.drew.rangeAt w1.heap.size 1 (xs.map B8) := by
    intro j v hv
    have e : w5.cell? ⟨w1.heap.size, 1 + j, none⟩ = some v := by
      rw [cell_of_row w5 _ _ _ _ _ bv]
      simp only [qcells, List.getElem?_toArray, Nat.add_comm 1 j, List.getElem?_cons_succ]
      exact hv
    exact e
  have L6 := Lib.hid (load71 HL.out r6)
  obtain ⟨w7, hup, hm7, hg7⟩ := MapIs.put (w := w5.drew) (bm.keep rfl) k (by omega) xs hQ
  have UP := Lib.hid hup
  have BP := Lib.hid bp
  have BL := Lib.hid bl
  have OW := Lib.hid hown
  have HH := Lib.hid hh
  clear bp bl bv bm r6 hup hown hh
  go_wp2_with fail
  refine wp_region_still_tail 7 (by kernel_rfl) (by kernel_rfl) ?_
  simp only [List.take_succ_cons, List.take_zero, List.drop_succ_cons, List.drop_zero]
  change wpStill _ _ w5.drew (fun a' => wpList _ _ _ _ a' w5.drew) _ _
  have k65 : Keeps (fun _ => False) w5 w5.drew := Keeps.drew _ _
  have e65 : Hid (w5.drew.heap = w5.heap) := rfl
  generalize w5.drew = w6 at *
  still_step
  still_step
  still_step
  still_step
  still_step
  still_step
  refine wpStill_load rfl 128 (.tmp 41) rfl _ _ rfl L6.out ?_
  refine wpStill_nil ?_
  clear L6
  simp only [Act.put, List.setIfInBounds_toArray, List.set_cons_zero, List.set_cons_succ]
  refine wpList_mapUpdate_run rfl 109 _ _ _ rfl _ _ _ rfl rfl rfl UP.out ?_
  clear UP c2
  go_wp2
  go_ret
  have kB : ∀ g, g ≠ mb → g < w6.heap.size → w7.heap[g]? = w5.heap[g]? := fun g h1 h2 => (hg7.block g h2 (fun e => h1 (by cases e; rfl))).trans (by rw [e65.out])
  have s6 : w6.heap.size = w5.heap.size := by rw [e65.out]
  have s5 := kw5.size
  refine ⟨rfl, ⟨lb, mb, n, iv', ?_, Or.inl fp, Or.inl fl, Or.inl fm, fun g hg => ?_⟩, ?_⟩
  · rw [← HD2.out]
    refine ⟨⟨?_, h3.ok.n_le, fun q hq => ?_, h3.ok.lo, h3.ok.hi⟩, (kB p ap.2.1 (by omega)).trans BP.out, (kB lb ap.2.2.1 (by omega)).trans BL.out, ?_, hm7⟩
    · exact h3.ok.len
    · simp only [List.mem_append, List.mem_singleton] at hq
      rcases hq with hq | rfl
      · exact h3.ok.q q (by rw [SQ.out]; exact hq)
      · exact ⟨by omega, HL.out⟩
    · have hown := OW.out
      refine ⟨by simpa using hown.1, ?_⟩
      rcases hown.2 with ⟨_, hn⟩ | ⟨g, cap, cur, rfl, hb, hgg, rest⟩
      · omega
      · have hgl : g < w4.heap.size := (Array.getElem?_eq_some_iff.1 hgg).1
        have hne := hgn g rfl
        have e5 : w5.heap[g]? = w4.heap[g]? := by rw [HH.out]; exact Below.heap_setCell _ _ _ _ hne.1
        have hs4 : w4.heap.size = w5.heap.size := by rw [HH.out]; simp [World.setCell]
        have e7 : w7.heap[g]? = w4.heap[g]? := (kB g hne.2.2 (by omega)).trans e5
        refine .inr ⟨g, cap, cur, by simp, hb, e7.trans hgg, ?_⟩
        simpa using rest
  · rcases hnew g hg with e | e
    · exact Or.inl (fi g e)
    · exact Or.inr (by omega)
  · refine ⟨?_, ?_, ?_, ?_, fun j hj hF => ?_⟩
    · exact hg7.os.trans (k65.os.trans (kw5.os.trans (k3.os.trans k1.os)))
    · exact hg7.tape.trans (k65.tape.trans (kw5.tape.trans (k3.tape.trans k1.tape)))
    · exact hg7.output.trans (k65.output.trans (kw5.output.trans (k3.output.trans k1.output)))
    · have := hg7.size; omega
    · have n1 : j ≠ p := fun e => hF (e ▸ fp)
      have n2 : j ≠ mb := fun e => hF (e ▸ fm)
      rw [kB j n2 (by omega), kw5.block j (by omega) (fun e => e.elim n1 (fun e => hF (fi j e))), k3.block j (by omega) (fun h => h), k1.block j hj n1]

theorem Dk.wrote_same {w : World} {F : Nat → Prop} {p : Nat} {D : DSt} (h : Dk w F p D) (err : Int) : Wrote w F p D err (.returned (.int .i64 err)) w := ⟨rfl, h.mono (fun _ _ hf => Or.inl hf), Keeps.refl _ _⟩

set_option maxRecDepth 100000 in
set_option maxHeartbeats 1000000 in
theorem write_any {w : World} {F : Nat → Prop} {p : Nat} {D : DSt} (h0 : Dk w F p D) (i : Int) (A : Option Addr) (xs : List UInt8) (c : Nat) (hx : BR w w.heap.size A xs) (hA : ∀ ad, A = some ad → xs ≠ [] → ¬ F ad.block)
    (hQ : D.Q.length < 1954687338212) (ha : D.acts ≤ 1000000000000000) :
    Calls Tryz.prog 116 #[.pointer (some ⟨p, 0, none⟩), .int .i64 i, .slice A xs.length c] w (Wrote w F p (D.write i xs) (D.writeErr i xs)) := by
  cases hd : D.down with
  | true =>
    have e1 : D.write i xs = D := by unfold DSt.write; rw [if_pos hd]
    have e2 : D.writeErr i xs = 20 := by unfold DSt.writeErr; rw [if_pos hd]
    rw [e1, e2]
    have HW := Lib.hid h0
    obtain ⟨lb, mb, n, iv, h, _⟩ := h0
    have HD := Lib.hid hd
    clear e1 e2 hd hx hA
    go_enter Tryz.func116, Tryz.ntmps116
    go_wp2_with (go_at_call 112; refine (down_at h).mono ?_; rintro e w' ⟨rfl, rfl⟩; rw [HD.out])
    go_ret
    exact HW.out.wrote_same 20
  | false =>
    by_cases hf : D.fits i xs
    · by_cases hl : D.left = 0
      · have e1 : D.write i xs = D.spent := by unfold DSt.write; rw [if_neg (by simp [hd]), if_pos hf, if_pos hl]
        have e2 : D.writeErr i xs = 20 := by unfold DSt.writeErr; rw [if_neg (by simp [hd]), if_pos hf]; unfold DSt.actErr; rw [if_pos hl]
        have e3 : D.actErr = 20 := by unfold DSt.actErr; rw [if_pos hl]
        rw [e1, e2]
        obtain ⟨lb, mb, n, iv, h, fF⟩ := h0
        obtain ⟨f1, f2, f3⟩ := hf
        rw [h.ok.n_eq] at f2
        have HD := Lib.hid hd
        have HE := Lib.hid e3
        have hb : (xs.length : Int) = 64 := by omega
        rw [f3]
        clear e1 e2 e3 hd hx hA hl f3 hb
        go_enter Tryz.func116, Tryz.ntmps116
        go_wp2_with fail
        refine (down_at h).mono ?_
        rintro e w' ⟨rfl, rfl⟩
        rw [HD.out]
        go_wp2_with fail
        refine (has_yes h _ f1 f2).mono ?_
        rintro e w' ⟨rfl, rfl⟩
        go_wp2_with fail
        refine (act_at h ha).mono ?_
        rintro e w1 ⟨rfl, h1, k1⟩
        rw [HE.out]
        go_wp2_with fail
        go_ret
        exact ⟨rfl, ⟨lb, mb, n, iv, h1, Or.inl fF.1, Or.inl fF.2.1, Or.inl fF.2.2.1, fun g hg => Or.inl (fF.2.2.2 g hg)⟩, k1.mono fun _ _ e => e ▸ fF.1⟩
      · obtain ⟨f1, f2, f3⟩ := hf
        obtain ⟨k, rfl⟩ := Int.eq_ofNat_of_zero_le f1
        have e1 : D.write (k : Int) xs = { D.spent with Q := D.Q ++ [(k, xs)] } := by unfold DSt.write; rw [if_neg (by simp [hd]), if_pos ⟨f1, f2, f3⟩, if_neg hl]; rfl
        have e2 : D.writeErr (k : Int) xs = 0 := by unfold DSt.writeErr; rw [if_neg (by simp [hd]), if_pos ⟨f1, f2, f3⟩]; unfold DSt.actErr; rw [if_neg hl]
        rw [e1, e2]
        exact write_ok h0 k (by omega) A xs c hx (fun ad e => hA ad e (by intro e0; subst e0; simp at f3)) f3 hd hl hQ ha
    · have e1 : D.write i xs = D := by unfold DSt.write; rw [if_neg (by simp [hd]), if_neg hf]
      have e2 : D.writeErr i xs = 1 := by unfold DSt.writeErr; rw [if_neg (by simp [hd]), if_neg hf]
      rw [e1, e2]
      have HW := Lib.hid h0
      obtain ⟨lb, mb, n, iv, h, _⟩ := h0
      have HD := Lib.hid hd
      unfold DSt.fits at hf
      rw [h.ok.n_eq] at hf
      by_cases hi : 0 ≤ i ∧ i < n
      · have hb : ((xs.length : Int) != 64) = true := by rw [bne_iff_ne]; omega
        obtain ⟨f1, f2⟩ := hi
        clear e1 e2 hd hx hA hf
        go_enter Tryz.func116, Tryz.ntmps116
        go_wp2_with fail
        refine (down_at h).mono ?_
        rintro e w' ⟨rfl, rfl⟩
        rw [HD.out]
        go_wp2_with fail
        refine (has_yes h _ f1 f2).mono ?_
        rintro e w' ⟨rfl, rfl⟩
        go_wp2_with fail
        go_ret
        exact HW.out.wrote_same 1
      · have hi' : i < 0 ∨ n ≤ i := by omega
        have HI := Lib.hid hi'
        clear e1 e2 hd hx hA hf hi hi'
        go_enter Tryz.func116, Tryz.ntmps116
        go_wp2_with fail
        refine (down_at h).mono ?_
        rintro e w' ⟨rfl, rfl⟩
        rw [HD.out]
        go_wp2_with fail
        refine (has_no h _ HI.out).mono ?_
        rintro e w' ⟨rfl, rfl⟩
        go_wp2_with fail
        go_ret
        exact HW.out.wrote_same 1
end Go.Proofs.YtebecpjecchfoaaGreatDoor
namespace Go.Proofs.YtebecpjecchfoaaGreatDoor
open Go.RowKit Go.Maps

/-- A fate as a value. -/
structure Fate where
  stay : Int
  torn : Int
  cut : Int
  head : Bool
def fcells (f : Fate) : Array Value := #[.int .u64 f.stay, .int .i64 f.torn, .int .i64 f.cut, .bool f.head]
def agf (f : Fate) : Value := .agg (fcells f)

theorem box71 (w : World) (xs : List UInt8) : (Instr.box 128 (ag xs)).run Tryz.prog w = .ok (.pointer (some ⟨w.heap.size, 0, none⟩)) (w.alloc (.cells (xs.map B8).toArray 128)) := rfl
theorem box71_2 (w : World) (o : Obj) (xs : List UInt8) : (Instr.box 128 (ag xs)).run Tryz.prog (w.alloc o) = .ok (.pointer (some ⟨w.heap.size + 1, 0, none⟩)) ((w.alloc o).alloc (.cells (xs.map B8).toArray 128)) := by
  have := box71 (w.alloc o) xs
  rwa [World.size_alloc] at this
theorem box33_3 (w : World) (o o' : Obj) (f : Fate) : (Instr.box 42 (agf f)).run Tryz.prog ((w.alloc o).alloc o') = .ok (.pointer (some ⟨w.heap.size + 2, 0, none⟩)) (((w.alloc o).alloc o').alloc (.cells (fcells f) 42)) := by
  have e : ((w.alloc o).alloc o').heap.size = w.heap.size + 2 := by simp
  rw [← e]
  rfl
theorem alloc71_4 (w : World) (o o' o'' : Obj) : (Instr.alloc 128 true (.tuple #[])).run Tryz.prog (((w.alloc o).alloc o').alloc o'') = .ok (.pointer (some ⟨w.heap.size + 3, 0, none⟩)) ((((w.alloc o).alloc o').alloc o'').alloc (.cells z64 128)) := by
  have e : (((w.alloc o).alloc o').alloc o'').heap.size = w.heap.size + 3 := by simp
  have := alloc71 (((w.alloc o).alloc o').alloc o'')
  rwa [e] at this

def tornW (w : World) (xs ys : List UInt8) (f : Fate) : World := (((w.alloc (.cells (xs.map B8).toArray 128)).alloc (.cells (ys.map B8).toArray 128)).alloc (.cells (fcells f) 42)).alloc (.cells z64 128)
theorem tornW_facts (w : World) (xs ys : List UInt8) (f : Fate) : (tornW w xs ys f).heap.size = w.heap.size + 4 ∧ (tornW w xs ys f).heap[w.heap.size]? = some (.cells (xs.map B8).toArray 128 (0, 0)) ∧ (tornW w xs ys f).heap[w.heap.size + 1]? = some (.cells (ys.map B8).toArray 128 (0, 0)) ∧
    (tornW w xs ys f).heap[w.heap.size + 2]? = some (.cells (fcells f) 42 (0, 0)) ∧ (tornW w xs ys f).heap[w.heap.size + 3]? = some (.cells (zs64.map B8).toArray 128 (0, 0)) ∧ Keeps (fun _ => False) w (tornW w xs ys f) := by
  have k : Keeps (fun _ => False) w (tornW w xs ys f) := ((Keeps.alloc _ _ _).trans (Keeps.alloc _ _ _)).trans ((Keeps.alloc _ _ _).trans (Keeps.alloc _ _ _))
  refine ⟨by simp [tornW], ?_, ?_, ?_, ?_, k⟩
  · exact (Below.heap_alloc _ _ _ (by simp; omega)).trans ((Below.heap_alloc _ _ _ (by simp; omega)).trans ((Below.heap_alloc _ _ _ (by simp)).trans (heap_alloc_last w _)))
  · refine (Below.heap_alloc _ _ _ (by simp)).trans ((Below.heap_alloc _ _ _ (by simp)).trans ?_)
    have e : (w.alloc (.cells (xs.map B8).toArray 128)).heap.size = w.heap.size + 1 := by simp
    rw [← e]
    exact heap_alloc_last _ _
  · refine (Below.heap_alloc _ _ _ (by simp)).trans ?_
    have e : ((w.alloc (.cells (xs.map B8).toArray 128)).alloc (.cells (ys.map B8).toArray 128)).heap.size = w.heap.size + 2 := by simp
    rw [← e]
    exact heap_alloc_last _ _
  · have e : (((w.alloc (.cells (xs.map B8).toArray 128)).alloc (.cells (ys.map B8).toArray 128)).alloc (.cells (fcells f) 42)).heap.size = w.heap.size + 3 := by simp
    rw [← e]
    exact heap_alloc_last _ _

set_option maxRecDepth 100000 in
set_option maxHeartbeats 1000000 in
theorem torn_any (xs ys : List UInt8) (f : Fate) (w : World) (hx : xs.length = 64) (hy : ys.length = 64) :
    Calls Tryz.prog 121 #[ag xs, ag ys, agf f] w fun e w' => e = .returned (ag (mixL xs ys (clamp f.cut 64) f.head)) ∧ Keeps (fun _ => False) w w' := by
  obtain ⟨t0, t1, t2, t3, t4, t5⟩ := tornW_facts w xs ys f
  have HX := Lib.hid hx
  have HY := Lib.hid hy
  have T1 := Lib.hid t1
  have T2 := Lib.hid t2
  have T4 := Lib.hid t4
  have T0 := Lib.hid t0
  have c1 : (tornW w xs ys f).drew.cell? ⟨w.heap.size + 2, 2, none⟩ = some (.int .i64 f.cut) := by
    have e : (tornW w xs ys f).cell? ⟨w.heap.size + 2, 2, none⟩ = some (.int .i64 f.cut) := by rw [cell_of_row _ _ _ _ _ _ t3]; rfl
    exact e
  have c2 : (tornW w xs ys f).drew.cell? ⟨w.heap.size + 2, 3, none⟩ = some (.bool f.head) := by
    have e : (tornW w xs ys f).cell? ⟨w.heap.size + 2, 3, none⟩ = some (.bool f.head) := by rw [cell_of_row _ _ _ _ _ _ t3]; rfl
    exact e
  clear hx hy t0 t1 t2 t3 t4
  generalize hzs : mixL xs ys (clamp f.cut 64) f.head = zs
  have HZS := Lib.hid hzs
  clear hzs
  go_enter Tryz.func121, Tryz.ntmps121
  go_wp2_with (first
    | ((with_reducible refine here (op := .box 128 (.tmp 0)) ?_); refine wpList_box_run rfl 128 _ rfl _ _ rfl (box71 _ _) ?_)
    | ((with_reducible refine here (op := .box 128 (.tmp 1)) ?_); refine wpList_box_run rfl 128 _ rfl _ _ rfl (box71_2 _ _ _) ?_)
    | ((with_reducible refine here (op := .box 42 (.tmp 2)) ?_); refine wpList_box_run rfl 42 _ rfl _ _ rfl (box33_3 _ _ _ _) ?_)
    | ((with_reducible refine here (op := .alloc 128) (d := some 6) ?_); refine wpList_alloc_run rfl 128 rfl _ (alloc71_4 _ _ _ _) ?_; refine wpList_world (w' := tornW w xs ys f) rfl ?_))
  refine wp_region_any (by kernel_rfl) ?_
  change wpAny _ _ _ _ _ _ _ (World.drew (tornW w xs ys f))
  have k1 : Keeps (fun _ => False) (tornW w xs ys f) (tornW w xs ys f).drew := Keeps.drew _ _
  have E1 : Hid ((tornW w xs ys f).drew.heap = (tornW w xs ys f).heap) := rfl
  generalize (tornW w xs ys f).drew = W0 at *
  generalize tornW w xs ys f = WT at *
  refine wpAny_take (oi := ⟨_, _, _, _, _, _⟩) (i := 0) (v := .slice (some ⟨w.heap.size, 0, none⟩) 64 64) rfl (by kernel_rfl) (by kernel_rfl) (by kernel_rfl) (fun _ _ _ h => h) (Or.inl ⟨by rfl, fun w => by go_simp⟩) ?_
  simp only [Act.put, List.setIfInBounds_toArray, List.set_cons_zero, List.set_cons_succ]
  refine wpAny_tail [1, 2, 3, 4, 5, 6] [7, 8] [_, _, _, _, _, _] [_, _] rfl rfl rfl (by kernel_rfl) ?_
  still_step
  still_step
  still_step
  still_step
  still_step
  still_step
  refine wpStill_nil ?_
  go_wp2_with fail
  have b0 : W0.heap[w.heap.size]? = some (.cells (xs.map B8).toArray 128 (0, 0)) := by rw [E1.out]; exact T1.out
  have b1 : W0.heap[w.heap.size + 1]? = some (.cells (ys.map B8).toArray 128 (0, 0)) := by rw [E1.out]; exact T2.out
  have b4 : W0.heap[w.heap.size + 3]? = some (.cells (zs64.map B8).toArray 128 (0, 0)) := by rw [E1.out]; exact T4.out
  have s0 : W0.heap.size = w.heap.size + 4 := by rw [E1.out]; exact T0.out
  have hx0 := br_block b0 0 64
  have hy0 := br_block b1 0 64
  rw [List.drop_zero, List.take_of_length_le (by rw [HX.out]; omega)] at hx0
  rw [List.drop_zero, List.take_of_length_le (by rw [HY.out]; omega)] at hy0
  have hc := leMix_any _ xs 64 _ ys 64 f.cut f.head W0 hx0 hy0 (by rw [HX.out]; omega) (by rw [HY.out]; omega)
  rw [HX.out, HY.out] at hc
  rw [show ((64 : Nat) : Int) = 64 from rfl, HZS.out] at hc
  refine hc.mono ?_
  rintro e w1 ⟨R, c, rfl, hr, hb⟩
  have hzl : zs.length = 64 := by rw [← HZS.out, mixL_len, HX.out]
  have d0 : w1.heap[w.heap.size]? = some (.cells (xs.map B8).toArray 128 (0, 0)) := (hb.block _ (by omega)).trans b0
  have d4 : w1.heap[w.heap.size + 3]? = some (.cells (zs64.map B8).toArray 128 (0, 0)) := (hb.block _ (by omega)).trans b4
  have cpy := fun ty => run_copy8 (P := Tryz.prog) w1 34 34 ty 5 128 Tryz.underlying34 (by kernel_rfl) w.heap.size 0 64 64 (some ⟨w.heap.size, 0, none⟩) xs zs R c _ (fun _ => rfl) (Row8.of_block d0) hr (by rw [hzl]; exact Nat.le_refl _) (by rw [hzl, HX.out]; exact Nat.le_refl _)
  obtain ⟨w2, hrun, hrow, hg2⟩ := cpy 3
  rw [hzl] at hrun ⊢
  rw [splice_all _ _ (by rw [HX.out, hzl])] at hrow
  have e0 := hrow.block
  have e4 : w2.heap[w.heap.size + 3]? = some (.cells (zs64.map B8).toArray 128 (0, 0)) := (hg2.block _ (by have := hb.size; omega) (by simp)).trans d4
  have r2 := range_block e0 0 64
  rw [List.drop_zero, List.take_of_length_le (by rw [hzl]; omega)] at r2
  have LD := Lib.hid (load71 hzl r2)
  have SD := Lib.hid (store71 (w := w2) (b := w.heap.size + 3) (o := 0) (xs := zs) hzl (there_block e4 0 64 (by rw [zs64_len]; omega)))
  obtain ⟨g1, g2⟩ := setCells_block (w := w2) (ys := zs) 0 e4 (by rw [zs64_len, hzl]; omega)
  rw [splice_all _ _ (by rw [zs64_len, hzl])] at g1
  have G1 := Lib.hid g1
  have HZ := Lib.hid hzl
  have hs2 := hg2.size
  have hs1 := hb.size
  clear b0 b1 b4 hx0 hy0 hc d0 d4 cpy e0 e4 r2 g1 hzl hr hrow
  go_wp2_with (first
    | ((with_reducible refine here (op := .load 128 (.tmp 3)) ?_); refine wpList_load_run rfl 128 _ rfl _ _ rfl LD.out ?_)
    | ((with_reducible refine here (op := .store 128 (.tmp 6) (.tmp 16)) ?_); refine wpList_store_run rfl 128 _ _ rfl _ _ rfl rfl SD.out ?_))
  refine bodyPost_ret (v := ag zs) ?_ rfl ⟨rfl, ?_⟩
  · exact results_cell_row rfl _ _ (w.heap.size + 3) 128 _ (0, 0) _ rfl G1.out Tryz.underlying128 rfl (by rw [Tryz.size71]; simp [HZ.out])
  · have hk := t5.trans k1
    refine ⟨g2.os.trans (hg2.os.trans (hb.os.trans hk.os)), g2.tape.trans (hg2.tape.trans (hb.tape.trans hk.tape)), g2.output.trans (hg2.output.trans (hb.output.trans hk.output)), ?_, fun j hj hF => ?_⟩
    · have := g2.size; omega
    · rw [g2.block j (by omega) (by omega), hg2.block j (by omega) (by simp; omega), hb.block j (by omega), hk.block j hj hF]

/-- Does the i-th write stay? -/
def stayB (s : Int) (i : Nat) : Bool := (s / 2 ^ (min i 63)) % 2 == 1
theorem and_one64 (x : Int) (h0 : 0 ≤ x) (h1 : x ≤ 18446744073709551615) : bits .and .u64 x 1 = x % 2 := by
  obtain ⟨n, rfl⟩ := Int.eq_ofNat_of_zero_le h0
  have := bits_and_u64_nat n 1 (by omega) (by omega)
  rw [show ((1 : Nat) : Int) = 1 from rfl] at this
  rw [this, Nat.and_one_is_mod]
  omega
theorem div_range (s : Int) (k : Nat) (h0 : 0 ≤ s) (h1 : s ≤ 18446744073709551615) : 0 ≤ s / 2 ^ k ∧ s / 2 ^ k ≤ 18446744073709551615 := by
  obtain ⟨n, rfl⟩ := Int.eq_ofNat_of_zero_le h0
  have e : ((n : Int) / 2 ^ k) = ((n / 2 ^ k : Nat) : Int) := by simp
  have := Nat.div_le_self n (2 ^ k)
  rw [e]
  clear e
  generalize n / 2 ^ k = m at *
  omega

set_option maxRecDepth 100000 in
set_option maxHeartbeats 400000 in
theorem stays_any (s : Int) (i : Nat) (hs0 : 0 ≤ s) (hs1 : s ≤ 18446744073709551615) (hi : i ≤ 1000000000000000) (w : World) :
    Calls Tryz.prog 122 #[.int .u64 s, .int .i64 (i : Int)] w fun e w' => e = .returned (.bool (stayB s i)) ∧ w = w' := by
  by_cases h63 : 63 < (i : Int)
  · have e : stayB s i = (bits .and .u64 (s / 9223372036854775808) 1 == 1) := by
      have hd := div_range s 63 hs0 hs1
      have e2 : (2 : Int) ^ 63 = 9223372036854775808 := by decide
      rw [e2] at hd
      unfold stayB
      rw [show min i 63 = 63 from by omega, e2, and_one64 _ hd.1 hd.2]
    have E := Lib.hid e
    clear e
    go_enter Tryz.func122, Tryz.ntmps122
    go_wp2
    go_ret
    exact ⟨by rw [E.out]; rfl, rfl⟩
  · have e : stayB s i = (bits .and .u64 (s / 2 ^ i) 1 == 1) := by
      have hd := div_range s i hs0 hs1
      unfold stayB
      rw [show min i 63 = i from by omega, and_one64 _ hd.1 hd.2]
    have E := Lib.hid e
    clear e
    go_enter Tryz.func122, Tryz.ntmps122
    go_wp2
    go_ret
    exact ⟨by rw [E.out]; rfl, rfl⟩
end Go.Proofs.YtebecpjecchfoaaGreatDoor
namespace Go.Proofs.YtebecpjecchfoaaGreatDoor
open Go.RowKit Go.Maps

/-- What the i-th write that waits makes of the lasting bytes. -/
def layOne (f : Fate) (i : Nat) (q : Nat × List UInt8) (L : List UInt8) : List UInt8 :=
  if ((i : Int) == f.torn) = true then splice L (q.1 * 64) (mixL q.2 (sec L q.1) (clamp f.cut 64) f.head) else if stayB f.stay i = true then splice L (q.1 * 64) q.2 else L
/-- .. the first k. -/
def layTo (f : Fate) (L : List UInt8) (Q : List (Nat × List UInt8)) : Nat → List UInt8
  | 0 => L
  | k + 1 => match Q[k]? with
    | some q => layOne f k q (layTo f L Q k)
    | none => layTo f L Q k
theorem layTo_succ (f : Fate) (L : List UInt8) (Q : List (Nat × List UInt8)) (k : Nat) (h : k < Q.length) : layTo f L Q (k + 1) = layOne f k Q[k] (layTo f L Q k) := by
  simp [layTo, h]
def DSt.settle (D : DSt) (f : Fate) : DSt := { D with L := layTo f D.L D.Q D.Q.length, Q := [] }
theorem layOne_len (f : Fate) (i : Nat) (q : Nat × List UInt8) (L : List UInt8) (h : q.2.length = 64) (hq : q.1 * 64 + 64 ≤ L.length) : (layOne f i q L).length = L.length := by
  unfold layOne
  split
  · exact length_splice _ _ _ (by rw [mixL_len, h]; exact hq)
  · split
    · exact length_splice _ _ _ (by rw [h]; exact hq)
    · rfl
theorem layTo_len (f : Fate) (L : List UInt8) (Q : List (Nat × List UInt8)) (hQ : ∀ q ∈ Q, q.1 * 64 + 64 ≤ L.length ∧ q.2.length = 64) (k : Nat) (hk : k ≤ Q.length) : (layTo f L Q k).length = L.length := by
  induction k with
  | zero => rfl
  | succ k ih =>
    have h := hQ _ (List.getElem_mem (show k < Q.length by omega))
    have ih := ih (by omega)
    rw [layTo_succ _ _ _ _ (by omega), layOne_len _ _ _ _ h.2 (by rw [ih]; exact h.1), ih]

theorem DkAt.withL {w w' : World} {p lb mb n : Nat} {iv : Value} {D : DSt} (h : DkAt w p lb mb n iv D) (k : Keeps (· = lb) w w') (L : List UInt8) (hl : L.length = D.L.length) (hb : w'.heap[lb]? = some (.cells (L.map B8).toArray 128 (0, 0))) :
    DkAt w' p lb mb n iv { D with L := L } := by
  have ap := h.apart
  obtain ⟨es, clock, hm⟩ := h.map.obj
  have lt : ∀ {b : Nat} {o : Obj}, w.heap[b]? = some o → b ≠ lb → w'.heap[b]? = w.heap[b]? := fun e hn => k.block _ (Array.getElem?_eq_some_iff.1 e).1 hn
  refine ⟨⟨hl.trans h.ok.len, h.ok.n_le, h.ok.q, h.ok.lo, h.ok.hi⟩, (lt h.head ap.1).trans h.head, hb, ?_, h.map.keep (lt hm (Ne.symm ap.2.2.1))⟩
  refine ⟨h.que.1, ?_⟩
  rcases h.que.2 with hn | ⟨g, cap, cur, rfl, hb, hgg, rest⟩
  · exact .inl hn
  · exact .inr ⟨g, cap, cur, rfl, hb, (lt hgg (ap.2.2.2 g rfl).2.1).trans hgg, rest⟩

/-- A round's variable: the i-th write, in a new block. -/
theorem var74 (w : World) (q : Nat × List UInt8) (hl : q.2.length = 64) :
    ((w.alloc (.cells zq 168)).setCells w.heap.size 0 (qcells q)).heap[w.heap.size]? = some (.cells (qcells q).toArray 168 (0, 0)) ∧ Keeps (fun _ => False) w ((w.alloc (.cells zq 168)).setCells w.heap.size 0 (qcells q)) ∧
    (Instr.storeAt 168 (.pointer (some ⟨w.heap.size, 0, none⟩)) (agq q)).run Tryz.prog (w.alloc (.cells zq 168)) = .ok () ((w.alloc (.cells zq 168)).setCells w.heap.size 0 (qcells q)) := by
  have e1 := heap_alloc_last w (.cells zq 168)
  obtain ⟨b1, b2⟩ := setCells_blockV (ys := qcells q) 0 e1 (by rw [zq_len, qcells_len hl]; omega)
  rw [splice_allV _ _ (by rw [zq_len, qcells_len hl])] at b1
  have k0 : Keeps (fun _ => False) w (w.alloc (.cells zq 168)) := Keeps.alloc _ _ _
  exact ⟨b1, ⟨b2.os, b2.tape, b2.output, Nat.le_trans k0.size b2.size, fun j hj hF => (b2.block j (by simp; omega) (by omega)).trans (k0.block j hj hF)⟩, store74 hl (there_blockV e1 0 65 (by rw [zq_len]; omega))⟩
theorem box33 (w : World) (f : Fate) : (Instr.box 42 (agf f)).run Tryz.prog w = .ok (.pointer (some ⟨w.heap.size, 0, none⟩)) (w.alloc (.cells (fcells f) 42)) := rfl

structure Fate.Ok (f : Fate) : Prop where
  s0 : 0 ≤ f.stay
  s1 : f.stay ≤ 18446744073709551615

theorem load33 {w : World} {b : Nat} {f : Fate} (h : w.heap[b]? = some (.cells (fcells f) 42 (0, 0))) : (Instr.loadAt 42 (.pointer (some ⟨b, 0, none⟩))).run Tryz.prog w = .ok (agf f) w :=
  run_loadAt_mid w b 0 42 (fcells f).toList _ (range_blockV h) Tryz.underlying42 rfl (by kernel_rfl)
theorem range_q {w : World} {b k : Nat} {xs : List UInt8} {t : TypeId} {fr : Nat × Nat} (h : w.heap[b]? = some (.cells (qcells (k, xs)).toArray t fr)) : w.rangeAt b 1 (xs.map B8) := by
  intro j v hv
  rw [cell_of_row w _ _ _ _ _ h]
  simp only [qcells, List.getElem?_toArray, Nat.add_comm 1 j, List.getElem?_cons_succ]
  exact hv
theorem sec_lenL {L : List UInt8} {i : Nat} (h : i * 64 + 64 ≤ L.length) : (sec L i).length = 64 := by
  unfold sec
  rw [List.length_take, List.length_drop]
  omega

set_option maxRecDepth 100000 in
set_option maxHeartbeats 4000000 in
theorem settle_at {w : World} {p lb mb n : Nat} {iv : Value} {D : DSt} (h : DkAt w p lb mb n iv D) (f : Fate) (hf : f.Ok) (hQ : D.Q.length ≤ 1954687338212) :
    Calls Tryz.prog 66 #[.pointer (some ⟨p, 0, none⟩), agf f] w fun e w' => e = .returned (.tuple #[]) ∧ DkAt w' p lb mb n (.slice none 0 0) (D.settle f) ∧ Keeps (fun k => k = p ∨ k = lb ∨ k = mb) w w' := by
  have h1 : DkAt (w.alloc (.cells (fcells f) 42)) p lb mb n iv D := h.same (Keeps.alloc _ _ _)
  have kw : Keeps (fun _ => False) w (w.alloc (.cells (fcells f) 42)) := Keeps.alloc _ _ _
  have hfb := heap_alloc_last w (.cells (fcells f) 42)
  have hplt : p < w.heap.size := (Array.getElem?_eq_some_iff.1 h.head).1
  have hllt : lb < w.heap.size := (Array.getElem?_eq_some_iff.1 h.rows).1
  have hqq : ∀ q ∈ D.Q, q.1 * 64 + 64 ≤ D.L.length ∧ q.2.length = 64 := fun q hq => by
    have := h.ok.q q hq
    rw [h.ok.len]
    exact ⟨by omega, this.2⟩
  have HQQ := Lib.hid hqq
  have hlen := fun k hk => layTo_len f D.L D.Q hqq k hk
  have HLEN := Lib.hid hlen
  have HF := Lib.hid hf
  have hn := h.ok.n_le
  clear hqq hlen h hf
  go_enter Tryz.func66, Tryz.ntmps66
  go_wp2_with (first
    | ((with_reducible refine here (op := .box 42 (.tmp 1)) ?_); refine wpList_box_run rfl 42 _ rfl _ _ rfl (box33 _ _) ?_)
    | (go_at_call 119; refine (many_at h1).mono ?_; rintro e w' ⟨rfl, rfl⟩))
  have HFB := Lib.hid hfb
  have hfs : w.heap.size < (w.alloc (.cells (fcells f) 42)).heap.size := by simp
  clear hfb
  generalize w.alloc (.cells (fcells f) 42) = w0 at *
  go_loopw [10] (fun i wr => ∃ k : Nat, k ≤ D.Q.length ∧ i = .int .i64 (k : Int) ∧ wr.heap[lb]? = some (.cells ((layTo f D.L D.Q k).map B8).toArray 128 (0, 0)) ∧ Keeps (· = lb) w0 wr) (fun i _ => D.Q.length - (intOf i).toNat)
  case atStart => exact ⟨0, by omega, rfl, h1.rows, Keeps.refl _ _⟩
  case round =>
    obtain ⟨k, hk, rfl, hrow, kp⟩ := hrel
    have hdk := h1.withL kp _ (HLEN.out k hk) hrow
    have hfk : wr.heap[w.heap.size]? = some (.cells (fcells f) 42 (0, 0)) := (kp.block _ hfs (by omega)).trans HFB.out
    have HROW := Lib.hid hrow
    have HFK := Lib.hid hfk
    have hll := HLEN.out k hk
    clear hrow hfk
    by_cases hlt : k < D.Q.length
    · have hq2 := HQQ.out _ (List.getElem_mem hlt)
      have hstep := layTo_succ f D.L D.Q k hlt
      have hit := item_at hdk k hlt
      have hq1 := (h1.ok.q _ (List.getElem_mem hlt)).1
      have hlq : (⟨layTo f D.L D.Q k, D.Q, D.left, D.down, D.acts⟩ : DSt).Q[k] = D.Q[k] := rfl
      rw [hlq] at hit
      clear hlq
      generalize D.Q[k] = q at *
      generalize layTo f D.L D.Q k = LK at *
      have HIT := Lib.hid hit
      have HSTEP := Lib.hid hstep
      have HQ2 := Lib.hid hq2.2
      have HQ1 := Lib.hid hq2.1
      clear hit hstep hq2
      go_wp2_with fail
      refine HIT.out.mono ?_
      rintro e w1 ⟨rfl, k1⟩
      clear HIT
      obtain ⟨vb, vk, vs⟩ := var74 w1 q HQ2.out
      have VS := Lib.hid vs
      have VB := Lib.hid vb
      clear vs vb
      have s1 := k1.size
      have s0 := kp.size
      have hv : Hid (w1.heap.size = w1.heap.size) := rfl
      clear hv
      generalize hW2 : (w1.alloc (.cells zq 168)).setCells w1.heap.size 0 (qcells q) = w2 at *
      have HW2 := Lib.hid hW2
      clear hW2
      have k2 : Keeps (fun _ => False) wr w2 := k1.trans vk
      have kp2 : Keeps (· = lb) w0 w2 := kp.trans k2.ofFalse
      have hdk2 : DkAt w2 p lb mb n iv { D with L := LK } := hdk.same k2
      have f2 : w2.heap[w.heap.size]? = some (.cells (fcells f) 42 (0, 0)) := (k2.block _ (by omega) (fun h => h)).trans HFK.out
      have F2 := Lib.hid f2
      have c0 : w2.cell? ⟨w.heap.size, 0, none⟩ = some (.int .u64 f.stay) := by rw [cell_of_row _ _ _ _ _ _ f2]; rfl
      have c1 : w2.cell? ⟨w.heap.size, 1, none⟩ = some (.int .i64 f.torn) := by rw [cell_of_row _ _ _ _ _ _ f2]; rfl
      clear f2 vk
      have V2' : w2.heap[w1.heap.size]? = some (.cells (qcells q).toArray 168 (0, 0)) := VB.out
      have hvlt : w1.heap.size < w2.heap.size := (Array.getElem?_eq_some_iff.1 V2').1
      have hfit : q.1 * 64 + 64 ≤ LK.length := by rw [hll]; exact HQ1.out
      by_cases htorn : ((k : Int) == f.torn) = true
      · have hz := mixL_len q.2 (sec LK q.1) (clamp f.cut 64) f.head
        rw [HQ2.out] at hz
        have hst : layTo f D.L D.Q (k + 1) = splice LK (q.1 * 64) (mixL q.2 (sec LK q.1) (clamp f.cut 64) f.head) := by rw [HSTEP.out]; unfold layOne; rw [if_pos htorn]
        have hsl : (sec LK q.1).length = 64 := sec_lenL hfit
        have htr := fun (w : World) => torn_any q.2 (sec LK q.1) f w HQ2.out hsl
        generalize mixL q.2 (sec LK q.1) (clamp f.cut 64) f.head = zs at *
        clear HSTEP
        have HSTEP := Lib.hid hst
        have HZ := Lib.hid hz
        have HSL := Lib.hid hsl
        have HTR := Lib.hid htr
        clear hst hz hsl htr
        go_wp2_with (first
          | ((with_reducible refine here (op := .alloc 168) (d := some 5) ?_); refine wpList_alloc_run rfl 168 rfl _ (alloc74 _) ?_)
          | ((with_reducible refine here (op := .store 168 (.tmp 5) (.tmp 17)) ?_); refine wpList_store_run rfl 168 _ _ rfl _ _ rfl rfl VS.out ?_))
        -- the torn write
        have d6 : DkAt w2.drew p lb mb n iv { D with L := LK } := hdk2.same (Keeps.drew _ _)
        have v6 : w2.drew.heap[w1.heap.size]? = some (.cells (qcells q).toArray 168 (0, 0)) := V2'
        have c60 : w2.drew.cell? ⟨p, 0, none⟩ = some (.slice (some ⟨lb, 0, none⟩) n n) := d6.c.1
        have c61 : w2.drew.cell? ⟨w1.heap.size, 0, none⟩ = some (.int .i64 (q.1 : Int)) := by rw [cell_of_row _ _ _ _ _ _ v6]; rfl
        have LA := Lib.hid (load71 (b := w1.heap.size) (o := 1) HQ2.out (range_q (k := q.1) v6))
        have LB := Lib.hid (load71 (w := w2.drew) (b := lb) (o := q.1 * 64) HSL.out (range_block d6.rows (q.1 * 64) 64))
        have LF := Lib.hid (load33 (w := w2.drew) F2.out)
        have k62 : Keeps (fun _ => False) w2 w2.drew := Keeps.drew _ _
        have V6 := Lib.hid v6
        clear v6 V2' c0 c1
        refine wp_region_still_tail 11 (by kernel_rfl) (by kernel_rfl) ?_
        simp only [List.take_succ_cons, List.take_zero, List.drop_succ_cons, List.drop_zero]
        change wpStill _ _ w2.drew (fun a' => wpList _ _ _ _ a' w2.drew) _ _
        generalize w2.drew = w6 at *
        still_step
        refine wpStill_load rfl 128 (.tmp 22) rfl _ _ rfl LA.out ?_
        still_step
        still_step
        still_step
        still_step
        still_step
        still_step
        still_step
        refine wpStill_load rfl 128 (.tmp 30) rfl _ _ rfl LB.out ?_
        refine wpStill_load rfl 42 (.tmp 3) rfl _ _ rfl LF.out ?_
        refine wpStill_nil ?_
        clear LA LB LF c60 c61
        try simp only [Act.put, List.setIfInBounds_toArray, List.set_cons_zero, List.set_cons_succ]
        go_wp2_with fail
        refine (HTR.out _).mono ?_
        rintro e w3 ⟨rfl, k3⟩
        have s6 := k62.size
        have v3 : w3.heap[w1.heap.size]? = some (.cells (qcells q).toArray 168 (0, 0)) := (k3.block w1.heap.size (by omega) (fun h => h)).trans V6.out
        have SV := Lib.hid (store71 (w := w3) (b := w1.heap.size) (o := 1) (xs := zs) HZ.out (there_blockV v3 1 64 (by rw [qcells_len HQ2.out]; omega)))
        obtain ⟨x1, x2⟩ := setCells_blockV (w := w3) (ys := zs.map B8) 1 v3 (by rw [qcells_len HQ2.out, List.length_map, HZ.out]; omega)
        have ex : splice (qcells q) 1 (zs.map B8) = qcells (q.1, zs) := by
          unfold splice qcells
          simp [HZ.out, HQ2.out]
        rw [ex] at x1
        clear ex v3
        go_wp2_with (((with_reducible refine here (op := .store 128 (.tmp 34) (.tmp 33)) ?_); refine wpList_store_run rfl 128 _ _ rfl _ _ rfl rfl SV.out ?_))
        have k4 : Keeps (fun _ => False) wr (w3.setCells w1.heap.size 1 (zs.map B8)) := by
          have kk := (k2.trans k62).trans k3
          refine ⟨x2.os.trans kk.os, x2.tape.trans kk.tape, x2.output.trans kk.output, Nat.le_trans kk.size x2.size, fun j hj hF => (x2.block j (Nat.lt_of_lt_of_le hj kk.size) (by omega)).trans (kk.block j hj hF)⟩
        generalize w3.setCells w1.heap.size 1 (zs.map B8) = w4 at *
        have kp4 : Keeps (· = lb) w0 w4 := kp.trans k4.ofFalse
        have hdk4 : DkAt w4 p lb mb n iv { D with L := LK } := hdk.same k4
        have V4 := x1
        clear x1 SV
        -- the write is laid down
        go_wp2_with fail
        have hb8 : w4.drew.heap[w1.heap.size]? = some (.cells (qcells (q.1, zs)).toArray 168 (0, 0)) := V4
        have hd8 : DkAt w4.drew p lb mb n iv { D with L := LK } := hdk4.same (Keeps.drew _ _)
        have c80 : w4.drew.cell? ⟨p, 0, none⟩ = some (.slice (some ⟨lb, 0, none⟩) n n) := hd8.c.1
        have c81 : w4.drew.cell? ⟨w1.heap.size, 0, none⟩ = some (.int .i64 (q.1 : Int)) := by rw [cell_of_row _ _ _ _ _ _ hb8]; rfl
        have L8 := Lib.hid (load71 (b := w1.heap.size) (o := 1) HZ.out (range_q hb8))
        have S8 := Lib.hid (store71 (w := w4.drew) (b := lb) (o := q.1 * 64) (xs := zs) HZ.out (there_block hd8.rows (q.1 * 64) 64 hfit))
        obtain ⟨g1, g2⟩ := setCells_block (w := w4.drew) (ys := zs) (q.1 * 64) hd8.rows (by rw [HZ.out]; exact hfit)
        have G1 := Lib.hid g1
        have kd : Keeps (· = lb) w4 w4.drew := Keeps.drew _ _
        clear g1 hb8 V4 hd8
        refine wp_region_still_tail 9 (by kernel_rfl) (by kernel_rfl) ?_
        simp only [List.take_succ_cons, List.take_zero, List.drop_succ_cons, List.drop_zero]
        change wpStill _ _ w4.drew (fun a' => wpList _ _ _ _ a' w4.drew) _ _
        generalize w4.drew = W8 at *
        still_step
        still_step
        still_step
        still_step
        still_step
        still_step
        still_step
        refine wpStill_load rfl 128 (.tmp 46) rfl _ _ rfl L8.out ?_
        still_step
        refine wpStill_nil ?_
        clear L8 c80 c81
        try simp only [Act.put, List.setIfInBounds_toArray, List.set_cons_zero, List.set_cons_succ]
        refine wpList_store_run rfl 128 _ _ rfl _ _ rfl rfl S8.out ?_
        clear S8
        generalize W8.setCells lb (q.1 * 64) (zs.map B8) = W9 at *
        go_wp2
        go_roundw
        case rel => exact ⟨k + 1, by omega, by go_num, by rw [HSTEP.out]; exact G1.out, kp4.trans (kd.trans g2)⟩
        case measure => simp [intOf]; omega
      · have htf : ((k : Int) == f.torn) = false := by simpa using htorn
        have hsy := stays_any f.stay k HF.out.s0 HF.out.s1 (by omega)
        have HSY := Lib.hid hsy
        clear hsy
        by_cases hsb : stayB f.stay k = true
        · have hst : layTo f D.L D.Q (k + 1) = splice LK (q.1 * 64) q.2 := by rw [HSTEP.out]; unfold layOne; rw [if_neg htorn, if_pos hsb]
          clear HSTEP
          have HSTEP := Lib.hid hst
          have HSB := Lib.hid hsb
          clear hst hsb htorn
          go_wp2_with (first
            | ((with_reducible refine here (op := .alloc 168) (d := some 5) ?_); refine wpList_alloc_run rfl 168 rfl _ (alloc74 _) ?_)
            | ((with_reducible refine here (op := .store 168 (.tmp 5) (.tmp 17)) ?_); refine wpList_store_run rfl 168 _ _ rfl _ _ rfl rfl VS.out ?_))
          refine (HSY.out _).mono ?_
          rintro e w' ⟨rfl, rfl⟩
          rw [HSB.out]
          have V2 := V2'
          clear V2' c0 c1
          -- the write is laid down
          go_wp2_with fail
          have hb8 : w2.drew.heap[w1.heap.size]? = some (.cells (qcells (q.1, q.2)).toArray 168 (0, 0)) := V2
          have hd8 : DkAt w2.drew p lb mb n iv { D with L := LK } := hdk2.same (Keeps.drew _ _)
          have c80 : w2.drew.cell? ⟨p, 0, none⟩ = some (.slice (some ⟨lb, 0, none⟩) n n) := hd8.c.1
          have c81 : w2.drew.cell? ⟨w1.heap.size, 0, none⟩ = some (.int .i64 (q.1 : Int)) := by rw [cell_of_row _ _ _ _ _ _ hb8]; rfl
          have L8 := Lib.hid (load71 (b := w1.heap.size) (o := 1) HQ2.out (range_q hb8))
          have S8 := Lib.hid (store71 (w := w2.drew) (b := lb) (o := q.1 * 64) (xs := q.2) HQ2.out (there_block hd8.rows (q.1 * 64) 64 hfit))
          obtain ⟨g1, g2⟩ := setCells_block (w := w2.drew) (ys := q.2) (q.1 * 64) hd8.rows (by rw [HQ2.out]; exact hfit)
          have G1 := Lib.hid g1
          have kd : Keeps (· = lb) w2 w2.drew := Keeps.drew _ _
          clear g1 hb8 V2 hd8
          refine wp_region_still_tail 9 (by kernel_rfl) (by kernel_rfl) ?_
          simp only [List.take_succ_cons, List.take_zero, List.drop_succ_cons, List.drop_zero]
          change wpStill _ _ w2.drew (fun a' => wpList _ _ _ _ a' w2.drew) _ _
          generalize w2.drew = W8 at *
          still_step
          still_step
          still_step
          still_step
          still_step
          still_step
          still_step
          refine wpStill_load rfl 128 (.tmp 46) rfl _ _ rfl L8.out ?_
          still_step
          refine wpStill_nil ?_
          clear L8 c80 c81
          try simp only [Act.put, List.setIfInBounds_toArray, List.set_cons_zero, List.set_cons_succ]
          refine wpList_store_run rfl 128 _ _ rfl _ _ rfl rfl S8.out ?_
          clear S8
          generalize W8.setCells lb (q.1 * 64) (q.2.map B8) = W9 at *
          go_wp2
          go_roundw
          case rel => exact ⟨k + 1, by omega, by go_num, by rw [HSTEP.out]; exact G1.out, kp2.trans (kd.trans g2)⟩
          case measure => simp [intOf]; omega
        · have hst : layTo f D.L D.Q (k + 1) = LK := by rw [HSTEP.out]; unfold layOne; rw [if_neg htorn, if_neg hsb]
          clear HSTEP
          have HSTEP := Lib.hid hst
          have hsf : stayB f.stay k = false := by simpa using hsb
          have HSB := Lib.hid hsf
          clear hst hsb hsf htorn
          go_wp2_with (first
            | ((with_reducible refine here (op := .alloc 168) (d := some 5) ?_); refine wpList_alloc_run rfl 168 rfl _ (alloc74 _) ?_)
            | ((with_reducible refine here (op := .store 168 (.tmp 5) (.tmp 17)) ?_); refine wpList_store_run rfl 168 _ _ rfl _ _ rfl rfl VS.out ?_))
          refine (HSY.out _).mono ?_
          rintro e w' ⟨rfl, rfl⟩
          rw [HSB.out]
          clear V2' c0 c1
          go_wp2_with fail
          go_roundw
          case rel => exact ⟨k + 1, by omega, by go_num, by rw [HSTEP.out]; exact hdk2.rows, kp2⟩
          case measure => simp [intOf]; omega
    · obtain rfl : k = D.Q.length := by omega
      have emp := empty_at hdk
      have HEM := Lib.hid emp
      clear emp
      go_wp2_with fail
      refine HEM.out.mono ?_
      rintro e w1 ⟨rfl, rfl⟩
      have ap := hdk.apart
      have hb1 : ∀ b, b ≠ p → (wr.setCell ⟨p, 1, none⟩ (.slice none 0 0)).heap[b]? = wr.heap[b]? := fun b hb => Below.heap_setCell _ _ _ _ hb
      have hp1 : (wr.setCell ⟨p, 1, none⟩ (.slice none 0 0)).heap[p]? = some (.cells #[.slice (some ⟨lb, 0, none⟩) n n, .slice none 0 0, .map (some mb), .int .i64 D.left, .bool D.down, .int .i64 (D.acts : Int)] 114 (0, 0)) := by
        rw [heap_setCell_same wr p 1 _ _ _ hdk.head]; rfl
      have c2 : (wr.setCell ⟨p, 1, none⟩ (.slice none 0 0)).cell? ⟨p, 2, none⟩ = some (.map (some mb)) := by rw [cell_of_row _ _ _ _ _ _ hp1]; rfl
      obtain ⟨w2, hcl, hm2, hg2⟩ := (hdk.map.keep (hb1 mb ap.2.1.symm)).clear 0
      have k1 : Keeps (· = p) wr (wr.setCell ⟨p, 1, none⟩ (.slice none 0 0)) := Keeps.setCell (· = p) _ _ _ rfl
      have HP1 := Lib.hid hp1
      have HL1 := Lib.hid ((hb1 lb ap.1.symm).trans HROW.out)
      clear hp1 hb1 HEM
      generalize wr.setCell ⟨p, 1, none⟩ (.slice none 0 0) = w1 at *
      go_wp2
      go_end0
      have s0 := kp.size
      have s1 := k1.size
      have hmb := hdk.map.lt
      have sw := kw.size
      have kB : ∀ g, g ≠ mb → g < w1.heap.size → w2.heap[g]? = w1.heap[g]? := fun g h1 h2 => hg2.block g h2 (fun e => h1 (by cases e; rfl))
      refine ⟨rfl, ⟨⟨(HLEN.out _ (Nat.le_refl _)).trans h1.ok.len, h1.ok.n_le, fun q hq => (by cases hq), h1.ok.lo, h1.ok.hi⟩, (kB p ap.2.1 (by omega)).trans HP1.out, (kB lb ap.2.2.1 (by omega)).trans HL1.out, World.ownsRow_nil _ _ _ _, hm2⟩, ?_⟩
      refine ⟨hg2.os.trans (k1.os.trans (kp.os.trans kw.os)), hg2.tape.trans (k1.tape.trans (kp.tape.trans kw.tape)), hg2.output.trans (k1.output.trans (kp.output.trans kw.output)), by have := hg2.size; omega, fun j hj hF => ?_⟩
      simp only [not_or] at hF
      rw [kB j hF.2.2 (by omega), k1.block j (by omega) hF.1, kp.block j (by omega) hF.2.1, kw.block j hj (fun h => h)]
end Go.Proofs.YtebecpjecchfoaaGreatDoor
namespace Go.Proofs.YtebecpjecchfoaaGreatDoor
open Go.RowKit Go.Maps

/-- All that waits lasts. -/
def fAll : Fate := ⟨18446744073709551615, -1, 0, false⟩
theorem fAll_ok : fAll.Ok := ⟨by decide, by decide⟩
def DSt.flushErr (D : DSt) : Int := if D.down = true then 20 else D.actErr
def DSt.flush (D : DSt) : DSt := if D.down = true then D else if D.left = 0 then D.spent else D.spent.settle fAll
theorem buildAll (w : World) : (Instr.build 42 #[(0, .int .u64 18446744073709551615), (1, .int .i64 (-1))]).run Tryz.prog w = .ok (agf fAll) w := by kernel_rfl

theorem wpList_build2_run {P : Program} {w w' : World} {ops : Array Oper} {rest : List Oper} {o : Oper} {a : Act} {Q : Exit → Act → World → Prop} (hgd : o.guard = none) (t : TypeId) (x y : Operand) (ho : o.op = .build t #[(0, x), (1, y)]) (u u' v : Value) (hx : a.eval x = u) (hy : a.eval y = u')
    (hrun : (Instr.build t #[(0, u), (1, u')]).run P w = .ok v w') (h : wpList P ops Q rest (a.put o.dst v) w') : wpList P ops Q (o :: rest) a w :=
  wpList_plain hgd fun _ hK => by
    unfold Oper.wp execOp
    simp only [ho, Sem.run_bind, List.map_toArray, List.map_cons, List.map_nil, hx, hy, hrun, Result.andThen_ok, Sem.run_pure]
    exact hK _ _ h

theorem Keeps.disk {w w' : World} {F : Nat → Prop} {p lb mb : Nat} (h : Keeps (fun k => k = p ∨ k = lb ∨ k = mb) w w') (fp : F p) (fl : F lb) (fm : F mb) : Keeps F w w' := h.mono fun k _ e => by
  rcases e with rfl | rfl | rfl <;> assumption

set_option maxRecDepth 100000 in
set_option maxHeartbeats 1000000 in
theorem flush_any {w : World} {F : Nat → Prop} {p : Nat} {D : DSt} (h0 : Dk w F p D) (hQ : D.Q.length ≤ 1954687338212) (ha : D.acts ≤ 1000000000000000) :
    Calls Tryz.prog 118 #[.pointer (some ⟨p, 0, none⟩)] w (Wrote w F p D.flush D.flushErr) := by
  cases hd : D.down with
  | true =>
    have e1 : D.flush = D := by unfold DSt.flush; rw [if_pos hd]
    have e2 : D.flushErr = 20 := by unfold DSt.flushErr; rw [if_pos hd]
    rw [e1, e2]
    have HW := Lib.hid h0
    obtain ⟨lb, mb, n, iv, h, _⟩ := h0
    have HD := Lib.hid hd
    clear e1 e2 hd
    go_enter Tryz.func118, Tryz.ntmps118
    go_wp2_with (go_at_call 112; refine (down_at h).mono ?_; rintro e w' ⟨rfl, rfl⟩; rw [HD.out])
    go_ret
    exact HW.out.wrote_same 20
  | false =>
    obtain ⟨lb, mb, n, iv, h, fp, fl, fm, fi⟩ := h0
    have HD := Lib.hid hd
    by_cases hl : D.left = 0
    · have e1 : D.flush = D.spent := by unfold DSt.flush; rw [if_neg (by simp [hd]), if_pos hl]
      have e3 : D.actErr = 20 := by unfold DSt.actErr; rw [if_pos hl]
      have e2 : D.flushErr = 20 := by unfold DSt.flushErr; rw [if_neg (by simp [hd]), e3]
      rw [e1, e2]
      have HE := Lib.hid e3
      clear e1 e2 e3 hd hl
      go_enter Tryz.func118, Tryz.ntmps118
      go_wp2_with fail
      refine (down_at h).mono ?_
      rintro e w' ⟨rfl, rfl⟩
      rw [HD.out]
      go_wp2_with fail
      refine (act_at h ha).mono ?_
      rintro e w1 ⟨rfl, h1, k1⟩
      rw [HE.out]
      go_wp2_with fail
      go_ret
      exact ⟨rfl, ⟨lb, mb, n, iv, h1, Or.inl fp, Or.inl fl, Or.inl fm, fun g hg => Or.inl (fi g hg)⟩, k1.mono fun _ _ e => e ▸ fp⟩
    · have e1 : D.flush = D.spent.settle fAll := by unfold DSt.flush; rw [if_neg (by simp [hd]), if_neg hl]
      have e3 : D.actErr = 0 := by unfold DSt.actErr; rw [if_neg hl]
      have e2 : D.flushErr = 0 := by unfold DSt.flushErr; rw [if_neg (by simp [hd]), e3]
      rw [e1, e2]
      have HE := Lib.hid e3
      have hQ2 : D.spent.Q.length ≤ 1954687338212 := by rw [DSt.spent_Q]; exact hQ
      clear e1 e2 e3 hd hl
      go_enter Tryz.func118, Tryz.ntmps118
      go_wp2_with fail
      refine (down_at h).mono ?_
      rintro e w' ⟨rfl, rfl⟩
      rw [HD.out]
      go_wp2_with fail
      refine (act_at h ha).mono ?_
      rintro e w1 ⟨rfl, h1, k1⟩
      rw [HE.out]
      go_wp2_with (((with_reducible refine here (op := .build 42 #[(0, .const (.int .u64 18446744073709551615)), (1, .const (.int .i64 (-1)))]) ?_); refine wpList_build2_run rfl 42 _ _ rfl _ _ _ rfl rfl (buildAll _) ?_))
      refine (settle_at h1 fAll fAll_ok hQ2).mono ?_
      rintro e w2 ⟨rfl, h2, k2⟩
      go_wp2_with fail
      go_ret
      exact ⟨rfl, ⟨lb, mb, n, _, h2, Or.inl fp, Or.inl fl, Or.inl fm, fun g hg => (by cases hg)⟩, (k1.mono fun _ _ e => e ▸ fp).trans (k2.disk fp fl fm)⟩

end Go.Proofs.YtebecpjecchfoaaGreatDoor
namespace Go.Proofs.YtebecpjecchfoaaGreatDoor
open Go.RowKit Go.Maps

theorem Tryz.info71 : (Tryz.prog.info? 128).map (fun i => (i.zero, i.size, i.bytes)) = some (some (ag zs64), 64, 64) := by kernel_rfl
theorem zs_at (j : Nat) (h : j < (zs64.map B8).toArray.size) : (zs64.map B8).toArray[j]! = B8 0 := by
  have e : (zs64.map B8).toArray[j]! = (zs64.map B8).toArray[j] := getElem!_pos (zs64.map B8).toArray j h
  rw [e]
  simp only [List.getElem_toArray, List.getElem_map, zs64, List.getElem_replicate]
theorem zs_size : (zs64.map B8).toArray.size = 64 := by rw [List.size_toArray, List.length_map, zs64_len]
theorem made_zeros (m : Nat) : madeCells (zs64.map B8).toArray m = ((List.replicate m (0 : UInt8)).map B8).toArray := by
  apply Array.ext
  · simp [madeCells]
  · intro i h1 h2
    simp only [madeCells, Array.getElem_map, Array.getElem_range, List.getElem_toArray, List.getElem_map, List.getElem_replicate]
    exact zs_at _ (Nat.mod_lt _ (by rw [zs_size]; omega))
theorem wpList_make_run {P : Program} {w w' : World} {ops : Array Oper} {rest : List Oper} {o : Oper} {a : Act} {Q : Exit → Act → World → Prop} (hgd : o.guard = none) (t : TypeId) (x y : Operand) (ho : o.op = .makeSlice t x y) (u u' v : Value) (hx : a.eval x = u) (hy : a.eval y = u')
    (hrun : (Instr.makeSlice t u u').run P w = .ok v w') (h : wpList P ops Q rest (a.put o.dst v) w') : wpList P ops Q (o :: rest) a w :=
  wpList_plain hgd fun _ hK => by
    unfold Oper.wp execOp
    simp only [ho, hx, hy, Sem.run_bind, hrun, Result.andThen_ok, Sem.run_pure]
    exact hK _ _ h
theorem make71 (k : Nat) (hk : k ≤ 2000) (w : World) :
    (Instr.makeSlice 108 (.int .i64 (k : Int)) (.int .i64 (k : Int))).run Tryz.prog w = .ok (.slice (some ⟨w.heap.size, 0, none⟩) k k) (w.alloc (.cells ((List.replicate (k * 64) (0 : UInt8)).map B8).toArray 128)) := by
  obtain ⟨i0, hi, hz0, hz1, hz2⟩ := info_parts Tryz.info71
  have := run_make (P := Tryz.prog) w 108 128 i0 (ag zs64) Tryz.underlying108 hi hz0 .i64 .i64 (k : Int) (k : Int) (by omega) (by omega) (by rw [hz2]; omega) (by omega)
  rw [this, hz1]
  have hc : (ag zs64).cells = (zs64.map B8).toArray := rfl
  rw [hc, made_zeros]
  simp

/-- A disk as New makes it. -/
def fresh (n : Nat) : DSt := ⟨List.replicate (n * 64) 0, [], -1, false, 0⟩
def nOf (i : Int) : Nat := min i.toNat 2000
def Made (w : World) (D : DSt) (e : Ending) (w' : World) : Prop := ∃ p, e = .returned (.pointer (some ⟨p, 0, none⟩)) ∧ Dk w' (fun k => w.heap.size ≤ k) p D ∧ Keeps (fun _ => False) w w'

theorem made_of (w : World) (n : Nat) (hn : n ≤ 2000) (w' : World)
    (h : w' = ((w.alloc (.cells ((List.replicate (n * 64) (0 : UInt8)).map B8).toArray 128)).alloc (.map #[] 0)).alloc (.cells #[.slice (some ⟨w.heap.size, 0, none⟩) n n, .slice none 0 0, .map (some (w.heap.size + 1)), .int .i64 (-1), .bool false, .int .i64 0] 114)) :
    Made w (fresh n) (.returned (.pointer (some ⟨w.heap.size + 2, 0, none⟩))) w' := by
  subst h
  refine ⟨w.heap.size + 2, rfl, ⟨w.heap.size, w.heap.size + 1, n, .slice none 0 0, ⟨⟨by simp [fresh, Nat.mul_comm], hn, fun q hq => (by cases hq), by simp [fresh], by simp [fresh]⟩, ?_, ?_, World.ownsRow_nil _ _ _ _, ?_⟩, ?_, ?_, ?_, fun g hg => (by cases hg)⟩, ?_⟩
  · have e : ((w.alloc (.cells ((List.replicate (n * 64) (0 : UInt8)).map B8).toArray 128)).alloc (.map #[] 0)).heap.size = w.heap.size + 2 := by simp
    rw [← e]
    exact heap_alloc_last _ _
  · exact (Below.heap_alloc _ _ _ (by simp; omega)).trans ((Below.heap_alloc _ _ _ (by simp)).trans (heap_alloc_last w _))
  · have hm := MapIs.made (w.alloc (.cells ((List.replicate (n * 64) (0 : UInt8)).map B8).toArray 128))
    have e : (w.alloc (.cells ((List.replicate (n * 64) (0 : UInt8)).map B8).toArray 128)).heap.size = w.heap.size + 1 := by simp
    rw [e] at hm
    exact hm.keep (Below.heap_alloc _ _ _ (by simp))
  · show w.heap.size ≤ w.heap.size + 2; omega
  · exact Nat.le_refl _
  · show w.heap.size ≤ w.heap.size + 1; omega
  · exact ((Keeps.alloc _ _ _).trans (Keeps.alloc _ _ _)).trans (Keeps.alloc _ _ _)

set_option maxRecDepth 100000 in
set_option maxHeartbeats 400000 in
theorem new_any (i : Int) (w : World) : Calls Tryz.prog 14 #[.int .i64 i] w (Made w (fresh (nOf i))) := by
  have hmm := @run_makeMap Tryz.prog
  by_cases h1 : i < 0
  · have e : nOf i = 0 := by unfold nOf; omega
    rw [e]
    have hf := made_of w 0 (by omega) _ rfl
    have HF := Lib.hid hf
    have hmk : ∀ w : World, (Instr.makeSlice 108 (.int .i64 0) (.int .i64 0)).run Tryz.prog w = .ok (.slice (some ⟨w.heap.size, 0, none⟩) 0 0) (w.alloc (.cells ((List.replicate (0 * 64) (0 : UInt8)).map B8).toArray 128)) := make71 0 (by omega)
    have MK := Lib.hid hmk
    clear e hf hmk
    generalize (List.replicate (0 * 64) (0 : UInt8)).map B8 = zz at *
    go_enter Tryz.func14, Tryz.ntmps14
    go_wp2_with (((with_reducible refine here (op := .makeSlice 108 (.tmp 7) (.tmp 7)) ?_); refine wpList_make_run rfl 108 _ _ rfl _ _ _ rfl rfl (MK.out _) ?_))
    go_ret
    exact HF.out
  · by_cases h2 : 2000 < i
    · have e : nOf i = 2000 := by unfold nOf; omega
      rw [e]
      have hf := made_of w 2000 (by omega) _ rfl
      have HF := Lib.hid hf
      have hmk : ∀ w : World, (Instr.makeSlice 108 (.int .i64 2000) (.int .i64 2000)).run Tryz.prog w = .ok (.slice (some ⟨w.heap.size, 0, none⟩) 2000 2000) (w.alloc (.cells ((List.replicate (2000 * 64) (0 : UInt8)).map B8).toArray 128)) := make71 2000 (by omega)
      have MK := Lib.hid hmk
      clear e hf hmk
      generalize (List.replicate (2000 * 64) (0 : UInt8)).map B8 = zz at *
      go_enter Tryz.func14, Tryz.ntmps14
      go_wp2_with (((with_reducible refine here (op := .makeSlice 108 (.tmp 7) (.tmp 7)) ?_); refine wpList_make_run rfl 108 _ _ rfl _ _ _ rfl rfl (MK.out _) ?_))
      go_ret
      exact HF.out

    · obtain ⟨k, rfl⟩ := Int.eq_ofNat_of_zero_le (show 0 ≤ i by omega)
      have e : nOf (k : Int) = k := by unfold nOf; omega
      rw [e]
      have hf := made_of w k (by omega) _ rfl
      have HF := Lib.hid hf
      have hmk : ∀ w : World, (Instr.makeSlice 108 (.int .i64 (k : Int)) (.int .i64 (k : Int))).run Tryz.prog w = .ok (.slice (some ⟨w.heap.size, 0, none⟩) k k) (w.alloc (.cells ((List.replicate (k * 64) (0 : UInt8)).map B8).toArray 128)) := make71 k (by omega)
      have MK := Lib.hid hmk
      clear e hf hmk
      generalize (List.replicate (k * 64) (0 : UInt8)).map B8 = zz at *
      go_enter Tryz.func14, Tryz.ntmps14
      go_wp2_with (((with_reducible refine here (op := .makeSlice 108 (.tmp 7) (.tmp 7)) ?_); refine wpList_make_run rfl 108 _ _ rfl _ _ _ rfl rfl (MK.out _) ?_))
      go_ret
      exact HF.out

end Go.Proofs.YtebecpjecchfoaaGreatDoor
