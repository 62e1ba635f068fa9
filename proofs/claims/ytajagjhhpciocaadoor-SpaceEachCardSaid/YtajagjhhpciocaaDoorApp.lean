/-
  'append' of any bytes to none: a row of the call's own.
-/
import Derived.Test.YtajagjhhpciocaaDoorCopy
import Derived.Maps.AppendAt
import Derived.Laws.OwnMore
import Derived.Deep.AppendLies
namespace Go.Proofs.YtajagjhhpciocaaDoor
open Go.RowKit

/-- The slice is the call's own (from block B on), its bytes are 'zs'. -/
def Own8 (w : World) (B : Nat) (t : TypeId) (R : Option Addr) (cap : Nat) (zs : List UInt8) : Prop := w.ownsRow B t 1 (.slice R zs.length cap) zs.length (zs.map B8)

theorem Own8.at_ {w : World} {B : Nat} {t : TypeId} {R : Option Addr} {cap : Nat} {zs : List UInt8} (h : Own8 w B t R cap zs) {k : Nat} (hk : k < zs.length) :
    ∃ g, R = some ⟨g, 0, none⟩ ∧ B ≤ g ∧ g < w.heap.size ∧ w.cell? ⟨g, k, none⟩ = some (B8 (zs.getD k 0)) ∧ w.frozen? ⟨g, k, none⟩ = false := by
  obtain ⟨g, c, hv, hb, hlt⟩ := World.ownsRow.form h (by omega)
  injection hv with e1 _ e3
  subst e1 e3
  have h1 := World.ownsRow.cellAt h k (by omega)
  exact ⟨g, rfl, hb, hlt, by rw [h1]; simp [List.getD_eq_getElem?_getD, hk], World.ownsRow.frozenAt h k⟩
theorem Own8.set_ {w : World} {B : Nat} {t : TypeId} {g : Nat} {cap : Nat} {zs : List UInt8} (h : Own8 w B t (some ⟨g, 0, none⟩) cap zs) (k : Nat) (u : UInt8) : Own8 (w.setCell ⟨g, k, none⟩ (B8 u)) B t (some ⟨g, 0, none⟩) cap (zs.set k u) := by
  have h1 := World.ownsRow.stored h k (B8 u)
  unfold Own8
  rw [List.length_set, List.map_set]
  exact h1.1
theorem Own8.br {w : World} {B : Nat} {t : TypeId} {R : Option Addr} {cap : Nat} {zs : List UInt8} (h : Own8 w B t R cap zs) : BR w w.heap.size R zs := by
  intro hn
  have h0 : 0 < zs.length := List.length_pos_iff.2 hn
  obtain ⟨g, rfl, _, hlt, _, _⟩ := h.at_ h0
  refine ⟨_, rfl, hlt, fun k u hu => ?_⟩
  exact World.ownsRow.cells h (g := g) rfl k (B8 u) (by simp [hu])

theorem run_append8 {P : Program} (w : World) (t ty e : TypeId) (hi : (P.info? e).map (fun i => (i.zero, i.size, i.bytes)) = some (some (.int .u8 0), 1, 1)) (ht : P.underlying t = some (.slice e))
    (A : Option Addr) (xs : List UInt8) (c : Nat) (hx : BR w w.heap.size A xs) (hl : xs.length ≤ 1000000) :
    ∃ R cap w', (Builtin.append_ #[t, t] ty #[.slice none 0 0, .slice A xs.length c]).run P w = .ok (.slice R xs.length cap) w' ∧ Own8 w' w.heap.size e R cap xs ∧ Below w.heap.size w w' := by
  obtain ⟨i0, hi, hz0, hz1, hz2⟩ := info_parts hi
  have hnil := World.ownsRow_nil w w.heap.size e 1
  by_cases hn : xs = []
  · subst hn
    rcases A with _ | ad
    · refine ⟨none, 0, w, ?_, hnil, Below.refl _ _⟩
      simp [Builtin.append_, run_underlying ht, sizeOf, typeInfo, hi, Builtin.lenOf, Builtin.firstCells]
    · obtain ⟨v, w', hrun, hown, hg, hv, _⟩ := run_append_own_at (P := P) w w.heap.size t ty e i0 (.int .u8 0) 1 1 ht hi hz0 hz1 hz2 rfl (by decide) (.slice none 0 0) 0 [] hnil ad 0 c [] rfl (by simp) (by simp) (by simp [maxLen]) (by omega) (Nat.le_refl _)
      obtain rfl := hv.2 ⟨rfl, rfl⟩
      exact ⟨none, 0, w', hrun, hown, ⟨hg.os, hg.tape, hg.output, hg.size, fun k hk => hg.block k hk (by simp [Value.ownBlock])⟩⟩
  · obtain ⟨ad, rfl, _, hc⟩ := hx hn
    obtain ⟨v, w', hrun, hown, hg, _, _⟩ := run_append_own_at (P := P) w w.heap.size t ty e i0 (.int .u8 0) 1 1 ht hi hz0 hz1 hz2 rfl (by decide) (.slice none 0 0) 0 [] hnil ad xs.length c (xs.map B8) (by simp) (fun j v hj => by
      simp only [List.getElem?_map, Option.map_eq_some_iff] at hj
      obtain ⟨u, hu, rfl⟩ := hj
      exact hc j u hu) (by
      intro v hv
      simp only [List.mem_map] at hv
      obtain ⟨u, _, rfl⟩ := hv
      rfl) (by simp [maxLen]; omega) (by omega) (Nat.le_refl _)
    have h0 : 0 < xs.length := List.length_pos_iff.2 hn
    simp only [Nat.zero_add, List.nil_append] at hown
    obtain ⟨g, cap, rfl, _, _⟩ := World.ownsRow.form hown (by omega)
    exact ⟨_, cap, w', hrun, hown, ⟨hg.os, hg.tape, hg.output, hg.size, fun k hk => hg.block k hk (by simp [Value.ownBlock])⟩⟩

/-- The builtin append at its place in a walk, its run being known. -/
theorem wpList_append_run {P : Program} {w w' : World} {ops : Array Oper} {rest : List Oper} {o : Oper} {a : Act} {Q : Exit → Act → World → Prop} (hgd : o.guard = none) (s x : Operand) (t : TypeId)
    (ho : o.op = .call { callee := .builtin .append, args := #[s, x], argTypes := #[t, t] }) (v : Value)
    (hrun : (Builtin.append_ #[t, t] o.type #[a.eval s, a.eval x]).run P w = .ok v w') (h : wpList P ops Q rest (a.put o.dst v) w') : wpList P ops Q (o :: rest) a w :=
  wpList_plain hgd fun _ hK => by
    unfold Oper.wp execOp
    simp only [ho, resolve, invoke, builtin, Sem.run_bind, Sem.run_pure, Result.andThen_ok, List.map_toArray, List.map_cons, List.map_nil, hrun]
    exact hK _ _ h

/-- 'copy' into a row that append made. -/
theorem run_copy_own8 {P : Program} (w : World) (dT sT ty elem t : TypeId) (hu : P.underlying dT = some (.slice elem)) (hsz : (P.info? elem).map (·.size) = some 1)
    (B0 off dLen dCap : Nat) (R D : Option Addr) (cap : Nat) (zs ys : List UInt8) (A : Option Addr) (c B : Nat) (hD : ys ≠ [] → ∀ g, R = some ⟨g, 0, none⟩ → D = some ⟨g, off, none⟩) (hr : Own8 w B0 t R cap zs) (hy : BR w B A ys) (hle : ys.length ≤ dLen) (hfit : off + ys.length ≤ zs.length) :
    ∃ w', (Builtin.copy_ #[dT, sT] ty #[.slice D dLen dCap, .slice A ys.length c]).run P w = .ok (.int .i64 (ys.length : Int)) w' ∧ Own8 w' B0 t R cap (splice zs off ys) ∧ Below B0 w w' := by
  by_cases hn : ys = []
  · subst hn
    exact ⟨w, run_copy_none w dT sT ty elem D A dLen dCap 0 c hu hsz (by simp), by simpa [splice] using hr, Below.refl _ _⟩
  · have hpos : 0 < ys.length := List.length_pos_iff.2 hn
    obtain ⟨ad, rfl, _, hc⟩ := hy hn
    obtain ⟨hlen, ⟨_, h0⟩ | ⟨g, cap', cur, hv, hB, hg, hnc, hcm, hcs, htk⟩⟩ := hr
    · omega
    · injection hv with e1 _ e3
      subst e1 e3
      obtain rfl := hD hn g rfl
      have hfit' : off + (ys.map B8).length ≤ cur.size := by rw [List.length_map, hcs]; omega
      have hrun := run_copy_row (P := P) w dT sT ty elem g off dLen dCap ad ys.length c cur t (ys.map B8) hu hsz hg (by rw [List.length_map]; exact (Nat.min_eq_left hle).symm) (fun j v hj => by
        simp only [List.getElem?_map, Option.map_eq_some_iff] at hj
        obtain ⟨u, hu, rfl⟩ := hj
        exact hc j u hu) hfit' (by
        intro v hv
        simp only [List.mem_map] at hv
        obtain ⟨u, _, rfl⟩ := hv
        rfl)
      rw [List.length_map] at hrun hfit'
      refine ⟨_, hrun, ?_, ⟨rfl, rfl, rfl, by simp, fun k hk => setRow_other w g k _ (by omega)⟩⟩
      have hls : (splice zs off ys).length = zs.length := length_splice zs off ys hfit
      have hsplit : cur.toList = zs.map B8 ++ cur.toList.drop zs.length := by
        rw [Nat.mul_one] at htk
        rw [← htk, List.take_append_drop]
      have hsplice : ((cur.toList.take off ++ ys.map B8 ++ cur.toList.drop (off + ys.length)).take zs.length) = (splice zs off ys).map B8 := by
        rw [hsplit]
        generalize cur.toList.drop zs.length = tl
        have e1 : (zs.map B8 ++ tl).take off = (zs.take off).map B8 := by rw [List.take_append_of_le_length (by simp; omega), List.map_take]
        have e2 : (zs.map B8 ++ tl).drop (off + ys.length) = (zs.drop (off + ys.length)).map B8 ++ tl := by rw [List.drop_append_of_le_length (by simp; omega), List.map_drop]
        rw [e1, e2, ← List.append_assoc, List.take_append_of_le_length (by simp; omega), List.take_of_length_le (by simp; omega)]
        simp [splice]
      unfold Own8
      rw [hls]
      refine ⟨by simp [hls], .inr ⟨g, cap, _, rfl, hB, setRow_heap w g _ _ t _ hg, hnc, hcm, ?_, ?_⟩⟩
      · simp
        omega
      · rw [Nat.mul_one]
        exact hsplice
theorem Own8.cap_le {w : World} {B : Nat} {t : TypeId} {R : Option Addr} {cap : Nat} {zs : List UInt8} (h : Own8 w B t R cap zs) : zs.length ≤ cap := by
  obtain ⟨_, ⟨_, h0⟩ | ⟨g, cap', cur, hv, _, _, hnc, _⟩⟩ := h
  · omega
  · injection hv with _ _ e3
    omega
theorem add_at (g k : Nat) : Option.map (fun x : Addr => x.add k) (some ⟨g, 0, none⟩) = some ⟨g, k, none⟩ := by
  have e : (⟨g, 0, none⟩ : Addr).add k = ⟨g, k, none⟩ := by unfold Addr.add; split <;> simp_all
  simp [e]
end Go.Proofs.YtajagjhhpciocaaDoor
