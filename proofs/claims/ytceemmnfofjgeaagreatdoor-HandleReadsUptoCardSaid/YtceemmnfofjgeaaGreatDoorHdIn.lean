/-
  HdIn
-/
import Derived.Test.YtceemmnfofjgeaaGreatDoorGA
import Derived.Deep.Slices
namespace Go.Proofs.YtceemmnfofjgeaaGreatDoor.Hd
open Go.ChangeShapes Go.WideShapes Go.ChangeAt Go.RowKit
set_option linter.unusedVariables false
set_option linter.unusedSimpArgs false

/-- Bytes in a row of them. -/
structure Pt where
  A : Option Addr
  xs : List UInt8
  c : Nat
def ptV (x : Pt) : Value := .slice x.A x.xs.length x.c
/-- How many bytes and rows. -/
def ptSum : List Pt → Nat
  | [] => 0
  | x :: t => x.xs.length + 1 + ptSum t
/-- All bytes, one row behind the other. -/
def ptAll : List Pt → List UInt8
  | [] => []
  | x :: t => x.xs ++ ptAll t
theorem ptSum_append : ∀ (a b : List Pt), ptSum (a ++ b) = ptSum a + ptSum b
  | [], b => by simp [ptSum]
  | x :: t, b => by simp only [List.cons_append, ptSum, ptSum_append t b]; omega
theorem ptAll_append : ∀ (a b : List Pt), ptAll (a ++ b) = ptAll a ++ ptAll b
  | [], b => rfl
  | x :: t, b => by simp only [List.cons_append, ptAll, ptAll_append t b, List.append_assoc]
theorem ptAll_len : ∀ l : List Pt, (ptAll l).length + l.length = ptSum l
  | [] => rfl
  | x :: t => by simp only [ptAll, ptSum, List.length_append, List.length_cons]; have := ptAll_len t; omega
def PtR (w : World) (B : Nat) (A : Option Addr) (l : List Pt) : Prop :=
  l ≠ [] → ∃ ad, A = some ad ∧ ad.block < B ∧ ∀ k x, l[k]? = some x → w.cell? (ad.add k) = some (ptV x)
theorem PtR.at_ {w : World} {B : Nat} {A : Option Addr} {l : List Pt} (h : PtR w B A l) {k : Nat} (hk : k < l.length) : ∃ ad, A = some ad ∧ ad.block < B ∧ w.cell? (ad.add k) = some (.slice l[k].A l[k].xs.length l[k].c) := by
  obtain ⟨ad, e, hb, hc⟩ := h (by intro e; subst e; simp at hk)
  exact ⟨ad, e, hb, hc k l[k] (List.getElem?_eq_getElem hk)⟩
theorem PtR.below {w w' : World} {B : Nat} {A : Option Addr} {l : List Pt} (h : PtR w B A l) (hb : Below B w w') : PtR w' B A l := by
  intro hn
  obtain ⟨ad, e, hlt, hc⟩ := h hn
  exact ⟨ad, e, hlt, fun k x hx => (hb.cell (by rw [block_add]; exact hlt)).trans (hc k x hx)⟩
structure PtsOk (W : World) (A : Option Addr) (l : List Pt) : Prop where
  ar : PtR W W.heap.size A l
  ok : ∀ x ∈ l, BR W W.heap.size x.A x.xs ∧ x.xs.length ≤ x.c

theorem bulk_one {H : Type} (d : DataW H) : 1 ≤ Rows.uptoBulk d := by
  cases d with
  | lit l => cases l <;> simp [Rows.uptoBulk]
  | nil => simp [Rows.uptoBulk]
  | ptr d => simp [Rows.uptoBulk]
  | slice elems spare => simp [Rows.uptoBulk]
  | agg parts => simp [Rows.uptoBulk]
  | iface t d => simp [Rows.uptoBulk]
  | map entries => simp [Rows.uptoBulk]
  | held h => simp [Rows.uptoBulk]
theorem bulk_len {H : Type} : ∀ l : List (DataW H), l.length ≤ Rows.uptoBulkAll l
  | [] => by simp
  | x :: r => by have := bulk_one x; have := bulk_len r; simp only [Rows.uptoBulkAll, List.length_cons]; omega
theorem bulk_each {H : Type} {α : Type} (f : α → Pt) (D : α → DataW H) : ∀ l : List α, (∀ i ∈ l, (f i).xs.length + 1 ≤ Rows.uptoBulk (D i)) → ptSum (l.map f) ≤ Rows.uptoBulkAll (l.map D)
  | [], _ => by simp [ptSum, Rows.uptoBulkAll]
  | x :: r, h => by
    have h1 := h x (by simp)
    have h2 := bulk_each f D r fun i hi => h i (by simp [hi])
    simp only [List.map_cons, ptSum, Rows.uptoBulkAll]
    omega
variable {H : Type} {enc : TypeId × Value → H} {W : World}
set_option maxRecDepth 100000 in
theorem bytes_bulk {fuel : Nat} {c : Value} {x : DataW H × List MemPlace} (h : DataW.trod enc Tryz.prog W 0 (fun _ => true) true fuel 31 [c] = some x) :
    ∃ p : Pt, c = ptV p ∧ p.xs.length ≤ p.c ∧ BR W W.heap.size p.A p.xs ∧ p.xs.length + 1 ≤ Rows.uptoBulk x.1 := by
  rcases open_ints Tryz.underlying31 Tryz.underlying5 Tryz.cells8 h with ⟨hcs, hx⟩ | ⟨a, l, cp, zs, hcs, _, hl, _, hz, hx, hcell, hwz⟩
  · cases hcs
    exact ⟨⟨none, [], 0⟩, rfl, Nat.le_refl _, BR.nil, by have := bulk_one x.1; simpa using this⟩
  · cases hcs
    obtain ⟨xs, hxl, hb, _⟩ := bytes_in (H := H) (enc := enc) (W := W) (a := some a) (cap := cp) (d := x.1) (p := x.2) ⟨fuel, h⟩
    subst hxl
    refine ⟨⟨some a, xs, cp⟩, rfl, hl, hb, ?_⟩
    simp only [if_true] at hz
    rw [hx]
    simp only [Rows.uptoBulk]
    have := bulk_len (H := H) (lits .u8 (zs.take xs.length))
    have e : (lits (H := H) .u8 (zs.take xs.length)).length = xs.length := by
      simp [lits]
      omega
    show xs.length + 1 ≤ _
    omega
theorem parts_in {a : Option Addr} {len cap : Nat} {d : DataW H} {p : List MemPlace} (h : DataW.Trod enc Tryz.prog W 0 (fun _ => true) true 48 (.slice a len cap) d p) :
    ∃ l : List Pt, l.length = len ∧ PtsOk W a l ∧ ptSum l ≤ Rows.uptoBulk d := by
  obtain ⟨fuel, hf⟩ := h
  rcases Go.Deep.open_slice1 Tryz.underlying48 (by kernel_rfl) hf with ⟨e, _⟩ | ⟨ad, len', cap', m, n, V, D, Pl, e, _, hlc, hcm, hm, hx, hi⟩
  · simp [Value.cells] at e
    obtain ⟨rfl, rfl, rfl⟩ := e
    exact ⟨[], rfl, ⟨fun h => absurd rfl h, fun x hx => by cases hx⟩, by simp [ptSum]⟩
  · simp [Value.cells] at e
    obtain ⟨rfl, rfl, rfl⟩ := e
    rw [if_pos rfl] at hm
    subst hm
    have hf : ∀ i, ∃ x : Pt, i < len → V i = ptV x ∧ x.xs.length ≤ x.c ∧ BR W W.heap.size x.A x.xs ∧ x.xs.length + 1 ≤ Rows.uptoBulk (D i) := by
      intro i
      by_cases hl : i < len
      · obtain ⟨_, ht⟩ := hi i (by omega)
        obtain ⟨x, h1, h2, h3, h4⟩ := bytes_bulk ht
        exact ⟨x, fun _ => ⟨h1, h2, h3, h4⟩⟩
      · exact ⟨⟨none, [], 0⟩, fun h => absurd h hl⟩
    obtain ⟨f, hf⟩ := Classical.skolem.1 hf
    have hxd := congrArg Prod.fst hx
    simp only at hxd
    refine ⟨(List.range len).map f, by simp, ⟨?_, ?_⟩, ?_⟩
    · intro hne
      have h0 : 0 < len := by
        rcases Nat.eq_zero_or_pos len with e | e
        · subst e; simp at hne
        · exact e
      refine ⟨ad, rfl, ?_, fun k x hx => ?_⟩
      · have := World.block_lt_of_cell? _ _ (hi 0 (by omega)).1
        rwa [block_add] at this
      · rw [List.getElem?_map, Option.map_eq_some_iff] at hx
        obtain ⟨i, hr, rfl⟩ := hx
        obtain ⟨hk, rfl⟩ := List.getElem?_eq_some_iff.1 hr
        rw [List.length_range] at hk
        rw [List.getElem_range, (hi k (by omega)).1, (hf k hk).1]
    · intro x hx
      obtain ⟨i, hr, rfl⟩ := List.mem_map.1 hx
      have := hf i (List.mem_range.1 hr)
      exact ⟨this.2.2.1, this.2.1⟩
    · rw [hxd]
      simp only [Rows.uptoBulk]
      have := bulk_each f D (List.range len) fun i hr => (hf i (List.mem_range.1 hr)).2.2.2
      omega
end Go.Proofs.YtceemmnfofjgeaaGreatDoor.Hd
