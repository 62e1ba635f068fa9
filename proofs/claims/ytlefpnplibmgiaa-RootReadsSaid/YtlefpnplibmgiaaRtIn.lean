/-
  A root that came in, read; bytes that came in have room for themselves.
-/
import Derived.Test.YtlefpnplibmgiaaFrame
import Derived.Test.YtlefpnplibmgiaaRt
import Derived.ChangeArms
import Derived.Deep.Slices
namespace Go.Proofs.Ytlefpnplibmgiaa
open Go.ChangeShapes Go.WideShapes Go.ChangeAt Go.RowKit

theorem Try.cells25 : Try.prog.cellsOf 25 = 2 := by kernel_rfl
theorem Try.cells50 : Try.prog.cellsOf 50 = 2 := by kernel_rfl

structure RootOk (W : World) (g : Nat) (A : Option Addr) (l : List Sn) : Prop where
  sr : SR W W.heap.size A l
  hg : g < 2 ^ 64
  hs : ∀ s ∈ l, s.g < 2 ^ 64
  len : l.length ≤ 9223372036854775807

variable {H : Type} {enc : TypeId × Value → H} {W : World}

theorem snap_cells {fuel : Nat} {cs : List Value} {x : DataW H × List MemPlace} (h : DataW.trod enc Try.prog W 0 (fun _ => true) true fuel 50 cs = some x) : ∃ s : Sn, cs = [.int .u64 (s.g : Int), .int .i64 s.t] ∧ s.g < 2 ^ 64 := by
  obtain ⟨xs, n, _, _, hl, hlen, hg⟩ := DataW.trod_struct Try.underlying50 h
  rw [Try.cells50] at hl
  match cs, hl with
  | [c0, c1], _ =>
    match xs, hlen with
    | [y0, y1], _ =>
      have g0 := hg 0 _ rfl
      have g1 := hg 1 _ rfl
      obtain ⟨a0, e0, _, w0⟩ := DataW.trod_int Try.underlying22 g0
      obtain ⟨a1, e1, _, _⟩ := DataW.trod_int Try.underlying3 g1
      cases e0; cases e1
      have hw := u64_of_wf w0
      obtain ⟨m, rfl⟩ := Int.eq_ofNat_of_zero_le hw.1
      exact ⟨⟨m, a1⟩, rfl, by have := hw.2; show m < _; omega⟩
theorem snaps_of {fuel : Nat} {c : Value} {x : DataW H × List MemPlace} (h : DataW.trod enc Try.prog W 0 (fun _ => true) true fuel 23 [c] = some x) :
    ∃ A l cap, c = .slice A (l : List Sn).length cap ∧ SR W W.heap.size A l ∧ (∀ s ∈ l, s.g < 2 ^ 64) ∧ l.length ≤ 9223372036854775807 := by
  rcases Go.Deep.open_slice Try.underlying23 h with ⟨e, _⟩ | ⟨a, len, cap, m, n, D, Pl, e, _, hlc, hcm, hm, _, hi⟩
  · cases e
    exact ⟨none, [], 0, rfl, SR.nil, (fun s hs => by cases hs), by simp⟩
  · cases e
    rw [if_pos rfl] at hm
    subst hm
    have hf : ∀ i, ∃ s : Sn, i < len → (W.cell? (a.add (i * 2)) = some (.int .u64 (s.g : Int)) ∧ W.cell? ((a.add (i * 2)).add 1) = some (.int .i64 s.t)) ∧ s.g < 2 ^ 64 := by
      intro i
      by_cases hl : i < len
      · obtain ⟨cs', hc, ht⟩ := hi i (by omega)
        rw [Try.cells50] at hc
        obtain ⟨s, rfl, hs⟩ := snap_cells ht
        obtain ⟨_, _, hat⟩ := World.cells?_some hc
        refine ⟨s, fun _ => ⟨⟨?_, ?_⟩, hs⟩⟩
        · have := hat 0 (by omega)
          rw [Go.Deep.add_add, Nat.add_zero] at this
          exact this
        · exact hat 1 (by omega)
      · exact ⟨sn0, fun h => absurd h hl⟩
    obtain ⟨f, hf⟩ := Classical.skolem.1 hf
    refine ⟨some a, (List.range len).map f, m, by simp, ?_, ?_, by simp; unfold maxLen at hcm; omega⟩
    · intro hne
      have h0 : 0 < len := by
        rcases Nat.eq_zero_or_pos len with e | e
        · subst e; simp at hne
        · exact e
      refine ⟨a, rfl, ?_, fun k s hs => ?_⟩
      · have := World.block_lt_of_cell? _ _ ((hf 0 h0).1.1)
        rwa [block_add] at this
      · have hk : k < len ∧ f k = s := by
          simp only [List.getElem?_map, Option.map_eq_some_iff] at hs
          obtain ⟨j, hj, rfl⟩ := hs
          obtain ⟨h1, h2⟩ := List.getElem?_eq_some_iff.1 hj
          simp at h1 h2
          exact ⟨h1, by rw [h2]⟩
        obtain ⟨hk, rfl⟩ := hk
        exact (hf k hk).1
    · intro s hs
      simp only [List.mem_map, List.mem_range] at hs
      obtain ⟨i, hi', rfl⟩ := hs
      exact (hf i hi').2
theorem root_in {r : Reach} {b0 : Nat} {v : Value} {d : DataW H} {p : List MemPlace} (hv : Value.okWide Try.prog W r b0 25 v) (h : DataW.Trod enc Try.prog W 0 (fun _ => true) true 25 v d p) :
    ∃ (g : Nat) (A : Option Addr) (l : List Sn) (c : Nat), v = agR g A l.length c ∧ RootOk W g A l := by
  obtain ⟨cs, rfl, hsz⟩ := okWide_struct Try.underlying25 hv
  obtain ⟨fuel, hf⟩ := h
  obtain ⟨xs, n, _, _, hl, hlen, hg⟩ := DataW.trod_struct Try.underlying25 hf
  rw [Try.cells25] at hl
  have hcs : (Value.agg cs).cells = cs := rfl
  rw [hcs] at hl hg
  obtain ⟨cl⟩ := cs
  match cl, hl with
  | [c0, c1], _ =>
    match xs, hlen with
    | [y0, y1], _ =>
      have g0 := hg 0 _ rfl
      have g1 := hg 1 _ rfl
      obtain ⟨a0, e0, _, w0⟩ := DataW.trod_int Try.underlying22 g0
      obtain ⟨A, l, cap, rfl, hs, hgs, hll⟩ := snaps_of g1
      cases e0
      have hw := u64_of_wf w0
      obtain ⟨m, rfl⟩ := Int.eq_ofNat_of_zero_le hw.1
      exact ⟨m, A, l, cap, rfl, hs, by have := hw.2; omega, hgs, hll⟩
theorem bytes_cap {a : Option Addr} {len cap : Nat} {d : DataW H} {p : List MemPlace} (h : DataW.Trod enc Try.prog W 0 (fun _ => true) true 27 (.slice a len cap) d p) : len ≤ cap := by
  obtain ⟨fuel, hf⟩ := h
  rcases DataW.trod_slice Try.underlying27 hf with ⟨e, _⟩ | ⟨a', len', cap', _, _, _, _, e, _, _, hl, _⟩
  · simp [Value.cells] at e
    omega
  · simp [Value.cells] at e
    omega
end Go.Proofs.Ytlefpnplibmgiaa
