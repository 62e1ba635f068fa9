/-
  A list of Acts that came in, read.
-/
import Derived.Test.YthbdhmjmboliiaaFew
namespace Go.Proofs.Ythbdhmjmboliiaa
open Go.ChangeShapes Go.WideShapes Go.ChangeAt Go.RowKit

structure ActsOk (W : World) (A : Option Addr) (l : List ActV) : Prop where
  ar : AR W W.heap.size A l
  ok : ∀ a ∈ l, a.Ok W
theorem Try.bytes35 : Try.prog.bytesOf 35 = 72 := by kernel_rfl

variable {H : Type} {enc : TypeId × Value → H} {W : World}

theorem acts_in {a : Option Addr} {len cap : Nat} {d : DataW H} {p : List MemPlace} (h : DataW.Trod enc Try.prog W 0 (fun _ => true) true 22 (.slice a len cap) d p) :
    ∃ l : List ActV, l.length = len ∧ ActsOk W a l ∧ ∀ (ts : List TypeId) (ds : List (DataW H)) (j : Nat), (DataW.weightsEach Try.prog ts ds).all (· ≤ reachBytes) = true → ts[j]? = some 22 → ds[j]? = some d → len ≤ 1954687338211 := by
  obtain ⟨fuel, hf⟩ := h
  rcases Go.Deep.open_slice Try.underlying22 hf with ⟨e, _⟩ | ⟨ad, len', cap', m, n, D, Pl, e, _, hlc, hcm, hm, hx, hi⟩
  · simp [Value.cells] at e
    obtain ⟨rfl, rfl, rfl⟩ := e
    exact ⟨[], rfl, ⟨AR.nil, (fun a ha => by cases ha)⟩, fun _ _ _ _ _ _ => by omega⟩
  · simp [Value.cells] at e
    obtain ⟨rfl, rfl, rfl⟩ := e
    rw [if_pos rfl] at hm
    subst hm
    have hf : ∀ i, ∃ x : ActV, i < len → (∀ j v, (acells x)[j]? = some v → W.cell? ((ad.add (i * 7)).add j) = some v) ∧ x.Ok W := by
      intro i
      by_cases hl : i < len
      · obtain ⟨cs', hc, ht⟩ := hi i (by omega)
        rw [Try.cells35] at hc
        obtain ⟨x, rfl, hx⟩ := act_cells ht
        obtain ⟨_, _, hat⟩ := World.cells?_some hc
        refine ⟨x, fun _ => ⟨fun j v hv => ?_, hx⟩⟩
        have hj : j < 7 := by
          have := (List.getElem?_eq_some_iff.1 hv).1
          simpa [acells] using this
        exact (hat j hj).trans hv
      · exact ⟨⟨0, 0, none, [], 0, ⟨0, 0, 0, false⟩⟩, fun h => absurd h hl⟩
    obtain ⟨f, hf⟩ := Classical.skolem.1 hf
    refine ⟨(List.range len).map f, by simp, ⟨?_, ?_⟩, ?_⟩
    · intro hne
      have h0 : 0 < len := by
        rcases Nat.eq_zero_or_pos len with e | e
        · subst e; simp at hne
        · exact e
      refine ⟨ad, rfl, ?_, fun k x hx => ?_⟩
      · have := World.block_lt_of_cell? _ _ ((hf 0 h0).1 0 _ rfl)
        rwa [block_add, block_add] at this
      · have hk : k < len ∧ f k = x := by
          simp only [List.getElem?_map, Option.map_eq_some_iff] at hx
          obtain ⟨j, hj, rfl⟩ := hx
          obtain ⟨h1, h2⟩ := List.getElem?_eq_some_iff.1 hj
          simp at h1 h2
          exact ⟨h1, by rw [h2]⟩
        obtain ⟨hk, rfl⟩ := hk
        exact (hf k hk).1
    · intro x hx
      simp only [List.mem_map, List.mem_range] at hx
      obtain ⟨i, hi', rfl⟩ := hx
      exact (hf i hi').2
    · intro ts ds j hs ht hd
      simp only [Prod.mk.injEq] at hx
      rw [hx.1] at hd
      have := sized_slice hs ht hd Try.underlying22
      rw [Try.bytes35] at this
      simp only [List.length_map, List.length_range, reachBytes] at this
      omega
theorem bytes_cap {a : Option Addr} {len cap : Nat} {d : DataW H} {p : List MemPlace} (h : DataW.Trod enc Try.prog W 0 (fun _ => true) true 30 (.slice a len cap) d p) : len ≤ cap := by
  obtain ⟨fuel, hf⟩ := h
  rcases DataW.trod_slice Try.underlying30 hf with ⟨e, _⟩ | ⟨a', len', cap', _, _, _, _, e, _, _, hl, _⟩
  · simp [Value.cells] at e
    omega
  · simp [Value.cells] at e
    omega
end Go.Proofs.Ythbdhmjmboliiaa
