/-
  A list of Acts that came in, read.
-/
import Derived.Test.YtajagjhhpciocaaDoorSpAlike
import Derived.ProofKit
import Derived.OpenShut
import Derived.SizedLaws
import Derived.ChangeArms
import Derived.Deep.Slices
namespace Go.Proofs.YtajagjhhpciocaaDoor.Sp
open Go.ChangeShapes Go.WideShapes Go.ChangeAt Go.RowKit

theorem i64_of_wf {n : Int} (h : (Lit.int .i64 n).wf = true) : -9223372036854775808 ≤ n ∧ n ≤ 9223372036854775807 := by
  simp [Lit.wf, IntKind.min, IntKind.max, IntKind.signed, IntKind.bits] at h
  omega
/-- The Acts lie at 'A' (asked only where there are any), below block B. -/
def AR (w : World) (B : Nat) (A : Option Addr) (l : List ActV) : Prop :=
  l ≠ [] → ∃ ad, A = some ad ∧ ad.block < B ∧ ∀ k a, l[k]? = some a → ∀ j v, (acells a)[j]? = some v → w.cell? ((ad.add (k * 2)).add j) = some v
theorem AR.below {w w' : World} {B : Nat} {A : Option Addr} {l : List ActV} (h : AR w B A l) (hb : Below B w w') : AR w' B A l := by
  intro hn
  obtain ⟨ad, e, hlt, hc⟩ := h hn
  exact ⟨ad, e, hlt, fun k a ha j v hv => (hb.cell (by rw [block_add, block_add]; exact hlt)).trans (hc k a ha j v hv)⟩
theorem AR.nil {w : World} {B : Nat} {A : Option Addr} : AR w B A [] := fun h => absurd rfl h
/-- Its cells, as the walk spells them. -/
theorem AR.at_ {w : World} {B : Nat} {A : Option Addr} {l : List ActV} (h : AR w B A l) {k : Nat} (hk : k < l.length) :
    ∃ ad, A = some ad ∧ ad.block < B ∧ w.cell? (ad.add (k * 2)) = some (.int .i64 l[k].do_) ∧ w.cell? ⟨(ad.add (k * 2)).block, (ad.add (k * 2)).off + 1, none⟩ = some (.int .i64 l[k].n) := by
  obtain ⟨ad, e, hb, hc⟩ := h (by intro e; subst e; simp at hk)
  have H := hc k l[k] (List.getElem?_eq_getElem hk)
  exact ⟨ad, e, hb, H 0 _ rfl, H 1 _ rfl⟩
theorem cellsA : Tryd.prog.cellsOf 29 = 2 := by kernel_rfl
theorem bytesA : Tryd.prog.bytesOf 29 = 16 := by kernel_rfl

variable {H : Type} {enc : TypeId × Value → H} {W : World}
theorem act_cells {fuel : Nat} {cs : List Value} {x : DataW H × List MemPlace} (h : DataW.trod enc Tryd.prog W 0 (fun _ => true) true fuel 29 cs = some x) : ∃ a : ActV, cs = acells a := by
  obtain ⟨xs, n, _, _, hl, hlen, hg⟩ := DataW.trod_struct Tryd.underlying29 h
  rw [cellsA] at hl
  match cs, hl with
  | [c0, c1], _ =>
    match xs, hlen with
    | [y0, y1], _ =>
      have g0 := hg 0 _ rfl
      have g1 := hg 1 _ rfl
      obtain ⟨a0, e0, _, _⟩ := DataW.trod_int Tryd.underlying3 g0
      obtain ⟨a1, e1, _, _⟩ := DataW.trod_int Tryd.underlying3 g1
      cases e0; cases e1
      exact ⟨⟨a0, a1⟩, rfl⟩
theorem acts_in {a : Option Addr} {len cap : Nat} {d : DataW H} {p : List MemPlace} (h : DataW.Trod enc Tryd.prog W 0 (fun _ => true) true 22 (.slice a len cap) d p) :
    ∃ l : List ActV, l.length = len ∧ AR W W.heap.size a l ∧ ∀ (ts : List TypeId) (ds : List (DataW H)) (j : Nat), (DataW.weightsEach Tryd.prog ts ds).all (· ≤ reachBytes) = true → ts[j]? = some 22 → ds[j]? = some d → len ≤ 8796093021952 := by
  obtain ⟨fuel, hf⟩ := h
  rcases Go.Deep.open_slice Tryd.underlying22 hf with ⟨e, _⟩ | ⟨ad, len', cap', m, n, D, Pl, e, _, hlc, hcm, hm, hx, hi⟩
  · simp [Value.cells] at e
    obtain ⟨rfl, rfl, rfl⟩ := e
    exact ⟨[], rfl, AR.nil, fun _ _ _ _ _ _ => by omega⟩
  · simp [Value.cells] at e
    obtain ⟨rfl, rfl, rfl⟩ := e
    rw [if_pos rfl] at hm
    subst hm
    have hf : ∀ i, ∃ x : ActV, i < len → (∀ j v, (acells x)[j]? = some v → W.cell? ((ad.add (i * 2)).add j) = some v) := by
      intro i
      by_cases hl : i < len
      · obtain ⟨cs', hc, ht⟩ := hi i (by omega)
        rw [cellsA] at hc
        obtain ⟨x, rfl⟩ := act_cells ht
        obtain ⟨_, _, hat⟩ := World.cells?_some hc
        refine ⟨x, fun _ j v hv => ?_⟩
        have hj : j < 2 := by
          have := (List.getElem?_eq_some_iff.1 hv).1
          simpa [acells] using this
        exact (hat j hj).trans hv
      · exact ⟨⟨0, 0⟩, fun h => absurd h hl⟩
    obtain ⟨f, hf⟩ := Classical.skolem.1 hf
    refine ⟨(List.range len).map f, by simp, ?_, ?_⟩
    · intro hne
      have h0 : 0 < len := by
        rcases Nat.eq_zero_or_pos len with e | e
        · subst e; simp at hne
        · exact e
      refine ⟨ad, rfl, ?_, fun k x hx => ?_⟩
      · have := World.block_lt_of_cell? _ _ (hf 0 h0 0 _ rfl)
        rwa [block_add, block_add] at this
      · have hk : k < len ∧ f k = x := by
          simp only [List.getElem?_map, Option.map_eq_some_iff] at hx
          obtain ⟨j, hj, rfl⟩ := hx
          obtain ⟨h1, h2⟩ := List.getElem?_eq_some_iff.1 hj
          simp at h1 h2
          exact ⟨h1, by rw [h2]⟩
        obtain ⟨hk, rfl⟩ := hk
        exact hf k hk
    · intro ts ds j hs ht hd
      simp only [Prod.mk.injEq] at hx
      rw [hx.1] at hd
      have := sized_slice hs ht hd Tryd.underlying22
      rw [bytesA] at this
      simp only [List.length_map, List.length_range, reachBytes] at this
      omega
end Go.Proofs.YtajagjhhpciocaaDoor.Sp
