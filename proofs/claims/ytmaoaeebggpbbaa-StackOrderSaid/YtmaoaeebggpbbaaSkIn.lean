/-
  SkIn
-/
import Derived.Test.YtmaoaeebggpbbaaSkLay
import Derived.Test.YtmaoaeebggpbbaaGA
import Derived.ChangeArms
import Derived.ChangeSlices
import Derived.Deep.Slices
import Derived.SizedLaws
namespace Go.Proofs.Ytmaoaeebggpbbaa.Sk
open Go.ChangeShapes Go.WideShapes Go.ChangeAt Go.RowKit
set_option linter.unusedVariables false
set_option linter.unusedSimpArgs false

theorem bytesI64 : Try.prog.bytesOf 2 = 8 := by kernel_rfl
theorem cellsI64 : Try.prog.cellsOf 2 = 1 := by kernel_rfl
theorem cellsK : Try.prog.cellsOf 27 = 3 := by kernel_rfl
theorem bytesK : Try.prog.bytesOf 27 = 40 := by kernel_rfl
variable {H : Type} {enc : TypeId × Value → H} {W : World}
def inR (zs : List Int) : Prop := ∀ z ∈ zs, -9223372036854775808 ≤ z ∧ z ≤ 9223372036854775807
set_option maxRecDepth 100000 in
theorem nums_of {fuel : Nat} {c : Value} {x : DataW H × List MemPlace} (hf : DataW.trod enc Try.prog W 0 (fun _ => true) true fuel 25 [c] = some x) :
    ∃ A zs cap, c = .slice A (zs : List Int).length cap ∧ IQ W W.heap.size A zs ∧ inR zs ∧ ∀ (ts : List TypeId) (ds : List (DataW H)) (j : Nat), (DataW.weightsEach Try.prog ts ds).all (· ≤ reachBytes) = true → ts[j]? = some 25 → ds[j]? = some x.1 → zs.length ≤ 17592186044416 := by
  rcases open_ints Try.underlying25 Try.underlying2 cellsI64 hf with ⟨hcs, _⟩ | ⟨a, l, cp, zs, hcs, _, hl, _, hz, hx, hcell, hwz⟩
  · cases hcs
    exact ⟨none, [], 0, rfl, fun h => absurd rfl h, (fun z hz => by cases hz), fun _ _ _ _ _ _ => by simp⟩
  · cases hcs
    simp only [if_true] at hz
    have hlen : (zs.take l).length = l := by rw [List.length_take]; omega
    refine ⟨some a, zs.take l, cp, by rw [hlen], ?_, ?_, ?_⟩
    · intro hne
      have h0 : 0 < zs.length := by
        rcases Nat.eq_zero_or_pos zs.length with e | e
        · rw [List.eq_nil_of_length_eq_zero e] at hne; simp at hne
        · exact e
      refine ⟨a, rfl, ?_, fun k u hu => ?_⟩
      · have := World.block_lt_of_cell? _ _ (hcell 0 h0)
        rwa [block_add] at this
      · have hk : k < l ∧ zs[k]? = some u := by
          rw [List.getElem?_take] at hu
          split at hu
          · exact ⟨‹_›, hu⟩
          · cases hu
        have hkl : k < zs.length := by omega
        rw [hcell k hkl, List.getD_eq_getElem?_getD, hk.2]
        rfl
    · intro z hz'
      exact i64_of_wf (hwz z (List.mem_of_mem_take hz'))
    · intro ts ds j hs ht hd
      rw [hx] at hd
      have := sized_slice hs ht hd Try.underlying25
      rw [bytesI64] at this
      simp only [lits, List.length_map, List.length_take, List.length_drop, reachBytes] at this
      omega
theorem nums_in {a : Option Addr} {len cap : Nat} {d : DataW H} {p : List MemPlace} (h : DataW.Trod enc Try.prog W 0 (fun _ => true) true 25 (.slice a len cap) d p) :
    ∃ zs : List Int, zs.length = len ∧ IQ W W.heap.size a zs ∧ inR zs ∧ ∀ (ts : List TypeId) (ds : List (DataW H)) (j : Nat), (DataW.weightsEach Try.prog ts ds).all (· ≤ reachBytes) = true → ts[j]? = some 25 → ds[j]? = some d → len ≤ 17592186044416 := by
  obtain ⟨fuel, hf⟩ := h
  obtain ⟨A, zs, cp, e, h1, h2, h3⟩ := nums_of (c := .slice a len cap) hf
  injection e with e1 e2 e3
  subst e1 e2 e3
  exact ⟨zs, rfl, h1, h2, h3⟩
/-- A call: which, its number, its numbers. -/
structure KAct where
  do_ : Int
  n : Int
  A : Option Addr
  xs : List Int
  c : Nat
def kcells (x : KAct) : List Value := [.int .i64 x.do_, .int .i64 x.n, .slice x.A x.xs.length x.c]
structure KAct.Ok (W : World) (x : KAct) : Prop where
  iq : IQ W W.heap.size x.A x.xs
  n0 : -9223372036854775808 ≤ x.n
  n1 : x.n ≤ 9223372036854775807
  r : inR x.xs
theorem kweights_mem {P : Program} {e : TypeId} : ∀ {l : List (DataW H)} {d : DataW H}, d ∈ l → ∀ n ∈ d.weights P e, n ∈ DataW.weightsAll P e l
  | [], _, h, _, _ => by cases h
  | x :: r, d, h, n, hn => by
    unfold DataW.weightsAll
    rcases List.mem_cons.1 h with rfl | h
    · exact List.mem_append_left _ hn
    · exact List.mem_append_right _ (kweights_mem h n hn)
set_option maxRecDepth 100000 in
theorem kact_cells {fuel : Nat} {cs : List Value} {x : DataW H × List MemPlace} (h : DataW.trod enc Try.prog W 0 (fun _ => true) true fuel 27 cs = some x) :
    ∃ a : KAct, cs = kcells a ∧ a.Ok W ∧ ((∀ n ∈ x.1.weights Try.prog 27, n ≤ reachBytes) → a.xs.length ≤ 17592186044416) := by
  obtain ⟨xs, n, _, hx, hl, hlen, hg⟩ := DataW.trod_struct Try.underlying27 h
  rw [cellsK] at hl
  match cs, hl with
  | [c0, c1, c2], _ =>
    match xs, hlen with
    | [y0, y1, y2], _ =>
      have g0 := hg 0 _ rfl
      have g1 := hg 1 _ rfl
      have g2 := hg 2 _ rfl
      obtain ⟨a0, e0, _, _⟩ := DataW.trod_int Try.underlying3 g0
      obtain ⟨a1, e1, _, w1⟩ := DataW.trod_int Try.underlying2 g1
      obtain ⟨A, zs, cap, e2, hb, hr, hs⟩ := nums_of (c := c2) g2
      cases e0; cases e1; cases e2
      refine ⟨⟨a0, a1, A, zs, cap⟩, rfl, ⟨hb, (i64_of_wf w1).1, (i64_of_wf w1).2, hr⟩, fun hw => ?_⟩
      refine hs [3, 2, 25] [y0.1, y1.1, y2.1] 2 (List.all_eq_true.2 fun m hm => ?_) rfl rfl
      have : x.1 = .agg [y0.1, y1.1, y2.1] := by rw [hx]; rfl
      rw [this] at hw
      unfold DataW.weights at hw
      rw [Try.underlying27] at hw
      simpa using hw m hm
/-- The Acts lie at 'A' (asked only where there are any), below block B. -/
def KAR (w : World) (B : Nat) (A : Option Addr) (l : List KAct) : Prop :=
  l ≠ [] → ∃ ad, A = some ad ∧ ad.block < B ∧ ∀ k a, l[k]? = some a → ∀ j v, (kcells a)[j]? = some v → w.cell? ((ad.add (k * 3)).add j) = some v
theorem KAR.below {w w' : World} {B : Nat} {A : Option Addr} {l : List KAct} (h : KAR w B A l) (hb : Below B w w') : KAR w' B A l := by
  intro hn
  obtain ⟨ad, e, hlt, hc⟩ := h hn
  exact ⟨ad, e, hlt, fun k a ha j v hv => (hb.cell (by rw [block_add, block_add]; exact hlt)).trans (hc k a ha j v hv)⟩
theorem KAR.nil {w : World} {B : Nat} {A : Option Addr} : KAR w B A [] := fun h => absurd rfl h
/-- Its cells, one by one, as the walk spells them. -/
theorem KAR.at_ {w : World} {B : Nat} {A : Option Addr} {l : List KAct} (h : KAR w B A l) {k : Nat} (hk : k < l.length) :
    ∃ ad, A = some ad ∧ ad.block < B ∧ w.cell? (ad.add (k * 3)) = some (.int .i64 l[k].do_) ∧ w.cell? ⟨(ad.add (k * 3)).block, (ad.add (k * 3)).off + 1, none⟩ = some (.int .i64 l[k].n) ∧
      w.cell? ⟨(ad.add (k * 3)).block, (ad.add (k * 3)).off + 2, none⟩ = some (.slice l[k].A l[k].xs.length l[k].c) := by
  obtain ⟨ad, e, hb, hc⟩ := h (by intro e; subst e; simp at hk)
  have H := hc k l[k] (List.getElem?_eq_getElem hk)
  exact ⟨ad, e, hb, H 0 _ rfl, H 1 _ rfl, H 2 _ rfl⟩
structure KActsOk (W : World) (A : Option Addr) (l : List KAct) : Prop where
  ar : KAR W W.heap.size A l
  ok : ∀ a ∈ l, a.Ok W
theorem kacts_in {a : Option Addr} {len cap : Nat} {d : DataW H} {p : List MemPlace} (h : DataW.Trod enc Try.prog W 0 (fun _ => true) true 23 (.slice a len cap) d p) :
    ∃ l : List KAct, l.length = len ∧ KActsOk W a l ∧ ∀ (ts : List TypeId) (ds : List (DataW H)) (j : Nat), (DataW.weightsEach Try.prog ts ds).all (· ≤ reachBytes) = true → ts[j]? = some 23 → ds[j]? = some d → len ≤ 3518437208883 ∧ ∀ a ∈ l, a.xs.length ≤ 17592186044416 := by
  obtain ⟨fuel, hf⟩ := h
  rcases Go.Deep.open_slice Try.underlying23 hf with ⟨e, _⟩ | ⟨ad, len', cap', m, n, D, Pl, e, _, hlc, hcm, hm, hx, hi⟩
  · simp [Value.cells] at e
    obtain ⟨rfl, rfl, rfl⟩ := e
    exact ⟨[], rfl, ⟨KAR.nil, (fun a ha => by cases ha)⟩, fun _ _ _ _ _ _ => ⟨by omega, fun a ha => by cases ha⟩⟩
  · simp [Value.cells] at e
    obtain ⟨rfl, rfl, rfl⟩ := e
    rw [if_pos rfl] at hm
    subst hm
    have hf : ∀ i, ∃ x : KAct, i < len → (∀ j v, (kcells x)[j]? = some v → W.cell? ((ad.add (i * 3)).add j) = some v) ∧ x.Ok W ∧ ((∀ n ∈ (D i).weights Try.prog 27, n ≤ reachBytes) → x.xs.length ≤ 17592186044416) := by
      intro i
      by_cases hl : i < len
      · obtain ⟨cs', hc, ht⟩ := hi i (by omega)
        rw [cellsK] at hc
        obtain ⟨x, rfl, hx, hw⟩ := kact_cells ht
        obtain ⟨_, _, hat⟩ := World.cells?_some hc
        refine ⟨x, fun _ => ⟨fun j v hv => ?_, hx, hw⟩⟩
        have hj : j < 3 := by
          have := (List.getElem?_eq_some_iff.1 hv).1
          simpa [kcells] using this
        exact (hat j hj).trans hv
      · exact ⟨⟨0, 0, none, [], 0⟩, fun h => absurd h hl⟩
    obtain ⟨f, hf⟩ := Classical.skolem.1 hf
    refine ⟨(List.range len).map f, by simp, ⟨?_, ?_⟩, ?_⟩
    · intro hne
      have h0 : 0 < len := by
        rcases Nat.eq_zero_or_pos len with e | e
        · subst e; simp at hne
        · exact e
      refine ⟨ad, rfl, ?_, fun k x hx => ?_⟩
      · have := World.block_lt_of_cell? _ _ ((hf 0 h0).1 0 _ rfl)
        rwa [block_add, block_add] at this
      · have hk : k < len ∧ f k = x := by
          simp only [List.getElem?_map, Option.map_eq_some_iff] at hx
          obtain ⟨j, hj, rfl⟩ := hx
          obtain ⟨h1, h2⟩ := List.getElem?_eq_some_iff.1 hj
          simp at h1 h2
          exact ⟨h1, by rw [h2]⟩
        obtain ⟨hk, rfl⟩ := hk
        exact (hf k hk).1
    · intro x hx
      simp only [List.mem_map, List.mem_range] at hx
      obtain ⟨i, hi', rfl⟩ := hx
      exact (hf i hi').2.1
    · intro ts ds j hs ht hd
      simp only [Prod.mk.injEq] at hx
      rw [hx.1] at hd
      have hsz := sized_slice hs ht hd Try.underlying23
      rw [bytesK] at hsz
      simp only [List.length_map, List.length_range, reachBytes] at hsz
      refine ⟨by omega, fun x hx' => ?_⟩
      simp only [List.mem_map, List.mem_range] at hx'
      obtain ⟨i, hi', rfl⟩ := hx'
      refine (hf i hi').2.2 fun m hm => ?_
      have hmem := DataW.weights_mem_each ht hd m (by
        unfold DataW.weights
        rw [Try.underlying23]
        exact List.mem_cons_of_mem _ (List.mem_append_left _ (kweights_mem (List.mem_map.2 ⟨i, List.mem_range.2 hi', rfl⟩) m hm)))
      have := List.all_eq_true.1 hs m hmem
      simpa using this
end Go.Proofs.Ytmaoaeebggpbbaa.Sk
