/-
  MmActIn
-/
import Derived.Test.YtdbphindnnchfaaGA
import Derived.ChangeArms
import Derived.Deep.Slices
import Derived.SizedLaws
namespace Go.Proofs.Ytdbphindnnchfaa.Mm
open Go.ChangeShapes Go.WideShapes Go.ChangeAt Go.RowKit
set_option linter.unusedVariables false

theorem cellsM : Try.prog.cellsOf 31 = 4 := by kernel_rfl
theorem bytesM : Try.prog.bytesOf 31 = 48 := by kernel_rfl
theorem cellsSl : Try.prog.cellsOf 22 = 1 := by kernel_rfl
theorem cellsInt : Try.prog.cellsOf 3 = 1 := by kernel_rfl
theorem cellsI64 : Try.prog.cellsOf 2 = 1 := by kernel_rfl

/-- A call: which, its two numbers, its bytes. -/
structure MAct where
  do_ : Int
  a : Int
  n : Int
  A : Option Addr
  xs : List UInt8
  c : Nat
def macells (x : MAct) : List Value := [.int .i64 x.do_, .int .i64 x.a, .int .i64 x.n, .slice x.A x.xs.length x.c]
structure MAct.Ok (W : World) (x : MAct) : Prop where
  br : BR W W.heap.size x.A x.xs
  cap : x.xs.length ≤ x.c
  a0 : -9223372036854775808 ≤ x.a
  a1 : x.a ≤ 9223372036854775807
  n0 : -9223372036854775808 ≤ x.n
  n1 : x.n ≤ 9223372036854775807

theorem weightsAll_mem {H : Type} {P : Program} {e : TypeId} : ∀ {l : List (DataW H)} {d : DataW H}, d ∈ l → ∀ n ∈ d.weights P e, n ∈ DataW.weightsAll P e l
  | [], _, h, _, _ => by cases h
  | x :: r, d, h, n, hn => by
    unfold DataW.weightsAll
    rcases List.mem_cons.1 h with rfl | h
    · exact List.mem_append_left _ hn
    · exact List.mem_append_right _ (weightsAll_mem h n hn)

variable {H : Type} {enc : TypeId × Value → H} {W : World}
set_option maxRecDepth 100000 in
theorem mslice_of {fuel : Nat} {c : Value} {x : DataW H × List MemPlace} (h : DataW.trod enc Try.prog W 0 (fun _ => true) true fuel 22 [c] = some x) : ∃ A xs cap, c = .slice A (xs : List UInt8).length cap ∧ xs.length ≤ cap ∧ BR W W.heap.size A xs ∧
    ∀ (ts : List TypeId) (ds : List (DataW H)) (j : Nat), (DataW.weightsEach Try.prog ts ds).all (· ≤ reachBytes) = true → ts[j]? = some 22 → ds[j]? = some x.1 → xs.length ≤ 140737488351232 := by
  rcases DataW.trod_slice Try.underlying22 h with ⟨e, _⟩ | ⟨a, len, cap, _, _, _, _, e, _, _, hl, _⟩
  · cases e
    exact ⟨none, [], 0, rfl, Nat.le_refl _, BR.nil, fun _ _ _ _ _ _ => by simp⟩
  · cases e
    obtain ⟨xs, rfl, hb, hs⟩ := bytes_in (H := H) (enc := enc) (W := W) (a := some a) (cap := cap) (d := x.1) (p := x.2) ⟨fuel, h⟩
    exact ⟨some a, xs, cap, rfl, hl, hb, hs⟩
set_option maxRecDepth 100000 in
/-- One that lies in memory; 'small': its own data's weights bound its bytes. -/
theorem mact_cells {fuel : Nat} {cs : List Value} {x : DataW H × List MemPlace} (h : DataW.trod enc Try.prog W 0 (fun _ => true) true fuel 31 cs = some x) :
    ∃ a : MAct, cs = macells a ∧ a.Ok W ∧ ((∀ n ∈ x.1.weights Try.prog 31, n ≤ reachBytes) → a.xs.length ≤ 140737488351232) := by
  obtain ⟨xs, n, _, hx, hl, hlen, hg⟩ := DataW.trod_struct Try.underlying31 h
  rw [cellsM] at hl
  match cs, hl with
  | [c0, c1, c2, c3], _ =>
    match xs, hlen with
    | [y0, y1, y2, y3], _ =>
      have g0 := hg 0 _ rfl
      have g1 := hg 1 _ rfl
      have g2 := hg 2 _ rfl
      have g3 := hg 3 _ rfl
      obtain ⟨a0, e0, _, _⟩ := DataW.trod_int Try.underlying3 g0
      obtain ⟨a1, e1, _, w1⟩ := DataW.trod_int Try.underlying2 g1
      obtain ⟨a2, e2, _, w2⟩ := DataW.trod_int Try.underlying2 g2
      obtain ⟨A, ys, cap, rfl, hc, hb, hs⟩ := mslice_of g3
      cases e0; cases e1; cases e2
      refine ⟨⟨a0, a1, a2, A, ys, cap⟩, rfl, ⟨hb, hc, (i64_of_wf w1).1, (i64_of_wf w1).2, (i64_of_wf w2).1, (i64_of_wf w2).2⟩, fun hw => ?_⟩
      refine hs [3, 2, 2, 22] [y0.1, y1.1, y2.1, y3.1] 3 (List.all_eq_true.2 fun m hm => ?_) rfl rfl
      have : x.1 = .agg [y0.1, y1.1, y2.1, y3.1] := by rw [hx]; rfl
      rw [this] at hw
      unfold DataW.weights at hw
      rw [Try.underlying31] at hw
      simpa using hw m hm
set_option maxRecDepth 100000 in
theorem mact_in {r : Reach} {b0 : Nat} {v : Value} {d : DataW H} {p : List MemPlace} (hv : Value.okWide Try.prog W r b0 31 v) (h : DataW.Trod enc Try.prog W 0 (fun _ => true) true 31 v d p) : ∃ a : MAct, v = .agg (macells a).toArray ∧ a.Ok W := by
  obtain ⟨cs, rfl, hsz⟩ := okWide_struct Try.underlying31 hv
  obtain ⟨fuel, hf⟩ := h
  obtain ⟨a, e, ho, _⟩ := mact_cells hf
  refine ⟨a, ?_, ho⟩
  have : (Value.agg cs).cells = cs := rfl
  rw [this] at e
  rw [← e]

/-- The Acts lie at 'A' (asked only where there are any), below block B. -/
def MAR (w : World) (B : Nat) (A : Option Addr) (l : List MAct) : Prop :=
  l ≠ [] → ∃ ad, A = some ad ∧ ad.block < B ∧ ∀ k a, l[k]? = some a → ∀ j v, (macells a)[j]? = some v → w.cell? ((ad.add (k * 4)).add j) = some v
theorem MAR.below {w w' : World} {B : Nat} {A : Option Addr} {l : List MAct} (h : MAR w B A l) (hb : Below B w w') : MAR w' B A l := by
  intro hn
  obtain ⟨ad, e, hlt, hc⟩ := h hn
  exact ⟨ad, e, hlt, fun k a ha j v hv => (hb.cell (by rw [block_add, block_add]; exact hlt)).trans (hc k a ha j v hv)⟩
theorem MAR.nil {w : World} {B : Nat} {A : Option Addr} : MAR w B A [] := fun h => absurd rfl h
/-- Its cells, one by one, as the walk spells them. -/
theorem MAR.at_ {w : World} {B : Nat} {A : Option Addr} {l : List MAct} (h : MAR w B A l) {k : Nat} (hk : k < l.length) :
    ∃ ad, A = some ad ∧ ad.block < B ∧ w.cell? (ad.add (k * 4)) = some (.int .i64 l[k].do_) ∧ w.cell? ⟨(ad.add (k * 4)).block, (ad.add (k * 4)).off + 1, none⟩ = some (.int .i64 l[k].a) ∧
      w.cell? ⟨(ad.add (k * 4)).block, (ad.add (k * 4)).off + 2, none⟩ = some (.int .i64 l[k].n) ∧ w.cell? ⟨(ad.add (k * 4)).block, (ad.add (k * 4)).off + 3, none⟩ = some (.slice l[k].A l[k].xs.length l[k].c) := by
  obtain ⟨ad, e, hb, hc⟩ := h (by intro e; subst e; simp at hk)
  have H := hc k l[k] (List.getElem?_eq_getElem hk)
  exact ⟨ad, e, hb, H 0 _ rfl, H 1 _ rfl, H 2 _ rfl, H 3 _ rfl⟩
structure MActsOk (W : World) (A : Option Addr) (l : List MAct) : Prop where
  ar : MAR W W.heap.size A l
  ok : ∀ a ∈ l, a.Ok W
theorem macts_in {a : Option Addr} {len cap : Nat} {d : DataW H} {p : List MemPlace} (h : DataW.Trod enc Try.prog W 0 (fun _ => true) true 23 (.slice a len cap) d p) :
    ∃ l : List MAct, l.length = len ∧ MActsOk W a l ∧ ∀ (ts : List TypeId) (ds : List (DataW H)) (j : Nat), (DataW.weightsEach Try.prog ts ds).all (· ≤ reachBytes) = true → ts[j]? = some 23 → ds[j]? = some d → len ≤ 2932031007317 ∧ ∀ a ∈ l, a.xs.length ≤ 140737488351232 := by
  obtain ⟨fuel, hf⟩ := h
  rcases Go.Deep.open_slice Try.underlying23 hf with ⟨e, _⟩ | ⟨ad, len', cap', m, n, D, Pl, e, _, hlc, hcm, hm, hx, hi⟩
  · simp [Value.cells] at e
    obtain ⟨rfl, rfl, rfl⟩ := e
    exact ⟨[], rfl, ⟨MAR.nil, (fun a ha => by cases ha)⟩, fun _ _ _ _ _ _ => ⟨by omega, fun a ha => by cases ha⟩⟩
  · simp [Value.cells] at e
    obtain ⟨rfl, rfl, rfl⟩ := e
    rw [if_pos rfl] at hm
    subst hm
    have hf : ∀ i, ∃ x : MAct, i < len → (∀ j v, (macells x)[j]? = some v → W.cell? ((ad.add (i * 4)).add j) = some v) ∧ x.Ok W ∧ ((∀ n ∈ (D i).weights Try.prog 31, n ≤ reachBytes) → x.xs.length ≤ 140737488351232) := by
      intro i
      by_cases hl : i < len
      · obtain ⟨cs', hc, ht⟩ := hi i (by omega)
        rw [cellsM] at hc
        obtain ⟨x, rfl, hx, hw⟩ := mact_cells ht
        obtain ⟨_, _, hat⟩ := World.cells?_some hc
        refine ⟨x, fun _ => ⟨fun j v hv => ?_, hx, hw⟩⟩
        have hj : j < 4 := by
          have := (List.getElem?_eq_some_iff.1 hv).1
          simpa [macells] using this
        exact (hat j hj).trans hv
      · exact ⟨⟨0, 0, 0, none, [], 0⟩, fun h => absurd h hl⟩
    obtain ⟨f, hf⟩ := Classical.skolem.1 hf
    refine ⟨(List.range len).map f, by simp, ⟨?_, ?_⟩, ?_⟩
    · intro hne
      have h0 : 0 < len := by
        rcases Nat.eq_zero_or_pos len with e | e
        · subst e; simp at hne
        · exact e
      refine ⟨ad, rfl, ?_, fun k x hx => ?_⟩
      · have := World.block_lt_of_cell? _ _ ((hf 0 h0).1 0 _ rfl)
        rwa [block_add, block_add] at this
      · have hk : k < len ∧ f k = x := by
          simp only [List.getElem?_map, Option.map_eq_some_iff] at hx
          obtain ⟨j, hj, rfl⟩ := hx
          obtain ⟨h1, h2⟩ := List.getElem?_eq_some_iff.1 hj
          simp at h1 h2
          exact ⟨h1, by rw [h2]⟩
        obtain ⟨hk, rfl⟩ := hk
        exact (hf k hk).1
    · intro x hx
      simp only [List.mem_map, List.mem_range] at hx
      obtain ⟨i, hi', rfl⟩ := hx
      exact (hf i hi').2.1
    · intro ts ds j hs ht hd
      simp only [Prod.mk.injEq] at hx
      rw [hx.1] at hd
      have hsz := sized_slice hs ht hd Try.underlying23
      rw [bytesM] at hsz
      simp only [List.length_map, List.length_range, reachBytes] at hsz
      refine ⟨by omega, fun x hx' => ?_⟩
      simp only [List.mem_map, List.mem_range] at hx'
      obtain ⟨i, hi', rfl⟩ := hx'
      refine (hf i hi').2.2 fun m hm => ?_
      have hmem := DataW.weights_mem_each ht hd m (by
        unfold DataW.weights
        rw [Try.underlying23]
        exact List.mem_cons_of_mem _ (List.mem_append_left _ (weightsAll_mem (List.mem_map.2 ⟨i, List.mem_range.2 hi', rfl⟩) m hm)))
      have := List.all_eq_true.1 hs m hmem
      simpa using this

def MFewOut (w : World) (e : Ending) (w' : World) : Prop := (∃ b, e = .returned (.bool b)) ∧ Below w.heap.size w w'
set_option maxRecDepth 100000 in
set_option maxHeartbeats 800000 in
theorem mfew_any (A : Option Addr) (l : List MAct) (c : Nat) (w : World) (h : MAR w w.heap.size A l) (hl : l.length ≤ 2932031007317) :
    Calls Try.prog 8 #[.slice A l.length c] w (MFewOut w) := by
  go_enter Try.func8, Try.ntmps8
  go_wp2_with fail
  go_loopw [8, 3, 5] (fun i s _ wr => ∃ (k : Nat) (n : Int), k ≤ l.length ∧ i = .int .i64 k ∧ s = .int .i64 n ∧ Below w.heap.size w wr) (fun i _ _ _ => l.length - (intOf i).toNat)
  case atStart => exact ⟨0, 0, by omega, rfl, rfl, Below.refl _ _⟩
  case round =>
    obtain ⟨k, n, hk, rfl, rfl, hb⟩ := hrel
    by_cases hlt : k < l.length
    · have h1 := h.below hb
      obtain ⟨ad, rfl, hlb, d0, d1, d2, d3⟩ := h1.at_ hlt
      generalize l[k] = a at *
      clear h h1
      have hsz := hb.size
      go_wp2_with fail
      all_goals
        go_roundw
        case rel => exact ⟨k + 1, _, by omega, by go_num, rfl, hb.alloc hsz _⟩
        case measure => simp [intOf]; omega
    · go_wp2_with fail
      go_ret
      exact ⟨⟨_, rfl⟩, hb⟩
end Go.Proofs.Ytdbphindnnchfaa.Mm
