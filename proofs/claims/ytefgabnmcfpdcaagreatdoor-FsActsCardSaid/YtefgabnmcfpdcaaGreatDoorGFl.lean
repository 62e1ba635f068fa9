/-
  Merged by wip/tools/merge.py: InRDec InIn FsActIn
-/
import Derived.Test.YtefgabnmcfpdcaaGreatDoorGFn
import Derived.Test.YtefgabnmcfpdcaaGreatDoorSameB
import Derived.Test.YtefgabnmcfpdcaaGreatDoorGSnG
import Derived.Test.YtefgabnmcfpdcaaGreatDoorGA
import Derived.ChangeArms
import Derived.ChangeMaps5
import Derived.Deep.Slices
import Derived.Test.YtefgabnmcfpdcaaGreatDoorGFg
import Derived.SizedLaws
namespace Go.Proofs.YtefgabnmcfpdcaaGreatDoor.Ino
open Go.RowKit Ex
set_option linter.unusedSimpArgs false
set_option linter.unusedVariables false
end Go.Proofs.YtefgabnmcfpdcaaGreatDoor.Ino
namespace Go.Proofs.YtefgabnmcfpdcaaGreatDoor.Ino
open Go.ChangeShapes Go.WideShapes Go.ChangeAt Go.RowKit Ex
structure InIn (W : World) (x : IN) (A : Option Addr) : Prop where
 xr : XR W W.heap.size A x.ext
 el : x.ext.length ≤ 9223372036854775807
 nl : x.name.length ≤ 9223372036854775807
 sz : -9223372036854775808 ≤ x.size ∧ x.size ≤ 9223372036854775807
theorem InIn.below {w w' : World} {x : IN} {A : Option Addr} (h : InIn w x A) (hb : Below w.heap.size w w') : InIn w' x A := ⟨(h.xr.below hb).more hb.size, h.el, h.nl, h.sz⟩
theorem InIn.ok {w : World} {x : IN} {A : Option Addr} (h : InIn w x A) (h1 : x.ext.length ≤ 100) (h2 : x.name.length ≤ 1000) : InOk w x A := ⟨h.xr, h1, by omega, h.sz⟩
theorem text_of (s : ByteArray) : ∃ xs : List UInt8, s = ⟨xs.toArray⟩ ∧ xs.length = s.size := ⟨s.data.toList, by simp, by show s.data.toList.length = s.data.size; simp⟩
variable {H : Type} {enc : TypeId × Value → H} {W : World}
end Go.Proofs.YtefgabnmcfpdcaaGreatDoor.Ino
namespace Go.Proofs.YtefgabnmcfpdcaaGreatDoor.Fs
open Go.ChangeShapes Go.WideShapes Go.ChangeAt Go.RowKit Ex Ino Mm
set_option linter.unusedVariables false
set_option linter.unusedSimpArgs false
theorem cellsFAct : Tryz.prog.cellsOf 33 = 7 := by kernel_rfl
theorem bytesFAct : Tryz.prog.bytesOf 33 = 88 := by kernel_rfl
structure FAct where
 do_ : Int
 s1 : List UInt8
 s2 : List UInt8
 i3 : Int
 i4 : Int
 i5 : Int
 A : Option Addr
 xs : List UInt8
 c : Nat
def facells (x : FAct) : List Value := [.int .i64 x.do_, St x.s1, St x.s2, .int .i64 x.i3, .int .i64 x.i4, .int .i64 x.i5, .slice x.A x.xs.length x.c]
structure FAct.Ok (W : World) (x : FAct) : Prop where
 do__w : -9223372036854775808 ≤ x.do_ ∧ x.do_ ≤ 9223372036854775807
 s1_w : x.s1.length ≤ 9223372036854775807
 s2_w : x.s2.length ≤ 9223372036854775807
 i3_w : -9223372036854775808 ≤ x.i3 ∧ x.i3 ≤ 9223372036854775807
 i4_w : -9223372036854775808 ≤ x.i4 ∧ x.i4 ≤ 9223372036854775807
 i5_w : -9223372036854775808 ≤ x.i5 ∧ x.i5 ≤ 9223372036854775807
 br : BR W W.heap.size x.A x.xs
 cap : x.xs.length ≤ x.c
theorem fweights_mem {H : Type} {P : Program} {e : TypeId} : ∀ {l : List (DataW H)} {d : DataW H}, d ∈ l → ∀ n ∈ d.weights P e, n ∈ DataW.weightsAll P e l
 | [], _, h, _, _ => by cases h
 | x :: r, d, h, n, hn => by
  unfold DataW.weightsAll
  rcases List.mem_cons.1 h with rfl | h
  ·exact List.mem_append_left _ hn
  ·exact List.mem_append_right _ (fweights_mem h n hn)
variable {H : Type} {enc : TypeId × Value → H} {W : World}
set_option maxRecDepth 100000 in
theorem fslice_of {fuel : Nat} {c : Value} {x : DataW H × List MemPlace} (h : DataW.trod enc Tryz.prog W 0 (fun _ => true) true fuel 31 [c] = some x) : ∃ A xs cap, c = .slice A (xs : List UInt8).length cap ∧ xs.length ≤ cap ∧ BR W W.heap.size A xs ∧
  ∀ (ts : List TypeId) (ds : List (DataW H)) (j : Nat), (DataW.weightsEach Tryz.prog ts ds).all (· ≤ reachBytes) = true → ts[j]? = some 31 → ds[j]? = some x.1 → xs.length ≤ 140737488351232 := by
 rcases DataW.trod_slice Tryz.underlying31 h with ⟨e, _⟩ | ⟨a, len, cap, _, _, _, _, e, _, _, hl, _⟩
 ·cases e
  exact ⟨none, [], 0, rfl, Nat.le_refl _, BR.nil, fun _ _ _ _ _ _ => by simp⟩
 ·cases e
  obtain ⟨xs, rfl, hb, hs⟩ := bytes_in (H := H) (enc := enc) (W := W) (a := some a) (cap := cap) (d := x.1) (p := x.2) ⟨fuel, h⟩
  exact ⟨some a, xs, cap, rfl, hl, hb, hs⟩
set_option maxRecDepth 100000 in
theorem fact_cells {fuel : Nat} {cs : List Value} {x : DataW H × List MemPlace} (h : DataW.trod enc Tryz.prog W 0 (fun _ => true) true fuel 33 cs = some x) :
  ∃ a : FAct, cs = facells a ∧ a.Ok W ∧ ((∀ n ∈ x.1.weights Tryz.prog 33, n ≤ reachBytes) → a.xs.length ≤ 140737488351232) := by
 obtain ⟨xs, n, _, hx, hl, hlen, hg⟩ := DataW.trod_struct Tryz.underlying33 h
 rw [cellsFAct] at hl
 match cs, hl with
 | [c0, c1, c2, c3, c4, c5, c6], _ =>
  match xs, hlen with
  | [y0, y1, y2, y3, y4, y5, y6], _ =>
   have g0 := hg 0 _ rfl
   have g1 := hg 1 _ rfl
   have g2 := hg 2 _ rfl
   have g3 := hg 3 _ rfl
   have g4 := hg 4 _ rfl
   have g5 := hg 5 _ rfl
   have g6 := hg 6 _ rfl
   obtain ⟨a0, e0, _, w0⟩ := DataW.trod_int Tryz.underlying3 g0
   cases e0
   obtain ⟨t1, e1, _, w1⟩ := DataW.trod_string Tryz.underlying9 g1
   cases e1
   obtain ⟨a1, rfl, l1⟩ := Ino.text_of t1
   obtain ⟨t2, e2, _, w2⟩ := DataW.trod_string Tryz.underlying9 g2
   cases e2
   obtain ⟨a2, rfl, l2⟩ := Ino.text_of t2
   obtain ⟨a3, e3, _, w3⟩ := DataW.trod_int Tryz.underlying3 g3
   cases e3
   obtain ⟨a4, e4, _, w4⟩ := DataW.trod_int Tryz.underlying3 g4
   cases e4
   obtain ⟨a5, e5, _, w5⟩ := DataW.trod_int Tryz.underlying3 g5
   cases e5
   obtain ⟨A, ys, cap, rfl, hc, hb, hs⟩ := fslice_of g6
   refine ⟨⟨a0, a1, a2, a3, a4, a5, A, ys, cap⟩, rfl, ⟨i64_of_wf w0, (by show a1.length ≤ _; unfold maxLen at w1; omega), (by show a2.length ≤ _; unfold maxLen at w2; omega), i64_of_wf w3, i64_of_wf w4, i64_of_wf w5, hb, hc⟩, fun hw => ?_⟩
   refine hs [3, 9, 9, 3, 3, 3, 31] [y0.1, y1.1, y2.1, y3.1, y4.1, y5.1, y6.1] 6 (List.all_eq_true.2 fun m hm => ?_) rfl rfl
   have : x.1 = .agg [y0.1, y1.1, y2.1, y3.1, y4.1, y5.1, y6.1] := by rw [hx]; rfl
   rw [this] at hw
   unfold DataW.weights at hw
   rw [Tryz.underlying33] at hw
   simpa using hw m hm
def FActR (w : World) (B : Nat) (A : Option Addr) (l : List FAct) : Prop :=
 l ≠ [] → ∃ ad, A = some ad ∧ ad.block < B ∧ ∀ k a, l[k]? = some a → ∀ j v, (facells a)[j]? = some v → w.cell? ((ad.add (k * 7)).add j) = some v
theorem FActR.below {w w' : World} {B : Nat} {A : Option Addr} {l : List FAct} (h : FActR w B A l) (hb : Below B w w') : FActR w' B A l := by
 intro hn
 obtain ⟨ad, e, hlt, hc⟩ := h hn
 exact ⟨ad, e, hlt, fun k a ha j v hv => (hb.cell (by rw [block_add, block_add]; exact hlt)).trans (hc k a ha j v hv)⟩
theorem FActR.nil {w : World} {B : Nat} {A : Option Addr} : FActR w B A [] := fun h => absurd rfl h
theorem FActR.at_ {w : World} {B : Nat} {A : Option Addr} {l : List FAct} (h : FActR w B A l) {k : Nat} (hk : k < l.length) :
  ∃ ad, A = some ad ∧ ad.block < B ∧ w.cell? (ad.add (k * 7)) = some (.int .i64 l[k].do_) ∧ w.cell? ⟨(ad.add (k * 7)).block, (ad.add (k * 7)).off + 1, none⟩ = some (St l[k].s1) ∧ w.cell? ⟨(ad.add (k * 7)).block, (ad.add (k * 7)).off + 2, none⟩ = some (St l[k].s2) ∧ w.cell? ⟨(ad.add (k * 7)).block, (ad.add (k * 7)).off + 3, none⟩ = some (.int .i64 l[k].i3) ∧ w.cell? ⟨(ad.add (k * 7)).block, (ad.add (k * 7)).off + 4, none⟩ = some (.int .i64 l[k].i4) ∧ w.cell? ⟨(ad.add (k * 7)).block, (ad.add (k * 7)).off + 5, none⟩ = some (.int .i64 l[k].i5) ∧ w.cell? ⟨(ad.add (k * 7)).block, (ad.add (k * 7)).off + 6, none⟩ = some (.slice l[k].A l[k].xs.length l[k].c) := by
 obtain ⟨ad, e, hb, hc⟩ := h (by intro e; subst e; simp at hk)
 have H := hc k l[k] (List.getElem?_eq_getElem hk)
 exact ⟨ad, e, hb, H 0 _ rfl, H 1 _ rfl, H 2 _ rfl, H 3 _ rfl, H 4 _ rfl, H 5 _ rfl, H 6 _ rfl⟩
structure FActsOk (W : World) (A : Option Addr) (l : List FAct) : Prop where
 ar : FActR W W.heap.size A l
 ok : ∀ a ∈ l, a.Ok W
theorem facts_in {a : Option Addr} {len cap : Nat} {d : DataW H} {p : List MemPlace} (h : DataW.Trod enc Tryz.prog W 0 (fun _ => true) true 22 (.slice a len cap) d p) :
  ∃ l : List FAct, l.length = len ∧ FActsOk W a l ∧ ∀ (ts : List TypeId) (ds : List (DataW H)) (j : Nat), (DataW.weightsEach Tryz.prog ts ds).all (· ≤ reachBytes) = true → ts[j]? = some 22 → ds[j]? = some d → len ≤ 1599289640401 ∧ ∀ a ∈ l, a.xs.length ≤ 140737488351232 := by
 obtain ⟨fuel, hf⟩ := h
 rcases Go.Deep.open_slice Tryz.underlying22 hf with ⟨e, _⟩ | ⟨ad, len', cap', m, n, D, Pl, e, _, hlc, hcm, hm, hx, hi⟩
 ·simp [Value.cells] at e
  obtain ⟨rfl, rfl, rfl⟩ := e
  exact ⟨[], rfl, ⟨FActR.nil, (fun a ha => by cases ha)⟩, fun _ _ _ _ _ _ => ⟨by omega, fun a ha => by cases ha⟩⟩
 ·simp [Value.cells] at e
  obtain ⟨rfl, rfl, rfl⟩ := e
  rw [if_pos rfl] at hm
  subst hm
  have hf : ∀ i, ∃ x : FAct, i < len → (∀ j v, (facells x)[j]? = some v → W.cell? ((ad.add (i * 7)).add j) = some v) ∧ x.Ok W ∧ ((∀ n ∈ (D i).weights Tryz.prog 33, n ≤ reachBytes) → x.xs.length ≤ 140737488351232) := by
   intro i
   by_cases hl : i < len
   ·obtain ⟨cs', hc, ht⟩ := hi i (by omega)
    rw [cellsFAct] at hc
    obtain ⟨x, rfl, hx, hw⟩ := fact_cells ht
    obtain ⟨_, _, hat⟩ := World.cells?_some hc
    refine ⟨x, fun _ => ⟨fun j v hv => ?_, hx, hw⟩⟩
    have hj : j < 7 := by
     have := (List.getElem?_eq_some_iff.1 hv).1
     simpa [facells] using this
    exact (hat j hj).trans hv
   ·exact ⟨⟨0, [], [], 0, 0, 0, none, [], 0⟩, fun h => absurd h hl⟩
  obtain ⟨f, hf⟩ := Classical.skolem.1 hf
  refine ⟨(List.range len).map f, by simp, ⟨?_, ?_⟩, ?_⟩
  ·intro hne
   have h0 : 0 < len := by
    rcases Nat.eq_zero_or_pos len with e | e
    ·subst e; simp at hne
    ·exact e
   refine ⟨ad, rfl, ?_, fun k x hx => ?_⟩
   ·have := World.block_lt_of_cell? _ _ ((hf 0 h0).1 0 _ rfl)
    rwa [block_add, block_add] at this
   ·have hk : k < len ∧ f k = x := by
     simp only [List.getElem?_map, Option.map_eq_some_iff] at hx
     obtain ⟨j, hj, rfl⟩ := hx
     obtain ⟨h1, h2⟩ := List.getElem?_eq_some_iff.1 hj
     simp at h1 h2
     exact ⟨h1, by rw [h2]⟩
    obtain ⟨hk, rfl⟩ := hk
    exact (hf k hk).1
  ·intro x hx
   simp only [List.mem_map, List.mem_range] at hx
   obtain ⟨i, hi', rfl⟩ := hx
   exact (hf i hi').2.1
  ·intro ts ds j hs ht hd
   simp only [Prod.mk.injEq] at hx
   rw [hx.1] at hd
   have hsz := sized_slice hs ht hd Tryz.underlying22
   rw [bytesFAct] at hsz
   simp only [List.length_map, List.length_range, reachBytes] at hsz
   refine ⟨by omega, fun x hx' => ?_⟩
   simp only [List.mem_map, List.mem_range] at hx'
   obtain ⟨i, hi', rfl⟩ := hx'
   refine (hf i hi').2.2 fun m hm => ?_
   have hmem := DataW.weights_mem_each ht hd m (by
    unfold DataW.weights
    rw [Tryz.underlying22]
    exact List.mem_cons_of_mem _ (List.mem_append_left _ (fweights_mem (List.mem_map.2 ⟨i, List.mem_range.2 hi', rfl⟩) m hm)))
   have := List.all_eq_true.1 hs m hmem
   simpa using this
end Go.Proofs.YtefgabnmcfpdcaaGreatDoor.Fs
