/-
  InIn
-/
import Derived.Test.YtcldbgmbkcpdgaaInRDec
import Derived.Test.YtcldbgmbkcpdgaaGA
import Derived.ChangeArms
import Derived.ChangeMaps5
import Derived.Deep.Slices
namespace Go.Proofs.Ytcldbgmbkcpdgaa.Ino
open Go.ChangeShapes Go.WideShapes Go.ChangeAt Go.RowKit Ex

theorem cells_ino : Try.prog.cellsOf 28 = 3 := by kernel_rfl
/-- What is known of an inode that came in. -/
structure InIn (W : World) (x : IN) (A : Option Addr) : Prop where
  xr : XR W W.heap.size A x.ext
  el : x.ext.length ≤ 9223372036854775807
  nl : x.name.length ≤ 9223372036854775807
  sz : -9223372036854775808 ≤ x.size ∧ x.size ≤ 9223372036854775807
theorem InIn.below {w w' : World} {x : IN} {A : Option Addr} (h : InIn w x A) (hb : Below w.heap.size w w') : InIn w' x A := ⟨(h.xr.below hb).more hb.size, h.el, h.nl, h.sz⟩
theorem InIn.ok {w : World} {x : IN} {A : Option Addr} (h : InIn w x A) (h1 : x.ext.length ≤ 100) (h2 : x.name.length ≤ 1000) : InOk w x A := ⟨h.xr, h1, by omega, h.sz⟩
theorem text_of (s : ByteArray) : ∃ xs : List UInt8, s = ⟨xs.toArray⟩ ∧ xs.length = s.size := ⟨s.data.toList, by simp, by show s.data.toList.length = s.data.size; simp⟩
variable {H : Type} {enc : TypeId × Value → H} {W : World}
set_option maxRecDepth 100000 in
theorem extents_of {fuel : Nat} {c : Value} {x : DataW H × List MemPlace} (h : DataW.trod enc Try.prog W 0 (fun _ => true) true fuel 26 [c] = some x) :
    ∃ A l cap, c = .slice A (l : List EX).length cap ∧ XR W W.heap.size A l ∧ l.length ≤ 9223372036854775807 := by
  have h0 := h
  obtain ⟨d, p⟩ := x
  rcases Go.Deep.open_slice Try.underlying26 h with ⟨e, _⟩ | ⟨a, len, cap, m, n, D, Pl, e, _, hlc, hcm, hm, _, hi⟩
  · cases e
    exact ⟨none, [], 0, rfl, XR.nil, by simp⟩
  · cases e
    obtain ⟨l, hl, hx, _⟩ := extents_in (a := some a) (len := len) (cap := cap) (d := d) (p := p) ⟨fuel, h0⟩
    subst hl
    exact ⟨some a, l, cap, rfl, hx, by unfold maxLen at hcm; omega⟩
set_option maxRecDepth 100000 in
theorem inode_in {r : Reach} {b0 : Nat} {v : Value} {d : DataW H} {p : List MemPlace} (hv : Value.okWide Try.prog W r b0 28 v) (h : DataW.Trod enc Try.prog W 0 (fun _ => true) true 28 v d p) :
    ∃ (x : IN) (A : Option Addr) (c : Nat), v = ag x A c ∧ InIn W x A := by
  obtain ⟨cs, rfl, hsz⟩ := okWide_struct Try.underlying28 hv
  obtain ⟨fuel, hf⟩ := h
  obtain ⟨xs, n, _, _, hl, hlen, hg⟩ := DataW.trod_struct Try.underlying28 hf
  rw [cells_ino] at hl
  have hcs : (Value.agg cs).cells = cs := rfl
  rw [hcs] at hl hg
  obtain ⟨cl⟩ := cs
  match cl, hl with
  | [c0, c1, c2], _ =>
    match xs, hlen with
    | [y0, y1, y2], _ =>
      have g0 := hg 0 _ rfl
      have g1 := hg 1 _ rfl
      have g2 := hg 2 _ rfl
      obtain ⟨s, e0, _, w0⟩ := DataW.trod_string Try.underlying9 g0
      obtain ⟨m, e1, _, w1⟩ := DataW.trod_int Try.underlying3 g1
      obtain ⟨A, l, cap, e2, hx, hll⟩ := extents_of g2
      cases e0; cases e1; subst e2
      obtain ⟨ys, rfl, hys⟩ := text_of s
      exact ⟨⟨ys, m, l⟩, A, cap, rfl, hx, hll, by show ys.length ≤ _; unfold maxLen at w0; omega, i64_of_wf w1⟩
end Go.Proofs.Ytcldbgmbkcpdgaa.Ino
