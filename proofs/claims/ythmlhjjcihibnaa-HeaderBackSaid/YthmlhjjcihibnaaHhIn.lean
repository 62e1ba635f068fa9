/-
  HhIn
-/
import Derived.Test.YthmlhjjcihibnaaHhRead
import Derived.Test.YthmlhjjcihibnaaActIn
import Derived.Test.YthmlhjjcihibnaaGA
import Derived.ChangeArms
import Derived.ChangeMaps5
import Derived.Deep.Slices
namespace Go.Proofs.Ythmlhjjcihibnaa.Hh
open Go.ChangeShapes Go.WideShapes Go.ChangeAt Go.RowKit
theorem cells_hdr : Try.prog.cellsOf 29 = 6 := by kernel_rfl
/-- What is known of a header that came in. -/
structure HvOk (x : HV) : Prop where
  l0 : -9223372036854775808 ≤ x.link
  l1 : x.link ≤ 9223372036854775807
  nl : x.name.length ≤ 9223372036854775807
theorem text_of (s : ByteArray) : ∃ xs : List UInt8, s = ⟨xs.toArray⟩ ∧ xs.length = s.size := ⟨s.data.toList, by simp, by show s.data.toList.length = s.data.size; simp⟩
variable {H : Type} {enc : TypeId × Value → H} {W : World}
set_option maxRecDepth 100000 in
theorem header_in {r : Reach} {b0 : Nat} {v : Value} {d : DataW H} {p : List MemPlace} (hv : Value.okWide Try.prog W r b0 29 v) (h : DataW.Trod enc Try.prog W 0 (fun _ => true) true 29 v d p) :
    ∃ (x : HV), v = hag x ∧ HvOk x := by
  obtain ⟨cs, rfl, hsz⟩ := okWide_struct Try.underlying29 hv
  obtain ⟨fuel, hf⟩ := h
  obtain ⟨xs, n, _, _, hl, hlen, hg⟩ := DataW.trod_struct Try.underlying29 hf
  rw [cells_hdr] at hl
  have hcs : (Value.agg cs).cells = cs := rfl
  rw [hcs] at hl hg
  obtain ⟨cl⟩ := cs
  match cl, hl with
  | [c0, c1, c2, c3, c4, c5], _ =>
    match xs, hlen with
    | [y0, y1, y2, y3, y4, y5], _ =>
      have g0 := hg 0 _ rfl
      have g1 := hg 1 _ rfl
      have g2 := hg 2 _ rfl
      have g3 := hg 3 _ rfl
      have g4 := hg 4 _ rfl
      have g5 := hg 5 _ rfl
      obtain ⟨a, e0, _, _⟩ := DataW.trod_int Try.underlying2 g0
      obtain ⟨l, e1, _, w1⟩ := DataW.trod_int Try.underlying2 g1
      obtain ⟨s, e2, _, w2⟩ := DataW.trod_string Try.underlying9 g2
      obtain ⟨i, e3, _⟩ := DataW.trod_bool Try.underlying4 g3
      obtain ⟨k, e4, _⟩ := DataW.trod_bool Try.underlying4 g4
      obtain ⟨m, e5, _, _⟩ := DataW.trod_int Try.underlying2 g5
      cases e0; cases e1; cases e2; cases e3; cases e4; cases e5
      obtain ⟨ys, rfl, hys⟩ := text_of s
      exact ⟨⟨a, l, ys, i, k, m⟩, rfl, ⟨(i64_of_wf w1).1, (i64_of_wf w1).2, by show ys.length ≤ _; unfold maxLen at w2; omega⟩⟩
end Go.Proofs.Ythmlhjjcihibnaa.Hh
