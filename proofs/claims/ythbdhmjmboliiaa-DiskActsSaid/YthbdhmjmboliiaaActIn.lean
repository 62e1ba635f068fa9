/-
  An Act that came in, read.
-/
import Derived.Test.YthbdhmjmboliiaaFrame
import Derived.Test.YthbdhmjmboliiaaDkSettle
import Derived.ChangeArms
namespace Go.Proofs.Ythbdhmjmboliiaa
open Go.ChangeShapes Go.WideShapes Go.ChangeAt Go.RowKit

theorem Try.cells35 : Try.prog.cellsOf 35 = 7 := by kernel_rfl
theorem Try.cells33 : Try.prog.cellsOf 33 = 4 := by kernel_rfl
theorem Try.cells30 : Try.prog.cellsOf 30 = 1 := by kernel_rfl
theorem Try.cells3 : Try.prog.cellsOf 3 = 1 := by kernel_rfl
theorem Try.cells31 : Try.prog.cellsOf 31 = 1 := by kernel_rfl
theorem Try.cells4 : Try.prog.cellsOf 4 = 1 := by kernel_rfl

/-- A call: which, its number, its bytes, its fate. -/
structure ActV where
  do_ : Int
  n : Int
  A : Option Addr
  xs : List UInt8
  c : Nat
  f : Fate
def acells (a : ActV) : List Value := [.int .i64 a.do_, .int .i64 a.n, .slice a.A a.xs.length a.c, .int .u64 a.f.stay, .int .i64 a.f.torn, .int .i64 a.f.cut, .bool a.f.head]
structure ActV.Ok (W : World) (a : ActV) : Prop where
  br : BR W W.heap.size a.A a.xs
  fate : a.f.Ok
  n0 : -9223372036854775808 ≤ a.n
  n1 : a.n ≤ 9223372036854775807

variable {H : Type} {enc : TypeId × Value → H} {W : World}

theorem fate_in {fuel : Nat} {cs : List Value} {x : DataW H × List MemPlace} (h : DataW.trod enc Try.prog W 0 (fun _ => true) true fuel 33 cs = some x) : ∃ f : Fate, cs = (fcells f).toList ∧ f.Ok := by
  obtain ⟨xs, n, _, _, hl, hlen, hg⟩ := DataW.trod_struct Try.underlying33 h
  rw [Try.cells33] at hl
  match cs, hl with
  | [c0, c1, c2, c3], _ =>
    match xs, hlen with
    | [y0, y1, y2, y3], _ =>
      have g0 := hg 0 _ rfl
      have g1 := hg 1 _ rfl
      have g2 := hg 2 _ rfl
      have g3 := hg 3 _ rfl
      obtain ⟨a0, e0, _, w0⟩ := DataW.trod_int Try.underlying31 g0
      obtain ⟨a1, e1, _, w1⟩ := DataW.trod_int Try.underlying3 g1
      obtain ⟨a2, e2, _, w2⟩ := DataW.trod_int Try.underlying3 g2
      obtain ⟨a3, e3, _⟩ := DataW.trod_bool Try.underlying4 g3
      cases e0; cases e1; cases e2; cases e3
      exact ⟨⟨a0, a1, a2, a3⟩, rfl, ⟨(u64_of_wf w0).1, (u64_of_wf w0).2⟩⟩
theorem slice_of {fuel : Nat} {c : Value} {x : DataW H × List MemPlace} (h : DataW.trod enc Try.prog W 0 (fun _ => true) true fuel 30 [c] = some x) : ∃ A xs cap, c = .slice A (xs : List UInt8).length cap ∧ BR W W.heap.size A xs := by
  rcases DataW.trod_slice Try.underlying30 h with ⟨e, _⟩ | ⟨a, len, cap, _, _, _, _, e, _⟩
  · cases e
    exact ⟨none, [], 0, rfl, BR.nil⟩
  · cases e
    obtain ⟨xs, rfl, hb, _⟩ := bytes_in (H := H) (enc := enc) (W := W) (a := some a) (cap := cap) (d := x.1) (p := x.2) ⟨fuel, h⟩
    exact ⟨some a, xs, cap, rfl, hb⟩
theorem act_cells {fuel : Nat} {cs : List Value} {x : DataW H × List MemPlace} (h : DataW.trod enc Try.prog W 0 (fun _ => true) true fuel 35 cs = some x) : ∃ a : ActV, cs = acells a ∧ a.Ok W := by
  obtain ⟨xs, n, _, _, hl, hlen, hg⟩ := DataW.trod_struct Try.underlying35 h
  rw [Try.cells35] at hl
  match cs, hl with
  | [c0, c1, c2, c3, c4, c5, c6], _ =>
    match xs, hlen with
    | [y0, y1, y2, y3], _ =>
      have g0 := hg 0 _ rfl
      have g1 := hg 1 _ rfl
      have g2 := hg 2 _ rfl
      have g3 := hg 3 _ rfl
      obtain ⟨a0, e0, _, _⟩ := DataW.trod_int Try.underlying3 g0
      obtain ⟨a1, e1, _, w1⟩ := DataW.trod_int Try.underlying3 g1
      obtain ⟨A, ys, cap, rfl, hb⟩ := slice_of g2
      obtain ⟨f, e3, hf⟩ := fate_in g3
      cases e0; cases e1
      refine ⟨⟨a0, a1, A, ys, cap, f⟩, ?_, ⟨hb, hf, (i64_of_wf w1).1, (i64_of_wf w1).2⟩⟩
      unfold acells
      unfold fcells at e3
      cases e3
      rfl
theorem act_in {r : Reach} {b0 : Nat} {v : Value} {d : DataW H} {p : List MemPlace} (hv : Value.okWide Try.prog W r b0 35 v) (h : DataW.Trod enc Try.prog W 0 (fun _ => true) true 35 v d p) : ∃ a : ActV, v = .agg (acells a).toArray ∧ a.Ok W := by
  obtain ⟨cs, rfl, hsz⟩ := okWide_struct Try.underlying35 hv
  obtain ⟨fuel, hf⟩ := h
  obtain ⟨a, e, ho⟩ := act_cells hf
  refine ⟨a, ?_, ho⟩
  have : (Value.agg cs).cells = cs := rfl
  rw [this] at e
  rw [← e]
end Go.Proofs.Ythbdhmjmboliiaa
