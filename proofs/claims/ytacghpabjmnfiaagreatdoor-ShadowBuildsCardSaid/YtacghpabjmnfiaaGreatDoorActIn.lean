/-
  ActIn
-/
import Derived.Test.YtacghpabjmnfiaaGreatDoorGA
import Derived.Test.YtacghpabjmnfiaaGreatDoorGDk
import Derived.ChangeArms
namespace Go.Proofs.YtacghpabjmnfiaaGreatDoor
open Go.ChangeShapes Go.WideShapes Go.ChangeAt Go.RowKit

theorem Tryz.cells33 : Tryz.prog.cellsOf 68 = 4 := by kernel_rfl
theorem Tryz.cells30 : Tryz.prog.cellsOf 30 = 1 := by kernel_rfl
theorem Tryz.cells3 : Tryz.prog.cellsOf 3 = 1 := by kernel_rfl
theorem Tryz.cells31 : Tryz.prog.cellsOf 66 = 1 := by kernel_rfl
theorem Tryz.cells4 : Tryz.prog.cellsOf 4 = 1 := by kernel_rfl

/-- A call: which, its number, its bytes, its fate. -/
structure ActV where
  do_ : Int
  n : Int
  A : Option Addr
  xs : List UInt8
  c : Nat
  f : Fate
def acells (a : ActV) : List Value := [.int .i64 a.do_, .int .i64 a.n, .slice a.A a.xs.length a.c, .int .u64 a.f.stay, .int .i64 a.f.torn, .int .i64 a.f.cut, .bool a.f.head]
structure ActV.Ok (W : World) (a : ActV) : Prop where
  br : BR W W.heap.size a.A a.xs
  fate : a.f.Ok
  n0 : -9223372036854775808 ≤ a.n
  n1 : a.n ≤ 9223372036854775807

variable {H : Type} {enc : TypeId × Value → H} {W : World}

set_option maxRecDepth 100000 in
theorem fate_in {fuel : Nat} {cs : List Value} {x : DataW H × List MemPlace} (h : DataW.trod enc Tryz.prog W 0 (fun _ => true) true fuel 68 cs = some x) : ∃ f : Fate, cs = (fcells f).toList ∧ f.Ok := by
  obtain ⟨xs, n, _, _, hl, hlen, hg⟩ := DataW.trod_struct Tryz.underlying68 h
  rw [Tryz.cells33] at hl
  match cs, hl with
  | [c0, c1, c2, c3], _ =>
    match xs, hlen with
    | [y0, y1, y2, y3], _ =>
      have g0 := hg 0 _ rfl
      have g1 := hg 1 _ rfl
      have g2 := hg 2 _ rfl
      have g3 := hg 3 _ rfl
      obtain ⟨a0, e0, _, w0⟩ := DataW.trod_int Tryz.underlying66 g0
      obtain ⟨a1, e1, _, w1⟩ := DataW.trod_int Tryz.underlying3 g1
      obtain ⟨a2, e2, _, w2⟩ := DataW.trod_int Tryz.underlying3 g2
      obtain ⟨a3, e3, _⟩ := DataW.trod_bool Tryz.underlying4 g3
      cases e0; cases e1; cases e2; cases e3
      exact ⟨⟨a0, a1, a2, a3⟩, rfl, ⟨(u64_of_wf w0).1, (u64_of_wf w0).2⟩⟩
set_option maxRecDepth 100000 in
theorem slice_of {fuel : Nat} {c : Value} {x : DataW H × List MemPlace} (h : DataW.trod enc Tryz.prog W 0 (fun _ => true) true fuel 30 [c] = some x) : ∃ A xs cap, c = .slice A (xs : List UInt8).length cap ∧ BR W W.heap.size A xs := by
  rcases DataW.trod_slice Tryz.underlying30 h with ⟨e, _⟩ | ⟨a, len, cap, _, _, _, _, e, _⟩
  · cases e
    exact ⟨none, [], 0, rfl, BR.nil⟩
  · cases e
    obtain ⟨xs, rfl, hb, _⟩ := bytes_in (H := H) (enc := enc) (W := W) (a := some a) (cap := cap) (d := x.1) (p := x.2) ⟨fuel, h⟩
    exact ⟨some a, xs, cap, rfl, hb⟩
end Go.Proofs.YtacghpabjmnfiaaGreatDoor
