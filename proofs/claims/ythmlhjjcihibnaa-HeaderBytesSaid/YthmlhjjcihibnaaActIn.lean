/-
  ActIn
-/
import Derived.Test.YthmlhjjcihibnaaGA
import Derived.Test.YthmlhjjcihibnaaGDk
import Derived.ChangeArms
namespace Go.Proofs.Ythmlhjjcihibnaa
open Go.ChangeShapes Go.WideShapes Go.ChangeAt Go.RowKit

theorem Try.cells30 : Try.prog.cellsOf 22 = 1 := by kernel_rfl
theorem Try.cells3 : Try.prog.cellsOf 3 = 1 := by kernel_rfl
theorem Try.cells31 : Try.prog.cellsOf 77 = 1 := by kernel_rfl
theorem Try.cells4 : Try.prog.cellsOf 4 = 1 := by kernel_rfl

/-- A call: which, its number, its bytes, its fate. -/
structure ActV where
  do_ : Int
  n : Int
  A : Option Addr
  xs : List UInt8
  c : Nat
  f : Fate
def acells (a : ActV) : List Value := [.int .i64 a.do_, .int .i64 a.n, .slice a.A a.xs.length a.c, .int .u64 a.f.stay, .int .i64 a.f.torn, .int .i64 a.f.cut, .bool a.f.head]
structure ActV.Ok (W : World) (a : ActV) : Prop where
  br : BR W W.heap.size a.A a.xs
  fate : a.f.Ok
  n0 : -9223372036854775808 ≤ a.n
  n1 : a.n ≤ 9223372036854775807

variable {H : Type} {enc : TypeId × Value → H} {W : World}

set_option maxRecDepth 100000 in
theorem slice_of {fuel : Nat} {c : Value} {x : DataW H × List MemPlace} (h : DataW.trod enc Try.prog W 0 (fun _ => true) true fuel 22 [c] = some x) : ∃ A xs cap, c = .slice A (xs : List UInt8).length cap ∧ BR W W.heap.size A xs := by
  rcases DataW.trod_slice Try.underlying22 h with ⟨e, _⟩ | ⟨a, len, cap, _, _, _, _, e, _⟩
  · cases e
    exact ⟨none, [], 0, rfl, BR.nil⟩
  · cases e
    obtain ⟨xs, rfl, hb, _⟩ := bytes_in (H := H) (enc := enc) (W := W) (a := some a) (cap := cap) (d := x.1) (p := x.2) ⟨fuel, h⟩
    exact ⟨some a, xs, cap, rfl, hb⟩
end Go.Proofs.Ythmlhjjcihibnaa
