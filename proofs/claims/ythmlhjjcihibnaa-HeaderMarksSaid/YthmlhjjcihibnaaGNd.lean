/-
  Merged by wip/tools/merge.py: NdPath Nd
-/
import Derived.Test.YthmlhjjcihibnaaRows
import Derived.Test.YthmlhjjcihibnaaGA
import Derived.WalkLawsBesides
import Derived.Lib.Hide
import Derived.Test.YthmlhjjcihibnaaGT
namespace Go.Proofs.Ythmlhjjcihibnaa
open Go.RowKit

/-- The way to a page: the entry of the top node, that of the leaf, the error's number. -/
def pathA (p : Int) : Int := if 0 ≤ p ∧ p < 128 then p / 32 else 0
def pathB (p : Int) : Int := if 0 ≤ p ∧ p < 128 then p % 32 else 0
def pathE (p : Int) : Int := if 0 ≤ p ∧ p < 128 then 0 else 1
/-- The page of a way, the error's number. -/
def pageN (t l : Int) : Int := if (0 ≤ t ∧ t < 4) ∧ 0 ≤ l ∧ l < 32 then t * 32 + l else 0
def pageE (t l : Int) : Int := if (0 ≤ t ∧ t < 4) ∧ 0 ≤ l ∧ l < 32 then 0 else 1

theorem ret_tri {a b c a' b' c' : Int} (h1 : a = a') (h2 : b = b') (h3 : c = c') : Ending.returned (.tuple #[.int .i64 a, .int .i64 b, .int .i64 c]) = .returned (.tuple #[.int .i64 a', .int .i64 b', .int .i64 c']) := by rw [h1, h2, h3]
theorem ret_two {a b a' b' : Int} (h1 : a = a') (h2 : b = b') : Ending.returned (.tuple #[.int .i64 a, .int .i64 b]) = .returned (.tuple #[.int .i64 a', .int .i64 b']) := by rw [h1, h2]

end Go.Proofs.Ythmlhjjcihibnaa
namespace Go.Proofs.Ythmlhjjcihibnaa
open Go.RowKit

abbrev I6 (z : Int) : Value := .int .i64 z
/-- A node as one value. -/
def ng (zs : List Int) : Value := .agg (zs.map I6).toArray
def z32 : List Int := List.replicate 32 0
theorem z32_len : z32.length = 32 := by simp [z32]

theorem sizeI (w : World) : (sizeOf 3).run Try.prog w = .ok 1 w := by kernel_rfl
/-- The call hands back a node and a number, and has written nothing that was there. -/
def GivesNd (w : World) (zs : List Int) (E : Int) (e : Ending) (w' : World) : Prop := e = .returned (.tuple #[ng zs, .int .i64 E]) ∧ Below w.heap.size w w'

end Go.Proofs.Ythmlhjjcihibnaa
