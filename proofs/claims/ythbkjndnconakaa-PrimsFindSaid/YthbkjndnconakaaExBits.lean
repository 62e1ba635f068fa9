/-
  ExBits
-/
import Derived.Test.YthbkjndnconakaaRows
import Derived.Test.YthbkjndnconakaaExPlain
import Derived.Test.YthbkjndnconakaaGA
import Derived.Lib.Tables
import Derived.Shelf.Spec.TrailingZeros
import Derived.StillTailTactics
import Derived.Deep.QuietTactic
import Derived.BigQuiet
import Derived.WalkSmall
import Derived.Lib.Hide
namespace Go.Proofs.Ythbkjndnconakaa.Ex
open Go.RowKit

/-- The table behind TrailingZeros32 stands in its variable, block 0. -/
def Tab (w : World) : Prop := TabAt 0 Lib.deBruijn32tab w
theorem Tab.keep {w w' : World} (h : Tab w) (hb : w'.heap[0]? = w.heap[0]?) : Tab w' := fun j hj => (World.cell?_of_block (w := w) (w' := w') (a := ⟨0, j, none⟩) hb).trans (h j hj)
theorem Tab.pos {w : World} (h : Tab w) : 0 < w.heap.size := World.block_lt_of_cell? _ _ (h 0 (by decide))
theorem Tab.below {w w' : World} (h : Tab w) {B : Nat} (hb : Below B w w') (hB : 0 < B) : Tab w' := h.keep (hb.block 0 hB)

theorem pop8_eq : ∀ n : Fin 256, Lib.pop8 (n.val : Int) = (Sp.popN 8 n.val : Int) := by decide +kernel
theorem pop8_nat (n : Nat) (h : n < 256) : Lib.pop8 (n : Int) = (Sp.popN 8 n : Int) := pop8_eq ⟨n, h⟩
theorem ones_sum (x : Nat) : Sp.popN 8 (x / 16777216) + Sp.popN 8 (x / 65536 % 256) + Sp.popN 8 (x / 256 % 256) + Sp.popN 8 (x % 256) = Sp.popN 32 x := by
  have e1 := Sp.popN_bytes 24 x
  have e2 := Sp.popN_bytes 16 (x / 256)
  have e3 := Sp.popN_bytes 8 (x / 256 / 256)
  have e4 : x / 256 / 256 = x / 65536 := by omega
  have e5 : x / 65536 / 256 = x / 16777216 := by omega
  rw [e4] at e2 e3
  rw [e5] at e3
  simp only [Nat.reduceAdd] at e1 e2 e3
  omega
theorem foldPop : (⟨(([0, 1, 1, 2, 1, 2, 2, 3, 1, 2, 2, 3, 2, 3, 3, 4, 1, 2, 2, 3, 2, 3, 3, 4, 2, 3, 3, 4, 3, 4, 4, 5, 1, 2, 2, 3, 2, 3, 3, 4, 2, 3, 3, 4, 3, 4, 4, 5, 2, 3, 3, 4, 3, 4, 4, 5, 3, 4, 4, 5, 4, 5, 5, 6].append
  [1, 2, 2, 3, 2, 3, 3, 4, 2, 3, 3, 4, 3, 4, 4, 5, 2, 3, 3, 4, 3, 4, 4, 5, 3, 4, 4, 5, 4, 5, 5, 6, 2, 3, 3, 4, 3, 4, 4, 5, 3, 4, 4, 5, 4, 5, 5, 6, 3, 4, 4, 5, 4, 5, 5, 6, 4, 5, 5, 6, 5, 6, 6, 7]).append
  ([1, 2, 2, 3, 2, 3, 3, 4, 2, 3, 3, 4, 3, 4, 4, 5, 2, 3, 3, 4, 3, 4, 4, 5, 3, 4, 4, 5, 4, 5, 5, 6, 2, 3, 3, 4, 3, 4, 4, 5, 3, 4, 4, 5, 4, 5, 5, 6, 3, 4, 4, 5, 4, 5, 5, 6, 4, 5, 5, 6, 5, 6, 6, 7].append
  [2, 3, 3, 4, 3, 4, 4, 5, 3, 4, 4, 5, 4, 5, 5, 6, 3, 4, 4, 5, 4, 5, 5, 6, 4, 5, 5, 6, 5, 6, 6, 7, 3, 4, 4, 5, 4, 5, 5, 6, 4, 5, 5, 6, 5, 6, 6, 7, 4, 5, 5, 6, 5, 6, 6, 7, 5, 6, 6, 7, 6, 7, 7, 8])).toArray⟩ : ByteArray) = Lib.pop8tab := by kernel_rfl
theorem and_255 (y : Nat) (hy : y < 4294967296) : bits .and .u32 (y : Int) 255 = (y : Int) % 256 := by
  have := andI y 255 hy (by decide)
  rw [show y &&& 255 = y % 256 from by rw [show (255 : Nat) = 2 ^ 8 - 1 from rfl, Nat.and_two_pow_sub_one_eq_mod]] at this
  exact this
end Go.Proofs.Ythbkjndnconakaa.Ex
