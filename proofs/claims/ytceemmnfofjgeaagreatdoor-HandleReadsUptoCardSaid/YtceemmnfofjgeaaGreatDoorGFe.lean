/-
  Merged by wip/tools/merge.py: Cell PutCell PutLaws MmNum MmRef
-/
import Derived.Test.YtceemmnfofjgeaaGreatDoorGLe
import Derived.Test.YtceemmnfofjgeaaGreatDoorGMm
namespace Go.Proofs.YtceemmnfofjgeaaGreatDoor
open Go.RowKit

/-- The cell at a place. -/
def cel (xs : List UInt8) (a : Int) : Int := wrap64 (num xs a 8 : Int)

set_option maxRecDepth 100000 in
set_option maxHeartbeats 400000 in
theorem leCell_any (A : Option Addr) (xs : List UInt8) (c : Nat) (a : Int) (w : World) (hx : BR w w.heap.size A xs) (hl' : xs.length ≤ 1000000) (ha : -9223372036854775808 ≤ a) :
    Calls Tryz.prog 176 #[.slice A xs.length c, .int .i64 a] w fun e w' => e = .returned (.int .i64 (cel xs a)) ∧ w = w' := by
  go_enter Tryz.func176, Tryz.ntmps176
  go_wp2_with (go_at_call 171; refine (leNum_any _ _ _ _ _ _ hx hl' ha).mono ?_; rintro e w' ⟨rfl, rfl⟩)
  go_ret
  exact ⟨rfl, rfl⟩

end Go.Proofs.YtceemmnfofjgeaaGreatDoor
namespace Go.Proofs.YtceemmnfofjgeaaGreatDoor
open Go.RowKit

end Go.Proofs.YtceemmnfofjgeaaGreatDoor
namespace Go.Proofs.YtceemmnfofjgeaaGreatDoor
open Go.RowKit

theorem back_num (xs : List UInt8) (a : Int) (n : Nat) (ha : 0 ≤ a) (hl : a ≤ xs.length - 8) : num (putL xs a n 8) a 8 = n % 2 ^ 64 := by
  refine num_of_bytes _ a n 8 fun j hj => ?_
  rw [byt_in _ _ (by omega), putL_get xs a n 8 _ ha (by omega), if_pos (by omega)]
  rw [show (((a + j).toNat : Nat) : Int) - a = j from by omega, Int.toNat_natCast]
theorem back_cel (xs : List UInt8) (a n : Int) (ha : 0 ≤ a) (hl : a ≤ xs.length - 8) (h1 : -9223372036854775808 ≤ n) (h2 : n ≤ 9223372036854775807) : cel (putL xs a (IntKind.u64.wrap n).toNat 8) a = n := by
  unfold cel wrap64
  rw [back_num xs a _ ha hl, IntKind.wrap_u64]
  omega
theorem back_else (xs : List UInt8) (a : Int) (n i : Nat) (ha : 0 ≤ a) (hi : i < xs.length) (h : (i : Int) < a ∨ a + 8 ≤ i) : (putL xs a n 8).getD i 0 = xs.getD i 0 := by
  rw [putL_get xs a n 8 i ha hi, if_neg (by omega)]
end Go.Proofs.YtceemmnfofjgeaaGreatDoor
namespace Go.Proofs.YtceemmnfofjgeaaGreatDoor.Mm
open Go.RowKit
set_option linter.unusedVariables false

theorem loadL_all (M : List UInt8) (hm : M.length = 8192) : loadL M 0 8192 = M := by
  refine ext_getD (by rw [loadL_len, hm]) fun k hk => ?_
  rw [loadL_len] at hk
  rw [getD_loadL _ _ _ _ hk, byt_in _ _ (by omega)]
  congr 1
  omega
theorem num_congr {xs ys : List UInt8} {a b : Int} : ∀ k : Nat, (∀ j : Nat, j < k → byt xs (a + j) = byt ys (b + j)) → num xs a k = num ys b k
  | 0, _ => rfl
  | k + 1, h => by rw [num, num, num_congr k fun j hj => h j (by omega), h k (by omega)]
theorem cel_load (M : List UInt8) (a : Int) : cel (loadL M a 8) 0 = cel M a := by
  unfold cel
  rw [num_congr (ys := M) (b := a) 8 fun j hj => ?_]
  rw [byt_in _ _ (by omega), show ((0 : Int) + j).toNat = j by omega, getD_loadL _ _ _ _ hj]
theorem putL_get' (xs : List UInt8) (a : Int) (n k i : Nat) (hi : i < xs.length) :
    (putL xs a n k).getD i 0 = if a ≤ i ∧ (i : Int) < a + k then byteN n ((i : Int) - a).toNat else xs.getD i 0 := by
  induction k with
  | zero => rw [if_neg (by omega)]; rfl
  | succ k ih =>
    by_cases h0 : 0 ≤ a + k
    · rw [putL, setAt_in _ _ _ h0, List.getD_eq_getElem?_getD, List.getElem?_set]
      by_cases e : (a + k).toNat = i
      · rw [if_pos e, if_pos (by rw [putL_len]; omega), if_pos (by omega)]
        rw [show ((i : Int) - a).toNat = k from by omega]; rfl
      · rw [if_neg e, ← List.getD_eq_getElem?_getD, ih]
        by_cases h : a ≤ i ∧ (i : Int) < a + k
        · rw [if_pos h, if_pos (by omega)]
        · rw [if_neg h, if_neg (by omega)]
    · rw [putL, setAt_out _ _ _ (by omega), ih, if_neg (by omega), if_neg (by omega)]
theorem layL_put (M : List UInt8) (a : Int) (n : Nat) : layL M a (putL (List.replicate 8 0) 0 n 8) = putL M a n 8 := by
  have hl : (putL (List.replicate 8 (0 : UInt8)) 0 n 8).length = 8 := by rw [putL_len]; rfl
  refine ext_getD (by rw [layL_len, putL_len]) fun k hk => ?_
  rw [layL_len] at hk
  rw [getD_layL _ _ _ _ hk, putL_get' _ _ _ _ _ hk, hl]
  by_cases h : a ≤ k ∧ (k : Int) < a + (8 : Nat)
  · rw [if_pos h, if_pos h, byt_in _ _ (by omega), putL_get' _ _ _ _ _ (by simp; omega), if_pos (by omega)]
    congr 1
  · rw [if_neg h, if_neg h]

/-! ### answers -/
def byteV (M : List UInt8) (a : Int) : Int := if a < 0 ∨ 8192 ≤ a then 0 else ((byt M a).toNat : Int)
def setM (M : List UInt8) (a n : Int) : List UInt8 := putL M a (IntKind.u64.wrap n).toNat 8
theorem setM_len (M : List UInt8) (a n : Int) : (setM M a n).length = M.length := putL_len _ _ _ _
end Go.Proofs.YtceemmnfofjgeaaGreatDoor.Mm
namespace Go.Proofs.YtceemmnfofjgeaaGreatDoor
open Go.RowKit Go.Maps
theorem Own8.keeps' {w w' : World} {B g : Nat} {t : TypeId} {cap : Nat} {zs : List UInt8} (h : Own8 w B t (some ⟨g, 0, none⟩) cap zs) {F : Nat → Prop} (k : Keeps F w w') (hF : ¬ F g) : Own8 w' B t (some ⟨g, 0, none⟩) cap zs := by
  refine ⟨h.1, ?_⟩
  rcases h.2 with ⟨e, _⟩ | ⟨g', cap', cur, hv, hb, hgg, rest⟩
  · cases e
  · injection hv with e1 e2 e3
    injection e1 with e1
    injection e1 with e1
    subst e1
    exact Or.inr ⟨g, cap', cur, by rw [e3], hb, (k.block g (Array.getElem?_eq_some_iff.1 hgg).1 hF).trans hgg, rest⟩
theorem Own8.lt' {w : World} {B g : Nat} {t : TypeId} {cap : Nat} {zs : List UInt8} (h : Own8 w B t (some ⟨g, 0, none⟩) cap zs) : B ≤ g ∧ g < w.heap.size := World.ownsRow.lt h g rfl
theorem Own8.low {w : World} {B B' : Nat} {t : TypeId} {R : Option Addr} {cap : Nat} {zs : List UInt8} (h : Own8 w B t R cap zs) (hB : B' ≤ B) : Own8 w B' t R cap zs := by
  refine ⟨h.1, ?_⟩
  rcases h.2 with h0 | ⟨g, cap', cur, hv, hb, rest⟩
  · exact Or.inl h0
  · exact Or.inr ⟨g, cap', cur, hv, Nat.le_trans hB hb, rest⟩
end Go.Proofs.YtceemmnfofjgeaaGreatDoor
namespace Go.Proofs.YtceemmnfofjgeaaGreatDoor.Mm
open Go.RowKit Go.Maps
set_option linter.unusedVariables false

def refCells (b c d e : Nat) : Array Value := #[.slice (some ⟨b, 0, none⟩) 8192 c, .slice (some ⟨d, 0, none⟩) 8192 e, .bool false]
/-- The document's memory at block q: B now, G as it was; its blocks are from mi on. -/
structure RefH (w : World) (mi q b c d e : Nat) (B G : List UInt8) : Prop where
  q0 : mi ≤ q
  bl : B.length = 8192
  gl : G.length = 8192
  head : w.heap[q]? = some (.cells (refCells b c d e) 46 (0, 0))
  now : Own8 w mi 5 (some ⟨b, 0, none⟩) c B
  was : Own8 w mi 5 (some ⟨d, 0, none⟩) e G
  bq : b ≠ q
  dq : d ≠ q
  bd : b ≠ d
def MRefAt (w : World) (mi q : Nat) (B G : List UInt8) : Prop := ∃ b c d e, RefH w mi q b c d e B G

variable {w : World} {mi q b c d e : Nat} {B G : List UInt8}
theorem RefH.lt (h : RefH w mi q b c d e B G) : q < w.heap.size ∧ b < w.heap.size ∧ d < w.heap.size := ⟨(Array.getElem?_eq_some_iff.1 h.head).1, h.now.lt'.2, h.was.lt'.2⟩
theorem RefH.keep {w' : World} {F : Nat → Prop} (h : RefH w mi q b c d e B G) (k : Keeps F w w') (hF : ∀ i, mi ≤ i → i < w.heap.size → ¬ F i) : RefH w' mi q b c d e B G :=
  ⟨h.q0, h.bl, h.gl, (k.block q h.lt.1 (hF q h.q0 h.lt.1)).trans h.head, h.now.keeps' k (hF b h.now.lt'.1 h.lt.2.1), h.was.keeps' k (hF d h.was.lt'.1 h.lt.2.2), h.bq, h.dq, h.bd⟩
theorem MRefAt.keep {w' : World} {F : Nat → Prop} (h : MRefAt w mi q B G) (k : Keeps F w w') (hF : ∀ i, mi ≤ i → i < w.heap.size → ¬ F i) : MRefAt w' mi q B G := by
  obtain ⟨b, c, d, e, h⟩ := h
  exact ⟨b, c, d, e, h.keep k hF⟩
theorem RefH.cs (h : RefH w mi q b c d e B G) : w.cell? ⟨q, 0, none⟩ = some (.slice (some ⟨b, 0, none⟩) 8192 c) ∧ w.cell? ⟨q, 1, none⟩ = some (.slice (some ⟨d, 0, none⟩) 8192 e) ∧ w.frozen? ⟨q, 0, none⟩ = false := by
  refine ⟨?_, ?_, frozen_of_row w q _ _ _ h.head⟩ <;> rw [cell_of_row _ _ _ _ _ _ h.head] <;> rfl
theorem RefH.br (h : RefH w mi q b c d e B G) : BR w w.heap.size (some ⟨b, 0, none⟩) B := h.now.br
theorem RefH.byte (h : RefH w mi q b c d e B G) {k : Nat} (hk : k < 8192) : w.cell? ⟨b, k, none⟩ = some (B8 (B.getD k 0)) ∧ w.frozen? ⟨b, k, none⟩ = false := by
  obtain ⟨g, e, _, _, h1, h2⟩ := h.now.at_ (k := k) (by rw [h.bl]; exact hk)
  cases e
  exact ⟨h1, h2⟩
/-- One of its bytes is written. -/
theorem RefH.set_ (h : RefH w mi q b c d e B G) (k : Nat) (u : UInt8) : RefH (w.setCell ⟨b, k, none⟩ (B8 u)) mi q b c d e (B.set k u) G := by
  have kk : Keeps (fun i => i = b) w (w.setCell ⟨b, k, none⟩ (B8 u)) := Keeps.setCell _ _ _ _ rfl
  exact ⟨h.q0, by rw [List.length_set, h.bl], h.gl, (kk.block q h.lt.1 (fun e => h.bq e.symm)).trans h.head, h.now.set_ k u, h.was.keeps' kk (fun e => h.bd e.symm), h.bq, h.dq, h.bd⟩
end Go.Proofs.YtceemmnfofjgeaaGreatDoor.Mm
