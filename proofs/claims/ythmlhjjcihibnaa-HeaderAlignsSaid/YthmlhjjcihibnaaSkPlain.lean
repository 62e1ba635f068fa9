/-
  SkPlain
-/
import Derived.Test.YthmlhjjcihibnaaMmNum
import Derived.Test.YthmlhjjcihibnaaGLe
import Derived.Test.YthmlhjjcihibnaaPutLaws
namespace Go.Proofs.Ythmlhjjcihibnaa.Sk
open Go.RowKit Mm
set_option linter.unusedVariables false

theorem celS {A B : List UInt8} {a : Int} (h : ∀ j : Nat, j < 8 → byt A (a + j) = byt B (a + j)) : cel A a = cel B a := by
  unfold cel
  rw [num_congr 8 h]
theorem setM_get (M : List UInt8) (a n : Int) (i : Nat) (ha : 0 ≤ a) (hi : i < M.length) : (setM M a n).getD i 0 = if a ≤ i ∧ (i : Int) < a + 8 then byteN (IntKind.u64.wrap n).toNat ((i : Int) - a).toNat else M.getD i 0 := putL_get M a _ 8 i ha hi
theorem cel_set (M : List UInt8) (a n : Int) (ha : 0 ≤ a) (hl : a ≤ (M.length : Int) - 8) (h1 : -9223372036854775808 ≤ n) (h2 : n ≤ 9223372036854775807) : cel (setM M a n) a = n := back_cel M a n ha hl h1 h2
theorem cel_off (M : List UInt8) (a b n : Int) (ha : 0 ≤ a) (hb : 0 ≤ b) (hl : b ≤ (M.length : Int) - 8) (h : a + 8 ≤ b ∨ b + 8 ≤ a) : cel (setM M a n) b = cel M b := by
  refine celS fun j hj => ?_
  rw [byt_in _ _ (by omega), byt_in _ _ (by omega), setM_get _ _ _ _ ha (by omega), if_neg (by omega)]
theorem set_set (M : List UInt8) (a x y : Int) (ha : 0 ≤ a) : setM (setM M a x) a y = setM M a y := by
  refine ext_getD (by rw [setM_len, setM_len, setM_len]) fun i hi => ?_
  rw [setM_len, setM_len] at hi
  rw [setM_get _ _ _ _ ha (by rw [setM_len]; exact hi), setM_get _ _ _ _ ha hi, setM_get _ _ _ _ ha hi]
  split <;> rfl
theorem set_comm (M : List UInt8) (a b x y : Int) (ha : 0 ≤ a) (hb : 0 ≤ b) (h : a + 8 ≤ b ∨ b + 8 ≤ a) : setM (setM M a x) b y = setM (setM M b y) a x := by
  refine ext_getD (by simp only [setM_len]) fun i hi => ?_
  simp only [setM_len] at hi
  rw [setM_get _ _ _ _ hb (by rw [setM_len]; exact hi), setM_get _ _ _ _ ha hi, setM_get _ _ _ _ ha (by rw [setM_len]; exact hi), setM_get _ _ _ _ hb hi]
  by_cases c1 : b ≤ i ∧ (i : Int) < b + 8
  · rw [if_pos c1, if_pos c1, if_neg (by omega)]
  · rw [if_neg c1, if_neg c1]

/-- One of the two stacks: where the cell of its top stands, its bounds, its throws. -/
structure Pa (a lo hi ov un : Int) : Prop where
  it : (a = 32 ∧ lo = 256 ∧ hi = 512 ∧ ov = -3 ∧ un = -4) ∨ (a = 40 ∧ lo = 512 ∧ hi = 768 ∧ ov = -5 ∧ un = -6)
theorem paD : Pa 32 256 512 (-3) (-4) := ⟨by simp⟩
theorem paB : Pa 40 512 768 (-5) (-6) := ⟨by simp⟩
theorem Pa.bd {a lo hi ov un : Int} (h : Pa a lo hi ov un) : 32 ≤ a ∧ a ≤ 40 ∧ 256 ≤ lo ∧ lo ≤ 512 ∧ hi ≤ lo + 256 ∧ lo + 256 ≤ hi ∧ hi ≤ 768 ∧ lo % 8 = 0 ∧ -6 ≤ ov ∧ ov < 0 ∧ -6 ≤ un ∧ un < 0 := by
  rcases h.it with ⟨rfl, rfl, rfl, rfl, rfl⟩ | ⟨rfl, rfl, rfl, rfl, rfl⟩ <;> simp

/-- The top's address, as it counts. -/
def topV (n lo hi : Int) : Int := if n < lo ∨ hi < n ∨ ¬ n.tmod 8 = 0 then hi else n
def topL (M : List UInt8) (a lo hi : Int) : Int := topV (cel M a) lo hi
theorem topV_is {n lo hi : Int} (h0 : 0 ≤ lo) (h1 : lo ≤ n) (h2 : n ≤ hi) (h3 : n % 8 = 0) : topV n lo hi = n := by
  unfold topV
  rw [if_neg]
  rw [Int.tmod_eq_emod_of_nonneg (by omega)]
  omega
theorem topV_bd {n lo hi : Int} (h0 : 0 ≤ lo) (h1 : lo ≤ hi) (h3 : hi % 8 = 0) : lo ≤ topV n lo hi ∧ topV n lo hi ≤ hi ∧ topV n lo hi % 8 = 0 := by
  unfold topV
  split
  · omega
  · rename_i h
    rw [Int.tmod_eq_emod_of_nonneg (by omega)] at h
    omega
theorem Pa.top {a lo hi ov un : Int} (h : Pa a lo hi ov un) (M : List UInt8) : ∃ k : Nat, k ≤ 32 ∧ topL M a lo hi = hi - 8 * (k : Int) := by
  have b := h.bd
  have t := topV_bd (n := cel M a) (lo := lo) (hi := hi) (by omega) (by omega) (by omega)
  refine ⟨((hi - topL M a lo hi) / 8).toNat, ?_, ?_⟩ <;> unfold topL <;> omega

/-- Cells laid one by one below t. -/
def layC (M : List UInt8) (t : Int) : List Int → List UInt8
  | [] => M
  | n :: l => layC (setM M (t - 8) n) (t - 8) l
theorem layC_len (l : List Int) : ∀ (M : List UInt8) (t : Int), (layC M t l).length = M.length := by
  induction l with
  | nil => intro M t; rfl
  | cons n l ih => intro M t; rw [layC, ih, setM_len]
theorem layC_snoc (l : List Int) (n : Int) : ∀ (M : List UInt8) (t : Int), layC M t (l ++ [n]) = setM (layC M t l) (t - 8 * (l.length : Int) - 8) n := by
  induction l with
  | nil => intro M t; simp [layC]
  | cons m l ih =>
    intro M t
    rw [List.cons_append, layC, ih, layC]
    congr 1
    simp only [List.length_cons]
    omega
/-- The document's way: each cell, then the top. -/
def pushD (M : List UInt8) (a t n : Int) : List UInt8 := setM (setM M (t - 8) n) a (t - 8)
def pushesD (M : List UInt8) (a t : Int) : List Int → List UInt8
  | [] => M
  | n :: l => pushesD (pushD M a t n) a (t - 8) l
theorem layC_set {a : Int} (ha : 0 ≤ a) (x : Int) (l : List Int) : ∀ (M : List UInt8) (t : Int), a + 8 + 8 * (l.length : Int) ≤ t → layC (setM M a x) t l = setM (layC M t l) a x := by
  induction l with
  | nil => intro M t _; rfl
  | cons n l ih =>
    intro M t h
    simp only [List.length_cons] at h
    rw [layC, layC, set_comm _ _ _ _ _ ha (by omega) (by omega), ih _ _ (by omega)]
/-- All of them at once: the top first, then the cells. -/
def laysL (M : List UInt8) (a t : Int) (l : List Int) : List UInt8 := if l = [] then M else layC (setM M a (t - 8 * (l.length : Int))) t l
theorem pushes_lays {a : Int} (ha : 0 ≤ a) (l : List Int) : ∀ (M : List UInt8) (t : Int), a + 8 + 8 * (l.length : Int) ≤ t → pushesD M a t l = laysL M a t l := by
  induction l with
  | nil => intro M t _; rfl
  | cons n l ih =>
    intro M t h
    simp only [List.length_cons] at h
    rw [pushesD, ih _ _ (by omega)]
    unfold laysL pushD
    rw [if_neg (by simp : ¬ n :: l = [])]
    by_cases e : l = []
    · subst e
      rw [if_pos rfl]
      simp only [layC, List.length_singleton]
      rw [set_comm _ _ _ _ _ (by omega) ha (by omega)]
      simp
    · rw [if_neg e, set_set _ _ _ _ ha, layC, set_comm _ _ _ _ _ (by omega) ha (by omega)]
      simp only [List.length_cons]
      rw [show t - 8 - 8 * (l.length : Int) = t - 8 * ((l.length + 1 : Nat) : Int) by omega]
/-- The n top cells from t on, the top one last. -/
def takeL (M : List UInt8) (t : Int) (n : Nat) : List Int := (List.range n).map fun i => cel M (t + 8 * ((n - 1 - i : Nat) : Int))
theorem takeL_len (M : List UInt8) (t : Int) (n : Nat) : (takeL M t n).length = n := by rw [takeL, List.length_map, List.length_range]
theorem range_map_get (f : Nat → Int) (n i : Nat) (h : i < n) : ((List.range n).map f).getD i 0 = f i := by
  simp [List.getD_eq_getElem?_getD, h]
theorem takeL_get (M : List UInt8) (t : Int) (n i : Nat) (h : i < n) : (takeL M t n).getD i 0 = cel M (t + 8 * ((n - 1 - i : Nat) : Int)) := range_map_get _ n i h
end Go.Proofs.Ythmlhjjcihibnaa.Sk
