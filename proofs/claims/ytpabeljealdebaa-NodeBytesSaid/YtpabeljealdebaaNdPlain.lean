/-
  A node's bytes, plainly.
-/
import Derived.Test.YtpabeljealdebaaPutGet
import Derived.Test.YtpabeljealdebaaNdIt
namespace Go.Proofs.Ytpabeljealdebaa
open Go.RowKit

/-- The node whose bytes these are, its first k numbers alone. -/
def decT (xs : List UInt8) (k : Nat) : List Int := (List.range 32).map fun i => if i < k then (num xs (2 * (i : Int)) 2 : Int) else 0
theorem decT_len (xs : List UInt8) (k : Nat) : (decT xs k).length = 32 := by simp [decT]
theorem decT_zero (xs : List UInt8) : decT xs 0 = z32 := by
  simp [decT, z32, List.map_const']
theorem decT_step (xs : List UInt8) (k : Nat) : (decT xs k).set k (num xs (2 * (k : Int)) 2 : Int) = decT xs (k + 1) := by
  refine List.ext_getElem (by simp [decT]) fun i h1 h2 => ?_
  rw [List.getElem_set]
  simp only [decT, List.getElem_map, List.getElem_range]
  by_cases e : k = i
  · subst e; simp
  · rw [if_neg e]
    by_cases h : i < k
    · rw [if_pos h, if_pos (by omega)]
    · rw [if_neg h, if_neg (by omega)]
def decN (xs : List UInt8) : List Int := decT xs 32
theorem decN_len (xs : List UInt8) : (decN xs).length = 32 := decT_len xs 32
theorem num2_lt (xs : List UInt8) (a : Int) : num xs a 2 < 65536 := num_lt xs a 2

/-- A number as 64 bits. -/
def u64N (z : Int) : Nat := (z % 18446744073709551616).toNat
theorem u64N_wrap (z : Int) : IntKind.u64.wrap z = (u64N z : Int) := by
  rw [IntKind.wrap_u64]
  unfold u64N
  omega
/-- The bytes of a node, its first k numbers alone. -/
def encB (zs : List Int) (k : Nat) : List UInt8 := (List.range 64).map fun j => if j < 2 * k then byteN (u64N (zs.getD (j / 2) 0)) (j % 2) else 0
theorem encB_len (zs : List Int) (k : Nat) : (encB zs k).length = 64 := by simp [encB]
theorem encB_zero (zs : List Int) : encB zs 0 = List.replicate 64 0 := by simp [encB, List.map_const']
theorem encB_get (zs : List Int) (k i : Nat) (hi : i < 64) : (encB zs k).getD i 0 = if i < 2 * k then byteN (u64N (zs.getD (i / 2) 0)) (i % 2) else 0 := by
  simp [encB, List.getD_eq_getElem?_getD, hi]
theorem encB_put (zs : List Int) (k : Nat) (hk : k < 32) : putL (encB zs k) (2 * (k : Int)) (u64N (zs.getD k 0)) 2 = encB zs (k + 1) := by
  refine List.ext_getElem (by rw [putL_len, encB_len, encB_len]) fun i h1 h2 => ?_
  have hi : i < 64 := by rw [encB_len] at h2; exact h2
  have e1 := putL_get (encB zs k) (2 * (k : Int)) (u64N (zs.getD k 0)) 2 i (by omega) (by rw [encB_len]; exact hi)
  rw [encB_get _ _ _ hi] at e1
  have e2 := encB_get zs (k + 1) i hi
  rw [List.getD_eq_getElem?_getD, List.getElem?_eq_getElem h1] at e1
  rw [List.getD_eq_getElem?_getD, List.getElem?_eq_getElem h2] at e2
  simp only [Option.getD_some] at e1 e2
  rw [e1, e2]
  by_cases h : 2 * k ≤ i ∧ i < 2 * k + 2
  · rw [if_pos (by omega), if_pos (by omega)]
    rw [show i / 2 = k from by omega, show ((i : Int) - 2 * (k : Int)).toNat = i % 2 from by omega]
  · rw [if_neg (by omega)]
    by_cases h' : i < 2 * k
    · rw [if_pos h', if_pos (by omega)]
    · rw [if_neg h', if_neg (by omega)]
theorem byteN_zero (j : Nat) : byteN 0 j = 0 := by simp [byteN]
theorem encB_skip (zs : List Int) (k : Nat) (h : zs.getD k 0 = 0) : encB zs (k + 1) = encB zs k := by
  unfold encB
  refine List.map_congr_left fun j _ => ?_
  by_cases h1 : j < 2 * k
  · rw [if_pos h1, if_pos (by omega)]
  · rw [if_neg h1]
    split
    · rw [show j / 2 = k from by omega, h]
      exact byteN_zero _
    · rfl
/-- The bytes that come of entries, one behind the other. -/
def encF (l : List EN) : List UInt8 := l.foldl (fun b x => putL b (2 * (x.1.1 : Int)) (u64N x.1.2) 2) (List.replicate 64 0)
theorem encF_snoc (l : List EN) (x : EN) : encF (l ++ [x]) = putL (encF l) (2 * (x.1.1 : Int)) (u64N x.1.2) 2 := by simp [encF]
theorem encF_len (l : List EN) : (encF l).length = 64 := by
  have : ∀ (l : List EN) (s : List UInt8), (l.foldl (fun b x => putL b (2 * (x.1.1 : Int)) (u64N x.1.2) 2) s).length = s.length := by
    intro l
    induction l with
    | nil => intro s; rfl
    | cons x r ih => intro s; rw [List.foldl_cons, ih, putL_len]
  rw [encF, this]
  simp
theorem encF_ents (zs : List Int) (k : Nat) (hk : k ≤ 32) : encF (entsK zs k) = encB zs k := by
  induction k with
  | zero => rw [encB_zero]; rfl
  | succ k ih =>
    have ih := ih (by omega)
    rw [entsK]
    split
    · rw [encF_snoc, ih]
      exact encB_put zs k (by omega)
    · rename_i hz
      have h0 : zs.getD k 0 = 0 := Classical.byContradiction fun h => hz ⟨by omega, h⟩
      rw [ih, encB_skip _ _ h0]
theorem encB_num (zs : List Int) (k : Nat) (hk : k < 32) : num (encB zs 32) (2 * (k : Int)) 2 = u64N (zs.getD k 0) % 65536 := by
  refine num_of_bytes _ _ _ 2 fun j hj => ?_
  rw [byt_in _ _ (by omega), encB_get _ _ _ (by omega), if_pos (by omega)]
  rw [show (2 * (k : Int) + (j : Int)).toNat / 2 = k from by omega, show (2 * (k : Int) + (j : Int)).toNat % 2 = j from by omega]
/-- May the node be written? -/
def okN (zs : List Int) : Bool := zs.all fun z => decide (0 ≤ z ∧ z ≤ 65535)
theorem decN_encB (zs : List Int) (hl : zs.length = 32) : decide (decN (encB zs 32) = zs) = okN zs := by
  rw [Bool.eq_iff_iff, decide_eq_true_eq]
  unfold okN
  rw [List.all_eq_true]
  constructor
  · intro h z hz
    obtain ⟨i, hi, rfl⟩ := List.mem_iff_getElem.1 hz
    have : zs[i] = (num (encB zs 32) (2 * (i : Int)) 2 : Int) := by
      have h' : (decN (encB zs 32))[i]? = zs[i]? := by rw [h]
      rw [List.getElem?_eq_getElem hi, List.getElem?_eq_getElem (by rw [decN_len]; omega)] at h'
      simp only [Option.some.injEq] at h'
      rw [← h']
      simp [decN, decT]
      omega
    have hb := num2_lt (encB zs 32) (2 * (i : Int))
    simp only [decide_eq_true_eq]
    omega
  · intro h
    refine List.ext_getElem (by rw [decN_len, hl]) fun i h1 h2 => ?_
    have hi : i < 32 := by omega
    have hz := h zs[i] (List.getElem_mem h2)
    simp only [decide_eq_true_eq] at hz
    have e : zs.getD i 0 = zs[i] := by rw [List.getD_eq_getElem?_getD, List.getElem?_eq_getElem h2]; rfl
    simp only [decN, decT, List.getElem_map, List.getElem_range, if_pos hi]
    rw [encB_num zs i hi, e]
    unfold u64N
    omega
/-- What Encode answers: bytes, the error's number. -/
def encO (zs : List Int) : List UInt8 := if okN zs = true then encB zs 32 else []
def encN (zs : List Int) : Int := if okN zs = true then 0 else 1
/-- What Decode answers. -/
def decO (xs : List UInt8) : List Int := if xs.length = 64 then decN xs else z32
def decE (xs : List UInt8) : Int := if xs.length = 64 then 0 else 1
theorem decO_len (xs : List UInt8) : (decO xs).length = 32 := by
  unfold decO
  split
  · exact decN_len xs
  · exact z32_len
end Go.Proofs.Ytpabeljealdebaa
