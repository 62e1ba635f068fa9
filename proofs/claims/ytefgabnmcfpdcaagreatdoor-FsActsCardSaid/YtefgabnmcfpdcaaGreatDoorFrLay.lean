/-
  FrLay
-/
import Derived.Test.YtefgabnmcfpdcaaGreatDoorFrRead
import Derived.Test.YtefgabnmcfpdcaaGreatDoorGFd
namespace Go.Proofs.YtefgabnmcfpdcaaGreatDoor.Fr
open Go.RowKit Ex Ino Mm Fs
set_option linter.unusedVariables false
set_option linter.unusedSimpArgs false
theorem regB_len {M : List UInt8} (hm : M.length = 8192) : (regB M).length = 2048 := by simp [regB, hm]
theorem page_ext {x y : List UInt8} (hx : x.length = 2048) (hy : y.length = 2048) (h : ∀ k, k < 32 → page x k = page y k) : x = y := by
 refine ext_getD (by omega) fun i hi => ?_
 have h1 := h (i / 64) (by omega)
 have h2 := getD_page x (i / 64) (i % 64) (by omega)
 have h3 := getD_page y (i / 64) (i % 64) (by omega)
 rw [show i / 64 * 64 + i % 64 = i by omega] at h2 h3
 rw [← h2, ← h3, h1]
theorem node_back {b : List UInt8} (h : decE b = 0) : nodeL (decX b) = b := by
 unfold decE at h
 by_cases h1 : isIn b = true
 ·have h2 := h1
  unfold isIn at h2
  simp only [Bool.and_eq_true, decide_eq_true_eq] at h2
  unfold decX
  rw [if_pos h1, nodeL_chk h2.1, h2.2]
 ·rw [if_neg h1] at h
  split at h
  ·rename_i h2
   unfold decX
   rw [if_neg h1, nodeL_in0, h2]
  ·cases h
theorem bytes_same {bs : List UInt8} (hb : bs.length = 2048) (ho : okR bs) : bytesL ⟨bs, readN bs⟩ = bs := by
 have hr := readN_len bs
 refine page_ext (bytesL_len hb hr) hb fun k hk => ?_
 by_cases h0 : k = 0
 ·subst h0
  rw [bytesL_0]
  exact ho.2.2.symm
 by_cases h8 : k ≤ 8
 ·obtain ⟨i, rfl⟩ : ∃ i, k = 1 + i := ⟨k - 1, by omega⟩
  rw [bytesL_node hr (by omega)]
  show nodeL (at' (readN bs) i) = _
  rw [readN_at _ (by omega), node_back (ho.1 i (by omega))]
 ·rw [bytesL_data hr (by omega)]
theorem lay_reg {M : List UInt8} (hm : M.length = 8192) : layL M 6144 (regB M) = M := by
 refine ext_getD (by rw [layL_len]) fun i hi => ?_
 rw [layL_len] at hi
 rw [getD_layL _ _ _ _ hi, regB_len hm]
 split
 ·rw [byt_in _ _ (by omega)]
  unfold regB
  simp only [List.getD_eq_getElem?_getD, List.getElem?_drop]
  congr 2
  omega
 ·rfl
theorem lay_in {M R xs : List UInt8} (hm : M.length = 8192) (hR : R.length = 2048) {o : Nat} (h : o + xs.length ≤ 2048) : layL (layL M 6144 R) (6144 + (o : Int)) xs = layL M 6144 (splice R o xs) := by
 have hl := splice_len R xs o (by omega)
 refine ext_getD (by simp only [layL_len]) fun i hi => ?_
 rw [layL_len, layL_len] at hi
 rw [getD_layL _ _ _ _ (by rw [layL_len]; exact hi), getD_layL _ _ _ _ hi, getD_layL _ _ _ _ hi, hl, hR]
 by_cases h1 : i < 6144
 ·rw [if_neg (by omega), if_neg (by omega), if_neg (by omega)]
 rw [if_pos (show (6144 : Int) ≤ i ∧ (i : Int) < 6144 + (2048 : Nat) by omega), if_pos (show (6144 : Int) ≤ i ∧ (i : Int) < 6144 + (2048 : Nat) by omega), byt_in (splice R o xs) _ (by omega), byt_in R _ (by omega), Ino.splice_get _ _ _ _ (by omega)]
 by_cases h2 : 6144 + o ≤ i ∧ i < 6144 + o + xs.length
 ·rw [if_pos (by omega), if_pos (by omega), byt_in xs _ (by omega)]
  congr 1
  omega
 ·rw [if_neg (by omega), if_neg (by omega)]
theorem lay_page {M R x : List UInt8} (hm : M.length = 8192) (hR : R.length = 2048) {n : Nat} (hn : n < 32) (hx : x.length = 64) : layL (layL M 6144 R) (6144 + (n : Int) * 64) x = layL M 6144 (setPage R n x) := by
 rw [show (6144 : Int) + (n : Int) * 64 = 6144 + ((n * 64 : Nat) : Int) by omega]
 exact lay_in hm hR (by omega)
theorem setP_len {R x : List UInt8} {n : Nat} (hR : R.length = 2048) (hn : n < 32) (hx : x.length = 64) : (setPage R n x).length = 2048 := by
 unfold setPage
 rw [splice_len _ _ _ (by omega), hR]
theorem bytes_set {bs : List UInt8} (hb : bs.length = 2048) (ho : okR bs) {i : Nat} (hi : i < 8) (x : IN) (hu : usedN ((readN bs).set i x) = usedN (readN bs)) :
  setPage bs (1 + i) (nodeL x) = bytesL ⟨bs, (readN bs).set i x⟩ := by
 have hr := readN_len bs
 have hrs : ((readN bs).set i x).length = 8 := by rw [List.length_set, hr]
 refine page_ext (setP_len hb (by omega) (nodeL_len x)) (bytesL_len hb hrs) fun k hk => ?_
 rw [page_setP hb (nodeL_len x) (by omega) hk]
 by_cases h0 : k = 0
 ·subst h0
  rw [if_neg (by omega), bytesL_0, hu]
  exact ho.2.2
 by_cases h8 : k ≤ 8
 ·obtain ⟨j, rfl⟩ : ∃ j, k = 1 + j := ⟨k - 1, by omega⟩
  rw [bytesL_node hrs (by omega)]
  show _ = nodeL (at' ((readN bs).set i x) j)
  by_cases hj : j = i
  ·subst hj
   rw [if_pos rfl]
   unfold at'
   rw [List.getD_eq_getElem?_getD, List.getElem?_set_self (by omega)]
   rfl
  ·rw [if_neg (by omega)]
   have e : at' ((readN bs).set i x) j = at' (readN bs) j := by
    unfold at'
    rw [List.getD_eq_getElem?_getD, List.getElem?_set_ne (by omega), ← List.getD_eq_getElem?_getD]
   rw [e, readN_at _ (by omega), node_back (ho.1 j (by omega))]
 ·rw [if_neg (by omega), bytesL_data hrs (by omega)]
theorem bytes_set0 {bs : List UInt8} (hb : bs.length = 2048) (ho : okR bs) {i : Nat} (hi : i < 8) (x : IN) :
  setPage (setPage bs (1 + i) (nodeL x)) 0 (headL (usedN ((readN bs).set i x))) = bytesL ⟨bs, (readN bs).set i x⟩ := by
 have hr := readN_len bs
 have hrs : ((readN bs).set i x).length = 8 := by rw [List.length_set, hr]
 have hl1 := setP_len hb (n := 1 + i) (by omega) (nodeL_len x)
 refine page_ext (setP_len hl1 (by omega) (headL_len _)) (bytesL_len hb hrs) fun k hk => ?_
 rw [page_setP hl1 (headL_len _) (by omega) hk]
 by_cases h0 : k = 0
 ·subst h0
  rw [if_pos rfl, bytesL_0]
 rw [if_neg h0, page_setP hb (nodeL_len x) (by omega) hk]
 by_cases h8 : k ≤ 8
 ·obtain ⟨j, rfl⟩ : ∃ j, k = 1 + j := ⟨k - 1, by omega⟩
  rw [bytesL_node hrs (by omega)]
  show _ = nodeL (at' ((readN bs).set i x) j)
  by_cases hj : j = i
  ·subst hj
   rw [if_pos rfl]
   unfold at'
   rw [List.getD_eq_getElem?_getD, List.getElem?_set_self (by omega)]
   rfl
  ·rw [if_neg (by omega)]
   have e : at' ((readN bs).set i x) j = at' (readN bs) j := by
    unfold at'
    rw [List.getD_eq_getElem?_getD, List.getElem?_set_ne (by omega), ← List.getD_eq_getElem?_getD]
   rw [e, readN_at _ (by omega), node_back (ho.1 j (by omega))]
 ·rw [if_neg (by omega), bytesL_data hrs (by omega)]
variable {w : World} {mi q b c d e : Nat} {M G : List UInt8}
theorem rlayP {R : List UInt8} (h : RefH w mi q b c d e (layL M 6144 R) G) (hm : M.length = 8192) (hR : R.length = 2048) (n : Nat) (hn : n < 32) (A : Option Addr) (xs : List UInt8) (cp : Nat) (hx : BR w w.heap.size A xs) (hA : ∀ ad, A = some ad → xs ≠ [] → ad.block ≠ b) (hxl : xs.length = 64) :
  Calls Tryz.prog 35 #[.pointer (some ⟨q, 0, none⟩), .int .i64 (n : Int), .slice A xs.length cp] w (OutH w mi q b c d e (layL M 6144 (setPage R n xs)) G) := by
 have := rflay_any h n (by omega) A xs cp hx hA (by omega)
 rwa [lay_page hm hR hn hxl] at this
theorem RefH.own_ne {w' : World} (h : RefH w mi q b c d e M G) {R : Option Addr} {cp : Nat} {xs : List UInt8} (ho : Own8 w' w.heap.size 5 R cp xs) : ∀ ad, R = some ad → xs ≠ [] → ad.block ≠ b := by
 intro ad e1 e2
 subst e1
 obtain ⟨g, e3, l1, _⟩ := ho.at_ (k := 0) (by cases xs with | nil => exact absurd rfl e2 | cons _ _ => simp)
 cases e3
 have := h.lt
 show g ≠ b
 omega
end Go.Proofs.YtefgabnmcfpdcaaGreatDoor.Fr
