/-
  HdFst
-/
import Derived.Test.YtceemmnfofjgeaaGreatDoorHdNew
import Derived.Test.YtceemmnfofjgeaaGreatDoorHdCr
namespace Go.Proofs.YtceemmnfofjgeaaGreatDoor.Hd
open Go.RowKit Ex Ino Mm Fs
set_option linter.unusedVariables false
set_option linter.unusedSimpArgs false

variable {w : World} {p gb mb : Nat} {G M : List UInt8}
theorem num_zero (xs : List UInt8) (a : Int) (h : ∀ i : Int, byt xs i = 0) : ∀ k : Nat, num xs a k = 0
  | 0 => rfl
  | k + 1 => by rw [num_skip xs a k (h _)]; exact num_zero xs a h k
theorem byt_fill (i : Int) : byt (fillL []) i = 0 := by
  by_cases h0 : i < 0
  · exact byt_out _ _ (.inl h0)
  by_cases h1 : i < 8192
  · rw [byt_in _ _ (by omega)]
    unfold fillL
    rw [getD_loadL _ _ _ _ (by omega)]
    exact byt_out _ _ (.inr (by simp; omega))
  · exact byt_out _ _ (.inr (by rw [fillL_len]; omega))
theorem cel_fill (a : Int) : cel (fillL []) a = 0 := by
  unfold cel
  rw [num_zero _ _ byt_fill]
  unfold wrap64
  omega
/-- A memory laid anew: no handle's first cell tells a file. -/
def Clean (M : List UInt8) : Prop := ∀ h, 1 ≤ h → h ≤ 4 → hF M h = 0
theorem clean_fmt : Clean (layL (fillL []) 6144 fmtB) := fun h h1 h4 => by
  rw [hF_lay (fillL_len _) h1 h4]
  exact cel_fill _
theorem create_new (h : MemAt w p gb mb G M) (hT : Tab w) (hmb : mb ≠ 0) (hp : p ≠ 0) (c : UInt8) (hc : c = 97 ∨ c = 102) {B : List UInt8} (hB : B.length = 2048) (hh : Has M ⟨B, ns0⟩) (hcl : Clean M) :
    ∃ M' B', B'.length = 2048 ∧ Has M' ⟨B', nsC c⟩ ∧ hF M' 1 = 1 ∧ hP M' 1 = 0 ∧ (∀ h, 2 ≤ h → h ≤ 4 → hF M' h = 0) ∧
      Calls Tryz.prog 22 #[.pointer (some ⟨p, 0, none⟩), St [c]] w (OutM w p gb mb G M' (.tuple #[.int .i64 1, .int .i64 0])) := by
  have l0 : (bytesL ⟨B, ns0⟩).length = 2048 := bytesL_len hB (by simp [ns0])
  have l1 : (bytesL ⟨bytesL ⟨B, ns0⟩, nsC c⟩).length = 2048 := bytesL_len l0 rfl
  have hh1 := Has.lay (M := M) hh.ml (good_nsC l0 c hc)
  have hh2 := Has.lay (M := layL M 6144 (bytesL ⟨bytesL ⟨B, ns0⟩, nsC c⟩)) hh1.ml (good_nsC l1 c hc)
  obtain ⟨M1, e1⟩ : ∃ M1, layL M 6144 (bytesL ⟨bytesL ⟨B, ns0⟩, nsC c⟩) = M1 := ⟨_, rfl⟩
  have cl1 : Clean M1 := fun k k1 k4 => by rw [← e1, hF_lay hh.ml k1 k4]; exact hcl k k1 k4
  have e1' := e1
  rw [e1] at hh1 hh2
  obtain ⟨M2, e2⟩ : ∃ M2, layL M1 6144 (bytesL ⟨bytesL ⟨bytesL ⟨B, ns0⟩, nsC c⟩, nsC c⟩) = M2 := ⟨_, rfl⟩
  rw [e2] at hh2
  have cl2 : Clean M2 := fun k k1 k4 => by rw [← e2, hF_lay hh1.ml k1 k4]; exact cl1 k k1 k4
  have hcr : createV ⟨regB M, readN (regB M)⟩ [c] = (0, 0, ⟨bytesL ⟨B, ns0⟩, nsC c⟩) := by rw [hh.eq]; exact new_create _ c hc
  have hrs : resizeV ⟨regB M1, readN (regB M1)⟩ ((0 : Nat) : Int) 0 = (0, ⟨bytesL ⟨bytesL ⟨B, ns0⟩, nsC c⟩, nsC c⟩) := by rw [hh1.eq]; exact new_resize _ c hc
  have hf0 : fVal (readN (regB M)) [c] = .tuple #[.int .i64 0, .int .i64 123] := by rw [Has_ns hh]; exact new_none c hc
  have hf2 : fVal (readN (regB M2)) [c] = .tuple #[.int .i64 ((0 : Nat) : Int), .int .i64 0] := by rw [Has_ns hh2]; exact new_find c hc
  have hcall := hCreate_at h hh.ok hT hmb hp [c] (by simp) (new_name c hc) hf0 0 (by omega) _ _ hcr M1 M2 e1 hh1.ok hrs e2 hh2.ok hf2 0 0 (low0 (isO_zero hh (hcl 1 (by omega) (by omega)))) (low0 (isO_zero hh2 (cl2 1 (by omega) (by omega))))
  refine ⟨layH M2 1 1 0, bytesL ⟨bytesL ⟨B, ns0⟩, nsC c⟩, l1, Has_layH hh2 (by omega) (by omega) 1 0, hF_same hh2.ml (by omega) (by omega) 1 0 (by omega), hP_same hh2.ml (by omega) (by omega) 1 0 (by omega), fun k k1 k4 => ?_, hcall⟩
  rw [hF_other hh2.ml (by omega) (by omega) k4 (by omega)]
  exact cl2 k (by omega) k4
theorem open_new (h : MemAt w p gb mb G M) (c : UInt8) (hc : c = 97 ∨ c = 102) {B : List UInt8} (hh : Has M ⟨B, nsC c⟩) (hf1 : hF M 1 = 1) (hp1 : hP M 1 = 0) (hz : ∀ h, 2 ≤ h → h ≤ 4 → hF M h = 0) :
    ∃ M', Has M' ⟨B, nsC c⟩ ∧ (hF M' 1 = 1 ∧ hP M' 1 = 0) ∧ (hF M' 2 = 1 ∧ hP M' 2 = 0) ∧
      Calls Tryz.prog 23 #[.pointer (some ⟨p, 0, none⟩), St [c]] w (OutM w p gb mb G M' (.tuple #[.int .i64 2, .int .i64 0])) := by
  have hf : fVal (readN (regB M)) [c] = .tuple #[.int .i64 ((0 : Nat) : Int), .int .i64 0] := by rw [Has_ns hh]; exact new_find c hc
  have hcall := hopen_at h hh.ok [c] (by simp) 0 (by omega) hf 1 (low1 (isO_one c hc (nsC_first c hc) hh hf1) (isO_zero hh (hz 2 (by omega) (by omega))))
  refine ⟨layH M 2 1 0, Has_layH hh (by omega) (by omega) 1 0, ⟨?_, ?_⟩, ⟨hF_same hh.ml (by omega) (by omega) 1 0 (by omega), hP_same hh.ml (by omega) (by omega) 1 0 (by omega)⟩, hcall⟩
  · rw [hF_other hh.ml (by omega) (by omega) (by omega) (by omega)]; exact hf1
  · rw [hP_other hh.ml (by omega) (by omega) (by omega) (by omega)]; exact hp1
end Go.Proofs.YtceemmnfofjgeaaGreatDoor.Hd
