/-
  ShInts
-/
import Derived.Test.YtacghpabjmnfiaaGreatDoorShHeld
import Derived.Test.YtacghpabjmnfiaaGreatDoorGA
namespace Go.Proofs.YtacghpabjmnfiaaGreatDoor
open Go.ChangeShapes Go.WideShapes Go.ChangeAt Go.RowKit

theorem Tryz.bytesI : Tryz.prog.bytesOf 3 = 8 := by kernel_rfl
theorem Tryz.cellsI : Tryz.prog.cellsOf 3 = 1 := by kernel_rfl
theorem ints_in {H : Type} {enc : TypeId × Value → H} {W : World} {a : Option Addr} {len cap : Nat} {d : DataW H} {p : List MemPlace}
    (h : DataW.Trod enc Tryz.prog W 0 (fun _ => true) true 43 (.slice a len cap) d p) :
    ∃ zs : List Int, zs.length = len ∧ ZR W W.heap.size a zs ∧ ∀ (ts : List TypeId) (ds : List (DataW H)) (j : Nat), (DataW.weightsEach Tryz.prog ts ds).all (· ≤ reachBytes) = true → ts[j]? = some 43 → ds[j]? = some d → len ≤ 17592186044416 := by
  obtain ⟨fuel, hf⟩ := h
  rcases open_ints Tryz.underlying43 Tryz.underlying3 Tryz.cellsI hf with ⟨hcs, _⟩ | ⟨x, l, c, zs, hcs, _, hl, _, hz, hx, hcell, hwz⟩
  · simp [Value.cells] at hcs
    obtain ⟨rfl, rfl, rfl⟩ := hcs
    exact ⟨[], rfl, fun h => absurd rfl h, fun _ _ _ _ _ _ => by omega⟩
  · simp [Value.cells] at hcs
    obtain ⟨rfl, rfl, rfl⟩ := hcs
    simp only [Prod.mk.injEq] at hx
    obtain ⟨rfl, _⟩ := hx
    simp only [if_true] at hz
    refine ⟨zs.take len, by simp; omega, ?_, ?_⟩
    · intro hne
      have h0 : 0 < zs.length := by
        rcases Nat.eq_zero_or_pos zs.length with e | e
        · rw [List.eq_nil_of_length_eq_zero e] at hne; simp at hne
        · exact e
      refine ⟨x, rfl, ?_, fun k u hu => ?_⟩
      · have := World.block_lt_of_cell? _ _ (hcell 0 h0)
        rwa [block_add] at this
      · have hk : k < len ∧ zs[k]? = some u := by
          rw [List.getElem?_take] at hu
          split at hu
          · exact ⟨‹_›, hu⟩
          · cases hu
        have hkl : k < zs.length := by omega
        rw [hcell k hkl, List.getD_eq_getElem?_getD, hk.2]
        rfl
    · intro ts ds j hs ht hd
      have := sized_slice hs ht hd Tryz.underlying43
      rw [Tryz.bytesI] at this
      simp only [lits, List.length_map, List.length_take, List.length_drop, reachBytes] at this
      omega
end Go.Proofs.YtacghpabjmnfiaaGreatDoor
