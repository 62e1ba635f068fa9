/-
  A node that came in, read.
-/
import Derived.Test.YtpabeljealdebaaFrame
import Derived.Test.YtpabeljealdebaaNd
import Derived.ChangeArms
namespace Go.Proofs.Ytpabeljealdebaa
open Go.ChangeShapes Go.WideShapes Go.ChangeAt Go.RowKit

theorem Try.cellsN : Try.prog.cellsOf 23 = 32 := by kernel_rfl
theorem Try.cells3 : Try.prog.cellsOf 3 = 1 := by kernel_rfl
/-- A node's numbers: as many, and as large, as they are. -/
structure NodeOk (zs : List Int) : Prop where
  len : zs.length = 32
  wf : ∀ z ∈ zs, -9223372036854775808 ≤ z ∧ z ≤ 9223372036854775807

variable {H : Type} {enc : TypeId × Value → H} {W : World}
theorem okWide_array {P : Program} {w : World} {r : Reach} {b0 n : Nat} {e t : TypeId} {v : Value} (ht : P.underlying t = some (.array n e)) (h : Value.okWide P w r b0 t v) : ∃ cs, v = .agg cs ∧ cs.size = P.cellsOf t := by
  simp only [Value.okWide, ht] at h
  obtain ⟨cs, h1, h2, _⟩ := h
  exact ⟨cs, h1, h2⟩
theorem node_in {r : Reach} {b0 : Nat} {v : Value} {d : DataW H} {p : List MemPlace} (hv : Value.okWide Try.prog W r b0 23 v) (h : DataW.Trod enc Try.prog W 0 (fun _ => true) true 23 v d p) :
    ∃ zs : List Int, v = ng zs ∧ NodeOk zs := by
  obtain ⟨cs, rfl, hsz⟩ := okWide_array Try.underlying23 hv
  obtain ⟨fuel, hf⟩ := h
  obtain ⟨xs, n, _, _, hl, hlen, hg⟩ := DataW.trod_array Try.underlying23 hf
  rw [Try.cellsN] at hl
  have hcs : (Value.agg cs).cells = cs := rfl
  rw [hcs] at hl hg
  have hall : ∀ i, ∃ z : Int, i < 32 → cs.toList[i]? = some (.int .i64 z) ∧ -9223372036854775808 ≤ z ∧ z ≤ 9223372036854775807 := by
    intro i
    by_cases hi : i < 32
    · have := hg i hi
      rw [Try.cells3, Nat.mul_one] at this
      have hi' : i < cs.toList.length := by simpa using (by omega : i < cs.toList.length)
      rw [List.drop_eq_getElem_cons hi'] at this
      rw [List.getElem?_eq_getElem (by omega)] at this
      simp only [List.take_succ_cons, List.take_zero] at this
      obtain ⟨a, e, _, w0⟩ := DataW.trod_int Try.underlying3 this
      refine ⟨a, fun _ => ⟨?_, i64_of_wf w0⟩⟩
      rw [List.getElem?_eq_getElem hi']
      simp only [List.cons.injEq, and_true] at e
      rw [e]
    · exact ⟨0, fun h => absurd h hi⟩
  obtain ⟨f, hf⟩ := Classical.skolem.1 hall
  refine ⟨(List.range 32).map f, ?_, by simp, ?_⟩
  · unfold ng
    congr 1
    apply Array.ext_getElem?
    intro i
    by_cases hi : i < 32
    · have := (hf i hi).1
      simp only [Array.getElem?_toList] at this
      rw [this]
      simp [hi]
    · rw [Array.getElem?_eq_none (by simp at hl; omega)]
      simp [hi]
  · intro z hz
    simp only [List.mem_map, List.mem_range] at hz
    obtain ⟨i, hi, rfl⟩ := hz
    exact (hf i hi).2
end Go.Proofs.Ytpabeljealdebaa
