/-
  'copy' into a row of bytes that the call made, from any bytes.
-/
import Derived.Test.YtajagjhhpciocaaDoorRow
import Derived.Laws.CopyOwn
namespace Go.Proofs.YtajagjhhpciocaaDoor
open Go.RowKit

theorem Row8.block {w : World} {g : Nat} {t : TypeId} {zs : List UInt8} (h : Row8 w g t zs) : w.heap[g]? = some (.cells (zs.map B8).toArray t (0, 0)) := by
  obtain ⟨c, hb, hn, hc⟩ := h
  have e : c = (zs.map B8).toArray := by
    apply Array.ext
    · simpa using hn
    · intro i h1 h2
      have := hc i (by omega)
      rw [Array.getElem?_eq_getElem h1] at this
      injection this with this
      rw [this]
      simp at h2
      simp [List.getD_eq_getElem?_getD, h2]
  rw [hb, e]
theorem Row8.of_block {w : World} {g : Nat} {t : TypeId} {zs : List UInt8} (h : w.heap[g]? = some (.cells (zs.map B8).toArray t (0, 0))) : Row8 w g t zs :=
  ⟨_, h, by simp, fun i hi => by simp [hi]⟩

theorem run_copy8 {P : Program} (w : World) (dT sT ty elem t : TypeId) (hu : P.underlying dT = some (.slice elem)) (hsz : (P.info? elem).map (·.size) = some 1)
    (g off dLen dCap : Nat) (D : Option Addr) (zs ys : List UInt8) (A : Option Addr) (c B : Nat) (hD : ys ≠ [] → D = some ⟨g, off, none⟩) (hr : Row8 w g t zs) (hy : BR w B A ys) (hle : ys.length ≤ dLen) (hfit : off + ys.length ≤ zs.length) :
    ∃ w', (Builtin.copy_ #[dT, sT] ty #[.slice D dLen dCap, .slice A ys.length c]).run P w = .ok (.int .i64 (ys.length : Int)) w' ∧ Row8 w' g t (splice zs off ys) ∧ w.grownBy w' (some g) := by
  by_cases hn : ys = []
  · subst hn
    exact ⟨w, run_copy_none w dT sT ty elem D A dLen dCap 0 c hu hsz (by simp), by simpa [splice] using hr, World.grownBy.refl w _⟩
  · obtain ⟨ad, rfl, _, hc⟩ := hy hn
    obtain rfl := hD hn
    have hrun := run_copy_row (P := P) w dT sT ty elem g off dLen dCap ad ys.length c _ t (ys.map B8) hu hsz hr.block (by rw [List.length_map]; exact (Nat.min_eq_left hle).symm) (fun j v hj => by
      simp only [List.getElem?_map, Option.map_eq_some_iff] at hj
      obtain ⟨u, hu, rfl⟩ := hj
      exact hc j u hu) (by simpa using hfit) (by
      intro v hv
      simp only [List.mem_map] at hv
      obtain ⟨u, _, rfl⟩ := hv
      rfl)
    rw [List.length_map] at hrun
    refine ⟨_, hrun, ?_, ⟨rfl, rfl, rfl, by simp, fun k _ hne => setRow_other w g k _ (fun e => hne (by rw [e]))⟩⟩
    refine Row8.of_block ((setRow_heap w g _ _ t _ hr.block).trans ?_)
    simp [splice, List.map_take, List.map_drop]
end Go.Proofs.YtajagjhhpciocaaDoor
