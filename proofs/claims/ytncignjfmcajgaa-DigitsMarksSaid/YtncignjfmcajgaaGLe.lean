/-
  GLe
-/
import Derived.Test.YtncignjfmcajgaaGA
import Derived.Laws.BytesArg
namespace Go.Proofs.Ytncignjfmcajgaa
open Go.RowKit

theorem run_str {P : Program} (w : World) (B : Nat) (src dst e : TypeId) (A : Option Addr) (xs : List UInt8) (c : Nat) (hx : BR w B A xs)
    (hs : P.underlying src = some (.slice e)) (he : P.underlying e = some (.int .u8)) (hd : P.underlying dst = some .string) :
    (convert src dst (.slice A xs.length c)).run P w = .ok (.string ⟨xs.toArray⟩) w := by
  rw [run_convert_bytes_string w src dst e A xs.length c hs he hd]
  by_cases hn : xs = []
  · subst hn
    rcases A with _ | ad
    · simp [Conv.bytesToString]; rfl
    · have hl : (loadCells ad 0).run P w = .ok (([] : List Int).map (Value.int .u8)).toArray w := by
        simpa using run_loadCells_list (P := P) w ad [] (fun j v hj => by simp at hj)
      rw [List.length_nil, run_bytesToString w ad 0 c [] hl]
      rfl
  · obtain ⟨ad, rfl, _, hc⟩ := hx hn
    have hl : (loadCells ad xs.length).run P w = .ok ((xs.map fun u => (u.toNat : Int)).map (Value.int .u8)).toArray w := by
      have := run_loadCells_list (P := P) w ad ((xs.map fun u => (u.toNat : Int)).map (Value.int .u8)) (fun j v hj => by
        simp only [List.map_map, List.getElem?_map, Option.map_eq_some_iff] at hj
        obtain ⟨u, hu, rfl⟩ := hj
        exact hc j u hu)
      simpa using this
    rw [run_bytesToString w ad xs.length c _ hl, foldl_push_bytes]
    simp [ByteArray.empty, ByteArray.emptyWithCapacity, Function.comp_def]
    rfl

theorem list_eq (xs ys : List UInt8) : (xs == ys) = decide (xs = ys) := by
  rw [Bool.eq_iff_iff]; simp
theorem ex_convert {P : Program} {w w' : World} {o : Oper} {ρ : Operand → Value} (s d : TypeId) (x : Operand) (ho : o.op = .convert s d x) (y v : Value) (hy : ρ x = y) (hrun : (convert s d y).run P w = .ok v w') : (execOp ρ o).run P w = .ok (.value v) w' := by
  unfold execOp
  simp only [ho, hy, Sem.run_bind, hrun, Result.andThen_ok, Sem.run_pure]
end Go.Proofs.Ytncignjfmcajgaa
