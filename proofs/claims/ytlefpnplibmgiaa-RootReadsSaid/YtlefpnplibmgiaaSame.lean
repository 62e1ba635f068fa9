/-
  The contract of the document's Same: bytes alike.
-/
import Derived.Test.YtlefpnplibmgiaaPure
import Derived.Laws.BytesArg
namespace Go.Proofs.Ytlefpnplibmgiaa
open Go.RowKit

theorem run_str {P : Program} (w : World) (B : Nat) (src dst e : TypeId) (A : Option Addr) (xs : List UInt8) (c : Nat) (hx : BR w B A xs)
    (hs : P.underlying src = some (.slice e)) (he : P.underlying e = some (.int .u8)) (hd : P.underlying dst = some .string) :
    (convert src dst (.slice A xs.length c)).run P w = .ok (.string ⟨xs.toArray⟩) w := by
  rw [run_convert_bytes_string w src dst e A xs.length c hs he hd]
  by_cases hn : xs = []
  · subst hn
    rcases A with _ | ad
    · simp [Conv.bytesToString]; rfl
    · have hl : (loadCells ad 0).run P w = .ok (([] : List Int).map (Value.int .u8)).toArray w := by
        simpa using run_loadCells_list (P := P) w ad [] (fun j v hj => by simp at hj)
      rw [List.length_nil, run_bytesToString w ad 0 c [] hl]
      rfl
  · obtain ⟨ad, rfl, _, hc⟩ := hx hn
    have hl : (loadCells ad xs.length).run P w = .ok ((xs.map fun u => (u.toNat : Int)).map (Value.int .u8)).toArray w := by
      have := run_loadCells_list (P := P) w ad ((xs.map fun u => (u.toNat : Int)).map (Value.int .u8)) (fun j v hj => by
        simp only [List.map_map, List.getElem?_map, Option.map_eq_some_iff] at hj
        obtain ⟨u, hu, rfl⟩ := hj
        exact hc j u hu)
      simpa using this
    rw [run_bytesToString w ad xs.length c _ hl, foldl_push_bytes]
    simp [ByteArray.empty, ByteArray.emptyWithCapacity, Function.comp_def]
    rfl

theorem list_eq (xs ys : List UInt8) : (xs == ys) = decide (xs = ys) := by
  rw [Bool.eq_iff_iff]; simp

set_option maxHeartbeats 400000 in
theorem same_any (A : Option Addr) (xs : List UInt8) (c : Nat) (A' : Option Addr) (ys : List UInt8) (c' : Nat) (w : World) (hx : BR w w.heap.size A xs) (hy : BR w w.heap.size A' ys) :
    Calls Try.prog 12 #[.slice A xs.length c, .slice A' ys.length c'] w fun e w' => e = .returned (.bool (decide (xs = ys))) ∧ w = w' := by
  have c1 := run_str (P := Try.prog) w _ _ _ _ A xs c hx Try.underlying27 Try.underlying5 Try.underlying9
  have c2 := run_str (P := Try.prog) w _ _ _ _ A' ys c' hy Try.underlying27 Try.underlying5 Try.underlying9
  clear hx hy
  go_enter Try.func12, Try.ntmps12
  go_wp2
  go_ret
  exact ⟨ret_bool (list_eq xs ys), rfl⟩
/-- The same, the lengths being said otherwise. -/
theorem same_len (A : Option Addr) (xs : List UInt8) (c n : Nat) (A' : Option Addr) (ys : List UInt8) (c' n' : Nat) (w : World) (hx : BR w w.heap.size A xs) (hy : BR w w.heap.size A' ys) (hn : xs.length = n) (hn' : ys.length = n') :
    Calls Try.prog 12 #[.slice A n c, .slice A' n' c'] w fun e w' => e = .returned (.bool (decide (xs = ys))) ∧ w = w' := by
  subst hn hn'
  exact same_any A xs c A' ys c' w hx hy
end Go.Proofs.Ytlefpnplibmgiaa
