/-
  PrMap
-/
import Derived.Test.YthbkjndnconakaaPrIt
import Derived.Maps.OwnSet
import Derived.Maps.OwnOps
import Derived.StringKeys
import Derived.RangeFuncBox
import Derived.Shelf.Abstract
import Derived.BigQuiet
import Derived.Carry
import Derived.Test.YthbkjndnconakaaRangeG
namespace Go.Proofs.Ythbkjndnconakaa.Pr
open Go.RowKit Go.Maps Go.WideMaps
set_option linter.unusedVariables false
set_option linter.unusedSimpArgs false

def iR : Value → Option (DataW Unit × List MemPlace)
  | .int .i64 n => some (.lit (.int .i64 n), [])
  | _ => none
theorem iR_inv {v : Value} {n : Int} {ps : List MemPlace} (h : iR v = some (.lit (.int .i64 n), ps)) : v = .int .i64 n := by
  unfold iR at h
  split at h
  · simp only [Option.some.injEq, Prod.mk.injEq, DataW.lit.injEq, Lit.int.injEq, true_and] at h
    rw [h.1]
  · cases h
def kS (s : List UInt8) : Lit := .string s
theorem kS_ne {a b : List UInt8} (h : a ≠ b) : kS a ≠ kS b := by
  intro e
  unfold kS at e
  injection e with e
  exact h e
def dI (n : Int) : DataW Unit := .lit (.int .i64 n)
theorem keyS (s : List UInt8) (h : s.length ≤ 140737488351232) : keyOf Try.prog 9 (St s) = some (kS s) := by
  have := keyOf_string_mk (P := Try.prog) (k := 9) Try.underlying9 (s := ⟨s.toArray⟩) (by rw [st_size]; unfold maxLen; omega)
  simpa [kS] using this
theorem keyedS : Keyed Try.prog 9 := string_keyed Try.underlying9
theorem zeroI (w : World) : (zeroValue 3).run Try.prog w = .ok (.int .i64 0) w := by kernel_rfl
/-- Block mb is a map that tells g; 0 where there is nothing. -/
def PMap (w : World) (mb nn : Nat) (g : List UInt8 → Int) : Prop := ∃ D, w.ownsMap Try.prog 9 iR mb nn D ∧ IsMap D ∧ ∀ s, D.atKey (kS s) (dI 0) = dI (g s)
theorem PMap.lt {w : World} {mb nn : Nat} {g : List UInt8 → Int} (h : PMap w mb nn g) : mb < w.heap.size := by obtain ⟨D, h, _⟩ := h; exact h.lt
theorem PMap.keep {w w' : World} {mb nn : Nat} {g : List UInt8 → Int} (h : PMap w mb nn g) (hk : w'.heap[mb]? = w.heap[mb]?) : PMap w' mb nn g := by
  obtain ⟨D, ⟨es, clock, hb, r⟩, rest⟩ := h
  exact ⟨D, ⟨es, clock, hk.trans hb, r⟩, rest⟩
theorem PMap.below {w w' : World} {mb nn : Nat} {g : List UInt8 → Int} (h : PMap w mb nn g) (k : Below w.heap.size w w') : PMap w' mb nn g := h.keep (k.block _ h.lt)
theorem PMap.made (w : World) : PMap (w.alloc (.map #[] 0)) w.heap.size 0 (fun _ => 0) := ⟨_, World.ownsMap_made w _ _ _, isMap_empty, fun _ => rfl⟩
theorem PMap.put {w : World} {mb nn : Nat} {g : List UInt8 → Int} (h : PMap w mb nn g) (s : List UInt8) (hs : s.length ≤ 140737488351232) (n : Int) (hq : nn < maxLen) :
    ∃ w', (Instr.mapUpdate 43 (.map (some mb)) (St s) (.int .i64 n)).run Try.prog w = .ok () w' ∧ PMap w' mb (nn + 1) (fun x => if x = s then n else g x) ∧ w.grownBy w' (some mb) ∧ w'.heap.size = w.heap.size := by
  obtain ⟨D, hown, him, hD⟩ := h
  obtain ⟨w', hrun, hown', hg⟩ := hown.store keyedS Try.underlying43 hq (keyS s hs) (rfl : iR (.int .i64 n) = some (dI n, []))
  refine ⟨w', hrun, ⟨_, hown', him.put _ _, fun x => ?_⟩, hg.grown, ?_⟩
  · by_cases e : x = s
    · subst e
      rw [atKey_put_same him (by trivial)]
      show _ = dI (if x = x then n else g x)
      rw [if_pos rfl]
      rfl
    · rw [atKey_put_other (kS_ne e)]
      show _ = dI (if x = s then n else g x)
      rw [if_neg e]
      exact hD x
  · obtain ⟨es, clock, es', clock', hb, rfl⟩ := hg
    simp [ChangeMaps.setBlock]
theorem PMap.look {w : World} {mb nn : Nat} {g : List UInt8 → Int} (h : PMap w mb nn g) (s : List UInt8) (hs : s.length ≤ 140737488351232) :
    (Instr.lookup 43 (.map (some mb)) (St s) false).run Try.prog w = .ok (.int .i64 (g s)) w := by
  obtain ⟨D, hown, him, hD⟩ := h
  obtain ⟨v, ps, hrun, hv⟩ := hown.lookup keyedS Try.underlying43 (zeroI w) (rfl : iR (.int .i64 0) = some (dI 0, [])) (keyS s hs)
  change iR v = some (D.atKey (kS s) (dI 0), ps) at hv
  rw [hD s] at hv
  rw [hrun, iR_inv hv]

/-- What a list of numbers tells of a name: the last one that has it. -/
def fndP (pre : List PN) (s : List UInt8) : Nat := pre.foldl (fun r x => if prH x.1 = false ∧ (prAt x.1).nm = s then x.1 else r) 0
theorem fndP_snoc (pre : List PN) (x : PN) (s : List UInt8) : fndP (pre ++ [x]) s = if prH x.1 = false ∧ (prAt x.1).nm = s then x.1 else fndP pre s := by
  unfold fndP
  rw [List.foldl_append]
  rfl
theorem fndP_num (k : Nat) (hk : k ≤ 141) (s : List UInt8) : fndP (numK k) s = fnd k s := by
  induction k with
  | zero => rfl
  | succ k ih =>
    rw [numK_succ, fndP_snoc, pn_val k (by omega), ih (by omega)]
    rfl
end Go.Proofs.Ythbkjndnconakaa.Pr
