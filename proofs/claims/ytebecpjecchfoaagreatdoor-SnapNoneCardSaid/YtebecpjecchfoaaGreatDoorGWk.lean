/-
  Merged by wip/tools/merge.py: WkShow WkSet WkTake WkTakeN
-/
import Derived.Test.YtebecpjecchfoaaGreatDoorWkSmall
import Derived.Test.YtebecpjecchfoaaGreatDoorShRebV
import Derived.Test.YtebecpjecchfoaaGreatDoorGA
import Derived.Test.YtebecpjecchfoaaGreatDoorMapF
import Derived.Test.YtebecpjecchfoaaGreatDoorGTr
namespace Go.Proofs.YtebecpjecchfoaaGreatDoor
open Go.RowKit

/-- The block of a row. -/
def RowB (R : Option Addr) (k : Nat) : Prop := ∃ ad, R = some ad ∧ k = ad.block
theorem own_RowB (R : Option Addr) (n c k : Nat) (h : Value.ownBlock (.slice R n c) = some k) : RowB R k := by
  cases R with
  | none => cases h
  | some ad => cases h; exact ⟨ad, rfl, rfl⟩
theorem RowB_own (R : Option Addr) (n c k : Nat) (h : RowB R k) : Value.ownBlock (.slice R n c) = some k := by
  obtain ⟨ad, rfl, rfl⟩ := h
  rfl
theorem OwnI.app2 {w : World} {B : Nat} {R : Option Addr} {cap : Nat} {l : List Nat} (h : OwnI w B R cap l) (hB : B ≤ w.heap.size) (hl : l.length ≤ 1954687338212) (x : Nat) (g : Nat) (hg : w.cell? ⟨g, 0, none⟩ = some (.int .i64 (x : Int))) :
    ∃ R' cap' w', (Builtin.append_ #[44, 44] 44 #[.slice R l.length cap, .slice (some ⟨g, 0, none⟩) 1 1]).run Tryz.prog w = .ok (.slice R' (l.length + 1) cap') w' ∧ OwnI w' B R' cap' (l ++ [x]) ∧ Keeps (RowB R) w w' ∧ ∀ k, RowB R' k → RowB R k ∨ w.heap.size ≤ k := by
  obtain ⟨i0, hi, hz0, hz1, hz2⟩ := info_parts Tryz.infoInt
  obtain ⟨v', w', hrun, hown, hg, _, hnew⟩ := run_append_own_at (P := Tryz.prog) w B 44 44 3 i0 (.int .i64 0) 1 8 Tryz.underlying44 hi hz0 hz1 hz2 rfl (by decide) _ l.length _ h ⟨g, 0, none⟩ 1 1 [.int .i64 (x : Int)] rfl (fun j u hu => by
    match j, hu with
    | 0, hu => cases hu; exact hg
    | j + 1, hu => simp at hu) (by intro u hu; simp at hu; subst hu; rfl) (by unfold maxLen; omega) (by omega) hB
  obtain ⟨g', cap', rfl, _, _⟩ := World.ownsRow.form hown (by omega)
  refine ⟨_, cap', w', hrun, ?_, Keeps.grown _ hg (fun k e => own_RowB _ _ _ _ e), fun k hk => ?_⟩
  · unfold OwnI
    rw [List.length_append, List.map_append]
    exact hown
  · have e := RowB_own _ (l.length + 1) cap' _ hk
    rcases hnew with h1 | h1
    · rw [h1] at e
      exact .inl (own_RowB _ _ _ _ e)
    · rw [h1] at e
      cases e
      exact .inr (Nat.le_refl _)

end Go.Proofs.YtebecpjecchfoaaGreatDoor
namespace Go.Proofs.YtebecpjecchfoaaGreatDoor
open Go.RowKit Go.Maps Go.MapKept Go.ChangeMaps

def RU : Value → Option (DataW Unit × List MemPlace)
  | .agg cs => if cs.size = 0 then some (.agg [], []) else none
  | _ => none
theorem RU_agg {v : Value} {y : DataW Unit × List MemPlace} (h : RU v = some y) : v = .agg #[] := by
  unfold RU at h
  split at h
  · rename_i cs
    split at h
    · rename_i h0
      rw [Array.size_eq_zero_iff.1 h0]
    · cases h
  · cases h
/-- Block mb is the set of l. -/
def SetF (w : World) (mb nn : Nat) (l : List Nat) : Prop :=
  ∃ D, w.ownsMap Tryz.prog 3 RU mb nn D ∧ IsMap D ∧ ∀ z : Int, has D (.int .i64 z) = decide (∃ m ∈ l, z = (m : Int))
section
variable {w : World} {mb nn : Nat} {l : List Nat}
theorem SetF.lt (h : SetF w mb nn l) : mb < w.heap.size := by obtain ⟨D, h, _⟩ := h; exact h.lt
theorem SetF.keep {w' : World} (h : SetF w mb nn l) (hk : w'.heap[mb]? = w.heap[mb]?) : SetF w' mb nn l := by
  obtain ⟨D, ⟨es, clock, hb, r⟩, rest⟩ := h
  exact ⟨D, ⟨es, clock, hk.trans hb, r⟩, rest⟩
theorem SetF.keeps {w' : World} {F : Nat → Prop} (h : SetF w mb nn l) (k : Keeps F w w') (hF : ¬ F mb) : SetF w' mb nn l := h.keep (k.block _ h.lt hF)
theorem SetF.made (w : World) : SetF (w.alloc (.map #[] 0)) w.heap.size 0 [] :=
  ⟨_, World.ownsMap_made w _ _ _, isMap_empty, fun z => by simp [has]⟩
theorem keyAny (z : Int) (h1 : -9223372036854775808 ≤ z) (h2 : z ≤ 9223372036854775807) : keyOf Tryz.prog 3 (.int .i64 z) = some (.int .i64 z) := keyOf_int_mk Tryz.underlying3 (by
  simp [Lit.wf, IntKind.min, IntKind.max, IntKind.signed, IntKind.bits]; omega)
theorem SetF.put {t e : TypeId} (ht : Tryz.prog.underlying t = some (.map 3 e)) (h : SetF w mb nn l) (n : Nat) (hn : n < 1000000) (hq : nn < maxLen) :
    ∃ w', (Instr.mapUpdate t (.map (some mb)) (.int .i64 (n : Int)) (.agg #[])).run Tryz.prog w = .ok () w' ∧ SetF w' mb (nn + 1) (l ++ [n]) ∧ w.grownBy w' (some mb) ∧ w'.heap.size = w.heap.size := by
  obtain ⟨D, hown, him, hat⟩ := h
  obtain ⟨w', hrun, hown', hg⟩ := hown.store intKeyed ht hq (keyAny (n : Int) (by omega) (by omega)) (show RU (.agg #[]) = some (.agg [], []) from rfl)
  refine ⟨w', hrun, ⟨_, hown', him.put _ _, fun z => ?_⟩, hg.grown, ?_⟩
  · by_cases e : z = (n : Int)
    · subst e
      rw [has_put_same him (by trivial)]
      simp
    · rw [has_put_other (by intro e'; injection e' with _ e'; exact e e'), hat z]
      simp [List.mem_append, or_and_right, exists_or, e]
  · obtain ⟨es, clock, es', clock', hb, rfl⟩ := hg
    simp [setBlock]
theorem SetF.look {t e : TypeId} (ht : Tryz.prog.underlying t = some (.map 3 e)) (h : SetF w mb nn l) (hz : (zeroValue e).run Tryz.prog w = .ok (.agg #[]) w) (z : Int) (h1 : -9223372036854775808 ≤ z) (h2 : z ≤ 9223372036854775807) :
    (Instr.lookup t (.map (some mb)) (.int .i64 z) true).run Tryz.prog w = .ok (.tuple #[.agg #[], .bool (decide (∃ m ∈ l, z = (m : Int)))]) w := by
  obtain ⟨D, hown, him, hat⟩ := h
  obtain ⟨v, ps, hrun, hv⟩ := hown.look_ok intKeyed ht hz (show RU (.agg #[]) = some (.agg [], []) from rfl) (keyAny z h1 h2)
  rw [hrun, hat z, RU_agg hv]
end
end Go.Proofs.YtebecpjecchfoaaGreatDoor
namespace Go.Proofs.YtebecpjecchfoaaGreatDoor
open Go.RowKit

/-- While goThrough works: b7 the set's variable, b3 the disk's, b5 the shower's, x the list's, mb the set; rows from B on. -/
structure GoS (w0 w : World) (p b7 b3 b5 x mb B nn : Nat) (R : Option Addr) (c : Nat) (l : List Nat) : Prop where
  e7 : w.heap[b7]? = some (.cells #[.map (some mb)] 245 (0, 0))
  e3 : w.heap[b3]? = some (.cells #[.pointer (some ⟨p, 0, none⟩)] 29 (0, 0))
  e5 : w.heap[b5]? = some (.cells #[.func (.func 198) #[] #[.pointer (some ⟨x, 0, none⟩)]] 225 (0, 0))
  ex : w.heap[x]? = some (.cells #[.slice R l.length c] 44 (0, 0))
  s : SetF w mb nn l
  o : OwnI w B R c l
  b : Below w0.heap.size w0 w
  lo : w0.heap.size ≤ b7 ∧ w0.heap.size ≤ b3 ∧ w0.heap.size ≤ b5 ∧ w0.heap.size ≤ x ∧ w0.heap.size ≤ mb
  hi : b7 < B ∧ b3 < B ∧ b5 < B ∧ x < B ∧ mb < B ∧ B ≤ w.heap.size
  ne : x ≠ b7 ∧ x ≠ b3 ∧ x ≠ b5 ∧ x ≠ mb ∧ mb ≠ b7 ∧ mb ≠ b3 ∧ mb ≠ b5
section
variable {w0 w w' : World} {p b7 b3 b5 x mb B nn nn' : Nat} {R R' : Option Addr} {c c' : Nat} {l l' : List Nat}
theorem GoS.new (h : GoS w0 w p b7 b3 b5 x mb B nn R c l) (k : Keeps (fun _ => False) w w') : GoS w0 w' p b7 b3 b5 x mb B nn R c l := by
  have hs := k.size
  have hh := h.hi
  have hl := h.lo
  exact ⟨(k.block _ (by omega) (fun h => h)).trans h.e7, (k.block _ (by omega) (fun h => h)).trans h.e3, (k.block _ (by omega) (fun h => h)).trans h.e5, (k.block _ (by omega) (fun h => h)).trans h.ex, h.s.keeps k (fun h => h), h.o.keeps k (fun _ _ h => h), h.b.trans (k.toBelow _ h.b.size (fun _ h => h.elim)), h.lo, ⟨hh.1, hh.2.1, hh.2.2.1, hh.2.2.2.1, hh.2.2.2.2.1, by omega⟩, h.ne⟩
/-- The set has one more. -/
theorem GoS.put (h : GoS w0 w p b7 b3 b5 x mb B nn R c l) (k : Keeps (· = mb) w w') : w'.heap[b7]? = some (.cells #[.map (some mb)] 245 (0, 0)) ∧ w'.heap[b3]? = some (.cells #[.pointer (some ⟨p, 0, none⟩)] 29 (0, 0)) ∧
    w'.heap[b5]? = some (.cells #[.func (.func 198) #[] #[.pointer (some ⟨x, 0, none⟩)]] 225 (0, 0)) ∧ w'.heap[x]? = some (.cells #[.slice R l.length c] 44 (0, 0)) ∧ OwnI w' B R c l ∧ Below w0.heap.size w0 w' := by
  have hh := h.hi
  have hl := h.lo
  have hn := h.ne
  exact ⟨(k.block _ (by omega) (by omega)).trans h.e7, (k.block _ (by omega) (by omega)).trans h.e3, (k.block _ (by omega) (by omega)).trans h.e5, (k.block _ (by omega) (by omega)).trans h.ex, h.o.keeps k (fun ad e h' => by have := (h.o.block ad e).1; omega), h.b.trans (k.toBelow _ h.b.size (fun _ h => by omega))⟩
end

theorem zeroU (w : World) : (zeroValue 247).run Tryz.prog w = .ok (.agg #[]) w := by kernel_rfl
theorem allocU (w : World) : (Instr.alloc 247 true (.tuple #[])).run Tryz.prog w = .ok (.pointer (some ⟨w.heap.size, 0, none⟩)) (w.alloc (.cells #[] 247)) := by kernel_rfl
theorem storeU (w : World) : (Instr.storeAt 247 (.pointer (some ⟨w.heap.size, 0, none⟩)) (.agg #[])).run Tryz.prog (w.alloc (.cells #[] 247)) = .ok () (w.alloc (.cells #[] 247)) :=
  run_storeAt_mid (P := Tryz.prog) (w.alloc (.cells #[] 247)) w.heap.size 0 247 #[] (there_cells (heap_alloc_new w _) 0 _ (by simp)) (by kernel_rfl) (all_oneCell_toArray (cs := []) (fun v hv => by cases hv))
theorem buildU (w : World) : (Instr.build 247 #[]).run Tryz.prog w = .ok (.agg #[]) w := by kernel_rfl

end Go.Proofs.YtebecpjecchfoaaGreatDoor
namespace Go.Proofs.YtebecpjecchfoaaGreatDoor
open Go.RowKit

end Go.Proofs.YtebecpjecchfoaaGreatDoor
