/-
  Rows of numbers that a call makes: appended to, handed back. No function of the program is named here.
-/
import Derived.Test.YtajagjhhpciocaaDoorRows
import Derived.Test.YtajagjhhpciocaaDoorKeeps
import Derived.Test.YtajagjhhpciocaaDoorApp
import Derived.Lib.Hide
namespace Go.Proofs.YtajagjhhpciocaaDoor
open Go.RowKit

/-! ### rows of numbers -/
def OwnI (w : World) (B : Nat) (R : Option Addr) (cap : Nat) (l : List Nat) : Prop := w.ownsRow B 3 1 (.slice R l.length cap) l.length (l.map fun (k : Nat) => Value.int .i64 (k : Int))
theorem Tryd.infoInt : (Tryd.prog.info? 3).map (fun i => (i.zero, i.size, i.bytes)) = some (some (.int .i64 0), 1, 8) := by kernel_rfl
theorem OwnI.app {w : World} {B : Nat} {R : Option Addr} {cap : Nat} {l : List Nat} (h : OwnI w B R cap l) (hB : B ≤ w.heap.size) (hl : l.length ≤ 1954687338212) (x : Nat) (g : Nat) (hg : w.cell? ⟨g, 0, none⟩ = some (.int .i64 (x : Int))) :
    ∃ R' cap' w', (Builtin.append_ #[37, 37] 37 #[.slice R l.length cap, .slice (some ⟨g, 0, none⟩) 1 1]).run Tryd.prog w = .ok (.slice R' (l.length + 1) cap') w' ∧ OwnI w' B R' cap' (l ++ [x]) ∧ Below B w w' := by
  obtain ⟨i0, hi, hz0, hz1, hz2⟩ := info_parts Tryd.infoInt
  obtain ⟨v', w', hrun, hown, hg, _, _⟩ := run_append_own_at (P := Tryd.prog) w B 37 37 3 i0 (.int .i64 0) 1 8 Tryd.underlying37 hi hz0 hz1 hz2 rfl (by decide) _ l.length _ h ⟨g, 0, none⟩ 1 1 [.int .i64 (x : Int)] rfl (fun j u hu => by
    match j, hu with
    | 0, hu => cases hu; exact hg
    | j + 1, hu => simp at hu) (by intro u hu; simp at hu; subst hu; rfl) (by unfold maxLen; omega) (by omega) hB
  obtain ⟨g', cap', rfl, _, _⟩ := World.ownsRow.form hown (by omega)
  refine ⟨_, cap', w', hrun, ?_, ⟨hg.os, hg.tape, hg.output, hg.size, fun k hk => hg.block k (by omega) (fun e => by have := (World.ownsRow.lt h k e.symm).1; omega)⟩⟩
  unfold OwnI
  rw [List.length_append, List.map_append]
  exact hown
/-- Numbers that lie somewhere. -/
def IR (w : World) (R : Option Addr) (l : List Nat) : Prop := ∀ (k x : Nat), l[k]? = some x → ∃ g, R = some ⟨g, 0, none⟩ ∧ g < w.heap.size ∧ w.cell? ⟨g, k, none⟩ = some (.int .i64 (x : Int))
theorem OwnI.ir {w : World} {B : Nat} {R : Option Addr} {cap : Nat} {l : List Nat} (h : OwnI w B R cap l) : IR w R l := by
  intro k x hx
  have hk : k < l.length := (List.getElem?_eq_some_iff.1 hx).1
  obtain ⟨g, c, hv, _, hlt⟩ := World.ownsRow.form h (by omega)
  injection hv with e1 _ e3
  subst e1 e3
  exact ⟨g, rfl, hlt, by rw [World.ownsRow.cellAt h k (by omega)]; simp [hx]⟩
theorem IR.keep {w w' : World} {R : Option Addr} {l : List Nat} (h : IR w R l) (k : Keeps (fun _ => False) w w') : IR w' R l := fun i x hx => by
  obtain ⟨g, e, hlt, hc⟩ := h i x hx
  exact ⟨g, e, Nat.lt_of_lt_of_le hlt k.size, (k.cell g i hlt (fun h => h)).trans hc⟩
def GivesI (w : World) (l : List Nat) (e : Ending) (w' : World) : Prop := ∃ R c, e = .returned (.slice R l.length c) ∧ IR w' R l ∧ Below w.heap.size w w'

theorem keeps_below {w w' : World} (h : Below w.heap.size w w') : Keeps (fun _ => False) w w' := ⟨h.os, h.tape, h.output, h.size, fun b hb _ => h.block b hb⟩
/-- What was appended to nothing, an empty row ahead. -/
theorem OwnI.empty {w : World} {B : Nat} (hB : B ≤ w.heap.size) : OwnI (w.alloc (.cells #[] 3)) B (some ⟨w.heap.size, 0, none⟩) 0 [] := World.ownsRow_lit w #[] 0 hB (by unfold maxLen; omega) rfl
theorem OwnI.below {w w' : World} {B : Nat} {R : Option Addr} {cap : Nat} {l : List Nat} (h : OwnI w B R cap l) (hb : Below w.heap.size w w') : OwnI w' B R cap l :=
  World.ownsRow.kept (row := none) h ⟨hb.os, hb.tape, hb.output, hb.size, fun k hk _ => hb.block k hk⟩ (by
    cases e : Value.ownBlock (.slice R l.length cap) with
    | none => exact Or.inl rfl
    | some k => exact Or.inr (by simp))
theorem IR.below {w w' : World} {R : Option Addr} {l : List Nat} (h : IR w R l) (hb : Below w.heap.size w w') : IR w' R l := h.keep (keeps_below hb)
/-- A number, and where it lies. -/
theorem IR.at_ {w : World} {R : Option Addr} {l : List Nat} (h : IR w R l) {k : Nat} (hk : k < l.length) : ∃ g, R = some ⟨g, 0, none⟩ ∧ g < w.heap.size ∧ w.cell? ⟨g, k, none⟩ = some (.int .i64 (l[k] : Int)) := h k _ (List.getElem?_eq_getElem hk)
end Go.Proofs.YtajagjhhpciocaaDoor
