/-
  FrSame2
-/
import Derived.Test.YtefgabnmcfpdcaaGreatDoorFrAct
import Derived.Test.YtefgabnmcfpdcaaGreatDoorGFi
namespace Go.Proofs.YtefgabnmcfpdcaaGreatDoor.Fr
open Go.RowKit Ex Ino Mm Fs
set_option linter.unusedVariables false
set_option linter.unusedSimpArgs false
def toDV (d : FD) : DV := ⟨d.name, some ⟨d.g, 0, none⟩, d.c, d.xs⟩
theorem own_dv {w : World} {B g cap : Nat} {l : List FD} (h : OwnL w B g cap l) : OwnD w B (some ⟨g, 0, none⟩) cap (l.map toDV) := by
 unfold OwnD
 unfold OwnL at h
 rw [List.length_map, List.flatMap_map]
 exact h
theorem rows_dv {w : World} {B g cap : Nat} {l : List FD} (h : OwnL w B g cap l) (hb : ∀ d ∈ l, BR w w.heap.size (some ⟨d.g, 0, none⟩) d.xs) : RowsD w (some ⟨g, 0, none⟩) (l.map toDV) := fun k hk => by
 obtain ⟨g', e, h1, h2⟩ := (own_dv h).at_ hk
 cases e
 refine ⟨g, rfl, h.block.2.1, h1, h2, ?_⟩
 rw [List.getElem_map]
 exact hb _ (List.getElem_mem _)
variable {W : World} {p gb mb mi q b c d e : Nat} {G Gd M : List UInt8}
theorem filesV_len (g : RG) : (filesV g).length ≤ 8 := by
 unfold filesV idxL
 rw [List.length_map]
 exact Nat.le_trans (List.length_filter_le _ _) (by simp)
theorem files_two (h : MemAt W p gb mb G M) : ∃ (v : Int) (F : List (List UInt8 × List UInt8)), F.length ≤ 8 ∧
  Calls Tryz.prog 31 #[.pointer (some ⟨p, 0, none⟩)] W (fun en W' => ∃ A n l, CoOut W p gb mb G M (.tuple #[.slice A (l : List DV).length n, .int .i64 v]) en W' ∧ RowsD W' A l ∧ l.map (fun d => (d.name, d.xs)) = F) ∧
  ∀ W', RefH W' mi q b c d e M Gd → Calls Tryz.prog 52 #[.pointer (some ⟨q, 0, none⟩)] W' (fun en W'' => ∃ A n l, en = .returned (.tuple #[.slice A (l : List DV).length n, .int .i64 v]) ∧ Keeps (fun _ => False) W' W'' ∧ RowsD W'' A l ∧ l.map (fun d => (d.name, d.xs)) = F) := by
 by_cases ho : okR (regB M)
 ·refine ⟨0, filesV ⟨regB M, readN (regB M)⟩, filesV_len _, (ffiles_any (memC_flat h) ho (good_of h.ml ho)).mono fun en w' ⟨h1, h2, g, cap, l, he, hown, hrows, hv⟩ => ⟨_, cap, l.map toDV, ⟨by rw [List.length_map]; exact he, h1, h2.mono fun _ _ e => .inr e⟩, rows_dv hown fun d hd => (hrows d hd).1, ?_⟩, fun W' hr => (rfiles_any hr).mono fun en w' x => ?_⟩
  ·rw [List.map_map, ← hv]
   rfl
  ·rcases x.2 with ⟨_, R, cap, fl, he, hf, hv⟩ | ⟨hno, _⟩
   ·exact ⟨R, cap, fl, he, x.1, hf.rows, hv⟩
   ·exact absurd ho hno
 ·refine ⟨120, [], by simp, (ffiles_bad (memC_flat h) ho).mono fun en w' x => ⟨none, 0, [], co_bad x, fun k hk => absurd hk (by simp), rfl⟩, fun W' hr => (rfiles_any hr).mono fun en w' x => ?_⟩
  rcases x.2 with ⟨hok, _⟩ | ⟨_, he⟩
  ·exact absurd hok ho
  ·exact ⟨none, 0, [], he, x.1, fun k hk => absurd hk (by simp), rfl⟩
end Go.Proofs.YtefgabnmcfpdcaaGreatDoor.Fr
