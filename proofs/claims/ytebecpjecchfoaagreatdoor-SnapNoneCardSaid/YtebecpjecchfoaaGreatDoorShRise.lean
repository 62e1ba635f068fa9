/-
  ShRise
-/
import Derived.Test.YtebecpjecchfoaaGreatDoorMapF
import Derived.Test.YtebecpjecchfoaaGreatDoorShLaid
import Derived.Shelf.SlIterI.Nil
import Derived.Shelf.SortM.Plain
import Derived.Shelf.SortM.SortNone
import Derived.Ground.GgzProg
import Derived.Ground.SlgmProg
namespace Go.Proofs.YtebecpjecchfoaaGreatDoor
open Go.RowKit Go.Maps Go.Sort Go.Shelf


/-- The keys of a map, in a new row. -/
def Risen {V : Type} (w : World) (f : Nat → Option V) (e : Ending) (w' : World) : Prop :=
  ∃ v, e = .returned v ∧ w'.ownsRow w.heap.size 3 1 v (keysF f).length (((keysF f).map Int.ofNat).map encZ) ∧ Below w.heap.size w w'


theorem Tryz.sortsP (m : Nat) : AnyZI.SortsIn Tryz.prog Tryz.sortedI_ren Fence.wide m :=
  ⟨fun blk off cap ss W hH hblk hsz => callsIn_wide.2 (AnyM.slices_Sort_int Tryz.sortI blk off cap ss W hH hblk hsz),
   fun p cap W => callsIn_wide.2 (AnyM.slices_Sort_int_none Tryz.sortI p cap W)⟩

set_option maxRecDepth 100000 in
set_option maxHeartbeats 1000000 in
theorem riseP_any {V : Type} {C : Codec V} {mb nn : Nat} {f : Nat → Option V} (w : World) (hm : MapF C w mb nn f) :
    Calls Tryz.prog 233 #[.map (some mb)] w (Risen w f) := by
  obtain ⟨D, hown, hD⟩ := hm
  refine (callsIn_wide (n := 6)).1 ?_
  have hbl := hown.lt
  have hsize : Maps.size D ≤ 128 := by rw [hD.size hown]; exact keysF_len f
  have hperm := hD.keysPerm hown
  have hseq : SeqGives Fence.wide 2 Tryz.prog 244 #[.pointer (some ⟨w.heap.size, 0, none⟩)] encZ (fun ss => ss.Perm (intKeys D)) (Maps.size D) (w.alloc (.cells #[.map (some mb)] 252)) :=
    AnyZI.keys_gives (ρ := Tryz.keysP_ren) { Tryz.keysP with } Fence.wide _ trivial rfl (by omega) w.heap.size mb nn D _ (by simp) (by simp) (by
      obtain ⟨es, clock, hb, Ft, hs, hD⟩ := hown
      exact ⟨es, clock, (Below.heap_alloc _ _ mb hbl).trans hb, Ft, hs, hD⟩)
  have cK : ∀ mb W, CallsIn Fence.wide 5 Tryz.prog 239 #[.map mb] W fun e w' => e = .returned (.func (.func 244) #[] #[.pointer (some ⟨W.heap.size, 0, none⟩)]) ∧ w' = W.alloc (.cells #[.map mb] 252) := fun mb W => AnyZI.keys_in Tryz.keysP Fence.wide 5 trivial rfl mb W
  have cS := AnyZI.sorted_in Tryz.sortedI Fence.wide 5 trivial trivial trivial trivial rfl (by omega) (Tryz.sortsP _) (enters_of Tryz.func243 (by kernel_rfl) rfl) 244 #[.pointer (some ⟨w.heap.size, 0, none⟩)] trivial (enters_of Tryz.func244 (by kernel_rfl) rfl) _ _ (by unfold maxLen; omega) (by omega) _ hseq
  change CallsIn _ _ Tryz.prog 238 _ _ _ at cS
  have hfK : Fence.wide.fn 239 := trivial
  have hfS : Fence.wide.fn 238 := trivial
  refine callsIn_of_wp Tryz.func233 rfl trivial ?_ rfl
  simp only [Tryz.ntmps233, List.size_toArray, List.length_cons, List.length_nil, Nat.reduceAdd, Nat.reduceSub, Array.replicate_succ, Array.replicate_zero, List.push_toArray, List.append_toArray, List.nil_append, List.cons_append]
  gi_wp2_with (first
    | (gi_at_call 239; refine (cK _ _).mono ?_; rintro e w' ⟨rfl, rfl⟩)
    | (gi_at_call 238; refine cS.mono ?_; rintro e w' ⟨v, ss, rfl, hS, hrow, hnil, hb⟩))
  go_ret
  have hsort := sorted_keys (f := f) (hS.trans hperm.symm)
  rw [hsort] at hrow
  have hlen : ss.length = (keysF f).length := by rw [hS.length_eq, ← hperm.length_eq, List.length_map]
  rw [hlen] at hrow
  exact ⟨v, rfl, ownsRow_base_a hrow (by simp), ((Below.refl _ w).alloc (Nat.le_refl _) _).trans (hb.mono (by simp))⟩

theorem Tryz.sortsN (m : Nat) : AnyZI.SortsIn Tryz.prog Tryz.sortedI_ren Fence.wide m :=
  ⟨fun blk off cap ss W hH hblk hsz => callsIn_wide.2 (AnyM.slices_Sort_int Tryz.sortI blk off cap ss W hH hblk hsz),
   fun p cap W => callsIn_wide.2 (AnyM.slices_Sort_int_none Tryz.sortI p cap W)⟩

set_option maxRecDepth 100000 in
set_option maxHeartbeats 1000000 in
theorem riseN_any {V : Type} {C : Codec V} {mb nn : Nat} {f : Nat → Option V} (w : World) (hm : MapF C w mb nn f) :
    Calls Tryz.prog 235 #[.map (some mb)] w (Risen w f) := by
  obtain ⟨D, hown, hD⟩ := hm
  refine (callsIn_wide (n := 6)).1 ?_
  have hbl := hown.lt
  have hsize : Maps.size D ≤ 128 := by rw [hD.size hown]; exact keysF_len f
  have hperm := hD.keysPerm hown
  have hseq : SeqGives Fence.wide 2 Tryz.prog 245 #[.pointer (some ⟨w.heap.size, 0, none⟩)] encZ (fun ss => ss.Perm (intKeys D)) (Maps.size D) (w.alloc (.cells #[.map (some mb)] 271)) :=
    AnyZI.keys_gives (ρ := Tryz.keysN_ren) { Tryz.keysN with } Fence.wide _ trivial rfl (by omega) w.heap.size mb nn D _ (by simp) (by simp) (by
      obtain ⟨es, clock, hb, Ft, hs, hD⟩ := hown
      exact ⟨es, clock, (Below.heap_alloc _ _ mb hbl).trans hb, Ft, hs, hD⟩)
  have cK : ∀ mb W, CallsIn Fence.wide 5 Tryz.prog 240 #[.map mb] W fun e w' => e = .returned (.func (.func 245) #[] #[.pointer (some ⟨W.heap.size, 0, none⟩)]) ∧ w' = W.alloc (.cells #[.map mb] 271) := fun mb W => AnyZI.keys_in Tryz.keysN Fence.wide 5 trivial rfl mb W
  have cS := AnyZI.sorted_in Tryz.sortedI Fence.wide 5 trivial trivial trivial trivial rfl (by omega) (Tryz.sortsN _) (enters_of Tryz.func243 (by kernel_rfl) rfl) 245 #[.pointer (some ⟨w.heap.size, 0, none⟩)] trivial (enters_of Tryz.func245 (by kernel_rfl) rfl) _ _ (by unfold maxLen; omega) (by omega) _ hseq
  change CallsIn _ _ Tryz.prog 238 _ _ _ at cS
  have hfK : Fence.wide.fn 240 := trivial
  have hfS : Fence.wide.fn 238 := trivial
  refine callsIn_of_wp Tryz.func235 rfl trivial ?_ rfl
  simp only [Tryz.ntmps235, List.size_toArray, List.length_cons, List.length_nil, Nat.reduceAdd, Nat.reduceSub, Array.replicate_succ, Array.replicate_zero, List.push_toArray, List.append_toArray, List.nil_append, List.cons_append]
  gi_wp2_with (first
    | (gi_at_call 240; refine (cK _ _).mono ?_; rintro e w' ⟨rfl, rfl⟩)
    | (gi_at_call 238; refine cS.mono ?_; rintro e w' ⟨v, ss, rfl, hS, hrow, hnil, hb⟩))
  go_ret
  have hsort := sorted_keys (f := f) (hS.trans hperm.symm)
  rw [hsort] at hrow
  have hlen : ss.length = (keysF f).length := by rw [hS.length_eq, ← hperm.length_eq, List.length_map]
  rw [hlen] at hrow
  exact ⟨v, rfl, ownsRow_base_a hrow (by simp), ((Below.refl _ w).alloc (Nat.le_refl _) _).trans (hb.mono (by simp))⟩
end Go.Proofs.YtebecpjecchfoaaGreatDoor
