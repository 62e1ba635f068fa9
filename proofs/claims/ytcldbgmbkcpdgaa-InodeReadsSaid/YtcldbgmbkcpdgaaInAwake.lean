/-
  InAwake
-/
import Derived.Test.YtcldbgmbkcpdgaaInIn
namespace Go.Proofs.Ytcldbgmbkcpdgaa.Ino
open Go.RowKit Ex

set_option maxRecDepth 100000 in
set_option maxHeartbeats 400000 in
theorem isame_any (x : IN) (A : Option Addr) (c : Nat) (B : Option Addr) (d : Nat) (w : World) (hx : XR w w.heap.size A x.ext) (hy : XR w w.heap.size B x.ext) (hl : x.ext.length ≤ 1000) :
    Calls Try.prog 19 #[ag x A c, ag x B d] w (Gives w (.bool true)) := by
  have b2 : Below w.heap.size w ((w.alloc (.cells #[St x.name, .int .i64 x.size, .slice A x.ext.length c] 28)).alloc (.cells #[St x.name, .int .i64 x.size, .slice B x.ext.length d] 28)) := ((Below.refl _ _).alloc (Nat.le_refl _) _).alloc (by rw [World.size_alloc]; omega) _
  have hs := Ex.same_any A x.ext c B d _ ((hx.below b2).more b2.size) ((hy.below b2).more b2.size) hl
  have HS := Lib.hid hs
  have HB := Lib.hid b2
  clear hx hy hs b2
  go_enter Try.func19, Try.ntmps19
  go_wp2_with fail
  refine HS.out.mono ?_
  rintro e w2 ⟨rfl, b3⟩
  have HF := Lib.hid (HB.out.trans (b3.mono HB.out.size))
  clear b3 HB HS
  go_wp2_with fail
  go_ret
  exact ⟨rfl, HF.out⟩
def xA : IN := ⟨[97], 1, [(9, 1)]⟩
theorem xA_chk : chkB xA = true := by decide +kernel
theorem xA_need : needI 65 = 2 := by decide +kernel
theorem xA_name : nameB [97] = true := by decide +kernel
theorem xA_b : (encL xA).getD 0 0 = 1 ∧ (encL xA).getD 1 0 = 97 ∧ (encL xA).getD 16 0 = 1 ∧ (encL xA).getD 18 0 = 9 ∧ (encL xA).getD 19 0 = 1 := by decide +kernel
theorem add_pos (ad : Addr) (k : Nat) (hk : k ≠ 0) : ad.add k = ⟨ad.block, ad.off + k, none⟩ := by unfold Addr.add; rw [if_neg hk]
set_option maxRecDepth 20000 in
set_option maxHeartbeats 600000 in
theorem awake_in (w : World) : Calls Try.prog 7 #[] w (Gives w (.bool true)) := by
  have b1 : Below w.heap.size w (w.alloc (.cells #[.int .i64 9, .int .i64 1] 47)) := (Below.refl _ _).alloc (Nat.le_refl _) _
  have hok : InOk (w.alloc (.cells #[.int .i64 9, .int .i64 1] 47)) xA (some ⟨w.heap.size, 0, none⟩) := by
    refine ⟨⟨fun _ => ⟨_, rfl, by show w.heap.size < (w.alloc _).heap.size; rw [World.size_alloc]; omega, fun k a ha j v hv => ?_⟩, fun a ha => ?_⟩, by decide, by decide, by decide⟩
    · obtain ⟨hk, rfl⟩ := List.getElem?_eq_some_iff.1 ha
      have hk0 : k = 0 := by have : k < 1 := hk; omega
      subst hk0
      rw [Nat.zero_mul, Addr.add_zero', Ex.add_zero, cell_of_row _ _ _ _ _ _ (heap_alloc_new w _)]
      have : (xcells ((9 : Int), (1 : Int)))[j]? = some v := hv
      simpa [xcells] using this
    · have : a = ((9 : Int), (1 : Int)) := by simpa [xA] using ha
      subst this
      unfold XOk
      omega
  have he := encode_in xA (some ⟨w.heap.size, 0, none⟩) 1 _ hok
  have HE := Lib.hid he
  have HB := Lib.hid b1
  clear hok he b1
  go_enter Try.func7, Try.ntmps7
  go_wp2_with fail
  refine HE.out.mono ?_
  clear HE
  rintro e w2 ⟨R, n, c, rfl, hn, br, b2, _⟩
  have e1 : chkE xA = 0 := by simp [chkE, xA_chk]
  have e2 : encO xA = encL xA := by simp [encO, xA_chk]
  rw [e2] at hn br
  rw [encL_len] at hn
  subst hn
  rw [e1]
  obtain ⟨ad, rfl, hlt, hc⟩ := br (by intro h; have := encL_len xA; rw [h] at this; simp at this)
  have hcc : ∀ k, k < 64 → w2.cell? (ad.add k) = some (B8 ((encL xA).getD k 0)) := fun k hk => hc k _ (by rw [List.getElem?_eq_getElem (by rw [encL_len]; omega), List.getD_eq_getElem?_getD, List.getElem?_eq_getElem (by rw [encL_len]; omega)]; rfl)
  obtain ⟨x0, x1, x16, x18, x19⟩ := xA_b
  have k0 := hcc 0 (by omega)
  have k1 := hcc 1 (by omega)
  have k16 := hcc 16 (by omega)
  have k18 := hcc 18 (by omega)
  have k19 := hcc 19 (by omega)
  rw [Addr.add_zero', x0] at k0
  rw [add_pos _ _ (by omega), x1] at k1
  rw [add_pos _ _ (by omega), x16] at k16
  rw [add_pos _ _ (by omega), x18] at k18
  rw [add_pos _ _ (by omega), x19] at k19
  have hnd := need_any 65 w2 (by decide)
  rw [xA_need] at hnd
  have hnm := name_any [97] w2 (by decide)
  rw [xA_name] at hnm
  have HND := Lib.hid hnd
  have HNM := Lib.hid hnm
  have HF := Lib.hid (HB.out.trans (b2.mono HB.out.size))
  clear hnd hnm HB b2 hc hcc br e1 e2 x0 x1 x16 x18 x19
  go_wp2_with fail
  refine HND.out.mono ?_
  rintro e w3 ⟨rfl, rfl⟩
  go_wp2_with fail
  refine HNM.out.mono ?_
  rintro e w4 ⟨rfl, b4⟩
  have HF2 := Lib.hid (HF.out.trans (b4.mono HF.out.size))
  clear b4 HF HNM HND
  go_wp2_with fail
  go_ret
  exact ⟨rfl, HF2.out⟩
end Go.Proofs.Ytcldbgmbkcpdgaa.Ino
