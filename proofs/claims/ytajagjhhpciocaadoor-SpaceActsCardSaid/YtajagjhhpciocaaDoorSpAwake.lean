/-
  Maps by their blocks' bounds; the contract of awake: chapter 5's example comes out as the document says.
-/
import Derived.Test.YtajagjhhpciocaaDoorSpRef2
namespace Go.Proofs.YtajagjhhpciocaaDoor.Sp
open Go.RowKit

section
variable {w : World} {lo hi p q : Nat} {cs : List Nat}
def HeldS (w : World) (lo hi p : Nat) (cs' : List Nat) (v : Value) (e : Ending) (w' : World) : Prop := e = .returned v ∧ MapS w' lo hi p cs' ∧ Keeps (fun i => lo ≤ i ∧ i < hi) w w'
def RHeldS (w : World) (lo hi q : Nat) (cs' : List Nat) (v : Value) (e : Ending) (w' : World) : Prop := e = .returned v ∧ RefS w' lo hi q cs' ∧ Keeps (fun i => lo ≤ i ∧ i < hi) w w'
theorem hold_s (h : MapS w lo hi p cs) (n : Int) {K : Nat} (hu : Upto K cs) (hK : K < 1000000000000) : Calls Tryd.prog 12 #[.pointer (some ⟨p, 0, none⟩), .int .i64 n] w (HeldS w lo hi p (holdC cs n) (.int .i64 (holdE cs n))) := by
  obtain ⟨a, b, bc, bf, cc, cf, h, h1, h2, h3, h4, h5, h6⟩ := h
  refine (hold_at h n hu hK).mono ?_
  rintro e w' ⟨he, hm, k⟩
  exact ⟨he, ⟨a, b, bc, bf, cc, cf, hm, h1, h2, h3, h4, h5, h6⟩, k.mono fun i _ e => by rcases e with e | e <;> subst e <;> exact ⟨by assumption, by assumption⟩⟩
theorem drop_s (h : MapS w lo hi p cs) (n : Int) {K : Nat} (hu : Upto K cs) (hK : K < 1000000000000) : Calls Tryd.prog 13 #[.pointer (some ⟨p, 0, none⟩), .int .i64 n] w (HeldS w lo hi p (dropC cs n) (.int .i64 (dropE cs n))) := by
  obtain ⟨a, b, bc, bf, cc, cf, h, h1, h2, h3, h4, h5, h6⟩ := h
  refine (drop_at h n hu hK).mono ?_
  rintro e w' ⟨he, hm, k⟩
  exact ⟨he, ⟨a, b, bc, bf, cc, cf, hm, h1, h2, h3, h4, h5, h6⟩, k.mono fun i _ e => by rcases e with e | e <;> subst e <;> exact ⟨by assumption, by assumption⟩⟩
theorem take_s (h : MapS w lo hi p cs) (hT : Tab w) {K : Nat} (hu : Upto K cs) (hK : K < 1000000000000) : Calls Tryd.prog 14 #[.pointer (some ⟨p, 0, none⟩)] w (HeldS w lo hi p (takeC cs) (.tuple #[.int .i64 (takeN cs : Nat), .int .i64 (takeE cs)])) := by
  obtain ⟨a, b, bc, bf, cc, cf, h, h1, h2, h3, h4, h5, h6⟩ := h
  refine (take_at h hT hu hK).mono ?_
  rintro e w' ⟨he, hm, k⟩
  exact ⟨he, ⟨a, b, bc, bf, cc, cf, hm, h1, h2, h3, h4, h5, h6⟩, k.mono fun i _ e => by rcases e with e | e <;> subst e <;> exact ⟨by assumption, by assumption⟩⟩
theorem count_s (h : MapS w lo hi p cs) (n : Int) : Calls Tryd.prog 18 #[.pointer (some ⟨p, 0, none⟩), .int .i64 n] w fun e w' => e = .returned (.int .i64 (countOf cs n : Nat)) ∧ w = w' := by
  obtain ⟨a, b, bc, bf, cc, cf, h, _⟩ := h
  exact count_at h n
theorem free_s (h : MapS w lo hi p cs) : Calls Tryd.prog 16 #[.pointer (some ⟨p, 0, none⟩)] w fun e w' => e = .returned (.int .i64 (nfree cs : Nat)) ∧ w = w' := by
  obtain ⟨a, b, bc, bf, cc, cf, h, _⟩ := h
  exact free_at h
theorem used_s (h : MapS w lo hi p cs) : Calls Tryd.prog 15 #[.pointer (some ⟨p, 0, none⟩)] w (GivesI w (usedOf cs cs.length)) := by
  obtain ⟨a, b, bc, bf, cc, cf, h, _⟩ := h
  exact used_at h
theorem copy_s (h : MapS w lo hi p cs) : Calls Tryd.prog 17 #[.pointer (some ⟨p, 0, none⟩)] w (CopyM w cs) := by
  obtain ⟨a, b, bc, bf, cc, cf, h, _⟩ := h
  exact copy_at h
theorem rhold_s (h : RefS w lo hi q cs) (n : Int) {K : Nat} (hu : Upto K cs) (hK : K < 1000000000000) : Calls Tryd.prog 21 #[.pointer (some ⟨q, 0, none⟩), .int .i64 n] w (RHeldS w lo hi q (holdC cs n) (.int .i64 (holdE cs n))) := by
  obtain ⟨bh, ch, h, h1, h2, h3, h4⟩ := h
  refine (rhold_at h n hu hK).mono ?_
  rintro e w' ⟨he, hm, k⟩
  exact ⟨he, ⟨bh, ch, hm, h1, h2, h3, h4⟩, k.mono fun i _ e => by subst e; exact ⟨h3, h4⟩⟩
theorem rdrop_s (h : RefS w lo hi q cs) (n : Int) {K : Nat} (hu : Upto K cs) (hK : K < 1000000000000) : Calls Tryd.prog 22 #[.pointer (some ⟨q, 0, none⟩), .int .i64 n] w (RHeldS w lo hi q (dropC cs n) (.int .i64 (dropE cs n))) := by
  obtain ⟨bh, ch, h, h1, h2, h3, h4⟩ := h
  refine (rdrop_at h n hu hK).mono ?_
  rintro e w' ⟨he, hm, k⟩
  exact ⟨he, ⟨bh, ch, hm, h1, h2, h3, h4⟩, k.mono fun i _ e => by subst e; exact ⟨h3, h4⟩⟩
theorem rtake_s (h : RefS w lo hi q cs) : Calls Tryd.prog 23 #[.pointer (some ⟨q, 0, none⟩)] w (RHeldS w lo hi q (takeC cs) (.tuple #[.int .i64 (takeN cs : Nat), .int .i64 (takeE cs)])) := by
  obtain ⟨bh, ch, h, h1, h2, h3, h4⟩ := h
  refine (rtake_at h).mono ?_
  rintro e w' ⟨he, hm, k⟩
  exact ⟨he, ⟨bh, ch, hm, h1, h2, h3, h4⟩, k.mono fun i _ e => by subst e; exact ⟨h3, h4⟩⟩
theorem rcount_s (h : RefS w lo hi q cs) (n : Int) : Calls Tryd.prog 24 #[.pointer (some ⟨q, 0, none⟩), .int .i64 n] w fun e w' => e = .returned (.int .i64 (countOf cs n : Nat)) ∧ w = w' := by
  obtain ⟨bh, ch, h, _⟩ := h
  exact rcount_at h n
theorem rused_s (h : RefS w lo hi q cs) : Calls Tryd.prog 25 #[.pointer (some ⟨q, 0, none⟩)] w (GivesI w (usedOf cs cs.length)) := by
  obtain ⟨bh, ch, h, _⟩ := h
  exact rused_at h
theorem rfree_s (h : RefS w lo hi q cs) : Calls Tryd.prog 26 #[.pointer (some ⟨q, 0, none⟩)] w (FreeR w cs) := by
  obtain ⟨bh, ch, h, _⟩ := h
  exact rfree_at h
theorem MapS.len (h : MapS w lo hi p cs) : cs.length ≤ 2000 := by
  obtain ⟨a, b, bc, bf, cc, cf, h, _⟩ := h
  exact h.len
end
theorem Tab.keeps {w w' : World} (h : Tab w) {F : Nat → Prop} (k : Keeps F w w') (hF : ¬ F 0) : Tab w' := h.keep (k.block 0 h.pos hF)

set_option maxHeartbeats 1000000 in
theorem awake_any (w : World) (hT : Tab w) : Calls Tryd.prog 7 #[] w fun e w' => e = .returned (.bool true) ∧ Below w.heap.size w w' := by
  have hp := hT.pos
  go_enter Tryd.func7, Tryd.ntmps7
  go_wp2_with fail
  refine (new_any 4 w).mono ?_
  rintro e w1 ⟨p, rfl, m1, b1⟩
  rw [show List.replicate (nS 4) 0 = [0, 0, 0, 0] from by decide] at m1
  have T1 := hT.below b1 hp
  go_wp2_with fail
  refine (take_s m1 T1 (K := 0) (by unfold Upto; decide) (by decide)).mono ?_
  rintro e w2 ⟨rfl, m2, k2⟩
  rw [show takeC [0, 0, 0, 0] = [0, 0, 1, 0] from by decide +kernel] at m2
  have T2 := T1.keeps k2 (by omega)
  rw [show takeN [0, 0, 0, 0] = 2 from by decide +kernel, show takeE [0, 0, 0, 0] = 0 from by decide +kernel]
  go_wp2_with fail
  refine (take_s m2 T2 (K := 1) (by unfold Upto; decide) (by decide)).mono ?_
  rintro e w3 ⟨rfl, m3, k3⟩
  rw [show takeC [0, 0, 1, 0] = [0, 0, 1, 1] from by decide +kernel] at m3
  have T3 := T2.keeps k3 (by omega)
  rw [show takeN [0, 0, 1, 0] = 3 from by decide +kernel, show takeE [0, 0, 1, 0] = 0 from by decide +kernel]
  go_wp2_with fail
  refine (take_s m3 T3 (K := 1) (by unfold Upto; decide) (by decide)).mono ?_
  rintro e w4 ⟨rfl, m4, k4⟩
  rw [show takeC [0, 0, 1, 1] = [0, 0, 1, 1] from by decide +kernel] at m4
  have T4 := T3.keeps k4 (by omega)
  rw [show takeN [0, 0, 1, 1] = 0 from by decide +kernel, show takeE [0, 0, 1, 1] = 50 from by decide +kernel]
  go_wp2_with fail
  refine (drop_s m4 2 (K := 1) (by unfold Upto; decide) (by decide)).mono ?_
  rintro e w5 ⟨rfl, m5, k5⟩
  rw [show dropC [0, 0, 1, 1] 2 = [0, 0, 0, 1] from by decide +kernel] at m5
  have T5 := T4.keeps k5 (by omega)
  rw [show dropE [0, 0, 1, 1] 2 = 0 from by decide +kernel]
  go_wp2_with fail
  refine (take_s m5 T5 (K := 1) (by unfold Upto; decide) (by decide)).mono ?_
  rintro e w6 ⟨rfl, m6, k6⟩
  rw [show takeC [0, 0, 0, 1] = [0, 0, 1, 1] from by decide +kernel] at m6
  rw [show takeN [0, 0, 0, 1] = 2 from by decide +kernel, show takeE [0, 0, 0, 1] = 0 from by decide +kernel]
  have hf := free_s m6
  rw [show nfree [0, 0, 1, 1] = 0 from by decide +kernel] at hf
  have HF := Lib.hid hf
  have hb : Below w.heap.size w w6 := b1.trans (((((k2.trans k3).trans k4).trans k5).trans k6).toBelow _ b1.size fun k h => h.1)
  have HB := Lib.hid hb
  clear hf hb b1 k2 k3 k4 k5 k6 T1 T2 T3 T4 T5 m1 m2 m3 m4 m5 m6
  go_wp2_with fail
  refine HF.out.mono ?_
  rintro e w' ⟨rfl, rfl⟩
  go_wp2_with fail
  go_ret
  exact ⟨rfl, HB.out⟩
end Go.Proofs.YtajagjhhpciocaaDoor.Sp
