/-
  The contract of alike: maps that stand alike, without change.
-/
import Derived.Test.YtajagjhhpciocaaDoorSpAct
namespace Go.Proofs.YtajagjhhpciocaaDoor.Sp
open Go.RowKit

def Alike (w : World) (e : Ending) (w' : World) : Prop := e = .returned (.bool true) ∧ Below w.heap.size w w'
theorem MapS.drewN {w : World} {lo hi p : Nat} {cs : List Nat} (h : MapS w lo hi p cs) (n : Nat) : MapS (w.drewN n) lo hi p cs := h.below ⟨rfl, rfl, rfl, Nat.le_refl _, fun _ _ => rfl⟩
theorem RefS.drewN {w : World} {lo hi p : Nat} {cs : List Nat} (h : RefS w lo hi p cs) (n : Nat) : RefS (w.drewN n) lo hi p cs := h.below ⟨rfl, rfl, rfl, Nat.le_refl _, fun _ _ => rfl⟩
set_option maxHeartbeats 1600000 in
theorem alike_any {w : World} {lo hi lo' hi' p q : Nat} {cs : List Nat} (hm : MapS w lo hi p cs) (hr : RefS w lo' hi' q cs) :
    Calls Tryd.prog 11 #[.pointer (some ⟨p, 0, none⟩), .pointer (some ⟨q, 0, none⟩)] w (Alike w) := by
  have hlen := hm.len
  have hle := usedOf_le cs cs.length
  have hu1 := used_s hm
  have HU1 := Lib.hid hu1
  have HM := Lib.hid hm
  have HR := Lib.hid hr
  clear hu1 hm hr
  go_enter Tryd.func11, Tryd.ntmps11
  go_wp2_with fail
  refine HU1.out.mono ?_
  rintro e w1 ⟨R1, c1, rfl, i1, b1⟩
  have r1 := HR.out.below b1
  have HU2 := Lib.hid (rused_s r1)
  have HM1 := Lib.hid (HM.out.below b1)
  have HR1 := Lib.hid r1
  have B1 := Lib.hid b1
  have I1 := Lib.hid i1
  clear r1 HU1 HM HR b1 i1
  go_wp2_with fail
  refine HU2.out.mono ?_
  rintro e w2 ⟨R2, c2, rfl, i2, b2⟩
  have m2 := HM1.out.below b2
  have r2 := HR1.out.below b2
  have HF := Lib.hid (free_s m2)
  have HG := Lib.hid (rfree_s r2)
  have HM2 := Lib.hid m2
  have HR2 := Lib.hid r2
  have B2 := Lib.hid (B1.out.trans (b2.mono B1.out.size))
  have J1 := Lib.hid (I1.out.below b2)
  have J2 := Lib.hid i2
  clear m2 r2 HU2 HM1 HR1 b2 i2 I1 B1
  generalize hL : usedOf cs cs.length = l at *
  clear hL
  go_wp2_with fail
  refine HF.out.mono ?_
  rintro e w' ⟨rfl, rfl⟩
  go_wp2_with fail
  refine HG.out.mono ?_
  rintro e w3 ⟨rfl, b3⟩
  have HM3 := Lib.hid (HM2.out.below b3)
  have HR3 := Lib.hid (HR2.out.below b3)
  have B3 := Lib.hid (B2.out.trans (b3.mono B2.out.size))
  have K1 := Lib.hid (J1.out.below b3)
  have K2 := Lib.hid (J2.out.below b3)
  clear HF HG HM2 HR2 B2 J1 J2 b3
  generalize nfree cs = f at *
  go_wp2_with fail
  go_loopw [26, 7] (fun i _ wr => ∃ k : Nat, k ≤ l.length ∧ i = .int .i64 (k : Int) ∧ Below w3.heap.size w3 wr) (fun i _ _ => l.length - (intOf i).toNat)
  case atStart => exact ⟨0, by omega, rfl, Below.refl _ _⟩
  case round =>
    obtain ⟨k, hk, rfl, bel⟩ := hrel
    by_cases hlt : k < l.length
    · obtain ⟨g1, rfl, hg1, e1⟩ := (K1.out.below bel).at_ hlt
      obtain ⟨g2, rfl, hg2, e2⟩ := (K2.out.below bel).at_ hlt
      have MR := Lib.hid (HM3.out.below bel)
      have RR := Lib.hid (HR3.out.below bel)
      have B3' := Lib.hid bel
      clear bel
      generalize l[k] = x at *
      go_wp2_with fail
      go_quiet ((first
        | (go_at_call 18; exact Calls.quiet_of_same ((count_s (MR.out.drewN _) _).mono fun _ _ ⟨he, hw⟩ => ⟨he, hw.symm⟩))
        | (go_at_call 24; exact Calls.quiet_of_same ((rcount_s (RR.out.drewN _) _).mono fun _ _ ⟨he, hw⟩ => ⟨he, hw.symm⟩))))
      go_wp2_with fail
      go_roundw
      case rel => exact ⟨k + 1, by omega, by go_num, B3'.out.trans ⟨rfl, rfl, rfl, Nat.le_refl _, fun _ _ => rfl⟩⟩
      case measure => simp [intOf]; omega
    · obtain rfl : k = l.length := by omega
      have BF := Lib.hid (B3.out.trans (bel.mono B3.out.size))
      clear bel B3
      go_wp2_with fail
      go_ret
      exact ⟨rfl, BF.out⟩
end Go.Proofs.YtajagjhhpciocaaDoor.Sp
