/-
  HdOp
-/
import Derived.Test.YtceemmnfofjgeaaGreatDoorHdC
import Derived.Test.YtceemmnfofjgeaaGreatDoorGFi
import Derived.Test.YtceemmnfofjgeaaGreatDoorGFh
namespace Go.Proofs.YtceemmnfofjgeaaGreatDoor.Hd
open Go.RowKit Ex Ino Mm Fs
set_option linter.unusedVariables false
set_option linter.unusedSimpArgs false

variable {w : World} {p gb mb : Nat} {G M : List UInt8}
/-- Handle k + 1 is the lowest that isn't open. -/
def Low (M : List UInt8) (k : Nat) : Prop := k < 4 ∧ Upto M k ∧ isO M (k + 1) = false
theorem hclosed_at (h : MemAt w p gb mb G M) (ho : okR (regB M)) (k : Nat) (hk : Low M k) : Calls Tryz.prog 72 #[.pointer (some ⟨p, 0, none⟩)] w (OutM w p gb mb G M (.tuple #[.int .i64 ((k : Int) + 1), .int .i64 0])) := by
  refine (closed_any h ho).mono ?_
  rintro e w' ⟨v, hv, hw⟩
  obtain ⟨k4, ku, ko⟩ := hk
  have hkk : v = .tuple #[.int .i64 ((k : Int) + 1), .int .i64 0] := by
    rcases hv with ⟨j, j4, ju, jo, rfl⟩ | ⟨ju, rfl⟩
    · have : j = k := by
        rcases Nat.lt_trichotomy j k with f | f | f
        · have := ku j f; rw [jo] at this; exact absurd this (by decide)
        · exact f
        · have := ju k f; rw [ko] at this; exact absurd this (by decide)
      rw [this]
    · have := ju k k4
      rw [ko] at this
      exact absurd this (by decide)
  rw [← hkk]
  exact hw
set_option maxRecDepth 100000 in
set_option maxHeartbeats 1000000 in
theorem hopen_at (h : MemAt w p gb mb G M) (ho : okR (regB M)) (name : List UInt8) (hn : name.length ≤ 9223372036854775807) (i : Nat) (hi : i < 8) (hf : fVal (readN (regB M)) name = .tuple #[.int .i64 (i : Int), .int .i64 0]) (k : Nat) (hk : Low M k) :
    Calls Tryz.prog 23 #[.pointer (some ⟨p, 0, none⟩), St name] w (OutM w p gb mb G (layH M (k + 1) ((i : Int) + 1) 0) (.tuple #[.int .i64 ((k : Int) + 1), .int .i64 0])) := by
  have hff := ffind_any (memC_flat h) ho name hn
  rw [hf] at hff
  have HF := Lib.hid hff
  have HC : Hid (∀ W, MemAt W p gb mb G M → Calls Tryz.prog 72 #[.pointer (some ⟨p, 0, none⟩)] W (OutM W p gb mb G M (.tuple #[.int .i64 ((k : Int) + 1), .int .i64 0]))) := fun W hW => hclosed_at hW ho k hk
  have k4 := hk.1
  have HL : Hid (∀ W, MemAt W p gb mb G M → Calls Tryz.prog 73 #[.pointer (some ⟨p, 0, none⟩), .int .i64 ((k : Int) + 1), .agg #[.int .i64 ((i : Int) + 1), .int .i64 0]] W (OutM W p gb mb G (layH M (k + 1) ((i : Int) + 1) 0) (.tuple #[]))) := fun W hW => by
    have := lay_any hW (k + 1) (by omega) (by omega) ((i : Int) + 1) 0
    rwa [show ((k + 1 : Nat) : Int) = (k : Int) + 1 by omega] at this
  have hw : wrap64 ((i : Int) + 1) = (i : Int) + 1 := by unfold wrap64; omega
  clear h ho hf hk hff
  go_enter Tryz.func23, Tryz.ntmps23
  go_wp2_with fail
  refine HF.out.mono ?_
  rintro e w1 ⟨m1, k1, rfl⟩
  have H2 := Lib.hid (HC.out w1 m1)
  have K1 := Lib.hid (k1.mono fun _ _ e => Or.inr e : Keeps (fun j => j = p ∨ j = mb) w w1)
  clear m1 k1 HF HC
  go_wp2_with fail
  refine H2.out.mono ?_
  rintro e w2 ⟨rfl, m2, k2⟩
  have H3 := Lib.hid (HL.out w2 m2)
  have K2 := Lib.hid (K1.out.trans k2)
  clear m2 k2 H2 HL K1
  go_wp2_with fail
  try rw [hw]
  refine H3.out.mono ?_
  rintro e w3 ⟨rfl, m3, k3⟩
  have HG : Hid (OutM w p gb mb G (layH M (k + 1) ((i : Int) + 1) 0) (.tuple #[.int .i64 ((k : Int) + 1), .int .i64 0]) (.returned (.tuple #[.int .i64 ((k : Int) + 1), .int .i64 0])) w3) := ⟨rfl, m3, K2.out.trans k3⟩
  clear m3 k3 H3 K2
  go_wp2_with fail
  go_ret2
  exact HG.out
set_option maxRecDepth 100000 in
set_option maxHeartbeats 1000000 in
theorem hempty_at (h : MemAt w p gb mb G M) (ho : okR (regB M)) (hT : Tab w) (hmb : mb ≠ 0) (hp : p ≠ 0) (name : List UInt8) (hn : name.length ≤ 9223372036854775807) (hf : fVal (readN (regB M)) name = .tuple #[.int .i64 0, .int .i64 123])
    (i : Nat) (g1 g2 : RG) (hc : createV ⟨regB M, readN (regB M)⟩ name = (0, i, g1)) (M1 M2 : List UInt8) (e1 : layL M 6144 (bytesL g1) = M1) (ho1 : okR (regB M1)) (hr : resizeV ⟨regB M1, readN (regB M1)⟩ (i : Int) 0 = (0, g2)) (e2 : layL M1 6144 (bytesL g2) = M2) :
    Calls Tryz.prog 129 #[.pointer (some ⟨p, 0, none⟩), St name] w (OutM w p gb mb G M2 (.int .i64 0)) := by
  have hff := ffind_any (memC_flat h) ho name hn
  rw [hf] at hff
  have HF := Lib.hid hff
  have HC : Hid (∀ W, MemAt W p gb mb G M → Calls Tryz.prog 29 #[.pointer (some ⟨p, 0, none⟩), St name] W (OutM W p gb mb G M1 (.tuple #[.int .i64 (i : Int), .int .i64 0]))) := fun W hW => by
    have := fcreate_any hW ho name hn
    rw [hc] at this
    refine this.mono ?_
    rintro e w' ⟨rfl, m, k⟩
    rw [if_pos rfl, e1] at m
    exact ⟨rfl, m, k⟩
  have HR : Hid (∀ W, MemAt W p gb mb G M1 → Tab W → Calls Tryz.prog 42 #[.pointer (some ⟨p, 0, none⟩), .int .i64 (i : Int), .int .i64 0] W (OutM W p gb mb G M2 (.int .i64 0))) := fun W hW hT => by
    have := fresize_any hW ho1 hT hmb (i : Int) 0
    rw [hr] at this
    refine this.mono ?_
    rintro e w' ⟨rfl, m, k⟩
    rw [if_pos rfl, e2] at m
    exact ⟨rfl, m, k⟩
  have HT := Lib.hid hT
  clear h ho hf hff hc e1 ho1 hr e2 hT
  go_enter Tryz.func129, Tryz.ntmps129
  go_wp2_with fail
  refine HF.out.mono ?_
  rintro e w1 ⟨m1, k1, rfl⟩
  have H2 := Lib.hid (HC.out w1 m1)
  have K1 := Lib.hid (k1.mono fun _ _ e => Or.inr e : Keeps (fun j => j = p ∨ j = mb) w w1)
  clear m1 k1 HF HC
  go_wp2_with fail
  refine H2.out.mono ?_
  rintro e w2 ⟨rfl, m2, k2⟩
  have kk := K1.out.trans k2
  have H3 := Lib.hid (HR.out w2 m2 (HT.out.keep (kk.block 0 HT.out.pos (by omega))))
  have K2 := Lib.hid kk
  clear m2 k2 H2 HR K1 kk
  go_wp2_with fail
  refine H3.out.mono ?_
  rintro e w3 ⟨rfl, m3, k3⟩
  have HG : Hid (OutM w p gb mb G M2 (.int .i64 0) (.returned (.int .i64 0)) w3) := ⟨rfl, m3, K2.out.trans k3⟩
  clear m3 k3 H3 K2
  go_wp2_with fail
  go_ret
  exact HG.out
set_option maxRecDepth 100000 in
set_option maxHeartbeats 1000000 in
theorem hcreate_at (h : MemAt w p gb mb G M) (ho : okR (regB M)) (hT : Tab w) (hmb : mb ≠ 0) (hp : p ≠ 0) (name : List UInt8) (hn : name.length ≤ 1000000) (hnm : nameB name = true) (hf : fVal (readN (regB M)) name = .tuple #[.int .i64 0, .int .i64 123])
    (i : Nat) (hi : i < 8) (g1 g2 : RG) (hc : createV ⟨regB M, readN (regB M)⟩ name = (0, i, g1)) (M1 M2 : List UInt8) (e1 : layL M 6144 (bytesL g1) = M1) (ho1 : okR (regB M1)) (hr : resizeV ⟨regB M1, readN (regB M1)⟩ (i : Int) 0 = (0, g2)) (e2 : layL M1 6144 (bytesL g2) = M2)
    (ho2 : okR (regB M2)) (hf2 : fVal (readN (regB M2)) name = .tuple #[.int .i64 (i : Int), .int .i64 0]) (k0 k : Nat) (hk0 : Low M k0) (hk : Low M2 k) :
    Calls Tryz.prog 71 #[.pointer (some ⟨p, 0, none⟩), St name] w (OutM w p gb mb G (layH M2 (k + 1) ((i : Int) + 1) 0) (.tuple #[.int .i64 ((k : Int) + 1), .int .i64 0])) := by
  have HCK := Lib.hid (fcheck_any (memC_flat h))
  have HO := Lib.hid ho
  have HNM : Hid (∀ W, Calls Tryz.prog 128 #[St name] W (Gives W (.bool true))) := fun W => by rw [← hnm]; exact name_any name W (by omega)
  have HCL : Hid (∀ W, MemAt W p gb mb G M → Calls Tryz.prog 72 #[.pointer (some ⟨p, 0, none⟩)] W (OutM W p gb mb G M (.tuple #[.int .i64 ((k0 : Int) + 1), .int .i64 0]))) := fun W hW => hclosed_at hW ho k0 hk0
  have HE : Hid (∀ W, MemAt W p gb mb G M → Tab W → Calls Tryz.prog 129 #[.pointer (some ⟨p, 0, none⟩), St name] W (OutM W p gb mb G M2 (.int .i64 0))) := fun W hW hT => hempty_at hW ho hT hmb hp name (by omega) hf i g1 g2 hc M1 M2 e1 ho1 hr e2
  have HOP : Hid (∀ W, MemAt W p gb mb G M2 → Calls Tryz.prog 23 #[.pointer (some ⟨p, 0, none⟩), St name] W (OutM W p gb mb G (layH M2 (k + 1) ((i : Int) + 1) 0) (.tuple #[.int .i64 ((k : Int) + 1), .int .i64 0]))) := fun W hW => hopen_at hW ho2 name (by omega) i hi hf2 k hk
  have HT := Lib.hid hT
  generalize layH M2 (k + 1) ((i : Int) + 1) 0 = M3 at *
  clear h ho hf hc e1 ho1 hr e2 hT ho2 hf2 hk0 hk
  go_enter Tryz.func71, Tryz.ntmps71
  go_wp2_with fail
  refine HCK.out.mono ?_
  rintro e w1 ⟨m1, k1, ⟨-, rfl⟩ | ⟨hno, -⟩⟩
  rotate_left
  · exact absurd HO.out hno
  have M1' := Lib.hid m1
  have K1 := Lib.hid (k1.mono fun _ _ e => Or.inr e : Keeps (fun j => j = p ∨ j = mb) w w1)
  clear m1 k1 HCK
  go_wp2_with fail
  refine (HNM.out w1).mono ?_
  rintro e w2 ⟨rfl, b2⟩
  have kb : Keeps (fun _ => False) w1 w2 := keeps_below' b2
  have H3 := Lib.hid (HCL.out w2 (M1'.out.keep kb (fun f => f) (fun f => f) (fun f => f)))
  have K2 := Lib.hid (K1.out.trans (kb.mono fun _ _ f => f.elim))
  clear b2 kb M1' K1 HNM HCL
  go_wp2_with fail
  refine H3.out.mono ?_
  rintro e w3 ⟨rfl, m3, k3⟩
  have kk := K2.out.trans k3
  have H4 := Lib.hid (HE.out w3 m3 (HT.out.keep (kk.block 0 HT.out.pos (by omega))))
  have K3 := Lib.hid kk
  clear m3 k3 kk K2 H3 HE
  go_wp2_with fail
  refine H4.out.mono ?_
  rintro e w4 ⟨rfl, m4, k4⟩
  have H5 := Lib.hid (HOP.out w4 m4)
  have K4 := Lib.hid (K3.out.trans k4)
  clear m4 k4 K3 H4 HOP
  go_wp2_with fail
  refine H5.out.mono ?_
  rintro e w5 ⟨rfl, m5, k5⟩
  have HG : Hid (OutM w p gb mb G M3 (.tuple #[.int .i64 ((k : Int) + 1), .int .i64 0]) (.returned (.tuple #[.int .i64 ((k : Int) + 1), .int .i64 0])) w5) := ⟨rfl, m5, K4.out.trans k5⟩
  clear m5 k5 H5 K4
  go_wp2_with fail
  go_ret2
  exact HG.out
end Go.Proofs.YtceemmnfofjgeaaGreatDoor.Hd
