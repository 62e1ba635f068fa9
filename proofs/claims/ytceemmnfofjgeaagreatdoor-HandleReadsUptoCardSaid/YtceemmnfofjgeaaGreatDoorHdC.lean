/-
  HdC
-/
import Derived.Test.YtceemmnfofjgeaaGreatDoorHdL
namespace Go.Proofs.YtceemmnfofjgeaaGreatDoor.Hd
open Go.RowKit Ex Ino Mm Fs
set_option linter.unusedVariables false
set_option linter.unusedSimpArgs false

/-- The inode that a handle's first cell tells. -/
def hN (M : List UInt8) (h : Nat) : Int := wrap64 (hF M h - 1)
def isO (M : List UInt8) (h : Nat) : Bool := decide (nodeE (readN (regB M)) (hN M h) = 0)
/-- A file's size. (The kernel opens a projection of a plain function's answer at once, and then counts till its memory ends: the size as a function of its own.) -/
def szX (x : IN) : Int := x.size
theorem szX_eq (x : IN) : x.size = szX x := rfl
def hS (M : List UInt8) (h : Nat) : Int := szX (nodeX (readN (regB M)) (hN M h))
def opnV (M : List UInt8) (h : Nat) : Value := if isO M h = true then .tuple #[agO (hN M h) (cntV (hP M h) (hS M h)) (hS M h), .bool true] else .tuple #[agO 0 0 0, .bool false]
variable {w : World} {p gb mb : Nat} {G M : List UInt8}
theorem fszV_at (ns : List IN) (N sz E : Int) (hs : (nodeX ns N).size = sz) (he : nodeE ns N = E) : fszV ns N = .tuple #[.int .i64 sz, .int .i64 E] := by unfold fszV; rw [hs, he]
theorem isO_at (M : List UInt8) (n : Nat) (E : Int) (he : nodeE (readN (regB M)) (hN M n) = E) : isO M n = decide (E = 0) := by unfold isO; rw [he]
theorem opened_any (h : MemAt w p gb mb G M) (ho : okR (regB M)) (n : Nat) (h1 : 1 ≤ n) (h4 : n ≤ 4) :
    Calls Tryz.prog 79 #[.pointer (some ⟨p, 0, none⟩), .int .i64 (n : Int)] w (OutM w p gb mb G M (opnV M n)) := by
  obtain ⟨E, hE⟩ : ∃ E, nodeE (readN (regB M)) (hN M n) = E := ⟨_, rfl⟩
  have ho' := isO_at M n E hE
  have hz := fszV_at (readN (regB M)) (hN M n) (hS M n) E ((szX_eq _).trans (by unfold hS; rfl)) hE
  have hn : wrap64 (hF M n - 1) = hN M n := by unfold hN; rfl
  unfold opnV
  clear hE
  generalize hN M n = N at *
  generalize hS M n = sz at *
  generalize isO M n = b at *
  subst ho'
  by_cases hE : E = 0
  · rw [if_pos (decide_eq_true hE)]
    rw [hE] at hz
    exact opened_yes h ho n h1 h4 N _ hn hz
  · rw [if_neg (fun e => hE (of_decide_eq_true e))]
    exact opened_no h ho n h1 h4 N _ _ hE hn hz
/-- The lowest handle that isn't open. -/
def ClR (M : List UInt8) (v : Value) : Prop := (∃ k, k < 4 ∧ (∀ j, j < k → isO M (j + 1) = true) ∧ isO M (k + 1) = false ∧ v = .tuple #[.int .i64 ((k : Int) + 1), .int .i64 0]) ∨ ((∀ j, j < 4 → isO M (j + 1) = true) ∧ v = .tuple #[.int .i64 0, .int .i64 130])
def ClO (w : World) (p gb mb : Nat) (G M : List UInt8) (e : Ending) (w' : World) : Prop := ∃ v, ClR M v ∧ OutM w p gb mb G M v e w'
def Upto (M : List UInt8) (k : Nat) : Prop := ∀ j, j < k → isO M (j + 1) = true
set_option maxRecDepth 100000 in
set_option maxHeartbeats 1000000 in
theorem closed_any (h : MemAt w p gb mb G M) (ho : okR (regB M)) : Calls Tryz.prog 72 #[.pointer (some ⟨p, 0, none⟩)] w (ClO w p gb mb G M) := by
  have HM := Lib.hid h
  have HO := Lib.hid ho
  have LT := Lib.hid h.lt
  clear h ho
  go_enter Tryz.func72, Tryz.ntmps72
  go_wp2_with fail
  go_loopw [7] (fun i W => ∃ (k : Nat), i = .int .i64 (k : Int) ∧ k ≤ 4 ∧ Hid (Upto M k) ∧ Hid (MemAt W p gb mb G M) ∧ Hid (Keeps (fun j => j = p ∨ j = mb) w W)) (fun i _ => 4 - (RowKit.intOf i).toNat)
  case atStart => exact ⟨0, rfl, by omega, fun j hj => absurd hj (by omega), HM, Keeps.refl _ _⟩
  case round =>
    obtain ⟨k, rfl, hk, HU, HW, HK⟩ := hrel
    by_cases hlt : k < 4
    · have hop := opened_any HW.out HO.out (k + 1) (by omega) (by omega)
      rw [show ((k + 1 : Nat) : Int) = (k : Int) + 1 by omega] at hop
      have hw1 : wrap64 ((k : Int) + 1) = ((k + 1 : Nat) : Int) := by unfold wrap64; omega
      have hd : decide ((k : Int) < 4) = true := by simp; omega
      by_cases hs : isO M (k + 1) = true
      · unfold opnV at hop
        rw [if_pos hs] at hop
        generalize hN M (k + 1) = N at *
        generalize hS M (k + 1) = sz at *
        generalize cntV (hP M (k + 1)) sz = pl at *
        have HU2 : Hid (Upto M (k + 1)) := fun j hj => by
          rcases Nat.lt_succ_iff_lt_or_eq.1 hj with f | rfl
          · exact HU.out j f
          · exact hs
        have HOP := Lib.hid hop
        clear hop hs
        unfold agO at HOP
        go_wp2_with fail
        refine HOP.out.mono ?_
        rintro e w2 ⟨rfl, m2, k2⟩
        have HM2 := Lib.hid (m2.keep (Keeps.alloc (fun _ => False) w2 (.cells #[.int .i64 N, .int .i64 pl, .int .i64 sz] 108)) (fun f => f) (fun f => f) (fun f => f))
        have HK2 : Hid (Keeps (fun j => j = p ∨ j = mb) w (w2.alloc (.cells #[.int .i64 N, .int .i64 pl, .int .i64 sz] 108))) := (HK.out.trans (k2.mono fun _ _ e => e)).trans (Keeps.alloc _ _ _)
        clear m2 k2 HOP
        go_wp2_with fail
        go_roundw
        case rel => exact ⟨k + 1, by go_num, by omega, HU2, HM2, HK2⟩
        case measure => simp [RowKit.intOf]; omega
      · have hs' : isO M (k + 1) = false := by simpa using hs
        unfold opnV at hop
        rw [if_neg hs] at hop
        have HR : Hid (ClR M (.tuple #[.int .i64 ((k : Int) + 1), .int .i64 0])) := .inl ⟨k, hlt, HU.out, hs', rfl⟩
        have HOP := Lib.hid hop
        clear hop hs hs'
        unfold agO at HOP
        go_wp2_with fail
        refine HOP.out.mono ?_
        rintro e w2 ⟨rfl, m2, k2⟩
        have HM2 := m2.keep (Keeps.alloc (fun _ => False) w2 (.cells #[.int .i64 0, .int .i64 0, .int .i64 0] 108)) (fun f => f) (fun f => f) (fun f => f)
        have HG : Hid (ClO w p gb mb G M (.returned (.tuple #[.int .i64 ((k : Int) + 1), .int .i64 0])) (w2.alloc (.cells #[.int .i64 0, .int .i64 0, .int .i64 0] 108))) := ⟨_, HR.out, rfl, HM2, (HK.out.trans (k2.mono fun _ _ e => e)).trans (Keeps.alloc _ _ _)⟩
        clear m2 k2 HM2 HOP HR
        go_wp2_with fail
        try rw [Exit.noGoto_ret]
        go_ret2
        exact HG.out
    · have hk4 : k = 4 := by omega
      subst hk4
      have HG : Hid (ClO w p gb mb G M (.returned (.tuple #[.int .i64 0, .int .i64 130])) wr) := ⟨_, .inr ⟨HU.out, rfl⟩, rfl, HW.out, HK.out⟩
      go_wp2_with fail
      go_ret2
      exact HG.out
set_option maxRecDepth 100000 in
theorem move_any (h : MemAt w p gb mb G M) (n : Nat) (h1 : 1 ≤ n) (h4 : n ≤ 4) (N pl sz at' : Int) (hN : -9223372036854775808 ≤ N ∧ N < 9223372036854775807) : Calls Tryz.prog 76 #[agO N pl sz, .pointer (some ⟨p, 0, none⟩), .int .i64 (n : Int), .int .i64 at'] w (OutM w p gb mb G (layH M n (N + 1) at') (.tuple #[])) := by
  have HL := Lib.hid (lay_any (h.keep (Keeps.alloc (fun _ => False) w (.cells #[.int .i64 N, .int .i64 pl, .int .i64 sz] 108)) (fun f => f) (fun f => f) (fun f => f)) n h1 h4 (N + 1) at')
  have K0 : Hid (Keeps (fun j => j = p ∨ j = mb) w (w.alloc (.cells #[.int .i64 N, .int .i64 pl, .int .i64 sz] 108))) := Keeps.alloc _ _ _
  have hw : wrap64 (N + 1) = N + 1 := by unfold wrap64; omega
  unfold agO
  clear h
  go_enter Tryz.func76, Tryz.ntmps76
  go_wp2_with fail
  try rw [hw]
  refine HL.out.mono ?_
  rintro e w2 ⟨rfl, m2, k2⟩
  have HG : Hid (OutM w p gb mb G (layH M n (N + 1) at') (.tuple #[]) (.returned (.tuple #[])) w2) := ⟨rfl, m2, K0.out.trans k2⟩
  clear m2 k2 HL K0
  go_wp2_with fail
  go_end0
  exact HG.out
end Go.Proofs.YtceemmnfofjgeaaGreatDoor.Hd
