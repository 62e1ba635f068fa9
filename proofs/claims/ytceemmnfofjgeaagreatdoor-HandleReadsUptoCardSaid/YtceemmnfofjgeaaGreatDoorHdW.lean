/-
  HdW
-/
import Derived.Test.YtceemmnfofjgeaaGreatDoorHdC
namespace Go.Proofs.YtceemmnfofjgeaaGreatDoor.Hd
open Go.RowKit Ex Ino Mm Fs
set_option linter.unusedVariables false
set_option linter.unusedSimpArgs false

variable {w : World} {p gb mb : Nat} {G M : List UInt8}
/-- An error number is given back, and R holds of it. -/
def RetE (R : Int → World → Prop) (e : Ending) (w' : World) : Prop := ∃ E, e = .returned (.int .i64 E) ∧ R E w'
set_option maxRecDepth 100000 in
set_option maxHeartbeats 1000000 in
theorem with_any (h : MemAt w p gb mb G M) (ho : okR (regB M)) (n : Nat) (h1 : 1 ≤ n) (h4 : n ≤ 4) (hO : isO M n = true) (N : Nat) (caps : Array Value)
    (en : ∀ args W, (callFunc N args).run Tryz.prog W = .ok (.enter N args) W) (R : Int → World → Prop)
    (hc : ∀ W, MemAt W p gb mb G M → Keeps (fun j => j = p ∨ j = mb) w W → Calls Tryz.prog N (#[agO (hN M n) (cntV (hP M n) (hS M n)) (hS M n)] ++ caps) W (RetE R)) :
    Calls Tryz.prog 74 #[.pointer (some ⟨p, 0, none⟩), .int .i64 (n : Int), .func (.func N) #[] caps] w (RetE R) := by
  have HCK := Lib.hid (fcheck_any (memC_flat h))
  have HO := Lib.hid ho
  have HOP : Hid (∀ W, MemAt W p gb mb G M → Calls Tryz.prog 79 #[.pointer (some ⟨p, 0, none⟩), .int .i64 (n : Int)] W (OutM W p gb mb G M (.tuple #[agO (hN M n) (cntV (hP M n) (hS M n)) (hS M n), .bool true]))) := fun W hW => by
    have := opened_any hW ho n h1 h4
    unfold opnV at this
    rwa [if_pos hO] at this
  have HC := Lib.hid hc
  clear h ho hc hO
  generalize hN M n = N1 at *
  generalize hS M n = sz at *
  generalize cntV (hP M n) sz = pl at *
  go_enter Tryz.func74, Tryz.ntmps74
  go_wp2_with fail
  refine HCK.out.mono ?_
  rintro e w1 ⟨m1, k1, ⟨-, rfl⟩ | ⟨hno, -⟩⟩
  rotate_left
  · exact absurd HO.out hno
  have H2 := Lib.hid (HOP.out w1 m1)
  have K1 := Lib.hid (k1.mono fun _ _ e => Or.inr e : Keeps (fun j => j = p ∨ j = mb) w w1)
  clear k1 m1 HCK HOP
  unfold agO at H2
  go_wp2_with fail
  refine H2.out.mono ?_
  rintro e w2 ⟨rfl, m2, k2⟩
  have hm3 := m2.keep (Keeps.alloc (fun _ => False) w2 (.cells #[.int .i64 N1, .int .i64 pl, .int .i64 sz] 108)) (fun f => f) (fun f => f) (fun f => f)
  have hk3 : Keeps (fun j => j = p ∨ j = mb) w (w2.alloc (.cells #[.int .i64 N1, .int .i64 pl, .int .i64 sz] 108)) := (K1.out.trans k2).trans (Keeps.alloc _ _ _)
  have H3 := Lib.hid (HC.out _ hm3 hk3)
  clear m2 k2 hm3 hk3 HC H2
  unfold agO at H3
  go_wp2_with fail
  refine H3.out.mono ?_
  rintro e w3 ⟨E, rfl, hr⟩
  have HG : Hid (RetE R (.returned (.int .i64 E)) w3) := ⟨E, rfl, hr⟩
  clear hr H3
  go_wp2_with fail
  go_ret
  exact HG.out
end Go.Proofs.YtceemmnfofjgeaaGreatDoor.Hd
