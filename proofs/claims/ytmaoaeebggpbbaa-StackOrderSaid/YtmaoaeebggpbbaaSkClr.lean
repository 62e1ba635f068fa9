/-
  SkClr
-/
import Derived.Test.YtmaoaeebggpbbaaSkTop
namespace Go.Proofs.Ytmaoaeebggpbbaa.Sk
open Go.RowKit Go.Maps Mm
set_option linter.unusedVariables false
set_option linter.unusedSimpArgs false
variable {w : World} {v : Option Addr} {p gb mb : Nat} {ok : Bool} {G M : List UInt8} {a lo hi ov un : Int}
/-- Numbers in a new block; the memory is as it was. -/
def GivesL (w : World) (v : Option Addr) (p gb mb : Nat) (ok : Bool) (G M : List UInt8) (zs : List Int) (e : Ending) (w' : World) : Prop := ∃ g, e = .returned (.slice (some ⟨g, 0, none⟩) zs.length zs.length) ∧ w.heap.size ≤ g ∧ RI w' g zs ∧ SM w' v p gb mb ok G M ∧ Keeps (SF ok p mb) w w'
set_option maxRecDepth 100000 in
set_option maxHeartbeats 400000 in
theorem Cells_any (h : SM w v p gb mb ok G M) : Calls Try.prog 16 #[.pointer v] w (GivesL w v p gb mb ok G M (takeL M (512 - 8 * (dD M : Int)) (dD M))) := by
  have HH := Lib.hid h
  have DD := Lib.hid fun (W : World) (hh : SM W v p gb mb ok G M) => Depth_any hh
  have TT := fun (W : World) (hh : SM W v p gb mb ok G M) => tell_at hh paD (dD M) (dD_le M) (dD_top M) (dD M) (Nat.le_refl _)
  generalize takeL M (512 - 8 * (dD M : Int)) (dD M) = zs at *
  have TH := Lib.hid TT
  clear h TT
  go_enter Try.func16, Try.ntmps16
  go_wp2_with fail
  refine (data_any _ _).mono ?_
  rintro e w2 ⟨rfl, k2⟩
  have K2 := Lib.hid (Keeps.first HH.out (fun _ x => x) k2)
  have h2 := HH.out.keep k2 fun _ _ f => f
  clear k2
  go_wp2_with fail
  refine (DD.out _ h2).mono ?_
  rintro e w3 ⟨rfl, h3, k3⟩
  have K3 := Lib.hid (K2.out.trans k3)
  clear h2 k3
  go_wp2_with fail
  refine (TH.out _ h3).mono ?_
  rintro e w4 ⟨g, rfl, hg, r4, h4, k4⟩
  have sg : w.heap.size ≤ g := by have := K3.out.size; omega
  have K4 := Lib.hid (K3.out.trans k4)
  have R4 := Lib.hid r4
  have H4 := Lib.hid h4
  clear h3 h4 k4 r4
  go_wp2_with fail
  go_ret
  exact ⟨g, rfl, sg, R4.out, H4.out, K4.out⟩
def FB (w : World) (g : Nat) (v : Option Addr) : Prop := w.heap[g]? = some (.cells #[.func (.func 54) #[dataV v] #[], .func (.func 54) #[backV v] #[]] 1 (0, 0))
theorem FB.keep {w' : World} {g : Nat} {F : Nat → Prop} (h : FB w g v) (k : Keeps F w w') (hF : ¬ F g) : FB w' g v := (k.block g (Array.getElem?_eq_some_iff.1 h).1 hF).trans h
theorem FB.c0 {g : Nat} (h : FB w g v) : w.cell? ⟨g, 0, none⟩ = some (.func (.func 54) #[dataV v] #[]) := by
  unfold FB at h
  rw [cell_of_row _ _ _ _ _ _ h]
  rfl
theorem FB.c1 {g : Nat} (h : FB w g v) : w.cell? ⟨g, 1, none⟩ = some (.func (.func 54) #[backV v] #[]) := by
  unfold FB at h
  rw [cell_of_row _ _ _ _ _ _ h]
  rfl
theorem SM.cast {M' : List UInt8} (h : SM w v p gb mb ok G M) (e : M = M') : SM w v p gb mb ok G M' := e ▸ h
set_option maxRecDepth 100000 in
set_option maxHeartbeats 800000 in
theorem Clear_any (h : SM w v p gb mb ok G M) : Calls Try.prog 23 #[.pointer v] w (OutS w v p gb mb ok G (setS ok (setS ok M 32 512) 40 768) (.tuple #[])) := by
  have HH := Lib.hid h
  have C1 := Lib.hid fun (W : World) (hh : SM W v p gb mb ok G M) => clear_at hh paD
  have C2 := Lib.hid fun (W : World) (hh : SM W v p gb mb ok G (setS ok M 32 512)) => clear_at hh paB
  generalize setS ok (setS ok M 32 512) 40 768 = M2 at *
  generalize setS ok M 32 512 = M1 at *
  have en := en_clear
  clear h
  go_enter Try.func23, Try.ntmps23
  go_wp2_with fail
  refine (data_any _ _).mono ?_
  rintro e w2 ⟨rfl, k2⟩
  have K2 := Lib.hid (Keeps.first HH.out (fun _ x => x) k2)
  have h2 := HH.out.keep k2 fun _ _ f => f
  clear k2
  go_wp2_with fail
  refine (back_any _ _).mono ?_
  rintro e w3 ⟨rfl, k3⟩
  have K3 := Lib.hid (K2.out.trans (Keeps.first h2 (fun _ x => x) k3))
  have h3 := h2.keep k3 fun _ _ f => f
  clear h2 k3 K2
  go_wp2_with fail
  have LT := Lib.hid (fun k hk => SM.lt h3 (k := k) hk)
  have h4 := h3.alloc (.cells #[.func (.func 54) #[dataV v] #[], .func (.func 54) #[backV v] #[]] 1)
  have f4 : FB (w3.alloc (.cells #[.func (.func 54) #[dataV v] #[], .func (.func 54) #[backV v] #[]] 1)) w3.heap.size v := heap_alloc_new w3 _
  have k4 := K3.out.trans (Keeps.alloc (SF ok p mb) w3 (.cells #[.func (.func 54) #[dataV v] #[], .func (.func 54) #[backV v] #[]] 1))
  have NG : Hid (¬ SF ok p mb w3.heap.size) := Lib.hid fun x => Nat.lt_irrefl _ (LT.out _ x)
  generalize w3.alloc (.cells #[.func (.func 54) #[dataV v] #[], .func (.func 54) #[backV v] #[]] 1) = w4 at *
  generalize w3.heap.size = g at *
  have H4 := Lib.hid h4
  have F4 := Lib.hid f4
  have K4 := Lib.hid k4
  clear h3 h4 f4 k4 K3 LT HH
  go_loopw [12, 3] (fun i _ wr => ((i = .int .i64 0 ∧ SM wr v p gb mb ok G M) ∨ (i = .int .i64 1 ∧ SM wr v p gb mb ok G M1) ∨ (i = .int .i64 2 ∧ SM wr v p gb mb ok G M2)) ∧ FB wr g v ∧ Keeps (SF ok p mb) w wr) (fun i _ _ => 2 - (RowKit.intOf i).toNat)
  case atStart => exact ⟨.inl ⟨rfl, H4.out⟩, F4.out, K4.out⟩
  case round =>
    clear H4 F4 K4
    obtain ⟨hor, hf, hk⟩ := hrel
    have c0 := hf.c0
    have c1 := hf.c1
    have FF := Lib.hid hf
    have KK := Lib.hid hk
    clear hf hk
    rcases hor with ⟨rfl, hm⟩ | ⟨rfl, hm⟩ | ⟨rfl, hm⟩
    · have CC := Lib.hid (C1.out _ hm)
      clear hm
      go_wp2_with fail
      refine CC.out.mono ?_
      rintro e w5 ⟨rfl, m5, k5⟩
      have M5 := Lib.hid m5
      have F5 := Lib.hid (FB.keep FF.out k5 NG.out)
      have K5 := Lib.hid (KK.out.trans k5)
      clear m5 k5 c0 c1
      go_wp2_with fail
      go_roundw
      case rel => exact ⟨.inr (.inl ⟨rfl, M5.out⟩), F5.out, K5.out⟩
      case measure => simp [RowKit.intOf]
    · have CC := Lib.hid (C2.out _ hm)
      clear hm
      go_wp2_with fail
      refine CC.out.mono ?_
      rintro e w5 ⟨rfl, m5, k5⟩
      have M5 := Lib.hid m5
      have F5 := Lib.hid (FB.keep FF.out k5 NG.out)
      have K5 := Lib.hid (KK.out.trans k5)
      clear m5 k5 c0 c1
      go_wp2_with fail
      go_roundw
      case rel => exact ⟨.inr (.inr ⟨rfl, M5.out⟩), F5.out, K5.out⟩
      case measure => simp [RowKit.intOf]
    · have HM := Lib.hid hm
      clear hm c0 c1
      go_wp2_with fail
      all_goals
        go_end0
        exact ⟨rfl, HM.out, KK.out⟩
end Go.Proofs.Ytmaoaeebggpbbaa.Sk
