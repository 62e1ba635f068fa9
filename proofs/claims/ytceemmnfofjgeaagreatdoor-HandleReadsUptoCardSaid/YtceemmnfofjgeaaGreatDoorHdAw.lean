/-
  HdAw
-/
import Derived.Test.YtceemmnfofjgeaaGreatDoorHdSt
import Derived.Test.YtceemmnfofjgeaaGreatDoorHdPl
import Derived.Test.YtceemmnfofjgeaaGreatDoorGFi
import Derived.Test.YtceemmnfofjgeaaGreatDoorGLe
import Derived.Lib.SlBytesConst
namespace Go.Proofs.YtceemmnfofjgeaaGreatDoor.Hd
open Go.RowKit Ex Ino Mm Fs
set_option linter.unusedVariables false
set_option linter.unusedSimpArgs false

variable {M : List UInt8} {w : World} {p gb mb : Nat} {G : List UInt8}
/-- Open behind Create: one file without bytes, and two handles at its first byte. -/
theorem open_two (h : MemAt w p gb mb G M) (c : UInt8) (hc : c = 97 ∨ c = 102) {B : List UInt8} (hh : Has M ⟨B, nsC c⟩) (hf1 : hF M 1 = 1) (hp1 : hP M 1 = 0) (hz : ∀ h, 2 ≤ h → h ≤ 4 → hF M h = 0) :
    ∃ M', HS M' c [] 0 0 ∧ Calls Tryz.prog 23 #[.pointer (some ⟨p, 0, none⟩), St [c]] w (OutM w p gb mb G M' (.tuple #[.int .i64 2, .int .i64 0])) := by
  obtain ⟨M', h1, ⟨h2, h3⟩, ⟨h4, h5⟩, hcall⟩ := open_new h c hc hh hf1 hp1 hz
  refine ⟨M', ⟨hc, by simp, ⟨⟨B, nsC c⟩, h1, ?_, ?_⟩, h2, h4, h3, h5⟩, hcall⟩
  · rfl
  · unfold dataV
    rfl
theorem lit_xy : (#[.int .u8 120, .int .u8 121] : Array Value) = (([120, 121] : List UInt8).map B8).toArray := by simp [B8]
set_option maxRecDepth 100000 in
set_option maxHeartbeats 2000000 in
theorem hawake_any (w : World) (hT : Tab w) : Calls Tryz.prog 17 #[] w fun e w' => e = .returned (.bool true) ∧ Below w.heap.size w w' := by
  have hT0 := hT.pos
  have HT := Lib.hid hT
  clear hT
  go_enter Tryz.func17, Tryz.ntmps17
  go_wp2_with fail
  refine (mflat_any none [] 0 w BR.nil).mono ?_
  rintro e w2 ⟨p, gb, mb, rfl, p1, p2, p3, hm, k2⟩
  have zl := fillL_len []
  have hcl := clean_fmt
  generalize fillL [] = Z at *
  have hT2 := HT.out.keep (k2.block 0 hT0 (fun f => f))
  have K2 := Lib.hid k2
  have KT : Hid (∀ W, Keeps (fun k => k = p ∨ k = mb) w2 W → Below w.heap.size w W ∧ Tab W) := fun W k => by
    have := Keeps.thru (F'' := fun _ => False) K2.out k (fun _ _ h => h) fun i hi h => by omega
    exact ⟨this.toBelow _ (Nat.le_refl _) fun _ h => h.elim, hT2.keep (k.block 0 hT2.pos (fun e => by omega))⟩
  have HFM := Lib.hid (format_any (layC_flat hm fmtB (by rw [fmtB_len]; omega)))
  have HCL := Lib.hid hcl
  clear k2 hT2 hcl
  go_wp2_with fail
  refine HFM.out.mono ?_
  rintro e w3 ⟨rfl, h3, k3⟩
  have k3' : Keeps (fun k => k = p ∨ k = mb) w2 w3 := k3
  have hrl : (regB Z).length = 2048 := by unfold regB; rw [List.length_drop]; omega
  obtain ⟨M4, B4, -, q2, q3, q4, q5, hc4⟩ := create_new h3 (KT.out _ k3').2 (by omega) (by omega) 97 (.inl rfl) hrl (Has.fmt zl) HCL.out
  have H4 := Lib.hid hc4
  have Q := Lib.hid (And.intro q2 (And.intro q3 (And.intro q4 q5)))
  have K3 := Lib.hid k3'
  clear h3 k3 k3' HFM hc4 q2 q3 q4 q5 hm HCL
  go_wp2_with fail
  refine H4.out.mono ?_
  rintro e w4 ⟨rfl, h4, k4⟩
  obtain ⟨q2, q3, q4, q5⟩ := Q.out
  obtain ⟨M5, s5, hc5⟩ := open_two h4 97 (.inl rfl) q2 q3 q4 q5
  have H5 := Lib.hid hc5
  have S5 := Lib.hid s5
  have K4 := Lib.hid (K3.out.trans k4)
  clear h4 k4 K3 H4 hc5 s5 q2 q3 q4 q5 Q
  go_wp2_with fail
  refine H5.out.mono ?_
  rintro e w5 ⟨rfl, h5, k5⟩
  have kc : (convert 31 31 (.slice (some ⟨w5.heap.size, 0, none⟩) 2 2)).run Tryz.prog (w5.alloc (.cells #[.int .u8 120, .int .u8 121] 5)) = .ok (.slice (some ⟨w5.heap.size, 0, none⟩) 2 2) (w5.alloc (.cells #[.int .u8 120, .int .u8 121] 5 (2, 3))) := Lib.run_convert_bytes_const (P := Tryz.prog) w5 31 5 #[.int .u8 120, .int .u8 121] 2 2 Tryz.underlying31 Tryz.underlying5
  have r5 : BR (w5.alloc (.cells #[.int .u8 120, .int .u8 121] 5 (2, 3))) (w5.alloc (.cells #[.int .u8 120, .int .u8 121] 5 (2, 3))).heap.size (some ⟨w5.heap.size, 0, none⟩) [120, 121] := (BR.new w5 _ _ _ _ lit_xy).more (by simp)
  have ka : Keeps (fun k => k = p ∨ k = mb) w2 (w5.alloc (.cells #[.int .u8 120, .int .u8 121] 5 (2, 3))) := (K4.out.trans k5).trans (Keeps.alloc _ _ _)
  have h5a := h5.keep (Keeps.alloc (fun _ => False) w5 (.cells #[.int .u8 120, .int .u8 121] 5 (2, 3))) (fun f => f) (fun f => f) (fun f => f)
  have l5 := h5.lt
  have hw := hwrite_any h5a S5.out.ok (KT.out _ ka).2 (by omega) (by omega) 1 (by omega) (by omega) S5.out.o1 2 r5 (by simp) (fun _ ad e => by cases e; show w5.heap.size ≠ mb ∧ w5.heap.size ≠ p; omega)
  obtain ⟨v6, s6⟩ := S5.out.write [120, 121] (by simp)
  rw [v6] at hw
  simp only [List.length_cons, List.length_nil, Nat.zero_add, Nat.reduceAdd] at hw s6
  generalize wrM M5 1 (hN M5 1) (hL M5 1) 2 (wrV M5 1 [120, 121]) = M6 at *
  have HW := Lib.hid hw
  have S6 := Lib.hid s6
  have K5 := Lib.hid ka
  clear hw s6 v6 ka h5 k5 h5a r5 l5 H5 K4 S5
  go_wp2_with fail
  refine HW.out.mono ?_
  rintro e w6 ⟨rfl, h6, k6⟩
  have hr := hread_any h6 S6.out.ok 2 (by omega) (by omega) S6.out.o2 9 (by omega)
  obtain ⟨v7, x7, s7⟩ := S6.out.read (by omega) (by simp) 9 (by omega)
  have x7' : rdX M6 2 9 = [120, 121] := x7
  rw [v7, x7'] at hr s7
  have s7' : HS (rdM M6 2 (hN M6 2) (hL M6 2) ([120, 121] : List UInt8).length 0) 97 [120, 121] 2 2 := s7
  simp only [List.length_cons, List.length_nil, Nat.zero_add, Nat.reduceAdd] at s7' hr
  generalize rdM M6 2 (hN M6 2) (hL M6 2) 2 0 = M7 at *
  have PB : Hid (p < w6.heap.size ∧ mb < w6.heap.size) := ⟨h6.lt.1, h6.lt.2.2⟩
  have HR := Lib.hid hr
  have S7 := Lib.hid s7'
  have K6 := Lib.hid (K5.out.trans k6)
  clear hr s7 s7' v7 x7 x7' h6 k6 HW K5
  go_wp2_with fail
  refine HR.out.mono ?_
  rintro e w7 ⟨⟨A, c, rfl, br7, hn7⟩, h7, k7⟩
  have hp := hplace_any h7 S7.out.ok 2 (by omega) (by omega) S7.out.o2
  rw [S7.out.hL2 (by simp) (by simp)] at hp
  have HP := Lib.hid hp
  have BR7 := Lib.hid br7
  have K7 := Lib.hid (K6.out.trans k7)
  clear hp h7 k7 br7 HR K6 S7 S6
  go_wp2_with fail
  refine HP.out.mono ?_
  rintro e w8 ⟨rfl, h8, k8⟩
  have br8 := br_keep BR7.out k8 fun _ ad e f => by
    have := hn7 ad e
    have := PB.out
    omega
  have cs : (convert 31 9 (.slice A 2 c)).run Tryz.prog w8 = .ok (.string ⟨#[120, 121]⟩) w8 := run_str (P := Tryz.prog) w8 _ 31 9 5 A [120, 121] c br8 Tryz.underlying31 Tryz.underlying5 Tryz.underlying9
  have HG := Lib.hid (KT.out _ (K7.out.trans k8)).1
  clear h8 k8 br8 HP K7 BR7
  go_wp2_with fail
  go_ret
  exact ⟨rfl, HG.out⟩
end Go.Proofs.YtceemmnfofjgeaaGreatDoor.Hd
