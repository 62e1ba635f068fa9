/-
  SkAwk
-/
import Derived.Test.YtmaoaeebggpbbaaSkCont
import Derived.Test.YtmaoaeebggpbbaaSkClr
namespace Go.Proofs.Ytmaoaeebggpbbaa.Sk
open Go.RowKit Go.Maps Mm
set_option linter.unusedVariables false
set_option linter.unusedSimpArgs false
variable {w : World} {v : Option Addr} {p gb mb : Nat} {ok : Bool} {G M : List UInt8} {a lo hi ov un : Int}
/-- Some memory that the call made, whose stacks hold these cells. -/
structure Stk (w0 w : World) (p gb mb : Nat) (G M : List UInt8) (l k : List Int) : Prop where
  m : SM w (some ⟨p, 0, none⟩) p gb mb true G M
  c : Both2 M l k
  n : w0.heap.size ≤ p ∧ w0.heap.size ≤ gb ∧ w0.heap.size ≤ mb
  b : Below w0.heap.size w0 w
variable {w0 w' : World} {l k : List Int} {M' : List UInt8}
theorem Stk.next (h : Stk w0 w p gb mb G M l k) (m : SM w' (some ⟨p, 0, none⟩) p gb mb true G M') (kk : Keeps (SF true p mb) w w') {l' k' : List Int} (c : Both2 M' l' k') : Stk w0 w' p gb mb G M' l' k' :=
  ⟨m, c, h.n, h.b.trans (kk.toBelow _ h.b.size fun i f => by rcases f.2 with rfl | rfl; exact h.n.1; exact h.n.2.2)⟩
theorem Stk.start (p1 : w.heap.size ≤ p) (p2 : w.heap.size ≤ gb) (p3 : w.heap.size ≤ mb) (hm : MemAt w' p gb mb (fillL []) (fillL [])) (k2 : Keeps (fun _ => False) w w') : Stk w w' p gb mb (fillL []) (fillL []) [] [] :=
  ⟨.inl ⟨rfl, rfl, hm⟩, Both2.start (fillL_len _) cel_fil, ⟨p1, p2, p3⟩, k2.toBelow _ (Nat.le_refl _) fun _ h => h.elim⟩
theorem Stk.old {w00 w0 w : World} {p gb mb : Nat} {G M : List UInt8} {l k : List Int} (h : Stk w0 w p gb mb G M l k) (hb : Below w00.heap.size w00 w0) : Stk w00 w p gb mb G M l k :=
  ⟨h.m, h.c, by have e1 := hb.size; obtain ⟨n1, n2, n3⟩ := h.n; exact ⟨by omega, by omega, by omega⟩, hb.trans (h.b.mono hb.size)⟩
set_option maxRecDepth 100000 in
set_option maxHeartbeats 1600000 in
theorem skawake_any (w : World) : Calls Try.prog 7 #[] w fun e w' => e = .returned (.bool true) ∧ Below w.heap.size w w' := by
  go_enter Try.func7, Try.ntmps7
  go_wp2_with fail
  refine (mflat_any none [] 0 w BR.nil).mono ?_
  rintro e w2 ⟨p, gb, mb, rfl, p1, p2, p3, hm, k2⟩
  have s2 := Stk.start p1 p2 p3 hm k2
  generalize fillL [] = Z at *
  clear k2 hm p1 p2 p3
  have C := Clear_any s2.m
  rw [show setS true (setS true Z 32 512) 40 768 = setM (setM Z 32 512) 40 768 from rfl] at C
  have b3 := Both2.clear s2.m.ml
  generalize setM (setM Z 32 512) 40 768 = M3 at *
  have CH := Lib.hid C
  have S2 := Lib.hid s2
  clear C s2
  go_wp2_with fail
  refine CH.out.mono ?_
  rintro e w3 ⟨rfl, m3, k3⟩
  have s3 := S2.out.next m3 k3 b3
  have C4 := Lib.hid (Push_ok s3.m 1 (by rw [b3.dd]; simp))
  have b4 := b3.push (by simp) 1 (by omega) (by omega)
  generalize laysL M3 32 (512 - 8 * (dD M3 : Int)) [1] = M4 at *
  have S3 := Lib.hid s3
  clear CH S2 m3 k3 s3 b3
  go_wp2_with fail
  refine C4.out.mono ?_
  rintro e w4 ⟨rfl, m4, k4⟩
  have s4 := S3.out.next m4 k4 b4
  have C5 := Lib.hid (Push_ok s4.m 2 (by rw [b4.dd]; simp))
  have b5 := b4.push (by simp) 2 (by omega) (by omega)
  generalize laysL M4 32 (512 - 8 * (dD M4 : Int)) [2] = M5 at *
  have S4 := Lib.hid s4
  clear C4 S3 m4 k4 s4 b4
  go_wp2_with fail
  refine C5.out.mono ?_
  rintro e w5 ⟨rfl, m5, k5⟩
  have s5 := S4.out.next m5 k5 b5
  obtain ⟨x6, b6⟩ := Both2.pop (l := [1]) b5
  have d5 : dD M5 = 2 := b5.dd
  have C6 := Pop_ok s5.m (by rw [d5]; omega)
  rw [x6] at C6
  have g32 : cel (takM M5 32 (512 - 8 * (dD M5 : Int)) 1) 32 = 504 := by
    rw [take_one_is, d5, cel_set _ _ _ (by omega) (by have := s5.m.ml; omega) (by omega) (by omega)]
    rfl
  have g496 : cel (takM M5 32 (512 - 8 * (dD M5 : Int)) 1) 496 = 2 := by
    rw [takM_cel (by omega) s5.m.ml _ _ _ (by omega) (by omega), ← x6, d5]
    rfl
  generalize takM M5 32 (512 - 8 * (dD M5 : Int)) 1 = M6 at *
  have C6H := Lib.hid C6
  have S5 := Lib.hid s5
  clear C5 S4 m5 k5 s5 b5 C6 x6 d5
  go_wp2_with fail
  refine C6H.out.mono ?_
  rintro e w6 ⟨rfl, m6, k6⟩
  have s6 := S5.out.next m6 k6 b6
  have C7 := sget s6.m 32 (by omega) (by omega)
  rw [g32] at C7
  have C7H := Lib.hid C7
  have S6 := Lib.hid s6
  clear C6H S5 m6 k6 s6 C7
  go_wp2_with fail
  refine C7H.out.mono ?_
  rintro e w7 ⟨rfl, m7, k7⟩
  have s7 := S6.out.next m7 k7 b6
  have C8 := sget s7.m 496 (by omega) (by omega)
  rw [g496] at C8
  have C8H := Lib.hid C8
  have S7 := Lib.hid s7
  clear C7H S6 m7 k7 s7 C8
  go_wp2_with fail
  refine C8H.out.mono ?_
  rintro e w8 ⟨rfl, m8, k8⟩
  have s8 := S7.out.next m8 k8 b6
  have C9 := Depth_any s8.m
  rw [b6.dd] at C9
  have C9H := Lib.hid C9
  have S8 := Lib.hid s8
  clear C8H S7 m8 k8 s8 C9
  go_wp2_with fail
  refine C9H.out.mono ?_
  rintro e w9 ⟨rfl, m9, k9⟩
  have s9 := S8.out.next m9 k9 b6
  have C10 := Cells_any s9.m
  have tl := takeL_len M6 (512 - 8 * (dD M6 : Int)) (dD M6)
  generalize takeL M6 (512 - 8 * (dD M6 : Int)) (dD M6) = zs at *
  rw [b6.dd] at tl
  have C10H := Lib.hid C10
  have S9 := Lib.hid s9
  have TL := Lib.hid tl
  clear C9H S8 m9 k9 s9 C10 tl g32 g496
  go_wp2_with fail
  refine C10H.out.mono ?_
  rintro e w10 ⟨g, rfl, hg, r10, m10, k10⟩
  have B10 := Lib.hid (S9.out.next m10 k10 b6).b
  clear m10 k10 r10 b6 S9
  rw [TL.out]
  go_wp2_with fail
  go_ret
  exact ⟨rfl, B10.out⟩
end Go.Proofs.Ytmaoaeebggpbbaa.Sk
