/-
  LawStackNone
-/
import Derived.Test.YtmaoaeebggpbbaaGA
import Derived.ChangeOld
import Derived.Below
import Derived.Deep.QuietTactic
import Derived.BigQuiet
import Derived.WalkSmall
import Derived.Test.YtmaoaeebggpbbaaSkAwk
namespace Go.Proofs.Ytmaoaeebggpbbaa.stackNone
open Go.ChangeShapes Go.WideShapes Go.ChangeAt Go.RowKit Sk Mm
set_option linter.unusedVariables false

theorem own : ownKnob Try.prog.godebug = none := by kernel_rfl
theorem laidOut : laidOutB Try.prog = true := by kernel_rfl

structure NoneS (w0 w : World) (Z : List UInt8) : Prop where
  m : SM w none 0 0 0 false [] Z
  b : Below w0.heap.size w0 w
theorem NoneS.next {w0 w w' : World} {Z Z' : List UInt8} (h : NoneS w0 w Z) (m : SM w' none 0 0 0 false [] Z') (k : Keeps (SF false 0 0) w w') : NoneS w0 w' Z' := ⟨m, h.b.trans (k.toBelow _ h.b.size fun i f => by cases f.1)⟩

set_option maxRecDepth 100000 in
set_option maxHeartbeats 1000000 in
theorem walk (a0 : Int) (w : World) (w0 : (Lit.int .i64 a0).wf = true) :
    Calls Try.prog 5 #[.int .i64 a0] w fun e w' => e = .returned (.bool true) ∧ Below w.heap.size w w' := by
  go_enter Try.func5, Try.ntmps5
  go_wp2_with fail
  refine (skawake_any w).mono ?_
  rintro e w1 ⟨rfl, b1⟩
  have b2 := Both2.start (fillL_len []) cel_fil
  have s1 : NoneS w w1 (fillL []) := ⟨.inr ⟨rfl, rfl, fillL_len [], cel_fil⟩, b1⟩
  generalize fillL [] = Z at *
  have d0 : dD Z = 0 := b2.dd
  have d1 : dB Z = 0 := b2.db
  clear b2 b1
  have C := Clear_any s1.m
  rw [show setS false (setS false Z 32 512) 40 768 = Z from rfl] at C
  have CH := Lib.hid C
  have SH := Lib.hid s1
  clear C s1
  go_wp2_with fail
  refine CH.out.mono ?_
  rintro e w2 ⟨rfl, m2, k2⟩
  have s2 := SH.out.next m2 k2
  have CC := Lib.hid (Pop_under s2.m d0)
  have S2 := Lib.hid s2
  clear CH SH m2 k2 s2
  go_wp2_with fail
  refine CC.out.mono ?_
  rintro e w3 ⟨rfl, m2, k2⟩
  have s2 := S2.out.next m2 k2
  have CC := Lib.hid (RPop_under s2.m d1)
  have S2 := Lib.hid s2
  clear m2 k2 s2
  go_wp2_with fail
  refine CC.out.mono ?_
  rintro e w4 ⟨rfl, m2, k2⟩
  have s2 := S2.out.next m2 k2
  have CC := Lib.hid (At_no s2.m 0 (.inr (by rw [d0]; omega)))
  have S2 := Lib.hid s2
  clear m2 k2 s2
  go_wp2_with fail
  refine CC.out.mono ?_
  rintro e w5 ⟨rfl, m2, k2⟩
  have s2 := S2.out.next m2 k2
  have CC := Lib.hid (Takes_under s2.m 1 (by rw [d0]; omega))
  have S2 := Lib.hid s2
  clear m2 k2 s2
  go_wp2_with fail
  refine CC.out.mono ?_
  rintro e w6 ⟨rfl, m2, k2⟩
  have s2 := S2.out.next m2 k2
  have CC := Lib.hid (Push_over s2.m a0 (fun x => by cases x))
  have S2 := Lib.hid s2
  clear m2 k2 s2
  go_wp2_with fail
  refine CC.out.mono ?_
  rintro e w7 ⟨rfl, m2, k2⟩
  have s2 := S2.out.next m2 k2
  have CC := Lib.hid (RPush_over s2.m a0 (fun x => by cases x))
  have S2 := Lib.hid s2
  clear m2 k2 s2
  go_wp2_with fail
  refine CC.out.mono ?_
  rintro e w8 ⟨rfl, m2, k2⟩
  have s2 := S2.out.next m2 k2
  have C := Depth_any s2.m
  rw [d0] at C
  have CC := Lib.hid C
  have S2 := Lib.hid s2
  clear m2 k2 s2 C
  go_wp2_with fail
  refine CC.out.mono ?_
  rintro e w9 ⟨rfl, m2, k2⟩
  have s2 := S2.out.next m2 k2
  have C := Deep_any s2.m
  rw [d1] at C
  have CC := Lib.hid C
  have S2 := Lib.hid s2
  clear m2 k2 s2 C
  go_wp2_with fail
  refine CC.out.mono ?_
  rintro e w10 ⟨rfl, m2, k2⟩
  have s2 := S2.out.next m2 k2
  have C := Cells_any s2.m
  have tl := takeL_len Z (512 - 8 * (dD Z : Int)) (dD Z)
  generalize takeL Z (512 - 8 * (dD Z : Int)) (dD Z) = zs at *
  rw [d0] at tl
  have CC := Lib.hid C
  have S2 := Lib.hid s2
  have TL := Lib.hid tl
  clear m2 k2 s2 C tl
  go_wp2_with fail
  refine CC.out.mono ?_
  rintro e w11 ⟨g, rfl, hg, r2, m2, k2⟩
  have B2 := Lib.hid (S2.out.next m2 k2).b
  rw [TL.out]
  clear m2 k2 r2 hg S2
  go_wp2_with fail
  go_ret
  exact ⟨rfl, B2.out⟩

set_option maxRecDepth 100000 in
theorem lifted (os : Os) (started : os.Started) (H : Type) (enc : TypeId × Value → H) :
    ReturnsInHanded {} Try.checked os 5 .any (Rows.stackNoneSpec.pre6 enc Try.prog Try.f5 Rows.stackNoneRow.domain false) (Rows.stackNoneSpec.post enc Try.prog Try.f5 false true false false) := by
  refine returnsInHanded_of_change_sized (C := Try.checked) own started (by kernel_rfl) Try.func5
    (ChangeSpec.witness6 (enc := enc) (C := Try.checked) false ⟨#[], #[.int .i64 0], []⟩ 8 (by kernel_rfl) (by kernel_rfl) (by kernel_rfl) (by kernel_rfl)) ?_
  intro W base args ds gs before hval0 hW _ hsz0 _
  have hsz : (DataW.weightsEach Try.prog (Try.f5.params.toList ++ Rows.stackNoneSpec.plain.varTypes Try.prog) (ds ++ gs)).all (· ≤ reachBytes) = true := hsz0
  clear hsz0
  have hval : ∀ (j : Nat) t v, Try.f5.params[j]? = some t → args[j]? = some v → Value.okWide Try.prog W .any base t v := hval0
  have hW' := hW
  obtain ⟨p, q, hA0, hV, rfl, _, _⟩ := hW
  have hA : DataW.TrodAll enc Try.prog W 0 (fun _ => true) true Try.f5.params.toList args.toList ds p := hA0
  rw [Try.params5] at hA hval hsz
  obtain ⟨v0, vs0, d0, ds0, p0, q0, hargs, rfl, rfl, h0, r0⟩ := trodAll_cons hA
  obtain ⟨rfl, rfl, rfl⟩ := trodAll_nil r0
  obtain rfl : args = #[v0] := by cases args; simp_all
  obtain ⟨rfl, rfl⟩ := trodVars_none hV
  obtain ⟨a0, rfl, rfl, rfl, w0⟩ := open_int Try.underlying2 (hval 0 2 v0 rfl rfl) h0
  clear hA0 hval0
  refine (walk a0 W w0).mono fun e W' ⟨he, bel⟩ => ?_
  subst he
  exact ⟨_, rfl, _, _, _, [], _, [], hW', trodAll_mk1 (shut_bool Try.underlying4 _), (trodAll_cons_mk (shut_int Try.underlying2 w0) trodAll_mk0), rfl, bel.frame _, fun h => by cases h⟩

theorem proved : Rows.StackNoneSaid :=
  OpenClaim.holds_of_wide 5 Try.f5 rfl rfl rfl rfl rfl rfl rfl ⟨rfl, rfl, rfl, rfl, rfl⟩ rfl rfl rfl rfl rfl (by kernel_rfl) Try.func5 (by kernel_rfl)
    (of_decide_eq_true (by kernel_rfl)) (by unfold Func.isWrapper; first | (rw [if_pos (by decide +kernel)]; kernel_rfl) | (rw [if_neg (by decide +kernel)]; exact ⟨rfl, rfl⟩))
    (fun os started H enc _ => lifted os started H enc)
#print axioms proved
end Go.Proofs.Ytmaoaeebggpbbaa.stackNone
