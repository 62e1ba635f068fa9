/-
  LawInodeReads
-/
import Derived.Test.YtcldbgmbkcpdgaaGA
import Derived.ChangeOld
import Derived.Below
import Derived.Deep.QuietTactic
import Derived.BigQuiet
import Derived.WalkSmall
import Derived.Test.YtcldbgmbkcpdgaaInAwake
import Derived.Test.YtcldbgmbkcpdgaaCapIn
namespace Go.Proofs.Ytcldbgmbkcpdgaa.inodeReads
open Go.ChangeShapes Go.WideShapes Go.ChangeAt Go.RowKit Ino Ex
set_option linter.unusedVariables false

theorem own : ownKnob Try.prog.godebug = none := by kernel_rfl
theorem laidOut : laidOutB Try.prog = true := by kernel_rfl

set_option maxRecDepth 100000 in
set_option maxHeartbeats 1000000 in
theorem walk (A0 : Option Addr) (x0 : List UInt8) (c0 : Nat) (w : World) (b0 : BR w w.heap.size A0 x0) (l0 : x0.length ≤ 140737488351232) (q0 : x0.length ≤ c0) :
    Calls Try.prog 5 #[.slice A0 x0.length c0] w fun e w' => e = .returned (.bool true) ∧ Below w.heap.size w w' := by
  have haw := awake_in w
  by_cases h1 : 1000 < x0.length
  · go_enter Try.func5, Try.ntmps5
    go_wp2_with fail
    refine haw.mono ?_
    rintro e w1 ⟨rfl, b1⟩
    have n1 : decide ((1000 : Int) < (x0.length : Int)) = true := by simp; omega
    go_wp2_with fail
    go_ret
    exact ⟨rfl, b1⟩
  have h2 : x0.length ≤ 1000 := by omega
  have n1 : decide ((1000 : Int) < (x0.length : Int)) = false := by simp; omega
  have HAW := Lib.hid haw
  have HX := Lib.hid b0
  clear haw l0 b0 h1
  go_enter Try.func5, Try.ntmps5
  go_wp2_with fail
  refine HAW.out.mono ?_
  rintro e w1 ⟨rfl, b1⟩
  have hd := decode_any A0 x0 c0 w1 ((HX.out.below b1).more b1.size) h2 q0
  have HD := Lib.hid hd
  have B1 := Lib.hid b1
  clear hd b1 HAW
  go_wp2_with fail
  refine HD.out.mono ?_
  clear HD
  rintro e w2 ⟨R2, c2, rfl, xr2, b2⟩
  have hb2 := B1.out.trans (b2.mono B1.out.size)
  generalize hX : decX x0 = X at *
  generalize hI : isIn x0 = I at *
  generalize hE : decE x0 = E at *
  have b3 : Below w2.heap.size w2 (w2.alloc (.cells #[St X.name, .int .i64 X.size, .slice R2 X.ext.length c2] 28)) := (Below.refl _ _).alloc (Nat.le_refl _) _
  have hb3 := hb2.trans (b3.mono hb2.size)
  have g3 : (w2.alloc (.cells #[St X.name, .int .i64 X.size, .slice R2 X.ext.length c2] 28)).heap[w2.heap.size]? = some (.cells #[St X.name, .int .i64 X.size, .slice R2 X.ext.length c2] 28 (0, 0)) := heap_alloc_new w2 _
  have s3 : w2.heap.size < (w2.alloc (.cells #[St X.name, .int .i64 X.size, .slice R2 X.ext.length c2] 28)).heap.size := by rw [World.size_alloc]; omega
  have xr3 := (xr2.below b3).more b3.size
  have hd := rdecode_any A0 x0 c0 (w2.alloc (.cells #[St X.name, .int .i64 X.size, .slice R2 X.ext.length c2] 28)) ((HX.out.below hb3).more hb3.size) h2 q0
  have HEQ : Hid (decX x0 = X ∧ isIn x0 = I ∧ decE x0 = E) := Lib.hid ⟨hX, hI, hE⟩
  have HD := Lib.hid hd
  have HB3 := Lib.hid hb3
  have G3 := Lib.hid g3
  have XR3 := Lib.hid xr3
  have S3 := Lib.hid s3
  have hfew : X.ext.length ≤ 1000 := by
    rw [← hX]
    unfold decX
    split
    · have := (readC_few x0).1; omega
    · simp [in0]
  clear hd hb2 b2 b3 hb3 g3 xr2 xr3 B1 HX hX hI hE s3
  go_wp2_with fail
  generalize w2.alloc (.cells #[St X.name, .int .i64 X.size, .slice R2 X.ext.length c2] 28) = w3 at *
  refine HD.out.mono ?_
  clear HD
  rintro e w4 ⟨R4, c4, rfl, xr4, b4⟩
  rw [HEQ.out.1, HEQ.out.2.1, HEQ.out.2.2]
  rw [HEQ.out.1] at xr4
  have g4 := (b4.block w2.heap.size S3.out).trans G3.out
  have xr24 := (XR3.out.below b4).more b4.size
  have hb4 := HB3.out.trans (b4.mono HB3.out.size)
  have b5 : Below w4.heap.size w4 (w4.alloc (.cells #[St X.name, .int .i64 X.size, .slice R4 X.ext.length c4] 28)) := (Below.refl _ _).alloc (Nat.le_refl _) _
  have g5 : (w4.alloc (.cells #[St X.name, .int .i64 X.size, .slice R4 X.ext.length c4] 28)).heap[w4.heap.size]? = some (.cells #[St X.name, .int .i64 X.size, .slice R4 X.ext.length c4] 28 (0, 0)) := heap_alloc_new w4 _
  have g45 := (b5.block w2.heap.size (Nat.lt_of_lt_of_le S3.out b4.size)).trans g4
  have hs := isame_any X R2 c2 R4 c4 (w4.alloc (.cells #[St X.name, .int .i64 X.size, .slice R4 X.ext.length c4] 28)) ((xr24.below b5).more b5.size) ((xr4.below b5).more b5.size) hfew
  have hb5 := hb4.trans (b5.mono hb4.size)
  have p0 : (w4.alloc (.cells #[St X.name, .int .i64 X.size, .slice R4 X.ext.length c4] 28)).cell? ⟨w2.heap.size, 0, none⟩ = some (St X.name) := by rw [cell_of_row _ _ _ _ _ _ g45]; rfl
  have p1 : (w4.alloc (.cells #[St X.name, .int .i64 X.size, .slice R4 X.ext.length c4] 28)).cell? ⟨w2.heap.size, 1, none⟩ = some (.int .i64 X.size) := by rw [cell_of_row _ _ _ _ _ _ g45]; rfl
  have p2 : (w4.alloc (.cells #[St X.name, .int .i64 X.size, .slice R4 X.ext.length c4] 28)).cell? ⟨w2.heap.size, 2, none⟩ = some (.slice R2 X.ext.length c2) := by rw [cell_of_row _ _ _ _ _ _ g45]; rfl
  have HSM := Lib.hid hs
  have HB5 := Lib.hid hb5
  clear hs hb5 g45 g5 b5 hb4 xr24 g4 b4 xr4 HB3 G3 XR3 HEQ
  go_wp2_with fail
  refine HSM.out.mono ?_
  clear HSM
  rintro e w6 ⟨rfl, b6⟩
  have HF := Lib.hid (HB5.out.trans (b6.mono HB5.out.size))
  clear b6 HB5
  go_wp2_with fail
  go_ret
  exact ⟨rfl, HF.out⟩

set_option maxRecDepth 100000 in
theorem lifted (os : Os) (started : os.Started) (H : Type) (enc : TypeId × Value → H) :
    ReturnsInHanded {} Try.checked os 5 .any (Rows.inodeReadsSpec.pre6 enc Try.prog Try.f5 Rows.inodeReadsRow.domain false) (Rows.inodeReadsSpec.post enc Try.prog Try.f5 false true false false) := by
  refine returnsInHanded_of_change_sized (C := Try.checked) own started (by kernel_rfl) Try.func5
    (ChangeSpec.witness6 (enc := enc) (C := Try.checked) false ⟨#[], #[.slice none 0 0], []⟩ 8 (by kernel_rfl) (by kernel_rfl) (by kernel_rfl) (by kernel_rfl)) ?_
  intro W base args ds gs before hval0 hW _ hsz0 _
  have hsz : (DataW.weightsEach Try.prog (Try.f5.params.toList ++ Rows.inodeReadsSpec.plain.varTypes Try.prog) (ds ++ gs)).all (· ≤ reachBytes) = true := hsz0
  clear hsz0
  have hval : ∀ (j : Nat) t v, Try.f5.params[j]? = some t → args[j]? = some v → Value.okWide Try.prog W .any base t v := hval0
  have hW' := hW
  obtain ⟨p, q, hA0, hV, rfl, _, _⟩ := hW
  have hA : DataW.TrodAll enc Try.prog W 0 (fun _ => true) true Try.f5.params.toList args.toList ds p := hA0
  rw [Try.params5] at hA hval hsz
  obtain ⟨v0, vs0, d0, ds0, p0, q0, hargs, rfl, rfl, h0, r0⟩ := trodAll_cons hA
  obtain ⟨rfl, rfl, rfl⟩ := trodAll_nil r0
  obtain rfl : args = #[v0] := by cases args; simp_all
  obtain ⟨rfl, rfl⟩ := trodVars_none hV
  obtain ⟨A0, len0, c0, rfl⟩ := okWide_slice Try.underlying29 (hval 0 29 v0 rfl rfl)
  have k0 := h0
  have lt0 : ∀ x ∈ p0, x.block < W.heap.size := by obtain ⟨m, hm⟩ := k0; exact DataW.trod_lt m _ _ _ hm
  have q0 := bytes_cap h0
  obtain ⟨x0, rfl, b0, s0⟩ := bytes_in h0
  have l0 := s0 _ _ 0 hsz rfl rfl
  clear hA0 hval0
  refine (walk A0 x0 c0 W b0 l0 q0).mono fun e W' ⟨he, bel⟩ => ?_
  subst he
  exact ⟨_, rfl, _, _, _, [], _, [], hW', trodAll_mk1 (shut_bool Try.underlying4 _), (trodAll_cons_mk (Below.trod laidOut (by kernel_rfl) (of_decide_eq_true (by kernel_rfl)) k0 bel lt0) trodAll_mk0), rfl, bel.frame _, fun h => by cases h⟩

theorem proved : Rows.InodeReadsSaid :=
  OpenClaim.holds_of_wide 5 Try.f5 rfl rfl rfl rfl rfl rfl rfl ⟨rfl, rfl, rfl, rfl, rfl⟩ rfl rfl rfl rfl rfl (by kernel_rfl) Try.func5 (by kernel_rfl)
    (of_decide_eq_true (by kernel_rfl)) (by unfold Func.isWrapper; first | (rw [if_pos (by decide +kernel)]; kernel_rfl) | (rw [if_neg (by decide +kernel)]; exact ⟨rfl, rfl⟩))
    (fun os started H enc _ => lifted os started H enc)
#print axioms proved
end Go.Proofs.Ytcldbgmbkcpdgaa.inodeReads
