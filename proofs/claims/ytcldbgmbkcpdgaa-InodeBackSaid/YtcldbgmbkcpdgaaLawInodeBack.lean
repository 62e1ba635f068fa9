/-
  LawInodeBack
-/
import Derived.Test.YtcldbgmbkcpdgaaGA
import Derived.ChangeOld
import Derived.Below
import Derived.Deep.QuietTactic
import Derived.BigQuiet
import Derived.WalkSmall
import Derived.Test.YtcldbgmbkcpdgaaInAwake
import Derived.Test.YtcldbgmbkcpdgaaCapIn
namespace Go.Proofs.Ytcldbgmbkcpdgaa.inodeBack
open Go.ChangeShapes Go.WideShapes Go.ChangeAt Go.RowKit Ino Ex
set_option linter.unusedVariables false

theorem own : ownKnob Try.prog.godebug = none := by kernel_rfl
theorem laidOut : laidOutB Try.prog = true := by kernel_rfl

set_option maxRecDepth 100000 in
set_option maxHeartbeats 1000000 in
theorem walk (x0 : IN) (A0 : Option Addr) (c0 : Nat) (A1 : Option Addr) (x1 : List UInt8) (c1 : Nat) (w : World) (o0 : InIn w x0 A0) (b1 : BR w w.heap.size A1 x1) (l1 : x1.length ≤ 140737488351232) (q1 : x1.length ≤ c1) :
    Calls Try.prog 6 #[ag x0 A0 c0, .slice A1 x1.length c1] w fun e w' => e = .returned (.bool true) ∧ Below w.heap.size w w' := by
  have bA : Below w.heap.size w (w.alloc (.cells #[.string ⟨x0.name.toArray⟩, .int .i64 x0.size, .slice A0 x0.ext.length c0] 28)) := (Below.refl _ _).alloc (Nat.le_refl _) _
  have gA : (w.alloc (.cells #[.string ⟨x0.name.toArray⟩, .int .i64 x0.size, .slice A0 x0.ext.length c0] 28)).heap[w.heap.size]? = some (.cells #[.string ⟨x0.name.toArray⟩, .int .i64 x0.size, .slice A0 x0.ext.length c0] 28 (0, 0)) := heap_alloc_new w _
  have sA : w.heap.size < (w.alloc (.cells #[.string ⟨x0.name.toArray⟩, .int .i64 x0.size, .slice A0 x0.ext.length c0] 28)).heap.size := by rw [World.size_alloc]; omega
  have haw2 := awake_in (w.alloc (.cells #[.string ⟨x0.name.toArray⟩, .int .i64 x0.size, .slice A0 x0.ext.length c0] 28))
  have HAW := Lib.hid haw2
  have HO := Lib.hid o0
  have HX1 := Lib.hid b1
  have BA := Lib.hid bA
  have GA := Lib.hid gA
  have SA := Lib.hid sA
  have hel := o0.el
  have hnl := o0.nl
  clear haw2 o0 b1 bA gA sA
  have hsz := st_size x0.name
  have ewl : IntKind.i64.wrap (x0.name.length : Int) = (x0.name.length : Int) := by rw [IntKind.wrap_i64]; omega
  have ewe : IntKind.i64.wrap (x0.ext.length : Int) = (x0.ext.length : Int) := by rw [IntKind.wrap_i64]; omega
  go_enter Try.func6, Try.ntmps6
  go_wp2_with fail
  generalize w.alloc (.cells #[.string ⟨x0.name.toArray⟩, .int .i64 x0.size, .slice A0 x0.ext.length c0] 28) = wA at *
  refine HAW.out.mono ?_
  clear HAW
  rintro e w1 ⟨rfl, b1⟩
  have g1 := (b1.block w.heap.size SA.out).trans GA.out
  have q0 : w1.cell? ⟨w.heap.size, 0, none⟩ = some (St x0.name) := by rw [cell_of_row _ _ _ _ _ _ g1]; rfl
  have q2 : w1.cell? ⟨w.heap.size, 2, none⟩ = some (.slice A0 x0.ext.length c0) := by rw [cell_of_row _ _ _ _ _ _ g1]; rfl
  have hb1 := BA.out.trans (b1.mono BA.out.size)
  by_cases h1 : 100 < x0.ext.length
  · have n1 : decide ((100 : Int) < (x0.ext.length : Int)) = true := by simp; omega
    have HB1 := Lib.hid hb1
    clear b1 hb1 g1
    go_wp2_with fail
    go_ret
    exact ⟨rfl, HB1.out⟩
  have n1 : decide ((100 : Int) < (x0.ext.length : Int)) = false := by simp; omega
  by_cases h2 : 1000 < x0.name.length
  · have n2 : decide ((1000 : Int) < (x0.name.length : Int)) = true := by simp; omega
    have HB1 := Lib.hid hb1
    clear b1 hb1 g1
    go_wp2_with fail
    go_ret
    exact ⟨rfl, HB1.out⟩
  have n2 : decide ((1000 : Int) < (x0.name.length : Int)) = false := by simp; omega
  by_cases h3 : 1000 < x1.length
  · have n3 : decide ((1000 : Int) < (x1.length : Int)) = true := by simp; omega
    have HB1 := Lib.hid hb1
    clear b1 hb1 g1
    go_wp2_with fail
    go_ret
    exact ⟨rfl, HB1.out⟩
  have n3 : decide ((1000 : Int) < (x1.length : Int)) = false := by simp; omega
  have hl1000 : x1.length ≤ 1000 := by omega
  have hok : ∀ W, Below w.heap.size w W → InOk W x0 A0 := fun W hW => (HO.out.below hW).ok (by omega) (by omega)
  have q1' : w1.cell? ⟨w.heap.size, 1, none⟩ = some (.int .i64 x0.size) := by rw [cell_of_row _ _ _ _ _ _ g1]; rfl
  have hen := encode_in x0 A0 c0 w1 (hok w1 hb1)
  have HEN := Lib.hid hen
  have HOK := Lib.hid hok
  have HB1 := Lib.hid hb1
  have G1 := Lib.hid g1
  have s1 : w.heap.size < w1.heap.size := Nat.lt_of_lt_of_le SA.out b1.size
  clear hen hok hb1 g1 b1 GA BA SA h1 h2 h3 HO
  go_wp2_with fail
  refine HEN.out.mono ?_
  clear HEN
  rintro e w2 ⟨R2, n2', c2, rfl, hl2, br2, b2, hc2⟩
  have g2 := (b2.block w.heap.size s1).trans G1.out
  have hb2 := HB1.out.trans (b2.mono HB1.out.size)
  have s2 := b2.size
  clear q0 q1' q2
  by_cases hc : chkB x0 = true
  · have he : chkE x0 = 0 := by simp [chkE, hc]
    have heo : encO x0 = encL x0 := by simp [encO, hc]
    have hir := isIn_enc hc
    have hdx : decX (encL x0) = x0 := by simp [decX, hir, (read_enc hc).1]
    have hde : decE (encL x0) = 0 := by simp [decE, hir]
    rw [he]
    rw [heo] at hl2 br2
    rw [encL_len] at hl2
    subst hl2
    have hd := decode_any R2 (encL x0) c2 w2 br2 (by rw [encL_len]; decide) (by rw [encL_len]; exact hc2)
    rw [encL_len] at hd
    have HD := Lib.hid hd
    have HB2 := Lib.hid hb2
    have G2 := Lib.hid g2
    have HDX := Lib.hid hdx
    have HDE := Lib.hid hde
    have HIR := Lib.hid hir
    clear hd hb2 g2 hdx hde hir he heo hc br2 b2 HB1 G1
    go_wp2_with fail
    refine HD.out.mono ?_
    clear HD
    rintro e w3 ⟨R3, c3, rfl, xr3, b3⟩
    rw [HDX.out, HIR.out, HDE.out]
    rw [HDX.out] at xr3
    have b4 : Below w3.heap.size w3 (w3.alloc (.cells #[St x0.name, .int .i64 x0.size, .slice R3 x0.ext.length c3] 28)) := (Below.refl _ _).alloc (Nat.le_refl _) _
    have g3 := (b3.block w.heap.size (by omega)).trans G2.out
    have g4 := (b4.block w.heap.size (by have := b3.size; omega)).trans g3
    have hb4 := (HB2.out.trans (b3.mono HB2.out.size)).trans (b4.mono (Nat.le_trans HB2.out.size b3.size))
    have hs := isame_any x0 A0 c0 R3 c3 (w3.alloc (.cells #[St x0.name, .int .i64 x0.size, .slice R3 x0.ext.length c3] 28)) (HOK.out _ hb4).xr ((xr3.below b4).more b4.size) (by have := (HOK.out _ hb4).few; omega)
    have q0 : (w3.alloc (.cells #[St x0.name, .int .i64 x0.size, .slice R3 x0.ext.length c3] 28)).cell? ⟨w.heap.size, 0, none⟩ = some (St x0.name) := by rw [cell_of_row _ _ _ _ _ _ g4]; rfl
    have q1' : (w3.alloc (.cells #[St x0.name, .int .i64 x0.size, .slice R3 x0.ext.length c3] 28)).cell? ⟨w.heap.size, 1, none⟩ = some (.int .i64 x0.size) := by rw [cell_of_row _ _ _ _ _ _ g4]; rfl
    have q2 : (w3.alloc (.cells #[St x0.name, .int .i64 x0.size, .slice R3 x0.ext.length c3] 28)).cell? ⟨w.heap.size, 2, none⟩ = some (.slice A0 x0.ext.length c0) := by rw [cell_of_row _ _ _ _ _ _ g4]; rfl
    have HSM := Lib.hid hs
    have HB4 := Lib.hid hb4
    clear hs hb4 g4 g3 b4 b3 xr3 HB2 G2 HDX HDE HIR
    go_wp2_with fail
    refine HSM.out.mono ?_
    clear HSM q0 q1' q2
    rintro e w4 ⟨rfl, b44⟩
    have HBW := Lib.hid (HB4.out.trans (b44.mono HB4.out.size))
    clear b44 HB4 HOK
    have hd := decode_any A1 x1 c1 w4 ((HX1.out.below HBW.out).more HBW.out.size) (by omega) q1
    have HD := Lib.hid hd
    clear hd
    go_wp2_with fail
    refine HD.out.mono ?_
    clear HD
    rintro e w5 ⟨R5, c5, rfl, xr5, b5⟩
    have hb5 := HBW.out.trans (b5.mono HBW.out.size)
    by_cases hi : isIn x1 = true
    · have hdx : decX x1 = readC x1 := by simp [decX, hi]
      have hde : decE x1 = 0 := by simp [decE, hi]
      have hp : chkB (readC x1) = true ∧ encL (readC x1) = x1 := by
        unfold isIn at hi
        simpa only [Bool.and_eq_true, decide_eq_true_eq] using hi
      have h64 := isIn_len hi
      rw [hdx, hi, hde]
      rw [hdx] at xr5
      obtain ⟨hf1, hf2, hf3⟩ := readC_few x1
      have b6 : Below w5.heap.size w5 (w5.alloc (.cells #[St (readC x1).name, .int .i64 (readC x1).size, .slice R5 (readC x1).ext.length c5] 28)) := (Below.refl _ _).alloc (Nat.le_refl _) _
      have hen := encode_in (readC x1) R5 c5 (w5.alloc (.cells #[St (readC x1).name, .int .i64 (readC x1).size, .slice R5 (readC x1).ext.length c5] 28)) ⟨(xr5.below b6).more b6.size, hf1, hf2, hf3⟩
      have hb6 := hb5.trans (b6.mono hb5.size)
      have HEN := Lib.hid hen
      have HB6 := Lib.hid hb6
      have HP := Lib.hid hp
      have H64 := Lib.hid h64
      clear hdx hi hde hp h64 xr5 hf1 hf2 hf3 b6 hen hb6 hb5 b5 HBW
      go_wp2_with fail
      refine HEN.out.mono ?_
      clear HEN
      rintro e w7 ⟨R7, n7, c7, rfl, hl7, br7, b7, _⟩
      have he : chkE (readC x1) = 0 := by simp [chkE, HP.out.1]
      have heo : encO (readC x1) = x1 := by simp [encO, HP.out.1, HP.out.2]
      rw [he]
      rw [heo] at hl7 br7
      have hb7 := HB6.out.trans (b7.mono HB6.out.size)
      have hsm := Go.Proofs.Ytcldbgmbkcpdgaa.same_any A1 x1 c1 R7 x1 c7 w7 ((HX1.out.below hb7).more hb7.size) br7
      rw [hl7, decide_eq_true rfl] at hsm
      rw [hl7]
      have HSM := Lib.hid hsm
      have HB7 := Lib.hid hb7
      clear hsm hb7 he heo hl7 br7 b7 HB6 HP
      go_wp2_with fail
      refine HSM.out.mono ?_
      rintro e w8 ⟨rfl, rfl⟩
      go_wp2_with fail
      go_ret
      exact ⟨rfl, HB7.out⟩
    · have hi' : isIn x1 = false := by simpa using hi
      rw [hi']
      generalize decX x1 = X at *
      generalize decE x1 = E at *
      have b6 := hb5.alloc hb5.size (.cells #[St X.name, .int .i64 X.size, .slice R5 X.ext.length c5] 28)
      have HB6 := Lib.hid b6
      clear hi hi' xr5 hb5 b5 HBW b6
      by_cases hE : E = 0
      · subst hE
        go_wp2_with fail
        go_ret
        exact ⟨rfl, HB6.out⟩
      · have hEb : ((E : Int) != 0) = true := by simp [hE]
        go_wp2_with fail
        go_ret
        exact ⟨rfl, HB6.out⟩
  · have he : chkE x0 = 110 := by simp [chkE, hc]
    rw [he]
    have HBW := Lib.hid hb2
    clear he hc hb2 g2 br2 b2 HB1 G1 HOK hl2
    have hd := decode_any A1 x1 c1 w2 ((HX1.out.below HBW.out).more HBW.out.size) (by omega) q1
    have HD := Lib.hid hd
    clear hd
    go_wp2_with fail
    refine HD.out.mono ?_
    clear HD
    rintro e w5 ⟨R5, c5, rfl, xr5, b5⟩
    have hb5 := HBW.out.trans (b5.mono HBW.out.size)
    by_cases hi : isIn x1 = true
    · have hdx : decX x1 = readC x1 := by simp [decX, hi]
      have hde : decE x1 = 0 := by simp [decE, hi]
      have hp : chkB (readC x1) = true ∧ encL (readC x1) = x1 := by
        unfold isIn at hi
        simpa only [Bool.and_eq_true, decide_eq_true_eq] using hi
      have h64 := isIn_len hi
      rw [hdx, hi, hde]
      rw [hdx] at xr5
      obtain ⟨hf1, hf2, hf3⟩ := readC_few x1
      have b6 : Below w5.heap.size w5 (w5.alloc (.cells #[St (readC x1).name, .int .i64 (readC x1).size, .slice R5 (readC x1).ext.length c5] 28)) := (Below.refl _ _).alloc (Nat.le_refl _) _
      have hen := encode_in (readC x1) R5 c5 (w5.alloc (.cells #[St (readC x1).name, .int .i64 (readC x1).size, .slice R5 (readC x1).ext.length c5] 28)) ⟨(xr5.below b6).more b6.size, hf1, hf2, hf3⟩
      have hb6 := hb5.trans (b6.mono hb5.size)
      have HEN := Lib.hid hen
      have HB6 := Lib.hid hb6
      have HP := Lib.hid hp
      have H64 := Lib.hid h64
      clear hdx hi hde hp h64 xr5 hf1 hf2 hf3 b6 hen hb6 hb5 b5 HBW
      go_wp2_with fail
      refine HEN.out.mono ?_
      clear HEN
      rintro e w7 ⟨R7, n7, c7, rfl, hl7, br7, b7, _⟩
      have he : chkE (readC x1) = 0 := by simp [chkE, HP.out.1]
      have heo : encO (readC x1) = x1 := by simp [encO, HP.out.1, HP.out.2]
      rw [he]
      rw [heo] at hl7 br7
      have hb7 := HB6.out.trans (b7.mono HB6.out.size)
      have hsm := Go.Proofs.Ytcldbgmbkcpdgaa.same_any A1 x1 c1 R7 x1 c7 w7 ((HX1.out.below hb7).more hb7.size) br7
      rw [hl7, decide_eq_true rfl] at hsm
      rw [hl7]
      have HSM := Lib.hid hsm
      have HB7 := Lib.hid hb7
      clear hsm hb7 he heo hl7 br7 b7 HB6 HP
      go_wp2_with fail
      refine HSM.out.mono ?_
      rintro e w8 ⟨rfl, rfl⟩
      go_wp2_with fail
      go_ret
      exact ⟨rfl, HB7.out⟩
    · have hi' : isIn x1 = false := by simpa using hi
      rw [hi']
      generalize decX x1 = X at *
      generalize decE x1 = E at *
      have b6 := hb5.alloc hb5.size (.cells #[St X.name, .int .i64 X.size, .slice R5 X.ext.length c5] 28)
      have HB6 := Lib.hid b6
      clear hi hi' xr5 hb5 b5 HBW b6
      by_cases hE : E = 0
      · subst hE
        go_wp2_with fail
        go_ret
        exact ⟨rfl, HB6.out⟩
      · have hEb : ((E : Int) != 0) = true := by simp [hE]
        go_wp2_with fail
        go_ret
        exact ⟨rfl, HB6.out⟩

set_option maxRecDepth 100000 in
theorem lifted (os : Os) (started : os.Started) (H : Type) (enc : TypeId × Value → H) :
    ReturnsInHanded {} Try.checked os 6 .any (Rows.inodeBackSpec.pre6 enc Try.prog Try.f6 Rows.inodeBackRow.domain false) (Rows.inodeBackSpec.post enc Try.prog Try.f6 false true false false) := by
  refine returnsInHanded_of_change_sized (C := Try.checked) own started (by kernel_rfl) Try.func6
    (ChangeSpec.witness6 (enc := enc) (C := Try.checked) false ⟨#[], #[.agg #[.string ⟨#[]⟩, .int .i64 0, .slice none 0 0], .slice none 0 0], []⟩ 8 (by kernel_rfl) (by kernel_rfl) (by kernel_rfl) (by kernel_rfl)) ?_
  intro W base args ds gs before hval0 hW _ hsz0 _
  have hsz : (DataW.weightsEach Try.prog (Try.f6.params.toList ++ Rows.inodeBackSpec.plain.varTypes Try.prog) (ds ++ gs)).all (· ≤ reachBytes) = true := hsz0
  clear hsz0
  have hval : ∀ (j : Nat) t v, Try.f6.params[j]? = some t → args[j]? = some v → Value.okWide Try.prog W .any base t v := hval0
  have hW' := hW
  obtain ⟨p, q, hA0, hV, rfl, _, _⟩ := hW
  have hA : DataW.TrodAll enc Try.prog W 0 (fun _ => true) true Try.f6.params.toList args.toList ds p := hA0
  rw [Try.params6] at hA hval hsz
  obtain ⟨v0, vs0, d0, ds0, p0, q0, hargs, rfl, rfl, h0, r0⟩ := trodAll_cons hA
  obtain ⟨v1, vs1, d1, ds1, p1, q1, rfl, rfl, rfl, h1, r1⟩ := trodAll_cons r0
  obtain ⟨rfl, rfl, rfl⟩ := trodAll_nil r1
  obtain rfl : args = #[v0, v1] := by cases args; simp_all
  obtain ⟨rfl, rfl⟩ := trodVars_none hV
  have k0 := h0
  have lt0 : ∀ x ∈ p0, x.block < W.heap.size := by obtain ⟨m, hm⟩ := k0; exact DataW.trod_lt m _ _ _ hm
  obtain ⟨x0, A0, c0, rfl, o0⟩ := inode_in (hval 0 28 v0 rfl rfl) h0
  obtain ⟨A1, len1, c1, rfl⟩ := okWide_slice Try.underlying29 (hval 1 29 v1 rfl rfl)
  have k1 := h1
  have lt1 : ∀ x ∈ p1, x.block < W.heap.size := by obtain ⟨m, hm⟩ := k1; exact DataW.trod_lt m _ _ _ hm
  have q1 := bytes_cap h1
  obtain ⟨x1, rfl, b1, s1⟩ := bytes_in h1
  have l1 := s1 _ _ 1 hsz rfl rfl
  clear hA0 hval0
  refine (walk x0 A0 c0 A1 x1 c1 W o0 b1 l1 q1).mono fun e W' ⟨he, bel⟩ => ?_
  subst he
  exact ⟨_, rfl, _, _, _, [], _, [], hW', trodAll_mk1 (shut_bool Try.underlying4 _), (trodAll_cons_mk (Below.trod laidOut (by kernel_rfl) (of_decide_eq_true (by kernel_rfl)) k0 bel lt0) (trodAll_cons_mk (Below.trod laidOut (by kernel_rfl) (of_decide_eq_true (by kernel_rfl)) k1 bel lt1) trodAll_mk0)), rfl, bel.frame _, fun h => by cases h⟩

theorem proved : Rows.InodeBackSaid :=
  OpenClaim.holds_of_wide 6 Try.f6 rfl rfl rfl rfl rfl rfl rfl ⟨rfl, rfl, rfl, rfl, rfl⟩ rfl rfl rfl rfl rfl (by kernel_rfl) Try.func6 (by kernel_rfl)
    (of_decide_eq_true (by kernel_rfl)) (by unfold Func.isWrapper; first | (rw [if_pos (by decide +kernel)]; kernel_rfl) | (rw [if_neg (by decide +kernel)]; exact ⟨rfl, rfl⟩))
    (fun os started H enc _ => lifted os started H enc)
#print axioms proved
end Go.Proofs.Ytcldbgmbkcpdgaa.inodeBack
