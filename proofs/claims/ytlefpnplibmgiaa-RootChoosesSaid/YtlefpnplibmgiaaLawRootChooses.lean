/-
  Which of any two sectors counts: for every two the law RootChooses returns true.
  Conditions: none of our own; what the row itself says of its inputs (they can be read as data, each slice within the form's own reach).
-/
import Derived.Test.YtlefpnplibmgiaaFrame
import Derived.ChangeOld
import Derived.Below
import Derived.Deep.QuietTactic
import Derived.BigQuiet
import Derived.WalkSmall
import Derived.Test.YtlefpnplibmgiaaRtAwake
import Derived.Test.YtlefpnplibmgiaaRtIn
import Derived.Test.YtlefpnplibmgiaaRtTorn
namespace Go.Proofs.Ytlefpnplibmgiaa.rootChooses
open Go.ChangeShapes Go.WideShapes Go.ChangeAt Go.RowKit
set_option linter.unusedVariables false

theorem own : ownKnob Try.prog.godebug = none := by kernel_rfl
theorem laidOut : laidOutB Try.prog = true := by kernel_rfl

set_option maxHeartbeats 1000000 in
theorem walk (A0 : Option Addr) (x0 : List UInt8) (c0 : Nat) (A1 : Option Addr) (x1 : List UInt8) (c1 : Nat) (w : World) (b0 : BR w w.heap.size A0 x0) (l0 : x0.length ≤ 140737488351232) (q0 : x0.length ≤ c0) (b1 : BR w w.heap.size A1 x1) (l1 : x1.length ≤ 140737488351232) (q1 : x1.length ≤ c1) :
    Calls Try.prog 5 #[.slice A0 x0.length c0, .slice A1 x1.length c1] w fun e w' => e = .returned (.bool true) ∧ Below w.heap.size w w' := by
  by_cases hbig : (1000 : Int) < x0.length + x1.length
  · go_enter Try.func5, Try.ntmps5
    go_wp2_with fail
    refine (awake_any _).mono ?_
    rintro e w1 ⟨rfl, hb1⟩
    go_wp2_with fail
    go_ret
    exact ⟨rfl, hb1⟩
  · go_enter Try.func5, Try.ntmps5
    go_wp2_with fail
    refine (awake_any _).mono ?_
    rintro e w1 ⟨rfl, hb1⟩
    have b0' := (b0.below hb1).more hb1.size
    have b1' := (b1.below hb1).more hb1.size
    go_wp2_with fail
    refine (choose_any A0 x0 c0 A1 x1 c1 w1 b0' b1' q0 q1).mono ?_
    rintro e w2 ⟨R2, c2, rfl, s2, b2⟩
    have bw2 := hb1.trans (b2.mono hb1.size)
    clear b2
    have b3 : Below w2.heap.size w2 (w2.alloc (.cells #[.int .u64 (decG (chB x0 x1) : Int), .slice R2 (decS (chB x0 x1)).length c2] 25)) := (Below.refl _ _).alloc (Nat.le_refl _) _
    have v3 := heap_alloc_new w2 (.cells #[.int .u64 (decG (chB x0 x1) : Int), .slice R2 (decS (chB x0 x1)).length c2] 25)
    have bw3 := bw2.trans (b3.mono bw2.size)
    have s3 := (s2.below b3).more b3.size
    clear b3 s2 bw2
    go_wp2_with fail
    generalize w2.alloc (.cells #[.int .u64 (decG (chB x0 x1) : Int), .slice R2 (decS (chB x0 x1)).length c2] 25) = w3 at *
    generalize w2.heap.size = gv at *
    have b0'' := (b0.below bw3).more bw3.size
    have b1'' := (b1.below bw3).more bw3.size
    refine (refChoose_any A0 x0 c0 A1 x1 c1 w3 b0'' b1'').mono ?_
    rintro e w4 ⟨R4, c4, rfl, s4, b4⟩
    have hgv3 : gv < w3.heap.size := (Array.getElem?_eq_some_iff.1 v3).1
    have v4 := (b4.block _ hgv3).trans v3
    have bw4 := bw3.trans (b4.mono bw3.size)
    have s4' : SR w4 w4.heap.size R2 (decS (chB x0 x1)) := (s3.below b4).more b4.size
    have hgv4 := Nat.lt_of_lt_of_le hgv3 b4.size
    clear b4 v3 s3 bw3 hgv3
    have b5 : Below w4.heap.size w4 (w4.alloc (.cells #[.int .u64 (decG (chB x0 x1) : Int), .slice R4 (decS (chB x0 x1)).length c4] 25)) := (Below.refl _ _).alloc (Nat.le_refl _) _
    have v5 := (b5.block _ hgv4).trans v4
    have bw5 := bw4.trans (b5.mono bw4.size)
    have s5 := (s4'.below b5).more b5.size
    have s5' := (s4.below b5).more b5.size
    have x0' : (w4.alloc (.cells #[.int .u64 (decG (chB x0 x1) : Int), .slice R4 (decS (chB x0 x1)).length c4] 25)).cell? ⟨gv, 0, none⟩ = some (.int .u64 (decG (chB x0 x1) : Int)) := by rw [cell_of_row _ _ _ _ _ _ v5]; rfl
    have x1' : (w4.alloc (.cells #[.int .u64 (decG (chB x0 x1) : Int), .slice R4 (decS (chB x0 x1)).length c4] 25)).cell? ⟨gv, 1, none⟩ = some (.slice R2 (decS (chB x0 x1)).length c2) := by rw [cell_of_row _ _ _ _ _ _ v5]; rfl
    clear v4 b5 s4 s4' bw4 v5
    go_wp2_with fail
    refine (sameR_any _ _ _ _ _ _ _ _ _ s5 s5' (decS_len _) (decS_len _)).mono ?_
    rintro e w6 ⟨rfl, b6⟩
    have bw6 := bw5.trans (b6.mono bw5.size)
    clear b6 s5 s5' x0' x1' bw5
    go_wp2_with fail
    go_ret
    exact ⟨ret_bool (by simp), bw6⟩

set_option maxRecDepth 100000 in
theorem lifted (os : Os) (started : os.Started) (H : Type) (enc : TypeId × Value → H) :
    ReturnsInHanded {} Try.checked os 5 .any (Rows.rootChoosesSpec.pre6 enc Try.prog Try.f5 Rows.rootChoosesRow.domain false) (Rows.rootChoosesSpec.post enc Try.prog Try.f5 false true false false) := by
  refine returnsInHanded_of_change_sized (C := Try.checked) own started (by kernel_rfl) Try.func5
    (ChangeSpec.witness6 (enc := enc) (C := Try.checked) false ⟨#[], #[.slice none 0 0, .slice none 0 0], []⟩ 8 (by kernel_rfl) (by kernel_rfl) (by kernel_rfl) (by kernel_rfl)) ?_
  intro W base args ds gs before hval0 hW _ hsz0 _
  have hsz : (DataW.weightsEach Try.prog (Try.f5.params.toList ++ Rows.rootChoosesSpec.plain.varTypes Try.prog) (ds ++ gs)).all (· ≤ reachBytes) = true := hsz0
  clear hsz0
  have hval : ∀ (j : Nat) t v, Try.f5.params[j]? = some t → args[j]? = some v → Value.okWide Try.prog W .any base t v := hval0
  have hW' := hW
  obtain ⟨p, q, hA0, hV, rfl, _, _⟩ := hW
  have hA : DataW.TrodAll enc Try.prog W 0 (fun _ => true) true Try.f5.params.toList args.toList ds p := hA0
  rw [Try.params5] at hA hval hsz
  obtain ⟨v0, vs0, d0, ds0, p0, q0, hargs, rfl, rfl, h0, r0⟩ := trodAll_cons hA
  obtain ⟨v1, vs1, d1, ds1, p1, q1, rfl, rfl, rfl, h1, r1⟩ := trodAll_cons r0
  obtain ⟨rfl, rfl, rfl⟩ := trodAll_nil r1
  obtain rfl : args = #[v0, v1] := by cases args; simp_all
  obtain ⟨rfl, rfl⟩ := trodVars_none hV
  obtain ⟨A0, len0, c0, rfl⟩ := okWide_slice Try.underlying27 (hval 0 27 v0 rfl rfl)
  have k0 := h0
  have lt0 : ∀ x ∈ p0, x.block < W.heap.size := by obtain ⟨m, hm⟩ := k0; exact DataW.trod_lt m _ _ _ hm
  have q0 := bytes_cap h0
  obtain ⟨x0, rfl, b0, s0⟩ := bytes_in h0
  have l0 := s0 _ _ 0 hsz rfl rfl
  obtain ⟨A1, len1, c1, rfl⟩ := okWide_slice Try.underlying27 (hval 1 27 v1 rfl rfl)
  have k1 := h1
  have lt1 : ∀ x ∈ p1, x.block < W.heap.size := by obtain ⟨m, hm⟩ := k1; exact DataW.trod_lt m _ _ _ hm
  have q1 := bytes_cap h1
  obtain ⟨x1, rfl, b1, s1⟩ := bytes_in h1
  have l1 := s1 _ _ 1 hsz rfl rfl
  clear hA0 hval0
  refine (walk A0 x0 c0 A1 x1 c1 W b0 l0 q0 b1 l1 q1).mono fun e W' ⟨he, bel⟩ => ?_
  subst he
  exact ⟨_, rfl, _, _, _, [], _, [], hW', trodAll_mk1 (shut_bool Try.underlying4 _), (trodAll_cons_mk (Below.trod laidOut (by kernel_rfl) (of_decide_eq_true (by kernel_rfl)) k0 bel lt0) (trodAll_cons_mk (Below.trod laidOut (by kernel_rfl) (of_decide_eq_true (by kernel_rfl)) k1 bel lt1) trodAll_mk0)), rfl, bel.frame _, fun h => by cases h⟩

theorem proved : Rows.RootChoosesSaid :=
  OpenClaim.holds_of_wide 5 Try.f5 rfl rfl rfl rfl rfl rfl rfl ⟨rfl, rfl, rfl, rfl, rfl⟩ rfl rfl rfl rfl rfl (by kernel_rfl) Try.func5 (by kernel_rfl)
    (of_decide_eq_true (by kernel_rfl)) (by unfold Func.isWrapper; first | (rw [if_pos (by decide +kernel)]; kernel_rfl) | (rw [if_neg (by decide +kernel)]; exact ⟨rfl, rfl⟩))
    (fun os started H enc _ => lifted os started H enc)
#print axioms proved
end Go.Proofs.Ytlefpnplibmgiaa.rootChooses
