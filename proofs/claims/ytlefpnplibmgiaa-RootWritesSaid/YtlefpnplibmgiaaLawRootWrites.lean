/-
  Any root is the record that the document says, or refused: for every root the law RootWrites returns true.
  Conditions: none of our own; what the row itself says of its inputs (they can be read as data, each slice within the form's own reach).
-/
import Derived.Test.YtlefpnplibmgiaaFrame
import Derived.ChangeOld
import Derived.Below
import Derived.Deep.QuietTactic
import Derived.BigQuiet
import Derived.WalkSmall
import Derived.Test.YtlefpnplibmgiaaRtAwake
import Derived.Test.YtlefpnplibmgiaaRtIn
namespace Go.Proofs.Ytlefpnplibmgiaa.rootWrites
open Go.ChangeShapes Go.WideShapes Go.ChangeAt Go.RowKit
set_option linter.unusedVariables false

theorem own : ownKnob Try.prog.godebug = none := by kernel_rfl
theorem laidOut : laidOutB Try.prog = true := by kernel_rfl

set_option maxHeartbeats 1000000 in
theorem walk (g0 : Nat) (A0 : Option Addr) (l0 : List Sn) (c0 : Nat) (w : World) (o0 : RootOk w g0 A0 l0) :
    Calls Try.prog 3 #[agR g0 A0 l0.length c0] w fun e w' => e = .returned (.bool true) ∧ Below w.heap.size w w' := by
  have hlen := o0.len
  have hsr := o0.sr
  by_cases hbig : 100 < l0.length
  · have hb : (100 : Int) < (l0.length : Int) := by omega
    go_enter Try.func3, Try.ntmps3
    go_wp2_with fail
    refine (awake_any _).mono ?_
    rintro e w1 ⟨rfl, b1⟩
    have i0 : MayInv w (w.alloc (.cells #[.int .u64 (g0 : Int), .slice A0 l0.length c0] 25)) g0 A0 l0.length c0 := ⟨heap_alloc_new _ _, (Below.refl _ _).alloc (Nat.le_refl _) _⟩
    have i1 := i0.below b1
    have r1 : w1.cell? ⟨w.heap.size, 1, none⟩ = some (.slice A0 l0.length c0) := by rw [cell_of_row _ _ _ _ _ _ i1.blk]; rfl
    clear i0 b1
    go_wp2_with fail
    go_ret
    exact ⟨rfl, i1.bel⟩
  · have hb : ¬ (100 : Int) < (l0.length : Int) := by omega
    go_enter Try.func3, Try.ntmps3
    go_wp2_with fail
    refine (awake_any _).mono ?_
    rintro e w1 ⟨rfl, b1⟩
    have i0 : MayInv w (w.alloc (.cells #[.int .u64 (g0 : Int), .slice A0 l0.length c0] 25)) g0 A0 l0.length c0 := ⟨heap_alloc_new _ _, (Below.refl _ _).alloc (Nat.le_refl _) _⟩
    have i1 := i0.below b1
    have r0 : w1.cell? ⟨w.heap.size, 0, none⟩ = some (.int .u64 (g0 : Int)) := by rw [cell_of_row _ _ _ _ _ _ i1.blk]; rfl
    have r1 : w1.cell? ⟨w.heap.size, 1, none⟩ = some (.slice A0 l0.length c0) := by rw [cell_of_row _ _ _ _ _ _ i1.blk]; rfl
    clear i0 b1
    go_wp2_with fail
    refine (enc_any g0 A0 l0 c0 w1 ((hsr.below i1.bel).more i1.bel.size) hlen).mono ?_
    rintro e w2 ⟨R2, c2, rfl, br2, b2, _⟩
    have i2 := i1.below b2
    have x0 : w2.cell? ⟨w.heap.size, 0, none⟩ = some (.int .u64 (g0 : Int)) := by rw [cell_of_row _ _ _ _ _ _ i2.blk]; rfl
    have x1 : w2.cell? ⟨w.heap.size, 1, none⟩ = some (.slice A0 l0.length c0) := by rw [cell_of_row _ _ _ _ _ _ i2.blk]; rfl
    clear i1 b2 r0 r1
    go_wp2_with fail
    refine (refEnc_any g0 A0 l0 c0 w2 ((hsr.below i2.bel).more i2.bel.size) hlen).mono ?_
    rintro e w3 ⟨R3, c3, rfl, br3, b3, _⟩
    have i3 := i2.below b3
    have br2' := (br2.below b3).more b3.size
    clear i2 b3 br2 x0 x1
    go_wp2_with fail
    refine (same_any _ _ _ _ _ _ _ br2' br3).mono ?_
    rintro e w4 ⟨rfl, rfl⟩
    go_wp2_with fail
    go_ret
    exact ⟨ret_bool (by simp), i3.bel⟩

set_option maxRecDepth 100000 in
theorem lifted (os : Os) (started : os.Started) (H : Type) (enc : TypeId × Value → H) :
    ReturnsInHanded {} Try.checked os 3 .any (Rows.rootWritesSpec.pre6 enc Try.prog Try.f3 Rows.rootWritesRow.domain false) (Rows.rootWritesSpec.post enc Try.prog Try.f3 false true false false) := by
  refine returnsInHanded_of_change_sized (C := Try.checked) own started (by kernel_rfl) Try.func3
    (ChangeSpec.witness6 (enc := enc) (C := Try.checked) false ⟨#[], #[.agg #[.int .u64 0, .slice none 0 0]], []⟩ 8 (by kernel_rfl) (by kernel_rfl) (by kernel_rfl) (by kernel_rfl)) ?_
  intro W base args ds gs before hval0 hW _ hsz0 _
  have hsz : (DataW.weightsEach Try.prog (Try.f3.params.toList ++ Rows.rootWritesSpec.plain.varTypes Try.prog) (ds ++ gs)).all (· ≤ reachBytes) = true := hsz0
  clear hsz0
  have hval : ∀ (j : Nat) t v, Try.f3.params[j]? = some t → args[j]? = some v → Value.okWide Try.prog W .any base t v := hval0
  have hW' := hW
  obtain ⟨p, q, hA0, hV, rfl, _, _⟩ := hW
  have hA : DataW.TrodAll enc Try.prog W 0 (fun _ => true) true Try.f3.params.toList args.toList ds p := hA0
  rw [Try.params3] at hA hval hsz
  obtain ⟨v0, vs0, d0, ds0, p0, q0, hargs, rfl, rfl, h0, r0⟩ := trodAll_cons hA
  obtain ⟨rfl, rfl, rfl⟩ := trodAll_nil r0
  obtain rfl : args = #[v0] := by cases args; simp_all
  obtain ⟨rfl, rfl⟩ := trodVars_none hV
  have k0 := h0
  have lt0 : ∀ x ∈ p0, x.block < W.heap.size := by obtain ⟨m, hm⟩ := k0; exact DataW.trod_lt m _ _ _ hm
  obtain ⟨g0, A0, l0, c0, rfl, o0⟩ := root_in (hval 0 25 v0 rfl rfl) h0
  clear hA0 hval0
  refine (walk g0 A0 l0 c0 W o0).mono fun e W' ⟨he, bel⟩ => ?_
  subst he
  exact ⟨_, rfl, _, _, _, [], _, [], hW', trodAll_mk1 (shut_bool Try.underlying4 _), (trodAll_cons_mk (Below.trod laidOut (by kernel_rfl) (of_decide_eq_true (by kernel_rfl)) k0 bel lt0) trodAll_mk0), rfl, bel.frame _, fun h => by cases h⟩

theorem proved : Rows.RootWritesSaid :=
  OpenClaim.holds_of_wide 3 Try.f3 rfl rfl rfl rfl rfl rfl rfl ⟨rfl, rfl, rfl, rfl, rfl⟩ rfl rfl rfl rfl rfl (by kernel_rfl) Try.func3 (by kernel_rfl)
    (of_decide_eq_true (by kernel_rfl)) (by unfold Func.isWrapper; first | (rw [if_pos (by decide +kernel)]; kernel_rfl) | (rw [if_neg (by decide +kernel)]; exact ⟨rfl, rfl⟩))
    (fun os started H enc _ => lifted os started H enc)
#print axioms proved
end Go.Proofs.Ytlefpnplibmgiaa.rootWrites
