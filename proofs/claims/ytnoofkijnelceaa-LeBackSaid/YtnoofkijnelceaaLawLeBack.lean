/-
  LeBack: what le.PutCell lays inside any bytes le.Cell tells again, and bytes elsewhere stay: the law returns true, and changes no argument.
  Conditions: none of our own; what the row itself says of its inputs (they can be read as data, each slice within the form's own reach).
-/
import Derived.Test.YtnoofkijnelceaaFrame
import Derived.ChangeOld
import Derived.Below
import Derived.Deep.QuietTactic
import Derived.BigQuiet
import Derived.WalkSmall
import Derived.Test.YtnoofkijnelceaaAwake
import Derived.Test.YtnoofkijnelceaaPutLaws
namespace Go.Proofs.Ytnoofkijnelceaa.leBack
open Go.ChangeShapes Go.WideShapes Go.ChangeAt Go.RowKit
set_option linter.unusedVariables false

theorem own : ownKnob Try.prog.godebug = none := by kernel_rfl
theorem laidOut : laidOutB Try.prog = true := by kernel_rfl

/-- The tests ahead, whichever of them says that nothing is asked. -/
theorem early (A0 : Option Addr) (n0 c0 : Nat) (a1 a2 : Int) (w : World) (l0 : n0 ≤ 140737488351232) (hw1 : -9223372036854775808 ≤ a1) (h : 2000 < n0 ∨ a1 < 0 ∨ (n0 : Int) - 8 < a1) :
    Calls Try.prog 7 #[.slice A0 n0 c0, .int .i64 a1, .int .i64 a2] w fun e w' => e = .returned (.bool true) ∧ Below w.heap.size w w' := by
  by_cases hbig : 2000 < n0
  · clear h
    go_enter Try.func7, Try.ntmps7
    go_wp2_with fail
    refine (awake_any _).mono ?_
    rintro e w2 ⟨rfl, hb1⟩
    go_wp2_with fail
    go_ret
    exact ⟨rfl, hb1⟩
  · by_cases hneg : a1 < 0
    · clear h
      go_enter Try.func7, Try.ntmps7
      go_wp2_with fail
      refine (awake_any _).mono ?_
      rintro e w2 ⟨rfl, hb1⟩
      go_wp2_with fail
      go_ret
      exact ⟨rfl, hb1⟩
    · have hfar : (n0 : Int) - 8 < a1 := by omega
      clear h
      go_enter Try.func7, Try.ntmps7
      go_wp2_with fail
      refine (awake_any _).mono ?_
      rintro e w2 ⟨rfl, hb1⟩
      go_wp2_with fail
      go_ret
      exact ⟨rfl, hb1⟩

set_option maxHeartbeats 1000000 in
theorem walk (A0 : Option Addr) (x0 : List UInt8) (c0 : Nat) (a1 : Int) (a2 : Int) (w : World) (b0 : BR w w.heap.size A0 x0) (l0 : x0.length ≤ 140737488351232) (w1 : (Lit.int .i64 a1).wf = true) (w2 : (Lit.int .i64 a2).wf = true) :
    Calls Try.prog 7 #[.slice A0 x0.length c0, .int .i64 a1, .int .i64 a2] w fun e w' => e = .returned (.bool true) ∧ Below w.heap.size w w' := by
  have hw1 := i64_of_wf w1
  have hw2 := i64_of_wf w2
  by_cases hearly : 2000 < x0.length ∨ a1 < 0 ∨ (x0.length : Int) - 8 < a1
  · exact early A0 x0.length c0 a1 a2 w l0 hw1.1 hearly
  · have h1 : ¬ 2000 < x0.length := fun h => hearly (.inl h)
    have h2 : ¬ a1 < 0 := fun h => hearly (.inr (.inl h))
    have h3 : ¬ (x0.length : Int) - 8 < a1 := fun h => hearly (.inr (.inr h))
    clear hearly
    have d1 : decide (2000 < (x0.length : Int)) = false := by simp; omega
    have d2 : decide (a1 < 0) = false := by simp; omega
    have d3 : decide ((x0.length : Int) - 8 < a1) = false := by simp; omega
    have HC := Lib.hid (back_cel x0 a1 a2 (by omega) (by omega) hw2.1 hw2.2)
    have HL := Lib.hid (putL_len x0 a1 (IntKind.u64.wrap a2).toNat 8)
    have HE : Hid (∀ i : Nat, i < x0.length → ((i : Int) < a1 ∨ a1 + 8 ≤ i) → (putL x0 a1 (IntKind.u64.wrap a2).toNat 8).getD i 0 = x0.getD i 0) := fun i hi h => back_else x0 a1 _ i (by omega) hi h
    go_enter Try.func7, Try.ntmps7
    go_wp2_with fail
    refine (awake_any _).mono ?_
    rintro e w2 ⟨rfl, hb1⟩
    have b0' := (b0.below hb1).more hb1.size
    go_wp2_with fail
    refine (lePutCell_any _ _ _ _ _ _ b0' (by omega) hw1.1).mono ?_
    rintro e w3 ⟨R, c3, rfl, hr3, hb2⟩
    have b0'' := (b0'.below hb2).more hb2.size
    have hlen := HL.out
    generalize putL x0 a1 (IntKind.u64.wrap a2).toNat 8 = zs at *
    rw [hlen]
    go_wp2_with fail
    rw [← hlen]
    refine (leCell_any _ _ _ _ _ hr3 (by omega) hw1.1).mono ?_
    rintro e w4 ⟨rfl, rfl⟩
    rw [HC.out, hlen]
    have hb := hb1.trans (hb2.mono hb1.size)
    clear hlen HC
    go_wp2_with fail
    go_loopw [8, 43] (fun _ i wr => ∃ k d : Nat, k ≤ x0.length ∧ i = .int .i64 k ∧ wr = w3.drewN d) (fun _ i _ => x0.length - (intOf i).toNat)
    case atStart => exact ⟨0, 0, by omega, rfl, rfl⟩
    case round =>
      obtain ⟨k, d, hk, rfl, rfl⟩ := hrel
      have hlz := HL.out
      by_cases hlt : k < x0.length
      · by_cases hin : (k : Int) < a1 ∨ a1 + 8 ≤ k
        · have he := HE.out k hlt hin
          obtain ⟨ad, rfl, _, hc⟩ := b0''.at_ hlt
          obtain ⟨ad', rfl, _, hc'⟩ := hr3.at_ (k := k) (by omega)
          rw [he] at hc'
          generalize x0.getD k 0 = u at hc hc'
          clear he hlz b0'' hr3 b0' b0
          by_cases hka : (k : Int) < a1
          · clear hin
            go_wp2_with fail
            go_quiet (fail)
            go_wp2_with fail
            go_roundw
            case rel => exact ⟨k + 1, _, by omega, by go_num, rfl⟩
            case measure => simp [intOf]; omega
          · have hka2 : a1 + 8 ≤ k := by omega
            have e1 : decide ((k : Int) < a1) = false := by simp; omega
            clear hin
            go_wp2_with fail
            go_quiet (fail)
            go_wp2_with fail
            go_roundw
            case rel => exact ⟨k + 1, _, by omega, by go_num, rfl⟩
            case measure => simp [intOf]; omega
        · have e1 : decide ((k : Int) < a1) = false := by simp; omega
          have e2 : decide (a1 + 8 ≤ (k : Int)) = false := by simp; omega
          clear hlz b0'' hr3 b0' b0 hin
          go_wp2_with fail
          go_quiet (fail)
          go_wp2_with fail
          go_roundw
          case rel => exact ⟨k + 1, _, by omega, by go_num, rfl⟩
          case measure => simp [intOf]; omega
      · go_wp2_with fail
        go_ret
        exact ⟨rfl, below_drewN hb d⟩

set_option maxRecDepth 100000 in
theorem lifted (os : Os) (started : os.Started) (H : Type) (enc : TypeId × Value → H) :
    ReturnsInHanded {} Try.checked os 7 .any (Rows.leBackSpec.pre6 enc Try.prog Try.f7 Rows.leBackRow.domain false) (Rows.leBackSpec.post enc Try.prog Try.f7 false true false false) := by
  refine returnsInHanded_of_change_sized (C := Try.checked) own started (by kernel_rfl) Try.func7
    (ChangeSpec.witness6 (enc := enc) (C := Try.checked) false ⟨#[], #[.slice none 0 0, .int .i64 0, .int .i64 0], []⟩ 8 (by kernel_rfl) (by kernel_rfl) (by kernel_rfl) (by kernel_rfl)) ?_
  intro W base args ds gs before hval0 hW _ hsz0 _
  have hsz : (DataW.weightsEach Try.prog (Try.f7.params.toList ++ Rows.leBackSpec.plain.varTypes Try.prog) (ds ++ gs)).all (· ≤ reachBytes) = true := hsz0
  clear hsz0
  have hval : ∀ (j : Nat) t v, Try.f7.params[j]? = some t → args[j]? = some v → Value.okWide Try.prog W .any base t v := hval0
  have hW' := hW
  obtain ⟨p, q, hA0, hV, rfl, _, _⟩ := hW
  have hA : DataW.TrodAll enc Try.prog W 0 (fun _ => true) true Try.f7.params.toList args.toList ds p := hA0
  rw [Try.params7] at hA hval hsz
  obtain ⟨v0, vs0, d0, ds0, p0, q0, hargs, rfl, rfl, h0, r0⟩ := trodAll_cons hA
  obtain ⟨v1, vs1, d1, ds1, p1, q1, rfl, rfl, rfl, h1, r1⟩ := trodAll_cons r0
  obtain ⟨v2, vs2, d2, ds2, p2, q2, rfl, rfl, rfl, h2, r2⟩ := trodAll_cons r1
  obtain ⟨rfl, rfl, rfl⟩ := trodAll_nil r2
  obtain rfl : args = #[v0, v1, v2] := by cases args; simp_all
  obtain ⟨rfl, rfl⟩ := trodVars_none hV
  obtain ⟨A0, len0, c0, rfl⟩ := okWide_slice Try.underlying22 (hval 0 22 v0 rfl rfl)
  have k0 := h0
  have lt0 : ∀ x ∈ p0, x.block < W.heap.size := by obtain ⟨m, hm⟩ := k0; exact DataW.trod_lt m _ _ _ hm
  obtain ⟨x0, rfl, b0, s0⟩ := bytes_in h0
  have l0 := s0 _ _ 0 hsz rfl rfl
  obtain ⟨a1, rfl, rfl, rfl, w1⟩ := open_int Try.underlying3 (hval 1 3 v1 rfl rfl) h1
  obtain ⟨a2, rfl, rfl, rfl, w2⟩ := open_int Try.underlying2 (hval 2 2 v2 rfl rfl) h2
  clear hA0 hval0
  refine (walk A0 x0 c0 a1 a2 W b0 l0 w1 w2).mono fun e W' ⟨he, bel⟩ => ?_
  subst he
  exact ⟨_, rfl, _, _, _, [], _, [], hW', trodAll_mk1 (shut_bool Try.underlying4 _), (trodAll_cons_mk (Below.trod laidOut (by kernel_rfl) (of_decide_eq_true (by kernel_rfl)) k0 bel lt0) (trodAll_cons_mk (shut_int Try.underlying3 w1) (trodAll_cons_mk (shut_int Try.underlying2 w2) trodAll_mk0))), rfl, bel.frame _, fun h => by cases h⟩

theorem proved : Rows.LeBackSaid :=
  OpenClaim.holds_of_wide 7 Try.f7 rfl rfl rfl rfl rfl rfl rfl ⟨rfl, rfl, rfl, rfl, rfl⟩ rfl rfl rfl rfl rfl (by kernel_rfl) Try.func7 (by kernel_rfl)
    (of_decide_eq_true (by kernel_rfl)) (by unfold Func.isWrapper; first | (rw [if_pos (by decide +kernel)]; kernel_rfl) | (rw [if_neg (by decide +kernel)]; exact ⟨rfl, rfl⟩))
    (fun os started H enc _ => lifted os started H enc)
#print axioms proved
end Go.Proofs.Ytnoofkijnelceaa.leBack
