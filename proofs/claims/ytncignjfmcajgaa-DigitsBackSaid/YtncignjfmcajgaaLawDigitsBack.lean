/-
  LawDigitsBack
-/
import Derived.Test.YtncignjfmcajgaaGA
import Derived.ChangeOld
import Derived.Below
import Derived.Deep.QuietTactic
import Derived.BigQuiet
import Derived.WalkSmall
import Derived.Test.YtncignjfmcajgaaDgLow
namespace Go.Proofs.Ytncignjfmcajgaa.digitsBack
open Go.ChangeShapes Go.WideShapes Go.ChangeAt Go.RowKit Dgt
set_option linter.unusedVariables false

theorem own : ownKnob Try.prog.godebug = none := by kernel_rfl
theorem laidOut : laidOutB Try.prog = true := by kernel_rfl

set_option maxRecDepth 100000 in
set_option maxHeartbeats 1000000 in
theorem walk (a0 : Int) (a1 : Int) (w : World) (w0 : (Lit.int .i64 a0).wf = true) (w1 : (Lit.int .i64 a1).wf = true) :
    Calls Try.prog 5 #[.int .i64 a0, .int .i64 a1] w fun e w' => e = .returned (.bool true) ∧ Below w.heap.size w w' := by
  have i0 := i64_of_wf w0
  obtain ⟨k, hk⟩ : ∃ k : Nat, IntKind.u64.wrap a0 = (k : Int) := ⟨(IntKind.u64.wrap a0).toNat, by have := u64_wrap_range a0; omega⟩
  have hkl : k < 18446744073709551616 := by have := u64_wrap_range a0; omega
  have hub := u_back (base := a1) i0.1 i0.2
  rw [show (IntKind.u64.wrap a0).toNat = k by rw [hk]; omega] at hub
  have HAW := Lib.hid (awake_any w)
  have hl := showV_len (n := a0) (base := a1)
  have hp := showV_pos_len a0 a1
  have hdl : (digs (bsN a1) k).length ≤ 64 := digsF_len _ 64 _
  have HA := Lib.hid (fun W => show_any a0 i0.1 i0.2 a1 W)
  have hb := fun W => number_any (showV a0 a1) (by omega) a1 W
  rw [show_back i0.1 i0.2] at hb
  have HB := Lib.hid hb
  have hc := fun W => number_any ((showV a0 a1).map lowC) (by rw [List.length_map]; omega) a1 W
  rw [small_back i0.1 i0.2] at hc
  have HC := Lib.hid hc
  have HD := Lib.hid (fun W => showu_any k hkl a1 W)
  have he := fun W => number_any (digs (bsN a1) k) (by omega) a1 W
  rw [hub] at he
  have HE := Lib.hid he
  clear hb hc he hub w0 w1 i0 hdl
  generalize digs (bsN a1) k = t at *
  generalize showV a0 a1 = s at *
  go_enter Try.func5, Try.ntmps5
  go_wp2_with fail
  refine HAW.out.mono ?_
  rintro e w1 ⟨rfl, b1⟩
  have B1 := Lib.hid b1
  clear b1
  go_wp2_with fail
  refine (HA.out _).mono ?_
  rintro e w2 ⟨rfl, b2⟩
  have B2 := Lib.hid (B1.out.trans (b2.mono B1.out.size))
  clear b2 B1
  go_wp2_with fail
  refine (HB.out _).mono ?_
  rintro e w3 ⟨rfl, b3⟩
  have B3 := Lib.hid (B2.out.trans (b3.mono B2.out.size))
  clear b3 B2
  obtain ⟨cap, W4, hcv, sm0⟩ := SmR.start s w3
  have SM := Lib.hid sm0
  clear sm0
  go_wp2_with fail
  go_loopg [9, 29] s.length (fun g _ n wr => BkR w3 s g n wr)
  case atStart => exact ⟨0, by omega, by omega, rfl, SM.out⟩
  case round =>
    obtain ⟨m, rfl, hm, rfl, sm⟩ := hrel
    clear SM hcv
    by_cases hlt : m < s.length
    · have d0 : decide ((m : Int) < (s.length : Int)) = true := by simp; omega
      have d0' : decide (m < s.length) = true := by simp; omega
      have p0 : (0 : Int) ≤ m := by omega
      have p1 : (m : Int) < s.length := by omega
      have wm : IntKind.i64.wrap ((m : Int) + 1) = (m : Int) + 1 := by rw [wrap_i64]; omega
      have c1 := sm.at_ hlt
      have f1 := sm.fz m hlt
      have hu8 := (s.getD m 0).toNat_lt
      by_cases hup : 65 ≤ (s.getD m 0).toNat ∧ (s.getD m 0).toNat ≤ 90
      · have HR : Hid (BkR w3 s (s.length - (m + 1)) (.int .i64 ((m : Int) + 1)) (wr.setCell ⟨w3.heap.size, m, none⟩ (.int .u8 ((lowC (s.getD m 0)).toNat : Int)))) := ⟨m + 1, rfl, by omega, by rw [Int.natCast_add]; rfl, sm.put hlt⟩
        rw [lowC_up _ hup] at HR
        have t1 : decide ((65 : Int) ≤ ((s.getD m 0).toNat : Int)) = true := by simp only [decide_eq_true_eq]; omega
        have t2 : decide (((s.getD m 0).toNat : Int) ≤ 90) = true := by simp only [decide_eq_true_eq]; omega
        have wu : IntKind.u8.wrap (((s.getD m 0).toNat : Int) + 32) = ((s.getD m 0).toNat : Int) + 32 := by simp only [IntKind.wrap, IntKind.bits, IntKind.signed, Bool.false_and, Bool.false_eq_true, if_false]; omega
        clear sm hup hu8
        have c1' : wr.cell? ⟨w3.heap.size, m, none⟩ = some (.int .u8 ((s.getD m 0).toNat : Int)) := c1
        clear c1
        generalize ((s.getD m 0).toNat : Int) = z at *
        go_wp2_with fail
        go_roundg (s.length - (m + 1))
        case rel => exact HR.out
        case measure => omega
      · have HR : Hid (BkR w3 s (s.length - (m + 1)) (.int .i64 ((m : Int) + 1)) wr) := ⟨m + 1, rfl, by omega, by rw [Int.natCast_add]; rfl, sm.skip hlt (lowC_no _ hup)⟩
        by_cases hlo : 65 ≤ (s.getD m 0).toNat
        · have t1 : decide ((65 : Int) ≤ ((s.getD m 0).toNat : Int)) = true := by simp only [decide_eq_true_eq]; omega
          have t2 : decide (((s.getD m 0).toNat : Int) ≤ 90) = false := by simp only [decide_eq_false_iff_not]; omega
          clear sm hup hu8 hlo
          have c1' : wr.cell? ⟨w3.heap.size, m, none⟩ = some (.int .u8 ((s.getD m 0).toNat : Int)) := c1
          clear c1
          generalize ((s.getD m 0).toNat : Int) = z at *
          go_wp2_with fail
          go_roundg (s.length - (m + 1))
          case rel => exact HR.out
          case measure => omega
        · have t1 : decide ((65 : Int) ≤ ((s.getD m 0).toNat : Int)) = false := by simp only [decide_eq_false_iff_not]; omega
          clear sm hup hu8 hlo
          have c1' : wr.cell? ⟨w3.heap.size, m, none⟩ = some (.int .u8 ((s.getD m 0).toNat : Int)) := c1
          clear c1
          generalize ((s.getD m 0).toNat : Int) = z at *
          go_wp2_with fail
          go_roundg (s.length - (m + 1))
          case rel => exact HR.out
          case measure => omega
    · obtain rfl : m = s.length := by omega
      have hcb := sm.done hp cap
      have B5 := Lib.hid (B3.out.trans (sm.bel.mono B3.out.size))
      clear sm B3
      go_wp2_with fail
      refine (HC.out _).mono ?_
      rintro e w6 ⟨rfl, b6⟩
      have B6 := Lib.hid (B5.out.trans (b6.mono B5.out.size))
      clear b6 B5
      go_wp2_with fail
      refine (HD.out _).mono ?_
      rintro e w7 ⟨rfl, b7⟩
      have B7 := Lib.hid (B6.out.trans (b7.mono B6.out.size))
      clear b7 B6
      go_wp2_with fail
      refine (HE.out _).mono ?_
      rintro e w8 ⟨rfl, b8⟩
      have B8 := Lib.hid (B7.out.trans (b8.mono B7.out.size))
      clear b8 B7
      go_wp2_with fail
      go_ret
      exact ⟨rfl, B8.out⟩

set_option maxRecDepth 100000 in
theorem lifted (os : Os) (started : os.Started) (H : Type) (enc : TypeId × Value → H) :
    ReturnsInHanded {} Try.checked os 5 .any (Rows.digitsBackSpec.pre6 enc Try.prog Try.f5 Rows.digitsBackRow.domain false) (Rows.digitsBackSpec.post enc Try.prog Try.f5 false true false false) := by
  refine returnsInHanded_of_change_sized (C := Try.checked) own started (by kernel_rfl) Try.func5
    (ChangeSpec.witness6 (enc := enc) (C := Try.checked) false ⟨#[], #[.int .i64 0, .int .i64 0], []⟩ 8 (by kernel_rfl) (by kernel_rfl) (by kernel_rfl) (by kernel_rfl)) ?_
  intro W base args ds gs before hval0 hW _ hsz0 _
  have hsz : (DataW.weightsEach Try.prog (Try.f5.params.toList ++ Rows.digitsBackSpec.plain.varTypes Try.prog) (ds ++ gs)).all (· ≤ reachBytes) = true := hsz0
  clear hsz0
  have hval : ∀ (j : Nat) t v, Try.f5.params[j]? = some t → args[j]? = some v → Value.okWide Try.prog W .any base t v := hval0
  have hW' := hW
  obtain ⟨p, q, hA0, hV, rfl, _, _⟩ := hW
  have hA : DataW.TrodAll enc Try.prog W 0 (fun _ => true) true Try.f5.params.toList args.toList ds p := hA0
  rw [Try.params5] at hA hval hsz
  obtain ⟨v0, vs0, d0, ds0, p0, q0, hargs, rfl, rfl, h0, r0⟩ := trodAll_cons hA
  obtain ⟨v1, vs1, d1, ds1, p1, q1, rfl, rfl, rfl, h1, r1⟩ := trodAll_cons r0
  obtain ⟨rfl, rfl, rfl⟩ := trodAll_nil r1
  obtain rfl : args = #[v0, v1] := by cases args; simp_all
  obtain ⟨rfl, rfl⟩ := trodVars_none hV
  obtain ⟨a0, rfl, rfl, rfl, w0⟩ := open_int Try.underlying2 (hval 0 2 v0 rfl rfl) h0
  obtain ⟨a1, rfl, rfl, rfl, w1⟩ := open_int Try.underlying2 (hval 1 2 v1 rfl rfl) h1
  clear hA0 hval0
  refine (walk a0 a1 W w0 w1).mono fun e W' ⟨he, bel⟩ => ?_
  subst he
  exact ⟨_, rfl, _, _, _, [], _, [], hW', trodAll_mk1 (shut_bool Try.underlying4 _), (trodAll_cons_mk (shut_int Try.underlying2 w0) (trodAll_cons_mk (shut_int Try.underlying2 w1) trodAll_mk0)), rfl, bel.frame _, fun h => by cases h⟩

theorem proved : Rows.DigitsBackSaid :=
  OpenClaim.holds_of_wide 5 Try.f5 rfl rfl rfl rfl rfl rfl rfl ⟨rfl, rfl, rfl, rfl, rfl⟩ rfl rfl rfl rfl rfl (by kernel_rfl) Try.func5 (by kernel_rfl)
    (of_decide_eq_true (by kernel_rfl)) (by unfold Func.isWrapper; first | (rw [if_pos (by decide +kernel)]; kernel_rfl) | (rw [if_neg (by decide +kernel)]; exact ⟨rfl, rfl⟩))
    (fun os started H enc _ => lifted os started H enc)
#print axioms proved
end Go.Proofs.Ytncignjfmcajgaa.digitsBack
