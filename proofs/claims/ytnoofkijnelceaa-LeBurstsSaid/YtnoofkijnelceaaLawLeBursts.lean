/-
  LeBursts: of any text and one that differs from it in at most four bytes side by side the sums that le.Crc gives differ: the law returns true, and changes no argument.
  Conditions: none of our own; what the row itself says of its inputs (they can be read as data, each slice within the form's own reach).
-/
import Derived.Test.YtnoofkijnelceaaFrame
import Derived.ChangeOld
import Derived.Below
import Derived.Deep.QuietTactic
import Derived.BigQuiet
import Derived.WalkSmall
import Derived.Test.YtnoofkijnelceaaAwake
import Derived.Test.YtnoofkijnelceaaRefPut
import Derived.Test.YtnoofkijnelceaaBurst
namespace Go.Proofs.Ytnoofkijnelceaa.leBursts
open Go.ChangeShapes Go.WideShapes Go.ChangeAt Go.RowKit
set_option linter.unusedVariables false

theorem own : ownKnob Try.prog.godebug = none := by kernel_rfl
theorem laidOut : laidOutB Try.prog = true := by kernel_rfl

/-- The tests ahead, whichever of them says that nothing is asked. -/
theorem early (A0 : Option Addr) (n0 c0 : Nat) (a1 : Int) (A2 : Option Addr) (n2 c2 : Nat) (w : World) (l0 : n0 ≤ 140737488351232) (l2 : n2 ≤ 140737488351232) (h : 2000 < n0 ∨ 4 < n2 ∨ a1 < 0 ∨ (n0 : Int) - n2 < a1) :
    Calls Try.prog 8 #[.slice A0 n0 c0, .int .i64 a1, .slice A2 n2 c2] w fun e w' => e = .returned (.bool true) ∧ Below w.heap.size w w' := by
  by_cases hbig : 2000 < n0
  · clear h
    go_enter Try.func8, Try.ntmps8
    go_wp2_with fail
    refine (awake_any _).mono ?_
    rintro e w2 ⟨rfl, hb1⟩
    go_wp2_with fail
    go_ret
    exact ⟨rfl, hb1⟩
  · by_cases hfour : 4 < n2
    · clear h
      go_enter Try.func8, Try.ntmps8
      go_wp2_with fail
      refine (awake_any _).mono ?_
      rintro e w2 ⟨rfl, hb1⟩
      go_wp2_with fail
      go_ret
      exact ⟨rfl, hb1⟩
    · by_cases hneg : a1 < 0
      · clear h
        go_enter Try.func8, Try.ntmps8
        go_wp2_with fail
        refine (awake_any _).mono ?_
        rintro e w2 ⟨rfl, hb1⟩
        go_wp2_with fail
        go_ret
        exact ⟨rfl, hb1⟩
      · have hfar : (n0 : Int) - n2 < a1 := by omega
        clear h
        go_enter Try.func8, Try.ntmps8
        go_wp2_with fail
        refine (awake_any _).mono ?_
        rintro e w2 ⟨rfl, hb1⟩
        go_wp2_with fail
        go_ret
        exact ⟨rfl, hb1⟩

set_option maxHeartbeats 1000000 in
theorem walk (A0 : Option Addr) (x0 : List UInt8) (c0 : Nat) (a1 : Int) (A2 : Option Addr) (x2 : List UInt8) (c2 : Nat) (w : World) (b0 : BR w w.heap.size A0 x0) (l0 : x0.length ≤ 140737488351232) (w1 : (Lit.int .i64 a1).wf = true) (b2 : BR w w.heap.size A2 x2) (l2 : x2.length ≤ 140737488351232) :
    Calls Try.prog 8 #[.slice A0 x0.length c0, .int .i64 a1, .slice A2 x2.length c2] w fun e w' => e = .returned (.bool true) ∧ Below w.heap.size w w' := by
  by_cases hearly : 2000 < x0.length ∨ 4 < x2.length ∨ a1 < 0 ∨ (x0.length : Int) - x2.length < a1
  · exact early A0 x0.length c0 a1 A2 x2.length c2 w l0 l2 hearly
  · have h1 : ¬ 2000 < x0.length := fun h => hearly (.inl h)
    have h2 : ¬ 4 < x2.length := fun h => hearly (.inr (.inl h))
    have h3 : ¬ a1 < 0 := fun h => hearly (.inr (.inr (.inl h)))
    have h4 : ¬ (x0.length : Int) - x2.length < a1 := fun h => hearly (.inr (.inr (.inr h)))
    clear hearly
    obtain ⟨k, rfl⟩ := Int.eq_ofNat_of_zero_le (show 0 ≤ a1 by omega)
    have HB : Hid (crcOf x0 = crcOf (splice x0 k x2) → x0 = splice x0 k x2) := burst x0 x2 k (by omega) (by omega)
    have HL := Lib.hid (length_splice x0 k x2 (by omega))
    go_enter Try.func8, Try.ntmps8
    go_wp2_with fail
    refine (awake_any _).mono ?_
    rintro e w3 ⟨rfl, hb1⟩
    have b0' := (b0.below hb1).more hb1.size
    have b2' := (b2.below hb1).more hb1.size
    obtain ⟨R, cap, w4, hap, hown, hb2⟩ := run_append8 (P := Try.prog) w3 22 22 5 Try.info8 Try.underlying22 A0 x0 c0 b0' (by omega)
    have HAP := Lib.hid hap
    clear hap
    have hcap := hown.cap_le
    by_cases hck : cap = k
    · subst hck
      obtain ⟨w5, hcp, hown2, hb3⟩ := run_copy_own8 (P := Try.prog) w4 22 22 3 5 5 Try.underlying22 Try.size8 w3.heap.size cap 0 0 R R cap x0 x2 A2 c2 _ (fun h => absurd (List.eq_nil_of_length_eq_zero (by omega)) h) hown (b2'.below hb2) (by omega) (by omega)
      clear hown
      have b0'' := ((b0'.below hb2).below hb3).more (Nat.le_trans hb2.size hb3.size)
      have br := hown2.br
      have hbt := hb1.trans ((hb2.trans hb3).mono hb1.size)
      have hlz := HL.out
      generalize splice x0 cap x2 = zs at *
      have HZ := Lib.hid hlz
      clear hlz hown2 b0' b2' b0 b2
      by_cases hs : x0 = zs
      · have hs2 : decide (x0 = zs) = true := by simpa using hs
        clear hs HB
        go_wp2_with (first | (at_builtin; refine wpList_append_run rfl _ _ 22 rfl _ HAP.out ?_) | fail)
        refine (same_len _ x0 _ _ _ zs _ _ _ b0'' br rfl HZ.out).mono ?_
        rintro e w6 ⟨rfl, rfl⟩
        go_wp2_with fail
        go_ret
        exact ⟨rfl, hbt⟩
      · have hs2 : decide (x0 = zs) = false := by simpa using hs
        have hne : Hid (((crcOf x0 : Int) != (crcOf zs : Int)) = true) := by
          show _ = true
          rw [bne_iff_ne]
          intro e
          exact hs (HB.out (by omega))
        have hne := hne.out
        clear hs HB
        go_wp2_with (first | (at_builtin; refine wpList_append_run rfl _ _ 22 rfl _ HAP.out ?_) | fail)
        refine (same_len _ x0 _ _ _ zs _ _ _ b0'' br rfl HZ.out).mono ?_
        rintro e w6 ⟨rfl, rfl⟩
        go_wp2_with fail
        refine (leCrc_any _ _ _ _ b0'' (by omega)).mono ?_
        rintro e w6 ⟨rfl, rfl⟩
        go_wp2_with fail
        refine (leCrc_len _ zs _ _ _ br (by rw [HZ.out]; omega) HZ.out).mono ?_
        rintro e w6 ⟨rfl, rfl⟩
        go_wp2_with fail
        go_ret
        exact ⟨rfl, hbt⟩
    · obtain ⟨w5, hcp, hown2, hb3⟩ := run_copy_own8 (P := Try.prog) w4 22 22 3 5 5 Try.underlying22 Try.size8 w3.heap.size k (x0.length - k) (cap - k) R (R.map (·.add k)) cap x0 x2 A2 c2 _ (fun _ g hg => by rw [hg]; exact add_at g k) hown (b2'.below hb2) (by omega) (by omega)
      clear hown
      have b0'' := ((b0'.below hb2).below hb3).more (Nat.le_trans hb2.size hb3.size)
      have br := hown2.br
      have hbt := hb1.trans ((hb2.trans hb3).mono hb1.size)
      have hlz := HL.out
      generalize splice x0 k x2 = zs at *
      have HZ := Lib.hid hlz
      clear hlz hown2 b0' b2' b0 b2
      by_cases hs : x0 = zs
      · have hs2 : decide (x0 = zs) = true := by simpa using hs
        clear hs HB
        go_wp2_with (first | (at_builtin; refine wpList_append_run rfl _ _ 22 rfl _ HAP.out ?_) | fail)
        refine (same_len _ x0 _ _ _ zs _ _ _ b0'' br rfl HZ.out).mono ?_
        rintro e w6 ⟨rfl, rfl⟩
        go_wp2_with fail
        go_ret
        exact ⟨rfl, hbt⟩
      · have hs2 : decide (x0 = zs) = false := by simpa using hs
        have hne : Hid (((crcOf x0 : Int) != (crcOf zs : Int)) = true) := by
          show _ = true
          rw [bne_iff_ne]
          intro e
          exact hs (HB.out (by omega))
        have hne := hne.out
        clear hs HB
        go_wp2_with (first | (at_builtin; refine wpList_append_run rfl _ _ 22 rfl _ HAP.out ?_) | fail)
        refine (same_len _ x0 _ _ _ zs _ _ _ b0'' br rfl HZ.out).mono ?_
        rintro e w6 ⟨rfl, rfl⟩
        go_wp2_with fail
        refine (leCrc_any _ _ _ _ b0'' (by omega)).mono ?_
        rintro e w6 ⟨rfl, rfl⟩
        go_wp2_with fail
        refine (leCrc_len _ zs _ _ _ br (by rw [HZ.out]; omega) HZ.out).mono ?_
        rintro e w6 ⟨rfl, rfl⟩
        go_wp2_with fail
        go_ret
        exact ⟨rfl, hbt⟩

set_option maxRecDepth 100000 in
theorem lifted (os : Os) (started : os.Started) (H : Type) (enc : TypeId × Value → H) :
    ReturnsInHanded {} Try.checked os 8 .any (Rows.leBurstsSpec.pre6 enc Try.prog Try.f8 Rows.leBurstsRow.domain false) (Rows.leBurstsSpec.post enc Try.prog Try.f8 false true false false) := by
  refine returnsInHanded_of_change_sized (C := Try.checked) own started (by kernel_rfl) Try.func8
    (ChangeSpec.witness6 (enc := enc) (C := Try.checked) false ⟨#[], #[.slice none 0 0, .int .i64 0, .slice none 0 0], []⟩ 8 (by kernel_rfl) (by kernel_rfl) (by kernel_rfl) (by kernel_rfl)) ?_
  intro W base args ds gs before hval0 hW _ hsz0 _
  have hsz : (DataW.weightsEach Try.prog (Try.f8.params.toList ++ Rows.leBurstsSpec.plain.varTypes Try.prog) (ds ++ gs)).all (· ≤ reachBytes) = true := hsz0
  clear hsz0
  have hval : ∀ (j : Nat) t v, Try.f8.params[j]? = some t → args[j]? = some v → Value.okWide Try.prog W .any base t v := hval0
  have hW' := hW
  obtain ⟨p, q, hA0, hV, rfl, _, _⟩ := hW
  have hA : DataW.TrodAll enc Try.prog W 0 (fun _ => true) true Try.f8.params.toList args.toList ds p := hA0
  rw [Try.params8] at hA hval hsz
  obtain ⟨v0, vs0, d0, ds0, p0, q0, hargs, rfl, rfl, h0, r0⟩ := trodAll_cons hA
  obtain ⟨v1, vs1, d1, ds1, p1, q1, rfl, rfl, rfl, h1, r1⟩ := trodAll_cons r0
  obtain ⟨v2, vs2, d2, ds2, p2, q2, rfl, rfl, rfl, h2, r2⟩ := trodAll_cons r1
  obtain ⟨rfl, rfl, rfl⟩ := trodAll_nil r2
  obtain rfl : args = #[v0, v1, v2] := by cases args; simp_all
  obtain ⟨rfl, rfl⟩ := trodVars_none hV
  obtain ⟨A0, len0, c0, rfl⟩ := okWide_slice Try.underlying22 (hval 0 22 v0 rfl rfl)
  have k0 := h0
  have lt0 : ∀ x ∈ p0, x.block < W.heap.size := by obtain ⟨m, hm⟩ := k0; exact DataW.trod_lt m _ _ _ hm
  obtain ⟨x0, rfl, b0, s0⟩ := bytes_in h0
  have l0 := s0 _ _ 0 hsz rfl rfl
  obtain ⟨a1, rfl, rfl, rfl, w1⟩ := open_int Try.underlying3 (hval 1 3 v1 rfl rfl) h1
  obtain ⟨A2, len2, c2, rfl⟩ := okWide_slice Try.underlying22 (hval 2 22 v2 rfl rfl)
  have k2 := h2
  have lt2 : ∀ x ∈ p2, x.block < W.heap.size := by obtain ⟨m, hm⟩ := k2; exact DataW.trod_lt m _ _ _ hm
  obtain ⟨x2, rfl, b2, s2⟩ := bytes_in h2
  have l2 := s2 _ _ 2 hsz rfl rfl
  clear hA0 hval0
  refine (walk A0 x0 c0 a1 A2 x2 c2 W b0 l0 w1 b2 l2).mono fun e W' ⟨he, bel⟩ => ?_
  subst he
  exact ⟨_, rfl, _, _, _, [], _, [], hW', trodAll_mk1 (shut_bool Try.underlying4 _), (trodAll_cons_mk (Below.trod laidOut (by kernel_rfl) (of_decide_eq_true (by kernel_rfl)) k0 bel lt0) (trodAll_cons_mk (shut_int Try.underlying3 w1) (trodAll_cons_mk (Below.trod laidOut (by kernel_rfl) (of_decide_eq_true (by kernel_rfl)) k2 bel lt2) trodAll_mk0))), rfl, bel.frame _, fun h => by cases h⟩

theorem proved : Rows.LeBurstsSaid :=
  OpenClaim.holds_of_wide 8 Try.f8 rfl rfl rfl rfl rfl rfl rfl ⟨rfl, rfl, rfl, rfl, rfl⟩ rfl rfl rfl rfl rfl (by kernel_rfl) Try.func8 (by kernel_rfl)
    (of_decide_eq_true (by kernel_rfl)) (by unfold Func.isWrapper; first | (rw [if_pos (by decide +kernel)]; kernel_rfl) | (rw [if_neg (by decide +kernel)]; exact ⟨rfl, rfl⟩))
    (fun os started H enc _ => lifted os started H enc)
#print axioms proved
end Go.Proofs.Ytnoofkijnelceaa.leBursts
