/-
  A record of which at most four bytes side by side are changed is no record: for every input the law RootBursts returns true.
  Conditions: none of our own; what the row itself says of its inputs (they can be read as data, each slice within the form's own reach).
-/
import Derived.Test.YtlefpnplibmgiaaFrame
import Derived.ChangeOld
import Derived.Below
import Derived.Deep.QuietTactic
import Derived.BigQuiet
import Derived.WalkSmall
import Derived.Test.YtlefpnplibmgiaaRtAwake
import Derived.Test.YtlefpnplibmgiaaRtIn
import Derived.Test.YtlefpnplibmgiaaRtTorn
import Derived.Test.YtlefpnplibmgiaaRtBurst
namespace Go.Proofs.Ytlefpnplibmgiaa.rootBursts
open Go.ChangeShapes Go.WideShapes Go.ChangeAt Go.RowKit
set_option linter.unusedVariables false

theorem own : ownKnob Try.prog.godebug = none := by kernel_rfl
theorem laidOut : laidOutB Try.prog = true := by kernel_rfl

set_option maxHeartbeats 1000000 in
theorem walk (g0 : Nat) (A0 : Option Addr) (l0 : List Sn) (c0 : Nat) (a1 : Int) (A2 : Option Addr) (x2 : List UInt8) (c2 : Nat) (w : World) (o0 : RootOk w g0 A0 l0) (w1 : (Lit.int .i64 a1).wf = true) (b2 : BR w w.heap.size A2 x2) (l2 : x2.length ≤ 140737488351232) (q2 : x2.length ≤ c2) :
    Calls Try.prog 8 #[agR g0 A0 l0.length c0, .int .i64 a1, .slice A2 x2.length c2] w fun e w' => e = .returned (.bool true) ∧ Below w.heap.size w w' := by
  have hlen := o0.len
  have hsr := o0.sr
  have hw1 := i64_of_wf w1
  have i0 : MayInv w (w.alloc (.cells #[.int .u64 (g0 : Int), .slice A0 l0.length c0] 25)) g0 A0 l0.length c0 := ⟨heap_alloc_new _ _, (Below.refl _ _).alloc (Nat.le_refl _) _⟩
  cases hm : mayB g0 l0
  · have HM := Lib.hid hm
    clear hm
    go_enter Try.func8, Try.ntmps8
    go_wp2_with fail
    refine (awake_any _).mono ?_
    rintro e w3 ⟨rfl, hb1⟩
    have i1 := i0.below hb1
    have r0 : w3.cell? ⟨w.heap.size, 0, none⟩ = some (.int .u64 (g0 : Int)) := by rw [cell_of_row _ _ _ _ _ _ i1.blk]; rfl
    have r1 : w3.cell? ⟨w.heap.size, 1, none⟩ = some (.slice A0 l0.length c0) := by rw [cell_of_row _ _ _ _ _ _ i1.blk]; rfl
    clear i0 hb1
    go_wp2_with fail
    refine (refEnc_fail g0 A0 l0 c0 _ w3 ((hsr.below i1.bel).more i1.bel.size) hlen rfl HM.out).mono ?_
    rintro e w4 ⟨R4, c4, rfl, b4⟩
    have bel := (i1.below b4).bel
    clear i1 b4 r0 r1
    go_wp2_with fail
    go_ret
    exact ⟨rfl, bel⟩
  · have HM := Lib.hid hm
    have HDE := Lib.hid (dec_enc g0 l0 hm o0.hg o0.hs)
    clear hm
    by_cases h4 : 4 < x2.length
    · have h4' : (4 : Int) < (x2.length : Int) := by omega
      go_enter Try.func8, Try.ntmps8
      go_wp2_with fail
      refine (awake_any _).mono ?_
      rintro e w3 ⟨rfl, hb1⟩
      have i1 := i0.below hb1
      have r0 : w3.cell? ⟨w.heap.size, 0, none⟩ = some (.int .u64 (g0 : Int)) := by rw [cell_of_row _ _ _ _ _ _ i1.blk]; rfl
      have r1 : w3.cell? ⟨w.heap.size, 1, none⟩ = some (.slice A0 l0.length c0) := by rw [cell_of_row _ _ _ _ _ _ i1.blk]; rfl
      clear i0 hb1
      go_wp2_with fail
      refine (refEnc_good g0 A0 l0 c0 _ w3 ((hsr.below i1.bel).more i1.bel.size) hlen rfl HM.out).mono ?_
      rintro e w4 ⟨R4, c4, rfl, br4, b4⟩
      have i4 := i1.below b4
      have bel := i4.bel
      clear i1 b4 r0 r1 i4
      go_wp2_with fail
      go_ret
      exact ⟨rfl, bel⟩
    · have h4' : ¬ (4 : Int) < (x2.length : Int) := by omega
      by_cases hneg : a1 < 0
      · go_enter Try.func8, Try.ntmps8
        go_wp2_with fail
        refine (awake_any _).mono ?_
        rintro e w3 ⟨rfl, hb1⟩
        have i1 := i0.below hb1
        have r0 : w3.cell? ⟨w.heap.size, 0, none⟩ = some (.int .u64 (g0 : Int)) := by rw [cell_of_row _ _ _ _ _ _ i1.blk]; rfl
        have r1 : w3.cell? ⟨w.heap.size, 1, none⟩ = some (.slice A0 l0.length c0) := by rw [cell_of_row _ _ _ _ _ _ i1.blk]; rfl
        clear i0 hb1
        go_wp2_with fail
        refine (refEnc_good g0 A0 l0 c0 _ w3 ((hsr.below i1.bel).more i1.bel.size) hlen rfl HM.out).mono ?_
        rintro e w4 ⟨R4, c4, rfl, br4, b4⟩
        have i4 := i1.below b4
        have bel := i4.bel
        clear i1 b4 r0 r1 i4
        go_wp2_with fail
        go_ret
        exact ⟨rfl, bel⟩
      · by_cases hfar : (64 : Int) - x2.length < a1
        · go_enter Try.func8, Try.ntmps8
          go_wp2_with fail
          refine (awake_any _).mono ?_
          rintro e w3 ⟨rfl, hb1⟩
          have i1 := i0.below hb1
          have r0 : w3.cell? ⟨w.heap.size, 0, none⟩ = some (.int .u64 (g0 : Int)) := by rw [cell_of_row _ _ _ _ _ _ i1.blk]; rfl
          have r1 : w3.cell? ⟨w.heap.size, 1, none⟩ = some (.slice A0 l0.length c0) := by rw [cell_of_row _ _ _ _ _ _ i1.blk]; rfl
          clear i0 hb1
          go_wp2_with fail
          refine (refEnc_good g0 A0 l0 c0 _ w3 ((hsr.below i1.bel).more i1.bel.size) hlen rfl HM.out).mono ?_
          rintro e w4 ⟨R4, c4, rfl, br4, b4⟩
          have i4 := i1.below b4
          have bel := i4.bel
          clear i1 b4 r0 r1 i4
          go_wp2_with fail
          go_ret
          exact ⟨rfl, bel⟩
        · obtain ⟨k, rfl⟩ := Int.eq_ofNat_of_zero_le (show 0 ≤ a1 by omega)
          go_enter Try.func8, Try.ntmps8
          go_wp2_with fail
          refine (awake_any _).mono ?_
          rintro e w3 ⟨rfl, hb1⟩
          have i1 := i0.below hb1
          have r0 : w3.cell? ⟨w.heap.size, 0, none⟩ = some (.int .u64 (g0 : Int)) := by rw [cell_of_row _ _ _ _ _ _ i1.blk]; rfl
          have r1 : w3.cell? ⟨w.heap.size, 1, none⟩ = some (.slice A0 l0.length c0) := by rw [cell_of_row _ _ _ _ _ _ i1.blk]; rfl
          clear i0 hb1
          go_wp2_with fail
          refine (refEnc_good g0 A0 l0 c0 _ w3 ((hsr.below i1.bel).more i1.bel.size) hlen rfl HM.out).mono ?_
          rintro e w4 ⟨R4, c4, rfl, br4, b4⟩
          have i4 := i1.below b4
          have bel := i4.bel
          clear i1 b4 r0 r1 i4
          have b2' := (b2.below bel).more bel.size
          obtain ⟨R, cap, w4', hap, hown, hb2⟩ := run_append8 (P := Try.prog) w4 27 27 5 Try.info8 Try.underlying27 R4 (encL g0 l0) c4 br4 (by rw [encL_len]; omega)
          have HAP := Lib.hid hap
          clear hap
          have hcap := hown.cap_le
          rw [encL_len] at hcap
          by_cases hck : cap = k
          · subst hck
            obtain ⟨w5, hcp, hown2, hb3⟩ := run_copy_own8 (P := Try.prog) w4' 27 27 3 5 5 Try.underlying27 Try.size8 w4.heap.size cap 0 0 R R cap (encL g0 l0) x2 A2 c2 _ (fun h => absurd (List.eq_nil_of_length_eq_zero (by omega)) h) hown (b2'.below hb2) (by omega) (by rw [encL_len]; omega)
            clear hown
            have b0'' := ((br4.below hb2).below hb3).more (Nat.le_trans hb2.size hb3.size)
            have br := hown2.br
            have hbt := bel.trans ((hb2.trans hb3).mono bel.size)
            have hlz : (splice (encL g0 l0) cap x2).length = 64 := by rw [length_splice _ _ _ (by rw [encL_len]; omega), encL_len]
            have HB : Hid (decB (splice (encL g0 l0) cap x2) = true ↔ encL g0 l0 = splice (encL g0 l0) cap x2) := ⟨fun h => burst_rec _ _ _ (by omega) (by rw [encL_len]; omega) HDE.out.1 h, fun e => by rw [← e]; exact HDE.out.1⟩
            have hcz := hown2.cap_le
            generalize splice (encL g0 l0) cap x2 = zs at *
            have HZ := Lib.hid hlz
            have HC := Lib.hid hcz
            clear hlz hown2 b2' b2 hcz
            rw [encL_len] at HAP
            rw [HZ.out] at HC
            go_wp2_with (first | (at_builtin; refine wpList_append_run rfl _ _ 27 rfl _ HAP.out ?_) | fail)
            have hdec := dec_any R zs cap w5 br (by rw [HZ.out]; exact HC.out)
            rw [HZ.out] at hdec
            refine Calls.mono (R := GivesDec w5 zs) hdec ?_
            clear hdec
            rintro e w6 ⟨R6, c6, rfl, _, b6, _⟩
            have bw6 := hbt.trans (b6.mono hbt.size)
            have br6 := (br.below b6).more b6.size
            have be6 := (b0''.below b6).more b6.size
            have hE6 := decE_is zs
            generalize decE zs = d6 at *
            generalize decG zs = g6 at *
            generalize (decS zs).length = n6 at *
            have b7 : Below w6.heap.size w6 (w6.alloc (.cells #[.int .u64 (g6 : Int), .slice R6 n6 c6] 25)) := (Below.refl _ _).alloc (Nat.le_refl _) _
            have bw7 := bw6.trans (b7.mono bw6.size)
            have br7 := (br6.below b7).more b7.size
            have be7 := (be6.below b7).more b7.size
            clear b6 b7 br6 be6 bw6 br b0'' hbt
            rcases hE6 with ⟨hb6, rfl⟩ | ⟨hb6, rfl⟩
            · have HS : Hid (decide (encL g0 l0 = zs) = true) := decide_eq_true (HB.out.1 hb6)
              clear hb6
              go_wp2_with fail
              refine (same_is true _ _ _ _ _ _ _ be7 br7 (encL_len _ _) HZ.out HS.out).mono ?_
              rintro e w8 ⟨rfl, rfl⟩
              go_wp2_with fail
              go_ret
              exact ⟨rfl, bw7⟩
            · have HS : Hid (decide (encL g0 l0 = zs) = false) := decide_eq_false (fun e => by rw [HB.out.2 e] at hb6; cases hb6)
              clear hb6
              go_wp2_with fail
              refine (same_is false _ _ _ _ _ _ _ be7 br7 (encL_len _ _) HZ.out HS.out).mono ?_
              rintro e w8 ⟨rfl, rfl⟩
              go_wp2_with fail
              go_ret
              exact ⟨rfl, bw7⟩
          · obtain ⟨w5, hcp, hown2, hb3⟩ := run_copy_own8 (P := Try.prog) w4' 27 27 3 5 5 Try.underlying27 Try.size8 w4.heap.size k (64 - k) (cap - k) R (R.map (·.add k)) cap (encL g0 l0) x2 A2 c2 _ (fun _ g hg => by rw [hg]; exact add_at g k) hown (b2'.below hb2) (by omega) (by rw [encL_len]; omega)
            clear hown
            have b0'' := ((br4.below hb2).below hb3).more (Nat.le_trans hb2.size hb3.size)
            have br := hown2.br
            have hbt := bel.trans ((hb2.trans hb3).mono bel.size)
            have hlz : (splice (encL g0 l0) k x2).length = 64 := by rw [length_splice _ _ _ (by rw [encL_len]; omega), encL_len]
            have HB : Hid (decB (splice (encL g0 l0) k x2) = true ↔ encL g0 l0 = splice (encL g0 l0) k x2) := ⟨fun h => burst_rec _ _ _ (by omega) (by rw [encL_len]; omega) HDE.out.1 h, fun e => by rw [← e]; exact HDE.out.1⟩
            have hcz := hown2.cap_le
            generalize splice (encL g0 l0) k x2 = zs at *
            have HZ := Lib.hid hlz
            have HC := Lib.hid hcz
            clear hlz hown2 b2' b2 hcz
            rw [encL_len] at HAP
            rw [HZ.out] at HC
            go_wp2_with (first | (at_builtin; refine wpList_append_run rfl _ _ 27 rfl _ HAP.out ?_) | fail)
            have hdec := dec_any R zs cap w5 br (by rw [HZ.out]; exact HC.out)
            rw [HZ.out] at hdec
            refine Calls.mono (R := GivesDec w5 zs) hdec ?_
            clear hdec
            rintro e w6 ⟨R6, c6, rfl, _, b6, _⟩
            have bw6 := hbt.trans (b6.mono hbt.size)
            have br6 := (br.below b6).more b6.size
            have be6 := (b0''.below b6).more b6.size
            have hE6 := decE_is zs
            generalize decE zs = d6 at *
            generalize decG zs = g6 at *
            generalize (decS zs).length = n6 at *
            have b7 : Below w6.heap.size w6 (w6.alloc (.cells #[.int .u64 (g6 : Int), .slice R6 n6 c6] 25)) := (Below.refl _ _).alloc (Nat.le_refl _) _
            have bw7 := bw6.trans (b7.mono bw6.size)
            have br7 := (br6.below b7).more b7.size
            have be7 := (be6.below b7).more b7.size
            clear b6 b7 br6 be6 bw6 br b0'' hbt
            rcases hE6 with ⟨hb6, rfl⟩ | ⟨hb6, rfl⟩
            · have HS : Hid (decide (encL g0 l0 = zs) = true) := decide_eq_true (HB.out.1 hb6)
              clear hb6
              go_wp2_with fail
              refine (same_is true _ _ _ _ _ _ _ be7 br7 (encL_len _ _) HZ.out HS.out).mono ?_
              rintro e w8 ⟨rfl, rfl⟩
              go_wp2_with fail
              go_ret
              exact ⟨rfl, bw7⟩
            · have HS : Hid (decide (encL g0 l0 = zs) = false) := decide_eq_false (fun e => by rw [HB.out.2 e] at hb6; cases hb6)
              clear hb6
              go_wp2_with fail
              refine (same_is false _ _ _ _ _ _ _ be7 br7 (encL_len _ _) HZ.out HS.out).mono ?_
              rintro e w8 ⟨rfl, rfl⟩
              go_wp2_with fail
              go_ret
              exact ⟨rfl, bw7⟩

set_option maxRecDepth 100000 in
theorem lifted (os : Os) (started : os.Started) (H : Type) (enc : TypeId × Value → H) :
    ReturnsInHanded {} Try.checked os 8 .any (Rows.rootBurstsSpec.pre6 enc Try.prog Try.f8 Rows.rootBurstsRow.domain false) (Rows.rootBurstsSpec.post enc Try.prog Try.f8 false true false false) := by
  refine returnsInHanded_of_change_sized (C := Try.checked) own started (by kernel_rfl) Try.func8
    (ChangeSpec.witness6 (enc := enc) (C := Try.checked) false ⟨#[], #[.agg #[.int .u64 0, .slice none 0 0], .int .i64 0, .slice none 0 0], []⟩ 8 (by kernel_rfl) (by kernel_rfl) (by kernel_rfl) (by kernel_rfl)) ?_
  intro W base args ds gs before hval0 hW _ hsz0 _
  have hsz : (DataW.weightsEach Try.prog (Try.f8.params.toList ++ Rows.rootBurstsSpec.plain.varTypes Try.prog) (ds ++ gs)).all (· ≤ reachBytes) = true := hsz0
  clear hsz0
  have hval : ∀ (j : Nat) t v, Try.f8.params[j]? = some t → args[j]? = some v → Value.okWide Try.prog W .any base t v := hval0
  have hW' := hW
  obtain ⟨p, q, hA0, hV, rfl, _, _⟩ := hW
  have hA : DataW.TrodAll enc Try.prog W 0 (fun _ => true) true Try.f8.params.toList args.toList ds p := hA0
  rw [Try.params8] at hA hval hsz
  obtain ⟨v0, vs0, d0, ds0, p0, q0, hargs, rfl, rfl, h0, r0⟩ := trodAll_cons hA
  obtain ⟨v1, vs1, d1, ds1, p1, q1, rfl, rfl, rfl, h1, r1⟩ := trodAll_cons r0
  obtain ⟨v2, vs2, d2, ds2, p2, q2, rfl, rfl, rfl, h2, r2⟩ := trodAll_cons r1
  obtain ⟨rfl, rfl, rfl⟩ := trodAll_nil r2
  obtain rfl : args = #[v0, v1, v2] := by cases args; simp_all
  obtain ⟨rfl, rfl⟩ := trodVars_none hV
  have k0 := h0
  have lt0 : ∀ x ∈ p0, x.block < W.heap.size := by obtain ⟨m, hm⟩ := k0; exact DataW.trod_lt m _ _ _ hm
  obtain ⟨g0, A0, l0, c0, rfl, o0⟩ := root_in (hval 0 25 v0 rfl rfl) h0
  obtain ⟨a1, rfl, rfl, rfl, w1⟩ := open_int Try.underlying3 (hval 1 3 v1 rfl rfl) h1
  obtain ⟨A2, len2, c2, rfl⟩ := okWide_slice Try.underlying27 (hval 2 27 v2 rfl rfl)
  have k2 := h2
  have lt2 : ∀ x ∈ p2, x.block < W.heap.size := by obtain ⟨m, hm⟩ := k2; exact DataW.trod_lt m _ _ _ hm
  have q2 := bytes_cap h2
  obtain ⟨x2, rfl, b2, s2⟩ := bytes_in h2
  have l2 := s2 _ _ 2 hsz rfl rfl
  clear hA0 hval0
  refine (walk g0 A0 l0 c0 a1 A2 x2 c2 W o0 w1 b2 l2 q2).mono fun e W' ⟨he, bel⟩ => ?_
  subst he
  exact ⟨_, rfl, _, _, _, [], _, [], hW', trodAll_mk1 (shut_bool Try.underlying4 _), (trodAll_cons_mk (Below.trod laidOut (by kernel_rfl) (of_decide_eq_true (by kernel_rfl)) k0 bel lt0) (trodAll_cons_mk (shut_int Try.underlying3 w1) (trodAll_cons_mk (Below.trod laidOut (by kernel_rfl) (of_decide_eq_true (by kernel_rfl)) k2 bel lt2) trodAll_mk0))), rfl, bel.frame _, fun h => by cases h⟩

theorem proved : Rows.RootBurstsSaid :=
  OpenClaim.holds_of_wide 8 Try.f8 rfl rfl rfl rfl rfl rfl rfl ⟨rfl, rfl, rfl, rfl, rfl⟩ rfl rfl rfl rfl rfl (by kernel_rfl) Try.func8 (by kernel_rfl)
    (of_decide_eq_true (by kernel_rfl)) (by unfold Func.isWrapper; first | (rw [if_pos (by decide +kernel)]; kernel_rfl) | (rw [if_neg (by decide +kernel)]; exact ⟨rfl, rfl⟩))
    (fun os started H enc _ => lifted os started H enc)
#print axioms proved
end Go.Proofs.Ytlefpnplibmgiaa.rootBursts
