/-
  LawShadowMerges
-/
import Derived.Test.YtlalbhmlmedikaaGreatDoorCards
import Derived.Test.YtlalbhmlmedikaaGreatDoorTie
import Derived.WalkKit
import Derived.ProofKit
import Derived.OpenShut
import Derived.Deep.DeepHandedRow
import Derived.Lib.LaidTab
import Derived.ChangeOld
import Derived.Below
import Derived.Deep.QuietTactic
import Derived.BigQuiet
import Derived.WalkSmall
import Derived.Test.YtlalbhmlmedikaaGreatDoorShAwake
import Derived.Test.YtlalbhmlmedikaaGreatDoorGShI
import Derived.Test.YtlalbhmlmedikaaGreatDoorGShM
import Derived.Test.YtlalbhmlmedikaaGreatDoorGLe
namespace Go.Proofs.YtlalbhmlmedikaaGreatDoor.shadowMerges
open Go.ChangeShapes Go.WideShapes Go.ChangeAt Go.RowKit Sp
set_option linter.unusedVariables false

theorem own : ownKnob Tryz.prog.godebug = none := by kernel_rfl
theorem laidOut : laidOutB Tryz.prog = true := by kernel_rfl

theorem pr_at {L M : List ChV} (h : L.map prC = M.map prC) {k : Nat} (hk : k < L.length) (hk' : k < M.length) : L[k].page = M[k].page ∧ L[k].xs = M[k].xs := by
  have h1 : (L.map prC)[k]? = (M.map prC)[k]? := by rw [h]
  rw [List.getElem?_map, List.getElem?_map, List.getElem?_eq_getElem hk, List.getElem?_eq_getElem hk'] at h1
  simp only [Option.map_some, Option.some.injEq, prC, Prod.mk.injEq] at h1
  exact h1

set_option maxRecDepth 100000 in
set_option maxHeartbeats 1000000 in
theorem walk (A0 : Option Addr) (l0 : List ChV) (c0 : Nat) (w : World) (o0 : CR w w.heap.size A0 l0) (m0 : l0.length ≤ 4398046511104) (hT : Tab w) :
    Calls Tryz.prog 3 #[.slice A0 l0.length c0] w fun e w' => e = .returned (.bool true) ∧ Below w.heap.size w w' := by
  go_enter Tryz.func3, Tryz.ntmps3
  go_wp2_with fail
  refine (shAwake_any _ hT).mono ?_
  rintro e w1 ⟨rfl, b1⟩
  have hc1 := (o0.below b1).more b1.size
  go_wp2_with fail
  refine (few_any none 0 0 A0 l0 c0 w1 hc1 m0).mono ?_
  rintro e w2 ⟨⟨b, rfl⟩, b2⟩
  have bw2 := b1.trans (b2.mono b1.size)
  have hc2 := (o0.below bw2).more bw2.size
  clear hc1 b1 b2
  cases b
  · go_wp2_with fail
    go_ret
    exact ⟨rfl, bw2⟩
  · go_wp2_with fail
    refine (merge_any A0 l0 c0 w2 hc2 m0).mono ?_
    rintro e w3 ⟨b3, ⟨hg, R3, c3, L, rfl, hcr3, hL⟩ | ⟨hb, rfl⟩⟩
    · have bw3 := bw2.trans (b3.mono bw2.size)
      have hc3 := (o0.below bw3).more bw3.size
      have HG := Lib.hid hg
      have HL := Lib.hid hL
      clear hc2 b3 hg hL bw2
      go_wp2_with fail
      refine (refMerge_any A0 l0 c0 w3 hc3 m0).mono ?_
      rintro e w4 ⟨b4, ⟨_, R4, c4, M, rfl, hcr4, hM⟩ | ⟨hb, rfl⟩⟩
      · have bw4 := bw3.trans (b4.mono bw3.size)
        have hcr3' := (hcr3.below b4).more b4.size
        have hLM : L.map prC = M.map prC := HL.out.trans hM.symm
        have hlen : L.length = M.length := by
          have := congrArg List.length hLM
          simpa using this
        have HLM := Lib.hid hLM
        have hL128 : L.length ≤ 128 := by
          have h1 := congrArg List.length HL.out
          have h2 := keysF_len (latestF l0)
          simp only [List.length_map, mergedOf, mergedK] at h1
          omega
        have hx1 : ((L.length : Int) != (M.length : Int)) = false := by simp; omega
        clear hM hLM b4 bw3 hc3 hcr3
        go_wp2_with fail
        try go_frame
        go_loopw [35, 7] (fun i _ wr => ∃ (k : Nat), k ≤ L.length ∧ i = .int .i64 k ∧ Below w4.heap.size w4 wr) (fun i _ _ => L.length - (Go.RowKit.intOf i).toNat)
        case atStart => exact ⟨0, Nat.zero_le _, rfl, Below.refl _ _⟩
        case round =>
          obtain ⟨k, hk, rfl, hb⟩ := hrel
          by_cases hlt : k < L.length
          · have hlt' : k < M.length := by omega
            obtain ⟨hpg, hxs⟩ := pr_at HLM.out hlt hlt'
            obtain ⟨ad3, rfl, hl3, d30, d31, ok3⟩ := (hcr3'.below hb).at_ hlt
            obtain ⟨ad4, rfl, hl4, d40, d41, ok4⟩ := (hcr4.below hb).at_ hlt'
            generalize hLk : L[k] = a at *
            generalize hMk : M[k] = a' at *
            obtain ⟨pg, A3, xs, c3'⟩ := a
            obtain ⟨pg', A4, xs', c4'⟩ := a'
            simp only at *
            subst hpg hxs
            have cv3 := run_str (P := Tryz.prog) wr.drew _ 30 9 5 A3 xs c3' (ok3.br.keep (w' := wr.drew) fun _ _ => rfl) Tryz.underlying30 Tryz.underlying5 Tryz.underlying9
            have cv4 := run_str (P := Tryz.prog) wr.drew _ 30 9 5 A4 xs c4' (ok4.br.keep (w' := wr.drew) fun _ _ => rfl) Tryz.underlying30 Tryz.underlying5 Tryz.underlying9
            have e30 : wr.drew.cell? (ad3.add (k * 2)) = some (.int .i64 pg) := d30
            have e31 : wr.drew.cell? ⟨(ad3.add (k * 2)).block, (ad3.add (k * 2)).off + 1, none⟩ = some (.slice A3 xs.length c3') := d31
            have e40 : wr.drew.cell? (ad4.add (k * 2)) = some (.int .i64 pg) := d40
            have e41 : wr.drew.cell? ⟨(ad4.add (k * 2)).block, (ad4.add (k * 2)).off + 1, none⟩ = some (.slice A4 xs.length c4') := d41
            have hb2 : Below w4.heap.size w4 wr.drew := hb.drew
            clear d30 d31 d40 d41 ok3 ok4 hLk hMk hlen
            go_wp2_with fail
            refine wp_region_still_lit (by kernel_rfl) (by kernel_rfl) ?_
            change wpStill _ _ wr.drew _ _ _
            repeat still_step
            refine wpStill_nil ?_
            clear cv3 cv4 e30 e31 e40 e41
            go_wp2_with fail
            go_roundw
            case rel => exact ⟨k + 1, by omega, by go_num, hb2⟩
            case measure => simp [Go.RowKit.intOf]; omega
          · obtain rfl : k = L.length := by omega
            go_wp2_with fail
            go_ret
            exact ⟨rfl, bw4.trans (hb.mono bw4.size)⟩
      · exact absurd HG.out hb
    · have bw3 := bw2.trans (b3.mono bw2.size)
      have hc3 := (o0.below bw3).more bw3.size
      have HB := Lib.hid hb
      clear hc2 b3 hb bw2
      go_wp2_with fail
      refine (refMerge_any A0 l0 c0 w3 hc3 m0).mono ?_
      rintro e w4 ⟨b4, ⟨hg, _⟩ | ⟨_, rfl⟩⟩
      · exact absurd hg HB.out
      · have bw4 := bw3.trans (b4.mono bw3.size)
        clear b4 bw3 hc3
        go_wp2_with fail
        try go_frame
        go_loopw [35, 7] (fun i _ wr => i = .int .i64 0 ∧ wr = w4) (fun _ _ _ => 0)
        case atStart => exact ⟨rfl, rfl⟩
        case round =>
          obtain ⟨rfl, rfl⟩ := hrel
          go_wp2_with fail
          go_ret
          exact ⟨rfl, bw4⟩

theorem gTab : Tryz.prog.globalNamed "math/bits.deBruijn64tab" = some 0 := by kernel_rfl
theorem gTabType : (Tryz.prog.globals[0]?).map (·.type) = some 81 := by kernel_rfl
theorem cellsT : Tryz.prog.cellsOf 81 = 64 := by kernel_rfl
theorem cellsE : Tryz.prog.cellsOf 5 = 1 := by kernel_rfl
/-- What the row's list gives: the table. -/
theorem table {W : World} (h : laidMetH Tryz.prog Rows.shadowMergesRow.laid W) : Tab W := by
  have ht : Lib.TabIs Tryz.prog W "math/bits.deBruijn64tab" .u8 (Lib.deBruijn64tab.map fun (x : Nat) => (x : Int)) :=
    Lib.tabIs_of_head (rest := []) gTab gTabType Tryz.underlying81 Tryz.underlying5 cellsE cellsT h
  intro j hj
  have := ht.cell gTab j (by simpa using hj)
  rw [this]
  simp [List.getD_eq_getElem?_getD, List.getElem?_map, List.getElem?_eq_getElem hj]

set_option maxRecDepth 100000 in
theorem contract (H : Type) (enc : TypeId × Value → H) (W : World) (base : Nat) (args : Array Value) (ds gs : List (DataW H)) (before : List MemPlace)
    (hval : ∀ (j : Nat) t v, Tryz.f3.params[j]? = some t → args[j]? = some v → Value.okWide Tryz.prog W .any base t v)
    (hW : DataW.Whole enc Tryz.prog Tryz.f3.params.toList Rows.shadowMergesSpec.vars false W args.toList ds gs before)
    (hsz : (DataW.weightsEach Tryz.prog (Tryz.f3.params.toList ++ Rows.shadowMergesSpec.plain.varTypes Tryz.prog) (ds ++ gs)).all (· ≤ reachBytes) = true)
    (hL : laidMetH Tryz.prog Rows.shadowMergesRow.laid W) :
    Calls Tryz.prog 3 args W fun e W' => ∃ v, e = .returned v ∧ Rows.shadowMergesSpec.post enc Tryz.prog Tryz.f3 false true false false W args v W' := by
  have hT := table hL
  have hW' := hW
  obtain ⟨p, q, hA0, hV, rfl, _, _⟩ := hW
  have hA : DataW.TrodAll enc Tryz.prog W 0 (fun _ => true) true Tryz.f3.params.toList args.toList ds p := hA0
  rw [Tryz.params3] at hA hval hsz
  obtain ⟨v0, vs0, d0, ds0, p0, q0, hargs, rfl, rfl, h0, r0⟩ := trodAll_cons hA
  obtain ⟨rfl, rfl, rfl⟩ := trodAll_nil r0
  obtain rfl : args = #[v0] := by cases args; simp_all
  obtain ⟨rfl, rfl⟩ := trodVars_none hV
  obtain ⟨A0, len0, c0, rfl⟩ := okWide_slice Tryz.underlying22 (hval 0 22 v0 rfl rfl)
  have k0 := h0
  have lt0 : ∀ x ∈ p0, x.block < W.heap.size := by obtain ⟨m, hm⟩ := k0; exact DataW.trod_lt m _ _ _ hm
  obtain ⟨l0, rfl, o0, s0⟩ := changes_in h0
  have m0 := s0 _ _ 0 hsz rfl rfl
  clear hA0
  refine (walk A0 l0 c0 W o0 m0 hT).mono fun e W' ⟨he, bel⟩ => ?_
  subst he
  exact ⟨_, rfl, _, _, _, [], _, [], hW', trodAll_mk1 (shut_bool Tryz.underlying4 _), (trodAll_cons_mk (Below.trod laidOut (by kernel_rfl) (of_decide_eq_true (by kernel_rfl)) k0 bel lt0) trodAll_mk0), rfl, bel.frame _, fun h => by cases h⟩

/-- A world for the witness: the settled one, the table (block 0) holding what its initialiser lays. -/
noncomputable def laidWorld (os : Os) : World :=
  { World.holding Tryz.prog os ⟨#[], #[], []⟩ with heap := (World.holding Tryz.prog os ⟨#[], #[], []⟩).heap.modify 0 fun
      | .cells _ t frozen => .cells (Lib.deBruijn64tab.map fun (x : Nat) => Value.int .u8 (x : Int)).toArray t frozen
      | o => o }
theorem laid_met (os : Os) : laidMet Tryz.prog Rows.shadowMergesRow.laid ((laidWorld os).forCall (fun _ _ => 0) ⟨#[], #[.slice none 0 0], []⟩).memory :=
  laidMet_of_run' 8 (by kernel_rfl) (by kernel_rfl)
theorem reads (os : Os) {H : Type} (enc : TypeId × Value → H) : ∃ places, DataW.whole enc Tryz.prog ((laidWorld os).forCall (fun _ _ => 0) ⟨#[], #[.slice none 0 0], []⟩).memory Tryz.f3.params.toList Rows.shadowMergesSpec.vars false (#[.slice none 0 0] : Array Value).toList 8 = some ([.nil], [], places) :=
  ⟨[], by kernel_rfl⟩
set_option maxRecDepth 100000 in
theorem lifted (os : Os) (started : os.Started) (H : Type) (enc : TypeId × Value → H) (F : Stop.Interp) :
    ReturnsInHanded {} Tryz.checked os 3 .any ((OpenSpec.ofChange Rows.shadowMergesSpec).preRow enc Tryz.prog Tryz.f3 Rows.shadowMergesRow.domain false Rows.shadowMergesRow.laid) (((OpenSpec.ofChange Rows.shadowMergesSpec).at F).post enc Tryz.prog Tryz.f3 false true false false) := by
  obtain ⟨places, hx⟩ := reads os enc
  refine returnsInHanded_of_row (C := Tryz.checked) (s := OpenSpec.ofChange Rows.shadowMergesSpec) own started (by kernel_rfl) Tryz.func3
    (witness_row_at (enc := enc) (C := Tryz.checked) false (laidWorld os) #[.slice none 0 0] rfl (by kernel_rfl) (by kernel_rfl) (by kernel_rfl)
      (OpenSpec.preRow_of_cond 8 hx (by kernel_rfl) (fun k hk => by cases hk) (by kernel_rfl) (laid_met os))) ?_
  intro W base args ds gs before hval hW _ _ hsz hL _ _
  exact contract H enc W base args ds gs before hval hW hsz hL

theorem said : Rows.ShadowMergesSaid :=
  OpenClaim.holds_of_cond 3 Tryz.f3 rfl rfl rfl rfl rfl rfl rfl ⟨rfl, rfl, rfl, rfl, rfl⟩ rfl rfl rfl rfl rfl (by kernel_rfl) Tryz.func3 (by kernel_rfl)
    (of_decide_eq_true (by kernel_rfl)) (by unfold Func.isWrapper; first | (rw [if_pos (by decide +kernel)]; kernel_rfl) | (rw [if_neg (by decide +kernel)]; exact ⟨rfl, rfl⟩))
    (fun os started H enc _ F => by rw [OpenClaim.pre_eq_preRow]; exact lifted os started H enc F)
theorem plain (f : FuncId) (fn : Func) (hf : Tryz.pinned.checked.prog.funcNamed "carrel/carrellaw07.ShadowMerges" = some f) (hfn : Tryz.pinned.checked.prog.funcs[f]? = some fn) :
    true = Tryz.pinned.checked.prog.looks [] ∧ ∀ (j : Nat) t, fn.params[j]? = some t → Tryz.pinned.checked.prog.wantsStandIn t = false := by
  obtain rfl : f = 3 := Option.some.inj ((show Tryz.prog.funcNamed "carrel/carrellaw07.ShadowMerges" = some 3 by kernel_rfl).symm.trans hf) |>.symm
  obtain rfl : fn = Tryz.f3 := (Option.some.inj (Tryz.func3.symm.trans hfn)).symm
  refine ⟨by kernel_rfl, fun j t ht => ?_⟩
  rw [Tryz.params3] at ht
  have h : t = 22 := by simpa using Array.mem_of_getElem? ht
  rcases h with rfl <;> (show Tryz.prog.wantsStandIn _ = false; kernel_rfl)
theorem proved : Rows.ShadowMergesCardSaid :=
  Claim7.holds_tied_plain_at .later [] _ _ _ _ said (fun _ h => by cases h) (by kernel_rfl) (fun _ h => by cases h) shadowMerges_row_tie rfl ⟨rfl, rfl⟩ (by kernel_rfl) rfl plain (by kernel_rfl)
#print axioms proved
end Go.Proofs.YtlalbhmlmedikaaGreatDoor.shadowMerges
