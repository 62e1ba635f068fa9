/-
  Whatever was done with a map: a copy of it stands alike, and what is held or taken on the copy changes nothing of the map.
  Conditions: none of our own; what the row itself says of its inputs (they can be read as data, each slice within the form's own reach), and that the table behind bits.TrailingZeros64 holds what the library's text lays there, which the card ties.
-/
import Derived.Test.YtajagjhhpciocaaDoorCards
import Derived.Test.YtajagjhhpciocaaDoorTie
import Derived.WalkKit
import Derived.ProofKit
import Derived.OpenShut
import Derived.Deep.DeepHandedRow
import Derived.Lib.LaidTab
import Derived.ChangeOld
import Derived.Below
import Derived.Deep.QuietTactic
import Derived.BigQuiet
import Derived.WalkSmall
import Derived.Test.YtajagjhhpciocaaDoorSpActIn
namespace Go.Proofs.YtajagjhhpciocaaDoor.spaceCopies
open Go.ChangeShapes Go.WideShapes Go.ChangeAt Go.RowKit Sp
set_option linter.unusedVariables false

theorem own : ownKnob Tryd.prog.godebug = none := by kernel_rfl
theorem laidOut : laidOutB Tryd.prog = true := by kernel_rfl

theorem upto_zero (n : Nat) : Upto 0 (List.replicate n 0) := fun c hc => by
  rw [List.mem_replicate] at hc
  omega

set_option maxHeartbeats 1000000 in
theorem walk (a0 : Int) (A1 : Option Addr) (l1 : List ActV) (c1 : Nat) (A2 : Option Addr) (l2 : List ActV) (c2 : Nat) (w : World) (w0 : (Lit.int .i64 a0).wf = true) (o1 : AR w w.heap.size A1 l1) (m1 : l1.length ≤ 8796093021952) (o2 : AR w w.heap.size A2 l2) (m2 : l2.length ≤ 8796093021952) (hT : Tab w) :
    Calls Tryd.prog 5 #[.int .i64 a0, .slice A1 l1.length c1, .slice A2 l2.length c2] w fun e w' => e = .returned (.bool true) ∧ Below w.heap.size w w' := by
  have hn64 := i64_of_wf w0
  have AROF : Hid (∀ W, Below w.heap.size w W → AR W w.heap.size A1 l1) := fun W hb => o1.below hb
  have AROF2 : Hid (∀ W, Below w.heap.size w W → AR W w.heap.size A2 l2) := fun W hb => o2.below hb
  by_cases h1 : 300 < a0
  · skip
    go_enter Tryd.func5, Tryd.ntmps5
    go_wp2_with fail
    refine (awake_any _ hT).mono ?_
    rintro e w1 ⟨rfl, b1⟩
    go_wp2_with fail
    go_ret
    exact ⟨rfl, b1⟩
  by_cases h3 : 200 < l1.length + l2.length
  · skip
    go_enter Tryd.func5, Tryd.ntmps5
    go_wp2_with fail
    refine (awake_any _ hT).mono ?_
    rintro e w1 ⟨rfl, b1⟩
    go_wp2_with fail
    go_ret
    exact ⟨rfl, b1⟩
  have h5 : l1.length + l2.length ≤ 200 := by omega
  clear h3
  go_enter Tryd.func5, Tryd.ntmps5
  go_wp2_with fail
  refine (awake_any _ hT).mono ?_
  rintro e w1 ⟨rfl, b1⟩
  have T1 := hT.below b1 hT.pos
  have hp1 := T1.pos
  go_wp2_with fail
  refine (new_any a0 w1).mono ?_
  rintro e w2 ⟨p, rfl, m2, b2⟩
  have M2 := Lib.hid m2
  clear m2
  go_wp2_with fail
  refine (rnew_any a0 w2).mono ?_
  rintro e w3 ⟨q, rfl, r3, b3⟩
  have M3 := Lib.hid (M2.out.below b3)
  have R3 := Lib.hid r3
  have K3 := Lib.hid (((keeps_below b2).trans (keeps_below b3)).mono (G := fun i => w1.heap.size ≤ i) fun _ _ h => h.elim)
  have s1 := b2.size
  have s2 := b3.size
  have B1 := Lib.hid b1
  clear r3 M2 b1 b2 b3
  generalize nS a0 = n at *
  go_wp2_with fail
  go_loopw [34] (fun i wr => ∃ (k : Nat) (cs : List Nat), k ≤ l1.length ∧ i = .int .i64 (k : Int) ∧ Upto k cs ∧ MapS wr w1.heap.size w2.heap.size p cs ∧ RefS wr w2.heap.size w3.heap.size q cs ∧ Keeps (fun i => w1.heap.size ≤ i) w1 wr ∧ w3.heap.size ≤ wr.heap.size) (fun i _ => l1.length - (intOf i).toNat)
  case atStart => exact ⟨0, List.replicate n 0, by omega, rfl, upto_zero n, M3.out, R3.out, K3.out, Nat.le_refl _⟩
  case round =>
    clear M3 R3 K3
    obtain ⟨k, cs, hk, rfl, up, mr, rr, kr, sr⟩ := hrel
    have bw : Below w.heap.size w wr := B1.out.trans ((kr.toBelow w1.heap.size (Nat.le_refl _) fun _ h => h).mono B1.out.size)
    by_cases hlt : k < l1.length
    · obtain ⟨ad, rfl, hlb, d0, d1⟩ := (AROF.out wr bw).at_ hlt
      have hsz := bw.size
      have T4 := T1.keeps kr (by omega)
      have MR := Lib.hid mr
      have RR := Lib.hid rr
      have KR := Lib.hid kr
      have UP := Lib.hid up
      have TR := Lib.hid T4
      clear mr rr kr up bw T4
      generalize l1[k] = a at *
      go_wp2_with fail
      have kA : Keeps (fun _ => False) wr (wr.alloc (.cells #[.int .i64 a.do_, .int .i64 a.n] 29)) := Keeps.alloc _ _ _
      have mA := MR.out.keep kA (fun _ _ _ h => h)
      have rA := RR.out.keep kA (fun _ _ _ h => h)
      have TA := TR.out.keeps kA (fun h => h)
      have KA : Keeps (fun i => w1.heap.size ≤ i) w1 (wr.alloc (.cells #[.int .i64 a.do_, .int .i64 a.n] 29)) := KR.out.trans (kA.mono fun _ _ h => h.elim)
      have sA := kA.size
      have hac := act_any mA rA (by omega) (by omega) (by omega) TA (by omega) a UP.out (by omega)
      have HAC := Lib.hid hac
      have KAH := Lib.hid KA
      clear hac mA rA TA KA kA MR RR KR TR d0 d1
      generalize wr.alloc (.cells #[.int .i64 a.do_, .int .i64 a.n] 29) = wA at *
      refine HAC.out.mono ?_
      rintro e w5 ⟨rfl, m5, r5, k5⟩
      have M5 := Lib.hid m5
      have R5 := Lib.hid r5
      have K5 := Lib.hid (KAH.out.trans (k5.mono fun _ _ h => h.1))
      have U5 := Lib.hid (UP.out.act a)
      have s5 := k5.size
      clear m5 r5 k5 HAC KAH UP
      go_wp2_with fail
      go_roundw
      case rel => exact ⟨k + 1, actC cs a, by omega, by go_num, U5.out, M5.out, R5.out, K5.out, by omega⟩
      case measure => simp [intOf]; omega
    · obtain rfl : k = l1.length := by omega
      have CP := Lib.hid (copy_s mr)
      have MR := Lib.hid mr
      have RR := Lib.hid rr
      have KR := Lib.hid kr
      have UP := Lib.hid up
      clear mr rr kr up bw
      go_wp2_with fail
      refine CP.out.mono ?_
      rintro e w6 ⟨c, rfl, m6, b6⟩
      have M6 := Lib.hid (MR.out.below b6)
      have R6 := Lib.hid (RR.out.below b6)
      have C6 := Lib.hid m6
      have K6 := Lib.hid (KR.out.trans ((keeps_below b6).mono fun _ _ h => h.elim))
      have AL := Lib.hid (alike_any m6 (RR.out.below b6))
      have s6 := b6.size
      clear CP MR RR KR m6 b6
      generalize wr.heap.size = z at *
      go_wp2_with fail
      refine AL.out.mono ?_
      rintro e w7 ⟨rfl, b7⟩
      have M7 := Lib.hid (M6.out.below b7)
      have R7 := Lib.hid (R6.out.below b7)
      have C7 := Lib.hid (C6.out.below b7)
      have K7 := Lib.hid (K6.out.trans ((keeps_below b7).mono fun _ _ h => h.elim))
      have s7 := b7.size
      clear M6 R6 C6 K6 AL b7
      go_wp2_with fail
      go_loopw [55] (fun i wr => ∃ (k : Nat) (ds : List Nat), k ≤ l2.length ∧ i = .int .i64 (k : Int) ∧ Upto (l1.length + k) ds ∧ MapS wr w1.heap.size w2.heap.size p cs ∧ RefS wr w2.heap.size w3.heap.size q cs ∧ MapS wr z w6.heap.size c ds ∧ Keeps (fun i => w1.heap.size ≤ i) w1 wr ∧ w7.heap.size ≤ wr.heap.size) (fun i _ => l2.length - (intOf i).toNat)
      case atStart => exact ⟨0, cs, by omega, rfl, UP.out, M7.out, R7.out, C7.out, K7.out, Nat.le_refl _⟩
      case round =>
        clear M7 R7 C7 K7 UP
        obtain ⟨k, ds, hk2, rfl, up, mr, rr, cr, kr, sr2⟩ := hrel
        have bw : Below w.heap.size w wr := B1.out.trans ((kr.toBelow w1.heap.size (Nat.le_refl _) fun _ h => h).mono B1.out.size)
        by_cases hlt : k < l2.length
        · obtain ⟨ad, rfl, hlb, d0, d1⟩ := (AROF2.out wr bw).at_ hlt
          have hsz := bw.size
          have T4 := T1.keeps kr (by omega)
          have MR := Lib.hid mr
          have RR := Lib.hid rr
          have CR := Lib.hid cr
          have KR := Lib.hid kr
          have UP := Lib.hid up
          have TR := Lib.hid T4
          clear mr rr cr kr up bw T4
          generalize l2[k] = a at *
          have kA : Keeps (fun _ => False) wr (wr.alloc (.cells #[.int .i64 a.do_, .int .i64 a.n] 29)) := Keeps.alloc _ _ _
          have mA := MR.out.keep kA (fun _ _ _ h => h)
          have rA := RR.out.keep kA (fun _ _ _ h => h)
          have cA := CR.out.keep kA (fun _ _ _ h => h)
          have TA := TR.out.keeps kA (fun h => h)
          have KA : Keeps (fun i => w1.heap.size ≤ i) w1 (wr.alloc (.cells #[.int .i64 a.do_, .int .i64 a.n] 29)) := KR.out.trans (kA.mono fun _ _ h => h.elim)
          have sA := kA.size
          have HH := Lib.hid (hold_s cA a.n UP.out (by omega))
          have HT := Lib.hid (take_s cA TA UP.out (by omega))
          have MA := Lib.hid mA
          have RA := Lib.hid rA
          have KAH := Lib.hid KA
          have UH := Lib.hid (UP.out.hold a.n)
          have UT := Lib.hid UP.out.take
          clear mA rA cA TA KA kA MR RR CR KR TR UP
          by_cases hd : a.do_ = 2
          · rw [hd] at d0 HH HT MA RA KAH sA
            go_wp2_with fail
            generalize wr.alloc (.cells #[.int .i64 2, .int .i64 a.n] 29) = wA at *
            refine HT.out.mono ?_
            rintro e w5 ⟨rfl, m5, k5⟩
            have M5 := Lib.hid (MA.out.keep k5 (fun i h1 h2 h3 => by omega))
            have R5 := Lib.hid (RA.out.keep k5 (fun i h1 h2 h3 => by omega))
            have C5 := Lib.hid m5
            have K5 := Lib.hid (KAH.out.trans (k5.mono (G := fun i => w1.heap.size ≤ i) fun _ _ h => by omega))
            have s5 := k5.size
            clear m5 k5 HH HT MA RA KAH UH d0 d1
            go_wp2_with fail
            go_roundw
            case rel => exact ⟨k + 1, takeC ds, by omega, by go_num, UT.out, M5.out, R5.out, C5.out, K5.out, by omega⟩
            case measure => simp [intOf]; omega
          · have hd2 : (a.do_ == 2) = false := by simpa using hd
            clear hd
            go_wp2_with fail
            generalize wr.alloc (.cells #[.int .i64 a.do_, .int .i64 a.n] 29) = wA at *
            refine HH.out.mono ?_
            rintro e w5 ⟨rfl, m5, k5⟩
            have M5 := Lib.hid (MA.out.keep k5 (fun i h1 h2 h3 => by omega))
            have R5 := Lib.hid (RA.out.keep k5 (fun i h1 h2 h3 => by omega))
            have C5 := Lib.hid m5
            have K5 := Lib.hid (KAH.out.trans (k5.mono (G := fun i => w1.heap.size ≤ i) fun _ _ h => by omega))
            have s5 := k5.size
            clear m5 k5 HH HT MA RA KAH UT d0 d1 hd2
            go_wp2_with fail
            go_roundw
            case rel => exact ⟨k + 1, holdC ds a.n, by omega, by go_num, UH.out, M5.out, R5.out, C5.out, K5.out, by omega⟩
            case measure => simp [intOf]; omega
        · obtain rfl : k = l2.length := by omega
          have AL := Lib.hid (alike_any mr rr)
          have BW := Lib.hid bw
          clear mr rr cr kr up bw
          go_wp2_with fail
          refine AL.out.mono ?_
          rintro e w8 ⟨rfl, b8⟩
          have B8 := Lib.hid (BW.out.trans (b8.mono BW.out.size))
          clear b8
          go_wp2_with fail
          go_ret
          exact ⟨rfl, B8.out⟩

theorem gTab : Tryd.prog.globalNamed "math/bits.deBruijn64tab" = some 0 := by kernel_rfl
theorem gTabType : (Tryd.prog.globals[0]?).map (·.type) = some 60 := by kernel_rfl
theorem cellsT : Tryd.prog.cellsOf 60 = 64 := by kernel_rfl
theorem cellsE : Tryd.prog.cellsOf 5 = 1 := by kernel_rfl
/-- What the row's list gives: the table. -/
theorem table {W : World} (h : laidMetH Tryd.prog Rows.spaceCopiesRow.laid W) : Tab W := by
  have ht : Lib.TabIs Tryd.prog W "math/bits.deBruijn64tab" .u8 (Lib.deBruijn64tab.map fun (x : Nat) => (x : Int)) :=
    Lib.tabIs_of_head (rest := []) gTab gTabType Tryd.underlying60 Tryd.underlying5 cellsE cellsT h
  intro j hj
  have := ht.cell gTab j (by simpa using hj)
  rw [this]
  simp [List.getD_eq_getElem?_getD, List.getElem?_map, List.getElem?_eq_getElem hj]

set_option maxRecDepth 100000 in
theorem contract (H : Type) (enc : TypeId × Value → H) (W : World) (base : Nat) (args : Array Value) (ds gs : List (DataW H)) (before : List MemPlace)
    (hval : ∀ (j : Nat) t v, Tryd.f5.params[j]? = some t → args[j]? = some v → Value.okWide Tryd.prog W .any base t v)
    (hW : DataW.Whole enc Tryd.prog Tryd.f5.params.toList Rows.spaceCopiesSpec.vars false W args.toList ds gs before)
    (hsz : (DataW.weightsEach Tryd.prog (Tryd.f5.params.toList ++ Rows.spaceCopiesSpec.plain.varTypes Tryd.prog) (ds ++ gs)).all (· ≤ reachBytes) = true)
    (hL : laidMetH Tryd.prog Rows.spaceCopiesRow.laid W) :
    Calls Tryd.prog 5 args W fun e W' => ∃ v, e = .returned v ∧ Rows.spaceCopiesSpec.post enc Tryd.prog Tryd.f5 false true false false W args v W' := by
  have hT := table hL
  have hW' := hW
  obtain ⟨p, q, hA0, hV, rfl, _, _⟩ := hW
  have hA : DataW.TrodAll enc Tryd.prog W 0 (fun _ => true) true Tryd.f5.params.toList args.toList ds p := hA0
  rw [Tryd.params5] at hA hval hsz
  obtain ⟨v0, vs0, d0, ds0, p0, q0, hargs, rfl, rfl, h0, r0⟩ := trodAll_cons hA
  obtain ⟨v1, vs1, d1, ds1, p1, q1, rfl, rfl, rfl, h1, r1⟩ := trodAll_cons r0
  obtain ⟨v2, vs2, d2, ds2, p2, q2, rfl, rfl, rfl, h2, r2⟩ := trodAll_cons r1
  obtain ⟨rfl, rfl, rfl⟩ := trodAll_nil r2
  obtain rfl : args = #[v0, v1, v2] := by cases args; simp_all
  obtain ⟨rfl, rfl⟩ := trodVars_none hV
  obtain ⟨a0, rfl, rfl, rfl, w0⟩ := open_int Tryd.underlying3 (hval 0 3 v0 rfl rfl) h0
  obtain ⟨A1, len1, c1, rfl⟩ := okWide_slice Tryd.underlying22 (hval 1 22 v1 rfl rfl)
  have k1 := h1
  have lt1 : ∀ x ∈ p1, x.block < W.heap.size := by obtain ⟨m, hm⟩ := k1; exact DataW.trod_lt m _ _ _ hm
  obtain ⟨l1, rfl, o1, s1⟩ := acts_in h1
  have m1 := s1 _ _ 1 hsz rfl rfl
  obtain ⟨A2, len2, c2, rfl⟩ := okWide_slice Tryd.underlying22 (hval 2 22 v2 rfl rfl)
  have k2 := h2
  have lt2 : ∀ x ∈ p2, x.block < W.heap.size := by obtain ⟨m, hm⟩ := k2; exact DataW.trod_lt m _ _ _ hm
  obtain ⟨l2, rfl, o2, s2⟩ := acts_in h2
  have m2 := s2 _ _ 2 hsz rfl rfl
  clear hA0
  refine (walk a0 A1 l1 c1 A2 l2 c2 W w0 o1 m1 o2 m2 hT).mono fun e W' ⟨he, bel⟩ => ?_
  subst he
  exact ⟨_, rfl, _, _, _, [], _, [], hW', trodAll_mk1 (shut_bool Tryd.underlying4 _), (trodAll_cons_mk (shut_int Tryd.underlying3 w0) (trodAll_cons_mk (Below.trod laidOut (by kernel_rfl) (of_decide_eq_true (by kernel_rfl)) k1 bel lt1) (trodAll_cons_mk (Below.trod laidOut (by kernel_rfl) (of_decide_eq_true (by kernel_rfl)) k2 bel lt2) trodAll_mk0))), rfl, bel.frame _, fun h => by cases h⟩

/-- A world for the witness: the settled one, the table (block 0) holding what its initialiser lays. -/
noncomputable def laidWorld (os : Os) : World :=
  { World.holding Tryd.prog os ⟨#[], #[], []⟩ with heap := (World.holding Tryd.prog os ⟨#[], #[], []⟩).heap.modify 0 fun
      | .cells _ t frozen => .cells (Lib.deBruijn64tab.map fun (x : Nat) => Value.int .u8 (x : Int)).toArray t frozen
      | o => o }
theorem laid_met (os : Os) : laidMet Tryd.prog Rows.spaceCopiesRow.laid ((laidWorld os).forCall (fun _ _ => 0) ⟨#[], #[.int .i64 0, .slice none 0 0, .slice none 0 0], []⟩).memory :=
  laidMet_of_run' 8 (by kernel_rfl) (by kernel_rfl)
theorem reads (os : Os) {H : Type} (enc : TypeId × Value → H) : ∃ places, DataW.whole enc Tryd.prog ((laidWorld os).forCall (fun _ _ => 0) ⟨#[], #[.int .i64 0, .slice none 0 0, .slice none 0 0], []⟩).memory Tryd.f5.params.toList Rows.spaceCopiesSpec.vars false (#[.int .i64 0, .slice none 0 0, .slice none 0 0] : Array Value).toList 8 = some ([.lit (.int .i64 0), .nil, .nil], [], places) :=
  ⟨[], by kernel_rfl⟩
set_option maxRecDepth 100000 in
theorem lifted (os : Os) (started : os.Started) (H : Type) (enc : TypeId × Value → H) (F : Stop.Interp) :
    ReturnsInHanded {} Tryd.checked os 5 .any ((OpenSpec.ofChange Rows.spaceCopiesSpec).preRow enc Tryd.prog Tryd.f5 Rows.spaceCopiesRow.domain false Rows.spaceCopiesRow.laid) (((OpenSpec.ofChange Rows.spaceCopiesSpec).at F).post enc Tryd.prog Tryd.f5 false true false false) := by
  obtain ⟨places, hx⟩ := reads os enc
  refine returnsInHanded_of_row (C := Tryd.checked) (s := OpenSpec.ofChange Rows.spaceCopiesSpec) own started (by kernel_rfl) Tryd.func5
    (witness_row_at (enc := enc) (C := Tryd.checked) false (laidWorld os) #[.int .i64 0, .slice none 0 0, .slice none 0 0] rfl (by kernel_rfl) (by kernel_rfl) (by kernel_rfl)
      (OpenSpec.preRow_of_cond 8 hx (by kernel_rfl) (fun k hk => by cases hk) (by kernel_rfl) (laid_met os))) ?_
  intro W base args ds gs before hval hW _ _ hsz hL _ _
  exact contract H enc W base args ds gs before hval hW hsz hL

theorem said : Rows.SpaceCopiesSaid :=
  OpenClaim.holds_of_cond 5 Tryd.f5 rfl rfl rfl rfl rfl rfl rfl ⟨rfl, rfl, rfl, rfl, rfl⟩ rfl rfl rfl rfl rfl (by kernel_rfl) Tryd.func5 (by kernel_rfl)
    (of_decide_eq_true (by kernel_rfl)) (by unfold Func.isWrapper; first | (rw [if_pos (by decide +kernel)]; kernel_rfl) | (rw [if_neg (by decide +kernel)]; exact ⟨rfl, rfl⟩))
    (fun os started H enc _ F => by rw [OpenClaim.pre_eq_preRow]; exact lifted os started H enc F)
theorem plain (f : FuncId) (fn : Func) (hf : Tryd.pinned.checked.prog.funcNamed "carrel/carrellaw05.SpaceCopies" = some f) (hfn : Tryd.pinned.checked.prog.funcs[f]? = some fn) :
    false = Tryd.pinned.checked.prog.looks [] ∧ ∀ (j : Nat) t, fn.params[j]? = some t → Tryd.pinned.checked.prog.wantsStandIn t = false := by
  obtain rfl : f = 5 := Option.some.inj ((show Tryd.prog.funcNamed "carrel/carrellaw05.SpaceCopies" = some 5 by kernel_rfl).symm.trans hf) |>.symm
  obtain rfl : fn = Tryd.f5 := (Option.some.inj (Tryd.func5.symm.trans hfn)).symm
  refine ⟨by kernel_rfl, fun j t ht => ?_⟩
  rw [Tryd.params5] at ht
  have h : t = 3 ∨ t = 22 := by simpa using Array.mem_of_getElem? ht
  rcases h with rfl | rfl <;> (show Tryd.prog.wantsStandIn _ = false; kernel_rfl)
theorem proved : Rows.SpaceCopiesCardSaid :=
  Claim7.holds_tied_plain_at .later [] _ _ _ _ said (fun _ h => by cases h) (by kernel_rfl) (fun _ h => by cases h) spaceCopies_row_tie rfl ⟨rfl, rfl⟩ (by kernel_rfl) rfl plain (by kernel_rfl)
#print axioms proved
end Go.Proofs.YtajagjhhpciocaaDoor.spaceCopies
