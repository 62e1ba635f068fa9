/-
  Whatever is held, dropped and taken, in any order, on a map of any size: each call answers as the document says, and at the end the map stands as the document's.
  Conditions: none of our own; what the row itself says of its inputs (they can be read as data, each slice within the form's own reach), and that the table behind bits.TrailingZeros64 holds what the library's text lays there, which the card ties.
-/
import Derived.Test.YtajagjhhpciocaaDoorCards
import Derived.Test.YtajagjhhpciocaaDoorTie
import Derived.WalkKit
import Derived.ProofKit
import Derived.OpenShut
import Derived.Deep.DeepHandedRow
import Derived.Lib.LaidTab
import Derived.ChangeOld
import Derived.Below
import Derived.Deep.QuietTactic
import Derived.BigQuiet
import Derived.WalkSmall
import Derived.Test.YtajagjhhpciocaaDoorSpActIn
namespace Go.Proofs.YtajagjhhpciocaaDoor.spaceActs
open Go.ChangeShapes Go.WideShapes Go.ChangeAt Go.RowKit Sp
set_option linter.unusedVariables false

theorem own : ownKnob Tryd.prog.godebug = none := by kernel_rfl
theorem laidOut : laidOutB Tryd.prog = true := by kernel_rfl

theorem upto_zero (n : Nat) : Upto 0 (List.replicate n 0) := fun c hc => by
  rw [List.mem_replicate] at hc
  omega

set_option maxHeartbeats 1000000 in
theorem walk (a0 : Int) (A1 : Option Addr) (l1 : List ActV) (c1 : Nat) (w : World) (w0 : (Lit.int .i64 a0).wf = true) (o1 : AR w w.heap.size A1 l1) (m1 : l1.length ≤ 8796093021952) (hT : Tab w) :
    Calls Tryd.prog 3 #[.int .i64 a0, .slice A1 l1.length c1] w fun e w' => e = .returned (.bool true) ∧ Below w.heap.size w w' := by
  have hn64 := i64_of_wf w0
  have AROF : Hid (∀ W, Below w.heap.size w W → AR W w.heap.size A1 l1) := fun W hb => o1.below hb
  by_cases h1 : 300 < a0 ∧ a0 ≤ 5000
  · obtain ⟨h1, h2⟩ := h1
    go_enter Tryd.func3, Tryd.ntmps3
    go_wp2_with fail
    refine (awake_any _ hT).mono ?_
    rintro e w1 ⟨rfl, b1⟩
    go_wp2_with fail
    go_ret
    exact ⟨rfl, b1⟩
  by_cases h3 : 200 < l1.length
  · have h4 : (300 < a0 ∧ 5000 < a0) ∨ a0 ≤ 300 := by omega
    clear h1
    rcases h4 with ⟨h1, h2⟩ | h1
    all_goals
      go_enter Tryd.func3, Tryd.ntmps3
      go_wp2_with fail
      refine (awake_any _ hT).mono ?_
      rintro e w1 ⟨rfl, b1⟩
      go_wp2_with fail
      go_ret
      exact ⟨rfl, b1⟩
  have h4 : (300 < a0 ∧ 5000 < a0) ∨ a0 ≤ 300 := by omega
  have h5 : l1.length ≤ 200 := by omega
  clear h1 h3
  rcases h4 with ⟨h1, h2⟩ | h1
  all_goals
    go_enter Tryd.func3, Tryd.ntmps3
    go_wp2_with fail
    refine (awake_any _ hT).mono ?_
    rintro e w1 ⟨rfl, b1⟩
    have T1 := hT.below b1 hT.pos
    have hp1 := T1.pos
    go_wp2_with fail
    refine (new_any a0 w1).mono ?_
    rintro e w2 ⟨p, rfl, m2, b2⟩
    have M2 := Lib.hid m2
    clear m2
    go_wp2_with fail
    refine (rnew_any a0 w2).mono ?_
    rintro e w3 ⟨q, rfl, r3, b3⟩
    have M3 := Lib.hid (M2.out.below b3)
    have R3 := Lib.hid r3
    have K3 := Lib.hid (((keeps_below b2).trans (keeps_below b3)).mono (G := fun i => w1.heap.size ≤ i) fun _ _ h => h.elim)
    have s1 := b2.size
    have s2 := b3.size
    have B1 := Lib.hid b1
    clear r3 M2 b1 b2 b3
    generalize nS a0 = n at *
    go_wp2_with fail
    go_loopw [30] (fun i wr => ∃ (k : Nat) (cs : List Nat), k ≤ l1.length ∧ i = .int .i64 (k : Int) ∧ Upto k cs ∧ MapS wr w1.heap.size w2.heap.size p cs ∧ RefS wr w2.heap.size w3.heap.size q cs ∧ Keeps (fun i => w1.heap.size ≤ i) w1 wr ∧ w3.heap.size ≤ wr.heap.size) (fun i _ => l1.length - (intOf i).toNat)
    case atStart => exact ⟨0, List.replicate n 0, by omega, rfl, upto_zero n, M3.out, R3.out, K3.out, Nat.le_refl _⟩
    case round =>
      clear M3 R3 K3
      obtain ⟨k, cs, hk, rfl, up, mr, rr, kr, sr⟩ := hrel
      have bw : Below w.heap.size w wr := B1.out.trans ((kr.toBelow w1.heap.size (Nat.le_refl _) fun _ h => h).mono B1.out.size)
      by_cases hlt : k < l1.length
      · obtain ⟨ad, rfl, hlb, d0, d1⟩ := (AROF.out wr bw).at_ hlt
        have hsz := bw.size
        have T4 := T1.keeps kr (by omega)
        have MR := Lib.hid mr
        have RR := Lib.hid rr
        have KR := Lib.hid kr
        have UP := Lib.hid up
        have TR := Lib.hid T4
        clear mr rr kr up bw T4
        generalize l1[k] = a at *
        go_wp2_with fail
        have kA : Keeps (fun _ => False) wr (wr.alloc (.cells #[.int .i64 a.do_, .int .i64 a.n] 29)) := Keeps.alloc _ _ _
        have mA := MR.out.keep kA (fun _ _ _ h => h)
        have rA := RR.out.keep kA (fun _ _ _ h => h)
        have TA := TR.out.keeps kA (fun h => h)
        have KA : Keeps (fun i => w1.heap.size ≤ i) w1 (wr.alloc (.cells #[.int .i64 a.do_, .int .i64 a.n] 29)) := KR.out.trans (kA.mono fun _ _ h => h.elim)
        have sA := kA.size
        have hac := act_any mA rA (by omega) (by omega) (by omega) TA (by omega) a UP.out (by omega)
        have HAC := Lib.hid hac
        have KAH := Lib.hid KA
        clear hac mA rA TA KA kA MR RR KR TR d0 d1
        generalize wr.alloc (.cells #[.int .i64 a.do_, .int .i64 a.n] 29) = wA at *
        refine HAC.out.mono ?_
        rintro e w5 ⟨rfl, m5, r5, k5⟩
        have M5 := Lib.hid m5
        have R5 := Lib.hid r5
        have K5 := Lib.hid (KAH.out.trans (k5.mono fun _ _ h => h.1))
        have U5 := Lib.hid (UP.out.act a)
        have s5 := k5.size
        clear m5 r5 k5 HAC KAH UP
        go_wp2_with fail
        go_roundw
        case rel => exact ⟨k + 1, actC cs a, by omega, by go_num, U5.out, M5.out, R5.out, K5.out, by omega⟩
        case measure => simp [intOf]; omega
      · obtain rfl : k = l1.length := by omega
        have AL := Lib.hid (alike_any mr rr)
        have BW := Lib.hid bw
        clear mr rr kr up bw
        go_wp2_with fail
        refine AL.out.mono ?_
        rintro e w5 ⟨rfl, b5⟩
        have B5 := Lib.hid (BW.out.trans (b5.mono BW.out.size))
        clear b5
        go_wp2_with fail
        go_ret
        exact ⟨rfl, B5.out⟩

theorem gTab : Tryd.prog.globalNamed "math/bits.deBruijn64tab" = some 0 := by kernel_rfl
theorem gTabType : (Tryd.prog.globals[0]?).map (·.type) = some 60 := by kernel_rfl
theorem cellsT : Tryd.prog.cellsOf 60 = 64 := by kernel_rfl
theorem cellsE : Tryd.prog.cellsOf 5 = 1 := by kernel_rfl
/-- What the row's list gives: the table. -/
theorem table {W : World} (h : laidMetH Tryd.prog Rows.spaceActsRow.laid W) : Tab W := by
  have ht : Lib.TabIs Tryd.prog W "math/bits.deBruijn64tab" .u8 (Lib.deBruijn64tab.map fun (x : Nat) => (x : Int)) :=
    Lib.tabIs_of_head (rest := []) gTab gTabType Tryd.underlying60 Tryd.underlying5 cellsE cellsT h
  intro j hj
  have := ht.cell gTab j (by simpa using hj)
  rw [this]
  simp [List.getD_eq_getElem?_getD, List.getElem?_map, List.getElem?_eq_getElem hj]

set_option maxRecDepth 100000 in
theorem contract (H : Type) (enc : TypeId × Value → H) (W : World) (base : Nat) (args : Array Value) (ds gs : List (DataW H)) (before : List MemPlace)
    (hval : ∀ (j : Nat) t v, Tryd.f3.params[j]? = some t → args[j]? = some v → Value.okWide Tryd.prog W .any base t v)
    (hW : DataW.Whole enc Tryd.prog Tryd.f3.params.toList Rows.spaceActsSpec.vars false W args.toList ds gs before)
    (hsz : (DataW.weightsEach Tryd.prog (Tryd.f3.params.toList ++ Rows.spaceActsSpec.plain.varTypes Tryd.prog) (ds ++ gs)).all (· ≤ reachBytes) = true)
    (hL : laidMetH Tryd.prog Rows.spaceActsRow.laid W) :
    Calls Tryd.prog 3 args W fun e W' => ∃ v, e = .returned v ∧ Rows.spaceActsSpec.post enc Tryd.prog Tryd.f3 false true false false W args v W' := by
  have hT := table hL
  have hW' := hW
  obtain ⟨p, q, hA0, hV, rfl, _, _⟩ := hW
  have hA : DataW.TrodAll enc Tryd.prog W 0 (fun _ => true) true Tryd.f3.params.toList args.toList ds p := hA0
  rw [Tryd.params3] at hA hval hsz
  obtain ⟨v0, vs0, d0, ds0, p0, q0, hargs, rfl, rfl, h0, r0⟩ := trodAll_cons hA
  obtain ⟨v1, vs1, d1, ds1, p1, q1, rfl, rfl, rfl, h1, r1⟩ := trodAll_cons r0
  obtain ⟨rfl, rfl, rfl⟩ := trodAll_nil r1
  obtain rfl : args = #[v0, v1] := by cases args; simp_all
  obtain ⟨rfl, rfl⟩ := trodVars_none hV
  obtain ⟨a0, rfl, rfl, rfl, w0⟩ := open_int Tryd.underlying3 (hval 0 3 v0 rfl rfl) h0
  obtain ⟨A1, len1, c1, rfl⟩ := okWide_slice Tryd.underlying22 (hval 1 22 v1 rfl rfl)
  have k1 := h1
  have lt1 : ∀ x ∈ p1, x.block < W.heap.size := by obtain ⟨m, hm⟩ := k1; exact DataW.trod_lt m _ _ _ hm
  obtain ⟨l1, rfl, o1, s1⟩ := acts_in h1
  have m1 := s1 _ _ 1 hsz rfl rfl
  clear hA0
  refine (walk a0 A1 l1 c1 W w0 o1 m1 hT).mono fun e W' ⟨he, bel⟩ => ?_
  subst he
  exact ⟨_, rfl, _, _, _, [], _, [], hW', trodAll_mk1 (shut_bool Tryd.underlying4 _), (trodAll_cons_mk (shut_int Tryd.underlying3 w0) (trodAll_cons_mk (Below.trod laidOut (by kernel_rfl) (of_decide_eq_true (by kernel_rfl)) k1 bel lt1) trodAll_mk0)), rfl, bel.frame _, fun h => by cases h⟩

/-- A world for the witness: the settled one, the table (block 0) holding what its initialiser lays. -/
noncomputable def laidWorld (os : Os) : World :=
  { World.holding Tryd.prog os ⟨#[], #[], []⟩ with heap := (World.holding Tryd.prog os ⟨#[], #[], []⟩).heap.modify 0 fun
      | .cells _ t frozen => .cells (Lib.deBruijn64tab.map fun (x : Nat) => Value.int .u8 (x : Int)).toArray t frozen
      | o => o }
theorem laid_met (os : Os) : laidMet Tryd.prog Rows.spaceActsRow.laid ((laidWorld os).forCall (fun _ _ => 0) ⟨#[], #[.int .i64 0, .slice none 0 0], []⟩).memory :=
  laidMet_of_run' 8 (by kernel_rfl) (by kernel_rfl)
theorem reads (os : Os) {H : Type} (enc : TypeId × Value → H) : ∃ places, DataW.whole enc Tryd.prog ((laidWorld os).forCall (fun _ _ => 0) ⟨#[], #[.int .i64 0, .slice none 0 0], []⟩).memory Tryd.f3.params.toList Rows.spaceActsSpec.vars false (#[.int .i64 0, .slice none 0 0] : Array Value).toList 8 = some ([.lit (.int .i64 0), .nil], [], places) :=
  ⟨[], by kernel_rfl⟩
set_option maxRecDepth 100000 in
theorem lifted (os : Os) (started : os.Started) (H : Type) (enc : TypeId × Value → H) (F : Stop.Interp) :
    ReturnsInHanded {} Tryd.checked os 3 .any ((OpenSpec.ofChange Rows.spaceActsSpec).preRow enc Tryd.prog Tryd.f3 Rows.spaceActsRow.domain false Rows.spaceActsRow.laid) (((OpenSpec.ofChange Rows.spaceActsSpec).at F).post enc Tryd.prog Tryd.f3 false true false false) := by
  obtain ⟨places, hx⟩ := reads os enc
  refine returnsInHanded_of_row (C := Tryd.checked) (s := OpenSpec.ofChange Rows.spaceActsSpec) own started (by kernel_rfl) Tryd.func3
    (witness_row_at (enc := enc) (C := Tryd.checked) false (laidWorld os) #[.int .i64 0, .slice none 0 0] rfl (by kernel_rfl) (by kernel_rfl) (by kernel_rfl)
      (OpenSpec.preRow_of_cond 8 hx (by kernel_rfl) (fun k hk => by cases hk) (by kernel_rfl) (laid_met os))) ?_
  intro W base args ds gs before hval hW _ _ hsz hL _ _
  exact contract H enc W base args ds gs before hval hW hsz hL

theorem said : Rows.SpaceActsSaid :=
  OpenClaim.holds_of_cond 3 Tryd.f3 rfl rfl rfl rfl rfl rfl rfl ⟨rfl, rfl, rfl, rfl, rfl⟩ rfl rfl rfl rfl rfl (by kernel_rfl) Tryd.func3 (by kernel_rfl)
    (of_decide_eq_true (by kernel_rfl)) (by unfold Func.isWrapper; first | (rw [if_pos (by decide +kernel)]; kernel_rfl) | (rw [if_neg (by decide +kernel)]; exact ⟨rfl, rfl⟩))
    (fun os started H enc _ F => by rw [OpenClaim.pre_eq_preRow]; exact lifted os started H enc F)
theorem plain (f : FuncId) (fn : Func) (hf : Tryd.pinned.checked.prog.funcNamed "carrel/carrellaw05.SpaceActs" = some f) (hfn : Tryd.pinned.checked.prog.funcs[f]? = some fn) :
    false = Tryd.pinned.checked.prog.looks [] ∧ ∀ (j : Nat) t, fn.params[j]? = some t → Tryd.pinned.checked.prog.wantsStandIn t = false := by
  obtain rfl : f = 3 := Option.some.inj ((show Tryd.prog.funcNamed "carrel/carrellaw05.SpaceActs" = some 3 by kernel_rfl).symm.trans hf) |>.symm
  obtain rfl : fn = Tryd.f3 := (Option.some.inj (Tryd.func3.symm.trans hfn)).symm
  refine ⟨by kernel_rfl, fun j t ht => ?_⟩
  rw [Tryd.params3] at ht
  have h : t = 3 ∨ t = 22 := by simpa using Array.mem_of_getElem? ht
  rcases h with rfl | rfl <;> (show Tryd.prog.wantsStandIn _ = false; kernel_rfl)
theorem proved : Rows.SpaceActsCardSaid :=
  Claim7.holds_tied_plain_at .later [] _ _ _ _ said (fun _ h => by cases h) (by kernel_rfl) (fun _ h => by cases h) spaceActs_row_tie rfl ⟨rfl, rfl⟩ (by kernel_rfl) rfl plain (by kernel_rfl)
#print axioms proved
end Go.Proofs.YtajagjhhpciocaaDoor.spaceActs
