/-
  For every number of sectors and every list of calls the code's disk answers and stands as the document's does, call by call: the law DiskActs returns true, and changes no argument.
  Conditions: none of our own; what the row itself says of its inputs (they can be read as data, each slice within the form's own reach).
-/
import Derived.Test.YthbdhmjmboliiaaFrame
import Derived.ChangeOld
import Derived.Below
import Derived.Deep.QuietTactic
import Derived.BigQuiet
import Derived.WalkSmall
import Derived.Test.YthbdhmjmboliiaaAwake2
import Derived.Test.YthbdhmjmboliiaaActsIn
import Derived.Test.YthbdhmjmboliiaaAlike
import Derived.Test.YthbdhmjmboliiaaTwoNew
import Derived.Test.YthbdhmjmboliiaaFew
import Derived.Test.YthbdhmjmboliiaaTri
namespace Go.Proofs.Ythbdhmjmboliiaa.diskActs
open Go.ChangeShapes Go.WideShapes Go.ChangeAt Go.RowKit
set_option linter.unusedVariables false

theorem own : ownKnob Try.prog.godebug = none := by kernel_rfl
theorem laidOut : laidOutB Try.prog = true := by kernel_rfl

theorem spent_len (D : DSt) : D.spent.Q = D.Q ∧ D.spent.acts ≤ D.acts + 1 := by
  unfold DSt.spent
  split
  · exact ⟨rfl, Nat.le_succ _⟩
  · exact ⟨rfl, Nat.le_refl _⟩
/-- A call lets at most one write wait more, and is one act at most. -/
theorem actOn_len (D : DSt) (a : ActV) : (D.actOn a).Q.length ≤ D.Q.length + 1 ∧ (D.actOn a).acts ≤ D.acts + 1 := by
  have hs := spent_len D
  unfold DSt.actOn
  split
  · have := write_len D a.n a.xs
    exact ⟨this.1, this.2.1⟩
  · split
    · unfold DSt.flush
      split
      · exact ⟨by omega, by omega⟩
      · split
        · exact ⟨by rw [hs.1]; omega, hs.2⟩
        · exact ⟨Nat.zero_le _, hs.2⟩
    · split
      · exact ⟨Nat.le_succ _, Nat.le_succ _⟩
      · split
        · exact ⟨Nat.zero_le _, Nat.le_succ _⟩
        · exact ⟨Nat.le_succ _, Nat.le_succ _⟩

set_option maxHeartbeats 1000000 in
theorem walk (a0 : Int) (A1 : Option Addr) (l1 : List ActV) (c1 : Nat) (w : World) (w0 : (Lit.int .i64 a0).wf = true) (o1 : ActsOk w A1 l1) (m1 : l1.length ≤ 1954687338211) :
    Calls Try.prog 3 #[.int .i64 a0, .slice A1 l1.length c1] w fun e w' => e = .returned (.bool true) ∧ Below w.heap.size w w' := by
  have hn64 := i64_of_wf w0
  have AROF : Hid (∀ W, Below w.heap.size w W → AR W W.heap.size A1 l1) := fun W hb hn => by
    obtain ⟨ad, e, hlt, hc⟩ := (o1.ar.below hb) hn
    exact ⟨ad, e, Nat.lt_of_lt_of_le hlt hb.size, hc⟩
  by_cases h1 : 60 < a0
  · by_cases h2 : a0 < 2000
    · go_enter Try.func3, Try.ntmps3
      go_wp2_with fail
      refine (awake_any _).mono ?_
      rintro e w1 ⟨rfl, hb1⟩
      go_wp2_with fail
      go_ret
      exact ⟨rfl, hb1⟩
    · have h3 : 2000 ≤ a0 := by omega
      go_enter Try.func3, Try.ntmps3
      go_wp2_with fail
      refine (awake_any _).mono ?_
      rintro e w1 ⟨rfl, hb1⟩
      go_wp2_with fail
      refine (few_any A1 l1 c1 w1 (AROF.out w1 hb1) m1).mono ?_
      rintro e w2 ⟨⟨b, rfl⟩, hb2⟩
      have bw2 := hb1.trans (hb2.mono hb1.size)
      cases b
      · go_wp2_with fail
        go_ret
        exact ⟨rfl, bw2⟩
      · go_wp2_with fail
        refine (new_any a0 w2).mono ?_
        rintro e w3 ⟨p, rfl, ⟨lb, mb, n, iv, hd, _⟩, k3⟩
        have hN : n = 2000 := by
          have h := hd.ok.len
          have e : nOf a0 = 2000 := by unfold nOf; omega
          rw [e] at h
          have h' : (List.replicate (2000 * 64) (0 : UInt8)).length = 64 * n := h
          rw [List.length_replicate] at h'
          omega
        subst hN
        have LN := Lib.hid (len_at hd)
        have BF := Lib.hid (bw2.trans ((k3.toBelow w2.heap.size (Nat.le_refl _) fun _ h => h.elim).mono bw2.size))
        clear hd k3 bw2 hb1 hb2
        go_wp2_with fail
        refine LN.out.mono ?_
        rintro e w4 ⟨rfl, rfl⟩
        go_wp2_with fail
        go_ret
        exact ⟨rfl, BF.out⟩
  · have h2 : a0 < 2000 := by omega
    have h3 : ¬ 2000 ≤ a0 := by omega
    go_enter Try.func3, Try.ntmps3
    go_wp2_with fail
    refine (awake_any _).mono ?_
    rintro e w1 ⟨rfl, hb1⟩
    go_wp2_with fail
    refine (few_any A1 l1 c1 w1 (AROF.out w1 hb1) m1).mono ?_
    rintro e w2 ⟨⟨b, rfl⟩, hb2⟩
    have bw2 := hb1.trans (hb2.mono hb1.size)
    clear hb1 hb2
    cases b
    · go_wp2_with fail
      go_ret
      exact ⟨rfl, bw2⟩
    · go_wp2_with fail
      refine (new_any a0 w2).mono ?_
      rintro e w3 ⟨p, rfl, hd3, k3⟩
      go_wp2_with fail
      refine (refNew_any a0 w3).mono ?_
      rintro e w4 ⟨q, v, G, rfl, hn⟩
      have hr := hn.rd (D := fresh (nOf a0)) (fresh_ok _ (by unfold nOf; omega)) rfl rfl rfl rfl fun i hi => sec_fresh _ i hi
      obtain ⟨two4, k4⟩ := two_new hd3 k3 hn hr
      have bB : Below w2.heap.size w2 w4 := k4.toBelow _ (Nat.le_refl _) fun _ h => h.elim
      have HX : Hid (∀ (W : World) (k : Nat), (fun _ => False) k → k < W.heap.size) := fun _ _ h => h.elim
      clear hd3 k3 hn hr k4
      go_wp2_with fail
      go_loopw [42] (fun i wr => ∃ (k : Nat) (D : DSt), k ≤ l1.length ∧ i = .int .i64 k ∧ D.Q.length ≤ k ∧ D.acts ≤ k ∧ Two wr w2.heap.size (fun _ => False) p q D D ∧ Below w2.heap.size w2 wr) (fun i _ => l1.length - (intOf i).toNat)
      case atStart => exact ⟨0, fresh (nOf a0), by omega, rfl, Nat.le_refl 0, Nat.le_refl 0, two4, bB⟩
      case round =>
        clear two4 bB
        obtain ⟨k, D, hk, rfl, hQ, ha, two, bB⟩ := hrel
        have bw := bw2.trans (bB.mono bw2.size)
        by_cases hlt : k < l1.length
        · obtain ⟨ad, rfl, hlb, d0, d1, d2, d3, d4, d5, d6⟩ := (AROF.out wr bw).at_ hlt
          have hok := o1.ok l1[k] (List.getElem_mem hlt)
          generalize l1[k] = a at *
          have hwB : w2.heap.size ≤ wr.heap.size := bB.size
          clear bw
          go_wp2_with fail
          have bA : Below wr.heap.size wr (wr.alloc (.cells #[.int .i64 a.do_, .int .i64 a.n, .slice a.A a.xs.length a.c, .int .u64 a.f.stay, .int .i64 a.f.torn, .int .i64 a.f.cut, .bool a.f.head] 35)) := (Below.refl _ _).alloc (Nat.le_refl _) _
          have twoA := two.mark bA (fun _ => False) (fun k e => e.elim)
          have bBA := bB.trans (bA.mono bB.size)
          generalize wr.alloc (.cells #[.int .i64 a.do_, .int .i64 a.n, .slice a.A a.xs.length a.c, .int .u64 a.f.stay, .int .i64 a.f.torn, .int .i64 a.f.cut, .bool a.f.head] 35) = wA at *
          clear two bA bB d0 d1 d2 d3 d4 d5 d6 hlb
          have hbr2 : BR w2 w2.heap.size a.A a.xs := (hok.br.below bw2).more bw2.size
          have hlen := actOn_len D a
          refine (act_any twoA bBA.size (HX.out _) a (hbr2.below bBA) hok.fate hok.n1 (by omega) (by omega)).mono ?_
          rintro e w5 ⟨rfl, two5, b5, _⟩
          generalize D.actOn a = E at *
          have bB5 := bBA.trans b5
          obtain ⟨F5, hp5, _⟩ := two5.left bB5.size (HX.out _)
          obtain ⟨G5, hq5, _⟩ := two5.right bB5.size (HX.out _)
          have AL := Lib.hid (alike_any hp5 hq5 (by omega))
          have T5 := Lib.hid two5
          clear hp5 hq5 two5 b5 bBA twoA hbr2 hok
          go_wp2_with fail
          refine AL.out.mono ?_
          rintro e w6 ⟨rfl, k6⟩
          have two6 := T5.out.mark (k6.toBelow _ (Nat.le_refl _) fun _ h => h.elim) (fun _ => False) fun _ h => h.elim
          have bB6 := bB5.trans ((k6.toBelow w5.heap.size (Nat.le_refl _) fun _ h => h.elim).mono bB5.size)
          have T6 := Lib.hid two6
          have B6 := Lib.hid bB6
          clear two6 bB6 T5 AL k6 bB5
          go_wp2_with fail
          go_roundw
          case rel => exact ⟨k + 1, E, by omega, by go_num, by omega, by omega, T6.out, B6.out⟩
          case measure => simp [intOf]; omega
        · obtain rfl : k = l1.length := by omega
          have BF := Lib.hid bw
          clear two bB bw bw2
          go_wp2_with fail
          go_ret
          exact ⟨rfl, BF.out⟩

set_option maxRecDepth 100000 in
theorem lifted (os : Os) (started : os.Started) (H : Type) (enc : TypeId × Value → H) :
    ReturnsInHanded {} Try.checked os 3 .any (Rows.diskActsSpec.pre6 enc Try.prog Try.f3 Rows.diskActsRow.domain false) (Rows.diskActsSpec.post enc Try.prog Try.f3 false true false false) := by
  refine returnsInHanded_of_change_sized (C := Try.checked) own started (by kernel_rfl) Try.func3
    (ChangeSpec.witness6 (enc := enc) (C := Try.checked) false ⟨#[], #[.int .i64 0, .slice none 0 0], []⟩ 8 (by kernel_rfl) (by kernel_rfl) (by kernel_rfl) (by kernel_rfl)) ?_
  intro W base args ds gs before hval0 hW _ hsz0 _
  have hsz : (DataW.weightsEach Try.prog (Try.f3.params.toList ++ Rows.diskActsSpec.plain.varTypes Try.prog) (ds ++ gs)).all (· ≤ reachBytes) = true := hsz0
  clear hsz0
  have hval : ∀ (j : Nat) t v, Try.f3.params[j]? = some t → args[j]? = some v → Value.okWide Try.prog W .any base t v := hval0
  have hW' := hW
  obtain ⟨p, q, hA0, hV, rfl, _, _⟩ := hW
  have hA : DataW.TrodAll enc Try.prog W 0 (fun _ => true) true Try.f3.params.toList args.toList ds p := hA0
  rw [Try.params3] at hA hval hsz
  obtain ⟨v0, vs0, d0, ds0, p0, q0, hargs, rfl, rfl, h0, r0⟩ := trodAll_cons hA
  obtain ⟨v1, vs1, d1, ds1, p1, q1, rfl, rfl, rfl, h1, r1⟩ := trodAll_cons r0
  obtain ⟨rfl, rfl, rfl⟩ := trodAll_nil r1
  obtain rfl : args = #[v0, v1] := by cases args; simp_all
  obtain ⟨rfl, rfl⟩ := trodVars_none hV
  obtain ⟨a0, rfl, rfl, rfl, w0⟩ := open_int Try.underlying3 (hval 0 3 v0 rfl rfl) h0
  obtain ⟨A1, len1, c1, rfl⟩ := okWide_slice Try.underlying22 (hval 1 22 v1 rfl rfl)
  have k1 := h1
  have lt1 : ∀ x ∈ p1, x.block < W.heap.size := by obtain ⟨m, hm⟩ := k1; exact DataW.trod_lt m _ _ _ hm
  obtain ⟨l1, rfl, o1, s1⟩ := acts_in h1
  have m1 := s1 _ _ 1 hsz rfl rfl
  clear hA0 hval0
  refine (walk a0 A1 l1 c1 W w0 o1 m1).mono fun e W' ⟨he, bel⟩ => ?_
  subst he
  exact ⟨_, rfl, _, _, _, [], _, [], hW', trodAll_mk1 (shut_bool Try.underlying4 _), (trodAll_cons_mk (shut_int Try.underlying3 w0) (trodAll_cons_mk (Below.trod laidOut (by kernel_rfl) (of_decide_eq_true (by kernel_rfl)) k1 bel lt1) trodAll_mk0)), rfl, bel.frame _, fun h => by cases h⟩

theorem proved : Rows.DiskActsSaid :=
  OpenClaim.holds_of_wide 3 Try.f3 rfl rfl rfl rfl rfl rfl rfl ⟨rfl, rfl, rfl, rfl, rfl⟩ rfl rfl rfl rfl rfl (by kernel_rfl) Try.func3 (by kernel_rfl)
    (of_decide_eq_true (by kernel_rfl)) (by unfold Func.isWrapper; first | (rw [if_pos (by decide +kernel)]; kernel_rfl) | (rw [if_neg (by decide +kernel)]; exact ⟨rfl, rfl⟩))
    (fun os started H enc _ => lifted os started H enc)
#print axioms proved
end Go.Proofs.Ythbdhmjmboliiaa.diskActs
