/-
  For all bytes and every sector's number the code's disk of these bytes stands as the document's, and reads that sector alike: the law DiskOf returns true, and changes no argument.
  Conditions: none of our own; what the row itself says of its inputs (they can be read as data, each slice within the form's own reach).
-/
import Derived.Test.YthbdhmjmboliiaaFrame
import Derived.ChangeOld
import Derived.Below
import Derived.Deep.QuietTactic
import Derived.BigQuiet
import Derived.WalkSmall
import Derived.Test.YthbdhmjmboliiaaAwake2
import Derived.Test.YthbdhmjmboliiaaActIn
import Derived.Test.YthbdhmjmboliiaaAlike
import Derived.Test.YthbdhmjmboliiaaTwoNew
namespace Go.Proofs.Ythbdhmjmboliiaa.diskOf
open Go.ChangeShapes Go.WideShapes Go.ChangeAt Go.RowKit
set_option linter.unusedVariables false

theorem own : ownKnob Try.prog.godebug = none := by kernel_rfl
theorem laidOut : laidOutB Try.prog = true := by kernel_rfl

theorem ex_build2 {P : Program} {w w' : World} {o : Oper} {ρ : Operand → Value} (t : TypeId) (c x : Operand) (ho : o.op = .build t #[(0, c), (1, x)]) (u1 u2 v : Value) (h1 : ρ c = u1) (h2 : ρ x = u2) (hrun : (Instr.build t #[(0, u1), (1, u2)]).run P w = .ok v w') : (execOp ρ o).run P w = .ok (.value v) w' := by
  unfold execOp
  simp only [ho, Sem.run_bind, List.map_toArray, List.map_cons, List.map_nil, h1, h2, hrun, Result.andThen_ok, Sem.run_pure]
/-- The Act that reads sector n. -/
def actR (n : Int) : ActV := ⟨9, n, none, [], 0, ⟨0, 0, 0, false⟩⟩
theorem build9 (w : World) (n : Int) : (Instr.build 35 #[(0, .int .i64 9), (1, .int .i64 n)]).run Try.prog w = .ok (.agg (acells (actR n)).toArray) w := by kernel_rfl

set_option maxHeartbeats 1000000 in
theorem walk (A0 : Option Addr) (x0 : List UInt8) (c0 : Nat) (a1 : Int) (w : World) (b0 : BR w w.heap.size A0 x0) (l0 : x0.length ≤ 140737488351232) (q0 : x0.length ≤ c0) (w1 : (Lit.int .i64 a1).wf = true) :
    Calls Try.prog 4 #[.slice A0 x0.length c0, .int .i64 a1] w fun e w' => e = .returned (.bool true) ∧ Below w.heap.size w w' := by
  have hn64 := i64_of_wf w1
  by_cases hbig : 5000 < x0.length
  · go_enter Try.func4, Try.ntmps4
    go_wp2_with fail
    refine (awake_any _).mono ?_
    rintro e w1 ⟨rfl, hb1⟩
    go_wp2_with fail
    go_ret
    exact ⟨rfl, hb1⟩
  · go_enter Try.func4, Try.ntmps4
    go_wp2_with fail
    refine (awake_any _).mono ?_
    rintro e w1 ⟨rfl, hb1⟩
    have hx1 := (b0.below hb1).more hb1.size
    go_wp2_with fail
    refine (of_any A0 x0 c0 w1 hx1 (by omega) q0).mono ?_
    rintro e w2 ⟨p, rfl, hd2, k2⟩
    have hx2 := k2.br hx1 fun _ _ _ h => h
    go_wp2_with fail
    refine (refOf_go A0 x0 c0 w2 hx2 (by omega) q0).mono ?_
    rintro e w3 ⟨q, v, G, rfl, hn⟩
    have hr := hn.rd (ofD_ok x0 (by omega)) rfl rfl rfl rfl fun i hi => by
      show fillR x0 (nBytes x0.length) i = sec (padded x0) i
      unfold fillR
      rw [if_pos hi]
    obtain ⟨two3, k3⟩ := two_new hd2 k2 hn hr
    have hX : ∀ (W : World) (k : Nat), (fun _ => False) k → k < W.heap.size := fun _ _ h => h.elim
    have hB3 : w1.heap.size ≤ w3.heap.size := k3.size
    obtain ⟨F3, hp3, _⟩ := two3.left hB3 (hX _)
    obtain ⟨G3, hq3, _⟩ := two3.right hB3 (hX _)
    have hQ0 : (ofD x0).Q.length = 0 := rfl
    have ha0 : (ofD x0).acts = 0 := rfl
    have AL := Lib.hid (alike_any hp3 hq3 (by rw [hQ0]; omega))
    have T3 := Lib.hid two3
    clear hp3 hq3 two3 hr hn hd2 k2 hx1 hx2
    go_wp2_with fail
    refine AL.out.mono ?_
    rintro e w4 ⟨rfl, k4⟩
    have two4 := T3.out.mark (k4.toBelow _ (Nat.le_refl _) fun _ h => h.elim) (fun _ => False) fun _ h => h.elim
    have hB4 : w1.heap.size ≤ w4.heap.size := Nat.le_trans hB3 k4.size
    have B4 := Lib.hid (hb1.trans (((k3.trans k4).toBelow w1.heap.size (Nat.le_refl _) fun _ h => h.elim).mono hb1.size))
    have AC := Lib.hid (act_any two4 hB4 (hX _) (actR a1) (fun h => (h rfl).elim) ⟨by show (0 : Int) ≤ 0; omega, by show (0 : Int) ≤ 18446744073709551615; omega⟩ hn64.2 (by rw [hQ0]; omega) (by rw [ha0]; omega))
    have hs1 := hb1.size
    clear two4 T3 AL k3 k4 hb1 hX
    have BL := Lib.hid (build9 w4 a1)
    generalize hz : Value.agg (acells (actR a1)).toArray = z at *
    clear hz
    go_wp2_with ((with_reducible refine at_ (op := .build 35 #[(0, .const (.int .i64 9)), (1, .tmp 26)]) ?_); refine wpList_val rfl _ (ex_build2 35 (.const (.int .i64 9)) (.tmp 26) rfl _ _ _ rfl rfl BL.out) ?_)
    refine AC.out.mono ?_
    rintro e w5 ⟨rfl, _, b5, _⟩
    have BF := Lib.hid (B4.out.trans (b5.mono hs1))
    clear b5 AC B4
    go_wp2_with fail
    go_ret
    exact ⟨rfl, BF.out⟩

set_option maxRecDepth 100000 in
theorem lifted (os : Os) (started : os.Started) (H : Type) (enc : TypeId × Value → H) :
    ReturnsInHanded {} Try.checked os 4 .any (Rows.diskOfSpec.pre6 enc Try.prog Try.f4 Rows.diskOfRow.domain false) (Rows.diskOfSpec.post enc Try.prog Try.f4 false true false false) := by
  refine returnsInHanded_of_change_sized (C := Try.checked) own started (by kernel_rfl) Try.func4
    (ChangeSpec.witness6 (enc := enc) (C := Try.checked) false ⟨#[], #[.slice none 0 0, .int .i64 0], []⟩ 8 (by kernel_rfl) (by kernel_rfl) (by kernel_rfl) (by kernel_rfl)) ?_
  intro W base args ds gs before hval0 hW _ hsz0 _
  have hsz : (DataW.weightsEach Try.prog (Try.f4.params.toList ++ Rows.diskOfSpec.plain.varTypes Try.prog) (ds ++ gs)).all (· ≤ reachBytes) = true := hsz0
  clear hsz0
  have hval : ∀ (j : Nat) t v, Try.f4.params[j]? = some t → args[j]? = some v → Value.okWide Try.prog W .any base t v := hval0
  have hW' := hW
  obtain ⟨p, q, hA0, hV, rfl, _, _⟩ := hW
  have hA : DataW.TrodAll enc Try.prog W 0 (fun _ => true) true Try.f4.params.toList args.toList ds p := hA0
  rw [Try.params4] at hA hval hsz
  obtain ⟨v0, vs0, d0, ds0, p0, q0, hargs, rfl, rfl, h0, r0⟩ := trodAll_cons hA
  obtain ⟨v1, vs1, d1, ds1, p1, q1, rfl, rfl, rfl, h1, r1⟩ := trodAll_cons r0
  obtain ⟨rfl, rfl, rfl⟩ := trodAll_nil r1
  obtain rfl : args = #[v0, v1] := by cases args; simp_all
  obtain ⟨rfl, rfl⟩ := trodVars_none hV
  obtain ⟨A0, len0, c0, rfl⟩ := okWide_slice Try.underlying30 (hval 0 30 v0 rfl rfl)
  have k0 := h0
  have lt0 : ∀ x ∈ p0, x.block < W.heap.size := by obtain ⟨m, hm⟩ := k0; exact DataW.trod_lt m _ _ _ hm
  have q0 := bytes_cap h0
  obtain ⟨x0, rfl, b0, s0⟩ := bytes_in h0
  have l0 := s0 _ _ 0 hsz rfl rfl
  obtain ⟨a1, rfl, rfl, rfl, w1⟩ := open_int Try.underlying3 (hval 1 3 v1 rfl rfl) h1
  clear hA0 hval0
  refine (walk A0 x0 c0 a1 W b0 l0 q0 w1).mono fun e W' ⟨he, bel⟩ => ?_
  subst he
  exact ⟨_, rfl, _, _, _, [], _, [], hW', trodAll_mk1 (shut_bool Try.underlying4 _), (trodAll_cons_mk (Below.trod laidOut (by kernel_rfl) (of_decide_eq_true (by kernel_rfl)) k0 bel lt0) (trodAll_cons_mk (shut_int Try.underlying3 w1) trodAll_mk0)), rfl, bel.frame _, fun h => by cases h⟩

theorem proved : Rows.DiskOfSaid :=
  OpenClaim.holds_of_wide 4 Try.f4 rfl rfl rfl rfl rfl rfl rfl ⟨rfl, rfl, rfl, rfl, rfl⟩ rfl rfl rfl rfl rfl (by kernel_rfl) Try.func4 (by kernel_rfl)
    (of_decide_eq_true (by kernel_rfl)) (by unfold Func.isWrapper; first | (rw [if_pos (by decide +kernel)]; kernel_rfl) | (rw [if_neg (by decide +kernel)]; exact ⟨rfl, rfl⟩))
    (fun os started H enc _ => lifted os started H enc)
#print axioms proved
end Go.Proofs.Ythbdhmjmboliiaa.diskOf
