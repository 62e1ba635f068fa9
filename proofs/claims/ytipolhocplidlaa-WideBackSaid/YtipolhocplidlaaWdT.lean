/-
  WdT
-/
import Derived.Test.YtipolhocplidlaaWdQ
namespace Go.Proofs.Ytipolhocplidlaa.Wd
set_option linter.unusedSimpArgs false
set_option linter.unusedVariables false
open Go.RowKit

theorem guardW : Try.prog.eqGuardType Try.prog.depth 24 = false := by kernel_rfl
theorem eqlW (x y a b : Int) (w : World) : (binOp .eql 24 (pw x y) (pw a b)).run Try.prog w = .ok (.bool ((x == a) && (y == b))) w := by
  go_simp
  by_cases h1 : x = a <;> by_cases h2 : y = b <;> simp [h1, h2]
theorem neqW (x y a b : Int) (w : World) : (binOp .neq 24 (pw x y) (pw a b)).run Try.prog w = .ok (.bool (!((x == a) && (y == b)))) w := by
  go_simp
  by_cases h1 : x = a <;> by_cases h2 : y = b <;> simp [h1, h2]
/-- Two results, the last of which, or both of which, lie in cells. -/
theorem results_tmp_row {P : Program} {fn : Func} {p q : Tmp} {ty : TypeId} (h : fn.results = #[.tmp q, .cell p ty]) (tmps : Array Value) (w : World) (g : Nat) (t : TypeId) (cs : Array Value) (fr : Nat × Nat) (d : TypeDesc) (v : Value)
    (hp : tmps.getD p undef = .pointer (some ⟨g, 0, none⟩)) (hq : tmps.getD q undef = v) (hg : w.heap[g]? = some (.cells cs t fr))
    (hu : P.underlying ty = some d) (hd : (match d with | .struct _ | .array _ _ => true | _ => false) = true) (hi : (P.info? ty).map (·.size) = some cs.size) :
    (results fn tmps).run P w = .ok (.tuple #[v, .agg cs]) w := by
  have hp' : tmps[p]?.getD undef = .pointer (some ⟨g, 0, none⟩) := by simpa using hp
  have hq' : tmps[q]?.getD undef = v := by simpa using hq
  simp [results, h, hp', hq', asAddr, run_loadVar_row w g t ty cs fr d hg hu hd hi]
theorem results_row_row {P : Program} {fn : Func} {p q : Tmp} {ty : TypeId} (h : fn.results = #[.cell p ty, .cell q ty]) (tmps : Array Value) (w : World) (g g' : Nat) (t : TypeId) (cs cs' : Array Value) (fr fr' : Nat × Nat) (d : TypeDesc)
    (hp : tmps.getD p undef = .pointer (some ⟨g, 0, none⟩)) (hq : tmps.getD q undef = .pointer (some ⟨g', 0, none⟩)) (hg : w.heap[g]? = some (.cells cs t fr)) (hg' : w.heap[g']? = some (.cells cs' t fr'))
    (hu : P.underlying ty = some d) (hd : (match d with | .struct _ | .array _ _ => true | _ => false) = true) (hi : (P.info? ty).map (·.size) = some cs.size) (hi' : (P.info? ty).map (·.size) = some cs'.size) :
    (results fn tmps).run P w = .ok (.tuple #[.agg cs, .agg cs']) w := by
  have hp' : tmps[p]?.getD undef = .pointer (some ⟨g, 0, none⟩) := by simpa using hp
  have hq' : tmps[q]?.getD undef = .pointer (some ⟨g', 0, none⟩) := by simpa using hq
  simp [results, h, hp', hq', asAddr, run_loadVar_row w g t ty cs fr d hg hu hd hi, run_loadVar_row w g' t ty cs' fr' d hg' hu hd hi']

def i64r (n : Int) : Prop := -9223372036854775808 ≤ n ∧ n < 9223372036854775808
theorem absI_pos {d : Int} (h : d ≠ 0) : 0 < absI d := by unfold absI; split <;> omega
theorem absI_le {d : Int} (h : i64r d) : absI d ≤ 9223372036854775808 := by unfold absI i64r at *; split <;> omega
theorem absW_nn {a b : Int} (ha : half a) (hb : half b) : 0 ≤ absW a b ∧ absW a b ≤ 170141183460469231731687303715884105728 := by unfold absW half at *; split <;> omega
/-- A rest, turned: its low half is itself, as a number with a sign. -/
theorem low_of (s : Bool) (r h l : Int) (hh : half h) (hl : half l) (h0 : 0 ≤ r) (h1 : r < 9223372036854775808) (e : h * 18446744073709551616 + l = sgn s r % 340282366920938463463374607431768211456) : IntKind.i64.wrap l = sgn s r := by
  have hs : sgn s r = r ∨ sgn s r = -r := by unfold sgn; cases s <;> simp
  have hk : l = sgn s r % 18446744073709551616 := by
    unfold half at *
    rcases hs with e1 | e1 <;> rw [e1] at e ⊢ <;> omega
  rw [hk]
  simp only [IntKind.wrap, IntKind.bits, IntKind.signed]
  rcases hs with e1 | e1 <;> rw [e1] <;> simp <;> omega
theorem tr_range {a b d : Int} (ha : half a) (hb : half b) (hd : i64r d) (h0 : d ≠ 0) : 0 ≤ absW a b % absI d ∧ absW a b % absI d < absI d ∧ absW a b % absI d < 9223372036854775808 := by
  have h1 := absI_pos h0
  have h2 := absI_le hd
  have h3 := Int.emod_nonneg (absW a b) (show absI d ≠ 0 by omega)
  have h4 := Int.emod_lt_of_pos (absW a b) h1
  exact ⟨h3, h4, by omega⟩
theorem big_iff {A D : Int} {x y : Int} (hx : half x) (hy : half y) (e : x * 18446744073709551616 + y = A) (hD : 0 < D) : (D ≤ x ↔ 18446744073709551616 ≤ A / D) := by
  unfold half at *
  rw [Int.le_ediv_iff_mul_le hD]
  constructor
  · intro h
    omega
  · intro h
    omega
/-- What towards0 and down do: a rest and a quotient, or a throw. -/
def TOut (w : World) (a b d r q : Int) (e : Ending) (w' : World) : Prop := Below w.heap.size w w' ∧
  ((d = 0 ∧ e = thrownI (-10)) ∨ (d ≠ 0 ∧ 18446744073709551616 ≤ absW a b / absI d ∧ e = thrownI (-11)) ∨
   (d ≠ 0 ∧ absW a b / absI d < 18446744073709551616 ∧ ∃ x y : Int, e = .returned (.tuple #[.int .i64 r, pw x y]) ∧ half x ∧ half y ∧ x * 18446744073709551616 + y = q % 340282366920938463463374607431768211456))
/-- What divide comes to, at a number's size. -/
theorem divide_abs (a b d x y : Int) (hx : half x) (hy : half y) (hd : i64r d) (e : x * 18446744073709551616 + y = absW a b) (w : World) :
    Calls Try.prog 38 #[pw x y, .int .u64 (absI d)] w fun e w' => Below w.heap.size w w' ∧
      ((d = 0 ∧ e = thrownI (-10)) ∨ (d ≠ 0 ∧ 18446744073709551616 ≤ absW a b / absI d ∧ e = thrownI (-11)) ∨
       (d ≠ 0 ∧ absW a b / absI d < 18446744073709551616 ∧ e = .returned (.tuple #[.int .u64 (absW a b % absI d), .int .u64 (absW a b / absI d)]))) := by
  have h1 := absI_le hd
  have h2 : 0 ≤ absI d := by unfold absI; split <;> omega
  refine (divide_any x y (absI d) hx hy ⟨h2, by omega⟩ w).mono fun e' w' h => ?_
  obtain ⟨hb, h⟩ := h
  refine ⟨hb, ?_⟩
  rcases h with ⟨h3, h4⟩ | ⟨h3, h4, h5⟩ | ⟨h3, h4, h5⟩
  · exact .inl ⟨by unfold absI at h3; split at h3 <;> omega, h4⟩
  · have h0 : d ≠ 0 := fun h => h3 (by rw [h]; rfl)
    exact .inr (.inl ⟨h0, (big_iff hx hy e (absI_pos h0)).1 h4, h5⟩)
  · have h0 : d ≠ 0 := fun h => h3 (by rw [h]; rfl)
    refine .inr (.inr ⟨h0, ?_, by rw [← e]; exact h5⟩)
    have := big_iff hx hy e (absI_pos h0)
    omega
set_option maxRecDepth 100000 in
set_option maxHeartbeats 1000000 in
theorem towards_any (a b d : Int) (ha : half a) (hb : half b) (hd : i64r d) (w : World) :
    Calls Try.prog 42 #[pw a b, .int .i64 d] w (TOut w a b d (tr a b d) (tq a b d)) := by
  have p0 : PB ((w.alloc (.cells #[.int .u64 a, .int .u64 b] 24)).alloc (.cells #[.int .u64 0, .int .u64 0] 24)) w.heap.size a b := PB.alloc (PB.new _ _ _) _
  have q0 : PB ((w.alloc (.cells #[.int .u64 a, .int .u64 b] 24)).alloc (.cells #[.int .u64 0, .int .u64 0] 24)) (w.heap.size + 1) 0 0 := PB.at_ _ (by simp only [World.size_alloc]) _ _
  have b0 : Below w.heap.size w ((w.alloc (.cells #[.int .u64 a, .int .u64 b] 24)).alloc (.cells #[.int .u64 0, .int .u64 0] 24)) := (Below.al _ _).alloc (by simp only [World.size_alloc]; omega) _
  have SZ := Lib.hid (size_any d hd.1 hd.2)
  have TR := Lib.hid (fun h0 => tr_range ha hb hd h0)
  have NN := Lib.hid (absW_nn ha hb)
  have B0 := Lib.hid (below0_any d hd.1 hd.2)
  have AP := Lib.hid (fun h0 => absI_pos (d := d) h0)
  have hf := fun h l w => field1 h l w
  go_enter Try.func42, Try.ntmps42
  go_wp2_with fail
  refine (wsize_any a b ha hb _).mono ?_
  rintro e w1 ⟨x, y, rfl, hx, hy, exy, b1⟩
  replace p0 := p0.below b1 p0.lt
  replace q0 := q0.below b1 q0.lt
  replace b0 := b0.trans (b1.mono b0.size)
  have EXY := Lib.hid exy
  clear b1 exy
  go_wp2_with fail
  refine (SZ.out _).mono ?_
  rintro e w2 ⟨rfl, b1⟩
  replace p0 := p0.below b1 p0.lt
  replace q0 := q0.below b1 q0.lt
  replace b0 := b0.trans (b1.mono b0.size)
  have DV := Lib.hid (divide_abs a b d x y hx hy hd EXY.out)
  clear b1 SZ
  go_wp2_with fail
  refine (DV.out _).mono ?_
  rintro e w3 ⟨b1, ⟨h3, rfl⟩ | ⟨h3, h4, rfl⟩ | ⟨h3, h4, rfl⟩⟩
  · exact ⟨rfl, b0.trans (b1.mono b0.size), .inl ⟨h3, rfl⟩⟩
  · exact ⟨rfl, b0.trans (b1.mono b0.size), .inr (.inl ⟨h3, h4, rfl⟩)⟩
  · replace p0 := p0.below b1 p0.lt
    replace q0 := q0.below b1 q0.lt
    replace b0 := b0.trans (b1.mono b0.size)
    obtain ⟨r1, r2, r3⟩ := TR.out h3
    have nn := NN.out
    have ap := AP.out h3
    have q1 : 0 ≤ absW a b / absI d := Int.ediv_nonneg nn.1 (by omega)
    have H34 := Lib.hid (And.intro h3 h4)
    have LD := Lib.hid p0.load
    have hat : sgn (negW a) (absW a b % absI d) = tr a b d := rfl
    have haq : sgn (negW a != decide (d < 0)) (absW a b / absI d) = tq a b d := rfl
    have HAT := Lib.hid hat
    have HAQ := Lib.hid haq
    clear b1 h3 DV EXY hat haq nn ap NN TR AP
    generalize hqv : absW a b / absI d = qq at *
    have HQV := Lib.hid hqv
    clear hqv
    generalize absW a b % absI d = rr at *
    generalize tr a b d = R at *
    generalize tq a b d = QQ at *
    have hrr : half rr := ⟨r1, by omega⟩
    have hqq : half qq := ⟨q1, by omega⟩
    have h00 : half 0 := by unfold half; decide
    clear h4
    go_wp2_with (first | ((with_reducible refine here (op := .load 24 (.tmp 2)) ?_); refine wpList_load_run rfl 24 _ rfl _ _ rfl LD.out ?_) | fail)
    refine (wbelow0_any a b ha _).mono ?_
    rintro e w4 ⟨rfl, b1⟩
    replace q0 := q0.below b1 q0.lt
    replace b0 := b0.trans (b1.mono b0.size)
    clear b1 LD p0
    generalize hneg : negW a = s at *
    go_wp2_with fail
    refine (turned_any 0 rr h00 hrr s _).mono ?_
    rintro e w5 ⟨f, g, rfl, hf1, hg, efg, b1⟩
    replace q0 := q0.below b1 q0.lt
    replace b0 := b0.trans (b1.mono b0.size)
    rw [Int.zero_mul, Int.zero_add] at efg
    have hcv : IntKind.i64.wrap g = R := (low_of s rr f g hf1 hg r1 r3 efg).trans HAT.out
    clear b1 efg
    go_wp2_with fail
    refine (B0.out _).mono ?_
    rintro e w6 ⟨rfl, rfl⟩
    go_wp2_with fail
    refine (turned_any 0 qq h00 hqq (s != decide (d < 0)) _).mono ?_
    rintro e w7 ⟨f2, g2, rfl, hf2, hg2, efg2, b1⟩
    replace q0 := q0.below b1 q0.lt
    replace b0 := b0.trans (b1.mono b0.size)
    rw [Int.zero_mul, Int.zero_add, HAQ.out] at efg2
    have QS := Lib.hid (q0.store f2 g2)
    have E2 := Lib.hid efg2
    have q2 := q0.put f2 g2
    have b2 := below_put b0 (show w.heap.size ≤ w.heap.size + 1 by omega) f2 g2
    clear b1 efg2 hf q0 b0
    go_wp2_with (first | ((with_reducible refine here (op := .store 24 (.tmp 5) (.tmp 31)) ?_); refine wpList_store_run rfl 24 _ _ rfl _ _ rfl rfl QS.out ?_) | fail)
    refine bodyPost_ret (v := .tuple #[.int .i64 R, pw f2 g2]) ?_ rfl ⟨b2, .inr (.inr ⟨H34.out.1, by rw [HQV.out]; exact H34.out.2, f2, g2, rfl, hf2, hg2, E2.out⟩)⟩
    exact results_tmp_row rfl _ _ (w.heap.size + 1) 24 _ (0, 0) _ _ rfl rfl q2 Try.underlying24 rfl Try.sizeW
section
variable {P : Program} {ops : Array Oper} {Q : Exit → Act → World → Prop}
/-- A call that may panic. -/
theorem op_callP {m : Nat} {om : Oper} {a : Act} {w : World} {fn : FuncId} {args : Array Value} {R : Value → World → Prop} {RP : List PanicEntry → World → Prop} (hm : ops[m]? = some om) (hw : Region.wanted om (yielded ops a.tmps) = true) (hrun : (execOp a.eval om).run P w = .ok (.enter fn args) w)
    (hc : Calls P fn args w fun e w' => (∃ u, e = .returned u ∧ R u w') ∨ (∃ ch, e = .panicked ch ∧ RP ch w')) : ∀ (K : Act → World → Prop) (a' : Act), execOp a'.eval om = execOp a.eval om → Region.wanted om (yielded ops a'.tmps) = Region.wanted om (yielded ops a.tmps) → (∀ u w', R u w' → K (a'.put om.dst u) w') → (∀ ch w', RP ch w' → Q (.panic ch) a' w') → wpOp P ops Q m K a' w := by
  intro K a' e1 e2 h hp
  unfold wpOp
  simp only [hm, e2, hw, if_true]
  left
  unfold Oper.wp
  rw [e1, hrun]
  refine Calls.mono hc ?_
  rintro e w' (⟨u, rfl, hu⟩ | ⟨ch, rfl, hu⟩)
  · exact h u w' hu
  · exact hp ch w' hu
end
/-- A half as a number with a sign. -/
def sg64 (l : Int) : Int := IntKind.i64.wrap l
theorem sg64_i64 {l : Int} (hl : half l) : i64r (sg64 l) := by
  unfold sg64 i64r half at *
  simp only [IntKind.wrap, IntKind.bits, IntKind.signed]
  simp
  omega
/-- Whether a wide number is one of 64 bits. -/
def fitW (x y : Int) : Prop := x * 18446744073709551616 + y = sg64 y % 340282366920938463463374607431768211456
theorem fit_of {x y q : Int} (hx : half x) (hy : half y) (hq : -170141183460469231731687303715884105728 ≤ q ∧ q ≤ 170141183460469231731687303715884105728) (e : x * 18446744073709551616 + y = q % 340282366920938463463374607431768211456) :
    (fitW x y ↔ fit64 q = true) ∧ (fit64 q = true → sg64 y = q) := by
  unfold fitW sg64 fit64 half at *
  simp only [IntKind.wrap, IntKind.bits, IntKind.signed, Bool.and_eq_true, decide_eq_true_eq]
  simp
  constructor
  · constructor
    · intro h; omega
    · intro h; omega
  · intro h1 h2; omega
/-- What narrow does. -/
def NOut (w : World) (x y : Int) (e : Ending) (w' : World) : Prop := Below w.heap.size w w' ∧ ((fitW x y ∧ e = .returned (.int .i64 (sg64 y))) ∨ (¬ fitW x y ∧ e = thrownI (-11)))
theorem demand_any (b : Bool) (t : Int) (w : World) : Calls Try.prog 52 #[.bool b, .int .i64 t] w fun e w' => (e = if b then .returned (.tuple #[]) else thrownI t) ∧ w = w' := by
  cases b
  · exact demand_bad t w
  · exact demand_ok t w
set_option maxRecDepth 100000 in
set_option maxHeartbeats 1000000 in
theorem narrow_any (x y : Int) (hx : half x) (hy : half y) (w : World) :
    Calls Try.prog 43 #[pw x y] w (NOut w x y) := by
  have p0 : PB (w.alloc (.cells #[.int .u64 x, .int .u64 y] 24)) w.heap.size x y := PB.new _ _ _
  have b0 := Below.al w (.cells #[.int .u64 x, .int .u64 y] 24)
  have hi := sg64_i64 hy
  have hw : IntKind.i64.wrap y = sg64 y := rfl
  have HFW := Lib.hid (show fitW x y ↔ x * 18446744073709551616 + y = sg64 y % 340282366920938463463374607431768211456 from Iff.rfl)
  generalize hnv : sg64 y = n at *
  have OF := Lib.hid (of_any n hi.1 hi.2)
  have HNX := Lib.hid hnv
  clear hnv
  go_enter Try.func43, Try.ntmps43
  go_wp2_with fail
  refine wp_region_held (S := fun W => PB W w.heap.size x y) (by kernel_rfl) ?_
  change wpAnyH _ _ _ _ _ _ _ _ (w.alloc (.cells #[.int .u64 x, .int .u64 y] 24)).drew
  replace p0 : PB (w.alloc (.cells #[.int .u64 x, .int .u64 y] 24)).drew w.heap.size x y := p0
  replace b0 : Below w.heap.size w (w.alloc (.cells #[.int .u64 x, .int .u64 y] 24)).drew := b0.drew
  generalize (w.alloc (.cells #[.int .u64 x, .int .u64 y] 24)).drew = w1 at *
  have hS : PB w1 w.heap.size x y := p0
  refine wpAnyH_take (oi := ⟨_, _, _, _, _, _⟩) (i := 0) (v := .int .i64 n) rfl (by kernel_rfl) (by kernel_rfl) (by kernel_rfl) (fun _ _ _ h => h) (Or.inl ⟨by rfl, fun _ _ => rfl⟩) hS ?_
  try simp only [Act.put, List.setIfInBounds_toArray, List.set_cons_zero, List.set_cons_succ]
  refine wpAnyH_take (oi := ⟨_, _, _, _, _, _⟩) (i := 2) (v := pw x y) rfl (by kernel_rfl) (by kernel_rfl) (by kernel_rfl) (fun _ _ _ h => h) (yif_load rfl 24 (.tmp 1) rfl _ _ rfl fun w h => h.load) hS ?_
  try simp only [Act.put, List.setIfInBounds_toArray, List.set_cons_zero, List.set_cons_succ]
  refine wpAnyH_all (rs := [1]) (by kernel_rfl) (by simp) fun i hi => ?_
  obtain rfl : i = 1 := by simpa using hi
  refine op_call (om := ⟨_, _, _, _, _, _⟩) (fn := 15) (args := #[.int .i64 n]) (R := fun u w' => GivesW w1 (n % 340282366920938463463374607431768211456) (.returned u) w') rfl rfl (by go_simp)
    ((OF.out w1).mono fun e w' h => h.call) _ _ rfl rfl ?_
  rintro u w2 hu
  obtain ⟨f, g, rfl, hf, hg, efg, b1⟩ := hu.open
  have hS := hS.below b1 hS.lt
  replace b0 := b0.trans (b1.mono b0.size)
  refine ⟨hS, ?_⟩
  try simp only [Act.put, List.setIfInBounds_toArray, List.set_cons_zero, List.set_cons_succ]
  refine wpAnyH_take (oi := ⟨_, _, _, _, _, _⟩) (i := 3) (v := .bool ((f == x) && (g == y))) rfl (by kernel_rfl) (by kernel_rfl) (by kernel_rfl) (fun _ _ _ h => h) (Or.inl ⟨by rfl, fun _ _ => ex_bin_agg .eql 24 24 (.tmp 8) (.tmp 9) rfl _ _ _ rfl rfl guardW (eqlW f g x y _)⟩) hS ?_
  try simp only [Act.put, List.setIfInBounds_toArray, List.set_cons_zero, List.set_cons_succ]
  have hiff : ((f == x) && (g == y)) = true ↔ fitW x y := by
    rw [HFW.out, Bool.and_eq_true, beq_iff_eq, beq_iff_eq]
    clear HFW
    unfold half at *
    omega
  refine wpAnyH_all (rs := [4]) (by kernel_rfl) (by simp) fun i hi => ?_
  obtain rfl : i = 4 := by simpa using hi
  refine op_callP (om := ⟨_, _, _, _, _, _⟩) (fn := 52) (args := #[.bool ((f == x) && (g == y)), .int .i64 (-11)]) (R := fun u w' => ((f == x) && (g == y)) = true ∧ u = .tuple #[] ∧ w2 = w') (RP := fun ch w' => ((f == x) && (g == y)) = false ∧ Ending.panicked ch = thrownI (-11) ∧ w2 = w') rfl rfl (by go_simp)
    ((demand_any _ (-11) w2).mono fun e w' h => ?_) _ _ rfl rfl ?_ ?_
  · obtain ⟨h1, h2⟩ := h
    cases hb : ((f == x) && (g == y)) with
    | true => rw [hb] at h1; exact .inl ⟨_, h1, rfl, rfl, h2⟩
    | false => rw [hb] at h1; exact .inr ⟨_, h1, rfl, rfl, h2⟩
  · rintro u w3 ⟨h1, rfl, rfl⟩
    have HF := Lib.hid (hiff.1 h1)
    refine ⟨hS, ?_⟩
    try simp only [Act.put, List.setIfInBounds_toArray, List.set_cons_zero, List.set_cons_succ]
    refine wpAnyH_done (by kernel_rfl) ?_ _
    try simp only [Act.put, List.setIfInBounds_toArray, List.set_cons_zero, List.set_cons_succ]
    clear hS p0 h1 hiff
    go_wp2_with fail
    go_ret
    exact ⟨b0, .inl ⟨HF.out, by rw [HNX.out]; rfl⟩⟩
  · rintro ch w3 ⟨h1, h2, rfl⟩
    refine ⟨rfl, b0, .inr ⟨fun h => ?_, h2⟩⟩
    rw [hiff.2 h] at h1
    cases h1
/-- Where down stands: the result's block, the quotient's. -/
structure DD (w wr : World) (g : Nat) (x y : Int) : Prop where
  res : PB wr (w.heap.size + 1) 0 0
  q : PB wr g x y
  ne : g ≠ w.heap.size + 1
  bel : Below w.heap.size w wr
theorem DD.below {w wr w' : World} {g : Nat} {x y : Int} (h : DD w wr g x y) (k : Below wr.heap.size wr w') : DD w w' g x y :=
  ⟨h.res.below k h.res.lt, h.q.below k h.q.lt, h.ne, h.bel.trans (k.mono h.bel.size)⟩
theorem DD.dr {w wr : World} {g : Nat} {x y : Int} (h : DD w wr g x y) : DD w wr.drew g x y := ⟨h.res, h.q, h.ne, h.bel.drew⟩
set_option maxRecDepth 100000 in
set_option maxHeartbeats 1000000 in
theorem down_any (a b d : Int) (ha : half a) (hb : half b) (hd : i64r d) (w : World) :
    Calls Try.prog 47 #[pw a b, .int .i64 d] w (TOut w a b d (fr a b d) (fq a b d)) := by
  have p0 : PB ((w.alloc (.cells #[.int .u64 a, .int .u64 b] 24)).alloc (.cells #[.int .u64 0, .int .u64 0] 24)) w.heap.size a b := PB.alloc (PB.new _ _ _) _
  have q0 : PB ((w.alloc (.cells #[.int .u64 a, .int .u64 b] 24)).alloc (.cells #[.int .u64 0, .int .u64 0] 24)) (w.heap.size + 1) 0 0 := PB.at_ _ (by simp only [World.size_alloc]) _ _
  have b0 : Below w.heap.size w ((w.alloc (.cells #[.int .u64 a, .int .u64 b] 24)).alloc (.cells #[.int .u64 0, .int .u64 0] 24)) := (Below.al _ _).alloc (by simp only [World.size_alloc]; omega) _
  have TW := Lib.hid (towards_any a b d ha hb hd)
  have TR := Lib.hid (fun h0 => tr_range ha hb hd h0)
  have AP := Lib.hid (absI_le hd)
  have HFR := Lib.hid (show fr a b d = if offD a b d then tr a b d + d else tr a b d from rfl)
  have HFQ := Lib.hid (show fq a b d = if offD a b d then tq a b d - 1 else tq a b d from rfl)
  have HOF := Lib.hid (show offD a b d = ((tr a b d != 0) && (decide (tr a b d < 0) != decide (d < 0))) from rfl)
  have htr : tr a b d = sgn (negW a) (absW a b % absI d) := rfl
  have HTR := Lib.hid htr
  clear htr
  go_enter Try.func47, Try.ntmps47
  go_wp2_with fail
  refine (TW.out _).mono ?_
  rintro e w1 ⟨b1, ⟨h3, rfl⟩ | ⟨h3, h4, rfl⟩ | ⟨h3, h4, x, y, rfl, hx, hy, exy⟩⟩
  · exact ⟨rfl, b0.trans (b1.mono b0.size), .inl ⟨h3, rfl⟩⟩
  · exact ⟨rfl, b0.trans (b1.mono b0.size), .inr (.inl ⟨h3, h4, rfl⟩)⟩
  · obtain ⟨r1, r2, r3⟩ := TR.out h3
    have hap := AP.out
    have hRr : i64r (tr a b d) ∧ (-(absI d) < tr a b d ∧ tr a b d < absI d) := by
      rw [HTR.out]
      unfold sgn i64r
      cases negW a <;> simp <;> omega
    obtain ⟨hR, hRd⟩ := hRr
    have habs : absI d = d ∨ absI d = -d := by unfold absI; split <;> omega
    have d0 : DD w (w1.alloc (.cells #[.int .u64 x, .int .u64 y] 24)) w1.heap.size x y :=
      ⟨(q0.below b1 q0.lt).alloc _, PB.new _ _ _, by have := (q0.below b1 q0.lt).lt; omega, (b0.trans (b1.mono b0.size)).alloc (by have := b0.size; have := b1.size; omega) _⟩
    have H34 := Lib.hid (And.intro h3 h4)
    have EXY := Lib.hid exy
    have XS := Lib.hid (xor_sign (tr a b d) d hR hd)
    clear b1 h3 h4 TW exy p0 q0 b0 r1 r2 r3 TR AP hap HTR
    generalize hfr : fr a b d = FR at *
    generalize hfq : fq a b d = FQ at *
    clear hfr hfq
    generalize tr a b d = R at *
    generalize tq a b d = TQ at *
    generalize offD a b d = OD at *
    have DEC : ∀ bq : Bool, ((R != 0) && (decide (R < 0) != decide (d < 0))) = bq → FR = (if bq then R + d else R) ∧ FQ = (if bq then TQ - 1 else TQ) := fun bq h => by
      rw [← h, ← HOF.out]
      exact ⟨HFR.out, HFQ.out⟩
    have DC := Lib.hid DEC
    clear DEC HFR HFQ HOF
    have keepAll : Hid (i64r R ∧ i64r d ∧ (-(absI d) < R ∧ R < absI d) ∧ (absI d = d ∨ absI d = -d)) := Lib.hid ⟨hR, hd, hRd, habs⟩
    by_cases hz : R = 0
    · have hz1 : (R != 0) = false := by simpa using hz
      have HD := Lib.hid (DC.out false (by rw [hz1]; rfl))
      clear DC XS hd hR hRd habs
      have D1 := Lib.hid d0
      clear d0
      go_wp2_with fail
      refine wp_region_held (S := fun W => PB W w1.heap.size x y) (by kernel_rfl) ?_
      change wpAnyH _ _ _ _ _ _ _ _ (w1.alloc (.cells #[.int .u64 x, .int .u64 y] 24)).drew
      have d1 : DD w (w1.alloc (.cells #[.int .u64 x, .int .u64 y] 24)).drew w1.heap.size x y := D1.out.dr
      clear D1
      generalize (w1.alloc (.cells #[.int .u64 x, .int .u64 y] 24)).drew = w3 at *
      have hS : PB w3 w1.heap.size x y := d1.q
      refine wpAnyH_take (oi := ⟨_, _, _, _, _, _⟩) (i := 0) (v := .int .i64 0) rfl (by kernel_rfl) (by kernel_rfl) (by kernel_rfl) (fun _ _ _ h => h) (Or.inl ⟨by rfl, fun _ _ => rfl⟩) hS ?_
      try simp only [Act.put, List.setIfInBounds_toArray, List.set_cons_zero, List.set_cons_succ]
      refine wpAnyH_take (oi := ⟨_, _, _, _, _, _⟩) (i := 1) (v := pw x y) rfl (by kernel_rfl) (by kernel_rfl) (by kernel_rfl) (fun _ _ _ h => h) (yif_load rfl 24 (.tmp 7) rfl _ _ rfl fun w h => h.load) hS ?_
      try simp only [Act.put, List.setIfInBounds_toArray, List.set_cons_zero, List.set_cons_succ]
      refine wpAnyH_take (oi := ⟨_, _, _, _, _, _⟩) (i := 2) (v := .int .i64 0) rfl (by kernel_rfl) (by kernel_rfl) (by kernel_rfl) (fun _ _ _ h => h) (Or.inl ⟨by rfl, fun _ _ => rfl⟩) hS ?_
      try simp only [Act.put, List.setIfInBounds_toArray, List.set_cons_zero, List.set_cons_succ]
      refine wpAnyH_all (rs := [3]) (by kernel_rfl) (by simp) fun i hi => ?_
      obtain rfl : i = 3 := by simpa using hi
      refine wpOp_skip (om := ⟨_, _, _, _, _, _⟩) rfl rfl (ex_store 24 (.tmp 5) (.tmp 29) rfl _ _ rfl rfl (d1.res.store x y)) ?_
      refine ⟨hS.puto d1.ne x y, ?_⟩
      try simp only [Act.put, List.setIfInBounds_toArray, List.set_cons_zero, List.set_cons_succ]
      refine wpAnyH_done (by kernel_rfl) ?_ _
      try simp only [Act.put, List.setIfInBounds_toArray, List.set_cons_zero, List.set_cons_succ]
      have RES := d1.res.put x y
      have BEL := below_put d1.bel (show w.heap.size ≤ w.heap.size + 1 by omega) x y
      clear hS d1
      go_wp2_with fail
      refine bodyPost_ret (v := .tuple #[.int .i64 (0), pw x y]) ?_ rfl ⟨BEL, .inr (.inr ⟨H34.out.1, H34.out.2, x, y, by rw [HD.out.1, hz]; rfl, hx, hy, by rw [HD.out.2]; exact EXY.out⟩)⟩
      exact results_tmp_row rfl _ _ (w.heap.size + 1) 24 _ (0, 0) _ _ rfl rfl RES Try.underlying24 rfl Try.sizeW
    · have hz1 : (R != 0) = true := by simpa using hz
      obtain ⟨hxr, hxs⟩ := XS.out
      have BX := Lib.hid (below0_any (bits .xor .i64 R d) hxr.1 hxr.2)
      rw [hxs] at BX
      have D1 := Lib.hid d0
      clear d0 XS hxr hxs hd hR hRd habs hz
      go_wp2_with fail
      refine (BX.out _).mono ?_
      rintro e w2 ⟨rfl, rfl⟩
      by_cases hsg : (decide (R < 0) != decide (d < 0)) = true
      · rw [hsg]
        have HD := Lib.hid (DC.out true (by rw [hz1, hsg]; rfl))
        have hadd : i64r (R + d) := by
          obtain ⟨k1, k2, k3, k4⟩ := keepAll.out
          simp only [bne_iff_ne, ne_eq, decide_eq_decide] at hsg
          unfold i64r at *
          omega
        have hwr : IntKind.i64.wrap (R + d) = R + d := IntWalk.i64_in _ ⟨hadd.1, by have := hadd.2; omega⟩
        have HSG := Lib.hid hsg
        clear DC BX hsg hadd
        go_wp2_with fail
        refine wp_region_held (S := fun W => PB W w1.heap.size x y) (by kernel_rfl) ?_
        change wpAnyH _ _ _ _ _ _ _ _ (w1.alloc (.cells #[.int .u64 x, .int .u64 y] 24)).drew
        have d1 : DD w (w1.alloc (.cells #[.int .u64 x, .int .u64 y] 24)).drew w1.heap.size x y := D1.out.dr
        clear D1
        generalize (w1.alloc (.cells #[.int .u64 x, .int .u64 y] 24)).drew = w3 at *
        have hS : PB w3 w1.heap.size x y := d1.q
        refine wpAnyH_take (oi := ⟨_, _, _, _, _, _⟩) (i := 0) (v := .int .i64 R) rfl (by kernel_rfl) (by kernel_rfl) (by kernel_rfl) (fun _ _ _ h => h) (Or.inl ⟨by rfl, fun _ _ => rfl⟩) hS ?_
        try simp only [Act.put, List.setIfInBounds_toArray, List.set_cons_zero, List.set_cons_succ]
        refine wpAnyH_take (oi := ⟨_, _, _, _, _, _⟩) (i := 1) (v := .int .i64 d) rfl (by kernel_rfl) (by kernel_rfl) (by kernel_rfl) (fun _ _ _ h => h) (Or.inl ⟨by rfl, fun _ _ => rfl⟩) hS ?_
        try simp only [Act.put, List.setIfInBounds_toArray, List.set_cons_zero, List.set_cons_succ]
        refine wpAnyH_take (oi := ⟨_, _, _, _, _, _⟩) (i := 2) (v := .int .i64 (R + d)) rfl (by kernel_rfl) (by kernel_rfl) (by kernel_rfl) (fun _ _ _ h => h) (Or.inl ⟨by rfl, fun _ _ => by go_simp⟩) hS ?_
        try simp only [Act.put, List.setIfInBounds_toArray, List.set_cons_zero, List.set_cons_succ]
        refine wpAnyH_take (oi := ⟨_, _, _, _, _, _⟩) (i := 3) (v := pw x y) rfl (by kernel_rfl) (by kernel_rfl) (by kernel_rfl) (fun _ _ _ h => h) (yif_load rfl 24 (.tmp 7) rfl _ _ rfl fun w h => h.load) hS ?_
        try simp only [Act.put, List.setIfInBounds_toArray, List.set_cons_zero, List.set_cons_succ]
        refine wpAnyH_all (rs := [4]) (by kernel_rfl) (by simp) fun i hi => ?_
        obtain rfl : i = 4 := by simpa using hi
        refine op_call (om := ⟨_, _, _, _, _, _⟩) (fn := 15) (args := #[.int .i64 (-1)]) (R := fun u w' => GivesW w3 (-1 % 340282366920938463463374607431768211456) (.returned u) w') rfl rfl (by go_simp)
          ((of_any (-1) (by decide) (by decide) w3).mono fun e w' h => h.call) _ _ rfl rfl ?_
        rintro u w4 hu
        obtain ⟨f, g, rfl, hf, hg, efg, bb⟩ := hu.open
        have d2 := d1.below bb
        have hS := d2.q
        clear bb d1 hu
        refine ⟨hS, ?_⟩
        try simp only [Act.put, List.setIfInBounds_toArray, List.set_cons_zero, List.set_cons_succ]
        refine wpAnyH_all (rs := [5]) (by kernel_rfl) (by simp) fun i hi => ?_
        obtain rfl : i = 5 := by simpa using hi
        refine op_call (om := ⟨_, _, _, _, _, _⟩) (fn := 11) (args := #[pw x y, pw f g]) (R := fun u w' => GivesW w4 ((x * 18446744073709551616 + y + (f * 18446744073709551616 + g)) % 340282366920938463463374607431768211456) (.returned u) w') rfl rfl (by go_simp)
          ((add_any x y f g hx hy hf hg w4).mono fun e w' h => h.call) _ _ rfl rfl ?_
        rintro u w5 hu
        obtain ⟨f2, g2, rfl, hf2, hg2, efg2, bb⟩ := hu.open
        have d3 := d2.below bb
        have hS := d3.q
        clear bb d2 hu
        refine ⟨hS, ?_⟩
        try simp only [Act.put, List.setIfInBounds_toArray, List.set_cons_zero, List.set_cons_succ]
        refine wpAnyH_take (oi := ⟨_, _, _, _, _, _⟩) (i := 6) (v := .int .i64 (R + d)) rfl (by kernel_rfl) (by kernel_rfl) (by kernel_rfl) (fun _ _ _ h => h) (Or.inl ⟨by rfl, fun _ _ => rfl⟩) hS ?_
        try simp only [Act.put, List.setIfInBounds_toArray, List.set_cons_zero, List.set_cons_succ]
        refine wpAnyH_all (rs := [7]) (by kernel_rfl) (by simp) fun i hi => ?_
        obtain rfl : i = 7 := by simpa using hi
        refine wpOp_skip (om := ⟨_, _, _, _, _, _⟩) rfl rfl (ex_store 24 (.tmp 5) (.tmp 27) rfl _ _ rfl rfl (d3.res.store f2 g2)) ?_
        refine ⟨hS.puto d3.ne f2 g2, ?_⟩
        try simp only [Act.put, List.setIfInBounds_toArray, List.set_cons_zero, List.set_cons_succ]
        refine wpAnyH_done (by kernel_rfl) ?_ _
        try simp only [Act.put, List.setIfInBounds_toArray, List.set_cons_zero, List.set_cons_succ]
        have RES := d3.res.put f2 g2
        have BEL := below_put d3.bel (show w.heap.size ≤ w.heap.size + 1 by omega) f2 g2
        have EE : f2 * 18446744073709551616 + g2 = FQ % 340282366920938463463374607431768211456 := by
          have k1 := EXY.out
          have k2 := HD.out.2
          simp only [if_true] at k2
          rw [k2]
          rw [k1] at efg2
          omega
        have EH := Lib.hid EE
        clear hS d3 efg2 efg EE
        go_wp2_with fail
        refine bodyPost_ret (v := .tuple #[.int .i64 (R + d), pw f2 g2]) ?_ rfl ⟨BEL, .inr (.inr ⟨H34.out.1, H34.out.2, f2, g2, by rw [HD.out.1]; rfl, hf2, hg2, EH.out⟩)⟩
        exact results_tmp_row rfl _ _ (w.heap.size + 1) 24 _ (0, 0) _ _ rfl rfl RES Try.underlying24 rfl Try.sizeW
      · rw [Bool.not_eq_true] at hsg
        rw [hsg]
        have HD := Lib.hid (DC.out false (by rw [hz1, hsg]; rfl))
        clear DC BX hsg
        go_wp2_with fail
        refine wp_region_held (S := fun W => PB W w1.heap.size x y) (by kernel_rfl) ?_
        change wpAnyH _ _ _ _ _ _ _ _ (w1.alloc (.cells #[.int .u64 x, .int .u64 y] 24)).drew
        have d1 : DD w (w1.alloc (.cells #[.int .u64 x, .int .u64 y] 24)).drew w1.heap.size x y := D1.out.dr
        clear D1
        generalize (w1.alloc (.cells #[.int .u64 x, .int .u64 y] 24)).drew = w3 at *
        have hS : PB w3 w1.heap.size x y := d1.q
        refine wpAnyH_take (oi := ⟨_, _, _, _, _, _⟩) (i := 0) (v := .int .i64 R) rfl (by kernel_rfl) (by kernel_rfl) (by kernel_rfl) (fun _ _ _ h => h) (Or.inl ⟨by rfl, fun _ _ => rfl⟩) hS ?_
        try simp only [Act.put, List.setIfInBounds_toArray, List.set_cons_zero, List.set_cons_succ]
        refine wpAnyH_take (oi := ⟨_, _, _, _, _, _⟩) (i := 1) (v := pw x y) rfl (by kernel_rfl) (by kernel_rfl) (by kernel_rfl) (fun _ _ _ h => h) (yif_load rfl 24 (.tmp 7) rfl _ _ rfl fun w h => h.load) hS ?_
        try simp only [Act.put, List.setIfInBounds_toArray, List.set_cons_zero, List.set_cons_succ]
        refine wpAnyH_take (oi := ⟨_, _, _, _, _, _⟩) (i := 2) (v := .int .i64 R) rfl (by kernel_rfl) (by kernel_rfl) (by kernel_rfl) (fun _ _ _ h => h) (Or.inl ⟨by rfl, fun _ _ => rfl⟩) hS ?_
        try simp only [Act.put, List.setIfInBounds_toArray, List.set_cons_zero, List.set_cons_succ]
        refine wpAnyH_all (rs := [3]) (by kernel_rfl) (by simp) fun i hi => ?_
        obtain rfl : i = 3 := by simpa using hi
        refine wpOp_skip (om := ⟨_, _, _, _, _, _⟩) rfl rfl (ex_store 24 (.tmp 5) (.tmp 29) rfl _ _ rfl rfl (d1.res.store x y)) ?_
        refine ⟨hS.puto d1.ne x y, ?_⟩
        try simp only [Act.put, List.setIfInBounds_toArray, List.set_cons_zero, List.set_cons_succ]
        refine wpAnyH_done (by kernel_rfl) ?_ _
        try simp only [Act.put, List.setIfInBounds_toArray, List.set_cons_zero, List.set_cons_succ]
        have RES := d1.res.put x y
        have BEL := below_put d1.bel (show w.heap.size ≤ w.heap.size + 1 by omega) x y
        clear hS d1
        go_wp2_with fail
        refine bodyPost_ret (v := .tuple #[.int .i64 (R), pw x y]) ?_ rfl ⟨BEL, .inr (.inr ⟨H34.out.1, H34.out.2, x, y, by rw [HD.out.1]; rfl, hx, hy, by rw [HD.out.2]; exact EXY.out⟩)⟩
        exact results_tmp_row rfl _ _ (w.heap.size + 1) 24 _ (0, 0) _ _ rfl rfl RES Try.underlying24 rfl Try.sizeW
end Go.Proofs.Ytipolhocplidlaa.Wd
