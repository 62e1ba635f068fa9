/-
  WdN
-/
import Derived.Test.YtipolhocplidlaaWd
import Derived.Test.YtipolhocplidlaaWdBit
import Derived.Test.YtipolhocplidlaaGSnG
namespace Go.Proofs.Ytipolhocplidlaa.Wd
set_option linter.unusedSimpArgs false
set_option linter.unusedVariables false
open Go.RowKit

theorem wpOp_skip {P : Program} {ops : Array Oper} {Q' : Exit → Act → World → Prop} {K : Act → World → Prop} {m : Nat} {om : Oper} {a : Act} {w w' : World} (hm : ops[m]? = some om) (hw : Region.wanted om (yielded ops a.tmps) = true) (hrun : (execOp a.eval om).run P w = .ok .skip w') (h : K (a.put om.dst undef) w') : wpOp P ops Q' m K a w := by
  unfold wpOp
  simp only [hm, hw, if_true]
  left
  unfold Oper.wp
  rw [hrun]
  exact h
theorem wpList_load_run {P : Program} {w w' : World} {ops : Array Oper} {rest : List Oper} {o : Oper} {a : Act} {Q : Exit → Act → World → Prop} (hgd : o.guard = none) (t : TypeId) (x : Operand) (ho : o.op = .load t x) (p v : Value) (hp : a.eval x = p)
    (hrun : (Instr.loadAt t p).run P w = .ok v w') (h : wpList P ops Q rest (a.put o.dst v) w') : wpList P ops Q (o :: rest) a w :=
  wpList_plain hgd fun _ hK => by
    unfold Oper.wp execOp
    simp only [ho, hp, Sem.run_bind, hrun, Result.andThen_ok, Sem.run_pure]
    exact hK _ _ h
theorem wpList_store_run {P : Program} {w w' : World} {ops : Array Oper} {rest : List Oper} {o : Oper} {a : Act} {Q : Exit → Act → World → Prop} (hgd : o.guard = none) (t : TypeId) (x y : Operand) (ho : o.op = .store t x y) (p v : Value) (hp : a.eval x = p) (hv : a.eval y = v)
    (hrun : (Instr.storeAt t p v).run P w = .ok () w') (h : wpList P ops Q rest (a.put o.dst undef) w') : wpList P ops Q (o :: rest) a w :=
  wpList_plain hgd fun _ hK => by
    unfold Oper.wp execOp
    simp only [ho, hp, hv, Sem.run_bind, hrun, Result.andThen_ok, Sem.run_pure]
    exact hK _ _ h
theorem here {P : Program} {w : World} {ops : Array Oper} {rest : List Oper} {a : Act} {Q : Exit → Act → World → Prop} {op : Op} {d : Option Tmp} {ty : TypeId} {pos : String} {af : Array Edge} {g : Option (Nat × Bool)}
    (h : wpList P ops Q (⟨d, op, ty, pos, af, g⟩ :: rest) a w) : wpList P ops Q (⟨d, op, ty, pos, af, g⟩ :: rest) a w := h
theorem field1 (h l : Int) (w : World) : (Instr.field 24 (pw h l) 1).run Try.prog w = .ok (.int .u64 l) w := rfl
theorem aggU64 (w : World) : (isAgg 22).run Try.prog w = .ok false w := by kernel_rfl
theorem PB.load {w : World} {g : Nat} {h l : Int} (p : PB w g h l) : (Instr.loadAt 24 (.pointer (some ⟨g, 0, none⟩))).run Try.prog w = .ok (pw h l) w :=
  run_loadAt_mid w g 0 24 [.int .u64 h, .int .u64 l] _ (range_cells (zs := [.int .u64 h, .int .u64 l]) p) Try.underlying24 rfl (by rw [Try.sizeW]; rfl)
/-- A number stored whole. -/
def wput (w : World) (g : Nat) (x y : Int) : World := (w.setCell ⟨g, 0, none⟩ (.int .u64 x)).setCell ⟨g, 1, none⟩ (.int .u64 y)
theorem PB.store {w : World} {g : Nat} {h l : Int} (p : PB w g h l) (x y : Int) : (Instr.storeAt 24 (.pointer (some ⟨g, 0, none⟩)) (pw x y)).run Try.prog w = .ok () (wput w g x y) :=
  run_storeAt_mid (P := Try.prog) w g 0 24 #[.int .u64 x, .int .u64 y] (there_cells (zs := [.int .u64 h, .int .u64 l]) p 0 2 (by simp)) (by rw [Try.sizeW]; rfl) (by simp [Value.oneCell'])
theorem PB.put {w : World} {g : Nat} {h l : Int} (p : PB w g h l) (x y : Int) : PB (wput w g x y) g x y := (p.set0 x).set1 y
theorem PB.puto {w : World} {g g' : Nat} {h l : Int} (p : PB w g h l) (hg : g ≠ g') (x y : Int) : PB (wput w g' x y) g h l := (p.other hg).other hg
theorem below_put {C : Nat} {a w : World} (b : Below C a w) {g : Nat} (hg : C ≤ g) (x y : Int) : Below C a (wput w g x y) := (b.setCell hg _).setCell hg _
theorem wput_size (w : World) (g : Nat) (x y : Int) : (wput w g x y).heap.size = w.heap.size := by unfold wput; simp only [World.size_setCell]
/-- A call of the region that hands back a number. -/
theorem GivesW.call {w w' : World} {n : Int} {e : Ending} (h : GivesW w n e w') : ∃ u, e = .returned u ∧ GivesW w n (.returned u) w' := by
  obtain ⟨a, b, rfl, h⟩ := h
  exact ⟨_, rfl, a, b, rfl, h⟩
theorem GivesW.open {w w' : World} {n : Int} {u : Value} (h : GivesW w n (.returned u) w') : ∃ a b : Int, u = pw a b ∧ half a ∧ half b ∧ a * 18446744073709551616 + b = n ∧ Below w.heap.size w w' := by
  obtain ⟨a, b, e, h⟩ := h
  cases e
  exact ⟨a, b, rfl, h⟩

set_option maxRecDepth 100000 in
set_option maxHeartbeats 400000 in
theorem neg_any (a b : Int) (ha : half a) (hb : half b) (w : World) :
    Calls Try.prog 13 #[pw a b] w (GivesW w ((-(a * 18446744073709551616 + b)) % 340282366920938463463374607431768211456)) := by
  have x0 := notM a ha.1 ha.2
  have x1 := notM b hb.1 hb.2
  have p0 : PB ((w.alloc (.cells #[.int .u64 a, .int .u64 b] 24)).alloc (.cells #[.int .u64 0, .int .u64 0] 24)) w.heap.size a b := PB.alloc (PB.new _ _ _) _
  have q0 : PB ((w.alloc (.cells #[.int .u64 a, .int .u64 b] 24)).alloc (.cells #[.int .u64 0, .int .u64 0] 24)) (w.heap.size + 1) 0 0 := PB.at_ _ (by simp only [World.size_alloc]) _ _
  have b0 : Below w.heap.size w ((w.alloc (.cells #[.int .u64 a, .int .u64 b] 24)).alloc (.cells #[.int .u64 0, .int .u64 0] 24)) := (Below.al _ _).alloc (by simp only [World.size_alloc]; omega) _
  go_enter Try.func13, Try.ntmps13
  go_wp2_with fail
  refine wp_region_held (S := fun W => PB W w.heap.size a b) (by kernel_rfl) ?_
  change wpAnyH _ _ _ _ _ _ _ _ (((w.alloc (.cells #[.int .u64 a, .int .u64 b] 24)).alloc (.cells #[.int .u64 0, .int .u64 0] 24))).drew
  replace p0 : PB ((w.alloc (.cells #[.int .u64 a, .int .u64 b] 24)).alloc (.cells #[.int .u64 0, .int .u64 0] 24)).drew w.heap.size a b := p0
  replace q0 : PB ((w.alloc (.cells #[.int .u64 a, .int .u64 b] 24)).alloc (.cells #[.int .u64 0, .int .u64 0] 24)).drew (w.heap.size + 1) 0 0 := q0
  replace b0 : Below w.heap.size w ((w.alloc (.cells #[.int .u64 a, .int .u64 b] 24)).alloc (.cells #[.int .u64 0, .int .u64 0] 24)).drew := b0.drew
  generalize (((w.alloc (.cells #[.int .u64 a, .int .u64 b] 24)).alloc (.cells #[.int .u64 0, .int .u64 0] 24))).drew = w1 at *
  have hS : PB w1 w.heap.size a b := p0
  have hl1 := q0.lt
  refine wpAnyH_take (oi := ⟨_, _, _, _, _, _⟩) (i := 0) (v := .pointer (some ⟨w.heap.size, 0, none⟩)) rfl (by kernel_rfl) (by kernel_rfl) (by kernel_rfl) (fun _ _ _ h => h) (Or.inl ⟨by rfl, fun _ _ => rfl⟩) hS ?_
  try simp only [Act.put, List.setIfInBounds_toArray, List.set_cons_zero, List.set_cons_succ]
  refine wpAnyH_take (oi := ⟨_, _, _, _, _, _⟩) (i := 1) (v := .int .u64 (a)) rfl (by kernel_rfl) (by kernel_rfl) (by kernel_rfl) (fun _ _ _ h => h) (yif_load rfl 22 (.tmp 3) rfl _ _ rfl fun w h => load_one aggU64 h.c0) hS ?_
  try simp only [Act.put, List.setIfInBounds_toArray, List.set_cons_zero, List.set_cons_succ]
  refine wpAnyH_take (oi := ⟨_, _, _, _, _, _⟩) (i := 2) (v := .int .u64 (18446744073709551615 - a)) rfl (by kernel_rfl) (by kernel_rfl) (by kernel_rfl) (fun _ _ _ h => h) (Or.inl ⟨by rfl, fun _ _ => by go_simp; exact x0⟩) hS ?_
  try simp only [Act.put, List.setIfInBounds_toArray, List.set_cons_zero, List.set_cons_succ]
  refine wpAnyH_take (oi := ⟨_, _, _, _, _, _⟩) (i := 3) (v := .pointer (some ⟨w.heap.size, 1, none⟩)) rfl (by kernel_rfl) (by kernel_rfl) (by kernel_rfl) (fun _ _ _ h => h) (Or.inl ⟨by rfl, fun _ _ => by go_simp⟩) hS ?_
  try simp only [Act.put, List.setIfInBounds_toArray, List.set_cons_zero, List.set_cons_succ]
  refine wpAnyH_take (oi := ⟨_, _, _, _, _, _⟩) (i := 4) (v := .int .u64 (b)) rfl (by kernel_rfl) (by kernel_rfl) (by kernel_rfl) (fun _ _ _ h => h) (yif_load rfl 22 (.tmp 6) rfl _ _ rfl fun w h => load_one aggU64 h.c1) hS ?_
  try simp only [Act.put, List.setIfInBounds_toArray, List.set_cons_zero, List.set_cons_succ]
  refine wpAnyH_take (oi := ⟨_, _, _, _, _, _⟩) (i := 5) (v := .int .u64 (18446744073709551615 - b)) rfl (by kernel_rfl) (by kernel_rfl) (by kernel_rfl) (fun _ _ _ h => h) (Or.inl ⟨by rfl, fun _ _ => by go_simp; exact x1⟩) hS ?_
  try simp only [Act.put, List.setIfInBounds_toArray, List.set_cons_zero, List.set_cons_succ]
  refine wpAnyH_take (oi := ⟨_, _, _, _, _, _⟩) (i := 6) (v := pw (18446744073709551615 - a) (18446744073709551615 - b)) rfl (by kernel_rfl) (by kernel_rfl) (by kernel_rfl) (fun _ _ _ h => h) (Or.inl ⟨by rfl, fun _ _ => by go_simp⟩) hS ?_
  try simp only [Act.put, List.setIfInBounds_toArray, List.set_cons_zero, List.set_cons_succ]
  refine wpAnyH_all (rs := [7]) (by kernel_rfl) (by simp) fun i hi => ?_
  obtain rfl : i = 7 := by simpa using hi
  refine op_call (om := ⟨_, _, _, _, _, _⟩) (fn := 15) (args := #[.int .i64 1]) (R := fun u w' => GivesW w1 (1 % 340282366920938463463374607431768211456) (.returned u) w') rfl rfl (by go_simp)
    ((of_any 1 (by decide) (by decide) w1).mono fun e w' h => h.call) _ _ rfl rfl ?_
  rintro u w2 hu
  obtain ⟨c, d, rfl, hc, hd, ec, bw2⟩ := hu.open
  replace q0 := q0.below bw2 q0.lt
  replace b0 := b0.trans (bw2.mono b0.size)
  have hS := hS.below bw2 (by omega)
  refine ⟨hS, ?_⟩
  try simp only [Act.put, List.setIfInBounds_toArray, List.set_cons_zero, List.set_cons_succ]
  refine wpAnyH_all (rs := [8]) (by kernel_rfl) (by simp) fun i hi => ?_
  obtain rfl : i = 8 := by simpa using hi
  refine op_call (om := ⟨_, _, _, _, _, _⟩) (fn := 11) (args := #[pw (18446744073709551615 - a) (18446744073709551615 - b), pw c d]) (R := fun u w' => GivesW w2 (((18446744073709551615 - a) * 18446744073709551616 + (18446744073709551615 - b) + (c * 18446744073709551616 + d)) % 340282366920938463463374607431768211456) (.returned u) w') rfl rfl (by go_simp)
    ((add_any _ _ c d (by unfold half at *; omega) (by unfold half at *; omega) hc hd w2).mono fun e w' h => h.call) _ _ rfl rfl ?_
  rintro u w3 hu
  obtain ⟨x, y, rfl, hx, hy, ex, bw3⟩ := hu.open
  replace q0 := q0.below bw3 q0.lt
  replace b0 := b0.trans (bw3.mono b0.size)
  have hS := hS.below bw3 hS.lt
  refine ⟨hS, ?_⟩
  try simp only [Act.put, List.setIfInBounds_toArray, List.set_cons_zero, List.set_cons_succ]
  refine wpAnyH_all (rs := [9]) (by kernel_rfl) (by simp) fun i hi => ?_
  obtain rfl : i = 9 := by simpa using hi
  refine wpOp_skip (om := ⟨_, _, _, _, _, _⟩) rfl rfl (ex_store 24 (.tmp 2) (.tmp 11) rfl _ _ rfl rfl (q0.store x y)) ?_
  refine ⟨hS.puto (by omega) x y, ?_⟩
  try simp only [Act.put, List.setIfInBounds_toArray, List.set_cons_zero, List.set_cons_succ]
  refine wpAnyH_done (by kernel_rfl) ?_ _
  try simp only [Act.put, List.setIfInBounds_toArray, List.set_cons_zero, List.set_cons_succ]
  go_wp2_with fail
  refine ret_w rfl rfl rfl (q0.put x y) hx hy ?_ (below_put b0 (by omega) x y)
  omega
set_option maxRecDepth 100000 in
set_option maxHeartbeats 400000 in
theorem rneg_any (a b : Int) (ha : half a) (hb : half b) (w : World) :
    Calls Try.prog 14 #[pw a b] w (GivesW w ((-(a * 18446744073709551616 + b)) % 340282366920938463463374607431768211456)) := by
  have x0 := notM a ha.1 ha.2
  have x1 := notM b hb.1 hb.2
  have p0 : PB ((w.alloc (.cells #[.int .u64 a, .int .u64 b] 24)).alloc (.cells #[.int .u64 0, .int .u64 0] 24)) w.heap.size a b := PB.alloc (PB.new _ _ _) _
  have q0 : PB ((w.alloc (.cells #[.int .u64 a, .int .u64 b] 24)).alloc (.cells #[.int .u64 0, .int .u64 0] 24)) (w.heap.size + 1) 0 0 := PB.at_ _ (by simp only [World.size_alloc]) _ _
  have b0 : Below w.heap.size w ((w.alloc (.cells #[.int .u64 a, .int .u64 b] 24)).alloc (.cells #[.int .u64 0, .int .u64 0] 24)) := (Below.al _ _).alloc (by simp only [World.size_alloc]; omega) _
  go_enter Try.func14, Try.ntmps14
  go_wp2_with fail
  refine (radd_any _ _ 0 1 (by unfold half at *; omega) (by unfold half at *; omega) (by unfold half; decide) (by unfold half; decide) _).mono ?_
  rintro e w3 ⟨x, y, rfl, hx, hy, ex, b3⟩
  replace q0 := q0.below b3 q0.lt
  replace b0 := b0.trans (b3.mono b0.size)
  clear p0 b3
  have QS := Lib.hid (q0.store x y)
  go_wp2_with ((with_reducible refine here (op := .store 24 (.tmp 2) (.tmp 11)) ?_); refine wpList_store_run rfl 24 _ _ rfl _ _ rfl rfl QS.out ?_)
  refine ret_w rfl rfl rfl (q0.put x y) hx hy ?_ (below_put b0 (by omega) x y)
  omega
set_option maxRecDepth 100000 in
set_option maxHeartbeats 400000 in
theorem twice_any (a b : Int) (ha : half a) (hb : half b) (w : World) :
    Calls Try.prog 35 #[pw a b] w (GivesW w ((a * 18446744073709551616 + b + (a * 18446744073709551616 + b)) % 340282366920938463463374607431768211456)) := by
  have p0 : PB ((w.alloc (.cells #[.int .u64 a, .int .u64 b] 24)).alloc (.cells #[.int .u64 0, .int .u64 0] 24)) w.heap.size a b := PB.alloc (PB.new _ _ _) _
  have q0 : PB ((w.alloc (.cells #[.int .u64 a, .int .u64 b] 24)).alloc (.cells #[.int .u64 0, .int .u64 0] 24)) (w.heap.size + 1) 0 0 := PB.at_ _ (by simp only [World.size_alloc]) _ _
  have b0 : Below w.heap.size w ((w.alloc (.cells #[.int .u64 a, .int .u64 b] 24)).alloc (.cells #[.int .u64 0, .int .u64 0] 24)) := (Below.al _ _).alloc (by simp only [World.size_alloc]; omega) _
  go_enter Try.func35, Try.ntmps35
  go_wp2_with fail
  refine (radd_any a b a b ha hb ha hb _).mono ?_
  rintro e w3 ⟨x, y, rfl, hx, hy, ex, b3⟩
  replace q0 := q0.below b3 q0.lt
  replace b0 := b0.trans (b3.mono b0.size)
  clear p0 b3
  have QS := Lib.hid (q0.store x y)
  go_wp2_with ((with_reducible refine here (op := .store 24 (.tmp 2) (.tmp 5)) ?_); refine wpList_store_run rfl 24 _ _ rfl _ _ rfl rfl QS.out ?_)
  refine ret_w rfl rfl rfl (q0.put x y) hx hy ex (below_put b0 (by omega) x y)
set_option maxRecDepth 100000 in
set_option maxHeartbeats 400000 in
theorem below0_any (n : Int) (h0 : -9223372036854775808 ≤ n) (h1 : n < 9223372036854775808) (w : World) :
    Calls Try.prog 32 #[.int .i64 n] w fun e w' => e = .returned (.bool (decide (n < 0))) ∧ w = w' := by
  by_cases hn : n < 0
  · have hb : (n / 9223372036854775808 != 0) = true := by simp; omega
    rw [decide_eq_true hn]
    go_enter Try.func32, Try.ntmps32
    go_wp2_with fail
    go_ret
    exact ⟨by simp [hb], rfl⟩
  · have hb : (n / 9223372036854775808 != 0) = false := by simp; omega
    rw [decide_eq_false hn]
    go_enter Try.func32, Try.ntmps32
    go_wp2_with fail
    go_ret
    exact ⟨by simp [hb], rfl⟩
set_option maxRecDepth 100000 in
set_option maxHeartbeats 400000 in
theorem wbelow0_any (a b : Int) (ha : half a) (w : World) :
    Calls Try.prog 56 #[pw a b] w fun e w' => e = .returned (.bool (negW a)) ∧ Below w.heap.size w w' := by
  have hb : (a / 9223372036854775808 != 0) = negW a := by unfold negW half at *; rw [Bool.eq_iff_iff]; simp; omega
  go_enter Try.func56, Try.ntmps56
  go_wp2_with fail
  go_ret
  exact ⟨by simp [hb], Below.al _ _⟩
set_option maxRecDepth 100000 in
set_option maxHeartbeats 400000 in
theorem turned_true (a b : Int) (ha : half a) (hb : half b) (w : World) :
    Calls Try.prog 30 #[pw a b, .bool true] w (GivesW w (sgn true (a * 18446744073709551616 + b) % 340282366920938463463374607431768211456)) := by
  have p0 : PB ((w.alloc (.cells #[.int .u64 a, .int .u64 b] 24)).alloc (.cells #[.int .u64 0, .int .u64 0] 24)) w.heap.size a b := PB.alloc (PB.new _ _ _) _
  have q0 : PB ((w.alloc (.cells #[.int .u64 a, .int .u64 b] 24)).alloc (.cells #[.int .u64 0, .int .u64 0] 24)) (w.heap.size + 1) 0 0 := PB.at_ _ (by simp only [World.size_alloc]) _ _
  have b0 : Below w.heap.size w ((w.alloc (.cells #[.int .u64 a, .int .u64 b] 24)).alloc (.cells #[.int .u64 0, .int .u64 0] 24)) := (Below.al _ _).alloc (by simp only [World.size_alloc]; omega) _
  go_enter Try.func30, Try.ntmps30
  go_wp2_with fail
  refine (neg_any a b ha hb _).mono ?_
  rintro e w3 ⟨x, y, rfl, hx, hy, ex, b3⟩
  replace q0 := q0.below b3 q0.lt
  replace b0 := b0.trans (b3.mono b0.size)
  clear p0 b3
  have QS := Lib.hid (q0.store x y)
  go_wp2_with ((with_reducible refine here (op := .store 24 (.tmp 4) (.tmp 7)) ?_); refine wpList_store_run rfl 24 _ _ rfl _ _ rfl rfl QS.out ?_)
  refine ret_w rfl rfl rfl (q0.put x y) hx hy ex (below_put b0 (by omega) x y)
set_option maxRecDepth 100000 in
set_option maxHeartbeats 400000 in
theorem turned_false (a b : Int) (ha : half a) (hb : half b) (w : World) :
    Calls Try.prog 30 #[pw a b, .bool false] w (GivesW w (sgn false (a * 18446744073709551616 + b) % 340282366920938463463374607431768211456)) := by
  have p0 : PB ((w.alloc (.cells #[.int .u64 a, .int .u64 b] 24)).alloc (.cells #[.int .u64 0, .int .u64 0] 24)) w.heap.size a b := PB.alloc (PB.new _ _ _) _
  have q0 : PB ((w.alloc (.cells #[.int .u64 a, .int .u64 b] 24)).alloc (.cells #[.int .u64 0, .int .u64 0] 24)) (w.heap.size + 1) 0 0 := PB.at_ _ (by simp only [World.size_alloc]) _ _
  have b0 : Below w.heap.size w ((w.alloc (.cells #[.int .u64 a, .int .u64 b] 24)).alloc (.cells #[.int .u64 0, .int .u64 0] 24)) := (Below.al _ _).alloc (by simp only [World.size_alloc]; omega) _
  go_enter Try.func30, Try.ntmps30
  clear p0 q0 b0
  go_wp2_with fail
  refine ret_w rfl rfl rfl (PB.at_ _ (by simp only [World.size_alloc]) _ _) ha hb ?_ ((Below.al _ _).alloc (by simp only [World.size_alloc]; omega) _)
  unfold half sgn at *
  simp only [Bool.false_eq_true, if_false]
  omega
theorem turned_any (a b : Int) (ha : half a) (hb : half b) (s : Bool) (w : World) : Calls Try.prog 30 #[pw a b, .bool s] w (GivesW w (sgn s (a * 18446744073709551616 + b) % 340282366920938463463374607431768211456)) := by
  cases s
  · exact turned_false a b ha hb w
  · exact turned_true a b ha hb w
theorem abs_sgn (a b : Int) (ha : half a) (hb : half b) : sgn (negW a) (a * 18446744073709551616 + b) % 340282366920938463463374607431768211456 = absW a b := by
  unfold sgn negW absW half at *
  by_cases h : a < 9223372036854775808
  · rw [if_pos h, decide_eq_false (by omega)]
    simp only [Bool.false_eq_true, if_false]
    omega
  · rw [if_neg h, decide_eq_true (by omega)]
    simp only [if_true]
    omega
set_option maxRecDepth 100000 in
set_option maxHeartbeats 400000 in
theorem wsize_any (a b : Int) (ha : half a) (hb : half b) (w : World) :
    Calls Try.prog 50 #[pw a b] w (GivesW w (absW a b)) := by
  have p0 : PB ((w.alloc (.cells #[.int .u64 a, .int .u64 b] 24)).alloc (.cells #[.int .u64 0, .int .u64 0] 24)) w.heap.size a b := PB.alloc (PB.new _ _ _) _
  have q0 : PB ((w.alloc (.cells #[.int .u64 a, .int .u64 b] 24)).alloc (.cells #[.int .u64 0, .int .u64 0] 24)) (w.heap.size + 1) 0 0 := PB.at_ _ (by simp only [World.size_alloc]) _ _
  have b0 : Below w.heap.size w ((w.alloc (.cells #[.int .u64 a, .int .u64 b] 24)).alloc (.cells #[.int .u64 0, .int .u64 0] 24)) := (Below.al _ _).alloc (by simp only [World.size_alloc]; omega) _
  go_enter Try.func50, Try.ntmps50
  go_wp2_with fail
  refine wp_region_held (S := fun W => PB W w.heap.size a b) (by kernel_rfl) ?_
  change wpAnyH _ _ _ _ _ _ _ _ (((w.alloc (.cells #[.int .u64 a, .int .u64 b] 24)).alloc (.cells #[.int .u64 0, .int .u64 0] 24))).drew
  replace p0 : PB ((w.alloc (.cells #[.int .u64 a, .int .u64 b] 24)).alloc (.cells #[.int .u64 0, .int .u64 0] 24)).drew w.heap.size a b := p0
  replace q0 : PB ((w.alloc (.cells #[.int .u64 a, .int .u64 b] 24)).alloc (.cells #[.int .u64 0, .int .u64 0] 24)).drew (w.heap.size + 1) 0 0 := q0
  replace b0 : Below w.heap.size w ((w.alloc (.cells #[.int .u64 a, .int .u64 b] 24)).alloc (.cells #[.int .u64 0, .int .u64 0] 24)).drew := b0.drew
  generalize (((w.alloc (.cells #[.int .u64 a, .int .u64 b] 24)).alloc (.cells #[.int .u64 0, .int .u64 0] 24))).drew = w1 at *
  have hS : PB w1 w.heap.size a b := p0
  have hl1 := q0.lt
  refine wpAnyH_take (oi := ⟨_, _, _, _, _, _⟩) (i := 0) (v := pw a b) rfl (by kernel_rfl) (by kernel_rfl) (by kernel_rfl) (fun _ _ _ h => h) (yif_load rfl 24 (.tmp 1) rfl _ _ rfl fun w h => h.load) hS ?_
  try simp only [Act.put, List.setIfInBounds_toArray, List.set_cons_zero, List.set_cons_succ]
  refine wpAnyH_take (oi := ⟨_, _, _, _, _, _⟩) (i := 1) (v := pw a b) rfl (by kernel_rfl) (by kernel_rfl) (by kernel_rfl) (fun _ _ _ h => h) (yif_load rfl 24 (.tmp 1) rfl _ _ rfl fun w h => h.load) hS ?_
  try simp only [Act.put, List.setIfInBounds_toArray, List.set_cons_zero, List.set_cons_succ]
  refine wpAnyH_all (rs := [2]) (by kernel_rfl) (by simp) fun i hi => ?_
  obtain rfl : i = 2 := by simpa using hi
  refine op_call (om := ⟨_, _, _, _, _, _⟩) (fn := 56) (args := #[pw a b]) (R := fun u w' => u = .bool (negW a) ∧ Below w1.heap.size w1 w') rfl rfl (by go_simp)
    ((wbelow0_any a b ha w1).mono fun e w' h => ⟨_, h.1, rfl, h.2⟩) _ _ rfl rfl ?_
  rintro u w2 ⟨hu, bw2⟩
  subst hu
  have hS := hS.below bw2 hS.lt
  replace q0 := q0.below bw2 q0.lt
  replace b0 := b0.trans (bw2.mono b0.size)
  refine ⟨hS, ?_⟩
  try simp only [Act.put, List.setIfInBounds_toArray, List.set_cons_zero, List.set_cons_succ]
  refine wpAnyH_all (rs := [3]) (by kernel_rfl) (by simp) fun i hi => ?_
  obtain rfl : i = 3 := by simpa using hi
  refine op_call (om := ⟨_, _, _, _, _, _⟩) (fn := 30) (args := #[pw a b, .bool (negW a)]) (R := fun u w' => GivesW w2 (sgn (negW a) (a * 18446744073709551616 + b) % 340282366920938463463374607431768211456) (.returned u) w') rfl rfl (by go_simp)
    ((turned_any a b ha hb (negW a) w2).mono fun e w' h => h.call) _ _ rfl rfl ?_
  rintro u w3 hu
  obtain ⟨x, y, rfl, hx, hy, ex, bw3⟩ := hu.open
  replace q0 := q0.below bw3 q0.lt
  replace b0 := b0.trans (bw3.mono b0.size)
  have hS := hS.below bw3 hS.lt
  refine ⟨hS, ?_⟩
  try simp only [Act.put, List.setIfInBounds_toArray, List.set_cons_zero, List.set_cons_succ]
  refine wpAnyH_all (rs := [4]) (by kernel_rfl) (by simp) fun i hi => ?_
  obtain rfl : i = 4 := by simpa using hi
  refine wpOp_skip (om := ⟨_, _, _, _, _, _⟩) rfl rfl (ex_store 24 (.tmp 2) (.tmp 6) rfl _ _ rfl rfl (q0.store x y)) ?_
  refine ⟨hS.puto (by omega) x y, ?_⟩
  try simp only [Act.put, List.setIfInBounds_toArray, List.set_cons_zero, List.set_cons_succ]
  refine wpAnyH_done (by kernel_rfl) ?_ _
  try simp only [Act.put, List.setIfInBounds_toArray, List.set_cons_zero, List.set_cons_succ]
  go_wp2_with fail
  refine ret_w rfl rfl rfl (q0.put x y) hx hy ?_ (below_put b0 (by omega) x y)
  rw [← abs_sgn a b ha hb]
  omega
set_option maxRecDepth 100000 in
set_option maxHeartbeats 400000 in
theorem size_any (n : Int) (h0 : -9223372036854775808 ≤ n) (h1 : n < 9223372036854775808) (w : World) :
    Calls Try.prog 31 #[.int .i64 n] w fun e w' => e = .returned (.int .u64 (absI n)) ∧ Below w.heap.size w w' := by
  go_enter Try.func31, Try.ntmps31
  go_wp2_with fail
  refine (of_any n h0 h1 w).mono ?_
  rintro e w1 ⟨x, y, rfl, hx, hy, ex, b1⟩
  go_wp2_with fail
  refine (wsize_any x y hx hy w1).mono ?_
  rintro e w2 ⟨c, d, rfl, hc, hd, ed, b2⟩
  have hv : d = absI n := by
    unfold absW absI half at *
    split at ed <;> split <;> omega
  subst hv
  have hf := fun w => field1 c (absI n) w
  go_wp2_with fail
  go_ret
  exact ⟨rfl, b1.trans (b2.mono b1.size)⟩
set_option maxRecDepth 100000 in
set_option maxHeartbeats 400000 in
theorem rsize_any (n : Int) (h0 : -9223372036854775808 ≤ n) (h1 : n < 9223372036854775808) (w : World) :
    Calls Try.prog 33 #[.int .i64 n] w fun e w' => e = .returned (.int .u64 (absI n)) ∧ w = w' := by
  unfold absI
  by_cases hn : n < 0
  · rw [if_pos hn]
    go_enter Try.func33, Try.ntmps33
    go_wp2_with fail
    go_ret
    refine ⟨congrArg Ending.returned (congrArg (Value.int IntKind.u64) ?_), rfl⟩
    try simp only [IntKind.wrap_u64]
    try omega
  · rw [if_neg hn]
    go_enter Try.func33, Try.ntmps33
    go_wp2_with fail
    go_ret
    exact ⟨rfl, rfl⟩
end Go.Proofs.Ytipolhocplidlaa.Wd
