/-
  PrOf
-/
import Derived.Test.YthbkjndnconakaaPrRef
import Derived.Test.YthbkjndnconakaaGA
namespace Go.Proofs.Ythbkjndnconakaa.Pr
open Go.RowKit Go.Maps
set_option linter.unusedVariables false
set_option linter.unusedSimpArgs false

def ofV (n : Int) : PV := if 1 ≤ n ∧ n ≤ 141 then prAt n.toNat else prZ
def isV (n : Int) : Bool := decide (1 ≤ n ∧ n ≤ 141)
def xtV (n : Int) : Int := if 1 ≤ n ∧ n ≤ 141 then n * 8 else 0
def numV (x : Int) : Int := if x % 8 = 0 ∧ 8 ≤ x ∧ x ≤ 1128 then x / 8 else 0
set_option maxRecDepth 100000 in
theorem isone_any (n : Int) (w : World) : Calls Try.prog 19 #[.int .i64 n] w fun e w' => e = .returned (.bool (isV n)) ∧ w' = w := by
  unfold isV
  by_cases h1 : 1 ≤ n
  · have d1 : decide ((1 : Int) ≤ n) = true := by simp only [decide_eq_true_eq]; omega
    have e1 : decide (1 ≤ n ∧ n ≤ 141) = decide (n ≤ 141) := by simp only [decide_eq_decide]; omega
    rw [e1]
    clear e1 h1
    go_enter Try.func19, Try.ntmps19
    go_wp2_with fail
    go_ret
    exact ⟨rfl, rfl⟩
  · have d1 : decide ((1 : Int) ≤ n) = false := by simp only [decide_eq_false_iff_not]; omega
    have e1 : decide (1 ≤ n ∧ n ≤ 141) = false := by simp only [decide_eq_false_iff_not]; omega
    rw [e1]
    clear e1 h1
    go_enter Try.func19, Try.ntmps19
    go_wp2_with fail
    go_ret
    exact ⟨rfl, rfl⟩
theorem size_p5 (p : PV) : (Try.prog.info? 24).map (·.size) = some (pcl p).toArray.size := size_p
theorem buildP (w : World) : (Instr.build 24 #[]).run Try.prog w = .ok (pv prZ) w := by kernel_rfl
theorem one_pcl1 (p : PV) : ((pcl p).toArray).all (·.oneCell') = true := all_oneCell_toArray (fun v hv => by
  simp only [pcl, List.mem_cons, List.not_mem_nil, or_false] at hv
  rcases hv with rfl | rfl | rfl | rfl | rfl <;> rfl)
theorem storeP {w : World} {b : Nat} {q : PV} (h : w.heap[b]? = some (.cells (pcl q).toArray 24 (0, 0))) (p : PV) :
    (Instr.storeAt 24 (.pointer (some ⟨b, 0, none⟩)) (pv p)).run Try.prog w = .ok () (w.setCells b 0 (pcl p)) ∧ (w.setCells b 0 (pcl p)).heap[b]? = some (.cells (pcl p).toArray 24 (0, 0)) ∧ Keeps (· = b) w (w.setCells b 0 (pcl p)) := by
  obtain ⟨h1, h2⟩ := setCells_cells (ys := pcl p) h rfl
  have := run_storeAt_mid (P := Try.prog) w b 0 24 (pcl p).toArray (there_cells h 0 _ (by rw [List.size_toArray]; exact Nat.le_refl _)) (by rw [size_p]; rfl) (one_pcl1 p)
  exact ⟨this, h1, h2⟩
set_option maxRecDepth 100000 in
set_option maxHeartbeats 1000000 in
theorem of_any (n : Int) (hn : -9223372036854775808 ≤ n ∧ n ≤ 9223372036854775807) (w : World) : Calls Try.prog 8 #[.int .i64 n] w (Gv w (.tuple #[pv (ofV n), .bool (isV n)])) := by
  have HI := Lib.hid (isone_any n (w.alloc (.cells (pcl prZ).toArray 24)))
  have HB0 := Lib.hid ((Below.refl w.heap.size w).alloc (Nat.le_refl _) (.cells (pcl prZ).toArray 24))
  have hc0 := heap_alloc_new w (.cells (pcl prZ).toArray 24)
  have HC0 := Lib.hid hc0
  clear hc0
  have wn : IntKind.i64.wrap n = n := by simp only [IntKind.wrap, IntKind.bits, IntKind.signed, Bool.true_and]; split <;> simp_all <;> omega
  by_cases h : 1 ≤ n ∧ n ≤ 141
  · have hi : isV n = true := by unfold isV; simpa using h
    rw [hi] at HI ⊢
    obtain ⟨k, rfl⟩ : ∃ k : Nat, n = (k : Int) := ⟨n.toNat, by omega⟩
    have ho : ofV (k : Int) = prAt k := by unfold ofV; rw [if_pos h]; rfl
    rw [ho]
    have HX := fun W => Lib.hid (idxP W k (by omega))
    have HT := Lib.hid (fun W => table_any W)
    generalize tabV = tv at *
    clear hi ho h
    go_enter Try.func8, Try.ntmps8
    go_wp2_with fail
    refine HI.out.mono ?_
    rintro e w1 ⟨rfl, rfl⟩
    go_wp2_with fail
    refine (HT.out _).mono ?_
    rintro e w2 ⟨rfl, b2⟩
    have hc2 : w2.heap[w.heap.size]? = some (.cells (pcl prZ).toArray 24 (0, 0)) := (b2.block _ (by rw [World.size_alloc]; omega)).trans HC0.out
    obtain ⟨s1, s2, s3⟩ := storeP hc2 (prAt k)
    have S1 := Lib.hid s1
    have S2 := Lib.hid s2
    have S3 := Lib.hid (s3.old (HB0.out.trans (b2.mono HB0.out.size)) (Nat.le_refl _))
    clear b2 hc2 s1 s2 s3
    go_wp2_with (first
      | ((with_reducible refine at_ (op := .index 37 (.tmp 8) (.tmp 9)) ?_); refine wpList_val rfl _ (ex_index 37 (.tmp 8) (.tmp 9) rfl _ _ _ rfl rfl (HX _).out) ?_)
      | ((with_reducible refine at_ (op := .store 24 (.tmp 2) (.tmp 10)) ?_); refine wpList_store_run rfl 24 (.tmp 2) (.tmp 10) rfl _ (pv (prAt k)) rfl rfl S1.out ?_))
    refine bodyPost_ret (v := .tuple #[pv (prAt k), .bool true]) ?_ rfl ⟨rfl, S3.out⟩
    exact results_row_tmp rfl _ _ w.heap.size 24 _ (0, 0) _ _ rfl rfl S2.out Try.underlying24 rfl size_p
  · have hi : isV n = false := by unfold isV; simpa using h
    rw [hi] at HI ⊢
    have ho : ofV n = prZ := by unfold ofV; rw [if_neg h]
    rw [ho]
    obtain ⟨s1, s2, s3⟩ := storeP HC0.out prZ
    have S1 := Lib.hid s1
    have S2 := Lib.hid s2
    have S3 := Lib.hid (s3.old HB0.out (Nat.le_refl _))
    clear hi ho h s1 s2 s3
    have hbd := fun W => Lib.hid (buildP W)
    go_enter Try.func8, Try.ntmps8
    go_wp2_with fail
    refine HI.out.mono ?_
    rintro e w1 ⟨rfl, rfl⟩
    go_wp2_with (first
      | ((with_reducible refine at_ (op := .build 24 #[]) ?_); refine wpList_val rfl _ (ex_build0 24 rfl _ (hbd _).out) ?_)
      | ((with_reducible refine at_ (op := .store 24 (.tmp 2) (.tmp 7)) ?_); refine wpList_store_run rfl 24 (.tmp 2) (.tmp 7) rfl _ (pv prZ) rfl rfl S1.out ?_))
    refine bodyPost_ret (v := .tuple #[pv prZ, .bool false]) ?_ rfl ⟨rfl, S3.out⟩
    exact results_row_tmp rfl _ _ w.heap.size 24 _ (0, 0) _ _ rfl rfl S2.out Try.underlying24 rfl size_p

set_option maxRecDepth 100000 in
set_option maxHeartbeats 2000000 in
theorem rof_any (n : Int) (hn : -9223372036854775808 ≤ n ∧ n ≤ 9223372036854775807) (w : World) : Calls Try.prog 9 #[.int .i64 n] w (Gv w (.tuple #[pv (ofV n), .bool (isV n)])) := by
  have HT := Lib.hid (rtable_any (w.alloc (.cells (pcl prZ).toArray 24)))
  have hb0 := (Below.refl w.heap.size w).alloc (Nat.le_refl _) (.cells (pcl prZ).toArray 24)
  have hb1 := hb0.alloc hb0.size (.cells rowC.toArray 42)
  have hc1 : ((w.alloc (.cells (pcl prZ).toArray 24)).alloc (.cells rowC.toArray 42)).heap[w.heap.size]? = some (.cells (pcl prZ).toArray 24 (0, 0)) := (Below.heap_alloc _ _ _ (by simp)).trans (heap_alloc_new w _)
  have hr1 : RowR ((w.alloc (.cells (pcl prZ).toArray 24)).alloc (.cells rowC.toArray 42)) (w.heap.size + 1) := by
    have := heap_alloc_new (w.alloc (.cells (pcl prZ).toArray 24)) (.cells rowC.toArray 42)
    rwa [World.size_alloc] at this
  have hs1 : ((w.alloc (.cells (pcl prZ).toArray 24)).alloc (.cells rowC.toArray 42)).heap.size = w.heap.size + 2 := by simp
  rw [World.size_alloc] at HT
  generalize hw1 : (w.alloc (.cells (pcl prZ).toArray 24)).alloc (.cells rowC.toArray 42) = w1 at *
  have HB1 := Lib.hid hb1
  have HC1 := Lib.hid hc1
  have HR1 := Lib.hid hr1
  have HS1 := Lib.hid hs1
  clear hb0 hb1 hc1 hr1 hs1 hw1
  by_cases h : 1 ≤ n ∧ n ≤ 141
  · have hi : isV n = true := by unfold isV; simpa using h
    obtain ⟨k, hk⟩ : ∃ k : Nat, n = (k : Int) + 1 := ⟨(n - 1).toNat, by omega⟩
    have hk1 : k < 141 := by omega
    have ho : ofV n = prAt (k + 1) := by unfold ofV; rw [if_pos h]; congr 1; omega
    rw [hi, ho]
    obtain ⟨c0, c1, c2, c3⟩ := HR1.out.c k hk1
    have t1 : decide (n < 1) = false := by simp only [decide_eq_false_iff_not]; omega
    have t2 : decide ((141 : Int) < n) = false := by simp only [decide_eq_false_iff_not]; omega
    have wk : IntKind.i64.wrap (n - 1) = (k : Int) := by simp only [IntKind.wrap, IntKind.bits, IntKind.signed, Bool.true_and]; split <;> simp_all <;> omega
    have hal : Below w1.heap.size w1 (w1.alloc (.cells (rcl (prAt (k + 1))).toArray 42)) := (Below.refl _ _).alloc (Nat.le_refl _) _
    have hc2 : (w1.alloc (.cells (rcl (prAt (k + 1))).toArray 42)).heap[w.heap.size]? = some (.cells (pcl prZ).toArray 24 (0, 0)) := (hal.block _ (by have := HS1.out; omega)).trans HC1.out
    obtain ⟨s1, s2, s3⟩ := storeP hc2 (prAt (k + 1))
    have S1 := Lib.hid s1
    have S2 := Lib.hid s2
    have S3 := Lib.hid (s3.old (HB1.out.trans (hal.mono HB1.out.size)) (Nat.le_refl _))
    clear hal hc2 s1 s2 s3 hi ho h HB1 HC1 HR1 HS1 hk
    unfold pv pcl rcl at *
    generalize prAt (k + 1) = x at *
    obtain ⟨nm, tk, la, mj⟩ := x
    have e2 : ((mj : Int) == 2) = decide (mj = 2) := by rw [Bool.eq_iff_iff]; simp only [beq_iff_eq, decide_eq_true_eq]; omega
    generalize decide (mj = 2) = bc at *
    go_enter Try.func9, Try.ntmps9
    go_wp2_with fail
    refine HT.out.mono ?_
    rintro e w2 ⟨rfl, rfl⟩
    go_wp2_with ((with_reducible refine at_ (op := .store 24 (.tmp 2) (.tmp 33)) ?_); refine wpList_store_run rfl 24 (.tmp 2) (.tmp 33) rfl _ _ rfl rfl S1.out ?_)
    refine bodyPost_ret (v := .tuple #[.agg #[St nm, .int .i64 (tk : Int), .int .i64 (la : Int), .bool (decide (0 < mj)), .bool bc], .bool true]) ?_ rfl ⟨rfl, S3.out⟩
    exact results_row_tmp rfl _ _ w.heap.size 24 _ (0, 0) _ _ rfl rfl S2.out Try.underlying24 rfl size_p
  · have hi : isV n = false := by unfold isV; simpa using h
    have ho : ofV n = prZ := by unfold ofV; rw [if_neg h]
    rw [hi, ho]
    obtain ⟨s1, s2, s3⟩ := storeP HC1.out prZ
    have S1 := Lib.hid s1
    have S2 := Lib.hid s2
    have S3 := Lib.hid (s3.old HB1.out (Nat.le_refl _))
    clear hi ho s1 s2 s3 HB1 HC1 HR1 HS1
    have hbd := fun W => Lib.hid (buildP W)
    by_cases h1 : n < 1
    · have t1 : decide (n < 1) = true := by simp only [decide_eq_true_eq]; omega
      clear h h1
      go_enter Try.func9, Try.ntmps9
      go_wp2_with fail
      refine HT.out.mono ?_
      rintro e w2 ⟨rfl, rfl⟩
      go_wp2_with (first
        | ((with_reducible refine at_ (op := .build 24 #[]) ?_); refine wpList_val rfl _ (ex_build0 24 rfl _ (hbd _).out) ?_)
        | ((with_reducible refine at_ (op := .store 24 (.tmp 2) (.tmp 15)) ?_); refine wpList_store_run rfl 24 (.tmp 2) (.tmp 15) rfl _ (pv prZ) rfl rfl S1.out ?_))
      refine bodyPost_ret (v := .tuple #[pv prZ, .bool false]) ?_ rfl ⟨rfl, S3.out⟩
      exact results_row_tmp rfl _ _ w.heap.size 24 _ (0, 0) _ _ rfl rfl S2.out Try.underlying24 rfl size_p
    · have t1 : decide (n < 1) = false := by simp only [decide_eq_false_iff_not]; omega
      have t2 : decide ((141 : Int) < n) = true := by simp only [decide_eq_true_eq]; omega
      clear h h1
      go_enter Try.func9, Try.ntmps9
      go_wp2_with fail
      refine HT.out.mono ?_
      rintro e w2 ⟨rfl, rfl⟩
      go_wp2_with (first
        | ((with_reducible refine at_ (op := .build 24 #[]) ?_); refine wpList_val rfl _ (ex_build0 24 rfl _ (hbd _).out) ?_)
        | ((with_reducible refine at_ (op := .store 24 (.tmp 2) (.tmp 15)) ?_); refine wpList_store_run rfl 24 (.tmp 2) (.tmp 15) rfl _ (pv prZ) rfl rfl S1.out ?_))
      refine bodyPost_ret (v := .tuple #[pv prZ, .bool false]) ?_ rfl ⟨rfl, S3.out⟩
      exact results_row_tmp rfl _ _ w.heap.size 24 _ (0, 0) _ _ rfl rfl S2.out Try.underlying24 rfl size_p

set_option maxRecDepth 100000 in
theorem xt_any (n : Int) (hn : -9223372036854775808 ≤ n ∧ n ≤ 9223372036854775807) (w : World) : Calls Try.prog 10 #[.int .i64 n] w fun e w' => e = .returned (.int .i64 (xtV n)) ∧ w' = w := by
  have HI := Lib.hid (isone_any n w)
  have wn : IntKind.i64.wrap n = n := by simp only [IntKind.wrap, IntKind.bits, IntKind.signed, Bool.true_and]; split <;> simp_all <;> omega
  unfold xtV
  by_cases h : 1 ≤ n ∧ n ≤ 141
  · have hi : isV n = true := by unfold isV; simpa using h
    have w8 : IntKind.i64.wrap (n * 8) = n * 8 := by simp only [IntKind.wrap, IntKind.bits, IntKind.signed, Bool.true_and]; split <;> simp_all <;> omega
    rw [hi] at HI
    rw [if_pos h]
    clear hi h
    go_enter Try.func10, Try.ntmps10
    go_wp2_with fail
    refine HI.out.mono ?_
    rintro e w1 ⟨rfl, rfl⟩
    go_wp2_with fail
    go_ret
    exact ⟨rfl, rfl⟩
  · have hi : isV n = false := by unfold isV; simpa using h
    rw [hi] at HI
    rw [if_neg h]
    clear hi h
    go_enter Try.func10, Try.ntmps10
    go_wp2_with fail
    refine HI.out.mono ?_
    rintro e w1 ⟨rfl, rfl⟩
    go_wp2_with fail
    go_ret
    exact ⟨rfl, rfl⟩
set_option maxRecDepth 100000 in
theorem rxt_any (n : Int) (hn : -9223372036854775808 ≤ n ∧ n ≤ 9223372036854775807) (w : World) : Calls Try.prog 11 #[.int .i64 n] w (Gv w (.int .i64 (xtV n))) := by
  have HT := Lib.hid (rtable_any w)
  have HB := Lib.hid ((Below.refl w.heap.size w).alloc (Nat.le_refl _) (.cells rowC.toArray 42))
  have wn : IntKind.i64.wrap n = n := by simp only [IntKind.wrap, IntKind.bits, IntKind.signed, Bool.true_and]; split <;> simp_all <;> omega
  unfold xtV
  by_cases h1 : n < 1
  · have t1 : decide (n < 1) = true := by simp only [decide_eq_true_eq]; omega
    rw [if_neg (by omega)]
    clear h1
    go_enter Try.func11, Try.ntmps11
    go_wp2_with ((with_reducible refine at_ (d := some 7) ?_); refine wpList_skip (by rfl) ?_)
    go_ret
    exact ⟨rfl, Below.refl _ _⟩
  · have t1 : decide (n < 1) = false := by simp only [decide_eq_false_iff_not]; omega
    by_cases h2 : n ≤ 141
    · have t2 : decide ((141 : Int) < n) = false := by simp only [decide_eq_false_iff_not]; omega
      have w8 : IntKind.i64.wrap (8 * n) = n * 8 := by simp only [IntKind.wrap, IntKind.bits, IntKind.signed, Bool.true_and]; split <;> simp_all <;> omega
      rw [if_pos (by omega)]
      clear h1 h2
      go_enter Try.func11, Try.ntmps11
      go_wp2_with fail
      refine HT.out.mono ?_
      rintro e w1 ⟨rfl, rfl⟩
      go_wp2_with fail
      go_ret
      exact ⟨rfl, HB.out⟩
    · have t2 : decide ((141 : Int) < n) = true := by simp only [decide_eq_true_eq]; omega
      rw [if_neg (by omega)]
      clear h1 h2
      go_enter Try.func11, Try.ntmps11
      go_wp2_with fail
      refine HT.out.mono ?_
      rintro e w1 ⟨rfl, rfl⟩
      go_wp2_with fail
      go_ret
      exact ⟨rfl, HB.out⟩
theorem tm8 (x : Int) (h : x.tmod 8 = 0) : ∃ k : Int, x = 8 * k ∧ x.tdiv 8 = k := by
  refine ⟨x.tdiv 8, ?_, rfl⟩
  have := Int.mul_tdiv_add_tmod x 8
  omega
theorem numV_no (x : Int) (h : x.tmod 8 ≠ 0) : numV x = 0 := by
  unfold numV
  rw [if_neg]
  rintro ⟨h1, h2, h3⟩
  exact h (by rw [Int.tmod_eq_emod_of_nonneg (by omega)]; exact h1)
theorem numV_k (k : Int) : numV (8 * k) = if 1 ≤ k ∧ k ≤ 141 then k else 0 := by
  unfold numV
  by_cases h : 1 ≤ k ∧ k ≤ 141
  · rw [if_pos h, if_pos (by omega)]; omega
  · rw [if_neg h, if_neg (by omega)]
set_option maxRecDepth 100000 in
theorem number_any (x : Int) (hx : -9223372036854775808 ≤ x ∧ x ≤ 9223372036854775807) (w : World) : Calls Try.prog 12 #[.int .i64 x] w fun e w' => e = .returned (.int .i64 (numV x)) ∧ w' = w := by
  by_cases h : x.tmod 8 = 0
  · obtain ⟨k, hk, hd⟩ := tm8 x h
    have wk : IntKind.i64.wrap k = k := by simp only [IntKind.wrap, IntKind.bits, IntKind.signed, Bool.true_and]; split <;> simp_all <;> omega
    have HI := Lib.hid (isone_any k w)
    have hv := numV_k k
    rw [← hk] at hv
    rw [hv]
    have hiv : isV k = decide (1 ≤ k ∧ k ≤ 141) := rfl
    clear hv hk hx
    by_cases hh : 1 ≤ k ∧ k ≤ 141
    · rw [if_pos hh]
      have hi : isV k = true := by rw [hiv]; simpa using hh
      rw [hi] at HI
      clear hi hiv hh
      go_enter Try.func12, Try.ntmps12
      go_wp2_with fail
      refine HI.out.mono ?_
      rintro e w1 ⟨rfl, rfl⟩
      go_wp2_with fail
      go_ret
      exact ⟨rfl, rfl⟩
    · rw [if_neg hh]
      have hi : isV k = false := by rw [hiv]; simpa using hh
      rw [hi] at HI
      clear hi hiv hh
      go_enter Try.func12, Try.ntmps12
      go_wp2_with fail
      refine HI.out.mono ?_
      rintro e w1 ⟨rfl, rfl⟩
      go_wp2_with fail
      go_ret
      exact ⟨rfl, rfl⟩
  · have t0 : (x.tmod 8 != 0) = true := by simpa using h
    rw [numV_no x h]
    clear h
    go_enter Try.func12, Try.ntmps12
    go_wp2_with fail
    go_ret
    exact ⟨rfl, rfl⟩
set_option maxRecDepth 100000 in
theorem rnumber_any (x : Int) (hx : -9223372036854775808 ≤ x ∧ x ≤ 9223372036854775807) (w : World) : Calls Try.prog 17 #[.int .i64 x] w (Gv w (.int .i64 (numV x))) := by
  have HT := Lib.hid (rtable_any w)
  have HB := Lib.hid ((Below.refl w.heap.size w).alloc (Nat.le_refl _) (.cells rowC.toArray 42))
  by_cases h : x.tmod 8 = 0
  · obtain ⟨k, hk, hd⟩ := tm8 x h
    have wk : IntKind.i64.wrap k = k := by simp only [IntKind.wrap, IntKind.bits, IntKind.signed, Bool.true_and]; split <;> simp_all <;> omega
    have hv := numV_k k
    rw [← hk] at hv
    rw [hv]
    clear hv
    have t0 : (x.tmod 8 != 0) = false := by rw [h]; rfl
    by_cases h8 : x < 8
    · have t1 : decide (x < 8) = true := by simp only [decide_eq_true_eq]; omega
      rw [if_neg (by omega)]
      clear h h8 hk hx hd
      go_enter Try.func17, Try.ntmps17
      go_wp2_with ((with_reducible refine at_ (d := some 12) ?_); refine wpList_skip (by rfl) ?_)
      go_ret
      exact ⟨rfl, Below.refl _ _⟩
    · have t1 : decide (x < 8) = false := by simp only [decide_eq_false_iff_not]; omega
      by_cases h9 : 1128 < x
      · have t2 : decide ((1128 : Int) < x) = true := by simp only [decide_eq_true_eq]; omega
        rw [if_neg (by omega)]
        clear h h8 h9 hk hx hd
        go_enter Try.func17, Try.ntmps17
        go_wp2_with fail
        refine HT.out.mono ?_
        rintro e w1 ⟨rfl, rfl⟩
        go_wp2_with fail
        go_ret
        exact ⟨rfl, HB.out⟩
      · have t2 : decide ((1128 : Int) < x) = false := by simp only [decide_eq_false_iff_not]; omega
        rw [if_pos (by omega)]
        clear h h8 h9 hk hx
        go_enter Try.func17, Try.ntmps17
        go_wp2_with fail
        refine HT.out.mono ?_
        rintro e w1 ⟨rfl, rfl⟩
        go_wp2_with fail
        go_ret
        exact ⟨rfl, HB.out⟩
  · have t0 : (x.tmod 8 != 0) = true := by simpa using h
    rw [numV_no x h]
    clear h
    go_enter Try.func17, Try.ntmps17
    go_wp2_with ((with_reducible refine at_ (d := some 12) ?_); refine wpList_skip (by rfl) ?_)
    go_ret
    exact ⟨rfl, Below.refl _ _⟩
end Go.Proofs.Ythbkjndnconakaa.Pr
