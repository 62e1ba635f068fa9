/-
  HhRef
-/
import Derived.Test.YthmlhjjcihibnaaHhRead
import Derived.Test.YthmlhjjcihibnaaMmRefL
namespace Go.Proofs.Ythmlhjjcihibnaa.Hh
open Go.RowKit Go.Maps Mm Sk
set_option linter.unusedVariables false
set_option linter.unusedSimpArgs false
variable {w : World} {mi q b c d e : Nat} {B G : List UInt8}
set_option maxRecDepth 100000 in
theorem rhere_at (h : RefH w mi q b c d e B G) : Calls Try.prog 14 #[.pointer (some ⟨q, 0, none⟩)] w fun e w' => e = .returned (.int .i64 (hereV B)) ∧ w = w' := by
  obtain ⟨x, hx, hh⟩ := here_is B
  have C := rget_at h 0 (by omega) (by omega)
  rw [← hx] at C
  have CH := Lib.hid C
  generalize hereV B = y at *
  clear h C hx
  by_cases c1 : x < 1536
  · rw [if_pos (.inl c1)] at hh
    subst hh
    go_enter Try.func14, Try.ntmps14
    go_wp2_with fail
    refine CH.out.mono ?_
    rintro e w2 ⟨rfl, rfl⟩
    go_wp2_with fail
    go_ret
    exact ⟨rfl, rfl⟩
  by_cases c2 : 5632 < x
  · rw [if_pos (.inr c2)] at hh
    subst hh
    go_enter Try.func14, Try.ntmps14
    go_wp2_with fail
    refine CH.out.mono ?_
    rintro e w2 ⟨rfl, rfl⟩
    go_wp2_with fail
    go_ret
    exact ⟨rfl, rfl⟩
  · rw [if_neg (show ¬ (x < 1536 ∨ 5632 < x) by omega)] at hh
    subst hh
    have d1 : decide (y < 1536) = false := by simpa using c1
    have d2 : decide (5632 < y) = false := by simpa using c2
    clear c1 c2
    go_enter Try.func14, Try.ntmps14
    go_wp2_with fail
    refine CH.out.mono ?_
    rintro e w2 ⟨rfl, rfl⟩
    go_wp2_with fail
    go_ret
    exact ⟨rfl, rfl⟩
set_option maxRecDepth 100000 in
theorem rinside_at (h : RefH w mi q b c d e B G) (x : Int) (x0 : 1536 ≤ x) (x8 : x % 8 = 0) : Calls Try.prog 33 #[.pointer (some ⟨q, 0, none⟩), .int .i64 x] w fun e w' => e = .returned (.bool (decide (x ≤ hereV B - 8))) ∧ w = w' := by
  have C := Lib.hid (rhere_at h)
  have hb := hereV_bd B
  generalize hereV B = y at *
  generalize hd : decide (x ≤ y - 8) = bb at *
  have d1 : ((x % 8) == 0) = true := by simp [x8]
  have d2 : (x.tmod 8 == 0) = true := by rw [Int.tmod_eq_emod_of_nonneg (by omega)]; exact d1
  have d3 : decide (1536 ≤ x) = true := by simpa using x0
  clear x8 h
  go_enter Try.func33, Try.ntmps33
  go_wp2_with fail
  refine C.out.mono ?_
  rintro e w2 ⟨rfl, rfl⟩
  go_wp2_with fail
  go_ret
  exact ⟨rfl, rfl⟩
/-- The box of a header, and the document's memory beside it. -/
structure RdR (w w' : World) (mi q b c d e : Nat) (B G : List UInt8) (x : HV) : Prop where
  m : RefH w' mi q b c d e B G
  b : HB w' w.heap.size x
  k : Keeps (fun _ => False) w w'
theorem RdR.new (h : RefH w mi q b c d e B G) : RdR w (w.alloc (.cells #[.int .i64 0, .int .i64 0, .string ⟨#[]⟩, .bool false, .bool false, .int .i64 0] 29)) mi q b c d e B G hag0 := ⟨h.keep (Keeps.alloc (fun _ => False) _ _) (fun _ _ _ f => f), HB.new w, Keeps.alloc _ _ _⟩
theorem RdR.next {w1 w2 : World} {x : HV} (h : RdR w w1 mi q b c d e B G x) (k : Keeps (fun _ => False) w1 w2) : RdR w w2 mi q b c d e B G x :=
  ⟨h.m.keep k (fun _ _ _ f => f), h.b.keep k (fun f => f), h.k.trans k⟩
theorem RdR.put {w1 : World} {x : HV} (h : RdR w w1 mi q b c d e B G x) (h0 : RefH w mi q b c d e B G) (y : HV) :
    (Instr.storeAt 29 (.pointer (some ⟨w.heap.size, 0, none⟩)) (hag y)).run Try.prog w1 = .ok () (w1.setCells w.heap.size 0 (hcs y)) ∧ RdR w (w1.setCells w.heap.size 0 (hcs y)) mi q b c d e B G y := by
  obtain ⟨s1, s2, s3⟩ := h.b.put y
  obtain ⟨l1, l2, l3⟩ := h0.lt
  refine ⟨s1, ?_, s2, Keeps.thru h.k s3 (fun _ _ f => f) fun i hi e => by omega⟩
  have hm := h.m
  exact ⟨hm.q0, hm.bl, hm.gl, (s3.block q hm.lt.1 (by omega)).trans hm.head, hm.now.keeps' s3 (by omega), hm.was.keeps' s3 (by omega), hm.bq, hm.dq, hm.bd⟩
def RrQ (w : World) (mi q b c d e : Nat) (B G : List UInt8) (a : Int) (en : Ending) (w' : World) : Prop := en = .returned (.tuple #[hag (readH B a), .bool (decide (IsH B a))]) ∧ RefH w' mi q b c d e B G ∧ Keeps (fun _ => False) w w'
theorem RrQ.no {a : Int} (h : ¬ IsH B a) {w' : World} (m : RefH w' mi q b c d e B G) (k : Keeps (fun _ => False) w w') : RrQ w mi q b c d e B G a (.returned (.tuple #[hag hag0, .bool false])) w' := by
  obtain ⟨h1, h2⟩ := read_no h
  unfold RrQ
  rw [h1, h2]
  exact ⟨rfl, m, k⟩
theorem RrQ.yes {a : Int} (h : IsH B a) {w' : World} (m : RefH w' mi q b c d e B G) (k : Keeps (fun _ => False) w w') : RrQ w mi q b c d e B G a (.returned (.tuple #[hag (rdV B a), .bool true])) w' := by
  obtain ⟨h1, h2⟩ := read_yes h
  unfold RrQ
  rw [h1, h2]
  exact ⟨rfl, m, k⟩
set_option maxRecDepth 100000 in
set_option maxHeartbeats 2000000 in
theorem hread_doc (h : RefH w mi q b c d e B G) (a : Int) (ha : -9223372036854775808 ≤ a) (ha' : a ≤ 9223372036854775807) : Calls Try.prog 12 #[.pointer (some ⟨q, 0, none⟩), .int .i64 a] w (RrQ w mi q b c d e B G a) := by
  have r0 := RdR.new h
  have H0 := Lib.hid h
  generalize hwA : w.alloc (.cells #[.int .i64 0, .int .i64 0, .string ⟨#[]⟩, .bool false, .bool false, .int .i64 0] 29) = wA at *
  have HWA := Lib.hid hwA
  have hb := hereV_bd B
  obtain ⟨y, hy⟩ : ∃ y, y = hereV B := ⟨_, rfl⟩
  have HY := Lib.hid hy
  have CH := rhere_at r0.m
  rw [← hy] at CH hb
  have CHH := Lib.hid CH
  have R0 := Lib.hid r0
  clear h CH r0 hwA hy
  by_cases c1 : ¬ a.tmod 8 = 0
  · have d1 : (a.tmod 8 != 0) = true := by simpa using c1
    have hno : ¬ IsH B a := fun x => c1 x.2.2.1
    have HNO := Lib.hid hno
    clear hno
    go_enter Try.func12, Try.ntmps12
    obtain ⟨st, r9⟩ := R0.out.put H0.out hag0
    generalize hw9 : wA.setCells w.heap.size 0 (hcs hag0) = w9 at *
    clear hw9
    have ST := Lib.hid st
    have HBX := Lib.hid (show w9.heap[w.heap.size]? = some (.cells (hcs hag0).toArray 29 (0, 0)) from r9.b)
    have HQ := Lib.hid (RrQ.no HNO.out r9.m r9.k)
    clear st r9
    generalize RrQ w mi q b c d e B G a = Q at *
    rw [← HWA.out] at ST
    go_wp2_with (first
      | ((with_reducible refine at_ (op := .build 29 #[]) ?_); refine wpList_val rfl _ (ex_build0 29 rfl _ (build_h0 _)) ?_)
      | ((with_reducible refine at_ (op := .store 29 (.tmp 4) (.tmp 22)) ?_); refine wpList_unit rfl (ex_store 29 (.tmp 4) (.tmp 22) rfl _ _ rfl rfl ST.out) ?_)
      | fail)
    refine bodyPost_ret (v := .tuple #[hag hag0, .bool false]) ?_ rfl HQ.out
    exact results_row_tmp rfl _ _ w.heap.size 29 _ (0, 0) _ _ rfl rfl HBX.out Try.underlying29 rfl sizeH
  by_cases c2 : a < 1536
  · have d1 : (a.tmod 8 != 0) = false := by simp at c1; simp [c1]
    have d2 : decide (a < 1536) = true := by simpa using c2
    have hno : ¬ IsH B a := fun x => by have := x.1; omega
    have HNO := Lib.hid hno
    clear hno
    go_enter Try.func12, Try.ntmps12
    obtain ⟨st, r9⟩ := R0.out.put H0.out hag0
    generalize hw9 : wA.setCells w.heap.size 0 (hcs hag0) = w9 at *
    clear hw9
    have ST := Lib.hid st
    have HBX := Lib.hid (show w9.heap[w.heap.size]? = some (.cells (hcs hag0).toArray 29 (0, 0)) from r9.b)
    have HQ := Lib.hid (RrQ.no HNO.out r9.m r9.k)
    clear st r9
    generalize RrQ w mi q b c d e B G a = Q at *
    rw [← HWA.out] at ST
    go_wp2_with (first
      | ((with_reducible refine at_ (op := .build 29 #[]) ?_); refine wpList_val rfl _ (ex_build0 29 rfl _ (build_h0 _)) ?_)
      | ((with_reducible refine at_ (op := .store 29 (.tmp 4) (.tmp 22)) ?_); refine wpList_unit rfl (ex_store 29 (.tmp 4) (.tmp 22) rfl _ _ rfl rfl ST.out) ?_)
      | fail)
    refine bodyPost_ret (v := .tuple #[hag hag0, .bool false]) ?_ rfl HQ.out
    exact results_row_tmp rfl _ _ w.heap.size 29 _ (0, 0) _ _ rfl rfl HBX.out Try.underlying29 rfl sizeH
  have d1 : (a.tmod 8 != 0) = false := by simp at c1; simp [c1]
  have d1' : (a % 8 != 0) = false := by rw [Int.tmod_eq_emod_of_nonneg (by omega)] at d1; exact d1
  have d2 : decide (a < 1536) = false := by simpa using c2
  by_cases c3 : y ≤ a
  · have d3 : decide (y ≤ a) = true := by simpa using c3
    have hno : ¬ IsH B a := fun x => by have := x.2.1; have := HY.out; omega
    have HNO := Lib.hid hno
    clear hno
    go_enter Try.func12, Try.ntmps12
    go_wp2_with fail
    rw [HWA.out]
    refine CHH.out.mono ?_
    rintro e' w2 ⟨rfl, rfl⟩
    obtain ⟨st, r9⟩ := R0.out.put H0.out hag0
    generalize hw9 : wA.setCells w.heap.size 0 (hcs hag0) = w9 at *
    clear hw9
    have ST := Lib.hid st
    have HBX := Lib.hid (show w9.heap[w.heap.size]? = some (.cells (hcs hag0).toArray 29 (0, 0)) from r9.b)
    have HQ := Lib.hid (RrQ.no HNO.out r9.m r9.k)
    clear st r9
    generalize RrQ w mi q b c d e B G a = Q at *
    go_wp2_with (first
      | ((with_reducible refine at_ (op := .build 29 #[]) ?_); refine wpList_val rfl _ (ex_build0 29 rfl _ (build_h0 _)) ?_)
      | ((with_reducible refine at_ (op := .store 29 (.tmp 4) (.tmp 22)) ?_); refine wpList_unit rfl (ex_store 29 (.tmp 4) (.tmp 22) rfl _ _ rfl rfl ST.out) ?_)
      | fail)
    refine bodyPost_ret (v := .tuple #[hag hag0, .bool false]) ?_ rfl HQ.out
    exact results_row_tmp rfl _ _ w.heap.size 29 _ (0, 0) _ _ rfl rfl HBX.out Try.underlying29 rfl sizeH
  have d3 : decide (y ≤ a) = false := by simpa using c3
  obtain ⟨u, hu⟩ : ∃ u, u = mkV B a := ⟨_, rfl⟩
  obtain ⟨un, hun⟩ : ∃ un, un = u.toNat := ⟨_, rfl⟩
  have ub : un < 256 := by rw [hun]; exact u.toNat_lt
  obtain ⟨n, hn⟩ : ∃ n, n = un % 32 := ⟨_, rfl⟩
  have hn32 : n < 32 := by rw [hn]; exact Nat.mod_lt _ (by omega)
  have hlg : lgV B a = n := by unfold lgV; rw [← hu, hn, hun]
  obtain ⟨x, hx⟩ : ∃ x, x = alignV (a + 9 + n) := ⟨_, rfl⟩
  have hxt : xtV B a = x := by unfold xtV; rw [hlg, hx]
  have xb : x = (a + 9 + n + 7) / 8 * 8 := by rw [hx]; exact alignV_small (by omega) (by omega)
  have x8 : x % 8 = 0 := by omega
  have hpos : IsH B a ↔ n ≠ 0 ∧ x ≤ y - 8 := by
    unfold IsH
    rw [hlg, hxt, ← HY.out]
    simp only [Decidable.not_not] at c1
    exact ⟨fun z => ⟨z.2.2.2.1, z.2.2.2.2⟩, fun z => ⟨by omega, by omega, c1, z.1, z.2⟩⟩
  have HPOS := Lib.hid hpos
  have AL := ralign_any (a + 9 + n)
  rw [← hx] at AL
  have ALH := Lib.hid AL
  have LD1 : ∀ w', RefH w' mi q b c d e B G → Calls Try.prog 32 #[.pointer (some ⟨q, 0, none⟩), .int .i64 (a + 8), .int .i64 1] w' fun en w2 => ∃ g, en = .returned (.slice (some ⟨g, 0, none⟩) 1 1) ∧ w2.cell? ⟨g, 0, none⟩ = some (.int .u8 (un : Int)) ∧ Keeps (fun _ => False) w' w2 := fun w' m => by
    have L := rload_at m (a + 8) 1 (by omega) (by omega)
    rw [show (clamp 1 8192).toNat = 1 by decide] at L
    refine L.mono ?_
    rintro en w2 ⟨g, rfl, hr, hk⟩
    have hc := hr.cell_ (k := 0) (by rw [loadL_len]; omega)
    rw [getD_loadL _ _ _ _ (by omega), show a + 8 + ((0 : Nat) : Int) = a + 8 by omega] at hc
    refine ⟨g, by rw [loadL_len], ?_, hk⟩
    rw [hc, hun, hu]
    rfl
  have ll : (loadL B (a + 9) n).length = n := loadL_len _ _ _
  have LD2 : ∀ w', RefH w' mi q b c d e B G → Calls Try.prog 32 #[.pointer (some ⟨q, 0, none⟩), .int .i64 (a + 9), .int .i64 (n : Int)] w' fun en w2 => ∃ g, en = .returned (.slice (some ⟨g, 0, none⟩) n n) ∧ Row8 w2 g 5 (loadL B (a + 9) n) ∧ Keeps (fun _ => False) w' w2 := fun w' m => by
    have L := rload_at m (a + 9) n (by omega) (by omega)
    rw [show (clamp (n : Int) 8192).toNat = n by unfold clamp; split <;> (try split) <;> omega] at L
    refine L.mono ?_
    rintro en w2 ⟨g, rfl, hr, hk⟩
    exact ⟨g, by rw [ll], hr, hk⟩
  have q1 : (un : Int).tmod 32 = (n : Int) := by rw [hn]; rfl
  have q2 : (un : Int) % 32 = (n : Int) := by omega
  have lz : rdV B a = ⟨a, cel B a, loadL B (a + 9) n, decide (128 ≤ un), decide (un / 64 % 2 = 1), x⟩ := by unfold rdV; rw [hlg, ← hu, hxt, ← hun]
  have q3 : decide ((128 : Int) ≤ (un : Int)) = decide (128 ≤ un) := by
    congr 1
    exact propext (by omega)
  have q4 := and64 u
  rw [← hun] at q4
  have q5 : (((un / 64 % 2 * 64 : Nat) : Int) != 0) = decide (un / 64 % 2 = 1) := by
    by_cases c : un / 64 % 2 = 1
    · simp [c]
    · simp [c]; omega
  have LD1H := Lib.hid LD1
  have LD2H := Lib.hid LD2
  have LZ := Lib.hid lz
  have LL := Lib.hid ll
  have x0 : 1536 ≤ x := by omega
  have x1 : x ≤ 6000 := by omega
  have a0 : 1536 ≤ a := by omega
  have a1 : a ≤ 5632 := by omega
  have GH := Lib.hid (fun w' (m : RefH w' mi q b c d e B G) => rget_at m a ha ha')
  have IH := Lib.hid (fun w' (m : RefH w' mi q b c d e B G) => HY.out ▸ rinside_at m x (by omega) x8)
  clear hpos AL hu hun hn hlg hx hxt xb c1 c2 c3 LD1 LD2 lz ll x8
  generalize loadL B (a + 9) n = L at *
  generalize cel B a = ca at *
  generalize hb1 : decide (128 ≤ un) = b1 at *
  generalize decide (un / 64 % 2 = 1) = b2 at *
  generalize un / 64 % 2 * 64 = m64 at *
  by_cases c4 : n = 0
  · have hno : ¬ IsH B a := fun z => (HPOS.out.1 z).1 c4
    have HNO := Lib.hid hno
    have d4 : ((n : Int) == 0) = true := by simp [c4]
    clear hno c4
    go_enter Try.func12, Try.ntmps12
    go_wp2_with fail
    rw [HWA.out]
    refine CHH.out.mono ?_
    rintro e' w2 ⟨rfl, rfl⟩
    go_wp2_with fail
    refine (LD1H.out _ R0.out.m).mono ?_
    rintro e' w3 ⟨g, rfl, hc, k3⟩
    have R3 := Lib.hid (R0.out.next k3)
    clear R0 CHH k3 LD1H
    go_wp2_with fail
    refine (ALH.out w3).mono ?_
    rintro e' w4 ⟨rfl, rfl⟩
    clear hc
    obtain ⟨st, r9⟩ := R3.out.put H0.out hag0
    generalize hw9 : w3.setCells w.heap.size 0 (hcs hag0) = w9 at *
    clear hw9
    have ST := Lib.hid st
    have HBX := Lib.hid (show w9.heap[w.heap.size]? = some (.cells (hcs hag0).toArray 29 (0, 0)) from r9.b)
    have HQ := Lib.hid (RrQ.no HNO.out r9.m r9.k)
    clear st r9
    generalize RrQ w mi q b c d e B G a = Q at *
    go_wp2_with (first
      | ((with_reducible refine at_ (op := .build 29 #[]) ?_); refine wpList_val rfl _ (ex_build0 29 rfl _ (build_h0 _)) ?_)
      | ((with_reducible refine at_ (op := .store 29 (.tmp 4) (.tmp 45)) ?_); refine wpList_unit rfl (ex_store 29 (.tmp 4) (.tmp 45) rfl _ _ rfl rfl ST.out) ?_)
      | fail)
    refine bodyPost_ret (v := .tuple #[hag hag0, .bool false]) ?_ rfl HQ.out
    exact results_row_tmp rfl _ _ w.heap.size 29 _ (0, 0) _ _ rfl rfl HBX.out Try.underlying29 rfl sizeH
  have d4 : ((n : Int) == 0) = false := by simp; omega
  by_cases c5 : x ≤ y - 8
  · have hyes : IsH B a := HPOS.out.2 ⟨c4, c5⟩
    have HYES := Lib.hid hyes
    have d5 : decide (x ≤ y - 8) = true := by simpa using c5
    rw [d5] at IH
    clear hyes c5 c4
    go_enter Try.func12, Try.ntmps12
    go_wp2_with fail
    rw [HWA.out]
    refine CHH.out.mono ?_
    rintro e' w2 ⟨rfl, rfl⟩
    go_wp2_with fail
    refine (LD1H.out _ R0.out.m).mono ?_
    rintro e' w3 ⟨g, rfl, hc, k3⟩
    have R3 := Lib.hid (R0.out.next k3)
    clear R0 CHH k3 LD1H
    go_wp2_with fail
    refine (ALH.out w3).mono ?_
    rintro e' w4 ⟨rfl, rfl⟩
    clear hc
    go_wp2_with fail
    refine (IH.out _ R3.out.m).mono ?_
    rintro e' w4 ⟨rfl, rfl⟩
    go_wp2_with fail
    refine (GH.out _ R3.out.m).mono ?_
    rintro e' w4 ⟨rfl, rfl⟩
    go_wp2_with fail
    refine (LD2H.out _ R3.out.m).mono ?_
    rintro e' w7 ⟨g7, rfl, hr7, k7⟩
    have R7 := R3.out.next k7
    have CV := Lib.hid (show (convert 22 9 (.slice (some ⟨g7, 0, none⟩) n n)).run Try.prog w7 = .ok (.string ⟨L.toArray⟩) w7 from conv_sx LL.out hr7)
    obtain ⟨st, r9⟩ := R7.put H0.out ⟨a, ca, L, b1, b2, x⟩
    generalize hw9 : w7.setCells w.heap.size 0 (hcs ⟨a, ca, L, b1, b2, x⟩) = w9 at *
    clear hw9
    have ST := Lib.hid st
    have HBX := Lib.hid (show w9.heap[w.heap.size]? = some (.cells (hcs ⟨a, ca, L, b1, b2, x⟩).toArray 29 (0, 0)) from r9.b)
    have hq := RrQ.yes HYES.out r9.m r9.k
    rw [LZ.out] at hq
    have HQ := Lib.hid hq
    clear hq st r9 hr7 k7 R7 R3 GH LD2H IH ALH
    generalize RrQ w mi q b c d e B G a = Q at *
    go_wp2_with (first
      | ((with_reducible refine at_ (op := .convert 22 9 (.tmp 54)) ?_); refine wpList_val rfl _ (ex_convert 22 9 (.tmp 54) rfl _ _ rfl CV.out) ?_)
      | ((with_reducible refine at_ (op := .store 29 (.tmp 4) (.tmp 62)) ?_); refine wpList_unit rfl (ex_store 29 (.tmp 4) (.tmp 62) rfl _ _ rfl rfl ST.out) ?_)
      | fail)
    refine bodyPost_ret (v := .tuple #[hag ⟨a, ca, L, b1, b2, x⟩, .bool true]) ?_ rfl HQ.out
    exact results_row_tmp rfl _ _ w.heap.size 29 _ (0, 0) _ _ rfl rfl HBX.out Try.underlying29 rfl sizeH
  · have hno : ¬ IsH B a := fun z => c5 (HPOS.out.1 z).2
    have HNO := Lib.hid hno
    have d5 : decide (x ≤ y - 8) = false := by simpa using c5
    rw [d5] at IH
    clear hno c5 c4
    go_enter Try.func12, Try.ntmps12
    go_wp2_with fail
    rw [HWA.out]
    refine CHH.out.mono ?_
    rintro e' w2 ⟨rfl, rfl⟩
    go_wp2_with fail
    refine (LD1H.out _ R0.out.m).mono ?_
    rintro e' w3 ⟨g, rfl, hc, k3⟩
    have R3 := Lib.hid (R0.out.next k3)
    clear R0 CHH k3 LD1H
    go_wp2_with fail
    refine (ALH.out w3).mono ?_
    rintro e' w4 ⟨rfl, rfl⟩
    clear hc
    go_wp2_with fail
    refine (IH.out _ R3.out.m).mono ?_
    rintro e' w4 ⟨rfl, rfl⟩
    obtain ⟨st, r9⟩ := R3.out.put H0.out hag0
    generalize hw9 : w3.setCells w.heap.size 0 (hcs hag0) = w9 at *
    clear hw9
    have ST := Lib.hid st
    have HBX := Lib.hid (show w9.heap[w.heap.size]? = some (.cells (hcs hag0).toArray 29 (0, 0)) from r9.b)
    have HQ := Lib.hid (RrQ.no HNO.out r9.m r9.k)
    clear st r9
    generalize RrQ w mi q b c d e B G a = Q at *
    go_wp2_with (first
      | ((with_reducible refine at_ (op := .build 29 #[]) ?_); refine wpList_val rfl _ (ex_build0 29 rfl _ (build_h0 _)) ?_)
      | ((with_reducible refine at_ (op := .store 29 (.tmp 4) (.tmp 45)) ?_); refine wpList_unit rfl (ex_store 29 (.tmp 4) (.tmp 45) rfl _ _ rfl rfl ST.out) ?_)
      | fail)
    refine bodyPost_ret (v := .tuple #[hag hag0, .bool false]) ?_ rfl HQ.out
    exact results_row_tmp rfl _ _ w.heap.size 29 _ (0, 0) _ _ rfl rfl HBX.out Try.underlying29 rfl sizeH
end Go.Proofs.Ythmlhjjcihibnaa.Hh
