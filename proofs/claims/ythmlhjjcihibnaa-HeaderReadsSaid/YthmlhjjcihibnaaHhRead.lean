/-
  HhRead
-/
import Derived.Test.YthmlhjjcihibnaaHhCode
import Derived.Test.YthmlhjjcihibnaaHeldMore
import Derived.Test.YthmlhjjcihibnaaGT
import Derived.Laws.StructEq
namespace Go.Proofs.Ythmlhjjcihibnaa.Hh
open Go.RowKit Go.Maps Mm Sk
set_option linter.unusedVariables false
set_option linter.unusedSimpArgs false

def hcs (h : HV) : List Value := [.int .i64 h.at_, .int .i64 h.link, Sx h.name, .bool h.imm, .bool h.hid, .int .i64 h.xt]
theorem sizeH : (Try.prog.info? 29).map (·.size) = some 6 := by kernel_rfl
/-- A header's variable. -/
def HB (w : World) (g : Nat) (x : HV) : Prop := w.heap[g]? = some (.cells (hcs x).toArray 29 (0, 0))
theorem HB.lt {w : World} {g : Nat} {x : HV} (h : HB w g x) : g < w.heap.size := (Array.getElem?_eq_some_iff.1 h).1
theorem HB.keep {w w' : World} {g : Nat} {x : HV} {F : Nat → Prop} (h : HB w g x) (k : Keeps F w w') (hF : ¬ F g) : HB w' g x := (k.block g h.lt hF).trans h
theorem HB.new (w : World) : HB (w.alloc (.cells #[.int .i64 0, .int .i64 0, .string ⟨#[]⟩, .bool false, .bool false, .int .i64 0] 29)) w.heap.size hag0 := heap_alloc_new w _
theorem HB.put {w : World} {g : Nat} {y : HV} (h : HB w g y) (x : HV) : (Instr.storeAt 29 (.pointer (some ⟨g, 0, none⟩)) (hag x)).run Try.prog w = .ok () (w.setCells g 0 (hcs x)) ∧ HB (w.setCells g 0 (hcs x)) g x ∧ Keeps (· = g) w (w.setCells g 0 (hcs x)) := by
  obtain ⟨h1, h2⟩ := setCells_cells (ys := hcs x) h rfl
  exact ⟨run_storeAt_mid (P := Try.prog) w g 0 29 (hcs x).toArray (there_cells h 0 6 (by simp [hcs])) sizeH (by simp [Value.oneCell', hcs, Sx]), h1, h2⟩
theorem HB.get {w : World} {g : Nat} {x : HV} (h : HB w g x) : (Instr.loadAt 29 (.pointer (some ⟨g, 0, none⟩))).run Try.prog w = .ok (hag x) w :=
  run_loadAt_mid w g 0 29 (hcs x) _ (range_cells h) Try.underlying29 rfl (by kernel_rfl)
theorem HB.c {w : World} {g : Nat} {x : HV} (h : HB w g x) : w.cell? ⟨g, 0, none⟩ = some (.int .i64 x.at_) ∧ w.cell? ⟨g, 1, none⟩ = some (.int .i64 x.link) ∧ w.cell? ⟨g, 2, none⟩ = some (Sx x.name) ∧ w.cell? ⟨g, 3, none⟩ = some (.bool x.imm) ∧ w.cell? ⟨g, 4, none⟩ = some (.bool x.hid) ∧ w.cell? ⟨g, 5, none⟩ = some (.int .i64 x.xt) := by
  unfold HB at h
  refine ⟨?_, ?_, ?_, ?_, ?_, ?_⟩ <;> rw [cell_of_row _ _ _ _ _ _ h] <;> rfl
theorem build_h0 (w : World) : (Instr.build 29 #[]).run Try.prog w = .ok (hag hag0) w := by kernel_rfl
theorem conv_sx {W : World} {g : Nat} {B : List UInt8} {n : Nat} (hl : B.length = n) (h : Row8 W g 5 B) : (convert 22 9 (.slice (some ⟨g, 0, none⟩) n n)).run Try.prog W = .ok (Sx B) W := by
  have := run_str (P := Try.prog) W _ 22 9 5 _ B B.length h.br Try.underlying22 Try.underlying5 Try.underlying9
  rw [hl] at this
  exact this
theorem read_no {M : List UInt8} {a : Int} (h : ¬ IsH M a) : readH M a = hag0 ∧ decide (IsH M a) = false := ⟨by unfold readH; rw [if_neg h], decide_eq_false h⟩
theorem read_yes {M : List UInt8} {a : Int} (h : IsH M a) : readH M a = rdV M a ∧ decide (IsH M a) = true := ⟨by unfold readH; rw [if_pos h], decide_eq_true h⟩
variable {w : World} {v : Option Addr} {p gb mb : Nat} {ok : Bool} {G M : List UInt8}
/-- Where the dictionary goes on above its lowest place there is a memory. -/
theorem SM.yes (h : SM w v p gb mb ok G M) (h1 : 1536 < hereV M) : ok = true ∧ v = some ⟨p, 0, none⟩ ∧ MemAt w p gb mb G M := by
  rcases h with h | ⟨_, _, _, hz⟩
  · exact h
  · have := hz 0
    unfold hereV at h1
    rw [this] at h1
    simp at h1
/-- The post, said of a value alone. -/
def RdQ (w : World) (v : Option Addr) (p gb mb : Nat) (ok : Bool) (G M : List UInt8) (a : Int) : Ending → World → Prop := OutS w v p gb mb ok G M (.tuple #[hag (readH M a), .bool (decide (IsH M a))])
theorem RdQ.no {a : Int} (h : ¬ IsH M a) {w' : World} (m : SM w' v p gb mb ok G M) (k : Keeps (SF ok p mb) w w') : RdQ w v p gb mb ok G M a (.returned (.tuple #[hag hag0, .bool false])) w' := by
  obtain ⟨h1, h2⟩ := read_no h
  unfold RdQ
  rw [h1, h2]
  exact ⟨rfl, m, k⟩
theorem RdQ.yes {a : Int} (h : IsH M a) {w' : World} (m : SM w' v p gb mb ok G M) (k : Keeps (SF ok p mb) w w') : RdQ w v p gb mb ok G M a (.returned (.tuple #[hag (rdV M a), .bool true])) w' := by
  obtain ⟨h1, h2⟩ := read_yes h
  unfold RdQ
  rw [h1, h2]
  exact ⟨rfl, m, k⟩
/-- The box that a call of Read makes, and the memory beside it. -/
structure RdW (w w' : World) (v : Option Addr) (p gb mb : Nat) (ok : Bool) (G M : List UInt8) (x : HV) : Prop where
  m : SM w' v p gb mb ok G M
  b : HB w' w.heap.size x
  k : Keeps (SF ok p mb) w w'
theorem RdW.new (h : SM w v p gb mb ok G M) : RdW w (w.alloc (.cells #[.int .i64 0, .int .i64 0, .string ⟨#[]⟩, .bool false, .bool false, .int .i64 0] 29)) v p gb mb ok G M hag0 := ⟨h.alloc _, HB.new w, Keeps.alloc _ _ _⟩
theorem RdW.next {w1 w2 : World} {x : HV} (h : RdW w w1 v p gb mb ok G M x) (h0 : SM w v p gb mb ok G M) (m : SM w2 v p gb mb ok G M) (k : Keeps (SF ok p mb) w1 w2) : RdW w w2 v p gb mb ok G M x :=
  ⟨m, h.b.keep k fun f => Nat.lt_irrefl _ (h0.lt f), h.k.trans k⟩
theorem RdW.drew {w1 : World} {x : HV} (h : RdW w w1 v p gb mb ok G M x) : RdW w w1.drew v p gb mb ok G M x := ⟨h.m.keep (Keeps.drew (fun _ => False) w1) fun _ _ f => f, h.b.keep (Keeps.drew (fun _ => False) w1) fun f => f, h.k.trans (Keeps.drew _ w1)⟩
theorem RdW.put {w1 : World} {x : HV} (h : RdW w w1 v p gb mb ok G M x) (h0 : SM w v p gb mb ok G M) (y : HV) :
    (Instr.storeAt 29 (.pointer (some ⟨w.heap.size, 0, none⟩)) (hag y)).run Try.prog w1 = .ok () (w1.setCells w.heap.size 0 (hcs y)) ∧ RdW w (w1.setCells w.heap.size 0 (hcs y)) v p gb mb ok G M y := by
  obtain ⟨s1, s2, s3⟩ := h.b.put y
  refine ⟨s1, h.m.keepG s3 ?_, s2, Keeps.thru h.k s3 (fun _ _ f => f) fun i hi e => ?_⟩
  · rintro i rfl f
    exact Nat.lt_irrefl _ (h0.ltG f)
  · omega
set_option maxRecDepth 100000 in
set_option maxHeartbeats 2000000 in
theorem hread_code (h : SM w v p gb mb ok G M) (a : Int) (ha : -9223372036854775808 ≤ a) (ha' : a ≤ 9223372036854775807) : Calls Try.prog 11 #[.pointer v, .int .i64 a] w (RdQ w v p gb mb ok G M a) := by
  have r0 := RdW.new h
  have H0 := Lib.hid h
  generalize hwA : w.alloc (.cells #[.int .i64 0, .int .i64 0, .string ⟨#[]⟩, .bool false, .bool false, .int .i64 0] 29) = wA at *
  have HWA := Lib.hid hwA
  have hb := hereV_bd M
  obtain ⟨y, hy⟩ : ∃ y, y = hereV M := ⟨_, rfl⟩
  have HY := Lib.hid hy
  have CH := here_any r0.m
  rw [← hy] at CH hb
  have CHH := Lib.hid CH
  have R0 := Lib.hid r0
  clear h CH r0 hwA hy
  by_cases c1 : a < 1536
  · have d1 : decide (a < 1536) = true := by simpa using c1
    have hno : ¬ IsH M a := fun x => by have := x.1; omega
    have HNO := Lib.hid hno
    clear hno
    go_enter Try.func11, Try.ntmps11
    go_wp2_with fail
    rw [HWA.out]
    refine CHH.out.mono ?_
    rintro e w2 ⟨rfl, m2, k2⟩
    have r2 := R0.out.next H0.out m2 k2
    obtain ⟨st, r9⟩ := r2.put H0.out hag0
    generalize w2.setCells w.heap.size 0 (hcs hag0) = w9 at *
    have ST := Lib.hid st
    have HBX := Lib.hid (show w9.heap[w.heap.size]? = some (.cells (hcs hag0).toArray 29 (0, 0)) from r9.b)
    have HQ := Lib.hid (RdQ.no HNO.out r9.m r9.k)
    clear st r9
    generalize RdQ w v p gb mb ok G M a = Q at *
    go_wp2_with (first
      | ((with_reducible refine at_ (op := .build 29 #[]) ?_); refine wpList_val rfl _ (ex_build0 29 rfl _ (build_h0 _)) ?_)
      | ((with_reducible refine at_ (op := .store 29 (.tmp 4) (.tmp 23)) ?_); refine wpList_unit rfl (ex_store 29 (.tmp 4) (.tmp 23) rfl _ _ rfl rfl ST.out) ?_)
      | fail)
    refine bodyPost_ret (v := .tuple #[hag hag0, .bool false]) ?_ rfl HQ.out
    exact results_row_tmp rfl _ _ w.heap.size 29 _ (0, 0) _ _ rfl rfl HBX.out Try.underlying29 rfl sizeH
  by_cases c2 : y ≤ a
  · have d1 : decide (a < 1536) = false := by simpa using c1
    have d2 : decide (y ≤ a) = true := by simpa using c2
    have hno : ¬ IsH M a := fun x => by have := x.2.1; have := HY.out; omega
    have HNO := Lib.hid hno
    clear hno
    go_enter Try.func11, Try.ntmps11
    go_wp2_with fail
    rw [HWA.out]
    refine CHH.out.mono ?_
    rintro e w2 ⟨rfl, m2, k2⟩
    have r2 := R0.out.next H0.out m2 k2
    obtain ⟨st, r9⟩ := r2.put H0.out hag0
    generalize w2.setCells w.heap.size 0 (hcs hag0) = w9 at *
    have ST := Lib.hid st
    have HBX := Lib.hid (show w9.heap[w.heap.size]? = some (.cells (hcs hag0).toArray 29 (0, 0)) from r9.b)
    have HQ := Lib.hid (RdQ.no HNO.out r9.m r9.k)
    clear st r9
    generalize RdQ w v p gb mb ok G M a = Q at *
    go_wp2_with (first
      | ((with_reducible refine at_ (op := .build 29 #[]) ?_); refine wpList_val rfl _ (ex_build0 29 rfl _ (build_h0 _)) ?_)
      | ((with_reducible refine at_ (op := .store 29 (.tmp 4) (.tmp 23)) ?_); refine wpList_unit rfl (ex_store 29 (.tmp 4) (.tmp 23) rfl _ _ rfl rfl ST.out) ?_)
      | fail)
    refine bodyPost_ret (v := .tuple #[hag hag0, .bool false]) ?_ rfl HQ.out
    exact results_row_tmp rfl _ _ w.heap.size 29 _ (0, 0) _ _ rfl rfl HBX.out Try.underlying29 rfl sizeH
  by_cases c3 : ¬ a.tmod 8 = 0
  · have d1 : decide (a < 1536) = false := by simpa using c1
    have d2 : decide (y ≤ a) = false := by simpa using c2
    have d3 : (a.tmod 8 != 0) = true := by simpa using c3
    have d4 : (a % 8 != 0) = true := by rw [Int.tmod_eq_emod_of_nonneg (by omega)] at d3; exact d3
    have hno : ¬ IsH M a := fun x => c3 x.2.2.1
    have HNO := Lib.hid hno
    clear hno
    go_enter Try.func11, Try.ntmps11
    go_wp2_with fail
    rw [HWA.out]
    refine CHH.out.mono ?_
    rintro e w2 ⟨rfl, m2, k2⟩
    have r2 := R0.out.next H0.out m2 k2
    obtain ⟨st, r9⟩ := r2.put H0.out hag0
    generalize w2.setCells w.heap.size 0 (hcs hag0) = w9 at *
    have ST := Lib.hid st
    have HBX := Lib.hid (show w9.heap[w.heap.size]? = some (.cells (hcs hag0).toArray 29 (0, 0)) from r9.b)
    have HQ := Lib.hid (RdQ.no HNO.out r9.m r9.k)
    clear st r9
    generalize RdQ w v p gb mb ok G M a = Q at *
    go_wp2_with (first
      | ((with_reducible refine at_ (op := .build 29 #[]) ?_); refine wpList_val rfl _ (ex_build0 29 rfl _ (build_h0 _)) ?_)
      | ((with_reducible refine at_ (op := .store 29 (.tmp 4) (.tmp 23)) ?_); refine wpList_unit rfl (ex_store 29 (.tmp 4) (.tmp 23) rfl _ _ rfl rfl ST.out) ?_)
      | fail)
    refine bodyPost_ret (v := .tuple #[hag hag0, .bool false]) ?_ rfl HQ.out
    exact results_row_tmp rfl _ _ w.heap.size 29 _ (0, 0) _ _ rfl rfl HBX.out Try.underlying29 rfl sizeH
  have d1 : decide (a < 1536) = false := by simpa using c1
  have d2 : decide (y ≤ a) = false := by simpa using c2
  have d3 : (a.tmod 8 != 0) = false := by simp at c3; simp [c3]
  have d3' : (a % 8 != 0) = false := by rw [Int.tmod_eq_emod_of_nonneg (by omega)] at d3; exact d3
  have hyes := SM.yes H0.out (by rw [← HY.out]; omega)
  obtain ⟨rfl, rfl, -⟩ := hyes
  obtain ⟨u, hu⟩ : ∃ u, u = mkV M a := ⟨_, rfl⟩
  obtain ⟨n, hn⟩ : ∃ n, n = u.toNat % 32 := ⟨_, rfl⟩
  have hn32 : n < 32 := by rw [hn]; exact Nat.mod_lt _ (by omega)
  have hlg : lgV M a = n := by unfold lgV; rw [← hu, hn]
  obtain ⟨x, hx⟩ : ∃ x, x = alignV (a + 9 + n) := ⟨_, rfl⟩
  have hxt : xtV M a = x := by unfold xtV; rw [hlg, hx]
  have xb : x = (a + 9 + n + 7) / 8 * 8 := by rw [hx]; exact alignV_small (by omega) (by omega)
  have hpos : IsH M a ↔ n ≠ 0 ∧ x ≤ y - 8 := by
    unfold IsH
    rw [hlg, hxt, ← HY.out]
    simp only [ne_eq, Decidable.not_not] at c3
    exact ⟨fun z => ⟨z.2.2.2.1, z.2.2.2.2⟩, fun z => ⟨by omega, by omega, c3, z.1, z.2⟩⟩
  have HPOS := Lib.hid hpos
  have YB : Hid (1536 < hereV M ∧ 1536 ≤ a ∧ a ≤ 5632) := Lib.hid ⟨by rw [← HY.out]; omega, by omega, by omega⟩
  have LEN := length_any u
  rw [← hn] at LEN
  have LENH := Lib.hid LEN
  have AL := align_any (a + 9 + n)
  rw [← hx] at AL
  have ALH := Lib.hid AL
  have MK : ∀ w', MemAt w' p gb mb G M → Calls Try.prog 27 #[.pointer (some ⟨p, 0, none⟩), .int .i64 a] w' (OutM w' p gb mb G M (.int .u8 (u.toNat : Int))) := fun w' m => by rw [hu]; exact markOf_at m a (by omega) (by omega)
  have MKH := Lib.hid MK
  have HU := Lib.hid hu
  have HN := Lib.hid hn
  have HLG := Lib.hid hlg
  have HX := Lib.hid hx
  have HXT := Lib.hid hxt
  have x0 : 0 ≤ x := by omega
  have x1 : x ≤ 6000 := by omega
  have a0 : 1536 ≤ a := by omega
  have a1 : a ≤ 5632 := by omega
  clear hpos LEN AL MK hu hn hlg hx hxt xb c1 c2 c3
  by_cases c4 : n = 0
  · have hno : ¬ IsH M a := fun z => (HPOS.out.1 z).1 c4
    have HNO := Lib.hid hno
    have d4 : ((n : Int) == 0) = true := by simp [c4]
    clear hno c4
    go_enter Try.func11, Try.ntmps11
    go_wp2_with fail
    rw [HWA.out]
    refine CHH.out.mono ?_
    rintro e w2 ⟨rfl, m2, k2⟩
    have r2 := R0.out.next H0.out m2 k2
    clear R0 CHH m2 k2
    have MM := SM.yes r2.m YB.out.1
    obtain ⟨-, -, mm2⟩ := MM
    have R2 := Lib.hid r2
    have M2 := Lib.hid mm2
    clear r2 mm2
    go_wp2_with fail
    refine (MKH.out _ M2.out).mono ?_
    rintro e w3 o3
    have o3 := OutM.s o3
    obtain ⟨rfl, m3, k3⟩ := o3
    have r3 := R2.out.next H0.out m3 k3
    clear R2 M2 m3 k3 MKH
    have R3 := Lib.hid r3
    clear r3
    go_wp2_with fail
    refine (LENH.out w3).mono ?_
    rintro e w4 ⟨rfl, rfl⟩
    go_wp2_with fail
    refine (ALH.out w3).mono ?_
    rintro e w4 ⟨rfl, rfl⟩
    go_wp2_with fail
    refine (LENH.out w3).mono ?_
    rintro e w4 ⟨rfl, rfl⟩
    obtain ⟨st, r9⟩ := R3.out.put H0.out hag0
    generalize w3.setCells w.heap.size 0 (hcs hag0) = w9 at *
    have ST := Lib.hid st
    have HBX := Lib.hid (show w9.heap[w.heap.size]? = some (.cells (hcs hag0).toArray 29 (0, 0)) from r9.b)
    have HQ := Lib.hid (RdQ.no HNO.out r9.m r9.k)
    clear st r9
    generalize RdQ w (some ⟨p, 0, none⟩) p gb mb true G M a = Q at *
    go_wp2_with (first
      | ((with_reducible refine at_ (op := .build 29 #[]) ?_); refine wpList_val rfl _ (ex_build0 29 rfl _ (build_h0 _)) ?_)
      | ((with_reducible refine at_ (op := .store 29 (.tmp 4) (.tmp 42)) ?_); refine wpList_unit rfl (ex_store 29 (.tmp 4) (.tmp 42) rfl _ _ rfl rfl ST.out) ?_)
      | fail)
    refine bodyPost_ret (v := .tuple #[hag hag0, .bool false]) ?_ rfl HQ.out
    exact results_row_tmp rfl _ _ w.heap.size 29 _ (0, 0) _ _ rfl rfl HBX.out Try.underlying29 rfl sizeH
  have d4 : ((n : Int) == 0) = false := by simp; omega
  by_cases c5 : y - 8 < x
  · have hno : ¬ IsH M a := fun z => by have := (HPOS.out.1 z).2; omega
    have HNO := Lib.hid hno
    have d5 : decide (y - 8 < x) = true := by simpa using c5
    clear hno c5
    go_enter Try.func11, Try.ntmps11
    go_wp2_with fail
    rw [HWA.out]
    refine CHH.out.mono ?_
    rintro e w2 ⟨rfl, m2, k2⟩
    have r2 := R0.out.next H0.out m2 k2
    clear R0 CHH m2 k2
    have MM := SM.yes r2.m YB.out.1
    obtain ⟨-, -, mm2⟩ := MM
    have R2 := Lib.hid r2
    have M2 := Lib.hid mm2
    clear r2 mm2
    go_wp2_with fail
    refine (MKH.out _ M2.out).mono ?_
    rintro e w3 o3
    have o3 := OutM.s o3
    obtain ⟨rfl, m3, k3⟩ := o3
    have r3 := R2.out.next H0.out m3 k3
    clear R2 M2 m3 k3 MKH
    have R3 := Lib.hid r3
    clear r3
    go_wp2_with fail
    refine (LENH.out w3).mono ?_
    rintro e w4 ⟨rfl, rfl⟩
    go_wp2_with fail
    refine (ALH.out w3).mono ?_
    rintro e w4 ⟨rfl, rfl⟩
    go_wp2_with fail
    refine (LENH.out w3).mono ?_
    rintro e w4 ⟨rfl, rfl⟩
    obtain ⟨st, r9⟩ := R3.out.put H0.out hag0
    generalize w3.setCells w.heap.size 0 (hcs hag0) = w9 at *
    have ST := Lib.hid st
    have HBX := Lib.hid (show w9.heap[w.heap.size]? = some (.cells (hcs hag0).toArray 29 (0, 0)) from r9.b)
    have HQ := Lib.hid (RdQ.no HNO.out r9.m r9.k)
    clear st r9
    generalize RdQ w (some ⟨p, 0, none⟩) p gb mb true G M a = Q at *
    go_wp2_with (first
      | ((with_reducible refine at_ (op := .build 29 #[]) ?_); refine wpList_val rfl _ (ex_build0 29 rfl _ (build_h0 _)) ?_)
      | ((with_reducible refine at_ (op := .store 29 (.tmp 4) (.tmp 42)) ?_); refine wpList_unit rfl (ex_store 29 (.tmp 4) (.tmp 42) rfl _ _ rfl rfl ST.out) ?_)
      | fail)
    refine bodyPost_ret (v := .tuple #[hag hag0, .bool false]) ?_ rfl HQ.out
    exact results_row_tmp rfl _ _ w.heap.size 29 _ (0, 0) _ _ rfl rfl HBX.out Try.underlying29 rfl sizeH
  have hyes : IsH M a := HPOS.out.2 ⟨c4, by omega⟩
  have HYES := Lib.hid hyes
  have d5 : decide (y - 8 < x) = false := by simpa using c5
  clear hyes c5 c4
  go_enter Try.func11, Try.ntmps11
  go_wp2_with fail
  rw [HWA.out]
  refine CHH.out.mono ?_
  rintro e w2 ⟨rfl, m2, k2⟩
  have r2 := R0.out.next H0.out m2 k2
  clear R0 CHH m2 k2
  have MM := SM.yes r2.m YB.out.1
  obtain ⟨-, -, mm2⟩ := MM
  have R2 := Lib.hid r2
  have M2 := Lib.hid mm2
  clear r2 mm2
  go_wp2_with fail
  refine (MKH.out _ M2.out).mono ?_
  rintro e w3 o3
  have o3 := OutM.s o3
  obtain ⟨rfl, m3, k3⟩ := o3
  have r3 := R2.out.next H0.out m3 k3
  clear R2 M2 m3 k3 MKH
  have R3 := Lib.hid r3
  clear r3
  go_wp2_with fail
  refine (LENH.out w3).mono ?_
  rintro e w4 ⟨rfl, rfl⟩
  go_wp2_with fail
  refine (ALH.out w3).mono ?_
  rintro e w4 ⟨rfl, rfl⟩
  go_wp2_with fail
  refine (LENH.out w3).mono ?_
  rintro e w4 ⟨rfl, rfl⟩
  go_wp2_with fail
  have DR : RdW w w3.drew (some ⟨p, 0, none⟩) p gb mb true G M hag0 := R3.out.drew
  refine wp_region_any (by kernel_rfl) (wpAny_of_last (S := fun _ => True) (z := 17) _ _ _ _ ?_)
  change wpAnyZ _ _ _ _ _ _ _ _ _ w3.drew
  generalize w3.drew = w4 at *
  have hS : True := trivial
  clear R3
  refine wpAnyZ_take (oi := ⟨_, _, _, _, _, _⟩) (i := 0) (v := .int .i64 a) rfl (by kernel_rfl) (fun _ _ _ h => h) (Or.inl ⟨by rfl, fun _ _ => rfl⟩) hS ?_
  try simp only [Act.put, List.setIfInBounds_toArray, List.set_cons_zero, List.set_cons_succ]
  refine wpAnyZ_take (oi := ⟨_, _, _, _, _, _⟩) (i := 1) (v := .pointer (some ⟨p, 0, none⟩)) rfl (by kernel_rfl) (fun _ _ _ h => h) (Or.inl ⟨by rfl, fun _ _ => rfl⟩) hS ?_
  try simp only [Act.put, List.setIfInBounds_toArray, List.set_cons_zero, List.set_cons_succ]
  refine wpAnyZ_take (oi := ⟨_, _, _, _, _, _⟩) (i := 2) (v := .int .i64 a) rfl (by kernel_rfl) (fun _ _ _ h => h) (Or.inl ⟨by rfl, fun _ _ => rfl⟩) hS ?_
  try simp only [Act.put, List.setIfInBounds_toArray, List.set_cons_zero, List.set_cons_succ]
  refine wpAnyZ_take (oi := ⟨_, _, _, _, _, _⟩) (i := 4) (v := .pointer (some ⟨p, 0, none⟩)) rfl (by kernel_rfl) (fun _ _ _ h => h) (Or.inl ⟨by rfl, fun _ _ => rfl⟩) hS ?_
  try simp only [Act.put, List.setIfInBounds_toArray, List.set_cons_zero, List.set_cons_succ]
  refine wpAnyZ_take (oi := ⟨_, _, _, _, _, _⟩) (i := 5) (v := .int .i64 a) rfl (by kernel_rfl) (fun _ _ _ h => h) (Or.inl ⟨by rfl, fun _ _ => rfl⟩) hS ?_
  try simp only [Act.put, List.setIfInBounds_toArray, List.set_cons_zero, List.set_cons_succ]
  refine wpAnyZ_take (oi := ⟨_, _, _, _, _, _⟩) (i := 6) (v := .int .i64 (a + 9)) rfl (by kernel_rfl) (fun _ _ _ h => h) (Or.inl ⟨by rfl, fun _ _ => by go_simp; exact IntWalk.i64_in _ (by omega)⟩) hS ?_
  try simp only [Act.put, List.setIfInBounds_toArray, List.set_cons_zero, List.set_cons_succ]
  refine wpAnyZ_take (oi := ⟨_, _, _, _, _, _⟩) (i := 7) (v := .int .u8 (u.toNat : Int)) rfl (by kernel_rfl) (fun _ _ _ h => h) (Or.inl ⟨by rfl, fun _ _ => rfl⟩) hS ?_
  try simp only [Act.put, List.setIfInBounds_toArray, List.set_cons_zero, List.set_cons_succ]
  refine wpAnyZ_take (oi := ⟨_, _, _, _, _, _⟩) (i := 11) (v := .int .u8 (u.toNat : Int)) rfl (by kernel_rfl) (fun _ _ _ h => h) (Or.inl ⟨by rfl, fun _ _ => rfl⟩) hS ?_
  try simp only [Act.put, List.setIfInBounds_toArray, List.set_cons_zero, List.set_cons_succ]
  refine wpAnyZ_take (oi := ⟨_, _, _, _, _, _⟩) (i := 13) (v := .int .u8 (u.toNat : Int)) rfl (by kernel_rfl) (fun _ _ _ h => h) (Or.inl ⟨by rfl, fun _ _ => rfl⟩) hS ?_
  try simp only [Act.put, List.setIfInBounds_toArray, List.set_cons_zero, List.set_cons_succ]
  refine wpAnyZ_take (oi := ⟨_, _, _, _, _, _⟩) (i := 15) (v := .int .i64 x) rfl (by kernel_rfl) (fun _ _ _ h => h) (Or.inl ⟨by rfl, fun _ _ => rfl⟩) hS ?_
  try simp only [Act.put, List.setIfInBounds_toArray, List.set_cons_zero, List.set_cons_succ]
  have M4 := (SM.yes DR.m YB.out.1).2.2
  refine wpAnyZ_one (i := 3) (by kernel_rfl) ?_
  refine op_call (om := ⟨_, _, _, _, _, _⟩) (fn := 29) (args := #[.pointer (some ⟨p, 0, none⟩), .int .i64 a]) (R := fun u' w' => u' = .int .i64 (cel M a) ∧ RdW w w' (some ⟨p, 0, none⟩) p gb mb true G M hag0) rfl rfl (by go_simp)
    ((mget_at M4 a (by omega) (by omega)).mono fun e w' z => ⟨_, z.1, rfl, DR.next H0.out (OutM.s z).2.1 (OutM.s z).2.2⟩) _ _ rfl rfl ?_
  rintro u' w5 ⟨rfl, R5⟩
  clear M4 DR
  refine ⟨.inr hS, ?_⟩
  try simp only [Act.put, List.setIfInBounds_toArray, List.set_cons_zero, List.set_cons_succ]
  refine wpAnyZ_one (i := 8) (by kernel_rfl) ?_
  refine op_call (om := ⟨_, _, _, _, _, _⟩) (fn := 28) (args := #[.int .u8 (u.toNat : Int)]) (R := fun u' w' => u' = .int .i64 (n : Int) ∧ RdW w w' (some ⟨p, 0, none⟩) p gb mb true G M hag0) rfl rfl (by go_simp)
    ((LENH.out w5).mono fun e w' z => ⟨_, z.1, rfl, z.2 ▸ R5⟩) _ _ rfl rfl ?_
  rintro u' w6 ⟨rfl, R6⟩
  clear R5
  refine ⟨.inr hS, ?_⟩
  try simp only [Act.put, List.setIfInBounds_toArray, List.set_cons_zero, List.set_cons_succ]
  have M6 := (SM.yes R6.m YB.out.1).2.2
  have LD := mload_at M6 (a + 9) (n : Int) (by have := YB.out; omega) (by have := YB.out; omega)
  rw [show (clamp (n : Int) 8192).toNat = n by unfold clamp; split <;> (try split) <;> omega] at LD
  have ll : (loadL M (a + 9) n).length = n := loadL_len _ _ _
  have lz : rdV M a = ⟨a, cel M a, loadL M (a + 9) n, decide (128 ≤ u.toNat), decide (u.toNat / 64 % 2 = 1), x⟩ := by unfold rdV; rw [HLG.out, ← HU.out, HXT.out]
  generalize loadL M (a + 9) n = L at *
  refine wpAnyZ_one (i := 9) (by kernel_rfl) ?_
  refine op_call (om := ⟨_, _, _, _, _, _⟩) (fn := 30) (args := #[.pointer (some ⟨p, 0, none⟩), .int .i64 (a + 9), .int .i64 (n : Int)]) (R := fun u' w' => ∃ g, u' = .slice (some ⟨g, 0, none⟩) n n ∧ Row8 w' g 5 L ∧ RdW w w' (some ⟨p, 0, none⟩) p gb mb true G M hag0) rfl rfl (by go_simp)
    (LD.mono fun e w' z => by
      obtain ⟨g, e1, hg, hr, hm, hk⟩ := z
      rw [ll] at e1
      exact ⟨_, e1, g, rfl, hr, R6.next H0.out (.inl ⟨rfl, rfl, hm⟩) (hk.mono fun _ _ f => ⟨rfl, .inr f⟩)⟩) _ _ rfl rfl ?_
  rintro u' w7 ⟨g, rfl, hr7, R7⟩
  clear M6 LD R6
  refine ⟨.inr hS, ?_⟩
  try simp only [Act.put, List.setIfInBounds_toArray, List.set_cons_zero, List.set_cons_succ]
  refine wpAnyZ_more (S' := fun W => Row8 W g 5 L) (fun _ _ => trivial) _ _ _ _ ?_
  replace hS := hr7
  refine wpAnyZ_take (oi := ⟨_, _, _, _, _, _⟩) (i := 10) (v := Sx L) rfl (by kernel_rfl) (fun _ _ _ h => h) (Or.inl ⟨by rfl, fun _ hw => ex_convert 22 9 (.tmp 52) rfl _ _ rfl (conv_sx ll hw)⟩) hS ?_
  try simp only [Act.put, List.setIfInBounds_toArray, List.set_cons_zero, List.set_cons_succ]
  refine wpAnyZ_one (i := 12) (by kernel_rfl) ?_
  refine op_call (om := ⟨_, _, _, _, _, _⟩) (fn := 31) (args := #[.int .u8 (u.toNat : Int), .int .u8 128]) (R := fun u' w' => u' = .bool (decide (128 ≤ u.toNat)) ∧ w7 = w') rfl rfl (by go_simp)
    ((has128_any u w7).mono fun e w' z => ⟨_, z.1, rfl, z.2⟩) _ _ rfl rfl ?_
  rintro u' _ ⟨rfl, rfl⟩
  refine ⟨.inr hS, ?_⟩
  try simp only [Act.put, List.setIfInBounds_toArray, List.set_cons_zero, List.set_cons_succ]
  refine wpAnyZ_one (i := 14) (by kernel_rfl) ?_
  refine op_call (om := ⟨_, _, _, _, _, _⟩) (fn := 31) (args := #[.int .u8 (u.toNat : Int), .int .u8 64]) (R := fun u' w' => u' = .bool (decide (u.toNat / 64 % 2 = 1)) ∧ w7 = w') rfl rfl (by go_simp)
    ((has64_any u w7).mono fun e w' z => ⟨_, z.1, rfl, z.2⟩) _ _ rfl rfl ?_
  rintro u' _ ⟨rfl, rfl⟩
  refine ⟨.inr hS, ?_⟩
  try simp only [Act.put, List.setIfInBounds_toArray, List.set_cons_zero, List.set_cons_succ]
  generalize decide (128 ≤ u.toNat) = b1 at *
  generalize decide (u.toNat / 64 % 2 = 1) = b2 at *
  refine wpAnyZ_take (oi := ⟨_, _, _, _, _, _⟩) (i := 16) (v := hag ⟨a, cel M a, L, b1, b2, x⟩) rfl (by kernel_rfl) (fun _ _ _ h => h) (Or.inl ⟨by rfl, fun _ _ => by unfold hag Sx; go_simp⟩) hS ?_
  try simp only [Act.put, List.setIfInBounds_toArray, List.set_cons_zero, List.set_cons_succ]
  obtain ⟨st, r9⟩ := R7.put H0.out ⟨a, cel M a, L, b1, b2, x⟩
  have HBX := Lib.hid (show (w7.setCells w.heap.size 0 (hcs ⟨a, cel M a, L, b1, b2, x⟩)).heap[w.heap.size]? = some (.cells (hcs ⟨a, cel M a, L, b1, b2, x⟩).toArray 29 (0, 0)) from r9.b)
  have hq := RdQ.yes HYES.out r9.m r9.k
  rw [lz] at hq
  have HQ := Lib.hid hq
  clear hq
  generalize RdQ w (some ⟨p, 0, none⟩) p gb mb true G M a = Q at *
  refine wpAnyZ_one (i := 17) (by kernel_rfl) ?_
  refine wpOpS (om := ⟨_, _, _, _, _, _⟩) rfl rfl (ex_store 29 (.tmp 4) (.tmp 59) rfl _ _ rfl rfl st) ?_
  refine ⟨.inl (by omega), ?_⟩
  try simp only [Act.put, List.setIfInBounds_toArray, List.set_cons_zero, List.set_cons_succ]
  generalize w7.setCells w.heap.size 0 (hcs ⟨a, cel M a, L, b1, b2, x⟩) = w9 at *
  clear r9 st R7 hr7 hS
  refine wpAnyZ_one (i := 18) (by kernel_rfl) ?_
  refine wpOp_run (om := ⟨_, _, _, _, _, _⟩) (u := .bool true) (w' := w9) rfl rfl (by go_simp) ?_
  refine ⟨.inl (by omega), ?_⟩
  try simp only [Act.put, List.setIfInBounds_toArray, List.set_cons_zero, List.set_cons_succ]
  refine wpAnyZ_done (by kernel_rfl) ?_ _
  try simp only [Act.put, List.setIfInBounds_toArray, List.set_cons_zero, List.set_cons_succ]
  go_wp2_with fail
  refine bodyPost_ret (v := .tuple #[hag ⟨a, cel M a, L, b1, b2, x⟩, .bool true]) ?_ rfl HQ.out
  exact results_row_tmp rfl _ _ w.heap.size 29 _ (0, 0) _ _ rfl rfl HBX.out Try.underlying29 rfl sizeH
end Go.Proofs.Ythmlhjjcihibnaa.Hh
