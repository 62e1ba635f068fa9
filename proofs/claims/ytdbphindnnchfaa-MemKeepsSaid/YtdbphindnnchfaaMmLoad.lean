/-
  MmLoad
-/
import Derived.Test.YtdbphindnnchfaaMmPlain
import Derived.Test.YtdbphindnnchfaaGB
import Derived.WalkLawsBesides
namespace Go.Proofs.Ytdbphindnnchfaa.Mm
open Go.RowKit Go.Maps
set_option linter.unusedVariables false

set_option maxRecDepth 100000 in
set_option maxHeartbeats 400000 in
theorem minside_any (a n : Int) (w : World) : Calls Try.prog 39 #[.int .i64 a, .int .i64 n] w fun e w' => e = .returned (.tuple #[.int .i64 (inX a), .int .i64 (inY a n)]) ∧ w = w' := by
  unfold inX inY
  go_enter Try.func39, Try.ntmps39
  go_wp2_with fail
  all_goals
    go_ret2
    exact ⟨rfl, rfl⟩

theorem size8' : (Try.prog.info? 5).map (·.size) = some 1 := by kernel_rfl
/-- 'copy' into a row of bytes, from bytes of which there may be more. -/
theorem run_copy8m {P : Program} (w : World) (dT sT ty elem t : TypeId) (hu : P.underlying dT = some (.slice elem)) (hsz : (P.info? elem).map (·.size) = some 1)
    (g off dLen dCap : Nat) (zs ys : List UInt8) (ad : Addr) (sl c : Nat) (hr : Row8 w g t zs) (hy : BR w w.heap.size (some ad) ys) (hle : ys.length = min sl dLen) (hfit : off + ys.length ≤ zs.length) (hn : ys ≠ []) :
    ∃ w', (Builtin.copy_ #[dT, sT] ty #[.slice (some ⟨g, off, none⟩) dLen dCap, .slice (some ad) sl c]).run P w = .ok (.int .i64 (ys.length : Int)) w' ∧ Row8 w' g t (splice zs off ys) ∧ w.grownBy w' (some g) := by
  obtain ⟨ad', e, _, hc⟩ := hy hn
  cases e
  have hrun := run_copy_row (P := P) w dT sT ty elem g off dLen dCap ad sl c _ t (ys.map B8) hu hsz hr.block (by rw [List.length_map]; omega) (fun j v hj => by
    simp only [List.getElem?_map, Option.map_eq_some_iff] at hj
    obtain ⟨u, hu, rfl⟩ := hj
    exact hc j u hu) (by simpa using hfit) (by
    intro v hv
    simp only [List.mem_map] at hv
    obtain ⟨u, _, rfl⟩ := hv
    rfl)
  rw [List.length_map] at hrun
  refine ⟨_, hrun, ?_, ⟨rfl, rfl, rfl, by simp, fun k _ hne => setRow_other w g k _ (fun e => hne (by rw [e]))⟩⟩
  refine Row8.of_block ((setRow_heap w g _ _ t _ hr.block).trans ?_)
  simp [splice, List.map_take, List.map_drop]

/-- The builtin copy at its place in a walk, its run being known. -/
theorem wpList_copy_run {P : Program} {w w' : World} {ops : Array Oper} {rest : List Oper} {o : Oper} {a : Act} {Q : Exit → Act → World → Prop} (hgd : o.guard = none) (s x : Operand) (t t' : TypeId)
    (ho : o.op = .call { callee := .builtin .copy, args := #[s, x], argTypes := #[t, t'] }) (v : Value)
    (hrun : (Builtin.copy_ #[t, t'] o.type #[a.eval s, a.eval x]).run P w = .ok v w') (h : wpList P ops Q rest (a.put o.dst v) w') : wpList P ops Q (o :: rest) a w :=
  wpList_plain hgd fun _ hK => by
    unfold Oper.wp execOp
    simp only [ho, resolve, invoke, builtin, Sem.run_bind, Sem.run_pure, Result.andThen_ok, List.map_toArray, List.map_cons, List.map_nil, hrun]
    exact hK _ _ h
theorem PgAt.br {w : World} {b : Nat} {xs : List UInt8} (h : PgAt w b xs) (hx : xs.length = 64) (r k : Nat) (hk : r + k ≤ 64) : BR w w.heap.size (some ⟨b, r, none⟩) ((xs.drop r).take k) := br_block h r k

theorem arrLenP : Try.prog.arrayLen 63 = 64 := by kernel_rfl
theorem elemP : Try.prog.elem 63 = 5 := by kernel_rfl
theorem sliceP (w : World) (b r : Nat) (hr : r < 64) : (Instr.sliceAt 63 (.pointer (some ⟨b, 0, none⟩)) (some (.int .i64 (r : Int))) none none).run Try.prog w = .ok (.slice (some ⟨b, r, none⟩) (64 - r) (64 - r)) w := by
  rw [run_sliceAt_array_l w 63 ⟨b, 0, none⟩ (by rw [arrLenP, elemP]; exact Try.underlying63) .i64 (r : Int) (by omega) (by rw [arrLenP]; omega), elemP, sizeU, Result.andThen_ok, arrLenP, Int.toNat_natCast]
  unfold slicedAt
  rw [if_neg (by omega), Nat.mul_one, Addr.add_mid, Nat.zero_add]

variable {w : World} {p gb mb : Nat} {G M : List UInt8}
/-- New bytes are handed back; the memory stands as it did. -/
def GivesM (w : World) (p gb mb : Nat) (G M zs : List UInt8) (e : Ending) (w' : World) : Prop :=
  ∃ g, e = .returned (.slice (some ⟨g, 0, none⟩) zs.length zs.length) ∧ w.heap.size ≤ g ∧ Row8 w' g 5 zs ∧ MemAt w' p gb mb G M ∧ Keeps (· = mb) w w'
set_option maxRecDepth 100000 in
set_option maxHeartbeats 600000 in
theorem mload_at (h : MemAt w p gb mb G M) (a n : Int) (ha : -9223372036854775808 ≤ a) (ha' : a ≤ 9223372036854775807) :
    Calls Try.prog 21 #[.pointer (some ⟨p, 0, none⟩), .int .i64 a, .int .i64 n] w (GivesM w p gb mb G M (loadL M a (clamp n 8192).toNat)) := by
  have hr := clamp_range n 8192 (by omega)
  generalize hm : clamp n 8192 = m at *
  unfold clamp at hm
  obtain ⟨c, rfl⟩ := Int.eq_ofNat_of_zero_le hr.1
  rw [Int.toNat_natCast]
  have hmk := make8 c (by omega)
  have hlt := h.lt
  have ap := h.apart
  have ml := h.ml
  have k1 : Keeps (fun _ => False) w (w.alloc (.cells (madeCells #[.int .u8 0] c) 5)) := Keeps.alloc _ _ _
  have h1 := h.keep k1 (fun h => h) (fun h => h) (fun h => h)
  have r1 := Row8.made w c 5
  have s1 : w.heap.size < (w.alloc (.cells (madeCells #[.int .u8 0] c) 5)).heap.size := by simp
  clear h
  go_enter Try.func21, Try.ntmps21
  go_wp2_with fail
  all_goals
    clear hm hmk
    generalize w.alloc (.cells (madeCells #[.int .u8 0] c) 5) = w1 at *
    refine (mmade_at h1).mono ?_
    rintro e w2 ⟨rfl, rfl⟩
    go_wp2_with fail
    refine (minside_any _ _ _).mono ?_
    rintro e w2 ⟨rfl, rfl⟩
    have x1 := inX_lo a
    have x2 := inX_eq a
    have y1 := inY_hi a c
    have y2 : a + c ≤ 9223372036854775807 → inY a c ≤ a + c ∧ (inY a c = a + c ∨ inY a c = 8192) := fun h => in_yes ha (by omega) h
    have y3 : 9223372036854775807 < a + c → inY a c < 0 := fun h => in_no ha' (by omega) h
    have X1 := Lib.hid x1
    have X2 := Lib.hid x2
    have Y2 := Lib.hid y2
    have Y3 := Lib.hid y3
    clear x1 x2 y2 y3
    generalize inX a = X at *
    generalize inY a c = Y at *
    go_wp2_with fail
    go_loopw [8, 10] (fun i _ wr => ∃ t : Nat, i = .int .i64 (t : Int) ∧ X ≤ t ∧ ((t : Int) ≤ X ∨ (t : Int) ≤ Y) ∧ Row8 wr w.heap.size 5 (loadT M a c t) ∧ MemAt wr p gb mb G M ∧ Keeps (· = mb) w wr) (fun i _ _ => (Y - RowKit.intOf i).toNat)
    case atStart =>
      have x1 := X1.out
      have x2 := X2.out
      have ex : (X.toNat : Int) = X := Int.toNat_of_nonneg x1.1
      exact ⟨X.toNat, by rw [ex], by omega, Or.inl (by omega), by rw [loadT_start M a c _ (by omega)]; exact r1, h1, k1.mono fun _ _ h => h.elim⟩
    case round =>
      obtain ⟨t, rfl, t1, t2, hrow, hmem, hk⟩ := hrel
      by_cases hty : (t : Int) < Y
      · go_wp2_with fail
        rw [show ((t : Int) / 64) = ((t / 64 : Nat) : Int) from rfl]
        refine (mpage_at hmem (t / 64) (by omega)).mono ?_
        rintro e w2 ⟨rfl, hm2, k2⟩
        have hpl := page_len ml (n := t / 64) (by omega)
        obtain ⟨s1, s2, s3⟩ := (PgAt.new w2).put zs64_len hpl
        have kA : Keeps (fun _ => False) w2 (w2.alloc (.cells z64' 63)) := Keeps.alloc _ _ _
        have k23 : Keeps (fun _ => False) w2 ((w2.alloc (.cells z64' 63)).setCells w2.heap.size 0 ((page M (t / 64)).map B8)) := Keeps.thru kA s3 (fun _ _ h => h) fun _ _ h => by omega
        have ST := Lib.hid s1
        have P3 := Lib.hid s2
        clear kA s1 s2 s3
        go_wp2_with (first
          | ((with_reducible refine here (op := .alloc 63) (d := some 10) ?_); refine wpList_alloc_run rfl 63 rfl _ (allocP _) ?_)
          | ((with_reducible refine here (op := .store 63 (.tmp 10) (.tmp 32)) ?_); refine wpList_store_run rfl 63 _ _ rfl _ _ rfl rfl ST.out ?_))
        generalize (w2.alloc (.cells z64' 63)).setCells w2.heap.size 0 ((page M (t / 64)).map B8) = w3 at *
        have x1 := X1.out
        have x2 := X2.out
        have y2 := Y2.out
        have y3 := Y3.out
        have hac : a + c ≤ 9223372036854775807 := by omega
        obtain ⟨d, hd⟩ : ∃ d : Nat, (t : Int) - a = d := ⟨((t : Int) - a).toNat, by omega⟩
        obtain ⟨y, hy⟩ : ∃ y : Nat, Y - a = y := ⟨(Y - a).toNat, by omega⟩
        have W1 : IntKind.i64.wrap ((t : Int) - a) = (d : Int) := by rw [hd]; exact IntWalk.i64_in _ (by omega)
        have W2 : IntKind.i64.wrap (Y - a) = (y : Int) := by rw [hy]; exact IntWalk.i64_in _ (by omega)
        have W3 : (t : Int).tmod 64 = ((t % 64 : Nat) : Int) := rfl
        have d1 : d < y := by omega
        have d2 : y ≤ c := by omega
        have d3 : ¬ c = d := by omega
        have d4 : d ≤ y := by omega
        have m0 : t % 64 ≤ 64 := by omega
        have m1 : t % 64 < 64 := Nat.mod_lt _ (by omega)
        have m2 : ¬ 64 = t % 64 := by omega
        have HD := Lib.hid hd
        have HY := Lib.hid hy
        obtain ⟨k, hk0⟩ : ∃ k : Nat, k = min (64 - t % 64) (y - d) := ⟨_, rfl⟩
        have HK := Lib.hid hk0
        have e1 : 1 ≤ k := by omega
        have e2 : k ≤ 64 := by omega
        have e3 : d + k ≤ c := by omega
        have e4 : k ≤ 64 - t % 64 := by omega
        have tb : t < 8192 := by omega
        have E5 := Lib.hid (show (t : Int) + k ≤ Y by omega)
        have E6 := Lib.hid (show (t : Int) ≤ a + c by omega)
        have LS := Lib.hid (loadT_step M ml a c t k (by omega) (by omega) (by omega) tb)
        rw [show ((t : Int) - a).toNat = d by omega] at LS
        clear hd hy x1 x2 y2 y3 hk0
        have SL := fun (w : World) (b : Nat) => sliceP w b (t % 64) m1
        generalize t % 64 = r at W3 m0 m1 m2 SL e4 HK LS
        refine wp_region_any (by kernel_rfl) ?_
        change wpAny _ _ _ _ _ _ _ w3.drew
        have k34 : Keeps (fun _ => False) w3 w3.drew := Keeps.drew _ _
        have p4 := P3.out.keep k34 (fun h => h)
        have r4 : Row8 w3.drew w.heap.size 5 (loadT M a c t) := by
          have h1 := hrow.lt_
          refine Row8.of_block ((k34.block _ (Nat.lt_of_lt_of_le h1 (Nat.le_trans k2.size k23.size)) (fun h => h)).trans ((k23.block _ (Nat.lt_of_lt_of_le h1 k2.size) (fun h => h)).trans ((k2.block _ h1 (by omega)).trans hrow.block)))
        have h4 := hm2.keep (k23.trans k34) (fun h => h) (fun h => h) (fun h => h)
        have K4 := Lib.hid (Keeps.thru (F'' := fun k => k = mb) (hk.trans k2) (k23.trans k34) (fun _ _ h => h) fun _ _ h => h.elim)
        generalize w3.drew = w4 at *
        refine wpAny_take (oi := ⟨_, _, _, _, _, _⟩) (i := 0) (v := .int .i64 (t : Int)) rfl (by kernel_rfl) (by kernel_rfl) (by kernel_rfl) (fun _ _ _ h => h) (Or.inl ⟨by rfl, fun _ => rfl⟩) ?_
        simp only [Act.put, List.setIfInBounds_toArray, List.set_cons_zero, List.set_cons_succ]
        refine wpAny_tail [1, 2, 3, 4, 5, 6, 7, 8, 9, 10, 11] [12, 13, 14] [_, _, _, _, _, _, _, _, _, _, _] [_, _, _] rfl rfl rfl (by kernel_rfl) ?_
        still_step
        still_step
        still_step
        still_step
        still_step
        still_step
        still_step
        still_step
        still_step
        still_step
        still_step
        refine wpStill_nil ?_
        have hys : (((page M (t / 64)).drop r).take k).length = k := by rw [List.length_take, List.length_drop, hpl]; omega
        obtain ⟨w5, c1, c2, c3⟩ := run_copy8m (P := Try.prog) w4 22 22 3 5 5 Try.underlying22 size8' w.heap.size d (y - d) (c - d) _ _ _ (64 - r) (64 - r) r4 (p4.br hpl r k (by omega)) (by rw [hys]; exact HK.out) (by rw [hys, loadT_len]; omega) (by intro e; rw [e] at hys; simp at hys; omega)
        rw [hys] at c1
        rw [LS.out] at c2
        refine wpList_copy_run rfl _ _ 22 22 rfl _ c1 ?_
        have k45 : Keeps (fun k => k = w.heap.size) w4 w5 := Keeps.grown _ c3 (fun k e => by cases e; rfl)
        have h5 := Lib.hid (h4.keep k45 (by omega) (by omega) (by omega))
        have K5 := Lib.hid (Keeps.thru (F'' := fun k => k = mb) K4.out k45 (fun _ _ h => h) fun _ _ h => by omega)
        have R5 := Lib.hid c2
        clear c1 c2 c3 k45 h4 r4 p4 k34 k23 k2 hm2 hk hmem hrow hys P3 ST SL W1 W2 W3 hpl
        go_wp2_with fail
        go_roundw
        case rel => exact ⟨t + k, by go_num, by omega, Or.inr (by have := E5.out; omega), R5.out, h5.out, K5.out⟩
        case measure => simp [RowKit.intOf]; have := E5.out; omega
      · have hte : loadT M a c t = loadL M a c := by
          have x1 := X1.out
          have x2 := X2.out
          have y2 := Y2.out
          have y3 := Y3.out
          by_cases hac : a + c ≤ 9223372036854775807
          · have y2 := y2 hac
            by_cases hl : a + c ≤ 0
            · rw [loadL_none M ml a c (Or.inl hl), loadT_start M a c t (by omega)]
            · exact loadT_done M ml a c t (by omega)
          · rw [loadL_none M ml a c (by omega), loadT_start M a c t (by omega)]
        have R5 := Lib.hid (hte ▸ hrow)
        have H5 := Lib.hid hmem
        have K5 := Lib.hid hk
        have hge : Y ≤ (t : Int) := by omega
        clear hte hrow hmem hk hty t1 t2
        go_wp2_with fail
        go_ret
        exact ⟨w.heap.size, by rw [loadL_len]; rfl, Nat.le_refl _, R5.out, H5.out, K5.out⟩
end Go.Proofs.Ytdbphindnnchfaa.Mm
