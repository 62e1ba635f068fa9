/-
  Merged by wip/tools/merge.py: TrRun TrMem TrSame
-/
import Derived.Test.YtacghpabjmnfiaaGreatDoorGTr
import Derived.Test.YtacghpabjmnfiaaGreatDoorGNd
namespace Go.Proofs.YtacghpabjmnfiaaGreatDoor
open Go.RowKit

set_option maxRecDepth 100000 in
set_option maxHeartbeats 600000 in
theorem tread_at {w : World} {F : Nat → Prop} {p N : Nat} {sv wv : Value} {svs : List Value} {ws : List (Nat × Value)} {D : DSt} (h : RDat w F p N sv wv svs ws D) (hd : D.down = false) (hQ : D.Q.length ≤ 1954687338212) (top : Int) :
    Calls Tryz.prog 23 #[.pointer (some ⟨p, 0, none⟩), .int .i64 top] w (ReadOut w (readT D N top) top) := by
  obtain ⟨_, _, _, d3, _⟩ := h.c
  rw [hd] at d3
  have hplt := h.plt
  have z0 := TrAt.box w (top := 0) (lv := z4) (pg := z128) (v := nilS) (by simp [z4]) (by simp [z128])
  have k0 : Below w.heap.size w (w.alloc (.cells (tcells 0 z4 z128 nilS).toArray 47)) := (Below.refl _ _).alloc (Nat.le_refl _) _
  have A0 := Lib.hid (allocTr w)
  have A1 := Lib.hid (allocTr (w.alloc (.cells (tcells 0 z4 z128 nilS).toArray 47)))
  have t0 := TrAt.box (w.alloc (.cells (tcells 0 z4 z128 nilS).toArray 47)) (top := 0) (lv := z4) (pg := z128) (v := nilS) (by simp [z4]) (by simp [z128])
  have k1 := k0.alloc (by simp) (.cells (tcells 0 z4 z128 nilS).toArray 47)
  have z1 := z0.keep (Keeps.alloc (fun _ => False) _ (.cells (tcells 0 z4 z128 nilS).toArray 47)) (fun h => h)
  have hs1 : ((w.alloc (.cells (tcells 0 z4 z128 nilS).toArray 47)).alloc (.cells (tcells 0 z4 z128 nilS).toArray 47)).heap.size = w.heap.size + 2 := by simp
  rw [show (w.alloc (.cells (tcells 0 z4 z128 nilS).toArray 47)).heap.size = w.heap.size + 1 from by simp] at t0 A1
  obtain ⟨w2, S2, t2, kk2⟩ := t0.store (top' := top) (lv' := z4) (pg' := z128) (R' := none) (m := 0) (c := 0) (by simp [z4]) (by simp [z128])
  have i0 : TI w top w2 z4 z128 none 0 [] := ⟨t2, World.ownsRow_nil _ _ _ _, z1.keep kk2 (by omega), k1.trans (kk2.toBelow _ (by omega) (fun _ e => by omega)), by have := kk2.size; omega⟩
  have S2' := Lib.hid S2
  have c2 : w2.cell? ⟨p, 3, none⟩ = some (.bool false) := by rw [Below.cell i0.b (p := ⟨p, 3, none⟩) hplt]; exact d3
  have f2 := i0.b
  clear S2 z0 k0 t0 k1 z1 hs1 t2 kk2 f2
  have hN := h.ok.n_le
  by_cases h0 : top = 0
  · subst h0
    have HX : readT D N 0 = some (z4, z128, []) := if_pos rfl
    have HX' := Lib.hid HX
    obtain ⟨wB, SB, tB, bB, oB⟩ := i0.good
    have SB' := Lib.hid SB
    have LB := Lib.hid i0.t.load
    clear SB HX h
    go_enter Tryz.func23, Tryz.ntmps23
    go_wp2_with (first
      | ((with_reducible refine at_ (op := .alloc 47) (d := some 4) ?_); refine wpList_val rfl _ (ex_alloc 47 rfl _ A0.out) ?_)
      | ((with_reducible refine at_ (op := .alloc 47) (d := some 6) ?_); refine wpList_val rfl _ (ex_alloc 47 rfl _ A1.out) ?_)
      | ((with_reducible refine at_ (op := .build 47 #[(0, .tmp 11)]) ?_); refine wpList_val rfl _ (ex_build1 47 (.tmp 11) rfl _ _ rfl (buildTr _ _)) ?_)
      | ((with_reducible refine here (op := .store 47 (.tmp 6) (.tmp 12)) ?_); refine wpList_store_run rfl 47 _ _ rfl _ _ rfl rfl S2'.out ?_)
      | ((with_reducible refine here (op := .load 47 (.tmp 6)) ?_); refine wpList_load_run rfl 47 _ rfl _ _ rfl LB.out ?_)
      | ((with_reducible refine here (op := .store 47 (.tmp 4) (.tmp 20)) ?_); refine wpList_store_run rfl 47 _ _ rfl _ _ rfl rfl SB'.out ?_))
    refine bodyPost_ret (v := .tuple #[tv 0 z4 z128 nilS, .int .i64 0]) ?_ rfl ⟨bB, .inl ⟨z4, z128, [], none, 0, HX'.out, rfl, oB, by simp [z4], by simp [z128]⟩⟩
    exact results_row_tmp rfl _ _ w.heap.size 47 _ (0, 0) _ _ rfl rfl tB.head Tryz.underlying47 rfl (by rw [Tryz.sizeTr]; simp [tcells_len, z4, z128])
  · have hx0 : (top == 0) = false := by simpa using h0
    have HXX : readT D N top = (addS N [] top).bind fun l => goLf N (nodeR D) (nodeR D top.toNat) 0 (z4, z128, l) := if_neg h0
    generalize readT D N top = X at *
    have HXX' := Lib.hid HXX
    clear HXX
    go_enter Tryz.func23, Tryz.ntmps23
    go_wp2_with (first
      | ((with_reducible refine at_ (op := .alloc 47) (d := some 4) ?_); refine wpList_val rfl _ (ex_alloc 47 rfl _ A0.out) ?_)
      | ((with_reducible refine at_ (op := .alloc 47) (d := some 6) ?_); refine wpList_val rfl _ (ex_alloc 47 rfl _ A1.out) ?_)
      | ((with_reducible refine at_ (op := .build 47 #[(0, .tmp 11)]) ?_); refine wpList_val rfl _ (ex_build1 47 (.tmp 11) rfl _ _ rfl (buildTr _ _)) ?_)
      | ((with_reducible refine here (op := .store 47 (.tmp 6) (.tmp 12)) ?_); refine wpList_store_run rfl 47 _ _ rfl _ _ rfl rfl S2'.out ?_))
    clear S2' A0 A1 d3
    refine (tradd_at (h.same (keeps_below i0.b)) i0.t i0.o i0.s (by simp) (by omega) top).mono ?_
    rintro e w3 (⟨l1, R1, c1, ha1, rfl, t3, o3, k3⟩ | ⟨ha1, rfl, rfl⟩)
    · have i1 := i0.add t3 o3 k3
      obtain ⟨g1, g2, rfl⟩ := addS_some ha1
      obtain ⟨tn, rfl⟩ := Int.eq_ofNat_of_zero_le (show 0 ≤ top by omega)
      have hX' := HXX'.out
      clear HXX'
      rw [ha1, Option.bind_some, Int.toNat_natCast] at hX'
      rw [Int.toNat_natCast] at i1
      have hl1 : ([] ++ [tn]).length ≤ 1 := by simp
      generalize ([] ++ [tn] : List Nat) = l1 at *
      have hat : AtLf N (nodeR D) (nodeR D tn) 0 z4 z128 l1 X := AtLf.start hX'
      clear hX' ha1 t3 o3 k3 i0 hx0 h0 c2
      go_wp2_with fail
      refine (trnodeR_at (h.same (keeps_below i1.b)) hd (by omega) tn (by omega)).mono ?_
      rintro e w4 ⟨rfl, b4⟩
      have i2 := i1.node b4
      have hyl := nodeR_len D tn
      generalize nodeR D tn = ys at *
      clear b4 i1
      go_wp2_with fail
      try go_frame
      go_loopw [29, 7, 8, 9, 10] (fun i _ _ _ _ wr => ∃ (k : Nat) (lv pg : List Int) (R : Option Addr) (c : Nat) (l : List Nat), k ≤ 32 ∧ i = .int .i64 k ∧ TI w tn wr lv pg R c l ∧ l.length ≤ 1 + 33 * k ∧ AtLf N (nodeR D) ys k lv pg l X) (fun i _ _ _ _ _ => 32 - (Go.RowKit.intOf i).toNat)
      case atStart => exact ⟨0, z4, z128, R1, c1, l1, by omega, rfl, i2, by omega, hat⟩
      case round =>
        clear i2 hl1 hat
        obtain ⟨k, lv, pg, R, c, l, hk, rfl, ti, hl, hat⟩ := hrel
        by_cases hlt : k < 32
        · have hky : k < ys.length := by omega
          have IX := fun w => Lib.hid (idxN w hyl hlt)
          have F0 := Lib.hid (fun h0 => hat.skip hky h0)
          have F1 := Lib.hid (fun h0 h4 => hat.far hky h0 h4)
          have F2 := Lib.hid (fun h0 h4 ha => hat.none hky h0 h4 ha)
          have F3 := Lib.hid (fun l' h0 h4 ha => AtLf.into (l' := l') hat hky h0 h4 ha)
          clear hat
          generalize ys.getD k 0 = x at *
          by_cases hx : x = 0
          · subst hx
            have hat1 := F0.out rfl
            clear F0 F1 F2 F3
            go_wp2_with ((with_reducible refine at_ (op := .index 146 (.tmp 28) (.tmp 29)) ?_); refine wpList_val rfl _ (ex_index 146 (.tmp 28) (.tmp 29) rfl _ _ _ rfl rfl (IX _).out) ?_)
            go_roundw
            case rel => exact ⟨k + 1, lv, pg, R, c, l, by omega, by go_num, ti, by omega, hat1⟩
            case measure => simp [Go.RowKit.intOf]; omega
          · have hx0 : (x == 0) = false := by simpa using hx
            by_cases h4 : 4 ≤ k
            · have HX := Lib.hid (F1.out hx h4)
              clear F0 F1 F2 F3
              obtain ⟨wB, SB, tB, bB⟩ := ti.bad
              have SB' := Lib.hid SB
              clear SB
              go_wp2_with (first
                | ((with_reducible refine at_ (op := .index 146 (.tmp 28) (.tmp 29)) ?_); refine wpList_val rfl _ (ex_index 146 (.tmp 28) (.tmp 29) rfl _ _ _ rfl rfl (IX _).out) ?_)
                | ((with_reducible refine at_ (op := .build 47 #[]) ?_); refine wpList_val rfl _ (ex_build0 47 rfl _ (buildTr0 _)) ?_)
                | ((with_reducible refine here (op := .store 47 (.tmp 4) (.tmp 43)) ?_); refine wpList_store_run rfl 47 _ _ rfl _ _ rfl rfl SB'.out ?_))
              refine bodyPost_ret (v := .tuple #[tv 0 z4 z128 nilS, .int .i64 60]) ?_ rfl ⟨bB, .inr ⟨HX.out, rfl⟩⟩
              exact results_row_tmp rfl _ _ w.heap.size 47 _ (0, 0) _ _ rfl rfl tB.head Tryz.underlying47 rfl (by rw [Tryz.sizeTr]; simp [tcells_len, z4, z128])
            · have h4' : decide ((k : Int) ≥ 4) = false := by simp; omega
              go_wp2_with ((with_reducible refine at_ (op := .index 146 (.tmp 28) (.tmp 29)) ?_); refine wpList_val rfl _ (ex_index 146 (.tmp 28) (.tmp 29) rfl _ _ _ rfl rfl (IX _).out) ?_)
              refine (tradd_at (h.same (keeps_below ti.b)) ti.t ti.o ti.s (by omega) (by omega) x).mono ?_
              rintro e w5 (⟨l', R', c', ha, rfl, t5, o5, k5⟩ | ⟨ha, rfl, rfl⟩)
              · have ti5 := ti.add t5 o5 k5
                obtain ⟨q1, q2, hl'⟩ := addS_some ha
                obtain ⟨xn, rfl⟩ := Int.eq_ofNat_of_zero_le (show 0 ≤ x by omega)
                obtain ⟨Y, hpg, hbh⟩ := F3.out l' hx h4 ha
                have hl5 : l'.length = l.length + 1 := by rw [hl']; simp
                have cl := ti5.t.leaf (k := k) (by omega)
                have fz := ti5.t.free (1 + k)
                have ti6 := ti5.set (1 + k) _ (ti5.t.setLeaf (k := k) (by omega) xn)
                generalize lv.getD k 0 = u0 at cl
                have h4l : k < 4 := by omega
                clear F0 F1 F2 F3 ti t5 o5 k5 ti5 ha hl' hx hx0 h4 h4'
                go_wp2_with fail
                refine (trnodeR_at (h.same (keeps_below ti6.b)) hd (by omega) xn (by omega)).mono ?_
                rintro e w7 ⟨rfl, b7⟩
                have ti7 := ti6.node b7
                rw [Int.toNat_natCast] at hpg
                have hzl := nodeR_len D xn
                generalize nodeR D xn = zs at *
                generalize lv.set k (xn : Int) = lv2 at *
                clear b7 ti6 cl fz IX
                go_wp2_with fail
                try go_frame
                go_loopw [51, 9, 10] (fun j _ _ wr => ∃ (m : Nat) (pg : List Int) (R : Option Addr) (c : Nat) (l : List Nat), m ≤ 32 ∧ j = .int .i64 m ∧ TI w tn wr lv2 pg R c l ∧ l.length ≤ 2 + 33 * k + m ∧ AtPg N k zs m pg l Y) (fun j _ _ _ => 32 - (Go.RowKit.intOf j).toNat)
                case atStart => exact ⟨0, pg, R', c', l', by omega, rfl, ti7, by omega, hpg⟩
                case round =>
                  clear ti7 hpg hl5
                  obtain ⟨m, pg, R, c, l, hm, rfl, ti, hl, hpg⟩ := hrel
                  by_cases hlt2 : m < 32
                  · have hmz : m < zs.length := by omega
                    have IX := fun w => Lib.hid (idxN w hzl hlt2)
                    have F0 := Lib.hid (fun h0 => hpg.skip hmz h0)
                    have F2 := Lib.hid (fun h0 ha => hpg.none hmz h0 ha)
                    have F3 := Lib.hid (fun l' h0 ha => AtPg.some (l' := l') hpg hmz h0 ha)
                    clear hpg
                    generalize zs.getD m 0 = x at *
                    by_cases hx : x = 0
                    · subst hx
                      have hat1 := F0.out rfl
                      clear F0 F2 F3
                      go_wp2_with ((with_reducible refine at_ (op := .index 146 (.tmp 50) (.tmp 51)) ?_); refine wpList_val rfl _ (ex_index 146 (.tmp 50) (.tmp 51) rfl _ _ _ rfl rfl (IX _).out) ?_)
                      go_roundw
                      case rel => exact ⟨m + 1, pg, R, c, l, by omega, by go_num, ti, by omega, hat1⟩
                      case measure => simp [Go.RowKit.intOf]; omega
                    · have hx0 : (x == 0) = false := by simpa using hx
                      go_wp2_with ((with_reducible refine at_ (op := .index 146 (.tmp 50) (.tmp 51)) ?_); refine wpList_val rfl _ (ex_index 146 (.tmp 50) (.tmp 51) rfl _ _ _ rfl rfl (IX _).out) ?_)
                      refine (tradd_at (h.same (keeps_below ti.b)) ti.t ti.o ti.s (by omega) (by omega) x).mono ?_
                      rintro e w8 (⟨l', R', c', ha, rfl, t5, o5, k5⟩ | ⟨ha, rfl, rfl⟩)
                      · have ti5 := ti.add t5 o5 k5
                        obtain ⟨q3, q4, hl'⟩ := addS_some ha
                        have hat1 := F3.out l' hx ha
                        have hl5 : l'.length = l.length + 1 := by rw [hl']; simp
                        have cl := ti5.t.page (k := k * 32 + m) (by omega)
                        have fz := ti5.t.free (5 + (k * 32 + m))
                        have ti6 := ti5.set (5 + (k * 32 + m)) _ (ti5.t.setPage (k := k * 32 + m) (by omega) x)
                        generalize pg.getD (k * 32 + m) 0 = u0 at cl
                        generalize pg.set (k * 32 + m) x = pg2 at *
                        clear F0 F2 F3 ti t5 o5 k5 ti5 ha hl' hx hx0
                        go_wp2_with fail
                        go_roundw
                        case rel => exact ⟨m + 1, pg2, R', c', l', by omega, by go_num, ti6, by omega, hat1⟩
                        case measure => simp [Go.RowKit.intOf]; omega
                      · have HX := Lib.hid (hbh.none (F2.out hx ha))
                        clear F0 F2 F3 hbh
                        obtain ⟨wB, SB, tB, bB⟩ := ti.bad
                        have SB' := Lib.hid SB
                        clear SB
                        go_wp2_with (first
                          | ((with_reducible refine at_ (op := .build 47 #[]) ?_); refine wpList_val rfl _ (ex_build0 47 rfl _ (buildTr0 _)) ?_)
                          | ((with_reducible refine here (op := .store 47 (.tmp 4) (.tmp 61)) ?_); refine wpList_store_run rfl 47 _ _ rfl _ _ rfl rfl SB'.out ?_))
                        refine bodyPost_ret (v := .tuple #[tv 0 z4 z128 nilS, .int .i64 60]) ?_ rfl ⟨bB, .inr ⟨HX.out, rfl⟩⟩
                        exact results_row_tmp rfl _ _ w.heap.size 47 _ (0, 0) _ _ rfl rfl tB.head Tryz.underlying47 rfl (by rw [Tryz.sizeTr]; simp [tcells_len, z4, z128])
                  · obtain rfl : m = 32 := by omega
                    have hp2 : AtPg N k zs zs.length pg l Y := by rw [hzl]; exact hpg
                    have hat1 := hbh.some hp2.end
                    clear hpg hp2 hbh
                    go_wp2_with fail
                    go_roundw
                    case rel => exact ⟨k + 1, lv2, pg, R, c, l, by omega, by go_num, ti, by omega, hat1⟩
                    case measure => simp [Go.RowKit.intOf]; omega
              · have HX := Lib.hid (F2.out hx h4 ha)
                clear F0 F1 F2 F3
                obtain ⟨wB, SB, tB, bB⟩ := ti.bad
                have SB' := Lib.hid SB
                clear SB
                go_wp2_with (first
                  | ((with_reducible refine at_ (op := .build 47 #[]) ?_); refine wpList_val rfl _ (ex_build0 47 rfl _ (buildTr0 _)) ?_)
                  | ((with_reducible refine here (op := .store 47 (.tmp 4) (.tmp 43)) ?_); refine wpList_store_run rfl 47 _ _ rfl _ _ rfl rfl SB'.out ?_))
                refine bodyPost_ret (v := .tuple #[tv 0 z4 z128 nilS, .int .i64 60]) ?_ rfl ⟨bB, .inr ⟨HX.out, rfl⟩⟩
                exact results_row_tmp rfl _ _ w.heap.size 47 _ (0, 0) _ _ rfl rfl tB.head Tryz.underlying47 rfl (by rw [Tryz.sizeTr]; simp [tcells_len, z4, z128])
        · obtain rfl : k = 32 := by omega
          have hat2 : AtLf N (nodeR D) ys ys.length lv pg l X := by rw [hyl]; exact hat
          have HX := Lib.hid hat2.end
          clear hat hat2
          obtain ⟨wB, SB, tB, bB, oB⟩ := ti.good
          have SB' := Lib.hid SB
          have LB := Lib.hid ti.t.load
          have hlv := ti.t.lvl
          have hpg := ti.t.pgl
          clear SB
          go_wp2_with (first
            | ((with_reducible refine here (op := .load 47 (.tmp 6)) ?_); refine wpList_load_run rfl 47 _ rfl _ _ rfl LB.out ?_)
            | ((with_reducible refine here (op := .store 47 (.tmp 4) (.tmp 71)) ?_); refine wpList_store_run rfl 47 _ _ rfl _ _ rfl rfl SB'.out ?_))
          refine bodyPost_ret (v := .tuple #[tv tn lv pg (.slice R l.length c), .int .i64 0]) ?_ rfl ⟨bB, .inl ⟨lv, pg, l, R, c, HX.out, rfl, oB, hlv, hpg⟩⟩
          exact results_row_tmp rfl _ _ w.heap.size 47 _ (0, 0) _ _ rfl rfl tB.head Tryz.underlying47 rfl (by rw [Tryz.sizeTr]; simp [tcells_len, hlv, hpg])
    · have HX := Lib.hid (show X = none from HXX'.out.trans (by rw [ha1, Option.bind_none]))
      obtain ⟨wB, SB, tB, bB⟩ := i0.bad
      have SB' := Lib.hid SB
      clear SB
      go_wp2_with (first
        | ((with_reducible refine at_ (op := .build 47 #[]) ?_); refine wpList_val rfl _ (ex_build0 47 rfl _ (buildTr0 _)) ?_)
        | ((with_reducible refine here (op := .store 47 (.tmp 4) (.tmp 25)) ?_); refine wpList_store_run rfl 47 _ _ rfl _ _ rfl rfl SB'.out ?_))
      refine bodyPost_ret (v := .tuple #[tv 0 z4 z128 nilS, .int .i64 60]) ?_ rfl ⟨bB, .inr ⟨HX.out, rfl⟩⟩
      exact results_row_tmp rfl _ _ w.heap.size 47 _ (0, 0) _ _ rfl rfl tB.head Tryz.underlying47 rfl (by rw [Tryz.sizeTr]; simp [tcells_len, z4, z128])
end Go.Proofs.YtacghpabjmnfiaaGreatDoor
namespace Go.Proofs.YtacghpabjmnfiaaGreatDoor
open Go.RowKit

/-- The memory by its first k pages. -/
def memTo (D : DSt) (pg : List Int) : Nat → List UInt8
  | 0 => List.replicate 8192 0
  | k + 1 => if 0 < pg.getD k 0 then splice (memTo D pg k) (k * 64) (D.readAt (pg.getD k 0)) else memTo D pg k
theorem readAt_le {D : DSt} {n : Nat} (h : D.Ok n) (i : Int) : (D.readAt i).length ≤ 64 := by
  have hn := h.n_eq
  unfold DSt.readAt
  split
  · simp
  · split
    · rename_i hi
      rw [now_len h (by omega)]
      exact Nat.le_refl _
    · simp
theorem memTo_len {D : DSt} {n : Nat} (h : D.Ok n) (pg : List Int) : ∀ k, k ≤ 128 → (memTo D pg k).length = 8192
  | 0, _ => by
    unfold memTo
    exact List.length_replicate
  | k + 1, hk => by
    have ih := memTo_len h pg k (by omega)
    have hl := readAt_le h (pg.getD k 0)
    unfold memTo
    split
    · simp only [splice, List.length_append, List.length_take, List.length_drop, ih]
      omega
    · exact ih
theorem memTo_yes {D : DSt} {pg : List Int} {k : Nat} (h : 0 < pg.getD k 0) : memTo D pg (k + 1) = splice (memTo D pg k) (k * 64) (D.readAt (pg.getD k 0)) := if_pos h
theorem memTo_no {D : DSt} {pg : List Int} {k : Nat} (h : ¬ 0 < pg.getD k 0) : memTo D pg (k + 1) = memTo D pg k := if_neg h

/-- What Load gives. -/
def LoadOut (w : World) (D : DSt) (X : Option (List Int × List Int × List Nat)) (e : Ending) (w' : World) : Prop :=
  Below w.heap.size w w' ∧ ((∃ lv pg l g, X = some (lv, pg, l) ∧ e = .returned (.tuple #[.slice (some ⟨g, 0, none⟩) 8192 8192, .int .i64 0]) ∧ Row8 w' g 5 (memTo D pg 128)) ∨
  (X = none ∧ e = .returned (.tuple #[.slice none 0 0, .int .i64 60])))

theorem make8192 (w : World) : (Instr.makeSlice 30 (.int .i64 8192) (.int .i64 8192)).run Tryz.prog w = .ok (.slice (some ⟨w.heap.size, 0, none⟩) 8192 8192) (w.alloc (.cells (madeCells #[.int .u8 0] 8192) 5)) := by
  have := make8 8192 (by omega) w
  simpa using this
theorem Tryz.size128 : (Tryz.prog.info? 45).map (·.size) = some 128 := by kernel_rfl
theorem TrAt.pages {w : World} {b : Nat} {top : Int} {lv pg : List Int} {v : Value} (h : TrAt w b top lv pg v) : (Instr.loadAt 45 (.pointer (some ⟨b, 5, none⟩))).run Tryz.prog w = .ok (.agg (pg.map I6).toArray) w :=
  run_loadAt_mid w b 5 45 (pg.map I6) _ (fun j u hu => by
    obtain ⟨hj, rfl⟩ := List.getElem?_eq_some_iff.1 hu
    rw [List.length_map, h.pgl] at hj
    rw [h.page hj, List.getElem_map]
    have := h.pgl
    simp [List.getD, show j < pg.length by omega]) Tryz.underlying45 rfl (by rw [Tryz.size128, List.length_map, h.pgl])
theorem idx128 (w : World) {zs : List Int} (hl : zs.length = 128) {k : Nat} (hk : k < 128) : (Instr.index 45 (.agg (zs.map I6).toArray) (.int .i64 (k : Int))).run Tryz.prog w = .ok (.int .i64 (zs.getD k 0)) w := by
  have hp : (part 3 (zs.map I6).toArray (k * 1)).run Tryz.prog w = .ok (.int .i64 (zs.getD k 0)) w := by
    simp [part, isAgg, run_underlying Tryz.underlying3, List.getD, List.getElem?_eq_getElem (show k < zs.length by omega)]
  unfold Instr.index
  simp only [asIntOf, Sem.run_bind, Sem.run_pure, Result.andThen_ok, run_underlying Tryz.underlying45]
  rw [if_pos ⟨by omega, by omega⟩]
  simp only [Sem.run_bind, sizeI, Result.andThen_ok]
  rw [Int.toNat_natCast]
  exact hp
end Go.Proofs.YtacghpabjmnfiaaGreatDoor
namespace Go.Proofs.YtacghpabjmnfiaaGreatDoor
open Go.RowKit

theorem addS_mem {N : Nat} {l l' : List Nat} {x : Int} (h : addS N l x = some l') : (∀ k ∈ l, k ∈ l') ∧ x.toNat ∈ l' ∧ 2 ≤ x ∧ x < (N : Int) := by
  obtain ⟨h1, h2, rfl⟩ := addS_some h
  exact ⟨fun k hk => List.mem_append_left _ hk, by simp, h1, h2⟩
/-- An entry: nothing, or a sector that is reached. -/
def EntIn (N : Nat) (l : List Nat) (x : Int) : Prop := x = 0 ∨ (2 ≤ x ∧ x < (N : Int) ∧ x.toNat ∈ l)
theorem EntIn.mono {N : Nat} {l l' : List Nat} {x : Int} (h : EntIn N l x) (hs : ∀ k ∈ l, k ∈ l') : EntIn N l' x := h.imp id fun ⟨a, b, c⟩ => ⟨a, b, hs _ c⟩

theorem goPg_all (N i : Nat) : ∀ (xs : List Int) (k : Nat) (s q : List Int × List Nat), goPg N i xs k s = some q → (∀ x ∈ s.1, EntIn N s.2 x) → (∀ k ∈ s.2, k ∈ q.2) ∧ (∀ x ∈ q.1, EntIn N q.2 x) ∧ q.1.length = s.1.length
  | [], _, s, q, h, he => by
    injection h with h
    subst h
    exact ⟨fun _ h => h, he, rfl⟩
  | x :: xs, k, s, q, h, he => by
    unfold goPg at h
    split at h
    · exact goPg_all N i xs _ s q h he
    · rw [Option.bind_eq_some_iff] at h
      obtain ⟨l, ha, h⟩ := h
      obtain ⟨m1, m2, m3, m4⟩ := addS_mem ha
      obtain ⟨a, b, c⟩ := goPg_all N i xs _ _ q h (fun y hy => by
        rcases List.mem_or_eq_of_mem_set hy with h | rfl
        · exact (he y h).mono m1
        · exact .inr ⟨m3, m4, m2⟩)
      exact ⟨fun k hk => a k (m1 k hk), b, by rw [c]; simp⟩

theorem goLf_all (N : Nat) (nd : Nat → List Int) : ∀ (xs : List Int) (i : Nat) (s q : List Int × List Int × List Nat), goLf N nd xs i s = some q → (∀ x ∈ s.1, EntIn N s.2.2 x) → (∀ x ∈ s.2.1, EntIn N s.2.2 x) →
    (∀ k ∈ s.2.2, k ∈ q.2.2) ∧ (∀ x ∈ q.1, EntIn N q.2.2 x) ∧ (∀ x ∈ q.2.1, EntIn N q.2.2 x) ∧ ∀ nd' : Nat → List Int, (∀ k ∈ q.2.2, nd' k = nd k) → goLf N nd' xs i s = some q
  | [], _, s, q, h, h1, h2 => by
    injection h with h
    subst h
    exact ⟨fun _ h => h, h1, h2, fun _ _ => rfl⟩
  | x :: xs, i, s, q, h, h1, h2 => by
    unfold goLf at h
    split at h
    · rename_i hx
      obtain ⟨a, b, c, d⟩ := goLf_all N nd xs _ s q h h1 h2
      refine ⟨a, b, c, fun nd' e => ?_⟩
      unfold goLf
      rw [if_pos hx]
      exact d nd' e
    · rename_i hx
      split at h
      · cases h
      · rename_i h4
        rw [Option.bind_eq_some_iff] at h
        obtain ⟨l, ha, h⟩ := h
        rw [Option.bind_eq_some_iff] at h
        obtain ⟨r, hr, h⟩ := h
        obtain ⟨m1, m2, m3, m4⟩ := addS_mem ha
        obtain ⟨p1, p2, p3⟩ := goPg_all N i _ _ _ r hr (fun y hy => (h2 y hy).mono m1)
        obtain ⟨a, b, c, d⟩ := goLf_all N nd xs _ _ q h (fun y hy => by
          rcases List.mem_or_eq_of_mem_set hy with h | rfl
          · exact ((h1 y h).mono m1).mono p1
          · exact .inr ⟨m3, m4, p1 _ m2⟩) p2
        refine ⟨fun k hk => a k (p1 k (m1 k hk)), b, c, fun nd' e => ?_⟩
        unfold goLf
        rw [if_neg hx, if_neg h4, ha, Option.bind_some, e _ (a _ (p1 _ m2)), hr, Option.bind_some]
        exact d nd' e

theorem zeros_in {N n : Nat} {l : List Nat} : ∀ x ∈ (List.replicate n 0 : List Int), EntIn N l x := fun _ hx => .inl (List.mem_replicate.1 hx).2

/-- What a tree reaches. -/
theorem readT_in {D : DSt} {N : Nat} {top : Int} {lv pg : List Int} {l : List Nat} (h : readT D N top = some (lv, pg, l)) :
    (∀ x ∈ lv, EntIn N l x) ∧ (∀ x ∈ pg, EntIn N l x) ∧ (top = 0 ∨ top.toNat ∈ l) := by
  unfold readT at h
  split at h
  · rename_i h0
    injection h with h
    injection h with e1 h
    injection h with e2 e3
    subst e1 e2 e3
    exact ⟨zeros_in, zeros_in, .inl h0⟩
  · rw [Option.bind_eq_some_iff] at h
    obtain ⟨l1, ha, h⟩ := h
    obtain ⟨m1, m2, m3, m4⟩ := addS_mem ha
    obtain ⟨a, b, c, d⟩ := goLf_all N _ _ _ _ _ h zeros_in zeros_in
    exact ⟨b, c, .inr (a _ m2)⟩
theorem readT_same {D D' : DSt} {N : Nat} {top : Int} {lv pg : List Int} {l : List Nat} (h : readT D N top = some (lv, pg, l)) (e : ∀ k ∈ l, D'.now k = D.now k) : readT D' N top = some (lv, pg, l) := by
  unfold readT at h ⊢
  split at h
  · rename_i h0
    rw [if_pos h0]
    exact h
  · rename_i h0
    rw [if_neg h0]
    rw [Option.bind_eq_some_iff] at h
    obtain ⟨l1, ha, h⟩ := h
    obtain ⟨m1, m2, m3, m4⟩ := addS_mem ha
    obtain ⟨a, b, c, d⟩ := goLf_all N _ _ _ _ _ h zeros_in zeros_in
    rw [ha, Option.bind_some]
    have e1 : ∀ k ∈ l, nodeR D' k = nodeR D k := fun k hk => by unfold nodeR; rw [e k hk]
    rw [e1 _ (a _ m2)]
    exact d _ e1
theorem memTo_same {D D' : DSt} {n : Nat} (hD : D.Ok n) (hD' : D'.Ok n) (h0 : D.down = false) (h0' : D'.down = false) {pg : List Int} {l : List Nat} (hp : ∀ x ∈ pg, EntIn n l x) (e : ∀ k ∈ l, D'.now k = D.now k) : ∀ k, k ≤ pg.length → memTo D' pg k = memTo D pg k
  | 0, _ => rfl
  | k + 1, hk => by
    have ih := memTo_same hD hD' h0 h0' hp e k (by omega)
    have ex : pg.getD k 0 = pg[k] := by simp [List.getD, show k < pg.length by omega]
    have hx := hp _ (List.getElem_mem (show k < pg.length by omega))
    rw [← ex] at hx
    unfold memTo
    rw [ih]
    split
    · rename_i hpos
      rcases hx with hz | ⟨x1, x2, x3⟩
      · omega
      · have n1 := hD.n_eq
        have n2 := hD'.n_eq
        have r1 : D.readAt (pg.getD k 0) = D.now (pg.getD k 0).toNat := by
          unfold DSt.readAt
          rw [if_neg (by rw [h0]; exact Bool.false_ne_true), if_pos ⟨by omega, by omega⟩]
        have r2 : D'.readAt (pg.getD k 0) = D'.now (pg.getD k 0).toNat := by
          unfold DSt.readAt
          rw [if_neg (by rw [h0']; exact Bool.false_ne_true), if_pos ⟨by omega, by omega⟩]
        have e1 : D'.readAt (pg.getD k 0) = D.readAt (pg.getD k 0) := by rw [r1, r2]; exact e _ x3
        rw [e1]
    · rfl
end Go.Proofs.YtacghpabjmnfiaaGreatDoor
