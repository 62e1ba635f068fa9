/-
  TrLoad
-/
import Derived.Test.YtacghpabjmnfiaaGreatDoorGTm
namespace Go.Proofs.YtacghpabjmnfiaaGreatDoor
open Go.RowKit

set_option maxRecDepth 100000 in
set_option maxHeartbeats 1500000 in
theorem tload_at {w : World} {F : Nat → Prop} {p N : Nat} {sv wv : Value} {svs : List Value} {ws : List (Nat × Value)} {D : DSt} (h : RDat w F p N sv wv svs ws D) (hd : D.down = false) (hQ : D.Q.length ≤ 1954687338212) (top : Int) :
    Calls Tryz.prog 35 #[.pointer (some ⟨p, 0, none⟩), .int .i64 top] w (LoadOut w D (readT D N top)) := by
  have hr := tread_at h hd hQ top
  generalize readT D N top = X at *
  go_enter Tryz.func35, Tryz.ntmps35
  go_wp2_with fail
  refine hr.mono ?_
  rintro e w1 ⟨b1, (⟨lv, pg, l, R, c, rfl, rfl, o1, hlv, hpg⟩ | ⟨rfl, rfl⟩)⟩
  · clear hr
    have t1 := TrAt.box w1 (top := 0) (lv := z4) (pg := z128) (v := nilS) (by simp [z4]) (by simp [z128])
    have A1 := Lib.hid (allocTr w1)
    obtain ⟨w2, S2, t2, k2⟩ := t1.store (top' := top) (lv' := lv) (pg' := pg) (R' := R) (m := l.length) (c := c) hlv hpg
    have b2 : Below w.heap.size w w2 := (b1.alloc b1.size _).trans (k2.toBelow _ (by have := b1.size; simp; omega) (fun _ e => by have := b1.size; omega))
    have S2' := Lib.hid S2
    have hgg := b2.size
    have M2 := Lib.hid (make8192 w2)
    have r3 := Row8.made w2 8192 5
    have k3 : Keeps (fun _ => False) w2 (w2.alloc (.cells (madeCells #[.int .u8 0] 8192) 5)) := Keeps.alloc _ _ _
    have t3 := t2.keep k3 (fun h => h)
    have LP3 := Lib.hid t3.pages
    have b3 := b2.trans (k3.toBelow _ b2.size (fun _ h => h.elim))
    have s3 : (w2.alloc (.cells (madeCells #[.int .u8 0] 8192) 5)).heap.size = w2.heap.size + 1 := by simp
    have R3 : Row8 (w2.alloc (.cells (madeCells #[.int .u8 0] 8192) 5)) w2.heap.size 5 (memTo D pg 0) := r3
    have RH := Lib.hid R3
    clear S2 t1 r3 R3 k2 t2 k3 t3 o1 b1 b2
    go_wp2_with (first
      | ((with_reducible refine at_ (op := .alloc 47) (d := some 6) ?_); refine wpList_val rfl _ (ex_alloc 47 rfl _ A1.out) ?_)
      | ((with_reducible refine here (op := .store 47 (.tmp 6) (.tmp 17)) ?_); refine wpList_store_run rfl 47 _ _ rfl _ _ rfl rfl S2'.out ?_)
      | ((with_reducible refine here (op := .makeSlice 30 (.const (.int .i64 8192)) (.const (.int .i64 8192))) ?_); refine wpList_make_run rfl 30 _ _ rfl _ _ _ rfl rfl M2.out ?_)
      | ((with_reducible refine here (op := .load 45 (.tmp 23)) ?_); refine wpList_load_run rfl 45 _ rfl _ _ rfl LP3.out ?_))
    have hg : w.heap.size ≤ w2.heap.size := hgg
    clear S2' M2 LP3 A1
    generalize w2.heap.size = g at *
    generalize w2.alloc (.cells (madeCells #[.int .u8 0] 8192) 5) = w3 at *
    try go_frame
    go_loopw [25, 9, 10, 11, 12] (fun i _ _ _ _ wr => ∃ (k : Nat), k ≤ 128 ∧ i = .int .i64 k ∧ Row8 wr g 5 (memTo D pg k) ∧ Keeps (· = g) w3 wr) (fun i _ _ _ _ _ => 128 - (Go.RowKit.intOf i).toNat)
    case atStart => exact ⟨0, by omega, rfl, RH.out, Keeps.refl _ _⟩
    case round =>
      clear RH
      obtain ⟨k, hk, rfl, hrow, kp⟩ := hrel
      by_cases hlt : k < 128
      · have IX := fun w => Lib.hid (idx128 w hpg hlt)
        have Y1 := fun h => Lib.hid (memTo_yes (D := D) (pg := pg) (k := k) h)
        have Y2 := fun h => Lib.hid (memTo_no (D := D) (pg := pg) (k := k) h)
        have hml := memTo_len h.ok pg k (by omega)
        generalize pg.getD k 0 = x at *
        generalize memTo D pg k = zs at *
        have HL := Lib.hid hml
        have HR := Lib.hid hrow
        clear hml hrow
        by_cases hx : 0 < x
        · have hx1 : decide (x > 0) = true := by simpa using hx
          have Y := Lib.hid (Y1 hx).out
          have hle := readAt_le h.ok x
          clear Y1 Y2
          go_wp2_with ((with_reducible refine at_ (op := .index 45 (.tmp 24) (.tmp 25)) ?_); refine wpList_val rfl _ (ex_index 45 (.tmp 24) (.tmp 25) rfl _ _ _ rfl rfl (IX _).out) ?_)
          refine (rread_any ⟨_, _, _, _, _, h.same (keeps_below (b3.trans (kp.toBelow _ b3.size (fun _ e => by omega))))⟩ x hQ).mono ?_
          rintro e w4 ⟨R1, n1, c1, rfl, hn1, br1, k4⟩
          generalize D.readAt x = ys at *
          subst hn1
          have r4 : Row8 w4 g 5 zs := HR.out.keepB (k4.block g (HR.out.lt) (fun h => h))
          obtain ⟨w5, hrun, hrow5, hg5⟩ := run_copy8 (P := Tryz.prog) w4 30 30 3 5 5 Tryz.underlying30 (by kernel_rfl) g (k * 64) (8192 - k * 64) (8192 - k * 64) (some ⟨g, k * 64, none⟩) zs ys R1 c1 _ (fun _ => rfl) r4 br1 (by omega) (by rw [HL.out]; omega)
          have k5 : Keeps (· = g) w3 w5 := (kp.trans (k4.ofFalse)).trans (Keeps.grown _ hg5 (fun b e => by cases e; rfl))
          have R5 := Lib.hid hrow5
          have h3 : (0 : Int) ≤ (k : Int) * 64 := by omega
          have h4 : (k : Int) * 64 ≤ 8192 := by omega
          have h5 : ¬ 8192 = k * 64 := by omega
          have htn : ((k : Int) * 64).toNat = k * 64 := by omega
          clear r4 hrow5 br1 k4 hg5 kp HR HL hx1 hx
          go_wp2
          go_roundw
          case rel => exact ⟨k + 1, by omega, by go_num, by rw [Y.out]; exact R5.out, k5⟩
          case measure => simp [Go.RowKit.intOf]; omega
        · have hx1 : decide (x > 0) = false := by simpa using hx
          have Y := Lib.hid (Y2 hx).out
          clear Y1 Y2
          go_wp2_with ((with_reducible refine at_ (op := .index 45 (.tmp 24) (.tmp 25)) ?_); refine wpList_val rfl _ (ex_index 45 (.tmp 24) (.tmp 25) rfl _ _ _ rfl rfl (IX _).out) ?_)
          go_roundw
          case rel => exact ⟨k + 1, by omega, by go_num, by rw [Y.out]; exact HR.out, kp⟩
          case measure => simp [Go.RowKit.intOf]; omega
      · obtain rfl : k = 128 := by omega
        have HR := Lib.hid hrow
        clear hrow
        go_wp2_with fail
        go_ret2
        exact ⟨b3.trans (kp.toBelow _ b3.size (fun _ e => by omega)), .inl ⟨lv, pg, l, g, rfl, rfl, HR.out⟩⟩
  · clear hr
    have A1 := Lib.hid (allocTr w1)
    have t1 := TrAt.box w1 (top := 0) (lv := z4) (pg := z128) (v := nilS) (by simp [z4]) (by simp [z128])
    obtain ⟨w2, S2, t2, k2⟩ := t1.store (top' := 0) (lv' := z4) (pg' := z128) (R' := none) (m := 0) (c := 0) (by simp [z4]) (by simp [z128])
    have S2' := Lib.hid S2
    have b2 : Below w.heap.size w w2 := (b1.alloc b1.size _).trans (k2.toBelow _ (by have := b1.size; simp; omega) (fun _ e => by have := b1.size; omega))
    clear S2 t1 t2 k2 b1
    go_wp2_with (first
      | ((with_reducible refine at_ (op := .alloc 47) (d := some 6) ?_); refine wpList_val rfl _ (ex_alloc 47 rfl _ A1.out) ?_)
      | ((with_reducible refine here (op := .store 47 (.tmp 6) (.tmp 17)) ?_); refine wpList_store_run rfl 47 _ _ rfl _ _ rfl rfl S2'.out ?_))
    go_ret2
    exact ⟨b2, .inr ⟨rfl, rfl⟩⟩
end Go.Proofs.YtacghpabjmnfiaaGreatDoor
