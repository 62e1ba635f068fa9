/-
  The contract of settle.
-/
import Derived.Test.YthbdhmjmboliiaaDkTorn
namespace Go.Proofs.Ythbdhmjmboliiaa
open Go.RowKit Go.Maps

/-- What the i-th write that waits makes of the lasting bytes. -/
def layOne (f : Fate) (i : Nat) (q : Nat × List UInt8) (L : List UInt8) : List UInt8 :=
  if ((i : Int) == f.torn) = true then splice L (q.1 * 64) (mixL q.2 (sec L q.1) (clamp f.cut 64) f.head) else if stayB f.stay i = true then splice L (q.1 * 64) q.2 else L
/-- .. the first k. -/
def layTo (f : Fate) (L : List UInt8) (Q : List (Nat × List UInt8)) : Nat → List UInt8
  | 0 => L
  | k + 1 => match Q[k]? with
    | some q => layOne f k q (layTo f L Q k)
    | none => layTo f L Q k
theorem layTo_succ (f : Fate) (L : List UInt8) (Q : List (Nat × List UInt8)) (k : Nat) (h : k < Q.length) : layTo f L Q (k + 1) = layOne f k Q[k] (layTo f L Q k) := by
  simp [layTo, h]
def DSt.settle (D : DSt) (f : Fate) : DSt := { D with L := layTo f D.L D.Q D.Q.length, Q := [] }
theorem layOne_len (f : Fate) (i : Nat) (q : Nat × List UInt8) (L : List UInt8) (h : q.2.length = 64) (hq : q.1 * 64 + 64 ≤ L.length) : (layOne f i q L).length = L.length := by
  unfold layOne
  split
  · exact length_splice _ _ _ (by rw [mixL_len, h]; exact hq)
  · split
    · exact length_splice _ _ _ (by rw [h]; exact hq)
    · rfl
theorem layTo_len (f : Fate) (L : List UInt8) (Q : List (Nat × List UInt8)) (hQ : ∀ q ∈ Q, q.1 * 64 + 64 ≤ L.length ∧ q.2.length = 64) (k : Nat) (hk : k ≤ Q.length) : (layTo f L Q k).length = L.length := by
  induction k with
  | zero => rfl
  | succ k ih =>
    have h := hQ _ (List.getElem_mem (show k < Q.length by omega))
    have ih := ih (by omega)
    rw [layTo_succ _ _ _ _ (by omega), layOne_len _ _ _ _ h.2 (by rw [ih]; exact h.1), ih]

theorem DkAt.withL {w w' : World} {p lb mb n : Nat} {iv : Value} {D : DSt} (h : DkAt w p lb mb n iv D) (k : Keeps (· = lb) w w') (L : List UInt8) (hl : L.length = D.L.length) (hb : w'.heap[lb]? = some (.cells (L.map B8).toArray 71 (0, 0))) :
    DkAt w' p lb mb n iv { D with L := L } := by
  have ap := h.apart
  obtain ⟨es, clock, hm⟩ := h.map.obj
  have lt : ∀ {b : Nat} {o : Obj}, w.heap[b]? = some o → b ≠ lb → w'.heap[b]? = w.heap[b]? := fun e hn => k.block _ (Array.getElem?_eq_some_iff.1 e).1 hn
  refine ⟨⟨hl.trans h.ok.len, h.ok.n_le, h.ok.q, h.ok.lo, h.ok.hi⟩, (lt h.head ap.1).trans h.head, hb, ?_, h.map.keep (lt hm (Ne.symm ap.2.2.1))⟩
  refine ⟨h.que.1, ?_⟩
  rcases h.que.2 with hn | ⟨g, cap, cur, rfl, hb, hgg, rest⟩
  · exact .inl hn
  · exact .inr ⟨g, cap, cur, rfl, hb, (lt hgg (ap.2.2.2 g rfl).2.1).trans hgg, rest⟩

/-- A round's variable: the i-th write, in a new block. -/
theorem var74 (w : World) (q : Nat × List UInt8) (hl : q.2.length = 64) :
    ((w.alloc (.cells zq 74)).setCells w.heap.size 0 (qcells q)).heap[w.heap.size]? = some (.cells (qcells q).toArray 74 (0, 0)) ∧ Keeps (fun _ => False) w ((w.alloc (.cells zq 74)).setCells w.heap.size 0 (qcells q)) ∧
    (Instr.storeAt 74 (.pointer (some ⟨w.heap.size, 0, none⟩)) (agq q)).run Try.prog (w.alloc (.cells zq 74)) = .ok () ((w.alloc (.cells zq 74)).setCells w.heap.size 0 (qcells q)) := by
  have e1 := heap_alloc_last w (.cells zq 74)
  obtain ⟨b1, b2⟩ := setCells_blockV (ys := qcells q) 0 e1 (by rw [zq_len, qcells_len hl]; omega)
  rw [splice_allV _ _ (by rw [zq_len, qcells_len hl])] at b1
  have k0 : Keeps (fun _ => False) w (w.alloc (.cells zq 74)) := Keeps.alloc _ _ _
  exact ⟨b1, ⟨b2.os, b2.tape, b2.output, Nat.le_trans k0.size b2.size, fun j hj hF => (b2.block j (by simp; omega) (by omega)).trans (k0.block j hj hF)⟩, store74 hl (there_blockV e1 0 65 (by rw [zq_len]; omega))⟩
theorem box33 (w : World) (f : Fate) : (Instr.box 33 (agf f)).run Try.prog w = .ok (.pointer (some ⟨w.heap.size, 0, none⟩)) (w.alloc (.cells (fcells f) 33)) := rfl

structure Fate.Ok (f : Fate) : Prop where
  s0 : 0 ≤ f.stay
  s1 : f.stay ≤ 18446744073709551615

theorem load33 {w : World} {b : Nat} {f : Fate} (h : w.heap[b]? = some (.cells (fcells f) 33 (0, 0))) : (Instr.loadAt 33 (.pointer (some ⟨b, 0, none⟩))).run Try.prog w = .ok (agf f) w :=
  run_loadAt_mid w b 0 33 (fcells f).toList _ (range_blockV h) Try.underlying33 rfl (by kernel_rfl)
theorem range_q {w : World} {b k : Nat} {xs : List UInt8} {t : TypeId} {fr : Nat × Nat} (h : w.heap[b]? = some (.cells (qcells (k, xs)).toArray t fr)) : w.rangeAt b 1 (xs.map B8) := by
  intro j v hv
  rw [cell_of_row w _ _ _ _ _ h]
  simp only [qcells, List.getElem?_toArray, Nat.add_comm 1 j, List.getElem?_cons_succ]
  exact hv
theorem sec_lenL {L : List UInt8} {i : Nat} (h : i * 64 + 64 ≤ L.length) : (sec L i).length = 64 := by
  unfold sec
  rw [List.length_take, List.length_drop]
  omega

set_option maxRecDepth 100000 in
set_option maxHeartbeats 4000000 in
theorem settle_at {w : World} {p lb mb n : Nat} {iv : Value} {D : DSt} (h : DkAt w p lb mb n iv D) (f : Fate) (hf : f.Ok) (hQ : D.Q.length ≤ 1954687338212) :
    Calls Try.prog 38 #[.pointer (some ⟨p, 0, none⟩), agf f] w fun e w' => e = .returned (.tuple #[]) ∧ DkAt w' p lb mb n (.slice none 0 0) (D.settle f) ∧ Keeps (fun k => k = p ∨ k = lb ∨ k = mb) w w' := by
  have h1 : DkAt (w.alloc (.cells (fcells f) 33)) p lb mb n iv D := h.same (Keeps.alloc _ _ _)
  have kw : Keeps (fun _ => False) w (w.alloc (.cells (fcells f) 33)) := Keeps.alloc _ _ _
  have hfb := heap_alloc_last w (.cells (fcells f) 33)
  have hplt : p < w.heap.size := (Array.getElem?_eq_some_iff.1 h.head).1
  have hllt : lb < w.heap.size := (Array.getElem?_eq_some_iff.1 h.rows).1
  have hqq : ∀ q ∈ D.Q, q.1 * 64 + 64 ≤ D.L.length ∧ q.2.length = 64 := fun q hq => by
    have := h.ok.q q hq
    rw [h.ok.len]
    exact ⟨by omega, this.2⟩
  have HQQ := Lib.hid hqq
  have hlen := fun k hk => layTo_len f D.L D.Q hqq k hk
  have HLEN := Lib.hid hlen
  have HF := Lib.hid hf
  have hn := h.ok.n_le
  clear hqq hlen h hf
  go_enter Try.func38, Try.ntmps38
  go_wp2_with (first
    | ((with_reducible refine here (op := .box 33 (.tmp 1)) ?_); refine wpList_box_run rfl 33 _ rfl _ _ rfl (box33 _ _) ?_)
    | (go_at_call 39; refine (many_at h1).mono ?_; rintro e w' ⟨rfl, rfl⟩))
  have HFB := Lib.hid hfb
  have hfs : w.heap.size < (w.alloc (.cells (fcells f) 33)).heap.size := by simp
  clear hfb
  generalize w.alloc (.cells (fcells f) 33) = w0 at *
  go_loopw [10] (fun i wr => ∃ k : Nat, k ≤ D.Q.length ∧ i = .int .i64 (k : Int) ∧ wr.heap[lb]? = some (.cells ((layTo f D.L D.Q k).map B8).toArray 71 (0, 0)) ∧ Keeps (· = lb) w0 wr) (fun i _ => D.Q.length - (intOf i).toNat)
  case atStart => exact ⟨0, by omega, rfl, h1.rows, Keeps.refl _ _⟩
  case round =>
    obtain ⟨k, hk, rfl, hrow, kp⟩ := hrel
    have hdk := h1.withL kp _ (HLEN.out k hk) hrow
    have hfk : wr.heap[w.heap.size]? = some (.cells (fcells f) 33 (0, 0)) := (kp.block _ hfs (by omega)).trans HFB.out
    have HROW := Lib.hid hrow
    have HFK := Lib.hid hfk
    have hll := HLEN.out k hk
    clear hrow hfk
    by_cases hlt : k < D.Q.length
    · have hq2 := HQQ.out _ (List.getElem_mem hlt)
      have hstep := layTo_succ f D.L D.Q k hlt
      have hit := item_at hdk k hlt
      have hq1 := (h1.ok.q _ (List.getElem_mem hlt)).1
      have hlq : (⟨layTo f D.L D.Q k, D.Q, D.left, D.down, D.acts⟩ : DSt).Q[k] = D.Q[k] := rfl
      rw [hlq] at hit
      clear hlq
      generalize D.Q[k] = q at *
      generalize layTo f D.L D.Q k = LK at *
      have HIT := Lib.hid hit
      have HSTEP := Lib.hid hstep
      have HQ2 := Lib.hid hq2.2
      have HQ1 := Lib.hid hq2.1
      clear hit hstep hq2
      go_wp2_with fail
      refine HIT.out.mono ?_
      rintro e w1 ⟨rfl, k1⟩
      clear HIT
      obtain ⟨vb, vk, vs⟩ := var74 w1 q HQ2.out
      have VS := Lib.hid vs
      have VB := Lib.hid vb
      clear vs vb
      have s1 := k1.size
      have s0 := kp.size
      have hv : Hid (w1.heap.size = w1.heap.size) := rfl
      clear hv
      generalize hW2 : (w1.alloc (.cells zq 74)).setCells w1.heap.size 0 (qcells q) = w2 at *
      have HW2 := Lib.hid hW2
      clear hW2
      have k2 : Keeps (fun _ => False) wr w2 := k1.trans vk
      have kp2 : Keeps (· = lb) w0 w2 := kp.trans k2.ofFalse
      have hdk2 : DkAt w2 p lb mb n iv { D with L := LK } := hdk.same k2
      have f2 : w2.heap[w.heap.size]? = some (.cells (fcells f) 33 (0, 0)) := (k2.block _ (by omega) (fun h => h)).trans HFK.out
      have F2 := Lib.hid f2
      have c0 : w2.cell? ⟨w.heap.size, 0, none⟩ = some (.int .u64 f.stay) := by rw [cell_of_row _ _ _ _ _ _ f2]; rfl
      have c1 : w2.cell? ⟨w.heap.size, 1, none⟩ = some (.int .i64 f.torn) := by rw [cell_of_row _ _ _ _ _ _ f2]; rfl
      clear f2 vk
      have V2' : w2.heap[w1.heap.size]? = some (.cells (qcells q).toArray 74 (0, 0)) := VB.out
      have hvlt : w1.heap.size < w2.heap.size := (Array.getElem?_eq_some_iff.1 V2').1
      have hfit : q.1 * 64 + 64 ≤ LK.length := by rw [hll]; exact HQ1.out
      by_cases htorn : ((k : Int) == f.torn) = true
      · have hz := mixL_len q.2 (sec LK q.1) (clamp f.cut 64) f.head
        rw [HQ2.out] at hz
        have hst : layTo f D.L D.Q (k + 1) = splice LK (q.1 * 64) (mixL q.2 (sec LK q.1) (clamp f.cut 64) f.head) := by rw [HSTEP.out]; unfold layOne; rw [if_pos htorn]
        have hsl : (sec LK q.1).length = 64 := sec_lenL hfit
        have htr := fun (w : World) => torn_any q.2 (sec LK q.1) f w HQ2.out hsl
        generalize mixL q.2 (sec LK q.1) (clamp f.cut 64) f.head = zs at *
        clear HSTEP
        have HSTEP := Lib.hid hst
        have HZ := Lib.hid hz
        have HSL := Lib.hid hsl
        have HTR := Lib.hid htr
        clear hst hz hsl htr
        go_wp2_with (first
          | ((with_reducible refine here (op := .alloc 74) (d := some 5) ?_); refine wpList_alloc_run rfl 74 rfl _ (alloc74 _) ?_)
          | ((with_reducible refine here (op := .store 74 (.tmp 5) (.tmp 17)) ?_); refine wpList_store_run rfl 74 _ _ rfl _ _ rfl rfl VS.out ?_))
        -- the torn write
        have d6 : DkAt w2.drew p lb mb n iv { D with L := LK } := hdk2.same (Keeps.drew _ _)
        have v6 : w2.drew.heap[w1.heap.size]? = some (.cells (qcells q).toArray 74 (0, 0)) := V2'
        have c60 : w2.drew.cell? ⟨p, 0, none⟩ = some (.slice (some ⟨lb, 0, none⟩) n n) := d6.c.1
        have c61 : w2.drew.cell? ⟨w1.heap.size, 0, none⟩ = some (.int .i64 (q.1 : Int)) := by rw [cell_of_row _ _ _ _ _ _ v6]; rfl
        have LA := Lib.hid (load71 (b := w1.heap.size) (o := 1) HQ2.out (range_q (k := q.1) v6))
        have LB := Lib.hid (load71 (w := w2.drew) (b := lb) (o := q.1 * 64) HSL.out (range_block d6.rows (q.1 * 64) 64))
        have LF := Lib.hid (load33 (w := w2.drew) F2.out)
        have k62 : Keeps (fun _ => False) w2 w2.drew := Keeps.drew _ _
        have V6 := Lib.hid v6
        clear v6 V2' c0 c1
        refine wp_region_still_tail 11 (by kernel_rfl) (by kernel_rfl) ?_
        simp only [List.take_succ_cons, List.take_zero, List.drop_succ_cons, List.drop_zero]
        change wpStill _ _ w2.drew (fun a' => wpList _ _ _ _ a' w2.drew) _ _
        generalize w2.drew = w6 at *
        still_step
        refine wpStill_load rfl 71 (.tmp 22) rfl _ _ rfl LA.out ?_
        still_step
        still_step
        still_step
        still_step
        still_step
        still_step
        still_step
        refine wpStill_load rfl 71 (.tmp 30) rfl _ _ rfl LB.out ?_
        refine wpStill_load rfl 33 (.tmp 3) rfl _ _ rfl LF.out ?_
        refine wpStill_nil ?_
        clear LA LB LF c60 c61
        try simp only [Act.put, List.setIfInBounds_toArray, List.set_cons_zero, List.set_cons_succ]
        go_wp2_with fail
        refine (HTR.out _).mono ?_
        rintro e w3 ⟨rfl, k3⟩
        have s6 := k62.size
        have v3 : w3.heap[w1.heap.size]? = some (.cells (qcells q).toArray 74 (0, 0)) := (k3.block w1.heap.size (by omega) (fun h => h)).trans V6.out
        have SV := Lib.hid (store71 (w := w3) (b := w1.heap.size) (o := 1) (xs := zs) HZ.out (there_blockV v3 1 64 (by rw [qcells_len HQ2.out]; omega)))
        obtain ⟨x1, x2⟩ := setCells_blockV (w := w3) (ys := zs.map B8) 1 v3 (by rw [qcells_len HQ2.out, List.length_map, HZ.out]; omega)
        have ex : splice (qcells q) 1 (zs.map B8) = qcells (q.1, zs) := by
          unfold splice qcells
          simp [HZ.out, HQ2.out]
        rw [ex] at x1
        clear ex v3
        go_wp2_with (((with_reducible refine here (op := .store 71 (.tmp 34) (.tmp 33)) ?_); refine wpList_store_run rfl 71 _ _ rfl _ _ rfl rfl SV.out ?_))
        have k4 : Keeps (fun _ => False) wr (w3.setCells w1.heap.size 1 (zs.map B8)) := by
          have kk := (k2.trans k62).trans k3
          refine ⟨x2.os.trans kk.os, x2.tape.trans kk.tape, x2.output.trans kk.output, Nat.le_trans kk.size x2.size, fun j hj hF => (x2.block j (Nat.lt_of_lt_of_le hj kk.size) (by omega)).trans (kk.block j hj hF)⟩
        generalize w3.setCells w1.heap.size 1 (zs.map B8) = w4 at *
        have kp4 : Keeps (· = lb) w0 w4 := kp.trans k4.ofFalse
        have hdk4 : DkAt w4 p lb mb n iv { D with L := LK } := hdk.same k4
        have V4 := x1
        clear x1 SV
        -- the write is laid down
        go_wp2_with fail
        have hb8 : w4.drew.heap[w1.heap.size]? = some (.cells (qcells (q.1, zs)).toArray 74 (0, 0)) := V4
        have hd8 : DkAt w4.drew p lb mb n iv { D with L := LK } := hdk4.same (Keeps.drew _ _)
        have c80 : w4.drew.cell? ⟨p, 0, none⟩ = some (.slice (some ⟨lb, 0, none⟩) n n) := hd8.c.1
        have c81 : w4.drew.cell? ⟨w1.heap.size, 0, none⟩ = some (.int .i64 (q.1 : Int)) := by rw [cell_of_row _ _ _ _ _ _ hb8]; rfl
        have L8 := Lib.hid (load71 (b := w1.heap.size) (o := 1) HZ.out (range_q hb8))
        have S8 := Lib.hid (store71 (w := w4.drew) (b := lb) (o := q.1 * 64) (xs := zs) HZ.out (there_block hd8.rows (q.1 * 64) 64 hfit))
        obtain ⟨g1, g2⟩ := setCells_block (w := w4.drew) (ys := zs) (q.1 * 64) hd8.rows (by rw [HZ.out]; exact hfit)
        have G1 := Lib.hid g1
        have kd : Keeps (· = lb) w4 w4.drew := Keeps.drew _ _
        clear g1 hb8 V4 hd8
        refine wp_region_still_tail 9 (by kernel_rfl) (by kernel_rfl) ?_
        simp only [List.take_succ_cons, List.take_zero, List.drop_succ_cons, List.drop_zero]
        change wpStill _ _ w4.drew (fun a' => wpList _ _ _ _ a' w4.drew) _ _
        generalize w4.drew = W8 at *
        still_step
        still_step
        still_step
        still_step
        still_step
        still_step
        still_step
        refine wpStill_load rfl 71 (.tmp 46) rfl _ _ rfl L8.out ?_
        still_step
        refine wpStill_nil ?_
        clear L8 c80 c81
        try simp only [Act.put, List.setIfInBounds_toArray, List.set_cons_zero, List.set_cons_succ]
        refine wpList_store_run rfl 71 _ _ rfl _ _ rfl rfl S8.out ?_
        clear S8
        generalize W8.setCells lb (q.1 * 64) (zs.map B8) = W9 at *
        go_wp2
        go_roundw
        case rel => exact ⟨k + 1, by omega, by go_num, by rw [HSTEP.out]; exact G1.out, kp4.trans (kd.trans g2)⟩
        case measure => simp [intOf]; omega
      · have htf : ((k : Int) == f.torn) = false := by simpa using htorn
        have hsy := stays_any f.stay k HF.out.s0 HF.out.s1 (by omega)
        have HSY := Lib.hid hsy
        clear hsy
        by_cases hsb : stayB f.stay k = true
        · have hst : layTo f D.L D.Q (k + 1) = splice LK (q.1 * 64) q.2 := by rw [HSTEP.out]; unfold layOne; rw [if_neg htorn, if_pos hsb]
          clear HSTEP
          have HSTEP := Lib.hid hst
          have HSB := Lib.hid hsb
          clear hst hsb htorn
          go_wp2_with (first
            | ((with_reducible refine here (op := .alloc 74) (d := some 5) ?_); refine wpList_alloc_run rfl 74 rfl _ (alloc74 _) ?_)
            | ((with_reducible refine here (op := .store 74 (.tmp 5) (.tmp 17)) ?_); refine wpList_store_run rfl 74 _ _ rfl _ _ rfl rfl VS.out ?_))
          refine (HSY.out _).mono ?_
          rintro e w' ⟨rfl, rfl⟩
          rw [HSB.out]
          have V2 := V2'
          clear V2' c0 c1
          -- the write is laid down
          go_wp2_with fail
          have hb8 : w2.drew.heap[w1.heap.size]? = some (.cells (qcells (q.1, q.2)).toArray 74 (0, 0)) := V2
          have hd8 : DkAt w2.drew p lb mb n iv { D with L := LK } := hdk2.same (Keeps.drew _ _)
          have c80 : w2.drew.cell? ⟨p, 0, none⟩ = some (.slice (some ⟨lb, 0, none⟩) n n) := hd8.c.1
          have c81 : w2.drew.cell? ⟨w1.heap.size, 0, none⟩ = some (.int .i64 (q.1 : Int)) := by rw [cell_of_row _ _ _ _ _ _ hb8]; rfl
          have L8 := Lib.hid (load71 (b := w1.heap.size) (o := 1) HQ2.out (range_q hb8))
          have S8 := Lib.hid (store71 (w := w2.drew) (b := lb) (o := q.1 * 64) (xs := q.2) HQ2.out (there_block hd8.rows (q.1 * 64) 64 hfit))
          obtain ⟨g1, g2⟩ := setCells_block (w := w2.drew) (ys := q.2) (q.1 * 64) hd8.rows (by rw [HQ2.out]; exact hfit)
          have G1 := Lib.hid g1
          have kd : Keeps (· = lb) w2 w2.drew := Keeps.drew _ _
          clear g1 hb8 V2 hd8
          refine wp_region_still_tail 9 (by kernel_rfl) (by kernel_rfl) ?_
          simp only [List.take_succ_cons, List.take_zero, List.drop_succ_cons, List.drop_zero]
          change wpStill _ _ w2.drew (fun a' => wpList _ _ _ _ a' w2.drew) _ _
          generalize w2.drew = W8 at *
          still_step
          still_step
          still_step
          still_step
          still_step
          still_step
          still_step
          refine wpStill_load rfl 71 (.tmp 46) rfl _ _ rfl L8.out ?_
          still_step
          refine wpStill_nil ?_
          clear L8 c80 c81
          try simp only [Act.put, List.setIfInBounds_toArray, List.set_cons_zero, List.set_cons_succ]
          refine wpList_store_run rfl 71 _ _ rfl _ _ rfl rfl S8.out ?_
          clear S8
          generalize W8.setCells lb (q.1 * 64) (q.2.map B8) = W9 at *
          go_wp2
          go_roundw
          case rel => exact ⟨k + 1, by omega, by go_num, by rw [HSTEP.out]; exact G1.out, kp2.trans (kd.trans g2)⟩
          case measure => simp [intOf]; omega
        · have hst : layTo f D.L D.Q (k + 1) = LK := by rw [HSTEP.out]; unfold layOne; rw [if_neg htorn, if_neg hsb]
          clear HSTEP
          have HSTEP := Lib.hid hst
          have hsf : stayB f.stay k = false := by simpa using hsb
          have HSB := Lib.hid hsf
          clear hst hsb hsf htorn
          go_wp2_with (first
            | ((with_reducible refine here (op := .alloc 74) (d := some 5) ?_); refine wpList_alloc_run rfl 74 rfl _ (alloc74 _) ?_)
            | ((with_reducible refine here (op := .store 74 (.tmp 5) (.tmp 17)) ?_); refine wpList_store_run rfl 74 _ _ rfl _ _ rfl rfl VS.out ?_))
          refine (HSY.out _).mono ?_
          rintro e w' ⟨rfl, rfl⟩
          rw [HSB.out]
          clear V2' c0 c1
          go_wp2_with fail
          go_roundw
          case rel => exact ⟨k + 1, by omega, by go_num, by rw [HSTEP.out]; exact hdk2.rows, kp2⟩
          case measure => simp [intOf]; omega
    · obtain rfl : k = D.Q.length := by omega
      have emp := empty_at hdk
      have HEM := Lib.hid emp
      clear emp
      go_wp2_with fail
      refine HEM.out.mono ?_
      rintro e w1 ⟨rfl, rfl⟩
      have ap := hdk.apart
      have hb1 : ∀ b, b ≠ p → (wr.setCell ⟨p, 1, none⟩ (.slice none 0 0)).heap[b]? = wr.heap[b]? := fun b hb => Below.heap_setCell _ _ _ _ hb
      have hp1 : (wr.setCell ⟨p, 1, none⟩ (.slice none 0 0)).heap[p]? = some (.cells #[.slice (some ⟨lb, 0, none⟩) n n, .slice none 0 0, .map (some mb), .int .i64 D.left, .bool D.down, .int .i64 (D.acts : Int)] 58 (0, 0)) := by
        rw [heap_setCell_same wr p 1 _ _ _ hdk.head]; rfl
      have c2 : (wr.setCell ⟨p, 1, none⟩ (.slice none 0 0)).cell? ⟨p, 2, none⟩ = some (.map (some mb)) := by rw [cell_of_row _ _ _ _ _ _ hp1]; rfl
      obtain ⟨w2, hcl, hm2, hg2⟩ := (hdk.map.keep (hb1 mb ap.2.1.symm)).clear 0
      have k1 : Keeps (· = p) wr (wr.setCell ⟨p, 1, none⟩ (.slice none 0 0)) := Keeps.setCell (· = p) _ _ _ rfl
      have HP1 := Lib.hid hp1
      have HL1 := Lib.hid ((hb1 lb ap.1.symm).trans HROW.out)
      clear hp1 hb1 HEM
      generalize wr.setCell ⟨p, 1, none⟩ (.slice none 0 0) = w1 at *
      go_wp2
      go_end0
      have s0 := kp.size
      have s1 := k1.size
      have hmb := hdk.map.lt
      have sw := kw.size
      have kB : ∀ g, g ≠ mb → g < w1.heap.size → w2.heap[g]? = w1.heap[g]? := fun g h1 h2 => hg2.block g h2 (fun e => h1 (by cases e; rfl))
      refine ⟨rfl, ⟨⟨(HLEN.out _ (Nat.le_refl _)).trans h1.ok.len, h1.ok.n_le, fun q hq => (by cases hq), h1.ok.lo, h1.ok.hi⟩, (kB p ap.2.1 (by omega)).trans HP1.out, (kB lb ap.2.2.1 (by omega)).trans HL1.out, World.ownsRow_nil _ _ _ _, hm2⟩, ?_⟩
      refine ⟨hg2.os.trans (k1.os.trans (kp.os.trans kw.os)), hg2.tape.trans (k1.tape.trans (kp.tape.trans kw.tape)), hg2.output.trans (k1.output.trans (kp.output.trans kw.output)), by have := hg2.size; omega, fun j hj hF => ?_⟩
      simp only [not_or] at hF
      rw [kB j hF.2.2 (by omega), k1.block j (by omega) hF.1, kp.block j (by omega) hF.2.1, kw.block j hj (fun h => h)]
end Go.Proofs.Ythbdhmjmboliiaa
