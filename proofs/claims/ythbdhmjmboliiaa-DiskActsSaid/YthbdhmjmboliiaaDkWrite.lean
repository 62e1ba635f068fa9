/-
  The contract of Write.
-/
import Derived.Test.YthbdhmjmboliiaaDkQueue
namespace Go.Proofs.Ythbdhmjmboliiaa
open Go.RowKit Go.Maps

theorem wpList_build_run {P : Program} {w w' : World} {ops : Array Oper} {rest : List Oper} {o : Oper} {a : Act} {Q : Exit → Act → World → Prop} (hgd : o.guard = none) (t : TypeId) (x : Operand) (ho : o.op = .build t #[(0, x)]) (y v : Value) (hy : a.eval x = y)
    (hrun : (Instr.build t #[(0, y)]).run P w = .ok v w') (h : wpList P ops Q rest (a.put o.dst v) w') : wpList P ops Q (o :: rest) a w :=
  wpList_plain hgd fun _ hK => by
    unfold Oper.wp execOp
    simp only [ho, Sem.run_bind, List.map_toArray, List.map_cons, List.map_nil, hy, hrun, Result.andThen_ok, Sem.run_pure]
    exact hK _ _ h
theorem wpList_mapUpdate_run {P : Program} {w w' : World} {ops : Array Oper} {rest : List Oper} {o : Oper} {a : Act} {Q : Exit → Act → World → Prop} (hgd : o.guard = none) (t : TypeId) (x y z : Operand) (ho : o.op = .mapUpdate t x y z) (m k v : Value) (hm : a.eval x = m) (hk : a.eval y = k) (hv : a.eval z = v)
    (hrun : (Instr.mapUpdate t m k v).run P w = .ok () w') (h : wpList P ops Q rest (a.put o.dst undef) w') : wpList P ops Q (o :: rest) a w :=
  wpList_plain hgd fun _ hK => by
    unfold Oper.wp execOp
    simp only [ho, hm, hk, hv, Sem.run_bind, hrun, Result.andThen_ok, Sem.run_pure]
    exact hK _ _ h
theorem build74 (w : World) (k : Nat) : (Instr.build 74 #[(0, .int .i64 (k : Int))]).run Try.prog w = .ok (agq (k, zs64)) w := by kernel_rfl

/-- F and what is new. -/
def Gr (F : Nat → Prop) (w : World) : Nat → Prop := fun k => F k ∨ w.heap.size ≤ k

def DSt.fits (D : DSt) (i : Int) (b : List UInt8) : Prop := 0 ≤ i ∧ i < D.n ∧ b.length = 64
instance (D : DSt) (i : Int) (b : List UInt8) : Decidable (D.fits i b) := by unfold DSt.fits; infer_instance
def DSt.writeErr (D : DSt) (i : Int) (b : List UInt8) : Int := if D.down = true then 20 else if D.fits i b then D.actErr else 1
def DSt.write (D : DSt) (i : Int) (b : List UInt8) : DSt := if D.down = true then D else if D.fits i b then (if D.left = 0 then D.spent else { D.spent with Q := D.Q ++ [(i.toNat, b)] }) else D
def Wrote (w : World) (F : Nat → Prop) (p : Nat) (D : DSt) (err : Int) (e : Ending) (w' : World) : Prop := e = .returned (.int .i64 err) ∧ Dk w' (Gr F w) p D ∧ Keeps F w w'

theorem DkAt.same {w w' : World} {p lb mb n : Nat} {iv : Value} {D : DSt} (h : DkAt w p lb mb n iv D) (k : Keeps (fun _ => False) w w') : DkAt w' p lb mb n iv D := by
  obtain ⟨es, clock, hm⟩ := h.map.obj
  have lt : ∀ {b : Nat} {o : Obj}, w.heap[b]? = some o → w'.heap[b]? = w.heap[b]? := fun e => k.block _ (Array.getElem?_eq_some_iff.1 e).1 (fun h => h)
  exact h.keep (lt h.head) (lt h.rows) (lt hm) (fun g hg => k.block g (h.que.lt g hg).2 (fun h => h))
theorem DSt.spent_Q (D : DSt) : D.spent.Q = D.Q := by unfold DSt.spent; split <;> rfl
theorem DSt.spent_L (D : DSt) : D.spent.L = D.L := by unfold DSt.spent; split <;> rfl
theorem Keeps.ofFalse {F : Nat → Prop} {w w' : World} (h : Keeps (fun _ => False) w w') : Keeps F w w' := h.mono fun _ _ hf => hf.elim

/-- The write's variable, filled in. -/
theorem write_var (w : World) (k : Nat) (xs : List UInt8) :
    ∃ W2, W2 = (w.alloc (.cells zq 74)).setCells w.heap.size 0 (qcells (k, zs64)) ∧ W2.heap[w.heap.size]? = some (.cells (qcells (k, zs64)).toArray 74 (0, 0)) ∧ Keeps (fun _ => False) w W2 ∧
      (W2.setRow w.heap.size (qcells (k, xs)).toArray).heap[w.heap.size]? = some (.cells (qcells (k, xs)).toArray 74 (0, 0)) ∧ Keeps (fun _ => False) w (W2.setRow w.heap.size (qcells (k, xs)).toArray) := by
  have e1 := heap_alloc_last w (.cells zq 74)
  obtain ⟨b1, b2⟩ := setCells_blockV (ys := qcells (k, zs64)) 0 e1 (by rw [zq_len, qcells_len zs64_len]; omega)
  rw [splice_allV _ _ (by rw [zq_len, qcells_len zs64_len])] at b1
  have k0 : Keeps (fun _ => False) w (w.alloc (.cells zq 74)) := Keeps.alloc _ _ _
  have kk : Keeps (fun _ => False) w ((w.alloc (.cells zq 74)).setCells w.heap.size 0 (qcells (k, zs64))) :=
    ⟨b2.os, b2.tape, b2.output, Nat.le_trans k0.size b2.size, fun j hj hF => (b2.block j (by simp; omega) (by omega)).trans (k0.block j hj hF)⟩
  refine ⟨_, rfl, b1, kk, ?_⟩
  clear b2 e1 k0
  generalize (w.alloc (.cells zq 74)).setCells w.heap.size 0 (qcells (k, zs64)) = W2 at *
  have kr : Keeps (fun _ => False) w (W2.setRow w.heap.size (qcells (k, xs)).toArray) :=
    ⟨kk.os, kk.tape, kk.output, by rw [size_setRow]; exact kk.size, fun j hj hF => (setRow_other W2 w.heap.size j _ (by omega)).trans (kk.block j hj hF)⟩
  exact ⟨setRow_heap W2 w.heap.size _ _ _ _ b1, kr⟩

set_option maxHeartbeats 1000000 in
theorem write_ok {w : World} {F : Nat → Prop} {p : Nat} {D : DSt} (h0 : Dk w F p D) (k : Nat) (hk : k < D.n) (A : Option Addr) (xs : List UInt8) (c : Nat) (hx : BR w w.heap.size A xs) (hA : ∀ ad, A = some ad → ¬ F ad.block) (hl : xs.length = 64)
    (hd : D.down = false) (hleft : D.left ≠ 0) (hQ : D.Q.length < 1954687338212) (ha : D.acts ≤ 1000000000000000) :
    Calls Try.prog 17 #[.pointer (some ⟨p, 0, none⟩), .int .i64 (k : Int), .slice A xs.length c] w (Wrote w F p { D.spent with Q := D.Q ++ [(k, xs)] } 0) := by
  obtain ⟨lb, mb, n, iv, h, fp, fl, fm, fi⟩ := h0
  have hnn := h.ok.n_eq
  rw [hnn] at hk
  have hn := h.ok.n_le
  obtain ⟨ad, rfl, had, hcs⟩ := hx (by intro e; rw [e] at hl; simp at hl)
  have hnF : ¬ F ad.block := hA ad rfl
  have he : D.actErr = 0 := by unfold DSt.actErr; rw [if_neg hleft]
  have HE := Lib.hid he
  have HD := Lib.hid hd
  have HL := Lib.hid hl
  clear hnn hA hx he hd hleft
  rw [hl]
  clear hl
  generalize hD2 : ({ D.spent with Q := D.Q ++ [(k, xs)] } : DSt) = D2
  have HD2 := Lib.hid hD2
  clear hD2
  go_enter Try.func17, Try.ntmps17
  go_wp2_with fail
  refine (down_at h).mono ?_
  rintro e w' ⟨rfl, rfl⟩
  rw [HD.out]
  go_wp2_with fail
  refine (has_yes h _ (by omega) (by omega)).mono ?_
  rintro e w' ⟨rfl, rfl⟩
  go_wp2_with fail
  refine (act_at h ha).mono ?_
  rintro e w1 ⟨rfl, h1, k1⟩
  rw [HE.out]
  obtain ⟨W2, eW, v1, v2, v3, v4⟩ := write_var w1 k xs
  have ST := Lib.hid (store74 (w := w1.alloc (.cells zq 74)) (b := w1.heap.size) (o := 0) (q := (k, zs64)) zs64_len (there_blockV (heap_alloc_last w1 (.cells zq 74)) 0 65 (by rw [zq_len]; omega)))
  have CP : ∀ ty, (Builtin.copy_ #[30, 30] ty #[.slice (some ⟨w1.heap.size, 1, none⟩) 64 64, .slice (some ad) 64 c]).run Try.prog W2 = .ok (.int .i64 64) (W2.setRow w1.heap.size (qcells (k, xs)).toArray) := fun ty => by
    have hrun := run_copy_row (P := Try.prog) W2 30 30 ty 5 w1.heap.size 1 64 64 ad 64 c (qcells (k, zs64)).toArray 74 (xs.map B8) Try.underlying30 (by kernel_rfl) v1 (by rw [List.length_map, HL.out]; rfl) (fun j v hj => by
      simp only [List.getElem?_map, Option.map_eq_some_iff] at hj
      obtain ⟨u, hu, rfl⟩ := hj
      have e1 : W2.cell? (ad.add j) = w1.cell? (ad.add j) := World.cell?_of_block (w := w1) (by rw [block_add]; exact v2.block _ (Nat.lt_of_lt_of_le had k1.size) (fun h => h))
      have e2 : w1.cell? (ad.add j) = w.cell? (ad.add j) := World.cell?_of_block (w := w) (by rw [block_add]; exact k1.block _ had (fun e => hnF (e ▸ fp)))
      rw [e1, e2]
      exact hcs j u hu) (by rw [List.length_map, HL.out]; simp [qcells, zs64]) (fun v hv => by
      simp only [List.mem_map] at hv
      obtain ⟨u, _, rfl⟩ := hv
      rfl)
    rw [hrun, List.length_map, HL.out]
    simp [qcells, zs64, goInt]
  have CPH := Lib.hid CP
  have EW := Lib.hid eW
  have V1 := Lib.hid v1
  have V3 := Lib.hid v3
  clear CP eW v1 v3
  go_wp2_with (first
    | ((with_reducible refine here (op := .build 74 #[(0, .tmp 25)]) ?_); refine wpList_build_run rfl 74 _ rfl _ _ rfl (build74 _ _) ?_)
    | ((with_reducible refine here (op := .alloc 74) (d := some 8) ?_); refine wpList_alloc_run rfl 74 rfl _ (alloc74 _) ?_)
    | ((with_reducible refine here (op := .store 74 (.tmp 8) (.tmp 26)) ?_); refine wpList_store_run rfl 74 _ _ rfl _ _ rfl rfl ST.out ?_; refine wpList_world EW.out ?_))
  rw [CPH.out]
  clear CPH ST EW V1 v2
  generalize W2.setRow w1.heap.size (qcells (k, xs)).toArray = W3 at *
  go_wp2_with fail
  -- the write's variable is read, and added
  have h3 : DkAt W3.drew p lb mb n iv D.spent := h1.same (v4.trans (Keeps.drew _ _))
  have r3 : W3.drew.rangeAt w1.heap.size 0 (qcells (k, xs)) := range_blockV V3.out
  have L3 := Lib.hid (load74 (q := (k, xs)) HL.out r3)
  have sQ : D.spent.Q = D.Q := D.spent_Q
  have SQ := Lib.hid sQ
  have V3' : Hid (W3.drew.heap[w1.heap.size]? = some (.cells (qcells (k, xs)).toArray 74 (0, 0))) := V3.out
  have hs3 : w1.heap.size < W3.drew.heap.size := (Array.getElem?_eq_some_iff.1 V3'.out).1
  have k3 : Keeps (fun _ => False) w1 W3.drew := v4.trans (Keeps.drew _ _)
  clear r3 sQ v4 V3 h1
  refine wp_region_still_tail 4 (by kernel_rfl) (by kernel_rfl) ?_
  simp only [List.take_succ_cons, List.take_zero, List.drop_succ_cons, List.drop_zero]
  change wpStill _ _ W3.drew (fun a' => wpList _ _ _ _ a' W3.drew) _ _
  generalize W3.drew = W4 at *
  still_step
  still_step
  still_step
  refine wpStill_load rfl 74 (.tmp 8) rfl _ _ rfl L3.out ?_
  refine wpStill_nil ?_
  clear L3
  simp only [Act.put, List.setIfInBounds_toArray, List.set_cons_zero, List.set_cons_succ]
  go_wp2_with fail
  refine (qadd_at h3 (k, xs) HL.out (by rw [SQ.out]; omega)).mono ?_
  rintro e w5 ⟨rfl, w4, iv', hh, hown, kw4, hnew, kw5⟩
  rw [SQ.out] at hown
  have hltw : p < w.heap.size := (Array.getElem?_eq_some_iff.1 h.head).1
  have hmbw := h.map.lt
  have hlbw : lb < w.heap.size := (Array.getElem?_eq_some_iff.1 h.rows).1
  have s1 := k1.size
  have s3 := k3.size
  have hiw : ∀ g, Value.ownBlock iv = some g → g < w.heap.size := fun g hg => (h.que.lt g hg).2
  have ap := h3.apart
  -- the blocks behind add
  have bp : w5.heap[p]? = some (.cells #[.slice (some ⟨lb, 0, none⟩) n n, iv', .map (some mb), .int .i64 D.spent.left, .bool D.spent.down, .int .i64 (D.spent.acts : Int)] 58 (0, 0)) := by
    rw [hh]
    have : w4.heap[p]? = _ := (kw4.block p (by omega) (fun e => (ap.2.2.2 p e).1 rfl)).trans h3.head
    rw [heap_setCell_same w4 p 1 _ _ _ this]
    rfl
  have bl : w5.heap[lb]? = some (.cells (D.spent.L.map B8).toArray 71 (0, 0)) := (kw5.block lb (by omega) (fun e => e.elim (fun e => ap.1 e.symm) (fun e => (ap.2.2.2 lb e).2.1 rfl))).trans h3.rows
  have bm : MapIs w5 mb D.Q := by
    have := h3.map.keep (kw5.block mb (by omega) (fun e => e.elim (fun e => ap.2.1 e.symm) (fun e => (ap.2.2.2 mb e).2.2 rfl)))
    rwa [SQ.out] at this
  have bv : w5.heap[w1.heap.size]? = some (.cells (qcells (k, xs)).toArray 74 (0, 0)) := (kw5.block _ hs3 (fun e => e.elim (fun e => by omega) (fun e => by have := hiw _ e; omega))).trans V3'.out
  have hgn : ∀ g, Value.ownBlock iv' = some g → g ≠ p ∧ g ≠ lb ∧ g ≠ mb := fun g hg => by
    rcases hnew g hg with e | e
    · exact ap.2.2.2 g e
    · exact ⟨by omega, by omega, by omega⟩
  have c2 : w5.drew.cell? ⟨p, 2, none⟩ = some (.map (some mb)) := by
    have e : w5.cell? ⟨p, 2, none⟩ = some (.map (some mb)) := by rw [cell_of_row w5 p _ _ _ _ bp]; rfl
    exact e
  have r6 : w5.drew.rangeAt w1.heap.size 1 (xs.map B8) := by
    intro j v hv
    have e : w5.cell? ⟨w1.heap.size, 1 + j, none⟩ = some v := by
      rw [cell_of_row w5 _ _ _ _ _ bv]
      simp only [qcells, List.getElem?_toArray, Nat.add_comm 1 j, List.getElem?_cons_succ]
      exact hv
    exact e
  have L6 := Lib.hid (load71 HL.out r6)
  obtain ⟨w7, hup, hm7, hg7⟩ := MapIs.put (w := w5.drew) (bm.keep rfl) k (by omega) xs hQ
  have UP := Lib.hid hup
  have BP := Lib.hid bp
  have BL := Lib.hid bl
  have OW := Lib.hid hown
  have HH := Lib.hid hh
  clear bp bl bv bm r6 hup hown hh
  go_wp2_with fail
  refine wp_region_still_tail 7 (by kernel_rfl) (by kernel_rfl) ?_
  simp only [List.take_succ_cons, List.take_zero, List.drop_succ_cons, List.drop_zero]
  change wpStill _ _ w5.drew (fun a' => wpList _ _ _ _ a' w5.drew) _ _
  have k65 : Keeps (fun _ => False) w5 w5.drew := Keeps.drew _ _
  have e65 : Hid (w5.drew.heap = w5.heap) := rfl
  generalize w5.drew = w6 at *
  still_step
  still_step
  still_step
  still_step
  still_step
  still_step
  refine wpStill_load rfl 71 (.tmp 41) rfl _ _ rfl L6.out ?_
  refine wpStill_nil ?_
  clear L6
  simp only [Act.put, List.setIfInBounds_toArray, List.set_cons_zero, List.set_cons_succ]
  refine wpList_mapUpdate_run rfl 56 _ _ _ rfl _ _ _ rfl rfl rfl UP.out ?_
  clear UP c2
  go_wp2
  go_ret
  have kB : ∀ g, g ≠ mb → g < w6.heap.size → w7.heap[g]? = w5.heap[g]? := fun g h1 h2 => (hg7.block g h2 (fun e => h1 (by cases e; rfl))).trans (by rw [e65.out])
  have s6 : w6.heap.size = w5.heap.size := by rw [e65.out]
  have s5 := kw5.size
  refine ⟨rfl, ⟨lb, mb, n, iv', ?_, Or.inl fp, Or.inl fl, Or.inl fm, fun g hg => ?_⟩, ?_⟩
  · rw [← HD2.out]
    refine ⟨⟨?_, h3.ok.n_le, fun q hq => ?_, h3.ok.lo, h3.ok.hi⟩, (kB p ap.2.1 (by omega)).trans BP.out, (kB lb ap.2.2.1 (by omega)).trans BL.out, ?_, hm7⟩
    · exact h3.ok.len
    · simp only [List.mem_append, List.mem_singleton] at hq
      rcases hq with hq | rfl
      · exact h3.ok.q q (by rw [SQ.out]; exact hq)
      · exact ⟨by omega, HL.out⟩
    · have hown := OW.out
      refine ⟨by simpa using hown.1, ?_⟩
      rcases hown.2 with ⟨_, hn⟩ | ⟨g, cap, cur, rfl, hb, hgg, rest⟩
      · omega
      · have hgl : g < w4.heap.size := (Array.getElem?_eq_some_iff.1 hgg).1
        have hne := hgn g rfl
        have e5 : w5.heap[g]? = w4.heap[g]? := by rw [HH.out]; exact Below.heap_setCell _ _ _ _ hne.1
        have hs4 : w4.heap.size = w5.heap.size := by rw [HH.out]; simp [World.setCell]
        have e7 : w7.heap[g]? = w4.heap[g]? := (kB g hne.2.2 (by omega)).trans e5
        refine .inr ⟨g, cap, cur, by simp, hb, e7.trans hgg, ?_⟩
        simpa using rest
  · rcases hnew g hg with e | e
    · exact Or.inl (fi g e)
    · exact Or.inr (by omega)
  · refine ⟨?_, ?_, ?_, ?_, fun j hj hF => ?_⟩
    · exact hg7.os.trans (k65.os.trans (kw5.os.trans (k3.os.trans k1.os)))
    · exact hg7.tape.trans (k65.tape.trans (kw5.tape.trans (k3.tape.trans k1.tape)))
    · exact hg7.output.trans (k65.output.trans (kw5.output.trans (k3.output.trans k1.output)))
    · have := hg7.size; omega
    · have n1 : j ≠ p := fun e => hF (e ▸ fp)
      have n2 : j ≠ mb := fun e => hF (e ▸ fm)
      rw [kB j n2 (by omega), kw5.block j (by omega) (fun e => e.elim n1 (fun e => hF (fi j e))), k3.block j (by omega) (fun h => h), k1.block j hj n1]

theorem Dk.wrote_same {w : World} {F : Nat → Prop} {p : Nat} {D : DSt} (h : Dk w F p D) (err : Int) : Wrote w F p D err (.returned (.int .i64 err)) w := ⟨rfl, h.mono (fun _ _ hf => Or.inl hf), Keeps.refl _ _⟩

set_option maxHeartbeats 1000000 in
theorem write_any {w : World} {F : Nat → Prop} {p : Nat} {D : DSt} (h0 : Dk w F p D) (i : Int) (A : Option Addr) (xs : List UInt8) (c : Nat) (hx : BR w w.heap.size A xs) (hA : ∀ ad, A = some ad → xs ≠ [] → ¬ F ad.block)
    (hQ : D.Q.length < 1954687338212) (ha : D.acts ≤ 1000000000000000) :
    Calls Try.prog 17 #[.pointer (some ⟨p, 0, none⟩), .int .i64 i, .slice A xs.length c] w (Wrote w F p (D.write i xs) (D.writeErr i xs)) := by
  cases hd : D.down with
  | true =>
    have e1 : D.write i xs = D := by unfold DSt.write; rw [if_pos hd]
    have e2 : D.writeErr i xs = 20 := by unfold DSt.writeErr; rw [if_pos hd]
    rw [e1, e2]
    have HW := Lib.hid h0
    obtain ⟨lb, mb, n, iv, h, _⟩ := h0
    have HD := Lib.hid hd
    clear e1 e2 hd hx hA
    go_enter Try.func17, Try.ntmps17
    go_wp2_with (go_at_call 23; refine (down_at h).mono ?_; rintro e w' ⟨rfl, rfl⟩; rw [HD.out])
    go_ret
    exact HW.out.wrote_same 20
  | false =>
    by_cases hf : D.fits i xs
    · by_cases hl : D.left = 0
      · have e1 : D.write i xs = D.spent := by unfold DSt.write; rw [if_neg (by simp [hd]), if_pos hf, if_pos hl]
        have e2 : D.writeErr i xs = 20 := by unfold DSt.writeErr; rw [if_neg (by simp [hd]), if_pos hf]; unfold DSt.actErr; rw [if_pos hl]
        have e3 : D.actErr = 20 := by unfold DSt.actErr; rw [if_pos hl]
        rw [e1, e2]
        obtain ⟨lb, mb, n, iv, h, fF⟩ := h0
        obtain ⟨f1, f2, f3⟩ := hf
        rw [h.ok.n_eq] at f2
        have HD := Lib.hid hd
        have HE := Lib.hid e3
        have hb : (xs.length : Int) = 64 := by omega
        rw [f3]
        clear e1 e2 e3 hd hx hA hl f3 hb
        go_enter Try.func17, Try.ntmps17
        go_wp2_with fail
        refine (down_at h).mono ?_
        rintro e w' ⟨rfl, rfl⟩
        rw [HD.out]
        go_wp2_with fail
        refine (has_yes h _ f1 f2).mono ?_
        rintro e w' ⟨rfl, rfl⟩
        go_wp2_with fail
        refine (act_at h ha).mono ?_
        rintro e w1 ⟨rfl, h1, k1⟩
        rw [HE.out]
        go_wp2_with fail
        go_ret
        exact ⟨rfl, ⟨lb, mb, n, iv, h1, Or.inl fF.1, Or.inl fF.2.1, Or.inl fF.2.2.1, fun g hg => Or.inl (fF.2.2.2 g hg)⟩, k1.mono fun _ _ e => e ▸ fF.1⟩
      · obtain ⟨f1, f2, f3⟩ := hf
        obtain ⟨k, rfl⟩ := Int.eq_ofNat_of_zero_le f1
        have e1 : D.write (k : Int) xs = { D.spent with Q := D.Q ++ [(k, xs)] } := by unfold DSt.write; rw [if_neg (by simp [hd]), if_pos ⟨f1, f2, f3⟩, if_neg hl]; rfl
        have e2 : D.writeErr (k : Int) xs = 0 := by unfold DSt.writeErr; rw [if_neg (by simp [hd]), if_pos ⟨f1, f2, f3⟩]; unfold DSt.actErr; rw [if_neg hl]
        rw [e1, e2]
        exact write_ok h0 k (by omega) A xs c hx (fun ad e => hA ad e (by intro e0; subst e0; simp at f3)) f3 hd hl hQ ha
    · have e1 : D.write i xs = D := by unfold DSt.write; rw [if_neg (by simp [hd]), if_neg hf]
      have e2 : D.writeErr i xs = 1 := by unfold DSt.writeErr; rw [if_neg (by simp [hd]), if_neg hf]
      rw [e1, e2]
      have HW := Lib.hid h0
      obtain ⟨lb, mb, n, iv, h, _⟩ := h0
      have HD := Lib.hid hd
      unfold DSt.fits at hf
      rw [h.ok.n_eq] at hf
      by_cases hi : 0 ≤ i ∧ i < n
      · have hb : ((xs.length : Int) != 64) = true := by rw [bne_iff_ne]; omega
        obtain ⟨f1, f2⟩ := hi
        clear e1 e2 hd hx hA hf
        go_enter Try.func17, Try.ntmps17
        go_wp2_with fail
        refine (down_at h).mono ?_
        rintro e w' ⟨rfl, rfl⟩
        rw [HD.out]
        go_wp2_with fail
        refine (has_yes h _ f1 f2).mono ?_
        rintro e w' ⟨rfl, rfl⟩
        go_wp2_with fail
        go_ret
        exact HW.out.wrote_same 1
      · have hi' : i < 0 ∨ n ≤ i := by omega
        have HI := Lib.hid hi'
        clear e1 e2 hd hx hA hf hi hi'
        go_enter Try.func17, Try.ntmps17
        go_wp2_with fail
        refine (down_at h).mono ?_
        rintro e w' ⟨rfl, rfl⟩
        rw [HD.out]
        go_wp2_with fail
        refine (has_no h _ HI.out).mono ?_
        rintro e w' ⟨rfl, rfl⟩
        go_wp2_with fail
        go_ret
        exact HW.out.wrote_same 1
end Go.Proofs.Ythbdhmjmboliiaa
