/-
  Merged by wip/tools/merge.py: Tr TrNode TrRead TrTree
-/
import Derived.Test.YtacghpabjmnfiaaGreatDoorGRd
import Derived.Test.YtacghpabjmnfiaaGreatDoorGNd
import Derived.Test.YtacghpabjmnfiaaGreatDoorShRebV
import Derived.Test.YtacghpabjmnfiaaGreatDoorGShP
namespace Go.Proofs.YtacghpabjmnfiaaGreatDoor
open Go.RowKit

/-- One sector more is reached. -/
def addS (N : Nat) (l : List Nat) (s : Int) : Option (List Nat) := if 2 ≤ s ∧ s < (N : Int) ∧ s.toNat ∉ l then some (l ++ [s.toNat]) else none

def tcells (top : Int) (lv pg : List Int) (v : Value) : List Value := .int .i64 top :: (lv.map I6 ++ (pg.map I6 ++ [v]))
structure TrAt (w : World) (tb : Nat) (top : Int) (lv pg : List Int) (v : Value) : Prop where
  head : w.heap[tb]? = some (.cells (tcells top lv pg v).toArray 47 (0, 0))
  lvl : lv.length = 4
  pgl : pg.length = 128
section
variable {w w' : World} {tb : Nat} {top : Int} {lv pg : List Int} {v : Value}
theorem TrAt.len (h : TrAt w tb top lv pg v) : (tcells top lv pg v).length = 134 := by simp [tcells, h.lvl, h.pgl]
theorem TrAt.lt (h : TrAt w tb top lv pg v) : tb < w.heap.size := (Array.getElem?_eq_some_iff.1 h.head).1
theorem TrAt.keep (h : TrAt w tb top lv pg v) {F : Nat → Prop} (k : Keeps F w w') (hF : ¬ F tb) : TrAt w' tb top lv pg v := ⟨(k.block _ h.lt hF).trans h.head, h.lvl, h.pgl⟩
theorem tcells_133 (hl : lv.length = 4) (hp : pg.length = 128) : (tcells top lv pg v)[133]? = some v := by
  unfold tcells
  rw [List.getElem?_cons_succ, List.getElem?_append_right (by simp [hl]), List.getElem?_append_right (by simp [hl, hp])]
  simp [hl, hp]
theorem TrAt.cell (h : TrAt w tb top lv pg v) : w.cell? ⟨tb, 133, none⟩ = some v ∧ w.frozen? ⟨tb, 133, none⟩ = false := by
  refine ⟨?_, frozen_of_row _ _ _ _ _ h.head⟩
  rw [cell_of_row _ _ _ _ _ _ h.head, List.getElem?_toArray]
  exact tcells_133 h.lvl h.pgl
theorem tcells_set (hl : lv.length = 4) (hp : pg.length = 128) (u : Value) : (tcells top lv pg v).set 133 u = tcells top lv pg u := by
  unfold tcells
  rw [List.set_cons_succ, List.set_append_right _ _ (by simp [hl]), List.set_append_right _ _ (by simp [hl, hp])]
  simp [hl, hp]
theorem TrAt.setAll (h : TrAt w tb top lv pg v) (u : Value) : TrAt (w.setCell ⟨tb, 133, none⟩ u) tb top lv pg u := by
  refine ⟨?_, h.lvl, h.pgl⟩
  rw [heap_setCell_same w tb 133 _ _ _ h.head]
  have := tcells_set (top := top) (v := v) h.lvl h.pgl u
  rw [← this]
  simp
end

/-- What add gives. -/
def AddOut (N : Nat) (w : World) (B tb : Nat) (top : Int) (lv pg : List Int) (l : List Nat) (s : Int) (e : Ending) (w' : World) : Prop :=
  (∃ l' R c, addS N l s = some l' ∧ e = .returned (.bool true) ∧ TrAt w' tb top lv pg (.slice R l'.length c) ∧ OwnI w' B R c l' ∧ Keeps (fun k => k = tb ∨ B ≤ k) w w') ∨
  (addS N l s = none ∧ e = .returned (.bool false) ∧ w = w')

set_option maxRecDepth 100000 in
set_option maxHeartbeats 1000000 in
theorem tradd_at {w : World} {F : Nat → Prop} {p N : Nat} {sv wv : Value} {svs : List Value} {ws : List (Nat × Value)} {D : DSt} (hd : RDat w F p N sv wv svs ws D) {tb B : Nat} {top : Int} {lv pg : List Int} {R : Option Addr} {c : Nat} {l : List Nat} (ht : TrAt w tb top lv pg (.slice R l.length c)) (ho : OwnI w B R c l)
    (hB : B ≤ w.heap.size) (hl : l.length ≤ 100000) (htB : tb < B) (s : Int) :
    Calls Tryz.prog 75 #[.pointer (some ⟨tb, 0, none⟩), .pointer (some ⟨p, 0, none⟩), .int .i64 s] w (AddOut N w B tb top lv pg l s) := by
  obtain ⟨A', cap', rfl⟩ := hd.svf
  obtain ⟨c0, _⟩ := hd.c
  obtain ⟨ct, zt⟩ := ht.cell
  have hn2 := hd.ok.n_le
  clear hd
  by_cases h1 : s < 2
  · have hno : addS N l s = none := if_neg (by omega)
    go_enter Tryz.func75, Tryz.ntmps75
    go_wp2_with fail
    go_ret
    exact .inr ⟨hno, rfl, rfl⟩
  by_cases h2 : (N : Int) ≤ s
  · have hno : addS N l s = none := if_neg (by omega)
    go_enter Tryz.func75, Tryz.ntmps75
    go_wp2_with fail
    go_ret
    exact .inr ⟨hno, rfl, rfl⟩
  obtain ⟨m, rfl⟩ := Int.eq_ofNat_of_zero_le (show 0 ≤ s by omega)
  have hx1 : decide ((m : Int) < 2) = false := decide_eq_false h1
  have hx2 : decide ((m : Int) ≥ (N : Int)) = false := decide_eq_false (by omega)
  go_enter Tryz.func75, Tryz.ntmps75
  go_wp2_with fail
  try go_frame
  go_loopw [25, 8] (fun i _ wr => ∃ (k : Nat), k ≤ l.length ∧ i = .int .i64 k ∧ wr = w ∧ m ∉ l.take k) (fun i _ _ => l.length - (Go.RowKit.intOf i).toNat)
  case atStart => exact ⟨0, Nat.zero_le _, rfl, rfl, by simp⟩
  case round =>
    obtain ⟨k, hk, rfl, rfl, hno⟩ := hrel
    by_cases hlt : k < l.length
    · obtain ⟨g, rfl, hc⟩ := ho.cell hlt
      by_cases he : l[k] = m
      · have hin : addS N l (m : Int) = none := if_neg (by
          rintro ⟨_, _, h⟩
          exact h (by rw [Int.toNat_natCast, ← he]; exact List.getElem_mem hlt))
        rw [he] at hc
        go_wp2_with fail
        go_ret
        exact .inr ⟨hin, rfl, rfl⟩
      · have hno' : m ∉ l.take (k + 1) := by
          rw [List.take_succ_eq_append_getElem hlt]
          intro hm
          rcases List.mem_append.1 hm with h | h
          · exact hno h
          · simp only [List.mem_singleton] at h
            exact he h.symm
        have hne : ((l[k] : Int) == (m : Int)) = false := by simp; omega
        generalize l[k] = x at *
        go_wp2_with fail
        go_roundw
        case rel => exact ⟨k + 1, by omega, by go_num, trivial, hno'⟩
        case measure => simp [Go.RowKit.intOf]; omega
    · obtain rfl : k = l.length := by omega
      rw [List.take_length] at hno
      have hyes : addS N l (m : Int) = some (l ++ [m]) := by
        unfold addS
        rw [if_pos ⟨by omega, by omega, by rw [Int.toNat_natCast]; exact hno⟩, Int.toNat_natCast]
      rename World => w1
      have own1 : OwnI (w1.alloc (.cells #[.int .i64 (m : Int)] 3)) B R c l := World.ownsRow.alloc ho _
      obtain ⟨R', cap2, w2, hap, own2, b2⟩ := own1.app (by simp; omega) (by omega) m w1.heap.size (by rw [cell_of_row _ _ _ _ _ _ (heap_alloc_new w1 _)]; rfl)
      have hAP := Lib.hid hap
      have t1 : TrAt (w1.alloc (.cells #[.int .i64 (m : Int)] 3)) tb top lv pg (.slice R l.length c) := ht.keep (Keeps.alloc (fun _ => False) _ _) (fun h => h)
      have t2 : TrAt w2 tb top lv pg (.slice R l.length c) := ⟨(b2.block tb htB).trans t1.head, t1.lvl, t1.pgl⟩
      obtain ⟨c2, z2⟩ := t2.cell
      have t3 := t2.setAll (.slice R' (l.length + 1) cap2)
      have kk : Keeps (fun k => k = tb ∨ B ≤ k) w1 (w2.setCell ⟨tb, 133, none⟩ (.slice R' (l.length + 1) cap2)) := by
        refine ⟨b2.os, b2.tape, b2.output, by have := b2.size; rw [size_set]; rw [World.size_alloc] at this; omega, fun b hb hn => ?_⟩
        refine (Below.heap_setCell _ _ _ _ (fun e => hn (.inl e))).trans ((b2.block b (by omega)).trans (Below.heap_alloc _ _ _ hb))
      have own3 : OwnI (w2.setCell ⟨tb, 133, none⟩ (.slice R' (l.length + 1) cap2)) B R' cap2 (l ++ [m]) := own2.keeps (Keeps.setCell (fun k => k = tb) _ _ _ rfl) (fun ad e h => by have := (own2.block ad e).1; omega)
      clear hap own1 own2 t1 t2 b2 ho ht
      go_wp2_with (at_builtin; refine wpList_append_run rfl _ _ 43 rfl _ hAP.out ?_)
      go_ret
      exact .inl ⟨l ++ [m], R', cap2, hyes, rfl, by rw [List.length_append]; exact t3, own3, kk⟩
end Go.Proofs.YtacghpabjmnfiaaGreatDoor
namespace Go.Proofs.YtacghpabjmnfiaaGreatDoor
open Go.RowKit

set_option maxRecDepth 100000 in
set_option maxHeartbeats 800000 in
theorem trnode_at {w : World} {F : Nat → Prop} {p n : Nat} {sv wv : Value} {svs : List Value} {ws : List (Nat × Value)} {D : DSt} (h : RDat w F p n sv wv svs ws D) (hd : D.down = false) (hQ : D.Q.length ≤ 1954687338212) (k : Nat) (hk : k < n) :
    Calls Tryz.prog 76 #[.pointer (some ⟨p, 0, none⟩), .int .i64 (k : Int)] w (GivesN1 w (decN (D.now k))) := by
  have b0 := NB.box w z32
  have k0 : Below w.heap.size w (w.alloc (.cells (z32.map I6).toArray 146)) := (Below.refl _ _).alloc (Nat.le_refl _) _
  have hs0 : (w.alloc (.cells (z32.map I6).toArray 146)).heap.size = w.heap.size + 1 := by simp
  have h1 := h.same (Keeps.alloc (fun _ => False) w (.cells (z32.map I6).toArray 146))
  have A1 := Lib.hid (allocN w)
  have hlen := now_len h.ok hk
  have hr := rread_in h1 hd k hk hQ
  have hdl := decN_len (D.now k)
  have hd1 := decO_64 hlen
  have hd2 := decE_64 hlen
  generalize D.now k = xs at *
  generalize hys : decN xs = ys at *
  have HL := Lib.hid hlen
  have HD1 := Lib.hid hd1
  have HD2 := Lib.hid hd2
  clear h h1 hlen hd1 hd2 hys
  go_enter Tryz.func76, Tryz.ntmps76
  go_wp2_with (first
    | ((with_reducible refine at_ (op := .alloc 146) ?_); refine wpList_val rfl _ (ex_alloc 146 rfl _ A1.out) ?_))
  clear A1
  generalize w.alloc (.cells (z32.map I6).toArray 146) = w1 at *
  refine hr.mono ?_
  rintro e w2 ⟨R, n2, c, rfl, hn2, hbr, hk2⟩
  obtain rfl : n2 = 64 := by rw [← hn2, HL.out]
  have q2 : Below w.heap.size w w2 := k0.trans (hk2.toBelow w.heap.size (by omega) (fun _ h => h.elim))
  have g2 := b0.keep hk2 (by simp)
  have s2 := hk2.size
  clear hr k0 b0 hk2
  go_wp2_with fail
  refine (refDecode_any R xs c 64 w2 hbr HL.out).mono ?_
  rintro e w3 ⟨rfl, hb3⟩
  rw [HD1.out, HD2.out]
  have q3 := q2.trans (hb3.mono q2.size)
  have g3 := g2.below hb3 (by omega)
  have s3 := hb3.size
  clear q2 g2 hbr hb3
  obtain ⟨w4, S4, g4, q4, hs4⟩ := NB.laid w3 ys hdl
  have A3 := Lib.hid (allocN w3)
  have S4' := Lib.hid S4
  have s4 := q4.size
  have g3' := g3.below q4 (by omega)
  have q4' := q3.trans (q4.mono q3.size)
  have L4 := Lib.hid (g4.load hdl)
  obtain ⟨w5, S5, g5, q5, _, _⟩ := g3'.lay z32_len hdl q4' (Nat.le_refl _)
  have S5' := Lib.hid S5
  clear S4 q4 q3 g3 S5
  go_wp2_with (first
    | ((with_reducible refine at_ (op := .alloc 146) ?_); refine wpList_val rfl _ (ex_alloc 146 rfl _ A3.out) ?_)
    | ((with_reducible refine here (op := .store 146 (.tmp 7) (.tmp 18)) ?_); refine wpList_store_run rfl 146 _ _ rfl _ _ rfl rfl S4'.out ?_)
    | ((with_reducible refine here (op := .load 146 (.tmp 7)) ?_); refine wpList_load_run rfl 146 _ rfl _ _ rfl L4.out ?_)
    | ((with_reducible refine here (op := .store 146 (.tmp 4) (.tmp 20)) ?_); refine wpList_store_run rfl 146 _ _ rfl _ _ rfl rfl S5'.out ?_))
  refine bodyPost_ret (v := ng ys) ?_ rfl ⟨rfl, q5⟩
  exact results_cell_row rfl _ _ w.heap.size 146 _ (0, 0) _ rfl g5 Tryz.underlying146 rfl (by rw [Tryz.sizeN]; simp [hdl])
end Go.Proofs.YtacghpabjmnfiaaGreatDoor
namespace Go.Proofs.YtacghpabjmnfiaaGreatDoor
open Go.RowKit

/-! ### the plain answer -/

/-- The pages of leaf i from its k-th entry on. -/
def goPg (N i : Nat) : List Int → Nat → List Int × List Nat → Option (List Int × List Nat)
  | [], _, s => some s
  | x :: xs, k, s => if x = 0 then goPg N i xs (k + 1) s else (addS N s.2 x).bind fun l => goPg N i xs (k + 1) (s.1.set (i * 32 + k) x, l)
/-- The leaves from the i-th on. -/
def goLf (N : Nat) (nd : Nat → List Int) : List Int → Nat → List Int × List Int × List Nat → Option (List Int × List Int × List Nat)
  | [], _, s => some s
  | x :: xs, i, s => if x = 0 then goLf N nd xs (i + 1) s else if 4 ≤ i then none else (addS N s.2.2 x).bind fun l => (goPg N i (nd x.toNat) 0 (s.2.1, l)).bind fun q => goLf N nd xs (i + 1) (s.1.set i x, q.1, q.2)
def z4 : List Int := List.replicate 4 0
def z128 : List Int := List.replicate 128 0
/-- The node of a sector. -/
def nodeR (D : DSt) (k : Nat) : List Int := decN (D.now k)
theorem nodeR_len (D : DSt) (k : Nat) : (nodeR D k).length = 32 := decN_len _
/-- The tree of a top: leaves, pages, all that it reaches. -/
def readT (D : DSt) (N : Nat) (top : Int) : Option (List Int × List Int × List Nat) :=
  if top = 0 then some (z4, z128, []) else (addS N [] top).bind fun l => goLf N (nodeR D) (nodeR D top.toNat) 0 (z4, z128, l)

theorem goPg_none {N i : Nat} {ys : List Int} {k : Nat} (hk : k < ys.length) {s : List Int × List Nat} (h : ys.getD k 0 ≠ 0) (ha : addS N s.2 (ys.getD k 0) = none) : goPg N i (ys.drop k) k s = none := by
  rw [List.drop_eq_getElem_cons hk]
  have e : ys.getD k 0 = ys[k] := by simp [List.getD, hk]
  rw [e] at h ha
  simp [goPg, h, ha]
theorem goPg_some {N i : Nat} {ys : List Int} {k : Nat} (hk : k < ys.length) {s : List Int × List Nat} (h : ys.getD k 0 ≠ 0) {l : List Nat} (ha : addS N s.2 (ys.getD k 0) = some l) : goPg N i (ys.drop k) k s = goPg N i (ys.drop (k + 1)) (k + 1) (s.1.set (i * 32 + k) (ys.getD k 0), l) := by
  rw [List.drop_eq_getElem_cons hk]
  have e : ys.getD k 0 = ys[k] := by simp [List.getD, hk]
  rw [e] at h ha ⊢
  simp [goPg, h, ha]
theorem goPg_skip {N i : Nat} {ys : List Int} {k : Nat} (hk : k < ys.length) {s : List Int × List Nat} (h : ys.getD k 0 = 0) : goPg N i (ys.drop k) k s = goPg N i (ys.drop (k + 1)) (k + 1) s := by
  rw [List.drop_eq_getElem_cons hk]
  have e : ys.getD k 0 = ys[k] := by simp [List.getD, hk]
  rw [e] at h
  simp [goPg, h]
theorem goLf_skip {N : Nat} {nd : Nat → List Int} {ys : List Int} {k : Nat} (hk : k < ys.length) {s : List Int × List Int × List Nat} (h : ys.getD k 0 = 0) : goLf N nd (ys.drop k) k s = goLf N nd (ys.drop (k + 1)) (k + 1) s := by
  rw [List.drop_eq_getElem_cons hk]
  have e : ys.getD k 0 = ys[k] := by simp [List.getD, hk]
  rw [e] at h
  simp [goLf, h]
theorem goLf_far {N : Nat} {nd : Nat → List Int} {ys : List Int} {k : Nat} (hk : k < ys.length) {s : List Int × List Int × List Nat} (h : ys.getD k 0 ≠ 0) (h4 : 4 ≤ k) : goLf N nd (ys.drop k) k s = none := by
  rw [List.drop_eq_getElem_cons hk]
  have e : ys.getD k 0 = ys[k] := by simp [List.getD, hk]
  rw [e] at h
  simp [goLf, h, h4]
theorem goLf_none {N : Nat} {nd : Nat → List Int} {ys : List Int} {k : Nat} (hk : k < ys.length) {s : List Int × List Int × List Nat} (h : ys.getD k 0 ≠ 0) (h4 : ¬ 4 ≤ k) (ha : addS N s.2.2 (ys.getD k 0) = none) : goLf N nd (ys.drop k) k s = none := by
  rw [List.drop_eq_getElem_cons hk]
  have e : ys.getD k 0 = ys[k] := by simp [List.getD, hk]
  rw [e] at h ha
  simp [goLf, h, h4, ha]
theorem goLf_some {N : Nat} {nd : Nat → List Int} {ys : List Int} {k : Nat} (hk : k < ys.length) {s : List Int × List Int × List Nat} (h : ys.getD k 0 ≠ 0) (h4 : ¬ 4 ≤ k) {l : List Nat} (ha : addS N s.2.2 (ys.getD k 0) = some l) :
    goLf N nd (ys.drop k) k s = (goPg N k (nd (ys.getD k 0).toNat) 0 (s.2.1, l)).bind fun q => goLf N nd (ys.drop (k + 1)) (k + 1) (s.1.set k (ys.getD k 0), q.1, q.2) := by
  rw [List.drop_eq_getElem_cons hk]
  have e : ys.getD k 0 = ys[k] := by simp [List.getD, hk]
  rw [e] at h ha ⊢
  simp [goLf, h, h4, ha]
theorem addS_some {N : Nat} {l l' : List Nat} {s : Int} (h : addS N l s = some l') : 2 ≤ s ∧ s < (N : Int) ∧ l' = l ++ [s.toNat] := by
  unfold addS at h
  split at h
  · rename_i hc
    injection h with h
    exact ⟨hc.1, hc.2.1, h.symm⟩
  · cases h

theorem trnodeR_at {w : World} {F : Nat → Prop} {p n : Nat} {sv wv : Value} {svs : List Value} {ws : List (Nat × Value)} {D : DSt} (h : RDat w F p n sv wv svs ws D) (hd : D.down = false) (hQ : D.Q.length ≤ 1954687338212) (k : Nat) (hk : k < n) :
    Calls Tryz.prog 76 #[.pointer (some ⟨p, 0, none⟩), .int .i64 (k : Int)] w (GivesN1 w (nodeR D k)) := trnode_at h hd hQ k hk

/-! ### the struct -/

theorem ex_build1 {P : Program} {w w' : World} {o : Oper} {ρ : Operand → Value} (t : TypeId) (x : Operand) (ho : o.op = .build t #[(0, x)]) (u v : Value) (hx : ρ x = u) (hrun : (Instr.build t #[(0, u)]).run P w = .ok v w') : (execOp ρ o).run P w = .ok (.value v) w' := by
  unfold execOp
  simp only [ho, Sem.run_bind, List.map_toArray, List.map_cons, List.map_nil, hx, hrun, Result.andThen_ok, Sem.run_pure]
def tv (top : Int) (lv pg : List Int) (v : Value) : Value := .agg (tcells top lv pg v).toArray
abbrev nilS : Value := .slice none 0 0
theorem Tryz.sizeTr : (Tryz.prog.info? 47).map (·.size) = some 134 := by kernel_rfl
theorem allocTr (w : World) : (Instr.alloc 47 true (.tuple #[])).run Tryz.prog w = .ok (.pointer (some ⟨w.heap.size, 0, none⟩)) (w.alloc (.cells (tcells 0 z4 z128 nilS).toArray 47)) := by kernel_rfl
theorem buildTr (w : World) (top : Int) : (Instr.build 47 #[(0, .int .i64 top)]).run Tryz.prog w = .ok (tv top z4 z128 nilS) w := by kernel_rfl
theorem buildTr0 (w : World) : (Instr.build 47 #[]).run Tryz.prog w = .ok (tv 0 z4 z128 nilS) w := by kernel_rfl
theorem tcells_len {top : Int} {lv pg : List Int} {v : Value} (h4 : lv.length = 4) (h128 : pg.length = 128) : (tcells top lv pg v).length = 134 := by simp [tcells, h4, h128]
theorem TrAt.load {w : World} {b : Nat} {top : Int} {lv pg : List Int} {v : Value} (h : TrAt w b top lv pg v) : (Instr.loadAt 47 (.pointer (some ⟨b, 0, none⟩))).run Tryz.prog w = .ok (tv top lv pg v) w :=
  run_loadAt_mid w b 0 47 (tcells top lv pg v) _ (range_cells h.head) Tryz.underlying47 rfl (by rw [Tryz.sizeTr, h.len])
theorem TrAt.store {w : World} {b : Nat} {top top' : Int} {lv pg lv' pg' : List Int} {R : Value} {R' : Option Addr} {m c : Nat} (h : TrAt w b top lv pg R) (h4 : lv'.length = 4) (h128 : pg'.length = 128) :
    ∃ w2, (Instr.storeAt 47 (.pointer (some ⟨b, 0, none⟩)) (tv top' lv' pg' (.slice R' m c))).run Tryz.prog w = .ok () w2 ∧ TrAt w2 b top' lv' pg' (.slice R' m c) ∧ Keeps (· = b) w w2 := by
  obtain ⟨h1, h2⟩ := setCells_cells (ys := tcells top' lv' pg' (.slice R' m c)) h.head (by rw [tcells_len h4 h128]; simp [h.len])
  have := run_storeAt_mid (P := Tryz.prog) w b 0 47 (tcells top' lv' pg' (.slice R' m c)).toArray (there_cells h.head 0 _ (by simp [tcells_len h4 h128, h.len])) (by rw [Tryz.sizeTr]; simp [tcells_len h4 h128]) (all_oneCell_toArray (fun v hv => by
    simp only [tcells, List.mem_cons, List.mem_append, List.mem_map] at hv
    rcases hv with rfl | ⟨u, _, rfl⟩ | ⟨u, _, rfl⟩ | rfl | hv
    · rfl
    · rfl
    · rfl
    · rfl
    · cases hv))
  exact ⟨_, this, ⟨h1, h4, h128⟩, h2⟩
theorem TrAt.box (w : World) {top : Int} {lv pg : List Int} {v : Value} (h4 : lv.length = 4) (h128 : pg.length = 128) : TrAt (w.alloc (.cells (tcells top lv pg v).toArray 47)) w.heap.size top lv pg v := ⟨heap_alloc_new w _, h4, h128⟩
theorem TrAt.leaf {w : World} {b : Nat} {top : Int} {lv pg : List Int} {v : Value} (h : TrAt w b top lv pg v) {k : Nat} (hk : k < 4) : w.cell? ⟨b, 1 + k, none⟩ = some (.int .i64 (lv.getD k 0)) := by
  rw [cell_of_row w b _ _ _ _ h.head, List.getElem?_toArray, Nat.add_comm]
  unfold tcells
  have := h.lvl
  rw [List.getElem?_cons_succ, List.getElem?_append_left (by simp; omega), List.getElem?_map, List.getElem?_eq_getElem (by omega)]
  simp [List.getD, show k < lv.length by omega]
theorem TrAt.page {w : World} {b : Nat} {top : Int} {lv pg : List Int} {v : Value} (h : TrAt w b top lv pg v) {k : Nat} (hk : k < 128) : w.cell? ⟨b, 5 + k, none⟩ = some (.int .i64 (pg.getD k 0)) := by
  rw [cell_of_row w b _ _ _ _ h.head, List.getElem?_toArray, show 5 + k = (4 + k) + 1 from by omega]
  unfold tcells
  have := h.lvl
  have := h.pgl
  rw [List.getElem?_cons_succ, List.getElem?_append_right (by simp; omega), List.getElem?_append_left (by simp; omega), List.getElem?_map]
  rw [show 4 + k - (lv.map I6).length = k from by simp; omega, List.getElem?_eq_getElem (by omega)]
  simp [List.getD, show k < pg.length by omega]
theorem TrAt.free {w : World} {b : Nat} {top : Int} {lv pg : List Int} {v : Value} (h : TrAt w b top lv pg v) (k : Nat) : w.frozen? ⟨b, k, none⟩ = false := frozen_of_row w b k _ _ h.head
theorem TrAt.setLeaf {w : World} {b : Nat} {top : Int} {lv pg : List Int} {v : Value} (h : TrAt w b top lv pg v) {k : Nat} (hk : k < 4) (x : Int) : TrAt (w.setCell ⟨b, 1 + k, none⟩ (.int .i64 x)) b top (lv.set k x) pg v := by
  refine ⟨?_, by simpa using h.lvl, h.pgl⟩
  rw [heap_setCell_same w b _ _ _ _ h.head]
  have := h.lvl
  have e : tcells top (lv.set k x) pg v = (tcells top lv pg v).set (1 + k) (.int .i64 x) := by
    unfold tcells
    rw [Nat.add_comm 1 k, List.set_cons_succ, List.set_append_left _ _ (by simp; omega), List.map_set]
  rw [e]
  simp
theorem TrAt.setPage {w : World} {b : Nat} {top : Int} {lv pg : List Int} {v : Value} (h : TrAt w b top lv pg v) {k : Nat} (hk : k < 128) (x : Int) : TrAt (w.setCell ⟨b, 5 + k, none⟩ (.int .i64 x)) b top lv (pg.set k x) v := by
  refine ⟨?_, h.lvl, by simpa using h.pgl⟩
  rw [heap_setCell_same w b _ _ _ _ h.head]
  have := h.lvl
  have := h.pgl
  have e : tcells top lv (pg.set k x) v = (tcells top lv pg v).set (5 + k) (.int .i64 x) := by
    unfold tcells
    rw [show 5 + k = (4 + k) + 1 from by omega, List.set_cons_succ, List.set_append_right _ _ (by simp; omega), List.set_append_left _ _ (by simp; omega), List.map_set]
    rw [show 4 + k - (lv.map I6).length = k from by simp; omega]
  rw [e]
  simp
end Go.Proofs.YtacghpabjmnfiaaGreatDoor
namespace Go.Proofs.YtacghpabjmnfiaaGreatDoor
open Go.RowKit

/-- What Read gives. -/
def ReadOut (w : World) (X : Option (List Int × List Int × List Nat)) (top : Int) (e : Ending) (w' : World) : Prop :=
  Below w.heap.size w w' ∧ ((∃ lv pg l R c, X = some (lv, pg, l) ∧ e = .returned (.tuple #[tv top lv pg (.slice R l.length c), .int .i64 0]) ∧ OwnI w' w.heap.size R c l ∧ lv.length = 4 ∧ pg.length = 128) ∨
  (X = none ∧ e = .returned (.tuple #[tv 0 z4 z128 nilS, .int .i64 60])))

/-- While Read works: its result, its tree, the list. -/
structure TI (w0 : World) (top : Int) (w : World) (lv pg : List Int) (R : Option Addr) (c : Nat) (l : List Nat) : Prop where
  t : TrAt w (w0.heap.size + 1) top lv pg (.slice R l.length c)
  o : OwnI w (w0.heap.size + 2) R c l
  z : TrAt w w0.heap.size 0 z4 z128 nilS
  b : Below w0.heap.size w0 w
  s : w0.heap.size + 2 ≤ w.heap.size
section
variable {w0 w w' : World} {top : Int} {lv pg : List Int} {R R' : Option Addr} {c c' : Nat} {l l' : List Nat}
theorem TI.node (h : TI w0 top w lv pg R c l) (k : Below w.heap.size w w') : TI w0 top w' lv pg R c l :=
  ⟨h.t.keep (keeps_below k) (fun h => h), h.o.keeps (keeps_below k) (fun _ _ h => h), h.z.keep (keeps_below k) (fun h => h), h.b.trans (k.mono h.b.size), Nat.le_trans h.s k.size⟩
theorem TI.add (h : TI w0 top w lv pg R c l) (t : TrAt w' (w0.heap.size + 1) top lv pg (.slice R' l'.length c')) (o : OwnI w' (w0.heap.size + 2) R' c' l') (k : Keeps (fun k => k = w0.heap.size + 1 ∨ w0.heap.size + 2 ≤ k) w w') : TI w0 top w' lv pg R' c' l' :=
  ⟨t, o, h.z.keep k (by omega), h.b.trans (k.toBelow _ h.b.size (fun _ h => by omega)), Nat.le_trans h.s k.size⟩
theorem TI.set {lv' pg' : List Int} (h : TI w0 top w lv pg R c l) (ad : Nat) (v : Value) (t : TrAt (w.setCell ⟨w0.heap.size + 1, ad, none⟩ v) (w0.heap.size + 1) top lv' pg' (.slice R l.length c)) : TI w0 top (w.setCell ⟨w0.heap.size + 1, ad, none⟩ v) lv' pg' R c l := by
  have k : Keeps (fun k => k = w0.heap.size + 1) w (w.setCell ⟨w0.heap.size + 1, ad, none⟩ v) := Keeps.setCell _ _ _ _ rfl
  exact ⟨t, h.o.keeps k (fun ad' e h' => by have := (h.o.block ad' e).1; omega), h.z.keep k (by omega), h.b.trans (k.toBelow _ h.b.size (fun _ h => by omega)), Nat.le_trans h.s k.size⟩
theorem TI.bad (h : TI w0 top w lv pg R c l) : ∃ w2, (Instr.storeAt 47 (.pointer (some ⟨w0.heap.size, 0, none⟩)) (tv 0 z4 z128 nilS)).run Tryz.prog w = .ok () w2 ∧ TrAt w2 w0.heap.size 0 z4 z128 nilS ∧ Below w0.heap.size w0 w2 := by
  obtain ⟨w2, S, t, k⟩ := h.z.store (top' := 0) (lv' := z4) (pg' := z128) (R' := none) (m := 0) (c := 0) (by simp [z4]) (by simp [z128])
  exact ⟨w2, S, t, k.old h.b (Nat.le_refl _)⟩
theorem TI.good (h : TI w0 top w lv pg R c l) : ∃ w2, (Instr.storeAt 47 (.pointer (some ⟨w0.heap.size, 0, none⟩)) (tv top lv pg (.slice R l.length c))).run Tryz.prog w = .ok () w2 ∧ TrAt w2 w0.heap.size top lv pg (.slice R l.length c) ∧ Below w0.heap.size w0 w2 ∧ OwnI w2 w0.heap.size R c l := by
  obtain ⟨w2, S, t, k⟩ := h.z.store (top' := top) (lv' := lv) (pg' := pg) (R' := R) (m := l.length) (c := c) h.t.lvl h.t.pgl
  exact ⟨w2, S, t, k.old h.b (Nat.le_refl _), ownsRow_base_a (h.o.keeps k (fun ad' e h' => by have := (h.o.block ad' e).1; omega)) (by omega)⟩
end

/-- Where the loops stand. -/
def AtLf (N : Nat) (nd : Nat → List Int) (ys : List Int) (k : Nat) (lv pg : List Int) (l : List Nat) (X : Option (List Int × List Int × List Nat)) : Prop := goLf N nd (ys.drop k) k (lv, pg, l) = X
def AtPg (N i : Nat) (zs : List Int) (k : Nat) (pg : List Int) (l : List Nat) (Y : Option (List Int × List Nat)) : Prop := goPg N i (zs.drop k) k (pg, l) = Y
def Behind (N : Nat) (nd : Nat → List Int) (ys : List Int) (k : Nat) (lv : List Int) (Y : Option (List Int × List Nat)) (X : Option (List Int × List Int × List Nat)) : Prop := (Y.bind fun q => goLf N nd (ys.drop (k + 1)) (k + 1) (lv, q.1, q.2)) = X
section
variable {N i k : Nat} {nd : Nat → List Int} {ys zs lv pg : List Int} {l l' : List Nat} {X : Option (List Int × List Int × List Nat)} {Y : Option (List Int × List Nat)}
theorem AtLf.start (h : X = goLf N nd ys 0 (lv, pg, l)) : AtLf N nd ys 0 lv pg l X := by
  unfold AtLf
  rw [List.drop_zero]
  exact h.symm
theorem AtLf.skip (h : AtLf N nd ys k lv pg l X) (hk : k < ys.length) (h0 : ys.getD k 0 = 0) : AtLf N nd ys (k + 1) lv pg l X := (goLf_skip hk h0).symm.trans h
theorem AtLf.far (h : AtLf N nd ys k lv pg l X) (hk : k < ys.length) (h0 : ys.getD k 0 ≠ 0) (h4 : 4 ≤ k) : X = none := h.symm.trans (goLf_far hk h0 h4)
theorem AtLf.none (h : AtLf N nd ys k lv pg l X) (hk : k < ys.length) (h0 : ys.getD k 0 ≠ 0) (h4 : ¬ 4 ≤ k) (ha : addS N l (ys.getD k 0) = none) : X = none := h.symm.trans (goLf_none hk h0 h4 ha)
theorem AtLf.into (h : AtLf N nd ys k lv pg l X) (hk : k < ys.length) (h0 : ys.getD k 0 ≠ 0) (h4 : ¬ 4 ≤ k) (ha : addS N l (ys.getD k 0) = some l') : ∃ Y, AtPg N k (nd (ys.getD k 0).toNat) 0 pg l' Y ∧ Behind N nd ys k (lv.set k (ys.getD k 0)) Y X :=
  ⟨_, rfl, (goLf_some hk h0 h4 ha).symm.trans h⟩
theorem AtLf.end (h : AtLf N nd ys ys.length lv pg l X) : X = some (lv, pg, l) := by
  unfold AtLf at h
  rw [List.drop_length] at h
  exact h.symm
theorem AtPg.skip (h : AtPg N i zs k pg l Y) (hk : k < zs.length) (h0 : zs.getD k 0 = 0) : AtPg N i zs (k + 1) pg l Y := (goPg_skip hk h0).symm.trans h
theorem AtPg.none (h : AtPg N i zs k pg l Y) (hk : k < zs.length) (h0 : zs.getD k 0 ≠ 0) (ha : addS N l (zs.getD k 0) = none) : Y = none := h.symm.trans (goPg_none hk h0 ha)
theorem AtPg.some (h : AtPg N i zs k pg l Y) (hk : k < zs.length) (h0 : zs.getD k 0 ≠ 0) (ha : addS N l (zs.getD k 0) = some l') : AtPg N i zs (k + 1) (pg.set (i * 32 + k) (zs.getD k 0)) l' Y := (goPg_some hk h0 ha).symm.trans h
theorem AtPg.end (h : AtPg N i zs zs.length pg l Y) : Y = .some (pg, l) := by
  unfold AtPg at h
  rw [List.drop_length] at h
  exact h.symm
theorem Behind.none (h : Behind N nd ys k lv Y X) (hy : Y = none) : X = none := by subst hy; exact h.symm
theorem Behind.some (h : Behind N nd ys k lv Y X) (hy : Y = .some (pg, l)) : AtLf N nd ys (k + 1) lv pg l X := by subst hy; exact h
end
end Go.Proofs.YtacghpabjmnfiaaGreatDoor
