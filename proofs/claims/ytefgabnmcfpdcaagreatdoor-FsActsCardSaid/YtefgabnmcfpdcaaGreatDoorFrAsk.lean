/-
  FrAsk
-/
import Derived.Test.YtefgabnmcfpdcaaGreatDoorFrTab
namespace Go.Proofs.YtefgabnmcfpdcaaGreatDoor.Fr
open Go.RowKit Ex Ino Mm Fs
set_option linter.unusedVariables false
set_option linter.unusedSimpArgs false
variable {w : World} {mi q b c d e : Nat} {M G : List UInt8}
def AskOut (w : World) (bs : List UInt8) (v0 v1 : Value) (en : Ending) (w' : World) : Prop := Keeps (fun _ => False) w w' ∧ ((okR bs ∧ en = .returned v0) ∨ (¬ okR bs ∧ en = .returned v1))
set_option maxRecDepth 100000 in
theorem rcheck_any (h : RefH w mi q b c d e M G) : Calls Tryz.prog 51 #[.pointer (some ⟨q, 0, none⟩)] w (AskOut w (regB M) (.int .i64 0) (.int .i64 120)) := by
 have HT := Lib.hid (rtable_any h)
 clear h
 go_enter Tryz.func51, Tryz.ntmps51
 go_wp2_with fail
 refine HT.out.mono ?_
 rintro en w1 ⟨k1, ⟨hok, R, cap, ls, rfl, hl, hm, ht⟩ | ⟨hno, rfl⟩⟩
 ·have HG : Hid (AskOut w (regB M) (.int .i64 0) (.int .i64 120) (.returned (.int .i64 0)) w1) := ⟨k1, .inl ⟨hok, rfl⟩⟩
  clear k1 hok ht HT hl hm
  go_wp2_with fail
  go_ret
  exact HG.out
 ·have HG : Hid (AskOut w (regB M) (.int .i64 0) (.int .i64 120) (.returned (.int .i64 120)) w1) := ⟨k1, .inr ⟨hno, rfl⟩⟩
  clear k1 hno HT
  go_wp2_with fail
  go_ret
  exact HG.out
def NodeOut (w : World) (bs : List UInt8) (n : Int) (en : Ending) (w' : World) : Prop := Keeps (fun _ => False) w w' ∧
  ((okR bs ∧ ∃ R c, en = .returned (.tuple #[Ino.ag (nodeX (readN bs) n) R c, .int .u32 (if nodeE (readN bs) n = 0 then (usedN (readN bs) : Int) else 0), .int .i64 (nodeE (readN bs) n)]) ∧ XR w' w'.heap.size R (nodeX (readN bs) n).ext) ∨
   (¬ okR bs ∧ en = .returned (.tuple #[Ino.ag in0 none 0, .int .u32 0, .int .i64 120])))
theorem nodeOut_no {w : World} {bs : List UInt8} {n E : Int} {w' : World} (k : Keeps (fun _ => False) w w') (hok : okR bs) (hE : nodeE (readN bs) n = E) (h0 : E ≠ 0) : NodeOut w bs n (.returned (.tuple #[Ino.ag in0 none 0, .int .u32 0, .int .i64 E])) w' := by
 have hx : nodeX (readN bs) n = in0 := by unfold nodeX; rw [if_neg (by rw [hE]; exact h0)]
 exact ⟨k, .inl ⟨hok, none, 0, by rw [hx, hE, if_neg h0], by rw [hx]; exact XR.nil⟩⟩
set_option maxRecDepth 100000 in
set_option maxHeartbeats 1000000 in
theorem rnode_any (h : RefH w mi q b c d e M G) (n : Int) (hn : -9223372036854775808 ≤ n ∧ n ≤ 9223372036854775807) :
  Calls Tryz.prog 102 #[.pointer (some ⟨q, 0, none⟩), .int .i64 n] w (NodeOut w (regB M) n) := by
 have h0 : RefH (w.alloc (.cells #[.string ⟨#[]⟩, .int .i64 0, .slice none 0 0] 123)) mi q b c d e M G := h.keep (Keeps.alloc (fun _ => False) _ _) (fun _ _ _ f => f)
 have HT := Lib.hid (rtable_any h0)
 have k0 : Keeps (fun _ => False) w (w.alloc (.cells #[.string ⟨#[]⟩, .int .i64 0, .slice none 0 0] 123)) := Keeps.alloc _ _ _
 have hb0 : (w.alloc (.cells #[.string ⟨#[]⟩, .int .i64 0, .slice none 0 0] 123)).heap[w.heap.size]? = some (.cells #[.string ⟨#[]⟩, .int .i64 0, .slice none 0 0] 123 (0, 0)) := World.alloc_heap_new w _
 have s0 : (w.alloc (.cells #[.string ⟨#[]⟩, .int .i64 0, .slice none 0 0] 123)).heap.size = w.heap.size + 1 := World.size_alloc ..
 clear h h0
 generalize hbs : regB M = bs at *
 go_enter Tryz.func102, Tryz.ntmps102
 go_wp2_with fail
 refine HT.out.mono ?_
 rintro en w1 ⟨k1, ⟨hok, R, cap, ls, rfl, hl, hm, ht⟩ | ⟨hno, rfl⟩⟩
 ·have hb1 := (k1.block w.heap.size (by omega) (fun f => f)).trans hb0
  have kk := k0.trans k1
  have hw1 : w.heap.size < w1.heap.size := by have := k1.size; omega
  have noE : ∀ E : Int, nodeE (readN bs) n = E → E ≠ 0 → ∃ w2, (Instr.storeAt 123 (.pointer (some ⟨w.heap.size, 0, none⟩)) (.agg #[.string ⟨#[]⟩, .int .i64 0, .slice none 0 0])).run Tryz.prog w1 = .ok () w2 ∧
    w2.heap[w.heap.size]? = some (.cells #[.string ⟨#[]⟩, .int .i64 0, .slice none 0 0] 123 (0, 0)) ∧ NodeOut w bs n (.returned (.tuple #[Ino.ag in0 none 0, .int .u32 0, .int .i64 E])) w2 := fun E hE h0 => by
   have sr := run_storeAt_mid (P := Tryz.prog) w1 w.heap.size 0 123 #[.string ⟨#[]⟩, .int .i64 0, .slice none 0 0] (there_cells (zs := [_, _, _]) hb1 0 3 (by simp)) size_i (by simp [Value.oneCell'])
   obtain ⟨h1, ks⟩ := setCells_cells (zs := [_, _, _]) (ys := [.string ⟨#[]⟩, .int .i64 0, .slice none 0 0]) hb1 rfl
   exact ⟨_, sr, h1, nodeOut_no (Keeps.thru kk ks (fun _ _ f => f) fun i hi e => by omega) hok hE h0⟩
  by_cases hr : n < 0 ∨ 8 ≤ n
  ·have hE : nodeE (readN bs) n = 1 := by unfold nodeE; rw [if_pos hr]
   obtain ⟨w2, sr, h1, hG⟩ := noE 1 hE (by decide)
   have SR := Lib.hid sr
   have H1 := Lib.hid h1
   have HG := Lib.hid hG
   clear noE sr h1 hG hE hb1 kk k1 hok ht hl hm hb0 k0 s0
   by_cases hneg : n < 0
   ·have d1 : decide (n < 0) = true := by simp only [decide_eq_true_eq]; exact hneg
    clear hr hneg
    go_wp2_with (first
     | ((with_reducible refine at_ (op := .store 123 (.tmp 4) (.tmp 25)) ?_); refine wpList_unit rfl (ex_store 123 (.tmp 4) (.tmp 25) rfl _ _ rfl rfl SR.out) ?_)
     | fail)
    refine bodyPost_ret (v := .tuple #[Ino.ag in0 none 0, .int .u32 0, .int .i64 1]) ?_ rfl HG.out
    exact results_row_tmp2 rfl _ _ w.heap.size 123 _ (0, 0) _ _ _ rfl rfl rfl H1.out Tryz.underlying123 rfl (by rw [size_i]; rfl)
   ·have d1 : decide (n < 0) = false := by simp only [decide_eq_false_iff_not]; exact hneg
    have d2 : decide (8 ≤ n) = true := by simp only [decide_eq_true_eq]; omega
    clear hr hneg
    go_wp2_with (first
     | ((with_reducible refine at_ (op := .store 123 (.tmp 4) (.tmp 25)) ?_); refine wpList_unit rfl (ex_store 123 (.tmp 4) (.tmp 25) rfl _ _ rfl rfl SR.out) ?_)
     | fail)
    refine bodyPost_ret (v := .tuple #[Ino.ag in0 none 0, .int .u32 0, .int .i64 1]) ?_ rfl HG.out
    exact results_row_tmp2 rfl _ _ w.heap.size 123 _ (0, 0) _ _ _ rfl rfl rfl H1.out Tryz.underlying123 rfl (by rw [size_i]; rfl)
  ·obtain ⟨N, rfl⟩ : ∃ N : Nat, n = (N : Int) := ⟨n.toNat, by omega⟩
   have hN8 : N < 8 := by omega
   have hNl : N < ls.length := by omega
   obtain ⟨g, rfl, ca0, ca1, ca2⟩ := ht.own.at_ hNl
   have hyx : ls[N].x = at' (readN bs) N := map_at (ns := readN bs) (by rw [hm, List.take_of_length_le (by rw [readN_len]; omega)]) hNl hl
   have d1 : decide ((N : Int) < 0) = false := by simp
   have d2 : decide ((8 : Int) ≤ (N : Int)) = false := by simp only [decide_eq_false_iff_not]; omega
   have p0 : (0 : Int) ≤ N := by omega
   have p1 : (N : Int) < 8 := by omega
   by_cases hnm : ls[N].x.name = []
   ·have hE : nodeE (readN bs) (N : Int) = 123 := by unfold nodeE; rw [if_neg hr, show ((N : Int)).toNat = N by omega, if_pos (by rw [← hyx]; exact hnm)]
    obtain ⟨w2, sr, h1, hG⟩ := noE 123 hE (by decide)
    have hem : ls[N].x.name.isEmpty = true := by simp [hnm]
    have e2 : ((⟨ls[N].x.name.toArray⟩ : ByteArray).toList == (⟨#[]⟩ : ByteArray).toList) = true := by rw [str_nil, str_eq]; simp [hnm]
    have SR := Lib.hid sr
    have H1 := Lib.hid h1
    have HG := Lib.hid hG
    clear noE sr h1 hG hE hb1 kk k1 hok ht hl hm hb0 k0 s0 hr hyx
    generalize ls[N] = y at *
    go_wp2_with (first
     | ((with_reducible refine at_ (op := .store 123 (.tmp 4) (.tmp 32)) ?_); refine wpList_unit rfl (ex_store 123 (.tmp 4) (.tmp 32) rfl _ _ rfl rfl SR.out) ?_)
     | fail)
    refine bodyPost_ret (v := .tuple #[Ino.ag in0 none 0, .int .u32 0, .int .i64 123]) ?_ rfl HG.out
    exact results_row_tmp2 rfl _ _ w.heap.size 123 _ (0, 0) _ _ _ rfl rfl rfl H1.out Tryz.underlying123 rfl (by rw [size_i]; rfl)
   ·have hE : nodeE (readN bs) (N : Int) = 0 := by unfold nodeE; rw [if_neg hr, show ((N : Int)).toNat = N by omega, if_neg (by rw [← hyx]; exact hnm)]
    have hX : nodeX (readN bs) (N : Int) = ls[N].x := by unfold nodeX; rw [if_pos hE, show ((N : Int)).toNat = N by omega, ← hyx]
    have hem : ls[N].x.name.isEmpty = false := by cases hh : ls[N].x.name with
     | nil => exact absurd hh hnm
     | cons _ _ => rfl
    have e2 : ((⟨ls[N].x.name.toArray⟩ : ByteArray).toList == (⟨#[]⟩ : ByteArray).toList) = false := by rw [str_nil, str_eq]; simp [hnm]
    have sr := run_storeAt_mid (P := Tryz.prog) w1 w.heap.size 0 123 #[St ls[N].x.name, .int .i64 ls[N].x.size, .slice ls[N].R ls[N].x.ext.length ls[N].c] (there_cells (zs := [_, _, _]) hb1 0 3 (by simp)) size_i (by simp [Value.oneCell'])
    obtain ⟨h1, ks⟩ := setCells_cells (zs := [_, _, _]) (ys := [St ls[N].x.name, .int .i64 ls[N].x.size, .slice ls[N].R ls[N].x.ext.length ls[N].c]) hb1 rfl
    have hmem : ls[N] ∈ ls := List.getElem_mem hNl
    have xr2 := xr_via (ht.ext _ hmem) ks fun hne ad e f => by have := (ht.apart _ hmem hne ad e).1; omega
    have hG : NodeOut w bs (N : Int) (.returned (.tuple #[Ino.ag ls[N].x ls[N].R ls[N].c, .int .u32 (usedN (readN bs) : Int), .int .i64 0])) _ :=
     ⟨Keeps.thru kk ks (fun _ _ f => f) fun i hi e => by omega, .inl ⟨hok, ls[N].R, ls[N].c, by rw [hX, hE, if_pos rfl], by rw [hX]; exact xr2⟩⟩
    have SR := Lib.hid sr
    have H1 := Lib.hid h1
    have HG := Lib.hid hG
    clear noE sr h1 hG hE hb1 kk k1 hok ht hl hm hb0 k0 s0 hr hyx hX xr2 ks hmem
    generalize ls[N] = y at *
    go_wp2_with (first
     | ((with_reducible refine at_ (op := .store 123 (.tmp 4) (.tmp 36)) ?_); refine wpList_unit rfl (ex_store 123 (.tmp 4) (.tmp 36) rfl _ _ rfl rfl SR.out) ?_)
     | fail)
    refine bodyPost_ret (v := .tuple #[Ino.ag y.x y.R y.c, .int .u32 (usedN (readN bs) : Int), .int .i64 0]) ?_ rfl HG.out
    exact results_row_tmp2 rfl _ _ w.heap.size 123 _ (0, 0) _ _ _ rfl rfl rfl H1.out Tryz.underlying123 rfl (by rw [size_i]; rfl)
 ·have hb1 := (k1.block w.heap.size (by omega) (fun f => f)).trans hb0
  have sr := run_storeAt_mid (P := Tryz.prog) w1 w.heap.size 0 123 #[.string ⟨#[]⟩, .int .i64 0, .slice none 0 0] (there_cells (zs := [_, _, _]) hb1 0 3 (by simp)) size_i (by simp [Value.oneCell'])
  obtain ⟨h1, ks⟩ := setCells_cells (zs := [_, _, _]) (ys := [.string ⟨#[]⟩, .int .i64 0, .slice none 0 0]) hb1 rfl
  have hG : NodeOut w bs n (.returned (.tuple #[Ino.ag in0 none 0, .int .u32 0, .int .i64 120])) _ := ⟨Keeps.thru (k0.trans k1) ks (fun _ _ f => f) fun i hi e => by omega, .inr ⟨hno, rfl⟩⟩
  have SR := Lib.hid sr
  have H1 := Lib.hid h1
  have HG := Lib.hid hG
  clear sr h1 hG hb1 k1 hno hb0 k0 s0 ks
  go_wp2_with (first
   | ((with_reducible refine at_ (op := .store 123 (.tmp 4) (.tmp 18)) ?_); refine wpList_unit rfl (ex_store 123 (.tmp 4) (.tmp 18) rfl _ _ rfl rfl SR.out) ?_)
   | fail)
  refine bodyPost_ret (v := .tuple #[Ino.ag in0 none 0, .int .u32 0, .int .i64 120]) ?_ rfl HG.out
  exact results_row_tmp2 rfl _ _ w.heap.size 123 _ (0, 0) _ _ _ rfl rfl rfl H1.out Tryz.underlying123 rfl (by rw [size_i]; rfl)
set_option maxRecDepth 100000 in
theorem rsize_any (h : RefH w mi q b c d e M G) (n : Int) (hn : -9223372036854775808 ≤ n ∧ n ≤ 9223372036854775807) :
  Calls Tryz.prog 50 #[.pointer (some ⟨q, 0, none⟩), .int .i64 n] w (AskOut w (regB M) (.tuple #[.int .i64 (nodeX (readN (regB M)) n).size, .int .i64 (nodeE (readN (regB M)) n)]) (.tuple #[.int .i64 0, .int .i64 120])) := by
 have HN := Lib.hid (rnode_any h n hn)
 clear h
 go_enter Tryz.func50, Tryz.ntmps50
 go_wp2_with fail
 refine HN.out.mono ?_
 rintro en w1 ⟨k1, ⟨hok, R, c, rfl, hx⟩ | ⟨hno, rfl⟩⟩
 ·generalize nodeX (readN (regB M)) n = x at *
  generalize nodeE (readN (regB M)) n = E at *
  generalize (if E = 0 then (usedN (readN (regB M)) : Int) else 0) = u at *
  have HG : Hid (AskOut w (regB M) (.tuple #[.int .i64 x.size, .int .i64 E]) (.tuple #[.int .i64 0, .int .i64 120]) (.returned (.tuple #[.int .i64 x.size, .int .i64 E])) (w1.alloc (.cells #[St x.name, .int .i64 x.size, .slice R x.ext.length c] 123))) := ⟨k1.trans (Keeps.alloc _ _ _), .inl ⟨hok, rfl⟩⟩
  clear k1 hok hx HN
  go_wp2_with fail
  go_ret2
  exact HG.out
 ·have HG : Hid (AskOut w (regB M) (.tuple #[.int .i64 (nodeX (readN (regB M)) n).size, .int .i64 (nodeE (readN (regB M)) n)]) (.tuple #[.int .i64 0, .int .i64 120]) (.returned (.tuple #[.int .i64 0, .int .i64 120])) (w1.alloc (.cells #[.string ⟨#[]⟩, .int .i64 0, .slice none 0 0] 123))) := ⟨k1.trans (Keeps.alloc _ _ _), .inr ⟨hno, rfl⟩⟩
  clear k1 hno HN
  go_wp2_with fail
  go_ret2
  exact HG.out
theorem find_is {ns : List IN} (ha : Apart ns) {name : List UInt8} (h0 : name ≠ []) {m : Nat} (hm : m < 8) (he : (at' ns m).name = name) : findI ns name = some m := by
 have fm : isF (at' ns m) = true := by simp [isF, he, h0]
 cases hf : findI ns name with
 | none => exact absurd he (find_none hf hm fm)
 | some i =>
  obtain ⟨hi, fi, hn⟩ := find_some hf
  by_cases e : i = m
  ·rw [e]
  ·exact absurd (hn.trans he.symm) (ha i m hi hm e fi fm).1
theorem find_no {ns : List IN} {name : List UInt8} (h : ∀ j, j < 8 → (at' ns j).name ≠ name) : findI ns name = none := by
 cases hf : findI ns name with
 | none => rfl
 | some i =>
  obtain ⟨hi, _, hn⟩ := find_some hf
  exact absurd hn (h i hi)
def FdR (w1 : World) (ns : List IN) (name : List UInt8) (g : Nat) (k : Value) (wr : World) : Prop := ∃ m, g = 8 - m ∧ m ≤ 8 ∧ k = .int .i64 (m : Int) ∧ (∀ j, j < m → (at' ns j).name ≠ name) ∧ Below w1.heap.size w1 wr
set_option maxRecDepth 100000 in
set_option maxHeartbeats 1000000 in
theorem rfind_any (h : RefH w mi q b c d e M G) (name : List UInt8) (hl : name.length ≤ 9223372036854775807) :
  Calls Tryz.prog 48 #[.pointer (some ⟨q, 0, none⟩), St name] w (AskOut w (regB M) (.tuple #[.int .i64 (findN (readN (regB M)) name : Int), .int .i64 (findE (readN (regB M)) name)]) (.tuple #[.int .i64 0, .int .i64 120])) := by
 have HT := Lib.hid (rtable_any h)
 have HN := Lib.hid (fun W => rname_any name W hl)
 clear h
 generalize regB M = bs at *
 go_enter Tryz.func48, Tryz.ntmps48
 go_wp2_with fail
 refine HT.out.mono ?_
 rintro en w1 ⟨k1, ⟨hok, R, cap, ls, rfl, hls, hm, ht⟩ | ⟨hno, rfl⟩⟩
 rotate_left
 ·have HG : Hid (AskOut w bs (.tuple #[.int .i64 (findN (readN bs) name : Int), .int .i64 (findE (readN bs) name)]) (.tuple #[.int .i64 0, .int .i64 120]) (.returned (.tuple #[.int .i64 0, .int .i64 120])) w1) := ⟨k1, .inr ⟨hno, rfl⟩⟩
  clear k1 hno HT HN
  go_wp2_with fail
  go_ret2
  exact HG.out
 cases hnb : nameB name with
 | false =>
  have h1 : findN (readN bs) name = 0 := by unfold findN; rw [if_pos hnb]
  have h2 : findE (readN bs) name = 121 := by unfold findE; rw [if_pos hnb]
  have HG : Hid (AskOut w bs (.tuple #[.int .i64 (findN (readN bs) name : Int), .int .i64 (findE (readN bs) name)]) (.tuple #[.int .i64 0, .int .i64 120]) (.returned (.tuple #[.int .i64 0, .int .i64 121])) w1) := ⟨k1, .inl ⟨hok, by rw [h1, h2]; rfl⟩⟩
  rw [hnb] at HN
  clear k1 hok HT h1 h2 ht hm hls
  go_wp2_with fail
  refine (HN.out _).mono ?_
  rintro en w2 ⟨rfl, rfl⟩
  go_wp2_with fail
  go_ret2
  exact HG.out
 | true =>
  rw [hnb] at HN
  have hne := nameB_ne hnb
  have hmap : ls.map (·.x) = (readN bs).take 8 := by rw [hm, List.take_of_length_le (by rw [readN_len]; omega)]
  have HTT := Lib.hid ht
  have HAP := Lib.hid ((okR_iff bs).1 hok).2.1
  have K1 := Lib.hid (And.intro k1 hok)
  have HF0 : Hid (FdR w1 (readN bs) name 8 (.int .i64 0) w1) := ⟨0, by omega, by omega, rfl, fun j hj => absurd hj (by omega), Below.refl _ _⟩
  clear ht hok k1 hm HT
  go_wp2_with fail
  refine (HN.out _).mono ?_
  rintro en w2 ⟨rfl, rfl⟩
  go_wp2_with fail
  go_loopg [9, 10, 24] 8 (fun g _ _ k wr => FdR w2 (readN bs) name g k wr)
  case atStart => exact HF0.out
  case round =>
   obtain ⟨m, rfl, hm, rfl, hnm, bq⟩ := hrel
   clear HF0
   by_cases hml : m < 8
   ·obtain ⟨gl, rfl, ca0, ca1, ca2⟩ := (HTT.out.keep (F := fun _ => False) (keeps_below' bq) fun _ _ _ f => f).own.at_ (k := m) (by omega)
    have hyx := map_at hmap (by omega : m < ls.length) hls
    have d1 : decide ((m : Int) < 8) = true := by simp only [decide_eq_true_eq]; omega
    have p0 : (0 : Int) ≤ m := by omega
    have p1 : (m : Int) < 8 := by omega
    have q3 : IntKind.i64.wrap ((m : Int) + 1) = (m : Int) + 1 := by rw [IntKind.wrap_i64]; omega
    generalize ls[m] = y at *
    have ba := (Below.refl wr.heap.size wr).alloc (Nat.le_refl _) (.cells #[St y.x.name, .int .i64 y.x.size, .slice y.R y.x.ext.length y.c] 123)
    have hst := str_eq y.x.name name
    by_cases heq : y.x.name = name
    ·have e2 : decide (y.x.name = name) = true := by simp [heq]
     have e3 : (y.x.name == name) = true := by simp [heq]
     have hfi := find_is HAP.out hne hml (by rw [← hyx]; exact heq)
     have h1 : findN (readN bs) name = m := by unfold findN; rw [if_neg (by rw [hnb]; simp), hfi]; rfl
     have h2 : findE (readN bs) name = 0 := by unfold findE; rw [if_neg (by rw [hnb]; simp), hfi]; rfl
     have HG : Hid (AskOut w bs (.tuple #[.int .i64 (findN (readN bs) name : Int), .int .i64 (findE (readN bs) name)]) (.tuple #[.int .i64 0, .int .i64 120]) (.returned (.tuple #[.int .i64 (m : Int), .int .i64 0])) (wr.alloc (.cells #[St y.x.name, .int .i64 y.x.size, .slice y.R y.x.ext.length y.c] 123))) :=
      ⟨(K1.out.1.trans (keeps_below' bq)).trans (keeps_below' ba), .inl ⟨K1.out.2, by rw [h1, h2]⟩⟩
     clear hyx hnm bq ba heq hfi h1 h2
     go_wp2_with fail
     go_ret2
     exact HG.out
    ·have e2 : decide (y.x.name = name) = false := by simp [heq]
     have e3 : (y.x.name == name) = false := by simp [heq]
     have HR : Hid (FdR w2 (readN bs) name (8 - (m + 1)) (.int .i64 ((m : Int) + 1)) (wr.alloc (.cells #[St y.x.name, .int .i64 y.x.size, .slice y.R y.x.ext.length y.c] 123))) := ⟨m + 1, rfl, by omega, by rw [Int.natCast_add]; rfl, fun j hj => by
      by_cases e : j = m
      ·subst e
       rw [← hyx]
       exact heq
      ·exact hnm j (by omega), bq.trans (ba.mono bq.size)⟩
     clear hyx hnm bq ba heq
     go_wp2_with fail
     go_roundg (8 - (m + 1))
     case rel => exact HR.out
     case measure => omega
   ·obtain rfl : m = 8 := by omega
    have hfi := find_no hnm
    have h1 : findN (readN bs) name = 0 := by unfold findN; rw [if_neg (by rw [hnb]; simp), hfi]; rfl
    have h2 : findE (readN bs) name = 123 := by unfold findE; rw [if_neg (by rw [hnb]; simp), hfi]; rfl
    have HG : Hid (AskOut w bs (.tuple #[.int .i64 (findN (readN bs) name : Int), .int .i64 (findE (readN bs) name)]) (.tuple #[.int .i64 0, .int .i64 120]) (.returned (.tuple #[.int .i64 0, .int .i64 123])) wr) := ⟨K1.out.1.trans (keeps_below' bq), .inl ⟨K1.out.2, by rw [h1, h2]; rfl⟩⟩
    clear hnm bq hfi h1 h2
    go_wp2_with fail
    go_ret2
    exact HG.out
end Go.Proofs.YtefgabnmcfpdcaaGreatDoor.Fr
