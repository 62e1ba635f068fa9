/-
  FrAct
-/
import Derived.Test.YtefgabnmcfpdcaaGreatDoorSqz
import Derived.Test.YtefgabnmcfpdcaaGreatDoorFrPair
import Derived.Test.YtefgabnmcfpdcaaGreatDoorGFl
namespace Go.Proofs.YtefgabnmcfpdcaaGreatDoor.Fr
open Go.RowKit Ex Ino Mm Fs
set_option linter.unusedVariables false
set_option linter.unusedSimpArgs false
structure TwoF (lo : Nat) (w : World) (p gb mb mi q b c d e : Nat) (G Gd M : List UInt8) (W : World) : Prop where
 mem : MemAt W p gb mb G M
 ref : RefH W mi q b c d e M Gd
 tab : Tab W
 sep : p < mi ∧ gb < mi ∧ mb < mi ∧ lo ≤ p ∧ lo ≤ mb ∧ 0 < lo
 kp : Keeps (fun k => lo ≤ k) w W
variable {lo : Nat} {w W : World} {p gb mb mi q b c d e : Nat} {G Gd M M' : List UInt8}
theorem TwoF.bs (h : TwoF lo w p gb mb mi q b c d e G Gd M W) : mi ≤ q ∧ mi ≤ b ∧ mi ≤ d ∧ p < W.heap.size ∧ mb < W.heap.size ∧ b < W.heap.size := ⟨h.ref.q0, h.ref.now.lt'.1, h.ref.was.lt'.1, h.mem.lt.1, h.mem.lt.2.2, h.ref.lt.2.1⟩
theorem TwoF.new {W' : World} (h : TwoF lo w p gb mb mi q b c d e G Gd M W) (k : Keeps (fun _ => False) W W') : TwoF lo w p gb mb mi q b c d e G Gd M W' :=
 ⟨h.mem.keep k (fun f => f) (fun f => f) (fun f => f), h.ref.keep k fun _ _ _ f => f, h.tab.keep (k.block 0 h.tab.pos (fun f => f)), h.sep, h.kp.trans (k.mono fun _ _ f => f.elim)⟩
theorem TwoF.both {W' W'' : World} (h : TwoF lo w p gb mb mi q b c d e G Gd M W) (m1 : MemAt W' p gb mb G M') (k1 : Keeps (fun k => k = p ∨ k = mb) W W') (r2 : RefH W'' mi q b c d e M' Gd) (k2 : Keeps (fun k => k = b) W' W'') : TwoF lo w p gb mb mi q b c d e G Gd M' W'' := by
 have hb := h.bs
 have hs := h.sep
 refine ⟨m1.keep k2 (by omega) (by omega) (by omega), r2, ?_, hs, (h.kp.trans (k1.mono fun i _ e => by rcases e with e | e <;> omega)).trans (k2.mono fun i _ e => by omega)⟩
 exact (h.tab.keep (k1.block 0 h.tab.pos (by omega))).keep (k2.block 0 (Nat.lt_of_lt_of_le h.tab.pos k1.size) (by omega))
theorem TwoF.mid {W' : World} (h : TwoF lo w p gb mb mi q b c d e G Gd M W) (k1 : Keeps (fun k => k = p ∨ k = mb) W W') : RefH W' mi q b c d e M Gd := by
 have hb := h.bs
 have hs := h.sep
 exact Fr.RefH.keep3 h.ref k1 (by omega) (by omega) (by omega)
def BoxA (W : World) (B : Nat) (a : FAct) : Prop := W.heap[B]? = some (.cells (facells a).toArray 33 (0, 0))
theorem BoxA.lt {B : Nat} {a : FAct} (h : BoxA W B a) : B < W.heap.size := (Array.getElem?_eq_some_iff.1 h).1
theorem BoxA.cs {B : Nat} {a : FAct} (h : BoxA W B a) : W.cell? ⟨B, 0, none⟩ = some (.int .i64 a.do_) ∧ W.cell? ⟨B, 1, none⟩ = some (St a.s1) ∧ W.cell? ⟨B, 2, none⟩ = some (St a.s2) ∧ W.cell? ⟨B, 3, none⟩ = some (.int .i64 a.i3) ∧ W.cell? ⟨B, 4, none⟩ = some (.int .i64 a.i4) ∧ W.cell? ⟨B, 5, none⟩ = some (.int .i64 a.i5) ∧ W.cell? ⟨B, 6, none⟩ = some (.slice a.A a.xs.length a.c) := by
 refine ⟨?_, ?_, ?_, ?_, ?_, ?_, ?_⟩ <;> rw [cell_of_row _ _ _ _ _ _ h] <;> rfl
theorem BoxA.keep {F : Nat → Prop} {W' : World} {B : Nat} {a : FAct} (h : BoxA W B a) (k : Keeps F W W') (hF : ¬ F B) : BoxA W' B a := (k.block B h.lt hF).trans h
theorem aggB8 (w : World) : (isAgg 31).run Tryz.prog w = .ok false w := by unfold isAgg; rw [Sem.run_bind, run_underlying Tryz.underlying31 w]; rfl
def ActR (lo : Nat) (w : World) (p gb mb mi q b c d e : Nat) (G Gd M : List UInt8) (en : Ending) (W' : World) : Prop := en = .returned (.bool true) ∧ ∃ M', (okR (regB M) → okR (regB M')) ∧ TwoF lo w p gb mb mi q b c d e G Gd M' W'
set_option maxRecDepth 100000 in
set_option maxHeartbeats 2000000 in
theorem act_any (h : TwoF lo w p gb mb mi q b c d e G Gd M W) (hmb : mb ≠ 0) (a : FAct) (ha : a.Ok W) (hxl : a.xs.length ≤ 140737488355328) (hlow : a.xs ≠ [] → ∀ ad, a.A = some ad → ad.block < lo) :
  Calls Tryz.prog 14 #[.pointer (some ⟨p, 0, none⟩), .pointer (some ⟨q, 0, none⟩), .agg (facells a).toArray] W (ActR lo w p gb mb mi q b c d e G Gd M) := by
 have hbx : BoxA (W.alloc (.cells (facells a).toArray 33)) W.heap.size a := World.alloc_heap_new _ _
 have ka : Keeps (fun _ => False) W (W.alloc (.cells (facells a).toArray 33)) := Keeps.alloc _ _ _
 have h1 := h.new ka
 have hbs := h.bs
 have hsep := h.sep
 have hbr := ka.br ha.br fun _ _ _ f => f
 obtain ⟨c0, c1, c2, c3, c4, c5, c6⟩ := hbx.cs
 have hB : W.heap.size ≠ p ∧ W.heap.size ≠ mb ∧ W.heap.size ≠ b := by omega
 have HW := Lib.hid (show W.alloc (.cells #[.int .i64 a.do_, St a.s1, St a.s2, .int .i64 a.i3, .int .i64 a.i4, .int .i64 a.i5, .slice a.A a.xs.length a.c] 33) = W.alloc (.cells (facells a).toArray 33) from rfl)
 generalize hwa : W.alloc (.cells (facells a).toArray 33) = wa at *
 have H1 := Lib.hid h1
 have HBX := Lib.hid hbx
 have HA := Lib.hid ha
 have HBR := Lib.hid hbr
 have HLOW := Lib.hid hlow
 clear h h1 hbx ka ha hbr hlow hwa
 show Calls _ _ #[_, _, .agg #[.int .i64 a.do_, St a.s1, St a.s2, .int .i64 a.i3, .int .i64 a.i4, .int .i64 a.i5, .slice a.A a.xs.length a.c]] W _
 go_enter Tryz.func14, Tryz.ntmps14
 obtain ⟨dd, s1, s2, i3, i4, i5, A, xs, cc⟩ := a
 simp only at c0 c1 c2 c3 c4 c5 c6 HW hxl
 by_cases x0 : dd = 0
 ·subst x0
  have t0 : ((0 : Int) == 0) = true := rfl
  obtain ⟨n, v, M2, hc, hok, hd⟩ := create_two (mi := mi) (q := q) (b := b) (c := c) (d := d) (e := e) (Gd := Gd) H1.out.mem s1 HA.out.s1_w
  have HOK := Lib.hid hok
  clear hok
  have HC := Lib.hid hc
  have HD := Lib.hid hd
  clear hc hd
  go_wp2_with fail
  rw [HW.out]
  refine HC.out.mono ?_
  rintro en w1 ⟨rfl, m1, k1⟩
  have r1 := H1.out.mid k1
  have hb1 := HBX.out.keep k1 (by omega)
  obtain ⟨d0, d1, d2, d3, d4, d5, d6⟩ := hb1.cs
  simp only at d0 d1 d2 d3 d4 d5 d6
  have HD1 := Lib.hid (HD.out w1 r1)
  have HCO := Lib.hid (And.intro m1 k1)
  clear c0 c1 c2 c3 c4 c5 c6 m1 k1 r1 hb1 HC HD HW
  go_wp2_with fail
  refine HD1.out.mono ?_
  rintro en w2 ⟨rfl, r2, k2⟩
  have HG : Hid (ActR lo w p gb mb mi q b c d e G Gd M (.returned (.bool true)) w2) := ⟨rfl, M2, HOK.out, H1.out.both HCO.out.1 HCO.out.2 r2 k2⟩
  clear r2 k2 HD1 HCO
  go_wp2_with fail
  go_ret
  exact HG.out
 by_cases x1 : dd = 1
 ·subst x1
  have t0 : ((1 : Int) == 0) = false := rfl
  have t1 : ((1 : Int) == 1) = true := rfl
  go_wp2_with fail
  refine wp_region_held (S := fun W' => BoxA W' W.heap.size (⟨1, s1, s2, i3, i4, i5, A, xs, cc⟩ : FAct)) (by kernel_rfl) ?_
  change wpAnyH _ _ _ _ _ _ _ _ (W.alloc (.cells #[.int .i64 1, St s1, St s2, .int .i64 i3, .int .i64 i4, .int .i64 i5, .slice A xs.length cc] 33)).drew
  rw [HW.out]
  have kd : Keeps (fun _ => False) wa wa.drew := keeps_below' ((Below.refl _ _).drew)
  have hS := HBX.out.keep kd (fun f => f)
  have H2 := H1.out.new kd
  have hbr2 := kd.br HBR.out fun _ _ _ f => f
  generalize wa.drew = wd at *
  obtain ⟨v, M2, hc, hok, hd⟩ := delete_two (mi := mi) (q := q) (b := b) (c := c) (d := d) (e := e) (Gd := Gd) H2.mem s1 HA.out.s1_w
  have HOK := Lib.hid hok
  clear hok
  refine sqH 0 (.pointer (some ⟨p, 0, none⟩)) rfl (Or.inl ⟨by rfl, fun _ _ => rfl⟩) hS ?_
  try simp only [Act.put, sqT, sqZ, sqS]
  refine sqH 1 (.pointer (some ⟨W.heap.size, 1, none⟩)) rfl (Or.inl ⟨by rfl, fun _ _ => by go_simp⟩) hS ?_
  try simp only [Act.put, sqT, sqZ, sqS]
  refine sqH 2 (St s1) rfl (yif_load rfl 9 (.tmp 52) rfl _ _ rfl fun w h => load_one aggStr h.cs.2.1) hS ?_
  try simp only [Act.put, sqT, sqZ, sqS]
  refine sqH 4 (.pointer (some ⟨q, 0, none⟩)) rfl (Or.inl ⟨by rfl, fun _ _ => rfl⟩) hS ?_
  try simp only [Act.put, sqT, sqZ, sqS]
  refine sqH 5 (.pointer (some ⟨W.heap.size, 1, none⟩)) rfl (Or.inl ⟨by rfl, fun _ _ => by go_simp⟩) hS ?_
  try simp only [Act.put, sqT, sqZ, sqS]
  refine sqH 6 (St s1) rfl (yif_load rfl 9 (.tmp 56) rfl _ _ rfl fun w h => load_one aggStr h.cs.2.1) hS ?_
  try simp only [Act.put, sqT, sqZ, sqS]
  refine wpAnyH_all (rs := [3]) (by kernel_rfl) (by simp) fun i hi => ?_
  obtain rfl : i = 3 := by simpa using hi
  refine op_call (om := ⟨_, _, _, _, _, _⟩) (fn := 38) (args := #[.pointer (some ⟨p, 0, none⟩), St s1]) (R := fun u W' => u = .int .i64 v ∧ MemAt W' p gb mb G M2 ∧ Keeps (fun k => k = p ∨ k = mb) wd W') rfl rfl (by go_simp)
   (hc.mono fun en W' ⟨he, m, k⟩ => ⟨_, he, rfl, m, k⟩) _ _ rfl rfl ?_
  rintro u w1 ⟨rfl, m1, k1⟩
  have hS : BoxA w1 W.heap.size (⟨1, s1, s2, i3, i4, i5, A, xs, cc⟩ : FAct) := BoxA.keep hS k1 (by omega)
  have r1 := H2.mid k1
  refine ⟨hS, ?_⟩
  try simp only [Act.put, sqT, sqZ, sqS]
  refine wpAnyH_all (rs := [7]) (by kernel_rfl) (by simp) fun i hi => ?_
  obtain rfl : i = 7 := by simpa using hi
  refine op_call (om := ⟨_, _, _, _, _, _⟩) (fn := 39) (args := #[.pointer (some ⟨q, 0, none⟩), St s1]) (R := fun u W' => u = .int .i64 v ∧ RefH W' mi q b c d e M2 Gd ∧ Keeps (fun k => k = b) w1 W') rfl rfl (by go_simp)
   ((hd w1 r1).mono fun en W' ⟨he, m, k⟩ => ⟨_, he, rfl, m, k⟩) _ _ rfl rfl ?_
  rintro u w2 ⟨rfl, r2, k2⟩
  have hS : BoxA w2 W.heap.size (⟨1, s1, s2, i3, i4, i5, A, xs, cc⟩ : FAct) := BoxA.keep hS k2 (by omega)
  refine ⟨hS, ?_⟩
  try simp only [Act.put, sqT, sqZ, sqS]
  refine sqH 8 (.bool true) rfl (Or.inl ⟨by rfl, fun _ _ => by go_simp⟩) hS ?_
  try simp only [Act.put, sqT, sqZ, sqS]
  refine sqH 9 (.bool true) rfl (Or.inl ⟨by rfl, fun _ _ => rfl⟩) hS ?_
  try simp only [Act.put, sqT, sqZ, sqS]
  refine wpAnyH_done (by kernel_rfl) ?_ _
  try simp only [Act.put, sqT, sqZ, sqS]
  have HG : Hid (ActR lo w p gb mb mi q b c d e G Gd M (.returned (.bool true)) w2) := ⟨rfl, M2, HOK.out, H2.both m1 k1 r2 k2⟩
  clear hS m1 k1 r1 r2 k2 hc hd H2 kd c0 c1 c2 c3 c4 c5 c6 hbr2
  go_wp2_with fail
  go_ret
  exact HG.out
 by_cases x2 : dd = 2
 ·subst x2
  have t0 : ((2 : Int) == 0) = false := rfl
  have t1 : ((2 : Int) == 1) = false := rfl
  have t2 : ((2 : Int) == 2) = true := rfl
  go_wp2_with fail
  refine wp_region_held (S := fun W' => BoxA W' W.heap.size (⟨2, s1, s2, i3, i4, i5, A, xs, cc⟩ : FAct)) (by kernel_rfl) ?_
  change wpAnyH _ _ _ _ _ _ _ _ (W.alloc (.cells #[.int .i64 2, St s1, St s2, .int .i64 i3, .int .i64 i4, .int .i64 i5, .slice A xs.length cc] 33)).drew
  rw [HW.out]
  have kd : Keeps (fun _ => False) wa wa.drew := keeps_below' ((Below.refl _ _).drew)
  have hS := HBX.out.keep kd (fun f => f)
  have H2 := H1.out.new kd
  have hbr2 := kd.br HBR.out fun _ _ _ f => f
  generalize wa.drew = wd at *
  obtain ⟨v, M2, hc, hok, hd⟩ := rename_two (mi := mi) (q := q) (b := b) (c := c) (d := d) (e := e) (Gd := Gd) H2.mem s1 s2 HA.out.s1_w HA.out.s2_w
  have HOK := Lib.hid hok
  clear hok
  refine sqH 0 (.pointer (some ⟨p, 0, none⟩)) rfl (Or.inl ⟨by rfl, fun _ _ => rfl⟩) hS ?_
  try simp only [Act.put, sqT, sqZ, sqS]
  refine sqH 1 (.pointer (some ⟨W.heap.size, 1, none⟩)) rfl (Or.inl ⟨by rfl, fun _ _ => by go_simp⟩) hS ?_
  try simp only [Act.put, sqT, sqZ, sqS]
  refine sqH 2 (St s1) rfl (yif_load rfl 9 (.tmp 63) rfl _ _ rfl fun w h => load_one aggStr h.cs.2.1) hS ?_
  try simp only [Act.put, sqT, sqZ, sqS]
  refine sqH 3 (.pointer (some ⟨W.heap.size, 2, none⟩)) rfl (Or.inl ⟨by rfl, fun _ _ => by go_simp⟩) hS ?_
  try simp only [Act.put, sqT, sqZ, sqS]
  refine sqH 4 (St s2) rfl (yif_load rfl 9 (.tmp 65) rfl _ _ rfl fun w h => load_one aggStr h.cs.2.2.1) hS ?_
  try simp only [Act.put, sqT, sqZ, sqS]
  refine sqH 6 (.pointer (some ⟨q, 0, none⟩)) rfl (Or.inl ⟨by rfl, fun _ _ => rfl⟩) hS ?_
  try simp only [Act.put, sqT, sqZ, sqS]
  refine sqH 7 (.pointer (some ⟨W.heap.size, 1, none⟩)) rfl (Or.inl ⟨by rfl, fun _ _ => by go_simp⟩) hS ?_
  try simp only [Act.put, sqT, sqZ, sqS]
  refine sqH 8 (St s1) rfl (yif_load rfl 9 (.tmp 69) rfl _ _ rfl fun w h => load_one aggStr h.cs.2.1) hS ?_
  try simp only [Act.put, sqT, sqZ, sqS]
  refine sqH 9 (.pointer (some ⟨W.heap.size, 2, none⟩)) rfl (Or.inl ⟨by rfl, fun _ _ => by go_simp⟩) hS ?_
  try simp only [Act.put, sqT, sqZ, sqS]
  refine sqH 10 (St s2) rfl (yif_load rfl 9 (.tmp 71) rfl _ _ rfl fun w h => load_one aggStr h.cs.2.2.1) hS ?_
  try simp only [Act.put, sqT, sqZ, sqS]
  refine wpAnyH_all (rs := [5]) (by kernel_rfl) (by simp) fun i hi => ?_
  obtain rfl : i = 5 := by simpa using hi
  refine op_call (om := ⟨_, _, _, _, _, _⟩) (fn := 40) (args := #[.pointer (some ⟨p, 0, none⟩), St s1, St s2]) (R := fun u W' => u = .int .i64 v ∧ MemAt W' p gb mb G M2 ∧ Keeps (fun k => k = p ∨ k = mb) wd W') rfl rfl (by go_simp)
   (hc.mono fun en W' ⟨he, m, k⟩ => ⟨_, he, rfl, m, k⟩) _ _ rfl rfl ?_
  rintro u w1 ⟨rfl, m1, k1⟩
  have hS : BoxA w1 W.heap.size (⟨2, s1, s2, i3, i4, i5, A, xs, cc⟩ : FAct) := BoxA.keep hS k1 (by omega)
  have r1 := H2.mid k1
  refine ⟨hS, ?_⟩
  try simp only [Act.put, sqT, sqZ, sqS]
  refine wpAnyH_all (rs := [11]) (by kernel_rfl) (by simp) fun i hi => ?_
  obtain rfl : i = 11 := by simpa using hi
  refine op_call (om := ⟨_, _, _, _, _, _⟩) (fn := 41) (args := #[.pointer (some ⟨q, 0, none⟩), St s1, St s2]) (R := fun u W' => u = .int .i64 v ∧ RefH W' mi q b c d e M2 Gd ∧ Keeps (fun k => k = b) w1 W') rfl rfl (by go_simp)
   ((hd w1 r1).mono fun en W' ⟨he, m, k⟩ => ⟨_, he, rfl, m, k⟩) _ _ rfl rfl ?_
  rintro u w2 ⟨rfl, r2, k2⟩
  have hS : BoxA w2 W.heap.size (⟨2, s1, s2, i3, i4, i5, A, xs, cc⟩ : FAct) := BoxA.keep hS k2 (by omega)
  refine ⟨hS, ?_⟩
  try simp only [Act.put, sqT, sqZ, sqS]
  refine sqH 12 (.bool true) rfl (Or.inl ⟨by rfl, fun _ _ => by go_simp⟩) hS ?_
  try simp only [Act.put, sqT, sqZ, sqS]
  refine sqH 13 (.bool true) rfl (Or.inl ⟨by rfl, fun _ _ => rfl⟩) hS ?_
  try simp only [Act.put, sqT, sqZ, sqS]
  refine wpAnyH_done (by kernel_rfl) ?_ _
  try simp only [Act.put, sqT, sqZ, sqS]
  have HG : Hid (ActR lo w p gb mb mi q b c d e G Gd M (.returned (.bool true)) w2) := ⟨rfl, M2, HOK.out, H2.both m1 k1 r2 k2⟩
  clear hS m1 k1 r1 r2 k2 hc hd H2 kd c0 c1 c2 c3 c4 c5 c6 hbr2
  go_wp2_with fail
  go_ret
  exact HG.out
 by_cases x3 : dd = 3
 ·subst x3
  have t0 : ((3 : Int) == 0) = false := rfl
  have t1 : ((3 : Int) == 1) = false := rfl
  have t2 : ((3 : Int) == 2) = false := rfl
  have t3 : ((3 : Int) == 3) = true := rfl
  go_wp2_with fail
  refine wp_region_held (S := fun W' => BoxA W' W.heap.size (⟨3, s1, s2, i3, i4, i5, A, xs, cc⟩ : FAct)) (by kernel_rfl) ?_
  change wpAnyH _ _ _ _ _ _ _ _ (W.alloc (.cells #[.int .i64 3, St s1, St s2, .int .i64 i3, .int .i64 i4, .int .i64 i5, .slice A xs.length cc] 33)).drew
  rw [HW.out]
  have kd : Keeps (fun _ => False) wa wa.drew := keeps_below' ((Below.refl _ _).drew)
  have hS := HBX.out.keep kd (fun f => f)
  have H2 := H1.out.new kd
  have hbr2 := kd.br HBR.out fun _ _ _ f => f
  generalize wa.drew = wd at *
  obtain ⟨v, M2, hc, hok, hd⟩ := resize_two (mi := mi) (q := q) (b := b) (c := c) (d := d) (e := e) (Gd := Gd) H2.mem H2.tab hmb i3 i5 HA.out.i3_w HA.out.i5_w
  have HOK := Lib.hid hok
  clear hok
  refine sqH 0 (.pointer (some ⟨p, 0, none⟩)) rfl (Or.inl ⟨by rfl, fun _ _ => rfl⟩) hS ?_
  try simp only [Act.put, sqT, sqZ, sqS]
  refine sqH 1 (.pointer (some ⟨W.heap.size, 3, none⟩)) rfl (Or.inl ⟨by rfl, fun _ _ => by go_simp⟩) hS ?_
  try simp only [Act.put, sqT, sqZ, sqS]
  refine sqH 2 (.int .i64 i3) rfl (yif_load rfl 3 (.tmp 78) rfl _ _ rfl fun w h => load_one aggI3 h.cs.2.2.2.1) hS ?_
  try simp only [Act.put, sqT, sqZ, sqS]
  refine sqH 3 (.pointer (some ⟨W.heap.size, 5, none⟩)) rfl (Or.inl ⟨by rfl, fun _ _ => by go_simp⟩) hS ?_
  try simp only [Act.put, sqT, sqZ, sqS]
  refine sqH 4 (.int .i64 i5) rfl (yif_load rfl 3 (.tmp 80) rfl _ _ rfl fun w h => load_one aggI3 h.cs.2.2.2.2.2.1) hS ?_
  try simp only [Act.put, sqT, sqZ, sqS]
  refine sqH 6 (.pointer (some ⟨q, 0, none⟩)) rfl (Or.inl ⟨by rfl, fun _ _ => rfl⟩) hS ?_
  try simp only [Act.put, sqT, sqZ, sqS]
  refine sqH 7 (.pointer (some ⟨W.heap.size, 3, none⟩)) rfl (Or.inl ⟨by rfl, fun _ _ => by go_simp⟩) hS ?_
  try simp only [Act.put, sqT, sqZ, sqS]
  refine sqH 8 (.int .i64 i3) rfl (yif_load rfl 3 (.tmp 84) rfl _ _ rfl fun w h => load_one aggI3 h.cs.2.2.2.1) hS ?_
  try simp only [Act.put, sqT, sqZ, sqS]
  refine sqH 9 (.pointer (some ⟨W.heap.size, 5, none⟩)) rfl (Or.inl ⟨by rfl, fun _ _ => by go_simp⟩) hS ?_
  try simp only [Act.put, sqT, sqZ, sqS]
  refine sqH 10 (.int .i64 i5) rfl (yif_load rfl 3 (.tmp 86) rfl _ _ rfl fun w h => load_one aggI3 h.cs.2.2.2.2.2.1) hS ?_
  try simp only [Act.put, sqT, sqZ, sqS]
  refine wpAnyH_all (rs := [5]) (by kernel_rfl) (by simp) fun i hi => ?_
  obtain rfl : i = 5 := by simpa using hi
  refine op_call (om := ⟨_, _, _, _, _, _⟩) (fn := 42) (args := #[.pointer (some ⟨p, 0, none⟩), .int .i64 i3, .int .i64 i5]) (R := fun u W' => u = .int .i64 v ∧ MemAt W' p gb mb G M2 ∧ Keeps (fun k => k = p ∨ k = mb) wd W') rfl rfl (by go_simp)
   (hc.mono fun en W' ⟨he, m, k⟩ => ⟨_, he, rfl, m, k⟩) _ _ rfl rfl ?_
  rintro u w1 ⟨rfl, m1, k1⟩
  have hS : BoxA w1 W.heap.size (⟨3, s1, s2, i3, i4, i5, A, xs, cc⟩ : FAct) := BoxA.keep hS k1 (by omega)
  have r1 := H2.mid k1
  refine ⟨hS, ?_⟩
  try simp only [Act.put, sqT, sqZ, sqS]
  refine wpAnyH_all (rs := [11]) (by kernel_rfl) (by simp) fun i hi => ?_
  obtain rfl : i = 11 := by simpa using hi
  refine op_call (om := ⟨_, _, _, _, _, _⟩) (fn := 43) (args := #[.pointer (some ⟨q, 0, none⟩), .int .i64 i3, .int .i64 i5]) (R := fun u W' => u = .int .i64 v ∧ RefH W' mi q b c d e M2 Gd ∧ Keeps (fun k => k = b) w1 W') rfl rfl (by go_simp)
   ((hd w1 r1).mono fun en W' ⟨he, m, k⟩ => ⟨_, he, rfl, m, k⟩) _ _ rfl rfl ?_
  rintro u w2 ⟨rfl, r2, k2⟩
  have hS : BoxA w2 W.heap.size (⟨3, s1, s2, i3, i4, i5, A, xs, cc⟩ : FAct) := BoxA.keep hS k2 (by omega)
  refine ⟨hS, ?_⟩
  try simp only [Act.put, sqT, sqZ, sqS]
  refine sqH 12 (.bool true) rfl (Or.inl ⟨by rfl, fun _ _ => by go_simp⟩) hS ?_
  try simp only [Act.put, sqT, sqZ, sqS]
  refine sqH 13 (.bool true) rfl (Or.inl ⟨by rfl, fun _ _ => rfl⟩) hS ?_
  try simp only [Act.put, sqT, sqZ, sqS]
  refine wpAnyH_done (by kernel_rfl) ?_ _
  try simp only [Act.put, sqT, sqZ, sqS]
  have HG : Hid (ActR lo w p gb mb mi q b c d e G Gd M (.returned (.bool true)) w2) := ⟨rfl, M2, HOK.out, H2.both m1 k1 r2 k2⟩
  clear hS m1 k1 r1 r2 k2 hc hd H2 kd c0 c1 c2 c3 c4 c5 c6 hbr2
  go_wp2_with fail
  go_ret
  exact HG.out
 by_cases x4 : dd = 4
 ·subst x4
  have t0 : ((4 : Int) == 0) = false := rfl
  have t1 : ((4 : Int) == 1) = false := rfl
  have t2 : ((4 : Int) == 2) = false := rfl
  have t3 : ((4 : Int) == 3) = false := rfl
  have t4 : ((4 : Int) == 4) = true := rfl
  go_wp2_with fail
  refine wp_region_held (S := fun W' => BoxA W' W.heap.size (⟨4, s1, s2, i3, i4, i5, A, xs, cc⟩ : FAct)) (by kernel_rfl) ?_
  change wpAnyH _ _ _ _ _ _ _ _ (W.alloc (.cells #[.int .i64 4, St s1, St s2, .int .i64 i3, .int .i64 i4, .int .i64 i5, .slice A xs.length cc] 33)).drew
  rw [HW.out]
  have kd : Keeps (fun _ => False) wa wa.drew := keeps_below' ((Below.refl _ _).drew)
  have hS := HBX.out.keep kd (fun f => f)
  have H2 := H1.out.new kd
  have hbr2 := kd.br HBR.out fun _ _ _ f => f
  generalize wa.drew = wd at *
  obtain ⟨v, M2, hc, hok, hd⟩ := write_two (mi := mi) (q := q) (b := b) (c := c) (d := d) (e := e) (Gd := Gd) H2.mem H2.tab hmb i3 i4 HA.out.i3_w HA.out.i4_w hbr2 HA.out.cap hxl (fun hne ad e => by have := HLOW.out hne ad e; omega)
  have HOK := Lib.hid hok
  clear hok
  refine sqH 0 (.pointer (some ⟨p, 0, none⟩)) rfl (Or.inl ⟨by rfl, fun _ _ => rfl⟩) hS ?_
  try simp only [Act.put, sqT, sqZ, sqS]
  refine sqH 1 (.pointer (some ⟨W.heap.size, 3, none⟩)) rfl (Or.inl ⟨by rfl, fun _ _ => by go_simp⟩) hS ?_
  try simp only [Act.put, sqT, sqZ, sqS]
  refine sqH 2 (.int .i64 i3) rfl (yif_load rfl 3 (.tmp 93) rfl _ _ rfl fun w h => load_one aggI3 h.cs.2.2.2.1) hS ?_
  try simp only [Act.put, sqT, sqZ, sqS]
  refine sqH 3 (.pointer (some ⟨W.heap.size, 4, none⟩)) rfl (Or.inl ⟨by rfl, fun _ _ => by go_simp⟩) hS ?_
  try simp only [Act.put, sqT, sqZ, sqS]
  refine sqH 4 (.int .i64 i4) rfl (yif_load rfl 3 (.tmp 95) rfl _ _ rfl fun w h => load_one aggI3 h.cs.2.2.2.2.1) hS ?_
  try simp only [Act.put, sqT, sqZ, sqS]
  refine sqH 5 (.pointer (some ⟨W.heap.size, 6, none⟩)) rfl (Or.inl ⟨by rfl, fun _ _ => by go_simp⟩) hS ?_
  try simp only [Act.put, sqT, sqZ, sqS]
  refine sqH 6 (.slice A xs.length cc) rfl (yif_load rfl 31 (.tmp 97) rfl _ _ rfl fun w h => load_one aggB8 h.cs.2.2.2.2.2.2) hS ?_
  try simp only [Act.put, sqT, sqZ, sqS]
  refine sqH 8 (.pointer (some ⟨q, 0, none⟩)) rfl (Or.inl ⟨by rfl, fun _ _ => rfl⟩) hS ?_
  try simp only [Act.put, sqT, sqZ, sqS]
  refine sqH 9 (.pointer (some ⟨W.heap.size, 3, none⟩)) rfl (Or.inl ⟨by rfl, fun _ _ => by go_simp⟩) hS ?_
  try simp only [Act.put, sqT, sqZ, sqS]
  refine sqH 10 (.int .i64 i3) rfl (yif_load rfl 3 (.tmp 101) rfl _ _ rfl fun w h => load_one aggI3 h.cs.2.2.2.1) hS ?_
  try simp only [Act.put, sqT, sqZ, sqS]
  refine sqH 11 (.pointer (some ⟨W.heap.size, 4, none⟩)) rfl (Or.inl ⟨by rfl, fun _ _ => by go_simp⟩) hS ?_
  try simp only [Act.put, sqT, sqZ, sqS]
  refine sqH 12 (.int .i64 i4) rfl (yif_load rfl 3 (.tmp 103) rfl _ _ rfl fun w h => load_one aggI3 h.cs.2.2.2.2.1) hS ?_
  try simp only [Act.put, sqT, sqZ, sqS]
  refine sqH 13 (.pointer (some ⟨W.heap.size, 6, none⟩)) rfl (Or.inl ⟨by rfl, fun _ _ => by go_simp⟩) hS ?_
  try simp only [Act.put, sqT, sqZ, sqS]
  refine sqH 14 (.slice A xs.length cc) rfl (yif_load rfl 31 (.tmp 105) rfl _ _ rfl fun w h => load_one aggB8 h.cs.2.2.2.2.2.2) hS ?_
  try simp only [Act.put, sqT, sqZ, sqS]
  refine wpAnyH_all (rs := [7]) (by kernel_rfl) (by simp) fun i hi => ?_
  obtain rfl : i = 7 := by simpa using hi
  refine op_call (om := ⟨_, _, _, _, _, _⟩) (fn := 30) (args := #[.pointer (some ⟨p, 0, none⟩), .int .i64 i3, .int .i64 i4, .slice A xs.length cc]) (R := fun u W' => u = .int .i64 v ∧ MemAt W' p gb mb G M2 ∧ Keeps (fun k => k = p ∨ k = mb) wd W') rfl rfl (by go_simp)
   (hc.mono fun en W' ⟨he, m, k⟩ => ⟨_, he, rfl, m, k⟩) _ _ rfl rfl ?_
  rintro u w1 ⟨rfl, m1, k1⟩
  have hS : BoxA w1 W.heap.size (⟨4, s1, s2, i3, i4, i5, A, xs, cc⟩ : FAct) := BoxA.keep hS k1 (by omega)
  have r1 := H2.mid k1
  have hbr3 := k1.br hbr2 (fun ad e hne => by have := HLOW.out hne ad e; omega)
  refine ⟨hS, ?_⟩
  try simp only [Act.put, sqT, sqZ, sqS]
  refine wpAnyH_all (rs := [15]) (by kernel_rfl) (by simp) fun i hi => ?_
  obtain rfl : i = 15 := by simpa using hi
  refine op_call (om := ⟨_, _, _, _, _, _⟩) (fn := 44) (args := #[.pointer (some ⟨q, 0, none⟩), .int .i64 i3, .int .i64 i4, .slice A xs.length cc]) (R := fun u W' => u = .int .i64 v ∧ RefH W' mi q b c d e M2 Gd ∧ Keeps (fun k => k = b) w1 W') rfl rfl (by go_simp)
   ((hd w1 r1 hbr3 (fun hne ad e => by have := HLOW.out hne ad e; have := hbs; omega)).mono fun en W' ⟨he, m, k⟩ => ⟨_, he, rfl, m, k⟩) _ _ rfl rfl ?_
  rintro u w2 ⟨rfl, r2, k2⟩
  have hS : BoxA w2 W.heap.size (⟨4, s1, s2, i3, i4, i5, A, xs, cc⟩ : FAct) := BoxA.keep hS k2 (by omega)
  refine ⟨hS, ?_⟩
  try simp only [Act.put, sqT, sqZ, sqS]
  refine sqH 16 (.bool true) rfl (Or.inl ⟨by rfl, fun _ _ => by go_simp⟩) hS ?_
  try simp only [Act.put, sqT, sqZ, sqS]
  refine sqH 17 (.bool true) rfl (Or.inl ⟨by rfl, fun _ _ => rfl⟩) hS ?_
  try simp only [Act.put, sqT, sqZ, sqS]
  refine wpAnyH_done (by kernel_rfl) ?_ _
  try simp only [Act.put, sqT, sqZ, sqS]
  have HG : Hid (ActR lo w p gb mb mi q b c d e G Gd M (.returned (.bool true)) w2) := ⟨rfl, M2, HOK.out, H2.both m1 k1 r2 k2⟩
  clear hS m1 k1 r1 r2 k2 hc hd H2 kd c0 c1 c2 c3 c4 c5 c6 hbr2
  go_wp2_with fail
  go_ret
  exact HG.out
 by_cases x6 : dd = 6
 ·subst x6
  have t0 : ((6 : Int) == 0) = false := rfl
  have t1 : ((6 : Int) == 1) = false := rfl
  have t2 : ((6 : Int) == 2) = false := rfl
  have t3 : ((6 : Int) == 3) = false := rfl
  have t4 : ((6 : Int) == 4) = false := rfl
  have t5 : ((6 : Int) == 5) = false := rfl
  have t6 : ((6 : Int) == 6) = true := rfl
  obtain ⟨n, v, hc, hd⟩ := find_two (mi := mi) (q := q) (b := b) (c := c) (d := d) (e := e) (Gd := Gd) H1.out.mem s1 HA.out.s1_w
  obtain ⟨M2, hM2⟩ : ∃ M2, M2 = M := ⟨_, rfl⟩
  have HOK : Hid (okR (regB M) → okR (regB M2)) := fun h => by rw [hM2]; exact h
  rw [← hM2] at hc hd
  have HC := Lib.hid hc
  have HD := Lib.hid (show ∀ W', RefH W' mi q b c d e M Gd → _ from by rw [← hM2]; exact hd)
  clear hc hd hM2
  go_wp2_with fail
  rw [HW.out]
  refine HC.out.mono ?_
  rintro en w1 ⟨rfl, m1, k1⟩
  have r1 := H1.out.mid k1
  have hb1 := HBX.out.keep k1 (by omega)
  obtain ⟨d0, d1, d2, d3, d4, d5, d6⟩ := hb1.cs
  simp only at d0 d1 d2 d3 d4 d5 d6
  have HD1 := Lib.hid (HD.out w1 r1)
  have HCO := Lib.hid (And.intro m1 k1)
  clear c0 c1 c2 c3 c4 c5 c6 m1 k1 r1 hb1 HC HD HW
  go_wp2_with fail
  refine HD1.out.mono ?_
  rintro en w2 ⟨rfl, r2, k2⟩
  have HG : Hid (ActR lo w p gb mb mi q b c d e G Gd M (.returned (.bool true)) w2) := ⟨rfl, M2, HOK.out, H1.out.both HCO.out.1 HCO.out.2 r2 k2⟩
  clear r2 k2 HD1 HCO
  go_wp2_with fail
  go_ret
  exact HG.out
 by_cases x7 : dd = 7
 ·subst x7
  have t0 : ((7 : Int) == 0) = false := rfl
  have t1 : ((7 : Int) == 1) = false := rfl
  have t2 : ((7 : Int) == 2) = false := rfl
  have t3 : ((7 : Int) == 3) = false := rfl
  have t4 : ((7 : Int) == 4) = false := rfl
  have t5 : ((7 : Int) == 5) = false := rfl
  have t6 : ((7 : Int) == 6) = false := rfl
  have t7 : ((7 : Int) == 7) = true := rfl
  obtain ⟨n, v, hc, hd⟩ := size_two (mi := mi) (q := q) (b := b) (c := c) (d := d) (e := e) (Gd := Gd) H1.out.mem i3 HA.out.i3_w
  obtain ⟨M2, hM2⟩ : ∃ M2, M2 = M := ⟨_, rfl⟩
  have HOK : Hid (okR (regB M) → okR (regB M2)) := fun h => by rw [hM2]; exact h
  rw [← hM2] at hc hd
  have HC := Lib.hid hc
  have HD := Lib.hid (show ∀ W', RefH W' mi q b c d e M Gd → _ from by rw [← hM2]; exact hd)
  clear hc hd hM2
  go_wp2_with fail
  rw [HW.out]
  refine HC.out.mono ?_
  rintro en w1 ⟨rfl, m1, k1⟩
  have r1 := H1.out.mid k1
  have hb1 := HBX.out.keep k1 (by omega)
  obtain ⟨d0, d1, d2, d3, d4, d5, d6⟩ := hb1.cs
  simp only at d0 d1 d2 d3 d4 d5 d6
  have HD1 := Lib.hid (HD.out w1 r1)
  have HCO := Lib.hid (And.intro m1 k1)
  clear c0 c1 c2 c3 c4 c5 c6 m1 k1 r1 hb1 HC HD HW
  go_wp2_with fail
  refine HD1.out.mono ?_
  rintro en w2 ⟨rfl, r2, k2⟩
  have HG : Hid (ActR lo w p gb mb mi q b c d e G Gd M (.returned (.bool true)) w2) := ⟨rfl, M2, HOK.out, H1.out.both HCO.out.1 HCO.out.2 r2 k2⟩
  clear r2 k2 HD1 HCO
  go_wp2_with fail
  go_ret
  exact HG.out
 by_cases x5 : dd = 5
 ·subst x5
  have t0 : ((5 : Int) == 0) = false := rfl
  have t1 : ((5 : Int) == 1) = false := rfl
  have t2 : ((5 : Int) == 2) = false := rfl
  have t3 : ((5 : Int) == 3) = false := rfl
  have t4 : ((5 : Int) == 4) = false := rfl
  have t5 : ((5 : Int) == 5) = true := rfl
  obtain ⟨ys, v, hc, hd⟩ := read_two (mi := mi) (q := q) (b := b) (c := c) (d := d) (e := e) (Gd := Gd) H1.out.mem i3 i4 i5 HA.out.i3_w HA.out.i4_w HA.out.i5_w
  have HC := Lib.hid hc
  have HD := Lib.hid hd
  clear hc hd
  go_wp2_with fail
  rw [HW.out]
  refine HC.out.mono ?_
  rintro en w1 ⟨A1, n1, ⟨rfl, m1, k1⟩, hb1, hn1⟩
  have r1 := H1.out.mid k1
  have hbx1 := HBX.out.keep k1 (by omega)
  obtain ⟨d0, d1, d2, d3, d4, d5, d6⟩ := hbx1.cs
  simp only at d0 d1 d2 d3 d4 d5 d6
  have HD1 := Lib.hid (HD.out w1 r1)
  have HCO := Lib.hid (And.intro m1 k1)
  have HB1 := Lib.hid (And.intro hb1 hn1)
  clear c0 c1 c2 c3 c4 c5 c6 m1 k1 r1 hbx1 HC HD HW hb1 hn1
  go_wp2_with fail
  refine HD1.out.mono ?_
  rintro en w2 ⟨A2, n2, ⟨rfl, r2, k2⟩, hb2⟩
  have hb1' := k2.br HB1.out.1 (fun ad e hne => by have h3 := HB1.out.2 ad e; have h4 := H1.out.bs; omega)
  have cv1 := run_str (P := Tryz.prog) w2 _ 31 9 5 A1 ys n1 hb1' Tryz.underlying31 Tryz.underlying5 Tryz.underlying9
  have cv2 := run_str (P := Tryz.prog) w2 _ 31 9 5 A2 ys n2 hb2 Tryz.underlying31 Tryz.underlying5 Tryz.underlying9
  have HG : Hid (ActR lo w p gb mb mi q b c d e G Gd M (.returned (.bool true)) w2) := ⟨rfl, M, fun h => h, H1.out.both HCO.out.1 HCO.out.2 r2 k2⟩
  have s1' : ((⟨ys.toArray⟩ : ByteArray).toList == (⟨ys.toArray⟩ : ByteArray).toList) = true := by simp
  clear r2 k2 HD1 HCO hb1' hb2 HB1
  go_wp2_with fail
  go_ret
  exact HG.out
 have t0 : (dd == 0) = false := by simp [x0]
 have t1 : (dd == 1) = false := by simp [x1]
 have t2 : (dd == 2) = false := by simp [x2]
 have t3 : (dd == 3) = false := by simp [x3]
 have t4 : (dd == 4) = false := by simp [x4]
 have t5 : (dd == 5) = false := by simp [x5]
 have t6 : (dd == 6) = false := by simp [x6]
 have t7 : (dd == 7) = false := by simp [x7]
 obtain ⟨v, hc, hd⟩ := check_two (mi := mi) (q := q) (b := b) (c := c) (d := d) (e := e) (Gd := Gd) H1.out.mem
 obtain ⟨M2, hM2⟩ : ∃ M2, M2 = M := ⟨_, rfl⟩
 have HOK : Hid (okR (regB M) → okR (regB M2)) := fun h => by rw [hM2]; exact h
 rw [← hM2] at hc hd
 have HC := Lib.hid hc
 have HD := Lib.hid (show ∀ W', RefH W' mi q b c d e M Gd → _ from by rw [← hM2]; exact hd)
 clear hc hd hM2 x0 x1 x2 x3 x4 x5 x6 x7
 go_wp2_with fail
 rw [HW.out]
 refine HC.out.mono ?_
 rintro en w1 ⟨rfl, m1, k1⟩
 have r1 := H1.out.mid k1
 have hb1 := HBX.out.keep k1 (by omega)
 obtain ⟨d0, d1, d2, d3, d4, d5, d6⟩ := hb1.cs
 simp only at d0 d1 d2 d3 d4 d5 d6
 have HD1 := Lib.hid (HD.out w1 r1)
 have HCO := Lib.hid (And.intro m1 k1)
 clear c0 c1 c2 c3 c4 c5 c6 m1 k1 r1 hb1 HC HD HW
 go_wp2_with fail
 refine HD1.out.mono ?_
 rintro en w2 ⟨rfl, r2, k2⟩
 have HG : Hid (ActR lo w p gb mb mi q b c d e G Gd M (.returned (.bool true)) w2) := ⟨rfl, M2, HOK.out, H1.out.both HCO.out.1 HCO.out.2 r2 k2⟩
 clear r2 k2 HD1 HCO
 go_wp2_with fail
 go_ret
 exact HG.out
end Go.Proofs.YtefgabnmcfpdcaaGreatDoor.Fr
