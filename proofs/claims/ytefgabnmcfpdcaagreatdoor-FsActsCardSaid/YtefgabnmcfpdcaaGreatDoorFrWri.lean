/-
  FrWri
-/
import Derived.Test.YtefgabnmcfpdcaaGreatDoorSqz
import Derived.Test.YtefgabnmcfpdcaaGreatDoorFrWriP
namespace Go.Proofs.YtefgabnmcfpdcaaGreatDoor.Fr
open Go.RowKit Ex Ino Mm Fs
set_option linter.unusedVariables false
set_option linter.unusedSimpArgs false
variable {w : World} {mi q b c d e : Nat} {M G : List UInt8}
set_option maxRecDepth 100000 in
theorem rwrite_bad (h : RefH w mi q b c d e M G) (ho : ¬ okR (regB M)) (n a : Int) (A : Option Addr) (len cb : Nat) (hn : -9223372036854775808 ≤ n ∧ n ≤ 9223372036854775807) :
  Calls Tryz.prog 44 #[.pointer (some ⟨q, 0, none⟩), .int .i64 n, .int .i64 a, .slice A len cb] w (RBad w (.int .i64 120)) := by
 have HF := Lib.hid (rnode_any h n hn)
 have HO := Lib.hid ho
 clear h ho
 go_enter Tryz.func44, Tryz.ntmps44
 go_wp2_with fail
 refine HF.out.mono ?_
 rintro en w1 ⟨k1, ⟨hok, -⟩ | ⟨-, rfl⟩⟩
 ·exact absurd hok HO.out
 have HG : Hid (RBad w (.int .i64 120) (.returned (.int .i64 120)) (w1.alloc (.cells #[.string ⟨#[]⟩, .int .i64 0, .slice none 0 0] 123))) := ⟨rfl, k1.trans (Keeps.alloc _ _ _)⟩
 clear k1 HF HO
 go_wp2_with fail
 go_ret
 exact HG.out
def WrL (w : World) (mi q b c d e : Nat) (M G R : List UInt8) (bl : List Nat) (a : Nat) (bb : List UInt8) (w5 : World) (g : Nat) (iv : Value) (wr : World) : Prop :=
 ∃ k, g = bb.length - k ∧ k ≤ bb.length ∧ iv = .int .i64 (k : Int) ∧ RefH wr mi q b c d e (layL M 6144 (wrK R bl a bb k)) G ∧ Keeps (fun k => k = b) w5 wr
theorem br_one {w : World} {ad : Addr} {bb : List UInt8} (h : BR w w.heap.size (some ad) bb) {k : Nat} (hk : k < bb.length) : BR w w.heap.size (some (ad.add k)) [bb.getD k 0] := by
 intro _
 obtain ⟨ad', e, hb, hc⟩ := h (by intro e; rw [e] at hk; simp at hk)
 cases e
 refine ⟨_, rfl, by rw [block_add]; exact hb, fun j u hu => ?_⟩
 cases j with
 | zero =>
  simp only [List.getElem?_cons_zero, Option.some.injEq] at hu
  have e0 : (ad.add k).add 0 = ad.add k := by unfold Addr.add; split <;> simp_all
  rw [e0, ← hu]
  exact hc k _ (by rw [List.getD_eq_getElem?_getD, List.getElem?_eq_getElem hk]; rfl)
 | succ j => simp at hu
set_option maxRecDepth 100000 in
set_option maxHeartbeats 2000000 in
theorem rwrite_any (h : RefH w mi q b c d e M G) (ho : okR (regB M)) (n a : Int) (hn : -9223372036854775808 ≤ n ∧ n ≤ 9223372036854775807) (ha : -9223372036854775808 ≤ a ∧ a ≤ 9223372036854775807) {A : Option Addr} {bb : List UInt8} {cb : Nat} (hb : BR w w.heap.size A bb) (hcb : bb.length ≤ cb) (hbl : bb.length ≤ 140737488355328) (hA : bb ≠ [] → ∀ ad, A = some ad → ad.block ≠ b) :
  Calls Tryz.prog 44 #[.pointer (some ⟨q, 0, none⟩), .int .i64 n, .int .i64 a, .slice A bb.length cb] w (WriR w mi q b c d e M G (writeV ⟨regB M, readN (regB M)⟩ n a bb)) := by
 have HN := Lib.hid (rnode_any h n hn)
 have HO := Lib.hid ho
 have H := Lib.hid h
 have hM : M.length = 8192 := h.bl
 have hgd := good_of hM ho
 have HBB := Lib.hid hb
 have HAA := Lib.hid hA
 clear h ho hb hA
 go_enter Tryz.func44, Tryz.ntmps44
 go_wp2_with fail
 refine HN.out.mono ?_
 rintro en w1 ⟨k1, ⟨-, R, cx, rfl, hx⟩ | ⟨hno, -⟩⟩
 rotate_left
 ·exact absurd HO.out hno
 have hbad : ∀ E : Int, (reachV ⟨regB M, readN (regB M)⟩ n a bb.length).1 = E → E ≠ 0 → ∀ W, RefH W mi q b c d e M G → Keeps (fun k => k = b) w W → WriR w mi q b c d e M G (writeV ⟨regB M, readN (regB M)⟩ n a bb) (.returned (.int .i64 E)) W := fun E hE h0 W hW kW => by
  have : writeV ⟨regB M, readN (regB M)⟩ n a bb = (E, ⟨regB M, readN (regB M)⟩) := by unfold writeV; rw [hE, if_neg h0]
  rw [this]
  exact ⟨rfl, by rw [if_neg h0]; exact hW, kW⟩
 have hba : ∀ W (k : Keeps (fun _ => False) w W), RefH W mi q b c d e M G ∧ Keeps (fun k => k = b) w W := fun W k => ⟨H.out.keep k fun _ _ _ f => f, k.mono fun _ _ f => f.elim⟩
 by_cases hE : nodeE (readN (regB M)) n = 0
 case neg =>
  have hk := hba _ (k1.trans (Keeps.alloc _ _ (.cells #[St (nodeX (readN (regB M)) n).name, .int .i64 (nodeX (readN (regB M)) n).size, .slice R (nodeX (readN (regB M)) n).ext.length cx] 123)))
  have HG := Lib.hid (hbad (nodeE (readN (regB M)) n) (by unfold reachV; rw [if_pos hE]) hE _ hk.1 hk.2)
  have t1 : (nodeE (readN (regB M)) n != 0) = true := by simp [hE]
  clear hbad k1 hx hgd HN HO H hba hk HBB HAA
  generalize writeV ⟨regB M, readN (regB M)⟩ n a bb = rv at *
  generalize nodeX (readN (regB M)) n = x at *
  generalize nodeE (readN (regB M)) n = E at *
  generalize (if E = 0 then (usedN (readN (regB M)) : Int) else 0) = u at *
  clear hE
  go_wp2_with fail
  go_ret
  exact HG.out
 have t1 : (nodeE (readN (regB M)) n != 0) = false := by simp [hE]
 obtain ⟨⟨hn0, hn8⟩, hisF⟩ := nodeE_zero.1 hE
 have hX : nodeX (readN (regB M)) n = at' (readN (regB M)) n.toNat := by unfold nodeX; rw [if_pos hE]
 obtain ⟨i, rfl⟩ := Int.eq_ofNat_of_zero_le hn0
 have hi8 : i < 8 := by omega
 have hX : nodeX (readN (regB M)) (i : Int) = at' (readN (regB M)) i := hX
 rw [hX] at hx
 rw [hX, hE, if_pos rfl]
 change isF (at' (readN (regB M)) i) = true at hisF
 obtain ⟨hok, hbits⟩ := hgd.bits hi8 hisF
 change ok (at' (readN (regB M)) i).ext = true at hok
 have hfew := (inOk_dec (b := page (regB M) (1 + i)) (w := w1) (R := R) (by rw [← readN_at _ hi8]; exact hx)).few
 rw [← readN_at _ hi8] at hfew
 have hsz := hgd.size hi8
 change (0 ≤ (at' (readN (regB M)) i).size ∧ (at' (readN (regB M)) i).size ≤ 1472) ∧ _ ∧ (at' (readN (regB M)) i).size ≤ 64 * (blkO (at' (readN (regB M)) i).ext).length at hsz
 obtain ⟨⟨hs0, hs1⟩, -, hs2⟩ := hsz
 rw [blkO_yes hok] at hs2
 have hRE : reachV ⟨regB M, readN (regB M)⟩ (i : Int) a bb.length = if a < 0 ∨ (at' (readN (regB M)) i).size < a then (1, ⟨regB M, readN (regB M)⟩) else if (at' (readN (regB M)) i).size < a + bb.length then resizeV ⟨regB M, readN (regB M)⟩ (i : Int) (a + bb.length) else (0, ⟨regB M, readN (regB M)⟩) := by
  unfold reachV
  rw [if_neg (by show ¬ nodeE (readN (regB M)) (i : Int) ≠ 0; rw [hE]; decide)]
  simp only [hX]
 obtain ⟨wb, hwb⟩ : ∃ wb, wb = w1.alloc (.cells #[St (at' (readN (regB M)) i).name, .int .i64 (at' (readN (regB M)) i).size, .slice R (at' (readN (regB M)) i).ext.length cx] 123) := ⟨_, rfl⟩
 have k1b : Keeps (fun _ => False) w1 wb := by rw [hwb]; exact Keeps.alloc _ _ _
 have KB := Lib.hid (k1.trans k1b)
 by_cases hr : a < 0 ∨ (at' (readN (regB M)) i).size < a
 ·have hk := hba wb KB.out
  have HG := Lib.hid (hbad 1 (by rw [hRE, if_pos hr]) (by decide) wb hk.1 hk.2)
  rw [hwb] at HG
  by_cases hneg : a < 0
  ·have d1 : decide (a < 0) = true := by simp only [decide_eq_true_eq]; exact hneg
   clear hbad k1 hx hgd HN HO H hRE hisF hE hX hok hbits hfew KB k1b hwb hba hk HBB HAA hs0 hs1 hs2 hr
   generalize writeV ⟨regB M, readN (regB M)⟩ (i : Int) a bb = rv at *
   go_wp2_with fail
   go_ret
   exact HG.out
  ·have d1 : decide (a < 0) = false := by simp only [decide_eq_false_iff_not]; exact hneg
   have d2 : decide ((at' (readN (regB M)) i).size < a) = true := by simp only [decide_eq_true_eq]; omega
   clear hbad k1 hx hgd HN HO H hRE hisF hE hX hok hbits hfew KB k1b hwb hba hk HBB HAA hs0 hs1 hs2 hr
   generalize writeV ⟨regB M, readN (regB M)⟩ (i : Int) a bb = rv at *
   go_wp2_with fail
   go_ret
   exact HG.out
 have d1 : decide (a < 0) = false := by simp only [decide_eq_false_iff_not]; omega
 have d2 : decide ((at' (readN (regB M)) i).size < a) = false := by simp only [decide_eq_false_iff_not]; omega
 rw [if_neg hr] at hRE
 obtain ⟨s, rfl⟩ := Int.eq_ofNat_of_zero_le (show 0 ≤ a by omega)
 have hsle : s ≤ 1472 := by omega
 have q1 : IntKind.i64.wrap ((s : Int) + (bb.length : Int)) = (s : Int) + (bb.length : Int) := by rw [IntKind.wrap_i64]; omega
 have HBX : Hid (BoxN wb w1.heap.size ⟨at' (readN (regB M)) i, R, cx⟩) := by show BoxN _ _ _; rw [hwb]; exact World.alloc_heap_new _ _
 have HXB : Hid (XR wb wb.heap.size R (at' (readN (regB M)) i).ext) := xr_via hx k1b fun _ _ _ f => f
 have hbw : b < w1.heap.size ∧ w.heap.size ≤ w1.heap.size := by have := H.out.lt; have := k1.size; omega
 by_cases hgr : (at' (readN (regB M)) i).size < (s : Int) + (bb.length : Int)
 case neg =>
  have d3 : decide ((at' (readN (regB M)) i).size < (s : Int) + (bb.length : Int)) = false := by simp only [decide_eq_false_iff_not]; exact hgr
  rw [if_neg hgr] at hRE
  obtain ⟨g1, hg1⟩ : ∃ g1 : RG, g1 = ⟨regB M, readN (regB M)⟩ := ⟨_, rfl⟩
  have hgd1 : RGood g1 := by rw [hg1]; exact hgd
  have HVAL : Hid (writeV ⟨regB M, readN (regB M)⟩ (i : Int) (s : Int) bb = (0, putV g1 (i : Int) (s : Int) bb)) := by
   show _ = _
   unfold writeV
   rw [hRE, if_pos rfl, hg1]
  have hX1 : (at' g1.ns i).ext = (at' (readN (regB M)) i).ext := by rw [hg1]
  have hbd : s + bb.length ≤ 64 * (blkL (at' (readN (regB M)) i).ext).length := by omega
  have hrf : RefH wb mi q b c d e (layL M 6144 (bytesL g1)) G := by
   rw [hg1, bytes_same (regB_len hM) HO.out, lay_reg hM]
   exact H.out.keep KB.out fun _ _ _ f => f
  have H0 := Lib.hid hrf
  have K0 : Hid (Keeps (fun k => k = b) w wb) := KB.out.mono fun _ _ f => f.elim
  have HC2 := Lib.hid (HBX.out.c.2.2)
  have hc2 := HBX.out.c.2.2
  have hc1 := HBX.out.c.2.1
  clear hbad k1 hx hgd HN H hRE hisF hE hX hbits KB k1b hba hs0 hs1 hs2 hr hg1 hrf hgr
  generalize hXX : (at' (readN (regB M)) i).ext = X at *
  have HOKX := Lib.hid hok
  have HFW := Lib.hid hfew
  have HBL := Lib.hid (rblocks_any R X cx wb HXB.out hfew)
  clear HXB HBX
  go_wp2_with fail
  rw [← hwb]
  clear hwb
  refine HBL.out.mono ?_
  rintro en w5 ⟨Rl, cl, rfl, own5, b5⟩
  rw [blkO_yes HOKX.out] at own5 ⊢
  have K5 := Lib.hid (K0.out.trans (keeps_below' b5))
  have H5 := Lib.hid (H0.out.keep (keeps_below' (F := fun _ => False) b5) fun _ _ _ f => f)
  have OW := Lib.hid own5
  have hnb : ∀ ad, Rl = some ad → ad.block ≠ b := fun ad e => by
   have h1 := World.ownsRow.lt own5 ad.block (by rw [e]; rfl)
   have h2 := H0.out.lt
   omega
  have HB5 := Lib.hid fun (wr : World) (k : Keeps (fun k => k = b) w5 wr) => (K5.out.trans k).br HBB.out (fun ad e hne => HAA.out hne ad e)
  have HC0 : Hid (WrL w mi q b c d e M G (bytesL g1) (blkL X) s bb w5 bb.length (.int .i64 0) w5) := ⟨0, by omega, by omega, rfl, H5.out, Keeps.refl _ _⟩
  have HWB := Lib.hid (wr_bytes hgd1.bl hgd1.nl hX1 HOKX.out s bb hbd)
  have hgg := ok_good X HOKX.out
  have hg32 : ∀ x ∈ blkL X, x < 32 := fun x hx => (hgg.2 x hx).2
  have hbl1 := bytesL_len hgd1.bl hgd1.nl
  clear own5 b5 HBL hX1
  go_wp2_with fail
  go_loopg [15, 16, 67] bb.length (fun g _ _ k wr => WrL w mi q b c d e M G (bytesL g1) (blkL X) s bb w5 g k wr)
  case atStart => exact HC0.out
  case round =>
   obtain ⟨k, rfl, hk, rfl, hrf, kw⟩ := hrel
   clear HC0
   by_cases hkl : k < bb.length
   ·have hbr := HB5.out wr kw
    obtain ⟨ad, rfl, -, -⟩ := hbr (by intro e; rw [e] at hkl; simp at hkl)
    obtain ⟨J, hJ⟩ : ∃ J, J = (s + k) / 64 := ⟨_, rfl⟩
    obtain ⟨r, hr⟩ : ∃ r, r = (s + k) % 64 := ⟨_, rfl⟩
    have hJl : J < (blkL X).length := by omega
    obtain ⟨gl, rfl, hgl, hcl⟩ := OW.out.ir J (blkL X)[J] (List.getElem?_eq_getElem hJl)
    have hgb : gl ≠ b := hnb _ rfl
    have hgt : (blkL X).getD J 0 = (blkL X)[J] := by rw [List.getD_eq_getElem?_getD, List.getElem?_eq_getElem hJl]; rfl
    have hL32 := hg32 _ (List.getElem_mem hJl)
    have hstep : splice (wrK (bytesL g1) (blkL X) s bb k) ((blkL X)[J] * 64 + r) [bb.getD k 0] = wrK (bytesL g1) (blkL X) s bb (k + 1) := by
     rw [← hgt, hJ, hr]
     rfl
    have hwl := wrK_len (a := s) (b := bb) hbl1 hg32 k (by omega)
    obtain ⟨wd, hwd⟩ : ∃ wd, wd = wr.drew := ⟨_, rfl⟩
    have kd : Keeps (fun _ => False) wr wd := by rw [hwd]; exact keeps_below' ((Below.refl _ _).drew)
    have hrd := hrf.keep kd fun _ _ _ f => f
    have kwd := kw.trans (kd.mono (G := fun k => k = b) fun _ _ f => f.elim)
    have hly := rlayH_at hrd (6144 + (((blkL X)[J] * 64 + r : Nat) : Int)) (by omega) (by omega) (some (ad.add k)) [bb.getD k 0] (cb - k) (br_one (HB5.out wd kwd) hkl) (fun ad' e1 _ => by cases e1; rw [block_add]; exact HAA.out (by intro e; rw [e] at hkl; simp at hkl) _ rfl) (by simp)
    rw [lay_in hM hwl (by rw [List.length_singleton]; omega), hstep, List.length_singleton] at hly
    have HLY := Lib.hid hly
    have KW := Lib.hid kwd
    have hS : wd.cell? ⟨gl, J, none⟩ = some (.int .i64 ((blkL X)[J] : Int)) := (kwd.cell gl J hgl hgb).trans hcl
    have hgd : gl < wd.heap.size := by have := kwd.size; omega
    have d4 : decide ((k : Int) < (bb.length : Int)) = true := by simp only [decide_eq_true_eq]; omega
    have v0 : IntKind.i64.wrap ((s : Int) + (k : Int)) = (s : Int) + (k : Int) := by rw [IntKind.wrap_i64]; omega
    have q3 : IntKind.i64.wrap ((k : Int) + 1) = (k : Int) + 1 := by rw [IntKind.wrap_i64]; omega
    have v1 : IntKind.i64.wrap (((blkL X)[J] : Int) * 64) = ((blkL X)[J] : Int) * 64 := by rw [IntKind.wrap_i64]; omega
    have v2 : IntKind.i64.wrap (6144 + ((blkL X)[J] : Int) * 64) = 6144 + ((blkL X)[J] : Int) * 64 := by rw [IntKind.wrap_i64]; omega
    have v3 : IntKind.i64.wrap (6144 + ((blkL X)[J] : Int) * 64 + (r : Int)) = 6144 + (((blkL X)[J] * 64 + r : Nat) : Int) := by rw [IntKind.wrap_i64]; omega
    have e1 : ((s : Int) + (k : Int)) / 64 = (J : Int) := by omega
    have e2 : ((s : Int) + (k : Int)) % 64 = (r : Int) := by omega
    have e5 : ((s : Int) + (k : Int)).tdiv 64 = (J : Int) := by rw [Int.tdiv_eq_ediv_of_nonneg (by omega)]; exact e1
    have e6 : ((s : Int) + (k : Int)).tmod 64 = (r : Int) := by rw [Int.tmod_eq_emod_of_nonneg (by omega)]; exact e2
    have p4 : cb ≠ k := by omega
    have p5 : (0 : Int) ≤ (k : Int) + 1 := by omega
    have e3 : IntKind.i64.wrap (J : Int) = (J : Int) := by rw [IntKind.wrap_i64]; omega
    have e4 : IntKind.i64.wrap (r : Int) = (r : Int) := by rw [IntKind.wrap_i64]; omega
    have p0 : (0 : Int) ≤ J := by omega
    have p1 : (J : Int) < ((blkL X).length : Int) := by omega
    have p2 : (0 : Int) ≤ k := by omega
    have p3 : (k : Int) + 1 ≤ (cb : Int) := by omega
    clear hrf kw hJ hr hgt hstep hwl kd hrd kwd hly hbr hcl
    generalize (blkL X)[J] = L at *
    go_wp2_with fail
    refine wp_region_held (S := fun W => W.cell? ⟨gl, J, none⟩ = some (.int .i64 (L : Int))) (by kernel_rfl) ?_
    change wpAnyH _ _ _ _ _ _ _ _ wr.drew
    rw [← hwd]
    refine sqH 0 (.pointer (some ⟨q, 0, none⟩)) rfl (Or.inl ⟨by rfl, fun _ _ => rfl⟩) hS ?_
    try simp only [Act.put, sqT, sqZ, sqS]
    refine sqH 1 (.slice (some ⟨gl, 0, none⟩) (blkL X).length cl) rfl (Or.inl ⟨by rfl, fun _ _ => rfl⟩) hS ?_
    try simp only [Act.put, sqT, sqZ, sqS]
    refine sqH 2 (.int .i64 ((s : Int) + (k : Int))) rfl (Or.inl ⟨by rfl, fun _ _ => rfl⟩) hS ?_
    try simp only [Act.put, sqT, sqZ, sqS]
    refine sqH 3 (.int .i64 (J : Int)) rfl (Or.inl ⟨by rfl, fun _ _ => by go_simp⟩) hS ?_
    try simp only [Act.put, sqT, sqZ, sqS]
    refine sqH 4 (.pointer (some ⟨gl, J, none⟩)) rfl (Or.inl ⟨by rfl, fun _ _ => by go_simp⟩) hS ?_
    try simp only [Act.put, sqT, sqZ, sqS]
    refine sqH 5 (.int .i64 (L : Int)) rfl (yif_load rfl 3 (.tmp 77) rfl _ _ rfl fun w h => load_one aggI3 h) hS ?_
    try simp only [Act.put, sqT, sqZ, sqS]
    refine sqH 6 (.int .i64 ((L : Int) * 64)) rfl (Or.inl ⟨by rfl, fun _ _ => by go_simp⟩) hS ?_
    try simp only [Act.put, sqT, sqZ, sqS]
    refine sqH 7 (.int .i64 (6144 + (L : Int) * 64)) rfl (Or.inl ⟨by rfl, fun _ _ => by go_simp⟩) hS ?_
    try simp only [Act.put, sqT, sqZ, sqS]
    refine sqH 8 (.int .i64 ((s : Int) + (k : Int))) rfl (Or.inl ⟨by rfl, fun _ _ => rfl⟩) hS ?_
    try simp only [Act.put, sqT, sqZ, sqS]
    refine sqH 9 (.int .i64 (r : Int)) rfl (Or.inl ⟨by rfl, fun _ _ => by go_simp⟩) hS ?_
    try simp only [Act.put, sqT, sqZ, sqS]
    refine sqH 10 (.int .i64 (6144 + ((L * 64 + r : Nat) : Int))) rfl (Or.inl ⟨by rfl, fun _ _ => by go_simp⟩) hS ?_
    try simp only [Act.put, sqT, sqZ, sqS]
    refine sqH 11 (.slice (some ad) bb.length cb) rfl (Or.inl ⟨by rfl, fun _ _ => rfl⟩) hS ?_
    try simp only [Act.put, sqT, sqZ, sqS]
    refine sqH 12 (.int .i64 (k : Int)) rfl (Or.inl ⟨by rfl, fun _ _ => rfl⟩) hS ?_
    try simp only [Act.put, sqT, sqZ, sqS]
    refine sqH 13 (.int .i64 (k : Int)) rfl (Or.inl ⟨by rfl, fun _ _ => rfl⟩) hS ?_
    try simp only [Act.put, sqT, sqZ, sqS]
    refine sqH 14 (.int .i64 ((k : Int) + 1)) rfl (Or.inl ⟨by rfl, fun _ _ => by go_simp⟩) hS ?_
    try simp only [Act.put, sqT, sqZ, sqS]
    refine sqH 15 (.slice (some (ad.add k)) 1 (cb - k)) rfl (Or.inl ⟨by rfl, fun _ _ => by go_simp⟩) hS ?_
    try simp only [Act.put, sqT, sqZ, sqS]
    refine wpAnyH_all (rs := [16]) (by kernel_rfl) (by simp) fun i hi => ?_
    obtain rfl : i = 16 := by simpa using hi
    refine op_call (om := ⟨_, _, _, _, _, _⟩) (fn := 96) (args := #[.pointer (some ⟨q, 0, none⟩), .int .i64 (6144 + ((L * 64 + r : Nat) : Int)), .slice (some (ad.add k)) 1 (cb - k)]) (R := fun u W' => u = .tuple #[] ∧ RefH W' mi q b c d e (layL M 6144 (wrK (bytesL g1) (blkL X) s bb (k + 1))) G ∧ Keeps (fun k => k = b) wd W') rfl rfl (by go_simp)
     (HLY.out.mono fun e W' ⟨he, h1, h2⟩ => ⟨_, he, rfl, h1, h2⟩) _ _ rfl rfl ?_
    rintro u w6 ⟨rfl, h6, k6⟩
    have hS : w6.cell? ⟨gl, J, none⟩ = some (.int .i64 (L : Int)) := (k6.cell gl J hgd hgb).trans hS
    refine ⟨hS, ?_⟩
    try simp only [Act.put, sqT, sqZ, sqS]
    refine wpAnyH_done (by kernel_rfl) ?_ _
    try simp only [Act.put, sqT, sqZ, sqS]
    have HRR : Hid (WrL w mi q b c d e M G (bytesL g1) (blkL X) s bb w5 (bb.length - (k + 1)) (.int .i64 ((k : Int) + 1)) w6) := ⟨k + 1, rfl, by omega, by rw [Int.natCast_add]; rfl, h6, KW.out.trans k6⟩
    clear h6 k6 HLY KW hS
    go_wp2_with fail
    go_roundg (bb.length - (k + 1))
    case rel => exact HRR.out
    case measure => omega
   ·obtain rfl : k = bb.length := by omega
    have d4 : decide ((bb.length : Int) < (bb.length : Int)) = false := by simp
    have HG : Hid (WriR w mi q b c d e M G (writeV ⟨regB M, readN (regB M)⟩ (i : Int) (s : Int) bb) (.returned (.int .i64 0)) wr) := by
     rw [HVAL.out]
     refine ⟨rfl, ?_, K5.out.trans kw⟩
     rw [if_pos rfl, ← HWB.out]
     exact hrf
    clear hrf kw HB5 OW
    go_wp2_with fail
    go_ret
    exact HG.out
 have d3 : decide ((at' (readN (regB M)) i).size < (s : Int) + (bb.length : Int)) = true := by simp only [decide_eq_true_eq]; exact hgr
 rw [if_pos hgr] at hRE
 have hrz := rresize_any (H.out.keep KB.out fun _ _ _ f => f) HO.out (i : Int) ((s : Int) + (bb.length : Int)) (by omega) (by omega)
 have hc1 := HBX.out.c.2.1
 obtain ⟨rv, hrv⟩ : ∃ rv, rv = resizeV ⟨regB M, readN (regB M)⟩ (i : Int) ((s : Int) + (bb.length : Int)) := ⟨_, rfl⟩
 rw [← hrv] at hrz hRE
 have HRZ := Lib.hid hrz
 clear hrz
 by_cases h0 : rv.1 = 0
 case neg =>
  have HBAD := Lib.hid (hbad rv.1 (by rw [hRE]) h0)
  have t2 : (rv.1 != 0) = true := by simp [h0]
  clear hbad k1 hx hgd HN hRE hisF hE hX hok hbits hfew k1b hba HBB HAA hs0 hs1 hs2 hr h0 HXB hrv hgr
  obtain ⟨E, g2⟩ := rv
  generalize writeV ⟨regB M, readN (regB M)⟩ (i : Int) (s : Int) bb = vv at *
  go_wp2_with fail
  rw [← hwb]
  clear hwb
  go_wp2_with fail
  refine HRZ.out.mono ?_
  rintro en w2 ⟨rfl, h2, k2⟩
  have hz : ¬ ((E, g2) : Int × RG).1 = 0 := by simpa using t2
  rw [if_neg hz] at h2
  have HG := Lib.hid (HBAD.out w2 h2 ((KB.out.mono fun _ _ f => f.elim).trans k2))
  clear HBAD h2 k2 HRZ hz
  go_wp2_with fail
  go_ret
  exact HG.out
 obtain ⟨E, g1⟩ := rv
 change E = 0 at h0
 subst h0
 have hre : resizeE ⟨regB M, readN (regB M)⟩ (i : Int) ((s : Int) + (bb.length : Int)) = 0 := by
  unfold resizeV at hrv
  by_cases h : resizeE ⟨regB M, readN (regB M)⟩ (i : Int) ((s : Int) + (bb.length : Int)) = 0
  ·exact h
  ·rw [if_neg h] at hrv
   exact absurd (congrArg Prod.fst hrv).symm h
 have hg1 : g1 = resizeG ⟨regB M, readN (regB M)⟩ (i : Int) ((s : Int) + (bb.length : Int)) := by
  unfold resizeV at hrv
  rw [if_pos hre] at hrv
  exact congrArg Prod.snd hrv
 have hgd1 : RGood g1 := by rw [hg1]; exact (resize_good hgd hre).2.2.2.2
 have HVAL : Hid (writeV ⟨regB M, readN (regB M)⟩ (i : Int) (s : Int) bb = (0, putV g1 (i : Int) (s : Int) bb)) := by
  show _ = _
  unfold writeV
  rw [hRE, if_pos rfl]
 have hns : at' g1.ns i = ⟨(at' (readN (regB M)) i).name, (s : Int) + (bb.length : Int), fitX (at' (readN (regB M)) i).ext (usedN (readN (regB M))) (needI ((s : Int) + (bb.length : Int))).toNat⟩ := by
  rw [hg1, resizeG_ns]
  show at' ((readN (regB M)).set (i : Int).toNat _) i = _
  rw [Int.toNat_natCast, at_set _ (by rw [readN_len]; exact hi8), if_pos rfl, hX]
 obtain ⟨ho1, hr1, hr2⟩ := reread hM hgd1
 have ho1 : okR (regB (layL M 6144 (bytesL g1))) := ho1
 have hnn : readN (regB (layL M 6144 (bytesL g1))) = g1.ns := by rw [hr1, hr2]
 have hne : (at' (readN (regB M)) i).name ≠ [] := by simpa [isF] using hisF
 have hE1 : nodeE g1.ns (i : Int) = 0 := by unfold nodeE; rw [if_neg (by omega), show ((i : Int)).toNat = i by omega, if_neg (by rw [hns]; exact hne)]
 have hX1' : nodeX g1.ns (i : Int) = at' g1.ns i := by unfold nodeX; rw [if_pos hE1]; rfl
 have hsz1 := hgd1.size hi8
 have hokx : ok (at' g1.ns i).ext = true := (hgd1.bits hi8 (by rw [hns]; simpa [isF] using hne)).1
 rw [blkO_yes hokx] at hsz1
 have hfew1 : (at' g1.ns i).ext.length ≤ 100 := by have := ok_few hokx; omega
 have hbd : s + bb.length ≤ 64 * (blkL (at' g1.ns i).ext).length := by
  have := hsz1.2.2
  rw [show (at' g1.ns i).size = (s : Int) + (bb.length : Int) by rw [hns]] at this
  omega
 have HNO := Lib.hid ho1
 have HE1 := Lib.hid hE1
 have HX1 := Lib.hid hX1'
 have HNN := Lib.hid hnn
 have HR1 := Lib.hid hr1
 clear hbad k1 hx hgd HN hRE hisF hE hX hok hbits hfew k1b hba hs0 hs1 hs2 hr HXB hrv hgr hre hg1 ho1 hr1 hr2 hnn hE1 hX1' hsz1 hne hns
 go_wp2_with fail
 rw [← hwb]
 clear hwb
 go_wp2_with fail
 refine HRZ.out.mono ?_
 rintro en w2 ⟨rfl, h2, k2⟩
 rw [if_pos rfl] at h2
 have h2 : RefH w2 mi q b c d e (layL M 6144 (bytesL g1)) G := h2
 have hn2 := rnode_any h2 (i : Int) (by omega)
 have HN2 := Lib.hid hn2
 have H2 := Lib.hid h2
 have K2 := Lib.hid k2
 clear hn2 h2 k2 HRZ
 go_wp2_with fail
 refine HN2.out.mono ?_
 rintro en w3 ⟨k3, ⟨-, R3, c3, rfl, hx3⟩ | ⟨hno, -⟩⟩
 rotate_left
 ·exact absurd HNO.out hno
 rw [HNN.out, HE1.out, HX1.out, if_pos rfl]
 rw [HNN.out, HX1.out] at hx3
 have hB : w1.heap.size ≠ b := by omega
 have hbx2 : BoxN w2 w1.heap.size ⟨at' (readN (regB M)) i, R, cx⟩ := (K2.out.block _ HBX.out.lt (fun e => hB e)).trans HBX.out
 have hbx3 : BoxN w3 w1.heap.size ⟨at' (readN (regB M)) i, R, cx⟩ := (k3.block _ hbx2.lt (fun f => f)).trans hbx2
 have hb1 : w3.heap[w1.heap.size]? = some (.cells #[St (at' (readN (regB M)) i).name, .int .i64 (at' (readN (regB M)) i).size, .slice R (at' (readN (regB M)) i).ext.length cx] 123 (0, 0)) := hbx3
 have sr := run_storeAt_mid (P := Tryz.prog) w3 w1.heap.size 0 123 #[St (at' g1.ns i).name, .int .i64 (at' g1.ns i).size, .slice R3 (at' g1.ns i).ext.length c3] (there_cells (zs := [_, _, _]) hb1 0 3 (by simp)) size_i (by simp [Value.oneCell'])
 obtain ⟨hz1, ks⟩ := setCells_cells (zs := [_, _, _]) (ys := [St (at' g1.ns i).name, .int .i64 (at' g1.ns i).size, .slice R3 (at' g1.ns i).ext.length c3]) hb1 rfl
 generalize hwz : w3.setCells w1.heap.size 0 _ = wz at sr hz1 ks
 have hc2 : wz.cell? ⟨w1.heap.size, 2, none⟩ = some (.slice R3 (at' g1.ns i).ext.length c3) := by rw [cell_of_row _ _ _ _ _ _ hz1]; rfl
 have hlt0 := H.out.lt
 have hrf : RefH wz mi q b c d e (layL M 6144 (bytesL g1)) G := Fr.RefH.keep3 (H2.out.keep k3 fun _ _ _ f => f) ks (by omega) (by omega) (by omega)
 have K0 : Hid (Keeps (fun k => k = b) w wz) := Keeps.thru (((KB.out.mono (G := fun k => k = b) fun _ _ f => f.elim).trans K2.out).trans (k3.mono (G := fun k => k = b) fun _ _ f => f.elim)) ks (fun _ _ e => e) (fun j hj e => by omega)
 have H0 := Lib.hid hrf
 have hxz : XR wz wz.heap.size R3 (at' g1.ns i).ext := xr_via hx3 ks fun hn ad e => xr_nobox hbx3 hx3 hn ad e
 have SR := Lib.hid sr
 clear hx3 hbx2 hbx3 hb1 sr hz1 ks k3 HN2 H2 K2 HBX hwz
 go_wp2_with (first
  | ((with_reducible refine at_ (op := .store 123 (.tmp 9) (.tmp 56)) ?_); refine wpList_unit rfl (ex_store 123 (.tmp 9) (.tmp 56) rfl _ _ rfl rfl SR.out) ?_)
  | fail)
 generalize hXX : (at' g1.ns i).ext = X at *
 have hX1 : (at' g1.ns i).ext = X := hXX
 have HOKX := Lib.hid hokx
 have HBL := Lib.hid (rblocks_any R3 X c3 wz hxz hfew1)
 clear hrf hxz SR hXX
 refine HBL.out.mono ?_
 rintro en w5 ⟨Rl, cl, rfl, own5, b5⟩
 rw [blkO_yes HOKX.out] at own5 ⊢
 have K5 := Lib.hid (K0.out.trans (keeps_below' b5))
 have H5 := Lib.hid (H0.out.keep (keeps_below' (F := fun _ => False) b5) fun _ _ _ f => f)
 have OW := Lib.hid own5
 have hnb : ∀ ad, Rl = some ad → ad.block ≠ b := fun ad e => by
  have h1 := World.ownsRow.lt own5 ad.block (by rw [e]; rfl)
  have h2 := H0.out.lt
  omega
 have HB5 := Lib.hid fun (wr : World) (k : Keeps (fun k => k = b) w5 wr) => (K5.out.trans k).br HBB.out (fun ad e hne => HAA.out hne ad e)
 have HC0 : Hid (WrL w mi q b c d e M G (bytesL g1) (blkL X) s bb w5 bb.length (.int .i64 0) w5) := ⟨0, by omega, by omega, rfl, H5.out, Keeps.refl _ _⟩
 have HWB := Lib.hid (wr_bytes hgd1.bl hgd1.nl hX1 HOKX.out s bb hbd)
 have hgg := ok_good X HOKX.out
 have hg32 : ∀ x ∈ blkL X, x < 32 := fun x hx => (hgg.2 x hx).2
 have hbl1 := bytesL_len hgd1.bl hgd1.nl
 clear own5 b5 HBL hX1
 go_wp2_with fail
 go_loopg [15, 16, 67] bb.length (fun g _ _ k wr => WrL w mi q b c d e M G (bytesL g1) (blkL X) s bb w5 g k wr)
 case atStart => exact HC0.out
 case round =>
  obtain ⟨k, rfl, hk, rfl, hrf, kw⟩ := hrel
  clear HC0
  by_cases hkl : k < bb.length
  ·have hbr := HB5.out wr kw
   obtain ⟨ad, rfl, -, -⟩ := hbr (by intro e; rw [e] at hkl; simp at hkl)
   obtain ⟨J, hJ⟩ : ∃ J, J = (s + k) / 64 := ⟨_, rfl⟩
   obtain ⟨r, hr⟩ : ∃ r, r = (s + k) % 64 := ⟨_, rfl⟩
   have hJl : J < (blkL X).length := by omega
   obtain ⟨gl, rfl, hgl, hcl⟩ := OW.out.ir J (blkL X)[J] (List.getElem?_eq_getElem hJl)
   have hgb : gl ≠ b := hnb _ rfl
   have hgt : (blkL X).getD J 0 = (blkL X)[J] := by rw [List.getD_eq_getElem?_getD, List.getElem?_eq_getElem hJl]; rfl
   have hL32 := hg32 _ (List.getElem_mem hJl)
   have hstep : splice (wrK (bytesL g1) (blkL X) s bb k) ((blkL X)[J] * 64 + r) [bb.getD k 0] = wrK (bytesL g1) (blkL X) s bb (k + 1) := by
    rw [← hgt, hJ, hr]
    rfl
   have hwl := wrK_len (a := s) (b := bb) hbl1 hg32 k (by omega)
   obtain ⟨wd, hwd⟩ : ∃ wd, wd = wr.drew := ⟨_, rfl⟩
   have kd : Keeps (fun _ => False) wr wd := by rw [hwd]; exact keeps_below' ((Below.refl _ _).drew)
   have hrd := hrf.keep kd fun _ _ _ f => f
   have kwd := kw.trans (kd.mono (G := fun k => k = b) fun _ _ f => f.elim)
   have hly := rlayH_at hrd (6144 + (((blkL X)[J] * 64 + r : Nat) : Int)) (by omega) (by omega) (some (ad.add k)) [bb.getD k 0] (cb - k) (br_one (HB5.out wd kwd) hkl) (fun ad' e1 _ => by cases e1; rw [block_add]; exact HAA.out (by intro e; rw [e] at hkl; simp at hkl) _ rfl) (by simp)
   rw [lay_in hM hwl (by rw [List.length_singleton]; omega), hstep, List.length_singleton] at hly
   have HLY := Lib.hid hly
   have KW := Lib.hid kwd
   have hS : wd.cell? ⟨gl, J, none⟩ = some (.int .i64 ((blkL X)[J] : Int)) := (kwd.cell gl J hgl hgb).trans hcl
   have hgd : gl < wd.heap.size := by have := kwd.size; omega
   have d4 : decide ((k : Int) < (bb.length : Int)) = true := by simp only [decide_eq_true_eq]; omega
   have v0 : IntKind.i64.wrap ((s : Int) + (k : Int)) = (s : Int) + (k : Int) := by rw [IntKind.wrap_i64]; omega
   have q3 : IntKind.i64.wrap ((k : Int) + 1) = (k : Int) + 1 := by rw [IntKind.wrap_i64]; omega
   have v1 : IntKind.i64.wrap (((blkL X)[J] : Int) * 64) = ((blkL X)[J] : Int) * 64 := by rw [IntKind.wrap_i64]; omega
   have v2 : IntKind.i64.wrap (6144 + ((blkL X)[J] : Int) * 64) = 6144 + ((blkL X)[J] : Int) * 64 := by rw [IntKind.wrap_i64]; omega
   have v3 : IntKind.i64.wrap (6144 + ((blkL X)[J] : Int) * 64 + (r : Int)) = 6144 + (((blkL X)[J] * 64 + r : Nat) : Int) := by rw [IntKind.wrap_i64]; omega
   have e1 : ((s : Int) + (k : Int)) / 64 = (J : Int) := by omega
   have e2 : ((s : Int) + (k : Int)) % 64 = (r : Int) := by omega
   have e5 : ((s : Int) + (k : Int)).tdiv 64 = (J : Int) := by rw [Int.tdiv_eq_ediv_of_nonneg (by omega)]; exact e1
   have e6 : ((s : Int) + (k : Int)).tmod 64 = (r : Int) := by rw [Int.tmod_eq_emod_of_nonneg (by omega)]; exact e2
   have p4 : cb ≠ k := by omega
   have p5 : (0 : Int) ≤ (k : Int) + 1 := by omega
   have e3 : IntKind.i64.wrap (J : Int) = (J : Int) := by rw [IntKind.wrap_i64]; omega
   have e4 : IntKind.i64.wrap (r : Int) = (r : Int) := by rw [IntKind.wrap_i64]; omega
   have p0 : (0 : Int) ≤ J := by omega
   have p1 : (J : Int) < ((blkL X).length : Int) := by omega
   have p2 : (0 : Int) ≤ k := by omega
   have p3 : (k : Int) + 1 ≤ (cb : Int) := by omega
   clear hrf kw hJ hr hgt hstep hwl kd hrd kwd hly hbr hcl
   generalize (blkL X)[J] = L at *
   go_wp2_with fail
   refine wp_region_held (S := fun W => W.cell? ⟨gl, J, none⟩ = some (.int .i64 (L : Int))) (by kernel_rfl) ?_
   change wpAnyH _ _ _ _ _ _ _ _ wr.drew
   rw [← hwd]
   refine sqH 0 (.pointer (some ⟨q, 0, none⟩)) rfl (Or.inl ⟨by rfl, fun _ _ => rfl⟩) hS ?_
   try simp only [Act.put, sqT, sqZ, sqS]
   refine sqH 1 (.slice (some ⟨gl, 0, none⟩) (blkL X).length cl) rfl (Or.inl ⟨by rfl, fun _ _ => rfl⟩) hS ?_
   try simp only [Act.put, sqT, sqZ, sqS]
   refine sqH 2 (.int .i64 ((s : Int) + (k : Int))) rfl (Or.inl ⟨by rfl, fun _ _ => rfl⟩) hS ?_
   try simp only [Act.put, sqT, sqZ, sqS]
   refine sqH 3 (.int .i64 (J : Int)) rfl (Or.inl ⟨by rfl, fun _ _ => by go_simp⟩) hS ?_
   try simp only [Act.put, sqT, sqZ, sqS]
   refine sqH 4 (.pointer (some ⟨gl, J, none⟩)) rfl (Or.inl ⟨by rfl, fun _ _ => by go_simp⟩) hS ?_
   try simp only [Act.put, sqT, sqZ, sqS]
   refine sqH 5 (.int .i64 (L : Int)) rfl (yif_load rfl 3 (.tmp 77) rfl _ _ rfl fun w h => load_one aggI3 h) hS ?_
   try simp only [Act.put, sqT, sqZ, sqS]
   refine sqH 6 (.int .i64 ((L : Int) * 64)) rfl (Or.inl ⟨by rfl, fun _ _ => by go_simp⟩) hS ?_
   try simp only [Act.put, sqT, sqZ, sqS]
   refine sqH 7 (.int .i64 (6144 + (L : Int) * 64)) rfl (Or.inl ⟨by rfl, fun _ _ => by go_simp⟩) hS ?_
   try simp only [Act.put, sqT, sqZ, sqS]
   refine sqH 8 (.int .i64 ((s : Int) + (k : Int))) rfl (Or.inl ⟨by rfl, fun _ _ => rfl⟩) hS ?_
   try simp only [Act.put, sqT, sqZ, sqS]
   refine sqH 9 (.int .i64 (r : Int)) rfl (Or.inl ⟨by rfl, fun _ _ => by go_simp⟩) hS ?_
   try simp only [Act.put, sqT, sqZ, sqS]
   refine sqH 10 (.int .i64 (6144 + ((L * 64 + r : Nat) : Int))) rfl (Or.inl ⟨by rfl, fun _ _ => by go_simp⟩) hS ?_
   try simp only [Act.put, sqT, sqZ, sqS]
   refine sqH 11 (.slice (some ad) bb.length cb) rfl (Or.inl ⟨by rfl, fun _ _ => rfl⟩) hS ?_
   try simp only [Act.put, sqT, sqZ, sqS]
   refine sqH 12 (.int .i64 (k : Int)) rfl (Or.inl ⟨by rfl, fun _ _ => rfl⟩) hS ?_
   try simp only [Act.put, sqT, sqZ, sqS]
   refine sqH 13 (.int .i64 (k : Int)) rfl (Or.inl ⟨by rfl, fun _ _ => rfl⟩) hS ?_
   try simp only [Act.put, sqT, sqZ, sqS]
   refine sqH 14 (.int .i64 ((k : Int) + 1)) rfl (Or.inl ⟨by rfl, fun _ _ => by go_simp⟩) hS ?_
   try simp only [Act.put, sqT, sqZ, sqS]
   refine sqH 15 (.slice (some (ad.add k)) 1 (cb - k)) rfl (Or.inl ⟨by rfl, fun _ _ => by go_simp⟩) hS ?_
   try simp only [Act.put, sqT, sqZ, sqS]
   refine wpAnyH_all (rs := [16]) (by kernel_rfl) (by simp) fun i hi => ?_
   obtain rfl : i = 16 := by simpa using hi
   refine op_call (om := ⟨_, _, _, _, _, _⟩) (fn := 96) (args := #[.pointer (some ⟨q, 0, none⟩), .int .i64 (6144 + ((L * 64 + r : Nat) : Int)), .slice (some (ad.add k)) 1 (cb - k)]) (R := fun u W' => u = .tuple #[] ∧ RefH W' mi q b c d e (layL M 6144 (wrK (bytesL g1) (blkL X) s bb (k + 1))) G ∧ Keeps (fun k => k = b) wd W') rfl rfl (by go_simp)
    (HLY.out.mono fun e W' ⟨he, h1, h2⟩ => ⟨_, he, rfl, h1, h2⟩) _ _ rfl rfl ?_
   rintro u w6 ⟨rfl, h6, k6⟩
   have hS : w6.cell? ⟨gl, J, none⟩ = some (.int .i64 (L : Int)) := (k6.cell gl J hgd hgb).trans hS
   refine ⟨hS, ?_⟩
   try simp only [Act.put, sqT, sqZ, sqS]
   refine wpAnyH_done (by kernel_rfl) ?_ _
   try simp only [Act.put, sqT, sqZ, sqS]
   have HRR : Hid (WrL w mi q b c d e M G (bytesL g1) (blkL X) s bb w5 (bb.length - (k + 1)) (.int .i64 ((k : Int) + 1)) w6) := ⟨k + 1, rfl, by omega, by rw [Int.natCast_add]; rfl, h6, KW.out.trans k6⟩
   clear h6 k6 HLY KW hS
   go_wp2_with fail
   go_roundg (bb.length - (k + 1))
   case rel => exact HRR.out
   case measure => omega
  ·obtain rfl : k = bb.length := by omega
   have d4 : decide ((bb.length : Int) < (bb.length : Int)) = false := by simp
   have HG : Hid (WriR w mi q b c d e M G (writeV ⟨regB M, readN (regB M)⟩ (i : Int) (s : Int) bb) (.returned (.int .i64 0)) wr) := by
    rw [HVAL.out]
    refine ⟨rfl, ?_, K5.out.trans kw⟩
    rw [if_pos rfl, ← HWB.out]
    exact hrf
   clear hrf kw HB5 OW
   go_wp2_with fail
   go_ret
   exact HG.out
end Go.Proofs.YtefgabnmcfpdcaaGreatDoor.Fr
