/-
  FrDel
-/
import Derived.Test.YtefgabnmcfpdcaaGreatDoorFrCre
namespace Go.Proofs.YtefgabnmcfpdcaaGreatDoor.Fr
open Go.RowKit Ex Ino Mm Fs
set_option linter.unusedVariables false
set_option linter.unusedSimpArgs false
variable {w : World} {mi q b c d e : Nat} {M G : List UInt8}
def WriR (w : World) (mi q b c d e : Nat) (M G : List UInt8) (rv : Int × RG) (en : Ending) (w' : World) : Prop :=
 RChg w mi q b c d e M G (.int .i64 rv.1) rv.1 rv.2 en w'
set_option maxRecDepth 100000 in
theorem rdelete_bad (h : RefH w mi q b c d e M G) (ho : ¬ okR (regB M)) (name : List UInt8) (hl : name.length ≤ 9223372036854775807) :
  Calls Tryz.prog 39 #[.pointer (some ⟨q, 0, none⟩), St name] w (RBad w (.int .i64 120)) := by
 have HF := Lib.hid (rfind_any h name hl)
 have HO := Lib.hid ho
 clear h ho
 go_enter Tryz.func39, Tryz.ntmps39
 go_wp2_with fail
 refine HF.out.mono ?_
 rintro en w1 ⟨k1, ⟨hok, -⟩ | ⟨-, rfl⟩⟩
 ·exact absurd hok HO.out
 have HG : Hid (RBad w (.int .i64 120) (.returned (.int .i64 120)) w1) := ⟨rfl, k1⟩
 clear k1 HF HO
 go_wp2_with fail
 go_ret
 exact HG.out
theorem used_less {bs : List UInt8} (ho : okR bs) {i : Nat} (hi : i < 8) (hf : isF (at' (readN bs) i) = true) : andN (usedN (readN bs)) (setN (blkO (at' (readN bs) i).ext)) = usedN ((readN bs).set i in0) := bit_eq fun k => by
 have hr := readN_len bs
 have hap := ((okR_iff bs).1 ho).2.1
 rw [andN_bit, Bool.eq_iff_iff, usedN_bit]
 simp only [Bool.and_eq_true, decide_eq_true_eq, Bool.not_eq_true', setN_bit, decide_eq_false_iff_not, usedN_bit]
 constructor
 ·rintro ⟨⟨hk, j, hj, fj, hb⟩, hn⟩
  have hne : j ≠ i := by rintro rfl; exact hn hb
  exact ⟨j, hj, by rw [at_set _ (by omega), if_neg hne]; exact fj, by rw [at_set _ (by omega), if_neg hne]; exact hb⟩
 ·rintro ⟨j, hj, fj, hb⟩
  rw [at_set _ (by omega)] at fj hb
  by_cases hne : j = i
  ·rw [if_pos hne] at hb; cases hb
  ·rw [if_neg hne] at fj hb
   exact ⟨⟨((blkO_good _).2 k hb).2, j, hj, fj, hb⟩, fun hc => (hap j i hj hi hne fj hf).2 k hb hc⟩
theorem nodeL0 : nodeL in0 = List.replicate 64 0 := nodeL_in0
set_option maxRecDepth 100000 in
set_option maxHeartbeats 1000000 in
theorem rdelete_any (h : RefH w mi q b c d e M G) (ho : okR (regB M)) (name : List UInt8) (hl : name.length ≤ 9223372036854775807) :
  Calls Tryz.prog 39 #[.pointer (some ⟨q, 0, none⟩), St name] w (WriR w mi q b c d e M G (removeV ⟨regB M, readN (regB M)⟩ name)) := by
 have HF := Lib.hid (rfind_any h name hl)
 have HO := Lib.hid ho
 have H := Lib.hid h
 clear h ho
 go_enter Tryz.func39, Tryz.ntmps39
 go_wp2_with fail
 refine HF.out.mono ?_
 rintro en w1 ⟨k1, ⟨-, rfl⟩ | ⟨hno, -⟩⟩
 rotate_left
 ·exact absurd HO.out hno
 have H1 := Lib.hid (H.out.keep k1 fun _ _ _ f => f)
 by_cases h0 : findE (readN (regB M)) name = 0
 case neg =>
  have hE : removeV ⟨regB M, readN (regB M)⟩ name = (findE (readN (regB M)) name, ⟨regB M, readN (regB M)⟩) := by
   unfold removeV
   rw [if_neg h0]
  have HG : Hid (WriR w mi q b c d e M G (removeV ⟨regB M, readN (regB M)⟩ name) (.returned (.int .i64 (findE (readN (regB M)) name))) w1) := by rw [hE]; exact RChg.none H.out k1 h0
  have t1 : (findE (readN (regB M)) name != 0) = true := by simp [h0]
  clear k1 HF H1 hE h0 HO H
  generalize removeV ⟨regB M, readN (regB M)⟩ name = cv at *
  generalize findE (readN (regB M)) name = E at *
  go_wp2_with fail
  go_ret
  exact HG.out
 obtain ⟨hnb, i, hfi⟩ := findE_zero.1 h0
 obtain ⟨hi8, hif, hin⟩ := find_some hfi
 have hN : findN (readN (regB M)) name = i := by unfold findN; rw [if_neg (by rw [hnb]; decide), hfi]; rfl
 have hval : removeV ⟨regB M, readN (regB M)⟩ name = (0, ⟨regB M, (readN (regB M)).set i in0⟩) := by
  unfold removeV
  rw [if_pos h0]
  show ((0 : Int), _) = _
  rw [hN]
 have hne : (at' (readN (regB M)) i).name ≠ [] := by simpa [isF] using hif
 have hE : nodeE (readN (regB M)) (i : Int) = 0 := by unfold nodeE; rw [if_neg (by omega), show ((i : Int)).toNat = i by omega, if_neg hne]
 have hX : nodeX (readN (regB M)) (i : Int) = at' (readN (regB M)) i := by unfold nodeX; rw [if_pos hE]; rfl
 have hnd := rnode_any H1.out (i : Int) (by omega)
 have hl64 := used_less HO.out hi8 hif
 have HVAL := Lib.hid hval
 have HAND := Lib.hid hl64
 have HE := Lib.hid hE
 have HX := Lib.hid hX
 rw [h0, hN]
 have HND := Lib.hid hnd
 have K1 := Lib.hid k1
 clear hval hl64 hnd HF hfi hin hnb hif hne h0 hN k1 hE hX H1
 have hmk : ∀ w : World, (Instr.makeSlice 31 (.int .i64 64) (.int .i64 64)).run Tryz.prog w = .ok (.slice (some ⟨w.heap.size, 0, none⟩) 64 64) (w.alloc (.cells (madeCells #[.int .u8 0] 64) 5)) := make8 64 (by omega)
 go_wp2_with fail
 refine HND.out.mono ?_
 rintro en w2 ⟨k2, ⟨-, R, cx, rfl, hx⟩ | ⟨hno, -⟩⟩
 rotate_left
 ·exact absurd HO.out hno
 rw [HE.out, HX.out, if_pos rfl]
 rw [HX.out] at hx
 have hfew := (inOk_dec (b := page (regB M) (1 + i)) (w := w2) (R := R) (by rw [← readN_at _ hi8]; exact hx)).few
 rw [← readN_at _ hi8] at hfew
 obtain ⟨wb, hwb⟩ : ∃ wb, wb = w2.alloc (.cells #[St (at' (readN (regB M)) i).name, .int .i64 (at' (readN (regB M)) i).size, .slice R (at' (readN (regB M)) i).ext.length cx] 123) := ⟨_, rfl⟩
 have k2b : Keeps (fun _ => False) w2 wb := by rw [hwb]; exact Keeps.alloc _ _ _
 have hbox : wb.heap[w2.heap.size]? = some (.cells #[St (at' (readN (regB M)) i).name, .int .i64 (at' (readN (regB M)) i).size, .slice R (at' (readN (regB M)) i).ext.length cx] 123 (0, 0)) := by rw [hwb]; exact World.alloc_heap_new _ _
 have c2 : wb.cell? ⟨w2.heap.size, 2, none⟩ = some (.slice R (at' (readN (regB M)) i).ext.length cx) := by rw [cell_of_row _ _ _ _ _ _ hbox]; rfl
 have kb := (K1.out.trans k2).trans k2b
 have HBL := Lib.hid (rblocks_any R (at' (readN (regB M)) i).ext cx wb (xr_via hx k2b fun _ _ _ f => f) hfew)
 have HB := Lib.hid (H.out.keep kb fun _ _ _ f => f)
 have KB := Lib.hid kb
 have hM : M.length = 8192 := H.out.bl
 have hlb := regB_len hM
 have hlay1 : ∀ W, Keeps (fun _ => False) wb W → Calls Tryz.prog 35 #[.pointer (some ⟨q, 0, none⟩), .int .i64 (1 + (i : Int)), .slice (some ⟨W.heap.size, 0, none⟩) 64 64] (W.alloc (.cells (madeCells #[.int .u8 0] 64) 5)) (OutH (W.alloc (.cells (madeCells #[.int .u8 0] 64) 5)) mi q b c d e (layL M 6144 (setPage (regB M) (1 + i) (nodeL in0))) G) := fun W hW => by
  have hw := HB.out.keep (hW.trans (Keeps.alloc (fun _ => False) W (.cells (madeCells #[.int .u8 0] 64) 5))) fun _ _ _ f => f
  have := rlayP (M := M) (R := regB M) (by rw [lay_reg hM]; exact hw) hM hlb (1 + i) (by omega) (some ⟨W.heap.size, 0, none⟩) (List.replicate 64 0) 64 (Row8.made W 64 5).br (fun ad e1 _ => by cases e1; have := HB.out.lt; have := hW.size; show W.heap.size ≠ b; omega) (by simp)
  rw [List.length_replicate, show ((1 + i : Nat) : Int) = 1 + (i : Int) by omega] at this
  rw [nodeL0]
  exact this
 have hlay0 : ∀ W Rh ch, Own8 W W.heap.size 5 Rh ch (headL (usedN ((readN (regB M)).set i in0))) → True := fun _ _ _ _ => trivial
 have HL1 := Lib.hid hlay1
 have hand := andN_int (usedN (readN (regB M))) (setN (blkO (at' (readN (regB M)) i).ext)) (usedN_lt _) (blkO_good _).lt
 rw [HAND.out] at hand
 have hgood := blkO_good (at' (readN (regB M)) i).ext
 have HHD := Lib.hid fun W => rhead_any (usedN ((readN (regB M)).set i in0)) (usedN_lt _) W
 have HSET := Lib.hid fun (R : Option Addr) (c : Nat) (W : World) (h : JR W R (blkO (at' (readN (regB M)) i).ext)) => rset_any R (blkO (at' (readN (regB M)) i).ext) c W h hgood
 have HEND := Lib.hid (bytes_set0 hlb HO.out hi8 in0)
 have HLN := Lib.hid (setP_len hlb (n := 1 + i) (by omega) (nodeL_len in0))
 have q4 : IntKind.i64.wrap (1 + (i : Int)) = 1 + (i : Int) := by rw [IntKind.wrap_i64]; omega
 have hlt2 : w2.heap.size < wb.heap.size := by rw [hwb, World.size_alloc]; omega
 clear hlay1 hlay0 kb k2 hx hfew k2b hbox HAND hgood HND K1 HE HX
 generalize at' (readN (regB M)) i = x at *
 generalize usedN (readN (regB M)) = U at *
 generalize hU2 : usedN ((readN (regB M)).set i in0) = U2 at *
 clear hU2
 go_wp2_with fail
 rw [← hwb]
 clear hwb
 go_wp2_with fail
 refine HBL.out.mono ?_
 rintro en w3 ⟨Rb, cb, rfl, own3, b3⟩
 have k3 : Keeps (fun _ => False) wb w3 := keeps_below' b3
 have HL1' := Lib.hid (HL1.out w3 k3)
 have OW3 := Lib.hid own3
 have B3 := Lib.hid b3
 clear own3 b3 k3 HL1 HBL
 go_wp2_with fail
 refine HL1'.out.mono ?_
 rintro en w4 ⟨rfl, h4, k4⟩
 have bal := (Below.refl w3.heap.size w3).alloc (Nat.le_refl _) (.cells (madeCells #[.int .u8 0] 64) 5)
 have own4 := owni_keeps (OW3.out.below bal) k4 fun ad e => by
  have h1 := World.ownsRow.lt OW3.out ad.block (by rw [e]; rfl)
  have h2 := HB.out.lt
  show ¬ ad.block = b
  omega
 have kb4 : Keeps (fun k => k = b) w w4 := (((KB.out.trans (keeps_below' B3.out)).trans (keeps_below' bal)).mono fun _ _ f => f.elim).trans k4
 have HS4 := Lib.hid (HSET.out Rb cb w4 (Ex.IR.jr own4.ir))
 have H4 := Lib.hid h4
 have K4 := Lib.hid kb4
 clear h4 k4 bal own4 kb4 HSET OW3 B3 HL1' KB HB
 go_wp2_with fail
 refine HS4.out.mono ?_
 rintro en w5 ⟨rfl, rfl⟩
 clear HS4
 go_wp2_with fail
 refine (HHD.out _).mono ?_
 rintro en w6 ⟨Rh, ch, rfl, own6, b6⟩
 have hl := rlayP (M := M) (R := setPage (regB M) (1 + i) (nodeL in0)) (H4.out.keep (keeps_below' (F := fun _ => False) b6) fun _ _ _ f => f) hM HLN.out 0 (by omega) Rh (headL U2) ch own6.br (Fr.RefH.own_ne H4.out own6) (headL_len _)
 have HL := Lib.hid hl
 have K6 := Lib.hid (K4.out.trans (keeps_below' b6))
 clear hl own6 b6 HHD
 go_wp2_with fail
 refine HL.out.mono ?_
 rintro en w7 ⟨rfl, h7, k7⟩
 have HG : Hid (WriR w mi q b c d e M G (removeV ⟨regB M, readN (regB M)⟩ name) (.returned (.int .i64 0)) w7) := by
  rw [HVAL.out]
  refine ⟨rfl, ?_, K6.out.trans k7⟩
  rw [if_pos rfl]
  show RefH w7 mi q b c d e (layL M 6144 (bytesL ⟨regB M, (readN (regB M)).set i in0⟩)) G
  rw [← HEND.out]
  exact h7
 clear h7 k7 HL K6
 go_wp2_with fail
 go_ret
 exact HG.out
end Go.Proofs.YtefgabnmcfpdcaaGreatDoor.Fr
