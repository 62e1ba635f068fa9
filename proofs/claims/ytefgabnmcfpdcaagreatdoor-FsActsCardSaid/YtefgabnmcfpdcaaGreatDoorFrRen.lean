/-
  FrRen
-/
import Derived.Test.YtefgabnmcfpdcaaGreatDoorFrDel
namespace Go.Proofs.YtefgabnmcfpdcaaGreatDoor.Fr
open Go.RowKit Ex Ino Mm Fs
set_option linter.unusedVariables false
set_option linter.unusedSimpArgs false
variable {w : World} {mi q b c d e : Nat} {M G : List UInt8}
set_option maxRecDepth 100000 in
theorem rrename_bad (h : RefH w mi q b c d e M G) (ho : ¬ okR (regB M)) (name to : List UInt8) (hl : name.length ≤ 9223372036854775807) :
  Calls Tryz.prog 41 #[.pointer (some ⟨q, 0, none⟩), St name, St to] w (RBad w (.int .i64 120)) := by
 have HF := Lib.hid (rfind_any h name hl)
 have HO := Lib.hid ho
 clear h ho
 go_enter Tryz.func41, Tryz.ntmps41
 go_wp2_with fail
 refine HF.out.mono ?_
 rintro en w1 ⟨k1, ⟨hok, -⟩ | ⟨-, rfl⟩⟩
 ·exact absurd hok HO.out
 have HG : Hid (RBad w (.int .i64 120) (.returned (.int .i64 120)) w1) := ⟨rfl, k1⟩
 clear k1 HF HO
 go_wp2_with fail
 go_ret
 exact HG.out
theorem find_cases (ns : List IN) (name : List UInt8) : (nameB name = false ∧ findE ns name = 121) ∨ (nameB name = true ∧ findE ns name = 0) ∨ (nameB name = true ∧ findE ns name = 123) := by
 unfold findE
 cases hn : nameB name with
 | false => exact .inl ⟨rfl, by rw [if_pos rfl]⟩
 | true =>
  rw [if_neg (by decide)]
  by_cases h : (findI ns name).isSome = true
  ·rw [if_pos h]; exact .inr (.inl ⟨rfl, rfl⟩)
  ·rw [if_neg h]; exact .inr (.inr ⟨rfl, rfl⟩)
set_option maxRecDepth 100000 in
set_option maxHeartbeats 1000000 in
theorem rrename_any (h : RefH w mi q b c d e M G) (ho : okR (regB M)) (name to : List UInt8) (hl : name.length ≤ 9223372036854775807) (hl2 : to.length ≤ 9223372036854775807) :
  Calls Tryz.prog 41 #[.pointer (some ⟨q, 0, none⟩), St name, St to] w (WriR w mi q b c d e M G (renameV ⟨regB M, readN (regB M)⟩ name to)) := by
 have HF := Lib.hid (rfind_any h name hl)
 have HO := Lib.hid ho
 have H := Lib.hid h
 clear h ho
 go_enter Tryz.func41, Tryz.ntmps41
 go_wp2_with fail
 refine HF.out.mono ?_
 rintro en w1 ⟨k1, ⟨-, rfl⟩ | ⟨hno, -⟩⟩
 rotate_left
 ·exact absurd HO.out hno
 have H1 := Lib.hid (H.out.keep k1 fun _ _ _ f => f)
 have HF2 := Lib.hid (rfind_any H1.out to hl2)
 rcases find_cases (readN (regB M)) name with ⟨hn, h0⟩ | hq
 ·have hE : renameV ⟨regB M, readN (regB M)⟩ name to = (121, ⟨regB M, readN (regB M)⟩) := by
   unfold renameV
   rw [if_pos (.inl hn)]
  have HG : Hid (WriR w mi q b c d e M G (renameV ⟨regB M, readN (regB M)⟩ name to) (.returned (.int .i64 121)) w1) := by rw [hE]; exact RChg.none H.out k1 (E := 121) (by decide)
  rw [h0]
  clear k1 HF H1 hE h0 HO H HF2
  generalize renameV ⟨regB M, readN (regB M)⟩ name to = cv at *
  go_wp2_with fail
  go_ret
  exact HG.out
 have hn : nameB name = true := by rcases hq with h | h <;> exact h.1
 have K1 := Lib.hid k1
 clear k1 HF
 rcases hq with ⟨-, h0⟩ | ⟨-, h0⟩
 rotate_left
 ·rw [h0]
  go_wp2_with fail
  refine HF2.out.mono ?_
  rintro en w2 ⟨k2, ⟨-, rfl⟩ | ⟨hno, -⟩⟩
  rotate_left
  ·exact absurd HO.out hno
  rcases find_cases (readN (regB M)) to with ⟨hm, h1⟩ | hq
  ·have hE : renameV ⟨regB M, readN (regB M)⟩ name to = (121, ⟨regB M, readN (regB M)⟩) := by
    unfold renameV
    rw [if_pos (.inr hm)]
   have HG : Hid (WriR w mi q b c d e M G (renameV ⟨regB M, readN (regB M)⟩ name to) (.returned (.int .i64 121)) w2) := by rw [hE]; exact RChg.none H.out (K1.out.trans k2) (E := 121) (by decide)
   rw [h1]
   clear k2 H1 hE h0 HO H HF2 K1
   go_wp2_with fail
   go_ret
   exact HG.out
  ·have hm : nameB to = true := by rcases hq with h | h <;> exact h.1
   have hE : renameV ⟨regB M, readN (regB M)⟩ name to = (123, ⟨regB M, readN (regB M)⟩) := by
    unfold renameV
    rw [if_neg (by rw [hn, hm]; decide), if_neg (by rw [h0]; decide), h0]
   have HG : Hid (WriR w mi q b c d e M G (renameV ⟨regB M, readN (regB M)⟩ name to) (.returned (.int .i64 123)) w2) := by rw [hE]; exact RChg.none H.out (K1.out.trans k2) (E := 123) (by decide)
   rcases hq with ⟨-, h1⟩ | ⟨-, h1⟩
   ·rw [h1]
    clear k2 H1 hE h0 HO H HF2 K1
    go_wp2_with fail
    go_ret
    exact HG.out
   ·rw [h1]
    clear k2 H1 hE h0 HO H HF2 K1
    go_wp2_with fail
    go_ret
    exact HG.out
 rw [h0]
 go_wp2_with fail
 refine HF2.out.mono ?_
 rintro en w2 ⟨k2, ⟨-, rfl⟩ | ⟨hno, -⟩⟩
 rotate_left
 ·exact absurd HO.out hno
 have K2 := Lib.hid (K1.out.trans k2)
 clear k2 HF2
 rcases find_cases (readN (regB M)) to with ⟨hm, h1⟩ | ⟨hm, h1⟩ | ⟨hm, h1⟩
 ·have hE : renameV ⟨regB M, readN (regB M)⟩ name to = (121, ⟨regB M, readN (regB M)⟩) := by
   unfold renameV
   rw [if_pos (.inr hm)]
  have HG : Hid (WriR w mi q b c d e M G (renameV ⟨regB M, readN (regB M)⟩ name to) (.returned (.int .i64 121)) w2) := by rw [hE]; exact RChg.none H.out K2.out (E := 121) (by decide)
  rw [h1]
  clear H1 hE h0 HO H K1 K2
  go_wp2_with fail
  go_ret
  exact HG.out
 ·have ha : absentE (readN (regB M)) to = 122 := by unfold absentE; rw [if_pos h1]
  have hE : renameV ⟨regB M, readN (regB M)⟩ name to = (122, ⟨regB M, readN (regB M)⟩) := by
   unfold renameV
   rw [if_neg (by rw [hn, hm]; decide), if_pos h0, if_neg (by rw [ha]; decide), ha]
  have HG : Hid (WriR w mi q b c d e M G (renameV ⟨regB M, readN (regB M)⟩ name to) (.returned (.int .i64 122)) w2) := by rw [hE]; exact RChg.none H.out K2.out (E := 122) (by decide)
  rw [h1]
  clear H1 hE h0 HO H K1 K2 ha
  go_wp2_with fail
  go_ret
  exact HG.out
 have ha : absentE (readN (regB M)) to = 0 := by unfold absentE; rw [if_neg (by rw [h1]; decide), if_pos h1]
 obtain ⟨-, i, hfi⟩ := findE_zero.1 h0
 obtain ⟨hi8, hif, hin⟩ := find_some hfi
 have hN : findN (readN (regB M)) name = i := by unfold findN; rw [if_neg (by rw [hn]; decide), hfi]; rfl
 have hval : renameV ⟨regB M, readN (regB M)⟩ name to = (0, ⟨regB M, (readN (regB M)).set i { at' (readN (regB M)) i with name := to }⟩) := by
  unfold renameV
  rw [if_neg (by rw [hn, hm]; decide), if_pos h0, if_pos ha]
  show ((0 : Int), _) = _
  rw [hN]
 have hne : (at' (readN (regB M)) i).name ≠ [] := by simpa [isF] using hif
 have hE : nodeE (readN (regB M)) (i : Int) = 0 := by unfold nodeE; rw [if_neg (by omega), show ((i : Int)).toNat = i by omega, if_neg hne]
 have hX : nodeX (readN (regB M)) (i : Int) = at' (readN (regB M)) i := by unfold nodeX; rw [if_pos hE]; rfl
 have hchk0 : chkB (at' (readN (regB M)) i) = true := by
  rw [readN_at _ hi8]
  rcases decX_or (page (regB M) (1 + i)) with h | h
  ·rw [readN_at _ hi8, h] at hif
   cases hif
  ·exact h
 have hchk := chk_named hchk0 hm
 have hnd := rnode_any (H.out.keep K2.out fun _ _ _ f => f) (i : Int) (by omega)
 have hM : M.length = 8192 := H.out.bl
 have hlb := regB_len hM
 have hend := bytes_set hlb HO.out hi8 { at' (readN (regB M)) i with name := to } (used_set (bare_read _) (by rw [readN_len]; exact hi8) _ (fun h => absurd h (nameB_ne hm)) rfl)
 rw [nodeL_chk hchk] at hend
 have hto := absent_len ha
 have HVAL := Lib.hid hval
 have HEND := Lib.hid hend
 have HE := Lib.hid hE
 have HX := Lib.hid hX
 rw [h1, hN]
 have HND := Lib.hid hnd
 clear hval hend hnd hfi hin hn hm hif hne h0 h1 hN hE hX H1 K1 ha
 go_wp2_with fail
 refine HND.out.mono ?_
 rintro en w3 ⟨k3, ⟨-, R, cx, rfl, hx⟩ | ⟨hno, -⟩⟩
 rotate_left
 ·exact absurd HO.out hno
 rw [HE.out, HX.out, if_pos rfl]
 rw [HX.out] at hx
 have hin := inOk_dec (b := page (regB M) (1 + i)) (w := w3) (R := R) (by rw [← readN_at _ hi8]; exact hx)
 rw [← readN_at _ hi8] at hin
 clear HND HE HX
 obtain ⟨ws, hws⟩ : ∃ ws, ws = w3.alloc (.cells #[St to, .int .i64 (at' (readN (regB M)) i).size, .slice R (at' (readN (regB M)) i).ext.length cx] 123) := ⟨_, rfl⟩
 have b3 : Below w3.heap.size w3 ws := by
  rw [hws]
  exact (Below.refl _ _).alloc (Nat.le_refl _) _
 have kk := (K2.out.trans k3).trans (keeps_below' (F := fun _ => False) b3)
 have hen : Calls Tryz.prog 99 #[.agg #[St to, .int .i64 (at' (readN (regB M)) i).size, .slice R (at' (readN (regB M)) i).ext.length cx]] ws (GivesEN ws { at' (readN (regB M)) i with name := to }) :=
  rencode_new { at' (readN (regB M)) i with name := to } R cx ws ⟨(hin.below b3).xr, hin.few, hto, hin.size⟩
 have hrf := H.out.keep kk fun _ _ _ f => f
 have hlay : ∀ W R cc, Own8 W ws.heap.size 5 R cc (encL { at' (readN (regB M)) i with name := to }) → Below ws.heap.size ws W → Calls Tryz.prog 35 #[.pointer (some ⟨q, 0, none⟩), .int .i64 (1 + (i : Int)), .slice R 64 cc] W (fun en W' => en = .returned (.tuple #[]) ∧ WriR w mi q b c d e M G (renameV ⟨regB M, readN (regB M)⟩ name to) (.returned (.int .i64 0)) W') := fun W R cc ho hb => by
  have hw := hrf.keep (keeps_below' (F := fun _ => False) hb) fun _ _ _ f => f
  have := rlayP (M := M) (R := regB M) (by rw [lay_reg hM]; exact hw) hM hlb (1 + i) (by omega) R _ cc ho.br (Fr.RefH.own_ne hrf ho) (encL_len _)
  rw [encL_len, show ((1 + i : Nat) : Int) = 1 + (i : Int) by omega] at this
  refine this.mono ?_
  rintro en W' ⟨rfl, h5, k5⟩
  refine ⟨rfl, ?_⟩
  rw [HVAL.out]
  refine ⟨rfl, ?_, (Keeps.mono ((kk.trans (keeps_below' hb))) (fun _ _ f => f.elim)).trans k5⟩
  rw [if_pos rfl]
  show RefH W' mi q b c d e (layL M 6144 (bytesL ⟨regB M, (readN (regB M)).set i { at' (readN (regB M)) i with name := to }⟩)) G
  rw [← HEND.out]
  exact h5
 have HEN := Lib.hid hen
 have HLAY := Lib.hid hlay
 have HCHK := Lib.hid hchk
 have q4 : IntKind.i64.wrap (1 + (i : Int)) = 1 + (i : Int) := by rw [IntKind.wrap_i64]; omega
 clear hen hlay hchk b3 kk hrf hx hin k3 HVAL HEND hchk0 hto K2
 subst hws
 generalize renameV ⟨regB M, readN (regB M)⟩ name to = rv at *
 go_wp2_with fail
 refine HEN.out.mono ?_
 rintro en w5 (hbad | ⟨Re, ce, rfl, own5, b5⟩)
 ·rw [HCHK.out] at hbad; cases hbad
 have HL := Lib.hid (HLAY.out w5 Re ce own5 b5)
 clear own5 b5 HLAY HEN HCHK
 go_wp2_with fail
 refine HL.out.mono ?_
 rintro en w6 ⟨rfl, hg⟩
 have HG := Lib.hid hg
 clear hg HL
 go_wp2_with fail
 go_ret
 exact HG.out
end Go.Proofs.YtefgabnmcfpdcaaGreatDoor.Fr
