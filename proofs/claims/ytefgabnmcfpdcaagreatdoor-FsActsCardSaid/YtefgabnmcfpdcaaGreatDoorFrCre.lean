/-
  FrCre
-/
import Derived.Test.YtefgabnmcfpdcaaGreatDoorFrLay
import Derived.Test.YtefgabnmcfpdcaaGreatDoorInREncN
namespace Go.Proofs.YtefgabnmcfpdcaaGreatDoor.Fr
open Go.RowKit Ex Ino Mm Fs
set_option linter.unusedVariables false
set_option linter.unusedSimpArgs false
variable {w : World} {mi q b c d e : Nat} {M G : List UInt8}
def RChg (w : World) (mi q b c d e : Nat) (M G : List UInt8) (v : Value) (E : Int) (g : RG) (en : Ending) (w' : World) : Prop :=
 en = .returned v ∧ RefH w' mi q b c d e (if E = 0 then layL M 6144 (bytesL g) else M) G ∧ Keeps (fun k => k = b) w w'
theorem RChg.none {w' : World} {v : Value} {E : Int} {g : RG} (h : RefH w mi q b c d e M G) (k : Keeps (fun _ => False) w w') (hE : E ≠ 0) : RChg w mi q b c d e M G v E g (.returned v) w' := by
 refine ⟨rfl, ?_, k.mono fun _ _ f => f.elim⟩
 rw [if_neg hE]
 exact h.keep k fun _ _ _ f => f
def RBad (w : World) (v : Value) (en : Ending) (w' : World) : Prop := en = .returned v ∧ Keeps (fun _ => False) w w'
set_option maxRecDepth 100000 in
theorem rcreate_bad (h : RefH w mi q b c d e M G) (ho : ¬ okR (regB M)) (name : List UInt8) (hl : name.length ≤ 9223372036854775807) :
  Calls Tryz.prog 37 #[.pointer (some ⟨q, 0, none⟩), St name] w (RBad w (.tuple #[.int .i64 0, .int .i64 120])) := by
 have HF := Lib.hid (rfind_any h name hl)
 have HO := Lib.hid ho
 clear h ho
 go_enter Tryz.func37, Tryz.ntmps37
 go_wp2_with fail
 refine HF.out.mono ?_
 rintro en w1 ⟨k1, ⟨hok, -⟩ | ⟨-, rfl⟩⟩
 ·exact absurd hok HO.out
 have HG : Hid (RBad w (.tuple #[.int .i64 0, .int .i64 120]) (.returned (.tuple #[.int .i64 0, .int .i64 120])) w1) := ⟨rfl, k1⟩
 clear k1 HF HO
 go_wp2_with fail
 go_ret2
 exact HG.out
theorem all_same {ns ms : List IN} : ∀ {n : Nat}, (∀ i, i < n → blkO (at' ms i).ext = blkO (at' ns i).ext) → allTo ms n = allTo ns n
 | 0, _ => rfl
 | n + 1, h => by
  unfold allTo
  rw [all_same fun i hi => h i (by omega), h n (by omega)]
theorem at_set {ns : List IN} {i j : Nat} (x : IN) (hi : i < ns.length) : at' (ns.set i x) j = if j = i then x else at' ns j := by
 unfold at'
 by_cases hj : j = i
 ·subst hj
  rw [if_pos rfl, List.getD_eq_getElem?_getD, List.getElem?_set_self hi]
  rfl
 ·rw [if_neg hj, List.getD_eq_getElem?_getD, List.getElem?_set_ne (by omega), ← List.getD_eq_getElem?_getD]
theorem bare_set {ns : List IN} (hb : Bare ns) {i : Nat} (hi : i < ns.length) (x : IN) (hx : x.name = [] → blkO x.ext = []) : Bare (ns.set i x) := fun j hf => by
 rw [at_set x hi] at hf ⊢
 by_cases hj : j = i
 ·rw [if_pos hj] at hf ⊢
  exact hx (by simpa [isF] using hf)
 ·rw [if_neg hj] at hf ⊢
  exact hb j hf
theorem used_set {ns : List IN} (hb : Bare ns) {i : Nat} (hi : i < ns.length) (x : IN) (hx : x.name = [] → blkO x.ext = []) (he : blkO x.ext = blkO (at' ns i).ext) : usedN (ns.set i x) = usedN ns := by
 rw [← used_all hb, ← used_all (bare_set hb hi x hx), all_same fun j hj => ?_]
 rw [at_set x hi]
 by_cases e : j = i
 ·rw [if_pos e, e, he]
 ·rw [if_neg e]
def CreR (w : World) (mi q b c d e : Nat) (M G : List UInt8) (cv : Int × Nat × RG) (en : Ending) (w' : World) : Prop :=
 RChg w mi q b c d e M G (.tuple #[.int .i64 (cv.2.1 : Nat), .int .i64 cv.1]) cv.1 cv.2.2 en w'
def CrL (w : World) (mi q b c d e : Nat) (M G : List UInt8) (ns : List IN) (w1 : World) (g : Nat) (iv : Value) (wr : World) : Prop :=
 ∃ m, g = 8 - m ∧ m ≤ 8 ∧ iv = .int .i64 (m : Int) ∧ (∀ j, j < m → (at' ns j).name ≠ []) ∧ Below w1.heap.size w1 wr
theorem free_is {ns : List IN} {m : Nat} (hm : m < 8) (h0 : (at' ns m).name = []) (h : ∀ j, j < m → (at' ns j).name ≠ []) : freeI ns = some m := by
 unfold freeI
 rw [List.find?_range_eq_some]
 exact ⟨by simpa using h0, by simpa using hm, fun j hj => by simpa using h j hj⟩
theorem free_no {ns : List IN} (h : ∀ j, j < 8 → (at' ns j).name ≠ []) : freeI ns = none := by
 unfold freeI
 rw [List.find?_range_eq_none]
 exact fun j hj => by simpa using h j hj
theorem create_is {g : RG} {name : List UInt8} {m : Nat} (ha : absentE g.ns name = 0) (hf : freeI g.ns = some m) (h0 : at' g.ns m = in0) : createV g name = (0, m, ⟨g.bs, g.ns.set m ⟨name, 0, []⟩⟩) := by
 unfold createV
 rw [if_pos ha, hf]
 simp only [h0]
 rfl
theorem create_no {g : RG} {name : List UInt8} (ha : absentE g.ns name = 0) (hf : freeI g.ns = none) : createV g name = (124, 0, g) := by
 unfold createV
 rw [if_pos ha, hf]
theorem at_zero {bs : List UInt8} {i : Nat} (hi : i < 8) (h : (at' (readN bs) i).name = []) : at' (readN bs) i = in0 := by
 rw [readN_at _ hi] at h ⊢
 rcases decX_or (page bs (1 + i)) with h1 | h1
 ·exact h1
 ·have := (chk_parts h1).1.1
  rw [h] at this
  simp at this
set_option maxRecDepth 100000 in
set_option maxHeartbeats 1000000 in
theorem rcreate_any (h : RefH w mi q b c d e M G) (ho : okR (regB M)) (name : List UInt8) (hl : name.length ≤ 9223372036854775807) :
  Calls Tryz.prog 37 #[.pointer (some ⟨q, 0, none⟩), St name] w (CreR w mi q b c d e M G (createV ⟨regB M, readN (regB M)⟩ name)) := by
 have HF := Lib.hid (rfind_any h name hl)
 have HO := Lib.hid ho
 have H := Lib.hid h
 clear h ho
 go_enter Tryz.func37, Tryz.ntmps37
 go_wp2_with fail
 refine HF.out.mono ?_
 rintro en w1 ⟨k1, ⟨-, rfl⟩ | ⟨hno, -⟩⟩
 rotate_left
 ·exact absurd HO.out hno
 have H1 := Lib.hid (H.out.keep k1 fun _ _ _ f => f)
 by_cases h0 : findE (readN (regB M)) name = 0
 ·have hE : createV ⟨regB M, readN (regB M)⟩ name = (122, 0, ⟨regB M, readN (regB M)⟩) := by
   have : absentE (readN (regB M)) name = 122 := by unfold absentE; rw [if_pos h0]
   unfold createV
   rw [if_neg (by show absentE (readN (regB M)) name ≠ 0; rw [this]; decide)]
   show (absentE (readN (regB M)) name, 0, _) = _
   rw [this]
  rw [h0]
  have HG : Hid (CreR w mi q b c d e M G (createV ⟨regB M, readN (regB M)⟩ name) (.returned (.tuple #[.int .i64 0, .int .i64 122])) w1) := by rw [hE]; exact RChg.none H.out k1 (E := 122) (by decide)
  clear k1 HF H1 hE h0
  go_wp2_with fail
  go_ret2
  exact HG.out
 by_cases h1 : findE (readN (regB M)) name = 123
 case neg =>
  have hE : createV ⟨regB M, readN (regB M)⟩ name = (findE (readN (regB M)) name, 0, ⟨regB M, readN (regB M)⟩) := by
   have : absentE (readN (regB M)) name = findE (readN (regB M)) name := by unfold absentE; rw [if_neg h0, if_neg h1]
   unfold createV
   rw [if_neg (by show absentE (readN (regB M)) name ≠ 0; rw [this]; exact h0)]
   show (absentE (readN (regB M)) name, 0, _) = _
   rw [this]
  have HG : Hid (CreR w mi q b c d e M G (createV ⟨regB M, readN (regB M)⟩ name) (.returned (.tuple #[.int .i64 0, .int .i64 (findE (readN (regB M)) name)])) w1) := by rw [hE]; exact RChg.none H.out k1 h0
  have t1 : (findE (readN (regB M)) name == 0) = false := by simp [h0]
  have t2 : (findE (readN (regB M)) name != 123) = true := by simp [h1]
  clear k1 HF H1 hE h0 h1 HO H
  generalize createV ⟨regB M, readN (regB M)⟩ name = cv at *
  generalize findE (readN (regB M)) name = E at *
  go_wp2_with fail
  go_ret2
  exact HG.out
 have hab : absentE (readN (regB M)) name = 0 := by unfold absentE; rw [if_neg h0, if_pos h1]
 rw [h1]
 have HT := Lib.hid (rtable_any H1.out)
 have K1 := Lib.hid k1
 have HAB := Lib.hid hab
 clear k1 HF h0 h1 hab
 go_wp2_with fail
 refine HT.out.mono ?_
 rintro en w2 ⟨k2, ⟨-, R, cap, ls, rfl, hls, hm, ht⟩ | ⟨hno, -⟩⟩
 rotate_left
 ·exact absurd HO.out hno
 have H2 := Lib.hid (H1.out.keep k2 fun _ _ _ f => f)
 have K2 := Lib.hid (K1.out.trans k2)
 have HTT := Lib.hid ht
 have hmap : ls.map (·.x) = (readN (regB M)).take 8 := by rw [hm, List.take_of_length_le (by rw [readN_len]; omega)]
 clear k2 ht HT hm
 go_wp2_with fail
 have HC0 : Hid (CrL w mi q b c d e M G (readN (regB M)) w2 8 (.int .i64 0) w2) := ⟨0, by omega, by omega, rfl, fun j hj => absurd hj (by omega), Below.refl _ _⟩
 go_loopg [11, 12, 34] 8 (fun g _ _ k wr => CrL w mi q b c d e M G (readN (regB M)) w2 g k wr)
 case atStart => exact HC0.out
 case round =>
  obtain ⟨m, rfl, hm, rfl, hnm, bq⟩ := hrel
  clear HC0
  by_cases hml : m < 8
  ·obtain ⟨gl, rfl, ca0, ca1, ca2⟩ := (HTT.out.keep (F := fun _ => False) (keeps_below' bq) fun _ _ _ f => f).own.at_ (k := m) (by omega)
   have hyx := map_at hmap (by omega : m < ls.length) hls
   have d1 : decide ((m : Int) < 8) = true := by simp only [decide_eq_true_eq]; omega
   have p0 : (0 : Int) ≤ m := by omega
   have p1 : (m : Int) < 8 := by omega
   have q3 : IntKind.i64.wrap ((m : Int) + 1) = (m : Int) + 1 := by rw [IntKind.wrap_i64]; omega
   have q4 : IntKind.i64.wrap (1 + (m : Int)) = 1 + (m : Int) := by rw [IntKind.wrap_i64]; omega
   generalize ls[m] = y at *
   have ba := (Below.refl wr.heap.size wr).alloc (Nat.le_refl _) (.cells #[St y.x.name, .int .i64 y.x.size, .slice y.R y.x.ext.length y.c] 123)
   have hst := str_eq y.x.name []
   by_cases heq : y.x.name = []
   ·have e2 : decide (y.x.name = []) = true := by simp [heq]
    have e3 : (y.x.name == []) = true := by simp [heq]
    have e4 : ((⟨y.x.name.toArray⟩ : ByteArray).toList == (⟨#[]⟩ : ByteArray).toList) = true := by rw [str_nil, str_eq]; simp [heq]
    have hem : y.x.name.isEmpty = true := by simp [heq]
    have h0 : (at' (readN (regB M)) m).name = [] := by rw [← hyx]; exact heq
    have hz := at_zero hml h0
    have hab := HAB.out
    have hnb := (absent_zero.1 hab).1
    have hchk := chk_new hnb
    have hval := create_is (g := ⟨regB M, readN (regB M)⟩) hab (free_is hml h0 hnm) hz
    have kk := (K2.out.trans (keeps_below' bq)).trans (keeps_below' ba)
    have hrf := H.out.keep kk fun _ _ _ f => f
    generalize hwb : wr.alloc (.cells #[St y.x.name, .int .i64 y.x.size, .slice y.R y.x.ext.length y.c] 123) = wb at *
    have hen : Calls Tryz.prog 99 #[.agg #[St name, .int .i64 0, .slice none 0 0]] wb (GivesEN wb ⟨name, 0, []⟩) := rencode_new ⟨name, 0, []⟩ none 0 wb ⟨XR.nil, by simp, absent_len hab, by simp⟩
    have hlay : ∀ W R cc, Own8 W wb.heap.size 5 R cc (encL ⟨name, 0, []⟩) → Below wb.heap.size wb W → Calls Tryz.prog 35 #[.pointer (some ⟨q, 0, none⟩), .int .i64 (1 + (m : Int)), .slice R 64 cc] W (CreR w mi q b c d e M G (createV ⟨regB M, readN (regB M)⟩ name) (.returned (.tuple #[.int .i64 (m : Int), .int .i64 0])) |> fun P en W' => en = .returned (.tuple #[]) ∧ P W') := fun W R cc ho hb => by
     have hM : M.length = 8192 := H.out.bl
     have hw := hrf.keep (keeps_below' (F := fun _ => False) hb) fun _ _ _ f => f
     have := rlayP (M := M) (R := regB M) (by rw [lay_reg hM]; exact hw) hM (regB_len hM) (1 + m) (by omega) R (encL ⟨name, 0, []⟩) cc ho.br (Fr.RefH.own_ne hrf ho) (encL_len _)
     rw [encL_len, show ((1 + m : Nat) : Int) = 1 + (m : Int) by omega] at this
     refine this.mono ?_
     rintro en W' ⟨rfl, h5, k5⟩
     refine ⟨rfl, ?_⟩
     rw [hval]
     refine ⟨rfl, ?_, (Keeps.mono ((kk.trans (keeps_below' hb))) (fun _ _ f => f.elim)).trans k5⟩
     rw [if_pos rfl, ← bytes_set (regB_len hM) HO.out hml ⟨name, 0, []⟩ (used_set (bare_read _) (by rw [readN_len]; exact hml) _ (fun _ => rfl) (by rw [hz]; rfl)), nodeL_chk hchk]
     exact h5
    have HEN := Lib.hid hen
    have HLAY := Lib.hid hlay
    have HCHK := Lib.hid hchk
    have HWB := Lib.hid hwb
    clear hwb hyx hnm bq ba hz hab hnb hchk hval kk hrf hen hlay h0 HAB K2 H2 H1 K1 HTT hmap heq hst hem
    go_wp2_with fail
    rw [HWB.out]
    refine HEN.out.mono ?_
    rintro en w5 (hbad | ⟨Re, ce, rfl, own5, b5⟩)
    ·rw [HCHK.out] at hbad; cases hbad
    have HL := Lib.hid (HLAY.out w5 Re ce own5 b5)
    clear own5 b5 HLAY HEN HCHK HWB
    go_wp2_with fail
    refine HL.out.mono ?_
    rintro en w6 ⟨rfl, hg⟩
    have HG := Lib.hid hg
    clear hg HL
    go_wp2_with fail
    go_ret2
    exact HG.out
   ·have e2 : decide (y.x.name = []) = false := by simp [heq]
    have e3 : (y.x.name == []) = false := by simp [heq]
    have e4 : ((⟨y.x.name.toArray⟩ : ByteArray).toList == (⟨#[]⟩ : ByteArray).toList) = false := by rw [str_nil, str_eq]; simp [heq]
    have hem : y.x.name.isEmpty = false := by cases hh : y.x.name with
     | nil => exact absurd hh heq
     | cons _ _ => rfl
    have HR : Hid (CrL w mi q b c d e M G (readN (regB M)) w2 (8 - (m + 1)) (.int .i64 ((m : Int) + 1)) (wr.alloc (.cells #[St y.x.name, .int .i64 y.x.size, .slice y.R y.x.ext.length y.c] 123))) := ⟨m + 1, rfl, by omega, by rw [Int.natCast_add]; rfl, fun j hj => by
      by_cases e : j = m
      ·subst e
       rw [← hyx]
       exact heq
      ·exact hnm j (by omega), bq.trans (ba.mono bq.size)⟩
    clear hyx hnm bq ba heq hst
    go_wp2_with fail
    go_roundg (8 - (m + 1))
    case rel => exact HR.out
    case measure => omega
  ·obtain rfl : m = 8 := by omega
   have hval := create_no (g := ⟨regB M, readN (regB M)⟩) HAB.out (free_no hnm)
   have HG : Hid (CreR w mi q b c d e M G (createV ⟨regB M, readN (regB M)⟩ name) (.returned (.tuple #[.int .i64 0, .int .i64 124])) wr) := by rw [hval]; exact RChg.none H.out (K2.out.trans (keeps_below' bq)) (E := 124) (by decide)
   clear hnm bq hval
   go_wp2_with fail
   go_ret2
   exact HG.out
end Go.Proofs.YtefgabnmcfpdcaaGreatDoor.Fr
