/-
  SkAlk
-/
import Derived.Test.YtmaoaeebggpbbaaSkRefL
import Derived.Test.YtmaoaeebggpbbaaGA
namespace Go.Proofs.Ytmaoaeebggpbbaa.Sk
open Go.RowKit Go.Maps Mm Hd
set_option linter.unusedVariables false
set_option linter.unusedSimpArgs false
variable {w : World} {mi q b c d e : Nat} {M G : List UInt8} {a lo hi ov un : Int}

/-! ### rows that are appended to -/
def OwnQ (w : World) (B : Nat) (R : Option Addr) (cap : Nat) (l : List Int) : Prop := w.ownsRow B 2 1 (.slice R l.length cap) l.length (l.map vz)
theorem OwnQ.app {B : Nat} {R : Option Addr} {cap : Nat} {l : List Int} (h : OwnQ w B R cap l) (hB : B ≤ w.heap.size) (hl : l.length ≤ 1954687338212) (x : Int) (g : Nat) (hg : w.cell? ⟨g, 0, none⟩ = some (.int .i64 x)) :
    ∃ R' cap' w', (Builtin.append_ #[25, 25] 25 #[.slice R l.length cap, .slice (some ⟨g, 0, none⟩) 1 1]).run Try.prog w = .ok (.slice R' (l.length + 1) cap') w' ∧ OwnQ w' B R' cap' (l ++ [x]) ∧ Below B w w' := by
  obtain ⟨i0, hi, hz0, hz1, hz2⟩ := info_parts infoI64
  obtain ⟨v', w', hrun, hown, hg, _, _⟩ := run_append_own_at (P := Try.prog) w B 25 25 2 i0 (.int .i64 0) 1 8 Try.underlying25 hi hz0 hz1 hz2 rfl (by decide) _ l.length _ h ⟨g, 0, none⟩ 1 1 [.int .i64 x] rfl (fun j u hu => by
    match j, hu with
    | 0, hu => cases hu; exact hg
    | j + 1, hu => simp at hu) (by intro u hu; simp at hu; subst hu; rfl) (by unfold maxLen; omega) (by omega) hB
  obtain ⟨g', cap', rfl, _, _⟩ := World.ownsRow.form hown (by omega)
  refine ⟨_, cap', w', hrun, ?_, ⟨hg.os, hg.tape, hg.output, hg.size, fun k hk => hg.block k (by omega) (fun e => by have := (World.ownsRow.lt h k e.symm).1; omega)⟩⟩
  unfold OwnQ
  rw [List.length_append, List.map_append]
  exact hown
theorem OwnQ.iq {B : Nat} {R : Option Addr} {cap : Nat} {l : List Int} (h : OwnQ w B R cap l) : IQ w w.heap.size R l := by
  intro hn
  have h0 : 0 < l.length := List.length_pos_iff.2 hn
  obtain ⟨g, c, hv, _, hlt⟩ := World.ownsRow.form h h0
  injection hv with e1 _ e3
  subst e1 e3
  refine ⟨_, rfl, hlt, fun k x hx => ?_⟩
  have hk : k < l.length := (List.getElem?_eq_some_iff.1 hx).1
  rw [add_at, World.ownsRow.cellAt h k (by omega)]
  simp [hx, vz]
theorem OwnQ.below {w' : World} {B : Nat} {R : Option Addr} {cap : Nat} {l : List Int} (h : OwnQ w B R cap l) (hb : Below w.heap.size w w') : OwnQ w' B R cap l :=
  World.ownsRow.kept (row := none) h ⟨hb.os, hb.tape, hb.output, hb.size, fun k hk _ => hb.block k hk⟩ (by
    cases e : Value.ownBlock (.slice R l.length cap) with
    | none => exact Or.inl rfl
    | some k => exact Or.inr (by simp))
theorem OwnQ.nil (w : World) (B : Nat) : OwnQ w B none 0 [] := World.ownsRow_nil _ _ _ _
/-- Numbers in a new block. -/
def GivesQ (w : World) (zs : List Int) (en : Ending) (w' : World) : Prop := ∃ R cap, en = .returned (.slice R zs.length cap) ∧ IQ w' w'.heap.size R zs ∧ Keeps (fun _ => False) w w'

/-! ### alike -/
def alkO (w : World) (b : Bool) (en : Ending) (w' : World) : Prop := en = .returned (.bool b) ∧ Keeps (fun _ => False) w w'
set_option maxRecDepth 100000 in
set_option maxHeartbeats 800000 in
theorem alike_any (A B : Option Addr) (l k : List Int) (c c' : Nat) (hA : IQ w w.heap.size A l) (hB : IQ w w.heap.size B k) (hl : l.length ≤ 9223372036854775807) (e : l = k) : Calls Try.prog 15 #[.slice A l.length c, .slice B k.length c'] w (alkO w true) := by
  subst e
  go_enter Try.func15, Try.ntmps15
  go_wp2_with fail
  go_loopw [13, 5] (fun i _ wr => ∃ (j : Nat), j ≤ l.length ∧ i = .int .i64 (j : Int) ∧ Below w.heap.size w wr) (fun i _ _ => l.length - (RowKit.intOf i).toNat)
  case atStart => exact ⟨0, by omega, rfl, Below.refl _ _⟩
  case round =>
    obtain ⟨j, hj, rfl, hb⟩ := hrel
    by_cases hlt : j < l.length
    · obtain ⟨ad, rfl, _, c1⟩ := (hA.below hb).at_ hlt
      obtain ⟨ad2, rfl, _, c2⟩ := (hB.below hb).at_ hlt
      have HBB := Lib.hid hb
      clear hA hB hb
      generalize l.getD j 0 = x at *
      go_wp2_with fail
      go_quiet (fail)
      go_wp2_with fail
      go_roundw
      case rel => exact ⟨j + 1, by omega, by go_num, below_drewN HBB.out _⟩
      case measure => simp [RowKit.intOf]; omega
    · obtain rfl : j = l.length := by omega
      have HBB := Lib.hid hb
      clear hA hB hb
      go_wp2_with fail
      go_ret
      exact ⟨rfl, keeps_below HBB.out⟩
theorem kb_trans {w1 w2 : World} (k : Keeps (fun _ => False) w w1) (b : Below w.heap.size w1 w2) : Keeps (fun _ => False) w w2 := ⟨b.os.trans k.os, b.tape.trans k.tape, b.output.trans k.output, Nat.le_trans k.size b.size, fun i hi _ => (b.block i hi).trans (k.block i hi fun f => f)⟩
/-! ### the document's Cells -/
set_option maxRecDepth 100000 in
set_option maxHeartbeats 800000 in
theorem rCells_any (h : RefH w mi q b c d e M G) (k : Nat) (hk : k ≤ 32) (ht : topL M 32 256 512 = 512 - 8 * (k : Int)) : Calls Try.prog 17 #[.pointer (some ⟨q, 0, none⟩)] w (GivesQ w (takeL M (512 - 8 * (k : Int)) k)) := by
  have DH := Lib.hid (rDepth_at h k hk ht)
  have AH := Lib.hid fun (W : World) (kk : Keeps (fun _ => False) w W) (n : Nat) (hn : n < k) => rAt_ok (h.keep kk fun _ _ _ f => f) k hk ht n hn
  have TG := Lib.hid fun (j : Nat) (hj : j < k) => takeL_get M (512 - 8 * (k : Int)) k j hj
  have TL := takeL_len M (512 - 8 * (k : Int)) k
  clear h ht
  generalize 512 - 8 * (k : Int) = T at *
  generalize hzs : takeL M T k = zs at *
  clear hzs
  go_enter Try.func17, Try.ntmps17
  go_wp2_with fail
  refine DH.out.mono ?_
  rintro e w2 ⟨rfl, rfl⟩
  go_wp2_with fail
  go_loopw [4, 3, 5] (fun i o _ wr => ∃ (j : Nat) (z : Int) (R : Option Addr) (cap : Nat), Hid (z = (k : Int) - 1 - (j : Int)) ∧ j ≤ k ∧ i = .int .i64 z ∧ o = .slice R j cap ∧ OwnQ wr w.heap.size R cap (zs.take j) ∧ Keeps (fun _ => False) w wr) (fun i _ _ _ => (RowKit.intOf i + 1).toNat)
  case atStart => exact ⟨0, (k : Int) - 1, none, 0, Lib.hid (by omega), by omega, rfl, rfl, OwnQ.nil _ _, Keeps.refl _ _⟩
  case round =>
    obtain ⟨j, z, R, cap, hz, hj, rfl, rfl, ho, hk2⟩ := hrel
    by_cases hlt : j < k
    · have HZ := hz.out
      obtain ⟨y, rfl⟩ := Int.eq_ofNat_of_zero_le (show 0 ≤ z by omega)
      have C := AH.out _ hk2 y (by omega)
      have ez := TG.out j hlt
      rw [show k - 1 - j = y by omega] at ez
      rw [← ez] at C
      have e1 : zs.take (j + 1) = zs.take j ++ [zs.getD j 0] := by
        rw [List.take_add_one, List.getElem?_eq_getElem (by omega), List.getD_eq_getElem?_getD, List.getElem?_eq_getElem (by omega)]
        rfl
      have E1 := Lib.hid e1
      have CH := Lib.hid C
      have HZZ := Lib.hid HZ
      have OO := Lib.hid ho
      have KK := Lib.hid hk2
      have tl : (zs.take j).length = j := by rw [List.length_take]; omega
      have yl : y < k := by omega
      have TLL := Lib.hid tl
      clear C ez e1 HZ ho hk2 hz tl hlt
      generalize zs.getD j 0 = x at *
      go_wp2_with fail
      refine CH.out.mono ?_
      rintro e w5 ⟨rfl, rfl⟩
      have k6 := Keeps.alloc (fun _ => False) wr (.cells #[.int .i64 x] 2)
      have o6 := OO.out.below (k6.toBelow _ (Nat.le_refl _) fun _ h => h.elim)
      have c6 : (wr.alloc (.cells #[.int .i64 x] 2)).cell? ⟨wr.heap.size, 0, none⟩ = some (.int .i64 x) := (make1 wr x).cell_ (k := 0) (by simp)
      obtain ⟨R', cap', w7, hrun, o7, b7⟩ := OwnQ.app o6 (by have := KK.out.size; simp; omega) (by rw [TLL.out]; omega) x _ c6
      rw [← E1.out] at o7
      rw [TLL.out] at hrun
      have HR := Lib.hid hrun
      have O7 := Lib.hid o7
      have K7 : Hid (Keeps (fun _ => False) w w7) := Lib.hid (kb_trans (KK.out.trans k6) b7)
      clear k6 o6 c6 hrun o7 b7
      go_wp2_with (first | (at_builtin; refine wpList_append_run rfl _ _ 25 rfl _ HR.out ?_) | fail)
      go_roundw
      case rel => exact ⟨j + 1, (y : Int) - 1, R', cap', Lib.hid (by have := HZZ.out; omega), by have := HZZ.out; omega, rfl, rfl, O7.out, K7.out⟩
      case measure => simp [RowKit.intOf]
    · obtain rfl : j = k := by omega
      rw [List.take_of_length_le (by omega)] at ho
      have x2 : ¬ (0 : Int) ≤ z := by have := hz.out; omega
      have Q := Lib.hid ho.iq
      have KK := Lib.hid hk2
      have TLL := Lib.hid TL
      clear ho hk2 TL
      go_wp2_with fail
      go_ret
      exact ⟨R, cap, by rw [TLL.out]; rfl, Q.out, KK.out⟩
end Go.Proofs.Ytmaoaeebggpbbaa.Sk
