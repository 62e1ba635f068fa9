/-
  FrCont
-/
import Derived.Test.YtefgabnmcfpdcaaGreatDoorFrAsk
namespace Go.Proofs.YtefgabnmcfpdcaaGreatDoor.Fr
open Go.RowKit Ex Ino Mm Fs
set_option linter.unusedVariables false
set_option linter.unusedSimpArgs false
variable {w : World} {mi q b c d e : Nat} {M G : List UInt8}
def CoR (w6 : World) (bs : List UInt8) (own : List Nat) (g : Nat) (ov kv : Value) (wr : World) : Prop :=
 ∃ j Ro co zs, g = own.length - j ∧ j ≤ own.length ∧ kv = .int .i64 (j : Int) ∧ zs = (own.take j).flatMap (page bs) ∧ zs.length = 64 * j ∧ ov = .slice Ro zs.length co ∧ Own8 wr w6.heap.size 5 Ro co zs ∧ Below w6.heap.size w6 wr
theorem box_in (w : World) (x : IN) (R : Option Addr) (c : Nat) : (Instr.box 123 (Ino.ag x R c)).run Tryz.prog w = .ok (.pointer (some ⟨w.heap.size, 0, none⟩)) (w.alloc (.cells #[St x.name, .int .i64 x.size, .slice R x.ext.length c] 123)) := rfl
set_option maxRecDepth 100000 in
set_option maxHeartbeats 1000000 in
theorem rcontent_any (h : RefH w mi q b c d e M G) (x : IN) (R : Option Addr) (cx : Nat) (hx : XR w w.heap.size R x.ext) (hf : x.ext.length ≤ 100) :
  Calls Tryz.prog 113 #[.pointer (some ⟨q, 0, none⟩), Ino.ag x R cx] w (GivesO w (wholeV (regB M) x.ext)) := by
 have BX := Lib.hid (box_in w x R cx)
 have k0 : Keeps (fun _ => False) w (w.alloc (.cells #[St x.name, .int .i64 x.size, .slice R x.ext.length cx] 123)) := Keeps.alloc _ _ _
 have hl : (regB M).length = 2048 := by unfold regB; rw [List.length_drop]; have := h.bl; omega
 have HBL := Lib.hid (rblocks_any R x.ext cx _ (xr_via hx k0 fun _ _ _ f => f) hf)
 have H := Lib.hid h
 have K0 := Lib.hid k0
 have hg := blkO_good x.ext
 have c2 : (w.alloc (.cells #[St x.name, .int .i64 x.size, .slice R x.ext.length cx] 123)).cell? ⟨w.heap.size, 2, none⟩ = some (.slice R x.ext.length cx) := by rw [cell_of_row _ _ _ _ _ _ (World.alloc_heap_new w _)]; rfl
 have hwv : wholeV (regB M) x.ext = (blkO x.ext).flatMap (page (regB M)) := rfl
 clear h k0 hx
 generalize hbs : regB M = bs at *
 generalize hw0 : w.alloc (.cells #[St x.name, .int .i64 x.size, .slice R x.ext.length cx] 123) = w0 at *
 rw [hwv]
 unfold Ino.ag at BX ⊢
 clear hwv
 go_enter Tryz.func113, Tryz.ntmps113
 go_wp2_with (first
  | ((with_reducible refine at_ (op := .box 123 (.tmp 1)) ?_); refine wpList_val rfl _ (ex_box 123 (.tmp 1) rfl _ _ rfl BX.out) ?_)
  | fail)
 refine HBL.out.mono ?_
 rintro en w6 ⟨Ro, co, rfl, own6, b6⟩
 have kk : Keeps (fun _ => False) w w6 := K0.out.trans (keeps_below' b6)
 have s6 := kk.size
 have hR6 := H.out.keep kk fun _ _ _ f => f
 generalize blkO x.ext = own at *
 have HO := Lib.hid own6
 have KK := Lib.hid kk
 have HR6 := Lib.hid hR6
 have hol := hg.len
 have HC0 : Hid (CoR w6 bs own own.length (.slice none 0 0) (.int .i64 0) w6) := ⟨0, none, 0, [], by omega, by omega, rfl, by simp, rfl, rfl, World.ownsRow_nil _ _ _ _, Below.refl _ _⟩
 clear own6 b6 kk hR6 HBL BX H K0 c2 hw0
 go_wp2_with fail
 go_loopg [5, 9, 18] own.length (fun g ov _ kv wr => CoR w6 bs own g ov kv wr)
 case atStart => exact HC0.out
 case round =>
  obtain ⟨j, Rz, cz, zs, rfl, hj, rfl, hzs, hzl, rfl, ownz, bz⟩ := hrel
  clear HC0
  by_cases hjl : j < own.length
  ·obtain ⟨go, rfl, hgo, co0⟩ := HO.out.ir.at_ hjl
   have co1 := (bz.cell (p := ⟨go, j, none⟩) hgo).trans co0
   have hb32 := hg.2 own[j] (List.getElem_mem hjl)
   have hbk := rblock_any (HR6.out.keep (keeps_below' (F := fun _ => False) bz) fun _ _ _ f => f) own[j] (by omega)
   rw [hbs] at hbk
   have hpl := page_len' hl (n := own[j]) (by omega)
   have hnext : (own.take (j + 1)).flatMap (page bs) = zs ++ page bs own[j] := by rw [List.take_succ_eq_append_getElem hjl, List.flatMap_append, hzs]; simp
   have d1 : decide ((j : Int) < (own.length : Int)) = true := by simp only [decide_eq_true_eq]; omega
   have d2 : decide (j < own.length) = true := by simp only [decide_eq_true_eq]; omega
   have p0 : (0 : Int) ≤ j := by omega
   have p1 : (j : Int) < own.length := by omega
   have q3 : IntKind.i64.wrap ((j : Int) + 1) = (j : Int) + 1 := by rw [IntKind.wrap_i64]; omega
   have HBK := Lib.hid hbk
   have OZ := Lib.hid ownz
   have BZ := Lib.hid bz
   have HZ := Lib.hid (And.intro hzs hnext)
   clear hbk ownz bz hzs hnext co0 hb32
   generalize own[j] = bj at *
   go_wp2_with fail
   refine HBK.out.mono ?_
   rintro en w7 ⟨g7, rfl, hr7, k7⟩
   rw [hpl]
   have bz7 : Below w6.heap.size w6 w7 := BZ.out.trans ((k7.toBelow wr.heap.size (Nat.le_refl _) fun _ f => f.elim).mono BZ.out.size)
   have oz7 : Own8 w7 w6.heap.size 5 Rz cz zs := by
    refine ⟨OZ.out.1, ?_⟩
    rcases OZ.out.2 with h0 | ⟨g', cap', cur, hv, hB, hgg, rest⟩
    ·exact .inl h0
    ·exact .inr ⟨g', cap', cur, hv, hB, (k7.block g' (Array.getElem?_eq_some_iff.1 hgg).1 (fun f => f)).trans hgg, rest⟩
   obtain ⟨g8, c8, w8, hap, own8, b8⟩ := Own8.app (P := Tryz.prog) 31 31 5 (by kernel_rfl) Tryz.underlying31 oz7 bz7.size (by omega) 64 hr7.br (by omega) (by intro e; rw [e] at hpl; cases hpl)
   rw [hpl, hzl] at hap
   have HAP := Lib.hid hap
   have HR : Hid (CoR w6 bs own (own.length - (j + 1)) (.slice (some ⟨g8, 0, none⟩) (64 * j + 64) c8) (.int .i64 ((j : Int) + 1)) w8) :=
    ⟨j + 1, _, c8, zs ++ page bs bj, rfl, by omega, by rw [Int.natCast_add]; rfl, HZ.out.2.symm, by rw [List.length_append, hzl, hpl]; omega, by rw [List.length_append, hzl, hpl], own8, bz7.trans b8⟩
   rw [hzl]
   clear hr7 k7 bz7 oz7 hap own8 b8 OZ BZ HZ HBK
   go_wp2_with (first
    | ((with_reducible refine here (op := .call { callee := .builtin .append, args := #[.tmp 22, .tmp 25], argTypes := #[31, 31] }) ?_); refine wpList_append_run rfl _ _ 31 rfl _ HAP.out ?_)
    | fail)
   go_roundg (own.length - (j + 1))
   case rel => exact HR.out
   case measure => omega
  ·obtain rfl : j = own.length := by omega
   rw [List.take_length] at hzs
   have d1 : decide ((own.length : Int) < (own.length : Int)) = false := by simp
   have HG : Hid (GivesO w (own.flatMap (page bs)) (.returned (.slice Rz zs.length cz)) wr) := ⟨Rz, cz, by rw [hzs], by rw [← hzs]; exact ownz.low s6, (KK.out.toBelow w.heap.size (Nat.le_refl _) fun _ f => f.elim).trans (bz.mono s6)⟩
   clear ownz bz hzs
   generalize zs.length = zl at *
   go_wp2_with fail
   go_ret
   exact HG.out
end Go.Proofs.YtefgabnmcfpdcaaGreatDoor.Fr
