/-
  FrFiles
-/
import Derived.Test.YtefgabnmcfpdcaaGreatDoorSqz
import Derived.Test.YtefgabnmcfpdcaaGreatDoorFrFil
import Derived.Test.YtefgabnmcfpdcaaGreatDoorGFi
namespace Go.Proofs.YtefgabnmcfpdcaaGreatDoor.Fr
open Go.RowKit Ex Ino Mm Fs
set_option linter.unusedVariables false
set_option linter.unusedSimpArgs false
variable {w : World} {mi q b c d e : Nat} {M G : List UInt8}
def RFilesOut (w : World) (bs : List UInt8) (en : Ending) (w' : World) : Prop := Keeps (fun _ => False) w w' ∧
  ((okR bs ∧ ∃ R cap fl, en = .returned (.tuple #[.slice R fl.length cap, .int .i64 0]) ∧ FilR w' w.heap.size R cap fl ∧ fl.map (fun d => (d.name, d.xs)) = filesV ⟨bs, readN bs⟩) ∨
   (¬ okR bs ∧ en = .returned (.tuple #[.slice none 0 0, .int .i64 120])))
def filesTo (bs : List UInt8) (m : Nat) : List (List UInt8 × List UInt8) := ((List.range m).filter fun i => isF (at' (readN bs) i)).map fun i => ((at' (readN bs) i).name, dataV ⟨bs, readN bs⟩ (at' (readN bs) i))
theorem filesTo_8 (bs : List UInt8) : filesTo bs 8 = filesV ⟨bs, readN bs⟩ := rfl
theorem filesTo_yes {bs : List UInt8} {m : Nat} (h : isF (at' (readN bs) m) = true) : filesTo bs (m + 1) = filesTo bs m ++ [((at' (readN bs) m).name, dataV ⟨bs, readN bs⟩ (at' (readN bs) m))] := by
 unfold filesTo
 rw [List.range_succ, List.filter_append, List.map_append]
 simp [h]
theorem filesTo_no {bs : List UInt8} {m : Nat} (h : isF (at' (readN bs) m) = false) : filesTo bs (m + 1) = filesTo bs m := by
 unfold filesTo
 rw [List.range_succ, List.filter_append, List.map_append]
 simp [h]
theorem runBuildG (xs : List UInt8) (R : Option Addr) (n c : Nat) (w : World) : (Instr.build 63 #[(0, St xs), (1, .slice R n c)]).run Tryz.prog w = .ok (.agg #[St xs, .slice R n c]) w := by kernel_rfl
theorem br_take {w : World} {B : Nat} {A : Option Addr} {xs : List UInt8} (h : BR w B A xs) (s : Nat) : BR w B A (xs.take s) := by
 intro hne
 have hn : xs ≠ [] := by intro e; rw [e] at hne; simp at hne
 obtain ⟨ad, e, hb, hc⟩ := h hn
 refine ⟨ad, e, hb, fun j u hu => hc j u ?_⟩
 rw [List.getElem?_take] at hu
 split at hu
 ·exact hu
 ·cases hu
def FlL (w : World) (bs : List UInt8) (w1 : World) (g : Nat) (ov iv : Value) (wr : World) : Prop :=
 ∃ m fl Ro co, g = 8 - m ∧ m ≤ 8 ∧ iv = .int .i64 (m : Int) ∧ ov = .slice Ro fl.length co ∧ FilR wr w1.heap.size Ro co fl ∧ fl.map (fun d => (d.name, d.xs)) = filesTo bs m ∧ fl.length ≤ m ∧ Below w1.heap.size w1 wr
set_option maxRecDepth 100000 in
set_option maxHeartbeats 1000000 in
theorem rfiles_any (h : RefH w mi q b c d e M G) : Calls Tryz.prog 52 #[.pointer (some ⟨q, 0, none⟩)] w (RFilesOut w (regB M)) := by
 have HT := Lib.hid (rtable_any h)
 have H := Lib.hid h
 have hM : M.length = 8192 := h.bl
 clear h
 go_enter Tryz.func52, Tryz.ntmps52
 go_wp2_with fail
 refine HT.out.mono ?_
 rintro en w1 ⟨k1, ⟨hok, R, cap, ls, rfl, hls, hm, ht⟩ | ⟨hno, rfl⟩⟩
 rotate_left
 ·have HG : Hid (RFilesOut w (regB M) (.returned (.tuple #[.slice none 0 0, .int .i64 120])) w1) := ⟨k1, .inr ⟨hno, rfl⟩⟩
  clear k1 hno HT
  go_wp2_with fail
  go_ret2
  exact HG.out
 have hmap : ls.map (·.x) = (readN (regB M)).take 8 := by rw [hm, List.take_of_length_le (by rw [readN_len]; omega)]
 have HTT := Lib.hid ht
 have K1 := Lib.hid (And.intro k1 hok)
 have H1 := Lib.hid (H.out.keep k1 fun _ _ _ f => f)
 have HGD := Lib.hid (good_of hM hok)
 have HC0 : Hid (FlL w (regB M) w1 8 (.slice none 0 0) (.int .i64 0) w1) := ⟨0, [], none, 0, by omega, by omega, rfl, rfl, ⟨World.ownsRow_nil _ _ _ _, fun _ h => by (cases h), fun _ h => by (cases h)⟩, rfl, by simp, Below.refl _ _⟩
 clear ht hok k1 hm HT
 go_wp2_with fail
 go_loopg [7, 9, 20] 8 (fun g ov _ k wr => FlL w (regB M) w1 g ov k wr)
 case atStart => exact HC0.out
 case round =>
  obtain ⟨m, fl, Ro, co, rfl, hm, rfl, rfl, hfl, hvals, hlen, bq⟩ := hrel
  clear HC0
  by_cases hml : m < 8
  ·obtain ⟨gl, rfl, ca0, ca1, ca2⟩ := (HTT.out.keep (F := fun _ => False) (keeps_below' bq) fun _ _ _ f => f).own.at_ (k := m) (by omega)
   have hyx := map_at hmap (by omega : m < ls.length) hls
   have hext := (HTT.out.keep (F := fun _ => False) (keeps_below' bq) fun _ _ _ f => f).ext _ (List.getElem_mem (by omega : m < ls.length))
   have d1 : decide ((m : Int) < 8) = true := by simp only [decide_eq_true_eq]; omega
   have p0 : (0 : Int) ≤ m := by omega
   have p1 : (m : Int) < 8 := by omega
   have q3 : IntKind.i64.wrap ((m : Int) + 1) = (m : Int) + 1 := by rw [IntKind.wrap_i64]; omega
   generalize ls[m] = y at *
   have ba := (Below.refl wr.heap.size wr).alloc (Nat.le_refl _) (.cells #[St y.x.name, .int .i64 y.x.size, .slice y.R y.x.ext.length y.c] 123)
   have ka : Keeps (fun _ => False) wr (wr.alloc (.cells #[St y.x.name, .int .i64 y.x.size, .slice y.R y.x.ext.length y.c] 123)) := Keeps.alloc _ _ _
   by_cases heq : y.x.name = []
   ·have e4 : ((⟨y.x.name.toArray⟩ : ByteArray).toList == (⟨#[]⟩ : ByteArray).toList) = true := by rw [str_nil, str_eq]; simp [heq]
    have e5 : ((⟨y.x.name.toArray⟩ : ByteArray).toList != (⟨#[]⟩ : ByteArray).toList) = false := by rw [bne, e4]; rfl
    have hem : y.x.name.isEmpty = true := by simp [heq]
    have hno : isF (at' (readN (regB M)) m) = false := by rw [← hyx]; simp [isF, heq]
    have HR : Hid (FlL w (regB M) w1 (8 - (m + 1)) (.slice Ro fl.length co) (.int .i64 ((m : Int) + 1)) (wr.alloc (.cells #[St y.x.name, .int .i64 y.x.size, .slice y.R y.x.ext.length y.c] 123))) := ⟨m + 1, fl, Ro, co, rfl, by omega, by rw [Int.natCast_add]; rfl, rfl, hfl.keep ka fun _ _ _ f => f, by rw [hvals, filesTo_no hno], by omega, bq.trans (ba.mono bq.size)⟩
    clear hyx hfl hvals bq ba ka heq hno hext
    go_wp2_with fail
    go_roundg (8 - (m + 1))
    case rel => exact HR.out
    case measure => omega
   have e4 : ((⟨y.x.name.toArray⟩ : ByteArray).toList == (⟨#[]⟩ : ByteArray).toList) = false := by rw [str_nil, str_eq]; simp [heq]
   have e5 : ((⟨y.x.name.toArray⟩ : ByteArray).toList != (⟨#[]⟩ : ByteArray).toList) = true := by rw [bne, e4]; rfl
   have hem : y.x.name.isEmpty = false := by cases hh : y.x.name with
    | nil => exact absurd hh heq
    | cons _ _ => rfl
   have hyes : isF (at' (readN (regB M)) m) = true := by rw [← hyx]; simp [isF, heq]
   have hsz := HGD.out.size hml
   change (0 ≤ (at' (readN (regB M)) m).size ∧ (at' (readN (regB M)) m).size ≤ 1472) ∧ _ ∧ (at' (readN (regB M)) m).size ≤ 64 * (blkO (at' (readN (regB M)) m).ext).length at hsz
   have hfw : y.x.ext.length ≤ 100 := by
    rw [hyx, readN_at _ hml]
    exact (inOk_dec (b := page (regB M) (1 + m)) (w := wr) (R := y.R) (by rw [← readN_at _ hml, ← hyx]; exact hext)).few
   rw [← hyx] at hsz
   have hW := wholeV_len (regB_len hM) y.x.ext
   obtain ⟨s, hs⟩ : ∃ s : Nat, y.x.size = s := ⟨y.x.size.toNat, by omega⟩
   have hsW : s ≤ (wholeV (regB M) y.x.ext).length := by omega
   obtain ⟨wd, hwd⟩ : ∃ wd, wd = (wr.alloc (.cells #[St y.x.name, .int .i64 y.x.size, .slice y.R y.x.ext.length y.c] 123)).drew := ⟨_, rfl⟩
   have bd : Below wr.heap.size wr wd := by rw [hwd]; exact ba.drew
   have hbd : BoxN wd wr.heap.size ⟨y.x, y.R, y.c⟩ := by rw [hwd]; exact World.alloc_heap_new _ _
   have kd := keeps_below' (F := fun _ => False) bd
   have HRC := Lib.hid (rcontent_any (((H1.out.keep (keeps_below' (F := fun _ => False) bq) fun _ _ _ f => f).keep kd fun _ _ _ f => f)) y.x y.R y.c (xr_via hext kd fun _ _ _ f => f) hfw)
   have HS1 : Hid (some (Value.int .i64 y.x.size) = some (.int .i64 (s : Int))) := by show _ = _; rw [hs]
   have HTK : Hid (∀ Rc cc, (dcl ⟨y.x.name, Rc, cc, (wholeV (regB M) y.x.ext).take s⟩).toArray = #[St y.x.name, .slice Rc s cc]) := fun Rc cc => by unfold dcl; rw [List.length_take, Nat.min_eq_left hsW]
   have HAPP := Lib.hid fun (w3 : World) (Rc : Option Addr) (cc : Nat) (ho : Own8 w3 wd.heap.size 5 Rc cc (wholeV (regB M) y.x.ext)) (hb : Below wd.heap.size wd w3) => by
    have hf3 := (hfl.keep kd fun _ _ _ f => f).keep (keeps_below' (F := fun _ => False) hb) fun _ _ _ f => f
    have hszb : w1.heap.size ≤ w3.heap.size := by have := bq.size; have := bd.size; have := hb.size; omega
    exact FilR.app hf3 hszb (by omega) ⟨y.x.name, Rc, cc, (wholeV (regB M) y.x.ext).take s⟩ (br_take ho.br s) (fun _ ad e => by
     have h1 := World.ownsRow.lt ho ad.block (by rw [show Rc = some ad from e]; rfl)
     have h2 := bd.size
     have h3 := bq.size
     refine ⟨by omega, fun he => ?_⟩
     have := (hfl.own.row _ he).2.2
     have : ad.block < wr.heap.size := this
     omega)
   have HWD := Lib.hid hwd
   have hS := hbd
   have HVALS := Lib.hid hvals
   have HFL := Lib.hid hfl
   have BQ := Lib.hid bq
   have BD := Lib.hid bd
   have HYX := Lib.hid hyx
   have HYES := Lib.hid hyes
   have HSS := Lib.hid hs
   clear hyx hfl hvals bq ba ka heq hext hwd bd hbd kd hfw hyes hs hsz
   go_wp2_with fail
   refine wp_region_held (S := fun W => BoxN W wr.heap.size ⟨y.x, y.R, y.c⟩) (by kernel_rfl) ?_
   change wpAnyH _ _ _ _ _ _ _ _ (wr.alloc (.cells #[St y.x.name, .int .i64 y.x.size, .slice y.R y.x.ext.length y.c] 123)).drew
   rw [← HWD.out]
   refine sqH 0 (.slice Ro fl.length co) rfl (Or.inl ⟨by rfl, fun _ _ => rfl⟩) hS ?_
   try simp only [Act.put, sqT, sqZ, sqS]
   refine sqH 1 (.pointer (some ⟨wr.heap.size, 0, none⟩)) rfl (Or.inl ⟨by rfl, fun _ _ => by go_simp⟩) hS ?_
   try simp only [Act.put, sqT, sqZ, sqS]
   refine sqH 2 (St y.x.name) rfl (yif_load rfl 9 (.tmp 28) rfl _ _ rfl fun w h => load_one aggStr h.c.1) hS ?_
   try simp only [Act.put, sqT, sqZ, sqS]
   refine sqH 3 (.pointer (some ⟨q, 0, none⟩)) rfl (Or.inl ⟨by rfl, fun _ _ => rfl⟩) hS ?_
   try simp only [Act.put, sqT, sqZ, sqS]
   refine sqH 4 (Ino.ag y.x y.R y.c) rfl (yif_load rfl 123 (.tmp 9) rfl _ _ rfl fun W h => BoxN.load h) hS ?_
   try simp only [Act.put, sqT, sqZ, sqS]
   refine sqH 6 (.pointer (some ⟨wr.heap.size, 1, none⟩)) rfl (Or.inl ⟨by rfl, fun _ _ => by go_simp⟩) hS ?_
   try simp only [Act.put, sqT, sqZ, sqS]
   refine sqH 7 (.int .i64 (s : Int)) rfl (yif_load rfl 3 (.tmp 33) rfl _ _ rfl fun w h => load_one aggI3 (h.c.2.1.trans HS1.out)) hS ?_
   try simp only [Act.put, sqT, sqZ, sqS]
   refine wpAnyH_all (rs := [5]) (by kernel_rfl) (by simp) fun i hi => ?_
   obtain rfl : i = 5 := by simpa using hi
   refine op_call (om := ⟨_, _, _, _, _, _⟩) (fn := 113) (args := #[.pointer (some ⟨q, 0, none⟩), Ino.ag y.x y.R y.c]) (R := fun u W' => ∃ Rc cc, u = .slice Rc (wholeV (regB M) y.x.ext).length cc ∧ Own8 W' wd.heap.size 5 Rc cc (wholeV (regB M) y.x.ext) ∧ Below wd.heap.size wd W') rfl rfl (by go_simp)
    (HRC.out.mono fun e W' ⟨Rc, cc, he, ho, hb⟩ => ⟨_, he, Rc, cc, rfl, ho, hb⟩) _ _ rfl rfl ?_
   rintro u w3 ⟨Rc, cc, rfl, ownc, b3⟩
   have hS : BoxN w3 wr.heap.size ⟨y.x, y.R, y.c⟩ := hS.below b3
   have hcap := own8_cap ownc
   have hsc : s ≤ cc := by omega
   refine ⟨hS, ?_⟩
   try simp only [Act.put, sqT, sqZ, sqS]
   refine sqH 8 (.slice Rc s cc) rfl (Or.inl ⟨by rfl, fun _ _ => by go_simp⟩) hS ?_
   try simp only [Act.put, sqT, sqZ, sqS]
   refine sqH 9 (.agg #[St y.x.name, .slice Rc s cc]) rfl (Or.inl ⟨by rfl, fun _ _ => ex_build2F 63 (.tmp 29) (.tmp 35) rfl (St y.x.name) (.slice Rc s cc) _ rfl rfl (runBuildG _ _ _ _ _)⟩) hS ?_
   try simp only [Act.put, sqT, sqZ, sqS]
   obtain ⟨R', cap', w4, hap, hfr, hkk, hmv⟩ := HAPP.out w3 Rc cc ownc b3
   have HB3 := Lib.hid hS
   refine wpAnyH_all (rs := [10]) (by kernel_rfl) (by simp) fun i hi => ?_
   obtain rfl : i = 10 := by simpa using hi
   refine op_run (om := ⟨_, _, _, _, _, _⟩) (u := .slice (some ⟨w3.heap.size, 0, none⟩) 1 1) (w' := w3.alloc (.cells (dcl ⟨y.x.name, Rc, cc, (wholeV (regB M) y.x.ext).take s⟩).toArray 63)) rfl rfl (by rw [HTK.out]; exact ex_buildSlice 59 _ rfl _ _ rfl (by go_simp)) _ _ rfl rfl ?_
   rintro u w3a ⟨rfl, rfl⟩
   have hS : BoxN (w3.alloc (.cells (dcl ⟨y.x.name, Rc, cc, (wholeV (regB M) y.x.ext).take s⟩).toArray 63)) wr.heap.size ⟨y.x, y.R, y.c⟩ := hS.below ((Below.refl _ _).alloc (Nat.le_refl _) _)
   refine ⟨hS, ?_⟩
   try simp only [Act.put, sqT, sqZ, sqS]
   refine wpAnyH_all (rs := [11]) (by kernel_rfl) (by simp) fun i hi => ?_
   obtain rfl : i = 11 := by simpa using hi
   refine op_run (om := ⟨_, _, _, _, _, _⟩) rfl rfl (ex_append2 _ _ 59 59 rfl _ hap) _ _ rfl rfl ?_
   rintro u w4a ⟨rfl, rfl⟩
   have hS : BoxN w4a wr.heap.size ⟨y.x, y.R, y.c⟩ := (hkk.block _ HB3.out.lt (fun e => Nat.lt_irrefl _ (HFL.out.own.row _ e).2.2)).trans HB3.out
   refine ⟨hS, ?_⟩
   try simp only [Act.put, sqT, sqZ, sqS]
   refine sqH 12 (.slice R' (fl.length + 1) cap') rfl (Or.inl ⟨by rfl, fun _ _ => rfl⟩) hS ?_
   try simp only [Act.put, sqT, sqZ, sqS]
   refine wpAnyH_done (by kernel_rfl) ?_ _
   try simp only [Act.put, sqT, sqZ, sqS]
   have kk : Keeps (fun k => Ro = some ⟨k, 0, none⟩) wr w4a := ((keeps_below' BD.out).trans (keeps_below' b3)).trans hkk
   have b4 : Below w1.heap.size wr w4a := ⟨kk.os, kk.tape, kk.output, kk.size, fun k hk => kk.block k (by have := BQ.out.size; omega) (fun e => by have h1 : w1.heap.size ≤ k := (HFL.out.own.row _ e).2.1; omega)⟩
   have HR : Hid (FlL w (regB M) w1 (8 - (m + 1)) (.slice R' (fl.length + 1) cap') (.int .i64 ((m : Int) + 1)) w4a) := by
    refine ⟨m + 1, fl ++ [⟨y.x.name, Rc, cc, (wholeV (regB M) y.x.ext).take s⟩], R', cap', rfl, by omega, by rw [Int.natCast_add]; rfl, by rw [List.length_append, List.length_singleton], hfr, ?_, by rw [List.length_append, List.length_singleton]; omega, BQ.out.trans b4⟩
    rw [List.map_append, HVALS.out, filesTo_yes HYES.out, ← HYX.out]
    unfold dataV
    rw [HSS.out, Int.toNat_natCast]
    rfl
   clear hap hfr hkk hmv b3 ownc kk b4 HAPP HB3 hS BD BQ HFL HVALS
   go_wp2_with fail
   go_roundg (8 - (m + 1))
   case rel => exact HR.out
   case measure => omega
  ·obtain rfl : m = 8 := by omega
   have HG : Hid (RFilesOut w (regB M) (.returned (.tuple #[.slice Ro fl.length co, .int .i64 0])) wr) := ⟨K1.out.1.trans (keeps_below' bq), .inl ⟨K1.out.2, Ro, co, fl, rfl, hfl.low K1.out.1.size, by rw [hvals, filesTo_8]⟩⟩
   clear hfl hvals bq
   go_wp2_with fail
   go_ret2
   exact HG.out
end Go.Proofs.YtefgabnmcfpdcaaGreatDoor.Fr
