/-
  FrRead
-/
import Derived.Test.YtefgabnmcfpdcaaGreatDoorSqz
import Derived.Test.YtefgabnmcfpdcaaGreatDoorFrCont
import Derived.Test.YtefgabnmcfpdcaaGreatDoorGFf
namespace Go.Proofs.YtefgabnmcfpdcaaGreatDoor.Fr
open Go.RowKit Ex Ino Mm Fs
set_option linter.unusedVariables false
set_option linter.unusedSimpArgs false
variable {w : World} {mi q b c d e : Nat} {M G : List UInt8}
def RdO (w : World) (bs : List UInt8) (n a k : Int) (en : Ending) (w' : World) : Prop := Keeps (fun _ => False) w w' ∧
  ((okR bs ∧ ∃ A c, en = .returned (.tuple #[.slice A (readX ⟨bs, readN bs⟩ n a k).length c, .int .i64 (readE ⟨bs, readN bs⟩ n a k)]) ∧ BR w' w'.heap.size A (readX ⟨bs, readN bs⟩ n a k)) ∨
   (¬ okR bs ∧ en = .returned (.tuple #[.slice none 0 0, .int .i64 120])))
theorem rdO_no {w w' : World} {bs : List UInt8} {n a k E : Int} (kk : Keeps (fun _ => False) w w') (hok : okR bs) (hE : readE ⟨bs, readN bs⟩ n a k = E) (hX : readX ⟨bs, readN bs⟩ n a k = []) : RdO w bs n a k (.returned (.tuple #[.slice none 0 0, .int .i64 E])) w' :=
 ⟨kk, .inl ⟨hok, none, 0, by rw [hE, hX]; rfl, by rw [hX]; exact BR.nil⟩⟩
theorem br_drop {w : World} {B g : Nat} {xs : List UInt8} (h : BR w B (some ⟨g, 0, none⟩) xs) (k n : Nat) : BR w B (some ⟨g, k, none⟩) ((xs.drop k).take n) := by
 intro hne
 have hn : xs ≠ [] := by intro e; rw [e] at hne; simp at hne
 obtain ⟨ad, e, hb, hc⟩ := h hn
 cases e
 refine ⟨_, rfl, hb, fun j u hu => ?_⟩
 rw [List.getElem?_take] at hu
 split at hu
 ·rw [List.getElem?_drop] at hu
  have := hc (k + j) u hu
  have e1 : (⟨g, 0, none⟩ : Addr).add (k + j) = ⟨g, k + j, none⟩ := by unfold Addr.add; split <;> simp_all
  have e2 : (⟨g, k, none⟩ : Addr).add j = ⟨g, k + j, none⟩ := by unfold Addr.add; split <;> simp_all
  rw [e1] at this
  rw [e2]
  exact this
 ·cases hu
theorem own8_cap {w : World} {B : Nat} {R : Option Addr} {cap : Nat} {zs : List UInt8} (h : Own8 w B 5 R cap zs) : zs.length ≤ cap := by
 rcases h.2 with ⟨h0, h1⟩ | ⟨g', cap', cur, hv, hB, hgg, hc, _⟩
 ·omega
 ·injection hv with _ _ h3
  omega
set_option maxRecDepth 100000 in
set_option maxHeartbeats 1000000 in
theorem rread_any (h : RefH w mi q b c d e M G) (n a k : Int) (hn : -9223372036854775808 ≤ n ∧ n ≤ 9223372036854775807) (ha : -9223372036854775808 ≤ a ∧ a ≤ 9223372036854775807) (hk : -9223372036854775808 ≤ k ∧ k ≤ 9223372036854775807) :
  Calls Tryz.prog 46 #[.pointer (some ⟨q, 0, none⟩), .int .i64 n, .int .i64 a, .int .i64 k] w (RdO w (regB M) n a k) := by
 have HN := Lib.hid (rnode_any h n hn)
 have H := Lib.hid h
 have hml := h.bl
 clear h
 have hgood : okR (regB M) → RGood ⟨regB M, readN (regB M)⟩ := fun ho => good_of hml ho
 go_enter Tryz.func46, Tryz.ntmps46
 go_wp2_with fail
 refine HN.out.mono ?_
 rintro en w1 ⟨k1, ⟨hok, R, cx, rfl, hx⟩ | ⟨hno, rfl⟩⟩
 rotate_left
 ·have HG : Hid (RdO w (regB M) n a k (.returned (.tuple #[.slice none 0 0, .int .i64 120])) (w1.alloc (.cells #[.string ⟨#[]⟩, .int .i64 0, .slice none 0 0] 123))) := ⟨k1.trans (Keeps.alloc _ _ _), .inr ⟨hno, rfl⟩⟩
  clear k1 hno HN H hgood
  go_wp2_with fail
  go_ret2
  exact HG.out
 have hgd := hgood hok
 have hro := H.out.keep k1 fun _ _ _ f => f
 by_cases hE : nodeE (readN (regB M)) n = 0
 case neg =>
  have h1 : readE ⟨regB M, readN (regB M)⟩ n a k = nodeE (readN (regB M)) n := by unfold readE; rw [if_pos hE]
  have h2 : readX ⟨regB M, readN (regB M)⟩ n a k = [] := by unfold readX; rw [if_neg (by rw [h1]; exact hE)]
  have HG : Hid (∀ W, Keeps (fun _ => False) w W → RdO w (regB M) n a k (.returned (.tuple #[.slice none 0 0, .int .i64 (nodeE (readN (regB M)) n)])) W) := fun W hW => rdO_no hW hok h1 h2
  have t1 : (nodeE (readN (regB M)) n != 0) = true := by simp [hE]
  have K1 := Lib.hid k1
  clear h1 h2 hgd hro hgood H HN hok k1 hx
  generalize nodeX (readN (regB M)) n = x at *
  generalize nodeE (readN (regB M)) n = E at *
  generalize (if E = 0 then (usedN (readN (regB M)) : Int) else 0) = u at *
  have HG2 := Lib.hid (HG.out _ (K1.out.trans (Keeps.alloc _ _ (.cells #[St x.name, .int .i64 x.size, .slice R x.ext.length cx] 123))))
  clear HG K1 hE
  go_wp2_with fail
  go_ret2
  exact HG2.out
 have t1 : (nodeE (readN (regB M)) n != 0) = false := by simp [hE]
 obtain ⟨⟨hn0, hn8⟩, hisF⟩ := nodeE_zero.1 hE
 have hsz := hgd.size (i := n.toNat) (by omega)
 have hX : nodeX (readN (regB M)) n = at' (readN (regB M)) n.toNat := by unfold nodeX; rw [if_pos hE]
 have hat := readN_at (regB M) (i := n.toNat) (by omega)
 have hfew : (nodeX (readN (regB M)) n).ext.length ≤ 100 := by
  have := (inOk_dec (b := page (regB M) (1 + n.toNat)) (w := w1) (R := R) (by rw [← hat, ← hX]; exact hx)).few
  rwa [← hat, ← hX] at this
 have hwl : (wholeV (regB M) (nodeX (readN (regB M)) n).ext).length = 64 * (blkO (nodeX (readN (regB M)) n).ext).length := wholeV_len (by unfold regB; rw [List.length_drop]; omega) _
 have hbl23 := (blkO_good (nodeX (readN (regB M)) n).ext).len
 have hre : readE ⟨regB M, readN (regB M)⟩ n a k = if a < 0 ∨ k < 0 then 1 else 0 := by unfold readE; rw [if_neg (by rw [show (⟨regB M, readN (regB M)⟩ : RG).ns = readN (regB M) from rfl, hE]; decide)]
 have hrx : readX ⟨regB M, readN (regB M)⟩ n a k = if a < 0 ∨ k < 0 then [] else ((wholeV (regB M) (nodeX (readN (regB M)) n).ext).drop (rdAt (nodeX (readN (regB M)) n) a)).take (rdN (nodeX (readN (regB M)) n) a k) := by
  unfold readX
  rw [hre]
  by_cases h0 : a < 0 ∨ k < 0
  ·rw [if_pos h0, if_neg (by decide), if_pos h0]
  ·rw [if_neg h0, if_pos rfl, if_neg h0]
 obtain ⟨w2, hw2⟩ : ∃ w2, w2 = w1.alloc (.cells #[St (nodeX (readN (regB M)) n).name, .int .i64 (nodeX (readN (regB M)) n).size, .slice R (nodeX (readN (regB M)) n).ext.length cx] 123) := ⟨_, rfl⟩
 have k12 : Keeps (fun _ => False) w1 w2 := by rw [hw2]; exact Keeps.alloc _ _ _
 have hbox : w2.heap[w1.heap.size]? = some (.cells #[St (nodeX (readN (regB M)) n).name, .int .i64 (nodeX (readN (regB M)) n).size, .slice R (nodeX (readN (regB M)) n).ext.length cx] 123 (0, 0)) := by rw [hw2]; exact World.alloc_heap_new _ _
 have hRC := fun W (kW : Keeps (fun _ => False) w2 W) => rcontent_any (hro.keep (k12.trans kW) fun _ _ _ f => f) _ R cx (xr_via hx (k12.trans kW) fun _ _ _ f => f) hfew
 have KW := Lib.hid (And.intro (k1.trans k12) hok)
 rw [← hX] at hsz
 obtain ⟨⟨hs0, hs1⟩, _, hs2⟩ := hsz
 rw [if_pos hE]
 have RE := Lib.hid hre
 have RX := Lib.hid hrx
 have HRC := Lib.hid hRC
 have c0 : w2.cell? ⟨w1.heap.size, 0, none⟩ = some (St (nodeX (readN (regB M)) n).name) := by rw [cell_of_row _ _ _ _ _ _ hbox]; rfl
 have c1 : w2.cell? ⟨w1.heap.size, 1, none⟩ = some (.int .i64 (nodeX (readN (regB M)) n).size) := by rw [cell_of_row _ _ _ _ _ _ hbox]; rfl
 have c2 : w2.cell? ⟨w1.heap.size, 2, none⟩ = some (.slice R (nodeX (readN (regB M)) n).ext.length cx) := by rw [cell_of_row _ _ _ _ _ _ hbox]; rfl
 have hlt12 : w1.heap.size < w2.heap.size := by rw [hw2, World.size_alloc]; omega
 rw [hE]
 clear k1 hok hx hgd hro hgood H HN hfew hRC k12 hre hrx hX hat hisF t1 hE
 generalize nodeX (readN (regB M)) n = x at *
 generalize (usedN (readN (regB M)) : Int) = u at *
 generalize wholeV (regB M) x.ext = W at *
 by_cases hbad : a < 0 ∨ k < 0
 ·have HG : Hid (RdO w (regB M) n a k (.returned (.tuple #[.slice none 0 0, .int .i64 1])) w2) := rdO_no KW.out.1 KW.out.2 (by rw [RE.out, if_pos hbad]) (by rw [RX.out, if_pos hbad])
  rw [hw2] at HG
  clear RE RX KW HRC c0 c1 c2 hw2
  by_cases hneg : a < 0
  ·have d1 : decide (a < 0) = true := by simp only [decide_eq_true_eq]; exact hneg
   clear hbad hneg
   go_wp2_with fail
   go_ret2
   exact HG.out
  ·have d1 : decide (a < 0) = false := by simp only [decide_eq_false_iff_not]; exact hneg
   have d2 : decide (k < 0) = true := by simp only [decide_eq_true_eq]; omega
   clear hbad hneg
   go_wp2_with fail
   go_ret2
   exact HG.out
 ·have d1 : decide (a < 0) = false := by simp only [decide_eq_false_iff_not]; omega
  have d2 : decide (k < 0) = false := by simp only [decide_eq_false_iff_not]; omega
  have hre0 : readE ⟨regB M, readN (regB M)⟩ n a k = 0 := by rw [RE.out, if_neg hbad]
  have hrx0 := RX.out
  rw [if_neg hbad] at hrx0
  have RE0 := Lib.hid hre0
  have RX0 := Lib.hid hrx0
  have ha0 : 0 ≤ a := by omega
  have hk0 : 0 ≤ k := by omega
  clear hre0 hrx0 RE RX hbad
  go_wp2_with fail
  rw [← hw2]
  clear hw2
  obtain ⟨wd, hwd⟩ : ∃ wd, wd = w2.drew := ⟨_, rfl⟩
  have hbd : BoxN wd w1.heap.size ⟨x, R, cx⟩ := by rw [hwd]; exact hbox
  have kwd : Keeps (fun _ => False) w2 wd := by rw [hwd]; exact keeps_below' ((Below.refl _ _).drew)
  obtain ⟨s, hs⟩ : ∃ s : Nat, x.size = s := ⟨x.size.toNat, by omega⟩
  have cd1 := hbd.c.2.1
  have hsW : s ≤ W.length := by omega
  rw [show (⟨x, R, cx⟩ : ND).x.size = (s : Int) from hs] at cd1
  refine wp_region_held (S := fun W => Below wd.heap.size wd W) (by kernel_rfl) ?_
  change wpAnyH _ _ _ _ _ _ _ _ w2.drew
  rw [← hwd]
  have hS : Below wd.heap.size wd wd := Below.refl _ _
  refine sqH 0 (.pointer (some ⟨q, 0, none⟩)) rfl (Or.inl ⟨by rfl, fun _ _ => rfl⟩) hS ?_
  try simp only [Act.put, sqT, sqZ, sqS]
  refine sqH 1 (Ino.ag x R cx) rfl (yif_load rfl 123 (.tmp 10) rfl _ _ rfl fun W h => (hbd.below h).load) hS ?_
  try simp only [Act.put, sqT, sqZ, sqS]
  refine sqH 3 (.pointer (some ⟨w1.heap.size, 1, none⟩)) rfl (Or.inl ⟨by rfl, fun _ _ => by go_simp⟩) hS ?_
  try simp only [Act.put, sqT, sqZ, sqS]
  refine sqH 4 (.int .i64 (s : Int)) rfl (yif_load rfl 3 (.tmp 33) rfl _ _ rfl fun w h => load_one aggI3 ((h.cell (p := ⟨_, 1, none⟩) hbd.lt).trans cd1)) hS ?_
  try simp only [Act.put, sqT, sqZ, sqS]
  refine wpAnyH_all (rs := [2]) (by kernel_rfl) (by simp) fun i hi => ?_
  obtain rfl : i = 2 := by simpa using hi
  refine op_call (om := ⟨_, _, _, _, _, _⟩) (fn := 113) (args := #[.pointer (some ⟨q, 0, none⟩), Ino.ag x R cx]) (R := fun u W' => ∃ Rc cc, u = .slice Rc W.length cc ∧ Own8 W' wd.heap.size 5 Rc cc W ∧ Below wd.heap.size wd W') rfl rfl (by go_simp)
   ((HRC.out wd kwd).mono fun e W' ⟨Rc, cc, he, ho, hb⟩ => ⟨_, he, Rc, cc, rfl, ho, hb⟩) _ _ rfl rfl ?_
  rintro u w3 ⟨Rc, cc, rfl, ownc, b3⟩
  have hS := b3
  have hcap := own8_cap ownc
  have hsc : s ≤ cc := by omega
  refine ⟨hS, ?_⟩
  try simp only [Act.put, sqT, sqZ, sqS]
  refine sqH 5 (.slice Rc s cc) rfl (Or.inl ⟨by rfl, fun _ _ => by go_simp⟩) hS ?_
  try simp only [Act.put, sqT, sqZ, sqS]
  refine sqH 6 (.slice Rc s cc) rfl (Or.inl ⟨by rfl, fun _ _ => rfl⟩) hS ?_
  try simp only [Act.put, sqT, sqZ, sqS]
  refine wpAnyH_done (by kernel_rfl) ?_ _
  try simp only [Act.put, sqT, sqZ, sqS]
  have KK3 := Lib.hid (And.intro ((KW.out.1.trans kwd).trans (keeps_below' b3)) KW.out.2)
  have OW := Lib.hid ownc
  rw [hs] at hs0 hs1 hs2
  clear HRC c0 c1 c2 hbd cd1 kwd hS b3 KW ownc
  by_cases hge : (s : Int) ≤ a
  ·have t2 : decide ((s : Int) ≤ a) = true := by simp only [decide_eq_true_eq]; exact hge
   have HG : Hid (RdO w (regB M) n a k (.returned (.tuple #[.slice none 0 0, .int .i64 0])) w3) := rdO_no KK3.out.1 KK3.out.2 RE0.out (by rw [RX0.out]; unfold rdN; rw [show (min k (x.size - min a x.size)).toNat = 0 by omega, List.take_zero])
   clear RE0 RX0 OW KK3 hs
   go_wp2_with fail
   go_ret2
   exact HG.out
  ·have t2 : decide ((s : Int) ≤ a) = false := by simp only [decide_eq_false_iff_not]; exact hge
   obtain ⟨ai, rfl⟩ := Int.eq_ofNat_of_zero_le ha0
   obtain ⟨ki, rfl⟩ := Int.eq_ofNat_of_zero_le hk0
   rcases OW.out.2 with ⟨h0, h1⟩ | ⟨g', cap', cur, hv, hB, hgg, hc, _⟩
   ·omega
   have hv2 : Rc = some ⟨g', 0, none⟩ ∧ cc = cap' := by injection hv with q1 _ q3; exact ⟨q1, q3⟩
   obtain ⟨rfl, rfl⟩ := hv2
   clear hv hc
   have hX : readX ⟨regB M, readN (regB M)⟩ n ai ki = (W.drop ai).take (min ki (s - ai)) := by
    rw [RX0.out]
    unfold rdAt rdN
    rw [hs, show (min (ai : Int) (s : Int)).toNat = ai by omega, show (min (ki : Int) ((s : Int) - min (ai : Int) (s : Int))).toNat = min ki (s - ai) by omega]
   have hlen : ((W.drop ai).take (min ki (s - ai))).length = min ki (s - ai) := by rw [List.length_take, List.length_drop]; omega
   have HG : Hid (RdO w (regB M) n ai ki (.returned (.tuple #[.slice (some ⟨g', ai, none⟩) (min ki (s - ai)) (cc - ai), .int .i64 0])) w3) := by
    refine ⟨KK3.out.1, .inl ⟨KK3.out.2, some ⟨g', ai, none⟩, cc - ai, ?_, ?_⟩⟩
    ·rw [RE0.out, hX, hlen]
    ·rw [hX]
     exact br_drop OW.out.br _ _
   have hai : ai < s := by omega
   have hm : (min (ki : Int) ((s : Int) - ai)) = ((min ki (s - ai) : Nat) : Int) := by omega
   have hm2 : min ki (s - ai) ≤ s - ai := by omega
   clear RE0 RX0 OW KK3 hs hlen hX
   generalize min ki (s - ai) = m at *
   go_wp2_with fail
   all_goals first
    | rw [show ((ai : Int) + (ki : Int)).toNat - ai = m by omega]
    | rw [show ((ai : Int) + ((s : Int) - (ai : Int))).toNat - ai = m by omega]
    | skip
   all_goals go_ret2
   all_goals exact HG.out
end Go.Proofs.YtefgabnmcfpdcaaGreatDoor.Fr
