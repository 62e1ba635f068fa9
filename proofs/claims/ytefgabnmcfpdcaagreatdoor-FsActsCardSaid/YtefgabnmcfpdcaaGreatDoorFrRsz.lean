/-
  FrRsz
-/
import Derived.Test.YtefgabnmcfpdcaaGreatDoorFrRszB
import Derived.Test.YtefgabnmcfpdcaaGreatDoorExRNew
import Derived.Test.YtefgabnmcfpdcaaGreatDoorGFf
namespace Go.Proofs.YtefgabnmcfpdcaaGreatDoor.Fr
open Go.RowKit Ex Ino Mm Fs
set_option linter.unusedVariables false
set_option linter.unusedSimpArgs false
variable {w : World} {mi q b c d e : Nat} {M G : List UInt8}
theorem RefH.keep3 {w' : World} {F : Nat → Prop} (h : RefH w mi q b c d e M G) (k : Keeps F w w') (h1 : ¬ F q) (h2 : ¬ F b) (h3 : ¬ F d) : RefH w' mi q b c d e M G :=
 ⟨h.q0, h.bl, h.gl, (k.block q h.lt.1 h1).trans h.head, h.now.keeps' k h2, h.was.keeps' k h3, h.bq, h.dq, h.bd⟩
structure RSt (w : World) (mi q b c d e B : Nat) (M G R : List UInt8) (nd : ND) (A : Option Addr) (X : List EX) (W : World) : Prop where
 ref : RefH W mi q b c d e (layL M 6144 R) G
 box : BoxN W B nd
 xr : XR W W.heap.size A X
 ne : ∀ ad, A = some ad → ad.block ≠ b ∧ ad.block ≠ B
 kp : Keeps (fun k => k = b) w W
 hB : B ≠ b ∧ w.heap.size ≤ B ∧ B < W.heap.size
theorem RSt.keepB {B : Nat} {R R' : List UInt8} {nd : ND} {A : Option Addr} {X : List EX} {W W' : World} (h : RSt w mi q b c d e B M G R nd A X W) (k : Keeps (fun k => k = b) W W') (hr : RefH W' mi q b c d e (layL M 6144 R') G) : RSt w mi q b c d e B M G R' nd A X W' :=
 ⟨hr, (k.block B h.hB.2.2 (fun e => h.hB.1 e)).trans h.box, xr_via h.xr k fun _ ad e => (h.ne ad e).1, h.ne, h.kp.trans k, ⟨h.hB.1, h.hB.2.1, by have := k.size; have := h.hB.2.2; omega⟩⟩
theorem RSt.new {B : Nat} {R : List UInt8} {nd : ND} {A : Option Addr} {X : List EX} {W W' : World} (h : RSt w mi q b c d e B M G R nd A X W) (k : Keeps (fun _ => False) W W') : RSt w mi q b c d e B M G R nd A X W' :=
 h.keepB (k.mono fun _ _ f => f.elim) (h.ref.keep k fun _ _ _ f => f)
theorem RSt.put {B : Nat} {R : List UInt8} {nd nd' : ND} {A : Option Addr} {X : List EX} {W W' : World} (h : RSt w mi q b c d e B M G R nd A X W) (h0 : RefH w mi q b c d e M G) (k : Keeps (fun k => k = B) W W') (hb : BoxN W' B nd') : RSt w mi q b c d e B M G R nd' A X W' := by
 have hl := h0.lt
 have hB := h.hB
 refine ⟨Fr.RefH.keep3 h.ref k (by omega) (by omega) (by omega), hb, xr_via h.xr k fun _ ad e => (h.ne ad e).2, h.ne, Keeps.thru h.kp k (fun _ _ e => e) (fun i hi e => by omega), ⟨hB.1, hB.2.1, by have := k.size; omega⟩⟩
theorem own_tail {w : World} {B : Nat} {R : Option Addr} {cap : Nat} {l : List Nat} (h : OwnI w B R cap l) {K : Nat} (hK : K ≤ l.length) : ∃ T ct,
  (∀ w, (Instr.sliceAt 49 (.slice R l.length cap) (some (.int .i64 (K : Int))) none none).run Tryz.prog w = .ok (.slice T (l.length - K) ct) w) ∧
  ∀ (k x : Nat), (l.drop K)[k]? = some x → ∃ g o, T = some ⟨g, o, none⟩ ∧ B ≤ g ∧ g < w.heap.size ∧ w.cell? ⟨g, o + k, none⟩ = some (.int .i64 (x : Int)) := by
 have hir := h.ir
 rcases h.2 with ⟨hn, h0⟩ | ⟨g, cap', cur, e, hB, hg, hnc, _⟩
 ·have hl : l = [] := List.eq_nil_of_length_eq_zero h0
  subst hl
  obtain rfl : K = 0 := by simpa using hK
  injection hn with e1 e2 e3
  subst e1 e3
  exact ⟨none, 0, tail_nil, fun k x h => by simp at h⟩
 ·injection e with e1 e2 e3
  subst e1 e3
  have hgl : g < w.heap.size := (Array.getElem?_eq_some_iff.1 hg).1
  by_cases hlt : K < cap
  ·refine ⟨_, _, fun w => tail_run g l.length cap K w hK hnc hlt, fun k x hx => ?_⟩
   rw [List.getElem?_drop] at hx
   obtain ⟨g', e', hg', hc⟩ := hir _ x hx
   cases e'
   exact ⟨g, K, rfl, hB, hgl, hc⟩
  ·have hcK : cap = K := by omega
   have hlK : l.length = K := by omega
   refine ⟨some ⟨g, 0, none⟩, 0, fun w => ?_, ?_⟩
   ·rw [hlK, hcK, Nat.sub_self]
    exact tail_run0 g K w
   ·rw [List.drop_of_length_le (by omega)]
    intro k x h
    simp at h
def RzL (w : World) (mi q b c d e B : Nat) (M G : List UInt8) (bs : List UInt8) (new : List Nat) (nd : ND) (A : Option Addr) (X : List EX) (w5 : World) (g : Nat) (iv : Value) (wr : World) : Prop :=
 ∃ k, g = new.length - k ∧ k ≤ new.length ∧ iv = .int .i64 (k : Int) ∧ RSt w mi q b c d e B M G (zeroK bs new k) nd A X wr ∧ Keeps (fun k => k = b) w5 wr
set_option maxRecDepth 100000 in
theorem rresize_bad (h : RefH w mi q b c d e M G) (ho : ¬ okR (regB M)) (n size : Int) (hn : -9223372036854775808 ≤ n ∧ n ≤ 9223372036854775807) :
  Calls Tryz.prog 43 #[.pointer (some ⟨q, 0, none⟩), .int .i64 n, .int .i64 size] w (RBad w (.int .i64 120)) := by
 have HF := Lib.hid (rnode_any h n hn)
 have HO := Lib.hid ho
 clear h ho
 go_enter Tryz.func43, Tryz.ntmps43
 go_wp2_with fail
 refine HF.out.mono ?_
 rintro en w1 ⟨k1, ⟨hok, -⟩ | ⟨-, rfl⟩⟩
 ·exact absurd hok HO.out
 have HG : Hid (RBad w (.int .i64 120) (.returned (.int .i64 120)) (w1.alloc (.cells #[.string ⟨#[]⟩, .int .i64 0, .slice none 0 0] 123))) := ⟨rfl, k1.trans (Keeps.alloc _ _ _)⟩
 clear k1 HF HO
 go_wp2_with fail
 go_ret
 exact HG.out
set_option maxRecDepth 100000 in
set_option maxHeartbeats 2000000 in
theorem rresize_any (h : RefH w mi q b c d e M G) (ho : okR (regB M)) (n size : Int) (hn : -9223372036854775808 ≤ n ∧ n ≤ 9223372036854775807) (hs : -9223372036854775808 ≤ size ∧ size ≤ 9223372036854775807) :
  Calls Tryz.prog 43 #[.pointer (some ⟨q, 0, none⟩), .int .i64 n, .int .i64 size] w (WriR w mi q b c d e M G (resizeV ⟨regB M, readN (regB M)⟩ n size)) := by
 have HN := Lib.hid (rnode_any h n hn)
 have HO := Lib.hid ho
 have H := Lib.hid h
 have hM : M.length = 8192 := h.bl
 have hgd := good_of hM ho
 clear h ho
 go_enter Tryz.func43, Tryz.ntmps43
 go_wp2_with fail
 refine HN.out.mono ?_
 rintro en w1 ⟨k1, ⟨-, R, cx, rfl, hx⟩ | ⟨hno, -⟩⟩
 rotate_left
 ·exact absurd HO.out hno
 have hbad : ∀ E : Int, resizeE ⟨regB M, readN (regB M)⟩ n size = E → E ≠ 0 → ∀ W, Keeps (fun _ => False) w W → WriR w mi q b c d e M G (resizeV ⟨regB M, readN (regB M)⟩ n size) (.returned (.int .i64 E)) W := fun E hE h0 W kW => by
  have : resizeV ⟨regB M, readN (regB M)⟩ n size = (E, ⟨regB M, readN (regB M)⟩) := by unfold resizeV; rw [hE, if_neg h0]
  rw [this]
  exact RChg.none H.out kW h0
 by_cases hE : nodeE (readN (regB M)) n = 0
 case neg =>
  have HG := Lib.hid (hbad (nodeE (readN (regB M)) n) (by unfold resizeE; rw [if_pos hE]) hE _ (k1.trans (Keeps.alloc _ _ (.cells #[St (nodeX (readN (regB M)) n).name, .int .i64 (nodeX (readN (regB M)) n).size, .slice R (nodeX (readN (regB M)) n).ext.length cx] 123))))
  have t1 : (nodeE (readN (regB M)) n != 0) = true := by simp [hE]
  clear hbad k1 hx hgd HN HO H
  generalize resizeV ⟨regB M, readN (regB M)⟩ n size = rv at *
  generalize nodeX (readN (regB M)) n = x at *
  generalize nodeE (readN (regB M)) n = E at *
  generalize (if E = 0 then (usedN (readN (regB M)) : Int) else 0) = u at *
  clear hE
  go_wp2_with fail
  go_ret
  exact HG.out
 have t1 : (nodeE (readN (regB M)) n != 0) = false := by simp [hE]
 obtain ⟨⟨hn0, hn8⟩, hisF⟩ := nodeE_zero.1 hE
 have hX : nodeX (readN (regB M)) n = at' (readN (regB M)) n.toNat := by unfold nodeX; rw [if_pos hE]
 obtain ⟨i, rfl⟩ := Int.eq_ofNat_of_zero_le hn0
 have hi8 : i < 8 := by omega
 have hX : nodeX (readN (regB M)) (i : Int) = at' (readN (regB M)) i := hX
 rw [hX] at hx
 rw [hX, hE, if_pos rfl]
 change XR w1 w1.heap.size R (at' (readN (regB M)) i).ext at hx
 change isF (at' (readN (regB M)) i) = true at hisF
 obtain ⟨hok, hbits⟩ := hgd.bits hi8 hisF
 change ok (at' (readN (regB M)) i).ext = true at hok
 have hfew := (inOk_dec (b := page (regB M) (1 + i)) (w := w1) (R := R) (by rw [← readN_at _ hi8]; exact hx)).few
 rw [← readN_at _ hi8] at hfew
 have hRE : resizeE ⟨regB M, readN (regB M)⟩ (i : Int) size = if size < 0 then 1 else if 1472 < size then 125 else fitE (at' (readN (regB M)) i).ext (usedN (readN (regB M))) (needI size).toNat := by
  unfold resizeE
  rw [if_neg (by show ¬ nodeE (readN (regB M)) (i : Int) ≠ 0; rw [hE]; decide)]
  show (if size < 0 then (1 : Int) else if 1472 < size then 125 else fitE (nodeX (readN (regB M)) (i : Int)).ext _ _) = _
  rw [hX]
 obtain ⟨wb, hwb⟩ : ∃ wb, wb = w1.alloc (.cells #[St (at' (readN (regB M)) i).name, .int .i64 (at' (readN (regB M)) i).size, .slice R (at' (readN (regB M)) i).ext.length cx] 123) := ⟨_, rfl⟩
 have k1b : Keeps (fun _ => False) w1 wb := by rw [hwb]; exact Keeps.alloc _ _ _
 have KB := Lib.hid (k1.trans k1b)
 by_cases hneg : size < 0
 ·have HG := Lib.hid (hbad 1 (by rw [hRE, if_pos hneg]) (by decide) wb KB.out)
  have d1 : decide (size < 0) = true := by simp only [decide_eq_true_eq]; exact hneg
  rw [hwb] at HG
  clear hbad k1 hx hgd HN HO H hRE hisF hE hX hok hbits hfew KB k1b hwb
  generalize resizeV ⟨regB M, readN (regB M)⟩ (i : Int) size = rv at *
  go_wp2_with fail
  go_ret
  exact HG.out
 have d1 : decide (size < 0) = false := by simp only [decide_eq_false_iff_not]; exact hneg
 by_cases hbig : 1472 < size
 ·have HG := Lib.hid (hbad 125 (by rw [hRE, if_neg hneg, if_pos hbig]) (by decide) wb KB.out)
  have d2 : decide (1472 < size) = true := by simp only [decide_eq_true_eq]; exact hbig
  rw [hwb] at HG
  clear hbad k1 hx hgd HN HO H hRE hisF hE hX hok hbits hfew KB k1b hwb
  generalize resizeV ⟨regB M, readN (regB M)⟩ (i : Int) size = rv at *
  go_wp2_with fail
  go_ret
  exact HG.out
 have d2 : decide (1472 < size) = false := by simp only [decide_eq_false_iff_not]; exact hbig
 rw [if_neg hneg, if_neg hbig] at hRE
 obtain ⟨s, rfl⟩ := Int.eq_ofNat_of_zero_le (show 0 ≤ size by omega)
 have hs72 : s ≤ 1472 := by omega
 obtain ⟨N, hN⟩ : ∃ N : Nat, needI (s : Int) = N := ⟨(needI (s : Int)).toNat, by have := needI_bd (n := (s : Int)) (by omega) (by omega); omega⟩
 have hnb := needI_bd (n := (s : Int)) (by omega) (by omega)
 rw [hN] at hnb
 rw [hN, Int.toNat_natCast] at hRE
 have hbox : BoxN wb w1.heap.size ⟨at' (readN (regB M)) i, R, cx⟩ := by rw [hwb]; exact World.alloc_heap_new _ _
 have hxb : XR wb wb.heap.size R (at' (readN (regB M)) i).ext := xr_via hx k1b fun _ _ _ f => f
 have HBL := Lib.hid (rblocks_any R (at' (readN (regB M)) i).ext cx wb hxb hfew)
 have hc2 := hbox.c.2.2
 have hlt : w1.heap.size < wb.heap.size := hbox.lt
 have HBX := Lib.hid hbox
 have HXB := Lib.hid hxb
 have HX := Lib.hid hX
 have HRE := Lib.hid hRE
 have HOK := Lib.hid hok
 have HBT := Lib.hid hbits
 have HFW := Lib.hid hfew
 have HF := Lib.hid hisF
 have HBAD := Lib.hid hbad
 have HGD := Lib.hid hgd
 have K1 := Lib.hid k1
 have HNN := Lib.hid hN
 have HNE := Lib.hid fun W => rneed_any (s : Int) W (by omega)
 rw [hN] at HNE
 clear hbox hxb hX hRE hok hbits hfew hisF hbad hgd k1 k1b hx HN hE hneg hbig hN
 go_wp2_with fail
 rw [← hwb]
 clear hwb
 go_wp2_with fail
 refine HBL.out.mono ?_
 rintro en w2 ⟨Rb, cb, rfl, own2, b2⟩
 rw [blkO_yes HOK.out] at own2 ⊢
 have OW2 := Lib.hid own2
 have B2 := Lib.hid b2
 have hc2' : w2.cell? ⟨w1.heap.size, 2, none⟩ = some (.slice R (at' (readN (regB M)) i).ext.length cx) := (b2.cell (p := ⟨w1.heap.size, 2, none⟩) hlt).trans hc2
 clear own2 b2 HBL hc2
 go_wp2_with fail
 refine (HNE.out _).mono ?_
 rintro en w3 ⟨rfl, rfl⟩
 by_cases hge : (blkL (at' (readN (regB M)) i).ext).length ≤ N
 ·have d3 : decide (((blkL (at' (readN (regB M)) i).ext).length : Int) ≤ (N : Int)) = true := by simp only [decide_eq_true_eq]; omega
  have hgr := rgrow_new R (at' (readN (regB M)) i).ext cx (usedN (readN (regB M))) ((N : Int) - ((blkL (at' (readN (regB M)) i).ext).length : Int)) w3 (HXB.out.below B2.out |>.more B2.out.size) HFW.out (usedN_lt _)
  have hgv : growV (at' (readN (regB M)) i).ext (usedN (readN (regB M))) ((N : Int) - ((blkL (at' (readN (regB M)) i).ext).length : Int)) = rzD (at' (readN (regB M)) i).ext (usedN (readN (regB M))) N := by unfold rzD; rw [if_pos hge]
  rw [hgv] at hgr
  have q1 : IntKind.i64.wrap ((N : Int) - ((blkL (at' (readN (regB M)) i).ext).length : Int)) = (N : Int) - ((blkL (at' (readN (regB M)) i).ext).length : Int) := by rw [IntKind.wrap_i64]; omega
  clear hgv
  have hbw : b < wb.heap.size ∧ w.heap.size ≤ w1.heap.size := by have := H.out.lt; have := KB.out.size; have := K1.out.size; omega
  by_cases hfe : fitE (at' (readN (regB M)) i).ext (usedN (readN (regB M))) N = 0
  case neg =>
   obtain ⟨e1, -, e3⟩ := rzD_no HOK.out (usedN_lt _) HBT.out hfe
   have HG := Lib.hid fun W (hW : Below w3.heap.size w3 W) => HBAD.out 125 (by rw [HRE.out, e1]) (by decide) W ((KB.out.trans (keeps_below' B2.out)).trans (keeps_below' hW))
   have t3 : ((rzD (at' (readN (regB M)) i).ext (usedN (readN (regB M))) N).2.2 != 0) = true := by simp [e3]
   have HGR := Lib.hid hgr
   clear e1 e3 hfe HBAD hgr
   generalize rzD (at' (readN (regB M)) i).ext (usedN (readN (regB M))) N = D at *
   go_wp2_with fail
   refine HGR.out.mono ?_
   rintro en w4 ⟨Rx, cx4, rfl, hx4, b4, hnew⟩
   have HG2 := Lib.hid (HG.out w4 b4)
   clear HG b4 hx4 hnew HGR
   go_wp2_with fail
   go_ret
   exact HG2.out
  obtain ⟨e1, e2⟩ := rzD_ok HOK.out (usedN_lt _) HBT.out hfe
  obtain ⟨f1, f2, f3⟩ := fit_blk HOK.out HBT.out hfe
  obtain ⟨X, U2, hD⟩ : ∃ X U2, rzD (at' (readN (regB M)) i).ext (usedN (readN (regB M))) N = (X, U2, 0) := ⟨_, _, by rw [← e2]⟩
  rw [hD] at hgr e1
  have hXX : fitX (at' (readN (regB M)) i).ext (usedN (readN (regB M))) N = X := e1.symm
  rw [hXX] at f1 f2 f3
  rw [List.take_of_length_le hge] at f3
  change blkL X = _ ++ rzN (at' (readN (regB M)) i).ext (usedN (readN (regB M))) N at f3
  have hgr2 : Calls Tryz.prog 110 #[.slice R (at' (readN (regB M)) i).ext.length cx, .int .u32 (usedN (readN (regB M)) : Int), .int .i64 ((N : Int) - ((blkL (at' (readN (regB M)) i).ext).length : Int))] w3 (fun en w' => ∃ Rx cx4, en = .returned (.tuple #[.slice Rx X.length cx4, .int .u32 (U2 : Int), .int .i64 0]) ∧ XR w' w'.heap.size Rx X ∧ Below w3.heap.size w3 w' ∧ ∀ ad, Rx = some ad → w3.heap.size ≤ ad.block) := hgr
  have hxl : X.length ≤ 100 := by have := ok_few f1; omega
  have hne1 : (at' (readN (regB M)) i).name ≠ [] := by simpa [isF] using HF.out
  have hU2 : U2 = usedN ((readN (regB M)).set i ⟨(at' (readN (regB M)) i).name, (s : Int), X⟩) := by
   have := rzD_used HO.out hi8 HF.out HOK.out HBT.out (at' (readN (regB M)) i).name hne1 (s : Int) hfe
   rw [hD, hXX] at this
   exact this
  have HGR := Lib.hid hgr2
  have HXX := Lib.hid hXX
  have F1 := Lib.hid f1
  have F2 := Lib.hid f2
  have F3 := Lib.hid f3
  have HFE := Lib.hid hfe
  have HU2 := Lib.hid hU2
  clear e1 e2 f1 f2 f3 hfe HBAD hgr hgr2 hD hXX hne1 hU2
  go_wp2_with fail
  refine HGR.out.mono ?_
  rintro en w4 ⟨Rx, cx4, rfl, hx4, b4, hnew⟩
  have HBL2 := Lib.hid (rblocks_any Rx _ cx4 w4 hx4 hxl)
  have HX4 := Lib.hid hx4
  have HNW := Lib.hid hnew
  have B4 := Lib.hid b4
  clear hx4 hnew b4 HGR
  go_wp2_with fail
  refine HBL2.out.mono ?_
  rintro en w5 ⟨Ra, ca, rfl, own5, b5⟩
  rw [blkO_yes F1.out] at own5 ⊢
  have hlen : (blkL (at' (readN (regB M)) i).ext).length ≤ (blkL X).length := by rw [F3.out, List.length_append]; omega
  obtain ⟨T, ct, htl, hcell⟩ := own_tail own5 hlen
  have hnl : (blkL X).length - (blkL (at' (readN (regB M)) i).ext).length = (rzN (at' (readN (regB M)) i).ext (usedN (readN (regB M))) N).length := by rw [F3.out, List.length_append]; omega
  have hdr : (blkL X).drop (blkL (at' (readN (regB M)) i).ext).length = rzN (at' (readN (regB M)) i).ext (usedN (readN (regB M))) N := by rw [F3.out, List.drop_append, List.drop_of_length_le (Nat.le_refl _), List.nil_append, Nat.sub_self, List.drop_zero]
  rw [hnl] at htl
  rw [hdr] at hcell
  have b45 := (B2.out.trans (B4.out.mono B2.out.size)).trans (b5.mono (B2.out.trans (B4.out.mono B2.out.size)).size)
  have hrs : RSt w mi q b c d e w1.heap.size M G (zeroK (regB M) (rzN (at' (readN (regB M)) i).ext (usedN (readN (regB M))) N) 0) ⟨at' (readN (regB M)) i, R, cx⟩ Rx X w5 := by
   have hk := KB.out.trans (keeps_below' (F := fun _ => False) b45)
   refine ⟨?_, HBX.out.below b45, HX4.out.below b5 |>.more b5.size, fun ad e => ?_, hk.mono fun _ _ f => f.elim, ?_, hbw.2, ?_⟩
   ·show RefH w5 mi q b c d e (layL M 6144 (regB M)) G
    rw [lay_reg hM]
    exact H.out.keep hk fun _ _ _ f => f
   ·have := HNW.out ad e
    have := B2.out.size
    omega
   ·have := H.out.lt; omega
   ·have := b45.size; omega
  have hnewg : ∀ x ∈ rzN (at' (readN (regB M)) i).ext (usedN (readN (regB M))) N, x < 32 := fun x hx => (rzN_mem hx).2.1
  have HTL := Lib.hid htl
  have HCELL := Lib.hid hcell
  have HB4 := Lib.hid (And.intro B4.out.size (And.intro B2.out.size b5.size))
  have HRS := Lib.hid hrs
  have F3' := Lib.hid hdr
  clear own5 b5 htl hcell hnl hdr b45 hrs HBL2 HX4 HNW B4 HBX HXB OW2 hc2' hlen
  have hmk : ∀ w : World, (Instr.makeSlice 31 (.int .i64 64) (.int .i64 64)).run Tryz.prog w = .ok (.slice (some ⟨w.heap.size, 0, none⟩) 64 64) (w.alloc (.cells (madeCells #[.int .u8 0] 64) 5)) := make8 64 (by omega)
  generalize hnewv : rzN (at' (readN (regB M)) i).ext (usedN (readN (regB M))) N = new at *
  have HNV := Lib.hid hnewv
  clear hnewv
  have hnl32 : new.length ≤ 1000 := by
   have := F2.out
   have h2 := congrArg List.length F3'.out
   rw [List.length_drop] at h2
   omega
  go_wp2_with (first
   | ((with_reducible refine at_ (op := .slice 49 (.tmp 71) (some (.tmp 73)) none none) ?_); refine wpList_val rfl _ (ex_sl2 49 (.tmp 71) (.tmp 73) rfl _ _ _ rfl rfl HTL.out _) ?_)
   | fail)
  have HC0 : Hid (RzL w mi q b c d e w1.heap.size M G (regB M) new ⟨at' (readN (regB M)) i, R, cx⟩ Rx X w5 new.length (.int .i64 0) w5) := ⟨0, by omega, by omega, rfl, HRS.out, Keeps.refl _ _⟩
  go_loopg [19, 76] new.length (fun g _ k wr => RzL w mi q b c d e w1.heap.size M G (regB M) new ⟨at' (readN (regB M)) i, R, cx⟩ Rx X w5 g k wr)
  case atStart => exact HC0.out
  case round =>
   obtain ⟨k, rfl, hk, rfl, hrs, kw⟩ := hrel
   clear HC0
   by_cases hkl : k < new.length
   ·obtain ⟨gT, oT, rfl, hgB, hgl, hcc⟩ := HCELL.out k new[k] (List.getElem?_eq_getElem hkl)
    have hgb : gT ≠ b := by have := HB4.out; omega
    have hcc2 := (kw.cell gT (oT + k) hgl hgb).trans hcc
    have d4 : decide ((k : Int) < (new.length : Int)) = true := by simp only [decide_eq_true_eq]; omega
    have p0 : (0 : Int) ≤ k := by omega
    have p1 : (k : Int) < new.length := by omega
    have q3 : IntKind.i64.wrap ((k : Int) + 1) = (k : Int) + 1 := by rw [IntKind.wrap_i64]; omega
    have hx32 := hnewg _ (List.getElem_mem hkl)
    have ka := Keeps.alloc (fun _ => False) wr (.cells (madeCells #[.int .u8 0] 64) 5)
    have hlb := regB_len hM
    have hl := rlayP (M := M) (R := zeroK (regB M) new k) (hrs.new ka).ref hM (zeroK_len hlb hnewg (by omega)) new[k] hx32 (some ⟨wr.heap.size, 0, none⟩) (List.replicate 64 0) 64 (Row8.made wr 64 5).br (fun ad e1 _ => by cases e1; have := hrs.ref.lt; show wr.heap.size ≠ b; omega) (by simp)
    have hzn := zeroK_next (bs := regB M) hkl
    rw [show new.getD k 0 = new[k] by rw [List.getD_eq_getElem?_getD, List.getElem?_eq_getElem hkl]; rfl] at hzn
    rw [hzn, List.length_replicate] at hl
    have HL := Lib.hid hl
    have HR := Lib.hid (hrs.new ka)
    have KW := Lib.hid (kw.trans (ka.mono fun _ _ f => f.elim))
    clear hl hzn hrs kw ka hlb hcc hgl
    generalize new[k] = xk at *
    go_wp2_with fail
    refine HL.out.mono ?_
    rintro en w6 ⟨rfl, h6, k6⟩
    have HRR : Hid (RzL w mi q b c d e w1.heap.size M G (regB M) new ⟨at' (readN (regB M)) i, R, cx⟩ Rx X w5 (new.length - (k + 1)) (.int .i64 ((k : Int) + 1)) w6) := ⟨k + 1, rfl, by omega, by rw [Int.natCast_add]; rfl, HR.out.keepB k6 h6, KW.out.trans k6⟩
    clear h6 k6 HL HR KW
    go_wp2_with fail
    go_roundg (new.length - (k + 1))
    case rel => exact HRR.out
    case measure => omega
   ·obtain rfl : k = new.length := by omega
    have HR0 := Lib.hid (zeroK_len (regB_len hM) hnewg (Nat.le_refl new.length))
    have d4 : decide ((new.length : Int) < (new.length : Int)) = false := by simp
    obtain ⟨g0, g1, g2⟩ := hrs.box.c
    have z1 := hrs.box.fz 1
    have z2 := hrs.box.fz 2
    have HR := Lib.hid hrs
    clear hrs kw
    have HEND := Lib.hid (rz_bytes (regB_len hM) HO.out hi8 HF.out HOK.out HBT.out (size := (s : Int)) (by omega) (by omega) HNN.out HFE.out HXX.out rfl)
    rw [HNV.out, ← HU2.out] at HEND
    generalize zeroK (regB M) new new.length = R0 at *
    have hR0 : R0.length = 2048 := HR0.out
    obtain ⟨y, hy⟩ : ∃ y : IN, y = ⟨(at' (readN (regB M)) i).name, (s : Int), X⟩ := ⟨_, rfl⟩
    have hchk : chkB y = true := by
     have hc : chkB (at' (readN (regB M)) i) = true := by
      have hf := HF.out
      rw [readN_at _ hi8] at hf ⊢
      rcases decX_or (page (regB M) (1 + i)) with h | h
      ·rw [h] at hf; cases hf
      ·exact h
     rw [hy]
     unfold chkB at hc ⊢
     simp only [Bool.and_eq_true, decide_eq_true_eq] at hc ⊢
     rw [blkO_yes F1.out, F2.out]
     exact ⟨hc.1, by omega, by omega, F1.out, HNN.out.symm⟩
    have hnm : y.name.length ≤ 100000 := by have := (chk_parts hchk).1; omega
    have hbx2 := HR.out.box.put Rx X cx4
    have hr2 := HR.out.put H.out (Keeps.setCell (fun k => k = w1.heap.size) wr _ (.slice Rx X.length cx4) rfl) hbx2
    have hr3 := hr2.put H.out (Keeps.setCell (fun k => k = w1.heap.size) _ ⟨w1.heap.size, 1, none⟩ (.int .i64 (s : Int)) rfl) (hr2.box.putSize (s : Int))
    obtain ⟨ws, hws⟩ : ∃ ws, ws = (wr.setCell ⟨w1.heap.size, 2, none⟩ (.slice Rx X.length cx4)).setCell ⟨w1.heap.size, 1, none⟩ (.int .i64 (s : Int)) := ⟨_, rfl⟩
    rw [← hws] at hr3
    have hr4 : RSt w mi q b c d e w1.heap.size M G R0 ⟨y, Rx, cx4⟩ Rx X ws := by rw [hy]; exact hr3
    have hen : Calls Tryz.prog 99 #[.agg #[St (at' (readN (regB M)) i).name, .int .i64 (s : Int), .slice Rx X.length cx4]] ws (GivesEN ws y) := by
     have := rencode_new y Rx cx4 ws ⟨by rw [hy]; exact hr4.xr, by rw [hy]; exact hxl, hnm, by rw [hy]; show -9223372036854775808 ≤ (s : Int) ∧ (s : Int) ≤ 9223372036854775807; omega⟩
     rw [hy] at this ⊢
     exact this
    have HLAY := Lib.hid fun (W : World) (Re : Option Addr) (ce : Nat) (ho : Own8 W ws.heap.size 5 Re ce (encL y)) (hb : Below ws.heap.size ws W) => by
     have h5 := hr4.new (keeps_below' (F := fun _ => False) hb)
     have := rlayP (M := M) (R := R0) h5.ref hM hR0 (1 + i) (by omega) Re (encL y) ce ho.br (Fr.RefH.own_ne hr4.ref ho) (encL_len _)
     rw [encL_len, show ((1 + i : Nat) : Int) = 1 + (i : Int) by omega, ← nodeL_chk hchk] at this
     exact And.intro h5 this
    have HEN := Lib.hid hen
    have HCHK := Lib.hid hchk
    have HWS := Lib.hid hws
    have HR4 := Lib.hid hr4
    have HRD := Lib.hid fun W => rhead_any U2 (by rw [HU2.out]; exact usedN_lt _) W
    have HLY := Lib.hid (nodeL_len y)
    have q4 : IntKind.i64.wrap (1 + (i : Int)) = 1 + (i : Int) := by rw [IntKind.wrap_i64]; omega
    rw [← hy] at HEND
    have HY := Lib.hid hy
    have hval : resizeV ⟨regB M, readN (regB M)⟩ (i : Int) (s : Int) = (0, ⟨spreadV (regB M) X (fitL (wholeV (regB M) (at' (readN (regB M)) i).ext) (N * 64) (s : Int).toNat), (readN (regB M)).set i y⟩) := by
     unfold resizeV
     rw [HRE.out, HFE.out, if_pos rfl]
     unfold resizeG
     simp only [HX.out, HNN.out, Int.toNat_natCast, HXX.out]
     rw [hy]
    have HVAL := Lib.hid hval
    clear hval
    clear hen hchk hws hr4 hr3 hr2 hbx2 HR HRS HF HBT HFE HXX HU2 hy
    go_wp2_with fail
    rw [← HWS.out]
    refine HEN.out.mono ?_
    rintro en w6 (hbad | ⟨Re, ce, rfl, own6, b6⟩)
    ·rw [HCHK.out] at hbad; cases hbad
    obtain ⟨h6, hl6⟩ := HLAY.out w6 Re ce own6 b6
    have H6 := Lib.hid h6
    have HL6 := Lib.hid hl6
    clear own6 b6 h6 hl6 HLAY HEN HCHK HWS HR4
    go_wp2_with fail
    refine HL6.out.mono ?_
    rintro en w7 ⟨rfl, h7, k7⟩
    have H7 := Lib.hid (H6.out.keepB k7 h7)
    clear h7 k7 HL6 H6
    go_wp2_with fail
    refine (HRD.out w7).mono ?_
    rintro en w8 ⟨Rh, ch, rfl, own8, b8⟩
    have h8 := H7.out.new (keeps_below' (F := fun _ => False) b8)
    have hp2 := setP_len hR0 (n := 1 + i) (by omega) HLY.out
    have hl8 := rlayP (M := M) (R := setPage R0 (1 + i) (nodeL y)) h8.ref hM hp2 0 (by omega) Rh (headL U2) ch own8.br (Fr.RefH.own_ne H7.out.ref own8) (headL_len _)
    have HP3 := Lib.hid (setP_len hp2 (n := 0) (by omega) (headL_len U2))
    have H8 := Lib.hid h8
    have HL8 := Lib.hid hl8
    clear own8 b8 h8 hl8 hp2 H7 HRD
    go_wp2_with fail
    refine HL8.out.mono ?_
    rintro en w9 ⟨rfl, h9, k9⟩
    have H9 := Lib.hid (H8.out.keepB k9 h9)
    clear h9 k9 HL8 H8
    generalize setPage (setPage R0 (1 + i) (nodeL y)) 0 (headL U2) = R3 at *
    have hcons : ∀ W R4, RSt w mi q b c d e w1.heap.size M G R4 ⟨y, Rx, cx4⟩ Rx X W → tailK R3 X N (s : Int) = R4 → WriR w mi q b c d e M G (resizeV ⟨regB M, readN (regB M)⟩ (i : Int) (s : Int)) (.returned (.int .i64 0)) W := fun W R4 hW hT => by
     rw [HVAL.out]
     refine ⟨rfl, ?_, hW.kp⟩
     rw [if_pos rfl]
     show RefH W mi q b c d e (layL M 6144 (bytesL ⟨spreadV (regB M) X (fitL (wholeV (regB M) (at' (readN (regB M)) i).ext) (N * 64) (s : Int).toNat), (readN (regB M)).set i y⟩)) G
     rw [← HEND.out, hT]
     exact hW.ref
    have HCONS := Lib.hid hcons
    clear hcons HVAL HEND
    by_cases hrest : 0 < (s : Int) % 64
    case neg =>
     have d5 : decide (0 < (s : Int) % 64) = false := by simp only [decide_eq_false_iff_not]; exact hrest
     have HG := Lib.hid (HCONS.out w9 R3 H9.out (by unfold tailK; rw [if_neg hrest]))
     clear HCONS hrest H9
     go_wp2_with fail
     go_ret
     exact HG.out
    obtain ⟨rs, hrs⟩ : ∃ rs : Nat, (s : Int) % 64 = rs := ⟨s % 64, by omega⟩
    have hrs64 : 0 < rs ∧ rs < 64 := by omega
    obtain ⟨jl, rfl⟩ : ∃ jl, N = jl + 1 := ⟨N - 1, by omega⟩
    have hjlt : jl < (blkL X).length := by have := F2.out; omega
    have hl32 := (ok_good X F1.out).2 (blkL X)[jl] (List.getElem_mem hjlt)
    obtain ⟨zl, hzl⟩ : ∃ zl : Nat, zl = 64 - rs := ⟨_, rfl⟩
    have HBL3 := Lib.hid (rblocks_any Rx X cx4 w9 H9.out.xr hxl)
    have hye : y.ext = X := by rw [HY.out]
    have g2x : w9.cell? ⟨w1.heap.size, 2, none⟩ = some (.slice Rx X.length cx4) := by
     have := H9.out.box.c.2.2
     rw [← hye]
     exact this
    clear hye
    have HTK : Hid (tailK R3 X (jl + 1) (s : Int) = splice R3 ((blkL X)[jl] * 64 + rs) (List.replicate zl 0)) := by
     show _ = _
     unfold tailK
     rw [if_pos hrest, hrs, Int.toNat_natCast, hzl, show jl + 1 - 1 = jl by omega, List.getD_eq_getElem?_getD, List.getElem?_eq_getElem hjlt]
     rfl
    have hlen2 := F2.out
    have d5 : decide (0 < (rs : Int)) = true := by simp only [decide_eq_true_eq]; omega
    clear hrest
    go_wp2_with fail
    refine HBL3.out.mono ?_
    rintro en w10 ⟨Rl, cl, rfl, own10, b10⟩
    rw [blkO_yes F1.out] at own10 ⊢
    obtain ⟨gl, rfl, hgl, hcl⟩ := own10.ir jl (blkL X)[jl] (List.getElem?_eq_getElem hjlt)
    rw [hlen2]
    have h10 := H9.out.new (keeps_below' (F := fun _ => False) b10)
    have h11 := h10.new (Keeps.alloc (fun _ => False) w10 (.cells (madeCells #[.int .u8 0] zl) 5))
    have hlay := rlayH_at h11.ref (6144 + (((blkL X)[jl] * 64 + rs : Nat) : Int)) (by omega) (by omega) (some ⟨w10.heap.size, 0, none⟩) (List.replicate zl 0) zl (Row8.made w10 zl 5).br (fun ad e1 _ => by cases e1; have := h10.ref.lt; show w10.heap.size ≠ b; omega) (by rw [List.length_replicate]; omega)
    rw [lay_in hM HP3.out (by rw [List.length_replicate]; omega), ← HTK.out, List.length_replicate] at hlay
    have HL := Lib.hid hlay
    have H11 := Lib.hid h11
    clear own10 b10 h10 h11 hlay HBL3 H9 HTK HP3 g2x F1 F2 hlen2
    generalize (blkL X)[jl] = L at *
    subst hzl
    have hmk2 := make8 (64 - rs) (by omega)
    have v0 : IntKind.i64.wrap (((jl + 1 : Nat) : Int) - 1) = (jl : Int) := by rw [IntKind.wrap_i64]; omega
    have v1 : IntKind.i64.wrap ((L : Int) * 64) = (L : Int) * 64 := by rw [IntKind.wrap_i64]; omega
    have v2 : IntKind.i64.wrap (6144 + (L : Int) * 64) = 6144 + (L : Int) * 64 := by rw [IntKind.wrap_i64]; omega
    have v3 : IntKind.i64.wrap (6144 + (L : Int) * 64 + (rs : Int)) = 6144 + ((L * 64 + rs : Nat) : Int) := by rw [IntKind.wrap_i64]; omega
    have v5 : IntKind.i64.wrap (6144 + (L : Int) * 64 + (s : Int) % 64) = 6144 + ((L * 64 + rs : Nat) : Int) := by rw [IntKind.wrap_i64]; omega
    have v6 : IntKind.i64.wrap (64 - (s : Int) % 64) = ((64 - rs : Nat) : Int) := by rw [IntKind.wrap_i64]; omega
    have v4 : IntKind.i64.wrap (64 - (rs : Int)) = ((64 - rs : Nat) : Int) := by rw [IntKind.wrap_i64]; omega
    go_wp2_with fail
    refine HL.out.mono ?_
    rintro en w12 ⟨rfl, h12, k12⟩
    have HG := Lib.hid (HCONS.out w12 _ (H11.out.keepB k12 h12) rfl)
    clear h12 k12 HL H11 HCONS
    go_wp2_with fail
    go_ret
    exact HG.out
 ·have d3 : decide (((blkL (at' (readN (regB M)) i).ext).length : Int) ≤ (N : Int)) = false := by simp only [decide_eq_false_iff_not]; omega
  have hgr := rshrink_new R (at' (readN (regB M)) i).ext cx (usedN (readN (regB M))) (N : Int) w3 (HXB.out.below B2.out |>.more B2.out.size) HFW.out (usedN_lt _)
  have hgv : shrinkV (at' (readN (regB M)) i).ext (usedN (readN (regB M))) (N : Int) = rzD (at' (readN (regB M)) i).ext (usedN (readN (regB M))) N := by unfold rzD; rw [if_neg hge]
  rw [hgv] at hgr
  clear hgv
  have hbw : b < wb.heap.size ∧ w.heap.size ≤ w1.heap.size := by have := H.out.lt; have := KB.out.size; have := K1.out.size; omega
  have hfe : fitE (at' (readN (regB M)) i).ext (usedN (readN (regB M))) N = 0 := by
   rw [fit_zero HOK.out HBT.out]
   omega
  obtain ⟨e1, e2⟩ := rzD_ok HOK.out (usedN_lt _) HBT.out hfe
  obtain ⟨f1, f2, f3⟩ := fit_blk HOK.out HBT.out hfe
  obtain ⟨X, U2, hD⟩ : ∃ X U2, rzD (at' (readN (regB M)) i).ext (usedN (readN (regB M))) N = (X, U2, 0) := ⟨_, _, by rw [← e2]⟩
  rw [hD] at hgr e1
  have hXX : fitX (at' (readN (regB M)) i).ext (usedN (readN (regB M))) N = X := e1.symm
  rw [hXX] at f1 f2
  have hgr2 : Calls Tryz.prog 111 #[.slice R (at' (readN (regB M)) i).ext.length cx, .int .u32 (usedN (readN (regB M)) : Int), .int .i64 (N : Int)] w3 (fun en w' => ∃ Rx cx4, en = .returned (.tuple #[.slice Rx X.length cx4, .int .u32 (U2 : Int), .int .i64 0]) ∧ XR w' w'.heap.size Rx X ∧ Below w3.heap.size w3 w' ∧ ∀ ad, Rx = some ad → w3.heap.size ≤ ad.block) := hgr
  have hxl : X.length ≤ 100 := by have := ok_few f1; omega
  have hne1 : (at' (readN (regB M)) i).name ≠ [] := by simpa [isF] using HF.out
  have hU2 : U2 = usedN ((readN (regB M)).set i ⟨(at' (readN (regB M)) i).name, (s : Int), X⟩) := by
   have := rzD_used HO.out hi8 HF.out HOK.out HBT.out (at' (readN (regB M)) i).name hne1 (s : Int) hfe
   rw [hD, hXX] at this
   exact this
  have hnw : rzN (at' (readN (regB M)) i).ext (usedN (readN (regB M))) N = [] := by unfold rzN; rw [show N - (blkL (at' (readN (regB M)) i).ext).length = 0 by omega, List.take_zero]
  have HGR := Lib.hid hgr2
  have HXX := Lib.hid hXX
  have F1 := Lib.hid f1
  have F2 := Lib.hid f2
  have HFE := Lib.hid hfe
  have HU2 := Lib.hid hU2
  have HNV := Lib.hid hnw
  clear e1 e2 f1 f2 f3 hfe HBAD hgr hgr2 hD hXX hne1 hU2 hnw
  obtain ⟨h0, h1, h2⟩ := (HBX.out.below B2.out).c
  have y2 := (HBX.out.below B2.out).fz 2
  clear h0 h1
  go_wp2_with fail
  refine HGR.out.mono ?_
  rintro en wr ⟨Rx, cx4, rfl, hx4, b4, hnew⟩
  obtain ⟨R0, hR00⟩ : ∃ R0, R0 = zeroK (regB M) [] ([] : List Nat).length := ⟨_, rfl⟩
  have hR01 : R0 = regB M := hR00
  have hrs : RSt w mi q b c d e w1.heap.size M G R0 ⟨at' (readN (regB M)) i, R, cx⟩ Rx X wr := by
   rw [hR01]
   have b45 := B2.out.trans (b4.mono B2.out.size)
   have hk := KB.out.trans (keeps_below' (F := fun _ => False) b45)
   refine ⟨?_, HBX.out.below b45, hx4, fun ad e => ?_, hk.mono fun _ _ f => f.elim, ?_, hbw.2, ?_⟩
   ·rw [lay_reg hM]
    exact H.out.keep hk fun _ _ _ f => f
   ·have := hnew ad e
    have := B2.out.size
    omega
   ·have := H.out.lt; omega
   ·have := b45.size; omega
  obtain ⟨g0, g1, g2⟩ := hrs.box.c
  have z1 := hrs.box.fz 1
  have z2 := hrs.box.fz 2
  have HR := Lib.hid hrs
  have HRS := Lib.hid hrs
  have HEND := Lib.hid (rz_bytes (regB_len hM) HO.out hi8 HF.out HOK.out HBT.out (size := (s : Int)) (by omega) (by omega) HNN.out HFE.out HXX.out rfl)
  rw [HNV.out, ← HU2.out] at HEND
  rw [← hR00] at HEND
  have hR0 : R0.length = 2048 := by rw [hR01]; exact regB_len hM
  clear hrs hx4 b4 hnew HGR h2 y2 hc2' hR00 hR01
  obtain ⟨y, hy⟩ : ∃ y : IN, y = ⟨(at' (readN (regB M)) i).name, (s : Int), X⟩ := ⟨_, rfl⟩
  have hchk : chkB y = true := by
   have hc : chkB (at' (readN (regB M)) i) = true := by
    have hf := HF.out
    rw [readN_at _ hi8] at hf ⊢
    rcases decX_or (page (regB M) (1 + i)) with h | h
    ·rw [h] at hf; cases hf
    ·exact h
   rw [hy]
   unfold chkB at hc ⊢
   simp only [Bool.and_eq_true, decide_eq_true_eq] at hc ⊢
   rw [blkO_yes F1.out, F2.out]
   exact ⟨hc.1, by omega, by omega, F1.out, HNN.out.symm⟩
  have hnm : y.name.length ≤ 100000 := by have := (chk_parts hchk).1; omega
  have hbx2 := HR.out.box.put Rx X cx4
  have hr2 := HR.out.put H.out (Keeps.setCell (fun k => k = w1.heap.size) wr _ (.slice Rx X.length cx4) rfl) hbx2
  have hr3 := hr2.put H.out (Keeps.setCell (fun k => k = w1.heap.size) _ ⟨w1.heap.size, 1, none⟩ (.int .i64 (s : Int)) rfl) (hr2.box.putSize (s : Int))
  obtain ⟨ws, hws⟩ : ∃ ws, ws = (wr.setCell ⟨w1.heap.size, 2, none⟩ (.slice Rx X.length cx4)).setCell ⟨w1.heap.size, 1, none⟩ (.int .i64 (s : Int)) := ⟨_, rfl⟩
  rw [← hws] at hr3
  have hr4 : RSt w mi q b c d e w1.heap.size M G R0 ⟨y, Rx, cx4⟩ Rx X ws := by rw [hy]; exact hr3
  have hen : Calls Tryz.prog 99 #[.agg #[St (at' (readN (regB M)) i).name, .int .i64 (s : Int), .slice Rx X.length cx4]] ws (GivesEN ws y) := by
   have := rencode_new y Rx cx4 ws ⟨by rw [hy]; exact hr4.xr, by rw [hy]; exact hxl, hnm, by rw [hy]; show -9223372036854775808 ≤ (s : Int) ∧ (s : Int) ≤ 9223372036854775807; omega⟩
   rw [hy] at this ⊢
   exact this
  have HLAY := Lib.hid fun (W : World) (Re : Option Addr) (ce : Nat) (ho : Own8 W ws.heap.size 5 Re ce (encL y)) (hb : Below ws.heap.size ws W) => by
   have h5 := hr4.new (keeps_below' (F := fun _ => False) hb)
   have := rlayP (M := M) (R := R0) h5.ref hM hR0 (1 + i) (by omega) Re (encL y) ce ho.br (Fr.RefH.own_ne hr4.ref ho) (encL_len _)
   rw [encL_len, show ((1 + i : Nat) : Int) = 1 + (i : Int) by omega, ← nodeL_chk hchk] at this
   exact And.intro h5 this
  have HEN := Lib.hid hen
  have HCHK := Lib.hid hchk
  have HWS := Lib.hid hws
  have HR4 := Lib.hid hr4
  have HRD := Lib.hid fun W => rhead_any U2 (by rw [HU2.out]; exact usedN_lt _) W
  have HLY := Lib.hid (nodeL_len y)
  have q4 : IntKind.i64.wrap (1 + (i : Int)) = 1 + (i : Int) := by rw [IntKind.wrap_i64]; omega
  rw [← hy] at HEND
  have HY := Lib.hid hy
  have hval : resizeV ⟨regB M, readN (regB M)⟩ (i : Int) (s : Int) = (0, ⟨spreadV (regB M) X (fitL (wholeV (regB M) (at' (readN (regB M)) i).ext) (N * 64) (s : Int).toNat), (readN (regB M)).set i y⟩) := by
   unfold resizeV
   rw [HRE.out, HFE.out, if_pos rfl]
   unfold resizeG
   simp only [HX.out, HNN.out, Int.toNat_natCast, HXX.out]
   rw [hy]
  have HVAL := Lib.hid hval
  clear hval
  clear hen hchk hws hr4 hr3 hr2 hbx2 HR HRS HF HBT HFE HXX HU2 hy
  go_wp2_with fail
  rw [← HWS.out]
  refine HEN.out.mono ?_
  rintro en w6 (hbad | ⟨Re, ce, rfl, own6, b6⟩)
  ·rw [HCHK.out] at hbad; cases hbad
  obtain ⟨h6, hl6⟩ := HLAY.out w6 Re ce own6 b6
  have H6 := Lib.hid h6
  have HL6 := Lib.hid hl6
  clear own6 b6 h6 hl6 HLAY HEN HCHK HWS HR4
  go_wp2_with fail
  refine HL6.out.mono ?_
  rintro en w7 ⟨rfl, h7, k7⟩
  have H7 := Lib.hid (H6.out.keepB k7 h7)
  clear h7 k7 HL6 H6
  go_wp2_with fail
  refine (HRD.out w7).mono ?_
  rintro en w8 ⟨Rh, ch, rfl, own8, b8⟩
  have h8 := H7.out.new (keeps_below' (F := fun _ => False) b8)
  have hp2 := setP_len hR0 (n := 1 + i) (by omega) HLY.out
  have hl8 := rlayP (M := M) (R := setPage R0 (1 + i) (nodeL y)) h8.ref hM hp2 0 (by omega) Rh (headL U2) ch own8.br (Fr.RefH.own_ne H7.out.ref own8) (headL_len _)
  have HP3 := Lib.hid (setP_len hp2 (n := 0) (by omega) (headL_len U2))
  have H8 := Lib.hid h8
  have HL8 := Lib.hid hl8
  clear own8 b8 h8 hl8 hp2 H7 HRD
  go_wp2_with fail
  refine HL8.out.mono ?_
  rintro en w9 ⟨rfl, h9, k9⟩
  have H9 := Lib.hid (H8.out.keepB k9 h9)
  clear h9 k9 HL8 H8
  generalize setPage (setPage R0 (1 + i) (nodeL y)) 0 (headL U2) = R3 at *
  have hcons : ∀ W R4, RSt w mi q b c d e w1.heap.size M G R4 ⟨y, Rx, cx4⟩ Rx X W → tailK R3 X N (s : Int) = R4 → WriR w mi q b c d e M G (resizeV ⟨regB M, readN (regB M)⟩ (i : Int) (s : Int)) (.returned (.int .i64 0)) W := fun W R4 hW hT => by
   rw [HVAL.out]
   refine ⟨rfl, ?_, hW.kp⟩
   rw [if_pos rfl]
   show RefH W mi q b c d e (layL M 6144 (bytesL ⟨spreadV (regB M) X (fitL (wholeV (regB M) (at' (readN (regB M)) i).ext) (N * 64) (s : Int).toNat), (readN (regB M)).set i y⟩)) G
   rw [← HEND.out, hT]
   exact hW.ref
  have HCONS := Lib.hid hcons
  clear hcons HVAL HEND
  by_cases hrest : 0 < (s : Int) % 64
  case neg =>
   have d5 : decide (0 < (s : Int) % 64) = false := by simp only [decide_eq_false_iff_not]; exact hrest
   have HG := Lib.hid (HCONS.out w9 R3 H9.out (by unfold tailK; rw [if_neg hrest]))
   clear HCONS hrest H9
   go_wp2_with fail
   go_ret
   exact HG.out
  obtain ⟨rs, hrs⟩ : ∃ rs : Nat, (s : Int) % 64 = rs := ⟨s % 64, by omega⟩
  have hrs64 : 0 < rs ∧ rs < 64 := by omega
  obtain ⟨jl, rfl⟩ : ∃ jl, N = jl + 1 := ⟨N - 1, by omega⟩
  have hjlt : jl < (blkL X).length := by have := F2.out; omega
  have hl32 := (ok_good X F1.out).2 (blkL X)[jl] (List.getElem_mem hjlt)
  obtain ⟨zl, hzl⟩ : ∃ zl : Nat, zl = 64 - rs := ⟨_, rfl⟩
  have HBL3 := Lib.hid (rblocks_any Rx X cx4 w9 H9.out.xr hxl)
  have hye : y.ext = X := by rw [HY.out]
  have g2x : w9.cell? ⟨w1.heap.size, 2, none⟩ = some (.slice Rx X.length cx4) := by
   have := H9.out.box.c.2.2
   rw [← hye]
   exact this
  clear hye
  have HTK : Hid (tailK R3 X (jl + 1) (s : Int) = splice R3 ((blkL X)[jl] * 64 + rs) (List.replicate zl 0)) := by
   show _ = _
   unfold tailK
   rw [if_pos hrest, hrs, Int.toNat_natCast, hzl, show jl + 1 - 1 = jl by omega, List.getD_eq_getElem?_getD, List.getElem?_eq_getElem hjlt]
   rfl
  have hlen2 := F2.out
  have d5 : decide (0 < (rs : Int)) = true := by simp only [decide_eq_true_eq]; omega
  clear hrest
  go_wp2_with fail
  refine HBL3.out.mono ?_
  rintro en w10 ⟨Rl, cl, rfl, own10, b10⟩
  rw [blkO_yes F1.out] at own10 ⊢
  obtain ⟨gl, rfl, hgl, hcl⟩ := own10.ir jl (blkL X)[jl] (List.getElem?_eq_getElem hjlt)
  rw [hlen2]
  have h10 := H9.out.new (keeps_below' (F := fun _ => False) b10)
  have h11 := h10.new (Keeps.alloc (fun _ => False) w10 (.cells (madeCells #[.int .u8 0] zl) 5))
  have hlay := rlayH_at h11.ref (6144 + (((blkL X)[jl] * 64 + rs : Nat) : Int)) (by omega) (by omega) (some ⟨w10.heap.size, 0, none⟩) (List.replicate zl 0) zl (Row8.made w10 zl 5).br (fun ad e1 _ => by cases e1; have := h10.ref.lt; show w10.heap.size ≠ b; omega) (by rw [List.length_replicate]; omega)
  rw [lay_in hM HP3.out (by rw [List.length_replicate]; omega), ← HTK.out, List.length_replicate] at hlay
  have HL := Lib.hid hlay
  have H11 := Lib.hid h11
  clear own10 b10 h10 h11 hlay HBL3 H9 HTK HP3 g2x F1 F2 hlen2
  generalize (blkL X)[jl] = L at *
  subst hzl
  have hmk2 := make8 (64 - rs) (by omega)
  have v0 : IntKind.i64.wrap (((jl + 1 : Nat) : Int) - 1) = (jl : Int) := by rw [IntKind.wrap_i64]; omega
  have v1 : IntKind.i64.wrap ((L : Int) * 64) = (L : Int) * 64 := by rw [IntKind.wrap_i64]; omega
  have v2 : IntKind.i64.wrap (6144 + (L : Int) * 64) = 6144 + (L : Int) * 64 := by rw [IntKind.wrap_i64]; omega
  have v3 : IntKind.i64.wrap (6144 + (L : Int) * 64 + (rs : Int)) = 6144 + ((L * 64 + rs : Nat) : Int) := by rw [IntKind.wrap_i64]; omega
  have v5 : IntKind.i64.wrap (6144 + (L : Int) * 64 + (s : Int) % 64) = 6144 + ((L * 64 + rs : Nat) : Int) := by rw [IntKind.wrap_i64]; omega
  have v6 : IntKind.i64.wrap (64 - (s : Int) % 64) = ((64 - rs : Nat) : Int) := by rw [IntKind.wrap_i64]; omega
  have v4 : IntKind.i64.wrap (64 - (rs : Int)) = ((64 - rs : Nat) : Int) := by rw [IntKind.wrap_i64]; omega
  go_wp2_with fail
  refine HL.out.mono ?_
  rintro en w12 ⟨rfl, h12, k12⟩
  have HG := Lib.hid (HCONS.out w12 _ (H11.out.keepB k12 h12) rfl)
  clear h12 k12 HL H11 HCONS
  go_wp2_with fail
  go_ret
  exact HG.out
end Go.Proofs.YtefgabnmcfpdcaaGreatDoor.Fr
