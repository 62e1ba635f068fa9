/-
  Merged by wip/tools/merge.py: FrRaw FrActs
-/
import Derived.Test.YtefgabnmcfpdcaaGreatDoorGFq
import Derived.Test.YtefgabnmcfpdcaaGreatDoorGFk
import Derived.Test.YtefgabnmcfpdcaaGreatDoorGFi
import Derived.Test.YtefgabnmcfpdcaaGreatDoorGFj
namespace Go.Proofs.YtefgabnmcfpdcaaGreatDoor.Fr
open Go.RowKit Ex Ino Mm Fs
set_option linter.unusedVariables false
set_option linter.unusedSimpArgs false
theorem FActR.more {w : World} {B B' : Nat} {A : Option Addr} {l : List FAct} (h : FActR w B A l) (hB : B ≤ B') : FActR w B' A l := fun hn => by
 obtain ⟨ad, e, hlt, hc⟩ := h hn
 exact ⟨ad, e, Nat.lt_of_lt_of_le hlt hB, hc⟩
theorem two_below {lo : Nat} {w W : World} {p gb mb mi q b c d e : Nat} {G Gd M : List UInt8} (h : TwoF lo w p gb mb mi q b c d e G Gd M W) (hlo : w.heap.size ≤ lo) : Below w.heap.size w W := ⟨h.kp.os, h.kp.tape, h.kp.output, h.kp.size, fun k hk => h.kp.block k hk (by omega)⟩
end Go.Proofs.YtefgabnmcfpdcaaGreatDoor.Fr
namespace Go.Proofs.YtefgabnmcfpdcaaGreatDoor.Fr
open Go.RowKit Ex Ino Mm Fs
set_option linter.unusedVariables false
set_option linter.unusedSimpArgs false
set_option maxRecDepth 100000 in
set_option maxHeartbeats 2000000 in
theorem acts_any (w : World) (hT : Tab w) (A : Option Addr) (l : List FAct) (cl : Nat) (hl : FActsOk w A l) (hlen : l.length ≤ 1599289640401) (hw : ∀ a ∈ l, a.xs.length ≤ 140737488351232) :
  Calls Tryz.prog 3 #[.slice A l.length cl] w (fun e w' => e = .returned (.bool true) ∧ Below w.heap.size w w') := by
 have HT := Lib.hid hT
 have HL := Lib.hid hl
 have HW := Lib.hid hw
 clear hT hl hw
 go_enter Tryz.func3, Tryz.ntmps3
 go_wp2_with fail
 refine (fawake_any _ HT.out).mono ?_
 rintro e u1 ⟨rfl, b1⟩
 go_wp2_with fail
 refine (ffew_any none 0 0 A l cl u1 (Fr.FActR.more (HL.out.ar.below b1) b1.size) hlen).mono ?_
 rintro e u2 ⟨⟨bb, rfl⟩, bf⟩
 have b2 := b1.trans (bf.mono b1.size)
 clear b1 bf
 cases bb
 ·go_wp2_with fail
  go_ret
  exact ⟨rfl, b2⟩
 go_wp2_with fail
 refine (mflat_any none [] 0 u2 BR.nil).mono ?_
 rintro e u3 ⟨p, gb, mb, rfl, p1, p2, p3, hm, k3⟩
 have kk3 := (keeps_below' (F := fun _ => False) b2).trans k3
 have HM := Lib.hid hm
 have KK3 := Lib.hid kk3
 have HF := Lib.hid (rflat_any none [] 0 u3 BR.nil)
 have P := Lib.hid (show w.heap.size ≤ p ∧ w.heap.size ≤ mb from by have := b2.size; omega)
 clear hm k3 kk3 b2 p1 p2 p3
 go_wp2_with fail
 refine HF.out.mono ?_
 rintro e u4 ⟨q, rfl, ⟨b, c, d, e, hr⟩, k4⟩
 have gl : (fillL []).length = 8192 := fillL_len []
 generalize fillL [] = G0 at *
 have H0 : Hid (TwoF w.heap.size w p gb mb u3.heap.size q b c d e G0 G0 G0 u4) := by
  have hlt := HM.out.lt
  have hkk := KK3.out.trans k4
  exact ⟨HM.out.keep k4 (fun f => f) (fun f => f) (fun f => f), hr, HT.out.keep (hkk.block 0 HT.out.pos (fun f => f)), ⟨by omega, by omega, by omega, P.out.1, P.out.2, HT.out.pos⟩, hkk.mono fun _ _ f => f.elim⟩
 clear hr k4 HF HM KK3
 have HFM := Lib.hid (format_any (layC_flat H0.out.mem fmtB (by rw [fmtB_len]; omega)))
 have HGM := Lib.hid (Has.fmt gl)
 go_wp2_with fail
 refine HFM.out.mono ?_
 rintro e5 u5 ⟨rfl, m5, k5⟩
 have HRF := Lib.hid (rformat_any (H0.out.mid k5))
 have HMK := Lib.hid (And.intro m5 k5)
 clear m5 k5 HFM
 go_wp2_with fail
 refine HRF.out.mono ?_
 rintro e6 u6 ⟨rfl, r6, k6⟩
 have H6 := Lib.hid (H0.out.both HMK.out.1 HMK.out.2 r6 k6)
 clear r6 k6 HRF HMK H0
 go_wp2_with fail
 go_loopw [6, 22] (fun _ i wr => ∃ (k : Nat) (M : List UInt8), k ≤ l.length ∧ i = .int .i64 (k : Int) ∧ okR (regB M) ∧ TwoF w.heap.size w p gb mb u3.heap.size q b c d e G0 G0 M wr) (fun _ i _ => l.length - (RowKit.intOf i).toNat)
 case atStart => exact ⟨0, _, by omega, rfl, HGM.out.ok, H6.out⟩
 case round =>
  clear H6
  obtain ⟨k, M, hk, rfl, hok, htw⟩ := hrel
  have hbw := two_below htw (Nat.le_refl _)
  by_cases hlt : k < l.length
  ·obtain ⟨ad, rfl, hlb, d0, d1, d2, d3, d4, d5, d6⟩ := (HL.out.ar.below hbw).at_ hlt
   have hmem : l[k] ∈ l := List.getElem_mem hlt
   have ok := HL.out.ok _ hmem
   have hml := HW.out _ hmem
   clear hmem
   generalize l[k] = a at *
   have kA : Keeps (fun _ => False) wr (wr.alloc (.cells (facells a).toArray 33)) := Keeps.alloc _ _ _
   have hlow : a.xs ≠ [] → ∀ ad, a.A = some ad → ad.block < w.heap.size := fun hne ad e => by
    obtain ⟨ad', e', hl', _⟩ := ok.br hne
    rw [e] at e'
    cases e'
    exact hl'
   have okA : a.Ok (wr.alloc (.cells (facells a).toArray 33)) := ⟨ok.do__w, ok.s1_w, ok.s2_w, ok.i3_w, ok.i4_w, ok.i5_w, kA.br ((ok.br.below hbw).more hbw.size) (fun _ _ _ f => f), ok.cap⟩
   have hmb : mb ≠ 0 := by have := P.out; have := HT.out.pos; omega
   have HAC := Lib.hid (act_any (htw.new kA) hmb a okA (by omega) hlow)
   have HOK := Lib.hid hok
   have d9 : decide ((k : Int) < (l.length : Int)) = true := by simp only [decide_eq_true_eq]; omega
   have p0 : (0 : Int) ≤ k := by omega
   have p1 : (k : Int) < l.length := by omega
   have q3 : IntKind.i64.wrap ((k : Int) + 1) = (k : Int) + 1 := by rw [IntKind.wrap_i64]; omega
   clear htw hbw ok hml kA hlow okA hmb hok
   go_wp2_with fail
   refine HAC.out.mono ?_
   rintro e u7 ⟨rfl, M2, g7, h7⟩
   have H7 := Lib.hid h7
   have G7 := Lib.hid (g7 HOK.out)
   clear h7 g7 HAC HOK
   go_wp2_with fail
   go_roundw
   case rel => exact ⟨k + 1, M2, by omega, by go_num, G7.out, H7.out⟩
   case measure => simp [RowKit.intOf]; omega
  ·obtain rfl : k = l.length := by omega
   have HS := Lib.hid (same_two htw)
   have HOK := Lib.hid hok
   clear htw hbw hok
   have d9 : decide ((l.length : Int) < (l.length : Int)) = false := by simp
   go_wp2_with fail
   refine HS.out.mono ?_
   rintro e u9 ⟨rfl, h9⟩
   have HCK := Lib.hid (fcheck_any (memC_flat h9.mem))
   have H9 := Lib.hid h9
   clear h9 HS
   go_wp2_with fail
   refine HCK.out.mono ?_
   rintro ee u10 ⟨s10, k10, hx⟩
   obtain rfl : ee = .returned (.int .i64 0) := by
    rcases hx with ⟨_, he⟩ | ⟨hn, _⟩
    ·exact he
    ·exact absurd HOK.out hn
   have HB10 : Hid (Below w.heap.size w u10) := two_below (H9.out.both s10 (k10.mono fun _ _ e => .inr e) (H9.out.mid (k10.mono fun _ _ e => .inr e)) (Keeps.refl _ _)) (Nat.le_refl _)
   clear s10 k10 hx HCK H9 HOK
   go_wp2_with fail
   go_ret
   exact ⟨rfl, HB10.out⟩
end Go.Proofs.YtefgabnmcfpdcaaGreatDoor.Fr
