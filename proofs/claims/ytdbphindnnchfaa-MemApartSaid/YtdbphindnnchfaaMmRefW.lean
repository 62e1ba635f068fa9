/-
  MmRefW
-/
import Derived.Test.YtdbphindnnchfaaMmRef
import Derived.Test.YtdbphindnnchfaaMmLoad
namespace Go.Proofs.Ytdbphindnnchfaa.Mm
open Go.RowKit Go.Maps
set_option linter.unusedVariables false

variable {w : World} {mi q b c d e : Nat} {B G : List UInt8}
set_option maxRecDepth 100000 in
/-- The document's PutCell: its bytes are the call's own. -/
theorem refPutCell_own (A : Option Addr) (xs : List UInt8) (c : Nat) (a : Int) (n : Int) (w : World) (hx : BR w w.heap.size A xs) (hl : xs.length ≤ 1000000) (ha : -9223372036854775808 ≤ a) (ha' : a ≤ 9223372036854775807) :
    Calls Try.prog 38 #[.slice A xs.length c, .int .i64 a, .int .i64 n] w (GivesO w (putL xs a (IntKind.u64.wrap n).toNat 8)) := by
  go_enter Try.func38, Try.ntmps38
  have hw : IntKind.u64.wrap n = ((IntKind.u64.wrap n).toNat : Int) := (Int.toNat_of_nonneg (by rw [IntKind.wrap_u64]; omega)).symm
  have HW := Lib.hid hw
  clear hw
  go_wp2_with fail
  rw [HW.out]
  refine (refPutNum_own _ _ _ _ _ _ _ hx hl ha ha').mono ?_
  rintro e w1 ⟨R, c1, rfl, hr, hb⟩
  go_wp2_with fail
  go_ret
  exact ⟨R, c1, rfl, hr, hb⟩

set_option maxRecDepth 100000 in
set_option maxHeartbeats 400000 in
theorem rset_at (h : RefH w mi q b c d e B G) (hmi : mi ≤ w.heap.size) (a n : Int) (ha : -9223372036854775808 ≤ a) (ha' : a ≤ 9223372036854775807) :
    Calls Try.prog 18 #[.pointer (some ⟨q, 0, none⟩), .int .i64 a, .int .i64 n] w (OutR w mi q b (setM B a n) G (.tuple #[])) := by
  obtain ⟨c0, c1, f0⟩ := h.cs
  have bl := h.bl
  have hlt := h.lt
  have C := refPutCell_own (some ⟨b, 0, none⟩) B c a n w h.br (by omega) ha ha'
  rw [bl] at C
  have CC := Lib.hid C
  clear C
  go_enter Try.func18, Try.ntmps18
  go_wp2_with fail
  refine CC.out.mono ?_
  rintro e1 w2 ⟨R, c2, rfl, ho, hb⟩
  have hl : (putL B a (IntKind.u64.wrap n).toNat 8).length = 8192 := by rw [putL_len, bl]
  have k2 : Keeps (fun _ => False) w w2 := Keeps.below hb _ fun k h1 h2 => by omega
  have h2 := h.keep k2 (fun _ _ _ h => h)
  obtain ⟨g, rfl, g1, g2, _, _⟩ := ho.at_ (k := 0) (by omega)
  obtain ⟨d0, d1, f2⟩ := h2.cs
  have fin : RefAt (w2.setCell ⟨q, 0, none⟩ (.slice (some ⟨g, 0, none⟩) 8192 c2)) mi q (setM B a n) G := by
    have ks : Keeps (fun i => i = q) w2 (w2.setCell ⟨q, 0, none⟩ (.slice (some ⟨g, 0, none⟩) 8192 c2)) := Keeps.setCell _ _ _ _ rfl
    refine ⟨g, c2, d, e, ⟨h.q0, hl, h.gl, ?_, (ho.low hmi).keeps' ks (by omega), h2.was.keeps' ks h.dq, by omega, h.dq, by omega⟩⟩
    rw [heap_setCell_same w2 q 0 _ _ _ h2.head]
    rfl
  have kf : Keeps (fun k => k = q ∨ k = b) w (w2.setCell ⟨q, 0, none⟩ (.slice (some ⟨g, 0, none⟩) 8192 c2)) := Keeps.thru k2 (Keeps.setCell (fun i => i = q) _ _ _ rfl) (fun _ _ h => h.elim) fun i _ hi => Or.inl hi
  have FIN := Lib.hid fin
  have KF := Lib.hid kf
  rw [hl]
  clear fin kf ho hb k2 h2 h CC hl g1 g2 c0 c1 f0 d1
  go_wp2_with fail
  all_goals
    go_end0
    exact ⟨rfl, FIN.out, KF.out⟩

theorem layL1 (M : List UInt8) (a : Int) (u : UInt8) (h0 : 0 ≤ a) (h1 : a < M.length) : layL M a [u] = M.set a.toNat u := by
  refine ext_getD (by rw [layL_len, List.length_set]) fun k hk => ?_
  rw [layL_len] at hk
  rw [getD_layL _ _ _ _ hk, List.getD_eq_getElem?_getD (l := M.set a.toNat u), List.getElem?_set, List.length_singleton]
  by_cases e : a.toNat = k
  · have c1 : a ≤ k ∧ (k : Int) < a + (1 : Nat) := by omega
    have c2 : a.toNat < M.length := by omega
    rw [if_pos e, if_pos c1, if_pos c2, byt_in _ _ (by omega), show ((k : Int) - a).toNat = 0 by omega]
    rfl
  · have c1 : ¬ (a ≤ k ∧ (k : Int) < a + (1 : Nat)) := by omega
    rw [if_neg e, if_neg c1, ← List.getD_eq_getElem?_getD]

set_option maxRecDepth 100000 in
set_option maxHeartbeats 400000 in
theorem rputbyte_at (h : RefH w mi q b c d e B G) (a n : Int) :
    Calls Try.prog 29 #[.pointer (some ⟨q, 0, none⟩), .int .i64 a, .int .i64 n] w (OutR w mi q b (pbM B a n) G (.int .i64 (pbT a))) := by
  unfold pbM pbT
  by_cases c0 : a < 768 ∨ 5632 ≤ a
  · rw [if_pos c0, if_pos c0]
    have HA := Lib.hid (show RefAt w mi q B G from ⟨b, c, d, e, h⟩)
    by_cases c1 : a < 768
    · go_enter Try.func29, Try.ntmps29
      go_wp2_with fail
      go_ret
      exact ⟨rfl, HA.out, Keeps.refl _ _⟩
    · have c2 : 5632 ≤ a := by omega
      clear c0
      go_enter Try.func29, Try.ntmps29
      go_wp2_with fail
      go_ret
      exact ⟨rfl, HA.out, Keeps.refl _ _⟩
  · rw [if_neg c0, if_neg c0]
    obtain ⟨k, rfl⟩ := Int.eq_ofNat_of_zero_le (show 0 ≤ a by omega)
    have c1 : 768 ≤ k := by omega
    have c2 : k < 5632 := by omega
    clear c0
    obtain ⟨x0, x1, f0⟩ := h.cs
    obtain ⟨y0, y1⟩ := h.byte (k := k) (by omega)
    have bt : (B8 (UInt8.ofNat (n % 256).toNat)) = .int .u8 (n % 256) := by
      have e : ((UInt8.ofNat (n % 256).toNat).toNat : Int) = n % 256 := by
        have : (n % 256).toNat < 256 := by omega
        rw [UInt8.toNat_ofNat_of_lt' this]
        omega
      show Value.int .u8 ((UInt8.ofNat (n % 256).toNat).toNat : Int) = _
      rw [e]
    rw [layL1 _ _ _ (by omega) (by rw [h.bl]; omega), Int.toNat_natCast]
    have fin := h.set_ k (UInt8.ofNat (n % 256).toNat)
    rw [bt] at fin
    have FIN := Lib.hid (show RefAt (w.setCell ⟨b, k, none⟩ (.int .u8 (n % 256))) mi q (B.set k (UInt8.ofNat (n % 256).toNat)) G from ⟨b, c, d, e, fin⟩)
    have KF := Lib.hid (show Keeps (fun k => k = q ∨ k = b) w (w.setCell ⟨b, k, none⟩ (.int .u8 (n % 256))) from Keeps.setCell _ _ _ _ (Or.inr rfl))
    clear fin bt h
    generalize B.getD k 0 = u0 at *
    generalize B.set k (UInt8.ofNat (n % 256).toNat) = B' at *
    go_enter Try.func29, Try.ntmps29
    go_wp2_with fail
    go_ret
    exact ⟨rfl, FIN.out, KF.out⟩

set_option maxRecDepth 100000 in
set_option maxHeartbeats 400000 in
theorem rputcell_at (h : RefH w mi q b c d e B G) (hmi : mi ≤ w.heap.size) (a n : Int) (ha : -9223372036854775808 ≤ a) (ha' : a ≤ 9223372036854775807) :
    Calls Try.prog 30 #[.pointer (some ⟨q, 0, none⟩), .int .i64 a, .int .i64 n] w (OutR w mi q b (pcM B a n) G (.int .i64 (pcT a))) := by
  unfold pcM pcT
  have S := Lib.hid (rset_at h hmi a n ha ha')
  have H := Lib.hid (show RefAt w mi q B G from ⟨b, c, d, e, h⟩)
  clear h
  by_cases h16 : a = 16
  · subst h16
    rw [if_pos rfl, if_pos rfl]
    go_enter Try.func30, Try.ntmps30
    go_wp2_with fail
    refine S.out.mono ?_
    rintro e1 w2 ⟨rfl, h2, k2⟩
    have H2 := Lib.hid h2
    have K2 := Lib.hid k2
    clear h2 k2
    go_wp2_with fail
    go_ret
    exact ⟨rfl, H2.out, K2.out⟩
  have n16 : (a != 16) = true := by simpa using h16
  rw [if_neg h16]
  have t0 : throwT a 768 5632 = if a < 768 ∨ 5632 - 8 < a then -9 else if ¬ a.tmod 8 = 0 then -23 else 0 := rfl
  by_cases c1 : a < 768
  · rw [if_pos (Or.inl c1)] at t0
    rw [t0, if_neg (by omega)]
    clear t0
    go_enter Try.func30, Try.ntmps30
    go_wp2_with fail
    go_ret
    exact ⟨rfl, H.out, Keeps.refl _ _⟩
  by_cases c2 : 5632 - 8 < a
  · rw [if_pos (Or.inr c2)] at t0
    rw [t0, if_neg (by omega)]
    clear t0
    go_enter Try.func30, Try.ntmps30
    go_wp2_with fail
    go_ret
    exact ⟨rfl, H.out, Keeps.refl _ _⟩
  rw [if_neg (show ¬ (a < 768 ∨ 5632 - 8 < a) by omega)] at t0
  have tm : a.tmod 8 = a % 8 := Int.tmod_eq_emod_of_nonneg (by omega)
  rw [tm] at t0
  by_cases c3 : a % 8 = 0
  · rw [if_neg (show ¬ ¬ a % 8 = 0 by simpa using c3)] at t0
    rw [t0, if_pos rfl]
    rw [c3] at tm
    clear t0
    go_enter Try.func30, Try.ntmps30
    go_wp2_with fail
    refine S.out.mono ?_
    rintro e1 w2 ⟨rfl, h2, k2⟩
    have H2 := Lib.hid h2
    have K2 := Lib.hid k2
    clear h2 k2
    go_wp2_with fail
    go_ret
    exact ⟨rfl, H2.out, K2.out⟩
  · rw [if_pos c3] at t0
    rw [t0, if_neg (by omega)]
    clear t0
    go_enter Try.func30, Try.ntmps30
    go_wp2_with fail
    go_ret
    exact ⟨rfl, H.out, Keeps.refl _ _⟩
end Go.Proofs.Ytdbphindnnchfaa.Mm
