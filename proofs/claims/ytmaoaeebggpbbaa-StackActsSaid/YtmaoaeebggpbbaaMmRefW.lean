/-
  MmRefW
-/
import Derived.Test.YtmaoaeebggpbbaaMmRef
import Derived.Test.YtmaoaeebggpbbaaGMm
namespace Go.Proofs.Ytmaoaeebggpbbaa.Mm
open Go.RowKit Go.Maps
set_option linter.unusedVariables false

variable {w : World} {mi q b c d e : Nat} {B G : List UInt8}
set_option maxRecDepth 100000 in
/-- The document's PutCell: its bytes are the call's own. -/
theorem refPutCell_own (A : Option Addr) (xs : List UInt8) (c : Nat) (a : Int) (n : Int) (w : World) (hx : BR w w.heap.size A xs) (hl : xs.length ≤ 1000000) (ha : -9223372036854775808 ≤ a) (ha' : a ≤ 9223372036854775807) :
    Calls Try.prog 63 #[.slice A xs.length c, .int .i64 a, .int .i64 n] w (GivesO w (putL xs a (IntKind.u64.wrap n).toNat 8)) := by
  go_enter Try.func63, Try.ntmps63
  have hw : IntKind.u64.wrap n = ((IntKind.u64.wrap n).toNat : Int) := (Int.toNat_of_nonneg (by rw [IntKind.wrap_u64]; omega)).symm
  have HW := Lib.hid hw
  clear hw
  go_wp2_with fail
  rw [HW.out]
  refine (refPutNum_own _ _ _ _ _ _ _ hx hl ha ha').mono ?_
  rintro e w1 ⟨R, c1, rfl, hr, hb⟩
  go_wp2_with fail
  go_ret
  exact ⟨R, c1, rfl, hr, hb⟩

set_option maxRecDepth 100000 in
set_option maxHeartbeats 400000 in
theorem rset_at (h : RefH w mi q b c d e B G) (hmi : mi ≤ w.heap.size) (a n : Int) (ha : -9223372036854775808 ≤ a) (ha' : a ≤ 9223372036854775807) :
    Calls Try.prog 43 #[.pointer (some ⟨q, 0, none⟩), .int .i64 a, .int .i64 n] w (OutR w mi q b (setM B a n) G (.tuple #[])) := by
  obtain ⟨c0, c1, f0⟩ := h.cs
  have bl := h.bl
  have hlt := h.lt
  have C := refPutCell_own (some ⟨b, 0, none⟩) B c a n w h.br (by omega) ha ha'
  rw [bl] at C
  have CC := Lib.hid C
  clear C
  go_enter Try.func43, Try.ntmps43
  go_wp2_with fail
  refine CC.out.mono ?_
  rintro e1 w2 ⟨R, c2, rfl, ho, hb⟩
  have hl : (putL B a (IntKind.u64.wrap n).toNat 8).length = 8192 := by rw [putL_len, bl]
  have k2 : Keeps (fun _ => False) w w2 := Keeps.below hb _ fun k h1 h2 => by omega
  have h2 := h.keep k2 (fun _ _ _ h => h)
  obtain ⟨g, rfl, g1, g2, _, _⟩ := ho.at_ (k := 0) (by omega)
  obtain ⟨d0, d1, f2⟩ := h2.cs
  have fin : MRefAt (w2.setCell ⟨q, 0, none⟩ (.slice (some ⟨g, 0, none⟩) 8192 c2)) mi q (setM B a n) G := by
    have ks : Keeps (fun i => i = q) w2 (w2.setCell ⟨q, 0, none⟩ (.slice (some ⟨g, 0, none⟩) 8192 c2)) := Keeps.setCell _ _ _ _ rfl
    refine ⟨g, c2, d, e, ⟨h.q0, hl, h.gl, ?_, (ho.low hmi).keeps' ks (by omega), h2.was.keeps' ks h.dq, by omega, h.dq, by omega⟩⟩
    rw [heap_setCell_same w2 q 0 _ _ _ h2.head]
    rfl
  have kf : Keeps (fun k => k = q ∨ k = b) w (w2.setCell ⟨q, 0, none⟩ (.slice (some ⟨g, 0, none⟩) 8192 c2)) := Keeps.thru k2 (Keeps.setCell (fun i => i = q) _ _ _ rfl) (fun _ _ h => h.elim) fun i _ hi => Or.inl hi
  have FIN := Lib.hid fin
  have KF := Lib.hid kf
  rw [hl]
  clear fin kf ho hb k2 h2 h CC hl g1 g2 c0 c1 f0 d1
  go_wp2_with fail
  all_goals
    go_end0
    exact ⟨rfl, FIN.out, KF.out⟩

theorem layL1 (M : List UInt8) (a : Int) (u : UInt8) (h0 : 0 ≤ a) (h1 : a < M.length) : layL M a [u] = M.set a.toNat u := by
  refine ext_getD (by rw [layL_len, List.length_set]) fun k hk => ?_
  rw [layL_len] at hk
  rw [getD_layL _ _ _ _ hk, List.getD_eq_getElem?_getD (l := M.set a.toNat u), List.getElem?_set, List.length_singleton]
  by_cases e : a.toNat = k
  · have c1 : a ≤ k ∧ (k : Int) < a + (1 : Nat) := by omega
    have c2 : a.toNat < M.length := by omega
    rw [if_pos e, if_pos c1, if_pos c2, byt_in _ _ (by omega), show ((k : Int) - a).toNat = 0 by omega]
    rfl
  · have c1 : ¬ (a ≤ k ∧ (k : Int) < a + (1 : Nat)) := by omega
    rw [if_neg e, if_neg c1, ← List.getD_eq_getElem?_getD]

end Go.Proofs.Ytmaoaeebggpbbaa.Mm
