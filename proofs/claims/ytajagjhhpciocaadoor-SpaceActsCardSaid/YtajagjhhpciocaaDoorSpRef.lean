/-
  The document's map: the contracts of its calls.
-/
import Derived.Test.YtajagjhhpciocaaDoorSpCopy
namespace Go.Proofs.YtajagjhhpciocaaDoor.Sp
open Go.RowKit

structure RefAt (w : World) (q bh ch : Nat) (cs : List Nat) : Prop where
  head : w.heap[q]? = some (.cells #[.slice (some ⟨bh, 0, none⟩) cs.length ch] 52 (0, 0))
  len : cs.length ≤ 2000
  row : RowK .i64 3 w bh cs
  d : bh ≠ q
def RefS (w : World) (lo hi q : Nat) (cs : List Nat) : Prop := ∃ bh ch, RefAt w q bh ch cs ∧ lo ≤ q ∧ q < hi ∧ lo ≤ bh ∧ bh < hi

section
variable {w : World} {q bh ch : Nat} {cs : List Nat}
theorem RefAt.lt (h : RefAt w q bh ch cs) : q < w.heap.size := (Array.getElem?_eq_some_iff.1 h.head).1
theorem RefAt.c (h : RefAt w q bh ch cs) : w.cell? ⟨q, 0, none⟩ = some (.slice (some ⟨bh, 0, none⟩) cs.length ch) := by rw [cell_of_row _ _ _ _ _ _ h.head]; rfl
theorem RefAt.keep {w' : World} (h : RefAt w q bh ch cs) {X : Nat → Prop} (k : Keeps X w w') (hq : ¬ X q) (hb : ¬ X bh) : RefAt w' q bh ch cs :=
  ⟨(k.block q h.lt hq).trans h.head, h.len, h.row.block (k.block _ h.row.lt hb), h.d⟩
theorem RefS.keep {w' : World} {lo hi : Nat} (h : RefS w lo hi q cs) {X : Nat → Prop} (k : Keeps X w w') (hX : ∀ i, lo ≤ i → i < hi → ¬ X i) : RefS w' lo hi q cs := by
  obtain ⟨bh, ch, h, h1, h2, h3, h4⟩ := h
  exact ⟨bh, ch, h.keep k (hX _ h1 h2) (hX _ h3 h4), h1, h2, h3, h4⟩
theorem RefS.below {w' : World} {lo hi : Nat} (h : RefS w lo hi q cs) (k : Below w.heap.size w w') : RefS w' lo hi q cs := h.keep (keeps_below k) fun _ _ _ h => h
theorem RefAt.upd (h : RefAt w q bh ch cs) {w2 : World} {cs' : List Nat} (hl : cs'.length = cs.length) (k : Keeps (fun i => i = bh) w w2) (hc : RowK .i64 3 w2 bh cs') : RefAt w2 q bh ch cs' :=
  ⟨by rw [hl]; exact (k.block q h.lt (fun e => h.d e.symm)).trans h.head, by rw [hl]; exact h.len, hc, h.d⟩

set_option maxHeartbeats 400000 in
theorem rhas_at (h : RefAt w q bh ch cs) (n : Int) : Calls Tryd.prog 35 #[.pointer (some ⟨q, 0, none⟩), .int .i64 n] w fun e w' => e = .returned (.bool (hasB cs n)) ∧ w = w' := by
  have c0 := h.c
  have hl := h.len
  clear h
  by_cases h2 : 2 ≤ n
  · by_cases hn : n < (cs.length : Int)
    · have hb : hasB cs n = true := by simp [hasB, h2, hn]
      rw [hb]
      clear hb
      go_enter Tryd.func35, Tryd.ntmps35
      go_wp2_with fail
      go_ret
      exact ⟨rfl, rfl⟩
    · have hb : hasB cs n = false := by simp [hasB]; omega
      have hd : decide (n < (cs.length : Int)) = false := by simpa using hn
      have HD := Lib.hid hd
      rw [hb]
      clear hb hd
      go_enter Tryd.func35, Tryd.ntmps35
      go_wp2_with fail
      go_ret
      exact ⟨by rw [← HD.out]; rfl, rfl⟩
  · have hb : hasB cs n = false := by simp [hasB, h2]
    rw [hb]
    clear hb
    go_enter Tryd.func35, Tryd.ntmps35
    go_wp2_with fail
    go_ret
    exact ⟨rfl, rfl⟩
set_option maxHeartbeats 400000 in
theorem rcount_at (h : RefAt w q bh ch cs) (n : Int) : Calls Tryd.prog 24 #[.pointer (some ⟨q, 0, none⟩), .int .i64 n] w fun e w' => e = .returned (.int .i64 (countOf cs n : Nat)) ∧ w = w' := by
  have c0 := h.c
  have hh := rhas_at h n
  unfold countOf
  cases hb : hasB cs n
  · rw [hb] at hh
    have HM := Lib.hid hh
    clear hh h hb
    go_enter Tryd.func24, Tryd.ntmps24
    go_wp2_with fail
    refine HM.out.mono ?_
    rintro e w' ⟨rfl, rfl⟩
    go_wp2_with fail
    go_ret
    exact ⟨rfl, rfl⟩
  · rw [hb] at hh
    simp [hasB] at hb
    obtain ⟨m, rfl⟩ := Int.eq_ofNat_of_zero_le (show 0 ≤ n by omega)
    have hm : m < cs.length := by omega
    have hc := h.row.cell hm
    have HM := Lib.hid hh
    rw [Int.toNat_natCast]
    generalize cs.getD m 0 = x at *
    clear hh h hb
    go_enter Tryd.func24, Tryd.ntmps24
    go_wp2_with fail
    refine HM.out.mono ?_
    rintro e w' ⟨rfl, rfl⟩
    go_wp2_with fail
    go_ret
    exact ⟨rfl, rfl⟩
/-- What a call on the document's map leaves. -/
def RHeld (w : World) (q bh ch : Nat) (cs' : List Nat) (v : Value) (e : Ending) (w' : World) : Prop := e = .returned v ∧ RefAt w' q bh ch cs' ∧ Keeps (fun i => i = bh) w w'
set_option maxHeartbeats 600000 in
theorem rhold_at (h : RefAt w q bh ch cs) (n : Int) {K : Nat} (hu : Upto K cs) (hK : K < 1000000000000) : Calls Tryd.prog 21 #[.pointer (some ⟨q, 0, none⟩), .int .i64 n] w (RHeld w q bh ch (holdC cs n) (.int .i64 (holdE cs n))) := by
  have c0 := h.c
  have hh := rhas_at h n
  have h0 := h
  unfold holdE holdC
  cases hb : hasB cs n
  · rw [hb] at hh
    have HM := Lib.hid hh
    have H0 := Lib.hid h0
    clear hh h hb h0
    go_enter Tryd.func21, Tryd.ntmps21
    go_wp2_with fail
    refine HM.out.mono ?_
    rintro e w' ⟨rfl, rfl⟩
    go_wp2_with fail
    go_ret
    exact ⟨rfl, H0.out, Keeps.refl _ _⟩
  · rw [hb] at hh
    simp [hasB] at hb
    obtain ⟨m, rfl⟩ := Int.eq_ofNat_of_zero_le (show 0 ≤ n by omega)
    have hm : m < cs.length := by omega
    have hl := h.len
    have rc := h.row
    have hc := rc.cell hm
    have hf := rc.free m
    have hx := hu.at_ m
    have rc1 := rc.set m (cs.getD m 0 + 1)
    have k1 : Keeps (fun i => i = bh) w (w.setCell ⟨bh, m, none⟩ (.int .i64 ((cs.getD m 0 + 1 : Nat) : Int))) := Keeps.setCell _ _ _ _ rfl
    have HM := Lib.hid hh
    rw [Int.toNat_natCast, if_pos rfl, if_pos rfl]
    have HF := Lib.hid (h.upd (cs' := cs.set m (cs.getD m 0 + 1)) (by simp) k1 rc1)
    have K1 := Lib.hid k1
    clear rc1 k1 rc hh h hb h0 hu
    generalize cs.set m (cs.getD m 0 + 1) = cs' at *
    rw [show ((cs.getD m 0 + 1 : Nat) : Int) = ((cs.getD m 0 : Nat) : Int) + 1 from rfl] at HF K1
    generalize cs.getD m 0 = x at *
    go_enter Tryd.func21, Tryd.ntmps21
    go_wp2_with fail
    refine HM.out.mono ?_
    rintro e w' ⟨rfl, rfl⟩
    go_wp2_with fail
    go_ret
    exact ⟨rfl, HF.out, K1.out⟩
set_option maxHeartbeats 600000 in
theorem rdrop_at (h : RefAt w q bh ch cs) (n : Int) {K : Nat} (hu : Upto K cs) (hK : K < 1000000000000) : Calls Tryd.prog 22 #[.pointer (some ⟨q, 0, none⟩), .int .i64 n] w (RHeld w q bh ch (dropC cs n) (.int .i64 (dropE cs n))) := by
  have c0 := h.c
  have hh := rhas_at h n
  have h0 := h
  unfold dropE dropC
  cases hb : hasB cs n
  · rw [hb] at hh
    have HM := Lib.hid hh
    have H0 := Lib.hid h0
    clear hh h hb h0
    go_enter Tryd.func22, Tryd.ntmps22
    go_wp2_with fail
    refine HM.out.mono ?_
    rintro e w' ⟨rfl, rfl⟩
    go_wp2_with fail
    go_ret
    exact ⟨rfl, H0.out, Keeps.refl _ _⟩
  · rw [hb] at hh
    simp [hasB] at hb
    obtain ⟨m, rfl⟩ := Int.eq_ofNat_of_zero_le (show 0 ≤ n by omega)
    have hm : m < cs.length := by omega
    have hl := h.len
    have rc := h.row
    have hc := rc.cell hm
    have hf := rc.free m
    have hx := hu.at_ m
    have HM := Lib.hid hh
    rw [Int.toNat_natCast, if_pos rfl, if_pos rfl]
    by_cases hz : cs.getD m 0 = 0
    · rw [if_pos hz, if_pos hz]
      rw [hz] at hc
      have H0 := Lib.hid h0
      clear rc hh h hb h0 hu hz hx
      go_enter Tryd.func22, Tryd.ntmps22
      go_wp2_with fail
      refine HM.out.mono ?_
      rintro e w' ⟨rfl, rfl⟩
      go_wp2_with fail
      go_ret
      exact ⟨rfl, H0.out, Keeps.refl _ _⟩
    · rw [if_neg hz, if_neg hz]
      obtain ⟨y, hy⟩ : ∃ y, cs.getD m 0 = y + 1 := ⟨cs.getD m 0 - 1, by omega⟩
      have hy' : cs.getD m 0 - 1 = y := by omega
      rw [hy']
      rw [hy] at hc
      have rc1 := rc.set m y
      have k1 : Keeps (fun i => i = bh) w (w.setCell ⟨bh, m, none⟩ (.int .i64 (y : Int))) := Keeps.setCell _ _ _ _ rfl
      have HF := Lib.hid (h.upd (cs' := cs.set m y) (by simp) k1 rc1)
      have K1 := Lib.hid k1
      have hyK : y < 1000000000000 := by omega
      have hye1 : (((y : Int) + 1) == 0) = false := by simp; omega
      clear rc1 k1 rc hh h hb h0 hu hz hy hy' hx
      go_enter Tryd.func22, Tryd.ntmps22
      go_wp2_with fail
      refine HM.out.mono ?_
      rintro e w' ⟨rfl, rfl⟩
      go_wp2_with fail
      go_ret
      exact ⟨rfl, HF.out, K1.out⟩
set_option maxHeartbeats 600000 in
theorem rtake_at (h : RefAt w q bh ch cs) : Calls Tryd.prog 23 #[.pointer (some ⟨q, 0, none⟩)] w (RHeld w q bh ch (takeC cs) (.tuple #[.int .i64 (takeN cs : Nat), .int .i64 (takeE cs)])) := by
  have c0 := h.c
  have hl := h.len
  have rc := h.row
  have HQ := Lib.hid h
  clear h
  go_enter Tryd.func23, Tryd.ntmps23
  go_wp2_with fail
  go_loop [4] (fun i => ∃ k : Nat, 2 ≤ k ∧ (k ≤ cs.length ∨ k = 2) ∧ (∀ j, j < k → fr cs j = false) ∧ i = .int .i64 (k : Int)) (fun i => cs.length - (intOf i).toNat)
  case atStart => exact ⟨2, by omega, Or.inr rfl, fun j hj => by unfold fr; simp; omega, rfl⟩
  case round =>
    obtain ⟨k, h2, hk, hj, rfl⟩ := hrel
    by_cases hlt : k < cs.length
    · have hc := rc.cell hlt
      have hf := rc.free k
      by_cases hz : cs.getD k 0 = 0
      · have hfk : fr cs k = true := fr_iff.2 ⟨h2, hlt, hz⟩
        have e := lo_eq hfk hj
        have hn : nfree cs ≠ 0 := fun h0 => by
          have := cnt_zero h0 k hlt
          rw [hfk] at this
          cases this
        have k1 : Keeps (fun i => i = bh) w (w.setCell ⟨bh, k, none⟩ (.int .i64 (1 : Int))) := Keeps.setCell _ _ _ _ rfl
        have rc1 := rc.set k 1
        have HF := Lib.hid (HQ.out.upd (cs' := cs.set k 1) (by simp) k1 rc1)
        have K1 := Lib.hid k1
        have HE : Hid (takeN cs = k ∧ takeE cs = 0 ∧ takeC cs = cs.set k 1) := by
          unfold takeN takeE takeC
          rw [if_neg hn, if_neg hn, if_neg hn, e]
          exact ⟨rfl, rfl, rfl⟩
        rw [hz] at hc
        clear rc1 k1 hn e hfk hj hz rc
        go_wp2_with fail
        go_ret2
        obtain ⟨a1, a2, a3⟩ := HE.out
        exact ⟨by rw [a1, a2]; rfl, by rw [a3]; exact HF.out, K1.out⟩
      · have hfk : fr cs k = false := by simp only [fr, hz]; simp
        have hx : ((cs.getD k 0 : Nat) : Int) ≠ 0 := by omega
        have hze : (((cs.getD k 0 : Nat) : Int) == 0) = false := by simpa using hx
        have HJ : Hid (∀ j, j < k + 1 → fr cs j = false) := fun j hj' => by
          rcases Nat.lt_or_ge j k with h3 | h3
          · exact hj j h3
          · obtain rfl : j = k := by omega
            exact hfk
        clear hfk hz hx hj
        generalize cs.getD k 0 = x at *
        go_wp2_with fail
        go_round
        case rel => exact ⟨k + 1, by omega, by omega, HJ.out, by go_num⟩
        case measure => simp [intOf]; omega
    · have hn : nfree cs = 0 := by
        unfold nfree cnt
        rw [List.length_eq_zero_iff, List.filter_eq_nil_iff]
        intro j hj'
        rw [List.mem_range] at hj'
        rw [hj j (by omega)]
        simp
      have HE : Hid (takeN cs = 0 ∧ takeE cs = 50 ∧ takeC cs = cs) := by
        unfold takeN takeE takeC
        rw [if_pos hn, if_pos hn, if_pos hn]
        exact ⟨rfl, rfl, rfl⟩
      clear hn hj rc
      go_wp2_with fail
      go_ret2
      obtain ⟨a1, a2, a3⟩ := HE.out
      exact ⟨by rw [a1, a2]; rfl, by rw [a3]; exact HQ.out, Keeps.refl _ _⟩
end
end Go.Proofs.YtajagjhhpciocaaDoor.Sp
