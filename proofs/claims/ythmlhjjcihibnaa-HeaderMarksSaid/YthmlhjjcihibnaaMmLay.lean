/-
  MmLay
-/
import Derived.Test.YthmlhjjcihibnaaGMm
namespace Go.Proofs.Ythmlhjjcihibnaa.Mm
open Go.RowKit Go.Maps
set_option linter.unusedVariables false

variable {w : World} {p gb mb : Nat} {G M : List UInt8}
/-- The memory has become M. -/
def BecomesM (w : World) (p gb mb : Nat) (G M : List UInt8) (e : Ending) (w' : World) : Prop := e = .returned (.tuple #[]) ∧ MemAt w' p gb mb G M ∧ Keeps (fun k => k = p ∨ k = mb) w w'
set_option maxRecDepth 100000 in
set_option maxHeartbeats 600000 in
theorem mlay_at (h : MemAt w p gb mb G M) (a : Int) (ha : -9223372036854775808 ≤ a) (ha' : a ≤ 9223372036854775807) (A : Option Addr) (xs : List UInt8) (cp : Nat) (hx : BR w w.heap.size A xs)
    (hA : ∀ ad, A = some ad → xs ≠ [] → ad.block ≠ p ∧ ad.block ≠ mb) (hxl : xs.length ≤ 140737488351232) (hcp : xs.length ≤ cp) :
    Calls Try.prog 23 #[.pointer (some ⟨p, 0, none⟩), .int .i64 a, .slice A xs.length cp] w (BecomesM w p gb mb G (layL M a xs)) := by
  have hlt := h.lt
  have ap := h.apart
  have ml := h.ml
  generalize hc : xs.length = c at *
  have x1 := inX_lo a
  have x2 := inX_eq a
  have y1 := inY_hi a c
  have y2 : a + c ≤ 9223372036854775807 → inY a c ≤ a + c ∧ (inY a c = a + c ∨ inY a c = 8192) := fun h => in_yes ha (by omega) h
  have y3 : 9223372036854775807 < a + c → inY a c < 0 := fun h => in_no ha' (by omega) h
  have X1 := Lib.hid x1
  have X2 := Lib.hid x2
  have Y2 := Lib.hid y2
  have Y3 := Lib.hid y3
  have HC := Lib.hid hc
  have HX := Lib.hid hx
  clear x1 x2 y2 y3 hc hx
  go_enter Try.func23, Try.ntmps23
  go_wp2_with fail
  refine (mmade_at h).mono ?_
  rintro e w2 ⟨rfl, rfl⟩
  go_wp2_with fail
  refine (minside_any _ _ _).mono ?_
  rintro e w2 ⟨rfl, rfl⟩
  generalize inX a = X at *
  generalize inY a c = Y at *
  go_wp2_with fail
  go_loopw [6, 8, 9] (fun i _ _ wr => ∃ t : Nat, i = .int .i64 (t : Int) ∧ X ≤ t ∧ ((t : Int) ≤ X ∨ (t : Int) ≤ Y) ∧ MemAt wr p gb mb G (layT M a xs t) ∧ Keeps (fun k => k = p ∨ k = mb) w wr) (fun i _ _ _ => (Y - RowKit.intOf i).toNat)
  case atStart =>
    have x1 := X1.out
    have x2 := X2.out
    have ex : (X.toNat : Int) = X := Int.toNat_of_nonneg x1.1
    exact ⟨X.toNat, by rw [ex], by omega, Or.inl (by omega), by rw [layT_start M a xs _ (by omega)]; exact h, Keeps.refl _ _⟩
  case round =>
    obtain ⟨t, rfl, t1, t2, hmem, hk⟩ := hrel
    by_cases hty : (t : Int) < Y
    · have tl : (layT M a xs t).length = 8192 := by rw [layT_len, ml]
      go_wp2_with fail
      rw [show ((t : Int) / 64) = ((t / 64 : Nat) : Int) from rfl]
      refine (mpage_at hmem (t / 64) (by omega)).mono ?_
      rintro e w2 ⟨rfl, hm2, k2⟩
      have hpl := page_len tl (n := t / 64) (by omega)
      obtain ⟨s1, s2, s3⟩ := (PgAt.new w2).put zs64_len hpl
      have kA : Keeps (fun _ => False) w2 (w2.alloc (.cells z64' 72)) := Keeps.alloc _ _ _
      have k23 : Keeps (fun _ => False) w2 ((w2.alloc (.cells z64' 72)).setCells w2.heap.size 0 ((page (layT M a xs t) (t / 64)).map B8)) := Keeps.thru kA s3 (fun _ _ h => h) fun _ _ h => by omega
      have ST := Lib.hid s1
      have P3 := Lib.hid s2
      clear kA s1 s2 s3
      go_wp2_with (first
        | ((with_reducible refine here (op := .alloc 72) (d := some 9) ?_); refine wpList_alloc_run rfl 72 rfl _ (allocP _) ?_)
        | ((with_reducible refine here (op := .store 72 (.tmp 9) (.tmp 27)) ?_); refine wpList_store_run rfl 72 _ _ rfl _ _ rfl rfl ST.out ?_))
      generalize (w2.alloc (.cells z64' 72)).setCells w2.heap.size 0 ((page (layT M a xs t) (t / 64)).map B8) = w3 at *
      have x1 := X1.out
      have x2 := X2.out
      have y2 := Y2.out
      have y3 := Y3.out
      have hac : a + c ≤ 9223372036854775807 := by omega
      obtain ⟨d, hd⟩ : ∃ d : Nat, (t : Int) - a = d := ⟨((t : Int) - a).toNat, by omega⟩
      obtain ⟨y, hy⟩ : ∃ y : Nat, Y - a = y := ⟨(Y - a).toNat, by omega⟩
      have W1 : IntKind.i64.wrap ((t : Int) - a) = (d : Int) := by rw [hd]; exact IntWalk.i64_in _ (by omega)
      have W2 : IntKind.i64.wrap (Y - a) = (y : Int) := by rw [hy]; exact IntWalk.i64_in _ (by omega)
      have W3 : (t : Int).tmod 64 = ((t % 64 : Nat) : Int) := rfl
      have d1 : d < y := by omega
      have d2 : y ≤ c := by omega
      have d3 : ¬ cp = d := by omega
      have d4 : d ≤ y := by omega
      have d5 : y ≤ cp := by omega
      have m0 : t % 64 ≤ 64 := by omega
      have m1 : t % 64 < 64 := Nat.mod_lt _ (by omega)
      have m2 : ¬ 64 = t % 64 := by omega
      have HD := Lib.hid hd
      have HY := Lib.hid hy
      obtain ⟨k, hk0⟩ : ∃ k : Nat, k = min (y - d) (64 - t % 64) := ⟨_, rfl⟩
      have HK := Lib.hid hk0
      have e1 : 1 ≤ k := by omega
      have e2 : k ≤ 64 := by omega
      have e3 : d + k ≤ c := by omega
      have e4 : k ≤ 64 - t % 64 := by omega
      have tb : t < 8192 := by omega
      have E5 := Lib.hid (show (t : Int) + k ≤ Y by omega)
      have hcc := HC.out
      have LS := Lib.hid (layT_step M ml a xs t k (by omega) (by omega) (by omega) tb)
      rw [show ((t : Int) - a).toNat = d by omega] at LS
      have SL := fun (w : World) (b : Nat) => sliceP w b (t % 64) m1
      clear hd hy x1 x2 y2 y3 hk0 hcc
      generalize t % 64 = r at W3 m0 m1 m2 SL e4 HK LS
      have hne : xs ≠ [] := by
        intro e
        have := HC.out
        rw [e] at this
        simp at this
        omega
      obtain ⟨ad, rfl, had, hcs⟩ := HX.out hne
      have hap := hA ad rfl hne
      refine wp_region_any (by kernel_rfl) ?_
      change wpAny _ _ _ _ _ _ _ w3.drew
      have k34 : Keeps (fun _ => False) w3 w3.drew := Keeps.drew _ _
      have p4 := P3.out.keep k34 (fun h => h)
      have h4 := hm2.keep (k23.trans k34) (fun h => h) (fun h => h) (fun h => h)
      have K4' : Keeps (fun k => k = p ∨ k = mb) w w3.drew := Keeps.thru (Keeps.thru (F'' := fun k => k = p ∨ k = mb) hk k2 (fun _ _ h => h) fun _ _ h => Or.inr h) (k23.trans k34) (fun _ _ h => h) fun _ _ h => h.elim
      have b4 : BR w3.drew w3.drew.heap.size (some ad) xs := K4'.br HX.out fun ad' e _ => by
        cases e
        rintro (h | h)
        · exact hap.1 h
        · exact hap.2 h
      have K4 := Lib.hid K4'
      clear K4'
      have s4 : w2.heap.size < w3.drew.heap.size := p4.lt
      have s2 : w.heap.size ≤ w2.heap.size := Nat.le_trans hk.size k2.size
      generalize w3.drew = w4 at *
      refine wpAny_take (oi := ⟨_, _, _, _, _, _⟩) (i := 0) (v := .int .i64 (t : Int)) rfl (by kernel_rfl) (by kernel_rfl) (by kernel_rfl) (fun _ _ _ h => h) (Or.inl ⟨by rfl, fun _ => rfl⟩) ?_
      simp only [Act.put, List.setIfInBounds_toArray, List.set_cons_zero, List.set_cons_succ]
      refine wpAny_tail [1, 2, 3, 4, 5, 6, 7, 8, 9, 10, 11] [12, 13, 14] [_, _, _, _, _, _, _, _, _, _, _] [_, _, _] rfl rfl rfl (by kernel_rfl) ?_
      still_step
      still_step
      still_step
      still_step
      still_step
      still_step
      still_step
      still_step
      still_step
      still_step
      still_step
      refine wpStill_nil ?_
      generalize page (layT M a xs t) (t / 64) = P at *
      have hys : ((xs.drop d).take k).length = k := by rw [List.length_take, List.length_drop, HC.out]; omega
      have bq : BR w4 w4.heap.size (some (ad.add d)) ((xs.drop d).take k) := by
        intro _
        obtain ⟨ad', e, hb, hcc⟩ := b4 hne
        cases e
        refine ⟨_, rfl, by rw [block_add]; exact hb, fun j u hu => ?_⟩
        have hj : j < k := by
          have := (List.getElem?_eq_some_iff.1 hu).1
          rw [hys] at this
          exact this
        rw [List.getElem?_take_of_lt hj, List.getElem?_drop] at hu
        rw [Addr.add_add]
        exact hcc _ _ hu
      have r4 : Row8 w4 w2.heap.size 72 P := Row8.of_block p4
      have hspl : (splice P r ((xs.drop d).take k)).length = 64 := by
        unfold splice
        simp only [List.length_append, hys, List.length_take, List.length_drop, hpl]
        omega
      obtain ⟨w5, c1, c2, c3⟩ := run_copy8m (P := Try.prog) w4 22 22 3 5 72 Try.underlying22 size8' w2.heap.size r (64 - r) (64 - r) _ _ _ (y - d) (cp - d) r4 bq (by rw [hys]; exact HK.out) (by rw [hys, hpl]; omega) (by intro e; rw [e] at hys; simp at hys; omega)
      rw [hys] at c1
      refine wpList_copy_run rfl _ _ 22 22 rfl _ c1 ?_
      have k45 : Keeps (fun k => k = w2.heap.size) w4 w5 := Keeps.grown _ c3 (fun k e => by cases e; rfl)
      have h5 := h4.keep k45 (by omega) (by omega) (by omega)
      have K5 := Lib.hid (Keeps.thru (F'' := fun k => k = p ∨ k = mb) K4.out k45 (fun _ _ h => h) fun _ _ h => by omega)
      have p5 : PgAt w5 w2.heap.size (splice P r ((xs.drop d).take k)) := c2.block
      have LD := Lib.hid (p5.get hspl)
      have HS := Lib.hid hspl
      clear c1 c2 c3 k45 h4 r4 p4 k34 k23 k2 hm2 hk hmem hys P3 ST SL W1 W2 W3 hpl b4 bq p5 hspl
      go_wp2_with (first
        | ((with_reducible refine here (op := .load 72 (.tmp 9)) ?_); refine wpList_load_run rfl 72 _ rfl _ _ rfl LD.out ?_)
        | fail)
      rw [show ((t : Int) / 64) = ((t / 64 : Nat) : Int) from rfl]
      refine (mput_at h5 (t / 64) (by omega) _ HS.out).mono ?_
      rintro e w6 ⟨rfl, h6, k6⟩
      rw [LS.out] at h6
      have H6 := Lib.hid h6
      have K6 := Lib.hid (K5.out.trans k6)
      clear h5 h6 k6 K5
      go_wp2_with fail
      go_roundw
      case rel => exact ⟨t + k, by go_num, by omega, Or.inr (by have := E5.out; omega), H6.out, K6.out⟩
      case measure => simp [RowKit.intOf]; have := E5.out; omega
    · have hte : layT M a xs t = layL M a xs := by
        have x1 := X1.out
        have x2 := X2.out
        have y2 := Y2.out
        have y3 := Y3.out
        have hcc := HC.out
        by_cases hac : a + c ≤ 9223372036854775807
        · have y2 := y2 hac
          by_cases hl : a + c ≤ 0
          · rw [layL_none M ml a xs (by omega), layT_start M a xs t (by omega)]
          · exact layT_done M ml a xs t (by omega)
        · rw [layL_none M ml a xs (by omega), layT_start M a xs t (by omega)]
      have H5 := Lib.hid (hte ▸ hmem)
      have K5 := Lib.hid hk
      have hge : Y ≤ (t : Int) := by omega
      clear hte hmem hk hty t1 t2
      go_wp2_with fail
      all_goals
        go_end0
        exact ⟨rfl, H5.out, K5.out⟩
end Go.Proofs.Ythmlhjjcihibnaa.Mm
