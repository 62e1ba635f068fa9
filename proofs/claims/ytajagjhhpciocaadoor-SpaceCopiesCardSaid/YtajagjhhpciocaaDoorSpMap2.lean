/-
  The contracts of the code's Drop, Take and Used.
-/
import Derived.Test.YtajagjhhpciocaaDoorSpMap
namespace Go.Proofs.YtajagjhhpciocaaDoor.Sp
open Go.RowKit

section
variable {w : World} {p bc bf cc cf : Nat} {a b : Addr} {cs : List Nat}
set_option maxHeartbeats 600000 in
theorem drop_at (h : MapAt w p a b bc bf cc cf cs) (n : Int) {K : Nat} (hu : Upto K cs) (hK : K < 1000000000000) : Calls Tryd.prog 13 #[.pointer (some ⟨p, 0, none⟩), .int .i64 n] w (Held w p a b bc bf cc cf (dropC cs n) (.int .i64 (dropE cs n))) := by
  obtain ⟨c0, c1⟩ := h.c
  have hh := has_at h n
  have h0 := h
  unfold dropE dropC
  cases hb : hasB cs n
  · rw [hb] at hh
    have HM := Lib.hid hh
    have H0 := Lib.hid h0
    clear hh h hb h0
    go_enter Tryd.func13, Tryd.ntmps13
    go_wp2_with fail
    refine HM.out.mono ?_
    rintro e w' ⟨rfl, rfl⟩
    go_wp2_with fail
    go_ret
    exact ⟨rfl, H0.out, Keeps.refl _ _⟩
  · rw [hb] at hh
    simp [hasB] at hb
    obtain ⟨m, rfl⟩ := Int.eq_ofNat_of_zero_le (show 0 ≤ n by omega)
    have hm : m < cs.length := by omega
    have hm2 : 2 ≤ m := by omega
    have hne := ne_nil_of hm
    have hl := h.len
    obtain ⟨rfl, rfl⟩ := h.adr hne
    have rc := h.rowc hne
    have hc := rc.cell hm
    have hf := rc.free m
    have hx := hu.at_ m
    have HM := Lib.hid hh
    rw [Int.toNat_natCast, if_pos rfl, if_pos rfl]
    by_cases hz : cs.getD m 0 = 0
    · rw [if_pos hz, if_pos hz]
      rw [hz] at hc
      have H0 := Lib.hid h0
      clear rc hh h hb hne h0 hu hz hx
      go_enter Tryd.func13, Tryd.ntmps13
      go_wp2_with fail
      refine HM.out.mono ?_
      rintro e w' ⟨rfl, rfl⟩
      go_wp2_with fail
      go_ret
      exact ⟨rfl, H0.out, Keeps.refl _ _⟩
    · rw [if_neg hz, if_neg hz]
      obtain ⟨y, hy⟩ : ∃ y, cs.getD m 0 = y + 1 := ⟨cs.getD m 0 - 1, by omega⟩
      have hy' : cs.getD m 0 - 1 = y := by omega
      rw [hy']
      have rc1 := rc.set m y
      have k1 : Keeps (fun i => i = bc ∨ i = bf) w (w.setCell ⟨bc, m, none⟩ (.int .i64 (y : Int))) := Keeps.setCell _ _ _ _ (Or.inl rfl)
      have k1' : Keeps (fun i => i = bc) w (w.setCell ⟨bc, m, none⟩ (.int .i64 (y : Int))) := Keeps.setCell _ _ _ _ rfl
      have rf1 := (h.rowf hne).block (k1'.block bf (h.rowf hne).lt (fun e => h.d1 e.symm))
      have c0' := (k1'.cell p 0 h.lt (fun e => h.d2 e.symm)).trans c0
      have c1' := (k1'.cell p 1 h.lt (fun e => h.d2 e.symm)).trans c1
      have hc' := rc1.cell (i := m) (by simpa using hm)
      rw [show (cs.set m y).getD m 0 = y from by simp [List.getD_eq_getElem?_getD, hm]] at hc'
      rw [hy] at hc
      by_cases hy0 : y = 0
      · subst hy0
        have hwl : (wsOf cs).length = nw cs.length := wsOf_len cs
        have hmw : m / 64 < (wsOf cs).length := by rw [hwl]; unfold nw; omega
        have hd := word_put_bits (f := fr cs) (g := fr (cs.set m 0)) (n := m) (by rw [fr_set hm2 hm]; simp) (fun i hi => fr_set_ne hi)
        rw [← wsOf_at cs (by omega)] at hd
        have hdr := put_any rf1 m cf hmw (by rw [hwl]; unfold nw; omega) _ hd
        rw [hwl, ← ws_set] at hdr
        have HF : Hid (∀ w2, RowK .u64 58 w2 bf (wsOf (cs.set m 0)) → Keeps (· = bf) (w.setCell ⟨bc, m, none⟩ (.int .i64 ((0 : Nat) : Int))) w2 → MapAt w2 p ⟨bc, 0, none⟩ ⟨bf, 0, none⟩ bc bf cc cf (cs.set m 0) ∧ Keeps (fun i => i = bc ∨ i = bf) w w2) := fun w2 r2 k2 => by
          have k3 := k1.trans (k2.mono fun i _ e => Or.inr e)
          exact ⟨h.upd (by simp) k3 (rc1.block (k2.block bc rc1.lt (fun e => h.d1 e))) r2, k3⟩
        have HD := Lib.hid hdr
        clear hdr hd rc1 k1 k1' rf1 rc hh h hb hne h0 hu hwl hmw hz hy hx hy'
        generalize hcs : cs.set m 0 = cs' at *
        clear hcs
        change w.cell? ⟨bc, m, none⟩ = some (.int .i64 1) at hc
        change (w.setCell ⟨bc, m, none⟩ (.int .i64 0)).cell? _ = _ at c0'
        change (w.setCell ⟨bc, m, none⟩ (.int .i64 0)).cell? _ = _ at c1'
        change (w.setCell ⟨bc, m, none⟩ (.int .i64 0)).cell? _ = some (.int .i64 0) at hc'
        go_enter Tryd.func13, Tryd.ntmps13
        go_wp2_with fail
        refine HM.out.mono ?_
        rintro e w' ⟨rfl, rfl⟩
        go_wp2_with fail
        refine HD.out.mono ?_
        rintro e w2 ⟨rfl, r2, k2⟩
        obtain ⟨f1, f2⟩ := HF.out w2 r2 k2
        have F1 := Lib.hid f1
        clear f1 r2 k2 HF HD c1' c0' hc' hf hc
        go_wp2_with fail
        go_ret
        exact ⟨rfl, F1.out, f2⟩
      · have hws := ws_same (cs := cs) (n := m) (c := y) hm2 hm (by rw [hy]; simp [hy0])
        have hfin : MapAt (w.setCell ⟨bc, m, none⟩ (.int .i64 (y : Int))) p ⟨bc, 0, none⟩ ⟨bf, 0, none⟩ bc bf cc cf (cs.set m y) := h.upd (by simp) k1 rc1 (by rw [hws]; exact rf1)
        have HF := Lib.hid hfin
        have K1 := Lib.hid k1
        have hyK : y < 1000000000000 := by omega
        have hye : ((y : Int) == 0) = false := by simpa using hy0
        have hye1 : (((y : Int) + 1) == 0) = false := by simp; omega
        clear hws hfin k1 k1' rf1 rc1 c1' hh h hb hne h0 hu hz hy hy' rc
        go_enter Tryd.func13, Tryd.ntmps13
        go_wp2_with fail
        refine HM.out.mono ?_
        rintro e w' ⟨rfl, rfl⟩
        go_wp2_with fail
        go_ret
        exact ⟨rfl, HF.out, K1.out⟩
set_option maxHeartbeats 600000 in
theorem take_at (h : MapAt w p a b bc bf cc cf cs) (hT : Tab w) {K : Nat} (hu : Upto K cs) (hK : K < 1000000000000) : Calls Tryd.prog 14 #[.pointer (some ⟨p, 0, none⟩)] w (Held w p a b bc bf cc cf (takeC cs) (.tuple #[.int .i64 (takeN cs : Nat), .int .i64 (takeE cs)])) := by
  have hfr := free_at h
  unfold takeN takeE takeC
  by_cases hz : nfree cs = 0
  · rw [if_pos hz, if_pos hz, if_pos hz]
    rw [hz] at hfr
    have HM := Lib.hid hfr
    have H0 := Lib.hid h
    clear h hfr hz
    go_enter Tryd.func14, Tryd.ntmps14
    go_wp2_with fail
    refine HM.out.mono ?_
    rintro e w' ⟨rfl, rfl⟩
    go_wp2_with fail
    go_ret2
    exact ⟨rfl, H0.out, Keeps.refl _ _⟩
  · rw [if_neg hz, if_neg hz, if_neg hz]
    obtain ⟨_, c1⟩ := h.c
    obtain ⟨hr, hj⟩ := lo_spec hz
    obtain ⟨r2, rl, r0⟩ := fr_iff.1 hr
    have hne := ne_nil_of rl
    have hl := h.len
    obtain ⟨rfl, rfl⟩ := h.adr hne
    have hlow := lowest_any hT (h.rowf hne) cf (by unfold nw; omega) (lo cs) hr (by unfold nw; omega) hj
    have hho := hold_at h (lo cs : Nat) hu hK
    have hb : hasB cs (lo cs : Nat) = true := by simp [hasB]; omega
    unfold holdE holdC at hho
    rw [if_pos hb, if_pos hb, Int.toNat_natCast, r0] at hho
    have HM := Lib.hid hfr
    have HL := Lib.hid hlow
    have HH := Lib.hid hho
    have hz' : ((nfree cs : Nat) : Int) ≠ 0 := by omega
    have hze : (((nfree cs : Nat) : Int) == 0) = false := by simpa using hz'
    clear h hfr hz hlow hho hr hj r0 hne hb hz'
    generalize lo cs = r at *
    generalize nfree cs = f at *
    go_enter Tryd.func14, Tryd.ntmps14
    go_wp2_with fail
    refine HM.out.mono ?_
    rintro e w' ⟨rfl, rfl⟩
    go_wp2_with fail
    refine HL.out.mono ?_
    rintro e w' ⟨rfl, rfl⟩
    go_wp2_with fail
    refine HH.out.mono ?_
    rintro e w2 ⟨rfl, h2, k2⟩
    have H2 := Lib.hid h2
    clear h2 HH HL HM c1
    go_wp2_with fail
    go_ret2
    exact ⟨rfl, H2.out, k2⟩
set_option maxHeartbeats 600000 in
theorem used_at (h : MapAt w p a b bc bf cc cf cs) : Calls Tryd.prog 15 #[.pointer (some ⟨p, 0, none⟩)] w (GivesI w (usedOf cs cs.length)) := by
  obtain ⟨c0, c1⟩ := h.c
  have hl := h.len
  have HM := Lib.hid (made_at h)
  have kd : Keeps (fun _ => False) w w.drew := Keeps.drew _ _
  have hd := h.keep kd (fun h => h) (fun _ => ⟨fun h => h, fun h => h⟩)
  have hwo := without_any (w := w.drew) (b := bf) (cs := cs) (m := nw cs.length) rfl (fun hn => hd.rowf (nw_zero cs hn)) (some b) (fun hn => by rw [(h.adr (nw_zero cs hn)).2]) cf hl
  have HW := Lib.hid hwo
  clear hwo hd h kd
  change w.drew.cell? _ = _ at c0
  change w.drew.cell? _ = _ at c1
  go_enter Tryd.func15, Tryd.ntmps15
  go_wp2_with fail
  refine HM.out.mono ?_
  rintro e w' ⟨rfl, rfl⟩
  go_wp2_with fail
  refine wp_region_still_tail 9 (by kernel_rfl) (by kernel_rfl) ?_
  simp only [List.take_succ_cons, List.take_zero, List.drop_succ_cons, List.drop_zero]
  change wpStill _ _ w.drew (fun a' => wpList _ _ _ _ a' w.drew) _ _
  still_step
  still_step
  still_step
  still_step
  still_step
  still_step
  still_step
  still_step
  still_step
  refine wpStill_nil ?_
  go_wp2_with fail
  refine HW.out.mono ?_
  rintro e w2 ⟨R, c, rfl, ir, b2⟩
  have hb2 : Below w.heap.size w w2 := ⟨b2.os, b2.tape, b2.output, b2.size, fun k hk => b2.block k hk⟩
  have IRH := Lib.hid ir
  clear ir HW b2
  go_wp2_with fail
  go_ret
  exact ⟨R, c, rfl, IRH.out, hb2⟩
end
end Go.Proofs.YtajagjhhpciocaaDoor.Sp
