/-
  MmRefL
-/
import Derived.Test.YthmlhjjcihibnaaMmRefW
namespace Go.Proofs.Ythmlhjjcihibnaa.Mm
open Go.RowKit Go.Maps
set_option linter.unusedVariables false

theorem layT_set (M : List UInt8) (a : Int) (xs : List UInt8) (k : Nat) (hk : k < xs.length) (h0 : 0 ≤ a + k) (h1 : a + k < M.length) : layT M a xs (a + ((k + 1 : Nat) : Int)) = (layT M a xs (a + k)).set (a + k).toNat (xs.getD k 0) := by
  refine ext_getD (by rw [layT_len, List.length_set, layT_len]) fun i hi => ?_
  rw [layT_len] at hi
  rw [getD_layT _ _ _ _ _ hi, List.getD_eq_getElem?_getD (l := (layT M a xs (a + k)).set _ _), List.getElem?_set, layT_len]
  by_cases e : (a + k).toNat = i
  · have c1 : a ≤ i ∧ (i : Int) < a + ((k + 1 : Nat) : Int) ∧ (i : Int) < a + xs.length := by omega
    have c2 : (a + k).toNat < M.length := by omega
    rw [if_pos e, if_pos c1, if_pos c2, byt_in _ _ (by omega), show ((i : Int) - a).toNat = k by omega]
    rfl
  · rw [if_neg e, ← List.getD_eq_getElem?_getD, getD_layT _ _ _ _ _ hi]
    by_cases c : a ≤ i ∧ (i : Int) < a + k ∧ (i : Int) < a + xs.length
    · rw [if_pos c, if_pos (by omega)]
    · rw [if_neg c, if_neg (by omega)]
theorem layT_skip (M : List UInt8) (a : Int) (xs : List UInt8) (k : Nat) (h : a + k < 0 ∨ M.length ≤ a + k) : layT M a xs (a + ((k + 1 : Nat) : Int)) = layT M a xs (a + k) := by
  refine ext_getD (by rw [layT_len, layT_len]) fun i hi => ?_
  rw [layT_len] at hi
  rw [getD_layT _ _ _ _ _ hi, getD_layT _ _ _ _ _ hi]
  by_cases c : a ≤ i ∧ (i : Int) < a + k ∧ (i : Int) < a + xs.length
  · rw [if_pos c, if_pos (by omega)]
  · rw [if_neg c, if_neg (by omega)]
theorem layT_end (M : List UInt8) (a : Int) (xs : List UInt8) : layT M a xs (a + xs.length) = layL M a xs := by
  refine ext_getD (by rw [layT_len, layL_len]) fun i hi => ?_
  rw [layT_len] at hi
  rw [getD_layT _ _ _ _ _ hi, getD_layL _ _ _ _ hi]
  by_cases c : a ≤ i ∧ (i : Int) < a + xs.length
  · rw [if_pos c, if_pos (by omega)]
  · rw [if_neg c, if_neg (by omega)]

variable {w : World} {mi q b c d e : Nat} {B G : List UInt8}
set_option maxRecDepth 100000 in
set_option maxHeartbeats 800000 in
theorem rlayH_at (h : RefH w mi q b c d e B G) (a : Int) (ha : -9223372036854775808 ≤ a) (ha' : a ≤ 9223372036854775807) (A : Option Addr) (xs : List UInt8) (cp : Nat) (hx : BR w w.heap.size A xs)
    (hA : ∀ ad, A = some ad → xs ≠ [] → ad.block ≠ b) (hxl : xs.length ≤ 140737488351232) :
    Calls Try.prog 40 #[.pointer (some ⟨q, 0, none⟩), .int .i64 a, .slice A xs.length cp] w fun e' w' => e' = .returned (.tuple #[]) ∧ RefH w' mi q b c d e (layL B a xs) G ∧ Keeps (fun k => k = b) w w' := by
  have bl := h.bl
  have HX := Lib.hid hx
  clear hx
  go_enter Try.func40, Try.ntmps40
  go_wp2_with fail
  go_loopw [9, 6] (fun i _ wr => ∃ k : Nat, k ≤ xs.length ∧ i = .int .i64 (k : Int) ∧ RefH wr mi q b c d e (layT B a xs (a + k)) G ∧ Keeps (fun k => k = b) w wr) (fun i _ _ => xs.length - (RowKit.intOf i).toNat)
  case atStart => exact ⟨0, by omega, rfl, by rw [layT_start B a xs _ (by omega)]; exact h, Keeps.refl _ _⟩
  case round =>
    obtain ⟨k, hk, rfl, hr, kk⟩ := hrel
    by_cases hlt : k < xs.length
    · by_cases c1 : a ≤ 8192
      · by_cases c2 : 0 ≤ a + k
        · by_cases c3 : a + k < 8192
          · obtain ⟨x0, x1, x2⟩ := hr.cs
            obtain ⟨y0, y1⟩ := hr.byte (k := (a + k).toNat) (by omega)
            have hne : xs ≠ [] := by intro e; rw [e] at hlt; simp at hlt
            obtain ⟨ad, rfl, hab, hcell⟩ := HX.out hne
            have had := hA ad rfl hne
            have z0 : wr.cell? (ad.add k) = some (B8 (xs.getD k 0)) := by
              rw [World.cell?_of_block (w := w) (by rw [block_add]; exact kk.block _ hab had)]
              have hg : xs[k]? = some (xs.getD k 0) := by
                rw [List.getD_eq_getElem?_getD, List.getElem?_eq_getElem hlt]; rfl
              exact hcell k _ hg
            have fin := hr.set_ (a + k).toNat (xs.getD k 0)
            rw [← layT_set B a xs k hlt c2 (by omega)] at fin
            have FIN := Lib.hid fin
            have KF := Lib.hid (kk.trans (Keeps.setCell (fun k => k = b) wr ⟨b, (a + k).toNat, none⟩ (B8 (xs.getD k 0)) rfl))
            clear fin hr kk hcell
            generalize (layT B a xs (a + k)).getD (a + k).toNat 0 = u0 at *
            generalize xs.getD k 0 = u1 at *
            obtain ⟨t, ht⟩ : ∃ t : Nat, a + k = (t : Int) := ⟨(a + k).toNat, by omega⟩
            have W1 : IntKind.i64.wrap (a + k) = (t : Int) := by rw [ht]; exact IntWalk.i64_in _ (by omega)
            have ht' : (a + k).toNat = t := by omega
            rw [ht'] at y0 y1 FIN KF
            clear ht'
            go_wp2_with fail
            go_region
            go_wp2_with fail
            go_roundw
            case rel => exact ⟨k + 1, by omega, by go_num, FIN.out.keep (Keeps.drew (fun _ => False) _) (fun _ _ _ h => h), KF.out.trans (Keeps.drew _ _)⟩
            case measure => simp [RowKit.intOf]; omega
          · have HR := Lib.hid (layT_skip B a xs k (by omega) ▸ hr)
            have KF := Lib.hid kk
            clear hr kk
            obtain ⟨t, ht⟩ : ∃ t : Nat, a + k = (t : Int) := ⟨(a + k).toNat, by omega⟩
            have W1 : IntKind.i64.wrap (a + k) = (t : Int) := by rw [ht]; exact IntWalk.i64_in _ (by omega)
            have c4 : ¬ (t : Int) < 8192 := by omega
            go_wp2_with fail
            go_roundw
            case rel => exact ⟨k + 1, by omega, by go_num, HR.out, KF.out⟩
            case measure => simp [RowKit.intOf]; omega
        · have HR := Lib.hid (layT_skip B a xs k (by omega) ▸ hr)
          have KF := Lib.hid kk
          clear hr kk
          obtain ⟨t, ht⟩ : ∃ t : Nat, a + k = -(t : Int) := ⟨(-(a + k)).toNat, by omega⟩
          have W1 : IntKind.i64.wrap (a + k) = -(t : Int) := by rw [ht]; exact IntWalk.i64_in _ (by omega)
          have c4 : ¬ 0 ≤ -(t : Int) := by omega
          go_wp2_with fail
          go_roundw
          case rel => exact ⟨k + 1, by omega, by go_num, HR.out, KF.out⟩
          case measure => simp [RowKit.intOf]; omega
      · have HR := Lib.hid (layT_skip B a xs k (by omega) ▸ hr)
        have KF := Lib.hid kk
        clear hr kk
        go_wp2_with fail
        go_roundw
        case rel => exact ⟨k + 1, by omega, by go_num, HR.out, KF.out⟩
        case measure => simp [RowKit.intOf]; omega
    · obtain rfl : k = xs.length := by omega
      have HR := Lib.hid (layT_end B a xs ▸ hr)
      have KF := Lib.hid kk
      clear hr kk
      go_wp2_with fail
      all_goals
        go_end0
        exact ⟨rfl, HR.out, KF.out⟩

theorem rlay_at (h : RefH w mi q b c d e B G) (a : Int) (ha : -9223372036854775808 ≤ a) (ha' : a ≤ 9223372036854775807) (A : Option Addr) (xs : List UInt8) (cp : Nat) (hx : BR w w.heap.size A xs)
    (hA : ∀ ad, A = some ad → xs ≠ [] → ad.block ≠ b) (hxl : xs.length ≤ 140737488351232) :
    Calls Try.prog 40 #[.pointer (some ⟨q, 0, none⟩), .int .i64 a, .slice A xs.length cp] w (OutR w mi q b (layL B a xs) G (.tuple #[])) := by
  refine (rlayH_at h a ha ha' A xs cp hx hA hxl).mono ?_
  rintro e' w' ⟨rfl, h', k⟩
  exact ⟨rfl, ⟨b, c, d, e, h'⟩, k.mono fun i _ hi => Or.inr hi⟩

theorem loadT_set (M : List UInt8) (a : Int) (n k : Nat) (hk : k < n) : loadT M a n (a + ((k + 1 : Nat) : Int)) = (loadT M a n (a + k)).set k (byt M (a + k)) := by
  refine ext_getD (by rw [loadT_len, List.length_set, loadT_len]) fun i hi => ?_
  rw [loadT_len] at hi
  rw [getD_loadT _ _ _ _ _ hi, List.getD_eq_getElem?_getD (l := (loadT M a n (a + k)).set _ _), List.getElem?_set, loadT_len]
  by_cases e : k = i
  · subst e
    have c1 : a + (k : Int) < a + ((k + 1 : Nat) : Int) := by omega
    rw [if_pos rfl, if_pos c1, if_pos hk]
    rfl
  · rw [if_neg e, ← List.getD_eq_getElem?_getD, getD_loadT _ _ _ _ _ hi]
    by_cases c : a + (i : Int) < a + k
    · rw [if_pos c, if_pos (by omega)]
    · rw [if_neg c, if_neg (by omega)]
theorem loadT_skip (M : List UInt8) (a : Int) (n k : Nat) (hk : k < n) (h : a + k < 0 ∨ M.length ≤ a + k) : loadT M a n (a + ((k + 1 : Nat) : Int)) = loadT M a n (a + k) := by
  rw [loadT_set M a n k hk, byt_out _ _ h]
  refine ext_getD (by rw [List.length_set]) fun i hi => ?_
  rw [List.length_set, loadT_len] at hi
  rw [List.getD_eq_getElem?_getD (l := (loadT M a n (a + k)).set _ _), List.getElem?_set, loadT_len]
  by_cases e : k = i
  · subst e
    have c1 : ¬ a + (k : Int) < a + k := by omega
    rw [if_pos rfl, if_pos hk, getD_loadT _ _ _ _ _ hk, if_neg c1]
    rfl
  · rw [if_neg e, ← List.getD_eq_getElem?_getD]

/-- Its bytes are in a new block; the memory is as it was. -/
def GivesR (w : World) (zs : List UInt8) (e : Ending) (w' : World) : Prop := ∃ g, e = .returned (.slice (some ⟨g, 0, none⟩) zs.length zs.length) ∧ Row8 w' g 5 zs ∧ Keeps (fun _ => False) w w'
set_option maxRecDepth 100000 in
set_option maxHeartbeats 800000 in
theorem rload_at (h : RefH w mi q b c d e B G) (a n : Int) (ha : -9223372036854775808 ≤ a) (ha' : a ≤ 9223372036854775807) :
    Calls Try.prog 32 #[.pointer (some ⟨q, 0, none⟩), .int .i64 a, .int .i64 n] w (GivesR w (loadL B a (clamp n 8192).toNat)) := by
  have hr := clamp_range n 8192 (by omega)
  generalize hm : clamp n 8192 = m at *
  unfold clamp at hm
  obtain ⟨z, rfl⟩ := Int.eq_ofNat_of_zero_le hr.1
  rw [Int.toNat_natCast]
  have hmk := make8 z (by omega)
  have bl := h.bl
  have k1 : Keeps (fun _ => False) w (w.alloc (.cells (madeCells #[.int .u8 0] z) 5)) := Keeps.alloc _ _ _
  have h1 := h.keep k1 (fun _ _ _ h => h)
  have r1 := Row8.made w z 5
  have s1 : w.heap.size < (w.alloc (.cells (madeCells #[.int .u8 0] z) 5)).heap.size := by simp
  have hlt := h.lt
  clear h
  go_enter Try.func32, Try.ntmps32
  go_wp2_with fail
  all_goals
    clear hm hmk
    generalize w.alloc (.cells (madeCells #[.int .u8 0] z) 5) = w1 at *
    go_loopw [15, 8] (fun i _ wr => ∃ k : Nat, k ≤ z ∧ i = .int .i64 (k : Int) ∧ Row8 wr w.heap.size 5 (loadT B a z (a + k)) ∧ RefH wr mi q b c d e B G ∧ Keeps (fun _ => False) w wr) (fun i _ _ => z - (RowKit.intOf i).toNat)
    case atStart => exact ⟨0, by omega, rfl, by rw [loadT_start B a z _ (by omega)]; exact r1, h1, k1⟩
    case round =>
      obtain ⟨k, hk, rfl, hrow, hr, kk⟩ := hrel
      by_cases hlt : k < z
      · by_cases c1 : a ≤ 8192
        · by_cases c2 : 0 ≤ a + k
          · by_cases c3 : a + k < 8192
            · obtain ⟨x0, x1, x2⟩ := hr.cs
              obtain ⟨y0, y1⟩ := hr.byte (k := (a + k).toNat) (by omega)
              have z0 := hrow.cell_ (k := k) (by rw [loadT_len]; exact hlt)
              have z1 := hrow.free k
              have fin := hrow.set_ k (byt B (a + k))
              rw [← loadT_set B a z k hlt] at fin
              rw [byt_in _ _ c2] at fin
              have hlw : w.heap.size < wr.heap.size := hrow.lt_
              have kS : Keeps (fun i => i = w.heap.size) wr (wr.setCell ⟨w.heap.size, k, none⟩ (B8 (B.getD (a + k).toNat 0))) := Keeps.setCell _ _ _ _ rfl
              have FIN := Lib.hid fin
              have KF := Lib.hid (Keeps.thru (F'' := fun _ => False) kk kS (fun _ _ h => h) fun i hi h => by omega)
              have HR := Lib.hid (show RefH (wr.setCell ⟨w.heap.size, k, none⟩ (B8 (B.getD (a + k).toNat 0))) mi q b c d e B G from by
                refine ⟨hr.q0, hr.bl, hr.gl, (kS.block q hr.lt.1 ?_).trans hr.head, hr.now.keeps' kS ?_, hr.was.keeps' kS ?_, hr.bq, hr.dq, hr.bd⟩ <;> omega)
              clear fin kS hr hrow kk
              generalize (loadT B a z (a + k)).getD k 0 = u0 at *
              obtain ⟨t, ht⟩ : ∃ t : Nat, a + k = (t : Int) := ⟨(a + k).toNat, by omega⟩
              have W1 : IntKind.i64.wrap (a + k) = (t : Int) := by rw [ht]; exact IntWalk.i64_in _ (by omega)
              have ht' : (a + k).toNat = t := by omega
              rw [ht'] at y0 y1 FIN KF HR
              generalize B.getD t 0 = u1 at *
              clear ht'
              go_wp2_with fail
              go_roundw
              case rel => exact ⟨k + 1, by omega, by go_num, FIN.out, HR.out, KF.out⟩
              case measure => simp [RowKit.intOf]; omega
            · have R1 := Lib.hid (loadT_skip B a z k hlt (by omega) ▸ hrow)
              have HR := Lib.hid hr
              have KF := Lib.hid kk
              clear hrow hr kk
              obtain ⟨t, ht⟩ : ∃ t : Nat, a + k = (t : Int) := ⟨(a + k).toNat, by omega⟩
              have W1 : IntKind.i64.wrap (a + k) = (t : Int) := by rw [ht]; exact IntWalk.i64_in _ (by omega)
              have c4 : ¬ (t : Int) < 8192 := by omega
              go_wp2_with fail
              go_roundw
              case rel => exact ⟨k + 1, by omega, by go_num, R1.out, HR.out, KF.out⟩
              case measure => simp [RowKit.intOf]; omega
          · have R1 := Lib.hid (loadT_skip B a z k hlt (by omega) ▸ hrow)
            have HR := Lib.hid hr
            have KF := Lib.hid kk
            clear hrow hr kk
            obtain ⟨t, ht⟩ : ∃ t : Nat, a + k = -(t : Int) := ⟨(-(a + k)).toNat, by omega⟩
            have W1 : IntKind.i64.wrap (a + k) = -(t : Int) := by rw [ht]; exact IntWalk.i64_in _ (by omega)
            have c4 : ¬ 0 ≤ -(t : Int) := by omega
            go_wp2_with fail
            go_roundw
            case rel => exact ⟨k + 1, by omega, by go_num, R1.out, HR.out, KF.out⟩
            case measure => simp [RowKit.intOf]; omega
        · have R1 := Lib.hid (loadT_skip B a z k hlt (by omega) ▸ hrow)
          have HR := Lib.hid hr
          have KF := Lib.hid kk
          clear hrow hr kk
          go_wp2_with fail
          go_roundw
          case rel => exact ⟨k + 1, by omega, by go_num, R1.out, HR.out, KF.out⟩
          case measure => simp [RowKit.intOf]; omega
      · obtain rfl : k = z := by omega
        have R1 := Lib.hid (loadT_done B bl a k (a + k) (Or.inl (by omega)) ▸ hrow)
        have KF := Lib.hid kk
        clear hrow hr kk
        go_wp2_with fail
        go_ret
        exact ⟨w.heap.size, by rw [loadL_len]; rfl, R1.out, KF.out⟩
end Go.Proofs.Ythmlhjjcihibnaa.Mm
