/-
  The contracts of the document's has, act, Arm, Bytes, Waiting and Read.
-/
import Derived.Test.YthbdhmjmboliiaaRD
namespace Go.Proofs.Ythbdhmjmboliiaa
open Go.RowKit

section
variable {w : World} {F : Nat → Prop} {p n : Nat} {sv wv : Value} {svs : List Value} {ws : List (Nat × Value)} {D : DSt}

set_option maxHeartbeats 400000 in
theorem rhas_yes (h : RDat w F p n sv wv svs ws D) (i : Int) (h0 : 0 ≤ i) (h1 : i < n) :
    Calls Try.prog 41 #[.pointer (some ⟨p, 0, none⟩), .int .i64 i] w fun e w' => e = .returned (.bool true) ∧ w = w' := by
  obtain ⟨A, cap, rfl⟩ := h.svf
  obtain ⟨c0, _⟩ := h.c
  clear h
  go_enter Try.func41, Try.ntmps41
  go_wp2_with fail
  go_ret
  exact ⟨ret_bool (by simp), rfl⟩
set_option maxHeartbeats 400000 in
theorem rhas_no (h : RDat w F p n sv wv svs ws D) (i : Int) (hi : i < 0 ∨ n ≤ i) :
    Calls Try.prog 41 #[.pointer (some ⟨p, 0, none⟩), .int .i64 i] w fun e w' => e = .returned (.bool false) ∧ w = w' := by
  obtain ⟨A, cap, rfl⟩ := h.svf
  obtain ⟨c0, _⟩ := h.c
  clear h
  by_cases h0 : i < 0
  · clear hi
    go_enter Try.func41, Try.ntmps41
    go_wp2_with fail
    go_ret
    exact ⟨rfl, rfl⟩
  · have h1 : ¬ i < (n : Int) := by omega
    clear hi
    go_enter Try.func41, Try.ntmps41
    go_wp2_with fail
    go_ret
    exact ⟨ret_bool (by simp), rfl⟩

/-- Only the struct is written. -/
def RStep (w : World) (F : Nat → Prop) (p n : Nat) (sv wv : Value) (svs : List Value) (ws : List (Nat × Value)) (D : DSt) (v : Value) (e : Ending) (w' : World) : Prop := e = .returned v ∧ RDat w' F p n sv wv svs ws D ∧ Keeps (· = p) w w'

set_option maxHeartbeats 800000 in
theorem ract_any (h : RDat w F p n sv wv svs ws D) (ha : D.acts ≤ 1000000000000000) :
    Calls Try.prog 42 #[.pointer (some ⟨p, 0, none⟩)] w (RStep w F p n sv wv svs ws D.spent (.int .i64 D.actErr)) := by
  have hlo := h.ok.lo
  have hhi := h.ok.hi
  have hh := h.head
  obtain ⟨c0, c1, c2, c3, c4, fz⟩ := h.c
  have fz2 := fz 2
  have fz3 := fz 3
  have fz4 := fz 4
  clear fz c0 c1
  by_cases h0 : D.left = 0
  · have hs : D.spent = { D with down := true } := by unfold DSt.spent; rw [if_pos h0]
    have he : D.actErr = 20 := by unfold DSt.actErr; rw [if_pos h0]
    have k : Keeps (· = p) w (w.setCell ⟨p, 3, none⟩ (.bool true)) := Keeps.setCell _ _ _ _ rfl
    have HR := Lib.hid (h.put k { D with down := true } rfl rfl hlo hhi (by rw [heap_setCell_same w p 3 _ _ _ hh]; rfl))
    have HS := Lib.hid hs
    have HE := Lib.hid he
    rw [h0] at c2
    clear h0 hs he hh h
    go_enter Try.func42, Try.ntmps42
    go_wp2
    go_ret
    rw [HE.out, HS.out]
    exact ⟨rfl, HR.out, k⟩
  · have hb0 : (D.left == 0) = false := beq_eq_false_iff_ne.2 h0
    have he : D.actErr = 0 := by unfold DSt.actErr; rw [if_neg h0]
    have HE := Lib.hid he
    clear he
    by_cases h1 : 0 < D.left
    · have hs : D.spent = { D with left := D.left - 1, acts := D.acts + 1 } := by unfold DSt.spent; rw [if_neg h0, if_pos h1]
      have HS := Lib.hid hs
      have k1 : Keeps (· = p) w (w.setCell ⟨p, 2, none⟩ (.int .i64 (D.left - 1))) := Keeps.setCell _ _ _ _ rfl
      have R1 := h.put k1 { D with left := D.left - 1 } rfl rfl (by show -1 ≤ D.left - 1; omega) (by show D.left - 1 ≤ _; omega) (by rw [heap_setCell_same w p 2 _ _ _ hh]; rfl)
      have k2 : Keeps (· = p) (w.setCell ⟨p, 2, none⟩ (.int .i64 (D.left - 1))) ((w.setCell ⟨p, 2, none⟩ (.int .i64 (D.left - 1))).setCell ⟨p, 4, none⟩ (.int .i64 ((D.acts + 1 : Nat) : Int))) := Keeps.setCell _ _ _ _ rfl
      have R2 := R1.put k2 { D with left := D.left - 1, acts := D.acts + 1 } rfl rfl (by show -1 ≤ D.left - 1; omega) (by show D.left - 1 ≤ _; omega) (by rw [heap_setCell_same _ p 4 _ _ _ R1.head]; rfl)
      have HR := Lib.hid R2
      have HK := Lib.hid (k1.trans k2)
      have c4' : (w.setCell ⟨p, 2, none⟩ (.int .i64 (D.left - 1))).cell? ⟨p, 4, none⟩ = some (.int .i64 (D.acts : Int)) := by rw [World.cell?_setCell_other _ _ _ _ (by simp)]; exact c4
      clear hs h0 R1 R2 k1 k2 h hh
      go_enter Try.func42, Try.ntmps42
      go_wp2
      go_ret
      rw [HE.out, HS.out]
      exact ⟨rfl, HR.out, HK.out⟩
    · have hs : D.spent = { D with acts := D.acts + 1 } := by unfold DSt.spent; rw [if_neg h0, if_neg h1]
      have HS := Lib.hid hs
      have k2 : Keeps (· = p) w (w.setCell ⟨p, 4, none⟩ (.int .i64 ((D.acts + 1 : Nat) : Int))) := Keeps.setCell _ _ _ _ rfl
      have R2 := h.put k2 { D with acts := D.acts + 1 } rfl rfl hlo hhi (by rw [heap_setCell_same _ p 4 _ _ _ hh]; rfl)
      have HR := Lib.hid R2
      have HK := Lib.hid k2
      clear hs h0 R2 k2 h hh
      go_enter Try.func42, Try.ntmps42
      go_wp2
      go_ret
      rw [HE.out, HS.out]
      exact ⟨rfl, HR.out, HK.out⟩

set_option maxHeartbeats 400000 in
theorem rarm_any (h : RDat w F p n sv wv svs ws D) (x : Int) (hx : x ≤ 9223372036854775807) :
    Calls Try.prog 29 #[.pointer (some ⟨p, 0, none⟩), .int .i64 x] w (RStep w F p n sv wv svs ws (D.armed x) (.tuple #[])) := by
  have hh := h.head
  obtain ⟨c0, c1, c2, c3, c4, fz⟩ := h.c
  have fz2 := fz 2
  clear fz c0 c1 c3 c4
  by_cases h1 : x < -1
  · have e : D.armed x = { D with left := -1 } := by unfold DSt.armed; rw [show max x (-1) = -1 from by omega]
    have E := Lib.hid e
    have k : Keeps (· = p) w (w.setCell ⟨p, 2, none⟩ (.int .i64 (-1))) := Keeps.setCell _ _ _ _ rfl
    have HR := Lib.hid (h.put k { D with left := -1 } rfl rfl (by show (-1 : Int) ≤ -1; omega) (by show (-1 : Int) ≤ _; omega) (by rw [heap_setCell_same w p 2 _ _ _ hh]; rfl))
    clear e h hh
    go_enter Try.func29, Try.ntmps29
    go_wp2_with fail
    go_end0
    rw [E.out]
    exact ⟨rfl, HR.out, k⟩
  · have e : D.armed x = { D with left := x } := by unfold DSt.armed; rw [show max x (-1) = x from by omega]
    have E := Lib.hid e
    have k : Keeps (· = p) w (w.setCell ⟨p, 2, none⟩ (.int .i64 x)) := Keeps.setCell _ _ _ _ rfl
    have HR := Lib.hid (h.put k { D with left := x } rfl rfl (by show (-1 : Int) ≤ x; omega) (by show x ≤ _; omega) (by rw [heap_setCell_same w p 2 _ _ _ hh]; rfl))
    clear e h hh
    go_enter Try.func29, Try.ntmps29
    go_wp2_with fail
    go_end0
    rw [E.out]
    exact ⟨rfl, HR.out, k⟩
end

/-- Bytes appended to a row of the call's own, wherever they lie. -/
theorem Own8.appB {w : World} {B : Nat} {R : Option Addr} {cap : Nat} {zs : List UInt8} (h : Own8 w B 5 R cap zs) (hB : B ≤ w.heap.size) (hl : zs.length ≤ 200000) (A : Option Addr) (c : Nat) (ys : List UInt8) (hy : BR w w.heap.size A ys) (hyl : ys.length = 64) :
    ∃ R' cap' w', (Builtin.append_ #[30, 30] 30 #[.slice R zs.length cap, .slice A 64 c]).run Try.prog w = .ok (.slice R' (zs.length + 64) cap') w' ∧ Own8 w' B 5 R' cap' (zs ++ ys) ∧ Below B w w' := by
  obtain ⟨ad, rfl, _, hc⟩ := hy (by intro e; rw [e] at hyl; simp at hyl)
  obtain ⟨i0, hi, hz0, hz1, hz2⟩ := info_parts Try.info8
  obtain ⟨v', w', hrun, hown, hg, _, _⟩ := run_append_own_at (P := Try.prog) w B 30 30 5 i0 (.int .u8 0) 1 1 Try.underlying30 hi hz0 hz1 hz2 rfl (by decide) _ zs.length _ h ad 64 c (ys.map B8) (by rw [List.length_map, hyl]) (fun j u hu => by
    simp only [List.getElem?_map, Option.map_eq_some_iff] at hu
    obtain ⟨x, hx, rfl⟩ := hu
    exact hc j x hx) (by
    intro u hu
    simp only [List.mem_map] at hu
    obtain ⟨x, _, rfl⟩ := hu
    rfl) (by unfold maxLen; omega) (by omega) hB
  obtain ⟨g', cap', rfl, _, _⟩ := World.ownsRow.form hown (by omega)
  refine ⟨_, cap', w', hrun, ?_, ⟨hg.os, hg.tape, hg.output, hg.size, fun k hk => hg.block k (by omega) (fun e => by have := (World.ownsRow.lt h k e.symm).1; omega)⟩⟩
  unfold Own8
  rw [List.length_append, hyl, List.map_append]
  exact hown

theorem catR_L {L : List UInt8} {n : Nat} (h : L.length = 64 * n) : catR (sec L) n = L := by
  rw [catR_sec, List.take_of_length_le (by omega)]

set_option maxHeartbeats 800000 in
theorem rbytes_any {w : World} {F : Nat → Prop} {p n : Nat} {sv wv : Value} {svs : List Value} {ws : List (Nat × Value)} {D : DSt} (h : RDat w F p n sv wv svs ws D) :
    Calls Try.prog 32 #[.pointer (some ⟨p, 0, none⟩)] w (GivesB w D.L) := by
  have hk := h.ok.n_le
  obtain ⟨A', cap', hv⟩ := h.svf
  subst hv
  obtain ⟨hp, _⟩ := h.c
  have hlen : ∀ j, j ≤ n → (catR (sec D.L) j).length = j * 64 := fun j hj => catR_len _ j fun i hi => by
    obtain ⟨_, _, _, _, _, _, _, _, hl⟩ := h.at_ i (by omega)
    exact hl
  have HLEN := Lib.hid hlen
  have HALL := Lib.hid (catR_L h.ok.len)
  clear hlen
  go_enter Try.func32, Try.ntmps32
  go_wp2_with fail
  clear hp
  go_loopw [11, 3, 5, 13, 14] (fun i s _ _ _ wr => ∃ (j : Nat) (R : Option Addr) (cap : Nat), j ≤ n ∧ i = .int .i64 (j : Int) ∧ s = .slice R (j * 64) cap ∧ Own8 wr w.heap.size 5 R cap (catR (sec D.L) j) ∧ Below w.heap.size w wr) (fun i _ _ _ _ _ => n - (intOf i).toNat)
  case atStart => exact ⟨0, none, 0, by omega, rfl, rfl, World.ownsRow_nil _ _ _ _, Below.refl _ _⟩
  case round =>
    obtain ⟨j, R, cap, hj, rfl, rfl, own, bel⟩ := hrel
    by_cases hlt : j < n
    · have kp : Keeps (fun _ => False) w wr := ⟨bel.os, bel.tape, bel.output, bel.size, fun b hb _ => bel.block b hb⟩
      have hr := h.same kp
      obtain ⟨g, cap2, R1, c1, hv, hcell, _, br, hl64⟩ := hr.at_ j hlt
      cases hv
      have hl := HLEN.out j hj
      obtain ⟨R', cap3, w2, hap, own2, b2⟩ := own.appB bel.size (by omega) R1 c1 (sec D.L j) br hl64
      rw [hl] at hap
      rw [← catR_succ] at own2
      have HAP := Lib.hid hap
      have OWN := Lib.hid own2
      have bel2 := bel.trans b2
      clear hap own2 own hr kp hl b2 br hl64
      go_wp2_with (first | (at_builtin; refine wpList_append_run rfl _ _ 30 rfl _ HAP.out ?_) | fail)
      go_roundw
      case rel => exact ⟨j + 1, R', cap3, by omega, by go_num, by rw [Nat.add_mul], OWN.out, bel2⟩
      case measure => simp [intOf]; omega
    · obtain rfl : j = n := by omega
      go_wp2_with fail
      go_ret
      rw [HALL.out] at own
      refine ⟨R, cap, ?_, own.br, bel⟩
      have := HLEN.out j (Nat.le_refl _)
      rw [HALL.out] at this
      rw [this]
      rfl
end Go.Proofs.Ythbdhmjmboliiaa
