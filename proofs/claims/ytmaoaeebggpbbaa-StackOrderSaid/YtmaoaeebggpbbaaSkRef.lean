/-
  SkRef
-/
import Derived.Test.YtmaoaeebggpbbaaSkPlain
import Derived.Test.YtmaoaeebggpbbaaDn
namespace Go.Proofs.Ytmaoaeebggpbbaa.Sk
open Go.RowKit Go.Maps Mm Hd
set_option linter.unusedVariables false
set_option linter.unusedSimpArgs false
variable {w : World} {mi q b c d e : Nat} {M G : List UInt8} {a lo hi ov un : Int}
theorem rcs (h : RefH w mi q b c d e M G) : M.length = 8192 := h.bl
set_option maxRecDepth 100000 in
set_option maxHeartbeats 400000 in
theorem rtop_at (h : RefH w mi q b c d e M G) (pa : Pa a lo hi ov un) : Calls Try.prog 65 #[.pointer (some ⟨q, 0, none⟩), .int .i64 a, .int .i64 lo, .int .i64 hi] w fun e' w' => e' = .returned (.int .i64 (topL M a lo hi)) ∧ w = w' := by
  have bd := pa.bd
  have GH := Lib.hid (rget_at h a (by omega) (by omega))
  unfold topL
  generalize cel M a = n at *
  clear h
  unfold topV
  by_cases x1 : n < lo
  · rw [if_pos (Or.inl x1)]
    go_enter Try.func65, Try.ntmps65
    go_wp2_with fail
    refine GH.out.mono ?_
    rintro e w2 ⟨rfl, rfl⟩
    go_wp2_with fail
    go_ret
    exact ⟨rfl, rfl⟩
  by_cases x2 : hi < n
  · rw [if_pos (Or.inr (Or.inl x2))]
    go_enter Try.func65, Try.ntmps65
    go_wp2_with fail
    refine GH.out.mono ?_
    rintro e w2 ⟨rfl, rfl⟩
    go_wp2_with fail
    go_ret
    exact ⟨rfl, rfl⟩
  by_cases x3 : n.tmod 8 = 0
  · rw [if_neg (fun y => y.elim x1 fun y => y.elim x2 fun y => y x3)]
    rw [Int.tmod_eq_emod_of_nonneg (by omega)] at x3
    have x4 : (n % 8 != 0) = false := by simp [x3]
    go_enter Try.func65, Try.ntmps65
    go_wp2_with fail
    refine GH.out.mono ?_
    rintro e w2 ⟨rfl, rfl⟩
    go_wp2_with fail
    go_ret
    exact ⟨rfl, rfl⟩
  · rw [if_pos (Or.inr (Or.inr x3))]
    rw [Int.tmod_eq_emod_of_nonneg (by omega)] at x3
    have x4 : (n % 8 != 0) = true := by simp [x3]
    clear x3
    go_enter Try.func65, Try.ntmps65
    go_wp2_with fail
    refine GH.out.mono ?_
    rintro e w2 ⟨rfl, rfl⟩
    go_wp2_with fail
    go_ret
    exact ⟨rfl, rfl⟩
--@both

set_option maxRecDepth 100000 in
set_option maxHeartbeats 400000 in
theorem rsp_at (h : RefH w mi q b c d e M G) (k : Nat) (hk : k ≤ 32) (ht : topL M 32 256 512 = 512 - 8 * (k : Int)) : Calls Try.prog 46 #[.pointer (some ⟨q, 0, none⟩)] w fun e' w' => e' = .returned (.int .i64 (512 - 8 * (k : Int))) ∧ w = w' := by
  have TT := rtop_at h paD
  rw [ht] at TT
  have TH := Lib.hid TT
  clear h TT
  go_enter Try.func46, Try.ntmps46
  go_wp2_with fail
  refine TH.out.mono ?_
  rintro e w2 ⟨rfl, rfl⟩
  go_wp2_with fail
  go_ret
  exact ⟨rfl, rfl⟩
set_option maxRecDepth 100000 in
set_option maxHeartbeats 400000 in
theorem rDepth_at (h : RefH w mi q b c d e M G) (k : Nat) (hk : k ≤ 32) (ht : topL M 32 256 512 = 512 - 8 * (k : Int)) : Calls Try.prog 12 #[.pointer (some ⟨q, 0, none⟩)] w fun e' w' => e' = .returned (.int .i64 (k : Int)) ∧ w = w' := by
  have TT := rsp_at h k hk ht
  have e0 : 512 - (512 - 8 * (k : Int)) = 8 * (k : Int) := by omega
  have e1 : (8 * (k : Int)) / 8 = (k : Int) := by omega
  have tb : (256 : Int) ≤ 512 - 8 * (k : Int) := by omega
  have tb2 : 512 - 8 * (k : Int) ≤ 512 := by omega
  have TH := Lib.hid TT
  clear h TT ht
  generalize 512 - 8 * (k : Int) = T at *
  go_enter Try.func12, Try.ntmps12
  go_wp2_with fail
  refine TH.out.mono ?_
  rintro e w2 ⟨rfl, rfl⟩
  go_wp2_with fail
  go_ret
  refine ⟨?_, rfl⟩
  show Ending.returned (.int .i64 _) = _
  congr 2 <;> omega
set_option maxRecDepth 100000 in
set_option maxHeartbeats 400000 in
theorem rAt_ok (h : RefH w mi q b c d e M G) (k : Nat) (hk : k ≤ 32) (ht : topL M 32 256 512 = 512 - 8 * (k : Int)) (n : Nat) (hn : n < k) : Calls Try.prog 36 #[.pointer (some ⟨q, 0, none⟩), .int .i64 (n : Int)] w fun e' w' => e' = .returned (.tuple #[.int .i64 (cel M (512 - 8 * (k : Int) + 8 * (n : Int))), .int .i64 0]) ∧ w = w' := by
  have SH := Lib.hid (rsp_at h k hk ht)
  have DH := Lib.hid (rDepth_at h k hk ht)
  have GH := Lib.hid (rget_at h (512 - 8 * (k : Int) + 8 * (n : Int)) (by omega) (by omega))
  have tb : (256 : Int) ≤ 512 - 8 * (k : Int) := by omega
  have tb2 : 512 - 8 * (k : Int) ≤ 512 := by omega
  have x1 : ¬ (k : Int) ≤ (n : Int) := by omega
  generalize cel M (512 - 8 * (k : Int) + 8 * (n : Int)) = x at *
  clear h ht
  generalize 512 - 8 * (k : Int) = T at *
  go_enter Try.func36, Try.ntmps36
  go_wp2_with fail
  refine DH.out.mono ?_
  rintro e w2 ⟨rfl, rfl⟩
  go_wp2_with fail
  refine SH.out.mono ?_
  rintro e w2 ⟨rfl, rfl⟩
  go_wp2_with fail
  refine GH.out.mono ?_
  rintro e w2 ⟨rfl, rfl⟩
  go_wp2_with fail
  go_ret2
  exact ⟨rfl, rfl⟩
set_option maxRecDepth 100000 in
set_option maxHeartbeats 400000 in
theorem rAt_no (h : RefH w mi q b c d e M G) (k : Nat) (hk : k ≤ 32) (ht : topL M 32 256 512 = 512 - 8 * (k : Int)) (n : Int) (hn : n < 0 ∨ (k : Int) ≤ n) : Calls Try.prog 36 #[.pointer (some ⟨q, 0, none⟩), .int .i64 n] w fun e' w' => e' = .returned (.tuple #[.int .i64 0, .int .i64 (-4)]) ∧ w = w' := by
  have DH := Lib.hid (rDepth_at h k hk ht)
  clear h ht
  by_cases x0 : n < 0
  · clear hn
    go_enter Try.func36, Try.ntmps36
    go_wp2_with fail
    go_ret2
    exact ⟨rfl, rfl⟩
  · have x1 : (k : Int) ≤ n := by omega
    clear hn
    go_enter Try.func36, Try.ntmps36
    go_wp2_with fail
    refine DH.out.mono ?_
    rintro e w2 ⟨rfl, rfl⟩
    go_wp2_with fail
    go_ret2
    exact ⟨rfl, rfl⟩
set_option maxRecDepth 100000 in
set_option maxHeartbeats 400000 in
theorem rPush_over (h : RefH w mi q b c d e M G) (ht : topL M 32 256 512 = 256) (n : Int) : Calls Try.prog 31 #[.pointer (some ⟨q, 0, none⟩), .int .i64 n] w (DocO w mi q b d e G M (.int .i64 (-3))) := by
  have SH := Lib.hid (rsp_at h 32 (by omega) (by rw [ht]; decide))
  have HH := Lib.hid h
  clear h ht
  go_enter Try.func31, Try.ntmps31
  go_wp2_with fail
  refine SH.out.mono ?_
  rintro e w2 ⟨rfl, rfl⟩
  go_wp2_with fail
  go_ret
  exact ⟨rfl, Dn.quiet HH.out (Keeps.refl _ _)⟩
set_option maxRecDepth 100000 in
set_option maxHeartbeats 400000 in
theorem rPush_ok (h : RefH w mi q b c d e M G) (k : Nat) (hk : k < 32) (ht : topL M 32 256 512 = 512 - 8 * (k : Int)) (n : Int) : Calls Try.prog 31 #[.pointer (some ⟨q, 0, none⟩), .int .i64 n] w (DocO w mi q b d e G (pushD M 32 (512 - 8 * (k : Int)) n) (.int .i64 0)) := by
  have SH := Lib.hid (rsp_at h k (by omega) ht)
  have tb : (256 : Int) < 512 - 8 * (k : Int) := by omega
  have tb2 : 512 - 8 * (k : Int) ≤ 512 := by omega
  clear ht
  unfold pushD
  generalize 512 - 8 * (k : Int) = T at *
  have x1 : (T == 256) = false := by simp; omega
  have S1 := Lib.hid (rset2_at h (T - 8) n (by omega) (by omega))
  have S2 := Lib.hid fun (W : World) (b' c' : Nat) (h' : RefH W mi q b' c' d e (setM M (T - 8) n) G) => rset2_at h' 32 (T - 8) (by omega) (by omega)
  generalize setM M (T - 8) n = M1 at *
  generalize setM M1 32 (T - 8) = M2 at *
  clear h
  go_enter Try.func31, Try.ntmps31
  go_wp2_with fail
  refine SH.out.mono ?_
  rintro e w2 ⟨rfl, rfl⟩
  go_wp2_with fail
  refine S1.out.mono ?_
  rintro e w3 ⟨rfl, dn3⟩
  obtain ⟨b3, c3, t3, r3⟩ := (Th.refl w q b).step dn3
  have CC := Lib.hid (S2.out w3 b3 c3 r3)
  have T3 := Lib.hid t3
  clear dn3 r3 t3
  go_wp2_with fail
  refine CC.out.mono ?_
  rintro e w4 ⟨rfl, dn4⟩
  have D4 := Lib.hid (Dn.next T3.out dn4)
  clear dn4 CC
  go_wp2_with fail
  go_ret
  exact ⟨rfl, D4.out⟩
set_option maxRecDepth 100000 in
set_option maxHeartbeats 400000 in
theorem rPop_under (h : RefH w mi q b c d e M G) (ht : topL M 32 256 512 = 512) : Calls Try.prog 32 #[.pointer (some ⟨q, 0, none⟩)] w (DocO w mi q b d e G M (.tuple #[.int .i64 0, .int .i64 (-4)])) := by
  have SH := Lib.hid (rsp_at h 0 (by omega) (by rw [ht]; decide))
  have HH := Lib.hid h
  clear h ht
  go_enter Try.func32, Try.ntmps32
  go_wp2_with fail
  refine SH.out.mono ?_
  rintro e w2 ⟨rfl, rfl⟩
  go_wp2_with fail
  go_ret2
  exact ⟨rfl, Dn.quiet HH.out (Keeps.refl _ _)⟩
set_option maxRecDepth 100000 in
set_option maxHeartbeats 400000 in
theorem rPop_ok (h : RefH w mi q b c d e M G) (k : Nat) (hk : k ≤ 32) (k1 : 1 ≤ k) (ht : topL M 32 256 512 = 512 - 8 * (k : Int)) : Calls Try.prog 32 #[.pointer (some ⟨q, 0, none⟩)] w (DocO w mi q b d e G (setM M 32 (512 - 8 * (k : Int) + 8)) (.tuple #[.int .i64 (cel M (512 - 8 * (k : Int))), .int .i64 0])) := by
  have SH := Lib.hid (rsp_at h k (by omega) ht)
  have tb : (256 : Int) ≤ 512 - 8 * (k : Int) := by omega
  have tb2 : 512 - 8 * (k : Int) < 512 := by omega
  have ml := h.bl
  clear ht
  generalize 512 - 8 * (k : Int) = T at *
  have x1 : (T == 512) = false := by simp; omega
  have S1 := Lib.hid (rset2_at h 32 (T + 8) (by omega) (by omega))
  have co : cel (setM M 32 (T + 8)) T = cel M T := cel_off M 32 T (T + 8) (by omega) (by omega) (by omega) (by omega)
  have S2 := fun (W : World) (b' c' : Nat) (h' : RefH W mi q b' c' d e (setM M 32 (T + 8)) G) => rget_at h' T (by omega) (by omega)
  rw [co] at S2
  have S3 := Lib.hid S2
  generalize setM M 32 (T + 8) = M1 at *
  generalize cel M T = x at *
  clear h S2 co
  go_enter Try.func32, Try.ntmps32
  go_wp2_with fail
  refine SH.out.mono ?_
  rintro e w2 ⟨rfl, rfl⟩
  go_wp2_with fail
  refine S1.out.mono ?_
  rintro e w3 ⟨rfl, dn3⟩
  obtain ⟨b3, c3, t3, r3⟩ := (Th.refl w q b).step dn3
  have CC := Lib.hid (S3.out w3 b3 c3 r3)
  have D3 := Lib.hid (t3.dn r3)
  clear dn3 r3 t3
  go_wp2_with fail
  refine CC.out.mono ?_
  rintro e w4 ⟨rfl, rfl⟩
  go_wp2_with fail
  go_ret2
  exact ⟨rfl, D3.out⟩

set_option maxRecDepth 100000 in
set_option maxHeartbeats 400000 in
theorem rrp_at (h : RefH w mi q b c d e M G) (k : Nat) (hk : k ≤ 32) (ht : topL M 40 512 768 = 768 - 8 * (k : Int)) : Calls Try.prog 48 #[.pointer (some ⟨q, 0, none⟩)] w fun e' w' => e' = .returned (.int .i64 (768 - 8 * (k : Int))) ∧ w = w' := by
  have TT := rtop_at h paB
  rw [ht] at TT
  have TH := Lib.hid TT
  clear h TT
  go_enter Try.func48, Try.ntmps48
  go_wp2_with fail
  refine TH.out.mono ?_
  rintro e w2 ⟨rfl, rfl⟩
  go_wp2_with fail
  go_ret
  exact ⟨rfl, rfl⟩
set_option maxRecDepth 100000 in
set_option maxHeartbeats 400000 in
theorem rDeep_at (h : RefH w mi q b c d e M G) (k : Nat) (hk : k ≤ 32) (ht : topL M 40 512 768 = 768 - 8 * (k : Int)) : Calls Try.prog 14 #[.pointer (some ⟨q, 0, none⟩)] w fun e' w' => e' = .returned (.int .i64 (k : Int)) ∧ w = w' := by
  have TT := rrp_at h k hk ht
  have e0 : 768 - (768 - 8 * (k : Int)) = 8 * (k : Int) := by omega
  have e1 : (8 * (k : Int)) / 8 = (k : Int) := by omega
  have tb : (512 : Int) ≤ 768 - 8 * (k : Int) := by omega
  have tb2 : 768 - 8 * (k : Int) ≤ 768 := by omega
  have TH := Lib.hid TT
  clear h TT ht
  generalize 768 - 8 * (k : Int) = T at *
  go_enter Try.func14, Try.ntmps14
  go_wp2_with fail
  refine TH.out.mono ?_
  rintro e w2 ⟨rfl, rfl⟩
  go_wp2_with fail
  go_ret
  refine ⟨?_, rfl⟩
  show Ending.returned (.int .i64 _) = _
  congr 2 <;> omega
set_option maxRecDepth 100000 in
set_option maxHeartbeats 400000 in
theorem rRAt_ok (h : RefH w mi q b c d e M G) (k : Nat) (hk : k ≤ 32) (ht : topL M 40 512 768 = 768 - 8 * (k : Int)) (n : Nat) (hn : n < k) : Calls Try.prog 38 #[.pointer (some ⟨q, 0, none⟩), .int .i64 (n : Int)] w fun e' w' => e' = .returned (.tuple #[.int .i64 (cel M (768 - 8 * (k : Int) + 8 * (n : Int))), .int .i64 0]) ∧ w = w' := by
  have SH := Lib.hid (rrp_at h k hk ht)
  have DH := Lib.hid (rDeep_at h k hk ht)
  have GH := Lib.hid (rget_at h (768 - 8 * (k : Int) + 8 * (n : Int)) (by omega) (by omega))
  have tb : (512 : Int) ≤ 768 - 8 * (k : Int) := by omega
  have tb2 : 768 - 8 * (k : Int) ≤ 768 := by omega
  have x1 : ¬ (k : Int) ≤ (n : Int) := by omega
  generalize cel M (768 - 8 * (k : Int) + 8 * (n : Int)) = x at *
  clear h ht
  generalize 768 - 8 * (k : Int) = T at *
  go_enter Try.func38, Try.ntmps38
  go_wp2_with fail
  refine DH.out.mono ?_
  rintro e w2 ⟨rfl, rfl⟩
  go_wp2_with fail
  refine SH.out.mono ?_
  rintro e w2 ⟨rfl, rfl⟩
  go_wp2_with fail
  refine GH.out.mono ?_
  rintro e w2 ⟨rfl, rfl⟩
  go_wp2_with fail
  go_ret2
  exact ⟨rfl, rfl⟩
set_option maxRecDepth 100000 in
set_option maxHeartbeats 400000 in
theorem rRAt_no (h : RefH w mi q b c d e M G) (k : Nat) (hk : k ≤ 32) (ht : topL M 40 512 768 = 768 - 8 * (k : Int)) (n : Int) (hn : n < 0 ∨ (k : Int) ≤ n) : Calls Try.prog 38 #[.pointer (some ⟨q, 0, none⟩), .int .i64 n] w fun e' w' => e' = .returned (.tuple #[.int .i64 0, .int .i64 (-6)]) ∧ w = w' := by
  have DH := Lib.hid (rDeep_at h k hk ht)
  clear h ht
  by_cases x0 : n < 0
  · clear hn
    go_enter Try.func38, Try.ntmps38
    go_wp2_with fail
    go_ret2
    exact ⟨rfl, rfl⟩
  · have x1 : (k : Int) ≤ n := by omega
    clear hn
    go_enter Try.func38, Try.ntmps38
    go_wp2_with fail
    refine DH.out.mono ?_
    rintro e w2 ⟨rfl, rfl⟩
    go_wp2_with fail
    go_ret2
    exact ⟨rfl, rfl⟩
set_option maxRecDepth 100000 in
set_option maxHeartbeats 400000 in
theorem rRPush_over (h : RefH w mi q b c d e M G) (ht : topL M 40 512 768 = 512) (n : Int) : Calls Try.prog 33 #[.pointer (some ⟨q, 0, none⟩), .int .i64 n] w (DocO w mi q b d e G M (.int .i64 (-5))) := by
  have SH := Lib.hid (rrp_at h 32 (by omega) (by rw [ht]; decide))
  have HH := Lib.hid h
  clear h ht
  go_enter Try.func33, Try.ntmps33
  go_wp2_with fail
  refine SH.out.mono ?_
  rintro e w2 ⟨rfl, rfl⟩
  go_wp2_with fail
  go_ret
  exact ⟨rfl, Dn.quiet HH.out (Keeps.refl _ _)⟩
set_option maxRecDepth 100000 in
set_option maxHeartbeats 400000 in
theorem rRPush_ok (h : RefH w mi q b c d e M G) (k : Nat) (hk : k < 32) (ht : topL M 40 512 768 = 768 - 8 * (k : Int)) (n : Int) : Calls Try.prog 33 #[.pointer (some ⟨q, 0, none⟩), .int .i64 n] w (DocO w mi q b d e G (pushD M 40 (768 - 8 * (k : Int)) n) (.int .i64 0)) := by
  have SH := Lib.hid (rrp_at h k (by omega) ht)
  have tb : (512 : Int) < 768 - 8 * (k : Int) := by omega
  have tb2 : 768 - 8 * (k : Int) ≤ 768 := by omega
  clear ht
  unfold pushD
  generalize 768 - 8 * (k : Int) = T at *
  have x1 : (T == 512) = false := by simp; omega
  have S1 := Lib.hid (rset2_at h (T - 8) n (by omega) (by omega))
  have S2 := Lib.hid fun (W : World) (b' c' : Nat) (h' : RefH W mi q b' c' d e (setM M (T - 8) n) G) => rset2_at h' 40 (T - 8) (by omega) (by omega)
  generalize setM M (T - 8) n = M1 at *
  generalize setM M1 40 (T - 8) = M2 at *
  clear h
  go_enter Try.func33, Try.ntmps33
  go_wp2_with fail
  refine SH.out.mono ?_
  rintro e w2 ⟨rfl, rfl⟩
  go_wp2_with fail
  refine S1.out.mono ?_
  rintro e w3 ⟨rfl, dn3⟩
  obtain ⟨b3, c3, t3, r3⟩ := (Th.refl w q b).step dn3
  have CC := Lib.hid (S2.out w3 b3 c3 r3)
  have T3 := Lib.hid t3
  clear dn3 r3 t3
  go_wp2_with fail
  refine CC.out.mono ?_
  rintro e w4 ⟨rfl, dn4⟩
  have D4 := Lib.hid (Dn.next T3.out dn4)
  clear dn4 CC
  go_wp2_with fail
  go_ret
  exact ⟨rfl, D4.out⟩
set_option maxRecDepth 100000 in
set_option maxHeartbeats 400000 in
theorem rRPop_under (h : RefH w mi q b c d e M G) (ht : topL M 40 512 768 = 768) : Calls Try.prog 34 #[.pointer (some ⟨q, 0, none⟩)] w (DocO w mi q b d e G M (.tuple #[.int .i64 0, .int .i64 (-6)])) := by
  have SH := Lib.hid (rrp_at h 0 (by omega) (by rw [ht]; decide))
  have HH := Lib.hid h
  clear h ht
  go_enter Try.func34, Try.ntmps34
  go_wp2_with fail
  refine SH.out.mono ?_
  rintro e w2 ⟨rfl, rfl⟩
  go_wp2_with fail
  go_ret2
  exact ⟨rfl, Dn.quiet HH.out (Keeps.refl _ _)⟩
set_option maxRecDepth 100000 in
set_option maxHeartbeats 400000 in
theorem rRPop_ok (h : RefH w mi q b c d e M G) (k : Nat) (hk : k ≤ 32) (k1 : 1 ≤ k) (ht : topL M 40 512 768 = 768 - 8 * (k : Int)) : Calls Try.prog 34 #[.pointer (some ⟨q, 0, none⟩)] w (DocO w mi q b d e G (setM M 40 (768 - 8 * (k : Int) + 8)) (.tuple #[.int .i64 (cel M (768 - 8 * (k : Int))), .int .i64 0])) := by
  have SH := Lib.hid (rrp_at h k (by omega) ht)
  have tb : (512 : Int) ≤ 768 - 8 * (k : Int) := by omega
  have tb2 : 768 - 8 * (k : Int) < 768 := by omega
  have ml := h.bl
  clear ht
  generalize 768 - 8 * (k : Int) = T at *
  have x1 : (T == 768) = false := by simp; omega
  have S1 := Lib.hid (rset2_at h 40 (T + 8) (by omega) (by omega))
  have co : cel (setM M 40 (T + 8)) T = cel M T := cel_off M 40 T (T + 8) (by omega) (by omega) (by omega) (by omega)
  have S2 := fun (W : World) (b' c' : Nat) (h' : RefH W mi q b' c' d e (setM M 40 (T + 8)) G) => rget_at h' T (by omega) (by omega)
  rw [co] at S2
  have S3 := Lib.hid S2
  generalize setM M 40 (T + 8) = M1 at *
  generalize cel M T = x at *
  clear h S2 co
  go_enter Try.func34, Try.ntmps34
  go_wp2_with fail
  refine SH.out.mono ?_
  rintro e w2 ⟨rfl, rfl⟩
  go_wp2_with fail
  refine S1.out.mono ?_
  rintro e w3 ⟨rfl, dn3⟩
  obtain ⟨b3, c3, t3, r3⟩ := (Th.refl w q b).step dn3
  have CC := Lib.hid (S3.out w3 b3 c3 r3)
  have D3 := Lib.hid (t3.dn r3)
  clear dn3 r3 t3
  go_wp2_with fail
  refine CC.out.mono ?_
  rintro e w4 ⟨rfl, rfl⟩
  go_wp2_with fail
  go_ret2
  exact ⟨rfl, D3.out⟩

set_option maxRecDepth 100000 in
set_option maxHeartbeats 400000 in
theorem rClear_at (h : RefH w mi q b c d e M G) : Calls Try.prog 42 #[.pointer (some ⟨q, 0, none⟩)] w (DocO w mi q b d e G (setM (setM M 32 512) 40 768) (.tuple #[])) := by
  have S1 := Lib.hid (rset2_at h 32 512 (by omega) (by omega))
  have S2 := Lib.hid fun (W : World) (b' c' : Nat) (h' : RefH W mi q b' c' d e (setM M 32 512) G) => rset2_at h' 40 768 (by omega) (by omega)
  generalize setM M 32 512 = M1 at *
  generalize setM M1 40 768 = M2 at *
  clear h
  go_enter Try.func42, Try.ntmps42
  go_wp2_with fail
  refine S1.out.mono ?_
  rintro e w3 ⟨rfl, dn3⟩
  obtain ⟨b3, c3, t3, r3⟩ := (Th.refl w q b).step dn3
  have CC := Lib.hid (S2.out w3 b3 c3 r3)
  have T3 := Lib.hid t3
  clear dn3 r3 t3
  go_wp2_with fail
  refine CC.out.mono ?_
  rintro e w4 ⟨rfl, dn4⟩
  have D4 := Lib.hid (Dn.next T3.out dn4)
  clear dn4 CC
  go_wp2_with fail
  all_goals
    go_end0
    exact ⟨rfl, D4.out⟩
end Go.Proofs.Ytmaoaeebggpbbaa.Sk
