/-
  HhMrkR
-/
import Derived.Test.YthmlhjjcihibnaaHhMark
namespace Go.Proofs.Ythmlhjjcihibnaa.Hh
open Go.RowKit Go.Maps Mm Sk
set_option linter.unusedVariables false
set_option linter.unusedSimpArgs false
theorem or_32 (i h : Bool) (n : Nat) (hn : n < 32) (u : Nat) : bits .or .u8 ((n + markN i h : Nat) : Int) ((u / 32 % 2 * 32 : Nat) : Int) = ((n + markN i h + u / 32 % 2 * 32 : Nat) : Int) := by
  have : (List.range 32).all (fun n => decide (bits .or .u8 ((n + markN i h : Nat) : Int) 0 = ((n + markN i h : Nat) : Int) ∧ bits .or .u8 ((n + markN i h : Nat) : Int) 32 = ((n + markN i h + 32 : Nat) : Int))) = true := by
    cases i <;> cases h <;> kernel_rfl
  rw [List.all_eq_true] at this
  have h2 : bits .or .u8 ((n + markN i h : Nat) : Int) 0 = ((n + markN i h : Nat) : Int) ∧ bits .or .u8 ((n + markN i h : Nat) : Int) 32 = ((n + markN i h + 32 : Nat) : Int) := by simpa using this n (by simpa using hn)
  have c : u / 32 % 2 = 0 ∨ u / 32 % 2 = 1 := by omega
  rcases c with e | e <;> rw [e]
  · exact h2.1
  · exact h2.2
variable {w : World} {mi q b c d e : Nat} {B G : List UInt8}
set_option maxRecDepth 100000 in
set_option maxHeartbeats 400000 in
theorem latest_doc (h : RefH w mi q b c d e B G) : Calls Try.prog 16 #[.pointer (some ⟨q, 0, none⟩)] w fun en w' => en = .returned (.int .i64 (latV B)) ∧ RefH w' mi q b c d e B G ∧ Keeps (fun _ => False) w w' := by
  have C := Lib.hid (rget_at h 8 (by omega) (by omega))
  have bd := cel_in B 8
  obtain ⟨y, hy⟩ : ∃ y, y = latV B := ⟨_, rfl⟩
  have HY := Lib.hid hy
  rw [← hy]
  unfold latV at hy
  have RD := Lib.hid (hread_doc h (cel B 8) bd.1 bd.2)
  unfold RrQ at RD
  by_cases ci : IsH B (cel B 8)
  · rw [if_pos ci] at hy
    rw [(read_yes ci).1, (read_yes ci).2] at RD
    generalize rdV B (cel B 8) = x at *
    clear ci HY bd h
    rw [← hy] at C RD
    clear hy
    go_enter Try.func16, Try.ntmps16
    go_wp2_with fail
    refine C.out.mono ?_
    rintro e' w2 ⟨rfl, rfl⟩
    clear C
    go_wp2_with fail
    refine RD.out.mono ?_
    rintro e' w3 ⟨rfl, m3, k3⟩
    obtain ⟨s1, s2, s3⟩ := box_put w3 x
    have FIN := Lib.hid (show RefH _ mi q b c d e B G ∧ Keeps (fun _ => False) w _ from ⟨m3.keep s3 (fun _ _ _ f => f), k3.trans s3⟩)
    have ST := Lib.hid s1
    clear s1 s2 s3 m3 k3 RD
    generalize hW : (w3.alloc (.cells #[.int .i64 0, .int .i64 0, .string ⟨#[]⟩, .bool false, .bool false, .int .i64 0] 29)).setCells w3.heap.size 0 (hcs x) = W at *
    clear hW
    go_wp2_with (first
      | ((with_reducible refine at_ (op := .store 29 (.tmp 4) (.tmp 12)) ?_); refine wpList_unit rfl (ex_store 29 (.tmp 4) (.tmp 12) rfl _ _ rfl rfl ST.out) ?_)
      | fail)
    go_ret
    exact ⟨rfl, FIN.out⟩
  · rw [if_neg ci] at hy
    rw [(read_no ci).1, (read_no ci).2] at RD
    generalize cel B 8 = z at *
    generalize hag0 = x at *
    clear ci HY bd h
    subst hy
    go_enter Try.func16, Try.ntmps16
    go_wp2_with fail
    refine C.out.mono ?_
    rintro e' w2 ⟨rfl, rfl⟩
    clear C
    go_wp2_with fail
    refine RD.out.mono ?_
    rintro e' w3 ⟨rfl, m3, k3⟩
    obtain ⟨s1, s2, s3⟩ := box_put w3 x
    have FIN := Lib.hid (show RefH _ mi q b c d e B G ∧ Keeps (fun _ => False) w _ from ⟨m3.keep s3 (fun _ _ _ f => f), k3.trans s3⟩)
    have ST := Lib.hid s1
    clear s1 s2 s3 m3 k3 RD
    generalize hW : (w3.alloc (.cells #[.int .i64 0, .int .i64 0, .string ⟨#[]⟩, .bool false, .bool false, .int .i64 0] 29)).setCells w3.heap.size 0 (hcs x) = W at *
    clear hW
    go_wp2_with (first
      | ((with_reducible refine at_ (op := .store 29 (.tmp 4) (.tmp 12)) ?_); refine wpList_unit rfl (ex_store 29 (.tmp 4) (.tmp 12) rfl _ _ rfl rfl ST.out) ?_)
      | fail)
    go_ret
    exact ⟨rfl, FIN.out⟩
def RmQ (w : World) (mi q b c d e : Nat) (B G : List UInt8) (v : Value) (en : Ending) (w' : World) : Prop := en = .returned v ∧ RefH w' mi q b c d e B G ∧ Keeps (fun k => k = b) w w'
set_option maxRecDepth 100000 in
set_option maxHeartbeats 400000 in
theorem rmark_no (h : RefH w mi q b c d e B G) (a : Int) (ha : -9223372036854775808 ≤ a) (ha' : a ≤ 9223372036854775807) (i hh : Bool) (hn : ¬ IsH B a) : Calls Try.prog 21 #[.pointer (some ⟨q, 0, none⟩), .int .i64 a, .bool i, .bool hh] w (RmQ w mi q b c d e B G (.bool false)) := by
  have RD := Lib.hid (hread_doc h a ha ha')
  unfold RrQ at RD
  rw [(read_no hn).1, (read_no hn).2] at RD
  generalize hag0 = x at *
  clear h
  go_enter Try.func21, Try.ntmps21
  go_wp2_with fail
  refine RD.out.mono ?_
  rintro e' w3 ⟨rfl, m3, k3⟩
  obtain ⟨s1, s2, s3⟩ := box_put w3 x
  have FIN := Lib.hid (show RmQ w mi q b c d e B G (.bool false) (.returned (.bool false)) _ from ⟨rfl, m3.keep s3 (fun _ _ _ f => f), (k3.trans s3).mono fun _ _ f => f.elim⟩)
  have ST := Lib.hid s1
  clear s1 s2 s3 m3 k3 RD
  generalize RmQ w mi q b c d e B G (.bool false) = Q at *
  generalize hW : (w3.alloc (.cells #[.int .i64 0, .int .i64 0, .string ⟨#[]⟩, .bool false, .bool false, .int .i64 0] 29)).setCells w3.heap.size 0 (hcs x) = W at *
  clear hW
  go_wp2_with (first
    | ((with_reducible refine at_ (op := .store 29 (.tmp 9) (.tmp 16)) ?_); refine wpList_unit rfl (ex_store 29 (.tmp 9) (.tmp 16) rfl _ _ rfl rfl ST.out) ?_)
    | fail)
  exact FIN.out
set_option maxRecDepth 100000 in
set_option maxHeartbeats 800000 in
theorem rmark_yes (h : RefH w mi q b c d e B G) (a : Int) (ha : -9223372036854775808 ≤ a) (ha' : a ≤ 9223372036854775807) (i hh : Bool) (hy : IsH B a) : Calls Try.prog 21 #[.pointer (some ⟨q, 0, none⟩), .int .i64 a, .bool i, .bool hh] w (RmQ w mi q b c d e (layL B (a + 8) [mrkV B a i hh]) G (.bool true)) := by
  have hb := hereV_bd B
  have a0 : 1536 ≤ a := hy.1
  have a1 : a ≤ 5632 := by have := hy.2.1; omega
  have RD := Lib.hid (hread_doc h a ha ha')
  unfold RrQ at RD
  rw [(read_yes hy).1, (read_yes hy).2] at RD
  have hnm : (rdV B a).name.length = (mkV B a).toNat % 32 := loadL_len _ _ _
  generalize rdV B a = x at *
  clear hy hb
  have mv := mrkV_val B a i hh
  generalize mrkV B a i hh = t at *
  obtain ⟨u, hu⟩ : ∃ u, u = mkV B a := ⟨_, rfl⟩
  have LD1 : ∀ w', RefH w' mi q b c d e B G → Calls Try.prog 32 #[.pointer (some ⟨q, 0, none⟩), .int .i64 (a + 8), .int .i64 1] w' fun en w2 => ∃ g, en = .returned (.slice (some ⟨g, 0, none⟩) 1 1) ∧ w2.cell? ⟨g, 0, none⟩ = some (.int .u8 (u.toNat : Int)) ∧ Keeps (fun _ => False) w' w2 := fun w' m => by
    have L := rload_at m (a + 8) 1 (by omega) (by omega)
    rw [show (clamp 1 8192).toNat = 1 by decide] at L
    refine L.mono ?_
    rintro en w2 ⟨g, rfl, hr, hk⟩
    have hc := hr.cell_ (k := 0) (by rw [loadL_len]; omega)
    rw [getD_loadL _ _ _ _ (by omega), show a + 8 + ((0 : Nat) : Int) = a + 8 by omega] at hc
    refine ⟨g, by rw [loadL_len], ?_, hk⟩
    rw [hc, hu]
    rfl
  have LDH := Lib.hid LD1
  rw [← hu] at mv hnm
  clear LD1 hu
  have n1 := and32 u
  obtain ⟨n, hn⟩ : ∃ n, n = u.toNat % 32 := ⟨_, rfl⟩
  have nb : n < 32 := by rw [hn]; exact Nat.mod_lt _ (by omega)
  have o1 := or_32 i hh n nb u.toNat
  have mlt := markN_lt i hh
  have ub := u.toNat_lt
  have tb := t.toNat_lt
  rw [show n + markN i hh + u.toNat / 32 % 2 * 32 = t.toNat by rw [mv, hn]; omega] at o1
  rw [← hn] at hnm
  clear mv hn
  generalize u.toNat / 32 % 2 * 32 = m32 at *
  have MKS := Lib.hid (fun w' => rmark_any n (by omega) i hh w')
  generalize n + markN i hh = k at *
  have HNM := Lib.hid hnm
  have H0 := Lib.hid h
  clear h hnm
  go_enter Try.func21, Try.ntmps21
  go_wp2_with fail
  refine RD.out.mono ?_
  rintro e' w3 ⟨rfl, m3, k3⟩
  obtain ⟨s1, s2, s3⟩ := box_put w3 x
  have R := Lib.hid (show RefH _ mi q b c d e B G ∧ HB _ w3.heap.size x ∧ Keeps (fun _ => False) w _ from ⟨m3.keep s3 (fun _ _ _ f => f), s2, k3.trans s3⟩)
  have ST := Lib.hid s1
  clear s1 s2 s3 m3 k3 RD
  generalize hW : (w3.alloc (.cells #[.int .i64 0, .int .i64 0, .string ⟨#[]⟩, .bool false, .bool false, .int .i64 0] 29)).setCells w3.heap.size 0 (hcs x) = W at *
  clear hW
  go_wp2_with (first
    | ((with_reducible refine at_ (op := .store 29 (.tmp 9) (.tmp 16)) ?_); refine wpList_unit rfl (ex_store 29 (.tmp 9) (.tmp 16) rfl _ _ rfl rfl ST.out) ?_)
    | fail)
  refine (LDH.out W R.out.1).mono ?_
  rintro e' w4 ⟨g, rfl, hc, k4⟩
  have R4 := Lib.hid (show RefH w4 mi q b c d e B G ∧ HB w4 w3.heap.size x ∧ Keeps (fun _ => False) w w4 from ⟨R.out.1.keep k4 (fun _ _ _ f => f), R.out.2.1.keep k4 (fun f => f), R.out.2.2.trans k4⟩)
  obtain ⟨-, -, c2, -⟩ := R4.out.2.1.c
  unfold Sx at c2
  obtain ⟨xa, xl, xn, xi, xh, xx⟩ := x
  simp only at c2 HNM
  have sz : (⟨xn.toArray⟩ : ByteArray).size = n := by show xn.toArray.size = n; simpa using HNM.out
  generalize (⟨xn.toArray⟩ : ByteArray) = sn at *
  clear k4 R ST LDH
  go_wp2_with fail
  refine (MKS.out w4).mono ?_
  rintro e' w5 ⟨rfl, rfl⟩
  clear c2 hc
  go_wp2_with fail
  have br := BR.new w4 [t] #[.int .u8 (t.toNat : Int)] 5 (0, 0) (by rfl)
  have k1 : Keeps (fun _ => False) w4 (w4.alloc (.cells #[.int .u8 (t.toNat : Int)] 5)) := Keeps.alloc _ _ _
  have hlt := R4.out.1.lt
  have LL := Lib.hid (rlayH_at (R4.out.1.keep k1 (fun _ _ _ h => h)) (a + 8) (by omega) (by omega) (some ⟨w4.heap.size, 0, none⟩) [t] 1 (br.more (by simp)) (fun ad e _ => by cases e; show w4.heap.size ≠ b; omega) (by simp))
  have KK := Lib.hid (show Keeps (fun k => k = b) w (w4.alloc (.cells #[.int .u8 (t.toNat : Int)] 5)) from (R4.out.2.2.trans k1).mono fun _ _ f => f.elim)
  clear br k1 hlt R4
  refine LL.out.mono ?_
  rintro e' w6 ⟨rfl, h6, k6⟩
  have FIN := Lib.hid (show RmQ w mi q b c d e (layL B (a + 8) [t]) G (.bool true) (.returned (.bool true)) w6 from ⟨rfl, h6, KK.out.trans k6⟩)
  clear h6 k6 LL KK
  go_wp2_with fail
  go_ret
  exact FIN.out
theorem mark_doc (h : RefH w mi q b c d e B G) (a : Int) (ha : -9223372036854775808 ≤ a) (ha' : a ≤ 9223372036854775807) (i hh : Bool) : Calls Try.prog 21 #[.pointer (some ⟨q, 0, none⟩), .int .i64 a, .bool i, .bool hh] w (RmQ w mi q b c d e (mrkM B a i hh) G (.bool (decide (IsH B a)))) := by
  unfold mrkM
  by_cases c : IsH B a
  · rw [if_pos c, decide_eq_true c]
    exact rmark_yes h a ha ha' i hh c
  · rw [if_neg c, decide_eq_false c]
    exact rmark_no h a ha ha' i hh c
end Go.Proofs.Ythmlhjjcihibnaa.Hh
