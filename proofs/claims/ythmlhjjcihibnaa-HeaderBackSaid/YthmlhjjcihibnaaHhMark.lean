/-
  HhMark
-/
import Derived.Test.YthmlhjjcihibnaaHhRef
namespace Go.Proofs.Ythmlhjjcihibnaa.Hh
open Go.RowKit Go.Maps Mm Sk
set_option linter.unusedVariables false
set_option linter.unusedSimpArgs false

theorem readH_at (M : List UInt8) : (readH M (cel M 8)).at_ = latV M := by
  unfold readH latV
  split <;> rfl
theorem cel_in (M : List UInt8) (a : Int) : -9223372036854775808 ≤ cel M a ∧ cel M a ≤ 9223372036854775807 := wrap64_in _
/-- A header laid into a new variable. -/
theorem box_put (w : World) (x : HV) : (Instr.storeAt 29 (.pointer (some ⟨w.heap.size, 0, none⟩)) (hag x)).run Try.prog (w.alloc (.cells #[.int .i64 0, .int .i64 0, .string ⟨#[]⟩, .bool false, .bool false, .int .i64 0] 29)) = .ok () ((w.alloc (.cells #[.int .i64 0, .int .i64 0, .string ⟨#[]⟩, .bool false, .bool false, .int .i64 0] 29)).setCells w.heap.size 0 (hcs x)) ∧ HB ((w.alloc (.cells #[.int .i64 0, .int .i64 0, .string ⟨#[]⟩, .bool false, .bool false, .int .i64 0] 29)).setCells w.heap.size 0 (hcs x)) w.heap.size x ∧ Keeps (fun _ => False) w ((w.alloc (.cells #[.int .i64 0, .int .i64 0, .string ⟨#[]⟩, .bool false, .bool false, .int .i64 0] 29)).setCells w.heap.size 0 (hcs x)) := by
  obtain ⟨s1, s2, s3⟩ := (HB.new w).put x
  exact ⟨s1, s2, Keeps.thru (Keeps.alloc (fun _ => False) _ _) s3 (fun _ _ f => f) fun i hi e => by omega⟩
/-- The byte behind Mark. -/
def mrkV (M : List UInt8) (a : Int) (i h : Bool) : UInt8 := UInt8.ofNat ((mkV M a).toNat % 64 + markN i h)
def mrkM (M : List UInt8) (a : Int) (i h : Bool) : List UInt8 := if IsH M a then layL M (a + 8) [mrkV M a i h] else M
theorem mrkV_val (M : List UInt8) (a : Int) (i h : Bool) : (mrkV M a i h).toNat = (mkV M a).toNat % 64 + markN i h := by
  have := markN_lt i h
  unfold mrkV
  have e : (mkV M a).toNat % 64 < 64 := Nat.mod_lt _ (by omega)
  generalize (mkV M a).toNat % 64 = m at *
  rw [UInt8.toNat_ofNat_of_lt']
  show m + markN i h < 256
  omega
variable {w : World} {v : Option Addr} {p gb mb : Nat} {ok : Bool} {G M : List UInt8}
set_option maxRecDepth 100000 in
set_option maxHeartbeats 400000 in
theorem latest_code (h : SM w v p gb mb ok G M) : Calls Try.prog 15 #[.pointer v] w (OutS w v p gb mb ok G M (.int .i64 (latV M))) := by
  have C := Lib.hid (sget h 8 (by omega) (by omega))
  have b := cel_in M 8
  have e0 := readH_at M
  generalize latV M = y at *
  have RD := Lib.hid (fun w' (m : SM w' v p gb mb ok G M) => hread_code m (cel M 8) b.1 b.2)
  unfold RdQ at RD
  generalize readH M (cel M 8) = x at *
  generalize decide (IsH M (cel M 8)) = bb at *
  generalize cel M 8 = z at *
  clear h b
  go_enter Try.func15, Try.ntmps15
  go_wp2_with fail
  refine C.out.mono ?_
  rintro e w2 ⟨rfl, m2, k2⟩
  have K2 := Lib.hid k2
  have M2 := Lib.hid m2
  clear k2 m2 C
  go_wp2_with fail
  refine (RD.out w2 M2.out).mono ?_
  rintro e w3 ⟨rfl, m3, k3⟩
  obtain ⟨s1, s2, s3⟩ := box_put w3 x
  obtain ⟨c0, -⟩ := s2.c
  rw [e0] at c0
  have FIN := Lib.hid (show OutS w v p gb mb ok G M (.int .i64 y) (.returned (.int .i64 y)) _ from ⟨rfl, m3.keep s3 (fun _ _ f => f), (K2.out.trans k3).trans (s3.mono fun _ _ f => f.elim)⟩)
  have ST := Lib.hid s1
  clear s1 s2 s3 m3 k3 K2 M2 RD e0
  generalize OutS w v p gb mb ok G M (.int .i64 y) = Q at *
  generalize hW : (w3.alloc (.cells #[.int .i64 0, .int .i64 0, .string ⟨#[]⟩, .bool false, .bool false, .int .i64 0] 29)).setCells w3.heap.size 0 (hcs x) = W at *
  clear hW
  go_wp2_with (first
    | ((with_reducible refine at_ (op := .store 29 (.tmp 3) (.tmp 10)) ?_); refine wpList_unit rfl (ex_store 29 (.tmp 3) (.tmp 10) rfl _ _ rfl rfl ST.out) ?_)
    | fail)
  exact FIN.out
set_option maxRecDepth 100000 in
set_option maxHeartbeats 400000 in
theorem mark_no (h : SM w v p gb mb ok G M) (a : Int) (ha : -9223372036854775808 ≤ a) (ha' : a ≤ 9223372036854775807) (i hh : Bool) (hn : ¬ IsH M a) : Calls Try.prog 20 #[.pointer v, .int .i64 a, .bool i, .bool hh] w (OutS w v p gb mb ok G M (.bool false)) := by
  have RD := Lib.hid (hread_code h a ha ha')
  unfold RdQ at RD
  rw [(read_no hn).1, (read_no hn).2] at RD
  generalize hag0 = x at *
  clear h
  go_enter Try.func20, Try.ntmps20
  go_wp2_with fail
  refine RD.out.mono ?_
  rintro e w3 ⟨rfl, m3, k3⟩
  obtain ⟨s1, s2, s3⟩ := box_put w3 x
  have FIN := Lib.hid (show OutS w v p gb mb ok G M (.bool false) (.returned (.bool false)) _ from ⟨rfl, m3.keep s3 (fun _ _ f => f), k3.trans (s3.mono fun _ _ f => f.elim)⟩)
  have ST := Lib.hid s1
  clear s1 s2 s3 m3 k3 RD
  generalize OutS w v p gb mb ok G M (.bool false) = Q at *
  generalize hW : (w3.alloc (.cells #[.int .i64 0, .int .i64 0, .string ⟨#[]⟩, .bool false, .bool false, .int .i64 0] 29)).setCells w3.heap.size 0 (hcs x) = W at *
  clear hW
  go_wp2_with (first
    | ((with_reducible refine at_ (op := .store 29 (.tmp 9) (.tmp 16)) ?_); refine wpList_unit rfl (ex_store 29 (.tmp 9) (.tmp 16) rfl _ _ rfl rfl ST.out) ?_)
    | fail)
  exact FIN.out
set_option maxRecDepth 100000 in
set_option maxHeartbeats 800000 in
theorem mark_yes (h : SM w v p gb mb ok G M) (a : Int) (ha : -9223372036854775808 ≤ a) (ha' : a ≤ 9223372036854775807) (i hh : Bool) (hy : IsH M a) : Calls Try.prog 20 #[.pointer v, .int .i64 a, .bool i, .bool hh] w (OutS w v p gb mb ok G (layL M (a + 8) [mrkV M a i hh]) (.bool true)) := by
  have hb := hereV_bd M
  have a0 : 1536 ≤ a := hy.1
  have a1 : a ≤ 5632 := by have := hy.2.1; omega
  have RD := Lib.hid (hread_code h a ha ha')
  unfold RdQ at RD
  rw [(read_yes hy).1, (read_yes hy).2] at RD
  generalize rdV M a = x at *
  obtain ⟨rfl, rfl, -⟩ := SM.yes h (by have := hy.2.1; omega)
  have YB := Lib.hid (show 1536 < hereV M by have := hy.2.1; omega)
  clear hy hb
  have MK := Lib.hid (fun w' (m : MemAt w' p gb mb G M) => markOf_at m a (by omega) (by omega))
  have n1 := not192 (mkV M a)
  have mv := mrkV_val M a i hh
  generalize mrkV M a i hh = t at *
  generalize mkV M a = u at *
  have mb2 : u.toNat % 64 < 64 := Nat.mod_lt _ (by omega)
  generalize u.toNat % 64 = m at *
  have o1 := (or_marks i hh m mb2).1
  have MKS := Lib.hid (fun w' => marks_any i hh w')
  have mlt := markN_lt i hh
  rw [← mv] at o1
  clear mv
  generalize markN i hh = k at *
  have ub := u.toNat_lt
  have tb := t.toNat_lt
  have H0 := Lib.hid h
  clear h
  go_enter Try.func20, Try.ntmps20
  go_wp2_with fail
  refine RD.out.mono ?_
  rintro e w3 ⟨rfl, m3, k3⟩
  obtain ⟨s1, s2, s3⟩ := box_put w3 x
  have R := Lib.hid (show SM _ (some ⟨p, 0, none⟩) p gb mb true G M ∧ Keeps (SF true p mb) w _ from ⟨m3.keep s3 (fun _ _ f => f), k3.trans (s3.mono fun _ _ f => f.elim)⟩)
  have ST := Lib.hid s1
  clear s1 s2 s3 m3 k3 RD
  generalize hW : (w3.alloc (.cells #[.int .i64 0, .int .i64 0, .string ⟨#[]⟩, .bool false, .bool false, .int .i64 0] 29)).setCells w3.heap.size 0 (hcs x) = W at *
  clear hW
  go_wp2_with (first
    | ((with_reducible refine at_ (op := .store 29 (.tmp 9) (.tmp 16)) ?_); refine wpList_unit rfl (ex_store 29 (.tmp 9) (.tmp 16) rfl _ _ rfl rfl ST.out) ?_)
    | fail)
  refine (MK.out W (SM.yes R.out.1 YB.out).2.2).mono ?_
  rintro e w4 o4
  have o4 := OutM.s o4
  obtain ⟨rfl, m4, k4⟩ := o4
  have R4 := Lib.hid (And.intro m4 (R.out.2.trans k4))
  clear m4 k4 R ST MK
  go_wp2_with fail
  refine (MKS.out w4).mono ?_
  rintro e w5 ⟨rfl, rfl⟩
  go_wp2_with fail
  have br := BR.new w4 [t] #[.int .u8 (t.toNat : Int)] 5 (0, 0) (by rfl)
  have k1 : Keeps (fun _ => False) w4 (w4.alloc (.cells #[.int .u8 (t.toNat : Int)] 5)) := Keeps.alloc _ _ _
  have M4 := (SM.yes R4.out.1 YB.out).2.2
  have hlt := M4.lt
  have LL := Lib.hid (mlay1_at (M4.keep k1 (fun h => h) (fun h => h) (fun h => h)) (a + 8) (by omega) (by omega) w4.heap.size t (br.more (by simp)) (by omega) (by omega))
  have KK := Lib.hid (show Keeps (SF true p mb) w (w4.alloc (.cells #[.int .u8 (t.toNat : Int)] 5)) from R4.out.2.trans (k1.mono fun _ _ f => f.elim))
  clear br k1 M4 hlt R4
  refine LL.out.mono ?_
  rintro e w6 ⟨rfl, h6, k6⟩
  have FIN := Lib.hid (show OutS w (some ⟨p, 0, none⟩) p gb mb true G (layL M (a + 8) [t]) (.bool true) (.returned (.bool true)) w6 from ⟨rfl, .inl ⟨rfl, rfl, h6⟩, KK.out.trans (k6.mono fun _ _ f => ⟨rfl, f⟩)⟩)
  clear h6 k6 LL KK
  go_wp2_with fail
  go_ret
  exact FIN.out
theorem mark_code (h : SM w v p gb mb ok G M) (a : Int) (ha : -9223372036854775808 ≤ a) (ha' : a ≤ 9223372036854775807) (i hh : Bool) : Calls Try.prog 20 #[.pointer v, .int .i64 a, .bool i, .bool hh] w (OutS w v p gb mb ok G (mrkM M a i hh) (.bool (decide (IsH M a)))) := by
  unfold mrkM
  by_cases c : IsH M a
  · rw [if_pos c, decide_eq_true c]
    exact mark_yes h a ha ha' i hh c
  · rw [if_neg c, decide_eq_false c]
    exact mark_no h a ha ha' i hh c
end Go.Proofs.Ythmlhjjcihibnaa.Hh
