/-
  HhCode
-/
import Derived.Test.YthmlhjjcihibnaaHhPlain
import Derived.Test.YthmlhjjcihibnaaSkMem
import Derived.Test.YthmlhjjcihibnaaFew
namespace Go.Proofs.Ythmlhjjcihibnaa.Hh
open Go.RowKit Go.Maps Mm Sk
set_option linter.unusedVariables false
set_option linter.unusedSimpArgs false

set_option maxRecDepth 100000 in
theorem align_any (n : Int) (w : World) : Calls Try.prog 25 #[.int .i64 n] w fun e w' => e = .returned (.int .i64 (alignV n)) ∧ w = w' := by
  have h := align_code n
  have H := Lib.hid h
  clear h
  go_enter Try.func25, Try.ntmps25
  go_wp2_with fail
  go_ret
  refine ⟨?_, rfl⟩
  rw [← H.out]
  rfl
set_option maxRecDepth 100000 in
theorem ralign_any (n : Int) (w : World) : Calls Try.prog 26 #[.int .i64 n] w fun e w' => e = .returned (.int .i64 (alignV n)) ∧ w = w' := by
  have h := align_doc n
  have H := Lib.hid h
  clear h
  go_enter Try.func26, Try.ntmps26
  go_wp2_with fail
  go_ret
  refine ⟨?_, rfl⟩
  rw [← H.out]
  rfl
set_option maxRecDepth 100000 in
theorem length_any (u : UInt8) (w : World) : Calls Try.prog 28 #[.int .u8 (u.toNat : Int)] w fun e w' => e = .returned (.int .i64 ((u.toNat % 32 : Nat) : Int)) ∧ w = w' := by
  have h := and31 u
  have hb : u.toNat % 32 < 32 := Nat.mod_lt _ (by omega)
  generalize u.toNat % 32 = m at *
  go_enter Try.func28, Try.ntmps28
  go_wp2_with fail
  go_ret
  exact ⟨rfl, rfl⟩
set_option maxRecDepth 100000 in
theorem has128_any (u : UInt8) (w : World) : Calls Try.prog 31 #[.int .u8 (u.toNat : Int), .int .u8 128] w fun e w' => e = .returned (.bool (decide (128 ≤ u.toNat))) ∧ w = w' := by
  have h := and128 u
  have hb := u.toNat_lt
  have e : (((u.toNat / 128 * 128 : Nat) : Int) != 0) = decide (128 ≤ u.toNat) := by
    by_cases c : 128 ≤ u.toNat
    · simp [c]; omega
    · simp [c]; omega
  generalize u.toNat / 128 * 128 = m at *
  generalize hd : decide (128 ≤ u.toNat) = d at *
  clear hd
  go_enter Try.func31, Try.ntmps31
  go_wp2_with fail
  go_ret
  exact ⟨rfl, rfl⟩
set_option maxRecDepth 100000 in
theorem has64_any (u : UInt8) (w : World) : Calls Try.prog 31 #[.int .u8 (u.toNat : Int), .int .u8 64] w fun e w' => e = .returned (.bool (decide (u.toNat / 64 % 2 = 1))) ∧ w = w' := by
  have h := and64 u
  have hb := u.toNat_lt
  have e : (((u.toNat / 64 % 2 * 64 : Nat) : Int) != 0) = decide (u.toNat / 64 % 2 = 1) := by
    by_cases c : u.toNat / 64 % 2 = 1
    · simp [c]
    · simp [c]; omega
  generalize hd : decide (u.toNat / 64 % 2 = 1) = d at *
  clear hd
  generalize u.toNat / 64 % 2 * 64 = m at *
  go_enter Try.func31, Try.ntmps31
  go_wp2_with fail
  go_ret
  exact ⟨rfl, rfl⟩
set_option maxRecDepth 100000 in
theorem marks_any (i h : Bool) (w : World) : Calls Try.prog 37 #[.bool i, .bool h] w fun e w' => e = .returned (.int .u8 (markN i h : Int)) ∧ w = w' := by
  have e1 : bits .or .u8 0 128 = 128 := by decide
  have e2 : bits .or .u8 0 64 = 64 := by decide
  have e3 : bits .or .u8 128 64 = 192 := by decide
  cases i <;> cases h <;>
    (go_enter Try.func37, Try.ntmps37
     go_wp2_with fail
     go_ret
     exact ⟨rfl, rfl⟩)
set_option maxRecDepth 100000 in
theorem rmark_any (n : Nat) (hn : n ≤ 31) (i h : Bool) (w : World) : Calls Try.prog 39 #[.int .i64 (n : Int), .bool i, .bool h] w fun e w' => e = .returned (.int .u8 ((n + markN i h : Nat) : Int)) ∧ w = w' := by
  obtain ⟨m, hm⟩ : ∃ m : Nat, m = n + markN i h := ⟨_, rfl⟩
  have HM := Lib.hid hm
  rw [← hm]
  clear hm
  cases i <;> cases h <;>
    (go_enter Try.func39, Try.ntmps39
     go_wp2_with fail
     go_ret
     refine ⟨?_, rfl⟩
     show Ending.returned (.int .u8 _) = Ending.returned (.int .u8 _)
     have := HM.out
     unfold markN at this
     simp at this
     congr 2
     omega)
variable {w : World} {v : Option Addr} {p gb mb : Nat} {ok : Bool} {G M : List UInt8}
theorem here_is (M : List UInt8) : ∃ x, x = cel M 0 ∧ hereV M = if x < 1536 ∨ 5632 < x then 1536 else x := ⟨_, rfl, rfl⟩
set_option maxRecDepth 100000 in
theorem here_any (h : SM w v p gb mb ok G M) : Calls Try.prog 13 #[.pointer v] w (OutS w v p gb mb ok G M (.int .i64 (hereV M))) := by
  obtain ⟨x, hx, hh⟩ := here_is M
  have C := sget h 0 (by omega) (by omega)
  rw [← hx] at C
  have CH := Lib.hid C
  generalize hereV M = y at *
  clear h C hx
  by_cases c1 : x < 1536
  · rw [if_pos (.inl c1)] at hh
    subst hh
    go_enter Try.func13, Try.ntmps13
    go_wp2_with fail
    refine CH.out.mono ?_
    rintro e w2 ⟨rfl, m2, k2⟩
    have H := Lib.hid (And.intro m2 k2)
    clear m2 k2 CH
    go_wp2_with fail
    go_ret
    exact ⟨rfl, H.out⟩
  by_cases c2 : 5632 < x
  · rw [if_pos (.inr c2)] at hh
    subst hh
    go_enter Try.func13, Try.ntmps13
    go_wp2_with fail
    refine CH.out.mono ?_
    rintro e w2 ⟨rfl, m2, k2⟩
    have H := Lib.hid (And.intro m2 k2)
    clear m2 k2 CH
    go_wp2_with fail
    go_ret
    exact ⟨rfl, H.out⟩
  · rw [if_neg (show ¬ (x < 1536 ∨ 5632 < x) by omega)] at hh
    subst hh
    have d1 : decide (y < 1536) = false := by simpa using c1
    have d2 : decide (5632 < y) = false := by simpa using c2
    clear c1 c2
    go_enter Try.func13, Try.ntmps13
    go_wp2_with fail
    refine CH.out.mono ?_
    rintro e w2 ⟨rfl, m2, k2⟩
    have H := Lib.hid (And.intro m2 k2)
    clear m2 k2 CH
    go_wp2_with fail
    go_ret
    exact ⟨rfl, H.out⟩
set_option maxRecDepth 100000 in
theorem markOf_at (h : MemAt w p gb mb G M) (a : Int) (h0 : -9000 ≤ a) (h1 : a ≤ 9000) : Calls Try.prog 27 #[.pointer (some ⟨p, 0, none⟩), .int .i64 a] w (OutM w p gb mb G M (.int .u8 ((mkV M a).toNat : Int))) := by
  have em : mkV M a = byt M (a + 8) := rfl
  rw [em]
  clear em
  have C := mload_at h (a + 8) 1 (by omega) (by omega)
  have e1 : (clamp 1 8192).toNat = 1 := by decide
  rw [e1] at C
  have CH := Lib.hid C
  clear C h e1
  go_enter Try.func27, Try.ntmps27
  go_wp2_with fail
  refine CH.out.mono ?_
  rintro e w2 ⟨g, rfl, hg, hr, hm, hk⟩
  have hc := hr.cell_ (k := 0) (by rw [loadL_len]; omega)
  rw [getD_loadL _ _ _ _ (by omega), show a + 8 + ((0 : Nat) : Int) = a + 8 by omega] at hc
  have HF : Hid (∀ w', w' = w2 → OutM w p gb mb G M (.int .u8 ((byt M (a + 8)).toNat : Int)) (.returned (.int .u8 ((byt M (a + 8)).toNat : Int))) w') := Lib.hid fun w' x => by subst x; exact ⟨rfl, hm, hk.mono fun _ _ h => Or.inr h⟩
  clear hm hk hr CH
  rw [loadL_len]
  generalize byt M (a + 8) = u at *
  generalize OutM w p gb mb G M (.int .u8 (u.toNat : Int)) = Q at *
  go_wp2_with fail
  exact HF.out _ rfl
end Go.Proofs.Ythmlhjjcihibnaa.Hh
