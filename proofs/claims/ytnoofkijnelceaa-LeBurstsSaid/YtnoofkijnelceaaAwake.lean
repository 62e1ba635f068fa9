/-
  The contract of awake: the chapter's examples come out as the document says.
-/
import Derived.Test.YtnoofkijnelceaaCell
import Derived.Test.YtnoofkijnelceaaCrc
import Derived.Test.YtnoofkijnelceaaMix
import Derived.Test.YtnoofkijnelceaaSame
import Derived.Lib.SlBytesConst
namespace Go.Proofs.Ytnoofkijnelceaa
open Go.RowKit

theorem ex_crc : crcOf [49, 50, 51, 52, 53, 54, 55, 56, 57] = 3421780262 := by decide +kernel
theorem ex_cel : cel [1, 0, 0, 0, 0, 0, 0, 128] 0 = -9223372036854775807 := by decide +kernel
theorem ex_num : num [1, 2] 0 (clamp 2 8).toNat = 513 := by decide +kernel
theorem ex_mix : mixL [97, 98] [99, 100] (clamp 1 2) true = [97, 100] := by decide +kernel

theorem lit9 : (#[.int .u8 49, .int .u8 50, .int .u8 51, .int .u8 52, .int .u8 53, .int .u8 54, .int .u8 55, .int .u8 56, .int .u8 57] : Array Value) = (([49, 50, 51, 52, 53, 54, 55, 56, 57] : List UInt8).map B8).toArray := by simp [B8]
theorem lit8 : (#[.int .u8 1, .int .u8 0, .int .u8 0, .int .u8 0, .int .u8 0, .int .u8 0, .int .u8 0, .int .u8 128] : Array Value) = (([1, 0, 0, 0, 0, 0, 0, 128] : List UInt8).map B8).toArray := by simp [B8]
theorem lit12 : (#[.int .u8 1, .int .u8 2] : Array Value) = (([1, 2] : List UInt8).map B8).toArray := by simp [B8]
theorem litab : (#[.int .u8 97, .int .u8 98] : Array Value) = (([97, 98] : List UInt8).map B8).toArray := by simp [B8]
theorem litcd : (#[.int .u8 99, .int .u8 100] : Array Value) = (([99, 100] : List UInt8).map B8).toArray := by simp [B8]

theorem const_second (w : World) (o : Obj) (C : Array Value) (n c : Nat) :
    (convert 22 22 (.slice (some ⟨w.heap.size + 1, 0, none⟩) n c)).run Try.prog ((w.alloc o).alloc (.cells C 5)) = .ok (.slice (some ⟨w.heap.size + 1, 0, none⟩) n c) ((w.alloc o).alloc (.cells C 5 (C.size, C.size + 1))) := by
  have h := Lib.run_convert_bytes_const (P := Try.prog) (w.alloc o) 22 5 C n c Try.underlying22 Try.underlying5
  rwa [World.size_alloc] at h

set_option maxHeartbeats 400000 in
theorem awake_any (w : World) :
    Calls Try.prog 9 #[] w fun e w' => e = .returned (.bool true) ∧ Below w.heap.size w w' := by
  have kc := fun (w : World) (C : Array Value) (n c : Nat) => Lib.run_convert_bytes_const (P := Try.prog) w 22 5 C n c Try.underlying22 Try.underlying5
  have kc1 := fun (w : World) (o : Obj) (C : Array Value) (n c : Nat) => const_second w o C n c
  go_enter Try.func9, Try.ntmps9
  go_wp2_with fail
  refine (leCrc_any _ [49, 50, 51, 52, 53, 54, 55, 56, 57] _ _ ?h1 (by decide)).mono ?_
  case h1 => exact (BR.new w _ _ _ _ lit9).more (by simp)
  rintro e w1 ⟨rfl, g1⟩
  have b1 : Below w.heap.size w w1 := by rw [← g1]; exact (Below.refl _ _).alloc (Nat.le_refl _) _
  clear g1
  rw [ex_crc]
  go_wp2_with fail
  refine (leCell_any _ [1, 0, 0, 0, 0, 0, 0, 128] _ _ _ ?h2 (by decide) (by decide)).mono ?_
  case h2 => exact (BR.new w1 _ _ _ _ lit8).more (by simp)
  rintro e w2 ⟨rfl, g2⟩
  have b2 : Below w.heap.size w w2 := by rw [← g2]; exact b1.alloc b1.size _
  clear g2
  rw [ex_cel]
  go_wp2_with fail
  refine (leNum_any _ [1, 2] _ _ _ _ ?h3 (by decide) (by decide)).mono ?_
  case h3 => exact (BR.new w2 _ _ _ _ lit12).more (by simp)
  rintro e w3 ⟨rfl, g3⟩
  have b3 : Below w.heap.size w w3 := by rw [← g3]; exact b2.alloc b2.size _
  clear g3
  rw [ex_num]
  go_wp2_with fail
  refine (leMix_any _ [97, 98] _ _ [99, 100] _ _ _ _ ?h4 ?h5 (by decide) (by decide)).mono ?_
  case h4 => exact ((BR.new w3 _ _ _ _ litab).alloc (by simp) _).more (by simp)
  case h5 => exact (BR.new2 w3 _ _ _ _ _ litcd).more (by simp)
  rintro e w4 ⟨R, c, rfl, hr, hb⟩
  have b4 : Below w.heap.size w w4 := ((b3.alloc b3.size _).alloc (by have := b3.size; simp; omega) _).trans (hb.mono (by have := b3.size; simp; omega))
  clear b1 b2 b3 hb kc kc1
  have em : mixL [97, 98] [99, 100] (clamp 1 ([97, 98] : List UInt8).length) true = [97, 100] := ex_mix
  rw [em] at hr ⊢
  clear em
  have cs : (convert 22 9 (.slice R 2 c)).run Try.prog w4 = .ok (.string ⟨#[97, 100]⟩) w4 := run_str (P := Try.prog) w4 _ 22 9 5 R [97, 100] c hr Try.underlying22 Try.underlying5 Try.underlying9
  clear hr
  go_wp2
  go_ret
  exact ⟨rfl, b4⟩
end Go.Proofs.Ytnoofkijnelceaa
