/-
  Awake2
-/
import Derived.Test.YthmlhjjcihibnaaGDk
import Derived.RegionTactic
namespace Go.Proofs.Ythmlhjjcihibnaa
open Go.RowKit Go.Maps

theorem add_0 (a : Addr) : a.add 0 = a := by cases a; unfold Addr.add; split <;> simp_all
def xa : List UInt8 := 1 :: List.replicate 63 0
def xb : List UInt8 := 2 :: List.replicate 63 0
def f2 : Fate := ⟨2, -1, 0, false⟩
theorem f2_ok : f2.Ok := ⟨by decide, by decide⟩
theorem row_set (zs : List UInt8) (u : UInt8) : ((zs.map B8).toArray).setIfInBounds 0 (B8 u) = ((zs.set 0 u).map B8).toArray := by simp [List.map_set]
theorem setA : zs64.set 0 1 = xa := by decide +kernel
theorem setB : zs64.set 0 2 = xb := by decide +kernel
theorem rowA : ((zs64.map B8).toArray).setIfInBounds 0 (.int .u8 1) = (xa.map B8).toArray := by rw [← setA]; exact row_set zs64 1
theorem rowB : ((zs64.map B8).toArray).setIfInBounds 0 (.int .u8 2) = (xb.map B8).toArray := by rw [← setB]; exact row_set zs64 2
def exD : DSt := (((fresh 4).write 1 xa).write 2 xb).restart f2
theorem len1 : (exD.readAt 1).length = 64 := by decide +kernel
theorem len2 : (exD.readAt 2).length = 64 := by decide +kernel
theorem err1 : exD.readErr 1 = 0 := by decide +kernel
theorem err2 : exD.readErr 2 = 0 := by decide +kernel
theorem at1 : (exD.readAt 1).getD 0 0 = 0 := by decide +kernel
theorem at2 : (exD.readAt 2).getD 0 0 = 2 := by decide +kernel
theorem acts2 : exD.acts = 2 := by decide +kernel
/-- 64 bytes of noughts, as make gives them. -/
theorem make64 (w : World) : (Instr.makeSlice 22 (.int .i64 64) (.int .i64 64)).run Try.prog w = .ok (.slice (some ⟨w.heap.size, 0, none⟩) 64 64) (w.alloc (.cells z64 5)) := by
  have := make8 64 (by omega) w
  have e : madeCells #[.int .u8 0] 64 = z64 := by kernel_rfl
  rw [e] at this
  exact this

end Go.Proofs.Ythmlhjjcihibnaa
