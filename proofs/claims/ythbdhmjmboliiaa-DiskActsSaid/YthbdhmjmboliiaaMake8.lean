/-
  A row of bytes made.
-/
import Derived.Test.YthbdhmjmboliiaaPure
import Derived.Test.YthbdhmjmboliiaaRow
namespace Go.Proofs.Ythbdhmjmboliiaa
open Go.RowKit

theorem Try.info8 : (Try.prog.info? 5).map (fun i => (i.zero, i.size, i.bytes)) = some (some (.int .u8 0), 1, 1) := by kernel_rfl

theorem make8 (n : Nat) (hn : n ≤ 1000000) (w : World) :
    (Instr.makeSlice 30 (.int .i64 (n : Int)) (.int .i64 (n : Int))).run Try.prog w = .ok (.slice (some ⟨w.heap.size, 0, none⟩) n n) (w.alloc (.cells (madeCells #[.int .u8 0] n) 5)) := by
  obtain ⟨i0, hi, hz0, hz1, hz2⟩ := info_parts Try.info8
  exact run_make_row 30 5 i0 (.int .u8 0) Try.underlying30 hi hz0 hz1 rfl .i64 .i64 n (by rw [hz2]; omega) (by omega) w
end Go.Proofs.Ythbdhmjmboliiaa
