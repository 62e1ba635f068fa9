/-
  Wd
-/
import Derived.Test.YtipolhocplidlaaRows
import Derived.Test.YtipolhocplidlaaGA
import Derived.Test.YtipolhocplidlaaGT
import Derived.Laws.Externs
import Derived.WalkLawsBesides
import Derived.BigQuiet
import Derived.Lib.Hide
namespace Go.Proofs.Ytipolhocplidlaa.Wd
set_option linter.unusedSimpArgs false
set_option linter.unusedVariables false
open Go.RowKit

/-- A number of 128 bits as a value. -/
abbrev pw (h l : Int) : Value := .agg #[.int .u64 h, .int .u64 l]
/-- Block g is that number. -/
def PB (w : World) (g : Nat) (h l : Int) : Prop := w.heap[g]? = some (.cells #[.int .u64 h, .int .u64 l] 24 (0, 0))
/-- A half. -/
def half (h : Int) : Prop := 0 ≤ h ∧ h < 18446744073709551616
section
variable {w w' : World} {g B : Nat} {h l x : Int}
theorem PB.lt (p : PB w g h l) : g < w.heap.size := (Array.getElem?_eq_some_iff.1 p).1
theorem PB.c0 (p : PB w g h l) : w.cell? ⟨g, 0, none⟩ = some (.int .u64 h) := by rw [cell_of_row _ _ _ _ _ _ p]; rfl
theorem PB.c1 (p : PB w g h l) : w.cell? ⟨g, 1, none⟩ = some (.int .u64 l) := by rw [cell_of_row _ _ _ _ _ _ p]; rfl
theorem PB.f (p : PB w g h l) (k : Nat) : w.frozen? ⟨g, k, none⟩ = false := frozen_of_row w g k _ _ p
theorem PB.below (p : PB w g h l) (b : Below B w w') (hg : g < B) : PB w' g h l := (b.block g hg).trans p
theorem PB.new (w : World) (h l : Int) : PB (w.alloc (.cells #[.int .u64 h, .int .u64 l] 24)) w.heap.size h l := heap_alloc_new w _
theorem PB.set0 (p : PB w g h l) (x : Int) : PB (w.setCell ⟨g, 0, none⟩ (.int .u64 x)) g x l := by
  unfold PB
  rw [heap_setCell_same w g 0 _ _ _ p]
  rfl
theorem PB.set1 (p : PB w g h l) (x : Int) : PB (w.setCell ⟨g, 1, none⟩ (.int .u64 x)) g h x := by
  unfold PB
  rw [heap_setCell_same w g 1 _ _ _ p]
  rfl
theorem PB.other (p : PB w g h l) {b k : Nat} {v : Value} (hb : g ≠ b) : PB (w.setCell ⟨b, k, none⟩ v) g h l := (Below.heap_setCell _ _ _ _ hb).trans p
theorem PB.alloc (p : PB w g h l) (o : Obj) : PB (w.alloc o) g h l := (Below.heap_alloc _ _ _ p.lt).trans p
end
/-- The call hands back the number n, and has written nothing that was there. -/
def GivesW (w : World) (n : Int) (e : Ending) (w' : World) : Prop :=
  ∃ h l : Int, e = .returned (pw h l) ∧ half h ∧ half l ∧ h * 18446744073709551616 + l = n ∧ Below w.heap.size w w'
theorem GivesW.of {w w' : World} {n h l : Int} (hh : half h) (hl : half l) (e : h * 18446744073709551616 + l = n) (b : Below w.heap.size w w') : GivesW w n (.returned (pw h l)) w' := ⟨h, l, rfl, hh, hl, e, b⟩

theorem Try.sizeW : (Try.prog.info? 24).map (·.size) = some 2 := by kernel_rfl
theorem PB.at_ (w : World) {n : Nat} (hn : n = w.heap.size) (h l : Int) : PB (w.alloc (.cells #[.int .u64 h, .int .u64 l] 24)) n h l := by subst hn; exact PB.new _ _ _
theorem ret_w {fn : Func} {p : Tmp} {a : Act} {w0 w : World} {g : Nat} {x y n : Int} (h : fn.results = #[.cell p 24]) (hp : a.tmps.getD p undef = .pointer (some ⟨g, 0, none⟩)) (hd : a.defers = [])
    (pb : PB w g x y) (hx : half x) (hy : half y) (e : x * 18446744073709551616 + y = n) (b : Below w0.heap.size w0 w) : bodyPost Try.prog fn (GivesW w0 n) .ret a w :=
  bodyPost_ret (results_cell_row h _ _ g 24 _ (0, 0) _ hp pb Try.underlying24 rfl Try.sizeW) hd (GivesW.of hx hy e b)
theorem Below.al (w : World) (o : Obj) : Below w.heap.size w (w.alloc o) := (Below.refl _ _).alloc (Nat.le_refl _) _

set_option maxRecDepth 100000 in
set_option maxHeartbeats 400000 in
theorem of_any (n : Int) (h0 : -9223372036854775808 ≤ n) (h1 : n < 9223372036854775808) (w : World) :
    Calls Try.prog 15 #[.int .i64 n] w (GivesW w (n % 340282366920938463463374607431768211456)) := by
  go_enter Try.func15, Try.ntmps15
  go_wp2_with fail
  refine ret_w rfl rfl rfl (PB.new _ _ _) ?_ ?_ ?_ (Below.al _ _)
  all_goals ((try unfold half); (try simp only [IntKind.wrap_u64]); omega)
set_option maxRecDepth 100000 in
set_option maxHeartbeats 400000 in
theorem rof_any (n : Int) (h0 : -9223372036854775808 ≤ n) (h1 : n < 9223372036854775808) (w : World) :
    Calls Try.prog 16 #[.int .i64 n] w (GivesW w (n % 340282366920938463463374607431768211456)) := by
  go_enter Try.func16, Try.ntmps16
  go_wp2_with fail
  all_goals (refine ret_w rfl rfl rfl (PB.alloc (PB.new _ _ _) _) ?_ ?_ ?_ ((Below.al _ _).alloc (by simp only [World.size_alloc]; omega) _))
  all_goals ((try unfold half); (try simp only [IntKind.wrap_u64]); omega)
theorem add64_run (x y c : Int) (hx : half x) (hy : half y) (hc : 0 ≤ c ∧ c ≤ 1) (w : World) :
    (callFunc 29 #[.int .u64 x, .int .u64 y, .int .u64 c]).run Try.prog w =
      .ok (.value (.tuple #[.int .u64 ((x + y + c) % 18446744073709551616), .int .u64 ((x + y + c) / 18446744073709551616)])) w := by
  rw [run_callFunc_extern Try.func29 (by kernel_rfl) (by kernel_rfl) (by kernel_rfl) (e := add64Entry) (by kernel_rfl), run_add64 x y c hx.1 hy.1 hc.1 hc.2]
  rfl
set_option maxRecDepth 100000 in
set_option maxHeartbeats 400000 in
theorem add_any (a b c d : Int) (ha : half a) (hb : half b) (hc : half c) (hd : half d) (w : World) :
    Calls Try.prog 11 #[pw a b, pw c d] w (GivesW w ((a * 18446744073709551616 + b + (c * 18446744073709551616 + d)) % 340282366920938463463374607431768211456)) := by
  have A1 := fun w => add64_run b d 0 hb hd (by decide) w
  have A2 := fun w => add64_run a c ((b + d) / 18446744073709551616) ha hc (by unfold half at *; omega) w
  rw [show b + d + 0 = b + d from by omega] at A1
  go_enter Try.func11, Try.ntmps11
  go_wp2_with fail
  refine ret_w rfl rfl rfl (PB.at_ _ (by simp) _ _) ?_ ?_ ?_ (((Below.al _ _).alloc (by simp only [World.size_alloc]; omega) _).alloc (by simp only [World.size_alloc]; omega) _)
  all_goals (unfold half at *; (try simp only [IntKind.wrap_u64] at *); omega)
set_option maxRecDepth 100000 in
set_option maxHeartbeats 400000 in
theorem radd_any (a b c d : Int) (ha : half a) (hb : half b) (hc : half c) (hd : half d) (w : World) :
    Calls Try.prog 12 #[pw a b, pw c d] w (GivesW w ((a * 18446744073709551616 + b + (c * 18446744073709551616 + d)) % 340282366920938463463374607431768211456)) := by
  go_enter Try.func12, Try.ntmps12
  go_wp2_with fail
  all_goals (refine ret_w rfl rfl rfl (PB.alloc (PB.at_ _ (by simp) _ _) _) ?_ ?_ ?_ ((((Below.al _ _).alloc (by simp only [World.size_alloc]; omega) _).alloc (by simp only [World.size_alloc]; omega) _).alloc (by simp only [World.size_alloc]; omega) _))
  all_goals (unfold half at *; (try simp only [IntKind.wrap_u64] at *); omega)
end Go.Proofs.Ytipolhocplidlaa.Wd
