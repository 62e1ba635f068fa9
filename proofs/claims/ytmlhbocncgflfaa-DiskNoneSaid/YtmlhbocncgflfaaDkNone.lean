/-
  The calls on a disk that nobody made.
-/
import Derived.Test.YtmlhbocncgflfaaAwake2
namespace Go.Proofs.Ytmlhbocncgflfaa
open Go.RowKit Go.Maps

/-- A disk that nobody made: nil, or a struct without a map. -/
def NoDk (w : World) (v : Value) : Prop := v = .pointer none ∨ ∃ p, v = .pointer (some ⟨p, 0, none⟩) ∧ p < w.heap.size ∧ w.cell? ⟨p, 2, none⟩ = some (.map none)
theorem NoDk.keep {w w' : World} {v : Value} (h : NoDk w v) (k : Keeps (fun _ => False) w w') : NoDk w' v := by
  rcases h with h | ⟨p, h1, h2, h3⟩
  · exact Or.inl h
  · exact Or.inr ⟨p, h1, Nat.lt_of_lt_of_le h2 k.size, (k.cell p 2 h2 (fun h => h)).trans h3⟩

set_option maxHeartbeats 400000 in
theorem made_no {w : World} {v : Value} (h : NoDk w v) :
    Calls Try.prog 26 #[v] w fun e w' => e = .returned (.bool false) ∧ w = w' := by
  rcases h with rfl | ⟨p, rfl, h2, h3⟩
  · go_enter Try.func26, Try.ntmps26
    go_wp2
    go_ret
    exact ⟨rfl, rfl⟩
  · have hm := fun (w : World) => run_neq_map_nil (P := Try.prog) w 56 3 71 none Try.underlying56
    go_enter Try.func26, Try.ntmps26
    go_wp2
    go_ret
    exact ⟨rfl, rfl⟩
set_option maxHeartbeats 400000 in
theorem len_no {w : World} {v : Value} (h : NoDk w v) :
    Calls Try.prog 11 #[v] w fun e w' => e = .returned (.int .i64 0) ∧ w = w' := by
  go_enter Try.func11, Try.ntmps11
  go_wp2_with (go_at_call 26; refine (made_no h).mono ?_; rintro e w' ⟨rfl, rfl⟩)
  go_ret
  exact ⟨rfl, rfl⟩
set_option maxHeartbeats 400000 in
theorem down_no {w : World} {v : Value} (h : NoDk w v) :
    Calls Try.prog 23 #[v] w fun e w' => e = .returned (.bool true) ∧ w = w' := by
  go_enter Try.func23, Try.ntmps23
  go_wp2_with (go_at_call 26; refine (made_no h).mono ?_; rintro e w' ⟨rfl, rfl⟩)
  go_ret
  exact ⟨rfl, rfl⟩
set_option maxHeartbeats 400000 in
theorem acts_no {w : World} {v : Value} (h : NoDk w v) :
    Calls Try.prog 24 #[v] w fun e w' => e = .returned (.int .i64 0) ∧ w = w' := by
  go_enter Try.func24, Try.ntmps24
  go_wp2_with (go_at_call 26; refine (made_no h).mono ?_; rintro e w' ⟨rfl, rfl⟩)
  go_ret
  exact ⟨rfl, rfl⟩
set_option maxHeartbeats 400000 in
theorem waiting_no {w : World} {v : Value} (h : NoDk w v) :
    Calls Try.prog 21 #[v] w fun e w' => e = .returned (.slice none 0 0) ∧ w = w' := by
  go_enter Try.func21, Try.ntmps21
  go_wp2_with (go_at_call 26; refine (made_no h).mono ?_; rintro e w' ⟨rfl, rfl⟩)
  go_ret
  exact ⟨rfl, rfl⟩
set_option maxHeartbeats 400000 in
theorem arm_no {w : World} {v : Value} (h : NoDk w v) (x : Int) :
    Calls Try.prog 22 #[v, .int .i64 x] w fun e w' => e = .returned (.tuple #[]) ∧ w = w' := by
  go_enter Try.func22, Try.ntmps22
  go_wp2_with (go_at_call 26; refine (made_no h).mono ?_; rintro e w' ⟨rfl, rfl⟩)
  go_end0
  exact ⟨rfl, rfl⟩
set_option maxHeartbeats 400000 in
theorem read_no {w : World} {v : Value} (h : NoDk w v) (x : Int) :
    Calls Try.prog 18 #[v, .int .i64 x] w fun e w' => e = .returned (.tuple #[.slice none 0 0, .int .i64 20]) ∧ w = w' := by
  go_enter Try.func18, Try.ntmps18
  go_wp2_with (go_at_call 23; refine (down_no h).mono ?_; rintro e w' ⟨rfl, rfl⟩)
  go_ret2
  exact ⟨rfl, rfl⟩
set_option maxHeartbeats 400000 in
theorem write_no {w : World} {v : Value} (h : NoDk w v) (x : Int) (A : Option Addr) (n c : Nat) :
    Calls Try.prog 17 #[v, .int .i64 x, .slice A n c] w fun e w' => e = .returned (.int .i64 20) ∧ w = w' := by
  go_enter Try.func17, Try.ntmps17
  go_wp2_with (go_at_call 23; refine (down_no h).mono ?_; rintro e w' ⟨rfl, rfl⟩)
  go_ret
  exact ⟨rfl, rfl⟩
set_option maxHeartbeats 400000 in
theorem flush_no {w : World} {v : Value} (h : NoDk w v) :
    Calls Try.prog 19 #[v] w fun e w' => e = .returned (.int .i64 20) ∧ w = w' := by
  go_enter Try.func19, Try.ntmps19
  go_wp2_with (go_at_call 23; refine (down_no h).mono ?_; rintro e w' ⟨rfl, rfl⟩)
  go_ret
  exact ⟨rfl, rfl⟩
set_option maxHeartbeats 400000 in
theorem restart_no {w : World} {v : Value} (h : NoDk w v) (f : Fate) :
    Calls Try.prog 20 #[v, agf f] w fun e w' => e = .returned (.tuple #[]) ∧ Keeps (fun _ => False) w w' := by
  have h1 := h.keep (w' := w.alloc (.cells (fcells f) 33)) (Keeps.alloc _ _ _)
  go_enter Try.func20, Try.ntmps20
  go_wp2_with (first
    | ((with_reducible refine here (op := .box 33 (.tmp 1)) ?_); refine wpList_box_run rfl 33 _ rfl _ _ rfl (box33 _ _) ?_)
    | (go_at_call 26; refine (made_no h1).mono ?_; rintro e w' ⟨rfl, rfl⟩))
  exact bodyPost_ret (v := .tuple #[]) (by simp [results, Try.results20, go_sem]) rfl ⟨rfl, Keeps.alloc _ _ _⟩
set_option maxHeartbeats 400000 in
theorem bytes_no {w : World} {v : Value} (h : NoDk w v) :
    Calls Try.prog 25 #[v] w fun e w' => e = .returned (.slice (some ⟨w.heap.size, 0, none⟩) 0 0) ∧ Keeps (fun _ => False) w w' := by
  have hmk : ∀ w : World, (Instr.makeSlice 30 (.int .i64 0) (.int .i64 0)).run Try.prog w = .ok (.slice (some ⟨w.heap.size, 0, none⟩) 0 0) (w.alloc (.cells (madeCells #[.int .u8 0] 0) 5)) := make8 0 (by omega)
  have k : Keeps (fun _ => False) w (w.alloc (.cells (madeCells #[.int .u8 0] 0) 5)) := Keeps.alloc _ _ _
  have h1 := h.keep k
  generalize madeCells #[.int .u8 0] 0 = zz at *
  go_enter Try.func25, Try.ntmps25
  go_wp2_with fail
  refine (len_no h).mono ?_
  rintro e w' ⟨rfl, rfl⟩
  go_wp2_with fail
  refine (len_no h1).mono ?_
  rintro e w' ⟨rfl, rfl⟩
  go_wp2_with fail
  go_loopw [11] (fun i wr => i = .int .i64 0 ∧ wr = w.alloc (.cells zz 5)) (fun _ _ => 0)
  case atStart => exact ⟨rfl, rfl⟩
  case round =>
    obtain ⟨rfl, rfl⟩ := hrel
    go_wp2
    go_ret
    exact ⟨rfl, k⟩
end Go.Proofs.Ytmlhbocncgflfaa
