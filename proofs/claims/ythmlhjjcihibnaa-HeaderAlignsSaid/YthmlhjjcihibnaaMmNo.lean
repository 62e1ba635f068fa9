/-
  MmNo
-/
import Derived.Test.YthmlhjjcihibnaaMmCalls
namespace Go.Proofs.Ythmlhjjcihibnaa.Mm
open Go.RowKit Go.Maps
set_option linter.unusedVariables false

def noCells : Array Value := (.pointer none :: .slice none 0 0 :: .map none :: List.replicate 128 (.bool false) : List Value).toArray
/-- Nobody's memory. -/
def NoM (w : World) (v : Option Addr) : Prop := v = none ∨ ∃ p, v = some ⟨p, 0, none⟩ ∧ w.heap[p]? = some (.cells noCells 57 (0, 0))
theorem NoM.keep {w w' : World} {v : Option Addr} {F : Nat → Prop} (h : NoM w v) (k : Keeps F w w') (hF : ∀ i, i < w.heap.size → ¬ F i) : NoM w' v := by
  rcases h with rfl | ⟨p, rfl, hp⟩
  · exact Or.inl rfl
  · have hlt := (Array.getElem?_eq_some_iff.1 hp).1
    exact Or.inr ⟨p, rfl, (k.block p hlt (hF p hlt)).trans hp⟩

variable {w : World} {v : Option Addr}
set_option maxRecDepth 100000 in
set_option maxHeartbeats 400000 in
theorem made_no (h : NoM w v) : Calls Try.prog 41 #[.pointer v] w fun e w' => e = .returned (.bool false) ∧ w = w' := by
  rcases h with rfl | ⟨p, rfl, hp⟩
  · go_enter Try.func41, Try.ntmps41
    go_wp2_with fail
    go_ret
    exact ⟨rfl, rfl⟩
  · have c2 : w.cell? ⟨p, 2, none⟩ = some (.map none) := by rw [cell_of_row _ _ _ _ _ _ hp]; rfl
    clear hp
    have hnm := fun (w : World) => run_neq_map_nil (P := Try.prog) w 54 3 72 none Try.underlying54
    go_enter Try.func41, Try.ntmps41
    go_wp2_with fail
    go_ret
    exact ⟨rfl, rfl⟩
set_option maxRecDepth 100000 in
set_option maxHeartbeats 400000 in
theorem lay_no (h : NoM w v) (a : Int) (A : Option Addr) (n c : Nat) : Calls Try.prog 23 #[.pointer v, .int .i64 a, .slice A n c] w fun e w' => e = .returned (.tuple #[]) ∧ w = w' := by
  go_enter Try.func23, Try.ntmps23
  go_wp2_with fail
  refine (made_no h).mono ?_
  rintro e w2 ⟨rfl, rfl⟩
  go_wp2_with fail
  exact bodyPost_ret (results_none rfl _ _ _) rfl ⟨rfl, rfl⟩
set_option maxRecDepth 100000 in
set_option maxHeartbeats 400000 in
theorem set_no (h : NoM w v) (a n : Int) : Calls Try.prog 24 #[.pointer v, .int .i64 a, .int .i64 n] w fun e w' => e = .returned (.tuple #[]) ∧ Keeps (fun _ => False) w w' := by
  have hmk : ∀ w : World, (Instr.makeSlice 22 (.int .i64 8) (.int .i64 8)).run Try.prog w = .ok (.slice (some ⟨w.heap.size, 0, none⟩) 8 8) (w.alloc (.cells (madeCells #[.int .u8 0] 8) 5)) := make8 8 (by omega)
  have k1 : Keeps (fun _ => False) w (w.alloc (.cells (madeCells #[.int .u8 0] 8) 5)) := Keeps.alloc _ _ _
  have h1 := h.keep k1 (fun _ _ h => h)
  have r1 := Row8.made w 8 5
  clear h
  go_enter Try.func24, Try.ntmps24
  go_wp2_with fail
  generalize w.alloc (.cells (madeCells #[.int .u8 0] 8) 5) = w1 at *
  refine (lePutCell_new (some ⟨w.heap.size, 0, none⟩) (List.replicate 8 0) 8 0 n w1 r1.br (by simp) (by omega)).mono ?_
  rintro e w2 ⟨g, c, rfl, hg, hg', hr, hb, hc⟩
  have k2 : Keeps (fun _ => False) w1 w2 := Keeps.below hb _ fun k h1 h2 => by omega
  have h2 := h1.keep k2 (fun _ _ h => h)
  have K := Lib.hid (k1.trans k2)
  clear k1 k2 h1 r1 hr hb
  go_wp2_with fail
  refine (lay_no h2 a _ _ _).mono ?_
  rintro e w3 ⟨rfl, rfl⟩
  go_wp2_with fail
  all_goals
    go_end0
    exact ⟨rfl, K.out⟩
/-- Load's noughts. -/
def GivesZ (w : World) (c : Nat) (e : Ending) (w' : World) : Prop := ∃ g, e = .returned (.slice (some ⟨g, 0, none⟩) c c) ∧ Row8 w' g 5 (List.replicate c 0) ∧ Keeps (fun _ => False) w w'
set_option maxRecDepth 100000 in
set_option maxHeartbeats 400000 in
theorem load_no (h : NoM w v) (a n : Int) : Calls Try.prog 30 #[.pointer v, .int .i64 a, .int .i64 n] w (GivesZ w (clamp n 8192).toNat) := by
  have hr := clamp_range n 8192 (by omega)
  generalize hm : clamp n 8192 = m at *
  unfold clamp at hm
  obtain ⟨c, rfl⟩ := Int.eq_ofNat_of_zero_le hr.1
  rw [Int.toNat_natCast]
  have hmk := make8 c (by omega)
  have k1 : Keeps (fun _ => False) w (w.alloc (.cells (madeCells #[.int .u8 0] c) 5)) := Keeps.alloc _ _ _
  have h1 := h.keep k1 (fun _ _ h => h)
  have r1 := Row8.made w c 5
  clear h
  go_enter Try.func30, Try.ntmps30
  go_wp2_with fail
  all_goals
    clear hm hmk
    generalize w.alloc (.cells (madeCells #[.int .u8 0] c) 5) = w1 at *
    refine (made_no h1).mono ?_
    rintro e w2 ⟨rfl, rfl⟩
    go_wp2_with fail
    go_ret
    exact ⟨w.heap.size, rfl, r1, k1⟩
theorem cel_zero : cel (List.replicate 8 0) 0 = 0 := by kernel_rfl
set_option maxRecDepth 100000 in
set_option maxHeartbeats 400000 in
theorem get_no (h : NoM w v) (a : Int) : Calls Try.prog 29 #[.pointer v, .int .i64 a] w fun e w' => e = .returned (.int .i64 0) ∧ Keeps (fun _ => False) w w' := by
  go_enter Try.func29, Try.ntmps29
  go_wp2_with fail
  refine (load_no h a 8).mono ?_
  rintro e w2 ⟨g, rfl, hr, hk⟩
  have e8 : (clamp 8 8192).toNat = 8 := by decide
  rw [e8] at hr ⊢
  have K := Lib.hid hk
  have C := leCell_any (some ⟨g, 0, none⟩) (List.replicate 8 0) 8 0 w2 hr.br (by simp) (by omega)
  rw [cel_zero] at C
  have CC := Lib.hid C
  clear hk e8 C
  go_wp2_with fail
  refine CC.out.mono ?_
  rintro e w3 ⟨rfl, rfl⟩
  go_wp2_with fail
  go_ret
  exact ⟨rfl, K.out⟩
set_option maxRecDepth 100000 in
set_option maxHeartbeats 400000 in
theorem bytes_no (h : NoM w v) : Calls Try.prog 22 #[.pointer v] w (GivesZ w 8192) := by
  go_enter Try.func22, Try.ntmps22
  go_wp2_with fail
  refine (load_no h 0 8192).mono ?_
  rintro e w2 ⟨g, rfl, hr, hk⟩
  have e8 : (clamp 8192 8192).toNat = 8192 := by decide
  rw [e8] at hr ⊢
  have R := Lib.hid hr
  have K := Lib.hid hk
  clear hr hk e8
  go_wp2_with fail
  go_ret
  exact ⟨g, rfl, R.out, K.out⟩
/-! ### a store that there isn't -/
set_option maxRecDepth 100000 in
set_option maxHeartbeats 400000 in
theorem smade_nil (w : World) : Calls Try.prog 59 #[.pointer none] w fun e w' => e = .returned (.bool false) ∧ w = w' := by
  go_enter Try.func59, Try.ntmps59
  go_wp2_with fail
  go_ret
  exact ⟨rfl, rfl⟩
set_option maxRecDepth 100000 in
set_option maxHeartbeats 400000 in
theorem sfault_nil (w : World) : Calls Try.prog 57 #[.pointer none] w fun e w' => e = .returned (.int .i64 3) ∧ w = w' := by
  go_enter Try.func57, Try.ntmps57
  go_wp2_with fail
  refine (smade_nil _).mono ?_
  rintro e w2 ⟨rfl, rfl⟩
  go_wp2_with fail
  go_ret
  exact ⟨rfl, rfl⟩
set_option maxRecDepth 100000 in
set_option maxHeartbeats 400000 in
theorem sread_nil (n : Int) (w : World) : Calls Try.prog 55 #[.pointer none, .int .i64 n] w fun e w' => e = .returned (.tuple #[.slice none 0 0, .int .i64 3]) ∧ w = w' := by
  go_enter Try.func55, Try.ntmps55
  go_wp2_with fail
  refine (sfault_nil _).mono ?_
  rintro e w2 ⟨rfl, rfl⟩
  go_wp2_with fail
  go_ret2
  exact ⟨rfl, rfl⟩
end Go.Proofs.Ythmlhjjcihibnaa.Mm
