/-
  HdO
-/
import Derived.Test.YtceemmnfofjgeaaGreatDoorHd
namespace Go.Proofs.YtceemmnfofjgeaaGreatDoor.Hd
open Go.RowKit Ex Ino Mm Fs
set_option linter.unusedVariables false
set_option linter.unusedSimpArgs false

/-- A result in cells and one in a slot. -/
theorem results_row1t {P : Program} {fn : Func} {p q : Tmp} {ty : TypeId} (h : fn.results = #[.cell p ty, .tmp q]) (tmps : Array Value) (w : World) (g : Nat) (t : TypeId) (cs : Array Value) (fr : Nat × Nat) (d : TypeDesc) (x : Value)
    (hp : tmps.getD p undef = .pointer (some ⟨g, 0, none⟩)) (hx : tmps.getD q undef = x) (hg : w.heap[g]? = some (.cells cs t fr))
    (hu : P.underlying ty = some d) (hd : (match d with | .struct _ | .array _ _ => true | _ => false) = true) (hi : (P.info? ty).map (·.size) = some cs.size) :
    (results fn tmps).run P w = .ok (.tuple #[.agg cs, x]) w := by
  have hp' : tmps[p]?.getD undef = .pointer (some ⟨g, 0, none⟩) := by simpa using hp
  have hx' : tmps[q]?.getD undef = x := by simpa using hx
  simp [results, h, hp', hx', asAddr, run_loadVar_row w g t ty cs fr d hg hu hd hi]
theorem sizeO : (Tryz.prog.info? 108).map (·.size) = some 3 := by kernel_rfl
theorem set_row3 {w : World} {b : Nat} {t : TypeId} {x y z a c d : Value} (h : w.heap[b]? = some (.cells #[x, y, z] t (0, 0))) : (((w.setCell ⟨b, 0, none⟩ a).setCell ⟨b, 1, none⟩ c).setCell ⟨b, 2, none⟩ d).heap[b]? = some (.cells #[a, c, d] t (0, 0)) := by
  exact (setCells_cells (zs := [x, y, z]) (ys := [a, c, d]) h rfl).1
theorem set_keeps3 (F : Nat → Prop) {w : World} {b : Nat} {a c d : Value} (h : F b) : Keeps F w (((w.setCell ⟨b, 0, none⟩ a).setCell ⟨b, 1, none⟩ c).setCell ⟨b, 2, none⟩ d) :=
  ((Keeps.setCell F w ⟨b, 0, none⟩ _ h).trans (Keeps.setCell F _ ⟨b, 1, none⟩ _ h)).trans (Keeps.setCell F _ ⟨b, 2, none⟩ _ h)
def agO (a b c : Int) : Value := .agg #[.int .i64 a, .int .i64 b, .int .i64 c]
variable {w : World} {p gb mb : Nat} {G M : List UInt8}
set_option maxRecDepth 100000 in
set_option maxHeartbeats 1000000 in
theorem opened_yes (h : MemAt w p gb mb G M) (ho : okR (regB M)) (n : Nat) (h1 : 1 ≤ n) (h4 : n ≤ 4) (N sz : Int) (hN : wrap64 (hF M n - 1) = N)
    (hz : fszV (readN (regB M)) N = .tuple #[.int .i64 sz, .int .i64 0]) :
    Calls Tryz.prog 79 #[.pointer (some ⟨p, 0, none⟩), .int .i64 (n : Int)] w (OutM w p gb mb G M (.tuple #[agO N (cntV (hP M n) sz) sz, .bool true])) := by
  have k0 : Keeps (fun k => k = p ∨ k = mb) w (w.alloc (.cells #[.int .i64 0, .int .i64 0, .int .i64 0] 108)) := Keeps.alloc _ _ _
  have h0 : MemAt (w.alloc (.cells #[.int .i64 0, .int .i64 0, .int .i64 0] 108)) p gb mb G M := h.keep (Keeps.alloc (fun _ => False) _ _) (fun f => f) (fun f => f) (fun f => f)
  have LT := Lib.hid h.lt
  have HO := Lib.hid ho
  have TO := Lib.hid (told_any h0 n h1 h4)
  have d1 : decide ((n : Int) < 1) = false := by simp; omega
  have d2 : decide (4 < (n : Int)) = false := by simp; omega
  have HNN := Lib.hid hN
  have HZ := Lib.hid hz
  have K0 := Lib.hid k0
  have HC := Lib.hid (fun a s W => counts_any (hF M n) a s W)
  clear h h0 ho hN hz k0
  generalize hF M n = a1 at *
  generalize hP M n = a2 at *
  go_enter Tryz.func79, Tryz.ntmps79
  go_wp2_with fail
  refine TO.out.mono ?_
  rintro e w1 ⟨rfl, m1, k1⟩
  have b1 : w1.heap[w.heap.size]? = some (.cells #[.int .i64 0, .int .i64 0, .int .i64 0] 108 (0, 0)) := by
    have := LT.out
    rw [k1.block _ (by rw [World.size_alloc]; omega) (by omega)]
    exact heap_alloc_new w _
  have M2 := Lib.hid (m1.keep (Keeps.alloc (fun _ => False) w1 (.cells #[.int .i64 a1, .int .i64 a2] 105)) (fun f => f) (fun f => f) (fun f => f))
  have K1 := Lib.hid k1
  have B1 := Lib.hid b1
  clear m1 k1 b1 TO
  unfold agC
  go_wp2_with fail
  rw [HNN.out]
  have hf := fsize_any (memC_flat M2.out) HO.out N
  rw [HZ.out] at hf
  refine hf.mono ?_
  clear hf
  rintro e w2 ⟨m2, k2, rfl⟩
  have bO : w2.heap[w.heap.size]? = some (.cells #[.int .i64 0, .int .i64 0, .int .i64 0] 108 (0, 0)) := by
    have := LT.out
    have := K1.out.size
    rw [World.size_alloc] at this
    rw [k2.block _ (by rw [World.size_alloc]; omega) (by omega)]
    exact (Below.heap_alloc w1 _ w.heap.size (by omega)).trans B1.out
  have bC : w2.heap[w1.heap.size]? = some (.cells #[.int .i64 a1, .int .i64 a2] 105 (0, 0)) := by
    have := LT.out
    have := K1.out.size
    rw [World.size_alloc] at this
    rw [k2.block _ (by rw [World.size_alloc]; omega) (by omega)]
    exact heap_alloc_new w1 _
  have c0 : w2.cell? ⟨w1.heap.size, 0, none⟩ = some (.int .i64 a1) := by rw [cell_of_row _ _ _ _ _ _ bC]; rfl
  have c1 : w2.cell? ⟨w1.heap.size, 1, none⟩ = some (.int .i64 a2) := by rw [cell_of_row _ _ _ _ _ _ bC]; rfl
  have KK := Lib.hid (K1.out.trans ((Keeps.alloc (fun k => k = p ∨ k = mb) w1 _).trans (k2.mono fun _ _ e => .inr e)))
  have LE2 : Hid (w.heap.size < w2.heap.size) := (Array.getElem?_eq_some_iff.1 bO).1
  have BO := Lib.hid bO
  have M3 := Lib.hid m2
  unfold agC at HC
  clear bO bC k2 m2 M2 B1
  go_wp2_with fail
  refine (HC.out _ _ _).mono ?_
  rintro e w3 ⟨rfl, b3⟩
  have bO : w3.heap[w.heap.size]? = some (.cells #[.int .i64 0, .int .i64 0, .int .i64 0] 108 (0, 0)) := by
    have := LE2.out
    rw [(keeps_below' b3 (F := fun _ => False)).block _ (by omega) (fun f => f)]
    exact BO.out
  generalize cntV a2 sz = pl at *
  have f0 := frozen_of_row w3 w.heap.size 0 _ _ bO
  have f1 := frozen_of_row w3 w.heap.size 1 _ _ bO
  have f2 := frozen_of_row w3 w.heap.size 2 _ _ bO
  have o0 : w3.cell? ⟨w.heap.size, 0, none⟩ = some (.int .i64 0) := by rw [cell_of_row _ _ _ _ _ _ bO]; rfl
  have o1 : w3.cell? ⟨w.heap.size, 1, none⟩ = some (.int .i64 0) := by rw [cell_of_row _ _ _ _ _ _ bO]; rfl
  have o2 : w3.cell? ⟨w.heap.size, 2, none⟩ = some (.int .i64 0) := by rw [cell_of_row _ _ _ _ _ _ bO]; rfl
  have HR := Lib.hid (set_row3 (a := .int .i64 N) (c := .int .i64 pl) (d := .int .i64 sz) bO)
  have HG : Hid (OutM w p gb mb G M (.tuple #[agO N pl sz, .bool true]) (.returned (.tuple #[agO N pl sz, .bool true])) (((w3.setCell ⟨w.heap.size, 0, none⟩ (.int .i64 N)).setCell ⟨w.heap.size, 1, none⟩ (.int .i64 pl)).setCell ⟨w.heap.size, 2, none⟩ (.int .i64 sz))) := by
    have hl := LT.out
    have h2 := LE2.out
    have kk : Keeps (fun j => j = w.heap.size) w2 _ := (keeps_below' b3 (F := fun j => j = w.heap.size)).trans (set_keeps3 (fun j => j = w.heap.size) (a := .int .i64 N) (c := .int .i64 pl) (d := .int .i64 sz) rfl)
    exact ⟨rfl, M3.out.keep kk (by omega) (by omega) (by omega), Keeps.thru (K0.out.trans KK.out) kk (fun _ _ f => f) (fun i hi e => by omega)⟩
  clear b3 KK bO K1 M3 BO
  go_wp2_with fail
  refine bodyPost_ret (v := .tuple #[agO N pl sz, .bool true]) ?_ rfl HG.out
  exact results_row1t rfl _ _ w.heap.size 108 _ (0, 0) _ _ rfl rfl HR.out Tryz.underlying108 rfl sizeO
set_option maxRecDepth 100000 in
set_option maxHeartbeats 1000000 in
theorem opened_no (h : MemAt w p gb mb G M) (ho : okR (regB M)) (n : Nat) (h1 : 1 ≤ n) (h4 : n ≤ 4) (N sz E : Int) (hE : E ≠ 0) (hN : wrap64 (hF M n - 1) = N)
    (hz : fszV (readN (regB M)) N = .tuple #[.int .i64 sz, .int .i64 E]) :
    Calls Tryz.prog 79 #[.pointer (some ⟨p, 0, none⟩), .int .i64 (n : Int)] w (OutM w p gb mb G M (.tuple #[agO 0 0 0, .bool false])) := by
  have k0 : Keeps (fun k => k = p ∨ k = mb) w (w.alloc (.cells #[.int .i64 0, .int .i64 0, .int .i64 0] 108)) := Keeps.alloc _ _ _
  have h0 : MemAt (w.alloc (.cells #[.int .i64 0, .int .i64 0, .int .i64 0] 108)) p gb mb G M := h.keep (Keeps.alloc (fun _ => False) _ _) (fun f => f) (fun f => f) (fun f => f)
  have LT := Lib.hid h.lt
  have HO := Lib.hid ho
  have TO := Lib.hid (told_any h0 n h1 h4)
  have d1 : decide ((n : Int) < 1) = false := by simp; omega
  have d2 : decide (4 < (n : Int)) = false := by simp; omega
  have HNN := Lib.hid hN
  have HZ := Lib.hid hz
  have K0 := Lib.hid k0
  have HC := Lib.hid (fun a s W => counts_any (hF M n) a s W)
  clear h h0 ho hN hz k0
  generalize hF M n = a1 at *
  generalize hP M n = a2 at *
  go_enter Tryz.func79, Tryz.ntmps79
  go_wp2_with fail
  refine TO.out.mono ?_
  rintro e w1 ⟨rfl, m1, k1⟩
  have b1 : w1.heap[w.heap.size]? = some (.cells #[.int .i64 0, .int .i64 0, .int .i64 0] 108 (0, 0)) := by
    have := LT.out
    rw [k1.block _ (by rw [World.size_alloc]; omega) (by omega)]
    exact heap_alloc_new w _
  have M2 := Lib.hid (m1.keep (Keeps.alloc (fun _ => False) w1 (.cells #[.int .i64 a1, .int .i64 a2] 105)) (fun f => f) (fun f => f) (fun f => f))
  have K1 := Lib.hid k1
  have B1 := Lib.hid b1
  clear m1 k1 b1 TO
  unfold agC
  go_wp2_with fail
  rw [HNN.out]
  have hf := fsize_any (memC_flat M2.out) HO.out N
  rw [HZ.out] at hf
  refine hf.mono ?_
  clear hf
  rintro e w2 ⟨m2, k2, rfl⟩
  have bO : w2.heap[w.heap.size]? = some (.cells #[.int .i64 0, .int .i64 0, .int .i64 0] 108 (0, 0)) := by
    have := LT.out
    have := K1.out.size
    rw [World.size_alloc] at this
    rw [k2.block _ (by rw [World.size_alloc]; omega) (by omega)]
    exact (Below.heap_alloc w1 _ w.heap.size (by omega)).trans B1.out
  have dE : (E != 0) = true := by simpa using hE
  have HR := Lib.hid (set_row3 (a := .int .i64 0) (c := .int .i64 0) (d := .int .i64 0) bO)
  have HG : Hid (OutM w p gb mb G M (.tuple #[agO 0 0 0, .bool false]) (.returned (.tuple #[agO 0 0 0, .bool false])) (((w2.setCell ⟨w.heap.size, 0, none⟩ (.int .i64 0)).setCell ⟨w.heap.size, 1, none⟩ (.int .i64 0)).setCell ⟨w.heap.size, 2, none⟩ (.int .i64 0))) := by
    have hl := LT.out
    have kk := set_keeps3 (fun j => j = w.heap.size) (w := w2) (a := .int .i64 0) (c := .int .i64 0) (d := .int .i64 0) rfl
    have KK := K1.out.trans ((Keeps.alloc (fun k => k = p ∨ k = mb) w1 _).trans (k2.mono fun _ _ e => .inr e))
    exact ⟨rfl, m2.keep kk (by omega) (by omega) (by omega), Keeps.thru (K0.out.trans KK) kk (fun _ _ f => f) (fun i hi e => by omega)⟩
  have f0 := frozen_of_row w2 w.heap.size 0 _ _ bO
  have f1 := frozen_of_row w2 w.heap.size 1 _ _ bO
  have f2 := frozen_of_row w2 w.heap.size 2 _ _ bO
  have o0 : w2.cell? ⟨w.heap.size, 0, none⟩ = some (.int .i64 0) := by rw [cell_of_row _ _ _ _ _ _ bO]; rfl
  have o1 : w2.cell? ⟨w.heap.size, 1, none⟩ = some (.int .i64 0) := by rw [cell_of_row _ _ _ _ _ _ bO]; rfl
  have o2 : w2.cell? ⟨w.heap.size, 2, none⟩ = some (.int .i64 0) := by rw [cell_of_row _ _ _ _ _ _ bO]; rfl
  clear bO k2 m2 M2 K1 B1 hE
  go_wp2_with fail
  refine bodyPost_ret (v := .tuple #[agO 0 0 0, .bool false]) ?_ rfl HG.out
  exact results_row1t rfl _ _ w.heap.size 108 _ (0, 0) _ _ rfl rfl HR.out Tryz.underlying108 rfl sizeO
end Go.Proofs.YtceemmnfofjgeaaGreatDoor.Hd
