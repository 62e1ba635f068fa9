/-
  Hd
-/
import Derived.Test.YtceemmnfofjgeaaGreatDoorGFk
import Derived.Test.YtceemmnfofjgeaaGreatDoorGFh
namespace Go.Proofs.YtceemmnfofjgeaaGreatDoor.Hd
open Go.RowKit Ex Ino Mm Fs
set_option linter.unusedVariables false
set_option linter.unusedSimpArgs false

/-- Where a handle's cells stand. -/
def hA (h : Nat) : Int := 64 + 16 * ((h : Int) - 1)
set_option maxRecDepth 100000 in
theorem hat_any (h : Nat) (h1 : 1 ≤ h) (h4 : h ≤ 4) (w : World) : Calls Tryz.prog 131 #[.int .i64 (h : Int)] w fun e w' => e = .returned (.int .i64 (hA h)) ∧ w' = w := by
  have hv : hA h = 64 + 16 * ((h : Int) - 1) := rfl
  have HV := Lib.hid hv
  clear hv
  go_enter Tryz.func131, Tryz.ntmps131
  go_wp2_with fail
  go_ret
  refine ⟨?_, rfl⟩
  rw [HV.out]
  rfl
/-- One result, which lies in cells. -/
theorem results_row1 {P : Program} {fn : Func} {p : Tmp} {ty : TypeId} (h : fn.results = #[.cell p ty]) (tmps : Array Value) (w : World) (g : Nat) (t : TypeId) (cs : Array Value) (fr : Nat × Nat) (d : TypeDesc)
    (hp : tmps.getD p undef = .pointer (some ⟨g, 0, none⟩)) (hg : w.heap[g]? = some (.cells cs t fr))
    (hu : P.underlying ty = some d) (hd : (match d with | .struct _ | .array _ _ => true | _ => false) = true) (hi : (P.info? ty).map (·.size) = some cs.size) :
    (results fn tmps).run P w = .ok (.agg cs) w := by
  have hp' : tmps[p]?.getD undef = .pointer (some ⟨g, 0, none⟩) := by simpa using hp
  simp [results, h, hp', asAddr, run_loadVar_row w g t ty cs fr d hg hu hd hi]
theorem set_row2 {w : World} {b : Nat} {t : TypeId} {x y a c : Value} (h : w.heap[b]? = some (.cells #[x, y] t (0, 0))) : ((w.setCell ⟨b, 0, none⟩ a).setCell ⟨b, 1, none⟩ c).heap[b]? = some (.cells #[a, c] t (0, 0)) := by
  exact (setCells_cells (zs := [x, y]) (ys := [a, c]) h rfl).1
theorem sizeC : (Tryz.prog.info? 105).map (·.size) = some 2 := by kernel_rfl
variable {w : World} {p gb mb : Nat} {G M : List UInt8}
def agC (a b : Int) : Value := .agg #[.int .i64 a, .int .i64 b]
def hF (M : List UInt8) (h : Nat) : Int := cel M (hA h)
def hP (M : List UInt8) (h : Nat) : Int := cel M (hA h + 8)
set_option maxRecDepth 100000 in
set_option maxHeartbeats 1000000 in
theorem told_any (h : MemAt w p gb mb G M) (n : Nat) (h1 : 1 ≤ n) (h4 : n ≤ 4) : Calls Tryz.prog 127 #[.pointer (some ⟨p, 0, none⟩), .int .i64 (n : Int)] w (OutM w p gb mb G M (agC (hF M n) (hP M n))) := by
  unfold hF hP
  have hlt : 64 ≤ hA n ∧ hA n ≤ 112 := by unfold hA; omega
  have HAT := Lib.hid (fun W => hat_any n h1 h4 W)
  have k0 : Keeps (fun _ => False) w (w.alloc (.cells #[.int .i64 0, .int .i64 0] 105)) := Keeps.alloc _ _ _
  have H0 := Lib.hid (h.keep k0 (fun f => f) (fun f => f) (fun f => f))
  have K0 := Lib.hid k0
  have LT := Lib.hid h.lt
  clear h k0
  generalize hA n = an at *
  go_enter Tryz.func127, Tryz.ntmps127
  go_wp2_with fail
  refine (HAT.out _).mono ?_
  rintro e w1 ⟨rfl, rfl⟩
  go_wp2_with fail
  refine (mget_at H0.out an (by omega) (by omega)).mono ?_
  rintro e w2 ⟨rfl, h2, k2⟩
  have H2 := Lib.hid h2
  have K2 := Lib.hid k2
  clear h2 k2
  go_wp2_with fail
  refine (HAT.out _).mono ?_
  rintro e w3 ⟨rfl, rfl⟩
  go_wp2_with fail
  refine (mget_at H2.out (an + 8) (by omega) (by omega)).mono ?_
  rintro e w3 ⟨rfl, h3, k3⟩
  have kk := K2.out.trans k3
  have hb : w3.heap[w.heap.size]? = some (.cells #[.int .i64 0, .int .i64 0] 105 (0, 0)) := by
    rw [kk.block _ (by rw [World.size_alloc]; omega) (fun e => by have := LT.out; omega)]
    exact heap_alloc_new w _
  have c0 : w3.cell? ⟨w.heap.size, 0, none⟩ = some (.int .i64 0) := by rw [cell_of_row _ _ _ _ _ _ hb]; rfl
  have c1 : w3.cell? ⟨w.heap.size, 1, none⟩ = some (.int .i64 0) := by rw [cell_of_row _ _ _ _ _ _ hb]; rfl
  have f0 := frozen_of_row w3 w.heap.size 0 _ _ hb
  have f1 := frozen_of_row w3 w.heap.size 1 _ _ hb
  have H3 := Lib.hid h3
  have KK := Lib.hid ((K0.out.mono fun _ _ f => f.elim).trans kk)
  have HR := Lib.hid (set_row2 (a := .int .i64 (cel M an)) (c := .int .i64 (cel M (an + 8))) hb)
  have HO : Hid (OutM w p gb mb G M (agC (cel M an) (cel M (an + 8))) (.returned (agC (cel M an) (cel M (an + 8)))) ((w3.setCell ⟨w.heap.size, 0, none⟩ (.int .i64 (cel M an))).setCell ⟨w.heap.size, 1, none⟩ (.int .i64 (cel M (an + 8))))) := by
    have hl := LT.out
    have hlt3 := (Array.getElem?_eq_some_iff.1 hb).1
    have ks : Keeps (fun j => j = w.heap.size) w3 ((w3.setCell ⟨w.heap.size, 0, none⟩ (.int .i64 (cel M an))).setCell ⟨w.heap.size, 1, none⟩ (.int .i64 (cel M (an + 8)))) := Keeps.trans (Keeps.setCell (fun j => j = w.heap.size) w3 ⟨w.heap.size, 0, none⟩ _ rfl) (Keeps.setCell (fun j => j = w.heap.size) _ ⟨w.heap.size, 1, none⟩ _ rfl)
    exact ⟨rfl, H3.out.keep ks (by omega) (by omega) (by omega), Keeps.thru KK.out ks (fun _ _ f => f) (fun i hi e => by omega)⟩
  clear h3 k3 kk hb K2 H2
  go_wp2_with fail
  refine bodyPost_ret (v := agC (cel M an) (cel M (an + 8))) ?_ rfl HO.out
  exact results_row1 rfl _ _ w.heap.size 105 _ (0, 0) _ rfl HR.out Tryz.underlying105 rfl sizeC
/-- A place, as it counts. -/
def cntV (a size : Int) : Int := if a < 0 ∨ size < a then size else a
set_option maxRecDepth 100000 in
set_option maxHeartbeats 400000 in
theorem counts_any (a b size : Int) (w : World) : Calls Tryz.prog 132 #[agC a b, .int .i64 size] w (Gives w (.int .i64 (cntV b size))) := by
  have hb : Below w.heap.size w (w.alloc (.cells #[.int .i64 a, .int .i64 b] 105)) := (Below.refl _ _).alloc (Nat.le_refl _) _
  have c1 : (w.alloc (.cells #[.int .i64 a, .int .i64 b] 105)).cell? ⟨w.heap.size, 1, none⟩ = some (.int .i64 b) := by rw [cell_of_row _ _ _ _ _ _ (heap_alloc_new w _)]; rfl
  have HB := Lib.hid hb
  clear hb
  unfold agC
  by_cases h1 : b < 0
  · have hv : cntV b size = size := by unfold cntV; rw [if_pos (.inl h1)]
    rw [hv]
    have d1 : decide (b < 0) = true := by simpa using h1
    clear hv h1
    go_enter Tryz.func132, Tryz.ntmps132
    go_wp2_with fail
    go_ret
    exact ⟨rfl, HB.out⟩
  · have d1 : decide (b < 0) = false := by simpa using h1
    by_cases h2 : size < b
    · have hv : cntV b size = size := by unfold cntV; rw [if_pos (.inr h2)]
      rw [hv]
      have d2 : decide (size < b) = true := by simpa using h2
      clear hv h1 h2
      go_enter Tryz.func132, Tryz.ntmps132
      go_wp2_with fail
      go_ret
      exact ⟨rfl, HB.out⟩
    · have hv : cntV b size = b := by unfold cntV; rw [if_neg (by omega)]
      rw [hv]
      have d2 : decide (size < b) = false := by simpa using h2
      clear hv h1 h2
      go_enter Tryz.func132, Tryz.ntmps132
      go_wp2_with fail
      go_ret
      exact ⟨rfl, HB.out⟩
end Go.Proofs.YtceemmnfofjgeaaGreatDoor.Hd
