/-
  HdWr
-/
import Derived.Test.YtceemmnfofjgeaaGreatDoorHdS
namespace Go.Proofs.YtceemmnfofjgeaaGreatDoor.Hd
open Go.RowKit Ex Ino Mm Fs
set_option linter.unusedVariables false
set_option linter.unusedSimpArgs false

variable {w : World} {p gb mb : Nat} {G M : List UInt8}
/-- The memory behind a write that comes to rv. -/
def wrM (M : List UInt8) (n : Nat) (N pl : Int) (k : Nat) (rv : Int × RG) : List UInt8 := if rv.1 = 0 then layH (layL M 6144 (bytesL rv.2)) n (N + 1) (pl + (k : Int)) else M
def HwR (w : World) (p gb mb : Nat) (G M' : List UInt8) (E0 : Int) (E : Int) (W' : World) : Prop := E = E0 ∧ MemAt W' p gb mb G M' ∧ Keeps (fun j => j = p ∨ j = mb) w W'
set_option maxRecDepth 100000 in
set_option maxHeartbeats 2000000 in
theorem hwrite1_any (h : MemAt w p gb mb G M) (ho : okR (regB M)) (hT : Tab w) (hmb : mb ≠ 0) (n : Nat) (h1 : 1 ≤ n) (h4 : n ≤ 4) (N pl sz : Int) (hN : 0 ≤ N ∧ N ≤ 8) (hpl : 0 ≤ pl ∧ pl ≤ 1000000)
    {A : Option Addr} {b : List UInt8} (cb : Nat) (hb : BR w w.heap.size A b) (hbl : b.length ≤ 140737488355328) (hA : b ≠ [] → ∀ ad, A = some ad → ad.block ≠ mb) {q1 q2 q3 : Nat}
    (x1 : Boxed w q1 25 (.pointer (some ⟨p, 0, none⟩))) (x2 : Boxed w q2 31 (.slice A b.length cb)) (x3 : Boxed w q3 3 (.int .i64 (n : Int)))
    (e1 : q1 ≠ p ∧ q1 ≠ mb) (e2 : q2 ≠ p ∧ q2 ≠ mb) (e3 : q3 ≠ p ∧ q3 ≠ mb) :
    Calls Tryz.prog 75 #[agO N pl sz, .pointer (some ⟨q1, 0, none⟩), .pointer (some ⟨q2, 0, none⟩), .pointer (some ⟨q3, 0, none⟩)] w
      (RetE (HwR w p gb mb G (wrM M n N pl b.length (writeV ⟨regB M, readN (regB M)⟩ N pl b)) (writeV ⟨regB M, readN (regB M)⟩ N pl b).1)) := by
  have c1 := (x1.alloc (.cells #[.int .i64 N, .int .i64 pl, .int .i64 sz] 108)).cell
  have c2 := (x2.alloc (.cells #[.int .i64 N, .int .i64 pl, .int .i64 sz] 108)).cell
  have c3 := (x3.alloc (.cells #[.int .i64 N, .int .i64 pl, .int .i64 sz] 108)).cell
  have k0 : Keeps (fun _ => False) w (w.alloc (.cells #[.int .i64 N, .int .i64 pl, .int .i64 sz] 108)) := Keeps.alloc _ _ _
  have K0 : Hid (Keeps (fun j => j = p ∨ j = mb) w (w.alloc (.cells #[.int .i64 N, .int .i64 pl, .int .i64 sz] 108))) := Keeps.alloc _ _ _
  have HW := Lib.hid (fwrite_any (h.keep k0 (fun f => f) (fun f => f) (fun f => f)) ho (hT.keep (k0.block 0 hT.pos (fun f => f))) hmb N pl (by omega) cb (br_keep hb k0 fun _ _ _ f => f) hbl hA)
  have LT := Lib.hid h.lt
  have HX := Lib.hid (And.intro x1 (And.intro x2 x3))
  have HE := Lib.hid (And.intro e1 (And.intro e2 e3))
  clear h ho hT hb hA k0 x1 x2 x3 e1 e2 e3
  generalize writeV ⟨regB M, readN (regB M)⟩ N pl b = rv at *
  obtain ⟨E, g2⟩ := rv
  generalize hk : b.length = k at *
  unfold agO
  go_enter Tryz.func75, Tryz.ntmps75
  go_wp2_with fail
  refine HW.out.mono ?_
  rintro e w2 ⟨rfl, m2, k2⟩
  simp only at m2 ⊢
  have hl := LT.out
  have hx := HX.out
  have he := HE.out
  have b1 : Boxed w2 q1 25 (.pointer (some ⟨p, 0, none⟩)) := (k2.block _ (hx.1.alloc _).lt (by omega)).trans (hx.1.alloc _)
  have b2 : Boxed w2 q2 31 (.slice A k cb) := (k2.block _ (hx.2.1.alloc _).lt (by omega)).trans (hx.2.1.alloc _)
  have b3 : Boxed w2 q3 3 (.int .i64 (n : Int)) := (k2.block _ (hx.2.2.alloc _).lt (by omega)).trans (hx.2.2.alloc _)
  have b4 : w2.heap[w.heap.size]? = some (.cells #[.int .i64 N, .int .i64 pl, .int .i64 sz] 108 (0, 0)) := by
    rw [k2.block _ (by rw [World.size_alloc]; omega) (by omega)]
    exact heap_alloc_new w _
  have d1 := b1.cell
  have d2 := b2.cell
  have d3 := b3.cell
  have o0 : w2.cell? ⟨w.heap.size, 0, none⟩ = some (.int .i64 N) := by rw [cell_of_row _ _ _ _ _ _ b4]; rfl
  have o1 : w2.cell? ⟨w.heap.size, 1, none⟩ = some (.int .i64 pl) := by rw [cell_of_row _ _ _ _ _ _ b4]; rfl
  have o2 : w2.cell? ⟨w.heap.size, 2, none⟩ = some (.int .i64 sz) := by rw [cell_of_row _ _ _ _ _ _ b4]; rfl
  have KK := Lib.hid (K0.out.trans k2)
  clear b1 b2 b3 b4 hx he hl c1 c2 c3 k2 HX HE
  by_cases hE : E = 0
  · subst hE
    rw [if_pos rfl] at m2
    have hw : wrap64 (pl + (k : Int)) = pl + (k : Int) := by unfold wrap64; omega
    have hm := move_any m2 n h1 h4 N pl sz (pl + (k : Int)) (by omega)
    unfold agO at hm
    have HM := Lib.hid hm
    clear hm m2 HW
    go_wp2_with fail
    try rw [hw]
    refine HM.out.mono ?_
    rintro e w3 ⟨rfl, m3, k3⟩
    have HG : Hid (RetE (HwR w p gb mb G (wrM M n N pl k (0, g2)) 0) (.returned (.int .i64 0)) w3) := ⟨0, rfl, rfl, by unfold wrM; rw [if_pos rfl]; exact m3, KK.out.trans k3⟩
    clear m3 k3 HM
    go_wp2_with fail
    go_ret
    exact HG.out
  · rw [if_neg hE] at m2
    have hd : (E == 0) = false := by simpa using hE
    have HG : Hid (RetE (HwR w p gb mb G (wrM M n N pl k (E, g2)) E) (.returned (.int .i64 E)) w2) := ⟨E, rfl, rfl, by unfold wrM; rw [if_neg hE]; exact m2, KK.out⟩
    clear m2 HW hE
    go_wp2_with fail
    go_ret
    exact HG.out
theorem chk_sz (x : IN) (h : chkB x = true) : 0 ≤ szX x ∧ szX x ≤ 1472 := by
  obtain ⟨_, _, hz, _⟩ := chk_parts h
  exact hz
theorem nodeX_yes (ns : List IN) (N : Int) (h : nodeE ns N = 0) : nodeX ns N = at' ns N.toNat := by unfold nodeX; rw [if_pos h]
theorem node_bounds (g : RG) (hg : RGood g) (ns : List IN) (hns : g.ns = ns) (N : Int) (h : nodeE ns N = 0) : (0 ≤ N ∧ N < 8) ∧ 0 ≤ szX (nodeX ns N) ∧ szX (nodeX ns N) ≤ 1472 := by
  obtain ⟨hb, hf⟩ := nodeE_zero.1 h
  subst hns
  rw [nodeX_yes _ _ h]
  exact ⟨hb, chk_sz _ ((hg.isF_iff (i := N.toNat) (by omega)).1 hf)⟩
/-- What an open handle's numbers are. -/
theorem open_bounds (hm : M.length = 8192) (ho : okR (regB M)) (n : Nat) (hO : isO M n = true) : (0 ≤ hN M n ∧ hN M n < 8) ∧ 0 ≤ hS M n ∧ hS M n ≤ 1472 := by
  unfold isO at hO
  have hE := of_decide_eq_true hO
  unfold hS
  generalize hN M n = N at *
  exact node_bounds ⟨regB M, readN (regB M)⟩ (good_of hm ho) _ rfl N hE
/-- An open handle's place, as it counts. -/
def hL (M : List UInt8) (n : Nat) : Int := cntV (hP M n) (hS M n)
theorem place_bounds (n : Nat) (h0 : 0 ≤ hS M n) : 0 ≤ hL M n ∧ hL M n ≤ hS M n := by
  unfold hL cntV
  generalize hS M n = s at *
  generalize hP M n = q at *
  split <;> omega
def wrV (M : List UInt8) (n : Nat) (b : List UInt8) : Int × RG := writeV ⟨regB M, readN (regB M)⟩ (hN M n) (hL M n) b
set_option maxRecDepth 100000 in
set_option maxHeartbeats 2000000 in
theorem hwrite_any (h : MemAt w p gb mb G M) (ho : okR (regB M)) (hT : Tab w) (hmb : mb ≠ 0) (hp0 : p ≠ 0) (n : Nat) (h1 : 1 ≤ n) (h4 : n ≤ 4) (hO : isO M n = true)
    {A : Option Addr} {b : List UInt8} (cb : Nat) (hb : BR w w.heap.size A b) (hbl : b.length ≤ 140737488355328) (hA : b ≠ [] → ∀ ad, A = some ad → ad.block ≠ mb ∧ ad.block ≠ p) :
    Calls Tryz.prog 24 #[.pointer (some ⟨p, 0, none⟩), .int .i64 (n : Int), .slice A b.length cb] w
      (OutM w p gb mb G (wrM M n (hN M n) (hL M n) b.length (wrV M n b)) (.int .i64 (wrV M n b).1)) := by
  have hob := open_bounds h.ml ho n hO
  have hpb := place_bounds n hob.2.1
  have hlt := h.lt
  let o1 : Obj := .cells #[.pointer (some ⟨p, 0, none⟩)] 25
  let o2 : Obj := .cells #[.int .i64 (n : Int)] 3
  let o3 : Obj := .cells #[.slice A b.length cb] 31
  have x1 : Boxed (((w.alloc o1).alloc o2).alloc o3) w.heap.size 25 (.pointer (some ⟨p, 0, none⟩)) := ((Boxed.new w 25 (.pointer (some ⟨p, 0, none⟩))).alloc _).alloc _
  have x3 : Boxed (((w.alloc o1).alloc o2).alloc o3) (w.heap.size + 1) 3 (.int .i64 (n : Int)) := by
    have := (Boxed.new (w.alloc o1) 3 (.int .i64 (n : Int))).alloc o3
    rwa [World.size_alloc] at this
  have x2 : Boxed (((w.alloc o1).alloc o2).alloc o3) (w.heap.size + 1 + 1) 31 (.slice A b.length cb) := by
    have := Boxed.new ((w.alloc o1).alloc o2) 31 (.slice A b.length cb)
    rwa [World.size_alloc, World.size_alloc] at this
  have k0 : Keeps (fun _ => False) w (((w.alloc o1).alloc o2).alloc o3) := Keeps.trans (Keeps.trans (Keeps.alloc _ _ _) (Keeps.alloc _ _ _)) (Keeps.alloc _ _ _)
  have KW := Lib.hid (k0.mono fun _ _ f => f.elim : Keeps (fun j => j = p ∨ j = mb) w _)
  have HW := Lib.hid (with_any (h.keep k0 (fun f => f) (fun f => f) (fun f => f)) ho n h1 h4 hO 75 #[.pointer (some ⟨w.heap.size, 0, none⟩), .pointer (some ⟨w.heap.size + 1 + 1, 0, none⟩), .pointer (some ⟨w.heap.size + 1, 0, none⟩)] (enters_of Tryz.func75 (by kernel_rfl) rfl)
    (HwR w p gb mb G (wrM M n (hN M n) (hL M n) b.length (wrV M n b)) (wrV M n b).1)
    (fun W hm hk => by
      have hA2 : b ≠ [] → ∀ ad, A = some ad → ad.block ≠ mb := fun hne ad e => (hA hne ad e).1
      have hb2 := br_keep (br_keep hb k0 fun _ _ _ f => f) hk fun hne ad e f => by
        have := hA hne ad e
        rcases f with f | f <;> omega
      have hT2 := (hT.keep (k0.block 0 hT.pos (fun f => f)))
      have hT3 := hT2.keep (hk.block 0 hT2.pos (by omega))
      have y1 := (hk.block _ x1.lt (by omega)).trans x1
      have y2 := (hk.block _ x2.lt (by omega)).trans x2
      have y3 := (hk.block _ x3.lt (by omega)).trans x3
      refine (hwrite1_any hm ho hT3 hmb n h1 h4 (hN M n) (hL M n) (hS M n) (by omega) (by omega) cb hb2 hbl hA2 y1 y2 y3 (by omega) (by omega) (by omega)).mono ?_
      rintro e w' ⟨E, rfl, rfl, m', k'⟩
      exact ⟨_, rfl, rfl, m', (KW.out.trans hk).trans k'⟩))
  clear h ho hT hb hA hO x1 x2 x3 k0 hob hpb KW
  simp only [o1, o2, o3] at HW
  clear_value o1 o2 o3
  clear o1 o2 o3
  generalize wrV M n b = rv at *
  generalize wrM M n (hN M n) (hL M n) b.length rv = M2 at *
  generalize b.length = k at *
  obtain ⟨E0, g2⟩ := rv
  go_enter Tryz.func24, Tryz.ntmps24
  go_wp2_with fail
  refine HW.out.mono ?_
  rintro e w1 ⟨E, rfl, rfl, hm, hk⟩
  have HG : Hid (OutM w p gb mb G M2 (.int .i64 E) (.returned (.int .i64 E)) w1) := ⟨rfl, hm, hk⟩
  clear hm hk HW
  go_wp2_with fail
  go_ret
  exact HG.out
end Go.Proofs.YtceemmnfofjgeaaGreatDoor.Hd
