/-
  The contract of root.Decode.
-/
import Derived.Test.YtlefpnplibmgiaaRtRec
import Derived.Recover
namespace Go.Proofs.Ytlefpnplibmgiaa
open Go.RowKit

theorem catch_idle (p q : Addr) (w : World) :
    CallsD Try.prog 27 #[.pointer (some p), .pointer (some q)] .returning w fun e u' w' => e = .returned (.tuple #[]) ∧ u' = .returning ∧ w' = w := by
  refine callsD_of_wpS Try.func27 rfl fun c₀ cs hu => ?_
  apply wpS_seq
  apply wpS_region
  simp [wpOpsS, go_sem, recoverD, hu, Try.ntmps27, Exit.thenS]
  refine wpS_cond (t := false) (by simp [Act.eval, Array.replicate]) ?_
  simp only [Bool.false_eq_true, if_false]
  refine wpS_of_wp (wp_skip ?_)
  cases c₀
  simp_all [bodyPostS, results, Try.results27]

theorem catch_panicking (b : Nat) (x y z : Value) (u : TypeId) (pv : Value) (older : List PanicEntry) (w : World) (h0 : w.cell? ⟨b, 0, none⟩ = some x) (h1 : w.cell? ⟨b, 1, none⟩ = some y) (h2 : w.cell? ⟨b + 1, 0, none⟩ = some z)
    (z0 : w.frozen? ⟨b, 0, none⟩ = false) (z1 : w.frozen? ⟨b, 1, none⟩ = false) (z2 : w.frozen? ⟨b + 1, 0, none⟩ = false) :
    CallsD Try.prog 27 #[.pointer (some ⟨b, 0, none⟩), .pointer (some ⟨b + 1, 0, none⟩)] (.panicking ({ v := .iface u pv, recovered := false } :: older)) w fun e u' w' =>
      e = .returned (.tuple #[]) ∧ u' = .panicking ({ v := .iface u pv, recovered := true } :: older) ∧ w' = ((w.setCell ⟨b, 0, none⟩ (.int .u64 0)).setCell ⟨b, 1, none⟩ (.slice none 0 0)).setCell ⟨b + 1, 0, none⟩ (.int .i64 30) := by
  refine callsD_of_wpS Try.func27 rfl fun c₀ cs hu => ?_
  apply wpS_seq
  apply wpS_region
  simp [wpOpsS, go_sem, recoverD, hu, Try.ntmps27, Exit.thenS]
  refine wpS_cond (t := true) (by simp [Act.eval, Array.replicate]) ?_
  simp only [if_true]
  apply wpS_region
  simp [wpOpsS, go_sem, h0, h1, h2, z0, z1, z2, bodyPostS, results, Try.results27]
theorem rec_any (A : Option Addr) (xs : List UInt8) (c : Nat) (w : World) (hx : BR w w.heap.size A xs) (hc : xs.length ≤ c) :
    Calls Try.prog 28 #[.slice A xs.length c] w (RecOut w xs) := by
  by_cases h : xs.length = 64
  · rw [h]; exact rec_main A xs c w hx h (by omega)
  · exact rec_len A xs c w h

/-- The two named results. -/
def decW (w : World) : World := (w.alloc (.cells #[.int .u64 0, .slice none 0 0] 25)).alloc (.cells #[.int .i64 0] 28)
theorem decW_facts (w w1 : World) (hb : Below (decW w).heap.size (decW w) w1) :
    w1.heap[w.heap.size]? = some (.cells #[.int .u64 0, .slice none 0 0] 25 (0, 0)) ∧ w1.heap[w.heap.size + 1]? = some (.cells #[.int .i64 0] 28 (0, 0)) ∧ Below w.heap.size w w1 := by
  have h0 : (decW w).heap[w.heap.size]? = some (.cells #[.int .u64 0, .slice none 0 0] 25 (0, 0)) := by unfold decW; rw [Below.heap_alloc _ _ _ (by simp)]; exact heap_alloc_new _ _
  have h1 : (decW w).heap[w.heap.size + 1]? = some (.cells #[.int .i64 0] 28 (0, 0)) := blk_at_last _ _ _ (by simp)
  have b0 : Below w.heap.size w (decW w) := ((Below.refl _ _).alloc (Nat.le_refl _) _).alloc (by simp) _
  exact ⟨(hb.block _ (Array.getElem?_eq_some_iff.1 h0).1).trans h0, (hb.block _ (Array.getElem?_eq_some_iff.1 h1).1).trans h1, b0.trans (hb.mono b0.size)⟩
theorem dec_keeps (w w1 : World) (x y z : Value) : Keeps (fun k => k = w.heap.size ∨ k = w.heap.size + 1) w1 (((w1.setCell ⟨w.heap.size, 0, none⟩ x).setCell ⟨w.heap.size, 1, none⟩ y).setCell ⟨w.heap.size + 1, 0, none⟩ z) :=
  ((Keeps.setCell (fun k => k = w.heap.size ∨ k = w.heap.size + 1) _ _ _ (.inl rfl)).trans (Keeps.setCell (fun k => k = w.heap.size ∨ k = w.heap.size + 1) _ _ _ (.inl rfl))).trans (Keeps.setCell (fun k => k = w.heap.size ∨ k = w.heap.size + 1) _ _ _ (.inr rfl))

theorem SR.keeps {w w' : World} {F : Nat → Prop} {g : Nat} {l : List Sn} (h : SR w w.heap.size (some ⟨g, 0, none⟩) l) (k : Keeps F w w') (hg : ¬ F g) : SR w' w'.heap.size (some ⟨g, 0, none⟩) l := by
  intro hn
  obtain ⟨ad, e, hb, hc⟩ := h hn
  cases e
  refine ⟨_, rfl, Nat.lt_of_lt_of_le hb k.size, fun i s hs => ?_⟩
  have key : ∀ p : Addr, p.block = g → w'.cell? p = w.cell? p := fun p hp => World.cell?_of_block (by rw [hp]; exact k.block g hb hg)
  exact ⟨(key _ (by rw [block_add])).trans (hc i s hs).1, (key _ (by show ((⟨g, 0, none⟩ : Addr).add (i * 2)).block = g; rw [block_add])).trans (hc i s hs).2⟩
theorem dec_size (w : World) : (decW w).heap.size = w.heap.size + 2 := by unfold decW; simp

set_option maxHeartbeats 800000 in
theorem dec_any (A : Option Addr) (xs : List UInt8) (c : Nat) (w : World) (hx : BR w w.heap.size A xs) (hc : xs.length ≤ c) :
    Calls Try.prog 13 #[.slice A xs.length c] w (GivesDec w xs) := by
  have hmf : ∀ (fn : Fn) (first cap : Array Value) (w : World), (Instr.makeFunc fn first cap).run Try.prog w = .ok (.func fn first cap) w := fun _ _ _ _ => rfl
  have hx0 : BR (decW w) (decW w).heap.size A xs := (hx.alloc (Nat.le_refl _) _ |>.alloc (by simp) _).more (by unfold decW; simp; omega)
  have hrec := rec_any A xs c (decW w) hx0 hc
  clear hx0
  go_enter_defers Try.func13, Try.ntmps13
  go_wp2_with fail
  refine hrec.mono ?_
  clear hrec
  rintro e w1 ⟨hb, ⟨hy, g, c1, rfl, hg, hs⟩ | ⟨hn, rfl⟩⟩
  · obtain ⟨e0, e1, bel⟩ := decW_facts w w1 hb
    have r0 : w1.cell? ⟨w.heap.size, 0, none⟩ = some (.int .u64 0) := by rw [cell_of_row _ _ _ _ _ _ e0]; rfl
    have r1 : w1.cell? ⟨w.heap.size, 1, none⟩ = some (.slice none 0 0) := by rw [cell_of_row _ _ _ _ _ _ e0]; rfl
    have r2 : w1.cell? ⟨w.heap.size + 1, 0, none⟩ = some (.int .i64 0) := by rw [cell_of_row _ _ _ _ _ _ e1]; rfl
    have z0 := frozen_of_row w1 w.heap.size 0 _ _ e0
    have z1 := frozen_of_row w1 w.heap.size 1 _ _ e0
    have z2 := frozen_of_row w1 (w.heap.size + 1) 0 _ _ e1
    clear e0 e1
    rw [dec_size] at hg
    have HY := Lib.hid hy
    clear hy hb hc hx
    go_wp2_with fail
    refine leaves_cons (f := 27) (args := #[.pointer (some ⟨w.heap.size, 0, none⟩), .pointer (some ⟨w.heap.size + 1, 0, none⟩)]) (by simp) (by simp [go_sem]) ?_
    refine (catch_idle ⟨w.heap.size, 0, none⟩ ⟨w.heap.size + 1, 0, none⟩ _).mono ?_
    rintro e u' w'' ⟨rfl, rfl, rfl⟩
    have kk := dec_keeps w w1 (.int .u64 (genOf xs : Int)) (.slice (some ⟨g, 0, none⟩) (manyOf xs) c1) (.int .i64 0)
    have hfin := givesDec_yes (w := w) (b := xs) (c := c1) (n := manyOf xs) ((recB_decB xs).symm.trans HY.out) (rdL_len _ _) (hs.keeps kk (by omega)) (bel.trans (kk.toBelow _ bel.size (fun b e => by omega))) (fun ad e => by cases e; simp; omega)
    simp [Leaves, settle, results, Try.results13, go_sem, r0, r1, r2]
    exact hfin
  · obtain ⟨e0, e1, bel⟩ := decW_facts w w1 hb
    have r0 : w1.cell? ⟨w.heap.size, 0, none⟩ = some (.int .u64 0) := by rw [cell_of_row _ _ _ _ _ _ e0]; rfl
    have r1 : w1.cell? ⟨w.heap.size, 1, none⟩ = some (.slice none 0 0) := by rw [cell_of_row _ _ _ _ _ _ e0]; rfl
    have r2 : w1.cell? ⟨w.heap.size + 1, 0, none⟩ = some (.int .i64 0) := by rw [cell_of_row _ _ _ _ _ _ e1]; rfl
    have z0 := frozen_of_row w1 w.heap.size 0 _ _ e0
    have z1 := frozen_of_row w1 w.heap.size 1 _ _ e0
    have z2 := frozen_of_row w1 (w.heap.size + 1) 0 _ _ e1
    clear e0 e1
    refine leaves_cons (f := 27) (args := #[.pointer (some ⟨w.heap.size, 0, none⟩), .pointer (some ⟨w.heap.size + 1, 0, none⟩)]) (by simp) (by simp [go_sem]) ?_
    refine (catch_panicking w.heap.size _ _ _ _ _ [] _ r0 r1 r2 z0 z1 z2).mono ?_
    rintro e u' w'' ⟨rfl, rfl, rfl⟩
    have kk := dec_keeps w w1 (.int .u64 0) (.slice none 0 0) (.int .i64 30)
    have hfin := givesDec_no (w := w) (b := xs) ((recB_decB xs).symm.trans hn) (bel.trans (kk.toBelow _ bel.size (fun b e => by omega)))
    simp [Leaves, settle, results, Try.results13, go_sem, r0, r1, r2]
    exact hfin
end Go.Proofs.Ytlefpnplibmgiaa
