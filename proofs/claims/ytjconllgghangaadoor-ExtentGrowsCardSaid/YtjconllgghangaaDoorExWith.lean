/-
  ExWith
-/
import Derived.Test.YtjconllgghangaaDoorExRow
namespace Go.Proofs.YtjconllgghangaaDoor.Ex
open Go.RowKit

set_option maxRecDepth 100000 in
set_option maxHeartbeats 400000 in
theorem with_nil {w : World} {B : Nat} {R : Option Addr} {cap : Nat} (h : OwnX w B R cap []) (hB : B ≤ w.heap.size) (b : Nat) :
    Calls Tryd.prog 26 #[.slice R 0 cap, .int .i64 (b : Int)] w (GivesW w B (.slice R 0 cap) [((b : Int), 1)]) := by
  have k1 : IntKind.i64.wrap (0 - 1) = -1 := by decide
  have H := Lib.hid h
  clear h
  go_enter Tryd.func26, Tryd.ntmps26
  go_wp2_with fail
  go_quiet (fail)
  have own1 := H.out.drewN nq
  have bel1 : Below B w (w.drewN nq) := below_drewN (Below.refl _ _) nq
  have hB1 : B ≤ (w.drewN nq).heap.size := hB
  have bel1z : w.heap.size ≤ (w.drewN nq).heap.size + 1 := Nat.le_succ _
  have bel1k : ∀ (k : Nat), (w.drewN nq).heap[k]? = w.heap[k]? := fun _ => rfl
  have bel1s : (w.drewN nq).heap.size = w.heap.size := rfl
  generalize w.drewN nq = w1 at *
  have ownA := own1.alloc (.cells #[.int .i64 (b : Int), .int .i64 1] 44)
  have belA : Below B w (w1.alloc (.cells #[.int .i64 (b : Int), .int .i64 1] 44)) := bel1.alloc hB1 _
  obtain ⟨R', cap', w2, hap, own3, b3, s3⟩ := ownA.app (Nat.le_trans hB belA.size) (by simp) [((b : Int), 1)] (by simp) ⟨w1.heap.size, 0, none⟩ 1 (fun j u hu => by
    rw [add_zero, cell_of_row _ _ _ _ _ _ (heap_alloc_new w1 _)]
    simpa [xcells] using hu)
  have HAP := Lib.hid hap
  have HF : Hid (GivesW w B (.slice R 0 cap) [((b : Int), 1)] (.returned (.slice R' 1 cap')) w2) := ⟨R', cap', rfl, own3, belA.trans b3, s3.from (by simp; exact bel1z) (fun k hk => (Below.heap_alloc _ _ _ (by omega)).trans (bel1k k))⟩
  clear own1 bel1 ownA belA hap own3 b3 H bel1k bel1s bel1z s3
  go_wp2_with (first | (at_builtin; refine wpList_append_run rfl _ _ 22 rfl _ HAP.out ?_) | fail)
  go_ret
  exact HF.out
set_option maxRecDepth 100000 in
set_option maxHeartbeats 400000 in
theorem with_snoc {w : World} {B : Nat} {R : Option Addr} {cap : Nat} {q : List EX} {x : EX} (h : OwnX w B R cap (q ++ [x])) (hB : B ≤ w.heap.size) (hl : q.length ≤ 500) (b : Nat) (hx : (0 ≤ x.1 ∧ x.1 ≤ 1000) ∧ 0 ≤ x.2 ∧ x.2 ≤ 100) :
    Calls Tryd.prog 26 #[.slice R (q ++ [x]).length cap, .int .i64 (b : Int)] w (GivesW w B (.slice R (q ++ [x]).length cap) (withV (q ++ [x]) b)) := by
  have hlen : (q ++ [x]).length = q.length + 1 := by simp
  obtain ⟨g, rfl, hg, hgl, c0, c1, hf⟩ := h.at_ (k := q.length) (by omega)
  have e0 : (q ++ [x])[q.length]'(by omega) = x := by simp
  rw [e0] at c0 c1
  have k2 : ((q ++ [x]).length : Int) - 1 = (q.length : Int) := by omega
  have k3 : q.length < (q ++ [x]).length := by omega
  have kw : IntKind.i64.wrap (q.length : Int) = (q.length : Int) := by rw [IntKind.wrap_i64]; omega
  have ks : IntKind.i64.wrap (x.1 + x.2) = x.1 + x.2 := by rw [IntKind.wrap_i64]; omega
  have kn : IntKind.i64.wrap (x.2 + 1) = x.2 + 1 := by rw [IntKind.wrap_i64]; omega
  have H := Lib.hid h
  by_cases hs : x.1 + x.2 = (b : Int)
  · have hw : withV (q ++ [x]) b = q ++ [(x.1, x.2 + 1)] := by rw [withV_snoc, if_pos hs]
    have HF : Hid (∀ nq, GivesW w B (.slice (some ⟨g, 0, none⟩) (q ++ [x]).length cap) (withV (q ++ [x]) b) (.returned (.slice (some ⟨g, 0, none⟩) (q ++ [x]).length cap)) ((w.drewN nq).setCell ⟨g, q.length * 2 + 1, none⟩ (.int .i64 (x.2 + 1)))) := fun nq => by
      refine ⟨_, cap, ?_, by rw [hw]; exact (h.drewN nq).long _, ?_, ⟨by simp, fun k hk hn => heap_setCell_other _ _ _ _ (fun e => hn (by rw [e]; rfl)), fun k e => .inl (by simpa [Value.ownBlock] using e)⟩⟩
      · rw [hw]; simp
      · exact (below_drewN (Below.refl _ _) nq).trans ⟨rfl, rfl, rfl, by simp, fun k hk => heap_setCell_other _ _ _ _ (by show k ≠ g; omega)⟩
    have ks1 : IntKind.i64.wrap (x.1 + x.2) = (b : Int) := by rw [ks, hs]
    clear h H hlen e0 ks
    generalize (q ++ [x]).length = n at *
    generalize q.length = m at *
    obtain ⟨s, t⟩ := x
    simp only at c0 c1 ks1 kn hs HF
    clear hs hx hw
    go_enter Tryd.func26, Tryd.ntmps26
    go_wp2_with fail
    go_quiet (fail)
    go_wp2_with fail
    go_ret
    exact HF.out _
  · have hw : withV (q ++ [x]) b = q ++ [x] ++ [((b : Int), 1)] := by rw [withV_snoc, if_neg hs]
    have hs1 : (x.1 + x.2 == (b : Int)) = false := by simpa using hs
    rw [hw]
    have HL : Hid ((q ++ [x]).length ≤ 501) := by show _ ≤ _; omega
    clear h hlen e0 hw
    generalize q ++ [x] = l at *
    generalize hn : l.length = n at *
    have HN := Lib.hid hn
    clear hn
    generalize q.length = m at *
    obtain ⟨z, hz⟩ : ∃ z, z = x.1 + x.2 := ⟨_, rfl⟩
    have ks1 : IntKind.i64.wrap (x.1 + x.2) = z := by rw [ks, hz]
    rw [← hz] at hs1
    obtain ⟨s, t⟩ := x
    simp only at c0 c1 ks1 kn
    clear hz hx ks hs
    go_enter Tryd.func26, Tryd.ntmps26
    go_wp2_with fail
    go_quiet (fail)
    have own1 := H.out.drewN nq
    have bel1 : Below B w (w.drewN nq) := below_drewN (Below.refl _ _) nq
    have hB1 : B ≤ (w.drewN nq).heap.size := hB
    have bel1z : w.heap.size ≤ (w.drewN nq).heap.size + 1 := Nat.le_succ _
    have bel1k : ∀ (k : Nat), (w.drewN nq).heap[k]? = w.heap[k]? := fun _ => rfl
    have bel1s : (w.drewN nq).heap.size = w.heap.size := rfl
    generalize w.drewN nq = w1 at *
    have ownA := own1.alloc (.cells #[.int .i64 (b : Int), .int .i64 1] 44)
    have belA : Below B w (w1.alloc (.cells #[.int .i64 (b : Int), .int .i64 1] 44)) := bel1.alloc hB1 _
    obtain ⟨R', cap', w2, hap, own3, b3, s3⟩ := ownA.app (Nat.le_trans hB belA.size) (by rw [HN.out]; have := HL.out; omega) [((b : Int), 1)] (by simp) ⟨w1.heap.size, 0, none⟩ 1 (fun j u hu => by
      rw [add_zero, cell_of_row _ _ _ _ _ _ (heap_alloc_new w1 _)]
      simpa [xcells] using hu)
    rw [HN.out] at hap
    have HF : Hid (GivesW w B (.slice (some ⟨g, 0, none⟩) n cap) (l ++ [((b : Int), 1)]) (.returned (.slice R' (l ++ [((b : Int), 1)]).length cap')) w2) := ⟨R', cap', rfl, own3, belA.trans b3, by rw [HN.out] at s3; exact s3.from (by simp; exact bel1z) (fun k hk => (Below.heap_alloc _ _ _ (by omega)).trans (bel1k k))⟩
    generalize (l ++ [((b : Int), 1)]).length = n2 at *
    have HAP := Lib.hid hap
    clear own1 bel1 ownA belA hap own3 b3 H bel1k bel1s bel1z s3
    go_wp2_with (first | (at_builtin; refine wpList_append_run rfl _ _ 22 rfl _ HAP.out ?_) | fail)
    go_ret
    exact HF.out
theorem with_any {w : World} {B : Nat} {R : Option Addr} {cap : Nat} {l : List EX} (h : OwnX w B R cap l) (hB : B ≤ w.heap.size) (hl : l.length ≤ 500) (hd : Bd l 100) (b : Nat) :
    Calls Tryd.prog 26 #[.slice R l.length cap, .int .i64 (b : Int)] w (GivesW w B (.slice R l.length cap) (withV l b)) := by
  rcases List.eq_nil_or_concat l with rfl | ⟨q, x, rfl⟩
  · exact with_nil h hB b
  · rw [List.concat_eq_append] at *
    exact with_snoc h hB (by simp at hl; omega) b (hd x (by simp))

set_option maxRecDepth 100000 in
set_option maxHeartbeats 400000 in
theorem clone_any (A : Option Addr) (l : List EX) (c : Nat) (w : World) (h : XR w w.heap.size A l) (hl : l.length ≤ 100) :
    Calls Tryd.prog 24 #[.slice A l.length c] w (GivesX w w.heap.size l) := by
  rcases A with _ | ad
  · have e : l = [] := by
      by_cases hn : l = []
      · exact hn
      · obtain ⟨_, e, _⟩ := h.ar hn; cases e
    subst e
    have HF : Hid (GivesX w w.heap.size [] (.returned (.slice none 0 0)) w) := ⟨none, 0, rfl, OwnX.nil _ _, Below.refl _ _⟩
    have hq := Lib.run_eql_slice_nil (P := Tryd.prog) w 22 44 none 0 c 0 0 Tryd.underlying22
    clear h hl
    go_enter Tryd.func24, Tryd.ntmps24
    go_wp2_with fail
    go_ret
    exact HF.out
  · have own1 : OwnX (w.alloc (.cells #[] 44)) w.heap.size (some ⟨w.heap.size, 0, none⟩) 0 [] := OwnX.empty (Nat.le_refl _)
    have bel1 : Below w.heap.size w (w.alloc (.cells #[] 44)) := (Below.refl _ _).alloc (Nat.le_refl _) _
    have h1 := h.below bel1
    obtain ⟨R', cap', w2, hap, own3, b3, _⟩ := own1.app bel1.size (by simp) l (by omega) ad c (fun j u hu => by
      obtain ⟨a, ha, hv⟩ := flatX_get l j u hu
      obtain ⟨ad', e, _, hc⟩ := h1.ar (by intro e; subst e; simp at ha)
      cases e
      have := hc _ a ha _ u hv
      rw [Go.Deep.add_add, show j / 2 * 2 + j % 2 = j from by omega] at this
      exact this)
    rw [List.nil_append] at hap own3
    have HF : Hid (GivesX w w.heap.size l (.returned (.slice R' l.length cap')) w2) := ⟨R', cap', rfl, own3, bel1.trans b3⟩
    have HAP := Lib.hid hap
    have hq := Lib.run_eql_slice_nil (P := Tryd.prog) w 22 44 (some ad) l.length c 0 0 Tryd.underlying22
    clear h h1 own1 bel1 hap own3 b3
    go_enter Tryd.func24, Tryd.ntmps24
    go_wp2_with (first | (at_builtin; refine wpList_append_run rfl _ _ 22 rfl _ HAP.out ?_) | fail)
    go_ret
    exact HF.out

set_option maxRecDepth 100000 in
set_option maxHeartbeats 400000 in
/-- The document's Same at lists that are alike. -/
theorem same_any (A : Option Addr) (l : List EX) (c : Nat) (B : Option Addr) (d : Nat) (w : World) (h : XR w w.heap.size A l) (h2 : XR w w.heap.size B l) (hl : l.length ≤ 1000) :
    Calls Tryd.prog 17 #[.slice A l.length c, .slice B l.length d] w (Gives w (.bool true)) := by
  go_enter Tryd.func17, Tryd.ntmps17
  go_wp2_with fail
  go_loopw [13, 5] (fun i _ wr => ∃ k : Nat, k ≤ l.length ∧ i = .int .i64 (k : Int) ∧ Below w.heap.size w wr) (fun i _ _ => l.length - (intOf i).toNat)
  case atStart => exact ⟨0, by omega, rfl, Below.refl _ _⟩
  case round =>
    obtain ⟨k, hk, rfl, hb⟩ := hrel
    by_cases hlt : k < l.length
    · obtain ⟨ad, rfl, _, d0, d1, _⟩ := (h.below hb).at_ hlt
      obtain ⟨bd, rfl, _, e0, e1, _⟩ := (h2.below hb).at_ hlt
      generalize l[k] = x at *
      obtain ⟨s, t⟩ := x
      simp only at d0 d1 e0 e1
      have HB := Lib.hid hb
      clear h h2 hb
      go_wp2_with fail
      go_quiet (fail)
      go_wp2_with fail
      go_roundw
      case rel => exact ⟨k + 1, by omega, by go_num, below_drewN HB.out _⟩
      case measure => simp [intOf]; omega
    · obtain rfl : k = l.length := by omega
      clear h h2
      go_wp2_with fail
      go_ret
      exact ⟨rfl, hb⟩
end Go.Proofs.YtjconllgghangaaDoor.Ex
