/-
  ExExts
-/
import Derived.Test.YtjconllgghangaaDoorExWith
namespace Go.Proofs.YtjconllgghangaaDoor.Ex
open Go.RowKit

theorem bd_ext : ∀ (bs : List Nat), (∀ b ∈ bs, b < 32) → Bd (extV [] bs) bs.length ∧ (extV [] bs).length ≤ bs.length := snoc_ind (fun _ => ⟨(fun x hx => by cases hx), Nat.le_refl _⟩) fun q b ih h => by
  obtain ⟨h1, h2⟩ := ih fun b hb => h b (by simp [hb])
  obtain ⟨h3, h4⟩ := h1.with (by omega) (h b (by simp))
  rw [extV_snoc, List.length_append, List.length_singleton]
  exact ⟨by rw [show ((q.length + 1 : Nat) : Int) = (q.length : Int) + 1 from by omega]; exact h3, by omega⟩
theorem ext_take (bs : List Nat) {k : Nat} (h : k < bs.length) : extV [] (bs.take (k + 1)) = withV (extV [] (bs.take k)) bs[k] := by
  rw [List.take_succ_eq_append_getElem h, extV_snoc]

set_option maxRecDepth 100000 in
set_option maxHeartbeats 1000000 in
theorem rextents_any (R : Option Addr) (l : List Nat) (c : Nat) (w : World) (h : JR w R l) (hl : l.length ≤ 100) (hlt32 : ∀ b ∈ l, b < 32) :
    Calls Tryd.prog 27 #[.slice R l.length c] w (GivesX w w.heap.size (extV [] l)) := by
  go_enter Tryd.func27, Tryd.ntmps27
  go_wp2_with fail
  go_loopw [9, 3, 5, 6] (fun i s _ _ wr => ∃ (k : Nat) (cur : List EX) (R2 : Option Addr) (cap : Nat), k ≤ l.length ∧ i = .int .i64 (k : Int) ∧ cur = extV [] (l.take k) ∧ s = .slice R2 cur.length cap ∧ OwnX wr w.heap.size R2 cap cur ∧ Below w.heap.size w wr) (fun i _ _ _ _ => l.length - (intOf i).toNat)
  case atStart => exact ⟨0, [], none, 0, by omega, rfl, rfl, rfl, OwnX.nil _ _, Below.refl _ _⟩
  case round =>
    obtain ⟨k, cur, R2, cap, hk, rfl, hcur, rfl, own, hb⟩ := hrel
    by_cases hlt : k < l.length
    · obtain ⟨g, o, rfl, hgl, hc⟩ := (h.below hb).at_ hlt
      have hnx := ext_take l hlt
      rw [← hcur] at hnx
      have hm := hlt32 _ (List.getElem_mem hlt)
      have hbd := bd_ext (l.take k) fun b hb => hlt32 b (List.mem_of_mem_take hb)
      rw [← hcur, List.length_take, Nat.min_eq_left (by omega)] at hbd
      have HN := Lib.hid h
      have HH := Lib.hid hlt32
      have HX := Lib.hid hnx
      have hB := hb.size
      clear h hlt32 hnx hcur
      generalize hbk : l[k] = b at *
      clear hbk
      rcases List.eq_nil_or_concat cur with rfl | ⟨q, x, rfl⟩
      · have OWN := Lib.hid own
        have HB := Lib.hid hb
        rw [withV_nil] at HX
        clear own hb hbd
        go_wp2_with fail
        go_quiet (fail)
        have own1 := OWN.out.drewN nq
        have bel1 : Below w.heap.size w (wr.drewN nq) := below_drewN HB.out nq
        generalize wr.drewN nq = w1 at *
        have ownA := own1.alloc (.cells #[.int .i64 (b : Int), .int .i64 1] 44)
        have belA : Below w.heap.size w (w1.alloc (.cells #[.int .i64 (b : Int), .int .i64 1] 44)) := bel1.alloc bel1.size _
        obtain ⟨R', cap', w2, hap, own3, b3, _⟩ := ownA.app belA.size (by simp) [((b : Int), 1)] (by simp) ⟨w1.heap.size, 0, none⟩ 1 (fun j u hu => by
          rw [add_zero, cell_of_row _ _ _ _ _ _ (heap_alloc_new w1 _)]
          simpa [xcells] using hu)
        have HAP := Lib.hid hap
        have OWN3 := Lib.hid own3
        have BEL := Lib.hid (belA.trans b3)
        clear own1 bel1 ownA belA hap own3 b3 OWN HB
        go_wp2_with (first | (at_builtin; refine wpList_append_run rfl _ _ 22 rfl _ HAP.out ?_) | fail)
        go_roundw
        case rel => exact ⟨k + 1, [((b : Int), 1)], R', cap', by omega, by go_num, HX.out.symm, rfl, OWN3.out, BEL.out⟩
        case measure => simp [intOf]; omega
      · rw [List.concat_eq_append] at *
        have hx := hbd.1 x (by simp)
        have hlen : (q ++ [x]).length = q.length + 1 := by simp
        have hle := hbd.2
        obtain ⟨g2, rfl, hg2, hgl2, c0, c1, hf⟩ := own.at_ (k := q.length) (by omega)
        have e0 : (q ++ [x])[q.length]'(by omega) = x := by simp
        rw [e0] at c0 c1
        have k1 : decide (0 < (q ++ [x]).length) = true := by simp
        have k2 : ((q ++ [x]).length : Int) - 1 = (q.length : Int) := by omega
        have k3 : q.length < (q ++ [x]).length := by omega
        have kl : (q ++ [x]).length ≤ 100 := by omega
        have kw : IntKind.i64.wrap (q.length : Int) = (q.length : Int) := by rw [IntKind.wrap_i64]; omega
        have kn : IntKind.i64.wrap (x.2 + 1) = x.2 + 1 := by rw [IntKind.wrap_i64]; omega
        have ks : IntKind.i64.wrap (x.1 + x.2) = x.1 + x.2 := by rw [IntKind.wrap_i64]; omega
        have OWN := Lib.hid own
        have HB := Lib.hid hb
        clear own hb hbd hle hlen e0
        by_cases hs : x.1 + x.2 = (b : Int)
        · rw [withV_snoc, if_pos hs] at HX
          have ks1 : IntKind.i64.wrap (x.1 + x.2) = (b : Int) := by rw [ks, hs]
          have HO : Hid (∀ nq, OwnX ((wr.drewN nq).setCell ⟨g2, q.length * 2 + 1, none⟩ (.int .i64 (x.2 + 1))) w.heap.size (some ⟨g2, 0, none⟩) cap (q ++ [(x.1, x.2 + 1)])) := fun nq => (OWN.out.drewN nq).long _
          have HK : Hid (∀ nq, Below w.heap.size w ((wr.drewN nq).setCell ⟨g2, q.length * 2 + 1, none⟩ (.int .i64 (x.2 + 1)))) := fun nq => (below_drewN HB.out nq).trans ⟨rfl, rfl, rfl, by simp, fun k hk => heap_setCell_other _ _ _ _ (by show k ≠ g2; omega)⟩
          have HLN : Hid ((q ++ [(x.1, x.2 + 1)]).length = (q ++ [x]).length) := by show _ = _; simp
          clear OWN HB ks
          generalize (q ++ [x]).length = n at *
          generalize q ++ [(x.1, x.2 + 1)] = nx at *
          generalize q.length = m at *
          obtain ⟨s, t⟩ := x
          simp only at c0 c1 ks1 kn
          clear hx hs
          go_wp2_with fail
          go_quiet (fail)
          go_wp2_with fail
          go_roundw
          case rel => exact ⟨k + 1, nx, _, cap, by omega, by go_num, HX.out.symm, by rw [HLN.out], HO.out _, HK.out _⟩
          case measure => simp [intOf]; omega
        · rw [withV_snoc, if_neg hs] at HX
          have hs1 : (x.1 + x.2 == (b : Int)) = false := by simpa using hs
          generalize q ++ [x] = l2 at *
          generalize hn : l2.length = n at *
          have HN2 := Lib.hid hn
          clear hn
          generalize q.length = m at *
          obtain ⟨z, hz⟩ : ∃ z, z = x.1 + x.2 := ⟨_, rfl⟩
          have ks1 : IntKind.i64.wrap (x.1 + x.2) = z := by rw [ks, hz]
          rw [← hz] at hs1
          obtain ⟨s, t⟩ := x
          simp only at c0 c1 ks1 kn
          clear hz hx ks hs
          go_wp2_with fail
          go_quiet (fail)
          have own1 := OWN.out.drewN nq
          have bel1 : Below w.heap.size w (wr.drewN nq) := below_drewN HB.out nq
          generalize wr.drewN nq = w1 at *
          have ownA := own1.alloc (.cells #[.int .i64 (b : Int), .int .i64 1] 44)
          have belA : Below w.heap.size w (w1.alloc (.cells #[.int .i64 (b : Int), .int .i64 1] 44)) := bel1.alloc bel1.size _
          obtain ⟨R', cap', w2, hap, own3, b3, _⟩ := ownA.app belA.size (by rw [HN2.out]; omega) [((b : Int), 1)] (by simp) ⟨w1.heap.size, 0, none⟩ 1 (fun j u hu => by
            rw [add_zero, cell_of_row _ _ _ _ _ _ (heap_alloc_new w1 _)]
            simpa [xcells] using hu)
          rw [HN2.out] at hap
          have HAP := Lib.hid hap
          have OWN3 := Lib.hid own3
          have BEL := Lib.hid (belA.trans b3)
          clear own1 bel1 ownA belA hap own3 b3 OWN HB
          generalize l2 ++ [((b : Int), 1)] = nx at *
          go_wp2_with (first | (at_builtin; refine wpList_append_run rfl _ _ 22 rfl _ HAP.out ?_) | fail)
          go_roundw
          case rel => exact ⟨k + 1, nx, R', cap', by omega, by go_num, HX.out.symm, rfl, OWN3.out, BEL.out⟩
          case measure => simp [intOf]; omega
    · obtain rfl : k = l.length := by omega
      rw [List.take_length] at hcur
      subst hcur
      have OWN := Lib.hid own
      clear h hlt32 own
      go_wp2_with fail
      go_ret
      exact ⟨R2, cap, rfl, OWN.out, hb⟩
end Go.Proofs.YtjconllgghangaaDoor.Ex
