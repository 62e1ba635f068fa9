/-
  ExBlocks
-/
import Derived.Test.YtcldbgmbkcpdgaaExRef
import Derived.WalkSmall
namespace Go.Proofs.Ytcldbgmbkcpdgaa.Ex
open Go.RowKit

/-- Which end is asked at place k. -/
def prevE (l : List EX) (k : Nat) : Int := if k = 0 then 0 else (l.getD (k - 1) (0, 0)).1 + (l.getD (k - 1) (0, 0)).2
theorem prevE_succ {l : List EX} {k : Nat} (h : k < l.length) : prevE l (k + 1) = l[k].1 + l[k].2 := by
  simp [prevE, List.getD_eq_getElem?_getD, h]
theorem take_step {x : EX} {j : Nat} (h : j < (exB x).length) : (exB x).take (j + 1) = (exB x).take j ++ [x.1.toNat + j] := by
  rw [List.take_succ_eq_append_getElem h, exB_at]
theorem take_new {x : EX} {j : Nat} : x.1.toNat + j ∉ (exB x).take j := by
  intro h
  obtain ⟨i, hi, e⟩ := List.getElem_of_mem h
  rw [List.getElem_take, exB_at] at e
  rw [List.length_take] at hi
  omega
theorem own_app {w : World} {B : Nat} {R : Option Addr} {cap : Nat} {l : List Nat} (h : OwnI w B R cap l) (hB : B ≤ w.heap.size) (hl : l.length ≤ 1954687338212) (x : Nat) (g : Nat) (hg : w.cell? ⟨g, 0, none⟩ = some (.int .i64 (x : Int))) :
    ∃ R' cap' w', (Builtin.append_ #[55, 55] 55 #[.slice R l.length cap, .slice (some ⟨g, 0, none⟩) 1 1]).run Try.prog w = .ok (.slice R' (l.length + 1) cap') w' ∧ OwnI w' B R' cap' (l ++ [x]) ∧ Below B w w' ∧ ∀ k, k < w.heap.size → Value.ownBlock (.slice R l.length cap) ≠ some k → w'.heap[k]? = w.heap[k]? := by
  obtain ⟨i0, hi, hz0, hz1, hz2⟩ := info_parts Try.infoInt
  obtain ⟨v', w', hrun, hown, hg, _, _⟩ := run_append_own_at (P := Try.prog) w B 55 55 3 i0 (.int .i64 0) 1 8 Try.underlying55 hi hz0 hz1 hz2 rfl (by decide) _ l.length _ h ⟨g, 0, none⟩ 1 1 [.int .i64 (x : Int)] rfl (fun j u hu => by
    match j, hu with
    | 0, hu => cases hu; exact hg
    | j + 1, hu => simp at hu) (by intro u hu; simp at hu; subst hu; rfl) (by unfold maxLen; omega) (by omega) hB
  obtain ⟨g', cap', rfl, _, _⟩ := World.ownsRow.form hown (by omega)
  refine ⟨_, cap', w', hrun, ?_, ⟨hg.os, hg.tape, hg.output, hg.size, fun k hk => hg.block k (by omega) (fun e => by have := (World.ownsRow.lt h k e.symm).1; omega)⟩, fun k hk hne => hg.block k hk (fun e => hne e.symm)⟩
  unfold OwnI
  rw [List.length_append, List.map_append]
  exact hown
theorem own_else {w : World} {B : Nat} {R : Option Addr} {cap : Nat} {l : List Nat} (h : OwnI w B R cap l) {g : Nat} {cs : Array Value} (hat : w.heap[g]? = some (.cells cs 47 (0, 0))) : Value.ownBlock (.slice R l.length cap) ≠ some g := by
  intro e
  rcases h.2 with ⟨hn, _⟩ | ⟨g', cap', cur, e', _, hg, _⟩
  · rw [hn] at e; cases e
  · rw [e'] at e
    cases e
    rw [hat] at hg
    cases hg
def BlocksOut (w : World) (l : List EX) (e : Ending) (w' : World) : Prop := ∃ R cap, e = .returned (.tuple #[.slice R (blkO l).length cap, .bool (ok l)]) ∧ OwnI w' w.heap.size R cap (blkO l) ∧ Below w.heap.size w w'
theorem BlocksOut.no {w w' : World} {l : List EX} (h : ok l = false) (hb : Below w.heap.size w w') : BlocksOut w l (.returned (.tuple #[.slice none 0 0, .bool false])) w' := by
  refine ⟨none, 0, ?_, ?_, hb⟩
  · rw [blkO_no h, h]; rfl
  · rw [blkO_no h]; exact World.ownsRow_nil _ _ _ _

set_option maxRecDepth 100000 in
set_option maxHeartbeats 1000000 in
theorem rblocks_any (A : Option Addr) (l : List EX) (c : Nat) (w : World) (h : XR w w.heap.size A l) (hl : l.length ≤ 100) :
    Calls Try.prog 24 #[.slice A l.length c] w (BlocksOut w l) := by
  go_enter Try.func24, Try.ntmps24
  go_wp2_with fail
  go_loopw [12, 4, 5, 6, 7, 9] (fun i s _ _ _ _ wr => ∃ (k : Nat) (out : List Nat) (R : Option Addr) (cap : Nat), k ≤ l.length ∧ i = .int .i64 (k : Int) ∧ s = .slice R out.length cap ∧ OwnI wr w.heap.size R cap out ∧ ok l = okL out (prevE l k) (l.drop k) ∧ Good out ∧ out = blkL (l.take k) ∧ (∀ m, m < k → ∀ y, l[m]? = some y → ins y) ∧ Below w.heap.size w wr) (fun i _ _ _ _ _ _ => l.length - (intOf i).toNat)
  case atStart => exact ⟨0, [], none, 0, by omega, rfl, rfl, World.ownsRow_nil _ _ _ _, rfl, good_nil, rfl, fun m hm => absurd hm (by omega), Below.refl _ _⟩
  case round =>
    obtain ⟨k, out, R, cap, hk, rfl, rfl, own, hok, hg, hout, hins, hb⟩ := hrel
    by_cases hlt : k < l.length
    · obtain ⟨ad, rfl, hlb, d0, d1, hx⟩ := (h.below hb).at_ hlt
      have hst := okL_step out (prevE l k) (List.drop_eq_getElem_cons hlt)
      rw [← hok] at hst
      have hbs := blk_step hlt
      have HLK : Hid (l[k]? = some l[k]) := List.getElem?_eq_getElem hlt
      have hps := prevE_succ hlt
      have hsz := hb.size
      have b1 := hb.alloc hsz (.cells #[.int .i64 l[k].1, .int .i64 l[k].2] 47)
      obtain ⟨W1, HW1⟩ : ∃ W1, W1 = wr.alloc (.cells #[.int .i64 l[k].1, .int .i64 l[k].2] 47) := ⟨_, rfl⟩
      have own1 : OwnI (wr.alloc (.cells #[.int .i64 l[k].1, .int .i64 l[k].2] 47)) w.heap.size R cap out := own.alloc _
      have hat : W1.heap[wr.heap.size]? = some (.cells #[.int .i64 l[k].1, .int .i64 l[k].2] 47 (0, 0)) := by rw [HW1]; exact heap_alloc_new wr _
      have hs1 : wr.heap.size < W1.heap.size := (Array.getElem?_eq_some_iff.1 hat).1
      rw [← HW1] at b1 own1
      have HEN : Hid (k = 0 → prevE l k = 0) := fun e => by subst e; rfl
      have hprev : k ≠ 0 → ∃ s' n', (9 ≤ s' ∧ s' ≤ 31) ∧ (1 ≤ n' ∧ n' ≤ 32) ∧ prevE l k = s' + n' ∧ W1.cell? (ad.add ((k - 1) * 2)) = some (.int .i64 s') ∧ W1.cell? ⟨(ad.add ((k - 1) * 2)).block, (ad.add ((k - 1) * 2)).off + 1, none⟩ = some (.int .i64 n') := fun h0 => by
        have hlt' : k - 1 < l.length := by omega
        obtain ⟨ad', e', _, p0, p1, _⟩ := (h.below b1).at_ hlt'
        cases e'
        have hi := hins (k - 1) (by omega) _ (List.getElem?_eq_getElem hlt')
        unfold ins at hi
        refine ⟨_, _, ⟨hi.1, by omega⟩, ⟨hi.2.1, by omega⟩, ?_, p0, p1⟩
        have := prevE_succ hlt'
        rwa [show k - 1 + 1 = k from by omega] at this
      have HN := Lib.hid h
      have HI := Lib.hid hins
      have HO := Lib.hid hout
      have HPS := Lib.hid hps
      have HBS := Lib.hid hbs
      have HB := Lib.hid b1
      have HG := Lib.hid hg
      have HA := Lib.hid hat
      have OWN := Lib.hid own1
      have HPR := Lib.hid hprev
      clear b1 hb hg hat own own1 hok hout hins h hbs hps hprev
      generalize l[k] = x at *
      generalize prevE l k = en at *
      obtain ⟨s, n⟩ := x
      obtain ⟨hs0, hn0⟩ := hx
      simp only at d0 d1 hs0 hn0
      have c0 : W1.cell? ⟨wr.heap.size, 0, none⟩ = some (.int .i64 s) := by rw [cell_of_row _ _ _ _ _ _ HA.out]; rfl
      have c1 : W1.cell? ⟨wr.heap.size, 1, none⟩ = some (.int .i64 n) := by rw [cell_of_row _ _ _ _ _ _ HA.out]; rfl
      by_cases h1 : ins (s, n)
      · have h1' := h1
        unfold ins at h1'
        simp only at h1'
        obtain ⟨S, rfl⟩ : ∃ S : Nat, s = (S : Int) := ⟨s.toNat, by omega⟩
        obtain ⟨N, rfl⟩ : ∃ N : Nat, n = (N : Int) := ⟨n.toNat, by omega⟩
        have ew : IntKind.i64.wrap (32 - (S : Int)) = 32 - (S : Int) := by rw [IntKind.wrap_i64]; omega
        have hblk : ∀ j, j < N → IntKind.i64.wrap ((S : Int) + (j : Int)) = ((S + j : Nat) : Int) := fun j hj => by rw [IntKind.wrap_i64]; omega
        have hS : (((S : Int), (N : Int)) : EX).1.toNat = S := rfl
        have hN : (exB ((S : Int), (N : Int))).length = N := by rw [exB_len]; rfl
        rw [decide_eq_true h1, Bool.true_and] at hst
        have HI1 := Lib.hid h1
        have HBK := Lib.hid hblk
        clear h1 hblk
        by_cases hen : (S : Int) = en
        · have hk0 : k ≠ 0 := fun e => by
            subst e
            have : en = 0 := HEN.out rfl
            omega
          obtain ⟨s', n', i1, i2, e3, p0, p1⟩ := HPR.out hk0
          have hno : ok l = false := by rw [hst]; simp [hen]
          have HF := Lib.hid (fun n => BlocksOut.no hno (below_drewN HB.out n))
          have e4 : s' + n' = (S : Int) := by omega
          have k1 : decide (0 < k) = true := by simp; omega
          have k2 : (k : Int) - 1 = ((k - 1 : Nat) : Int) := by omega
          have k3 : k - 1 < l.length := by omega
          generalize k - 1 = m at *
          have kw : IntKind.i64.wrap (m : Int) = (m : Int) := by rw [IntKind.wrap_i64]; omega
          have k6 : IntKind.i64.wrap (s' + n') = (S : Int) := by rw [e4, IntKind.wrap_i64]; omega
          clear hst hno HPR HB OWN HPS HBS HO HI HG hen e3 e4 hk0 hS hN
          go_wp2_with fail
          rw [← HW1]
          clear HW1
          go_quiet (fail)
          go_wp2_with fail
          go_ret2
          exact HF.out _
        · have hst2 : ok l = (decide (∀ b ∈ exB ((S : Int), (N : Int)), b ∉ out) && okL (out ++ exB ((S : Int), (N : Int))) ((S : Int) + (N : Int)) (l.drop (k + 1))) := by rw [hst, decide_eq_true (show (((S : Int), (N : Int)) : EX).1 ≠ en from hen), Bool.true_and]
          have hen1 : ((S : Int) == en) = false := by simpa using hen
          clear hst
          have hst := hst2
          clear hst2
          by_cases hk0 : k = 0
          · have k1 : decide (0 < k) = false := by simp; omega
            clear hk0
            go_wp2_with fail
            rw [← HW1]
            clear HW1
            go_quiet (fail)
            go_wp2_with fail
            generalize wr.heap.size = g0 at *
            go_loopw [7, 4, 9] (fun i s _ W => ∃ (j : Nat) (out' : List Nat) (R : Option Addr) (cap : Nat), j ≤ N ∧ i = .int .i64 (j : Int) ∧ s = .slice R out'.length cap ∧ out' = out ++ (exB ((S : Int), (N : Int))).take j ∧ OwnI W w.heap.size R cap out' ∧ (∀ b ∈ (exB ((S : Int), (N : Int))).take j, b ∉ out) ∧ Below w.heap.size w W ∧ W.heap[g0]? = some (.cells #[.int .i64 (S : Int), .int .i64 (N : Int)] 47 (0, 0))) (fun i _ _ _ => N - (intOf i).toNat)
            case atStart => exact ⟨0, out, R, cap, by omega, rfl, rfl, by simp, OWN.out, fun b hb => by simp at hb, below_drewN HB.out _, HA.out⟩
            case round =>
              clear HA HB OWN c0 c1 HPR k1
              obtain ⟨j, out', R2, cap2, hj, rfl, rfl, hout', own2, hnew, hb2, hat2⟩ := hrel
              have c2 : wr.cell? ⟨g0, 0, none⟩ = some (.int .i64 (S : Int)) := by rw [cell_of_row _ _ _ _ _ _ hat2]; rfl
              have c3 : wr.cell? ⟨g0, 1, none⟩ = some (.int .i64 (N : Int)) := by rw [cell_of_row _ _ _ _ _ _ hat2]; rfl
              have hs2 : g0 < wr.heap.size := (Array.getElem?_eq_some_iff.1 hat2).1
              by_cases hjn : j < N
              · have ej := HBK.out j hjn
                have hir := own2.ir
                have hlen : out'.length ≤ 46 := by
                  rw [hout', List.length_append, List.length_take]
                  have := HG.out.len
                  have := (show (exB ((S : Int), (N : Int))).length = N from hN)
                  omega
                have HIR := Lib.hid hir
                have OWN2 := Lib.hid own2
                have HNEW := Lib.hid hnew
                have HB2 := Lib.hid hb2
                have HA2 := Lib.hid hat2
                have HOUT := Lib.hid hout'
                clear hir own2 hnew hb2 hat2 hout'
                go_wp2_with fail
                go_loop [66, 9] (fun i _ => ∃ (m : Nat), m ≤ out'.length ∧ i = .int .i64 (m : Int) ∧ ∀ m', m' < m → out'[m']? ≠ some (S + j)) (fun i _ => out'.length - (intOf i).toNat)
                case atStart => exact ⟨0, by omega, rfl, fun m' h => absurd h (by omega)⟩
                case round =>
                  obtain ⟨m, hm, rfl, hne⟩ := hrel
                  have HNE := Lib.hid hne
                  clear hne
                  by_cases hmo : m < out'.length
                  · obtain ⟨g, hR2, hgl, hc⟩ := HIR.out.at_ hmo
                    subst hR2
                    by_cases hy : out'[m] = S + j
                    · have hno : ok l = false := by
                        rw [hst]
                        have hmem : S + j ∈ out' := hy ▸ List.getElem_mem hmo
                        rw [HOUT.out] at hmem
                        have h3 : ¬ ∀ b ∈ exB ((S : Int), (N : Int)), b ∉ out := fun h => by
                          rcases List.mem_append.1 hmem with h4 | h4
                          · exact h (S + j) (by rw [exB_mem]; show S ≤ S + j ∧ S + j < S + N; omega) h4
                          · exact take_new (x := ((S : Int), (N : Int))) h4
                        rw [decide_eq_false h3]
                        simp
                      have HF := Lib.hid (BlocksOut.no hno HB2.out)
                      rw [hy] at hc
                      clear hst hno hy
                      go_wp2_with fail
                      go_ret2
                      exact HF.out
                    · have hy' : ((out'[m] : Nat) : Int) ≠ ((S + j : Nat) : Int) := by omega
                      have HY := Lib.hid hy
                      have HYM : Hid (out'[m]? = some out'[m]) := List.getElem?_eq_getElem hmo
                      generalize out'[m] = y at *
                      clear hy
                      go_wp2_with fail
                      go_round
                      case rel => exact ⟨m + 1, by omega, by go_num, fun m' hm' => by
                        by_cases e : m' = m
                        · subst e
                          rw [HYM.out]
                          intro e2
                          injection e2 with e2
                          exact HY.out e2
                        · exact HNE.out m' (by omega)⟩
                      case measure => simp [intOf]; omega
                  · obtain rfl : m = out'.length := by omega
                    have hnin : S + j ∉ out' := fun h => by
                      obtain ⟨i, hi, e⟩ := List.getElem_of_mem h
                      exact HNE.out i hi (by rw [List.getElem?_eq_getElem hi, e])
                    have ownA : OwnI (wr.alloc (.cells #[.int .i64 ((S + j : Nat) : Int)] 3)) w.heap.size R2 cap2 out' := OWN2.out.alloc _
                    have belA : Below w.heap.size w (wr.alloc (.cells #[.int .i64 ((S + j : Nat) : Int)] 3)) := HB2.out.alloc HB2.out.size _
                    have hatA : (wr.alloc (.cells #[.int .i64 ((S + j : Nat) : Int)] 3)).heap[g0]? = some (.cells #[.int .i64 (S : Int), .int .i64 (N : Int)] 47 (0, 0)) := (Below.heap_alloc _ _ _ hs2).trans HA2.out
                    obtain ⟨R', cap', w2, hap, own3, b3, o3⟩ := own_app ownA belA.size (by omega) (S + j) wr.heap.size (by rw [cell_of_row _ _ _ _ _ _ (heap_alloc_new wr _)]; rfl)
                    have hat3 := (o3 g0 (by simp; omega) (own_else ownA hatA)).trans hatA
                    have hts := take_step (x := ((S : Int), (N : Int))) (j := j) (by rw [hN]; exact hjn)
                    have hnew3 : ∀ b ∈ (exB ((S : Int), (N : Int))).take (j + 1), b ∉ out := fun b hb => by
                      rw [hts] at hb
                      rcases List.mem_append.1 hb with h4 | h4
                      · exact HNEW.out b h4
                      · simp only [List.mem_singleton] at h4
                        rw [h4]
                        exact fun h5 => hnin (by rw [HOUT.out]; exact List.mem_append.2 (.inl h5))
                    have hout3 : out' ++ [S + j] = out ++ (exB ((S : Int), (N : Int))).take (j + 1) := by
                      rw [hts, HOUT.out, List.append_assoc]
                      rfl
                    have HL : Hid ((out' ++ [S + j]).length = out'.length + 1) := by show _ = _; simp
                    have HAP := Lib.hid hap
                    have OWN3 := Lib.hid own3
                    have BEL := Lib.hid (belA.trans b3)
                    have HAT3 := Lib.hid hat3
                    have HNEW3 := Lib.hid hnew3
                    have HOUT3 := Lib.hid hout3
                    clear hnin ownA belA hatA hap own3 b3 o3 hat3 hts hnew3 hout3 HNE HIR OWN2 HB2 HNEW HOUT HA2 hst
                    generalize out' ++ [S + j] = out3 at *
                    generalize S + j = b at *
                    go_wp2_with (first | (at_builtin; refine wpList_append_run rfl _ _ 55 rfl _ HAP.out ?_) | fail)
                    go_roundw
                    case rel => exact ⟨j + 1, out3, R', cap', by omega, by go_num, by rw [HL.out], HOUT3.out, OWN3.out, HNEW3.out, BEL.out, HAT3.out⟩
                    case measure => simp [intOf]; omega
              · obtain rfl : j = N := by omega
                rw [List.take_of_length_le (by rw [hN]; omega)] at hout' hnew
                have hok3 : ok l = okL out' (prevE l (k + 1)) (l.drop (k + 1)) := by
                  rw [hst, decide_eq_true hnew, Bool.true_and, HPS.out, hout']
                have hg3 : Good out' := by rw [hout']; exact HG.out.add HI1.out hnew
                have hbl3 : out' = blkL (l.take (k + 1)) := by rw [hout', HBS.out, HO.out]
                have hins3 : ∀ m, m < k + 1 → ∀ y, l[m]? = some y → ins y := fun m hm y hy => by
                  by_cases e : m = k
                  · subst e
                    rw [HLK.out] at hy
                    injection hy with hy
                    subst hy
                    exact HI1.out
                  · exact HI.out m (by omega) y hy
                have HOK3 := Lib.hid hok3
                have HG3 := Lib.hid hg3
                have HBL3 := Lib.hid hbl3
                have HINS3 := Lib.hid hins3
                have OWN2 := Lib.hid own2
                have HB2 := Lib.hid hb2
                clear hok3 hg3 hbl3 hins3 own2 hb2 hst hnew hout' hat2 HPS HBS HO HG HI
                go_wp2_with fail
                go_roundw
                case rel => exact ⟨k + 1, out', R2, cap2, by omega, by go_num, rfl, OWN2.out, HOK3.out, HG3.out, HBL3.out, HINS3.out, HB2.out⟩
                case measure => simp [intOf]; omega
          · obtain ⟨s', n', i1, i2, e3, p0, p1⟩ := HPR.out hk0
            have k1 : decide (0 < k) = true := by simp; omega
            have k2 : (k : Int) - 1 = ((k - 1 : Nat) : Int) := by omega
            have k3 : k - 1 < l.length := by omega
            generalize k - 1 = m at *
            have kw : IntKind.i64.wrap (m : Int) = (m : Int) := by rw [IntKind.wrap_i64]; omega
            have k6 : IntKind.i64.wrap (s' + n') = en := by rw [e3, IntKind.wrap_i64]; omega
            clear hk0 e3
            go_wp2_with fail
            rw [← HW1]
            clear HW1
            go_quiet (fail)
            go_wp2_with fail
            generalize wr.heap.size = g0 at *
            go_loopw [7, 4, 9] (fun i s _ W => ∃ (j : Nat) (out' : List Nat) (R : Option Addr) (cap : Nat), j ≤ N ∧ i = .int .i64 (j : Int) ∧ s = .slice R out'.length cap ∧ out' = out ++ (exB ((S : Int), (N : Int))).take j ∧ OwnI W w.heap.size R cap out' ∧ (∀ b ∈ (exB ((S : Int), (N : Int))).take j, b ∉ out) ∧ Below w.heap.size w W ∧ W.heap[g0]? = some (.cells #[.int .i64 (S : Int), .int .i64 (N : Int)] 47 (0, 0))) (fun i _ _ _ => N - (intOf i).toNat)
            case atStart => exact ⟨0, out, R, cap, by omega, rfl, rfl, by simp, OWN.out, fun b hb => by simp at hb, below_drewN HB.out _, HA.out⟩
            case round =>
              clear HA HB OWN c0 c1 HPR k1 k2 k3 kw k6 p0 p1 i1 i2
              obtain ⟨j, out', R2, cap2, hj, rfl, rfl, hout', own2, hnew, hb2, hat2⟩ := hrel
              have c2 : wr.cell? ⟨g0, 0, none⟩ = some (.int .i64 (S : Int)) := by rw [cell_of_row _ _ _ _ _ _ hat2]; rfl
              have c3 : wr.cell? ⟨g0, 1, none⟩ = some (.int .i64 (N : Int)) := by rw [cell_of_row _ _ _ _ _ _ hat2]; rfl
              have hs2 : g0 < wr.heap.size := (Array.getElem?_eq_some_iff.1 hat2).1
              by_cases hjn : j < N
              · have ej := HBK.out j hjn
                have hir := own2.ir
                have hlen : out'.length ≤ 46 := by
                  rw [hout', List.length_append, List.length_take]
                  have := HG.out.len
                  have := (show (exB ((S : Int), (N : Int))).length = N from hN)
                  omega
                have HIR := Lib.hid hir
                have OWN2 := Lib.hid own2
                have HNEW := Lib.hid hnew
                have HB2 := Lib.hid hb2
                have HA2 := Lib.hid hat2
                have HOUT := Lib.hid hout'
                clear hir own2 hnew hb2 hat2 hout'
                go_wp2_with fail
                go_loop [66, 9] (fun i _ => ∃ (m : Nat), m ≤ out'.length ∧ i = .int .i64 (m : Int) ∧ ∀ m', m' < m → out'[m']? ≠ some (S + j)) (fun i _ => out'.length - (intOf i).toNat)
                case atStart => exact ⟨0, by omega, rfl, fun m' h => absurd h (by omega)⟩
                case round =>
                  obtain ⟨m, hm, rfl, hne⟩ := hrel
                  have HNE := Lib.hid hne
                  clear hne
                  by_cases hmo : m < out'.length
                  · obtain ⟨g, hR2, hgl, hc⟩ := HIR.out.at_ hmo
                    subst hR2
                    by_cases hy : out'[m] = S + j
                    · have hno : ok l = false := by
                        rw [hst]
                        have hmem : S + j ∈ out' := hy ▸ List.getElem_mem hmo
                        rw [HOUT.out] at hmem
                        have h3 : ¬ ∀ b ∈ exB ((S : Int), (N : Int)), b ∉ out := fun h => by
                          rcases List.mem_append.1 hmem with h4 | h4
                          · exact h (S + j) (by rw [exB_mem]; show S ≤ S + j ∧ S + j < S + N; omega) h4
                          · exact take_new (x := ((S : Int), (N : Int))) h4
                        rw [decide_eq_false h3]
                        simp
                      have HF := Lib.hid (BlocksOut.no hno HB2.out)
                      rw [hy] at hc
                      clear hst hno hy
                      go_wp2_with fail
                      go_ret2
                      exact HF.out
                    · have hy' : ((out'[m] : Nat) : Int) ≠ ((S + j : Nat) : Int) := by omega
                      have HY := Lib.hid hy
                      have HYM : Hid (out'[m]? = some out'[m]) := List.getElem?_eq_getElem hmo
                      generalize out'[m] = y at *
                      clear hy
                      go_wp2_with fail
                      go_round
                      case rel => exact ⟨m + 1, by omega, by go_num, fun m' hm' => by
                        by_cases e : m' = m
                        · subst e
                          rw [HYM.out]
                          intro e2
                          injection e2 with e2
                          exact HY.out e2
                        · exact HNE.out m' (by omega)⟩
                      case measure => simp [intOf]; omega
                  · obtain rfl : m = out'.length := by omega
                    have hnin : S + j ∉ out' := fun h => by
                      obtain ⟨i, hi, e⟩ := List.getElem_of_mem h
                      exact HNE.out i hi (by rw [List.getElem?_eq_getElem hi, e])
                    have ownA : OwnI (wr.alloc (.cells #[.int .i64 ((S + j : Nat) : Int)] 3)) w.heap.size R2 cap2 out' := OWN2.out.alloc _
                    have belA : Below w.heap.size w (wr.alloc (.cells #[.int .i64 ((S + j : Nat) : Int)] 3)) := HB2.out.alloc HB2.out.size _
                    have hatA : (wr.alloc (.cells #[.int .i64 ((S + j : Nat) : Int)] 3)).heap[g0]? = some (.cells #[.int .i64 (S : Int), .int .i64 (N : Int)] 47 (0, 0)) := (Below.heap_alloc _ _ _ hs2).trans HA2.out
                    obtain ⟨R', cap', w2, hap, own3, b3, o3⟩ := own_app ownA belA.size (by omega) (S + j) wr.heap.size (by rw [cell_of_row _ _ _ _ _ _ (heap_alloc_new wr _)]; rfl)
                    have hat3 := (o3 g0 (by simp; omega) (own_else ownA hatA)).trans hatA
                    have hts := take_step (x := ((S : Int), (N : Int))) (j := j) (by rw [hN]; exact hjn)
                    have hnew3 : ∀ b ∈ (exB ((S : Int), (N : Int))).take (j + 1), b ∉ out := fun b hb => by
                      rw [hts] at hb
                      rcases List.mem_append.1 hb with h4 | h4
                      · exact HNEW.out b h4
                      · simp only [List.mem_singleton] at h4
                        rw [h4]
                        exact fun h5 => hnin (by rw [HOUT.out]; exact List.mem_append.2 (.inl h5))
                    have hout3 : out' ++ [S + j] = out ++ (exB ((S : Int), (N : Int))).take (j + 1) := by
                      rw [hts, HOUT.out, List.append_assoc]
                      rfl
                    have HL : Hid ((out' ++ [S + j]).length = out'.length + 1) := by show _ = _; simp
                    have HAP := Lib.hid hap
                    have OWN3 := Lib.hid own3
                    have BEL := Lib.hid (belA.trans b3)
                    have HAT3 := Lib.hid hat3
                    have HNEW3 := Lib.hid hnew3
                    have HOUT3 := Lib.hid hout3
                    clear hnin ownA belA hatA hap own3 b3 o3 hat3 hts hnew3 hout3 HNE HIR OWN2 HB2 HNEW HOUT HA2 hst
                    generalize out' ++ [S + j] = out3 at *
                    generalize S + j = b at *
                    go_wp2_with (first | (at_builtin; refine wpList_append_run rfl _ _ 55 rfl _ HAP.out ?_) | fail)
                    go_roundw
                    case rel => exact ⟨j + 1, out3, R', cap', by omega, by go_num, by rw [HL.out], HOUT3.out, OWN3.out, HNEW3.out, BEL.out, HAT3.out⟩
                    case measure => simp [intOf]; omega
              · obtain rfl : j = N := by omega
                rw [List.take_of_length_le (by rw [hN]; omega)] at hout' hnew
                have hok3 : ok l = okL out' (prevE l (k + 1)) (l.drop (k + 1)) := by
                  rw [hst, decide_eq_true hnew, Bool.true_and, HPS.out, hout']
                have hg3 : Good out' := by rw [hout']; exact HG.out.add HI1.out hnew
                have hbl3 : out' = blkL (l.take (k + 1)) := by rw [hout', HBS.out, HO.out]
                have hins3 : ∀ m, m < k + 1 → ∀ y, l[m]? = some y → ins y := fun m hm y hy => by
                  by_cases e : m = k
                  · subst e
                    rw [HLK.out] at hy
                    injection hy with hy
                    subst hy
                    exact HI1.out
                  · exact HI.out m (by omega) y hy
                have HOK3 := Lib.hid hok3
                have HG3 := Lib.hid hg3
                have HBL3 := Lib.hid hbl3
                have HINS3 := Lib.hid hins3
                have OWN2 := Lib.hid own2
                have HB2 := Lib.hid hb2
                clear hok3 hg3 hbl3 hins3 own2 hb2 hst hnew hout' hat2 HPS HBS HO HG HI
                go_wp2_with fail
                go_roundw
                case rel => exact ⟨k + 1, out', R2, cap2, by omega, by go_num, rfl, OWN2.out, HOK3.out, HG3.out, HBL3.out, HINS3.out, HB2.out⟩
                case measure => simp [intOf]; omega
      · have hno : ok l = false := by rw [hst]; simp [h1]
        have HF := Lib.hid (BlocksOut.no hno HB.out)
        rw [HW1] at HF
        clear hst hno HPR HA c0 c1 HB OWN hs1 HPS HBS HO HI HG
        unfold ins at h1
        simp only at h1
        clear HW1
        by_cases a1 : s < 9
        · go_wp2_with fail
          go_ret2
          exact HF.out
        by_cases a2 : 32 ≤ s
        · go_wp2_with fail
          go_ret2
          exact HF.out
        by_cases a3 : n < 1
        · clear h1
          go_wp2_with fail
          go_ret2
          exact HF.out
        have a4 : 32 - s < n := by omega
        have ew : IntKind.i64.wrap (32 - s) = 32 - s := by rw [IntKind.wrap_i64]; omega
        clear h1
        go_wp2_with fail
        go_ret2
        exact HF.out
    · obtain rfl : k = l.length := by omega
      have hy : ok l = true := by rw [hok, List.drop_length, okL]
      rw [List.take_length] at hout
      subst hout
      have HY := Lib.hid hy
      have OWN := Lib.hid own
      clear hok hy hg h hins own
      go_wp2_with fail
      go_ret2
      exact ⟨R, cap, by rw [blkO_yes HY.out, HY.out]; rfl, by rw [blkO_yes HY.out]; exact OWN.out, hb⟩
end Go.Proofs.Ytcldbgmbkcpdgaa.Ex
