/-
  The contracts of the document's Waiting and Read.
-/
import Derived.Test.YthbdhmjmboliiaaRDSmall
namespace Go.Proofs.Ythbdhmjmboliiaa
open Go.RowKit

/-! ### rows of numbers -/
def OwnI (w : World) (B : Nat) (R : Option Addr) (cap : Nat) (l : List Nat) : Prop := w.ownsRow B 3 1 (.slice R l.length cap) l.length (l.map fun (k : Nat) => Value.int .i64 (k : Int))
theorem Try.infoInt : (Try.prog.info? 3).map (fun i => (i.zero, i.size, i.bytes)) = some (some (.int .i64 0), 1, 8) := by kernel_rfl
theorem OwnI.app {w : World} {B : Nat} {R : Option Addr} {cap : Nat} {l : List Nat} (h : OwnI w B R cap l) (hB : B ≤ w.heap.size) (hl : l.length ≤ 1954687338212) (x : Nat) (g : Nat) (hg : w.cell? ⟨g, 0, none⟩ = some (.int .i64 (x : Int))) :
    ∃ R' cap' w', (Builtin.append_ #[49, 49] 49 #[.slice R l.length cap, .slice (some ⟨g, 0, none⟩) 1 1]).run Try.prog w = .ok (.slice R' (l.length + 1) cap') w' ∧ OwnI w' B R' cap' (l ++ [x]) ∧ Below B w w' := by
  obtain ⟨i0, hi, hz0, hz1, hz2⟩ := info_parts Try.infoInt
  obtain ⟨v', w', hrun, hown, hg, _, _⟩ := run_append_own_at (P := Try.prog) w B 49 49 3 i0 (.int .i64 0) 1 8 Try.underlying49 hi hz0 hz1 hz2 rfl (by decide) _ l.length _ h ⟨g, 0, none⟩ 1 1 [.int .i64 (x : Int)] rfl (fun j u hu => by
    match j, hu with
    | 0, hu => cases hu; exact hg
    | j + 1, hu => simp at hu) (by intro u hu; simp at hu; subst hu; rfl) (by unfold maxLen; omega) (by omega) hB
  obtain ⟨g', cap', rfl, _, _⟩ := World.ownsRow.form hown (by omega)
  refine ⟨_, cap', w', hrun, ?_, ⟨hg.os, hg.tape, hg.output, hg.size, fun k hk => hg.block k (by omega) (fun e => by have := (World.ownsRow.lt h k e.symm).1; omega)⟩⟩
  unfold OwnI
  rw [List.length_append, List.map_append]
  exact hown
/-- Numbers that lie somewhere. -/
def IR (w : World) (R : Option Addr) (l : List Nat) : Prop := ∀ (k x : Nat), l[k]? = some x → ∃ g, R = some ⟨g, 0, none⟩ ∧ g < w.heap.size ∧ w.cell? ⟨g, k, none⟩ = some (.int .i64 (x : Int))
theorem OwnI.ir {w : World} {B : Nat} {R : Option Addr} {cap : Nat} {l : List Nat} (h : OwnI w B R cap l) : IR w R l := by
  intro k x hx
  have hk : k < l.length := (List.getElem?_eq_some_iff.1 hx).1
  obtain ⟨g, c, hv, _, hlt⟩ := World.ownsRow.form h (by omega)
  injection hv with e1 _ e3
  subst e1 e3
  exact ⟨g, rfl, hlt, by rw [World.ownsRow.cellAt h k (by omega)]; simp [hx]⟩
theorem IR.keep {w w' : World} {R : Option Addr} {l : List Nat} (h : IR w R l) (k : Keeps (fun _ => False) w w') : IR w' R l := fun i x hx => by
  obtain ⟨g, e, hlt, hc⟩ := h i x hx
  exact ⟨g, e, Nat.lt_of_lt_of_le hlt k.size, (k.cell g i hlt (fun h => h)).trans hc⟩
def GivesI (w : World) (l : List Nat) (e : Ending) (w' : World) : Prop := ∃ R c, e = .returned (.slice R l.length c) ∧ IR w' R l ∧ Below w.heap.size w w'

/-- The numbers of the first j writes that wait. -/
def nums (Q : List (Nat × List UInt8)) (j : Nat) : List Nat := (Q.take j).map (·.1)
theorem nums_len (Q : List (Nat × List UInt8)) (j : Nat) (h : j ≤ Q.length) : (nums Q j).length = j := by simp [nums]; omega
theorem nums_succ (Q : List (Nat × List UInt8)) (j : Nat) (h : j < Q.length) : nums Q (j + 1) = nums Q j ++ [Q[j].1] := by
  unfold nums
  rw [List.take_succ_eq_append_getElem h, List.map_append]
  rfl
theorem nums_all (Q : List (Nat × List UInt8)) : nums Q Q.length = Q.map (·.1) := by simp [nums]

set_option maxHeartbeats 1000000 in
theorem rwaiting_any {w : World} {F : Nat → Prop} {p n : Nat} {sv wv : Value} {svs : List Value} {ws : List (Nat × Value)} {D : DSt} (h : RDat w F p n sv wv svs ws D) (hQ : D.Q.length ≤ 1954687338212) :
    Calls Try.prog 33 #[.pointer (some ⟨p, 0, none⟩)] w (GivesI w (D.Q.map (·.1))) := by
  obtain ⟨A', cap', hv⟩ := h.wvf
  subst hv
  obtain ⟨_, hp, _⟩ := h.c
  go_enter Try.func33, Try.ntmps33
  go_wp2_with fail
  clear hp
  go_loopw [11, 3] (fun i s wr => ∃ (j : Nat) (R : Option Addr) (cap : Nat), j ≤ D.Q.length ∧ i = .int .i64 (j : Int) ∧ s = .slice R j cap ∧ OwnI wr w.heap.size R cap (nums D.Q j) ∧ Below w.heap.size w wr) (fun i _ _ => D.Q.length - (intOf i).toNat)
  case atStart => exact ⟨0, none, 0, by omega, rfl, rfl, World.ownsRow_nil _ _ _ _, Below.refl _ _⟩
  case round =>
    obtain ⟨j, R, cap, hj, rfl, rfl, own, bel⟩ := hrel
    by_cases hlt : j < D.Q.length
    · have kp : Keeps (fun _ => False) w wr := ⟨bel.os, bel.tape, bel.output, bel.size, fun b hb _ => bel.block b hb⟩
      obtain ⟨g, cap2, v, hv, d0, d1, sl⟩ := (h.same kp).wat j hlt
      cases hv
      obtain ⟨R1, c1, rfl, _, _⟩ := sl.br
      have hl := nums_len D.Q j hj
      have hs := nums_succ D.Q j hlt
      generalize D.Q[j].1 = x at *
      have own2 : OwnI ((wr.alloc (.cells #[.int .i64 (x : Int), .slice R1 64 c1] 79)).alloc (.cells #[.int .i64 (x : Int)] 3)) w.heap.size R cap (nums D.Q j) := (own.alloc _).alloc _
      have bel2 : Below w.heap.size w ((wr.alloc (.cells #[.int .i64 (x : Int), .slice R1 64 c1] 79)).alloc (.cells #[.int .i64 (x : Int)] 3)) := (bel.alloc bel.size _).alloc (by have := bel.size; simp; omega) _
      obtain ⟨R', cap3, w2, hap, own3, b3⟩ := own2.app bel2.size (by omega) x (wr.heap.size + 1) (by rw [cell_of_row _ _ _ _ _ _ (heap_alloc2_new wr _ _)]; rfl)
      rw [hl] at hap
      rw [← hs] at own3
      have HAP := Lib.hid hap
      have OWN := Lib.hid own3
      have bel3 := bel2.trans b3
      clear kp hl hs own own2 own3 hap b3 bel2 sl
      go_wp2_with (first | (at_builtin; refine wpList_append_run rfl _ _ 49 rfl _ HAP.out ?_) | fail)
      go_roundw
      case rel => exact ⟨j + 1, R', cap3, by omega, by go_num, rfl, OWN.out, bel3⟩
      case measure => simp [intOf]; omega
    · obtain rfl : j = D.Q.length := by omega
      have hl := nums_all D.Q
      rw [hl] at own
      have hh : (D.Q.map (·.1)).length = D.Q.length := by simp
      go_wp2_with fail
      go_ret
      exact ⟨R, cap, by rw [hh]; rfl, own.ir, bel⟩

/-! ### Read -/
def GivesRR (w : World) (zs : List UInt8) (err : Int) (e : Ending) (w' : World) : Prop := ∃ R n c, e = .returned (.tuple #[.slice R n c, .int .i64 err]) ∧ zs.length = n ∧ BR w' w'.heap.size R zs ∧ Keeps (fun _ => False) w w'
/-- A sector as written by the first k that wait. -/
def nowTo (D : DSt) (i k : Nat) : List UInt8 := (lastW (D.Q.take k) i).getD (sec D.L i)
theorem nowTo_all (D : DSt) (i : Nat) : nowTo D i D.Q.length = D.now i := by unfold nowTo DSt.now; rw [List.take_length]
theorem nowTo_yes (D : DSt) (i k : Nat) (hk : k < D.Q.length) (h : D.Q[k].1 = i) : nowTo D i (k + 1) = D.Q[k].2 := by
  unfold nowTo
  rw [List.take_succ_eq_append_getElem hk, show (D.Q.take k ++ [D.Q[k]]) = (D.Q.take k ++ [(D.Q[k].1, D.Q[k].2)]) from rfl, lastW_snoc, if_pos h]
  rfl
theorem nowTo_no (D : DSt) (i k : Nat) (hk : k < D.Q.length) (h : ¬ D.Q[k].1 = i) : nowTo D i (k + 1) = nowTo D i k := by
  unfold nowTo
  rw [List.take_succ_eq_append_getElem hk, show (D.Q.take k ++ [D.Q[k]]) = (D.Q.take k ++ [(D.Q[k].1, D.Q[k].2)]) from rfl, lastW_snoc, if_neg h]
theorem keeps_below {w w' : World} (h : Below w.heap.size w w') : Keeps (fun _ => False) w w' := ⟨h.os, h.tape, h.output, h.size, fun b hb _ => h.block b hb⟩

set_option maxHeartbeats 1000000 in
theorem rread_in {w : World} {F : Nat → Prop} {p n : Nat} {sv wv : Value} {svs : List Value} {ws : List (Nat × Value)} {D : DSt} (h : RDat w F p n sv wv svs ws D) (hd : D.down = false) (i : Nat) (hi : i < n) (hQ : D.Q.length ≤ 1954687338212) :
    Calls Try.prog 31 #[.pointer (some ⟨p, 0, none⟩), .int .i64 (i : Int)] w (GivesRR w (D.now i) 0) := by
  obtain ⟨A', cap', hv⟩ := h.wvf
  subst hv
  obtain ⟨g0, cap0, R0, c0', hsv, s0, _, _, _⟩ := h.at_ i hi
  subst hsv
  have sl0 : SL w (fun _ => True) (.slice R0 64 c0') (nowTo D i 0) := by
    obtain ⟨v, e, s⟩ := h.secs i hi
    have := World.ownsRow.cells h.own (g := g0) rfl i _ e
    have e0 : (⟨g0, 0, none⟩ : Addr).add i = ⟨g0, i, none⟩ := by unfold Addr.add; split <;> simp_all
    rw [e0, s0] at this
    cases this
    exact s.mono fun _ _ _ => trivial
  obtain ⟨d0, d1, d2, d3, d4, _⟩ := h.c
  have hn := h.ok.n_le
  have hi' : (i : Int) < (n : Int) := by omega
  rw [hd] at d3
  clear d2 d4 hd
  go_enter Try.func31, Try.ntmps31
  go_wp2_with fail
  refine (rhas_yes h (i : Int) (by omega) hi').mono ?_
  rintro e w' ⟨rfl, rfl⟩
  go_wp2_with fail
  clear d0 d1 d3 s0
  go_loopw [29, 6] (fun t b wr => ∃ (k : Nat) (R : Option Addr) (c : Nat), k ≤ D.Q.length ∧ t = .int .i64 (k : Int) ∧ b = .slice R 64 c ∧ SL wr (fun _ => True) (.slice R 64 c) (nowTo D i k) ∧ Below w.heap.size w wr) (fun t _ _ => D.Q.length - (intOf t).toNat)
  case atStart => exact ⟨0, R0, c0', by omega, rfl, rfl, sl0, Below.refl _ _⟩
  case round =>
    clear sl0
    obtain ⟨k, R, c, hk, rfl, rfl, sl, bel⟩ := hrel
    by_cases hlt : k < D.Q.length
    · obtain ⟨g, cap2, v, hv, e0, e1, sw⟩ := (h.same (keeps_below bel)).wat k hlt
      cases hv
      obtain ⟨R1, c1, rfl, _, _⟩ := sw.br
      have bel2 : Below w.heap.size w (wr.alloc (.cells #[.int .i64 (D.Q[k].1 : Int), .slice R1 64 c1] 79)) := bel.alloc bel.size _
      have ka : Keeps (fun _ => False) wr (wr.alloc (.cells #[.int .i64 (D.Q[k].1 : Int), .slice R1 64 c1] 79)) := Keeps.alloc _ _ _
      have slA := sl.keep ka fun _ _ _ h => h
      have swA := (sw.mono (P' := fun _ => True) fun _ _ _ => trivial).keep ka fun _ _ _ h => h
      by_cases he : D.Q[k].1 = i
      · have HN := Lib.hid (nowTo_yes D i k hlt he)
        have hb : ((D.Q[k].1 : Int) == (i : Int)) = true := by simp [he]
        rw [← HN.out] at swA
        have SW := Lib.hid swA
        generalize D.Q[k].1 = x at *
        clear sl sw ka slA swA he
        go_wp2_with fail
        go_roundw
        case rel => exact ⟨k + 1, R1, c1, by omega, by go_num, rfl, SW.out, bel2⟩
        case measure => simp [intOf]; omega
      · have HN := Lib.hid (nowTo_no D i k hlt he)
        have hb : ((D.Q[k].1 : Int) == (i : Int)) = false := by simp; omega
        rw [← HN.out] at slA
        have SW := Lib.hid slA
        generalize D.Q[k].1 = x at *
        clear sl sw ka slA swA he
        go_wp2_with fail
        go_roundw
        case rel => exact ⟨k + 1, R, c, by omega, by go_num, rfl, SW.out, bel2⟩
        case measure => simp [intOf]; omega
    · obtain rfl : k = D.Q.length := by omega
      obtain ⟨R1, c1, hv, br, hl⟩ := sl.br
      cases hv
      rw [nowTo_all] at br hl
      obtain ⟨R2, c2, w2, hap, own, b2⟩ := run_append8 (P := Try.prog) wr 30 30 5 Try.info8 Try.underlying30 R (D.now i) c br (by omega)
      rw [hl] at hap
      have HAP := Lib.hid hap
      have br2 := own.br
      have kp := keeps_below (bel.trans (b2.mono bel.size))
      clear hap own br sl b2
      go_wp2_with (first | (at_builtin; refine wpList_append_run rfl _ _ 30 rfl _ HAP.out ?_) | fail)
      go_ret2
      exact ⟨R2, 64, c2, rfl, hl, br2, kp⟩
theorem rread_any {w : World} {F : Nat → Prop} {p : Nat} {D : DSt} (h : RD w F p D) (i : Int) (hQ : D.Q.length ≤ 1954687338212) :
    Calls Try.prog 31 #[.pointer (some ⟨p, 0, none⟩), .int .i64 i] w (GivesRR w (D.readAt i) (D.readErr i)) := by
  obtain ⟨n, sv, wv, svs, ws, h⟩ := h
  have hn := h.ok.n_eq
  cases hd : D.down with
  | true =>
    have e1 : D.readAt i = [] := by unfold DSt.readAt; rw [if_pos hd]
    have e2 : D.readErr i = 20 := by unfold DSt.readErr; rw [if_pos hd]
    rw [e1, e2]
    obtain ⟨_, _, _, d3, _⟩ := h.c
    rw [hd] at d3
    clear e1 e2 h hn
    go_enter Try.func31, Try.ntmps31
    go_wp2_with fail
    go_ret2
    exact ⟨none, 0, 0, rfl, rfl, BR.nil, Keeps.refl _ _⟩
  | false =>
    by_cases hi : 0 ≤ i ∧ i < n
    · obtain ⟨k, rfl⟩ := Int.eq_ofNat_of_zero_le hi.1
      have e1 : D.readAt (k : Int) = D.now k := by unfold DSt.readAt; rw [if_neg (by rw [hd]; simp), if_pos (by rw [hn]; omega)]; rfl
      have e2 : D.readErr (k : Int) = 0 := by unfold DSt.readErr; rw [if_neg (by rw [hd]; simp), if_pos (by rw [hn]; omega)]
      rw [e1, e2]
      exact rread_in h hd k (by omega) hQ
    · have e1 : D.readAt i = [] := by unfold DSt.readAt; rw [if_neg (by rw [hd]; simp), if_neg (by rw [hn]; exact hi)]
      have e2 : D.readErr i = 1 := by unfold DSt.readErr; rw [if_neg (by rw [hd]; simp), if_neg (by rw [hn]; exact hi)]
      rw [e1, e2]
      obtain ⟨_, _, _, d3, _⟩ := h.c
      rw [hd] at d3
      have hi' : i < 0 ∨ (n : Int) ≤ i := by omega
      have HI := Lib.hid hi'
      clear e1 e2 hn hi hi'
      go_enter Try.func31, Try.ntmps31
      go_wp2_with fail
      refine (rhas_no h i HI.out).mono ?_
      rintro e w' ⟨rfl, rfl⟩
      go_wp2_with fail
      go_ret2
      exact ⟨none, 0, 0, rfl, rfl, BR.nil, Keeps.refl _ _⟩
end Go.Proofs.Ythbdhmjmboliiaa
