/-
  Merged by wip/tools/merge.py: SnStore SnBecome SnFormat SnUndo
-/
import Derived.Test.YtebecpjecchfoaaGreatDoorGSnC
import Derived.Test.YtebecpjecchfoaaGreatDoorGSnB
import Derived.Test.YtebecpjecchfoaaGreatDoorGSnD
namespace Go.Proofs.YtebecpjecchfoaaGreatDoor.St
set_option linter.unusedSimpArgs false
set_option linter.unusedVariables false
open Go.RowKit Go.Maps

/-- Nobody's store: none, or one without a list. -/
def NoS (w : World) (v : Option Addr) : Prop := v = none ∨ ∃ p, v = some ⟨p, 0, none⟩ ∧ p < w.heap.size ∧ w.cell? ⟨p, 3, none⟩ = some (.slice none 0 0)
theorem NoS.keep {w w' : World} {v : Option Addr} (h : NoS w v) (k : Keeps (fun _ => False) w w') : NoS w' v := by
  rcases h with h | ⟨p, e, hl, hc⟩
  · exact .inl h
  · exact .inr ⟨p, e, Nat.lt_of_lt_of_le hl k.size, (k.cell p 3 hl (fun h => h)).trans hc⟩
section
variable {w : World} {v : Option Addr}
set_option maxRecDepth 100000 in
set_option maxHeartbeats 400000 in
theorem made_no (h : NoS w v) : Calls Tryz.prog 72 #[.pointer v] w fun e w' => e = .returned (.bool false) ∧ w = w' := by
  rcases h with rfl | ⟨p, rfl, _, hc⟩
  · go_enter Tryz.func72, Tryz.ntmps72
    go_wp2_with fail
    go_ret
    exact ⟨rfl, rfl⟩
  · go_enter Tryz.func72, Tryz.ntmps72
    go_wp2_with fail
    go_ret
    exact ⟨rfl, rfl⟩
set_option maxRecDepth 100000 in
theorem fault_no (h : NoS w v) : Calls Tryz.prog 82 #[.pointer v] w fun e w' => e = .returned (.int .i64 3) ∧ w = w' := by
  go_enter Tryz.func82, Tryz.ntmps82
  go_wp2_with fail
  refine (made_no h).mono ?_
  rintro e w2 ⟨rfl, rfl⟩
  go_wp2_with fail
  go_ret
  exact ⟨rfl, rfl⟩
set_option maxRecDepth 100000 in
theorem read_no (h : NoS w v) (i : Int) : Calls Tryz.prog 41 #[.pointer v, .int .i64 i] w fun e w' => e = .returned (.tuple #[.slice none 0 0, .int .i64 3]) ∧ w = w' := by
  go_enter Tryz.func41, Tryz.ntmps41
  go_wp2_with fail
  refine (fault_no h).mono ?_
  rintro e w2 ⟨rfl, rfl⟩
  go_wp2_with fail
  go_ret2
  exact ⟨rfl, rfl⟩
set_option maxRecDepth 100000 in
theorem write_no (h : NoS w v) (i : Int) (A : Option Addr) (n c : Nat) : Calls Tryz.prog 37 #[.pointer v, .int .i64 i, .slice A n c] w fun e w' => e = .returned (.int .i64 3) ∧ w = w' := by
  go_enter Tryz.func37, Tryz.ntmps37
  go_wp2_with fail
  refine (fault_no h).mono ?_
  rintro e w2 ⟨rfl, rfl⟩
  go_wp2_with fail
  go_ret
  exact ⟨rfl, rfl⟩
set_option maxRecDepth 100000 in
theorem commit_no (h : NoS w v) : Calls Tryz.prog 31 #[.pointer v] w fun e w' => e = .returned (.int .i64 3) ∧ w = w' := by
  go_enter Tryz.func31, Tryz.ntmps31
  go_wp2_with fail
  refine (fault_no h).mono ?_
  rintro e w2 ⟨rfl, rfl⟩
  go_wp2_with fail
  go_ret
  exact ⟨rfl, rfl⟩
set_option maxRecDepth 100000 in
theorem undo_no (h : NoS w v) (i : Int) : Calls Tryz.prog 42 #[.pointer v, .int .i64 i] w fun e w' => e = .returned (.int .i64 3) ∧ w = w' := by
  go_enter Tryz.func42, Tryz.ntmps42
  go_wp2_with fail
  refine (fault_no h).mono ?_
  rintro e w2 ⟨rfl, rfl⟩
  go_wp2_with fail
  go_ret
  exact ⟨rfl, rfl⟩
set_option maxRecDepth 100000 in
theorem abort_no (h : NoS w v) : Calls Tryz.prog 40 #[.pointer v] w fun e w' => e = .returned (.tuple #[]) ∧ w = w' := by
  go_enter Tryz.func40, Tryz.ntmps40
  go_wp2_with fail
  refine (made_no h).mono ?_
  rintro e w2 ⟨rfl, rfl⟩
  go_wp2_with fail
  go_end0
  exact ⟨rfl, rfl⟩
set_option maxRecDepth 100000 in
theorem snaps_no (h : NoS w v) : Calls Tryz.prog 23 #[.pointer v] w fun e w' => e = .returned (.slice none 0 0) ∧ w = w' := by
  go_enter Tryz.func23, Tryz.ntmps23
  go_wp2_with fail
  refine (made_no h).mono ?_
  rintro e w2 ⟨rfl, rfl⟩
  go_wp2_with fail
  go_ret
  exact ⟨rfl, rfl⟩
set_option maxRecDepth 100000 in
theorem free_no (h : NoS w v) : Calls Tryz.prog 25 #[.pointer v] w fun e w' => e = .returned (.int .i64 0) ∧ w = w' := by
  go_enter Tryz.func25, Tryz.ntmps25
  go_wp2_with fail
  refine (made_no h).mono ?_
  rintro e w2 ⟨rfl, rfl⟩
  go_wp2_with fail
  go_ret
  exact ⟨rfl, rfl⟩
set_option maxRecDepth 100000 in
theorem used_no (h : NoS w v) : Calls Tryz.prog 24 #[.pointer v] w fun e w' => e = .returned (.slice none 0 0) ∧ w = w' := by
  go_enter Tryz.func24, Tryz.ntmps24
  go_wp2_with fail
  refine (made_no h).mono ?_
  rintro e w2 ⟨rfl, rfl⟩
  go_wp2_with fail
  go_ret
  exact ⟨rfl, rfl⟩
set_option maxRecDepth 100000 in
theorem down_no (h : NoS w v) : Calls Tryz.prog 30 #[.pointer v] w fun e w' => e = .returned (.bool false) ∧ w = w' := by
  go_enter Tryz.func30, Tryz.ntmps30
  go_wp2_with fail
  refine (made_no h).mono ?_
  rintro e w2 ⟨rfl, rfl⟩
  go_wp2_with fail
  go_ret
  exact ⟨rfl, rfl⟩
end
/-! ### a store that was made -/
section
variable {w : World} {Fd : Nat → Prop} {t : TypeId} {p dp : Nat} {S : SSt} {D : DSt} {d : Bool}
theorem SnAt.list (h : SnAt w Fd t [.bool d] p dp S D) (hl : S.l ≠ []) : ∃ ad, w.cell? ⟨p, 3, none⟩ = some (.slice (some ad) S.l.length S.c) := by
  obtain ⟨ad, e, _⟩ := h.row.ar hl
  exact ⟨ad, by rw [h.c3, e]⟩
theorem SnAt.cd (h : SnAt w Fd t [.bool d] p dp S D) : w.cell? ⟨p, 16388, none⟩ = some (.bool d) := by
  rw [cell_of_row _ _ _ _ _ _ h.head]
  rw [List.getElem?_toArray]
  unfold scells
  rw [List.getElem?_append_right (by rw [hlen]; omega), hlen, List.getElem?_append_right (by rw [List.length_map, h.ok.saved]; omega), List.length_map, h.ok.saved, List.getElem?_append_right (by rw [List.length_map, h.ok.live]; omega), List.length_map, h.ok.live]
  rfl
set_option maxRecDepth 100000 in
set_option maxHeartbeats 400000 in
theorem made_at (h : SnAt w Fd t [.bool d] p dp S D) (hl : S.l ≠ []) : Calls Tryz.prog 72 #[.pointer (some ⟨p, 0, none⟩)] w fun e w' => e = .returned (.bool true) ∧ w = w' := by
  obtain ⟨ad, hc⟩ := h.list hl
  clear h
  go_enter Tryz.func72, Tryz.ntmps72
  go_wp2_with fail
  go_ret
  exact ⟨rfl, rfl⟩
set_option maxRecDepth 100000 in
theorem fault_at (h : SnAt w Fd t [.bool d] p dp S D) (hl : S.l ≠ []) : Calls Tryz.prog 82 #[.pointer (some ⟨p, 0, none⟩)] w fun e w' => e = .returned (.int .i64 (if d = true then 20 else 0)) ∧ w = w' := by
  have hm := made_at h hl
  have hc := h.cd
  clear h
  cases d with
  | true =>
    go_enter Tryz.func82, Tryz.ntmps82
    go_wp2_with fail
    refine hm.mono ?_
    rintro e w2 ⟨rfl, rfl⟩
    go_wp2_with fail
    go_ret
    exact ⟨rfl, rfl⟩
  | false =>
    go_enter Tryz.func82, Tryz.ntmps82
    go_wp2_with fail
    refine hm.mono ?_
    rintro e w2 ⟨rfl, rfl⟩
    go_wp2_with fail
    go_ret
    exact ⟨rfl, rfl⟩
set_option maxRecDepth 100000 in
theorem snapsS_at (h : SnAt w Fd t [.bool d] p dp S D) (hl : S.l ≠ []) : Calls Tryz.prog 23 #[.pointer (some ⟨p, 0, none⟩)] w (SnapsOut w S.l) := by
  have hm := made_at h hl
  have hs := snaps_at h
  clear h
  go_enter Tryz.func23, Tryz.ntmps23
  go_wp2_with fail
  refine hm.mono ?_
  rintro e w2 ⟨rfl, rfl⟩
  go_wp2_with fail
  refine hs.mono ?_
  rintro e w2 ⟨g, rfl, h1, h2, h3⟩
  go_wp2_with fail
  go_ret
  exact ⟨g, rfl, h1, h2, h3⟩
end
end Go.Proofs.YtebecpjecchfoaaGreatDoor.St
namespace Go.Proofs.YtebecpjecchfoaaGreatDoor.St
set_option linter.unusedSimpArgs false
set_option linter.unusedVariables false
open Go.RowKit Go.Maps

theorem NR.join {w : World} {F G : Nat → Prop} {A : Option Addr} {l : List Nat} (h : NR w F A l) (g : NR w G A l) : NR w (fun b => F b ∨ G b) A l := by
  intro hn
  obtain ⟨ad, e, hb, hf, hc⟩ := h hn
  obtain ⟨ad', e', _, hg, _⟩ := g hn
  rw [e] at e'; cases e'
  exact ⟨ad, e, hb, fun f => f.elim hf hg, hc⟩
theorem LR.join {w : World} {F G : Nat → Prop} {A : Option Addr} {l : List Ck} (h : LR w F A l) (g : LR w G A l) : LR w (fun b => F b ∨ G b) A l := by
  refine ⟨fun hn => ?_, fun a ha => (h.ok a ha).join (g.ok a ha)⟩
  obtain ⟨ad, e, hb, hf, hc⟩ := h.ar hn
  obtain ⟨ad', e', _, hg, _⟩ := g.ar hn
  rw [e] at e'; cases e'
  exact ⟨ad, e, hb, fun f => f.elim hf hg, hc⟩
section
variable {w w' : World} {Fd Fd' : Nat → Prop} {t : TypeId} {p q dp : Nat} {S S' : SSt} {D D' : DSt} {d : Bool}
theorem splice_state {S S' : SSt} (h : S.saved.length = 8192) (h' : S.live.length = 8192) (k : S'.saved.length = 8192) (k' : S'.live.length = 8192) (dp : Nat) (tail : List Value) : splice (scells dp S tail) 0 (scells dp S' []) = scells dp S' tail := by
  rw [← scells_tail dp S tail]
  unfold splice
  have l1 := scells_len h h' dp []
  have l2 := scells_len k k' dp []
  simp only [List.length_nil, Nat.add_zero] at l1 l2
  rw [List.take_zero, List.nil_append, Nat.zero_add, l2, List.drop_append_of_le_length (by omega), List.drop_of_length_le (by omega), List.nil_append, scells_tail]
/-- The mark at the end is another one now. -/
theorem SnAt.mark (h : SnAt w Fd t [.bool d] p dp S D) (d' : Bool) : SnAt (w.setCell ⟨p, 16388, none⟩ (.bool d')) Fd t [.bool d'] p dp S D ∧ Keeps (· = p) w (w.setCell ⟨p, 16388, none⟩ (.bool d')) := by
  have k : Keeps (· = p) w (w.setCell ⟨p, 16388, none⟩ (.bool d')) := Keeps.setCell _ _ _ _ rfl
  refine ⟨⟨?_, h.row.keep (k.mono (fun _ _ f => .inl f)) (fun _ _ f => f), h.disk.keep k (fun b _ f e => h.np (e ▸ f)), fun b hb => Nat.lt_of_lt_of_le (h.lt b hb) k.size, h.np, h.ok⟩, k⟩
  rw [heap_setCell_same w p 16388 _ t _ h.head, ← scells_tail, ← scells_tail dp S [.bool d']]
  have l1 := scells_len h.ok.saved h.ok.live dp []
  simp only [List.length_nil, Nat.add_zero] at l1
  simp [List.setIfInBounds_toArray, List.set_append_right, l1]
/-- What become leaves. -/
def Became (w : World) (Fd : Nat → Prop) (p q dp : Nat) (S0 : SSt) (n : Nat) (P : Nat → SSt → DSt → Prop) (PX : Int → SSt → DSt → Prop) (e : Ending) (w' : World) : Prop :=
  ∃ E S' D' Fd', e = .returned (.int .i64 E) ∧ Keeps (fun b => b = p ∨ b = q ∨ Fd b) w w' ∧ (∀ b, Fd' b → Fd b ∨ w.heap.size ≤ b) ∧
    ((E = 0 ∧ P n S' D' ∧ SnAt w' Fd' 84 [.bool false] p dp S' D') ∨ (E ≠ 0 ∧ PX E S' D' ∧ SnAt w' Fd' 84 [.bool (E == 20)] p dp S0 D'))
set_option maxRecDepth 100000 in
set_option maxHeartbeats 1600000 in
theorem become_any {T : Prop} {P : Nat → SSt → DSt → Prop} {PX : Int → SSt → DSt → Prop} {fs : List FuncId} {S0 : SSt} {D0 : DSt} (hp : SnAt w Fd 84 [.bool d] p dp S0 D0) (hq : SnAt w Fd 82 [] q dp S D) (hpq : p ≠ q) (hz : LR w (· = p) S.A S.l) (hz0 : LR w (· = q) S0.A S0.l)
    (hs : Steps (IS T P w.heap.size (· = p) 82 q dp) (XS PX w.heap.size (· = p) 82 q dp) w.heap.size fs (.pointer (some ⟨q, 0, none⟩))) (hP : P 0 S D) (hM : Mk T w Fd) (hX : ∀ {E S D}, PX E S D → E ≠ 0) {sb : Nat}
    (hb : w.heap[sb]? = some (.cells (fs.map fun f => Value.func (.func f) #[.pointer (some ⟨q, 0, none⟩)] #[]).toArray 1 (0, 0))) (hsb : ¬ own q Fd sb) (hn : fs.length ≤ 10) :
    Calls Tryz.prog 83 #[.pointer (some ⟨p, 0, none⟩), .pointer (some ⟨q, 0, none⟩), .slice (some ⟨sb, 0, none⟩) fs.length fs.length] w (Became w Fd p q dp S0 fs.length P PX) := by
  have ha := attempt_any hs (IS.start hq hP hz hM) hb hsb hn
  have hpl := hp.pl
  have hpn : ¬ own q Fd p := fun f => f.elim hpq hp.np
  have common : ∀ {w2 : World} {F' Fd2 : Nat → Prop} {S' : SSt} {D' : DSt}, (∀ b, F' b ↔ own q Fd2 b) → SnAt w2 Fd2 82 [] q dp S' D' → Keeps (own q Fd) w w2 → (∀ b, F' b → own q Fd b ∨ w.heap.size ≤ b) → ¬ Fd2 p ∧ (∀ b, Fd2 b → Fd b ∨ w.heap.size ≤ b) ∧ w2.heap[p]? = some (.cells (scells dp S0 [.bool d]).toArray 84 (0, 0)) := by
    intro w2 F' Fd2 S' D' hF h2 k2 s2
    have hsub : ∀ b, Fd2 b → Fd b ∨ w.heap.size ≤ b := fun b hb2 => by
      rcases s2 b ((hF b).2 (.inr hb2)) with (f | f) | f
      · exact absurd (f ▸ hb2) h2.np
      · exact .inl f
      · exact .inr f
    refine ⟨fun f => ?_, hsub, (k2.block p hpl hpn).trans hp.head⟩
    rcases hsub p f with f | f
    · exact hp.np f
    · omega
  clear hs hb
  go_enter Tryz.func83, Tryz.ntmps83
  go_wp2_with fail
  refine ha.mono ?_
  rintro e w2 ⟨F', ⟨rfl, Fd2, S', D', hF, h2, hP2, hr2, _⟩ | ⟨E, rfl, Fd2, S', D', hF, h2, hX2, hr2⟩, k2, s2⟩
  · obtain ⟨np, hsub, hhead⟩ := common hF h2 k2 s2
    have hs2 := k2.size
    have LD := Lib.hid (loadSt (w := w2) (b := q) (dp := dp) h2.ok.saved h2.ok.live (range_blockV h2.head))
    have l0 := scells_len hp.ok.saved hp.ok.live dp [.bool d]
    have ST := Lib.hid (storeSt (w := w2) (b := p) (dp := dp) h2.ok.saved h2.ok.live (there_blockV hhead 0 16388 (by rw [l0]; simp)))
    obtain ⟨e3, k3⟩ := setCells_blockV (w := w2) (ys := scells dp S' []) 0 hhead (by rw [l0, scells_len h2.ok.saved h2.ok.live]; simp)
    rw [splice_state hp.ok.saved hp.ok.live h2.ok.saved h2.ok.live] at e3
    have h3 : SnAt (w2.setCells p 0 (scells dp S' [])) Fd2 84 [.bool d] p dp S' D' := by
      have hrp : LR w2 (own p Fd2) S'.A S'.l := (h2.row.join (hr2.less (F' := (· = p)) (fun _ e => .inr e))).less (fun b f => by
        rcases f with f | f
        · exact .inr f
        · exact .inl (.inr f))
      exact ⟨e3, hrp.keep (k3.mono (fun _ _ e => .inl e)) (fun _ _ f => f), h2.disk.keep k3 (fun b _ f e => np (e ▸ f)), fun b hb2 => Nat.lt_of_lt_of_le (h2.lt b hb2) k3.size, np, h2.ok⟩
    obtain ⟨h4, k4⟩ := h3.mark false
    have cd := h3.cd
    have zd := h3.fz 16388
    have HF := Lib.hid (show Became w Fd p q dp S0 fs.length P PX (.returned (.int .i64 0)) ((w2.setCells p 0 (scells dp S' [])).setCell ⟨p, 16388, none⟩ (.bool false)) from ⟨0, S', D', Fd2, rfl, (k2.mono (fun _ _ f => f.elim (fun e => .inr (.inl e)) (fun f => .inr (.inr f)))).trans ((k3.trans k4).mono (fun _ _ e => .inl e)), hsub, .inl ⟨rfl, hP2, h4⟩⟩)
    clear ha common hp hq hz hz0 h2 hr2 h3 h4 k3 k4 e3 hhead hF hP2 hX
    generalize (scells dp S' []).toArray = cs at *
    generalize scells dp S' [] = cl at *
    go_wp2_with (first
      | ((with_reducible refine here (op := .load 82 (.tmp 14)) ?_); refine wpList_load_run rfl 82 _ rfl _ _ rfl LD.out ?_)
      | ((with_reducible refine here (op := .store 82 (.tmp 17) (.tmp 15)) ?_); refine wpList_store_run rfl 82 _ _ rfl _ _ rfl rfl ST.out ?_))
    go_ret
    exact HF.out
  · obtain ⟨np, hsub, hhead⟩ := common hF h2 k2 s2
    have hs2 := k2.size
    have hE := hX hX2
    have h3 : SnAt w2 Fd2 84 [.bool d] p dp S0 D' := by
      have hr0 : LR w2 (fun b => own p Fd b ∨ b = q) S0.A S0.l := (hp.row.join hz0).keep (k2.mono (fun b _ f => by
        rcases f with f | f
        · exact .inr f
        · exact .inl (.inr f))) (fun _ _ f => f)
      have hr1 : LR w2 (own p Fd2) S0.A S0.l := (hp.row.join hz0).keep (F' := own p Fd2) (k2.mono (fun b _ f => by
        rcases f with f | f
        · exact .inr f
        · exact .inl (.inr f))) (fun b hb2 f => by
          rcases f with f | f
          · exact .inl (.inl f)
          · rcases hsub b f with f | f
            · exact .inl (.inr f)
            · omega)
      exact ⟨hhead, hr1, h2.disk, h2.lt, np, hp.ok⟩
    obtain ⟨h4, k4⟩ := h3.mark (E == 20)
    have cd := h3.cd
    have zd := h3.fz 16388
    have HF := Lib.hid (show Became w Fd p q dp S0 fs.length P PX (.returned (.int .i64 E)) (w2.setCell ⟨p, 16388, none⟩ (.bool (E == 20))) from ⟨E, S', D', Fd2, rfl, (k2.mono (fun _ _ f => f.elim (fun e => .inr (.inl e)) (fun f => .inr (.inr f)))).trans (k4.mono (fun _ _ e => .inl e)), hsub, .inr ⟨hE, hX2, h4⟩⟩)
    have hE0 : (E == 0) = false := by simpa using hE
    clear ha common hp hq hz hz0 h2 hr2 h3 h4 k4 hhead hF hX2 hX hE
    go_wp2_with fail
    go_ret
    exact HF.out
end
end Go.Proofs.YtebecpjecchfoaaGreatDoor.St
namespace Go.Proofs.YtebecpjecchfoaaGreatDoor.St
set_option linter.unusedSimpArgs false
set_option linter.unusedVariables false
open Go.RowKit Go.Maps

theorem On.wr {D : DSt} (h : On D) (i : Int) (b : List UInt8) (hi : i = 0 ∨ i = 1) (hb : b.length = 64) (hq : D.Q.length + 1 ≤ 1000000) (ha : D.acts + 1 ≤ 100000000) : On (D.write i b) := by
  have hl := h.left
  rw [(h.write i b hi hb).2]
  have hs : D.spent = { D with left := D.left, acts := D.acts + 1 } := by
    unfold DSt.spent
    rw [if_neg (by omega), if_neg (by omega)]
  rw [hs]
  exact ⟨h.up, hl, h.n, by simpa using hq, ha⟩
theorem On.wr_len {D : DSt} (h : On D) (i : Int) (b : List UInt8) (hi : i = 0 ∨ i = 1) (hb : b.length = 64) : (D.write i b).Q.length = D.Q.length + 1 ∧ (D.write i b).acts = D.acts + 1 := by
  have hl := h.left
  rw [(h.write i b hi hb).2]
  have hs : D.spent = { D with left := D.left, acts := D.acts + 1 } := by
    unfold DSt.spent
    rw [if_neg (by omega), if_neg (by omega)]
  rw [hs]
  exact ⟨by simp, rfl⟩
theorem On.fl {D : DSt} (h : On D) : D.flushErr = 0 := by
  unfold DSt.flushErr DSt.actErr
  rw [if_neg (by rw [h.up]; simp), if_neg (by have := h.left; omega)]
abbrev mv (f : FuncId) (q : Nat) : Value := .func (.func f) #[.pointer (some ⟨q, 0, none⟩)] #[]
theorem bslice5 (w : World) (q : Nat) (a b c d e : FuncId) : (Instr.buildSlice 163 5 #[(0, .func (.func a) #[.pointer (some ⟨q, 0, none⟩)] #[]), (1, .func (.func b) #[.pointer (some ⟨q, 0, none⟩)] #[]), (2, .func (.func c) #[.pointer (some ⟨q, 0, none⟩)] #[]), (3, .func (.func d) #[.pointer (some ⟨q, 0, none⟩)] #[]), (4, .func (.func e) #[.pointer (some ⟨q, 0, none⟩)] #[])]).run Tryz.prog w = .ok (.slice (some ⟨w.heap.size, 0, none⟩) 5 5) (w.alloc (.cells #[mv a q, mv b q, mv c q, mv d q, mv e q] 1)) := by kernel_rfl
/-- The record of the first root. -/
def rec1 : List UInt8 := encL 1 [⟨1, 0⟩]
theorem may1 : mayB 1 [⟨1, 0⟩] = true := by decide
/-- The disk behind Format. -/
def DSt.formatted (D : DSt) : DSt := ((D.write 0 rec1).write 1 zs64).flush
/-- The state that Format makes. -/
def first (A : Option Addr) (c : Nat) (R : Option Addr) (cp : Nat) : SSt := ⟨1, 0, A, c, [⟨1, 0, R, [], cp⟩], z8192, z8192⟩
def FP (D : DSt) : Nat → SSt → DSt → Prop
  | 0, S, D' => S = zst 1 ∧ D' = D
  | 1, S, D' => fitsE D = 0 ∧ S = zst 1 ∧ D' = D
  | 2, S, D' => fitsE D = 0 ∧ (∃ A c R cp, S = ⟨0, 1, A, c, [⟨1, 0, R, [], cp⟩], z8192, z8192⟩) ∧ D' = D
  | 3, S, D' => fitsE D = 0 ∧ (∃ A c R cp, S = first A c R cp) ∧ D' = D.write 0 rec1
  | 4, S, D' => fitsE D = 0 ∧ (∃ A c R cp, S = first A c R cp) ∧ D' = (D.write 0 rec1).write 1 zs64
  | _, S, D' => fitsE D = 0 ∧ (∃ A c R cp, S = first A c R cp) ∧ D' = DSt.formatted D
def FX (D : DSt) (E : Int) (_ : SSt) (_ : DSt) : Prop := E = fitsE D ∧ E ≠ 0
theorem on_of {D : DSt} (h : fitsE D = 0) (hl : D.left < 0) (hq : D.Q.length ≤ 900000) (ha : D.acts ≤ 90000000) : On D := by
  unfold fitsE at h
  cases hd : D.down with
  | true => rw [hd] at h; simp at h
  | false =>
    rw [hd] at h
    simp only [Bool.false_eq_true, if_false] at h
    refine ⟨hd, hl, ?_, by omega, by omega⟩
    by_cases h8 : D.n < 8
    · rw [if_pos h8] at h; cases h
    · omega
def fsF : List FuncId := [57, 58, 59, 60, 61]
theorem fsF_enters : ∀ f ∈ fsF, ∀ args w, (callFunc f args).run Tryz.prog w = .ok (.enter f args) w := by
  intro f hf args w
  simp only [fsF, List.mem_cons, List.not_mem_nil, or_false] at hf
  rcases hf with rfl | rfl | rfl | rfl | rfl
  · exact enters_of Tryz.func57 (by kernel_rfl) rfl args w
  · exact enters_of Tryz.func58 (by kernel_rfl) rfl args w
  · exact enters_of Tryz.func59 (by kernel_rfl) rfl args w
  · exact enters_of Tryz.func60 (by kernel_rfl) rfl args w
  · exact enters_of Tryz.func61 (by kernel_rfl) rfl args w
theorem format_steps {D : DSt} (hl : D.left < 0) (hq : D.Q.length ≤ 900000) (ha : D.acts ≤ 90000000) (B : Nat) (t : TypeId) (p dp : Nat) : Steps (IS False (FP D) B (fun _ => False) t p dp) (XS (FX D) B (fun _ => False) t p dp) B fsF (.pointer (some ⟨p, 0, none⟩)) := by
  refine steps_of (fun h => h.elim) (fun _ h => h.elim) fsF_enters ?_
  intro k hk w Fd S D' h hP _
  have hk5 : k < 5 := hk
  match k, hk5 with
  | 0, _ =>
    obtain ⟨rfl, rfl⟩ := hP
    refine (fits_at h).mono ?_
    rintro e w' ⟨rfl, rfl⟩
    unfold endE
    by_cases hf : fitsE D' = 0
    · rw [if_pos hf]
      exact .inl ⟨rfl, _, _, Stepped.refl h, Rows.refl _ _, hf, rfl, rfl⟩
    · rw [if_neg hf]
      exact .inr ⟨_, rfl, _, _, Stepped.refl h, Rows.refl _ _, rfl, hf⟩
  | 1, _ =>
    obtain ⟨hf, rfl, rfl⟩ := hP
    have on := on_of hf hl hq ha
    refine (start_at h on.up (by show 0 + 1 < 18446744073709551616; omega) (fun _ => rfl) (fun _ => rfl)).mono ?_
    rintro e w' ⟨rfl, A, c, R, cp, h1, h2⟩
    exact .inl ⟨rfl, _, _, h1, h2, hf, ⟨A, c, R, cp, rfl⟩, rfl⟩
  | 2, _ =>
    obtain ⟨hf, ⟨A, c, R, cp, rfl⟩, rfl⟩ := hP
    have on := on_of hf hl hq ha
    refine (putRoot_at h on (by show 0 + 1 < 18446744073709551616; omega) may1).mono ?_
    rintro e w' ⟨rfl, h1⟩
    exact .inl ⟨rfl, _, _, h1, Stepped.rows h h1 rfl rfl, hf, ⟨A, c, R, cp, rfl⟩, rfl⟩
  | 3, _ =>
    obtain ⟨hf, ⟨A, c, R, cp, rfl⟩, rfl⟩ := hP
    have on := on_of hf hl hq ha
    have on1 := on.wr 0 rec1 (.inl rfl) (encL_len _ _) (by omega) (by omega)
    refine (wipe_at h on1).mono ?_
    rintro e w' ⟨rfl, h1⟩
    exact .inl ⟨rfl, _, _, h1, Stepped.rows h h1 rfl rfl, hf, ⟨A, c, R, cp, rfl⟩, rfl⟩
  | 4, _ =>
    obtain ⟨hf, ⟨A, c, R, cp, rfl⟩, rfl⟩ := hP
    have on := on_of hf hl hq ha
    have l1 := on.wr_len 0 rec1 (.inl rfl) (encL_len _ _)
    have on1 := on.wr 0 rec1 (.inl rfl) (encL_len _ _) (by omega) (by omega)
    have on2 := on1.wr 1 zs64 (.inr rfl) zs64_len (by omega) (by omega)
    refine (flush_at h (by have := on2.que; omega) (by have := on2.acts; omega)).mono ?_
    rintro e w' ⟨rfl, h1⟩
    rw [on2.fl]
    exact .inl ⟨rfl, _, _, h1, Stepped.rows h h1 rfl rfl, hf, ⟨A, c, R, cp, rfl⟩, rfl⟩
theorem zc82 : Tryz.zeroCells82 = z82.toArray := by kernel_rfl
theorem cellsFmt (dp : Nat) : (Tryz.zeroCells82.setIfInBounds 0 (.pointer (some ⟨dp, 0, none⟩))).setIfInBounds 2 (.int .i64 1) = (scells dp (zst 1) []).toArray := by
  have hcs : ([.pointer (some ⟨dp, 0, none⟩), .int .u64 0, .int .i64 1, .slice none 0 0] ++ (z8192.map B8 ++ (z8192.map B8 ++ [])) : List Value) = scells dp (zst 1) [] := rfl
  rw [zc82, z82_eq, ← hcs, ← zst_cells]
  generalize List.replicate 16384 zb = Z
  simp
/-- What Format leaves. -/
def FormatOut (w : World) (F : Nat → Prop) (dp : Nat) (D : DSt) (e : Ending) (w' : World) : Prop :=
  (fitsE D = 0 ∧ ∃ q A c R cp Fd, e = .returned (.tuple #[.pointer (some ⟨q, 0, none⟩), .int .i64 0]) ∧ w.heap.size ≤ q ∧ SnAt w' Fd 84 [.bool false] q dp (first A c R cp) (DSt.formatted D) ∧ Keeps F w w' ∧ ∀ b, Fd b → F b ∨ w.heap.size ≤ b) ∨
  (fitsE D ≠ 0 ∧ e = .returned (.tuple #[.pointer none, .int .i64 (fitsE D)]) ∧ Keeps F w w')
set_option maxRecDepth 20000 in
set_option maxHeartbeats 800000 in
theorem format_any {w : World} {F : Nat → Prop} {dp : Nat} {D : DSt} (h : Dk w F dp D) (hlt : ∀ b, F b → b < w.heap.size) (hl : D.left < 0) (hq : D.Q.length ≤ 900000) (ha : D.acts ≤ 90000000) :
    Calls Tryz.prog 13 #[.pointer (some ⟨dp, 0, none⟩)] w (FormatOut w F dp D) := by
  have hmf : ∀ (fn : Fn) (first cap : Array Value) (w : World), (Instr.makeFunc fn first cap).run Tryz.prog w = .ok (.func fn first cap) w := fun _ _ _ _ => rfl
  have e1 := heap_alloc_new w (.cells (scells dp (zst 1) []).toArray 82)
  have k1 : Keeps (fun _ => False) w (w.alloc (.cells (scells dp (zst 1) []).toArray 82)) := Keeps.alloc _ _ _
  have k2 : Keeps (fun _ => False) w ((w.alloc (.cells (scells dp (zst 1) []).toArray 82)).alloc (.cells (fsF.map fun f => Value.func (.func f) #[.pointer (some ⟨w.heap.size, 0, none⟩)] #[]).toArray 1)) := k1.trans (Keeps.alloc _ _ _)
  have e2 : ((w.alloc (.cells (scells dp (zst 1) []).toArray 82)).alloc (.cells (fsF.map fun f => Value.func (.func f) #[.pointer (some ⟨w.heap.size, 0, none⟩)] #[]).toArray 1)).heap[w.heap.size]? = some (.cells (scells dp (zst 1) []).toArray 82 (0, 0)) := by
    rw [Below.heap_alloc _ _ _ (by rw [World.size_alloc]; omega)]; exact e1
  have e3 : ((w.alloc (.cells (scells dp (zst 1) []).toArray 82)).alloc (.cells (fsF.map fun f => Value.func (.func f) #[.pointer (some ⟨w.heap.size, 0, none⟩)] #[]).toArray 1)).heap[w.heap.size + 1]? = some (.cells (fsF.map fun f => Value.func (.func f) #[.pointer (some ⟨w.heap.size, 0, none⟩)] #[]).toArray 1 (0, 0)) := blk_at_last _ _ _ (by rw [World.size_alloc])
  have BL := Lib.hid (fun w q => bslice5 w q 57 58 59 60 61)
  have hst : SnAt ((w.alloc (.cells (scells dp (zst 1) []).toArray 82)).alloc (.cells (fsF.map fun f => Value.func (.func f) #[.pointer (some ⟨w.heap.size, 0, none⟩)] #[]).toArray 1)) F 82 [] w.heap.size dp (zst 1) D := by
    refine ⟨e2, LR.nil, h.keep k2 (fun _ _ _ h => h), fun b hb => Nat.lt_of_lt_of_le (hlt b hb) k2.size, fun hf => by have := hlt _ hf; omega, ⟨by show 0 < 18446744073709551616; omega, .inr rfl, by show 0 ≤ 4; omega, Nat.le_refl _, z8192_len, z8192_len, fun a ha => by cases ha⟩⟩
  have s2 : ((w.alloc (.cells (scells dp (zst 1) []).toArray 82)).alloc (.cells (fsF.map fun f => Value.func (.func f) #[.pointer (some ⟨w.heap.size, 0, none⟩)] #[]).toArray 1)).heap.size = w.heap.size + 2 := by rw [World.size_alloc, World.size_alloc]
  have hbg := begin_any (format_steps hl hq ha _ 82 w.heap.size dp) (IS.start hst ⟨rfl, rfl⟩ LR.nil (fun h => h.elim)) (sb := w.heap.size + 1) e3 (fun hf => by
    rcases hf with hf | hf
    · omega
    · have := hlt _ hf; omega) (by decide) (X := XS (FX D) _ (fun _ => False) 82 w.heap.size dp) (fun hx => by obtain ⟨_, _, _, _, _, hx, _⟩ := hx; exact hx.2)
    (J := fun _ S D' => FP D 5 S D') (fun hi => by obtain ⟨Fd, S, D', hF, h, hP, _⟩ := hi; exact ⟨S, D', Fd, h, hP, fun b hb => (hF b).2 (.inr hb)⟩)
  have hfin : ∀ e w', Begun ((w.alloc (.cells (scells dp (zst 1) []).toArray 82)).alloc (.cells (fsF.map fun f => Value.func (.func f) #[.pointer (some ⟨w.heap.size, 0, none⟩)] #[]).toArray 1)) (own w.heap.size F) (fun _ S D' => FP D 5 S D') dp (XS (FX D) ((w.alloc (.cells (scells dp (zst 1) []).toArray 82)).alloc (.cells (fsF.map fun f => Value.func (.func f) #[.pointer (some ⟨w.heap.size, 0, none⟩)] #[]).toArray 1)).heap.size (fun _ => False) 82 w.heap.size dp) e w' → FormatOut w F dp D e w' := by
    intro e w' hB
    have kk : ∀ {w'}, Keeps (own w.heap.size F) ((w.alloc (.cells (scells dp (zst 1) []).toArray 82)).alloc (.cells (fsF.map fun f => Value.func (.func f) #[.pointer (some ⟨w.heap.size, 0, none⟩)] #[]).toArray 1)) w' → Keeps F w w' := fun k => by
      refine ((k2.mono (fun _ _ h => h.elim) : Keeps (own w.heap.size F) w ((w.alloc (.cells (scells dp (zst 1) []).toArray 82)).alloc (.cells (fsF.map fun f => Value.func (.func f) #[.pointer (some ⟨w.heap.size, 0, none⟩)] #[]).toArray 1))).trans k).mono (fun b hb f => ?_)
      rcases f with f | f
      · omega
      · exact f
    have ss : ∀ {Fd : Nat → Prop}, (∀ b, Fd b → own w.heap.size F b ∨ ((w.alloc (.cells (scells dp (zst 1) []).toArray 82)).alloc (.cells (fsF.map fun f => Value.func (.func f) #[.pointer (some ⟨w.heap.size, 0, none⟩)] #[]).toArray 1)).heap.size ≤ b) → ∀ b, Fd b → F b ∨ w.heap.size ≤ b := fun hs b hb => by
      rcases hs b hb with (f | f) | f
      · exact .inr (by omega)
      · exact .inl f
      · exact .inr (by omega)
    rcases hB with ⟨q, S, D', Fd, rfl, hq', h', ⟨hf, ⟨A, c, R, cp, rfl⟩, rfl⟩, k', s'⟩ | ⟨E, F', hE, rfl, ⟨_, _, _, _, _, ⟨hx, _⟩, _⟩, k', s'⟩
    · exact .inl ⟨hf, q, A, c, R, cp, Fd, rfl, by omega, h', kk k', ss s'⟩
    · exact .inr ⟨hx ▸ hE, by rw [hx], kk k'⟩
  have HB := Lib.hid (hbg.mono hfin)
  have HC := Lib.hid (cellsFmt dp)
  clear hbg hfin hst e1 e2 e3 k1 k2 h hlt s2
  have hfs : (fsF.map fun f => Value.func (.func f) #[.pointer (some ⟨w.heap.size, 0, none⟩)] #[]).toArray = #[mv 57 w.heap.size, mv 58 w.heap.size, mv 59 w.heap.size, mv 60 w.heap.size, mv 61 w.heap.size] := rfl
  rw [hfs] at HB
  clear hfs
  generalize (scells dp (zst 1) []).toArray = cs at *
  go_enter Tryz.func13, Tryz.ntmps13
  go_wp2_with fail
  rw [HC.out]
  refine HB.out.mono ?_
  intro e w' hF
  have HF := Lib.hid hF
  have hret : ∃ a b, e = .returned (.tuple #[a, b]) := by
    rcases hF with ⟨_, q, _, _, _, _, _, rfl, _⟩ | ⟨_, rfl, _⟩
    · exact ⟨_, _, rfl⟩
    · exact ⟨_, _, rfl⟩
  obtain ⟨a, b, rfl⟩ := hret
  clear hF HB
  go_wp2_with fail
  go_ret2
  exact HF.out
end Go.Proofs.YtebecpjecchfoaaGreatDoor.St
namespace Go.Proofs.YtebecpjecchfoaaGreatDoor.St
set_option linter.unusedSimpArgs false
set_option linter.unusedVariables false
open Go.RowKit Go.Maps

def newSt (w : World) (cs : Array Value) : World := w.alloc (.cells cs 82)
section
variable {w : World} {Fd : Nat → Prop} {p dp : Nat} {S : SSt} {D : DSt} {d : Bool}
theorem zc_len : z82.length = 16388 := by
  have hq : ∀ Z : List Value, Z.length = 16384 → ([.pointer none, .int .u64 0, .int .i64 0, .slice none 0 0] ++ Z : List Value).length = 16388 := fun Z hZ => by simp [hZ]
  rw [z82_eq]
  exact hq _ List.length_replicate
/-- The copy of a store's state. -/
def copied (w : World) (cs : Array Value) (dp : Nat) (S : SSt) : World := (newSt w cs).setCells w.heap.size 0 (scells dp S [])
theorem copy_st (h : SnAt w Fd 84 [.bool d] p dp S D) : SnAt (copied w Tryz.zeroCells82 dp S) Fd 84 [.bool d] p dp S D ∧ SnAt (copied w Tryz.zeroCells82 dp S) Fd 82 [] w.heap.size dp S D ∧ LR (copied w Tryz.zeroCells82 dp S) (· = p) S.A S.l ∧ LR (copied w Tryz.zeroCells82 dp S) (· = w.heap.size) S.A S.l ∧ Keeps (fun _ => False) w (copied w Tryz.zeroCells82 dp S) ∧ (copied w Tryz.zeroCells82 dp S).heap.size = w.heap.size + 1 ∧ (newSt w Tryz.zeroCells82).there w.heap.size 0 16388 := by
  have hh : (newSt w Tryz.zeroCells82).heap[w.heap.size]? = some (.cells z82.toArray 82 (0, 0)) := by
    unfold newSt
    rw [zc82]
    exact heap_alloc_new _ _
  have l0 := scells_len h.ok.saved h.ok.live dp []
  simp only [List.length_nil, Nat.add_zero] at l0
  obtain ⟨e, k⟩ := setCells_blockV (w := newSt w Tryz.zeroCells82) (ys := scells dp S []) 0 hh (by have := zc_len; rw [l0]; omega)
  rw [splice_allV _ _ (by rw [l0, zc_len])] at e
  have ka : Keeps (fun _ => False) w (newSt w Tryz.zeroCells82) := Keeps.alloc _ _ _
  have hsz : (copied w Tryz.zeroCells82 dp S).heap.size = w.heap.size + 1 := by
    have h1 : (newSt w Tryz.zeroCells82).heap.size = w.heap.size + 1 := by unfold newSt; rw [World.size_alloc]
    unfold copied
    rw [← h1]
    have : ∀ (l : List Value) (o : Nat) (W : World), (W.setCells w.heap.size o l).heap.size = W.heap.size := by
      intro l
      induction l with
      | nil => intro o W; rfl
      | cons v r ih => intro o W; rw [World.setCells, ih]; simp [World.setCell]
    exact this _ _ _
  have kw : Keeps (fun _ => False) w (copied w Tryz.zeroCells82 dp S) := ⟨k.os.trans ka.os, k.tape.trans ka.tape, k.output.trans ka.output, by omega, fun b hb _ => (k.block b (by have := ka.size; omega) (by omega)).trans (ka.block b hb (fun h => h))⟩
  have hp := h.new kw
  have hz : LR (copied w Tryz.zeroCells82 dp S) (· = w.heap.size) S.A S.l := by
    refine LR.keep (F := own p Fd) h.row (kw.mono (fun _ _ h => h.elim)) (fun b hb e => by omega)
  have hzp : LR (copied w Tryz.zeroCells82 dp S) (· = p) S.A S.l := hp.row.less (fun _ e => .inl e)
  refine ⟨hp, ⟨e, ?_, hp.disk, hp.lt, fun f => by have := h.lt _ f; omega, h.ok⟩, hzp, hz, kw, hsz, there_blockV hh 0 16388 (by rw [zc_len]; omega)⟩
  exact ((hp.row.less (fun _ f => .inr f)).join hz).less (fun b f => by
    rcases f with rfl | f
    · exact .inr rfl
    · exact .inl f)
end
/-- The state with only its first m checkpoints. -/
def SSt.cut (S : SSt) (m : Nat) : SSt := { S with l := S.l.take m }
/-- The state behind Undo. -/
def SSt.undone (S : SSt) (m : Nat) (M : List UInt8) : SSt := ({ S.cut m with saved := M, live := M } : SSt).put
def fsU : List FuncId := [68, 59, 61]
theorem fsU_enters : ∀ f ∈ fsU, ∀ args w, (callFunc f args).run Tryz.prog w = .ok (.enter f args) w := by
  intro f hf args w
  simp only [fsU, List.mem_cons, List.not_mem_nil, or_false] at hf
  rcases hf with rfl | rfl | rfl
  · exact enters_of Tryz.func68 (by kernel_rfl) rfl args w
  · exact enters_of Tryz.func59 (by kernel_rfl) rfl args w
  · exact enters_of Tryz.func61 (by kernel_rfl) rfl args w
def UP (D0 : DSt) (S0 : SSt) (m : Nat) (M : List UInt8) : Nat → SSt → DSt → Prop
  | 0, S, D => S = S0.cut m ∧ D = D0
  | 1, S, D => S = { S0.cut m with saved := M, live := M } ∧ D = D0
  | 2, S, D => S = S0.undone m M ∧ D = D0.write (1 - S0.at_) (S0.cut m).record
  | _, S, D => S = S0.undone m M ∧ D = (D0.write (1 - S0.at_) (S0.cut m).record).flush
theorem undo_steps {D0 : DSt} {S0 : SSt} {m : Nat} {ps : PL} (on : On D0) (hq : D0.Q.length ≤ 900000) (ha : D0.acts ≤ 90000000) (hl : (S0.cut m).l ≠ []) (hw : walkT D0 D0.n (S0.cut m).last.top = some ps) (hg : S0.gen + 1 < 18446744073709551616) (hat : S0.at_ = 0 ∨ S0.at_ = 1) (hm : mayB (S0.gen + 1) ((S0.cut m).l.map snOf) = true)
    (B : Nat) (Z : Nat → Prop) (hZ : ∀ b, Z b → b < B) (t : TypeId) (p dp : Nat) : Steps (IS False (UP D0 S0 m (memS D0 ps)) B Z t p dp) (XS (fun _ _ _ => False) B Z t p dp) B fsU (.pointer (some ⟨p, 0, none⟩)) := by
  refine steps_of (fun h => h.elim) hZ fsU_enters ?_
  intro k hk w Fd S D' h hP _
  have hk5 : k < 3 := hk
  match k, hk5 with
  | 0, _ =>
    obtain ⟨rfl, rfl⟩ := hP
    refine (load_at h on.up hl).mono ?_
    rintro e w' (⟨ps', hw', rfl, hs⟩ | ⟨hw', _⟩)
    · rw [hw] at hw'
      cases hw'
      exact .inl ⟨rfl, _, _, hs, Stepped.rows h hs rfl rfl, rfl, rfl⟩
    · rw [hw] at hw'; cases hw'
  | 1, _ =>
    obtain ⟨rfl, rfl⟩ := hP
    refine (putRoot_at h on hg hm).mono ?_
    rintro e w' ⟨rfl, hs⟩
    exact .inl ⟨rfl, _, _, hs, Stepped.rows h hs rfl rfl, rfl, rfl⟩
  | 2, _ =>
    obtain ⟨rfl, rfl⟩ := hP
    have h01 : 1 - S0.at_ = 0 ∨ 1 - S0.at_ = 1 := by rcases hat with e | e <;> omega
    have on1 := on.wr (1 - S0.at_) (S0.cut m).record h01 (encL_len _ _) (by omega) (by omega)
    refine (flush_at h (by have := on1.que; omega) (by have := on1.acts; omega)).mono ?_
    rintro e w' ⟨rfl, hs⟩
    rw [on1.fl]
    exact .inl ⟨rfl, _, _, hs, Stepped.rows h hs rfl rfl, rfl, rfl⟩
section
variable {w : World} {Fd : Nat → Prop} {p dp : Nat} {S : SSt} {D : DSt} {d : Bool}
theorem SnAt.state (h : SnAt w Fd 84 [.bool d] p dp S D) : w.rangeAt p 0 (scells dp S []) := by
  refine SnAt.range h.head _ _ (fun j v hv => ?_)
  rw [Nat.zero_add, ← scells_tail]
  rw [List.getElem?_append_left ((List.getElem?_eq_some_iff.1 hv).1)]
  exact hv
set_option maxRecDepth 100000 in
/-- A number that Undo refuses. -/
theorem undo_bad (h : SnAt w Fd 84 [.bool false] p dp S D) (hl : S.l ≠ []) (n : Int) (hn : n ≤ 0 ∨ (S.l.length : Int) ≤ n) :
    Calls Tryz.prog 42 #[.pointer (some ⟨p, 0, none⟩), .int .i64 n] w fun e w' => e = .returned (.int .i64 80) ∧ Keeps (fun _ => False) w w' := by
  have hf := fault_at h hl
  have c3 := h.c3
  clear h
  simp only [Bool.false_eq_true, if_false] at hf
  by_cases h0 : n ≤ 0
  · have d0 : decide (n ≤ 0) = true := decide_eq_true h0
    clear hn
    go_enter Tryz.func42, Tryz.ntmps42
    go_wp2_with fail
    refine hf.mono ?_
    rintro e w2 ⟨rfl, rfl⟩
    go_wp2_with fail
    go_ret
    exact ⟨rfl, Keeps.refl _ _⟩
  · have h1 : (S.l.length : Int) ≤ n := by omega
    have d0 : decide (n ≤ 0) = false := decide_eq_false h0
    have d1 : decide ((S.l.length : Int) ≤ n) = true := decide_eq_true h1
    clear hn
    go_enter Tryz.func42, Tryz.ntmps42
    go_wp2_with fail
    refine hf.mono ?_
    rintro e w2 ⟨rfl, rfl⟩
    go_wp2_with fail
    go_ret
    exact ⟨rfl, Keeps.refl _ _⟩
/-- What Undo leaves. -/
def UndoOut (w : World) (Fd : Nat → Prop) (p dp : Nat) (S' : SSt) (D' : DSt) (e : Ending) (w' : World) : Prop :=
  e = .returned (.int .i64 0) ∧ ∃ Fd', SnAt w' Fd' 84 [.bool false] p dp S' D' ∧ Keeps (own p Fd) w w' ∧ ∀ b, Fd' b → Fd b ∨ w.heap.size ≤ b
set_option maxRecDepth 20000 in
set_option maxHeartbeats 1600000 in
theorem undo_ok (h : SnAt w Fd 84 [.bool false] p dp S D) (on : On D) (hq : D.Q.length ≤ 900000) (ha : D.acts ≤ 90000000) (n : Nat) (hn0 : 0 < n) (hn : n < S.l.length) {ps : PL} (hw : walkT D D.n (S.cut (S.l.length - n)).last.top = some ps) (hg : S.gen + 1 < 18446744073709551616) (hm : mayB (S.gen + 1) ((S.cut (S.l.length - n)).l.map snOf) = true) :
    Calls Tryz.prog 42 #[.pointer (some ⟨p, 0, none⟩), .int .i64 (n : Int)] w (UndoOut w Fd p dp (S.undone (S.l.length - n) (memS D ps)) (D.write (1 - S.at_) (S.cut (S.l.length - n)).record).flush) := by
  have hl : S.l ≠ [] := fun e => by rw [e] at hn; simp at hn
  have hf := fault_at h hl
  simp only [Bool.false_eq_true, if_false] at hf
  have c3 := h.c3
  have d0 : decide ((n : Int) ≤ 0) = false := by simp; omega
  have d1 : decide ((S.l.length : Int) ≤ (n : Int)) = false := by simp; omega
  have hlen := h.ok.len
  have hroom := h.ok.room
  obtain ⟨hp1, hq1, hz1, hzq1, k1, s1, th1⟩ := copy_st h
  have LD := Lib.hid (loadSt (w := w) (b := p) (dp := dp) h.ok.saved h.ok.live h.state)
  have ST := Lib.hid (storeSt (b := w.heap.size) (dp := dp) h.ok.saved h.ok.live th1)
  have hpl := h.pl
  have hlt := h.lt
  have hnp := h.np
  have hatt := h.ok.at_
  have hokc : (S.cut (S.l.length - n)).Ok := by
    refine ⟨h.ok.gen, h.ok.at_, ?_, ?_, h.ok.saved, h.ok.live, fun a ha => h.ok.secs a (List.mem_of_mem_take ha)⟩
    · show (S.l.take _).length ≤ 4
      rw [List.length_take]; omega
    · show (S.l.take _).length ≤ S.c
      rw [List.length_take]; omega
  have hlc : (S.cut (S.l.length - n)).l ≠ [] := fun e => by
    have : (S.l.take (S.l.length - n)).length = 0 := by
      show (S.cut (S.l.length - n)).l.length = 0
      rw [e]; rfl
    rw [List.length_take] at this
    omega
  have he : (scells dp S []).set 3 (.slice S.A (S.l.length - n) S.c) = scells dp (S.cut (S.l.length - n)) [] := by
    unfold scells hcells SSt.cut
    simp only [List.length_take]
    rw [show min (S.l.length - n) S.l.length = S.l.length - n from by omega]
    rfl
  obtain ⟨hq2, k2⟩ := hq1.set (S' := S.cut (S.l.length - n)) 3 _ he (hq1.row.take _) hokc
  have hz2 : LR ((copied w Tryz.zeroCells82 dp S).setCell ⟨w.heap.size, 3, none⟩ (.slice S.A (S.l.length - n) S.c)) (· = p) (S.cut (S.l.length - n)).A (S.cut (S.l.length - n)).l := (hq1.row.take (S.l.length - n)).both (hz1.take _) k2
  have hzq2 : LR ((copied w Tryz.zeroCells82 dp S).setCell ⟨w.heap.size, 3, none⟩ (.slice S.A (S.l.length - n) S.c)) (· = w.heap.size) S.A S.l := hq1.row.both hzq1 k2
  have hp2 : SnAt ((copied w Tryz.zeroCells82 dp S).setCell ⟨w.heap.size, 3, none⟩ (.slice S.A (S.l.length - n) S.c)) Fd 84 [.bool false] p dp S D := by
    have kq : Keeps (· = w.heap.size) (copied w Tryz.zeroCells82 dp S) ((copied w Tryz.zeroCells82 dp S).setCell ⟨w.heap.size, 3, none⟩ (.slice S.A (S.l.length - n) S.c)) := Keeps.setCell _ _ _ _ rfl
    refine ⟨(kq.block p hp1.pl (by omega)).trans hp1.head, ?_, hp1.disk.keep kq (fun b _ f e => by have := hlt _ f; omega), fun b hb => Nat.lt_of_lt_of_le (hp1.lt b hb) kq.size, hnp, hp1.ok⟩
    exact (hzq1.both hp1.row kq)
  have s2 : ((copied w Tryz.zeroCells82 dp S).setCell ⟨w.heap.size, 3, none⟩ (.slice S.A (S.l.length - n) S.c)).heap.size = w.heap.size + 1 := by rw [← s1]; simp [World.setCell]
  have k02 : Keeps (fun _ => False) w ((copied w Tryz.zeroCells82 dp S).setCell ⟨w.heap.size, 3, none⟩ (.slice S.A (S.l.length - n) S.c)) := by
    have kq : Keeps (· = w.heap.size) (copied w Tryz.zeroCells82 dp S) ((copied w Tryz.zeroCells82 dp S).setCell ⟨w.heap.size, 3, none⟩ (.slice S.A (S.l.length - n) S.c)) := Keeps.setCell _ _ _ _ rfl
    exact ⟨kq.os.trans k1.os, kq.tape.trans k1.tape, kq.output.trans k1.output, by omega, fun b hb _ => (kq.block b (by omega) (by omega)).trans (k1.block b hb (fun h => h))⟩
  have cq := hq1.c3
  have zq := hq1.fz 3
  clear h th1 hp1 hq1 hz1 hzq1 k1 s1 he
  have hco : copied w Tryz.zeroCells82 dp S = (newSt w Tryz.zeroCells82).setCells w.heap.size 0 (scells dp S []) := rfl
  rw [hco] at hq2 k2 hz2 hzq2 hp2 s2 k02 cq zq
  clear hco k2
  have hnat : ((S.l.length : Int) - (n : Int)).toNat = S.l.length - n := by omega
  have hwr : IntKind.i64.wrap ((S.l.length : Int) - (n : Int)) = (S.l.length : Int) - (n : Int) := by rw [IntKind.wrap_i64]; omega
  have hb1 : 0 ≤ (S.l.length : Int) - (n : Int) ∧ (S.l.length : Int) - (n : Int) ≤ (S.c : Int) := by omega
  go_enter Tryz.func42, Tryz.ntmps42
  go_wp2_with fail
  refine hf.mono ?_
  rintro e w2 ⟨rfl, rfl⟩
  clear hf
  generalize (scells dp S []).toArray = cs at *
  generalize scells dp S [] = cl at *
  go_wp2_with (first
    | ((with_reducible refine here (op := .load 82 (.tmp 26)) ?_); refine wpList_load_run rfl 82 _ rfl _ _ rfl LD.out ?_)
    | ((with_reducible refine here (op := .store 82 (.tmp 6) (.tmp 27)) ?_); refine wpList_store_run rfl 82 _ _ rfl _ _ rfl rfl ST.out ?_))
  have hfs : (fsU.map fun f => Value.func (.func f) #[.pointer (some ⟨w.heap.size, 0, none⟩)] #[]).toArray = #[mv 68 w.heap.size, mv 59 w.heap.size, mv 61 w.heap.size] := rfl
  generalize ((newSt w Tryz.zeroCells82).setCells w.heap.size 0 cl).setCell ⟨w.heap.size, 3, none⟩ (.slice S.A (S.l.length - n) S.c) = w4 at *
  have kA : Keeps (fun _ => False) w4 (w4.alloc (.cells #[mv 68 w.heap.size, mv 59 w.heap.size, mv 61 w.heap.size] 1)) := Keeps.alloc _ _ _
  have eA : (w4.alloc (.cells #[mv 68 w.heap.size, mv 59 w.heap.size, mv 61 w.heap.size] 1)).heap[w.heap.size + 1]? = some (.cells #[mv 68 w.heap.size, mv 59 w.heap.size, mv 61 w.heap.size] 1 (0, 0)) := blk_at_last _ _ _ s2.symm
  have sA : (w4.alloc (.cells #[mv 68 w.heap.size, mv 59 w.heap.size, mv 61 w.heap.size] 1)).heap.size = w.heap.size + 2 := by rw [World.size_alloc, s2]
  rw [← hfs] at kA eA sA
  change Calls Tryz.prog _ _ (w4.alloc (.cells (fsU.map fun f => Value.func (.func f) #[.pointer (some ⟨w.heap.size, 0, none⟩)] #[]).toArray 1)) _
  generalize w4.alloc (.cells (fsU.map fun f => Value.func (.func f) #[.pointer (some ⟨w.heap.size, 0, none⟩)] #[]).toArray 1) = w5 at *
  have kz : ∀ {F : Nat → Prop} {A : Option Addr} {l : List Ck}, LR w4 F A l → LR w5 F A l := fun h => h.keep (kA.mono (fun _ _ h => h.elim)) (fun _ _ f => f)
  have hbc := become_any (fs := fsU) (hp2.new kA) (hq2.new kA) (by omega) (kz hz2) (kz hzq2)
    (undo_steps on hq ha hlc hw hg hatt hm w5.heap.size (· = p) (fun b e => by omega) 82 w.heap.size dp) ⟨rfl, rfl⟩ (fun h => h.elim) (fun h => h.elim) eA (fun f => by
      rcases f with f | f
      · omega
      · have := hlt _ f; omega) (by decide)
  have HB := Lib.hid hbc
  have KW := Lib.hid (k02.trans kA)
  clear hbc hp2 hq2 hz2 hzq2 kz eA hfs kA k02
  refine HB.out.mono ?_
  rintro e w6 ⟨E, S', D', Fd', rfl, k6, s6, ⟨rfl, ⟨rfl, rfl⟩, h6⟩ | ⟨_, hx, _⟩⟩
  · have HF := Lib.hid (show UndoOut w Fd p dp (S.undone (S.l.length - n) (memS D ps)) (D.write (1 - S.at_) (S.cut (S.l.length - n)).record).flush (.returned (.int .i64 0)) w6 from ⟨rfl, Fd', h6, ((KW.out.mono (fun _ _ h => h.elim) : Keeps (fun b => b = p ∨ b = w.heap.size ∨ Fd b) w w5).trans k6).mono (fun b hb f => by
      rcases f with f | f | f
      · exact .inl f
      · omega
      · exact .inr f), fun b hb => by
      rcases s6 b hb with f | f
      · exact .inl f
      · exact .inr (by omega)⟩)
    clear h6 k6 s6 HB
    go_wp2_with fail
    go_ret
    exact HF.out
  · exact hx.elim
end
end Go.Proofs.YtebecpjecchfoaaGreatDoor.St
