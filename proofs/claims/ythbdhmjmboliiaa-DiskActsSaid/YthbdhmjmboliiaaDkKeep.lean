/-
  What is read of a disk whose power stays is what a flush leaves; rows of slices; Waiting of a disk on which nothing waits.
-/
import Derived.Test.YthbdhmjmboliiaaTri
import Derived.Test.YthbdhmjmboliiaaStr
namespace Go.Proofs.Ythbdhmjmboliiaa
open Go.RowKit

theorem splice_get (L b : List UInt8) (o j : Nat) (h : o + b.length ≤ L.length) : (splice L o b)[j]? = if j < o then L[j]? else if j < o + b.length then b[j - o]? else L[j]? := by
  unfold splice
  have hl : (L.take o).length = o := by simp; omega
  by_cases h1 : j < o
  · rw [if_pos h1, List.getElem?_append_left (by omega), List.getElem?_take, if_pos h1]
  · rw [if_neg h1]
    by_cases h2 : j < o + b.length
    · rw [if_pos h2, List.getElem?_append_right (by omega), hl, List.getElem?_append_left (by omega)]
    · rw [if_neg h2, List.getElem?_append_right (by omega), hl, List.getElem?_append_right (by omega), List.getElem?_drop]
      congr 1
      omega
theorem sec_get (L : List UInt8) (n i : Nat) : (sec L n)[i]? = if i < 64 then L[n * 64 + i]? else none := by
  unfold sec
  rw [List.getElem?_take]
  split
  · rw [List.getElem?_drop]
  · rfl
theorem sec_splice (L b : List UInt8) (m n : Nat) (hb : b.length = 64) (hm : m * 64 + 64 ≤ L.length) : sec (splice L (m * 64) b) n = if m = n then b else sec L n := by
  apply List.ext_getElem?
  intro i
  rw [sec_get]
  by_cases h : m = n
  · subst h
    rw [if_pos rfl]
    by_cases hi : i < 64
    · rw [if_pos hi, splice_get _ _ _ _ (by omega), if_neg (by omega), if_pos (by omega)]
      congr 1; omega
    · rw [if_neg hi, List.getElem?_eq_none (by omega)]
  · rw [if_neg h, sec_get]
    by_cases hi : i < 64
    · rw [if_pos hi, if_pos hi, splice_get _ _ _ _ (by omega)]
      by_cases h1 : n * 64 + i < m * 64
      · rw [if_pos h1]
      · rw [if_neg h1, if_neg (by omega)]
    · rw [if_neg hi, if_neg hi]
theorem stay_all (i : Nat) : stayB fAll.stay i = true := by
  have h : ∀ m : Nat, m < 64 → (((18446744073709551615 : Int) / 2 ^ m) % 2 == 1) = true := by decide +kernel
  exact h (min i 63) (by omega)
theorem lay_all (L : List UInt8) (Q : List (Nat × List UInt8)) (n : Nat) (hQ : ∀ q ∈ Q, q.1 * 64 + 64 ≤ L.length ∧ q.2.length = 64) (k : Nat) (hk : k ≤ Q.length) : sec (layTo fAll L Q k) n = (lastW (Q.take k) n).getD (sec L n) := by
  induction k with
  | zero => rfl
  | succ k ih =>
    have hlt : k < Q.length := by omega
    rw [layTo_succ _ _ _ _ hlt, List.take_succ_eq_append_getElem hlt]
    have hq := hQ Q[k] (List.getElem_mem hlt)
    have e1 : ((k : Int) == fAll.torn) = false := by rw [beq_eq_false_iff_ne]; show (k : Int) ≠ -1; omega
    unfold layOne
    rw [e1, if_neg (by simp), if_pos (stay_all k), sec_splice _ _ _ _ hq.2 (by rw [layTo_len _ _ _ hQ _ (by omega)]; exact hq.1), ih (by omega)]
    rw [show (Q.take k ++ [Q[k]]) = (Q.take k ++ [(Q[k].1, Q[k].2)]) from rfl, lastW_snoc]
    by_cases h : Q[k].1 = n
    · rw [if_pos h, if_pos h]; rfl
    · rw [if_neg h, if_neg h]
theorem okQ {D : DSt} {n : Nat} (h : D.Ok n) : ∀ q ∈ D.Q, q.1 * 64 + 64 ≤ D.L.length ∧ q.2.length = 64 := fun q hq => by
  have h1 := h.q q hq
  have h2 := h.len
  exact ⟨by omega, h1.2⟩
theorem flush_parts {D : DSt} (h : On D) : D.flush.L = layTo fAll D.L D.Q D.Q.length ∧ D.flush.Q = [] ∧ D.flushErr = 0 := by
  have e : D.spent = { D with left := if 0 < D.left then D.left - 1 else D.left, acts := D.acts + 1 } := by unfold DSt.spent; rw [if_neg (by rw [h.left]; decide)]
  refine ⟨?_, ?_, ?_⟩
  · unfold DSt.flush; rw [if_neg (by rw [h.down]; simp), if_neg (by rw [h.left]; decide), e]; rfl
  · unfold DSt.flush; rw [if_neg (by rw [h.down]; simp), if_neg (by rw [h.left]; decide), e]; rfl
  · unfold DSt.flushErr DSt.actErr; rw [if_neg (by rw [h.down]; simp), if_neg (by rw [h.left]; decide)]
/-- Behind a flush, whatever the fate, all is read as before. -/
theorem kept_now {D : DSt} {n : Nat} (h : On D) (hk : D.Ok n) (f : Fate) (i : Nat) : (D.flush.restart f).now i = D.now i := by
  obtain ⟨e1, e2, _⟩ := flush_parts h
  have e3 : (D.flush.restart f).Q = [] := rfl
  have e4 : (D.flush.restart f).L = D.flush.L := by
    show layTo f D.flush.L D.flush.Q D.flush.Q.length = D.flush.L
    rw [e2]; rfl
  unfold DSt.now
  rw [e3, e4, e1, lay_all D.L D.Q i (okQ hk) _ (Nat.le_refl _), List.take_length]
  rfl

/-! ### a row of slices of 64 bytes -/
def WasRow (w : World) (T : Nat) (f : Nat → List UInt8) (k : Nat) (v : Value) : Prop :=
  ∃ vs : List Value, w.ownsRow T 30 1 v k vs ∧ ∀ i, i < k → ∃ R c, vs[i]? = some (.slice R 64 c) ∧ BR w w.heap.size R (f i) ∧ ∀ ad, R = some ad → T ≤ ad.block ∧ ad.block < w.heap.size ∧ v.ownBlock ≠ some ad.block
theorem WasRow.keep {w w' : World} {G : Nat → Prop} {T : Nat} {f : Nat → List UInt8} {k : Nat} {v : Value} (h : WasRow w T f k v) (hk : Keeps G w w') (hG : ∀ b, T ≤ b → b < w.heap.size → ¬ G b) : WasRow w' T f k v := by
  obtain ⟨vs, h1, h2⟩ := h
  refine ⟨vs, ⟨h1.1, ?_⟩, fun i hi => ?_⟩
  · rcases h1.2 with hn | ⟨g, cap, cur, hv, hb, hgg, rest⟩
    · exact .inl hn
    · have hlt := (Array.getElem?_eq_some_iff.1 hgg).1
      exact .inr ⟨g, cap, cur, hv, hb, (hk.block _ hlt (hG g hb hlt)).trans hgg, rest⟩
  · obtain ⟨R, c, e, br, ha⟩ := h2 i hi
    exact ⟨R, c, e, hk.br br fun ad e' _ => hG _ (ha ad e').1 (ha ad e').2.1, fun ad e' => ⟨(ha ad e').1, Nat.lt_of_lt_of_le (ha ad e').2.1 hk.size, (ha ad e').2.2⟩⟩
theorem WasRow.start (w : World) (T : Nat) (f : Nat → List UInt8) : WasRow w T f 0 (.slice none 0 0) := ⟨[], World.ownsRow_nil _ _ _ _, fun i hi => absurd hi (Nat.not_lt_zero i)⟩
theorem WasRow.lt {w : World} {T : Nat} {f : Nat → List UInt8} {k : Nat} {v : Value} (h : WasRow w T f k v) : ∀ b, v.ownBlock = some b → T ≤ b ∧ b < w.heap.size := by
  obtain ⟨vs, h1, _⟩ := h
  exact fun b e => World.ownsRow.lt h1 b e
/-- The i-th, read. -/
theorem WasRow.at_ {w : World} {T : Nat} {f : Nat → List UInt8} {k : Nat} {v : Value} (h : WasRow w T f k v) (i : Nat) (hi : i < k) : ∃ g cap R c, v = .slice (some ⟨g, 0, none⟩) k cap ∧ w.cell? ⟨g, i, none⟩ = some (.slice R 64 c) ∧ BR w w.heap.size R (f i) := by
  obtain ⟨vs, h1, h2⟩ := h
  obtain ⟨g, cap, hv, _, _⟩ := World.ownsRow.form h1 (by omega)
  obtain ⟨R, c, e, br, _⟩ := h2 i hi
  have := World.ownsRow.cells h1 (g := g) (by rw [hv]; rfl) i _ e
  have e0 : (⟨g, 0, none⟩ : Addr).add i = ⟨g, i, none⟩ := by unfold Addr.add; split <;> simp_all
  rw [e0] at this
  exact ⟨g, cap, R, c, hv, this, br⟩
theorem WasRow.form {w : World} {T : Nat} {f : Nat → List UInt8} {k : Nat} {v : Value} (h : WasRow w T f k v) : ∃ A cap, v = .slice A k cap := by
  obtain ⟨vs, h1, _⟩ := h
  rcases h1.2 with ⟨rfl, hn⟩ | ⟨_, cap, _, e, _⟩
  · exact ⟨none, 0, by rw [hn]⟩
  · exact ⟨_, cap, e⟩
theorem Try.info30 : (Try.prog.info? 30).map (fun i => (i.zero, i.size, i.bytes)) = some (some (.slice none 0 0), 1, 24) := by kernel_rfl
theorem bslice44 (w : World) (R : Option Addr) (n c : Nat) :
    (Instr.buildSlice 44 1 #[(0, .slice R n c)]).run Try.prog w = .ok (.slice (some ⟨w.heap.size, 0, none⟩) 1 1) (w.alloc (.cells #[.slice R n c] 30)) := by kernel_rfl
/-- One slice more. -/
theorem WasRow.app {w : World} {T : Nat} {f : Nat → List UInt8} {k : Nat} {v : Value} (h : WasRow w T f k v) (hT : T ≤ w.heap.size) (hk : k ≤ 2000) (R : Option Addr) (c : Nat) (br : BR w w.heap.size R (f k)) (ha : ∀ ad, R = some ad → T ≤ ad.block ∧ ad.block < w.heap.size ∧ v.ownBlock ≠ some ad.block) (g c' : Nat) (ty : TypeId) (hg : w.cell? ⟨g, 0, none⟩ = some (.slice R 64 c)) :
    ∃ v' w', (Builtin.append_ #[44, 44] ty #[v, .slice (some ⟨g, 0, none⟩) 1 c']).run Try.prog w = .ok v' w' ∧ WasRow w' T f (k + 1) v' ∧ Keeps (fun b => v.ownBlock = some b) w w' := by
  obtain ⟨vs, h1, h2⟩ := h
  obtain ⟨i0, hi, hz0, hz1, hz2⟩ := info_parts Try.info30
  obtain ⟨v', w', hrun, hown, hgr, _, hblk⟩ := run_append_own_at (P := Try.prog) w T 44 ty 30 i0 _ 1 24 Try.underlying44 hi hz0 hz1 hz2 rfl (by decide) v k vs h1 ⟨g, 0, none⟩ 1 c' [.slice R 64 c] rfl (fun j u hu => by
    match j, hu with
    | 0, hu => cases hu; exact hg
    | j + 1, hu => simp at hu) (by intro u hu; simp at hu; subst hu; rfl) (by unfold maxLen; omega) (by omega) hT
  have hkp : Keeps (fun b => v.ownBlock = some b) w w' := Keeps.grown _ hgr fun _ e => e
  have hlen : vs.length = k := by have := h1.1; omega
  have put : ∀ (R' : Option Addr) (xs : List UInt8), BR w w.heap.size R' xs → (∀ ad, R' = some ad → T ≤ ad.block ∧ ad.block < w.heap.size ∧ v.ownBlock ≠ some ad.block) → BR w' w'.heap.size R' xs ∧ ∀ ad, R' = some ad → T ≤ ad.block ∧ ad.block < w'.heap.size ∧ v'.ownBlock ≠ some ad.block := fun R' xs hb hh =>
    ⟨hkp.br hb fun ad e _ hf => (hh ad e).2.2 hf, fun ad e => ⟨(hh ad e).1, Nat.lt_of_lt_of_le (hh ad e).2.1 hkp.size, fun hf => by
      rcases hblk with e1 | e1
      · rw [e1] at hf; exact (hh ad e).2.2 hf
      · rw [e1] at hf
        simp only [Option.some.injEq] at hf
        have := (hh ad e).2.1
        omega⟩⟩
  refine ⟨v', w', hrun, ⟨vs ++ [.slice R 64 c], hown, fun i hi => ?_⟩, hkp⟩
  by_cases e : i = k
  · subst e
    obtain ⟨p1, p2⟩ := put _ _ br ha
    exact ⟨R, c, by rw [List.getElem?_append_right (by omega), hlen]; simp, p1, p2⟩
  · obtain ⟨R', c', e', br', ha'⟩ := h2 i (by omega)
    obtain ⟨p1, p2⟩ := put _ _ br' ha'
    exact ⟨R', c', by rw [List.getElem?_append_left (by omega)]; exact e', p1, p2⟩

/-! ### Waiting, where nothing waits -/
theorem make49 (w : World) : (Instr.makeSlice 49 (.int .i64 0) (.int .i64 0)).run Try.prog w = .ok (.slice (some ⟨w.heap.size, 0, none⟩) 0 0) (w.alloc (.cells #[] 3)) := by kernel_rfl
def WaitOut (w : World) (e : Ending) (w' : World) : Prop := ∃ R c, e = .returned (.slice R 0 c) ∧ Keeps (fun _ => False) w w'
set_option maxHeartbeats 400000 in
theorem waiting_none {w : World} {F : Nat → Prop} {p : Nat} {D : DSt} (h0 : Dk w F p D) (hQ : D.Q = []) :
    Calls Try.prog 21 #[.pointer (some ⟨p, 0, none⟩)] w (WaitOut w) := by
  obtain ⟨lb, mb, n, iv, h, _⟩ := h0
  have HQ : Hid (D.Q.length = 0) := by show D.Q.length = 0; rw [hQ]; rfl
  have hmk := make49
  clear hQ
  go_enter Try.func21, Try.ntmps21
  go_wp2_with fail
  refine (made_at h).mono ?_
  rintro e w' ⟨rfl, rfl⟩
  go_wp2_with fail
  refine (many_at h).mono ?_
  rintro e w' ⟨rfl, rfl⟩
  rw [HQ.out]
  go_wp2_with fail
  clear hmk h
  go_loopw [15] (fun i wr => i = .int .i64 0 ∧ Keeps (fun _ => False) w wr) (fun _ _ => 0)
  case atStart => exact ⟨rfl, Keeps.alloc _ _ _⟩
  case round =>
    obtain ⟨rfl, kp⟩ := hrel
    go_wp2_with fail
    go_ret
    exact ⟨_, _, rfl, kp⟩
theorem now64 {D : DSt} {n : Nat} (h : D.Ok n) (hd : D.down = false) (i : Nat) (hi : i < n) : D.readAt (i : Int) = D.now i ∧ D.readErr (i : Int) = 0 ∧ (D.now i).length = 64 := by
  have hn := h.n_eq
  refine ⟨?_, ?_, now_len h hi⟩
  · unfold DSt.readAt
    rw [if_neg (by rw [hd]; simp), if_pos (by omega)]
    simp
  · unfold DSt.readErr
    rw [if_neg (by rw [hd]; simp), if_pos (by omega)]
theorem Dk.ok {w : World} {F : Nat → Prop} {p : Nat} {D : DSt} (h : Dk w F p D) : ∃ n, D.Ok n := by
  obtain ⟨lb, mb, n, iv, h, _⟩ := h
  exact ⟨n, h.ok⟩
/-- Read, at a sector that there is. -/
theorem Dk.read {w : World} {F : Nat → Prop} {p : Nat} {D : DSt} {n : Nat} (h : Dk w F p D) (ho : D.Ok n) (hd : D.down = false) (i : Nat) (hi : i < n) (zs : List UInt8) (hz : D.now i = zs) : Calls Try.prog 18 #[.pointer (some ⟨p, 0, none⟩), .int .i64 (i : Int)] w
    fun e w' => ∃ R c, e = .returned (.tuple #[.slice R 64 c, .int .i64 0]) ∧ BR w' w'.heap.size R zs ∧ (∀ ad, R = some ad → w.heap.size ≤ ad.block) ∧ Keeps (fun _ => False) w w' := by
  subst hz
  obtain ⟨lb, mb, m, iv, h, _⟩ := h
  obtain ⟨e1, e2, e3⟩ := now64 ho hd i hi
  refine (read_at h (i : Int)).mono ?_
  rintro e w' ⟨R, c, rfl, hr, ha, hk⟩
  rw [e1] at hr
  exact ⟨R, c, by rw [e1, e2, e3], hr, ha, hk⟩
theorem Dk.lenN {w : World} {F : Nat → Prop} {p : Nat} {D : DSt} {n : Nat} (h : Dk w F p D) (ho : D.Ok n) : Calls Try.prog 11 #[.pointer (some ⟨p, 0, none⟩)] w fun e w' => e = .returned (.int .i64 (n : Int)) ∧ w = w' := by
  obtain ⟨lb, mb, m, iv, h, _⟩ := h
  have e1 := h.ok.len
  have e2 := ho.len
  obtain rfl : m = n := by omega
  exact len_at h
theorem restart_ok {D : DSt} {n : Nat} (h : On D) (ho : D.Ok n) (f : Fate) : (D.flush.restart f).Ok n ∧ (D.flush.restart f).down = false ∧ (D.flush.restart f).Q = [] := by
  obtain ⟨e1, e2, _⟩ := flush_parts h
  have e4 : (D.flush.restart f).L = D.flush.L := by
    show layTo f D.flush.L D.flush.Q D.flush.Q.length = D.flush.L
    rw [e2]; rfl
  refine ⟨⟨?_, ho.n_le, (fun q hq => by cases hq), (by show (-1 : Int) ≤ -1; decide), (by show (-1 : Int) ≤ 9223372036854775807; decide)⟩, rfl, rfl⟩
  rw [e4, e1, layTo_len _ _ _ (okQ ho) _ (Nat.le_refl _), ho.len]
end Go.Proofs.Ythbdhmjmboliiaa
