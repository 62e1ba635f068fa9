/-
  The document's disk in memory, with writes that wait: bytes are shared, and never written again.
-/
import Derived.Test.YthbdhmjmboliiaaRdBytes
import Derived.Test.YthbdhmjmboliiaaOps
namespace Go.Proofs.Ythbdhmjmboliiaa
open Go.RowKit

/-- A slice of 64 bytes in a block of P. -/
def SL (w : World) (P : Nat → Prop) (v : Value) (xs : List UInt8) : Prop :=
  ∃ ad c, v = .slice (some ad) 64 c ∧ xs.length = 64 ∧ ad.block < w.heap.size ∧ P ad.block ∧ ∀ k u, xs[k]? = some u → w.cell? (ad.add k) = some (B8 u)
theorem SL.keep {w w' : World} {P G : Nat → Prop} {v : Value} {xs : List UInt8} (h : SL w P v xs) (k : Keeps G w w') (hG : ∀ b, b < w.heap.size → P b → ¬ G b) : SL w' P v xs := by
  obtain ⟨ad, c, e, hl, hb, hp, hc⟩ := h
  refine ⟨ad, c, e, hl, Nat.lt_of_lt_of_le hb k.size, hp, fun j u hu => ?_⟩
  rw [World.cell?_of_block (w := w) (by rw [block_add]; exact k.block _ hb (hG _ hb hp))]
  exact hc j u hu
theorem SL.mono {w : World} {P P' : Nat → Prop} {v : Value} {xs : List UInt8} (h : SL w P v xs) (hP : ∀ b, b < w.heap.size → P b → P' b) : SL w P' v xs := by
  obtain ⟨ad, c, e, hl, hb, hp, hc⟩ := h
  exact ⟨ad, c, e, hl, hb, hP _ hb hp, hc⟩
theorem SL.br {w : World} {P : Nat → Prop} {v : Value} {xs : List UInt8} (h : SL w P v xs) : ∃ R c, v = .slice R 64 c ∧ BR w w.heap.size R xs ∧ xs.length = 64 := by
  obtain ⟨ad, c, e, hl, hb, hp, hc⟩ := h
  exact ⟨some ad, c, e, fun _ => ⟨ad, rfl, hb, hc⟩, hl⟩
theorem SL.of {w : World} {P : Nat → Prop} {R : Option Addr} {c : Nat} {xs : List UInt8} (hl : xs.length = 64) (h : BR w w.heap.size R xs) (hP : ∀ ad, R = some ad → P ad.block) : SL w P (.slice R 64 c) xs := by
  obtain ⟨ad, e, hb, hc⟩ := h (by intro e; rw [e] at hl; simp at hl)
  subst e
  exact ⟨ad, c, rfl, hl, hb, hP ad rfl, hc⟩

def wcells (q : Nat × Value) : List Value := [.int .i64 (q.1 : Int), q.2]
/-- The blocks that the disk's calls write. -/
def XR (p : Nat) (sv wv : Value) (b : Nat) : Prop := b = p ∨ sv.ownBlock = some b ∨ wv.ownBlock = some b
def PF (F : Nat → Prop) (p : Nat) (sv wv : Value) (b : Nat) : Prop := F b ∧ ¬ XR p sv wv b
def rhead (sv wv : Value) (D : DSt) : Obj := .cells #[sv, wv, .int .i64 D.left, .bool D.down, .int .i64 (D.acts : Int)] 66 (0, 0)

structure RDat (w : World) (F : Nat → Prop) (p n : Nat) (sv wv : Value) (svs : List Value) (ws : List (Nat × Value)) (D : DSt) : Prop where
  ok : D.Ok n
  head : w.heap[p]? = some (rhead sv wv D)
  own : w.ownsRow 0 30 1 sv n svs
  que : w.ownsRow 0 79 2 wv D.Q.length (ws.flatMap wcells)
  secs : ∀ i, i < n → ∃ v, svs[i]? = some v ∧ SL w (PF F p sv wv) v (sec D.L i)
  wl : ws.length = D.Q.length
  wts : ∀ (j : Nat) (q : Nat × List UInt8), D.Q[j]? = some q → ∃ v, ws[j]? = some (q.1, v) ∧ SL w (PF F p sv wv) v q.2
  fp : F p
  fs : ∀ g, sv.ownBlock = some g → F g
  fw : ∀ g, wv.ownBlock = some g → F g
def RD (w : World) (F : Nat → Prop) (p : Nat) (D : DSt) : Prop := ∃ n sv wv svs ws, RDat w F p n sv wv svs ws D

section
variable {w w' : World} {F G : Nat → Prop} {p n : Nat} {sv wv : Value} {svs : List Value} {ws : List (Nat × Value)} {D : DSt}
theorem ownsRow_keepS {w w' : World} {T size k : Nat} {t : TypeId} {v : Value} {vs : List Value} (h : w.ownsRow T t size v k vs) (e : ∀ b, v.ownBlock = some b → w'.heap[b]? = w.heap[b]?) : w'.ownsRow T t size v k vs := by
  obtain ⟨h0, h1⟩ := h
  refine ⟨h0, ?_⟩
  rcases h1 with hn | ⟨g, cap, cur, hv, hb, hgg, rest⟩
  · exact .inl hn
  · exact .inr ⟨g, cap, cur, hv, hb, (e g (by rw [hv]; rfl)).trans hgg, rest⟩
theorem ownsRow_blk {w : World} {T size k : Nat} {t : TypeId} {v : Value} {vs : List Value} (h : w.ownsRow T t size v k vs) {b : Nat} (e : v.ownBlock = some b) : ∃ cur, w.heap[b]? = some (.cells cur t (0, 0)) := by
  rcases h.2 with ⟨hn, _⟩ | ⟨g, cap, cur, hv, hb, hgg, rest⟩
  · rw [hn] at e; cases e
  · rw [hv] at e
    simp only [Value.ownBlock, Option.some.injEq] at e
    subst e
    exact ⟨cur, hgg⟩
theorem RDat.plt (h : RDat w F p n sv wv svs ws D) : p < w.heap.size := (Array.getElem?_eq_some_iff.1 h.head).1
theorem RDat.slt (h : RDat w F p n sv wv svs ws D) {b : Nat} (e : sv.ownBlock = some b) : b < w.heap.size := (World.ownsRow.lt h.own b e).2
theorem RDat.wlt (h : RDat w F p n sv wv svs ws D) {b : Nat} (e : wv.ownBlock = some b) : b < w.heap.size := (World.ownsRow.lt h.que b e).2
theorem RDat.xlt (h : RDat w F p n sv wv svs ws D) {b : Nat} (e : XR p sv wv b) : b < w.heap.size := by
  rcases e with rfl | e | e
  · exact h.plt
  · exact h.slt e
  · exact h.wlt e
theorem RDat.xf (h : RDat w F p n sv wv svs ws D) {b : Nat} (e : XR p sv wv b) : F b := by
  rcases e with rfl | e | e
  · exact h.fp
  · exact h.fs _ e
  · exact h.fw _ e
theorem RDat.apart (h : RDat w F p n sv wv svs ws D) : sv.ownBlock ≠ some p ∧ wv.ownBlock ≠ some p ∧ ∀ b, sv.ownBlock = some b → wv.ownBlock ≠ some b := by
  have hh := h.head
  unfold rhead at hh
  refine ⟨fun e => ?_, fun e => ?_, fun b e e' => ?_⟩
  · obtain ⟨cur, hc⟩ := ownsRow_blk h.own e
    rw [hh] at hc; simp at hc
  · obtain ⟨cur, hc⟩ := ownsRow_blk h.que e
    rw [hh] at hc; simp at hc
  · obtain ⟨cur, hc⟩ := ownsRow_blk h.own e
    obtain ⟨cur', hc'⟩ := ownsRow_blk h.que e'
    rw [hc] at hc'; simp at hc'
theorem RDat.c (h : RDat w F p n sv wv svs ws D) : w.cell? ⟨p, 0, none⟩ = some sv ∧ w.cell? ⟨p, 1, none⟩ = some wv ∧ w.cell? ⟨p, 2, none⟩ = some (.int .i64 D.left) ∧ w.cell? ⟨p, 3, none⟩ = some (.bool D.down) ∧ w.cell? ⟨p, 4, none⟩ = some (.int .i64 (D.acts : Int)) ∧ ∀ i, w.frozen? ⟨p, i, none⟩ = false := by
  have hh := h.head
  refine ⟨?_, ?_, ?_, ?_, ?_, fun i => frozen_of_row w p i _ _ hh⟩ <;> rw [cell_of_row w p _ _ _ _ hh] <;> rfl
/-- Where only other blocks were written. -/
theorem RDat.keep (h : RDat w F p n sv wv svs ws D) (k : Keeps G w w') (hd : ∀ b, b < w.heap.size → F b → ¬ G b) : RDat w' F p n sv wv svs ws D :=
  ⟨h.ok, (k.block _ h.plt (hd _ h.plt h.fp)).trans h.head, ownsRow_keepS h.own fun b e => k.block b (h.slt e) (hd _ (h.slt e) (h.fs _ e)), ownsRow_keepS h.que fun b e => k.block b (h.wlt e) (hd _ (h.wlt e) (h.fw _ e)),
    fun i hi => by obtain ⟨v, e, s⟩ := h.secs i hi; exact ⟨v, e, s.keep k fun b hb hp => hd b hb hp.1⟩, h.wl, fun j q hq => by obtain ⟨v, e, s⟩ := h.wts j q hq; exact ⟨v, e, s.keep k fun b hb hp => hd b hb hp.1⟩, h.fp, h.fs, h.fw⟩
theorem RDat.same (h : RDat w F p n sv wv svs ws D) (k : Keeps (fun _ => False) w w') : RDat w' F p n sv wv svs ws D := h.keep k fun _ _ _ h => h
theorem RDat.mono (h : RDat w F p n sv wv svs ws D) (hF : ∀ b, b < w.heap.size → F b → G b) : RDat w G p n sv wv svs ws D :=
  ⟨h.ok, h.head, h.own, h.que, fun i hi => by obtain ⟨v, e, s⟩ := h.secs i hi; exact ⟨v, e, s.mono fun b hb hp => ⟨hF b hb hp.1, hp.2⟩⟩, h.wl, fun j q hq => by obtain ⟨v, e, s⟩ := h.wts j q hq; exact ⟨v, e, s.mono fun b hb hp => ⟨hF b hb hp.1, hp.2⟩⟩,
    hF _ h.plt h.fp, fun g e => hF _ (h.slt e) (h.fs g e), fun g e => hF _ (h.wlt e) (h.fw g e)⟩
/-- Other numbers in the struct. -/
theorem RDat.put (h : RDat w F p n sv wv svs ws D) (k : Keeps (· = p) w w') (D' : DSt) (e1 : D'.L = D.L) (e2 : D'.Q = D.Q) (lo : -1 ≤ D'.left) (hi : D'.left ≤ 9223372036854775807) (hh : w'.heap[p]? = some (rhead sv wv D')) : RDat w' F p n sv wv svs ws D' := by
  have ap := h.apart
  have kS : ∀ {v : Value} {xs : List UInt8}, SL w (PF F p sv wv) v xs → SL w' (PF F p sv wv) v xs := fun s => s.keep k fun b _ hp e => hp.2 (Or.inl e)
  refine ⟨⟨by rw [e1]; exact h.ok.len, h.ok.n_le, by rw [e2]; exact h.ok.q, lo, hi⟩, hh, ownsRow_keepS h.own fun b e => k.block b (h.slt e) (fun eb => ap.1 (by rw [← eb]; exact e)), ?_, ?_, by rw [e2]; exact h.wl, ?_, h.fp, h.fs, h.fw⟩
  · rw [e2]; exact ownsRow_keepS h.que fun b e => k.block b (h.wlt e) (fun eb => ap.2.1 (by rw [← eb]; exact e))
  · rw [e1]; exact fun i hi => by obtain ⟨v, e, s⟩ := h.secs i hi; exact ⟨v, e, kS s⟩
  · rw [e2]; exact fun j q hq => by obtain ⟨v, e, s⟩ := h.wts j q hq; exact ⟨v, e, kS s⟩
/-- A sector's cell. -/
theorem RDat.at_ (h : RDat w F p n sv wv svs ws D) (i : Nat) (hi : i < n) : ∃ g cap R c, sv = .slice (some ⟨g, 0, none⟩) n cap ∧ w.cell? ⟨g, i, none⟩ = some (.slice R 64 c) ∧ w.frozen? ⟨g, i, none⟩ = false ∧ BR w w.heap.size R (sec D.L i) ∧ (sec D.L i).length = 64 := by
  obtain ⟨g, cap, hv, _, _⟩ := World.ownsRow.form h.own (by omega)
  obtain ⟨v, e, s⟩ := h.secs i hi
  obtain ⟨R, c, rfl, hb, hl⟩ := s.br
  have := World.ownsRow.cells h.own (g := g) (by rw [hv]; rfl) i _ e
  have e0 : (⟨g, 0, none⟩ : Addr).add i = ⟨g, i, none⟩ := by unfold Addr.add; split <;> simp_all
  rw [e0] at this
  obtain ⟨cur, hc⟩ := ownsRow_blk h.own (b := g) (by rw [hv]; rfl)
  exact ⟨g, cap, R, c, hv, this, frozen_of_row w g i _ _ hc, hb, hl⟩
theorem RDat.svf (h : RDat w F p n sv wv svs ws D) : ∃ A cap, sv = .slice A n cap := by
  rcases h.own.2 with ⟨rfl, hn⟩ | ⟨_, cap, _, e, _⟩
  · exact ⟨none, 0, by rw [hn]⟩
  · exact ⟨_, cap, e⟩
theorem RDat.wvf (h : RDat w F p n sv wv svs ws D) : ∃ A cap, wv = .slice A D.Q.length cap := by
  rcases h.que.2 with ⟨rfl, hn⟩ | ⟨_, cap, _, e, _⟩
  · exact ⟨none, 0, by rw [hn]⟩
  · exact ⟨_, cap, e⟩
theorem flat2_at : ∀ (ws : List (Nat × Value)) (j : Nat) (q : Nat × Value), ws[j]? = some q → (ws.flatMap wcells)[j * 2]? = some (.int .i64 (q.1 : Int)) ∧ (ws.flatMap wcells)[j * 2 + 1]? = some q.2
  | [], j, q, h => by simp at h
  | x :: r, 0, q, h => by simp at h; subst h; simp [wcells]
  | x :: r, j + 1, q, h => by
    have := flat2_at r j q (by simpa using h)
    rw [List.flatMap_cons, show (j + 1) * 2 = j * 2 + 1 + 1 from by omega]
    simpa [wcells] using this
/-- A write that waits. -/
theorem RDat.wat (h : RDat w F p n sv wv svs ws D) (j : Nat) (hj : j < D.Q.length) : ∃ g cap v, wv = .slice (some ⟨g, 0, none⟩) D.Q.length cap ∧ w.cell? ⟨g, j * 2, none⟩ = some (.int .i64 (D.Q[j].1 : Int)) ∧ w.cell? ⟨g, j * 2 + 1, none⟩ = some v ∧ SL w (PF F p sv wv) v D.Q[j].2 := by
  obtain ⟨g, cap, hv, _, _⟩ := World.ownsRow.form h.que (by omega)
  obtain ⟨v, e, s⟩ := h.wts j _ (List.getElem?_eq_getElem hj)
  obtain ⟨e1, e2⟩ := flat2_at _ _ _ e
  have c1 := World.ownsRow.cells h.que (g := g) (by rw [hv]; rfl) _ _ e1
  have c2 := World.ownsRow.cells h.que (g := g) (by rw [hv]; rfl) _ _ e2
  rw [Addr.add_mid, Nat.zero_add] at c1 c2
  exact ⟨g, cap, v, hv, c1, c2, s⟩
end
theorem RD.keep {w w' : World} {F G : Nat → Prop} {p : Nat} {D : DSt} (h : RD w F p D) (k : Keeps G w w') (hd : ∀ b, b < w.heap.size → F b → ¬ G b) : RD w' F p D := by
  obtain ⟨n, sv, wv, svs, ws, h⟩ := h
  exact ⟨n, sv, wv, svs, ws, h.keep k hd⟩
theorem RD.mono {w : World} {F G : Nat → Prop} {p : Nat} {D : DSt} (h : RD w F p D) (hF : ∀ b, b < w.heap.size → F b → G b) : RD w G p D := by
  obtain ⟨n, sv, wv, svs, ws, h⟩ := h
  exact ⟨n, sv, wv, svs, ws, h.mono hF⟩
/-- A sector's slice is another. -/
theorem RDat.store {w : World} {F : Nat → Prop} {p n : Nat} {sv wv : Value} {svs : List Value} {ws : List (Nat × Value)} {D : DSt} (h : RDat w F p n sv wv svs ws D) (i : Nat) (hi : i < n) (g : Nat) (hg : sv.ownBlock = some g) (v : Value) (b : List UInt8) (hs : SL w (PF F p sv wv) v b) :
    RDat (w.setCell ⟨g, i, none⟩ v) F p n sv wv (svs.set i v) ws { D with L := splice D.L (i * 64) b } ∧ Keeps (fun k => sv.ownBlock = some k) w (w.setCell ⟨g, i, none⟩ v) := by
  have ap := h.apart
  have hb : b.length = 64 := by obtain ⟨_, _, _, hl, _⟩ := hs; exact hl
  have hL : i * 64 + 64 ≤ D.L.length := by have := h.ok.len; omega
  have k : Keeps (fun k => sv.ownBlock = some k) w (w.setCell ⟨g, i, none⟩ v) := Keeps.setCell _ _ _ _ hg
  have kS : ∀ {v' : Value} {xs : List UInt8}, SL w (PF F p sv wv) v' xs → SL (w.setCell ⟨g, i, none⟩ v) (PF F p sv wv) v' xs := fun s => s.keep k fun b _ hp e => hp.2 (Or.inr (Or.inl e))
  have hlen : svs.length = n := by have := h.own.1; omega
  obtain ⟨g', cap, hv', _, _⟩ := World.ownsRow.form h.own (by omega)
  subst hv'
  simp only [Value.ownBlock, Option.some.injEq] at hg
  subst hg
  have st := World.ownsRow.stored h.own i v
  refine ⟨⟨⟨by show (splice _ _ _).length = _; rw [length_splice _ _ _ (by omega)]; exact h.ok.len, h.ok.n_le, h.ok.q, h.ok.lo, h.ok.hi⟩, (k.block _ h.plt ap.1).trans h.head, st.1, ownsRow_keepS h.que fun b e => k.block b (h.wlt e) (fun eb => ap.2.2 b eb e), fun j hj => ?_, h.wl, fun j q hq => ?_, h.fp, h.fs, h.fw⟩, k⟩
  · show ∃ v', _ ∧ SL _ _ v' (sec (splice D.L (i * 64) b) j)
    rw [sec_splice _ _ _ _ hb hL]
    by_cases e : i = j
    · subst e
      rw [if_pos rfl]
      exact ⟨v, by rw [List.getElem?_set_self (by omega)], kS hs⟩
    · rw [if_neg e]
      obtain ⟨v', e', s⟩ := h.secs j hj
      exact ⟨v', by rw [List.getElem?_set_ne e]; exact e', kS s⟩
  · obtain ⟨v', e', s⟩ := h.wts j q hq
    exact ⟨v', e', kS s⟩
end Go.Proofs.Ythbdhmjmboliiaa
