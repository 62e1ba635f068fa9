/-
  Merged by wip/tools/merge.py: Tri DkKeep RdSec RdNew RdOf RdBytes RD RDSmall RDRead
-/
import Derived.Test.YtebecpjecchfoaaGreatDoorGDo
import Derived.Test.YtebecpjecchfoaaGreatDoorGDk
import Derived.Test.YtebecpjecchfoaaGreatDoorGLe
import Derived.Test.YtebecpjecchfoaaGreatDoorGT
import Derived.Test.YtebecpjecchfoaaGreatDoorGA
namespace Go.Proofs.YtebecpjecchfoaaGreatDoor
open Go.RowKit

/-- Three disks, each in blocks of its own, all of them from B on, none of them a block of X. -/
structure Tri (w : World) (B : Nat) (X : Nat → Prop) (p q r : Nat) (D E G : DSt) : Prop where
  ex : ∃ Fp Fq Fr : Nat → Prop, Dk w Fp p D ∧ Dk w Fq q E ∧ Dk w Fr r G ∧ (∀ k, Fp k → B ≤ k ∧ k < w.heap.size ∧ ¬ X k ∧ ¬ Fq k ∧ ¬ Fr k) ∧ (∀ k, Fq k → B ≤ k ∧ k < w.heap.size ∧ ¬ X k ∧ ¬ Fp k ∧ ¬ Fr k) ∧ ∀ k, Fr k → B ≤ k ∧ k < w.heap.size ∧ ¬ X k ∧ ¬ Fp k ∧ ¬ Fq k
/-- What becomes of the first, the others being apart. -/
theorem Tri.upd {w : World} {B : Nat} {X : Nat → Prop} {p q r : Nat} {D E G : DSt} (h : Tri w B X p q r D E G) (hB : B ≤ w.heap.size) (hX : ∀ k, X k → k < w.heap.size) :
    ∃ F : Nat → Prop, Dk w F p D ∧ (∀ k, F k → B ≤ k) ∧ ∀ (w' : World) (D' : DSt), Dk w' (Gr F w) p D' → Keeps F w w' → Tri w' B X p q r D' E G ∧ Below B w w' ∧ ∀ k, X k → w'.heap[k]? = w.heap[k]? := by
  obtain ⟨Fp, Fq, Fr, h1, h2, h3, a, b, c⟩ := h.ex
  refine ⟨Fp, h1, fun k hk => (a k hk).1, fun w' D' hd hk => ⟨⟨fun k => Gr Fp w k ∧ k < w'.heap.size, Fq, Fr, hd.mono fun k hk hg => ⟨hg, hk⟩, h2.keep hk fun k _ hq => (b k hq).2.2.2.1, h3.keep hk fun k _ hr => (c k hr).2.2.2.1, ?_, ?_, ?_⟩, hk.toBelow _ hB fun k hf => (a k hf).1, fun k hx => hk.block k (hX k hx) fun hf => (a k hf).2.2.1 hx⟩⟩
  · rintro k ⟨hg, hlt⟩
    rcases hg with hg | hg
    · exact ⟨(a k hg).1, hlt, (a k hg).2.2.1, (a k hg).2.2.2.1, (a k hg).2.2.2.2⟩
    · exact ⟨by omega, hlt, fun hx => by have := hX k hx; omega, fun hq => by have := (b k hq).2.1; omega, fun hr => by have := (c k hr).2.1; omega⟩
  · intro k hq
    refine ⟨(b k hq).1, Nat.lt_of_lt_of_le (b k hq).2.1 hk.size, (b k hq).2.2.1, ?_, (b k hq).2.2.2.2⟩
    rintro ⟨hg | hg, _⟩
    · exact (b k hq).2.2.2.1 hg
    · have := (b k hq).2.1; omega
  · intro k hr
    refine ⟨(c k hr).1, Nat.lt_of_lt_of_le (c k hr).2.1 hk.size, (c k hr).2.2.1, ?_, (c k hr).2.2.2.2⟩
    rintro ⟨hg | hg, _⟩
    · exact (c k hr).2.2.2.1 hg
    · have := (c k hr).2.1; omega
/-- New blocks are none of theirs. -/
theorem Tri.mark {w w' : World} {B : Nat} {X : Nat → Prop} {p q r : Nat} {D E G : DSt} (h : Tri w B X p q r D E G) (hb : Below w.heap.size w w') (Y : Nat → Prop) (hY : ∀ k, Y k → w.heap.size ≤ k) : Tri w' B Y p q r D E G := by
  obtain ⟨Fp, Fq, Fr, h1, h2, h3, a, b, c⟩ := h.ex
  have k : Keeps (fun _ => False) w w' := ⟨hb.os, hb.tape, hb.output, hb.size, fun i hi _ => hb.block i hi⟩
  have ny : ∀ i, i < w.heap.size → ¬ Y i := fun i hi hy => by have := hY i hy; omega
  exact ⟨Fp, Fq, Fr, h1.keep k fun _ _ _ h => h, h2.keep k fun _ _ _ h => h, h3.keep k fun _ _ _ h => h, fun i hi => ⟨(a i hi).1, Nat.lt_of_lt_of_le (a i hi).2.1 hb.size, ny i (a i hi).2.1, (a i hi).2.2.2⟩, fun i hi => ⟨(b i hi).1, Nat.lt_of_lt_of_le (b i hi).2.1 hb.size, ny i (b i hi).2.1, (b i hi).2.2.2⟩, fun i hi => ⟨(c i hi).1, Nat.lt_of_lt_of_le (c i hi).2.1 hb.size, ny i (c i hi).2.1, (c i hi).2.2.2⟩⟩
theorem Tri.free {w : World} {B : Nat} {X : Nat → Prop} {p q r : Nat} {D E G : DSt} (h : Tri w B X p q r D E G) : Tri w B (fun _ => False) p q r D E G := h.mark (Below.refl _ _) _ fun _ h => h.elim
/-- Three disks that were made one behind the other. -/
theorem Tri.made {w w1 w2 w3 : World} {p q r : Nat} {D E G : DSt} (h1 : Dk w1 (fun k => w.heap.size ≤ k) p D) (k1 : Keeps (fun _ => False) w w1) (h2 : Dk w2 (fun k => w1.heap.size ≤ k) q E) (k2 : Keeps (fun _ => False) w1 w2) (h3 : Dk w3 (fun k => w2.heap.size ≤ k) r G) (k3 : Keeps (fun _ => False) w2 w3) :
    Tri w3 w.heap.size (fun _ => False) p q r D E G := by
  have hp : Dk w3 (fun k => w.heap.size ≤ k ∧ k < w1.heap.size) p D := ((h1.mono fun k hk hf => ⟨hf, hk⟩).keep k2 fun _ _ _ h => h).keep k3 fun _ _ _ h => h
  have hq : Dk w3 (fun k => w1.heap.size ≤ k ∧ k < w2.heap.size) q E := (h2.mono fun k hk hf => ⟨hf, hk⟩).keep k3 fun _ _ _ h => h
  have hr : Dk w3 (fun k => w2.heap.size ≤ k ∧ k < w3.heap.size) r G := h3.mono fun k hk hf => ⟨hf, hk⟩
  have s1 := k1.size
  have s2 := k2.size
  have s3 := k3.size
  exact ⟨_, _, _, hp, hq, hr, fun k hk => ⟨hk.1, by omega, fun h => h, by omega, by omega⟩, fun k hk => ⟨by omega, by omega, fun h => h, by omega, by omega⟩, fun k hk => ⟨by omega, hk.2, fun h => h, by omega, by omega⟩⟩
theorem Dk.bytes {w : World} {F : Nat → Prop} {p : Nat} {D : DSt} (h : Dk w F p D) : Calls Tryz.prog 22 #[.pointer (some ⟨p, 0, none⟩)] w (GivesB w D.L) := by
  obtain ⟨lb, mb, n, iv, h, _⟩ := h
  exact bytes_at h
theorem Tri.bytes {w : World} {B : Nat} {X : Nat → Prop} {p q r : Nat} {D E G : DSt} (h : Tri w B X p q r D E G) : Calls Tryz.prog 22 #[.pointer (some ⟨p, 0, none⟩)] w (GivesB w D.L) := by
  obtain ⟨Fp, Fq, Fr, h1, _⟩ := h.ex
  exact h1.bytes

/-- A disk whose power stays. -/
structure On (D : DSt) : Prop where
  left : D.left = -1
  down : D.down = false
theorem On.write {D : DSt} (h : On D) (i : Int) (b : List UInt8) : On (D.write i b) := by
  unfold DSt.write
  rw [if_neg (by rw [h.down]; simp)]
  split
  · rw [if_neg (by rw [h.left]; decide)]
    unfold DSt.spent
    rw [if_neg (by rw [h.left]; decide)]
    refine ⟨?_, h.down⟩
    show (if 0 < D.left then D.left - 1 else D.left) = -1
    rw [h.left]; rfl
  · exact h
theorem On.of (xs : List UInt8) : On (ofD xs) := ⟨rfl, rfl⟩
end Go.Proofs.YtebecpjecchfoaaGreatDoor
namespace Go.Proofs.YtebecpjecchfoaaGreatDoor
open Go.RowKit

theorem splice_get (L b : List UInt8) (o j : Nat) (h : o + b.length ≤ L.length) : (splice L o b)[j]? = if j < o then L[j]? else if j < o + b.length then b[j - o]? else L[j]? := by
  unfold splice
  have hl : (L.take o).length = o := by simp; omega
  by_cases h1 : j < o
  · rw [if_pos h1, List.getElem?_append_left (by omega), List.getElem?_take, if_pos h1]
  · rw [if_neg h1]
    by_cases h2 : j < o + b.length
    · rw [if_pos h2, List.getElem?_append_right (by omega), hl, List.getElem?_append_left (by omega)]
    · rw [if_neg h2, List.getElem?_append_right (by omega), hl, List.getElem?_append_right (by omega), List.getElem?_drop]
      congr 1
      omega
theorem sec_get (L : List UInt8) (n i : Nat) : (sec L n)[i]? = if i < 64 then L[n * 64 + i]? else none := by
  unfold sec
  rw [List.getElem?_take]
  split
  · rw [List.getElem?_drop]
  · rfl
theorem sec_splice (L b : List UInt8) (m n : Nat) (hb : b.length = 64) (hm : m * 64 + 64 ≤ L.length) : sec (splice L (m * 64) b) n = if m = n then b else sec L n := by
  apply List.ext_getElem?
  intro i
  rw [sec_get]
  by_cases h : m = n
  · subst h
    rw [if_pos rfl]
    by_cases hi : i < 64
    · rw [if_pos hi, splice_get _ _ _ _ (by omega), if_neg (by omega), if_pos (by omega)]
      congr 1; omega
    · rw [if_neg hi, List.getElem?_eq_none (by omega)]
  · rw [if_neg h, sec_get]
    by_cases hi : i < 64
    · rw [if_pos hi, if_pos hi, splice_get _ _ _ _ (by omega)]
      by_cases h1 : n * 64 + i < m * 64
      · rw [if_pos h1]
      · rw [if_neg h1, if_neg (by omega)]
    · rw [if_neg hi, if_neg hi]
/-! ### a row of slices of 64 bytes -/
def WasRow (w : World) (T : Nat) (f : Nat → List UInt8) (k : Nat) (v : Value) : Prop :=
  ∃ vs : List Value, w.ownsRow T 34 1 v k vs ∧ ∀ i, i < k → ∃ R c, vs[i]? = some (.slice R 64 c) ∧ BR w w.heap.size R (f i) ∧ ∀ ad, R = some ad → T ≤ ad.block ∧ ad.block < w.heap.size ∧ v.ownBlock ≠ some ad.block
theorem WasRow.keep {w w' : World} {G : Nat → Prop} {T : Nat} {f : Nat → List UInt8} {k : Nat} {v : Value} (h : WasRow w T f k v) (hk : Keeps G w w') (hG : ∀ b, T ≤ b → b < w.heap.size → ¬ G b) : WasRow w' T f k v := by
  obtain ⟨vs, h1, h2⟩ := h
  refine ⟨vs, ⟨h1.1, ?_⟩, fun i hi => ?_⟩
  · rcases h1.2 with hn | ⟨g, cap, cur, hv, hb, hgg, rest⟩
    · exact .inl hn
    · have hlt := (Array.getElem?_eq_some_iff.1 hgg).1
      exact .inr ⟨g, cap, cur, hv, hb, (hk.block _ hlt (hG g hb hlt)).trans hgg, rest⟩
  · obtain ⟨R, c, e, br, ha⟩ := h2 i hi
    exact ⟨R, c, e, hk.br br fun ad e' _ => hG _ (ha ad e').1 (ha ad e').2.1, fun ad e' => ⟨(ha ad e').1, Nat.lt_of_lt_of_le (ha ad e').2.1 hk.size, (ha ad e').2.2⟩⟩
theorem WasRow.start (w : World) (T : Nat) (f : Nat → List UInt8) : WasRow w T f 0 (.slice none 0 0) := ⟨[], World.ownsRow_nil _ _ _ _, fun i hi => absurd hi (Nat.not_lt_zero i)⟩
theorem WasRow.lt {w : World} {T : Nat} {f : Nat → List UInt8} {k : Nat} {v : Value} (h : WasRow w T f k v) : ∀ b, v.ownBlock = some b → T ≤ b ∧ b < w.heap.size := by
  obtain ⟨vs, h1, _⟩ := h
  exact fun b e => World.ownsRow.lt h1 b e
/-- The i-th, read. -/
theorem WasRow.at_ {w : World} {T : Nat} {f : Nat → List UInt8} {k : Nat} {v : Value} (h : WasRow w T f k v) (i : Nat) (hi : i < k) : ∃ g cap R c, v = .slice (some ⟨g, 0, none⟩) k cap ∧ w.cell? ⟨g, i, none⟩ = some (.slice R 64 c) ∧ BR w w.heap.size R (f i) := by
  obtain ⟨vs, h1, h2⟩ := h
  obtain ⟨g, cap, hv, _, _⟩ := World.ownsRow.form h1 (by omega)
  obtain ⟨R, c, e, br, _⟩ := h2 i hi
  have := World.ownsRow.cells h1 (g := g) (by rw [hv]; rfl) i _ e
  have e0 : (⟨g, 0, none⟩ : Addr).add i = ⟨g, i, none⟩ := by unfold Addr.add; split <;> simp_all
  rw [e0] at this
  exact ⟨g, cap, R, c, hv, this, br⟩
theorem WasRow.form {w : World} {T : Nat} {f : Nat → List UInt8} {k : Nat} {v : Value} (h : WasRow w T f k v) : ∃ A cap, v = .slice A k cap := by
  obtain ⟨vs, h1, _⟩ := h
  rcases h1.2 with ⟨rfl, hn⟩ | ⟨_, cap, _, e, _⟩
  · exact ⟨none, 0, by rw [hn]⟩
  · exact ⟨_, cap, e⟩
theorem Tryz.info30 : (Tryz.prog.info? 34).map (fun i => (i.zero, i.size, i.bytes)) = some (some (.slice none 0 0), 1, 24) := by kernel_rfl
/-- One slice more. -/
theorem WasRow.app {w : World} {T : Nat} {f : Nat → List UInt8} {k : Nat} {v : Value} (h : WasRow w T f k v) (hT : T ≤ w.heap.size) (hk : k ≤ 2000) (R : Option Addr) (c : Nat) (br : BR w w.heap.size R (f k)) (ha : ∀ ad, R = some ad → T ≤ ad.block ∧ ad.block < w.heap.size ∧ v.ownBlock ≠ some ad.block) (g c' : Nat) (ty : TypeId) (hg : w.cell? ⟨g, 0, none⟩ = some (.slice R 64 c)) :
    ∃ v' w', (Builtin.append_ #[120, 120] ty #[v, .slice (some ⟨g, 0, none⟩) 1 c']).run Tryz.prog w = .ok v' w' ∧ WasRow w' T f (k + 1) v' ∧ Keeps (fun b => v.ownBlock = some b) w w' := by
  obtain ⟨vs, h1, h2⟩ := h
  obtain ⟨i0, hi, hz0, hz1, hz2⟩ := info_parts Tryz.info30
  obtain ⟨v', w', hrun, hown, hgr, _, hblk⟩ := run_append_own_at (P := Tryz.prog) w T 120 ty 34 i0 _ 1 24 Tryz.underlying120 hi hz0 hz1 hz2 rfl (by decide) v k vs h1 ⟨g, 0, none⟩ 1 c' [.slice R 64 c] rfl (fun j u hu => by
    match j, hu with
    | 0, hu => cases hu; exact hg
    | j + 1, hu => simp at hu) (by intro u hu; simp at hu; subst hu; rfl) (by unfold maxLen; omega) (by omega) hT
  have hkp : Keeps (fun b => v.ownBlock = some b) w w' := Keeps.grown _ hgr fun _ e => e
  have hlen : vs.length = k := by have := h1.1; omega
  have put : ∀ (R' : Option Addr) (xs : List UInt8), BR w w.heap.size R' xs → (∀ ad, R' = some ad → T ≤ ad.block ∧ ad.block < w.heap.size ∧ v.ownBlock ≠ some ad.block) → BR w' w'.heap.size R' xs ∧ ∀ ad, R' = some ad → T ≤ ad.block ∧ ad.block < w'.heap.size ∧ v'.ownBlock ≠ some ad.block := fun R' xs hb hh =>
    ⟨hkp.br hb fun ad e _ hf => (hh ad e).2.2 hf, fun ad e => ⟨(hh ad e).1, Nat.lt_of_lt_of_le (hh ad e).2.1 hkp.size, fun hf => by
      rcases hblk with e1 | e1
      · rw [e1] at hf; exact (hh ad e).2.2 hf
      · rw [e1] at hf
        simp only [Option.some.injEq] at hf
        have := (hh ad e).2.1
        omega⟩⟩
  refine ⟨v', w', hrun, ⟨vs ++ [.slice R 64 c], hown, fun i hi => ?_⟩, hkp⟩
  by_cases e : i = k
  · subst e
    obtain ⟨p1, p2⟩ := put _ _ br ha
    exact ⟨R, c, by rw [List.getElem?_append_right (by omega), hlen]; simp, p1, p2⟩
  · obtain ⟨R', c', e', br', ha'⟩ := h2 i (by omega)
    obtain ⟨p1, p2⟩ := put _ _ br' ha'
    exact ⟨R', c', by rw [List.getElem?_append_left (by omega)]; exact e', p1, p2⟩

/-! ### Waiting, where nothing waits -/
theorem now64 {D : DSt} {n : Nat} (h : D.Ok n) (hd : D.down = false) (i : Nat) (hi : i < n) : D.readAt (i : Int) = D.now i ∧ D.readErr (i : Int) = 0 ∧ (D.now i).length = 64 := by
  have hn := h.n_eq
  refine ⟨?_, ?_, now_len h hi⟩
  · unfold DSt.readAt
    rw [if_neg (by rw [hd]; simp), if_pos (by omega)]
    simp
  · unfold DSt.readErr
    rw [if_neg (by rw [hd]; simp), if_pos (by omega)]
theorem Dk.ok {w : World} {F : Nat → Prop} {p : Nat} {D : DSt} (h : Dk w F p D) : ∃ n, D.Ok n := by
  obtain ⟨lb, mb, n, iv, h, _⟩ := h
  exact ⟨n, h.ok⟩
/-- Read, at a sector that there is. -/
theorem Dk.read {w : World} {F : Nat → Prop} {p : Nat} {D : DSt} {n : Nat} (h : Dk w F p D) (ho : D.Ok n) (hd : D.down = false) (i : Nat) (hi : i < n) (zs : List UInt8) (hz : D.now i = zs) : Calls Tryz.prog 167 #[.pointer (some ⟨p, 0, none⟩), .int .i64 (i : Int)] w
    fun e w' => ∃ R c, e = .returned (.tuple #[.slice R 64 c, .int .i64 0]) ∧ BR w' w'.heap.size R zs ∧ (∀ ad, R = some ad → w.heap.size ≤ ad.block) ∧ Keeps (fun _ => False) w w' := by
  subst hz
  obtain ⟨lb, mb, m, iv, h, _⟩ := h
  obtain ⟨e1, e2, e3⟩ := now64 ho hd i hi
  refine (read_at h (i : Int)).mono ?_
  rintro e w' ⟨R, c, rfl, hr, ha, hk⟩
  rw [e1] at hr
  exact ⟨R, c, by rw [e1, e2, e3], hr, ha, hk⟩
end Go.Proofs.YtebecpjecchfoaaGreatDoor
namespace Go.Proofs.YtebecpjecchfoaaGreatDoor
open Go.RowKit

/-- k sectors: the row v, the i-th one's bytes in block G i. -/
structure Secs (w : World) (T k : Nat) (v : Value) (G : Nat → Nat) (zs : Nat → List UInt8) : Prop where
  own : w.ownsRow T 34 1 v k ((List.range k).map fun i => .slice (some ⟨G i, 0, none⟩) 64 64)
  row : ∀ i, i < k → Row8 w (G i) 5 (zs i) ∧ (zs i).length = 64 ∧ T ≤ G i ∧ v.ownBlock ≠ some (G i)
  inj : ∀ i j, i < k → j < k → G i = G j → i = j
theorem Secs.lt {w : World} {T k : Nat} {v : Value} {G : Nat → Nat} {zs : Nat → List UInt8} (h : Secs w T k v G zs) (b : Nat) (e : v.ownBlock = some b) : T ≤ b ∧ b < w.heap.size := World.ownsRow.lt h.own b e
theorem Row8.keepB {w w' : World} {g : Nat} {t : TypeId} {zs : List UInt8} (h : Row8 w g t zs) (e : w'.heap[g]? = w.heap[g]?) : Row8 w' g t zs := by
  obtain ⟨c, h1, h2⟩ := h
  exact ⟨c, e.trans h1, h2⟩
theorem ownsRow_keepB {w w' : World} {T k : Nat} {t : TypeId} {v : Value} {vs : List Value} (h : w.ownsRow T t 1 v k vs) (e : ∀ b, v.ownBlock = some b → w'.heap[b]? = w.heap[b]?) : w'.ownsRow T t 1 v k vs := by
  obtain ⟨h0, h1⟩ := h
  refine ⟨h0, ?_⟩
  rcases h1 with hn | ⟨g, cap, cur, hv, hb, hgg, rest⟩
  · exact .inl hn
  · exact .inr ⟨g, cap, cur, hv, hb, (e g (by rw [hv]; rfl)).trans hgg, rest⟩
theorem Secs.keep {w w' : World} {F : Nat → Prop} {T k : Nat} {v : Value} {G : Nat → Nat} {zs : Nat → List UInt8} (h : Secs w T k v G zs) (kp : Keeps F w w') (hF : ∀ b, T ≤ b → b < w.heap.size → ¬ F b) : Secs w' T k v G zs :=
  ⟨ownsRow_keepB h.own fun b e => kp.block b (h.lt b e).2 (hF b (h.lt b e).1 (h.lt b e).2), fun i hi => ⟨(h.row i hi).1.keepB (kp.block _ (h.row i hi).1.lt_ (hF _ (h.row i hi).2.2.1 (h.row i hi).1.lt_)), (h.row i hi).2⟩, h.inj⟩
theorem Secs.start (w : World) (T : Nat) (G : Nat → Nat) (zs : Nat → List UInt8) : Secs w T 0 (.slice none 0 0) G zs :=
  ⟨World.ownsRow_nil _ _ _ _, fun i hi => absurd hi (Nat.not_lt_zero i), fun i _ hi => absurd hi (Nat.not_lt_zero i)⟩
theorem Secs.form {w : World} {T k : Nat} {v : Value} {G : Nat → Nat} {zs : Nat → List UInt8} (h : Secs w T k v G zs) : ∃ A cap, v = .slice A k cap := by
  rcases h.own.2 with ⟨rfl, hn⟩ | ⟨_, cap, _, e, _⟩
  · exact ⟨none, 0, by rw [hn]⟩
  · exact ⟨_, cap, e⟩
set_option maxRecDepth 100000 in
/-- One sector more, its bytes in a block of its own. -/
theorem Secs.app {w : World} {T k : Nat} {v : Value} {G : Nat → Nat} {zs : Nat → List UInt8} (h : Secs w T k v G zs) (hT : T ≤ w.heap.size) (hk : k ≤ 2000) (g0 : Nat) (hr : Row8 w g0 5 (zs k)) (hz : (zs k).length = 64) (hT0 : T ≤ g0) (hv : v.ownBlock ≠ some g0) (hn : ∀ i, i < k → G i ≠ g0) (g c' : Nat) (ty : TypeId) (hg : w.cell? ⟨g, 0, none⟩ = some (.slice (some ⟨g0, 0, none⟩) 64 64)) :
    ∃ v' w', (Builtin.append_ #[120, 120] ty #[v, .slice (some ⟨g, 0, none⟩) 1 c']).run Tryz.prog w = .ok v' w' ∧ Secs w' T (k + 1) v' (fun i => if i = k then g0 else G i) zs ∧ Keeps (fun b => v.ownBlock = some b) w w' := by
  obtain ⟨i0, hi, hz0, hz1, hz2⟩ := info_parts Tryz.info30
  obtain ⟨v', w', hrun, hown, hgr, _, hblk⟩ := run_append_own_at (P := Tryz.prog) w T 120 ty 34 i0 _ 1 24 Tryz.underlying120 hi hz0 hz1 hz2 rfl (by decide) v k _ h.own ⟨g, 0, none⟩ 1 c' [.slice (some ⟨g0, 0, none⟩) 64 64] rfl (fun j u hu => by
    match j, hu with
    | 0, hu => cases hu; exact hg
    | j + 1, hu => simp at hu) (by intro u hu; simp at hu; subst hu; rfl) (by unfold maxLen; omega) (by omega) hT
  have hkp : Keeps (fun b => v.ownBlock = some b) w w' := Keeps.grown _ hgr fun _ e => e
  have hlt0 := hr.lt_
  have nb : ∀ b, b < w.heap.size → v.ownBlock ≠ some b → v'.ownBlock ≠ some b := fun b hb hne e => by
    rcases hblk with e1 | e1
    · rw [e1] at e; exact hne e
    · rw [e1] at e; simp only [Option.some.injEq] at e; omega
  refine ⟨v', w', hrun, ⟨?_, fun i hi => ?_, fun i j hi hj e => ?_⟩, hkp⟩
  · have e1 : (List.range (k + 1)).map (fun i => Value.slice (some ⟨if i = k then g0 else G i, 0, none⟩) 64 64) = (List.range k).map (fun i => Value.slice (some ⟨G i, 0, none⟩) 64 64) ++ [.slice (some ⟨g0, 0, none⟩) 64 64] := by
      rw [List.range_succ, List.map_append]
      congr 1
      · refine List.map_congr_left fun i hi => ?_
        rw [if_neg (by have := List.mem_range.1 hi; omega)]
      · simp
    rw [e1]; exact hown
  · by_cases e : i = k
    · subst e
      rw [if_pos rfl]
      exact ⟨hr.keepB (hkp.block _ hlt0 hv), hz, hT0, nb _ hlt0 hv⟩
    · rw [if_neg e]
      have hh := h.row i (by omega)
      exact ⟨hh.1.keepB (hkp.block _ hh.1.lt_ hh.2.2.2), hh.2.1, hh.2.2.1, nb _ hh.1.lt_ hh.2.2.2⟩
  · by_cases ei : i = k
    · by_cases ej : j = k
      · omega
      · rw [if_pos ei, if_neg ej] at e
        exact absurd e.symm (hn j (by omega))
    · by_cases ej : j = k
      · rw [if_neg ei, if_pos ej] at e
        exact absurd e (hn i (by omega))
      · rw [if_neg ei, if_neg ej] at e
        exact h.inj i j (by omega) (by omega) e
/-- The i-th, read. -/
theorem Secs.at_ {w : World} {T k : Nat} {v : Value} {G : Nat → Nat} {zs : Nat → List UInt8} (h : Secs w T k v G zs) (i : Nat) (hi : i < k) : ∃ g cap, v = .slice (some ⟨g, 0, none⟩) k cap ∧ w.cell? ⟨g, i, none⟩ = some (.slice (some ⟨G i, 0, none⟩) 64 64) := by
  obtain ⟨g, cap, hv, _, _⟩ := World.ownsRow.form h.own (by omega)
  have := World.ownsRow.cells h.own (g := g) (by rw [hv]; rfl) i (.slice (some ⟨G i, 0, none⟩) 64 64) (by simp [hi])
  have e0 : (⟨g, 0, none⟩ : Addr).add i = ⟨g, i, none⟩ := by unfold Addr.add; split <;> simp_all
  rw [e0] at this
  exact ⟨g, cap, hv, this⟩
/-- The i-th sector's bytes are others now. -/
theorem Secs.put {w w' : World} {T k : Nat} {v : Value} {G : Nat → Nat} {zs : Nat → List UInt8} (h : Secs w T k v G zs) (i : Nat) (hi : i < k) (ys : List UInt8) (hl : ys.length = 64) (kp : Keeps (· = G i) w w') (hr : Row8 w' (G i) 5 ys) : Secs w' T k v G (fun j => if j = i then ys else zs j) := by
  refine ⟨ownsRow_keepB h.own fun b e => kp.block b (h.lt b e).2 (fun eb => (h.row i hi).2.2.2 (by rw [← eb]; exact e)), fun j hj => ?_, h.inj⟩
  by_cases e : j = i
  · subst e
    rw [if_pos rfl]
    exact ⟨hr, hl, (h.row j hj).2.2⟩
  · rw [if_neg e]
    have hh := h.row j hj
    exact ⟨hh.1.keepB (kp.block _ hh.1.lt_ (fun eb => e (h.inj j i hj hi eb))), hh.2⟩
end Go.Proofs.YtebecpjecchfoaaGreatDoor
namespace Go.Proofs.YtebecpjecchfoaaGreatDoor
open Go.RowKit

theorem ex_makeSlice {P : Program} {w w' : World} {o : Oper} {ρ : Operand → Value} (t : TypeId) (x y : Operand) (ho : o.op = .makeSlice t x y) (a b v : Value) (hx : ρ x = a) (hy : ρ y = b) (hrun : (Instr.makeSlice t a b).run P w = .ok v w') : (execOp ρ o).run P w = .ok (.value v) w' := by
  unfold execOp
  simp only [ho, hx, hy, Sem.run_bind, hrun, Result.andThen_ok, Sem.run_pure]
/-- The document's disk behind block p while it is made: sectors alone. -/
structure RNew (w wr : World) (p k : Nat) (v : Value) (G : Nat → Nat) (zs : Nat → List UInt8) : Prop where
  head : wr.heap[p]? = some (.cells #[v, .slice none 0 0, .int .i64 (-1), .bool false, .int .i64 0] 123 (0, 0))
  secs : Secs wr (p + 1) k v G zs
  kp : Keeps (fun _ => False) w wr
  new : w.heap.size ≤ p
end Go.Proofs.YtebecpjecchfoaaGreatDoor
namespace Go.Proofs.YtebecpjecchfoaaGreatDoor
open Go.RowKit

end Go.Proofs.YtebecpjecchfoaaGreatDoor
namespace Go.Proofs.YtebecpjecchfoaaGreatDoor
open Go.RowKit

/-- Bytes appended to a row of the call's own. -/
theorem Own8.app {w : World} {B : Nat} {R : Option Addr} {cap : Nat} {zs : List UInt8} (h : Own8 w B 5 R cap zs) (hB : B ≤ w.heap.size) (hl : zs.length ≤ 200000) (g c : Nat) (ys : List UInt8) (hy : Row8 w g 5 ys) (hyl : ys.length = 64) :
    ∃ R' cap' w', (Builtin.append_ #[34, 34] 34 #[.slice R zs.length cap, .slice (some ⟨g, 0, none⟩) 64 c]).run Tryz.prog w = .ok (.slice R' (zs.length + 64) cap') w' ∧ Own8 w' B 5 R' cap' (zs ++ ys) ∧ Below B w w' := by
  obtain ⟨i0, hi, hz0, hz1, hz2⟩ := info_parts Tryz.info8
  obtain ⟨v', w', hrun, hown, hg, _, _⟩ := run_append_own_at (P := Tryz.prog) w B 34 34 5 i0 (.int .u8 0) 1 1 Tryz.underlying34 hi hz0 hz1 hz2 rfl (by decide) _ zs.length _ h ⟨g, 0, none⟩ 64 c (ys.map B8) (by rw [List.length_map, hyl]) (fun j u hu => by
    simp only [List.getElem?_map, Option.map_eq_some_iff] at hu
    obtain ⟨x, hx, rfl⟩ := hu
    obtain ⟨ad, e, _, hc⟩ := hy.br (by intro e; rw [e] at hx; simp at hx)
    cases e
    exact hc j x hx) (by
    intro u hu
    simp only [List.mem_map] at hu
    obtain ⟨x, _, rfl⟩ := hu
    rfl) (by unfold maxLen; omega) (by omega) hB
  obtain ⟨g', cap', rfl, _, _⟩ := World.ownsRow.form hown (by omega)
  refine ⟨_, cap', w', hrun, ?_, ⟨hg.os, hg.tape, hg.output, hg.size, fun k hk => hg.block k (by omega) (fun e => by have := (World.ownsRow.lt h k e.symm).1; omega)⟩⟩
  unfold Own8
  rw [List.length_append, hyl, List.map_append]
  exact hown
end Go.Proofs.YtebecpjecchfoaaGreatDoor
namespace Go.Proofs.YtebecpjecchfoaaGreatDoor
open Go.RowKit

/-- A slice of 64 bytes in a block of P. -/
def SL (w : World) (P : Nat → Prop) (v : Value) (xs : List UInt8) : Prop :=
  ∃ ad c, v = .slice (some ad) 64 c ∧ xs.length = 64 ∧ ad.block < w.heap.size ∧ P ad.block ∧ ∀ k u, xs[k]? = some u → w.cell? (ad.add k) = some (B8 u)
theorem SL.keep {w w' : World} {P G : Nat → Prop} {v : Value} {xs : List UInt8} (h : SL w P v xs) (k : Keeps G w w') (hG : ∀ b, b < w.heap.size → P b → ¬ G b) : SL w' P v xs := by
  obtain ⟨ad, c, e, hl, hb, hp, hc⟩ := h
  refine ⟨ad, c, e, hl, Nat.lt_of_lt_of_le hb k.size, hp, fun j u hu => ?_⟩
  rw [World.cell?_of_block (w := w) (by rw [block_add]; exact k.block _ hb (hG _ hb hp))]
  exact hc j u hu
theorem SL.mono {w : World} {P P' : Nat → Prop} {v : Value} {xs : List UInt8} (h : SL w P v xs) (hP : ∀ b, b < w.heap.size → P b → P' b) : SL w P' v xs := by
  obtain ⟨ad, c, e, hl, hb, hp, hc⟩ := h
  exact ⟨ad, c, e, hl, hb, hP _ hb hp, hc⟩
theorem SL.br {w : World} {P : Nat → Prop} {v : Value} {xs : List UInt8} (h : SL w P v xs) : ∃ R c, v = .slice R 64 c ∧ BR w w.heap.size R xs ∧ xs.length = 64 := by
  obtain ⟨ad, c, e, hl, hb, hp, hc⟩ := h
  exact ⟨some ad, c, e, fun _ => ⟨ad, rfl, hb, hc⟩, hl⟩
theorem SL.of {w : World} {P : Nat → Prop} {R : Option Addr} {c : Nat} {xs : List UInt8} (hl : xs.length = 64) (h : BR w w.heap.size R xs) (hP : ∀ ad, R = some ad → P ad.block) : SL w P (.slice R 64 c) xs := by
  obtain ⟨ad, e, hb, hc⟩ := h (by intro e; rw [e] at hl; simp at hl)
  subst e
  exact ⟨ad, c, rfl, hl, hb, hP ad rfl, hc⟩

def wcells (q : Nat × Value) : List Value := [.int .i64 (q.1 : Int), q.2]
/-- The blocks that the disk's calls write. -/
def XR (p : Nat) (sv wv : Value) (b : Nat) : Prop := b = p ∨ sv.ownBlock = some b ∨ wv.ownBlock = some b
def PF (F : Nat → Prop) (p : Nat) (sv wv : Value) (b : Nat) : Prop := F b ∧ ¬ XR p sv wv b
def rhead (sv wv : Value) (D : DSt) : Obj := .cells #[sv, wv, .int .i64 D.left, .bool D.down, .int .i64 (D.acts : Int)] 123 (0, 0)

structure RDat (w : World) (F : Nat → Prop) (p n : Nat) (sv wv : Value) (svs : List Value) (ws : List (Nat × Value)) (D : DSt) : Prop where
  ok : D.Ok n
  head : w.heap[p]? = some (rhead sv wv D)
  own : w.ownsRow 0 34 1 sv n svs
  que : w.ownsRow 0 236 2 wv D.Q.length (ws.flatMap wcells)
  secs : ∀ i, i < n → ∃ v, svs[i]? = some v ∧ SL w (PF F p sv wv) v (sec D.L i)
  wl : ws.length = D.Q.length
  wts : ∀ (j : Nat) (q : Nat × List UInt8), D.Q[j]? = some q → ∃ v, ws[j]? = some (q.1, v) ∧ SL w (PF F p sv wv) v q.2
  fp : F p
  fs : ∀ g, sv.ownBlock = some g → F g
  fw : ∀ g, wv.ownBlock = some g → F g
def RD (w : World) (F : Nat → Prop) (p : Nat) (D : DSt) : Prop := ∃ n sv wv svs ws, RDat w F p n sv wv svs ws D

section
variable {w w' : World} {F G : Nat → Prop} {p n : Nat} {sv wv : Value} {svs : List Value} {ws : List (Nat × Value)} {D : DSt}
theorem ownsRow_keepS {w w' : World} {T size k : Nat} {t : TypeId} {v : Value} {vs : List Value} (h : w.ownsRow T t size v k vs) (e : ∀ b, v.ownBlock = some b → w'.heap[b]? = w.heap[b]?) : w'.ownsRow T t size v k vs := by
  obtain ⟨h0, h1⟩ := h
  refine ⟨h0, ?_⟩
  rcases h1 with hn | ⟨g, cap, cur, hv, hb, hgg, rest⟩
  · exact .inl hn
  · exact .inr ⟨g, cap, cur, hv, hb, (e g (by rw [hv]; rfl)).trans hgg, rest⟩
theorem ownsRow_blk {w : World} {T size k : Nat} {t : TypeId} {v : Value} {vs : List Value} (h : w.ownsRow T t size v k vs) {b : Nat} (e : v.ownBlock = some b) : ∃ cur, w.heap[b]? = some (.cells cur t (0, 0)) := by
  rcases h.2 with ⟨hn, _⟩ | ⟨g, cap, cur, hv, hb, hgg, rest⟩
  · rw [hn] at e; cases e
  · rw [hv] at e
    simp only [Value.ownBlock, Option.some.injEq] at e
    subst e
    exact ⟨cur, hgg⟩
theorem RDat.plt (h : RDat w F p n sv wv svs ws D) : p < w.heap.size := (Array.getElem?_eq_some_iff.1 h.head).1
theorem RDat.slt (h : RDat w F p n sv wv svs ws D) {b : Nat} (e : sv.ownBlock = some b) : b < w.heap.size := (World.ownsRow.lt h.own b e).2
theorem RDat.wlt (h : RDat w F p n sv wv svs ws D) {b : Nat} (e : wv.ownBlock = some b) : b < w.heap.size := (World.ownsRow.lt h.que b e).2
theorem RDat.xf (h : RDat w F p n sv wv svs ws D) {b : Nat} (e : XR p sv wv b) : F b := by
  rcases e with rfl | e | e
  · exact h.fp
  · exact h.fs _ e
  · exact h.fw _ e
theorem RDat.apart (h : RDat w F p n sv wv svs ws D) : sv.ownBlock ≠ some p ∧ wv.ownBlock ≠ some p ∧ ∀ b, sv.ownBlock = some b → wv.ownBlock ≠ some b := by
  have hh := h.head
  unfold rhead at hh
  refine ⟨fun e => ?_, fun e => ?_, fun b e e' => ?_⟩
  · obtain ⟨cur, hc⟩ := ownsRow_blk h.own e
    rw [hh] at hc; simp at hc
  · obtain ⟨cur, hc⟩ := ownsRow_blk h.que e
    rw [hh] at hc; simp at hc
  · obtain ⟨cur, hc⟩ := ownsRow_blk h.own e
    obtain ⟨cur', hc'⟩ := ownsRow_blk h.que e'
    rw [hc] at hc'; simp at hc'
theorem RDat.c (h : RDat w F p n sv wv svs ws D) : w.cell? ⟨p, 0, none⟩ = some sv ∧ w.cell? ⟨p, 1, none⟩ = some wv ∧ w.cell? ⟨p, 2, none⟩ = some (.int .i64 D.left) ∧ w.cell? ⟨p, 3, none⟩ = some (.bool D.down) ∧ w.cell? ⟨p, 4, none⟩ = some (.int .i64 (D.acts : Int)) ∧ ∀ i, w.frozen? ⟨p, i, none⟩ = false := by
  have hh := h.head
  refine ⟨?_, ?_, ?_, ?_, ?_, fun i => frozen_of_row w p i _ _ hh⟩ <;> rw [cell_of_row w p _ _ _ _ hh] <;> rfl
/-- Where only other blocks were written. -/
theorem RDat.keep (h : RDat w F p n sv wv svs ws D) (k : Keeps G w w') (hd : ∀ b, b < w.heap.size → F b → ¬ G b) : RDat w' F p n sv wv svs ws D :=
  ⟨h.ok, (k.block _ h.plt (hd _ h.plt h.fp)).trans h.head, ownsRow_keepS h.own fun b e => k.block b (h.slt e) (hd _ (h.slt e) (h.fs _ e)), ownsRow_keepS h.que fun b e => k.block b (h.wlt e) (hd _ (h.wlt e) (h.fw _ e)),
    fun i hi => by obtain ⟨v, e, s⟩ := h.secs i hi; exact ⟨v, e, s.keep k fun b hb hp => hd b hb hp.1⟩, h.wl, fun j q hq => by obtain ⟨v, e, s⟩ := h.wts j q hq; exact ⟨v, e, s.keep k fun b hb hp => hd b hb hp.1⟩, h.fp, h.fs, h.fw⟩
theorem RDat.same (h : RDat w F p n sv wv svs ws D) (k : Keeps (fun _ => False) w w') : RDat w' F p n sv wv svs ws D := h.keep k fun _ _ _ h => h
theorem RDat.mono (h : RDat w F p n sv wv svs ws D) (hF : ∀ b, b < w.heap.size → F b → G b) : RDat w G p n sv wv svs ws D :=
  ⟨h.ok, h.head, h.own, h.que, fun i hi => by obtain ⟨v, e, s⟩ := h.secs i hi; exact ⟨v, e, s.mono fun b hb hp => ⟨hF b hb hp.1, hp.2⟩⟩, h.wl, fun j q hq => by obtain ⟨v, e, s⟩ := h.wts j q hq; exact ⟨v, e, s.mono fun b hb hp => ⟨hF b hb hp.1, hp.2⟩⟩,
    hF _ h.plt h.fp, fun g e => hF _ (h.slt e) (h.fs g e), fun g e => hF _ (h.wlt e) (h.fw g e)⟩
/-- Other numbers in the struct. -/
theorem RDat.put (h : RDat w F p n sv wv svs ws D) (k : Keeps (· = p) w w') (D' : DSt) (e1 : D'.L = D.L) (e2 : D'.Q = D.Q) (lo : -1 ≤ D'.left) (hi : D'.left ≤ 9223372036854775807) (hh : w'.heap[p]? = some (rhead sv wv D')) : RDat w' F p n sv wv svs ws D' := by
  have ap := h.apart
  have kS : ∀ {v : Value} {xs : List UInt8}, SL w (PF F p sv wv) v xs → SL w' (PF F p sv wv) v xs := fun s => s.keep k fun b _ hp e => hp.2 (Or.inl e)
  refine ⟨⟨by rw [e1]; exact h.ok.len, h.ok.n_le, by rw [e2]; exact h.ok.q, lo, hi⟩, hh, ownsRow_keepS h.own fun b e => k.block b (h.slt e) (fun eb => ap.1 (by rw [← eb]; exact e)), ?_, ?_, by rw [e2]; exact h.wl, ?_, h.fp, h.fs, h.fw⟩
  · rw [e2]; exact ownsRow_keepS h.que fun b e => k.block b (h.wlt e) (fun eb => ap.2.1 (by rw [← eb]; exact e))
  · rw [e1]; exact fun i hi => by obtain ⟨v, e, s⟩ := h.secs i hi; exact ⟨v, e, kS s⟩
  · rw [e2]; exact fun j q hq => by obtain ⟨v, e, s⟩ := h.wts j q hq; exact ⟨v, e, kS s⟩
/-- A sector's cell. -/
theorem RDat.at_ (h : RDat w F p n sv wv svs ws D) (i : Nat) (hi : i < n) : ∃ g cap R c, sv = .slice (some ⟨g, 0, none⟩) n cap ∧ w.cell? ⟨g, i, none⟩ = some (.slice R 64 c) ∧ w.frozen? ⟨g, i, none⟩ = false ∧ BR w w.heap.size R (sec D.L i) ∧ (sec D.L i).length = 64 := by
  obtain ⟨g, cap, hv, _, _⟩ := World.ownsRow.form h.own (by omega)
  obtain ⟨v, e, s⟩ := h.secs i hi
  obtain ⟨R, c, rfl, hb, hl⟩ := s.br
  have := World.ownsRow.cells h.own (g := g) (by rw [hv]; rfl) i _ e
  have e0 : (⟨g, 0, none⟩ : Addr).add i = ⟨g, i, none⟩ := by unfold Addr.add; split <;> simp_all
  rw [e0] at this
  obtain ⟨cur, hc⟩ := ownsRow_blk h.own (b := g) (by rw [hv]; rfl)
  exact ⟨g, cap, R, c, hv, this, frozen_of_row w g i _ _ hc, hb, hl⟩
end
theorem RD.keep {w w' : World} {F G : Nat → Prop} {p : Nat} {D : DSt} (h : RD w F p D) (k : Keeps G w w') (hd : ∀ b, b < w.heap.size → F b → ¬ G b) : RD w' F p D := by
  obtain ⟨n, sv, wv, svs, ws, h⟩ := h
  exact ⟨n, sv, wv, svs, ws, h.keep k hd⟩
theorem RD.mono {w : World} {F G : Nat → Prop} {p : Nat} {D : DSt} (h : RD w F p D) (hF : ∀ b, b < w.heap.size → F b → G b) : RD w G p D := by
  obtain ⟨n, sv, wv, svs, ws, h⟩ := h
  exact ⟨n, sv, wv, svs, ws, h.mono hF⟩
/-- A sector's slice is another. -/
theorem RDat.store {w : World} {F : Nat → Prop} {p n : Nat} {sv wv : Value} {svs : List Value} {ws : List (Nat × Value)} {D : DSt} (h : RDat w F p n sv wv svs ws D) (i : Nat) (hi : i < n) (g : Nat) (hg : sv.ownBlock = some g) (v : Value) (b : List UInt8) (hs : SL w (PF F p sv wv) v b) :
    RDat (w.setCell ⟨g, i, none⟩ v) F p n sv wv (svs.set i v) ws { D with L := splice D.L (i * 64) b } ∧ Keeps (fun k => sv.ownBlock = some k) w (w.setCell ⟨g, i, none⟩ v) := by
  have ap := h.apart
  have hb : b.length = 64 := by obtain ⟨_, _, _, hl, _⟩ := hs; exact hl
  have hL : i * 64 + 64 ≤ D.L.length := by have := h.ok.len; omega
  have k : Keeps (fun k => sv.ownBlock = some k) w (w.setCell ⟨g, i, none⟩ v) := Keeps.setCell _ _ _ _ hg
  have kS : ∀ {v' : Value} {xs : List UInt8}, SL w (PF F p sv wv) v' xs → SL (w.setCell ⟨g, i, none⟩ v) (PF F p sv wv) v' xs := fun s => s.keep k fun b _ hp e => hp.2 (Or.inr (Or.inl e))
  have hlen : svs.length = n := by have := h.own.1; omega
  obtain ⟨g', cap, hv', _, _⟩ := World.ownsRow.form h.own (by omega)
  subst hv'
  simp only [Value.ownBlock, Option.some.injEq] at hg
  subst hg
  have st := World.ownsRow.stored h.own i v
  refine ⟨⟨⟨by show (splice _ _ _).length = _; rw [length_splice _ _ _ (by omega)]; exact h.ok.len, h.ok.n_le, h.ok.q, h.ok.lo, h.ok.hi⟩, (k.block _ h.plt ap.1).trans h.head, st.1, ownsRow_keepS h.que fun b e => k.block b (h.wlt e) (fun eb => ap.2.2 b eb e), fun j hj => ?_, h.wl, fun j q hq => ?_, h.fp, h.fs, h.fw⟩, k⟩
  · show ∃ v', _ ∧ SL _ _ v' (sec (splice D.L (i * 64) b) j)
    rw [sec_splice _ _ _ _ hb hL]
    by_cases e : i = j
    · subst e
      rw [if_pos rfl]
      exact ⟨v, by rw [List.getElem?_set_self (by omega)], kS hs⟩
    · rw [if_neg e]
      obtain ⟨v', e', s⟩ := h.secs j hj
      exact ⟨v', by rw [List.getElem?_set_ne e]; exact e', kS s⟩
  · obtain ⟨v', e', s⟩ := h.wts j q hq
    exact ⟨v', e', kS s⟩
end Go.Proofs.YtebecpjecchfoaaGreatDoor
namespace Go.Proofs.YtebecpjecchfoaaGreatDoor
open Go.RowKit

section
variable {w : World} {F : Nat → Prop} {p n : Nat} {sv wv : Value} {svs : List Value} {ws : List (Nat × Value)} {D : DSt}

end

end Go.Proofs.YtebecpjecchfoaaGreatDoor
namespace Go.Proofs.YtebecpjecchfoaaGreatDoor
open Go.RowKit

/-! ### Read -/
end Go.Proofs.YtebecpjecchfoaaGreatDoor
