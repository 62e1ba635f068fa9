/-
  Merged by wip/tools/merge.py: SnZero Sn SnSmall
-/
import Derived.Test.YtebecpjecchfoaaGreatDoorGDk
import Derived.Test.YtebecpjecchfoaaGreatDoorGA
import Derived.Deep.Slices
import Derived.Test.YtebecpjecchfoaaGreatDoorGShA
import Derived.Test.YtebecpjecchfoaaGreatDoorGT
namespace Go.Proofs.YtebecpjecchfoaaGreatDoor.St
open Go.RowKit

abbrev zb : Value := .int .u8 0
def q6 : List Value := [zb, zb, zb, zb, zb, zb, zb, zb, zb, zb, zb, zb, zb, zb, zb, zb, zb, zb, zb, zb, zb, zb, zb, zb, zb, zb, zb, zb, zb, zb, zb, zb, zb, zb, zb, zb, zb, zb, zb, zb, zb, zb, zb, zb, zb, zb, zb, zb, zb, zb, zb, zb, zb, zb, zb, zb, zb, zb, zb, zb, zb, zb, zb, zb]
def q7 : List Value := List.append q6 q6
def q8 : List Value := List.append q7 q7
def q9 : List Value := List.append q8 q8
def q10 : List Value := List.append q9 q9
def q11 : List Value := List.append q10 q10
def e0 : List Value := List.append (List.replicate 32 zb) (List.replicate 33 zb)
def e1 : List Value := List.append q6 e0
def e2 : List Value := List.append q7 e1
def e3 : List Value := List.append q8 e2
def e4 : List Value := List.append q9 e3
def e5 : List Value := List.append q10 e4
def e6 : List Value := List.append q11 e5
def h6 : List Value := .pointer none :: .int .u64 0 :: .int .i64 0 :: .slice none 0 0 :: List.replicate 60 zb
def h7 : List Value := List.append h6 q6
def h8 : List Value := List.append h7 q7
def h9 : List Value := List.append h8 q8
def h10 : List Value := List.append h9 q9
def h11 : List Value := List.append h10 q10
def he : List Value := List.append h11 e5
def f0 : List Value := List.append (List.replicate 32 zb) (List.append (List.replicate 32 zb) [.bool false])
def f1 : List Value := List.append q6 f0
def f2 : List Value := List.append q7 f1
def f3 : List Value := List.append q8 f2
def f4 : List Value := List.append q9 f3
def f5 : List Value := List.append q10 f4
def z82 : List Value := List.append (List.append he e6) (List.append e6 e6)
def z84 : List Value := List.append (List.append he e6) (List.append e6 (List.append e5 f5))

theorem q6_eq : q6 = List.replicate 64 zb := by kernel_rfl
theorem e0_eq : e0 = List.replicate 65 zb := by kernel_rfl
theorem h6_eq : h6 = [.pointer none, .int .u64 0, .int .i64 0, .slice none 0 0] ++ List.replicate 60 zb := rfl
theorem f0_eq : f0 = List.replicate 64 zb ++ [.bool false] := by kernel_rfl
theorem apR (a b : Nat) : List.append (List.replicate a zb) (List.replicate b zb) = List.replicate (a + b) zb := List.replicate_append_replicate
theorem q10_eq : q10 = List.replicate 1024 zb := by unfold q10 q9 q8 q7; rw [q6_eq]; simp only [apR]
theorem q11_eq : q11 = List.replicate 2048 zb := by unfold q11; rw [q10_eq]; simp only [apR]
theorem e5_eq : e5 = List.replicate 2049 zb := by unfold e5 e4 e3 e2 e1; rw [q10_eq, e0_eq]; unfold q9 q8 q7; rw [q6_eq]; simp only [apR]
theorem e6_eq : e6 = List.replicate 4097 zb := by unfold e6; rw [q11_eq, e5_eq]; simp only [apR]
theorem apH (l : List Value) (a b : Nat) : List.append (l ++ List.replicate a zb) (List.replicate b zb) = l ++ List.replicate (a + b) zb := by
  show (l ++ List.replicate a zb) ++ List.replicate b zb = _
  rw [List.append_assoc, List.replicate_append_replicate]
theorem apF (l : List Value) (a b : Nat) : List.append (List.replicate a zb) (List.replicate b zb ++ l) = List.replicate (a + b) zb ++ l := by
  show List.replicate a zb ++ (List.replicate b zb ++ l) = _
  rw [← List.append_assoc, List.replicate_append_replicate]
theorem he_eq : he = [.pointer none, .int .u64 0, .int .i64 0, .slice none 0 0] ++ List.replicate 4093 zb := by
  unfold he h11 h10 h9 h8 h7; rw [h6_eq, e5_eq, q10_eq]; unfold q9 q8 q7; rw [q6_eq]; simp only [apR, apH]
theorem f5_eq : f5 = List.replicate 2048 zb ++ [.bool false] := by
  unfold f5 f4 f3 f2 f1; rw [f0_eq, q10_eq]; unfold q9 q8 q7; rw [q6_eq]; simp only [apR, apF]
theorem z82_eq : z82 = [.pointer none, .int .u64 0, .int .i64 0, .slice none 0 0] ++ List.replicate 16384 zb := by
  unfold z82; rw [he_eq, e6_eq]; simp only [apR, apH]
theorem apHF (h t : List Value) (a b : Nat) : List.append (h ++ List.replicate a zb) (List.replicate b zb ++ t) = h ++ List.replicate (a + b) zb ++ t := by
  show (h ++ List.replicate a zb) ++ (List.replicate b zb ++ t) = _
  rw [← List.append_assoc, List.append_assoc h, List.replicate_append_replicate]
theorem z84_eq : z84 = [.pointer none, .int .u64 0, .int .i64 0, .slice none 0 0] ++ List.replicate 16384 zb ++ [.bool false] := by
  unfold z84; rw [he_eq, e6_eq, e5_eq, f5_eq]; simp only [apH, apF, apHF]

theorem Tryz.sizeSt : (Tryz.prog.info? 82).map (·.size) = some 16388 := by kernel_rfl
theorem Tryz.sizeMem : (Tryz.prog.info? 80).map (·.size) = some 8192 := by kernel_rfl
end Go.Proofs.YtebecpjecchfoaaGreatDoor.St
namespace Go.Proofs.YtebecpjecchfoaaGreatDoor.St
open Go.RowKit Go.Maps

/-- A checkpoint: its Gen, its Top, where the numbers lie that it reaches, these. -/
structure Ck where
  gen : Nat
  top : Int
  R : Option Addr
  secs : List Nat
  cap : Nat
def kcells (a : Ck) : List Value := [.int .u64 (a.gen : Int), .int .i64 a.top, .slice a.R a.secs.length a.cap]
/-- A state: the root's Gen, where it stands, the list (where it lies, its room), the pages of the last checkpoint, the pages now. -/
structure SSt where
  gen : Nat
  at_ : Int
  A : Option Addr
  c : Nat
  l : List Ck
  saved : List UInt8
  live : List UInt8
def hcells (dp : Nat) (S : SSt) : List Value := [.pointer (some ⟨dp, 0, none⟩), .int .u64 (S.gen : Int), .int .i64 S.at_, .slice S.A S.l.length S.c]
def scells (dp : Nat) (S : SSt) (tail : List Value) : List Value := hcells dp S ++ (S.saved.map B8 ++ (S.live.map B8 ++ tail))

/-- Numbers that lie outside F. -/
def NR (w : World) (F : Nat → Prop) (A : Option Addr) (l : List Nat) : Prop :=
  l ≠ [] → ∃ ad, A = some ad ∧ ad.block < w.heap.size ∧ ¬ F ad.block ∧ ∀ i u, l[i]? = some u → w.cell? (ad.add i) = some (.int .i64 ((u : Nat) : Int))
theorem NR.keep {w w' : World} {F F' : Nat → Prop} {A : Option Addr} {l : List Nat} (h : NR w F A l) (k : Keeps F w w') (hF : ∀ b, b < w.heap.size → F' b → F b) : NR w' F' A l := by
  intro hn
  obtain ⟨ad, e, hb, hf, hc⟩ := h hn
  exact ⟨ad, e, Nat.lt_of_lt_of_le hb k.size, fun h' => hf (hF _ hb h'), fun i u hu => (World.cell?_of_block (w := w) (by rw [block_add]; exact k.block _ hb hf)).trans (hc i u hu)⟩
/-- A list of checkpoints that lies outside F. -/
structure LR (w : World) (F : Nat → Prop) (A : Option Addr) (l : List Ck) : Prop where
  ar : l ≠ [] → ∃ ad, A = some ad ∧ ad.block < w.heap.size ∧ ¬ F ad.block ∧ ∀ k a, l[k]? = some a → ∀ j v, (kcells a)[j]? = some v → w.cell? ((ad.add (k * 3)).add j) = some v
  ok : ∀ a ∈ l, NR w F a.R a.secs
theorem LR.keep {w w' : World} {F F' : Nat → Prop} {A : Option Addr} {l : List Ck} (h : LR w F A l) (k : Keeps F w w') (hF : ∀ b, b < w.heap.size → F' b → F b) : LR w' F' A l := by
  refine ⟨fun hn => ?_, fun a ha => (h.ok a ha).keep k hF⟩
  obtain ⟨ad, e, hb, hf, hc⟩ := h.ar hn
  exact ⟨ad, e, Nat.lt_of_lt_of_le hb k.size, fun h' => hf (hF _ hb h'), fun i a ha j v hv => (World.cell?_of_block (w := w) (by rw [block_add, block_add]; exact k.block _ hb hf)).trans (hc i a ha j v hv)⟩
theorem LR.nil {w : World} {F : Nat → Prop} {A : Option Addr} : LR w F A [] := ⟨fun h => absurd rfl h, fun a ha => by cases ha⟩
theorem LR.take {w : World} {F : Nat → Prop} {A : Option Addr} {l : List Ck} (h : LR w F A l) (m : Nat) : LR w F A (l.take m) := by
  refine ⟨fun hn => ?_, fun a ha => h.ok a (List.mem_of_mem_take ha)⟩
  obtain ⟨ad, e, hb, hf, hc⟩ := h.ar (by intro e; rw [e] at hn; simp at hn)
  refine ⟨ad, e, hb, hf, fun i a ha => hc i a ?_⟩
  rw [List.getElem?_take] at ha
  split at ha
  · exact ha
  · cases ha
theorem LR.drop {w : World} {F : Nat → Prop} {ad : Addr} {l : List Ck} (h : LR w F (some ad) l) (m : Nat) : LR w F (some (ad.add (m * 3))) (l.drop m) := by
  refine ⟨fun hn => ?_, fun a ha => h.ok a (List.mem_of_mem_drop ha)⟩
  obtain ⟨ad', e, hb, hf, hc⟩ := h.ar (by intro e; rw [e] at hn; simp at hn)
  cases e
  refine ⟨_, rfl, by rw [block_add]; exact hb, by rw [block_add]; exact hf, fun i a ha j v hv => ?_⟩
  rw [List.getElem?_drop] at ha
  have := hc (m + i) a ha j v hv
  have e : (ad.add (m * 3)).add (i * 3) = ad.add ((m + i) * 3) := by rw [Go.Deep.add_add, Nat.add_mul]
  rw [e]
  exact this
/-- The cells of one, as the walk spells them. -/
theorem LR.at_ {w : World} {F : Nat → Prop} {A : Option Addr} {l : List Ck} (h : LR w F A l) {k : Nat} (hk : k < l.length) :
    ∃ ad, A = some ad ∧ ad.block < w.heap.size ∧ ¬ F ad.block ∧ w.cell? (ad.add (k * 3)) = some (.int .u64 (l[k].gen : Int)) ∧ w.cell? ⟨(ad.add (k * 3)).block, (ad.add (k * 3)).off + 1, none⟩ = some (.int .i64 l[k].top) ∧ w.cell? ⟨(ad.add (k * 3)).block, (ad.add (k * 3)).off + 2, none⟩ = some (.slice l[k].R l[k].secs.length l[k].cap) ∧ NR w F l[k].R l[k].secs := by
  obtain ⟨ad, e, hb, hf, hc⟩ := h.ar (by intro e; subst e; simp at hk)
  have H := hc k l[k] (List.getElem?_eq_getElem hk)
  exact ⟨ad, e, hb, hf, H 0 _ rfl, H 1 _ rfl, H 2 _ rfl, h.ok _ (List.getElem_mem hk)⟩
theorem NR.at_ {w : World} {F : Nat → Prop} {A : Option Addr} {l : List Nat} (h : NR w F A l) {k : Nat} (hk : k < l.length) : ∃ ad, A = some ad ∧ w.cell? (ad.add k) = some (.int .i64 ((l[k] : Nat) : Int)) := by
  obtain ⟨ad, e, _, _, hc⟩ := h (by intro e; rw [e] at hk; cases hk)
  exact ⟨ad, e, hc k _ (List.getElem?_eq_getElem hk)⟩

/-- The blocks that a state may write: its own, its disk's. -/
def own (p : Nat) (Fd : Nat → Prop) : Nat → Prop := fun k => k = p ∨ Fd k
structure SSt.Ok (S : SSt) : Prop where
  gen : S.gen < 18446744073709551616
  at_ : S.at_ = 0 ∨ S.at_ = 1
  len : S.l.length ≤ 4
  room : S.l.length ≤ S.c
  saved : S.saved.length = 8192
  live : S.live.length = 8192
  secs : ∀ a ∈ S.l, a.secs.length ≤ 2000 ∧ a.gen < 18446744073709551616 ∧ 0 ≤ a.top ∧ a.top ≤ 65535
/-- A state at block p (of type t, with more cells behind it), its disk at dp. -/
structure SnAt (w : World) (Fd : Nat → Prop) (t : TypeId) (tail : List Value) (p dp : Nat) (S : SSt) (D : DSt) : Prop where
  head : w.heap[p]? = some (.cells (scells dp S tail).toArray t (0, 0))
  row : LR w (own p Fd) S.A S.l
  disk : Dk w Fd dp D
  lt : ∀ k, Fd k → k < w.heap.size
  np : ¬ Fd p
  ok : S.Ok
section
variable {w w' : World} {Fd : Nat → Prop} {t : TypeId} {tail : List Value} {p dp : Nat} {S : SSt} {D : DSt}
theorem SnAt.pl (h : SnAt w Fd t tail p dp S D) : p < w.heap.size := (Array.getElem?_eq_some_iff.1 h.head).1
theorem SnAt.c0 (h : SnAt w Fd t tail p dp S D) : w.cell? ⟨p, 0, none⟩ = some (.pointer (some ⟨dp, 0, none⟩)) := by rw [cell_of_row _ _ _ _ _ _ h.head]; rfl
theorem SnAt.c1 (h : SnAt w Fd t tail p dp S D) : w.cell? ⟨p, 1, none⟩ = some (.int .u64 (S.gen : Int)) := by rw [cell_of_row _ _ _ _ _ _ h.head]; rfl
theorem SnAt.c2 (h : SnAt w Fd t tail p dp S D) : w.cell? ⟨p, 2, none⟩ = some (.int .i64 S.at_) := by rw [cell_of_row _ _ _ _ _ _ h.head]; rfl
theorem SnAt.c3 (h : SnAt w Fd t tail p dp S D) : w.cell? ⟨p, 3, none⟩ = some (.slice S.A S.l.length S.c) := by rw [cell_of_row _ _ _ _ _ _ h.head]; rfl
theorem SnAt.fz (h : SnAt w Fd t tail p dp S D) (o : Nat) : w.frozen? ⟨p, o, none⟩ = false := frozen_of_row _ _ _ _ _ h.head
/-- Nothing of it was written. -/
theorem SnAt.keep (h : SnAt w Fd t tail p dp S D) {G : Nat → Prop} (k : Keeps G w w') (hG : ∀ b, b < w.heap.size → G b → False) : SnAt w' Fd t tail p dp S D := by
  have k0 : Keeps (fun _ => False) w w' := ⟨k.os, k.tape, k.output, k.size, fun b hb _ => k.block b hb (fun g => hG b hb g)⟩
  exact ⟨(k0.block p h.pl (fun h => h)).trans h.head, h.row.keep (k0.mono (fun _ _ h => h.elim)) (fun _ _ h => h), h.disk.keep k0 (fun _ _ _ h => h), fun b hb => Nat.lt_of_lt_of_le (h.lt b hb) k.size, h.np, h.ok⟩
theorem SnAt.new (h : SnAt w Fd t tail p dp S D) (k : Keeps (fun _ => False) w w') : SnAt w' Fd t tail p dp S D := h.keep k (fun _ _ h => h)
/-- Its disk is another one now. -/
theorem SnAt.wrote (h : SnAt w Fd t tail p dp S D) {D' : DSt} (hd : Dk w' (Gr Fd w) dp D') (k : Keeps Fd w w') : ∃ Fd', SnAt w' Fd' t tail p dp S D' ∧ ∀ b, Fd' b → Fd b ∨ w.heap.size ≤ b := by
  have hp := h.pl
  refine ⟨fun b => Gr Fd w b ∧ b < w'.heap.size, ⟨(k.block p hp h.np).trans h.head, h.row.keep (k.mono (fun _ _ f => .inr f)) (fun b hb f => ?_), hd.mono (fun b hb f => ⟨f, hb⟩), fun b hb => hb.2, fun hb => ?_, h.ok⟩, fun b hb => hb.1⟩
  · rcases f with f | f
    · exact .inl f
    · rcases f.1 with f | f
      · exact .inr f
      · omega
  · rcases hb.1 with f | f
    · exact h.np f
    · omega
/-- One of its four first cells is another one now. -/
theorem SnAt.set (h : SnAt w Fd t tail p dp S D) {S' : SSt} (i : Nat) (v : Value) (e : (scells dp S tail).set i v = scells dp S' tail) (hr : LR w (own p Fd) S'.A S'.l) (ok : S'.Ok) : SnAt (w.setCell ⟨p, i, none⟩ v) Fd t tail p dp S' D ∧ Keeps (own p Fd) w (w.setCell ⟨p, i, none⟩ v) := by
  have k : Keeps (· = p) w (w.setCell ⟨p, i, none⟩ v) := Keeps.setCell _ _ _ _ rfl
  refine ⟨⟨?_, hr.keep (k.mono (fun _ _ f => .inl f)) (fun _ _ f => f), h.disk.keep k (fun b _ f e => h.np (e ▸ f)), fun b hb => Nat.lt_of_lt_of_le (h.lt b hb) k.size, h.np, ok⟩, k.mono (fun _ _ f => .inl f)⟩
  rw [heap_setCell_same w p i _ t _ h.head, ← e]
  simp
end
/-- What a step leaves. -/
def Stepped (w : World) (Fd : Nat → Prop) (t : TypeId) (tail : List Value) (p dp : Nat) (S' : SSt) (D' : DSt) (w' : World) : Prop :=
  (∃ Fd', SnAt w' Fd' t tail p dp S' D' ∧ ∀ b, Fd' b → Fd b ∨ w.heap.size ≤ b) ∧ Keeps (own p Fd) w w'
theorem Stepped.refl {w : World} {Fd : Nat → Prop} {t : TypeId} {tail : List Value} {p dp : Nat} {S : SSt} {D : DSt} (h : SnAt w Fd t tail p dp S D) : Stepped w Fd t tail p dp S D w := ⟨⟨Fd, h, fun _ h => .inl h⟩, Keeps.refl _ _⟩
theorem Stepped.trans {w w' w'' : World} {Fd Fd' : Nat → Prop} {t : TypeId} {tail : List Value} {p dp : Nat} {S : SSt} {D : DSt} (k : Keeps (own p Fd) w w') (hs : ∀ b, Fd' b → Fd b ∨ w.heap.size ≤ b) (h : Stepped w' Fd' t tail p dp S D w'') : Stepped w Fd t tail p dp S D w'' := by
  obtain ⟨⟨F2, h2, s2⟩, k2⟩ := h
  refine ⟨⟨F2, h2, fun b hb => ?_⟩, ⟨k2.os.trans k.os, k2.tape.trans k.tape, k2.output.trans k.output, Nat.le_trans k.size k2.size, fun b hb hf => (k2.block b (by have := k.size; omega) (fun f => ?_)).trans (k.block b hb hf)⟩⟩
  · rcases s2 b hb with f | f
    · exact hs b f
    · have := k.size
      exact .inr (by omega)
  · rcases f with f | f
    · exact hf (.inl f)
    · rcases hs b f with g | g
      · exact hf (.inr g)
      · omega
theorem NR.both {w w' : World} {F Z : Nat → Prop} {A : Option Addr} {l : List Nat} (h : NR w F A l) (hz : NR w Z A l) (k : Keeps F w w') : NR w' Z A l := by
  intro hn
  obtain ⟨ad, e, hb, hf, hc⟩ := h hn
  obtain ⟨ad', e', _, hz', _⟩ := hz hn
  rw [e] at e'; cases e'
  exact ⟨ad, e, Nat.lt_of_lt_of_le hb k.size, hz', fun i u hu => (World.cell?_of_block (w := w) (by rw [block_add]; exact k.block _ hb hf)).trans (hc i u hu)⟩
theorem LR.both {w w' : World} {F Z : Nat → Prop} {A : Option Addr} {l : List Ck} (h : LR w F A l) (hz : LR w Z A l) (k : Keeps F w w') : LR w' Z A l := by
  refine ⟨fun hn => ?_, fun a ha => (h.ok a ha).both (hz.ok a ha) k⟩
  obtain ⟨ad, e, hb, hf, hc⟩ := h.ar hn
  obtain ⟨ad', e', _, hz', _⟩ := hz.ar hn
  rw [e] at e'; cases e'
  exact ⟨ad, e, Nat.lt_of_lt_of_le hb k.size, hz', fun i a ha j v hv => (World.cell?_of_block (w := w) (by rw [block_add, block_add]; exact k.block _ hb hf)).trans (hc i a ha j v hv)⟩
/-- Rows that avoid blocks of old go on to do so. -/
def Rows (w : World) (S S' : SSt) (w' : World) : Prop := ∀ Z : Nat → Prop, (∀ b, Z b → b < w.heap.size) → LR w Z S.A S.l → LR w' Z S'.A S'.l
section
variable {w w' : World} {Fd : Nat → Prop} {t : TypeId} {tail : List Value} {p dp : Nat} {S S' : SSt} {D D' : DSt}
theorem Stepped.rows (h : SnAt w Fd t tail p dp S D) (hs : Stepped w Fd t tail p dp S' D' w') (eA : S'.A = S.A) (el : S'.l = S.l) : Rows w S S' w' := fun Z _ hz => by
  rw [eA, el]
  exact h.row.both hz hs.2
theorem Rows.refl (w : World) (S : SSt) : Rows w S S w := fun _ _ h => h
end
end Go.Proofs.YtebecpjecchfoaaGreatDoor.St
namespace Go.Proofs.YtebecpjecchfoaaGreatDoor.St
open Go.RowKit Go.Maps

set_option maxRecDepth 100000 in
set_option maxHeartbeats 400000 in
theorem demand_ok (w : World) : Calls Tryz.prog 115 #[.int .i64 0] w fun e w' => e = .returned (.tuple #[]) ∧ w = w' := by
  go_enter Tryz.func115, Tryz.ntmps115
  go_wp2
  go_end0
  exact ⟨rfl, rfl⟩
set_option maxRecDepth 100000 in
set_option maxHeartbeats 400000 in
theorem demand_bad (E : Int) (hE : E ≠ 0) (w : World) : Calls Tryz.prog 115 #[.int .i64 E] w fun e w' => e = thrownE E ∧ w = w' := by
  have h1 : (E != 0) = true := by simpa using hE
  go_enter Tryz.func115, Tryz.ntmps115
  go_wp2
  exact ⟨rfl, rfl, rfl⟩
/-- How a step ends that demands. -/
def endE (E : Int) : Ending := if E = 0 then .returned (.tuple #[]) else thrownE E
section
variable {w : World} {Fd : Nat → Prop} {t : TypeId} {tail : List Value} {p dp : Nat} {S : SSt} {D : DSt}
set_option maxRecDepth 100000 in
set_option maxHeartbeats 400000 in
theorem other_at (h : SnAt w Fd t tail p dp S D) : Calls Tryz.prog 117 #[.pointer (some ⟨p, 0, none⟩)] w fun e w' => e = .returned (.int .i64 (1 - S.at_)) ∧ w = w' := by
  have c2 := h.c2
  have ha := h.ok.at_
  have hw : IntKind.i64.wrap (1 - S.at_) = 1 - S.at_ := by rcases ha with e | e <;> rw [e] <;> decide
  go_enter Tryz.func117, Tryz.ntmps117
  generalize S.at_ = a at *
  clear h ha
  go_wp2_with fail
  go_ret
  exact ⟨rfl, rfl⟩

/-- What fits answers. -/
def fitsE (D : DSt) : Int := if D.down = true then 20 else if D.n < 8 then 1 else 0
set_option maxRecDepth 100000 in
set_option maxHeartbeats 400000 in
theorem fits_at (h : SnAt w Fd t tail p dp S D) : Calls Tryz.prog 57 #[.pointer (some ⟨p, 0, none⟩)] w fun e w' => e = endE (fitsE D) ∧ w = w' := by
  have c0 := h.c0
  obtain ⟨lb, mb, n, iv, hd, _⟩ := h.disk
  have hnn := hd.ok.n_eq
  have hdn := down_at hd
  have hln := len_at hd
  clear h
  cases hdd : D.down with
  | true =>
    rw [hdd] at hdn
    have hE : endE (fitsE D) = thrownE 20 := by unfold endE fitsE; rw [hdd]; rfl
    rw [hE]
    go_enter Tryz.func57, Tryz.ntmps57
    go_wp2_with fail
    refine hdn.mono ?_
    rintro e w' ⟨rfl, rfl⟩
    go_wp2_with fail
    exact ⟨rfl, rfl, rfl⟩
  | false =>
    rw [hdd] at hdn
    by_cases h8 : n < 8
    · have hE : endE (fitsE D) = thrownE 1 := by unfold endE fitsE; rw [hdd, hnn, if_pos h8]; rfl
      rw [hE]
      have h8' : decide ((n : Int) < 8) = true := by simp; omega
      go_enter Tryz.func57, Tryz.ntmps57
      go_wp2_with fail
      refine hdn.mono ?_
      rintro e w' ⟨rfl, rfl⟩
      go_wp2_with fail
      refine hln.mono ?_
      rintro e w' ⟨rfl, rfl⟩
      go_wp2_with fail
      exact ⟨rfl, rfl, rfl⟩
    · have hE : endE (fitsE D) = .returned (.tuple #[]) := by unfold endE fitsE; rw [hdd, hnn, if_neg h8]; rfl
      rw [hE]
      have h8' : decide ((n : Int) < 8) = false := by simp; omega
      go_enter Tryz.func57, Tryz.ntmps57
      go_wp2_with fail
      refine hdn.mono ?_
      rintro e w' ⟨rfl, rfl⟩
      go_wp2_with fail
      refine hln.mono ?_
      rintro e w' ⟨rfl, rfl⟩
      go_wp2_with fail
      go_end0
      exact ⟨rfl, rfl⟩
set_option maxRecDepth 100000 in
theorem fits_nil (c0 : w.cell? ⟨p, 0, none⟩ = some (.pointer none)) : Calls Tryz.prog 57 #[.pointer (some ⟨p, 0, none⟩)] w fun e w' => e = thrownE 1 ∧ w = w' := by
  go_enter Tryz.func57, Tryz.ntmps57
  go_wp2_with fail
  exact ⟨rfl, rfl, rfl⟩

set_option maxRecDepth 100000 in
set_option maxHeartbeats 400000 in
theorem flush_at (h : SnAt w Fd t tail p dp S D) (hQ : D.Q.length ≤ 1954687338212) (ha : D.acts ≤ 1000000000000000) : Calls Tryz.prog 61 #[.pointer (some ⟨p, 0, none⟩)] w fun e w' => e = endE D.flushErr ∧ Stepped w Fd t tail p dp S D.flush w' := by
  have c0 := h.c0
  have hf := flush_any h.disk hQ ha
  have hw : ∀ {w1 : World}, Dk w1 (Gr Fd w) dp D.flush → Keeps Fd w w1 → Stepped w Fd t tail p dp S D.flush w1 := fun d1 k1 => ⟨h.wrote d1 k1, k1.mono (fun _ _ f => .inr f)⟩
  generalize D.flushErr = E at *
  generalize D.flush = D' at *
  unfold endE
  by_cases hE : E = 0
  · subst hE
    rw [if_pos rfl]
    go_enter Tryz.func61, Tryz.ntmps61
    go_wp2_with fail
    refine hf.mono ?_
    rintro e w1 ⟨rfl, d1, k1⟩
    have h1 := hw d1 k1
    go_wp2_with fail
    refine (demand_ok w1).mono ?_
    rintro e w' ⟨rfl, rfl⟩
    go_wp2_with fail
    go_end0
    exact ⟨rfl, h1⟩
  · rw [if_neg hE]
    go_enter Tryz.func61, Tryz.ntmps61
    go_wp2_with fail
    refine hf.mono ?_
    rintro e w1 ⟨rfl, d1, k1⟩
    have h1 := hw d1 k1
    go_wp2_with fail
    refine (demand_bad E hE w1).mono ?_
    rintro e w' ⟨rfl, rfl⟩
    exact ⟨rfl, rfl, h1⟩

/-- What sector leaves. -/
def SectorOut (w : World) (zs : List UInt8) (err : Int) (e : Ending) (w' : World) : Prop :=
  Keeps (fun _ => False) w w' ∧ ((err = 0 ∧ ∃ R c, e = .returned (.slice R zs.length c) ∧ BR w' w'.heap.size R zs ∧ zs.length ≤ c) ∨ (err ≠ 0 ∧ e = thrownE err))
set_option maxRecDepth 100000 in
set_option maxHeartbeats 400000 in
theorem sector_at (h : SnAt w Fd t tail p dp S D) (i : Int) : Calls Tryz.prog 125 #[.pointer (some ⟨p, 0, none⟩), .int .i64 i] w (SectorOut w (D.readAt i) (D.readErr i)) := by
  have c0 := h.c0
  obtain ⟨lb, mb, n, iv, hd, _⟩ := h.disk
  have hr := read_atC hd i
  clear hd h
  generalize D.readErr i = E at *
  generalize D.readAt i = zs at *
  by_cases hE : E = 0
  · subst hE
    go_enter Tryz.func125, Tryz.ntmps125
    go_wp2_with fail
    refine hr.mono ?_
    rintro e w1 ⟨R, c, rfl, br, _, k1, hc⟩
    go_wp2_with fail
    refine (demand_ok w1).mono ?_
    rintro e w' ⟨rfl, rfl⟩
    go_wp2_with fail
    go_ret
    exact ⟨k1, .inl ⟨rfl, R, c, rfl, br, hc⟩⟩
  · go_enter Tryz.func125, Tryz.ntmps125
    go_wp2_with fail
    refine hr.mono ?_
    rintro e w1 ⟨R, c, rfl, br, _, k1, hc⟩
    go_wp2_with fail
    refine (demand_bad E hE w1).mono ?_
    rintro e w' ⟨rfl, rfl⟩
    exact ⟨rfl, k1, .inr ⟨hE, rfl⟩⟩

end
end Go.Proofs.YtebecpjecchfoaaGreatDoor.St
