/-
  Merged by wip/tools/merge.py: Base Frame Keeps
-/
import Derived.WalkKit
import Derived.WalkSpells
import Derived.Below
import Derived.Laws.OwnMore
import Derived.Deep.Draws
import Derived.Test.YtipolhocplidlaaRows
import Derived.ProofKit
import Derived.OpenShut
import Derived.SizedLaws
namespace Go.Proofs.Ytipolhocplidlaa
open Go.RowKit

/-- A byte as a value. -/
abbrev B8 (x : UInt8) : Value := .int .u8 (x.toNat : Int)

theorem block_add (a : Addr) (n : Nat) : (a.add n).block = a.block := by unfold Addr.add; split <;> rfl

/-- The bytes 'xs' lie at 'A' (asked only where there is one), below block B. -/
def BR (w : World) (B : Nat) (A : Option Addr) (xs : List UInt8) : Prop :=
  xs ≠ [] → ∃ ad, A = some ad ∧ ad.block < B ∧ ∀ k u, xs[k]? = some u → w.cell? (ad.add k) = some (B8 u)

theorem BR.at_ {w : World} {B : Nat} {A : Option Addr} {xs : List UInt8} (h : BR w B A xs) {k : Nat} (hk : k < xs.length) :
    ∃ ad, A = some ad ∧ ad.block < B ∧ w.cell? (ad.add k) = some (B8 (xs.getD k 0)) := by
  obtain ⟨ad, e, hb, hc⟩ := h (by intro e; subst e; simp at hk)
  exact ⟨ad, e, hb, by rw [hc k xs[k] (List.getElem?_eq_getElem hk)]; simp [List.getD_eq_getElem?_getD, List.getElem?_eq_getElem hk]⟩
theorem BR.keep {w w' : World} {B : Nat} {A : Option Addr} {xs : List UInt8} (h : BR w B A xs) (hk : ∀ p : Addr, p.block < B → w'.cell? p = w.cell? p) : BR w' B A xs := by
  intro hn
  obtain ⟨ad, e, hb, hc⟩ := h hn
  exact ⟨ad, e, hb, fun k u hu => (hk _ (by rw [block_add]; exact hb)).trans (hc k u hu)⟩
theorem BR.more {w : World} {B B' : Nat} {A : Option Addr} {xs : List UInt8} (h : BR w B A xs) (hB : B ≤ B') : BR w B' A xs := by
  intro hn
  obtain ⟨ad, e, hb, hc⟩ := h hn
  exact ⟨ad, e, by omega, hc⟩
theorem BR.below {w w' : World} {B : Nat} {A : Option Addr} {xs : List UInt8} (h : BR w B A xs) (hb : Below B w w') : BR w' B A xs := h.keep fun _ hp => hb.cell hp
theorem BR.nil {w : World} {B : Nat} {A : Option Addr} : BR w B A [] := fun h => absurd rfl h

/-- The byte at a place, 0 where there is none. -/
def byt (xs : List UInt8) (k : Int) : UInt8 := if k < 0 then 0 else xs.getD k.toNat 0
theorem byt_in (xs : List UInt8) (k : Int) (h0 : 0 ≤ k) : byt xs k = xs.getD k.toNat 0 := by unfold byt; rw [if_neg (by omega)]
theorem byt_out (xs : List UInt8) (k : Int) (h : k < 0 ∨ xs.length ≤ k) : byt xs k = 0 := by
  unfold byt
  split
  · rfl
  · rw [List.getD_eq_getElem?_getD, List.getElem?_eq_none (by omega)]; rfl

/-- A number of bytes, from 0 to 8. -/
def clamp (n most : Int) : Int := if most < (if 0 > n then 0 else n) then most else (if 0 > n then 0 else n)
theorem clamp_range (n most : Int) (h : 0 ≤ most) : 0 ≤ clamp n most ∧ clamp n most ≤ most := by unfold clamp; split <;> split <;> omega

theorem ret_int {k : IntKind} {a b : Int} (h : a = b) : Ending.returned (.int k a) = .returned (.int k b) := by rw [h]
theorem ret_bool {a b : Bool} (h : a = b) : Ending.returned (.bool a) = .returned (.bool b) := by rw [h]
end Go.Proofs.Ytipolhocplidlaa
namespace Go.Proofs.Ytipolhocplidlaa
open Go.ChangeShapes Go.WideShapes Go.ChangeAt Go.RowKit

theorem Try.bytes8 : Try.prog.bytesOf 5 = 1 := by kernel_rfl
theorem Try.cells8 : Try.prog.cellsOf 5 = 1 := by kernel_rfl

theorem byte_of_wf {n : Int} (h : (Lit.int .u8 n).wf = true) : 0 ≤ n ∧ n < 256 := by
  simp [Lit.wf, IntKind.min, IntKind.max, IntKind.signed, IntKind.bits] at h
  omega

theorem i64_of_wf {n : Int} (h : (Lit.int .i64 n).wf = true) : -9223372036854775808 ≤ n ∧ n ≤ 9223372036854775807 := by
  simp [Lit.wf, IntKind.min, IntKind.max, IntKind.signed, IntKind.bits] at h
  omega
theorem u64_of_wf {n : Int} (h : (Lit.int .u64 n).wf = true) : 0 ≤ n ∧ n ≤ 18446744073709551615 := by
  simp [Lit.wf, IntKind.min, IntKind.max, IntKind.signed, IntKind.bits] at h
  omega
end Go.Proofs.Ytipolhocplidlaa
namespace Go.Proofs.Ytipolhocplidlaa
open Go.RowKit

/-- What is kept: all blocks but those of F, and new ones. -/
structure Keeps (F : Nat → Prop) (w w' : World) : Prop where
  os : w'.os = w.os
  tape : w'.tape = w.tape
  output : w'.output = w.output
  size : w.heap.size ≤ w'.heap.size
  block : ∀ k, k < w.heap.size → ¬ F k → w'.heap[k]? = w.heap[k]?
theorem Keeps.refl (F : Nat → Prop) (w : World) : Keeps F w w := ⟨rfl, rfl, rfl, Nat.le_refl _, fun _ _ _ => rfl⟩
theorem Keeps.trans {F : Nat → Prop} {a b c : World} (h : Keeps F a b) (k : Keeps F b c) : Keeps F a c :=
  ⟨k.os.trans h.os, k.tape.trans h.tape, k.output.trans h.output, Nat.le_trans h.size k.size, fun i hi hF => (k.block i (Nat.lt_of_lt_of_le hi h.size) hF).trans (h.block i hi hF)⟩
theorem Keeps.mono {F G : Nat → Prop} {w w' : World} (h : Keeps F w w') (hF : ∀ k, k < w.heap.size → F k → G k) : Keeps G w w' := ⟨h.os, h.tape, h.output, h.size, fun k hk hG => h.block k hk fun hf => hG (hF k hk hf)⟩
theorem Keeps.grown {w w' : World} {row : Option Nat} (F : Nat → Prop) (hg : w.grownBy w' row) (hr : ∀ k, row = some k → F k) : Keeps F w w' := ⟨hg.os, hg.tape, hg.output, hg.size, fun k hk hF => hg.block k hk fun e => hF (hr k e.symm)⟩
theorem Keeps.alloc (F : Nat → Prop) (w : World) (o : Obj) : Keeps F w (w.alloc o) := ⟨rfl, rfl, rfl, by simp, fun k hk _ => Below.heap_alloc w o k hk⟩
theorem Keeps.drew (F : Nat → Prop) (w : World) : Keeps F w w.drew := ⟨rfl, rfl, rfl, Nat.le_refl _, fun _ _ _ => rfl⟩
theorem Keeps.setCell (F : Nat → Prop) (w : World) (a : Addr) (v : Value) (h : F a.block) : Keeps F w (w.setCell a v) := ⟨rfl, rfl, rfl, by simp [World.setCell], fun k _ hF => Below.heap_setCell _ _ _ _ fun e => hF (by rw [e]; exact h)⟩
theorem Keeps.below {B : Nat} {w w' : World} (h : Below B w w') (F : Nat → Prop) (hF : ∀ k, k < w.heap.size → B ≤ k → F k) : Keeps F w w' := ⟨h.os, h.tape, h.output, h.size, fun k hk hn => h.block k (Nat.lt_of_not_le fun hb => hn (hF k hk hb))⟩
theorem Keeps.toBelow {F : Nat → Prop} {w w' : World} (h : Keeps F w w') (B : Nat) (hB : B ≤ w.heap.size) (hF : ∀ k, F k → B ≤ k) : Below B w w' := ⟨h.os, h.tape, h.output, h.size, fun k hk => h.block k (by omega) fun hf => by have := hF k hf; omega⟩
theorem Keeps.cell {F : Nat → Prop} {w w' : World} (h : Keeps F w w') (b o : Nat) (hb : b < w.heap.size) (hF : ¬ F b) : w'.cell? ⟨b, o, none⟩ = w.cell? ⟨b, o, none⟩ := World.cell?_of_block (w := w) (w' := w') (a := ⟨b, o, none⟩) (h.block b hb hF)
theorem Keeps.fz {F : Nat → Prop} {w w' : World} (h : Keeps F w w') (b o : Nat) (hb : b < w.heap.size) (hF : ¬ F b) : w'.frozen? ⟨b, o, none⟩ = w.frozen? ⟨b, o, none⟩ := World.frozen?_of_block (w := w) (w' := w') (a := ⟨b, o, none⟩) (h.block b hb hF)
/-- A slice's bytes, where others are written. -/
theorem Keeps.br {F : Nat → Prop} {w w' : World} (h : Keeps F w w') {A : Option Addr} {xs : List UInt8} (hx : BR w w.heap.size A xs) (ha : ∀ ad, A = some ad → xs ≠ [] → ¬ F ad.block) : BR w' w'.heap.size A xs := by
  intro hn
  obtain ⟨ad, e, hb, hc⟩ := hx hn
  refine ⟨ad, e, Nat.lt_of_lt_of_le hb h.size, fun k u hu => ?_⟩
  rw [World.cell?_of_block (w := w) (by rw [block_add]; exact h.block _ hb (ha ad e hn))]
  exact hc k u hu
end Go.Proofs.Ytipolhocplidlaa
