/-
  Plain words for bytes in memory and the plain functions that layer 1 comes to. No function of the program is named here.
-/
import Derived.WalkKit
import Derived.WalkSpells
import Derived.Below
import Derived.Laws.OwnMore
import Derived.Deep.Draws
namespace Go.Proofs.YtajagjhhpciocaaDoor
open Go.RowKit

/-- A byte as a value. -/
abbrev B8 (x : UInt8) : Value := .int .u8 (x.toNat : Int)

theorem block_add (a : Addr) (n : Nat) : (a.add n).block = a.block := by unfold Addr.add; split <;> rfl

/-- The bytes 'xs' lie at 'A' (asked only where there is one), below block B. -/
def BR (w : World) (B : Nat) (A : Option Addr) (xs : List UInt8) : Prop :=
  xs ≠ [] → ∃ ad, A = some ad ∧ ad.block < B ∧ ∀ k u, xs[k]? = some u → w.cell? (ad.add k) = some (B8 u)

theorem BR.at_ {w : World} {B : Nat} {A : Option Addr} {xs : List UInt8} (h : BR w B A xs) {k : Nat} (hk : k < xs.length) :
    ∃ ad, A = some ad ∧ ad.block < B ∧ w.cell? (ad.add k) = some (B8 (xs.getD k 0)) := by
  obtain ⟨ad, e, hb, hc⟩ := h (by intro e; subst e; simp at hk)
  exact ⟨ad, e, hb, by rw [hc k xs[k] (List.getElem?_eq_getElem hk)]; simp [List.getD_eq_getElem?_getD, List.getElem?_eq_getElem hk]⟩
theorem BR.keep {w w' : World} {B : Nat} {A : Option Addr} {xs : List UInt8} (h : BR w B A xs) (hk : ∀ p : Addr, p.block < B → w'.cell? p = w.cell? p) : BR w' B A xs := by
  intro hn
  obtain ⟨ad, e, hb, hc⟩ := h hn
  exact ⟨ad, e, hb, fun k u hu => (hk _ (by rw [block_add]; exact hb)).trans (hc k u hu)⟩
theorem BR.more {w : World} {B B' : Nat} {A : Option Addr} {xs : List UInt8} (h : BR w B A xs) (hB : B ≤ B') : BR w B' A xs := by
  intro hn
  obtain ⟨ad, e, hb, hc⟩ := h hn
  exact ⟨ad, e, by omega, hc⟩
theorem BR.below {w w' : World} {B : Nat} {A : Option Addr} {xs : List UInt8} (h : BR w B A xs) (hb : Below B w w') : BR w' B A xs := h.keep fun _ hp => hb.cell hp
theorem BR.nil {w : World} {B : Nat} {A : Option Addr} : BR w B A [] := fun h => absurd rfl h

/-- The byte at a place, 0 where there is none. -/
def byt (xs : List UInt8) (k : Int) : UInt8 := if k < 0 then 0 else xs.getD k.toNat 0
theorem byt_in (xs : List UInt8) (k : Int) (h0 : 0 ≤ k) : byt xs k = xs.getD k.toNat 0 := by unfold byt; rw [if_neg (by omega)]
theorem byt_out (xs : List UInt8) (k : Int) (h : k < 0 ∨ xs.length ≤ k) : byt xs k = 0 := by
  unfold byt
  split
  · rfl
  · rw [List.getD_eq_getElem?_getD, List.getElem?_eq_none (by omega)]; rfl

/-- A number of bytes, from 0 to 8. -/
def clamp (n most : Int) : Int := if most < (if 0 > n then 0 else n) then most else (if 0 > n then 0 else n)
theorem clamp_range (n most : Int) (h : 0 ≤ most) : 0 ≤ clamp n most ∧ clamp n most ≤ most := by unfold clamp; split <;> split <;> omega

theorem ret_int {k : IntKind} {a b : Int} (h : a = b) : Ending.returned (.int k a) = .returned (.int k b) := by rw [h]
theorem ret_bool {a b : Bool} (h : a = b) : Ending.returned (.bool a) = .returned (.bool b) := by rw [h]
end Go.Proofs.YtajagjhhpciocaaDoor
