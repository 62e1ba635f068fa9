/-
  SkOff
-/
import Derived.Test.YtmaoaeebggpbbaaSkAwk
import Derived.Test.YtmaoaeebggpbbaaMmRefL
namespace Go.Proofs.Ytmaoaeebggpbbaa.Sk
open Go.RowKit Go.Maps Mm
set_option linter.unusedVariables false
set_option linter.unusedSimpArgs false
variable {w : World} {v : Option Addr} {p gb mb : Nat} {ok : Bool} {G M F : List UInt8} {a lo hi ov un : Int}
/-- Alike but for one stack's cell and bytes. -/
structure OffS (M F : List UInt8) (a lo : Int) : Prop where
  ml : M.length = 8192
  fl : F.length = 8192
  eq : ∀ i : Nat, i < 8192 → ¬ (a ≤ i ∧ (i : Int) < a + 8) → ¬ (lo ≤ i ∧ (i : Int) < lo + 256) → M.getD i 0 = F.getD i 0
theorem OffS.refl (F : List UInt8) (a lo : Int) (h : F.length = 8192) : OffS F F a lo := ⟨h, h, fun _ _ _ _ => rfl⟩
theorem OffS.set {M F : List UInt8} (h : OffS M F a lo) (x n : Int) (h0 : 0 ≤ x) (hx : x = a ∨ (lo ≤ x ∧ x + 8 ≤ lo + 256)) : OffS (setM M x n) F a lo :=
  ⟨by rw [setM_len, h.ml], h.fl, fun i hi h1 h2 => by
    rw [setM_get _ _ _ _ h0 (by rw [h.ml]; exact hi), if_neg (by omega)]
    exact h.eq i hi h1 h2⟩
/-- The cell and the bytes laid again. -/
theorem OffS.back {M F : List UInt8} (h : OffS M F a lo) (ha : 0 ≤ a) (hl : 48 ≤ lo) (hal : a ≤ 40) (hlo : lo ≤ 512) : layL (setM M a (cel F a)) lo (loadL F lo 256) = F := by
  have ml := h.ml
  have fl := h.fl
  refine ext_getD (by rw [layL_len, setM_len, ml, fl]) fun i hi => ?_
  rw [layL_len, setM_len, ml] at hi
  rw [getD_layL _ _ _ _ (by rw [setM_len, ml]; exact hi), loadL_len]
  by_cases c1 : lo ≤ i ∧ (i : Int) < lo + (256 : Nat)
  · rw [if_pos c1, byt_in _ _ (by omega), getD_loadL _ _ _ _ (by omega), byt_in _ _ (by omega)]
    congr 1
    omega
  · rw [if_neg c1, setM_get _ _ _ _ ha (by rw [ml]; exact hi)]
    by_cases c2 : a ≤ i ∧ (i : Int) < a + 8
    · have := set_same F a ha
      have e := setM_get F a (cel F a) i ha (by rw [fl]; exact hi)
      rw [this, if_pos c2] at e
      rw [if_pos c2, e]
    · rw [if_neg c2]
      exact h.eq i hi c2 (by omega)
/-- Some number, or two, and the rest of the memory as it was. -/
def OffO (w : World) (p gb mb : Nat) (G F : List UInt8) (a lo : Int) (V : Value → Prop) (e : Ending) (w' : World) : Prop := ∃ x M', V x ∧ e = .returned x ∧ SM w' (some ⟨p, 0, none⟩) p gb mb true G M' ∧ OffS M' F a lo ∧ Keeps (SF true p mb) w w'
theorem Push_off (h : SM w (some ⟨p, 0, none⟩) p gb mb true G M) (o : OffS M F 32 256) (n : Int) : Calls Try.prog 19 #[.pointer (some ⟨p, 0, none⟩), .int .i64 n] w (OffO w p gb mb G F 32 256 fun x => ∃ r, x = .int .i64 r) := by
  have l := dD_le M
  by_cases e : dD M < 32
  · refine (Push_ok h n e).mono fun en w' x => ⟨_, _, ⟨_, rfl⟩, x.1, x.2.1, ?_, x.2.2⟩
    rw [lays_one]
    exact (o.set _ _ (by omega) (.inl rfl)).set _ _ (by omega) (.inr (by omega))
  · exact (Push_over h n fun _ => by omega).mono fun en w' x => ⟨_, _, ⟨_, rfl⟩, x.1, x.2.1, o, x.2.2⟩
theorem Pop_off (h : SM w (some ⟨p, 0, none⟩) p gb mb true G M) (o : OffS M F 32 256) : Calls Try.prog 21 #[.pointer (some ⟨p, 0, none⟩)] w (OffO w p gb mb G F 32 256 fun x => ∃ r s, x = .tuple #[.int .i64 r, .int .i64 s]) := by
  by_cases e : 1 ≤ dD M
  · refine (Pop_ok h e).mono fun en w' x => ⟨_, _, ⟨_, _, rfl⟩, x.1, x.2.1, ?_, x.2.2⟩
    rw [take_one_is]
    exact o.set _ _ (by omega) (.inl rfl)
  · exact (Pop_under h (by omega)).mono fun en w' x => ⟨_, _, ⟨_, _, rfl⟩, x.1, x.2.1, o, x.2.2⟩
theorem RPush_off (h : SM w (some ⟨p, 0, none⟩) p gb mb true G M) (o : OffS M F 40 512) (n : Int) : Calls Try.prog 20 #[.pointer (some ⟨p, 0, none⟩), .int .i64 n] w (OffO w p gb mb G F 40 512 fun x => ∃ r, x = .int .i64 r) := by
  have l := dB_le M
  by_cases e : dB M < 32
  · refine (RPush_ok h n e).mono fun en w' x => ⟨_, _, ⟨_, rfl⟩, x.1, x.2.1, ?_, x.2.2⟩
    rw [lays_one]
    exact (o.set _ _ (by omega) (.inl rfl)).set _ _ (by omega) (.inr (by omega))
  · exact (RPush_over h n fun _ => by omega).mono fun en w' x => ⟨_, _, ⟨_, rfl⟩, x.1, x.2.1, o, x.2.2⟩
theorem RPop_off (h : SM w (some ⟨p, 0, none⟩) p gb mb true G M) (o : OffS M F 40 512) : Calls Try.prog 22 #[.pointer (some ⟨p, 0, none⟩)] w (OffO w p gb mb G F 40 512 fun x => ∃ r s, x = .tuple #[.int .i64 r, .int .i64 s]) := by
  by_cases e : 1 ≤ dB M
  · refine (RPop_ok h e).mono fun en w' x => ⟨_, _, ⟨_, _, rfl⟩, x.1, x.2.1, ?_, x.2.2⟩
    rw [take_one_is]
    exact o.set _ _ (by omega) (.inl rfl)
  · exact (RPop_under h (by omega)).mono fun en w' x => ⟨_, _, ⟨_, _, rfl⟩, x.1, x.2.1, o, x.2.2⟩
theorem row_ne {w : World} {p gb mb g : Nat} {G M zs : List UInt8} (h : MemAt w p gb mb G M) (r : Row8 w g 5 zs) : g ≠ p ∧ g ≠ mb := by
  obtain ⟨ch, _, hh⟩ := h.head
  obtain ⟨f, ⟨D, ⟨es, clock, hb, _⟩, _⟩, _⟩ := h.map
  have rb := r.block
  refine ⟨?_, ?_⟩
  · intro e
    rw [e, hh] at rb
    simp only [Option.some.injEq, Obj.cells.injEq] at rb
    exact absurd rb.2.1 (by decide)
  · intro e
    rw [e, hb] at rb
    cases rb
theorem SM.mem {w : World} {p gb mb : Nat} {G M : List UInt8} (h : SM w (some ⟨p, 0, none⟩) p gb mb true G M) : MemAt w p gb mb G M := by
  rcases h with ⟨_, _, h⟩ | ⟨h, _⟩
  · exact h
  · cases h
end Go.Proofs.Ytmaoaeebggpbbaa.Sk
