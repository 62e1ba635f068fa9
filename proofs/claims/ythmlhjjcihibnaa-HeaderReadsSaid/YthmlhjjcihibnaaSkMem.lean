/-
  SkMem
-/
import Derived.Test.YthmlhjjcihibnaaSkPlain
import Derived.Test.YthmlhjjcihibnaaMmCalls
import Derived.Test.YthmlhjjcihibnaaMmNo
import Derived.Test.YthmlhjjcihibnaaMmFlat
import Derived.Test.YthmlhjjcihibnaaGT
import Derived.Test.YthmlhjjcihibnaaGDk
namespace Go.Proofs.Ythmlhjjcihibnaa.Sk
open Go.RowKit Go.Maps Mm
set_option linter.unusedVariables false

theorem byt_fil (i : Int) : byt (fillL []) i = 0 := by
  by_cases h0 : i < 0
  · exact byt_out _ _ (.inl h0)
  by_cases h1 : i < 8192
  · rw [byt_in _ _ (by omega)]
    unfold fillL
    rw [getD_loadL _ _ _ _ (by omega)]
    exact byt_out _ _ (.inr (by simp; omega))
  · exact byt_out _ _ (.inr (by rw [fillL_len]; omega))
theorem byt_rep (i : Int) : byt (List.replicate 8 0) i = 0 := by
  by_cases h0 : i < 0
  · exact byt_out _ _ (.inl h0)
  by_cases h1 : i < 8
  · rw [byt_in _ _ (by omega)]
    exact getD_zeros 8 _
  · exact byt_out _ _ (.inr (by simp; omega))
theorem cel_fil (a : Int) : cel (fillL []) a = 0 := by
  have e : num (fillL []) a 8 = num (List.replicate 8 0) 0 8 := num_congr 8 fun j _ => (byt_fil _).trans (byt_rep _).symm
  have : cel (fillL []) a = cel (List.replicate 8 0) 0 := by
    unfold cel
    rw [e]
  rw [this, cel_zero]
/-- What the memory's calls may change. -/
def SF (ok : Bool) (p mb : Nat) (k : Nat) : Prop := ok = true ∧ (k = p ∨ k = mb)
/-- A memory at v, or none (all noughts then). -/
def SM (w : World) (v : Option Addr) (p gb mb : Nat) (ok : Bool) (G M : List UInt8) : Prop := (ok = true ∧ v = some ⟨p, 0, none⟩ ∧ MemAt w p gb mb G M) ∨ (ok = false ∧ v = none ∧ M.length = 8192 ∧ ∀ a, cel M a = 0)
variable {w : World} {v : Option Addr} {p gb mb : Nat} {ok : Bool} {G M : List UInt8}
theorem SM.lt (h : SM w v p gb mb ok G M) {k : Nat} (hk : SF ok p mb k) : k < w.heap.size := by
  rcases h with ⟨e, _, hm⟩ | ⟨e, _⟩
  · obtain ⟨l1, _, l3⟩ := hm.lt
    rcases hk.2 with rfl | rfl <;> assumption
  · rw [hk.1] at e
    cases e
theorem SM.ml (h : SM w v p gb mb ok G M) : M.length = 8192 := by
  rcases h with ⟨_, _, hm⟩ | ⟨_, _, h, _⟩
  · exact hm.ml
  · exact h
theorem SM.keep {w' : World} {F : Nat → Prop} (h : SM w v p gb mb ok G M) (k : Keeps F w w') (hF : ∀ i, i < w.heap.size → ¬ F i) : SM w' v p gb mb ok G M := by
  rcases h with ⟨e, e', hm⟩ | h
  · obtain ⟨l1, l2, l3⟩ := hm.lt
    exact .inl ⟨e, e', hm.keep k (hF _ l1) (hF _ l2) (hF _ l3)⟩
  · exact .inr h
/-- The memory's blocks. -/
def SG (ok : Bool) (p gb mb : Nat) (k : Nat) : Prop := ok = true ∧ (k = p ∨ k = gb ∨ k = mb)
theorem SM.ltG (h : SM w v p gb mb ok G M) {k : Nat} (hk : SG ok p gb mb k) : k < w.heap.size := by
  rcases h with ⟨e, _, hm⟩ | ⟨e, _⟩
  · obtain ⟨l1, l2, l3⟩ := hm.lt
    rcases hk.2 with rfl | rfl | rfl <;> assumption
  · rw [hk.1] at e
    cases e
theorem SM.keepG {w' : World} {F : Nat → Prop} (h : SM w v p gb mb ok G M) (k : Keeps F w w') (hF : ∀ i, F i → ¬ SG ok p gb mb i) : SM w' v p gb mb ok G M := by
  rcases h with ⟨rfl, e', hm⟩ | h
  · exact .inl ⟨rfl, e', hm.keep k (fun f => hF _ f ⟨rfl, .inl rfl⟩) (fun f => hF _ f ⟨rfl, .inr (.inl rfl)⟩) (fun f => hF _ f ⟨rfl, .inr (.inr rfl)⟩)⟩
  · exact .inr h
theorem SG.of {k : Nat} (h : SF ok p mb k) : SG ok p gb mb k := ⟨h.1, h.2.elim .inl fun x => .inr (.inr x)⟩
theorem SM.alloc (h : SM w v p gb mb ok G M) (o : Obj) : SM (w.alloc o) v p gb mb ok G M := h.keep (Keeps.alloc (fun _ => False) w o) fun _ _ f => f
def setS (ok : Bool) (M : List UInt8) (a n : Int) : List UInt8 := if ok = true then setM M a n else M
/-- This was answered, and the memory is M. -/
def OutS (w : World) (v : Option Addr) (p gb mb : Nat) (ok : Bool) (G M : List UInt8) (x : Value) (e : Ending) (w' : World) : Prop := e = .returned x ∧ SM w' v p gb mb ok G M ∧ Keeps (SF ok p mb) w w'
theorem OutM.s {e : Ending} {w' : World} {x : Value} (h : OutM w p gb mb G M x e w') : OutS w (some ⟨p, 0, none⟩) p gb mb true G M x e w' := ⟨h.1, .inl ⟨rfl, rfl, h.2.1⟩, h.2.2.mono fun _ _ x => ⟨rfl, x⟩⟩
theorem OutS.m {e : Ending} {w' : World} {x : Value} (h : OutS w (some ⟨p, 0, none⟩) p gb mb true G M x e w') : OutM w p gb mb G M x e w' := by
  obtain ⟨h1, h2, h3⟩ := h
  rcases h2 with ⟨_, _, hm⟩ | ⟨e, _⟩
  · exact ⟨h1, hm, h3.mono fun _ _ x => x.2⟩
  · cases e
theorem sget (h : SM w v p gb mb ok G M) (a : Int) (ha : -9223372036854775808 ≤ a) (ha' : a ≤ 9223372036854775807) : Calls Try.prog 29 #[.pointer v, .int .i64 a] w (OutS w v p gb mb ok G M (.int .i64 (cel M a))) := by
  rcases h with ⟨rfl, rfl, hm⟩ | ⟨rfl, rfl, hl, hz⟩
  · exact (mget_at hm a ha ha').mono fun _ _ => OutM.s
  · rw [hz]
    exact (get_no (.inl rfl) a).mono fun _ _ x => ⟨x.1, .inr ⟨rfl, rfl, hl, hz⟩, x.2.mono fun _ _ f => f.elim⟩
theorem sset (h : SM w v p gb mb ok G M) (a n : Int) (ha : -9223372036854775808 ≤ a) (ha' : a ≤ 9223372036854775807) : Calls Try.prog 24 #[.pointer v, .int .i64 a, .int .i64 n] w (OutS w v p gb mb ok G (setS ok M a n) (.tuple #[])) := by
  rcases h with ⟨rfl, rfl, hm⟩ | ⟨rfl, rfl, hl, hz⟩
  · exact (mset_at hm a n ha ha').mono fun _ _ => OutM.s
  · exact (set_no (.inl rfl) a n).mono fun _ _ x => ⟨x.1, .inr ⟨rfl, rfl, hl, hz⟩, x.2.mono fun _ _ f => f.elim⟩
/-! ### pile -/
def pcs (v : Option Addr) (a lo hi ov un : Int) : List Value := [.pointer v, .int .i64 a, .int .i64 lo, .int .i64 hi, .int .i64 ov, .int .i64 un]
def pil (v : Option Addr) (a lo hi ov un : Int) : Value := .agg #[.pointer v, .int .i64 a, .int .i64 lo, .int .i64 hi, .int .i64 ov, .int .i64 un]
variable {b : Nat} {a lo hi ov un : Int}
theorem Keeps.first (_h : SM w v p gb mb ok G M) {w1 : World} {F : Nat → Prop} (hF : ∀ i, F i → False) (k1 : Keeps F w w1) : Keeps (SF ok p mb) w w1 := k1.mono fun i _ f => (hF i f).elim
theorem Keeps.second (_h : SM w v p gb mb ok G M) {w1 w2 : World} (k1 : Keeps (fun _ => False) w w1) (k2 : Keeps (SF ok p mb) w1 w2) : Keeps (SF ok p mb) w w2 := Keeps.thru k1 k2 (fun _ _ f => f.elim) fun _ _ x => x
end Go.Proofs.Ythmlhjjcihibnaa.Sk
