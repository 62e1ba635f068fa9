/-
  MmTail
-/
import Derived.Test.YthmlhjjcihibnaaMmAwake
import Derived.Test.YthmlhjjcihibnaaMmRefL
import Derived.Test.YthmlhjjcihibnaaGLe
import Derived.Test.YthmlhjjcihibnaaGT
namespace Go.Proofs.Ythmlhjjcihibnaa.Mm
open Go.RowKit Go.Maps
set_option linter.unusedVariables false

theorem aggS : ∀ w, (isAgg 22).run Try.prog w = .ok false w := fun w => by kernel_rfl
theorem conv_ref {W : World} {mi q b c d e : Nat} {B G : List UInt8} (h : RefH W mi q b c d e B G) : (convert 22 9 (.slice (some ⟨b, 0, none⟩) 8192 c)).run Try.prog W = .ok (.string ⟨B.toArray⟩) W := by
  have := run_str (P := Try.prog) W _ 22 9 5 _ B c h.br Try.underlying22 Try.underlying5 Try.underlying9
  rw [h.bl] at this
  exact this
theorem conv_row {W : World} {g : Nat} {B : List UInt8} (n : Nat) (hl : B.length = n) (h : Row8 W g 5 B) : (convert 22 9 (.slice (some ⟨g, 0, none⟩) n n)).run Try.prog W = .ok (.string ⟨B.toArray⟩) W := by
  have := run_str (P := Try.prog) W _ 22 9 5 _ B B.length h.br Try.underlying22 Try.underlying5 Try.underlying9
  rw [hl] at this
  exact this
theorem RefH.keep3 {w w' : World} {mi q b c d e : Nat} {B G : List UInt8} {F : Nat → Prop} (h : RefH w mi q b c d e B G) (k : Keeps F w w') (hq : ¬ F q) (hb : ¬ F b) (hd : ¬ F d) : RefH w' mi q b c d e B G :=
  ⟨h.q0, h.bl, h.gl, (k.block q h.lt.1 hq).trans h.head, h.now.keeps' k hb, h.was.keeps' k hd, h.bq, h.dq, h.bd⟩
/-- Both memories beside each other: the code's between lo and mi, the document's from mi on, below hi; the code's is M, the document's B. -/
structure Pair (w : World) (lo mi hi p q : Nat) (G M B : List UInt8) : Prop where
  mem : ∃ gb mb, MemAt w p gb mb G M ∧ lo ≤ p ∧ lo ≤ mb ∧ lo ≤ gb ∧ p < mi ∧ gb < mi ∧ mb < mi
  ref : ∃ b c d e, RefH w mi q b c d e B G ∧ q < hi ∧ b < hi ∧ d < hi
  low : lo ≤ mi
  mid : mi ≤ hi
  size : hi ≤ w.heap.size
variable {w : World} {lo mi hi p q : Nat} {G M B : List UInt8}
/-- Nothing of them changes. -/
theorem Pair.keep {w' : World} {F : Nat → Prop} (h : Pair w lo mi hi p q G M B) (k : Keeps F w w') (hF : ∀ i, lo ≤ i → i < hi → ¬ F i) : Pair w' lo mi hi p q G M B := by
  obtain ⟨gb, mb, hm, h1, h2, h0, h3, h4, h5⟩ := h.mem
  obtain ⟨b, c, d, e, hr, r1, r2, r3⟩ := h.ref
  have l := h.low
  have m := h.mid
  have q0 := hr.q0
  have q1 := hr.now.lt'.1
  have q2 := hr.was.lt'.1
  exact ⟨⟨gb, mb, hm.keep k (hF _ h1 (by omega)) (hF _ h0 (by omega)) (hF _ h2 (by omega)), h1, h2, h0, h3, h4, h5⟩, ⟨b, c, d, e, hr.keep3 k (hF _ (by omega) r1) (hF _ (by omega) r2) (hF _ (by omega) r3), r1, r2, r3⟩, l, m, Nat.le_trans h.size k.size⟩
/-- A higher bound. -/
theorem Pair.more {hi' : Nat} (h : Pair w lo mi hi p q G M B) (h1 : hi ≤ hi') (h2 : hi' ≤ w.heap.size) : Pair w lo mi hi' p q G M B := by
  obtain ⟨b, c, d, e, hr, r1, r2, r3⟩ := h.ref
  exact ⟨h.mem, ⟨b, c, d, e, hr, by omega, by omega, by omega⟩, h.low, Nat.le_trans h.mid h1, h2⟩
def OutP (w : World) (lo mi hi hi' p q : Nat) (G M B : List UInt8) (v : Value) (e : Ending) (w' : World) : Prop := e = .returned v ∧ Pair w' lo mi hi' p q G M B ∧ Keeps (fun i => lo ≤ i ∧ i < hi) w w'
/-- A call of the code's. -/
theorem Pair.code {f : FuncId} {args : Array Value} {M' : List UInt8} {v : Value} (h : Pair w lo mi hi p q G M B) (hc : ∀ gb mb, MemAt w p gb mb G M → p < hi → lo ≤ p → lo ≤ mb → mb < hi → Calls Try.prog f args w (OutM w p gb mb G M' v)) : Calls Try.prog f args w (OutP w lo mi hi hi p q G M' B v) := by
  obtain ⟨gb, mb, hm, h1, h2, h0, h3, h4, h5⟩ := h.mem
  obtain ⟨b, c, d, e, hr, r1, r2, r3⟩ := h.ref
  have l := h.low
  have m := h.mid
  have q0 := hr.q0
  have q1 := hr.now.lt'.1
  have q2 := hr.was.lt'.1
  refine (hc gb mb hm (by omega) h1 h2 (by omega)).mono ?_
  rintro e w' ⟨rfl, hm', k⟩
  exact ⟨rfl, ⟨⟨gb, mb, hm', h1, h2, h0, h3, h4, h5⟩, ⟨b, c, d, _, hr.keep3 k (by omega) (by omega) (by omega), r1, r2, r3⟩, l, m, Nat.le_trans h.size k.size⟩, k.mono fun i _ hi => by omega⟩
/-- A call of the document's. -/
theorem Pair.doc {f : FuncId} {args : Array Value} {B' : List UInt8} {v : Value} (h : Pair w lo mi hi p q G M B) (hc : ∀ b c d e, RefH w mi q b c d e B G → b < hi → mi ≤ b → mi ≤ w.heap.size → Calls Try.prog f args w (OutR w mi q b B' G v)) :
    Calls Try.prog f args w fun e w' => e = .returned v ∧ Pair w' lo mi w'.heap.size p q G M B' ∧ Keeps (fun i => lo ≤ i ∧ i < hi) w w' := by
  obtain ⟨gb, mb, hm, h1, h2, h0, h3, h4, h5⟩ := h.mem
  obtain ⟨b, c, d, e, hr, r1, r2, r3⟩ := h.ref
  have l := h.low
  have m := h.mid
  have q0 := hr.q0
  have q1 := hr.now.lt'.1
  have sz := h.size
  refine (hc b c d e hr r2 q1 (by omega)).mono ?_
  rintro e w' ⟨rfl, ⟨b', c', d', e', hr'⟩, k⟩
  have s := k.size
  exact ⟨rfl, ⟨⟨gb, mb, hm.keep k (by omega) (by omega) (by omega), h1, h2, h0, h3, h4, h5⟩, ⟨b', c', d', e', hr', hr'.lt⟩, l, by omega, Nat.le_refl _⟩, k.mono fun i _ hi => by omega⟩
/-- One that only reads. -/
theorem Pair.docr {f : FuncId} {args : Array Value} {v : Value} (h : Pair w lo mi hi p q G M B) (hc : ∀ b c d e, RefH w mi q b c d e B G → Calls Try.prog f args w fun e w' => e = .returned v ∧ w = w') : Calls Try.prog f args w fun e w' => e = .returned v ∧ w = w' := by
  obtain ⟨b, c, d, e, hr, _⟩ := h.ref
  exact hc b c d e hr
/-- Both Flats of the same bytes. -/
theorem Pair.start {w1 w2 w3 : World} {L : Nat} {xs : List UInt8} {p gb mb q : Nat} (hL : L ≤ w1.heap.size) (p1 : w1.heap.size ≤ p) (p2 : w1.heap.size ≤ gb) (p3 : w1.heap.size ≤ mb) (hm : MemAt w2 p gb mb (fillL xs) (fillL xs)) (k2 : Keeps (fun _ => False) w1 w2)
    (hr : MRefAt w3 w2.heap.size q (fillL xs) (fillL xs)) (k3 : Keeps (fun _ => False) w2 w3) : Pair w3 L w2.heap.size w3.heap.size p q (fillL xs) (fillL xs) (fillL xs) := by
  obtain ⟨l1, l2, l3⟩ := hm.lt
  obtain ⟨b, c, d, e, hr⟩ := hr
  exact ⟨⟨gb, mb, hm.keep k3 (fun h => h) (fun h => h) (fun h => h), by omega, by omega, by omega, l1, l2, l3⟩, ⟨b, c, d, e, hr, hr.lt⟩, Nat.le_trans hL k2.size, k3.size, Nat.le_refl _⟩
theorem own_keeps {w w' : World} {L : Nat} {t : TypeId} {R : Option Addr} {cap : Nat} {zs : List UInt8} (h : Own8 w L t R cap zs) {F : Nat → Prop} (k : Keeps F w w') (hF : ∀ i, L ≤ i → i < w.heap.size → ¬ F i) : Own8 w' L t R cap zs := by
  refine ⟨h.1, h.2.imp id ?_⟩
  rintro ⟨g, cap', cur, hv, hb, hgg, rest⟩
  have hlt := (Array.getElem?_eq_some_iff.1 hgg).1
  exact ⟨g, cap', cur, hv, hb, (k.block g hlt (hF g hb hlt)).trans hgg, rest⟩
theorem Below.and {L : Nat} {w u u' : World} {F : Nat → Prop} (hb : Below L w u) (k : Keeps F u u') (hF : ∀ i, F i → L ≤ i) (hL : L ≤ w.heap.size) : Below L w u' := hb.trans (k.toBelow L (Nat.le_trans hL hb.size) hF)
end Go.Proofs.Ythmlhjjcihibnaa.Mm
