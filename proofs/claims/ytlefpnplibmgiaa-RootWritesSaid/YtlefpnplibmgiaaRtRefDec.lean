/-
  The contract of the document's Decode.
-/
import Derived.Test.YtlefpnplibmgiaaRtRefEnc
import Derived.Test.YtlefpnplibmgiaaRtPlain
import Derived.Test.YtlefpnplibmgiaaKeeps
import Derived.Test.YtlefpnplibmgiaaTail
import Derived.Test.YtlefpnplibmgiaaSame
import Derived.Test.YtlefpnplibmgiaaApp
import Derived.Maps.AppendAt
namespace Go.Proofs.Ytlefpnplibmgiaa
open Go.RowKit

def snCells (s : Sn) : List Value := [.int .u64 (s.g : Int), .int .i64 s.t]
/-- The checkpoints in a row of the call's own. -/
def OwnS (w : World) (B : Nat) (R : Option Addr) (cap : Nat) (l : List Sn) : Prop := w.ownsRow B 50 2 (.slice R l.length cap) l.length (l.flatMap snCells)
theorem flatS_at (l : List Sn) : ∀ (k : Nat) (s : Sn), l[k]? = some s → (l.flatMap snCells)[k * 2]? = some (.int .u64 (s.g : Int)) ∧ (l.flatMap snCells)[k * 2 + 1]? = some (.int .i64 s.t) := by
  induction l with
  | nil => intro k s h; simp at h
  | cons x r ih =>
    intro k s h
    cases k with
    | zero => simp at h; subst h; exact ⟨rfl, rfl⟩
    | succ k =>
      rw [List.flatMap_cons]
      have := ih k s (by simpa using h)
      have hl : (snCells x).length = 2 := rfl
      rw [List.getElem?_append_right (by rw [hl]; omega), List.getElem?_append_right (by rw [hl]; omega), hl, show (k + 1) * 2 - 2 = k * 2 from by omega, show (k + 1) * 2 + 1 - 2 = k * 2 + 1 from by omega]
      exact this
theorem OwnS.sr {w : World} {B : Nat} {R : Option Addr} {cap : Nat} {l : List Sn} (h : OwnS w B R cap l) : SR w w.heap.size R l := by
  intro hn
  have h0 : 0 < l.length := List.length_pos_iff.2 hn
  obtain ⟨g, c, hv, hb, hlt⟩ := World.ownsRow.form h (by omega)
  injection hv with e1 _ e3
  subst e1
  refine ⟨_, rfl, hlt, fun k s hs => ?_⟩
  obtain ⟨f0, f1⟩ := flatS_at l k s hs
  have c0 := World.ownsRow.cells h (g := g) rfl _ _ f0
  have c1 := World.ownsRow.cells h (g := g) rfl _ _ f1
  have e0 : (⟨g, 0, none⟩ : Addr).add (k * 2) = ⟨g, k * 2, none⟩ := by unfold Addr.add; split <;> simp_all
  have e1 : (⟨g, 0, none⟩ : Addr).add (k * 2 + 1) = ⟨g, k * 2 + 1, none⟩ := by unfold Addr.add; split <;> simp_all
  refine ⟨c0, ?_⟩
  rw [e0]
  rw [e1] at c1
  exact c1
theorem Try.info50 : (Try.prog.info? 50).map (fun i => (i.zero, i.size, i.bytes)) = some (some (.agg #[.int .u64 0, .int .i64 0]), 2, 16) := by kernel_rfl
theorem bslice50 (w : World) (g : Nat) (t : Int) :
    (Instr.buildSlice 23 1 #[(0, .agg #[.int .u64 (g : Int), .int .i64 t])]).run Try.prog w = .ok (.slice (some ⟨w.heap.size, 0, none⟩) 1 1) (w.alloc (.cells #[.int .u64 (g : Int), .int .i64 t] 50)) := by kernel_rfl
theorem load23 {w : World} {b o : Nat} {v : Value} (h : w.cell? ⟨b, o, none⟩ = some v) : (Instr.loadAt 23 (.pointer (some ⟨b, o, none⟩))).run Try.prog w = .ok v w := by
  have hagg : (isAgg 23).run Try.prog w = .ok false w := by unfold isAgg; rw [Sem.run_bind, run_underlying Try.underlying23 w]; rfl
  simp [Instr.loadAt, Instr.sureAddr, loadVar, hagg, h]
/-- One checkpoint more. -/
theorem OwnS.app {w : World} {B : Nat} {R : Option Addr} {cap : Nat} {l : List Sn} (h : OwnS w B R cap l) (hB : B ≤ w.heap.size) (hl : l.length ≤ 1000) (s : Sn) (ad : Addr) (c : Nat) (ty : TypeId)
    (h0 : w.cell? (ad.add 0) = some (.int .u64 (s.g : Int))) (h1 : w.cell? (ad.add 1) = some (.int .i64 s.t)) :
    ∃ R' cap' w', (Builtin.append_ #[23, 23] ty #[.slice R l.length cap, .slice (some ad) 1 c]).run Try.prog w = .ok (.slice R' (l.length + 1) cap') w' ∧ OwnS w' B R' cap' (l ++ [s]) ∧ w.grownBy w' (Value.ownBlock (.slice R l.length cap)) := by
  obtain ⟨i0, hi, hz0, hz1, hz2⟩ := info_parts Try.info50
  obtain ⟨v', w', hrun, hown, hg, _, _⟩ := run_append_own_at (P := Try.prog) w B 23 ty 50 i0 _ 2 16 Try.underlying23 hi hz0 hz1 hz2 rfl (by decide) _ l.length _ h ad 1 c (snCells s) rfl (fun j u hu => by
    match j, hu with
    | 0, hu => cases hu; exact h0
    | 1, hu => cases hu; exact h1
    | j + 2, hu => simp [snCells] at hu) (by intro u hu; simp [snCells] at hu; rcases hu with rfl | rfl <;> rfl) (by unfold maxLen; omega) (by omega) hB
  obtain ⟨g, cap', rfl, _, _⟩ := World.ownsRow.form hown (by omega)
  refine ⟨_, cap', w', hrun, ?_, hg⟩
  unfold OwnS
  rw [List.flatMap_append, List.length_append]
  exact hown
theorem refNum64 (A : Option Addr) (xs : List UInt8) (c : Nat) (a s : Int) (k q : Nat) (w : World) (hx : BR w w.heap.size A xs) (h64 : xs.length = 64) (ha : 0 ≤ a) (ha' : a ≤ 1000) (hk : (clamp s 8).toNat = k) (hq : num xs a k = q) :
    Calls Try.prog 29 #[.slice A 64 c, .int .i64 a, .int .i64 s] w fun e w' => e = .returned (.int .u64 (q : Int)) ∧ w = w' := by
  subst hq hk
  have h := refNum_any A xs c a s w hx (by omega) (by omega) (by omega)
  rwa [h64] at h

/-- What Decode hands back. -/
def decG (b : List UInt8) : Nat := if decB b = true then genOf b else 0
def decS (b : List UInt8) : List Sn := if decB b = true then rdL b (manyOf b) else []
def decE (b : List UInt8) : Int := if decB b = true then 0 else 30
def GivesDec (w : World) (b : List UInt8) (e : Ending) (w' : World) : Prop :=
  ∃ R c, e = .returned (.tuple #[agR (decG b) R (decS b).length c, .int .i64 (decE b)]) ∧ SR w' w'.heap.size R (decS b) ∧ Below w.heap.size w w' ∧ ∀ ad, R = some ad → w.heap.size ≤ ad.block
theorem givesDec_no {w w' : World} {b : List UInt8} (h : decB b = false) (hb : Below w.heap.size w w') : GivesDec w b (.returned (.tuple #[.agg #[.int .u64 0, .slice none 0 0], .int .i64 30])) w' := by
  have e1 : decG b = 0 := by simp [decG, h]
  have e2 : decS b = [] := by simp [decS, h]
  have e3 : decE b = 30 := by simp [decE, h]
  exact ⟨none, 0, by rw [e1, e2, e3]; rfl, by rw [e2]; exact SR.nil, hb, fun ad e => by cases e⟩
theorem givesDec_yes {w w' : World} {b : List UInt8} {R : Option Addr} {c n : Nat} (h : decB b = true) (hn : (rdL b (manyOf b)).length = n) (hs : SR w' w'.heap.size R (rdL b (manyOf b))) (hb : Below w.heap.size w w') (hR : ∀ ad, R = some ad → w.heap.size ≤ ad.block) : GivesDec w b (.returned (.tuple #[.agg #[.int .u64 (genOf b : Int), .slice R n c], .int .i64 0])) w' := by
  subst hn
  have e1 : decG b = genOf b := by simp [decG, h]
  have e2 : decS b = rdL b (manyOf b) := by simp [decS, h]
  have e3 : decE b = 0 := by simp [decE, h]
  exact ⟨R, c, by rw [e1, e2, e3], by rw [e2]; exact hs, hb, hR⟩
theorem decB_len {b : List UInt8} (h : b.length ≠ 64) : decB b = false := by simp [decB, h]
theorem decB_many {b : List UInt8} (h : 4 < manyOf b) : decB b = false := by
  have : decide (manyOf b ≤ 4) = false := by simp; omega
  simp only [decB, this, Bool.and_false, Bool.false_and]
theorem manyOf_lt (b : List UInt8) : manyOf b < 65536 := num_lt b 12 2

set_option maxHeartbeats 400000 in
theorem refDec_len (A : Option Addr) (xs : List UInt8) (c : Nat) (w : World) (hn : xs.length ≠ 64) :
    Calls Try.prog 14 #[.slice A xs.length c] w (GivesDec w xs) := by
  have h1 : ((xs.length : Int) != 64) = true := by simp; omega
  have HD := Lib.hid (decB_len hn)
  clear hn
  go_enter Try.func14, Try.ntmps14
  go_wp2
  exact bodyPost_ret (v := .tuple #[.agg #[.int .u64 0, .slice none 0 0], .int .i64 30]) (by simp [results, Try.results14, go_sem]) rfl (givesDec_no HD.out ((Below.refl _ _).alloc (Nat.le_refl _) _))

set_option maxHeartbeats 400000 in
theorem refDec_many (A : Option Addr) (xs : List UInt8) (c : Nat) (w : World) (hx : BR w w.heap.size A xs) (h64 : xs.length = 64) (h4 : 4 < manyOf xs) :
    Calls Try.prog 14 #[.slice A 64 c] w (GivesDec w xs) := by
  have HD := Lib.hid (decB_many h4)
  have hm := manyOf_lt xs
  have hg : genOf xs < 18446744073709551616 := num_lt xs 4 8
  generalize hme : manyOf xs = m at h4 hm
  generalize hge : genOf xs = gn at hg
  have HM := Lib.hid hme
  have HG := Lib.hid hge
  have H64 := Lib.hid h64
  clear hme hge h64
  go_enter Try.func14, Try.ntmps14
  go_wp2_with fail
  refine (refNum64 _ _ _ _ _ 8 gn _ ((hx.alloc (Nat.le_refl _) _).more (by simp)) H64.out (by decide) (by decide) rfl HG.out).mono ?_
  rintro e w1 ⟨rfl, rfl⟩
  go_wp2_with fail
  refine (refNum64 _ _ _ _ _ 2 m _ (((hx.alloc (Nat.le_refl _) _).alloc (by simp) _).more (by simp; omega)) H64.out (by decide) (by decide) rfl HM.out).mono ?_
  rintro e w1 ⟨rfl, rfl⟩
  go_wp2
  exact bodyPost_ret (v := .tuple #[.agg #[.int .u64 0, .slice none 0 0], .int .i64 30]) (by simp [results, Try.results14, go_sem]) rfl (givesDec_no HD.out (((Below.refl _ _).alloc (Nat.le_refl _) _).alloc (by simp) _))
/-- What the loop of Decode keeps. -/
structure DecInv (w wr : World) (g : Nat) (R : Option Addr) (cap : Nat) (l : List Sn) : Prop where
  res : wr.heap[w.heap.size]? = some (.cells #[.int .u64 0, .slice none 0 0] 25 (0, 0))
  var : wr.heap[w.heap.size + 1]? = some (.cells #[.int .u64 (g : Int), .slice R l.length cap] 25 (0, 0))
  own : OwnS wr (w.heap.size + 2) R cap l
  bel : Below w.heap.size w wr
theorem DecInv.lt {w wr : World} {g : Nat} {R : Option Addr} {cap : Nat} {l : List Sn} (h : DecInv w wr g R cap l) : w.heap.size + 1 < wr.heap.size := (Array.getElem?_eq_some_iff.1 h.var).1
theorem DecInv.drew {w wr : World} {g : Nat} {R : Option Addr} {cap : Nat} {l : List Sn} (h : DecInv w wr g R cap l) : DecInv w wr.drew g R cap l :=
  ⟨h.res, h.var, h.own, ⟨h.bel.os, h.bel.tape, h.bel.output, h.bel.size, h.bel.block⟩⟩
/-- A checkpoint was laid into the row, and the row into the root. -/
theorem DecInv.step {w wr w2 : World} {g : Nat} {R R' : Option Addr} {cap cap' n : Nat} {l : List Sn} {s : Sn} (h : DecInv w wr g R cap l) (hg : wr.grownBy w2 (Value.ownBlock (.slice R l.length cap))) (ho : OwnS w2 (w.heap.size + 2) R' cap' (l ++ [s])) (hn : n = l.length + 1) :
    DecInv w (w2.setCell ⟨w.heap.size + 1, 1, none⟩ (.slice R' n cap')) g R' cap' (l ++ [s]) := by
  subst hn
  have hlt := h.lt
  have apart : ∀ k, k ≤ w.heap.size + 1 → Value.ownBlock (.slice R l.length cap) ≠ some k := fun k hk e => by
    have := (World.ownsRow.lt h.own k e).1
    omega
  have b0 : ∀ k, k ≤ w.heap.size + 1 → w2.heap[k]? = wr.heap[k]? := fun k hk => hg.block k (by omega) fun e => apart k hk e.symm
  have hl : (l ++ [s]).length = l.length + 1 := by simp
  refine ⟨?_, ?_, ?_, ?_⟩
  · rw [Below.heap_setCell _ _ _ _ (by simp), b0 _ (by omega)]; exact h.res
  · rw [heap_setCell_same _ _ _ _ _ _ ((b0 _ (Nat.le_refl _)).trans h.var), hl]; rfl
  · refine World.ownsRow.kept (row := some (w.heap.size + 1)) ho ⟨rfl, rfl, rfl, by simp [World.setCell], fun i _ hi => Below.heap_setCell _ _ _ _ fun e => hi (by rw [e])⟩ ?_
    right
    intro e
    have := (World.ownsRow.lt ho _ e).1
    omega
  · refine h.bel.trans (Below.trans (b := w2) ⟨hg.os, hg.tape, hg.output, hg.size, fun k hk => b0 k (by omega)⟩ ⟨rfl, rfl, rfl, by simp [World.setCell], fun k hk => Below.heap_setCell _ _ _ _ (by simp; omega)⟩)
theorem DecInv.alloc {w wr : World} {g : Nat} {R : Option Addr} {cap : Nat} {l : List Sn} (h : DecInv w wr g R cap l) (o : Obj) : DecInv w (wr.alloc o) g R cap l :=
  ⟨(Below.heap_alloc _ _ _ (by have := h.lt; omega)).trans h.res, (Below.heap_alloc _ _ _ h.lt).trans h.var, World.ownsRow.alloc h.own _, h.bel.alloc h.bel.size _⟩
theorem DecInv.below {w wr w2 : World} {g : Nat} {R : Option Addr} {cap : Nat} {l : List Sn} (h : DecInv w wr g R cap l) (hb : Below wr.heap.size wr w2) : DecInv w w2 g R cap l :=
  ⟨(hb.block _ (by have := h.lt; omega)).trans h.res, (hb.block _ h.lt).trans h.var, World.ownsRow.kept (row := none) h.own ⟨hb.os, hb.tape, hb.output, hb.size, fun k hk _ => hb.block k hk⟩ (by
    cases e : Value.ownBlock (.slice R l.length cap) with
    | none => exact .inl rfl
    | some k => exact .inr (by simp)), h.bel.trans (hb.mono h.bel.size)⟩
theorem DecInv.cells {w wr w2 : World} {g : Nat} {R : Option Addr} {cap : Nat} {l : List Sn} (h : DecInv w wr g R cap l) (hg : wr.grownBy w2 (Value.ownBlock (.slice R l.length cap))) :
    w2.cell? ⟨w.heap.size + 1, 1, none⟩ = some (.slice R l.length cap) ∧ w2.frozen? ⟨w.heap.size + 1, 1, none⟩ = false := by
  have e : w2.heap[w.heap.size + 1]? = wr.heap[w.heap.size + 1]? := hg.block _ h.lt fun e => by
    have := (World.ownsRow.lt h.own _ e.symm).1
    omega
  have e2 := e.trans h.var
  exact ⟨by rw [cell_of_row _ _ _ _ _ _ e2]; rfl, frozen_of_row _ _ _ _ _ e2⟩
/-- The result laid. -/
theorem DecInv.out {w wr : World} {g : Nat} {R : Option Addr} {cap : Nat} {l : List Sn} (h : DecInv w wr g R cap l) (u v : Value) :
    SR ((wr.setCell ⟨w.heap.size, 0, none⟩ u).setCell ⟨w.heap.size, 1, none⟩ v) ((wr.setCell ⟨w.heap.size, 0, none⟩ u).setCell ⟨w.heap.size, 1, none⟩ v).heap.size R l ∧ Below w.heap.size w ((wr.setCell ⟨w.heap.size, 0, none⟩ u).setCell ⟨w.heap.size, 1, none⟩ v) := by
  have k1 : Keeps (fun k => k = w.heap.size) wr ((wr.setCell ⟨w.heap.size, 0, none⟩ u).setCell ⟨w.heap.size, 1, none⟩ v) := (Keeps.setCell (fun k => k = w.heap.size) _ _ _ rfl).trans (Keeps.setCell (fun k => k = w.heap.size) _ _ _ rfl)
  refine ⟨OwnS.sr (B := w.heap.size + 2) (cap := cap) (World.ownsRow.kept (row := some w.heap.size) h.own ⟨k1.os, k1.tape, k1.output, k1.size, fun k hk hn => k1.block k hk fun e => hn (by rw [e])⟩ ?_), h.bel.trans (k1.toBelow _ h.bel.size (fun k e => by omega))⟩
  right
  intro e
  have := (World.ownsRow.lt h.own _ e).1
  omega
theorem same_is (b : Bool) (A : Option Addr) (xs : List UInt8) (c : Nat) (A' : Option Addr) (ys : List UInt8) (c' : Nat) (w : World) (hx : BR w w.heap.size A xs) (hy : BR w w.heap.size A' ys) (hn : xs.length = 64) (hn' : ys.length = 64) (hb : decide (xs = ys) = b) :
    Calls Try.prog 12 #[.slice A 64 c, .slice A' 64 c'] w fun e w' => e = .returned (.bool b) ∧ w = w' := by
  subst hb
  exact same_len A xs c 64 A' ys c' 64 w hx hy hn hn'
theorem refEnc_fail (g : Nat) (A : Option Addr) (l : List Sn) (c n : Nat) (w : World) (hx : SR w w.heap.size A l) (hl : l.length ≤ 9223372036854775807) (hn : l.length = n) (hm : mayB g l = false) :
    Calls Try.prog 11 #[agR g A n c] w fun e w' => ∃ R c', e = .returned (.tuple #[.slice R 0 c', .int .i64 1]) ∧ Below w.heap.size w w' := by
  subst hn
  refine (refEnc_any g A l c w hx hl).mono ?_
  rintro e w' ⟨R, c', rfl, _, hb, _⟩
  have e1 : encOut g l = [] := by simp [encOut, hm]
  have e2 : encErr g l = 1 := by simp [encErr, hm]
  exact ⟨R, c', by rw [e1, e2]; rfl, hb⟩
theorem refEnc_good (g : Nat) (A : Option Addr) (l : List Sn) (c n : Nat) (w : World) (hx : SR w w.heap.size A l) (hl : l.length ≤ 9223372036854775807) (hn : l.length = n) (hm : mayB g l = true) :
    Calls Try.prog 11 #[agR g A n c] w fun e w' => ∃ R c', e = .returned (.tuple #[.slice R 64 c', .int .i64 0]) ∧ BR w' w'.heap.size R (encL g l) ∧ Below w.heap.size w w' := by
  subst hn
  refine (refEnc_any g A l c w hx hl).mono ?_
  rintro e w' ⟨R, c', rfl, hr, hb, _⟩
  have e1 : encOut g l = encL g l := by simp [encOut, hm]
  have e2 : encErr g l = 0 := by simp [encErr, hm]
  rw [e1] at hr
  exact ⟨R, c', by rw [e1, e2, encL_len], hr, hb⟩
theorem decB_main {b : List UInt8} (h64 : b.length = 64) (h4 : manyOf b ≤ 4) : decB b = (mayB (genOf b) (rdL b (manyOf b)) && decide (encL (genOf b) (rdL b (manyOf b)) = b)) := by
  simp only [decB, decide_eq_true h64, decide_eq_true h4, Bool.true_and]
theorem rdL_succ (b : List UInt8) (k : Nat) : rdL b (k + 1) = rdL b k ++ [rdSn b k] := by simp [rdL, List.range_succ]

set_option maxHeartbeats 1000000 in
theorem refDec_main (A : Option Addr) (xs : List UInt8) (c : Nat) (w : World) (hx : BR w w.heap.size A xs) (h64 : xs.length = 64) (h4 : manyOf xs ≤ 4) :
    Calls Try.prog 14 #[.slice A 64 c] w (GivesDec w xs) := by
  have hg : genOf xs < 18446744073709551616 := num_lt xs 4 8
  generalize hme : manyOf xs = m at h4
  generalize hge : genOf xs = gn at hg
  have HM := Lib.hid hme
  have HG := Lib.hid hge
  have H64 := Lib.hid h64
  clear hme hge h64
  go_enter Try.func14, Try.ntmps14
  go_wp2_with fail
  refine (refNum64 _ _ _ _ _ 8 gn _ ((hx.alloc (Nat.le_refl _) _).more (by simp)) H64.out (by decide) (by decide) rfl HG.out).mono ?_
  rintro e w1 ⟨rfl, rfl⟩
  go_wp2_with fail
  refine (refNum64 _ _ _ _ _ 2 m _ (((hx.alloc (Nat.le_refl _) _).alloc (by simp) _).more (by simp; omega)) H64.out (by decide) (by decide) rfl HM.out).mono ?_
  rintro e w1 ⟨rfl, rfl⟩
  have hm4 : ¬ (4 : Int) < (m : Int) := by omega
  go_wp2_with fail
  clear hm4
  go_loopw [6] (fun i wr => ∃ k : Nat, ∃ R cap, k ≤ m ∧ i = .int .i64 k ∧ DecInv w wr gn R cap (rdL xs k)) (fun i _ => m - (intOf i).toNat)
  case atStart =>
    refine ⟨0, none, 0, by omega, rfl, ?_, ?_, ?_, ?_⟩
    · rw [Below.heap_alloc _ _ _ (by simp)]; exact heap_alloc_new _ _
    · exact blk_at_last _ _ _ (by simp)
    · exact World.ownsRow_nil _ _ _ _
    · exact ((Below.refl _ _).alloc (Nat.le_refl _) _).alloc (by simp) _
  case round =>
    obtain ⟨k, R, cap, hk, rfl, inv⟩ := hrel
    by_cases hlt : k < m
    · go_wp2_with fail
      refine wp_region_any (by kernel_rfl) ?_
      change wpAny _ _ _ _ _ _ _ (World.drew wr)
      have inv0 := inv.drew
      clear inv
      generalize wr.drew = w0 at *
      have hx0 : BR w0 w0.heap.size A xs := (hx.below inv0.bel).more inv0.bel.size
      have n1 := num_lt xs (14 + 10 * k) 8
      have n2 := num_lt xs (22 + 10 * k) 2
      have hse : rdSn xs k = ⟨num xs (14 + 10 * k) 8, (num xs (22 + 10 * k) 2 : Nat)⟩ := rfl
      generalize hq1 : num xs (14 + 10 * k) 8 = q1 at n1 hse
      generalize hq2 : num xs (22 + 10 * k) 2 = q2 at n2 hse
      have HQ1 := Lib.hid hq1
      have HQ2 := Lib.hid hq2
      have HSE := Lib.hid hse
      clear hq1 hq2 hse
      have c1 : w0.cell? ⟨w.heap.size + 1, 1, none⟩ = some (.slice R (rdL xs k).length cap) := by rw [cell_of_row _ _ _ _ _ _ inv0.var]; rfl
      have hl0 := load23 c1
      have hl1 : (Instr.loadAt 23 (.pointer (some ⟨w.heap.size + 1, 1, none⟩))).run Try.prog (w0.alloc (.cells #[.int .u64 (q1 : Int), .int .i64 (q2 : Int)] 50)) = .ok (.slice R (rdL xs k).length cap) (w0.alloc (.cells #[.int .u64 (q1 : Int), .int .i64 (q2 : Int)] 50)) :=
        load23 ((World.cell?_alloc_past _ _ _ inv0.lt).trans c1)
      refine wpAny_take (oi := ⟨_, _, _, _, _, _⟩) (i := 0) (v := .pointer (some ⟨w.heap.size + 1, 1, none⟩)) rfl (by kernel_rfl) (by kernel_rfl) (by kernel_rfl) (fun _ _ _ h => h) (Or.inl ⟨by rfl, fun w => by go_simp⟩) ?_
      refine wpAny_take (oi := ⟨_, _, _, _, _, _⟩) (i := 2) (v := .slice A 64 c) rfl (by kernel_rfl) (by kernel_rfl) (by kernel_rfl) (fun _ _ _ h => h) (Or.inl ⟨by rfl, fun _ => rfl⟩) ?_
      refine wpAny_take (oi := ⟨_, _, _, _, _, _⟩) (i := 3) (v := .int .i64 (k : Int)) rfl (by kernel_rfl) (by kernel_rfl) (by kernel_rfl) (fun _ _ _ h => h) (Or.inl ⟨by rfl, fun _ => rfl⟩) ?_
      refine wpAny_take (oi := ⟨_, _, _, _, _, _⟩) (i := 4) (v := .int .i64 (10 * (k : Int))) rfl (by kernel_rfl) (by kernel_rfl) (by kernel_rfl) (fun _ _ _ h => h) (Or.inl ⟨by rfl, fun w => by go_simp; exact IntWalk.i64_in _ (by omega)⟩) ?_
      refine wpAny_take (oi := ⟨_, _, _, _, _, _⟩) (i := 5) (v := .int .i64 (14 + 10 * (k : Int))) rfl (by kernel_rfl) (by kernel_rfl) (by kernel_rfl) (fun _ _ _ h => h) (Or.inl ⟨by rfl, fun w => by go_simp; exact IntWalk.i64_in _ (by omega)⟩) ?_
      refine wpAny_take (oi := ⟨_, _, _, _, _, _⟩) (i := 7) (v := .slice A 64 c) rfl (by kernel_rfl) (by kernel_rfl) (by kernel_rfl) (fun _ _ _ h => h) (Or.inl ⟨by rfl, fun _ => rfl⟩) ?_
      refine wpAny_take (oi := ⟨_, _, _, _, _, _⟩) (i := 8) (v := .int .i64 (k : Int)) rfl (by kernel_rfl) (by kernel_rfl) (by kernel_rfl) (fun _ _ _ h => h) (Or.inl ⟨by rfl, fun _ => rfl⟩) ?_
      refine wpAny_take (oi := ⟨_, _, _, _, _, _⟩) (i := 9) (v := .int .i64 (10 * (k : Int))) rfl (by kernel_rfl) (by kernel_rfl) (by kernel_rfl) (fun _ _ _ h => h) (Or.inl ⟨by rfl, fun w => by go_simp; exact IntWalk.i64_in _ (by omega)⟩) ?_
      refine wpAny_take (oi := ⟨_, _, _, _, _, _⟩) (i := 10) (v := .int .i64 (22 + 10 * (k : Int))) rfl (by kernel_rfl) (by kernel_rfl) (by kernel_rfl) (fun _ _ _ h => h) (Or.inl ⟨by rfl, fun w => by go_simp; exact IntWalk.i64_in _ (by omega)⟩) ?_
      simp only [Act.put, List.setIfInBounds_toArray, List.set_cons_zero, List.set_cons_succ]
      refine Late.any (oi := ⟨_, _, _, _, _, _⟩) (i := 1) (v := .slice R (rdL xs k).length cap) rfl ?_
      refine Late.call 6 ⟨_, _, _, _, _, _⟩ (.int .u64 (q1 : Int)) 29 #[.slice A 64 c, .int .i64 (14 + 10 * (k : Int)), .int .i64 8] rfl (by kernel_rfl) (yields_load rfl 23 (.tmp 27) rfl _ _ rfl hl0) rfl (by go_simp) (refNum64 _ _ _ _ _ 8 q1 _ hx0 H64.out (by omega) (by omega) rfl HQ1.out) ?_
      simp only [Act.put, List.setIfInBounds_toArray, List.set_cons_zero, List.set_cons_succ]
      refine Late.call 11 ⟨_, _, _, _, _, _⟩ (.int .u64 (q2 : Int)) 29 #[.slice A 64 c, .int .i64 (22 + 10 * (k : Int)), .int .i64 2] rfl (by kernel_rfl) (yields_load rfl 23 (.tmp 27) rfl _ _ rfl hl0) rfl (by go_simp) (refNum64 _ _ _ _ _ 2 q2 _ hx0 H64.out (by omega) (by omega) rfl HQ2.out) ?_
      simp only [Act.put, List.setIfInBounds_toArray, List.set_cons_zero, List.set_cons_succ]
      have hcv : IntKind.i64.wrap (q2 : Int) = (q2 : Int) := IntWalk.i64_in _ (by omega)
      refine Late.step (w' := w0) 12 ⟨_, _, _, _, _, _⟩ (.int .i64 (q2 : Int)) rfl (by kernel_rfl) (yields_load rfl 23 (.tmp 27) rfl _ _ rfl hl0) rfl (by go_simp) ?_
      simp only [Act.put, List.setIfInBounds_toArray, List.set_cons_zero, List.set_cons_succ]
      refine Late.step (w' := w0) 13 ⟨_, _, _, _, _, _⟩ (.agg #[.int .u64 (q1 : Int), .int .i64 (q2 : Int)]) rfl (by kernel_rfl) (yields_load rfl 23 (.tmp 27) rfl _ _ rfl hl0) rfl (by go_simp) ?_
      simp only [Act.put, List.setIfInBounds_toArray, List.set_cons_zero, List.set_cons_succ]
      refine Late.step 14 ⟨_, _, _, _, _, _⟩ _ rfl (by kernel_rfl) (yields_load rfl 23 (.tmp 27) rfl _ _ rfl hl0) rfl (ex_buildSlice 23 (.tmp 40) rfl _ _ rfl (bslice50 w0 q1 q2)) ?_
      simp only [Act.put, List.setIfInBounds_toArray, List.set_cons_zero, List.set_cons_succ]
      refine Late.done (by kernel_rfl) (yields_load rfl 23 (.tmp 27) rfl _ _ rfl hl1) ?_
      refine wpAny_of_chain [15, 16, 17] [_, _, _] _ _ _ rfl (by kernel_rfl) ?_
      clear hl0 hl1 hcv
      simp only [Act.put, List.setIfInBounds_toArray, List.set_cons_zero, List.set_cons_succ]
      have inv1 := inv0.alloc (.cells #[.int .u64 (q1 : Int), .int .i64 (q2 : Int)] 50)
      have en := heap_alloc_new w0 (.cells #[.int .u64 (q1 : Int), .int .i64 (q2 : Int)] 50)
      obtain ⟨R', cap', w2, hrun, hown, hgr⟩ := OwnS.app inv1.own (by have := inv1.lt; omega) (by rw [rdL_len]; omega) ⟨q1, (q2 : Int)⟩ ⟨w0.heap.size, 0, none⟩ 1 23 (by show World.cell? _ ⟨w0.heap.size, 0, none⟩ = _; rw [cell_of_row _ _ _ _ _ _ en]; rfl) (by show World.cell? _ ⟨w0.heap.size, 1, none⟩ = _; rw [cell_of_row _ _ _ _ _ _ en]; rfl)
      refine wpList_append_run rfl _ _ _ rfl _ hrun ?_
      obtain ⟨d0, d1⟩ := inv1.cells hgr
      have INV : Hid (DecInv w (w2.setCell ⟨w.heap.size + 1, 1, none⟩ (.slice R' ((rdL xs k).length + 1) cap')) gn R' cap' (rdL xs (k + 1))) := by
        show DecInv _ _ _ _ _ _
        rw [rdL_succ, HSE.out]; exact inv1.step hgr hown rfl
      clear hrun hown hgr inv1 inv0 en c1 hx0
      go_wp2_with fail
      go_roundw
      case rel => exact ⟨k + 1, R', cap', by omega, by go_num, INV.out⟩
      case measure => simp [intOf]; omega
    · obtain rfl : k = m := by omega
      have v0 : wr.cell? ⟨w.heap.size + 1, 0, none⟩ = some (.int .u64 (gn : Int)) := by rw [cell_of_row _ _ _ _ _ _ inv.var]; rfl
      have v1 : wr.cell? ⟨w.heap.size + 1, 1, none⟩ = some (.slice R (rdL xs k).length cap) := by rw [cell_of_row _ _ _ _ _ _ inv.var]; rfl
      have hsr := inv.own.sr
      have HD : Hid (decB xs = (mayB gn (rdL xs k) && decide (encL gn (rdL xs k) = xs))) := by
        have h := decB_main H64.out (by rw [HM.out]; exact h4)
        rw [HM.out, HG.out] at h
        exact h
      cases hmay : mayB gn (rdL xs k)
      · have HY := Lib.hid hmay
        clear hmay
        go_wp2_with fail
        refine (refEnc_fail gn R (rdL xs k) cap _ _ hsr (by rw [rdL_len]; omega) rfl HY.out).mono ?_
        rintro e w1 ⟨RE, cE, rfl, bE⟩
        have inv1 := inv.below bE
        have r0 : w1.cell? ⟨w.heap.size, 0, none⟩ = some (.int .u64 0) := by rw [cell_of_row _ _ _ _ _ _ inv1.res]; rfl
        have r1 : w1.cell? ⟨w.heap.size, 1, none⟩ = some (.slice none 0 0) := by rw [cell_of_row _ _ _ _ _ _ inv1.res]; rfl
        have z0 := frozen_of_row w1 w.heap.size 0 _ _ inv1.res
        have z1 := frozen_of_row w1 w.heap.size 1 _ _ inv1.res
        clear v0 v1 hsr bE
        go_wp2_with fail
        exact bodyPost_ret (v := .tuple #[.agg #[.int .u64 0, .slice none 0 0], .int .i64 30]) (by simp [results, Try.results14, go_sem, r0, r1]) rfl (givesDec_no (by rw [HD.out, HY.out]; rfl) (inv1.out _ _).2)
      · have HY := Lib.hid hmay
        clear hmay
        go_wp2_with fail
        refine (refEnc_good gn R (rdL xs k) cap _ _ hsr (by rw [rdL_len]; omega) rfl HY.out).mono ?_
        rintro e w1 ⟨RE, cE, rfl, brE, bE⟩
        have inv1 := inv.below bE
        have hx1 : BR w1 w1.heap.size A xs := (hx.below inv1.bel).more inv1.bel.size
        have r0 : w1.cell? ⟨w.heap.size, 0, none⟩ = some (.int .u64 0) := by rw [cell_of_row _ _ _ _ _ _ inv1.res]; rfl
        have r1 : w1.cell? ⟨w.heap.size, 1, none⟩ = some (.slice none 0 0) := by rw [cell_of_row _ _ _ _ _ _ inv1.res]; rfl
        have v0 : w1.cell? ⟨w.heap.size + 1, 0, none⟩ = some (.int .u64 (gn : Int)) := by rw [cell_of_row _ _ _ _ _ _ inv1.var]; rfl
        have v1 : w1.cell? ⟨w.heap.size + 1, 1, none⟩ = some (.slice R (rdL xs k).length cap) := by rw [cell_of_row _ _ _ _ _ _ inv1.var]; rfl
        have z0 := frozen_of_row w1 w.heap.size 0 _ _ inv1.res
        have z1 := frozen_of_row w1 w.heap.size 1 _ _ inv1.res
        clear hsr bE
        go_wp2_with fail
        by_cases hs : xs = encL gn (rdL xs k)
        · have HS := Lib.hid hs
          clear hs
          refine (same_is true A xs c RE _ cE _ hx1 brE H64.out (encL_len _ _) (by simpa using HS.out)).mono ?_
          rintro e w5 ⟨rfl, rfl⟩
          go_wp2_with fail
          refine bodyPost_ret (v := .tuple #[.agg #[.int .u64 (gn : Int), .slice R (rdL xs k).length cap], .int .i64 0]) (by simp [results, Try.results14, go_sem, r0, r1]) rfl ?_
          have hyes : decB xs = true := by rw [HD.out, HY.out, decide_eq_true HS.out.symm]; rfl
          have h := inv1.out (.int .u64 (gn : Int)) (.slice R (rdL xs k).length cap)
          have hfin := givesDec_yes (b := xs) (c := cap) (n := (rdL xs k).length) hyes (by rw [HM.out]) (by rw [HM.out]; exact h.1) h.2 (fun ad e => by subst e; have := (World.ownsRow.lt inv1.own ad.block rfl).1; omega)
          rw [HG.out] at hfin
          exact hfin
        · have HS := Lib.hid hs
          clear hs
          refine (same_is false A xs c RE _ cE _ hx1 brE H64.out (encL_len _ _) (by simpa using HS.out)).mono ?_
          rintro e w5 ⟨rfl, rfl⟩
          go_wp2_with fail
          exact bodyPost_ret (v := .tuple #[.agg #[.int .u64 0, .slice none 0 0], .int .i64 30]) (by simp [results, Try.results14, go_sem, r0, r1]) rfl (givesDec_no (by rw [HD.out, HY.out, decide_eq_false (fun e => HS.out e.symm)]; rfl) (inv1.out _ _).2)
theorem refDec_any (A : Option Addr) (xs : List UInt8) (c : Nat) (w : World) (hx : BR w w.heap.size A xs) :
    Calls Try.prog 14 #[.slice A xs.length c] w (GivesDec w xs) := by
  by_cases h : xs.length = 64
  · rw [h]
    by_cases h4 : manyOf xs ≤ 4
    · exact refDec_main A xs c w hx h h4
    · exact refDec_many A xs c w hx h (by omega)
  · exact refDec_len A xs c w h
end Go.Proofs.Ytlefpnplibmgiaa
