/-
  Merged by wip/tools/merge.py: Base Frame Row Keeps Copy App
-/
import Derived.WalkKit
import Derived.WalkSpells
import Derived.Below
import Derived.Laws.OwnMore
import Derived.Deep.Draws
import Derived.Test.YthmlhjjcihibnaaRows
import Derived.ProofKit
import Derived.OpenShut
import Derived.SizedLaws
import Derived.Deep.OwnRows
import Derived.Laws.CopyOwn
import Derived.Maps.AppendAt
import Derived.Deep.AppendLies
namespace Go.Proofs.Ythmlhjjcihibnaa
open Go.RowKit

/-- A byte as a value. -/
abbrev B8 (x : UInt8) : Value := .int .u8 (x.toNat : Int)

theorem block_add (a : Addr) (n : Nat) : (a.add n).block = a.block := by unfold Addr.add; split <;> rfl

/-- The bytes 'xs' lie at 'A' (asked only where there is one), below block B. -/
def BR (w : World) (B : Nat) (A : Option Addr) (xs : List UInt8) : Prop :=
  xs ≠ [] → ∃ ad, A = some ad ∧ ad.block < B ∧ ∀ k u, xs[k]? = some u → w.cell? (ad.add k) = some (B8 u)

theorem BR.at_ {w : World} {B : Nat} {A : Option Addr} {xs : List UInt8} (h : BR w B A xs) {k : Nat} (hk : k < xs.length) :
    ∃ ad, A = some ad ∧ ad.block < B ∧ w.cell? (ad.add k) = some (B8 (xs.getD k 0)) := by
  obtain ⟨ad, e, hb, hc⟩ := h (by intro e; subst e; simp at hk)
  exact ⟨ad, e, hb, by rw [hc k xs[k] (List.getElem?_eq_getElem hk)]; simp [List.getD_eq_getElem?_getD, List.getElem?_eq_getElem hk]⟩
theorem BR.keep {w w' : World} {B : Nat} {A : Option Addr} {xs : List UInt8} (h : BR w B A xs) (hk : ∀ p : Addr, p.block < B → w'.cell? p = w.cell? p) : BR w' B A xs := by
  intro hn
  obtain ⟨ad, e, hb, hc⟩ := h hn
  exact ⟨ad, e, hb, fun k u hu => (hk _ (by rw [block_add]; exact hb)).trans (hc k u hu)⟩
theorem BR.more {w : World} {B B' : Nat} {A : Option Addr} {xs : List UInt8} (h : BR w B A xs) (hB : B ≤ B') : BR w B' A xs := by
  intro hn
  obtain ⟨ad, e, hb, hc⟩ := h hn
  exact ⟨ad, e, by omega, hc⟩
theorem BR.below {w w' : World} {B : Nat} {A : Option Addr} {xs : List UInt8} (h : BR w B A xs) (hb : Below B w w') : BR w' B A xs := h.keep fun _ hp => hb.cell hp
theorem BR.nil {w : World} {B : Nat} {A : Option Addr} : BR w B A [] := fun h => absurd rfl h

/-- The byte at a place, 0 where there is none. -/
def byt (xs : List UInt8) (k : Int) : UInt8 := if k < 0 then 0 else xs.getD k.toNat 0
theorem byt_in (xs : List UInt8) (k : Int) (h0 : 0 ≤ k) : byt xs k = xs.getD k.toNat 0 := by unfold byt; rw [if_neg (by omega)]
theorem byt_out (xs : List UInt8) (k : Int) (h : k < 0 ∨ xs.length ≤ k) : byt xs k = 0 := by
  unfold byt
  split
  · rfl
  · rw [List.getD_eq_getElem?_getD, List.getElem?_eq_none (by omega)]; rfl

/-- A number of bytes, from 0 to 8. -/
def clamp (n most : Int) : Int := if most < (if 0 > n then 0 else n) then most else (if 0 > n then 0 else n)
theorem clamp_range (n most : Int) (h : 0 ≤ most) : 0 ≤ clamp n most ∧ clamp n most ≤ most := by unfold clamp; split <;> split <;> omega

theorem ret_int {k : IntKind} {a b : Int} (h : a = b) : Ending.returned (.int k a) = .returned (.int k b) := by rw [h]
theorem ret_bool {a b : Bool} (h : a = b) : Ending.returned (.bool a) = .returned (.bool b) := by rw [h]
end Go.Proofs.Ythmlhjjcihibnaa
namespace Go.Proofs.Ythmlhjjcihibnaa
open Go.ChangeShapes Go.WideShapes Go.ChangeAt Go.RowKit

theorem Try.bytes8 : Try.prog.bytesOf 5 = 1 := by kernel_rfl
theorem Try.cells8 : Try.prog.cellsOf 5 = 1 := by kernel_rfl

theorem byte_of_wf {n : Int} (h : (Lit.int .u8 n).wf = true) : 0 ≤ n ∧ n < 256 := by
  simp [Lit.wf, IntKind.min, IntKind.max, IntKind.signed, IntKind.bits] at h
  omega

/-- A slice of bytes that came in: its bytes lie where it says; it is within the form's own reach. -/
theorem bytes_in {H : Type} {enc : TypeId × Value → H} {W : World} {a : Option Addr} {len cap : Nat} {d : DataW H} {p : List MemPlace}
    (h : DataW.Trod enc Try.prog W 0 (fun _ => true) true 22 (.slice a len cap) d p) :
    ∃ xs : List UInt8, xs.length = len ∧ BR W W.heap.size a xs ∧ ∀ (ts : List TypeId) (ds : List (DataW H)) (j : Nat), (DataW.weightsEach Try.prog ts ds).all (· ≤ reachBytes) = true → ts[j]? = some 22 → ds[j]? = some d → len ≤ 140737488351232 := by
  obtain ⟨fuel, hf⟩ := h
  rcases open_ints Try.underlying22 Try.underlying5 Try.cells8 hf with ⟨hcs, _⟩ | ⟨x, l, c, zs, hcs, _, hl, _, hz, hx, hcell, hwz⟩
  · simp [Value.cells] at hcs
    obtain ⟨rfl, rfl, rfl⟩ := hcs
    exact ⟨[], rfl, BR.nil, fun _ _ _ _ _ _ => by omega⟩
  · simp [Value.cells] at hcs
    obtain ⟨rfl, rfl, rfl⟩ := hcs
    simp only [Prod.mk.injEq] at hx
    obtain ⟨rfl, _⟩ := hx
    simp only [if_true] at hz
    refine ⟨(zs.take len).map fun n => UInt8.ofNat n.toNat, by simp; omega, ?_, ?_⟩
    · intro hne
      have h0 : 0 < zs.length := by
        rcases Nat.eq_zero_or_pos zs.length with e | e
        · rw [List.eq_nil_of_length_eq_zero e] at hne; simp at hne
        · exact e
      refine ⟨x, rfl, ?_, fun k u hu => ?_⟩
      · have := World.block_lt_of_cell? _ _ (hcell 0 h0)
        rwa [block_add] at this
      · simp only [List.getElem?_map, Option.map_eq_some_iff] at hu
        obtain ⟨n, hn, rfl⟩ := hu
        have hk : k < len ∧ zs[k]? = some n := by
          rw [List.getElem?_take] at hn
          split at hn
          · exact ⟨‹_›, hn⟩
          · cases hn
        have hkl : k < zs.length := by omega
        rw [hcell k hkl, List.getD_eq_getElem?_getD, hk.2]
        have hb := byte_of_wf (hwz n (List.mem_of_getElem? hk.2))
        have e : ((UInt8.ofNat n.toNat).toNat : Int) = n := by
          simp
          omega
        show some (Value.int .u8 n) = some (.int .u8 ((UInt8.ofNat n.toNat).toNat : Int))
        rw [e]
    · intro ts ds j hs ht hd
      have := sized_slice hs ht hd Try.underlying22
      rw [Try.bytes8] at this
      simp only [lits, List.length_map, List.length_take, List.length_drop, reachBytes] at this
      omega
theorem i64_of_wf {n : Int} (h : (Lit.int .i64 n).wf = true) : -9223372036854775808 ≤ n ∧ n ≤ 9223372036854775807 := by
  simp [Lit.wf, IntKind.min, IntKind.max, IntKind.signed, IntKind.bits] at h
  omega
theorem u64_of_wf {n : Int} (h : (Lit.int .u64 n).wf = true) : 0 ≤ n ∧ n ≤ 18446744073709551615 := by
  simp [Lit.wf, IntKind.min, IntKind.max, IntKind.signed, IntKind.bits] at h
  omega
end Go.Proofs.Ythmlhjjcihibnaa
namespace Go.Proofs.Ythmlhjjcihibnaa
open Go.RowKit

/-- The call hands back bytes 'zs' and has written nothing that was there. -/
def GivesB (w : World) (zs : List UInt8) (e : Ending) (w' : World) : Prop :=
  ∃ R c, e = .returned (.slice R zs.length c) ∧ BR w' w'.heap.size R zs ∧ Below w.heap.size w w'

/-- The same, and what it hands back has room for all its bytes. -/
def GivesC (w : World) (zs : List UInt8) (e : Ending) (w' : World) : Prop :=
  ∃ R c, e = .returned (.slice R zs.length c) ∧ BR w' w'.heap.size R zs ∧ Below w.heap.size w w' ∧ zs.length ≤ c
theorem GivesC.toB {w : World} {zs : List UInt8} {e : Ending} {w' : World} (h : GivesC w zs e w') : GivesB w zs e w' := by
  obtain ⟨R, c, he, hr, hb, _⟩ := h
  exact ⟨_, c, he, hr, hb⟩
theorem BR.take {w : World} {B : Nat} {A : Option Addr} {xs : List UInt8} (h : BR w B A xs) (n : Nat) : BR w B A (xs.take n) := by
  intro hn
  obtain ⟨ad, e, hb, hc⟩ := h (by intro e; subst e; simp at hn)
  refine ⟨ad, e, hb, fun k u hu => hc k u ?_⟩
  rw [List.getElem?_take] at hu
  split at hu
  · exact hu
  · cases hu

/-- The same, the bytes lying in a block that is new. -/
def GivesN (w : World) (zs : List UInt8) (e : Ending) (w' : World) : Prop :=
  ∃ g c, e = .returned (.slice (some ⟨g, 0, none⟩) zs.length c) ∧ w.heap.size ≤ g ∧ g < w'.heap.size ∧ BR w' w'.heap.size (some ⟨g, 0, none⟩) zs ∧ Below w.heap.size w w' ∧ zs.length ≤ c
theorem GivesN.toB {w : World} {zs : List UInt8} {e : Ending} {w' : World} (h : GivesN w zs e w') : GivesB w zs e w' := by
  obtain ⟨g, c, he, _, _, hr, hb, _⟩ := h
  exact ⟨_, c, he, hr, hb⟩

/-- Block g is the bytes 'zs'. -/
def Row8 (w : World) (g : Nat) (t : TypeId) (zs : List UInt8) : Prop := w.rowIs g t zs.length fun i => B8 (zs.getD i 0)

theorem Row8.br {w : World} {g : Nat} {t : TypeId} {zs : List UInt8} (h : Row8 w g t zs) : BR w w.heap.size (some ⟨g, 0, none⟩) zs := by
  intro _
  refine ⟨_, rfl, h.lt, fun k u hu => ?_⟩
  have hk : k < zs.length := by
    rcases Nat.lt_or_ge k zs.length with h | h
    · exact h
    · rw [List.getElem?_eq_none h] at hu; cases hu
  have e : (⟨g, 0, none⟩ : Addr).add k = ⟨g, k, none⟩ := by unfold Addr.add; split <;> simp_all
  rw [e, h.cell hk, List.getD_eq_getElem?_getD, hu]; rfl
theorem Row8.set_ {w : World} {g : Nat} {t : TypeId} {zs : List UInt8} (h : Row8 w g t zs) (k : Nat) (u : UInt8) : Row8 (w.setCell ⟨g, k, none⟩ (B8 u)) g t (zs.set k u) := by
  unfold Row8 at *
  rw [List.length_set]
  refine (h.set k (B8 u)).congr fun i hi => ?_
  by_cases e : i = k
  · subst e; simp [List.getD_eq_getElem?_getD, hi]
  · rw [if_neg e, List.getD_eq_getElem?_getD, List.getD_eq_getElem?_getD, List.getElem?_set_ne (fun h => e h.symm)]
theorem Row8.cell_ {w : World} {g : Nat} {t : TypeId} {zs : List UInt8} (h : Row8 w g t zs) {k : Nat} (hk : k < zs.length) : w.cell? ⟨g, k, none⟩ = some (B8 (zs.getD k 0)) := h.cell hk
theorem Row8.free {w : World} {g : Nat} {t : TypeId} {zs : List UInt8} (h : Row8 w g t zs) (k : Nat) : w.frozen? ⟨g, k, none⟩ = false := h.frozen k
theorem Row8.lt_ {w : World} {g : Nat} {t : TypeId} {zs : List UInt8} (h : Row8 w g t zs) : g < w.heap.size := h.lt
theorem Row8.made (w : World) (n : Nat) (t : TypeId) : Row8 (w.alloc (.cells (madeCells #[.int .u8 0] n) t)) w.heap.size t (List.replicate n 0) := by
  have h := World.rowIs_made w (.int .u8 0) n t
  unfold Row8
  rw [List.length_replicate]
  refine h.congr fun i hi => ?_
  simp [List.getD_eq_getElem?_getD, hi]
theorem givesB_row {w w' : World} {g : Nat} {t : TypeId} {zs : List UInt8} {n c : Nat} (hn : zs.length = n) (h : Row8 w' g t zs) (hb : Below w.heap.size w w') :
    GivesB w zs (.returned (.slice (some ⟨g, 0, none⟩) n c)) w' := by
  subst hn
  exact ⟨_, _, rfl, h.br, hb⟩
theorem givesN_row {w w' : World} {g : Nat} {t : TypeId} {zs : List UInt8} {n c : Nat} (hn : zs.length = n) (hc : n ≤ c) (hg : w.heap.size ≤ g) (h : Row8 w' g t zs) (hb : Below w.heap.size w w') :
    GivesN w zs (.returned (.slice (some ⟨g, 0, none⟩) n c)) w' := by
  subst hn
  exact ⟨_, _, rfl, hg, h.lt_, h.br, hb, hc⟩
theorem BR.new (w : World) (xs : List UInt8) (C : Array Value) (t : TypeId) (fr : Nat × Nat) (hC : C = (xs.map B8).toArray) : BR (w.alloc (.cells C t fr)) (w.heap.size + 1) (some ⟨w.heap.size, 0, none⟩) xs := by
  intro _
  refine ⟨_, rfl, Nat.lt_succ_self _, fun k u hu => ?_⟩
  have e : (⟨w.heap.size, 0, none⟩ : Addr).add k = ⟨w.heap.size, k, none⟩ := by unfold Addr.add; split <;> simp_all
  have hb : (w.alloc (.cells C t fr)).heap[w.heap.size]? = some (.cells C t fr) := heap_alloc_new w _
  rw [e, cell_of_row _ _ _ _ _ _ hb, hC]
  simp [hu]
theorem BR.alloc {w : World} {B : Nat} {A : Option Addr} {xs : List UInt8} (h : BR w B A xs) (hB : B ≤ w.heap.size) (o : Obj) : BR (w.alloc o) B A xs :=
  h.keep fun p hp => World.cell?_alloc_lt w o p (by omega)
theorem BR.new2 (w : World) (o : Obj) (xs : List UInt8) (C : Array Value) (t : TypeId) (fr : Nat × Nat) (hC : C = (xs.map B8).toArray) :
    BR ((w.alloc o).alloc (.cells C t fr)) (w.heap.size + 2) (some ⟨w.heap.size + 1, 0, none⟩) xs := by
  have h := BR.new (w.alloc o) xs C t fr hC
  rwa [World.size_alloc] at h
end Go.Proofs.Ythmlhjjcihibnaa
namespace Go.Proofs.Ythmlhjjcihibnaa
open Go.RowKit

/-- What is kept: all blocks but those of F, and new ones. -/
structure Keeps (F : Nat → Prop) (w w' : World) : Prop where
  os : w'.os = w.os
  tape : w'.tape = w.tape
  output : w'.output = w.output
  size : w.heap.size ≤ w'.heap.size
  block : ∀ k, k < w.heap.size → ¬ F k → w'.heap[k]? = w.heap[k]?
theorem Keeps.refl (F : Nat → Prop) (w : World) : Keeps F w w := ⟨rfl, rfl, rfl, Nat.le_refl _, fun _ _ _ => rfl⟩
theorem Keeps.trans {F : Nat → Prop} {a b c : World} (h : Keeps F a b) (k : Keeps F b c) : Keeps F a c :=
  ⟨k.os.trans h.os, k.tape.trans h.tape, k.output.trans h.output, Nat.le_trans h.size k.size, fun i hi hF => (k.block i (Nat.lt_of_lt_of_le hi h.size) hF).trans (h.block i hi hF)⟩
theorem Keeps.mono {F G : Nat → Prop} {w w' : World} (h : Keeps F w w') (hF : ∀ k, k < w.heap.size → F k → G k) : Keeps G w w' := ⟨h.os, h.tape, h.output, h.size, fun k hk hG => h.block k hk fun hf => hG (hF k hk hf)⟩
theorem Keeps.grown {w w' : World} {row : Option Nat} (F : Nat → Prop) (hg : w.grownBy w' row) (hr : ∀ k, row = some k → F k) : Keeps F w w' := ⟨hg.os, hg.tape, hg.output, hg.size, fun k hk hF => hg.block k hk fun e => hF (hr k e.symm)⟩
theorem Keeps.alloc (F : Nat → Prop) (w : World) (o : Obj) : Keeps F w (w.alloc o) := ⟨rfl, rfl, rfl, by simp, fun k hk _ => Below.heap_alloc w o k hk⟩
theorem Keeps.drew (F : Nat → Prop) (w : World) : Keeps F w w.drew := ⟨rfl, rfl, rfl, Nat.le_refl _, fun _ _ _ => rfl⟩
theorem Keeps.setCell (F : Nat → Prop) (w : World) (a : Addr) (v : Value) (h : F a.block) : Keeps F w (w.setCell a v) := ⟨rfl, rfl, rfl, by simp [World.setCell], fun k _ hF => Below.heap_setCell _ _ _ _ fun e => hF (by rw [e]; exact h)⟩
theorem Keeps.below {B : Nat} {w w' : World} (h : Below B w w') (F : Nat → Prop) (hF : ∀ k, k < w.heap.size → B ≤ k → F k) : Keeps F w w' := ⟨h.os, h.tape, h.output, h.size, fun k hk hn => h.block k (Nat.lt_of_not_le fun hb => hn (hF k hk hb))⟩
theorem Keeps.toBelow {F : Nat → Prop} {w w' : World} (h : Keeps F w w') (B : Nat) (hB : B ≤ w.heap.size) (hF : ∀ k, F k → B ≤ k) : Below B w w' := ⟨h.os, h.tape, h.output, h.size, fun k hk => h.block k (by omega) fun hf => by have := hF k hf; omega⟩
theorem Keeps.cell {F : Nat → Prop} {w w' : World} (h : Keeps F w w') (b o : Nat) (hb : b < w.heap.size) (hF : ¬ F b) : w'.cell? ⟨b, o, none⟩ = w.cell? ⟨b, o, none⟩ := World.cell?_of_block (w := w) (w' := w') (a := ⟨b, o, none⟩) (h.block b hb hF)
theorem Keeps.fz {F : Nat → Prop} {w w' : World} (h : Keeps F w w') (b o : Nat) (hb : b < w.heap.size) (hF : ¬ F b) : w'.frozen? ⟨b, o, none⟩ = w.frozen? ⟨b, o, none⟩ := World.frozen?_of_block (w := w) (w' := w') (a := ⟨b, o, none⟩) (h.block b hb hF)
/-- A slice's bytes, where others are written. -/
theorem Keeps.br {F : Nat → Prop} {w w' : World} (h : Keeps F w w') {A : Option Addr} {xs : List UInt8} (hx : BR w w.heap.size A xs) (ha : ∀ ad, A = some ad → xs ≠ [] → ¬ F ad.block) : BR w' w'.heap.size A xs := by
  intro hn
  obtain ⟨ad, e, hb, hc⟩ := hx hn
  refine ⟨ad, e, Nat.lt_of_lt_of_le hb h.size, fun k u hu => ?_⟩
  rw [World.cell?_of_block (w := w) (by rw [block_add]; exact h.block _ hb (ha ad e hn))]
  exact hc k u hu
end Go.Proofs.Ythmlhjjcihibnaa
namespace Go.Proofs.Ythmlhjjcihibnaa
open Go.RowKit

theorem Row8.block {w : World} {g : Nat} {t : TypeId} {zs : List UInt8} (h : Row8 w g t zs) : w.heap[g]? = some (.cells (zs.map B8).toArray t (0, 0)) := by
  obtain ⟨c, hb, hn, hc⟩ := h
  have e : c = (zs.map B8).toArray := by
    apply Array.ext
    · simpa using hn
    · intro i h1 h2
      have := hc i (by omega)
      rw [Array.getElem?_eq_getElem h1] at this
      injection this with this
      rw [this]
      simp at h2
      simp [List.getD_eq_getElem?_getD, h2]
  rw [hb, e]
theorem Row8.of_block {w : World} {g : Nat} {t : TypeId} {zs : List UInt8} (h : w.heap[g]? = some (.cells (zs.map B8).toArray t (0, 0))) : Row8 w g t zs :=
  ⟨_, h, by simp, fun i hi => by simp [hi]⟩

theorem run_copy8 {P : Program} (w : World) (dT sT ty elem t : TypeId) (hu : P.underlying dT = some (.slice elem)) (hsz : (P.info? elem).map (·.size) = some 1)
    (g off dLen dCap : Nat) (D : Option Addr) (zs ys : List UInt8) (A : Option Addr) (c B : Nat) (hD : ys ≠ [] → D = some ⟨g, off, none⟩) (hr : Row8 w g t zs) (hy : BR w B A ys) (hle : ys.length ≤ dLen) (hfit : off + ys.length ≤ zs.length) :
    ∃ w', (Builtin.copy_ #[dT, sT] ty #[.slice D dLen dCap, .slice A ys.length c]).run P w = .ok (.int .i64 (ys.length : Int)) w' ∧ Row8 w' g t (splice zs off ys) ∧ w.grownBy w' (some g) := by
  by_cases hn : ys = []
  · subst hn
    exact ⟨w, run_copy_none w dT sT ty elem D A dLen dCap 0 c hu hsz (by simp), by simpa [splice] using hr, World.grownBy.refl w _⟩
  · obtain ⟨ad, rfl, _, hc⟩ := hy hn
    obtain rfl := hD hn
    have hrun := run_copy_row (P := P) w dT sT ty elem g off dLen dCap ad ys.length c _ t (ys.map B8) hu hsz hr.block (by rw [List.length_map]; exact (Nat.min_eq_left hle).symm) (fun j v hj => by
      simp only [List.getElem?_map, Option.map_eq_some_iff] at hj
      obtain ⟨u, hu, rfl⟩ := hj
      exact hc j u hu) (by simpa using hfit) (by
      intro v hv
      simp only [List.mem_map] at hv
      obtain ⟨u, _, rfl⟩ := hv
      rfl)
    rw [List.length_map] at hrun
    refine ⟨_, hrun, ?_, ⟨rfl, rfl, rfl, by simp, fun k _ hne => setRow_other w g k _ (fun e => hne (by rw [e]))⟩⟩
    refine Row8.of_block ((setRow_heap w g _ _ t _ hr.block).trans ?_)
    simp [splice, List.map_take, List.map_drop]
end Go.Proofs.Ythmlhjjcihibnaa
namespace Go.Proofs.Ythmlhjjcihibnaa
open Go.RowKit

/-- The slice is the call's own (from block B on), its bytes are 'zs'. -/
def Own8 (w : World) (B : Nat) (t : TypeId) (R : Option Addr) (cap : Nat) (zs : List UInt8) : Prop := w.ownsRow B t 1 (.slice R zs.length cap) zs.length (zs.map B8)

theorem Own8.at_ {w : World} {B : Nat} {t : TypeId} {R : Option Addr} {cap : Nat} {zs : List UInt8} (h : Own8 w B t R cap zs) {k : Nat} (hk : k < zs.length) :
    ∃ g, R = some ⟨g, 0, none⟩ ∧ B ≤ g ∧ g < w.heap.size ∧ w.cell? ⟨g, k, none⟩ = some (B8 (zs.getD k 0)) ∧ w.frozen? ⟨g, k, none⟩ = false := by
  obtain ⟨g, c, hv, hb, hlt⟩ := World.ownsRow.form h (by omega)
  injection hv with e1 _ e3
  subst e1 e3
  have h1 := World.ownsRow.cellAt h k (by omega)
  exact ⟨g, rfl, hb, hlt, by rw [h1]; simp [List.getD_eq_getElem?_getD, hk], World.ownsRow.frozenAt h k⟩
theorem Own8.set_ {w : World} {B : Nat} {t : TypeId} {g : Nat} {cap : Nat} {zs : List UInt8} (h : Own8 w B t (some ⟨g, 0, none⟩) cap zs) (k : Nat) (u : UInt8) : Own8 (w.setCell ⟨g, k, none⟩ (B8 u)) B t (some ⟨g, 0, none⟩) cap (zs.set k u) := by
  have h1 := World.ownsRow.stored h k (B8 u)
  unfold Own8
  rw [List.length_set, List.map_set]
  exact h1.1
theorem Own8.br {w : World} {B : Nat} {t : TypeId} {R : Option Addr} {cap : Nat} {zs : List UInt8} (h : Own8 w B t R cap zs) : BR w w.heap.size R zs := by
  intro hn
  have h0 : 0 < zs.length := List.length_pos_iff.2 hn
  obtain ⟨g, rfl, _, hlt, _, _⟩ := h.at_ h0
  refine ⟨_, rfl, hlt, fun k u hu => ?_⟩
  exact World.ownsRow.cells h (g := g) rfl k (B8 u) (by simp [hu])

theorem run_append8 {P : Program} (w : World) (t ty e : TypeId) (hi : (P.info? e).map (fun i => (i.zero, i.size, i.bytes)) = some (some (.int .u8 0), 1, 1)) (ht : P.underlying t = some (.slice e))
    (A : Option Addr) (xs : List UInt8) (c : Nat) (hx : BR w w.heap.size A xs) (hl : xs.length ≤ 1000000) :
    ∃ R cap w', (Builtin.append_ #[t, t] ty #[.slice none 0 0, .slice A xs.length c]).run P w = .ok (.slice R xs.length cap) w' ∧ Own8 w' w.heap.size e R cap xs ∧ Below w.heap.size w w' := by
  obtain ⟨i0, hi, hz0, hz1, hz2⟩ := info_parts hi
  have hnil := World.ownsRow_nil w w.heap.size e 1
  by_cases hn : xs = []
  · subst hn
    rcases A with _ | ad
    · refine ⟨none, 0, w, ?_, hnil, Below.refl _ _⟩
      simp [Builtin.append_, run_underlying ht, sizeOf, typeInfo, hi, Builtin.lenOf, Builtin.firstCells]
    · obtain ⟨v, w', hrun, hown, hg, hv, _⟩ := run_append_own_at (P := P) w w.heap.size t ty e i0 (.int .u8 0) 1 1 ht hi hz0 hz1 hz2 rfl (by decide) (.slice none 0 0) 0 [] hnil ad 0 c [] rfl (by simp) (by simp) (by simp [maxLen]) (by omega) (Nat.le_refl _)
      obtain rfl := hv.2 ⟨rfl, rfl⟩
      exact ⟨none, 0, w', hrun, hown, ⟨hg.os, hg.tape, hg.output, hg.size, fun k hk => hg.block k hk (by simp [Value.ownBlock])⟩⟩
  · obtain ⟨ad, rfl, _, hc⟩ := hx hn
    obtain ⟨v, w', hrun, hown, hg, _, _⟩ := run_append_own_at (P := P) w w.heap.size t ty e i0 (.int .u8 0) 1 1 ht hi hz0 hz1 hz2 rfl (by decide) (.slice none 0 0) 0 [] hnil ad xs.length c (xs.map B8) (by simp) (fun j v hj => by
      simp only [List.getElem?_map, Option.map_eq_some_iff] at hj
      obtain ⟨u, hu, rfl⟩ := hj
      exact hc j u hu) (by
      intro v hv
      simp only [List.mem_map] at hv
      obtain ⟨u, _, rfl⟩ := hv
      rfl) (by simp [maxLen]; omega) (by omega) (Nat.le_refl _)
    have h0 : 0 < xs.length := List.length_pos_iff.2 hn
    simp only [Nat.zero_add, List.nil_append] at hown
    obtain ⟨g, cap, rfl, _, _⟩ := World.ownsRow.form hown (by omega)
    exact ⟨_, cap, w', hrun, hown, ⟨hg.os, hg.tape, hg.output, hg.size, fun k hk => hg.block k hk (by simp [Value.ownBlock])⟩⟩

/-- The builtin append at its place in a walk, its run being known. -/
theorem wpList_append_run {P : Program} {w w' : World} {ops : Array Oper} {rest : List Oper} {o : Oper} {a : Act} {Q : Exit → Act → World → Prop} (hgd : o.guard = none) (s x : Operand) (t : TypeId)
    (ho : o.op = .call { callee := .builtin .append, args := #[s, x], argTypes := #[t, t] }) (v : Value)
    (hrun : (Builtin.append_ #[t, t] o.type #[a.eval s, a.eval x]).run P w = .ok v w') (h : wpList P ops Q rest (a.put o.dst v) w') : wpList P ops Q (o :: rest) a w :=
  wpList_plain hgd fun _ hK => by
    unfold Oper.wp execOp
    simp only [ho, resolve, invoke, builtin, Sem.run_bind, Sem.run_pure, Result.andThen_ok, List.map_toArray, List.map_cons, List.map_nil, hrun]
    exact hK _ _ h

/-- 'copy' into a row that append made. -/
theorem run_copy_own8 {P : Program} (w : World) (dT sT ty elem t : TypeId) (hu : P.underlying dT = some (.slice elem)) (hsz : (P.info? elem).map (·.size) = some 1)
    (B0 off dLen dCap : Nat) (R D : Option Addr) (cap : Nat) (zs ys : List UInt8) (A : Option Addr) (c B : Nat) (hD : ys ≠ [] → ∀ g, R = some ⟨g, 0, none⟩ → D = some ⟨g, off, none⟩) (hr : Own8 w B0 t R cap zs) (hy : BR w B A ys) (hle : ys.length ≤ dLen) (hfit : off + ys.length ≤ zs.length) :
    ∃ w', (Builtin.copy_ #[dT, sT] ty #[.slice D dLen dCap, .slice A ys.length c]).run P w = .ok (.int .i64 (ys.length : Int)) w' ∧ Own8 w' B0 t R cap (splice zs off ys) ∧ Below B0 w w' := by
  by_cases hn : ys = []
  · subst hn
    exact ⟨w, run_copy_none w dT sT ty elem D A dLen dCap 0 c hu hsz (by simp), by simpa [splice] using hr, Below.refl _ _⟩
  · have hpos : 0 < ys.length := List.length_pos_iff.2 hn
    obtain ⟨ad, rfl, _, hc⟩ := hy hn
    obtain ⟨hlen, ⟨_, h0⟩ | ⟨g, cap', cur, hv, hB, hg, hnc, hcm, hcs, htk⟩⟩ := hr
    · omega
    · injection hv with e1 _ e3
      subst e1 e3
      obtain rfl := hD hn g rfl
      have hfit' : off + (ys.map B8).length ≤ cur.size := by rw [List.length_map, hcs]; omega
      have hrun := run_copy_row (P := P) w dT sT ty elem g off dLen dCap ad ys.length c cur t (ys.map B8) hu hsz hg (by rw [List.length_map]; exact (Nat.min_eq_left hle).symm) (fun j v hj => by
        simp only [List.getElem?_map, Option.map_eq_some_iff] at hj
        obtain ⟨u, hu, rfl⟩ := hj
        exact hc j u hu) hfit' (by
        intro v hv
        simp only [List.mem_map] at hv
        obtain ⟨u, _, rfl⟩ := hv
        rfl)
      rw [List.length_map] at hrun hfit'
      refine ⟨_, hrun, ?_, ⟨rfl, rfl, rfl, by simp, fun k hk => setRow_other w g k _ (by omega)⟩⟩
      have hls : (splice zs off ys).length = zs.length := length_splice zs off ys hfit
      have hsplit : cur.toList = zs.map B8 ++ cur.toList.drop zs.length := by
        rw [Nat.mul_one] at htk
        rw [← htk, List.take_append_drop]
      have hsplice : ((cur.toList.take off ++ ys.map B8 ++ cur.toList.drop (off + ys.length)).take zs.length) = (splice zs off ys).map B8 := by
        rw [hsplit]
        generalize cur.toList.drop zs.length = tl
        have e1 : (zs.map B8 ++ tl).take off = (zs.take off).map B8 := by rw [List.take_append_of_le_length (by simp; omega), List.map_take]
        have e2 : (zs.map B8 ++ tl).drop (off + ys.length) = (zs.drop (off + ys.length)).map B8 ++ tl := by rw [List.drop_append_of_le_length (by simp; omega), List.map_drop]
        rw [e1, e2, ← List.append_assoc, List.take_append_of_le_length (by simp; omega), List.take_of_length_le (by simp; omega)]
        simp [splice]
      unfold Own8
      rw [hls]
      refine ⟨by simp [hls], .inr ⟨g, cap, _, rfl, hB, setRow_heap w g _ _ t _ hg, hnc, hcm, ?_, ?_⟩⟩
      · simp
        omega
      · rw [Nat.mul_one]
        exact hsplice
theorem Own8.cap_le {w : World} {B : Nat} {t : TypeId} {R : Option Addr} {cap : Nat} {zs : List UInt8} (h : Own8 w B t R cap zs) : zs.length ≤ cap := by
  obtain ⟨_, ⟨_, h0⟩ | ⟨g, cap', cur, hv, _, _, hnc, _⟩⟩ := h
  · omega
  · injection hv with _ _ e3
    omega
theorem add_at (g k : Nat) : Option.map (fun x : Addr => x.add k) (some ⟨g, 0, none⟩) = some ⟨g, k, none⟩ := by
  have e : (⟨g, 0, none⟩ : Addr).add k = ⟨g, k, none⟩ := by unfold Addr.add; split <;> simp_all
  simp [e]
end Go.Proofs.Ythmlhjjcihibnaa
