/-
  Merged by wip/tools/merge.py: Mm MmPage MmPut MmPlain MmLoad
-/
import Derived.Test.YtebecpjecchfoaaGreatDoorMapF
import Derived.Test.YtebecpjecchfoaaGreatDoorGDk
import Derived.Test.YtebecpjecchfoaaGreatDoorGT
import Derived.Test.YtebecpjecchfoaaGreatDoorGA
import Derived.Test.YtebecpjecchfoaaGreatDoorGB
import Derived.WalkLawsBesides
namespace Go.Proofs.YtebecpjecchfoaaGreatDoor.Mm
open Go.RowKit Go.Maps
set_option linter.unusedVariables false

/-! ### pages -/
def z64' : Array Value := (zs64.map B8).toArray
theorem sizeP : (Tryz.prog.info? 158).map (·.size) = some 64 := by kernel_rfl
theorem storeP {w : World} {b o : Nat} {xs : List UInt8} (hl : xs.length = 64) (h : w.there b o 64) :
    (Instr.storeAt 158 (.pointer (some ⟨b, o, none⟩)) (ag xs)).run Tryz.prog w = .ok () (w.setCells b o (xs.map B8)) := by
  have := run_storeAt_mid (P := Tryz.prog) w b o 158 (xs.map B8).toArray (by simpa [hl] using h) (by rw [sizeP]; simp [hl]) (by
    refine all_oneCell_toArray (fun v hv => ?_)
    simp only [List.mem_map] at hv
    obtain ⟨u, _, rfl⟩ := hv
    rfl)
  simpa [ag] using this
/-- A page's variable, laid out and stored into. -/
def PgAt (w : World) (b : Nat) (xs : List UInt8) : Prop := w.heap[b]? = some (.cells (xs.map B8).toArray 158 (0, 0))
theorem PgAt.new (w : World) : PgAt (w.alloc (.cells z64' 158)) w.heap.size zs64 := heap_alloc_new w _
theorem PgAt.put {w : World} {b : Nat} {xs ys : List UInt8} (h : PgAt w b xs) (hx : xs.length = 64) (hy : ys.length = 64) :
    (Instr.storeAt 158 (.pointer (some ⟨b, 0, none⟩)) (ag ys)).run Tryz.prog w = .ok () (w.setCells b 0 (ys.map B8)) ∧ PgAt (w.setCells b 0 (ys.map B8)) b ys ∧ Keeps (· = b) w (w.setCells b 0 (ys.map B8)) := by
  obtain ⟨h1, h2⟩ := setCells_block (ys := ys) 0 h (by omega)
  rw [splice_all _ _ (by omega)] at h1
  exact ⟨storeP hy (there_block h 0 64 (by omega)), h1, h2⟩
theorem PgAt.lt {w : World} {b : Nat} {xs : List UInt8} (h : PgAt w b xs) : b < w.heap.size := (Array.getElem?_eq_some_iff.1 h).1
theorem PgAt.keep {w w' : World} {b : Nat} {xs : List UInt8} {F : Nat → Prop} (h : PgAt w b xs) (k : Keeps F w w') (hF : ¬ F b) : PgAt w' b xs := (k.block b h.lt hF).trans h

/-! ### a memory -/
/-- The n-th page of any bytes. -/
def page (L : List UInt8) (n : Nat) : List UInt8 := (L.drop (n * 64)).take 64
def memCells (gb mb : Nat) (ch : List Bool) : List Value := .pointer none :: .slice (some ⟨gb, 0, none⟩) 8192 8192 :: .map (some mb) :: ch.map Value.bool

/-- The pages that were asked for are as they are now; the others are as given. -/
structure PagesOk (f : Nat → Option (List UInt8)) (G M : List UInt8) : Prop where
  now : ∀ i, i < 128 → ∀ x, f i = some x → x = page M i
  was : ∀ i, i < 128 → f i = none → page M i = page G i

/-- A memory lies at block p: G as given, M as it is now. -/
structure MemAt (w : World) (p gb mb : Nat) (G M : List UInt8) : Prop where
  gl : G.length = 8192
  ml : M.length = 8192
  head : ∃ ch : List Bool, ch.length = 128 ∧ w.heap[p]? = some (.cells (memCells gb mb ch).toArray 154 (0, 0))
  given : w.heap[gb]? = some (.cells (G.map B8).toArray 5 (0, 0))
  map : ∃ f, MapF pageC w mb 128 f ∧ PagesOk f G M

variable {w : World} {p gb mb : Nat} {G M : List UInt8}
theorem MemAt.lt (h : MemAt w p gb mb G M) : p < w.heap.size ∧ gb < w.heap.size ∧ mb < w.heap.size := by
  obtain ⟨ch, _, hh⟩ := h.head
  obtain ⟨f, hf, _⟩ := h.map
  exact ⟨(Array.getElem?_eq_some_iff.1 hh).1, (Array.getElem?_eq_some_iff.1 h.given).1, hf.lt⟩
theorem MemAt.keep {w' : World} {F : Nat → Prop} (h : MemAt w p gb mb G M) (k : Keeps F w w') (hp : ¬ F p) (hg : ¬ F gb) (hm : ¬ F mb) : MemAt w' p gb mb G M := by
  obtain ⟨l1, l2, l3⟩ := h.lt
  obtain ⟨ch, hl, hh⟩ := h.head
  obtain ⟨f, hf, hok⟩ := h.map
  exact ⟨h.gl, h.ml, ⟨ch, hl, (k.block p l1 hp).trans hh⟩, (k.block gb l2 hg).trans h.given, ⟨f, hf.keeps k hm, hok⟩⟩
theorem MemAt.c (h : MemAt w p gb mb G M) : w.cell? ⟨p, 0, none⟩ = some (.pointer none) ∧ w.cell? ⟨p, 1, none⟩ = some (.slice (some ⟨gb, 0, none⟩) 8192 8192) ∧ w.cell? ⟨p, 2, none⟩ = some (.map (some mb)) := by
  obtain ⟨ch, _, hh⟩ := h.head
  refine ⟨?_, ?_, ?_⟩ <;> rw [cell_of_row _ _ _ _ _ _ hh] <;> rfl
/-- The three are apart. -/
theorem MemAt.apart (h : MemAt w p gb mb G M) : p ≠ gb ∧ p ≠ mb ∧ gb ≠ mb := by
  obtain ⟨ch, _, hh⟩ := h.head
  obtain ⟨f, ⟨D, ⟨es, clock, hb, _⟩, _⟩, _⟩ := h.map
  refine ⟨?_, ?_, ?_⟩
  · intro e
    have h1 := hh
    rw [e, h.given] at h1
    simp only [Option.some.injEq, Obj.cells.injEq] at h1
    exact absurd h1.2.1 (by decide)
  · intro e
    have h1 := hh
    rw [e, hb] at h1
    cases h1
  · intro e
    have h1 := h.given
    rw [e, hb] at h1
    cases h1

end Go.Proofs.YtebecpjecchfoaaGreatDoor.Mm
namespace Go.Proofs.YtebecpjecchfoaaGreatDoor.Mm
open Go.RowKit Go.Maps
set_option linter.unusedVariables false

/-- Two new pages, the second of which is stored into. -/
def two (w : World) : World := (w.alloc (.cells z64' 158)).alloc (.cells z64' 158)
variable {w : World} {p gb mb : Nat} {G M : List UInt8}
end Go.Proofs.YtebecpjecchfoaaGreatDoor.Mm
namespace Go.Proofs.YtebecpjecchfoaaGreatDoor.Mm
open Go.RowKit Go.Maps
set_option linter.unusedVariables false

theorem toNat_map_inj : ∀ {xs ys : List UInt8}, (xs.map fun u => (u.toNat : Int)) = ys.map (fun u => (u.toNat : Int)) ↔ xs = ys := by
  intro xs ys
  constructor
  · intro h
    exact (List.map_inj_right (fun a b e => UInt8.toNat_inj.1 (Int.ofNat.inj e))).1 h
  · rintro rfl; rfl
theorem sizeU (w : World) : (sizeOf 5).run Tryz.prog w = .ok 1 w := by kernel_rfl
variable {w : World} {p gb mb : Nat} {G M : List UInt8}
end Go.Proofs.YtebecpjecchfoaaGreatDoor.Mm
namespace Go.Proofs.YtebecpjecchfoaaGreatDoor.Mm
open Go.RowKit
set_option linter.unusedVariables false

/-- Bytes laid at a. -/
def layL (M : List UInt8) (a : Int) (xs : List UInt8) : List UInt8 := (List.range M.length).map fun (i : Nat) => if a ≤ i ∧ (i : Int) < a + xs.length then byt xs (i - a) else M.getD i 0
end Go.Proofs.YtebecpjecchfoaaGreatDoor.Mm
namespace Go.Proofs.YtebecpjecchfoaaGreatDoor.Mm
open Go.RowKit Go.Maps
set_option linter.unusedVariables false

/-- 'copy' into a row of bytes, from bytes of which there may be more. -/
theorem run_copy8m {P : Program} (w : World) (dT sT ty elem t : TypeId) (hu : P.underlying dT = some (.slice elem)) (hsz : (P.info? elem).map (·.size) = some 1)
    (g off dLen dCap : Nat) (zs ys : List UInt8) (ad : Addr) (sl c : Nat) (hr : Row8 w g t zs) (hy : BR w w.heap.size (some ad) ys) (hle : ys.length = min sl dLen) (hfit : off + ys.length ≤ zs.length) (hn : ys ≠ []) :
    ∃ w', (Builtin.copy_ #[dT, sT] ty #[.slice (some ⟨g, off, none⟩) dLen dCap, .slice (some ad) sl c]).run P w = .ok (.int .i64 (ys.length : Int)) w' ∧ Row8 w' g t (splice zs off ys) ∧ w.grownBy w' (some g) := by
  obtain ⟨ad', e, _, hc⟩ := hy hn
  cases e
  have hrun := run_copy_row (P := P) w dT sT ty elem g off dLen dCap ad sl c _ t (ys.map B8) hu hsz hr.block (by rw [List.length_map]; omega) (fun j v hj => by
    simp only [List.getElem?_map, Option.map_eq_some_iff] at hj
    obtain ⟨u, hu, rfl⟩ := hj
    exact hc j u hu) (by simpa using hfit) (by
    intro v hv
    simp only [List.mem_map] at hv
    obtain ⟨u, _, rfl⟩ := hv
    rfl)
  rw [List.length_map] at hrun
  refine ⟨_, hrun, ?_, ⟨rfl, rfl, rfl, by simp, fun k _ hne => setRow_other w g k _ (fun e => hne (by rw [e]))⟩⟩
  refine Row8.of_block ((setRow_heap w g _ _ t _ hr.block).trans ?_)
  simp [splice, List.map_take, List.map_drop]

theorem PgAt.br {w : World} {b : Nat} {xs : List UInt8} (h : PgAt w b xs) (hx : xs.length = 64) (r k : Nat) (hk : r + k ≤ 64) : BR w w.heap.size (some ⟨b, r, none⟩) ((xs.drop r).take k) := br_block h r k

variable {w : World} {p gb mb : Nat} {G M : List UInt8}
end Go.Proofs.YtebecpjecchfoaaGreatDoor.Mm
