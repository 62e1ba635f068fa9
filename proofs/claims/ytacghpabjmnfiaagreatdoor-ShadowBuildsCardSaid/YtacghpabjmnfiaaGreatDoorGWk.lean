/-
  Merged by wip/tools/merge.py: WkShow WkSet WkTake WkTakeN
-/
import Derived.Test.YtacghpabjmnfiaaGreatDoorWkSmall
import Derived.Test.YtacghpabjmnfiaaGreatDoorShRebV
import Derived.Test.YtacghpabjmnfiaaGreatDoorGA
import Derived.Test.YtacghpabjmnfiaaGreatDoorMapF
import Derived.Test.YtacghpabjmnfiaaGreatDoorGTr
namespace Go.Proofs.YtacghpabjmnfiaaGreatDoor
open Go.RowKit

/-- The block of a row. -/
def RowB (R : Option Addr) (k : Nat) : Prop := ∃ ad, R = some ad ∧ k = ad.block
theorem own_RowB (R : Option Addr) (n c k : Nat) (h : Value.ownBlock (.slice R n c) = some k) : RowB R k := by
  cases R with
  | none => cases h
  | some ad => cases h; exact ⟨ad, rfl, rfl⟩
theorem RowB_own (R : Option Addr) (n c k : Nat) (h : RowB R k) : Value.ownBlock (.slice R n c) = some k := by
  obtain ⟨ad, rfl, rfl⟩ := h
  rfl
theorem OwnI.app2 {w : World} {B : Nat} {R : Option Addr} {cap : Nat} {l : List Nat} (h : OwnI w B R cap l) (hB : B ≤ w.heap.size) (hl : l.length ≤ 1954687338212) (x : Nat) (g : Nat) (hg : w.cell? ⟨g, 0, none⟩ = some (.int .i64 (x : Int))) :
    ∃ R' cap' w', (Builtin.append_ #[43, 43] 43 #[.slice R l.length cap, .slice (some ⟨g, 0, none⟩) 1 1]).run Tryz.prog w = .ok (.slice R' (l.length + 1) cap') w' ∧ OwnI w' B R' cap' (l ++ [x]) ∧ Keeps (RowB R) w w' ∧ ∀ k, RowB R' k → RowB R k ∨ w.heap.size ≤ k := by
  obtain ⟨i0, hi, hz0, hz1, hz2⟩ := info_parts Tryz.infoInt
  obtain ⟨v', w', hrun, hown, hg, _, hnew⟩ := run_append_own_at (P := Tryz.prog) w B 43 43 3 i0 (.int .i64 0) 1 8 Tryz.underlying43 hi hz0 hz1 hz2 rfl (by decide) _ l.length _ h ⟨g, 0, none⟩ 1 1 [.int .i64 (x : Int)] rfl (fun j u hu => by
    match j, hu with
    | 0, hu => cases hu; exact hg
    | j + 1, hu => simp at hu) (by intro u hu; simp at hu; subst hu; rfl) (by unfold maxLen; omega) (by omega) hB
  obtain ⟨g', cap', rfl, _, _⟩ := World.ownsRow.form hown (by omega)
  refine ⟨_, cap', w', hrun, ?_, Keeps.grown _ hg (fun k e => own_RowB _ _ _ _ e), fun k hk => ?_⟩
  · unfold OwnI
    rw [List.length_append, List.map_append]
    exact hown
  · have e := RowB_own _ (l.length + 1) cap' _ hk
    rcases hnew with h1 | h1
    · rw [h1] at e
      exact .inl (own_RowB _ _ _ _ e)
    · rw [h1] at e
      cases e
      exact .inr (Nat.le_refl _)

/-- What it gives. -/
def ShowOut (w : World) (x B m : Nat) (R : Option Addr) (l : List Nat) (e : Ending) (w' : World) : Prop :=
  e = .returned (.tuple #[]) ∧ (∃ R' c, w'.heap[x]? = some (.cells #[.slice R' (l ++ [m]).length c] 43 (0, 0)) ∧ OwnI w' B R' c (l ++ [m]) ∧ ∀ k, RowB R' k → RowB R k ∨ w.heap.size ≤ k) ∧ Keeps (fun k => k = x ∨ RowB R k) w w'

set_option maxRecDepth 100000 in
set_option maxHeartbeats 600000 in
theorem wshow_at {w : World} {x B : Nat} {R : Option Addr} {c : Nat} {l : List Nat} (hx : w.heap[x]? = some (.cells #[.slice R l.length c] 43 (0, 0))) (ho : OwnI w B R c l) (hB : B ≤ w.heap.size) (hxB : x < B) (hl : l.length ≤ 100000) (m : Nat) (pg : Int) :
    Calls Tryz.prog 166 #[.int .i64 (m : Int), .int .i64 pg, .pointer (some ⟨x, 0, none⟩)] w (ShowOut w x B m R l) := by
  have own1 : OwnI (w.alloc (.cells #[.int .i64 (m : Int)] 3)) B R c l := World.ownsRow.alloc ho _
  obtain ⟨R', cap2, w2, hap, own2, b2, hnw⟩ := own1.app2 (by simp; omega) (by omega) m w.heap.size (by rw [cell_of_row _ _ _ _ _ _ (heap_alloc_new w _)]; rfl)
  have hAP := Lib.hid hap
  have e1 : (w.alloc (.cells #[.int .i64 (m : Int)] 3)).heap[x]? = some (.cells #[.slice R l.length c] 43 (0, 0)) := (Below.heap_alloc _ _ _ (by omega)).trans hx
  have hxw : x < w.heap.size := (Array.getElem?_eq_some_iff.1 hx).1
  have hxR : ¬ RowB R x := by
    rintro ⟨ad, e, rfl⟩
    have := (ho.block ad e).1
    omega
  have e2 : w2.heap[x]? = some (.cells #[.slice R l.length c] 43 (0, 0)) := (b2.block x (by simp; omega) hxR).trans e1
  obtain ⟨cx, zx⟩ := cell1 hx
  obtain ⟨c1, z1⟩ := cell1 e1
  obtain ⟨c2, z2⟩ := cell1 e2
  have e3 := set1 e2 (.slice R' (l.length + 1) cap2)
  have kk : Keeps (fun k => k = x ∨ RowB R k) w (w2.setCell ⟨x, 0, none⟩ (.slice R' (l.length + 1) cap2)) :=
    (((Keeps.alloc (fun _ => False) w _).ofFalse).trans (b2.mono (fun _ _ h => .inr h))).trans (Keeps.setCell _ _ _ _ (.inl rfl))
  have hnw' : ∀ k, RowB R' k → RowB R k ∨ w.heap.size ≤ k := fun k hk => (hnw k hk).imp id (fun h => by rw [World.size_alloc] at h; omega)
  have own3 : OwnI (w2.setCell ⟨x, 0, none⟩ (.slice R' (l.length + 1) cap2)) B R' cap2 (l ++ [m]) := own2.keeps (Keeps.setCell (fun k => k = x) _ _ _ rfl) (fun ad e h => by have := (own2.block ad e).1; omega)
  have E3 := Lib.hid e3
  have HN := Lib.hid hnw'
  clear hap own1 own2 e1 e2 e3 b2 ho hx hnw hnw' hxR hxw
  go_enter Tryz.func166, Tryz.ntmps166
  go_wp2_with (at_builtin; refine wpList_append_run rfl _ _ 43 rfl _ hAP.out ?_)
  go_end0
  exact ⟨rfl, ⟨R', cap2, by rw [List.length_append]; exact E3.out, own3, HN.out⟩, kk⟩
end Go.Proofs.YtacghpabjmnfiaaGreatDoor
namespace Go.Proofs.YtacghpabjmnfiaaGreatDoor
open Go.RowKit Go.Maps Go.MapKept Go.ChangeMaps

def RU : Value → Option (DataW Unit × List MemPlace)
  | .agg cs => if cs.size = 0 then some (.agg [], []) else none
  | _ => none
theorem RU_agg {v : Value} {y : DataW Unit × List MemPlace} (h : RU v = some y) : v = .agg #[] := by
  unfold RU at h
  split at h
  · rename_i cs
    split at h
    · rename_i h0
      rw [Array.size_eq_zero_iff.1 h0]
    · cases h
  · cases h
def unitC : Codec Unit where
  enc := fun _ => .agg #[]
  R := RU
  dat := fun _ => .agg []
  ok := fun _ => rfl
  inv := fun _ _ _ h => RU_agg h
  all := fun _ _ h => ⟨(), RU_agg h⟩

/-- Block mb is the set of l. -/
def SetF (w : World) (mb nn : Nat) (l : List Nat) : Prop :=
  ∃ D, w.ownsMap Tryz.prog 3 RU mb nn D ∧ IsMap D ∧ ∀ z : Int, has D (.int .i64 z) = decide (∃ m ∈ l, z = (m : Int))
section
variable {w : World} {mb nn : Nat} {l : List Nat}
theorem SetF.lt (h : SetF w mb nn l) : mb < w.heap.size := by obtain ⟨D, h, _⟩ := h; exact h.lt
theorem SetF.keep {w' : World} (h : SetF w mb nn l) (hk : w'.heap[mb]? = w.heap[mb]?) : SetF w' mb nn l := by
  obtain ⟨D, ⟨es, clock, hb, r⟩, rest⟩ := h
  exact ⟨D, ⟨es, clock, hk.trans hb, r⟩, rest⟩
theorem SetF.keeps {w' : World} {F : Nat → Prop} (h : SetF w mb nn l) (k : Keeps F w w') (hF : ¬ F mb) : SetF w' mb nn l := h.keep (k.block _ h.lt hF)
theorem SetF.made (w : World) : SetF (w.alloc (.map #[] 0)) w.heap.size 0 [] :=
  ⟨_, World.ownsMap_made w _ _ _, isMap_empty, fun z => by simp [has]⟩
theorem keyAny (z : Int) (h1 : -9223372036854775808 ≤ z) (h2 : z ≤ 9223372036854775807) : keyOf Tryz.prog 3 (.int .i64 z) = some (.int .i64 z) := keyOf_int_mk Tryz.underlying3 (by
  simp [Lit.wf, IntKind.min, IntKind.max, IntKind.signed, IntKind.bits]; omega)
theorem SetF.put {t e : TypeId} (ht : Tryz.prog.underlying t = some (.map 3 e)) (h : SetF w mb nn l) (n : Nat) (hn : n < 1000000) (hq : nn < maxLen) :
    ∃ w', (Instr.mapUpdate t (.map (some mb)) (.int .i64 (n : Int)) (.agg #[])).run Tryz.prog w = .ok () w' ∧ SetF w' mb (nn + 1) (l ++ [n]) ∧ w.grownBy w' (some mb) ∧ w'.heap.size = w.heap.size := by
  obtain ⟨D, hown, him, hat⟩ := h
  obtain ⟨w', hrun, hown', hg⟩ := hown.store intKeyed ht hq (keyAny (n : Int) (by omega) (by omega)) (show RU (.agg #[]) = some (.agg [], []) from rfl)
  refine ⟨w', hrun, ⟨_, hown', him.put _ _, fun z => ?_⟩, hg.grown, ?_⟩
  · by_cases e : z = (n : Int)
    · subst e
      rw [has_put_same him (by trivial)]
      simp
    · rw [has_put_other (by intro e'; injection e' with _ e'; exact e e'), hat z]
      simp [List.mem_append, or_and_right, exists_or, e]
  · obtain ⟨es, clock, es', clock', hb, rfl⟩ := hg
    simp [setBlock]
theorem SetF.look {t e : TypeId} (ht : Tryz.prog.underlying t = some (.map 3 e)) (h : SetF w mb nn l) (hz : (zeroValue e).run Tryz.prog w = .ok (.agg #[]) w) (z : Int) (h1 : -9223372036854775808 ≤ z) (h2 : z ≤ 9223372036854775807) :
    (Instr.lookup t (.map (some mb)) (.int .i64 z) true).run Tryz.prog w = .ok (.tuple #[.agg #[], .bool (decide (∃ m ∈ l, z = (m : Int)))]) w := by
  obtain ⟨D, hown, him, hat⟩ := h
  obtain ⟨v, ps, hrun, hv⟩ := hown.look_ok intKeyed ht hz (show RU (.agg #[]) = some (.agg [], []) from rfl) (keyAny z h1 h2)
  rw [hrun, hat z, RU_agg hv]
end
end Go.Proofs.YtacghpabjmnfiaaGreatDoor
namespace Go.Proofs.YtacghpabjmnfiaaGreatDoor
open Go.RowKit

/-- While goThrough works: b7 the set's variable, b3 the disk's, b5 the shower's, x the list's, mb the set; rows from B on. -/
structure GoS (w0 w : World) (p b7 b3 b5 x mb B nn : Nat) (R : Option Addr) (c : Nat) (l : List Nat) : Prop where
  e7 : w.heap[b7]? = some (.cells #[.map (some mb)] 246 (0, 0))
  e3 : w.heap[b3]? = some (.cells #[.pointer (some ⟨p, 0, none⟩)] 36 (0, 0))
  e5 : w.heap[b5]? = some (.cells #[.func (.func 166) #[] #[.pointer (some ⟨x, 0, none⟩)]] 220 (0, 0))
  ex : w.heap[x]? = some (.cells #[.slice R l.length c] 43 (0, 0))
  s : SetF w mb nn l
  o : OwnI w B R c l
  b : Below w0.heap.size w0 w
  lo : w0.heap.size ≤ b7 ∧ w0.heap.size ≤ b3 ∧ w0.heap.size ≤ b5 ∧ w0.heap.size ≤ x ∧ w0.heap.size ≤ mb
  hi : b7 < B ∧ b3 < B ∧ b5 < B ∧ x < B ∧ mb < B ∧ B ≤ w.heap.size
  ne : x ≠ b7 ∧ x ≠ b3 ∧ x ≠ b5 ∧ x ≠ mb ∧ mb ≠ b7 ∧ mb ≠ b3 ∧ mb ≠ b5
section
variable {w0 w w' : World} {p b7 b3 b5 x mb B nn nn' : Nat} {R R' : Option Addr} {c c' : Nat} {l l' : List Nat}
theorem GoS.new (h : GoS w0 w p b7 b3 b5 x mb B nn R c l) (k : Keeps (fun _ => False) w w') : GoS w0 w' p b7 b3 b5 x mb B nn R c l := by
  have hs := k.size
  have hh := h.hi
  have hl := h.lo
  exact ⟨(k.block _ (by omega) (fun h => h)).trans h.e7, (k.block _ (by omega) (fun h => h)).trans h.e3, (k.block _ (by omega) (fun h => h)).trans h.e5, (k.block _ (by omega) (fun h => h)).trans h.ex, h.s.keeps k (fun h => h), h.o.keeps k (fun _ _ h => h), h.b.trans (k.toBelow _ h.b.size (fun _ h => h.elim)), h.lo, ⟨hh.1, hh.2.1, hh.2.2.1, hh.2.2.2.1, hh.2.2.2.2.1, by omega⟩, h.ne⟩
/-- The set has one more. -/
theorem GoS.put (h : GoS w0 w p b7 b3 b5 x mb B nn R c l) (k : Keeps (· = mb) w w') : w'.heap[b7]? = some (.cells #[.map (some mb)] 246 (0, 0)) ∧ w'.heap[b3]? = some (.cells #[.pointer (some ⟨p, 0, none⟩)] 36 (0, 0)) ∧
    w'.heap[b5]? = some (.cells #[.func (.func 166) #[] #[.pointer (some ⟨x, 0, none⟩)]] 220 (0, 0)) ∧ w'.heap[x]? = some (.cells #[.slice R l.length c] 43 (0, 0)) ∧ OwnI w' B R c l ∧ Below w0.heap.size w0 w' := by
  have hh := h.hi
  have hl := h.lo
  have hn := h.ne
  exact ⟨(k.block _ (by omega) (by omega)).trans h.e7, (k.block _ (by omega) (by omega)).trans h.e3, (k.block _ (by omega) (by omega)).trans h.e5, (k.block _ (by omega) (by omega)).trans h.ex, h.o.keeps k (fun ad e h' => by have := (h.o.block ad e).1; omega), h.b.trans (k.toBelow _ h.b.size (fun _ h => by omega))⟩
end

/-- What the closure gives where the sector may be reached. -/
def TakeOut (w0 w : World) (p b7 b3 b5 x mb B nn : Nat) (R : Option Addr) (l : List Nat) (m : Nat) (e : Ending) (w' : World) : Prop :=
  e = .returned (.tuple #[]) ∧ (∃ R' c, GoS w0 w' p b7 b3 b5 x mb B (nn + 1) R' c (l ++ [m]) ∧ ∀ k, RowB R' k → RowB R k ∨ w.heap.size ≤ k) ∧ Keeps (fun k => k = x ∨ k = mb ∨ RowB R k) w w'

theorem zeroU (w : World) : (zeroValue 248).run Tryz.prog w = .ok (.agg #[]) w := by kernel_rfl
theorem allocU (w : World) : (Instr.alloc 248 true (.tuple #[])).run Tryz.prog w = .ok (.pointer (some ⟨w.heap.size, 0, none⟩)) (w.alloc (.cells #[] 248)) := by kernel_rfl
theorem storeU (w : World) : (Instr.storeAt 248 (.pointer (some ⟨w.heap.size, 0, none⟩)) (.agg #[])).run Tryz.prog (w.alloc (.cells #[] 248)) = .ok () (w.alloc (.cells #[] 248)) :=
  run_storeAt_mid (P := Tryz.prog) (w.alloc (.cells #[] 248)) w.heap.size 0 248 #[] (there_cells (heap_alloc_new w _) 0 _ (by simp)) (by kernel_rfl) (all_oneCell_toArray (cs := []) (fun v hv => by cases hv))
theorem buildU (w : World) : (Instr.build 248 #[]).run Tryz.prog w = .ok (.agg #[]) w := by kernel_rfl

set_option maxRecDepth 100000 in
set_option maxHeartbeats 800000 in
theorem wtake_ok {w0 w : World} {p lb mb0 n : Nat} {iv : Value} {D : DSt} (h0 : DkAt w0 p lb mb0 n iv D) {b7 b3 b5 x mb B nn : Nat} {R : Option Addr} {c : Nat} {l : List Nat} (h : GoS w0 w p b7 b3 b5 x mb B nn R c l)
    (hll : l.length ≤ 100000) (hnn : nn ≤ 100000) (m : Nat) (pg : Int) (h2 : 2 ≤ m) (hm : m < n) (hno : m ∉ l) :
    Calls Tryz.prog 194 #[.int .i64 (m : Int), .int .i64 pg, .pointer (some ⟨b7, 0, none⟩), .pointer (some ⟨b3, 0, none⟩), .pointer (some ⟨b5, 0, none⟩)] w (TakeOut w0 w p b7 b3 b5 x mb B nn R l m) := by
  have hn2 := h0.ok.n_le
  have hdec : decide (∃ k ∈ l, (m : Int) = (k : Int)) = false := decide_eq_false (by
    rintro ⟨k, hk, e⟩
    exact hno (by rw [show m = k from by omega]; exact hk))
  have LK := h.s.look Tryz.underlying246 (zeroU w) (m : Int) (by omega) (by omega)
  rw [hdec] at LK
  have A1 := Lib.hid (allocU w)
  have k1 : Keeps (fun _ => False) w (w.alloc (.cells #[] 248)) := Keeps.alloc _ _ _
  have h1 := h.new k1
  obtain ⟨c7, z7⟩ := cell1 h.e7
  obtain ⟨c3, z3⟩ := cell1 h1.e3
  clear hdec
  go_enter Tryz.func194, Tryz.ntmps194
  have st0 : (Instr.storeAt 248 (.pointer (some ⟨w.heap.size, 0, none⟩)) (.agg #[])).run Tryz.prog (w.alloc (.cells #[] 248)) = .ok () (w.alloc (.cells #[] 248)) := storeU w
  have ST := Lib.hid st0
  clear st0
  go_wp2_with (first
    | ((with_reducible refine at_ (op := .alloc 248) ?_); refine wpList_val rfl _ (ex_alloc 248 rfl _ A1.out) ?_)
    | ((with_reducible refine here (op := .store 248 (.tmp 7) (.tmp 13)) ?_); refine wpList_store_run rfl 248 _ _ rfl _ _ rfl rfl ST.out ?_))
  refine (wisOf_at (h0.same (keeps_below h1.b)) (m : Int)).mono ?_
  rintro e w' ⟨rfl, rfl⟩
  rw [show decide (2 ≤ (m : Int) ∧ (m : Int) < (n : Int)) = true from decide_eq_true ⟨by omega, by omega⟩]
  obtain ⟨w3, up, s3, g3, z3s⟩ := h1.s.put Tryz.underlying246 m (by omega) (by unfold maxLen; omega)
  have k3 : Keeps (· = mb) (w.alloc (.cells #[] 248)) w3 := Keeps.grown _ g3 (fun b e => by cases e; rfl)
  obtain ⟨p7, p3, p5, px, po, pb⟩ := h1.put k3
  obtain ⟨c71, z71⟩ := cell1 h1.e7
  obtain ⟨c5, z5⟩ := cell1 p5
  have hhi := h1.hi
  have hlo := h1.lo
  have hne := h1.ne
  have UP := Lib.hid up
  have S3 := Lib.hid s3
  have hsz : w.heap.size ≤ (w.alloc (.cells #[] 248)).heap.size := k1.size
  clear up s3 g3 h1 h c7 z7 c3 z3 LK A1 ST
  generalize w.alloc (.cells #[] 248) = w2 at *
  go_wp2_with fail
  refine (wdemand_ok _).mono ?_
  rintro e w' ⟨rfl, rfl⟩
  go_wp2_with (first
    | ((with_reducible refine at_ (op := .build 248 #[]) ?_); refine wpList_val rfl _ (ex_build0 248 rfl _ (buildU _)) ?_)
    | ((with_reducible refine here (op := .mapUpdate 246 (.tmp 23) (.tmp 24) (.tmp 25)) ?_); refine wpList_mapUpdate_run rfl 246 _ _ _ rfl _ _ _ rfl rfl rfl UP.out ?_))
  refine (wshow_at px po (by omega) (by omega) hll m pg).mono ?_
  rintro e w4 ⟨rfl, ⟨R4, c4, x4, o4, hn4⟩, k4⟩
  have hrb : ∀ k, RowB R k → B ≤ k := fun k hk => by
    obtain ⟨ad, e, rfl⟩ := hk
    exact (po.block ad e).1
  have HN4 := Lib.hid hn4
  have HRB := Lib.hid hrb
  clear hn4 hrb
  go_wp2_with fail
  go_end0
  have hF : ∀ k, k < B → k ≠ x → ¬ (k = x ∨ RowB R k) := fun k hk hx h => by
    rcases h with h | h
    · exact hx h
    · have := HRB.out k h
      omega
  refine ⟨rfl, ⟨R4, c4, ?_, fun k hk => (HN4.out k hk).imp id (fun h => by omega)⟩, ?_⟩
  · exact ⟨(k4.block _ (by omega) (hF _ (by omega) (by omega))).trans p7, (k4.block _ (by omega) (hF _ (by omega) (by omega))).trans p3, (k4.block _ (by omega) (hF _ (by omega) (by omega))).trans p5, x4, S3.out.keeps k4 (hF _ (by omega) (by omega)), o4,
      pb.trans (k4.toBelow _ pb.size (fun k h => by
        rcases h with h | h
        · omega
        · have := HRB.out k h
          omega)), hlo, ⟨hhi.1, hhi.2.1, hhi.2.2.1, hhi.2.2.2.1, hhi.2.2.2.2.1, by have := k4.size; omega⟩, hne⟩
  · exact (k1.ofFalse.trans (k3.mono (fun _ _ h => .inr (.inl h)))).trans (k4.mono (fun _ _ h => h.imp id (fun h => .inr h)))
end Go.Proofs.YtacghpabjmnfiaaGreatDoor
namespace Go.Proofs.YtacghpabjmnfiaaGreatDoor
open Go.RowKit

set_option maxRecDepth 100000 in
set_option maxHeartbeats 800000 in
theorem wtake_bad {w0 w : World} {p lb mb0 n : Nat} {iv : Value} {D : DSt} (h0 : DkAt w0 p lb mb0 n iv D) {b7 b3 b5 x mb B nn : Nat} {R : Option Addr} {c : Nat} {l : List Nat} (h : GoS w0 w p b7 b3 b5 x mb B nn R c l)
    (s pg : Int) (hs1 : -9223372036854775808 ≤ s) (hs2 : s ≤ 9223372036854775807) (hbad : addS n l s = none) :
    Calls Tryz.prog 194 #[.int .i64 s, .int .i64 pg, .pointer (some ⟨b7, 0, none⟩), .pointer (some ⟨b3, 0, none⟩), .pointer (some ⟨b5, 0, none⟩)] w fun e w' => e = thrownT ∧ Below w.heap.size w w' := by
  have LK := h.s.look Tryz.underlying246 (zeroU w) s hs1 hs2
  have A1 := Lib.hid (allocU w)
  have k1 : Keeps (fun _ => False) w (w.alloc (.cells #[] 248)) := Keeps.alloc _ _ _
  have h1 := h.new k1
  have hb1 : Below w.heap.size w (w.alloc (.cells #[] 248)) := k1.toBelow _ (Nat.le_refl _) (fun _ h => h.elim)
  obtain ⟨c7, z7⟩ := cell1 h.e7
  obtain ⟨c3, z3⟩ := cell1 h1.e3
  have ST := Lib.hid (storeU w)
  have hio := wisOf_at (h0.same (keeps_below h1.b)) s
  clear h h1 k1
  by_cases hin : ∃ m ∈ l, s = (m : Int)
  · rw [decide_eq_true hin] at LK
    clear hin hbad
    go_enter Tryz.func194, Tryz.ntmps194
    go_wp2_with (first
      | ((with_reducible refine at_ (op := .alloc 248) ?_); refine wpList_val rfl _ (ex_alloc 248 rfl _ A1.out) ?_)
      | ((with_reducible refine here (op := .store 248 (.tmp 7) (.tmp 13)) ?_); refine wpList_store_run rfl 248 _ _ rfl _ _ rfl rfl ST.out ?_))
    refine (wdemand_bad _).mono ?_
    rintro e w' ⟨rfl, rfl⟩
    exact ⟨rfl, rfl, hb1⟩
  · rw [decide_eq_false hin] at LK
    have hno : decide (2 ≤ s ∧ s < (n : Int)) = false := decide_eq_false (by
      rintro ⟨g1, g2⟩
      unfold addS at hbad
      rw [if_pos ⟨g1, g2, fun hm => hin ⟨_, hm, by omega⟩⟩] at hbad
      cases hbad)
    rw [hno] at hio
    clear hin hbad hno
    go_enter Tryz.func194, Tryz.ntmps194
    go_wp2_with (first
      | ((with_reducible refine at_ (op := .alloc 248) ?_); refine wpList_val rfl _ (ex_alloc 248 rfl _ A1.out) ?_)
      | ((with_reducible refine here (op := .store 248 (.tmp 7) (.tmp 13)) ?_); refine wpList_store_run rfl 248 _ _ rfl _ _ rfl rfl ST.out ?_))
    refine hio.mono ?_
    rintro e w' ⟨rfl, rfl⟩
    go_wp2_with fail
    refine (wdemand_bad _).mono ?_
    rintro e w' ⟨rfl, rfl⟩
    exact ⟨rfl, rfl, hb1⟩
end Go.Proofs.YtacghpabjmnfiaaGreatDoor
