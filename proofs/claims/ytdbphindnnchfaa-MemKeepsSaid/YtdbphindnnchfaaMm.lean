/-
  Mm
-/
import Derived.Test.YtdbphindnnchfaaMapF
import Derived.Test.YtdbphindnnchfaaGDk
import Derived.Test.YtdbphindnnchfaaGT
namespace Go.Proofs.Ytdbphindnnchfaa.Mm
open Go.RowKit Go.Maps
set_option linter.unusedVariables false

theorem Keeps.thru {F F' F'' : Nat → Prop} {a b c : World} (h : Keeps F a b) (k : Keeps F' b c) (h1 : ∀ i, i < a.heap.size → F i → F'' i) (h2 : ∀ i, i < a.heap.size → F' i → F'' i) : Keeps F'' a c :=
  ⟨k.os.trans h.os, k.tape.trans h.tape, k.output.trans h.output, Nat.le_trans h.size k.size, fun i hi hF => (k.block i (Nat.lt_of_lt_of_le hi h.size) fun f => hF (h2 i hi f)).trans (h.block i hi fun f => hF (h1 i hi f))⟩

/-! ### pages -/
def z64' : Array Value := (zs64.map B8).toArray
theorem allocP (w : World) : (Instr.alloc 63 true (.tuple #[])).run Try.prog w = .ok (.pointer (some ⟨w.heap.size, 0, none⟩)) (w.alloc (.cells z64' 63)) := by kernel_rfl
theorem sizeP : (Try.prog.info? 63).map (·.size) = some 64 := by kernel_rfl
theorem zeroP (w : World) : (zeroValue 63).run Try.prog w = .ok (ag zs64) w := by kernel_rfl
theorem loadP {w : World} {b o : Nat} {xs : List UInt8} (hl : xs.length = 64) (h : w.rangeAt b o (xs.map B8)) :
    (Instr.loadAt 63 (.pointer (some ⟨b, o, none⟩))).run Try.prog w = .ok (ag xs) w :=
  run_loadAt_mid w b o 63 (xs.map B8) _ h Try.underlying63 rfl (by rw [sizeP, List.length_map, hl])
theorem storeP {w : World} {b o : Nat} {xs : List UInt8} (hl : xs.length = 64) (h : w.there b o 64) :
    (Instr.storeAt 63 (.pointer (some ⟨b, o, none⟩)) (ag xs)).run Try.prog w = .ok () (w.setCells b o (xs.map B8)) := by
  have := run_storeAt_mid (P := Try.prog) w b o 63 (xs.map B8).toArray (by simpa [hl] using h) (by rw [sizeP]; simp [hl]) (by
    refine all_oneCell_toArray (fun v hv => ?_)
    simp only [List.mem_map] at hv
    obtain ⟨u, _, rfl⟩ := hv
    rfl)
  simpa [ag] using this
theorem boxP (w : World) (xs : List UInt8) (h : xs.length = 64) : (Instr.box 63 (ag xs)).run Try.prog w = .ok (.pointer (some ⟨w.heap.size, 0, none⟩)) (w.alloc (.cells (xs.map B8).toArray 63)) := rfl
theorem arrP (w : World) (A : Option Addr) (c : Nat) : (Instr.arrayAt 63 (.slice A 64 c)).run Try.prog w = .ok (.pointer A) w := run_arrayAt w 63 5 64 A 64 c Try.underlying63 (by omega)
/-- A page's variable, laid out and stored into. -/
def PgAt (w : World) (b : Nat) (xs : List UInt8) : Prop := w.heap[b]? = some (.cells (xs.map B8).toArray 63 (0, 0))
theorem PgAt.new (w : World) : PgAt (w.alloc (.cells z64' 63)) w.heap.size zs64 := heap_alloc_new w _
theorem PgAt.put {w : World} {b : Nat} {xs ys : List UInt8} (h : PgAt w b xs) (hx : xs.length = 64) (hy : ys.length = 64) :
    (Instr.storeAt 63 (.pointer (some ⟨b, 0, none⟩)) (ag ys)).run Try.prog w = .ok () (w.setCells b 0 (ys.map B8)) ∧ PgAt (w.setCells b 0 (ys.map B8)) b ys ∧ Keeps (· = b) w (w.setCells b 0 (ys.map B8)) := by
  obtain ⟨h1, h2⟩ := setCells_block (ys := ys) 0 h (by omega)
  rw [splice_all _ _ (by omega)] at h1
  exact ⟨storeP hy (there_block h 0 64 (by omega)), h1, h2⟩
theorem PgAt.get {w : World} {b : Nat} {xs : List UInt8} (h : PgAt w b xs) (hx : xs.length = 64) : (Instr.loadAt 63 (.pointer (some ⟨b, 0, none⟩))).run Try.prog w = .ok (ag xs) w := by
  have := range_block h 0 64
  rw [List.drop_zero, List.take_of_length_le (by omega)] at this
  exact loadP hx this
theorem PgAt.lt {w : World} {b : Nat} {xs : List UInt8} (h : PgAt w b xs) : b < w.heap.size := (Array.getElem?_eq_some_iff.1 h).1
theorem PgAt.keep {w w' : World} {b : Nat} {xs : List UInt8} {F : Nat → Prop} (h : PgAt w b xs) (k : Keeps F w w') (hF : ¬ F b) : PgAt w' b xs := (k.block b h.lt hF).trans h

/-! ### a memory -/
/-- The n-th page of any bytes. -/
def page (L : List UInt8) (n : Nat) : List UInt8 := (L.drop (n * 64)).take 64
theorem page_len {L : List UInt8} (h : L.length = 8192) {n : Nat} (hn : n < 128) : (page L n).length = 64 := by
  unfold page
  rw [List.length_take, List.length_drop, h]
  omega
def memCells (gb mb : Nat) (ch : List Bool) : List Value := .pointer none :: .slice (some ⟨gb, 0, none⟩) 8192 8192 :: .map (some mb) :: ch.map Value.bool

/-- The pages that were asked for are as they are now; the others are as given. -/
structure PagesOk (f : Nat → Option (List UInt8)) (G M : List UInt8) : Prop where
  now : ∀ i, i < 128 → ∀ x, f i = some x → x = page M i
  was : ∀ i, i < 128 → f i = none → page M i = page G i

/-- A memory lies at block p: G as given, M as it is now. -/
structure MemAt (w : World) (p gb mb : Nat) (G M : List UInt8) : Prop where
  gl : G.length = 8192
  ml : M.length = 8192
  head : ∃ ch : List Bool, ch.length = 128 ∧ w.heap[p]? = some (.cells (memCells gb mb ch).toArray 54 (0, 0))
  given : w.heap[gb]? = some (.cells (G.map B8).toArray 5 (0, 0))
  map : ∃ f, MapF pageC w mb 128 f ∧ PagesOk f G M

theorem MapF.tight {V : Type} {C : Codec V} {w : World} {mb nn : Nat} {f : Nat → Option V} (h : MapF C w mb nn f) : MapF C w mb 128 f := by
  obtain ⟨D, hown, hD⟩ := h
  have h1 := hD.size hown
  have h2 := keysF_len f
  obtain ⟨es, clock, hb, F, hs, rfl⟩ := hown
  have h3 : Maps.size (DataW.map ((es.toList.map (WideElems.rg Try.prog 3 C.R)).foldr DataW.insert [])) = es.size := length_read es
  exact ⟨_, ⟨es, clock, hb, F, by omega, rfl⟩, hD⟩

variable {w : World} {p gb mb : Nat} {G M : List UInt8}
theorem MemAt.lt (h : MemAt w p gb mb G M) : p < w.heap.size ∧ gb < w.heap.size ∧ mb < w.heap.size := by
  obtain ⟨ch, _, hh⟩ := h.head
  obtain ⟨f, hf, _⟩ := h.map
  exact ⟨(Array.getElem?_eq_some_iff.1 hh).1, (Array.getElem?_eq_some_iff.1 h.given).1, hf.lt⟩
theorem MemAt.keep {w' : World} {F : Nat → Prop} (h : MemAt w p gb mb G M) (k : Keeps F w w') (hp : ¬ F p) (hg : ¬ F gb) (hm : ¬ F mb) : MemAt w' p gb mb G M := by
  obtain ⟨l1, l2, l3⟩ := h.lt
  obtain ⟨ch, hl, hh⟩ := h.head
  obtain ⟨f, hf, hok⟩ := h.map
  exact ⟨h.gl, h.ml, ⟨ch, hl, (k.block p l1 hp).trans hh⟩, (k.block gb l2 hg).trans h.given, ⟨f, hf.keeps k hm, hok⟩⟩
theorem MemAt.c (h : MemAt w p gb mb G M) : w.cell? ⟨p, 0, none⟩ = some (.pointer none) ∧ w.cell? ⟨p, 1, none⟩ = some (.slice (some ⟨gb, 0, none⟩) 8192 8192) ∧ w.cell? ⟨p, 2, none⟩ = some (.map (some mb)) := by
  obtain ⟨ch, _, hh⟩ := h.head
  refine ⟨?_, ?_, ?_⟩ <;> rw [cell_of_row _ _ _ _ _ _ hh] <;> rfl
/-- The three are apart. -/
theorem MemAt.apart (h : MemAt w p gb mb G M) : p ≠ gb ∧ p ≠ mb ∧ gb ≠ mb := by
  obtain ⟨ch, _, hh⟩ := h.head
  obtain ⟨f, ⟨D, ⟨es, clock, hb, _⟩, _⟩, _⟩ := h.map
  refine ⟨?_, ?_, ?_⟩
  · intro e
    have h1 := hh
    rw [e, h.given] at h1
    simp only [Option.some.injEq, Obj.cells.injEq] at h1
    exact absurd h1.2.1 (by decide)
  · intro e
    have h1 := hh
    rw [e, hb] at h1
    cases h1
  · intro e
    have h1 := h.given
    rw [e, hb] at h1
    cases h1

set_option maxRecDepth 100000 in
set_option maxHeartbeats 400000 in
theorem mmade_at (h : MemAt w p gb mb G M) : Calls Try.prog 35 #[.pointer (some ⟨p, 0, none⟩)] w fun e w' => e = .returned (.bool true) ∧ w = w' := by
  obtain ⟨c0, c1, c2⟩ := h.c
  clear h
  have hnm := fun (w : World) => run_neq_map_nil (P := Try.prog) w 51 3 63 (some mb) Try.underlying51
  go_enter Try.func35, Try.ntmps35
  go_wp2_with fail
  go_ret
  exact ⟨rfl, rfl⟩
theorem ex_arr {P : Program} {w w' : World} {o : Oper} {ρ : Operand → Value} (t : TypeId) (x : Operand) (ho : o.op = .sliceToArrayPointer t x) (p v : Value) (hp : ρ x = p) (hrun : (Instr.arrayAt t p).run P w = .ok v w') : (execOp ρ o).run P w = .ok (.value v) w' := by
  unfold execOp
  simp only [ho, hp, Sem.run_bind, hrun, Result.andThen_ok, Sem.run_pure]
set_option maxRecDepth 100000 in
set_option maxHeartbeats 400000 in
theorem mstored_at (h : MemAt w p gb mb G M) (n : Nat) (hn : n < 128) : Calls Try.prog 48 #[.pointer (some ⟨p, 0, none⟩), .int .i64 (n : Int)] w fun e w' => e = .returned (.tuple #[ag (page G n), .bool true]) ∧ Keeps (fun _ => False) w w' := by
  obtain ⟨c0, c1, c2⟩ := h.c
  have hlt := h.lt
  have hl := page_len h.gl hn
  have k1 : Keeps (fun _ => False) w (w.alloc (.cells z64' 63)) := Keeps.alloc _ _ _
  have g1 : (w.alloc (.cells z64' 63)).heap[gb]? = _ := (k1.block gb hlt.2.1 (fun h => h)).trans h.given
  have AR := Lib.hid (show (Instr.arrayAt 63 (.slice (some ⟨gb, n * 64, none⟩) ((n + 1) * 64 - n * 64) (8192 - n * 64))).run Try.prog (w.alloc (.cells z64' 63)) = .ok (.pointer (some ⟨gb, n * 64, none⟩)) (w.alloc (.cells z64' 63)) by
    rw [show (n + 1) * 64 - n * 64 = 64 by omega]; exact arrP _ _ _)
  have LD := Lib.hid (loadP hl (range_block g1 (n * 64) 64))
  obtain ⟨s1, s2, s3⟩ := (PgAt.new w).put zs64_len hl
  have ST := Lib.hid s1
  have P2 := Lib.hid s2
  have K2 := Lib.hid (Keeps.thru (F'' := fun _ => False) k1 s3 (fun _ _ h => h) fun _ _ h => by omega)
  clear s1 s2 s3 k1 g1 h
  have HL := Lib.hid hl
  clear hl
  go_enter Try.func48, Try.ntmps48
  go_wp2_with (first
      | ((with_reducible refine here (op := .alloc 63) (d := some 4) ?_); refine wpList_alloc_run rfl 63 rfl _ (allocP _) ?_)
      | ((with_reducible refine at_ (op := .sliceToArrayPointer 63 (.tmp 22)) ?_); refine wpList_val rfl _ (ex_arr 63 (.tmp 22) rfl _ _ rfl AR.out) ?_)
      | ((with_reducible refine here (op := .load 63 (.tmp 23)) ?_); refine wpList_load_run rfl 63 _ rfl _ _ rfl LD.out ?_)
      | ((with_reducible refine here (op := .store 63 (.tmp 4) (.tmp 24)) ?_); refine wpList_store_run rfl 63 _ _ rfl _ _ rfl rfl ST.out ?_))
  refine bodyPost_ret (v := .tuple #[ag (page G n), .bool true]) ?_ rfl ⟨rfl, K2.out⟩
  exact results_row_tmp rfl _ _ w.heap.size 63 _ (0, 0) _ _ rfl rfl P2.out Try.underlying63 rfl (by rw [sizeP]; simp [HL.out])
end Go.Proofs.Ytdbphindnnchfaa.Mm
