/-
  Merged by wip/tools/merge.py: Mm MmPage MmPut MmPlain MmLoad
-/
import Derived.Test.YthmlhjjcihibnaaMapF
import Derived.Test.YthmlhjjcihibnaaGDk
import Derived.Test.YthmlhjjcihibnaaGT
import Derived.Test.YthmlhjjcihibnaaGA
import Derived.Test.YthmlhjjcihibnaaGB
import Derived.WalkLawsBesides
namespace Go.Proofs.Ythmlhjjcihibnaa.Mm
open Go.RowKit Go.Maps
set_option linter.unusedVariables false

theorem Keeps.thru {F F' F'' : Nat → Prop} {a b c : World} (h : Keeps F a b) (k : Keeps F' b c) (h1 : ∀ i, i < a.heap.size → F i → F'' i) (h2 : ∀ i, i < a.heap.size → F' i → F'' i) : Keeps F'' a c :=
  ⟨k.os.trans h.os, k.tape.trans h.tape, k.output.trans h.output, Nat.le_trans h.size k.size, fun i hi hF => (k.block i (Nat.lt_of_lt_of_le hi h.size) fun f => hF (h2 i hi f)).trans (h.block i hi fun f => hF (h1 i hi f))⟩

/-! ### pages -/
def z64' : Array Value := (zs64.map B8).toArray
theorem allocP (w : World) : (Instr.alloc 72 true (.tuple #[])).run Try.prog w = .ok (.pointer (some ⟨w.heap.size, 0, none⟩)) (w.alloc (.cells z64' 72)) := by kernel_rfl
theorem sizeP : (Try.prog.info? 72).map (·.size) = some 64 := by kernel_rfl
theorem zeroP (w : World) : (zeroValue 72).run Try.prog w = .ok (ag zs64) w := by kernel_rfl
theorem loadP {w : World} {b o : Nat} {xs : List UInt8} (hl : xs.length = 64) (h : w.rangeAt b o (xs.map B8)) :
    (Instr.loadAt 72 (.pointer (some ⟨b, o, none⟩))).run Try.prog w = .ok (ag xs) w :=
  run_loadAt_mid w b o 72 (xs.map B8) _ h Try.underlying72 rfl (by rw [sizeP, List.length_map, hl])
theorem storeP {w : World} {b o : Nat} {xs : List UInt8} (hl : xs.length = 64) (h : w.there b o 64) :
    (Instr.storeAt 72 (.pointer (some ⟨b, o, none⟩)) (ag xs)).run Try.prog w = .ok () (w.setCells b o (xs.map B8)) := by
  have := run_storeAt_mid (P := Try.prog) w b o 72 (xs.map B8).toArray (by simpa [hl] using h) (by rw [sizeP]; simp [hl]) (by
    refine all_oneCell_toArray (fun v hv => ?_)
    simp only [List.mem_map] at hv
    obtain ⟨u, _, rfl⟩ := hv
    rfl)
  simpa [ag] using this
theorem boxP (w : World) (xs : List UInt8) (h : xs.length = 64) : (Instr.box 72 (ag xs)).run Try.prog w = .ok (.pointer (some ⟨w.heap.size, 0, none⟩)) (w.alloc (.cells (xs.map B8).toArray 72)) := rfl
theorem arrP (w : World) (A : Option Addr) (c : Nat) : (Instr.arrayAt 72 (.slice A 64 c)).run Try.prog w = .ok (.pointer A) w := run_arrayAt w 72 5 64 A 64 c Try.underlying72 (by omega)
/-- A page's variable, laid out and stored into. -/
def PgAt (w : World) (b : Nat) (xs : List UInt8) : Prop := w.heap[b]? = some (.cells (xs.map B8).toArray 72 (0, 0))
theorem PgAt.new (w : World) : PgAt (w.alloc (.cells z64' 72)) w.heap.size zs64 := heap_alloc_new w _
theorem PgAt.put {w : World} {b : Nat} {xs ys : List UInt8} (h : PgAt w b xs) (hx : xs.length = 64) (hy : ys.length = 64) :
    (Instr.storeAt 72 (.pointer (some ⟨b, 0, none⟩)) (ag ys)).run Try.prog w = .ok () (w.setCells b 0 (ys.map B8)) ∧ PgAt (w.setCells b 0 (ys.map B8)) b ys ∧ Keeps (· = b) w (w.setCells b 0 (ys.map B8)) := by
  obtain ⟨h1, h2⟩ := setCells_block (ys := ys) 0 h (by omega)
  rw [splice_all _ _ (by omega)] at h1
  exact ⟨storeP hy (there_block h 0 64 (by omega)), h1, h2⟩
theorem PgAt.get {w : World} {b : Nat} {xs : List UInt8} (h : PgAt w b xs) (hx : xs.length = 64) : (Instr.loadAt 72 (.pointer (some ⟨b, 0, none⟩))).run Try.prog w = .ok (ag xs) w := by
  have := range_block h 0 64
  rw [List.drop_zero, List.take_of_length_le (by omega)] at this
  exact loadP hx this
theorem PgAt.lt {w : World} {b : Nat} {xs : List UInt8} (h : PgAt w b xs) : b < w.heap.size := (Array.getElem?_eq_some_iff.1 h).1
theorem PgAt.keep {w w' : World} {b : Nat} {xs : List UInt8} {F : Nat → Prop} (h : PgAt w b xs) (k : Keeps F w w') (hF : ¬ F b) : PgAt w' b xs := (k.block b h.lt hF).trans h

/-! ### a memory -/
/-- The n-th page of any bytes. -/
def page (L : List UInt8) (n : Nat) : List UInt8 := (L.drop (n * 64)).take 64
theorem page_len {L : List UInt8} (h : L.length = 8192) {n : Nat} (hn : n < 128) : (page L n).length = 64 := by
  unfold page
  rw [List.length_take, List.length_drop, h]
  omega
def memCells (gb mb : Nat) (ch : List Bool) : List Value := .pointer none :: .slice (some ⟨gb, 0, none⟩) 8192 8192 :: .map (some mb) :: ch.map Value.bool

/-- The pages that were asked for are as they are now; the others are as given. -/
structure PagesOk (f : Nat → Option (List UInt8)) (G M : List UInt8) : Prop where
  now : ∀ i, i < 128 → ∀ x, f i = some x → x = page M i
  was : ∀ i, i < 128 → f i = none → page M i = page G i

/-- A memory lies at block p: G as given, M as it is now. -/
structure MemAt (w : World) (p gb mb : Nat) (G M : List UInt8) : Prop where
  gl : G.length = 8192
  ml : M.length = 8192
  head : ∃ ch : List Bool, ch.length = 128 ∧ w.heap[p]? = some (.cells (memCells gb mb ch).toArray 57 (0, 0))
  given : w.heap[gb]? = some (.cells (G.map B8).toArray 5 (0, 0))
  map : ∃ f, MapF pageC w mb 128 f ∧ PagesOk f G M

theorem MapF.tight {V : Type} {C : Codec V} {w : World} {mb nn : Nat} {f : Nat → Option V} (h : MapF C w mb nn f) : MapF C w mb 128 f := by
  obtain ⟨D, hown, hD⟩ := h
  have h1 := hD.size hown
  have h2 := keysF_len f
  obtain ⟨es, clock, hb, F, hs, rfl⟩ := hown
  have h3 : Maps.size (DataW.map ((es.toList.map (WideElems.rg Try.prog 3 C.R)).foldr DataW.insert [])) = es.size := length_read es
  exact ⟨_, ⟨es, clock, hb, F, by omega, rfl⟩, hD⟩

variable {w : World} {p gb mb : Nat} {G M : List UInt8}
theorem MemAt.lt (h : MemAt w p gb mb G M) : p < w.heap.size ∧ gb < w.heap.size ∧ mb < w.heap.size := by
  obtain ⟨ch, _, hh⟩ := h.head
  obtain ⟨f, hf, _⟩ := h.map
  exact ⟨(Array.getElem?_eq_some_iff.1 hh).1, (Array.getElem?_eq_some_iff.1 h.given).1, hf.lt⟩
theorem MemAt.keep {w' : World} {F : Nat → Prop} (h : MemAt w p gb mb G M) (k : Keeps F w w') (hp : ¬ F p) (hg : ¬ F gb) (hm : ¬ F mb) : MemAt w' p gb mb G M := by
  obtain ⟨l1, l2, l3⟩ := h.lt
  obtain ⟨ch, hl, hh⟩ := h.head
  obtain ⟨f, hf, hok⟩ := h.map
  exact ⟨h.gl, h.ml, ⟨ch, hl, (k.block p l1 hp).trans hh⟩, (k.block gb l2 hg).trans h.given, ⟨f, hf.keeps k hm, hok⟩⟩
theorem MemAt.c (h : MemAt w p gb mb G M) : w.cell? ⟨p, 0, none⟩ = some (.pointer none) ∧ w.cell? ⟨p, 1, none⟩ = some (.slice (some ⟨gb, 0, none⟩) 8192 8192) ∧ w.cell? ⟨p, 2, none⟩ = some (.map (some mb)) := by
  obtain ⟨ch, _, hh⟩ := h.head
  refine ⟨?_, ?_, ?_⟩ <;> rw [cell_of_row _ _ _ _ _ _ hh] <;> rfl
/-- The three are apart. -/
theorem MemAt.apart (h : MemAt w p gb mb G M) : p ≠ gb ∧ p ≠ mb ∧ gb ≠ mb := by
  obtain ⟨ch, _, hh⟩ := h.head
  obtain ⟨f, ⟨D, ⟨es, clock, hb, _⟩, _⟩, _⟩ := h.map
  refine ⟨?_, ?_, ?_⟩
  · intro e
    have h1 := hh
    rw [e, h.given] at h1
    simp only [Option.some.injEq, Obj.cells.injEq] at h1
    exact absurd h1.2.1 (by decide)
  · intro e
    have h1 := hh
    rw [e, hb] at h1
    cases h1
  · intro e
    have h1 := h.given
    rw [e, hb] at h1
    cases h1

set_option maxRecDepth 100000 in
set_option maxHeartbeats 400000 in
theorem mmade_at (h : MemAt w p gb mb G M) : Calls Try.prog 41 #[.pointer (some ⟨p, 0, none⟩)] w fun e w' => e = .returned (.bool true) ∧ w = w' := by
  obtain ⟨c0, c1, c2⟩ := h.c
  clear h
  have hnm := fun (w : World) => run_neq_map_nil (P := Try.prog) w 54 3 72 (some mb) Try.underlying54
  go_enter Try.func41, Try.ntmps41
  go_wp2_with fail
  go_ret
  exact ⟨rfl, rfl⟩
theorem ex_arr {P : Program} {w w' : World} {o : Oper} {ρ : Operand → Value} (t : TypeId) (x : Operand) (ho : o.op = .sliceToArrayPointer t x) (p v : Value) (hp : ρ x = p) (hrun : (Instr.arrayAt t p).run P w = .ok v w') : (execOp ρ o).run P w = .ok (.value v) w' := by
  unfold execOp
  simp only [ho, hp, Sem.run_bind, hrun, Result.andThen_ok, Sem.run_pure]
set_option maxRecDepth 100000 in
set_option maxHeartbeats 400000 in
theorem mstored_at (h : MemAt w p gb mb G M) (n : Nat) (hn : n < 128) : Calls Try.prog 49 #[.pointer (some ⟨p, 0, none⟩), .int .i64 (n : Int)] w fun e w' => e = .returned (.tuple #[ag (page G n), .bool true]) ∧ Keeps (fun _ => False) w w' := by
  obtain ⟨c0, c1, c2⟩ := h.c
  have hlt := h.lt
  have hl := page_len h.gl hn
  have k1 : Keeps (fun _ => False) w (w.alloc (.cells z64' 72)) := Keeps.alloc _ _ _
  have g1 : (w.alloc (.cells z64' 72)).heap[gb]? = _ := (k1.block gb hlt.2.1 (fun h => h)).trans h.given
  have AR := Lib.hid (show (Instr.arrayAt 72 (.slice (some ⟨gb, n * 64, none⟩) ((n + 1) * 64 - n * 64) (8192 - n * 64))).run Try.prog (w.alloc (.cells z64' 72)) = .ok (.pointer (some ⟨gb, n * 64, none⟩)) (w.alloc (.cells z64' 72)) by
    rw [show (n + 1) * 64 - n * 64 = 64 by omega]; exact arrP _ _ _)
  have LD := Lib.hid (loadP hl (range_block g1 (n * 64) 64))
  obtain ⟨s1, s2, s3⟩ := (PgAt.new w).put zs64_len hl
  have ST := Lib.hid s1
  have P2 := Lib.hid s2
  have K2 := Lib.hid (Keeps.thru (F'' := fun _ => False) k1 s3 (fun _ _ h => h) fun _ _ h => by omega)
  clear s1 s2 s3 k1 g1 h
  have HL := Lib.hid hl
  clear hl
  go_enter Try.func49, Try.ntmps49
  go_wp2_with (first
      | ((with_reducible refine here (op := .alloc 72) (d := some 4) ?_); refine wpList_alloc_run rfl 72 rfl _ (allocP _) ?_)
      | ((with_reducible refine at_ (op := .sliceToArrayPointer 72 (.tmp 22)) ?_); refine wpList_val rfl _ (ex_arr 72 (.tmp 22) rfl _ _ rfl AR.out) ?_)
      | ((with_reducible refine here (op := .load 72 (.tmp 23)) ?_); refine wpList_load_run rfl 72 _ rfl _ _ rfl LD.out ?_)
      | ((with_reducible refine here (op := .store 72 (.tmp 4) (.tmp 24)) ?_); refine wpList_store_run rfl 72 _ _ rfl _ _ rfl rfl ST.out ?_))
  refine bodyPost_ret (v := .tuple #[ag (page G n), .bool true]) ?_ rfl ⟨rfl, K2.out⟩
  exact results_row_tmp rfl _ _ w.heap.size 72 _ (0, 0) _ _ rfl rfl P2.out Try.underlying72 rfl (by rw [sizeP]; simp [HL.out])
end Go.Proofs.Ythmlhjjcihibnaa.Mm
namespace Go.Proofs.Ythmlhjjcihibnaa.Mm
open Go.RowKit Go.Maps
set_option linter.unusedVariables false

theorem allocP2 (w : World) (o : Obj) : (Instr.alloc 72 true (.tuple #[])).run Try.prog (w.alloc o) = .ok (.pointer (some ⟨w.heap.size + 1, 0, none⟩)) ((w.alloc o).alloc (.cells z64' 72)) := by
  have := allocP (w.alloc o)
  rwa [World.size_alloc] at this
theorem put71 {w : World} {mb nn : Nat} {f : Nat → Option (List UInt8)} (h : MapF pageC w mb nn f) (n : Nat) (hn : n < 128) (x : List UInt8) (hq : nn < maxLen) :
    ∃ w', (Instr.mapUpdate 54 (.map (some mb)) (.int .i64 (n : Int)) (ag x)).run Try.prog w = .ok () w' ∧ MapF pageC w' mb 128 (updF f n x) ∧ Keeps (· = mb) w w' ∧ w'.heap.size = w.heap.size := by
  obtain ⟨w', h1, h2, h3, h4⟩ := h.put Try.underlying54 n hn x hq
  exact ⟨w', h1, MapF.tight h2, Keeps.grown _ h3 (fun k e => by cases e; rfl), h4⟩

/-- Two new pages, the second of which is stored into. -/
def two (w : World) : World := (w.alloc (.cells z64' 72)).alloc (.cells z64' 72)
theorem two_facts (w : World) (xs : List UInt8) (hx : xs.length = 64) :
    (Instr.storeAt 72 (.pointer (some ⟨w.heap.size + 1, 0, none⟩)) (ag xs)).run Try.prog (two w) = .ok () ((two w).setCells (w.heap.size + 1) 0 (xs.map B8)) ∧
      PgAt ((two w).setCells (w.heap.size + 1) 0 (xs.map B8)) (w.heap.size + 1) xs ∧ PgAt ((two w).setCells (w.heap.size + 1) 0 (xs.map B8)) w.heap.size zs64 ∧ Keeps (fun _ => False) w ((two w).setCells (w.heap.size + 1) 0 (xs.map B8)) := by
  have h1 : PgAt (two w) (w.heap.size + 1) zs64 := heap_alloc2_new w _ _
  have h0 : PgAt (two w) w.heap.size zs64 := heap_alloc2_old w _ _
  obtain ⟨s1, s2, s3⟩ := h1.put zs64_len hx
  exact ⟨s1, s2, h0.keep s3 (by omega), Keeps.thru ((Keeps.alloc (fun _ => False) w (.cells z64' 72)).trans (Keeps.alloc (fun _ => False) _ (.cells z64' 72))) s3 (fun _ _ h => h) fun _ _ h => by omega⟩

variable {w : World} {p gb mb : Nat} {G M : List UInt8}
set_option maxRecDepth 100000 in
set_option maxHeartbeats 400000 in
theorem mpage_at (h : MemAt w p gb mb G M) (n : Nat) (hn : n < 128) :
    Calls Try.prog 43 #[.pointer (some ⟨p, 0, none⟩), .int .i64 (n : Int)] w fun e w' => e = .returned (ag (page M n)) ∧ MemAt w' p gb mb G M ∧ Keeps (· = mb) w w' := by
  have hlen := page_len h.ml hn
  have hlt := h.lt
  have ap := h.apart
  obtain ⟨c0, c1, c2⟩ := h.c
  obtain ⟨f, hf, hok⟩ := h.map
  have look := (hf.keep (w' := w.alloc (.cells z64' 72)) (Below.heap_alloc _ _ _ hf.lt)).look Try.underlying54 zs64 (zeroP _) n hn
  change (Instr.lookup _ _ _ _).run _ _ = .ok (.tuple #[ag ((f n).getD zs64), .bool (f n).isSome]) _ at look
  cases hl : f n with
  | some x =>
    have e := hok.now n hn x hl
    rw [hl] at look
    simp only [Option.getD_some, Option.isSome_some] at look
    rw [e] at look
    have LK := Lib.hid look
    have HL := Lib.hid hlen
    obtain ⟨s1, s2, s3, s4⟩ := two_facts w (page M n) hlen
    obtain ⟨t1, t2, t3⟩ := s3.put zs64_len hlen
    have ST1 := Lib.hid s1
    have LD := Lib.hid (s2.get hlen)
    have ST2 := Lib.hid t1
    have P2 := Lib.hid t2
    have KK := Lib.hid (Keeps.thru (F'' := fun _ => False) s4 t3 (fun _ _ h => h) fun _ _ h => by omega)
    have HM := Lib.hid h
    clear look e hl hok hf s1 s2 s3 s4 t1 t2 t3 hlen h
    go_enter Try.func43, Try.ntmps43
    go_wp2_with (first
      | ((with_reducible refine here (op := .alloc 72) (d := some 4) ?_); refine wpList_alloc_run rfl 72 rfl _ (allocP _) ?_)
      | ((with_reducible refine here (op := .lookup 54 (.tmp 13) (.tmp 14) true) ?_); refine wpList_lookup_run rfl 54 _ _ true rfl _ _ _ rfl rfl LK.out ?_)
      | ((with_reducible refine here (op := .alloc 72) (d := some 5) ?_); refine wpList_alloc_run rfl 72 rfl _ (allocP2 _ _) ?_)
      | ((with_reducible refine here (op := .store 72 (.tmp 5) (.tmp 16)) ?_); refine wpList_store_run rfl 72 _ _ rfl _ _ rfl rfl ST1.out ?_)
      | ((with_reducible refine here (op := .load 72 (.tmp 5)) ?_); refine wpList_load_run rfl 72 _ rfl _ _ rfl LD.out ?_)
      | ((with_reducible refine here (op := .store 72 (.tmp 4) (.tmp 19)) ?_); refine wpList_store_run rfl 72 _ _ rfl _ _ rfl rfl ST2.out ?_))
    refine bodyPost_ret (v := ag (page M n)) ?_ rfl ⟨rfl, HM.out.keep KK.out (fun h => h) (fun h => h) (fun h => h), KK.out.mono fun _ _ h => h.elim⟩
    exact results_cell_row rfl _ _ w.heap.size 72 _ (0, 0) _ rfl P2.out Try.underlying72 rfl (by rw [sizeP]; simp [HL.out])
  | none =>
    have e := hok.was n hn hl
    rw [hl] at look
    simp only [Option.getD_none, Option.isSome_none] at look
    have LK := Lib.hid look
    have HL := Lib.hid hlen
    obtain ⟨s1, s2, s3, s4⟩ := two_facts w zs64 zs64_len
    have ST1 := Lib.hid s1
    have P3 := Lib.hid s3
    have K3 := Lib.hid s4
    have h3 := h.keep s4 (fun h => h) (fun h => h) (fun h => h)
    have HF := Lib.hid (hf.keeps s4 (fun h => h))
    have HO := Lib.hid hok
    have HLF := Lib.hid hl
    have E := Lib.hid e
    have gl := h.gl
    have ml := h.ml
    obtain ⟨ch, hcl, hhead⟩ := h3.head
    have CH := Lib.hid hhead
    have GV := Lib.hid h3.given
    clear look e hl hok hf s1 s2 s3 s4 hlen h hhead
    go_enter Try.func43, Try.ntmps43
    go_wp2_with (first
      | ((with_reducible refine here (op := .alloc 72) (d := some 4) ?_); refine wpList_alloc_run rfl 72 rfl _ (allocP _) ?_)
      | ((with_reducible refine here (op := .lookup 54 (.tmp 13) (.tmp 14) true) ?_); refine wpList_lookup_run rfl 54 _ _ true rfl _ _ _ rfl rfl LK.out ?_)
      | ((with_reducible refine here (op := .alloc 72) (d := some 5) ?_); refine wpList_alloc_run rfl 72 rfl _ (allocP2 _ _) ?_)
      | ((with_reducible refine here (op := .store 72 (.tmp 5) (.tmp 16)) ?_); refine wpList_store_run rfl 72 _ _ rfl _ _ rfl rfl ST1.out ?_)
      | fail)
    refine (mstored_at h3 n hn).mono ?_
    rintro e w4 ⟨rfl, k4⟩
    rw [← E.out]
    have k04 : Keeps (fun _ => False) w w4 := K3.out.trans k4
    have p4 : PgAt w4 w.heap.size zs64 := P3.out.keep k4 (fun h => h)
    have b4 : w.heap.size < w4.heap.size := p4.lt
    obtain ⟨s1, s2, s3⟩ := (PgAt.new w4).put zs64_len HL.out
    have kA : Keeps (fun _ => False) w4 (w4.alloc (.cells z64' 72)) := Keeps.alloc _ _ _
    have k46 : Keeps (fun _ => False) w4 ((w4.alloc (.cells z64' 72)).setCells w4.heap.size 0 ((page M n).map B8)) := Keeps.thru kA s3 (fun _ _ h => h) fun _ _ h => by omega
    have k06 := k04.trans k46
    have p6 := p4.keep k46 (fun h => h)
    have m6 := HF.out.keeps (k4.trans k46) (fun h => h)
    have ST6 := Lib.hid s1
    have P6 := Lib.hid s2
    have P6' := Lib.hid p6
    have K06 := Lib.hid k06
    have M6 := Lib.hid m6
    have C6 := Lib.hid ((k06.cell p 2 hlt.1 (fun h => h)).trans c2)
    have CH6 := Lib.hid (((k4.trans k46).block p h3.lt.1 (fun h => h)).trans CH.out)
    have GV6 := Lib.hid (((k4.trans k46).block gb h3.lt.2.1 (fun h => h)).trans GV.out)
    clear s1 s2 s3 k46 k06 p6 m6 P3 K3 HF k4 k04 h3 LK ST1 CH GV kA p4
    generalize (two w).setCells (w.heap.size + 1) 0 (List.map B8 zs64) = w3 at *
    generalize hP : page M n = x at *
    have HP := Lib.hid hP
    clear hP
    go_wp2_with (first
      | ((with_reducible refine here (op := .alloc 72) (d := some 7) ?_); refine wpList_alloc_run rfl 72 rfl _ (allocP _) ?_)
      | ((with_reducible refine here (op := .store 72 (.tmp 7) (.tmp 26)) ?_); refine wpList_store_run rfl 72 _ _ rfl _ _ rfl rfl ST6.out ?_))
    generalize (w4.alloc (.cells z64' 72)).setCells w4.heap.size 0 (x.map B8) = w6 at *
    have c6 := C6.out
    have LD := Lib.hid ((show PgAt w6.drew w4.heap.size x from P6.out).get HL.out)
    refine wp_region_still_tail 6 (by kernel_rfl) (by kernel_rfl) ?_
    simp only [List.take_succ_cons, List.take_zero, List.drop_succ_cons, List.drop_zero]
    change wpStill _ _ w6.drew (fun a' => wpList _ _ _ _ a' w6.drew) _ _
    have k67 : Keeps (fun _ => False) w6 w6.drew := Keeps.drew _ _
    have e67 : Hid (w6.drew.heap = w6.heap) := rfl
    have c7 : w6.drew.cell? ⟨p, 2, none⟩ = some (.map (some mb)) := c6
    have m7 := M6.out.keeps k67 (fun h => h)
    have p7 := P6.out.keep k67 (fun h => h)
    have p7' := P6'.out.keep k67 (fun h => h)
    generalize w6.drew = w7 at *
    obtain ⟨w8, u1, u2, u3, u4⟩ := put71 m7 n hn x (by unfold maxLen; omega)
    have UP := Lib.hid u1
    obtain ⟨hl1, hl2, hl3⟩ := hlt
    have p8 := p7.keep u3 (by omega)
    have p8' := p7'.keep u3 (by omega)
    obtain ⟨t1, t2, t3⟩ := p8'.put zs64_len HL.out
    have LD8 := Lib.hid (p8.get HL.out)
    have ST8 := Lib.hid t1
    have P9 := Lib.hid t2
    have m8 : MemAt w8 p gb mb G M := by
      refine ⟨gl, ml, ⟨ch, hcl, (u3.block p ?_ ap.2.1).trans ((k67.block p ?_ (fun h => h)).trans CH6.out)⟩, (u3.block gb ?_ ap.2.2).trans ((k67.block gb ?_ (fun h => h)).trans GV6.out), ⟨_, u2, ⟨fun i hi y hy => ?_, fun i hi hy => ?_⟩⟩⟩
      · exact Nat.lt_of_lt_of_le hl1 (Nat.le_trans K06.out.size k67.size)
      · exact Nat.lt_of_lt_of_le hl1 K06.out.size
      · exact Nat.lt_of_lt_of_le hl2 (Nat.le_trans K06.out.size k67.size)
      · exact Nat.lt_of_lt_of_le hl2 K06.out.size
      · unfold updF at hy
        split at hy
        · rename_i e
          cases hy
          rw [e, HP.out]
        · exact HO.out.now i hi y hy
      · unfold updF at hy
        split at hy
        · cases hy
        · exact HO.out.was i hi hy
    have M9 := Lib.hid (m8.keep t3 (by omega) (by omega) (by omega))
    have K9 := Lib.hid (Keeps.thru (F'' := fun k => k = mb) (Keeps.thru (F'' := fun k => k = mb) (K06.out.trans k67) u3 (fun _ _ h => h.elim) fun _ _ h => h) t3 (fun _ _ h => h) fun _ _ h => by omega)
    clear u1 m7 t1 t2 t3 p8 p8' m8 u2 u3 p7 p7' M6 CH6 GV6 K06 k67 P6 P6'
    still_step
    still_step
    still_step
    still_step
    still_step
    refine wpStill_load rfl 72 (.tmp 7) rfl _ _ rfl LD.out ?_
    refine wpStill_nil ?_
    simp only [Act.put, List.setIfInBounds_toArray, List.set_cons_zero, List.set_cons_succ]
    refine wpList_mapUpdate_run rfl 54 _ _ _ rfl _ _ _ rfl rfl rfl UP.out ?_
    go_wp2_with (first
      | ((with_reducible refine here (op := .load 72 (.tmp 7)) ?_); refine wpList_load_run rfl 72 _ rfl _ _ rfl LD8.out ?_)
      | ((with_reducible refine here (op := .store 72 (.tmp 4) (.tmp 35)) ?_); refine wpList_store_run rfl 72 _ _ rfl _ _ rfl rfl ST8.out ?_))
    refine bodyPost_ret (v := ag x) ?_ rfl ⟨by rw [HP.out], M9.out, K9.out⟩
    exact results_cell_row rfl _ _ w.heap.size 72 _ (0, 0) _ rfl P9.out Try.underlying72 rfl (by rw [sizeP]; simp [HL.out])
end Go.Proofs.Ythmlhjjcihibnaa.Mm
namespace Go.Proofs.Ythmlhjjcihibnaa.Mm
open Go.RowKit Go.Maps
set_option linter.unusedVariables false

theorem toNat_map_inj : ∀ {xs ys : List UInt8}, (xs.map fun u => (u.toNat : Int)) = ys.map (fun u => (u.toNat : Int)) ↔ xs = ys := by
  intro xs ys
  constructor
  · intro h
    exact (List.map_inj_right (fun a b e => UInt8.toNat_inj.1 (Int.ofNat.inj e))).1 h
  · rintro rfl; rfl
theorem sizeU (w : World) : (sizeOf 5).run Try.prog w = .ok 1 w := by kernel_rfl
theorem neqP (w : World) (xs ys : List UInt8) (hx : xs.length = 64) (hy : ys.length = 64) : (binOp .neq 72 (ag xs) (ag ys)).run Try.prog w = .ok (.bool (!decide (xs = ys))) w := by
  have h := run_neq_ints (P := Try.prog) w 72 5 64 .u8 Try.underlying72 Try.underlying5 sizeU (xs.map fun u => (u.toNat : Int)) (ys.map fun u => (u.toNat : Int)) (by simpa using hx) (by simpa using hy)
  rw [List.map_map, List.map_map] at h
  have e : decide ((xs.map fun u => (u.toNat : Int)) = ys.map (fun u => (u.toNat : Int))) = decide (xs = ys) := by
    rw [decide_eq_decide]; exact toNat_map_inj
  rw [e] at h
  exact h
theorem guardP : Try.prog.eqGuardType Try.prog.depth 72 = false := by kernel_rfl

/-- The memory with its n-th page x. -/
def setPage (M : List UInt8) (n : Nat) (x : List UInt8) : List UInt8 := splice M (n * 64) x
theorem setPage_len {M x : List UInt8} {n : Nat} (hm : M.length = 8192) (hx : x.length = 64) (hn : n < 128) : (setPage M n x).length = 8192 := by
  unfold setPage splice
  simp only [List.length_append, List.length_take, List.length_drop]
  omega
theorem getD_splice (M ys : List UInt8) (o k : Nat) (h : o + ys.length ≤ M.length) : (splice M o ys).getD k 0 = if k < o then M.getD k 0 else if k < o + ys.length then ys.getD (k - o) 0 else M.getD k 0 := by
  unfold splice
  have hl : (M.take o).length = o := by rw [List.length_take]; omega
  simp only [List.getD_eq_getElem?_getD]
  by_cases h1 : k < o
  · rw [if_pos h1, List.getElem?_append_left (by omega), List.getElem?_take_of_lt h1]
  · rw [if_neg h1, List.getElem?_append_right (by omega), hl]
    by_cases h2 : k < o + ys.length
    · rw [if_pos h2, List.getElem?_append_left (by omega)]
    · rw [if_neg h2, List.getElem?_append_right (by omega), List.getElem?_drop]
      congr 2
      omega
theorem ext_getD {xs ys : List UInt8} (hl : xs.length = ys.length) (h : ∀ k, k < xs.length → xs.getD k 0 = ys.getD k 0) : xs = ys := by
  refine List.ext_getElem hl fun k h1 h2 => ?_
  have := h k h1
  simpa [List.getD_eq_getElem?_getD, List.getElem?_eq_getElem h1, List.getElem?_eq_getElem h2] using this
theorem getD_page (L : List UInt8) (n k : Nat) (hk : k < 64) : (page L n).getD k 0 = L.getD (n * 64 + k) 0 := by
  unfold page
  simp only [List.getD_eq_getElem?_getD]
  rw [List.getElem?_take_of_lt hk, List.getElem?_drop]
theorem page_set {M x : List UInt8} {n i : Nat} (hm : M.length = 8192) (hx : x.length = 64) (hn : n < 128) (hi : i < 128) : page (setPage M n x) i = if i = n then x else page M i := by
  have hs := setPage_len hm hx hn
  have hl := page_len hs hi
  by_cases e : i = n
  · subst e
    rw [if_pos rfl]
    refine ext_getD (by omega) fun k hk => ?_
    rw [getD_page _ _ _ (by omega)]
    unfold setPage
    rw [getD_splice _ _ _ _ (by omega), if_neg (by omega), if_pos (by omega)]
    congr 1
    omega
  · rw [if_neg e]
    have hl2 := page_len hm hi
    refine ext_getD (by omega) fun k hk => ?_
    rw [getD_page _ _ _ (by omega), getD_page _ _ _ (by omega)]
    unfold setPage
    rw [getD_splice _ _ _ _ (by omega)]
    by_cases h1 : i * 64 + k < n * 64
    · rw [if_pos h1]
    · rw [if_neg h1, if_neg (by omega)]
theorem setPage_same {M : List UInt8} {n : Nat} (hm : M.length = 8192) (hn : n < 128) : setPage M n (page M n) = M := by
  have hp := page_len hm hn
  refine ext_getD (by rw [setPage_len hm hp hn, hm]) fun k hk => ?_
  unfold setPage
  rw [getD_splice _ _ _ _ (by omega)]
  split
  · rfl
  · split
    · rw [getD_page _ _ _ (by omega)]
      congr 1
      omega
    · rfl

theorem memCells_set (gb mb : Nat) (ch : List Bool) (n : Nat) : (memCells gb mb ch).toArray.setIfInBounds (3 + n) (.bool true) = (memCells gb mb (ch.set n true)).toArray := by
  rw [List.setIfInBounds_toArray, Nat.add_comm 3 n]
  simp [memCells, List.map_set]

variable {w : World} {p gb mb : Nat} {G M : List UInt8}
set_option maxRecDepth 100000 in
set_option maxHeartbeats 600000 in
theorem mput_at (h : MemAt w p gb mb G M) (n : Nat) (hn : n < 128) (x : List UInt8) (hx : x.length = 64) :
    Calls Try.prog 44 #[.pointer (some ⟨p, 0, none⟩), .int .i64 (n : Int), ag x] w fun e w' => e = .returned (.tuple #[]) ∧ MemAt w' p gb mb G (setPage M n x) ∧ Keeps (fun k => k = p ∨ k = mb) w w' := by
  have hlt := h.lt
  have ap := h.apart
  have k1 : Keeps (fun _ => False) w (w.alloc (.cells (x.map B8).toArray 72)) := Keeps.alloc _ _ _
  have h1 := h.keep k1 (fun h => h) (fun h => h) (fun h => h)
  have p1 : PgAt (w.alloc (.cells (x.map B8).toArray 72)) w.heap.size x := heap_alloc_new w _
  go_enter Try.func44, Try.ntmps44
  go_wp2_with ((with_reducible refine at_ (op := .box 72 (.tmp 2)) ?_); refine wpList_val rfl _ (ex_box 72 (.tmp 2) rfl _ _ rfl (boxP _ x hx)) ?_)
  refine wp_region_held (S := fun W => PgAt W w.heap.size x) (by kernel_rfl) ?_
  change wpAnyH _ _ _ _ _ _ _ _ (w.alloc (.cells (x.map B8).toArray 72)).drew
  have k2 : Keeps (fun _ => False) w (w.alloc (.cells (x.map B8).toArray 72)).drew := k1.trans (Keeps.drew _ _)
  have h2 := h.keep k2 (fun h => h) (fun h => h) (fun h => h)
  have hS : PgAt (w.alloc (.cells (x.map B8).toArray 72)).drew w.heap.size x := p1
  clear k1 h1 p1
  generalize (w.alloc (.cells (x.map B8).toArray 72)).drew = w1 at *
  simp only [Act.put, List.setIfInBounds_toArray, List.set_cons_zero, List.set_cons_succ]
  refine wpAnyH_take (oi := ⟨_, _, _, _, _, _⟩) (i := 0) (v := ag x) rfl (by kernel_rfl) (by kernel_rfl) (by kernel_rfl) (fun _ _ _ h => h) (yif_load rfl 72 (.tmp 5) rfl _ _ rfl fun W (h : PgAt W w.heap.size x) => h.get hx) hS ?_
  simp only [Act.put, List.setIfInBounds_toArray, List.set_cons_zero, List.set_cons_succ]
  refine wpAnyH_take (oi := ⟨_, _, _, _, _, _⟩) (i := 1) (v := .pointer (some ⟨p, 0, none⟩)) rfl (by kernel_rfl) (by kernel_rfl) (by kernel_rfl) (fun _ _ _ h => h) (Or.inl ⟨by rfl, fun _ _ => rfl⟩) hS ?_
  simp only [Act.put, List.setIfInBounds_toArray, List.set_cons_zero, List.set_cons_succ]
  refine wpAnyH_take (oi := ⟨_, _, _, _, _, _⟩) (i := 2) (v := .int .i64 (n : Int)) rfl (by kernel_rfl) (by kernel_rfl) (by kernel_rfl) (fun _ _ _ h => h) (Or.inl ⟨by rfl, fun _ _ => rfl⟩) hS ?_
  simp only [Act.put, List.setIfInBounds_toArray, List.set_cons_zero, List.set_cons_succ]
  refine wpAnyH_all (rs := [3]) (by kernel_rfl) (by simp) fun i hmem => ?_
  obtain rfl : i = 3 := by simpa using hmem
  refine op_call (om := ⟨_, _, _, _, _, _⟩) (fn := 43) (args := #[.pointer (some ⟨p, 0, none⟩), .int .i64 (n : Int)]) (R := fun u w' => u = ag (page M n) ∧ MemAt w' p gb mb G M ∧ Keeps (· = mb) w1 w') rfl rfl (by go_simp)
    ((mpage_at h2 n hn).mono fun e w' ⟨he, h1, h2⟩ => ⟨_, he, rfl, h1, h2⟩) _ _ rfl rfl ?_
  rintro u w2 ⟨rfl, h3, k3⟩
  have hS2 : PgAt w2 w.heap.size x := hS.keep k3 (by omega)
  refine ⟨hS2, ?_⟩
  clear hmem
  have hpl := page_len h.ml hn
  have NE := Lib.hid (neqP · x (page M n) hx hpl)
  have K02 := Lib.hid (Keeps.thru (F'' := fun k => k = mb) k2 k3 (fun _ _ h => h.elim) fun _ _ h => h)
  have H3 := Lib.hid h3
  have HS2 := Lib.hid hS2
  have HX := Lib.hid hx
  have HS := Lib.hid (setPage_same h.ml hn)
  have ML := Lib.hid h.ml
  have HPG := Lib.hid (fun i (hi : i < 128) => page_set h.ml hx hn hi)
  have HSL := Lib.hid (setPage_len h.ml hx hn)
  clear h h2 hS k2 k3 hx hpl
  simp only [Act.put, List.setIfInBounds_toArray, List.set_cons_zero, List.set_cons_succ]
  refine wpAnyH_take (oi := ⟨_, _, _, _, _, _⟩) (i := 4) (v := .bool (!decide (x = page M n))) rfl (by kernel_rfl) (by kernel_rfl) (by kernel_rfl) (fun _ _ _ h => h) (Or.inl ⟨by rfl, fun _ _ => ?_⟩) hS2 ?_
  · exact ex_bin_agg .neq 72 72 (.tmp 6) (.tmp 9) rfl (x.map B8).toArray ((page M n).map B8).toArray _ rfl rfl guardP (NE.out _)
  simp only [Act.put, List.setIfInBounds_toArray, List.set_cons_zero, List.set_cons_succ]
  refine wpAnyH_done (by kernel_rfl) ?_ _
  by_cases he : x = page M n
  · have hd : (!decide (x = page M n)) = false := by simp [he]
    rw [hd]
    have E := Lib.hid he
    clear hd he NE
    go_wp2_with fail
    go_end0
    refine ⟨rfl, ?_, K02.out.mono fun _ _ h => Or.inr h⟩
    rw [E.out, HS.out]
    exact H3.out
  · have hd : (!decide (x = page M n)) = true := by simp [he]
    rw [hd]
    obtain ⟨c0, c1, c2⟩ := H3.out.c
    have c3 : w2.drew.cell? ⟨p, 2, none⟩ = some (.map (some mb)) := c2
    obtain ⟨f, hf, hok⟩ := H3.out.map
    have HO := Lib.hid hok
    have HF := Lib.hid hf
    have LD := Lib.hid ((show PgAt w2.drew w.heap.size x from hS2).get HX.out)
    clear hd he NE hS2 hf hok c0 c1 c2
    go_wp2_with fail
    refine wp_region_still_tail 6 (by kernel_rfl) (by kernel_rfl) ?_
    simp only [List.take_succ_cons, List.take_zero, List.drop_succ_cons, List.drop_zero]
    change wpStill _ _ w2.drew (fun a' => wpList _ _ _ _ a' w2.drew) _ _
    have k23 : Keeps (fun _ => False) w2 w2.drew := Keeps.drew _ _
    have h3 := H3.out.keep k23 (fun h => h) (fun h => h) (fun h => h)
    have m3 := HF.out.keeps k23 (fun h => h)
    generalize w2.drew = w3 at *
    obtain ⟨w4, u1, u2, u3, u4⟩ := put71 m3 n hn x (by unfold maxLen; omega)
    have UP := Lib.hid u1
    clear u1
    still_step
    still_step
    still_step
    still_step
    still_step
    refine wpStill_load rfl 72 (.tmp 5) rfl _ _ rfl LD.out ?_
    refine wpStill_nil ?_
    simp only [Act.put, List.setIfInBounds_toArray, List.set_cons_zero, List.set_cons_succ]
    refine wpList_mapUpdate_run rfl 54 _ _ _ rfl _ _ _ rfl rfl rfl UP.out ?_
    obtain ⟨ch, hcl, hh⟩ := h3.head
    have hh4 : w4.heap[p]? = some (.cells (memCells gb mb ch).toArray 57 (0, 0)) := (u3.block p h3.lt.1 ap.2.1).trans hh
    have d4 : w4.cell? ⟨p, 3 + n, none⟩ = some (.bool (ch.getD n false)) := by
      rw [cell_of_row _ _ _ _ _ _ hh4]
      simp [memCells, Nat.add_comm 3 n, hcl, hn]
    have f4 : w4.frozen? ⟨p, 3 + n, none⟩ = false := frozen_of_row w4 p _ _ _ hh4
    clear c3
    go_wp2_with fail
    go_end0
    have hl4 := h3.lt
    refine ⟨rfl, ⟨h3.gl, HSL.out, ⟨ch.set n true, by simpa using hcl, ?_⟩, ?_, ⟨_, u2.setCell _ _ (fun e => ap.2.1 e.symm), ⟨fun i hi y hy => ?_, fun i hi hy => ?_⟩⟩⟩, ?_⟩
    · rw [heap_setCell_same w4 p (3 + n) _ _ _ hh4, memCells_set]
    · rw [Below.heap_setCell _ _ _ _ (fun e => ap.1 e.symm)]
      exact (u3.block gb hl4.2.1 ap.2.2).trans h3.given
    · rw [HPG.out i hi]
      unfold updF at hy
      split at hy
      · rename_i e
        cases hy
        rw [if_pos e]
      · rename_i e
        rw [if_neg e]
        exact HO.out.now i hi y hy
    · rw [HPG.out i hi]
      unfold updF at hy
      split at hy
      · cases hy
      · rename_i e
        rw [if_neg e]
        exact HO.out.was i hi hy
    · exact Keeps.thru (Keeps.thru (F'' := fun k => k = mb) K02.out (Keeps.thru (F'' := fun k => k = mb) k23 u3 (fun _ _ h => h.elim) fun _ _ h => h) (fun _ _ h => h) fun _ _ h => h) (Keeps.setCell (fun k => k = p) _ _ _ rfl) (fun _ _ h => Or.inr h) fun _ _ h => Or.inl h
end Go.Proofs.Ythmlhjjcihibnaa.Mm
namespace Go.Proofs.Ythmlhjjcihibnaa.Mm
open Go.RowKit
set_option linter.unusedVariables false

/-- c bytes from a on, those from t on being 0 as yet. -/
def loadT (M : List UInt8) (a : Int) (c : Nat) (t : Int) : List UInt8 := (List.range c).map fun (i : Nat) => if a + i < t then byt M (a + i) else 0
/-- c bytes from a on. -/
def loadL (M : List UInt8) (a : Int) (c : Nat) : List UInt8 := (List.range c).map fun (i : Nat) => byt M (a + i)
theorem loadT_len (M : List UInt8) (a : Int) (c : Nat) (t : Int) : (loadT M a c t).length = c := by simp [loadT]
theorem loadL_len (M : List UInt8) (a : Int) (c : Nat) : (loadL M a c).length = c := by simp [loadL]
theorem getD_loadT (M : List UInt8) (a : Int) (c : Nat) (t : Int) (k : Nat) (hk : k < c) : (loadT M a c t).getD k 0 = if a + k < t then byt M (a + k) else 0 := by
  simp [loadT, List.getD_eq_getElem?_getD, hk]
theorem getD_loadL (M : List UInt8) (a : Int) (c : Nat) (k : Nat) (hk : k < c) : (loadL M a c).getD k 0 = byt M (a + k) := by
  simp [loadL, List.getD_eq_getElem?_getD, hk]
theorem loadT_start (M : List UInt8) (a : Int) (c : Nat) (t : Int) (h : t ≤ a ∨ t ≤ 0) : loadT M a c t = List.replicate c 0 := by
  refine ext_getD (by rw [loadT_len, List.length_replicate]) fun k hk => ?_
  rw [loadT_len] at hk
  rw [getD_loadT _ _ _ _ _ hk]
  have e : (List.replicate c (0 : UInt8)).getD k 0 = 0 := by simp [List.getD_eq_getElem?_getD, hk]
  rw [e]
  split
  · exact byt_out _ _ (by omega)
  · rfl
theorem loadT_done (M : List UInt8) (hm : M.length = 8192) (a : Int) (c : Nat) (t : Int) (h : a + c ≤ t ∨ 8192 ≤ t) : loadT M a c t = loadL M a c := by
  refine ext_getD (by rw [loadT_len, loadL_len]) fun k hk => ?_
  rw [loadT_len] at hk
  rw [getD_loadT _ _ _ _ _ hk, getD_loadL _ _ _ _ hk]
  split
  · rfl
  · exact (byt_out _ _ (by omega)).symm
/-- Nothing of it is inside. -/
theorem loadL_none (M : List UInt8) (hm : M.length = 8192) (a : Int) (c : Nat) (h : a + c ≤ 0 ∨ 8192 ≤ a) : loadL M a c = List.replicate c 0 := by
  refine ext_getD (by rw [loadL_len, List.length_replicate]) fun k hk => ?_
  rw [loadL_len] at hk
  rw [getD_loadL _ _ _ _ hk]
  have e : (List.replicate c (0 : UInt8)).getD k 0 = 0 := by simp [List.getD_eq_getElem?_getD, hk]
  rw [e]
  exact byt_out _ _ (by omega)
theorem loadT_step (M : List UInt8) (hm : M.length = 8192) (a : Int) (c t k : Nat) (h0 : a ≤ t) (h1 : t + k ≤ a + c) (h2 : t % 64 + k ≤ 64) (h3 : t < 8192) :
    splice (loadT M a c t) (t - a).toNat (((page M (t / 64)).drop (t % 64)).take k) = loadT M a c (t + k : Nat) := by
  have hp := page_len hm (n := t / 64) (by omega)
  have hl : (((page M (t / 64)).drop (t % 64)).take k).length = k := by rw [List.length_take, List.length_drop, hp]; omega
  have hs : (splice (loadT M a c t) (t - a).toNat (((page M (t / 64)).drop (t % 64)).take k)).length = c := by
    unfold splice
    simp only [List.length_append, hl, List.length_take, List.length_drop, loadT_len]
    omega
  refine ext_getD (by rw [loadT_len, hs]) fun i hi => ?_
  rw [hs] at hi
  rw [getD_splice _ _ _ _ (by rw [hl, loadT_len]; omega), hl, getD_loadT _ _ _ _ _ hi, getD_loadT _ _ _ _ _ hi]
  by_cases c1 : i < (t - a).toNat
  · rw [if_pos c1, if_pos (by omega), if_pos (by omega)]
  · rw [if_neg c1]
    by_cases c2 : i < (t - a).toNat + k
    · rw [if_pos c2, if_pos (by omega), byt_in _ _ (by omega)]
      have e : (((page M (t / 64)).drop (t % 64)).take k).getD (i - (t - a).toNat) 0 = (page M (t / 64)).getD (t % 64 + (i - (t - a).toNat)) 0 := by
        simp only [List.getD_eq_getElem?_getD]
        rw [List.getElem?_take_of_lt (by omega), List.getElem?_drop]
      rw [e, getD_page _ _ _ (by omega)]
      congr 1
      omega
    · rw [if_neg c2, if_neg (by omega), if_neg (by omega)]

/-- Bytes laid at a, those up to t. -/
def layT (M : List UInt8) (a : Int) (xs : List UInt8) (t : Int) : List UInt8 := (List.range M.length).map fun (i : Nat) => if a ≤ i ∧ (i : Int) < t ∧ (i : Int) < a + xs.length then byt xs (i - a) else M.getD i 0
/-- Bytes laid at a. -/
def layL (M : List UInt8) (a : Int) (xs : List UInt8) : List UInt8 := (List.range M.length).map fun (i : Nat) => if a ≤ i ∧ (i : Int) < a + xs.length then byt xs (i - a) else M.getD i 0
theorem layT_len (M : List UInt8) (a : Int) (xs : List UInt8) (t : Int) : (layT M a xs t).length = M.length := by simp [layT]
theorem layL_len (M : List UInt8) (a : Int) (xs : List UInt8) : (layL M a xs).length = M.length := by simp [layL]
theorem getD_layT (M : List UInt8) (a : Int) (xs : List UInt8) (t : Int) (k : Nat) (hk : k < M.length) : (layT M a xs t).getD k 0 = if a ≤ k ∧ (k : Int) < t ∧ (k : Int) < a + xs.length then byt xs (k - a) else M.getD k 0 := by
  simp [layT, List.getD_eq_getElem?_getD, hk]
theorem getD_layL (M : List UInt8) (a : Int) (xs : List UInt8) (k : Nat) (hk : k < M.length) : (layL M a xs).getD k 0 = if a ≤ k ∧ (k : Int) < a + xs.length then byt xs (k - a) else M.getD k 0 := by
  simp [layL, List.getD_eq_getElem?_getD, hk]
theorem layT_start (M : List UInt8) (a : Int) (xs : List UInt8) (t : Int) (h : t ≤ a ∨ t ≤ 0) : layT M a xs t = M := by
  refine ext_getD (layT_len _ _ _ _) fun k hk => ?_
  rw [layT_len] at hk
  rw [getD_layT _ _ _ _ _ hk, if_neg (by omega)]
theorem layT_done (M : List UInt8) (hm : M.length = 8192) (a : Int) (xs : List UInt8) (t : Int) (h : a + xs.length ≤ t ∨ 8192 ≤ t) : layT M a xs t = layL M a xs := by
  refine ext_getD (by rw [layT_len, layL_len]) fun k hk => ?_
  rw [layT_len] at hk
  rw [getD_layT _ _ _ _ _ hk, getD_layL _ _ _ _ hk]
  by_cases c : a ≤ k ∧ (k : Int) < a + xs.length
  · rw [if_pos c, if_pos (by omega)]
  · rw [if_neg c, if_neg (by omega)]
theorem layL_none (M : List UInt8) (hm : M.length = 8192) (a : Int) (xs : List UInt8) (h : a + xs.length ≤ 0 ∨ 8192 ≤ a) : layL M a xs = M := by
  refine ext_getD (layL_len _ _ _) fun k hk => ?_
  rw [layL_len] at hk
  rw [getD_layL _ _ _ _ hk, if_neg (by omega)]
/-- A page is taken, some of its bytes written over, and put back. -/
theorem layT_step (M : List UInt8) (hm : M.length = 8192) (a : Int) (xs : List UInt8) (t k : Nat) (h0 : a ≤ t) (h1 : t + k ≤ a + xs.length) (h2 : t % 64 + k ≤ 64) (h3 : t < 8192) :
    setPage (layT M a xs t) (t / 64) (splice (page (layT M a xs t) (t / 64)) (t % 64) ((xs.drop (t - a).toNat).take k)) = layT M a xs (t + k : Nat) := by
  have hL : (layT M a xs t).length = 8192 := by rw [layT_len, hm]
  have hp := page_len hL (n := t / 64) (by omega)
  have hl : ((xs.drop (t - a).toNat).take k).length = k := by rw [List.length_take, List.length_drop]; omega
  have hsp : (splice (page (layT M a xs t) (t / 64)) (t % 64) ((xs.drop (t - a).toNat).take k)).length = 64 := by
    unfold splice
    simp only [List.length_append, hl, List.length_take, List.length_drop, hp]
    omega
  refine ext_getD (by rw [setPage_len hL hsp (by omega), layT_len, hm]) fun i hi => ?_
  rw [setPage_len hL hsp (by omega)] at hi
  unfold setPage
  rw [getD_splice _ _ _ _ (by omega), hsp, getD_layT _ _ _ _ _ (by omega), getD_layT _ _ _ _ _ (by omega)]
  by_cases c1 : i < t / 64 * 64
  · rw [if_pos c1]
    by_cases c : a ≤ i ∧ (i : Int) < t ∧ (i : Int) < a + xs.length
    · rw [if_pos c, if_pos (by omega)]
    · rw [if_neg c, if_neg (by omega)]
  · rw [if_neg c1]
    by_cases c2 : i < t / 64 * 64 + 64
    · rw [if_pos c2, getD_splice _ _ _ _ (by rw [hl, hp]; omega), hl]
      by_cases c3 : i - t / 64 * 64 < t % 64
      · rw [if_pos c3, getD_page _ _ _ (by omega), getD_layT _ _ _ _ _ (by omega)]
        have e : t / 64 * 64 + (i - t / 64 * 64) = i := by omega
        rw [e]
        by_cases c : a ≤ i ∧ (i : Int) < t ∧ (i : Int) < a + xs.length
        · rw [if_pos c, if_pos (by omega)]
        · rw [if_neg c, if_neg (by omega)]
      · rw [if_neg c3]
        by_cases c4 : i - t / 64 * 64 < t % 64 + k
        · rw [if_pos c4, if_pos (by omega), byt_in _ _ (by omega)]
          simp only [List.getD_eq_getElem?_getD]
          rw [List.getElem?_take_of_lt (by omega), List.getElem?_drop]
          congr 2
          omega
        · rw [if_neg c4, getD_page _ _ _ (by omega), getD_layT _ _ _ _ _ (by omega)]
          have e : t / 64 * 64 + (i - t / 64 * 64) = i := by omega
          rw [e]
          by_cases c : a ≤ i ∧ (i : Int) < t ∧ (i : Int) < a + xs.length
          · omega
          · rw [if_neg c, if_neg (by omega)]
    · rw [if_neg c2]
      by_cases c : a ≤ i ∧ (i : Int) < t ∧ (i : Int) < a + xs.length
      · omega
      · rw [if_neg c, if_neg (by omega)]

/-- Where the bytes from a on that are inside begin and end. -/
def inX (a : Int) : Int := if 0 > a then 0 else a
def inY (a n : Int) : Int := if 8192 < wrap64 (a + n) then 8192 else wrap64 (a + n)
theorem inX_lo (a : Int) : 0 ≤ inX a ∧ a ≤ inX a := by unfold inX; split <;> omega
theorem inX_eq (a : Int) : inX a = a ∨ (inX a = 0 ∧ a < 0) := by unfold inX; split <;> omega
theorem inY_hi (a n : Int) : inY a n ≤ 8192 := by unfold inY; split <;> omega
theorem in_yes {a n : Int} (ha : -9223372036854775808 ≤ a) (hn : 0 ≤ n) (h : a + n ≤ 9223372036854775807) : inY a n ≤ a + n ∧ (inY a n = a + n ∨ inY a n = 8192) := by
  have e : wrap64 (a + n) = a + n := by unfold wrap64; omega
  unfold inY
  rw [e]
  split <;> omega
theorem in_no {a n : Int} (ha : a ≤ 9223372036854775807) (hn : n ≤ 1000000000000000) (h : 9223372036854775807 < a + n) : inY a n < 0 := by
  have e : wrap64 (a + n) = a + n - 18446744073709551616 := by unfold wrap64; omega
  unfold inY
  rw [e]
  split <;> omega
end Go.Proofs.Ythmlhjjcihibnaa.Mm
namespace Go.Proofs.Ythmlhjjcihibnaa.Mm
open Go.RowKit Go.Maps
set_option linter.unusedVariables false

set_option maxRecDepth 100000 in
set_option maxHeartbeats 400000 in
theorem minside_any (a n : Int) (w : World) : Calls Try.prog 42 #[.int .i64 a, .int .i64 n] w fun e w' => e = .returned (.tuple #[.int .i64 (inX a), .int .i64 (inY a n)]) ∧ w = w' := by
  unfold inX inY
  go_enter Try.func42, Try.ntmps42
  go_wp2_with fail
  all_goals
    go_ret2
    exact ⟨rfl, rfl⟩

theorem size8' : (Try.prog.info? 5).map (·.size) = some 1 := by kernel_rfl
/-- 'copy' into a row of bytes, from bytes of which there may be more. -/
theorem run_copy8m {P : Program} (w : World) (dT sT ty elem t : TypeId) (hu : P.underlying dT = some (.slice elem)) (hsz : (P.info? elem).map (·.size) = some 1)
    (g off dLen dCap : Nat) (zs ys : List UInt8) (ad : Addr) (sl c : Nat) (hr : Row8 w g t zs) (hy : BR w w.heap.size (some ad) ys) (hle : ys.length = min sl dLen) (hfit : off + ys.length ≤ zs.length) (hn : ys ≠ []) :
    ∃ w', (Builtin.copy_ #[dT, sT] ty #[.slice (some ⟨g, off, none⟩) dLen dCap, .slice (some ad) sl c]).run P w = .ok (.int .i64 (ys.length : Int)) w' ∧ Row8 w' g t (splice zs off ys) ∧ w.grownBy w' (some g) := by
  obtain ⟨ad', e, _, hc⟩ := hy hn
  cases e
  have hrun := run_copy_row (P := P) w dT sT ty elem g off dLen dCap ad sl c _ t (ys.map B8) hu hsz hr.block (by rw [List.length_map]; omega) (fun j v hj => by
    simp only [List.getElem?_map, Option.map_eq_some_iff] at hj
    obtain ⟨u, hu, rfl⟩ := hj
    exact hc j u hu) (by simpa using hfit) (by
    intro v hv
    simp only [List.mem_map] at hv
    obtain ⟨u, _, rfl⟩ := hv
    rfl)
  rw [List.length_map] at hrun
  refine ⟨_, hrun, ?_, ⟨rfl, rfl, rfl, by simp, fun k _ hne => setRow_other w g k _ (fun e => hne (by rw [e]))⟩⟩
  refine Row8.of_block ((setRow_heap w g _ _ t _ hr.block).trans ?_)
  simp [splice, List.map_take, List.map_drop]

/-- The builtin copy at its place in a walk, its run being known. -/
theorem wpList_copy_run {P : Program} {w w' : World} {ops : Array Oper} {rest : List Oper} {o : Oper} {a : Act} {Q : Exit → Act → World → Prop} (hgd : o.guard = none) (s x : Operand) (t t' : TypeId)
    (ho : o.op = .call { callee := .builtin .copy, args := #[s, x], argTypes := #[t, t'] }) (v : Value)
    (hrun : (Builtin.copy_ #[t, t'] o.type #[a.eval s, a.eval x]).run P w = .ok v w') (h : wpList P ops Q rest (a.put o.dst v) w') : wpList P ops Q (o :: rest) a w :=
  wpList_plain hgd fun _ hK => by
    unfold Oper.wp execOp
    simp only [ho, resolve, invoke, builtin, Sem.run_bind, Sem.run_pure, Result.andThen_ok, List.map_toArray, List.map_cons, List.map_nil, hrun]
    exact hK _ _ h
theorem PgAt.br {w : World} {b : Nat} {xs : List UInt8} (h : PgAt w b xs) (hx : xs.length = 64) (r k : Nat) (hk : r + k ≤ 64) : BR w w.heap.size (some ⟨b, r, none⟩) ((xs.drop r).take k) := br_block h r k

theorem arrLenP : Try.prog.arrayLen 72 = 64 := by kernel_rfl
theorem elemP : Try.prog.elem 72 = 5 := by kernel_rfl
theorem sliceP (w : World) (b r : Nat) (hr : r < 64) : (Instr.sliceAt 72 (.pointer (some ⟨b, 0, none⟩)) (some (.int .i64 (r : Int))) none none).run Try.prog w = .ok (.slice (some ⟨b, r, none⟩) (64 - r) (64 - r)) w := by
  rw [run_sliceAt_array_l w 72 ⟨b, 0, none⟩ (by rw [arrLenP, elemP]; exact Try.underlying72) .i64 (r : Int) (by omega) (by rw [arrLenP]; omega), elemP, sizeU, Result.andThen_ok, arrLenP, Int.toNat_natCast]
  unfold slicedAt
  rw [if_neg (by omega), Nat.mul_one, Addr.add_mid, Nat.zero_add]

variable {w : World} {p gb mb : Nat} {G M : List UInt8}
/-- New bytes are handed back; the memory stands as it did. -/
def GivesM (w : World) (p gb mb : Nat) (G M zs : List UInt8) (e : Ending) (w' : World) : Prop :=
  ∃ g, e = .returned (.slice (some ⟨g, 0, none⟩) zs.length zs.length) ∧ w.heap.size ≤ g ∧ Row8 w' g 5 zs ∧ MemAt w' p gb mb G M ∧ Keeps (· = mb) w w'
set_option maxRecDepth 100000 in
set_option maxHeartbeats 600000 in
theorem mload_at (h : MemAt w p gb mb G M) (a n : Int) (ha : -9223372036854775808 ≤ a) (ha' : a ≤ 9223372036854775807) :
    Calls Try.prog 30 #[.pointer (some ⟨p, 0, none⟩), .int .i64 a, .int .i64 n] w (GivesM w p gb mb G M (loadL M a (clamp n 8192).toNat)) := by
  have hr := clamp_range n 8192 (by omega)
  generalize hm : clamp n 8192 = m at *
  unfold clamp at hm
  obtain ⟨c, rfl⟩ := Int.eq_ofNat_of_zero_le hr.1
  rw [Int.toNat_natCast]
  have hmk := make8 c (by omega)
  have hlt := h.lt
  have ap := h.apart
  have ml := h.ml
  have k1 : Keeps (fun _ => False) w (w.alloc (.cells (madeCells #[.int .u8 0] c) 5)) := Keeps.alloc _ _ _
  have h1 := h.keep k1 (fun h => h) (fun h => h) (fun h => h)
  have r1 := Row8.made w c 5
  have s1 : w.heap.size < (w.alloc (.cells (madeCells #[.int .u8 0] c) 5)).heap.size := by simp
  clear h
  go_enter Try.func30, Try.ntmps30
  go_wp2_with fail
  all_goals
    clear hm hmk
    generalize w.alloc (.cells (madeCells #[.int .u8 0] c) 5) = w1 at *
    refine (mmade_at h1).mono ?_
    rintro e w2 ⟨rfl, rfl⟩
    go_wp2_with fail
    refine (minside_any _ _ _).mono ?_
    rintro e w2 ⟨rfl, rfl⟩
    have x1 := inX_lo a
    have x2 := inX_eq a
    have y1 := inY_hi a c
    have y2 : a + c ≤ 9223372036854775807 → inY a c ≤ a + c ∧ (inY a c = a + c ∨ inY a c = 8192) := fun h => in_yes ha (by omega) h
    have y3 : 9223372036854775807 < a + c → inY a c < 0 := fun h => in_no ha' (by omega) h
    have X1 := Lib.hid x1
    have X2 := Lib.hid x2
    have Y2 := Lib.hid y2
    have Y3 := Lib.hid y3
    clear x1 x2 y2 y3
    generalize inX a = X at *
    generalize inY a c = Y at *
    go_wp2_with fail
    go_loopw [8, 10] (fun i _ wr => ∃ t : Nat, i = .int .i64 (t : Int) ∧ X ≤ t ∧ ((t : Int) ≤ X ∨ (t : Int) ≤ Y) ∧ Row8 wr w.heap.size 5 (loadT M a c t) ∧ MemAt wr p gb mb G M ∧ Keeps (· = mb) w wr) (fun i _ _ => (Y - RowKit.intOf i).toNat)
    case atStart =>
      have x1 := X1.out
      have x2 := X2.out
      have ex : (X.toNat : Int) = X := Int.toNat_of_nonneg x1.1
      exact ⟨X.toNat, by rw [ex], by omega, Or.inl (by omega), by rw [loadT_start M a c _ (by omega)]; exact r1, h1, k1.mono fun _ _ h => h.elim⟩
    case round =>
      obtain ⟨t, rfl, t1, t2, hrow, hmem, hk⟩ := hrel
      by_cases hty : (t : Int) < Y
      · go_wp2_with fail
        rw [show ((t : Int) / 64) = ((t / 64 : Nat) : Int) from rfl]
        refine (mpage_at hmem (t / 64) (by omega)).mono ?_
        rintro e w2 ⟨rfl, hm2, k2⟩
        have hpl := page_len ml (n := t / 64) (by omega)
        obtain ⟨s1, s2, s3⟩ := (PgAt.new w2).put zs64_len hpl
        have kA : Keeps (fun _ => False) w2 (w2.alloc (.cells z64' 72)) := Keeps.alloc _ _ _
        have k23 : Keeps (fun _ => False) w2 ((w2.alloc (.cells z64' 72)).setCells w2.heap.size 0 ((page M (t / 64)).map B8)) := Keeps.thru kA s3 (fun _ _ h => h) fun _ _ h => by omega
        have ST := Lib.hid s1
        have P3 := Lib.hid s2
        clear kA s1 s2 s3
        go_wp2_with (first
          | ((with_reducible refine here (op := .alloc 72) (d := some 10) ?_); refine wpList_alloc_run rfl 72 rfl _ (allocP _) ?_)
          | ((with_reducible refine here (op := .store 72 (.tmp 10) (.tmp 32)) ?_); refine wpList_store_run rfl 72 _ _ rfl _ _ rfl rfl ST.out ?_))
        generalize (w2.alloc (.cells z64' 72)).setCells w2.heap.size 0 ((page M (t / 64)).map B8) = w3 at *
        have x1 := X1.out
        have x2 := X2.out
        have y2 := Y2.out
        have y3 := Y3.out
        have hac : a + c ≤ 9223372036854775807 := by omega
        obtain ⟨d, hd⟩ : ∃ d : Nat, (t : Int) - a = d := ⟨((t : Int) - a).toNat, by omega⟩
        obtain ⟨y, hy⟩ : ∃ y : Nat, Y - a = y := ⟨(Y - a).toNat, by omega⟩
        have W1 : IntKind.i64.wrap ((t : Int) - a) = (d : Int) := by rw [hd]; exact IntWalk.i64_in _ (by omega)
        have W2 : IntKind.i64.wrap (Y - a) = (y : Int) := by rw [hy]; exact IntWalk.i64_in _ (by omega)
        have W3 : (t : Int).tmod 64 = ((t % 64 : Nat) : Int) := rfl
        have d1 : d < y := by omega
        have d2 : y ≤ c := by omega
        have d3 : ¬ c = d := by omega
        have d4 : d ≤ y := by omega
        have m0 : t % 64 ≤ 64 := by omega
        have m1 : t % 64 < 64 := Nat.mod_lt _ (by omega)
        have m2 : ¬ 64 = t % 64 := by omega
        have HD := Lib.hid hd
        have HY := Lib.hid hy
        obtain ⟨k, hk0⟩ : ∃ k : Nat, k = min (64 - t % 64) (y - d) := ⟨_, rfl⟩
        have HK := Lib.hid hk0
        have e1 : 1 ≤ k := by omega
        have e2 : k ≤ 64 := by omega
        have e3 : d + k ≤ c := by omega
        have e4 : k ≤ 64 - t % 64 := by omega
        have tb : t < 8192 := by omega
        have E5 := Lib.hid (show (t : Int) + k ≤ Y by omega)
        have E6 := Lib.hid (show (t : Int) ≤ a + c by omega)
        have LS := Lib.hid (loadT_step M ml a c t k (by omega) (by omega) (by omega) tb)
        rw [show ((t : Int) - a).toNat = d by omega] at LS
        clear hd hy x1 x2 y2 y3 hk0
        have SL := fun (w : World) (b : Nat) => sliceP w b (t % 64) m1
        generalize t % 64 = r at W3 m0 m1 m2 SL e4 HK LS
        refine wp_region_any (by kernel_rfl) ?_
        change wpAny _ _ _ _ _ _ _ w3.drew
        have k34 : Keeps (fun _ => False) w3 w3.drew := Keeps.drew _ _
        have p4 := P3.out.keep k34 (fun h => h)
        have r4 : Row8 w3.drew w.heap.size 5 (loadT M a c t) := by
          have h1 := hrow.lt_
          refine Row8.of_block ((k34.block _ (Nat.lt_of_lt_of_le h1 (Nat.le_trans k2.size k23.size)) (fun h => h)).trans ((k23.block _ (Nat.lt_of_lt_of_le h1 k2.size) (fun h => h)).trans ((k2.block _ h1 (by omega)).trans hrow.block)))
        have h4 := hm2.keep (k23.trans k34) (fun h => h) (fun h => h) (fun h => h)
        have K4 := Lib.hid (Keeps.thru (F'' := fun k => k = mb) (hk.trans k2) (k23.trans k34) (fun _ _ h => h) fun _ _ h => h.elim)
        generalize w3.drew = w4 at *
        refine wpAny_take (oi := ⟨_, _, _, _, _, _⟩) (i := 0) (v := .int .i64 (t : Int)) rfl (by kernel_rfl) (by kernel_rfl) (by kernel_rfl) (fun _ _ _ h => h) (Or.inl ⟨by rfl, fun _ => rfl⟩) ?_
        simp only [Act.put, List.setIfInBounds_toArray, List.set_cons_zero, List.set_cons_succ]
        refine wpAny_tail [1, 2, 3, 4, 5, 6, 7, 8, 9, 10, 11] [12, 13, 14] [_, _, _, _, _, _, _, _, _, _, _] [_, _, _] rfl rfl rfl (by kernel_rfl) ?_
        still_step
        still_step
        still_step
        still_step
        still_step
        still_step
        still_step
        still_step
        still_step
        still_step
        still_step
        refine wpStill_nil ?_
        have hys : (((page M (t / 64)).drop r).take k).length = k := by rw [List.length_take, List.length_drop, hpl]; omega
        obtain ⟨w5, c1, c2, c3⟩ := run_copy8m (P := Try.prog) w4 22 22 3 5 5 Try.underlying22 size8' w.heap.size d (y - d) (c - d) _ _ _ (64 - r) (64 - r) r4 (p4.br hpl r k (by omega)) (by rw [hys]; exact HK.out) (by rw [hys, loadT_len]; omega) (by intro e; rw [e] at hys; simp at hys; omega)
        rw [hys] at c1
        rw [LS.out] at c2
        refine wpList_copy_run rfl _ _ 22 22 rfl _ c1 ?_
        have k45 : Keeps (fun k => k = w.heap.size) w4 w5 := Keeps.grown _ c3 (fun k e => by cases e; rfl)
        have h5 := Lib.hid (h4.keep k45 (by omega) (by omega) (by omega))
        have K5 := Lib.hid (Keeps.thru (F'' := fun k => k = mb) K4.out k45 (fun _ _ h => h) fun _ _ h => by omega)
        have R5 := Lib.hid c2
        clear c1 c2 c3 k45 h4 r4 p4 k34 k23 k2 hm2 hk hmem hrow hys P3 ST SL W1 W2 W3 hpl
        go_wp2_with fail
        go_roundw
        case rel => exact ⟨t + k, by go_num, by omega, Or.inr (by have := E5.out; omega), R5.out, h5.out, K5.out⟩
        case measure => simp [RowKit.intOf]; have := E5.out; omega
      · have hte : loadT M a c t = loadL M a c := by
          have x1 := X1.out
          have x2 := X2.out
          have y2 := Y2.out
          have y3 := Y3.out
          by_cases hac : a + c ≤ 9223372036854775807
          · have y2 := y2 hac
            by_cases hl : a + c ≤ 0
            · rw [loadL_none M ml a c (Or.inl hl), loadT_start M a c t (by omega)]
            · exact loadT_done M ml a c t (by omega)
          · rw [loadL_none M ml a c (by omega), loadT_start M a c t (by omega)]
        have R5 := Lib.hid (hte ▸ hrow)
        have H5 := Lib.hid hmem
        have K5 := Lib.hid hk
        have hge : Y ≤ (t : Int) := by omega
        clear hte hrow hmem hk hty t1 t2
        go_wp2_with fail
        go_ret
        exact ⟨w.heap.size, by rw [loadL_len]; rfl, Nat.le_refl _, R5.out, H5.out, K5.out⟩
end Go.Proofs.Ythmlhjjcihibnaa.Mm
