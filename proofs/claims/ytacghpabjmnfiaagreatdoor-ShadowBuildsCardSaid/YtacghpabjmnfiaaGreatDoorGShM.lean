/-
  Merged by wip/tools/merge.py: ShRow ShMerge ShRefMerge
-/
import Derived.Test.YtacghpabjmnfiaaGreatDoorGShP
import Derived.Test.YtacghpabjmnfiaaGreatDoorGShI
import Derived.Maps.AppendAt
import Derived.Test.YtacghpabjmnfiaaGreatDoorShRebV
import Derived.Test.YtacghpabjmnfiaaGreatDoorGDk
import Derived.Test.YtacghpabjmnfiaaGreatDoorGA
namespace Go.Proofs.YtacghpabjmnfiaaGreatDoor
open Go.RowKit Go.Maps

theorem Tryz.infoCh : (Tryz.prog.info? 32).map (fun i => (i.zero, i.size, i.bytes)) = some (some (.agg #[.int .i64 0, .slice none 0 0]), 2, 32) := by kernel_rfl
theorem ccells_len (L : List ChV) : (L.flatMap ccells).length = L.length * 2 := by
  induction L with
  | nil => rfl
  | cons a r ih => rw [List.flatMap_cons, List.length_append, ih]; simp [ccells]; omega
theorem ccells_at : ∀ {L : List ChV} {k : Nat} {a : ChV}, L[k]? = some a → ∀ {j : Nat} {v : Value}, (ccells a)[j]? = some v → (L.flatMap ccells)[k * 2 + j]? = some v
  | [], k, a, h, _, _, _ => by simp at h
  | b :: r, 0, a, h, j, v, hv => by
    have hj : j < (ccells b).length := by
      have : b = a := by simpa using h
      rw [this]; exact (List.getElem?_eq_some_iff.1 hv).1
    have e : b = a := by simpa using h
    subst e
    rw [List.flatMap_cons, Nat.zero_mul, Nat.zero_add, List.getElem?_append_left hj]
    exact hv
  | b :: r, k + 1, a, h, j, v, hv => by
    have hl : (ccells b).length = 2 := rfl
    rw [List.flatMap_cons, List.getElem?_append_right (by rw [hl]; omega), hl, show (k + 1) * 2 + j - 2 = k * 2 + j from by omega]
    exact ccells_at (by simpa using h) hv

/-- A row of changes, with their bytes apart from it. -/
structure ChRow (w : World) (B : Nat) (R : Option Addr) (cap : Nat) (L : List ChV) : Prop where
  own : w.ownsRow B 32 2 (.slice R L.length cap) L.length (L.flatMap ccells)
  ok : ∀ a ∈ L, a.Ok w w.heap.size
  new : ∀ a ∈ L, ∀ ad, a.A = some ad → B ≤ ad.block ∧ ad.block < w.heap.size ∧ ∀ g, R = some g → ad.block ≠ g.block
theorem own_block {w : World} {B : Nat} {R : Option Addr} {cap n : Nat} {xs : List Value} (h : w.ownsRow B 32 2 (.slice R n cap) n xs) : ∀ ad, R = some ad → B ≤ ad.block ∧ ad.block < w.heap.size ∧ Value.ownBlock (.slice R n cap) = some ad.block := by
  rintro ad rfl
  rcases h.2 with ⟨e, _⟩ | ⟨g, cap', cur, e, hb, hg, _⟩
  · cases e
  · cases e
    exact ⟨hb, (Array.getElem?_eq_some_iff.1 hg).1, rfl⟩
theorem ChRow.nil (w : World) (B : Nat) : ChRow w B none 0 [] := ⟨World.ownsRow_nil _ _ _ _, (fun a ha => by cases ha), (fun a ha => by cases ha)⟩
/-- Its cells. -/
theorem ChRow.cr {w : World} {B : Nat} {R : Option Addr} {cap : Nat} {L : List ChV} (h : ChRow w B R cap L) : CR w w.heap.size R L := by
  refine ⟨fun hne => ?_, h.ok⟩
  rcases h.own.2 with ⟨_, hn⟩ | ⟨g, cap', cur, e, hb, hg, _, _, hcs, htk⟩
  · exact absurd (List.eq_nil_of_length_eq_zero hn) hne
  · injection e with e1 _ e3
    subst e1
    refine ⟨⟨g, 0, none⟩, rfl, (Array.getElem?_eq_some_iff.1 hg).1, fun k a ha j v hv => ?_⟩
    have hat := ccells_at ha hv
    rw [Addr.add_mid, Addr.add_mid, Nat.zero_add, cell_of_row _ _ _ _ _ _ hg, ← Array.getElem?_toList]
    have hlt : k * 2 + j < L.length * 2 := by rw [← ccells_len]; exact (List.getElem?_eq_some_iff.1 hat).1
    rw [← htk, List.getElem?_take, if_pos hlt] at hat
    exact hat
theorem ChRow.keeps {w w' : World} {B : Nat} {R : Option Addr} {cap : Nat} {L : List ChV} (h : ChRow w B R cap L) {F : Nat → Prop} (k : Keeps F w w') (hF : ∀ b, B ≤ b → b < w.heap.size → ¬ F b) : ChRow w' B R cap L := by
  refine ⟨⟨h.own.1, ?_⟩, fun a ha => ?_, fun a ha ad e => ⟨(h.new a ha ad e).1, Nat.lt_of_lt_of_le (h.new a ha ad e).2.1 k.size, (h.new a ha ad e).2.2⟩⟩
  · rcases h.own.2 with hn | ⟨g, cap', cur, e, hb, hg, rest⟩
    · exact .inl hn
    · exact .inr ⟨g, cap', cur, e, hb, (k.block g (Array.getElem?_eq_some_iff.1 hg).1 (hF g hb (Array.getElem?_eq_some_iff.1 hg).1)).trans hg, rest⟩
  · have ho := h.ok a ha
    refine ⟨fun hne => ?_, ho.n0, ho.n1, ho.lc⟩
    obtain ⟨ad, e, hlt, hc⟩ := ho.br hne
    exact ⟨ad, e, Nat.lt_of_lt_of_le hlt k.size, fun i u hu => (World.cell?_of_block (w := w) (by rw [block_add]; exact k.block _ hlt (hF _ (h.new a ha ad e).1 hlt))).trans (hc i u hu)⟩
theorem ChRow.below {w w' : World} {B : Nat} {R : Option Addr} {cap : Nat} {L : List ChV} (h : ChRow w B R cap L) (hb : Below w.heap.size w w') : ChRow w' B R cap L := h.keeps (keeps_below hb) (fun _ _ _ h => h)
/-- One change more. -/
theorem ChRow.app {w : World} {B : Nat} {R : Option Addr} {cap : Nat} {L : List ChV} (h : ChRow w B R cap L) (hB : B ≤ w.heap.size) (hl : L.length ≤ 1000) (a : ChV) (ha : a.Ok w w.heap.size) (hA : ∀ ad, a.A = some ad → B ≤ ad.block ∧ ad.block < w.heap.size ∧ ∀ g, R = some g → ad.block ≠ g.block) (ad : Addr) (c : Nat) (ty : TypeId)
    (h0 : w.cell? (ad.add 0) = some (.int .i64 a.page)) (h1 : w.cell? (ad.add 1) = some (.slice a.A a.xs.length a.c)) :
    ∃ R' cap' w', (Builtin.append_ #[22, 22] ty #[.slice R L.length cap, .slice (some ad) 1 c]).run Tryz.prog w = .ok (.slice R' (L.length + 1) cap') w' ∧ ChRow w' B R' cap' (L ++ [a]) ∧ Below B w w' ∧
      (∀ b, b < w.heap.size → (∀ r, R = some r → b ≠ r.block) → w'.heap[b]? = w.heap[b]?) ∧ (∀ r', R' = some r' → (∃ r, R = some r ∧ r'.block = r.block) ∨ r'.block = w.heap.size) := by
  obtain ⟨i0, hi, hz0, hz1, hz2⟩ := info_parts Tryz.infoCh
  obtain ⟨v', w', hrun, hown, hg, _, hblk⟩ := run_append_own_at (P := Tryz.prog) w B 22 ty 32 i0 _ 2 32 Tryz.underlying22 hi hz0 hz1 hz2 rfl (by decide) _ L.length _ h.own ad 1 c (ccells a) rfl (fun j u hu => by
    match j, hu with
    | 0, hu => cases hu; exact h0
    | 1, hu => cases hu; exact h1
    | j + 2, hu => simp [ccells] at hu) (by intro u hu; simp [ccells] at hu; rcases hu with rfl | rfl <;> rfl) (by unfold maxLen; omega) (by omega) hB
  obtain ⟨g, cap', rfl, _, _⟩ := World.ownsRow.form hown (by omega)
  have hob := own_block h.own
  have hrow : ∀ k, Value.ownBlock (.slice R L.length cap) = some k → ∃ ad, R = some ad ∧ ad.block = k := by
    intro k hk
    cases R with
    | none => simp [Value.ownBlock] at hk
    | some r =>
      have := (hob r rfl).2.2
      rw [this] at hk
      exact ⟨r, rfl, by simpa using hk⟩
  have hbl : ∀ b, b < w.heap.size → (∀ r, R = some r → b ≠ r.block) → w'.heap[b]? = w.heap[b]? := fun b hb hn => hg.block b hb (fun e => by
    obtain ⟨r, hr, hrb⟩ := hrow b e.symm
    exact hn r hr hrb.symm)
  have hgb : (∀ r, R = some r → g = r.block) ∧ R ≠ none ∨ g = w.heap.size := by
    rcases hblk with e | e
    · left
      have e' : some g = Value.ownBlock (.slice R L.length cap) := e
      obtain ⟨r, hr, hrb⟩ := hrow g e'.symm
      exact ⟨fun r' hr' => by rw [hr] at hr'; cases hr'; exact hrb.symm, by rw [hr]; simp⟩
    · right
      have e' : some g = some w.heap.size := e
      simpa using e'
  have hne : ∀ x : ChV, x.Ok w w.heap.size → (∀ ad, x.A = some ad → B ≤ ad.block ∧ ad.block < w.heap.size ∧ ∀ g, R = some g → ad.block ≠ g.block) → x.xs ≠ [] → ∃ ad, x.A = some ad ∧ ad.block < w.heap.size := fun x hx _ hn => by
    obtain ⟨ad, e, hlt, _⟩ := hx.br hn
    exact ⟨ad, e, hlt⟩
  have hok : ∀ x : ChV, x.Ok w w.heap.size → (∀ ad, x.A = some ad → B ≤ ad.block ∧ ad.block < w.heap.size ∧ ∀ g, R = some g → ad.block ≠ g.block) → x.Ok w' w'.heap.size := by
    intro x hx hxa
    refine ⟨fun hn => ?_, hx.n0, hx.n1, hx.lc⟩
    obtain ⟨ad, e, hlt, hc⟩ := hx.br hn
    exact ⟨ad, e, Nat.lt_of_lt_of_le hlt hg.size, fun i u hu => (World.cell?_of_block (w := w) (by rw [block_add]; exact hbl _ hlt (fun r hr => (hxa ad e).2.2 r hr))).trans (hc i u hu)⟩
  refine ⟨_, cap', w', hrun, ⟨?_, ?_, ?_⟩, ⟨hg.os, hg.tape, hg.output, hg.size, fun k hk => hg.block k (by omega) (fun e => ?_)⟩, hbl, fun r' hr' => ?_⟩
  · rw [List.flatMap_append, List.length_append]
    simpa using hown
  · intro x hx
    rcases List.mem_append.1 hx with hx | hx
    · exact hok x (h.ok x hx) (h.new x hx)
    · simp only [List.mem_singleton] at hx
      subst hx
      exact hok _ ha hA
  · intro x hx ad' e
    have hx2 : x.Ok w w.heap.size ∧ ∀ ad, x.A = some ad → B ≤ ad.block ∧ ad.block < w.heap.size ∧ ∀ g, R = some g → ad.block ≠ g.block := by
      rcases List.mem_append.1 hx with hx | hx
      · exact ⟨h.ok x hx, h.new x hx⟩
      · simp only [List.mem_singleton] at hx
        subst hx
        exact ⟨ha, hA⟩
    refine ⟨(hx2.2 ad' e).1, Nat.lt_of_lt_of_le (hx2.2 ad' e).2.1 hg.size, fun r hr => ?_⟩
    cases hr
    show ad'.block ≠ g
    rcases hgb with ⟨h1, h2⟩ | h1
    · cases R with
      | none => exact absurd rfl h2
      | some r0 =>
        rw [h1 r0 rfl]
        exact (hx2.2 ad' e).2.2 r0 rfl
    · have := (hx2.2 ad' e).2.1
      omega
  · obtain ⟨r, hr, hrb⟩ := hrow k e.symm
    have := (hob r hr).1
    omega
  · cases hr'
    rcases hgb with ⟨h1, h2⟩ | h1
    · cases R with
      | none => exact absurd rfl h2
      | some r0 => exact .inl ⟨r0, rfl, h1 r0 rfl⟩
    · exact .inr h1
end Go.Proofs.YtacghpabjmnfiaaGreatDoor
namespace Go.Proofs.YtacghpabjmnfiaaGreatDoor
open Go.RowKit Go.Maps

def prC (a : ChV) : Int × List UInt8 := (a.page, a.xs)
/-- The changes by page, rising. -/
def mergedK (P : Nat → Option (List UInt8)) (K : List Nat) : List (Int × List UInt8) := K.map fun (k : Nat) => ((k : Int), (P k).getD zs64)
def mergedOf (P : Nat → Option (List UInt8)) : List (Int × List UInt8) := mergedK P (keysF P)
def MergeOut (w : World) (l : List ChV) (e : Ending) (w' : World) : Prop :=
  Below w.heap.size w w' ∧ (((∀ a ∈ l, a.good) ∧ ∃ R c L, e = .returned (.tuple #[.slice R (L : List ChV).length c, .int .i64 0]) ∧ CR w' w'.heap.size R L ∧ L.map prC = mergedOf (latestF l)) ∨
    ((¬ ∀ a ∈ l, a.good) ∧ e = .returned (.tuple #[.slice none 0 0, .int .i64 1])))

theorem makeCh (w : World) (n : Nat) (hn : n ≤ 1000) : (Instr.makeSlice 22 (.int .i64 0) (.int .i64 (n : Int))).run Tryz.prog w = .ok (.slice (some ⟨w.heap.size, 0, none⟩) 0 n) (w.alloc (.cells (madeCells #[.int .i64 0, .slice none 0 0] (n * 2)) 32)) := by
  obtain ⟨i0, hi, hz0, hz1, hz2⟩ := info_parts Tryz.infoCh
  have := run_make (P := Tryz.prog) w 22 32 i0 _ Tryz.underlying22 hi hz0 .i64 .i64 0 (n : Int) (by omega) (by omega) (by rw [hz2]; omega) (by omega)
  rw [this, hz1]
  rfl
theorem rowCh (w : World) (n : Nat) (hn : n ≤ 1000) : ChRow (w.alloc (.cells (madeCells #[.int .i64 0, .slice none 0 0] (n * 2)) 32)) w.heap.size (some ⟨w.heap.size, 0, none⟩) n [] :=
  ⟨⟨rfl, .inr ⟨w.heap.size, n, _, rfl, Nat.le_refl _, heap_alloc_new w _, Nat.zero_le _, by unfold maxLen; omega, size_madeCells _ _, by simp⟩⟩, (fun a ha => by cases ha), (fun a ha => by cases ha)⟩
theorem pgAlloc (w : World) : (Instr.alloc 130 true (.tuple #[])).run Tryz.prog w = .ok (.pointer (some ⟨w.heap.size, 0, none⟩)) (w.alloc (.cells (zs64.map B8).toArray 130)) := by kernel_rfl
theorem pgLaid (w : World) (xs : List UInt8) (hl : xs.length = 64) : ∃ w2, (Instr.storeAt 130 (.pointer (some ⟨w.heap.size, 0, none⟩)) (ag xs)).run Tryz.prog (w.alloc (.cells (zs64.map B8).toArray 130)) = .ok () w2 ∧
    w2.heap[w.heap.size]? = some (.cells (xs.map B8).toArray 130 (0, 0)) ∧ Below w.heap.size w w2 ∧ w2.heap.size = w.heap.size + 1 := by
  have e1 := heap_alloc_new w (.cells (zs64.map B8).toArray 130)
  obtain ⟨h1, h2⟩ := setCells_block (w := w.alloc (.cells (zs64.map B8).toArray 130)) (ys := xs) 0 e1 (by rw [zs64_len]; omega)
  rw [splice_all _ _ (by rw [zs64_len, hl])] at h1
  have hst := run_storeAt_mid (P := Tryz.prog) (w.alloc (.cells (zs64.map B8).toArray 130)) w.heap.size 0 130 (xs.map B8).toArray (by simpa [hl] using there_block e1 0 64 (by rw [zs64_len]; omega)) (by rw [Tryz.sizePg]; simp [hl]) (oneCell_b8 xs)
  refine ⟨_, by simpa [ag] using hst, h1, ⟨h2.os, h2.tape, h2.output, Nat.le_trans (by simp) h2.size, fun k hk => (h2.block k (by simp; omega) (by omega)).trans (Below.heap_alloc w _ k hk)⟩, ?_⟩
  have : ∀ (vs : List Value) (o : Nat) (v : World), (v.setCells w.heap.size o vs).heap.size = v.heap.size := by
    intro vs
    induction vs with
    | nil => intro o v; rfl
    | cons x r ih => intro o v; rw [World.setCells, ih]; simp [World.setCell]
  rw [this]
  simp
theorem mergedK_take (P : Nat → Option (List UInt8)) (K : List Nat) (k : Nat) (h : k < K.length) : mergedK P (K.take (k + 1)) = mergedK P (K.take k) ++ [((K[k] : Int), (P K[k]).getD zs64)] := by
  unfold mergedK
  rw [List.take_succ_eq_append_getElem h, List.map_append]
  rfl

set_option maxRecDepth 100000 in
set_option maxHeartbeats 800000 in
theorem merge_any (A : Option Addr) (l : List ChV) (c : Nat) (w : World) (hl : CR w w.heap.size A l) (hll : l.length ≤ 4398046511104) :
    Calls Tryz.prog 17 #[.slice A l.length c] w (MergeOut w l) := by
  have hlat := latest_any A l c w hl hll
  clear hl
  go_enter Tryz.func17, Tryz.ntmps17
  go_wp2_with fail
  refine hlat.mono ?_
  clear hlat
  rintro e w2 ⟨hb2, ⟨hgood, pb, nn, rfl, hpb, hP, hnn⟩ | ⟨hbad, rfl⟩⟩
  · have HG := Lib.hid hgood
    have hP64 : ∀ k x, latestF l k = some x → x.length = 64 := fun k x hx => latestF_len hgood hx
    clear hgood
    have hpl := hP.lt
    have hlen := fun ty => hP.len Tryz.underlying126 ty
    have hkl := keysF_len (latestF l)
    have hmk := makeCh w2 (keysF (latestF l)).length (by omega)
    have r3 := rowCh w2 (keysF (latestF l)).length (by omega)
    have b3 : Below w2.heap.size w2 (w2.alloc (.cells (madeCells #[.int .i64 0, .slice none 0 0] ((keysF (latestF l)).length * 2)) 32)) := (Below.refl _ _).alloc (Nat.le_refl _) _
    have hP3 := hP.below b3 hpl
    have bw3 := hb2.trans (b3.mono hb2.size)
    have hs23 : (w2.alloc (.cells (madeCells #[.int .i64 0, .slice none 0 0] ((keysF (latestF l)).length * 2)) 32)).heap.size = w2.heap.size + 1 := by simp
    go_wp2_with fail
    clear hlen hmk b3 hP
    generalize (w2.alloc (.cells (madeCells #[.int .i64 0, .slice none 0 0] ((keysF (latestF l)).length * 2)) 32)) = w3 at *
    refine (riseP_any w3 hP3).mono ?_
    intro e w4 hR
    obtain ⟨R, c4, rfl, hrow, hb4⟩ := hR.row
    have s4 := hb4.size
    have hs3 : pb < w3.heap.size := hP3.lt
    have r4 := r3.below hb4
    have hP4 := hP3.below hb4 hs3
    have bw4 := bw3.trans (hb4.mono bw3.size)
    have hRb := hrow.block
    have hw2 := hb2.size
    clear hR hb4 r3 hP3 bw3
    go_wp2_with fail
    try go_frame
    generalize hP0 : latestF l = P at *
    have HP0 := Lib.hid hP0
    clear hP0
    go_loopw [24, 6] (fun i sl wr => ∃ (k : Nat) (R1 : Option Addr) (cap : Nat) (L : List ChV), k ≤ (keysF P).length ∧ i = .int .i64 k ∧ sl = .slice R1 k cap ∧ L.length = k ∧ ChRow wr w2.heap.size R1 cap L ∧ (∀ r, R1 = some r → r.block = w2.heap.size ∨ w4.heap.size ≤ r.block) ∧
        L.map prC = mergedK P ((keysF P).take k) ∧ MapF pageC wr pb nn P ∧ OwnI wr w3.heap.size R c4 (keysF P) ∧ Below w.heap.size w wr ∧ w4.heap.size ≤ wr.heap.size) (fun i _ _ => (keysF P).length - (Go.RowKit.intOf i).toNat)
    case atStart => exact ⟨0, _, _, [], Nat.zero_le _, rfl, rfl, rfl, r4, (fun r hr => by cases hr; exact .inl rfl), rfl, hP4, hrow, bw4, Nat.le_refl _⟩
    case round =>
      obtain ⟨k, R1, cap, L, hk, rfl, rfl, hLk, hr, hLn, hLm, hPr, hrow, hb, hsz⟩ := hrel
      by_cases hlt : k < (keysF P).length
      · obtain ⟨g, rfl, hc⟩ := hrow.cell hlt
        have hq := keysF_mem.1 (List.getElem_mem hlt)
        have hT := mergedK_take P (keysF P) k hlt
        have hgb := hRb _ rfl
        generalize (keysF P)[k] = q at *
        obtain ⟨x, hx⟩ := Option.isSome_iff_exists.1 hq.2
        have hxl := hP64 q x hx
        have LK := hPr.look1 Tryz.underlying126 zs64 (zeroPg wr) q hq.1
        rw [hx] at LK hT
        simp only [Option.getD_some] at LK hT
        have hT' := Lib.hid hT
        have LK' := Lib.hid LK
        have HLM := Lib.hid hLm
        obtain ⟨w5, S5, e5, b5, s5⟩ := pgLaid wr x hxl
        have S5' := Lib.hid S5
        have A5 := Lib.hid (pgAlloc wr)
        have hXL := Lib.hid hxl
        have r5 := hr.below b5
        have k5 := keeps_below b5
        have hP5 := hPr.below b5 hPr.lt
        have hrow5 := hrow.keeps k5 (fun _ _ h => h)
        have bw5 := hb.trans (b5.mono hb.size)
        have c50 : BR w5 w5.heap.size (some ⟨wr.heap.size, 0, none⟩) x := by
          have := br_block e5 0 64
          rw [List.drop_zero, List.take_of_length_le (by omega)] at this
          exact this
        have hrb := hr.new
        have hob := own_block hr.own
        clear LK S5 hT hLm hx
        have e6 := heap_alloc_new w5 (.cells #[.int .i64 (q : Int), .slice (some ⟨wr.heap.size, 0, none⟩) 64 64] 32)
        have b6 : Below w5.heap.size w5 (w5.alloc (.cells #[.int .i64 (q : Int), .slice (some ⟨wr.heap.size, 0, none⟩) 64 64] 32)) := (Below.refl _ _).alloc (Nat.le_refl _) _
        have r6 := r5.below b6
        have h60 : (w5.alloc (.cells #[.int .i64 (q : Int), .slice (some ⟨wr.heap.size, 0, none⟩) 64 64] 32)).cell? ((⟨w5.heap.size, 0, none⟩ : Addr).add 0) = some (.int .i64 (q : Int)) := by rw [Addr.add_mid, cell_of_row _ _ _ _ _ _ e6]; rfl
        have h61 : (w5.alloc (.cells #[.int .i64 (q : Int), .slice (some ⟨wr.heap.size, 0, none⟩) 64 64] 32)).cell? ((⟨w5.heap.size, 0, none⟩ : Addr).add 1) = some (.slice (some ⟨wr.heap.size, 0, none⟩) 64 64) := by rw [Addr.add_mid, cell_of_row _ _ _ _ _ _ e6]; rfl
        have hs6 : (w5.alloc (.cells #[.int .i64 (q : Int), .slice (some ⟨wr.heap.size, 0, none⟩) 64 64] 32)).heap.size = wr.heap.size + 2 := by rw [World.size_alloc]; omega
        have hk6 : ∀ b, b < wr.heap.size → (w5.alloc (.cells #[.int .i64 (q : Int), .slice (some ⟨wr.heap.size, 0, none⟩) 64 64] 32)).heap[b]? = wr.heap[b]? := fun b hb => (b6.block b (by omega)).trans (b5.block b hb)
        have c60 := (c50.below b6).more b6.size
        obtain ⟨R', cap', w7, hap, r7, b7, hkb7, hR7⟩ := r6.app (by rw [hs6]; omega) (by omega) ⟨(q : Int), some ⟨wr.heap.size, 0, none⟩, x, 64⟩ ⟨c60, by show (-9223372036854775808 : Int) ≤ q; omega, by show (q : Int) ≤ _; omega, by show x.length ≤ 64; omega⟩
          (fun ad e => by
            cases e
            refine ⟨by show w2.heap.size ≤ wr.heap.size; omega, by rw [hs6]; show wr.heap.size < _; omega, fun g0 hg0 => ?_⟩
            have := (hob g0 hg0).2.1
            show wr.heap.size ≠ g0.block
            omega) ⟨w5.heap.size, 0, none⟩ 1 22 h60 (by rw [hxl]; exact h61)
        have hAP := Lib.hid hap
        have bw7 : Below w.heap.size w w7 := (bw5.trans (b6.mono bw5.size)).trans (b7.mono (by omega))
        have hP7 : MapF pageC w7 pb nn P := hPr.keep ((b7.block pb (by omega)).trans (hk6 pb hPr.lt))
        have hne : ∀ r, R1 = some r → g ≠ r.block := fun r hr e => by
          have := hLn r hr
          have h1 : w3.heap.size ≤ g := hgb.1
          have h2 : g < w4.heap.size := hgb.2
          omega
        have hg2 : g < w4.heap.size := hgb.2
        have hrow7 : OwnI w7 w3.heap.size (some ⟨g, 0, none⟩) c4 (keysF P) := by
          refine ⟨hrow.1, ?_⟩
          rcases hrow.2 with ⟨e, _⟩ | ⟨g', cap'', cur, e, hb', hg', rest⟩
          · cases e
          · injection e with e1 e2 e3
            cases e1
            refine .inr ⟨g, cap'', cur, by rw [e2, e3], hb', ((hkb7 g (by rw [hs6]; omega) hne).trans (hk6 g (by omega))).trans hg', rest⟩
        have hs7 := b7.size
        have hLs := Lib.hid hLk
        have hR7n : ∀ r, R' = some r → r.block = w2.heap.size ∨ w4.heap.size ≤ r.block := by
          intro r hr
          rcases hR7 r hr with ⟨r0, hr0, he⟩ | he
          · rw [he]; exact hLn r0 hr0
          · rw [he, hs6]; exact .inr (by omega)
        have HR7 := Lib.hid hR7n
        have hz7 : w4.heap.size ≤ w7.heap.size := by omega
        clear hap r6 r5 hr h60 h61 e6 b6 c60 c50 e5 hPr hrow hrow5 hP5 bw5 hb
        rw [hLk] at hAP
        clear hR7n hR7 hkb7 hk6 hrb hob hRb hgb hLn hne hs6 hLk hs7 s5 hg2 b7 k5 b5
        go_wp2_with (first
          | ((with_reducible refine here (op := .lookup 126 (.tmp 28) (.tmp 29) false) ?_); refine wpList_lookup_run rfl 126 _ _ false rfl _ _ _ rfl rfl LK'.out ?_)
          | ((with_reducible refine here (op := .alloc 130) (d := some 9) ?_); refine wpList_alloc_run rfl 130 rfl _ A5.out ?_)
          | ((with_reducible refine here (op := .store 130 (.tmp 9) (.tmp 30)) ?_); refine wpList_store_run rfl 130 _ _ rfl _ _ rfl rfl S5'.out ?_)
          | (at_builtin; refine wpList_append_run rfl _ _ 22 rfl _ hAP.out ?_))
        go_roundw
        case rel =>
          refine ⟨k + 1, R', cap', L ++ [⟨(q : Int), some ⟨wr.heap.size, 0, none⟩, x, 64⟩], by omega, by go_num, rfl, by rw [List.length_append, hLs.out]; rfl, r7, HR7.out, ?_, hP7, hrow7, bw7, hz7⟩
          · rw [hT'.out, List.map_append, HLM.out]; rfl
        case measure => simp [Go.RowKit.intOf]; omega
      · obtain rfl : k = (keysF P).length := by omega
        rw [List.take_length] at hLm
        have HLM := Lib.hid hLm
        clear hLm
        go_wp2_with fail
        go_ret2
        refine ⟨hb, .inl ⟨HG.out, R1, cap, L, by rw [hLk]; rfl, hr.cr, ?_⟩⟩
        rw [HP0.out]; exact HLM.out
  · have HB := Lib.hid hbad
    clear hbad
    go_wp2_with fail
    go_ret2
    exact ⟨hb2, .inr ⟨HB.out, rfl⟩⟩
end Go.Proofs.YtacghpabjmnfiaaGreatDoor
namespace Go.Proofs.YtacghpabjmnfiaaGreatDoor
open Go.RowKit Go.Maps

/-- The pages below p that have a change, in order. -/
def keysTo {V : Type} (f : Nat → Option V) (p : Nat) : List Nat := (List.range p).filter fun i => (f i).isSome
theorem keysTo_succ {V : Type} (f : Nat → Option V) (p : Nat) : keysTo f (p + 1) = keysTo f p ++ (if (f p).isSome then [p] else []) := by
  unfold keysTo
  rw [List.range_succ, List.filter_append]
  congr 1
  by_cases h : (f p).isSome <;> simp [h]
theorem mergedK_yes (P : Nat → Option (List UInt8)) (p : Nat) (x : List UInt8) (h : P p = some x) : mergedK P (keysTo P (p + 1)) = mergedK P (keysTo P p) ++ [((p : Int), x)] := by
  rw [keysTo_succ, h]
  simp [mergedK, h]
theorem mergedK_no (P : Nat → Option (List UInt8)) (p : Nat) (h : P p = none) : mergedK P (keysTo P (p + 1)) = mergedK P (keysTo P p) := by
  rw [keysTo_succ, h]
  simp
theorem lastK_skip {l : List ChV} (hg : ∀ a ∈ l, a.good) {k p : Nat} (hk : k < l.length) (h : l[k].page ≠ (p : Int)) : lastK l (k + 1) p = lastK l k p := by
  rw [lastK_succ l k hk]
  unfold updF
  have := (hg _ (List.getElem_mem hk)).1
  rw [if_neg (by omega)]
theorem lastK_hit {l : List ChV} {k p : Nat} (hk : k < l.length) (h : l[k].page = (p : Int)) : lastK l (k + 1) p = some l[k].xs := by
  rw [lastK_succ l k hk]
  unfold updF
  rw [if_pos (by omega)]

theorem keysTo_all {V : Type} (f : Nat → Option V) : keysTo f 128 = keysF f := rfl

set_option maxRecDepth 100000 in
set_option maxHeartbeats 1500000 in
theorem refMerge_any (A : Option Addr) (l : List ChV) (c : Nat) (w : World) (hl : CR w w.heap.size A l) (hll : l.length ≤ 4398046511104) :
    Calls Tryz.prog 18 #[.slice A l.length c] w (MergeOut w l) := by
  go_enter Tryz.func18, Tryz.ntmps18
  go_wp2_with fail
  go_loopw [11, 5] (fun i _ wr => ∃ (k : Nat), k ≤ l.length ∧ i = .int .i64 k ∧ (∀ a ∈ l.take k, a.good) ∧ Below w.heap.size w wr) (fun i _ _ => l.length - (Go.RowKit.intOf i).toNat)
  case atStart => exact ⟨0, Nat.zero_le _, rfl, by simp, Below.refl _ _⟩
  case round =>
    obtain ⟨k, hk, rfl, hgd, hb⟩ := hrel
    by_cases hlt : k < l.length
    · have h1 := hl.below hb
      obtain ⟨ad, rfl, hlb, d0, d1, hok⟩ := h1.at_ hlt
      have hsz := hb.size
      have hTG := fun h2 => Lib.hid (take_good hlt hgd h2)
      have hNG := fun h2 => Lib.hid (lat_no hlt h2)
      clear h1 hok hgd
      by_cases hg : l[k].good
      · have hG := hTG hg
        obtain ⟨g1, g2, g3⟩ := hg
        generalize l[k] = a at *
        have hx1 : ((a.xs.length : Int) != 64) = false := by simp; omega
        have hx2 : decide (a.page < 0) = false := by simp; omega
        have hx3 : decide (a.page ≥ 128) = false := by simp; omega
        clear hTG hNG
        go_wp2_with fail
        go_roundw
        case rel => exact ⟨k + 1, by omega, by go_num, hG.out, hb.alloc hsz _⟩
        case measure => simp [Go.RowKit.intOf]; omega
      · have hN := hNG hg
        clear hTG hNG
        by_cases g1 : l[k].page < 0
        · generalize l[k] = a at *
          go_wp2_with fail
          go_ret2
          exact ⟨hb.alloc hsz _, .inr ⟨hN.out, rfl⟩⟩
        · by_cases g2 : 128 ≤ l[k].page
          · generalize l[k] = a at *
            go_wp2_with fail
            go_ret2
            exact ⟨hb.alloc hsz _, .inr ⟨hN.out, rfl⟩⟩
          · have g3 : l[k].xs.length ≠ 64 := fun e => hg ⟨by omega, by omega, e⟩
            generalize l[k] = a at *
            have hx1 : ((a.xs.length : Int) != 64) = true := by simp; omega
            clear g3
            go_wp2_with fail
            go_ret2
            exact ⟨hb.alloc hsz _, .inr ⟨hN.out, rfl⟩⟩
    · obtain rfl : k = l.length := by omega
      rw [List.take_length] at hgd
      have HG := Lib.hid hgd
      have hc := hl.below hb
      have hP64 : ∀ k x, latestF l k = some x → x.length = 64 := fun k x hx => latestF_len hgd hx
      clear hgd hl
      rename World => w1
      have r0 := ChRow.nil w1 w1.heap.size
      go_wp2_with fail
      try go_frame
      go_loopw [7, 6, 8] (fun p sl _ wr => ∃ (k : Nat) (R1 : Option Addr) (cap : Nat) (L : List ChV), k ≤ 128 ∧ p = .int .i64 k ∧ sl = .slice R1 L.length cap ∧ L.length ≤ k ∧ ChRow wr w1.heap.size R1 cap L ∧ L.map prC = mergedK (latestF l) (keysTo (latestF l) k) ∧ Below w1.heap.size w1 wr) (fun p _ _ _ => 128 - (Go.RowKit.intOf p).toNat)
      case atStart => exact ⟨0, none, 0, [], by omega, rfl, rfl, Nat.le_refl _, r0, rfl, Below.refl _ _⟩
      case round =>
        obtain ⟨k, R1, cap, L, hk, rfl, rfl, hLk, hr, hLm, hb1⟩ := hrel
        by_cases hlt : k < 128
        · rename World => w2
          have hc2 := hc.below (hb1.mono hb.size)
          go_wp2_with fail
          try go_frame
          go_loopw [8, 6] (fun i sl wr => ∃ (j : Int), -1 ≤ j ∧ j < l.length ∧ i = .int .i64 j ∧ sl = .slice R1 L.length cap ∧ wr = w2 ∧ latestF l k = lastK l (j + 1).toNat k) (fun i _ _ => (Go.RowKit.intOf i + 1).toNat)
          case atStart =>
            refine ⟨(l.length : Int) - 1, by omega, by omega, by go_num, rfl, rfl, ?_⟩
            rw [show ((l.length : Int) - 1 + 1).toNat = l.length from by omega]
            rfl
          case round =>
            obtain ⟨j, hj0, hj1, rfl, rfl, rfl, hla⟩ := hrel
            by_cases hjn : 0 ≤ j
            · obtain ⟨m, rfl⟩ := Int.eq_ofNat_of_zero_le hjn
              have hm : m < l.length := by omega
              obtain ⟨ad, rfl, hlb, d0, d1, hok⟩ := hc2.at_ hm
              rw [show ((m : Int) + 1).toNat = m + 1 from by omega] at hla
              by_cases hpg : l[m].page = (k : Int)
              · -- the last one of this page
                rw [lastK_hit hm hpg] at hla
                have hx64 := hP64 k _ hla
                have hMK := Lib.hid (mergedK_yes (latestF l) k _ hla)
                generalize l[m] = a at *
                obtain ⟨pg, A1, xs, c1⟩ := a
                simp only at *
                subst hpg
                have HX := Lib.hid hx64
                obtain ⟨R2, c2, w3, hap, own3, b3⟩ := run_append8 (P := Tryz.prog) wr 30 30 5 Tryz.info8 Tryz.underlying30 A1 xs c1 (hok.br.more (by have := hb1.size; have := hb.size; omega)) (by omega)
                have hAP := Lib.hid hap
                have hb0 : ∀ adr, R2 = some adr → wr.heap.size ≤ adr.block ∧ adr.block < w3.heap.size := by
                  rintro adr rfl
                  rcases own3.2 with ⟨e, _⟩ | ⟨g', cap'', cur, e, hb', hg', rest⟩
                  · cases e
                  · cases e
                    exact ⟨hb', (Array.getElem?_eq_some_iff.1 hg').1⟩
                have r3 := hr.below b3
                have br3 := own3.br
                have hcap := own3.cap_le
                have s3 := b3.size
                have e4 := heap_alloc_new w3 (.cells #[.int .i64 (k : Int), .slice R2 64 c2] 32)
                have b4 : Below w3.heap.size w3 (w3.alloc (.cells #[.int .i64 (k : Int), .slice R2 64 c2] 32)) := (Below.refl _ _).alloc (Nat.le_refl _) _
                have s4 : (w3.alloc (.cells #[.int .i64 (k : Int), .slice R2 64 c2] 32)).heap.size = w3.heap.size + 1 := by simp
                have r4 := r3.below b4
                have hob := own_block hr.own
                have h40 : (w3.alloc (.cells #[.int .i64 (k : Int), .slice R2 64 c2] 32)).cell? ((⟨w3.heap.size, 0, none⟩ : Addr).add 0) = some (.int .i64 (k : Int)) := by rw [Addr.add_mid, cell_of_row _ _ _ _ _ _ e4]; rfl
                have h41 : (w3.alloc (.cells #[.int .i64 (k : Int), .slice R2 64 c2] 32)).cell? ((⟨w3.heap.size, 0, none⟩ : Addr).add 1) = some (.slice R2 64 c2) := by rw [Addr.add_mid, cell_of_row _ _ _ _ _ _ e4]; rfl
                obtain ⟨R', cap', w5, hap5, r5, b5, hjk1, hjk2⟩ := r4.app (by have := hb1.size; omega) (by omega) ⟨(k : Int), R2, xs, c2⟩ ⟨(br3.below b4).more b4.size, by show (-9223372036854775808 : Int) ≤ k; omega, by show (k : Int) ≤ _; omega, hcap⟩
                  (fun adr e => ⟨by have := (hb0 adr e).1; have := hb1.size; omega, by have := (hb0 adr e).2; omega, fun g0 hg0 => by
                    have h1 := (hob g0 hg0).2.1
                    have h2 := (hb0 adr e).1
                    omega⟩) ⟨w3.heap.size, 0, none⟩ 1 22 h40 (by rw [hx64]; exact h41)
                have hAP5 := Lib.hid hap5
                have hbw : Below w1.heap.size w1 w5 := (hb1.trans (b3.mono hb1.size)).trans ((b4.mono (by have := hb1.size; omega)).trans b5)
                have HLM := Lib.hid hLm
                have hok0 : (L ++ [(⟨(k : Int), R2, xs, c2⟩ : ChV)]).length = L.length + 1 := by simp
                clear hjk1 hjk2 hap hap5 own3 r3 r4 br3 hok hc2 e4 b4 h40 h41 hob hb0 hLm hla hr b3 b5 hx64 hcap hP64
                go_wp2_with (first
                  | (at_builtin; refine wpList_append_run rfl _ _ 30 rfl _ hAP.out ?_; rw [HX.out])
                  | (at_builtin; refine wpList_append_run rfl _ _ 22 rfl _ hAP5.out ?_))
                refine ⟨⟨k + 1, R', cap', L ++ [(⟨(k : Int), R2, xs, c2⟩ : ChV)], by omega, by go_num, by rw [hok0], by rw [hok0]; omega, r5, ?_, hbw⟩, ?_⟩
                · rw [hMK.out, List.map_append, HLM.out]; rfl
                · simp [Go.RowKit.intOf]; omega
              · -- another page
                rw [lastK_skip HG.out hm hpg] at hla
                have hne : (l[m].page == (k : Int)) = false := by simpa using hpg
                generalize l[m] = a at *
                have HLA := Lib.hid hla
                clear hla hok hpg
                go_wp2_with fail
                go_roundw
                case rel => exact ⟨(m : Int) - 1, by omega, by omega, by go_num, rfl, trivial, by rw [show ((m : Int) - 1 + 1).toNat = m from by omega]; exact HLA.out⟩
                case measure => simp [Go.RowKit.intOf]
            · obtain rfl : j = -1 := by omega
              have hno : latestF l k = none := hla
              have hMK := Lib.hid (mergedK_no (latestF l) k hno)
              have HLM := Lib.hid hLm
              clear hla hno hLm
              go_wp2_with fail
              go_roundw
              case rel => exact ⟨k + 1, R1, cap, L, by omega, by go_num, rfl, by omega, hr, by rw [hMK.out]; exact HLM.out, hb1⟩
              case measure => simp [Go.RowKit.intOf]; omega
        · obtain rfl : k = 128 := by omega
          rw [keysTo_all] at hLm
          have HLM := Lib.hid hLm
          clear hLm
          go_wp2_with fail
          go_ret2
          exact ⟨hb.trans (hb1.mono hb.size), .inl ⟨HG.out, R1, cap, L, rfl, hr.cr, HLM.out⟩⟩
end Go.Proofs.YtacghpabjmnfiaaGreatDoor
