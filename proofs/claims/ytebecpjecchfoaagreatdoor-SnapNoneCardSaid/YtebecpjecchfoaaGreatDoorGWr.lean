/-
  Merged by wip/tools/merge.py: WkThru WkThruAny WkReach
-/
import Derived.Test.YtebecpjecchfoaaGreatDoorWkClimb
import Derived.Test.YtebecpjecchfoaaGreatDoorGWk
import Derived.Test.YtebecpjecchfoaaGreatDoorWkZero
namespace Go.Proofs.YtebecpjecchfoaaGreatDoor
open Go.RowKit

theorem nodup_le : ∀ (n : Nat) (l : List Nat), l.Nodup → (∀ k ∈ l, k < n) → l.length ≤ n
  | 0, l, _, h => by
    cases l with
    | nil => simp
    | cons x r => exact absurd (h x (by simp)) (by omega)
  | n + 1, l, hn, h => by
    have h1 : (l.erase n).length ≤ n := nodup_le n (l.erase n) (hn.erase n) (fun k hk => by
      have h2 := h k (List.mem_of_mem_erase hk)
      have h3 : k ≠ n := fun e => by
        subst e
        exact (List.Nodup.not_mem_erase hn) hk
      omega)
    have h4 := List.length_erase (a := n) (l := l)
    split at h4 <;> omega

/-- What is shown to: its state, and the contract of a call. -/
structure SOk (S : (Nat → Prop) → PL → World → Prop) (C n : Nat) (fS : FuncId) (caps : Array Value) : Prop where
  keep : ∀ {fp : Nat → Prop} {l : PL} {W W' : World} {G : Nat → Prop}, S fp l W → Keeps G W W' → (∀ k, G k → C ≤ k ∧ ¬ fp k) → S fp l W'
  lt : ∀ {fp : Nat → Prop} {l : PL} {W : World} {k : Nat}, S fp l W → fp k → k < W.heap.size
  enters : ∀ args w, (callFunc fS args).run Tryz.prog w = .ok (.enter fS args) w
  take : ∀ {fp : Nat → Prop} {l : PL} {W : World} {m : Nat} {pg : Int}, S fp l W → m < n → l.length ≤ 2000 → (-1 ≤ pg ∧ pg < 128) →
    Calls Tryz.prog fS (#[.int .i64 (m : Int), .int .i64 pg] ++ caps) W (TOut S fp l m pg W)

/-- While goThrough works: b7 the set's variable, b3 the disk's, b5 the shower's, mb the set. -/
structure GoT (S : (Nat → Prop) → PL → World → Prop) (w0 : World) (p b7 b3 b5 mb n C : Nat) (sv : Value) (own : Nat → Prop) (l : PL) (w : World) : Prop where
  e7 : w.heap[b7]? = some (.cells #[.map (some mb)] 245 (0, 0))
  e3 : w.heap[b3]? = some (.cells #[.pointer (some ⟨p, 0, none⟩)] 29 (0, 0))
  e5 : w.heap[b5]? = some (.cells #[sv] 225 (0, 0))
  s : SetF w mb l.length (l.map Prod.fst)
  o : S own l w
  b : Below w0.heap.size w0 w
  nd : (l.map Prod.fst).Nodup
  rg : ∀ k ∈ l.map Prod.fst, k < n
  lo : C ≤ b7 ∧ C ≤ b3 ∧ C ≤ b5 ∧ C ≤ mb ∧ w0.heap.size ≤ C
  ow : ∀ k, own k → w0.heap.size ≤ k ∧ k ≠ b7 ∧ k ≠ b3 ∧ k ≠ b5 ∧ k ≠ mb
  ne : mb ≠ b7 ∧ mb ≠ b3 ∧ mb ≠ b5
section
variable {S : (Nat → Prop) → PL → World → Prop} {w0 w w' : World} {p b7 b3 b5 mb n C : Nat} {fS : FuncId} {caps : Array Value} {sv : Value} {own own' : Nat → Prop} {l l' : PL}
theorem GoT.len (h : GoT S w0 p b7 b3 b5 mb n C sv own l w) : l.length ≤ n := by
  have := nodup_le n _ h.nd h.rg
  simpa using this
theorem GoT.kept (h : GoT S w0 p b7 b3 b5 mb n C sv own l w) (hs : SOk S C n fS caps) {G : Nat → Prop} (k : Keeps G w w') (hG : ∀ b, G b → C ≤ b ∧ ¬ own b ∧ b ≠ b7 ∧ b ≠ b3 ∧ b ≠ b5 ∧ b ≠ mb) : GoT S w0 p b7 b3 b5 mb n C sv own l w' := by
  have l7 : b7 < w.heap.size := (Array.getElem?_eq_some_iff.1 h.e7).1
  have l3 : b3 < w.heap.size := (Array.getElem?_eq_some_iff.1 h.e3).1
  have l5 : b5 < w.heap.size := (Array.getElem?_eq_some_iff.1 h.e5).1
  have hl := h.lo
  exact ⟨(k.block _ l7 (fun g => (hG _ g).2.2.1 rfl)).trans h.e7, (k.block _ l3 (fun g => (hG _ g).2.2.2.1 rfl)).trans h.e3, (k.block _ l5 (fun g => (hG _ g).2.2.2.2.1 rfl)).trans h.e5,
    h.s.keeps k (fun g => (hG _ g).2.2.2.2.2 rfl), hs.keep h.o k (fun b g => ⟨(hG b g).1, (hG b g).2.1⟩), h.b.trans (k.toBelow _ h.b.size (fun b g => by have := (hG b g).1; omega)), h.nd, h.rg, hl, h.ow, h.ne⟩
theorem GoT.new (h : GoT S w0 p b7 b3 b5 mb n C sv own l w) (hs : SOk S C n fS caps) (k : Keeps (fun _ => False) w w') : GoT S w0 p b7 b3 b5 mb n C sv own l w' := h.kept hs k (fun _ h => h.elim)
end

set_option maxRecDepth 100000 in
set_option maxHeartbeats 800000 in
/-- The closure where the sector may be reached. -/
theorem gtake_ok {S : (Nat → Prop) → PL → World → Prop} {w0 w : World} {p lb mb0 n : Nat} {iv : Value} {D : DSt} (h0 : DkAt w0 p lb mb0 n iv D) {b7 b3 b5 mb C : Nat} {fS : FuncId} {caps : Array Value} (hs : SOk S C n fS caps) {own : Nat → Prop} {l : PL}
    (h : GoT S w0 p b7 b3 b5 mb n C (.func (.func fS) #[] caps) own l w) (m : Nat) (pg : Int) {l' : List Nat} (ha : addS n (l.map Prod.fst) (m : Int) = some l') (hpg : -1 ≤ pg ∧ pg < 128) :
    Calls Tryz.prog 201 #[.int .i64 (m : Int), .int .i64 pg, .pointer (some ⟨b7, 0, none⟩), .pointer (some ⟨b3, 0, none⟩), .pointer (some ⟨b5, 0, none⟩)] w fun e w' =>
      e = .returned (.tuple #[]) ∧ ∃ own', GoT S w0 p b7 b3 b5 mb n C (.func (.func fS) #[] caps) own' (l ++ [(m, pg)]) w' ∧ Keeps (fun k => k = mb ∨ own k) w w' ∧ ∀ k, own' k → own k ∨ w.heap.size ≤ k := by
  have hn2 := h0.ok.n_le
  obtain ⟨h2, hm, _⟩ := addS_some ha
  have hlen := h.len
  obtain ⟨nd', rg'⟩ := addS_len ha h.nd h.rg
  have hno : m ∉ l.map Prod.fst := by
    unfold addS at ha
    split at ha
    · rename_i hc
      simpa using hc.2.2
    · cases ha
  obtain ⟨_, _, rfl⟩ := addS_some ha
  rw [Int.toNat_natCast] at nd' rg'
  have hdec : decide (∃ k ∈ l.map Prod.fst, (m : Int) = (k : Int)) = false := decide_eq_false (by
    rintro ⟨k, hk, e⟩
    exact hno (by rw [show m = k from by omega]; exact hk))
  have LK := h.s.look Tryz.underlying245 (zeroU w) (m : Int) (by omega) (by omega)
  rw [hdec] at LK
  have A1 := Lib.hid (allocU w)
  have k1 : Keeps (fun _ => False) w (w.alloc (.cells #[] 247)) := Keeps.alloc _ _ _
  have h1 := h.new hs k1
  obtain ⟨c7, z7⟩ := cell1 h.e7
  obtain ⟨c3, z3⟩ := cell1 h1.e3
  clear hdec ha hno
  go_enter Tryz.func201, Tryz.ntmps201
  have st0 : (Instr.storeAt 247 (.pointer (some ⟨w.heap.size, 0, none⟩)) (.agg #[])).run Tryz.prog (w.alloc (.cells #[] 247)) = .ok () (w.alloc (.cells #[] 247)) := storeU w
  have ST := Lib.hid st0
  clear st0
  go_wp2_with (first
    | ((with_reducible refine at_ (op := .alloc 247) ?_); refine wpList_val rfl _ (ex_alloc 247 rfl _ A1.out) ?_)
    | ((with_reducible refine here (op := .store 247 (.tmp 7) (.tmp 13)) ?_); refine wpList_store_run rfl 247 _ _ rfl _ _ rfl rfl ST.out ?_))
  refine (wisOf_at (h0.same (keeps_below h1.b)) (m : Int)).mono ?_
  rintro e w' ⟨rfl, rfl⟩
  rw [show decide (2 ≤ (m : Int) ∧ (m : Int) < (n : Int)) = true from decide_eq_true ⟨by omega, by omega⟩]
  obtain ⟨w3, up, s3, g3, z3s⟩ := h1.s.put Tryz.underlying245 m (by omega) (by unfold maxLen; omega)
  have k3 : Keeps (· = mb) (w.alloc (.cells #[] 247)) w3 := Keeps.grown _ g3 (fun b e => by cases e; rfl)
  have hlo := h1.lo
  have how := h1.ow
  have hne := h1.ne
  have l7 : b7 < (w.alloc (.cells #[] 247)).heap.size := (Array.getElem?_eq_some_iff.1 h1.e7).1
  have l3 : b3 < (w.alloc (.cells #[] 247)).heap.size := (Array.getElem?_eq_some_iff.1 h1.e3).1
  have l5 : b5 < (w.alloc (.cells #[] 247)).heap.size := (Array.getElem?_eq_some_iff.1 h1.e5).1
  have p7 := (k3.block _ l7 (fun e => hne.1 e.symm)).trans h1.e7
  have p3 := (k3.block _ l3 (fun e => hne.2.1 e.symm)).trans h1.e3
  have p5 := (k3.block _ l5 (fun e => hne.2.2 e.symm)).trans h1.e5
  have po := hs.keep h1.o k3 (fun b e => ⟨by omega, fun ho => (how b ho).2.2.2.2 e⟩)
  have pb : Below w0.heap.size w0 w3 := h1.b.trans (k3.toBelow _ h1.b.size (fun b e => by omega))
  have hmb : mb < w.heap.size := h.s.lt
  have hown : ∀ k, own k → k < w.heap.size := fun k hk => hs.lt h.o hk
  obtain ⟨c71, z71⟩ := cell1 h1.e7
  obtain ⟨c5, z5⟩ := cell1 p5
  have UP := Lib.hid up
  have S3 := Lib.hid s3
  have hsz : w.heap.size ≤ (w.alloc (.cells #[] 247)).heap.size := k1.size
  have HOW := Lib.hid how
  have HOWN := Lib.hid hown
  have z31 := k3.size
  have ND := Lib.hid nd'
  have RG := Lib.hid rg'
  have hen := hs.enters
  clear up s3 g3 h1 h c7 z7 c3 z3 LK A1 ST how hown nd' rg'
  generalize w.alloc (.cells #[] 247) = w2 at *
  go_wp2_with fail
  refine (wdemand_ok _).mono ?_
  rintro e w' ⟨rfl, rfl⟩
  go_wp2_with (first
    | ((with_reducible refine at_ (op := .build 247 #[]) ?_); refine wpList_val rfl _ (ex_build0 247 rfl _ (buildU _)) ?_)
    | ((with_reducible refine here (op := .mapUpdate 245 (.tmp 23) (.tmp 24) (.tmp 25)) ?_); refine wpList_mapUpdate_run rfl 245 _ _ _ rfl _ _ _ rfl rfl rfl UP.out ?_))
  refine (hs.take (m := m) (pg := pg) po (by omega) (by omega) hpg).mono ?_
  rintro e w4 ⟨rfl, own4, o4, k4, hs4⟩
  have HS4 := Lib.hid hs4
  clear hs4 hen
  go_wp2_with fail
  go_end0
  have z4 := k4.size
  have hF : ∀ k, k = b7 ∨ k = b3 ∨ k = b5 ∨ k = mb → ¬ own k := fun k hk ho => by
    have := HOW.out k ho
    omega
  refine ⟨rfl, own4, ⟨(k4.block _ (by omega) (hF _ (by simp))).trans p7, (k4.block _ (by omega) (hF _ (by simp))).trans p3, (k4.block _ (by omega) (hF _ (by simp))).trans p5, ?_, o4, pb.trans (k4.toBelow _ pb.size (fun k h => (HOW.out k h).1)), ?_, ?_, hlo, fun k hk => ?_, hne⟩, ?_, fun k hk => (HS4.out k hk).imp id (fun h => by omega)⟩
  · have := S3.out.keeps k4 (hF _ (by simp))
    rw [List.length_append, List.map_append]
    exact this
  · rw [List.map_append]; exact ND.out
  · rw [List.map_append]; exact RG.out
  · rcases HS4.out k hk with h | h
    · exact HOW.out k h
    · exact ⟨by omega, by omega, by omega, by omega, by omega⟩
  · exact (k1.ofFalse.trans (k3.mono (fun _ _ h => .inl h))).trans (k4.mono (fun _ _ h => .inr h))

set_option maxRecDepth 100000 in
set_option maxHeartbeats 800000 in
/-- The closure where the sector may not be reached. -/
theorem gtake_bad {S : (Nat → Prop) → PL → World → Prop} {w0 w : World} {p lb mb0 n : Nat} {iv : Value} {D : DSt} (h0 : DkAt w0 p lb mb0 n iv D) {b7 b3 b5 mb C : Nat} {fS : FuncId} {caps : Array Value} (hs : SOk S C n fS caps) {own : Nat → Prop} {l : PL}
    (h : GoT S w0 p b7 b3 b5 mb n C (.func (.func fS) #[] caps) own l w) (s pg : Int) (hs1 : -9223372036854775808 ≤ s) (hs2 : s ≤ 9223372036854775807) (hbad : addS n (l.map Prod.fst) s = none) :
    Calls Tryz.prog 201 #[.int .i64 s, .int .i64 pg, .pointer (some ⟨b7, 0, none⟩), .pointer (some ⟨b3, 0, none⟩), .pointer (some ⟨b5, 0, none⟩)] w fun e w' => e = thrownT ∧ Below w.heap.size w w' := by
  have LK := h.s.look Tryz.underlying245 (zeroU w) s hs1 hs2
  have A1 := Lib.hid (allocU w)
  have k1 : Keeps (fun _ => False) w (w.alloc (.cells #[] 247)) := Keeps.alloc _ _ _
  have h1 := h.new hs k1
  have hb1 : Below w.heap.size w (w.alloc (.cells #[] 247)) := k1.toBelow _ (Nat.le_refl _) (fun _ h => h.elim)
  obtain ⟨c7, z7⟩ := cell1 h.e7
  obtain ⟨c3, z3⟩ := cell1 h1.e3
  have ST := Lib.hid (storeU w)
  have hio := wisOf_at (h0.same (keeps_below h1.b)) s
  clear h h1 k1
  by_cases hin : ∃ m ∈ l.map Prod.fst, s = (m : Int)
  · rw [decide_eq_true hin] at LK
    clear hin hbad
    go_enter Tryz.func201, Tryz.ntmps201
    go_wp2_with (first
      | ((with_reducible refine at_ (op := .alloc 247) ?_); refine wpList_val rfl _ (ex_alloc 247 rfl _ A1.out) ?_)
      | ((with_reducible refine here (op := .store 247 (.tmp 7) (.tmp 13)) ?_); refine wpList_store_run rfl 247 _ _ rfl _ _ rfl rfl ST.out ?_))
    refine (wdemand_bad _).mono ?_
    rintro e w' ⟨rfl, rfl⟩
    exact ⟨rfl, rfl, hb1⟩
  · rw [decide_eq_false hin] at LK
    have hno : decide (2 ≤ s ∧ s < (n : Int)) = false := decide_eq_false (by
      rintro ⟨g1, g2⟩
      unfold addS at hbad
      rw [if_pos ⟨g1, g2, fun hm => hin ⟨_, hm, by omega⟩⟩] at hbad
      cases hbad)
    rw [hno] at hio
    clear hin hbad hno
    go_enter Tryz.func201, Tryz.ntmps201
    go_wp2_with (first
      | ((with_reducible refine at_ (op := .alloc 247) ?_); refine wpList_val rfl _ (ex_alloc 247 rfl _ A1.out) ?_)
      | ((with_reducible refine here (op := .store 247 (.tmp 7) (.tmp 13)) ?_); refine wpList_store_run rfl 247 _ _ rfl _ _ rfl rfl ST.out ?_))
    refine hio.mono ?_
    rintro e w' ⟨rfl, rfl⟩
    go_wp2_with fail
    refine (wdemand_bad _).mono ?_
    rintro e w' ⟨rfl, rfl⟩
    exact ⟨rfl, rfl, hb1⟩
end Go.Proofs.YtebecpjecchfoaaGreatDoor
namespace Go.Proofs.YtebecpjecchfoaaGreatDoor
open Go.RowKit

/-- What goThrough gives. -/
def ThruOut (S : (Nat → Prop) → PL → World → Prop) (fp : Nat → Prop) (X : Option PL) (w : World) (e : Ending) (w' : World) : Prop :=
  (∃ ps fp', X = some ps ∧ e = .returned (.int .i64 0) ∧ S fp' ps w' ∧ Keeps fp w w' ∧ ∀ k, fp' k → fp k ∨ w.heap.size ≤ k) ∨ (X = none ∧ e = .returned (.int .i64 60) ∧ Keeps fp w w')

theorem Keeps.set_new {F : Nat → Prop} {w w' : World} (h : Keeps F w w') (a : Addr) (v : Value) (ha : w.heap.size ≤ a.block) : Keeps F w (w'.setCell a v) :=
  ⟨h.os, h.tape, h.output, by simpa [World.setCell] using h.size, fun k hk hF => (Below.heap_setCell _ _ _ _ (by omega)).trans (h.block k hk hF)⟩
/-- The state for climb. -/
def ThT (S : (Nat → Prop) → PL → World → Prop) (w0 : World) (p b7 b3 b5 mb eb n C : Nat) (sv : Value) (fp : Nat → Prop) (l : PL) (w : World) : Prop :=
  ∃ own, GoT S w0 p b7 b3 b5 mb n C sv own l w ∧ w.heap[eb]? = some (.cells #[.int .i64 0] 26 (0, 0)) ∧ (∀ k, fp k ↔ k = mb ∨ own k) ∧ ¬ own eb
theorem thT_ok {S : (Nat → Prop) → PL → World → Prop} {w0 : World} {p lb mb0 n : Nat} {iv : Value} {D : DSt} (h0 : DkAt w0 p lb mb0 n iv D) {b7 b3 b5 mb eb C C' : Nat} {fS : FuncId} {caps : Array Value} (hs : SOk S C n fS caps)
    (hC : C ≤ C') (h7 : b7 < C') (h3 : b3 < C') (h5 : b5 < C') (hm : mb < C') (he : eb < C') (hem : eb ≠ mb) : TOk (ThT S w0 p b7 b3 b5 mb eb n C (.func (.func fS) #[] caps)) C' p lb mb0 n iv D b7 b3 b5 where
  keep := by
    rintro fp l W W' G ⟨own, hg, ee, hf, hn⟩ k hG
    have hle : eb < W.heap.size := (Array.getElem?_eq_some_iff.1 ee).1
    exact ⟨own, hg.kept hs k (fun b hb => by
      have h1 := hG b hb
      refine ⟨by omega, fun ho => h1.2 ((hf b).2 (.inr ho)), by omega, by omega, by omega, by omega⟩), (k.block _ hle (fun hb => by have := hG _ hb; omega)).trans ee, hf, hn⟩
  lt := by
    rintro fp l W k ⟨own, hg, ee, hf, hn⟩ hk
    rcases (hf k).1 hk with rfl | h
    · exact hg.s.lt
    · exact hs.lt hg.o h
  disk := by
    rintro fp l W ⟨own, hg, _⟩
    exact h0.same (keeps_below hg.b)
  ok := by
    rintro fp l W m pg l' ⟨own, hg, ee, hf, hn⟩ ha hpg
    refine (gtake_ok h0 hs hg m pg ha hpg).mono ?_
    rintro e w' ⟨rfl, own', hg', k', ho'⟩
    have hle : eb < W.heap.size := (Array.getElem?_eq_some_iff.1 ee).1
    refine ⟨rfl, fun k => k = mb ∨ own' k, ⟨own', hg', (k'.block _ hle (fun h => ?_)).trans ee, fun k => Iff.rfl, fun h => ?_⟩, k'.mono (fun b _ h => (hf b).2 h), fun k hk => ?_⟩
    · rcases h with h | h
      · exact hem h
      · exact hn h
    · rcases ho' _ h with h | h
      · exact hn h
      · omega
    · rcases hk with rfl | h
      · exact .inl ((hf _).2 (.inl rfl))
      · exact (ho' k h).imp (fun h => (hf k).2 (.inr h)) id
  bad := by
    rintro fp l W s pg ⟨own, hg, _⟩ h1 h2 ha
    exact gtake_bad h0 hs hg s pg h1 h2 ha

set_option maxRecDepth 100000 in
set_option maxHeartbeats 1600000 in
theorem through_any {S : (Nat → Prop) → PL → World → Prop} {w0 w : World} {p lb mb0 n : Nat} {iv : Value} {D : DSt} (h0 : DkAt w0 p lb mb0 n iv D) (hd : D.down = false) {fS : FuncId} {caps : Array Value} (hs : SOk S w.heap.size n fS caps) {fp : Nat → Prop}
    (h : S fp [] w) (hb : Below w0.heap.size w0 w) (hfp : ∀ k, fp k → w0.heap.size ≤ k) (top : Int) (h1 : -9223372036854775808 ≤ top) (h2 : top ≤ 9223372036854775807) :
    Calls Tryz.prog 169 #[.pointer (some ⟨p, 0, none⟩), .int .i64 top, .func (.func fS) #[] caps] w (ThruOut S fp (walkT D n top) w) := by
  have hmf : ∀ (fn : Fn) (first cap : Array Value) (w : World), (Instr.makeFunc fn first cap).run Tryz.prog w = .ok (.func fn first cap) w := fun _ _ _ _ => rfl
  have hmm := @run_makeMap Tryz.prog
  have hdn := fun {w' : World} (k : Below w0.heap.size w0 w') => down_at (h0.same (keeps_below k))
  rw [hd] at hdn
  go_enter_defers Tryz.func169, Tryz.ntmps169
  go_wp2_with fail
  refine (hdn ?_).mono ?_
  · exact ((hb.alloc hb.size _).alloc (by have := hb.size; simp; omega) _).alloc (by have := hb.size; simp; omega) _
  rintro e w' ⟨rfl, rfl⟩
  go_wp2_with fail
  have kw : Keeps (fun _ => False) w (((((w.alloc (.cells #[.pointer (some ⟨p, 0, none⟩)] 29)).alloc (.cells #[.func (.func fS) #[] caps] 225)).alloc (.cells #[.int .i64 0] 26)).alloc (.map #[] 0)).alloc (.cells #[.map (some (w.heap.size + 1 + 1 + 1))] 245)) :=
    ((((Keeps.alloc _ _ _).trans (Keeps.alloc _ _ _)).trans (Keeps.alloc _ _ _)).trans (Keeps.alloc _ _ _)).trans (Keeps.alloc _ _ _)
  have hs5 : (((((w.alloc (.cells #[.pointer (some ⟨p, 0, none⟩)] 29)).alloc (.cells #[.func (.func fS) #[] caps] 225)).alloc (.cells #[.int .i64 0] 26)).alloc (.map #[] 0)).alloc (.cells #[.map (some (w.heap.size + 1 + 1 + 1))] 245)).heap.size = w.heap.size + 5 := by simp
  have a3 := heap_alloc_new w (.cells #[.pointer (some ⟨p, 0, none⟩)] 29)
  have a5 := heap_alloc_new (w.alloc (.cells #[.pointer (some ⟨p, 0, none⟩)] 29)) (.cells #[.func (.func fS) #[] caps] 225)
  have a6 := heap_alloc_new ((w.alloc (.cells #[.pointer (some ⟨p, 0, none⟩)] 29)).alloc (.cells #[.func (.func fS) #[] caps] 225)) (.cells #[.int .i64 0] 26)
  have am := SetF.made (((w.alloc (.cells #[.pointer (some ⟨p, 0, none⟩)] 29)).alloc (.cells #[.func (.func fS) #[] caps] 225)).alloc (.cells #[.int .i64 0] 26))
  have a7 := heap_alloc_new ((((w.alloc (.cells #[.pointer (some ⟨p, 0, none⟩)] 29)).alloc (.cells #[.func (.func fS) #[] caps] 225)).alloc (.cells #[.int .i64 0] 26)).alloc (.map #[] 0)) (.cells #[.map (some (w.heap.size + 1 + 1 + 1))] 245)
  have ok := hs.keep h kw (fun _ h => h.elim)
  have hlt : ∀ k, fp k → k < w.heap.size := fun k hk => hs.lt h hk
  have hw0 := hb.size
  simp only [World.size_alloc] at a5 a6 a7
  have T5 : ThT S w0 p (w.heap.size + 1 + 1 + 1 + 1) w.heap.size (w.heap.size + 1) (w.heap.size + 1 + 1 + 1) (w.heap.size + 1 + 1) n w.heap.size (.func (.func fS) #[] caps) (fun k => k = w.heap.size + 1 + 1 + 1 ∨ fp k) []
      (((((w.alloc (.cells #[.pointer (some ⟨p, 0, none⟩)] 29)).alloc (.cells #[.func (.func fS) #[] caps] 225)).alloc (.cells #[.int .i64 0] 26)).alloc (.map #[] 0)).alloc (.cells #[.map (some (w.heap.size + 1 + 1 + 1))] 245)) := by
    refine ⟨fp, ⟨a7, ?_, ?_, ?_, ok, ?_, by simp, (fun k hk => by cases hk), by omega, fun k hk => ?_, by omega⟩, ?_, fun k => Iff.rfl, fun hk => ?_⟩
    · rw [Below.heap_alloc _ _ _ (by simp <;> omega), Below.heap_alloc _ _ _ (by simp <;> omega), Below.heap_alloc _ _ _ (by simp <;> omega), Below.heap_alloc _ _ _ (by simp)]
      exact a3
    · rw [Below.heap_alloc _ _ _ (by simp <;> omega), Below.heap_alloc _ _ _ (by simp <;> omega), Below.heap_alloc _ _ _ (by simp <;> omega)]
      exact a5
    · have am' : SetF ((((w.alloc (.cells #[.pointer (some ⟨p, 0, none⟩)] 29)).alloc (.cells #[.func (.func fS) #[] caps] 225)).alloc (.cells #[.int .i64 0] 26)).alloc (.map #[] 0)) (w.heap.size + 1 + 1 + 1) 0 [] := by
        simp only [World.size_alloc] at am
        exact am
      exact am'.keep (Below.heap_alloc _ _ _ (by simp))
    · exact hb.trans (kw.toBelow _ hw0 (fun _ h => h.elim))
    · have h1 := hlt k hk
      have h2 := hfp k hk
      exact ⟨h2, by omega, by omega, by omega, by omega⟩
    · rw [Below.heap_alloc _ _ _ (by simp <;> omega), Below.heap_alloc _ _ _ (by simp <;> omega)]
      exact a6
    · have := hlt _ hk
      omega
  have hto : TOk (ThT S w0 p (w.heap.size + 1 + 1 + 1 + 1) w.heap.size (w.heap.size + 1) (w.heap.size + 1 + 1 + 1) (w.heap.size + 1 + 1) n w.heap.size (.func (.func fS) #[] caps)) (w.heap.size + 5) p lb mb0 n iv D (w.heap.size + 1 + 1 + 1 + 1) w.heap.size (w.heap.size + 1) :=
    thT_ok h0 hs (by omega) (by omega) (by omega) (by omega) (by omega) (by omega) (by omega)
  rw [← hs5] at hto
  have HS5 := Lib.hid hs5
  clear a3 a5 a6 am a7 ok hdn hs5 hmf hmm h
  generalize (((((w.alloc (.cells #[.pointer (some ⟨p, 0, none⟩)] 29)).alloc (.cells #[.func (.func fS) #[] caps] 225)).alloc (.cells #[.int .i64 0] 26)).alloc (.map #[] 0)).alloc (.cells #[.map (some (w.heap.size + 1 + 1 + 1))] 245)) = w5 at *
  refine (climb_any hto T5 hd top h1 h2).mono ?_
  have HL := Lib.hid hlt
  have E5 := Lib.hid (show w5.heap[w.heap.size + 1 + 1]? = some (.cells #[.int .i64 0] 26 (0, 0)) from by obtain ⟨_, _, e, _⟩ := T5; exact e)
  clear hlt T5 hto hfp
  have kfin : ∀ {w6 : World}, Keeps (fun k => k = w.heap.size + 1 + 1 + 1 ∨ fp k) w5 w6 → Keeps fp w w6 := by
    intro w6 k
    have k' : Keeps (fun k => k = w.heap.size + 1 + 1 + 1 ∨ fp k) w w6 := kw.ofFalse.trans k
    refine k'.mono (fun b hb h => ?_)
    rcases h with h | h
    · omega
    · exact h
  rintro e w6 (⟨ps, fp6, hX, rfl, ⟨own, hg, ee, hf, hn⟩, k6, s6⟩ | ⟨hX, rfl, k6⟩)
  · have r2 := cell_of_row w6 (w.heap.size + 1 + 1) 0 _ _ _ ee
    have z2 := frozen_of_row w6 (w.heap.size + 1 + 1) 0 _ _ ee
    have hfin := kfin k6
    have KF := Lib.hid hX
    clear k6 hX kfin
    go_wp2_with fail
    refine leaves_cons (f := 199) (args := #[.pointer (some ⟨w.heap.size + 1 + 1, 0, none⟩)]) (by simp) (by simp [go_sem]) ?_
    refine (wcatch_idle ⟨w.heap.size + 1 + 1, 0, none⟩ _).mono ?_
    rintro e u' w'' ⟨rfl, rfl, rfl⟩
    simp only [Leaves, settle]
    have e7 := set1 ee (.int .i64 0)
    have c7 := cell_of_row _ (w.heap.size + 1 + 1) 0 _ _ _ e7
    have k7 : Keeps (· = w.heap.size + 1 + 1) w6 (w6.setCell ⟨w.heap.size + 1 + 1, 0, none⟩ (.int .i64 0)) := Keeps.setCell _ _ _ _ rfl
    have o7 := hs.keep hg.o k7 (fun k e => ⟨by omega, fun ho => hn (by rw [← e]; exact ho)⟩)
    refine ⟨.int .i64 0, by simp [results, Tryz.results169, go_sem, c7], .inl ⟨ps, own, KF.out, rfl, o7, hfin.set_new _ _ (by show w.heap.size ≤ w.heap.size + 1 + 1; omega), fun k hk => ?_⟩⟩
    · rcases s6 k ((hf k).2 (.inr hk)) with (h | h) | h
      · exact .inr (by omega)
      · exact .inl h
      · have := HS5.out
        exact .inr (by omega)
  · have r2 : w6.heap[w.heap.size + 1 + 1]? = some (.cells #[.int .i64 0] 26 (0, 0)) := (k6.block _ (by have := HS5.out; omega) (fun h => by
      rcases h with h | h
      · omega
      · have := HL.out _ h
        omega)).trans E5.out
    have KF := Lib.hid hX
    have hfin := kfin k6
    clear hX kfin k6
    refine leaves_cons (f := 199) (args := #[.pointer (some ⟨w.heap.size + 1 + 1, 0, none⟩)]) (by simp) (by simp [go_sem]) ?_
    refine (wcatch_panicking (w.heap.size + 1 + 1) _ _ _ _ _ (by rw [cell_of_row _ _ _ _ _ _ r2]; rfl) (frozen_of_row _ _ _ _ _ r2)).mono ?_
    rintro e u' w'' ⟨rfl, rfl, rfl⟩
    show Leaves _ _ _ _ [] .returning _
    have e7 := set1 r2 (.int .i64 60)
    have c7 := cell_of_row _ (w.heap.size + 1 + 1) 0 _ _ _ e7
    exact ⟨.int .i64 60, by simp [results, Tryz.results169, go_sem, c7], .inr ⟨KF.out, rfl, hfin.set_new _ _ (by show w.heap.size ≤ w.heap.size + 1 + 1; omega)⟩⟩
end Go.Proofs.YtebecpjecchfoaaGreatDoor
namespace Go.Proofs.YtebecpjecchfoaaGreatDoor
open Go.RowKit

/-- The list of Reach: its variable x, its row from B on. -/
def RchS (x B : Nat) (fp : Nat → Prop) (l : PL) (w : World) : Prop :=
  ∃ R c, w.heap[x]? = some (.cells #[.slice R (l.map Prod.fst).length c] 44 (0, 0)) ∧ OwnI w B R c (l.map Prod.fst) ∧ (∀ k, fp k ↔ k = x ∨ RowB R k) ∧ ¬ RowB R x ∧ B ≤ w.heap.size

set_option maxRecDepth 100000 in
set_option maxHeartbeats 600000 in
theorem rch_take {x B : Nat} {fp : Nat → Prop} {l : PL} {w : World} (h : RchS x B fp l w) (hl : l.length ≤ 2000) (m : Nat) (pg : Int) :
    Calls Tryz.prog 198 #[.int .i64 (m : Int), .int .i64 pg, .pointer (some ⟨x, 0, none⟩)] w (TOut (RchS x B) fp l m pg w) := by
  obtain ⟨R, c, hx, ho, hf, hxR, hB⟩ := h
  have own1 : OwnI (w.alloc (.cells #[.int .i64 (m : Int)] 3)) B R c (l.map Prod.fst) := World.ownsRow.alloc ho _
  obtain ⟨R', cap2, w2, hap, own2, b2, hnw⟩ := own1.app2 (by simp; omega) (by simp; omega) m w.heap.size (by rw [cell_of_row _ _ _ _ _ _ (heap_alloc_new w _)]; rfl)
  have hAP := Lib.hid hap
  have e1 : (w.alloc (.cells #[.int .i64 (m : Int)] 3)).heap[x]? = some (.cells #[.slice R (l.map Prod.fst).length c] 44 (0, 0)) := (Below.heap_alloc _ _ _ ((Array.getElem?_eq_some_iff.1 hx).1)).trans hx
  have hxw : x < w.heap.size := (Array.getElem?_eq_some_iff.1 hx).1
  have e2 : w2.heap[x]? = some (.cells #[.slice R (l.map Prod.fst).length c] 44 (0, 0)) := (b2.block x (by simp; omega) hxR).trans e1
  obtain ⟨cx, zx⟩ := cell1 hx
  obtain ⟨c1, z1⟩ := cell1 e1
  obtain ⟨c2, z2⟩ := cell1 e2
  have e3 := set1 e2 (.slice R' ((l.map Prod.fst).length + 1) cap2)
  have kk : Keeps (fun k => k = x ∨ RowB R k) w (w2.setCell ⟨x, 0, none⟩ (.slice R' ((l.map Prod.fst).length + 1) cap2)) :=
    (((Keeps.alloc (fun _ => False) w _).ofFalse).trans (b2.mono (fun _ _ h => .inr h))).trans (Keeps.setCell _ _ _ _ (.inl rfl))
  have hnw' : ∀ k, RowB R' k → RowB R k ∨ w.heap.size ≤ k := fun k hk => (hnw k hk).imp id (fun h => by rw [World.size_alloc] at h; omega)
  have hxR' : ¬ RowB R' x := fun h => by
    rcases hnw' x h with h | h
    · exact hxR h
    · omega
  have own3 : OwnI (w2.setCell ⟨x, 0, none⟩ (.slice R' ((l.map Prod.fst).length + 1) cap2)) B R' cap2 (l.map Prod.fst ++ [m]) := own2.keeps (Keeps.setCell (fun k => k = x) _ _ _ rfl) (fun ad e h => hxR' ⟨ad, e, h.symm⟩)
  have hsz : w.heap.size ≤ w2.heap.size := by have := b2.size; simp at this; omega
  have E3 := Lib.hid e3
  have HN := Lib.hid hnw'
  have HF := Lib.hid hf
  clear hap own1 own2 e1 e2 e3 b2 ho hx hnw hnw' hxR hxw hf
  generalize hn : (l.map Prod.fst).length = N at *
  have HNN := Lib.hid hn
  clear hn
  go_enter Tryz.func198, Tryz.ntmps198
  go_wp2_with (at_builtin; refine wpList_append_run rfl _ _ 44 rfl _ hAP.out ?_)
  go_end0
  refine ⟨rfl, fun k => k = x ∨ RowB R' k, ⟨R', cap2, ?_, by rw [List.map_append]; exact own3, fun k => Iff.rfl, hxR', by simpa [World.setCell] using (by omega : B ≤ w2.heap.size)⟩, kk.mono (fun b _ h => (HF.out b).2 h), fun k hk => ?_⟩
  · rw [List.map_append, List.length_append, HNN.out]
    exact E3.out
  · rcases hk with rfl | hk
    · exact .inl ((HF.out _).2 (.inl rfl))
    · exact (HN.out k hk).imp (fun h => (HF.out k).2 (.inr h)) id
theorem rch_ok (x B n C : Nat) (hx : x < C) : SOk (RchS x B) C n 198 #[.pointer (some ⟨x, 0, none⟩)] where
  keep := by
    rintro fp l W W' G ⟨R, c, e, ho, hf, hxR, hB⟩ k hG
    exact ⟨R, c, (k.block _ (Array.getElem?_eq_some_iff.1 e).1 (fun h => by have := hG _ h; omega)).trans e, ho.keeps k (fun ad e h => (hG _ h).2 ((hf _).2 (.inr ⟨ad, e, rfl⟩))), hf, hxR, Nat.le_trans hB k.size⟩
  lt := by
    rintro fp l W k ⟨R, c, e, ho, hf, _, _⟩ hk
    rcases (hf k).1 hk with rfl | ⟨ad, ea, rfl⟩
    · exact (Array.getElem?_eq_some_iff.1 e).1
    · exact (ho.block ad ea).2
  enters := fun args w => enters_of Tryz.func198 (by kernel_rfl) rfl args w
  take := fun h _ hl _ => rch_take h hl _ _

/-- What Reach gives. -/
def ReachOut (D : DSt) (n : Nat) (top : Int) (w : World) (e : Ending) (w' : World) : Prop :=
  Below w.heap.size w w' ∧ ((∃ ps R c, walkT D n top = some ps ∧ e = .returned (.tuple #[.slice R (ps.map Prod.fst).length c, .int .i64 0]) ∧ OwnI w' w.heap.size R c (ps.map Prod.fst)) ∨
    (walkT D n top = none ∧ e = .returned (.tuple #[.slice none 0 0, .int .i64 60])))

set_option maxRecDepth 100000 in
set_option maxHeartbeats 800000 in
theorem reach_any {w : World} {p lb mb n : Nat} {iv : Value} {D : DSt} (h : DkAt w p lb mb n iv D) (hd : D.down = false) (top : Int) (h1 : -9223372036854775808 ≤ top) (h2 : top ≤ 9223372036854775807) :
    Calls Tryz.prog 168 #[.pointer (some ⟨p, 0, none⟩), .int .i64 top] w (ReachOut D n top w) := by
  have hmf : ∀ (fn : Fn) (first cap : Array Value) (w : World), (Instr.makeFunc fn first cap).run Tryz.prog w = .ok (.func fn first cap) w := fun _ _ _ _ => rfl
  have hbs : ∀ w : World, (Instr.buildSlice 44 0 #[]).run Tryz.prog w = .ok (.slice (some ⟨w.heap.size, 0, none⟩) 0 0) (w.alloc (.cells #[] 3)) := fun w => by kernel_rfl
  have b2 : Below w.heap.size w ((w.alloc (.cells #[] 3)).alloc (.cells #[.slice (some ⟨w.heap.size, 0, none⟩) 0 0] 44)) := ((Below.refl _ _).alloc (Nat.le_refl _) _).alloc (by simp) _
  have s2 : ((w.alloc (.cells #[] 3)).alloc (.cells #[.slice (some ⟨w.heap.size, 0, none⟩) 0 0] 44)).heap.size = w.heap.size + 2 := by simp
  have e2 : ((w.alloc (.cells #[] 3)).alloc (.cells #[.slice (some ⟨w.heap.size, 0, none⟩) 0 0] 44)).heap[w.heap.size + 1]? = some (.cells #[.slice (some ⟨w.heap.size, 0, none⟩) 0 0] 44 (0, 0)) := by
    have := heap_alloc_new (w.alloc (.cells #[] 3)) (.cells #[.slice (some ⟨w.heap.size, 0, none⟩) 0 0] 44)
    simpa using this
  have o2 : OwnI ((w.alloc (.cells #[] 3)).alloc (.cells #[.slice (some ⟨w.heap.size, 0, none⟩) 0 0] 44)) w.heap.size (some ⟨w.heap.size, 0, none⟩) 0 [] := World.ownsRow.alloc (OwnI.empty (Nat.le_refl _)) _
  have S2 : RchS (w.heap.size + 1) w.heap.size (fun k => k = w.heap.size + 1 ∨ RowB (some ⟨w.heap.size, 0, none⟩) k) [] ((w.alloc (.cells #[] 3)).alloc (.cells #[.slice (some ⟨w.heap.size, 0, none⟩) 0 0] 44)) :=
    ⟨_, _, e2, o2, fun _ => Iff.rfl, fun h => by obtain ⟨ad, e, h⟩ := h; cases e; simp at h, by omega⟩
  have ht := through_any h hd (rch_ok (w.heap.size + 1) w.heap.size n _ (by rw [s2]; omega)) S2 b2 (fun k hk => by
    rcases hk with rfl | ⟨ad, e, rfl⟩
    · omega
    · cases e; exact Nat.le_refl _) top h1 h2
  have HS := Lib.hid s2
  clear h e2 o2 S2 s2
  go_enter Tryz.func168, Tryz.ntmps168
  go_wp2_with fail
  generalize ((w.alloc (.cells #[] 3)).alloc (.cells #[.slice (some ⟨w.heap.size, 0, none⟩) 0 0] 44)) = w2 at *
  refine ht.mono ?_
  have b3 : ∀ {w3 : World}, Keeps (fun k => k = w.heap.size + 1 ∨ RowB (some ⟨w.heap.size, 0, none⟩) k) w2 w3 → Below w.heap.size w w3 := fun k => b2.trans (k.toBelow _ b2.size (fun b hb => by
    rcases hb with rfl | ⟨ad, e, rfl⟩
    · omega
    · cases e; exact Nat.le_refl _))
  rintro e w3 (⟨ps, fp', hX, rfl, ⟨R, c, e3, o3, _⟩, k3, _⟩ | ⟨hX, rfl, k3⟩)
  · have bw := b3 k3
    have HX := Lib.hid hX
    obtain ⟨r3, z3⟩ := cell1 e3
    clear hX k3 b3 ht hbs hmf b2
    go_wp2_with fail
    go_ret2
    exact ⟨bw, .inl ⟨ps, R, c, HX.out, by rw [List.length_map]; rfl, o3⟩⟩
  · have bw := b3 k3
    have HX := Lib.hid hX
    clear hX k3 b3 ht hbs hmf b2
    go_wp2_with fail
    go_ret2
    exact ⟨bw, .inr ⟨HX.out, rfl⟩⟩
end Go.Proofs.YtebecpjecchfoaaGreatDoor
