/-
  Merged by wip/tools/merge.py: ShCost ShCount ShBuild
-/
import Derived.Test.YtebecpjecchfoaaGreatDoorGShR
import Derived.Test.YtebecpjecchfoaaGreatDoorShLays
namespace Go.Proofs.YtebecpjecchfoaaGreatDoor
open Go.RowKit Go.Maps

def nxtC (s : Nat) (_ : List UInt8) : Nat × Nat := (2, s + 1)
/-- Sectors, error. -/
def costV (D : DSt) (t : Nat) (E : Int) (l : List ChV) : Int × Int :=
  if (rebV nxtC D t E l 0).2.1 = 0 then (((rebV nxtC D t E l 0).2.2 : Nat), 0) else (0, (rebV nxtC D t E l 0).2.1)
theorem cntB_le {V : Type} [DecidableEq V] (bare : V) (f : Nat → Option V) (l : List Nat) : cntB bare f l ≤ l.length := by
  unfold cntB
  exact List.length_filter_le _ _
theorem cAll_le {σ : Type} (nxt : σ → List UInt8 → Nat × σ) (root0 : List Int) (g0 : Nat → Option (List Int)) (P : Nat → Option (List UInt8)) (s : σ) : cAll nxt root0 g0 P s ≤ 257 := by
  unfold cAll c1 c2 c3
  have h1 := cntB_le zs64 P (keysF P)
  have h2 := cntB_le z32 (t1L nxt g0 P s) (keysF (t1L nxt g0 P s))
  have h3 := cntB_le z32 (oneF (t2R nxt root0 g0 P s)) [0]
  have h4 := keysF_len P
  have h5 := keysF_len (t1L nxt g0 P s)
  simp at h3
  omega
/-- Reach tells the error E. -/
def ReachE (p lb mb n : Nat) (iv : Value) (D : DSt) (top E : Int) : Prop :=
  ∀ {w' : World}, DkAt w' p lb mb n iv D → Calls Tryz.prog 168 #[.pointer (some ⟨p, 0, none⟩), .int .i64 top] w' fun e w'' => (∃ v, e = .returned (.tuple #[v, .int .i64 E])) ∧ Below w'.heap.size w' w''

set_option maxRecDepth 100000 in
set_option maxHeartbeats 1000000 in
theorem cost_at {w : World} {p lb mb n : Nat} {iv : Value} {D : DSt} (h : DkAt w p lb mb n iv D) (hd : D.down = false) (top : Int) (t : Nat) {E : Int}
    (hreach : ReachE p lb mb n iv D top E) (htop : E = 0 → top = t ∧ (t = 0 ∨ t < n) ∧ EntOk n (nodeD D t)) (A : Option Addr) (l : List ChV) (c : Nat) (hl : CR w w.heap.size A l) (hll : l.length ≤ 4398046511104) :
    Calls Tryz.prog 178 #[.pointer (some ⟨p, 0, none⟩), .int .i64 top, .slice A l.length c] w fun e w' => e = .returned (.tuple #[.int .i64 (costV D t E l).1, .int .i64 (costV D t E l).2]) ∧ Below w.heap.size w w' := by
  have hmf : ∀ (fn : Fn) (first cap : Array Value) (w : World), (Instr.makeFunc fn first cap).run Tryz.prog w = .ok (.func fn first cap) w := fun _ _ _ _ => rfl
  have e2 := heap_alloc_new w (.cells #[.int .i64 0] 3)
  have k2 : Keeps (fun _ => False) w (w.alloc (.cells #[.int .i64 0] 3)) := Keeps.alloc _ _ _
  have s2 : (w.alloc (.cells #[.int .i64 0] 3)).heap.size = w.heap.size + 1 := by simp
  have hcr : CR (w.alloc (.cells #[.int .i64 0] 3)) w.heap.size A l := hl.keep fun q hq => World.cell?_of_block (k2.block q.block hq (fun h => h))
  have h2 := h.same k2
  have hI : (layC w.heap.size).I (· = w.heap.size) 0 (w.alloc (.cells #[.int .i64 0] 3)) := ⟨fun _ => Iff.rfl, e2⟩
  have hrem : (layC w.heap.size).rem 0 (cAll (layC w.heap.size).nxt (nodeD D t) (leafG D (nodeD D t) (keysF (latestF l))) (latestF l) 0 + 0) := by
    have := cAll_le (layC w.heap.size).nxt (nodeD D t) (leafG D (nodeD D t) (keysF (latestF l))) (latestF l) 0
    show 0 + (_ + 0) ≤ 1000000
    omega
  have hreb := rebuildC_at _ (layC w.heap.size) h2 hd top t hreach htop A l c (hcr.more (by omega)) hll hI (fun _ _ _ => hrem)
  clear e2 hrem hI h2 hcr hreach htop h hl
  have hb : ∀ {w' : World} {F : Nat → Prop}, (∀ k, F k ↔ k = w.heap.size) → Keeps F (w.alloc (.cells #[.int .i64 0] 3)) w' → Below w.heap.size w w' := by
    intro w' F hF k
    refine (k2.toBelow w.heap.size (Nat.le_refl _) (fun _ h => h.elim)).trans ⟨k.os, k.tape, k.output, k.size, fun b hb => k.block b (by omega) (fun h => by have := (hF b).1 h; omega)⟩
  by_cases hz : (rebV nxtC D t E l 0).2.1 = 0
  · have hv : costV D t E l = ((((rebV nxtC D t E l 0).2.2 : Nat) : Int), 0) := if_pos hz
    rw [hv]
    go_enter Tryz.func178, Tryz.ntmps178
    go_wp2_with fail
    refine hreb.mono ?_
    clear hreb
    rintro e w3 ⟨rfl, ⟨F', hI3, hF3⟩, k3⟩
    have hI3' : CntI w.heap.size F' (rebV nxtC D t E l 0).2.2 w3 := hI3
    have c3 := (cell1 hI3'.2).1
    have e1 : (rebV (layC w.heap.size).nxt D t E l 0).2.1 = 0 := hz
    rw [e1]
    clear hI3 e1 hz hv
    generalize hee : (rebV nxtC D t E l 0).2.2 = cnt at *
    have HE := Lib.hid hee
    clear hee
    generalize (rebV (layC w.heap.size).nxt D t E l 0).1 = tt at *
    go_wp2_with fail
    go_ret2
    exact ⟨by rw [HE.out]; rfl, hb (fun _ => Iff.rfl) k3⟩
  · have hv : costV D t E l = (0, (rebV nxtC D t E l 0).2.1) := if_neg hz
    rw [hv]
    go_enter Tryz.func178, Tryz.ntmps178
    go_wp2_with fail
    refine hreb.mono ?_
    clear hreb
    rintro e w3 ⟨rfl, ⟨F', hI3, hF3⟩, k3⟩
    have e1 : (rebV (layC w.heap.size).nxt D t E l 0).2.1 = (rebV nxtC D t E l 0).2.1 := rfl
    rw [e1]
    have hz1 : ((rebV nxtC D t E l 0).2.1 != 0) = true := by simpa using hz
    clear hI3 e1 hz hv
    generalize hee : (rebV nxtC D t E l 0).2.1 = ee at *
    have HE := Lib.hid hee
    clear hee
    generalize (rebV (layC w.heap.size).nxt D t E l 0).1 = tt at *
    go_wp2_with fail
    go_ret2
    exact ⟨by rw [HE.out]; rfl, hb (fun _ => Iff.rfl) k3⟩
end Go.Proofs.YtebecpjecchfoaaGreatDoor
namespace Go.Proofs.YtebecpjecchfoaaGreatDoor
open Go.RowKit Go.Maps

section
variable {σ V : Type} [DecidableEq V]
theorem layL_rem (nxt : σ → List UInt8 → Nat × σ) (bare : V) (by_ : V → List UInt8) (f : Nat → Option V) (rem : σ → Nat → Prop) (hb : ∀ k x, f k = some x → x ≠ bare → (by_ x).length = 64)
    (hd : ∀ {s r} xs, xs.length = 64 → rem s (r + 1) → rem (nxt s xs).2 r) :
    ∀ (l : List Nat) (st : σ × (Nat → Option Int)) (r : Nat), rem st.1 (cntB bare f l + r) → rem (l.foldl (layStep nxt bare by_ f) st).1 r
  | [], st, r, hr => by
    have : cntB bare f [] = 0 := rfl
    rw [this, Nat.zero_add] at hr
    exact hr
  | k :: l, st, r, hr => by
    rw [List.foldl_cons]
    have hc : cntB bare f (k :: l) = (if (f k).getD bare = bare then 0 else 1) + cntB bare f l := cntB_drop bare f (k :: l) 0 (by simp)
    by_cases hx : (f k).getD bare = bare
    · have e : layStep nxt bare by_ f st k = (st.1, updF st.2 k 0) := if_pos hx
      rw [e]
      rw [if_pos hx, Nat.zero_add] at hc
      rw [hc] at hr
      exact layL_rem nxt bare by_ f rem hb hd l _ r hr
    · have e : layStep nxt bare by_ f st k = ((nxt st.1 (by_ ((f k).getD bare))).2, updF st.2 k ((nxt st.1 (by_ ((f k).getD bare))).1 : Int)) := if_neg hx
      rw [e]
      rw [if_neg hx] at hc
      rw [hc, show 1 + cntB bare f l + r = (cntB bare f l + r) + 1 from by omega] at hr
      have hlen : (by_ ((f k).getD bare)).length = 64 := by
        cases hf : f k with
        | none => rw [hf] at hx; exact absurd rfl hx
        | some x => rw [hf] at hx; exact hb k x hf hx
      exact layL_rem nxt bare by_ f rem hb hd l _ r (hd _ hlen hr)
/-- 0 stands for just what is bare. -/
theorem layL_zero (nxt : σ → List UInt8 → Nat × σ) (bare : V) (by_ : V → List UInt8) (f : Nat → Option V) (rem : σ → Nat → Prop) (hb : ∀ k x, f k = some x → x ≠ bare → (by_ x).length = 64)
    (hd : ∀ {s r} xs, xs.length = 64 → rem s (r + 1) → rem (nxt s xs).2 r) (hv : ∀ {s r} xs, rem s (r + 1) → 2 ≤ (nxt s xs).1) :
    ∀ (l : List Nat) (st : σ × (Nat → Option Int)) (r : Nat), rem st.1 (cntB bare f l + r) → (∀ i v, st.2 i = some v → (v = 0 ↔ (f i).getD bare = bare)) → ∀ i v, (l.foldl (layStep nxt bare by_ f) st).2 i = some v → (v = 0 ↔ (f i).getD bare = bare)
  | [], st, r, _, hs, i, v, h => hs i v h
  | k :: l, st, r, hr, hs, i, v, h => by
    rw [List.foldl_cons] at h
    have hc : cntB bare f (k :: l) = (if (f k).getD bare = bare then 0 else 1) + cntB bare f l := cntB_drop bare f (k :: l) 0 (by simp)
    by_cases hx : (f k).getD bare = bare
    · have e : layStep nxt bare by_ f st k = (st.1, updF st.2 k 0) := if_pos hx
      rw [e] at h
      rw [if_pos hx, Nat.zero_add] at hc
      rw [hc] at hr
      refine layL_zero nxt bare by_ f rem hb hd hv l (st.1, updF st.2 k 0) r hr (fun i v hi => ?_) i v h
      simp only [updF] at hi
      split at hi
      · rename_i e; subst e; cases hi; exact ⟨fun _ => hx, fun _ => rfl⟩
      · exact hs i v hi
    · have e : layStep nxt bare by_ f st k = ((nxt st.1 (by_ ((f k).getD bare))).2, updF st.2 k ((nxt st.1 (by_ ((f k).getD bare))).1 : Int)) := if_neg hx
      rw [e] at h
      rw [if_neg hx] at hc
      rw [hc, show 1 + cntB bare f l + r = (cntB bare f l + r) + 1 from by omega] at hr
      have hlen : (by_ ((f k).getD bare)).length = 64 := by
        cases hf : f k with
        | none => rw [hf] at hx; exact absurd rfl hx
        | some x => rw [hf] at hx; exact hb k x hf hx
      refine layL_zero nxt bare by_ f rem hb hd hv l _ r (hd _ hlen hr) (fun i v hi => ?_) i v h
      simp only [updF] at hi
      split at hi
      · rename_i e
        subst e
        cases hi
        have := hv (by_ ((f i).getD bare)) hr
        exact ⟨fun h0 => by omega, fun h0 => absurd h0 hx⟩
      · exact hs i v hi
end

structure Nx {σ : Type} (nxt : σ → List UInt8 → Nat × σ) (rem : σ → Nat → Prop) : Prop where
  down : ∀ (s : σ) (r : Nat) (xs : List UInt8), xs.length = 64 → rem s (r + 1) → rem (nxt s xs).2 r
  val : ∀ (s : σ) (r : Nat) (xs : List UInt8), rem s (r + 1) → 2 ≤ (nxt s xs).1
theorem Lay.nx {σ : Type} {go : Option Addr → Nat → World → (Ending → World → Prop) → Prop} (L : Lay σ go) : Nx L.nxt L.rem := ⟨fun _ _ xs h h' => L.down xs h h', fun _ _ xs h => (L.val xs h).1⟩
theorem nxtC_nx : Nx nxtC (fun s r => s + r ≤ 1000000) := ⟨fun s r _ _ h => by show s + 1 + r ≤ 1000000; omega, fun _ _ _ _ => Nat.le_refl _⟩
/-- The entries with something. -/
def leafNZ (P : Nat → Option (List UInt8)) (i : Nat) (zs : List Int) : Prop := ∃ j, j < 32 ∧ (if 32 * i + j ∈ keysF P then (P (32 * i + j)).getD zs64 ≠ zs64 else zs.getD j 0 ≠ 0)
theorem row_z32 {g : Nat → Int} : ((List.range 32).map g = z32) ↔ ∀ j, j < 32 → g j = 0 := by
  constructor
  · intro h j hj
    have h1 : ((List.range 32).map g)[j]? = z32[j]? := by rw [h]
    rw [List.getElem?_map, List.getElem?_range hj] at h1
    have h2 : z32[j]? = some 0 := by rw [z32, List.getElem?_replicate]; simp [hj]
    rw [h2] at h1
    simpa using h1
  · intro h
    refine List.ext_getElem (by simp [z32]) fun j h1 h2 => ?_
    have hj : j < 32 := by simpa using h1
    rw [List.getElem_map, List.getElem_range, h j hj]
    simp only [z32, List.getElem_replicate]
section
variable {σ : Type} {nxt : σ → List UInt8 → Nat × σ} {rem : σ → Nat → Prop} (hN : Nx nxt rem)
variable {P : Nat → Option (List UInt8)} (hP : ∀ k x, P k = some x → x.length = 64) {s : σ}
include hN hP
theorem t1_zero {r : Nat} (hr : rem s (c1 P + r)) {k : Nat} (hk : k ∈ keysF P) : ((t1 nxt P s).2 k).getD 0 = 0 ↔ (P k).getD zs64 = zs64 := by
  have hs := layL_keys nxt zs64 (fun xs => xs) P s (keysF P) k
  rw [decide_eq_true hk] at hs
  obtain ⟨v, hv'⟩ := Option.isSome_iff_exists.1 hs
  have := layL_zero nxt zs64 (fun xs => xs) P rem (fun k x h _ => hP k x h) (fun xs => hN.down _ _ xs) (fun xs => hN.val _ _ xs) (keysF P) (s, fun _ => none) r hr (fun i v h => by cases h) k v hv'
  unfold t1
  rw [hv', Option.getD_some]
  exact this
theorem leafRow_zero {r : Nat} (hr : rem s (c1 P + r)) (i : Nat) (zs : List Int) : leafRow (t1 nxt P s).2 (keysF P) i zs ≠ z32 ↔ leafNZ P i zs := by
  unfold leafRow leafNZ
  rw [Ne, row_z32]
  constructor
  · intro h
    refine Classical.byContradiction fun hn => h fun j hj => ?_
    refine Classical.byContradiction fun h0 => hn ⟨j, hj, ?_⟩
    by_cases hm : 32 * i + j ∈ keysF P
    · rw [if_pos hm] at h0 ⊢
      exact fun e => h0 ((t1_zero hN hP hr hm).2 e)
    · rw [if_neg hm] at h0 ⊢
      exact h0
  · rintro ⟨j, hj, h0⟩ hall
    have hz := hall j hj
    by_cases hm : 32 * i + j ∈ keysF P
    · rw [if_pos hm] at h0 hz
      exact h0 ((t1_zero hN hP hr hm).1 hz)
    · rw [if_neg hm] at h0 hz
      exact h0 hz
theorem t1L_zero {r : Nat} (hr : rem s (c1 P + r)) (g0 : Nat → Option (List Int)) (i : Nat) : (t1L nxt g0 P s i).getD z32 ≠ z32 ↔ ∃ zs, g0 i = some zs ∧ leafNZ P i zs := by
  unfold t1L leafH
  cases hg : g0 i with
  | none => simp
  | some zs =>
    simp only [Option.map_some, Option.getD_some, Option.some.injEq, exists_eq_left']
    exact leafRow_zero hN hP hr i zs
omit hN hP in
theorem t1L_keys (g0 : Nat → Option (List Int)) : keysF (t1L nxt g0 P s) = keysF g0 := by
  unfold keysF
  refine List.filter_congr fun i _ => ?_
  unfold t1L leafH
  cases g0 i <;> rfl
open Classical in
/-- How many leaves. -/
noncomputable def n2 (g0 : Nat → Option (List Int)) (P : Nat → Option (List UInt8)) : Nat := ((keysF g0).filter fun i => decide (∃ zs, g0 i = some zs ∧ leafNZ P i zs)).length
theorem c2_eq {r : Nat} (hr : rem s (c1 P + r)) (g0 : Nat → Option (List Int)) : c2 nxt g0 P s = n2 g0 P := by
  unfold c2 n2 cntB
  rw [t1L_keys g0]
  congr 1
  refine List.filter_congr fun i _ => ?_
  rw [decide_eq_decide]
  exact t1L_zero hN hP hr g0 i
theorem t1_rem {r : Nat} (hr : rem s (c1 P + r)) : rem (t1 nxt P s).1 r := layL_rem nxt zs64 (fun xs => xs) P rem (fun k x h _ => hP k x h) (fun xs => hN.down _ _ xs) (keysF P) (s, fun _ => none) r hr
theorem t2_zero {r : Nat} (g0 : Nat → Option (List Int)) (hr : rem s (c1 P + (n2 g0 P + r))) {k : Nat} (hk : k ∈ keysF g0) : ((t2 nxt g0 P s).2 k).getD 0 ≠ 0 ↔ ∃ zs, g0 k = some zs ∧ leafNZ P k zs := by
  have hr2 : rem (t1 nxt P s).1 (c2 nxt g0 P s + r) := by
    rw [c2_eq hN hP hr g0]
    exact t1_rem hN hP hr
  have hs := layL_keys nxt z32 (fun zs => encB zs 32) (t1L nxt g0 P s) (t1 nxt P s).1 (keysF (t1L nxt g0 P s)) k
  rw [decide_eq_true (by rw [t1L_keys]; exact hk)] at hs
  obtain ⟨v, hv'⟩ := Option.isSome_iff_exists.1 hs
  have := layL_zero nxt z32 (fun zs => encB zs 32) (t1L nxt g0 P s) rem (fun k x _ _ => encB_len x 32) (fun xs => hN.down _ _ xs) (fun xs => hN.val _ _ xs) (keysF (t1L nxt g0 P s)) ((t1 nxt P s).1, fun _ => none) r hr2 (fun i v h => by cases h) k v hv'
  unfold t2
  rw [hv', Option.getD_some, ← t1L_zero hN hP hr g0 k]
  exact not_congr this
/-- Has the new top an entry? -/
def rootNZ (root0 : List Int) (g0 : Nat → Option (List Int)) (P : Nat → Option (List UInt8)) : Prop := ∃ i, i < 32 ∧ (if i ∈ keysF g0 then ∃ zs, g0 i = some zs ∧ leafNZ P i zs else root0.getD i 0 ≠ 0)
theorem t2R_zero {r : Nat} (root0 : List Int) (g0 : Nat → Option (List Int)) (hr : rem s (c1 P + (n2 g0 P + r))) : t2R nxt root0 g0 P s ≠ z32 ↔ rootNZ root0 g0 P := by
  unfold t2R rootH rootNZ
  rw [t1L_keys, Ne, row_z32]
  constructor
  · intro h
    refine Classical.byContradiction fun hn => h fun i hi => ?_
    refine Classical.byContradiction fun h0 => hn ⟨i, hi, ?_⟩
    by_cases hm : i ∈ keysF g0
    · rw [if_pos hm] at h0 ⊢
      exact (t2_zero hN hP g0 hr hm).1 h0
    · rw [if_neg hm] at h0 ⊢
      exact h0
  · rintro ⟨i, hi, h0⟩ hall
    have hz := hall i hi
    by_cases hm : i ∈ keysF g0
    · rw [if_pos hm] at h0 hz
      exact (t2_zero hN hP g0 hr hm).2 h0 hz
    · rw [if_neg hm] at h0 hz
      exact h0 hz
open Classical in
/-- How many tops. -/
noncomputable def n3 (root0 : List Int) (g0 : Nat → Option (List Int)) (P : Nat → Option (List UInt8)) : Nat := if rootNZ root0 g0 P then 1 else 0
theorem c3_eq {r : Nat} (root0 : List Int) (g0 : Nat → Option (List Int)) (hr : rem s (c1 P + (n2 g0 P + r))) : c3 nxt root0 g0 P s = n3 root0 g0 P := by
  unfold c3 n3 cntB
  by_cases h : rootNZ root0 g0 P
  · rw [if_pos h]
    have h1 := (t2R_zero hN hP root0 g0 hr).2 h
    simp [oneF, h1]
  · rw [if_neg h]
    have h1 : t2R nxt root0 g0 P s = z32 := Classical.byContradiction fun e => h ((t2R_zero hN hP root0 g0 hr).1 e)
    simp [oneF, h1]
theorem cAll_eq {r : Nat} (root0 : List Int) (g0 : Nat → Option (List Int)) (hr : rem s (c1 P + (n2 g0 P + r))) : cAll nxt root0 g0 P s = c1 P + n2 g0 P + n3 root0 g0 P := by
  unfold cAll
  rw [c2_eq hN hP hr g0, c3_eq hN hP root0 g0 hr]
end
end Go.Proofs.YtebecpjecchfoaaGreatDoor
namespace Go.Proofs.YtebecpjecchfoaaGreatDoor
open Go.RowKit Go.Maps

theorem layL_count {V : Type} [DecidableEq V] (bare : V) (by_ : V → List UInt8) (f : Nat → Option V) : ∀ (l : List Nat) (st : Nat × (Nat → Option Int)), (l.foldl (layStep nxtC bare by_ f) st).1 = st.1 + cntB bare f l
  | [], st => by have : cntB bare f [] = 0 := rfl
                 rw [this]; rfl
  | k :: l, st => by
    rw [List.foldl_cons, layL_count bare by_ f l]
    have hc : cntB bare f (k :: l) = (if (f k).getD bare = bare then 0 else 1) + cntB bare f l := cntB_drop bare f (k :: l) 0 (by simp)
    rw [hc]
    by_cases hx : (f k).getD bare = bare
    · have e : layStep nxtC bare by_ f st k = (st.1, updF st.2 k 0) := if_pos hx
      rw [e, if_pos hx, Nat.zero_add]
    · have e : layStep nxtC bare by_ f st k = ((nxtC st.1 (by_ ((f k).getD bare))).2, updF st.2 k ((nxtC st.1 (by_ ((f k).getD bare))).1 : Int)) := if_neg hx
      rw [e, if_neg hx]
      show st.1 + 1 + _ = _
      omega
theorem t3_count (root0 : List Int) (g0 : Nat → Option (List Int)) (P : Nat → Option (List UInt8)) : (t3 nxtC root0 g0 P 0).1 = cAll nxtC root0 g0 P 0 := by
  have h1 : (t1 nxtC P 0).1 = 0 + c1 P := layL_count zs64 (fun xs => xs) P (keysF P) (0, fun _ => none)
  have h2 : (t2 nxtC g0 P 0).1 = (t1 nxtC P 0).1 + c2 nxtC g0 P 0 := layL_count z32 (fun zs => encB zs 32) (t1L nxtC g0 P 0) (keysF (t1L nxtC g0 P 0)) ((t1 nxtC P 0).1, fun _ => none)
  have h3 : (t3 nxtC root0 g0 P 0).1 = (t2 nxtC g0 P 0).1 + c3 nxtC root0 g0 P 0 := layL_count z32 (fun zs => encB zs 32) (oneF (t2R nxtC root0 g0 P 0)) [0] ((t2 nxtC g0 P 0).1, fun _ => none)
  unfold cAll
  omega
/-- How many sectors the changes of a good tree write. -/
noncomputable def needs (D : DSt) (t : Nat) (l : List ChV) : Nat := if keysF (latestF l) = [] then 0 else c1 (latestF l) + n2 (leafG D (nodeD D t) (keysF (latestF l))) (latestF l) + n3 (nodeD D t) (leafG D (nodeD D t) (keysF (latestF l))) (latestF l)
theorem n2_le (g0 : Nat → Option (List Int)) (P : Nat → Option (List UInt8)) : n2 g0 P ≤ 128 := Nat.le_trans (List.length_filter_le _ _) (keysF_len g0)
theorem n3_le (root0 : List Int) (g0 : Nat → Option (List Int)) (P : Nat → Option (List UInt8)) : n3 root0 g0 P ≤ 1 := by unfold n3; split <;> omega
theorem c1_le (P : Nat → Option (List UInt8)) : c1 P ≤ 128 := Nat.le_trans (cntB_le _ _ _) (keysF_len P)
theorem costV_bad (D : DSt) (t : Nat) (E : Int) {l : List ChV} (h : ¬ ∀ a ∈ l, a.good) : costV D t E l = (0, 1) := by unfold costV; rw [rebV_bad nxtC D t E 0 h]; rfl
theorem costV_err (D : DSt) (t : Nat) {E : Int} {l : List ChV} (h : ∀ a ∈ l, a.good) (hE : E ≠ 0) : costV D t E l = (0, E) := by unfold costV; rw [rebV_err nxtC D t 0 h hE]; exact if_neg hE
theorem costV_ok (D : DSt) (t : Nat) {l : List ChV} (h : ∀ a ∈ l, a.good) : costV D t 0 l = (((needs D t l : Nat) : Int), 0) := by
  unfold costV needs
  by_cases hk : keysF (latestF l) = []
  · rw [rebV_none nxtC D t 0 h hk, if_pos hk]; rfl
  · have hc := cAll_eq (P := latestF l) nxtC_nx (fun k x hx => latestF_len h hx) (s := 0) (r := 0) (nodeD D t) (leafG D (nodeD D t) (keysF (latestF l))) (by
      have := c1_le (latestF l)
      have := n2_le (leafG D (nodeD D t) (keysF (latestF l))) (latestF l)
      show 0 + (_ + (_ + 0)) ≤ 1000000
      omega)
    rw [rebV_some nxtC D t 0 h hk, if_neg hk]
    simp only [if_true]
    rw [t3_count, hc]

/-- A disk and a map on which one may build. -/
structure BOk (D : DSt) (cs : List Nat) (K : Nat) : Prop where
  up : D.down = false
  left : D.left < 0
  len : cs.length ≤ D.n
  que : D.Q.length ≤ 1000
  acts : D.acts ≤ 900000
  held : Sp.Upto K cs
  K : K ≤ 100000000
  small : cs.length ≤ 2000
theorem BOk.rem {D : DSt} {cs : List Nat} {K : Nat} (h : BOk D cs K) {r : Nat} (hr : r ≤ Sp.nfree cs) (hr2 : r ≤ 1000) : BRem ⟨D, cs, K⟩ r :=
  ⟨hr, h.up, h.left, h.len, by have := h.que; show D.Q.length + r ≤ _; omega, by have := h.acts; show D.acts + r ≤ _; omega, h.held, by have := h.K; show K + r ≤ _; omega, h.small⟩
/-- The state behind Build. -/
def Built (w : World) (Fd : Nat → Prop) (dp lo hi mp : Nat) (s : BSt) (w' : World) : Prop :=
  (∃ Fd', Dk w' Fd' dp s.D ∧ (∀ k, Fd' k → k < w'.heap.size) ∧ (∀ k, Fd' k → (Fd k ∧ k < w.heap.size) ∨ w.heap.size ≤ k)) ∧ Sp.MapS w' lo hi mp s.cs ∧ Sp.Tab w' ∧ Keeps (fun k => (Fd k ∧ k < w.heap.size) ∨ (lo ≤ k ∧ k < hi)) w w'
def BuildOut (D : DSt) (t : Nat) (E : Int) (l : List ChV) (cs : List Nat) (K : Nat) (w : World) (Fd : Nat → Prop) (dp lo hi mp : Nat) (e : Ending) (w' : World) : Prop :=
  if (costV D t E l).2 ≠ 0 then e = .returned (.tuple #[.int .i64 0, .int .i64 (costV D t E l).2]) ∧ Below w.heap.size w w'
  else if (Sp.nfree cs : Int) < (costV D t E l).1 then e = .returned (.tuple #[.int .i64 0, .int .i64 50]) ∧ Below w.heap.size w w'
  else e = .returned (.tuple #[.int .i64 (rebV bnxt D t E l ⟨D, cs, K⟩).1, .int .i64 0]) ∧ Built w Fd dp lo hi mp (rebV bnxt D t E l ⟨D, cs, K⟩).2.2 w'

set_option maxRecDepth 100000 in
set_option maxHeartbeats 2000000 in
theorem build_at {w : World} {Fd : Nat → Prop} {dp lo hi mp : Nat} {D : DSt} {cs : List Nat} {K : Nat} (hD : Dk w Fd dp D) (hM : Sp.MapS w lo hi mp cs) (hT : Sp.Tab w) (hok : BOk D cs K) (hhi : hi ≤ w.heap.size) (hlo : 0 < lo) (hFd : ∀ k, Fd k → k < w.heap.size → ¬ (lo ≤ k ∧ k < hi) ∧ k ≠ 0)
    (top : Int) (t : Nat) {E : Int} (hreach : ∀ lb mb n iv, ReachE dp lb mb n iv D top E) (htop : E = 0 → top = t ∧ (t = 0 ∨ t < D.n) ∧ EntOk D.n (nodeD D t)) (A : Option Addr) (l : List ChV) (c : Nat) (hl : CR w w.heap.size A l) (hll : l.length ≤ 4398046511104) :
    Calls Tryz.prog 142 #[.pointer (some ⟨dp, 0, none⟩), .pointer (some ⟨mp, 0, none⟩), .int .i64 top, .slice A l.length c] w (BuildOut D t E l cs K w Fd dp lo hi mp) := by
  have hmf : ∀ (fn : Fn) (first cap : Array Value) (w : World), (Instr.makeFunc fn first cap).run Tryz.prog w = .ok (.func fn first cap) w := fun _ _ _ _ => rfl
  have k2 : Keeps (fun _ => False) w ((w.alloc (.cells #[.pointer (some ⟨dp, 0, none⟩)] 29)).alloc (.cells #[.pointer (some ⟨mp, 0, none⟩)] 129)) := (Keeps.alloc _ _ _).trans (Keeps.alloc _ _ _)
  have s2 : ((w.alloc (.cells #[.pointer (some ⟨dp, 0, none⟩)] 29)).alloc (.cells #[.pointer (some ⟨mp, 0, none⟩)] 129)).heap.size = w.heap.size + 2 := by simp
  have ed : ((w.alloc (.cells #[.pointer (some ⟨dp, 0, none⟩)] 29)).alloc (.cells #[.pointer (some ⟨mp, 0, none⟩)] 129)).heap[w.heap.size]? = some (.cells #[.pointer (some ⟨dp, 0, none⟩)] 29 (0, 0)) := (Below.heap_alloc _ _ _ (by simp)).trans (heap_alloc_new w _)
  have em : ((w.alloc (.cells #[.pointer (some ⟨dp, 0, none⟩)] 29)).alloc (.cells #[.pointer (some ⟨mp, 0, none⟩)] 129)).heap[w.heap.size + 1]? = some (.cells #[.pointer (some ⟨mp, 0, none⟩)] 129 (0, 0)) := blk_at_last _ _ _ (by simp)
  have hcr : CR ((w.alloc (.cells #[.pointer (some ⟨dp, 0, none⟩)] 29)).alloc (.cells #[.pointer (some ⟨mp, 0, none⟩)] 129)) w.heap.size A l := hl.keep fun q hq => World.cell?_of_block (k2.block q.block hq (fun h => h))
  have cd := (cell1 ed).1
  have hD0 := hD
  obtain ⟨lb, mb, n, iv, hda, _⟩ := hD
  have hnn := hda.ok.n_eq
  have hda2 := hda.same k2
  have hcost := cost_at hda2 hok.up top t (hreach lb mb n iv) (by rw [← hnn]; exact htop) A l c (hcr.more (by omega)) hll
  have hwpos := hT.pos
  have key : ∀ {w3 : World}, Keeps (fun _ => False) w w3 → w3.heap[w.heap.size]? = some (.cells #[.pointer (some ⟨dp, 0, none⟩)] 29 (0, 0)) → w3.heap[w.heap.size + 1]? = some (.cells #[.pointer (some ⟨mp, 0, none⟩)] 129 (0, 0)) → w.heap.size + 2 ≤ w3.heap.size →
      (costV D t E l).2 = 0 → ¬ (Sp.nfree cs : Int) < (costV D t E l).1 →
      Calls Tryz.prog 179 #[.pointer (some ⟨dp, 0, none⟩), .int .i64 top, .slice A l.length c, .func (.func 180) #[] #[.pointer (some ⟨w.heap.size + 1, 0, none⟩), .pointer (some ⟨w.heap.size, 0, none⟩)]] w3 fun e w' =>
        e = .returned (.tuple #[.int .i64 (rebV bnxt D t E l ⟨D, cs, K⟩).1, .int .i64 0]) ∧ Built w Fd dp lo hi mp (rebV bnxt D t E l ⟨D, cs, K⟩).2.2 w' := by
    intro w3 kw e3 f3 s3 hz hfree
    have hgood : ∀ a ∈ l, a.good := Classical.byContradiction fun hn => by rw [costV_bad D t E hn] at hz; cases hz
    have hE : E = 0 := Classical.byContradiction fun hn => by rw [costV_err D t hgood hn] at hz; exact hn hz
    subst hE
    obtain ⟨rfl, ht, hro⟩ := htop rfl
    rw [costV_ok D t hgood] at hfree
    have hneed : needs D t l ≤ Sp.nfree cs := by simp only at hfree; omega
    have hI : (layB dp mp (w.heap.size + 1) w.heap.size lo hi (w.heap[0]?)).I (fun k => ((Fd k ∧ k < w.heap.size) ∧ k < w3.heap.size) ∨ (lo ≤ k ∧ k < hi) ∨ k = w.heap.size + 1 ∨ k = w.heap.size ∨ k = 0) ⟨D, cs, K⟩ w3 := by
      refine ⟨⟨fun k => Fd k ∧ k < w.heap.size, (hD0.mono (fun k hk hf => ⟨hf, hk⟩)).keep kw (fun _ _ _ h => h), hM.keep kw (fun _ _ _ h => h), hT.keeps kw (fun h => h), kw.block 0 hwpos (fun h => h), by omega, hlo, by omega, by omega, f3, e3, fun k => Iff.rfl, fun k hk _ => ?_, by omega, by omega⟩⟩
      have := hFd k hk.1 hk.2
      exact ⟨this.1, by omega, by omega, this.2⟩
    have hrem : keysF (latestF l) ≠ [] → (layB dp mp (w.heap.size + 1) w.heap.size lo hi (w.heap[0]?)).rem ⟨D, cs, K⟩ (cAll (layB dp mp (w.heap.size + 1) w.heap.size lo hi (w.heap[0]?)).nxt (nodeD D t) (leafG D (nodeD D t) (keysF (latestF l))) (latestF l) ⟨D, cs, K⟩ + 0) := by
      intro hk
      unfold needs at hneed
      rw [if_neg hk] at hneed
      have h1 := c1_le (latestF l)
      have h2 := n2_le (leafG D (nodeD D t) (keysF (latestF l))) (latestF l)
      have h3 := n3_le (nodeD D t) (leafG D (nodeD D t) (keysF (latestF l))) (latestF l)
      have hr0 : (layB dp mp (w.heap.size + 1) w.heap.size lo hi (w.heap[0]?)).rem ⟨D, cs, K⟩ (c1 (latestF l) + (n2 (leafG D (nodeD D t) (keysF (latestF l))) (latestF l) + 0)) := hok.rem (by omega) (by omega)
      rw [cAll_eq (P := latestF l) (layB dp mp (w.heap.size + 1) w.heap.size lo hi (w.heap[0]?)).nx (fun k x hx => latestF_len hgood hx) (nodeD D t) (leafG D (nodeD D t) (keysF (latestF l))) hr0]
      exact hok.rem (by omega) (by omega)
    have hcr3 : CR w3 w.heap.size A l := hl.keep fun q hq => World.cell?_of_block (kw.block q.block hq (fun h => h))
    refine (rebuildB_at _ _ (layB dp mp (w.heap.size + 1) w.heap.size lo hi (w.heap[0]?)) (hda.same kw) hok.up t t (hreach lb mb n iv) (fun _ => ⟨rfl, by rw [← hnn]; exact ht, by rw [← hnn]; exact hro⟩) A l c (hcr3.more (by omega)) hll hI (fun _ _ hk => hrem hk)).mono ?_
    rintro e w4 ⟨rfl, ⟨F', hI4, hF4⟩, k4⟩
    have hr21 : (rebV (layB dp mp (w.heap.size + 1) w.heap.size lo hi (w.heap[0]?)).nxt D t 0 l ⟨D, cs, K⟩).2.1 = 0 := by
      by_cases hk : keysF (latestF l) = []
      · rw [rebV_none _ D t _ hgood hk]
      · rw [rebV_some _ D t _ hgood hk]
    refine ⟨by rw [hr21]; rfl, ?_⟩
    have hI4' : BldI dp mp (w.heap.size + 1) w.heap.size lo hi (w.heap[0]?) F' (rebV bnxt D t 0 l ⟨D, cs, K⟩).2.2 w4 := hI4
    obtain ⟨Fd', hD4, hM4, hT4, hz4, _, _, _, _, _, _, hF', hFd4, _, _⟩ := hI4'
    have s4 := k4.size
    refine ⟨⟨fun k => Fd' k ∧ k < w4.heap.size, hD4.mono (fun k hk hf => ⟨hf, hk⟩), fun k hk => hk.2, fun k hk => ?_⟩, hM4, hT4, ?_⟩
    · have hn := hFd4 k hk.1 hk.2
      rcases hF4 k ((hF' k).2 (.inl hk)) with h | h
      · rcases h with h | h | h | h | h
        · exact .inl h.1
        · exact absurd h hn.1
        · exact absurd h hn.2.1
        · exact absurd h hn.2.2.1
        · exact absurd h hn.2.2.2
      · exact .inr (by omega)
    · refine ⟨k4.os.trans kw.os, k4.tape.trans kw.tape, k4.output.trans kw.output, by omega, fun b hb hn => ?_⟩
      by_cases hb0 : b = 0
      · subst hb0; exact hz4
      · refine (k4.block b (by omega) (fun h => ?_)).trans (kw.block b hb (fun h => h))
        rcases h with h | h | h | h | h
        · exact hn (.inl h.1)
        · exact hn (.inr h)
        · omega
        · omega
        · exact hb0 h
  have hfr : ∀ {w3 : World}, Keeps (fun _ => False) w w3 → Calls Tryz.prog 76 #[.pointer (some ⟨mp, 0, none⟩)] w3 fun e w' => e = .returned (.int .i64 (Sp.nfree cs : Nat)) ∧ w3 = w' := fun kw => Sp.free_s (hM.keep kw (fun _ _ _ h => h))
  clear hda hda2 hD0 hM hT hreach htop hl hcr hFd
  generalize hPP : BuildOut D t E l cs K w Fd dp lo hi mp = PP at *
  have HP := Lib.hid hPP
  clear hPP
  generalize hcv : costV D t E l = cv at *
  have HC := Lib.hid hcv
  clear hcv
  obtain ⟨cn, ce⟩ := cv
  simp only at hcost key
  go_enter Tryz.func142, Tryz.ntmps142
  go_wp2_with fail
  generalize ((w.alloc (.cells #[.pointer (some ⟨dp, 0, none⟩)] 29)).alloc (.cells #[.pointer (some ⟨mp, 0, none⟩)] 129)) = w2 at *
  refine hcost.mono ?_
  rintro e w3 ⟨rfl, hb3⟩
  have k3 := keeps_below hb3
  have kw3 := k2.trans k3
  have s3 := k3.size
  have ed3 := (k3.block _ (by omega) (fun h => h)).trans ed
  have em3 := (k3.block _ (by omega) (fun h => h)).trans em
  have cd3 := (cell1 ed3).1
  have cm3 := (cell1 em3).1
  have bw3 := kw3.toBelow w.heap.size (Nat.le_refl _) (fun _ h => h.elim)
  clear hcost hb3 k3 ed em cd k2
  by_cases hz : ce = 0
  · subst hz
    have HB := Lib.hid ed3
    have HM := Lib.hid em3
    clear ed3 em3
    by_cases hf : (Sp.nfree cs : Int) < cn
    · have hfin : PP (.returned (.tuple #[.int .i64 0, .int .i64 50])) w3 := by
        rw [← HP.out]; unfold BuildOut; rw [HC.out]
        rw [if_neg (by simp), if_pos hf]
        exact ⟨rfl, bw3⟩
      have hfd : decide ((Sp.nfree cs : Int) < cn) = true := decide_eq_true hf
      have hfr3 := hfr kw3
      generalize (Sp.nfree cs : Int) = nf at *
      clear hfr key bw3 hf
      go_wp2_with fail
      refine hfr3.mono ?_
      rintro e w' ⟨rfl, rfl⟩
      go_wp2_with fail
      exact hfin
    · have hkey := key kw3 HB.out HM.out (by omega) rfl (Int.not_lt.1 hf)
      have hfin : ∀ e w', (e = .returned (.tuple #[.int .i64 (rebV bnxt D t E l ⟨D, cs, K⟩).1, .int .i64 0]) ∧ Built w Fd dp lo hi mp (rebV bnxt D t E l ⟨D, cs, K⟩).2.2 w') → PP e w' := by
        intro e w' h
        rw [← HP.out]; unfold BuildOut; rw [HC.out]
        rw [if_neg (by simp), if_neg hf]
        exact h
      have hfd : decide ((Sp.nfree cs : Int) < cn) = false := decide_eq_false hf
      have hfr3 := hfr kw3
      generalize (Sp.nfree cs : Int) = nf at *
      clear hfr key bw3 hf
      go_wp2_with fail
      refine hfr3.mono ?_
      rintro e w' ⟨rfl, rfl⟩
      go_wp2_with fail
      refine hkey.mono ?_
      rintro e w4 ⟨rfl, hB⟩
      have hfin2 := hfin _ _ ⟨rfl, hB⟩
      clear hfin hkey hB
      generalize (rebV bnxt D t E l ⟨D, cs, K⟩).1 = tt at *
      go_wp2_with fail
      exact hfin2
  · have hfin : PP (.returned (.tuple #[.int .i64 0, .int .i64 ce])) w3 := by
      rw [← HP.out]; unfold BuildOut; rw [HC.out]
      rw [if_pos hz]
      exact ⟨rfl, bw3⟩
    have hz1 : (ce != 0) = true := by simpa using hz
    clear key hfr hz
    go_wp2_with fail
    exact hfin
end Go.Proofs.YtebecpjecchfoaaGreatDoor
