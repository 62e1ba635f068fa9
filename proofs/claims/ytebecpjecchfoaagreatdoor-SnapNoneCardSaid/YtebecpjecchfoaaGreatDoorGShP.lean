/-
  Merged by wip/tools/merge.py: ShLay ShPlain
-/
import Derived.Test.YtebecpjecchfoaaGreatDoorGShA
import Derived.Test.YtebecpjecchfoaaGreatDoorShRise
import Derived.Test.YtebecpjecchfoaaGreatDoorGA
namespace Go.Proofs.YtebecpjecchfoaaGreatDoor
open Go.RowKit Go.Maps

/-- What a call that lays bytes gives. -/
def Laid {σ : Type} (I : (Nat → Prop) → σ → World → Prop) (F : Nat → Prop) (m : Nat) (s' : σ) (W : World) (e : Ending) (W' : World) : Prop :=
  e = .returned (.int .i64 (m : Int)) ∧ (∃ F', I F' s' W' ∧ ∀ k, F' k → F k ∨ W.heap.size ≤ k) ∧ Keeps F W W'

/-- What lays bytes down: its state s, in blocks of F alone; what it answers; how often it may still be called. -/
structure Lay (σ : Type) (go : Option Addr → Nat → World → (Ending → World → Prop) → Prop) where
  I : (Nat → Prop) → σ → World → Prop
  nxt : σ → List UInt8 → Nat × σ
  rem : σ → Nat → Prop
  keep : ∀ {F G : Nat → Prop} {s : σ} {W W' : World}, I F s W → Keeps G W W' → (∀ k, k < W.heap.size → F k → ¬ G k) → I F s W'
  lt : ∀ {F : Nat → Prop} {s : σ} {W : World}, I F s W → ∀ k, F k → k < W.heap.size
  down : ∀ {s : σ} {r : Nat} (xs : List UInt8), xs.length = 64 → rem s (r + 1) → rem (nxt s xs).2 r
  val : ∀ {s : σ} {r : Nat} (xs : List UInt8), rem s (r + 1) → 2 ≤ (nxt s xs).1 ∧ (nxt s xs).1 ≤ 65535
  run : ∀ {F : Nat → Prop} {s : σ} {r : Nat} {W : World} {A : Option Addr} {xs : List UInt8} {c : Nat}, I F s W → rem s (r + 1) → xs.length = 64 → BR W W.heap.size A xs → (∀ ad, A = some ad → ¬ F ad.block) →
    go A c W (Laid I F (nxt s xs).1 (nxt s xs).2 W)

section
variable {σ V : Type} [DecidableEq V]
/-- One item settled. -/
def layStep (nxt : σ → List UInt8 → Nat × σ) (bare : V) (by_ : V → List UInt8) (f : Nat → Option V) (st : σ × (Nat → Option Int)) (k : Nat) : σ × (Nat → Option Int) :=
  if (f k).getD bare = bare then (st.1, updF st.2 k 0) else ((nxt st.1 (by_ ((f k).getD bare))).2, updF st.2 k ((nxt st.1 (by_ ((f k).getD bare))).1 : Int))
def layL (nxt : σ → List UInt8 → Nat × σ) (bare : V) (by_ : V → List UInt8) (f : Nat → Option V) (s : σ) (l : List Nat) : σ × (Nat → Option Int) := l.foldl (layStep nxt bare by_ f) (s, fun _ => none)
/-- How many aren't bare. -/
def cntB (bare : V) (f : Nat → Option V) (l : List Nat) : Nat := (l.filter fun k => decide ((f k).getD bare ≠ bare)).length
theorem layL_snoc (nxt : σ → List UInt8 → Nat × σ) (bare : V) (by_ : V → List UInt8) (f : Nat → Option V) (s : σ) (l : List Nat) (k : Nat) : layL nxt bare by_ f s (l ++ [k]) = layStep nxt bare by_ f (layL nxt bare by_ f s l) k := by simp [layL]
theorem layL_take (nxt : σ → List UInt8 → Nat × σ) (bare : V) (by_ : V → List UInt8) (f : Nat → Option V) (s : σ) (l : List Nat) (k : Nat) (h : k < l.length) : layL nxt bare by_ f s (l.take (k + 1)) = layStep nxt bare by_ f (layL nxt bare by_ f s (l.take k)) l[k] := by
  rw [List.take_succ_eq_append_getElem h, layL_snoc]
theorem cntB_drop (bare : V) (f : Nat → Option V) (l : List Nat) (k : Nat) (h : k < l.length) : cntB bare f (l.drop k) = (if (f l[k]).getD bare = bare then 0 else 1) + cntB bare f (l.drop (k + 1)) := by
  rw [List.drop_eq_getElem_cons h]
  unfold cntB
  rw [List.filter_cons]
  by_cases hb : (f l[k]).getD bare = bare
  · simp [hb]
  · simp [hb]; omega
end
theorem updF_updF {V : Type} (f : Nat → Option V) (n : Nat) (x y : V) : updF (updF f n x) n y = updF f n y := by
  funext i; unfold updF; split <;> rfl

/-- The keys of a map, in a new row. -/
theorem Risen.row {V : Type} {w w' : World} {f : Nat → Option V} {e : Ending} (h : Risen w f e w') : ∃ R c, e = .returned (.slice R (keysF f).length c) ∧ OwnI w' w.heap.size R c (keysF f) ∧ Below w.heap.size w w' := by
  obtain ⟨v, rfl, hrow, hb⟩ := h
  have e1 : ((keysF f).map Int.ofNat).map encZ = (keysF f).map fun (k : Nat) => Value.int .i64 (k : Int) := by rw [List.map_map]; rfl
  rw [e1] at hrow
  rcases hrow.2 with ⟨rfl, hz⟩ | ⟨g, cap, cur, rfl, rest⟩
  · exact ⟨none, 0, by rw [hz], by unfold OwnI; rw [hz]; rw [hz] at hrow; exact hrow, hb⟩
  · exact ⟨_, cap, rfl, hrow, hb⟩
theorem OwnI.block {w : World} {B : Nat} {R : Option Addr} {cap : Nat} {l : List Nat} (h : OwnI w B R cap l) : ∀ ad, R = some ad → B ≤ ad.block ∧ ad.block < w.heap.size := by
  rintro ad rfl
  rcases h.2 with ⟨e, _⟩ | ⟨g, cap', cur, e, hb, hg, _⟩
  · cases e
  · cases e
    exact ⟨hb, (Array.getElem?_eq_some_iff.1 hg).1⟩
theorem OwnI.keeps {w w' : World} {B : Nat} {R : Option Addr} {cap : Nat} {l : List Nat} (h : OwnI w B R cap l) {F : Nat → Prop} (k : Keeps F w w') (hF : ∀ ad, R = some ad → ¬ F ad.block) : OwnI w' B R cap l := by
  refine ⟨h.1, ?_⟩
  rcases h.2 with hn | ⟨g, cap', cur, e, hb, hg, rest⟩
  · exact .inl hn
  · injection e with e1 e2 e3
    subst e1
    exact .inr ⟨g, cap', cur, by rw [e2, e3], hb, (k.block g (Array.getElem?_eq_some_iff.1 hg).1 (hF _ rfl)).trans hg, rest⟩
theorem OwnI.cell {w : World} {B : Nat} {R : Option Addr} {cap : Nat} {l : List Nat} (h : OwnI w B R cap l) {k : Nat} (hk : k < l.length) : ∃ g, R = some ⟨g, 0, none⟩ ∧ w.cell? ⟨g, k, none⟩ = some (.int .i64 (l[k] : Int)) := by
  obtain ⟨g, e, _, hc⟩ := h.ir.at_ hk
  exact ⟨g, e, hc⟩

/-- What settle gives. -/
def Settled {σ V : Type} [DecidableEq V] {go : Option Addr → Nat → World → (Ending → World → Prop) → Prop} (L : Lay σ go) (bare : V) (by_ : V → List UInt8) (f : Nat → Option V) (s : σ) (r : Nat) (F : Nat → Prop) (w : World) (e : Ending) (w' : World) : Prop :=
  ∃ rb nn F', e = .returned (.map (some rb)) ∧ w.heap.size ≤ rb ∧ MapF secC w' rb nn (layL L.nxt bare by_ f s (keysF f)).2 ∧ nn ≤ 256 ∧ L.I F' (layL L.nxt bare by_ f s (keysF f)).1 w' ∧ (∀ k, F' k → F k ∨ (w.heap.size ≤ k ∧ k ≠ rb)) ∧ L.rem (layL L.nxt bare by_ f s (keysF f)).1 r ∧ Keeps F w w'

theorem zeroI (w : World) : (zeroValue 3).run Tryz.prog w = .ok (secC.enc 0) w := by kernel_rfl
theorem zeroPg (w : World) : (zeroValue 270).run Tryz.prog w = .ok (pageC.enc zs64) w := by kernel_rfl
theorem zeroNd (w : World) : (zeroValue 183).run Tryz.prog w = .ok (nodeC.enc z32) w := by kernel_rfl
theorem b8_map (xs : List UInt8) : xs.map B8 = (xs.map fun x => (x.toNat : Int)).map (Value.int .u8) := by rw [List.map_map]; rfl
theorem toNat_map_inj {a b : List UInt8} (h : a.map (fun x => (x.toNat : Int)) = b.map fun x => (x.toNat : Int)) : a = b := by
  induction a generalizing b with
  | nil => cases b with
    | nil => rfl
    | cons => cases h
  | cons x r ih => cases b with
    | nil => cases h
    | cons y s =>
      simp only [List.map_cons, List.cons.injEq] at h
      have : x = y := UInt8.toNat_inj.1 (by omega)
      rw [this, ih h.2]
theorem size8r (w : World) : (sizeOf 5).run Tryz.prog w = .ok 1 w := by kernel_rfl
theorem neqPg (w : World) {xs ys : List UInt8} (hx : xs.length = 64) (hy : ys.length = 64) : (binOp .neq 270 (ag xs) (ag ys)).run Tryz.prog w = .ok (.bool (!decide (xs = ys))) w := by
  have h := run_neq_ints w 270 5 64 .u8 Tryz.underlying270 Tryz.underlying5 size8r (xs.map fun x => (x.toNat : Int)) (ys.map fun x => (x.toNat : Int)) (by simpa using hx) (by simpa using hy)
  rw [← b8_map, ← b8_map] at h
  unfold ag
  rw [h]
  have : (xs.map (fun x => (x.toNat : Int)) = ys.map fun x => (x.toNat : Int)) ↔ xs = ys := ⟨toNat_map_inj, fun e => by rw [e]⟩
  simp only [this]
theorem guardPg : Tryz.prog.eqGuardType Tryz.prog.depth 270 = false := by kernel_rfl
end Go.Proofs.YtebecpjecchfoaaGreatDoor
namespace Go.Proofs.YtebecpjecchfoaaGreatDoor
open Go.RowKit Go.Maps

/-- A leaf into which the sectors of ss are laid. -/
def leafRow (secs : Nat → Option Int) (ss : List Nat) (i : Nat) (zs : List Int) : List Int := (List.range 32).map fun j => if 32 * i + j ∈ ss then (secs (32 * i + j)).getD 0 else zs.getD j 0
def leafH (g0 : Nat → Option (List Int)) (secs : Nat → Option Int) (ss : List Nat) : Nat → Option (List Int) := fun i => (g0 i).map (leafRow secs ss i)
/-- A top into which sectors are laid. -/
def rootH (root : List Int) (secs : Nat → Option Int) (ss : List Nat) : List Int := (List.range 32).map fun i => if i ∈ ss then (secs i).getD 0 else root.getD i 0
theorem leafRow_len (secs : Nat → Option Int) (ss : List Nat) (i : Nat) (zs : List Int) : (leafRow secs ss i zs).length = 32 := by simp [leafRow]
theorem rootH_len (root : List Int) (secs : Nat → Option Int) (ss : List Nat) : (rootH root secs ss).length = 32 := by simp [rootH]
theorem range_getD {zs : List Int} (h : zs.length = 32) : ((List.range 32).map fun j => zs.getD j 0) = zs := by
  refine List.ext_getElem (by simp [h]) fun i h1 h2 => ?_
  simp [List.getD_eq_getElem?_getD, List.getElem?_eq_getElem h2]
theorem leafRow_nil (secs : Nat → Option Int) (i : Nat) {zs : List Int} (h : zs.length = 32) : leafRow secs [] i zs = zs := by
  unfold leafRow
  simp only [List.not_mem_nil, if_false]
  exact range_getD h
theorem leafH_nil {g0 : Nat → Option (List Int)} (secs : Nat → Option Int) (h : ∀ i zs, g0 i = some zs → zs.length = 32) : leafH g0 secs [] = g0 := by
  funext i
  unfold leafH
  cases e : g0 i with
  | none => rfl
  | some zs => simp only [Option.map_some]; rw [leafRow_nil secs i (h i zs e)]
theorem rootH_nil {root : List Int} (secs : Nat → Option Int) (h : root.length = 32) : rootH root secs [] = root := by
  unfold rootH
  simp only [List.not_mem_nil, if_false]
  exact range_getD h
theorem leafRow_snoc (secs : Nat → Option Int) (ss : List Nat) (q : Nat) (zs : List Int) (v : Int) (hv : secs q = some v) : leafRow secs (ss ++ [q]) (q / 32) zs = (leafRow secs ss (q / 32) zs).set (q % 32) v := by
  refine List.ext_getElem (by simp [leafRow]) fun j h1 h2 => ?_
  have hj : j < 32 := by simpa [leafRow] using h1
  rw [List.getElem_set]
  simp only [leafRow, List.getElem_map, List.getElem_range, List.mem_append, List.mem_singleton]
  by_cases e : q % 32 = j
  · rw [if_pos e, if_pos (.inr (by omega)), show 32 * (q / 32) + j = q from by omega, hv]
    rfl
  · rw [if_neg e]
    have : ¬ 32 * (q / 32) + j = q := by omega
    simp only [this, or_false]
theorem leafRow_other (secs : Nat → Option Int) (ss : List Nat) (q i : Nat) (zs : List Int) (h : i ≠ q / 32) : leafRow secs (ss ++ [q]) i zs = leafRow secs ss i zs := by
  refine List.map_congr_left fun j hj => ?_
  have hj := List.mem_range.1 hj
  have : ¬ 32 * i + j = q := by omega
  simp only [List.mem_append, List.mem_singleton, this, or_false]
theorem leafH_snoc (g0 : Nat → Option (List Int)) (secs : Nat → Option Int) (ss : List Nat) (q : Nat) (zs : List Int) (v : Int) (hz : g0 (q / 32) = some zs) (hv : secs q = some v) :
    leafH g0 secs (ss ++ [q]) = updF (leafH g0 secs ss) (q / 32) ((leafRow secs ss (q / 32) zs).set (q % 32) v) := by
  funext i
  unfold leafH updF
  by_cases h : i = q / 32
  · subst h
    rw [if_pos rfl, hz, Option.map_some, leafRow_snoc _ _ _ _ _ hv]
  · rw [if_neg h]
    show (g0 i).map _ = (g0 i).map _
    cases e : g0 i with
    | none => rfl
    | some ys => simp only [Option.map_some]; rw [leafRow_other _ _ _ _ _ h]
theorem rootH_snoc (root : List Int) (secs : Nat → Option Int) (ss : List Nat) (q : Nat) (v : Int) (hv : secs q = some v) : rootH root secs (ss ++ [q]) = (rootH root secs ss).set q v := by
  refine List.ext_getElem (by simp [rootH]) fun j h1 h2 => ?_
  rw [List.getElem_set]
  simp only [rootH, List.getElem_map, List.getElem_range, List.mem_append, List.mem_singleton]
  by_cases e : q = j
  · subst e; rw [if_pos rfl, if_pos (.inr rfl), hv]; rfl
  · rw [if_neg e]
    have : ¬ j = q := fun h => e h.symm
    simp only [this, or_false]
theorem leafH_perm (g0 : Nat → Option (List Int)) (secs : Nat → Option Int) {ss tt : List Nat} (h : ss.Perm tt) : leafH g0 secs ss = leafH g0 secs tt := by
  funext i
  unfold leafH
  congr 1
  funext zs
  exact List.map_congr_left fun j _ => by simp only [h.mem_iff]
theorem rootH_perm (root : List Int) (secs : Nat → Option Int) {ss tt : List Nat} (h : ss.Perm tt) : rootH root secs ss = rootH root secs tt := List.map_congr_left fun j _ => by simp only [h.mem_iff]

/-- A map of one node. -/
def oneF (x : List Int) : Nat → Option (List Int) := fun i => if i = 0 then some x else none
theorem oneF_upd (x : List Int) : updF (fun _ => none) 0 x = oneF x := by funext i; rfl
theorem oneF_keys (x : List Int) : keysF (oneF x) = [0] := rfl

section
variable {σ V : Type} [DecidableEq V]
theorem layL_keys (nxt : σ → List UInt8 → Nat × σ) (bare : V) (by_ : V → List UInt8) (f : Nat → Option V) (s : σ) (l : List Nat) (i : Nat) : ((layL nxt bare by_ f s l).2 i).isSome = decide (i ∈ l) := by
  unfold layL
  suffices h : ∀ (l : List Nat) (st : σ × (Nat → Option Int)), ((l.foldl (layStep nxt bare by_ f) st).2 i).isSome = (decide (i ∈ l) || (st.2 i).isSome) by
    rw [h]; simp
  intro l
  induction l with
  | nil => intro st; simp
  | cons k r ih =>
    intro st
    rw [List.foldl_cons, ih]
    have e : ((layStep nxt bare by_ f st k).2 i).isSome = (decide (i = k) || (st.2 i).isSome) := by
      unfold layStep
      split
      · simp only [updF]; by_cases h : i = k <;> simp [h]
      · simp only [updF]; by_cases h : i = k <;> simp [h]
    rw [e]
    by_cases h : i = k <;> by_cases h' : i ∈ r <;> simp [h, h']
/-- What is laid answers 0 or a number of a sector. -/
theorem layL_val (nxt : σ → List UInt8 → Nat × σ) (bare : V) (by_ : V → List UInt8) (f : Nat → Option V) (s : σ) (rem : σ → Nat → Prop) (hb : ∀ k x, f k = some x → x ≠ bare → (by_ x).length = 64)
    (hd : ∀ {s r} xs, xs.length = 64 → rem s (r + 1) → rem (nxt s xs).2 r) (hv : ∀ {s r} xs, rem s (r + 1) → 2 ≤ (nxt s xs).1 ∧ (nxt s xs).1 ≤ 65535) :
    ∀ (l : List Nat) (st : σ × (Nat → Option Int)) (r : Nat), rem st.1 (cntB bare f l + r) → (∀ i v, st.2 i = some v → 0 ≤ v ∧ v ≤ 65535) → ∀ i v, (l.foldl (layStep nxt bare by_ f) st).2 i = some v → 0 ≤ v ∧ v ≤ 65535
  | [], st, r, _, hs, i, v, h => hs i v h
  | k :: l, st, r, hr, hs, i, v, h => by
    rw [List.foldl_cons] at h
    have hc : cntB bare f (k :: l) = (if (f k).getD bare = bare then 0 else 1) + cntB bare f l := cntB_drop bare f (k :: l) 0 (by simp)
    by_cases hx : (f k).getD bare = bare
    · have e : layStep nxt bare by_ f st k = (st.1, updF st.2 k 0) := if_pos hx
      rw [e] at h
      rw [if_pos hx, Nat.zero_add] at hc
      rw [hc] at hr
      refine layL_val nxt bare by_ f s rem hb hd hv l (st.1, updF st.2 k 0) r hr (fun i v hi => ?_) i v h
      simp only [updF] at hi
      split at hi
      · cases hi; omega
      · exact hs i v hi
    · have e : layStep nxt bare by_ f st k = ((nxt st.1 (by_ ((f k).getD bare))).2, updF st.2 k ((nxt st.1 (by_ ((f k).getD bare))).1 : Int)) := if_neg hx
      rw [e] at h
      rw [if_neg hx] at hc
      rw [hc, show 1 + cntB bare f l + r = (cntB bare f l + r) + 1 from by omega] at hr
      have hlen : (by_ ((f k).getD bare)).length = 64 := by
        cases hf : f k with
        | none => rw [hf] at hx; exact absurd rfl hx
        | some x => rw [hf] at hx; exact hb k x hf hx
      refine layL_val nxt bare by_ f s rem hb hd hv l _ r (hd _ hlen hr) (fun i v hi => ?_) i v h
      simp only [updF] at hi
      split at hi
      · cases hi
        have := hv (by_ ((f k).getD bare)) hr
        omega
      · exact hs i v hi
end

theorem nodeD_ok (D : DSt) (k : Nat) : ∀ z ∈ nodeD D k, 0 ≤ z ∧ z ≤ 65535 := by
  intro z hz
  unfold nodeD at hz
  split at hz
  · simp only [z32, List.mem_replicate] at hz
    omega
  · simp only [decN, decT, List.mem_map] at hz
    obtain ⟨j, _, rfl⟩ := hz
    split
    · have := num2_lt (D.now k) (2 * (j : Int)); omega
    · omega
theorem leafG_some (D : DSt) (root : List Int) (ss : List Nat) {i : Nat} {zs : List Int} (h : leafG D root ss i = some zs) : zs = leafV D root i ∧ ∃ a ∈ ss, a / 32 = i := by
  unfold leafG at h
  split at h
  · rename_i ha
    obtain ⟨a, ha, he⟩ := List.any_eq_true.1 ha
    cases h
    exact ⟨rfl, a, ha, by simpa using he⟩
  · cases h
theorem leafG_has (D : DSt) (root : List Int) {ss : List Nat} {q : Nat} (h : q ∈ ss) : leafG D root ss (q / 32) = some (leafV D root (q / 32)) := by
  unfold leafG
  rw [if_pos (List.any_eq_true.2 ⟨q, h, by simp⟩)]
theorem okN_of {zs : List Int} (h : ∀ z ∈ zs, 0 ≤ z ∧ z ≤ 65535) : okN zs = true := by
  unfold okN
  rw [List.all_eq_true]
  intro z hz
  simpa using h z hz
theorem leafRow_ok {secs : Nat → Option Int} (ss : List Nat) (i : Nat) {zs : List Int} (hz : ∀ z ∈ zs, 0 ≤ z ∧ z ≤ 65535) (hs : ∀ i v, secs i = some v → 0 ≤ v ∧ v ≤ 65535) : okN (leafRow secs ss i zs) = true := by
  refine okN_of fun z h => ?_
  simp only [leafRow, List.mem_map] at h
  obtain ⟨j, _, rfl⟩ := h
  split
  · cases e : secs (32 * i + j) with
    | none => simp
    | some v => simpa using hs _ _ e
  · rw [List.getD_eq_getElem?_getD]
    cases e : zs[j]? with
    | none => simp
    | some z => simpa using hz z (List.mem_of_getElem? e)
theorem rootH_ok {secs : Nat → Option Int} (ss : List Nat) {root : List Int} (hz : ∀ z ∈ root, 0 ≤ z ∧ z ≤ 65535) (hs : ∀ i v, secs i = some v → 0 ≤ v ∧ v ≤ 65535) : okN (rootH root secs ss) = true := by
  refine okN_of fun z h => ?_
  simp only [rootH, List.mem_map] at h
  obtain ⟨j, _, rfl⟩ := h
  split
  · cases e : secs j with
    | none => simp
    | some v => simpa using hs _ _ e
  · rw [List.getD_eq_getElem?_getD]
    cases e : root[j]? with
    | none => simp
    | some z => simpa using hz z (List.mem_of_getElem? e)

/-! ### the new tree -/
section
variable {σ : Type} (nxt : σ → List UInt8 → Nat × σ) (root0 : List Int) (g0 : Nat → Option (List Int)) (P : Nat → Option (List UInt8)) (s : σ)
def t1 : σ × (Nat → Option Int) := layL nxt zs64 (fun xs => xs) P s (keysF P)
def t1L : Nat → Option (List Int) := leafH g0 (t1 nxt P s).2 (keysF P)
def t2 : σ × (Nat → Option Int) := layL nxt z32 (fun zs => encB zs 32) (t1L nxt g0 P s) (t1 nxt P s).1 (keysF (t1L nxt g0 P s))
def t2R : List Int := rootH root0 (t2 nxt g0 P s).2 (keysF (t1L nxt g0 P s))
def t3 : σ × (Nat → Option Int) := layL nxt z32 (fun zs => encB zs 32) (oneF (t2R nxt root0 g0 P s)) (t2 nxt g0 P s).1 [0]
def tTop : Int := ((t3 nxt root0 g0 P s).2 0).getD 0
/-- How many are laid down. -/
def c1 : Nat := cntB zs64 P (keysF P)
def c2 : Nat := cntB z32 (t1L nxt g0 P s) (keysF (t1L nxt g0 P s))
def c3 : Nat := cntB z32 (oneF (t2R nxt root0 g0 P s)) [0]
def cAll : Nat := c1 P + c2 nxt g0 P s + c3 nxt root0 g0 P s
theorem t1_keys : keysF (t1 nxt P s).2 = keysF P := by
  unfold keysF
  refine List.filter_congr fun i hi => ?_
  unfold t1
  rw [layL_keys]
  have : (i ∈ keysF P) ↔ (P i).isSome = true := by rw [keysF_mem]; exact ⟨fun h => h.2, fun h => ⟨List.mem_range.1 hi, h⟩⟩
  simp only [this]
  cases (P i).isSome <;> rfl
theorem t2_keys : keysF (t2 nxt g0 P s).2 = keysF (t1L nxt g0 P s) := by
  conv => lhs; unfold keysF
  conv => rhs; unfold keysF
  refine List.filter_congr fun i hi => ?_
  unfold t2
  rw [layL_keys]
  have : (i ∈ keysF (t1L nxt g0 P s)) ↔ (t1L nxt g0 P s i).isSome = true := by rw [keysF_mem]; exact ⟨fun h => h.2, fun h => ⟨List.mem_range.1 hi, h⟩⟩
  simp only [this]
  cases (t1L nxt g0 P s i).isSome <;> rfl
end
end Go.Proofs.YtebecpjecchfoaaGreatDoor
