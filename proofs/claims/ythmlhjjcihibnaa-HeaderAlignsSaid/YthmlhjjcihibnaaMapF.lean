/-
  MapF
-/
import Derived.Test.YthmlhjjcihibnaaGDk
import Derived.Test.YthmlhjjcihibnaaGNd
import Derived.Test.YthmlhjjcihibnaaGT
import Derived.Maps.RangeWalk
import Derived.Lib.SlKeysI
namespace Go.Proofs.Ythmlhjjcihibnaa
open Go.RowKit Go.Maps Go.MapKept Go.ChangeMaps

/-- How elements are told: a value, a reader, a datum. -/
structure Codec (V : Type) where
  enc : V → Value
  R : Value → Option (DataW Unit × List MemPlace)
  dat : V → DataW Unit
  ok : ∀ x, R (enc x) = some (dat x, [])
  inv : ∀ v x ps, R v = some (dat x, ps) → v = enc x
  all : ∀ v y, R v = some y → ∃ x, v = enc x

def pageC : Codec (List UInt8) where
  enc := ag
  R := R8
  dat := fun xs => .lit (.string xs)
  ok := R8_mk
  inv := fun v x ps h => R8_inv h
  all := fun v y h => by
    unfold R8 at h
    split at h
    · rename_i cs
      cases hm : cs.toList.mapM byteV with
      | none => rw [hm] at h; cases h
      | some ys =>
        refine ⟨ys, ?_⟩
        have := mapM_byteV_inv hm
        unfold ag
        rw [← this]
    · cases h

def intV : Value → Option Int
  | .int .i64 n => some n
  | _ => none
theorem intV_inv {v : Value} {x : Int} (h : intV v = some x) : v = .int .i64 x := by
  unfold intV at h
  split at h
  · cases h; rfl
  · cases h
theorem mapM_intV (xs : List Int) : (xs.map I6).mapM intV = some xs := by
  induction xs with
  | nil => rfl
  | cons x r ih => rw [List.map_cons, List.mapM_cons, ih]; rfl
theorem mapM_intV_inv : ∀ {vs : List Value} {xs : List Int}, vs.mapM intV = some xs → vs = xs.map I6
  | [], xs, h => by cases h; rfl
  | v :: r, xs, h => by
    rw [List.mapM_cons] at h
    cases hv : intV v with
    | none => rw [hv] at h; cases h
    | some x =>
      rw [hv] at h
      cases hr : r.mapM intV with
      | none => rw [hr] at h; cases h
      | some ys =>
        rw [hr] at h
        cases h
        rw [intV_inv hv, mapM_intV_inv hr]
        rfl
def datI (n : Int) : DataW Unit := .lit (.int .i64 n)
def RNd : Value → Option (DataW Unit × List MemPlace)
  | .agg cs => (cs.toList.mapM intV).map fun xs => (.agg (xs.map datI), [])
  | _ => none
theorem datI_map_inj : ∀ {a b : List Int}, a.map datI = b.map datI → a = b
  | [], [], _ => rfl
  | [], y :: s, h => by cases h
  | x :: r, [], h => by cases h
  | x :: r, y :: s, h => by
    simp only [List.map_cons, List.cons.injEq, datI, DataW.lit.injEq, Lit.int.injEq, true_and] at h
    rw [h.1, datI_map_inj h.2]
def nodeC : Codec (List Int) where
  enc := ng
  R := RNd
  dat := fun xs => .agg (xs.map datI)
  ok := fun xs => by
    show Option.map _ (List.mapM intV (xs.map I6)) = _
    rw [mapM_intV]; rfl
  inv := fun v x ps h => by
    unfold RNd at h
    split at h
    · rename_i cs
      cases hm : cs.toList.mapM intV with
      | none => rw [hm] at h; cases h
      | some ys =>
        rw [hm] at h
        simp only [Option.map_some, Option.some.injEq, Prod.mk.injEq, DataW.agg.injEq] at h
        have h1 := datI_map_inj h.1
        subst h1
        have := mapM_intV_inv hm
        unfold ng
        rw [← this]
    · cases h
  all := fun v y h => by
    unfold RNd at h
    split at h
    · rename_i cs
      cases hm : cs.toList.mapM intV with
      | none => rw [hm] at h; cases h
      | some ys =>
        refine ⟨ys, ?_⟩
        have := mapM_intV_inv hm
        unfold ng
        rw [← this]
    · cases h
def secC : Codec Int where
  enc := I6
  R := fun v => (intV v).map fun n => (datI n, [])
  dat := datI
  ok := fun _ => rfl
  inv := fun v x ps h => by
    cases hv : intV v with
    | none => rw [hv] at h; cases h
    | some y =>
      rw [hv] at h
      simp only [Option.map_some, Option.some.injEq, Prod.mk.injEq, datI, DataW.lit.injEq, Lit.int.injEq, true_and] at h
      rw [intV_inv hv, h.1]
  all := fun v y h => by
    cases hv : intV v with
    | none => rw [hv] at h; cases h
    | some x => exact ⟨x, intV_inv hv⟩

def kI (n : Nat) : Lit := .int .i64 (n : Int)
def updF {V : Type} (f : Nat → Option V) (n : Nat) (x : V) : Nat → Option V := fun i => if i = n then some x else f i
/-- The numbers below 128 at which there is something, rising. -/
def keysF {V : Type} (f : Nat → Option V) : List Nat := (List.range 128).filter fun i => (f i).isSome
theorem keysF_mem {V : Type} {f : Nat → Option V} {i : Nat} : i ∈ keysF f ↔ i < 128 ∧ (f i).isSome = true := by simp [keysF]
theorem keysF_len {V : Type} (f : Nat → Option V) : (keysF f).length ≤ 128 := by
  have := List.length_filter_le (fun i => (f i).isSome) (List.range 128)
  simpa [keysF] using this
theorem keysF_nodup {V : Type} (f : Nat → Option V) : (keysF f).Nodup := List.Pairwise.filter _ List.nodup_range
theorem keysF_sorted {V : Type} (f : Nat → Option V) : (keysF f).Pairwise (· < ·) := List.Pairwise.filter _ List.pairwise_lt_range

/-- What a datum tells. -/
structure MapD {V : Type} (C : Codec V) (D : DataW Unit) (f : Nat → Option V) : Prop where
  im : IsMap D
  at_ : ∀ i, i < 128 → has D (kI i) = (f i).isSome ∧ ∀ x, f i = some x → ∀ z, D.atKey (kI i) z = C.dat x
  keys : ∀ z : Int, has D (.int .i64 z) = true → ∃ i : Nat, i < 128 ∧ z = i
  out : ∀ i, 128 ≤ i → f i = none

/-- Block mb is a map of at most nn entries that tells f. -/
def MapF {V : Type} (C : Codec V) (w : World) (mb nn : Nat) (f : Nat → Option V) : Prop :=
  ∃ D, w.ownsMap Try.prog 3 C.R mb nn D ∧ MapD C D f

variable {V : Type} {C : Codec V} {w : World} {mb nn : Nat} {f : Nat → Option V}

theorem keySmall (n : Nat) (h : n < 128) : keyOf Try.prog 3 (.int .i64 (n : Int)) = some (kI n) := keyOf_int_mk Try.underlying3 (by
  simp [Lit.wf, IntKind.min, IntKind.max, IntKind.signed, IntKind.bits]; omega)
theorem kI_ne {a b : Nat} (h : a ≠ b) : kI a ≠ kI b := by
  intro e
  unfold kI at e
  injection e with _ e
  omega
theorem MapF.lt (h : MapF C w mb nn f) : mb < w.heap.size := by obtain ⟨D, h, _⟩ := h; exact h.lt
theorem MapF.keep {w' : World} (h : MapF C w mb nn f) (hk : w'.heap[mb]? = w.heap[mb]?) : MapF C w' mb nn f := by
  obtain ⟨D, ⟨es, clock, hb, r⟩, rest⟩ := h
  exact ⟨D, ⟨es, clock, hk.trans hb, r⟩, rest⟩
theorem MapF.keeps {w' : World} {F : Nat → Prop} (h : MapF C w mb nn f) (k : Keeps F w w') (hF : ¬ F mb) : MapF C w' mb nn f := h.keep (k.block _ h.lt hF)
theorem MapF.below {w' : World} {B : Nat} (h : MapF C w mb nn f) (k : Below B w w') (hB : mb < B) : MapF C w' mb nn f := h.keep (k.block _ hB)
theorem MapF.alloc (h : MapF C w mb nn f) (o : Obj) : MapF C (w.alloc o) mb nn f := h.keep (Below.heap_alloc _ _ _ h.lt)
theorem MapF.setCell (h : MapF C w mb nn f) (a : Addr) (v : Value) (hb : mb ≠ a.block) : MapF C (w.setCell a v) mb nn f := h.keep (Below.heap_setCell _ _ _ _ hb)
theorem MapF.made (C : Codec V) (w : World) : MapF C (w.alloc (.map #[] 0)) w.heap.size 0 (fun _ => none) :=
  ⟨_, World.ownsMap_made w _ _ _, isMap_empty, fun _ _ => ⟨rfl, fun b hb => by cases hb⟩, fun z hz => by simp [has] at hz, fun _ _ => rfl⟩
theorem MapD.put {D : DataW Unit} (h : MapD C D f) (n : Nat) (hn : n < 128) (x : V) : MapD C (D.put (kI n) (C.dat x)) (updF f n x) := by
  refine ⟨h.im.put _ _, fun i hi => ?_, fun z hz => ?_, fun i hi => ?_⟩
  · unfold updF
    by_cases e : i = n
    · subst e
      rw [if_pos rfl, has_put_same h.im (by trivial)]
      exact ⟨rfl, fun y hy z => by cases hy; exact atKey_put_same h.im (by trivial) _ _⟩
    · rw [if_neg e, has_put_other (kI_ne e)]
      refine ⟨(h.at_ i hi).1, fun y hy z => ?_⟩
      rw [atKey_put_other (kI_ne e)]
      exact (h.at_ i hi).2 y hy z
  · by_cases e : z = (n : Int)
    · exact ⟨n, hn, e⟩
    · rw [has_put_other (by intro e'; unfold kI at e'; injection e' with _ e'; exact e e')] at hz
      exact h.keys z hz
  · unfold updF
    rw [if_neg (by omega)]
    exact h.out i hi
theorem MapF.put {t e : TypeId} (ht : Try.prog.underlying t = some (.map 3 e)) (h : MapF C w mb nn f) (n : Nat) (hn : n < 128) (x : V) (hq : nn < maxLen) :
    ∃ w', (Instr.mapUpdate t (.map (some mb)) (.int .i64 (n : Int)) (C.enc x)).run Try.prog w = .ok () w' ∧ MapF C w' mb (nn + 1) (updF f n x) ∧ w.grownBy w' (some mb) ∧ w'.heap.size = w.heap.size := by
  obtain ⟨D, hown, hD⟩ := h
  obtain ⟨w', hrun, hown', hg⟩ := hown.store intKeyed ht hq (keySmall n hn) (C.ok x)
  refine ⟨w', hrun, ⟨_, hown', hD.put n hn x⟩, hg.grown, ?_⟩
  obtain ⟨es, clock, es', clock', hb, rfl⟩ := hg
  simp [setBlock]
theorem MapF.look {t e : TypeId} (ht : Try.prog.underlying t = some (.map 3 e)) (h : MapF C w mb nn f) (zr : V) (hz : (zeroValue e).run Try.prog w = .ok (C.enc zr) w) (n : Nat) (hn : n < 128) :
    (Instr.lookup t (.map (some mb)) (.int .i64 (n : Int)) true).run Try.prog w = .ok (.tuple #[C.enc ((f n).getD zr), .bool (f n).isSome]) w := by
  obtain ⟨D, hown, hD⟩ := h
  obtain ⟨hh, hat⟩ := hD.at_ n hn
  obtain ⟨v, ps, hrun, hv⟩ := hown.look_ok intKeyed ht hz (C.ok zr) (keySmall n hn)
  rw [hrun, hh]
  cases hl : f n with
  | none =>
    rw [hl] at hh
    rw [atKey_of_not_has hh] at hv
    rw [C.inv _ _ _ hv]
    rfl
  | some b =>
    rw [hat b hl] at hv
    rw [C.inv _ _ _ hv]
    rfl
theorem MapF.look1 {t e : TypeId} (ht : Try.prog.underlying t = some (.map 3 e)) (h : MapF C w mb nn f) (zr : V) (hz : (zeroValue e).run Try.prog w = .ok (C.enc zr) w) (n : Nat) (hn : n < 128) :
    (Instr.lookup t (.map (some mb)) (.int .i64 (n : Int)) false).run Try.prog w = .ok (C.enc ((f n).getD zr)) w := by
  obtain ⟨D, hown, hD⟩ := h
  obtain ⟨hh, hat⟩ := hD.at_ n hn
  obtain ⟨v, ps, hrun, hv⟩ := hown.lookup intKeyed ht hz (C.ok zr) (keySmall n hn)
  rw [hrun]
  cases hl : f n with
  | none =>
    rw [hl] at hh
    rw [atKey_of_not_has hh] at hv
    rw [C.inv _ _ _ hv]
    rfl
  | some b =>
    rw [hat b hl] at hv
    rw [C.inv _ _ _ hv]
    rfl

/-- Its keys. -/
theorem MapD.keysPerm {D : DataW Unit} (hD : MapD C D f) (hown : w.ownsMap Try.prog 3 C.R mb nn D) : ((keysF f).map Int.ofNat).Perm (intKeys D) := by
  obtain ⟨es, hDe, hpw, _⟩ := hown.entries intKeyed
  obtain ⟨es', hD', hko⟩ := hown.keysOf
  obtain rfl : es = es' := by rw [hDe] at hD'; simpa using hD'
  subst hDe
  refine perm_intKeys hpw (fun p hp => by obtain ⟨v, hv⟩ := hko p hp; obtain ⟨x, _, hx, _⟩ := Maps.keyOf_i64 Try.underlying3 hv; exact ⟨x, hx⟩) ?_ (fun x => ?_)
  · exact List.pairwise_map.2 ((keysF_nodup f).imp fun h e => h (Int.ofNat.inj e))
  · constructor
    · intro hx
      obtain ⟨i, hi, rfl⟩ := List.mem_map.1 hx
      obtain ⟨h1, h2⟩ := keysF_mem.1 hi
      rw [← h2]
      exact (hD.at_ i h1).1
    · intro hx
      obtain ⟨i, hi, rfl⟩ := hD.keys x hx
      refine List.mem_map.2 ⟨i, keysF_mem.2 ⟨hi, ?_⟩, rfl⟩
      rw [← (hD.at_ i hi).1]
      exact hx
theorem intKeys_len (D : DataW Unit) : (intKeys D).length = Maps.size D := by cases D <;> simp [intKeys, Maps.size]
theorem MapD.size {D : DataW Unit} (hD : MapD C D f) (hown : w.ownsMap Try.prog 3 C.R mb nn D) : Maps.size D = (keysF f).length := by
  rw [← intKeys_len, ← (hD.keysPerm hown).length_eq, List.length_map]
theorem MapF.len {t e : TypeId} (ht : Try.prog.underlying t = some (.map 3 e)) (h : MapF C w mb nn f) (ty : TypeId) :
    (Builtin.len_ #[t] ty #[.map (some mb)]).run Try.prog w = .ok (.int .i64 ((keysF f).length : Nat)) w := by
  obtain ⟨D, hown, hD⟩ := h
  rw [hown.len ht ty, hD.size hown]
/-- A list of numbers sorted. -/
theorem sorted_keys {ss : List Int} (h : ss.Perm ((keysF f).map Int.ofNat)) : ss.mergeSort (fun x y => decide (x ≤ y)) = (keysF f).map Int.ofNat := by
  have h1 := mergeSort_of_perm_i h
  unfold leI at h1
  rw [h1]
  refine List.mergeSort_of_pairwise (List.pairwise_map.2 ((keysF_sorted f).imp fun {a b} hab => ?_))
  simp only [decide_eq_true_eq]
  exact Int.ofNat_le.2 (Nat.le_of_lt hab)

/-! ### gone through -/
/-- Block r goes through the map of block mb; 'ss' have come. -/
def MapR (C : Codec V) (w : World) (mb r nn : Nat) (f : Nat → Option V) (ss : List Nat) (cnt : Nat) : Prop :=
  ∃ D left, w.ranges Try.prog 3 C.R mb r nn D left cnt ∧ MapD C D f ∧ ss.Nodup ∧ ∀ i, i ∈ ss ↔ (i < 128 ∧ (f i).isSome = true ∧ left (kI i) = false)
theorem MapR.owns {r cnt : Nat} {ss : List Nat} (h : MapR C w mb r nn f ss cnt) : MapF C w mb nn f := by
  obtain ⟨D, left, hr, hD, _⟩ := h
  exact ⟨D, hr.owns, hD⟩
theorem MapR.kept {r cnt : Nat} {ss : List Nat} {w' : World} (h : MapR C w mb r nn f ss cnt) (h1 : w'.heap[mb]? = w.heap[mb]?) (h2 : w'.heap[r]? = w.heap[r]?) : MapR C w' mb r nn f ss cnt := by
  obtain ⟨D, left, ⟨es, clock, since, seen, c0, hb, F, hs, hD, hr, rest⟩, more⟩ := h
  exact ⟨D, left, ⟨es, clock, since, seen, c0, h1.trans hb, F, hs, hD, h2.trans hr, rest⟩, more⟩
theorem MapR.lt {r cnt : Nat} {ss : List Nat} (h : MapR C w mb r nn f ss cnt) : mb < w.heap.size ∧ r < w.heap.size := by
  obtain ⟨D, left, hr, _⟩ := h
  exact ⟨hr.owns.lt, hr.lt⟩
theorem MapR.ne {r cnt : Nat} {ss : List Nat} (h : MapR C w mb r nn f ss cnt) : r ≠ mb := by
  obtain ⟨D, left, hr, _⟩ := h
  exact hr.ne
theorem MapR.left_eq {r cnt : Nat} {ss : List Nat} (h : MapR C w mb r nn f ss cnt) : w.rangeLeft mb r = cnt := by
  obtain ⟨D, left, hr, _⟩ := h
  exact hr.left_eq
theorem MapR.mem {r cnt : Nat} {ss : List Nat} (h : MapR C w mb r nn f ss cnt) {i : Nat} (hi : i ∈ ss) : i < 128 ∧ (f i).isSome = true := by
  obtain ⟨D, left, _, _, _, hm⟩ := h
  exact ⟨((hm i).1 hi).1, ((hm i).1 hi).2.1⟩
theorem MapR.nodup {r cnt : Nat} {ss : List Nat} (h : MapR C w mb r nn f ss cnt) : ss.Nodup := by
  obtain ⟨D, left, _, _, hn, _⟩ := h
  exact hn

theorem nodup_len {ss : List Nat} (h : ss.Nodup) (n : Nat) (hs : ∀ i ∈ ss, i < n) : ss.length ≤ n := by
  have h1 : ss.Perm ((List.range n).filter fun i => decide (i ∈ ss)) := (List.perm_ext_iff_of_nodup h (List.Pairwise.filter _ List.nodup_range)).2 fun i => by
    simp only [List.mem_filter, List.mem_range, decide_eq_true_eq]
    exact ⟨fun hi => ⟨hs i hi, hi⟩, fun hi => hi.2⟩
  have h2 := List.length_filter_le (fun i => decide (i ∈ ss)) (List.range n)
  rw [h1.length_eq]
  simpa using h2
theorem MapR.len_le {r cnt : Nat} {ss : List Nat} (h : MapR C w mb r nn f ss cnt) : ss.length ≤ 128 := nodup_len h.nodup 128 fun _ hi => (h.mem hi).1

theorem wpList_range_map {ops : Array Oper} {rest : List Oper} {o : Oper} {a : Act} {Q : Exit → Act → World → Prop} (hg : o.guard = none) (m : Operand) (t e : TypeId) (hop : o.op = Op.range t m) (ht : Try.prog.underlying t = some (.map 3 e))
    (hm : a.eval m = .map (some mb)) (h : MapF C w mb nn f)
    (hK : ∀ w', MapR C w' mb w.heap.size nn f [] (keysF f).length → Keeps (fun _ => False) w w' → w'.heap.size = w.heap.size + 1 → wpList Try.prog ops Q rest (a.put o.dst (.pointer (some ⟨w.heap.size, 0, none⟩))) w') :
    wpList Try.prog ops Q (o :: rest) a w := by
  obtain ⟨D, hown, hD⟩ := h
  refine wpList_range_own w hg m t hop 3 e intKeyed ht C.R mb nn D hm hown fun w' h1 h2 h3 => hK w' ⟨D, _, (hD.size hown ▸ h1), hD, List.nodup_nil, fun i => ?_⟩ (Keeps.grown _ h2 (by simp)) h3
  constructor
  · intro h; cases h
  · rintro ⟨hi, hs, hl⟩
    rw [(hD.at_ i hi).1, hs] at hl
    cases hl

theorem wpList_next_map {r cnt : Nat} {ss : List Nat} {ops : Array Oper} {rest : List Oper} {o : Oper} {a : Act} {Q : Exit → Act → World → Prop} (hg : o.guard = none) (it : Operand) (hop : o.op = Op.next it false)
    (hit : a.eval it = .pointer (some ⟨r, 0, none⟩)) (h : MapR C w mb r nn f ss cnt)
    (hDone : ss.Perm (keysF f) → wpList Try.prog ops Q rest (a.put o.dst (.tuple #[.bool false])) w)
    (hMore : ∀ (i : Nat) (x : V) (w' : World) (cnt' : Nat), i < 128 → f i = some x → i ∉ ss → MapR C w' mb r nn f (ss ++ [i]) cnt' → cnt' < cnt → Keeps (· = r) w w' → w'.heap.size = w.heap.size →
      (Instr.entry (.pointer (some ⟨r, 0, none⟩))).run Try.prog w' = .ok (.tuple #[.int .i64 (i : Int), C.enc x]) w' → wpList Try.prog ops Q rest (a.put o.dst (.tuple #[.bool true, .int .i64 (i : Int), C.enc x])) w') :
    wpList Try.prog ops Q (o :: rest) a w := by
  obtain ⟨D, left, hr, hD, hnd, hmem⟩ := h
  refine wpList_next_ranges w hg it hop 3 intKeyed C.R (fun z : Int => .int .i64 z) C.enc (fun key kl hk => by obtain ⟨x, hx, _⟩ := Maps.keyOf_i64 Try.underlying3 hk; exact ⟨x, hx⟩) (fun v y hv => C.all v y hv) mb r nn D left cnt hit hr ?_ ?_
  · intro _ hl
    refine hDone ((List.perm_ext_iff_of_nodup hnd (keysF_nodup f)).2 fun i => ?_)
    rw [hmem i, keysF_mem, hl]
    simp
  · intro z c kl y w' cnt' hkey hlk hv hat hr' hlt hg' hs' hen
    obtain ⟨z', ez, rfl, _⟩ := Maps.keyOf_i64 Try.underlying3 hkey
    have ez := encZ_inj ez
    subst ez
    have hhas : has D (.int .i64 z) = true := has_true_of_atKey hat
    obtain ⟨i, hi, rfl⟩ := hD.keys z hhas
    have hs : (f i).isSome = true := by rw [← (hD.at_ i hi).1]; exact hhas
    obtain ⟨x, hx⟩ := Option.isSome_iff_exists.1 hs
    have hyx : y.1 = C.dat x := by rw [← hat (.lit (.bool true))]; exact (hD.at_ i hi).2 x hx _
    have hcx : C.enc c = C.enc x := C.inv _ _ y.2 (by rw [hv, ← hyx])
    have hnew : i ∉ ss := fun hmi => by
      have := ((hmem i).1 hmi).2.2
      unfold kI at this
      rw [hlk] at this
      cases this
    rw [hcx] at hen ⊢
    refine hMore i x w' cnt' hi hx hnew ⟨D, _, hr', hD, List.nodup_append.2 ⟨hnd, by simp, fun a ha b hb => by simp at hb; subst hb; exact fun e => hnew (e ▸ ha)⟩, fun j => ?_⟩ hlt (Keeps.grown _ hg' (by simp)) hs' hen
    by_cases hj : j = i
    · subst hj; simp [hi, hs, Lit.sameKey, kI]
    · have hne : ¬ ((j : Int) = (i : Int)) := by omega
      simp [hmem j, hj, hne, Lit.sameKey, kI]
end Go.Proofs.Ythmlhjjcihibnaa
