/-
  ExPlain
-/
import Derived.WalkKit
import Derived.Lib.TrailingZeros
import Derived.Test.YthbkjndnconakaaGSp
namespace Go.Proofs.Ythbkjndnconakaa.Ex

/-- An extent: where it starts, how long it is. -/
abbrev EX := Int × Int
def exB (x : EX) : List Nat := (List.range x.2.toNat).map (x.1.toNat + ·)
def blkL (l : List EX) : List Nat := l.flatMap exB
def ins (x : EX) : Prop := 9 ≤ x.1 ∧ 1 ≤ x.2 ∧ x.2 ≤ 32 - x.1
instance (x : EX) : Decidable (ins x) := by unfold ins; infer_instance
def okL : List Nat → Int → List EX → Bool
  | _, _, [] => true
  | out, e, x :: r => decide (ins x) && (decide (x.1 ≠ e) && (decide (∀ b ∈ exB x, b ∉ out) && okL (out ++ exB x) (x.1 + x.2) r))
def ok (l : List EX) : Bool := okL [] 0 l
def endL (l : List EX) : Int := match l.getLast? with
  | some x => x.1 + x.2
  | none => 0
theorem endL_snoc (q : List EX) (x : EX) : endL (q ++ [x]) = x.1 + x.2 := by simp [endL]
theorem exB_len (x : EX) : (exB x).length = x.2.toNat := by simp [exB]
theorem exB_mem {x : EX} {b : Nat} : b ∈ exB x ↔ x.1.toNat ≤ b ∧ b < x.1.toNat + x.2.toNat := by
  unfold exB
  rw [List.mem_map]
  constructor
  · rintro ⟨a, ha, rfl⟩
    rw [List.mem_range] at ha
    omega
  · intro h
    exact ⟨b - x.1.toNat, by rw [List.mem_range]; omega, by omega⟩
theorem exB_at (x : EX) (k : Nat) (h : k < (exB x).length) : (exB x)[k] = x.1.toNat + k := by simp [exB]
theorem exB_nodup (x : EX) : (exB x).Nodup := by
  unfold exB
  exact List.Pairwise.map _ (fun a b h => by omega) (List.nodup_range (n := x.2.toNat))
set_option maxRecDepth 100000 in
theorem exB_more (s : Int) (n : Int) (hs : 0 ≤ s) (hn : 0 ≤ n) : exB (s, n + 1) = exB (s, n) ++ [(s + n).toNat] := by
  unfold exB
  have e : (s, n + 1).2.toNat = n.toNat + 1 := by show (n + 1).toNat = _; omega
  rw [e, List.range_succ, List.map_append]
  simp
  omega
theorem blkL_append (a b : List EX) : blkL (a ++ b) = blkL a ++ blkL b := by simp [blkL]
theorem blkL_one (x : EX) : blkL [x] = exB x := by simp [blkL]
theorem blkL_cons (x : EX) (r : List EX) : blkL (x :: r) = exB x ++ blkL r := by simp [blkL]

theorem okL_cons (out : List Nat) (e : Int) (x : EX) (r : List EX) : okL out e (x :: r) = true ↔ ins x ∧ x.1 ≠ e ∧ (∀ b ∈ exB x, b ∉ out) ∧ okL (out ++ exB x) (x.1 + x.2) r = true := by
  rw [okL, Bool.and_eq_true, Bool.and_eq_true, Bool.and_eq_true, decide_eq_true_iff, decide_eq_true_iff, decide_eq_true_iff]
theorem okL_step (out : List Nat) (e : Int) {l : List EX} {x : EX} {r : List EX} (h : l = x :: r) : okL out e l = (decide (ins x) && (decide (x.1 ≠ e) && (decide (∀ b ∈ exB x, b ∉ out) && okL (out ++ exB x) (x.1 + x.2) r))) := by
  rw [h, okL]
theorem okL_snoc : ∀ (q p : List EX) (x : EX), okL (blkL p) (endL p) (q ++ [x]) = true ↔ okL (blkL p) (endL p) q = true ∧ ins x ∧ x.1 ≠ endL (p ++ q) ∧ ∀ b ∈ exB x, b ∉ blkL (p ++ q)
  | [], p, x => by
    rw [List.nil_append, okL_cons, List.append_nil]
    simp [okL]
  | y :: r, p, x => by
    have ih := okL_snoc r (p ++ [y]) x
    rw [endL_snoc, blkL_append, blkL_one, List.append_assoc, List.singleton_append] at ih
    rw [List.cons_append, okL_cons, okL_cons, ih]
    constructor
    · rintro ⟨a, b, c, d, e, f, g⟩
      exact ⟨⟨a, b, c, d⟩, e, f, g⟩
    · rintro ⟨⟨a, b, c, d⟩, e, f, g⟩
      exact ⟨a, b, c, d, e, f, g⟩
theorem ok_snoc (q : List EX) (x : EX) : ok (q ++ [x]) = true ↔ ok q = true ∧ ins x ∧ x.1 ≠ endL q ∧ ∀ b ∈ exB x, b ∉ blkL q := okL_snoc q [] x
theorem snoc_ind {α : Type} {M : List α → Prop} (h0 : M []) (h1 : ∀ q x, M q → M (q ++ [x])) : ∀ l, M l := fun l => by
  have : ∀ n (l : List α), l.length = n → M l := by
    intro n
    induction n with
    | zero => intro l hl; rw [List.length_eq_zero_iff.1 hl]; exact h0
    | succ n ih =>
      intro l hl
      rcases List.eq_nil_or_concat l with rfl | ⟨q, y, rfl⟩
      · exact h0
      · rw [List.concat_eq_append] at hl ⊢
        exact h1 q y (ih q (by simpa using hl))
  exact this _ l rfl
/-- Numbers of blocks, each one once. -/
def Good (out : List Nat) : Prop := out.Nodup ∧ ∀ b ∈ out, 9 ≤ b ∧ b < 32
theorem ins_mem {x : EX} (h : ins x) {b : Nat} (hb : b ∈ exB x) : 9 ≤ b ∧ b < 32 := by
  rw [exB_mem] at hb
  unfold ins at h
  omega
theorem Good.add {out : List Nat} {x : EX} (h : Good out) (hx : ins x) (hd : ∀ b ∈ exB x, b ∉ out) : Good (out ++ exB x) := by
  refine ⟨List.nodup_append.2 ⟨h.1, exB_nodup x, fun a ha b hb e => hd b hb (e ▸ ha)⟩, fun b hb => ?_⟩
  rcases List.mem_append.1 hb with h1 | h1
  · exact h.2 b h1
  · exact ins_mem hx h1
theorem good_nil : Good [] := ⟨List.nodup_nil, fun b hb => by cases hb⟩
theorem ok_good : ∀ l, ok l = true → Good (blkL l) := snoc_ind (fun _ => good_nil) fun q x ih h => by
  obtain ⟨h1, h2, _, h4⟩ := (ok_snoc q x).1 h
  rw [blkL_append, blkL_one]
  exact (ih h1).add h2 h4
theorem nodup_len : ∀ (n : Nat) (l : List Nat), l.Nodup → (∀ b ∈ l, b < n) → l.length ≤ n
  | 0, l, _, h => by
    cases l with
    | nil => simp
    | cons x r => have := h x (by simp); omega
  | n + 1, l, hn, h => by
    have := nodup_len n (l.erase n) (hn.erase n) (fun b hb => by
      have h1 := h b (List.mem_of_mem_erase hb)
      have h2 : b ≠ n := fun e => by subst e; exact (hn.not_mem_erase) hb
      omega)
    have h3 := List.length_erase (a := n) (l := l)
    split at h3 <;> omega
theorem Good.len {out : List Nat} (h : Good out) : out.length ≤ 23 := by
  have := nodup_len 23 (out.map (· - 9)) (by
    refine List.Pairwise.imp_of_mem (R := fun a b => a ≠ b) ?_ ?_
    · intro a b _ _ h; exact h
    · rw [List.pairwise_map]
      refine h.1.imp_of_mem ?_
      intro a b ha hb hab e
      have := h.2 a ha
      have := h.2 b hb
      omega) (fun b hb => by
    obtain ⟨a, ha, rfl⟩ := List.mem_map.1 hb
    have := h.2 a ha
    omega)
  simpa using this

/-! ### lists of extents out of blocks -/
def withV (l : List EX) (b : Nat) : List EX := match l.getLast? with
  | some x => if x.1 + x.2 = (b : Int) then l.dropLast ++ [(x.1, x.2 + 1)] else l ++ [((b : Int), 1)]
  | none => [((b : Int), 1)]
theorem withV_nil (b : Nat) : withV [] b = [((b : Int), 1)] := rfl
theorem withV_snoc (q : List EX) (x : EX) (b : Nat) : withV (q ++ [x]) b = if x.1 + x.2 = (b : Int) then q ++ [(x.1, x.2 + 1)] else q ++ [x] ++ [((b : Int), 1)] := by simp [withV]
def extV (l : List EX) (bs : List Nat) : List EX := bs.foldl withV l
theorem extV_append (l : List EX) (a b : List Nat) : extV l (a ++ b) = extV (extV l a) b := by simp [extV]
theorem extV_snoc (l : List EX) (a : List Nat) (b : Nat) : extV l (a ++ [b]) = withV (extV l a) b := by simp [extV]
theorem extV_run (q : List EX) (s n : Int) (hs : 0 ≤ s) (hn : 1 ≤ n) (he : s ≠ endL q ∨ q = []) : extV q (exB (s, n)) = q ++ [(s, n)] := by
  obtain ⟨k, rfl⟩ : ∃ k : Nat, n = (k : Int) + 1 := ⟨(n - 1).toNat, by omega⟩
  clear hn
  induction k with
  | zero =>
    rw [exB_more s _ hs (by omega), extV_append]
    have e : exB (s, ((0 : Nat) : Int)) = [] := rfl
    rw [e]
    show withV q (s + ((0 : Nat) : Int)).toNat = _
    have e2 : ((s + ((0 : Nat) : Int)).toNat : Int) = s := by omega
    rcases List.eq_nil_or_concat q with rfl | ⟨r, y, rfl⟩
    · rw [withV_nil, e2]; simp
    · rw [List.concat_eq_append] at he ⊢
      rw [withV_snoc, if_neg (by
        rw [endL_snoc] at he
        rcases he with he | he
        · omega
        · simp at he), e2]
      simp
  | succ k ih =>
    rw [exB_more s _ hs (by omega), extV_append, show ((k + 1 : Nat) : Int) = (k : Int) + 1 from by omega, ih]
    show withV _ _ = _
    rw [withV_snoc, if_pos (by show s + ((k : Int) + 1) = _; omega)]
theorem extV_blk : ∀ (l p : List EX) (out : List Nat), okL out (endL p) l = true → extV p (blkL l) = p ++ l
  | [], p, out, _ => by simp [blkL, extV]
  | x :: r, p, out, h => by
    obtain ⟨h1, h2, _, h4⟩ := (okL_cons _ _ _ _).1 h
    rw [blkL_cons, extV_append]
    have e : extV p (exB x) = p ++ [x] := extV_run p x.1 x.2 (by unfold ins at h1; omega) h1.2.1 (.inl h2)
    rw [e, extV_blk r (p ++ [x]) (out ++ exB x) (by rw [endL_snoc]; exact h4)]
    simp
theorem ext_blk {l : List EX} (h : ok l = true) : extV [] (blkL l) = l := extV_blk l [] [] h
theorem withV_ok {p : List EX} (h : ok p = true) {b : Nat} (h1 : 9 ≤ b) (h2 : b < 32) (hb : b ∉ blkL p) : ok (withV p b) = true ∧ blkL (withV p b) = blkL p ++ [b] := by
  have eb : exB ((b : Int), 1) = [b] := by simp [exB]
  rcases List.eq_nil_or_concat p with rfl | ⟨q, x, rfl⟩
  · rw [withV_nil]
    refine ⟨(ok_snoc [] _).2 ⟨rfl, ⟨by show (9 : Int) ≤ b; omega, by show (1 : Int) ≤ 1; omega, by show (1 : Int) ≤ 32 - b; omega⟩, by show (b : Int) ≠ 0; omega, fun c _ h => by cases h⟩, ?_⟩
    rw [blkL_one, eb]
    rfl
  · rw [List.concat_eq_append] at h hb ⊢
    obtain ⟨g1, g2, g3, g4⟩ := (ok_snoc q x).1 h
    have g2' := g2
    unfold ins at g2'
    rw [withV_snoc]
    split
    · rename_i e
      have em := exB_more x.1 x.2 (by omega) (by omega)
      have et : (x.1 + x.2).toNat = b := by omega
      rw [et] at em
      rw [blkL_append, blkL_append, blkL_one, blkL_one, em, List.append_assoc]
      refine ⟨(ok_snoc q _).2 ⟨g1, ⟨g2'.1, by show 1 ≤ x.2 + 1; omega, by show x.2 + 1 ≤ 32 - x.1; omega⟩, g3, fun c hc => ?_⟩, rfl⟩
      rw [em] at hc
      rcases List.mem_append.1 hc with hc | hc
      · exact g4 c hc
      · simp at hc
        subst hc
        exact fun hm => hb (by rw [blkL_append]; exact List.mem_append.2 (.inl hm))
    · rename_i e
      rw [blkL_append (q ++ [x]), blkL_one, eb]
      refine ⟨(ok_snoc _ _).2 ⟨h, ⟨by show (9 : Int) ≤ b; omega, by show (1 : Int) ≤ 1; omega, by show (1 : Int) ≤ 32 - b; omega⟩, by rw [endL_snoc]; show (b : Int) ≠ _; omega, fun c hc => ?_⟩, rfl⟩
      rw [eb] at hc
      simp at hc
      subst hc
      exact hb
theorem extV_ok : ∀ (bs : List Nat) (p : List EX), ok p = true → Good (blkL p ++ bs) → ok (extV p bs) = true ∧ blkL (extV p bs) = blkL p ++ bs
  | [], p, h, _ => ⟨h, by simp [extV]⟩
  | b :: r, p, h, hg => by
    have hm := hg.2 b (by simp)
    have hn : b ∉ blkL p := fun hb => by
      have := (List.nodup_append.1 hg.1).2.2 b hb b (by simp)
      exact this rfl
    obtain ⟨h1, h2⟩ := withV_ok h hm.1 hm.2 hn
    have := extV_ok r (withV p b) h1 (by rw [h2, List.append_assoc]; exact hg)
    rw [h2, List.append_assoc] at this
    exact this

/-! ### sets as bits -/
def setN (l : List Nat) : Nat := l.foldl (fun s b => s ||| 2 ^ b) 0
theorem setN_from (l : List Nat) (i : Nat) : ∀ s : Nat, (l.foldl (fun s b => s ||| 2 ^ b) s).testBit i = (s.testBit i || decide (i ∈ l)) := by
  induction l with
  | nil => intro s; simp
  | cons b r ih =>
    intro s
    rw [List.foldl_cons, ih, Nat.testBit_or, Nat.testBit_two_pow, Bool.or_assoc]
    congr 1
    by_cases e : i = b
    · subst e; simp
    · have : ¬ b = i := fun h => e h.symm
      simp [e, this]
theorem setN_bit (l : List Nat) (i : Nat) : (setN l).testBit i = decide (i ∈ l) := by
  unfold setN
  rw [setN_from]
  simp
theorem bit_eq {a b : Nat} (h : ∀ i, a.testBit i = b.testBit i) : a = b := Nat.eq_of_testBit_eq h
theorem setN_append (a b : List Nat) : setN (a ++ b) = setN a ||| setN b := bit_eq fun i => by
  rw [Nat.testBit_or, setN_bit, setN_bit, setN_bit]
  simp
theorem setN_one (b : Nat) : setN [b] = 2 ^ b := by simp [setN]
theorem setN_snoc (l : List Nat) (b : Nat) : setN (l ++ [b]) = setN l ||| 2 ^ b := by rw [setN_append, setN_one]
theorem lt_of_bits {a : Nat} (h : ∀ i, 32 ≤ i → a.testBit i = false) : a < 4294967296 := by
  have := Nat.lt_pow_two_of_testBit (n := 32) a h
  simpa using this
theorem setN_lt {l : List Nat} (h : ∀ b ∈ l, b < 32) : setN l < 4294967296 := lt_of_bits fun i hi => by
  rw [setN_bit, decide_eq_false_iff_not]
  intro hm
  have := h i hm
  omega
theorem bit_lt {a i : Nat} (h : a < 4294967296) (hi : 32 ≤ i) : a.testBit i = false :=
  Nat.testBit_lt_two_pow (Nat.lt_of_lt_of_le (show a < 2 ^ 32 by simpa using h) (Nat.pow_le_pow_right (by decide) hi))
theorem setN_ex (x : EX) : (2 ^ x.2.toNat - 1) * 2 ^ x.1.toNat = setN (exB x) := bit_eq fun i => by
  rw [setN_bit, Nat.testBit_mul_two_pow, Nat.testBit_two_pow_sub_one]
  rw [Bool.eq_iff_iff, Bool.and_eq_true, decide_eq_true_iff, decide_eq_true_iff, decide_eq_true_iff, exB_mem]
  omega
theorem and_setN (a b : List Nat) : setN a &&& setN b = 0 ↔ ∀ x ∈ b, x ∉ a := by
  constructor
  · intro h x hx ha
    have := congrArg (·.testBit x) h
    simp [setN_bit, hx, ha] at this
  · intro h
    refine bit_eq fun i => ?_
    rw [Nat.testBit_and, setN_bit, setN_bit]
    by_cases hb : i ∈ b
    · simp [h i hb]
    · simp [hb]
/-- a without b. -/
def andN (a b : Nat) : Nat := (BitVec.ofNat 32 a &&& ~~~ BitVec.ofNat 32 b).toNat
theorem andN_bit (a b i : Nat) : (andN a b).testBit i = (decide (i < 32) && a.testBit i && !b.testBit i) := by
  unfold andN
  rw [← BitVec.getLsbD, BitVec.getLsbD_and, BitVec.getLsbD_not, BitVec.getLsbD_ofNat, BitVec.getLsbD_ofNat]
  by_cases h : i < 32 <;> simp [h]
theorem andN_lt (a b : Nat) : andN a b < 4294967296 := lt_of_bits fun i hi => by
  rw [andN_bit]
  simp
  omega
theorem andN_int (a b : Nat) (_ha : a < 4294967296) (_hb : b < 4294967296) : bits .andNot .u32 (a : Int) (b : Int) = (andN a b : Int) := by
  have h1 : BitVec.ofInt 32 (a : Int) = BitVec.ofNat 32 a := BitVec.ofInt_natCast ..
  have h2 : BitVec.ofInt 32 (b : Int) = BitVec.ofNat 32 b := BitVec.ofInt_natCast ..
  show IntKind.u32.wrap ((BitVec.ofInt 32 (a : Int) &&& ~~~ BitVec.ofInt 32 (b : Int)).toNat : Int) = _
  rw [h1, h2]
  show IntKind.u32.wrap (andN a b : Int) = _
  have := andN_lt a b
  rw [IntKind.wrap_u32]
  omega
theorem andI (a b : Nat) (ha : a < 4294967296) (hb : b < 4294967296) : bits .and .u32 (a : Int) (b : Int) = ((a &&& b : Nat) : Int) := by
  have hx : a &&& b < 2 ^ 32 := Nat.and_lt_two_pow _ (by omega)
  have h1 : (BitVec.ofInt 32 (a : Int)).toNat = a := by
    rw [BitVec.ofInt_natCast, BitVec.toNat_ofNat]; exact Nat.mod_eq_of_lt (by omega)
  have h2 : (BitVec.ofInt 32 (b : Int)).toNat = b := by
    rw [BitVec.ofInt_natCast, BitVec.toNat_ofNat]; exact Nat.mod_eq_of_lt (by omega)
  show IntKind.u32.wrap ((BitVec.ofInt 32 (a : Int) &&& BitVec.ofInt 32 (b : Int)).toNat : Int) = _
  rw [BitVec.toNat_and, h1, h2, IntKind.wrap_u32]
  omega
theorem orI (a b : Nat) (ha : a < 4294967296) (hb : b < 4294967296) : bits .or .u32 (a : Int) (b : Int) = ((a ||| b : Nat) : Int) := by
  have hx : a ||| b < 2 ^ 32 := Nat.or_lt_two_pow (by omega) (by omega)
  have h1 : (BitVec.ofInt 32 (a : Int)).toNat = a := by
    rw [BitVec.ofInt_natCast, BitVec.toNat_ofNat]; exact Nat.mod_eq_of_lt (by omega)
  have h2 : (BitVec.ofInt 32 (b : Int)).toNat = b := by
    rw [BitVec.ofInt_natCast, BitVec.toNat_ofNat]; exact Nat.mod_eq_of_lt (by omega)
  show IntKind.u32.wrap ((BitVec.ofInt 32 (a : Int) ||| BitVec.ofInt 32 (b : Int)).toNat : Int) = _
  rw [BitVec.toNat_or, h1, h2, IntKind.wrap_u32]
  omega
theorem or_lt {a b : Nat} (ha : a < 4294967296) (hb : b < 4294967296) : a ||| b < 4294967296 := Nat.or_lt_two_pow (n := 32) (by omega) (by omega)
theorem pow_lt {b : Nat} (hb : b < 32) : (2 : Nat) ^ b < 4294967296 := by
  have : (2 : Nat) ^ b < 2 ^ 32 := Nat.pow_lt_pow_right (by decide) hb
  simpa using this

/-! ### which are free -/
def free (u : Nat) (b : Nat) : Bool := decide (9 ≤ b) && !u.testBit b
/-- The free ones below n. -/
def frL (u n : Nat) : List Nat := (List.range n).filter (free u)
def freeL (u : Nat) : List Nat := frL u 32
theorem frL_succ (u n : Nat) : frL u (n + 1) = if free u n then frL u n ++ [n] else frL u n := by
  unfold frL
  rw [List.range_succ, List.filter_append, List.filter_cons]
  split <;> simp
theorem frL_nine (u : Nat) : frL u 9 = [] := by
  unfold frL
  rw [List.filter_eq_nil_iff]
  intro b hb
  rw [List.mem_range] at hb
  unfold free
  simp
  omega
theorem frL_mem {u n b : Nat} : b ∈ frL u n ↔ b < n ∧ 9 ≤ b ∧ u.testBit b = false := by
  unfold frL free
  rw [List.mem_filter, List.mem_range, Bool.and_eq_true, decide_eq_true_iff, Bool.not_eq_true']
theorem frL_prefix (u n k : Nat) : frL u n <+: frL u (n + k) := by
  induction k with
  | zero => exact List.prefix_refl _
  | succ k ih =>
    refine ih.trans ?_
    rw [show n + (k + 1) = (n + k) + 1 from rfl, frL_succ]
    split
    · exact List.prefix_append _ _
    · exact List.prefix_refl _
theorem frL_take {u n : Nat} (h : n ≤ 32) : frL u n = (freeL u).take (frL u n).length := by
  have := frL_prefix u n (32 - n)
  rw [show n + (32 - n) = 32 from by omega] at this
  obtain ⟨t, ht⟩ := this
  unfold freeL
  rw [← ht, List.take_left']
  rfl
theorem freeL_good (u : Nat) : Good (freeL u) := ⟨List.Pairwise.filter _ List.nodup_range, fun b hb => by
  have := frL_mem.1 hb
  exact ⟨this.2.1, this.1⟩⟩
theorem freeL_rise (u : Nat) : (freeL u).Pairwise (· < ·) := List.Pairwise.filter _ List.pairwise_lt_range
theorem Good.lt {l : List Nat} (h : Good l) : setN l < 4294967296 := setN_lt fun b hb => (h.2 b hb).2
theorem Good.take {l : List Nat} (h : Good l) (n : Nat) : Good (l.take n) := ⟨h.1.sublist (List.take_sublist _ _), fun b hb => h.2 b (List.mem_of_mem_take hb)⟩
theorem Good.drop {l : List Nat} (h : Good l) (n : Nat) : Good (l.drop n) := ⟨h.1.sublist (List.drop_sublist _ _), fun b hb => h.2 b (List.mem_of_mem_drop hb)⟩
theorem files_bit (i : Nat) : (4294966784 : Nat).testBit i = (decide (9 ≤ i) && decide (i < 32)) := by
  have e : (4294966784 : Nat) = (2 ^ 23 - 1) * 2 ^ 9 := by decide
  rw [e, Nat.testBit_mul_two_pow, Nat.testBit_two_pow_sub_one]
  congr 1
  rw [Bool.eq_iff_iff, decide_eq_true_iff, decide_eq_true_iff]
  omega
theorem files_free (u : Nat) : andN 4294966784 u = setN (freeL u) := bit_eq fun i => by
  rw [andN_bit, files_bit, setN_bit, Bool.eq_iff_iff]
  simp only [Bool.and_eq_true, decide_eq_true_iff, Bool.not_eq_true', freeL, frL_mem]
  constructor
  · rintro ⟨⟨a, b, c⟩, d⟩; exact ⟨a, b, d⟩
  · rintro ⟨a, b, d⟩; exact ⟨⟨a, b, a⟩, d⟩
theorem files_and (u : Nat) (hu : u < 4294967296) : bits .andNot .u32 (4294966784 : Int) (u : Int) = (setN (freeL u) : Int) := by
  have := andN_int 4294966784 u (by decide) hu
  rw [files_free, show ((4294966784 : Nat) : Int) = 4294966784 from rfl] at this
  exact this
theorem count_good {l : List Nat} (h : Good l) : Sp.popN 32 (setN l) = l.length := by
  rw [Sp.popN_filter]
  have : ((List.range 32).filter fun i => (setN l).testBit i).Perm l := by
    rw [List.perm_iff_count]
    intro a
    rw [List.Nodup.count (List.Pairwise.filter _ List.nodup_range), List.Nodup.count h.1]
    have : (a ∈ (List.range 32).filter fun i => (setN l).testBit i) ↔ a ∈ l := by
      rw [List.mem_filter, List.mem_range, setN_bit, decide_eq_true_iff]
      exact ⟨fun x => x.2, fun x => ⟨(h.2 a x).2, x⟩⟩
    simp only [this]
  exact this.length_eq
/-- Behind the first k of them. -/
theorem freeL_or (u : Nat) (k : Nat) : freeL (u ||| setN ((freeL u).take k)) = (freeL u).drop k := by
  have h1 : freeL (u ||| setN ((freeL u).take k)) = (freeL u).filter (fun b => !decide (b ∈ (freeL u).take k)) := by
    conv => rhs; arg 2; rw [freeL, frL]
    rw [List.filter_filter]
    unfold freeL frL
    refine List.filter_congr fun b _ => ?_
    unfold free
    rw [Nat.testBit_or, setN_bit, Bool.not_or, ← Bool.and_assoc, Bool.and_comm (!decide _)]
  rw [h1]
  generalize hF : freeL u = F
  have hn : F.Nodup := hF ▸ (freeL_good u).1
  conv => lhs; rw [← List.take_append_drop k F]
  rw [List.filter_append]
  have e1 : (F.take k).filter (fun b => !decide (b ∈ (F.take k ++ F.drop k).take k)) = [] := by
    rw [List.filter_eq_nil_iff]
    intro b hb
    rw [List.take_append_drop]
    simp [hb]
  have e2 : (F.drop k).filter (fun b => !decide (b ∈ (F.take k ++ F.drop k).take k)) = F.drop k := by
    rw [List.filter_eq_self]
    intro b hb
    rw [List.take_append_drop]
    have hd : (F.take k ++ F.drop k).Nodup := by rw [List.take_append_drop]; exact hn
    have := (List.nodup_append.1 hd).2.2
    simp only [Bool.not_eq_true', decide_eq_false_iff_not]
    exact fun h => this b h b hb rfl
  rw [e1, e2, List.nil_append]
theorem ctz_bits {x : Nat} (h0 : x ≠ 0) (hx : x < 4294967296) : Lib.ctz 32 x < 32 ∧ x.testBit (Lib.ctz 32 x) = true ∧ ∀ i, i < Lib.ctz 32 x → x.testBit i = false := by
  obtain ⟨m, hm, ht⟩ := Lib.ctzFrom_spec 32 x (Nat.pos_of_ne_zero h0) (by simpa using hx)
  have e : Lib.ctz 32 x = Lib.ctzFrom 32 x := by simp [Lib.ctz, h0]
  rw [e]
  generalize Lib.ctzFrom 32 x = t at *
  have hb : ∀ i, x.testBit i = (decide (t ≤ i) && (2 * m + 1).testBit (i - t)) := fun i => by rw [hm, Nat.mul_comm, Nat.testBit_mul_two_pow]
  refine ⟨ht, ?_, fun i hi => ?_⟩
  · rw [hb]; simp
  · rw [hb]; simp; omega
/-- The lowest one that is free behind the first k. -/
theorem lowest (u k : Nat) (h : k < (freeL u).length) : setN (freeL (u ||| setN ((freeL u).take k))) ≠ 0 ∧ Lib.ctz 32 (setN (freeL (u ||| setN ((freeL u).take k)))) = (freeL u)[k] := by
  rw [freeL_or]
  have hr := freeL_rise u
  have hg := (freeL_good u).drop k
  generalize freeL u = F at *
  rw [List.drop_eq_getElem_cons h] at hg ⊢
  have hne : setN (F[k] :: F.drop (k + 1)) ≠ 0 := fun e => by
    have := setN_bit (F[k] :: F.drop (k + 1)) F[k]
    rw [e, Nat.zero_testBit, decide_eq_true List.mem_cons_self] at this
    cases this
  refine ⟨hne, ?_⟩
  obtain ⟨_, h2, h3⟩ := ctz_bits hne hg.lt
  rw [setN_bit, decide_eq_true_iff] at h2
  generalize Lib.ctz 32 (setN (F[k] :: F.drop (k + 1))) = t at *
  have hle : F[k] ≤ t := by
    rcases List.mem_cons.1 h2 with e | e
    · omega
    · obtain ⟨j, hj, rfl⟩ := List.getElem_of_mem e
      rw [List.getElem_drop]
      exact Nat.le_of_lt (List.pairwise_iff_getElem.1 hr _ _ _ _ (by omega))
  rcases Nat.eq_or_lt_of_le hle with e | e
  · exact e.symm
  · have := h3 _ e
    rw [setN_bit, decide_eq_true List.mem_cons_self] at this
    cases this
theorem or_next (u k : Nat) (h : k < (freeL u).length) : (u ||| setN ((freeL u).take k)) ||| 2 ^ (freeL u)[k] = u ||| setN ((freeL u).take (k + 1)) := by
  rw [List.take_succ_eq_append_getElem h, setN_snoc, Nat.or_assoc]
theorem andN_next (u : Nat) (s : List Nat) (b : Nat) : andN (andN u (setN s)) (2 ^ b) = andN u (setN (s ++ [b])) := bit_eq fun i => by
  rw [andN_bit, andN_bit, andN_bit, setN_snoc, Nat.testBit_or]
  cases decide (i < 32) <;> cases u.testBit i <;> cases (setN s).testBit i <;> cases (2 ^ b).testBit i <;> rfl
theorem andN_none {u : Nat} (h : u < 4294967296) : andN u (setN []) = u := bit_eq fun i => by
  rw [andN_bit, setN_bit]
  by_cases hi : i < 32
  · simp [hi]
  · rw [bit_lt h (by omega)]; simp
/-- What was not there goes again. -/
theorem andN_or {u : Nat} (h : u < 4294967296) (l : List Nat) (hl : ∀ b ∈ l, u.testBit b = false) : andN (u ||| setN l) (setN l) = u := bit_eq fun i => by
  rw [andN_bit, Nat.testBit_or, setN_bit]
  by_cases hm : i ∈ l
  · rw [hl i hm]; simp [hm]
  · by_cases hi : i < 32
    · simp [hi, hm]
    · rw [bit_lt h (by omega)]; simp [hm]

/-! ### the answers -/
/-- The blocks that a list tells; none where it may not be. -/
def blkO (l : List EX) : List Nat := if ok l then blkL l else []
theorem blkO_good (l : List EX) : Good (blkO l) := by
  unfold blkO
  split
  · rename_i h; exact ok_good l h
  · exact good_nil
def growV (l : List EX) (u : Nat) (n : Int) : List EX × Nat × Int :=
  if ok l = false ∨ n < 0 then ([], 0, 1) else if ((freeL u).length : Int) < n then ([], 0, 50) else (extV l ((freeL u).take n.toNat), u ||| setN ((freeL u).take n.toNat), 0)
def shrinkV (l : List EX) (u : Nat) (n : Int) : List EX × Nat × Int :=
  if ok l = false ∨ n < 0 ∨ ((blkL l).length : Int) < n then ([], 0, 1) else (extV [] ((blkL l).take n.toNat), andN u (setN ((blkL l).drop n.toNat)), 0)
theorem growV_lt (l : List EX) (u : Nat) (n : Int) (hu : u < 4294967296) : (growV l u n).2.1 < 4294967296 := by
  unfold growV
  split
  · decide
  · split
    · decide
    · exact or_lt hu ((freeL_good u).take _).lt
/-- What has grown by some blocks, and is shrunk by as many. -/
theorem grow_back (l : List EX) (u : Nat) (n : Int) (hu : u < 4294967296) (h : ok l = true) (hn : 0 ≤ n) (hf : n ≤ ((freeL (u ||| setN (blkL l))).length : Int)) :
    ok (growV l (u ||| setN (blkL l)) n).1 = true ∧ ((blkL (growV l (u ||| setN (blkL l)) n).1).length : Int) = (blkL l).length + n ∧
    shrinkV (growV l (u ||| setN (blkL l)) n).1 (growV l (u ||| setN (blkL l)) n).2.1 ((blkL l).length : Int) = (l, u ||| setN (blkL l), 0) := by
  have hv : u ||| setN (blkL l) < 4294967296 := or_lt hu (ok_good l h).lt
  have hb : ∀ b ∈ blkL l, (u ||| setN (blkL l)).testBit b = true := fun b hb => by rw [Nat.testBit_or, setN_bit]; simp [hb]
  generalize u ||| setN (blkL l) = v at *
  have hg := (freeL_good v).take n.toNat
  have hz : ∀ b ∈ (freeL v).take n.toNat, v.testBit b = false := fun b hb => (frL_mem.1 (List.mem_of_mem_take hb)).2.2
  have hlen : ((freeL v).take n.toNat).length = n.toNat := by rw [List.length_take]; omega
  have e : growV l v n = (extV l ((freeL v).take n.toNat), v ||| setN ((freeL v).take n.toNat), 0) := by
    unfold growV
    rw [if_neg (by rw [h]; rintro (h | h); cases h; omega), if_neg (by omega)]
  rw [e]
  generalize (freeL v).take n.toNat = T at *
  have hgood : Good (blkL l ++ T) := ⟨List.nodup_append.2 ⟨(ok_good l h).1, hg.1, fun a ha b hb' e => by
    subst e
    have h1 := hb a ha
    rw [hz a hb'] at h1
    cases h1⟩, fun b hb' => by
      rcases List.mem_append.1 hb' with h1 | h1
      · exact (ok_good l h).2 b h1
      · exact hg.2 b h1⟩
  obtain ⟨h1, h2⟩ := extV_ok T l h hgood
  refine ⟨h1, by rw [h2, List.length_append, hlen]; omega, ?_⟩
  unfold shrinkV
  rw [if_neg (by
    rw [h1, h2, List.length_append]
    rintro (h | h | h)
    · cases h
    · omega
    · omega), h2, Int.toNat_natCast, List.take_left', List.drop_left', ext_blk h, andN_or hv T hz] <;> rfl
end Go.Proofs.Ythbkjndnconakaa.Ex
