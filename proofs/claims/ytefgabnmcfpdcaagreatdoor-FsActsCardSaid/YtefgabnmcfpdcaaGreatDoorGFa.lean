/-
  Merged by wip/tools/merge.py: ExPlain ExBits Ex ExRef
-/
import Derived.WalkKit
import Derived.Lib.TrailingZeros
import Derived.Test.YtefgabnmcfpdcaaGreatDoorGSp
import Derived.Test.YtefgabnmcfpdcaaGreatDoorRows
import Derived.Test.YtefgabnmcfpdcaaGreatDoorGA
import Derived.Lib.Tables
import Derived.Shelf.Spec.TrailingZeros
import Derived.StillTailTactics
import Derived.Deep.QuietTactic
import Derived.BigQuiet
import Derived.WalkSmall
import Derived.Lib.Hide
import Derived.Deep.Slices
namespace Go.Proofs.YtefgabnmcfpdcaaGreatDoor.Ex
abbrev EX := Int × Int
def exB (x : EX) : List Nat := (List.range x.2.toNat).map (x.1.toNat + ·)
def blkL (l : List EX) : List Nat := l.flatMap exB
def ins (x : EX) : Prop := 9 ≤ x.1 ∧ 1 ≤ x.2 ∧ x.2 ≤ 32 - x.1
instance (x : EX) : Decidable (ins x) := by unfold ins; infer_instance
def okL : List Nat → Int → List EX → Bool
 | _, _, [] => true
 | out, e, x :: r => decide (ins x) && (decide (x.1 ≠ e) && (decide (∀ b ∈ exB x, b ∉ out) && okL (out ++ exB x) (x.1 + x.2) r))
def ok (l : List EX) : Bool := okL [] 0 l
def endL (l : List EX) : Int := match l.getLast? with
 | some x => x.1 + x.2
 | none => 0
theorem endL_snoc (q : List EX) (x : EX) : endL (q ++ [x]) = x.1 + x.2 := by simp [endL]
theorem exB_len (x : EX) : (exB x).length = x.2.toNat := by simp [exB]
theorem exB_mem {x : EX} {b : Nat} : b ∈ exB x ↔ x.1.toNat ≤ b ∧ b < x.1.toNat + x.2.toNat := by
 unfold exB
 rw [List.mem_map]
 constructor
 ·rintro ⟨a, ha, rfl⟩
  rw [List.mem_range] at ha
  omega
 ·intro h
  exact ⟨b - x.1.toNat, by rw [List.mem_range]; omega, by omega⟩
theorem exB_at (x : EX) (k : Nat) (h : k < (exB x).length) : (exB x)[k] = x.1.toNat + k := by simp [exB]
theorem exB_nodup (x : EX) : (exB x).Nodup := by
 unfold exB
 exact List.Pairwise.map _ (fun a b h => by omega) (List.nodup_range (n := x.2.toNat))
set_option maxRecDepth 100000 in
theorem exB_more (s : Int) (n : Int) (hs : 0 ≤ s) (hn : 0 ≤ n) : exB (s, n + 1) = exB (s, n) ++ [(s + n).toNat] := by
 unfold exB
 have e : (s, n + 1).2.toNat = n.toNat + 1 := by show (n + 1).toNat = _; omega
 rw [e, List.range_succ, List.map_append]
 simp
 omega
theorem blkL_append (a b : List EX) : blkL (a ++ b) = blkL a ++ blkL b := by simp [blkL]
theorem blkL_one (x : EX) : blkL [x] = exB x := by simp [blkL]
theorem blkL_cons (x : EX) (r : List EX) : blkL (x :: r) = exB x ++ blkL r := by simp [blkL]
theorem okL_cons (out : List Nat) (e : Int) (x : EX) (r : List EX) : okL out e (x :: r) = true ↔ ins x ∧ x.1 ≠ e ∧ (∀ b ∈ exB x, b ∉ out) ∧ okL (out ++ exB x) (x.1 + x.2) r = true := by
 rw [okL, Bool.and_eq_true, Bool.and_eq_true, Bool.and_eq_true, decide_eq_true_iff, decide_eq_true_iff, decide_eq_true_iff]
theorem okL_step (out : List Nat) (e : Int) {l : List EX} {x : EX} {r : List EX} (h : l = x :: r) : okL out e l = (decide (ins x) && (decide (x.1 ≠ e) && (decide (∀ b ∈ exB x, b ∉ out) && okL (out ++ exB x) (x.1 + x.2) r))) := by
 rw [h, okL]
theorem okL_snoc : ∀ (q p : List EX) (x : EX), okL (blkL p) (endL p) (q ++ [x]) = true ↔ okL (blkL p) (endL p) q = true ∧ ins x ∧ x.1 ≠ endL (p ++ q) ∧ ∀ b ∈ exB x, b ∉ blkL (p ++ q)
 | [], p, x => by
  rw [List.nil_append, okL_cons, List.append_nil]
  simp [okL]
 | y :: r, p, x => by
  have ih := okL_snoc r (p ++ [y]) x
  rw [endL_snoc, blkL_append, blkL_one, List.append_assoc, List.singleton_append] at ih
  rw [List.cons_append, okL_cons, okL_cons, ih]
  constructor
  ·rintro ⟨a, b, c, d, e, f, g⟩
   exact ⟨⟨a, b, c, d⟩, e, f, g⟩
  ·rintro ⟨⟨a, b, c, d⟩, e, f, g⟩
   exact ⟨a, b, c, d, e, f, g⟩
theorem ok_snoc (q : List EX) (x : EX) : ok (q ++ [x]) = true ↔ ok q = true ∧ ins x ∧ x.1 ≠ endL q ∧ ∀ b ∈ exB x, b ∉ blkL q := okL_snoc q [] x
theorem snoc_ind {α : Type} {M : List α → Prop} (h0 : M []) (h1 : ∀ q x, M q → M (q ++ [x])) : ∀ l, M l := fun l => by
 have : ∀ n (l : List α), l.length = n → M l := by
  intro n
  induction n with
  | zero => intro l hl; rw [List.length_eq_zero_iff.1 hl]; exact h0
  | succ n ih =>
   intro l hl
   rcases List.eq_nil_or_concat l with rfl | ⟨q, y, rfl⟩
   ·exact h0
   ·rw [List.concat_eq_append] at hl ⊢
    exact h1 q y (ih q (by simpa using hl))
 exact this _ l rfl
def Good (out : List Nat) : Prop := out.Nodup ∧ ∀ b ∈ out, 9 ≤ b ∧ b < 32
theorem ins_mem {x : EX} (h : ins x) {b : Nat} (hb : b ∈ exB x) : 9 ≤ b ∧ b < 32 := by
 rw [exB_mem] at hb
 unfold ins at h
 omega
theorem Good.add {out : List Nat} {x : EX} (h : Good out) (hx : ins x) (hd : ∀ b ∈ exB x, b ∉ out) : Good (out ++ exB x) := by
 refine ⟨List.nodup_append.2 ⟨h.1, exB_nodup x, fun a ha b hb e => hd b hb (e ▸ ha)⟩, fun b hb => ?_⟩
 rcases List.mem_append.1 hb with h1 | h1
 ·exact h.2 b h1
 ·exact ins_mem hx h1
theorem good_nil : Good [] := ⟨List.nodup_nil, fun b hb => by cases hb⟩
theorem ok_good : ∀ l, ok l = true → Good (blkL l) := snoc_ind (fun _ => good_nil) fun q x ih h => by
 obtain ⟨h1, h2, _, h4⟩ := (ok_snoc q x).1 h
 rw [blkL_append, blkL_one]
 exact (ih h1).add h2 h4
theorem nodup_len : ∀ (n : Nat) (l : List Nat), l.Nodup → (∀ b ∈ l, b < n) → l.length ≤ n
 | 0, l, _, h => by
  cases l with
  | nil => simp
  | cons x r => have := h x (by simp); omega
 | n + 1, l, hn, h => by
  have := nodup_len n (l.erase n) (hn.erase n) (fun b hb => by
   have h1 := h b (List.mem_of_mem_erase hb)
   have h2 : b ≠ n := fun e => by subst e; exact (hn.not_mem_erase) hb
   omega)
  have h3 := List.length_erase (a := n) (l := l)
  split at h3 <;> omega
theorem Good.len {out : List Nat} (h : Good out) : out.length ≤ 23 := by
 have := nodup_len 23 (out.map (· - 9)) (by
  refine List.Pairwise.imp_of_mem (R := fun a b => a ≠ b) ?_ ?_
  ·intro a b _ _ h; exact h
  ·rw [List.pairwise_map]
   refine h.1.imp_of_mem ?_
   intro a b ha hb hab e
   have := h.2 a ha
   have := h.2 b hb
   omega) (fun b hb => by
  obtain ⟨a, ha, rfl⟩ := List.mem_map.1 hb
  have := h.2 a ha
  omega)
 simpa using this
def withV (l : List EX) (b : Nat) : List EX := match l.getLast? with
 | some x => if x.1 + x.2 = (b : Int) then l.dropLast ++ [(x.1, x.2 + 1)] else l ++ [((b : Int), 1)]
 | none => [((b : Int), 1)]
theorem withV_nil (b : Nat) : withV [] b = [((b : Int), 1)] := rfl
theorem withV_snoc (q : List EX) (x : EX) (b : Nat) : withV (q ++ [x]) b = if x.1 + x.2 = (b : Int) then q ++ [(x.1, x.2 + 1)] else q ++ [x] ++ [((b : Int), 1)] := by simp [withV]
def extV (l : List EX) (bs : List Nat) : List EX := bs.foldl withV l
theorem extV_append (l : List EX) (a b : List Nat) : extV l (a ++ b) = extV (extV l a) b := by simp [extV]
theorem extV_snoc (l : List EX) (a : List Nat) (b : Nat) : extV l (a ++ [b]) = withV (extV l a) b := by simp [extV]
theorem extV_run (q : List EX) (s n : Int) (hs : 0 ≤ s) (hn : 1 ≤ n) (he : s ≠ endL q ∨ q = []) : extV q (exB (s, n)) = q ++ [(s, n)] := by
 obtain ⟨k, rfl⟩ : ∃ k : Nat, n = (k : Int) + 1 := ⟨(n - 1).toNat, by omega⟩
 clear hn
 induction k with
 | zero =>
  rw [exB_more s _ hs (by omega), extV_append]
  have e : exB (s, ((0 : Nat) : Int)) = [] := rfl
  rw [e]
  show withV q (s + ((0 : Nat) : Int)).toNat = _
  have e2 : ((s + ((0 : Nat) : Int)).toNat : Int) = s := by omega
  rcases List.eq_nil_or_concat q with rfl | ⟨r, y, rfl⟩
  ·rw [withV_nil, e2]; simp
  ·rw [List.concat_eq_append] at he ⊢
   rw [withV_snoc, if_neg (by
    rw [endL_snoc] at he
    rcases he with he | he
    ·omega
    ·simp at he), e2]
   simp
 | succ k ih =>
  rw [exB_more s _ hs (by omega), extV_append, show ((k + 1 : Nat) : Int) = (k : Int) + 1 from by omega, ih]
  show withV _ _ = _
  rw [withV_snoc, if_pos (by show s + ((k : Int) + 1) = _; omega)]
theorem extV_blk : ∀ (l p : List EX) (out : List Nat), okL out (endL p) l = true → extV p (blkL l) = p ++ l
 | [], p, out, _ => by simp [blkL, extV]
 | x :: r, p, out, h => by
  obtain ⟨h1, h2, _, h4⟩ := (okL_cons _ _ _ _).1 h
  rw [blkL_cons, extV_append]
  have e : extV p (exB x) = p ++ [x] := extV_run p x.1 x.2 (by unfold ins at h1; omega) h1.2.1 (.inl h2)
  rw [e, extV_blk r (p ++ [x]) (out ++ exB x) (by rw [endL_snoc]; exact h4)]
  simp
theorem ext_blk {l : List EX} (h : ok l = true) : extV [] (blkL l) = l := extV_blk l [] [] h
theorem withV_ok {p : List EX} (h : ok p = true) {b : Nat} (h1 : 9 ≤ b) (h2 : b < 32) (hb : b ∉ blkL p) : ok (withV p b) = true ∧ blkL (withV p b) = blkL p ++ [b] := by
 have eb : exB ((b : Int), 1) = [b] := by simp [exB]
 rcases List.eq_nil_or_concat p with rfl | ⟨q, x, rfl⟩
 ·rw [withV_nil]
  refine ⟨(ok_snoc [] _).2 ⟨rfl, ⟨by show (9 : Int) ≤ b; omega, by show (1 : Int) ≤ 1; omega, by show (1 : Int) ≤ 32 - b; omega⟩, by show (b : Int) ≠ 0; omega, fun c _ h => by cases h⟩, ?_⟩
  rw [blkL_one, eb]
  rfl
 ·rw [List.concat_eq_append] at h hb ⊢
  obtain ⟨g1, g2, g3, g4⟩ := (ok_snoc q x).1 h
  have g2' := g2
  unfold ins at g2'
  rw [withV_snoc]
  split
  ·rename_i e
   have em := exB_more x.1 x.2 (by omega) (by omega)
   have et : (x.1 + x.2).toNat = b := by omega
   rw [et] at em
   rw [blkL_append, blkL_append, blkL_one, blkL_one, em, List.append_assoc]
   refine ⟨(ok_snoc q _).2 ⟨g1, ⟨g2'.1, by show 1 ≤ x.2 + 1; omega, by show x.2 + 1 ≤ 32 - x.1; omega⟩, g3, fun c hc => ?_⟩, rfl⟩
   rw [em] at hc
   rcases List.mem_append.1 hc with hc | hc
   ·exact g4 c hc
   ·simp at hc
    subst hc
    exact fun hm => hb (by rw [blkL_append]; exact List.mem_append.2 (.inl hm))
  ·rename_i e
   rw [blkL_append (q ++ [x]), blkL_one, eb]
   refine ⟨(ok_snoc _ _).2 ⟨h, ⟨by show (9 : Int) ≤ b; omega, by show (1 : Int) ≤ 1; omega, by show (1 : Int) ≤ 32 - b; omega⟩, by rw [endL_snoc]; show (b : Int) ≠ _; omega, fun c hc => ?_⟩, rfl⟩
   rw [eb] at hc
   simp at hc
   subst hc
   exact hb
theorem extV_ok : ∀ (bs : List Nat) (p : List EX), ok p = true → Good (blkL p ++ bs) → ok (extV p bs) = true ∧ blkL (extV p bs) = blkL p ++ bs
 | [], p, h, _ => ⟨h, by simp [extV]⟩
 | b :: r, p, h, hg => by
  have hm := hg.2 b (by simp)
  have hn : b ∉ blkL p := fun hb => by
   have := (List.nodup_append.1 hg.1).2.2 b hb b (by simp)
   exact this rfl
  obtain ⟨h1, h2⟩ := withV_ok h hm.1 hm.2 hn
  have := extV_ok r (withV p b) h1 (by rw [h2, List.append_assoc]; exact hg)
  rw [h2, List.append_assoc] at this
  exact this
def setN (l : List Nat) : Nat := l.foldl (fun s b => s ||| 2 ^ b) 0
theorem setN_from (l : List Nat) (i : Nat) : ∀ s : Nat, (l.foldl (fun s b => s ||| 2 ^ b) s).testBit i = (s.testBit i || decide (i ∈ l)) := by
 induction l with
 | nil => intro s; simp
 | cons b r ih =>
  intro s
  rw [List.foldl_cons, ih, Nat.testBit_or, Nat.testBit_two_pow, Bool.or_assoc]
  congr 1
  by_cases e : i = b
  ·subst e; simp
  ·have : ¬ b = i := fun h => e h.symm
   simp [e, this]
theorem setN_bit (l : List Nat) (i : Nat) : (setN l).testBit i = decide (i ∈ l) := by
 unfold setN
 rw [setN_from]
 simp
theorem bit_eq {a b : Nat} (h : ∀ i, a.testBit i = b.testBit i) : a = b := Nat.eq_of_testBit_eq h
theorem setN_append (a b : List Nat) : setN (a ++ b) = setN a ||| setN b := bit_eq fun i => by
 rw [Nat.testBit_or, setN_bit, setN_bit, setN_bit]
 simp
theorem setN_one (b : Nat) : setN [b] = 2 ^ b := by simp [setN]
theorem setN_snoc (l : List Nat) (b : Nat) : setN (l ++ [b]) = setN l ||| 2 ^ b := by rw [setN_append, setN_one]
theorem lt_of_bits {a : Nat} (h : ∀ i, 32 ≤ i → a.testBit i = false) : a < 4294967296 := by
 have := Nat.lt_pow_two_of_testBit (n := 32) a h
 simpa using this
theorem setN_lt {l : List Nat} (h : ∀ b ∈ l, b < 32) : setN l < 4294967296 := lt_of_bits fun i hi => by
 rw [setN_bit, decide_eq_false_iff_not]
 intro hm
 have := h i hm
 omega
theorem bit_lt {a i : Nat} (h : a < 4294967296) (hi : 32 ≤ i) : a.testBit i = false :=
 Nat.testBit_lt_two_pow (Nat.lt_of_lt_of_le (show a < 2 ^ 32 by simpa using h) (Nat.pow_le_pow_right (by decide) hi))
theorem setN_ex (x : EX) : (2 ^ x.2.toNat - 1) * 2 ^ x.1.toNat = setN (exB x) := bit_eq fun i => by
 rw [setN_bit, Nat.testBit_mul_two_pow, Nat.testBit_two_pow_sub_one]
 rw [Bool.eq_iff_iff, Bool.and_eq_true, decide_eq_true_iff, decide_eq_true_iff, decide_eq_true_iff, exB_mem]
 omega
theorem and_setN (a b : List Nat) : setN a &&& setN b = 0 ↔ ∀ x ∈ b, x ∉ a := by
 constructor
 ·intro h x hx ha
  have := congrArg (·.testBit x) h
  simp [setN_bit, hx, ha] at this
 ·intro h
  refine bit_eq fun i => ?_
  rw [Nat.testBit_and, setN_bit, setN_bit]
  by_cases hb : i ∈ b
  ·simp [h i hb]
  ·simp [hb]
def andN (a b : Nat) : Nat := (BitVec.ofNat 32 a &&& ~~~ BitVec.ofNat 32 b).toNat
theorem andN_bit (a b i : Nat) : (andN a b).testBit i = (decide (i < 32) && a.testBit i && !b.testBit i) := by
 unfold andN
 rw [← BitVec.getLsbD, BitVec.getLsbD_and, BitVec.getLsbD_not, BitVec.getLsbD_ofNat, BitVec.getLsbD_ofNat]
 by_cases h : i < 32 <;> simp [h]
theorem andN_lt (a b : Nat) : andN a b < 4294967296 := lt_of_bits fun i hi => by
 rw [andN_bit]
 simp
 omega
theorem andN_int (a b : Nat) (_ha : a < 4294967296) (_hb : b < 4294967296) : bits .andNot .u32 (a : Int) (b : Int) = (andN a b : Int) := by
 have h1 : BitVec.ofInt 32 (a : Int) = BitVec.ofNat 32 a := BitVec.ofInt_natCast ..
 have h2 : BitVec.ofInt 32 (b : Int) = BitVec.ofNat 32 b := BitVec.ofInt_natCast ..
 show IntKind.u32.wrap ((BitVec.ofInt 32 (a : Int) &&& ~~~ BitVec.ofInt 32 (b : Int)).toNat : Int) = _
 rw [h1, h2]
 show IntKind.u32.wrap (andN a b : Int) = _
 have := andN_lt a b
 rw [IntKind.wrap_u32]
 omega
theorem andI (a b : Nat) (ha : a < 4294967296) (hb : b < 4294967296) : bits .and .u32 (a : Int) (b : Int) = ((a &&& b : Nat) : Int) := by
 have hx : a &&& b < 2 ^ 32 := Nat.and_lt_two_pow _ (by omega)
 have h1 : (BitVec.ofInt 32 (a : Int)).toNat = a := by
  rw [BitVec.ofInt_natCast, BitVec.toNat_ofNat]; exact Nat.mod_eq_of_lt (by omega)
 have h2 : (BitVec.ofInt 32 (b : Int)).toNat = b := by
  rw [BitVec.ofInt_natCast, BitVec.toNat_ofNat]; exact Nat.mod_eq_of_lt (by omega)
 show IntKind.u32.wrap ((BitVec.ofInt 32 (a : Int) &&& BitVec.ofInt 32 (b : Int)).toNat : Int) = _
 rw [BitVec.toNat_and, h1, h2, IntKind.wrap_u32]
 omega
theorem orI (a b : Nat) (ha : a < 4294967296) (hb : b < 4294967296) : bits .or .u32 (a : Int) (b : Int) = ((a ||| b : Nat) : Int) := by
 have hx : a ||| b < 2 ^ 32 := Nat.or_lt_two_pow (by omega) (by omega)
 have h1 : (BitVec.ofInt 32 (a : Int)).toNat = a := by
  rw [BitVec.ofInt_natCast, BitVec.toNat_ofNat]; exact Nat.mod_eq_of_lt (by omega)
 have h2 : (BitVec.ofInt 32 (b : Int)).toNat = b := by
  rw [BitVec.ofInt_natCast, BitVec.toNat_ofNat]; exact Nat.mod_eq_of_lt (by omega)
 show IntKind.u32.wrap ((BitVec.ofInt 32 (a : Int) ||| BitVec.ofInt 32 (b : Int)).toNat : Int) = _
 rw [BitVec.toNat_or, h1, h2, IntKind.wrap_u32]
 omega
theorem or_lt {a b : Nat} (ha : a < 4294967296) (hb : b < 4294967296) : a ||| b < 4294967296 := Nat.or_lt_two_pow (n := 32) (by omega) (by omega)
theorem pow_lt {b : Nat} (hb : b < 32) : (2 : Nat) ^ b < 4294967296 := by
 have : (2 : Nat) ^ b < 2 ^ 32 := Nat.pow_lt_pow_right (by decide) hb
 simpa using this
def free (u : Nat) (b : Nat) : Bool := decide (9 ≤ b) && !u.testBit b
def frL (u n : Nat) : List Nat := (List.range n).filter (free u)
def freeL (u : Nat) : List Nat := frL u 32
theorem frL_succ (u n : Nat) : frL u (n + 1) = if free u n then frL u n ++ [n] else frL u n := by
 unfold frL
 rw [List.range_succ, List.filter_append, List.filter_cons]
 split <;> simp
theorem frL_nine (u : Nat) : frL u 9 = [] := by
 unfold frL
 rw [List.filter_eq_nil_iff]
 intro b hb
 rw [List.mem_range] at hb
 unfold free
 simp
 omega
theorem frL_mem {u n b : Nat} : b ∈ frL u n ↔ b < n ∧ 9 ≤ b ∧ u.testBit b = false := by
 unfold frL free
 rw [List.mem_filter, List.mem_range, Bool.and_eq_true, decide_eq_true_iff, Bool.not_eq_true']
theorem frL_prefix (u n k : Nat) : frL u n <+: frL u (n + k) := by
 induction k with
 | zero => exact List.prefix_refl _
 | succ k ih =>
  refine ih.trans ?_
  rw [show n + (k + 1) = (n + k) + 1 from rfl, frL_succ]
  split
  ·exact List.prefix_append _ _
  ·exact List.prefix_refl _
theorem frL_take {u n : Nat} (h : n ≤ 32) : frL u n = (freeL u).take (frL u n).length := by
 have := frL_prefix u n (32 - n)
 rw [show n + (32 - n) = 32 from by omega] at this
 obtain ⟨t, ht⟩ := this
 unfold freeL
 rw [← ht, List.take_left']
 rfl
theorem freeL_good (u : Nat) : Good (freeL u) := ⟨List.Pairwise.filter _ List.nodup_range, fun b hb => by
 have := frL_mem.1 hb
 exact ⟨this.2.1, this.1⟩⟩
theorem freeL_rise (u : Nat) : (freeL u).Pairwise (· < ·) := List.Pairwise.filter _ List.pairwise_lt_range
theorem Good.lt {l : List Nat} (h : Good l) : setN l < 4294967296 := setN_lt fun b hb => (h.2 b hb).2
theorem Good.take {l : List Nat} (h : Good l) (n : Nat) : Good (l.take n) := ⟨h.1.sublist (List.take_sublist _ _), fun b hb => h.2 b (List.mem_of_mem_take hb)⟩
theorem Good.drop {l : List Nat} (h : Good l) (n : Nat) : Good (l.drop n) := ⟨h.1.sublist (List.drop_sublist _ _), fun b hb => h.2 b (List.mem_of_mem_drop hb)⟩
theorem files_bit (i : Nat) : (4294966784 : Nat).testBit i = (decide (9 ≤ i) && decide (i < 32)) := by
 have e : (4294966784 : Nat) = (2 ^ 23 - 1) * 2 ^ 9 := by decide
 rw [e, Nat.testBit_mul_two_pow, Nat.testBit_two_pow_sub_one]
 congr 1
 rw [Bool.eq_iff_iff, decide_eq_true_iff, decide_eq_true_iff]
 omega
theorem files_free (u : Nat) : andN 4294966784 u = setN (freeL u) := bit_eq fun i => by
 rw [andN_bit, files_bit, setN_bit, Bool.eq_iff_iff]
 simp only [Bool.and_eq_true, decide_eq_true_iff, Bool.not_eq_true', freeL, frL_mem]
 constructor
 ·rintro ⟨⟨a, b, c⟩, d⟩; exact ⟨a, b, d⟩
 ·rintro ⟨a, b, d⟩; exact ⟨⟨a, b, a⟩, d⟩
theorem files_and (u : Nat) (hu : u < 4294967296) : bits .andNot .u32 (4294966784 : Int) (u : Int) = (setN (freeL u) : Int) := by
 have := andN_int 4294966784 u (by decide) hu
 rw [files_free, show ((4294966784 : Nat) : Int) = 4294966784 from rfl] at this
 exact this
theorem count_good {l : List Nat} (h : Good l) : Sp.popN 32 (setN l) = l.length := by
 rw [Sp.popN_filter]
 have : ((List.range 32).filter fun i => (setN l).testBit i).Perm l := by
  rw [List.perm_iff_count]
  intro a
  rw [List.Nodup.count (List.Pairwise.filter _ List.nodup_range), List.Nodup.count h.1]
  have : (a ∈ (List.range 32).filter fun i => (setN l).testBit i) ↔ a ∈ l := by
   rw [List.mem_filter, List.mem_range, setN_bit, decide_eq_true_iff]
   exact ⟨fun x => x.2, fun x => ⟨(h.2 a x).2, x⟩⟩
  simp only [this]
 exact this.length_eq
theorem freeL_or (u : Nat) (k : Nat) : freeL (u ||| setN ((freeL u).take k)) = (freeL u).drop k := by
 have h1 : freeL (u ||| setN ((freeL u).take k)) = (freeL u).filter (fun b => !decide (b ∈ (freeL u).take k)) := by
  conv => rhs; arg 2; rw [freeL, frL]
  rw [List.filter_filter]
  unfold freeL frL
  refine List.filter_congr fun b _ => ?_
  unfold free
  rw [Nat.testBit_or, setN_bit, Bool.not_or, ← Bool.and_assoc, Bool.and_comm (!decide _)]
 rw [h1]
 generalize hF : freeL u = F
 have hn : F.Nodup := hF ▸ (freeL_good u).1
 conv => lhs; rw [← List.take_append_drop k F]
 rw [List.filter_append]
 have e1 : (F.take k).filter (fun b => !decide (b ∈ (F.take k ++ F.drop k).take k)) = [] := by
  rw [List.filter_eq_nil_iff]
  intro b hb
  rw [List.take_append_drop]
  simp [hb]
 have e2 : (F.drop k).filter (fun b => !decide (b ∈ (F.take k ++ F.drop k).take k)) = F.drop k := by
  rw [List.filter_eq_self]
  intro b hb
  rw [List.take_append_drop]
  have hd : (F.take k ++ F.drop k).Nodup := by rw [List.take_append_drop]; exact hn
  have := (List.nodup_append.1 hd).2.2
  simp only [Bool.not_eq_true', decide_eq_false_iff_not]
  exact fun h => this b h b hb rfl
 rw [e1, e2, List.nil_append]
theorem ctz_bits {x : Nat} (h0 : x ≠ 0) (hx : x < 4294967296) : Lib.ctz 32 x < 32 ∧ x.testBit (Lib.ctz 32 x) = true ∧ ∀ i, i < Lib.ctz 32 x → x.testBit i = false := by
 obtain ⟨m, hm, ht⟩ := Lib.ctzFrom_spec 32 x (Nat.pos_of_ne_zero h0) (by simpa using hx)
 have e : Lib.ctz 32 x = Lib.ctzFrom 32 x := by simp [Lib.ctz, h0]
 rw [e]
 generalize Lib.ctzFrom 32 x = t at *
 have hb : ∀ i, x.testBit i = (decide (t ≤ i) && (2 * m + 1).testBit (i - t)) := fun i => by rw [hm, Nat.mul_comm, Nat.testBit_mul_two_pow]
 refine ⟨ht, ?_, fun i hi => ?_⟩
 ·rw [hb]; simp
 ·rw [hb]; simp; omega
theorem lowest (u k : Nat) (h : k < (freeL u).length) : setN (freeL (u ||| setN ((freeL u).take k))) ≠ 0 ∧ Lib.ctz 32 (setN (freeL (u ||| setN ((freeL u).take k)))) = (freeL u)[k] := by
 rw [freeL_or]
 have hr := freeL_rise u
 have hg := (freeL_good u).drop k
 generalize freeL u = F at *
 rw [List.drop_eq_getElem_cons h] at hg ⊢
 have hne : setN (F[k] :: F.drop (k + 1)) ≠ 0 := fun e => by
  have := setN_bit (F[k] :: F.drop (k + 1)) F[k]
  rw [e, Nat.zero_testBit, decide_eq_true List.mem_cons_self] at this
  cases this
 refine ⟨hne, ?_⟩
 obtain ⟨_, h2, h3⟩ := ctz_bits hne hg.lt
 rw [setN_bit, decide_eq_true_iff] at h2
 generalize Lib.ctz 32 (setN (F[k] :: F.drop (k + 1))) = t at *
 have hle : F[k] ≤ t := by
  rcases List.mem_cons.1 h2 with e | e
  ·omega
  ·obtain ⟨j, hj, rfl⟩ := List.getElem_of_mem e
   rw [List.getElem_drop]
   exact Nat.le_of_lt (List.pairwise_iff_getElem.1 hr _ _ _ _ (by omega))
 rcases Nat.eq_or_lt_of_le hle with e | e
 ·exact e.symm
 ·have := h3 _ e
  rw [setN_bit, decide_eq_true List.mem_cons_self] at this
  cases this
theorem or_next (u k : Nat) (h : k < (freeL u).length) : (u ||| setN ((freeL u).take k)) ||| 2 ^ (freeL u)[k] = u ||| setN ((freeL u).take (k + 1)) := by
 rw [List.take_succ_eq_append_getElem h, setN_snoc, Nat.or_assoc]
theorem andN_next (u : Nat) (s : List Nat) (b : Nat) : andN (andN u (setN s)) (2 ^ b) = andN u (setN (s ++ [b])) := bit_eq fun i => by
 rw [andN_bit, andN_bit, andN_bit, setN_snoc, Nat.testBit_or]
 cases decide (i < 32) <;> cases u.testBit i <;> cases (setN s).testBit i <;> cases (2 ^ b).testBit i <;> rfl
theorem andN_none {u : Nat} (h : u < 4294967296) : andN u (setN []) = u := bit_eq fun i => by
 rw [andN_bit, setN_bit]
 by_cases hi : i < 32
 ·simp [hi]
 ·rw [bit_lt h (by omega)]; simp
def blkO (l : List EX) : List Nat := if ok l then blkL l else []
theorem blkO_good (l : List EX) : Good (blkO l) := by
 unfold blkO
 split
 ·rename_i h; exact ok_good l h
 ·exact good_nil
def growV (l : List EX) (u : Nat) (n : Int) : List EX × Nat × Int :=
 if ok l = false ∨ n < 0 then ([], 0, 1) else if ((freeL u).length : Int) < n then ([], 0, 50) else (extV l ((freeL u).take n.toNat), u ||| setN ((freeL u).take n.toNat), 0)
def shrinkV (l : List EX) (u : Nat) (n : Int) : List EX × Nat × Int :=
 if ok l = false ∨ n < 0 ∨ ((blkL l).length : Int) < n then ([], 0, 1) else (extV [] ((blkL l).take n.toNat), andN u (setN ((blkL l).drop n.toNat)), 0)
end Go.Proofs.YtefgabnmcfpdcaaGreatDoor.Ex
namespace Go.Proofs.YtefgabnmcfpdcaaGreatDoor.Ex
open Go.RowKit
def Tab (w : World) : Prop := TabAt 0 Lib.deBruijn32tab w
theorem Tab.keep {w w' : World} (h : Tab w) (hb : w'.heap[0]? = w.heap[0]?) : Tab w' := fun j hj => (World.cell?_of_block (w := w) (w' := w') (a := ⟨0, j, none⟩) hb).trans (h j hj)
theorem Tab.pos {w : World} (h : Tab w) : 0 < w.heap.size := World.block_lt_of_cell? _ _ (h 0 (by decide))
theorem Tab.below {w w' : World} (h : Tab w) {B : Nat} (hb : Below B w w') (hB : 0 < B) : Tab w' := h.keep (hb.block 0 hB)
set_option maxRecDepth 100000 in
set_option maxHeartbeats 400000 in
theorem tz_core (x k idx : Nat) (w : World) (hx0 : ((x : Int) == 0) = false)
  (key : bits BinOp.and IntKind.u32 (x : Int) (-(x : Int) % 4294967296) * 125613361 % 4294967296 / 134217728 = (idx : Int))
  (hi : idx < 32) (hk : k < 32) (hcell : w.cell? ⟨0, idx, none⟩ = some (.int .u8 (k : Int))) :
  Calls Tryz.prog 182 #[.int .u32 x] w fun e w' => e = .returned (.int .i64 k) ∧ w = w' := by
 go_enter Tryz.func182, Tryz.ntmps182
 go_wp2_with (simp only [key])
 go_ret
 exact ⟨rfl, rfl⟩
theorem tz_any (x : Nat) (hx : x < 4294967296) (h0 : x ≠ 0) (w : World) (hT : Tab w) :
  Calls Tryz.prog 182 #[.int .u32 x] w fun e w' => e = .returned (.int .i64 (Lib.ctz 32 x : Nat)) ∧ w = w' := by
 obtain ⟨hlow, hk⟩ := Lib.lowest_bit 32 x h0 (by simpa using hx)
 obtain ⟨hi, htab⟩ := Lib.deBruijn32_at _ hk
 have hcell := hT _ hi
 rw [htab] at hcell
 have key := tz32_key x _ hx h0 (by simpa using hlow)
 exact tz_core x _ _ w (by simp; omega) key hi hk hcell
theorem pop8_eq : ∀ n : Fin 256, Lib.pop8 (n.val : Int) = (Sp.popN 8 n.val : Int) := by decide +kernel
theorem pop8_nat (n : Nat) (h : n < 256) : Lib.pop8 (n : Int) = (Sp.popN 8 n : Int) := pop8_eq ⟨n, h⟩
theorem ones_sum (x : Nat) : Sp.popN 8 (x / 16777216) + Sp.popN 8 (x / 65536 % 256) + Sp.popN 8 (x / 256 % 256) + Sp.popN 8 (x % 256) = Sp.popN 32 x := by
 have e1 := Sp.popN_bytes 24 x
 have e2 := Sp.popN_bytes 16 (x / 256)
 have e3 := Sp.popN_bytes 8 (x / 256 / 256)
 have e4 : x / 256 / 256 = x / 65536 := by omega
 have e5 : x / 65536 / 256 = x / 16777216 := by omega
 rw [e4] at e2 e3
 rw [e5] at e3
 simp only [Nat.reduceAdd] at e1 e2 e3
 omega
theorem foldPop : (⟨(([0, 1, 1, 2, 1, 2, 2, 3, 1, 2, 2, 3, 2, 3, 3, 4, 1, 2, 2, 3, 2, 3, 3, 4, 2, 3, 3, 4, 3, 4, 4, 5, 1, 2, 2, 3, 2, 3, 3, 4, 2, 3, 3, 4, 3, 4, 4, 5, 2, 3, 3, 4, 3, 4, 4, 5, 3, 4, 4, 5, 4, 5, 5, 6].append
 [1, 2, 2, 3, 2, 3, 3, 4, 2, 3, 3, 4, 3, 4, 4, 5, 2, 3, 3, 4, 3, 4, 4, 5, 3, 4, 4, 5, 4, 5, 5, 6, 2, 3, 3, 4, 3, 4, 4, 5, 3, 4, 4, 5, 4, 5, 5, 6, 3, 4, 4, 5, 4, 5, 5, 6, 4, 5, 5, 6, 5, 6, 6, 7]).append
 ([1, 2, 2, 3, 2, 3, 3, 4, 2, 3, 3, 4, 3, 4, 4, 5, 2, 3, 3, 4, 3, 4, 4, 5, 3, 4, 4, 5, 4, 5, 5, 6, 2, 3, 3, 4, 3, 4, 4, 5, 3, 4, 4, 5, 4, 5, 5, 6, 3, 4, 4, 5, 4, 5, 5, 6, 4, 5, 5, 6, 5, 6, 6, 7].append
 [2, 3, 3, 4, 3, 4, 4, 5, 3, 4, 4, 5, 4, 5, 5, 6, 3, 4, 4, 5, 4, 5, 5, 6, 4, 5, 5, 6, 5, 6, 6, 7, 3, 4, 4, 5, 4, 5, 5, 6, 4, 5, 5, 6, 5, 6, 6, 7, 4, 5, 5, 6, 5, 6, 6, 7, 5, 6, 6, 7, 6, 7, 7, 8])).toArray⟩ : ByteArray) = Lib.pop8tab := by kernel_rfl
set_option maxRecDepth 100000 in
set_option maxHeartbeats 800000 in
theorem ones_core (x a b c d : Nat) (w : World) (i1 : (0 : Int) ≤ (x : Int) / 16777216 ∧ (x : Int) / 16777216 ≤ 255)
  (p1 : Lib.pop8 ((x : Int) / 16777216) = (a : Int)) (p2 : Lib.pop8 ((x : Int) / 65536 % 256) = (b : Int)) (p3 : Lib.pop8 ((x : Int) / 256 % 256) = (c : Int)) (p4 : Lib.pop8 ((x : Int) % 256) = (d : Int)) (hs : a + b + c + d ≤ 32)
  (k2 : bits .and .u32 ((x : Int) / 65536) 255 = (x : Int) / 65536 % 256) (k3 : bits .and .u32 ((x : Int) / 256) 255 = (x : Int) / 256 % 256) (k4 : bits .and .u32 (x : Int) 255 = (x : Int) % 256) :
  Calls Tryz.prog 177 #[.int .u32 x] w fun e w' => e = .returned (.int .i64 ((a + b + c + d : Nat) : Int)) ∧ Below w.heap.size w w' := by
 have hm : Hid ((a : Int) + b + c + d = ((a + b + c + d : Nat) : Int)) := Lib.hid (by omega)
 go_enter Tryz.func177, Tryz.ntmps177
 simp only [foldPop]
 go_wp2_with fail
 go_quiet (fail)
 go_wp2_with fail
 go_ret
 refine ⟨?_, ?_⟩
 ·exact congrArg (fun z => Ending.returned (Value.int .i64 z)) hm.out
 ·exact below_drewN (Below.refl _ _) _
theorem and_255 (y : Nat) (hy : y < 4294967296) : bits .and .u32 (y : Int) 255 = (y : Int) % 256 := by
 have := andI y 255 hy (by decide)
 rw [show y &&& 255 = y % 256 from by rw [show (255 : Nat) = 2 ^ 8 - 1 from rfl, Nat.and_two_pow_sub_one_eq_mod]] at this
 exact this
theorem ones_any (x : Nat) (hx : x < 4294967296) (w : World) :
  Calls Tryz.prog 177 #[.int .u32 x] w fun e w' => e = .returned (.int .i64 (Sp.popN 32 x : Nat)) ∧ Below w.heap.size w w' := by
 have hle := Sp.popN_le 32 x
 rw [← ones_sum x] at hle ⊢
 refine ones_core x _ _ _ _ w (by omega) ?_ ?_ ?_ ?_ hle ?_ ?_ (and_255 x hx)
 ·rw [show (x : Int) / 16777216 = ((x / 16777216 : Nat) : Int) from by omega]; exact pop8_nat _ (by omega)
 ·rw [show (x : Int) / 65536 % 256 = ((x / 65536 % 256 : Nat) : Int) from by omega]; exact pop8_nat _ (by omega)
 ·rw [show (x : Int) / 256 % 256 = ((x / 256 % 256 : Nat) : Int) from by omega]; exact pop8_nat _ (by omega)
 ·rw [show (x : Int) % 256 = ((x % 256 : Nat) : Int) from by omega]; exact pop8_nat _ (by omega)
 ·rw [show (x : Int) / 65536 = ((x / 65536 : Nat) : Int) from by omega]; exact and_255 _ (by omega)
 ·rw [show (x : Int) / 256 = ((x / 256 : Nat) : Int) from by omega]; exact and_255 _ (by omega)
end Go.Proofs.YtefgabnmcfpdcaaGreatDoor.Ex
namespace Go.Proofs.YtefgabnmcfpdcaaGreatDoor.Ex
open Go.ChangeShapes Go.WideShapes Go.ChangeAt Go.RowKit
def xcells (x : EX) : List Value := [.int .i64 x.1, .int .i64 x.2]
def XOk (x : EX) : Prop := (-9223372036854775808 ≤ x.1 ∧ x.1 ≤ 9223372036854775807) ∧ -9223372036854775808 ≤ x.2 ∧ x.2 ≤ 9223372036854775807
structure XR (w : World) (B : Nat) (A : Option Addr) (l : List EX) : Prop where
 ar : l ≠ [] → ∃ ad, A = some ad ∧ ad.block < B ∧ ∀ k a, l[k]? = some a → ∀ j v, (xcells a)[j]? = some v → w.cell? ((ad.add (k * 2)).add j) = some v
 ok : ∀ a ∈ l, XOk a
section
variable {w w' : World} {B B' : Nat} {A : Option Addr} {l : List EX}
theorem XR.keep (h : XR w B A l) (hk : ∀ p : Addr, p.block < B → w'.cell? p = w.cell? p) : XR w' B A l := by
 refine ⟨fun hn => ?_, h.ok⟩
 obtain ⟨ad, e, hlt, hc⟩ := h.ar hn
 exact ⟨ad, e, hlt, fun k a ha j v hv => (hk _ (by rw [block_add, block_add]; exact hlt)).trans (hc k a ha j v hv)⟩
theorem XR.below (h : XR w B A l) (hb : Below B w w') : XR w' B A l := h.keep fun _ hp => hb.cell hp
theorem XR.more (h : XR w B A l) (hB : B ≤ B') : XR w B' A l := by
 refine ⟨fun hn => ?_, h.ok⟩
 obtain ⟨ad, e, hlt, hc⟩ := h.ar hn
 exact ⟨ad, e, by omega, hc⟩
theorem XR.nil : XR w B A [] := ⟨fun h => absurd rfl h, fun a ha => by cases ha⟩
theorem XR.at_ (h : XR w B A l) {k : Nat} (hk : k < l.length) :
  ∃ ad, A = some ad ∧ ad.block < B ∧ w.cell? (ad.add (k * 2)) = some (.int .i64 l[k].1) ∧ w.cell? ⟨(ad.add (k * 2)).block, (ad.add (k * 2)).off + 1, none⟩ = some (.int .i64 l[k].2) ∧ XOk l[k] := by
 obtain ⟨ad, e, hb, hc⟩ := h.ar (by intro e; subst e; simp at hk)
 have H := hc k l[k] (List.getElem?_eq_getElem hk)
 exact ⟨ad, e, hb, H 0 _ rfl, H 1 _ rfl, h.ok _ (List.getElem_mem hk)⟩
end
section
variable {H : Type} {enc : TypeId × Value → H} {W : World}
end
def V (x : EX) : Value := .agg #[.int .i64 x.1, .int .i64 x.2]
set_option maxRecDepth 100000 in
set_option maxHeartbeats 400000 in
theorem inside_any (s n : Int) (w : World) (hs : -9223372036854775808 ≤ s ∧ s ≤ 9223372036854775807) : Calls Tryz.prog 185 #[.agg #[.int .i64 s, .int .i64 n]] w fun e w' => e = .returned (.bool (decide (ins (s, n)))) ∧ Below w.heap.size w w' := by
 have hw : Below w.heap.size w (w.alloc (.cells #[.int .i64 s, .int .i64 n] 176)) := (Below.refl _ _).alloc (Nat.le_refl _) _
 have HW := Lib.hid hw
 clear hw
 by_cases h1 : 9 ≤ s
 ·have ew : IntKind.i64.wrap (32 - s) = 32 - s := by rw [IntKind.wrap_i64]; omega
  by_cases h2 : 1 ≤ n
  ·by_cases h3 : n ≤ 32 - s
   ·have hi : ins (s, n) := ⟨h1, h2, h3⟩
    have HI := Lib.hid (decide_eq_true hi)
    clear hi
    go_enter Tryz.func185, Tryz.ntmps185
    go_wp2_with fail
    go_ret
    exact ⟨by rw [HI.out]; rfl, HW.out⟩
   ·have hi : ¬ ins (s, n) := fun h => h3 h.2.2
    have HI := Lib.hid (decide_eq_false hi)
    clear hi
    go_enter Tryz.func185, Tryz.ntmps185
    go_wp2_with fail
    go_ret
    exact ⟨by rw [HI.out]; rfl, HW.out⟩
  ·have hi : ¬ ins (s, n) := fun h => h2 h.2.1
   have HI := Lib.hid (decide_eq_false hi)
   clear hi
   go_enter Tryz.func185, Tryz.ntmps185
   go_wp2_with fail
   go_ret
   exact ⟨by rw [HI.out]; rfl, HW.out⟩
 ·have hi : ¬ ins (s, n) := fun h => h1 h.1
  have HI := Lib.hid (decide_eq_false hi)
  clear hi
  go_enter Tryz.func185, Tryz.ntmps185
  go_wp2_with fail
  go_ret
  exact ⟨by rw [HI.out]; rfl, HW.out⟩
theorem set_num (s n : Int) (h : ins (s, n)) : ((2 : Int) ^ n.toNat - 1) % 4294967296 * 2 ^ s.toNat % 4294967296 = (setN (exB (s, n)) : Int) := by
 have e := setN_ex (s, n)
 have l : setN (exB (s, n)) < 4294967296 := setN_lt (fun b hb => (ins_mem h hb).2)
 rw [← e] at l ⊢
 simp only at l ⊢
 generalize n.toNat = N at *
 generalize s.toNat = S at *
 have p1 : 0 < (2 : Nat) ^ N := Nat.pow_pos (by decide)
 have p2 : 0 < (2 : Nat) ^ S := Nat.pow_pos (by decide)
 have e1 : (2 : Int) ^ N = ((2 ^ N : Nat) : Int) := by simp
 have e2 : (2 : Int) ^ S = ((2 ^ S : Nat) : Int) := by simp
 have l2 : 2 ^ N - 1 ≤ (2 ^ N - 1) * 2 ^ S := Nat.le_mul_of_pos_right _ p2
 rw [e1, e2]
 clear e1 e2 e
 generalize (2 : Nat) ^ N = a at *
 generalize (2 : Nat) ^ S = b at *
 have e3 : ((a : Int) - 1) % 4294967296 = ((a - 1 : Nat) : Int) := by omega
 rw [e3, ← Int.natCast_mul]
 omega
set_option maxRecDepth 100000 in
set_option maxHeartbeats 400000 in
theorem set_any (x : EX) (w : World) (h : ins x) : Calls Tryz.prog 173 #[.agg #[.int .i64 x.1, .int .i64 x.2]] w fun e w' => e = .returned (.int .u32 (setN (exB x) : Nat)) ∧ Below w.heap.size w w' := by
 have hw : Below w.heap.size w (w.alloc (.cells #[.int .i64 x.1, .int .i64 x.2] 176)) := (Below.refl _ _).alloc (Nat.le_refl _) _
 have HW := Lib.hid hw
 clear hw
 obtain ⟨s, n⟩ := x
 have HS := Lib.hid (set_num s n h)
 unfold ins at h
 simp only at h
 go_enter Tryz.func173, Tryz.ntmps173
 go_wp2_with fail
 go_quiet (fail)
 go_wp2_with fail
 go_ret
 refine ⟨?_, ?_⟩
 ·exact congrArg (fun z => Ending.returned (Value.int .u32 z)) HS.out
 ·exact below_drewN HW.out _
def okE (l : List EX) : Int := if ok l = true then 0 else 1
theorem okE_no {l : List EX} (h : ok l = false) : okE l = 1 := by simp [okE, h]
theorem okE_yes {l : List EX} (h : ok l = true) : okE l = 0 := by simp [okE, h]
def Gives (w : World) (v : Value) (e : Ending) (w' : World) : Prop := e = .returned v ∧ Below w.heap.size w w'
set_option maxRecDepth 100000 in
set_option maxHeartbeats 300000 in
theorem check_any (A : Option Addr) (l : List EX) (c : Nat) (w : World) (h : XR w w.heap.size A l) (hl : l.length ≤ 100) :
  Calls Tryz.prog 172 #[.slice A l.length c] w (Gives w (.int .i64 (okE l))) := by
 go_enter Tryz.func172, Tryz.ntmps172
 go_wp2_with fail
 go_loopw [9, 3, 4, 6] (fun i s e _ wr => ∃ (k : Nat) (out : List Nat) (en : Int), k ≤ l.length ∧ i = .int .i64 (k : Int) ∧ s = .int .u32 (setN out : Nat) ∧ e = .int .i64 en ∧ ok l = okL out en (l.drop k) ∧ Good out ∧ 0 ≤ en ∧ en ≤ 32 ∧ Below w.heap.size w wr) (fun i _ _ _ _ => l.length - (RowKit.intOf i).toNat)
 case atStart => exact ⟨0, [], 0, by omega, rfl, rfl, rfl, rfl, good_nil, by omega, by omega, Below.refl _ _⟩
 case round =>
  obtain ⟨k, out, en, hk, rfl, rfl, rfl, hok, hg, he0, he1, hb⟩ := hrel
  by_cases hlt : k < l.length
  ·obtain ⟨ad, rfl, hlb, d0, d1, hx⟩ := (h.below hb).at_ hlt
   have hst := okL_step out en (List.drop_eq_getElem_cons hlt)
   rw [← hok] at hst
   have hsz := hb.size
   have HN := Lib.hid h
   have HO := Lib.hid hok
   clear h hok
   generalize l[k] = x at *
   obtain ⟨s, n⟩ := x
   obtain ⟨hs0, hn0⟩ := hx
   simp only at d0 d1 hs0 hn0
   have b1 := hb.alloc hsz (.cells #[.int .i64 s, .int .i64 n] 176)
   obtain ⟨W1, HW1⟩ : ∃ W1, W1 = wr.alloc (.cells #[.int .i64 s, .int .i64 n] 176) := ⟨_, rfl⟩
   have hat : W1.heap[wr.heap.size]? = some (.cells #[.int .i64 s, .int .i64 n] 176 (0, 0)) := by rw [HW1]; exact heap_alloc_new wr _
   have hs1 : wr.heap.size < W1.heap.size := (Array.getElem?_eq_some_iff.1 hat).1
   rw [← HW1] at b1
   have hin := inside_any s n W1 hs0
   have HB := Lib.hid b1
   have HG := Lib.hid hg
   have HA := Lib.hid hat
   have HIN := Lib.hid hin
   clear b1 hb hg hat hin
   go_wp2_with fail
   rw [← HW1]
   refine HIN.out.mono ?_
   clear HIN
   rintro e w2 ⟨rfl, b2⟩
   have hat2 := (b2.block _ hs1).trans HA.out
   have c0 : w2.cell? ⟨wr.heap.size, 0, none⟩ = some (.int .i64 s) := by rw [cell_of_row _ _ _ _ _ _ hat2]; rfl
   have c1 : w2.cell? ⟨wr.heap.size, 1, none⟩ = some (.int .i64 n) := by rw [cell_of_row _ _ _ _ _ _ hat2]; rfl
   have B2 := Lib.hid (HB.out.trans (b2.mono HB.out.size))
   have HA2 := Lib.hid hat2
   have hs2 : wr.heap.size < w2.heap.size := (Array.getElem?_eq_some_iff.1 hat2).1
   generalize wr.heap.size = g at *
   clear b2 hat2 HW1 HB HA d0 d1 hs1 hsz
   by_cases h1 : ins (s, n)
   ·rw [decide_eq_true h1] at hst ⊢
    have h1' := h1
    unfold ins at h1'
    simp only at h1'
    by_cases h2 : s = en
    ·have hno : ok l = false := by rw [hst]; simp [h2]
     have HNO := Lib.hid (okE_no hno)
     clear hst hno h1
     subst h2
     go_wp2_with fail
     go_ret
     exact ⟨by rw [HNO.out]; rfl, B2.out⟩
    ·have hset := fun w => set_any (s, n) w h1
     have ql : setN (exB (s, n)) < 4294967296 := setN_lt (fun b hb => (ins_mem h1 hb).2)
     have pl := HG.out.lt
     have hand := andI _ _ pl ql
     by_cases h3 : ∀ b ∈ exB (s, n), b ∉ out
     ·rw [decide_eq_true h3, decide_eq_true (show (s, n).1 ≠ en from h2), Bool.true_and, Bool.true_and, Bool.true_and] at hst
      rw [(and_setN _ _).2 h3] at hand
      have hor := orI _ _ pl ql
      rw [← setN_append] at hor
      have hg' := HG.out.add h1 h3
      have HST := Lib.hid hst
      have HG' := Lib.hid hg'
      have ew : IntKind.i64.wrap (s + n) = s + n := by rw [IntKind.wrap_i64]; omega
      clear hst hg' h1 h3 HG
      simp only at hset
      generalize hE : setN (out ++ exB (s, n)) = E at *
      have HE := Lib.hid hE
      clear hE
      generalize setN (exB (s, n)) = Q at *
      generalize setN out = P at *
      clear pl ql
      go_wp2_with fail
      refine (hset w2).mono ?_
      rintro e w3 ⟨rfl, b3⟩
      have hat3 := (b3.block _ hs2).trans HA2.out
      have c2 : w3.cell? ⟨g, 0, none⟩ = some (.int .i64 s) := by rw [cell_of_row _ _ _ _ _ _ hat3]; rfl
      have c3 : w3.cell? ⟨g, 1, none⟩ = some (.int .i64 n) := by rw [cell_of_row _ _ _ _ _ _ hat3]; rfl
      have B3 := Lib.hid (B2.out.trans (b3.mono B2.out.size))
      have HA3 := Lib.hid hat3
      have hs3 : g < w3.heap.size := (Array.getElem?_eq_some_iff.1 hat3).1
      clear b3 hat3 c0 c1 B2 HA2 hs2
      go_wp2_with fail
      refine (hset w3).mono ?_
      rintro e w4 ⟨rfl, b4⟩
      have hat4 := (b4.block _ hs3).trans HA3.out
      have c4 : w4.cell? ⟨g, 0, none⟩ = some (.int .i64 s) := by rw [cell_of_row _ _ _ _ _ _ hat4]; rfl
      have c5 : w4.cell? ⟨g, 1, none⟩ = some (.int .i64 n) := by rw [cell_of_row _ _ _ _ _ _ hat4]; rfl
      have B4 := Lib.hid (B3.out.trans (b4.mono B3.out.size))
      clear b4 hat4 c2 c3 B3 HA3 hs3
      go_wp2_with fail
      go_roundw
      case rel => exact ⟨k + 1, out ++ exB (s, n), s + n, by omega, by go_num, by rw [HE.out], rfl, HO.out.trans (HO.out.symm.trans HST.out), HG'.out, by omega, by omega, B4.out⟩
      case measure => simp [RowKit.intOf]; omega
     ·have hno : ok l = false := by rw [hst, decide_eq_false h3]; simp
      have hne : setN out &&& setN (exB (s, n)) ≠ 0 := fun e => h3 ((and_setN _ _).1 e)
      have HNO := Lib.hid (okE_no hno)
      clear hst hno h1 h3
      simp only at hset
      generalize setN (exB (s, n)) = Q at *
      generalize setN out = P at *
      generalize P &&& Q = R at *
      have hr : ((R : Int) != 0) = true := by simp; omega
      clear pl ql hne
      go_wp2_with fail
      refine (hset w2).mono ?_
      rintro e w3 ⟨rfl, b3⟩
      have hat3 := (b3.block _ hs2).trans HA2.out
      have c2 : w3.cell? ⟨g, 0, none⟩ = some (.int .i64 s) := by rw [cell_of_row _ _ _ _ _ _ hat3]; rfl
      have c3 : w3.cell? ⟨g, 1, none⟩ = some (.int .i64 n) := by rw [cell_of_row _ _ _ _ _ _ hat3]; rfl
      have B3 := Lib.hid (B2.out.trans (b3.mono B2.out.size))
      have HA3 := Lib.hid hat3
      have hs3 : g < w3.heap.size := (Array.getElem?_eq_some_iff.1 hat3).1
      clear b3 hat3 c0 c1 B2 HA2 hs2
      go_wp2_with fail
      go_ret
      exact ⟨by rw [HNO.out]; rfl, B3.out⟩
   ·have hno : ok l = false := by rw [hst]; simp [h1]
    rw [decide_eq_false h1]
    have HNO := Lib.hid (okE_no hno)
    clear hst hno h1
    go_wp2_with fail
    go_ret
    exact ⟨by rw [HNO.out]; rfl, B2.out⟩
  ·obtain rfl : k = l.length := by omega
   have hy : ok l = true := by rw [hok, List.drop_length, okL]
   have HY := Lib.hid (okE_yes hy)
   clear hok hy hg h
   go_wp2_with fail
   go_ret
   exact ⟨by rw [HY.out]; rfl, hb⟩
end Go.Proofs.YtefgabnmcfpdcaaGreatDoor.Ex
namespace Go.Proofs.YtefgabnmcfpdcaaGreatDoor.Ex
open Go.RowKit
theorem okL_take : ∀ (a b : List EX) (out : List Nat) (e : Int), okL out e (a ++ b) = true → okL out e a = true
 | [], _, _, _, _ => rfl
 | x :: r, b, out, e, h => by
  obtain ⟨h1, h2, h3, h4⟩ := (okL_cons _ _ _ _).1 h
  exact (okL_cons _ _ _ _).2 ⟨h1, h2, h3, okL_take r b _ _ h4⟩
theorem ok_take {l : List EX} (h : ok l = true) (k : Nat) : ok (l.take k) = true := okL_take (l.take k) (l.drop k) [] 0 (by rw [List.take_append_drop]; exact h)
theorem ok_ins : ∀ {l : List EX}, ok l = true → ∀ x ∈ l, ins x := fun {l} => snoc_ind (M := fun l => ok l = true → ∀ x ∈ l, ins x) (fun _ _ h => by cases h) (fun q x ih h y hy => by
 obtain ⟨h1, h2, _⟩ := (ok_snoc q x).1 h
 rcases List.mem_append.1 hy with hy | hy
 ·exact ih h1 y hy
 ·simp at hy; subst hy; exact h2) l
theorem blk_step {l : List EX} {k : Nat} (hk : k < l.length) : blkL (l.take (k + 1)) = blkL (l.take k) ++ exB l[k] := by
 rw [List.take_succ_eq_append_getElem hk, blkL_append, blkL_one]
theorem blkO_yes {l : List EX} (h : ok l = true) : blkO l = blkL l := by simp [blkO, h]
theorem blkO_no {l : List EX} (h : ok l = false) : blkO l = [] := by simp [blkO, h]
set_option maxRecDepth 100000 in
set_option maxHeartbeats 400000 in
theorem bits_any (A : Option Addr) (l : List EX) (c : Nat) (w : World) (h : XR w w.heap.size A l) (hl : l.length ≤ 100) :
  Calls Tryz.prog 153 #[.slice A l.length c] w (Gives w (.int .u32 (setN (blkO l) : Nat))) := by
 have hck := check_any A l c w h hl
 have HCK := Lib.hid hck
 clear hck
 by_cases hok : ok l = true
 ·rw [blkO_yes hok]
  rw [okE_yes hok] at HCK
  have HOK := Lib.hid hok
  clear hok
  go_enter Tryz.func153, Tryz.ntmps153
  go_wp2_with fail
  refine HCK.out.mono ?_
  clear HCK
  rintro e w1 ⟨rfl, b1⟩
  have B1 := Lib.hid b1
  clear b1
  go_wp2_with fail
  go_loopw [11, 3, 5] (fun i s _ wr => ∃ (k : Nat), k ≤ l.length ∧ i = .int .i64 (k : Int) ∧ s = .int .u32 (setN (blkL (l.take k)) : Nat) ∧ Below w.heap.size w wr) (fun i _ _ _ => l.length - (RowKit.intOf i).toNat)
  case atStart => exact ⟨0, by omega, rfl, rfl, B1.out⟩
  case round =>
   obtain ⟨k, hk, rfl, rfl, hb⟩ := hrel
   by_cases hlt : k < l.length
   ·obtain ⟨ad, rfl, hlb, d0, d1, hx⟩ := (h.below hb).at_ hlt
    have hst := blk_step hlt
    have hin := ok_ins HOK.out _ (List.getElem_mem hlt)
    have gl := (ok_good _ (ok_take HOK.out k)).lt
    have hsz := hb.size
    have HN := Lib.hid h
    clear h
    generalize l[k] = x at *
    have ql : setN (exB x) < 4294967296 := setN_lt (fun b hb => (ins_mem hin hb).2)
    have hor := orI _ _ gl ql
    rw [← setN_append, ← hst] at hor
    have hset := fun w => set_any x w hin
    clear hst hx hin
    have b1 := hb.alloc hsz (.cells #[.int .i64 x.1, .int .i64 x.2] 176)
    have HB := Lib.hid b1
    obtain ⟨s, n⟩ := x
    simp only at d0 d1 hset
    generalize setN (exB (s, n)) = Q at *
    generalize hE : setN (blkL (l.take (k + 1))) = E at *
    have HE := Lib.hid hE
    clear hE b1 hb
    generalize setN (blkL (l.take k)) = P at *
    clear gl ql
    go_wp2_with fail
    refine (hset _).mono ?_
    rintro e w4 ⟨rfl, b4⟩
    have B4 := Lib.hid (HB.out.trans (b4.mono HB.out.size))
    clear b4
    go_wp2_with fail
    go_roundw
    case rel => exact ⟨k + 1, by omega, by go_num, by rw [HE.out], B4.out⟩
    case measure => simp [RowKit.intOf]; omega
   ·obtain rfl : k = l.length := by omega
    rw [List.take_length]
    clear h
    go_wp2_with fail
    go_ret
    exact ⟨rfl, hb⟩
 ·have hno : ok l = false := by simpa using hok
  rw [blkO_no hno]
  rw [okE_no hno] at HCK
  clear hok
  go_enter Tryz.func153, Tryz.ntmps153
  go_wp2_with fail
  refine HCK.out.mono ?_
  rintro e w1 ⟨rfl, b1⟩
  go_wp2_with fail
  go_ret
  exact ⟨rfl, b1⟩
set_option maxRecDepth 100000 in
theorem total_any (A : Option Addr) (l : List EX) (c : Nat) (w : World) (h : XR w w.heap.size A l) (hl : l.length ≤ 100) :
  Calls Tryz.prog 161 #[.slice A l.length c] w (Gives w (.int .i64 ((blkO l).length : Nat))) := by
 have hb := bits_any A l c w h hl
 have ho := fun w => ones_any (setN (blkO l)) (blkO_good l).lt w
 rw [count_good (blkO_good l)] at ho
 generalize setN (blkO l) = s at *
 generalize (blkO l).length = n at *
 clear h
 go_enter Tryz.func161, Tryz.ntmps161
 go_wp2_with fail
 refine hb.mono ?_
 rintro e w1 ⟨rfl, b1⟩
 go_wp2_with fail
 refine (ho w1).mono ?_
 rintro e w2 ⟨rfl, b2⟩
 have B2 := Lib.hid (b1.trans (b2.mono b1.size))
 clear b1 b2
 go_wp2_with fail
 go_ret
 exact ⟨rfl, B2.out⟩
def JR (w : World) (R : Option Addr) (l : List Nat) : Prop := ∀ (k x : Nat), l[k]? = some x → ∃ g o, R = some ⟨g, o, none⟩ ∧ g < w.heap.size ∧ w.cell? ⟨g, o + k, none⟩ = some (.int .i64 (x : Int))
theorem IR.jr {w : World} {R : Option Addr} {l : List Nat} (h : IR w R l) : JR w R l := fun k x hx => by
 obtain ⟨g, e, hg, hc⟩ := h k x hx
 exact ⟨g, 0, e, hg, by rw [Nat.zero_add]; exact hc⟩
theorem JR.at_ {w : World} {R : Option Addr} {l : List Nat} (h : JR w R l) {k : Nat} (hk : k < l.length) : ∃ g o, R = some ⟨g, o, none⟩ ∧ g < w.heap.size ∧ w.cell? ⟨g, o + k, none⟩ = some (.int .i64 (l[k] : Int)) := h k _ (List.getElem?_eq_getElem hk)
theorem JR.below {w w' : World} {R : Option Addr} {l : List Nat} (h : JR w R l) (hb : Below w.heap.size w w') : JR w' R l := fun k x hx => by
 obtain ⟨g, o, e, hg, hc⟩ := h k x hx
 exact ⟨g, o, e, Nat.lt_of_lt_of_le hg hb.size, (hb.cell (show (⟨g, o + k, none⟩ : Addr).block < _ from hg)).trans hc⟩
set_option maxRecDepth 100000 in
set_option maxHeartbeats 400000 in
theorem rset_any (R : Option Addr) (l : List Nat) (c : Nat) (w : World) (h : JR w R l) (hg : Good l) :
  Calls Tryz.prog 104 #[.slice R l.length c] w fun e w' => e = .returned (.int .u32 (setN l : Nat)) ∧ w' = w := by
 have hlen := hg.len
 go_enter Tryz.func104, Tryz.ntmps104
 go_wp2_with fail
 go_loop [8, 3, 5] (fun i s _ => ∃ (k : Nat), k ≤ l.length ∧ i = .int .i64 (k : Int) ∧ s = .int .u32 (setN (l.take k) : Nat)) (fun i _ _ => l.length - (RowKit.intOf i).toNat)
 case atStart => exact ⟨0, by omega, rfl, rfl⟩
 case round =>
  obtain ⟨k, hk, rfl, rfl⟩ := hrel
  by_cases hlt : k < l.length
  ·obtain ⟨g, o, rfl, hgl, hc⟩ := h.at_ hlt
   have hb := hg.2 _ (List.getElem_mem hlt)
   have hst : setN (l.take (k + 1)) = setN (l.take k) ||| 2 ^ l[k] := by rw [List.take_succ_eq_append_getElem hlt, setN_snoc]
   have pl := (hg.take k).lt
   have ql := pow_lt hb.2
   have hor := orI _ _ pl ql
   rw [← hst] at hor
   have e1 : ((2 : Int) ^ l[k]) % 4294967296 = ((2 ^ l[k] : Nat) : Int) := by
    have : (2 : Int) ^ l[k] = ((2 ^ l[k] : Nat) : Int) := by simp
    rw [this]
    clear hor this
    generalize (2 : Nat) ^ l[k] = T at *
    omega
   clear hst h
   generalize hE : setN (l.take (k + 1)) = E at *
   have HE := Lib.hid hE
   clear hE
   generalize setN (l.take k) = P at *
   generalize l[k] = b at *
   generalize ((2 ^ b : Nat) : Int) = T at *
   clear pl ql
   go_wp2_with fail
   go_round
   case rel => exact ⟨k + 1, by omega, by go_num, by rw [HE.out]⟩
   case measure => simp [RowKit.intOf]; omega
  ·obtain rfl : k = l.length := by omega
   rw [List.take_length]
   clear h
   go_wp2_with fail
   go_ret
   exact ⟨rfl, rfl⟩
end Go.Proofs.YtefgabnmcfpdcaaGreatDoor.Ex
