/-
  Merged by wip/tools/merge.py: InPlain InName ExBlocks
-/
import Derived.Test.YtceemmnfofjgeaaGreatDoorGFa
import Derived.Test.YtceemmnfofjgeaaGreatDoorGLe
import Derived.Lib.OthersKept
import Derived.Lib.DecodeN
import Derived.Deep.LoopGhost
import Derived.WalkSmall
namespace Go.Proofs.YtceemmnfofjgeaaGreatDoor.Ino
open Go.RowKit Ex

def okC (c : UInt8) : Bool := decide (33 ≤ c.toNat) && decide (c.toNat ≤ 126)
def nameB (s : List UInt8) : Bool := decide (1 ≤ s.length) && (decide (s.length ≤ 15) && s.all okC)
def needI (n : Int) : Int := if n ≤ 0 then 0 else (n - 1) / 64 + 1
structure IN where
  name : List UInt8
  size : Int
  ext : List EX
deriving DecidableEq
def chkB (x : IN) : Bool := nameB x.name && (decide (0 ≤ x.size) && (decide (x.size ≤ 1472) && (ok x.ext && decide (((blkO x.ext).length : Int) = needI x.size))))
def chkE (x : IN) : Int := if chkB x = true then 0 else 110
def u8 (n : Int) : UInt8 := UInt8.ofNat n.toNat
theorem u8_nat {n : Int} (h : 0 ≤ n ∧ n < 256) : ((u8 n).toNat : Int) = n := by
  unfold u8
  rw [UInt8.toNat_ofNat']
  omega
/-- What stands at a place of the extents' bytes. -/
def extF (l : List EX) (j : Nat) : UInt8 := if j % 2 = 0 then u8 (l.getD (j / 2) (0, 0)).1 else u8 (l.getD (j / 2) (0, 0)).2
def encF (x : IN) (i : Nat) : UInt8 := if i = 0 then UInt8.ofNat x.name.length else if i < 16 then x.name.getD (i - 1) 0 else if i < 18 then byteN x.size.toNat (i - 16) else extF x.ext (i - 18)
def encL (x : IN) : List UInt8 := (List.range 64).map (encF x)
theorem encL_len (x : IN) : (encL x).length = 64 := by simp [encL]
theorem encL_get (x : IN) (i : Nat) (h : i < 64) : (encL x).getD i 0 = encF x i := by
  unfold encL
  simp [List.getD_eq_getElem?_getD, h]
/-- Lists of 64 bytes are what their places are. -/
theorem list64 {xs ys : List UInt8} (hx : xs.length = 64) (hy : ys.length = 64) (h : ∀ i, i < 64 → xs.getD i 0 = ys.getD i 0) : xs = ys := by
  apply List.ext_getElem (by omega)
  intro i h1 h2
  have := h i (by omega)
  rw [List.getD_eq_getElem?_getD, List.getD_eq_getElem?_getD, List.getElem?_eq_getElem h1, List.getElem?_eq_getElem h2] at this
  simpa using this
theorem getD_set (xs : List UInt8) (k i : Nat) (u : UInt8) (hk : k < xs.length) : (xs.set k u).getD i 0 = if i = k then u else xs.getD i 0 := by
  rw [List.getD_eq_getElem?_getD, List.getElem?_set]
  by_cases h : i = k
  · subst h; simp [hk]
  · rw [if_neg (fun e => h e.symm), if_neg h, List.getD_eq_getElem?_getD]
/-- One extent more. -/
theorem enc_more (x : IN) (k : Nat) (e : EX) (l : List EX) (hk : k < 23) (hl : l.length = k) (hx : x.ext = l) :
    ((encL x).set (18 + 2 * k) (u8 e.1)).set (19 + 2 * k) (u8 e.2) = encL { x with ext := l ++ [e] } := by
  refine list64 (by simp [encL_len]) (encL_len _) fun i hi => ?_
  rw [getD_set _ _ _ _ (by rw [List.length_set, encL_len]; omega), getD_set _ _ _ _ (by rw [encL_len]; omega), encL_get _ _ hi, encL_get _ _ hi]
  unfold encF
  by_cases h0 : i = 0
  · rw [if_neg (by omega), if_neg (by omega), if_pos h0, if_pos h0]
  rw [if_neg h0, if_neg h0]
  by_cases h1 : i < 16
  · rw [if_neg (by omega), if_neg (by omega), if_pos h1, if_pos h1]
  rw [if_neg h1, if_neg h1]
  by_cases h2 : i < 18
  · rw [if_neg (by omega), if_neg (by omega), if_pos h2, if_pos h2]
  rw [if_neg h2, if_neg h2]
  simp only [hx]
  unfold extF
  have key : ∀ j, (l ++ [e]).getD j (0, 0) = if j = k then e else l.getD j (0, 0) := by
    intro j
    rw [List.getD_eq_getElem?_getD, List.getElem?_append]
    by_cases hj : j < l.length
    · rw [if_pos hj, if_neg (by omega), List.getD_eq_getElem?_getD]
    · rw [if_neg hj]
      by_cases hjk : j = k
      · rw [if_pos hjk, show j - l.length = 0 by omega]; rfl
      · rw [if_neg hjk, List.getElem?_eq_none (by simp; omega), List.getD_eq_getElem?_getD, List.getElem?_eq_none (by omega)]
  rw [key]
  by_cases h3 : i = 19 + 2 * k
  · rw [if_pos h3, if_neg (by omega), if_pos (by omega)]
  rw [if_neg h3]
  by_cases h4 : i = 18 + 2 * k
  · rw [if_pos h4, if_pos (by omega), if_pos (by omega)]
  have hd : (i - 18) / 2 ≠ k := by omega
  rw [if_neg h4, if_neg hd]

/-! ### read -/
def pairsL (b : List UInt8) : List EX := (List.range 23).map fun j => (((b.getD (18 + 2 * j) 0).toNat : Int), ((b.getD (19 + 2 * j) 0).toNat : Int))
def extC (b : List UInt8) : List EX := (pairsL b).takeWhile fun e => decide (e ≠ (0, 0))
def extR (b : List UInt8) : List EX := (pairsL b).takeWhile fun e => decide (e.2 ≠ 0)
def nameR (b : List UInt8) : List UInt8 := (b.drop 1).take (min (b.getD 0 0).toNat 15)
def sizeR (b : List UInt8) : Int := (num b 16 2 : Nat)
def readC (b : List UInt8) : IN := ⟨nameR b, sizeR b, extC b⟩
def readR (b : List UInt8) : IN := ⟨nameR b, sizeR b, extR b⟩
/-- The inode that bytes are, if they are one; the error. -/
def isIn (b : List UInt8) : Bool := chkB (readC b) && decide (encL (readC b) = b)

theorem chk_parts {x : IN} (h : chkB x = true) : (1 ≤ x.name.length ∧ x.name.length ≤ 15) ∧ (∀ c ∈ x.name, 33 ≤ c.toNat ∧ c.toNat ≤ 126) ∧ (0 ≤ x.size ∧ x.size ≤ 1472) ∧ ok x.ext = true ∧ ((blkO x.ext).length : Int) = needI x.size := by
  unfold chkB nameB at h
  simp only [Bool.and_eq_true, decide_eq_true_eq, List.all_eq_true, okC] at h
  obtain ⟨⟨h1, h2, h3⟩, h4, h5, h6, h7⟩ := h
  exact ⟨⟨h1, h2⟩, h3, ⟨h4, h5⟩, h6, h7⟩
theorem blk_long : ∀ (l : List EX), (∀ e ∈ l, ins e) → l.length ≤ (blkL l).length
  | [], _ => by simp
  | e :: r, h => by
    have ih := blk_long r fun y hy => h y (by simp [hy])
    have he := h e (by simp)
    unfold ins at he
    rw [blkL_cons, List.length_append, exB_len, List.length_cons]
    omega
theorem ok_few {l : List EX} (h : ok l = true) : l.length ≤ 23 := by
  have h1 := blk_long l (ok_ins h)
  have h2 := (ok_good l h).len
  omega
theorem ok_small {l : List EX} (h : ok l = true) : ∀ e ∈ l, (9 ≤ e.1 ∧ e.1 < 32) ∧ 1 ≤ e.2 ∧ e.2 < 24 := fun e he => by
  have := ok_ins h e he
  unfold ins at this
  omega
theorem takeWhile_all {α : Type} (p : α → Bool) : ∀ (l r : List α), (∀ x ∈ l, p x = true) → (∀ x ∈ r, p x = false) → (l ++ r).takeWhile p = l
  | [], [], _, _ => rfl
  | [], x :: r, _, h => by rw [List.nil_append, List.takeWhile_cons, h x (by simp)]; rfl
  | x :: l, r, h, h2 => by
    rw [List.cons_append, List.takeWhile_cons, h x (by simp), if_pos rfl, takeWhile_all p l r (fun y hy => h y (by simp [hy])) h2]
theorem pairs_enc (x : IN) (hl : x.ext.length ≤ 23) (hs : ∀ e ∈ x.ext, (9 ≤ e.1 ∧ e.1 < 32) ∧ 1 ≤ e.2 ∧ e.2 < 24) : pairsL (encL x) = x.ext ++ List.replicate (23 - x.ext.length) (0, 0) := by
  apply List.ext_getElem
  · simp [pairsL]; omega
  · intro j h1 h2
    have hj : j < 23 := by simpa [pairsL] using h1
    simp only [pairsL, List.getElem_map, List.getElem_range]
    rw [encL_get _ _ (by omega), encL_get _ _ (by omega)]
    unfold encF
    rw [if_neg (by omega), if_neg (by omega), if_neg (by omega), if_neg (by omega), if_neg (by omega), if_neg (by omega)]
    unfold extF
    rw [if_pos (by omega), if_neg (by omega), show (18 + 2 * j - 18) / 2 = j by omega, show (19 + 2 * j - 18) / 2 = j by omega]
    by_cases hn : j < x.ext.length
    · rw [List.getElem_append_left hn, List.getD_eq_getElem?_getD, List.getElem?_eq_getElem hn, Option.getD_some]
      have := hs _ (List.getElem_mem hn)
      rw [u8_nat (by omega), u8_nat (by omega)]
    · rw [List.getElem_append_right (by omega), List.getElem_replicate, List.getD_eq_getElem?_getD, List.getElem?_eq_none (by omega)]
      rfl
theorem name_enc (x : IN) (h : x.name.length ≤ 15) : nameR (encL x) = x.name := by
  have e0 : ((encL x).getD 0 0).toNat = x.name.length := by
    rw [encL_get _ _ (by omega)]
    unfold encF
    rw [if_pos rfl, UInt8.toNat_ofNat']
    omega
  unfold nameR
  rw [e0, Nat.min_eq_left h]
  apply List.ext_getElem
  · simp [encL_len]; omega
  · intro j h1 h2
    have hg := encL_get x (1 + j) (by omega)
    have hL := encL_len x
    rw [List.getD_eq_getElem?_getD, List.getElem?_eq_getElem (by omega), Option.getD_some] at hg
    rw [List.getElem_take, List.getElem_drop, hg]
    unfold encF
    rw [if_neg (by omega), if_pos (by omega), show 1 + j - 1 = j by omega, List.getD_eq_getElem?_getD, List.getElem?_eq_getElem h2, Option.getD_some]
theorem size_enc (x : IN) (h : 0 ≤ x.size ∧ x.size ≤ 1472) : sizeR (encL x) = x.size := by
  unfold sizeR
  rw [num_of_bytes (encL x) 16 x.size.toNat 2 (fun j hj => by
    rw [byt_in _ _ (by omega), encL_get _ _ (by omega)]
    unfold encF
    rw [if_neg (by omega), if_neg (by omega), if_pos (by omega), show ((16 : Int) + (j : Int)).toNat - 16 = j by omega])]
  omega
theorem read_enc {x : IN} (h : chkB x = true) : readC (encL x) = x ∧ readR (encL x) = x := by
  obtain ⟨h1, _, h3, h4, _⟩ := chk_parts h
  have hp := pairs_enc x (ok_few h4) (ok_small h4)
  have hs := ok_small h4
  obtain ⟨n, s, l⟩ := x
  unfold readC readR extC extR
  rw [name_enc _ h1.2, size_enc _ h3, hp]
  simp only at hs
  refine ⟨?_, ?_⟩
  · rw [takeWhile_all _ _ _ (fun e he => by
      have := hs e he
      simp only [ne_eq, decide_eq_true_eq]
      rintro rfl
      simp only at this
      omega) (fun e he => by rw [List.eq_of_mem_replicate he]; rfl)]
  · rw [takeWhile_all _ _ _ (fun e he => by
      have := hs e he
      simp only [ne_eq, decide_eq_true_eq]
      omega) (fun e he => by rw [List.eq_of_mem_replicate he]; rfl)]
theorem isIn_len {b : List UInt8} (h : isIn b = true) : b.length = 64 := by
  unfold isIn at h
  simp only [Bool.and_eq_true, decide_eq_true_eq] at h
  rw [← h.2, encL_len]
theorem isIn_enc {x : IN} (h : chkB x = true) : isIn (encL x) = true := by
  unfold isIn
  rw [(read_enc h).1, h]
  simp
theorem enc_full {x : IN} (h : chkB x = true) : encL x ≠ List.replicate 64 0 := by
  intro e
  have := chk_parts h
  have hg := encL_get x 0 (by omega)
  rw [e] at hg
  unfold encF at hg
  rw [if_pos rfl] at hg
  have h2 := congrArg UInt8.toNat hg
  rw [UInt8.toNat_ofNat'] at h2
  simp at h2
  omega
end Go.Proofs.YtceemmnfofjgeaaGreatDoor.Ino
namespace Go.Proofs.YtceemmnfofjgeaaGreatDoor.Ino
open Go.RowKit Ex

/-- A text, as a value. -/
abbrev St (xs : List UInt8) : Value := .string ⟨xs.toArray⟩
theorem st_size (xs : List UInt8) : (⟨xs.toArray⟩ : ByteArray).size = xs.length := by simp [ByteArray.size]
theorem decode_high (n b0 b1 b2 b3 : Nat) (h : 128 ≤ b0) : 128 ≤ (Lib.decodeN n b0 b1 b2 b3).1 := by
  unfold Lib.decodeN
  repeat' split
  all_goals simp only
  all_goals omega
section
variable {P : Program}
theorem next_low (w : World) (k : Nat) (xs : List UInt8) (pos : Nat) (ty : TypeId) (hk : w.heap[k]? = some (.stringIter ⟨xs.toArray⟩ pos)) (h : pos < xs.length) (ha : xs[pos].toNat < 128) :
    (Instr.next (.pointer (some ⟨k, 0, none⟩)) true ty).run P w = .ok (.tuple #[.bool true, .int .i64 pos, .int .i32 (xs[pos].toNat : Int)]) (w.iterAt k ⟨xs.toArray⟩ (pos + 1)) :=
  Lib.run_next_ascii_at w k ⟨xs.toArray⟩ pos ty hk (by rw [st_size]; exact h) ha
theorem next_high (w : World) (k : Nat) (xs : List UInt8) (pos : Nat) (hk : w.heap[k]? = some (.stringIter ⟨xs.toArray⟩ pos)) (h : pos < xs.length) (ha : 128 ≤ xs[pos].toNat) :
    ∃ (r : Nat) (n : Nat), 128 ≤ r ∧ ∀ ty, (Instr.next (.pointer (some ⟨k, 0, none⟩)) true ty).run P w = .ok (.tuple #[.bool true, .int .i64 pos, .int .i32 (r : Int)]) (w.iterAt k ⟨xs.toArray⟩ n) := by
  refine ⟨(Utf8.decode ⟨xs.toArray⟩ pos).1, pos + (Utf8.decode ⟨xs.toArray⟩ pos).2, ?_, fun ty => Lib.run_next_any_at w k ⟨xs.toArray⟩ pos ty hk (by rw [st_size]; exact h)⟩
  rw [Lib.decode_at]
  refine decode_high _ _ _ _ _ ?_
  have e : (⟨xs.toArray⟩ : ByteArray).get! pos = xs[pos] := by
    simp [ByteArray.get!, h]
  rw [e]
  exact ha
theorem next_end (w : World) (k : Nat) (xs : List UInt8) (pos : Nat) (ty : TypeId) (hk : w.heap[k]? = some (.stringIter ⟨xs.toArray⟩ pos)) (h : ¬ pos < xs.length) :
    (Instr.next (.pointer (some ⟨k, 0, none⟩)) true ty).run P w = .ok (.tuple #[.bool false]) w :=
  Lib.run_next_end_at w k ⟨xs.toArray⟩ pos ty hk (by rw [st_size]; exact h)
end
theorem below_iter {w w' : World} {B k : Nat} (h : Below B w w') (hk : B ≤ k) (s : ByteArray) (n : Nat) : Below B w (w'.iterAt k s n) :=
  h.trans ⟨rfl, rfl, rfl, by rw [Lib.iterAt_size]; exact Nat.le_refl _, fun j hj => Lib.iterAt_other _ _ _ _ _ (by omega)⟩
/-- What the loop over a name's runes keeps. -/
def NameRel (w : World) (xs : List UInt8) (g : Nat) (wr : World) : Prop := ∃ pos, g = xs.length - pos ∧ pos ≤ xs.length ∧ xs.all okC = (xs.drop pos).all okC ∧ wr.heap[w.heap.size]? = some (.stringIter ⟨xs.toArray⟩ pos) ∧ Below w.heap.size w wr
set_option maxRecDepth 100000 in
set_option maxHeartbeats 400000 in
theorem name_any (xs : List UInt8) (w : World) (hl : xs.length ≤ 9223372036854775807) :
    Calls Tryz.prog 128 #[St xs] w (Gives w (.bool (nameB xs))) := by
  have hsz := st_size xs
  by_cases h1 : 1 ≤ xs.length
  · by_cases h2 : xs.length ≤ 15
    · have hb : nameB xs = xs.all okC := by simp [nameB, h1, h2]
      rw [hb]
      have k1 : ((xs.length : Int) < 1) = False := by simp; omega
      have k2 : (15 < (xs.length : Int)) = False := by simp; omega
      have hat := World.iter_heap w ⟨xs.toArray⟩ 0
      have hbel : Below w.heap.size w (w.iter ⟨xs.toArray⟩ 0) := (Below.refl _ _).alloc (Nat.le_refl _) _
      have HAT := Lib.hid hat
      have HBEL := Lib.hid hbel
      clear hat hbel hb
      go_enter Tryz.func128, Tryz.ntmps128
      go_wp2_with fail
      go_loopg [4] xs.length (fun g _ wr => NameRel w xs g wr)
      case atStart => exact ⟨0, by omega, by omega, by simp, HAT.out, HBEL.out⟩
      case round =>
        obtain ⟨pos, rfl, hp, hall, hat, bel⟩ := hrel
        by_cases hlt : pos < xs.length
        · have hd : xs.drop pos = xs[pos] :: xs.drop (pos + 1) := List.drop_eq_getElem_cons hlt
          rw [hd, List.all_cons] at hall
          have HALL := Lib.hid hall
          clear hall hd
          by_cases ha : xs[pos].toNat < 128
          · have hnx := fun ty => next_low (P := Tryz.prog) wr w.heap.size xs pos ty hat hlt ha
            have hat2 := Lib.iterAt_heap wr w.heap.size ⟨xs.toArray⟩ pos (pos + 1) hat
            have bel2 := below_iter bel (Nat.le_refl _) ⟨xs.toArray⟩ (pos + 1)
            have HAT2 := Lib.hid hat2
            have HBEL2 := Lib.hid bel2
            by_cases hc : okC xs[pos] = true
            · have hc' := hc
              unfold okC at hc'
              simp only [Bool.and_eq_true, decide_eq_true_eq] at hc'
              have HR : Hid (NameRel w xs (xs.length - (pos + 1)) (wr.iterAt w.heap.size ⟨xs.toArray⟩ (pos + 1))) := ⟨pos + 1, rfl, by omega, by rw [HALL.out, hc, Bool.true_and], hat2, bel2⟩
              have n1 : decide (((xs[pos].toNat : Nat) : Int) < 33) = false := by simp; omega
              have n2 : decide ((126 : Int) < ((xs[pos].toNat : Nat) : Int)) = false := by simp; omega
              clear hat2 bel2 hat bel hc HALL HAT2 HBEL2
              generalize xs[pos].toNat = z at *
              generalize wr.iterAt w.heap.size ⟨xs.toArray⟩ (pos + 1) = w2 at *
              go_wp2_with fail
              go_roundg (xs.length - (pos + 1))
              case rel => exact HR.out
              case measure => omega
            · have hno : xs.all okC = false := by rw [HALL.out, (by simpa using hc : okC xs[pos] = false), Bool.false_and]
              have hc' : xs[pos].toNat < 33 ∨ 126 < xs[pos].toNat := by
                unfold okC at hc
                simp only [Bool.and_eq_true, decide_eq_true_eq] at hc
                omega
              have HNO := Lib.hid hno
              clear hat2 hat bel hc HALL HAT2 hno
              generalize xs[pos].toNat = z at *
              generalize wr.iterAt w.heap.size ⟨xs.toArray⟩ (pos + 1) = w2 at *
              by_cases n1 : z < 33
              · have n1' : decide ((z : Int) < 33) = true := by simp; omega
                clear hc' bel2 ha
                go_wp2_with fail
                go_ret
                exact ⟨by rw [HNO.out]; rfl, HBEL2.out⟩
              · have n1' : decide ((z : Int) < 33) = false := by simp; omega
                have n2 : decide ((126 : Int) < (z : Int)) = true := by simp; omega
                clear hc' bel2 ha
                go_wp2_with fail
                go_ret
                exact ⟨by rw [HNO.out]; rfl, HBEL2.out⟩
          · obtain ⟨r, n, hr, hnx⟩ := next_high (P := Tryz.prog) wr w.heap.size xs pos hat hlt (by omega)
            have bel2 := below_iter bel (Nat.le_refl _) ⟨xs.toArray⟩ n
            have hno : xs.all okC = false := by
              have : okC xs[pos] = false := by
                unfold okC
                simp only [Bool.and_eq_false_iff, decide_eq_false_iff_not]
                omega
              rw [HALL.out, this, Bool.false_and]
            have HNO := Lib.hid hno
            have HBEL2 := Lib.hid bel2
            have n1 : decide ((r : Int) < 33) = false := by simp; omega
            have n2 : decide ((126 : Int) < (r : Int)) = true := by simp; omega
            clear hat bel HALL hno bel2 ha hr
            generalize wr.iterAt w.heap.size ⟨xs.toArray⟩ n = w2 at *
            go_wp2_with fail
            go_ret
            exact ⟨by rw [HNO.out]; rfl, HBEL2.out⟩
        · have hnx := fun ty => next_end (P := Tryz.prog) wr w.heap.size xs pos ty hat hlt
          have he : xs.all okC = true := by rw [hall, List.drop_eq_nil_of_le (by omega)]; rfl
          have HE := Lib.hid he
          clear he hall hat
          go_wp2_with fail
          go_ret
          exact ⟨by rw [HE.out]; rfl, bel⟩
    · have hb : nameB xs = false := by simp [nameB, h2]
      rw [hb]
      have n1 : decide ((xs.length : Int) < 1) = false := by simp; omega
      have n2 : decide ((15 : Int) < (xs.length : Int)) = true := by simp; omega
      clear h1 h2 hb
      go_enter Tryz.func128, Tryz.ntmps128
      go_wp2_with fail
      go_ret
      exact ⟨rfl, Below.refl _ _⟩
  · have hb : nameB xs = false := by simp [nameB, h1]
    rw [hb]
    have n1 : decide ((xs.length : Int) < 1) = true := by simp; omega
    clear h1 hb
    go_enter Tryz.func128, Tryz.ntmps128
    go_wp2_with fail
    go_ret
    exact ⟨rfl, Below.refl _ _⟩

/-! ### how many blocks -/
set_option maxRecDepth 100000 in
theorem need_any (n : Int) (w : World) (h : -9223372036854775808 ≤ n ∧ n ≤ 9223372036854775807) :
    Calls Tryz.prog 146 #[.int .i64 n] w (fun e w' => e = .returned (.int .i64 (needI n)) ∧ w' = w) := by
  by_cases h0 : n ≤ 0
  · have hn : needI n = 0 := by simp [needI, h0]
    have hm : (if n < 0 then (0 : Int) else n) = 0 := by split <;> omega
    rw [hn]
    have n1 : decide ((0 : Int) < n) = false := by simp; omega
    go_enter Tryz.func146, Tryz.ntmps146
    go_wp2_with fail
    go_ret
    exact ⟨rfl, rfl⟩
  · have hn : needI n = (n - 1) / 64 + 1 := by simp [needI, h0]
    have HN := Lib.hid hn
    have n0 : decide ((0 : Int) < n) = true := by simp; omega
    have e1 : IntKind.i64.wrap (n / 64) = n / 64 := by rw [IntKind.wrap_i64]; omega
    have e2 : IntKind.i64.wrap (n / 64 * 64) = n / 64 * 64 := by rw [IntKind.wrap_i64]; omega
    by_cases hm : n / 64 * 64 < n
    · have n1 : decide (n / 64 * 64 < n) = true := by simp; omega
      have hr : n / 64 + 1 = needI n := by rw [hn]; omega
      have HR := Lib.hid hr
      clear hn hr
      go_enter Tryz.func146, Tryz.ntmps146
      go_wp2_with fail
      go_ret
      exact ⟨by rw [← HR.out]; rfl, rfl⟩
    · have n1 : decide (n / 64 * 64 < n) = false := by simp; omega
      have hr : n / 64 = needI n := by rw [hn]; omega
      have HR := Lib.hid hr
      clear hn hr
      go_enter Tryz.func146, Tryz.ntmps146
      go_wp2_with fail
      go_ret
      exact ⟨by rw [← HR.out]; rfl, rfl⟩
end Go.Proofs.YtceemmnfofjgeaaGreatDoor.Ino
namespace Go.Proofs.YtceemmnfofjgeaaGreatDoor.Ex
open Go.RowKit

theorem take_step {x : EX} {j : Nat} (h : j < (exB x).length) : (exB x).take (j + 1) = (exB x).take j ++ [x.1.toNat + j] := by
  rw [List.take_succ_eq_append_getElem h, exB_at]
def BlocksOut (w : World) (l : List EX) (e : Ending) (w' : World) : Prop := ∃ R cap, e = .returned (.tuple #[.slice R (blkO l).length cap, .bool (ok l)]) ∧ OwnI w' w.heap.size R cap (blkO l) ∧ Below w.heap.size w w'
theorem BlocksOut.no {w w' : World} {l : List EX} (h : ok l = false) (hb : Below w.heap.size w w') : BlocksOut w l (.returned (.tuple #[.slice none 0 0, .bool false])) w' := by
  refine ⟨none, 0, ?_, ?_, hb⟩
  · rw [blkO_no h, h]; rfl
  · rw [blkO_no h]; exact World.ownsRow_nil _ _ _ _

end Go.Proofs.YtceemmnfofjgeaaGreatDoor.Ex
