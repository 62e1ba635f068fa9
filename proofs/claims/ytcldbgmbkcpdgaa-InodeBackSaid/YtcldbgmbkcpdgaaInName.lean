/-
  InName
-/
import Derived.Test.YtcldbgmbkcpdgaaInPlain
import Derived.Lib.OthersKept
import Derived.Lib.DecodeN
import Derived.Deep.LoopGhost
namespace Go.Proofs.Ytcldbgmbkcpdgaa.Ino
open Go.RowKit Ex

/-- A text, as a value. -/
abbrev St (xs : List UInt8) : Value := .string ⟨xs.toArray⟩
theorem st_size (xs : List UInt8) : (⟨xs.toArray⟩ : ByteArray).size = xs.length := by simp [ByteArray.size]
theorem st_get (xs : List UInt8) (k : Nat) (_h : k < xs.length) (h' : k < (⟨xs.toArray⟩ : ByteArray).size) : (⟨xs.toArray⟩ : ByteArray)[k]'h' = xs[k] := rfl
theorem decode_high (n b0 b1 b2 b3 : Nat) (h : 128 ≤ b0) : 128 ≤ (Lib.decodeN n b0 b1 b2 b3).1 := by
  unfold Lib.decodeN
  repeat' split
  all_goals simp only
  all_goals omega
section
variable {P : Program}
theorem next_low (w : World) (k : Nat) (xs : List UInt8) (pos : Nat) (ty : TypeId) (hk : w.heap[k]? = some (.stringIter ⟨xs.toArray⟩ pos)) (h : pos < xs.length) (ha : xs[pos].toNat < 128) :
    (Instr.next (.pointer (some ⟨k, 0, none⟩)) true ty).run P w = .ok (.tuple #[.bool true, .int .i64 pos, .int .i32 (xs[pos].toNat : Int)]) (w.iterAt k ⟨xs.toArray⟩ (pos + 1)) :=
  Lib.run_next_ascii_at w k ⟨xs.toArray⟩ pos ty hk (by rw [st_size]; exact h) ha
theorem next_high (w : World) (k : Nat) (xs : List UInt8) (pos : Nat) (hk : w.heap[k]? = some (.stringIter ⟨xs.toArray⟩ pos)) (h : pos < xs.length) (ha : 128 ≤ xs[pos].toNat) :
    ∃ (r : Nat) (n : Nat), 128 ≤ r ∧ ∀ ty, (Instr.next (.pointer (some ⟨k, 0, none⟩)) true ty).run P w = .ok (.tuple #[.bool true, .int .i64 pos, .int .i32 (r : Int)]) (w.iterAt k ⟨xs.toArray⟩ n) := by
  refine ⟨(Utf8.decode ⟨xs.toArray⟩ pos).1, pos + (Utf8.decode ⟨xs.toArray⟩ pos).2, ?_, fun ty => Lib.run_next_any_at w k ⟨xs.toArray⟩ pos ty hk (by rw [st_size]; exact h)⟩
  rw [Lib.decode_at]
  refine decode_high _ _ _ _ _ ?_
  have e : (⟨xs.toArray⟩ : ByteArray).get! pos = xs[pos] := by
    simp [ByteArray.get!, h]
  rw [e]
  exact ha
theorem next_end (w : World) (k : Nat) (xs : List UInt8) (pos : Nat) (ty : TypeId) (hk : w.heap[k]? = some (.stringIter ⟨xs.toArray⟩ pos)) (h : ¬ pos < xs.length) :
    (Instr.next (.pointer (some ⟨k, 0, none⟩)) true ty).run P w = .ok (.tuple #[.bool false]) w :=
  Lib.run_next_end_at w k ⟨xs.toArray⟩ pos ty hk (by rw [st_size]; exact h)
end
theorem below_iter {w w' : World} {B k : Nat} (h : Below B w w') (hk : B ≤ k) (s : ByteArray) (n : Nat) : Below B w (w'.iterAt k s n) :=
  h.trans ⟨rfl, rfl, rfl, by rw [Lib.iterAt_size]; exact Nat.le_refl _, fun j hj => Lib.iterAt_other _ _ _ _ _ (by omega)⟩
/-- What the loop over a name's runes keeps. -/
def NameRel (w : World) (xs : List UInt8) (g : Nat) (wr : World) : Prop := ∃ pos, g = xs.length - pos ∧ pos ≤ xs.length ∧ xs.all okC = (xs.drop pos).all okC ∧ wr.heap[w.heap.size]? = some (.stringIter ⟨xs.toArray⟩ pos) ∧ Below w.heap.size w wr
set_option maxRecDepth 100000 in
set_option maxHeartbeats 400000 in
theorem name_any (xs : List UInt8) (w : World) (hl : xs.length ≤ 100000) :
    Calls Try.prog 8 #[St xs] w (Gives w (.bool (nameB xs))) := by
  have hsz := st_size xs
  by_cases h1 : 1 ≤ xs.length
  · by_cases h2 : xs.length ≤ 15
    · have hb : nameB xs = xs.all okC := by simp [nameB, h1, h2]
      rw [hb]
      have k1 : ((xs.length : Int) < 1) = False := by simp; omega
      have k2 : (15 < (xs.length : Int)) = False := by simp; omega
      have hat := World.iter_heap w ⟨xs.toArray⟩ 0
      have hbel : Below w.heap.size w (w.iter ⟨xs.toArray⟩ 0) := (Below.refl _ _).alloc (Nat.le_refl _) _
      have HAT := Lib.hid hat
      have HBEL := Lib.hid hbel
      clear hat hbel hb
      go_enter Try.func8, Try.ntmps8
      go_wp2_with fail
      go_loopg [4] xs.length (fun g _ wr => NameRel w xs g wr)
      case atStart => exact ⟨0, by omega, by omega, by simp, HAT.out, HBEL.out⟩
      case round =>
        obtain ⟨pos, rfl, hp, hall, hat, bel⟩ := hrel
        by_cases hlt : pos < xs.length
        · have hd : xs.drop pos = xs[pos] :: xs.drop (pos + 1) := List.drop_eq_getElem_cons hlt
          rw [hd, List.all_cons] at hall
          have HALL := Lib.hid hall
          clear hall hd
          by_cases ha : xs[pos].toNat < 128
          · have hnx := fun ty => next_low (P := Try.prog) wr w.heap.size xs pos ty hat hlt ha
            have hat2 := Lib.iterAt_heap wr w.heap.size ⟨xs.toArray⟩ pos (pos + 1) hat
            have bel2 := below_iter bel (Nat.le_refl _) ⟨xs.toArray⟩ (pos + 1)
            have HAT2 := Lib.hid hat2
            have HBEL2 := Lib.hid bel2
            by_cases hc : okC xs[pos] = true
            · have hc' := hc
              unfold okC at hc'
              simp only [Bool.and_eq_true, decide_eq_true_eq] at hc'
              have HR : Hid (NameRel w xs (xs.length - (pos + 1)) (wr.iterAt w.heap.size ⟨xs.toArray⟩ (pos + 1))) := ⟨pos + 1, rfl, by omega, by rw [HALL.out, hc, Bool.true_and], hat2, bel2⟩
              have n1 : decide (((xs[pos].toNat : Nat) : Int) < 33) = false := by simp; omega
              have n2 : decide ((126 : Int) < ((xs[pos].toNat : Nat) : Int)) = false := by simp; omega
              clear hat2 bel2 hat bel hc HALL HAT2 HBEL2
              generalize xs[pos].toNat = z at *
              generalize wr.iterAt w.heap.size ⟨xs.toArray⟩ (pos + 1) = w2 at *
              go_wp2_with fail
              go_roundg (xs.length - (pos + 1))
              case rel => exact HR.out
              case measure => omega
            · have hno : xs.all okC = false := by rw [HALL.out, (by simpa using hc : okC xs[pos] = false), Bool.false_and]
              have hc' : xs[pos].toNat < 33 ∨ 126 < xs[pos].toNat := by
                unfold okC at hc
                simp only [Bool.and_eq_true, decide_eq_true_eq] at hc
                omega
              have HNO := Lib.hid hno
              clear hat2 hat bel hc HALL HAT2 hno
              generalize xs[pos].toNat = z at *
              generalize wr.iterAt w.heap.size ⟨xs.toArray⟩ (pos + 1) = w2 at *
              by_cases n1 : z < 33
              · have n1' : decide ((z : Int) < 33) = true := by simp; omega
                clear hc' bel2 ha
                go_wp2_with fail
                go_ret
                exact ⟨by rw [HNO.out]; rfl, HBEL2.out⟩
              · have n1' : decide ((z : Int) < 33) = false := by simp; omega
                have n2 : decide ((126 : Int) < (z : Int)) = true := by simp; omega
                clear hc' bel2 ha
                go_wp2_with fail
                go_ret
                exact ⟨by rw [HNO.out]; rfl, HBEL2.out⟩
          · obtain ⟨r, n, hr, hnx⟩ := next_high (P := Try.prog) wr w.heap.size xs pos hat hlt (by omega)
            have bel2 := below_iter bel (Nat.le_refl _) ⟨xs.toArray⟩ n
            have hno : xs.all okC = false := by
              have : okC xs[pos] = false := by
                unfold okC
                simp only [Bool.and_eq_false_iff, decide_eq_false_iff_not]
                omega
              rw [HALL.out, this, Bool.false_and]
            have HNO := Lib.hid hno
            have HBEL2 := Lib.hid bel2
            have n1 : decide ((r : Int) < 33) = false := by simp; omega
            have n2 : decide ((126 : Int) < (r : Int)) = true := by simp; omega
            clear hat bel HALL hno bel2 ha hr
            generalize wr.iterAt w.heap.size ⟨xs.toArray⟩ n = w2 at *
            go_wp2_with fail
            go_ret
            exact ⟨by rw [HNO.out]; rfl, HBEL2.out⟩
        · have hnx := fun ty => next_end (P := Try.prog) wr w.heap.size xs pos ty hat hlt
          have he : xs.all okC = true := by rw [hall, List.drop_eq_nil_of_le (by omega)]; rfl
          have HE := Lib.hid he
          clear he hall hat
          go_wp2_with fail
          go_ret
          exact ⟨by rw [HE.out]; rfl, bel⟩
    · have hb : nameB xs = false := by simp [nameB, h2]
      rw [hb]
      have n1 : decide ((xs.length : Int) < 1) = false := by simp; omega
      have n2 : decide ((15 : Int) < (xs.length : Int)) = true := by simp; omega
      clear h1 h2 hb
      go_enter Try.func8, Try.ntmps8
      go_wp2_with fail
      go_ret
      exact ⟨rfl, Below.refl _ _⟩
  · have hb : nameB xs = false := by simp [nameB, h1]
    rw [hb]
    have n1 : decide ((xs.length : Int) < 1) = true := by simp; omega
    clear h1 hb
    go_enter Try.func8, Try.ntmps8
    go_wp2_with fail
    go_ret
    exact ⟨rfl, Below.refl _ _⟩

theorem idx_at (xs : List UInt8) (k : Nat) (h : k < xs.length) (w : World) : (Instr.index 9 (St xs) (.int .i64 (k : Int))).run Try.prog w = .ok (B8 xs[k]) w := by
  rw [run_index_string w 9 ⟨xs.toArray⟩ .i64 (k : Int) Try.underlying9, dif_pos ⟨by omega, by rw [st_size]; omega⟩]
  rfl
/-- What the loop over a name's bytes keeps. -/
def RNameRel (xs : List UInt8) (i : Value) : Prop := ∃ pos : Nat, i = .int .i64 (pos : Int) ∧ pos ≤ xs.length ∧ xs.all okC = (xs.drop pos).all okC
set_option maxRecDepth 100000 in
set_option maxHeartbeats 400000 in
theorem rname_any (xs : List UInt8) (w : World) (hl : xs.length ≤ 100000) :
    Calls Try.prog 9 #[St xs] w (fun e w' => e = .returned (.bool (nameB xs)) ∧ w' = w) := by
  have hsz := st_size xs
  go_enter Try.func9, Try.ntmps9
  go_wp2_with fail
  go_loop [3] (fun i => RNameRel xs i) (fun i => xs.length - (intOf i).toNat)
  case atStart => exact ⟨0, rfl, by omega, by simp⟩
  case round =>
    obtain ⟨pos, rfl, hp, hall⟩ := hrel
    by_cases hlt : pos < xs.length
    · have hd : xs.drop pos = xs[pos] :: xs.drop (pos + 1) := List.drop_eq_getElem_cons hlt
      rw [hd, List.all_cons] at hall
      have hix := idx_at xs pos hlt
      have HALL := Lib.hid hall
      clear hall hd
      have ew : IntKind.i64.wrap ((pos : Int) + 1) = (pos : Int) + 1 := by rw [IntKind.wrap_i64]; omega
      by_cases hc : okC xs[pos] = true
      · have hc' := hc
        unfold okC at hc'
        simp only [Bool.and_eq_true, decide_eq_true_eq] at hc'
        have HR : Hid (RNameRel xs (.int .i64 ((pos : Int) + 1))) := ⟨pos + 1, by simp, by omega, by rw [HALL.out, hc, Bool.true_and]⟩
        have n1 : decide (((xs[pos].toNat : Nat) : Int) < 33) = false := by simp; omega
        have n2 : decide ((126 : Int) < ((xs[pos].toNat : Nat) : Int)) = false := by simp; omega
        clear hc HALL
        generalize xs[pos] = z at *
        go_wp2_with fail
        go_round
        case rel => exact HR.out
        case measure => simp [intOf]; omega
      · have hno : xs.all okC = false := by rw [HALL.out, (by simpa using hc : okC xs[pos] = false), Bool.false_and]
        have hb : nameB xs = false := by simp [nameB, hno]
        have hc' : xs[pos].toNat < 33 ∨ 126 < xs[pos].toNat := by
          unfold okC at hc
          simp only [Bool.and_eq_true, decide_eq_true_eq] at hc
          omega
        have HNO := Lib.hid hb
        clear hc HALL hno hb
        generalize xs[pos] = z at *
        by_cases n1 : z.toNat < 33
        · have n1' : decide ((z.toNat : Int) < 33) = true := by simp; omega
          clear hc'
          go_wp2_with fail
          go_ret
          exact ⟨by rw [HNO.out]; rfl, rfl⟩
        · have n1' : decide ((z.toNat : Int) < 33) = false := by simp; omega
          have n2 : decide ((126 : Int) < (z.toNat : Int)) = true := by simp; omega
          clear hc'
          go_wp2_with fail
          go_ret
          exact ⟨by rw [HNO.out]; rfl, rfl⟩
    · have he : xs.all okC = true := by rw [hall, List.drop_eq_nil_of_le (by omega)]; rfl
      obtain rfl : pos = xs.length := by omega
      by_cases h1 : 1 ≤ xs.length
      · have n1 : decide ((1 : Int) ≤ (xs.length : Int)) = true := by simp; omega
        by_cases h2 : xs.length ≤ 15
        · have n2 : decide ((xs.length : Int) ≤ 15) = true := by simp; omega
          have hb : nameB xs = true := by simp [nameB, h1, h2, he]
          have HB := Lib.hid hb
          clear hall he hb h1 h2
          go_wp2_with fail
          go_ret
          exact ⟨by rw [HB.out]; rfl, rfl⟩
        · have n2 : decide ((xs.length : Int) ≤ 15) = false := by simp; omega
          have hb : nameB xs = false := by simp [nameB, h2]
          have HB := Lib.hid hb
          clear hall he hb h1 h2
          go_wp2_with fail
          go_ret
          exact ⟨by rw [HB.out]; rfl, rfl⟩
      · have n1 : decide ((1 : Int) ≤ (xs.length : Int)) = false := by simp; omega
        have hb : nameB xs = false := by simp [nameB, h1]
        have HB := Lib.hid hb
        clear hall he hb h1
        go_wp2_with fail
        go_ret
        exact ⟨by rw [HB.out]; rfl, rfl⟩

/-! ### how many blocks -/
set_option maxRecDepth 100000 in
theorem need_any (n : Int) (w : World) (h : -9223372036854775808 ≤ n ∧ n ≤ 9223372036854775807) :
    Calls Try.prog 10 #[.int .i64 n] w (fun e w' => e = .returned (.int .i64 (needI n)) ∧ w' = w) := by
  by_cases h0 : n ≤ 0
  · have hn : needI n = 0 := by simp [needI, h0]
    have hm : (if n < 0 then (0 : Int) else n) = 0 := by split <;> omega
    rw [hn]
    have n1 : decide ((0 : Int) < n) = false := by simp; omega
    go_enter Try.func10, Try.ntmps10
    go_wp2_with fail
    go_ret
    exact ⟨rfl, rfl⟩
  · have hn : needI n = (n - 1) / 64 + 1 := by simp [needI, h0]
    have HN := Lib.hid hn
    have n0 : decide ((0 : Int) < n) = true := by simp; omega
    have e1 : IntKind.i64.wrap (n / 64) = n / 64 := by rw [IntKind.wrap_i64]; omega
    have e2 : IntKind.i64.wrap (n / 64 * 64) = n / 64 * 64 := by rw [IntKind.wrap_i64]; omega
    by_cases hm : n / 64 * 64 < n
    · have n1 : decide (n / 64 * 64 < n) = true := by simp; omega
      have hr : n / 64 + 1 = needI n := by rw [hn]; omega
      have HR := Lib.hid hr
      clear hn hr
      go_enter Try.func10, Try.ntmps10
      go_wp2_with fail
      go_ret
      exact ⟨by rw [← HR.out]; rfl, rfl⟩
    · have n1 : decide (n / 64 * 64 < n) = false := by simp; omega
      have hr : n / 64 = needI n := by rw [hn]; omega
      have HR := Lib.hid hr
      clear hn hr
      go_enter Try.func10, Try.ntmps10
      go_wp2_with fail
      go_ret
      exact ⟨by rw [← HR.out]; rfl, rfl⟩
set_option maxRecDepth 100000 in
theorem rneed_any (n : Int) (w : World) (h : -9223372036854775808 ≤ n ∧ n ≤ 9223372036854775807) :
    Calls Try.prog 11 #[.int .i64 n] w (fun e w' => e = .returned (.int .i64 (needI n)) ∧ w' = w) := by
  by_cases h0 : n ≤ 0
  · have hn : needI n = 0 := by simp [needI, h0]
    rw [hn]
    go_enter Try.func11, Try.ntmps11
    go_wp2_with fail
    go_ret
    exact ⟨rfl, rfl⟩
  · have hn : needI n = (n - 1) / 64 + 1 := by simp [needI, h0]
    have e1 : IntKind.i64.wrap (n - 1) = n - 1 := by rw [IntKind.wrap_i64]; omega
    go_enter Try.func11, Try.ntmps11
    go_wp2_with fail
    go_ret
    exact ⟨rfl, rfl⟩
end Go.Proofs.Ytcldbgmbkcpdgaa.Ino
