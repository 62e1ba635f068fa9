/-
  DgSum
-/
import Derived.Test.YtncignjfmcajgaaDgTxt
import Derived.Lib.Hide
namespace Go.Proofs.Ytncignjfmcajgaa.Dgt
open Go.RowKit
set_option linter.unusedVariables false
set_option linter.unusedSimpArgs false

theorem decode_high (n b0 b1 b2 b3 : Nat) (h : 128 ≤ b0) : 128 ≤ (Lib.decodeN n b0 b1 b2 b3).1 ∧ (Lib.decodeN n b0 b1 b2 b3).1 < 2147483648 := by
  unfold Lib.decodeN
  repeat' split
  all_goals simp only
  all_goals omega
section
variable {P : Program}
theorem next_low (w : World) (k : Nat) (xs : List UInt8) (pos : Nat) (ty : TypeId) (hk : w.heap[k]? = some (.stringIter ⟨xs.toArray⟩ pos)) (h : pos < xs.length) (ha : xs[pos].toNat < 128) :
    (Instr.next (.pointer (some ⟨k, 0, none⟩)) true ty).run P w = .ok (.tuple #[.bool true, .int .i64 pos, .int .i32 (xs[pos].toNat : Int)]) (w.iterAt k ⟨xs.toArray⟩ (pos + 1)) :=
  Lib.run_next_ascii_at w k ⟨xs.toArray⟩ pos ty hk (by rw [st_size]; exact h) ha
theorem next_high (w : World) (k : Nat) (xs : List UInt8) (pos : Nat) (hk : w.heap[k]? = some (.stringIter ⟨xs.toArray⟩ pos)) (h : pos < xs.length) (ha : 128 ≤ xs[pos].toNat) :
    ∃ (r : Nat) (n : Nat), 128 ≤ r ∧ r < 2147483648 ∧ ∀ ty, (Instr.next (.pointer (some ⟨k, 0, none⟩)) true ty).run P w = .ok (.tuple #[.bool true, .int .i64 pos, .int .i32 (r : Int)]) (w.iterAt k ⟨xs.toArray⟩ n) := by
  have key : 128 ≤ (Utf8.decode ⟨xs.toArray⟩ pos).1 ∧ (Utf8.decode ⟨xs.toArray⟩ pos).1 < 2147483648 := by
    rw [Lib.decode_at]
    refine decode_high _ _ _ _ _ ?_
    have e : (⟨xs.toArray⟩ : ByteArray).get! pos = xs[pos] := by
      simp [ByteArray.get!, h]
    rw [e]
    exact ha
  exact ⟨(Utf8.decode ⟨xs.toArray⟩ pos).1, pos + (Utf8.decode ⟨xs.toArray⟩ pos).2, key.1, key.2, fun ty => Lib.run_next_any_at w k ⟨xs.toArray⟩ pos ty hk (by rw [st_size]; exact h)⟩
theorem next_end (w : World) (k : Nat) (xs : List UInt8) (pos : Nat) (ty : TypeId) (hk : w.heap[k]? = some (.stringIter ⟨xs.toArray⟩ pos)) (h : ¬ pos < xs.length) :
    (Instr.next (.pointer (some ⟨k, 0, none⟩)) true ty).run P w = .ok (.tuple #[.bool false]) w :=
  Lib.run_next_end_at w k ⟨xs.toArray⟩ pos ty hk (by rw [st_size]; exact h)
end
theorem below_iter {w w' : World} {B k : Nat} (h : Below B w w') (hk : B ≤ k) (s : ByteArray) (n : Nat) : Below B w (w'.iterAt k s n) :=
  h.trans ⟨rfl, rfl, rfl, by rw [Lib.iterAt_size]; exact Nat.le_refl _, fun j hj => Lib.iterAt_other _ _ _ _ _ (by omega)⟩

/-- What sum gives back. -/
def sumP (b : Nat) (xs : List UInt8) : Int × Bool :=
  match sumV b xs 0 with
  | none => (0, false)
  | some n => (IntKind.u64.wrap n, !xs.isEmpty)
def SumRel (b : Nat) (w : World) (xs : List UInt8) (g : Nat) (v : Value) (wr : World) : Prop :=
  ∃ pos acc, g = xs.length - pos ∧ pos ≤ xs.length ∧ sumV b xs 0 = sumV b (xs.drop pos) acc ∧ v = .int .u64 (IntKind.u64.wrap (acc : Int)) ∧ wr.heap[w.heap.size]? = some (.stringIter ⟨xs.toArray⟩ pos) ∧ Below w.heap.size w wr
theorem u64_wrap_range (n : Int) : 0 ≤ IntKind.u64.wrap n ∧ IntKind.u64.wrap n < 18446744073709551616 := by simp [IntKind.wrap, IntKind.bits, IntKind.signed]; omega
theorem u64_step (a b d : Nat) (hb : b ≤ 36) (hd : d < 36) : IntKind.u64.wrap (IntKind.u64.wrap (IntKind.u64.wrap (a : Int) * (b : Int)) + (d : Int)) = IntKind.u64.wrap ((a * b + d : Nat) : Int) := by
  simp only [IntKind.wrap, IntKind.bits, IntKind.signed]
  simp only [Bool.false_and, Bool.false_eq_true, if_false]
  rw [Int.emod_add_emod, Int.add_emod, Int.mul_emod, Int.emod_emod, ← Int.mul_emod, ← Int.add_emod]
  norm_cast
set_option maxRecDepth 100000 in
set_option maxHeartbeats 1000000 in
theorem sum_any (b : Nat) (h2 : 2 ≤ b) (h36 : b ≤ 36) (xs : List UInt8) (w : World) (hl : xs.length ≤ 9223372036854775807) :
    Calls Try.prog 18 #[St xs, .int .u64 (b : Int)] w (Gv w (.tuple #[.int .u64 (sumP b xs).1, .bool (sumP b xs).2])) := by
  have hsz := st_size xs
  have hat := World.iter_heap w ⟨xs.toArray⟩ 0
  have hbel : Below w.heap.size w (w.iter ⟨xs.toArray⟩ 0) := (Below.refl _ _).alloc (Nat.le_refl _) _
  have HAT := Lib.hid hat
  have HBEL := Lib.hid hbel
  clear hat hbel
  go_enter Try.func18, Try.ntmps18
  go_wp2_with fail
  go_loopg [6, 8, 9, 10] xs.length (fun g n _ _ _ wr => SumRel b w xs g n wr)
  case atStart => exact ⟨0, 0, by omega, by omega, by simp, rfl, HAT.out, HBEL.out⟩
  case round =>
    obtain ⟨pos, acc, rfl, hp, hs, rfl, hat, bel⟩ := hrel
    have hsp : sumP b xs = match sumV b (xs.drop pos) acc with
        | none => ((0 : Int), false)
        | some n => (IntKind.u64.wrap n, !xs.isEmpty) := by unfold sumP; rw [hs]
    by_cases hlt : pos < xs.length
    · have hd : xs.drop pos = xs[pos] :: xs.drop (pos + 1) := List.drop_eq_getElem_cons hlt
      rw [hd, sumV] at hs hsp
      obtain ⟨r, n, hr, hrw, hnx, hn1⟩ : ∃ (r n : Nat), r < 2147483648 ∧ worthV r = worthV xs[pos].toNat ∧ (∀ ty, (Instr.next (.pointer (some ⟨w.heap.size, 0, none⟩)) true ty).run Try.prog wr = .ok (.tuple #[.bool true, .int .i64 pos, .int .i32 (r : Int)]) (wr.iterAt w.heap.size ⟨xs.toArray⟩ n)) ∧ (worthV xs[pos].toNat < 99 → n = pos + 1) := by
        by_cases ha : xs[pos].toNat < 128
        · exact ⟨_, pos + 1, by omega, rfl, fun ty => next_low wr w.heap.size xs pos ty hat hlt ha, fun _ => rfl⟩
        · obtain ⟨r, n, hr, hr2, hnx⟩ := next_high (P := Try.prog) wr w.heap.size xs pos hat hlt (by omega)
          exact ⟨r, n, hr2, by rw [worth_high r (by omega), worth_high _ (by omega)], hnx, fun h => by rw [worth_high _ (by omega)] at h; omega⟩
      have hat2 := Lib.iterAt_heap wr w.heap.size ⟨xs.toArray⟩ pos n hat
      have bel2 := below_iter bel (Nat.le_refl _) ⟨xs.toArray⟩ n
      have hk := worth_le xs[pos].toNat
      by_cases hw : worthV xs[pos].toNat < b
      · rw [if_pos hw] at hs
        rw [hn1 (by omega)] at hat2 bel2 hnx
        have HR : Hid (SumRel b w xs (xs.length - (pos + 1)) (.int .u64 (IntKind.u64.wrap ((acc * b + worthV xs[pos].toNat : Nat) : Int))) (wr.iterAt w.heap.size ⟨xs.toArray⟩ (pos + 1))) := ⟨pos + 1, _, rfl, by omega, hs, rfl, hat2, bel2⟩
        have hv := fun W => value_any r hr W
        rw [hrw] at hv
        have k1 : decide (worthV xs[pos].toNat < 99) = true := by simp; omega
        have k2 : (if worthV xs[pos].toNat < 99 then (worthV xs[pos].toNat : Int) else 0) = (worthV xs[pos].toNat : Int) := if_pos (by omega)
        rw [k1, k2] at hv
        have HV := Lib.hid hv
        have hst := u64_step acc b (worthV xs[pos].toNat) h36 (by omega)
        have d1 : decide ((b : Int) ≤ (worthV xs[pos].toNat : Int)) = false := by simp; omega
        have d2 : decide (b ≤ worthV xs[pos].toNat) = false := by simp; omega
        clear hat2 bel2 hat bel hsp hs hn1 hv k1 k2 hrw hk HAT HBEL
        generalize worthV xs[pos].toNat = z at *
        generalize wr.iterAt w.heap.size ⟨xs.toArray⟩ (pos + 1) = w2 at *
        generalize acc * b + z = acc2 at *
        go_wp2_with fail
        refine (HV.out _).mono ?_
        rintro e w3 ⟨v, rfl, rfl, rfl⟩
        go_wp2_with fail
        go_roundg (xs.length - (pos + 1))
        case rel => exact HR.out
        case measure => omega
      · rw [if_neg hw] at hsp
        have HE := Lib.hid (hsp : sumP b xs = (0, false))
        have HB2 := Lib.hid bel2
        have hv := fun W => value_any r hr W
        rw [hrw] at hv
        clear hat2 hat bel hsp hs hn1 hrw HAT HBEL bel2
        generalize wr.iterAt w.heap.size ⟨xs.toArray⟩ n = w2 at *
        by_cases h9 : worthV xs[pos].toNat < 99
        · have k1 : decide (worthV xs[pos].toNat < 99) = true := by simp; omega
          have k2 : (if worthV xs[pos].toNat < 99 then (worthV xs[pos].toNat : Int) else 0) = (worthV xs[pos].toNat : Int) := if_pos (by omega)
          rw [k1, k2] at hv
          have HV := Lib.hid hv
          have d1 : decide ((b : Int) ≤ (worthV xs[pos].toNat : Int)) = true := by simp; omega
          have d2 : decide (b ≤ worthV xs[pos].toNat) = true := by simp; omega
          clear hv k1 k2 hk hw h9
          generalize worthV xs[pos].toNat = z at *
          go_wp2_with fail
          refine (HV.out _).mono ?_
          rintro e w3 ⟨v, rfl, rfl, rfl⟩
          go_wp2_with fail
          go_ret2
          exact ⟨by rw [HE.out]; rfl, HB2.out⟩
        · have k1 : decide (worthV xs[pos].toNat < 99) = false := by simp; omega
          have k2 : (if worthV xs[pos].toNat < 99 then (worthV xs[pos].toNat : Int) else 0) = 0 := if_neg (by omega)
          rw [k1, k2] at hv
          have HV := Lib.hid hv
          clear hv k1 k2 hk hw h9
          go_wp2_with fail
          refine (HV.out _).mono ?_
          rintro e w3 ⟨v, rfl, rfl, rfl⟩
          go_wp2_with fail
          go_ret2
          exact ⟨by rw [HE.out]; rfl, HB2.out⟩
    · have hnx := fun ty => next_end (P := Try.prog) wr w.heap.size xs pos ty hat hlt
      rw [List.drop_eq_nil_of_le (by omega), sumV] at hsp
      have HE := Lib.hid hsp
      clear hs hat hsp
      go_wp2_with fail
      go_ret2
      exact ⟨by rw [HE.out]; rfl, bel⟩
end Go.Proofs.Ytncignjfmcajgaa.Dgt
