/-
  ExRef
-/
import Derived.Test.YtcldbgmbkcpdgaaEx
import Derived.Test.YtcldbgmbkcpdgaaGA
namespace Go.Proofs.Ytcldbgmbkcpdgaa.Ex
open Go.RowKit

theorem okL_take : ∀ (a b : List EX) (out : List Nat) (e : Int), okL out e (a ++ b) = true → okL out e a = true
  | [], _, _, _, _ => rfl
  | x :: r, b, out, e, h => by
    obtain ⟨h1, h2, h3, h4⟩ := (okL_cons _ _ _ _).1 h
    exact (okL_cons _ _ _ _).2 ⟨h1, h2, h3, okL_take r b _ _ h4⟩
theorem ok_take {l : List EX} (h : ok l = true) (k : Nat) : ok (l.take k) = true := okL_take (l.take k) (l.drop k) [] 0 (by rw [List.take_append_drop]; exact h)
theorem ok_ins : ∀ {l : List EX}, ok l = true → ∀ x ∈ l, ins x := fun {l} => snoc_ind (M := fun l => ok l = true → ∀ x ∈ l, ins x) (fun _ _ h => by cases h) (fun q x ih h y hy => by
  obtain ⟨h1, h2, _⟩ := (ok_snoc q x).1 h
  rcases List.mem_append.1 hy with hy | hy
  · exact ih h1 y hy
  · simp at hy; subst hy; exact h2) l
theorem blk_step {l : List EX} {k : Nat} (hk : k < l.length) : blkL (l.take (k + 1)) = blkL (l.take k) ++ exB l[k] := by
  rw [List.take_succ_eq_append_getElem hk, blkL_append, blkL_one]
theorem blkO_yes {l : List EX} (h : ok l = true) : blkO l = blkL l := by simp [blkO, h]
theorem blkO_no {l : List EX} (h : ok l = false) : blkO l = [] := by simp [blkO, h]

set_option maxRecDepth 100000 in
set_option maxHeartbeats 400000 in
theorem bits_any (A : Option Addr) (l : List EX) (c : Nat) (w : World) (h : XR w w.heap.size A l) (hl : l.length ≤ 100) :
    Calls Try.prog 32 #[.slice A l.length c] w (Gives w (.int .u32 (setN (blkO l) : Nat))) := by
  have hck := check_any A l c w h hl
  have HCK := Lib.hid hck
  clear hck
  by_cases hok : ok l = true
  · rw [blkO_yes hok]
    rw [okE_yes hok] at HCK
    have HOK := Lib.hid hok
    clear hok
    go_enter Try.func32, Try.ntmps32
    go_wp2_with fail
    refine HCK.out.mono ?_
    clear HCK
    rintro e w1 ⟨rfl, b1⟩
    have B1 := Lib.hid b1
    clear b1
    go_wp2_with fail
    go_loopw [11, 3, 5] (fun i s _ wr => ∃ (k : Nat), k ≤ l.length ∧ i = .int .i64 (k : Int) ∧ s = .int .u32 (setN (blkL (l.take k)) : Nat) ∧ Below w.heap.size w wr) (fun i _ _ _ => l.length - (intOf i).toNat)
    case atStart => exact ⟨0, by omega, rfl, rfl, B1.out⟩
    case round =>
      obtain ⟨k, hk, rfl, rfl, hb⟩ := hrel
      by_cases hlt : k < l.length
      · obtain ⟨ad, rfl, hlb, d0, d1, hx⟩ := (h.below hb).at_ hlt
        have hst := blk_step hlt
        have hin := ok_ins HOK.out _ (List.getElem_mem hlt)
        have gl := (ok_good _ (ok_take HOK.out k)).lt
        have hsz := hb.size
        have HN := Lib.hid h
        clear h
        generalize l[k] = x at *
        have ql : setN (exB x) < 4294967296 := setN_lt (fun b hb => (ins_mem hin hb).2)
        have hor := orI _ _ gl ql
        rw [← setN_append, ← hst] at hor
        have hset := fun w => set_any x w hin
        clear hst hx hin
        have b1 := hb.alloc hsz (.cells #[.int .i64 x.1, .int .i64 x.2] 47)
        have HB := Lib.hid b1
        obtain ⟨s, n⟩ := x
        simp only at d0 d1 hset
        generalize setN (exB (s, n)) = Q at *
        generalize hE : setN (blkL (l.take (k + 1))) = E at *
        have HE := Lib.hid hE
        clear hE b1 hb
        generalize setN (blkL (l.take k)) = P at *
        clear gl ql
        go_wp2_with fail
        refine (hset _).mono ?_
        rintro e w4 ⟨rfl, b4⟩
        have B4 := Lib.hid (HB.out.trans (b4.mono HB.out.size))
        clear b4
        go_wp2_with fail
        go_roundw
        case rel => exact ⟨k + 1, by omega, by go_num, by rw [HE.out], B4.out⟩
        case measure => simp [intOf]; omega
      · obtain rfl : k = l.length := by omega
        rw [List.take_length]
        clear h
        go_wp2_with fail
        go_ret
        exact ⟨rfl, hb⟩
  · have hno : ok l = false := by simpa using hok
    rw [blkO_no hno]
    rw [okE_no hno] at HCK
    clear hok
    go_enter Try.func32, Try.ntmps32
    go_wp2_with fail
    refine HCK.out.mono ?_
    rintro e w1 ⟨rfl, b1⟩
    go_wp2_with fail
    go_ret
    exact ⟨rfl, b1⟩
set_option maxRecDepth 100000 in
theorem total_any (A : Option Addr) (l : List EX) (c : Nat) (w : World) (h : XR w w.heap.size A l) (hl : l.length ≤ 100) :
    Calls Try.prog 23 #[.slice A l.length c] w (Gives w (.int .i64 ((blkO l).length : Nat))) := by
  have hb := bits_any A l c w h hl
  have ho := fun w => ones_any (setN (blkO l)) (blkO_good l).lt w
  rw [count_good (blkO_good l)] at ho
  generalize setN (blkO l) = s at *
  generalize (blkO l).length = n at *
  clear h
  go_enter Try.func23, Try.ntmps23
  go_wp2_with fail
  refine hb.mono ?_
  rintro e w1 ⟨rfl, b1⟩
  go_wp2_with fail
  refine (ho w1).mono ?_
  rintro e w2 ⟨rfl, b2⟩
  have B2 := Lib.hid (b1.trans (b2.mono b1.size))
  clear b1 b2
  go_wp2_with fail
  go_ret
  exact ⟨rfl, B2.out⟩
/-- Numbers that lie somewhere, perhaps behind others. -/
def JR (w : World) (R : Option Addr) (l : List Nat) : Prop := ∀ (k x : Nat), l[k]? = some x → ∃ g o, R = some ⟨g, o, none⟩ ∧ g < w.heap.size ∧ w.cell? ⟨g, o + k, none⟩ = some (.int .i64 (x : Int))
theorem IR.jr {w : World} {R : Option Addr} {l : List Nat} (h : IR w R l) : JR w R l := fun k x hx => by
  obtain ⟨g, e, hg, hc⟩ := h k x hx
  exact ⟨g, 0, e, hg, by rw [Nat.zero_add]; exact hc⟩
theorem JR.at_ {w : World} {R : Option Addr} {l : List Nat} (h : JR w R l) {k : Nat} (hk : k < l.length) : ∃ g o, R = some ⟨g, o, none⟩ ∧ g < w.heap.size ∧ w.cell? ⟨g, o + k, none⟩ = some (.int .i64 (l[k] : Int)) := h k _ (List.getElem?_eq_getElem hk)
theorem JR.below {w w' : World} {R : Option Addr} {l : List Nat} (h : JR w R l) (hb : Below w.heap.size w w') : JR w' R l := fun k x hx => by
  obtain ⟨g, o, e, hg, hc⟩ := h k x hx
  exact ⟨g, o, e, Nat.lt_of_lt_of_le hg hb.size, (hb.cell (show (⟨g, o + k, none⟩ : Addr).block < _ from hg)).trans hc⟩
end Go.Proofs.Ytcldbgmbkcpdgaa.Ex
