/-
  Ex
-/
import Derived.Test.YtcldbgmbkcpdgaaExBits
import Derived.Test.YtcldbgmbkcpdgaaGA
import Derived.Deep.Slices
namespace Go.Proofs.Ytcldbgmbkcpdgaa.Ex
open Go.ChangeShapes Go.WideShapes Go.ChangeAt Go.RowKit

theorem Try.cellsX : Try.prog.cellsOf 47 = 2 := by kernel_rfl
theorem Try.bytesX : Try.prog.bytesOf 47 = 16 := by kernel_rfl

theorem u32_of_wf {n : Int} (h : (Lit.int .u32 n).wf = true) : 0 ≤ n ∧ n ≤ 4294967295 := by
  simp [Lit.wf, IntKind.min, IntKind.max, IntKind.signed, IntKind.bits] at h
  omega
def xcells (x : EX) : List Value := [.int .i64 x.1, .int .i64 x.2]
/-- Both numbers are ints. -/
def XOk (x : EX) : Prop := (-9223372036854775808 ≤ x.1 ∧ x.1 ≤ 9223372036854775807) ∧ -9223372036854775808 ≤ x.2 ∧ x.2 ≤ 9223372036854775807
/-- The extents lie at 'A' (asked only where there are any), below block B. -/
structure XR (w : World) (B : Nat) (A : Option Addr) (l : List EX) : Prop where
  ar : l ≠ [] → ∃ ad, A = some ad ∧ ad.block < B ∧ ∀ k a, l[k]? = some a → ∀ j v, (xcells a)[j]? = some v → w.cell? ((ad.add (k * 2)).add j) = some v
  ok : ∀ a ∈ l, XOk a
section
variable {w w' : World} {B B' : Nat} {A : Option Addr} {l : List EX}
theorem XR.keep (h : XR w B A l) (hk : ∀ p : Addr, p.block < B → w'.cell? p = w.cell? p) : XR w' B A l := by
  refine ⟨fun hn => ?_, h.ok⟩
  obtain ⟨ad, e, hlt, hc⟩ := h.ar hn
  exact ⟨ad, e, hlt, fun k a ha j v hv => (hk _ (by rw [block_add, block_add]; exact hlt)).trans (hc k a ha j v hv)⟩
theorem XR.below (h : XR w B A l) (hb : Below B w w') : XR w' B A l := h.keep fun _ hp => hb.cell hp
theorem XR.more (h : XR w B A l) (hB : B ≤ B') : XR w B' A l := by
  refine ⟨fun hn => ?_, h.ok⟩
  obtain ⟨ad, e, hlt, hc⟩ := h.ar hn
  exact ⟨ad, e, by omega, hc⟩
theorem XR.nil : XR w B A [] := ⟨fun h => absurd rfl h, fun a ha => by cases ha⟩
/-- Its cells, one by one, as the walk spells them. -/
theorem XR.at_ (h : XR w B A l) {k : Nat} (hk : k < l.length) :
    ∃ ad, A = some ad ∧ ad.block < B ∧ w.cell? (ad.add (k * 2)) = some (.int .i64 l[k].1) ∧ w.cell? ⟨(ad.add (k * 2)).block, (ad.add (k * 2)).off + 1, none⟩ = some (.int .i64 l[k].2) ∧ XOk l[k] := by
  obtain ⟨ad, e, hb, hc⟩ := h.ar (by intro e; subst e; simp at hk)
  have H := hc k l[k] (List.getElem?_eq_getElem hk)
  exact ⟨ad, e, hb, H 0 _ rfl, H 1 _ rfl, h.ok _ (List.getElem_mem hk)⟩
end

section
variable {H : Type} {enc : TypeId × Value → H} {W : World}
set_option maxRecDepth 100000 in
theorem extent_cells {fuel : Nat} {cs : List Value} {x : DataW H × List MemPlace} (h : DataW.trod enc Try.prog W 0 (fun _ => true) true fuel 47 cs = some x) : ∃ a : EX, cs = xcells a ∧ XOk a := by
  obtain ⟨xs, n, _, _, hl, hlen, hg⟩ := DataW.trod_struct Try.underlying47 h
  rw [Try.cellsX] at hl
  match cs, hl with
  | [c0, c1], _ =>
    match xs, hlen with
    | [y0, y1], _ =>
      have g0 := hg 0 _ rfl
      have g1 := hg 1 _ rfl
      obtain ⟨a0, e0, _, w0⟩ := DataW.trod_int Try.underlying3 g0
      obtain ⟨a1, e1, _, w1⟩ := DataW.trod_int Try.underlying3 g1
      cases e0; cases e1
      exact ⟨(a0, a1), rfl, i64_of_wf w0, i64_of_wf w1⟩
theorem extents_in {a : Option Addr} {len cap : Nat} {d : DataW H} {p : List MemPlace} (h : DataW.Trod enc Try.prog W 0 (fun _ => true) true 26 (.slice a len cap) d p) :
    ∃ l : List EX, l.length = len ∧ XR W W.heap.size a l ∧ ∀ (ts : List TypeId) (ds : List (DataW H)) (j : Nat), (DataW.weightsEach Try.prog ts ds).all (· ≤ reachBytes) = true → ts[j]? = some 26 → ds[j]? = some d → len ≤ 8796093022208 := by
  obtain ⟨fuel, hf⟩ := h
  rcases Go.Deep.open_slice Try.underlying26 hf with ⟨e, _⟩ | ⟨ad, len', cap', m, n, D, Pl, e, _, hlc, hcm, hm, hx, hi⟩
  · simp [Value.cells] at e
    obtain ⟨rfl, rfl, rfl⟩ := e
    exact ⟨[], rfl, XR.nil, fun _ _ _ _ _ _ => by omega⟩
  · simp [Value.cells] at e
    obtain ⟨rfl, rfl, rfl⟩ := e
    rw [if_pos rfl] at hm
    subst hm
    have hf : ∀ i, ∃ x : EX, i < len → (∀ j v, (xcells x)[j]? = some v → W.cell? ((ad.add (i * 2)).add j) = some v) ∧ XOk x := by
      intro i
      by_cases hl : i < len
      · obtain ⟨cs', hc, ht⟩ := hi i (by omega)
        rw [Try.cellsX] at hc
        obtain ⟨x, rfl, hx⟩ := extent_cells ht
        obtain ⟨_, _, hat⟩ := World.cells?_some hc
        refine ⟨x, fun _ => ⟨fun j v hv => ?_, hx⟩⟩
        have hj : j < 2 := by
          have := (List.getElem?_eq_some_iff.1 hv).1
          simpa [xcells] using this
        exact (hat j hj).trans hv
      · exact ⟨(0, 0), fun h => absurd h hl⟩
    obtain ⟨f, hf⟩ := Classical.skolem.1 hf
    refine ⟨(List.range len).map f, by simp, ⟨?_, ?_⟩, ?_⟩
    · intro hne
      have h0 : 0 < len := by
        rcases Nat.eq_zero_or_pos len with e | e
        · subst e; simp at hne
        · exact e
      refine ⟨ad, rfl, ?_, fun k x hx => ?_⟩
      · have := World.block_lt_of_cell? _ _ ((hf 0 h0).1 0 _ rfl)
        rwa [block_add, block_add] at this
      · have hk : k < len ∧ f k = x := by
          simp only [List.getElem?_map, Option.map_eq_some_iff] at hx
          obtain ⟨j, hj, rfl⟩ := hx
          obtain ⟨h1, h2⟩ := List.getElem?_eq_some_iff.1 hj
          simp at h1 h2
          exact ⟨h1, by rw [h2]⟩
        obtain ⟨hk, rfl⟩ := hk
        exact (hf k hk).1
    · intro x hx
      simp only [List.mem_map, List.mem_range] at hx
      obtain ⟨i, hi', rfl⟩ := hx
      exact (hf i hi').2
    · intro ts ds j hs ht hd
      simp only [Prod.mk.injEq] at hx
      rw [hx.1] at hd
      have := sized_slice hs ht hd Try.underlying26
      rw [Try.bytesX] at this
      simp only [List.length_map, List.length_range, reachBytes] at this
      omega
end

/-! ### one extent -/
def V (x : EX) : Value := .agg #[.int .i64 x.1, .int .i64 x.2]
set_option maxRecDepth 100000 in
set_option maxHeartbeats 400000 in
theorem inside_any (s n : Int) (w : World) (hs : -9223372036854775808 ≤ s ∧ s ≤ 9223372036854775807) : Calls Try.prog 29 #[.agg #[.int .i64 s, .int .i64 n]] w fun e w' => e = .returned (.bool (decide (ins (s, n)))) ∧ Below w.heap.size w w' := by
  have hw : Below w.heap.size w (w.alloc (.cells #[.int .i64 s, .int .i64 n] 47)) := (Below.refl _ _).alloc (Nat.le_refl _) _
  have HW := Lib.hid hw
  clear hw
  by_cases h1 : 9 ≤ s
  · have ew : IntKind.i64.wrap (32 - s) = 32 - s := by rw [IntKind.wrap_i64]; omega
    by_cases h2 : 1 ≤ n
    · by_cases h3 : n ≤ 32 - s
      · have hi : ins (s, n) := ⟨h1, h2, h3⟩
        have HI := Lib.hid (decide_eq_true hi)
        clear hi
        go_enter Try.func29, Try.ntmps29
        go_wp2_with fail
        go_ret
        exact ⟨by rw [HI.out]; rfl, HW.out⟩
      · have hi : ¬ ins (s, n) := fun h => h3 h.2.2
        have HI := Lib.hid (decide_eq_false hi)
        clear hi
        go_enter Try.func29, Try.ntmps29
        go_wp2_with fail
        go_ret
        exact ⟨by rw [HI.out]; rfl, HW.out⟩
    · have hi : ¬ ins (s, n) := fun h => h2 h.2.1
      have HI := Lib.hid (decide_eq_false hi)
      clear hi
      go_enter Try.func29, Try.ntmps29
      go_wp2_with fail
      go_ret
      exact ⟨by rw [HI.out]; rfl, HW.out⟩
  · have hi : ¬ ins (s, n) := fun h => h1 h.1
    have HI := Lib.hid (decide_eq_false hi)
    clear hi
    go_enter Try.func29, Try.ntmps29
    go_wp2_with fail
    go_ret
    exact ⟨by rw [HI.out]; rfl, HW.out⟩
theorem set_num (s n : Int) (h : ins (s, n)) : ((2 : Int) ^ n.toNat - 1) % 4294967296 * 2 ^ s.toNat % 4294967296 = (setN (exB (s, n)) : Int) := by
  have e := setN_ex (s, n)
  have l : setN (exB (s, n)) < 4294967296 := setN_lt (fun b hb => (ins_mem h hb).2)
  rw [← e] at l ⊢
  simp only at l ⊢
  generalize n.toNat = N at *
  generalize s.toNat = S at *
  have p1 : 0 < (2 : Nat) ^ N := Nat.pow_pos (by decide)
  have p2 : 0 < (2 : Nat) ^ S := Nat.pow_pos (by decide)
  have e1 : (2 : Int) ^ N = ((2 ^ N : Nat) : Int) := by simp
  have e2 : (2 : Int) ^ S = ((2 ^ S : Nat) : Int) := by simp
  have l2 : 2 ^ N - 1 ≤ (2 ^ N - 1) * 2 ^ S := Nat.le_mul_of_pos_right _ p2
  rw [e1, e2]
  clear e1 e2 e
  generalize (2 : Nat) ^ N = a at *
  generalize (2 : Nat) ^ S = b at *
  have e3 : ((a : Int) - 1) % 4294967296 = ((a - 1 : Nat) : Int) := by omega
  rw [e3, ← Int.natCast_mul]
  omega
set_option maxRecDepth 100000 in
set_option maxHeartbeats 400000 in
theorem set_any (x : EX) (w : World) (h : ins x) : Calls Try.prog 30 #[.agg #[.int .i64 x.1, .int .i64 x.2]] w fun e w' => e = .returned (.int .u32 (setN (exB x) : Nat)) ∧ Below w.heap.size w w' := by
  have hw : Below w.heap.size w (w.alloc (.cells #[.int .i64 x.1, .int .i64 x.2] 47)) := (Below.refl _ _).alloc (Nat.le_refl _) _
  have HW := Lib.hid hw
  clear hw
  obtain ⟨s, n⟩ := x
  have HS := Lib.hid (set_num s n h)
  unfold ins at h
  simp only at h
  go_enter Try.func30, Try.ntmps30
  go_wp2_with fail
  go_quiet (fail)
  go_wp2_with fail
  go_ret
  refine ⟨?_, ?_⟩
  · exact congrArg (fun z => Ending.returned (Value.int .u32 z)) HS.out
  · exact below_drewN HW.out _

/-! ### lists -/
def okE (l : List EX) : Int := if ok l = true then 0 else 1
theorem okE_no {l : List EX} (h : ok l = false) : okE l = 1 := by simp [okE, h]
theorem okE_yes {l : List EX} (h : ok l = true) : okE l = 0 := by simp [okE, h]
def Gives (w : World) (v : Value) (e : Ending) (w' : World) : Prop := e = .returned v ∧ Below w.heap.size w w'
set_option maxRecDepth 100000 in
set_option maxHeartbeats 300000 in
theorem check_any (A : Option Addr) (l : List EX) (c : Nat) (w : World) (h : XR w w.heap.size A l) (hl : l.length ≤ 100) :
    Calls Try.prog 22 #[.slice A l.length c] w (Gives w (.int .i64 (okE l))) := by
  go_enter Try.func22, Try.ntmps22
  go_wp2_with fail
  go_loopw [9, 3, 4, 6] (fun i s e _ wr => ∃ (k : Nat) (out : List Nat) (en : Int), k ≤ l.length ∧ i = .int .i64 (k : Int) ∧ s = .int .u32 (setN out : Nat) ∧ e = .int .i64 en ∧ ok l = okL out en (l.drop k) ∧ Good out ∧ 0 ≤ en ∧ en ≤ 32 ∧ Below w.heap.size w wr) (fun i _ _ _ _ => l.length - (intOf i).toNat)
  case atStart => exact ⟨0, [], 0, by omega, rfl, rfl, rfl, rfl, good_nil, by omega, by omega, Below.refl _ _⟩
  case round =>
    obtain ⟨k, out, en, hk, rfl, rfl, rfl, hok, hg, he0, he1, hb⟩ := hrel
    by_cases hlt : k < l.length
    · obtain ⟨ad, rfl, hlb, d0, d1, hx⟩ := (h.below hb).at_ hlt
      have hst := okL_step out en (List.drop_eq_getElem_cons hlt)
      rw [← hok] at hst
      have hsz := hb.size
      have HN := Lib.hid h
      have HO := Lib.hid hok
      clear h hok
      generalize l[k] = x at *
      obtain ⟨s, n⟩ := x
      obtain ⟨hs0, hn0⟩ := hx
      simp only at d0 d1 hs0 hn0
      have b1 := hb.alloc hsz (.cells #[.int .i64 s, .int .i64 n] 47)
      obtain ⟨W1, HW1⟩ : ∃ W1, W1 = wr.alloc (.cells #[.int .i64 s, .int .i64 n] 47) := ⟨_, rfl⟩
      have hat : W1.heap[wr.heap.size]? = some (.cells #[.int .i64 s, .int .i64 n] 47 (0, 0)) := by rw [HW1]; exact heap_alloc_new wr _
      have hs1 : wr.heap.size < W1.heap.size := (Array.getElem?_eq_some_iff.1 hat).1
      rw [← HW1] at b1
      have hin := inside_any s n W1 hs0
      have HB := Lib.hid b1
      have HG := Lib.hid hg
      have HA := Lib.hid hat
      have HIN := Lib.hid hin
      clear b1 hb hg hat hin
      go_wp2_with fail
      rw [← HW1]
      refine HIN.out.mono ?_
      clear HIN
      rintro e w2 ⟨rfl, b2⟩
      have hat2 := (b2.block _ hs1).trans HA.out
      have c0 : w2.cell? ⟨wr.heap.size, 0, none⟩ = some (.int .i64 s) := by rw [cell_of_row _ _ _ _ _ _ hat2]; rfl
      have c1 : w2.cell? ⟨wr.heap.size, 1, none⟩ = some (.int .i64 n) := by rw [cell_of_row _ _ _ _ _ _ hat2]; rfl
      have B2 := Lib.hid (HB.out.trans (b2.mono HB.out.size))
      have HA2 := Lib.hid hat2
      have hs2 : wr.heap.size < w2.heap.size := (Array.getElem?_eq_some_iff.1 hat2).1
      generalize wr.heap.size = g at *
      clear b2 hat2 HW1 HB HA d0 d1 hs1 hsz
      by_cases h1 : ins (s, n)
      · rw [decide_eq_true h1] at hst ⊢
        have h1' := h1
        unfold ins at h1'
        simp only at h1'
        by_cases h2 : s = en
        · have hno : ok l = false := by rw [hst]; simp [h2]
          have HNO := Lib.hid (okE_no hno)
          clear hst hno h1
          subst h2
          go_wp2_with fail
          go_ret
          exact ⟨by rw [HNO.out]; rfl, B2.out⟩
        · have hset := fun w => set_any (s, n) w h1
          have ql : setN (exB (s, n)) < 4294967296 := setN_lt (fun b hb => (ins_mem h1 hb).2)
          have pl := HG.out.lt
          have hand := andI _ _ pl ql
          by_cases h3 : ∀ b ∈ exB (s, n), b ∉ out
          · rw [decide_eq_true h3, decide_eq_true (show (s, n).1 ≠ en from h2), Bool.true_and, Bool.true_and, Bool.true_and] at hst
            rw [(and_setN _ _).2 h3] at hand
            have hor := orI _ _ pl ql
            rw [← setN_append] at hor
            have hg' := HG.out.add h1 h3
            have HST := Lib.hid hst
            have HG' := Lib.hid hg'
            have ew : IntKind.i64.wrap (s + n) = s + n := by rw [IntKind.wrap_i64]; omega
            clear hst hg' h1 h3 HG
            simp only at hset
            generalize hE : setN (out ++ exB (s, n)) = E at *
            have HE := Lib.hid hE
            clear hE
            generalize setN (exB (s, n)) = Q at *
            generalize setN out = P at *
            clear pl ql
            go_wp2_with fail
            refine (hset w2).mono ?_
            rintro e w3 ⟨rfl, b3⟩
            have hat3 := (b3.block _ hs2).trans HA2.out
            have c2 : w3.cell? ⟨g, 0, none⟩ = some (.int .i64 s) := by rw [cell_of_row _ _ _ _ _ _ hat3]; rfl
            have c3 : w3.cell? ⟨g, 1, none⟩ = some (.int .i64 n) := by rw [cell_of_row _ _ _ _ _ _ hat3]; rfl
            have B3 := Lib.hid (B2.out.trans (b3.mono B2.out.size))
            have HA3 := Lib.hid hat3
            have hs3 : g < w3.heap.size := (Array.getElem?_eq_some_iff.1 hat3).1
            clear b3 hat3 c0 c1 B2 HA2 hs2
            go_wp2_with fail
            refine (hset w3).mono ?_
            rintro e w4 ⟨rfl, b4⟩
            have hat4 := (b4.block _ hs3).trans HA3.out
            have c4 : w4.cell? ⟨g, 0, none⟩ = some (.int .i64 s) := by rw [cell_of_row _ _ _ _ _ _ hat4]; rfl
            have c5 : w4.cell? ⟨g, 1, none⟩ = some (.int .i64 n) := by rw [cell_of_row _ _ _ _ _ _ hat4]; rfl
            have B4 := Lib.hid (B3.out.trans (b4.mono B3.out.size))
            clear b4 hat4 c2 c3 B3 HA3 hs3
            go_wp2_with fail
            go_roundw
            case rel => exact ⟨k + 1, out ++ exB (s, n), s + n, by omega, by go_num, by rw [HE.out], rfl, HO.out.trans (HO.out.symm.trans HST.out), HG'.out, by omega, by omega, B4.out⟩
            case measure => simp [intOf]; omega
          · have hno : ok l = false := by rw [hst, decide_eq_false h3]; simp
            have hne : setN out &&& setN (exB (s, n)) ≠ 0 := fun e => h3 ((and_setN _ _).1 e)
            have HNO := Lib.hid (okE_no hno)
            clear hst hno h1 h3
            simp only at hset
            generalize setN (exB (s, n)) = Q at *
            generalize setN out = P at *
            generalize P &&& Q = R at *
            have hr : ((R : Int) != 0) = true := by simp; omega
            clear pl ql hne
            go_wp2_with fail
            refine (hset w2).mono ?_
            rintro e w3 ⟨rfl, b3⟩
            have hat3 := (b3.block _ hs2).trans HA2.out
            have c2 : w3.cell? ⟨g, 0, none⟩ = some (.int .i64 s) := by rw [cell_of_row _ _ _ _ _ _ hat3]; rfl
            have c3 : w3.cell? ⟨g, 1, none⟩ = some (.int .i64 n) := by rw [cell_of_row _ _ _ _ _ _ hat3]; rfl
            have B3 := Lib.hid (B2.out.trans (b3.mono B2.out.size))
            have HA3 := Lib.hid hat3
            have hs3 : g < w3.heap.size := (Array.getElem?_eq_some_iff.1 hat3).1
            clear b3 hat3 c0 c1 B2 HA2 hs2
            go_wp2_with fail
            go_ret
            exact ⟨by rw [HNO.out]; rfl, B3.out⟩
      · have hno : ok l = false := by rw [hst]; simp [h1]
        rw [decide_eq_false h1]
        have HNO := Lib.hid (okE_no hno)
        clear hst hno h1
        go_wp2_with fail
        go_ret
        exact ⟨by rw [HNO.out]; rfl, B2.out⟩
    · obtain rfl : k = l.length := by omega
      have hy : ok l = true := by rw [hok, List.drop_length, okL]
      have HY := Lib.hid (okE_yes hy)
      clear hok hy hg h
      go_wp2_with fail
      go_ret
      exact ⟨by rw [HY.out]; rfl, hb⟩
end Go.Proofs.Ytcldbgmbkcpdgaa.Ex
