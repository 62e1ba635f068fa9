/-
  The contracts of both Encode.
-/
import Derived.Test.YtpabeljealdebaaNdDec
namespace Go.Proofs.Ytpabeljealdebaa
open Go.RowKit Go.Shelf
attribute [local go_sem] Oper.semAt_some

theorem make64 (w : World) :
    (Instr.makeSlice 24 (.int .i64 64) (.int .i64 64)).run Try.prog w = .ok (.slice (some ⟨w.heap.size, 0, none⟩) 64 64) (w.alloc (.cells (madeCells #[.int .u8 0] 64) 5)) := make8 64 (by decide) w
/-- The call hands back bytes and a number, and has written nothing that was there. -/
def GivesBE (w : World) (xs : List UInt8) (E : Int) (e : Ending) (w' : World) : Prop := ∃ R n c, e = .returned (.tuple #[.slice R n c, .int .i64 E]) ∧ xs.length = n ∧ BR w' w'.heap.size R xs ∧ Below w.heap.size w w'
theorem refPut64 (A : Option Addr) (xs : List UInt8) (c : Nat) (a : Int) (n : Nat) (w : World) (hx : BR w w.heap.size A xs) (hl : xs.length = 64) (ha : 0 ≤ a) (ha' : a ≤ 1000) :
    Calls Try.prog 22 #[.slice A 64 c, .int .i64 a, .int .i64 2, .int .u64 n] w fun e w' => ∃ R c', e = .returned (.slice R 64 c') ∧ BR w' w'.heap.size R (putL xs a n 2) ∧ Below w.heap.size w w' := by
  have h := refPutNum_any A xs c a 2 n w hx (by omega) (by omega) (by omega)
  rw [hl] at h
  refine h.mono ?_
  rintro e w' ⟨R, c', rfl, hr, hb⟩
  refine ⟨R, c', ?_, hr, hb⟩
  rw [putL_len, hl]
theorem lePut64 (A : Option Addr) (xs : List UInt8) (c : Nat) (a : Int) (n : Nat) (w : World) (hx : BR w w.heap.size A xs) (hl : xs.length = 64) (ha : 0 ≤ a) :
    Calls Try.prog 20 #[.slice A 64 c, .int .i64 a, .int .i64 2, .int .u64 n] w fun e w' => ∃ R c', e = .returned (.slice R 64 c') ∧ BR w' w'.heap.size R (putL xs a n 2) ∧ Below w.heap.size w w' := by
  have h := lePutNum_any A xs c a 2 n w hx (by omega) (by omega)
  rw [hl] at h
  refine h.mono ?_
  rintro e w' ⟨R, c', rfl, hr, hb⟩
  refine ⟨R, c', ?_, hr, hb⟩
  rw [putL_len, hl]
/-- The first k numbers may be written. -/
def okT (zs : List Int) (k : Nat) : Prop := ∀ j, j < k → 0 ≤ zs.getD j 0 ∧ zs.getD j 0 ≤ 65535
theorem okT_all {zs : List Int} (hl : zs.length = 32) (h : okT zs 32) : okN zs = true := by
  unfold okN
  rw [List.all_eq_true]
  intro z hz
  obtain ⟨i, hi, rfl⟩ := List.mem_iff_getElem.1 hz
  have := h i (by omega)
  rw [List.getD_eq_getElem?_getD, List.getElem?_eq_getElem hi] at this
  simpa using this
theorem okT_bad {zs : List Int} (hl : zs.length = 32) {k : Nat} (hk : k < 32) (h : ¬ (0 ≤ zs.getD k 0 ∧ zs.getD k 0 ≤ 65535)) : okN zs = false := by
  rw [Bool.eq_false_iff]
  intro ho
  unfold okN at ho
  rw [List.all_eq_true] at ho
  have hi : k < zs.length := by omega
  have := ho zs[k] (List.getElem_mem hi)
  rw [List.getD_eq_getElem?_getD, List.getElem?_eq_getElem hi] at h
  simp at this h
  omega
theorem encB_put2 (zs : List Int) (k m : Nat) (hk : k < 32) (hm : zs.getD k 0 = (m : Int)) (hm' : m ≤ 65535) : putL (encB zs k) (2 * (k : Int)) m 2 = encB zs (k + 1) := by
  rw [← encB_put zs k hk, hm]
  congr 1
  unfold u64N
  omega
theorem givesBE_no {w w' : World} {zs : List Int} (h : okN zs = false) (hb : Below w.heap.size w w') : GivesBE w (encO zs) (encN zs) (.returned (.tuple #[.slice none 0 0, .int .i64 1])) w' := by
  have e1 : encO zs = [] := by simp [encO, h]
  have e2 : encN zs = 1 := by simp [encN, h]
  exact ⟨none, 0, 0, by rw [e2], by rw [e1]; rfl, by rw [e1]; exact BR.nil, hb⟩
theorem givesBE_yes {w w' : World} {zs : List Int} {R : Option Addr} {c : Nat} (h : okN zs = true) (hr : BR w' w'.heap.size R (encB zs 32)) (hb : Below w.heap.size w w') : GivesBE w (encO zs) (encN zs) (.returned (.tuple #[.slice R 64 c, .int .i64 0])) w' := by
  have e1 : encO zs = encB zs 32 := by simp [encO, h]
  have e2 : encN zs = 0 := by simp [encN, h]
  exact ⟨R, 64, c, by rw [e2], by rw [e1, encB_len], by rw [e1]; exact hr, hb⟩

/-- What the document's loop keeps. -/
def EncInv (w wr : World) (zs : List Int) (k : Nat) (R : Option Addr) : Prop := NB wr w.heap.size zs ∧ BR wr wr.heap.size R (encB zs k) ∧ Below w.heap.size w wr

set_option maxHeartbeats 1000000 in
theorem refEncode_any (zs : List Int) (w : World) (hl : zs.length = 32) :
    Calls Try.prog 10 #[ng zs] w (GivesBE w (encO zs) (encN zs)) := by
  have hmk := make64
  have b1 := NB.box w zs
  have i0 : EncInv w ((w.alloc (.cells (zs.map I6).toArray 23)).alloc (.cells (madeCells #[.int .u8 0] 64) 5)) zs 0 (some ⟨w.heap.size + 1, 0, none⟩) := by
    refine ⟨b1.below ((Below.refl _ _).alloc (Nat.le_refl _) _) b1.lt, ?_, ((Below.refl _ _).alloc (Nat.le_refl _) _).alloc (by simp) _⟩
    have := (Row8.made (w.alloc (.cells (zs.map I6).toArray 23)) 64 5).br
    rw [World.size_alloc w] at this
    rw [encB_zero]
    exact this
  have HI := Lib.hid i0
  clear i0 b1
  go_enter Try.func10, Try.ntmps10
  go_wp2_with ((with_reducible refine at_ (op := .box 23 (.tmp 0)) ?_); refine wpList_val rfl _ (ex_box 23 (.tmp 0) rfl _ _ rfl (boxN _ _)) ?_)
  clear hmk
  go_loopw [4, 5] (fun b i wr => ∃ k : Nat, ∃ R c, k ≤ 32 ∧ i = .int .i64 k ∧ b = .slice R 64 c ∧ okT zs k ∧ EncInv w wr zs k R) (fun _ i _ => 32 - (intOf i).toNat)
  case atStart => exact ⟨0, _, _, by omega, rfl, rfl, fun j hj => by omega, HI.out⟩
  case round =>
    clear HI
    obtain ⟨k, R, c, hk, rfl, rfl, ho, h1, h2, h3⟩ := hrel
    by_cases hlt : k < 32
    · have c1 := h1.cell (k := k) (by omega)
      by_cases hz : 0 ≤ zs.getD k 0 ∧ zs.getD k 0 ≤ 65535
      · obtain ⟨z0, z1⟩ := hz
        have HO := Lib.hid ho
        obtain ⟨m, hm⟩ := Int.eq_ofNat_of_zero_le z0
        have HB := Lib.hid (encB_put2 zs k m hlt hm (by omega))
        have HM := Lib.hid hm
        rw [hm] at c1 z1
        have hm1 : m ≤ 65535 := by omega
        have hm2 : ¬ ((m : Int) < 0) := by omega
        have hm3 : ¬ ((65535 : Int) < (m : Int)) := by omega
        clear ho hm z0
        go_wp2_with fail
        refine (refPut64 R (encB zs k) c _ m _ h2 (encB_len _ _) (by omega) (by omega)).mono ?_
        rintro e w2 ⟨R2, c2, rfl, r2, k2⟩
        rw [HB.out] at r2
        have HR : Hid (okT zs (k + 1) ∧ EncInv w w2 zs (k + 1) R2) := Lib.hid ⟨fun j hj => by
          by_cases e : j < k
          · exact HO.out j e
          · rw [show j = k from by omega, HM.out]; omega, h1.below k2 h1.lt, r2, h3.trans (k2.mono h3.size)⟩
        clear h1 h2 h3 r2 k2 c1
        go_wp2_with fail
        go_roundw
        case rel => exact ⟨k + 1, R2, c2, by omega, by go_num, rfl, HR.out.1, HR.out.2⟩
        case measure => simp [intOf]; omega
      · have HN := Lib.hid (okT_bad hl hlt hz)
        generalize zs.getD k 0 = z at *
        have HH := Lib.hid h3
        clear ho h2
        rcases Int.lt_or_le z 0 with z0 | z0
        · clear hz
          go_wp2_with fail
          go_ret2
          exact givesBE_no HN.out h3
        · have z1 : (65535 : Int) < z := by omega
          have z2 : ¬ (z < 0) := by omega
          clear hz
          go_wp2_with fail
          go_ret2
          exact givesBE_no HN.out h3
    · obtain rfl : k = 32 := by omega
      have HN := Lib.hid (okT_all hl ho)
      go_wp2_with fail
      go_ret2
      exact givesBE_yes HN.out h2 h3

/-! ### the code's Encode -/
theorem br_kept {W W' : World} {row : Option Nat} {R : Option Addr} {xs : List UInt8} (h : BR W W.heap.size R xs) (hg : W.grownBy W' row) (hr : ∀ r, row = some r → ∃ o : Obj, W.heap[r]? = some o ∧ o.isCells = false) : BR W' W'.heap.size R xs := by
  intro hn
  obtain ⟨ad, e, hb, hc⟩ := h hn
  exact ⟨ad, e, Nat.lt_of_lt_of_le hb hg.size, fun k u hu => cell_kept (hc k u hu) hg hr⟩
theorem others_below {W W' : World} (h : Below W.heap.size W W') : KeepsOthers W W' := ⟨h.size, fun k _ hk _ => (h.block k (Array.getElem?_eq_some_iff.1 hk).1).trans hk⟩
theorem BR.set_box {W : World} {B b : Nat} {t : TypeId} {R R1 : Option Addr} {n c : Nat} {xs : List UInt8} (h : BR W B R xs) (hx : Boxed W b t (.slice R1 n c)) (v : Value) : BR (W.setCell ⟨b, 0, none⟩ v) B R xs := by
  intro hn
  obtain ⟨ad, e, hb, hc⟩ := h hn
  refine ⟨ad, e, hb, fun k u hu => ?_⟩
  have h1 := hc k u hu
  rw [World.cell?_setCell_other]
  · exact h1
  · intro e2
    rw [← e2, hx.cell] at h1
    cases h1
/-- What the loop over the entries keeps. -/
def EntInv (w : World) (zs : List Int) (pre : List EN) (W : World) : Prop :=
  ∃ R c, Boxed W (w.heap.size + 1 + 1) 24 (.slice R 64 c) ∧ BR W W.heap.size R (encF pre) ∧ NB W w.heap.size zs
theorem entInv_own (w : World) (zs : List Int) : Own (fun pre W => EntInv w zs pre W) := by
  rintro s A B row ⟨R, c, h1, h2, h3⟩ hg hr
  exact ⟨R, c, cells_kept h1 hg hr, br_kept h2 hg hr, cells_kept h3 hg hr⟩
def itv (B : Nat) : Value := .func (.func 26) #[] #[.pointer (some ⟨B, 0, none⟩)]

set_option maxRecDepth 100000 in
set_option maxHeartbeats 2000000 in
theorem encode_any (zs : List Int) (w : World) (hl : zs.length = 32) :
    Calls Try.prog 9 #[ng zs] w (GivesBE w (encO zs) (encN zs)) := by
  refine (callsIn_wide (n := 8)).1 ?_
  refine callsIn_of_wp_marks Try.func9 rfl trivial ?_ rfl
  simp only [Try.ntmps9, List.size_toArray, List.length_cons, List.length_nil, Nat.reduceAdd, Nat.reduceSub, Array.replicate_succ, Array.replicate_zero, List.push_toArray, List.append_toArray, List.nil_append, List.cons_append]
  have hmk := make64
  have b1 := NB.box w zs
  have k1 : Below w.heap.size w (w.alloc (.cells (zs.map I6).toArray 23)) := (Below.refl _ _).alloc (Nat.le_refl _) _
  have r1 := (Row8.made (w.alloc (.cells (zs.map I6).toArray 23)) 64 5)
  rw [World.size_alloc w] at r1
  have r2 : Row8 (((w.alloc (.cells (zs.map I6).toArray 23)).alloc (.cells (madeCells #[.int .u8 0] 64) 5)).alloc (.cells #[.slice (some ⟨w.heap.size + 1, 0, none⟩) 64 64] 24)) (w.heap.size + 1) 5 (List.replicate 64 0) := r1.alloc _
  have i1 : EntInv w zs [] (((w.alloc (.cells (zs.map I6).toArray 23)).alloc (.cells (madeCells #[.int .u8 0] 64) 5)).alloc (.cells #[.slice (some ⟨w.heap.size + 1, 0, none⟩) 64 64] 24)) := by
    refine ⟨some ⟨w.heap.size + 1, 0, none⟩, 64, ?_, r2.br, (b1.below ((Below.refl _ _).alloc (Nat.le_refl _) _) b1.lt).below ((Below.refl _ _).alloc (Nat.le_refl _) _) (by simp; omega)⟩
    have := Boxed.new ((w.alloc (.cells (zs.map I6).toArray 23)).alloc (.cells (madeCells #[.int .u8 0] 64) 5)) 24 (.slice (some ⟨w.heap.size + 1, 0, none⟩) 64 64)
    simp only [World.size_alloc] at this
    exact this
  have k2 : Below w.heap.size w (((w.alloc (.cells (zs.map I6).toArray 23)).alloc (.cells (madeCells #[.int .u8 0] 64) 5)).alloc (.cells #[.slice (some ⟨w.heap.size + 1, 0, none⟩) 64 64] 24)) := (k1.alloc k1.size _).alloc (by simp; omega) _
  have hs2 : (((w.alloc (.cells (zs.map I6).toArray 23)).alloc (.cells (madeCells #[.int .u8 0] 64) 5)).alloc (.cells #[.slice (some ⟨w.heap.size + 1, 0, none⟩) 64 64] 24)).heap.size = w.heap.size + 1 + 1 + 1 := by simp
  have HS2 := Lib.hid hs2
  have n1 : NB (((w.alloc (.cells (zs.map I6).toArray 23)).alloc (.cells (madeCells #[.int .u8 0] 64) 5)).alloc (.cells #[.slice (some ⟨w.heap.size + 1, 0, none⟩) 64 64] 24)) w.heap.size zs := by
    obtain ⟨_, _, _, _, h⟩ := i1
    exact h
  have L1 := Lib.hid (n1.load hl)
  clear hs2 b1 k1 r1 r2
  gi_wp2_with (first
    | ((with_reducible refine atIn_ (op := .box 23 (.tmp 0)) ?_); refine wpListIn_val rfl (by intro c h; cases h) rfl _ (ex_box 23 (.tmp 0) rfl _ _ rfl (boxN _ _)) ?_)
    | ((with_reducible refine atIn_ (op := .load 23 (.tmp 1)) ?_); refine wpListIn_val rfl (by intro c h; cases h) rfl _ (ex_load 23 (.tmp 1) rfl _ _ rfl L1.out) ?_))
  clear hmk L1 n1
  generalize (((w.alloc (.cells (zs.map I6).toArray 23)).alloc (.cells (madeCells #[.int .u8 0] 64) 5)).alloc (.cells #[.slice (some ⟨w.heap.size + 1, 0, none⟩) 64 64] 24)) = wa at *
  refine ⟨trivial, ?_⟩
  refine (callsIn_wide.2 (entries_any zs _)).mono ?_
  rintro e w' ⟨rfl, rfl⟩
  have n2 := NB.box wa zs
  have i2 : EntInv w zs [] (wa.alloc (.cells (zs.map I6).toArray 23)) := entInv_own w zs [] _ _ none i1 (World.grownBy_alloc _ _ none) (fun r e => by cases e)
  have k3 := k2.alloc k2.size (.cells (zs.map I6).toArray 23)
  have hs3 : (wa.alloc (.cells (zs.map I6).toArray 23)).heap.size = w.heap.size + 1 + 1 + 1 + 1 := by rw [World.size_alloc, HS2.out]
  rw [HS2.out] at n2 ⊢
  have HS3 := Lib.hid hs3
  clear hs3 HS2 k2 i1
  generalize wa.alloc (.cells (zs.map I6).toArray 23) = w1 at *
  gi_wp2
  refine wpIn_rangeFunc_ownF rfl (by omega) (gf := 26) (lb := #[.pointer (some ⟨w.heap.size + 1 + 1 + 1, 0, none⟩)]) rfl trivial (enters_of Try.func26 (by kernel_rfl) rfl)
    (entries_stops Fence.wide _ trivial rfl (by omega) _ zs hl _ n2) (fun _ _ => trivial) (fun _ _ _ _ _ _ _ _ => trivial) (Below.refl _ _) (fun _ => rfl)
    (fun pre W => EntInv w zs pre W ∧ Below w.heap.size w W)
    (fun _ _ _ => False)
    (OwnFrom.and (Own.from (entInv_own w zs) _) (ownFrom_below (Nat.le_refl _) (by rw [HS3.out]; omega)))
    (fun _ => ownFrom_pure _ _)
    ⟨i2, k3⟩
    (fun x => { tmps := #[ng zs, .pointer (some ⟨w.heap.size, 0, none⟩), .slice none 0 0, .int .i64 0, .pointer (some ⟨w.heap.size + 1 + 1, 0, none⟩), .int .i64 (x.1.1 : Int), .int .i64 x.1.2, .slice (some ⟨w.heap.size + 1, 0, none⟩) 64 64, ng zs, itv (w.heap.size + 1 + 1 + 1), .int .i64 (x.1.1 : Int), .int .i64 x.1.2, undef, undef, undef, undef, undef, undef, undef, undef, undef, undef, undef], defers := [] }) ?assign ?body ?done ?stop
  case assign =>
    intro l x W K hK
    gi_wp2
    exact hK
  case stop =>
    rintro D c pre W _ _ h _
    exact h.elim
  case body =>
    rintro l pre x W ⟨⟨R, c, h1, h2, h3⟩, kW⟩ _
    have hx1 := x.2.1
    have c4 := h1.cell
    have f4 := h1.frozen
    have HU := Lib.hid (u64N_wrap x.1.2)
    gi_wp2
    rw [HU.out, show ((x.1.1 : Int) * 2) = 2 * (x.1.1 : Int) from by omega]
    refine ⟨trivial, ?_⟩
    refine (CallsIn.inRound l (callsIn_wide.2 (lePut64 R (encF pre) c _ (u64N x.1.2) W h2 (encF_len _) (by omega)))).mono ?_
    rintro e W2 ⟨R2, c2, rfl, r2, k2⟩
    rw [← encF_snoc] at r2
    have x2 : Boxed W2 (w.heap.size + 1 + 1) 24 (.slice R 64 c) := (k2.block _ h1.lt).trans h1
    have c5 := x2.cell
    have f5 := x2.frozen
    have o2 := others_below k2
    have n5 := h3.below k2 h3.lt
    have n6 : NB (W2.setCell ⟨w.heap.size + 1 + 1, 0, none⟩ (.slice R2 64 c2)) w.heap.size zs := (Below.heap_setCell _ _ _ _ (by show w.heap.size ≠ w.heap.size + 1 + 1; omega)).trans n5
    have r5 := r2.set_box x2 (.slice R2 64 c2)
    have HR := Lib.hid (show EntInv w zs (pre ++ [x]) (W2.setCell ⟨w.heap.size + 1 + 1, 0, none⟩ (.slice R2 64 c2)) from ⟨R2, c2, x2.set _, by simpa [World.setCell] using r5, n6⟩)
    have HB := Lib.hid ((kW.trans (k2.mono kW.size)).setCell (p := ⟨w.heap.size + 1 + 1, 0, none⟩) (by show w.heap.size ≤ w.heap.size + 1 + 1; omega) (.slice R2 64 c2))
    clear h1 h2 h3 kW c4 f4 r2 k2 x2 n5 n6 r5
    gi_wp2
    exact ⟨o2.trans (KeepsOthers.setCell _ _ _), trivial, HR.out, HB.out⟩
  case done =>
    rintro D ys W hD rfl ⟨⟨R, c, h1, h2, h3⟩, kW⟩ hK
    have c4 := h1.cell
    have L2 := Lib.hid (h3.load hl)
    rw [encF_ents zs 32 (by omega)] at h2
    gi_wp2_with ((with_reducible refine atIn_ (op := .load 23 (.tmp 1)) ?_); refine wpListIn_val rfl (by intro c h; cases h) rfl _ (ex_load 23 (.tmp 1) rfl _ _ rfl L2.out) ?_)
    refine ⟨trivial, ?_⟩
    refine (callsIn_wide.2 (tells_any R (encB zs 32) c zs W h2 (encB_len _ _) hl)).mono ?_
    rintro e W2 ⟨rfl, k2⟩
    rw [decN_encB zs hl]
    have hDW : D < W.heap.size := (Array.getElem?_eq_some_iff.1 hK).1
    have d2 : W2.heap[D]? = some (.deferred (some [])) := (k2.block _ hDW).trans hK
    have x2 : Boxed W2 (w.heap.size + 1 + 1) 24 (.slice R 64 c) := (k2.block _ h1.lt).trans h1
    have c5 := x2.cell
    have r2 := (h2.below k2).more k2.size
    have k3 := kW.trans (k2.mono kW.size)
    have k4 := k3.trans (belowK_b (w := w) (Nat.le_refl _) W2 D _ (.deferred none) (by have := HS3.out; omega) d2 rfl rfl)
    have r3 : BR (W2.putObj D (.deferred none)) (W2.putObj D (.deferred none)).heap.size R (encB zs 32) := br_kept r2 (grownBy_putObj' W2 D (.deferred none)) (fun r e => by cases e; exact ⟨_, d2, rfl⟩)
    clear L2 c4 h1 h2 h3 kW hK k2 k3 r2 x2
    cases ho : okN zs
    · have HO := Lib.hid ho
      clear ho
      gi_wp2
      refine ⟨by simp, .inl ⟨_, _, rfl, run_takeDeferred d2, ?_⟩⟩
      exact ⟨.tuple #[.slice none 0 0, .int .i64 1], results_tmp2 (t := 2) (u := 3) rfl _ _ _, givesBE_no HO.out k4⟩
    · have HO := Lib.hid ho
      clear ho
      gi_wp2
      refine ⟨by simp, .inl ⟨_, _, rfl, run_takeDeferred d2, ?_⟩⟩
      exact ⟨.tuple #[.slice R 64 c, .int .i64 0], results_tmp2 (t := 2) (u := 3) rfl _ _ _, givesBE_yes HO.out r3 k4⟩
end Go.Proofs.Ytpabeljealdebaa
