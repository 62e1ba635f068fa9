/-
  SkRefL
-/
import Derived.Test.YtmaoaeebggpbbaaSkRef
import Derived.Test.YtmaoaeebggpbbaaSkTop
import Derived.Test.YtmaoaeebggpbbaaMmTail
import Derived.Test.YtmaoaeebggpbbaaGA
namespace Go.Proofs.Ytmaoaeebggpbbaa.Sk
open Go.RowKit Go.Maps Mm Hd
set_option linter.unusedVariables false
set_option linter.unusedSimpArgs false
variable {w : World} {mi q b c d e : Nat} {M G : List UInt8} {a lo hi ov un : Int}

/-! ### plain -/
theorem top_set {M : List UInt8} {a lo hi ov un x : Int} (pa : Pa a lo hi ov un) (hl : M.length = 8192) (h1 : lo ≤ x) (h2 : x ≤ hi) (h3 : x % 8 = 0) : topL (setM M a x) a lo hi = x := by
  have bd := pa.bd
  unfold topL
  rw [cel_set M a x (by omega) (by omega) (by omega) (by omega), topV_is (by omega) h1 h2 h3]
theorem takM_len (M : List UInt8) (a t : Int) (n : Nat) : (takM M a t n).length = M.length := by
  unfold takM
  split
  · rfl
  · exact setM_len _ _ _
theorem takM_top {M : List UInt8} (pa : Pa a lo hi ov un) (hl : M.length = 8192) (k : Nat) (hk : k ≤ 32) (ht : topL M a lo hi = hi - 8 * (k : Int)) (n : Nat) (hn : n ≤ k) : topL (takM M a (hi - 8 * (k : Int)) n) a lo hi = hi - 8 * ((k - n : Nat) : Int) := by
  have bd := pa.bd
  unfold takM
  by_cases e : n = 0
  · rw [if_pos e, ht, e]
    rfl
  · rw [if_neg e, top_set pa hl (by omega) (by omega) (by omega)]
    omega
theorem takM_step {M : List UInt8} {a : Int} (ha : 0 ≤ a) (t : Int) (n : Nat) : setM (takM M a t n) a (t + 8 * (n : Int) + 8) = takM M a t (n + 1) := by
  unfold takM
  rw [if_neg (by omega : ¬ n + 1 = 0), show t + 8 * (n : Int) + 8 = t + 8 * ((n + 1 : Nat) : Int) by omega]
  split
  · rfl
  · exact set_set _ _ _ _ ha
theorem takM_cel {M : List UInt8} {a : Int} (ha : 0 ≤ a) (hl : M.length = 8192) (t : Int) (n : Nat) (x : Int) (h1 : a + 8 ≤ x) (h2 : x ≤ 8184) : cel (takM M a t n) x = cel M x := by
  unfold takM
  split
  · rfl
  · exact cel_off _ _ _ _ ha (by omega) (by omega) (by omega)
/-- The last j of them are there. -/
def telB (M : List UInt8) (t : Int) (n j : Nat) : List Int := List.replicate (n - j) 0 ++ (takeL M t n).drop (n - j)
theorem set_back (L : List Int) (k : Nat) (hk : k < L.length) : (List.replicate (k + 1) (0 : Int) ++ L.drop (k + 1)).set k (L.getD k 0) = List.replicate k 0 ++ L.drop k := by
  rw [List.replicate_succ', List.append_assoc, List.set_append_right _ _ (by rw [List.length_replicate]; omega), List.length_replicate, Nat.sub_self, List.drop_eq_getElem_cons hk, List.getD_eq_getElem?_getD, List.getElem?_eq_getElem hk]
  rfl
theorem telB_len (M : List UInt8) (t : Int) (n j : Nat) (hj : j ≤ n) : (telB M t n j).length = n := by
  rw [telB, List.length_append, List.length_replicate, List.length_drop, takeL_len]
  omega
theorem telB_zero (M : List UInt8) (t : Int) (n : Nat) : telB M t n 0 = List.replicate n 0 := by
  rw [telB, Nat.sub_zero, List.drop_of_length_le (by rw [takeL_len]; omega), List.append_nil]
theorem telB_end (M : List UInt8) (t : Int) (n : Nat) : telB M t n n = takeL M t n := by
  rw [telB, Nat.sub_self, List.replicate_zero, List.nil_append, List.drop_zero]
theorem telB_step (M : List UInt8) (t : Int) (n j : Nat) (hj : j < n) : (telB M t n j).set (n - 1 - j) (cel M (t + 8 * (j : Int))) = telB M t n (j + 1) := by
  have e := takeL_get M t n (n - 1 - j) (by omega)
  rw [show n - 1 - (n - 1 - j) = j by omega] at e
  rw [← e]
  have := set_back (takeL M t n) (n - 1 - j) (by rw [takeL_len]; omega)
  rw [show n - 1 - j + 1 = n - j by omega] at this
  unfold telB
  rw [show n - (j + 1) = n - 1 - j by omega]
  exact this
theorem pushesD_len (l : List Int) : ∀ (M : List UInt8) (t : Int), (pushesD M a t l).length = M.length := by
  induction l with
  | nil => intro M t; rfl
  | cons n l ih => intro M t; rw [pushesD, ih, pushD, setM_len, setM_len]
theorem pushesD_snoc (l : List Int) (n : Int) : ∀ (M : List UInt8) (t : Int), pushesD M a t (l ++ [n]) = pushD (pushesD M a t l) a (t - 8 * (l.length : Int)) n := by
  induction l with
  | nil => intro M t; simp [pushesD]
  | cons m l ih =>
    intro M t
    rw [List.cons_append, pushesD, ih, pushesD]
    congr 1
    simp only [List.length_cons]
    omega
theorem push_top {M : List UInt8} (pa : Pa a lo hi ov un) (hl : M.length = 8192) (t n : Int) (h1 : lo ≤ t - 8) (h2 : t ≤ hi) (h3 : t % 8 = 0) : topL (pushD M a t n) a lo hi = t - 8 := top_set pa (by rw [setM_len, hl]) h1 (by omega) (by omega)

theorem Th.newer {b1 : Nat} {w1 w2 : World} (t : Th w q b b1 w1) (k : Keeps (fun k => w.heap.size ≤ k) w1 w2) : Th w q b b1 w2 := ⟨t.new, Keeps.thru t.kp k (fun _ _ x => x) fun i hi x => by omega⟩

theorem Th.on {b1 b2 : Nat} {w1 w2 : World} (t : Th w q b b1 w1) (hb : b2 = b1 ∨ w1.heap.size ≤ b2) (k : Keeps (fun k => k = q ∨ k = b1) w1 w2) : Th w q b b2 w2 := by
  have hs := t.kp.size
  have hn := t.new
  refine ⟨by omega, Keeps.thru t.kp k (fun _ _ x => x) fun i hi x => ?_⟩
  rcases x with x | x
  · exact .inl x
  · rcases hn with h | h
    · exact .inr (by rw [x, h])
    · omega

/-! ### Takes -/
def DocT (w : World) (mi q b d e : Nat) (G M' : List UInt8) (zs : List Int) (en : Ending) (w' : World) : Prop := ∃ g, en = .returned (.tuple #[.slice (some ⟨g, 0, none⟩) zs.length zs.length, .int .i64 0]) ∧ w.heap.size ≤ g ∧ RI w' g zs ∧ Dn w mi q b d e G M' w'
set_option maxRecDepth 100000 in
set_option maxHeartbeats 400000 in
theorem rTakes_under (h : RefH w mi q b c d e M G) (k : Nat) (hk : k ≤ 32) (ht : topL M 32 256 512 = 512 - 8 * (k : Int)) (n : Int) (hn : (k : Int) < n) : Calls Try.prog 39 #[.pointer (some ⟨q, 0, none⟩), .int .i64 n] w (DocO w mi q b d e G M (.tuple #[.slice none 0 0, .int .i64 (-4)])) := by
  have DH := Lib.hid (rDepth_at h k hk ht)
  have HH := Lib.hid h
  have n0 : (0 : Int) < n := by omega
  clear h ht
  go_enter Try.func39, Try.ntmps39
  go_wp2_with fail
  refine DH.out.mono ?_
  rintro e w2 ⟨rfl, rfl⟩
  go_wp2_with fail
  go_ret2
  exact ⟨rfl, Dn.quiet HH.out (Keeps.refl _ _)⟩
set_option maxRecDepth 100000 in
set_option maxHeartbeats 1600000 in
theorem rTakes_nat (h : RefH w mi q b c d e M G) (k : Nat) (hk : k ≤ 32) (ht : topL M 32 256 512 = 512 - 8 * (k : Int)) (m : Nat) (hm : m ≤ k) : Calls Try.prog 39 #[.pointer (some ⟨q, 0, none⟩), .int .i64 (m : Int)] w (DocT w mi q b d e G (takM M 32 (512 - 8 * (k : Int)) m) (takeL M (512 - 8 * (k : Int)) m)) := by
  have DH := Lib.hid (rDepth_at h k hk ht)
  have HH := Lib.hid h
  have HL := h.lt
  have ML := h.bl
  have PH := Lib.hid fun (W : World) (b' c' j : Nat) (hj : j < m) (h' : RefH W mi q b' c' d e (takM M 32 (512 - 8 * (k : Int)) j) G) => by
    have := rPop_ok h' (k - j) (by omega) (by omega) (takM_top paD ML k hk ht j (by omega))
    rw [show 512 - 8 * ((k - j : Nat) : Int) = 512 - 8 * (k : Int) + 8 * (j : Int) by omega, takM_step (by omega), takM_cel (by omega) ML _ _ _ (by omega) (by omega)] at this
    exact this
  have x1 : ¬ (k : Int) < (m : Int) := by omega
  have ST := Lib.hid (telB_step M (512 - 8 * (k : Int)) m)
  have SE := Lib.hid (telB_end M (512 - 8 * (k : Int)) m)
  have SL := Lib.hid (telB_len M (512 - 8 * (k : Int)) m)
  have SZ := Lib.hid (telB_zero M (512 - 8 * (k : Int)) m)
  have T0 : takM M 32 (512 - 8 * (k : Int)) 0 = M := if_pos rfl
  clear h ht ML
  generalize 512 - 8 * (k : Int) = T at *
  go_enter Try.func39, Try.ntmps39
  go_wp2_with fail
  refine DH.out.mono ?_
  rintro e w2 ⟨rfl, rfl⟩
  have MK := Lib.hid (makeI m (by omega) w)
  have r3 := RI.made w m
  have k3 := Keeps.alloc (fun _ => False) w (.cells (madeCells #[.int .i64 0] m) 2)
  have sz3 : w.heap.size < (w.alloc (.cells (madeCells #[.int .i64 0] m) 2)).heap.size := by simp
  have h3 := HH.out.keep k3 fun _ _ _ f => f
  have t3 := (Th.refl w q b).quiet k3
  rw [← SZ.out] at r3
  clear k3
  go_wp2_with (first | ((with_reducible refine here (op := .makeSlice 25 (.tmp 14) (.tmp 14)) ?_); refine wpList_makem_run rfl 25 _ _ rfl _ _ _ rfl rfl MK.out ?_) | fail)
  have gw : w.heap.size ≤ w.heap.size := Nat.le_refl _
  have bg : Hid (b < w.heap.size ∧ q < w.heap.size ∧ d < w.heap.size) := ⟨HL.2.1, HL.1, HL.2.2⟩
  have gn : Hid (∀ W b', Th w q b b' W → b' ≠ w.heap.size → True) := fun _ _ _ _ => trivial
  generalize w.alloc (.cells (madeCells #[.int .i64 0] m) 2) = w3 at *
  generalize hg : w.heap.size = g at *
  have H3 := Lib.hid h3
  have T3 := Lib.hid t3
  have R3 := Lib.hid r3
  clear h3 t3 r3 MK DH HH HL gw gn
  go_loopw [7] (fun i wr => ∃ (j : Nat) (b' c' : Nat) (z : Int), Hid (z = (m : Int) - 1 - (j : Int)) ∧ j ≤ m ∧ i = .int .i64 z ∧ RI wr g (telB M T m j) ∧ RefH wr mi q b' c' d e (takM M 32 T j) G ∧ Th w q b b' wr ∧ b' ≠ g) (fun i _ => (RowKit.intOf i + 1).toNat)
  case atStart => exact ⟨0, b, c, (m : Int) - 1, Lib.hid (by omega), by omega, rfl, R3.out, by rw [T0]; exact H3.out, T3.out, by have := bg.out; omega⟩
  case round =>
    clear H3 T3 R3
    obtain ⟨j, b', c', z, hz, hj, rfl, rr, hr, th, hbg⟩ := hrel
    by_cases hlt : j < m
    · have C := PH.out _ b' c' j hlt hr
      have SH := ST.out j hlt
      have HZ := hz.out
      obtain ⟨y, rfl⟩ := Int.eq_ofNat_of_zero_le (show 0 ≤ z by omega)
      have ey : m - 1 - j = y := by omega
      have yl : y < m := by omega
      rw [ey] at SH
      generalize cel M (T + 8 * (j : Int)) = x at *
      have zl := SL.out j hj
      have fz := rr.free y
      have c6 := rr.cell_ (k := y) (by omega)
      have gr := rr.lt
      have CH := Lib.hid C
      have SHH := Lib.hid SH
      have RR := Lib.hid rr
      have HR := Lib.hid hr
      have TT := Lib.hid th
      have BG := Lib.hid hbg
      have HZZ := Lib.hid HZ
      clear C rr hr th hbg SH HZ ey hz hlt
      generalize (telB M T m j).getD y 0 = y0 at *
      go_wp2_with fail
      refine CH.out.mono ?_
      rintro e w5 ⟨rfl, dn5⟩
      obtain ⟨b6, c6', hb6, r6⟩ := dn5.ref
      have k5 := dn5.kp
      have t6 := Th.on TT.out hb6 k5
      have hgb : ¬ (g = q ∨ g = b') := by
        intro y
        rcases y with y | y
        · have := bg.out; omega
        · exact BG.out y.symm
      have rr5 := RI.keep RR.out k5 hgb
      have rr6 := rr5.set_ y x
      rw [SHH.out] at rr6
      have f5 := rr5.free y
      have d5 := rr5.cell_ (k := y) (by omega)
      have ks : Keeps (fun i => i = g) w5 (w5.setCell ⟨g, y, none⟩ (.int .i64 x)) := Keeps.setCell _ _ _ _ rfl
      have gb6 : g ≠ b6 := by
        rcases hb6 with e | e
        · rw [e]; exact fun y => BG.out y.symm
        · omega
      have R7 := Lib.hid (r6.keep3 ks (by have := bg.out; omega) (fun y => gb6 y.symm) (by have := bg.out; omega))
      have T7 := Lib.hid (Th.newer t6 (ks.mono fun i _ y => by omega))
      have I7 := Lib.hid rr6
      have G7 := Lib.hid gb6
      clear dn5 r6 k5 t6 rr5 rr6 ks hb6 gb6 hgb zl fz c6
      generalize (telB M T m j).getD y 0 = y0 at *
      go_wp2_with fail
      go_roundw
      case rel => exact ⟨j + 1, b6, c6', (y : Int) - 1, Lib.hid (by have := HZZ.out; omega), by have := HZZ.out; omega, rfl, I7.out, R7.out, T7.out, fun y => G7.out y.symm⟩
      case measure => simp [RowKit.intOf]
    · obtain rfl : j = m := by omega
      rw [SE.out] at rr
      have RR := Lib.hid rr
      have D := Lib.hid (Th.dn th hr)
      have x2 : ¬ (0 : Int) ≤ z := by have := hz.out; omega
      have tl := Lib.hid (takeL_len M T j)
      clear hr th hbg rr
      go_wp2_with fail
      go_ret2
      refine ⟨g, ?_, by omega, RR.out, D.out⟩
      rw [tl.out]
      rfl
set_option maxRecDepth 100000 in
set_option maxHeartbeats 800000 in
theorem rTakes_neg (h : RefH w mi q b c d e M G) (k : Nat) (hk : k ≤ 32) (ht : topL M 32 256 512 = 512 - 8 * (k : Int)) (n : Int) (hn : n < 0) : Calls Try.prog 39 #[.pointer (some ⟨q, 0, none⟩), .int .i64 n] w (DocT w mi q b d e G (takM M 32 (512 - 8 * (k : Int)) 0) (takeL M (512 - 8 * (k : Int)) 0)) := by
  have DH := Lib.hid (rDepth_at h k hk ht)
  have HH := Lib.hid h
  have x1 : ¬ (k : Int) < 0 := by omega
  have tl := Lib.hid (takeL_len M (512 - 8 * (k : Int)) 0)
  have T0 : takM M 32 (512 - 8 * (k : Int)) 0 = M := if_pos rfl
  rw [T0]
  have MK := Lib.hid (makeI 0 (by omega) w)
  have k3 := Keeps.alloc (fun _ => False) w (.cells (madeCells #[.int .i64 0] 0) 2)
  have D := Lib.hid (Dn.quiet h k3)
  have R := Lib.hid (RI.made w 0)
  clear h ht k3 T0
  go_enter Try.func39, Try.ntmps39
  go_wp2_with fail
  refine DH.out.mono ?_
  rintro e w2 ⟨rfl, rfl⟩
  go_wp2_with (first | ((with_reducible refine here (op := .makeSlice 25 (.tmp 14) (.tmp 14)) ?_); refine wpList_makem_run rfl 25 _ _ rfl _ _ _ rfl rfl MK.out ?_) | fail)
  generalize w.alloc (.cells (madeCells #[.int .i64 0] 0) 2) = w3 at *
  generalize hg : w.heap.size = g at *
  go_loopw [7] (fun i wr => i = .int .i64 (-1) ∧ wr = w3) (fun i _ => 0)
  case atStart => exact ⟨rfl, rfl⟩
  case round =>
    obtain ⟨rfl, rfl⟩ := hrel
    go_wp2_with fail
    go_ret2
    refine ⟨g, ?_, by omega, R.out, D.out⟩
    rfl
theorem rTakes_any (h : RefH w mi q b c d e M G) (k : Nat) (hk : k ≤ 32) (ht : topL M 32 256 512 = 512 - 8 * (k : Int)) (n : Int) (hn : n ≤ (k : Int)) : Calls Try.prog 39 #[.pointer (some ⟨q, 0, none⟩), .int .i64 n] w (DocT w mi q b d e G (takM M 32 (512 - 8 * (k : Int)) n.toNat) (takeL M (512 - 8 * (k : Int)) n.toNat)) := by
  by_cases e : n < 0
  · rw [show n.toNat = 0 by omega]
    exact rTakes_neg h k hk ht n e
  · obtain ⟨m, rfl⟩ := Int.eq_ofNat_of_zero_le (show 0 ≤ n by omega)
    rw [Int.toNat_natCast]
    exact rTakes_nat h k hk ht m (by omega)

/-! ### Lays -/
set_option maxRecDepth 100000 in
set_option maxHeartbeats 400000 in
theorem rLays_over (h : RefH w mi q b c d e M G) (k : Nat) (hk : k ≤ 32) (ht : topL M 32 256 512 = 512 - 8 * (k : Int)) (A : Option Addr) (n cp : Nat) (hn : 32 < k + n) : Calls Try.prog 41 #[.pointer (some ⟨q, 0, none⟩), .slice A n cp] w (DocO w mi q b d e G M (.int .i64 (-3))) := by
  have DH := Lib.hid (rDepth_at h k hk ht)
  have HH := Lib.hid h
  have x1 : 32 - (k : Int) < (n : Int) := by omega
  clear h ht
  go_enter Try.func41, Try.ntmps41
  go_wp2_with fail
  refine DH.out.mono ?_
  rintro e w2 ⟨rfl, rfl⟩
  go_wp2_with fail
  go_ret
  exact ⟨rfl, Dn.quiet HH.out (Keeps.refl _ _)⟩
set_option maxRecDepth 100000 in
set_option maxHeartbeats 1600000 in
theorem rLays_ok (h : RefH w mi q b c d e M G) (k : Nat) (hk : k ≤ 32) (ht : topL M 32 256 512 = 512 - 8 * (k : Int)) (A : Option Addr) (l : List Int) (cp : Nat) (hl : k + l.length ≤ 32) (hq : IQ w w.heap.size A l) (hA : ∀ ad, A = some ad → l ≠ [] → ad.block ≠ q ∧ ad.block ≠ b) :
    Calls Try.prog 41 #[.pointer (some ⟨q, 0, none⟩), .slice A l.length cp] w (DocO w mi q b d e G (laysL M 32 (512 - 8 * (k : Int)) l) (.int .i64 0)) := by
  rw [← pushes_lays (by omega) _ _ _ (by omega)]
  have DH := Lib.hid (rDepth_at h k hk ht)
  have HH := Lib.hid h
  have x1 : ¬ 32 - (k : Int) < (l.length : Int) := by omega
  have ML := h.bl
  have Q := Lib.hid (fun (W : World) (kk : Keeps (fun i => i = q ∨ i = b) w W) => IQ.keep hq kk (Nat.le_refl _) fun ad e1 e2 y => by
    have := hA ad e1 e2
    rcases y with y | y
    · exact this.1 y
    · exact this.2 y)
  have PH := Lib.hid fun (W : World) (b' c' j : Nat) (hj : j < l.length) (M' : List UInt8) (hM : M'.length = 8192) (h' : RefH W mi q b' c' d e M' G) (ht' : topL M' 32 256 512 = 512 - 8 * ((k + j : Nat) : Int)) => And.intro (rPush_ok h' (k + j) (by omega) ht' (l.getD j 0)) (push_top (M := M') paD hM (512 - 8 * ((k + j : Nat) : Int)) (l.getD j 0) (by omega) (by omega) (by omega))
  have SN := Lib.hid fun (j : Nat) (hj : j < l.length) => show pushesD M 32 (512 - 8 * (k : Int)) (l.take (j + 1)) = pushD (pushesD M 32 (512 - 8 * (k : Int)) (l.take j)) 32 (512 - 8 * ((k + j : Nat) : Int)) (l.getD j 0) by
    have e1 : l.take (j + 1) = l.take j ++ [l.getD j 0] := by
      rw [List.take_add_one, List.getElem?_eq_getElem hj, List.getD_eq_getElem?_getD, List.getElem?_eq_getElem hj]
      rfl
    rw [e1, pushesD_snoc, List.length_take, Nat.min_eq_left (by omega), show 512 - 8 * (k : Int) - 8 * (j : Int) = 512 - 8 * ((k + j : Nat) : Int) by omega]
  have HT := Lib.hid ht
  clear h ht hq hA
  generalize hTT : 512 - 8 * (k : Int) = T at *
  go_enter Try.func41, Try.ntmps41
  go_wp2_with fail
  refine DH.out.mono ?_
  rintro e w2 ⟨rfl, rfl⟩
  go_wp2_with fail
  go_loopw [15, 6] (fun i _ wr => ∃ (j b' c' : Nat), j ≤ l.length ∧ i = .int .i64 (j : Int) ∧ RefH wr mi q b' c' d e (pushesD M 32 T (l.take j)) G ∧ Hid (topL (pushesD M 32 T (l.take j)) 32 256 512 = 512 - 8 * ((k + j : Nat) : Int)) ∧ Th w q b b' wr) (fun i _ _ => l.length - (RowKit.intOf i).toNat)
  case atStart => exact ⟨0, b, c, by omega, rfl, HH.out, Lib.hid (by show topL M 32 256 512 = _; rw [HT.out, ← hTT]; rfl), Th.refl w q b⟩
  case round =>
    clear HH HT
    obtain ⟨j, b', c', hj, rfl, hr, htop, th⟩ := hrel
    by_cases hlt : j < l.length
    · obtain ⟨ad, rfl, _, hc⟩ := (Q.out _ th.kp).at_ hlt
      obtain ⟨C, TP⟩ := PH.out _ b' c' j hlt _ (by rw [pushesD_len, ML]) hr htop.out
      rw [← SN.out j hlt] at C TP
      have TP' : topL (pushesD M 32 T (l.take (j + 1))) 32 256 512 = 512 - 8 * ((k + (j + 1) : Nat) : Int) := by rw [TP]; omega
      have TPH := Lib.hid TP'
      have CH := Lib.hid C
      have TT := Lib.hid th
      clear C TP TP' hr htop th
      generalize l.getD j 0 = x at *
      go_wp2_with fail
      refine CH.out.mono ?_
      rintro e w5 ⟨rfl, dn5⟩
      obtain ⟨b6, c6, hb6, r6⟩ := dn5.ref
      have T6 := Lib.hid (Th.on TT.out hb6 dn5.kp)
      have R6 := Lib.hid r6
      clear dn5 hb6 r6 hc
      go_wp2_with fail
      go_roundw
      case rel => exact ⟨j + 1, b6, c6, by omega, by go_num, R6.out, TPH, T6.out⟩
      case measure => simp [RowKit.intOf]; omega
    · obtain rfl : j = l.length := by omega
      rw [List.take_length] at hr
      have D := Lib.hid (Th.dn th hr)
      clear hr htop th
      go_wp2_with fail
      go_ret
      exact ⟨rfl, D.out⟩
end Go.Proofs.Ytmaoaeebggpbbaa.Sk
