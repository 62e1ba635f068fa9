/-
  SkLay
-/
import Derived.Test.YtmaoaeebggpbbaaSkMove
import Derived.Test.YtmaoaeebggpbbaaGB
namespace Go.Proofs.Ytmaoaeebggpbbaa.Sk
open Go.RowKit Go.Maps Mm
set_option linter.unusedVariables false
set_option linter.unusedSimpArgs false

/-- Numbers that lie somewhere below block B (asked only where there are any). -/
def IQ (w : World) (B : Nat) (A : Option Addr) (l : List Int) : Prop := l ≠ [] → ∃ ad, A = some ad ∧ ad.block < B ∧ ∀ k x, l[k]? = some x → w.cell? (ad.add k) = some (.int .i64 x)
theorem IQ.keep {w w' : World} {B : Nat} {A : Option Addr} {l : List Int} {F : Nat → Prop} (h : IQ w B A l) (k : Keeps F w w') (hB : B ≤ w.heap.size) (hF : ∀ ad, A = some ad → l ≠ [] → ¬ F ad.block) : IQ w' B A l := by
  intro hn
  obtain ⟨ad, e, hb, hc⟩ := h hn
  refine ⟨ad, e, hb, fun j x hx => ?_⟩
  rw [World.cell?_of_block (w := w) (by rw [block_add]; exact k.block _ (by omega) (hF ad e hn))]
  exact hc j x hx
theorem IQ.below {w w' : World} {B : Nat} {A : Option Addr} {l : List Int} (h : IQ w B A l) (hb : Below B w w') : IQ w' B A l := by
  intro hn
  obtain ⟨ad, e, hlt, hc⟩ := h hn
  exact ⟨ad, e, hlt, fun j x hx => (hb.cell (by rw [block_add]; exact hlt)).trans (hc j x hx)⟩
theorem IQ.at_ {w : World} {B : Nat} {A : Option Addr} {l : List Int} (h : IQ w B A l) {k : Nat} (hk : k < l.length) : ∃ ad, A = some ad ∧ ad.block < B ∧ w.cell? (ad.add k) = some (.int .i64 (l.getD k 0)) := by
  obtain ⟨ad, e, hb, hc⟩ := h (by intro e; subst e; simp at hk)
  refine ⟨ad, e, hb, hc k _ ?_⟩
  rw [List.getD_eq_getElem?_getD, List.getElem?_eq_getElem hk]
  rfl
/-- A row of numbers that fills its block. -/
def vz (z : Int) : Value := .int .i64 z
def RI (w : World) (g : Nat) (zs : List Int) : Prop := w.rowIs g 2 zs.length fun i => vz (zs.getD i 0)
variable {w : World} {v : Option Addr} {p gb mb : Nat} {ok : Bool} {G M : List UInt8} {a lo hi ov un : Int} {g : Nat} {zs : List Int}
theorem RI.lt (h : RI w g zs) : g < w.heap.size := World.rowIs.lt h
theorem RI.cell_ (h : RI w g zs) {k : Nat} (hk : k < zs.length) : w.cell? ⟨g, k, none⟩ = some (.int .i64 (zs.getD k 0)) := World.rowIs.cell h hk
theorem RI.free (h : RI w g zs) (k : Nat) : w.frozen? ⟨g, k, none⟩ = false := World.rowIs.frozen h k
theorem RI.set_ (h : RI w g zs) (k : Nat) (u : Int) : RI (w.setCell ⟨g, k, none⟩ (.int .i64 u)) g (zs.set k u) := by
  unfold RI at *
  rw [List.length_set]
  refine (World.rowIs.set h k (vz u)).congr fun i hi => ?_
  by_cases e : i = k
  · subst e; simp [List.getD_eq_getElem?_getD, hi]
  · rw [if_neg e, List.getD_eq_getElem?_getD, List.getD_eq_getElem?_getD, List.getElem?_set_ne (fun h => e h.symm)]
theorem RI.made (w : World) (n : Nat) : RI (w.alloc (.cells (madeCells #[.int .i64 0] n) 2)) w.heap.size (List.replicate n 0) := by
  have h := World.rowIs_made w (.int .i64 0) n 2
  unfold RI
  rw [List.length_replicate]
  refine h.congr fun i hi => ?_
  simp [vz, List.getD_eq_getElem?_getD, hi]
theorem RI.keep {w' : World} {F : Nat → Prop} (h : RI w g zs) (k : Keeps F w w') (hF : ¬ F g) : RI w' g zs := World.rowIs.of_block h (k.block g h.lt hF)
theorem RI.iq (h : RI w g zs) (B : Nat) (hB : g < B) : IQ w B (some ⟨g, 0, none⟩) zs := by
  intro _
  refine ⟨_, rfl, hB, fun k x hx => ?_⟩
  obtain ⟨hk, e⟩ := List.getElem?_eq_some_iff.1 hx
  rw [show (⟨g, 0, none⟩ : Addr).add k = ⟨g, k, none⟩ by unfold Addr.add; split <;> simp_all, h.cell_ hk, List.getD_eq_getElem?_getD, hx]
  rfl
theorem infoI64 : (Try.prog.info? 2).map (fun i => (i.zero, i.size, i.bytes)) = some (some (.int .i64 0), 1, 8) := by kernel_rfl
theorem makeI (n : Nat) (hn : n ≤ 1000000) (w : World) :
    (Instr.makeSlice 25 (.int .i64 (n : Int)) (.int .i64 (n : Int))).run Try.prog w = .ok (.slice (some ⟨w.heap.size, 0, none⟩) n n) (w.alloc (.cells (madeCells #[.int .i64 0] n) 2)) := by
  obtain ⟨i0, hi, hz0, hz1, hz2⟩ := info_parts infoI64
  exact run_make_row 25 2 i0 (.int .i64 0) Try.underlying25 hi hz0 hz1 rfl .i64 .i64 n (by rw [hz2]; omega) (by omega) w

/-! ### lay -/
/-- The top's cell behind what is to be laid. -/
def preL (M : List UInt8) (a t : Int) (l : List Int) : List UInt8 := if l = [] then M else setM M a (t - 8 * (l.length : Int))
theorem laysL_eq (M : List UInt8) (a t : Int) (l : List Int) : laysL M a t l = layC (preL M a t l) t l := by
  unfold laysL preL
  split
  · rename_i e
    subst e
    rfl
  · rfl
theorem move_lay (h : SM w v p gb mb true G M) (pa : Pa a lo hi ov un) (k : Nat) (hk : k ≤ 32) (ht : topL M a lo hi = hi - 8 * (k : Int)) (l : List Int) (hl : l.length ≤ 100) : Calls Try.prog 67 #[pil v a lo hi ov un, .int .i64 (-(l.length : Int))] w (OutS w v p gb mb true G (preL M a (hi - 8 * (k : Int)) l) (.tuple #[])) := by
  unfold preL
  by_cases e : l = []
  · subst e
    rw [if_pos rfl]
    exact move_none h
  · rw [if_neg e]
    have : l.length ≠ 0 := fun x => e (List.eq_nil_of_length_eq_zero x)
    have := move_at h pa k hk ht (-(l.length : Int)) (by omega) (by omega) (by omega)
    rw [show hi - 8 * (k : Int) + -(l.length : Int) * 8 = hi - 8 * (k : Int) - 8 * (l.length : Int) by omega] at this
    exact this

set_option maxRecDepth 100000 in
set_option maxHeartbeats 800000 in
theorem lay_over (h : SM w v p gb mb ok G M) (pa : Pa a lo hi ov un) (k : Nat) (hk : k ≤ 32) (ht : topL M a lo hi = hi - 8 * (k : Int)) (A : Option Addr) (n c : Nat) (hn : ok = true → 32 < k + n) (hn' : ok = false → 0 < n) : Calls Try.prog 51 #[pil v a lo hi ov un, .slice A n c] w (OutS w v p gb mb ok G M (.int .i64 ov)) := by
  have RM : ∃ r : Int, r < (n : Int) ∧ ∀ W, SM W v p gb mb ok G M → Calls Try.prog 66 #[pil v a lo hi ov un] W (OutS W v p gb mb ok G M (.int .i64 r)) := by
    cases ok with
    | true => exact ⟨32 - (k : Int), by have := hn rfl; omega, fun W hh => room_ok hh pa k hk ht⟩
    | false => exact ⟨0, by have := hn' rfl; omega, fun W hh => room_no hh pa⟩
  obtain ⟨r, hr, RM⟩ := RM
  have RH := Lib.hid RM
  clear RM hn hn'
  have B0 := MB.new h a lo hi ov un
  have K0 := Lib.hid (Keeps.alloc (fun _ => False) w (.cells #[.pointer v, .int .i64 a, .int .i64 lo, .int .i64 hi, .int .i64 ov, .int .i64 un] 71))
  have H0 := Lib.hid h
  clear h
  go_enter Try.func51, Try.ntmps51
  unfold pil
  go_wp2_with fail
  have hB := B0.pb
  have hM := B0.m
  have NS := Lib.hid B0.s
  have F := Lib.hid (Keeps.first H0.out (fun _ x => x) K0.out)
  clear B0
  generalize w.alloc (.cells #[.pointer v, .int .i64 a, .int .i64 lo, .int .i64 hi, .int .i64 ov, .int .i64 un] 71) = w1 at *
  generalize w.heap.size = b at *
  obtain ⟨c0, c1, c2, c3, c4, c5⟩ := PB.c hB
  go_wp2_with fail
  refine (RH.out _ hM).mono ?_
  rintro e w2 ⟨rfl, hM, k2⟩
  have F := Lib.hid (F.out.trans k2)
  have hB := PB.keep hB k2 NS.out
  clear k2 c0 c1 c2 c3 c4 c5
  obtain ⟨c0, c1, c2, c3, c4, c5⟩ := PB.c hB
  have hM := Lib.hid hM
  go_wp2_with fail
  go_ret
  exact ⟨rfl, hM.out, F.out⟩
set_option maxRecDepth 100000 in
set_option maxHeartbeats 1600000 in
theorem lay_at (h : SM w v p gb mb true G M) (pa : Pa a lo hi ov un) (k : Nat) (hk : k ≤ 32) (ht : topL M a lo hi = hi - 8 * (k : Int)) (A : Option Addr) (l : List Int) (c : Nat) (hl : k + l.length ≤ 32) (hq : IQ w w.heap.size A l) (hA : ∀ ad, A = some ad → l ≠ [] → ¬ SF true p mb ad.block) :
    Calls Try.prog 51 #[pil v a lo hi ov un, .slice A l.length c] w (OutS w v p gb mb true G (laysL M a (hi - 8 * (k : Int)) l) (.int .i64 0)) := by
  rw [laysL_eq]
  have bd := pa.bd
  have RH := Lib.hid fun (W : World) (hh : SM W v p gb mb true G M) => room_ok hh pa k hk ht
  have TT := fun (W : World) (hh : SM W v p gb mb true G M) => top_at hh pa
  rw [ht] at TT
  have TH := Lib.hid TT
  have MH := Lib.hid fun (W : World) (hh : SM W v p gb mb true G M) => move_lay hh pa k hk ht l (by omega)
  clear TT
  have tb : lo ≤ hi - 8 * (k : Int) - 8 * (l.length : Int) := by omega
  have tb2 : hi - 8 * (k : Int) ≤ hi := by omega
  generalize hi - 8 * (k : Int) = T at *
  generalize preL M a T l = M1 at *
  have B0 := MB.new h a lo hi ov un
  have K0 := Lib.hid (Keeps.alloc (fun _ => False) w (.cells #[.pointer v, .int .i64 a, .int .i64 lo, .int .i64 hi, .int .i64 ov, .int .i64 un] 71))
  have H0 := Lib.hid h
  clear h ht
  go_enter Try.func51, Try.ntmps51
  unfold pil
  go_wp2_with fail
  have hB := B0.pb
  have hM := B0.m
  have NS := Lib.hid B0.s
  have F := Lib.hid (Keeps.first H0.out (fun _ x => x) K0.out)
  have Q := Lib.hid (fun (W : World) (kk : Keeps (SF true p mb) w W) => IQ.keep hq kk (Nat.le_refl _) hA)
  clear B0 hq
  generalize w.alloc (.cells #[.pointer v, .int .i64 a, .int .i64 lo, .int .i64 hi, .int .i64 ov, .int .i64 un] 71) = w1 at *
  generalize hbb : w.heap.size = b at *
  clear hbb
  obtain ⟨c0, c1, c2, c3, c4, c5⟩ := PB.c hB
  go_wp2_with fail
  refine (RH.out _ hM).mono ?_
  rintro e w2 ⟨rfl, hM, k2⟩
  have F := Lib.hid (F.out.trans k2)
  have hB := PB.keep hB k2 NS.out
  clear k2 c0 c1 c2 c3 c4 c5
  obtain ⟨c0, c1, c2, c3, c4, c5⟩ := PB.c hB
  have x1 : ¬ 32 - (k : Int) < (l.length : Int) := by omega
  go_wp2_with fail
  refine (TH.out _ hM).mono ?_
  rintro e w3 ⟨rfl, hM, k2⟩
  have F := Lib.hid (F.out.trans k2)
  have hB := PB.keep hB k2 NS.out
  clear k2 c0 c1 c2 c3 c4 c5
  obtain ⟨c0, c1, c2, c3, c4, c5⟩ := PB.c hB
  go_wp2_with fail
  refine (MH.out _ hM).mono ?_
  rintro e w4 ⟨rfl, hM, k2⟩
  have F := Lib.hid (F.out.trans k2)
  have hB := Lib.hid (PB.keep hB k2 NS.out)
  have hM := Lib.hid hM
  clear k2 c0 c1 c2 c3 c4 c5 x1 RH TH MH
  go_wp2_with fail
  go_loopw [24, 7, 5] (fun i _ t wr => ∃ j : Nat, j ≤ l.length ∧ i = .int .i64 (j : Int) ∧ t = .int .i64 (T - 8 * (j : Int)) ∧ SM wr v p gb mb true G (layC M1 T (l.take j)) ∧ Keeps (SF true p mb) w wr ∧ PB wr b v a lo hi ov un) (fun i _ _ _ => l.length - (RowKit.intOf i).toNat)
  case atStart => exact ⟨0, by omega, rfl, by simp, hM.out, F.out, hB.out⟩
  case round =>
    clear hM hB F
    obtain ⟨j, hj, rfl, rfl, mr, kr, br⟩ := hrel
    by_cases hlt : j < l.length
    · obtain ⟨ad, rfl, _, hc⟩ := (Q.out _ kr).at_ hlt
      have ST := layC_snoc (l.take j) (l.getD j 0) M1 T
      have e1 : l.take (j + 1) = l.take j ++ [l.getD j 0] := by
        rw [List.take_add_one, List.getElem?_eq_getElem hlt, List.getD_eq_getElem?_getD, List.getElem?_eq_getElem hlt]
        rfl
      rw [← e1, List.length_take, Nat.min_eq_left hj] at ST
      have e2 : T - 8 * (j : Int) - 8 = T - 8 * ((j : Int) + 1) := by omega
      rw [e2] at ST
      have SH := Lib.hid ST
      have SS := sset mr (T - 8 * ((j : Int) + 1)) (l.getD j 0) (by omega) (by omega)
      simp only [setS, if_pos] at SS
      rw [← ST] at SS
      have SSH := Lib.hid SS
      have W1 : IntKind.i64.wrap (T - 8 * (j : Int) - 8) = T - 8 * ((j : Int) + 1) := by rw [e2]; exact IntWalk.i64_in _ (by omega)
      clear ST SS e1 e2 mr SH
      generalize l.getD j 0 = x at *
      obtain ⟨c0, c1, c2, c3, c4, c5⟩ := PB.c br
      have KR := Lib.hid kr
      have BR := Lib.hid br
      clear kr br
      go_wp2_with fail
      refine SSH.out.mono ?_
      rintro e w5 ⟨rfl, m5, k5⟩
      have M5 := Lib.hid m5
      have B5 := Lib.hid (PB.keep BR.out k5 NS.out)
      have K5 := Lib.hid (KR.out.trans k5)
      clear m5 k5
      go_wp2_with fail
      go_roundw
      case rel => exact ⟨j + 1, by omega, by go_num, rfl, M5.out, K5.out, B5.out⟩
      case measure => simp [RowKit.intOf]; omega
    · obtain rfl : j = l.length := by omega
      rw [List.take_length] at mr
      have MR := Lib.hid mr
      have KR := Lib.hid kr
      clear mr kr br
      go_wp2_with fail
      go_ret
      exact ⟨rfl, MR.out, KR.out⟩

/-! ### tell, take, clear -/
/-- How far the numbers have been read: i of them. -/
def telP (M : List UInt8) (t : Int) (n i : Nat) : List Int := (takeL M t n).take i ++ List.replicate (n - i) 0
theorem set_part (L : List Int) (n i : Nat) (hL : L.length = n) (hi : i < n) : (L.take i ++ List.replicate (n - i) (0 : Int)).set i (L.getD i 0) = L.take (i + 1) ++ List.replicate (n - (i + 1)) 0 := by
  have h1 : (L.take i).length = i := by rw [List.length_take]; omega
  rw [List.set_append_right _ _ (by omega), h1, Nat.sub_self, show n - i = (n - (i + 1)) + 1 by omega, List.replicate_succ, List.set_cons_zero, List.take_add_one, List.getD_eq_getElem?_getD, List.getElem?_eq_getElem (by omega), Option.toList_some, List.append_assoc]
  rfl
theorem telP_step (M : List UInt8) (t : Int) (n i : Nat) (hi : i < n) : (telP M t n i).set i (cel M (t + 8 * ((n - 1 - i : Nat) : Int))) = telP M t n (i + 1) := by
  rw [← takeL_get M t n i hi]
  exact set_part _ n i (takeL_len _ _ _) hi
theorem telP_len (M : List UInt8) (t : Int) (n i : Nat) (hi : i ≤ n) : (telP M t n i).length = n := by
  rw [telP, List.length_append, List.length_take, List.length_replicate, takeL_len]
  omega
theorem telP_zero (M : List UInt8) (t : Int) (n : Nat) : telP M t n 0 = List.replicate n 0 := by rw [telP, List.take_zero, List.nil_append, Nat.sub_zero]
theorem telP_end (M : List UInt8) (t : Int) (n : Nat) : telP M t n n = takeL M t n := by
  rw [telP, Nat.sub_self, List.replicate_zero, List.append_nil, List.take_of_length_le (by rw [takeL_len]; omega)]

/-- Numbers in a new block, a throw of 0, the memory as it is. -/
def GivesT (w : World) (v : Option Addr) (p gb mb : Nat) (ok : Bool) (G M : List UInt8) (zs : List Int) (e : Ending) (w' : World) : Prop := ∃ g, e = .returned (.tuple #[.slice (some ⟨g, 0, none⟩) zs.length zs.length, .int .i64 0]) ∧ w.heap.size ≤ g ∧ RI w' g zs ∧ SM w' v p gb mb ok G M ∧ Keeps (SF ok p mb) w w'
set_option maxRecDepth 100000 in
set_option maxHeartbeats 800000 in
theorem tell_under (h : SM w v p gb mb ok G M) (pa : Pa a lo hi ov un) (k : Nat) (hk : k ≤ 32) (ht : topL M a lo hi = hi - 8 * (k : Int)) (n : Int) (hn : (k : Int) < n) : Calls Try.prog 49 #[pil v a lo hi ov un, .int .i64 n] w (OutS w v p gb mb ok G M (.tuple #[.slice none 0 0, .int .i64 un])) := by
  have DH := Lib.hid fun (W : World) (hh : SM W v p gb mb ok G M) => depth_at hh pa k hk ht
  have B0 := MB.new h a lo hi ov un
  have K0 := Lib.hid (Keeps.alloc (fun _ => False) w (.cells #[.pointer v, .int .i64 a, .int .i64 lo, .int .i64 hi, .int .i64 ov, .int .i64 un] 71))
  have H0 := Lib.hid h
  clear h
  have n0 : (0 : Int) < n := by omega
  go_enter Try.func49, Try.ntmps49
  unfold pil
  go_wp2_with fail
  have hB := B0.pb
  have hM := B0.m
  have NS := Lib.hid B0.s
  have F := Lib.hid (Keeps.first H0.out (fun _ x => x) K0.out)
  clear B0
  generalize w.alloc (.cells #[.pointer v, .int .i64 a, .int .i64 lo, .int .i64 hi, .int .i64 ov, .int .i64 un] 71) = w1 at *
  generalize w.heap.size = b at *
  obtain ⟨c0, c1, c2, c3, c4, c5⟩ := PB.c hB
  go_wp2_with fail
  refine (DH.out _ hM).mono ?_
  rintro e w2 ⟨rfl, hM, k2⟩
  have F := Lib.hid (F.out.trans k2)
  have hB := PB.keep hB k2 NS.out
  clear k2 c0 c1 c2 c3 c4 c5
  obtain ⟨c0, c1, c2, c3, c4, c5⟩ := PB.c hB
  have hM := Lib.hid hM
  go_wp2_with fail
  go_quiet (fail)
  go_wp2_with fail
  go_ret2
  exact ⟨rfl, hM.out.keep (Keeps.drewN (fun _ => False) _ _) fun _ _ f => f, F.out.trans (Keeps.drewN _ _ _)⟩
set_option maxRecDepth 100000 in
set_option maxHeartbeats 1600000 in
theorem tell_at (h : SM w v p gb mb ok G M) (pa : Pa a lo hi ov un) (k : Nat) (hk : k ≤ 32) (ht : topL M a lo hi = hi - 8 * (k : Int)) (m : Nat) (hm : m ≤ k) : Calls Try.prog 49 #[pil v a lo hi ov un, .int .i64 (m : Int)] w (GivesT w v p gb mb ok G M (takeL M (hi - 8 * (k : Int)) m)) := by
  have DH := Lib.hid fun (W : World) (hh : SM W v p gb mb ok G M) => depth_at hh pa k hk ht
  have NH := Lib.hid fun (W : World) (hh : SM W v p gb mb ok G M) (j : Nat) (hj : j < k) => nth_at hh pa k hk ht j hj
  have B0 := MB.new h a lo hi ov un
  have K0 := Lib.hid (Keeps.alloc (fun _ => False) w (.cells #[.pointer v, .int .i64 a, .int .i64 lo, .int .i64 hi, .int .i64 ov, .int .i64 un] 71))
  have H0 := Lib.hid h
  clear h
  have x1 : ¬ (k : Int) < (m : Int) := by omega
  go_enter Try.func49, Try.ntmps49
  unfold pil
  go_wp2_with fail
  have hB := B0.pb
  have hM := B0.m
  have NS := Lib.hid B0.s
  have F := Lib.hid (Keeps.first H0.out (fun _ x => x) K0.out)
  clear B0
  generalize w.alloc (.cells #[.pointer v, .int .i64 a, .int .i64 lo, .int .i64 hi, .int .i64 ov, .int .i64 un] 71) = w1 at *
  generalize hbb : w.heap.size = b at *
  obtain ⟨c0, c1, c2, c3, c4, c5⟩ := PB.c hB
  go_wp2_with fail
  refine (DH.out _ hM).mono ?_
  rintro e w2 ⟨rfl, hM, k2⟩
  have F := Lib.hid (F.out.trans k2)
  have hB := PB.keep hB k2 NS.out
  have BW : Hid (b < w2.heap.size) := Lib.hid hB.lt
  clear k2 c0 c1 c2 c3 c4 c5
  obtain ⟨c0, c1, c2, c3, c4, c5⟩ := PB.c hB
  have LT := Lib.hid (fun k hk => SM.ltG hM (k := k) hk)
  have r3 := RI.made w2 m
  have k3 := Keeps.alloc (fun _ => False) w2 (.cells (madeCells #[.int .i64 0] m) 2)
  have sz3 : w2.heap.size < (w2.alloc (.cells (madeCells #[.int .i64 0] m) 2)).heap.size := by simp
  have MK := Lib.hid (makeI m (by omega) w2)
  have hM3 := hM.keep k3 fun _ _ f => f
  have hB3 := PB.keep hB k3 fun f => f
  have F3 := F.out.trans (k3.mono fun _ _ f => f.elim)
  clear hM hB k3
  go_wp2_with (first | ((with_reducible refine here (op := .makeSlice 25 (.tmp 16) (.tmp 16)) ?_); refine wpList_makem_run rfl 25 _ _ rfl _ _ _ rfl rfl MK.out ?_) | fail)
  have gs : w.heap.size ≤ w2.heap.size := by
    have := F.out.size
    omega
  have NG : Hid (¬ SG ok p gb mb w2.heap.size) := Lib.hid fun x => Nat.lt_irrefl _ (LT.out _ x)
  have BG : Hid (b ≠ w2.heap.size) := Lib.hid (Nat.ne_of_lt BW.out)
  rw [← telP_zero M (hi - 8 * (k : Int))] at r3
  generalize w2.alloc (.cells (madeCells #[.int .i64 0] m) 2) = w3 at *
  generalize w2.heap.size = g at *
  generalize hi - 8 * (k : Int) = T at *
  have HB := Lib.hid hB3
  have HM := Lib.hid hM3
  have FH := Lib.hid F3
  have R3 := Lib.hid r3
  clear hB3 hM3 F3 r3 MK c0 c1 c2 c3 c4 c5 F DH K0 H0
  go_loopw [20, 7] (fun i _ wr => ∃ j : Nat, j ≤ m ∧ i = .int .i64 (j : Int) ∧ RI wr g (telP M T m j) ∧ SM wr v p gb mb ok G M ∧ Keeps (SF ok p mb) w wr ∧ PB wr b v a lo hi ov un) (fun i _ _ => m - (RowKit.intOf i).toNat)
  case atStart => exact ⟨0, by omega, rfl, R3.out, HM.out, FH.out, HB.out⟩
  case round =>
    clear R3 HM FH HB
    obtain ⟨j, hj, rfl, rr, mr, kr, br⟩ := hrel
    by_cases hlt : j < m
    · have ST := telP_step M T m j hlt
      have C := NH.out _ mr (m - 1 - j) (by omega)
      have e1 : ((m - 1 - j : Nat) : Int) = (m : Int) - 1 - (j : Int) := by omega
      rw [e1] at ST C
      have CH := Lib.hid C
      have SH := Lib.hid ST
      clear C ST mr e1
      generalize cel M (T + 8 * ((m : Int) - 1 - (j : Int))) = x at *
      have zl := telP_len M T m j hj
      have fz := rr.free j
      have c6 := rr.cell_ (k := j) (by omega)
      obtain ⟨c0, c1, c2, c3, c4, c5⟩ := PB.c br
      have KR := Lib.hid kr
      have BR := Lib.hid br
      have RR := Lib.hid rr
      clear kr br rr
      go_wp2_with fail
      refine CH.out.mono ?_
      rintro e w5 ⟨rfl, m5, k5⟩
      have r5 := RI.keep RR.out k5 fun x => NG.out (SG.of x)
      have f5 := r5.free j
      have d5 := r5.cell_ (k := j) (by omega)
      have r6 := r5.set_ j x
      rw [SH.out] at r6
      have ks : Keeps (fun i => i = g) w5 (w5.setCell ⟨g, j, none⟩ (.int .i64 x)) := Keeps.setCell _ _ _ _ rfl
      have K6 : Hid (Keeps (SF ok p mb) w (w5.setCell ⟨g, j, none⟩ (.int .i64 x))) := Lib.hid (Keeps.thru (KR.out.trans k5) ks (fun _ _ y => y) fun i hi y => by omega)
      have M6 : Hid (SM (w5.setCell ⟨g, j, none⟩ (.int .i64 x)) v p gb mb ok G M) := Lib.hid (SM.keepG m5 ks fun i e => by rw [e]; exact NG.out)
      have B6 : Hid (PB (w5.setCell ⟨g, j, none⟩ (.int .i64 x)) b v a lo hi ov un) := Lib.hid (PB.keep (PB.keep BR.out k5 NS.out) ks BG.out)
      have R6 := Lib.hid r6
      clear m5 k5 r5 r6 ks zl fz c6
      generalize (telP M T m j).getD j 0 = y0 at *
      go_wp2_with fail
      go_roundw
      case rel => exact ⟨j + 1, by omega, by go_num, R6.out, M6.out, K6.out, B6.out⟩
      case measure => simp [RowKit.intOf]; omega
    · obtain rfl : j = m := by omega
      rw [telP_end] at rr
      have MR := Lib.hid mr
      have KR := Lib.hid kr
      have RR := Lib.hid rr
      clear mr kr br rr
      go_wp2_with fail
      go_ret2
      refine ⟨g, ?_, gs, RR.out, MR.out, KR.out⟩
      rw [takeL_len]
      rfl
set_option maxRecDepth 100000 in
set_option maxHeartbeats 1600000 in
theorem tell_neg (h : SM w v p gb mb ok G M) (pa : Pa a lo hi ov un) (k : Nat) (hk : k ≤ 32) (ht : topL M a lo hi = hi - 8 * (k : Int)) (n : Int) (hn : n < 0) : Calls Try.prog 49 #[pil v a lo hi ov un, .int .i64 n] w (GivesT w v p gb mb ok G M (takeL M (hi - 8 * (k : Int)) 0)) := by
  have DH := Lib.hid fun (W : World) (hh : SM W v p gb mb ok G M) => depth_at hh pa k hk ht
  have B0 := MB.new h a lo hi ov un
  have K0 := Lib.hid (Keeps.alloc (fun _ => False) w (.cells #[.pointer v, .int .i64 a, .int .i64 lo, .int .i64 hi, .int .i64 ov, .int .i64 un] 71))
  have H0 := Lib.hid h
  clear h
  have x1 : ¬ (k : Int) < 0 := by omega
  go_enter Try.func49, Try.ntmps49
  unfold pil
  go_wp2_with fail
  have hB := B0.pb
  have hM := B0.m
  have NS := Lib.hid B0.s
  have F := Lib.hid (Keeps.first H0.out (fun _ x => x) K0.out)
  clear B0
  generalize w.alloc (.cells #[.pointer v, .int .i64 a, .int .i64 lo, .int .i64 hi, .int .i64 ov, .int .i64 un] 71) = w1 at *
  generalize hbb : w.heap.size = b at *
  obtain ⟨c0, c1, c2, c3, c4, c5⟩ := PB.c hB
  go_wp2_with fail
  refine (DH.out _ hM).mono ?_
  rintro e w2 ⟨rfl, hM, k2⟩
  have F := Lib.hid (F.out.trans k2)
  clear k2 c0 c1 c2 c3 c4 c5 hB
  have r3 := RI.made w2 0
  have k3 := Keeps.alloc (fun _ => False) w2 (.cells (madeCells #[.int .i64 0] 0) 2)
  have MK := Lib.hid (makeI 0 (by omega) w2)
  have hM3 := hM.keep k3 fun _ _ f => f
  have F3 := F.out.trans (k3.mono fun _ _ f => f.elim)
  have gs : w.heap.size ≤ w2.heap.size := F.out.size
  clear hM k3
  go_wp2_with (first | ((with_reducible refine here (op := .makeSlice 25 (.tmp 16) (.tmp 16)) ?_); refine wpList_makem_run rfl 25 _ _ rfl _ _ _ rfl rfl MK.out ?_) | fail)
  generalize w2.alloc (.cells (madeCells #[.int .i64 0] 0) 2) = w3 at *
  generalize w2.heap.size = g at *
  have HM := Lib.hid hM3
  have FH := Lib.hid F3
  have R3 := Lib.hid r3
  clear hM3 F3 r3 MK F DH K0 H0
  go_loopw [20, 7] (fun i _ wr => i = .int .i64 0 ∧ wr = w3) (fun i _ _ => 0)
  case atStart => exact ⟨rfl, rfl⟩
  case round =>
    obtain ⟨rfl, rfl⟩ := hrel
    go_wp2_with fail
    go_ret2
    refine ⟨g, ?_, by omega, R3.out, HM.out, FH.out⟩
    rfl
theorem tell_any (h : SM w v p gb mb ok G M) (pa : Pa a lo hi ov un) (k : Nat) (hk : k ≤ 32) (ht : topL M a lo hi = hi - 8 * (k : Int)) (n : Int) (hn : n ≤ (k : Int)) : Calls Try.prog 49 #[pil v a lo hi ov un, .int .i64 n] w (GivesT w v p gb mb ok G M (takeL M (hi - 8 * (k : Int)) n.toNat)) := by
  by_cases e : n < 0
  · rw [show n.toNat = 0 by omega]
    exact tell_neg h pa k hk ht n e
  · obtain ⟨m, rfl⟩ := Int.eq_ofNat_of_zero_le (show 0 ≤ n by omega)
    rw [Int.toNat_natCast]
    exact tell_at h pa k hk ht m (by omega)
/-- The top's cell behind n cells taken. -/
def takM (M : List UInt8) (a t : Int) (n : Nat) : List UInt8 := if n = 0 then M else setM M a (t + 8 * (n : Int))
theorem move_take (h : SM w v p gb mb ok G M) (pa : Pa a lo hi ov un) (k : Nat) (hk : k ≤ 32) (ht : topL M a lo hi = hi - 8 * (k : Int)) (n : Nat) (hn : n ≤ k) (hok : ok = true ∨ n = 0) : Calls Try.prog 67 #[pil v a lo hi ov un, .int .i64 (n : Int)] w (OutS w v p gb mb ok G (takM M a (hi - 8 * (k : Int)) n) (.tuple #[])) := by
  unfold takM
  by_cases e : n = 0
  · subst e
    rw [if_pos rfl]
    exact move_none h
  · rw [if_neg e]
    have e' : ok = true := hok.resolve_right e
    subst e'
    have := move_at h pa k hk ht (n : Int) (by omega) (by omega) (by omega)
    rw [Int.mul_comm (n : Int) 8] at this
    exact this
/-- Numbers in a new block, a throw of 0; the memory is M' then. -/
def GivesK (w : World) (v : Option Addr) (p gb mb : Nat) (ok : Bool) (G M' : List UInt8) (zs : List Int) (e : Ending) (w' : World) : Prop := ∃ g, e = .returned (.tuple #[.slice (some ⟨g, 0, none⟩) zs.length zs.length, .int .i64 0]) ∧ w.heap.size ≤ g ∧ RI w' g zs ∧ SM w' v p gb mb ok G M' ∧ Keeps (SF ok p mb) w w'
set_option maxRecDepth 100000 in
set_option maxHeartbeats 800000 in
theorem take_any (h : SM w v p gb mb ok G M) (pa : Pa a lo hi ov un) (k : Nat) (hk : k ≤ 32) (ht : topL M a lo hi = hi - 8 * (k : Int)) (n : Int) (hn : n ≤ (k : Int)) (hok : ok = true ∨ n ≤ 0) : Calls Try.prog 53 #[pil v a lo hi ov un, .int .i64 n] w (GivesK w v p gb mb ok G (takM M a (hi - 8 * (k : Int)) n.toNat) (takeL M (hi - 8 * (k : Int)) n.toNat)) := by
  have TH := Lib.hid fun (W : World) (hh : SM W v p gb mb ok G M) => tell_any hh pa k hk ht n hn
  have MV := Lib.hid fun (W : World) (hh : SM W v p gb mb ok G M) => move_take hh pa k hk ht n.toNat (by omega) (hok.imp id fun x => by omega)
  have zl := takeL_len M (hi - 8 * (k : Int)) n.toNat
  have hm : n.toNat ≤ 32 := by omega
  generalize takeL M (hi - 8 * (k : Int)) n.toNat = zs at *
  generalize takM M a (hi - 8 * (k : Int)) n.toNat = M' at *
  generalize n.toNat = m at *
  have B0 := MB.new h a lo hi ov un
  have K0 := Lib.hid (Keeps.alloc (fun _ => False) w (.cells #[.pointer v, .int .i64 a, .int .i64 lo, .int .i64 hi, .int .i64 ov, .int .i64 un] 71))
  have H0 := Lib.hid h
  clear h ht hok hn
  go_enter Try.func53, Try.ntmps53
  unfold pil
  go_wp2_with fail
  have hB := B0.pb
  have hM := B0.m
  have NS := Lib.hid B0.s
  have F := Lib.hid (Keeps.first H0.out (fun _ x => x) K0.out)
  clear B0
  generalize w.alloc (.cells #[.pointer v, .int .i64 a, .int .i64 lo, .int .i64 hi, .int .i64 ov, .int .i64 un] 71) = w1 at *
  generalize hbb : w.heap.size = b at *
  obtain ⟨c0, c1, c2, c3, c4, c5⟩ := PB.c hB
  go_wp2_with fail
  refine (TH.out _ hM).mono ?_
  rintro e w2 ⟨g, rfl, hg, r2, hM2, k2⟩
  have NG : Hid (¬ SF ok p mb g) := Lib.hid fun x => by have := hM.lt x; omega
  have gw : w.heap.size ≤ g := by have := F.out.size; omega
  have F := Lib.hid (F.out.trans k2)
  have hB := PB.keep hB k2 NS.out
  clear k2 c0 c1 c2 c3 c4 c5 hM
  obtain ⟨c0, c1, c2, c3, c4, c5⟩ := PB.c hB
  have R2 := Lib.hid r2
  clear r2
  rw [zl]
  go_wp2_with fail
  refine (MV.out _ hM2).mono ?_
  rintro e w3 ⟨rfl, hM3, k3⟩
  have F := Lib.hid (F.out.trans k3)
  have R3 := Lib.hid (RI.keep R2.out k3 NG.out)
  have M3 := Lib.hid hM3
  clear k3 hM3 hM2 hB c0 c1 c2 c3 c4 c5 TH MV
  go_wp2_with fail
  go_ret2
  refine ⟨g, ?_, gw, R3.out, M3.out, F.out⟩
  rw [zl]
  rfl
set_option maxRecDepth 100000 in
set_option maxHeartbeats 800000 in
theorem take_under (h : SM w v p gb mb ok G M) (pa : Pa a lo hi ov un) (k : Nat) (hk : k ≤ 32) (ht : topL M a lo hi = hi - 8 * (k : Int)) (n : Int) (hn : (k : Int) < n) : Calls Try.prog 53 #[pil v a lo hi ov un, .int .i64 n] w (OutS w v p gb mb ok G M (.tuple #[.slice none 0 0, .int .i64 un])) := by
  have TH := Lib.hid fun (W : World) (hh : SM W v p gb mb ok G M) => tell_under hh pa k hk ht n hn
  have MV := Lib.hid fun (W : World) (hh : SM W v p gb mb ok G M) => move_none (a := a) (lo := lo) (hi := hi) (ov := ov) (un := un) hh
  have B0 := MB.new h a lo hi ov un
  have K0 := Lib.hid (Keeps.alloc (fun _ => False) w (.cells #[.pointer v, .int .i64 a, .int .i64 lo, .int .i64 hi, .int .i64 ov, .int .i64 un] 71))
  have H0 := Lib.hid h
  clear h ht hn
  go_enter Try.func53, Try.ntmps53
  unfold pil
  go_wp2_with fail
  have hB := B0.pb
  have hM := B0.m
  have NS := Lib.hid B0.s
  have F := Lib.hid (Keeps.first H0.out (fun _ x => x) K0.out)
  clear B0
  generalize w.alloc (.cells #[.pointer v, .int .i64 a, .int .i64 lo, .int .i64 hi, .int .i64 ov, .int .i64 un] 71) = w1 at *
  generalize hbb : w.heap.size = b at *
  obtain ⟨c0, c1, c2, c3, c4, c5⟩ := PB.c hB
  go_wp2_with fail
  refine (TH.out _ hM).mono ?_
  rintro e w2 ⟨rfl, hM2, k2⟩
  have F := Lib.hid (F.out.trans k2)
  have hB := PB.keep hB k2 NS.out
  clear k2 c0 c1 c2 c3 c4 c5 hM
  obtain ⟨c0, c1, c2, c3, c4, c5⟩ := PB.c hB
  go_wp2_with fail
  refine (MV.out _ hM2).mono ?_
  rintro e w3 ⟨rfl, hM3, k3⟩
  have F := Lib.hid (F.out.trans k3)
  have M3 := Lib.hid hM3
  clear k3 hM3 hM2 hB c0 c1 c2 c3 c4 c5 TH MV
  go_wp2_with fail
  go_ret2
  exact ⟨rfl, M3.out, F.out⟩
set_option maxRecDepth 100000 in
set_option maxHeartbeats 800000 in
theorem clear_at (h : SM w v p gb mb ok G M) (pa : Pa a lo hi ov un) : Calls Try.prog 54 #[pil v a lo hi ov un] w (OutS w v p gb mb ok G (setS ok M a hi) (.tuple #[])) := by
  have bd := pa.bd
  have SH := Lib.hid fun (W : World) (hh : SM W v p gb mb ok G M) => sset hh a hi (by omega) (by omega)
  have B0 := MB.new h a lo hi ov un
  have K0 := Lib.hid (Keeps.alloc (fun _ => False) w (.cells #[.pointer v, .int .i64 a, .int .i64 lo, .int .i64 hi, .int .i64 ov, .int .i64 un] 71))
  have H0 := Lib.hid h
  clear h
  go_enter Try.func54, Try.ntmps54
  unfold pil
  go_wp2_with fail
  have hB := B0.pb
  have hM := B0.m
  have NS := Lib.hid B0.s
  have F := Lib.hid (Keeps.first H0.out (fun _ x => x) K0.out)
  clear B0
  generalize w.alloc (.cells #[.pointer v, .int .i64 a, .int .i64 lo, .int .i64 hi, .int .i64 ov, .int .i64 un] 71) = w1 at *
  generalize hbb : w.heap.size = b at *
  obtain ⟨c0, c1, c2, c3, c4, c5⟩ := PB.c hB
  go_wp2_with fail
  refine (SH.out _ hM).mono ?_
  rintro e w2 ⟨rfl, hM2, k2⟩
  have F := Lib.hid (F.out.trans k2)
  have M3 := Lib.hid hM2
  clear k2 hM2 hM hB c0 c1 c2 c3 c4 c5 SH
  go_wp2_with fail
  all_goals
    go_end0
    exact ⟨rfl, M3.out, F.out⟩
end Go.Proofs.Ytmaoaeebggpbbaa.Sk
