/-
  HdRd
-/
import Derived.Test.YtceemmnfofjgeaaGreatDoorHdWr
namespace Go.Proofs.YtceemmnfofjgeaaGreatDoor.Hd
open Go.RowKit Ex Ino Mm Fs
set_option linter.unusedVariables false
set_option linter.unusedSimpArgs false

variable {w : World} {p gb mb : Nat} {G M : List UInt8}
theorem rdN_len (x : IN) (a k : Int) (ha : 0 ≤ a) (hs : 0 ≤ szX x ∧ szX x ≤ 1472) : rdN x a k ≤ 1472 := by
  unfold szX at hs
  unfold rdN
  omega
theorem readX_len (g : RG) (n a k : Int) (ha : 0 ≤ a) (hs : 0 ≤ szX (nodeX g.ns n) ∧ szX (nodeX g.ns n) ≤ 1472) : (readX g n a k).length ≤ 1472 := by
  have := rdN_len (nodeX g.ns n) a k ha hs
  unfold readX
  split
  · rw [List.length_take]; omega
  · simp
/-- The memory behind a read of these bytes. -/
def rdM (M : List UInt8) (n : Nat) (N pl : Int) (k : Nat) (E : Int) : List UInt8 := if E = 0 then layH M n (N + 1) (pl + (k : Int)) else M
/-- What Read's inner function leaves: the bytes' slice in box q. -/
def RdR (w : World) (p gb mb q : Nat) (G M' xs : List UInt8) (E0 : Int) (E : Int) (W' : World) : Prop := E = E0 ∧ (∃ A c, Boxed W' q 31 (.slice A xs.length c) ∧ BR W' W'.heap.size A xs ∧ ∀ ad, A = some ad → w.heap.size ≤ ad.block) ∧ MemAt W' p gb mb G M' ∧ Keeps (fun j => j = p ∨ j = mb ∨ j = q) w W'
set_option maxRecDepth 100000 in
set_option maxHeartbeats 2000000 in
theorem hread1_any (h : MemAt w p gb mb G M) (ho : okR (regB M)) (hg : RGood ⟨regB M, readN (regB M)⟩) (n : Nat) (h1 : 1 ≤ n) (h4 : n ≤ 4) (N pl sz K : Int) (hN : 0 ≤ N ∧ N ≤ 8) (hpl : 0 ≤ pl ∧ pl ≤ 1000000) (hK : -9223372036854775808 ≤ K ∧ K ≤ 9223372036854775807)
    (hxl : (readX ⟨regB M, readN (regB M)⟩ N pl K).length ≤ 1472) {q1 q2 q3 q4 : Nat} (v : Value)
    (x1 : Boxed w q1 25 (.pointer (some ⟨p, 0, none⟩))) (x2 : Boxed w q2 3 (.int .i64 K)) (x3 : Boxed w q3 31 v) (x4 : Boxed w q4 3 (.int .i64 (n : Int)))
    (e1 : q1 ≠ p ∧ q1 ≠ mb ∧ q1 ≠ q3) (e2 : q2 ≠ p ∧ q2 ≠ mb) (e3 : q3 ≠ p ∧ q3 ≠ mb ∧ q3 ≠ gb) (e4 : q4 ≠ p ∧ q4 ≠ mb ∧ q4 ≠ q3) :
    Calls Tryz.prog 77 #[agO N pl sz, .pointer (some ⟨q1, 0, none⟩), .pointer (some ⟨q2, 0, none⟩), .pointer (some ⟨q3, 0, none⟩), .pointer (some ⟨q4, 0, none⟩)] w
      (RetE (RdR w p gb mb q3 G (rdM M n N pl (readX ⟨regB M, readN (regB M)⟩ N pl K).length (readE ⟨regB M, readN (regB M)⟩ N pl K)) (readX ⟨regB M, readN (regB M)⟩ N pl K) (readE ⟨regB M, readN (regB M)⟩ N pl K))) := by
  have c1 := (x1.alloc (.cells #[.int .i64 N, .int .i64 pl, .int .i64 sz] 108)).cell
  have c2 := (x2.alloc (.cells #[.int .i64 N, .int .i64 pl, .int .i64 sz] 108)).cell
  have k0 : Keeps (fun _ => False) w (w.alloc (.cells #[.int .i64 N, .int .i64 pl, .int .i64 sz] 108)) := Keeps.alloc _ _ _
  have K0 : Hid (Keeps (fun j => j = p ∨ j = mb ∨ j = q3) w (w.alloc (.cells #[.int .i64 N, .int .i64 pl, .int .i64 sz] 108))) := Keeps.alloc _ _ _
  have HW := Lib.hid (fread_any (memC_flat (h.keep k0 (fun f => f) (fun f => f) (fun f => f))) ho hg N pl K (by omega) hK)
  have LT := Lib.hid h.lt
  have HX := Lib.hid (And.intro x1 (And.intro x3 x4))
  have HE := Lib.hid (And.intro e1 (And.intro e3 e4))
  have LL := Lib.hid (And.intro x1.lt (And.intro x3.lt x4.lt))
  clear h ho hg k0 x1 x2 x3 x4 e1 e2 e3 e4
  generalize readX ⟨regB M, readN (regB M)⟩ N pl K = xs at *
  generalize readE ⟨regB M, readN (regB M)⟩ N pl K = E at *
  unfold agO
  go_enter Tryz.func77, Tryz.ntmps77
  go_wp2_with fail
  refine HW.out.mono ?_
  rintro e w2 ⟨m2, k2, A, c, rfl, br, hnew⟩
  generalize hk : xs.length = k at *
  have hl := LT.out
  have hx := HX.out
  have he := HE.out
  have ll := LL.out
  have s2 := k2.size
  rw [World.size_alloc] at s2
  have b1 : Boxed w2 q1 25 (.pointer (some ⟨p, 0, none⟩)) := (k2.block _ (hx.1.alloc _).lt (by omega)).trans (hx.1.alloc _)
  have b3 : Boxed w2 q3 31 v := (k2.block _ (hx.2.1.alloc _).lt (by omega)).trans (hx.2.1.alloc _)
  have b4 : Boxed w2 q4 3 (.int .i64 (n : Int)) := (k2.block _ (hx.2.2.alloc _).lt (by omega)).trans (hx.2.2.alloc _)
  have bo : w2.heap[w.heap.size]? = some (.cells #[.int .i64 N, .int .i64 pl, .int .i64 sz] 108 (0, 0)) := by
    rw [k2.block _ (by rw [World.size_alloc]; omega) (by omega)]
    exact heap_alloc_new w _
  have u3 := b3.cell
  have f3 := frozen_of_row _ _ 0 _ _ b3
  have ks := Keeps.setCell (fun j => j = q3) w2 ⟨q3, 0, none⟩ (.slice A k c) rfl
  have b1' : Boxed (w2.setCell ⟨q3, 0, none⟩ (.slice A k c)) q1 25 (.pointer (some ⟨p, 0, none⟩)) := (ks.block _ b1.lt (by omega)).trans b1
  have b4' : Boxed (w2.setCell ⟨q3, 0, none⟩ (.slice A k c)) q4 3 (.int .i64 (n : Int)) := (ks.block _ b4.lt (by omega)).trans b4
  have b3' := boxed_set b3 (.slice A k c)
  have bo' : (w2.setCell ⟨q3, 0, none⟩ (.slice A k c)).heap[w.heap.size]? = some (.cells #[.int .i64 N, .int .i64 pl, .int .i64 sz] 108 (0, 0)) := (ks.block _ (by omega) (by omega)).trans bo
  have m3 := m2.keep ks (by omega) (by omega) (by omega)
  have br3 := br_keep br ks fun _ ad e f => by have := hnew ad e; rw [World.size_alloc] at this; omega
  have KK : Hid (Keeps (fun j => j = p ∨ j = mb ∨ j = q3) w (w2.setCell ⟨q3, 0, none⟩ (.slice A k c))) := (K0.out.trans (k2.mono fun _ _ e => Or.inr (Or.inl e))).trans (ks.mono fun _ _ e => Or.inr (Or.inr e))
  have NEW : Hid (∀ ad, A = some ad → w.heap.size ≤ ad.block) := fun ad e => by have := hnew ad e; rw [World.size_alloc] at this; omega
  have s3 : w.heap.size + 1 ≤ (w2.setCell ⟨q3, 0, none⟩ (.slice A k c)).heap.size := Nat.le_trans s2 ks.size
  have hset : Hid (∀ W, w2.setCell ⟨q3, 0, none⟩ (.slice A k c) = W → True) := fun _ _ => trivial
  have B3 := Lib.hid b3'
  have BR3 := Lib.hid br3
  have S3 := Lib.hid s3
  clear b1 b4 bo k2 m2 br hnew hx HX b3 br3 s2 s3 hset ks c1 c2
  by_cases hE : E = 0
  · subst hE
    have hw : wrap64 (pl + (k : Int)) = pl + (k : Int) := by unfold wrap64; omega
    have hm := move_any m3 n h1 h4 N pl sz (pl + (k : Int)) (by omega)
    have d1 := b1'.cell
    have d3 := b3'.cell
    have d4 := b4'.cell
    have o0 : (w2.setCell ⟨q3, 0, none⟩ (.slice A k c)).cell? ⟨w.heap.size, 0, none⟩ = some (.int .i64 N) := by rw [cell_of_row _ _ _ _ _ _ bo']; rfl
    have o1 : (w2.setCell ⟨q3, 0, none⟩ (.slice A k c)).cell? ⟨w.heap.size, 1, none⟩ = some (.int .i64 pl) := by rw [cell_of_row _ _ _ _ _ _ bo']; rfl
    have o2 : (w2.setCell ⟨q3, 0, none⟩ (.slice A k c)).cell? ⟨w.heap.size, 2, none⟩ = some (.int .i64 sz) := by rw [cell_of_row _ _ _ _ _ _ bo']; rfl
    unfold agO at hm
    have HM := Lib.hid hm
    clear hm m3 HW b1' b3' b4' bo' he hl ll
    go_wp2_with fail
    try rw [hw]
    refine HM.out.mono ?_
    rintro e w3 ⟨rfl, m4, k4⟩
    have HG : Hid (RetE (RdR w p gb mb q3 G (rdM M n N pl k 0) xs 0) (.returned (.int .i64 0)) w3) := by
      have he := HE.out
      have hl := LT.out
      have ll := LL.out
      have s3 := S3.out
      refine ⟨0, rfl, rfl, ⟨A, c, ?_, br_keep BR3.out k4 fun _ ad e f => by have := NEW.out ad e; omega, NEW.out⟩, by unfold rdM; rw [if_pos rfl]; exact m4, KK.out.trans (k4.mono fun j _ f => by rcases f with f | f; exact .inl f; exact .inr (.inl f))⟩
      rw [hk]
      exact (k4.block _ B3.out.lt (by omega)).trans B3.out
    clear m4 k4 HM
    go_wp2_with fail
    go_ret
    exact HG.out
  · have hd : (E == 0) = false := by simpa using hE
    have HG : Hid (RetE (RdR w p gb mb q3 G (rdM M n N pl k E) xs E) (.returned (.int .i64 E)) (w2.setCell ⟨q3, 0, none⟩ (.slice A k c))) :=
      ⟨E, rfl, rfl, ⟨A, c, by rw [hk]; exact B3.out, BR3.out, NEW.out⟩, by unfold rdM; rw [if_neg hE]; exact m3, KK.out⟩
    clear m3 HW hE b1' b3' b4' bo'
    go_wp2_with fail
    go_ret
    exact HG.out
theorem aggS (w : World) : (isAgg 31).run Tryz.prog w = .ok false w := by unfold isAgg; rw [Sem.run_bind, run_underlying Tryz.underlying31 w]; rfl
def rdX (M : List UInt8) (n : Nat) (K : Int) : List UInt8 := readX ⟨regB M, readN (regB M)⟩ (hN M n) (hL M n) K
def rdE (M : List UInt8) (n : Nat) (K : Int) : Int := readE ⟨regB M, readN (regB M)⟩ (hN M n) (hL M n) K
def RdH (w : World) (p gb mb : Nat) (G M' xs : List UInt8) (E : Int) (e : Ending) (w' : World) : Prop :=
  (∃ A c, e = .returned (.tuple #[.slice A xs.length c, .int .i64 E]) ∧ BR w' w'.heap.size A xs ∧ ∀ ad, A = some ad → w.heap.size ≤ ad.block) ∧ MemAt w' p gb mb G M' ∧ Keeps (fun j => j = p ∨ j = mb) w w'
theorem rdX_len (hm : M.length = 8192) (ho : okR (regB M)) (n : Nat) (hO : isO M n = true) (K : Int) : (rdX M n K).length ≤ 1472 := by
  have hob := open_bounds hm ho n hO
  have hpb := place_bounds n hob.2.1
  unfold rdX
  refine readX_len _ _ _ _ hpb.1 ?_
  exact hob.2
set_option maxRecDepth 100000 in
set_option maxHeartbeats 2000000 in
theorem hread_any (h : MemAt w p gb mb G M) (ho : okR (regB M)) (n : Nat) (h1 : 1 ≤ n) (h4 : n ≤ 4) (hO : isO M n = true) (K : Int) (hK : -9223372036854775808 ≤ K ∧ K ≤ 9223372036854775807) :
    Calls Tryz.prog 25 #[.pointer (some ⟨p, 0, none⟩), .int .i64 (n : Int), .int .i64 K] w
      (RdH w p gb mb G (rdM M n (hN M n) (hL M n) (rdX M n K).length (rdE M n K)) (rdX M n K) (rdE M n K)) := by
  have hob := open_bounds h.ml ho n hO
  have hpb := place_bounds n hob.2.1
  have hlt := h.lt
  have hxl := rdX_len h.ml ho n hO K
  let o1 : Obj := .cells #[.pointer (some ⟨p, 0, none⟩)] 25
  let o2 : Obj := .cells #[.int .i64 (n : Int)] 3
  let o3 : Obj := .cells #[.int .i64 K] 3
  let o4 : Obj := .cells #[.slice none 0 0] 31
  have x1 : Boxed ((((w.alloc o1).alloc o2).alloc o3).alloc o4) w.heap.size 25 (.pointer (some ⟨p, 0, none⟩)) := (((Boxed.new w 25 (.pointer (some ⟨p, 0, none⟩))).alloc _).alloc _).alloc _
  have x4 : Boxed ((((w.alloc o1).alloc o2).alloc o3).alloc o4) (w.heap.size + 1) 3 (.int .i64 (n : Int)) := by
    have := ((Boxed.new (w.alloc o1) 3 (.int .i64 (n : Int))).alloc o3).alloc o4
    rwa [World.size_alloc] at this
  have x2 : Boxed ((((w.alloc o1).alloc o2).alloc o3).alloc o4) (w.heap.size + 1 + 1) 3 (.int .i64 K) := by
    have := (Boxed.new ((w.alloc o1).alloc o2) 3 (.int .i64 K)).alloc o4
    rwa [World.size_alloc, World.size_alloc] at this
  have x3 : Boxed ((((w.alloc o1).alloc o2).alloc o3).alloc o4) (w.heap.size + 1 + 1 + 1) 31 (.slice none 0 0) := by
    have := Boxed.new (((w.alloc o1).alloc o2).alloc o3) 31 (.slice none 0 0)
    rwa [World.size_alloc, World.size_alloc, World.size_alloc] at this
  have k0 : Keeps (fun _ => False) w ((((w.alloc o1).alloc o2).alloc o3).alloc o4) := Keeps.trans (Keeps.trans (Keeps.trans (Keeps.alloc _ _ _) (Keeps.alloc _ _ _)) (Keeps.alloc _ _ _)) (Keeps.alloc _ _ _)
  have KW := Lib.hid (k0.mono fun _ _ f => f.elim : Keeps (fun j => j = p ∨ j = mb) w _)
  have LT := Lib.hid hlt
  have HW := Lib.hid (with_any (h.keep k0 (fun f => f) (fun f => f) (fun f => f)) ho n h1 h4 hO 77 #[.pointer (some ⟨w.heap.size, 0, none⟩), .pointer (some ⟨w.heap.size + 1 + 1, 0, none⟩), .pointer (some ⟨w.heap.size + 1 + 1 + 1, 0, none⟩), .pointer (some ⟨w.heap.size + 1, 0, none⟩)] (enters_of Tryz.func77 (by kernel_rfl) rfl)
    (fun E W' => E = rdE M n K ∧ (∃ A c, Boxed W' (w.heap.size + 1 + 1 + 1) 31 (.slice A (rdX M n K).length c) ∧ BR W' W'.heap.size A (rdX M n K) ∧ ∀ ad, A = some ad → w.heap.size + 1 + 1 + 1 + 1 ≤ ad.block) ∧ MemAt W' p gb mb G (rdM M n (hN M n) (hL M n) (rdX M n K).length (rdE M n K)) ∧ Keeps (fun j => j = p ∨ j = mb) w W')
    (fun W hm hk => by
      have s0 := hk.size
      rw [World.size_alloc, World.size_alloc, World.size_alloc, World.size_alloc] at s0
      have y1 := (hk.block _ x1.lt (by omega)).trans x1
      have y2 := (hk.block _ x2.lt (by omega)).trans x2
      have y3 := (hk.block _ x3.lt (by omega)).trans x3
      have y4 := (hk.block _ x4.lt (by omega)).trans x4
      refine (hread1_any hm ho (good_of h.ml ho) n h1 h4 (hN M n) (hL M n) (hS M n) K (by omega) (by omega) hK hxl (.slice none 0 0) y1 y2 y3 y4 (by omega) (by omega) (by omega) (by omega)).mono ?_
      rintro e w' ⟨E, rfl, rfl, ⟨A, c, b', r', n'⟩, m', k'⟩
      refine ⟨_, rfl, rfl, ⟨A, c, b', r', fun ad e => Nat.le_trans s0 (n' ad e)⟩, m', ?_⟩
      exact Keeps.thru (KW.out.trans hk) k' (fun j _ f => f) (fun j hj f => by rcases f with f | f | f; exact .inl f; exact .inr f; omega)))
  simp only [o1, o2, o3, o4] at HW
  clear_value o1 o2 o3 o4
  clear o1 o2 o3 o4 x1 x2 x3 x4 k0 KW h ho hO hob hpb hxl hlt
  generalize rdM M n (hN M n) (hL M n) (rdX M n K).length (rdE M n K) = M2 at *
  generalize rdX M n K = xs at *
  generalize rdE M n K = E0 at *
  go_enter Tryz.func25, Tryz.ntmps25
  go_wp2_with fail
  refine HW.out.mono ?_
  rintro e w1 ⟨E, rfl, rfl, ⟨A, c, hb, hr, hn⟩, hm, hk⟩
  have hl := LT.out
  have c1 := hb.cell
  have f1 := frozen_of_row _ _ 0 _ _ hb
  have HB := Lib.hid (boxed_set hb (.slice A xs.length c))
  have ks := Keeps.setCell (fun j => j = w.heap.size + 1 + 1 + 1) w1 ⟨w.heap.size + 1 + 1 + 1, 0, none⟩ (.slice A xs.length c) rfl
  have HG : Hid (RdH w p gb mb G M2 xs E (.returned (.tuple #[.slice A xs.length c, .int .i64 E])) (w1.setCell ⟨w.heap.size + 1 + 1 + 1, 0, none⟩ (.slice A xs.length c))) :=
    ⟨⟨A, c, rfl, br_keep hr ks (fun _ ad e f => by have := hn ad e; omega), fun ad e => by have := hn ad e; omega⟩, hm.keep ks (by omega) (by omega) (by omega), Keeps.thru hk ks (fun _ _ f => f) (fun i hi e => by omega)⟩
  clear hb hr hn hm hk HW ks hl
  generalize xs.length = k at *
  go_wp2_with fail
  refine bodyPost_ret (v := .tuple #[.slice A k c, .int .i64 E]) ?_ rfl HG.out
  exact results_cell1t rfl _ _ (w.heap.size + 1 + 1 + 1) _ _ rfl rfl aggS HB.out.cell
end Go.Proofs.YtceemmnfofjgeaaGreatDoor.Hd
