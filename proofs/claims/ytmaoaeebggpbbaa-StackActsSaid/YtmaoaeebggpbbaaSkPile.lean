/-
  SkPile
-/
import Derived.Test.YtmaoaeebggpbbaaSkMem
import Derived.Test.YtmaoaeebggpbbaaGT
namespace Go.Proofs.Ytmaoaeebggpbbaa.Sk
open Go.RowKit Go.Maps Mm
set_option linter.unusedVariables false
set_option linter.unusedSimpArgs false

theorem aggM (w : World) : (isAgg 28).run Try.prog w = .ok false w := by unfold isAgg; rw [Sem.run_bind, run_underlying Try.underlying28]; rfl
theorem aggI (w : World) : (isAgg 3).run Try.prog w = .ok false w := by unfold isAgg; rw [Sem.run_bind, run_underlying Try.underlying3]; rfl
variable {w : World} {v : Option Addr} {p gb mb : Nat} {ok : Bool} {G M : List UInt8} {a lo hi ov un : Int}

set_option maxRecDepth 100000 in
set_option maxHeartbeats 800000 in
theorem top_at (h : SM w v p gb mb ok G M) (pa : Pa a lo hi ov un) : Calls Try.prog 64 #[pil v a lo hi ov un] w (OutS w v p gb mb ok G M (.int .i64 (topL M a lo hi))) := by
  have bd := pa.bd
  unfold topL topV pil
  have B0 := MB.new h a lo hi ov un
  have K0 := Lib.hid (Keeps.alloc (fun _ => False) w (.cells #[.pointer v, .int .i64 a, .int .i64 lo, .int .i64 hi, .int .i64 ov, .int .i64 un] 71))
  have H0 := Lib.hid h
  clear h
  generalize hb : w.heap.size = b at *
  obtain ⟨c0, c1, c2, c3, c4, c5⟩ := B0.pb.c
  have SG := Lib.hid (sget B0.m a (by omega) (by omega))
  generalize cel M a = n at *
  by_cases x1 : n < lo
  · rw [if_pos (Or.inl x1)]
    go_enter Try.func64, Try.ntmps64
    go_wp2_with fail
    refine SG.out.mono ?_
    rintro e w2 ⟨rfl, m2, k2⟩
    have B2 := B0.next m2 k2
    have F := Lib.hid (Keeps.second H0.out K0.out k2)
    have M2 := Lib.hid m2
    obtain ⟨d0, d1, d2, d3, d4, d5⟩ := B2.pb.c
    clear B0 m2 k2 B2 c0 c1 c2 c3 c4 c5 K0 H0 SG
    go_wp2_with fail
    go_ret
    exact ⟨rfl, M2.out, F.out⟩
  by_cases x2 : hi < n
  · rw [if_pos (Or.inr (Or.inl x2))]
    go_enter Try.func64, Try.ntmps64
    go_wp2_with fail
    refine SG.out.mono ?_
    rintro e w2 ⟨rfl, m2, k2⟩
    have B2 := B0.next m2 k2
    have F := Lib.hid (Keeps.second H0.out K0.out k2)
    have M2 := Lib.hid m2
    obtain ⟨d0, d1, d2, d3, d4, d5⟩ := B2.pb.c
    clear B0 m2 k2 B2 c0 c1 c2 c3 c4 c5 K0 H0 SG
    go_wp2_with fail
    go_ret
    exact ⟨rfl, M2.out, F.out⟩
  by_cases x3 : n.tmod 8 = 0
  · rw [if_neg (fun y => y.elim x1 fun y => y.elim x2 fun y => y x3)]
    rw [Int.tmod_eq_emod_of_nonneg (by omega)] at x3
    have x4 : (n % 8 != 0) = false := by simp [x3]
    go_enter Try.func64, Try.ntmps64
    go_wp2_with fail
    refine SG.out.mono ?_
    rintro e w2 ⟨rfl, m2, k2⟩
    have B2 := B0.next m2 k2
    have F := Lib.hid (Keeps.second H0.out K0.out k2)
    have M2 := Lib.hid m2
    obtain ⟨d0, d1, d2, d3, d4, d5⟩ := B2.pb.c
    clear B0 m2 k2 B2 c0 c1 c2 c3 c4 c5 K0 H0 SG
    go_wp2_with fail
    go_ret
    exact ⟨rfl, M2.out, F.out⟩
  · rw [if_pos (Or.inr (Or.inr x3))]
    rw [Int.tmod_eq_emod_of_nonneg (by omega)] at x3
    have x4 : (n % 8 != 0) = true := by simp [x3]
    clear x3
    go_enter Try.func64, Try.ntmps64
    go_wp2_with fail
    refine SG.out.mono ?_
    rintro e w2 ⟨rfl, m2, k2⟩
    have B2 := B0.next m2 k2
    have F := Lib.hid (Keeps.second H0.out K0.out k2)
    have M2 := Lib.hid m2
    obtain ⟨d0, d1, d2, d3, d4, d5⟩ := B2.pb.c
    clear B0 m2 k2 B2 c0 c1 c2 c3 c4 c5 K0 H0 SG
    go_wp2_with fail
    go_ret
    exact ⟨rfl, M2.out, F.out⟩

set_option maxRecDepth 100000 in
set_option maxHeartbeats 800000 in
theorem depth_at (h : SM w v p gb mb ok G M) (pa : Pa a lo hi ov un) (k : Nat) (hk : k ≤ 32) (ht : topL M a lo hi = hi - 8 * (k : Int)) : Calls Try.prog 45 #[pil v a lo hi ov un] w (OutS w v p gb mb ok G M (.int .i64 (k : Int))) := by
  have bd := pa.bd
  have TT := fun (W : World) (hh : SM W v p gb mb ok G M) => top_at hh pa
  rw [ht] at TT
  have TH := Lib.hid TT
  clear TT
  have B0 := MB.new h a lo hi ov un
  have K0 := Lib.hid (Keeps.alloc (fun _ => False) w (.cells #[.pointer v, .int .i64 a, .int .i64 lo, .int .i64 hi, .int .i64 ov, .int .i64 un] 71))
  have H0 := Lib.hid h
  clear h
  have e1 : (8 * (k : Int)).tdiv 8 = (k : Int) := by rw [Int.tdiv_eq_ediv_of_nonneg (by omega)]; omega
  have e0 : hi - (hi - 8 * (k : Int)) = 8 * (k : Int) := by omega
  have tb : lo ≤ hi - 8 * (k : Int) := by omega
  have tb2 : hi - 8 * (k : Int) ≤ hi := by omega
  generalize hT : hi - 8 * (k : Int) = T at *
  go_enter Try.func45, Try.ntmps45
  unfold pil
  go_wp2_with fail
  have hB := B0.pb
  have hM := B0.m
  have NS := Lib.hid B0.s
  have F := Lib.hid (Keeps.first H0.out (fun _ x => x) K0.out)
  clear B0
  generalize w.alloc (.cells #[.pointer v, .int .i64 a, .int .i64 lo, .int .i64 hi, .int .i64 ov, .int .i64 un] 71) = w1 at *
  generalize w.heap.size = b at *
  refine wp_region_held (S := fun W => PB W b v a lo hi ov un) (by kernel_rfl) ?_
  change wpAnyH _ _ _ _ _ _ _ _ (w1).drew
  have hS : PB w1.drew b v a lo hi ov un := PB.keep hB (Keeps.drew (fun _ => False) w1) fun f => f
  have hM := hM.keep (Keeps.drew (fun _ => False) w1) fun _ _ f => f
  have F := Lib.hid (F.out.trans (Keeps.drew _ w1))
  clear hB
  generalize (w1).drew = w2 at *
  refine wpAnyH_take (oi := ⟨_, _, _, _, _, _⟩) (i := 0) (v := .pointer (some ⟨b, 3, none⟩)) rfl (by kernel_rfl) (by kernel_rfl) (by kernel_rfl) (fun _ _ _ h => h) (Or.inl ⟨by rfl, fun _ _ => by go_simp⟩) hS ?_
  try simp only [Act.put, List.setIfInBounds_toArray, List.set_cons_zero, List.set_cons_succ]
  refine wpAnyH_take (oi := ⟨_, _, _, _, _, _⟩) (i := 1) (v := .int .i64 hi) rfl (by kernel_rfl) (by kernel_rfl) (by kernel_rfl) (fun _ _ _ h => h) (yif_load rfl 3 (.tmp 3) rfl _ _ rfl fun w h => load_one aggI (PB.c h).2.2.2.1) hS ?_
  try simp only [Act.put, List.setIfInBounds_toArray, List.set_cons_zero, List.set_cons_succ]
  refine wpAnyH_take (oi := ⟨_, _, _, _, _, _⟩) (i := 2) (v := pil v a lo hi ov un) rfl (by kernel_rfl) (by kernel_rfl) (by kernel_rfl) (fun _ _ _ h => h) (yif_load rfl 71 (.tmp 1) rfl _ _ rfl fun w h => PB.load h) hS ?_
  try simp only [Act.put, List.setIfInBounds_toArray, List.set_cons_zero, List.set_cons_succ]
  refine wpAnyH_all (rs := [3]) (by kernel_rfl) (by simp) fun i hI9 => ?_
  obtain rfl : i = 3 := by simpa using hI9
  refine op_call (om := ⟨_, _, _, _, _, _⟩) (fn := 64) (args := #[pil v a lo hi ov un]) (R := fun u w' => OutS w2 v p gb mb ok G M (.int .i64 T) (.returned u) w') rfl rfl (by go_simp)
    ((TH.out _ hM).mono fun e w' h => ⟨_, h.1, rfl, h.2⟩) _ _ rfl rfl ?_
  rintro u w3 hu
  obtain ⟨eu, hM, kk⟩ := hu
  injection eu with eu
  subst eu
  have F := Lib.hid (F.out.trans kk)
  have hS := PB.keep hS kk NS.out
  clear kk
  refine ⟨hS, ?_⟩
  try simp only [Act.put, List.setIfInBounds_toArray, List.set_cons_zero, List.set_cons_succ]
  refine wpAnyH_take (oi := ⟨_, _, _, _, _, _⟩) (i := 4) (v := .int .i64 (8 * (k : Int))) rfl (by kernel_rfl) (by kernel_rfl) (by kernel_rfl) (fun _ _ _ h => h) (Or.inl ⟨by rfl, fun _ _ => by rw [← e0]; go_simp; exact IntWalk.i64_in _ (by omega)⟩) hS ?_
  try simp only [Act.put, List.setIfInBounds_toArray, List.set_cons_zero, List.set_cons_succ]
  refine wpAnyH_take (oi := ⟨_, _, _, _, _, _⟩) (i := 5) (v := .int .i64 (k : Int)) rfl (by kernel_rfl) (by kernel_rfl) (by kernel_rfl) (fun _ _ _ h => h) (Or.inl ⟨by rfl, fun _ _ => by rw [← e1]; go_simp; exact IntWalk.i64_in _ (by omega)⟩) hS ?_
  try simp only [Act.put, List.setIfInBounds_toArray, List.set_cons_zero, List.set_cons_succ]
  refine wpAnyH_take (oi := ⟨_, _, _, _, _, _⟩) (i := 6) (v := .int .i64 (k : Int)) rfl (by kernel_rfl) (by kernel_rfl) (by kernel_rfl) (fun _ _ _ h => h) (Or.inl ⟨by rfl, fun _ _ => rfl⟩) hS ?_
  try simp only [Act.put, List.setIfInBounds_toArray, List.set_cons_zero, List.set_cons_succ]
  refine wpAnyH_done (by kernel_rfl) ?_ _
  try simp only [Act.put, List.setIfInBounds_toArray, List.set_cons_zero, List.set_cons_succ]
  have M3 := Lib.hid hM
  clear hM hS
  go_wp2_with fail
  go_ret
  exact ⟨rfl, M3.out, F.out⟩
end Go.Proofs.Ytmaoaeebggpbbaa.Sk
