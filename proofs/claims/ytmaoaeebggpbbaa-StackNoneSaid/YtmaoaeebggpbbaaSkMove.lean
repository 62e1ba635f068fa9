/-
  SkMove
-/
import Derived.Test.YtmaoaeebggpbbaaSkPile
import Derived.BigQuiet
namespace Go.Proofs.Ytmaoaeebggpbbaa.Sk
open Go.RowKit Go.Maps Mm
set_option linter.unusedVariables false
set_option linter.unusedSimpArgs false
variable {w : World} {v : Option Addr} {p gb mb : Nat} {ok : Bool} {G M : List UInt8} {a lo hi ov un : Int}
theorem Keeps.drewN (F : Nat → Prop) (w : World) (n : Nat) : Keeps F w (w.drewN n) := ⟨rfl, rfl, rfl, Nat.le_refl _, fun _ _ _ => rfl⟩
set_option maxRecDepth 100000 in
set_option maxHeartbeats 800000 in
theorem room_ok (h : SM w v p gb mb true G M) (pa : Pa a lo hi ov un) (k : Nat) (hk : k ≤ 32) (ht : topL M a lo hi = hi - 8 * (k : Int)) : Calls Try.prog 66 #[pil v a lo hi ov un] w (OutS w v p gb mb true G M (.int .i64 (32 - (k : Int)))) := by
  have bd := pa.bd
  have TT := fun (W : World) (hh : SM W v p gb mb true G M) => top_at hh pa
  rw [ht] at TT
  have TH := Lib.hid TT
  clear TT
  have SC := Lib.hid fun (W : World) (hh : SM W v p gb mb true G M) => scell hh a (by rcases pa.it with x | x <;> omega)
  have B0 := MB.new h a lo hi ov un
  have K0 := Lib.hid (Keeps.alloc (fun _ => False) w (.cells #[.pointer v, .int .i64 a, .int .i64 lo, .int .i64 hi, .int .i64 ov, .int .i64 un] 71))
  have H0 := Lib.hid h
  clear h
  have e0 : hi - 8 * (k : Int) - lo = 8 * (32 - (k : Int)) := by omega
  have e1 : (8 * (32 - (k : Int))).tdiv 8 = 32 - (k : Int) := by rw [Int.tdiv_eq_ediv_of_nonneg (by omega)]; omega
  have tb : lo ≤ hi - 8 * (k : Int) := by omega
  have tb2 : hi - 8 * (k : Int) ≤ hi := by omega
  have tb3 : hi - 8 * (k : Int) = hi - 8 * (k : Int) := rfl
  generalize hT : hi - 8 * (k : Int) = T at *
  go_enter Try.func66, Try.ntmps66
  unfold pil
  go_wp2_with fail
  have hB := B0.pb
  have hM := B0.m
  have NS := Lib.hid B0.s
  have F := Lib.hid (Keeps.first H0.out (fun _ x => x) K0.out)
  clear B0
  generalize w.alloc (.cells #[.pointer v, .int .i64 a, .int .i64 lo, .int .i64 hi, .int .i64 ov, .int .i64 un] 71) = w1 at *
  generalize w.heap.size = b at *
  obtain ⟨c0, c1, c2, c3, c4, c5⟩ := PB.c hB
  go_wp2_with fail
  refine (SC.out _ hM).mono ?_
  rintro e w2 ⟨rfl, hM, k2⟩
  have F := Lib.hid (F.out.trans k2)
  have hB := PB.keep hB k2 NS.out
  clear k2 c0 c1 c2 c3 c4 c5
  rw [if_pos trivial]
  go_wp2_with fail
  refine wp_region_held (S := fun W => PB W b v a lo hi ov un) (by kernel_rfl) ?_
  change wpAnyH _ _ _ _ _ _ _ _ (w2).drew
  have hS : PB w2.drew b v a lo hi ov un := PB.keep hB (Keeps.drew (fun _ => False) w2) fun f => f
  have hM := hM.keep (Keeps.drew (fun _ => False) w2) fun _ _ f => f
  have F := Lib.hid (F.out.trans (Keeps.drew _ w2))
  clear hB
  generalize (w2).drew = w3 at *
  refine wpAnyH_take (oi := ⟨_, _, _, _, _, _⟩) (i := 0) (v := pil v a lo hi ov un) rfl (by kernel_rfl) (by kernel_rfl) (by kernel_rfl) (fun _ _ _ h => h) (yif_load rfl 71 (.tmp 1) rfl _ _ rfl fun w h => PB.load h) hS ?_
  try simp only [Act.put, List.setIfInBounds_toArray, List.set_cons_zero, List.set_cons_succ]
  refine wpAnyH_take (oi := ⟨_, _, _, _, _, _⟩) (i := 2) (v := .pointer (some ⟨b, 2, none⟩)) rfl (by kernel_rfl) (by kernel_rfl) (by kernel_rfl) (fun _ _ _ h => h) (Or.inl ⟨by rfl, fun _ _ => by go_simp⟩) hS ?_
  try simp only [Act.put, List.setIfInBounds_toArray, List.set_cons_zero, List.set_cons_succ]
  refine wpAnyH_take (oi := ⟨_, _, _, _, _, _⟩) (i := 3) (v := .int .i64 lo) rfl (by kernel_rfl) (by kernel_rfl) (by kernel_rfl) (fun _ _ _ h => h) (yif_load rfl 3 (.tmp 17) rfl _ _ rfl fun w h => load_one aggI (PB.c h).2.2.1) hS ?_
  try simp only [Act.put, List.setIfInBounds_toArray, List.set_cons_zero, List.set_cons_succ]
  refine wpAnyH_all (rs := [1]) (by kernel_rfl) (by simp) fun i hI9 => ?_
  obtain rfl : i = 1 := by simpa using hI9
  refine op_call (om := ⟨_, _, _, _, _, _⟩) (fn := 64) (args := #[pil v a lo hi ov un]) (R := fun u w' => OutS w3 v p gb mb true G M (.int .i64 T) (.returned u) w') rfl rfl (by go_simp)
    ((TH.out _ hM).mono fun e w' h => ⟨_, h.1, rfl, h.2⟩) _ _ rfl rfl ?_
  rintro u w4 hu
  obtain ⟨eu, hM, kk⟩ := hu
  injection eu with eu
  subst eu
  have F := Lib.hid (F.out.trans kk)
  have hS := PB.keep hS kk NS.out
  clear kk
  refine ⟨hS, ?_⟩
  try simp only [Act.put, List.setIfInBounds_toArray, List.set_cons_zero, List.set_cons_succ]
  refine wpAnyH_take (oi := ⟨_, _, _, _, _, _⟩) (i := 4) (v := .int .i64 (8 * (32 - (k : Int)))) rfl (by kernel_rfl) (by kernel_rfl) (by kernel_rfl) (fun _ _ _ h => h) (Or.inl ⟨by rfl, fun _ _ => by rw [← e0]; go_simp; exact IntWalk.i64_in _ (by omega)⟩) hS ?_
  try simp only [Act.put, List.setIfInBounds_toArray, List.set_cons_zero, List.set_cons_succ]
  refine wpAnyH_take (oi := ⟨_, _, _, _, _, _⟩) (i := 5) (v := .int .i64 (32 - (k : Int))) rfl (by kernel_rfl) (by kernel_rfl) (by kernel_rfl) (fun _ _ _ h => h) (Or.inl ⟨by rfl, fun _ _ => by rw [← e1]; go_simp; exact IntWalk.i64_in _ (by omega)⟩) hS ?_
  try simp only [Act.put, List.setIfInBounds_toArray, List.set_cons_zero, List.set_cons_succ]
  refine wpAnyH_take (oi := ⟨_, _, _, _, _, _⟩) (i := 6) (v := .int .i64 (32 - (k : Int))) rfl (by kernel_rfl) (by kernel_rfl) (by kernel_rfl) (fun _ _ _ h => h) (Or.inl ⟨by rfl, fun _ _ => rfl⟩) hS ?_
  try simp only [Act.put, List.setIfInBounds_toArray, List.set_cons_zero, List.set_cons_succ]
  refine wpAnyH_done (by kernel_rfl) ?_ _
  try simp only [Act.put, List.setIfInBounds_toArray, List.set_cons_zero, List.set_cons_succ]
  have M3 := Lib.hid hM
  clear hM hS
  go_wp2_with fail
  go_ret
  exact ⟨rfl, M3.out, F.out⟩
set_option maxRecDepth 100000 in
set_option maxHeartbeats 800000 in
theorem room_no (h : SM w v p gb mb false G M) (pa : Pa a lo hi ov un) : Calls Try.prog 66 #[pil v a lo hi ov un] w (OutS w v p gb mb false G M (.int .i64 0)) := by
  have SC := Lib.hid fun (W : World) (hh : SM W v p gb mb false G M) => scell hh a (by rcases pa.it with x | x <;> omega)
  have B0 := MB.new h a lo hi ov un
  have K0 := Lib.hid (Keeps.alloc (fun _ => False) w (.cells #[.pointer v, .int .i64 a, .int .i64 lo, .int .i64 hi, .int .i64 ov, .int .i64 un] 71))
  have H0 := Lib.hid h
  clear h
  go_enter Try.func66, Try.ntmps66
  unfold pil
  go_wp2_with fail
  have hB := B0.pb
  have hM := B0.m
  have NS := Lib.hid B0.s
  have F := Lib.hid (Keeps.first H0.out (fun _ x => x) K0.out)
  clear B0
  generalize w.alloc (.cells #[.pointer v, .int .i64 a, .int .i64 lo, .int .i64 hi, .int .i64 ov, .int .i64 un] 71) = w1 at *
  generalize w.heap.size = b at *
  obtain ⟨c0, c1, c2, c3, c4, c5⟩ := PB.c hB
  go_wp2_with fail
  refine (SC.out _ hM).mono ?_
  rintro e w2 ⟨rfl, hM, k2⟩
  have F := Lib.hid (F.out.trans k2)
  have hM := Lib.hid hM
  clear k2 c0 c1 c2 c3 c4 c5
  rw [if_neg (by simp)]
  go_wp2_with fail
  go_ret
  exact ⟨rfl, hM.out, F.out⟩

set_option maxRecDepth 100000 in
set_option maxHeartbeats 800000 in
theorem move_none (h : SM w v p gb mb ok G M) : Calls Try.prog 67 #[pil v a lo hi ov un, .int .i64 0] w (OutS w v p gb mb ok G M (.tuple #[])) := by
  have B0 := MB.new h a lo hi ov un
  have K0 := Lib.hid (Keeps.alloc (fun _ => False) w (.cells #[.pointer v, .int .i64 a, .int .i64 lo, .int .i64 hi, .int .i64 ov, .int .i64 un] 71))
  have H0 := Lib.hid h
  clear h
  go_enter Try.func67, Try.ntmps67
  unfold pil
  go_wp2_with fail
  have hB := B0.pb
  have hM := B0.m
  have NS := Lib.hid B0.s
  have F := Lib.hid (Keeps.first H0.out (fun _ x => x) K0.out)
  clear B0
  generalize w.alloc (.cells #[.pointer v, .int .i64 a, .int .i64 lo, .int .i64 hi, .int .i64 ov, .int .i64 un] 71) = w1 at *
  generalize w.heap.size = b at *
  have hM := Lib.hid hM
  clear hB
  go_wp2_with fail
  all_goals
    go_end0
    exact ⟨rfl, hM.out, F.out⟩
set_option maxRecDepth 100000 in
set_option maxHeartbeats 800000 in
theorem move_at (h : SM w v p gb mb true G M) (pa : Pa a lo hi ov un) (k : Nat) (hk : k ≤ 32) (ht : topL M a lo hi = hi - 8 * (k : Int)) (n : Int) (hn : n ≠ 0) (h1 : -1000 ≤ n) (h2 : n ≤ 1000) : Calls Try.prog 67 #[pil v a lo hi ov un, .int .i64 n] w (OutS w v p gb mb true G (setM M a (hi - 8 * (k : Int) + n * 8)) (.tuple #[])) := by
  have bd := pa.bd
  have TT := fun (W : World) (hh : SM W v p gb mb true G M) => top_at hh pa
  rw [ht] at TT
  have TH := Lib.hid TT
  clear TT
  have SS := fun (W : World) (hh : SM W v p gb mb true G M) (x : Int) => sset hh a x (by omega) (by omega)
  simp only [setS, if_pos] at SS
  have SSH := Lib.hid SS
  clear SS
  have B0 := MB.new h a lo hi ov un
  have K0 := Lib.hid (Keeps.alloc (fun _ => False) w (.cells #[.pointer v, .int .i64 a, .int .i64 lo, .int .i64 hi, .int .i64 ov, .int .i64 un] 71))
  have H0 := Lib.hid h
  clear h
  have e0 : hi - 8 * (k : Int) - lo = 8 * (32 - (k : Int)) := by omega
  have e1 : (8 * (32 - (k : Int))).tdiv 8 = 32 - (k : Int) := by rw [Int.tdiv_eq_ediv_of_nonneg (by omega)]; omega
  have tb : lo ≤ hi - 8 * (k : Int) := by omega
  have tb2 : hi - 8 * (k : Int) ≤ hi := by omega
  have tb3 : hi - 8 * (k : Int) = hi - 8 * (k : Int) := rfl
  generalize hT : hi - 8 * (k : Int) = T at *
  have hn' : (n != 0) = true := by simpa using hn
  go_enter Try.func67, Try.ntmps67
  unfold pil
  go_wp2_with fail
  have hB := B0.pb
  have hM := B0.m
  have NS := Lib.hid B0.s
  have F := Lib.hid (Keeps.first H0.out (fun _ x => x) K0.out)
  clear B0
  generalize w.alloc (.cells #[.pointer v, .int .i64 a, .int .i64 lo, .int .i64 hi, .int .i64 ov, .int .i64 un] 71) = w1 at *
  generalize w.heap.size = b at *
  go_wp2_with fail
  refine wp_region_held (S := fun W => PB W b v a lo hi ov un) (by kernel_rfl) ?_
  change wpAnyH _ _ _ _ _ _ _ _ (w1).drew
  have hS : PB w1.drew b v a lo hi ov un := PB.keep hB (Keeps.drew (fun _ => False) w1) fun f => f
  have hM := hM.keep (Keeps.drew (fun _ => False) w1) fun _ _ f => f
  have F := Lib.hid (F.out.trans (Keeps.drew _ w1))
  clear hB
  generalize (w1).drew = w2 at *
  refine wpAnyH_take (oi := ⟨_, _, _, _, _, _⟩) (i := 0) (v := .pointer (some ⟨b, 0, none⟩)) rfl (by kernel_rfl) (by kernel_rfl) (by kernel_rfl) (fun _ _ _ h => h) (Or.inl ⟨by rfl, fun _ _ => by go_simp⟩) hS ?_
  try simp only [Act.put, List.setIfInBounds_toArray, List.set_cons_zero, List.set_cons_succ]
  refine wpAnyH_take (oi := ⟨_, _, _, _, _, _⟩) (i := 1) (v := .pointer v) rfl (by kernel_rfl) (by kernel_rfl) (by kernel_rfl) (fun _ _ _ h => h) (yif_load rfl 28 (.tmp 6) rfl _ _ rfl fun w h => load_one aggM (PB.c h).1) hS ?_
  try simp only [Act.put, List.setIfInBounds_toArray, List.set_cons_zero, List.set_cons_succ]
  refine wpAnyH_take (oi := ⟨_, _, _, _, _, _⟩) (i := 2) (v := .pointer (some ⟨b, 1, none⟩)) rfl (by kernel_rfl) (by kernel_rfl) (by kernel_rfl) (fun _ _ _ h => h) (Or.inl ⟨by rfl, fun _ _ => by go_simp⟩) hS ?_
  try simp only [Act.put, List.setIfInBounds_toArray, List.set_cons_zero, List.set_cons_succ]
  refine wpAnyH_take (oi := ⟨_, _, _, _, _, _⟩) (i := 3) (v := .int .i64 a) rfl (by kernel_rfl) (by kernel_rfl) (by kernel_rfl) (fun _ _ _ h => h) (yif_load rfl 3 (.tmp 8) rfl _ _ rfl fun w h => load_one aggI (PB.c h).2.1) hS ?_
  try simp only [Act.put, List.setIfInBounds_toArray, List.set_cons_zero, List.set_cons_succ]
  refine wpAnyH_take (oi := ⟨_, _, _, _, _, _⟩) (i := 4) (v := pil v a lo hi ov un) rfl (by kernel_rfl) (by kernel_rfl) (by kernel_rfl) (fun _ _ _ h => h) (yif_load rfl 71 (.tmp 2) rfl _ _ rfl fun w h => PB.load h) hS ?_
  try simp only [Act.put, List.setIfInBounds_toArray, List.set_cons_zero, List.set_cons_succ]
  refine wpAnyH_take (oi := ⟨_, _, _, _, _, _⟩) (i := 6) (v := .int .i64 n) rfl (by kernel_rfl) (by kernel_rfl) (by kernel_rfl) (fun _ _ _ h => h) (Or.inl ⟨by rfl, fun _ _ => rfl⟩) hS ?_
  try simp only [Act.put, List.setIfInBounds_toArray, List.set_cons_zero, List.set_cons_succ]
  refine wpAnyH_take (oi := ⟨_, _, _, _, _, _⟩) (i := 7) (v := .int .i64 (n * 8)) rfl (by kernel_rfl) (by kernel_rfl) (by kernel_rfl) (fun _ _ _ h => h) (Or.inl ⟨by rfl, fun _ _ => by go_simp; exact IntWalk.i64_in _ (by omega)⟩) hS ?_
  try simp only [Act.put, List.setIfInBounds_toArray, List.set_cons_zero, List.set_cons_succ]
  refine wpAnyH_all (rs := [5]) (by kernel_rfl) (by simp) fun i hI9 => ?_
  obtain rfl : i = 5 := by simpa using hI9
  refine op_call (om := ⟨_, _, _, _, _, _⟩) (fn := 64) (args := #[pil v a lo hi ov un]) (R := fun u w' => OutS w2 v p gb mb true G M (.int .i64 T) (.returned u) w') rfl rfl (by go_simp)
    ((TH.out _ hM).mono fun e w' h => ⟨_, h.1, rfl, h.2⟩) _ _ rfl rfl ?_
  rintro u w3 hu
  obtain ⟨eu, hM, kk⟩ := hu
  injection eu with eu
  subst eu
  have F := Lib.hid (F.out.trans kk)
  have hS := PB.keep hS kk NS.out
  clear kk
  refine ⟨hS, ?_⟩
  try simp only [Act.put, List.setIfInBounds_toArray, List.set_cons_zero, List.set_cons_succ]
  refine wpAnyH_take (oi := ⟨_, _, _, _, _, _⟩) (i := 8) (v := .int .i64 (T + n * 8)) rfl (by kernel_rfl) (by kernel_rfl) (by kernel_rfl) (fun _ _ _ h => h) (Or.inl ⟨by rfl, fun _ _ => by go_simp; exact IntWalk.i64_in _ (by omega)⟩) hS ?_
  try simp only [Act.put, List.setIfInBounds_toArray, List.set_cons_zero, List.set_cons_succ]
  refine wpAnyH_all (rs := [9]) (by kernel_rfl) (by simp) fun i hI9 => ?_
  obtain rfl : i = 9 := by simpa using hI9
  refine op_call (om := ⟨_, _, _, _, _, _⟩) (fn := 26) (args := #[.pointer v, .int .i64 a, .int .i64 (T + n * 8)]) (R := fun u w' => OutS w3 v p gb mb true G (setM M a (T + n * 8)) (.tuple #[]) (.returned u) w') rfl rfl (by go_simp)
    ((SSH.out _ hM (T + n * 8)).mono fun e w' h => ⟨_, h.1, rfl, h.2⟩) _ _ rfl rfl ?_
  rintro u w4 hu
  obtain ⟨eu, hM, kk⟩ := hu
  injection eu with eu
  subst eu
  have F := Lib.hid (F.out.trans kk)
  have hS := PB.keep hS kk NS.out
  clear kk
  refine ⟨hS, ?_⟩
  try simp only [Act.put, List.setIfInBounds_toArray, List.set_cons_zero, List.set_cons_succ]
  refine wpAnyH_done (by kernel_rfl) ?_ _
  try simp only [Act.put, List.setIfInBounds_toArray, List.set_cons_zero, List.set_cons_succ]
  have M3 := Lib.hid hM
  clear hM hS
  go_wp2_with fail
  all_goals
    go_end0
    exact ⟨rfl, M3.out, F.out⟩
set_option maxRecDepth 100000 in
set_option maxHeartbeats 800000 in
theorem nth_none (h : SM w v p gb mb ok G M) (pa : Pa a lo hi ov un) (k : Nat) (hk : k ≤ 32) (ht : topL M a lo hi = hi - 8 * (k : Int)) (n : Int) (hn : n < 0 ∨ (k : Int) ≤ n) : Calls Try.prog 55 #[pil v a lo hi ov un, .int .i64 n] w (OutS w v p gb mb ok G M (.tuple #[.int .i64 0, .int .i64 un])) := by
  have DH := Lib.hid fun (W : World) (hh : SM W v p gb mb ok G M) => depth_at hh pa k hk ht
  have B0 := MB.new h a lo hi ov un
  have K0 := Lib.hid (Keeps.alloc (fun _ => False) w (.cells #[.pointer v, .int .i64 a, .int .i64 lo, .int .i64 hi, .int .i64 ov, .int .i64 un] 71))
  have H0 := Lib.hid h
  clear h
  by_cases x1 : n < 0
  · clear hn
    go_enter Try.func55, Try.ntmps55
    unfold pil
    go_wp2_with fail
    have hB := B0.pb
    have hM := B0.m
    have NS := Lib.hid B0.s
    have F := Lib.hid (Keeps.first H0.out (fun _ x => x) K0.out)
    clear B0
    generalize w.alloc (.cells #[.pointer v, .int .i64 a, .int .i64 lo, .int .i64 hi, .int .i64 ov, .int .i64 un] 71) = w1 at *
    generalize w.heap.size = b at *
    obtain ⟨c0, c1, c2, c3, c4, c5⟩ := PB.c hB
    have hM := Lib.hid hM
    go_wp2_with fail
    go_quiet (fail)
    go_wp2_with fail
    go_ret2
    exact ⟨rfl, hM.out.keep (Keeps.drewN (fun _ => False) _ _) fun _ _ f => f, F.out.trans (Keeps.drewN _ _ _)⟩
  · have x2 : (k : Int) ≤ n := by omega
    clear hn
    go_enter Try.func55, Try.ntmps55
    unfold pil
    go_wp2_with fail
    have hB := B0.pb
    have hM := B0.m
    have NS := Lib.hid B0.s
    have F := Lib.hid (Keeps.first H0.out (fun _ x => x) K0.out)
    clear B0
    generalize w.alloc (.cells #[.pointer v, .int .i64 a, .int .i64 lo, .int .i64 hi, .int .i64 ov, .int .i64 un] 71) = w1 at *
    generalize w.heap.size = b at *
    obtain ⟨c0, c1, c2, c3, c4, c5⟩ := PB.c hB
    go_wp2_with fail
    refine (DH.out _ hM).mono ?_
    rintro e w2 ⟨rfl, hM, k2⟩
    have F := Lib.hid (F.out.trans k2)
    have hB := PB.keep hB k2 NS.out
    clear k2 c0 c1 c2 c3 c4 c5
    obtain ⟨c0, c1, c2, c3, c4, c5⟩ := PB.c hB
    have hM := Lib.hid hM
    go_wp2_with fail
    go_quiet (fail)
    go_wp2_with fail
    go_ret2
    exact ⟨rfl, hM.out.keep (Keeps.drewN (fun _ => False) _ _) fun _ _ f => f, F.out.trans (Keeps.drewN _ _ _)⟩
set_option maxRecDepth 100000 in
set_option maxHeartbeats 800000 in
theorem nth_at (h : SM w v p gb mb ok G M) (pa : Pa a lo hi ov un) (k : Nat) (hk : k ≤ 32) (ht : topL M a lo hi = hi - 8 * (k : Int)) (n : Nat) (hn : n < k) : Calls Try.prog 55 #[pil v a lo hi ov un, .int .i64 (n : Int)] w (OutS w v p gb mb ok G M (.tuple #[.int .i64 (cel M (hi - 8 * (k : Int) + 8 * (n : Int))), .int .i64 0])) := by
  have bd := pa.bd
  have TT := fun (W : World) (hh : SM W v p gb mb ok G M) => top_at hh pa
  rw [ht] at TT
  have TH := Lib.hid TT
  clear TT
  have DH := Lib.hid fun (W : World) (hh : SM W v p gb mb ok G M) => depth_at hh pa k hk ht
  have B0 := MB.new h a lo hi ov un
  have K0 := Lib.hid (Keeps.alloc (fun _ => False) w (.cells #[.pointer v, .int .i64 a, .int .i64 lo, .int .i64 hi, .int .i64 ov, .int .i64 un] 71))
  have H0 := Lib.hid h
  clear h
  have e0 : hi - 8 * (k : Int) - lo = 8 * (32 - (k : Int)) := by omega
  have e1 : (8 * (32 - (k : Int))).tdiv 8 = 32 - (k : Int) := by rw [Int.tdiv_eq_ediv_of_nonneg (by omega)]; omega
  have tb : lo ≤ hi - 8 * (k : Int) := by omega
  have tb2 : hi - 8 * (k : Int) ≤ hi := by omega
  have tb3 : hi - 8 * (k : Int) = hi - 8 * (k : Int) := rfl
  generalize hT : hi - 8 * (k : Int) = T at *
  have GH := Lib.hid fun (W : World) (hh : SM W v p gb mb ok G M) => sget hh (T + 8 * (n : Int)) (by omega) (by omega)
  generalize cel M (T + 8 * (n : Int)) = x at *
  have e2 : T + (n : Int) * 8 = T + 8 * (n : Int) := by omega
  go_enter Try.func55, Try.ntmps55
  unfold pil
  go_wp2_with fail
  have hB := B0.pb
  have hM := B0.m
  have NS := Lib.hid B0.s
  have F := Lib.hid (Keeps.first H0.out (fun _ x => x) K0.out)
  clear B0
  generalize w.alloc (.cells #[.pointer v, .int .i64 a, .int .i64 lo, .int .i64 hi, .int .i64 ov, .int .i64 un] 71) = w1 at *
  generalize w.heap.size = b at *
  obtain ⟨c0, c1, c2, c3, c4, c5⟩ := PB.c hB
  go_wp2_with fail
  refine (DH.out _ hM).mono ?_
  rintro e w2 ⟨rfl, hM, k2⟩
  have F := Lib.hid (F.out.trans k2)
  have hB := PB.keep hB k2 NS.out
  clear k2 c0 c1 c2 c3 c4 c5
  have hn' : ¬ (k : Int) ≤ (n : Int) := by omega
  go_wp2_with fail
  refine wp_region_held (S := fun W => PB W b v a lo hi ov un) (by kernel_rfl) ?_
  change wpAnyH _ _ _ _ _ _ _ _ (w2).drew
  have hS : PB w2.drew b v a lo hi ov un := PB.keep hB (Keeps.drew (fun _ => False) w2) fun f => f
  have hM := hM.keep (Keeps.drew (fun _ => False) w2) fun _ _ f => f
  have F := Lib.hid (F.out.trans (Keeps.drew _ w2))
  clear hB
  generalize (w2).drew = w3 at *
  refine wpAnyH_take (oi := ⟨_, _, _, _, _, _⟩) (i := 0) (v := .pointer (some ⟨b, 0, none⟩)) rfl (by kernel_rfl) (by kernel_rfl) (by kernel_rfl) (fun _ _ _ h => h) (Or.inl ⟨by rfl, fun _ _ => by go_simp⟩) hS ?_
  try simp only [Act.put, List.setIfInBounds_toArray, List.set_cons_zero, List.set_cons_succ]
  refine wpAnyH_take (oi := ⟨_, _, _, _, _, _⟩) (i := 1) (v := .pointer v) rfl (by kernel_rfl) (by kernel_rfl) (by kernel_rfl) (fun _ _ _ h => h) (yif_load rfl 28 (.tmp 16) rfl _ _ rfl fun w h => load_one aggM (PB.c h).1) hS ?_
  try simp only [Act.put, List.setIfInBounds_toArray, List.set_cons_zero, List.set_cons_succ]
  refine wpAnyH_take (oi := ⟨_, _, _, _, _, _⟩) (i := 2) (v := pil v a lo hi ov un) rfl (by kernel_rfl) (by kernel_rfl) (by kernel_rfl) (fun _ _ _ h => h) (yif_load rfl 71 (.tmp 2) rfl _ _ rfl fun w h => PB.load h) hS ?_
  try simp only [Act.put, List.setIfInBounds_toArray, List.set_cons_zero, List.set_cons_succ]
  refine wpAnyH_take (oi := ⟨_, _, _, _, _, _⟩) (i := 4) (v := .int .i64 (n : Int)) rfl (by kernel_rfl) (by kernel_rfl) (by kernel_rfl) (fun _ _ _ h => h) (Or.inl ⟨by rfl, fun _ _ => rfl⟩) hS ?_
  try simp only [Act.put, List.setIfInBounds_toArray, List.set_cons_zero, List.set_cons_succ]
  refine wpAnyH_take (oi := ⟨_, _, _, _, _, _⟩) (i := 5) (v := .int .i64 ((n : Int) * 8)) rfl (by kernel_rfl) (by kernel_rfl) (by kernel_rfl) (fun _ _ _ h => h) (Or.inl ⟨by rfl, fun _ _ => by go_simp; exact IntWalk.i64_in _ (by omega)⟩) hS ?_
  try simp only [Act.put, List.setIfInBounds_toArray, List.set_cons_zero, List.set_cons_succ]
  refine wpAnyH_all (rs := [3]) (by kernel_rfl) (by simp) fun i hI9 => ?_
  obtain rfl : i = 3 := by simpa using hI9
  refine op_call (om := ⟨_, _, _, _, _, _⟩) (fn := 64) (args := #[pil v a lo hi ov un]) (R := fun u w' => OutS w3 v p gb mb ok G M (.int .i64 T) (.returned u) w') rfl rfl (by go_simp)
    ((TH.out _ hM).mono fun e w' h => ⟨_, h.1, rfl, h.2⟩) _ _ rfl rfl ?_
  rintro u w4 hu
  obtain ⟨eu, hM, kk⟩ := hu
  injection eu with eu
  subst eu
  have F := Lib.hid (F.out.trans kk)
  have hS := PB.keep hS kk NS.out
  clear kk
  refine ⟨hS, ?_⟩
  try simp only [Act.put, List.setIfInBounds_toArray, List.set_cons_zero, List.set_cons_succ]
  refine wpAnyH_take (oi := ⟨_, _, _, _, _, _⟩) (i := 6) (v := .int .i64 (T + 8 * (n : Int))) rfl (by kernel_rfl) (by kernel_rfl) (by kernel_rfl) (fun _ _ _ h => h) (Or.inl ⟨by rfl, fun _ _ => by rw [← e2]; go_simp; exact IntWalk.i64_in _ (by omega)⟩) hS ?_
  try simp only [Act.put, List.setIfInBounds_toArray, List.set_cons_zero, List.set_cons_succ]
  refine wpAnyH_all (rs := [7]) (by kernel_rfl) (by simp) fun i hI9 => ?_
  obtain rfl : i = 7 := by simpa using hI9
  refine op_call (om := ⟨_, _, _, _, _, _⟩) (fn := 30) (args := #[.pointer v, .int .i64 (T + 8 * (n : Int))]) (R := fun u w' => OutS w4 v p gb mb ok G M (.int .i64 x) (.returned u) w') rfl rfl (by go_simp)
    ((GH.out _ hM).mono fun e w' h => ⟨_, h.1, rfl, h.2⟩) _ _ rfl rfl ?_
  rintro u w5 hu
  obtain ⟨eu, hM, kk⟩ := hu
  injection eu with eu
  subst eu
  have F := Lib.hid (F.out.trans kk)
  have hS := PB.keep hS kk NS.out
  clear kk
  refine ⟨hS, ?_⟩
  try simp only [Act.put, List.setIfInBounds_toArray, List.set_cons_zero, List.set_cons_succ]
  refine wpAnyH_take (oi := ⟨_, _, _, _, _, _⟩) (i := 8) (v := .int .i64 x) rfl (by kernel_rfl) (by kernel_rfl) (by kernel_rfl) (fun _ _ _ h => h) (Or.inl ⟨by rfl, fun _ _ => rfl⟩) hS ?_
  try simp only [Act.put, List.setIfInBounds_toArray, List.set_cons_zero, List.set_cons_succ]
  refine wpAnyH_take (oi := ⟨_, _, _, _, _, _⟩) (i := 9) (v := .int .i64 0) rfl (by kernel_rfl) (by kernel_rfl) (by kernel_rfl) (fun _ _ _ h => h) (Or.inl ⟨by rfl, fun _ _ => by go_simp⟩) hS ?_
  try simp only [Act.put, List.setIfInBounds_toArray, List.set_cons_zero, List.set_cons_succ]
  refine wpAnyH_done (by kernel_rfl) ?_ _
  try simp only [Act.put, List.setIfInBounds_toArray, List.set_cons_zero, List.set_cons_succ]
  have M3 := Lib.hid hM
  clear hM hS
  go_wp2_with fail
  go_ret2
  exact ⟨rfl, M3.out, F.out⟩
end Go.Proofs.Ytmaoaeebggpbbaa.Sk
