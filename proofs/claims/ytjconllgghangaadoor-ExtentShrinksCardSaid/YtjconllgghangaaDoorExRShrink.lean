/-
  ExRShrink
-/
import Derived.Test.YtjconllgghangaaDoorExBlk
import Derived.Test.YtjconllgghangaaDoorGT
namespace Go.Proofs.YtjconllgghangaaDoor.Ex
open Go.RowKit

section
variable {P : Program} {o : Oper} {ρ : Operand → Value}
theorem ex_sl1 (t : TypeId) (x y : Operand) (ho : o.op = .slice t x none (some y) none) (vx vy v : Value) (hx : ρ x = vx) (hy : ρ y = vy) (hrun : ∀ w, (Instr.sliceAt t vx none (some vy) none).run P w = .ok v w) (w : World) : (execOp ρ o).run P w = .ok (.value v) w := by
  unfold execOp
  simp only [ho, hx, hy, Option.map_some, Option.map_none]
  rw [Sem.run_bind, hrun]
  rfl
theorem ex_sl2 (t : TypeId) (x y : Operand) (ho : o.op = .slice t x (some y) none none) (vx vy v : Value) (hx : ρ x = vx) (hy : ρ y = vy) (hrun : ∀ w, (Instr.sliceAt t vx (some vy) none none).run P w = .ok v w) (w : World) : (execOp ρ o).run P w = .ok (.value v) w := by
  unfold execOp
  simp only [ho, hx, hy, Option.map_some, Option.map_none]
  rw [Sem.run_bind, hrun]
  rfl
end
theorem head_run (g N cap K : Nat) (w : World) (h1 : K ≤ N) (h2 : N ≤ cap) : (Instr.sliceAt 24 (.slice (some ⟨g, 0, none⟩) N cap) none (some (.int .i64 (K : Int))) none).run Tryd.prog w = .ok (.slice (some ⟨g, 0, none⟩) K cap) w := by
  have e1 : (K : Int) ≤ (cap : Int) := by omega
  go_simp
theorem tail_run (g N cap K : Nat) (w : World) (h1 : K ≤ N) (_h2 : N ≤ cap) (h3 : K < cap) : (Instr.sliceAt 24 (.slice (some ⟨g, 0, none⟩) N cap) (some (.int .i64 (K : Int))) none none).run Tryd.prog w = .ok (.slice (some ⟨g, K, none⟩) (N - K) (cap - K)) w := by
  have h4 : ¬ cap = K := by omega
  go_simp
theorem tail_run0 (g K : Nat) (w : World) : (Instr.sliceAt 24 (.slice (some ⟨g, 0, none⟩) K K) (some (.int .i64 (K : Int))) none none).run Tryd.prog w = .ok (.slice (some ⟨g, 0, none⟩) 0 0) w := by
  go_simp
theorem head_nil (w : World) : (Instr.sliceAt 24 (.slice none 0 0) none (some (.int .i64 0)) none).run Tryd.prog w = .ok (.slice none 0 0) w := by
  go_simp
theorem tail_nil (w : World) : (Instr.sliceAt 24 (.slice none 0 0) (some (.int .i64 0)) none none).run Tryd.prog w = .ok (.slice none 0 0) w := by
  go_simp
theorem JR.nil {w : World} {R : Option Addr} : JR w R [] := fun k x h => by simp at h
/-- A row cut in two. -/
theorem own_cut {w : World} {B : Nat} {R : Option Addr} {cap : Nat} {l : List Nat} (h : OwnI w B R cap l) {K : Nat} (hK : K ≤ l.length) : ∃ H ch T ct,
    (∀ w, (Instr.sliceAt 24 (.slice R l.length cap) none (some (.int .i64 (K : Int))) none).run Tryd.prog w = .ok (.slice H K ch) w) ∧
    (∀ w, (Instr.sliceAt 24 (.slice R l.length cap) (some (.int .i64 (K : Int))) none none).run Tryd.prog w = .ok (.slice T (l.length - K) ct) w) ∧ JR w H (l.take K) ∧ JR w T (l.drop K) := by
  have hir := h.ir
  rcases h.2 with ⟨hn, h0⟩ | ⟨g, cap', cur, e, _, hg, hnc, _⟩
  · have hl : l = [] := List.eq_nil_of_length_eq_zero h0
    subst hl
    obtain rfl : K = 0 := by simpa using hK
    injection hn with e1 e2 e3
    subst e1 e3
    exact ⟨none, 0, none, 0, head_nil, tail_nil, JR.nil, JR.nil⟩
  · injection e with e1 e2 e3
    subst e1 e3
    have hgl : g < w.heap.size := (Array.getElem?_eq_some_iff.1 hg).1
    have hH : JR w (some ⟨g, 0, none⟩) (l.take K) := fun k x hx => by
      rw [List.getElem?_take] at hx
      split at hx
      · exact IR.jr hir k x hx
      · cases hx
    by_cases hlt : K < cap
    · refine ⟨_, _, _, _, fun w => head_run g l.length cap K w hK hnc, fun w => tail_run g l.length cap K w hK hnc hlt, hH, fun k x hx => ?_⟩
      rw [List.getElem?_drop] at hx
      obtain ⟨g', e', hg', hc⟩ := hir _ x hx
      cases e'
      exact ⟨g, K, rfl, hgl, hc⟩
    · have hcK : cap = K := by omega
      have hlK : l.length = K := by omega
      refine ⟨some ⟨g, 0, none⟩, cap, some ⟨g, 0, none⟩, 0, fun w => head_run g l.length cap K w hK hnc, fun w => ?_, hH, ?_⟩
      · rw [hlK, hcK, Nat.sub_self]
        exact tail_run0 g K w
      · rw [List.drop_of_length_le (by omega)]
        exact JR.nil

set_option maxRecDepth 100000 in
set_option maxHeartbeats 1000000 in
theorem rshrink_any (A : Option Addr) (l : List EX) (c u : Nat) (n : Int) (w : World) (h : XR w w.heap.size A l) (hl : l.length ≤ 100) (hu : u < 4294967296) :
    Calls Tryd.prog 19 #[.slice A l.length c, .int .u32 (u : Int), .int .i64 n] w (Out3 w (shrinkV l u n)) := by
  have hbk := rblocks_any A l c w h hl
  have HBK := Lib.hid hbk
  clear hbk
  by_cases hok : ok l = true
  · by_cases hneg : n < 0
    · have hv : shrinkV l u n = ([], 0, 1) := by unfold shrinkV; rw [if_pos (.inr (.inl hneg))]
      have HV := Lib.hid hv
      have HOK := Lib.hid hok
      clear hv hok h
      go_enter Tryd.func19, Tryd.ntmps19
      go_wp2_with fail
      refine HBK.out.mono ?_
      rintro e w1 ⟨R, cap, rfl, own, b1⟩
      rw [HOK.out]
      clear own
      go_wp2_with fail
      go_ret3
      exact Out3.no HV.out b1
    · obtain ⟨K, rfl⟩ : ∃ K : Nat, n = (K : Int) := ⟨n.toNat, by omega⟩
      have hgood := ok_good l hok
      have HOK := Lib.hid hok
      by_cases hbig : (blkO l).length < K
      · have hv : shrinkV l u (K : Int) = ([], 0, 1) := by unfold shrinkV; rw [if_pos (.inr (.inr (by rw [← blkO_yes hok]; omega)))]
        have HV := Lib.hid hv
        clear hv hok h hneg hgood
        go_enter Tryd.func19, Tryd.ntmps19
        go_wp2_with fail
        refine HBK.out.mono ?_
        rintro e w1 ⟨R, cap, rfl, own, b1⟩
        rw [HOK.out]
        clear own
        generalize (blkO l).length = N at *
        go_wp2_with fail
        go_ret3
        exact Out3.no HV.out b1
      · have hKN : K ≤ (blkO l).length := by omega
        have hv : shrinkV l u (K : Int) = (extV [] ((blkO l).take K), andN u (setN ((blkO l).drop K)), 0) := by
          unfold shrinkV
          rw [blkO_yes hok] at hKN ⊢
          rw [if_neg (by rw [hok]; rintro (h | h | h); cases h; omega; omega), Int.toNat_natCast]
        rw [← blkO_yes hok] at hgood
        have hlk : ((blkO l).take K).length = K := by rw [List.length_take]; omega
        have hdk : ((blkO l).drop K).length = (blkO l).length - K := List.length_drop
        have hlen := hgood.len
        have hlt32 : ∀ b ∈ (blkO l).take K, b < 32 := fun b hb => ((hgood.take K).2 b hb).2
        have hbd := bd_ext ((blkO l).take K) hlt32
        have hand := andN_int u (setN ((blkO l).drop K)) hu (hgood.drop K).lt
        have HGD := Lib.hid (hgood.drop K)
        have HBD := Lib.hid (hbd.1.ok (by omega))
        have HV := Lib.hid hv
        have H32 := Lib.hid hlt32
        clear hv hok h hneg hgood hbd hlt32 hbig
        go_enter Tryd.func19, Tryd.ntmps19
        go_wp2_with fail
        refine HBK.out.mono ?_
        rintro e w1 ⟨R, cap, rfl, own, b1⟩
        rw [HOK.out]
        obtain ⟨H, ch, T, ct, hhd, htl, hjh, hjt⟩ := own_cut own hKN
        have hex := fun W (hW : Below w1.heap.size w1 W) => rextents_any H ((blkO l).take K) ch W (hjh.below hW) (by omega) H32.out
        have hse := fun W (hW : Below w1.heap.size w1 W) => rset_any T ((blkO l).drop K) ct W (hjt.below hW) HGD.out
        rw [hlk] at hex
        rw [hdk] at hse
        have hex2 : ∀ W, Below w1.heap.size w1 W → Calls Tryd.prog 27 #[.slice H K ch] W fun e W2 => ∃ R4 c4, e = .returned (.slice R4 (extV [] ((blkO l).take K)).length c4) ∧ XR W2 W2.heap.size R4 (extV [] ((blkO l).take K)) ∧ Below W.heap.size W W2 := fun W hW => (hex W hW).mono fun e W2 ⟨R4, c4, he, ho, hb⟩ => ⟨R4, c4, he, ho.xr HBD.out, hb⟩
        have HHD := Lib.hid hhd
        have HTL := Lib.hid htl
        have HEX := Lib.hid hex2
        have HSE := Lib.hid hse
        have HB1 := Lib.hid b1
        clear own hhd htl hjh hjt hex hex2 hse b1 hlk hdk HBK HOK HBD HGD H32
        generalize (blkO l).length = N at *
        generalize extV [] ((blkO l).take K) = X at *
        generalize setN ((blkO l).drop K) = S at *
        generalize andN u S = V at *
        go_wp2_with fail
        refine wp_region_held (S := fun W => Below w1.heap.size w1 W) (by kernel_rfl) ?_
        change wpAnyH _ _ _ _ _ _ _ _ (w1).drew
        have hS : Below w1.heap.size w1 w1.drew := below_drewN (Below.refl _ _) 1
        generalize (w1).drew = w2 at *
        refine wpAnyH_take (oi := ⟨_, _, _, _, _, _⟩) (i := 0) (v := .slice R N cap) rfl (by kernel_rfl) (by kernel_rfl) (by kernel_rfl) (fun _ _ _ h => h) (Or.inl ⟨by rfl, fun _ _ => rfl⟩) hS ?_
        try simp only [Act.put, List.setIfInBounds_toArray, List.set_cons_zero, List.set_cons_succ]
        refine wpAnyH_take (oi := ⟨_, _, _, _, _, _⟩) (i := 1) (v := .int .i64 (K : Int)) rfl (by kernel_rfl) (by kernel_rfl) (by kernel_rfl) (fun _ _ _ h => h) (Or.inl ⟨by rfl, fun _ _ => rfl⟩) hS ?_
        try simp only [Act.put, List.setIfInBounds_toArray, List.set_cons_zero, List.set_cons_succ]
        refine wpAnyH_take (oi := ⟨_, _, _, _, _, _⟩) (i := 2) (v := .slice H K ch) rfl (by kernel_rfl) (by kernel_rfl) (by kernel_rfl) (fun _ _ _ h => h) (Or.inl ⟨by rfl, fun _ _ => ex_sl1 24 (.tmp 28) (.tmp 29) rfl _ _ _ rfl rfl HHD.out _⟩) hS ?_
        try simp only [Act.put, List.setIfInBounds_toArray, List.set_cons_zero, List.set_cons_succ]
        refine wpAnyH_take (oi := ⟨_, _, _, _, _, _⟩) (i := 4) (v := .int .u32 (u : Int)) rfl (by kernel_rfl) (by kernel_rfl) (by kernel_rfl) (fun _ _ _ h => h) (Or.inl ⟨by rfl, fun _ _ => rfl⟩) hS ?_
        try simp only [Act.put, List.setIfInBounds_toArray, List.set_cons_zero, List.set_cons_succ]
        refine wpAnyH_take (oi := ⟨_, _, _, _, _, _⟩) (i := 5) (v := .slice R N cap) rfl (by kernel_rfl) (by kernel_rfl) (by kernel_rfl) (fun _ _ _ h => h) (Or.inl ⟨by rfl, fun _ _ => rfl⟩) hS ?_
        try simp only [Act.put, List.setIfInBounds_toArray, List.set_cons_zero, List.set_cons_succ]
        refine wpAnyH_take (oi := ⟨_, _, _, _, _, _⟩) (i := 6) (v := .int .i64 (K : Int)) rfl (by kernel_rfl) (by kernel_rfl) (by kernel_rfl) (fun _ _ _ h => h) (Or.inl ⟨by rfl, fun _ _ => rfl⟩) hS ?_
        try simp only [Act.put, List.setIfInBounds_toArray, List.set_cons_zero, List.set_cons_succ]
        refine wpAnyH_take (oi := ⟨_, _, _, _, _, _⟩) (i := 7) (v := .slice T (N - K) ct) rfl (by kernel_rfl) (by kernel_rfl) (by kernel_rfl) (fun _ _ _ h => h) (Or.inl ⟨by rfl, fun _ _ => ex_sl2 24 (.tmp 33) (.tmp 34) rfl _ _ _ rfl rfl HTL.out _⟩) hS ?_
        try simp only [Act.put, List.setIfInBounds_toArray, List.set_cons_zero, List.set_cons_succ]
        refine wpAnyH_all (rs := [3]) (by kernel_rfl) (by simp) fun i hi => ?_
        obtain rfl : i = 3 := by simpa using hi
        refine op_call (om := ⟨_, _, _, _, _, _⟩) (fn := 27) (args := #[.slice H K ch]) (R := fun u W2 => ∃ R4 c4, u = .slice R4 X.length c4 ∧ XR W2 W2.heap.size R4 X ∧ Below w1.heap.size w1 W2) rfl rfl (by go_simp)
          ((HEX.out w2 hS).mono fun e W2 ⟨R4, c4, he, hx, hb⟩ => ⟨_, he, R4, c4, rfl, hx, hS.trans (hb.mono hS.size)⟩) _ _ rfl rfl ?_
        rintro u W2 ⟨R4, c4, rfl, hx4, hb4⟩
        have hS : Below w1.heap.size w1 W2 := hb4
        have HX4 := Lib.hid hx4
        clear hx4 hb4 hi
        refine ⟨hS, ?_⟩
        try simp only [Act.put, List.setIfInBounds_toArray, List.set_cons_zero, List.set_cons_succ]
        refine wpAnyH_all (rs := [8]) (by kernel_rfl) (by simp) fun i hi => ?_
        obtain rfl : i = 8 := by simpa using hi
        refine op_call (om := ⟨_, _, _, _, _, _⟩) (fn := 14) (args := #[.slice T (N - K) ct]) (R := fun u W3 => u = .int .u32 (S : Int) ∧ W3 = W2) rfl rfl (by go_simp)
          ((HSE.out W2 hS).mono fun e W3 ⟨he, hb⟩ => ⟨_, he, rfl, hb⟩) _ _ rfl rfl ?_
        rintro u W3 ⟨rfl, rfl⟩
        have hS : Below w1.heap.size w1 W3 := hS
        clear hi
        refine ⟨hS, ?_⟩
        try simp only [Act.put, List.setIfInBounds_toArray, List.set_cons_zero, List.set_cons_succ]
        refine wpAnyH_take (oi := ⟨_, _, _, _, _, _⟩) (i := 9) (v := .int .u32 (V : Int)) rfl (by kernel_rfl) (by kernel_rfl) (by kernel_rfl) (fun _ _ _ h => h) (Or.inl ⟨by rfl, fun _ _ => by go_simp⟩) hS ?_
        try simp only [Act.put, List.setIfInBounds_toArray, List.set_cons_zero, List.set_cons_succ]
        refine wpAnyH_take (oi := ⟨_, _, _, _, _, _⟩) (i := 10) (v := .slice R4 X.length c4) rfl (by kernel_rfl) (by kernel_rfl) (by kernel_rfl) (fun _ _ _ h => h) (Or.inl ⟨by rfl, fun _ _ => rfl⟩) hS ?_
        try simp only [Act.put, List.setIfInBounds_toArray, List.set_cons_zero, List.set_cons_succ]
        refine wpAnyH_take (oi := ⟨_, _, _, _, _, _⟩) (i := 11) (v := .int .u32 (V : Int)) rfl (by kernel_rfl) (by kernel_rfl) (by kernel_rfl) (fun _ _ _ h => h) (Or.inl ⟨by rfl, fun _ _ => rfl⟩) hS ?_
        try simp only [Act.put, List.setIfInBounds_toArray, List.set_cons_zero, List.set_cons_succ]
        refine wpAnyH_take (oi := ⟨_, _, _, _, _, _⟩) (i := 12) (v := .int .i64 0) rfl (by kernel_rfl) (by kernel_rfl) (by kernel_rfl) (fun _ _ _ h => h) (Or.inl ⟨by rfl, fun _ _ => rfl⟩) hS ?_
        try simp only [Act.put, List.setIfInBounds_toArray, List.set_cons_zero, List.set_cons_succ]
        refine wpAnyH_done (by kernel_rfl) ?_ _
        try simp only [Act.put, List.setIfInBounds_toArray, List.set_cons_zero, List.set_cons_succ]
        go_wp2_with fail
        go_ret3
        exact ⟨R4, c4, by rw [HV.out]; rfl, by rw [HV.out]; exact HX4.out, HB1.out.trans (hS.mono HB1.out.size)⟩
  · have hno : ok l = false := by simpa using hok
    have hv : shrinkV l u n = ([], 0, 1) := by unfold shrinkV; rw [if_pos (.inl hno)]
    have HV := Lib.hid hv
    have HNO := Lib.hid hno
    clear hv hok h hno
    go_enter Tryd.func19, Tryd.ntmps19
    go_wp2_with fail
    refine HBK.out.mono ?_
    rintro e w1 ⟨R, cap, rfl, own, b1⟩
    rw [HNO.out]
    clear own
    go_wp2_with fail
    go_ret3
    exact Out3.no HV.out b1
end Go.Proofs.YtjconllgghangaaDoor.Ex
