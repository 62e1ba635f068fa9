/-
  Merged by wip/tools/merge.py: SnLoad SnLd
-/
import Derived.Test.YtebecpjecchfoaaGreatDoorGWr
import Derived.Test.YtebecpjecchfoaaGreatDoorGTm
import Derived.Test.YtebecpjecchfoaaGreatDoorGRd
import Derived.Test.YtebecpjecchfoaaGreatDoorGT
import Derived.Test.YtebecpjecchfoaaGreatDoorGMm
import Derived.Test.YtebecpjecchfoaaGreatDoorGSnB
namespace Go.Proofs.YtebecpjecchfoaaGreatDoor.St
set_option linter.unusedSimpArgs false
set_option linter.unusedVariables false
open Go.RowKit Go.Maps Mm

/-- The memory of what was shown. -/
def memS (D : DSt) (ps : PL) : List UInt8 := ps.foldl (fun M q => if 0 ≤ q.2 then splice M (q.2.toNat * 64) (D.now q.1) else M) (List.replicate 8192 0)
theorem memS_snoc (D : DSt) (ps : PL) (q : Nat × Int) : memS D (ps ++ [q]) = if 0 ≤ q.2 then splice (memS D ps) (q.2.toNat * 64) (D.now q.1) else memS D ps := by unfold memS; rw [List.foldl_append]; rfl
theorem splice_len64 {M x : List UInt8} {k : Nat} (hM : M.length = 8192) (hk : k < 128) (hx : x.length = 64) : (splice M (k * 64) x).length = 8192 := by
  simp only [splice, List.length_append, List.length_take, List.length_drop, hM, hx]
  omega
structure LdS (w0 : World) (dp : Nat) (D : DSt) (g mv dv : Nat) (fp : Nat → Prop) (l : PL) (w : World) : Prop where
  e1 : w.heap[mv]? = some (.cells #[.slice (some ⟨g, 0, none⟩) 8192 8192] 34 (0, 0))
  e2 : w.heap[dv]? = some (.cells #[.pointer (some ⟨dp, 0, none⟩)] 29 (0, 0))
  row : w.heap[g]? = some (.cells ((memS D l).map B8).toArray 5 (0, 0))
  len : (memS D l).length = 8192
  b : Below w0.heap.size w0 w
  f : ∀ k, fp k ↔ k = g

theorem size8'' : (Tryz.prog.info? 5).map (·.size) = some 1 := by kernel_rfl
theorem aggDv (w : World) : (isAgg 29).run Tryz.prog w = .ok false w := by unfold isAgg; rw [Sem.run_bind, run_underlying Tryz.underlying29 w]; rfl
theorem aggBs (w : World) : (isAgg 34).run Tryz.prog w = .ok false w := by unfold isAgg; rw [Sem.run_bind, run_underlying Tryz.underlying34 w]; rfl

set_option maxRecDepth 100000 in
set_option maxHeartbeats 800000 in
theorem ld_take {w0 w : World} {dp lb mb n : Nat} {iv : Value} {D : DSt} (h0 : DkAt w0 dp lb mb n iv D) (hd : D.down = false) {g mv dv : Nat} {fp : Nat → Prop} {l : PL} (h : LdS w0 dp D g mv dv fp l w) (hg : w0.heap.size ≤ g) (hm : g ≠ mv) (hv : g ≠ dv)
    (m : Nat) (hmn : m < n) (pg : Int) (hpg : -1 ≤ pg ∧ pg < 128) :
    Calls Tryz.prog 170 #[.int .i64 (m : Int), .int .i64 pg, .pointer (some ⟨mv, 0, none⟩), .pointer (some ⟨dv, 0, none⟩)] w (TOut (LdS w0 dp D g mv dv) fp l m pg w) := by
  by_cases hp : pg = -1
  · subst hp
    have hfin : TOut (LdS w0 dp D g mv dv) fp l m (-1) w (.returned (.tuple #[])) w := by
      have e : memS D (l ++ [(m, -1)]) = memS D l := by rw [memS_snoc]; exact if_neg (show ¬ (0 : Int) ≤ -1 by decide)
      exact ⟨rfl, fp, ⟨h.e1, h.e2, by rw [e]; exact h.row, by rw [e]; exact h.len, h.b, h.f⟩, Keeps.refl _ _, fun _ h => .inl h⟩
    go_enter Tryz.func170, Tryz.ntmps170
    go_wp2_with fail
    go_end0
    exact hfin
  · obtain ⟨k, rfl⟩ := Int.eq_ofNat_of_zero_le (show 0 ≤ pg by omega)
    have hk : k < 128 := by omega
    have hne : ((k : Int) != -1) = true := by simp
    have e : memS D (l ++ [(m, (k : Int))]) = splice (memS D l) (k * 64) (D.now m) := by rw [memS_snoc]; exact if_pos (by simp)
    have hnl := now_len h0.ok hmn
    have hw64 : IntKind.i64.wrap ((k : Int) * 64) = (k : Int) * 64 := by rw [IntKind.wrap_i64]; omega
    have h03 : 0 ≤ (k : Int) * 64 ∧ (k : Int) * 64 ≤ 8192 := by omega
    have hnat : ((k : Int) * 64).toNat = k * 64 := by omega
    have hne8 : ¬ 8192 = k * 64 := by omega
    have hlen := h.len
    have hsl : (splice (memS D l) (k * 64) (D.now m)).length = 8192 := splice_len64 hlen hk hnl
    have hdr := h0.same (keeps_below (h.b.trans (keeps_below (Below.refl w.heap.size w) |>.toBelow _ h.b.size (fun _ h => h.elim))))
    have kd : Keeps (fun _ => False) w w.drew := Keeps.drew _ _
    have hby := wbytes_ok (hdr.same kd) m hmn hd
    have l1 : mv < w.heap.size := (Array.getElem?_eq_some_iff.1 h.e1).1
    have l2 : dv < w.heap.size := (Array.getElem?_eq_some_iff.1 h.e2).1
    have l3 : g < w.heap.size := (Array.getElem?_eq_some_iff.1 h.row).1
    have hfin : ∀ (w2 w' : World), Below w.heap.size w.drew w2 → Row8 w' g 5 (splice (memS D l) (k * 64) (D.now m)) → w2.grownBy w' (some g) → TOut (LdS w0 dp D g mv dv) fp l m (k : Int) w (.returned (.tuple #[])) w' := by
      intro w2 w' b2 r gr
      have k2 : Keeps (fun _ => False) w w2 := kd.trans (keeps_below b2)
      have kg : Keeps (· = g) w2 w' := Keeps.grown _ gr (fun k hk => by cases hk; rfl)
      have kw : Keeps (· = g) w w' := (k2.mono (fun _ _ h => h.elim)).trans kg
      refine ⟨rfl, fp, ⟨(kw.block mv l1 (fun e => hm e.symm)).trans h.e1, (kw.block dv l2 (fun e => hv e.symm)).trans h.e2, by rw [e]; exact r.block, by rw [e]; exact hsl, h.b.trans (kw.toBelow _ h.b.size (fun b e => by omega)), h.f⟩, kw.mono (fun b _ e => (h.f b).2 e), fun _ h => .inl h⟩
    have c1 : w.drew.cell? ⟨mv, 0, none⟩ = some (.slice (some ⟨g, 0, none⟩) 8192 8192) := by show w.cell? _ = _; rw [cell_of_row _ _ _ _ _ _ h.e1]; rfl
    have c2 : w.drew.cell? ⟨dv, 0, none⟩ = some (.pointer (some ⟨dp, 0, none⟩)) := by show w.cell? _ = _; rw [cell_of_row _ _ _ _ _ _ h.e2]; rfl
    have hrow : w.drew.heap[g]? = some (.cells ((memS D l).map B8).toArray 5 (0, 0)) := h.row
    have HF := Lib.hid hfin
    clear h hdr kd e hsl hfin
    generalize memS D l = M at *
    go_enter Tryz.func170, Tryz.ntmps170
    go_wp2_with fail
    refine wp_region_held (S := fun W => W.cell? ⟨mv, 0, none⟩ = some (.slice (some ⟨g, 0, none⟩) 8192 8192) ∧ W.cell? ⟨dv, 0, none⟩ = some (.pointer (some ⟨dp, 0, none⟩))) (by kernel_rfl) ?_
    change wpAnyH _ _ _ _ _ _ _ _ w.drew
    have hS : w.drew.cell? ⟨mv, 0, none⟩ = some (.slice (some ⟨g, 0, none⟩) 8192 8192) ∧ w.drew.cell? ⟨dv, 0, none⟩ = some (.pointer (some ⟨dp, 0, none⟩)) := ⟨c1, c2⟩
    have hsz : w.drew.heap.size = w.heap.size := rfl
    generalize w.drew = w1 at *
--@load1
    refine wpAnyH_take (oi := ⟨_, _, _, _, _, _⟩) (i := 0) (v := .slice (some ⟨g, 0, none⟩) 8192 8192) rfl (by kernel_rfl) (by kernel_rfl) (by kernel_rfl) (fun _ _ _ h => h) (yif_load rfl 34 (.tmp 2) rfl _ _ rfl fun w h => load_one aggBs h.1) hS ?_
    try simp only [Act.put, List.setIfInBounds_toArray, List.set_cons_zero, List.set_cons_succ]
    refine wpAnyH_take (oi := ⟨_, _, _, _, _, _⟩) (i := 1) (v := .int .i64 (k : Int)) rfl (by kernel_rfl) (by kernel_rfl) (by kernel_rfl) (fun _ _ _ h => h) (Or.inl ⟨by rfl, fun _ _ => rfl⟩) hS ?_
    try simp only [Act.put, List.setIfInBounds_toArray, List.set_cons_zero, List.set_cons_succ]
    refine wpAnyH_take (oi := ⟨_, _, _, _, _, _⟩) (i := 2) (v := .int .i64 ((k : Int) * 64)) rfl (by kernel_rfl) (by kernel_rfl) (by kernel_rfl) (fun _ _ _ h => h) (Or.inl ⟨by rfl, fun _ _ => by go_simp⟩) hS ?_
    try simp only [Act.put, List.setIfInBounds_toArray, List.set_cons_zero, List.set_cons_succ]
    refine wpAnyH_take (oi := ⟨_, _, _, _, _, _⟩) (i := 3) (v := .slice (some ⟨g, k * 64, none⟩) (8192 - k * 64) (8192 - k * 64)) rfl (by kernel_rfl) (by kernel_rfl) (by kernel_rfl) (fun _ _ _ h => h) (Or.inl ⟨by rfl, fun _ _ => by go_simp⟩) hS ?_
    try simp only [Act.put, List.setIfInBounds_toArray, List.set_cons_zero, List.set_cons_succ]
    refine wpAnyH_take (oi := ⟨_, _, _, _, _, _⟩) (i := 4) (v := .pointer (some ⟨dp, 0, none⟩)) rfl (by kernel_rfl) (by kernel_rfl) (by kernel_rfl) (fun _ _ _ h => h) (yif_load rfl 29 (.tmp 3) rfl _ _ rfl fun w h => load_one aggDv h.2) hS ?_
    try simp only [Act.put, List.setIfInBounds_toArray, List.set_cons_zero, List.set_cons_succ]
    refine wpAnyH_take (oi := ⟨_, _, _, _, _, _⟩) (i := 5) (v := .int .i64 (m : Int)) rfl (by kernel_rfl) (by kernel_rfl) (by kernel_rfl) (fun _ _ _ h => h) (Or.inl ⟨by rfl, fun _ _ => rfl⟩) hS ?_
    try simp only [Act.put, List.setIfInBounds_toArray, List.set_cons_zero, List.set_cons_succ]
    refine wpAnyH_all (rs := [6]) (by kernel_rfl) (by simp) fun i hi => ?_
    obtain rfl : i = 6 := by simpa using hi
    refine op_call (om := ⟨_, _, _, _, _, _⟩) (fn := 171) (args := #[.pointer (some ⟨dp, 0, none⟩), .int .i64 (m : Int)]) (R := fun u w' => GivesB w1 (D.now m) (.returned u) w') rfl rfl (by go_simp)
      (hby.mono fun e w' h => by obtain ⟨R, c, rfl, h1⟩ := h; exact ⟨_, rfl, R, c, rfl, h1⟩) _ _ rfl rfl ?_
    rintro u w2 hu
    have hS : w2.cell? ⟨mv, 0, none⟩ = some (.slice (some ⟨g, 0, none⟩) 8192 8192) ∧ w2.cell? ⟨dv, 0, none⟩ = some (.pointer (some ⟨dp, 0, none⟩)) := by obtain ⟨R, c, _, _, b⟩ := hu; exact ⟨(b.cell (p := ⟨mv, 0, none⟩) (by show mv < _; omega)).trans hS.1, (b.cell (p := ⟨dv, 0, none⟩) (by show dv < _; omega)).trans hS.2⟩
    clear hby
    refine ⟨hS, ?_⟩
    try simp only [Act.put, List.setIfInBounds_toArray, List.set_cons_zero, List.set_cons_succ]
--@@
    obtain ⟨R, c, hu, br, b2⟩ := hu
    rw [hnl] at hu
    cases hu
    have hg2 : w2.heap[g]? = some (.cells (M.map B8).toArray 5 (0, 0)) := (b2.block g (by omega)).trans hrow
    have hne0 : D.now m ≠ [] := fun e => by rw [e] at hnl; cases hnl
    obtain ⟨ad, hRe, _, _⟩ := br hne0
    subst hRe
    obtain ⟨w3, c3, r3, g3⟩ := run_copy8m (P := Tryz.prog) w2 34 34 3 5 5 Tryz.underlying34 size8'' g (k * 64) (8192 - k * 64) (8192 - k * 64) M (D.now m) ad 64 c (Row8.of_block hg2) br (by omega) (by omega) hne0
    rw [hnl] at c3
    have b2' : Below w.heap.size w1 w2 := hsz ▸ b2
    have HFF := Lib.hid (HF.out w2 w3 b2' r3 g3)
    have kg : Keeps (· = g) w2 w3 := Keeps.grown _ g3 (fun k hk => by cases hk; rfl)
    have hS3 : w3.cell? ⟨mv, 0, none⟩ = some (.slice (some ⟨g, 0, none⟩) 8192 8192) ∧ w3.cell? ⟨dv, 0, none⟩ = some (.pointer (some ⟨dp, 0, none⟩)) := ⟨(kg.cell mv 0 (by have := b2.size; omega) (fun e => hm e.symm)).trans hS.1, (kg.cell dv 0 (by have := b2.size; omega) (fun e => hv e.symm)).trans hS.2⟩
    clear HF b2' r3 g3 hg2 br hrow kg
    refine wpAnyH_all (rs := [7]) (by kernel_rfl) (by simp) fun i hi => ?_
    obtain rfl : i = 7 := by simpa using hi
    refine op_run (om := ⟨_, _, _, _, _, _⟩) (u := .int .i64 64) (w' := w3) rfl rfl ?_ _ _ rfl rfl ?_
    · simp only [execOp, resolve, invoke, builtin, Sem.run_bind, Sem.run_pure, Result.andThen_ok, List.map_toArray, List.map_cons, List.map_nil]
      erw [c3]
      rfl
    · rintro x y ⟨rfl, rfl⟩
      refine ⟨hS3, ?_⟩
      refine wpAnyH_done (by kernel_rfl) ?_ _
      try simp only [Act.put, List.setIfInBounds_toArray, List.set_cons_zero, List.set_cons_succ]
      go_wp2_with fail
      go_end0
      exact HFF.out

theorem ld_ok {w0 : World} {dp lb mb n : Nat} {iv : Value} {D : DSt} (h0 : DkAt w0 dp lb mb n iv D) (hd : D.down = false) {g mv dv C : Nat} (hg : w0.heap.size ≤ g) (hm : g ≠ mv) (hv : g ≠ dv) (h1 : mv < C) (h2 : dv < C) (h3 : w0.heap.size ≤ C) : SOk (LdS w0 dp D g mv dv) C n 170 #[.pointer (some ⟨mv, 0, none⟩), .pointer (some ⟨dv, 0, none⟩)] where
  keep := by
    rintro fp l W W' G h k hG
    have l1 : mv < W.heap.size := (Array.getElem?_eq_some_iff.1 h.e1).1
    have l2 : dv < W.heap.size := (Array.getElem?_eq_some_iff.1 h.e2).1
    have l3 : g < W.heap.size := (Array.getElem?_eq_some_iff.1 h.row).1
    exact ⟨(k.block mv l1 (fun e => by have := (hG _ e).1; omega)).trans h.e1, (k.block dv l2 (fun e => by have := (hG _ e).1; omega)).trans h.e2, (k.block g l3 (fun e => (hG _ e).2 ((h.f g).2 rfl))).trans h.row, h.len, h.b.trans (k.toBelow _ h.b.size (fun b e => by have := (hG _ e).1; omega)), h.f⟩
  lt := by
    rintro fp l W k h hk
    obtain rfl := (h.f k).1 hk
    exact (Array.getElem?_eq_some_iff.1 h.row).1
  enters := fun args w => enters_of Tryz.func170 (by kernel_rfl) rfl args w
  take := fun h hmn _ hpg => ld_take h0 hd h hg hm hv _ hmn _ hpg

/-- What Load gives. -/
def LdOut (w : World) (D : DSt) (n : Nat) (top : Int) (e : Ending) (w' : World) : Prop :=
  Below w.heap.size w w' ∧ ((∃ ps g, walkT D n top = some ps ∧ e = .returned (.tuple #[.slice (some ⟨g, 0, none⟩) 8192 8192, .int .i64 0]) ∧ w.heap.size ≤ g ∧ w'.heap[g]? = some (.cells ((memS D ps).map B8).toArray 5 (0, 0)) ∧ (memS D ps).length = 8192) ∨
    (walkT D n top = none ∧ e = .returned (.tuple #[.slice none 0 0, .int .i64 60])))

set_option maxRecDepth 100000 in
set_option maxHeartbeats 800000 in
theorem load_any {w : World} {p lb mb n : Nat} {iv : Value} {D : DSt} (h : DkAt w p lb mb n iv D) (hd : D.down = false) (top : Int) (h1 : -9223372036854775808 ≤ top) (h2 : top ≤ 9223372036854775807) :
    Calls Tryz.prog 127 #[.pointer (some ⟨p, 0, none⟩), .int .i64 top] w (LdOut w D n top) := by
  have hmf : ∀ (fn : Fn) (first cap : Array Value) (w : World), (Instr.makeFunc fn first cap).run Tryz.prog w = .ok (.func fn first cap) w := fun _ _ _ _ => rfl
  have hmk : ∀ w : World, (Instr.makeSlice 34 (.int .i64 8192) (.int .i64 8192)).run Tryz.prog w = .ok (.slice (some ⟨w.heap.size, 0, none⟩) 8192 8192) (w.alloc (.cells (madeCells #[.int .u8 0] 8192) 5)) := fun w => make8 8192 (by omega) w
  generalize hmc : madeCells #[.int .u8 0] 8192 = mc at hmk
  have hmc2 : mc = ((memS D []).map B8).toArray := by
    rw [← hmc]
    have := (Row8.made w 8192 5).block
    rw [heap_alloc_new] at this
    injection this with this
    injection this with this
  have HMC := Lib.hid hmc2
  clear hmc hmc2
  have s3 : (((w.alloc (.cells #[.pointer (some ⟨p, 0, none⟩)] 29)).alloc (.cells mc 5)).alloc (.cells #[.slice (some ⟨w.heap.size + 1, 0, none⟩) 8192 8192] 34)).heap.size = w.heap.size + 3 := by simp
  have b3 : Below w.heap.size w (((w.alloc (.cells #[.pointer (some ⟨p, 0, none⟩)] 29)).alloc (.cells mc 5)).alloc (.cells #[.slice (some ⟨w.heap.size + 1, 0, none⟩) 8192 8192] 34)) := (((Below.refl _ _).alloc (Nat.le_refl _) _).alloc (by simp) _).alloc (by simp; omega) _
  have e0 : (((w.alloc (.cells #[.pointer (some ⟨p, 0, none⟩)] 29)).alloc (.cells mc 5)).alloc (.cells #[.slice (some ⟨w.heap.size + 1, 0, none⟩) 8192 8192] 34)).heap[w.heap.size]? = some (.cells #[.pointer (some ⟨p, 0, none⟩)] 29 (0, 0)) := by
    rw [Below.heap_alloc _ _ _ (by simp; omega), Below.heap_alloc _ _ _ (by simp)]
    exact heap_alloc_new _ _
  have e1 : (((w.alloc (.cells #[.pointer (some ⟨p, 0, none⟩)] 29)).alloc (.cells mc 5)).alloc (.cells #[.slice (some ⟨w.heap.size + 1, 0, none⟩) 8192 8192] 34)).heap[w.heap.size + 1]? = some (.cells mc 5 (0, 0)) := by
    rw [Below.heap_alloc _ _ _ (by simp)]
    exact blk_at_last _ _ _ (by simp)
  have e2 : (((w.alloc (.cells #[.pointer (some ⟨p, 0, none⟩)] 29)).alloc (.cells mc 5)).alloc (.cells #[.slice (some ⟨w.heap.size + 1, 0, none⟩) 8192 8192] 34)).heap[w.heap.size + 2]? = some (.cells #[.slice (some ⟨w.heap.size + 1, 0, none⟩) 8192 8192] 34 (0, 0)) := blk_at_last _ _ _ (by simp)
  have e1 := e1.trans (by rw [HMC.out] : some (Obj.cells mc 5 (0, 0)) = some (Obj.cells ((memS D []).map B8).toArray 5 (0, 0)))
  have S3 := Lib.hid s3
  have ls : LdS w p D (w.heap.size + 1) (w.heap.size + 2) w.heap.size (fun k => k = w.heap.size + 1) [] (((w.alloc (.cells #[.pointer (some ⟨p, 0, none⟩)] 29)).alloc (.cells mc 5)).alloc (.cells #[.slice (some ⟨w.heap.size + 1, 0, none⟩) 8192 8192] 34)) := ⟨e2, e0, e1, by simp [memS], b3, fun _ => Iff.rfl⟩
  have ht := through_any h hd (ld_ok h hd (g := w.heap.size + 1) (mv := w.heap.size + 2) (dv := w.heap.size) (C := (((w.alloc (.cells #[.pointer (some ⟨p, 0, none⟩)] 29)).alloc (.cells mc 5)).alloc (.cells #[.slice (some ⟨w.heap.size + 1, 0, none⟩) 8192 8192] 34)).heap.size) (by omega) (by omega) (by omega) (by rw [s3]; omega) (by rw [s3]; omega) (by rw [s3]; omega)) ls b3 (fun k hk => by omega) top h1 h2
  clear s3 e0 e1 e2 ls h
  go_enter Tryz.func127, Tryz.ntmps127
  go_wp2_with fail
  generalize (((w.alloc (.cells #[.pointer (some ⟨p, 0, none⟩)] 29)).alloc (.cells mc 5)).alloc (.cells #[.slice (some ⟨w.heap.size + 1, 0, none⟩) 8192 8192] 34)) = w3 at *
  refine ht.mono ?_
  clear ht hmk hmf
  rintro e w4 (⟨ps, fp', hX, rfl, hl, k4, _⟩ | ⟨hX, rfl, k4⟩)
  · have b4 : Below w.heap.size w w4 := b3.trans (k4.toBelow _ b3.size (fun b e => by omega))
    have c2 : w4.cell? ⟨w.heap.size + 2, 0, none⟩ = some (.slice (some ⟨w.heap.size + 1, 0, none⟩) 8192 8192) := by rw [cell_of_row _ _ _ _ _ _ hl.e1]; rfl
    have HR := Lib.hid (And.intro hl.row hl.len)
    have HX := Lib.hid hX
    clear hl hX k4 b3
    go_wp2_with fail
    go_ret2
    exact ⟨b4, .inl ⟨ps, _, HX.out, rfl, by omega, HR.out.1, HR.out.2⟩⟩
  · have b4 : Below w.heap.size w w4 := b3.trans (k4.toBelow _ b3.size (fun b e => by omega))
    have HX := Lib.hid hX
    clear hX k4 b3
    go_wp2_with fail
    go_ret2
    exact ⟨b4, .inr ⟨HX.out, rfl⟩⟩
end Go.Proofs.YtebecpjecchfoaaGreatDoor.St
namespace Go.Proofs.YtebecpjecchfoaaGreatDoor.St
set_option linter.unusedSimpArgs false
set_option linter.unusedVariables false
open Go.RowKit Go.Maps

theorem Tryz.sizeC : (Tryz.prog.info? 78).map (·.size) = some 64 := by kernel_rfl
/-! ### parts of a state's struct -/
theorem splice_mid {α : Type} (a b c y : List α) (o : Nat) (h : o + y.length ≤ b.length) : splice (a ++ (b ++ c)) (a.length + o) y = a ++ (splice b o y ++ c) := by
  unfold splice
  rw [List.take_append, List.take_of_length_le (by omega), show a.length + o - a.length = o from by omega, List.take_append_of_le_length (by omega), List.drop_append, List.drop_of_length_le (by omega : a.length ≤ a.length + o + y.length), show a.length + o + y.length - a.length = o + y.length from by omega, List.drop_append_of_le_length h]
  simp [List.append_assoc]
theorem map_splice (xs ys : List UInt8) (o : Nat) : (splice xs o ys).map B8 = splice (xs.map B8) o (ys.map B8) := by
  simp [splice, List.map_take, List.map_drop]
section
variable {w : World} {Fd : Nat → Prop} {t : TypeId} {tail : List Value} {p dp : Nat} {S : SSt} {D : DSt}
theorem hlen : (hcells dp S).length = 4 := rfl
theorem SnAt.range (h : w.heap[p]? = some (.cells (scells dp S tail).toArray t (0, 0))) (o : Nat) (ys : List Value) (hy : ∀ j v, ys[j]? = some v → (scells dp S tail)[o + j]? = some v) : w.rangeAt p o ys := by
  intro j v hv
  rw [cell_of_row w p (o + j) _ t _ h]
  have := hy j v hv
  simpa using this
theorem saved_at (hs : S.saved.length = 8192) (o : Nat) (n : Nat) (ho : o + n ≤ 8192) (j : Nat) (v : Value) (hv : (((S.saved.drop o).take n).map B8)[j]? = some v) : (scells dp S tail)[4 + o + j]? = some v := by
  rw [List.getElem?_map, List.getElem?_take] at hv
  split at hv
  · rename_i hj
    unfold scells
    rw [List.getElem?_append_right (by rw [hlen]; omega), hlen, List.getElem?_append_left (by simp; omega), List.getElem?_map]
    rw [List.getElem?_drop] at hv
    rw [show 4 + o + j - 4 = o + j from by omega]
    exact hv
  · cases hv
theorem live_at (hs : S.saved.length = 8192) (hl : S.live.length = 8192) (o : Nat) (n : Nat) (ho : o + n ≤ 8192) (j : Nat) (v : Value) (hv : (((S.live.drop o).take n).map B8)[j]? = some v) : (scells dp S tail)[8196 + o + j]? = some v := by
  rw [List.getElem?_map, List.getElem?_take] at hv
  split at hv
  · rename_i hj
    unfold scells
    rw [List.getElem?_append_right (by rw [hlen]; omega), hlen, List.getElem?_append_right (by simp; omega), List.getElem?_append_left (by simp; omega), List.getElem?_map]
    rw [List.getElem?_drop] at hv
    rw [List.length_map, hs, show 8196 + o + j - 4 - 8192 = o + j from by omega]
    exact hv
  · cases hv
theorem put_saved (hs : S.saved.length = 8192) (o : Nat) (x : List UInt8) (ho : o + x.length ≤ 8192) : splice (scells dp S tail) (4 + o) (x.map B8) = scells dp { S with saved := splice S.saved o x } tail := by
  unfold scells
  have := splice_mid (hcells dp S) (S.saved.map B8) (S.live.map B8 ++ tail) (x.map B8) o (by simp; omega)
  rw [hlen] at this
  rw [this, ← map_splice]
  rfl
theorem put_live (hs : S.saved.length = 8192) (hl : S.live.length = 8192) (o : Nat) (x : List UInt8) (ho : o + x.length ≤ 8192) : splice (scells dp S tail) (8196 + o) (x.map B8) = scells dp { S with live := splice S.live o x } tail := by
  unfold scells
  have := splice_mid (hcells dp S ++ S.saved.map B8) (S.live.map B8) tail (x.map B8) o (by simp; omega)
  rw [List.append_assoc, List.length_append, hlen, List.length_map, hs] at this
  rw [show 8196 + o = 4 + 8192 + o from by omega, this, ← map_splice, List.append_assoc]
  rfl
/-- Bytes of the saved pages, or of those now, are others. -/
theorem SnAt.putSaved (h : SnAt w Fd t tail p dp S D) (o : Nat) (x : List UInt8) (ho : o + x.length ≤ 8192) : SnAt (w.setCells p (4 + o) (x.map B8)) Fd t tail p dp { S with saved := splice S.saved o x } D ∧ Keeps (own p Fd) w (w.setCells p (4 + o) (x.map B8)) := by
  have hl : (scells dp S tail).length = 4 + (8192 + (8192 + tail.length)) := by simp [scells, hcells, h.ok.saved, h.ok.live]; omega
  obtain ⟨e, k⟩ := setCells_blockV (w := w) (4 + o) h.head (ys := x.map B8) (by rw [hl, List.length_map]; omega)
  rw [put_saved h.ok.saved o x ho] at e
  have k2 : Keeps (own p Fd) w (w.setCells p (4 + o) (x.map B8)) := k.mono (fun _ _ f => .inl f)
  refine ⟨⟨e, h.row.keep k2 (fun _ _ f => f), h.disk.keep k (fun b _ f e => h.np (e ▸ f)), fun b hb => Nat.lt_of_lt_of_le (h.lt b hb) k.size, h.np, ⟨h.ok.gen, h.ok.at_, h.ok.len, h.ok.room, ?_, h.ok.live, h.ok.secs⟩⟩, k2⟩
  have := h.ok.saved
  simp only [splice, List.length_append, List.length_take, List.length_drop]
  omega
theorem SnAt.putLive (h : SnAt w Fd t tail p dp S D) (o : Nat) (x : List UInt8) (ho : o + x.length ≤ 8192) : SnAt (w.setCells p (8196 + o) (x.map B8)) Fd t tail p dp { S with live := splice S.live o x } D ∧ Keeps (own p Fd) w (w.setCells p (8196 + o) (x.map B8)) := by
  have hl : (scells dp S tail).length = 4 + (8192 + (8192 + tail.length)) := by simp [scells, hcells, h.ok.saved, h.ok.live]; omega
  obtain ⟨e, k⟩ := setCells_blockV (w := w) (8196 + o) h.head (ys := x.map B8) (by rw [hl, List.length_map]; omega)
  rw [put_live h.ok.saved h.ok.live o x ho] at e
  have k2 : Keeps (own p Fd) w (w.setCells p (8196 + o) (x.map B8)) := k.mono (fun _ _ f => .inl f)
  refine ⟨⟨e, h.row.keep k2 (fun _ _ f => f), h.disk.keep k (fun b _ f e => h.np (e ▸ f)), fun b hb => Nat.lt_of_lt_of_le (h.lt b hb) k.size, h.np, ⟨h.ok.gen, h.ok.at_, h.ok.len, h.ok.room, h.ok.saved, ?_, h.ok.secs⟩⟩, k2⟩
  have := h.ok.live
  simp only [splice, List.length_append, List.length_take, List.length_drop]
  omega
/-! ### reads and writes of parts -/
theorem loadC {b o : Nat} {xs : List UInt8} (hl : xs.length = 64) (h : w.rangeAt b o (xs.map B8)) : (Instr.loadAt 78 (.pointer (some ⟨b, o, none⟩))).run Tryz.prog w = .ok (ag xs) w :=
  run_loadAt_mid w b o 78 (xs.map B8) _ h Tryz.underlying78 rfl (by rw [Tryz.sizeC, List.length_map, hl])
theorem storeC {b o : Nat} {xs : List UInt8} (hl : xs.length = 64) (h : w.there b o 64) : (Instr.storeAt 78 (.pointer (some ⟨b, o, none⟩)) (ag xs)).run Tryz.prog w = .ok () (w.setCells b o (xs.map B8)) := by
  have := run_storeAt_mid (P := Tryz.prog) w b o 78 (xs.map B8).toArray (by simpa [hl] using h) (by rw [Tryz.sizeC]; simp [hl]) (oneCell_b8 xs)
  simpa [ag] using this
theorem loadM {b o : Nat} {xs : List UInt8} (hl : xs.length = 8192) (h : w.rangeAt b o (xs.map B8)) : (Instr.loadAt 80 (.pointer (some ⟨b, o, none⟩))).run Tryz.prog w = .ok (ag xs) w :=
  run_loadAt_mid w b o 80 (xs.map B8) _ h Tryz.underlying80 rfl (by rw [Tryz.sizeMem, List.length_map, hl])
theorem storeM {b o : Nat} {xs : List UInt8} (hl : xs.length = 8192) (h : w.there b o 8192) : (Instr.storeAt 80 (.pointer (some ⟨b, o, none⟩)) (ag xs)).run Tryz.prog w = .ok () (w.setCells b o (xs.map B8)) := by
  have := run_storeAt_mid (P := Tryz.prog) w b o 80 (xs.map B8).toArray (by simpa [hl] using h) (by rw [Tryz.sizeMem]; simp [hl]) (oneCell_b8 xs)
  simpa [ag] using this
theorem SnAt.there (h : SnAt w Fd t tail p dp S D) (o n : Nat) (ho : o + n ≤ 16388) : w.there p o n := by
  have hl : (scells dp S tail).length = 4 + (8192 + (8192 + tail.length)) := by simp [scells, hcells, h.ok.saved, h.ok.live]; omega
  exact there_blockV h.head o n (by omega)
theorem SnAt.savedR (h : SnAt w Fd t tail p dp S D) (o n : Nat) (ho : o + n ≤ 8192) : w.rangeAt p (4 + o) (((S.saved.drop o).take n).map B8) := SnAt.range h.head _ _ (fun j v hv => saved_at h.ok.saved o n ho j v hv)
theorem SnAt.liveR (h : SnAt w Fd t tail p dp S D) (o n : Nat) (ho : o + n ≤ 8192) : w.rangeAt p (8196 + o) (((S.live.drop o).take n).map B8) := SnAt.range h.head _ _ (fun j v hv => live_at h.ok.saved h.ok.live o n ho j v hv)
theorem arrC (w : World) (A : Option Addr) (c : Nat) : (Instr.arrayAt 78 (.slice A 64 c)).run Tryz.prog w = .ok (.pointer A) w := run_arrayAt w 78 5 64 A 64 c Tryz.underlying78 (by omega)
theorem fieldK (a b c : Value) (w : World) : (Instr.field 176 (.agg #[a, b, c]) 0).run Tryz.prog w = .ok (.agg #[a, b]) w := by kernel_rfl
theorem fieldS (a : Value) (n : Int) (w : World) : (Instr.field 117 (.agg #[a, .int .i64 n]) 1).run Tryz.prog w = .ok (.int .i64 n) w := by kernel_rfl
def LoadedOut (w : World) (Fd : Nat → Prop) (t : TypeId) (tail : List Value) (p dp : Nat) (S : SSt) (D : DSt) (e : Ending) (w' : World) : Prop :=
  (∃ ps, walkT D D.n S.last.top = some ps ∧ e = .returned (.tuple #[]) ∧ Stepped w Fd t tail p dp { S with saved := memS D ps, live := memS D ps } D w') ∨ (walkT D D.n S.last.top = none ∧ e = thrownE 60 ∧ Keeps (fun _ => False) w w')
theorem ldOut_ret {D : DSt} {n : Nat} {top : Int} {w w' : World} {e : Ending} (h : LdOut w D n top e w') : ∃ u, e = .returned u ∧ LdOut w D n top (.returned u) w' := by
  obtain ⟨hb, ⟨ps, g, h1, rfl, h2⟩ | ⟨h1, rfl⟩⟩ := h
  · exact ⟨_, rfl, hb, .inl ⟨ps, g, h1, rfl, h2⟩⟩
  · exact ⟨_, rfl, hb, .inr ⟨h1, rfl⟩⟩
/-- The first k pages of M, the rest of B. -/
def mixK (M B : List UInt8) (k : Nat) : List UInt8 := M.take (k * 64) ++ B.drop (k * 64)
theorem mixK_step {M B : List UInt8} (hM : M.length = 8192) (hB : B.length = 8192) (k : Nat) (hk : k < 128) : splice (mixK M B k) (k * 64) ((M.drop (k * 64)).take 64) = mixK M B (k + 1) := by
  have h1 : (M.take (k * 64)).length = k * 64 := by rw [List.length_take, hM]; omega
  have h2 : ((M.drop (k * 64)).take 64).length = 64 := by rw [List.length_take, List.length_drop, hM]; omega
  have := splice_mid (M.take (k * 64)) (B.drop (k * 64)) [] ((M.drop (k * 64)).take 64) 0 (by rw [h2, List.length_drop, hB]; omega)
  rw [h1, List.append_nil, List.append_nil, Nat.add_zero] at this
  unfold mixK
  rw [this]
  unfold splice
  rw [h2, List.take_zero, List.nil_append, List.drop_drop, ← List.append_assoc, ← List.take_add, show (k + 1) * 64 = k * 64 + 64 from by omega, show k * 64 + (0 + 64) = k * 64 + 64 from by omega]
theorem mixK_all {M B : List UInt8} (hM : M.length = 8192) (hB : B.length = 8192) : mixK M B 128 = M := by
  unfold mixK
  rw [List.take_of_length_le (by omega), List.drop_of_length_le (by omega), List.append_nil]
theorem splice_whole {xs ys : List UInt8} (h : xs.length = ys.length) : splice xs 0 ys = ys := by unfold splice; simp [h]
set_option maxRecDepth 100000 in
set_option maxHeartbeats 1600000 in
theorem load_at (h : SnAt w Fd t tail p dp S D) (hd : D.down = false) (hl : S.l ≠ []) : Calls Tryz.prog 68 #[.pointer (some ⟨p, 0, none⟩)] w (LoadedOut w Fd t tail p dp S D) := by
  have hsec : 0 ≤ S.last.top ∧ S.last.top ≤ 65535 := by
    obtain ⟨hk, e⟩ := SSt.last_eq hl
    rw [e]
    exact (h.ok.secs _ (List.getElem_mem hk)).2.2
  have h0 := h.new (Keeps.drew (fun _ => False) w)
  have hpl := h.pl
  go_enter Tryz.func68, Tryz.ntmps68
  go_wp2_with fail
  refine wp_region_held (S := fun W => W.cell? ⟨p, 0, none⟩ = some (.pointer (some ⟨dp, 0, none⟩))) (by kernel_rfl) ?_
  change wpAnyH _ _ _ _ _ _ _ _ w.drew
  have K0 := Lib.hid (Keeps.drew (fun _ => False) w)
  have hpl1 : p < w.drew.heap.size := hpl
  generalize w.drew = w1 at *
  have hS : w1.cell? ⟨p, 0, none⟩ = some (.pointer (some ⟨dp, 0, none⟩)) := h0.c0
  have hla := last_at h0 hl
  have hfk := fieldK
  have hfs := fieldS
--@ld1
  refine wpAnyH_take (oi := ⟨_, _, _, _, _, _⟩) (i := 0) (v := .pointer (some ⟨p, 0, none⟩)) rfl (by kernel_rfl) (by kernel_rfl) (by kernel_rfl) (fun _ _ _ h => h) (Or.inl ⟨by rfl, fun _ _ => rfl⟩) hS ?_
  try simp only [Act.put, List.setIfInBounds_toArray, List.set_cons_zero, List.set_cons_succ]
  refine wpAnyH_take (oi := ⟨_, _, _, _, _, _⟩) (i := 1) (v := .pointer (some ⟨p, 0, none⟩)) rfl (by kernel_rfl) (by kernel_rfl) (by kernel_rfl) (fun _ _ _ h => h) (Or.inl ⟨by rfl, fun _ _ => by go_simp⟩) hS ?_
  try simp only [Act.put, List.setIfInBounds_toArray, List.set_cons_zero, List.set_cons_succ]
  refine wpAnyH_take (oi := ⟨_, _, _, _, _, _⟩) (i := 2) (v := .pointer (some ⟨p, 0, none⟩)) rfl (by kernel_rfl) (by kernel_rfl) (by kernel_rfl) (fun _ _ _ h => h) (Or.inl ⟨by rfl, fun _ _ => by go_simp⟩) hS ?_
  try simp only [Act.put, List.setIfInBounds_toArray, List.set_cons_zero, List.set_cons_succ]
  refine wpAnyH_take (oi := ⟨_, _, _, _, _, _⟩) (i := 3) (v := .pointer (some ⟨dp, 0, none⟩)) rfl (by kernel_rfl) (by kernel_rfl) (by kernel_rfl) (fun _ _ _ h => h) (yif_load rfl 29 (.tmp 8) rfl _ _ rfl fun w h => load_one aggDp h) hS ?_
  try simp only [Act.put, List.setIfInBounds_toArray, List.set_cons_zero, List.set_cons_succ]
  refine wpAnyH_take (oi := ⟨_, _, _, _, _, _⟩) (i := 4) (v := .pointer (some ⟨p, 0, none⟩)) rfl (by kernel_rfl) (by kernel_rfl) (by kernel_rfl) (fun _ _ _ h => h) (Or.inl ⟨by rfl, fun _ _ => rfl⟩) hS ?_
  try simp only [Act.put, List.setIfInBounds_toArray, List.set_cons_zero, List.set_cons_succ]
  refine wpAnyH_all (rs := [5]) (by kernel_rfl) (by simp) fun i hi => ?_
  obtain rfl : i = 5 := by simpa using hi
  refine op_call (om := ⟨_, _, _, _, _, _⟩) (fn := 128) (args := #[.pointer (some ⟨p, 0, none⟩)]) (R := fun u w' => u = .agg #[.int .u64 (S.last.gen : Int), .int .i64 S.last.top, .slice S.last.R S.last.secs.length S.last.cap] ∧ Keeps (fun _ => False) w1 w') rfl rfl (by go_simp)
    (hla.mono fun e w' h => ⟨_, h.1, rfl, h.2⟩) _ _ rfl rfl ?_
  rintro u w2 ⟨hu, k2⟩
  subst hu
  have hS : w2.cell? ⟨p, 0, none⟩ = some (.pointer (some ⟨dp, 0, none⟩)) := (k2.cell p 0 hpl1 (fun h => h)).trans hS
  clear hla
  refine ⟨hS, ?_⟩
  try simp only [Act.put, List.setIfInBounds_toArray, List.set_cons_zero, List.set_cons_succ]
--@@
  have h2 := h0.new k2
  obtain ⟨lb, mb, n, iv, hdk, _⟩ := h2.disk
  have hnn := hdk.ok.n_eq
  have hr := load_any hdk hd S.last.top (by omega) (by omega)
  rw [← hnn] at hr
  have KK := Lib.hid (K0.out.trans k2)
  have hpl2 := h2.pl
  clear hdk hnn h2 h0 k2 K0
--@ld2
  refine wpAnyH_take (oi := ⟨_, _, _, _, _, _⟩) (i := 6) (v := .agg #[.int .u64 (S.last.gen : Int), .int .i64 S.last.top]) rfl (by kernel_rfl) (by kernel_rfl) (by kernel_rfl) (fun _ _ _ h => h) (Or.inl ⟨by rfl, fun _ _ => by go_simp⟩) hS ?_
  try simp only [Act.put, List.setIfInBounds_toArray, List.set_cons_zero, List.set_cons_succ]
  refine wpAnyH_take (oi := ⟨_, _, _, _, _, _⟩) (i := 7) (v := .int .i64 S.last.top) rfl (by kernel_rfl) (by kernel_rfl) (by kernel_rfl) (fun _ _ _ h => h) (Or.inl ⟨by rfl, fun _ _ => by go_simp⟩) hS ?_
  try simp only [Act.put, List.setIfInBounds_toArray, List.set_cons_zero, List.set_cons_succ]
  refine wpAnyH_all (rs := [8]) (by kernel_rfl) (by simp) fun i hi => ?_
  obtain rfl : i = 8 := by simpa using hi
  refine op_call (om := ⟨_, _, _, _, _, _⟩) (fn := 127) (args := #[.pointer (some ⟨dp, 0, none⟩), .int .i64 S.last.top]) (R := fun u w' => LdOut w2 D D.n S.last.top (.returned u) w') rfl rfl (by go_simp)
    (hr.mono fun e w' h => ldOut_ret h) _ _ rfl rfl ?_
  rintro u w3 hu
  have hS : w3.cell? ⟨p, 0, none⟩ = some (.pointer (some ⟨dp, 0, none⟩)) := (hu.1.cell (p := ⟨p, 0, none⟩) hpl2).trans hS
  clear hr
  refine ⟨hS, ?_⟩
  try simp only [Act.put, List.setIfInBounds_toArray, List.set_cons_zero, List.set_cons_succ]
--@@
  have b3 := hu.1
  have K3 := Lib.hid (KK.out.trans (keeps_below b3))
  obtain ⟨_, ⟨ps, g, hw, hu, hg, hrow, hml⟩ | ⟨hw, hu⟩⟩ := hu
  · cases hu
    have HW := Lib.hid hw
    have HROW := Lib.hid hrow
    clear hw b3 hrow
--@ld3
    refine wpAnyH_take (oi := ⟨_, _, _, _, _, _⟩) (i := 9) (v := .tuple #[.slice (some ⟨g, 0, none⟩) 8192 8192, .int .i64 0]) rfl (by kernel_rfl) (by kernel_rfl) (by kernel_rfl) (fun _ _ _ h => h) (Or.inl ⟨by rfl, fun _ _ => rfl⟩) hS ?_
    try simp only [Act.put, List.setIfInBounds_toArray, List.set_cons_zero, List.set_cons_succ]
    refine wpAnyH_take (oi := ⟨_, _, _, _, _, _⟩) (i := 10) (v := .slice (some ⟨g, 0, none⟩) 8192 8192) rfl (by kernel_rfl) (by kernel_rfl) (by kernel_rfl) (fun _ _ _ h => h) (Or.inl ⟨by rfl, fun _ _ => by go_simp⟩) hS ?_
    try simp only [Act.put, List.setIfInBounds_toArray, List.set_cons_zero, List.set_cons_succ]
    refine wpAnyH_take (oi := ⟨_, _, _, _, _, _⟩) (i := 11) (v := .int .i64 0) rfl (by kernel_rfl) (by kernel_rfl) (by kernel_rfl) (fun _ _ _ h => h) (Or.inl ⟨by rfl, fun _ _ => by go_simp⟩) hS ?_
    try simp only [Act.put, List.setIfInBounds_toArray, List.set_cons_zero, List.set_cons_succ]
    refine wpAnyH_take (oi := ⟨_, _, _, _, _, _⟩) (i := 12) (v := .slice (some ⟨g, 0, none⟩) 8192 8192) rfl (by kernel_rfl) (by kernel_rfl) (by kernel_rfl) (fun _ _ _ h => h) (Or.inl ⟨by rfl, fun _ _ => rfl⟩) hS ?_
    try simp only [Act.put, List.setIfInBounds_toArray, List.set_cons_zero, List.set_cons_succ]
    refine wpAnyH_take (oi := ⟨_, _, _, _, _, _⟩) (i := 13) (v := .int .i64 0) rfl (by kernel_rfl) (by kernel_rfl) (by kernel_rfl) (fun _ _ _ h => h) (Or.inl ⟨by rfl, fun _ _ => rfl⟩) hS ?_
    try simp only [Act.put, List.setIfInBounds_toArray, List.set_cons_zero, List.set_cons_succ]
    refine wpAnyH_done (by kernel_rfl) ?_ _
    try simp only [Act.put, List.setIfInBounds_toArray, List.set_cons_zero, List.set_cons_succ]
--@@
    go_wp2_with fail
    refine (demand_ok w3).mono ?_
    rintro e w' ⟨rfl, rfl⟩
    go_wp2_with fail
    have h3 := h.new K3.out
    have hgp : g ≠ p := by have := K3.out.size; omega
    have hgf : ¬ Fd g := fun hf => by have := h.lt g hf; have := KK.out.size; omega
    have HST := Lib.hid (show ∀ (W : World) (S' : SSt), SnAt W Fd t tail p dp S' D → Keeps (own p Fd) w3 W → Stepped w Fd t tail p dp S' D W from fun _ _ hW kW => ⟨⟨Fd, hW, fun _ h => .inl h⟩, (K3.out.mono (fun _ _ h => h.elim)).trans kW⟩)
    have hsv := h.ok.saved
    have hlv := h.ok.live
    have hgl : g < w3.heap.size := (Array.getElem?_eq_some_iff.1 HROW.out).1
    clear h hS hpl hpl1 hpl2
    generalize hM : memS D ps = M at *
    have h3' : SnAt w3 Fd t tail p dp { S with saved := mixK M S.saved 0 } D := by
      have e : mixK M S.saved 0 = S.saved := by simp [mixK]
      rw [e]; exact h3
    go_loopw [19] (fun i wr => ∃ k : Nat, k ≤ 128 ∧ i = .int .i64 k ∧ SnAt wr Fd t tail p dp { S with saved := mixK M S.saved k } D ∧ Keeps (· = p) w3 wr) (fun i _ => 128 - (intOf i).toNat)
    case atStart => exact ⟨0, by omega, rfl, h3', Keeps.refl _ _⟩
    case round =>
      clear h3 h3'
      obtain ⟨k, hk, rfl, h3, k3⟩ := hrel
      by_cases hlt : k < 128
      · have hwa : IntKind.i64.wrap ((k : Int) * 64) = (k : Int) * 64 := by rw [IntKind.wrap_i64]; omega
        have hwb : IntKind.i64.wrap ((k : Int) + 1) = (k : Int) + 1 := by rw [IntKind.wrap_i64]; omega
        have hwc : IntKind.i64.wrap (((k : Int) + 1) * 64) = ((k : Int) + 1) * 64 := by rw [IntKind.wrap_i64]; omega
        have hn1 : ((k : Int) * 64).toNat = k * 64 := by omega
        have hn2 : (((k : Int) + 1) * 64).toNat = k * 64 + 64 := by omega
        have hq1 : 0 ≤ ((k : Int) + 1) * 64 ∧ ((k : Int) + 1) * 64 ≤ 8192 := by omega
        have hq2 : 0 ≤ (k : Int) * 64 ∧ (k : Int) * 64 ≤ (k : Int) * 64 + 64 := by omega
        have hq3 : ¬ 8192 = k * 64 := by omega
        have har := arrC
        have hrw : wr.heap[g]? = some (.cells (M.map B8).toArray 5 (0, 0)) := (k3.block g hgl hgp).trans HROW.out
        have hx : ((M.drop (k * 64)).take 64).length = 64 := by rw [List.length_take, List.length_drop, hml]; omega
        have hst := mixK_step hml hsv k hlt
        have hd := h3.new (Keeps.drew (fun _ => False) wr)
        have hld := loadC (w := wr.drew) (b := g) (o := k * 64) hx (range_block (w := wr.drew) hrw (k * 64) 64)
        have hsto := storeC (w := wr.drew) (b := p) (o := 4 + k * 64) hx (hd.there (4 + k * 64) 64 (by omega))
        obtain ⟨q, kq⟩ := hd.putSaved (k * 64) ((M.drop (k * 64)).take 64) (by rw [hx]; omega)
        have kq' : Keeps (· = p) wr.drew (wr.drew.setCells p (4 + k * 64) (((M.drop (k * 64)).take 64).map B8)) := (setCells_blockV (4 + k * 64) hd.head (by simp [scells, hcells, hd.ok.saved, hd.ok.live, hx]; omega)).2
        have LD := Lib.hid hld
        have ST := Lib.hid hsto
        have Q := Lib.hid q
        have KQ := Lib.hid ((k3.trans (Keeps.drew _ wr)).trans kq')
        clear h3 k3 hd hld hsto q kq kq' hrw
        go_wp2_with fail
        refine wp_region_still_tail 14 (by kernel_rfl) (by kernel_rfl) ?_
        simp only [List.take_succ_cons, List.take_zero, List.drop_succ_cons, List.drop_zero]
        change wpStill _ _ wr.drew (fun a' => wpList _ _ _ _ a' wr.drew) _ _
        generalize wr.drew = w5 at *
        still_step
        still_step
        still_step
        still_step
        still_step
        still_step
        still_step
        still_step
        still_step
        still_step
        refine wpStill_load rfl 78 (.tmp 31) rfl _ _ rfl LD.out ?_
        still_step
        still_step
        still_step
        refine wpStill_nil ?_
        clear hwa hwb hwc hn1 hn2 hq1 hq2 hq3 har
        try simp only [Act.put, List.setIfInBounds_toArray, List.set_cons_zero, List.set_cons_succ]
        refine wpList_store_run rfl 78 _ _ rfl _ _ rfl rfl ST.out ?_
        generalize w5.setCells p (4 + k * 64) (((M.drop (k * 64)).take 64).map B8) = w6 at *
        go_wp2_with fail
        go_roundw
        case rel => exact ⟨k + 1, by omega, by go_num, by rw [← hst]; exact Q.out, KQ.out⟩
        case measure => simp [intOf]; omega
      · obtain rfl : k = 128 := by omega
        rw [mixK_all hml hsv] at h3
        have hrs : wr.rangeAt p 4 (M.map B8) := by
          have := h3.savedR 0 8192 (by omega)
          rwa [List.drop_zero, List.take_of_length_le (by show M.length ≤ 8192; omega)] at this
        have LM := Lib.hid (loadM (w := wr) hml hrs)
        have SM := Lib.hid (storeM (w := wr) (b := p) (o := 8196) hml (h3.there 8196 8192 (by omega)))
        obtain ⟨q, kq⟩ := h3.putLive 0 M (by omega)
        rw [Nat.add_zero, splice_whole (show S.live.length = M.length by rw [hml]; exact hlv)] at q
        have HF := Lib.hid (HST.out _ _ q ((k3.mono (fun _ _ e => .inl e)).trans kq))
        clear h3 k3 hrs q kq HST
        go_wp2_with (first
          | ((with_reducible refine here (op := .load 80 (.tmp 40)) ?_); refine wpList_load_run rfl 80 _ rfl _ _ rfl LM.out ?_)
          | ((with_reducible refine here (op := .store 80 (.tmp 43) (.tmp 41)) ?_); refine wpList_store_run rfl 80 _ _ rfl _ _ rfl rfl SM.out ?_))
        go_end0
        exact .inl ⟨ps, HW.out, rfl, by rw [hM]; exact HF.out⟩
  · cases hu
    have HW := Lib.hid hw
    clear hw b3
--@ld4
    refine wpAnyH_take (oi := ⟨_, _, _, _, _, _⟩) (i := 9) (v := .tuple #[.slice none 0 0, .int .i64 60]) rfl (by kernel_rfl) (by kernel_rfl) (by kernel_rfl) (fun _ _ _ h => h) (Or.inl ⟨by rfl, fun _ _ => rfl⟩) hS ?_
    try simp only [Act.put, List.setIfInBounds_toArray, List.set_cons_zero, List.set_cons_succ]
    refine wpAnyH_take (oi := ⟨_, _, _, _, _, _⟩) (i := 10) (v := .slice none 0 0) rfl (by kernel_rfl) (by kernel_rfl) (by kernel_rfl) (fun _ _ _ h => h) (Or.inl ⟨by rfl, fun _ _ => by go_simp⟩) hS ?_
    try simp only [Act.put, List.setIfInBounds_toArray, List.set_cons_zero, List.set_cons_succ]
    refine wpAnyH_take (oi := ⟨_, _, _, _, _, _⟩) (i := 11) (v := .int .i64 60) rfl (by kernel_rfl) (by kernel_rfl) (by kernel_rfl) (fun _ _ _ h => h) (Or.inl ⟨by rfl, fun _ _ => by go_simp⟩) hS ?_
    try simp only [Act.put, List.setIfInBounds_toArray, List.set_cons_zero, List.set_cons_succ]
    refine wpAnyH_take (oi := ⟨_, _, _, _, _, _⟩) (i := 12) (v := .slice none 0 0) rfl (by kernel_rfl) (by kernel_rfl) (by kernel_rfl) (fun _ _ _ h => h) (Or.inl ⟨by rfl, fun _ _ => rfl⟩) hS ?_
    try simp only [Act.put, List.setIfInBounds_toArray, List.set_cons_zero, List.set_cons_succ]
    refine wpAnyH_take (oi := ⟨_, _, _, _, _, _⟩) (i := 13) (v := .int .i64 60) rfl (by kernel_rfl) (by kernel_rfl) (by kernel_rfl) (fun _ _ _ h => h) (Or.inl ⟨by rfl, fun _ _ => rfl⟩) hS ?_
    try simp only [Act.put, List.setIfInBounds_toArray, List.set_cons_zero, List.set_cons_succ]
    refine wpAnyH_done (by kernel_rfl) ?_ _
    try simp only [Act.put, List.setIfInBounds_toArray, List.set_cons_zero, List.set_cons_succ]
--@@
    go_wp2_with fail
    refine (demand_bad 60 (by decide) w3).mono ?_
    rintro e w' ⟨rfl, rfl⟩
    exact ⟨rfl, .inr ⟨HW.out, rfl, K3.out⟩⟩
end
end Go.Proofs.YtebecpjecchfoaaGreatDoor.St
