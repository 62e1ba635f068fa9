/-
  The contract of the document's Restart.
-/
import Derived.Test.YthbdhmjmboliiaaRDFlush
import Derived.Test.YthbdhmjmboliiaaMixN
import Derived.OrdersHeld
namespace Go.Proofs.Ythbdhmjmboliiaa
open Go.RowKit

def RRst (w : World) (F : Nat → Prop) (p : Nat) (D : DSt) (e : Ending) (w' : World) : Prop := e = .returned (.tuple #[]) ∧ RD w' (Gr F w) p D ∧ Keeps F w w'
/-- What the loop keeps. -/
structure RstInv (w wr : World) (F : Nat → Prop) (p n : Nat) (sv wv : Value) (svs : List Value) (ws : List (Nat × Value)) (D : DSt) (f : Fate) : Prop where
  at_ : RDat wr (Gr F w) p n sv wv svs ws D
  kw : Keeps F w wr
  fate : wr.heap[w.heap.size]? = some (.cells (fcells f) 33 (0, 0))
theorem RstInv.flt {w wr : World} {F : Nat → Prop} {p n : Nat} {sv wv : Value} {svs : List Value} {ws : List (Nat × Value)} {D : DSt} {f : Fate} (h : RstInv w wr F p n sv wv svs ws D f) : w.heap.size < wr.heap.size := (Array.getElem?_eq_some_iff.1 h.fate).1
theorem RstInv.same {w wr w' : World} {F : Nat → Prop} {p n : Nat} {sv wv : Value} {svs : List Value} {ws : List (Nat × Value)} {D : DSt} {f : Fate} (h : RstInv w wr F p n sv wv svs ws D f) (k : Keeps (fun _ => False) wr w') : RstInv w w' F p n sv wv svs ws D f :=
  ⟨h.at_.same k, h.kw.trans (k.mono fun _ _ h => h.elim), (k.block _ h.flt fun h => h).trans h.fate⟩
theorem RstInv.store {w wr : World} {F : Nat → Prop} {p n : Nat} {sv wv : Value} {svs : List Value} {ws : List (Nat × Value)} {D : DSt} {f : Fate} (h : RstInv w wr F p n sv wv svs ws D f) (hsl : ∀ b, sv.ownBlock = some b → F b ∧ b < w.heap.size) (i : Nat) (hi : i < n) (g : Nat) (hg : sv.ownBlock = some g) (v : Value) (b : List UInt8) (hs : SL wr (PF (Gr F w) p sv wv) v b) :
    RstInv w (wr.setCell ⟨g, i, none⟩ v) F p n sv wv (svs.set i v) ws { D with L := splice D.L (i * 64) b } f := by
  obtain ⟨h1, k1⟩ := h.at_.store i hi g hg v b hs
  exact ⟨h1, h.kw.trans (k1.mono fun b _ e => (hsl b e).1), (k1.block _ h.flt fun e => by have := (hsl _ e).2; omega).trans h.fate⟩
theorem layOne_torn {f : Fate} {k : Nat} (q : Nat × List UInt8) (L : List UInt8) (h : ((k : Int) == f.torn) = true) : layOne f k q L = splice L (q.1 * 64) (mixL q.2 (sec L q.1) (clamp f.cut 64) f.head) := by
  unfold layOne; rw [if_pos h]
theorem layOne_stay {f : Fate} {k : Nat} (q : Nat × List UInt8) (L : List UInt8) (h : ((k : Int) == f.torn) = false) (hs : stayB f.stay k = true) : layOne f k q L = splice L (q.1 * 64) q.2 := by
  unfold layOne; rw [h, if_neg (by simp), if_pos hs]
theorem layOne_gone {f : Fate} {k : Nat} (q : Nat × List UInt8) (L : List UInt8) (h : ((k : Int) == f.torn) = false) (hs : stayB f.stay k = false) : layOne f k q L = L := by
  unfold layOne; rw [h, if_neg (by simp), if_neg (by rw [hs]; simp)]
/-- The bit, as the walk meets it. -/
theorem stay_hi {s : Int} {k : Nat} (h0 : 0 ≤ s) (h1 : s ≤ 18446744073709551615) (h : 63 < k) : (bits .and .u64 (s / 9223372036854775808) 1 == 1) = stayB s k := by
  have hd := div_range s 63 h0 h1
  have e2 : (2 : Int) ^ 63 = 9223372036854775808 := by decide
  rw [e2] at hd
  unfold stayB
  rw [show min k 63 = 63 from by omega, e2, and_one64 _ hd.1 hd.2]
theorem stay_lo {s : Int} {k : Nat} (h0 : 0 ≤ s) (h1 : s ≤ 18446744073709551615) (h : k ≤ 63) : (bits .and .u64 (s / 2 ^ k) 1 == 1) = stayB s k := by
  have hd := div_range s k h0 h1
  unfold stayB
  rw [show min k 63 = k from by omega, and_one64 _ hd.1 hd.2]

/-! ### the torn write's region: reads that a call does not wait for -/
theorem load_one {P : Program} {t : TypeId} (hagg : ∀ w, (isAgg t).run P w = .ok false w) {w : World} {b o : Nat} {v : Value} (h : w.cell? ⟨b, o, none⟩ = some v) : (Instr.loadAt t (.pointer (some ⟨b, o, none⟩))).run P w = .ok v w := by
  simp [Instr.loadAt, Instr.sureAddr, loadVar, hagg, h]
theorem agg44 (w : World) : (isAgg 44).run Try.prog w = .ok false w := by unfold isAgg; rw [Sem.run_bind, run_underlying Try.underlying44 w]; rfl
theorem agg30 (w : World) : (isAgg 30).run Try.prog w = .ok false w := by unfold isAgg; rw [Sem.run_bind, run_underlying Try.underlying30 w]; rfl
theorem agg3 (w : World) : (isAgg 3).run Try.prog w = .ok false w := by unfold isAgg; rw [Sem.run_bind, run_underlying Try.underlying3 w]; rfl
theorem agg4 (w : World) : (isAgg 4).run Try.prog w = .ok false w := by unfold isAgg; rw [Sem.run_bind, run_underlying Try.underlying4 w]; rfl
theorem yif_load {P : Program} {ops : Array Oper} {S : World → Prop} {o : Oper} {a : Act} (hw : Region.wanted o (yielded ops a.tmps) = true) (t : TypeId) (x : Operand) (ho : o.op = .load t x) (p v : Value) (hp : a.eval x = p) (hrun : ∀ w, S w → (Instr.loadAt t p).run P w = .ok v w) : YieldsIf P ops S o v a :=
  Or.inl ⟨hw, fun w hS => ex_load t x ho p v hp (hrun w hS)⟩
theorem wpOp_unit {P : Program} {ops : Array Oper} {Q' : Exit → Act → World → Prop} {K : Act → World → Prop} {m : Nat} {om : Oper} {a : Act} {w w' : World} (hm : ops[m]? = some om) (hw : Region.wanted om (yielded ops a.tmps) = true) (hrun : (execOp a.eval om).run P w = .ok .skip w') (h : K (a.put om.dst undef) w') :
    wpOp P ops Q' m K a w := by
  unfold wpOp
  simp only [hm, hw, if_true]
  left
  unfold Oper.wp
  rw [hrun]
  exact h
/-- What the region's reads find. -/
structure TornS (p b c : Nat) (sv v1 : Value) (x : Nat) (f : Fate) (W : World) : Prop where
  s0 : W.cell? ⟨p, 0, none⟩ = some sv
  b0 : W.cell? ⟨b, 0, none⟩ = some (.int .i64 (x : Int))
  b1 : W.cell? ⟨b, 1, none⟩ = some v1
  c2 : W.cell? ⟨c, 2, none⟩ = some (.int .i64 f.cut)
  c3 : W.cell? ⟨c, 3, none⟩ = some (.bool f.head)
theorem TornS.keep {p b c : Nat} {sv v1 : Value} {x : Nat} {f : Fate} {W W' : World} (h : TornS p b c sv v1 x f W) (hp : W'.heap[p]? = W.heap[p]?) (hb : W'.heap[b]? = W.heap[b]?) (hc : W'.heap[c]? = W.heap[c]?) : TornS p b c sv v1 x f W' :=
  ⟨(World.cell?_of_block (a := ⟨p, 0, none⟩) hp).trans h.s0, (World.cell?_of_block (a := ⟨b, 0, none⟩) hb).trans h.b0, (World.cell?_of_block (a := ⟨b, 1, none⟩) hb).trans h.b1, (World.cell?_of_block (a := ⟨c, 2, none⟩) hc).trans h.c2, (World.cell?_of_block (a := ⟨c, 3, none⟩) hc).trans h.c3⟩

set_option maxRecDepth 100000 in
set_option maxHeartbeats 4000000 in
theorem rrestart_at {w : World} {F : Nat → Prop} {p n : Nat} {sv wv : Value} {svs : List Value} {ws : List (Nat × Value)} {D : DSt} (h : RDat w F p n sv wv svs ws D) (f : Fate) (hf : f.Ok) (hQ : D.Q.length ≤ 1954687338212) :
    Calls Try.prog 30 #[.pointer (some ⟨p, 0, none⟩), agf f] w (RRst w F p (D.restart f)) := by
  obtain ⟨A', cap', hv⟩ := h.wvf
  subst hv
  have hsl : ∀ b, sv.ownBlock = some b → F b ∧ b < w.heap.size := fun b e => ⟨h.fs b e, h.slt e⟩
  have HSL := Lib.hid hsl
  have HFP := Lib.hid h.fp
  have hpl := h.plt
  have ka : Keeps (fun _ => False) w (w.alloc (.cells (fcells f) 33)) := Keeps.alloc _ _ _
  have i0 : RstInv w (w.alloc (.cells (fcells f) 33)) F p n sv (.slice A' D.Q.length cap') svs ws (layD D f 0) f := ⟨(h.mono fun _ _ h => Or.inl h).same ka, ka.mono fun _ _ h => h.elim, heap_alloc_new _ _⟩
  obtain ⟨_, d1, _⟩ := i0.at_.c
  change _ = some (Value.slice A' D.Q.length cap') at d1
  have HI := Lib.hid i0
  have B1 := Lib.hid (box33 w f)
  clear hsl ka i0 h
  go_enter Try.func30, Try.ntmps30
  go_wp2_with ((with_reducible refine at_ (op := .box 33 (.tmp 1)) ?_); refine wpList_val rfl _ (ex_box 33 (.tmp 1) rfl _ _ rfl B1.out) ?_)
  clear d1 B1
  go_loopw [11, 4, 5] (fun t _ _ wr => ∃ (k : Nat) (svs' : List Value), k ≤ D.Q.length ∧ t = .int .i64 (k : Int) ∧ RstInv w wr F p n sv (.slice A' D.Q.length cap') svs' ws (layD D f k) f) (fun t _ _ _ => D.Q.length - (intOf t).toNat)
  case atStart => exact ⟨0, svs, by omega, rfl, HI.out⟩
  case round =>
    clear HI
    obtain ⟨k, svs', hk, rfl, inv⟩ := hrel
    by_cases hlt : k < D.Q.length
    · obtain ⟨g, cap2, v, hv, e0, e1, sw⟩ := inv.at_.wat k hlt
      cases hv
      change wr.cell? _ = some (.int .i64 (D.Q[k].1 : Int)) at e0
      change SL wr _ v D.Q[k].2 at sw
      obtain ⟨R1, c1, rfl, _, hl1⟩ := sw.br
      have hq : D.Q[k].1 < n ∧ D.Q[k].2.length = 64 := inv.at_.ok.q _ (List.getElem_mem hlt)
      have kA : Keeps (fun _ => False) wr (wr.alloc (.cells #[.int .i64 (D.Q[k].1 : Int), .slice R1 64 c1] 79)) := Keeps.alloc _ _ _
      have invA := inv.same kA
      have swA := sw.keep kA fun _ _ _ h => h
      have eA := heap_alloc_new wr (.cells #[.int .i64 (D.Q[k].1 : Int), .slice R1 64 c1] 79)
      have LS := Lib.hid (layD_succ D f k hlt)
      have hfA := invA.fate
      have t0 : (wr.alloc (.cells #[.int .i64 (D.Q[k].1 : Int), .slice R1 64 c1] 79)).cell? ⟨w.heap.size, 0, none⟩ = some (.int .u64 f.stay) := by rw [cell_of_row _ _ _ _ _ _ hfA]; rfl
      have t1 : (wr.alloc (.cells #[.int .i64 (D.Q[k].1 : Int), .slice R1 64 c1] 79)).cell? ⟨w.heap.size, 1, none⟩ = some (.int .i64 f.torn) := by rw [cell_of_row _ _ _ _ _ _ hfA]; rfl
      have hwr := inv.kw.size
      clear kA hfA sw inv
      cases ht : ((k : Int) == f.torn) with
      | true =>
        have LO := Lib.hid (layOne_torn D.Q[k] (layD D f k).L ht)
        have kD : Keeps (fun _ => False) (wr.alloc (.cells #[.int .i64 (D.Q[k].1 : Int), .slice R1 64 c1] 79)) (wr.alloc (.cells #[.int .i64 (D.Q[k].1 : Int), .slice R1 64 c1] 79)).drew := Keeps.drew _ _
        have invD := invA.same kD
        have swD := swA.keep kD fun _ _ _ h => h
        have a0 : (wr.alloc (.cells #[.int .i64 (D.Q[k].1 : Int), .slice R1 64 c1] 79)).drew.cell? ⟨wr.heap.size, 0, none⟩ = some (.int .i64 (D.Q[k].1 : Int)) := by
          show (wr.alloc _).cell? _ = _
          rw [cell_of_row _ _ _ _ _ _ eA]; rfl
        have a1 : (wr.alloc (.cells #[.int .i64 (D.Q[k].1 : Int), .slice R1 64 c1] 79)).drew.cell? ⟨wr.heap.size, 1, none⟩ = some (.slice R1 64 c1) := by
          show (wr.alloc _).cell? _ = _
          rw [cell_of_row _ _ _ _ _ _ eA]; rfl
        obtain ⟨gs, cap3, R2, c2, hsv, s1, s2, br2, l2⟩ := invD.at_.at_ D.Q[k].1 hq.1
        have hgs : sv.ownBlock = some gs := by rw [hsv]; rfl
        obtain ⟨dd0, _⟩ := invD.at_.c
        have hfD := invD.fate
        have u2 : (wr.alloc (.cells #[.int .i64 (D.Q[k].1 : Int), .slice R1 64 c1] 79)).drew.cell? ⟨w.heap.size, 2, none⟩ = some (.int .i64 f.cut) := by rw [cell_of_row _ _ _ _ _ _ hfD]; rfl
        have u3 : (wr.alloc (.cells #[.int .i64 (D.Q[k].1 : Int), .slice R1 64 c1] 79)).drew.cell? ⟨w.heap.size, 3, none⟩ = some (.bool f.head) := by rw [cell_of_row _ _ _ _ _ _ hfD]; rfl
        obtain ⟨R1', c1', hv1, br1, l1⟩ := swD.br
        cases hv1
        have hq1 := hq.1
        have HX := Lib.hid (show ∀ b, XR p sv (.slice (some ⟨g, 0, none⟩) D.Q.length cap') b → b < (wr.alloc (.cells #[.int .i64 (D.Q[k].1 : Int), .slice R1 64 c1] 79)).drew.heap.size from fun b e => invD.at_.xlt e)
        have hwD : w.heap.size ≤ (wr.alloc (.cells #[.int .i64 (D.Q[k].1 : Int), .slice R1 64 c1] 79)).drew.heap.size := invD.kw.size
        have LL := Lib.hid (show layD D f (k + 1) = { layD D f k with L := splice (layD D f k).L (D.Q[k].1 * 64) (mixL D.Q[k].2 (sec (layD D f k).L D.Q[k].1) (clamp f.cut 64) f.head) } by rw [LS.out, LO.out])
        have hml : (mixL D.Q[k].2 (sec (layD D f k).L D.Q[k].1) (clamp f.cut 64) f.head).length = 64 := by rw [mixL_len]; exact l1
        have HML := Lib.hid hml
        clear invA swA swD eA LS LO kD hq hfD hml hl1
        generalize D.Q[k].1 = x at *
        generalize D.Q[k].2 = bw at *
        go_wp2_with fail
        refine wp_region_held (S := TornS p wr.heap.size w.heap.size sv (.slice R1 64 c1) x f) (by kernel_rfl) ?_
        change wpAnyH _ _ _ _ _ _ _ _ (wr.alloc (.cells #[.int .i64 (x : Int), .slice R1 64 c1] 79)).drew
        have hTS : TornS p wr.heap.size w.heap.size sv (.slice R1 64 c1) x f (wr.alloc (.cells #[.int .i64 (x : Int), .slice R1 64 c1] 79)).drew := ⟨dd0, a0, a1, u2, u3⟩
        have hbb : wr.heap.size < (wr.alloc (.cells #[.int .i64 (x : Int), .slice R1 64 c1] 79)).drew.heap.size := by show wr.heap.size < (wr.alloc _).heap.size; simp
        generalize (wr.alloc (.cells #[.int .i64 (x : Int), .slice R1 64 c1] 79)).drew = w6 at *
        subst hsv
        refine wpAnyH_take (oi := ⟨_, _, _, _, _, _⟩) (i := 0) (v := .pointer (some ⟨p, 0, none⟩)) rfl (by kernel_rfl) (by kernel_rfl) (by kernel_rfl) (fun _ _ _ h => h) (Or.inl ⟨by rfl, fun _ _ => rfl⟩) hTS ?_
        refine wpAnyH_take (oi := ⟨_, _, _, _, _, _⟩) (i := 1) (v := .pointer (some ⟨p, 0, none⟩)) rfl (by kernel_rfl) (by kernel_rfl) (by kernel_rfl) (fun _ _ _ h => h) (Or.inl ⟨by rfl, fun _ _ => rfl⟩) hTS ?_
        refine wpAnyH_take (oi := ⟨_, _, _, _, _, _⟩) (i := 2) (v := .pointer (some ⟨p, 0, none⟩)) rfl (by kernel_rfl) (by kernel_rfl) (by kernel_rfl) (fun _ _ _ h => h) (Or.inl ⟨by rfl, fun _ _ => rfl⟩) hTS ?_
        refine wpAnyH_take (oi := ⟨_, _, _, _, _, _⟩) (i := 3) (v := .slice (some ⟨gs, 0, none⟩) n cap3) rfl (by kernel_rfl) (by kernel_rfl) (by kernel_rfl) (fun _ _ _ h => h) (yif_load rfl 44 (.tmp 22) rfl _ _ rfl fun w h => load_one agg44 h.s0) hTS ?_
        refine wpAnyH_take (oi := ⟨_, _, _, _, _, _⟩) (i := 4) (v := .pointer (some ⟨wr.heap.size, 0, none⟩)) rfl (by kernel_rfl) (by kernel_rfl) (by kernel_rfl) (fun _ _ _ h => h) (Or.inl ⟨by rfl, fun _ _ => by go_simp⟩) hTS ?_
        refine wpAnyH_take (oi := ⟨_, _, _, _, _, _⟩) (i := 5) (v := .int .i64 (x : Int)) rfl (by kernel_rfl) (by kernel_rfl) (by kernel_rfl) (fun _ _ _ h => h) (yif_load rfl 3 (.tmp 24) rfl _ _ rfl fun w h => load_one agg3 h.b0) hTS ?_
        simp only [Act.put, List.setIfInBounds_toArray, List.set_cons_zero, List.set_cons_succ]
        refine wpAnyH_take (oi := ⟨_, _, _, _, _, _⟩) (i := 6) (v := .pointer (some ⟨wr.heap.size, 1, none⟩)) rfl (by kernel_rfl) (by kernel_rfl) (by kernel_rfl) (fun _ _ _ h => h) (Or.inl ⟨by rfl, fun _ _ => by go_simp⟩) hTS ?_
        refine wpAnyH_take (oi := ⟨_, _, _, _, _, _⟩) (i := 7) (v := .slice R1 64 c1) rfl (by kernel_rfl) (by kernel_rfl) (by kernel_rfl) (fun _ _ _ h => h) (yif_load rfl 30 (.tmp 26) rfl _ _ rfl fun w h => load_one agg30 h.b1) hTS ?_
        refine wpAnyH_take (oi := ⟨_, _, _, _, _, _⟩) (i := 8) (v := .pointer (some ⟨p, 0, none⟩)) rfl (by kernel_rfl) (by kernel_rfl) (by kernel_rfl) (fun _ _ _ h => h) (Or.inl ⟨by rfl, fun _ _ => rfl⟩) hTS ?_
        refine wpAnyH_take (oi := ⟨_, _, _, _, _, _⟩) (i := 9) (v := .pointer (some ⟨p, 0, none⟩)) rfl (by kernel_rfl) (by kernel_rfl) (by kernel_rfl) (fun _ _ _ h => h) (Or.inl ⟨by rfl, fun _ _ => rfl⟩) hTS ?_
        refine wpAnyH_take (oi := ⟨_, _, _, _, _, _⟩) (i := 10) (v := .pointer (some ⟨p, 0, none⟩)) rfl (by kernel_rfl) (by kernel_rfl) (by kernel_rfl) (fun _ _ _ h => h) (Or.inl ⟨by rfl, fun _ _ => rfl⟩) hTS ?_
        refine wpAnyH_take (oi := ⟨_, _, _, _, _, _⟩) (i := 11) (v := .slice (some ⟨gs, 0, none⟩) n cap3) rfl (by kernel_rfl) (by kernel_rfl) (by kernel_rfl) (fun _ _ _ h => h) (yif_load rfl 44 (.tmp 30) rfl _ _ rfl fun w h => load_one agg44 h.s0) hTS ?_
        simp only [Act.put, List.setIfInBounds_toArray, List.set_cons_zero, List.set_cons_succ]
        refine wpAnyH_take (oi := ⟨_, _, _, _, _, _⟩) (i := 12) (v := .pointer (some ⟨wr.heap.size, 0, none⟩)) rfl (by kernel_rfl) (by kernel_rfl) (by kernel_rfl) (fun _ _ _ h => h) (Or.inl ⟨by rfl, fun _ _ => by go_simp⟩) hTS ?_
        refine wpAnyH_take (oi := ⟨_, _, _, _, _, _⟩) (i := 13) (v := .int .i64 (x : Int)) rfl (by kernel_rfl) (by kernel_rfl) (by kernel_rfl) (fun _ _ _ h => h) (yif_load rfl 3 (.tmp 32) rfl _ _ rfl fun w h => load_one agg3 h.b0) hTS ?_
        simp only [Act.put, List.setIfInBounds_toArray, List.set_cons_zero, List.set_cons_succ]
        refine wpAnyH_take (oi := ⟨_, _, _, _, _, _⟩) (i := 14) (v := .pointer (some ⟨gs, x, none⟩)) rfl (by kernel_rfl) (by kernel_rfl) (by kernel_rfl) (fun _ _ _ h => h) (Or.inl ⟨by rfl, fun _ _ => by go_simp⟩) hTS ?_
        refine wpAnyH_take (oi := ⟨_, _, _, _, _, _⟩) (i := 16) (v := .pointer (some ⟨w.heap.size, 2, none⟩)) rfl (by kernel_rfl) (by kernel_rfl) (by kernel_rfl) (fun _ _ _ h => h) (Or.inl ⟨by rfl, fun _ _ => by go_simp⟩) hTS ?_
        refine wpAnyH_take (oi := ⟨_, _, _, _, _, _⟩) (i := 17) (v := .int .i64 f.cut) rfl (by kernel_rfl) (by kernel_rfl) (by kernel_rfl) (fun _ _ _ h => h) (yif_load rfl 3 (.tmp 36) rfl _ _ rfl fun w h => load_one agg3 h.c2) hTS ?_
        refine wpAnyH_take (oi := ⟨_, _, _, _, _, _⟩) (i := 18) (v := .pointer (some ⟨w.heap.size, 3, none⟩)) rfl (by kernel_rfl) (by kernel_rfl) (by kernel_rfl) (fun _ _ _ h => h) (Or.inl ⟨by rfl, fun _ _ => by go_simp⟩) hTS ?_
        refine wpAnyH_take (oi := ⟨_, _, _, _, _, _⟩) (i := 19) (v := .bool f.head) rfl (by kernel_rfl) (by kernel_rfl) (by kernel_rfl) (fun _ _ _ h => h) (yif_load rfl 4 (.tmp 38) rfl _ _ rfl fun w h => load_one agg4 h.c3) hTS ?_
        simp only [Act.put, List.setIfInBounds_toArray, List.set_cons_zero, List.set_cons_succ]
        refine wpAnyH_all (rs := [15]) (by kernel_rfl) (by simp) fun i hi => ?_
        obtain rfl : i = 15 := by simpa using hi
        refine wpOp_run rfl rfl (ex_load 30 (.tmp 34) rfl _ _ rfl (load_one agg30 s1)) ⟨hTS, ?_⟩
        simp only [Act.put]
        refine wpAnyH_all (rs := [20]) (by kernel_rfl) (by simp) fun i hi => ?_
        obtain rfl : i = 20 := by simpa using hi
        refine op_call (fn := 43) (args := #[.slice R1 64 c1, .slice R2 64 c2, .int .i64 f.cut, .bool f.head]) (R := fun u w7 => ∃ g7 c7, u = .slice (some ⟨g7, 0, none⟩) 64 c7 ∧ w6.heap.size ≤ g7 ∧ BR w7 w7.heap.size (some ⟨g7, 0, none⟩) (mixL bw (sec (layD D f k).L x) (clamp f.cut 64) f.head) ∧ Below w6.heap.size w6 w7) rfl rfl (by go_simp)
          ((refMix64 R1 bw c1 R2 (sec (layD D f k).L x) c2 f.cut f.head w6 br1 br2 l1 l2).mono fun e w' ⟨g, c, he, h1, h2, h3⟩ => ⟨_, he, g, c, rfl, h1, h2, h3⟩) _ _ rfl rfl ?_
        rintro u w7 ⟨g7, c7, rfl, hg7, br7, b7⟩
        have k7 := keeps_below b7
        have inv7 := invD.same k7
        have hTS7 : TornS p wr.heap.size w.heap.size (.slice (some ⟨gs, 0, none⟩) n cap3) (.slice R1 64 c1) x f w7 := hTS.keep (k7.block _ invD.at_.plt fun h => h) (k7.block _ hbb fun h => h) (k7.block _ invD.flt fun h => h)
        refine ⟨hTS7, ?_⟩
        have sl7 : SL w7 (PF (Gr F w) p (.slice (some ⟨gs, 0, none⟩) n cap3) (.slice (some ⟨g, 0, none⟩) D.Q.length cap')) (.slice (some ⟨g7, 0, none⟩) 64 c7) (mixL bw (sec (layD D f k).L x) (clamp f.cut 64) f.head) :=
          SL.of HML.out br7 fun ad e => by
            cases e
            refine ⟨Or.inr (by show w.heap.size ≤ g7; omega), fun hx => ?_⟩
            have hlt7 : g7 < w6.heap.size := HX.out _ hx
            omega
        obtain ⟨gs', cap4, R3, c3, hsv', s1', s2', _, _⟩ := inv7.at_.at_ x hq1
        cases hsv'
        have hfin := inv7.store HSL.out x hq1 gs rfl (.slice (some ⟨g7, 0, none⟩) 64 c7) _ sl7
        rw [← LL.out] at hfin
        have HV := Lib.hid hfin
        have hgsp : gs ≠ p := fun e => inv7.at_.apart.1 (by rw [← e]; rfl)
        have hgsw := (HSL.out gs rfl).2
        simp only [Act.put]
        refine wpAnyH_take (oi := ⟨_, _, _, _, _, _⟩) (i := 21) (v := .pointer (some ⟨gs, x, none⟩)) rfl (by kernel_rfl) (by kernel_rfl) (by kernel_rfl) (fun _ _ _ h => h) (Or.inl ⟨by rfl, fun _ _ => by go_simp⟩) hTS7 ?_
        simp only [Act.put]
        refine wpAnyH_all (rs := [22]) (by kernel_rfl) (by simp) fun i hi => ?_
        obtain rfl : i = 22 := by simpa using hi
        have hst : (Instr.storeAt 30 (.pointer (some ⟨gs, x, none⟩)) (.slice (some ⟨g7, 0, none⟩) 64 c7)).run Try.prog w7 = .ok () (w7.setCell ⟨gs, x, none⟩ (.slice (some ⟨g7, 0, none⟩) 64 c7)) := by
          clear HV LL hTS hTS7 sl7 inv7 invD hfin
          go_simp
        refine wpOp_unit rfl rfl (ex_store 30 (.tmp 41) (.tmp 40) rfl _ _ rfl rfl hst) ⟨hTS7.keep (Below.heap_setCell _ _ _ _ (Ne.symm hgsp)) (Below.heap_setCell _ _ _ _ (by show wr.heap.size ≠ gs; omega)) (Below.heap_setCell _ _ _ _ (by show w.heap.size ≠ gs; omega)), ?_⟩
        refine wpAnyH_done (by kernel_rfl) ?_ _
        clear hfin sl7 inv7 k7 b7 br7 br1 br2 invD s1 s2 dd0 a0 a1 u2 u3 t0 t1 hTS hTS7 hst
        go_wp2_with fail
        go_roundw
        case rel => exact ⟨k + 1, _, by omega, by go_num, HV.out⟩
        case measure => simp [intOf]; omega
      | false =>
        cases hs : stayB f.stay k with
        | true =>
          have LO := Lib.hid (layOne_stay D.Q[k] (layD D f k).L ht hs)
          have HSB := Lib.hid hs
          have kD : Keeps (fun _ => False) (wr.alloc (.cells #[.int .i64 (D.Q[k].1 : Int), .slice R1 64 c1] 79)) (wr.alloc (.cells #[.int .i64 (D.Q[k].1 : Int), .slice R1 64 c1] 79)).drew := Keeps.drew _ _
          have invD := invA.same kD
          have swD := swA.keep kD fun _ _ _ h => h
          obtain ⟨gs, cap3, R2, c2, hsv, s1, s2, _, _⟩ := invD.at_.at_ D.Q[k].1 hq.1
          have hgs : sv.ownBlock = some gs := by rw [hsv]; rfl
          have hfin := invD.store HSL.out D.Q[k].1 hq.1 gs hgs (.slice R1 64 c1) D.Q[k].2 swD
          have hfin2 : RstInv w ((wr.alloc (.cells #[.int .i64 (D.Q[k].1 : Int), .slice R1 64 c1] 79)).drew.setCell ⟨gs, D.Q[k].1, none⟩ (.slice R1 64 c1)) F p n sv (.slice (some ⟨g, 0, none⟩) D.Q.length cap') (svs'.set D.Q[k].1 (.slice R1 64 c1)) ws (layD D f (k + 1)) f := by
            rw [LS.out, LO.out]
            exact hfin
          have HV := Lib.hid hfin2
          obtain ⟨dd0, _⟩ := invD.at_.c
          have a0 : (wr.alloc (.cells #[.int .i64 (D.Q[k].1 : Int), .slice R1 64 c1] 79)).drew.cell? ⟨wr.heap.size, 0, none⟩ = some (.int .i64 (D.Q[k].1 : Int)) := by
            show (wr.alloc _).cell? _ = _
            rw [cell_of_row _ _ _ _ _ _ eA]; rfl
          have a1 : (wr.alloc (.cells #[.int .i64 (D.Q[k].1 : Int), .slice R1 64 c1] 79)).drew.cell? ⟨wr.heap.size, 1, none⟩ = some (.slice R1 64 c1) := by
            show (wr.alloc _).cell? _ = _
            rw [cell_of_row _ _ _ _ _ _ eA]; rfl
          have hn0 : D.Q[k].1 < n := hq.1
          subst hsv
          clear hfin hfin2 invD swD kD invA swA eA LS LO hq hgs hs
          generalize D.Q[k].1 = x at *
          by_cases h63 : 63 < k
          · have hb : (bits .and .u64 (f.stay / 9223372036854775808) 1 == 1) = true := by rw [stay_hi hf.s0 hf.s1 h63]; exact HSB.out
            have h63' : (63 : Int) < (k : Int) := by omega
            go_wp2_with fail
            refine wp_region_still_tail 8 (by kernel_rfl) (by kernel_rfl) ?_
            simp only [List.take_succ_cons, List.take_zero, List.drop_succ_cons, List.drop_zero]
            change wpStill _ _ (wr.alloc (.cells #[.int .i64 (x : Int), .slice R1 64 c1] 79)).drew (fun a' => wpList _ _ _ _ a' (wr.alloc (.cells #[.int .i64 (x : Int), .slice R1 64 c1] 79)).drew) _ _
            generalize (wr.alloc (.cells #[.int .i64 (x : Int), .slice R1 64 c1] 79)).drew = w6 at *
            still_step
            still_step
            still_step
            still_step
            still_step
            still_step
            still_step
            still_step
            refine wpStill_nil ?_
            go_wp2_with fail
            go_roundw
            case rel => exact ⟨k + 1, _, by omega, by go_num, HV.out⟩
            case measure => simp [intOf]; omega
          · have hb : (bits .and .u64 (f.stay / 2 ^ k) 1 == 1) = true := by rw [stay_lo hf.s0 hf.s1 (by omega)]; exact HSB.out
            have h63' : ¬ (63 : Int) < (k : Int) := by omega
            go_wp2_with fail
            refine wp_region_still_tail 8 (by kernel_rfl) (by kernel_rfl) ?_
            simp only [List.take_succ_cons, List.take_zero, List.drop_succ_cons, List.drop_zero]
            change wpStill _ _ (wr.alloc (.cells #[.int .i64 (x : Int), .slice R1 64 c1] 79)).drew (fun a' => wpList _ _ _ _ a' (wr.alloc (.cells #[.int .i64 (x : Int), .slice R1 64 c1] 79)).drew) _ _
            generalize (wr.alloc (.cells #[.int .i64 (x : Int), .slice R1 64 c1] 79)).drew = w6 at *
            still_step
            still_step
            still_step
            still_step
            still_step
            still_step
            still_step
            still_step
            refine wpStill_nil ?_
            go_wp2_with fail
            go_roundw
            case rel => exact ⟨k + 1, _, by omega, by go_num, HV.out⟩
            case measure => simp [intOf]; omega
        | false =>
          have LO := Lib.hid (layOne_gone D.Q[k] (layD D f k).L ht hs)
          have hinv : RstInv w (wr.alloc (.cells #[.int .i64 (D.Q[k].1 : Int), .slice R1 64 c1] 79)) F p n sv (.slice (some ⟨g, 0, none⟩) D.Q.length cap') svs' ws (layD D f (k + 1)) f := by
            rw [LS.out, LO.out]
            exact invA
          have HV := Lib.hid hinv
          clear hinv invA swA eA LS LO
          generalize D.Q[k].1 = x at *
          by_cases h63 : 63 < k
          · have hb : (bits .and .u64 (f.stay / 9223372036854775808) 1 == 1) = false := by rw [stay_hi hf.s0 hf.s1 h63]; exact hs
            have h63' : (63 : Int) < (k : Int) := by omega
            clear hs
            go_wp2_with fail
            go_roundw
            case rel => exact ⟨k + 1, _, by omega, by go_num, HV.out⟩
            case measure => simp [intOf]; omega
          · have hb : (bits .and .u64 (f.stay / 2 ^ k) 1 == 1) = false := by rw [stay_lo hf.s0 hf.s1 (by omega)]; exact hs
            have h63' : ¬ (63 : Int) < (k : Int) := by omega
            clear hs
            go_wp2_with fail
            go_roundw
            case rel => exact ⟨k + 1, _, by omega, by go_num, HV.out⟩
            case measure => simp [intOf]; omega
    · obtain rfl : k = D.Q.length := by omega
      have h1 := inv.at_.clear
      obtain ⟨_, e1, e2, e3, _, fz⟩ := inv.at_.c
      have fz1 := fz 1
      have fz2 := fz 2
      have fz3 := fz 3
      have k2 : Keeps (· = p) (wr.setCell ⟨p, 1, none⟩ (.slice none 0 0)) ((wr.setCell ⟨p, 1, none⟩ (.slice none 0 0)).setCell ⟨p, 2, none⟩ (.int .i64 (-1))) := Keeps.setCell _ _ _ _ rfl
      have h2 := h1.put k2 { layD D f D.Q.length with Q := [], left := -1 } rfl rfl (by show (-1 : Int) ≤ -1; decide) (by show (-1 : Int) ≤ 9223372036854775807; decide) (by rw [heap_setCell_same _ p 2 _ _ _ h1.head]; rfl)
      have k3 : Keeps (· = p) ((wr.setCell ⟨p, 1, none⟩ (.slice none 0 0)).setCell ⟨p, 2, none⟩ (.int .i64 (-1))) (((wr.setCell ⟨p, 1, none⟩ (.slice none 0 0)).setCell ⟨p, 2, none⟩ (.int .i64 (-1))).setCell ⟨p, 3, none⟩ (.bool false)) := Keeps.setCell _ _ _ _ rfl
      have h3 := h2.put k3 (D.restart f) rfl rfl (by show (-1 : Int) ≤ -1; decide) (by show (-1 : Int) ≤ 9223372036854775807; decide) (by rw [heap_setCell_same _ p 3 _ _ _ h2.head]; rfl)
      have kf : Keeps F w (((wr.setCell ⟨p, 1, none⟩ (.slice none 0 0)).setCell ⟨p, 2, none⟩ (.int .i64 (-1))).setCell ⟨p, 3, none⟩ (.bool false)) := ((inv.kw.trans (Keeps.setCell F wr ⟨p, 1, none⟩ (.slice none 0 0) HFP.out)).trans (k2.mono fun b _ e => by rw [e]; exact HFP.out)).trans (k3.mono fun b _ e => by rw [e]; exact HFP.out)
      have HFIN := Lib.hid (show RRst w F p (D.restart f) (.returned (.tuple #[])) (((wr.setCell ⟨p, 1, none⟩ (.slice none 0 0)).setCell ⟨p, 2, none⟩ (.int .i64 (-1))).setCell ⟨p, 3, none⟩ (.bool false)) from ⟨rfl, ⟨n, sv, _, _, _, h3⟩, kf⟩)
      clear fz h1 h2 h3 k2 k3 kf inv
      go_wp2_with fail
      go_end0
      exact HFIN.out
end Go.Proofs.Ythbdhmjmboliiaa
