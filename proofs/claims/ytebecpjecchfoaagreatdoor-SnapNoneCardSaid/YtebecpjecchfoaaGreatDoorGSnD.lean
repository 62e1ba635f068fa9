/-
  Merged by wip/tools/merge.py: SnMade SnTry SnPut SnBegin SnSteps
-/
import Derived.Test.YtebecpjecchfoaaGreatDoorGSnC
import Derived.Laws.Tables
import Derived.Test.YtebecpjecchfoaaGreatDoorGSnA
import Derived.Test.YtebecpjecchfoaaGreatDoorShCatch
import Derived.Test.YtebecpjecchfoaaGreatDoorGSnB
import Derived.Test.YtebecpjecchfoaaGreatDoorGRtA
import Derived.Test.YtebecpjecchfoaaGreatDoorGSp
namespace Go.Proofs.YtebecpjecchfoaaGreatDoor.St
set_option linter.unusedSimpArgs false
set_option linter.unusedVariables false
open Go.RowKit Go.Maps

theorem fill_front (place : Nat → Option (Nat × Nat)) (A cs : Array Value) (h : cs.size ≤ A.size) (hp : place 0 = some (0, cs.size)) : Instr.fill place A [(0, .agg cs)] = some (cs.toList ++ A.toList.drop cs.size).toArray := by
  have hc : (Value.agg cs).cells = cs := rfl
  unfold Instr.fill
  simp only [hp]
  rw [if_neg (by rw [hc]; simp; omega), hc]
  unfold Instr.fill
  have := fold_set cs.toList 0 A (by simp; omega)
  simp only [List.take_zero, List.nil_append, Nat.zero_add, Array.length_toList] at this
  rw [← Array.foldl_toList, Array.toList_zipIdx]
  simp only [Nat.zero_add]
  rw [this]
theorem built84 (l : List (Nat × Value)) : Tryz.prog.built 84 l = Instr.fill (#[(0, 16388), (16388, 1)][·]?) z84.toArray l := by
  kernel_rfl
def z8192 : List UInt8 := List.replicate 8192 0
theorem z8192_len : z8192.length = 8192 := List.length_replicate
theorem z8192_map : z8192.map B8 = List.replicate 8192 zb := by unfold z8192; rw [List.map_replicate]; rfl
/-- A state of noughts on a disk, whose root stands at a. -/
def zst (a : Int) : SSt := ⟨0, a, none, 0, [], z8192, z8192⟩
theorem zst_cells (v : Value) (a : Int) : v :: .int .u64 0 :: .int .i64 a :: .slice none 0 0 :: List.replicate 16384 zb = [v, .int .u64 0, .int .i64 a, .slice none 0 0] ++ (z8192.map B8 ++ (z8192.map B8 ++ [])) := by
  rw [z8192_map, List.append_nil, List.replicate_append_replicate]; rfl
theorem boxSto (w : World) (cs : Array Value) : (Instr.box 84 (.agg cs)).run Tryz.prog w = .ok (.pointer (some ⟨w.heap.size, 0, none⟩)) (w.alloc (.cells cs 84)) := rfl
theorem scells_len {S : SSt} (h : S.saved.length = 8192) (h' : S.live.length = 8192) (dp : Nat) (tail : List Value) : (scells dp S tail).length = 16388 + tail.length := by simp [scells, hcells, h, h']; omega
theorem scells_tail (dp : Nat) (S : SSt) (tail : List Value) : scells dp S [] ++ tail = scells dp S tail := by simp [scells]
theorem buildSto (w : World) (dp : Nat) {S : SSt} (h : S.saved.length = 8192) (h' : S.live.length = 8192) : (Instr.build 84 #[(0, .agg (scells dp S []).toArray)]).run Tryz.prog w = .ok (.agg (scells dp S [.bool false]).toArray) w := by
  refine run_build w _ _ _ ?_
  show Tryz.prog.built 84 [(0, .agg (scells dp S []).toArray)] = _
  have hl := scells_len h h' dp []
  have hq : ∀ Z : List Value, Z.length = 16384 → (([.pointer none, .int .u64 0, .int .i64 0, .slice none 0 0] ++ Z ++ [.bool false] : List Value).toArray).size = 16389 ∧ (([.pointer none, .int .u64 0, .int .i64 0, .slice none 0 0] ++ Z ++ [.bool false] : List Value).toArray).toList.drop 16388 = [.bool false] := by
    intro Z hZ
    constructor
    · simp [hZ]
    · show ([.pointer none, .int .u64 0, .int .i64 0, .slice none 0 0] ++ Z ++ [.bool false] : List Value).drop 16388 = _
      rw [List.drop_append_of_le_length (by simp [hZ]), List.drop_of_length_le (by simp [hZ]), List.nil_append]
  obtain ⟨h1, h2⟩ := hq (List.replicate 16384 zb) List.length_replicate
  rw [built84, z84_eq]
  generalize ([.pointer none, .int .u64 0, .int .i64 0, .slice none 0 0] ++ List.replicate 16384 zb ++ [.bool false] : List Value).toArray = A at *
  simp only [List.length_nil, Nat.add_zero] at hl
  have hsz : (scells dp S []).toArray.size = 16388 := by rw [List.size_toArray, hl]
  rw [fill_front _ A _ (by rw [hsz, h1]; omega) (by rw [hsz]; rfl), hsz, h2]
  show some (scells dp S [] ++ [Value.bool false]).toArray = _
  rw [scells_tail]
theorem oneCellS (dp : Nat) (S : SSt) (tail : List Value) (ht : ∀ v ∈ tail, v.oneCell' = true) : ∀ v ∈ scells dp S tail, v.oneCell' = true := by
  intro v hv
  simp only [scells, hcells, List.mem_append, List.mem_cons, List.mem_map, List.not_mem_nil, or_false] at hv
  rcases hv with (rfl | rfl | rfl | rfl) | ⟨u, _, rfl⟩ | ⟨u, _, rfl⟩ | h
  · rfl
  · rfl
  · rfl
  · rfl
  · rfl
  · rfl
  · exact ht _ h
/-- A state is read whole, and written whole. -/
theorem loadSt {w : World} {b : Nat} {dp : Nat} {S : SSt} (h : S.saved.length = 8192) (h' : S.live.length = 8192) (hr : w.rangeAt b 0 (scells dp S [])) : (Instr.loadAt 82 (.pointer (some ⟨b, 0, none⟩))).run Tryz.prog w = .ok (.agg (scells dp S []).toArray) w :=
  run_loadAt_mid w b 0 82 (scells dp S []) _ hr Tryz.underlying82 rfl (by rw [Tryz.sizeSt, scells_len h h']; rfl)
theorem storeSt {w : World} {b : Nat} {dp : Nat} {S : SSt} (h : S.saved.length = 8192) (h' : S.live.length = 8192) (hr : w.there b 0 16388) : (Instr.storeAt 82 (.pointer (some ⟨b, 0, none⟩)) (.agg (scells dp S []).toArray)).run Tryz.prog w = .ok () (w.setCells b 0 (scells dp S [])) := by
  have := run_storeAt_mid (P := Tryz.prog) w b 0 82 (scells dp S []).toArray (by simpa [scells_len h h'] using hr) (by rw [Tryz.sizeSt]; simp [scells_len h h']) (all_oneCell_toArray (oneCellS dp S [] (fun _ h => by cases h)))
  simpa using this
end Go.Proofs.YtebecpjecchfoaaGreatDoor.St
namespace Go.Proofs.YtebecpjecchfoaaGreatDoor.St
set_option linter.unusedSimpArgs false
set_option linter.unusedVariables false
open Go.RowKit Go.Maps

theorem acatch_idle (p : Addr) (w : World) :
    CallsD Tryz.prog 156 #[.pointer (some p)] .returning w fun e u' w' => e = .returned (.tuple #[]) ∧ u' = .returning ∧ w' = w := by
  refine callsD_of_wpS Tryz.func156 rfl fun c₀ cs hu => ?_
  apply wpS_seq
  apply wpS_region
  simp [wpOpsS, go_sem, recoverD, hu, Tryz.ntmps156, Exit.thenS]
  apply wpS_seq
  apply wpS_region
  simp [wpOpsS, go_sem, Exit.thenS]
  refine wpS_cond (t := false) (by simp [Act.eval, Array.replicate]) ?_
  simp only [Bool.false_eq_true, if_false]
  refine wpS_of_wp (wp_skip ?_)
  cases c₀
  simp_all [bodyPostS, results, Tryz.results156]
set_option maxRecDepth 100000 in
theorem acatch_panicking (b : Nat) (x : Value) (E : Int) (older : List PanicEntry) (w : World) (h0 : w.cell? ⟨b, 0, none⟩ = some x) (z0 : w.frozen? ⟨b, 0, none⟩ = false) :
    CallsD Tryz.prog 156 #[.pointer (some ⟨b, 0, none⟩)] (.panicking ({ v := .iface 26 (.int .i64 E), recovered := false } :: older)) w fun e u' w' =>
      e = .returned (.tuple #[]) ∧ u' = .panicking ({ v := .iface 26 (.int .i64 E), recovered := true } :: older) ∧ w' = w.setCell ⟨b, 0, none⟩ (.int .i64 E) := by
  refine callsD_of_wpS Tryz.func156 rfl fun c₀ cs hu => ?_
  apply wpS_seq
  apply wpS_region
  simp [wpOpsS, go_sem, recoverD, hu, Tryz.ntmps156, Exit.thenS]
  apply wpS_seq
  apply wpS_region
  simp [wpOpsS, go_sem, Exit.thenS]
  refine wpS_cond (t := true) (by simp [Act.eval, Array.replicate]) ?_
  simp only [if_true]
  refine wpS_of_wp ?_
  simp only [Array.replicate_succ, Array.replicate_zero, List.push_toArray, List.append_toArray, List.nil_append, List.cons_append, List.setIfInBounds_toArray, List.set_cons_zero, List.set_cons_succ]
  have hta := fun w => assertE E w
  go_wp2
  cases c₀
  simp_all [bodyPostS, results, Tryz.results156]

/-- States ahead of each step, and behind one that threw; what they may write. -/
structure Steps (I : Nat → (Nat → Prop) → World → Prop) (X : Int → (Nat → Prop) → World → Prop) (B : Nat) (fs : List FuncId) (v : Value) : Prop where
  keepI : ∀ {k : Nat} {F : Nat → Prop} {w w' : World} {G : Nat → Prop}, I k F w → Keeps G w w' → (∀ b, b < w.heap.size → G b → b = B ∧ ¬ F b) → I k F w'
  keepX : ∀ {E : Int} {F : Nat → Prop} {w w' : World} {G : Nat → Prop}, X E F w → Keeps G w w' → (∀ b, b < w.heap.size → G b → b = B ∧ ¬ F b) → X E F w'
  lt : ∀ {k : Nat} {F : Nat → Prop} {w : World} {b : Nat}, I k F w → F b → b < w.heap.size
  enters : ∀ f ∈ fs, ∀ args w, (callFunc f args).run Tryz.prog w = .ok (.enter f args) w
  step : ∀ {k : Nat} {F : Nat → Prop} {w : World} (hk : k < fs.length), B < w.heap.size → I k F w → Calls Tryz.prog fs[k] #[v] w fun e w' =>
    (e = .returned (.tuple #[]) ∧ ∃ F', I (k + 1) F' w' ∧ Keeps F w w' ∧ ∀ b, F' b → F b ∨ w.heap.size ≤ b) ∨ (∃ E, e = thrownE E ∧ ∃ F', X E F' w' ∧ Keeps F w w' ∧ ∀ b, F' b → F b ∨ w.heap.size ≤ b)
/-- What attempt leaves. -/
def Tried (I : Nat → (Nat → Prop) → World → Prop) (X : Int → (Nat → Prop) → World → Prop) (n : Nat) (F : Nat → Prop) (w : World) (e : Ending) (w' : World) : Prop :=
  ∃ F', ((e = .returned (.int .i64 0) ∧ I n F' w') ∨ ∃ E, e = .returned (.int .i64 E) ∧ X E F' w') ∧ Keeps F w w' ∧ ∀ b, F' b → F b ∨ w.heap.size ≤ b
set_option maxRecDepth 100000 in
set_option maxHeartbeats 800000 in
theorem attempt_any {I : Nat → (Nat → Prop) → World → Prop} {X : Int → (Nat → Prop) → World → Prop} {fs : List FuncId} {v : Value} {w : World} (hs : Steps I X w.heap.size fs v) {F : Nat → Prop} (h0 : I 0 F w) {sb : Nat}
    (hb : w.heap[sb]? = some (.cells (fs.map fun f => Value.func (.func f) #[v] #[]).toArray 1 (0, 0))) (hsb : ¬ F sb) (hn : fs.length ≤ 10) :
    Calls Tryz.prog 111 #[.slice (some ⟨sb, 0, none⟩) fs.length fs.length] w (Tried I X fs.length F w) := by
  have hmf : ∀ (fn : Fn) (first cap : Array Value) (w : World), (Instr.makeFunc fn first cap).run Tryz.prog w = .ok (.func fn first cap) w := fun _ _ _ _ => rfl
  have k1 : Keeps (fun _ => False) w (w.alloc (.cells #[.int .i64 0] 26)) := Keeps.alloc _ _ _
  have e1 := heap_alloc_new w (.cells #[.int .i64 0] 26)
  have s1 : (w.alloc (.cells #[.int .i64 0] 26)).heap.size = w.heap.size + 1 := by simp
  have hlt : sb < w.heap.size := (Array.getElem?_eq_some_iff.1 hb).1
  have i1 := hs.keepI h0 k1 (fun _ _ h => h.elim)
  have hF := fun b (hb : F b) => hs.lt h0 hb
  go_enter_defers Tryz.func111, Tryz.ntmps111
  go_wp2_with fail
  generalize (w.alloc (.cells #[.int .i64 0] 26)) = w1 at *
  go_loopw [8] (fun i wr => ∃ k : Nat, k ≤ fs.length ∧ i = .int .i64 k ∧ ∃ F', I k F' wr ∧ Keeps F w1 wr ∧ ∀ b, F' b → F b ∨ w1.heap.size ≤ b) (fun i _ => fs.length - (RowKit.intOf i).toNat)
  case atStart => exact ⟨0, by omega, rfl, F, i1, Keeps.refl _ _, fun _ h => .inl h⟩
  case round =>
    obtain ⟨k, hk, rfl, F', ik, kk, sk⟩ := hrel
    have hwr := kk.size
    have hnr : ¬ F w.heap.size := fun h => by have := hF _ h; omega
    have er := (kk.block w.heap.size (by omega) hnr).trans e1
    by_cases hlt2 : k < fs.length
    · have hbr : wr.heap[sb]? = some (.cells (fs.map fun f => Value.func (.func f) #[v] #[]).toArray 1 (0, 0)) := (kk.block sb (by omega) hsb).trans ((k1.block sb hlt (fun h => h)).trans hb)
      have hc : wr.cell? ⟨sb, k, none⟩ = some (.func (.func fs[k]) #[v] #[]) := by
        rw [cell_of_row _ _ _ _ _ _ hbr]; simp [hlt2]
      have hst := hs.step hlt2 (by omega) ik
      have hen := hs.enters fs[k] (List.getElem_mem hlt2)
      clear hbr
      generalize fs[k] = f at *
      go_wp2_with fail
      refine hst.mono ?_
      rintro e w2 (⟨rfl, F2, i2, k2, s2⟩ | ⟨E, rfl, F2, x2, k2, s2⟩)
      · have kk2 : Keeps F w1 w2 := ⟨k2.os.trans kk.os, k2.tape.trans kk.tape, k2.output.trans kk.output, Nat.le_trans kk.size k2.size, fun b hb2 hf => (k2.block b (by omega) (fun h => by
          rcases sk b h with h | h
          · exact hf h
          · omega)).trans (kk.block b hb2 hf)⟩
        clear hst hc hen
        go_wp2_with fail
        go_roundw
        case rel => exact ⟨k + 1, by omega, by go_num, F2, i2, kk2, fun b hb2 => by
          rcases s2 b hb2 with h | h
          · exact sk b h
          · exact .inr (by omega)⟩
        case measure => simp [RowKit.intOf]; omega
      · have hr2 : ¬ F' w.heap.size := fun h => by
          rcases sk _ h with h | h
          · exact hnr h
          · omega
        have e2 := (k2.block w.heap.size (by omega) hr2).trans er
        refine leaves_cons (f := 156) (args := #[.pointer (some ⟨w.heap.size, 0, none⟩)]) (by simp) (by simp [go_sem]) ?_
        refine (acatch_panicking w.heap.size _ E [] _ (by rw [cell_of_row _ _ _ _ _ _ e2]; rfl) (frozen_of_row _ _ _ _ _ e2)).mono ?_
        rintro e u' w'' ⟨rfl, rfl, rfl⟩
        show Leaves _ _ _ _ [] .returning _
        have e7 := heap_setCell_same w2 w.heap.size 0 _ _ (.int .i64 E) e2
        have c7 := cell_of_row _ w.heap.size 0 _ _ _ e7
        have hf2 : ∀ b, F2 b → F b ∨ w1.heap.size ≤ b := fun b hb2 => by
          rcases s2 b hb2 with h | h
          · exact sk b h
          · exact .inr (by omega)
        have k3 : Keeps (· = w.heap.size) w2 (w2.setCell ⟨w.heap.size, 0, none⟩ (.int .i64 E)) := Keeps.setCell _ _ _ _ rfl
        refine ⟨.int .i64 E, by simp [results, Tryz.results111, go_sem, c7], F2, .inr ⟨E, rfl, hs.keepX x2 k3 (fun b _ e => ?_)⟩, ?_, fun b hb2 => ?_⟩
        · refine ⟨e, fun h => ?_⟩
          rcases hf2 b h with h | h
          · exact hnr (e ▸ h)
          · omega
        · exact ⟨k3.os.trans (k2.os.trans (kk.os.trans k1.os)), k3.tape.trans (k2.tape.trans (kk.tape.trans k1.tape)), k3.output.trans (k2.output.trans (kk.output.trans k1.output)), by have := k3.size; have := k2.size; omega, fun b hb2 hf => (k3.block b (by have := k2.size; omega) (by omega)).trans ((k2.block b (by omega) (fun h => by
            rcases sk b h with h | h
            · exact hf h
            · omega)).trans ((kk.block b (by omega) hf).trans (k1.block b hb2 (fun h => h))))⟩
        · rcases hf2 b hb2 with h | h
          · exact .inl h
          · exact .inr (by omega)
    · obtain rfl : k = fs.length := by omega
      have r2 := cell_of_row wr w.heap.size 0 _ _ _ er
      have z2 := frozen_of_row wr w.heap.size 0 _ _ er
      go_wp2_with fail
      refine leaves_cons (f := 156) (args := #[.pointer (some ⟨w.heap.size, 0, none⟩)]) (by simp) (by simp [go_sem]) ?_
      refine (acatch_idle ⟨w.heap.size, 0, none⟩ _).mono ?_
      rintro e u' w'' ⟨rfl, rfl, rfl⟩
      simp only [Leaves, settle]
      have e7 := heap_setCell_same wr w.heap.size 0 _ _ (.int .i64 0) er
      have c7 := cell_of_row _ w.heap.size 0 _ _ _ e7
      have k3 : Keeps (· = w.heap.size) wr (wr.setCell ⟨w.heap.size, 0, none⟩ (.int .i64 0)) := Keeps.setCell _ _ _ _ rfl
      refine ⟨.int .i64 0, by simp [results, Tryz.results111, go_sem, c7], F', .inl ⟨rfl, hs.keepI ik k3 (fun b _ e => ?_)⟩, ?_, fun b hb2 => ?_⟩
      · refine ⟨e, fun h => ?_⟩
        rcases sk b h with h | h
        · exact hnr (e ▸ h)
        · omega
      · exact ⟨k3.os.trans (kk.os.trans k1.os), k3.tape.trans (kk.tape.trans k1.tape), k3.output.trans (kk.output.trans k1.output), by have := k3.size; omega, fun b hb2 hf => (k3.block b (by omega) (by omega)).trans ((kk.block b (by omega) hf).trans (k1.block b hb2 (fun h => h)))⟩
      · rcases sk b hb2 with h | h
        · exact .inl h
        · exact .inr (by omega)
end Go.Proofs.YtebecpjecchfoaaGreatDoor.St
namespace Go.Proofs.YtebecpjecchfoaaGreatDoor.St
set_option linter.unusedSimpArgs false
set_option linter.unusedVariables false
open Go.RowKit Go.Maps

theorem aggU64 (w : World) : (isAgg 40).run Tryz.prog w = .ok false w := by unfold isAgg; rw [Sem.run_bind, run_underlying Tryz.underlying40 w]; rfl
/-- The power is on, and there is room for more. -/
structure On (D : DSt) : Prop where
  up : D.down = false
  left : D.left < 0
  n : 8 ≤ D.n
  que : D.Q.length ≤ 1000000
  acts : D.acts ≤ 100000000
theorem On.write {D : DSt} (h : On D) (i : Int) (b : List UInt8) (hi : i = 0 ∨ i = 1) (hb : b.length = 64) : D.writeErr i b = 0 ∧ D.write i b = { D.spent with Q := D.Q ++ [(i.toNat, b)] } := by
  have hf : D.fits i b := by
    have := h.n
    rcases hi with rfl | rfl
    · exact ⟨by omega, by omega, hb⟩
    · exact ⟨by omega, by omega, hb⟩
  have hl := h.left
  constructor
  · unfold DSt.writeErr DSt.actErr
    rw [if_neg (by rw [h.up]; simp), if_pos hf, if_neg (by omega)]
  · unfold DSt.write
    rw [if_neg (by rw [h.up]; simp), if_pos hf, if_neg (by omega)]
/-- The state behind a root that was written. -/
def SSt.put (S : SSt) : SSt := { S with gen := S.gen + 1, at_ := 1 - S.at_ }
def SSt.record (S : SSt) : List UInt8 := encL (S.gen + 1) (S.l.map snOf)
section
variable {w : World} {Fd : Nat → Prop} {t : TypeId} {tail : List Value} {p dp : Nat} {S : SSt} {D : DSt}
set_option maxRecDepth 100000 in
set_option maxHeartbeats 1600000 in
theorem putRoot_at (h : SnAt w Fd t tail p dp S D) (on : On D) (hg : S.gen + 1 < 18446744073709551616) (hm : mayB (S.gen + 1) (S.l.map snOf) = true) :
    Calls Tryz.prog 59 #[.pointer (some ⟨p, 0, none⟩)] w fun e w' => e = .returned (.tuple #[]) ∧ Stepped w Fd t tail p dp S.put (D.write (1 - S.at_) S.record) w' := by
  have hgw : IntKind.u64.wrap ((S.gen : Int) + 1) = ((S.gen + 1 : Nat) : Int) := by rw [IntKind.wrap_u64]; omega
  have hpl := h.pl
  have k0 : Keeps (fun _ => False) w w.drew := Keeps.drew _ _
  have h0 := h.new k0
  have HG := Lib.hid hgw
  go_enter Tryz.func59, Tryz.ntmps59
  go_wp2_with fail
  refine wp_region_held (S := fun W => W.cell? ⟨p, 1, none⟩ = some (.int .u64 (S.gen : Int))) (by kernel_rfl) ?_
  change wpAnyH _ _ _ _ _ _ _ _ w.drew
  have hpl0 : p < w.drew.heap.size := hpl
  have K0 := Lib.hid k0
  clear k0
  generalize w.drew = w1 at *
  have hS : w1.cell? ⟨p, 1, none⟩ = some (.int .u64 (S.gen : Int)) := h0.c1
  have hsn := snaps_at h0
--@put1
  refine wpAnyH_take (oi := ⟨_, _, _, _, _, _⟩) (i := 0) (v := .pointer (some ⟨p, 0, none⟩)) rfl (by kernel_rfl) (by kernel_rfl) (by kernel_rfl) (fun _ _ _ h => h) (Or.inl ⟨by rfl, fun _ _ => rfl⟩) hS ?_
  try simp only [Act.put, List.setIfInBounds_toArray, List.set_cons_zero, List.set_cons_succ]
  refine wpAnyH_take (oi := ⟨_, _, _, _, _, _⟩) (i := 1) (v := .pointer (some ⟨p, 0, none⟩)) rfl (by kernel_rfl) (by kernel_rfl) (by kernel_rfl) (fun _ _ _ h => h) (Or.inl ⟨by rfl, fun _ _ => by go_simp⟩) hS ?_
  try simp only [Act.put, List.setIfInBounds_toArray, List.set_cons_zero, List.set_cons_succ]
  refine wpAnyH_take (oi := ⟨_, _, _, _, _, _⟩) (i := 2) (v := .pointer (some ⟨p, 1, none⟩)) rfl (by kernel_rfl) (by kernel_rfl) (by kernel_rfl) (fun _ _ _ h => h) (Or.inl ⟨by rfl, fun _ _ => by go_simp⟩) hS ?_
  try simp only [Act.put, List.setIfInBounds_toArray, List.set_cons_zero, List.set_cons_succ]
  refine wpAnyH_take (oi := ⟨_, _, _, _, _, _⟩) (i := 3) (v := .int .u64 (S.gen : Int)) rfl (by kernel_rfl) (by kernel_rfl) (by kernel_rfl) (fun _ _ _ h => h) (yif_load rfl 40 (.tmp 7) rfl _ _ rfl fun w h => load_one aggU64 h) hS ?_
  try simp only [Act.put, List.setIfInBounds_toArray, List.set_cons_zero, List.set_cons_succ]
  refine wpAnyH_take (oi := ⟨_, _, _, _, _, _⟩) (i := 4) (v := .int .u64 (IntKind.u64.wrap ((S.gen : Int) + 1))) rfl (by kernel_rfl) (by kernel_rfl) (by kernel_rfl) (fun _ _ _ h => h) (Or.inl ⟨by rfl, fun _ _ => by go_simp⟩) hS ?_
  try simp only [Act.put, List.setIfInBounds_toArray, List.set_cons_zero, List.set_cons_succ]
  refine wpAnyH_take (oi := ⟨_, _, _, _, _, _⟩) (i := 5) (v := .pointer (some ⟨p, 0, none⟩)) rfl (by kernel_rfl) (by kernel_rfl) (by kernel_rfl) (fun _ _ _ h => h) (Or.inl ⟨by rfl, fun _ _ => rfl⟩) hS ?_
  try simp only [Act.put, List.setIfInBounds_toArray, List.set_cons_zero, List.set_cons_succ]
  refine wpAnyH_all (rs := [6]) (by kernel_rfl) (by simp) fun i hi => ?_
  obtain rfl : i = 6 := by simpa using hi
  refine op_call (om := ⟨_, _, _, _, _, _⟩) (fn := 73) (args := #[.pointer (some ⟨p, 0, none⟩)]) (R := fun u w' => SnapsOut w1 S.l (.returned u) w') rfl rfl (by go_simp)
    (hsn.mono fun e w' h => by obtain ⟨g, rfl, h1⟩ := h; exact ⟨_, rfl, g, rfl, h1⟩) _ _ rfl rfl ?_
  rintro u w2 hu
  obtain ⟨g, hu, hg1, sr, k2⟩ := hu
  cases hu
  have hS : w2.cell? ⟨p, 1, none⟩ = some (.int .u64 (S.gen : Int)) := (k2.cell p 1 hpl0 (fun h => h)).trans hS
  clear hsn
  refine ⟨hS, ?_⟩
  try simp only [Act.put, List.setIfInBounds_toArray, List.set_cons_zero, List.set_cons_succ]
  rw [HG.out]
  have he := enc_anyN (S.gen + 1) (some ⟨g, 0, none⟩) (S.l.map snOf) S.l.length w2 sr (by simp; have := h.ok.len; omega)
  rw [List.length_map] at he
  have eo : encOut (S.gen + 1) (S.l.map snOf) = S.record := if_pos hm
  have ee : encErr (S.gen + 1) (S.l.map snOf) = 0 := if_pos hm
  refine wpAnyH_take (oi := ⟨_, _, _, _, _, _⟩) (i := 7) (v := agR (S.gen + 1) (some ⟨g, 0, none⟩) S.l.length S.l.length) rfl (by kernel_rfl) (by kernel_rfl) (by kernel_rfl) (fun _ _ _ h => h) (Or.inl ⟨by rfl, fun _ _ => by go_simp⟩) hS ?_
  try simp only [Act.put, List.setIfInBounds_toArray, List.set_cons_zero, List.set_cons_succ]
  refine wpAnyH_all (rs := [8]) (by kernel_rfl) (by simp) fun i hi => ?_
  obtain rfl : i = 8 := by simpa using hi
  refine op_call (om := ⟨_, _, _, _, _, _⟩) (fn := 114) (args := #[agR (S.gen + 1) (some ⟨g, 0, none⟩) S.l.length S.l.length]) (R := fun u w' => GivesEncN w2 (S.gen + 1) (S.l.map snOf) (.returned u) w') rfl rfl (by go_simp)
    (he.mono fun e w' h => by obtain ⟨R, c, rfl, h1⟩ := h; exact ⟨_, rfl, R, c, rfl, h1⟩) _ _ rfl rfl ?_
  rintro u w3 hu
  have hS : w3.cell? ⟨p, 1, none⟩ = some (.int .u64 (S.gen : Int)) := by obtain ⟨R, c, _, _, b3, _⟩ := hu; exact (b3.cell (p := ⟨p, 1, none⟩) (Nat.lt_of_lt_of_le hpl0 k2.size)).trans hS
  clear he
  refine ⟨hS, ?_⟩
  try simp only [Act.put, List.setIfInBounds_toArray, List.set_cons_zero, List.set_cons_succ]
--@@
  obtain ⟨R, c, hu, br, b3, hc, hn⟩ := hu
  rw [eo, ee] at hu
  rw [eo] at br hc
  cases hu
  have K3 := Lib.hid ((K0.out.trans k2).trans (keeps_below b3))
  have hsz : w.heap.size ≤ w2.heap.size := (K0.out.trans k2).size
  have hA : ∀ ad, R = some ad → S.record ≠ [] → ¬ Fd ad.block := fun ad e _ hf => by
    have := hn ad e
    have := h.lt _ hf
    omega
  have HA := Lib.hid hA
  have h3 := h.new K3.out
  clear hA hn b3 k2 sr
  generalize hrr : S.record = rr at *
  have hlr : rr.length = 64 := by rw [← hrr]; exact encL_len _ _
  have HRL := Lib.hid hlr
--@put2
  refine wpAnyH_take (oi := ⟨_, _, _, _, _, _⟩) (i := 9) (v := .tuple #[.slice R rr.length c, .int .i64 0]) rfl (by kernel_rfl) (by kernel_rfl) (by kernel_rfl) (fun _ _ _ h => h) (Or.inl ⟨by rfl, fun _ _ => rfl⟩) hS ?_
  try simp only [Act.put, List.setIfInBounds_toArray, List.set_cons_zero, List.set_cons_succ]
  refine wpAnyH_take (oi := ⟨_, _, _, _, _, _⟩) (i := 10) (v := .slice R rr.length c) rfl (by kernel_rfl) (by kernel_rfl) (by kernel_rfl) (fun _ _ _ h => h) (Or.inl ⟨by rfl, fun _ _ => by go_simp⟩) hS ?_
  try simp only [Act.put, List.setIfInBounds_toArray, List.set_cons_zero, List.set_cons_succ]
  refine wpAnyH_take (oi := ⟨_, _, _, _, _, _⟩) (i := 11) (v := .int .i64 0) rfl (by kernel_rfl) (by kernel_rfl) (by kernel_rfl) (fun _ _ _ h => h) (Or.inl ⟨by rfl, fun _ _ => by go_simp⟩) hS ?_
  try simp only [Act.put, List.setIfInBounds_toArray, List.set_cons_zero, List.set_cons_succ]
  refine wpAnyH_take (oi := ⟨_, _, _, _, _, _⟩) (i := 12) (v := .slice R rr.length c) rfl (by kernel_rfl) (by kernel_rfl) (by kernel_rfl) (fun _ _ _ h => h) (Or.inl ⟨by rfl, fun _ _ => rfl⟩) hS ?_
  try simp only [Act.put, List.setIfInBounds_toArray, List.set_cons_zero, List.set_cons_succ]
  refine wpAnyH_take (oi := ⟨_, _, _, _, _, _⟩) (i := 13) (v := .int .i64 0) rfl (by kernel_rfl) (by kernel_rfl) (by kernel_rfl) (fun _ _ _ h => h) (Or.inl ⟨by rfl, fun _ _ => rfl⟩) hS ?_
  try simp only [Act.put, List.setIfInBounds_toArray, List.set_cons_zero, List.set_cons_succ]
  refine wpAnyH_done (by kernel_rfl) ?_ _
  try simp only [Act.put, List.setIfInBounds_toArray, List.set_cons_zero, List.set_cons_succ]
--@@
  have HBR := Lib.hid br
  clear br hS hpl0
  have hat := h.ok.at_
  have HAT := Lib.hid hat
  obtain ⟨ow1, ow2⟩ := on.write (1 - S.at_) rr (by rcases hat with e | e <;> rw [e] <;> decide) HRL.out
  have OW := Lib.hid ow1
  clear hat ow1 ow2
  have hsg := HG.out
  clear hgw
  go_wp2_with fail
  refine (demand_ok w3).mono ?_
  rintro e w' ⟨rfl, rfl⟩
  go_wp2_with fail
  refine wp_region_still_tail 7 (by kernel_rfl) (by kernel_rfl) ?_
  simp only [List.take_succ_cons, List.take_zero, List.drop_succ_cons, List.drop_zero]
  change wpStill _ _ w3.drew (fun a' => wpList _ _ _ _ a' w3.drew) _ _
  have K4 := Lib.hid (K3.out.trans (Keeps.drew _ w3))
  have HB4 : Hid (BR w3.drew w3.drew.heap.size R rr) := HBR.out
  clear h3 K3 HBR
  generalize w3.drew = w4 at *
  have h4 := h.new K4.out
  have c0 := h4.c0
  have hoth := other_at h4
  have hwr := write_any h4.disk (1 - S.at_) R rr c HB4.out HA.out (by have := on.que; omega) (by have := on.acts; omega)
  rw [OW.out, HRL.out] at hwr
  have H4 := Lib.hid h4
  clear h4
  still_step
  still_step
  still_step
  still_step
  still_step
  still_call (hoth.mono fun _ _ h => ⟨h.1, h.2.symm⟩)
  still_step
  refine wpStill_nil ?_
  clear c0 hoth
  go_wp2_with fail
  refine hwr.mono ?_
  rintro e w5 ⟨rfl, d5, k5⟩
  have hs5 := H4.out.wrote d5 k5
  have k5' : Keeps (own p Fd) w4 w5 := k5.mono (fun _ _ f => .inr f)
  clear d5 k5 hwr
  go_wp2_with fail
  refine (demand_ok w5).mono ?_
  rintro e w' ⟨rfl, rfl⟩
  obtain ⟨Fd', h5, f5⟩ := hs5
  go_wp2_with fail
  refine wp_region_any (by kernel_rfl) ?_
  change wpAny _ _ _ _ _ _ _ w5.drew
  have h6 := h5.new (Keeps.drew (fun _ => False) w5)
  have k6 : Keeps (own p Fd) w4 w5.drew := k5'.trans (Keeps.drew _ w5)
  clear h5 k5'
  generalize w5.drew = w6 at *
  have c1 := h6.c1
  have z1 := h6.fz 1
  have z2 := h6.fz 2
  have c2 := h6.c2
  have hoth := other_at h6
  refine wpAny_take (oi := ⟨_, _, _, _, _, _⟩) (i := 1) (v := .pointer (some ⟨p, 0, none⟩)) rfl (by kernel_rfl) (by kernel_rfl) (by kernel_rfl) (fun _ _ _ h => h) (Or.inl ⟨by rfl, fun w => by go_simp⟩) ?_
  try simp only [Act.put, List.setIfInBounds_toArray, List.set_cons_zero, List.set_cons_succ]
  refine wpAny_tail [0, 2, 3, 4, 5, 6, 7, 8] [9, 10, 11, 12, 13, 14] [_, _, _, _, _, _, _, _] [_, _, _, _, _, _] rfl rfl rfl (by kernel_rfl) ?_
  still_step
  still_step
  still_step
  still_step
  still_step
  still_step
  still_step
  still_call (hoth.mono fun _ _ h => ⟨h.1, h.2.symm⟩)
  refine wpStill_nil ?_
  clear hoth
  have hok := h.ok
  obtain ⟨q1, kq1⟩ := h6.set (S' := { S with gen := S.gen + 1 }) 1 (.int .u64 ((S.gen + 1 : Nat) : Int)) rfl h6.row ⟨hg, hok.at_, hok.len, hok.room, hok.saved, hok.live, hok.secs⟩
  obtain ⟨q2, kq2⟩ := q1.set (S' := S.put) 2 (.int .i64 (1 - S.at_)) rfl q1.row ⟨hg, by show 1 - S.at_ = 0 ∨ 1 - S.at_ = 1; rcases hok.at_ with e | e <;> omega, hok.len, hok.room, hok.saved, hok.live, hok.secs⟩
  have Q2 := Lib.hid (And.intro q2 (kq1.trans kq2))
  have z2' := q1.fz 2
  have c2' := q1.c2
  clear q1 q2 kq1 kq2 h6
  rw [← HG.out] at Q2 z2' c2'
  have hfin : ∀ {W : World}, SnAt W Fd' t tail p dp S.put (D.write (1 - S.at_) rr) ∧ Keeps (own p Fd') w6 W → Stepped w Fd t tail p dp S.put (D.write (1 - S.at_) rr) W := fun hW => by
    refine Stepped.trans (K4.out.mono (fun _ _ f => f.elim)) (fun b hb => .inl hb) ?_
    exact Stepped.trans k6 f5 ⟨⟨Fd', hW.1, fun b hb => .inl hb⟩, hW.2⟩
  rw [HG.out, show ((S.gen + 1 : Nat) : Int) = (S.gen : Int) + 1 from by omega] at Q2
  have HF := Lib.hid (hfin Q2.out)
  clear hfin Q2 f5 k6 H4 on hm
  go_wp2_with fail
  go_end0
  exact ⟨rfl, HF.out⟩
theorem allocC (w : World) : (Instr.alloc 78 true (.tuple #[])).run Tryz.prog w = .ok (.pointer (some ⟨w.heap.size, 0, none⟩)) (w.alloc (.cells (zs64.map B8).toArray 78)) := by kernel_rfl
set_option maxRecDepth 100000 in
set_option maxHeartbeats 800000 in
theorem wipe_at (h : SnAt w Fd t tail p dp S D) (on : On D) : Calls Tryz.prog 60 #[.pointer (some ⟨p, 0, none⟩)] w fun e w' => e = .returned (.tuple #[]) ∧ Stepped w Fd t tail p dp S (D.write (1 - S.at_) zs64) w' := by
  have k1 : Keeps (fun _ => False) w (w.alloc (.cells (zs64.map B8).toArray 78)) := Keeps.alloc _ _ _
  have K4 := Lib.hid (k1.trans (Keeps.drew _ (w.alloc (.cells (zs64.map B8).toArray 78))))
  have hb : (w.alloc (.cells (zs64.map B8).toArray 78)).drew.heap[w.heap.size]? = some (.cells (zs64.map B8).toArray 78 (0, 0)) := heap_alloc_new w _
  have h4 := h.new K4.out
  have hbr := br_block hb 0 64
  rw [List.drop_zero, List.take_of_length_le (by rw [zs64_len]; omega)] at hbr
  obtain ⟨ow1, ow2⟩ := on.write (1 - S.at_) zs64 (by rcases h.ok.at_ with e | e <;> rw [e] <;> decide) zs64_len
  have hwr := write_any h4.disk (1 - S.at_) (some ⟨w.heap.size, 0, none⟩) zs64 64 hbr (fun ad e _ hf => by cases e; have := h.lt _ hf; simp at this) (by have := on.que; omega) (by have := on.acts; omega)
  rw [ow1, zs64_len] at hwr
  have c0 := h4.c0
  have hoth := other_at h4
  have H4 := Lib.hid h4
  have HW := Lib.hid hwr
  clear hbr hb ow1 ow2 h4 k1 hwr
  go_enter Tryz.func60, Tryz.ntmps60
  go_wp2_with (((with_reducible refine here (op := .alloc 78) ?_); refine wpList_alloc_run rfl 78 rfl _ (allocC _) ?_))
  refine wp_region_still_tail 7 (by kernel_rfl) (by kernel_rfl) ?_
  simp only [List.take_succ_cons, List.take_zero, List.drop_succ_cons, List.drop_zero]
  change wpStill _ _ (w.alloc (.cells (zs64.map B8).toArray 78)).drew (fun a' => wpList _ _ _ _ a' (w.alloc (.cells (zs64.map B8).toArray 78)).drew) _ _
  generalize (w.alloc (.cells (zs64.map B8).toArray 78)).drew = w4 at *
  still_step
  still_step
  still_step
  still_step
  still_step
  still_call (hoth.mono fun _ _ h => ⟨h.1, h.2.symm⟩)
  still_step
  refine wpStill_nil ?_
  clear c0 hoth
  go_wp2_with fail
  refine HW.out.mono ?_
  rintro e w5 ⟨rfl, d5, k5⟩
  have HF := Lib.hid (show Stepped w Fd t tail p dp S (D.write (1 - S.at_) zs64) w5 from Stepped.trans (K4.out.mono (fun _ _ f => f.elim)) (fun b hb => .inl hb) ⟨H4.out.wrote d5 k5, k5.mono (fun _ _ f => .inr f)⟩)
  clear d5 k5
  go_wp2_with fail
  refine (demand_ok w5).mono ?_
  rintro e w' ⟨rfl, rfl⟩
  go_wp2_with fail
  go_end0
  exact ⟨rfl, HF.out⟩
end
end Go.Proofs.YtebecpjecchfoaaGreatDoor.St
namespace Go.Proofs.YtebecpjecchfoaaGreatDoor.St
set_option linter.unusedSimpArgs false
set_option linter.unusedVariables false
open Go.RowKit Go.Maps

/-- What begin leaves: a store, or an error. -/
def Begun (w : World) (F : Nat → Prop) (J : (Nat → Prop) → SSt → DSt → Prop) (dp : Nat) (X : Int → (Nat → Prop) → World → Prop) (e : Ending) (w' : World) : Prop :=
  (∃ q S D Fd, e = .returned (.tuple #[.pointer (some ⟨q, 0, none⟩), .int .i64 0]) ∧ w.heap.size ≤ q ∧ SnAt w' Fd 84 [.bool false] q dp S D ∧ J Fd S D ∧ Keeps F w w' ∧ ∀ b, Fd b → F b ∨ w.heap.size ≤ b) ∨
  (∃ E F', E ≠ 0 ∧ e = .returned (.tuple #[.pointer none, .int .i64 E]) ∧ X E F' w' ∧ Keeps F w w' ∧ ∀ b, F' b → F b ∨ w.heap.size ≤ b)
set_option maxRecDepth 100000 in
set_option maxHeartbeats 800000 in
theorem begin_any {I : Nat → (Nat → Prop) → World → Prop} {X : Int → (Nat → Prop) → World → Prop} {fs : List FuncId} {p dp : Nat} {w : World} (hs : Steps I X w.heap.size fs (.pointer (some ⟨p, 0, none⟩))) {F : Nat → Prop} (h0 : I 0 F w) {sb : Nat}
    (hb : w.heap[sb]? = some (.cells (fs.map fun f => Value.func (.func f) #[.pointer (some ⟨p, 0, none⟩)] #[]).toArray 1 (0, 0))) (hsb : ¬ F sb) (hn : fs.length ≤ 10)
    (hX : ∀ {E F w}, X E F w → E ≠ 0) {J : (Nat → Prop) → SSt → DSt → Prop} (hI : ∀ {F' w'}, I fs.length F' w' → ∃ S D Fd, SnAt w' Fd 82 [] p dp S D ∧ J Fd S D ∧ ∀ b, Fd b → F' b) :
    Calls Tryz.prog 56 #[.pointer (some ⟨p, 0, none⟩), .slice (some ⟨sb, 0, none⟩) fs.length fs.length] w (Begun w F J dp X) := by
  have ha := attempt_any hs h0 hb hsb hn
  clear hs h0 hb
  go_enter Tryz.func56, Tryz.ntmps56
  go_wp2_with fail
  refine ha.mono ?_
  rintro e w2 ⟨F', ⟨rfl, hi⟩ | ⟨E, rfl, hx⟩, k2, s2⟩
  · obtain ⟨S, D, Fd, hst, hj, hsub⟩ := hI hi
    have LD := Lib.hid (loadSt (w := w2) (b := p) (dp := dp) hst.ok.saved hst.ok.live (range_blockV hst.head))
    have BS := Lib.hid (buildSto w2 dp hst.ok.saved hst.ok.live)
    have k3 : Keeps (fun _ => False) w2 (w2.alloc (.cells (scells dp S [.bool false]).toArray 84)) := Keeps.alloc _ _ _
    have e3 := heap_alloc_new w2 (.cells (scells dp S [.bool false]).toArray 84)
    have hst3 : SnAt (w2.alloc (.cells (scells dp S [.bool false]).toArray 84)) Fd 84 [.bool false] w2.heap.size dp S D := by
      have h1 := hst.new k3
      refine ⟨e3, ?_, h1.disk, h1.lt, fun hf => by have := hst.lt _ hf; omega, hst.ok⟩
      have := hst.row.keep (F' := own w2.heap.size Fd) (k3.mono (fun _ _ h => h.elim)) (fun b hb f => by
        rcases f with rfl | f
        · omega
        · exact .inr f)
      exact this
    have HF := Lib.hid (show Begun w F J dp X (.returned (.tuple #[.pointer (some ⟨w2.heap.size, 0, none⟩), .int .i64 0])) (w2.alloc (.cells (scells dp S [.bool false]).toArray 84)) from .inl ⟨_, S, D, Fd, rfl, k2.size, hst3, hj, k2.trans (k3.mono (fun _ _ h => h.elim)), fun b hb => s2 b (hsub b hb)⟩)
    clear hst hst3 k3 e3 ha hI hX
    generalize (scells dp S [.bool false]).toArray = cs2 at *
    generalize (scells dp S []).toArray = cs at *
    go_wp2_with (first
      | ((with_reducible refine here (op := .load 82 (.tmp 13)) ?_); refine wpList_load_run rfl 82 _ rfl _ _ rfl LD.out ?_)
      | ((with_reducible refine at_ (op := .build 84 #[(0, .tmp 14)]) ?_); refine wpList_build_run rfl 84 _ rfl _ _ rfl BS.out ?_)
      | ((with_reducible refine here (op := .box 84 (.tmp 15)) ?_); refine wpList_box_run rfl 84 _ rfl _ _ rfl (boxSto _ _) ?_))
    go_ret2
    exact HF.out
  · have hE := hX hx
    have hE1 : (E != 0) = true := by simpa using hE
    have HF := Lib.hid (show Begun w F J dp X (.returned (.tuple #[.pointer none, .int .i64 E])) w2 from .inr ⟨E, F', hE, rfl, hx, k2, s2⟩)
    clear ha hI hX hE
    go_wp2_with fail
    go_ret2
    exact HF.out
end Go.Proofs.YtebecpjecchfoaaGreatDoor.St
namespace Go.Proofs.YtebecpjecchfoaaGreatDoor.St
set_option linter.unusedSimpArgs false
set_option linter.unusedVariables false
open Go.RowKit Go.Maps

section
variable {w w' : World} {Fd : Nat → Prop} {t : TypeId} {tail : List Value} {p dp : Nat} {S S' : SSt} {D D' : DSt}
/-- Where it is asked (T), the table behind TrailingZeros64 stands, and no block of the disk's is its. -/
def Mk (T : Prop) (w : World) (Fd : Nat → Prop) : Prop := T → Sp.Tab w ∧ ¬ Fd 0
theorem Mk.keep {T : Prop} {Fd' : Nat → Prop} (h : Mk T w Fd) (hp : T → p ≠ 0) (k : Keeps (own p Fd) w w') (hs : ∀ b, Fd' b → Fd b ∨ w.heap.size ≤ b) : Mk T w' Fd' := fun t => by
  obtain ⟨h1, h2⟩ := h t
  refine ⟨h1.keeps k (fun f => f.elim (fun e => hp t e.symm) h2), fun f => ?_⟩
  rcases hs 0 f with f | f
  · exact h2 f
  · have := h1.pos; omega
/-- The states ahead of each step. -/
def IS (T : Prop) (P : Nat → SSt → DSt → Prop) (B : Nat) (Z : Nat → Prop) (t : TypeId) (p dp : Nat) (k : Nat) (F : Nat → Prop) (w : World) : Prop :=
  ∃ Fd S D, (∀ b, F b ↔ own p Fd b) ∧ SnAt w Fd t [] p dp S D ∧ P k S D ∧ LR w (fun b => b = B ∨ Z b) S.A S.l ∧ Mk T w Fd
def XS (P : Int → SSt → DSt → Prop) (B : Nat) (Z : Nat → Prop) (t : TypeId) (p dp : Nat) (E : Int) (F : Nat → Prop) (w : World) : Prop :=
  ∃ Fd S D, (∀ b, F b ↔ own p Fd b) ∧ SnAt w Fd t [] p dp S D ∧ P E S D ∧ LR w (fun b => b = B ∨ Z b) S.A S.l
theorem LR.less {F F' : Nat → Prop} {A : Option Addr} {l : List Ck} (h : LR w F A l) (hF : ∀ b, F' b → F b) : LR w F' A l := by
  refine ⟨fun hn => ?_, fun a ha hn => ?_⟩
  · obtain ⟨ad, e, hb, hf, hc⟩ := h.ar hn
    exact ⟨ad, e, hb, fun f => hf (hF _ f), hc⟩
  · obtain ⟨ad, e, hb, hf, hc⟩ := h.ok a ha hn
    exact ⟨ad, e, hb, fun f => hf (hF _ f), hc⟩
theorem SnAt.keepB {B : Nat} {Z : Nat → Prop} (h : SnAt w Fd t [] p dp S D) (hr : LR w (fun b => b = B ∨ Z b) S.A S.l) {F G : Nat → Prop} (hF : ∀ b, F b ↔ own p Fd b) (k : Keeps G w w') (hG : ∀ b, b < w.heap.size → G b → b = B ∧ ¬ F b) : SnAt w' Fd t [] p dp S D ∧ LR w' (fun b => b = B ∨ Z b) S.A S.l := by
  have kB : Keeps (fun b => b = B ∧ ¬ F b) w w' := ⟨k.os, k.tape, k.output, k.size, fun b hb hn => k.block b hb (fun g => hn (hG b hb g))⟩
  have kB' : Keeps (· = B) w w' := kB.mono (fun _ _ h => h.1)
  refine ⟨⟨(kB.block p h.pl (fun e => e.2 ((hF p).2 (.inl rfl)))).trans h.head, (hr.less (F' := (· = B)) (fun _ h => .inl h)).both h.row kB', h.disk.keep kB (fun b _ f e => e.2 ((hF b).2 (.inr f))), fun b hb => Nat.lt_of_lt_of_le (h.lt b hb) k.size, h.np, h.ok⟩, hr.keep (kB'.mono (fun _ _ h => .inl h)) (fun _ _ h => h)⟩
/-- What a step answers. -/
def StepOut (P : Nat → SSt → DSt → Prop) (PX : Int → SSt → DSt → Prop) (k : Nat) (w : World) (Fd : Nat → Prop) (t : TypeId) (p dp : Nat) (S : SSt) (e : Ending) (w' : World) : Prop :=
  (e = .returned (.tuple #[]) ∧ ∃ S' D', Stepped w Fd t [] p dp S' D' w' ∧ Rows w S S' w' ∧ P (k + 1) S' D') ∨ (∃ E, e = thrownE E ∧ ∃ S' D', Stepped w Fd t [] p dp S' D' w' ∧ Rows w S S' w' ∧ PX E S' D')
theorem steps_of {T : Prop} {P : Nat → SSt → DSt → Prop} {PX : Int → SSt → DSt → Prop} {B : Nat} {Z : Nat → Prop} (hpT : T → p ≠ 0 ∧ B ≠ 0) (hZ : ∀ b, Z b → b < B) {fs : List FuncId} (hen : ∀ f ∈ fs, ∀ args w, (callFunc f args).run Tryz.prog w = .ok (.enter f args) w)
    (hst : ∀ (k : Nat) (hk : k < fs.length) (w : World) (Fd : Nat → Prop) (S : SSt) (D : DSt), SnAt w Fd t [] p dp S D → P k S D → Mk T w Fd → Calls Tryz.prog fs[k] #[.pointer (some ⟨p, 0, none⟩)] w (StepOut P PX k w Fd t p dp S)) :
    Steps (IS T P B Z t p dp) (XS PX B Z t p dp) B fs (.pointer (some ⟨p, 0, none⟩)) where
  keepI := by
    rintro k F w w' G ⟨Fd, S, D, hF, h, hP, hr, hM⟩ kk hG
    obtain ⟨h', hr'⟩ := h.keepB hr hF kk hG
    exact ⟨Fd, S, D, hF, h', hP, hr', fun t => ⟨(hM t).1.keeps kk (fun g => (hpT t).2 (hG 0 (hM t).1.pos g).1.symm), (hM t).2⟩⟩
  keepX := by
    rintro k F w w' G ⟨Fd, S, D, hF, h, hP, hr⟩ kk hG
    obtain ⟨h', hr'⟩ := h.keepB hr hF kk hG
    exact ⟨Fd, S, D, hF, h', hP, hr'⟩
  lt := by
    rintro k F w b ⟨Fd, S, D, hF, h, _⟩ hb
    rcases (hF b).1 hb with rfl | hb
    · exact h.pl
    · exact h.lt b hb
  enters := hen
  step := by
    rintro k F w hk hB ⟨Fd, S, D, hF, h, hP, hr, hM⟩
    refine (hst k hk w Fd S D h hP hM).mono ?_
    have fin : ∀ {w' : World} {S' : SSt} {D' : DSt}, Stepped w Fd t [] p dp S' D' w' → Rows w S S' w' → ∃ (F' Fd' : Nat → Prop), (∀ b, F' b ↔ own p Fd' b) ∧ SnAt w' Fd' t [] p dp S' D' ∧ LR w' (fun b => b = B ∨ Z b) S'.A S'.l ∧ Keeps F w w' ∧ (∀ b, F' b → F b ∨ w.heap.size ≤ b) ∧ Mk T w' Fd' := by
      rintro w' S' D' ⟨⟨Fd', h', s'⟩, kk⟩ hrow
      refine ⟨own p Fd', Fd', fun _ => Iff.rfl, h', hrow _ (fun b e => by
        rcases e with e | e
        · omega
        · have := hZ b e
          omega) hr, kk.mono (fun b _ f => (hF b).2 f), fun b hb => ?_, hM.keep (fun t => (hpT t).1) kk s'⟩
      rcases hb with rfl | hb
      · exact .inl ((hF b).2 (.inl rfl))
      · exact (s' b hb).imp (fun f => (hF b).2 (.inr f)) id
    rintro e w' (⟨rfl, S', D', h1, h2, h3⟩ | ⟨E, rfl, S', D', h1, h2, h3⟩)
    · obtain ⟨F', Fd', q1, q2, q3, q4, q5, q6⟩ := fin h1 h2
      exact .inl ⟨rfl, F', ⟨Fd', S', D', q1, q2, h3, q3, q6⟩, q4, q5⟩
    · obtain ⟨F', Fd', q1, q2, q3, q4, q5, _⟩ := fin h1 h2
      exact .inr ⟨E, rfl, F', ⟨Fd', S', D', q1, q2, h3, q3⟩, q4, q5⟩
theorem IS.start {T : Prop} {P : Nat → SSt → DSt → Prop} {Z : Nat → Prop} (h : SnAt w Fd t [] p dp S D) (hP : P 0 S D) (hz : LR w Z S.A S.l) (hM : Mk T w Fd) : IS T P w.heap.size Z t p dp 0 (own p Fd) w := by
  refine ⟨Fd, S, D, fun _ => Iff.rfl, h, hP, ?_, hM⟩
  refine ⟨fun hn => ?_, fun a ha hn => ?_⟩
  · obtain ⟨ad, e, hb, hzf, hc⟩ := hz.ar hn
    exact ⟨ad, e, hb, fun f => by
      rcases f with f | f
      · omega
      · exact hzf f, hc⟩
  · obtain ⟨ad, e, hb, hzf, hc⟩ := hz.ok a ha hn
    exact ⟨ad, e, hb, fun f => by
      rcases f with f | f
      · omega
      · exact hzf f, hc⟩
end
end Go.Proofs.YtebecpjecchfoaaGreatDoor.St
