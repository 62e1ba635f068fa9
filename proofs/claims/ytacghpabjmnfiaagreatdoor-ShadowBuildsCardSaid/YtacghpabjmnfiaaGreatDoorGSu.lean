/-
  Merged by wip/tools/merge.py: FewNil TrChg AppZ ShSame SmPlain
-/
import Derived.Test.YtacghpabjmnfiaaGreatDoorGShI
import Derived.Test.YtacghpabjmnfiaaGreatDoorGSt
import Derived.Test.YtacghpabjmnfiaaGreatDoorGShM
import Derived.Test.YtacghpabjmnfiaaGreatDoorGCc
import Derived.Test.YtacghpabjmnfiaaGreatDoorTrLoad
import Derived.Test.YtacghpabjmnfiaaGreatDoorTrOld
import Derived.Test.YtacghpabjmnfiaaGreatDoorRdOfL
import Derived.Test.YtacghpabjmnfiaaGreatDoorRdMade
import Derived.Test.YtacghpabjmnfiaaGreatDoorGLe
import Derived.Test.YtacghpabjmnfiaaGreatDoorGRd
import Derived.Test.YtacghpabjmnfiaaGreatDoorWkErr
namespace Go.Proofs.YtacghpabjmnfiaaGreatDoor
open Go.RowKit

set_option maxRecDepth 100000 in
set_option maxHeartbeats 800000 in
theorem few_nil (B : Option Addr) (bl bc : Nat) (w : World) (hb : bl ≤ 140737488355328) :
    Calls Tryz.prog 16 #[.slice B bl bc, .slice none 0 0] w (fun e w' => e = .returned (.bool (decide (bl ≤ 19200))) ∧ w = w') := by
  go_enter Tryz.func16, Tryz.ntmps16
  go_wp2_with fail
  go_loopw [12, 5, 7, 14, 15] (fun i s _ _ _ wr => i = .int .i64 0 ∧ s = .int .i64 bl ∧ wr = w) (fun i _ _ _ _ _ => 0)
  case atStart => exact ⟨rfl, rfl, rfl⟩
  case round =>
    obtain ⟨rfl, rfl, rfl⟩ := hrel
    go_wp2_with fail
    go_ret
    exact ⟨congrArg (fun b => Ending.returned (Value.bool b)) (show decide ((bl : Int) ≤ 19200) = decide (bl ≤ 19200) from by rw [decide_eq_decide]; omega), rfl⟩
/-- append(s, make([]T, n)...) at its place in a walk, its run being known. -/
theorem wpList_append2 {P : Program} {w w' : World} {ops : Array Oper} {rest : List Oper} {o : Oper} {a : Act} {Q : Exit → Act → World → Prop} (hgd : o.guard = none) (s x : Operand) (t u : TypeId)
    (ho : o.op = .call { callee := .builtin .append, args := #[s, x], argTypes := #[t, u] }) (v : Value)
    (hrun : (Builtin.append_ #[t, u] o.type #[a.eval s, a.eval x]).run P w = .ok v w') (h : wpList P ops Q rest (a.put o.dst v) w') : wpList P ops Q (o :: rest) a w :=
  wpList_plain hgd fun _ hK => by
    unfold Oper.wp execOp
    simp only [ho, resolve, invoke, builtin, Sem.run_bind, Sem.run_pure, Result.andThen_ok, List.map_toArray, List.map_cons, List.map_nil, hrun]
    exact hK _ _ h
end Go.Proofs.YtacghpabjmnfiaaGreatDoor
namespace Go.Proofs.YtacghpabjmnfiaaGreatDoor
open Go.RowKit Go.Maps

theorem Own8.keeps {w w' : World} {B : Nat} {t : TypeId} {R : Option Addr} {cap : Nat} {zs : List UInt8} (h : Own8 w B t R cap zs) {F : Nat → Prop} (k : Keeps F w w') (hF : ∀ ad, R = some ad → ¬ F ad.block) : Own8 w' B t R cap zs := by
  refine ⟨h.1, ?_⟩
  rcases h.2 with hn | ⟨g, cap', cur, e, hb, hg, rest⟩
  · exact .inl hn
  · injection e with e1 e2 e3
    subst e1
    exact .inr ⟨g, cap', cur, by rw [e2, e3], hb, (k.block g (Array.getElem?_eq_some_iff.1 hg).1 (hF _ rfl)).trans hg, rest⟩
theorem chgL_len : ∀ (l : List (Int × List UInt8)) (b : List UInt8), b.length = 8192 → (∀ c ∈ l, c.1.toNat < 128 ∧ c.2.length = 64) → (chgL b l).length = 8192
  | [], b, hb, _ => hb
  | c :: l, b, hb, h => chgL_len l _ (splice_len8 hb (h c (by simp)).1 (h c (by simp)).2) (fun d hd => h d (List.mem_cons_of_mem _ hd))
theorem chgL_take (b : List UInt8) (L : List ChV) (k : Nat) (h : k < L.length) : chgL b ((L.take (k + 1)).map prC) = splice (chgL b ((L.take k).map prC)) (L[k].page.toNat * 64) L[k].xs := by
  rw [List.take_succ_eq_append_getElem h, List.map_append, chgL_append]
  rfl

set_option maxRecDepth 100000 in
set_option maxHeartbeats 1000000 in
theorem changed_any (R0 : Option Addr) (mem : List UInt8) (c0 : Nat) (w : World) (hb : BR w w.heap.size R0 mem) (hm : mem.length = 8192) (A : Option Addr) (L : List ChV) (c : Nat) (hL : CR w w.heap.size A L) (hgd : ∀ a ∈ L, a.good) (hll : L.length ≤ 1000) :
    Calls Tryz.prog 92 #[.slice R0 8192 c0, .slice A L.length c] w (fun e w' => ∃ R c', e = .returned (.slice R 8192 c') ∧ BR w' w'.heap.size R (chgL mem (L.map prC)) ∧ Below w.heap.size w w') := by
  obtain ⟨R, cap, w1, hap, own, b1⟩ := run_append8 (P := Tryz.prog) w 30 30 5 Tryz.info8 Tryz.underlying30 R0 mem c0 hb (by omega)
  rw [hm] at hap
  have hAP := Lib.hid hap
  obtain ⟨g, rfl, hg1, hg2, _⟩ := own.at_ (k := 0) (by omega)
  have hcap := own.cap_le
  rw [hm] at hcap
  have OW := Lib.hid own
  have HG := Lib.hid hgd
  have HL := Lib.hid hL
  have HM := Lib.hid hm
  clear hap own hgd hL hm
  go_enter Tryz.func92, Tryz.ntmps92
  go_wp2_with (at_builtin; refine wpList_append_run rfl _ _ 30 rfl _ hAP.out ?_)
  go_loopw [12, 7] (fun i _ wr => ∃ k : Nat, k ≤ L.length ∧ i = .int .i64 k ∧ Own8 wr w.heap.size 5 (some ⟨g, 0, none⟩) cap (chgL mem ((L.take k).map prC)) ∧ Below w.heap.size w wr ∧ g < wr.heap.size) (fun i _ _ => L.length - (Go.RowKit.intOf i).toNat)
  case atStart => exact ⟨0, Nat.zero_le _, rfl, OW.out, b1, hg2⟩
  case round =>
    clear hAP OW b1 hg2
    obtain ⟨k, hk, rfl, own, cb, hgr⟩ := hrel
    by_cases hlt : k < L.length
    · have hLr := (HL.out.below cb)
      obtain ⟨ad, rfl, hlb, d0, d1, hok⟩ := hLr.at_ hlt
      obtain ⟨g1, g2, g3⟩ := HG.out _ (List.getElem_mem hlt)
      have hst := chgL_take mem L k hlt
      have hlen : (chgL mem ((L.take k).map prC)).length = 8192 := chgL_len _ _ HM.out (fun q hq => by
        obtain ⟨a, ha, rfl⟩ := List.mem_map.1 hq
        obtain ⟨x1, x2, x3⟩ := HG.out a (List.mem_of_mem_take ha)
        exact ⟨by show a.page.toNat < 128; omega, x3⟩)
      generalize hMk : L[k] = a at *
      obtain ⟨p, hp⟩ : ∃ p : Nat, a.page = (p : Int) := ⟨a.page.toNat, by omega⟩
      rw [hp] at d0 g1 g2
      rw [hp, Int.toNat_natCast] at hst
      have HST := Lib.hid hst
      clear hst hMk
      generalize chgL mem ((L.take k).map prC) = zs at *
      have k1 : Keeps (fun _ => False) wr (wr.alloc (.cells #[.int .i64 (p : Int), .slice a.A a.xs.length a.c] 32)).drew := (Keeps.alloc _ _ _).trans (Keeps.drew _ _)
      have e10 : (wr.alloc (.cells #[.int .i64 (p : Int), .slice a.A a.xs.length a.c] 32)).drew.heap[wr.heap.size]? = some (.cells #[.int .i64 (p : Int), .slice a.A a.xs.length a.c] 32 (0, 0)) := heap_alloc_new wr _
      have bk1 := k1.toBelow w.heap.size (by have := cb.size; omega) (fun _ h => h.elim)
      have own1 := own.keeps k1 (fun _ _ h => h)
      have brA : BR (wr.alloc (.cells #[.int .i64 (p : Int), .slice a.A a.xs.length a.c] 32)).drew (wr.alloc (.cells #[.int .i64 (p : Int), .slice a.A a.xs.length a.c] 32)).drew.heap.size a.A a.xs := (hok.br.below bk1).more (by have := k1.size; have := cb.size; omega)
      have q0 : (wr.alloc (.cells #[.int .i64 (p : Int), .slice a.A a.xs.length a.c] 32)).drew.cell? ⟨wr.heap.size, 0, none⟩ = some (.int .i64 (p : Int)) := by rw [cell_of_row _ _ _ _ _ _ e10]; rfl
      have q1 : (wr.alloc (.cells #[.int .i64 (p : Int), .slice a.A a.xs.length a.c] 32)).drew.cell? ⟨wr.heap.size, 1, none⟩ = some (.slice a.A a.xs.length a.c) := by rw [cell_of_row _ _ _ _ _ _ e10]; rfl
      have cb1 := cb.trans bk1
      have hle : a.xs.length ≤ 8192 - p * 64 := by omega
      have hfit : p * 64 + a.xs.length ≤ zs.length := by omega
      have g3' : a.xs.length ≤ 64 := by omega
      clear g3 hlen
      have hg4 : g < (wr.alloc (.cells #[.int .i64 (p : Int), .slice a.A a.xs.length a.c] 32)).drew.heap.size := by have := k1.size; omega
      clear own hLr hok k1 bk1 cb e10
      go_wp2_with fail
      refine wp_region_still_tail 7 (by kernel_rfl) (by kernel_rfl) ?_
      simp only [List.take_succ_cons, List.take_zero, List.drop_succ_cons, List.drop_zero]
      change wpStill _ _ (wr.alloc (.cells #[.int .i64 (p : Int), .slice a.A a.xs.length a.c] 32)).drew (fun a' => wpList _ _ _ _ a' (wr.alloc (.cells #[.int .i64 (p : Int), .slice a.A a.xs.length a.c] 32)).drew) _ _
      clear d0 d1
      generalize (wr.alloc (.cells #[.int .i64 (p : Int), .slice a.A a.xs.length a.c] 32)).drew = W1 at *
      have cpy := fun ty => run_copy_own8 (P := Tryz.prog) W1 30 30 ty 5 5 Tryz.underlying30 (by kernel_rfl) w.heap.size (p * 64) (8192 - p * 64) (cap - p * 64) (some ⟨g, 0, none⟩) (some ⟨g, p * 64, none⟩) cap zs a.xs a.A a.c _ (fun _ g' e => by cases e; rfl) own1 brA hle hfit
      rw [← HST.out] at cpy
      have CPY := Lib.hid cpy
      clear cpy own1 brA
      have h3 : (0 : Int) ≤ (p : Int) * 64 := by omega
      have h4 : (p : Int) * 64 ≤ 8192 := by omega
      have h5 : ¬ 8192 = p * 64 := by omega
      have h6 : ¬ cap = p * 64 := by omega
      have htn : ((p : Int) * 64).toNat = p * 64 := by omega
      have hwr := IntWalk.i64_in ((p : Int) * 64) (by omega)
      still_step
      still_step
      still_step
      still_step
      still_step
      still_step
      still_step
      refine wpStill_nil ?_
      obtain ⟨w3, hrun, hown3, hb3⟩ := CPY.out 3
      clear CPY hwr htn h3 h4 h5 h6
      have OW3 := Lib.hid hown3
      clear hown3
      go_wp2
      go_roundw
      case rel => exact ⟨k + 1, by omega, by go_num, OW3.out, cb1.trans hb3, by have := hb3.size; omega⟩
      case measure => simp [Go.RowKit.intOf]; omega
    · obtain rfl : k = L.length := by omega
      rw [List.take_length] at own
      have OW := Lib.hid own
      clear own
      go_wp2_with fail
      go_ret
      exact ⟨_, _, rfl, OW.out.br, cb⟩
end Go.Proofs.YtacghpabjmnfiaaGreatDoor
namespace Go.Proofs.YtacghpabjmnfiaaGreatDoor
open Go.RowKit

theorem zero_cells (m : Nat) : Builtin.zeroCells #[Value.int .u8 0] m = ((List.replicate m (0 : UInt8)).map B8).toArray := by
  apply Array.ext
  · rw [size_zeroCells]; simp
  · intro i h1 h2
    simp [Builtin.zeroCells, Nat.mod_one]
theorem wrap64 (m : Nat) (h : m ≤ 1000000) : IntKind.i64.wrap (m : Int) = (m : Int) := IntWalk.i64_in (m : Int) (by omega)
theorem run_app0 (w : World) (ty : TypeId) {B : Nat} {R : Option Addr} {cap : Nat} {zs : List UInt8} (h : Own8 w B 5 R cap zs) (hB : B ≤ w.heap.size) (hl : zs.length ≤ 1000000) (m : Nat) (hm0 : 0 < m) (hm : m ≤ 1000000) :
    ∃ R' cap' w', (Builtin.append_ #[30, 3] ty #[.slice R zs.length cap, .int .i64 (m : Int)]).run Tryz.prog w = .ok (.slice R' (zs ++ List.replicate m 0).length cap') w' ∧ Own8 w' B 5 R' cap' (zs ++ List.replicate m 0) ∧ Below B w w' := by
  obtain ⟨i0, hi, hz0, hz1, hz2⟩ := info_parts Tryz.info8
  have hu : Tryz.prog.underlying 30 = some (.slice 5) := Tryz.underlying30
  have hui : Tryz.prog.underlying 3 = some (.int .i64) := Tryz.underlying3
  have hw := wrap64 m hm
  have hlen : (zs ++ List.replicate m (0 : UInt8)).length = zs.length + m := by simp
  have hneg : ¬ ((m : Int) < 0) := by omega
  have hbig : ¬ (281474976710656 < (m : Int) * (i0.bytes : Int)) := by rw [hz2]; omega
  have hm1 : m ≠ 0 := by omega
  have grown : ∀ old, old < zs.length + m →
      Own8 (w.drew.alloc (.cells ((zs.map B8).toArray ++ Builtin.zeroCells #[Value.int .u8 0] m ++ Builtin.zeroCells #[Value.int .u8 0] (grownCap w (zs.length + m) old 5 - (zs.length + m))) 5)) B 5 (some ⟨w.heap.size, 0, none⟩) (grownCap w (zs.length + m) old 5) (zs ++ List.replicate m 0) ∧
      Below B w (w.drew.alloc (.cells ((zs.map B8).toArray ++ Builtin.zeroCells #[Value.int .u8 0] m ++ Builtin.zeroCells #[Value.int .u8 0] (grownCap w (zs.length + m) old 5 - (zs.length + m))) 5)) := by
    intro old ho
    have hge := grownCap_ge w (zs.length + m) old 5
    have hcm : grownCap w (zs.length + m) old 5 ≤ maxLen := grownCap_le_maxLen w (zs.length + m) old 5 (by unfold maxLen; omega)
    refine ⟨?_, ⟨rfl, rfl, rfl, by simp, fun k hk => heap_alloc_old w.drew _ (show k < w.drew.heap.size from (by show k < w.heap.size; omega))⟩⟩
    unfold Own8
    rw [hlen]
    refine ⟨by simp, .inr ⟨w.heap.size, _, _, rfl, hB, heap_alloc_new w.drew _, hge, hcm, ?_, ?_⟩⟩
    · simp only [Array.size_append, List.size_toArray, size_zeroCells, List.length_map]
      simp
      omega
    · rw [zero_cells]
      simp only [Array.toList_append, List.append_assoc]
      rw [← List.append_assoc, ← List.map_append, show (zs.length + m) * 1 = ((zs ++ List.replicate m (0 : UInt8)).map B8).length from by simp]
      exact List.take_left
  rcases h.2 with ⟨e0, h0⟩ | ⟨g, cap', cur, e0, hb, hg, hnc, hcm, hcs, htk⟩
  · injection e0 with e1 e2 e3
    have hz : zs = [] := List.eq_nil_of_length_eq_zero e2
    subst e1 e3
    subst hz
    have h48 : ¬ (281474976710656 < Builtin.nextslicecap m 0 * i0.bytes) := by rw [nextslicecap_zero hm0, hz2]; omega
    have h63 : ¬ (9223372036854775807 < (m : Int)) := by omega
    have hgr := grown 0 (by simp; omega)
    rw [hlen]
    simp only [List.length_nil, Nat.zero_add] at hgr ⊢
    refine ⟨_, _, _, ?_, hgr.1, hgr.2⟩
    have hmx : max (m : Int) 0 = (m : Int) := by omega
    have hcl : (Value.int .u8 0).cells = #[Value.int .u8 0] := rfl
    simp [Builtin.append_, run_underlying hu, run_underlying hui, sizeOf, typeInfo, zeroValue, hi, hz0, hz1, asInt, asIntOf, hw, hneg, hm1, hbig, h63, h48, hmx, hcl, Question.forced, Builtin.firstCells, Go.newRow, grownCap]
  · injection e0 with e1 e2 e3
    subst e1 e3
    by_cases hroom : zs.length + m ≤ cap
    · have hst := run_storeCells_at Tryz.prog g zs.length 5 ((List.replicate m (0 : UInt8)).map B8) 0 cur w hg (by simp; omega) (by
        intro v hv
        simp only [List.mem_map] at hv
        obtain ⟨u, _, rfl⟩ := hv
        rfl)
      simp only [Nat.add_zero] at hst
      have hcl : (Value.int .u8 0).cells = #[Value.int .u8 0] := rfl
      rw [hlen]
      refine ⟨some ⟨g, 0, none⟩, cap, w.setRow g (cur.toList.take zs.length ++ (List.replicate m (0 : UInt8)).map B8 ++ cur.toList.drop (zs.length + ((List.replicate m (0 : UInt8)).map B8).length)).toArray, ?_, ?_, ⟨rfl, rfl, rfl, by simp, fun k hk => setRow_other w g k _ (by omega)⟩⟩
      · have hst2 := hst
        rw [List.map_replicate] at hst2
        simp at hst2
        simp [Builtin.append_, run_underlying hu, run_underlying hui, sizeOf, typeInfo, zeroValue, hi, hz0, hz1, asInt, asIntOf, hw, hneg, hm1, hbig, hcl, hroom, zero_cells, Addr.add_lit, hst2]
      · unfold Own8
        rw [hlen]
        refine ⟨by simp, .inr ⟨g, cap, _, rfl, hb, setRow_heap w g cur _ _ _ hg, hroom, hcm, ?_, ?_⟩⟩
        · simp
          omega
        · rw [Nat.mul_one] at htk
          rw [htk]
          simp only [Nat.mul_one, List.map_append]
          rw [show zs.length + m = (zs.map B8 ++ (List.replicate m (0 : UInt8)).map B8).length from by simp]
          exact List.take_left
    · have hgr := grown cap (by omega)
      have hold : (Builtin.firstCells 1 zs.length (.slice (some ⟨g, 0, none⟩) zs.length cap)).run Tryz.prog w.drew = .ok (zs.map B8).toArray w.drew :=
        run_firstCells_some w.drew 1 zs.length ⟨g, 0, none⟩ zs.length cap (zs.map B8) (by simp) (fun j v hj => World.ownsRow.cells h (g := g) rfl j v hj)
      have h63 : ¬ (9223372036854775807 < (zs.length : Int) + (m : Int)) := by omega
      have h48 : ¬ (281474976710656 < Builtin.nextslicecap (zs.length + m) cap * i0.bytes) := by have := growslice_fits (need := zs.length + m) (old := cap) (bytes := i0.bytes) (by omega) (by rw [hz2]; omega); omega
      have hcl : (Value.int .u8 0).cells = #[Value.int .u8 0] := rfl
      rw [hlen]
      refine ⟨_, _, _, ?_, hgr.1, hgr.2⟩
      simp [Builtin.append_, run_underlying hu, run_underlying hui, sizeOf, typeInfo, zeroValue, hi, hz0, hz1, asInt, asIntOf, hw, hneg, hm1, hbig, hcl, hroom, h63, h48, hold, Question.forced, Go.newRow, grownCap]
end Go.Proofs.YtacghpabjmnfiaaGreatDoor
namespace Go.Proofs.YtacghpabjmnfiaaGreatDoor
open Go.RowKit Go.Maps

/-- What a disk reads, sector by sector. -/
def allD (D : DSt) (k : Nat) : List UInt8 := (List.range k).flatMap D.now
theorem allD_succ (D : DSt) (k : Nat) : allD D (k + 1) = allD D k ++ D.now k := by unfold allD; rw [List.range_succ, List.flatMap_append]; simp
theorem allD_len {D : DSt} {n : Nat} (h : D.Ok n) : ∀ k, k ≤ n → (allD D k).length = 64 * k
  | 0, _ => rfl
  | k + 1, hk => by
    rw [allD_succ, List.length_append, allD_len h k (by omega), now_len h (by omega)]
    omega
theorem allD_sec {D : DSt} {n : Nat} (h : D.Ok n) (i : Nat) : ∀ k, i < k → k ≤ n → sec (allD D k) i = D.now i
  | 0, hi, _ => by omega
  | k + 1, hi, hk => by
    have hl := allD_len h k (by omega)
    rw [allD_succ]
    unfold sec
    by_cases e : i = k
    · subst e
      rw [List.drop_append_of_le_length (by omega), List.drop_of_length_le (by omega), List.nil_append, List.take_of_length_le (by rw [now_len h (by omega)]; exact Nat.le_refl _)]
    · rw [List.drop_append_of_le_length (by omega), List.take_append_of_le_length (by rw [List.length_drop]; omega)]
      exact allD_sec h i k (by omega) (by omega)
theorem ofAll {D : DSt} {n : Nat} (h : D.Ok n) : nBytes ((allD D n).take 128000).length = n ∧ (ofD ((allD D n).take 128000)).Ok n ∧ ∀ i, i < n → (ofD ((allD D n).take 128000)).now i = D.now i := by
  have hl := allD_len h n (Nat.le_refl _)
  have hn := h.n_le
  have e := ofD_full hl hn
  refine ⟨?_, ?_, fun i hi => ?_⟩
  · rw [List.take_of_length_le (by omega)]
    exact (padded_full hl).2
  · rw [e]
    exact ⟨hl, hn, fun q hq => (by cases hq), by simp [fresh], by simp [fresh]⟩
  · rw [e, now_quiet (fun q hq => by cases hq)]
    exact allD_sec h i n hi (Nat.le_refl _)

set_option maxRecDepth 100000 in
set_option maxHeartbeats 1500000 in
theorem same_any {w : World} {Fd : Nat → Prop} {dp : Nat} {D' : DSt} {n : Nat} (hd : Dk w Fd dp D') (hok : D'.Ok n) (hdn : D'.down = false) (T : Int)
    {F : Nat → Prop} {rp N : Nat} {sv wv : Value} {svs : List Value} {ws : List (Nat × Value)} {D : DSt} (hr : RDat w F rp N sv wv svs ws D) (hrd : D.down = false) (hQ : D.Q.length ≤ 1954687338212) (top : Int)
    (A : Option Addr) (l : List ChV) (c : Nat) (hl : CR w w.heap.size A l) (hll : l.length ≤ 4398046511104) (hg : ∀ a ∈ l, a.good)
    {lv' pg' : List Int} {l' : List Nat} (hnew : readT D' n T = some (lv', pg', l')) {lv pg : List Int} {l0 : List Nat} (hold : readT D N top = some (lv, pg, l0)) (hmem : memTo D' pg' 128 = chgL (memTo D pg 128) (mergedOf (latestF l))) :
    Calls Tryz.prog 33 #[.pointer (some ⟨dp, 0, none⟩), .int .i64 T, .pointer (some ⟨rp, 0, none⟩), .int .i64 top, .slice A l.length c] w fun e w' => e = .returned (.bool true) ∧ Below w.heap.size w w' := by
  have hr0 := hr
  have hl0 := hl
  have hmk : (Instr.makeSlice 30 (.int .i64 0) (.int .i64 0)).run Tryz.prog w = .ok (.slice (some ⟨w.heap.size, 0, none⟩) 0 0) (w.alloc (.cells #[] 5)) := by kernel_rfl
  have own0 : Own8 (w.alloc (.cells #[] 5)) w.heap.size 5 (some ⟨w.heap.size, 0, none⟩) 0 [] := World.ownsRow_lit w #[] 0 (Nat.le_refl _) (by unfold maxLen; omega) rfl
  have b0 : Below w.heap.size w (w.alloc (.cells #[] 5)) := (Below.refl _ _).alloc (Nat.le_refl _) _
  have hn2 := hok.n_le
  obtain ⟨a1, a2, a3⟩ := ofAll hok
  have hL := allD_len hok n (Nat.le_refl _)
  have hdl : (ofD ((allD D' n).take 128000)).down = false := rfl
  have hQl : (ofD ((allD D' n).take 128000)).Q = [] := rfl
  have hnow : ∀ k ∈ l', (ofD ((allD D' n).take 128000)).now k = D'.now k := fun k hk => a3 k (readT_rng hnew k hk).2
  have hnew2 := readT_same hnew hnow
  have hmem2 := memTo_same hok a2 hdn hdl (readT_in hnew).2.1 hnow 128 (by rw [(readT_pages hnew).l128]; exact Nat.le_refl _)
  rw [hmem] at hmem2
  have hP : ∀ k x, latestF l k = some x → x.length = 64 := fun k x hx => latestF_len hg hx
  have hzl := (chgL_get (latestF l) hP (memTo D pg 128) (memTo_len hr.ok pg 128 (Nat.le_refl _)) (keysF (latestF l)) (fun k hk => keysF_mem.1 hk)).1
  have HNEW := Lib.hid hnew2
  have HMEM := Lib.hid hmem2
  have HZL : Hid ((chgL (memTo D pg 128) (mergedOf (latestF l))).length = 8192) := hzl
  have HML := Lib.hid (memTo_len hr.ok pg 128 (Nat.le_refl _))
  have HOLD := Lib.hid hold
  have HG := Lib.hid hg
  have HL := Lib.hid hL
  have A1 := Lib.hid a1
  have A2 := Lib.hid a2
  have HLEN := Lib.hid (fun k (hk : k ≤ n) => allD_len hok k hk)
  have HOWN := Lib.hid own0
  have HMK := Lib.hid hmk
  clear hnew2 hmem2 hzl hold hg hL a1 a2 a3 hnow hP hnew hmem own0 hmk
  go_enter Tryz.func33, Tryz.ntmps33
  go_wp2_with ((with_reducible refine here (op := .makeSlice 30 (.const (.int .i64 0)) (.const (.int .i64 0))) ?_); refine wpList_make_run rfl 30 _ _ rfl _ _ _ rfl rfl HMK.out ?_)
  clear HMK
  generalize w.alloc (.cells #[] 5) = w1 at *
  go_loopw [12, 11, 13, 14] (fun i s _ _ wr => ∃ (k : Nat) (R : Option Addr) (cap : Nat), k ≤ n ∧ i = .int .i64 k ∧ s = .slice R (allD D' k).length cap ∧ Own8 wr w.heap.size 5 R cap (allD D' k) ∧ Below w.heap.size w wr) (fun i _ _ _ _ => n - (Go.RowKit.intOf i).toNat)
  case atStart => exact ⟨0, _, _, Nat.zero_le _, rfl, rfl, HOWN.out, b0⟩
  case round =>
    clear HOWN b0
    obtain ⟨k, R, cap, hk, rfl, rfl, own, bw⟩ := hrel
    have hdr := hd.keep (keeps_below bw) (fun _ _ _ h => h)
    have HLK := Lib.hid (HLEN.out k hk)
    by_cases hlt : k < n
    · have HLS := Lib.hid (allD_succ D' k)
      have HL1 := Lib.hid (HLEN.out (k + 1) (by omega))
      generalize allD D' k = zs at *
      go_wp2_with fail
      refine (hdr.lenN hok).mono ?_
      rintro e w2 ⟨rfl, rfl⟩
      go_wp2_with fail
      refine (hdr.read hok hdn k hlt _ rfl).mono ?_
      rintro e w3 ⟨R1, c1, rfl, br3, _, k3⟩
      have own3 := own.keeps k3 (fun _ _ h => h)
      have bw3 := bw.trans (k3.toBelow w.heap.size bw.size (fun _ h => h.elim))
      obtain ⟨R2, c2, w4, hap, own4, b4⟩ := own3.appB bw3.size (by rw [HLK.out]; omega) R1 c1 _ br3 (now_len hok hlt)
      rw [← HLS.out] at own4
      rw [show zs.length + 64 = (allD D' (k + 1)).length from by rw [HL1.out, HLK.out]; omega] at hap
      have hAP := Lib.hid hap
      have OW4 := Lib.hid own4
      clear hap own own3 own4 br3 hdr
      go_wp2_with (at_builtin; refine wpList_append_run rfl _ _ 30 rfl _ hAP.out ?_)
      go_roundw
      case rel => exact ⟨k + 1, _, _, by omega, by go_num, rfl, OW4.out, bw3.trans b4⟩
      case measure => simp [Go.RowKit.intOf]; omega
    · obtain rfl : k = n := by omega
      have br := own.br
      have hcp := own.cap_le
      have hl1 : (allD D' k).length ≤ 140737488355328 := by rw [HL.out]; omega
      have hlc := hl.below bw
      have hr1 := hr.keep (keeps_below bw) (fun _ _ _ h => h)
      clear own hl hr
      generalize hLL : allD D' k = LL at *
      go_wp2_with fail
      refine (hdr.lenN hok).mono ?_
      rintro e w2 ⟨rfl, rfl⟩
      go_wp2_with fail
      refine (refOf_long R LL cap _ br hl1 hcp).mono ?_
      rintro e w4 ⟨q, v, G, rfl, hn4⟩
      have hr4 := hn4.rd (ofD_ok (LL.take 128000) (by simp; omega)) rfl rfl rfl rfl fun i hi => by
        show fillR (LL.take 128000) (nBytes (LL.take 128000).length) i = sec (padded (LL.take 128000)) i
        unfold fillR
        rw [if_pos hi]
      have bw4 := bw.trans (hn4.kp.toBelow w.heap.size bw.size (fun _ h => h.elim))
      clear hn4 br bw hdr hr1
      obtain ⟨n2, sv2, wv2, svs2, ws2, hr4⟩ := hr4
      obtain rfl : n2 = k := by have h1 := hr4.ok.len; have h2 := A2.out.len; omega
      have hld := tload_at hr4 hdl (by rw [hQl]; exact Nat.zero_le _) T
      rw [HNEW.out] at hld
      clear hr4
      have hr4' := hr0.keep (keeps_below bw4) (fun _ _ _ h => h)
      go_wp2_with fail
      refine hld.mono ?_
      rintro e w5 ⟨b5, ⟨lv2, pg2, l2, g5, he, rfl, row5⟩ | ⟨he, _⟩⟩
      · injection he with he
        injection he with e1 he
        injection he with e2 e3
        subst e1 e2 e3
        have bw5 := bw4.trans (b5.mono bw4.size)
        have hr5 := hr0.keep (keeps_below bw5) (fun _ _ _ h => h)
        have hlo := tload_at hr5 hrd hQ top
        rw [HOLD.out] at hlo
        have row5' : Row8 w5 g5 5 (chgL (memTo D pg 128) (mergedOf (latestF l))) := by rw [← HMEM.out]; exact row5
        have br5 := row5'.br
        clear hr4' hld b5 row5 hr5 row5' bw4
        go_wp2_with fail
        refine hlo.mono ?_
        rintro e w6 ⟨b6, ⟨lv2, pg2, l2, g6, he, rfl, row6⟩ | ⟨he, _⟩⟩
        · injection he with he
          injection he with e1 he
          injection he with e2 e3
          subst e1 e2 e3
          have bw6 := bw5.trans (b6.mono bw5.size)
          have br5' := (br5.below b6).more b6.size
          have br6 := row6.br
          have hl6 : CR w6 w6.heap.size A l := (hl0.below bw6).more bw6.size
          clear hlo br5 row6 b6 bw5
          go_wp2_with fail
          refine (refMerge_any A l c _ hl6 hll).mono ?_
          rintro e w7 ⟨b7, ⟨_, R7, c7, LM, rfl, cr7, hLM⟩ | ⟨hbad, _⟩⟩
          · have HLM := Lib.hid hLM
            have hL128 : LM.length ≤ 128 := by
              have h1 := congrArg List.length hLM
              have h2 := keysF_len (latestF l)
              simp only [List.length_map, mergedOf, mergedK] at h1
              omega
            have hgl : ∀ a ∈ LM, a.good := fun a ha => by
              have h1 : prC a ∈ mergedOf (latestF l) := by rw [← HLM.out]; exact List.mem_map.2 ⟨a, ha, rfl⟩
              simp only [mergedOf, mergedK, List.mem_map] at h1
              obtain ⟨k, hk, e⟩ := h1
              have hk' := keysF_mem.1 hk
              unfold prC at e
              injection e with e1 e2
              obtain ⟨x, hx⟩ := Option.isSome_iff_exists.1 hk'.2
              refine ⟨by omega, by omega, ?_⟩
              rw [← e2, hx]
              exact latestF_len HG.out hx
            have kd7 : Keeps (fun _ => False) w7 w7.drew := Keeps.drew _ _
            have br57 := (br5'.below b7).more b7.size
            have br67 := (br6.below b7).more b7.size
            have hch := changed_any (some ⟨g6, 0, none⟩) (memTo D pg 128) 8192 w7.drew (kd7.br br67 fun _ _ _ h => h) HML.out R7 LM c7 (cr7.keep fun _ _ => rfl) hgl (by omega)
            rw [hLM] at hch
            have HCH := Lib.hid hch
            have HFIN := Lib.hid (bw6.trans (b7.mono bw6.size))
            have HS : (fun W : World => BR W w7.heap.size (some ⟨g5, 0, none⟩) (chgL (memTo D pg 128) (mergedOf (latestF l)))) w7.drew := kd7.br br57 fun _ _ _ h => h
            clear hch hgl hLM cr7 br57 br67 br5' br6 hl6 HMEM
            generalize chgL (memTo D pg 128) (mergedOf (latestF l)) = Z at *
            have cv : ∀ W, BR W w7.heap.size (some ⟨g5, 0, none⟩) Z → (convert 30 9 (.slice (some ⟨g5, 0, none⟩) 8192 8192)).run Tryz.prog W = .ok (.string ⟨Z.toArray⟩) W := fun W h => by
              have := run_str (P := Tryz.prog) W _ 30 9 5 _ Z 8192 h Tryz.underlying30 Tryz.underlying5 Tryz.underlying9
              rw [HZL.out] at this
              exact this
            have CV := Lib.hid cv
            clear cv
            go_wp2_with fail
            refine wp_region_held (S := fun W : World => BR W w7.heap.size (some ⟨g5, 0, none⟩) Z) (by kernel_rfl) ?_
            change wpAnyH _ _ _ _ _ _ _ _ w7.drew
            refine wpAnyH_take (oi := ⟨_, _, _, _, _, _⟩) (i := 0) (v := .int .i64 0) rfl (by kernel_rfl) (by kernel_rfl) (by kernel_rfl) (fun _ _ _ h => h) (Or.inl ⟨by rfl, fun _ _ => rfl⟩) HS ?_
            simp only [Act.put, List.setIfInBounds_toArray, List.set_cons_zero, List.set_cons_succ]
            refine wpAnyH_take (oi := ⟨_, _, _, _, _, _⟩) (i := 1) (v := .bool true) rfl (by kernel_rfl) (by kernel_rfl) (by kernel_rfl) (fun _ _ _ h => h) (Or.inl ⟨by rfl, fun _ _ => by go_simp⟩) HS ?_
            simp only [Act.put, List.setIfInBounds_toArray, List.set_cons_zero, List.set_cons_succ]
            refine wpAnyH_take (oi := ⟨_, _, _, _, _, _⟩) (i := 2) (v := .bool true) rfl (by kernel_rfl) (by kernel_rfl) (by kernel_rfl) (fun _ _ _ h => h) (Or.inl ⟨by rfl, fun _ _ => rfl⟩) HS ?_
            simp only [Act.put, List.setIfInBounds_toArray, List.set_cons_zero, List.set_cons_succ]
            refine wpAnyH_take (oi := ⟨_, _, _, _, _, _⟩) (i := 3) (v := .int .i64 0) rfl (by kernel_rfl) (by kernel_rfl) (by kernel_rfl) (fun _ _ _ h => h) (Or.inl ⟨by rfl, fun _ _ => rfl⟩) HS ?_
            simp only [Act.put, List.setIfInBounds_toArray, List.set_cons_zero, List.set_cons_succ]
            refine wpAnyH_take (oi := ⟨_, _, _, _, _, _⟩) (i := 4) (v := .bool true) rfl (by kernel_rfl) (by kernel_rfl) (by kernel_rfl) (fun _ _ _ h => h) (Or.inl ⟨by rfl, fun _ _ => by go_simp⟩) HS ?_
            simp only [Act.put, List.setIfInBounds_toArray, List.set_cons_zero, List.set_cons_succ]
            refine wpAnyH_take (oi := ⟨_, _, _, _, _, _⟩) (i := 5) (v := .bool true) rfl (by kernel_rfl) (by kernel_rfl) (by kernel_rfl) (fun _ _ _ h => h) (Or.inl ⟨by rfl, fun _ _ => by go_simp⟩) HS ?_
            simp only [Act.put, List.setIfInBounds_toArray, List.set_cons_zero, List.set_cons_succ]
            refine wpAnyH_take (oi := ⟨_, _, _, _, _, _⟩) (i := 6) (v := .bool true) rfl (by kernel_rfl) (by kernel_rfl) (by kernel_rfl) (fun _ _ _ h => h) (Or.inl ⟨by rfl, fun _ _ => rfl⟩) HS ?_
            simp only [Act.put, List.setIfInBounds_toArray, List.set_cons_zero, List.set_cons_succ]
            refine wpAnyH_take (oi := ⟨_, _, _, _, _, _⟩) (i := 7) (v := .slice (some ⟨g5, 0, none⟩) 8192 8192) rfl (by kernel_rfl) (by kernel_rfl) (by kernel_rfl) (fun _ _ _ h => h) (Or.inl ⟨by rfl, fun _ _ => rfl⟩) HS ?_
            simp only [Act.put, List.setIfInBounds_toArray, List.set_cons_zero, List.set_cons_succ]
            refine wpAnyH_take (oi := ⟨_, _, _, _, _, _⟩) (i := 8) (v := .string ⟨Z.toArray⟩) rfl (by kernel_rfl) (by kernel_rfl) (by kernel_rfl) (fun _ _ _ h => h) (Or.inl ⟨by rfl, fun _ h => ex_convert 30 9 (.tmp 62) rfl _ _ rfl (CV.out _ h)⟩) HS ?_
            simp only [Act.put, List.setIfInBounds_toArray, List.set_cons_zero, List.set_cons_succ]
            refine wpAnyH_take (oi := ⟨_, _, _, _, _, _⟩) (i := 9) (v := .slice (some ⟨g6, 0, none⟩) 8192 8192) rfl (by kernel_rfl) (by kernel_rfl) (by kernel_rfl) (fun _ _ _ h => h) (Or.inl ⟨by rfl, fun _ _ => rfl⟩) HS ?_
            simp only [Act.put, List.setIfInBounds_toArray, List.set_cons_zero, List.set_cons_succ]
            refine wpAnyH_take (oi := ⟨_, _, _, _, _, _⟩) (i := 10) (v := .slice R7 LM.length c7) rfl (by kernel_rfl) (by kernel_rfl) (by kernel_rfl) (fun _ _ _ h => h) (Or.inl ⟨by rfl, fun _ _ => rfl⟩) HS ?_
            simp only [Act.put, List.setIfInBounds_toArray, List.set_cons_zero, List.set_cons_succ]
            refine wpAnyH_all (rs := [11]) (by kernel_rfl) (by simp) fun i hi => ?_
            obtain rfl : i = 11 := by simpa using hi
            refine op_call (om := ⟨_, _, _, _, _, _⟩) (fn := 92) (args := #[.slice (some ⟨g6, 0, none⟩) 8192 8192, .slice R7 LM.length c7]) (R := fun u w' => ∃ R c', u = .slice R 8192 c' ∧ BR w' w'.heap.size R Z ∧ Below w7.drew.heap.size w7.drew w') rfl rfl (by go_simp)
                (HCH.out.mono fun e w' ⟨R, c', he, h1, h2⟩ => ⟨_, he, R, c', rfl, h1, h2⟩) _ _ rfl rfl ?_
            rintro u w8 ⟨R8, c8, rfl, br8, b8⟩
            have HS8 : (fun W : World => BR W w7.heap.size (some ⟨g5, 0, none⟩) Z) w8 := HS.below b8
            refine ⟨HS8, ?_⟩
            clear hi HCH HS
            simp only [Act.put, List.setIfInBounds_toArray, List.set_cons_zero, List.set_cons_succ]
            have cv8 := run_str (P := Tryz.prog) w8 _ 30 9 5 _ Z c8 br8 Tryz.underlying30 Tryz.underlying5 Tryz.underlying9
            rw [HZL.out] at cv8
            refine wpAnyH_all (rs := [12]) (by kernel_rfl) (by simp) fun i hi => ?_
            obtain rfl : i = 12 := by simpa using hi
            refine op_run (om := ⟨_, _, _, _, _, _⟩) (u := .string ⟨Z.toArray⟩) (w' := w8) rfl rfl (ex_convert 30 9 (.tmp 66) rfl _ _ rfl cv8) _ _ rfl rfl ?_
            rintro u w9 ⟨rfl, rfl⟩
            refine ⟨HS8, ?_⟩
            clear hi cv8
            simp only [Act.put, List.setIfInBounds_toArray, List.set_cons_zero, List.set_cons_succ]
            refine wpAnyH_take (oi := ⟨_, _, _, _, _, _⟩) (i := 13) (v := .bool true) rfl (by kernel_rfl) (by kernel_rfl) (by kernel_rfl) (fun _ _ _ h => h) (Or.inl ⟨by rfl, fun _ _ => by go_simp⟩) HS8 ?_
            simp only [Act.put, List.setIfInBounds_toArray, List.set_cons_zero, List.set_cons_succ]
            refine wpAnyH_take (oi := ⟨_, _, _, _, _, _⟩) (i := 14) (v := .bool true) rfl (by kernel_rfl) (by kernel_rfl) (by kernel_rfl) (fun _ _ _ h => h) (Or.inl ⟨by rfl, fun _ _ => by go_simp⟩) HS8 ?_
            simp only [Act.put, List.setIfInBounds_toArray, List.set_cons_zero, List.set_cons_succ]
            refine wpAnyH_take (oi := ⟨_, _, _, _, _, _⟩) (i := 15) (v := .bool true) rfl (by kernel_rfl) (by kernel_rfl) (by kernel_rfl) (fun _ _ _ h => h) (Or.inl ⟨by rfl, fun _ _ => rfl⟩) HS8 ?_
            simp only [Act.put, List.setIfInBounds_toArray, List.set_cons_zero, List.set_cons_succ]
            refine wpAnyH_done (by kernel_rfl) ?_ _
            go_wp2_with fail
            go_ret
            exact ⟨rfl, (HFIN.out.trans (kd7.toBelow w.heap.size HFIN.out.size (fun _ h => h.elim))).trans (b8.mono HFIN.out.size)⟩
          · exact absurd HG.out hbad
        · cases he
      · cases he
end Go.Proofs.YtacghpabjmnfiaaGreatDoor
namespace Go.Proofs.YtacghpabjmnfiaaGreatDoor
open Go.RowKit Go.Maps

theorem zr_more {w : World} {B B' : Nat} {A : Option Addr} {zs : List Int} (h : ZR w B A zs) (hB : B ≤ B') : ZR w B' A zs := fun hn => by
  obtain ⟨ad, e, hb, hc⟩ := h hn
  exact ⟨ad, e, by omega, hc⟩
/-! ### more sectors -/
theorem addS_more {N N' : Nat} (hN : N ≤ N') {l l' : List Nat} {x : Int} (h : addS N l x = some l') : addS N' l x = some l' := by
  have h0 := h
  unfold addS at h
  split at h
  · rename_i hc
    injection h with h
    unfold addS
    rw [if_pos ⟨hc.1, by omega, hc.2.2⟩, h]
  · cases h
theorem goPg_more {N N' : Nat} (hN : N ≤ N') (i : Nat) : ∀ (xs : List Int) (k : Nat) (s q : List Int × List Nat), goPg N i xs k s = some q → goPg N' i xs k s = some q
  | [], _, s, q, h => h
  | x :: xs, k, s, q, h => by
    unfold goPg at h ⊢
    split at h
    · rename_i hx
      rw [if_pos hx]
      exact goPg_more hN i xs _ s q h
    · rename_i hx
      rw [Option.bind_eq_some_iff] at h
      obtain ⟨l, ha, h⟩ := h
      rw [if_neg hx, addS_more hN ha, Option.bind_some]
      exact goPg_more hN i xs _ _ q h
theorem goLf_more {N N' : Nat} (hN : N ≤ N') (nd : Nat → List Int) : ∀ (xs : List Int) (i : Nat) (s q : List Int × List Int × List Nat), goLf N nd xs i s = some q → goLf N' nd xs i s = some q
  | [], _, s, q, h => h
  | x :: xs, i, s, q, h => by
    unfold goLf at h ⊢
    split at h
    · rename_i hx
      rw [if_pos hx]
      exact goLf_more hN nd xs _ s q h
    · rename_i hx
      split at h
      · cases h
      · rename_i h4
        rw [Option.bind_eq_some_iff] at h
        obtain ⟨l, ha, h⟩ := h
        rw [Option.bind_eq_some_iff] at h
        obtain ⟨r, hr, h⟩ := h
        rw [if_neg hx, if_neg h4, addS_more hN ha, Option.bind_some, goPg_more hN i _ _ _ r hr, Option.bind_some]
        exact goLf_more hN nd xs _ _ q h
theorem readT_more {D : DSt} {N N' : Nat} (hN : N ≤ N') {top : Int} {X : List Int × List Int × List Nat} (h : readT D N top = some X) : readT D N' top = some X := by
  unfold readT at h ⊢
  split at h
  · rename_i h0
    rw [if_pos h0]
    exact h
  · rename_i h0
    rw [if_neg h0]
    rw [Option.bind_eq_some_iff] at h
    obtain ⟨l1, ha, h⟩ := h
    rw [addS_more hN ha, Option.bind_some]
    exact goLf_more hN _ _ _ _ _ h

theorem memTo_more {D D' : DSt} {n m : Nat} (hD : D.Ok n) (hD' : D'.Ok m) (hnm : n ≤ m) (h0 : D.down = false) (h0' : D'.down = false) {pg : List Int} {l : List Nat} (hp : ∀ x ∈ pg, EntIn n l x) (e : ∀ k ∈ l, D'.now k = D.now k) : ∀ k, k ≤ pg.length → memTo D' pg k = memTo D pg k
  | 0, _ => rfl
  | k + 1, hk => by
    have ih := memTo_more hD hD' hnm h0 h0' hp e k (by omega)
    have ex : pg.getD k 0 = pg[k] := by simp [List.getD, show k < pg.length by omega]
    have hx := hp _ (List.getElem_mem (show k < pg.length by omega))
    rw [← ex] at hx
    unfold memTo
    rw [ih]
    split
    · rename_i hpos
      rcases hx with hz | ⟨x1, x2, x3⟩
      · omega
      · have n1 := hD.n_eq
        have n2 := hD'.n_eq
        have r1 : D.readAt (pg.getD k 0) = D.now (pg.getD k 0).toNat := by
          unfold DSt.readAt
          rw [if_neg (by rw [h0]; exact Bool.false_ne_true), if_pos ⟨by omega, by omega⟩]
        have r2 : D'.readAt (pg.getD k 0) = D'.now (pg.getD k 0).toNat := by
          unfold DSt.readAt
          rw [if_neg (by rw [h0']; exact Bool.false_ne_true), if_pos ⟨by omega, by omega⟩]
        have e1 : D'.readAt (pg.getD k 0) = D.readAt (pg.getD k 0) := by rw [r1, r2]; exact e _ x3
        rw [e1]
    · rfl
/-! ### a disk made longer -/
theorem nBytes_more (n : Nat) : nBytes (n + 9600) = nBytes n + 150 := by unfold nBytes; omega
theorem sec_app {L M : List UInt8} {k : Nat} (h : k * 64 + 64 ≤ L.length) : sec (L ++ M) k = sec L k := by
  unfold sec
  rw [List.drop_append_of_le_length (by omega), List.take_append_of_le_length (by rw [List.length_drop]; omega)]
theorem padded_more (x : List UInt8) : padded (x ++ List.replicate 9600 0) = padded x ++ List.replicate 9600 0 := by
  unfold padded
  rw [List.length_append, List.length_replicate, nBytes_more, List.append_assoc, List.append_assoc, List.replicate_append_replicate, List.replicate_append_replicate]
  have : x.length ≤ nBytes x.length * 64 := by unfold nBytes; omega
  rw [show 9600 + ((nBytes x.length + 150) * 64 - (x.length + 9600)) = nBytes x.length * 64 - x.length + 9600 from by omega]
theorem more_now (x : List UInt8) {k : Nat} (hk : k < nBytes x.length) : (ofD (x ++ List.replicate 9600 0)).now k = (ofD x).now k := by
  rw [now_quiet (fun q hq => by cases hq), now_quiet (fun q hq => by cases hq)]
  show sec (padded (x ++ List.replicate 9600 0)) k = sec (padded x) k
  rw [padded_more]
  exact sec_app (by rw [padded_len]; omega)

/-! ### what is free -/
theorem holdC_other (cs : List Nat) (z : Int) (k : Nat) (h : z ≠ (k : Int)) : (Sp.holdC cs z).getD k 0 = cs.getD k 0 := by
  unfold Sp.holdC
  split
  · rename_i hb
    simp only [Sp.hasB, Bool.and_eq_true, decide_eq_true_eq] at hb
    rw [List.getD_eq_getElem?_getD, List.getElem?_set_ne (by omega), ← List.getD_eq_getElem?_getD]
  · rfl
theorem heldC_out (N : Nat) (zs : List Int) (k : Nat) (h : ∀ z ∈ zs, z ≠ (k : Int)) : (heldC N zs).getD k 0 = 0 := by
  unfold heldC
  suffices hs : ∀ (zs : List Int) (cs : List Nat), (∀ z ∈ zs, z ≠ (k : Int)) → cs.getD k 0 = 0 → (zs.foldl Sp.holdC cs).getD k 0 = 0 by
    refine hs zs _ h ?_
    rw [List.getD_eq_getElem?_getD, List.getElem?_replicate]
    split <;> rfl
  intro zs
  induction zs with
  | nil => intro cs _ h0; exact h0
  | cons z zs ih =>
    intro cs hz h0
    rw [List.foldl_cons]
    exact ih _ (fun y hy => hz y (List.mem_cons_of_mem _ hy)) (by rw [holdC_other _ _ _ (hz z (by simp))]; exact h0)
theorem cnt_from {f : Nat → Bool} {m : Nat} : ∀ j, (∀ i, m ≤ i → i < m + j → f i = true) → j ≤ Sp.cnt f (m + j)
  | 0, _ => Nat.zero_le _
  | j + 1, h => by
    have ih := cnt_from (f := f) (m := m) j (fun i h1 h2 => h i h1 (by omega))
    have h1 := Sp.cnt_succ f (m + j)
    rw [h (m + j) (by omega) (by omega), if_pos rfl] at h1
    rw [show m + (j + 1) = m + j + 1 from by omega, h1]
    omega
theorem free_more {N : Nat} {l : List Nat} (h : ∀ k ∈ l, 2 ≤ k ∧ k < N) : 148 ≤ Sp.nfree (heldC (N + 150) (l.map fun (k : Nat) => (k : Int))) := by
  unfold Sp.nfree
  rw [heldC_len]
  have := cnt_from (f := Sp.fr (heldC (N + 150) (l.map fun (k : Nat) => (k : Int)))) (m := N + 2) 148 (fun i h1 h2 => by
    rw [Sp.fr_iff, heldC_len]
    refine ⟨by omega, by omega, heldC_out _ _ _ fun z hz => ?_⟩
    obtain ⟨k, hk, rfl⟩ := List.mem_map.1 hz
    have := (h k hk).2
    omega)
  rw [show N + 2 + 148 = N + 150 from by omega] at this
  exact this

/-! ### what a change of few pages needs -/
theorem keys_upd {V : Type} (f : Nat → Option V) (n : Nat) (x : V) : (keysF (updF f n x)).length ≤ (keysF f).length + 1 := by
  unfold keysF
  suffices h : ∀ N, ((List.range N).filter fun i => (updF f n x i).isSome).length ≤ ((List.range N).filter fun i => (f i).isSome).length + (if n < N then 1 else 0) by
    have := h 128
    split at this <;> omega
  intro N
  induction N with
  | zero => simp
  | succ N ih =>
    rw [List.range_succ, List.filter_append, List.filter_append, List.length_append, List.length_append]
    by_cases e : N = n
    · subst e
      rw [if_neg (by omega)] at ih
      rw [if_pos (by omega)]
      have : (List.filter (fun i => (updF f N x i).isSome) [N]).length ≤ 1 := List.length_filter_le _ _
      omega
    · have hu : updF f n x N = f N := if_neg e
      have : (List.filter (fun i => (updF f n x i).isSome) [N]) = List.filter (fun i => (f i).isSome) [N] := by simp [List.filter_cons, hu]
      rw [this]
      split at ih <;> split <;> omega
theorem keys_few (l : List ChV) : ∀ k, k ≤ l.length → (keysF (lastK l k)).length ≤ k
  | 0, _ => by simp [keysF, lastK]
  | k + 1, hk => by
    rw [lastK_succ l k (by omega)]
    exact Nat.le_trans (keys_upd _ _ _) (by have := keys_few l k (by omega); omega)
theorem needs_few (D : DSt) (t : Nat) (l : List ChV) : needs D t l ≤ l.length + 5 := by
  have h1 : (keysF (latestF l)).length ≤ l.length := keys_few l l.length (Nat.le_refl _)
  have h2 : c1 (latestF l) ≤ (keysF (latestF l)).length := cntB_le _ _ _
  have h3 := n3_le (nodeD D t) (leafG D (nodeD D t) (keysF (latestF l))) (latestF l)
  have h4 : n2 (leafG D (nodeD D t) (keysF (latestF l))) (latestF l) ≤ 4 := by
    refine Nat.le_trans (List.length_filter_le _ _) (nodup_le 4 _ (keysF_nodup _) fun k hk => ?_)
    obtain ⟨_, hs⟩ := keysF_mem.1 hk
    obtain ⟨zs, hz⟩ := Option.isSome_iff_exists.1 hs
    obtain ⟨_, a, ha, rfl⟩ := leafG_some D _ _ hz
    have := (keysF_mem.1 ha).1
    omega
  unfold needs
  split <;> omega

/-! ### changes that change nothing -/
theorem lastK_in (l : List ChV) : ∀ k, k ≤ l.length → ∀ a xs, lastK l k a = some xs → ∃ c ∈ l, c.page.toNat = a ∧ c.xs = xs
  | 0, _, a, xs, h => by cases h
  | k + 1, hk, a, xs, h => by
    rw [lastK_succ l k (by omega)] at h
    unfold updF at h
    split at h
    · rename_i e
      injection h with h
      exact ⟨l[k], List.getElem_mem _, e.symm, h⟩
    · exact lastK_in l k (by omega) a xs h
theorem chg_same (M : List UInt8) (hM : M.length = 8192) (l : List ChV) (hg : ∀ a ∈ l, a.good) (hs : ∀ a ∈ l, ∀ j, j < 64 → a.xs.getD j 0 = M.getD (64 * a.page.toNat + j) 0) : chgL M (mergedOf (latestF l)) = M := by
  obtain ⟨c1, c2⟩ := chgL_get (latestF l) (fun k x hx => latestF_len hg hx) M hM (keysF (latestF l)) (fun k hk => keysF_mem.1 hk)
  refine mem_ext c1 hM fun a j ha hj => ?_
  have e := c2 a j ha hj
  unfold mergedOf
  rw [e]
  split
  · rename_i hk
    obtain ⟨_, hsm⟩ := keysF_mem.1 hk
    obtain ⟨xs, hx⟩ := Option.isSome_iff_exists.1 hsm
    obtain ⟨c, hc, h1, h2⟩ := lastK_in l l.length (Nat.le_refl _) a xs hx
    have h3 := hs c hc j hj
    rw [h1, h2] at h3
    rw [hx, Option.getD_some, h3, get_some 0 (show 64 * a + j < M.length by omega)]
  · rfl
end Go.Proofs.YtacghpabjmnfiaaGreatDoor
