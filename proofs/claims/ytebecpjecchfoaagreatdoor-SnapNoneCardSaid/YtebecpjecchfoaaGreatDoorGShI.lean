/-
  Merged by wip/tools/merge.py: ShIn ShLatest
-/
import Derived.Test.YtebecpjecchfoaaGreatDoorGA
import Derived.Test.YtebecpjecchfoaaGreatDoorMapF
import Derived.ChangeArms
import Derived.Deep.Slices
import Derived.Test.YtebecpjecchfoaaGreatDoorGDk
import Derived.Test.YtebecpjecchfoaaGreatDoorGNd
import Derived.Laws.Cover3
namespace Go.Proofs.YtebecpjecchfoaaGreatDoor
open Go.ChangeShapes Go.WideShapes Go.ChangeAt Go.RowKit

/-- A change: its page, its bytes. -/
structure ChV where
  page : Int
  A : Option Addr
  xs : List UInt8
  c : Nat
def ccells (a : ChV) : List Value := [.int .i64 a.page, .slice a.A a.xs.length a.c]
structure ChV.Ok (W : World) (B : Nat) (a : ChV) : Prop where
  br : BR W B a.A a.xs
  n0 : -9223372036854775808 ≤ a.page
  n1 : a.page ≤ 9223372036854775807
  lc : a.xs.length ≤ a.c
theorem ChV.Ok.below {W W' : World} {B : Nat} {a : ChV} (h : a.Ok W B) (hb : Below B W W') : a.Ok W' B := ⟨h.br.below hb, h.n0, h.n1, h.lc⟩
theorem ChV.Ok.keep {W W' : World} {B : Nat} {a : ChV} (h : a.Ok W B) (hk : ∀ p : Addr, p.block < B → W'.cell? p = W.cell? p) : a.Ok W' B := ⟨h.br.keep hk, h.n0, h.n1, h.lc⟩

/-- The changes lie at 'A' (asked only where there are any), below block B. -/
structure CR (w : World) (B : Nat) (A : Option Addr) (l : List ChV) : Prop where
  ar : l ≠ [] → ∃ ad, A = some ad ∧ ad.block < B ∧ ∀ k a, l[k]? = some a → ∀ j v, (ccells a)[j]? = some v → w.cell? ((ad.add (k * 2)).add j) = some v
  ok : ∀ a ∈ l, a.Ok w B
theorem CR.keep {w w' : World} {B : Nat} {A : Option Addr} {l : List ChV} (h : CR w B A l) (hk : ∀ p : Addr, p.block < B → w'.cell? p = w.cell? p) : CR w' B A l := by
  refine ⟨fun hn => ?_, fun a ha => (h.ok a ha).keep hk⟩
  obtain ⟨ad, e, hlt, hc⟩ := h.ar hn
  exact ⟨ad, e, hlt, fun k a ha j v hv => (hk _ (by rw [block_add, block_add]; exact hlt)).trans (hc k a ha j v hv)⟩
theorem CR.below {w w' : World} {B : Nat} {A : Option Addr} {l : List ChV} (h : CR w B A l) (hb : Below B w w') : CR w' B A l := h.keep fun _ hp => hb.cell hp
theorem CR.more {w : World} {B B' : Nat} {A : Option Addr} {l : List ChV} (h : CR w B A l) (hB : B ≤ B') : CR w B' A l := by
  refine ⟨fun hn => ?_, fun a ha => ⟨(h.ok a ha).br.more hB, (h.ok a ha).n0, (h.ok a ha).n1, (h.ok a ha).lc⟩⟩
  obtain ⟨ad, e, hlt, hc⟩ := h.ar hn
  exact ⟨ad, e, by omega, hc⟩
theorem CR.nil {w : World} {B : Nat} {A : Option Addr} : CR w B A [] := ⟨fun h => absurd rfl h, fun a ha => by cases ha⟩
/-- Its cells, one by one, as the walk spells them. -/
theorem CR.at_ {w : World} {B : Nat} {A : Option Addr} {l : List ChV} (h : CR w B A l) {k : Nat} (hk : k < l.length) :
    ∃ ad, A = some ad ∧ ad.block < B ∧ w.cell? (ad.add (k * 2)) = some (.int .i64 l[k].page) ∧ w.cell? ⟨(ad.add (k * 2)).block, (ad.add (k * 2)).off + 1, none⟩ = some (.slice l[k].A l[k].xs.length l[k].c) ∧ l[k].Ok w B := by
  obtain ⟨ad, e, hb, hc⟩ := h.ar (by intro e; subst e; simp at hk)
  have H := hc k l[k] (List.getElem?_eq_getElem hk)
  exact ⟨ad, e, hb, H 0 _ rfl, H 1 _ rfl, h.ok _ (List.getElem_mem hk)⟩

variable {H : Type} {enc : TypeId × Value → H} {W : World}

/-! ### the plain functions -/
def ChV.good (a : ChV) : Prop := 0 ≤ a.page ∧ a.page < 128 ∧ a.xs.length = 64
instance (a : ChV) : Decidable a.good := by unfold ChV.good; infer_instance
/-- What the first k changes leave, by page. -/
def lastK (l : List ChV) : Nat → (Nat → Option (List UInt8))
  | 0 => fun _ => none
  | k + 1 => match l[k]? with
    | some a => updF (lastK l k) a.page.toNat a.xs
    | none => lastK l k
theorem lastK_succ (l : List ChV) (k : Nat) (h : k < l.length) : lastK l (k + 1) = updF (lastK l k) l[k].page.toNat l[k].xs := by
  simp [lastK, h]
def latestF (l : List ChV) : Nat → Option (List UInt8) := lastK l l.length
theorem lastK_len (l : List ChV) (hg : ∀ a ∈ l, a.good) (k : Nat) {i : Nat} {x : List UInt8} (h : lastK l k i = some x) : x.length = 64 := by
  induction k with
  | zero => cases h
  | succ k ih =>
    by_cases hk : k < l.length
    · rw [lastK_succ l k hk] at h
      unfold updF at h
      split at h
      · cases h; exact (hg _ (List.getElem_mem hk)).2.2
      · exact ih h
    · simp only [lastK] at h
      rw [List.getElem?_eq_none (by omega)] at h
      exact ih h
theorem latestF_len {l : List ChV} (hg : ∀ a ∈ l, a.good) {i : Nat} {x : List UInt8} (h : latestF l i = some x) : x.length = 64 := lastK_len l hg _ h
end Go.Proofs.YtebecpjecchfoaaGreatDoor
namespace Go.Proofs.YtebecpjecchfoaaGreatDoor
open Go.RowKit Go.Maps

theorem Tryz.sizePg : (Tryz.prog.info? 270).map (·.size) = some 64 := by kernel_rfl
/-- A whole row out of wherever a slice begins. -/
theorem run_loadAt_any {P : Program} (w : World) (ad : Addr) (ty : TypeId) (cs : List Value) (d : TypeDesc) (hc : ∀ j v, cs[j]? = some v → w.cell? (ad.add j) = some v)
    (hu : P.underlying ty = some d) (hd : d.isRow = true) (hi : (P.info? ty).map (·.size) = some cs.length) :
    (Instr.loadAt ty (.pointer (some ad))).run P w = .ok (.agg cs.toArray) w := by
  have hl : (loadCells ad cs.length).run P w = .ok cs.toArray w := run_loadCells_list (P := P) w ad cs hc
  have hv : (loadVar ty ad).run P w = .ok (.agg cs.toArray) w := by
    cases hq : P.info? ty with
    | none => simp [hq] at hi
    | some i =>
      have hs : i.size = cs.length := by simpa [hq] using hi
      have hagg : (isAgg ty).run P w = .ok true w := by
        unfold isAgg
        rw [Sem.run_bind, run_underlying hu w]
        cases d <;> simp_all
      simp [loadVar, Sem.run_bind, hagg, sizeOf, typeInfo, hq, hs, hl]
  simp only [Instr.loadAt, Instr.sureAddr, Sem.run_bind, Sem.run_pure, Result.andThen_ok, hv]
theorem loadPg {w : World} {B : Nat} {A : Option Addr} {xs : List UInt8} (h : BR w B A xs) (hl : xs.length = 64) : (Instr.loadAt 270 (.pointer A)).run Tryz.prog w = .ok (ag xs) w := by
  obtain ⟨ad, rfl, _, hc⟩ := h (by intro e; subst e; simp at hl)
  refine run_loadAt_any w ad 270 (xs.map B8) _ (fun j v hv => ?_) Tryz.underlying270 rfl (by rw [Tryz.sizePg, List.length_map, hl])
  simp only [List.getElem?_map, Option.map_eq_some_iff] at hv
  obtain ⟨u, hu, rfl⟩ := hv
  exact hc j u hu
theorem arrPg (w : World) (A : Option Addr) (c : Nat) : (Instr.arrayAt 270 (.slice A 64 c)).run Tryz.prog w = .ok (.pointer A) w := run_arrayAt w 270 5 64 A 64 c Tryz.underlying270 (by omega)

theorem cell_new (w : World) (cs : Array Value) (t : TypeId) (i : Nat) (v : Value) (h : cs[i]? = some v) : (w.alloc (.cells cs t)).cell? ⟨w.heap.size, i, none⟩ = some v := by
  rw [cell_of_row _ _ _ _ _ _ (heap_alloc_new w _)]; exact h
theorem wpStill_arr {w : World} {ops : Array Oper} {rest : List Oper} {o : Oper} {a : Act} {Q : Act → Prop} (hw : Region.wanted o (yielded ops a.tmps) = true) (x : Operand) (ho : o.op = .sliceToArrayPointer 270 x) (p v : Value) (hp : a.eval x = p)
    (hrun : (Instr.arrayAt 270 p).run Tryz.prog w = .ok v w) (h : wpStill Tryz.prog ops w Q rest (a.put o.dst v)) : wpStill Tryz.prog ops w Q (o :: rest) a := by
  unfold wpStill
  rw [if_pos hw]
  unfold Oper.still execOp
  simp only [ho, hp, Sem.run_bind, hrun, Result.andThen_ok, Sem.run_pure, Oper.stillUpon, true_and]
  exact h
def LatOut (w : World) (l : List ChV) (e : Ending) (w' : World) : Prop :=
  Below w.heap.size w w' ∧ (((∀ a ∈ l, a.good) ∧ ∃ mb nn, e = .returned (.tuple #[.map (some mb), .int .i64 0]) ∧ w.heap.size ≤ mb ∧ MapF pageC w' mb nn (latestF l) ∧ nn ≤ l.length) ∨
    ((¬ ∀ a ∈ l, a.good) ∧ e = .returned (.tuple #[.map none, .int .i64 1])))

theorem lat_no {l : List ChV} {k : Nat} (hk : k < l.length) (h : ¬ l[k].good) : ¬ ∀ a ∈ l, a.good := fun h' => h (h' _ (List.getElem_mem hk))
theorem take_good {l : List ChV} {k : Nat} (hk : k < l.length) (h1 : ∀ a ∈ l.take k, a.good) (h2 : l[k].good) : ∀ a ∈ l.take (k + 1), a.good := by
  rw [List.take_succ_eq_append_getElem hk]
  intro a ha
  rcases List.mem_append.1 ha with h | h
  · exact h1 a h
  · simp only [List.mem_singleton] at h
    subst h; exact h2

set_option maxRecDepth 100000 in
set_option maxHeartbeats 2000000 in
theorem latest_any (A : Option Addr) (l : List ChV) (c : Nat) (w : World) (h : CR w w.heap.size A l) (hl : l.length ≤ 4398046511104) :
    Calls Tryz.prog 206 #[.slice A l.length c] w (LatOut w l) := by
  have hmm := @run_makeMap Tryz.prog
  have m0 := MapF.made pageC w
  have b0 : Below w.heap.size w (w.alloc (.map #[] 0)) := (Below.refl _ w).alloc (Nat.le_refl _) _
  go_enter Tryz.func206, Tryz.ntmps206
  go_wp2_with fail
  clear hmm
  generalize w.alloc (.map #[] 0) = w1 at *
  go_loopw [13, 6, 7, 8, 9, 15, 16, 17] (fun i _ _ _ _ _ _ _ wr => ∃ (k : Nat), k ≤ l.length ∧ i = .int .i64 k ∧ (∀ a ∈ l.take k, a.good) ∧ MapF pageC wr w.heap.size k (lastK l k) ∧ Below w.heap.size w wr) (fun i _ _ _ _ _ _ _ _ => l.length - (Go.RowKit.intOf i).toNat)
  case atStart => exact ⟨0, by omega, rfl, by simp, m0, b0⟩
  case round =>
    obtain ⟨k, hk, rfl, hgd, hm, hb⟩ := hrel
    by_cases hlt : k < l.length
    · have h1 := h.below hb
      obtain ⟨ad, rfl, hlb, d0, d1, hok⟩ := h1.at_ hlt
      have hsz := hb.size
      have hS := Lib.hid (lastK_succ l k hlt)
      have hTG := fun h2 => Lib.hid (take_good hlt hgd h2)
      have hNG := fun h2 => Lib.hid (lat_no hlt h2)
      have hbr := Lib.hid hok.br
      have hlen1 := hlt
      generalize l[k] = a at *
      clear h h1
      have hmlt := hm.lt
      by_cases hp : 0 ≤ a.page ∧ a.page < 128
      · have e1 := Lib.hid (show pathE a.page = 0 from if_pos hp)
        by_cases hx : a.xs.length = 64
        · -- it is kept
          have hG := hTG ⟨hp.1, hp.2, hx⟩
          clear hTG hNG
          have HX := Lib.hid hx
          rw [HX.out] at d1
          obtain ⟨page, A1, xs, c1⟩ := a
          obtain ⟨n, rfl⟩ := Int.eq_ofNat_of_zero_le hp.1
          simp only at *
          go_wp2_with fail
          refine (path_any _ _).mono ?_
          rintro e w' ⟨rfl, rfl⟩
          rw [e1.out]
          generalize hw2 : wr.alloc (.cells #[.int .i64 (n : Int), .slice A1 64 c1] 194) = w2 at *
          have hb2 : Below w.heap.size w w2 := by rw [← hw2]; exact hb.alloc hsz _
          have hbr2 : Below w.heap.size wr w2 := by rw [← hw2]; exact (Below.refl _ _).alloc hsz _
          have q0 : w2.cell? ⟨wr.heap.size, 0, none⟩ = some (.int .i64 (n : Int)) := by rw [← hw2]; exact cell_new _ _ _ 0 _ rfl
          have q1 : w2.cell? ⟨wr.heap.size, 1, none⟩ = some (.slice A1 64 c1) := by rw [← hw2]; exact cell_new _ _ _ 1 _ rfl
          have hm2 : MapF pageC w2 w.heap.size k (lastK l k) := by rw [← hw2]; exact hm.alloc _
          have hbx : BR w2 w.heap.size A1 xs := hbr.out.below hbr2
          clear hw2
          go_wp2_with fail
          -- the page's bytes, into the map
          have hm3 : MapF pageC w2.drew w.heap.size k (lastK l k) := hm2.keep rfl
          have k3 : Below w.heap.size w w2.drew := hb2.drew
          have LP := Lib.hid (loadPg (hbx.keep (w' := w2.drew) fun _ _ => rfl) HX.out)
          have c0 : w2.drew.cell? ⟨wr.heap.size, 0, none⟩ = some (.int .i64 (n : Int)) := q0
          have c1' : w2.drew.cell? ⟨wr.heap.size, 1, none⟩ = some (.slice A1 64 c1) := q1
          have AR' := Lib.hid (arrPg w2.drew A1 c1)
          clear q0 q1 hbx hm2 hb2 hbr2
          refine wp_region_still_tail 7 (by kernel_rfl) (by kernel_rfl) ?_
          simp only [List.take_succ_cons, List.take_zero, List.drop_succ_cons, List.drop_zero]
          change wpStill _ _ w2.drew (fun a' => wpList _ _ _ _ a' w2.drew) _ _
          generalize w2.drew = w3 at *
          still_step
          still_step
          still_step
          still_step
          still_step
          refine wpStill_arr rfl (.tmp 36) rfl _ _ rfl AR'.out ?_
          refine wpStill_load rfl 270 (.tmp 37) rfl _ _ rfl LP.out ?_
          refine wpStill_nil ?_
          clear LP AR'
          simp only [Act.put, List.setIfInBounds_toArray, List.set_cons_zero, List.set_cons_succ]
          obtain ⟨w4, hup, hm4, hg4, hs4⟩ := hm3.put Tryz.underlying252 n (by omega) xs (by unfold maxLen; omega)
          refine wpList_mapUpdate_run rfl 252 _ _ _ rfl _ _ _ rfl rfl rfl hup ?_
          go_wp2
          go_roundw
          case rel =>
            refine ⟨k + 1, by omega, by go_num, hG.out, ?_, k3.grown hg4 k3.size (fun j hj => by cases hj; omega)⟩
            rw [hS.out, Int.toNat_natCast]
            exact hm4
          case measure => simp [Go.RowKit.intOf]; omega
        · -- its length is another
          have HN := hNG (fun hg => hx hg.2.2)
          have hx1 : ((a.xs.length : Int) != 64) = true := by simp; omega
          clear hTG hNG hx
          go_wp2_with fail
          refine (path_any _ _).mono ?_
          rintro e w' ⟨rfl, rfl⟩
          rw [e1.out]
          generalize hw2 : wr.alloc (.cells #[.int .i64 a.page, .slice a.A a.xs.length a.c] 194) = w2 at *
          have hb2 : Below w.heap.size w w2 := by rw [← hw2]; exact hb.alloc hsz _
          have q0 : w2.cell? ⟨wr.heap.size, 0, none⟩ = some (.int .i64 a.page) := by rw [← hw2]; exact cell_new _ _ _ 0 _ rfl
          have q1 : w2.cell? ⟨wr.heap.size, 1, none⟩ = some (.slice a.A a.xs.length a.c) := by rw [← hw2]; exact cell_new _ _ _ 1 _ rfl
          clear hw2
          go_wp2_with fail
          go_ret2
          exact ⟨hb2, .inr ⟨HN.out, rfl⟩⟩
      · -- no such page
        have e1 := Lib.hid (show pathE a.page = 1 from if_neg hp)
        have HN := hNG (fun hg => hp ⟨hg.1, hg.2.1⟩)
        clear hTG hNG
        go_wp2_with fail
        refine (path_any _ _).mono ?_
        rintro e w' ⟨rfl, rfl⟩
        rw [e1.out]
        generalize hw2 : wr.alloc (.cells #[.int .i64 a.page, .slice a.A a.xs.length a.c] 194) = w2 at *
        have hb2 : Below w.heap.size w w2 := by rw [← hw2]; exact hb.alloc hsz _
        clear hw2
        go_wp2_with fail
        go_ret2
        exact ⟨hb2, .inr ⟨HN.out, rfl⟩⟩
    · obtain rfl : k = l.length := by omega
      go_wp2_with fail
      go_ret2
      refine ⟨hb, .inl ⟨by simpa using hgd, _, _, rfl, Nat.le_refl _, hm, Nat.le_refl _⟩⟩
end Go.Proofs.YtebecpjecchfoaaGreatDoor
