/-
  ExBlk
-/
import Derived.Test.YtjconllgghangaaDoorExIt
import Derived.Test.YtjconllgghangaaDoorExAwake
namespace Go.Proofs.YtjconllgghangaaDoor.Ex
open Go.RowKit Go.Shelf
attribute [local go_sem] Oper.semAt_some

/-- The value of the iterator. -/
def itv (B : Nat) : Value := .func (.func 28) #[] #[.pointer (some ⟨B, 0, none⟩)]
set_option maxRecDepth 100000 in
set_option maxHeartbeats 400000 in
theorem blocks_any (A : Option Addr) (n c : Nat) (w : World) :
    Calls Tryd.prog 22 #[.slice A n c] w fun e w' => e = .returned (itv w.heap.size) ∧ w' = w.alloc (.cells #[.slice A n c] 22) := by
  have hmf : ∀ (fn : Fn) (first cap : Array Value) (w : World), (Instr.makeFunc fn first cap).run Tryd.prog w = .ok (.func fn first cap) w := fun _ _ _ _ => rfl
  go_enter Tryd.func22, Tryd.ntmps22
  go_wp2_with fail
  go_ret
  exact ⟨rfl, rfl⟩
theorem blocks_stops (F : Fence) (n : Nat) (h : F.fn 28) (hro : F.round = none) (hn : 1 ≤ n) {Wr : World → Nat → Prop} {n0 : Nat} (hw : Writes n0 Wr) (B : Nat) (A : Option Addr) (l : List EX) (c : Nat) (hok : ok l = true) (hl : l.length ≤ 100) (w : World)
    (hbox : w.heap[B]? = some (.cells #[.slice A l.length c] 22 (0, 0))) (hi : ∀ W, Below w.heap.size w W → ItOk Wr n0 W A l) :
    SeqStopsK F n Tryd.prog 28 #[.pointer (some ⟨B, 0, none⟩)] encB (KpW Wr) (fun ys => ys = (blkL l).zipIdx) (fun pre => pre <+: (blkL l).zipIdx) (blkL l).length w := fun y J Jx W hW hJ _ hY h0 =>
  blocks1_in F n h hro hn hw y B A l c hok hl J Jx W (fun s W1 o hs => hJ s W1 _ none hs (World.grownBy_alloc W1 o none) (fun r e => by cases e)) (fun pre x W1 h1 h2 _ => hY pre x W1 h1 h2)
    (by rw [cell_of_row _ _ _ _ _ _ ((hW.block B (Array.getElem?_eq_some_iff.1 hbox).1).trans hbox)]; rfl) (hi W hW) h0

/-- Block's answer. -/
def blockV (l : List EX) (n : Int) : Int × Int := if 0 ≤ n ∧ n < ((blkO l).length : Int) then (((blkO l).getD n.toNat 0 : Nat), 0) else (0, 1)
def noWr (_ : World) (_ : Nat) : Prop := False
theorem noWrites : Writes 0 noWr := ⟨fun _ _ _ _ _ => Iff.rfl, fun _ _ _ _ h => h⟩
/-- What the loop keeps: the number that is asked for, both results. -/
structure InB (w : World) (n b e : Int) (W : World) : Prop where
  n0 : Boxed W w.heap.size 3 (.int .i64 n)
  b0 : Boxed W (w.heap.size + 1) 3 (.int .i64 b)
  e0 : Boxed W (w.heap.size + 1 + 1) 27 (.int .i64 e)
theorem inB_own (w : World) (n b e : Int) {β : Type} : Own (fun (_ : β) W => InB w n b e W) := fun _ _ _ _ hs hg hr => ⟨cells_kept hs.n0 hg hr, cells_kept hs.b0 hg hr, cells_kept hs.e0 hg hr⟩
theorem KpW.refl (Wr : World → Nat → Prop) (W : World) : KpW Wr W W := fun s => ⟨s, Nat.le_refl _, fun _ _ ho _ hn => ⟨ho, hn⟩⟩
theorem blockV_found {l : List EX} (h : ok l = true) {b i : Nat} (hm : (b, i) ∈ (blkL l).zipIdx) : blockV l (i : Int) = ((b : Int), 0) := by
  rw [List.mk_mem_zipIdx_iff_getElem?] at hm
  obtain ⟨hi, hb⟩ := List.getElem?_eq_some_iff.1 hm
  unfold blockV
  rw [blkO_yes h, if_pos (by omega), Int.toNat_natCast, List.getD_eq_getElem?_getD, hm]
  rfl
theorem blockV_none {l : List EX} (h : ok l = true) {n : Int} (hn : ∀ b i, (b, i) ∈ (blkL l).zipIdx → (i : Int) ≠ n) : blockV l n = (0, 1) := by
  unfold blockV
  rw [blkO_yes h, if_neg]
  rintro ⟨h1, h2⟩
  have hi : n.toNat < (blkL l).length := by omega
  exact hn _ n.toNat (List.mk_mem_zipIdx_iff_getElem?.2 (List.getElem?_eq_getElem hi)) (by omega)
/-- What is so where the loop is left. -/
def InBx (w : World) (n : Int) (c : Code) (pre : List (Nat × Nat)) (W : World) : Prop := c = .ret ∧ ∃ (q : List (Nat × Nat)) (b i : Nat), pre = q ++ [(b, i)] ∧ (i : Int) = n ∧ InB w n (b : Int) 0 W ∧ Below w.heap.size w W
def InBi (w : World) (n : Int) (pre : List (Nat × Nat)) (W : World) : Prop := (∀ b i, (b, i) ∈ pre → (i : Int) ≠ n) ∧ InB w n 0 0 W ∧ Below w.heap.size w W
theorem InB.below {w : World} {n b e : Int} {W W' : World} (h : InB w n b e W) (k : Below W.heap.size W W') : InB w n b e W' :=
  ⟨(k.block _ (Array.getElem?_eq_some_iff.1 h.n0).1).trans h.n0, (k.block _ (Array.getElem?_eq_some_iff.1 h.b0).1).trans h.b0, (k.block _ (Array.getElem?_eq_some_iff.1 h.e0).1).trans h.e0⟩
theorem InB.store {w : World} {n b e : Int} {W : World} (h : InB w n b e W) (b' e' : Int) : InB w n b' e' ((W.setCell ⟨w.heap.size + 1, 0, none⟩ (.int .i64 b')).setCell ⟨w.heap.size + 1 + 1, 0, none⟩ (.int .i64 e')) :=
  ⟨(Below.heap_setCell _ _ _ _ (by show w.heap.size ≠ w.heap.size + 1 + 1; omega)).trans ((Below.heap_setCell _ _ _ _ (by show w.heap.size ≠ w.heap.size + 1; omega)).trans h.n0),
   (Below.heap_setCell _ _ _ _ (by show w.heap.size + 1 ≠ w.heap.size + 1 + 1; omega)).trans (h.b0.set _),
   (show Boxed (W.setCell ⟨w.heap.size + 1, 0, none⟩ (.int .i64 b')) (w.heap.size + 1 + 1) 27 (.int .i64 e) from (Below.heap_setCell _ _ _ _ (by show w.heap.size + 1 + 1 ≠ w.heap.size + 1; omega)).trans h.e0).set _⟩
def BlkOut (w : World) (l : List EX) (n : Int) (e : Ending) (w' : World) : Prop := e = .returned (.tuple #[.int .i64 (blockV l n).1, .int .i64 (blockV l n).2]) ∧ Below w.heap.size w w'

set_option maxRecDepth 100000 in
set_option maxHeartbeats 1000000 in
theorem block_any (A : Option Addr) (l : List EX) (c : Nat) (n : Int) (w : World) (h : XR w w.heap.size A l) (hl : l.length ≤ 100) :
    Calls Tryd.prog 11 #[.slice A l.length c, .int .i64 n] w (BlkOut w l n) := by
  have hb : Below w.heap.size w (((w.alloc (.cells #[.int .i64 n] 3)).alloc (.cells #[.int .i64 0] 3)).alloc (.cells #[.int .i64 0] 27)) := (((Below.refl _ _).alloc (Nat.le_refl _) _).alloc (by simp) _).alloc (by simp; omega) _
  have hi : InB w n 0 0 (((w.alloc (.cells #[.int .i64 n] 3)).alloc (.cells #[.int .i64 0] 3)).alloc (.cells #[.int .i64 0] 27)) := by
    refine ⟨((Boxed.new w 3 (.int .i64 n)).alloc _).alloc _, ?_, ?_⟩
    · have := (Boxed.new (w.alloc (.cells #[.int .i64 n] 3)) 3 (.int .i64 0)).alloc (.cells #[.int .i64 0] 27)
      rwa [World.size_alloc] at this
    · have := Boxed.new ((w.alloc (.cells #[.int .i64 n] 3)).alloc (.cells #[.int .i64 0] 3)) 27 (.int .i64 0)
      rwa [World.size_alloc, World.size_alloc] at this
  have hck := fun W (hW : Below w.heap.size w W) => check_any A l c W ((h.below hW).more hW.size) hl
  have HB := Lib.hid hb
  have HI := Lib.hid hi
  have HCK := Lib.hid hck
  clear hb hi hck
  have hsz : (((w.alloc (.cells #[.int .i64 n] 3)).alloc (.cells #[.int .i64 0] 3)).alloc (.cells #[.int .i64 0] 27)).heap.size = w.heap.size + 3 := by simp
  have HSZ := Lib.hid hsz
  clear hsz
  by_cases hok : ok l = true
  · rw [okE_yes hok] at HCK
    have HOK := Lib.hid hok
    have HX := Lib.hid h
    clear hok h
    refine (callsIn_wide (n := 8)).1 ?_
    refine callsIn_of_wp_marks Tryd.func11 rfl trivial ?_ rfl
    simp only [Tryd.ntmps11, List.size_toArray, List.length_cons, List.length_nil, Nat.reduceAdd, Nat.reduceSub, Array.replicate_succ, Array.replicate_zero, List.push_toArray, List.append_toArray, List.nil_append, List.cons_append]
    gi_wp2
    generalize (((w.alloc (.cells #[.int .i64 n] 3)).alloc (.cells #[.int .i64 0] 3)).alloc (.cells #[.int .i64 0] 27)) = w0 at *
    refine ⟨trivial, ?_⟩
    refine (callsIn_wide.2 (HCK.out w0 HB.out)).mono ?_
    clear HCK
    rintro e w1 ⟨rfl, b1⟩
    have HI1 := Lib.hid (HI.out.below b1)
    have HB1 := Lib.hid (HB.out.trans (b1.mono HB.out.size))
    have hs1 : w.heap.size + 3 ≤ w1.heap.size := by have := b1.size; have := HSZ.out; omega
    clear b1 HI HB HSZ
    gi_wp2
    refine ⟨trivial, ?_⟩
    refine (callsIn_wide.2 (blocks_any A l.length c w1)).mono ?_
    rintro e w2 ⟨rfl, rfl⟩
    have hbox := heap_alloc_new w1 (.cells #[.slice A l.length c] 22)
    have hk2 : Below w.heap.size w (w1.alloc (.cells #[.slice A l.length c] 22)) := HB1.out.alloc HB1.out.size _
    have hi2 := HI1.out.below (W' := w1.alloc (.cells #[.slice A l.length c] 22)) ((Below.refl _ _).alloc (Nat.le_refl _) _)
    have hs2 : w.heap.size + 3 < (w1.alloc (.cells #[.slice A l.length c] 22)).heap.size := by rw [World.size_alloc]; omega
    have HBOX := Lib.hid hbox
    have HK2 := Lib.hid hk2
    have HI2 := Lib.hid hi2
    clear hbox hk2 hi2 HI1 HB1
    gi_wp2
    generalize w1.alloc (.cells #[.slice A l.length c] 22) = w2 at *
    generalize w1.heap.size = g at *
    have hit : ∀ W, Below w2.heap.size w2 W → ItOk noWr 0 W A l := fun W hW => ⟨fun k hk => hk.elim, Nat.zero_le _, (HX.out.below (HK2.out.trans (hW.mono HK2.out.size))).more (Nat.le_trans HK2.out.size hW.size), fun _ _ _ hk => hk⟩
    refine wpIn_rangeFunc_ownF rfl (by omega) (gf := 28) (lb := #[.pointer (some ⟨g, 0, none⟩)]) rfl trivial (enters_of Tryd.func28 (by kernel_rfl) rfl)
      (blocks_stops Fence.wide _ trivial rfl (by omega) noWrites g A l c HOK.out hl w2 HBOX.out hit) (fun h k => KpW.trans h k) (fun W l o o' _ h hc _ => KpW.put noWrites W l o o' (Nat.zero_le _) h hc) (Below.refl _ _) (fun _ => rfl)
      (InBi w n) (InBx w n)
      (OwnFrom.and (ownFrom_pure _ (fun (pre : List (Nat × Nat)) => ∀ b i, (b, i) ∈ pre → (i : Int) ≠ n)) (OwnFrom.and (Own.from (inB_own w n 0 0) _) (ownFrom_below (Nat.le_refl _) (by omega))))
      (fun c s W W' row hs hg hr => by
        obtain ⟨h1, q, b, i, h2, h3, h4, h5⟩ := hs
        exact ⟨h1, q, b, i, h2, h3, (inB_own w n b 0).from w2.heap.size () W W' row h4 hg hr, ownFrom_below (Nat.le_refl _) (by omega) () W W' row h5 hg hr⟩)
      ⟨fun b i h => by (cases h), HI2.out, HK2.out⟩
      (fun x => { tmps := #[.slice A l.length c, .int .i64 n, undef, .pointer (some ⟨w.heap.size, 0, none⟩), .pointer (some ⟨w.heap.size + 1, 0, none⟩), .pointer (some ⟨w.heap.size + 1 + 1, 0, none⟩), .int .i64 (x.2 : Int), .int .i64 (x.1 : Int), .slice A l.length c, .int .i64 0, .bool false, .slice A l.length c, itv g, .int .i64 (x.2 : Int), .int .i64 (x.1 : Int), undef, undef, undef, undef], defers := [] }) ?assign ?body ?done ?stop
    case assign =>
      intro l x W K hK
      gi_wp2
      exact hK
    case body =>
      rintro l pre ⟨b, i⟩ W ⟨hne, hb, hk⟩ _
      have c0 := hb.n0.cell
      by_cases hx : (i : Int) = n
      · have cb := hb.b0.cell
        have fb := hb.b0.frozen
        have ce := hb.e0.cell
        have fe := hb.e0.frozen
        have hk' := (hk.setCell (p := ⟨w.heap.size + 1, 0, none⟩) (by show w.heap.size ≤ w.heap.size + 1; omega) (.int .i64 (b : Int))).setCell (p := ⟨w.heap.size + 1 + 1, 0, none⟩) (by show w.heap.size ≤ w.heap.size + 1 + 1; omega) (.int .i64 0)
        have HK' := Lib.hid hk'
        have HS := Lib.hid (hb.store (b : Int) 0)
        clear hne hb hk hk' hit
        subst hx
        gi_wp2
        exact ⟨(KeepsOthers.setCell _ _ _).trans (KeepsOthers.setCell _ _ _), rfl, pre, b, i, rfl, rfl, HS.out, HK'.out⟩
      · have hx1 : ((i : Int) == n) = false := by simpa using hx
        have HII : Hid (InBi w n (pre ++ [(b, i)]) W) := ⟨fun b' i' h => by
          rcases List.mem_append.1 h with h | h
          · exact hne b' i' h
          · simp only [List.mem_singleton, Prod.mk.injEq] at h
            obtain ⟨_, rfl⟩ := h
            exact hx, hb, hk⟩
        clear hne hb hk hx hit
        gi_wp2
        exact ⟨KeepsOthers.refl _, KpW.refl _ _, HII.out⟩
    case done =>
      rintro D ys W hD rfl ⟨hne, hb, hk⟩ hK
      have hv := blockV_none HOK.out hne
      have cb := hb.b0.cell
      have fb := hb.b0.frozen
      have ce := hb.e0.cell
      have fe := hb.e0.frozen
      have hk' := (hk.setCell (p := ⟨w.heap.size + 1, 0, none⟩) (by show w.heap.size ≤ w.heap.size + 1; omega) (.int .i64 0)).setCell (p := ⟨w.heap.size + 1 + 1, 0, none⟩) (by show w.heap.size ≤ w.heap.size + 1 + 1; omega) (.int .i64 1)
      have hst := hb.store 0 1
      have hKd := (KeepsOthers.setCell _ ⟨w.heap.size + 1 + 1, 0, none⟩ (.int .i64 1)).same D _ ((KeepsOthers.setCell W ⟨w.heap.size + 1, 0, none⟩ (.int .i64 0)).same D _ hK rfl) rfl
      have HV := Lib.hid hv
      have HKK := Lib.hid hk'
      have HST := Lib.hid hst
      have HKD := Lib.hid hKd
      clear hne hb hk hv hk' hst hKd hit
      gi_wp2
      have g2 := grownBy_putObj' ((W.setCell ⟨w.heap.size + 1, 0, none⟩ (.int .i64 0)).setCell ⟨w.heap.size + 1 + 1, 0, none⟩ (.int .i64 1)) D (.deferred none)
      have x2 := inB_own w n 0 1 () _ _ _ HST.out g2 (fun r e => by cases e; exact ⟨_, HKD.out, rfl⟩)
      have k2 := HKK.out.trans (belowK_b (w := w) (Nat.le_refl _) _ D _ (.deferred none) (by omega) HKD.out rfl rfl)
      refine ⟨by simp, .inl ⟨D, _, rfl, run_takeDeferred HKD.out, ?_⟩⟩
      have c1 := x2.b0.cell
      have c2 := x2.e0.cell
      refine ⟨.tuple #[.int .i64 0, .int .i64 1], ?_, by rw [HV.out], k2⟩
      simp [results, Tryd.f11, go_sem, c1, c2]
    case stop =>
      rintro D c2 pre W hD hpre ⟨rfl, q, b, i, rfl, hin, hb, hk⟩ hK
      have hm : (b, i) ∈ (blkL l).zipIdx := by
        obtain ⟨t, ht⟩ := hpre
        rw [← ht]
        simp
      have hv := blockV_found HOK.out hm
      rw [hin] at hv
      have HV := Lib.hid hv
      clear hv hm hpre hit hin
      gi_wp2
      have g2 := grownBy_putObj' W D (.deferred none)
      have x2 := inB_own w n b 0 () _ _ _ hb g2 (fun r e => by cases e; exact ⟨_, hK, rfl⟩)
      have k2 := hk.trans (belowK_b (w := w) (Nat.le_refl _) _ D _ (.deferred none) (by omega) hK rfl rfl)
      refine ⟨by simp, .inl ⟨D, _, rfl, run_takeDeferred hK, ?_⟩⟩
      have c1 := x2.b0.cell
      have c2 := x2.e0.cell
      refine ⟨.tuple #[.int .i64 (b : Int), .int .i64 0], ?_, by rw [HV.out], k2⟩
      simp [results, Tryd.f11, go_sem, c1, c2]
  · have hno : ok l = false := by simpa using hok
    have hv : blockV l n = (0, 1) := by unfold blockV; rw [blkO_no hno, if_neg (by rintro ⟨a, b⟩; simp at b; omega)]
    rw [okE_no hno] at HCK
    have HV := Lib.hid hv
    clear hok hno hv h
    refine (callsIn_wide (n := 8)).1 ?_
    refine callsIn_of_wp_marks Tryd.func11 rfl trivial ?_ rfl
    simp only [Tryd.ntmps11, List.size_toArray, List.length_cons, List.length_nil, Nat.reduceAdd, Nat.reduceSub, Array.replicate_succ, Array.replicate_zero, List.push_toArray, List.append_toArray, List.nil_append, List.cons_append]
    gi_wp2
    generalize (((w.alloc (.cells #[.int .i64 n] 3)).alloc (.cells #[.int .i64 0] 3)).alloc (.cells #[.int .i64 0] 27)) = w0 at *
    refine ⟨trivial, ?_⟩
    refine (callsIn_wide.2 (HCK.out w0 HB.out)).mono ?_
    clear HCK
    rintro e w1 ⟨rfl, b1⟩
    have HI1 := Lib.hid (HI.out.below b1)
    have cb := HI1.out.b0.cell
    have fb := HI1.out.b0.frozen
    have ce := HI1.out.e0.cell
    have fe := HI1.out.e0.frozen
    have hk := (HB.out.trans (b1.mono HB.out.size)).setCell (p := ⟨w.heap.size + 1, 0, none⟩) (by show w.heap.size ≤ w.heap.size + 1; omega) (.int .i64 0)
    have hk2 := Lib.hid (hk.setCell (p := ⟨w.heap.size + 1 + 1, 0, none⟩) (by show w.heap.size ≤ w.heap.size + 1 + 1; omega) (.int .i64 1))
    have HI2 := Lib.hid (HI1.out.store 0 1)
    clear b1 HI HB hk HI1
    gi_wp2
    have c1 := HI2.out.b0.cell
    have c2 := HI2.out.e0.cell
    refine ⟨.tuple #[.int .i64 0, .int .i64 1], ?_, by rw [HV.out], hk2.out⟩
    simp [results, Tryd.f11, go_sem, c1, c2]
end Go.Proofs.YtjconllgghangaaDoor.Ex
