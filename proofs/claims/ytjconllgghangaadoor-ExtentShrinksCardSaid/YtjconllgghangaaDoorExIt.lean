/-
  ExIt
-/
import Derived.Test.YtjconllgghangaaDoorExBlocks
import Derived.Test.YtjconllgghangaaDoorGNd
import Derived.Scope
import Derived.WalkMore
namespace Go.Proofs.YtjconllgghangaaDoor.Ex
open Go.RowKit Go.Shelf
attribute [local go_sem] Oper.semAt_some

section
variable {P : Program} {F : Fence} {n : Nat} {Q : Exit → Act → World → Prop} {a : Act} {w : World}
theorem stepR_scope {b : Frame} {k : List Item} {cs : List Frame} {c : Code} : step P (lone (b.atR a (.code (.scope c) :: k)) cs w) = .next (lone (b.atR a (.code c :: .inScope c :: k)) cs w) :=
  step_lone_go (by simp [stepG, stepG.exec, Frame.atR])
theorem stepR_inScope {b : Frame} {k : List Item} {cs : List Frame} {c : Code} : step P (lone (b.atR a (.inScope c :: k)) cs w) = .next (lone (b.atR a k) cs w) :=
  step_lone_go (by simp [stepG, stepG.exec, Frame.atR])
/-- A scope through which the run goes without a goto, within a fence. -/
theorem wpIn_scope {c : Code} (h : c.wpIn F n P (Exit.noGoto Q) a w) : (Code.scope c).wpIn F n P Q a w := by
  intro b k cs hro hb hr
  have h0 : (lone (b.atR a (.code (.scope c) :: k)) cs w).fenced P F := fenced_calm hb hr rfl
  obtain ⟨e, a₁, w₁, hq, harr⟩ := h b (.inScope c :: k) cs hro hb hr
  cases e with
  | normal => exact ⟨.normal, a₁, w₁, hq, .head h0 stepR_scope (StepsIn.trans harr (.one (fenced_calm hb hr rfl) stepR_inScope))⟩
  | exit id' =>
    have hx : exitTo id' (.inScope c :: k) = exitTo id' k := by simp [exitTo]
    exact ⟨.exit id', a₁, w₁, hq, fun k' hk => .head h0 stepR_scope (harr.1 k' (by rw [hx]; exact hk)),
      fun hr' hk => let ⟨k₁, h1, h2⟩ := harr.2 hr' (by rw [hx]; exact hk); ⟨k₁, h1, .head h0 stepR_scope h2⟩⟩
  | goto l => exact hq.elim
  | ret => exact ⟨_, a₁, w₁, hq, .of_steps (.one h0 stepR_scope) harr⟩
  | panic ch => exact ⟨_, a₁, w₁, hq, .of_steps (.one h0 stepR_scope) harr⟩
  | outgrown => exact ⟨_, a₁, w₁, hq, .of_steps (.one h0 stepR_scope) harr⟩
end

/-! ### what a round may write -/
/-- Which blocks a round may write: told of each world. -/
structure Writes (n0 : Nat) (Wr : World → Nat → Prop) : Prop where
  put : ∀ W l o' k, n0 ≤ l → (Wr (W.putObj l o') k ↔ Wr W k)
  new : ∀ W o k, n0 ≤ W.heap.size → Wr (W.alloc o) k → Wr W k
def San (Wr : World → Nat → Prop) (W : World) : Prop := ∀ k, Wr W k → k < W.heap.size
/-- What a round keeps. -/
def KpW (Wr : World → Nat → Prop) (W W' : World) : Prop := San Wr W → San Wr W' ∧ W.heap.size ≤ W'.heap.size ∧ ∀ k o, W.heap[k]? = some o → o.isCells = true → ¬ Wr W k → W'.heap[k]? = some o ∧ ¬ Wr W' k
theorem KpW.trans {Wr : World → Nat → Prop} {A B C : World} (h : KpW Wr A B) (k : KpW Wr B C) : KpW Wr A C := fun s => by
  obtain ⟨s1, z1, h1⟩ := h s
  obtain ⟨s2, z2, h2⟩ := k s1
  refine ⟨s2, by omega, fun i o ho hc hn => ?_⟩
  obtain ⟨g1, g2⟩ := h1 i o ho hc hn
  exact h2 i o g1 hc g2
theorem KpW.put {Wr : World → Nat → Prop} {n0 : Nat} (hw : Writes n0 Wr) (W : World) (l : Nat) (o o' : Obj) (hl : n0 ≤ l) (h : W.heap[l]? = some o) (hc : o.isCells = false) : KpW Wr W (W.putObj l o') := fun s => by
  have hs : (W.putObj l o').heap.size = W.heap.size := by simp [World.putObj]
  refine ⟨fun k hk => ?_, by omega, fun k o2 ho hc2 hn => ?_⟩
  · rw [hs]
    exact s k ((hw.put W l o' k hl).1 hk)
  · have hne : k ≠ l := fun e => by subst e; rw [h] at ho; cases ho; rw [hc] at hc2; cases hc2
    exact ⟨(World.putObj_heap_other hne).trans ho, fun hk => hn ((hw.put W l o' k hl).1 hk)⟩

/-- What the iterator goes on: the list lies where no round writes. -/
structure ItOk (Wr : World → Nat → Prop) (n0 : Nat) (W : World) (A : Option Addr) (l : List EX) : Prop where
  san : San Wr W
  le : n0 ≤ W.heap.size
  xr : XR W W.heap.size A l
  no : l ≠ [] → ∀ ad, A = some ad → ¬ Wr W ad.block
section
variable {Wr : World → Nat → Prop} {n0 : Nat} {W W' : World} {A : Option Addr} {l : List EX}
theorem ItOk.alloc (hw : Writes n0 Wr) (h : ItOk Wr n0 W A l) (o : Obj) : ItOk Wr n0 (W.alloc o) A l ∧ ¬ Wr (W.alloc o) W.heap.size := by
  refine ⟨⟨fun k hk => ?_, by have := h.le; simp; omega, ?_, fun hn ad e hk => h.no hn ad e (hw.new W o _ h.le hk)⟩, fun hk => ?_⟩
  · have := h.san k (hw.new W o k h.le hk)
    simp
    omega
  · exact (h.xr.below ((Below.refl _ _).alloc (Nat.le_refl _) _)).more (by simp)
  · have := h.san _ (hw.new W o _ h.le hk)
    omega
theorem ItOk.kept (h : ItOk Wr n0 W A l) (k : KpW Wr W W') : ItOk Wr n0 W' A l := by
  obtain ⟨s, z, hk⟩ := k h.san
  have hb : ∀ ad, A = some ad → l ≠ [] → ∃ o, W.heap[ad.block]? = some o ∧ W'.heap[ad.block]? = some o ∧ ¬ Wr W' ad.block := fun ad e hn => by
    obtain ⟨ad', e', hlt, hc⟩ := h.xr.ar hn
    rw [e] at e'
    cases e'
    have h0 := hc 0 (l[0]'(List.length_pos_iff.2 hn)) (List.getElem?_eq_getElem _) 0 _ rfl
    obtain ⟨o, ho, hoc⟩ := cells_of_cell h0
    rw [block_add, block_add] at ho
    obtain ⟨g1, g2⟩ := hk _ o ho hoc (h.no hn ad e)
    exact ⟨o, ho, g1, g2⟩
  refine ⟨s, by have := h.le; omega, ⟨fun hn => ?_, h.xr.ok⟩, fun hn ad e => ?_⟩
  · obtain ⟨ad, e, hlt, hc⟩ := h.xr.ar hn
    obtain ⟨o, h1, h2, _⟩ := hb ad e hn
    refine ⟨ad, e, by omega, fun k a ha j v hv => ?_⟩
    exact (World.cell?_of_block (w := W) (w' := W') (a := (ad.add (k * 2)).add j) (by rw [block_add, block_add, h1, h2])).trans (hc k a ha j v hv)
  · obtain ⟨o, _, _, h3⟩ := hb ad e hn
    exact h3
end

abbrev encB (x : Nat × Nat) : Array Value := #[.int .i64 (x.2 : Int), .int .i64 (x.1 : Int)]
theorem seq_snoc (o : List Nat) (b : Nat) : (o ++ [b]).zipIdx = o.zipIdx ++ [(b, o.length)] := by simp [List.zipIdx_append]
theorem seq_prefix {o m : List Nat} (h : o <+: m) : o.zipIdx <+: m.zipIdx := by
  obtain ⟨t, rfl⟩ := h
  rw [List.zipIdx_append]
  exact List.prefix_append _ _
theorem blk_prefix {l : List EX} {k j : Nat} (hk : k < l.length) : (blkL (l.take k) ++ (exB l[k]).take j) <+: blkL l := by
  have h1 : (blkL (l.take k) ++ (exB l[k]).take j) <+: blkL (l.take (k + 1)) := by
    rw [blk_step hk]
    exact (List.prefix_append_right_inj _).2 (List.take_prefix _ _)
  refine h1.trans ?_
  have : l = l.take (k + 1) ++ l.drop (k + 1) := (List.take_append_drop _ _).symm
  conv => rhs; rw [this]
  rw [blkL_append]
  exact List.prefix_append _ _

set_option maxRecDepth 100000 in
set_option maxHeartbeats 1000000 in
/-- The closure of blocks, for every loop body. -/
theorem blocks1_in (F : Fence) (n : Nat) (h : F.fn 28) (hro : F.round = none) (hn : 1 ≤ n) {Wr : World → Nat → Prop} {n0 : Nat} (hw : Writes n0 Wr) (y B : Nat) (A : Option Addr) (l : List EX) (c : Nat) (hok : ok l = true) (hl : l.length ≤ 100) (J Jx : List (Nat × Nat) → World → Prop)
    (W : World) (hJ : ∀ s W1 o, J s W1 → J s (W1.alloc o))
    (hY : ∀ pre x W, J pre W → pre.length < (blkL l).length → (pre ++ [x] : List (Nat × Nat)) <+: (blkL l).zipIdx → YieldAt F (n - 1) Tryd.prog y (encB x) W fun e W' =>
      (e = .returned (.bool true) ∧ J (pre ++ [x]) W' ∧ KpW Wr W W') ∨ (e = .returned (.bool false) ∧ Jx (pre ++ [x]) W'))
    (hbox : W.cell? ⟨B, 0, none⟩ = some (.slice A l.length c)) (hi : ItOk Wr n0 W A l) (h0 : J [] W) :
    CallsIn F n Tryd.prog 28 #[.func (.yield y) #[] #[], .pointer (some ⟨B, 0, none⟩)] W fun e W' => (∃ v, e = .returned v) ∧
      ((∃ ys, ys = (blkL l).zipIdx ∧ J ys W') ∨ (∃ pre, pre <+: (blkL l).zipIdx ∧ Jx pre W')) := by
  have HG := Lib.hid (ok_good l hok)
  have HOK := Lib.hid hok
  have HW := Lib.hid hw
  have HJ := Lib.hid hJ
  have HY := Lib.hid hY
  have HI := Lib.hid hi
  clear hw hJ hY hi hok
  refine callsIn_of_wp Tryd.func28 rfl h ?_ hro
  simp only [Tryd.ntmps28, List.size_toArray, List.length_cons, List.length_nil, Nat.reduceAdd, Nat.reduceSub, Array.replicate_succ, Array.replicate_zero, List.push_toArray, List.append_toArray, List.nil_append, List.cons_append]
  gi_wp2
  apply wpIn_scope
  gi_wp2
  apply wpIn_label
  gi_wp2
  gi_loopw [9, 3, 5, 6] (fun i s _ _ wr => ∃ k : Nat, k ≤ l.length ∧ i = .int .i64 (k : Int) ∧ s = .int .i64 ((blkL (l.take k)).length : Int) ∧ J (blkL (l.take k)).zipIdx wr ∧ ItOk Wr n0 wr A l) (fun i _ _ _ _ => l.length - (intOf i).toNat)
  case atStart => exact ⟨0, Nat.zero_le _, rfl, rfl, h0, HI.out⟩
  case round =>
    obtain ⟨k, hk, rfl, rfl, hJs, hit⟩ := hrel
    by_cases hlt : k < l.length
    · obtain ⟨ad, rfl, hlb, d0, d1, hx⟩ := hit.xr.at_ hlt
      have hin := ok_ins HOK.out _ (List.getElem_mem hlt)
      have HPF : Hid (∀ j, (blkL (l.take k) ++ (exB l[k]).take j) <+: blkL l) := fun j => blk_prefix hlt
      have HBS := Lib.hid (blk_step hlt)
      obtain ⟨hit1, hnw⟩ := hit.alloc HW.out (.cells #[.int .i64 l[k].1, .int .i64 l[k].2] 44)
      have hj1 := HJ.out _ _ (.cells #[.int .i64 l[k].1, .int .i64 l[k].2] 44) hJs
      have hat := heap_alloc_new wr (.cells #[.int .i64 l[k].1, .int .i64 l[k].2] 44)
      have HIT1 := Lib.hid hit1
      have HNW := Lib.hid hnw
      have HJ1 := Lib.hid hj1
      have HAT := Lib.hid hat
      clear hit hJs hit1 hnw hj1 hat
      generalize blkL (l.take k) = out at *
      generalize l[k] = x at *
      obtain ⟨s, m⟩ := x
      have h1' := hin
      unfold ins at h1'
      simp only at h1' d0 d1
      obtain ⟨S, rfl⟩ : ∃ S : Nat, s = (S : Int) := ⟨s.toNat, by omega⟩
      obtain ⟨N, rfl⟩ : ∃ N : Nat, m = (N : Int) := ⟨m.toNat, by omega⟩
      have hN : (exB ((S : Int), (N : Int))).length = N := by rw [exB_len]; rfl
      have HN := Lib.hid hN
      clear hin hx hN
      gi_wp2
      generalize wr.heap.size = g at *
      gi_loopw [15, 3, 6] (fun i s _ V => ∃ (j : Nat) (o : List Nat), j ≤ N ∧ i = .int .i64 (j : Int) ∧ o = out ++ (exB ((S : Int), (N : Int))).take j ∧ s = .int .i64 (o.length : Int) ∧ J o.zipIdx V ∧ ItOk Wr n0 V (some ad) l ∧ V.heap[g]? = some (.cells #[.int .i64 (S : Int), .int .i64 (N : Int)] 44 (0, 0)) ∧ ¬ Wr V g) (fun i _ _ _ => N - (intOf i).toNat)
      case atStart => exact ⟨0, out, by omega, rfl, by simp, rfl, HJ1.out, HIT1.out, HAT.out, HNW.out⟩
      case round =>
        clear HJ1 HIT1 HAT HNW d0 d1
        obtain ⟨j, o, hj, rfl, ho, rfl, hj2, hit2, hat2, hnw2⟩ := hrel
        by_cases hjn : j < N
        · have c2 : wr.cell? ⟨g, 0, none⟩ = some (.int .i64 (S : Int)) := by rw [cell_of_row _ _ _ _ _ _ hat2]; rfl
          have hts := take_step (x := ((S : Int), (N : Int))) (j := j) (by rw [HN.out]; exact hjn)
          have ho3 : o ++ [S + j] = out ++ (exB ((S : Int), (N : Int))).take (j + 1) := by
            rw [hts, ho, List.append_assoc]
            rfl
          have hpf := HPF.out (j + 1)
          rw [← ho3] at hpf
          have hlen := hpf.length_le
          rw [List.length_append, List.length_singleton] at hlen
          have hsp := seq_prefix hpf
          rw [seq_snoc] at hsp
          have ej : IntKind.i64.wrap ((S : Int) + (j : Int)) = ((S + j : Nat) : Int) := by rw [IntKind.wrap_i64]; omega
          have hgl := HG.out.len
          obtain ⟨fn, tmps, assign, body, hy, hR⟩ := HY.out o.zipIdx (S + j, o.length) wr hj2 (by rw [List.length_zipIdx]; omega) hsp
          have hk2 := fun V (hkk : KpW Wr wr V) => hit2.kept hkk
          have hk3 := fun V (hkk : KpW Wr wr V) => (hkk hit2.san).2.2 g _ hat2 rfl hnw2
          have HK2 := Lib.hid hk2
          have HK3 := Lib.hid hk3
          have HSP := Lib.hid hsp
          have HSN := Lib.hid (seq_snoc o (S + j))
          have HO3 := Lib.hid ho3
          have HL3 : Hid ((o ++ [S + j]).length = o.length + 1) := by show _ = _; simp
          rw [← seq_snoc] at hR
          clear hj2 hit2 hat2 hnw2 hts ho3 hpf hsp hk2 hk3 ho HPF
          generalize o ++ [S + j] = o3 at *
          generalize S + j = b at *
          change (Instr.yield y #[.int .i64 (o.length : Int), .int .i64 (b : Int)]).run _ wr = _ at hy
          gi_wp2
          refine hR.mono ?_
          rintro e W3 (⟨rfl, hJ3, hkp⟩ | ⟨rfl, hJx3⟩)
          · obtain ⟨k5, k6⟩ := HK3.out W3 hkp
            have k7 := Lib.hid (HK2.out W3 hkp)
            gi_wp2
            go_roundw
            case rel => exact ⟨j + 1, o3, by omega, by go_num, HO3.out, by rw [HL3.out]; go_num, hJ3, k7.out, k5, k6⟩
            case measure => simp [intOf]; omega
          · gi_wp2
            simp only [Exit.noGoto]
            go_end0
            exact ⟨⟨_, rfl⟩, .inr ⟨_, by rw [HSN.out]; exact HSP.out, hJx3⟩⟩
        · obtain rfl : j = N := by omega
          rw [List.take_of_length_le (by rw [HN.out]; omega), ← HBS.out] at ho
          have HO := Lib.hid ho
          have HIT := Lib.hid hit2
          clear ho hit2 hat2 hnw2
          gi_wp2
          go_roundw
          case rel => exact ⟨k + 1, by omega, by go_num, by rw [HO.out], by rw [← HO.out]; exact hj2, HIT.out⟩
          case measure => simp [intOf]; omega
    · obtain rfl : k = l.length := by omega
      rw [List.take_length] at hJs
      gi_wp2
      simp only [Exit.noGoto]
      go_end0
      exact ⟨⟨_, rfl⟩, .inl ⟨_, rfl, hJs⟩⟩
end Go.Proofs.YtjconllgghangaaDoor.Ex
