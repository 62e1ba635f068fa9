/-
  MmDirty
-/
import Derived.Test.YtdbphindnnchfaaMmTail
import Derived.Test.YtdbphindnnchfaaMmPut
import Derived.Test.YtdbphindnnchfaaGA
import Derived.Lib.SlBytesRow
namespace Go.Proofs.Ytdbphindnnchfaa.Mm
open Go.RowKit Go.Maps
set_option linter.unusedVariables false

/-- The changed ones of the first k pages. -/
def dirtyL (G M : List UInt8) (k : Nat) : List Nat := (List.range k).filter fun n => !decide (page M n = page G n)
theorem dirty_succ (G M : List UInt8) (k : Nat) : dirtyL G M (k + 1) = if page M k = page G k then dirtyL G M k else dirtyL G M k ++ [k] := by
  unfold dirtyL
  rw [List.range_succ, List.filter_append]
  by_cases h : page M k = page G k
  · rw [if_pos h]; simp [h]
  · rw [if_neg h]; simp [h]
theorem dirty_le (G M : List UInt8) (k : Nat) : (dirtyL G M k).length ≤ k := by
  unfold dirtyL
  have := List.length_filter_le (fun n => !decide (page M n = page G n)) (List.range k)
  simpa using this

variable {w : World} {p gb mb : Nat} {G M : List UInt8}
set_option maxRecDepth 100000 in
set_option maxHeartbeats 400000 in
theorem mdiffers_at (h : MemAt w p gb mb G M) (n : Nat) (hn : n < 128) (x : List UInt8) (hx : x.length = 64) :
    Calls Try.prog 36 #[.pointer (some ⟨p, 0, none⟩), .int .i64 (n : Int), ag x] w fun e w' => e = .returned (.bool (!decide (x = page G n))) ∧ Keeps (fun _ => False) w w' := by
  have hlen := page_len h.gl hn
  have k1 : Keeps (fun _ => False) w (w.alloc (.cells (x.map B8).toArray 63)) := Keeps.alloc _ _ _
  have h1 := h.keep k1 (fun h => h) (fun h => h) (fun h => h)
  have p1 : PgAt (w.alloc (.cells (x.map B8).toArray 63)) w.heap.size x := heap_alloc_new w _
  have NE := Lib.hid (neqP · x (page G n) hx hlen)
  have HX := Lib.hid hx
  have HL := Lib.hid hlen
  clear h hx hlen
  go_enter Try.func36, Try.ntmps36
  go_wp2_with ((with_reducible refine at_ (op := .box 63 (.tmp 2)) ?_); refine wpList_val rfl _ (ex_box 63 (.tmp 2) rfl _ _ rfl (boxP _ x HX.out)) ?_)
  generalize w.alloc (.cells (x.map B8).toArray 63) = w1 at *
  refine (mstored_at h1 n hn).mono ?_
  rintro e w2 ⟨rfl, k2⟩
  have p2 := p1.keep k2 (fun h => h)
  have k3 : Keeps (fun _ => False) w2 (w2.alloc (.cells z64' 63)) := Keeps.alloc _ _ _
  have p3 := p2.keep k3 (fun h => h)
  obtain ⟨s1, s2, s3⟩ := (PgAt.new w2).put zs64_len HL.out
  have p4 := p3.keep s3 (fun e => by have := p2.lt; omega)
  have ST := Lib.hid s1
  have LD1 := Lib.hid (p4.get HX.out)
  have LD2 := Lib.hid (s2.get HL.out)
  have KK := Lib.hid ((k1.trans k2).trans (Keeps.thru (F'' := fun _ => False) k3 s3 (fun _ _ h => h) fun _ _ h => by omega))
  clear k1 k2 k3 s1 s2 s3 p1 p2 p3 p4 h1
  go_wp2_with (first
      | ((with_reducible refine here (op := .alloc 63) (d := some 7) ?_); refine wpList_alloc_run rfl 63 rfl _ (allocP _) ?_)
      | ((with_reducible refine here (op := .store 63 (.tmp 7) (.tmp 13)) ?_); refine wpList_store_run rfl 63 _ _ rfl _ _ rfl rfl ST.out ?_)
      | ((with_reducible refine at_ (op := .load 63 (.tmp 5)) ?_); refine wpList_val rfl _ (ex_load 63 (.tmp 5) rfl _ _ rfl LD1.out) ?_)
      | ((with_reducible refine at_ (op := .load 63 (.tmp 7)) ?_); refine wpList_val rfl _ (ex_load 63 (.tmp 7) rfl _ _ rfl LD2.out) ?_)
      | ((with_reducible refine at_ (op := .binOp .neq 63 (.tmp 17) (.tmp 18) 63) ?_); refine wpList_val rfl _ (ex_bin_agg .neq 63 63 (.tmp 17) (.tmp 18) rfl _ _ _ rfl rfl guardP (NE.out _)) ?_))
  go_ret
  exact ⟨rfl, KK.out⟩

/-- The pages told. -/
def GivesD (w : World) (l : List Nat) (e : Ending) (w' : World) : Prop := ∃ R c, e = .returned (.slice R l.length c) ∧ IR w' R l ∧ Keeps (fun _ => False) w w'

set_option maxRecDepth 100000 in
set_option maxHeartbeats 1000000 in
theorem mdirty_at (h : MemAt w p gb mb G M) : Calls Try.prog 14 #[.pointer (some ⟨p, 0, none⟩)] w (GivesD w (dirtyL G M 128)) := by
  go_enter Try.func14, Try.ntmps14
  go_wp2_with fail
  refine (mmade_at h).mono ?_
  rintro e w' ⟨rfl, rfl⟩
  go_wp2_with fail
  go_loopw [11, 3] (fun i s wr => ∃ (k : Nat) (R : Option Addr) (cap : Nat), k ≤ 128 ∧ i = .int .i64 (k : Int) ∧ s = .slice R (dirtyL G M k).length cap ∧ OwnI wr w.heap.size R cap (dirtyL G M k) ∧ Below w.heap.size w wr) (fun i _ _ => 128 - (RowKit.intOf i).toNat)
  case atStart => exact ⟨0, some ⟨w.heap.size, 0, none⟩, 0, by omega, rfl, rfl, OwnI.empty (Nat.le_refl _), (Below.refl _ _).alloc (Nat.le_refl _) _⟩
  case round =>
    obtain ⟨k, R, cap, hk, rfl, rfl, own, bel⟩ := hrel
    by_cases hlt : k < 128
    · have hm := h.keep (keeps_below bel) (fun h => h) (fun h => h) (fun h => h)
      obtain ⟨c0, c1, c2⟩ := hm.c
      obtain ⟨f, hf, hok⟩ := hm.map
      have look := hf.look Try.underlying51 zs64 (zeroP _) k hlt
      change (Instr.lookup _ _ _ _).run _ _ = .ok (.tuple #[ag ((f k).getD zs64), .bool (f k).isSome]) _ at look
      clear c0 c1
      cases hl : f k with
      | some x =>
        have e := hok.now k hlt x hl
        rw [hl] at look
        simp only [Option.getD_some, Option.isSome_some] at look
        rw [e] at look
        have LK := Lib.hid look
        have HM := Lib.hid hm
        have hpl := page_len h.ml hlt
        have HL := Lib.hid hpl
        obtain ⟨bb, hbb⟩ : ∃ bb : Bool, bb = !decide (page M k = page G k) := ⟨_, rfl⟩
        have HBB := Lib.hid hbb
        clear look e hl hok hf hm hbb x
        have e2 : (wr.alloc (.cells z64' 63)).heap.size = wr.heap.size + 1 := by simp
        obtain ⟨s1, s2, s3⟩ := (PgAt.new wr).put zs64_len (ys := page M k) hpl
        have ST := Lib.hid s1
        have k2 : Keeps (fun _ => False) wr ((wr.alloc (.cells z64' 63)).setCells wr.heap.size 0 ((page M k).map B8)) := Keeps.thru (F'' := fun _ => False) (Keeps.alloc (fun _ => False) wr _) s3 (fun _ _ h => h) fun _ _ h => by omega
        have P2 := Lib.hid s2
        have K2 := Lib.hid k2
        clear s1 s2 s3 k2 e2
        go_wp2_with (first
                | ((with_reducible refine here (op := .lookup 51 (.tmp 18) (.tmp 19) true) ?_); refine wpList_lookup_run rfl 51 _ _ true rfl _ _ _ rfl rfl LK.out ?_)
                | ((with_reducible refine here (op := .alloc 63) (d := some 5) ?_); refine wpList_alloc_run rfl 63 rfl _ (allocP _) ?_)
                | ((with_reducible refine here (op := .store 63 (.tmp 5) (.tmp 21)) ?_); refine wpList_store_run rfl 63 _ _ rfl _ _ rfl rfl ST.out ?_))
        generalize (wr.alloc (.cells z64' 63)).setCells wr.heap.size 0 ((page M k).map B8) = wS at *
        refine wp_region_held (S := fun W => PgAt W wr.heap.size (page M k)) (by kernel_rfl) ?_
        change wpAnyH _ _ _ _ _ _ _ _ wS.drew
        have kd : Keeps (fun _ => False) wS wS.drew := Keeps.drew _ _
        have HS : (fun W => PgAt W wr.heap.size (page M k)) wS.drew := P2.out.keep kd (fun h => h)
        have K2 := Lib.hid (K2.out.trans kd)
        have HM2 := Lib.hid (HM.out.keep K2.out (fun h => h) (fun h => h) (fun h => h))
        clear P2 kd HM
        generalize wS.drew = w2 at *
        refine wpAnyH_take (oi := ⟨_, _, _, _, _, _⟩) (i := 0) (v := .bool true) rfl (by kernel_rfl) (by kernel_rfl) (by kernel_rfl) (fun _ _ _ h => h) (Or.inl ⟨by rfl, fun _ _ => rfl⟩) HS ?_
        simp only [Act.put, List.setIfInBounds_toArray, List.set_cons_zero, List.set_cons_succ]
        refine wpAnyH_take (oi := ⟨_, _, _, _, _, _⟩) (i := 1) (v := .bool true) rfl (by kernel_rfl) (by kernel_rfl) (by kernel_rfl) (fun _ _ _ h => h) (Or.inl ⟨by rfl, fun _ _ => rfl⟩) HS ?_
        simp only [Act.put, List.setIfInBounds_toArray, List.set_cons_zero, List.set_cons_succ]
        refine wpAnyH_take (oi := ⟨_, _, _, _, _, _⟩) (i := 2) (v := .pointer (some ⟨p, 0, none⟩)) rfl (by kernel_rfl) (by kernel_rfl) (by kernel_rfl) (fun _ _ _ h => h) (Or.inl ⟨by rfl, fun _ _ => rfl⟩) HS ?_
        simp only [Act.put, List.setIfInBounds_toArray, List.set_cons_zero, List.set_cons_succ]
        refine wpAnyH_take (oi := ⟨_, _, _, _, _, _⟩) (i := 3) (v := .pointer (some ⟨p, 0, none⟩)) rfl (by kernel_rfl) (by kernel_rfl) (by kernel_rfl) (fun _ _ _ h => h) (Or.inl ⟨by rfl, fun _ _ => rfl⟩) HS ?_
        simp only [Act.put, List.setIfInBounds_toArray, List.set_cons_zero, List.set_cons_succ]
        refine wpAnyH_take (oi := ⟨_, _, _, _, _, _⟩) (i := 4) (v := .pointer (some ⟨p, 0, none⟩)) rfl (by kernel_rfl) (by kernel_rfl) (by kernel_rfl) (fun _ _ _ h => h) (Or.inl ⟨by rfl, fun _ _ => by go_simp⟩) HS ?_
        simp only [Act.put, List.setIfInBounds_toArray, List.set_cons_zero, List.set_cons_succ]
        refine wpAnyH_take (oi := ⟨_, _, _, _, _, _⟩) (i := 5) (v := .int .i64 (k : Int)) rfl (by kernel_rfl) (by kernel_rfl) (by kernel_rfl) (fun _ _ _ h => h) (Or.inl ⟨by rfl, fun _ _ => rfl⟩) HS ?_
        simp only [Act.put, List.setIfInBounds_toArray, List.set_cons_zero, List.set_cons_succ]
        refine wpAnyH_take (oi := ⟨_, _, _, _, _, _⟩) (i := 6) (v := ag (page M k)) rfl (by kernel_rfl) (by kernel_rfl) (by kernel_rfl) (fun _ _ _ h => h) (yif_load rfl 63 (.tmp 5) rfl _ _ rfl fun W (h : PgAt W wr.heap.size (page M k)) => h.get HL.out) HS ?_
        simp only [Act.put, List.setIfInBounds_toArray, List.set_cons_zero, List.set_cons_succ]
        refine wpAnyH_all (rs := [7]) (by kernel_rfl) (by simp) fun i hi => ?_
        obtain rfl : i = 7 := by simpa using hi
        clear hi
        refine op_call (om := ⟨_, _, _, _, _, _⟩) (fn := 36) (args := #[.pointer (some ⟨p, 0, none⟩), .int .i64 (k : Int), ag (page M k)]) (R := fun u w' => u = .bool bb ∧ Keeps (fun _ => False) w2 w') rfl rfl (by go_simp)
            ((mdiffers_at HM2.out k hlt (page M k) HL.out).mono fun e w' ⟨he, h1⟩ => ⟨_, he, by rw [HBB.out], h1⟩) _ _ rfl rfl ?_
        rintro u w3 ⟨rfl, k3⟩
        have HS3 := HS.keep k3 (fun h => h)
        refine ⟨HS3, ?_⟩
        simp only [Act.put, List.setIfInBounds_toArray, List.set_cons_zero, List.set_cons_succ]
        have K2 := Lib.hid (K2.out.trans k3)
        have OWN := Lib.hid (own.below ((K2.out).toBelow wr.heap.size (Nat.le_refl _) (fun _ h => h.elim)))
        have BEL := Lib.hid (bel.trans ((K2.out).toBelow w.heap.size bel.size (fun _ h => h.elim)))
        have HX3 := Lib.hid HS3
        clear HS HS3 k3 K2 own bel
        refine wpAnyH_take (oi := ⟨_, _, _, _, _, _⟩) (i := 8) (v := .bool bb) rfl (by kernel_rfl) (by kernel_rfl) (by kernel_rfl) (fun _ _ _ h => h) (Or.inl ⟨by rfl, fun _ _ => by go_simp⟩) HX3.out ?_
        simp only [Act.put, List.setIfInBounds_toArray, List.set_cons_zero, List.set_cons_succ]
        refine wpAnyH_done (by kernel_rfl) ?_ _
        clear HX3
        cases bb
        · have SU := Lib.hid (show dirtyL G M (k + 1) = dirtyL G M k by rw [dirty_succ, if_pos (by have := HBB.out; simpa using this.symm)])
          clear HBB
          go_wp2_with fail
          go_roundw
          case rel => exact ⟨k + 1, R, cap, by omega, by go_num, by rw [SU.out], by rw [SU.out]; exact OWN.out, BEL.out⟩
          case measure => simp [RowKit.intOf]; omega
        · have hs : dirtyL G M (k + 1) = dirtyL G M k ++ [k] := by rw [dirty_succ, if_neg (by have := HBB.out; simpa using this.symm)]
          have hle := dirty_le G M k
          have ownA : OwnI (w3.alloc (.cells #[.int .i64 (k : Int)] 3)) w.heap.size R cap (dirtyL G M k) := OWN.out.alloc _
          have belA : Below w.heap.size w (w3.alloc (.cells #[.int .i64 (k : Int)] 3)) := BEL.out.alloc BEL.out.size _
          obtain ⟨R', cap', w4, hap, own3, b3⟩ := ownA.app belA.size (by omega) k w3.heap.size (by rw [cell_of_row _ _ _ _ _ _ (heap_alloc_new w3 _)]; rfl)
          rw [← hs] at own3
          have HL : Hid ((dirtyL G M (k + 1)).length = (dirtyL G M k).length + 1) := by show _ = _; rw [hs]; simp
          have HAP := Lib.hid hap
          have OWN2 := Lib.hid own3
          have BEL2 := Lib.hid (belA.trans b3)
          clear HBB hs ownA belA hap own3 b3 OWN BEL
          generalize dirtyL G M k = l at *
          go_wp2_with (first | (at_builtin; refine wpList_append_run rfl _ _ 37 rfl _ HAP.out ?_) | fail)
          go_roundw
          case rel => exact ⟨k + 1, R', cap', by omega, by go_num, by rw [HL.out], OWN2.out, BEL2.out⟩
          case measure => simp [RowKit.intOf]; omega
      | none =>
        have e := hok.was k hlt hl
        have SU := Lib.hid (show dirtyL G M (k + 1) = dirtyL G M k by rw [dirty_succ, if_pos e])
        rw [hl] at look
        simp only [Option.getD_none, Option.isSome_none] at look
        obtain ⟨z, hz⟩ : ∃ z, z = zs64 := ⟨_, rfl⟩
        rw [← hz] at look
        have hpl : z.length = 64 := by rw [hz, zs64_len]
        have LK := Lib.hid look
        clear look e hl hok hf hm hz
        have e2 : (wr.alloc (.cells z64' 63)).heap.size = wr.heap.size + 1 := by simp
        obtain ⟨s1, s2, s3⟩ := (PgAt.new wr).put zs64_len (ys := z) hpl
        have ST := Lib.hid s1
        have k2 : Keeps (fun _ => False) wr ((wr.alloc (.cells z64' 63)).setCells wr.heap.size 0 ((z).map B8)) := Keeps.thru (F'' := fun _ => False) (Keeps.alloc (fun _ => False) wr _) s3 (fun _ _ h => h) fun _ _ h => by omega
        have P2 := Lib.hid s2
        have K2 := Lib.hid k2
        clear s1 s2 s3 k2 e2
        go_wp2_with (first
                | ((with_reducible refine here (op := .lookup 51 (.tmp 18) (.tmp 19) true) ?_); refine wpList_lookup_run rfl 51 _ _ true rfl _ _ _ rfl rfl LK.out ?_)
                | ((with_reducible refine here (op := .alloc 63) (d := some 5) ?_); refine wpList_alloc_run rfl 63 rfl _ (allocP _) ?_)
                | ((with_reducible refine here (op := .store 63 (.tmp 5) (.tmp 21)) ?_); refine wpList_store_run rfl 63 _ _ rfl _ _ rfl rfl ST.out ?_))
        generalize (wr.alloc (.cells z64' 63)).setCells wr.heap.size 0 ((z).map B8) = wS at *
        refine wp_region_held (S := fun W => PgAt W wr.heap.size (z)) (by kernel_rfl) ?_
        change wpAnyH _ _ _ _ _ _ _ _ wS.drew
        have kd : Keeps (fun _ => False) wS wS.drew := Keeps.drew _ _
        have HS : (fun W => PgAt W wr.heap.size (z)) wS.drew := P2.out.keep kd (fun h => h)
        have K2 := Lib.hid (K2.out.trans kd)
        clear P2 kd
        generalize wS.drew = w2 at *
        refine wpAnyH_take (oi := ⟨_, _, _, _, _, _⟩) (i := 0) (v := .bool false) rfl (by kernel_rfl) (by kernel_rfl) (by kernel_rfl) (fun _ _ _ h => h) (Or.inl ⟨by rfl, fun _ _ => rfl⟩) HS ?_
        simp only [Act.put, List.setIfInBounds_toArray, List.set_cons_zero, List.set_cons_succ]
        refine wpAnyH_take (oi := ⟨_, _, _, _, _, _⟩) (i := 1) (v := .bool false) rfl (by kernel_rfl) (by kernel_rfl) (by kernel_rfl) (fun _ _ _ h => h) (Or.inl ⟨by rfl, fun _ _ => rfl⟩) HS ?_
        simp only [Act.put, List.setIfInBounds_toArray, List.set_cons_zero, List.set_cons_succ]
        refine wpAnyH_take (oi := ⟨_, _, _, _, _, _⟩) (i := 2) (v := undef) rfl (by kernel_rfl) (by kernel_rfl) (by kernel_rfl) (fun _ _ _ h => h) (Or.inr ⟨by rfl, rfl⟩) HS ?_
        simp only [Act.put, List.setIfInBounds_toArray, List.set_cons_zero, List.set_cons_succ]
        refine wpAnyH_take (oi := ⟨_, _, _, _, _, _⟩) (i := 3) (v := undef) rfl (by kernel_rfl) (by kernel_rfl) (by kernel_rfl) (fun _ _ _ h => h) (Or.inr ⟨by rfl, rfl⟩) HS ?_
        simp only [Act.put, List.setIfInBounds_toArray, List.set_cons_zero, List.set_cons_succ]
        refine wpAnyH_take (oi := ⟨_, _, _, _, _, _⟩) (i := 4) (v := undef) rfl (by kernel_rfl) (by kernel_rfl) (by kernel_rfl) (fun _ _ _ h => h) (Or.inr ⟨by rfl, rfl⟩) HS ?_
        simp only [Act.put, List.setIfInBounds_toArray, List.set_cons_zero, List.set_cons_succ]
        refine wpAnyH_take (oi := ⟨_, _, _, _, _, _⟩) (i := 5) (v := undef) rfl (by kernel_rfl) (by kernel_rfl) (by kernel_rfl) (fun _ _ _ h => h) (Or.inr ⟨by rfl, rfl⟩) HS ?_
        simp only [Act.put, List.setIfInBounds_toArray, List.set_cons_zero, List.set_cons_succ]
        refine wpAnyH_take (oi := ⟨_, _, _, _, _, _⟩) (i := 6) (v := undef) rfl (by kernel_rfl) (by kernel_rfl) (by kernel_rfl) (fun _ _ _ h => h) (Or.inr ⟨by rfl, rfl⟩) HS ?_
        simp only [Act.put, List.setIfInBounds_toArray, List.set_cons_zero, List.set_cons_succ]
        refine wpAnyH_take (oi := ⟨_, _, _, _, _, _⟩) (i := 7) (v := undef) rfl (by kernel_rfl) (by kernel_rfl) (by kernel_rfl) (fun _ _ _ h => h) (Or.inr ⟨by rfl, rfl⟩) HS ?_
        simp only [Act.put, List.setIfInBounds_toArray, List.set_cons_zero, List.set_cons_succ]
        refine wpAnyH_take (oi := ⟨_, _, _, _, _, _⟩) (i := 8) (v := .bool false) rfl (by kernel_rfl) (by kernel_rfl) (by kernel_rfl) (fun _ _ _ h => h) (Or.inl ⟨by rfl, fun _ _ => by go_simp⟩) HS ?_
        simp only [Act.put, List.setIfInBounds_toArray, List.set_cons_zero, List.set_cons_succ]
        have OWN := Lib.hid (own.below ((K2.out).toBelow wr.heap.size (Nat.le_refl _) (fun _ h => h.elim)))
        have BEL := Lib.hid (bel.trans ((K2.out).toBelow w.heap.size bel.size (fun _ h => h.elim)))
        clear HS K2 own bel
        refine wpAnyH_done (by kernel_rfl) ?_ _
        go_wp2_with fail
        go_roundw
        case rel => exact ⟨k + 1, R, cap, by omega, by go_num, by rw [SU.out], by rw [SU.out]; exact OWN.out, BEL.out⟩
        case measure => simp [RowKit.intOf]; omega
    · obtain rfl : k = 128 := by omega
      go_wp2_with fail
      go_ret
      exact ⟨R, cap, rfl, own.ir, keeps_below bel⟩

/-! ### the document's -/
section
variable {o : Oper} {ρ : Operand → Value} {w : World}
theorem ex_mul64 (x : Operand) (ho : o.op = .binOp .mul 3 x (.const (.int .i64 64)) 3) (k : Nat) (hk : k ≤ 128) (hx : ρ x = .int .i64 (k : Int)) (hc : ρ (.const (.int .i64 64)) = .int .i64 64) : (execOp ρ o).run Try.prog w = .ok (.value (.int .i64 ((k * 64 : Nat) : Int))) w := by
  have e : IntKind.i64.wrap ((k : Int) * 64) = ((k * 64 : Nat) : Int) := by rw [IntWalk.i64_in _ (by omega)]; omega
  unfold execOp
  simp only [ho, hx, hc]
  go_simp
  try rw [IntWalk.i64_in _ (by omega)]
theorem ex_add1 (x : Operand) (ho : o.op = .binOp .add 3 x (.const (.int .i64 1)) 3) (k : Nat) (hk : k < 128) (hx : ρ x = .int .i64 (k : Int)) (hc : ρ (.const (.int .i64 1)) = .int .i64 1) : (execOp ρ o).run Try.prog w = .ok (.value (.int .i64 ((k + 1 : Nat) : Int))) w := by
  have e : IntKind.i64.wrap ((k : Int) + 1) = ((k + 1 : Nat) : Int) := by rw [IntWalk.i64_in _ (by omega)]; omega
  unfold execOp
  simp only [ho, hx, hc]
  go_simp
  try rw [IntWalk.i64_in _ (by omega)]
theorem ex_cut (x y z : Operand) (ho : o.op = .slice 22 x (some y) (some z) none) (b len cap k : Nat) (hh : (k + 1) * 64 ≤ cap) (hx : ρ x = .slice (some ⟨b, 0, none⟩) len cap) (hy : ρ y = .int .i64 ((k * 64 : Nat) : Int)) (hz : ρ z = .int .i64 (((k + 1) * 64 : Nat) : Int)) (w : World) :
    (execOp ρ o).run Try.prog w = .ok (.value (.slice (some ⟨b, k * 64, none⟩) 64 (cap - k * 64))) w := by
  have h := Lib.run_slice_window (P := Try.prog) w 22 5 Try.underlying22 sizeU b 0 len cap (k * 64) ((k + 1) * 64) (by omega) hh
  rw [Nat.zero_add, show (k + 1) * 64 - k * 64 = 64 by omega] at h
  unfold execOp
  simp only [ho, hx, hy, hz, Option.map_some, Option.map_none]
  rw [Sem.run_bind, run_sliceAt_slice (P := Try.prog) w 22 _ _ _ _ (by simp [Program.elem, Try.underlying22]), h]
  rfl
theorem neqS (w : World) (xs ys : List UInt8) : (binOp .neq 9 (.string ⟨xs.toArray⟩) (.string ⟨ys.toArray⟩)).run Try.prog w = .ok (.bool (!decide (xs = ys))) w := by
  rw [binOp_string_neq, Lib.toList_data, Lib.toList_data, Sem.run_pure]
  congr 2
  show (!(xs == ys)) = _
  by_cases h : xs = ys <;> simp [h]
theorem ex_neqS (x y : Operand) (ho : o.op = .binOp .neq 9 x y 9) (xs ys : List UInt8) (hx : ρ x = .string ⟨xs.toArray⟩) (hy : ρ y = .string ⟨ys.toArray⟩) : (execOp ρ o).run Try.prog w = .ok (.value (.bool (!decide (xs = ys)))) w := by
  unfold execOp
  simp only [ho, hx, hy]
  go_simp
  by_cases h : xs = ys <;> simp [h]
end
theorem conv_page {W : World} {B b c : Nat} {M : List UInt8} (h : Own8 W B 5 (some ⟨b, 0, none⟩) c M) (hl : M.length = 8192) (k : Nat) (hk : k < 128) (n : Nat) : (convert 22 9 (.slice (some ⟨b, k * 64, none⟩) 64 n)).run Try.prog W = .ok (.string ⟨(page M k).toArray⟩) W := by
  have hp := page_len hl hk
  have hb : BR W W.heap.size (some ⟨b, k * 64, none⟩) (page M k) := by
    intro _
    refine ⟨_, rfl, h.lt'.2, fun j u hu => ?_⟩
    have e : (⟨b, k * 64, none⟩ : Addr).add j = ⟨b, k * 64 + j, none⟩ := by unfold Addr.add; split <;> simp_all
    have hj : j < 64 := by
      have := (List.getElem?_eq_some_iff.1 hu).1
      omega
    obtain ⟨g, e2, _, _, h1, _⟩ := h.at_ (k := k * 64 + j) (by omega)
    cases e2
    rw [e, h1, ← getD_page M k j hj, List.getD_eq_getElem?_getD, hu]
    rfl
  have := run_str (P := Try.prog) W _ 22 9 5 _ (page M k) n hb Try.underlying22 Try.underlying5 Try.underlying9
  rw [hp] at this
  exact this
set_option maxRecDepth 100000 in
set_option maxHeartbeats 1000000 in
theorem rdirty_at {mi q b c d e : Nat} (h : RefH w mi q b c d e M G) : Calls Try.prog 15 #[.pointer (some ⟨q, 0, none⟩)] w (GivesD w (dirtyL G M 128)) := by
  go_enter Try.func15, Try.ntmps15
  go_wp2_with fail
  go_loopw [4, 3] (fun i s wr => ∃ (k : Nat) (R : Option Addr) (cap : Nat), k ≤ 128 ∧ i = .int .i64 (k : Int) ∧ s = .slice R (dirtyL G M k).length cap ∧ OwnI wr w.heap.size R cap (dirtyL G M k) ∧ Below w.heap.size w wr) (fun i _ _ => 128 - (RowKit.intOf i).toNat)
  case atStart => exact ⟨0, none, 0, by omega, rfl, rfl, World.ownsRow_nil _ _ _ _, Below.refl _ _⟩
  case round =>
    obtain ⟨k, R, cap, hk, rfl, rfl, own, bel⟩ := hrel
    by_cases hlt : k < 128
    · have hr := h.keep (keeps_below bel) (fun _ _ _ h => h)
      have HR := Lib.hid hr
      have hc1 := hr.now.cap_le
      have hc2 := hr.was.cap_le
      rw [hr.bl] at hc1
      rw [hr.gl] at hc2
      clear hr
      go_wp2_with fail
      refine wp_region_held (S := fun W => RefH W mi q b c d e M G) (by kernel_rfl) ?_
      change wpAnyH _ _ _ _ _ _ _ _ wr.drew
      have kd : Keeps (fun _ => False) wr wr.drew := Keeps.drew _ _
      have HS : (fun W => RefH W mi q b c d e M G) wr.drew := HR.out.keep kd (fun _ _ _ h => h)
      have OWN := Lib.hid (own.below (kd.toBelow wr.heap.size (Nat.le_refl _) (fun _ h => h.elim)))
      have BEL := Lib.hid (bel.trans (kd.toBelow w.heap.size bel.size (fun _ h => h.elim)))
      clear kd own bel HR
      generalize wr.drew = w3 at *
      refine wpAnyH_take (oi := ⟨_, _, _, _, _, _⟩) (i := 0) (v := .pointer (some ⟨q, 0, none⟩)) rfl (by kernel_rfl) (by kernel_rfl) (by kernel_rfl) (fun _ _ _ h => h) (Or.inl ⟨by rfl, fun _ _ => rfl⟩) HS ?_
      simp only [Act.put, List.setIfInBounds_toArray, List.set_cons_zero, List.set_cons_succ]
      refine wpAnyH_take (oi := ⟨_, _, _, _, _, _⟩) (i := 1) (v := .pointer (some ⟨q, 0, none⟩)) rfl (by kernel_rfl) (by kernel_rfl) (by kernel_rfl) (fun _ _ _ h => h) (Or.inl ⟨by rfl, fun _ _ => rfl⟩) HS ?_
      simp only [Act.put, List.setIfInBounds_toArray, List.set_cons_zero, List.set_cons_succ]
      refine wpAnyH_take (oi := ⟨_, _, _, _, _, _⟩) (i := 2) (v := .pointer (some ⟨q, 0, none⟩)) rfl (by kernel_rfl) (by kernel_rfl) (by kernel_rfl) (fun _ _ _ h => h) (Or.inl ⟨by rfl, fun _ _ => by go_simp⟩) HS ?_
      simp only [Act.put, List.setIfInBounds_toArray, List.set_cons_zero, List.set_cons_succ]
      refine wpAnyH_take (oi := ⟨_, _, _, _, _, _⟩) (i := 3) (v := .slice (some ⟨b, 0, none⟩) 8192 c) rfl (by kernel_rfl) (by kernel_rfl) (by kernel_rfl) (fun _ _ _ h => h) (yif_load rfl 22 (.tmp 11) rfl _ _ rfl fun W (h : RefH W mi q b c d e M G) => load_one aggS h.cs.1) HS ?_
      simp only [Act.put, List.setIfInBounds_toArray, List.set_cons_zero, List.set_cons_succ]
      refine wpAnyH_take (oi := ⟨_, _, _, _, _, _⟩) (i := 4) (v := .int .i64 (k : Int)) rfl (by kernel_rfl) (by kernel_rfl) (by kernel_rfl) (fun _ _ _ h => h) (Or.inl ⟨by rfl, fun _ _ => rfl⟩) HS ?_
      simp only [Act.put, List.setIfInBounds_toArray, List.set_cons_zero, List.set_cons_succ]
      refine wpAnyH_take (oi := ⟨_, _, _, _, _, _⟩) (i := 5) (v := .int .i64 ((k * 64 : Nat) : Int)) rfl (by kernel_rfl) (by kernel_rfl) (by kernel_rfl) (fun _ _ _ h => h) (Or.inl ⟨by rfl, fun _ _ => ex_mul64 _ rfl k (Nat.le_of_lt hlt) rfl rfl⟩) HS ?_
      simp only [Act.put, List.setIfInBounds_toArray, List.set_cons_zero, List.set_cons_succ]
      refine wpAnyH_take (oi := ⟨_, _, _, _, _, _⟩) (i := 6) (v := .int .i64 (k : Int)) rfl (by kernel_rfl) (by kernel_rfl) (by kernel_rfl) (fun _ _ _ h => h) (Or.inl ⟨by rfl, fun _ _ => rfl⟩) HS ?_
      simp only [Act.put, List.setIfInBounds_toArray, List.set_cons_zero, List.set_cons_succ]
      refine wpAnyH_take (oi := ⟨_, _, _, _, _, _⟩) (i := 7) (v := .int .i64 ((k + 1 : Nat) : Int)) rfl (by kernel_rfl) (by kernel_rfl) (by kernel_rfl) (fun _ _ _ h => h) (Or.inl ⟨by rfl, fun _ _ => ex_add1 _ rfl k hlt rfl rfl⟩) HS ?_
      simp only [Act.put, List.setIfInBounds_toArray, List.set_cons_zero, List.set_cons_succ]
      refine wpAnyH_take (oi := ⟨_, _, _, _, _, _⟩) (i := 8) (v := .int .i64 (((k + 1) * 64 : Nat) : Int)) rfl (by kernel_rfl) (by kernel_rfl) (by kernel_rfl) (fun _ _ _ h => h) (Or.inl ⟨by rfl, fun _ _ => ex_mul64 _ rfl (k + 1) (by omega) rfl rfl⟩) HS ?_
      simp only [Act.put, List.setIfInBounds_toArray, List.set_cons_zero, List.set_cons_succ]
      refine wpAnyH_take (oi := ⟨_, _, _, _, _, _⟩) (i := 9) (v := .slice (some ⟨b, k * 64, none⟩) 64 (c - k * 64)) rfl (by kernel_rfl) (by kernel_rfl) (by kernel_rfl) (fun _ _ _ h => h) (Or.inl ⟨by rfl, fun W _ => ex_cut _ _ _ rfl b 8192 c k (by omega) rfl rfl rfl W⟩) HS ?_
      simp only [Act.put, List.setIfInBounds_toArray, List.set_cons_zero, List.set_cons_succ]
      refine wpAnyH_take (oi := ⟨_, _, _, _, _, _⟩) (i := 10) (v := .string ⟨(page M k).toArray⟩) rfl (by kernel_rfl) (by kernel_rfl) (by kernel_rfl) (fun _ _ _ h => h) (Or.inl ⟨by rfl, fun W (h : RefH W mi q b c d e M G) => ex_convert 22 9 (.tmp 18) rfl _ _ rfl (conv_page h.now h.bl k hlt _)⟩) HS ?_
      simp only [Act.put, List.setIfInBounds_toArray, List.set_cons_zero, List.set_cons_succ]
      refine wpAnyH_take (oi := ⟨_, _, _, _, _, _⟩) (i := 11) (v := .pointer (some ⟨q, 0, none⟩)) rfl (by kernel_rfl) (by kernel_rfl) (by kernel_rfl) (fun _ _ _ h => h) (Or.inl ⟨by rfl, fun _ _ => rfl⟩) HS ?_
      simp only [Act.put, List.setIfInBounds_toArray, List.set_cons_zero, List.set_cons_succ]
      refine wpAnyH_take (oi := ⟨_, _, _, _, _, _⟩) (i := 12) (v := .pointer (some ⟨q, 0, none⟩)) rfl (by kernel_rfl) (by kernel_rfl) (by kernel_rfl) (fun _ _ _ h => h) (Or.inl ⟨by rfl, fun _ _ => rfl⟩) HS ?_
      simp only [Act.put, List.setIfInBounds_toArray, List.set_cons_zero, List.set_cons_succ]
      refine wpAnyH_take (oi := ⟨_, _, _, _, _, _⟩) (i := 13) (v := .pointer (some ⟨q, 1, none⟩)) rfl (by kernel_rfl) (by kernel_rfl) (by kernel_rfl) (fun _ _ _ h => h) (Or.inl ⟨by rfl, fun _ _ => by go_simp⟩) HS ?_
      simp only [Act.put, List.setIfInBounds_toArray, List.set_cons_zero, List.set_cons_succ]
      refine wpAnyH_take (oi := ⟨_, _, _, _, _, _⟩) (i := 14) (v := .slice (some ⟨d, 0, none⟩) 8192 e) rfl (by kernel_rfl) (by kernel_rfl) (by kernel_rfl) (fun _ _ _ h => h) (yif_load rfl 22 (.tmp 22) rfl _ _ rfl fun W (h : RefH W mi q b c d e M G) => load_one aggS h.cs.2.1) HS ?_
      simp only [Act.put, List.setIfInBounds_toArray, List.set_cons_zero, List.set_cons_succ]
      refine wpAnyH_take (oi := ⟨_, _, _, _, _, _⟩) (i := 15) (v := .int .i64 (k : Int)) rfl (by kernel_rfl) (by kernel_rfl) (by kernel_rfl) (fun _ _ _ h => h) (Or.inl ⟨by rfl, fun _ _ => rfl⟩) HS ?_
      simp only [Act.put, List.setIfInBounds_toArray, List.set_cons_zero, List.set_cons_succ]
      refine wpAnyH_take (oi := ⟨_, _, _, _, _, _⟩) (i := 16) (v := .int .i64 ((k * 64 : Nat) : Int)) rfl (by kernel_rfl) (by kernel_rfl) (by kernel_rfl) (fun _ _ _ h => h) (Or.inl ⟨by rfl, fun _ _ => ex_mul64 _ rfl k (Nat.le_of_lt hlt) rfl rfl⟩) HS ?_
      simp only [Act.put, List.setIfInBounds_toArray, List.set_cons_zero, List.set_cons_succ]
      refine wpAnyH_take (oi := ⟨_, _, _, _, _, _⟩) (i := 17) (v := .int .i64 (k : Int)) rfl (by kernel_rfl) (by kernel_rfl) (by kernel_rfl) (fun _ _ _ h => h) (Or.inl ⟨by rfl, fun _ _ => rfl⟩) HS ?_
      simp only [Act.put, List.setIfInBounds_toArray, List.set_cons_zero, List.set_cons_succ]
      refine wpAnyH_take (oi := ⟨_, _, _, _, _, _⟩) (i := 18) (v := .int .i64 ((k + 1 : Nat) : Int)) rfl (by kernel_rfl) (by kernel_rfl) (by kernel_rfl) (fun _ _ _ h => h) (Or.inl ⟨by rfl, fun _ _ => ex_add1 _ rfl k hlt rfl rfl⟩) HS ?_
      simp only [Act.put, List.setIfInBounds_toArray, List.set_cons_zero, List.set_cons_succ]
      refine wpAnyH_take (oi := ⟨_, _, _, _, _, _⟩) (i := 19) (v := .int .i64 (((k + 1) * 64 : Nat) : Int)) rfl (by kernel_rfl) (by kernel_rfl) (by kernel_rfl) (fun _ _ _ h => h) (Or.inl ⟨by rfl, fun _ _ => ex_mul64 _ rfl (k + 1) (by omega) rfl rfl⟩) HS ?_
      simp only [Act.put, List.setIfInBounds_toArray, List.set_cons_zero, List.set_cons_succ]
      refine wpAnyH_take (oi := ⟨_, _, _, _, _, _⟩) (i := 20) (v := .slice (some ⟨d, k * 64, none⟩) 64 (e - k * 64)) rfl (by kernel_rfl) (by kernel_rfl) (by kernel_rfl) (fun _ _ _ h => h) (Or.inl ⟨by rfl, fun W _ => ex_cut _ _ _ rfl d 8192 e k (by omega) rfl rfl rfl W⟩) HS ?_
      simp only [Act.put, List.setIfInBounds_toArray, List.set_cons_zero, List.set_cons_succ]
      refine wpAnyH_take (oi := ⟨_, _, _, _, _, _⟩) (i := 21) (v := .string ⟨(page G k).toArray⟩) rfl (by kernel_rfl) (by kernel_rfl) (by kernel_rfl) (fun _ _ _ h => h) (Or.inl ⟨by rfl, fun W (h : RefH W mi q b c d e M G) => ex_convert 22 9 (.tmp 29) rfl _ _ rfl (conv_page h.was h.gl k hlt _)⟩) HS ?_
      simp only [Act.put, List.setIfInBounds_toArray, List.set_cons_zero, List.set_cons_succ]
      refine wpAnyH_take (oi := ⟨_, _, _, _, _, _⟩) (i := 22) (v := .bool (!decide (page M k = page G k))) rfl (by kernel_rfl) (by kernel_rfl) (by kernel_rfl) (fun _ _ _ h => h) (Or.inl ⟨by rfl, fun _ _ => ex_neqS _ _ rfl (page M k) (page G k) rfl rfl⟩) HS ?_
      simp only [Act.put, List.setIfInBounds_toArray, List.set_cons_zero, List.set_cons_succ]
      refine wpAnyH_done (by kernel_rfl) ?_ _
      clear HS hc1 hc2
      by_cases he : page M k = page G k
      · have SU := Lib.hid (show dirtyL G M (k + 1) = dirtyL G M k by rw [dirty_succ, if_pos he])
        have hd : (!decide (page M k = page G k)) = false := by simp [he]
        rw [hd]
        clear hd he
        go_wp2_with fail
        go_roundw
        case rel => exact ⟨k + 1, R, cap, by omega, by go_num, by rw [SU.out], by rw [SU.out]; exact OWN.out, BEL.out⟩
        case measure => simp [RowKit.intOf]; omega
      · have hs : dirtyL G M (k + 1) = dirtyL G M k ++ [k] := by rw [dirty_succ, if_neg he]
        have hd : (!decide (page M k = page G k)) = true := by simp [he]
        rw [hd]
        have hle := dirty_le G M k
        have ownA : OwnI (w3.alloc (.cells #[.int .i64 (k : Int)] 3)) w.heap.size R cap (dirtyL G M k) := OWN.out.alloc _
        have belA : Below w.heap.size w (w3.alloc (.cells #[.int .i64 (k : Int)] 3)) := BEL.out.alloc BEL.out.size _
        obtain ⟨R', cap', w4, hap, own3, b3⟩ := ownA.app belA.size (by omega) k w3.heap.size (by rw [cell_of_row _ _ _ _ _ _ (heap_alloc_new w3 _)]; rfl)
        rw [← hs] at own3
        have HL : Hid ((dirtyL G M (k + 1)).length = (dirtyL G M k).length + 1) := by show _ = _; rw [hs]; simp
        have HAP := Lib.hid hap
        have OWN2 := Lib.hid own3
        have BEL2 := Lib.hid (belA.trans b3)
        clear hs ownA belA hap own3 b3 OWN BEL hd he
        generalize dirtyL G M k = l at *
        go_wp2_with (first | (at_builtin; refine wpList_append_run rfl _ _ 37 rfl _ HAP.out ?_) | fail)
        go_roundw
        case rel => exact ⟨k + 1, R', cap', by omega, by go_num, by rw [HL.out], OWN2.out, BEL2.out⟩
        case measure => simp [RowKit.intOf]; omega
    · obtain rfl : k = 128 := by omega
      go_wp2_with fail
      go_ret
      exact ⟨R, cap, rfl, own.ir, keeps_below bel⟩

/-! ### lists alike -/
set_option maxRecDepth 100000 in
set_option maxHeartbeats 400000 in
theorem ints_same {R R' : Option Addr} {l : List Nat} {c c' : Nat} (h : IR w R l) (h' : IR w R' l) (hl : l.length ≤ 128) :
    Calls Try.prog 13 #[.slice R l.length c, .slice R' l.length c'] w fun e w' => e = .returned (.bool true) ∧ Keeps (fun _ => False) w w' := by
  go_enter Try.func13, Try.ntmps13
  go_wp2_with fail
  go_loopw [13, 5] (fun i _ wr => ∃ k : Nat, k ≤ l.length ∧ i = .int .i64 (k : Int) ∧ Keeps (fun _ => False) w wr) (fun i _ _ => l.length - (RowKit.intOf i).toNat)
  case atStart => exact ⟨0, by omega, rfl, Keeps.refl _ _⟩
  case round =>
    obtain ⟨k, hk, rfl, kk⟩ := hrel
    by_cases hlt : k < l.length
    · obtain ⟨g, rfl, _, e1⟩ := (h.keep kk).at_ hlt
      obtain ⟨g', rfl, _, e2⟩ := (h'.keep kk).at_ hlt
      have KK := Lib.hid (kk.trans (Keeps.drew (fun _ => False) wr))
      generalize l[k] = x at *
      clear h h' kk
      go_wp2_with fail
      go_region
      go_wp2_with fail
      go_roundw
      case rel => exact ⟨k + 1, by omega, by go_num, KK.out⟩
      case measure => simp [RowKit.intOf]; omega
    · go_wp2_with fail
      go_ret
      exact ⟨rfl, kk⟩
end Go.Proofs.Ytdbphindnnchfaa.Mm
