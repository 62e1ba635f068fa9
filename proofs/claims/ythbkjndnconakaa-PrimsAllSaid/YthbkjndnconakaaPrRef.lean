/-
  PrRef
-/
import Derived.Test.YthbkjndnconakaaPrNamed
import Derived.Test.YthbkjndnconakaaGT
namespace Go.Proofs.Ythbkjndnconakaa.Pr
open Go.RowKit Go.Shelf Go.Maps
attribute [local go_sem] Oper.semAt_some
set_option linter.unusedVariables false
set_option linter.unusedSimpArgs false

theorem flat_get {α β : Type} (f : α → List β) (k : Nat) (hf : ∀ x, (f x).length = k) (l : List α) (i : Nat) (x : α) (h : l[i]? = some x) (j : Nat) (hj : j < k) : (l.flatMap f)[i * k + j]? = (f x)[j]? := by
  have := congrArg (fun r => r[j]?) (flat_at f k hf l i x h)
  simp only [List.getElem?_take, List.getElem?_drop, if_pos hj] at this
  exact this
/-- Block g holds the document's rows. -/
def RowR (W : World) (g : Nat) : Prop := W.heap[g]? = some (.cells rowC.toArray 42 (0, 0))
theorem RowR.at_ {W : World} {g : Nat} (h : RowR W g) (k : Nat) (hk : k < 141) (j : Nat) (v : Value) (hj : (rcl (prAt (k + 1)))[j]? = some v) : W.cell? ⟨g, k * 4 + j, none⟩ = some v := by
  have hj4 : j < 4 := by
    have := (List.getElem?_eq_some_iff.1 hj).1
    exact this
  rw [cell_of_row _ _ _ _ _ _ h, List.getElem?_toArray]
  rw [← hj]
  exact flat_get rcl 4 (fun _ => rfl) prL k _ (prL_get k hk) j hj4
theorem RowR.c {W : World} {g : Nat} (h : RowR W g) (k : Nat) (hk : k < 141) : W.cell? ⟨g, k * 4, none⟩ = some (St (prAt (k + 1)).nm) ∧ W.cell? ⟨g, k * 4 + 1, none⟩ = some (.int .i64 ((prAt (k + 1)).tk : Int)) ∧
    W.cell? ⟨g, k * 4 + 2, none⟩ = some (.int .i64 ((prAt (k + 1)).la : Int)) ∧ W.cell? ⟨g, k * 4 + 3, none⟩ = some (.int .i64 ((prAt (k + 1)).mj : Int)) :=
  ⟨h.at_ k hk 0 _ rfl, h.at_ k hk 1 _ rfl, h.at_ k hk 2 _ rfl, h.at_ k hk 3 _ rfl⟩
theorem RowR.below {W W' : World} {g : Nat} (h : RowR W g) (k : Below W.heap.size W W') : RowR W' g := (k.block g (Array.getElem?_eq_some_iff.1 h).1).trans h
theorem st_eqb (xs ys : List UInt8) (b : Bool) (h : decide (xs = ys) = b) : ((⟨xs.toArray⟩ : ByteArray).toList == (⟨ys.toArray⟩ : ByteArray).toList) = b := by
  rw [← h]
  by_cases e : xs = ys
  · subst e; simp
  · simp [e]

theorem aggSt (w : World) : (isAgg 9).run Try.prog w = .ok false w := by kernel_rfl
theorem ex_eqlS {w : World} {o : Oper} {ρ : Operand → Value} (x y : Operand) (ho : o.op = .binOp .eql 9 x y 9) (xs ys : List UInt8) (b : Bool) (hb : decide (xs = ys) = b) (hx : ρ x = St xs) (hy : ρ y = St ys) : (execOp ρ o).run Try.prog w = .ok (.value (.bool b)) w := by
  unfold execOp
  simp only [ho, hx, hy]
  go_simp
  rw [← hb]
  by_cases h : xs = ys <;> simp [h]
/-- The rows, and a row of its own in the block that came next. -/
structure SRf (w wr : World) (nm : List UInt8) (tk la mj : Nat) (W : World) : Prop where
  c : W.cell? ⟨wr.heap.size, 0, none⟩ = some (St nm)
  sz : wr.heap.size < W.heap.size
  r : RowR W w.heap.size
  b : Below w.heap.size w W
theorem SRf.below {w wr : World} {nm : List UInt8} {tk la mj : Nat} {W W' : World} (h : SRf w wr nm tk la mj W) (k : Below W.heap.size W W') : SRf w wr nm tk la mj W' :=
  ⟨by rw [← h.c]; exact k.cell (by exact h.sz), Nat.lt_of_lt_of_le h.sz k.size, h.r.below k, h.b.trans (k.mono h.b.size)⟩
theorem SRf.drew {w wr : World} {nm : List UInt8} {tk la mj : Nat} {W : World} (h : SRf w wr nm tk la mj W) : SRf w wr nm tk la mj W.drew := h.below (Below.refl _ _).drew
set_option maxRecDepth 100000 in
set_option maxHeartbeats 2000000 in
theorem rfind_any (s : List UInt8) (hs : s.length ≤ 140737488351232) (w : World) : Calls Try.prog 14 #[St s] w (Gv w (.int .i64 (findN (upL s) : Int))) := by
  have HL := Lib.hid (fun W => rlarge_any s hs W)
  generalize hq : upL s = q at *
  have HT := Lib.hid (rtable_any w)
  clear hq
  go_enter Try.func14, Try.ntmps14
  go_wp2_with fail
  refine HT.out.mono ?_
  rintro e w1 ⟨rfl, hw1⟩
  have hr : RowR w1 w.heap.size := by rw [hw1]; exact heap_alloc_new w _
  have hb : Below w.heap.size w w1 := by rw [hw1]; exact (Below.refl _ _).alloc (Nat.le_refl _) _
  have HR := Lib.hid hr
  have HB := Lib.hid hb
  clear HT hr hb hw1
  go_wp2_with fail
  go_loopw [3, 4, 7] (fun _ _ i wr => ∃ k : Nat, k ≤ 141 ∧ i = .int .i64 k ∧ fnd k q = 0 ∧ RowR wr w.heap.size ∧ Below w.heap.size w wr) (fun _ _ i _ => 141 - (RowKit.intOf i).toNat)
  case atStart => exact ⟨0, by omega, rfl, rfl, HR.out, HB.out⟩
  case round =>
    obtain ⟨k, hk, rfl, h0, hr, hb⟩ := hrel
    clear HR HB
    by_cases hlt : k < 141
    · obtain ⟨c0, c1, c2, c3⟩ := hr.c k hlt
      have d0 : decide ((k : Int) < 141) = true := by simp; omega
      have wk : IntKind.i64.wrap ((k : Int) + 1) = (k : Int) + 1 := by simp only [IntKind.wrap, IntKind.bits, IntKind.signed, Bool.true_and]; split <;> simp_all <;> omega
      have hcn : prH (k + 1) = decide (1 ≤ k ∧ k ≤ 10) := by unfold prH; simp only [decide_eq_decide]; omega
      have hn0 : prH (k + 1) = true → fnd (k + 1) q = 0 := fun h => fnd_no k q h0 (fun h2 => by rw [h] at h2; cases h2.1)
      have hn1 : (prAt (k + 1)).nm ≠ q → fnd (k + 1) q = 0 := fun h => fnd_no k q h0 (fun h2 => h h2.2)
      have hn2 : prH (k + 1) = false → (prAt (k + 1)).nm = q → findN q = k + 1 := fun h1 h2 => fnd_here k q hlt h1 h2
      generalize prAt (k + 1) = x at *
      obtain ⟨nm, tk, la, mj⟩ := x
      have hal : Below wr.heap.size wr (wr.alloc (.cells #[St nm, .int .i64 (tk : Int), .int .i64 (la : Int), .int .i64 (mj : Int)] 42)) := (Below.refl _ _).alloc (Nat.le_refl _) _
      have hk1 : SRf w wr nm tk la mj (wr.alloc (.cells #[St nm, .int .i64 (tk : Int), .int .i64 (la : Int), .int .i64 (mj : Int)] 42)) :=
        ⟨by rw [cell_of_row _ _ _ _ _ _ (heap_alloc_new wr _)]; rfl, by simp, hr.below hal, hb.trans (hal.mono hb.size)⟩
      have HK := Lib.hid hk1
      clear hr hb hal h0 hk1
      by_cases hh : 1 ≤ k ∧ k ≤ 10
      · have HN := Lib.hid (hn0 (by rw [hcn]; simpa using hh))
        have t1 : decide ((k : Int) < 1) = false := by simp only [decide_eq_false_iff_not]; omega
        have t2 : decide ((10 : Int) < (k : Int)) = false := by simp only [decide_eq_false_iff_not]; omega
        clear hn0 hn1 hn2 hcn hh
        go_wp2_with fail
        refine wp_region_held (S := SRf w wr nm tk la mj) (by kernel_rfl) ?_
        change wpAnyH _ _ _ _ _ _ _ _ (wr.alloc (.cells #[St nm, .int .i64 (tk : Int), .int .i64 (la : Int), .int .i64 (mj : Int)] 42)).drew
        have hS := HK.out.drew
        generalize (wr.alloc (.cells #[St nm, .int .i64 (tk : Int), .int .i64 (la : Int), .int .i64 (mj : Int)] 42)).drew = w5 at *
        refine wpAnyH_take (oi := ⟨_, _, _, _, _, _⟩) (i := 0) (v := .int .i64 (k : Int)) rfl (by kernel_rfl) (by kernel_rfl) (by kernel_rfl) (fun _ _ _ h => h) (Or.inl ⟨by rfl, fun _ _ => rfl⟩) hS ?_
        try simp only [Act.put, List.setIfInBounds_toArray, List.set_cons_zero, List.set_cons_succ]
        refine wpAnyH_take (oi := ⟨_, _, _, _, _, _⟩) (i := 1) (v := .bool false) rfl (by kernel_rfl) (by kernel_rfl) (by kernel_rfl) (fun _ _ _ h => h) (Or.inl ⟨by rfl, fun _ _ => by go_simp⟩) hS ?_
        try simp only [Act.put, List.setIfInBounds_toArray, List.set_cons_zero, List.set_cons_succ]
        refine wpAnyH_take (oi := ⟨_, _, _, _, _, _⟩) (i := 2) (v := .bool false) rfl (by kernel_rfl) (by kernel_rfl) (by kernel_rfl) (fun _ _ _ h => h) (Or.inl ⟨by rfl, fun _ _ => rfl⟩) hS ?_
        try simp only [Act.put, List.setIfInBounds_toArray, List.set_cons_zero, List.set_cons_succ]
        refine wpAnyH_take (oi := ⟨_, _, _, _, _, _⟩) (i := 3) (v := .int .i64 (k : Int)) rfl (by kernel_rfl) (by kernel_rfl) (by kernel_rfl) (fun _ _ _ h => h) (Or.inl ⟨by rfl, fun _ _ => rfl⟩) hS ?_
        try simp only [Act.put, List.setIfInBounds_toArray, List.set_cons_zero, List.set_cons_succ]
        refine wpAnyH_take (oi := ⟨_, _, _, _, _, _⟩) (i := 4) (v := .bool false) rfl (by kernel_rfl) (by kernel_rfl) (by kernel_rfl) (fun _ _ _ h => h) (Or.inl ⟨by rfl, fun _ _ => by go_simp⟩) hS ?_
        try simp only [Act.put, List.setIfInBounds_toArray, List.set_cons_zero, List.set_cons_succ]
        refine wpAnyH_take (oi := ⟨_, _, _, _, _, _⟩) (i := 5) (v := .bool false) rfl (by kernel_rfl) (by kernel_rfl) (by kernel_rfl) (fun _ _ _ h => h) (Or.inl ⟨by rfl, fun _ _ => by go_simp⟩) hS ?_
        try simp only [Act.put, List.setIfInBounds_toArray, List.set_cons_zero, List.set_cons_succ]
        refine wpAnyH_take (oi := ⟨_, _, _, _, _, _⟩) (i := 6) (v := .bool false) rfl (by kernel_rfl) (by kernel_rfl) (by kernel_rfl) (fun _ _ _ h => h) (Or.inl ⟨by rfl, fun _ _ => rfl⟩) hS ?_
        try simp only [Act.put, List.setIfInBounds_toArray, List.set_cons_zero, List.set_cons_succ]
        refine wpAnyH_take (oi := ⟨_, _, _, _, _, _⟩) (i := 7) (v := undef) rfl (by kernel_rfl) (by kernel_rfl) (by kernel_rfl) (fun _ _ _ h => h) (Or.inr ⟨by rfl, rfl⟩) hS ?_
        try simp only [Act.put, List.setIfInBounds_toArray, List.set_cons_zero, List.set_cons_succ]
        refine wpAnyH_take (oi := ⟨_, _, _, _, _, _⟩) (i := 8) (v := undef) rfl (by kernel_rfl) (by kernel_rfl) (by kernel_rfl) (fun _ _ _ h => h) (Or.inr ⟨by rfl, rfl⟩) hS ?_
        try simp only [Act.put, List.setIfInBounds_toArray, List.set_cons_zero, List.set_cons_succ]
        refine wpAnyH_take (oi := ⟨_, _, _, _, _, _⟩) (i := 9) (v := undef) rfl (by kernel_rfl) (by kernel_rfl) (by kernel_rfl) (fun _ _ _ h => h) (Or.inr ⟨by rfl, rfl⟩) hS ?_
        try simp only [Act.put, List.setIfInBounds_toArray, List.set_cons_zero, List.set_cons_succ]
        refine wpAnyH_take (oi := ⟨_, _, _, _, _, _⟩) (i := 10) (v := undef) rfl (by kernel_rfl) (by kernel_rfl) (by kernel_rfl) (fun _ _ _ h => h) (Or.inr ⟨by rfl, rfl⟩) hS ?_
        try simp only [Act.put, List.setIfInBounds_toArray, List.set_cons_zero, List.set_cons_succ]
        refine wpAnyH_take (oi := ⟨_, _, _, _, _, _⟩) (i := 11) (v := undef) rfl (by kernel_rfl) (by kernel_rfl) (by kernel_rfl) (fun _ _ _ h => h) (Or.inr ⟨by rfl, rfl⟩) hS ?_
        try simp only [Act.put, List.setIfInBounds_toArray, List.set_cons_zero, List.set_cons_succ]
        refine wpAnyH_take (oi := ⟨_, _, _, _, _, _⟩) (i := 12) (v := .bool false) rfl (by kernel_rfl) (by kernel_rfl) (by kernel_rfl) (fun _ _ _ h => h) (Or.inl ⟨by rfl, fun _ _ => by go_simp⟩) hS ?_
        try simp only [Act.put, List.setIfInBounds_toArray, List.set_cons_zero, List.set_cons_succ]
        refine wpAnyH_done (by kernel_rfl) ?_ _
        try simp only [Act.put, List.setIfInBounds_toArray, List.set_cons_zero, List.set_cons_succ]
        go_wp2_with fail
        go_roundw
        case rel => exact ⟨k + 1, by omega, by go_num, HN.out, hS.r, hS.b⟩
        case measure => simp [RowKit.intOf]; omega
      · have hnh : prH (k + 1) = false := by rw [hcn]; simpa using hh
        clear hcn hn0
        by_cases hk1 : k < 1
        · have t1 : decide ((k : Int) < 1) = true := by simp only [decide_eq_true_eq]; omega
          by_cases he : nm = q
          · have HQ := Lib.hid (show decide (nm = q) = true from decide_eq_true he)
            have HF := Lib.hid (hn2 hnh he)
            clear hn1 hn2 hnh he hh
            go_wp2_with fail
            refine wp_region_held (S := SRf w wr nm tk la mj) (by kernel_rfl) ?_
            change wpAnyH _ _ _ _ _ _ _ _ (wr.alloc (.cells #[St nm, .int .i64 (tk : Int), .int .i64 (la : Int), .int .i64 (mj : Int)] 42)).drew
            have hS := HK.out.drew
            generalize (wr.alloc (.cells #[St nm, .int .i64 (tk : Int), .int .i64 (la : Int), .int .i64 (mj : Int)] 42)).drew = w5 at *
            refine wpAnyH_take (oi := ⟨_, _, _, _, _, _⟩) (i := 0) (v := .int .i64 (k : Int)) rfl (by kernel_rfl) (by kernel_rfl) (by kernel_rfl) (fun _ _ _ h => h) (Or.inl ⟨by rfl, fun _ _ => rfl⟩) hS ?_
            try simp only [Act.put, List.setIfInBounds_toArray, List.set_cons_zero, List.set_cons_succ]
            refine wpAnyH_take (oi := ⟨_, _, _, _, _, _⟩) (i := 1) (v := .bool true) rfl (by kernel_rfl) (by kernel_rfl) (by kernel_rfl) (fun _ _ _ h => h) (Or.inl ⟨by rfl, fun _ _ => by go_simp⟩) hS ?_
            try simp only [Act.put, List.setIfInBounds_toArray, List.set_cons_zero, List.set_cons_succ]
            refine wpAnyH_take (oi := ⟨_, _, _, _, _, _⟩) (i := 2) (v := .bool true) rfl (by kernel_rfl) (by kernel_rfl) (by kernel_rfl) (fun _ _ _ h => h) (Or.inl ⟨by rfl, fun _ _ => rfl⟩) hS ?_
            try simp only [Act.put, List.setIfInBounds_toArray, List.set_cons_zero, List.set_cons_succ]
            refine wpAnyH_take (oi := ⟨_, _, _, _, _, _⟩) (i := 3) (v := undef) rfl (by kernel_rfl) (by kernel_rfl) (by kernel_rfl) (fun _ _ _ h => h) (Or.inr ⟨by rfl, rfl⟩) hS ?_
            try simp only [Act.put, List.setIfInBounds_toArray, List.set_cons_zero, List.set_cons_succ]
            refine wpAnyH_take (oi := ⟨_, _, _, _, _, _⟩) (i := 4) (v := undef) rfl (by kernel_rfl) (by kernel_rfl) (by kernel_rfl) (fun _ _ _ h => h) (Or.inr ⟨by rfl, rfl⟩) hS ?_
            try simp only [Act.put, List.setIfInBounds_toArray, List.set_cons_zero, List.set_cons_succ]
            refine wpAnyH_take (oi := ⟨_, _, _, _, _, _⟩) (i := 5) (v := .bool true) rfl (by kernel_rfl) (by kernel_rfl) (by kernel_rfl) (fun _ _ _ h => h) (Or.inl ⟨by rfl, fun _ _ => by go_simp⟩) hS ?_
            try simp only [Act.put, List.setIfInBounds_toArray, List.set_cons_zero, List.set_cons_succ]
            refine wpAnyH_take (oi := ⟨_, _, _, _, _, _⟩) (i := 6) (v := .bool true) rfl (by kernel_rfl) (by kernel_rfl) (by kernel_rfl) (fun _ _ _ h => h) (Or.inl ⟨by rfl, fun _ _ => rfl⟩) hS ?_
            try simp only [Act.put, List.setIfInBounds_toArray, List.set_cons_zero, List.set_cons_succ]
            refine wpAnyH_take (oi := ⟨_, _, _, _, _, _⟩) (i := 7) (v := .pointer (some ⟨wr.heap.size, 0, none⟩)) rfl (by kernel_rfl) (by kernel_rfl) (by kernel_rfl) (fun _ _ _ h => h) (Or.inl ⟨by rfl, fun _ _ => by go_simp⟩) hS ?_
            try simp only [Act.put, List.setIfInBounds_toArray, List.set_cons_zero, List.set_cons_succ]
            refine wpAnyH_take (oi := ⟨_, _, _, _, _, _⟩) (i := 8) (v := St nm) rfl (by kernel_rfl) (by kernel_rfl) (by kernel_rfl) (fun _ _ _ h => h) (yif_load rfl 9 (.tmp 19) rfl _ _ rfl fun w h => load_one aggSt h.1) hS ?_
            try simp only [Act.put, List.setIfInBounds_toArray, List.set_cons_zero, List.set_cons_succ]
            refine wpAnyH_take (oi := ⟨_, _, _, _, _, _⟩) (i := 9) (v := St s) rfl (by kernel_rfl) (by kernel_rfl) (by kernel_rfl) (fun _ _ _ h => h) (Or.inl ⟨by rfl, fun _ _ => rfl⟩) hS ?_
            try simp only [Act.put, List.setIfInBounds_toArray, List.set_cons_zero, List.set_cons_succ]
            refine wpAnyH_all (rs := [10]) (by kernel_rfl) (by simp) fun i hi => ?_
            obtain rfl : i = 10 := by simpa using hi
            refine op_call (om := ⟨_, _, _, _, _, _⟩) (fn := 16) (args := #[St s]) (R := fun u W2 => u = St q ∧ SRf w wr nm tk la mj W2) rfl rfl (by go_simp)
              ((HL.out _).mono fun e W h => ⟨_, h.1, rfl, SRf.below hS h.2⟩) _ _ rfl rfl ?_
            rintro u w6 ⟨rfl, hS⟩
            refine ⟨hS, ?_⟩
            try simp only [Act.put, List.setIfInBounds_toArray, List.set_cons_zero, List.set_cons_succ]
            refine wpAnyH_take (oi := ⟨_, _, _, _, _, _⟩) (i := 11) (v := .bool true) rfl (by kernel_rfl) (by kernel_rfl) (by kernel_rfl) (fun _ _ _ h => h) (Or.inl ⟨by rfl, fun _ _ => ex_eqlS (.tmp 20) (.tmp 22) rfl nm q true HQ.out rfl rfl⟩) hS ?_
            try simp only [Act.put, List.setIfInBounds_toArray, List.set_cons_zero, List.set_cons_succ]
            refine wpAnyH_take (oi := ⟨_, _, _, _, _, _⟩) (i := 12) (v := .bool true) rfl (by kernel_rfl) (by kernel_rfl) (by kernel_rfl) (fun _ _ _ h => h) (Or.inl ⟨by rfl, fun _ _ => by go_simp⟩) hS ?_
            try simp only [Act.put, List.setIfInBounds_toArray, List.set_cons_zero, List.set_cons_succ]
            refine wpAnyH_done (by kernel_rfl) ?_ _
            try simp only [Act.put, List.setIfInBounds_toArray, List.set_cons_zero, List.set_cons_succ]
            go_wp2_with fail
            go_ret
            exact ⟨by rw [HF.out]; rfl, hS.b⟩
          · have HQ := Lib.hid (show decide (nm = q) = false from decide_eq_false he)
            have HN := Lib.hid (hn1 he)
            clear hn1 hn2 hnh he hh
            go_wp2_with fail
            refine wp_region_held (S := SRf w wr nm tk la mj) (by kernel_rfl) ?_
            change wpAnyH _ _ _ _ _ _ _ _ (wr.alloc (.cells #[St nm, .int .i64 (tk : Int), .int .i64 (la : Int), .int .i64 (mj : Int)] 42)).drew
            have hS := HK.out.drew
            generalize (wr.alloc (.cells #[St nm, .int .i64 (tk : Int), .int .i64 (la : Int), .int .i64 (mj : Int)] 42)).drew = w5 at *
            refine wpAnyH_take (oi := ⟨_, _, _, _, _, _⟩) (i := 0) (v := .int .i64 (k : Int)) rfl (by kernel_rfl) (by kernel_rfl) (by kernel_rfl) (fun _ _ _ h => h) (Or.inl ⟨by rfl, fun _ _ => rfl⟩) hS ?_
            try simp only [Act.put, List.setIfInBounds_toArray, List.set_cons_zero, List.set_cons_succ]
            refine wpAnyH_take (oi := ⟨_, _, _, _, _, _⟩) (i := 1) (v := .bool true) rfl (by kernel_rfl) (by kernel_rfl) (by kernel_rfl) (fun _ _ _ h => h) (Or.inl ⟨by rfl, fun _ _ => by go_simp⟩) hS ?_
            try simp only [Act.put, List.setIfInBounds_toArray, List.set_cons_zero, List.set_cons_succ]
            refine wpAnyH_take (oi := ⟨_, _, _, _, _, _⟩) (i := 2) (v := .bool true) rfl (by kernel_rfl) (by kernel_rfl) (by kernel_rfl) (fun _ _ _ h => h) (Or.inl ⟨by rfl, fun _ _ => rfl⟩) hS ?_
            try simp only [Act.put, List.setIfInBounds_toArray, List.set_cons_zero, List.set_cons_succ]
            refine wpAnyH_take (oi := ⟨_, _, _, _, _, _⟩) (i := 3) (v := undef) rfl (by kernel_rfl) (by kernel_rfl) (by kernel_rfl) (fun _ _ _ h => h) (Or.inr ⟨by rfl, rfl⟩) hS ?_
            try simp only [Act.put, List.setIfInBounds_toArray, List.set_cons_zero, List.set_cons_succ]
            refine wpAnyH_take (oi := ⟨_, _, _, _, _, _⟩) (i := 4) (v := undef) rfl (by kernel_rfl) (by kernel_rfl) (by kernel_rfl) (fun _ _ _ h => h) (Or.inr ⟨by rfl, rfl⟩) hS ?_
            try simp only [Act.put, List.setIfInBounds_toArray, List.set_cons_zero, List.set_cons_succ]
            refine wpAnyH_take (oi := ⟨_, _, _, _, _, _⟩) (i := 5) (v := .bool true) rfl (by kernel_rfl) (by kernel_rfl) (by kernel_rfl) (fun _ _ _ h => h) (Or.inl ⟨by rfl, fun _ _ => by go_simp⟩) hS ?_
            try simp only [Act.put, List.setIfInBounds_toArray, List.set_cons_zero, List.set_cons_succ]
            refine wpAnyH_take (oi := ⟨_, _, _, _, _, _⟩) (i := 6) (v := .bool true) rfl (by kernel_rfl) (by kernel_rfl) (by kernel_rfl) (fun _ _ _ h => h) (Or.inl ⟨by rfl, fun _ _ => rfl⟩) hS ?_
            try simp only [Act.put, List.setIfInBounds_toArray, List.set_cons_zero, List.set_cons_succ]
            refine wpAnyH_take (oi := ⟨_, _, _, _, _, _⟩) (i := 7) (v := .pointer (some ⟨wr.heap.size, 0, none⟩)) rfl (by kernel_rfl) (by kernel_rfl) (by kernel_rfl) (fun _ _ _ h => h) (Or.inl ⟨by rfl, fun _ _ => by go_simp⟩) hS ?_
            try simp only [Act.put, List.setIfInBounds_toArray, List.set_cons_zero, List.set_cons_succ]
            refine wpAnyH_take (oi := ⟨_, _, _, _, _, _⟩) (i := 8) (v := St nm) rfl (by kernel_rfl) (by kernel_rfl) (by kernel_rfl) (fun _ _ _ h => h) (yif_load rfl 9 (.tmp 19) rfl _ _ rfl fun w h => load_one aggSt h.1) hS ?_
            try simp only [Act.put, List.setIfInBounds_toArray, List.set_cons_zero, List.set_cons_succ]
            refine wpAnyH_take (oi := ⟨_, _, _, _, _, _⟩) (i := 9) (v := St s) rfl (by kernel_rfl) (by kernel_rfl) (by kernel_rfl) (fun _ _ _ h => h) (Or.inl ⟨by rfl, fun _ _ => rfl⟩) hS ?_
            try simp only [Act.put, List.setIfInBounds_toArray, List.set_cons_zero, List.set_cons_succ]
            refine wpAnyH_all (rs := [10]) (by kernel_rfl) (by simp) fun i hi => ?_
            obtain rfl : i = 10 := by simpa using hi
            refine op_call (om := ⟨_, _, _, _, _, _⟩) (fn := 16) (args := #[St s]) (R := fun u W2 => u = St q ∧ SRf w wr nm tk la mj W2) rfl rfl (by go_simp)
              ((HL.out _).mono fun e W h => ⟨_, h.1, rfl, SRf.below hS h.2⟩) _ _ rfl rfl ?_
            rintro u w6 ⟨rfl, hS⟩
            refine ⟨hS, ?_⟩
            try simp only [Act.put, List.setIfInBounds_toArray, List.set_cons_zero, List.set_cons_succ]
            refine wpAnyH_take (oi := ⟨_, _, _, _, _, _⟩) (i := 11) (v := .bool false) rfl (by kernel_rfl) (by kernel_rfl) (by kernel_rfl) (fun _ _ _ h => h) (Or.inl ⟨by rfl, fun _ _ => ex_eqlS (.tmp 20) (.tmp 22) rfl nm q false HQ.out rfl rfl⟩) hS ?_
            try simp only [Act.put, List.setIfInBounds_toArray, List.set_cons_zero, List.set_cons_succ]
            refine wpAnyH_take (oi := ⟨_, _, _, _, _, _⟩) (i := 12) (v := .bool false) rfl (by kernel_rfl) (by kernel_rfl) (by kernel_rfl) (fun _ _ _ h => h) (Or.inl ⟨by rfl, fun _ _ => by go_simp⟩) hS ?_
            try simp only [Act.put, List.setIfInBounds_toArray, List.set_cons_zero, List.set_cons_succ]
            refine wpAnyH_done (by kernel_rfl) ?_ _
            try simp only [Act.put, List.setIfInBounds_toArray, List.set_cons_zero, List.set_cons_succ]
            go_wp2_with fail
            go_roundw
            case rel => exact ⟨k + 1, by omega, by go_num, HN.out, hS.r, hS.b⟩
            case measure => simp [RowKit.intOf]; omega
        · have t1 : decide ((k : Int) < 1) = false := by simp only [decide_eq_false_iff_not]; omega
          have t2 : decide ((10 : Int) < (k : Int)) = true := by simp only [decide_eq_true_eq]; omega
          by_cases he : nm = q
          · have HQ := Lib.hid (show decide (nm = q) = true from decide_eq_true he)
            have HF := Lib.hid (hn2 hnh he)
            clear hn1 hn2 hnh he hh
            go_wp2_with fail
            refine wp_region_held (S := SRf w wr nm tk la mj) (by kernel_rfl) ?_
            change wpAnyH _ _ _ _ _ _ _ _ (wr.alloc (.cells #[St nm, .int .i64 (tk : Int), .int .i64 (la : Int), .int .i64 (mj : Int)] 42)).drew
            have hS := HK.out.drew
            generalize (wr.alloc (.cells #[St nm, .int .i64 (tk : Int), .int .i64 (la : Int), .int .i64 (mj : Int)] 42)).drew = w5 at *
            refine wpAnyH_take (oi := ⟨_, _, _, _, _, _⟩) (i := 0) (v := .int .i64 (k : Int)) rfl (by kernel_rfl) (by kernel_rfl) (by kernel_rfl) (fun _ _ _ h => h) (Or.inl ⟨by rfl, fun _ _ => rfl⟩) hS ?_
            try simp only [Act.put, List.setIfInBounds_toArray, List.set_cons_zero, List.set_cons_succ]
            refine wpAnyH_take (oi := ⟨_, _, _, _, _, _⟩) (i := 1) (v := .bool false) rfl (by kernel_rfl) (by kernel_rfl) (by kernel_rfl) (fun _ _ _ h => h) (Or.inl ⟨by rfl, fun _ _ => by go_simp⟩) hS ?_
            try simp only [Act.put, List.setIfInBounds_toArray, List.set_cons_zero, List.set_cons_succ]
            refine wpAnyH_take (oi := ⟨_, _, _, _, _, _⟩) (i := 2) (v := .bool false) rfl (by kernel_rfl) (by kernel_rfl) (by kernel_rfl) (fun _ _ _ h => h) (Or.inl ⟨by rfl, fun _ _ => rfl⟩) hS ?_
            try simp only [Act.put, List.setIfInBounds_toArray, List.set_cons_zero, List.set_cons_succ]
            refine wpAnyH_take (oi := ⟨_, _, _, _, _, _⟩) (i := 3) (v := .int .i64 (k : Int)) rfl (by kernel_rfl) (by kernel_rfl) (by kernel_rfl) (fun _ _ _ h => h) (Or.inl ⟨by rfl, fun _ _ => rfl⟩) hS ?_
            try simp only [Act.put, List.setIfInBounds_toArray, List.set_cons_zero, List.set_cons_succ]
            refine wpAnyH_take (oi := ⟨_, _, _, _, _, _⟩) (i := 4) (v := .bool true) rfl (by kernel_rfl) (by kernel_rfl) (by kernel_rfl) (fun _ _ _ h => h) (Or.inl ⟨by rfl, fun _ _ => by go_simp⟩) hS ?_
            try simp only [Act.put, List.setIfInBounds_toArray, List.set_cons_zero, List.set_cons_succ]
            refine wpAnyH_take (oi := ⟨_, _, _, _, _, _⟩) (i := 5) (v := .bool true) rfl (by kernel_rfl) (by kernel_rfl) (by kernel_rfl) (fun _ _ _ h => h) (Or.inl ⟨by rfl, fun _ _ => by go_simp⟩) hS ?_
            try simp only [Act.put, List.setIfInBounds_toArray, List.set_cons_zero, List.set_cons_succ]
            refine wpAnyH_take (oi := ⟨_, _, _, _, _, _⟩) (i := 6) (v := .bool true) rfl (by kernel_rfl) (by kernel_rfl) (by kernel_rfl) (fun _ _ _ h => h) (Or.inl ⟨by rfl, fun _ _ => rfl⟩) hS ?_
            try simp only [Act.put, List.setIfInBounds_toArray, List.set_cons_zero, List.set_cons_succ]
            refine wpAnyH_take (oi := ⟨_, _, _, _, _, _⟩) (i := 7) (v := .pointer (some ⟨wr.heap.size, 0, none⟩)) rfl (by kernel_rfl) (by kernel_rfl) (by kernel_rfl) (fun _ _ _ h => h) (Or.inl ⟨by rfl, fun _ _ => by go_simp⟩) hS ?_
            try simp only [Act.put, List.setIfInBounds_toArray, List.set_cons_zero, List.set_cons_succ]
            refine wpAnyH_take (oi := ⟨_, _, _, _, _, _⟩) (i := 8) (v := St nm) rfl (by kernel_rfl) (by kernel_rfl) (by kernel_rfl) (fun _ _ _ h => h) (yif_load rfl 9 (.tmp 19) rfl _ _ rfl fun w h => load_one aggSt h.1) hS ?_
            try simp only [Act.put, List.setIfInBounds_toArray, List.set_cons_zero, List.set_cons_succ]
            refine wpAnyH_take (oi := ⟨_, _, _, _, _, _⟩) (i := 9) (v := St s) rfl (by kernel_rfl) (by kernel_rfl) (by kernel_rfl) (fun _ _ _ h => h) (Or.inl ⟨by rfl, fun _ _ => rfl⟩) hS ?_
            try simp only [Act.put, List.setIfInBounds_toArray, List.set_cons_zero, List.set_cons_succ]
            refine wpAnyH_all (rs := [10]) (by kernel_rfl) (by simp) fun i hi => ?_
            obtain rfl : i = 10 := by simpa using hi
            refine op_call (om := ⟨_, _, _, _, _, _⟩) (fn := 16) (args := #[St s]) (R := fun u W2 => u = St q ∧ SRf w wr nm tk la mj W2) rfl rfl (by go_simp)
              ((HL.out _).mono fun e W h => ⟨_, h.1, rfl, SRf.below hS h.2⟩) _ _ rfl rfl ?_
            rintro u w6 ⟨rfl, hS⟩
            refine ⟨hS, ?_⟩
            try simp only [Act.put, List.setIfInBounds_toArray, List.set_cons_zero, List.set_cons_succ]
            refine wpAnyH_take (oi := ⟨_, _, _, _, _, _⟩) (i := 11) (v := .bool true) rfl (by kernel_rfl) (by kernel_rfl) (by kernel_rfl) (fun _ _ _ h => h) (Or.inl ⟨by rfl, fun _ _ => ex_eqlS (.tmp 20) (.tmp 22) rfl nm q true HQ.out rfl rfl⟩) hS ?_
            try simp only [Act.put, List.setIfInBounds_toArray, List.set_cons_zero, List.set_cons_succ]
            refine wpAnyH_take (oi := ⟨_, _, _, _, _, _⟩) (i := 12) (v := .bool true) rfl (by kernel_rfl) (by kernel_rfl) (by kernel_rfl) (fun _ _ _ h => h) (Or.inl ⟨by rfl, fun _ _ => by go_simp⟩) hS ?_
            try simp only [Act.put, List.setIfInBounds_toArray, List.set_cons_zero, List.set_cons_succ]
            refine wpAnyH_done (by kernel_rfl) ?_ _
            try simp only [Act.put, List.setIfInBounds_toArray, List.set_cons_zero, List.set_cons_succ]
            go_wp2_with fail
            go_ret
            exact ⟨by rw [HF.out]; rfl, hS.b⟩
          · have HQ := Lib.hid (show decide (nm = q) = false from decide_eq_false he)
            have HN := Lib.hid (hn1 he)
            clear hn1 hn2 hnh he hh
            go_wp2_with fail
            refine wp_region_held (S := SRf w wr nm tk la mj) (by kernel_rfl) ?_
            change wpAnyH _ _ _ _ _ _ _ _ (wr.alloc (.cells #[St nm, .int .i64 (tk : Int), .int .i64 (la : Int), .int .i64 (mj : Int)] 42)).drew
            have hS := HK.out.drew
            generalize (wr.alloc (.cells #[St nm, .int .i64 (tk : Int), .int .i64 (la : Int), .int .i64 (mj : Int)] 42)).drew = w5 at *
            refine wpAnyH_take (oi := ⟨_, _, _, _, _, _⟩) (i := 0) (v := .int .i64 (k : Int)) rfl (by kernel_rfl) (by kernel_rfl) (by kernel_rfl) (fun _ _ _ h => h) (Or.inl ⟨by rfl, fun _ _ => rfl⟩) hS ?_
            try simp only [Act.put, List.setIfInBounds_toArray, List.set_cons_zero, List.set_cons_succ]
            refine wpAnyH_take (oi := ⟨_, _, _, _, _, _⟩) (i := 1) (v := .bool false) rfl (by kernel_rfl) (by kernel_rfl) (by kernel_rfl) (fun _ _ _ h => h) (Or.inl ⟨by rfl, fun _ _ => by go_simp⟩) hS ?_
            try simp only [Act.put, List.setIfInBounds_toArray, List.set_cons_zero, List.set_cons_succ]
            refine wpAnyH_take (oi := ⟨_, _, _, _, _, _⟩) (i := 2) (v := .bool false) rfl (by kernel_rfl) (by kernel_rfl) (by kernel_rfl) (fun _ _ _ h => h) (Or.inl ⟨by rfl, fun _ _ => rfl⟩) hS ?_
            try simp only [Act.put, List.setIfInBounds_toArray, List.set_cons_zero, List.set_cons_succ]
            refine wpAnyH_take (oi := ⟨_, _, _, _, _, _⟩) (i := 3) (v := .int .i64 (k : Int)) rfl (by kernel_rfl) (by kernel_rfl) (by kernel_rfl) (fun _ _ _ h => h) (Or.inl ⟨by rfl, fun _ _ => rfl⟩) hS ?_
            try simp only [Act.put, List.setIfInBounds_toArray, List.set_cons_zero, List.set_cons_succ]
            refine wpAnyH_take (oi := ⟨_, _, _, _, _, _⟩) (i := 4) (v := .bool true) rfl (by kernel_rfl) (by kernel_rfl) (by kernel_rfl) (fun _ _ _ h => h) (Or.inl ⟨by rfl, fun _ _ => by go_simp⟩) hS ?_
            try simp only [Act.put, List.setIfInBounds_toArray, List.set_cons_zero, List.set_cons_succ]
            refine wpAnyH_take (oi := ⟨_, _, _, _, _, _⟩) (i := 5) (v := .bool true) rfl (by kernel_rfl) (by kernel_rfl) (by kernel_rfl) (fun _ _ _ h => h) (Or.inl ⟨by rfl, fun _ _ => by go_simp⟩) hS ?_
            try simp only [Act.put, List.setIfInBounds_toArray, List.set_cons_zero, List.set_cons_succ]
            refine wpAnyH_take (oi := ⟨_, _, _, _, _, _⟩) (i := 6) (v := .bool true) rfl (by kernel_rfl) (by kernel_rfl) (by kernel_rfl) (fun _ _ _ h => h) (Or.inl ⟨by rfl, fun _ _ => rfl⟩) hS ?_
            try simp only [Act.put, List.setIfInBounds_toArray, List.set_cons_zero, List.set_cons_succ]
            refine wpAnyH_take (oi := ⟨_, _, _, _, _, _⟩) (i := 7) (v := .pointer (some ⟨wr.heap.size, 0, none⟩)) rfl (by kernel_rfl) (by kernel_rfl) (by kernel_rfl) (fun _ _ _ h => h) (Or.inl ⟨by rfl, fun _ _ => by go_simp⟩) hS ?_
            try simp only [Act.put, List.setIfInBounds_toArray, List.set_cons_zero, List.set_cons_succ]
            refine wpAnyH_take (oi := ⟨_, _, _, _, _, _⟩) (i := 8) (v := St nm) rfl (by kernel_rfl) (by kernel_rfl) (by kernel_rfl) (fun _ _ _ h => h) (yif_load rfl 9 (.tmp 19) rfl _ _ rfl fun w h => load_one aggSt h.1) hS ?_
            try simp only [Act.put, List.setIfInBounds_toArray, List.set_cons_zero, List.set_cons_succ]
            refine wpAnyH_take (oi := ⟨_, _, _, _, _, _⟩) (i := 9) (v := St s) rfl (by kernel_rfl) (by kernel_rfl) (by kernel_rfl) (fun _ _ _ h => h) (Or.inl ⟨by rfl, fun _ _ => rfl⟩) hS ?_
            try simp only [Act.put, List.setIfInBounds_toArray, List.set_cons_zero, List.set_cons_succ]
            refine wpAnyH_all (rs := [10]) (by kernel_rfl) (by simp) fun i hi => ?_
            obtain rfl : i = 10 := by simpa using hi
            refine op_call (om := ⟨_, _, _, _, _, _⟩) (fn := 16) (args := #[St s]) (R := fun u W2 => u = St q ∧ SRf w wr nm tk la mj W2) rfl rfl (by go_simp)
              ((HL.out _).mono fun e W h => ⟨_, h.1, rfl, SRf.below hS h.2⟩) _ _ rfl rfl ?_
            rintro u w6 ⟨rfl, hS⟩
            refine ⟨hS, ?_⟩
            try simp only [Act.put, List.setIfInBounds_toArray, List.set_cons_zero, List.set_cons_succ]
            refine wpAnyH_take (oi := ⟨_, _, _, _, _, _⟩) (i := 11) (v := .bool false) rfl (by kernel_rfl) (by kernel_rfl) (by kernel_rfl) (fun _ _ _ h => h) (Or.inl ⟨by rfl, fun _ _ => ex_eqlS (.tmp 20) (.tmp 22) rfl nm q false HQ.out rfl rfl⟩) hS ?_
            try simp only [Act.put, List.setIfInBounds_toArray, List.set_cons_zero, List.set_cons_succ]
            refine wpAnyH_take (oi := ⟨_, _, _, _, _, _⟩) (i := 12) (v := .bool false) rfl (by kernel_rfl) (by kernel_rfl) (by kernel_rfl) (fun _ _ _ h => h) (Or.inl ⟨by rfl, fun _ _ => by go_simp⟩) hS ?_
            try simp only [Act.put, List.setIfInBounds_toArray, List.set_cons_zero, List.set_cons_succ]
            refine wpAnyH_done (by kernel_rfl) ?_ _
            try simp only [Act.put, List.setIfInBounds_toArray, List.set_cons_zero, List.set_cons_succ]
            go_wp2_with fail
            go_roundw
            case rel => exact ⟨k + 1, by omega, by go_num, HN.out, hS.r, hS.b⟩
            case measure => simp [RowKit.intOf]; omega
    · obtain rfl : k = 141 := by omega
      have HE := Lib.hid (And.intro h0 hb)
      clear h0 hr hb
      go_wp2_with fail
      go_ret
      refine ⟨?_, HE.out.2⟩
      rw [show findN q = 0 from HE.out.1]
      rfl
end Go.Proofs.Ythbkjndnconakaa.Pr
