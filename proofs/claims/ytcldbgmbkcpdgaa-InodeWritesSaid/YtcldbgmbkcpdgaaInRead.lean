/-
  InRead
-/
import Derived.Test.YtcldbgmbkcpdgaaInEnc
import Derived.Test.YtcldbgmbkcpdgaaExWith
namespace Go.Proofs.Ytcldbgmbkcpdgaa.Ino
open Go.RowKit Ex
set_option linter.unusedSimpArgs false
set_option linter.unusedVariables false

theorem box_r (w : World) (C : Array Value) : (Instr.box 49 (.agg C)).run Try.prog w = .ok (.pointer (some ⟨w.heap.size, 0, none⟩)) (w.alloc (.cells C 49)) := rfl
theorem size_x : (Try.prog.info? 47).map (·.size) = some 2 := by kernel_rfl
theorem size_i : (Try.prog.info? 28).map (·.size) = some 3 := by kernel_rfl
theorem aggU8 (w : World) : (isAgg 5).run Try.prog w = .ok false w := by unfold isAgg; rw [Sem.run_bind, run_underlying Try.underlying5 w]; rfl
/-- The pairs ahead of the first nought. -/
theorem extC_take (b : List UInt8) {k : Nat} (hk : k < 23) (h : ∀ e ∈ (pairsL b).take k, e ≠ (0, 0)) (h0 : (pairsL b).getD k (0, 0) = (0, 0)) : extC b = (pairsL b).take k := by
  have hl : (pairsL b).length = 23 := by simp [pairsL]
  unfold extC
  have hs : pairsL b = (pairsL b).take k ++ (pairsL b)[k]'(by omega) :: (pairsL b).drop (k + 1) := by
    rw [← List.drop_eq_getElem_cons, List.take_append_drop]
  rw [List.getD_eq_getElem?_getD, List.getElem?_eq_getElem (by omega), Option.getD_some] at h0
  have ha : ∀ (l r : List EX) (e : EX), (∀ x ∈ l, x ≠ (0, 0)) → e = (0, 0) → (l ++ e :: r).takeWhile (fun e => decide (e ≠ (0, 0))) = l := by
    intro l r e hl he
    induction l with
    | nil => rw [List.nil_append, List.takeWhile_cons, he]; rfl
    | cons y t ih =>
      rw [List.cons_append, List.takeWhile_cons, if_pos (by simpa using hl y (by simp)), ih (fun x hx => hl x (by simp [hx]))]
  have := ha _ ((pairsL b).drop (k + 1)) _ h h0
  rw [← hs] at this
  exact this
theorem extC_all (b : List UInt8) (h : ∀ e ∈ (pairsL b).take 23, e ≠ (0, 0)) : extC b = (pairsL b).take 23 := by
  have hl : (pairsL b).length = 23 := by simp [pairsL]
  rw [List.take_of_length_le (by omega)] at h ⊢
  unfold extC
  have := takeWhile_all (fun e : EX => decide (e ≠ (0, 0))) (pairsL b) [] (fun x hx => by simpa using h x hx) (fun x hx => by cases hx)
  rwa [List.append_nil] at this
theorem pair_at (b : List UInt8) {k : Nat} (hk : k < 23) : (pairsL b).getD k (0, 0) = (((b.getD (18 + 2 * k) 0).toNat : Int), ((b.getD (19 + 2 * k) 0).toNat : Int)) := by
  simp [pairsL, List.getD_eq_getElem?_getD, hk]
theorem pairs_take (b : List UInt8) {k : Nat} (hk : k < 23) : (pairsL b).take (k + 1) = (pairsL b).take k ++ [(pairsL b).getD k (0, 0)] := by
  have hl : (pairsL b).length = 23 := by simp [pairsL]
  rw [List.take_succ_eq_append_getElem (by omega), List.getD_eq_getElem?_getD, List.getElem?_eq_getElem (by omega), Option.getD_some]
theorem pairs_bd (b : List UInt8) (k : Nat) : ∀ e ∈ (pairsL b).take k, XOk e := by
  intro e he
  have h1 := List.mem_of_mem_take he
  simp only [pairsL, List.mem_map, List.mem_range] at h1
  obtain ⟨j, _, rfl⟩ := h1
  unfold XOk
  have := (b.getD (18 + 2 * j) 0).toNat_lt
  have := (b.getD (19 + 2 * j) 0).toNat_lt
  simp only
  omega
theorem ownX_keeps {w w' : World} {B : Nat} {R : Option Addr} {cap : Nat} {l : List EX} (h : OwnX w B R cap l) {q : Nat} (hq : q < B) (k : Keeps (· = q) w w') : OwnX w' B R cap l :=
  World.ownsRow.kept (row := some q) h ⟨k.os, k.tape, k.output, k.size, fun j hj hn => k.block j hj (fun e => hn (by rw [e]))⟩ (by
    cases e : Value.ownBlock (.slice R l.length cap) with
    | none => exact Or.inl rfl
    | some k => exact Or.inr (fun e2 => by
      have := (World.ownsRow.lt h k e).1
      cases e2
      omega))
/-- What read hands back. -/
def ReadOut (w : World) (x : IN) (e : Ending) (w' : World) : Prop := ∃ R c, e = .returned (ag x R c) ∧ XR w' w'.heap.size R x.ext ∧ Below w.heap.size w w' ∧ ∀ ad, R = some ad → x.ext ≠ [] → w.heap.size ≤ ad.block
/-- What the loop over the pairs keeps. -/
def ReadRel (w : World) (b : List UInt8) (wr : World) (i : Value) : Prop := ∃ (k : Nat) (R : Option Addr) (c : Nat), i = .int .i64 (18 + 2 * (k : Int)) ∧ k ≤ 23 ∧ (∀ e ∈ (pairsL b).take k, e ≠ (0, 0)) ∧
  wr.heap[w.heap.size]? = some (.cells (b.map B8).toArray 49 (0, 0)) ∧ wr.heap[w.heap.size + 1]? = some (.cells #[.string ⟨#[]⟩, .int .i64 0, .slice none 0 0] 28 (0, 0)) ∧
  wr.heap[w.heap.size + 1 + 1]? = some (.cells #[St (nameR b), .int .i64 (sizeR b), .slice R ((pairsL b).take k).length c] 28 (0, 0)) ∧
  OwnX wr (w.heap.size + 3) R c ((pairsL b).take k) ∧ w.heap.size + 3 ≤ wr.heap.size ∧ Below w.heap.size w wr
set_option maxRecDepth 20000 in
set_option maxHeartbeats 1000000 in
theorem read_any (b : List UInt8) (w : World) (hl : b.length = 64) : Calls Try.prog 25 #[ag8 b] w (ReadOut w (readC b)) := by
  have hu := (b.getD 0 0).toNat_lt
  have hnm : nameR b = (b.drop 1).take (min (b.getD 0 0).toNat 15) := rfl
  have hC0 : (b.map B8).toArray[0]? = some (.int .u8 ((b.getD 0 0).toNat : Int)) := by
    simp [show 0 < b.length by omega, List.getD_eq_getElem?_getD]
  generalize (b.getD 0 0).toNat = n at *
  unfold ag8
  obtain ⟨C, hC⟩ : ∃ C, C = (b.map B8).toArray := ⟨_, rfl⟩
  rw [← hC] at hC0 ⊢
  obtain ⟨wA, hwA⟩ : ∃ wA, wA = w.alloc (.cells C 49) := ⟨_, rfl⟩
  have a0 : wA.heap[w.heap.size]? = some (.cells C 49 (0, 0)) := by rw [hwA]; exact heap_alloc_new w _
  have bA : Below w.heap.size w wA := by rw [hwA]; exact (Below.refl _ _).alloc (Nat.le_refl _) _
  have sA : wA.heap.size = w.heap.size + 1 := by rw [hwA, World.size_alloc]
  obtain ⟨wB, hwB⟩ : ∃ wB, wB = wA.alloc (.cells #[.string ⟨#[]⟩, .int .i64 0, .slice none 0 0] 28) := ⟨_, rfl⟩
  have b0 : wB.heap[w.heap.size]? = some (.cells C 49 (0, 0)) := by rw [hwB]; exact (Below.heap_alloc _ _ _ (by omega)).trans a0
  have b1 : wB.heap[w.heap.size + 1]? = some (.cells #[.string ⟨#[]⟩, .int .i64 0, .slice none 0 0] 28 (0, 0)) := by rw [hwB, ← sA]; exact heap_alloc_new wA _
  have bB : Below w.heap.size w wB := by rw [hwB]; exact bA.alloc bA.size _
  have sB : wB.heap.size = w.heap.size + 1 + 1 := by rw [hwB, World.size_alloc, sA]
  rw [hC] at b0
  have HC := Lib.hid hC
  have B0 := Lib.hid b0
  have B1 := Lib.hid b1
  have BB := Lib.hid bB
  have SB := Lib.hid sB
  have HNM := Lib.hid hnm
  have HLN := Lib.hid hl
  rw [hwA] at hwB
  have HWB := Lib.hid hwB
  clear bA sA a0 b0 b1 bB sB hnm hC hwB hwA hl
  go_enter Try.func25, Try.ntmps25
  go_wp2_with (first
    | ((with_reducible refine at_ (op := .box 49 (.tmp 0)) ?_); refine wpList_val rfl _ (ex_box 49 (.tmp 0) rfl _ _ rfl (box_r w C)) ?_)
    | fail)
  case inr =>
    have hlnm : (nameR b).length = n := by rw [HNM.out, List.length_take, List.length_drop, HLN.out]; omega
    rw [← HWB.out]
    clear HWB
    have c0 : wB.drew.heap[w.heap.size]? = some (.cells (b.map B8).toArray 49 (0, 0)) := B0.out
    have c1 : wB.drew.heap[w.heap.size + 1]? = _ := B1.out
    have bC : Below w.heap.size w wB.drew := BB.out.drew
    have sC : wB.drew.heap.size = w.heap.size + 1 + 1 := SB.out
    clear B0 B1 BB SB
    refine wp_region_held (S := fun W => Below (w.heap.size + 1 + 1) wB.drew W) (by kernel_rfl) ?_
    change wpAnyH _ _ _ _ _ _ _ _ wB.drew
    have hS : Below (w.heap.size + 1 + 1) wB.drew wB.drew := Below.refl _ _
    generalize wB.drew = wC at *
    have hbr : ∀ W, Below (w.heap.size + 1 + 1) wC W → BR W W.heap.size (some ⟨w.heap.size, 0, none⟩) b := fun W hW => by
      have h1 := (hW.block w.heap.size (by omega)).trans c0
      exact (Row8.of_block h1).br
    have hcv : ∀ W, Below (w.heap.size + 1 + 1) wC W → (convert 29 9 (.slice (some ⟨w.heap.size, 1, none⟩) n 63)).run Try.prog W = .ok (St (nameR b)) W := fun W hW => by
      have h1 := (hW.block w.heap.size (by omega)).trans c0
      have := run_str (P := Try.prog) W W.heap.size 29 9 5 (some ⟨w.heap.size, 1, none⟩) (nameR b) 63 (fun _ => ⟨_, rfl, (Row8.of_block h1).lt, fun k u hk => by
        have hkl := (List.getElem?_eq_some_iff.1 hk).1
        rw [HNM.out, List.getElem?_take, if_pos (by omega), List.getElem?_drop] at hk
        rw [show (⟨w.heap.size, 1, none⟩ : Addr).add k = ⟨w.heap.size, 1 + k, none⟩ from by unfold Addr.add; split <;> simp_all, (Row8.of_block h1).cell_ (by rw [HLN.out]; omega), List.getD_eq_getElem?_getD, hk]
        rfl⟩) Try.underlying29 Try.underlying5 Try.underlying9
      rw [hlnm] at this
      exact this
    have hnl := num_lt b 16 2
    have hnum : ∀ W, Below (w.heap.size + 1 + 1) wC W → Calls Try.prog 33 #[.slice (some ⟨w.heap.size, 0, none⟩) 64 64, .int .i64 16, .int .i64 2] W fun e W' => e = .returned (.int .u64 (num b 16 2 : Nat)) ∧ W' = W := fun W hW => by
      have := leNum_any (some ⟨w.heap.size, 0, none⟩) b 64 16 2 W (hbr W hW) (by rw [HLN.out]; decide) (by decide)
      rw [HLN.out] at this
      exact this.mono fun e W' ⟨he, hw⟩ => ⟨he, hw.symm⟩
    have HS1 : Hid (sizeR b = (num b 16 2 : Nat)) := Lib.hid rfl
    have HX : Hid (∀ W, Below (w.heap.size + 1 + 1) wC W → Below (w.heap.size + 1 + 1) wC (W.alloc (.cells #[.string ⟨#[]⟩, .int .i64 0, .slice none 0 0] 28))) := Lib.hid fun W hW => hW.alloc (by rw [← sC]; exact hW.size) _
    generalize hnn : num b 16 2 = nn at *
    have hn1 : nn < 65536 := hnl
    clear hnl hnn
    have hwn : IntKind.i64.wrap (nn : Int) = (nn : Int) := by rw [IntKind.wrap_i64]; omega
    have hq1 : (1 : Int) ≤ 1 + (n : Int) := by omega
    have hq2 : 1 + (n : Int) ≤ 16 → 1 + (n : Int) ≤ 64 := by omega
    have hone : (#[St (nameR b), .int .i64 (nn : Int), .slice none 0 0] : Array Value).all (·.oneCell') = true := by simp [Value.oneCell']
    have HCV := Lib.hid hcv
    have HNUM := Lib.hid hnum
    clear hcv hnum
    refine wpAnyH_take (oi := ⟨_, _, _, _, _, _⟩) (i := 0) (v := .int .i64 (1 + (n : Int))) rfl (by kernel_rfl) (by kernel_rfl) (by kernel_rfl) (fun _ _ _ h => h) (Or.inl ⟨by rfl, fun _ _ => rfl⟩) hS ?_
    try simp only [Act.put, List.setIfInBounds_toArray, List.set_cons_zero, List.set_cons_succ]
    refine wpAnyH_take (oi := ⟨_, _, _, _, _, _⟩) (i := 1) (v := .slice (some ⟨w.heap.size, 1, none⟩) n 63) rfl (by kernel_rfl) (by kernel_rfl) (by kernel_rfl) (fun _ _ _ h => h) (Or.inl ⟨by rfl, fun _ _ => by go_simp; try omega⟩) hS ?_
    try simp only [Act.put, List.setIfInBounds_toArray, List.set_cons_zero, List.set_cons_succ]
    refine wpAnyH_take (oi := ⟨_, _, _, _, _, _⟩) (i := 2) (v := St (nameR b)) rfl (by kernel_rfl) (by kernel_rfl) (by kernel_rfl) (fun _ _ _ h => h) (Or.inl ⟨by rfl, fun W h => ex_convert 29 9 (.tmp 13) rfl _ _ rfl (HCV.out W h)⟩) hS ?_
    try simp only [Act.put, List.setIfInBounds_toArray, List.set_cons_zero, List.set_cons_succ]
    refine wpAnyH_take (oi := ⟨_, _, _, _, _, _⟩) (i := 3) (v := .slice (some ⟨w.heap.size, 0, none⟩) 64 64) rfl (by kernel_rfl) (by kernel_rfl) (by kernel_rfl) (fun _ _ _ h => h) (Or.inl ⟨by rfl, fun _ _ => by go_simp⟩) hS ?_
    try simp only [Act.put, List.setIfInBounds_toArray, List.set_cons_zero, List.set_cons_succ]
    refine wpAnyH_float 4 5 6 7 ⟨_, _, _, _, _, _⟩ ⟨_, _, _, _, _, _⟩ ⟨_, _, _, _, _, _⟩ ⟨_, _, _, _, _, _⟩ rfl rfl rfl rfl (by kernel_rfl) 33 #[.slice (some ⟨w.heap.size, 0, none⟩) 64 64, .int .i64 16, .int .i64 2] (.int .u64 (nn : Nat)) (.int .i64 (nn : Int)) (.agg #[St (nameR b), .int .i64 (nn : Int), .slice none 0 0]) (.pointer (some ⟨wC.heap.size, 0, none⟩)) (w' := wC.alloc (.cells #[.string ⟨#[]⟩, .int .i64 0, .slice none 0 0] 28)) rfl rfl (fun _ => by go_simp) HNUM.out (Or.inl ⟨by rfl, fun _ _ => by go_simp⟩) (Or.inl ⟨by rfl, fun _ _ => by go_simp⟩) (by go_simp) hS (HX.out _ hS) (fun _ _ _ h => h) (fun _ _ _ h => h) ?_
    try simp only [Act.put, List.setIfInBounds_toArray, List.set_cons_zero, List.set_cons_succ]
    have hS2 := HX.out _ hS
    have g2 : (wC.alloc (.cells #[.string ⟨#[]⟩, .int .i64 0, .slice none 0 0] 28)).heap[wC.heap.size]? = some (.cells #[.string ⟨#[]⟩, .int .i64 0, .slice none 0 0] 28 (0, 0)) := heap_alloc_new wC _
    have s2 : (wC.alloc (.cells #[.string ⟨#[]⟩, .int .i64 0, .slice none 0 0] 28)).heap.size = w.heap.size + 3 := by rw [World.size_alloc, sC]
    rw [sC] at g2
    have ep : Value.pointer (some ⟨wC.heap.size, 0, none⟩) = .pointer (some ⟨w.heap.size + 1 + 1, 0, none⟩) := by rw [sC]
    rw [ep]
    clear hS ep
    generalize wC.alloc (.cells #[.string ⟨#[]⟩, .int .i64 0, .slice none 0 0] 28) = wD at *
    have hS := hS2
    clear hS2
    refine wpAnyH_all (rs := [8]) (by kernel_rfl) (by simp) fun i hi => ?_
    obtain rfl : i = 8 := by simpa using hi
    have srun := run_storeAt_mid (P := Try.prog) wD (w.heap.size + 1 + 1) 0 28 #[St (nameR b), .int .i64 (nn : Int), .slice none 0 0] (there_cells (zs := [_, _, _]) g2 0 3 (by simp)) size_i hone
    obtain ⟨g3, k3⟩ := setCells_cells (zs := [_, _, _]) (ys := [St (nameR b), .int .i64 (nn : Int), .slice none 0 0]) g2 rfl
    refine wpOp_skip (om := ⟨_, _, _, _, _, _⟩) (w' := wD.setCells (w.heap.size + 1 + 1) 0 [St (nameR b), .int .i64 (nn : Int), .slice none 0 0]) rfl rfl (ex_store 28 (.tmp 4) (.tmp 18) rfl _ _ rfl rfl srun) ?_
    have hS3 : Below (w.heap.size + 1 + 1) wC _ := hS.trans (k3.toBelow _ (by omega) (by intro k hk; omega))
    have s3 := k3.size
    clear srun k3 hS hi
    generalize wD.setCells (w.heap.size + 1 + 1) 0 [St (nameR b), .int .i64 (nn : Int), .slice none 0 0] = wE at *
    have hS := hS3
    clear hS3
    refine ⟨hS, ?_⟩
    try simp only [Act.put, List.setIfInBounds_toArray, List.set_cons_zero, List.set_cons_succ]
    refine wpAnyH_done (by kernel_rfl) ?_ _
    try simp only [Act.put, List.setIfInBounds_toArray, List.set_cons_zero, List.set_cons_succ]
    have e0 := (hS.block w.heap.size (by omega)).trans c0
    have e1 := (hS.block (w.heap.size + 1) (by omega)).trans c1
    have bE := bC.trans (hS.mono (by omega))
    have sE : w.heap.size + 3 ≤ wE.heap.size := by omega
    have HR0 : Hid (ReadRel w b wE (.int .i64 18)) := ⟨0, none, 0, rfl, by omega, (fun e he => by cases he), e0, e1, by rw [HS1.out]; exact g3, OwnX.nil _ _, sE, bE⟩
    clear e0 e1 bE sE g3 hS c0 c1 bC
    go_wp2_with fail
    go_loopw [5, 6] (fun i _ wr => ReadRel w b wr i) (fun i _ _ => (64 - intOf i).toNat)
    case atStart => exact HR0.out
    case round =>
      obtain ⟨k, R, c, rfl, hk, hall, e0, e1, e2, ow, hsz, hb⟩ := hrel
      by_cases hlt : k < 23
      · have p0 := (Row8.of_block e0).cell_ (k := 18 + 2 * k) (by rw [HLN.out]; omega)
        have p1 := (Row8.of_block e0).cell_ (k := 19 + 2 * k) (by rw [HLN.out]; omega)
        have hpa := pair_at b hlt
        have hpt := pairs_take b hlt
        have l0 := (b.getD (18 + 2 * k) 0).toNat_lt
        have l1 := (b.getD (19 + 2 * k) 0).toNat_lt
        obtain ⟨K, hK⟩ : ∃ K : Nat, K = 18 + 2 * k := ⟨_, rfl⟩
        rw [show 19 + 2 * k = K + 1 by omega] at p1 hpa l1
        rw [show 18 + 2 * k = K by omega] at p0 hpa l0
        rw [show (18 : Int) + 2 * (k : Int) = (K : Int) by omega]
        have q0 : ∀ W, Below wr.heap.size wr W → W.cell? ⟨w.heap.size, K, none⟩ = some (.int .u8 ((b.getD K 0).toNat : Int)) := fun W hW => (hW.cell (p := ⟨_, K, none⟩) (by show w.heap.size < _; omega)).trans p0
        have q1 : ∀ W, Below wr.heap.size wr W → W.cell? ⟨w.heap.size, K + 1, none⟩ = some (.int .u8 ((b.getD (K + 1) 0).toNat : Int)) := fun W hW => (hW.cell (p := ⟨_, K + 1, none⟩) (by show w.heap.size < _; omega)).trans p1
        generalize (b.getD K 0).toNat = n0 at *
        generalize (b.getD (K + 1) 0).toNat = n1 at *
        have l0' : n0 < 256 := l0
        have l1' : n1 < 256 := l1
        have ew3 : IntKind.i64.wrap ((K : Int) + 1) = ((K + 1 : Nat) : Int) := by rw [IntKind.wrap_i64]; omega
        have ew5 : IntKind.i64.wrap ((K : Int) + 2) = ((K + 2 : Nat) : Int) := by rw [IntKind.wrap_i64]; omega
        have ew6 : IntKind.i64.wrap (n0 : Int) = (n0 : Int) := by rw [IntKind.wrap_i64]; omega
        have ew7 : IntKind.i64.wrap (n1 : Int) = (n1 : Int) := by rw [IntKind.wrap_i64]; omega
        have hone2 : (#[.int .i64 (n0 : Int), .int .i64 (n1 : Int)] : Array Value).all (·.oneCell') = true := by simp [Value.oneCell']
        have hK1 : (K : Int) < 64 := by omega
        have hK2 : ((K + 1 : Nat) : Int) < 64 := by omega
        have HK := Lib.hid hK
        have Q0 := Lib.hid q0
        have Q1 := Lib.hid q1
        have HPT := Lib.hid hpt
        have HPA := Lib.hid hpa
        have HALL := Lib.hid hall
        have E0 := Lib.hid e0
        have E1 := Lib.hid e1
        have E2 := Lib.hid e2
        have OW := Lib.hid ow
        have HB := Lib.hid hb
        clear hK q0 q1 hpt hpa hall e0 e1 e2 ow hb p0 p1 l0 l1 HR0
        go_wp2_with fail
        refine wp_region_held (S := fun W => Below wr.heap.size wr W) (by kernel_rfl) ?_
        change wpAnyH _ _ _ _ _ _ _ _ wr.drew
        have hS : Below wr.heap.size wr wr.drew := (Below.refl _ _).drew
        have hz : wr.drew.heap.size = wr.heap.size := rfl
        generalize wr.drew = w2 at *
        refine wpAnyH_take (oi := ⟨_, _, _, _, _, _⟩) (i := 0) (v := .int .i64 (K : Int)) rfl (by kernel_rfl) (by kernel_rfl) (by kernel_rfl) (fun _ _ _ h => h) (Or.inl ⟨by rfl, fun _ _ => rfl⟩) hS ?_
        try simp only [Act.put, List.setIfInBounds_toArray, List.set_cons_zero, List.set_cons_succ]
        refine wpAnyH_take (oi := ⟨_, _, _, _, _, _⟩) (i := 1) (v := .pointer (some ⟨w.heap.size, K, none⟩)) rfl (by kernel_rfl) (by kernel_rfl) (by kernel_rfl) (fun _ _ _ h => h) (Or.inl ⟨by rfl, fun _ _ => by go_simp⟩) hS ?_
        try simp only [Act.put, List.setIfInBounds_toArray, List.set_cons_zero, List.set_cons_succ]
        refine wpAnyH_take (oi := ⟨_, _, _, _, _, _⟩) (i := 2) (v := .int .u8 (n0 : Int)) rfl (by kernel_rfl) (by kernel_rfl) (by kernel_rfl) (fun _ _ _ h => h) (yif_load rfl 5 (.tmp 24) rfl _ _ rfl fun W h => load_one aggU8 (Q0.out W h)) hS ?_
        try simp only [Act.put, List.setIfInBounds_toArray, List.set_cons_zero, List.set_cons_succ]
        refine wpAnyH_take (oi := ⟨_, _, _, _, _, _⟩) (i := 3) (v := .int .i64 (n0 : Int)) rfl (by kernel_rfl) (by kernel_rfl) (by kernel_rfl) (fun _ _ _ h => h) (Or.inl ⟨by rfl, fun _ _ => by go_simp⟩) hS ?_
        try simp only [Act.put, List.setIfInBounds_toArray, List.set_cons_zero, List.set_cons_succ]
        refine wpAnyH_take (oi := ⟨_, _, _, _, _, _⟩) (i := 4) (v := .int .i64 (K : Int)) rfl (by kernel_rfl) (by kernel_rfl) (by kernel_rfl) (fun _ _ _ h => h) (Or.inl ⟨by rfl, fun _ _ => rfl⟩) hS ?_
        try simp only [Act.put, List.setIfInBounds_toArray, List.set_cons_zero, List.set_cons_succ]
        refine wpAnyH_take (oi := ⟨_, _, _, _, _, _⟩) (i := 5) (v := .int .i64 ((K + 1 : Nat) : Int)) rfl (by kernel_rfl) (by kernel_rfl) (by kernel_rfl) (fun _ _ _ h => h) (Or.inl ⟨by rfl, fun _ _ => by go_simp⟩) hS ?_
        try simp only [Act.put, List.setIfInBounds_toArray, List.set_cons_zero, List.set_cons_succ]
        refine wpAnyH_take (oi := ⟨_, _, _, _, _, _⟩) (i := 6) (v := .pointer (some ⟨w.heap.size, K + 1, none⟩)) rfl (by kernel_rfl) (by kernel_rfl) (by kernel_rfl) (fun _ _ _ h => h) (Or.inl ⟨by rfl, fun _ _ => by go_simp; try omega⟩) hS ?_
        try simp only [Act.put, List.setIfInBounds_toArray, List.set_cons_zero, List.set_cons_succ]
        refine wpAnyH_take (oi := ⟨_, _, _, _, _, _⟩) (i := 7) (v := .int .u8 (n1 : Int)) rfl (by kernel_rfl) (by kernel_rfl) (by kernel_rfl) (fun _ _ _ h => h) (yif_load rfl 5 (.tmp 29) rfl _ _ rfl fun W h => load_one aggU8 (Q1.out W h)) hS ?_
        try simp only [Act.put, List.setIfInBounds_toArray, List.set_cons_zero, List.set_cons_succ]
        refine wpAnyH_take (oi := ⟨_, _, _, _, _, _⟩) (i := 8) (v := .int .i64 (n1 : Int)) rfl (by kernel_rfl) (by kernel_rfl) (by kernel_rfl) (fun _ _ _ h => h) (Or.inl ⟨by rfl, fun _ _ => by go_simp⟩) hS ?_
        try simp only [Act.put, List.setIfInBounds_toArray, List.set_cons_zero, List.set_cons_succ]
        refine wpAnyH_take (oi := ⟨_, _, _, _, _, _⟩) (i := 9) (v := .agg #[.int .i64 (n0 : Int), .int .i64 (n1 : Int)]) rfl (by kernel_rfl) (by kernel_rfl) (by kernel_rfl) (fun _ _ _ h => h) (Or.inl ⟨by rfl, fun _ _ => by go_simp⟩) hS ?_
        try simp only [Act.put, List.setIfInBounds_toArray, List.set_cons_zero, List.set_cons_succ]
        refine wpAnyH_all (rs := [10]) (by kernel_rfl) (by simp) fun i hi => ?_
        obtain rfl : i = 10 := by simpa using hi
        refine op_run (om := ⟨_, _, _, _, _, _⟩) (u := .pointer (some ⟨w2.heap.size, 0, none⟩)) (w' := w2.alloc (.cells #[.int .i64 0, .int .i64 0] 47)) rfl rfl (by go_simp) _ _ rfl rfl ?_
        rintro u W3 ⟨rfl, rfl⟩
        have g3 : (w2.alloc (.cells #[.int .i64 0, .int .i64 0] 47)).heap[w2.heap.size]? = some (.cells #[.int .i64 0, .int .i64 0] 47 (0, 0)) := heap_alloc_new w2 _
        have hS3 : Below wr.heap.size wr (w2.alloc (.cells #[.int .i64 0, .int .i64 0] 47)) := hS.alloc (by omega) _
        rw [hz] at g3 ⊢
        clear hS hi
        generalize w2.alloc (.cells #[.int .i64 0, .int .i64 0] 47) = w3 at *
        have hS := hS3
        clear hS3
        refine ⟨hS, ?_⟩
        try simp only [Act.put, List.setIfInBounds_toArray, List.set_cons_zero, List.set_cons_succ]
        refine wpAnyH_all (rs := [11]) (by kernel_rfl) (by simp) fun i hi => ?_
        obtain rfl : i = 11 := by simpa using hi
        have srun := run_storeAt_mid (P := Try.prog) w3 wr.heap.size 0 47 #[.int .i64 (n0 : Int), .int .i64 (n1 : Int)] (there_cells (zs := [_, _]) g3 0 2 (by simp)) size_x hone2
        obtain ⟨g4, k4⟩ := setCells_cells (zs := [_, _]) (ys := [.int .i64 (n0 : Int), .int .i64 (n1 : Int)]) g3 rfl
        refine wpOp_skip (om := ⟨_, _, _, _, _, _⟩) (w' := w3.setCells wr.heap.size 0 [.int .i64 (n0 : Int), .int .i64 (n1 : Int)]) rfl rfl (ex_store 47 (.tmp 6) (.tmp 32) rfl _ _ rfl rfl srun) ?_
        have hS3 : Below wr.heap.size wr _ := hS.trans (k4.toBelow _ hS.size (by intro k hk; omega))
        clear srun k4 hS hi
        generalize w3.setCells wr.heap.size 0 [.int .i64 (n0 : Int), .int .i64 (n1 : Int)] = w4 at *
        have hS := hS3
        clear hS3
        refine ⟨hS, ?_⟩
        try simp only [Act.put, List.setIfInBounds_toArray, List.set_cons_zero, List.set_cons_succ]
        refine wpAnyH_done (by kernel_rfl) ?_ _
        try simp only [Act.put, List.setIfInBounds_toArray, List.set_cons_zero, List.set_cons_succ]
        have ow3 := OW.out.below hS
        have e03 := (hS.block w.heap.size (by omega)).trans E0.out
        have e13 := (hS.block (w.heap.size + 1) (by omega)).trans E1.out
        have e23 := (hS.block (w.heap.size + 1 + 1) (by omega)).trans E2.out
        have hb3 := HB.out.trans (hS.mono HB.out.size)
        have hz3 := hS.size
        have t0 : w4.cell? ⟨wr.heap.size, 0, none⟩ = some (.int .i64 n0) := by rw [cell_of_row _ _ _ _ _ _ g4]; rfl
        have t1 : w4.cell? ⟨wr.heap.size, 1, none⟩ = some (.int .i64 n1) := by rw [cell_of_row _ _ _ _ _ _ g4]; rfl
        clear OW E0 E1 E2 HB hS Q0 Q1
        by_cases hnz : n0 = 0 ∧ n1 = 0
        · obtain ⟨rfl, rfl⟩ := hnz
          have hext := extC_take b hlt HALL.out HPA.out
          have hl3 := range_cells (zs := [_, _, _]) e23
          have lr := run_loadAt_mid (P := Try.prog) w4 (w.heap.size + 1 + 1) 0 28 [St (nameR b), .int .i64 (sizeR b), .slice R ((pairsL b).take k).length c] _ hl3 Try.underlying28 rfl (by rw [size_i]; rfl)
          have sr := run_storeAt_mid (P := Try.prog) w4 (w.heap.size + 1) 0 28 #[St (nameR b), .int .i64 (sizeR b), .slice R ((pairsL b).take k).length c] (there_cells (zs := [_, _, _]) e13 0 3 (by simp)) size_i (by simp [Value.oneCell'])
          obtain ⟨h1, k1⟩ := setCells_cells (zs := [_, _, _]) (ys := [St (nameR b), .int .i64 (sizeR b), .slice R ((pairsL b).take k).length c]) e13 rfl
          have ow5 := ownX_keeps ow3 (by omega) k1
          have hb5 := hb3.trans (k1.toBelow w.heap.size hb3.size (by intro k hk; omega))
          generalize w4.setCells (w.heap.size + 1) 0 [St (nameR b), .int .i64 (sizeR b), .slice R ((pairsL b).take k).length c] = w5 at *
          have hnew : ∀ ad, R = some ad → (readC b).ext ≠ [] → w.heap.size ≤ ad.block := fun ad e hn => by
            change extC b ≠ [] at hn
            rw [hext] at hn
            obtain ⟨g, e2, hg, _⟩ := ow5.at_ (k := 0) (List.length_pos_iff.2 hn)
            rw [e] at e2
            cases e2
            show w.heap.size ≤ g
            omega
          have hout : ReadOut w (readC b) (.returned (.agg #[St (nameR b), .int .i64 (sizeR b), .slice R ((pairsL b).take k).length c])) w5 :=
            ⟨R, c, by show _ = Ending.returned (.agg #[St (nameR b), .int .i64 (sizeR b), .slice R (extC b).length c]); rw [hext], by show XR w5 w5.heap.size R (extC b); rw [hext]; exact ow5.xr (pairs_bd b _), hb5, hnew⟩
          have LR := Lib.hid lr
          have SR := Lib.hid sr
          have H1 := Lib.hid h1
          have HOUT := Lib.hid hout
          clear hl3 lr sr h1 k1 ow5 hb5 hout ow3 e13 e23 hb3 hext
          go_wp2_with (first
            | ((with_reducible refine at_ (op := .load 28 (.tmp 4)) ?_); refine wpList_val rfl _ (ex_load 28 (.tmp 4) rfl _ _ rfl LR.out) ?_)
            | ((with_reducible refine at_ (op := .store 28 (.tmp 2) (.tmp 42)) ?_); refine wpList_unit rfl (ex_store 28 (.tmp 2) (.tmp 42) rfl _ _ rfl rfl SR.out) ?_)
            | fail)
          refine bodyPost_ret (v := .agg #[St (nameR b), .int .i64 (sizeR b), .slice R ((pairsL b).take k).length c]) ?_ rfl HOUT.out
          exact results_cell_row rfl _ _ (w.heap.size + 1) 28 _ (0, 0) _ rfl H1.out Try.underlying28 rfl (by rw [size_i]; rfl)
        · have hpt := HPT.out
          rw [HPA.out] at hpt
          have hall2 : ∀ e ∈ (pairsL b).take (k + 1), e ≠ (0, 0) := fun e he => by
            rw [hpt] at he
            rcases List.mem_append.1 he with he | he
            · exact HALL.out e he
            · rw [List.mem_singleton] at he
              subst he
              intro h
              injection h with h1 h2
              exact hnz ⟨by omega, by omega⟩
          have ownA := ow3.alloc (.cells #[.int .i64 (n0 : Int), .int .i64 (n1 : Int)] 47)
          have bA : Below (w.heap.size + 3) w4 (w4.alloc (.cells #[.int .i64 (n0 : Int), .int .i64 (n1 : Int)] 47)) := (Below.refl _ _).alloc (by omega) _
          obtain ⟨R', cap', w6, hap, own6, b6, s6⟩ := ownA.app (by rw [World.size_alloc]; omega) (by rw [List.length_take]; omega) [((n0 : Int), (n1 : Int))] (by simp) ⟨w4.heap.size, 0, none⟩ 1 (fun j u hu => by
            rw [Ex.add_zero, cell_of_row _ _ _ _ _ _ (heap_alloc_new w4 _)]
            simpa [xcells] using hu)
          rw [← hpt] at own6 hap
          have b46 := bA.trans b6
          have f13 := (b46.block (w.heap.size + 1) (by omega)).trans e13
          have f03 := (b46.block w.heap.size (by omega)).trans e03
          have f23 := (b46.block (w.heap.size + 1 + 1) (by omega)).trans e23
          have hb6 := hb3.trans (b46.mono (by omega))
          have x0 : w4.cell? ⟨w.heap.size + 1 + 1, 2, none⟩ = some (.slice R ((pairsL b).take k).length c) := by rw [cell_of_row _ _ _ _ _ _ e23]; rfl
          have x2 : w6.cell? ⟨w.heap.size + 1 + 1, 2, none⟩ = some (.slice R ((pairsL b).take k).length c) := by rw [cell_of_row _ _ _ _ _ _ f23]; rfl
          have xf := frozen_of_row w6 (w.heap.size + 1 + 1) 2 _ _ f23
          have HAP := Lib.hid hap
          have HPT2 := Lib.hid hpt
          have hlk : ((pairsL b).take (k + 1)).length = k + 1 := by rw [hpt, List.length_append, List.length_take]; simp [pairsL]; omega
          have g7 : (w6.setCell ⟨w.heap.size + 1 + 1, 2, none⟩ (.slice R' ((pairsL b).take (k + 1)).length cap')).heap[w.heap.size + 1 + 1]? = some (.cells #[St (nameR b), .int .i64 (sizeR b), .slice R' ((pairsL b).take (k + 1)).length cap'] 28 (0, 0)) := by
            rw [heap_setCell_same w6 _ 2 _ _ _ f23]
            simp
          have own7 := ownX_keeps own6 (q := w.heap.size + 1 + 1) (by omega) (Keeps.setCell (· = w.heap.size + 1 + 1) w6 ⟨w.heap.size + 1 + 1, 2, none⟩ (.slice R' ((pairsL b).take (k + 1)).length cap') rfl)
          have hb7 := hb6.setCell (p := ⟨w.heap.size + 1 + 1, 2, none⟩) (by show _ ≤ w.heap.size + 1 + 1; omega) (.slice R' ((pairsL b).take (k + 1)).length cap')
          have f07 := (Below.heap_setCell w6 ⟨w.heap.size + 1 + 1, 2, none⟩ (.slice R' ((pairsL b).take (k + 1)).length cap') w.heap.size (by simp; omega)).trans f03
          have f17 := (Below.heap_setCell w6 ⟨w.heap.size + 1 + 1, 2, none⟩ (.slice R' ((pairsL b).take (k + 1)).length cap') (w.heap.size + 1) (by simp)).trans f13
          have s7 : w.heap.size + 3 ≤ (w6.setCell ⟨w.heap.size + 1 + 1, 2, none⟩ (.slice R' ((pairsL b).take (k + 1)).length cap')).heap.size := by rw [World.size_setCell]; have := b46.size; omega
          have HR : Hid (ReadRel w b (w6.setCell ⟨w.heap.size + 1 + 1, 2, none⟩ (.slice R' ((pairsL b).take (k + 1)).length cap')) (.int .i64 ((K + 2 : Nat) : Int))) := ⟨k + 1, R', cap', by rw [HK.out]; congr 1, by omega, hall2, f07, f17, g7, own7, s7, hb7⟩
          have hmes : (64 - ((K + 2 : Nat) : Int)).toNat < (64 - (K : Int)).toNat := by omega
          have HMES := Lib.hid hmes
          clear hpt hall2 ownA bA own6 b6 s6 b46 f13 f03 f23 hb6 hap g7 own7 hb7 f07 f17 s7 hlk e03 e13 e23 hb3 ow3 hmes
          generalize ((pairsL b).take (k + 1)).length = L1 at *
          generalize ((pairsL b).take k).length = L0 at *
          by_cases hn0 : n0 = 0
          · have hn1 : ¬ n1 = 0 := fun h => hnz ⟨hn0, h⟩
            subst hn0
            clear hnz
            have hb0 : ((n1 : Int) == 0) = false := by simp [hn1]
            have hb1 : ¬ (n1 : Int) = 0 := by omega
            go_wp2_with (first | (at_builtin; refine wpList_append_run rfl _ _ 26 rfl _ HAP.out ?_) | fail)
            go_roundw
            case rel => exact HR.out
            case measure => exact HMES.out
          · clear hnz
            have hb0 : ((n0 : Int) == 0) = false := by simp [hn0]
            have hb1 : ¬ (n0 : Int) = 0 := by omega
            go_wp2_with (first | (at_builtin; refine wpList_append_run rfl _ _ 26 rfl _ HAP.out ?_) | fail)
            go_roundw
            case rel => exact HR.out
            case measure => exact HMES.out
      · obtain rfl : k = 23 := by omega
        have hext := extC_all b hall
        have ow3 := ow
        have e13 := e1
        have e23 := e2
        have hb3 := hb
        clear HR0
        obtain ⟨w4, hw4⟩ : ∃ w4, w4 = wr := ⟨_, rfl⟩
        rw [← hw4] at ow3 e13 e23 hb3 ⊢
        clear hw4 e0 e1 e2 ow hb
        have hl3 := range_cells (zs := [_, _, _]) e23
        have lr := run_loadAt_mid (P := Try.prog) w4 (w.heap.size + 1 + 1) 0 28 [St (nameR b), .int .i64 (sizeR b), .slice R ((pairsL b).take 23).length c] _ hl3 Try.underlying28 rfl (by rw [size_i]; rfl)
        have sr := run_storeAt_mid (P := Try.prog) w4 (w.heap.size + 1) 0 28 #[St (nameR b), .int .i64 (sizeR b), .slice R ((pairsL b).take 23).length c] (there_cells (zs := [_, _, _]) e13 0 3 (by simp)) size_i (by simp [Value.oneCell'])
        obtain ⟨h1, k1⟩ := setCells_cells (zs := [_, _, _]) (ys := [St (nameR b), .int .i64 (sizeR b), .slice R ((pairsL b).take 23).length c]) e13 rfl
        have ow5 := ownX_keeps ow3 (by omega) k1
        have hb5 := hb3.trans (k1.toBelow w.heap.size hb3.size (by intro k hk; omega))
        generalize w4.setCells (w.heap.size + 1) 0 [St (nameR b), .int .i64 (sizeR b), .slice R ((pairsL b).take 23).length c] = w5 at *
        have hnew : ∀ ad, R = some ad → (readC b).ext ≠ [] → w.heap.size ≤ ad.block := fun ad e hn => by
          change extC b ≠ [] at hn
          rw [hext] at hn
          obtain ⟨g, e2, hg, _⟩ := ow5.at_ (k := 0) (List.length_pos_iff.2 hn)
          rw [e] at e2
          cases e2
          show w.heap.size ≤ g
          omega
        have hout : ReadOut w (readC b) (.returned (.agg #[St (nameR b), .int .i64 (sizeR b), .slice R ((pairsL b).take 23).length c])) w5 :=
          ⟨R, c, by show _ = Ending.returned (.agg #[St (nameR b), .int .i64 (sizeR b), .slice R (extC b).length c]); rw [hext], by show XR w5 w5.heap.size R (extC b); rw [hext]; exact ow5.xr (pairs_bd b _), hb5, hnew⟩
        have LR := Lib.hid lr
        have SR := Lib.hid sr
        have H1 := Lib.hid h1
        have HOUT := Lib.hid hout
        clear hl3 lr sr h1 k1 ow5 hb5 hout ow3 e13 e23 hb3 hext
        go_wp2_with (first
          | ((with_reducible refine at_ (op := .load 28 (.tmp 4)) ?_); refine wpList_val rfl _ (ex_load 28 (.tmp 4) rfl _ _ rfl LR.out) ?_)
          | ((with_reducible refine at_ (op := .store 28 (.tmp 2) (.tmp 42)) ?_); refine wpList_unit rfl (ex_store 28 (.tmp 2) (.tmp 42) rfl _ _ rfl rfl SR.out) ?_)
          | fail)
        refine bodyPost_ret (v := .agg #[St (nameR b), .int .i64 (sizeR b), .slice R ((pairsL b).take 23).length c]) ?_ rfl HOUT.out
        exact results_cell_row rfl _ _ (w.heap.size + 1) 28 _ (0, 0) _ rfl H1.out Try.underlying28 rfl (by rw [size_i]; rfl)
  case inl =>
    have hlnm : (nameR b).length = 15 := by rw [HNM.out, List.length_take, List.length_drop, HLN.out]; omega
    rw [← HWB.out]
    clear HWB
    have c0 : wB.drew.heap[w.heap.size]? = some (.cells (b.map B8).toArray 49 (0, 0)) := B0.out
    have c1 : wB.drew.heap[w.heap.size + 1]? = _ := B1.out
    have bC : Below w.heap.size w wB.drew := BB.out.drew
    have sC : wB.drew.heap.size = w.heap.size + 1 + 1 := SB.out
    clear B0 B1 BB SB
    refine wp_region_held (S := fun W => Below (w.heap.size + 1 + 1) wB.drew W) (by kernel_rfl) ?_
    change wpAnyH _ _ _ _ _ _ _ _ wB.drew
    have hS : Below (w.heap.size + 1 + 1) wB.drew wB.drew := Below.refl _ _
    generalize wB.drew = wC at *
    have hbr : ∀ W, Below (w.heap.size + 1 + 1) wC W → BR W W.heap.size (some ⟨w.heap.size, 0, none⟩) b := fun W hW => by
      have h1 := (hW.block w.heap.size (by omega)).trans c0
      exact (Row8.of_block h1).br
    have hcv : ∀ W, Below (w.heap.size + 1 + 1) wC W → (convert 29 9 (.slice (some ⟨w.heap.size, 1, none⟩) 15 63)).run Try.prog W = .ok (St (nameR b)) W := fun W hW => by
      have h1 := (hW.block w.heap.size (by omega)).trans c0
      have := run_str (P := Try.prog) W W.heap.size 29 9 5 (some ⟨w.heap.size, 1, none⟩) (nameR b) 63 (fun _ => ⟨_, rfl, (Row8.of_block h1).lt, fun k u hk => by
        have hkl := (List.getElem?_eq_some_iff.1 hk).1
        rw [HNM.out, List.getElem?_take, if_pos (by omega), List.getElem?_drop] at hk
        rw [show (⟨w.heap.size, 1, none⟩ : Addr).add k = ⟨w.heap.size, 1 + k, none⟩ from by unfold Addr.add; split <;> simp_all, (Row8.of_block h1).cell_ (by rw [HLN.out]; omega), List.getD_eq_getElem?_getD, hk]
        rfl⟩) Try.underlying29 Try.underlying5 Try.underlying9
      rw [hlnm] at this
      exact this
    have hnl := num_lt b 16 2
    have hnum : ∀ W, Below (w.heap.size + 1 + 1) wC W → Calls Try.prog 33 #[.slice (some ⟨w.heap.size, 0, none⟩) 64 64, .int .i64 16, .int .i64 2] W fun e W' => e = .returned (.int .u64 (num b 16 2 : Nat)) ∧ W' = W := fun W hW => by
      have := leNum_any (some ⟨w.heap.size, 0, none⟩) b 64 16 2 W (hbr W hW) (by rw [HLN.out]; decide) (by decide)
      rw [HLN.out] at this
      exact this.mono fun e W' ⟨he, hw⟩ => ⟨he, hw.symm⟩
    have HS1 : Hid (sizeR b = (num b 16 2 : Nat)) := Lib.hid rfl
    have HX : Hid (∀ W, Below (w.heap.size + 1 + 1) wC W → Below (w.heap.size + 1 + 1) wC (W.alloc (.cells #[.string ⟨#[]⟩, .int .i64 0, .slice none 0 0] 28))) := Lib.hid fun W hW => hW.alloc (by rw [← sC]; exact hW.size) _
    generalize hnn : num b 16 2 = nn at *
    have hn1 : nn < 65536 := hnl
    clear hnl hnn
    have hwn : IntKind.i64.wrap (nn : Int) = (nn : Int) := by rw [IntKind.wrap_i64]; omega
    have hq1 : (1 : Int) ≤ 1 + (n : Int) := by omega
    have hq2 : 1 + (n : Int) ≤ 16 → 1 + (n : Int) ≤ 64 := by omega
    have hone : (#[St (nameR b), .int .i64 (nn : Int), .slice none 0 0] : Array Value).all (·.oneCell') = true := by simp [Value.oneCell']
    have HCV := Lib.hid hcv
    have HNUM := Lib.hid hnum
    clear hcv hnum
    refine wpAnyH_take (oi := ⟨_, _, _, _, _, _⟩) (i := 0) (v := .int .i64 (16)) rfl (by kernel_rfl) (by kernel_rfl) (by kernel_rfl) (fun _ _ _ h => h) (Or.inl ⟨by rfl, fun _ _ => rfl⟩) hS ?_
    try simp only [Act.put, List.setIfInBounds_toArray, List.set_cons_zero, List.set_cons_succ]
    refine wpAnyH_take (oi := ⟨_, _, _, _, _, _⟩) (i := 1) (v := .slice (some ⟨w.heap.size, 1, none⟩) 15 63) rfl (by kernel_rfl) (by kernel_rfl) (by kernel_rfl) (fun _ _ _ h => h) (Or.inl ⟨by rfl, fun _ _ => by go_simp⟩) hS ?_
    try simp only [Act.put, List.setIfInBounds_toArray, List.set_cons_zero, List.set_cons_succ]
    refine wpAnyH_take (oi := ⟨_, _, _, _, _, _⟩) (i := 2) (v := St (nameR b)) rfl (by kernel_rfl) (by kernel_rfl) (by kernel_rfl) (fun _ _ _ h => h) (Or.inl ⟨by rfl, fun W h => ex_convert 29 9 (.tmp 13) rfl _ _ rfl (HCV.out W h)⟩) hS ?_
    try simp only [Act.put, List.setIfInBounds_toArray, List.set_cons_zero, List.set_cons_succ]
    refine wpAnyH_take (oi := ⟨_, _, _, _, _, _⟩) (i := 3) (v := .slice (some ⟨w.heap.size, 0, none⟩) 64 64) rfl (by kernel_rfl) (by kernel_rfl) (by kernel_rfl) (fun _ _ _ h => h) (Or.inl ⟨by rfl, fun _ _ => by go_simp⟩) hS ?_
    try simp only [Act.put, List.setIfInBounds_toArray, List.set_cons_zero, List.set_cons_succ]
    refine wpAnyH_float 4 5 6 7 ⟨_, _, _, _, _, _⟩ ⟨_, _, _, _, _, _⟩ ⟨_, _, _, _, _, _⟩ ⟨_, _, _, _, _, _⟩ rfl rfl rfl rfl (by kernel_rfl) 33 #[.slice (some ⟨w.heap.size, 0, none⟩) 64 64, .int .i64 16, .int .i64 2] (.int .u64 (nn : Nat)) (.int .i64 (nn : Int)) (.agg #[St (nameR b), .int .i64 (nn : Int), .slice none 0 0]) (.pointer (some ⟨wC.heap.size, 0, none⟩)) (w' := wC.alloc (.cells #[.string ⟨#[]⟩, .int .i64 0, .slice none 0 0] 28)) rfl rfl (fun _ => by go_simp) HNUM.out (Or.inl ⟨by rfl, fun _ _ => by go_simp⟩) (Or.inl ⟨by rfl, fun _ _ => by go_simp⟩) (by go_simp) hS (HX.out _ hS) (fun _ _ _ h => h) (fun _ _ _ h => h) ?_
    try simp only [Act.put, List.setIfInBounds_toArray, List.set_cons_zero, List.set_cons_succ]
    have hS2 := HX.out _ hS
    have g2 : (wC.alloc (.cells #[.string ⟨#[]⟩, .int .i64 0, .slice none 0 0] 28)).heap[wC.heap.size]? = some (.cells #[.string ⟨#[]⟩, .int .i64 0, .slice none 0 0] 28 (0, 0)) := heap_alloc_new wC _
    have s2 : (wC.alloc (.cells #[.string ⟨#[]⟩, .int .i64 0, .slice none 0 0] 28)).heap.size = w.heap.size + 3 := by rw [World.size_alloc, sC]
    rw [sC] at g2
    have ep : Value.pointer (some ⟨wC.heap.size, 0, none⟩) = .pointer (some ⟨w.heap.size + 1 + 1, 0, none⟩) := by rw [sC]
    rw [ep]
    clear hS ep
    generalize wC.alloc (.cells #[.string ⟨#[]⟩, .int .i64 0, .slice none 0 0] 28) = wD at *
    have hS := hS2
    clear hS2
    refine wpAnyH_all (rs := [8]) (by kernel_rfl) (by simp) fun i hi => ?_
    obtain rfl : i = 8 := by simpa using hi
    have srun := run_storeAt_mid (P := Try.prog) wD (w.heap.size + 1 + 1) 0 28 #[St (nameR b), .int .i64 (nn : Int), .slice none 0 0] (there_cells (zs := [_, _, _]) g2 0 3 (by simp)) size_i hone
    obtain ⟨g3, k3⟩ := setCells_cells (zs := [_, _, _]) (ys := [St (nameR b), .int .i64 (nn : Int), .slice none 0 0]) g2 rfl
    refine wpOp_skip (om := ⟨_, _, _, _, _, _⟩) (w' := wD.setCells (w.heap.size + 1 + 1) 0 [St (nameR b), .int .i64 (nn : Int), .slice none 0 0]) rfl rfl (ex_store 28 (.tmp 4) (.tmp 18) rfl _ _ rfl rfl srun) ?_
    have hS3 : Below (w.heap.size + 1 + 1) wC _ := hS.trans (k3.toBelow _ (by omega) (by intro k hk; omega))
    have s3 := k3.size
    clear srun k3 hS hi
    generalize wD.setCells (w.heap.size + 1 + 1) 0 [St (nameR b), .int .i64 (nn : Int), .slice none 0 0] = wE at *
    have hS := hS3
    clear hS3
    refine ⟨hS, ?_⟩
    try simp only [Act.put, List.setIfInBounds_toArray, List.set_cons_zero, List.set_cons_succ]
    refine wpAnyH_done (by kernel_rfl) ?_ _
    try simp only [Act.put, List.setIfInBounds_toArray, List.set_cons_zero, List.set_cons_succ]
    have e0 := (hS.block w.heap.size (by omega)).trans c0
    have e1 := (hS.block (w.heap.size + 1) (by omega)).trans c1
    have bE := bC.trans (hS.mono (by omega))
    have sE : w.heap.size + 3 ≤ wE.heap.size := by omega
    have HR0 : Hid (ReadRel w b wE (.int .i64 18)) := ⟨0, none, 0, rfl, by omega, (fun e he => by cases he), e0, e1, by rw [HS1.out]; exact g3, OwnX.nil _ _, sE, bE⟩
    clear e0 e1 bE sE g3 hS c0 c1 bC
    go_wp2_with fail
    go_loopw [5, 6] (fun i _ wr => ReadRel w b wr i) (fun i _ _ => (64 - intOf i).toNat)
    case atStart => exact HR0.out
    case round =>
      obtain ⟨k, R, c, rfl, hk, hall, e0, e1, e2, ow, hsz, hb⟩ := hrel
      by_cases hlt : k < 23
      · have p0 := (Row8.of_block e0).cell_ (k := 18 + 2 * k) (by rw [HLN.out]; omega)
        have p1 := (Row8.of_block e0).cell_ (k := 19 + 2 * k) (by rw [HLN.out]; omega)
        have hpa := pair_at b hlt
        have hpt := pairs_take b hlt
        have l0 := (b.getD (18 + 2 * k) 0).toNat_lt
        have l1 := (b.getD (19 + 2 * k) 0).toNat_lt
        obtain ⟨K, hK⟩ : ∃ K : Nat, K = 18 + 2 * k := ⟨_, rfl⟩
        rw [show 19 + 2 * k = K + 1 by omega] at p1 hpa l1
        rw [show 18 + 2 * k = K by omega] at p0 hpa l0
        rw [show (18 : Int) + 2 * (k : Int) = (K : Int) by omega]
        have q0 : ∀ W, Below wr.heap.size wr W → W.cell? ⟨w.heap.size, K, none⟩ = some (.int .u8 ((b.getD K 0).toNat : Int)) := fun W hW => (hW.cell (p := ⟨_, K, none⟩) (by show w.heap.size < _; omega)).trans p0
        have q1 : ∀ W, Below wr.heap.size wr W → W.cell? ⟨w.heap.size, K + 1, none⟩ = some (.int .u8 ((b.getD (K + 1) 0).toNat : Int)) := fun W hW => (hW.cell (p := ⟨_, K + 1, none⟩) (by show w.heap.size < _; omega)).trans p1
        generalize (b.getD K 0).toNat = n0 at *
        generalize (b.getD (K + 1) 0).toNat = n1 at *
        have l0' : n0 < 256 := l0
        have l1' : n1 < 256 := l1
        have ew3 : IntKind.i64.wrap ((K : Int) + 1) = ((K + 1 : Nat) : Int) := by rw [IntKind.wrap_i64]; omega
        have ew5 : IntKind.i64.wrap ((K : Int) + 2) = ((K + 2 : Nat) : Int) := by rw [IntKind.wrap_i64]; omega
        have ew6 : IntKind.i64.wrap (n0 : Int) = (n0 : Int) := by rw [IntKind.wrap_i64]; omega
        have ew7 : IntKind.i64.wrap (n1 : Int) = (n1 : Int) := by rw [IntKind.wrap_i64]; omega
        have hone2 : (#[.int .i64 (n0 : Int), .int .i64 (n1 : Int)] : Array Value).all (·.oneCell') = true := by simp [Value.oneCell']
        have hK1 : (K : Int) < 64 := by omega
        have hK2 : ((K + 1 : Nat) : Int) < 64 := by omega
        have HK := Lib.hid hK
        have Q0 := Lib.hid q0
        have Q1 := Lib.hid q1
        have HPT := Lib.hid hpt
        have HPA := Lib.hid hpa
        have HALL := Lib.hid hall
        have E0 := Lib.hid e0
        have E1 := Lib.hid e1
        have E2 := Lib.hid e2
        have OW := Lib.hid ow
        have HB := Lib.hid hb
        clear hK q0 q1 hpt hpa hall e0 e1 e2 ow hb p0 p1 l0 l1 HR0
        go_wp2_with fail
        refine wp_region_held (S := fun W => Below wr.heap.size wr W) (by kernel_rfl) ?_
        change wpAnyH _ _ _ _ _ _ _ _ wr.drew
        have hS : Below wr.heap.size wr wr.drew := (Below.refl _ _).drew
        have hz : wr.drew.heap.size = wr.heap.size := rfl
        generalize wr.drew = w2 at *
        refine wpAnyH_take (oi := ⟨_, _, _, _, _, _⟩) (i := 0) (v := .int .i64 (K : Int)) rfl (by kernel_rfl) (by kernel_rfl) (by kernel_rfl) (fun _ _ _ h => h) (Or.inl ⟨by rfl, fun _ _ => rfl⟩) hS ?_
        try simp only [Act.put, List.setIfInBounds_toArray, List.set_cons_zero, List.set_cons_succ]
        refine wpAnyH_take (oi := ⟨_, _, _, _, _, _⟩) (i := 1) (v := .pointer (some ⟨w.heap.size, K, none⟩)) rfl (by kernel_rfl) (by kernel_rfl) (by kernel_rfl) (fun _ _ _ h => h) (Or.inl ⟨by rfl, fun _ _ => by go_simp⟩) hS ?_
        try simp only [Act.put, List.setIfInBounds_toArray, List.set_cons_zero, List.set_cons_succ]
        refine wpAnyH_take (oi := ⟨_, _, _, _, _, _⟩) (i := 2) (v := .int .u8 (n0 : Int)) rfl (by kernel_rfl) (by kernel_rfl) (by kernel_rfl) (fun _ _ _ h => h) (yif_load rfl 5 (.tmp 24) rfl _ _ rfl fun W h => load_one aggU8 (Q0.out W h)) hS ?_
        try simp only [Act.put, List.setIfInBounds_toArray, List.set_cons_zero, List.set_cons_succ]
        refine wpAnyH_take (oi := ⟨_, _, _, _, _, _⟩) (i := 3) (v := .int .i64 (n0 : Int)) rfl (by kernel_rfl) (by kernel_rfl) (by kernel_rfl) (fun _ _ _ h => h) (Or.inl ⟨by rfl, fun _ _ => by go_simp⟩) hS ?_
        try simp only [Act.put, List.setIfInBounds_toArray, List.set_cons_zero, List.set_cons_succ]
        refine wpAnyH_take (oi := ⟨_, _, _, _, _, _⟩) (i := 4) (v := .int .i64 (K : Int)) rfl (by kernel_rfl) (by kernel_rfl) (by kernel_rfl) (fun _ _ _ h => h) (Or.inl ⟨by rfl, fun _ _ => rfl⟩) hS ?_
        try simp only [Act.put, List.setIfInBounds_toArray, List.set_cons_zero, List.set_cons_succ]
        refine wpAnyH_take (oi := ⟨_, _, _, _, _, _⟩) (i := 5) (v := .int .i64 ((K + 1 : Nat) : Int)) rfl (by kernel_rfl) (by kernel_rfl) (by kernel_rfl) (fun _ _ _ h => h) (Or.inl ⟨by rfl, fun _ _ => by go_simp⟩) hS ?_
        try simp only [Act.put, List.setIfInBounds_toArray, List.set_cons_zero, List.set_cons_succ]
        refine wpAnyH_take (oi := ⟨_, _, _, _, _, _⟩) (i := 6) (v := .pointer (some ⟨w.heap.size, K + 1, none⟩)) rfl (by kernel_rfl) (by kernel_rfl) (by kernel_rfl) (fun _ _ _ h => h) (Or.inl ⟨by rfl, fun _ _ => by go_simp; try omega⟩) hS ?_
        try simp only [Act.put, List.setIfInBounds_toArray, List.set_cons_zero, List.set_cons_succ]
        refine wpAnyH_take (oi := ⟨_, _, _, _, _, _⟩) (i := 7) (v := .int .u8 (n1 : Int)) rfl (by kernel_rfl) (by kernel_rfl) (by kernel_rfl) (fun _ _ _ h => h) (yif_load rfl 5 (.tmp 29) rfl _ _ rfl fun W h => load_one aggU8 (Q1.out W h)) hS ?_
        try simp only [Act.put, List.setIfInBounds_toArray, List.set_cons_zero, List.set_cons_succ]
        refine wpAnyH_take (oi := ⟨_, _, _, _, _, _⟩) (i := 8) (v := .int .i64 (n1 : Int)) rfl (by kernel_rfl) (by kernel_rfl) (by kernel_rfl) (fun _ _ _ h => h) (Or.inl ⟨by rfl, fun _ _ => by go_simp⟩) hS ?_
        try simp only [Act.put, List.setIfInBounds_toArray, List.set_cons_zero, List.set_cons_succ]
        refine wpAnyH_take (oi := ⟨_, _, _, _, _, _⟩) (i := 9) (v := .agg #[.int .i64 (n0 : Int), .int .i64 (n1 : Int)]) rfl (by kernel_rfl) (by kernel_rfl) (by kernel_rfl) (fun _ _ _ h => h) (Or.inl ⟨by rfl, fun _ _ => by go_simp⟩) hS ?_
        try simp only [Act.put, List.setIfInBounds_toArray, List.set_cons_zero, List.set_cons_succ]
        refine wpAnyH_all (rs := [10]) (by kernel_rfl) (by simp) fun i hi => ?_
        obtain rfl : i = 10 := by simpa using hi
        refine op_run (om := ⟨_, _, _, _, _, _⟩) (u := .pointer (some ⟨w2.heap.size, 0, none⟩)) (w' := w2.alloc (.cells #[.int .i64 0, .int .i64 0] 47)) rfl rfl (by go_simp) _ _ rfl rfl ?_
        rintro u W3 ⟨rfl, rfl⟩
        have g3 : (w2.alloc (.cells #[.int .i64 0, .int .i64 0] 47)).heap[w2.heap.size]? = some (.cells #[.int .i64 0, .int .i64 0] 47 (0, 0)) := heap_alloc_new w2 _
        have hS3 : Below wr.heap.size wr (w2.alloc (.cells #[.int .i64 0, .int .i64 0] 47)) := hS.alloc (by omega) _
        rw [hz] at g3 ⊢
        clear hS hi
        generalize w2.alloc (.cells #[.int .i64 0, .int .i64 0] 47) = w3 at *
        have hS := hS3
        clear hS3
        refine ⟨hS, ?_⟩
        try simp only [Act.put, List.setIfInBounds_toArray, List.set_cons_zero, List.set_cons_succ]
        refine wpAnyH_all (rs := [11]) (by kernel_rfl) (by simp) fun i hi => ?_
        obtain rfl : i = 11 := by simpa using hi
        have srun := run_storeAt_mid (P := Try.prog) w3 wr.heap.size 0 47 #[.int .i64 (n0 : Int), .int .i64 (n1 : Int)] (there_cells (zs := [_, _]) g3 0 2 (by simp)) size_x hone2
        obtain ⟨g4, k4⟩ := setCells_cells (zs := [_, _]) (ys := [.int .i64 (n0 : Int), .int .i64 (n1 : Int)]) g3 rfl
        refine wpOp_skip (om := ⟨_, _, _, _, _, _⟩) (w' := w3.setCells wr.heap.size 0 [.int .i64 (n0 : Int), .int .i64 (n1 : Int)]) rfl rfl (ex_store 47 (.tmp 6) (.tmp 32) rfl _ _ rfl rfl srun) ?_
        have hS3 : Below wr.heap.size wr _ := hS.trans (k4.toBelow _ hS.size (by intro k hk; omega))
        clear srun k4 hS hi
        generalize w3.setCells wr.heap.size 0 [.int .i64 (n0 : Int), .int .i64 (n1 : Int)] = w4 at *
        have hS := hS3
        clear hS3
        refine ⟨hS, ?_⟩
        try simp only [Act.put, List.setIfInBounds_toArray, List.set_cons_zero, List.set_cons_succ]
        refine wpAnyH_done (by kernel_rfl) ?_ _
        try simp only [Act.put, List.setIfInBounds_toArray, List.set_cons_zero, List.set_cons_succ]
        have ow3 := OW.out.below hS
        have e03 := (hS.block w.heap.size (by omega)).trans E0.out
        have e13 := (hS.block (w.heap.size + 1) (by omega)).trans E1.out
        have e23 := (hS.block (w.heap.size + 1 + 1) (by omega)).trans E2.out
        have hb3 := HB.out.trans (hS.mono HB.out.size)
        have hz3 := hS.size
        have t0 : w4.cell? ⟨wr.heap.size, 0, none⟩ = some (.int .i64 n0) := by rw [cell_of_row _ _ _ _ _ _ g4]; rfl
        have t1 : w4.cell? ⟨wr.heap.size, 1, none⟩ = some (.int .i64 n1) := by rw [cell_of_row _ _ _ _ _ _ g4]; rfl
        clear OW E0 E1 E2 HB hS Q0 Q1
        by_cases hnz : n0 = 0 ∧ n1 = 0
        · obtain ⟨rfl, rfl⟩ := hnz
          have hext := extC_take b hlt HALL.out HPA.out
          have hl3 := range_cells (zs := [_, _, _]) e23
          have lr := run_loadAt_mid (P := Try.prog) w4 (w.heap.size + 1 + 1) 0 28 [St (nameR b), .int .i64 (sizeR b), .slice R ((pairsL b).take k).length c] _ hl3 Try.underlying28 rfl (by rw [size_i]; rfl)
          have sr := run_storeAt_mid (P := Try.prog) w4 (w.heap.size + 1) 0 28 #[St (nameR b), .int .i64 (sizeR b), .slice R ((pairsL b).take k).length c] (there_cells (zs := [_, _, _]) e13 0 3 (by simp)) size_i (by simp [Value.oneCell'])
          obtain ⟨h1, k1⟩ := setCells_cells (zs := [_, _, _]) (ys := [St (nameR b), .int .i64 (sizeR b), .slice R ((pairsL b).take k).length c]) e13 rfl
          have ow5 := ownX_keeps ow3 (by omega) k1
          have hb5 := hb3.trans (k1.toBelow w.heap.size hb3.size (by intro k hk; omega))
          generalize w4.setCells (w.heap.size + 1) 0 [St (nameR b), .int .i64 (sizeR b), .slice R ((pairsL b).take k).length c] = w5 at *
          have hnew : ∀ ad, R = some ad → (readC b).ext ≠ [] → w.heap.size ≤ ad.block := fun ad e hn => by
            change extC b ≠ [] at hn
            rw [hext] at hn
            obtain ⟨g, e2, hg, _⟩ := ow5.at_ (k := 0) (List.length_pos_iff.2 hn)
            rw [e] at e2
            cases e2
            show w.heap.size ≤ g
            omega
          have hout : ReadOut w (readC b) (.returned (.agg #[St (nameR b), .int .i64 (sizeR b), .slice R ((pairsL b).take k).length c])) w5 :=
            ⟨R, c, by show _ = Ending.returned (.agg #[St (nameR b), .int .i64 (sizeR b), .slice R (extC b).length c]); rw [hext], by show XR w5 w5.heap.size R (extC b); rw [hext]; exact ow5.xr (pairs_bd b _), hb5, hnew⟩
          have LR := Lib.hid lr
          have SR := Lib.hid sr
          have H1 := Lib.hid h1
          have HOUT := Lib.hid hout
          clear hl3 lr sr h1 k1 ow5 hb5 hout ow3 e13 e23 hb3 hext
          go_wp2_with (first
            | ((with_reducible refine at_ (op := .load 28 (.tmp 4)) ?_); refine wpList_val rfl _ (ex_load 28 (.tmp 4) rfl _ _ rfl LR.out) ?_)
            | ((with_reducible refine at_ (op := .store 28 (.tmp 2) (.tmp 42)) ?_); refine wpList_unit rfl (ex_store 28 (.tmp 2) (.tmp 42) rfl _ _ rfl rfl SR.out) ?_)
            | fail)
          refine bodyPost_ret (v := .agg #[St (nameR b), .int .i64 (sizeR b), .slice R ((pairsL b).take k).length c]) ?_ rfl HOUT.out
          exact results_cell_row rfl _ _ (w.heap.size + 1) 28 _ (0, 0) _ rfl H1.out Try.underlying28 rfl (by rw [size_i]; rfl)
        · have hpt := HPT.out
          rw [HPA.out] at hpt
          have hall2 : ∀ e ∈ (pairsL b).take (k + 1), e ≠ (0, 0) := fun e he => by
            rw [hpt] at he
            rcases List.mem_append.1 he with he | he
            · exact HALL.out e he
            · rw [List.mem_singleton] at he
              subst he
              intro h
              injection h with h1 h2
              exact hnz ⟨by omega, by omega⟩
          have ownA := ow3.alloc (.cells #[.int .i64 (n0 : Int), .int .i64 (n1 : Int)] 47)
          have bA : Below (w.heap.size + 3) w4 (w4.alloc (.cells #[.int .i64 (n0 : Int), .int .i64 (n1 : Int)] 47)) := (Below.refl _ _).alloc (by omega) _
          obtain ⟨R', cap', w6, hap, own6, b6, s6⟩ := ownA.app (by rw [World.size_alloc]; omega) (by rw [List.length_take]; omega) [((n0 : Int), (n1 : Int))] (by simp) ⟨w4.heap.size, 0, none⟩ 1 (fun j u hu => by
            rw [Ex.add_zero, cell_of_row _ _ _ _ _ _ (heap_alloc_new w4 _)]
            simpa [xcells] using hu)
          rw [← hpt] at own6 hap
          have b46 := bA.trans b6
          have f13 := (b46.block (w.heap.size + 1) (by omega)).trans e13
          have f03 := (b46.block w.heap.size (by omega)).trans e03
          have f23 := (b46.block (w.heap.size + 1 + 1) (by omega)).trans e23
          have hb6 := hb3.trans (b46.mono (by omega))
          have x0 : w4.cell? ⟨w.heap.size + 1 + 1, 2, none⟩ = some (.slice R ((pairsL b).take k).length c) := by rw [cell_of_row _ _ _ _ _ _ e23]; rfl
          have x2 : w6.cell? ⟨w.heap.size + 1 + 1, 2, none⟩ = some (.slice R ((pairsL b).take k).length c) := by rw [cell_of_row _ _ _ _ _ _ f23]; rfl
          have xf := frozen_of_row w6 (w.heap.size + 1 + 1) 2 _ _ f23
          have HAP := Lib.hid hap
          have HPT2 := Lib.hid hpt
          have hlk : ((pairsL b).take (k + 1)).length = k + 1 := by rw [hpt, List.length_append, List.length_take]; simp [pairsL]; omega
          have g7 : (w6.setCell ⟨w.heap.size + 1 + 1, 2, none⟩ (.slice R' ((pairsL b).take (k + 1)).length cap')).heap[w.heap.size + 1 + 1]? = some (.cells #[St (nameR b), .int .i64 (sizeR b), .slice R' ((pairsL b).take (k + 1)).length cap'] 28 (0, 0)) := by
            rw [heap_setCell_same w6 _ 2 _ _ _ f23]
            simp
          have own7 := ownX_keeps own6 (q := w.heap.size + 1 + 1) (by omega) (Keeps.setCell (· = w.heap.size + 1 + 1) w6 ⟨w.heap.size + 1 + 1, 2, none⟩ (.slice R' ((pairsL b).take (k + 1)).length cap') rfl)
          have hb7 := hb6.setCell (p := ⟨w.heap.size + 1 + 1, 2, none⟩) (by show _ ≤ w.heap.size + 1 + 1; omega) (.slice R' ((pairsL b).take (k + 1)).length cap')
          have f07 := (Below.heap_setCell w6 ⟨w.heap.size + 1 + 1, 2, none⟩ (.slice R' ((pairsL b).take (k + 1)).length cap') w.heap.size (by simp; omega)).trans f03
          have f17 := (Below.heap_setCell w6 ⟨w.heap.size + 1 + 1, 2, none⟩ (.slice R' ((pairsL b).take (k + 1)).length cap') (w.heap.size + 1) (by simp)).trans f13
          have s7 : w.heap.size + 3 ≤ (w6.setCell ⟨w.heap.size + 1 + 1, 2, none⟩ (.slice R' ((pairsL b).take (k + 1)).length cap')).heap.size := by rw [World.size_setCell]; have := b46.size; omega
          have HR : Hid (ReadRel w b (w6.setCell ⟨w.heap.size + 1 + 1, 2, none⟩ (.slice R' ((pairsL b).take (k + 1)).length cap')) (.int .i64 ((K + 2 : Nat) : Int))) := ⟨k + 1, R', cap', by rw [HK.out]; congr 1, by omega, hall2, f07, f17, g7, own7, s7, hb7⟩
          have hmes : (64 - ((K + 2 : Nat) : Int)).toNat < (64 - (K : Int)).toNat := by omega
          have HMES := Lib.hid hmes
          clear hpt hall2 ownA bA own6 b6 s6 b46 f13 f03 f23 hb6 hap g7 own7 hb7 f07 f17 s7 hlk e03 e13 e23 hb3 ow3 hmes
          generalize ((pairsL b).take (k + 1)).length = L1 at *
          generalize ((pairsL b).take k).length = L0 at *
          by_cases hn0 : n0 = 0
          · have hn1 : ¬ n1 = 0 := fun h => hnz ⟨hn0, h⟩
            subst hn0
            clear hnz
            have hb0 : ((n1 : Int) == 0) = false := by simp [hn1]
            have hb1 : ¬ (n1 : Int) = 0 := by omega
            go_wp2_with (first | (at_builtin; refine wpList_append_run rfl _ _ 26 rfl _ HAP.out ?_) | fail)
            go_roundw
            case rel => exact HR.out
            case measure => exact HMES.out
          · clear hnz
            have hb0 : ((n0 : Int) == 0) = false := by simp [hn0]
            have hb1 : ¬ (n0 : Int) = 0 := by omega
            go_wp2_with (first | (at_builtin; refine wpList_append_run rfl _ _ 26 rfl _ HAP.out ?_) | fail)
            go_roundw
            case rel => exact HR.out
            case measure => exact HMES.out
      · obtain rfl : k = 23 := by omega
        have hext := extC_all b hall
        have ow3 := ow
        have e13 := e1
        have e23 := e2
        have hb3 := hb
        clear HR0
        obtain ⟨w4, hw4⟩ : ∃ w4, w4 = wr := ⟨_, rfl⟩
        rw [← hw4] at ow3 e13 e23 hb3 ⊢
        clear hw4 e0 e1 e2 ow hb
        have hl3 := range_cells (zs := [_, _, _]) e23
        have lr := run_loadAt_mid (P := Try.prog) w4 (w.heap.size + 1 + 1) 0 28 [St (nameR b), .int .i64 (sizeR b), .slice R ((pairsL b).take 23).length c] _ hl3 Try.underlying28 rfl (by rw [size_i]; rfl)
        have sr := run_storeAt_mid (P := Try.prog) w4 (w.heap.size + 1) 0 28 #[St (nameR b), .int .i64 (sizeR b), .slice R ((pairsL b).take 23).length c] (there_cells (zs := [_, _, _]) e13 0 3 (by simp)) size_i (by simp [Value.oneCell'])
        obtain ⟨h1, k1⟩ := setCells_cells (zs := [_, _, _]) (ys := [St (nameR b), .int .i64 (sizeR b), .slice R ((pairsL b).take 23).length c]) e13 rfl
        have ow5 := ownX_keeps ow3 (by omega) k1
        have hb5 := hb3.trans (k1.toBelow w.heap.size hb3.size (by intro k hk; omega))
        generalize w4.setCells (w.heap.size + 1) 0 [St (nameR b), .int .i64 (sizeR b), .slice R ((pairsL b).take 23).length c] = w5 at *
        have hnew : ∀ ad, R = some ad → (readC b).ext ≠ [] → w.heap.size ≤ ad.block := fun ad e hn => by
          change extC b ≠ [] at hn
          rw [hext] at hn
          obtain ⟨g, e2, hg, _⟩ := ow5.at_ (k := 0) (List.length_pos_iff.2 hn)
          rw [e] at e2
          cases e2
          show w.heap.size ≤ g
          omega
        have hout : ReadOut w (readC b) (.returned (.agg #[St (nameR b), .int .i64 (sizeR b), .slice R ((pairsL b).take 23).length c])) w5 :=
          ⟨R, c, by show _ = Ending.returned (.agg #[St (nameR b), .int .i64 (sizeR b), .slice R (extC b).length c]); rw [hext], by show XR w5 w5.heap.size R (extC b); rw [hext]; exact ow5.xr (pairs_bd b _), hb5, hnew⟩
        have LR := Lib.hid lr
        have SR := Lib.hid sr
        have H1 := Lib.hid h1
        have HOUT := Lib.hid hout
        clear hl3 lr sr h1 k1 ow5 hb5 hout ow3 e13 e23 hb3 hext
        go_wp2_with (first
          | ((with_reducible refine at_ (op := .load 28 (.tmp 4)) ?_); refine wpList_val rfl _ (ex_load 28 (.tmp 4) rfl _ _ rfl LR.out) ?_)
          | ((with_reducible refine at_ (op := .store 28 (.tmp 2) (.tmp 42)) ?_); refine wpList_unit rfl (ex_store 28 (.tmp 2) (.tmp 42) rfl _ _ rfl rfl SR.out) ?_)
          | fail)
        refine bodyPost_ret (v := .agg #[St (nameR b), .int .i64 (sizeR b), .slice R ((pairsL b).take 23).length c]) ?_ rfl HOUT.out
        exact results_cell_row rfl _ _ (w.heap.size + 1) 28 _ (0, 0) _ rfl H1.out Try.underlying28 rfl (by rw [size_i]; rfl)
end Go.Proofs.Ytcldbgmbkcpdgaa.Ino
