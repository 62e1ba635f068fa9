/-
  Merged by wip/tools/merge.py: ShSmall ShNode ShLeaves
-/
import Derived.Test.YtebecpjecchfoaaGreatDoorMapF
import Derived.Test.YtebecpjecchfoaaGreatDoorGNd
import Derived.Test.YtebecpjecchfoaaGreatDoorGDk
namespace Go.Proofs.YtebecpjecchfoaaGreatDoor
open Go.RowKit

/-- What demand throws. -/
def thrownE (E : Int) : Ending := .panicked [{ v := .iface 26 (.int .i64 E), recovered := false }]

set_option maxRecDepth 100000 in
set_option maxHeartbeats 400000 in
theorem demand_ok (w : World) : Calls Tryz.prog 182 #[.int .i64 0] w fun e w' => e = .returned (.tuple #[]) ∧ w = w' := by
  go_enter Tryz.func182, Tryz.ntmps182
  go_wp2
  go_end0
  exact ⟨rfl, rfl⟩
set_option maxRecDepth 100000 in
set_option maxHeartbeats 400000 in
theorem demand_bad (E : Int) (hE : E ≠ 0) (w : World) : Calls Tryz.prog 182 #[.int .i64 E] w fun e w' => e = thrownE E ∧ w = w' := by
  have h1 : (E != 0) = true := by simpa using hE
  go_enter Tryz.func182, Tryz.ntmps182
  go_wp2
  exact ⟨rfl, rfl, rfl⟩

set_option maxRecDepth 100000 in
set_option maxHeartbeats 400000 in
theorem spath_any (n : Nat) (hn : n < 128) (w : World) : Calls Tryz.prog 224 #[.int .i64 (n : Int)] w fun e w' => e = .returned (.tuple #[.int .i64 ((n / 32 : Nat) : Int), .int .i64 ((n % 32 : Nat) : Int)]) ∧ w = w' := by
  have hp : 0 ≤ (n : Int) ∧ (n : Int) < 128 := by omega
  have e1 := Lib.hid (show pathA n = ((n / 32 : Nat) : Int) from (if_pos hp).trans (by omega))
  have e2 := Lib.hid (show pathB n = ((n % 32 : Nat) : Int) from (if_pos hp).trans (by omega))
  have e3 := Lib.hid (show pathE n = 0 from if_pos hp)
  go_enter Tryz.func224, Tryz.ntmps224
  go_wp2_with fail
  refine (path_any _ _).mono ?_
  rintro e w' ⟨rfl, rfl⟩
  rw [e1.out, e2.out, e3.out]
  go_wp2_with fail
  refine (demand_ok _).mono ?_
  rintro e w' ⟨rfl, rfl⟩
  go_wp2_with fail
  go_ret2
  exact ⟨rfl, rfl⟩

set_option maxRecDepth 100000 in
set_option maxHeartbeats 400000 in
theorem swith_any (zs : List Int) (k : Nat) (s : Int) (w : World) (hl : zs.length = 32) (hk : k < 32) :
    Calls Tryz.prog 225 #[ng zs, .int .i64 (k : Int), .int .i64 s] w (GivesN1 w (zs.set k s)) := by
  have b0 := NB.box w zs
  have A1 := Lib.hid (allocN (w.alloc (.cells (zs.map I6).toArray 183)))
  have b0' := b0.below (Below.alloc (Below.refl _ _) (Nat.le_refl _) (.cells (z32.map I6).toArray 183)) (by simp)
  have b1 : NB ((w.alloc (.cells (zs.map I6).toArray 183)).alloc (.cells (z32.map I6).toArray 183)) (w.heap.size + 1) z32 := by
    have := NB.box (w.alloc (.cells (zs.map I6).toArray 183)) z32
    rwa [World.size_alloc] at this
  have k0 : Below w.heap.size w ((w.alloc (.cells (zs.map I6).toArray 183)).alloc (.cells (z32.map I6).toArray 183)) := ((Below.refl _ _).alloc (Nat.le_refl _) _).alloc (by simp) _
  have L1 := Lib.hid (b0'.load hl)
  have hl2 : (zs.set k s).length = 32 := by simpa using hl
  have hsz : ((w.alloc (.cells (zs.map I6).toArray 183)).alloc (.cells (z32.map I6).toArray 183)).heap.size = w.heap.size + 2 := by simp
  clear b0
  go_enter Tryz.func225, Tryz.ntmps225
  go_wp2_with (first
    | ((with_reducible refine at_ (op := .box 183 (.tmp 0)) ?_); refine wpList_val rfl _ (ex_box 183 (.tmp 0) rfl _ _ rfl (boxN _ _)) ?_)
    | ((with_reducible refine at_ (op := .alloc 183) ?_); refine wpList_val rfl _ (ex_alloc 183 rfl _ A1.out) ?_)
    | ((with_reducible refine here (op := .load 183 (.tmp 3)) ?_); refine wpList_load_run rfl 183 _ rfl _ _ rfl L1.out ?_))
  clear A1 L1
  generalize ((w.alloc (.cells (zs.map I6).toArray 183)).alloc (.cells (z32.map I6).toArray 183)) = w1 at *
  refine (with_in zs k s w1 hl hk).mono ?_
  rintro e w2 ⟨rfl, hb2⟩
  obtain ⟨S2, g2, k2⟩ := (b0'.below hb2 (by omega)).store hl hl2
  have g1 := b1.below hb2 (by omega)
  have q0 : Below w.heap.size w w2 := k0.trans (hb2.mono (by omega))
  generalize zs.set k s = ys at *
  have S2' := Lib.hid S2
  clear S2
  go_wp2_with (first
    | ((with_reducible refine here (op := .store 183 (.tmp 3) (.tmp 13)) ?_); refine wpList_store_run rfl 183 _ _ rfl _ _ rfl rfl S2'.out ?_))
  clear S2'
  have hs2 := hb2.size
  have g3 := g1.keep k2 (show ¬ (w.heap.size + 1 = w.heap.size) by omega)
  have q3 : Below w.heap.size w (w2.setCells w.heap.size 0 (ys.map I6)) := k2.old q0 (Nat.le_refl _)
  generalize w2.setCells w.heap.size 0 (ys.map I6) = w3 at *
  refine (demand_ok _).mono ?_
  rintro e w' ⟨rfl, rfl⟩
  have L3 := Lib.hid (g2.load hl2)
  obtain ⟨S3, g4, k4⟩ := g3.store z32_len hl2
  have S4 := Lib.hid S3
  clear S3
  go_wp2_with (first
    | ((with_reducible refine here (op := .load 183 (.tmp 3)) ?_); refine wpList_load_run rfl 183 _ rfl _ _ rfl L3.out ?_)
    | ((with_reducible refine here (op := .store 183 (.tmp 6) (.tmp 17)) ?_); refine wpList_store_run rfl 183 _ _ rfl _ _ rfl rfl S4.out ?_))
  refine bodyPost_ret (v := ng ys) ?_ rfl ⟨rfl, k4.old q3 (by omega)⟩
  exact results_cell_row rfl _ _ (w.heap.size + 1) 183 _ (0, 0) _ rfl g4 Tryz.underlying183 rfl (by rw [Tryz.sizeN]; simp [hl2])

theorem boxPg (w : World) (xs : List UInt8) : (Instr.box 270 (ag xs)).run Tryz.prog w = .ok (.pointer (some ⟨w.heap.size, 0, none⟩)) (w.alloc (.cells (xs.map B8).toArray 270)) := rfl
set_option maxRecDepth 100000 in
set_option maxHeartbeats 400000 in
theorem pageBytes_any (xs : List UInt8) (hl : xs.length = 64) (w : World) : Calls Tryz.prog 223 #[ag xs] w (GivesN w xs) := by
  have hb := BR.new w xs (xs.map B8).toArray 270 (0, 0) rfl
  have hl' := Lib.hid hl
  go_enter Tryz.func223, Tryz.ntmps223
  go_wp2_with (first
    | ((with_reducible refine at_ (op := .box 270 (.tmp 0)) ?_); refine wpList_val rfl _ (ex_box 270 (.tmp 0) rfl _ _ rfl (boxPg _ _)) ?_))
  go_ret
  exact ⟨w.heap.size, 64, by rw [hl'.out]; rfl, Nat.le_refl _, by simp, by simpa using hb, (Below.refl _ _).alloc (Nat.le_refl _) _, by rw [hl'.out]; exact Nat.le_refl _⟩

set_option maxRecDepth 100000 in
set_option maxHeartbeats 400000 in
theorem nodeBytes_any (zs : List Int) (hl : zs.length = 32) (hk : okN zs = true) (w : World) : Calls Tryz.prog 227 #[ng zs] w fun e w' => ∃ R c, e = .returned (.slice R 64 c) ∧ BR w' w'.heap.size R (encB zs 32) ∧ Below w.heap.size w w' ∧ ∀ ad, R = some ad → w.heap.size ≤ ad.block := by
  have L1 := Lib.hid ((NB.box w zs).load hl)
  have k0 : Below w.heap.size w (w.alloc (.cells (zs.map I6).toArray 183)) := (Below.refl _ _).alloc (Nat.le_refl _) _
  have e1 := Lib.hid (show encO zs = encB zs 32 from if_pos hk)
  have e2 := Lib.hid (show encN zs = 0 from if_pos hk)
  have e3 := Lib.hid (encB_len zs 32)
  go_enter Tryz.func227, Tryz.ntmps227
  go_wp2_with (first
    | ((with_reducible refine at_ (op := .box 183 (.tmp 0)) ?_); refine wpList_val rfl _ (ex_box 183 (.tmp 0) rfl _ _ rfl (boxN _ _)) ?_)
    | ((with_reducible refine here (op := .load 183 (.tmp 1)) ?_); refine wpList_load_run rfl 183 _ rfl _ _ rfl L1.out ?_))
  clear L1
  have hsz : (w.alloc (.cells (zs.map I6).toArray 183)).heap.size = w.heap.size + 1 := by simp
  generalize w.alloc (.cells (zs.map I6).toArray 183) = w1 at *
  refine (encodeN_any zs w1 hl).mono ?_
  rintro e w2 ⟨R, n, c, rfl, hn, hr, hb, hR⟩
  rw [e1.out] at hn hr
  rw [e2.out]
  rw [e3.out] at hn
  subst hn
  go_wp2_with fail
  refine (demand_ok _).mono ?_
  rintro e w' ⟨rfl, rfl⟩
  go_wp2_with fail
  go_ret
  exact ⟨R, c, rfl, hr, k0.trans (hb.mono (by omega)), fun ad e => by have := hR ad e; omega⟩

end Go.Proofs.YtebecpjecchfoaaGreatDoor
namespace Go.Proofs.YtebecpjecchfoaaGreatDoor
open Go.RowKit

/-- The node on a sector, 0 standing for one without entries. -/
def nodeD (D : DSt) (k : Nat) : List Int := if k = 0 then z32 else decN (D.now k)
theorem nodeD_len (D : DSt) (k : Nat) : (nodeD D k).length = 32 := by
  unfold nodeD
  split
  · exact z32_len
  · exact decN_len _
theorem decO_64 {xs : List UInt8} (h : xs.length = 64) : decO xs = decN xs := if_pos h
theorem decE_64 {xs : List UInt8} (h : xs.length = 64) : decE xs = 0 := if_pos h

theorem NB.lay {w1 : World} {b : Nat} {zs ys : List Int} (g : NB w1 b zs) (hl : zs.length = 32) (hl' : ys.length = 32) {w : World} (q : Below w.heap.size w w1) (hB : w.heap.size ≤ b) :
    ∃ w2, (Instr.storeAt 183 (.pointer (some ⟨b, 0, none⟩)) (ng ys)).run Tryz.prog w1 = .ok () w2 ∧ NB w2 b ys ∧ Below w.heap.size w w2 ∧ Keeps (· = b) w1 w2 ∧ w2.heap.size = w1.heap.size := by
  obtain ⟨S, g', k⟩ := g.store hl hl'
  refine ⟨_, S, g', k.old q hB, k, ?_⟩
  have : ∀ (vs : List Value) (o : Nat) (v : World), (v.setCells b o vs).heap.size = v.heap.size := by
    intro vs
    induction vs with
    | nil => intro o v; rfl
    | cons x r ih => intro o v; rw [World.setCells, ih]; simp [World.setCell]
  exact this _ _ _

set_option maxRecDepth 100000 in
set_option maxHeartbeats 800000 in
theorem snode_at {w : World} {p lb mb n : Nat} {iv : Value} {D : DSt} (h : DkAt w p lb mb n iv D) (k : Nat) (hk : k = 0 ∨ k < n) (hd : D.down = false) :
    Calls Tryz.prog 220 #[.pointer (some ⟨p, 0, none⟩), .int .i64 (k : Int)] w (GivesN1 w (nodeD D k)) := by
  have b0 := NB.box w z32
  have k0 : Below w.heap.size w (w.alloc (.cells (z32.map I6).toArray 183)) := (Below.refl _ _).alloc (Nat.le_refl _) _
  have hs0 : (w.alloc (.cells (z32.map I6).toArray 183)).heap.size = w.heap.size + 1 := by simp
  have h1 : DkAt (w.alloc (.cells (z32.map I6).toArray 183)) p lb mb n iv D := h.same (Keeps.alloc _ _ _)
  have A1 := Lib.hid (allocN w)
  by_cases hz : k = 0
  · subst hz
    have e : nodeD D 0 = z32 := if_pos rfl
    rw [e]
    obtain ⟨w2, S, g2, q2, _, _⟩ := b0.lay z32_len z32_len k0 (Nat.le_refl _)
    have S' := Lib.hid S
    clear S h h1 e
    go_enter Tryz.func220, Tryz.ntmps220
    go_wp2_with (first
      | ((with_reducible refine at_ (op := .alloc 183) ?_); refine wpList_val rfl _ (ex_alloc 183 rfl _ A1.out) ?_)
      | ((with_reducible refine at_ (op := .build 183 #[]) ?_); refine wpList_val rfl _ (ex_build0 183 rfl _ (buildN _)) ?_)
      | ((with_reducible refine here (op := .store 183 (.tmp 4) (.tmp 10)) ?_); refine wpList_store_run rfl 183 _ _ rfl _ _ rfl rfl S'.out ?_))
    refine bodyPost_ret (v := ng z32) ?_ rfl ⟨rfl, q2⟩
    exact results_cell_row rfl _ _ w.heap.size 183 _ (0, 0) _ rfl g2 Tryz.underlying183 rfl (by rw [Tryz.sizeN]; simp [z32])
  · replace hk : k < n := hk.resolve_left hz
    have e : nodeD D k = decN (D.now k) := if_neg hz
    rw [e]
    have hnn := h.ok.n_eq
    have hlen := now_len h.ok hk
    have er : D.readAt (k : Int) = D.now k := by
      unfold DSt.readAt
      rw [if_neg (by simp [hd]), if_pos ⟨by omega, by omega⟩, Int.toNat_natCast]
    have ee : D.readErr (k : Int) = 0 := by
      unfold DSt.readErr
      rw [if_neg (by simp [hd]), if_pos ⟨by omega, by omega⟩]
    have hr := read_at h1 (k : Int)
    rw [er, ee] at hr
    have hz1 : ((k : Int) == 0) = false := by simp; omega
    have hdl := decN_len (D.now k)
    have hd1 := decO_64 hlen
    have hd2 := decE_64 hlen
    generalize D.now k = xs at *
    generalize hys : decN xs = ys at *
    have HL := Lib.hid hlen
    have HD1 := Lib.hid hd1
    have HD2 := Lib.hid hd2
    clear h h1 e er ee hlen hd1 hd2 hys hz
    go_enter Tryz.func220, Tryz.ntmps220
    go_wp2_with (first
      | ((with_reducible refine at_ (op := .alloc 183) ?_); refine wpList_val rfl _ (ex_alloc 183 rfl _ A1.out) ?_))
    clear A1
    generalize w.alloc (.cells (z32.map I6).toArray 183) = w1 at *
    refine hr.mono ?_
    rintro e w2 ⟨R, c, rfl, hbr, _, hk2⟩
    rw [HL.out]
    have q2 : Below w.heap.size w w2 := k0.trans (hk2.toBelow _ (by omega) (fun _ hf => hf.elim))
    have g2 := b0.keep hk2 (fun h => h)
    have s2 := hk2.size
    clear hr k0 b0 hk2
    go_wp2_with fail
    refine (demand_ok _).mono ?_
    rintro e w' ⟨rfl, rfl⟩
    go_wp2_with fail
    refine (decode_any R xs c 64 w2 hbr HL.out).mono ?_
    rintro e w3 ⟨rfl, hb3⟩
    rw [HD1.out, HD2.out]
    have q3 := q2.trans (hb3.mono q2.size)
    have g3 := g2.below hb3 (by omega)
    have s3 := hb3.size
    clear q2 g2 hbr hb3
    obtain ⟨w4, S4, g4, q4, hs4⟩ := NB.laid w3 ys hdl
    have A3 := Lib.hid (allocN w3)
    have S4' := Lib.hid S4
    have s4 := q4.size
    have g3' := g3.below q4 (by omega)
    have q4' := q3.trans (q4.mono q3.size)
    clear S4 q4 q3 g3
    go_wp2_with (first
      | ((with_reducible refine at_ (op := .alloc 183) ?_); refine wpList_val rfl _ (ex_alloc 183 rfl _ A3.out) ?_)
      | ((with_reducible refine here (op := .store 183 (.tmp 7) (.tmp 22)) ?_); refine wpList_store_run rfl 183 _ _ rfl _ _ rfl rfl S4'.out ?_))
    clear A3 S4'
    refine (demand_ok _).mono ?_
    rintro e w' ⟨rfl, rfl⟩
    have L4 := Lib.hid (g4.load hdl)
    obtain ⟨w5, S5, g5, q5, _, _⟩ := g3'.lay z32_len hdl q4' (Nat.le_refl _)
    have S5' := Lib.hid S5
    clear S5
    go_wp2_with (first
      | ((with_reducible refine here (op := .load 183 (.tmp 7)) ?_); refine wpList_load_run rfl 183 _ rfl _ _ rfl L4.out ?_)
      | ((with_reducible refine here (op := .store 183 (.tmp 4) (.tmp 26)) ?_); refine wpList_store_run rfl 183 _ _ rfl _ _ rfl rfl S5'.out ?_))
    refine bodyPost_ret (v := ng ys) ?_ rfl ⟨rfl, q5⟩
    exact results_cell_row rfl _ _ w.heap.size 183 _ (0, 0) _ rfl g5 Tryz.underlying183 rfl (by rw [Tryz.sizeN]; simp [hdl])
end Go.Proofs.YtebecpjecchfoaaGreatDoor
namespace Go.Proofs.YtebecpjecchfoaaGreatDoor
open Go.RowKit Go.Maps

/-- A number in a node that stands for a sector of n. -/
def EntOk (n : Nat) (root : List Int) : Prop := ∀ i, i < 32 → ∃ m : Nat, root.getD i 0 = (m : Int) ∧ (m = 0 ∨ m < n)
def leafV (D : DSt) (root : List Int) (i : Nat) : List Int := nodeD D (root.getD i 0).toNat
/-- The leaves of the pages ss. -/
def leafG (D : DSt) (root : List Int) (ss : List Nat) : Nat → Option (List Int) := fun i => if ss.any (fun a => a / 32 == i) = true then some (leafV D root i) else none
theorem leafG_snoc (D : DSt) (root : List Int) (ss : List Nat) (a : Nat) : leafG D root (ss ++ [a]) = updF (leafG D root ss) (a / 32) (leafV D root (a / 32)) := by
  funext i
  unfold leafG updF
  by_cases h : i = a / 32
  · subst h; simp
  · simp [h, Ne.symm h]
theorem leafG_perm (D : DSt) (root : List Int) {ss tt : List Nat} (h : ss.Perm tt) : leafG D root ss = leafG D root tt := by
  funext i
  unfold leafG
  rw [h.any_eq]

set_option maxRecDepth 100000 in
set_option maxHeartbeats 2000000 in
theorem leavesOf_at {w : World} {p lb mb n : Nat} {iv : Value} {D : DSt} (h : DkAt w p lb mb n iv D) (hd : D.down = false) (root : List Int) (hrl : root.length = 32) (hro : EntOk n root) {pb nn : Nat} {f : Nat → Option (List UInt8)} (hm : MapF pageC w pb nn f) :
    Calls Tryz.prog 221 #[.pointer (some ⟨p, 0, none⟩), ng root, .map (some pb)] w fun e w' => ∃ b k, e = .returned (.map (some b)) ∧ w.heap.size ≤ b ∧ MapF nodeC w' b k (leafG D root (keysF f)) ∧ k ≤ 128 ∧ Below w.heap.size w w' := by
  have hmm := @run_makeMap Tryz.prog
  have hn2 := h.ok.n_le
  have hplt := hm.lt
  have n0 := NB.box w root
  have k0 : Below w.heap.size w (w.alloc (.cells (root.map I6).toArray 183)) := (Below.refl _ _).alloc (Nat.le_refl _) _
  have hs0 : (w.alloc (.cells (root.map I6).toArray 183)).heap.size = w.heap.size + 1 := by simp
  have m1 := MapF.made nodeC (w.alloc (.cells (root.map I6).toArray 183))
  have k1 : Below w.heap.size w ((w.alloc (.cells (root.map I6).toArray 183)).alloc (.map #[] 0)) := k0.alloc k0.size _
  have n1 : NB ((w.alloc (.cells (root.map I6).toArray 183)).alloc (.map #[] 0)) w.heap.size root := n0.below ((Below.refl _ _).alloc (Nat.le_refl _) _) (by omega)
  have hs1 : ((w.alloc (.cells (root.map I6).toArray 183)).alloc (.map #[] 0)).heap.size = w.heap.size + 2 := by simp
  have hp1 : MapF pageC ((w.alloc (.cells (root.map I6).toArray 183)).alloc (.map #[] 0)) pb nn f := hm.below k1 hplt
  rw [hs0] at m1
  clear n0 k0
  go_enter Tryz.func221, Tryz.ntmps221
  go_wp2_with (first
    | ((with_reducible refine at_ (op := .box 183 (.tmp 1)) ?_); refine wpList_val rfl _ (ex_box 183 (.tmp 1) rfl _ _ rfl (boxN _ _)) ?_)
    | ((with_reducible refine here (op := .range 252 (.tmp 12)) ?_); refine wpList_range_map rfl (.tmp 12) 252 270 rfl Tryz.underlying252 rfl hp1 ?_; intro w3 hr3 k3 hs3))
  have m3 := m1.keeps k3 (fun h => h)
  have n3 := n1.keep k3 (fun h => h)
  have b3 : Below w.heap.size w w3 := k1.trans (k3.toBelow _ (by omega) (fun _ h => h.elim))
  rw [hs1] at hr3 hs3 ⊢
  clear hmm m1 n1 k1 hp1 k3 hs1 hs0
  go_frame
  go_loopw [8] (fun _ wr => ∃ (ss : List Nat) (cnt : Nat), MapR pageC wr pb (w.heap.size + 2) nn f ss cnt ∧ MapF nodeC wr (w.heap.size + 1) ss.length (leafG D root ss) ∧ NB wr w.heap.size root ∧ Below w.heap.size w wr ∧ w.heap.size + 3 ≤ wr.heap.size) (fun _ wr => wr.rangeLeft pb (w.heap.size + 2))
  case atStart => exact ⟨[], _, hr3, m3, n3, b3, by omega⟩
  case round =>
    obtain ⟨ss, cnt, hr, hl, hn, hb, hsz⟩ := hrel
    go_wp2_with ((with_reducible refine here (op := .next (.tmp 13) false) ?_); refine wpList_next_map rfl (.tmp 13) rfl rfl hr ?_ ?_)
    · intro hperm
      go_wp2_with fail
      go_ret
      refine ⟨_, ss.length, rfl, by omega, ?_, ?_, hb⟩
      · rw [leafG_perm D root hperm.symm]; exact hl
      · rw [hperm.length_eq]; exact keysF_len f
    · intro i x w4 cnt' hi hx hnew hr' hlt hk hs4 hen
      have hpl := hr'.lt
      have hl4 := hl.keeps hk (show ¬ w.heap.size + 1 = w.heap.size + 2 by omega)
      have hn4 := hn.keep hk (show ¬ w.heap.size = w.heap.size + 2 by omega)
      have hb4 : Below w.heap.size w w4 := hb.trans (hk.toBelow _ hb.size (fun _ h => by omega))
      have hd4 : DkAt w4 p lb mb n iv D := h.same (Keeps.below hb4 _ (fun k hk1 hk2 => by omega))
      obtain ⟨m, hm1, hm2⟩ := hro (i / 32) (by omega)
      have hc4 := hn4.cell (k := i / 32) (by omega)
      rw [hm1] at hc4
      have hS := leafG_snoc D root ss i
      have hv : leafV D root (i / 32) = nodeD D m := by unfold leafV; rw [hm1, Int.toNat_natCast]
      rw [hv] at hS
      have HS := Lib.hid hS
      have HB := Lib.hid hr.left_eq
      have hss := hr.len_le
      have hsp := spath_any i hi w4
      have hq : i / 32 < 4 := by omega
      have hli : (ss ++ [i]).length = ss.length + 1 := by simp
      generalize pageC.enc x = pv at *
      have hN4 := Lib.hid hn4
      clear hn hl hr hS hv hx hm1 hb hn4
      generalize i / 32 = q at *
      generalize i % 32 = r at *
      go_wp2_with fail
      refine hsp.mono ?_
      rintro e w' ⟨rfl, rfl⟩
      clear hsp
      go_wp2_with fail
      refine (snode_at hd4 m hm2 hd).mono ?_
      rintro e w5 ⟨rfl, hb5⟩
      have s4 := hb4.size
      have s5 := hb5.size
      obtain ⟨w6, hup, hl6, hg6, hs6⟩ := (hl4.below hb5 (by omega)).put Tryz.underlying271 q (by omega) (nodeD D m) (by unfold maxLen; omega)
      have hr6 : MapR pageC w6 pb (w.heap.size + 2) nn f (ss ++ [i]) cnt' := hr'.kept ((hg6.block _ (by omega) (fun e => by simp only [Option.some.injEq] at e; omega)).trans (hb5.block _ hpl.1)) ((hg6.block _ (by omega) (fun e => by simp only [Option.some.injEq] at e; omega)).trans (hb5.block _ hpl.2))
      have hn6 : NB w6 w.heap.size root := (((hg6.block _ (by omega) (fun e => by simp only [Option.some.injEq] at e; omega)).trans (hb5.block _ (by omega))) : w6.heap[w.heap.size]? = w4.heap[w.heap.size]?).trans hN4.out
      have hb6 : Below w.heap.size w w6 := (hb4.trans (hb5.mono s4)).grown hg6 (by omega) (fun j hj => by cases hj; omega)
      have hU : Hid _ := Lib.hid hup
      clear hup hl4 hb4 hb5 hd4 hc4 hg6
      go_wp2_with ((with_reducible refine here (op := .mapUpdate 271 (.tmp 23) (.tmp 24) (.tmp 29)) ?_); refine wpList_mapUpdate_run rfl 271 _ _ _ rfl _ _ _ rfl rfl rfl hU.out ?_)
      go_roundw
      case rel =>
        refine ⟨_, _, _, _, _, _, _, _, _, _, _, _, _, _, _, _, _, _, _, ⟨ss ++ [i], cnt', hr6, ?_, hn6, hb6, by omega⟩, rfl⟩
        rw [HS.out, hli]
        exact hl6
      case measure => rw [hr6.left_eq, HB.out]; exact hlt
end Go.Proofs.YtebecpjecchfoaaGreatDoor
