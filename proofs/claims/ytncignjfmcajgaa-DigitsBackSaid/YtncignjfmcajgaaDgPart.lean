/-
  DgPart
-/
import Derived.Test.YtncignjfmcajgaaDgSum
import Derived.Test.YtncignjfmcajgaaGA
import Derived.Maps.OwnSet
import Derived.Maps.OwnOps
import Derived.RangeFuncBox
import Derived.Shelf.Abstract
import Derived.BigQuiet
namespace Go.Proofs.Ytncignjfmcajgaa.Dgt
open Go.RowKit Go.Maps
set_option linter.unusedVariables false
set_option linter.unusedSimpArgs false

def iR : Value → Option (DataW Unit × List MemPlace)
  | .int .i64 n => some (.lit (.int .i64 n), [])
  | _ => none
theorem iR_inv {v : Value} {n : Int} {ps : List MemPlace} (h : iR v = some (.lit (.int .i64 n), ps)) : v = .int .i64 n := by
  unfold iR at h
  split at h
  · simp only [Option.some.injEq, Prod.mk.injEq, DataW.lit.injEq, Lit.int.injEq, true_and] at h
    rw [h.1]
  · cases h
def kB (n : Int) : Lit := .int .u8 n
theorem kB_ne {a b : Int} (h : a ≠ b) : kB a ≠ kB b := by
  intro e
  unfold kB at e
  injection e with _ e
  exact h e
def dI (n : Int) : DataW Unit := .lit (.int .i64 n)
def bD0 : DataW Unit := .map []
def bD1 : DataW Unit := bD0.put (kB 35) (dI 10)
def bD2 : DataW Unit := bD1.put (kB 36) (dI 16)
def bD3 : DataW Unit := bD2.put (kB 37) (dI 2)
theorem im0 : IsMap bD0 := isMap_empty
theorem im1 : IsMap bD1 := im0.put _ _
theorem im2 : IsMap bD2 := im1.put _ _
def isM (n : Int) : Bool := decide (n = 35 ∨ n = 36 ∨ n = 37)
def ofM (n : Int) : Int := if n = 35 then 10 else if n = 36 then 16 else if n = 37 then 2 else 0
theorem bD_at (n : Int) : has bD3 (kB n) = isM n ∧ bD3.atKey (kB n) (dI 0) = dI (ofM n) := by
  unfold isM ofM bD3
  by_cases h7 : n = 37
  · subst h7
    exact ⟨by rw [has_put_same im2 (by trivial)]; rfl, by rw [atKey_put_same im2 (by trivial)]; rfl⟩
  · rw [has_put_other (kB_ne h7), atKey_put_other (kB_ne h7)]
    unfold bD2
    by_cases h6 : n = 36
    · subst h6
      exact ⟨by rw [has_put_same im1 (by trivial)]; rfl, by rw [atKey_put_same im1 (by trivial)]; rfl⟩
    · rw [has_put_other (kB_ne h6), atKey_put_other (kB_ne h6)]
      unfold bD1
      by_cases h5 : n = 35
      · subst h5
        exact ⟨by rw [has_put_same im0 (by trivial)]; rfl, by rw [atKey_put_same im0 (by trivial)]; rfl⟩
      · rw [has_put_other (kB_ne h5), atKey_put_other (kB_ne h5)]
        refine ⟨?_, ?_⟩
        · simp [h5, h6, h7, bD0, has]
        · simp only [h5, h6, h7, if_false]
          rfl
theorem keyB (n : Int) (h0 : 0 ≤ n) (h1 : n < 256) : keyOf Try.prog 5 (.int .u8 n) = some (kB n) := keyOf_int_mk Try.underlying5 (by
  simp [Lit.wf, IntKind.min, IntKind.max, IntKind.signed, IntKind.bits]; omega)
theorem keyedB : Keyed Try.prog 5 := int_keyed Try.underlying5
theorem zero64 (w : World) : (zeroValue 2).run Try.prog w = .ok (.int .i64 0) w := by kernel_rfl
/-- Block mb is the map of the marks. -/
def BMap (w : World) (mb : Nat) : Prop := w.ownsMap Try.prog 5 iR mb 3 bD3
theorem BMap.lt {w : World} {mb : Nat} (h : BMap w mb) : mb < w.heap.size := World.ownsMap.lt h
theorem BMap.keep {w w' : World} {mb : Nat} (h : BMap w mb) (hk : w'.heap[mb]? = w.heap[mb]?) : BMap w' mb := by
  obtain ⟨es, clock, hb, r⟩ := h
  exact ⟨es, clock, hk.trans hb, r⟩
theorem BMap.keeps {w w' : World} {mb : Nat} {F : Nat → Prop} (h : BMap w mb) (k : Keeps F w w') (hF : ¬ F mb) : BMap w' mb := h.keep (k.block _ h.lt hF)
theorem BMap.look {w : World} {mb : Nat} (h : BMap w mb) (n : Int) (h0 : 0 ≤ n) (h1 : n < 256) :
    (Instr.lookup 40 (.map (some mb)) (.int .u8 n) true).run Try.prog w = .ok (.tuple #[.int .i64 (ofM n), .bool (isM n)]) w := by
  obtain ⟨v, ps, hrun, hv⟩ := World.ownsMap.look_ok h keyedB Try.underlying40 (zero64 w) (rfl : iR (.int .i64 0) = some (dI 0, [])) (keyB n h0 h1)
  change iR v = some (bD3.atKey (kB n) (dI 0), ps) at hv
  rw [(bD_at n).2] at hv
  rw [hrun, (bD_at n).1, iR_inv hv]
theorem bmap_made (w : World) (q : Nat) (hq : q = w.heap.size) : ∃ w1 w2 w3,
    (Instr.mapUpdate 40 (.map (some q)) (.int .u8 35) (.int .i64 10)).run Try.prog (w.alloc (.map #[] 0)) = .ok () w1 ∧
    (Instr.mapUpdate 40 (.map (some q)) (.int .u8 36) (.int .i64 16)).run Try.prog w1 = .ok () w2 ∧
    (Instr.mapUpdate 40 (.map (some q)) (.int .u8 37) (.int .i64 2)).run Try.prog w2 = .ok () w3 ∧ BMap w3 q ∧ Below q w w3 ∧ w3.heap.size = q + 1 := by
  subst hq
  obtain ⟨w1, r1, o1, g1⟩ := (World.ownsMap_made w Try.prog 5 iR).store keyedB Try.underlying40 (by unfold maxLen; omega) (keyB 35 (by omega) (by omega)) (rfl : iR (.int .i64 10) = some (dI 10, []))
  obtain ⟨w2, r2, o2, g2⟩ := o1.store keyedB Try.underlying40 (by unfold maxLen; omega) (keyB 36 (by omega) (by omega)) (rfl : iR (.int .i64 16) = some (dI 16, []))
  obtain ⟨w3, r3, o3, g3⟩ := o2.store keyedB Try.underlying40 (by unfold maxLen; omega) (keyB 37 (by omega) (by omega)) (rfl : iR (.int .i64 2) = some (dI 2, []))
  have b0 : Below w.heap.size w (w.alloc (.map #[] 0)) := (Below.refl _ _).alloc (Nat.le_refl _) _
  have b1 := b0.grown g1.grown b0.size (fun k hk => by cases hk; exact Nat.le_refl _)
  have b2 := b1.grown g2.grown b1.size (fun k hk => by cases hk; exact Nat.le_refl _)
  have b3 := b2.grown g3.grown b2.size (fun k hk => by cases hk; exact Nat.le_refl _)
  have s : ∀ {a b : World} {m : Nat}, a.mapTurned b m → b.heap.size = a.heap.size := fun g => by
    obtain ⟨es, clock, es', clock', hb, rfl⟩ := g
    simp [ChangeMaps.setBlock]
  refine ⟨w1, w2, w3, r1, r2, r3, o3, b3, ?_⟩
  rw [s g3, s g2, s g1, World.size_alloc]

set_option maxRecDepth 100000 in
theorem minus_any (c : UInt8) (w : World) : Calls Try.prog 23 #[B8 c] w fun e w' => e = .returned (.bool (c == 45)) ∧ w' = w := by
  have hn : (c == 45) = ((c.toNat : Int) == 45) := by
    rw [Bool.eq_iff_iff]
    simp only [beq_iff_eq]
    exact ⟨fun h => by rw [h]; rfl, fun h => UInt8.toNat_inj.1 (by have : (45 : UInt8).toNat = 45 := rfl; omega)⟩
  rw [hn]
  clear hn
  go_enter Try.func23, Try.ntmps23
  go_wp2_with fail
  go_ret
  exact ⟨rfl, rfl⟩
set_option maxRecDepth 100000 in
/-- A mark sets the base. -/
theorem mark_any (c : UInt8) (w : World) (vb mb pb : Nat) (b : Int) (hv : Boxed w vb 40 (.map (some mb))) (hm : BMap w mb) (hp : Boxed w pb 2 (.int .i64 b)) :
    Calls Try.prog 22 #[B8 c, .pointer (some ⟨vb, 0, none⟩), .pointer (some ⟨pb, 0, none⟩)] w fun e w' =>
      e = .returned (.bool (isM c.toNat)) ∧ Boxed w' pb 2 (.int .i64 (if isM c.toNat = true then ofM c.toNat else b)) ∧ Keeps (fun j => j = pb) w w' := by
  have hc : c.toNat < 256 := c.toNat_lt
  have hl := hm.look (c.toNat : Int) (by omega) (by omega)
  have c1 := hv.cell
  have c2 := hp.cell
  have f2 := hp.frozen
  show Calls Try.prog 22 #[.int .u8 (c.toNat : Int), .pointer (some ⟨vb, 0, none⟩), .pointer (some ⟨pb, 0, none⟩)] w fun e w' => e = .returned (.bool (isM c.toNat)) ∧ Boxed w' pb 2 (.int .i64 (if isM c.toNat = true then ofM c.toNat else b)) ∧ Keeps (fun j => j = pb) w w'
  generalize (c.toNat : Int) = z at *
  cases hz : isM z with
  | false =>
    rw [hz] at hl
    rw [if_neg (by simp)]
    have HP := Lib.hid hp
    clear hp hv hm
    go_enter Try.func22, Try.ntmps22
    go_wp2_with fail
    go_ret
    exact ⟨rfl, HP.out, Keeps.refl _ _⟩
  | true =>
    rw [hz] at hl
    rw [if_pos rfl]
    have HP := Lib.hid (hp.set (.int .i64 (ofM z)))
    have HK := Lib.hid (Keeps.setCell (fun j => j = pb) w ⟨pb, 0, none⟩ (.int .i64 (ofM z)) rfl)
    clear hp hv hm
    go_enter Try.func22, Try.ntmps22
    go_wp2_with fail
    go_ret
    exact ⟨rfl, HP.out, HK.out⟩
theorem st_ne (c : UInt8) (t : List UInt8) : ((⟨(c :: t).toArray⟩ : ByteArray).toList == (⟨#[]⟩ : ByteArray).toList) = false := by
  rw [ByteArray.toList_mk, show (⟨#[]⟩ : ByteArray) = ⟨([] : List UInt8).toArray⟩ from rfl, ByteArray.toList_mk]
  rfl
theorem idx_any (xs : List UInt8) (k : Nat) (h : k < xs.length) (w : World) : (Instr.index 9 (St xs) (.int .i64 (k : Int))).run Try.prog w = .ok (B8 (xs.getD k 0)) w := by
  rw [run_index_string w 9 _ .i64 _ Try.underlying9, dif_pos ⟨by omega, by rw [st_size]; omega⟩]
  simp only [Int.toNat_natCast]
  congr 2
  simp [List.getD_eq_getElem?_getD, h]
  rfl
theorem cut_any (c : UInt8) (t : List UInt8) (w : World) : (Instr.slice 9 (St (c :: t)) (some (.int .i64 1)) none none).run Try.prog w = .ok (St t) w := by
  rw [run_slice_string_l (ht := Try.underlying9) (kl := .i64) (l := 1) (h0 := by omega) (h1 := by rw [st_size, List.length_cons]; omega)]
  congr 2
  rw [Lib.extract_eq, st_size]
  simp
set_option maxRecDepth 100000 in
/-- cut, asked for a minus. -/
theorem cut_minus (xs : List UInt8) (w : World) (sb : Nat) (hs : Boxed w sb 9 (St xs)) :
    Calls Try.prog 21 #[.func (.func 23) #[] #[], .pointer (some ⟨sb, 0, none⟩)] w fun e w' =>
      e = .returned (.bool (minB xs)) ∧ Boxed w' sb 9 (St (minT xs)) ∧ Keeps (fun j => j = sb) w w' := by
  have c1 := hs.cell
  have f1 := hs.frozen
  have en : ∀ args W, (callFunc 23 args).run Try.prog W = .ok (.enter 23 args) W := enters_of Try.func23 (by kernel_rfl) rfl
  cases xs with
  | nil =>
    have HS := Lib.hid hs
    clear hs
    unfold minB minT
    go_enter Try.func21, Try.ntmps21
    go_wp2_with fail
    go_ret
    exact ⟨rfl, HS.out, Keeps.refl _ _⟩
  | cons c t =>
    have HM := Lib.hid (fun W => minus_any c W)
    have hcut := cut_any c t
    have ne := st_ne c t
    by_cases hc : c = 45
    · have hb : minB (c :: t) = true := by simp [minB, hc]
      have ht : minT (c :: t) = t := by simp [minT, hc]
      have hq : (c == 45) = true := by simp [hc]
      rw [hb, ht]
      rw [hq] at HM
      have HS := Lib.hid (hs.set (St t))
      have HK := Lib.hid (Keeps.setCell (fun j => j = sb) w ⟨sb, 0, none⟩ (St t) rfl)
      clear hs hb ht hq hc
      go_enter Try.func21, Try.ntmps21
      go_wp2_with fail
      refine (HM.out _).mono ?_
      rintro e w2 ⟨rfl, rfl⟩
      go_wp2_with fail
      go_ret
      exact ⟨rfl, HS.out, HK.out⟩
    · have hb : minB (c :: t) = false := by simp [minB, hc]
      have ht : minT (c :: t) = c :: t := by simp [minT, hc]
      have hq : (c == 45) = false := by simp [hc]
      rw [hb, ht]
      rw [hq] at HM
      have HS := Lib.hid hs
      clear hs hb ht hq hc
      go_enter Try.func21, Try.ntmps21
      go_wp2_with fail
      refine (HM.out _).mono ?_
      rintro e w2 ⟨rfl, rfl⟩
      go_wp2_with fail
      go_ret
      exact ⟨rfl, HS.out, Keeps.refl _ _⟩
set_option maxRecDepth 100000 in
/-- cut, asked for a mark. -/
theorem cut_mark (xs : List UInt8) (w : World) (sb vb mb pb b : Nat) (hs : Boxed w sb 9 (St xs)) (hv : Boxed w vb 40 (.map (some mb))) (hm : BMap w mb) (hp : Boxed w pb 2 (.int .i64 (b : Int))) (hsp : sb ≠ pb) :
    Calls Try.prog 21 #[.func (.func 22) #[] #[.pointer (some ⟨vb, 0, none⟩), .pointer (some ⟨pb, 0, none⟩)], .pointer (some ⟨sb, 0, none⟩)] w fun e w' =>
      (∃ v, e = .returned (.bool v)) ∧ Boxed w' sb 9 (St (markT xs)) ∧ Boxed w' pb 2 (.int .i64 (markB b xs : Int)) ∧ Keeps (fun j => j = sb ∨ j = pb) w w' := by
  have c1 := hs.cell
  have f1 := hs.frozen
  have en : ∀ args W, (callFunc 22 args).run Try.prog W = .ok (.enter 22 args) W := enters_of Try.func22 (by kernel_rfl) rfl
  cases xs with
  | nil =>
    have HS := Lib.hid hs
    have HP := Lib.hid hp
    clear hs hp hv hm
    unfold markT markB
    go_enter Try.func21, Try.ntmps21
    go_wp2_with fail
    go_ret
    exact ⟨⟨_, rfl⟩, HS.out, HP.out, Keeps.refl _ _⟩
  | cons c t =>
    have HM := Lib.hid (mark_any c w vb mb pb b hv hm hp)
    have hcut := cut_any c t
    have ne := st_ne c t
    have hc5 : (c.toNat : Int) = 35 ↔ c = 35 := ⟨fun h => UInt8.toNat_inj.1 (by have : (35 : UInt8).toNat = 35 := rfl; omega), fun h => by rw [h]; rfl⟩
    have hc6 : (c.toNat : Int) = 36 ↔ c = 36 := ⟨fun h => UInt8.toNat_inj.1 (by have : (36 : UInt8).toNat = 36 := rfl; omega), fun h => by rw [h]; rfl⟩
    have hc7 : (c.toNat : Int) = 37 ↔ c = 37 := ⟨fun h => UInt8.toNat_inj.1 (by have : (37 : UInt8).toNat = 37 := rfl; omega), fun h => by rw [h]; rfl⟩
    have LT := Lib.hid (And.intro hs.lt hp.lt)
    by_cases hc : c = 35 ∨ c = 36 ∨ c = 37
    · have hq : isM (c.toNat : Int) = true := by unfold isM; exact decide_eq_true (by rw [hc5, hc6, hc7]; exact hc)
      have ht : markT (c :: t) = t := by simp [markT, hc]
      have hb : (markB b (c :: t) : Int) = ofM (c.toNat : Int) := by
        unfold ofM
        simp only [hc5, hc6, hc7, markB]
        rcases hc with rfl | rfl | rfl <;> rfl
      rw [ht, hb]
      rw [hq, if_pos rfl] at HM
      have HB : Hid (∀ W, Boxed W pb 2 (.int .i64 (ofM (c.toNat : Int))) → Keeps (fun j => j = pb) w W → Boxed (W.setCell ⟨sb, 0, none⟩ (St t)) sb 9 (St t) ∧ Boxed (W.setCell ⟨sb, 0, none⟩ (St t)) pb 2 (.int .i64 (ofM (c.toNat : Int))) ∧ Keeps (fun j => j = sb ∨ j = pb) w (W.setCell ⟨sb, 0, none⟩ (St t)) ∧ W.cell? ⟨sb, 0, none⟩ = some (St (c :: t)) ∧ W.frozen? ⟨sb, 0, none⟩ = false) := fun W h1 h2 => by
        have h3 : Boxed W sb 9 (St (c :: t)) := (h2.block sb LT.out.1 hsp).trans hs
        refine ⟨h3.set _, (Below.heap_setCell _ _ _ _ (fun e => hsp e.symm)).trans h1, (h2.mono fun _ _ e => Or.inr e).trans (Keeps.setCell _ _ _ _ (Or.inl rfl)), h3.cell, h3.frozen⟩
      clear hs hp hv hm hb ht hq hc hc5 hc6 hc7
      go_enter Try.func21, Try.ntmps21
      go_wp2_with fail
      refine HM.out.mono ?_
      rintro e w2 ⟨rfl, h1, h2⟩
      obtain ⟨g1, g2, g3, g4, g5⟩ := HB.out w2 h1 h2
      have G := Lib.hid (And.intro g1 (And.intro g2 g3))
      clear g1 g2 g3 h1 h2 HB HM
      go_wp2_with fail
      go_ret
      exact ⟨⟨_, rfl⟩, G.out⟩
    · have hq : isM (c.toNat : Int) = false := by unfold isM; exact decide_eq_false (by rw [hc5, hc6, hc7]; exact hc)
      have ht : markT (c :: t) = c :: t := by simp [markT, hc]
      have hb : markB b (c :: t) = b := by
        simp only [markB]
        rw [if_neg (fun h => hc (Or.inl h)), if_neg (fun h => hc (Or.inr (Or.inl h))), if_neg (fun h => hc (Or.inr (Or.inr h)))]
      rw [ht, hb]
      rw [hq, if_neg (by simp)] at HM
      have HS := Lib.hid hs
      clear hs hp hv hm hb ht hq hc hc5 hc6 hc7
      go_enter Try.func21, Try.ntmps21
      go_wp2_with fail
      refine HM.out.mono ?_
      rintro e w2 ⟨rfl, h1, h2⟩
      have G : Hid (Boxed w2 sb 9 (St (c :: t)) ∧ Boxed w2 pb 2 (.int .i64 (b : Int)) ∧ Keeps (fun j => j = sb ∨ j = pb) w w2) := ⟨(h2.block sb LT.out.1 hsp).trans HS.out, h1, h2.mono fun _ _ e => Or.inr e⟩
      clear h1 h2 HM HS
      go_wp2_with fail
      go_ret
      exact ⟨⟨_, rfl⟩, G.out⟩
set_option maxRecDepth 100000 in
/-- A word's signs are cut off. -/
theorem parts_any (xs : List UInt8) (b : Nat) (w : World) :
    Calls Try.prog 17 #[St xs, .int .i64 (b : Int)] w (Gv w (.tuple #[.int .i64 (markB b xs : Int), .bool (minB (markT xs)), St (minT (markT xs))])) := by
  have hmk := @run_makeMap Try.prog
  have hmf : ∀ (fn : Fn) (first cap : Array Value) (w : World), (Instr.makeFunc fn first cap).run Try.prog w = .ok (.func fn first cap) w := fun _ _ _ _ => rfl
  have en : ∀ args W, (callFunc 21 args).run Try.prog W = .ok (.enter 21 args) W := enters_of Try.func21 (by kernel_rfl) rfl
  have s1 : (w.alloc (.cells #[St xs] 9)).heap.size = w.heap.size + 1 := World.size_alloc ..
  have s2 : ((w.alloc (.cells #[St xs] 9)).alloc (.cells #[.int .i64 (b : Int)] 2)).heap.size = w.heap.size + 1 + 1 := by rw [World.size_alloc, s1]
  obtain ⟨w1, w2, w3, r1, r2, r3, hm, hb, hz⟩ := bmap_made ((w.alloc (.cells #[St xs] 9)).alloc (.cells #[.int .i64 (b : Int)] 2)) (w.heap.size + 1 + 1) s2.symm
  have hp0 : Boxed ((w.alloc (.cells #[St xs] 9)).alloc (.cells #[.int .i64 (b : Int)] 2)) (w.heap.size + 1) 2 (.int .i64 (b : Int)) := by
    have := Boxed.new (w.alloc (.cells #[St xs] 9)) 2 (.int .i64 (b : Int))
    rwa [s1] at this
  have hs0 : Boxed ((w.alloc (.cells #[St xs] 9)).alloc (.cells #[.int .i64 (b : Int)] 2)) w.heap.size 9 (St xs) := (Boxed.new w 9 (St xs)).alloc _
  have hs3 : Boxed (w3.alloc (.cells #[.map (some (w.heap.size + 1 + 1))] 40)) w.heap.size 9 (St xs) := Boxed.alloc ((hb.block _ (by omega)).trans hs0) _
  have hp3 : Boxed (w3.alloc (.cells #[.map (some (w.heap.size + 1 + 1))] 40)) (w.heap.size + 1) 2 (.int .i64 (b : Int)) := Boxed.alloc ((hb.block _ (by omega)).trans hp0) _
  have hv3 : Boxed (w3.alloc (.cells #[.map (some (w.heap.size + 1 + 1))] 40)) (w.heap.size + 1 + 1 + 1) 40 (.map (some (w.heap.size + 1 + 1))) := by
    have := Boxed.new w3 40 (.map (some (w.heap.size + 1 + 1)))
    rwa [hz] at this
  have hm3 : BMap (w3.alloc (.cells #[.map (some (w.heap.size + 1 + 1))] 40)) (w.heap.size + 1 + 1) := hm.keep (Below.heap_alloc _ _ _ hm.lt)
  have b3 : Below w.heap.size w (w3.alloc (.cells #[.map (some (w.heap.size + 1 + 1))] 40)) :=
    ((((Below.refl w.heap.size w).alloc (Nat.le_refl _) (.cells #[St xs] 9)).alloc (by rw [s1]; omega) (.cells #[.int .i64 (b : Int)] 2)).trans (hb.mono (by omega))).alloc (by omega) _
  have HC := Lib.hid (cut_mark xs _ w.heap.size (w.heap.size + 1 + 1 + 1) (w.heap.size + 1 + 1) (w.heap.size + 1) b hs3 hv3 hm3 hp3 (by omega))
  have B3 := Lib.hid b3
  clear hs3 hp3 hv3 hm3 b3 hs0 hp0 hm hb
  go_enter Try.func17, Try.ntmps17
  go_wp2_with fail
  refine HC.out.mono ?_
  rintro e w5 ⟨⟨v, rfl⟩, hs5, hp5, k5⟩
  have b5 : Below w.heap.size w w5 := B3.out.trans (k5.toBelow _ B3.out.size (fun k hk => by omega))
  have hl5 := hp5.lt
  have H6 := Lib.hid (cut_minus (markT xs) w5 w.heap.size hs5)
  have B5 := Lib.hid b5
  have P5 := Lib.hid hp5
  clear b5 hs5 hp5 k5 HC B3 r1 r2 r3 hz s1 s2 w1 w2 w3
  go_wp2_with fail
  refine H6.out.mono ?_
  rintro e w6 ⟨rfl, hs6, k6⟩
  have hp6 : Boxed w6 (w.heap.size + 1) 2 (.int .i64 (markB b xs : Int)) := (k6.block _ hl5 (by omega)).trans P5.out
  have c1 := hs6.cell
  have c2 := hp6.cell
  have B6 := Lib.hid (B5.out.trans (k6.toBelow _ B5.out.size (fun k hk => by omega)))
  clear hs6 hp6 k6 H6 B5 P5 hl5
  generalize minT (markT xs) = s at *
  generalize markB b xs = bb at *
  generalize minB (markT xs) = mm at *
  go_wp2_with fail
  go_quiet (fail)
  go_wp2_with fail
  go_ret3
  exact ⟨rfl, B6.out.trans ⟨rfl, rfl, rfl, Nat.le_refl _, fun _ _ => rfl⟩⟩
end Go.Proofs.Ytncignjfmcajgaa.Dgt
