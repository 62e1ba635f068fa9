/-
  HdRow
-/
import Derived.Test.YtceemmnfofjgeaaGreatDoorHdIn
import Derived.Test.YtceemmnfofjgeaaGreatDoorHdAw
import Derived.Test.YtceemmnfofjgeaaGreatDoorGA
import Derived.Maps.AppendAt
namespace Go.Proofs.YtceemmnfofjgeaaGreatDoor.Hd
open Go.ChangeShapes Go.WideShapes Go.ChangeAt Go.RowKit Ex Ino Mm Fs
set_option linter.unusedVariables false
set_option linter.unusedSimpArgs false

/-- Numbers that lie somewhere below B. -/
def ZR (w : World) (B : Nat) (A : Option Addr) (zs : List Int) : Prop :=
  zs ≠ [] → ∃ ad, A = some ad ∧ ad.block < B ∧ ∀ k u, zs[k]? = some u → w.cell? (ad.add k) = some (.int .i64 u)
theorem ZR.below {w w' : World} {B : Nat} {A : Option Addr} {zs : List Int} (h : ZR w B A zs) (hb : Below B w w') : ZR w' B A zs := by
  intro hn
  obtain ⟨ad, e, hlt, hc⟩ := h hn
  exact ⟨ad, e, hlt, fun k u hu => (hb.cell (by rw [block_add]; exact hlt)).trans (hc k u hu)⟩
theorem hcellsI : Tryz.prog.cellsOf 3 = 1 := by kernel_rfl
theorem ints_in {H : Type} {enc : TypeId × Value → H} {W : World} {a : Option Addr} {len cap : Nat} {d : DataW H} {p : List MemPlace}
    (h : DataW.Trod enc Tryz.prog W 0 (fun _ => true) true 49 (.slice a len cap) d p) :
    ∃ zs : List Int, zs.length = len ∧ ZR W W.heap.size a zs ∧ (∀ z ∈ zs, -9223372036854775808 ≤ z ∧ z ≤ 9223372036854775807) := by
  obtain ⟨fuel, hf⟩ := h
  rcases open_ints Tryz.underlying49 Tryz.underlying3 hcellsI hf with ⟨hcs, _⟩ | ⟨x, l, c, zs, hcs, _, hl, _, hz, hx, hcell, hwz⟩
  · simp [Value.cells] at hcs
    obtain ⟨rfl, rfl, rfl⟩ := hcs
    exact ⟨[], rfl, fun h => absurd rfl h, fun z hz => by cases hz⟩
  · simp [Value.cells] at hcs
    obtain ⟨rfl, rfl, rfl⟩ := hcs
    simp only [Prod.mk.injEq] at hx
    obtain ⟨rfl, _⟩ := hx
    simp only [if_true] at hz
    refine ⟨zs.take len, by simp; omega, ?_, fun z hz => i64_of_wf (hwz z (List.mem_of_mem_take hz))⟩
    intro hne
    have h0 : 0 < zs.length := by
      rcases Nat.eq_zero_or_pos zs.length with e | e
      · rw [List.eq_nil_of_length_eq_zero e] at hne; simp at hne
      · exact e
    refine ⟨x, rfl, ?_, fun k u hu => ?_⟩
    · have := World.block_lt_of_cell? _ _ (hcell 0 h0)
      rwa [block_add] at this
    · have hk : k < len ∧ zs[k]? = some u := by
        rw [List.getElem?_take] at hu
        split at hu
        · exact ⟨‹_›, hu⟩
        · cases hu
      have hkl : k < zs.length := by omega
      rw [hcell k hkl, List.getD_eq_getElem?_getD, hk.2]
      rfl
/-- A row of numbers of the call's own. -/
def OwnZ (w : World) (B : Nat) (R : Option Addr) (cap : Nat) (l : List Int) : Prop := w.ownsRow B 3 1 (.slice R l.length cap) l.length (l.map (Value.int .i64))
theorem hinfoI : (Tryz.prog.info? 3).map (fun i => (i.zero, i.size, i.bytes)) = some (some (.int .i64 0), 1, 8) := by kernel_rfl
theorem sizes_run (w : World) (A : Option Addr) (zs : List Int) (c : Nat) (hx : ZR w w.heap.size A zs) (hl : zs.length ≤ 100) :
    ∃ R cap w', (Builtin.append_ #[49, 49] 49 #[.slice none 0 0, .slice A zs.length c]).run Tryz.prog w = .ok (.slice R zs.length cap) w' ∧ OwnZ w' w.heap.size R cap zs ∧ Below w.heap.size w w' := by
  obtain ⟨i0, hi, hz0, hz1, hz2⟩ := info_parts hinfoI
  have hnil := World.ownsRow_nil w w.heap.size 3 1
  by_cases hn : zs = []
  · subst hn
    rcases A with _ | ad
    · refine ⟨none, 0, w, ?_, hnil, Below.refl _ _⟩
      simp [Builtin.append_, run_underlying Tryz.underlying49, sizeOf, typeInfo, hi, Builtin.lenOf, Builtin.firstCells]
    · obtain ⟨v, w', hrun, hown, hg, hv, _⟩ := run_append_own_at (P := Tryz.prog) w w.heap.size 49 49 3 i0 (.int .i64 0) 1 8 Tryz.underlying49 hi hz0 hz1 hz2 rfl (by decide) (.slice none 0 0) 0 [] hnil ad 0 c [] rfl (by simp) (by simp) (by simp [maxLen]) (by omega) (Nat.le_refl _)
      obtain rfl := hv.2 ⟨rfl, rfl⟩
      exact ⟨none, 0, w', hrun, hown, ⟨hg.os, hg.tape, hg.output, hg.size, fun k hk => hg.block k hk (by simp [Value.ownBlock])⟩⟩
  · obtain ⟨ad, rfl, _, hc⟩ := hx hn
    obtain ⟨v, w', hrun, hown, hg, _, _⟩ := run_append_own_at (P := Tryz.prog) w w.heap.size 49 49 3 i0 (.int .i64 0) 1 8 Tryz.underlying49 hi hz0 hz1 hz2 rfl (by decide) (.slice none 0 0) 0 [] hnil ad zs.length c (zs.map (Value.int .i64)) (by simp) (fun j v hj => by
      simp only [List.getElem?_map, Option.map_eq_some_iff] at hj
      obtain ⟨u, hu, rfl⟩ := hj
      exact hc j u hu) (by
      intro v hv
      simp only [List.mem_map] at hv
      obtain ⟨u, _, rfl⟩ := hv
      rfl) (by simp [maxLen]; omega) (by omega) (Nat.le_refl _)
    have h0 : 0 < zs.length := List.length_pos_iff.2 hn
    simp only [Nat.zero_add, List.nil_append] at hown
    obtain ⟨g, cap, rfl, _, _⟩ := World.ownsRow.form hown (by omega)
    exact ⟨_, cap, w', hrun, hown, ⟨hg.os, hg.tape, hg.output, hg.size, fun k hk => hg.block k hk (by simp [Value.ownBlock])⟩⟩
/-- One number more. -/
theorem last_run (w : World) (B : Nat) (R : Option Addr) (cap : Nat) (zs : List Int) (h : OwnZ w B R cap zs) (hB : B ≤ w.heap.size) (hl : zs.length ≤ 100) :
    ∃ g c w', (Builtin.append_ #[49, 49] 49 #[.slice R zs.length cap, .slice (some ⟨w.heap.size, 0, none⟩) 1 1]).run Tryz.prog (w.alloc (.cells #[.int .i64 1472] 3)) = .ok (.slice (some ⟨g, 0, none⟩) (zs.length + 1) c) w' ∧
      B ≤ g ∧ g < w'.heap.size ∧ (∀ k z, (zs ++ [1472])[k]? = some z → w'.cell? ⟨g, k, none⟩ = some (.int .i64 z)) ∧ Below B w w' := by
  obtain ⟨i0, hi, hz0, hz1, hz2⟩ := info_parts hinfoI
  have hg : (w.alloc (.cells #[.int .i64 1472] 3)).cell? ⟨w.heap.size, 0, none⟩ = some (.int .i64 1472) := (Boxed.new w 3 (.int .i64 1472)).cell
  have h2 : (w.alloc (.cells #[.int .i64 1472] 3)).ownsRow B 3 1 (.slice R zs.length cap) zs.length (zs.map (Value.int .i64)) :=
    World.ownsRow.kept (row := none) h (World.grownBy_alloc w _ none) (by
      cases e : Value.ownBlock (.slice R zs.length cap) with
      | none => exact Or.inl rfl
      | some k => exact Or.inr (by simp))
  obtain ⟨v', w', hrun, hown, hgr, _, _⟩ := run_append_own_at (P := Tryz.prog) (w.alloc (.cells #[.int .i64 1472] 3)) B 49 49 3 i0 (.int .i64 0) 1 8 Tryz.underlying49 hi hz0 hz1 hz2 rfl (by decide) _ zs.length _ h2 ⟨w.heap.size, 0, none⟩ 1 1 [.int .i64 1472] rfl (fun j u hu => by
    match j, hu with
    | 0, hu => cases hu; exact hg
    | j + 1, hu => simp at hu) (by intro u hu; simp at hu; subst hu; rfl) (by unfold maxLen; omega) (by omega) (by rw [World.size_alloc]; omega)
  obtain ⟨g, c, rfl, h1, h3⟩ := World.ownsRow.form hown (by omega)
  refine ⟨g, c, w', hrun, h1, h3, fun k z hz => ?_, ?_⟩
  · have hk : k < zs.length + 1 := by
      have := (List.getElem?_eq_some_iff.1 hz).1
      simpa using this
    rw [World.ownsRow.cellAt hown k (by omega)]
    have e : zs.map (Value.int .i64) ++ [.int .i64 1472] = (zs ++ [1472]).map (Value.int .i64) := by simp
    rw [e, List.getElem?_map, hz]
    rfl
  · exact ((Below.refl B w).alloc hB _).grown hgr (by rw [World.size_alloc]; omega) fun k hk => by
      have := (World.ownsRow.lt h2 k hk)
      omega
/-- What has been written: m rows of bytes. -/
def WrRel (w2 : World) (p gb mb : Nat) (G : List UInt8) (l : List Pt) (g : Nat) (all k : Value) (wr : World) : Prop :=
  ∃ m M, g = l.length - m ∧ m ≤ l.length ∧ all = St (ptAll (l.take m)) ∧ k = .int .i64 (m : Int) ∧ MemAt wr p gb mb G M ∧ HS M 102 (ptAll (l.take m)) ((ptAll (l.take m)).length : Int) 0 ∧ Keeps (fun k => k = p ∨ k = mb) w2 wr
/-- What has been read: m pieces, up to place q. -/
def RdRel (w3 : World) (p gb mb : Nat) (G all : List UInt8) (n : Nat) (g : Nat) (got k : Value) (wr : World) : Prop :=
  ∃ m M q, g = n + 1 - m ∧ m ≤ n + 1 ∧ q ≤ all.length ∧ (m = n + 1 → q = all.length) ∧ got = St (all.take q) ∧ k = .int .i64 (m : Int) ∧ MemAt wr p gb mb G M ∧ HS M 102 all (all.length : Int) (q : Int) ∧ Keeps (fun k => k = p ∨ k = mb) w3 wr
def SumRel (w1 : World) (l : List Pt) (g : Nat) (n k : Value) (wr : World) : Prop :=
  ∃ m, g = l.length - m ∧ m ≤ l.length ∧ n = .int .i64 (ptSum (l.take m) : Int) ∧ k = .int .i64 (m : Int) ∧ wr = w1
theorem ptSum_le (l : List Pt) (m : Nat) : ptSum (l.take m) ≤ ptSum l := by
  have := ptSum_append (l.take m) (l.drop m)
  rw [List.take_append_drop] at this
  omega
theorem take_next (l : List Pt) {m : Nat} (h : m < l.length) : ptSum (l.take (m + 1)) = ptSum (l.take m) + (l[m].xs.length + 1) ∧ ptAll (l.take (m + 1)) = ptAll (l.take m) ++ l[m].xs := by
  rw [List.take_succ_eq_append_getElem h, ptSum_append, ptAll_append]
  simp [ptSum, ptAll]
theorem ptAll_le (l : List Pt) (m : Nat) : (ptAll (l.take m)).length ≤ ptSum l := by
  have h1 := ptAll_len (l.take m)
  have h2 := ptSum_le l m
  omega
/-- Behind a piece of K bytes. -/
theorem take_more (all : List UInt8) (q K : Nat) : all.take q ++ (all.drop q).take K = all.take (q + ((all.drop q).take K).length) := by
  rw [List.length_take, List.length_drop]
  by_cases h : K ≤ all.length - q
  · rw [Nat.min_eq_left h, List.take_add]
  · rw [Nat.min_eq_right (by omega), List.take_of_length_le (l := all.drop q) (by rw [List.length_drop]; omega), List.take_append_drop]
    by_cases hq : q ≤ all.length
    · rw [List.take_of_length_le (by omega)]
    · rw [List.take_of_length_le (by omega)]
end Go.Proofs.YtceemmnfofjgeaaGreatDoor.Hd
