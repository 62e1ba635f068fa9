/-
  Merged by wip/tools/merge.py: ShRow ShMerge
-/
import Derived.Test.YtebecpjecchfoaaGreatDoorGShP
import Derived.Test.YtebecpjecchfoaaGreatDoorGShI
import Derived.Maps.AppendAt
import Derived.Test.YtebecpjecchfoaaGreatDoorShRebV
import Derived.Test.YtebecpjecchfoaaGreatDoorGDk
namespace Go.Proofs.YtebecpjecchfoaaGreatDoor
open Go.RowKit Go.Maps

theorem Tryz.infoCh : (Tryz.prog.info? 194).map (fun i => (i.zero, i.size, i.bytes)) = some (some (.agg #[.int .i64 0, .slice none 0 0]), 2, 32) := by kernel_rfl
theorem ccells_len (L : List ChV) : (L.flatMap ccells).length = L.length * 2 := by
  induction L with
  | nil => rfl
  | cons a r ih => rw [List.flatMap_cons, List.length_append, ih]; simp [ccells]; omega
theorem ccells_at : ∀ {L : List ChV} {k : Nat} {a : ChV}, L[k]? = some a → ∀ {j : Nat} {v : Value}, (ccells a)[j]? = some v → (L.flatMap ccells)[k * 2 + j]? = some v
  | [], k, a, h, _, _, _ => by simp at h
  | b :: r, 0, a, h, j, v, hv => by
    have hj : j < (ccells b).length := by
      have : b = a := by simpa using h
      rw [this]; exact (List.getElem?_eq_some_iff.1 hv).1
    have e : b = a := by simpa using h
    subst e
    rw [List.flatMap_cons, Nat.zero_mul, Nat.zero_add, List.getElem?_append_left hj]
    exact hv
  | b :: r, k + 1, a, h, j, v, hv => by
    have hl : (ccells b).length = 2 := rfl
    rw [List.flatMap_cons, List.getElem?_append_right (by rw [hl]; omega), hl, show (k + 1) * 2 + j - 2 = k * 2 + j from by omega]
    exact ccells_at (by simpa using h) hv

/-- A row of changes, with their bytes apart from it. -/
structure ChRow (w : World) (B : Nat) (R : Option Addr) (cap : Nat) (L : List ChV) : Prop where
  own : w.ownsRow B 194 2 (.slice R L.length cap) L.length (L.flatMap ccells)
  ok : ∀ a ∈ L, a.Ok w w.heap.size
  new : ∀ a ∈ L, ∀ ad, a.A = some ad → B ≤ ad.block ∧ ad.block < w.heap.size ∧ ∀ g, R = some g → ad.block ≠ g.block
theorem own_block {w : World} {B : Nat} {R : Option Addr} {cap n : Nat} {xs : List Value} (h : w.ownsRow B 194 2 (.slice R n cap) n xs) : ∀ ad, R = some ad → B ≤ ad.block ∧ ad.block < w.heap.size ∧ Value.ownBlock (.slice R n cap) = some ad.block := by
  rintro ad rfl
  rcases h.2 with ⟨e, _⟩ | ⟨g, cap', cur, e, hb, hg, _⟩
  · cases e
  · cases e
    exact ⟨hb, (Array.getElem?_eq_some_iff.1 hg).1, rfl⟩
theorem ChRow.nil (w : World) (B : Nat) : ChRow w B none 0 [] := ⟨World.ownsRow_nil _ _ _ _, (fun a ha => by cases ha), (fun a ha => by cases ha)⟩
/-- Its cells. -/
theorem ChRow.cr {w : World} {B : Nat} {R : Option Addr} {cap : Nat} {L : List ChV} (h : ChRow w B R cap L) : CR w w.heap.size R L := by
  refine ⟨fun hne => ?_, h.ok⟩
  rcases h.own.2 with ⟨_, hn⟩ | ⟨g, cap', cur, e, hb, hg, _, _, hcs, htk⟩
  · exact absurd (List.eq_nil_of_length_eq_zero hn) hne
  · injection e with e1 _ e3
    subst e1
    refine ⟨⟨g, 0, none⟩, rfl, (Array.getElem?_eq_some_iff.1 hg).1, fun k a ha j v hv => ?_⟩
    have hat := ccells_at ha hv
    rw [Addr.add_mid, Addr.add_mid, Nat.zero_add, cell_of_row _ _ _ _ _ _ hg, ← Array.getElem?_toList]
    have hlt : k * 2 + j < L.length * 2 := by rw [← ccells_len]; exact (List.getElem?_eq_some_iff.1 hat).1
    rw [← htk, List.getElem?_take, if_pos hlt] at hat
    exact hat
theorem ChRow.keeps {w w' : World} {B : Nat} {R : Option Addr} {cap : Nat} {L : List ChV} (h : ChRow w B R cap L) {F : Nat → Prop} (k : Keeps F w w') (hF : ∀ b, B ≤ b → b < w.heap.size → ¬ F b) : ChRow w' B R cap L := by
  refine ⟨⟨h.own.1, ?_⟩, fun a ha => ?_, fun a ha ad e => ⟨(h.new a ha ad e).1, Nat.lt_of_lt_of_le (h.new a ha ad e).2.1 k.size, (h.new a ha ad e).2.2⟩⟩
  · rcases h.own.2 with hn | ⟨g, cap', cur, e, hb, hg, rest⟩
    · exact .inl hn
    · exact .inr ⟨g, cap', cur, e, hb, (k.block g (Array.getElem?_eq_some_iff.1 hg).1 (hF g hb (Array.getElem?_eq_some_iff.1 hg).1)).trans hg, rest⟩
  · have ho := h.ok a ha
    refine ⟨fun hne => ?_, ho.n0, ho.n1, ho.lc⟩
    obtain ⟨ad, e, hlt, hc⟩ := ho.br hne
    exact ⟨ad, e, Nat.lt_of_lt_of_le hlt k.size, fun i u hu => (World.cell?_of_block (w := w) (by rw [block_add]; exact k.block _ hlt (hF _ (h.new a ha ad e).1 hlt))).trans (hc i u hu)⟩
theorem ChRow.below {w w' : World} {B : Nat} {R : Option Addr} {cap : Nat} {L : List ChV} (h : ChRow w B R cap L) (hb : Below w.heap.size w w') : ChRow w' B R cap L := h.keeps (keeps_below hb) (fun _ _ _ h => h)
/-- One change more. -/
theorem ChRow.app {w : World} {B : Nat} {R : Option Addr} {cap : Nat} {L : List ChV} (h : ChRow w B R cap L) (hB : B ≤ w.heap.size) (hl : L.length ≤ 1000) (a : ChV) (ha : a.Ok w w.heap.size) (hA : ∀ ad, a.A = some ad → B ≤ ad.block ∧ ad.block < w.heap.size ∧ ∀ g, R = some g → ad.block ≠ g.block) (ad : Addr) (c : Nat) (ty : TypeId)
    (h0 : w.cell? (ad.add 0) = some (.int .i64 a.page)) (h1 : w.cell? (ad.add 1) = some (.slice a.A a.xs.length a.c)) :
    ∃ R' cap' w', (Builtin.append_ #[134, 134] ty #[.slice R L.length cap, .slice (some ad) 1 c]).run Tryz.prog w = .ok (.slice R' (L.length + 1) cap') w' ∧ ChRow w' B R' cap' (L ++ [a]) ∧ Below B w w' ∧
      (∀ b, b < w.heap.size → (∀ r, R = some r → b ≠ r.block) → w'.heap[b]? = w.heap[b]?) ∧ (∀ r', R' = some r' → (∃ r, R = some r ∧ r'.block = r.block) ∨ r'.block = w.heap.size) := by
  obtain ⟨i0, hi, hz0, hz1, hz2⟩ := info_parts Tryz.infoCh
  obtain ⟨v', w', hrun, hown, hg, _, hblk⟩ := run_append_own_at (P := Tryz.prog) w B 134 ty 194 i0 _ 2 32 Tryz.underlying134 hi hz0 hz1 hz2 rfl (by decide) _ L.length _ h.own ad 1 c (ccells a) rfl (fun j u hu => by
    match j, hu with
    | 0, hu => cases hu; exact h0
    | 1, hu => cases hu; exact h1
    | j + 2, hu => simp [ccells] at hu) (by intro u hu; simp [ccells] at hu; rcases hu with rfl | rfl <;> rfl) (by unfold maxLen; omega) (by omega) hB
  obtain ⟨g, cap', rfl, _, _⟩ := World.ownsRow.form hown (by omega)
  have hob := own_block h.own
  have hrow : ∀ k, Value.ownBlock (.slice R L.length cap) = some k → ∃ ad, R = some ad ∧ ad.block = k := by
    intro k hk
    cases R with
    | none => simp [Value.ownBlock] at hk
    | some r =>
      have := (hob r rfl).2.2
      rw [this] at hk
      exact ⟨r, rfl, by simpa using hk⟩
  have hbl : ∀ b, b < w.heap.size → (∀ r, R = some r → b ≠ r.block) → w'.heap[b]? = w.heap[b]? := fun b hb hn => hg.block b hb (fun e => by
    obtain ⟨r, hr, hrb⟩ := hrow b e.symm
    exact hn r hr hrb.symm)
  have hgb : (∀ r, R = some r → g = r.block) ∧ R ≠ none ∨ g = w.heap.size := by
    rcases hblk with e | e
    · left
      have e' : some g = Value.ownBlock (.slice R L.length cap) := e
      obtain ⟨r, hr, hrb⟩ := hrow g e'.symm
      exact ⟨fun r' hr' => by rw [hr] at hr'; cases hr'; exact hrb.symm, by rw [hr]; simp⟩
    · right
      have e' : some g = some w.heap.size := e
      simpa using e'
  have hne : ∀ x : ChV, x.Ok w w.heap.size → (∀ ad, x.A = some ad → B ≤ ad.block ∧ ad.block < w.heap.size ∧ ∀ g, R = some g → ad.block ≠ g.block) → x.xs ≠ [] → ∃ ad, x.A = some ad ∧ ad.block < w.heap.size := fun x hx _ hn => by
    obtain ⟨ad, e, hlt, _⟩ := hx.br hn
    exact ⟨ad, e, hlt⟩
  have hok : ∀ x : ChV, x.Ok w w.heap.size → (∀ ad, x.A = some ad → B ≤ ad.block ∧ ad.block < w.heap.size ∧ ∀ g, R = some g → ad.block ≠ g.block) → x.Ok w' w'.heap.size := by
    intro x hx hxa
    refine ⟨fun hn => ?_, hx.n0, hx.n1, hx.lc⟩
    obtain ⟨ad, e, hlt, hc⟩ := hx.br hn
    exact ⟨ad, e, Nat.lt_of_lt_of_le hlt hg.size, fun i u hu => (World.cell?_of_block (w := w) (by rw [block_add]; exact hbl _ hlt (fun r hr => (hxa ad e).2.2 r hr))).trans (hc i u hu)⟩
  refine ⟨_, cap', w', hrun, ⟨?_, ?_, ?_⟩, ⟨hg.os, hg.tape, hg.output, hg.size, fun k hk => hg.block k (by omega) (fun e => ?_)⟩, hbl, fun r' hr' => ?_⟩
  · rw [List.flatMap_append, List.length_append]
    simpa using hown
  · intro x hx
    rcases List.mem_append.1 hx with hx | hx
    · exact hok x (h.ok x hx) (h.new x hx)
    · simp only [List.mem_singleton] at hx
      subst hx
      exact hok _ ha hA
  · intro x hx ad' e
    have hx2 : x.Ok w w.heap.size ∧ ∀ ad, x.A = some ad → B ≤ ad.block ∧ ad.block < w.heap.size ∧ ∀ g, R = some g → ad.block ≠ g.block := by
      rcases List.mem_append.1 hx with hx | hx
      · exact ⟨h.ok x hx, h.new x hx⟩
      · simp only [List.mem_singleton] at hx
        subst hx
        exact ⟨ha, hA⟩
    refine ⟨(hx2.2 ad' e).1, Nat.lt_of_lt_of_le (hx2.2 ad' e).2.1 hg.size, fun r hr => ?_⟩
    cases hr
    show ad'.block ≠ g
    rcases hgb with ⟨h1, h2⟩ | h1
    · cases R with
      | none => exact absurd rfl h2
      | some r0 =>
        rw [h1 r0 rfl]
        exact (hx2.2 ad' e).2.2 r0 rfl
    · have := (hx2.2 ad' e).2.1
      omega
  · obtain ⟨r, hr, hrb⟩ := hrow k e.symm
    have := (hob r hr).1
    omega
  · cases hr'
    rcases hgb with ⟨h1, h2⟩ | h1
    · cases R with
      | none => exact absurd rfl h2
      | some r0 => exact .inl ⟨r0, rfl, h1 r0 rfl⟩
    · exact .inr h1
end Go.Proofs.YtebecpjecchfoaaGreatDoor
namespace Go.Proofs.YtebecpjecchfoaaGreatDoor
open Go.RowKit Go.Maps

def prC (a : ChV) : Int × List UInt8 := (a.page, a.xs)
end Go.Proofs.YtebecpjecchfoaaGreatDoor
