/-
  SbPlain
-/
import Derived.Test.YtacghpabjmnfiaaGreatDoorGSu
import Derived.Test.YtacghpabjmnfiaaGreatDoorShHeld
namespace Go.Proofs.YtacghpabjmnfiaaGreatDoor
open Go.RowKit Go.Maps

/-- The acts and the free sectors as they will be. -/
structure BCnt (A B : Nat) (cs0 : List Nat) (s : BSt) (r : Nat) : Prop where
  rem : BRem s r
  acts : s.D.acts + r = A
  free : Sp.nfree s.cs = r + B
  held : ∀ n, 0 < cs0.getD n 0 → s.cs.getD n 0 = cs0.getD n 0
theorem bcnt_nx (A B : Nat) (cs0 : List Nat) : Nx bnxt (BCnt A B cs0) := ⟨fun s r xs hx h => by
  obtain ⟨h1, h2, h3, h4⟩ := h
  have hl := h1.left
  have hn : s.D.left ≠ 0 := by omega
  have hf := take_free h1.free
  obtain ⟨l1, l2, l3, l4⟩ := h1.lo
  refine ⟨bnxt_nx.down s r xs hx h1, ?_, ?_, fun n hn' => ?_⟩
  · show s.D.spent.acts + r = A
    unfold DSt.spent
    rw [if_neg hn]
    show s.D.acts + 1 + r = A
    omega
  · show Sp.nfree (Sp.takeC s.cs) = r + B
    omega
  · show (Sp.takeC s.cs).getD n 0 = cs0.getD n 0
    rw [take_get h1.free l3, if_neg (fun e => by
      have := h4 n hn'
      rw [e, l4] at this
      rw [e] at hn'
      omega)]
    exact h4 n hn', fun s r xs h => bnxt_nx.val s r xs h.rem⟩
theorem build_cnt {D : DSt} {cs : List Nat} {K : Nat} (hok : BOk D cs K) (t : Nat) {l : List ChV} (hg : ∀ a ∈ l, a.good) (hn : needs D t l ≤ Sp.nfree cs) :
    (rebV bnxt D t 0 l ⟨D, cs, K⟩).2.2.D.acts = D.acts + needs D t l ∧ Sp.nfree (rebV bnxt D t 0 l ⟨D, cs, K⟩).2.2.cs = Sp.nfree cs - needs D t l ∧ ∀ n, 0 < cs.getD n 0 → (rebV bnxt D t 0 l ⟨D, cs, K⟩).2.2.cs.getD n 0 = cs.getD n 0 := by
  have h0 : BCnt (D.acts + needs D t l) (Sp.nfree cs - needs D t l) cs ⟨D, cs, K⟩ (needs D t l + 0) := by
    refine ⟨hok.rem (by omega) ?_, by show D.acts + _ = _; omega, by show Sp.nfree cs = _; omega, fun n _ => rfl⟩
    unfold needs
    split
    · omega
    · have := c1_le (latestF l)
      have := n2_le (leafG D (nodeD D t) (keysF (latestF l))) (latestF l)
      have := n3_le (nodeD D t) (leafG D (nodeD D t) (keysF (latestF l))) (latestF l)
      omega
  have h1 := rebV_rem (bcnt_nx (D.acts + needs D t l) (Sp.nfree cs - needs D t l) cs) D t hg ⟨D, cs, K⟩ (r := 0) h0
  refine ⟨by have := h1.acts; omega, by have := h1.free; omega, h1.held⟩

/-- A row of ints that the call made. -/
def OwnZ (w : World) (B : Nat) (R : Option Addr) (cap : Nat) (zs : List Int) : Prop := w.ownsRow B 3 1 (.slice R zs.length cap) zs.length (zs.map fun z => Value.int .i64 z)
theorem OwnZ.nil (w : World) (B : Nat) : OwnZ w B none 0 [] := World.ownsRow_nil _ _ _ _
theorem OwnZ.zr {w : World} {B : Nat} {R : Option Addr} {cap : Nat} {zs : List Int} (h : OwnZ w B R cap zs) : ZR w w.heap.size R zs := fun hn => by
  have h0 : 0 < zs.length := List.length_pos_iff.2 hn
  obtain ⟨g, c, hv, _, hlt⟩ := World.ownsRow.form h (by omega)
  injection hv with e1 _ e3
  subst e1 e3
  exact ⟨_, rfl, hlt, fun k u hu => World.ownsRow.cells h (g := g) rfl k (.int .i64 u) (by simp [hu])⟩
theorem OwnZ.app {w : World} {B : Nat} {R : Option Addr} {cap : Nat} {zs : List Int} (h : OwnZ w B R cap zs) (hB : B ≤ w.heap.size) (hl : zs.length ≤ 1000000) (A : Option Addr) (c : Nat) (ys : List Int) (hy : ZR w w.heap.size A ys) (hyl : ys.length ≤ 1000000) (ty : TypeId) :
    ∃ R' cap' w', (Builtin.append_ #[43, 43] ty #[.slice R zs.length cap, .slice A ys.length c]).run Tryz.prog w = .ok (.slice R' (zs ++ ys).length cap') w' ∧ OwnZ w' B R' cap' (zs ++ ys) ∧ Below B w w' := by
  obtain ⟨i0, hi, hz0, hz1, hz2⟩ := info_parts Tryz.infoInt
  have form : ∀ {w' : World} {v' : Value} {n : Nat} {vs : List Value}, w'.ownsRow B 3 1 v' n vs → ∃ R' cap', v' = .slice R' n cap' := by
    intro w' v' n vs h
    rcases h.2 with ⟨rfl, h0⟩ | ⟨g, cap', cur, rfl, _⟩
    · exact ⟨none, 0, by rw [h0]⟩
    · exact ⟨_, _, rfl⟩
  by_cases hA : A = none
  · subst hA
    have hn : ys = [] := Classical.byContradiction fun hn => by
      obtain ⟨ad, e, _⟩ := hy hn
      cases e
    subst hn
    have hcap : zs.length ≤ cap := by
      rcases h.2 with ⟨e, h0⟩ | ⟨g, cap', cur, e, _, _, hnc, _⟩
      · omega
      · injection e with _ _ e3
        omega
    refine ⟨R, cap, w, ?_, by rw [List.append_nil]; exact h, Below.refl _ _⟩
    cases R <;> simp [Builtin.append_, run_underlying Tryz.underlying43, sizeOf, typeInfo, hi, Builtin.lenOf, Builtin.firstCells, hcap, storeCells]
  · obtain ⟨ad, rfl⟩ := Option.ne_none_iff_exists'.1 hA
    have hc : ∀ k u, ys[k]? = some u → w.cell? (ad.add k) = some (.int .i64 u) := fun k u hu => by
      obtain ⟨ad', e, _, hc⟩ := hy (by intro e; rw [e] at hu; simp at hu)
      cases e
      exact hc k u hu
    obtain ⟨v', w', hrun, hown, hg, hv, _⟩ := run_append_own_at (P := Tryz.prog) w B 43 ty 3 i0 (.int .i64 0) 1 8 Tryz.underlying43 hi hz0 hz1 hz2 rfl (by decide) _ zs.length _ h ad ys.length c (ys.map fun z => Value.int .i64 z) (by simp) (fun j u hu => by
      simp only [List.getElem?_map, Option.map_eq_some_iff] at hu
      obtain ⟨x, hx, rfl⟩ := hu
      exact hc j x hx) (by
      intro u hu
      simp only [List.mem_map] at hu
      obtain ⟨x, _, rfl⟩ := hu
      rfl) (by unfold maxLen; omega) (by omega) hB
    obtain ⟨R', cap', rfl⟩ := form hown
    rw [List.length_append]
    refine ⟨R', cap', w', hrun, ?_, ⟨hg.os, hg.tape, hg.output, hg.size, fun k hk => hg.block k (by omega) (fun e => by have := (World.ownsRow.lt h k e.symm).1; omega)⟩⟩
    unfold OwnZ
    rw [List.length_append, List.map_append]
    exact hown
/-- append as an operation of a region that draws. -/
theorem ex_append {P : Program} {w w' : World} {o : Oper} {ρ : Operand → Value} (s x : Operand) (t u : TypeId) (ho : o.op = .call { callee := .builtin .append, args := #[s, x], argTypes := #[t, u] }) (a b v : Value) (ha : ρ s = a) (hb : ρ x = b)
    (hrun : (Builtin.append_ #[t, u] o.type #[a, b]).run P w = .ok v w') : (execOp ρ o).run P w = .ok (.value v) w' := by
  subst ha hb
  unfold execOp
  simp only [ho, resolve, invoke, builtin, Sem.run_bind, Sem.run_pure, Result.andThen_ok, List.map_toArray, List.map_cons, List.map_nil, hrun]
end Go.Proofs.YtacghpabjmnfiaaGreatDoor
