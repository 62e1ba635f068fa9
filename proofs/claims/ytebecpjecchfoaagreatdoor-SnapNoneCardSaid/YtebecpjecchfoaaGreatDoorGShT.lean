/-
  Merged by wip/tools/merge.py: ShTopC ShTopB
-/
import Derived.Test.YtebecpjecchfoaaGreatDoorGShP
import Derived.Test.YtebecpjecchfoaaGreatDoorGShS
namespace Go.Proofs.YtebecpjecchfoaaGreatDoor
open Go.RowKit Go.Maps

theorem wpList_insert_runC {P : Program} {w w' : World} {ops : Array Oper} {rest : List Oper} {o : Oper} {a : Act} {Q : Exit → Act → World → Prop} (hgd : o.guard = none) (t : TypeId) (x y z : Operand) (ho : o.op = .insert t x y z) (m k v : Value) (hm : a.eval x = m) (hk : a.eval y = k) (hv : a.eval z = v)
    (hrun : (Instr.mapUpdate t m k v).run P w = .ok () w') (h : wpList P ops Q rest (a.put o.dst undef) w') : wpList P ops Q (o :: rest) a w :=
  wpList_plain hgd fun _ hK => by
    unfold Oper.wp execOp
    simp only [ho, hm, hk, hv, Sem.run_bind, hrun, Result.andThen_ok, Sem.run_pure]
    exact hK _ _ h

def NewTopC {σ : Type} {go : Option Addr → Nat → World → (Ending → World → Prop) → Prop} (L : Lay σ go) (root0 : List Int) (g0 : Nat → Option (List Int)) (P : Nat → Option (List UInt8)) (s : σ) (r : Nat) (F : Nat → Prop) (w : World) (e : Ending) (w' : World) : Prop :=
  ∃ F', e = .returned (.int .i64 (tTop L.nxt root0 g0 P s)) ∧ L.I F' (t3 L.nxt root0 g0 P s).1 w' ∧ (∀ k, F' k → F k ∨ w.heap.size ≤ k) ∧ L.rem (t3 L.nxt root0 g0 P s).1 r ∧ Keeps F w w'

set_option maxRecDepth 100000 in
set_option maxHeartbeats 8000000 in
theorem newTopC_at {σ : Type} (p1 : Value) (L : Lay σ (fun A c W Q => Calls Tryz.prog 204 #[.slice A 64 c, p1] W Q)) {w : World} {p lb mb n : Nat} {iv : Value} {D : DSt} (h : DkAt w p lb mb n iv D) (hd : D.down = false) (top : Nat) (ht : top = 0 ∨ top < n)
    (hro : EntOk n (nodeD D top)) {pb nn : Nat} {P : Nat → Option (List UInt8)} (hm : MapF pageC w pb nn P) (hP : ∀ k x, P k = some x → x.length = 64)
    {F0 : Nat → Prop} {s : σ} {r : Nat} (hI : L.I F0 s w) (hmF : ¬ F0 pb) (hrem : L.rem s (cAll L.nxt (nodeD D top) (leafG D (nodeD D top) (keysF P)) P s + r)) :
    Calls Tryz.prog 207 #[.pointer (some ⟨p, 0, none⟩), .int .i64 (top : Int), .map (some pb), .func (.func 204) #[] #[p1]] w (NewTopC L (nodeD D top) (leafG D (nodeD D top) (keysF P)) P s r F0 w) := by
  have hmm := @run_makeMap Tryz.prog
  have hmlt := hm.lt
  have hFlt := L.lt hI
  have hsn := snode_at h top ht hd
  have hlen0 := nodeD_len D top
  have hr0ok := nodeD_ok D top
  have hleaf : ∀ {w' : World}, DkAt w' p lb mb n iv D → MapF pageC w' pb nn P → _ := fun {w'} hd' hm' => leavesOf_at hd' hd (nodeD D top) hlen0 hro hm'
  have hg4 : ∀ q, q ∈ keysF P → _ := fun q hq => leafG_has D (nodeD D top) hq
  have hgs : ∀ i zs, leafG D (nodeD D top) (keysF P) i = some zs → zs.length = 32 ∧ (∀ z ∈ zs, 0 ≤ z ∧ z ≤ 65535) ∧ i < 4 := by
    intro i zs hz
    obtain ⟨rfl, a, ha, rfl⟩ := leafG_some _ _ _ hz
    have := (keysF_mem.1 ha).1
    exact ⟨nodeD_len _ _, nodeD_ok _ _, by omega⟩
  generalize nodeD D top = root0 at *
  generalize hG : leafG D root0 (keysF P) = g0 at *
  unfold cAll at hrem
  have hrem1 : L.rem s (cntB zs64 P (keysF P) + (c2 L.nxt g0 P s + (c3 L.nxt root0 g0 P s + r))) := by
    have e : cntB zs64 P (keysF P) + (c2 L.nxt g0 P s + (c3 L.nxt root0 g0 P s + r)) = c1 P + c2 L.nxt g0 P s + c3 L.nxt root0 g0 P s + r := by unfold c1; omega
    rw [e]; exact hrem
  have h1v : ∀ i v, (t1 L.nxt P s).2 i = some v → 0 ≤ v ∧ v ≤ 65535 := layL_val L.nxt zs64 (fun xs => xs) P s L.rem (fun k x hx _ => hP k x hx) (fun xs hx => L.down xs hx) (fun xs => L.val xs) (keysF P) (s, fun _ => none) _ hrem1 (fun i v h => by cases h)
  have h1k := Lib.hid (t1_keys L.nxt P s)
  have hLok : ∀ i zs, t1L L.nxt g0 P s i = some zs → zs.length = 32 ∧ okN zs = true := by
    intro i zs hz
    unfold t1L leafH at hz
    cases hg : g0 i with
    | none => rw [hg] at hz; cases hz
    | some ys =>
      rw [hg] at hz
      simp only [Option.map_some, Option.some.injEq] at hz
      subst hz
      exact ⟨leafRow_len _ _ _ _, leafRow_ok _ _ (hgs i ys hg).2.1 h1v⟩
  have hL4 : ∀ i, (t1L L.nxt g0 P s i).isSome = true → i < 4 := by
    intro i hz
    unfold t1L leafH at hz
    cases hg : g0 i with
    | none => rw [hg] at hz; cases hz
    | some ys => exact (hgs i ys hg).2.2
  go_enter Tryz.func207, Tryz.ntmps207
  go_wp2_with fail
  refine hsn.mono ?_
  rintro e w1 ⟨rfl, hb1⟩
  obtain ⟨w2, S2, n2, hb2, hs2⟩ := NB.laid w1 root0 hlen0
  have A1 := Lib.hid (allocN w1)
  have S2' := Lib.hid S2
  have L2 := Lib.hid (n2.load hlen0)
  have k1 := keeps_below hb1
  have k2 := keeps_below hb2
  have kw2 := k1.trans k2
  have s1 := k1.size
  have h2 := h.same kw2
  have hm2 := hm.keeps kw2 (fun h => h)
  have hI2 := L.keep hI kw2 (fun _ _ _ h => h)
  clear S2 hsn
  go_wp2_with (first
    | ((with_reducible refine at_ (op := .alloc 183) ?_); refine wpList_val rfl _ (ex_alloc 183 rfl _ A1.out) ?_)
    | ((with_reducible refine here (op := .store 183 (.tmp 9) (.tmp 19)) ?_); refine wpList_store_run rfl 183 _ _ rfl _ _ rfl rfl S2'.out ?_)
    | ((with_reducible refine here (op := .load 183 (.tmp 9)) ?_); refine wpList_load_run rfl 183 _ rfl _ _ rfl L2.out ?_))
  clear A1 S2' L2
  refine (hleaf h2 hm2).mono ?_
  rintro e w3 ⟨gb, kg, rfl, hgb, hg3, hkg, hb3⟩
  have k3 := keeps_below hb3
  have kw3 := kw2.trans k3
  have s3 := k3.size
  have n3 := n2.keep k3 (fun h => h)
  have hm3 := hm2.keeps k3 (fun h => h)
  have hI3 := L.keep hI2 k3 (fun _ _ _ h => h)
  have hgl := hg3.lt
  clear hb3 hb2 hb1 h2 hm2 hI2 n2 h hleaf
  go_wp2_with fail
  refine (settlePC_any p1 L hm3 hP hI3 hmF hrem1).mono ?_
  rintro e w4 ⟨sb, ns, F1, rfl, hsb, hs4, hns, hI4, hF1, hr4, k4⟩
  change MapF secC w4 sb ns (t1 L.nxt P s).2 at hs4
  change L.I F1 (t1 L.nxt P s).1 w4 at hI4
  change L.rem (t1 L.nxt P s).1 _ at hr4
  have hF0n : ∀ b, w.heap.size ≤ b → ¬ F0 b := fun b h1 h2 => by have := hFlt _ h2; omega
  have s4 := k4.size
  have n4 := n3.keep k4 (hF0n _ (by omega))
  have hg4' := hg3.keeps k4 (hF0n _ (by omega))
  have kw4 : Keeps F0 w w4 := (kw3.mono (fun _ _ h => h.elim)).trans k4
  have hsl := hs4.lt
  have hF1lt := L.lt hI4
  have hF1n : ∀ b, w.heap.size ≤ b → (b < w3.heap.size ∨ b = sb) → ¬ F1 b := by
    intro b h1 h2 h3
    rcases hF1 b h3 with h4 | h4
    · exact hF0n b h1 h4
    · omega
  clear n3 hg3 hI3 hm3 hm hI
  go_wp2_with ((with_reducible refine here (op := .range 273 (.tmp 26)) ?_); refine wpList_range_map rfl (.tmp 26) 273 3 rfl Tryz.underlying273 rfl hs4 ?_; intro w5 hr5 k5 hs5)
  have n5 := n4.keep k5 (fun h => h)
  have hg5 := hg4'.keeps k5 (fun h => h)
  rw [← leafH_nil (t1 L.nxt P s).2 (fun i zs hz => (hgs i zs hz).1)] at hg5
  have hI5 := L.keep hI4 k5 (fun _ _ _ h => h)
  have kw5 : Keeps F0 w w5 := kw4.trans (k5.mono (fun _ _ h => h.elim))
  clear n4 hg4' hI4 hs4
  try go_frame
  go_loopw [11] (fun _ wr => ∃ (ss : List Nat) (cnt : Nat), MapR secC wr sb w4.heap.size ns (t1 L.nxt P s).2 ss cnt ∧ MapF nodeC wr gb (kg + ss.length) (leafH g0 (t1 L.nxt P s).2 ss) ∧ NB wr w1.heap.size root0 ∧ L.I F1 (t1 L.nxt P s).1 wr ∧ Keeps F0 w wr ∧ w5.heap.size ≤ wr.heap.size) (fun _ wr => wr.rangeLeft sb w4.heap.size)
  case atStart => exact ⟨[], _, hr5, hg5, n5, hI5, kw5, Nat.le_refl _⟩
  case round =>
    obtain ⟨ss, cnt, hr, hg, hn, hIr, hk, hsz⟩ := hrel
    go_wp2_with ((with_reducible refine here (op := .next (.tmp 27) false) ?_); refine wpList_next_map rfl (.tmp 27) rfl rfl hr ?_ ?_)
    · intro hperm
      rw [h1k.out] at hperm
      have hgL : MapF nodeC wr gb (kg + ss.length) (t1L L.nxt g0 P s) := by
        have := leafH_perm g0 (t1 L.nxt P s).2 hperm
        rw [this] at hg
        exact hg
      have hF1r := hF1n gb (by omega) (.inl (by omega))
      have hssl := hr.len_le
      clear hr hg
      go_wp2_with fail
      refine (settleNC_any p1 L hgL hLok hIr hF1r hr4).mono ?_
      rintro e w6 ⟨sb2, ns2, F2, rfl, hsb2, hs6, hns2, hI6, hF2, hr6, k6⟩
      change MapF secC w6 sb2 ns2 (t2 L.nxt g0 P s).2 at hs6
      change L.I F2 (t2 L.nxt g0 P s).1 w6 at hI6
      change L.rem (t2 L.nxt g0 P s).1 _ at hr6
      have s6 := k6.size
      have n6 := hn.keep k6 (hF1n _ (by omega) (.inl (by omega)))
      have hF1k : ∀ b, b < w.heap.size → ¬ F0 b → ¬ F1 b := by
        intro b h1 h2 h3
        rcases hF1 b h3 with h4 | h4
        · exact h2 h4
        · omega
      have kw6 : Keeps F0 w w6 := ⟨k6.os.trans hk.os, k6.tape.trans hk.tape, k6.output.trans hk.output, by omega, fun b hb hn => (k6.block b (by have := hk.size; omega) (hF1k b hb hn)).trans (hk.block b hb hn)⟩
      have hF2n : ∀ b, w.heap.size ≤ b → (b < w3.heap.size ∨ b = sb2) → ¬ F2 b := by
        intro b h1 h2 h3
        rcases hF2 b h3 with h4 | h4
        · rcases h2 with h2 | h2
          · exact hF1n b h1 (.inl h2) h4
          · have := L.lt hIr _ h4
            omega
        · rcases h2 with h2 | h2 <;> omega
      have hsl2 := hs6.lt
      clear hgL hIr hn
      go_wp2_with ((with_reducible refine here (op := .range 273 (.tmp 48)) ?_); refine wpList_range_map rfl (.tmp 48) 273 3 rfl Tryz.underlying273 rfl hs6 ?_; intro w7 hr7 k7 hs7)
      have n7 := n6.keep k7 (fun h => h)
      have hI7 := L.keep hI6 k7 (fun _ _ _ h => h)
      have kw7 : Keeps F0 w w7 := kw6.trans (k7.mono (fun _ _ h => h.elim))
      rw [← rootH_nil (t2 L.nxt g0 P s).2 hlen0] at n7
      have hF2lt := L.lt hI6
      clear n6 hI6 hs6
      have h2k := Lib.hid (t2_keys L.nxt g0 P s)
      have h2v : ∀ i v, (t2 L.nxt g0 P s).2 i = some v → 0 ≤ v ∧ v ≤ 65535 := layL_val L.nxt z32 (fun zs => encB zs 32) (t1L L.nxt g0 P s) (t1 L.nxt P s).1 L.rem (fun k x _ _ => encB_len x 32) (fun xs hx => L.down xs hx) (fun xs => L.val xs) (keysF (t1L L.nxt g0 P s)) ((t1 L.nxt P s).1, fun _ => none) _ hr4 (fun i v h => by cases h)
      try go_frame
      go_loopw [15] (fun _ wr => ∃ (ss : List Nat) (cnt : Nat), MapR secC wr sb2 w6.heap.size ns2 (t2 L.nxt g0 P s).2 ss cnt ∧ NB wr w1.heap.size (rootH root0 (t2 L.nxt g0 P s).2 ss) ∧ L.I F2 (t2 L.nxt g0 P s).1 wr ∧ Keeps F0 w wr ∧ w7.heap.size ≤ wr.heap.size) (fun _ wr => wr.rangeLeft sb2 w6.heap.size)
      case atStart => exact ⟨[], _, hr7, n7, hI7, kw7, Nat.le_refl _⟩
      case round =>
        clear hr7 n7 hI7 hr5 hg5 n5 hI5
        obtain ⟨ss2, cnt2, hr2, hn2, hIr2, hk2, hsz2⟩ := hrel
        rename World => wr2
        go_wp2_with ((with_reducible refine here (op := .next (.tmp 49) false) ?_); refine wpList_next_map rfl (.tmp 49) rfl rfl hr2 ?_ ?_)
        · intro hperm2
          rw [h2k.out] at hperm2
          have hRt : rootH root0 (t2 L.nxt g0 P s).2 ss2 = t2R L.nxt root0 g0 P s := rootH_perm root0 (t2 L.nxt g0 P s).2 hperm2
          rw [hRt] at hn2
          have hRl : (t2R L.nxt root0 g0 P s).length = 32 := rootH_len _ _ _
          have hRo : okN (t2R L.nxt root0 g0 P s) = true := rootH_ok _ hr0ok h2v
          have m8 := MapF.made nodeC wr2
          have k8 : Keeps (fun _ => False) wr2 (wr2.alloc (.map #[] 0)) := Keeps.alloc _ _ _
          have n8 := hn2.keep k8 (fun h => h)
          have hI8 := L.keep hIr2 k8 (fun _ _ _ h => h)
          have L8 := Lib.hid (n8.load hRl)
          have hs8 : (wr2.alloc (.map #[] 0)).heap.size = wr2.heap.size + 1 := by simp
          obtain ⟨w9, hup, hm9, hg9, hs9⟩ := m8.put Tryz.underlying271 0 (by omega) (t2R L.nxt root0 g0 P s) (by unfold maxLen; omega)
          rw [oneF_upd] at hm9
          have k9 : Keeps (· = wr2.heap.size) _ w9 := Keeps.grown _ hg9 (fun j hj => by simp only [Option.some.injEq] at hj; omega)
          have hI9 := L.keep hI8 k9 (fun b _ h e => by have := L.lt hIr2 _ h; omega)
          have UP := Lib.hid hup
          have hF29 : ¬ F2 wr2.heap.size := fun h => by have := L.lt hIr2 _ h; omega
          have hr9 : L.rem (t2 L.nxt g0 P s).1 (cntB z32 (oneF (t2R L.nxt root0 g0 P s)) (keysF (oneF (t2R L.nxt root0 g0 P s))) + r) := by rw [oneF_keys]; exact hr6
          have k29 : ∀ b, b < wr2.heap.size → w9.heap[b]? = wr2.heap[b]? := fun b hb => (k9.block b (by omega) (by omega)).trans (k8.block b hb (fun h => h))
          have ho9 := k9.os.trans k8.os
          have ht9 := k9.tape.trans k8.tape
          have hu9 := k9.output.trans k8.output
          clear hup hg9 m8 n8 hI8 k8 k9 hn2 hr2 hRt
          go_wp2_with (first
            | ((with_reducible refine here (op := .load 183 (.tmp 9)) ?_); refine wpList_load_run rfl 183 _ rfl _ _ rfl L8.out ?_)
            | ((with_reducible refine here (op := .insert 271 (.tmp 59) (.const (.int .i64 0)) (.tmp 60)) ?_); refine wpList_insert_runC rfl 271 _ _ _ rfl _ _ _ rfl rfl rfl UP.out ?_))
          have hone : ∀ k x, oneF (t2R L.nxt root0 g0 P s) k = some x → x.length = 32 ∧ okN x = true := by
            intro k x hx
            unfold oneF at hx
            split at hx
            · cases hx; exact ⟨hRl, hRo⟩
            · cases hx
          refine (settleNC_any p1 L hm9 hone hI9 hF29 hr9).mono ?_
          rintro e w10 ⟨sb3, ns3, F3, rfl, hsb3, hs10, hns3, hI10, hF3, hr10, k10⟩
          rw [oneF_keys] at hs10 hI10 hr10
          change MapF secC w10 sb3 ns3 (t3 L.nxt root0 g0 P s).2 at hs10
          change L.I F3 (t3 L.nxt root0 g0 P s).1 w10 at hI10
          change L.rem (t3 L.nxt root0 g0 P s).1 _ at hr10
          have LK := Lib.hid (hs10.look1 Tryz.underlying273 0 (zeroI w10) 0 (by omega))
          go_wp2_with ((with_reducible refine here (op := .lookup 273 (.tmp 63) (.const (.int .i64 0)) false) ?_); refine wpList_lookup_run rfl 273 _ _ false rfl _ _ _ rfl rfl LK.out ?_)
          go_ret
          refine ⟨F3, rfl, hI10, fun b hb => ?_, hr10, ?_⟩
          · rcases hF3 b hb with h | h
            · rcases hF2 b h with h | h
              · rcases hF1 b h with h | h
                · exact .inl h
                · exact .inr (by omega)
              · exact .inr (by have := hk.size; omega)
            · exact .inr (by have := hk2.size; omega)
          · refine ⟨k10.os.trans (ho9.trans hk2.os), k10.tape.trans (ht9.trans hk2.tape), k10.output.trans (hu9.trans hk2.output), by have := hk2.size; have := k10.size; omega, fun b hb hn => ?_⟩
            have := hk2.size
            refine (k10.block b (by omega) (fun h => ?_)).trans ((k29 b (by omega)).trans (hk2.block b hb hn))
            rcases hF2 b h with h | h
            · exact hF1k b hb hn h
            · have := hk.size; omega
        · intro q v w8 cnt' hq hv hnew hr' hlt hk8 hs8 hen
          have hq4 : q < 4 := by
            have : q ∈ keysF (t1L L.nxt g0 P s) := by rw [← h2k.out]; exact keysF_mem.2 ⟨hq, by rw [hv]; rfl⟩
            exact hL4 q (keysF_mem.1 this).2
          have HS := Lib.hid (rootH_snoc root0 (t2 L.nxt g0 P s).2 ss2 q v hv)
          have hrl := rootH_len root0 (t2 L.nxt g0 P s).2 ss2
          have HB := Lib.hid hr2.left_eq
          have n8 := hn2.keep hk8 (by omega)
          have hI8 := L.keep hIr2 hk8 (fun b _ h e => by have := hF2lt _ h; omega)
          have sk2 := hk2.size
          have kw8 : ∀ b, b < wr2.heap.size → b ≠ w6.heap.size → w8.heap[b]? = wr2.heap[b]? := fun b hb hn => hk8.block b hb hn
          have hsw := swith_any (rootH root0 (t2 L.nxt g0 P s).2 ss2) q v w8 hrl (by omega)
          have L8 := Lib.hid (n8.load hrl)
          have hyl : ((rootH root0 (t2 L.nxt g0 P s).2 ss2).set q v).length = 32 := by simpa using hrl
          generalize rootH root0 (t2 L.nxt g0 P s).2 ss2 = row at *
          generalize hpe : secC.enc v = pv at *
          obtain rfl : pv = .int .i64 v := hpe.symm
          clear hn2 hIr2 hv hpe
          go_wp2_with ((with_reducible refine here (op := .load 183 (.tmp 9)) ?_); refine wpList_load_run rfl 183 _ rfl _ _ rfl L8.out ?_)
          refine hsw.mono ?_
          rintro e w9 ⟨rfl, hb9⟩
          have k9 := keeps_below hb9
          have s9 := k9.size
          obtain ⟨S10, n10, k10⟩ := (n8.keep k9 (fun h => h)).store hrl hyl
          have S10' := Lib.hid S10
          generalize w9.setCells w1.heap.size 0 ((row.set q v).map I6) = w10 at *
          have s10 := k10.size
          have hpl := hr'.lt
          have hr10 := hr'.kept (w' := w10) ((k10.block _ (by omega) (by omega)).trans (k9.block _ hpl.1 (fun h => h))) ((k10.block _ (by omega) (by omega)).trans (k9.block _ hpl.2 (fun h => h)))
          have hI10 := L.keep (L.keep hI8 k9 (fun _ _ _ h => h)) k10 (fun b _ h e => hF2n w1.heap.size (by omega) (.inl (by omega)) (e ▸ h))
          have kw10 : Keeps F0 w w10 := ⟨k10.os.trans (k9.os.trans (hk8.os.trans hk2.os)), k10.tape.trans (k9.tape.trans (hk8.tape.trans hk2.tape)), k10.output.trans (k9.output.trans (hk8.output.trans hk2.output)), by omega, fun b hb hn => (k10.block b (by omega) (by omega)).trans ((k9.block b (by omega) (fun h => h)).trans ((kw8 b (by omega) (by omega)).trans (hk2.block b hb hn)))⟩
          clear S10 n8 hI8 hb9 hsw L8
          go_wp2_with ((with_reducible refine here (op := .store 183 (.tmp 9) (.tmp 58)) ?_); refine wpList_store_run rfl 183 _ _ rfl _ _ rfl rfl S10'.out ?_)
          refine ⟨?_, ?measure⟩
          case measure => rw [hr10.left_eq, HB.out]; exact hlt
          repeat apply Exists.intro
          refine ⟨⟨ss2 ++ [q], cnt', hr10, ?_, hI10, kw10, by omega⟩, rfl⟩
          rw [HS.out]
          exact n10
    · intro q v w6 cnt' hq hv hnew hr' hlt hk6 hs6 hen
      have hqP : q ∈ keysF P := by rw [← h1k.out]; exact keysF_mem.2 ⟨hq, by rw [hv]; rfl⟩
      have hz := hg4 q hqP
      have hzl := (hgs _ _ hz).1
      have HS := Lib.hid (leafH_snoc g0 (t1 L.nxt P s).2 ss q _ v hz hv)
      have hsw := swith_any (leafRow (t1 L.nxt P s).2 ss (q / 32) (leafV D root0 (q / 32))) (q % 32) v w6 (leafRow_len _ _ _ _) (by omega)
      have hg6 := hg.keeps hk6 (show ¬ gb = w4.heap.size by omega)
      have n6 := hn.keep hk6 (show ¬ w1.heap.size = w4.heap.size by omega)
      have hI6 := L.keep hIr hk6 (fun b _ h e => by have := hF1lt _ h; omega)
      have kw6 : Keeps F0 w w6 := ⟨hk6.os.trans hk.os, hk6.tape.trans hk.tape, hk6.output.trans hk.output, by have := hk.size; omega, fun b hb hn => (hk6.block b (by have := hk.size; omega) (by have := kw4.size; omega)).trans (hk.block b hb hn)⟩
      have HR := Lib.hid (show leafH g0 (t1 L.nxt P s).2 ss (q / 32) = some (leafRow (t1 L.nxt P s).2 ss (q / 32) (leafV D root0 (q / 32))) by unfold leafH; rw [hz]; rfl)
      have HB := Lib.hid hr.left_eq
      have hss := hr.len_le
      have hrl := leafRow_len (t1 L.nxt P s).2 ss (q / 32) (leafV D root0 (q / 32))
      have hq4 : q / 32 < 4 := by omega
      have hsp := spath_any q hq w6
      have hli : kg + (ss ++ [q]).length = kg + ss.length + 1 := by simp; omega
      have LK := hg6.look1 Tryz.underlying271 z32 (zeroNd w6) (q / 32) (by omega)
      rw [HR.out] at LK
      simp only [Option.getD_some] at LK
      generalize leafRow (t1 L.nxt P s).2 ss (q / 32) (leafV D root0 (q / 32)) = row at *
      generalize hpe : secC.enc v = pv at *
      obtain rfl : pv = .int .i64 v := hpe.symm
      have hq32 : q % 32 < 32 := by omega
      generalize q / 32 = qa at *
      generalize q % 32 = qb at *
      have LK' := Lib.hid LK
      clear hg hn hIr hk LK hr hv hz hzl hpe HR
      go_wp2_with fail
      refine hsp.mono ?_
      rintro e w' ⟨rfl, rfl⟩
      go_wp2_with ((with_reducible refine here (op := .lookup 271 (.tmp 40) (.tmp 41) false) ?_); refine wpList_lookup_run rfl 271 _ _ false rfl _ _ _ rfl rfl LK'.out ?_)
      refine hsw.mono ?_
      rintro e w7 ⟨rfl, hb7⟩
      have k7 := keeps_below hb7
      have s7 := k7.size
      obtain ⟨w8, hup, hg8, hgr8, hs8⟩ := (hg6.keeps k7 (fun h => h)).put Tryz.underlying271 qa (by omega) (row.set qb v) (by unfold maxLen; omega)
      have k8 : Keeps (· = gb) w7 w8 := Keeps.grown _ hgr8 (fun j hj => by simp only [Option.some.injEq] at hj; omega)
      have hpl := hr'.lt
      have hr8 := hr'.kept (w' := w8) ((k8.block _ (by omega) (by omega)).trans (k7.block _ hpl.1 (fun h => h))) ((k8.block _ (by omega) (by omega)).trans (k7.block _ hpl.2 (fun h => h)))
      have n8 := (n6.keep k7 (fun h => h)).keep k8 (by omega)
      have hI8 := L.keep (L.keep hI6 k7 (fun _ _ _ h => h)) k8 (fun b _ h e => hF1n gb (by omega) (.inl (by omega)) (e ▸ h))
      have kw8 : Keeps F0 w w8 := ⟨k8.os.trans (k7.os.trans kw6.os), k8.tape.trans (k7.tape.trans kw6.tape), k8.output.trans (k7.output.trans kw6.output), by have := kw6.size; omega, fun b hb hn => (k8.block b (by have := kw6.size; omega) (by have := kw4.size; omega)).trans ((k7.block b (by have := kw6.size; omega) (fun h => h)).trans (kw6.block b hb hn))⟩
      have UP := Lib.hid hup
      clear hup hgr8 n6 hI6 hg6 hb7
      go_wp2_with ((with_reducible refine here (op := .mapUpdate 271 (.tmp 38) (.tmp 39) (.tmp 45)) ?_); refine wpList_mapUpdate_run rfl 271 _ _ _ rfl _ _ _ rfl rfl rfl UP.out ?_)
      refine ⟨?_, ?measure⟩
      case measure => rw [hr8.left_eq, HB.out]; exact hlt
      repeat apply Exists.intro
      refine ⟨⟨ss ++ [q], cnt', hr8, ?_, n8, hI8, kw8, by omega⟩, rfl⟩
      rw [HS.out, hli]
      exact hg8
end Go.Proofs.YtebecpjecchfoaaGreatDoor
namespace Go.Proofs.YtebecpjecchfoaaGreatDoor
open Go.RowKit Go.Maps

theorem wpList_insert_runB {P : Program} {w w' : World} {ops : Array Oper} {rest : List Oper} {o : Oper} {a : Act} {Q : Exit → Act → World → Prop} (hgd : o.guard = none) (t : TypeId) (x y z : Operand) (ho : o.op = .insert t x y z) (m k v : Value) (hm : a.eval x = m) (hk : a.eval y = k) (hv : a.eval z = v)
    (hrun : (Instr.mapUpdate t m k v).run P w = .ok () w') (h : wpList P ops Q rest (a.put o.dst undef) w') : wpList P ops Q (o :: rest) a w :=
  wpList_plain hgd fun _ hK => by
    unfold Oper.wp execOp
    simp only [ho, hm, hk, hv, Sem.run_bind, hrun, Result.andThen_ok, Sem.run_pure]
    exact hK _ _ h

def NewTopB {σ : Type} {go : Option Addr → Nat → World → (Ending → World → Prop) → Prop} (L : Lay σ go) (root0 : List Int) (g0 : Nat → Option (List Int)) (P : Nat → Option (List UInt8)) (s : σ) (r : Nat) (F : Nat → Prop) (w : World) (e : Ending) (w' : World) : Prop :=
  ∃ F', e = .returned (.int .i64 (tTop L.nxt root0 g0 P s)) ∧ L.I F' (t3 L.nxt root0 g0 P s).1 w' ∧ (∀ k, F' k → F k ∨ w.heap.size ≤ k) ∧ L.rem (t3 L.nxt root0 g0 P s).1 r ∧ Keeps F w w'

set_option maxRecDepth 100000 in
set_option maxHeartbeats 8000000 in
theorem newTopB_at {σ : Type} (p1 p2 : Value) (L : Lay σ (fun A c W Q => Calls Tryz.prog 180 #[.slice A 64 c, p1, p2] W Q)) {w : World} {p lb mb n : Nat} {iv : Value} {D : DSt} (h : DkAt w p lb mb n iv D) (hd : D.down = false) (top : Nat) (ht : top = 0 ∨ top < n)
    (hro : EntOk n (nodeD D top)) {pb nn : Nat} {P : Nat → Option (List UInt8)} (hm : MapF pageC w pb nn P) (hP : ∀ k x, P k = some x → x.length = 64)
    {F0 : Nat → Prop} {s : σ} {r : Nat} (hI : L.I F0 s w) (hmF : ¬ F0 pb) (hrem : L.rem s (cAll L.nxt (nodeD D top) (leafG D (nodeD D top) (keysF P)) P s + r)) :
    Calls Tryz.prog 207 #[.pointer (some ⟨p, 0, none⟩), .int .i64 (top : Int), .map (some pb), .func (.func 180) #[] #[p1, p2]] w (NewTopB L (nodeD D top) (leafG D (nodeD D top) (keysF P)) P s r F0 w) := by
  have hmm := @run_makeMap Tryz.prog
  have hmlt := hm.lt
  have hFlt := L.lt hI
  have hsn := snode_at h top ht hd
  have hlen0 := nodeD_len D top
  have hr0ok := nodeD_ok D top
  have hleaf : ∀ {w' : World}, DkAt w' p lb mb n iv D → MapF pageC w' pb nn P → _ := fun {w'} hd' hm' => leavesOf_at hd' hd (nodeD D top) hlen0 hro hm'
  have hg4 : ∀ q, q ∈ keysF P → _ := fun q hq => leafG_has D (nodeD D top) hq
  have hgs : ∀ i zs, leafG D (nodeD D top) (keysF P) i = some zs → zs.length = 32 ∧ (∀ z ∈ zs, 0 ≤ z ∧ z ≤ 65535) ∧ i < 4 := by
    intro i zs hz
    obtain ⟨rfl, a, ha, rfl⟩ := leafG_some _ _ _ hz
    have := (keysF_mem.1 ha).1
    exact ⟨nodeD_len _ _, nodeD_ok _ _, by omega⟩
  generalize nodeD D top = root0 at *
  generalize hG : leafG D root0 (keysF P) = g0 at *
  unfold cAll at hrem
  have hrem1 : L.rem s (cntB zs64 P (keysF P) + (c2 L.nxt g0 P s + (c3 L.nxt root0 g0 P s + r))) := by
    have e : cntB zs64 P (keysF P) + (c2 L.nxt g0 P s + (c3 L.nxt root0 g0 P s + r)) = c1 P + c2 L.nxt g0 P s + c3 L.nxt root0 g0 P s + r := by unfold c1; omega
    rw [e]; exact hrem
  have h1v : ∀ i v, (t1 L.nxt P s).2 i = some v → 0 ≤ v ∧ v ≤ 65535 := layL_val L.nxt zs64 (fun xs => xs) P s L.rem (fun k x hx _ => hP k x hx) (fun xs hx => L.down xs hx) (fun xs => L.val xs) (keysF P) (s, fun _ => none) _ hrem1 (fun i v h => by cases h)
  have h1k := Lib.hid (t1_keys L.nxt P s)
  have hLok : ∀ i zs, t1L L.nxt g0 P s i = some zs → zs.length = 32 ∧ okN zs = true := by
    intro i zs hz
    unfold t1L leafH at hz
    cases hg : g0 i with
    | none => rw [hg] at hz; cases hz
    | some ys =>
      rw [hg] at hz
      simp only [Option.map_some, Option.some.injEq] at hz
      subst hz
      exact ⟨leafRow_len _ _ _ _, leafRow_ok _ _ (hgs i ys hg).2.1 h1v⟩
  have hL4 : ∀ i, (t1L L.nxt g0 P s i).isSome = true → i < 4 := by
    intro i hz
    unfold t1L leafH at hz
    cases hg : g0 i with
    | none => rw [hg] at hz; cases hz
    | some ys => exact (hgs i ys hg).2.2
  go_enter Tryz.func207, Tryz.ntmps207
  go_wp2_with fail
  refine hsn.mono ?_
  rintro e w1 ⟨rfl, hb1⟩
  obtain ⟨w2, S2, n2, hb2, hs2⟩ := NB.laid w1 root0 hlen0
  have A1 := Lib.hid (allocN w1)
  have S2' := Lib.hid S2
  have L2 := Lib.hid (n2.load hlen0)
  have k1 := keeps_below hb1
  have k2 := keeps_below hb2
  have kw2 := k1.trans k2
  have s1 := k1.size
  have h2 := h.same kw2
  have hm2 := hm.keeps kw2 (fun h => h)
  have hI2 := L.keep hI kw2 (fun _ _ _ h => h)
  clear S2 hsn
  go_wp2_with (first
    | ((with_reducible refine at_ (op := .alloc 183) ?_); refine wpList_val rfl _ (ex_alloc 183 rfl _ A1.out) ?_)
    | ((with_reducible refine here (op := .store 183 (.tmp 9) (.tmp 19)) ?_); refine wpList_store_run rfl 183 _ _ rfl _ _ rfl rfl S2'.out ?_)
    | ((with_reducible refine here (op := .load 183 (.tmp 9)) ?_); refine wpList_load_run rfl 183 _ rfl _ _ rfl L2.out ?_))
  clear A1 S2' L2
  refine (hleaf h2 hm2).mono ?_
  rintro e w3 ⟨gb, kg, rfl, hgb, hg3, hkg, hb3⟩
  have k3 := keeps_below hb3
  have kw3 := kw2.trans k3
  have s3 := k3.size
  have n3 := n2.keep k3 (fun h => h)
  have hm3 := hm2.keeps k3 (fun h => h)
  have hI3 := L.keep hI2 k3 (fun _ _ _ h => h)
  have hgl := hg3.lt
  clear hb3 hb2 hb1 h2 hm2 hI2 n2 h hleaf
  go_wp2_with fail
  refine (settlePB_any p1 p2 L hm3 hP hI3 hmF hrem1).mono ?_
  rintro e w4 ⟨sb, ns, F1, rfl, hsb, hs4, hns, hI4, hF1, hr4, k4⟩
  change MapF secC w4 sb ns (t1 L.nxt P s).2 at hs4
  change L.I F1 (t1 L.nxt P s).1 w4 at hI4
  change L.rem (t1 L.nxt P s).1 _ at hr4
  have hF0n : ∀ b, w.heap.size ≤ b → ¬ F0 b := fun b h1 h2 => by have := hFlt _ h2; omega
  have s4 := k4.size
  have n4 := n3.keep k4 (hF0n _ (by omega))
  have hg4' := hg3.keeps k4 (hF0n _ (by omega))
  have kw4 : Keeps F0 w w4 := (kw3.mono (fun _ _ h => h.elim)).trans k4
  have hsl := hs4.lt
  have hF1lt := L.lt hI4
  have hF1n : ∀ b, w.heap.size ≤ b → (b < w3.heap.size ∨ b = sb) → ¬ F1 b := by
    intro b h1 h2 h3
    rcases hF1 b h3 with h4 | h4
    · exact hF0n b h1 h4
    · omega
  clear n3 hg3 hI3 hm3 hm hI
  go_wp2_with ((with_reducible refine here (op := .range 273 (.tmp 26)) ?_); refine wpList_range_map rfl (.tmp 26) 273 3 rfl Tryz.underlying273 rfl hs4 ?_; intro w5 hr5 k5 hs5)
  have n5 := n4.keep k5 (fun h => h)
  have hg5 := hg4'.keeps k5 (fun h => h)
  rw [← leafH_nil (t1 L.nxt P s).2 (fun i zs hz => (hgs i zs hz).1)] at hg5
  have hI5 := L.keep hI4 k5 (fun _ _ _ h => h)
  have kw5 : Keeps F0 w w5 := kw4.trans (k5.mono (fun _ _ h => h.elim))
  clear n4 hg4' hI4 hs4
  try go_frame
  go_loopw [11] (fun _ wr => ∃ (ss : List Nat) (cnt : Nat), MapR secC wr sb w4.heap.size ns (t1 L.nxt P s).2 ss cnt ∧ MapF nodeC wr gb (kg + ss.length) (leafH g0 (t1 L.nxt P s).2 ss) ∧ NB wr w1.heap.size root0 ∧ L.I F1 (t1 L.nxt P s).1 wr ∧ Keeps F0 w wr ∧ w5.heap.size ≤ wr.heap.size) (fun _ wr => wr.rangeLeft sb w4.heap.size)
  case atStart => exact ⟨[], _, hr5, hg5, n5, hI5, kw5, Nat.le_refl _⟩
  case round =>
    obtain ⟨ss, cnt, hr, hg, hn, hIr, hk, hsz⟩ := hrel
    go_wp2_with ((with_reducible refine here (op := .next (.tmp 27) false) ?_); refine wpList_next_map rfl (.tmp 27) rfl rfl hr ?_ ?_)
    · intro hperm
      rw [h1k.out] at hperm
      have hgL : MapF nodeC wr gb (kg + ss.length) (t1L L.nxt g0 P s) := by
        have := leafH_perm g0 (t1 L.nxt P s).2 hperm
        rw [this] at hg
        exact hg
      have hF1r := hF1n gb (by omega) (.inl (by omega))
      have hssl := hr.len_le
      clear hr hg
      go_wp2_with fail
      refine (settleNB_any p1 p2 L hgL hLok hIr hF1r hr4).mono ?_
      rintro e w6 ⟨sb2, ns2, F2, rfl, hsb2, hs6, hns2, hI6, hF2, hr6, k6⟩
      change MapF secC w6 sb2 ns2 (t2 L.nxt g0 P s).2 at hs6
      change L.I F2 (t2 L.nxt g0 P s).1 w6 at hI6
      change L.rem (t2 L.nxt g0 P s).1 _ at hr6
      have s6 := k6.size
      have n6 := hn.keep k6 (hF1n _ (by omega) (.inl (by omega)))
      have hF1k : ∀ b, b < w.heap.size → ¬ F0 b → ¬ F1 b := by
        intro b h1 h2 h3
        rcases hF1 b h3 with h4 | h4
        · exact h2 h4
        · omega
      have kw6 : Keeps F0 w w6 := ⟨k6.os.trans hk.os, k6.tape.trans hk.tape, k6.output.trans hk.output, by omega, fun b hb hn => (k6.block b (by have := hk.size; omega) (hF1k b hb hn)).trans (hk.block b hb hn)⟩
      have hF2n : ∀ b, w.heap.size ≤ b → (b < w3.heap.size ∨ b = sb2) → ¬ F2 b := by
        intro b h1 h2 h3
        rcases hF2 b h3 with h4 | h4
        · rcases h2 with h2 | h2
          · exact hF1n b h1 (.inl h2) h4
          · have := L.lt hIr _ h4
            omega
        · rcases h2 with h2 | h2 <;> omega
      have hsl2 := hs6.lt
      clear hgL hIr hn
      go_wp2_with ((with_reducible refine here (op := .range 273 (.tmp 48)) ?_); refine wpList_range_map rfl (.tmp 48) 273 3 rfl Tryz.underlying273 rfl hs6 ?_; intro w7 hr7 k7 hs7)
      have n7 := n6.keep k7 (fun h => h)
      have hI7 := L.keep hI6 k7 (fun _ _ _ h => h)
      have kw7 : Keeps F0 w w7 := kw6.trans (k7.mono (fun _ _ h => h.elim))
      rw [← rootH_nil (t2 L.nxt g0 P s).2 hlen0] at n7
      have hF2lt := L.lt hI6
      clear n6 hI6 hs6
      have h2k := Lib.hid (t2_keys L.nxt g0 P s)
      have h2v : ∀ i v, (t2 L.nxt g0 P s).2 i = some v → 0 ≤ v ∧ v ≤ 65535 := layL_val L.nxt z32 (fun zs => encB zs 32) (t1L L.nxt g0 P s) (t1 L.nxt P s).1 L.rem (fun k x _ _ => encB_len x 32) (fun xs hx => L.down xs hx) (fun xs => L.val xs) (keysF (t1L L.nxt g0 P s)) ((t1 L.nxt P s).1, fun _ => none) _ hr4 (fun i v h => by cases h)
      try go_frame
      go_loopw [15] (fun _ wr => ∃ (ss : List Nat) (cnt : Nat), MapR secC wr sb2 w6.heap.size ns2 (t2 L.nxt g0 P s).2 ss cnt ∧ NB wr w1.heap.size (rootH root0 (t2 L.nxt g0 P s).2 ss) ∧ L.I F2 (t2 L.nxt g0 P s).1 wr ∧ Keeps F0 w wr ∧ w7.heap.size ≤ wr.heap.size) (fun _ wr => wr.rangeLeft sb2 w6.heap.size)
      case atStart => exact ⟨[], _, hr7, n7, hI7, kw7, Nat.le_refl _⟩
      case round =>
        clear hr7 n7 hI7 hr5 hg5 n5 hI5
        obtain ⟨ss2, cnt2, hr2, hn2, hIr2, hk2, hsz2⟩ := hrel
        rename World => wr2
        go_wp2_with ((with_reducible refine here (op := .next (.tmp 49) false) ?_); refine wpList_next_map rfl (.tmp 49) rfl rfl hr2 ?_ ?_)
        · intro hperm2
          rw [h2k.out] at hperm2
          have hRt : rootH root0 (t2 L.nxt g0 P s).2 ss2 = t2R L.nxt root0 g0 P s := rootH_perm root0 (t2 L.nxt g0 P s).2 hperm2
          rw [hRt] at hn2
          have hRl : (t2R L.nxt root0 g0 P s).length = 32 := rootH_len _ _ _
          have hRo : okN (t2R L.nxt root0 g0 P s) = true := rootH_ok _ hr0ok h2v
          have m8 := MapF.made nodeC wr2
          have k8 : Keeps (fun _ => False) wr2 (wr2.alloc (.map #[] 0)) := Keeps.alloc _ _ _
          have n8 := hn2.keep k8 (fun h => h)
          have hI8 := L.keep hIr2 k8 (fun _ _ _ h => h)
          have L8 := Lib.hid (n8.load hRl)
          have hs8 : (wr2.alloc (.map #[] 0)).heap.size = wr2.heap.size + 1 := by simp
          obtain ⟨w9, hup, hm9, hg9, hs9⟩ := m8.put Tryz.underlying271 0 (by omega) (t2R L.nxt root0 g0 P s) (by unfold maxLen; omega)
          rw [oneF_upd] at hm9
          have k9 : Keeps (· = wr2.heap.size) _ w9 := Keeps.grown _ hg9 (fun j hj => by simp only [Option.some.injEq] at hj; omega)
          have hI9 := L.keep hI8 k9 (fun b _ h e => by have := L.lt hIr2 _ h; omega)
          have UP := Lib.hid hup
          have hF29 : ¬ F2 wr2.heap.size := fun h => by have := L.lt hIr2 _ h; omega
          have hr9 : L.rem (t2 L.nxt g0 P s).1 (cntB z32 (oneF (t2R L.nxt root0 g0 P s)) (keysF (oneF (t2R L.nxt root0 g0 P s))) + r) := by rw [oneF_keys]; exact hr6
          have k29 : ∀ b, b < wr2.heap.size → w9.heap[b]? = wr2.heap[b]? := fun b hb => (k9.block b (by omega) (by omega)).trans (k8.block b hb (fun h => h))
          have ho9 := k9.os.trans k8.os
          have ht9 := k9.tape.trans k8.tape
          have hu9 := k9.output.trans k8.output
          clear hup hg9 m8 n8 hI8 k8 k9 hn2 hr2 hRt
          go_wp2_with (first
            | ((with_reducible refine here (op := .load 183 (.tmp 9)) ?_); refine wpList_load_run rfl 183 _ rfl _ _ rfl L8.out ?_)
            | ((with_reducible refine here (op := .insert 271 (.tmp 59) (.const (.int .i64 0)) (.tmp 60)) ?_); refine wpList_insert_runB rfl 271 _ _ _ rfl _ _ _ rfl rfl rfl UP.out ?_))
          have hone : ∀ k x, oneF (t2R L.nxt root0 g0 P s) k = some x → x.length = 32 ∧ okN x = true := by
            intro k x hx
            unfold oneF at hx
            split at hx
            · cases hx; exact ⟨hRl, hRo⟩
            · cases hx
          refine (settleNB_any p1 p2 L hm9 hone hI9 hF29 hr9).mono ?_
          rintro e w10 ⟨sb3, ns3, F3, rfl, hsb3, hs10, hns3, hI10, hF3, hr10, k10⟩
          rw [oneF_keys] at hs10 hI10 hr10
          change MapF secC w10 sb3 ns3 (t3 L.nxt root0 g0 P s).2 at hs10
          change L.I F3 (t3 L.nxt root0 g0 P s).1 w10 at hI10
          change L.rem (t3 L.nxt root0 g0 P s).1 _ at hr10
          have LK := Lib.hid (hs10.look1 Tryz.underlying273 0 (zeroI w10) 0 (by omega))
          go_wp2_with ((with_reducible refine here (op := .lookup 273 (.tmp 63) (.const (.int .i64 0)) false) ?_); refine wpList_lookup_run rfl 273 _ _ false rfl _ _ _ rfl rfl LK.out ?_)
          go_ret
          refine ⟨F3, rfl, hI10, fun b hb => ?_, hr10, ?_⟩
          · rcases hF3 b hb with h | h
            · rcases hF2 b h with h | h
              · rcases hF1 b h with h | h
                · exact .inl h
                · exact .inr (by omega)
              · exact .inr (by have := hk.size; omega)
            · exact .inr (by have := hk2.size; omega)
          · refine ⟨k10.os.trans (ho9.trans hk2.os), k10.tape.trans (ht9.trans hk2.tape), k10.output.trans (hu9.trans hk2.output), by have := hk2.size; have := k10.size; omega, fun b hb hn => ?_⟩
            have := hk2.size
            refine (k10.block b (by omega) (fun h => ?_)).trans ((k29 b (by omega)).trans (hk2.block b hb hn))
            rcases hF2 b h with h | h
            · exact hF1k b hb hn h
            · have := hk.size; omega
        · intro q v w8 cnt' hq hv hnew hr' hlt hk8 hs8 hen
          have hq4 : q < 4 := by
            have : q ∈ keysF (t1L L.nxt g0 P s) := by rw [← h2k.out]; exact keysF_mem.2 ⟨hq, by rw [hv]; rfl⟩
            exact hL4 q (keysF_mem.1 this).2
          have HS := Lib.hid (rootH_snoc root0 (t2 L.nxt g0 P s).2 ss2 q v hv)
          have hrl := rootH_len root0 (t2 L.nxt g0 P s).2 ss2
          have HB := Lib.hid hr2.left_eq
          have n8 := hn2.keep hk8 (by omega)
          have hI8 := L.keep hIr2 hk8 (fun b _ h e => by have := hF2lt _ h; omega)
          have sk2 := hk2.size
          have kw8 : ∀ b, b < wr2.heap.size → b ≠ w6.heap.size → w8.heap[b]? = wr2.heap[b]? := fun b hb hn => hk8.block b hb hn
          have hsw := swith_any (rootH root0 (t2 L.nxt g0 P s).2 ss2) q v w8 hrl (by omega)
          have L8 := Lib.hid (n8.load hrl)
          have hyl : ((rootH root0 (t2 L.nxt g0 P s).2 ss2).set q v).length = 32 := by simpa using hrl
          generalize rootH root0 (t2 L.nxt g0 P s).2 ss2 = row at *
          generalize hpe : secC.enc v = pv at *
          obtain rfl : pv = .int .i64 v := hpe.symm
          clear hn2 hIr2 hv hpe
          go_wp2_with ((with_reducible refine here (op := .load 183 (.tmp 9)) ?_); refine wpList_load_run rfl 183 _ rfl _ _ rfl L8.out ?_)
          refine hsw.mono ?_
          rintro e w9 ⟨rfl, hb9⟩
          have k9 := keeps_below hb9
          have s9 := k9.size
          obtain ⟨S10, n10, k10⟩ := (n8.keep k9 (fun h => h)).store hrl hyl
          have S10' := Lib.hid S10
          generalize w9.setCells w1.heap.size 0 ((row.set q v).map I6) = w10 at *
          have s10 := k10.size
          have hpl := hr'.lt
          have hr10 := hr'.kept (w' := w10) ((k10.block _ (by omega) (by omega)).trans (k9.block _ hpl.1 (fun h => h))) ((k10.block _ (by omega) (by omega)).trans (k9.block _ hpl.2 (fun h => h)))
          have hI10 := L.keep (L.keep hI8 k9 (fun _ _ _ h => h)) k10 (fun b _ h e => hF2n w1.heap.size (by omega) (.inl (by omega)) (e ▸ h))
          have kw10 : Keeps F0 w w10 := ⟨k10.os.trans (k9.os.trans (hk8.os.trans hk2.os)), k10.tape.trans (k9.tape.trans (hk8.tape.trans hk2.tape)), k10.output.trans (k9.output.trans (hk8.output.trans hk2.output)), by omega, fun b hb hn => (k10.block b (by omega) (by omega)).trans ((k9.block b (by omega) (fun h => h)).trans ((kw8 b (by omega) (by omega)).trans (hk2.block b hb hn)))⟩
          clear S10 n8 hI8 hb9 hsw L8
          go_wp2_with ((with_reducible refine here (op := .store 183 (.tmp 9) (.tmp 58)) ?_); refine wpList_store_run rfl 183 _ _ rfl _ _ rfl rfl S10'.out ?_)
          refine ⟨?_, ?measure⟩
          case measure => rw [hr10.left_eq, HB.out]; exact hlt
          repeat apply Exists.intro
          refine ⟨⟨ss2 ++ [q], cnt', hr10, ?_, hI10, kw10, by omega⟩, rfl⟩
          rw [HS.out]
          exact n10
    · intro q v w6 cnt' hq hv hnew hr' hlt hk6 hs6 hen
      have hqP : q ∈ keysF P := by rw [← h1k.out]; exact keysF_mem.2 ⟨hq, by rw [hv]; rfl⟩
      have hz := hg4 q hqP
      have hzl := (hgs _ _ hz).1
      have HS := Lib.hid (leafH_snoc g0 (t1 L.nxt P s).2 ss q _ v hz hv)
      have hsw := swith_any (leafRow (t1 L.nxt P s).2 ss (q / 32) (leafV D root0 (q / 32))) (q % 32) v w6 (leafRow_len _ _ _ _) (by omega)
      have hg6 := hg.keeps hk6 (show ¬ gb = w4.heap.size by omega)
      have n6 := hn.keep hk6 (show ¬ w1.heap.size = w4.heap.size by omega)
      have hI6 := L.keep hIr hk6 (fun b _ h e => by have := hF1lt _ h; omega)
      have kw6 : Keeps F0 w w6 := ⟨hk6.os.trans hk.os, hk6.tape.trans hk.tape, hk6.output.trans hk.output, by have := hk.size; omega, fun b hb hn => (hk6.block b (by have := hk.size; omega) (by have := kw4.size; omega)).trans (hk.block b hb hn)⟩
      have HR := Lib.hid (show leafH g0 (t1 L.nxt P s).2 ss (q / 32) = some (leafRow (t1 L.nxt P s).2 ss (q / 32) (leafV D root0 (q / 32))) by unfold leafH; rw [hz]; rfl)
      have HB := Lib.hid hr.left_eq
      have hss := hr.len_le
      have hrl := leafRow_len (t1 L.nxt P s).2 ss (q / 32) (leafV D root0 (q / 32))
      have hq4 : q / 32 < 4 := by omega
      have hsp := spath_any q hq w6
      have hli : kg + (ss ++ [q]).length = kg + ss.length + 1 := by simp; omega
      have LK := hg6.look1 Tryz.underlying271 z32 (zeroNd w6) (q / 32) (by omega)
      rw [HR.out] at LK
      simp only [Option.getD_some] at LK
      generalize leafRow (t1 L.nxt P s).2 ss (q / 32) (leafV D root0 (q / 32)) = row at *
      generalize hpe : secC.enc v = pv at *
      obtain rfl : pv = .int .i64 v := hpe.symm
      have hq32 : q % 32 < 32 := by omega
      generalize q / 32 = qa at *
      generalize q % 32 = qb at *
      have LK' := Lib.hid LK
      clear hg hn hIr hk LK hr hv hz hzl hpe HR
      go_wp2_with fail
      refine hsp.mono ?_
      rintro e w' ⟨rfl, rfl⟩
      go_wp2_with ((with_reducible refine here (op := .lookup 271 (.tmp 40) (.tmp 41) false) ?_); refine wpList_lookup_run rfl 271 _ _ false rfl _ _ _ rfl rfl LK'.out ?_)
      refine hsw.mono ?_
      rintro e w7 ⟨rfl, hb7⟩
      have k7 := keeps_below hb7
      have s7 := k7.size
      obtain ⟨w8, hup, hg8, hgr8, hs8⟩ := (hg6.keeps k7 (fun h => h)).put Tryz.underlying271 qa (by omega) (row.set qb v) (by unfold maxLen; omega)
      have k8 : Keeps (· = gb) w7 w8 := Keeps.grown _ hgr8 (fun j hj => by simp only [Option.some.injEq] at hj; omega)
      have hpl := hr'.lt
      have hr8 := hr'.kept (w' := w8) ((k8.block _ (by omega) (by omega)).trans (k7.block _ hpl.1 (fun h => h))) ((k8.block _ (by omega) (by omega)).trans (k7.block _ hpl.2 (fun h => h)))
      have n8 := (n6.keep k7 (fun h => h)).keep k8 (by omega)
      have hI8 := L.keep (L.keep hI6 k7 (fun _ _ _ h => h)) k8 (fun b _ h e => hF1n gb (by omega) (.inl (by omega)) (e ▸ h))
      have kw8 : Keeps F0 w w8 := ⟨k8.os.trans (k7.os.trans kw6.os), k8.tape.trans (k7.tape.trans kw6.tape), k8.output.trans (k7.output.trans kw6.output), by have := kw6.size; omega, fun b hb hn => (k8.block b (by have := kw6.size; omega) (by have := kw4.size; omega)).trans ((k7.block b (by have := kw6.size; omega) (fun h => h)).trans (kw6.block b hb hn))⟩
      have UP := Lib.hid hup
      clear hup hgr8 n6 hI6 hg6 hb7
      go_wp2_with ((with_reducible refine here (op := .mapUpdate 271 (.tmp 38) (.tmp 39) (.tmp 45)) ?_); refine wpList_mapUpdate_run rfl 271 _ _ _ rfl _ _ _ rfl rfl rfl UP.out ?_)
      refine ⟨?_, ?measure⟩
      case measure => rw [hr8.left_eq, HB.out]; exact hlt
      repeat apply Exists.intro
      refine ⟨⟨ss ++ [q], cnt', hr8, ?_, n8, hI8, kw8, by omega⟩, rfl⟩
      rw [HS.out, hli]
      exact hg8
end Go.Proofs.YtebecpjecchfoaaGreatDoor
