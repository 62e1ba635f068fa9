/-
  Merged by wip/tools/merge.py: ShRebC ShRebB
-/
import Derived.Test.YtebecpjecchfoaaGreatDoorGShT
import Derived.Test.YtebecpjecchfoaaGreatDoorShRebV
namespace Go.Proofs.YtebecpjecchfoaaGreatDoor
open Go.RowKit Go.Maps

def RebC {σ : Type} {go : Option Addr → Nat → World → (Ending → World → Prop) → Prop} (L : Lay σ go) (D : DSt) (top : Nat) (E : Int) (l : List ChV) (s : σ) (F : Nat → Prop) (w : World) (e : Ending) (w' : World) : Prop :=
  e = .returned (.tuple #[.int .i64 (rebV L.nxt D top E l s).1, .int .i64 (rebV L.nxt D top E l s).2.1]) ∧ (∃ F', L.I F' (rebV L.nxt D top E l s).2.2 w' ∧ ∀ k, F' k → F k ∨ w.heap.size ≤ k) ∧ Keeps F w w'

theorem rebC_err {σ : Type} {go : Option Addr → Nat → World → (Ending → World → Prop) → Prop} {L : Lay σ go} {D : DSt} {top : Nat} {E : Int} {l : List ChV} {s : σ} {F : Nat → Prop} {w w' : World} (E' : Int) (hv : rebV L.nxt D top E l s = (0, E', s)) (hI : L.I F s w) (k : Keeps (fun _ => False) w w') :
    RebC L D top E l s F w (.returned (.tuple #[.int .i64 0, .int .i64 E'])) w' := by
  unfold RebC
  rw [hv]
  exact ⟨rfl, ⟨F, L.keep hI k (fun _ _ _ h => h), fun k h => .inl h⟩, k.mono fun _ _ h => h.elim⟩

set_option maxRecDepth 100000 in
set_option maxHeartbeats 4000000 in
theorem rebuildC_at {σ : Type} (p1 : Value) (L : Lay σ (fun A c W Q => Calls Tryz.prog 204 #[.slice A 64 c, p1] W Q)) {w : World} {p lb mb n : Nat} {iv : Value} {D : DSt} (h : DkAt w p lb mb n iv D) (hd : D.down = false) (top : Int) (t : Nat) {E : Int}
    (hreach : ∀ {w' : World}, DkAt w' p lb mb n iv D → Calls Tryz.prog 168 #[.pointer (some ⟨p, 0, none⟩), .int .i64 top] w' fun e w'' => (∃ v, e = .returned (.tuple #[v, .int .i64 E])) ∧ Below w'.heap.size w' w'')
    (htop : E = 0 → top = t ∧ (t = 0 ∨ t < n) ∧ EntOk n (nodeD D t)) (A : Option Addr) (l : List ChV) (c : Nat) (hl : CR w w.heap.size A l) (hll : l.length ≤ 4398046511104)
    {F0 : Nat → Prop} {s : σ} (hI : L.I F0 s w)
    (hrem : (∀ a ∈ l, a.good) → E = 0 → keysF (latestF l) ≠ [] → L.rem s (cAll L.nxt (nodeD D t) (leafG D (nodeD D t) (keysF (latestF l))) (latestF l) s + 0)) :
    Calls Tryz.prog 179 #[.pointer (some ⟨p, 0, none⟩), .int .i64 top, .slice A l.length c, .func (.func 204) #[] #[p1]] w (RebC L D t E l s F0 w) := by
  have hmf : ∀ (fn : Fn) (first cap : Array Value) (w : World), (Instr.makeFunc fn first cap).run Tryz.prog w = .ok (.func fn first cap) w := fun _ _ _ _ => rfl
  have k0 := rebW_keeps w
  have s0 := rebW_size w
  have e0 := rebW_0 w
  have e1 := rebW_1 w
  have hFlt := L.lt hI
  have hll0 := hl.keep (w' := rebW w) (fun q hq => k0.cell q.block q.off hq (fun h => h) |> fun hh => by
    have := World.cell?_of_block (w := w) (w' := rebW w) (a := q) (k0.block q.block hq (fun h => h))
    exact this)
  have hlat := latest_any A l c (rebW w) (hll0.more (by omega)) hll
  clear hl hll0
  go_enter_defers Tryz.func179, Tryz.ntmps179
  go_wp2_with fail
  change Calls Tryz.prog 206 _ (rebW w) _
  refine hlat.mono ?_
  clear hlat
  generalize rebW w = w1 at *
  rintro e w2 ⟨hb2, ⟨hgood, pb, nn, rfl, hpb, hP, hnn⟩ | ⟨hbad, rfl⟩⟩
  · have k2 := keeps_below hb2
    have s2 := k2.size
    have e02 := (k2.block _ (by omega) (fun h => h)).trans e0
    have e12 := (k2.block _ (by omega) (fun h => h)).trans e1
    have kw2 := k0.trans k2
    obtain ⟨c02, z02⟩ := cell1 e02
    obtain ⟨c12, z12⟩ := cell1 e12
    have hP2 : ∀ (v : Value), MapF pageC (w2.setCell ⟨w.heap.size + 1, 0, none⟩ v) pb nn (latestF l) := fun v => hP.setCell _ _ (by show pb ≠ w.heap.size + 1; omega)
    clear hb2 k2 e0 e1
    go_wp2_with fail
    refine (demand_ok _).mono ?_
    rintro e w' ⟨rfl, rfl⟩
    have kw3 := kw2.setNew (b := w.heap.size + 1) (by omega) (.int .i64 0)
    have e03 := (set1_ne (b := w.heap.size + 1) (b' := w.heap.size) (.int .i64 0) (by omega)).trans e02
    have e13 := set1 e12 (.int .i64 0)
    have hP3 := hP2 (.int .i64 0)
    have s3 := size_set w2 ⟨w.heap.size + 1, 0, none⟩ (.int .i64 0)
    clear e02 e12 c02 z02 c12 z12 kw2 hP hP2 k0
    generalize w2.setCell ⟨w.heap.size + 1, 0, none⟩ (.int .i64 0) = w3 at *
    go_wp2_with fail
    refine (hreach (h.same kw3)).mono ?_
    rintro e w4 ⟨⟨v, rfl⟩, hb4⟩
    have k4 := keeps_below hb4
    have s4 := k4.size
    have e04 := (k4.block _ (by omega) (fun h => h)).trans e03
    have e14 := (k4.block _ (by omega) (fun h => h)).trans e13
    have kw4 := kw3.trans k4
    have hP4 := hP3.keeps k4 (fun h => h)
    obtain ⟨c14, z14⟩ := cell1 e14
    have kw5 := kw4.setNew (b := w.heap.size + 1) (by omega) (.int .i64 E)
    have e05 := (set1_ne (b := w.heap.size + 1) (b' := w.heap.size) (.int .i64 E) (by omega)).trans e04
    have e15 := set1 e14 (.int .i64 E)
    have hP5 := hP4.setCell ⟨w.heap.size + 1, 0, none⟩ (.int .i64 E) (by show pb ≠ w.heap.size + 1; omega)
    have s5 := size_set w4 ⟨w.heap.size + 1, 0, none⟩ (.int .i64 E)
    clear hreach hb4 k4 e03 e13 kw3 hP3 e04 e14 kw4 hP4
    go_wp2_with fail
    clear c14 z14
    generalize w4.setCell ⟨w.heap.size + 1, 0, none⟩ (.int .i64 E) = w5 at *
    obtain ⟨c05, z05⟩ := cell1 e05
    obtain ⟨c15, z15⟩ := cell1 e15
    by_cases hE : E = 0
    · subst hE
      obtain ⟨rfl, ht, hro⟩ := htop rfl
      refine (demand_ok _).mono ?_
      rintro e w' ⟨rfl, rfl⟩
      have hlen := fun ty => hP5.len Tryz.underlying252 ty
      by_cases hk : keysF (latestF l) = []
      · have HV := Lib.hid (rebV_none L.nxt D t s hgood hk)
        have hk0 : (((keysF (latestF l)).length : Nat) : Int) = 0 := by rw [hk]; rfl
        have w6 := kw5.setNew (b := w.heap.size) (by omega) (.int .i64 (t : Int))
        have hg := (set1_ne (b := w.heap.size) (b' := w.heap.size + 1) (.int .i64 (t : Int)) (by omega)).trans e15
        obtain ⟨c16, z16⟩ := cell1 hg
        have e06 := set1 e05 (.int .i64 (t : Int))
        have kw7 := (kw5.setNew (b := w.heap.size) (by omega) (.int .i64 (t : Int))).setNew (b := w.heap.size + 1) (by omega) (.int .i64 0)
        have c07 := (cell1 ((set1_ne (b := w.heap.size + 1) (b' := w.heap.size) (.int .i64 0) (by omega)).trans e06)).1
        have c17 := (cell1 (set1 hg (.int .i64 0))).1
        clear e05 e15 hg e06 c15 z15
        go_wp2_with fail
        refine leaves_cons (f := 205) (args := #[.pointer (some ⟨w.heap.size, 0, none⟩), .pointer (some ⟨w.heap.size + 1, 0, none⟩)]) (by simp) (by simp [go_sem]) ?_
        refine (scatch_idle ⟨w.heap.size, 0, none⟩ ⟨w.heap.size + 1, 0, none⟩ _).mono ?_
        rintro e u' w'' ⟨rfl, rfl, rfl⟩
        have hfin : RebC L D t 0 l s F0 w (.returned (.tuple #[.int .i64 (t : Int), .int .i64 0])) ((w5.setCell ⟨w.heap.size, 0, none⟩ (.int .i64 (t : Int))).setCell ⟨w.heap.size + 1, 0, none⟩ (.int .i64 0)) := by
          unfold RebC
          rw [HV.out]
          exact ⟨rfl, ⟨F0, L.keep hI kw7 (fun _ _ _ h => h), fun k h => .inl h⟩, kw7.mono fun _ _ h => h.elim⟩
        generalize ((w5.setCell ⟨w.heap.size, 0, none⟩ (.int .i64 (t : Int))).setCell ⟨w.heap.size + 1, 0, none⟩ (.int .i64 0)) = w7 at *
        simp [Leaves, settle, results, Tryz.results179, go_sem, c07, c17]
        exact hfin
      · have hrem := hrem hgood rfl hk
        have HV := Lib.hid (rebV_some L.nxt D t s hgood hk)
        have hk0 : ((((keysF (latestF l)).length : Nat) : Int) == 0) = false := by
          have : (keysF (latestF l)).length ≠ 0 := fun e => hk (List.eq_nil_of_length_eq_zero e)
          simp; omega
        have hI5 := L.keep hI kw5 (fun _ _ _ h => h)
        have hmF : ¬ F0 pb := fun h => by have := hFlt _ h; omega
        have htopC := newTopC_at p1 L (h.same kw5) hd t ht hro hP5 (fun k x hx => latestF_len hgood hx) hI5 hmF hrem
        have HG := Lib.hid hgood
        clear hk hgood hI hP5 h hI5 hro
        go_wp2_with fail
        refine htopC.mono ?_
        clear htopC
        rintro e w6 ⟨F', rfl, hI6, hF6, _, k6⟩
        have s6 := k6.size
        have hn0 : ¬ F0 w.heap.size := fun h => by have := hFlt _ h; omega
        have hn1 : ¬ F0 (w.heap.size + 1) := fun h => by have := hFlt _ h; omega
        have e06 := (k6.block _ (by omega) hn0).trans e05
        have e16 := (k6.block _ (by omega) hn1).trans e15
        obtain ⟨c06, z06⟩ := cell1 e06
        generalize tTop L.nxt (nodeD D t) (leafG D (nodeD D t) (keysF (latestF l))) (latestF l) s = tt at *
        generalize (t3 L.nxt (nodeD D t) (leafG D (nodeD D t) (keysF (latestF l))) (latestF l) s).1 = ss at *
        have hg := (set1_ne (b := w.heap.size) (b' := w.heap.size + 1) (.int .i64 tt) (by omega)).trans e16
        obtain ⟨c16, z16⟩ := cell1 hg
        have e07 := set1 e06 (.int .i64 tt)
        have c07 := (cell1 ((set1_ne (b := w.heap.size + 1) (b' := w.heap.size) (.int .i64 0) (by omega)).trans e07)).1
        have c17 := (cell1 (set1 hg (.int .i64 0))).1
        have kk : Keeps (fun k => k = w.heap.size ∨ k = w.heap.size + 1) w6 ((w6.setCell ⟨w.heap.size, 0, none⟩ (.int .i64 tt)).setCell ⟨w.heap.size + 1, 0, none⟩ (.int .i64 0)) :=
          (Keeps.setCell (fun k => k = w.heap.size ∨ k = w.heap.size + 1) _ _ _ (.inl rfl)).trans (Keeps.setCell (fun k => k = w.heap.size ∨ k = w.heap.size + 1) _ _ _ (.inr rfl))
        have hFn : ∀ b, w.heap.size ≤ b → b < w5.heap.size → ¬ F' b := by
          intro b h1 h2 h3
          rcases hF6 b h3 with h4 | h4
          · have := hFlt _ h4; omega
          · omega
        clear e05 e15 hg e06 e16 c05 z05 c15 z15
        go_wp2_with fail
        refine leaves_cons (f := 205) (args := #[.pointer (some ⟨w.heap.size, 0, none⟩), .pointer (some ⟨w.heap.size + 1, 0, none⟩)]) (by simp) (by simp [go_sem]) ?_
        refine (scatch_idle ⟨w.heap.size, 0, none⟩ ⟨w.heap.size + 1, 0, none⟩ _).mono ?_
        rintro e u' w'' ⟨rfl, rfl, rfl⟩
        have hfin : RebC L D t 0 l s F0 w (.returned (.tuple #[.int .i64 tt, .int .i64 0])) ((w6.setCell ⟨w.heap.size, 0, none⟩ (.int .i64 tt)).setCell ⟨w.heap.size + 1, 0, none⟩ (.int .i64 0)) := by
          unfold RebC
          rw [HV.out]
          refine ⟨rfl, ⟨F', L.keep hI6 kk (fun b _ h e => by rcases e with e | e <;> subst e <;> exact hFn _ (by omega) (by omega) h), fun k h => ?_⟩, ?_⟩
          · rcases hF6 k h with h | h
            · exact .inl h
            · exact .inr (by omega)
          · exact ⟨kk.os.trans (k6.os.trans kw5.os), kk.tape.trans (k6.tape.trans kw5.tape), kk.output.trans (k6.output.trans kw5.output), by have := kk.size; omega, fun b hb hn => (kk.block b (by omega) (by omega)).trans ((k6.block b (by omega) hn).trans (kw5.block b hb (fun h => h)))⟩
        generalize ((w6.setCell ⟨w.heap.size, 0, none⟩ (.int .i64 tt)).setCell ⟨w.heap.size + 1, 0, none⟩ (.int .i64 0)) = w7 at *
        simp [Leaves, settle, results, Tryz.results179, go_sem, c07, c17]
        exact hfin
    · have HV := rebV_err L.nxt D t s hgood hE
      refine (demand_bad E hE _).mono ?_
      rintro e w' ⟨rfl, rfl⟩
      refine leaves_cons (f := 205) (args := #[.pointer (some ⟨w.heap.size, 0, none⟩), .pointer (some ⟨w.heap.size + 1, 0, none⟩)]) (by simp) (by simp [go_sem]) ?_
      refine (scatch_panicking w.heap.size _ _ E [] _ c05 c15 z05 z15).mono ?_
      rintro e u' w'' ⟨rfl, rfl, rfl⟩
      have e06 := set1 (w := w5.drew) e05 (.int .i64 0)
      have c06 := (cell1 ((set1_ne (b := w.heap.size + 1) (b' := w.heap.size) (.int .i64 E) (by omega)).trans e06)).1
      have c16 := (cell1 (set1 ((set1_ne (w := w5.drew) (b := w.heap.size) (b' := w.heap.size + 1) (.int .i64 0) (by omega)).trans e15) (.int .i64 E))).1
      have hfin := rebC_err (F := F0) E HV hI ((kw5.drewN.setNew (b := w.heap.size) (by omega) (.int .i64 0)).setNew (b := w.heap.size + 1) (by omega) (.int .i64 E))
      generalize ((w5.drew.setCell ⟨w.heap.size, 0, none⟩ (.int .i64 0)).setCell ⟨w.heap.size + 1, 0, none⟩ (.int .i64 E)) = w7 at *
      simp [Leaves, settle, results, Tryz.results179, go_sem, c06, c16]
      exact hfin
  · have HV := rebV_bad L.nxt D t E s hbad
    have k2 := keeps_below hb2
    have s2 := k2.size
    have e02 := (k2.block _ (by omega) (fun h => h)).trans e0
    have e12 := (k2.block _ (by omega) (fun h => h)).trans e1
    have kw2 := k0.trans k2
    obtain ⟨c02, z02⟩ := cell1 e02
    obtain ⟨c12, z12⟩ := cell1 e12
    have kw3 := kw2.setNew (b := w.heap.size + 1) (by omega) (.int .i64 1)
    have e03 := (set1_ne (b := w.heap.size + 1) (b' := w.heap.size) (.int .i64 1) (by omega)).trans e02
    have e13 := set1 e12 (.int .i64 1)
    have HH := Lib.hid HV
    clear hb2 k2 e0 e1 e02 e12 kw2 HV hbad hrem
    go_wp2_with fail
    clear c12 z12
    generalize w2.setCell ⟨w.heap.size + 1, 0, none⟩ (.int .i64 1) = w3 at *
    obtain ⟨c03, z03⟩ := cell1 e03
    obtain ⟨c13, z13⟩ := cell1 e13
    refine (demand_bad 1 (by decide) _).mono ?_
    rintro e w' ⟨rfl, rfl⟩
    refine leaves_cons (f := 205) (args := #[.pointer (some ⟨w.heap.size, 0, none⟩), .pointer (some ⟨w.heap.size + 1, 0, none⟩)]) (by simp) (by simp [go_sem]) ?_
    refine (scatch_panicking w.heap.size _ _ 1 [] _ c03 c13 z03 z13).mono ?_
    rintro e u' w'' ⟨rfl, rfl, rfl⟩
    have e06 := set1 (w := w3.drew) e03 (.int .i64 0)
    have c06 := (cell1 ((set1_ne (b := w.heap.size + 1) (b' := w.heap.size) (.int .i64 1) (by omega)).trans e06)).1
    have c16 := (cell1 (set1 ((set1_ne (w := w3.drew) (b := w.heap.size) (b' := w.heap.size + 1) (.int .i64 0) (by omega)).trans e13) (.int .i64 1))).1
    have hfin := rebC_err (F := F0) 1 HH.out hI ((kw3.drewN.setNew (b := w.heap.size) (by omega) (.int .i64 0)).setNew (b := w.heap.size + 1) (by omega) (.int .i64 1))
    generalize ((w3.drew.setCell ⟨w.heap.size, 0, none⟩ (.int .i64 0)).setCell ⟨w.heap.size + 1, 0, none⟩ (.int .i64 1)) = w7 at *
    simp [Leaves, settle, results, Tryz.results179, go_sem, c06, c16]
    exact hfin
end Go.Proofs.YtebecpjecchfoaaGreatDoor
namespace Go.Proofs.YtebecpjecchfoaaGreatDoor
open Go.RowKit Go.Maps

def RebB {σ : Type} {go : Option Addr → Nat → World → (Ending → World → Prop) → Prop} (L : Lay σ go) (D : DSt) (top : Nat) (E : Int) (l : List ChV) (s : σ) (F : Nat → Prop) (w : World) (e : Ending) (w' : World) : Prop :=
  e = .returned (.tuple #[.int .i64 (rebV L.nxt D top E l s).1, .int .i64 (rebV L.nxt D top E l s).2.1]) ∧ (∃ F', L.I F' (rebV L.nxt D top E l s).2.2 w' ∧ ∀ k, F' k → F k ∨ w.heap.size ≤ k) ∧ Keeps F w w'

theorem rebB_err {σ : Type} {go : Option Addr → Nat → World → (Ending → World → Prop) → Prop} {L : Lay σ go} {D : DSt} {top : Nat} {E : Int} {l : List ChV} {s : σ} {F : Nat → Prop} {w w' : World} (E' : Int) (hv : rebV L.nxt D top E l s = (0, E', s)) (hI : L.I F s w) (k : Keeps (fun _ => False) w w') :
    RebB L D top E l s F w (.returned (.tuple #[.int .i64 0, .int .i64 E'])) w' := by
  unfold RebB
  rw [hv]
  exact ⟨rfl, ⟨F, L.keep hI k (fun _ _ _ h => h), fun k h => .inl h⟩, k.mono fun _ _ h => h.elim⟩

set_option maxRecDepth 100000 in
set_option maxHeartbeats 4000000 in
theorem rebuildB_at {σ : Type} (p1 p2 : Value) (L : Lay σ (fun A c W Q => Calls Tryz.prog 180 #[.slice A 64 c, p1, p2] W Q)) {w : World} {p lb mb n : Nat} {iv : Value} {D : DSt} (h : DkAt w p lb mb n iv D) (hd : D.down = false) (top : Int) (t : Nat) {E : Int}
    (hreach : ∀ {w' : World}, DkAt w' p lb mb n iv D → Calls Tryz.prog 168 #[.pointer (some ⟨p, 0, none⟩), .int .i64 top] w' fun e w'' => (∃ v, e = .returned (.tuple #[v, .int .i64 E])) ∧ Below w'.heap.size w' w'')
    (htop : E = 0 → top = t ∧ (t = 0 ∨ t < n) ∧ EntOk n (nodeD D t)) (A : Option Addr) (l : List ChV) (c : Nat) (hl : CR w w.heap.size A l) (hll : l.length ≤ 4398046511104)
    {F0 : Nat → Prop} {s : σ} (hI : L.I F0 s w)
    (hrem : (∀ a ∈ l, a.good) → E = 0 → keysF (latestF l) ≠ [] → L.rem s (cAll L.nxt (nodeD D t) (leafG D (nodeD D t) (keysF (latestF l))) (latestF l) s + 0)) :
    Calls Tryz.prog 179 #[.pointer (some ⟨p, 0, none⟩), .int .i64 top, .slice A l.length c, .func (.func 180) #[] #[p1, p2]] w (RebB L D t E l s F0 w) := by
  have hmf : ∀ (fn : Fn) (first cap : Array Value) (w : World), (Instr.makeFunc fn first cap).run Tryz.prog w = .ok (.func fn first cap) w := fun _ _ _ _ => rfl
  have k0 := rebW_keeps w
  have s0 := rebW_size w
  have e0 := rebW_0 w
  have e1 := rebW_1 w
  have hFlt := L.lt hI
  have hll0 := hl.keep (w' := rebW w) (fun q hq => k0.cell q.block q.off hq (fun h => h) |> fun hh => by
    have := World.cell?_of_block (w := w) (w' := rebW w) (a := q) (k0.block q.block hq (fun h => h))
    exact this)
  have hlat := latest_any A l c (rebW w) (hll0.more (by omega)) hll
  clear hl hll0
  go_enter_defers Tryz.func179, Tryz.ntmps179
  go_wp2_with fail
  change Calls Tryz.prog 206 _ (rebW w) _
  refine hlat.mono ?_
  clear hlat
  generalize rebW w = w1 at *
  rintro e w2 ⟨hb2, ⟨hgood, pb, nn, rfl, hpb, hP, hnn⟩ | ⟨hbad, rfl⟩⟩
  · have k2 := keeps_below hb2
    have s2 := k2.size
    have e02 := (k2.block _ (by omega) (fun h => h)).trans e0
    have e12 := (k2.block _ (by omega) (fun h => h)).trans e1
    have kw2 := k0.trans k2
    obtain ⟨c02, z02⟩ := cell1 e02
    obtain ⟨c12, z12⟩ := cell1 e12
    have hP2 : ∀ (v : Value), MapF pageC (w2.setCell ⟨w.heap.size + 1, 0, none⟩ v) pb nn (latestF l) := fun v => hP.setCell _ _ (by show pb ≠ w.heap.size + 1; omega)
    clear hb2 k2 e0 e1
    go_wp2_with fail
    refine (demand_ok _).mono ?_
    rintro e w' ⟨rfl, rfl⟩
    have kw3 := kw2.setNew (b := w.heap.size + 1) (by omega) (.int .i64 0)
    have e03 := (set1_ne (b := w.heap.size + 1) (b' := w.heap.size) (.int .i64 0) (by omega)).trans e02
    have e13 := set1 e12 (.int .i64 0)
    have hP3 := hP2 (.int .i64 0)
    have s3 := size_set w2 ⟨w.heap.size + 1, 0, none⟩ (.int .i64 0)
    clear e02 e12 c02 z02 c12 z12 kw2 hP hP2 k0
    generalize w2.setCell ⟨w.heap.size + 1, 0, none⟩ (.int .i64 0) = w3 at *
    go_wp2_with fail
    refine (hreach (h.same kw3)).mono ?_
    rintro e w4 ⟨⟨v, rfl⟩, hb4⟩
    have k4 := keeps_below hb4
    have s4 := k4.size
    have e04 := (k4.block _ (by omega) (fun h => h)).trans e03
    have e14 := (k4.block _ (by omega) (fun h => h)).trans e13
    have kw4 := kw3.trans k4
    have hP4 := hP3.keeps k4 (fun h => h)
    obtain ⟨c14, z14⟩ := cell1 e14
    have kw5 := kw4.setNew (b := w.heap.size + 1) (by omega) (.int .i64 E)
    have e05 := (set1_ne (b := w.heap.size + 1) (b' := w.heap.size) (.int .i64 E) (by omega)).trans e04
    have e15 := set1 e14 (.int .i64 E)
    have hP5 := hP4.setCell ⟨w.heap.size + 1, 0, none⟩ (.int .i64 E) (by show pb ≠ w.heap.size + 1; omega)
    have s5 := size_set w4 ⟨w.heap.size + 1, 0, none⟩ (.int .i64 E)
    clear hreach hb4 k4 e03 e13 kw3 hP3 e04 e14 kw4 hP4
    go_wp2_with fail
    clear c14 z14
    generalize w4.setCell ⟨w.heap.size + 1, 0, none⟩ (.int .i64 E) = w5 at *
    obtain ⟨c05, z05⟩ := cell1 e05
    obtain ⟨c15, z15⟩ := cell1 e15
    by_cases hE : E = 0
    · subst hE
      obtain ⟨rfl, ht, hro⟩ := htop rfl
      refine (demand_ok _).mono ?_
      rintro e w' ⟨rfl, rfl⟩
      have hlen := fun ty => hP5.len Tryz.underlying252 ty
      by_cases hk : keysF (latestF l) = []
      · have HV := Lib.hid (rebV_none L.nxt D t s hgood hk)
        have hk0 : (((keysF (latestF l)).length : Nat) : Int) = 0 := by rw [hk]; rfl
        have w6 := kw5.setNew (b := w.heap.size) (by omega) (.int .i64 (t : Int))
        have hg := (set1_ne (b := w.heap.size) (b' := w.heap.size + 1) (.int .i64 (t : Int)) (by omega)).trans e15
        obtain ⟨c16, z16⟩ := cell1 hg
        have e06 := set1 e05 (.int .i64 (t : Int))
        have kw7 := (kw5.setNew (b := w.heap.size) (by omega) (.int .i64 (t : Int))).setNew (b := w.heap.size + 1) (by omega) (.int .i64 0)
        have c07 := (cell1 ((set1_ne (b := w.heap.size + 1) (b' := w.heap.size) (.int .i64 0) (by omega)).trans e06)).1
        have c17 := (cell1 (set1 hg (.int .i64 0))).1
        clear e05 e15 hg e06 c15 z15
        go_wp2_with fail
        refine leaves_cons (f := 205) (args := #[.pointer (some ⟨w.heap.size, 0, none⟩), .pointer (some ⟨w.heap.size + 1, 0, none⟩)]) (by simp) (by simp [go_sem]) ?_
        refine (scatch_idle ⟨w.heap.size, 0, none⟩ ⟨w.heap.size + 1, 0, none⟩ _).mono ?_
        rintro e u' w'' ⟨rfl, rfl, rfl⟩
        have hfin : RebB L D t 0 l s F0 w (.returned (.tuple #[.int .i64 (t : Int), .int .i64 0])) ((w5.setCell ⟨w.heap.size, 0, none⟩ (.int .i64 (t : Int))).setCell ⟨w.heap.size + 1, 0, none⟩ (.int .i64 0)) := by
          unfold RebB
          rw [HV.out]
          exact ⟨rfl, ⟨F0, L.keep hI kw7 (fun _ _ _ h => h), fun k h => .inl h⟩, kw7.mono fun _ _ h => h.elim⟩
        generalize ((w5.setCell ⟨w.heap.size, 0, none⟩ (.int .i64 (t : Int))).setCell ⟨w.heap.size + 1, 0, none⟩ (.int .i64 0)) = w7 at *
        simp [Leaves, settle, results, Tryz.results179, go_sem, c07, c17]
        exact hfin
      · have hrem := hrem hgood rfl hk
        have HV := Lib.hid (rebV_some L.nxt D t s hgood hk)
        have hk0 : ((((keysF (latestF l)).length : Nat) : Int) == 0) = false := by
          have : (keysF (latestF l)).length ≠ 0 := fun e => hk (List.eq_nil_of_length_eq_zero e)
          simp; omega
        have hI5 := L.keep hI kw5 (fun _ _ _ h => h)
        have hmF : ¬ F0 pb := fun h => by have := hFlt _ h; omega
        have htopC := newTopB_at p1 p2 L (h.same kw5) hd t ht hro hP5 (fun k x hx => latestF_len hgood hx) hI5 hmF hrem
        have HG := Lib.hid hgood
        clear hk hgood hI hP5 h hI5 hro
        go_wp2_with fail
        refine htopC.mono ?_
        clear htopC
        rintro e w6 ⟨F', rfl, hI6, hF6, _, k6⟩
        have s6 := k6.size
        have hn0 : ¬ F0 w.heap.size := fun h => by have := hFlt _ h; omega
        have hn1 : ¬ F0 (w.heap.size + 1) := fun h => by have := hFlt _ h; omega
        have e06 := (k6.block _ (by omega) hn0).trans e05
        have e16 := (k6.block _ (by omega) hn1).trans e15
        obtain ⟨c06, z06⟩ := cell1 e06
        generalize tTop L.nxt (nodeD D t) (leafG D (nodeD D t) (keysF (latestF l))) (latestF l) s = tt at *
        generalize (t3 L.nxt (nodeD D t) (leafG D (nodeD D t) (keysF (latestF l))) (latestF l) s).1 = ss at *
        have hg := (set1_ne (b := w.heap.size) (b' := w.heap.size + 1) (.int .i64 tt) (by omega)).trans e16
        obtain ⟨c16, z16⟩ := cell1 hg
        have e07 := set1 e06 (.int .i64 tt)
        have c07 := (cell1 ((set1_ne (b := w.heap.size + 1) (b' := w.heap.size) (.int .i64 0) (by omega)).trans e07)).1
        have c17 := (cell1 (set1 hg (.int .i64 0))).1
        have kk : Keeps (fun k => k = w.heap.size ∨ k = w.heap.size + 1) w6 ((w6.setCell ⟨w.heap.size, 0, none⟩ (.int .i64 tt)).setCell ⟨w.heap.size + 1, 0, none⟩ (.int .i64 0)) :=
          (Keeps.setCell (fun k => k = w.heap.size ∨ k = w.heap.size + 1) _ _ _ (.inl rfl)).trans (Keeps.setCell (fun k => k = w.heap.size ∨ k = w.heap.size + 1) _ _ _ (.inr rfl))
        have hFn : ∀ b, w.heap.size ≤ b → b < w5.heap.size → ¬ F' b := by
          intro b h1 h2 h3
          rcases hF6 b h3 with h4 | h4
          · have := hFlt _ h4; omega
          · omega
        clear e05 e15 hg e06 e16 c05 z05 c15 z15
        go_wp2_with fail
        refine leaves_cons (f := 205) (args := #[.pointer (some ⟨w.heap.size, 0, none⟩), .pointer (some ⟨w.heap.size + 1, 0, none⟩)]) (by simp) (by simp [go_sem]) ?_
        refine (scatch_idle ⟨w.heap.size, 0, none⟩ ⟨w.heap.size + 1, 0, none⟩ _).mono ?_
        rintro e u' w'' ⟨rfl, rfl, rfl⟩
        have hfin : RebB L D t 0 l s F0 w (.returned (.tuple #[.int .i64 tt, .int .i64 0])) ((w6.setCell ⟨w.heap.size, 0, none⟩ (.int .i64 tt)).setCell ⟨w.heap.size + 1, 0, none⟩ (.int .i64 0)) := by
          unfold RebB
          rw [HV.out]
          refine ⟨rfl, ⟨F', L.keep hI6 kk (fun b _ h e => by rcases e with e | e <;> subst e <;> exact hFn _ (by omega) (by omega) h), fun k h => ?_⟩, ?_⟩
          · rcases hF6 k h with h | h
            · exact .inl h
            · exact .inr (by omega)
          · exact ⟨kk.os.trans (k6.os.trans kw5.os), kk.tape.trans (k6.tape.trans kw5.tape), kk.output.trans (k6.output.trans kw5.output), by have := kk.size; omega, fun b hb hn => (kk.block b (by omega) (by omega)).trans ((k6.block b (by omega) hn).trans (kw5.block b hb (fun h => h)))⟩
        generalize ((w6.setCell ⟨w.heap.size, 0, none⟩ (.int .i64 tt)).setCell ⟨w.heap.size + 1, 0, none⟩ (.int .i64 0)) = w7 at *
        simp [Leaves, settle, results, Tryz.results179, go_sem, c07, c17]
        exact hfin
    · have HV := rebV_err L.nxt D t s hgood hE
      refine (demand_bad E hE _).mono ?_
      rintro e w' ⟨rfl, rfl⟩
      refine leaves_cons (f := 205) (args := #[.pointer (some ⟨w.heap.size, 0, none⟩), .pointer (some ⟨w.heap.size + 1, 0, none⟩)]) (by simp) (by simp [go_sem]) ?_
      refine (scatch_panicking w.heap.size _ _ E [] _ c05 c15 z05 z15).mono ?_
      rintro e u' w'' ⟨rfl, rfl, rfl⟩
      have e06 := set1 (w := w5.drew) e05 (.int .i64 0)
      have c06 := (cell1 ((set1_ne (b := w.heap.size + 1) (b' := w.heap.size) (.int .i64 E) (by omega)).trans e06)).1
      have c16 := (cell1 (set1 ((set1_ne (w := w5.drew) (b := w.heap.size) (b' := w.heap.size + 1) (.int .i64 0) (by omega)).trans e15) (.int .i64 E))).1
      have hfin := rebB_err (F := F0) E HV hI ((kw5.drewN.setNew (b := w.heap.size) (by omega) (.int .i64 0)).setNew (b := w.heap.size + 1) (by omega) (.int .i64 E))
      generalize ((w5.drew.setCell ⟨w.heap.size, 0, none⟩ (.int .i64 0)).setCell ⟨w.heap.size + 1, 0, none⟩ (.int .i64 E)) = w7 at *
      simp [Leaves, settle, results, Tryz.results179, go_sem, c06, c16]
      exact hfin
  · have HV := rebV_bad L.nxt D t E s hbad
    have k2 := keeps_below hb2
    have s2 := k2.size
    have e02 := (k2.block _ (by omega) (fun h => h)).trans e0
    have e12 := (k2.block _ (by omega) (fun h => h)).trans e1
    have kw2 := k0.trans k2
    obtain ⟨c02, z02⟩ := cell1 e02
    obtain ⟨c12, z12⟩ := cell1 e12
    have kw3 := kw2.setNew (b := w.heap.size + 1) (by omega) (.int .i64 1)
    have e03 := (set1_ne (b := w.heap.size + 1) (b' := w.heap.size) (.int .i64 1) (by omega)).trans e02
    have e13 := set1 e12 (.int .i64 1)
    have HH := Lib.hid HV
    clear hb2 k2 e0 e1 e02 e12 kw2 HV hbad hrem
    go_wp2_with fail
    clear c12 z12
    generalize w2.setCell ⟨w.heap.size + 1, 0, none⟩ (.int .i64 1) = w3 at *
    obtain ⟨c03, z03⟩ := cell1 e03
    obtain ⟨c13, z13⟩ := cell1 e13
    refine (demand_bad 1 (by decide) _).mono ?_
    rintro e w' ⟨rfl, rfl⟩
    refine leaves_cons (f := 205) (args := #[.pointer (some ⟨w.heap.size, 0, none⟩), .pointer (some ⟨w.heap.size + 1, 0, none⟩)]) (by simp) (by simp [go_sem]) ?_
    refine (scatch_panicking w.heap.size _ _ 1 [] _ c03 c13 z03 z13).mono ?_
    rintro e u' w'' ⟨rfl, rfl, rfl⟩
    have e06 := set1 (w := w3.drew) e03 (.int .i64 0)
    have c06 := (cell1 ((set1_ne (b := w.heap.size + 1) (b' := w.heap.size) (.int .i64 1) (by omega)).trans e06)).1
    have c16 := (cell1 (set1 ((set1_ne (w := w3.drew) (b := w.heap.size) (b' := w.heap.size + 1) (.int .i64 0) (by omega)).trans e13) (.int .i64 1))).1
    have hfin := rebB_err (F := F0) 1 HH.out hI ((kw3.drewN.setNew (b := w.heap.size) (by omega) (.int .i64 0)).setNew (b := w.heap.size + 1) (by omega) (.int .i64 1))
    generalize ((w3.drew.setCell ⟨w.heap.size, 0, none⟩ (.int .i64 0)).setCell ⟨w.heap.size + 1, 0, none⟩ (.int .i64 1)) = w7 at *
    simp [Leaves, settle, results, Tryz.results179, go_sem, c06, c16]
    exact hfin
end Go.Proofs.YtebecpjecchfoaaGreatDoor
