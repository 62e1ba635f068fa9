/-
  When all that waits lasts, the disk is as if it had been flushed; when nothing does, as it was before: for every input the law DiskFates returns true.
  Conditions: none of our own; what the row itself says of its inputs (they can be read as data, each slice within the form's own reach).
-/
import Derived.Test.YtlighekkgcookaaFrame
import Derived.ChangeOld
import Derived.Below
import Derived.Deep.QuietTactic
import Derived.BigQuiet
import Derived.WalkSmall
import Derived.Test.YtlighekkgcookaaAwake2
import Derived.Test.YtlighekkgcookaaActsIn
import Derived.Test.YtlighekkgcookaaTri
import Derived.Test.YtlighekkgcookaaBoth
import Derived.Test.YtlighekkgcookaaStr
namespace Go.Proofs.Ytlighekkgcookaa.diskFates
open Go.ChangeShapes Go.WideShapes Go.ChangeAt Go.RowKit
set_option linter.unusedVariables false

theorem own : ownKnob Try.prog.godebug = none := by kernel_rfl
theorem laidOut : laidOutB Try.prog = true := by kernel_rfl

def wl (l : List ActV) : List (Int × List UInt8) := l.map fun a => (a.n, a.xs)
theorem wl_len (l : List ActV) : (wl l).length = l.length := by simp [wl]
theorem wl_get (l : List ActV) (k : Nat) (h : k < l.length) : (wl l)[k]'(by rw [wl_len]; exact h) = (l[k].n, l[k].xs) := by simp [wl]
theorem buildNone (w : World) : (Instr.build 33 #[(1, .int .i64 (-1))]).run Try.prog w = .ok (agf fNone) w := by kernel_rfl
theorem wpList_build1_run {P : Program} {w w' : World} {ops : Array Oper} {rest : List Oper} {o : Oper} {a : Act} {Q : Exit → Act → World → Prop} (hgd : o.guard = none) (t : TypeId) (x : Operand) (ho : o.op = .build t #[(1, x)]) (u v : Value) (hx : a.eval x = u)
    (hrun : (Instr.build t #[(1, u)]).run P w = .ok v w') (h : wpList P ops Q rest (a.put o.dst v) w') : wpList P ops Q (o :: rest) a w :=
  wpList_plain hgd fun _ hK => by
    unfold Oper.wp execOp
    simp only [ho, Sem.run_bind, List.map_toArray, List.map_cons, List.map_nil, hx, hrun, Result.andThen_ok, Sem.run_pure]
    exact hK _ _ h
/-- Bytes handed back, as a value. -/
def GB (w : World) (L : List UInt8) (u : Value) (w' : World) : Prop := ∃ R c, u = .slice R L.length c ∧ BR w' w'.heap.size R L ∧ Below w.heap.size w w'
theorem gb_of {w : World} {L L' : List UInt8} {fn : FuncId} {args : Array Value} (e : L' = L) (h : Calls Try.prog fn args w (GivesB w L')) : Calls Try.prog fn args w fun e w' => ∃ u, e = .returned u ∧ GB w L u w' := by
  subst e
  refine h.mono ?_
  rintro e w' ⟨R, c, rfl, hr, hb⟩
  exact ⟨_, rfl, R, c, rfl, hr, hb⟩
def MD (w : World) (D : DSt) (u : Value) (w' : World) : Prop := ∃ p, u = .pointer (some ⟨p, 0, none⟩) ∧ Dk w' (fun k => w.heap.size ≤ k) p D ∧ Keeps (fun _ => False) w w'
theorem md_of {w : World} {D : DSt} {fn : FuncId} {args : Array Value} (h : Calls Try.prog fn args w (Made w D)) : Calls Try.prog fn args w fun e w' => ∃ u, e = .returned u ∧ MD w D u w' := by
  refine h.mono ?_
  rintro e w' ⟨p, rfl, hd, hk⟩
  exact ⟨_, rfl, p, rfl, hd, hk⟩

set_option maxHeartbeats 1000000 in
theorem walk (A0 : Option Addr) (x0 : List UInt8) (c0 : Nat) (A1 : Option Addr) (l1 : List ActV) (c1 : Nat) (w : World) (b0 : BR w w.heap.size A0 x0) (l0 : x0.length ≤ 140737488351232) (q0 : x0.length ≤ c0) (o1 : ActsOk w A1 l1) (m1 : l1.length ≤ 1954687338211) :
    Calls Try.prog 7 #[.slice A0 x0.length c0, .slice A1 l1.length c1] w fun e w' => e = .returned (.bool true) ∧ Below w.heap.size w w' := by
  by_cases hbig : 3000 < x0.length
  · go_enter Try.func7, Try.ntmps7
    go_wp2_with fail
    refine (awake_any _).mono ?_
    rintro e w1 ⟨rfl, hb1⟩
    go_wp2_with fail
    go_ret
    exact ⟨rfl, hb1⟩
  · go_enter Try.func7, Try.ntmps7
    go_wp2_with fail
    refine (awake_any _).mono ?_
    rintro e w1 ⟨rfl, hb1⟩
    have ar1 : AR w1 w1.heap.size A1 l1 := by
      have h := o1.ar.below hb1
      intro hn
      obtain ⟨ad, e, hlt, hc⟩ := h hn
      exact ⟨ad, e, Nat.lt_of_lt_of_le hlt hb1.size, hc⟩
    go_wp2_with fail
    refine (few_any A1 l1 c1 w1 ar1 m1).mono ?_
    rintro e w2 ⟨⟨b, rfl⟩, hb2⟩
    have bw2 := hb1.trans (hb2.mono hb1.size)
    clear ar1 hb1 hb2
    cases b
    · go_wp2_with fail
      go_ret
      exact ⟨rfl, bw2⟩
    · have hx2 := (b0.below bw2).more bw2.size
      go_wp2_with fail
      refine (of_any A0 x0 c0 w2 hx2 (by omega) q0).mono ?_
      rintro e w3 ⟨px, rfl, hd3, k3⟩
      have hx3 := k3.br hx2 fun _ _ _ h => h
      go_wp2_with fail
      refine (of_any A0 x0 c0 w3 hx3 (by omega) q0).mono ?_
      rintro e w4 ⟨py, rfl, hd4, k4⟩
      have hx4 := k4.br hx3 fun _ _ _ h => h
      go_wp2_with fail
      refine (of_any A0 x0 c0 w4 hx4 (by omega) q0).mono ?_
      rintro e w5 ⟨pz, rfl, hd5, k5⟩
      have tri := Tri.made hd3 k3 hd4 k4 hd5 k5
      have bB : Below w2.heap.size w2 w5 := ((k3.trans k4).trans k5).toBelow _ (Nat.le_refl _) (fun _ h => h.elim)
      clear hx2 hx3 hx4 hd3 hd4 hd5 k3 k4 k5
      go_wp2_with fail
      go_loopw [38, 9, 40, 41] (fun i _ _ _ wr => ∃ k : Nat, k ≤ l1.length ∧ i = .int .i64 k ∧ Tri wr w2.heap.size (fun _ => False) px py pz (afterW (ofD x0) (wl l1) k) (afterW (ofD x0) (wl l1) k) (afterW (ofD x0) (wl l1) k) ∧ Below w2.heap.size w2 wr) (fun i _ _ _ _ => l1.length - (intOf i).toNat)
      case atStart => exact ⟨0, by omega, rfl, tri, bB⟩
      case round =>
        clear tri bB
        obtain ⟨k, hk, rfl, tri, bB⟩ := hrel
        have hfa := afterW_facts (ofD x0) (wl l1) (On.of x0) rfl rfl k (by rw [wl_len]; exact hk)
        have HFA := Lib.hid hfa
        clear hfa
        have bw := bw2.trans (bB.mono bw2.size)
        by_cases hlt : k < l1.length
        · have HS := Lib.hid (afterW_succ (ofD x0) (wl l1) k (by rw [wl_len]; exact hlt))
          rw [wl_get l1 k hlt] at HS
          obtain ⟨ad, rfl, hlb, d0, d1, d2, d3, d4, d5, d6⟩ := (o1.ar.below bw).at_ hlt
          have hok := o1.ok l1[k] (List.getElem_mem hlt)
          generalize l1[k] = a at *
          have hwB : w2.heap.size ≤ wr.heap.size := bB.size
          go_wp2_with fail
          have bA : Below wr.heap.size wr (wr.alloc (.cells #[.int .i64 a.do_, .int .i64 a.n, .slice a.A a.xs.length a.c, .int .u64 a.f.stay, .int .i64 a.f.torn, .int .i64 a.f.cut, .bool a.f.head] 35)) := (Below.refl _ _).alloc (Nat.le_refl _) _
          have vA := heap_alloc_new wr (.cells #[.int .i64 a.do_, .int .i64 a.n, .slice a.A a.xs.length a.c, .int .u64 a.f.stay, .int .i64 a.f.torn, .int .i64 a.f.cut, .bool a.f.head] 35)
          have triA := tri.mark bA (fun k => k = wr.heap.size) (fun k e => by omega)
          have bBA := bB.trans (bA.mono bB.size)
          have hXA : wr.heap.size < (wr.alloc (.cells #[.int .i64 a.do_, .int .i64 a.n, .slice a.A a.xs.length a.c, .int .u64 a.f.stay, .int .i64 a.f.torn, .int .i64 a.f.cut, .bool a.f.head] 35)).heap.size := by simp
          generalize wr.alloc (.cells #[.int .i64 a.do_, .int .i64 a.n, .slice a.A a.xs.length a.c, .int .u64 a.f.stay, .int .i64 a.f.torn, .int .i64 a.f.cut, .bool a.f.head] 35) = wA at *
          generalize wr.heap.size = vb at *
          clear tri bA bB d0 d1 d2 d3 d4 d5 d6 hlb bw
          have hbr : ∀ {W : World}, Below w2.heap.size w2 W → BR W W.heap.size a.A a.xs := fun {W} h => by
            have h' := bw2.trans (h.mono bw2.size)
            exact (hok.br.below h').more h'.size
          have hAp : ∀ (F : Nat → Prop), (∀ k, F k → w2.heap.size ≤ k) → ∀ ad, a.A = some ad → a.xs ≠ [] → ¬ F ad.block := fun F hF ad e hne hf => by
            obtain ⟨ad', e', hlt', _⟩ := hok.br hne
            rw [e] at e'; cases e'
            have := hF _ hf
            have := bw2.size
            omega
          have HBR : Hid (∀ {W : World}, Below w2.heap.size w2 W → BR W W.heap.size a.A a.xs) := @hbr
          have HAP := Lib.hid hAp
          clear hbr hAp hok
          generalize hDe : afterW (ofD x0) (wl l1) k = D at *
          have HDE := Lib.hid hDe
          clear hDe
          have hQ : D.Q.length < 1954687338212 := by have := HFA.out.2.1; omega
          have ha : D.acts ≤ 1000000000000000 := by have := HFA.out.2.2.1; omega
          obtain ⟨F7, hd7, hF7, upd7⟩ := triA.upd bBA.size (fun k e => by subst e; exact hXA)
          refine (write_any hd7 a.n a.A a.xs a.c (HBR.out bBA) (HAP.out _ hF7) hQ ha).mono ?_
          rintro e w7 ⟨rfl, hd7', k7⟩
          obtain ⟨tri7', bB7', hv7⟩ := upd7 w7 _ hd7' k7
          have tri7 := tri7'.rot
          have bB7 := bBA.trans (bB7'.mono (Nat.le_refl _))
          have v7 := (hv7 vb rfl).trans vA
          have hX7 : vb < w7.heap.size := (Array.getElem?_eq_some_iff.1 v7).1
          clear triA bBA hd7 hF7 upd7 hd7' k7 tri7' bB7' hv7 vA hXA
          have c1_7 : w7.cell? ⟨vb, 1, none⟩ = some (.int .i64 a.n) := by rw [cell_of_row _ _ _ _ _ _ v7]; rfl
          have c2_7 : w7.cell? ⟨vb, 2, none⟩ = some (.slice a.A a.xs.length a.c) := by rw [cell_of_row _ _ _ _ _ _ v7]; rfl
          go_wp2_with fail
          clear c1_7 c2_7
          obtain ⟨F8, hd8, hF8, upd8⟩ := tri7.upd bB7.size (fun k e => by subst e; exact hX7)
          refine (write_any hd8 a.n a.A a.xs a.c (HBR.out bB7) (HAP.out _ hF8) hQ ha).mono ?_
          rintro e w8 ⟨rfl, hd8', k8⟩
          obtain ⟨tri8', bB8', hv8⟩ := upd8 w8 _ hd8' k8
          have tri8 := tri8'.rot
          have bB8 := bB7.trans (bB8'.mono (Nat.le_refl _))
          have v8 := (hv8 vb rfl).trans v7
          have hX8 : vb < w8.heap.size := (Array.getElem?_eq_some_iff.1 v8).1
          clear tri7 bB7 hd8 hF8 upd8 hd8' k8 tri8' bB8' hv8 v7 hX7
          have c1_8 : w8.cell? ⟨vb, 1, none⟩ = some (.int .i64 a.n) := by rw [cell_of_row _ _ _ _ _ _ v8]; rfl
          have c2_8 : w8.cell? ⟨vb, 2, none⟩ = some (.slice a.A a.xs.length a.c) := by rw [cell_of_row _ _ _ _ _ _ v8]; rfl
          go_wp2_with fail
          clear c1_8 c2_8
          obtain ⟨F9, hd9, hF9, upd9⟩ := tri8.upd bB8.size (fun k e => by subst e; exact hX8)
          refine (write_any hd9 a.n a.A a.xs a.c (HBR.out bB8) (HAP.out _ hF9) hQ ha).mono ?_
          rintro e w9 ⟨rfl, hd9', k9⟩
          obtain ⟨tri9', bB9', hv9⟩ := upd9 w9 _ hd9' k9
          have tri9 := tri9'.rot
          have bB9 := bB8.trans (bB9'.mono (Nat.le_refl _))
          have v9 := (hv9 vb rfl).trans v8
          have hX9 : vb < w9.heap.size := (Array.getElem?_eq_some_iff.1 v9).1
          clear tri8 bB8 hd9 hF9 upd9 hd9' k9 tri9' bB9' hv9 v8 hX8
          have TRI : Hid (Tri w9 w2.heap.size (fun _ => False) px py pz (afterW (ofD x0) (wl l1) (k + 1)) (afterW (ofD x0) (wl l1) (k + 1)) (afterW (ofD x0) (wl l1) (k + 1))) := by
            show Tri _ _ _ _ _ _ _ _ _
            rw [HS.out]; exact tri9.free
          clear v9 hX9 tri9 hQ ha
          generalize D.writeErr a.n a.xs = er at *
          go_wp2_with fail
          go_roundw
          case rel => exact ⟨k + 1, by omega, by go_num, TRI.out, bB9⟩
          case measure => simp [intOf]; omega
        · obtain rfl : k = l1.length := by omega
          generalize hDe : afterW (ofD x0) (wl l1) l1.length = D at *
          have hon := HFA.out.1
          have hQ : D.Q.length ≤ 1954687338212 := by have := HFA.out.2.1; omega
          have ha : D.acts ≤ 1000000000000000 := by have := HFA.out.2.2.1; omega
          have HDL : Hid (D.L = (ofD x0).L) := HFA.out.2.2.2
          have HON := Lib.hid hon
          clear hDe HFA hon
          obtain ⟨F6, hd6, hF6, upd6⟩ := tri.upd bB.size (fun k e => e.elim)
          go_wp2_with (((with_reducible refine here (op := .build 33 #[(0, .const (.int .u64 18446744073709551615)), (1, .const (.int .i64 (-1)))]) ?_); refine wpList_build2_run rfl 33 _ _ rfl _ _ _ rfl rfl (buildAll _) ?_))
          refine (restart_any hd6 fAll fAll_ok hQ).mono ?_
          rintro e w6 ⟨rfl, hd6', k6⟩
          obtain ⟨tri6, bB6', -⟩ := upd6 w6 _ hd6' k6
          have bB6 := bB.trans (bB6'.mono (Nat.le_refl _))
          clear tri bB hd6 hF6 upd6 hd6' k6 bB6' bw
          obtain ⟨F7, hd7, hF7, upd7⟩ := tri6.rot.upd bB6.size (fun k e => e.elim)
          go_wp2_with fail
          refine (flush_any hd7 hQ ha).mono ?_
          rintro e w7 ⟨rfl, hd7', k7⟩
          obtain ⟨tri7, bB7', -⟩ := upd7 w7 _ hd7' k7
          have bB7 := bB6.trans (bB7'.mono (Nat.le_refl _))
          clear tri6 bB6 hd7 hF7 upd7 hd7' k7 bB7'
          generalize D.flushErr = er at *
          obtain ⟨F8, hd8, hF8, upd8⟩ := tri7.rot.upd bB7.size (fun k e => e.elim)
          go_wp2_with (((with_reducible refine here (op := .build 33 #[(1, .const (.int .i64 (-1)))]) ?_); refine wpList_build1_run rfl 33 _ rfl _ _ rfl (buildNone _) ?_))
          refine (restart_any hd8 fNone fNone_ok hQ).mono ?_
          rintro e w8 ⟨rfl, hd8', k8⟩
          obtain ⟨tri8, bB8', -⟩ := upd8 w8 _ hd8' k8
          have bB8 := bB7.trans (bB8'.mono (Nat.le_refl _))
          clear tri7 bB7 hd8 hF8 upd8 hd8' k8 bB8' hQ ha
          go_wp2_with fail
          have hLx : D.flush.L = (D.restart fAll).L := on_flush HON.out
          have hLz : (D.restart fNone).L = (ofD x0).L := (restart_none D).trans HDL.out
          have HLX := Lib.hid hLx
          have HLZ := Lib.hid hLz
          clear hLx hLz
          refine wp_region_any (by kernel_rfl) ?_
          change wpAny _ _ _ _ _ _ _ (World.drew w8)
          have bd : Below w8.heap.size w8 w8.drew := ⟨rfl, rfl, rfl, Nat.le_refl _, fun _ _ => rfl⟩
          have triD := tri8.mark bd (fun _ => False) (fun _ h => h.elim)
          have bD := bB8.trans (bd.mono bB8.size)
          clear tri8 bB8 bd
          generalize w8.drew = w9 at *
          generalize hLe : (D.restart fAll).L = L at *
          have HLE := Lib.hid hLe
          clear hLe
          refine wpAny_take (oi := ⟨_, _, _, _, _, _⟩) (i := 0) (v := .pointer (some ⟨px, 0, none⟩)) rfl (by kernel_rfl) (by kernel_rfl) (by kernel_rfl) (fun _ _ _ h => h) (Or.inl ⟨by rfl, fun _ => rfl⟩) ?_
          refine wpAny_take (oi := ⟨_, _, _, _, _, _⟩) (i := 3) (v := .pointer (some ⟨py, 0, none⟩)) rfl (by kernel_rfl) (by kernel_rfl) (by kernel_rfl) (fun _ _ _ h => h) (Or.inl ⟨by rfl, fun _ => rfl⟩) ?_
          simp only [Act.put, List.setIfInBounds_toArray, List.set_cons_zero, List.set_cons_succ]
          refine any_call 1 ⟨_, _, _, _, _, _⟩ 25 #[.pointer (some ⟨px, 0, none⟩)] rfl (by kernel_rfl) rfl (by go_simp) (GB w9 L) (gb_of HLE.out triD.rot.bytes) ?_
          rintro u1 w10 ⟨R1, n1, rfl, br1, b10⟩
          have tri10 := triD.mark b10 (fun _ => False) (fun _ h => h.elim)
          have bT10 := bD.trans (b10.mono bD.size)
          clear triD bD b10
          simp only [Act.put, List.setIfInBounds_toArray, List.set_cons_zero, List.set_cons_succ]
          have cv1 := run_str (P := Try.prog) w10 _ 30 9 5 R1 L n1 br1 Try.underlying30 Try.underlying5 Try.underlying9
          refine Both.go (oi := ⟨_, _, _, _, _, _⟩) (i := 2) (v := .string ⟨L.toArray⟩) rfl ?_
          refine Both.step rfl 4 ⟨_, _, _, _, _, _⟩ rfl (by kernel_rfl) (Or.inl ⟨rfl, Or.inl (ex_convert 30 9 (.tmp 70) rfl _ _ rfl cv1)⟩) (GB w10 L) (op_call (fn := 25) (args := #[.pointer (some ⟨py, 0, none⟩)]) rfl rfl (by go_simp) (gb_of HLX.out tri10.rot.rot.bytes)) ?_
          rintro u2 w11 ⟨R2, n2, rfl, br2, b11⟩
          have tri11 := tri10.mark b11 (fun _ => False) (fun _ h => h.elim)
          have bT11 := bT10.trans (b11.mono bT10.size)
          have br1' := (br1.below b11).more b11.size
          clear tri10 bT10 b11 br1 cv1
          simp only [Act.put, List.setIfInBounds_toArray, List.set_cons_zero, List.set_cons_succ]
          have cv1 := run_str (P := Try.prog) w11 _ 30 9 5 R1 L n1 br1' Try.underlying30 Try.underlying5 Try.underlying9
          have cv2 := run_str (P := Try.prog) w11 _ 30 9 5 R2 L n2 br2 Try.underlying30 Try.underlying5 Try.underlying9
          refine Both.step rfl 5 ⟨_, _, _, _, _, _⟩ rfl (by kernel_rfl) (Or.inl ⟨rfl, Or.inl (ex_convert 30 9 (.tmp 70) rfl _ _ rfl cv1)⟩) _ (op_run rfl rfl (ex_convert 30 9 (.tmp 73) rfl _ _ rfl cv2)) ?_
          rintro u3 w11 ⟨rfl, rfl⟩
          simp only [Act.put, List.setIfInBounds_toArray, List.set_cons_zero, List.set_cons_succ]
          refine Both.done rfl (by kernel_rfl) (Or.inl ⟨rfl, Or.inl (ex_convert 30 9 (.tmp 70) rfl _ _ rfl cv1)⟩) ?_
          clear cv1 cv2 br1' br2
          simp only [Act.put, List.setIfInBounds_toArray, List.set_cons_zero, List.set_cons_succ]
          refine wpAny_take (oi := ⟨_, _, _, _, _, _⟩) (i := 6) (v := .bool true) rfl (by kernel_rfl) (by kernel_rfl) (by kernel_rfl) (fun _ _ _ h => h) (Or.inl ⟨by rfl, fun w => by go_simp⟩) ?_
          simp only [Act.put, List.setIfInBounds_toArray, List.set_cons_zero, List.set_cons_succ]
          refine wpAny_take (oi := ⟨_, _, _, _, _, _⟩) (i := 7) (v := .bool true) rfl (by kernel_rfl) (by kernel_rfl) (by kernel_rfl) (fun _ _ _ h => h) (Or.inl ⟨by rfl, fun _ => rfl⟩) ?_
          simp only [Act.put, List.setIfInBounds_toArray, List.set_cons_zero, List.set_cons_succ]
          refine wpAny_take (oi := ⟨_, _, _, _, _, _⟩) (i := 8) (v := .pointer (some ⟨pz, 0, none⟩)) rfl (by kernel_rfl) (by kernel_rfl) (by kernel_rfl) (fun _ _ _ h => h) (Or.inl ⟨by rfl, fun _ => rfl⟩) ?_
          refine wpAny_take (oi := ⟨_, _, _, _, _, _⟩) (i := 11) (v := .slice A0 x0.length c0) rfl (by kernel_rfl) (by kernel_rfl) (by kernel_rfl) (fun _ _ _ h => h) (Or.inl ⟨by rfl, fun _ => rfl⟩) ?_
          simp only [Act.put, List.setIfInBounds_toArray, List.set_cons_zero, List.set_cons_succ]
          have hx11 : BR w11 w11.heap.size A0 x0 := by
            have h := bw2.trans (bT11.mono bw2.size)
            exact (b0.below h).more h.size
          generalize hMe : (ofD x0).L = M at *
          have HME := Lib.hid hMe
          clear hMe
          refine any_call 9 ⟨_, _, _, _, _, _⟩ 25 #[.pointer (some ⟨pz, 0, none⟩)] rfl (by kernel_rfl) rfl (by go_simp) (GB w11 M) (gb_of HLZ.out tri11.bytes) ?_
          rintro u4 w12 ⟨R4, n4, rfl, br4, b12⟩
          have bT12 := bT11.trans (b12.mono bT11.size)
          have hx12 := (hx11.below b12).more b12.size
          clear tri11 bT11 b12 hx11
          simp only [Act.put, List.setIfInBounds_toArray, List.set_cons_zero, List.set_cons_succ]
          have cz := run_str (P := Try.prog) w12 _ 30 9 5 R4 M n4 br4 Try.underlying30 Try.underlying5 Try.underlying9
          refine Both.go (oi := ⟨_, _, _, _, _, _⟩) (i := 10) (v := .string ⟨M.toArray⟩) rfl ?_
          refine Both.step rfl 12 ⟨_, _, _, _, _, _⟩ rfl (by kernel_rfl) (Or.inl ⟨rfl, Or.inl (ex_convert 30 9 (.tmp 78) rfl _ _ rfl cz)⟩) (MD w12 (ofD x0)) (op_call (fn := 15) (args := #[.slice A0 x0.length c0]) rfl rfl (by go_simp) (md_of (of_any A0 x0 c0 w12 hx12 (by omega) q0))) ?_
          rintro u5 w13 ⟨p5, rfl, hd5, k5⟩
          have b13 : Below w12.heap.size w12 w13 := k5.toBelow _ (Nat.le_refl _) (fun _ h => h.elim)
          have bT13 := bT12.trans (b13.mono bT12.size)
          have br4' := (br4.below b13).more b13.size
          clear bT12 b13 br4 cz hx12 k5
          simp only [Act.put, List.setIfInBounds_toArray, List.set_cons_zero, List.set_cons_succ]
          have cz := run_str (P := Try.prog) w13 _ 30 9 5 R4 M n4 br4' Try.underlying30 Try.underlying5 Try.underlying9
          refine Both.step rfl 13 ⟨_, _, _, _, _, _⟩ rfl (by kernel_rfl) (Or.inl ⟨rfl, Or.inl (ex_convert 30 9 (.tmp 78) rfl _ _ rfl cz)⟩) (GB w13 M) (op_call (fn := 25) (args := #[.pointer (some ⟨p5, 0, none⟩)]) rfl rfl (by go_simp) (gb_of HME.out hd5.bytes)) ?_
          rintro u6 w14 ⟨R6, n6, rfl, br6, b14⟩
          have bT14 := bT13.trans (b14.mono bT13.size)
          have br4'' := (br4'.below b14).more b14.size
          clear bT13 b14 br4' cz hd5
          simp only [Act.put, List.setIfInBounds_toArray, List.set_cons_zero, List.set_cons_succ]
          have cz := run_str (P := Try.prog) w14 _ 30 9 5 R4 M n4 br4'' Try.underlying30 Try.underlying5 Try.underlying9
          have cy := run_str (P := Try.prog) w14 _ 30 9 5 R6 M n6 br6 Try.underlying30 Try.underlying5 Try.underlying9
          refine Both.step rfl 14 ⟨_, _, _, _, _, _⟩ rfl (by kernel_rfl) (Or.inl ⟨rfl, Or.inl (ex_convert 30 9 (.tmp 78) rfl _ _ rfl cz)⟩) _ (op_run rfl rfl (ex_convert 30 9 (.tmp 82) rfl _ _ rfl cy)) ?_
          rintro u7 w14 ⟨rfl, rfl⟩
          simp only [Act.put, List.setIfInBounds_toArray, List.set_cons_zero, List.set_cons_succ]
          refine Both.done rfl (by kernel_rfl) (Or.inl ⟨rfl, Or.inl (ex_convert 30 9 (.tmp 78) rfl _ _ rfl cz)⟩) ?_
          clear cz cy br4'' br6
          simp only [Act.put, List.setIfInBounds_toArray, List.set_cons_zero, List.set_cons_succ]
          refine wpAny_of_chain [15, 16, 17] [_, _, _] _ _ _ rfl (by kernel_rfl) ?_
          go_wp2_with fail
          go_ret
          exact ⟨rfl, bw2.trans (bT14.mono bw2.size)⟩

set_option maxRecDepth 100000 in
theorem lifted (os : Os) (started : os.Started) (H : Type) (enc : TypeId × Value → H) :
    ReturnsInHanded {} Try.checked os 7 .any (Rows.diskFatesSpec.pre6 enc Try.prog Try.f7 Rows.diskFatesRow.domain false) (Rows.diskFatesSpec.post enc Try.prog Try.f7 false true false false) := by
  refine returnsInHanded_of_change_sized (C := Try.checked) own started (by kernel_rfl) Try.func7
    (ChangeSpec.witness6 (enc := enc) (C := Try.checked) false ⟨#[], #[.slice none 0 0, .slice none 0 0], []⟩ 8 (by kernel_rfl) (by kernel_rfl) (by kernel_rfl) (by kernel_rfl)) ?_
  intro W base args ds gs before hval0 hW _ hsz0 _
  have hsz : (DataW.weightsEach Try.prog (Try.f7.params.toList ++ Rows.diskFatesSpec.plain.varTypes Try.prog) (ds ++ gs)).all (· ≤ reachBytes) = true := hsz0
  clear hsz0
  have hval : ∀ (j : Nat) t v, Try.f7.params[j]? = some t → args[j]? = some v → Value.okWide Try.prog W .any base t v := hval0
  have hW' := hW
  obtain ⟨p, q, hA0, hV, rfl, _, _⟩ := hW
  have hA : DataW.TrodAll enc Try.prog W 0 (fun _ => true) true Try.f7.params.toList args.toList ds p := hA0
  rw [Try.params7] at hA hval hsz
  obtain ⟨v0, vs0, d0, ds0, p0, q0, hargs, rfl, rfl, h0, r0⟩ := trodAll_cons hA
  obtain ⟨v1, vs1, d1, ds1, p1, q1, rfl, rfl, rfl, h1, r1⟩ := trodAll_cons r0
  obtain ⟨rfl, rfl, rfl⟩ := trodAll_nil r1
  obtain rfl : args = #[v0, v1] := by cases args; simp_all
  obtain ⟨rfl, rfl⟩ := trodVars_none hV
  obtain ⟨A0, len0, c0, rfl⟩ := okWide_slice Try.underlying30 (hval 0 30 v0 rfl rfl)
  have k0 := h0
  have lt0 : ∀ x ∈ p0, x.block < W.heap.size := by obtain ⟨m, hm⟩ := k0; exact DataW.trod_lt m _ _ _ hm
  have q0 := bytes_cap h0
  obtain ⟨x0, rfl, b0, s0⟩ := bytes_in h0
  have l0 := s0 _ _ 0 hsz rfl rfl
  obtain ⟨A1, len1, c1, rfl⟩ := okWide_slice Try.underlying22 (hval 1 22 v1 rfl rfl)
  have k1 := h1
  have lt1 : ∀ x ∈ p1, x.block < W.heap.size := by obtain ⟨m, hm⟩ := k1; exact DataW.trod_lt m _ _ _ hm
  obtain ⟨l1, rfl, o1, s1⟩ := acts_in h1
  have m1 := s1 _ _ 1 hsz rfl rfl
  clear hA0 hval0
  refine (walk A0 x0 c0 A1 l1 c1 W b0 l0 q0 o1 m1).mono fun e W' ⟨he, bel⟩ => ?_
  subst he
  exact ⟨_, rfl, _, _, _, [], _, [], hW', trodAll_mk1 (shut_bool Try.underlying4 _), (trodAll_cons_mk (Below.trod laidOut (by kernel_rfl) (of_decide_eq_true (by kernel_rfl)) k0 bel lt0) (trodAll_cons_mk (Below.trod laidOut (by kernel_rfl) (of_decide_eq_true (by kernel_rfl)) k1 bel lt1) trodAll_mk0)), rfl, bel.frame _, fun h => by cases h⟩

theorem proved : Rows.DiskFatesSaid :=
  OpenClaim.holds_of_wide 7 Try.f7 rfl rfl rfl rfl rfl rfl rfl ⟨rfl, rfl, rfl, rfl, rfl⟩ rfl rfl rfl rfl rfl (by kernel_rfl) Try.func7 (by kernel_rfl)
    (of_decide_eq_true (by kernel_rfl)) (by unfold Func.isWrapper; first | (rw [if_pos (by decide +kernel)]; kernel_rfl) | (rw [if_neg (by decide +kernel)]; exact ⟨rfl, rfl⟩))
    (fun os started H enc _ => lifted os started H enc)
#print axioms proved
end Go.Proofs.Ytlighekkgcookaa.diskFates
