/-
  LawMemActs
-/
import Derived.Test.YtdbphindnnchfaaGA
import Derived.ChangeOld
import Derived.Below
import Derived.Deep.QuietTactic
import Derived.BigQuiet
import Derived.WalkSmall
import Derived.Test.YtdbphindnnchfaaMmTail
import Derived.Test.YtdbphindnnchfaaMmActIn
import Derived.Test.YtdbphindnnchfaaMmAct
import Derived.Test.YtdbphindnnchfaaMmDirty
namespace Go.Proofs.Ytdbphindnnchfaa.memActs
open Go.ChangeShapes Go.WideShapes Go.ChangeAt Go.RowKit Mm Go.Maps
set_option linter.unusedVariables false

theorem own : ownKnob Try.prog.godebug = none := by kernel_rfl
theorem laidOut : laidOutB Try.prog = true := by kernel_rfl

theorem MAR.more {w : World} {B B' : Nat} {A : Option Addr} {l : List MAct} (h : MAR w B A l) (hB : B ≤ B') : MAR w B' A l := fun hn => by
  obtain ⟨ad, e, hlt, hc⟩ := h hn
  exact ⟨ad, e, Nat.lt_of_lt_of_le hlt hB, hc⟩
theorem MAct.Ok.go {w w' : World} {a : MAct} (h : a.Ok w) (hb : Below w.heap.size w w') : a.Ok w' := ⟨(h.br.below hb).more hb.size, h.cap, h.a0, h.a1, h.n0, h.n1⟩

set_option maxRecDepth 100000 in
set_option maxHeartbeats 1000000 in
theorem walk (A0 : Option Addr) (x0 : List UInt8) (c0 : Nat) (A1 : Option Addr) (l1 : List MAct) (c1 : Nat) (w : World) (b0 : BR w w.heap.size A0 x0) (l0 : x0.length ≤ 140737488351232) (o1 : MActsOk w A1 l1) (m1 : l1.length ≤ 2932031007317 ∧ ∀ a ∈ l1, a.xs.length ≤ 140737488351232) :
    Calls Try.prog 3 #[.slice A0 x0.length c0, .slice A1 l1.length c1] w fun e w' => e = .returned (.bool true) ∧ Below w.heap.size w w' := by
  obtain ⟨m1, m2⟩ := m1
  have bx : ∀ W, Below w.heap.size w W → BR W W.heap.size A0 x0 := fun W hb => (b0.below hb).more hb.size
  have BX := Lib.hid bx
  have O1 := Lib.hid o1
  have M2 := Lib.hid m2
  clear bx b0 o1 m2
  go_enter Try.func3, Try.ntmps3
  go_wp2_with fail
  refine (memawake_any _).mono ?_
  rintro e u1 ⟨rfl, b1⟩
  by_cases hl : 9000 < x0.length
  · go_wp2_with fail
    go_ret
    exact ⟨rfl, b1⟩
  go_wp2_with fail
  refine (mfew_any A1 l1 c1 u1 (MAR.more (O1.out.ar.below b1) b1.size) m1).mono ?_
  rintro e u1b ⟨⟨bb, rfl⟩, bf⟩
  have b2 := b1.trans (bf.mono b1.size)
  clear b1 bf
  cases bb
  · go_wp2_with fail
    go_ret
    exact ⟨rfl, b2⟩
  go_wp2_with fail
  refine (mflat_any A0 x0 c0 u1b (BX.out _ b2)).mono ?_
  rintro e u2 ⟨p, gb, mb, rfl, p1, p2, p3, hm, k2⟩
  have bB2 := b2.trans ((below_false k2).mono b2.size)
  have B2 := Lib.hid bB2
  have HX := Lib.hid (BX.out _ bB2)
  clear bB2 BX
  go_wp2_with fail
  refine (rflat_any A0 x0 c0 u2 HX.out).mono ?_
  rintro e u3 ⟨q, rfl, hr, k3⟩
  have hp := Pair.start (L := w.heap.size) b2.size p1 p2 p3 hm k2 hr k3
  have HB := Lib.hid (Below.and B2.out k3 (fun _ h => h.elim) (Nat.le_refl _))
  clear hm hr k2 k3 p1 p2 p3 B2 HX b2
  generalize u2.heap.size = mi at *
  generalize fillL x0 = G at *
  go_wp2_with fail
  go_loopw [27] (fun i wr => ∃ (k : Nat) (M : List UInt8), k ≤ l1.length ∧ i = .int .i64 (k : Int) ∧ Pair wr w.heap.size mi wr.heap.size p q G M M ∧ Below w.heap.size w wr) (fun i _ => l1.length - (RowKit.intOf i).toNat)
  case atStart => exact ⟨0, G, by omega, rfl, hp, HB.out⟩
  case round =>
    clear hp HB
    obtain ⟨k, M, hk, rfl, hp, bel⟩ := hrel
    by_cases hlt : k < l1.length
    · obtain ⟨ad, rfl, hlb, d0, d1, d2, d3⟩ := (O1.out.ar.below bel).at_ hlt
      have hmem : l1[k] ∈ l1 := List.getElem_mem hlt
      have ok := O1.out.ok _ hmem
      have ML := Lib.hid (M2.out _ hmem)
      clear hmem
      generalize l1[k] = a at *
      have k1 : Keeps (fun _ => False) wr (wr.alloc (.cells (macells a).toArray 31)) := Keeps.alloc _ _ _
      have bA : Below w.heap.size w (wr.alloc (.cells (macells a).toArray 31)) := bel.alloc bel.size _
      have HP := Lib.hid ((hp.keep k1 (fun _ _ _ h => h)).more k1.size (Nat.le_refl _))
      have OK := Lib.hid (MAct.Ok.go ok bA)
      have BRA := Lib.hid (ok.br.below bA)
      have BA := Lib.hid bA
      clear ok bA hp bel k1 O1 M2
      go_wp2_with fail
      refine (act_any HP.out a OK.out BRA.out ML.out).mono ?_
      rintro e w2 ⟨rfl, hp2, k2⟩
      have BF := Lib.hid (Below.and BA.out k2 (fun _ h => h.1) (Nat.le_refl _))
      have HP2 := Lib.hid hp2
      clear HP OK BRA BA ML k2 hp2 d0 d1 d2 d3
      go_wp2_with fail
      go_roundw
      case rel => exact ⟨k + 1, _, by omega, by go_num, HP2.out, BF.out⟩
      case measure => simp [RowKit.intOf]; omega
    · have HB := Lib.hid bel
      have HP := Lib.hid hp
      clear bel hp O1 M2
      go_wp2_with fail
      obtain ⟨gb, mb, hmem, lo1, lo2, lo0, lo3, lo4, lo5⟩ := HP.out.mem
      obtain ⟨rb, rc, rd, re, href, _⟩ := HP.out.ref
      have HREF := Lib.hid href
      have HMEM := Lib.hid hmem
      have HLT := Lib.hid (show w.heap.size ≤ mb ∧ mb < mi from ⟨lo2, lo5⟩)
      clear hmem href lo0 lo1 lo2 lo3 lo4 lo5 HP
      refine wp_region_held (S := fun W : World => RefH W mi q rb rc rd re M G) (by kernel_rfl) ?_
      change wpAnyH _ _ _ _ _ _ _ _ wr.drew
      have kd : Keeps (fun _ => False) wr wr.drew := Keeps.drew _ _
      have HS : (fun W : World => RefH W mi q rb rc rd re M G) wr.drew := HREF.out.keep kd (fun _ _ _ h => h)
      have hmT := HMEM.out.keep kd (fun h => h) (fun h => h) (fun h => h)
      have HBT := Lib.hid (Below.and HB.out kd (fun _ h => h.elim) (Nat.le_refl _))
      generalize wr.drew = wT at *
      refine wpAnyH_take (oi := ⟨_, _, _, _, _, _⟩) (i := 3) (v := .pointer (some ⟨q, 0, none⟩)) rfl (by kernel_rfl) (by kernel_rfl) (by kernel_rfl) (fun _ _ _ h => h) (Or.inl ⟨by rfl, fun _ _ => rfl⟩) HS ?_
      simp only [Act.put, List.setIfInBounds_toArray, List.set_cons_zero, List.set_cons_succ]
      refine wpAnyH_take (oi := ⟨_, _, _, _, _, _⟩) (i := 4) (v := .pointer (some ⟨q, 0, none⟩)) rfl (by kernel_rfl) (by kernel_rfl) (by kernel_rfl) (fun _ _ _ h => h) (Or.inl ⟨by rfl, fun _ _ => rfl⟩) HS ?_
      simp only [Act.put, List.setIfInBounds_toArray, List.set_cons_zero, List.set_cons_succ]
      refine wpAnyH_take (oi := ⟨_, _, _, _, _, _⟩) (i := 5) (v := .pointer (some ⟨q, 0, none⟩)) rfl (by kernel_rfl) (by kernel_rfl) (by kernel_rfl) (fun _ _ _ h => h) (Or.inl ⟨by rfl, fun _ _ => by go_simp⟩) HS ?_
      simp only [Act.put, List.setIfInBounds_toArray, List.set_cons_zero, List.set_cons_succ]
      refine wpAnyH_take (oi := ⟨_, _, _, _, _, _⟩) (i := 6) (v := .slice (some ⟨rb, 0, none⟩) 8192 rc) rfl (by kernel_rfl) (by kernel_rfl) (by kernel_rfl) (fun _ _ _ h => h) (yif_load rfl 22 (.tmp 42) rfl _ _ rfl fun W (h : RefH W mi q rb rc rd re M G) => load_one aggS h.cs.1) HS ?_
      simp only [Act.put, List.setIfInBounds_toArray, List.set_cons_zero, List.set_cons_succ]
      refine wpAnyH_take (oi := ⟨_, _, _, _, _, _⟩) (i := 7) (v := .string ⟨M.toArray⟩) rfl (by kernel_rfl) (by kernel_rfl) (by kernel_rfl) (fun _ _ _ h => h) (Or.inl ⟨by rfl, fun _ h => ex_convert 22 9 (.tmp 43) rfl _ _ rfl (conv_ref h)⟩) HS ?_
      simp only [Act.put, List.setIfInBounds_toArray, List.set_cons_zero, List.set_cons_succ]
      refine wpAnyH_take (oi := ⟨_, _, _, _, _, _⟩) (i := 0) (v := .pointer (some ⟨p, 0, none⟩)) rfl (by kernel_rfl) (by kernel_rfl) (by kernel_rfl) (fun _ _ _ h => h) (Or.inl ⟨by rfl, fun _ _ => rfl⟩) HS ?_
      simp only [Act.put, List.setIfInBounds_toArray, List.set_cons_zero, List.set_cons_succ]
      refine wpAnyH_all (rs := [1]) (by kernel_rfl) (by simp) fun i hi => ?_
      obtain rfl : i = 1 := by simpa using hi
      refine op_call (om := ⟨_, _, _, _, _, _⟩) (fn := 12) (args := #[.pointer (some ⟨p, 0, none⟩)]) (R := fun u w' => ∃ g, u = .slice (some ⟨g, 0, none⟩) 8192 8192 ∧ Row8 w' g 5 M ∧ MemAt w' p gb mb G M ∧ Keeps (· = mb) wT w') rfl rfl (by go_simp)
          ((mbytes_at hmT).mono fun e w' ⟨g, he, h1, h2, h3, h4⟩ => ⟨_, he, g, by rw [hmT.ml], h2, h3, h4⟩) _ _ rfl rfl ?_
      rintro u wU ⟨gU, rfl, rU, hmU, kU⟩
      have HS2 : (fun W : World => RefH W mi q rb rc rd re M G) wU := HS.keep kU (fun i h1 h2 h3 => by have := HLT.out; omega)
      refine ⟨HS2, ?_⟩
      clear hi
      simp only [Act.put, List.setIfInBounds_toArray, List.set_cons_zero, List.set_cons_succ]
      refine wpAnyH_all (rs := [2]) (by kernel_rfl) (by simp) fun i hi => ?_
      obtain rfl : i = 2 := by simpa using hi
      refine op_run (om := ⟨_, _, _, _, _, _⟩) (u := .string ⟨M.toArray⟩) (w' := wU) rfl rfl (ex_convert 22 9 (.tmp 38) rfl _ _ rfl (conv_row 8192 hmT.ml rU)) _ _ rfl rfl ?_
      rintro u wV ⟨rfl, rfl⟩
      refine ⟨HS2, ?_⟩
      clear hi
      simp only [Act.put, List.setIfInBounds_toArray, List.set_cons_zero, List.set_cons_succ]
      refine wpAnyH_take (oi := ⟨_, _, _, _, _, _⟩) (i := 8) (v := .bool true) rfl (by kernel_rfl) (by kernel_rfl) (by kernel_rfl) (fun _ _ _ h => h) (Or.inl ⟨by rfl, fun _ _ => by go_simp⟩) HS2 ?_
      simp only [Act.put, List.setIfInBounds_toArray, List.set_cons_zero, List.set_cons_succ]
      refine wpAnyH_take (oi := ⟨_, _, _, _, _, _⟩) (i := 9) (v := .bool true) rfl (by kernel_rfl) (by kernel_rfl) (by kernel_rfl) (fun _ _ _ h => h) (Or.inl ⟨by rfl, fun _ _ => rfl⟩) HS2 ?_
      simp only [Act.put, List.setIfInBounds_toArray, List.set_cons_zero, List.set_cons_succ]
      have HBU := Lib.hid (Below.and HBT.out kU (fun i hi => by have := HLT.out; omega) (Nat.le_refl _))
      clear HBT HB HREF HMEM HS hmT kU rU kd
      refine wpAnyH_take (oi := ⟨_, _, _, _, _, _⟩) (i := 10) (v := .pointer (some ⟨p, 0, none⟩)) rfl (by kernel_rfl) (by kernel_rfl) (by kernel_rfl) (fun _ _ _ h => h) (Or.inl ⟨by rfl, fun _ _ => rfl⟩) HS2 ?_
      simp only [Act.put, List.setIfInBounds_toArray, List.set_cons_zero, List.set_cons_succ]
      refine wpAnyH_take (oi := ⟨_, _, _, _, _, _⟩) (i := 12) (v := .pointer (some ⟨q, 0, none⟩)) rfl (by kernel_rfl) (by kernel_rfl) (by kernel_rfl) (fun _ _ _ h => h) (Or.inl ⟨by rfl, fun _ _ => rfl⟩) HS2 ?_
      simp only [Act.put, List.setIfInBounds_toArray, List.set_cons_zero, List.set_cons_succ]
      refine wpAnyH_all (rs := [11]) (by kernel_rfl) (by simp) fun i hi => ?_
      obtain rfl : i = 11 := by simpa using hi
      clear hi
      refine op_call (om := ⟨_, _, _, _, _, _⟩) (fn := 14) (args := #[.pointer (some ⟨p, 0, none⟩)]) (R := fun u w' => ∃ R c, u = .slice R (dirtyL G M 128).length c ∧ IR w' R (dirtyL G M 128) ∧ Keeps (fun _ => False) wV w') rfl rfl (by go_simp)
          ((mdirty_at hmU).mono fun e w' ⟨R, c, he, h1, h2⟩ => ⟨_, he, R, c, rfl, h1, h2⟩) _ _ rfl rfl ?_
      rintro u wD ⟨R1, cR1, rfl, iR1, k1⟩
      have HSwD : (fun W : World => RefH W mi q rb rc rd re M G) wD := HS2.keep k1 (fun _ _ _ h => h)
      have HBD := Lib.hid (Below.and HBU.out k1 (fun _ h => h.elim) (Nat.le_refl _))
      clear HBU hmU HS2 k1
      refine ⟨HSwD, ?_⟩
      simp only [Act.put, List.setIfInBounds_toArray, List.set_cons_zero, List.set_cons_succ]
      refine wpAnyH_all (rs := [13]) (by kernel_rfl) (by simp) fun i hi => ?_
      obtain rfl : i = 13 := by simpa using hi
      clear hi
      refine op_call (om := ⟨_, _, _, _, _, _⟩) (fn := 15) (args := #[.pointer (some ⟨q, 0, none⟩)]) (R := fun u w' => ∃ R c, u = .slice R (dirtyL G M 128).length c ∧ IR w' R (dirtyL G M 128) ∧ Keeps (fun _ => False) wD w') rfl rfl (by go_simp)
          ((rdirty_at HSwD).mono fun e w' ⟨R, c, he, h1, h2⟩ => ⟨_, he, R, c, rfl, h1, h2⟩) _ _ rfl rfl ?_
      rintro u wE ⟨R2, cR2, rfl, iR2, k2⟩
      have HSwE : (fun W : World => RefH W mi q rb rc rd re M G) wE := HSwD.keep k2 (fun _ _ _ h => h)
      have HBE := Lib.hid (Below.and HBD.out k2 (fun _ h => h.elim) (Nat.le_refl _))
      have iR1 := iR1.keep k2
      clear HBD HSwD k2
      refine ⟨HSwE, ?_⟩
      simp only [Act.put, List.setIfInBounds_toArray, List.set_cons_zero, List.set_cons_succ]
      have hd := dirty_le G M 128
      generalize dirtyL G M 128 = dl at *
      refine wpAnyH_all (rs := [14]) (by kernel_rfl) (by simp) fun i hi => ?_
      obtain rfl : i = 14 := by simpa using hi
      clear hi
      refine op_call (om := ⟨_, _, _, _, _, _⟩) (fn := 13) (args := #[.slice R1 dl.length cR1, .slice R2 dl.length cR2]) (R := fun u w' => u = .bool true ∧ Keeps (fun _ => False) wE w') rfl rfl (by go_simp)
          ((ints_same iR1 iR2 hd).mono fun e w' ⟨he, h1⟩ => ⟨_, he, rfl, h1⟩) _ _ rfl rfl ?_
      rintro u wF ⟨rfl, k3⟩
      have HS2 : (fun W : World => RefH W mi q rb rc rd re M G) wF := HSwE.keep k3 (fun _ _ _ h => h)
      have HF := Lib.hid (Below.and HBE.out k3 (fun _ h => h.elim) (Nat.le_refl _))
      refine ⟨HS2, ?_⟩
      clear HBE HSwE iR1 iR2 k3
      simp only [Act.put, List.setIfInBounds_toArray, List.set_cons_zero, List.set_cons_succ]
      refine wpAnyH_take (oi := ⟨_, _, _, _, _, _⟩) (i := 15) (v := .bool true) rfl (by kernel_rfl) (by kernel_rfl) (by kernel_rfl) (fun _ _ _ h => h) (Or.inl ⟨by rfl, fun _ _ => by go_simp⟩) HS2 ?_
      simp only [Act.put, List.setIfInBounds_toArray, List.set_cons_zero, List.set_cons_succ]
      refine wpAnyH_take (oi := ⟨_, _, _, _, _, _⟩) (i := 16) (v := .bool true) rfl (by kernel_rfl) (by kernel_rfl) (by kernel_rfl) (fun _ _ _ h => h) (Or.inl ⟨by rfl, fun _ _ => rfl⟩) HS2 ?_
      simp only [Act.put, List.setIfInBounds_toArray, List.set_cons_zero, List.set_cons_succ]
      clear HS2
      refine wpAnyH_done (by kernel_rfl) ?_ _
      go_wp2_with fail
      go_ret
      exact ⟨rfl, HF.out⟩

set_option maxRecDepth 100000 in
theorem lifted (os : Os) (started : os.Started) (H : Type) (enc : TypeId × Value → H) :
    ReturnsInHanded {} Try.checked os 3 .any (Rows.memActsSpec.pre6 enc Try.prog Try.f3 Rows.memActsRow.domain false) (Rows.memActsSpec.post enc Try.prog Try.f3 false true false false) := by
  refine returnsInHanded_of_change_sized (C := Try.checked) own started (by kernel_rfl) Try.func3
    (ChangeSpec.witness6 (enc := enc) (C := Try.checked) false ⟨#[], #[.slice none 0 0, .slice none 0 0], []⟩ 8 (by kernel_rfl) (by kernel_rfl) (by kernel_rfl) (by kernel_rfl)) ?_
  intro W base args ds gs before hval0 hW _ hsz0 _
  have hsz : (DataW.weightsEach Try.prog (Try.f3.params.toList ++ Rows.memActsSpec.plain.varTypes Try.prog) (ds ++ gs)).all (· ≤ reachBytes) = true := hsz0
  clear hsz0
  have hval : ∀ (j : Nat) t v, Try.f3.params[j]? = some t → args[j]? = some v → Value.okWide Try.prog W .any base t v := hval0
  have hW' := hW
  obtain ⟨p, q, hA0, hV, rfl, _, _⟩ := hW
  have hA : DataW.TrodAll enc Try.prog W 0 (fun _ => true) true Try.f3.params.toList args.toList ds p := hA0
  rw [Try.params3] at hA hval hsz
  obtain ⟨v0, vs0, d0, ds0, p0, q0, hargs, rfl, rfl, h0, r0⟩ := trodAll_cons hA
  obtain ⟨v1, vs1, d1, ds1, p1, q1, rfl, rfl, rfl, h1, r1⟩ := trodAll_cons r0
  obtain ⟨rfl, rfl, rfl⟩ := trodAll_nil r1
  obtain rfl : args = #[v0, v1] := by cases args; simp_all
  obtain ⟨rfl, rfl⟩ := trodVars_none hV
  obtain ⟨A0, len0, c0, rfl⟩ := okWide_slice Try.underlying22 (hval 0 22 v0 rfl rfl)
  have k0 := h0
  have lt0 : ∀ x ∈ p0, x.block < W.heap.size := by obtain ⟨m, hm⟩ := k0; exact DataW.trod_lt m _ _ _ hm
  obtain ⟨x0, rfl, b0, s0⟩ := bytes_in h0
  have l0 := s0 _ _ 0 hsz rfl rfl
  obtain ⟨A1, len1, c1, rfl⟩ := okWide_slice Try.underlying23 (hval 1 23 v1 rfl rfl)
  have k1 := h1
  have lt1 : ∀ x ∈ p1, x.block < W.heap.size := by obtain ⟨m, hm⟩ := k1; exact DataW.trod_lt m _ _ _ hm
  obtain ⟨l1, rfl, o1, s1⟩ := macts_in h1
  have m1 := s1 _ _ 1 hsz rfl rfl
  clear hA0 hval0
  refine (walk A0 x0 c0 A1 l1 c1 W b0 l0 o1 m1).mono fun e W' ⟨he, bel⟩ => ?_
  subst he
  exact ⟨_, rfl, _, _, _, [], _, [], hW', trodAll_mk1 (shut_bool Try.underlying4 _), (trodAll_cons_mk (Below.trod laidOut (by kernel_rfl) (of_decide_eq_true (by kernel_rfl)) k0 bel lt0) (trodAll_cons_mk (Below.trod laidOut (by kernel_rfl) (of_decide_eq_true (by kernel_rfl)) k1 bel lt1) trodAll_mk0)), rfl, bel.frame _, fun h => by cases h⟩

theorem proved : Rows.MemActsSaid :=
  OpenClaim.holds_of_wide 3 Try.f3 rfl rfl rfl rfl rfl rfl rfl ⟨rfl, rfl, rfl, rfl, rfl⟩ rfl rfl rfl rfl rfl (by kernel_rfl) Try.func3 (by kernel_rfl)
    (of_decide_eq_true (by kernel_rfl)) (by unfold Func.isWrapper; first | (rw [if_pos (by decide +kernel)]; kernel_rfl) | (rw [if_neg (by decide +kernel)]; exact ⟨rfl, rfl⟩))
    (fun os started H enc _ => lifted os started H enc)
#print axioms proved
end Go.Proofs.Ytdbphindnnchfaa.memActs
