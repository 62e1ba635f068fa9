/-
  LawStackActs
-/
import Derived.Test.YtmaoaeebggpbbaaGA
import Derived.ChangeOld
import Derived.Below
import Derived.Deep.QuietTactic
import Derived.BigQuiet
import Derived.WalkSmall
import Derived.Test.YtmaoaeebggpbbaaSkAct
import Derived.Test.YtmaoaeebggpbbaaSkAwk
import Derived.Test.YtmaoaeebggpbbaaSkOff
import Derived.Test.YtmaoaeebggpbbaaMmTail
import Derived.Test.YtmaoaeebggpbbaaGSnG
namespace Go.Proofs.Ytmaoaeebggpbbaa.stackActs
open Go.ChangeShapes Go.WideShapes Go.ChangeAt Go.RowKit Sk Mm
set_option linter.unusedVariables false

theorem own : ownKnob Try.prog.godebug = none := by kernel_rfl
theorem laidOut : laidOutB Try.prog = true := by kernel_rfl

set_option maxRecDepth 100000 in
set_option maxHeartbeats 1000000 in
theorem walk (A0 : Option Addr) (x0 : List UInt8) (c0 : Nat) (A1 : Option Addr) (l1 : List KAct) (c1 : Nat) (w : World) (b0 : BR w w.heap.size A0 x0) (l0 : x0.length ≤ 140737488351232) (q0 : x0.length ≤ c0) (o1 : KActsOk w A1 l1) (m1 : l1.length ≤ 3518437208883 ∧ ∀ a ∈ l1, a.xs.length ≤ 17592186044416) :
    Calls Try.prog 3 #[.slice A0 x0.length c0, .slice A1 l1.length c1] w fun e w' => e = .returned (.bool true) ∧ Below w.heap.size w w' := by
  obtain ⟨n1, n2⟩ := m1
  have BX := Lib.hid (fun (W : World) (hb : Below w.heap.size w W) => o1.ar.below hb)
  have bx : ∀ W, Below w.heap.size w W → BR W W.heap.size A0 x0 := fun W hb => (b0.below hb).more hb.size
  have BB := Lib.hid bx
  have OK := Lib.hid o1.ok
  clear o1 bx b0
  go_enter Try.func3, Try.ntmps3
  go_wp2_with fail
  refine (skawake_any w).mono ?_
  rintro e w1 ⟨rfl, b1⟩
  have B1 := Lib.hid b1
  clear b1
  go_wp2_with fail
  go_loopw [16, 7, 5] (fun i _ s wr => ∃ (k : Nat) (n : Int), k ≤ l1.length ∧ i = .int .i64 k ∧ s = .int .i64 n ∧ Below w.heap.size w wr) (fun i _ _ _ => l1.length - (RowKit.intOf i).toNat)
  case atStart => exact ⟨0, 0, by omega, rfl, rfl, B1.out⟩
  case round =>
    clear B1
    obtain ⟨k, n, hk, rfl, rfl, hb⟩ := hrel
    by_cases hlt : k < l1.length
    · have h1 := BX.out _ hb
      obtain ⟨ad, rfl, hlb, d0, d1, d2⟩ := h1.at_ hlt
      generalize l1[k] = a at *
      clear h1
      have hsz := hb.size
      have HBB := Lib.hid hb
      clear hb
      go_wp2_with fail
      all_goals
        go_roundw
        case rel => exact ⟨k + 1, _, by omega, by go_num, rfl, HBB.out.alloc hsz _⟩
        case measure => simp [RowKit.intOf]; omega
    · obtain rfl : k = l1.length := by omega
      have B2 := Lib.hid hb
      clear hb hlt hk
      by_cases hl : 9000 < x0.length
      · go_wp2_with fail
        go_ret
        exact ⟨rfl, B2.out⟩
      by_cases hn : 500 < n
      · go_wp2_with fail
        go_ret
        exact ⟨rfl, B2.out⟩
      have hl' : ¬ (9000 : Int) < (x0.length : Int) := by omega
      go_wp2_with fail
      refine (mflat_any A0 x0 c0 wr (BB.out _ B2.out)).mono ?_
      rintro e w2 ⟨p, gb, mb, rfl, p1, p2, p3, hm, k2⟩
      have b3 := Below.and B2.out k2 (fun _ h => h.elim) (Nat.le_refl _)
      have br3 := BB.out _ b3
      have B3 := Lib.hid b3
      have s1 := B2.out.size
      clear b3
      go_wp2_with fail
      refine (rflat_any A0 x0 c0 w2 br3).mono ?_
      rintro e w3 ⟨q, rfl, hr, k3⟩
      obtain ⟨rb, rc, d, e, hr⟩ := hr
      have hm3 := hm.keep k3 (fun h => h) (fun h => h) (fun h => h)
      obtain ⟨l1', l2', l3'⟩ := hm.lt
      have B4 := Below.and B3.out k3 (fun _ h => h.elim) (Nat.le_refl _)
      generalize fillL x0 = Z at *
      have tw : Tw w.heap.size w w3 p gb mb w2.heap.size q d e Z Z Z := ⟨.inl ⟨rfl, rfl, hm3⟩, ⟨rb, rc, hr⟩, ⟨by omega, by omega, by omega, l1', l2', l3'⟩, B4, Nat.le_refl _⟩
      have T3 := Lib.hid tw
      generalize w2.heap.size = mi at *
      clear tw hr hm hm3 k2 k3 br3 B3 B4 p1 p2 p3 l1' l2' l3' s1 B2
      go_wp2_with fail
      go_loopw [42, 11] (fun i _ wr => ∃ (k : Nat) (M : List UInt8), k ≤ l1.length ∧ i = .int .i64 k ∧ Tw w.heap.size w wr p gb mb mi q d e Z M M) (fun i _ _ => l1.length - (RowKit.intOf i).toNat)
      case atStart => exact ⟨0, Z, by omega, rfl, T3.out⟩
      case round =>
        clear T3
        obtain ⟨k, M, hk, rfl, tr⟩ := hrel
        by_cases hlt : k < l1.length
        · have h1 := BX.out _ tr.b
          obtain ⟨ad, rfl, hlb, d0, d1, d2⟩ := h1.at_ hlt
          have ok := OK.out _ (List.getElem_mem hlt)
          generalize l1[k] = a at *
          clear h1
          have hsz := tr.b.size
          have t1 := tr.quiet (Keeps.alloc (fun _ => False) wr (.cells #[.int .i64 a.do_, .int .i64 a.n, .slice a.A a.xs.length a.c] 27))
          have AC := Lib.hid (act_any t1 a (ok.iq.below t1.b) ⟨ok.n0, ok.n1⟩)
          clear tr t1
          go_wp2_with fail
          refine AC.out.mono ?_
          rintro en w5 ⟨rfl, M5, t5⟩
          obtain ⟨cd, dd⟩ := pair_Depth p gb mb mi q d e Z M5
          obtain ⟨ce, de⟩ := pair_Deep p gb mb mi q d e Z M5
          have CD := Lib.hid cd
          have DD := Lib.hid dd
          have CE := Lib.hid ce
          have DE := Lib.hid de
          have T5 := Lib.hid t5
          clear cd dd ce de t5 AC d0 d1 d2
          go_wp2_with fail
          refine (CD.out _ T5.out.m).mono ?_
          rintro en w6 ⟨rfl, m6, k6⟩
          have t6 := T5.out.code m6 k6
          obtain ⟨b, c, hr⟩ := t6.r
          have T6 := Lib.hid t6
          have HR := Lib.hid hr
          clear m6 k6 t6 hr T5
          go_wp2_with fail
          refine (DD.out _ b c HR.out).mono ?_
          rintro en w7 ⟨rfl, dn⟩
          have T7 := Lib.hid (T6.out.doc HR.out dn)
          clear dn T6 HR
          go_wp2_with fail
          refine (CE.out _ T7.out.m).mono ?_
          rintro en w8 ⟨rfl, m6, k6⟩
          have t6 := T7.out.code m6 k6
          obtain ⟨b, c, hr⟩ := t6.r
          have T8 := Lib.hid t6
          have HR := Lib.hid hr
          clear m6 k6 t6 hr T7
          go_wp2_with fail
          refine (DE.out _ b c HR.out).mono ?_
          rintro en w9 ⟨rfl, dn⟩
          have T9 := Lib.hid (T8.out.doc HR.out dn)
          clear dn T8 HR
          go_wp2_with fail
          go_roundw
          case rel => exact ⟨k + 1, M5, by omega, by go_num, T9.out⟩
          case measure => simp [RowKit.intOf]; omega
        · obtain rfl : k = l1.length := by omega
          obtain ⟨b, c, hr⟩ := tr.r
          obtain ⟨zs, zl, CC, DD⟩ := pair_Cells p gb mb mi q d e Z M
          have CH := Lib.hid CC
          have DH := Lib.hid DD
          have TN := Lib.hid tr.n
          have TR := Lib.hid tr
          have HR := Lib.hid hr
          clear hlt hk tr hr CC DD
          go_wp2_with fail
          refine wp_region_held (S := fun W => RefH W mi q b c d e M Z) (by kernel_rfl) ?_
          change wpAnyH _ _ _ _ _ _ _ _ (wr).drew
          have hS : (fun W => RefH W mi q b c d e M Z) wr.drew := HR.out.keep (Keeps.drew (fun _ => False) wr) (fun _ _ _ h => h)
          have ta := TR.out.quiet (Keeps.drew (fun _ => False) wr)
          clear HR TR
          generalize (wr).drew = wa at *
          refine wpAnyH_take (oi := ⟨_, _, _, _, _, _⟩) (i := 0) (v := .pointer (some ⟨p, 0, none⟩)) rfl (by kernel_rfl) (by kernel_rfl) (by kernel_rfl) (fun _ _ _ h => h) (Or.inl ⟨by rfl, fun _ _ => rfl⟩) hS ?_
          try simp only [Act.put, List.setIfInBounds_toArray, List.set_cons_zero, List.set_cons_succ]
          refine wpAnyH_take (oi := ⟨_, _, _, _, _, _⟩) (i := 2) (v := .pointer (some ⟨q, 0, none⟩)) rfl (by kernel_rfl) (by kernel_rfl) (by kernel_rfl) (fun _ _ _ h => h) (Or.inl ⟨by rfl, fun _ _ => rfl⟩) hS ?_
          try simp only [Act.put, List.setIfInBounds_toArray, List.set_cons_zero, List.set_cons_succ]
          refine wpAnyH_all (rs := [1]) (by kernel_rfl) (by simp) fun i hI9 => ?_
          obtain rfl : i = 1 := by simpa using hI9
          refine op_call (om := ⟨_, _, _, _, _, _⟩) (fn := 16) (args := #[.pointer (some ⟨p, 0, none⟩)]) (R := fun u w' => ∃ g, u = .slice (some ⟨g, 0, none⟩) zs.length zs.length ∧ RI w' g zs ∧ SM w' (some ⟨p, 0, none⟩) p gb mb true Z M ∧ Keeps (SF true p mb) wa w') rfl rfl (by go_simp)
            ((CH.out _ ta.m).mono fun e w' ⟨g, he, _, h2, h3, h4⟩ => ⟨_, he, g, rfl, h2, h3, h4⟩) _ _ rfl rfl ?_
          rintro u wb ⟨g, rfl, rb2, mb2, kb2⟩
          have hS := RefH.keep hS kb2 (fun i h1 h2 f => by have := TN.out; rcases f.2 with rfl | rfl <;> omega)
          have tb := ta.code mb2 kb2
          clear ta mb2 kb2 hI9
          refine ⟨hS, ?_⟩
          try simp only [Act.put, List.setIfInBounds_toArray, List.set_cons_zero, List.set_cons_succ]
          refine wpAnyH_all (rs := [3]) (by kernel_rfl) (by simp) fun i hI9 => ?_
          obtain rfl : i = 3 := by simpa using hI9
          refine op_call (om := ⟨_, _, _, _, _, _⟩) (fn := 17) (args := #[.pointer (some ⟨q, 0, none⟩)]) (R := fun u w' => ∃ R cap, u = .slice R zs.length cap ∧ IQ w' w'.heap.size R zs ∧ Keeps (fun _ => False) wb w') rfl rfl (by go_simp)
            ((DH.out _ b c hS).mono fun e w' ⟨R, cap, he, h2, h3⟩ => ⟨_, he, R, cap, rfl, h2, h3⟩) _ _ rfl rfl ?_
          rintro u wc ⟨R, cap, rfl, iqc, kc⟩
          have hS := RefH.keep hS kc (fun _ _ _ f => f)
          have tc := tb.quiet kc
          have iqd := (rb2.keep kc fun f => f)
          clear tb rb2 kc hI9
          refine ⟨hS, ?_⟩
          try simp only [Act.put, List.setIfInBounds_toArray, List.set_cons_zero, List.set_cons_succ]
          refine wpAnyH_all (rs := [4]) (by kernel_rfl) (by simp) fun i hI9 => ?_
          obtain rfl : i = 4 := by simpa using hI9
          refine op_call (om := ⟨_, _, _, _, _, _⟩) (fn := 15) (args := #[.slice (some ⟨g, 0, none⟩) zs.length zs.length, .slice R zs.length cap]) (R := fun u w' => u = .bool true ∧ Keeps (fun _ => False) wc w') rfl rfl (by go_simp)
            ((alike_any (some ⟨g, 0, none⟩) R zs zs zs.length cap (iqd.iq _ iqd.lt) iqc (by omega) rfl).mono fun e w' h => ⟨_, h.1, rfl, h.2⟩) _ _ rfl rfl ?_
          rintro u wd ⟨rfl, kd⟩
          have hS := RefH.keep hS kd (fun _ _ _ f => f)
          have td := tc.quiet kd
          have md := SM.mem td.m
          have BD := Lib.hid td.b
          have LL := Lib.hid td.l
          clear tc iqc iqd kd td hI9
          refine ⟨hS, ?_⟩
          try simp only [Act.put, List.setIfInBounds_toArray, List.set_cons_zero, List.set_cons_succ]
          refine wpAnyH_take (oi := ⟨_, _, _, _, _, _⟩) (i := 5) (v := .bool true) rfl (by kernel_rfl) (by kernel_rfl) (by kernel_rfl) (fun _ _ _ h => h) (Or.inl ⟨by rfl, fun _ _ => rfl⟩) hS ?_
          try simp only [Act.put, List.setIfInBounds_toArray, List.set_cons_zero, List.set_cons_succ]
          refine wpAnyH_take (oi := ⟨_, _, _, _, _, _⟩) (i := 6) (v := .pointer (some ⟨p, 0, none⟩)) rfl (by kernel_rfl) (by kernel_rfl) (by kernel_rfl) (fun _ _ _ h => h) (Or.inl ⟨by rfl, fun _ _ => rfl⟩) hS ?_
          try simp only [Act.put, List.setIfInBounds_toArray, List.set_cons_zero, List.set_cons_succ]
          refine wpAnyH_take (oi := ⟨_, _, _, _, _, _⟩) (i := 9) (v := .pointer (some ⟨q, 0, none⟩)) rfl (by kernel_rfl) (by kernel_rfl) (by kernel_rfl) (fun _ _ _ h => h) (Or.inl ⟨by rfl, fun _ _ => rfl⟩) hS ?_
          try simp only [Act.put, List.setIfInBounds_toArray, List.set_cons_zero, List.set_cons_succ]
          refine wpAnyH_take (oi := ⟨_, _, _, _, _, _⟩) (i := 10) (v := .pointer (some ⟨q, 0, none⟩)) rfl (by kernel_rfl) (by kernel_rfl) (by kernel_rfl) (fun _ _ _ h => h) (Or.inl ⟨by rfl, fun _ _ => by go_simp⟩) hS ?_
          try simp only [Act.put, List.setIfInBounds_toArray, List.set_cons_zero, List.set_cons_succ]
          refine wpAnyH_take (oi := ⟨_, _, _, _, _, _⟩) (i := 11) (v := .pointer (some ⟨q, 0, none⟩)) rfl (by kernel_rfl) (by kernel_rfl) (by kernel_rfl) (fun _ _ _ h => h) (Or.inl ⟨by rfl, fun _ _ => by go_simp⟩) hS ?_
          try simp only [Act.put, List.setIfInBounds_toArray, List.set_cons_zero, List.set_cons_succ]
          refine wpAnyH_take (oi := ⟨_, _, _, _, _, _⟩) (i := 12) (v := .slice (some ⟨b, 0, none⟩) 8192 c) rfl (by kernel_rfl) (by kernel_rfl) (by kernel_rfl) (fun _ _ _ h => h) (yif_load rfl 22 (.tmp 77) rfl _ _ rfl fun w h => load_one aggS h.cs.1) hS ?_
          try simp only [Act.put, List.setIfInBounds_toArray, List.set_cons_zero, List.set_cons_succ]
          refine wpAnyH_take (oi := ⟨_, _, _, _, _, _⟩) (i := 13) (v := .string ⟨M.toArray⟩) rfl (by kernel_rfl) (by kernel_rfl) (by kernel_rfl) (fun _ _ _ h => h) (Or.inl ⟨by rfl, fun _ h => ex_convert 22 9 (.tmp 78) rfl _ _ rfl (conv_ref h)⟩) hS ?_
          try simp only [Act.put, List.setIfInBounds_toArray, List.set_cons_zero, List.set_cons_succ]
          refine wpAnyH_all (rs := [7]) (by kernel_rfl) (by simp) fun i hI9 => ?_
          obtain rfl : i = 7 := by simpa using hI9
          refine op_call (om := ⟨_, _, _, _, _, _⟩) (fn := 18) (args := #[.pointer (some ⟨p, 0, none⟩)]) (R := fun u w' => ∃ g, u = .slice (some ⟨g, 0, none⟩) 8192 8192 ∧ Row8 w' g 5 M ∧ MemAt w' p gb mb Z M ∧ Keeps (· = mb) wd w') rfl rfl (by go_simp)
            ((mbytes_at md).mono fun e w' ⟨g, he, h1, h2, h3, h4⟩ => ⟨_, he, g, by rw [md.ml], h2, h3, h4⟩) _ _ rfl rfl ?_
          rintro u we ⟨ge, rfl, re, me, ke⟩
          have hS := RefH.keep hS ke (fun i h1 h2 h3 => by have := TN.out; omega)
          have BE := Lib.hid (Below.and BD.out ke (fun i hi => by have := TN.out; omega) LL.out)
          clear hI9
          refine ⟨hS, ?_⟩
          try simp only [Act.put, List.setIfInBounds_toArray, List.set_cons_zero, List.set_cons_succ]
          refine wpAnyH_all (rs := [8]) (by kernel_rfl) (by simp) fun i hI9 => ?_
          obtain rfl : i = 8 := by simpa using hI9
          refine op_run (om := ⟨_, _, _, _, _, _⟩) (u := .string ⟨M.toArray⟩) (w' := we) rfl rfl (ex_convert 22 9 (.tmp 73) rfl _ _ rfl (conv_row 8192 md.ml re)) _ _ rfl rfl ?_
          rintro u wf ⟨rfl, rfl⟩
          refine ⟨hS, ?_⟩
          clear hI9
          try simp only [Act.put, List.setIfInBounds_toArray, List.set_cons_zero, List.set_cons_succ]
          refine wpAnyH_take (oi := ⟨_, _, _, _, _, _⟩) (i := 14) (v := .bool true) rfl (by kernel_rfl) (by kernel_rfl) (by kernel_rfl) (fun _ _ _ h => h) (Or.inl ⟨by rfl, fun _ _ => by go_simp⟩) hS ?_
          try simp only [Act.put, List.setIfInBounds_toArray, List.set_cons_zero, List.set_cons_succ]
          refine wpAnyH_take (oi := ⟨_, _, _, _, _, _⟩) (i := 15) (v := .bool true) rfl (by kernel_rfl) (by kernel_rfl) (by kernel_rfl) (fun _ _ _ h => h) (Or.inl ⟨by rfl, fun _ _ => by go_simp⟩) hS ?_
          try simp only [Act.put, List.setIfInBounds_toArray, List.set_cons_zero, List.set_cons_succ]
          refine wpAnyH_take (oi := ⟨_, _, _, _, _, _⟩) (i := 16) (v := .bool true) rfl (by kernel_rfl) (by kernel_rfl) (by kernel_rfl) (fun _ _ _ h => h) (Or.inl ⟨by rfl, fun _ _ => rfl⟩) hS ?_
          try simp only [Act.put, List.setIfInBounds_toArray, List.set_cons_zero, List.set_cons_succ]
          refine wpAnyH_done (by kernel_rfl) ?_ _
          try simp only [Act.put, List.setIfInBounds_toArray, List.set_cons_zero, List.set_cons_succ]
          clear hS md me re ke
          go_wp2_with fail
          go_ret
          exact ⟨rfl, BE.out⟩

set_option maxRecDepth 100000 in
theorem lifted (os : Os) (started : os.Started) (H : Type) (enc : TypeId × Value → H) :
    ReturnsInHanded {} Try.checked os 3 .any (Rows.stackActsSpec.pre6 enc Try.prog Try.f3 Rows.stackActsRow.domain false) (Rows.stackActsSpec.post enc Try.prog Try.f3 false true false false) := by
  refine returnsInHanded_of_change_sized (C := Try.checked) own started (by kernel_rfl) Try.func3
    (ChangeSpec.witness6 (enc := enc) (C := Try.checked) false ⟨#[], #[.slice none 0 0, .slice none 0 0], []⟩ 8 (by kernel_rfl) (by kernel_rfl) (by kernel_rfl) (by kernel_rfl)) ?_
  intro W base args ds gs before hval0 hW _ hsz0 _
  have hsz : (DataW.weightsEach Try.prog (Try.f3.params.toList ++ Rows.stackActsSpec.plain.varTypes Try.prog) (ds ++ gs)).all (· ≤ reachBytes) = true := hsz0
  clear hsz0
  have hval : ∀ (j : Nat) t v, Try.f3.params[j]? = some t → args[j]? = some v → Value.okWide Try.prog W .any base t v := hval0
  have hW' := hW
  obtain ⟨p, q, hA0, hV, rfl, _, _⟩ := hW
  have hA : DataW.TrodAll enc Try.prog W 0 (fun _ => true) true Try.f3.params.toList args.toList ds p := hA0
  rw [Try.params3] at hA hval hsz
  obtain ⟨v0, vs0, d0, ds0, p0, q0, hargs, rfl, rfl, h0, r0⟩ := trodAll_cons hA
  obtain ⟨v1, vs1, d1, ds1, p1, q1, rfl, rfl, rfl, h1, r1⟩ := trodAll_cons r0
  obtain ⟨rfl, rfl, rfl⟩ := trodAll_nil r1
  obtain rfl : args = #[v0, v1] := by cases args; simp_all
  obtain ⟨rfl, rfl⟩ := trodVars_none hV
  obtain ⟨A0, len0, c0, rfl⟩ := okWide_slice Try.underlying22 (hval 0 22 v0 rfl rfl)
  have k0 := h0
  have lt0 : ∀ x ∈ p0, x.block < W.heap.size := by obtain ⟨m, hm⟩ := k0; exact DataW.trod_lt m _ _ _ hm
  have q0 := bytes_cap h0
  obtain ⟨x0, rfl, b0, s0⟩ := bytes_in h0
  have l0 := s0 _ _ 0 hsz rfl rfl
  obtain ⟨A1, len1, c1, rfl⟩ := okWide_slice Try.underlying23 (hval 1 23 v1 rfl rfl)
  have k1 := h1
  have lt1 : ∀ x ∈ p1, x.block < W.heap.size := by obtain ⟨m, hm⟩ := k1; exact DataW.trod_lt m _ _ _ hm
  obtain ⟨l1, rfl, o1, s1⟩ := kacts_in h1
  have m1 := s1 _ _ 1 hsz rfl rfl
  clear hA0 hval0
  refine (walk A0 x0 c0 A1 l1 c1 W b0 l0 q0 o1 m1).mono fun e W' ⟨he, bel⟩ => ?_
  subst he
  exact ⟨_, rfl, _, _, _, [], _, [], hW', trodAll_mk1 (shut_bool Try.underlying4 _), (trodAll_cons_mk (Below.trod laidOut (by kernel_rfl) (of_decide_eq_true (by kernel_rfl)) k0 bel lt0) (trodAll_cons_mk (Below.trod laidOut (by kernel_rfl) (of_decide_eq_true (by kernel_rfl)) k1 bel lt1) trodAll_mk0)), rfl, bel.frame _, fun h => by cases h⟩

theorem proved : Rows.StackActsSaid :=
  OpenClaim.holds_of_wide 3 Try.f3 rfl rfl rfl rfl rfl rfl rfl ⟨rfl, rfl, rfl, rfl, rfl⟩ rfl rfl rfl rfl rfl (by kernel_rfl) Try.func3 (by kernel_rfl)
    (of_decide_eq_true (by kernel_rfl)) (by unfold Func.isWrapper; first | (rw [if_pos (by decide +kernel)]; kernel_rfl) | (rw [if_neg (by decide +kernel)]; exact ⟨rfl, rfl⟩))
    (fun os started H enc _ => lifted os started H enc)
#print axioms proved
end Go.Proofs.Ytmaoaeebggpbbaa.stackActs
