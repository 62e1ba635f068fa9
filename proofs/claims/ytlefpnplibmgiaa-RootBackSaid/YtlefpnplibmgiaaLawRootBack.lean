/-
  What is written is read again, and what is read is written as the same bytes: for every input the law RootBack returns true.
  Conditions: none of our own; what the row itself says of its inputs (they can be read as data, each slice within the form's own reach).
-/
import Derived.Test.YtlefpnplibmgiaaFrame
import Derived.ChangeOld
import Derived.Below
import Derived.Deep.QuietTactic
import Derived.BigQuiet
import Derived.WalkSmall
import Derived.Test.YtlefpnplibmgiaaRtAwake
import Derived.Test.YtlefpnplibmgiaaRtIn
import Derived.Test.YtlefpnplibmgiaaRtTorn
namespace Go.Proofs.Ytlefpnplibmgiaa.rootBack
open Go.ChangeShapes Go.WideShapes Go.ChangeAt Go.RowKit
set_option linter.unusedVariables false

theorem own : ownKnob Try.prog.godebug = none := by kernel_rfl
theorem laidOut : laidOutB Try.prog = true := by kernel_rfl

theorem dec_facts {b : List UInt8} (h : decB b = true) : mayB (decG b) (decS b) = true ∧ encL (decG b) (decS b) = b ∧ b.length = 64 := by
  have e1 : decG b = genOf b := by simp [decG, h]
  have e2 : decS b = rdL b (manyOf b) := by simp [decS, h]
  rw [e1, e2]
  simp only [decB, Bool.and_eq_true, decide_eq_true_eq] at h
  exact ⟨h.1.2, h.2, h.1.1.1⟩
theorem enc_fail (g : Nat) (A : Option Addr) (l : List Sn) (c n : Nat) (w : World) (hx : SR w w.heap.size A l) (hl : l.length ≤ 9223372036854775807) (hn : l.length = n) (hm : mayB g l = false) :
    Calls Try.prog 10 #[agR g A n c] w fun e w' => ∃ R c', e = .returned (.tuple #[.slice R 0 c', .int .i64 1]) ∧ Below w.heap.size w w' := by
  subst hn
  refine (enc_any g A l c w hx hl).mono ?_
  rintro e w' ⟨R, c', rfl, _, hb, _⟩
  have e1 : encOut g l = [] := by simp [encOut, hm]
  have e2 : encErr g l = 1 := by simp [encErr, hm]
  exact ⟨R, c', by rw [e1, e2]; rfl, hb⟩

set_option maxHeartbeats 1000000 in
theorem walk (g0 : Nat) (A0 : Option Addr) (l0 : List Sn) (c0 : Nat) (A1 : Option Addr) (x1 : List UInt8) (c1 : Nat) (w : World) (o0 : RootOk w g0 A0 l0) (b1 : BR w w.heap.size A1 x1) (l1 : x1.length ≤ 140737488351232) (q1 : x1.length ≤ c1) :
    Calls Try.prog 6 #[agR g0 A0 l0.length c0, .slice A1 x1.length c1] w fun e w' => e = .returned (.bool true) ∧ Below w.heap.size w w' := by
  have hlen := o0.len
  have hsr := o0.sr
  have i0 : MayInv w (w.alloc (.cells #[.int .u64 (g0 : Int), .slice A0 l0.length c0] 25)) g0 A0 l0.length c0 := ⟨heap_alloc_new _ _, (Below.refl _ _).alloc (Nat.le_refl _) _⟩
  by_cases hbig : 100 < l0.length ∨ 1000 < x1.length
  · go_enter Try.func6, Try.ntmps6
    go_wp2_with fail
    refine (awake_any _).mono ?_
    rintro e w1 ⟨rfl, hb1⟩
    have i1 := i0.below hb1
    have r1 : w1.cell? ⟨w.heap.size, 1, none⟩ = some (.slice A0 l0.length c0) := by rw [cell_of_row _ _ _ _ _ _ i1.blk]; rfl
    have bel := i1.bel
    clear i0 hb1 i1
    by_cases h1 : 100 < l0.length
    · have h1' : (100 : Int) < (l0.length : Int) := by omega
      clear hbig
      go_wp2_with fail
      go_ret
      exact ⟨rfl, bel⟩
    · have h2 : (1000 : Int) < (x1.length : Int) := by omega
      have h1' : ¬ (100 : Int) < (l0.length : Int) := by omega
      clear hbig
      go_wp2_with fail
      go_ret
      exact ⟨rfl, bel⟩
  · have h1' : ¬ (100 : Int) < (l0.length : Int) := by omega
    have h2' : ¬ (1000 : Int) < (x1.length : Int) := by omega
    clear hbig
    go_enter Try.func6, Try.ntmps6
    go_wp2_with fail
    refine (awake_any _).mono ?_
    rintro e w1 ⟨rfl, hb1⟩
    have i1 := i0.below hb1
    have r0 : w1.cell? ⟨w.heap.size, 0, none⟩ = some (.int .u64 (g0 : Int)) := by rw [cell_of_row _ _ _ _ _ _ i1.blk]; rfl
    have r1 : w1.cell? ⟨w.heap.size, 1, none⟩ = some (.slice A0 l0.length c0) := by rw [cell_of_row _ _ _ _ _ _ i1.blk]; rfl
    clear i0 hb1
    go_wp2_with fail
    clear h1' h2'
    cases hm : mayB g0 l0
    · have HM := Lib.hid hm
      clear hm
      refine (enc_fail g0 A0 l0 c0 _ w1 ((hsr.below i1.bel).more i1.bel.size) hlen rfl HM.out).mono ?_
      rintro e w2 ⟨R2, c2, rfl, b2⟩
      have i2 := i1.below b2
      have bel := i2.bel
      clear i1 b2 r0 r1 i2
      go_wp2_with fail
      refine (dec_any A1 x1 c1 w2 ((b1.below bel).more bel.size) q1).mono ?_
      rintro e w6 ⟨R6, c6, rfl, s6, b6, _⟩
      have hE6 := decE_is x1
      generalize hd6 : decE x1 = d6 at *
      clear hd6
      have bw6 := bel.trans (b6.mono bel.size)
      clear b6 bel
      have b7 : Below w6.heap.size w6 (w6.alloc (.cells #[.int .u64 (decG x1 : Int), .slice R6 (decS x1).length c6] 25)) := (Below.refl _ _).alloc (Nat.le_refl _) _
      have bw7 := bw6.trans (b7.mono bw6.size)
      have s7 := (s6.below b7).more b7.size
      clear b7 s6 bw6
      rcases hE6 with ⟨hb6, rfl⟩ | ⟨hb6, rfl⟩
      · have HF := Lib.hid (dec_facts hb6)
        clear hb6
        go_wp2_with fail
        refine (enc_good (decG x1) R6 (decS x1) c6 _ _ s7 (decS_len _) rfl HF.out.1).mono ?_
        rintro e w8 ⟨R8, c8, rfl, br8, b8, _⟩
        rw [HF.out.2.1] at br8
        have bw8 := bw7.trans (b8.mono bw7.size)
        have hx8 := (b1.below bw8).more bw8.size
        clear b8 bw7 s7
        go_wp2_with fail
        refine (same_len A1 x1 c1 _ R8 x1 c8 64 w8 hx8 br8 rfl HF.out.2.2).mono ?_
        rintro e w9 ⟨rfl, rfl⟩
        go_wp2_with fail
        go_ret
        exact ⟨ret_bool (by simp), bw8⟩
      · clear hb6
        go_wp2_with fail
        go_ret
        exact ⟨rfl, bw7⟩
    · have HM := Lib.hid hm
      clear hm
      refine (enc_good g0 A0 l0 c0 _ w1 ((hsr.below i1.bel).more i1.bel.size) hlen rfl HM.out).mono ?_
      rintro e w2 ⟨R2, c2, rfl, br2, b2, hc2⟩
      have i2 := i1.below b2
      clear i1 b2 r0 r1
      have hde := dec_enc g0 l0 HM.out o0.hg o0.hs
      have HDE := Lib.hid hde
      clear hde
      go_wp2_with fail
      refine (dec_good R2 (encL g0 l0) c2 64 g0 w2 br2 (encL_len _ _) hc2 HDE.out.1 HDE.out.2.1).mono ?_
      rintro e w3 ⟨R3, c3, rfl, s3, b3⟩
      rw [HDE.out.2.2] at s3 ⊢
      have i3 := i2.below b3
      clear i2 b3 br2
      have b4 : Below w3.heap.size w3 (w3.alloc (.cells #[.int .u64 (g0 : Int), .slice R3 l0.length c3] 25)) := (Below.refl _ _).alloc (Nat.le_refl _) _
      have i4 := i3.below b4
      have s4 := (s3.below b4).more b4.size
      have s4' := (hsr.below i4.bel).more i4.bel.size
      have x0' : (w3.alloc (.cells #[.int .u64 (g0 : Int), .slice R3 l0.length c3] 25)).cell? ⟨w.heap.size, 0, none⟩ = some (.int .u64 (g0 : Int)) := by rw [cell_of_row _ _ _ _ _ _ i4.blk]; rfl
      have x1' : (w3.alloc (.cells #[.int .u64 (g0 : Int), .slice R3 l0.length c3] 25)).cell? ⟨w.heap.size, 1, none⟩ = some (.slice A0 l0.length c0) := by rw [cell_of_row _ _ _ _ _ _ i4.blk]; rfl
      clear b4 i3 s3
      go_wp2_with fail
      refine (sameR_is true _ _ _ _ _ _ _ _ _ s4' s4 hlen hlen (by simp)).mono ?_
      rintro e w5 ⟨rfl, b5⟩
      have i5 := i4.below b5
      have bel := i5.bel
      clear i4 b5 s4 s4' x0' x1' i5
      go_wp2_with fail
      refine (dec_any A1 x1 c1 w5 ((b1.below bel).more bel.size) q1).mono ?_
      rintro e w6 ⟨R6, c6, rfl, s6, b6, _⟩
      have hE6 := decE_is x1
      generalize hd6 : decE x1 = d6 at *
      clear hd6
      have bw6 := bel.trans (b6.mono bel.size)
      clear b6 bel
      have b7 : Below w6.heap.size w6 (w6.alloc (.cells #[.int .u64 (decG x1 : Int), .slice R6 (decS x1).length c6] 25)) := (Below.refl _ _).alloc (Nat.le_refl _) _
      have bw7 := bw6.trans (b7.mono bw6.size)
      have s7 := (s6.below b7).more b7.size
      clear b7 s6 bw6
      rcases hE6 with ⟨hb6, rfl⟩ | ⟨hb6, rfl⟩
      · have HF := Lib.hid (dec_facts hb6)
        clear hb6
        go_wp2_with fail
        refine (enc_good (decG x1) R6 (decS x1) c6 _ _ s7 (decS_len _) rfl HF.out.1).mono ?_
        rintro e w8 ⟨R8, c8, rfl, br8, b8, _⟩
        rw [HF.out.2.1] at br8
        have bw8 := bw7.trans (b8.mono bw7.size)
        have hx8 := (b1.below bw8).more bw8.size
        clear b8 bw7 s7
        go_wp2_with fail
        refine (same_len A1 x1 c1 _ R8 x1 c8 64 w8 hx8 br8 rfl HF.out.2.2).mono ?_
        rintro e w9 ⟨rfl, rfl⟩
        go_wp2_with fail
        go_ret
        exact ⟨ret_bool (by simp), bw8⟩
      · clear hb6
        go_wp2_with fail
        go_ret
        exact ⟨rfl, bw7⟩

set_option maxRecDepth 100000 in
theorem lifted (os : Os) (started : os.Started) (H : Type) (enc : TypeId × Value → H) :
    ReturnsInHanded {} Try.checked os 6 .any (Rows.rootBackSpec.pre6 enc Try.prog Try.f6 Rows.rootBackRow.domain false) (Rows.rootBackSpec.post enc Try.prog Try.f6 false true false false) := by
  refine returnsInHanded_of_change_sized (C := Try.checked) own started (by kernel_rfl) Try.func6
    (ChangeSpec.witness6 (enc := enc) (C := Try.checked) false ⟨#[], #[.agg #[.int .u64 0, .slice none 0 0], .slice none 0 0], []⟩ 8 (by kernel_rfl) (by kernel_rfl) (by kernel_rfl) (by kernel_rfl)) ?_
  intro W base args ds gs before hval0 hW _ hsz0 _
  have hsz : (DataW.weightsEach Try.prog (Try.f6.params.toList ++ Rows.rootBackSpec.plain.varTypes Try.prog) (ds ++ gs)).all (· ≤ reachBytes) = true := hsz0
  clear hsz0
  have hval : ∀ (j : Nat) t v, Try.f6.params[j]? = some t → args[j]? = some v → Value.okWide Try.prog W .any base t v := hval0
  have hW' := hW
  obtain ⟨p, q, hA0, hV, rfl, _, _⟩ := hW
  have hA : DataW.TrodAll enc Try.prog W 0 (fun _ => true) true Try.f6.params.toList args.toList ds p := hA0
  rw [Try.params6] at hA hval hsz
  obtain ⟨v0, vs0, d0, ds0, p0, q0, hargs, rfl, rfl, h0, r0⟩ := trodAll_cons hA
  obtain ⟨v1, vs1, d1, ds1, p1, q1, rfl, rfl, rfl, h1, r1⟩ := trodAll_cons r0
  obtain ⟨rfl, rfl, rfl⟩ := trodAll_nil r1
  obtain rfl : args = #[v0, v1] := by cases args; simp_all
  obtain ⟨rfl, rfl⟩ := trodVars_none hV
  have k0 := h0
  have lt0 : ∀ x ∈ p0, x.block < W.heap.size := by obtain ⟨m, hm⟩ := k0; exact DataW.trod_lt m _ _ _ hm
  obtain ⟨g0, A0, l0, c0, rfl, o0⟩ := root_in (hval 0 25 v0 rfl rfl) h0
  obtain ⟨A1, len1, c1, rfl⟩ := okWide_slice Try.underlying27 (hval 1 27 v1 rfl rfl)
  have k1 := h1
  have lt1 : ∀ x ∈ p1, x.block < W.heap.size := by obtain ⟨m, hm⟩ := k1; exact DataW.trod_lt m _ _ _ hm
  have q1 := bytes_cap h1
  obtain ⟨x1, rfl, b1, s1⟩ := bytes_in h1
  have l1 := s1 _ _ 1 hsz rfl rfl
  clear hA0 hval0
  refine (walk g0 A0 l0 c0 A1 x1 c1 W o0 b1 l1 q1).mono fun e W' ⟨he, bel⟩ => ?_
  subst he
  exact ⟨_, rfl, _, _, _, [], _, [], hW', trodAll_mk1 (shut_bool Try.underlying4 _), (trodAll_cons_mk (Below.trod laidOut (by kernel_rfl) (of_decide_eq_true (by kernel_rfl)) k0 bel lt0) (trodAll_cons_mk (Below.trod laidOut (by kernel_rfl) (of_decide_eq_true (by kernel_rfl)) k1 bel lt1) trodAll_mk0)), rfl, bel.frame _, fun h => by cases h⟩

theorem proved : Rows.RootBackSaid :=
  OpenClaim.holds_of_wide 6 Try.f6 rfl rfl rfl rfl rfl rfl rfl ⟨rfl, rfl, rfl, rfl, rfl⟩ rfl rfl rfl rfl rfl (by kernel_rfl) Try.func6 (by kernel_rfl)
    (of_decide_eq_true (by kernel_rfl)) (by unfold Func.isWrapper; first | (rw [if_pos (by decide +kernel)]; kernel_rfl) | (rw [if_neg (by decide +kernel)]; exact ⟨rfl, rfl⟩))
    (fun os started H enc _ => lifted os started H enc)
#print axioms proved
end Go.Proofs.Ytlefpnplibmgiaa.rootBack
