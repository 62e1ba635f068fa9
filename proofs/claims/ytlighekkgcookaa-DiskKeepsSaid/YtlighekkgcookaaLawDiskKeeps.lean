/-
  What was flushed is lost by no fate: for every input the law DiskKeeps returns true.
  Conditions: none of our own; what the row itself says of its inputs (they can be read as data, each slice within the form's own reach).
-/
import Derived.Test.YtlighekkgcookaaFrame
import Derived.ChangeOld
import Derived.Below
import Derived.Deep.QuietTactic
import Derived.BigQuiet
import Derived.WalkSmall
import Derived.Test.YtlighekkgcookaaAwake2
import Derived.Test.YtlighekkgcookaaActsIn
import Derived.Test.YtlighekkgcookaaDkKeep
import Derived.Test.YtlighekkgcookaaBoth
namespace Go.Proofs.Ytlighekkgcookaa.diskKeeps
open Go.ChangeShapes Go.WideShapes Go.ChangeAt Go.RowKit
set_option linter.unusedVariables false

theorem own : ownKnob Try.prog.godebug = none := by kernel_rfl
theorem laidOut : laidOutB Try.prog = true := by kernel_rfl

theorem fate_arg {H : Type} {enc : TypeId × Value → H} {W : World} {r : Reach} {b0 : Nat} {v : Value} {d : DataW H} {p : List MemPlace} (hv : Value.okWide Try.prog W r b0 33 v) (h : DataW.Trod enc Try.prog W 0 (fun _ => true) true 33 v d p) : ∃ f : Fate, v = agf f ∧ f.Ok := by
  obtain ⟨cs, rfl, hsz⟩ := okWide_struct Try.underlying33 hv
  obtain ⟨fuel, hf⟩ := h
  obtain ⟨f, e, ho⟩ := fate_in hf
  refine ⟨f, ?_, ho⟩
  have : (Value.agg cs).cells = cs := rfl
  rw [this] at e
  unfold agf
  rw [Array.toList_inj.1 e]
/-- A disk whose power stays, in blocks from B on that are there. -/
def Alive (w : World) (B : Nat) (p : Nat) (k : Nat) : Prop := ∃ (D : DSt) (F : Nat → Prop), On D ∧ D.Q.length ≤ k ∧ D.acts ≤ k ∧ Dk w F p D ∧ ∀ b, F b → B ≤ b ∧ b < w.heap.size

set_option maxHeartbeats 1000000 in
theorem walk (A0 : Option Addr) (x0 : List UInt8) (c0 : Nat) (A1 : Option Addr) (l1 : List ActV) (c1 : Nat) (f2 : Fate) (w : World) (b0 : BR w w.heap.size A0 x0) (l0 : x0.length ≤ 140737488351232) (q0 : x0.length ≤ c0) (o1 : ActsOk w A1 l1) (m1 : l1.length ≤ 1954687338211) (o2 : f2.Ok) :
    Calls Try.prog 5 #[.slice A0 x0.length c0, .slice A1 l1.length c1, agf f2] w fun e w' => e = .returned (.bool true) ∧ Below w.heap.size w w' := by
  by_cases hbig : 3000 < x0.length
  · go_enter Try.func5, Try.ntmps5
    go_wp2_with (((with_reducible refine here (op := .box 33 (.tmp 2)) ?_); refine wpList_box_run rfl 33 _ rfl _ _ rfl (box33 _ _) ?_))
    refine (awake_any _).mono ?_
    rintro e w1 ⟨rfl, hb1⟩
    have bw1 : Below w.heap.size w w1 := ((Below.refl _ _).alloc (Nat.le_refl _) _).trans (hb1.mono (by simp))
    go_wp2_with fail
    go_ret
    exact ⟨rfl, bw1⟩
  · go_enter Try.func5, Try.ntmps5
    go_wp2_with (((with_reducible refine here (op := .box 33 (.tmp 2)) ?_); refine wpList_box_run rfl 33 _ rfl _ _ rfl (box33 _ _) ?_))
    refine (awake_any _).mono ?_
    rintro e w1 ⟨rfl, hb1⟩
    have bw1 : Below w.heap.size w w1 := ((Below.refl _ _).alloc (Nat.le_refl _) _).trans (hb1.mono (by simp))
    have vf1 := (hb1.block w.heap.size (by simp)).trans (heap_alloc_last w (.cells (fcells f2) 33))
    have ar1 : AR w1 w1.heap.size A1 l1 := by
      have h := o1.ar.below bw1
      intro hn
      obtain ⟨ad, e, hlt, hc⟩ := h hn
      exact ⟨ad, e, Nat.lt_of_lt_of_le hlt bw1.size, hc⟩
    clear hb1
    go_wp2_with fail
    refine (few_any A1 l1 c1 w1 ar1 m1).mono ?_
    rintro e w2 ⟨⟨b, rfl⟩, hb2⟩
    have bw2 := bw1.trans (hb2.mono bw1.size)
    have hvl : w.heap.size < w1.heap.size := (Array.getElem?_eq_some_iff.1 vf1).1
    have vf2 := (hb2.block _ hvl).trans vf1
    clear ar1 bw1 hb2 vf1 hvl
    cases b
    · go_wp2_with fail
      go_ret
      exact ⟨rfl, bw2⟩
    · have hx2 := (b0.below bw2).more bw2.size
      have hvl : w.heap.size < w2.heap.size := (Array.getElem?_eq_some_iff.1 vf2).1
      go_wp2_with fail
      refine (of_any A0 x0 c0 w2 hx2 (by omega) q0).mono ?_
      rintro e w3 ⟨p, rfl, hd3, k3⟩
      have bB3 : Below w2.heap.size w2 w3 := k3.toBelow _ (Nat.le_refl _) (fun _ h => h.elim)
      have al3 : Alive w3 w2.heap.size p 0 := ⟨ofD x0, fun k => w2.heap.size ≤ k ∧ k < w3.heap.size, On.of x0, Nat.le_refl _, Nat.le_refl _, hd3.mono fun k hk hf => ⟨hf, hk⟩, fun b hb => hb⟩
      clear hd3 k3 hx2
      go_wp2_with fail
      go_loopw [33, 9, 35, 36] (fun i _ _ _ wr => ∃ k : Nat, k ≤ l1.length ∧ i = .int .i64 k ∧ Alive wr w2.heap.size p k ∧ Below w2.heap.size w2 wr) (fun i _ _ _ _ => l1.length - (intOf i).toNat)
      case atStart => exact ⟨0, by omega, rfl, al3, bB3⟩
      case round =>
        clear al3 bB3
        obtain ⟨k, hk, rfl, al, bB⟩ := hrel
        have bw := bw2.trans (bB.mono bw2.size)
        by_cases hlt : k < l1.length
        · obtain ⟨ad, rfl, hlb, d0, d1, d2, d3, d4, d5, d6⟩ := (o1.ar.below bw).at_ hlt
          have hok := o1.ok l1[k] (List.getElem_mem hlt)
          generalize l1[k] = a at *
          obtain ⟨D, F, hon, hq, hac, hd, hF⟩ := al
          have kA : Keeps (fun _ => False) wr (wr.alloc (.cells #[.int .i64 a.do_, .int .i64 a.n, .slice a.A a.xs.length a.c, .int .u64 a.f.stay, .int .i64 a.f.torn, .int .i64 a.f.cut, .bool a.f.head] 35)) := Keeps.alloc _ _ _
          have hdA := hd.keep kA fun _ _ _ h => h
          have bA : Below w2.heap.size w2 (wr.alloc (.cells #[.int .i64 a.do_, .int .i64 a.n, .slice a.A a.xs.length a.c, .int .u64 a.f.stay, .int .i64 a.f.torn, .int .i64 a.f.cut, .bool a.f.head] 35)) := bB.alloc bB.size _
          have HON := Lib.hid hon
          by_cases hdo : a.do_ = 0
          · have hdo' : (a.do_ == 0) = true := by simpa using hdo
            clear hdo
            go_wp2_with fail
            have brA : BR (wr.alloc (.cells #[.int .i64 a.do_, .int .i64 a.n, .slice a.A a.xs.length a.c, .int .u64 a.f.stay, .int .i64 a.f.torn, .int .i64 a.f.cut, .bool a.f.head] 35)) (wr.alloc (.cells #[.int .i64 a.do_, .int .i64 a.n, .slice a.A a.xs.length a.c, .int .u64 a.f.stay, .int .i64 a.f.torn, .int .i64 a.f.cut, .bool a.f.head] 35)).heap.size a.A a.xs := by
              have h' := bw2.trans (bA.mono bw2.size)
              exact (hok.br.below h').more h'.size
            have hAp : ∀ ad, a.A = some ad → a.xs ≠ [] → ¬ F ad.block := fun ad e hne hf => by
              obtain ⟨ad', e', hlt', _⟩ := hok.br hne
              rw [e] at e'; cases e'
              have := (hF _ hf).1
              have := bw2.size
              omega
            have hsA : wr.heap.size < (wr.alloc (.cells #[.int .i64 a.do_, .int .i64 a.n, .slice a.A a.xs.length a.c, .int .u64 a.f.stay, .int .i64 a.f.torn, .int .i64 a.f.cut, .bool a.f.head] 35)).heap.size := by simp
            refine (write_any hdA a.n a.A a.xs a.c brA hAp (by omega) (by omega)).mono ?_
            rintro e w7 ⟨rfl, hd7, k7⟩
            have bB7 := bA.trans ((k7.toBelow w2.heap.size bA.size (fun b hf => (hF b hf).1)))
            have al7 : Alive w7 w2.heap.size p (k + 1) := by
              have hw := write_len D a.n a.xs
              refine ⟨D.write a.n a.xs, fun b => Gr F (wr.alloc (.cells #[.int .i64 a.do_, .int .i64 a.n, .slice a.A a.xs.length a.c, .int .u64 a.f.stay, .int .i64 a.f.torn, .int .i64 a.f.cut, .bool a.f.head] 35)) b ∧ b < w7.heap.size, HON.out.write _ _, by omega, by omega, hd7.mono fun b hb hg => ⟨hg, hb⟩, ?_⟩
              rintro b ⟨hg | hg, hlt'⟩
              · exact ⟨(hF b hg).1, hlt'⟩
              · exact ⟨by have := bA.size; omega, hlt'⟩
            generalize D.writeErr a.n a.xs = er at *
            clear d0 d1 d2 d3 d4 d5 d6 hd hdA kA bA brA hAp hd7 k7 hq hac hF
            go_wp2_with fail
            go_roundw
            case rel => exact ⟨k + 1, by omega, by go_num, al7, bB7⟩
            case measure => simp [intOf]; omega
          · have hdo' : (a.do_ == 0) = false := by simpa using hdo
            clear hdo
            have alA : Alive (wr.alloc (.cells #[.int .i64 a.do_, .int .i64 a.n, .slice a.A a.xs.length a.c, .int .u64 a.f.stay, .int .i64 a.f.torn, .int .i64 a.f.cut, .bool a.f.head] 35)) w2.heap.size p (k + 1) := ⟨D, F, hon, by omega, by omega, hdA, fun b hb => ⟨(hF b hb).1, Nat.lt_of_lt_of_le (hF b hb).2 kA.size⟩⟩
            have AL := Lib.hid alA
            clear hon hq hac hd hdA hF kA alA
            go_wp2_with fail
            go_roundw
            case rel => exact ⟨k + 1, by omega, by go_num, AL.out, bA⟩
            case measure => simp [intOf]; omega
        · obtain ⟨D, F, hon, hq, hac, hd, hF⟩ := al
          obtain ⟨n, hok⟩ := hd.ok
          have hn := hok.n_le
          have HON := Lib.hid hon
          have HOK := Lib.hid hok
          clear hok hon
          obtain ⟨wT, hwT⟩ : ∃ wT : World, wT = wr := ⟨_, rfl⟩
          subst hwT
          clear bw
          go_wp2_with fail
          go_loopw [11, 10, 12, 13] (fun i v _ _ wr => ∃ j : Nat, j ≤ n ∧ i = .int .i64 j ∧ WasRow wr wT.heap.size D.now j v ∧ Keeps (fun _ => False) wT wr) (fun i _ _ _ _ => n - (intOf i).toNat)
          case atStart => exact ⟨0, by omega, rfl, WasRow.start _ _ _, Keeps.refl _ _⟩
          case round =>
            obtain ⟨j, hj, rfl, was, kp⟩ := hrel
            have hdr := hd.keep kp fun _ _ _ h => h
            by_cases hjn : j < n
            · obtain ⟨A10, cap10, hv10⟩ := was.form
              subst hv10
              go_wp2_with fail
              refine (hdr.lenN HOK.out).mono ?_
              rintro e w' ⟨rfl, rfl⟩
              go_wp2_with fail
              refine (hdr.read HOK.out HON.out.down j hjn _ rfl).mono ?_
              rintro e w5 ⟨R5, c5, rfl, br5, a5, k5⟩
              have hne5 : D.now j ≠ [] := by
                intro e
                have := (now64 HOK.out HON.out.down j hjn).2.2
                rw [e] at this
                simp at this
              have ha5 : ∀ ad, R5 = some ad → wT.heap.size ≤ ad.block ∧ ad.block < (w5.alloc (.cells #[.slice R5 64 c5] 30)).heap.size ∧ (Value.slice A10 j cap10).ownBlock ≠ some ad.block := fun ad e => by
                have h1 := a5 ad e
                have h2 := kp.size
                obtain ⟨ad', e', h3, _⟩ := br5 hne5
                rw [e] at e'; cases e'
                refine ⟨by omega, by simp; omega, fun h => ?_⟩
                have := (was.lt _ h).2
                omega
              have kA : Keeps (fun _ => False) w5 (w5.alloc (.cells #[.slice R5 64 c5] 30)) := Keeps.alloc _ _ _
              have wasA := (was.keep k5 fun _ _ _ h => h).keep kA fun _ _ _ h => h
              have brA := kA.br br5 fun _ _ _ h => h
              have hgA : (w5.alloc (.cells #[.slice R5 64 c5] 30)).cell? ⟨w5.heap.size, 0, none⟩ = some (.slice R5 64 c5) := by rw [cell_of_row _ _ _ _ _ _ (heap_alloc_new w5 (.cells #[.slice R5 64 c5] 30))]; rfl
              have hTA : wT.heap.size ≤ (w5.alloc (.cells #[.slice R5 64 c5] 30)).heap.size := Nat.le_trans (Nat.le_trans kp.size k5.size) kA.size
              have kTA := (kp.trans k5).trans kA
              obtain ⟨v7, w7, hap, was7, k7⟩ := wasA.app hTA (by omega) R5 c5 brA ha5 w5.heap.size 1 44 hgA
              have kp7 : Keeps (fun _ => False) wT w7 := ⟨k7.os.trans kTA.os, k7.tape.trans kTA.tape, k7.output.trans kTA.output, Nat.le_trans kTA.size k7.size, fun b hb _ => (k7.block b (Nat.lt_of_lt_of_le hb kTA.size) (fun e => by have := (wasA.lt b e).1; omega)).trans (kTA.block b hb (fun h => h))⟩
              have HAP := Lib.hid hap
              have WAS := Lib.hid was7
              clear hap was was7 wasA brA hgA hTA kTA kA ha5 hne5 br5 a5 k5 k7 hdr
              go_wp2_with (first | (at_builtin; refine wpList_append_run rfl _ _ 44 rfl _ HAP.out ?_) | fail)
              go_roundw
              case rel => exact ⟨j + 1, by omega, by go_num, WAS.out, kp7⟩
              case measure => simp [intOf]; omega
            · obtain rfl : j = n := by omega
              have hF1 : ∀ b, F b → w2.heap.size ≤ b := fun b hb => (hF b hb).1
              have bBr : Below w2.heap.size w2 wr := bB.trans (kp.toBelow _ bB.size (fun _ h => h.elim))
              have hq' : D.Q.length ≤ 1954687338212 := by omega
              have ha' : D.acts ≤ 1000000000000000 := by omega
              obtain ⟨A10, cap10, hv10⟩ := was.form
              subst hv10
              go_wp2_with fail
              refine (hdr.lenN HOK.out).mono ?_
              rintro e w' ⟨rfl, rfl⟩
              go_wp2_with fail
              refine (flush_any hdr hq' ha').mono ?_
              rintro e w6 ⟨rfl, hd6, k6⟩
              rw [(flush_parts HON.out).2.2]
              have bB6 := bBr.trans (k6.toBelow _ bBr.size hF1)
              have vf6 := (bB6.block _ hvl).trans vf2
              have LF := Lib.hid (load33 vf6)
              have hq6 : D.flush.Q.length ≤ 1954687338212 := by rw [(flush_parts HON.out).2.1]; simp
              go_wp2_with (((with_reducible refine here (op := .load 33 (.tmp 5)) ?_); refine wpList_load_run rfl 33 _ rfl _ _ rfl LF.out ?_))
              refine (restart_any hd6 f2 o2 hq6).mono ?_
              rintro e w7 ⟨rfl, hd7, k7⟩
              have k67 : Keeps (Gr F wr) wr w7 := (k6.mono fun b _ hb => .inl hb).trans k7
              have was7 := was.keep k67 fun b h1 h2 hg => by
                rcases hg with hg | hg
                · have := (hF b hg).2; omega
                · omega
              have bB7 := bB6.trans (k7.toBelow _ bB6.size (fun b hg => by
                rcases hg with hg | hg
                · exact hF1 b hg
                · have := bBr.size; omega))
              obtain ⟨hok7, hdn7, hQ7⟩ := restart_ok HON.out HOK.out f2
              have HN : Hid (∀ i, (D.flush.restart f2).now i = D.now i) := fun i => kept_now HON.out HOK.out f2 i
              generalize hDe : D.flush.restart f2 = D7 at *
              have HOK7 := Lib.hid hok7
              have HQ7 := Lib.hid hQ7
              have HDN := Lib.hid hdn7
              clear hDe hok7 hQ7 hdn7 hd hdr hd6 k6 k7 k67 LF vf6 hq6 was bB6 bBr kp hq' ha' hq hac
              go_wp2_with fail
              go_loopw [71, 14, 15, 16] (fun i _ _ _ wr => ∃ m : Nat, m ≤ j ∧ i = .int .i64 m ∧ Keeps (fun _ => False) w7 wr) (fun i _ _ _ _ => j - (intOf i).toNat)
              case atStart => exact ⟨0, by omega, rfl, Keeps.refl _ _⟩
              case round =>
                obtain ⟨m, hm, rfl, kp⟩ := hrel
                have hdr := hd7.keep kp fun _ _ _ h => h
                by_cases hmj : m < j
                · have hl64 : Hid ((D.now m).length = 64) := (now64 HOK.out HON.out.down m hmj).2.2
                  go_wp2_with fail
                  refine (hdr.read HOK7.out HDN.out m hmj (D.now m) (HN.out m)).mono ?_
                  rintro e w8 ⟨R8, c8, rfl, br8, _, k8⟩
                  have was8 := (was7.keep kp fun _ _ _ h => h).keep k8 fun _ _ _ h => h
                  have kp8 := kp.trans k8
                  obtain ⟨g, cap, R9, c9, hv, hcell, br9⟩ := was8.at_ m hmj
                  cases hv
                  clear was8 hdr k8
                  go_wp2_with fail
                  have cv8 := run_str (P := Try.prog) w8.drew w8.heap.size 30 9 5 R8 (D.now m) c8 br8 Try.underlying30 Try.underlying5 Try.underlying9
                  have cv9 := run_str (P := Try.prog) w8.drew w8.heap.size 30 9 5 R9 (D.now m) c9 br9 Try.underlying30 Try.underlying5 Try.underlying9
                  rw [hl64.out] at cv8 cv9
                  have hcell' : w8.drew.cell? ⟨g, m, none⟩ = some (.slice R9 64 c9) := hcell
                  have kp9 : Keeps (fun _ => False) w7 w8.drew := kp8.trans (Keeps.drew _ _)
                  have hm0 : (0 : Int) ≤ (m : Int) := by omega
                  have hm1 : (m : Int) < (j : Int) := by omega
                  refine wp_region_still_lit (by kernel_rfl) (by kernel_rfl) ?_
                  change wpStill _ _ w8.drew _ _ _
                  clear br8 br9 hcell
                  generalize w8.drew = w9 at *
                  still_step
                  still_step
                  still_step
                  still_step
                  still_step
                  still_step
                  still_step
                  still_step
                  still_step
                  still_step
                  still_step
                  still_step
                  refine wpStill_nil ?_
                  clear cv8 cv9 hcell'
                  go_wp2_with fail
                  go_roundw
                  case rel => exact ⟨m + 1, by omega, by go_num, kp8.trans (Keeps.drew _ _)⟩
                  case measure => simp [intOf]; omega
                · have bBz := bB7.trans (kp.toBelow _ bB7.size (fun _ h => h.elim))
                  clear was7
                  go_wp2_with fail
                  refine (waiting_none hdr HQ7.out).mono ?_
                  rintro e w9 ⟨R9, c9, rfl, k9⟩
                  have bB9 := bBz.trans (k9.toBelow _ bBz.size (fun _ h => h.elim))
                  clear hdr
                  go_wp2_with fail
                  go_ret
                  exact ⟨rfl, bw2.trans (bB9.mono bw2.size)⟩

set_option maxRecDepth 100000 in
theorem lifted (os : Os) (started : os.Started) (H : Type) (enc : TypeId × Value → H) :
    ReturnsInHanded {} Try.checked os 5 .any (Rows.diskKeepsSpec.pre6 enc Try.prog Try.f5 Rows.diskKeepsRow.domain false) (Rows.diskKeepsSpec.post enc Try.prog Try.f5 false true false false) := by
  refine returnsInHanded_of_change_sized (C := Try.checked) own started (by kernel_rfl) Try.func5
    (ChangeSpec.witness6 (enc := enc) (C := Try.checked) false ⟨#[], #[.slice none 0 0, .slice none 0 0, .agg #[.int .u64 0, .int .i64 0, .int .i64 0, .bool false]], []⟩ 8 (by kernel_rfl) (by kernel_rfl) (by kernel_rfl) (by kernel_rfl)) ?_
  intro W base args ds gs before hval0 hW _ hsz0 _
  have hsz : (DataW.weightsEach Try.prog (Try.f5.params.toList ++ Rows.diskKeepsSpec.plain.varTypes Try.prog) (ds ++ gs)).all (· ≤ reachBytes) = true := hsz0
  clear hsz0
  have hval : ∀ (j : Nat) t v, Try.f5.params[j]? = some t → args[j]? = some v → Value.okWide Try.prog W .any base t v := hval0
  have hW' := hW
  obtain ⟨p, q, hA0, hV, rfl, _, _⟩ := hW
  have hA : DataW.TrodAll enc Try.prog W 0 (fun _ => true) true Try.f5.params.toList args.toList ds p := hA0
  rw [Try.params5] at hA hval hsz
  obtain ⟨v0, vs0, d0, ds0, p0, q0, hargs, rfl, rfl, h0, r0⟩ := trodAll_cons hA
  obtain ⟨v1, vs1, d1, ds1, p1, q1, rfl, rfl, rfl, h1, r1⟩ := trodAll_cons r0
  obtain ⟨v2, vs2, d2, ds2, p2, q2, rfl, rfl, rfl, h2, r2⟩ := trodAll_cons r1
  obtain ⟨rfl, rfl, rfl⟩ := trodAll_nil r2
  obtain rfl : args = #[v0, v1, v2] := by cases args; simp_all
  obtain ⟨rfl, rfl⟩ := trodVars_none hV
  obtain ⟨A0, len0, c0, rfl⟩ := okWide_slice Try.underlying30 (hval 0 30 v0 rfl rfl)
  have k0 := h0
  have lt0 : ∀ x ∈ p0, x.block < W.heap.size := by obtain ⟨m, hm⟩ := k0; exact DataW.trod_lt m _ _ _ hm
  have q0 := bytes_cap h0
  obtain ⟨x0, rfl, b0, s0⟩ := bytes_in h0
  have l0 := s0 _ _ 0 hsz rfl rfl
  obtain ⟨A1, len1, c1, rfl⟩ := okWide_slice Try.underlying22 (hval 1 22 v1 rfl rfl)
  have k1 := h1
  have lt1 : ∀ x ∈ p1, x.block < W.heap.size := by obtain ⟨m, hm⟩ := k1; exact DataW.trod_lt m _ _ _ hm
  obtain ⟨l1, rfl, o1, s1⟩ := acts_in h1
  have m1 := s1 _ _ 1 hsz rfl rfl
  have k2 := h2
  have lt2 : ∀ x ∈ p2, x.block < W.heap.size := by obtain ⟨m, hm⟩ := k2; exact DataW.trod_lt m _ _ _ hm
  obtain ⟨f2, rfl, o2⟩ := fate_arg (hval 2 33 v2 rfl rfl) h2
  clear hA0 hval0
  refine (walk A0 x0 c0 A1 l1 c1 f2 W b0 l0 q0 o1 m1 o2).mono fun e W' ⟨he, bel⟩ => ?_
  subst he
  exact ⟨_, rfl, _, _, _, [], _, [], hW', trodAll_mk1 (shut_bool Try.underlying4 _), (trodAll_cons_mk (Below.trod laidOut (by kernel_rfl) (of_decide_eq_true (by kernel_rfl)) k0 bel lt0) (trodAll_cons_mk (Below.trod laidOut (by kernel_rfl) (of_decide_eq_true (by kernel_rfl)) k1 bel lt1) (trodAll_cons_mk (Below.trod laidOut (by kernel_rfl) (of_decide_eq_true (by kernel_rfl)) k2 bel lt2) trodAll_mk0))), rfl, bel.frame _, fun h => by cases h⟩

theorem proved : Rows.DiskKeepsSaid :=
  OpenClaim.holds_of_wide 5 Try.f5 rfl rfl rfl rfl rfl rfl rfl ⟨rfl, rfl, rfl, rfl, rfl⟩ rfl rfl rfl rfl rfl (by kernel_rfl) Try.func5 (by kernel_rfl)
    (of_decide_eq_true (by kernel_rfl)) (by unfold Func.isWrapper; first | (rw [if_pos (by decide +kernel)]; kernel_rfl) | (rw [if_neg (by decide +kernel)]; exact ⟨rfl, rfl⟩))
    (fun os started H enc _ => lifted os started H enc)
#print axioms proved
end Go.Proofs.Ytlighekkgcookaa.diskKeeps
