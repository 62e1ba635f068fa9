/-
  SkPair
-/
import Derived.Test.YtmaoaeebggpbbaaSkAlk
import Derived.Test.YtmaoaeebggpbbaaSkClr
import Derived.Test.YtmaoaeebggpbbaaSkCont
namespace Go.Proofs.Ytmaoaeebggpbbaa.Sk
open Go.RowKit Go.Maps Mm Hd
set_option linter.unusedVariables false
set_option linter.unusedSimpArgs false

/-- Both memories beside each other: the code's from L on, below mi, is M; the document's from mi on is B. -/
structure Tw (L : Nat) (w0 w : World) (p gb mb mi q d e : Nat) (Z M B : List UInt8) : Prop where
  m : SM w (some ⟨p, 0, none⟩) p gb mb true Z M
  r : ∃ b c, RefH w mi q b c d e B Z
  n : L ≤ p ∧ L ≤ gb ∧ L ≤ mb ∧ p < mi ∧ gb < mi ∧ mb < mi
  b : Below L w0 w
  l : L ≤ w0.heap.size
variable {L : Nat} {w0 w w' : World} {p gb mb mi q d e : Nat} {Z M M' B B' : List UInt8}
theorem Tw.code (h : Tw L w0 w p gb mb mi q d e Z M B) (m : SM w' (some ⟨p, 0, none⟩) p gb mb true Z M') (k : Keeps (SF true p mb) w w') : Tw L w0 w' p gb mb mi q d e Z M' B := by
  obtain ⟨b, c, hr⟩ := h.r
  have n := h.n
  exact ⟨m, ⟨b, c, hr.keep k fun i h1 h2 f => by rcases f.2 with rfl | rfl <;> omega⟩, n, Below.and h.b k (fun i f => by rcases f.2 with rfl | rfl <;> omega) h.l, h.l⟩
theorem Tw.doc {b c : Nat} (h : Tw L w0 w p gb mb mi q d e Z M B) (hr : RefH w mi q b c d e B Z) (dn : Dn w mi q b d e Z B' w') : Tw L w0 w' p gb mb mi q d e Z M B' := by
  obtain ⟨b', c', hb, hr'⟩ := dn.ref
  have n := h.n
  have q0 := hr.q0
  have q1 := hr.now.lt'.1
  have s := h.b.size
  have l := h.l
  exact ⟨h.m.keepG dn.kp (fun i f x => by rcases f with rfl | rfl <;> rcases x.2 with rfl | rfl | rfl <;> omega), ⟨b', c', hr'⟩, n, Below.and h.b dn.kp (fun i f => by omega) l, l⟩
theorem Tw.quiet (h : Tw L w0 w p gb mb mi q d e Z M B) (k : Keeps (fun _ => False) w w') : Tw L w0 w' p gb mb mi q d e Z M B := by
  obtain ⟨b, c, hr⟩ := h.r
  exact ⟨h.m.keep k fun _ _ f => f, ⟨b, c, hr.keep k fun _ _ _ f => f⟩, h.n, Below.and h.b k (fun _ f => f.elim) h.l, h.l⟩
def CodeD (p gb mb : Nat) (Z M : List UInt8) (f : FuncId) (args : Array Value) (V : Value) (M' : List UInt8) : Prop := ∀ W, SM W (some ⟨p, 0, none⟩) p gb mb true Z M → Calls Try.prog f (#[.pointer (some ⟨p, 0, none⟩)] ++ args) W (OutS W (some ⟨p, 0, none⟩) p gb mb true Z M' V)
def DocD (mi q d e : Nat) (Z M : List UInt8) (f : FuncId) (args : Array Value) (V : Value) (M' : List UInt8) : Prop := ∀ W b c, RefH W mi q b c d e M Z → Calls Try.prog f (#[.pointer (some ⟨q, 0, none⟩)] ++ args) W (DocO W mi q b d e Z M' V)
variable (p gb mb mi q d e : Nat) (Z M : List UInt8)
theorem doc_of {f : FuncId} {args : Array Value} {V : Value} (h : ∀ W b c, RefH W mi q b c d e M Z → Calls Try.prog f (#[.pointer (some ⟨q, 0, none⟩)] ++ args) W fun en w' => en = .returned V ∧ W = w') : DocD mi q d e Z M f args V M := fun W b c hr => (h W b c hr).mono fun en w' x => ⟨x.1, x.2 ▸ Dn.quiet hr (Keeps.refl _ _)⟩
theorem pair_Push (n : Int) : ∃ r M', CodeD p gb mb Z M 19 #[.int .i64 n] (.int .i64 r) M' ∧ DocD mi q d e Z M 31 #[.int .i64 n] (.int .i64 r) M' := by
  have l := dD_le M
  have ht := dD_top M
  by_cases c : dD M < 32
  · refine ⟨0, laysL M 32 (512 - 8 * (dD M : Int)) [n], fun W h => Push_ok h n c, fun W b cc hr => ?_⟩
    rw [← pushes_lays (by omega) _ _ _ (by simp; omega)]
    exact rPush_ok hr (dD M) c ht n
  · exact ⟨(-3), M, fun W h => Push_over h n fun _ => by omega, fun W b cc hr => rPush_over hr (by rw [ht, show dD M = 32 by omega]; rfl) n⟩
theorem pair_Pop : ∃ x r M', CodeD p gb mb Z M 21 #[] (.tuple #[.int .i64 x, .int .i64 r]) M' ∧ DocD mi q d e Z M 32 #[] (.tuple #[.int .i64 x, .int .i64 r]) M' := by
  have l := dD_le M
  have ht := dD_top M
  by_cases c : 1 ≤ dD M
  · refine ⟨cel M (512 - 8 * (dD M : Int)), 0, takM M 32 (512 - 8 * (dD M : Int)) 1, fun W h => Pop_ok h c, fun W b cc hr => ?_⟩
    rw [take_one_is]
    exact rPop_ok hr (dD M) l c ht
  · exact ⟨0, (-4), M, fun W h => Pop_under h (by omega), fun W b cc hr => rPop_under hr (by rw [ht, show dD M = 0 by omega]; rfl)⟩
theorem pair_At (n : Int) : ∃ x r, CodeD p gb mb Z M 24 #[.int .i64 n] (.tuple #[.int .i64 x, .int .i64 r]) M ∧ DocD mi q d e Z M 36 #[.int .i64 n] (.tuple #[.int .i64 x, .int .i64 r]) M := by
  have l := dD_le M
  have ht := dD_top M
  by_cases c : n < 0 ∨ (dD M : Int) ≤ n
  · exact ⟨0, (-4), fun W h => At_no h n c, doc_of mi q d e Z M fun W b cc hr => rAt_no hr (dD M) l ht n c⟩
  · obtain ⟨m, rfl⟩ := Int.eq_ofNat_of_zero_le (show 0 ≤ n by omega)
    exact ⟨_, 0, fun W h => At_ok h m (by omega), doc_of mi q d e Z M fun W b cc hr => rAt_ok hr (dD M) l ht m (by omega)⟩
theorem pair_Depth : CodeD p gb mb Z M 11 #[] (.int .i64 (dD M : Int)) M ∧ DocD mi q d e Z M 12 #[] (.int .i64 (dD M : Int)) M :=
  ⟨fun W h => Depth_any h, doc_of mi q d e Z M fun W b cc hr => rDepth_at hr (dD M) (dD_le M) (dD_top M)⟩
theorem pair_RPush (n : Int) : ∃ r M', CodeD p gb mb Z M 20 #[.int .i64 n] (.int .i64 r) M' ∧ DocD mi q d e Z M 33 #[.int .i64 n] (.int .i64 r) M' := by
  have l := dB_le M
  have ht := dB_top M
  by_cases c : dB M < 32
  · refine ⟨0, laysL M 40 (768 - 8 * (dB M : Int)) [n], fun W h => RPush_ok h n c, fun W b cc hr => ?_⟩
    rw [← pushes_lays (by omega) _ _ _ (by simp; omega)]
    exact rRPush_ok hr (dB M) c ht n
  · exact ⟨(-5), M, fun W h => RPush_over h n fun _ => by omega, fun W b cc hr => rRPush_over hr (by rw [ht, show dB M = 32 by omega]; rfl) n⟩
theorem pair_RPop : ∃ x r M', CodeD p gb mb Z M 22 #[] (.tuple #[.int .i64 x, .int .i64 r]) M' ∧ DocD mi q d e Z M 34 #[] (.tuple #[.int .i64 x, .int .i64 r]) M' := by
  have l := dB_le M
  have ht := dB_top M
  by_cases c : 1 ≤ dB M
  · refine ⟨cel M (768 - 8 * (dB M : Int)), 0, takM M 40 (768 - 8 * (dB M : Int)) 1, fun W h => RPop_ok h c, fun W b cc hr => ?_⟩
    rw [take_one_is]
    exact rRPop_ok hr (dB M) l c ht
  · exact ⟨0, (-6), M, fun W h => RPop_under h (by omega), fun W b cc hr => rRPop_under hr (by rw [ht, show dB M = 0 by omega]; rfl)⟩
theorem pair_RAt (n : Int) : ∃ x r, CodeD p gb mb Z M 37 #[.int .i64 n] (.tuple #[.int .i64 x, .int .i64 r]) M ∧ DocD mi q d e Z M 38 #[.int .i64 n] (.tuple #[.int .i64 x, .int .i64 r]) M := by
  have l := dB_le M
  have ht := dB_top M
  by_cases c : n < 0 ∨ (dB M : Int) ≤ n
  · exact ⟨0, (-6), fun W h => RAt_no h n c, doc_of mi q d e Z M fun W b cc hr => rRAt_no hr (dB M) l ht n c⟩
  · obtain ⟨m, rfl⟩ := Int.eq_ofNat_of_zero_le (show 0 ≤ n by omega)
    exact ⟨_, 0, fun W h => RAt_ok h m (by omega), doc_of mi q d e Z M fun W b cc hr => rRAt_ok hr (dB M) l ht m (by omega)⟩
theorem pair_Deep : CodeD p gb mb Z M 13 #[] (.int .i64 (dB M : Int)) M ∧ DocD mi q d e Z M 14 #[] (.int .i64 (dB M : Int)) M :=
  ⟨fun W h => Deep_any h, doc_of mi q d e Z M fun W b cc hr => rDeep_at hr (dB M) (dB_le M) (dB_top M)⟩
/-- Numbers, a throw; where the numbers lie. -/
def TkO (w : World) (zs : List Int) (r : Int) (Q : World → Prop) (en : Ending) (w' : World) : Prop := ∃ R c, en = .returned (.tuple #[.slice R zs.length c, .int .i64 r]) ∧ IQ w' w'.heap.size R zs ∧ (∀ ad, R = some ad → w.heap.size ≤ ad.block) ∧ Q w'
theorem pair_Takes (n : Int) : ∃ zs r M', (zs : List Int).length ≤ 32 ∧ (∀ W, SM W (some ⟨p, 0, none⟩) p gb mb true Z M → Calls Try.prog 25 #[.pointer (some ⟨p, 0, none⟩), .int .i64 n] W (TkO W zs r fun w' => SM w' (some ⟨p, 0, none⟩) p gb mb true Z M' ∧ Keeps (SF true p mb) W w')) ∧
    ∀ W b c, RefH W mi q b c d e M Z → Calls Try.prog 39 #[.pointer (some ⟨q, 0, none⟩), .int .i64 n] W (TkO W zs r fun w' => Dn W mi q b d e Z M' w') := by
  have l := dD_le M
  have ht := dD_top M
  have tl := takeL_len M (512 - 8 * (dD M : Int)) n.toNat
  by_cases c : n ≤ (dD M : Int)
  · refine ⟨takeL M (512 - 8 * (dD M : Int)) n.toNat, 0, takM M 32 (512 - 8 * (dD M : Int)) n.toNat, by rw [tl]; omega, fun W h => (Takes_ok h n c (.inl rfl)).mono ?_, fun W b cc hr => (rTakes_any hr (dD M) l ht n c).mono ?_⟩
    · rintro en w' ⟨g, rfl, h1, h2, h3, h4⟩
      exact ⟨_, _, rfl, h2.iq _ h2.lt, fun ad e => by cases e; exact h1, h3, h4⟩
    · rintro en w' ⟨g, rfl, h1, h2, h3⟩
      exact ⟨_, _, rfl, h2.iq _ h2.lt, fun ad e => by cases e; exact h1, h3⟩
  · refine ⟨[], -4, M, by simp, fun W h => (Takes_under h n (by omega)).mono ?_, fun W b cc hr => (rTakes_under hr (dD M) l ht n (by omega)).mono ?_⟩
    · rintro en w' ⟨rfl, h3, h4⟩
      exact ⟨none, 0, rfl, fun h => absurd rfl h, fun ad e => (by cases e), h3, h4⟩
    · rintro en w' ⟨rfl, h3⟩
      exact ⟨none, 0, rfl, fun h => absurd rfl h, fun ad e => (by cases e), h3⟩
theorem pair_Lays (A : Option Addr) (l : List Int) (cp : Nat) : ∃ r M', (∀ W, SM W (some ⟨p, 0, none⟩) p gb mb true Z M → IQ W W.heap.size A l → (∀ ad, A = some ad → l ≠ [] → ad.block ≠ p ∧ ad.block ≠ mb) → Calls Try.prog 40 #[.pointer (some ⟨p, 0, none⟩), .slice A l.length cp] W (OutS W (some ⟨p, 0, none⟩) p gb mb true Z M' (.int .i64 r))) ∧
    ∀ W b c, RefH W mi q b c d e M Z → IQ W W.heap.size A l → (∀ ad, A = some ad → l ≠ [] → ad.block ≠ q ∧ ad.block ≠ b) → Calls Try.prog 41 #[.pointer (some ⟨q, 0, none⟩), .slice A l.length cp] W (DocO W mi q b d e Z M' (.int .i64 r)) := by
  have ll := dD_le M
  have ht := dD_top M
  by_cases c : dD M + l.length ≤ 32
  · exact ⟨0, _, fun W h hq hA => Lays_ok h A l cp c hq fun ad e1 e2 x => by
      have := hA ad e1 e2
      rcases x.2 with x | x
      · exact this.1 x
      · exact this.2 x, fun W b cc hr hq hA => rLays_ok hr (dD M) ll ht A l cp c hq hA⟩
  · exact ⟨-3, M, fun W h hq hA => Lays_over h A _ cp (fun _ => by omega) (fun x => by cases x), fun W b cc hr hq hA => rLays_over hr (dD M) ll ht A _ cp (by omega)⟩
theorem pair_Clear : ∃ M', CodeD p gb mb Z M 23 #[] (.tuple #[]) M' ∧ DocD mi q d e Z M 42 #[] (.tuple #[]) M' :=
  ⟨_, fun W h => Clear_any h, fun W b cc hr => rClear_at hr⟩
theorem pair_Set (n : Int) : ∃ M', CodeD p gb mb Z M 26 #[.int .i64 32, .int .i64 n] (.tuple #[]) M' ∧ DocD mi q d e Z M 43 #[.int .i64 32, .int .i64 n] (.tuple #[]) M' :=
  ⟨_, fun W h => sset h 32 n (by omega) (by omega), fun W b cc hr => rset2_at hr 32 n (by omega) (by omega)⟩
theorem pair_Cells : ∃ zs, (zs : List Int).length ≤ 32 ∧ (∀ W, SM W (some ⟨p, 0, none⟩) p gb mb true Z M → Calls Try.prog 16 #[.pointer (some ⟨p, 0, none⟩)] W (GivesL W (some ⟨p, 0, none⟩) p gb mb true Z M zs)) ∧ ∀ W b c, RefH W mi q b c d e M Z → Calls Try.prog 17 #[.pointer (some ⟨q, 0, none⟩)] W (GivesQ W zs) :=
  ⟨_, by rw [takeL_len]; exact dD_le M, fun W h => Cells_any h, fun W b cc hr => rCells_any hr (dD M) (dD_le M) (dD_top M)⟩
set_option maxRecDepth 100000 in
theorem place_any (n : Int) : ∃ z : Int, -5 ≤ z ∧ z ≤ 100 ∧ ∀ W, Calls Try.prog 35 #[.int .i64 n] W fun en w' => en = .returned (.int .i64 z) ∧ W = w' := by
  by_cases c1 : n < -5
  · refine ⟨-5, by omega, by omega, fun W => ?_⟩
    go_enter Try.func35, Try.ntmps35
    go_wp2_with fail
    go_ret
    exact ⟨rfl, rfl⟩
  · by_cases c2 : 100 < n
    · refine ⟨100, by omega, by omega, fun W => ?_⟩
      go_enter Try.func35, Try.ntmps35
      go_wp2_with fail
      go_ret
      exact ⟨rfl, rfl⟩
    · refine ⟨n, by omega, by omega, fun W => ?_⟩
      go_enter Try.func35, Try.ntmps35
      go_wp2_with fail
      all_goals
        go_ret
        exact ⟨rfl, rfl⟩
end Go.Proofs.Ytmaoaeebggpbbaa.Sk
