/-
  FrPair
-/
import Derived.Test.YtefgabnmcfpdcaaGreatDoorFrSame
import Derived.Test.YtefgabnmcfpdcaaGreatDoorGFh
import Derived.Test.YtefgabnmcfpdcaaGreatDoorGFi
import Derived.Test.YtefgabnmcfpdcaaGreatDoorGFk
namespace Go.Proofs.YtefgabnmcfpdcaaGreatDoor.Fr
open Go.RowKit Ex Ino Mm Fs
set_option linter.unusedVariables false
set_option linter.unusedSimpArgs false
variable {W : World} {p gb mb mi q b c d e : Nat} {G Gd M : List UInt8}
def CoOut (W : World) (p gb mb : Nat) (G M : List UInt8) (v : Value) (en : Ending) (W' : World) : Prop := en = .returned v ∧ MemAt W' p gb mb G M ∧ Keeps (fun k => k = p ∨ k = mb) W W'
def DoOut (W : World) (mi q b c d e : Nat) (M G : List UInt8) (v : Value) (en : Ending) (W' : World) : Prop := en = .returned v ∧ RefH W' mi q b c d e M G ∧ Keeps (fun k => k = b) W W'
theorem co_bad {W' : World} {v : Value} {en : Ending} (h : BadOut (fun W => MemAt W p gb mb G M) (· = mb) W v en W') : CoOut W p gb mb G M v en W' := ⟨h.2.2, h.1, h.2.1.mono fun _ _ e => .inr e⟩
theorem do_bad {W' : World} {v : Value} {en : Ending} (hr : RefH W mi q b c d e M Gd) (h : RBad W v en W') : DoOut W mi q b c d e M Gd v en W' := ⟨h.1, hr.keep h.2 fun _ _ _ f => f, h.2.mono fun _ _ f => f.elim⟩
theorem do_ask {W' : World} {v0 v1 : Value} {en : Ending} (hr : RefH W mi q b c d e M Gd) (h : AskOut W (regB M) v0 v1 en W') : (okR (regB M) → DoOut W mi q b c d e M Gd v0 en W') ∧ (¬ okR (regB M) → DoOut W mi q b c d e M Gd v1 en W') := by
 have hk : RefH W' mi q b c d e M Gd ∧ Keeps (fun k => k = b) W W' := ⟨hr.keep h.1 fun _ _ _ f => f, h.1.mono fun _ _ f => f.elim⟩
 rcases h.2 with ⟨ho, he⟩ | ⟨ho, he⟩
 ·exact ⟨fun _ => ⟨he, hk.1, hk.2⟩, fun hn => absurd ho hn⟩
 ·exact ⟨fun hn => absurd hn ho, fun _ => ⟨he, hk.1, hk.2⟩⟩
theorem okkeep (h : MemAt W p gb mb G M) (ho : okR (regB M)) {r : Int} {g' : RG} (hg : r = 0 → RGood g') : okR (regB (if r = 0 then layL M 6144 (bytesL g') else M)) := ((OkM.mk h.ml ho).step (rv := (r, g')) hg).1.ok
theorem rem_ok {g : RG} (h : RGood g) (name : List UInt8) (he : (removeV g name).1 = 0) : RGood (removeV g name).2 := by
 obtain ⟨i, _, _, e, hg⟩ := remove_good h name he
 rw [e]; exact hg
theorem cre_ok {g : RG} (h : RGood g) (name : List UInt8) (he : (createV g name).1 = 0) : RGood (createV g name).2.2 := by
 obtain ⟨i, _, _, e, hg⟩ := create_good h name he
 rw [e]; exact hg
theorem ren_ok {g : RG} (h : RGood g) (f t : List UInt8) (he : (renameV g f t).1 = 0) : RGood (renameV g f t).2 := by
 obtain ⟨i, _, _, _, e, hg⟩ := rename_good h f t he
 rw [e]; exact hg
theorem delete_two (h : MemAt W p gb mb G M) (name : List UInt8) (hn : name.length ≤ 9223372036854775807) : ∃ (v : Int) (M' : List UInt8),
  Calls Tryz.prog 38 #[.pointer (some ⟨p, 0, none⟩), St name] W (CoOut W p gb mb G M' (.int .i64 v)) ∧
  (okR (regB M) → okR (regB M')) ∧ ∀ W', RefH W' mi q b c d e M Gd → Calls Tryz.prog 39 #[.pointer (some ⟨q, 0, none⟩), St name] W' (DoOut W' mi q b c d e M' Gd (.int .i64 v)) := by
 by_cases ho : okR (regB M)
 ·exact ⟨_, _, fdelete_any h ho name hn, fun _ => okkeep h ho (fun e => rem_ok (good_of h.ml ho) name e), fun W' hr => rdelete_any hr ho name hn⟩
 ·exact ⟨120, M, (fdelete_bad (memC_flat h) ho name).mono fun _ _ x => co_bad x, fun h => h, fun W' hr => (rdelete_bad hr ho name hn).mono fun _ _ x => do_bad hr x⟩
theorem create_two (h : MemAt W p gb mb G M) (name : List UInt8) (hn : name.length ≤ 9223372036854775807) : ∃ (n v : Int) (M' : List UInt8),
  Calls Tryz.prog 29 #[.pointer (some ⟨p, 0, none⟩), St name] W (CoOut W p gb mb G M' (.tuple #[.int .i64 n, .int .i64 v])) ∧
  (okR (regB M) → okR (regB M')) ∧ ∀ W', RefH W' mi q b c d e M Gd → Calls Tryz.prog 37 #[.pointer (some ⟨q, 0, none⟩), St name] W' (DoOut W' mi q b c d e M' Gd (.tuple #[.int .i64 n, .int .i64 v])) := by
 by_cases ho : okR (regB M)
 ·exact ⟨_, _, _, fcreate_any h ho name hn, fun _ => okkeep h ho (fun e => cre_ok (good_of h.ml ho) name e), fun W' hr => rcreate_any hr ho name hn⟩
 ·exact ⟨0, 120, M, (fcreate_bad (memC_flat h) ho name).mono fun _ _ x => co_bad x, fun h => h, fun W' hr => (rcreate_bad hr ho name hn).mono fun _ _ x => do_bad hr x⟩
theorem rename_two (h : MemAt W p gb mb G M) (f t : List UInt8) (hf : f.length ≤ 9223372036854775807) (ht : t.length ≤ 9223372036854775807) : ∃ (v : Int) (M' : List UInt8),
  Calls Tryz.prog 40 #[.pointer (some ⟨p, 0, none⟩), St f, St t] W (CoOut W p gb mb G M' (.int .i64 v)) ∧
  (okR (regB M) → okR (regB M')) ∧ ∀ W', RefH W' mi q b c d e M Gd → Calls Tryz.prog 41 #[.pointer (some ⟨q, 0, none⟩), St f, St t] W' (DoOut W' mi q b c d e M' Gd (.int .i64 v)) := by
 by_cases ho : okR (regB M)
 ·exact ⟨_, _, frename_any h ho f t hf ht, fun _ => okkeep h ho (fun e => ren_ok (good_of h.ml ho) f t e), fun W' hr => rrename_any hr ho f t hf ht⟩
 ·exact ⟨120, M, (frename_bad (memC_flat h) ho f t).mono fun _ _ x => co_bad x, fun h => h, fun W' hr => (rrename_bad hr ho f t hf).mono fun _ _ x => do_bad hr x⟩
theorem resize_two (h : MemAt W p gb mb G M) (hT : Tab W) (hmb : mb ≠ 0) (n s : Int) (hn : -9223372036854775808 ≤ n ∧ n ≤ 9223372036854775807) (hs : -9223372036854775808 ≤ s ∧ s ≤ 9223372036854775807) : ∃ (v : Int) (M' : List UInt8),
  Calls Tryz.prog 42 #[.pointer (some ⟨p, 0, none⟩), .int .i64 n, .int .i64 s] W (CoOut W p gb mb G M' (.int .i64 v)) ∧
  (okR (regB M) → okR (regB M')) ∧ ∀ W', RefH W' mi q b c d e M Gd → Calls Tryz.prog 43 #[.pointer (some ⟨q, 0, none⟩), .int .i64 n, .int .i64 s] W' (DoOut W' mi q b c d e M' Gd (.int .i64 v)) := by
 by_cases ho : okR (regB M)
 ·exact ⟨_, _, fresize_any h ho hT hmb n s, fun _ => okkeep h ho (fun e => (resize_sim (good_of h.ml ho) n s e).2), fun W' hr => rresize_any hr ho n s hn hs⟩
 ·exact ⟨120, M, (fresize_bad (memC_flat h) ho n s).mono fun _ _ x => co_bad x, fun h => h, fun W' hr => (rresize_bad hr ho n s hn).mono fun _ _ x => do_bad hr x⟩
theorem write_two (h : MemAt W p gb mb G M) (hT : Tab W) (hmb : mb ≠ 0) (n a : Int) (hn : -9223372036854775808 ≤ n ∧ n ≤ 9223372036854775807) (ha : -9223372036854775808 ≤ a ∧ a ≤ 9223372036854775807) {A : Option Addr} {bb : List UInt8} {cb : Nat} (hb : BR W W.heap.size A bb) (hcb : bb.length ≤ cb) (hbl : bb.length ≤ 140737488355328)
  (hA : bb ≠ [] → ∀ ad, A = some ad → ad.block ≠ mb) : ∃ (v : Int) (M' : List UInt8),
  Calls Tryz.prog 30 #[.pointer (some ⟨p, 0, none⟩), .int .i64 n, .int .i64 a, .slice A bb.length cb] W (CoOut W p gb mb G M' (.int .i64 v)) ∧
  (okR (regB M) → okR (regB M')) ∧ ∀ W', RefH W' mi q b c d e M Gd → BR W' W'.heap.size A bb → (bb ≠ [] → ∀ ad, A = some ad → ad.block ≠ b) → Calls Tryz.prog 44 #[.pointer (some ⟨q, 0, none⟩), .int .i64 n, .int .i64 a, .slice A bb.length cb] W' (DoOut W' mi q b c d e M' Gd (.int .i64 v)) := by
 by_cases ho : okR (regB M)
 ·exact ⟨_, _, fwrite_any h ho hT hmb n a ha cb hb hbl hA, fun _ => okkeep h ho (fun e => (write_sim (good_of h.ml ho) n a bb e).2), fun W' hr hb' hA' => rwrite_any hr ho n a hn ha hb' hcb hbl hA'⟩
 ·exact ⟨120, M, (fwrite_bad (memC_flat h) ho n a A bb.length cb).mono fun _ _ x => co_bad x, fun h => h, fun W' hr _ _ => (rwrite_bad hr ho n a A bb.length cb hn).mono fun _ _ x => do_bad hr x⟩
theorem find_two (h : MemAt W p gb mb G M) (name : List UInt8) (hn : name.length ≤ 9223372036854775807) : ∃ (n v : Int),
  Calls Tryz.prog 47 #[.pointer (some ⟨p, 0, none⟩), St name] W (CoOut W p gb mb G M (.tuple #[.int .i64 n, .int .i64 v])) ∧
  ∀ W', RefH W' mi q b c d e M Gd → Calls Tryz.prog 48 #[.pointer (some ⟨q, 0, none⟩), St name] W' (DoOut W' mi q b c d e M Gd (.tuple #[.int .i64 n, .int .i64 v])) := by
 by_cases ho : okR (regB M)
 ·exact ⟨_, _, (ffind_any (memC_flat h) ho name hn).mono fun _ _ x => co_bad x, fun W' hr => (rfind_any hr name hn).mono fun _ _ x => (do_ask hr x).1 ho⟩
 ·exact ⟨0, 120, (ffind_bad (memC_flat h) ho name).mono fun _ _ x => co_bad x, fun W' hr => (rfind_any hr name hn).mono fun _ _ x => (do_ask hr x).2 ho⟩
theorem size_two (h : MemAt W p gb mb G M) (n : Int) (hn : -9223372036854775808 ≤ n ∧ n ≤ 9223372036854775807) : ∃ (s v : Int),
  Calls Tryz.prog 49 #[.pointer (some ⟨p, 0, none⟩), .int .i64 n] W (CoOut W p gb mb G M (.tuple #[.int .i64 s, .int .i64 v])) ∧
  ∀ W', RefH W' mi q b c d e M Gd → Calls Tryz.prog 50 #[.pointer (some ⟨q, 0, none⟩), .int .i64 n] W' (DoOut W' mi q b c d e M Gd (.tuple #[.int .i64 s, .int .i64 v])) := by
 by_cases ho : okR (regB M)
 ·exact ⟨_, _, (fsize_any (memC_flat h) ho n).mono fun _ _ x => co_bad x, fun W' hr => (rsize_any hr n hn).mono fun _ _ x => (do_ask hr x).1 ho⟩
 ·exact ⟨0, 120, (fsize_bad (memC_flat h) ho n).mono fun _ _ x => co_bad x, fun W' hr => (rsize_any hr n hn).mono fun _ _ x => (do_ask hr x).2 ho⟩
theorem check_two (h : MemAt W p gb mb G M) : ∃ (v : Int),
  Calls Tryz.prog 16 #[.pointer (some ⟨p, 0, none⟩)] W (CoOut W p gb mb G M (.int .i64 v)) ∧
  ∀ W', RefH W' mi q b c d e M Gd → Calls Tryz.prog 51 #[.pointer (some ⟨q, 0, none⟩)] W' (DoOut W' mi q b c d e M Gd (.int .i64 v)) := by
 by_cases ho : okR (regB M)
 ·refine ⟨0, (fcheck_any (memC_flat h)).mono fun en w' x => ⟨?_, x.1, x.2.1.mono fun _ _ e => .inr e⟩, fun W' hr => (rcheck_any hr).mono fun _ _ x => (do_ask hr x).1 ho⟩
  rcases x.2.2 with ⟨_, he⟩ | ⟨hn, _⟩
  ·exact he
  ·exact absurd ho hn
 ·refine ⟨120, (fcheck_any (memC_flat h)).mono fun en w' x => ⟨?_, x.1, x.2.1.mono fun _ _ e => .inr e⟩, fun W' hr => (rcheck_any hr).mono fun _ _ x => (do_ask hr x).2 ho⟩
  rcases x.2.2 with ⟨hn, _⟩ | ⟨_, he⟩
  ·exact absurd hn ho
  ·exact he
theorem read_two (h : MemAt W p gb mb G M) (n a k : Int) (hn : -9223372036854775808 ≤ n ∧ n ≤ 9223372036854775807) (ha : -9223372036854775808 ≤ a ∧ a ≤ 9223372036854775807) (hk : -9223372036854775808 ≤ k ∧ k ≤ 9223372036854775807) : ∃ (xs : List UInt8) (v : Int),
  Calls Tryz.prog 45 #[.pointer (some ⟨p, 0, none⟩), .int .i64 n, .int .i64 a, .int .i64 k] W (fun en W' => ∃ A cc, CoOut W p gb mb G M (.tuple #[.slice A xs.length cc, .int .i64 v]) en W' ∧ BR W' W'.heap.size A xs ∧ ∀ ad, A = some ad → W.heap.size ≤ ad.block) ∧
  ∀ W', RefH W' mi q b c d e M Gd → Calls Tryz.prog 46 #[.pointer (some ⟨q, 0, none⟩), .int .i64 n, .int .i64 a, .int .i64 k] W' (fun en W'' => ∃ A cc, DoOut W' mi q b c d e M Gd (.tuple #[.slice A xs.length cc, .int .i64 v]) en W'' ∧ BR W'' W''.heap.size A xs) := by
 by_cases ho : okR (regB M)
 ·refine ⟨_, _, (fread_any (memC_flat h) ho (good_of h.ml ho) n a k ha hk).mono fun en w' ⟨h1, h2, A, cc, he, hb, hnw⟩ => ⟨A, cc, ⟨he, h1, h2.mono fun _ _ e => .inr e⟩, hb, hnw⟩, fun W' hr => (rread_any hr n a k hn ha hk).mono fun en w' x => ?_⟩
  rcases x.2 with ⟨_, A, cc, he, hb⟩ | ⟨hno, _⟩
  ·exact ⟨A, cc, ⟨he, hr.keep x.1 fun _ _ _ f => f, x.1.mono fun _ _ f => f.elim⟩, hb⟩
  ·exact absurd ho hno
 ·refine ⟨[], 120, (fread_bad (memC_flat h) ho n a k).mono fun en w' x => ⟨none, 0, co_bad x, BR.nil, fun _ e => by cases e⟩, fun W' hr => (rread_any hr n a k hn ha hk).mono fun en w' x => ?_⟩
  rcases x.2 with ⟨hok, _⟩ | ⟨_, he⟩
  ·exact absurd hok ho
  ·exact ⟨none, 0, ⟨he, hr.keep x.1 fun _ _ _ f => f, x.1.mono fun _ _ f => f.elim⟩, BR.nil⟩
end Go.Proofs.YtefgabnmcfpdcaaGreatDoor.Fr
