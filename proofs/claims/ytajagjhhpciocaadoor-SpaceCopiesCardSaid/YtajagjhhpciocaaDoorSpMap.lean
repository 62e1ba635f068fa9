/-
  The code's map: counts, words of bits; the contracts of made, has, Count, Free, Hold, Drop, Take, Used.
-/
import Derived.Test.YtajagjhhpciocaaDoorSpW
import Derived.ChangeAlike
namespace Go.Proofs.YtajagjhhpciocaaDoor.Sp
open Go.RowKit

structure MapAt (w : World) (p : Nat) (a b : Addr) (bc bf cc cf : Nat) (cs : List Nat) : Prop where
  head : w.heap[p]? = some (.cells #[.slice (some a) cs.length cc, .slice (some b) (nw cs.length) cf] 45 (0, 0))
  len : cs.length ≤ 2000
  adr : cs ≠ [] → a = ⟨bc, 0, none⟩ ∧ b = ⟨bf, 0, none⟩
  rowc : cs ≠ [] → RowK .i64 3 w bc cs
  rowf : cs ≠ [] → RowK .u64 58 w bf (wsOf cs)
  d1 : bc ≠ bf
  d2 : bc ≠ p
  d3 : bf ≠ p
/-- A map behind block p, all its blocks from lo on, below hi. -/
def MapS (w : World) (lo hi p : Nat) (cs : List Nat) : Prop := ∃ a b bc bf cc cf, MapAt w p a b bc bf cc cf cs ∧ lo ≤ p ∧ p < hi ∧ lo ≤ bc ∧ bc < hi ∧ lo ≤ bf ∧ bf < hi

section
variable {w : World} {p bc bf cc cf : Nat} {a b : Addr} {cs : List Nat}
theorem MapAt.lt (h : MapAt w p a b bc bf cc cf cs) : p < w.heap.size := (Array.getElem?_eq_some_iff.1 h.head).1
theorem MapAt.c (h : MapAt w p a b bc bf cc cf cs) : w.cell? ⟨p, 0, none⟩ = some (.slice (some a) cs.length cc) ∧ w.cell? ⟨p, 1, none⟩ = some (.slice (some b) (nw cs.length) cf) := by
  constructor <;> rw [cell_of_row _ _ _ _ _ _ h.head] <;> rfl
theorem MapAt.keep {w' : World} (h : MapAt w p a b bc bf cc cf cs) {X : Nat → Prop} (k : Keeps X w w') (hp : ¬ X p) (hr : cs ≠ [] → ¬ X bc ∧ ¬ X bf) : MapAt w' p a b bc bf cc cf cs :=
  ⟨(k.block p h.lt hp).trans h.head, h.len, h.adr, fun hn => (h.rowc hn).block (k.block _ (h.rowc hn).lt (hr hn).1), fun hn => (h.rowf hn).block (k.block _ (h.rowf hn).lt (hr hn).2), h.d1, h.d2, h.d3⟩
theorem MapS.keep {w' : World} {lo hi : Nat} (h : MapS w lo hi p cs) {X : Nat → Prop} (k : Keeps X w w') (hX : ∀ i, lo ≤ i → i < hi → ¬ X i) : MapS w' lo hi p cs := by
  obtain ⟨a, b, bc, bf, cc, cf, h, h1, h2, h3, h4, h5, h6⟩ := h
  exact ⟨a, b, bc, bf, cc, cf, h.keep k (hX p h1 h2) (fun _ => ⟨hX _ h3 h4, hX _ h5 h6⟩), h1, h2, h3, h4, h5, h6⟩
theorem MapS.below {w' : World} {lo hi : Nat} (h : MapS w lo hi p cs) (k : Below w.heap.size w w') : MapS w' lo hi p cs := h.keep (keeps_below k) fun _ _ _ h => h
theorem ne_nil_of {i : Nat} (h : i < cs.length) : cs ≠ [] := fun e => by subst e; simp at h

set_option maxHeartbeats 400000 in
theorem made_at (h : MapAt w p a b bc bf cc cf cs) : Calls Tryd.prog 30 #[.pointer (some ⟨p, 0, none⟩)] w fun e w' => e = .returned (.bool true) ∧ w = w' := by
  obtain ⟨c0, _⟩ := h.c
  have hq := run_neq_slice_nil_any (P := Tryd.prog) w 37 3 (some a) cs.length cc 0 0 Tryd.underlying37
  go_enter Tryd.func30, Tryd.ntmps30
  go_wp2
  go_ret
  exact ⟨rfl, rfl⟩
set_option maxHeartbeats 400000 in
theorem has_at (h : MapAt w p a b bc bf cc cf cs) (n : Int) : Calls Tryd.prog 27 #[.pointer (some ⟨p, 0, none⟩), .int .i64 n] w fun e w' => e = .returned (.bool (hasB cs n)) ∧ w = w' := by
  obtain ⟨c0, _⟩ := h.c
  have hl := h.len
  have HM := Lib.hid (made_at h)
  clear h
  by_cases h2 : 2 ≤ n
  · by_cases hn : n < (cs.length : Int)
    · have hb : hasB cs n = true := by simp [hasB, h2, hn]
      rw [hb]
      clear hb
      go_enter Tryd.func27, Tryd.ntmps27
      go_wp2_with fail
      refine HM.out.mono ?_
      rintro e w' ⟨rfl, rfl⟩
      go_wp2_with fail
      go_ret
      exact ⟨rfl, rfl⟩
    · have hb : hasB cs n = false := by simp [hasB]; omega
      have hd : decide (n < (cs.length : Int)) = false := by simpa using hn
      have HD := Lib.hid hd
      rw [hb]
      clear hb hd
      go_enter Tryd.func27, Tryd.ntmps27
      go_wp2_with fail
      refine HM.out.mono ?_
      rintro e w' ⟨rfl, rfl⟩
      go_wp2_with fail
      go_ret
      exact ⟨by rw [← HD.out]; rfl, rfl⟩
  · have hb : hasB cs n = false := by simp [hasB, h2]
    rw [hb]
    clear hb
    go_enter Tryd.func27, Tryd.ntmps27
    go_wp2_with fail
    refine HM.out.mono ?_
    rintro e w' ⟨rfl, rfl⟩
    go_wp2_with fail
    go_ret
    exact ⟨rfl, rfl⟩
set_option maxHeartbeats 400000 in
theorem count_at (h : MapAt w p a b bc bf cc cf cs) (n : Int) : Calls Tryd.prog 18 #[.pointer (some ⟨p, 0, none⟩), .int .i64 n] w fun e w' => e = .returned (.int .i64 (countOf cs n : Nat)) ∧ w = w' := by
  obtain ⟨c0, _⟩ := h.c
  have hh := has_at h n
  unfold countOf
  cases hb : hasB cs n
  · rw [hb] at hh
    have HM := Lib.hid hh
    clear hh h hb
    go_enter Tryd.func18, Tryd.ntmps18
    go_wp2_with fail
    refine HM.out.mono ?_
    rintro e w' ⟨rfl, rfl⟩
    go_wp2_with fail
    go_ret
    exact ⟨rfl, rfl⟩
  · rw [hb] at hh
    simp [hasB] at hb
    obtain ⟨m, rfl⟩ := Int.eq_ofNat_of_zero_le (show 0 ≤ n by omega)
    have hm : m < cs.length := by omega
    have hne := ne_nil_of hm
    obtain ⟨rfl, rfl⟩ := h.adr hne
    have hc := (h.rowc hne).cell hm
    have HM := Lib.hid hh
    rw [Int.toNat_natCast]
    generalize cs.getD m 0 = x at *
    clear hh h hb hne
    go_enter Tryd.func18, Tryd.ntmps18
    go_wp2_with fail
    refine HM.out.mono ?_
    rintro e w' ⟨rfl, rfl⟩
    go_wp2_with fail
    go_ret
    exact ⟨rfl, rfl⟩
theorem nw_zero (cs : List Nat) (h : nw cs.length ≠ 0) : cs ≠ [] := fun e => by subst e; exact h rfl
set_option maxHeartbeats 400000 in
theorem free_at (h : MapAt w p a b bc bf cc cf cs) : Calls Tryd.prog 16 #[.pointer (some ⟨p, 0, none⟩)] w fun e w' => e = .returned (.int .i64 (nfree cs : Nat)) ∧ w = w' := by
  obtain ⟨_, c1⟩ := h.c
  have hl := h.len
  have HM := Lib.hid (made_at h)
  have hmy := many_any (w := w) (b := bf) (f := fr cs) (m := nw cs.length) (fun hn => h.rowf (nw_zero cs hn)) (some b) (fun hn => by rw [(h.adr (nw_zero cs hn)).2]) cf (by unfold nw; omega)
  rw [nfree_words] at hmy
  have HY := Lib.hid hmy
  clear hmy h
  go_enter Tryd.func16, Tryd.ntmps16
  go_wp2_with fail
  refine HM.out.mono ?_
  rintro e w' ⟨rfl, rfl⟩
  go_wp2_with fail
  refine HY.out.mono ?_
  rintro e w' ⟨rfl, rfl⟩
  go_wp2_with fail
  go_ret
  exact ⟨rfl, rfl⟩
theorem MapAt.upd (h : MapAt w p a b bc bf cc cf cs) {w2 : World} {cs' : List Nat} (hl : cs'.length = cs.length) (k : Keeps (fun i => i = bc ∨ i = bf) w w2) (hc : RowK .i64 3 w2 bc cs') (hf : RowK .u64 58 w2 bf (wsOf cs')) : MapAt w2 p a b bc bf cc cf cs' := by
  have hne : cs' ≠ [] → cs ≠ [] := fun h1 e => h1 (by subst e; exact List.eq_nil_of_length_eq_zero (by simpa using hl))
  refine ⟨?_, by rw [hl]; exact h.len, fun hn => h.adr (hne hn), fun _ => hc, fun _ => hf, h.d1, h.d2, h.d3⟩
  rw [hl]
  exact (k.block p h.lt (fun e => by rcases e with e | e; exact h.d2 e.symm; exact h.d3 e.symm)).trans h.head
/-- What Hold leaves. -/
def Held (w : World) (p : Nat) (a b : Addr) (bc bf cc cf : Nat) (cs' : List Nat) (v : Value) (e : Ending) (w' : World) : Prop := e = .returned v ∧ MapAt w' p a b bc bf cc cf cs' ∧ Keeps (fun i => i = bc ∨ i = bf) w w'
set_option maxHeartbeats 600000 in
theorem hold_at (h : MapAt w p a b bc bf cc cf cs) (n : Int) {K : Nat} (hu : Upto K cs) (hK : K < 1000000000000) : Calls Tryd.prog 12 #[.pointer (some ⟨p, 0, none⟩), .int .i64 n] w (Held w p a b bc bf cc cf (holdC cs n) (.int .i64 (holdE cs n))) := by
  obtain ⟨c0, c1⟩ := h.c
  have hh := has_at h n
  have h0 := h
  unfold holdE holdC
  cases hb : hasB cs n
  · rw [hb] at hh
    have HM := Lib.hid hh
    have H0 := Lib.hid h0
    clear hh h hb h0
    go_enter Tryd.func12, Tryd.ntmps12
    go_wp2_with fail
    refine HM.out.mono ?_
    rintro e w' ⟨rfl, rfl⟩
    go_wp2_with fail
    go_ret
    exact ⟨rfl, H0.out, Keeps.refl _ _⟩
  · rw [hb] at hh
    simp [hasB] at hb
    obtain ⟨m, rfl⟩ := Int.eq_ofNat_of_zero_le (show 0 ≤ n by omega)
    have hm : m < cs.length := by omega
    have hm2 : 2 ≤ m := by omega
    have hne := ne_nil_of hm
    have hl := h.len
    obtain ⟨rfl, rfl⟩ := h.adr hne
    have rc := h.rowc hne
    have hc := rc.cell hm
    have hf := rc.free m
    have hx := hu.at_ m
    have hwl : (wsOf cs).length = nw cs.length := wsOf_len cs
    have hmw : m / 64 < (wsOf cs).length := by rw [hwl]; unfold nw; omega
    have hd := word_drop (f := fr cs) (g := fr (cs.set m (cs.getD m 0 + 1))) (n := m) (by rw [fr_set hm2 hm]; simp) (fun i hi => fr_set_ne hi)
    rw [← wsOf_at cs (by omega)] at hd
    have rc1 := rc.set m (cs.getD m 0 + 1)
    have k1 : Keeps (fun i => i = bc ∨ i = bf) w (w.setCell ⟨bc, m, none⟩ (.int .i64 ((cs.getD m 0 + 1 : Nat) : Int))) := Keeps.setCell _ _ _ _ (Or.inl rfl)
    have k1' : Keeps (fun i => i = bc) w (w.setCell ⟨bc, m, none⟩ (.int .i64 ((cs.getD m 0 + 1 : Nat) : Int))) := Keeps.setCell _ _ _ _ rfl
    have rf1 := (h.rowf hne).block (k1'.block bf (h.rowf hne).lt (fun e => h.d1 e.symm))
    have c1' := (k1'.cell p 1 h.lt (fun e => h.d2 e.symm)).trans c1
    have hdr := drop_any rf1 m cf hmw (by rw [hwl]; unfold nw; omega) _ hd
    rw [hwl, ← ws_set] at hdr
    have hset := ws_set cs m (cs.getD m 0 + 1)
    have HM := Lib.hid hh
    rw [Int.toNat_natCast, if_pos rfl, if_pos rfl]
    have HF : Hid (∀ w2, RowK .u64 58 w2 bf (wsOf (cs.set m (cs.getD m 0 + 1))) → Keeps (· = bf) (w.setCell ⟨bc, m, none⟩ (.int .i64 ((cs.getD m 0 + 1 : Nat) : Int))) w2 → MapAt w2 p ⟨bc, 0, none⟩ ⟨bf, 0, none⟩ bc bf cc cf (cs.set m (cs.getD m 0 + 1)) ∧ Keeps (fun i => i = bc ∨ i = bf) w w2) := fun w2 r2 k2 => by
      have k3 := k1.trans (k2.mono fun i _ e => Or.inr e)
      exact ⟨h.upd (by simp) k3 (rc1.block (k2.block bc rc1.lt (fun e => h.d1 e))) r2, k3⟩
    have HD := Lib.hid hdr
    clear hdr hset hd rc1 k1 k1' rf1 rc hh h hb hne h0 hu hwl hmw
    generalize hcs : cs.set m (cs.getD m 0 + 1) = cs' at *
    clear hcs
    rw [show ((cs.getD m 0 + 1 : Nat) : Int) = ((cs.getD m 0 : Nat) : Int) + 1 from rfl] at c1' HD HF
    generalize cs.getD m 0 = x at *
    go_enter Tryd.func12, Tryd.ntmps12
    go_wp2_with fail
    refine HM.out.mono ?_
    rintro e w' ⟨rfl, rfl⟩
    go_wp2_with fail
    refine HD.out.mono ?_
    rintro e w2 ⟨rfl, r2, k2⟩
    obtain ⟨f1, f2⟩ := HF.out w2 r2 k2
    have F1 := Lib.hid f1
    clear f1 r2 k2 HF HD c1' hf hc
    go_wp2_with fail
    go_ret
    exact ⟨rfl, F1.out, f2⟩
end
end Go.Proofs.YtajagjhhpciocaaDoor.Sp
