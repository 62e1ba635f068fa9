/-
  ShHeld
-/
import Derived.Test.YtacghpabjmnfiaaGreatDoorGSp
namespace Go.Proofs.YtacghpabjmnfiaaGreatDoor
open Go.RowKit

/-- Numbers that lie somewhere below B. -/
def ZR (w : World) (B : Nat) (A : Option Addr) (zs : List Int) : Prop :=
  zs ≠ [] → ∃ ad, A = some ad ∧ ad.block < B ∧ ∀ k u, zs[k]? = some u → w.cell? (ad.add k) = some (.int .i64 u)
theorem ZR.keep {w w' : World} {B : Nat} {A : Option Addr} {zs : List Int} (h : ZR w B A zs) {F : Nat → Prop} (k : Keeps F w w') (hB : B ≤ w.heap.size) (hF : ∀ b, b < B → ¬ F b) : ZR w' B A zs := by
  intro hn
  obtain ⟨ad, e, hb, hc⟩ := h hn
  exact ⟨ad, e, hb, fun i u hu => (World.cell?_of_block (w := w) (by rw [block_add]; exact k.block _ (by omega) (hF _ hb))).trans (hc i u hu)⟩
theorem ZR.at_ {w : World} {B : Nat} {A : Option Addr} {zs : List Int} (h : ZR w B A zs) {k : Nat} (hk : k < zs.length) : ∃ ad, A = some ad ∧ w.cell? (ad.add k) = some (.int .i64 zs[k]) := by
  obtain ⟨ad, e, _, hc⟩ := h (by intro e; rw [e] at hk; cases hk)
  exact ⟨ad, e, hc k _ (List.getElem?_eq_getElem hk)⟩

/-- What the maps hold. -/
def heldC (n : Nat) (zs : List Int) : List Nat := zs.foldl Sp.holdC (List.replicate n 0)
theorem heldC_step (n : Nat) (zs : List Int) (k : Nat) (hk : k < zs.length) : heldC n (zs.take (k + 1)) = Sp.holdC (heldC n (zs.take k)) zs[k] := by
  rw [List.take_succ_eq_append_getElem hk]
  unfold heldC
  rw [List.foldl_append]
  rfl
theorem heldC_upto (n : Nat) (zs : List Int) : ∀ k, k ≤ zs.length → Sp.Upto k (heldC n (zs.take k))
  | 0, _ => fun c hc => by
    simp only [heldC, List.take_zero, List.foldl_nil, List.mem_replicate] at hc
    omega
  | k + 1, hk => by
    rw [heldC_step n zs k (by omega)]
    exact (heldC_upto n zs k (by omega)).hold _

def HeldOut (w : World) (cs : List Nat) (e : Ending) (w' : World) : Prop :=
  ∃ p q mi hi, e = .returned (.tuple #[.pointer (some ⟨p, 0, none⟩), .pointer (some ⟨q, 0, none⟩)]) ∧ Sp.MapS w' w.heap.size mi p cs ∧ Sp.RefS w' mi hi q cs ∧ w.heap.size ≤ mi ∧ mi ≤ hi ∧ hi ≤ w'.heap.size ∧ Below w.heap.size w w'

set_option maxRecDepth 100000 in
set_option maxHeartbeats 800000 in
theorem held_any (n : Int) (A : Option Addr) (zs : List Int) (c : Nat) (w : World) (hz : ZR w w.heap.size A zs) (hl : zs.length ≤ 1000000) :
    Calls Tryz.prog 24 #[.int .i64 n, .slice A zs.length c] w (HeldOut w (heldC (Sp.nS n) zs)) := by
  go_enter Tryz.func24, Tryz.ntmps24
  go_wp2_with fail
  refine (Sp.new_any n w).mono ?_
  rintro e w1 ⟨p, rfl, m1, b1⟩
  go_wp2_with fail
  refine (Sp.rnew_any n w1).mono ?_
  rintro e w2 ⟨q, rfl, r2, b2⟩
  have m2 := m1.below b2
  have z2 := hz.keep ((keeps_below b1).trans (keeps_below b2)) (Nat.le_refl _) (fun _ _ h => h)
  have bb := b1.trans (b2.mono b1.size)
  have s1 := b1.size
  have s2 := b2.size
  have M2 := Lib.hid m2
  have R2 := Lib.hid r2
  clear m1 b1 b2 m2 r2 hz
  generalize Sp.nS n = N at *
  go_wp2_with fail
  go_loopw [16, 9] (fun i _ wr => ∃ (k : Nat), k ≤ zs.length ∧ i = .int .i64 k ∧ Sp.MapS wr w.heap.size w1.heap.size p (heldC N (zs.take k)) ∧ Sp.RefS wr w1.heap.size w2.heap.size q (heldC N (zs.take k)) ∧ Keeps (fun b => w.heap.size ≤ b) w2 wr) (fun i _ _ => zs.length - (Go.RowKit.intOf i).toNat)
  case atStart => exact ⟨0, by omega, rfl, M2.out, R2.out, Keeps.refl _ _⟩
  case round =>
    clear M2 R2
    obtain ⟨k, hk, rfl, mr, rr, kr⟩ := hrel
    by_cases hlt : k < zs.length
    · obtain ⟨ad, rfl, hc⟩ := (z2.keep kr (by omega) (fun b hb => by omega)).at_ hlt
      have up := heldC_upto N zs k hk
      have HS := Lib.hid (heldC_step N zs k hlt)
      generalize zs[k] = x at *
      generalize heldC N (zs.take k) = cs at *
      go_wp2_with fail
      refine (Sp.hold_s mr x up (by omega)).mono ?_
      rintro e w3 ⟨rfl, m3, k3⟩
      have r3 := rr.keep k3 (fun i h1 h2 h3 => by omega)
      clear mr rr hc
      go_wp2_with fail
      refine (Sp.rhold_s r3 x up (by omega)).mono ?_
      rintro e w4 ⟨rfl, r4, k4⟩
      have m4 := m3.keep k4 (fun i h1 h2 h3 => by omega)
      have kk : Keeps (fun b => w.heap.size ≤ b) w2 w4 := kr.trans ((k3.mono (fun _ _ h => h.1)).trans (k4.mono (fun _ _ h => by omega)))
      clear r3 m3 k3 k4 kr
      go_wp2_with fail
      go_roundw
      case rel => exact ⟨k + 1, by omega, by go_num, by rw [HS.out]; exact m4, by rw [HS.out]; exact r4, kk⟩
      case measure => simp [Go.RowKit.intOf]; omega
    · obtain rfl : k = zs.length := by omega
      rw [List.take_length] at mr rr
      go_wp2_with fail
      go_ret2
      have sr := kr.size
      exact ⟨p, q, w1.heap.size, w2.heap.size, rfl, mr, rr, by omega, by omega, sr, bb.trans (kr.toBelow _ (by omega) (fun _ h => h))⟩
end Go.Proofs.YtacghpabjmnfiaaGreatDoor
