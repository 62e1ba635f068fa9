/-
  HdCr
-/
import Derived.Test.YtceemmnfofjgeaaGreatDoorHdOp
import Derived.Test.YtceemmnfofjgeaaGreatDoorGFi
namespace Go.Proofs.YtceemmnfofjgeaaGreatDoor.Hd
open Go.RowKit Ex Ino Mm Fs
set_option linter.unusedVariables false
set_option linter.unusedSimpArgs false

theorem fill_all (M : List UInt8) (hm : M.length = 8192) : fillL M = M := by unfold fillL; exact loadL_all M hm
def MadeC (w : World) (M : List UInt8) (e : Ending) (w' : World) : Prop := ∃ p gb mb, e = .returned (.pointer (some ⟨p, 0, none⟩)) ∧ (w.heap.size ≤ p ∧ w.heap.size ≤ mb) ∧ MemAt w' p gb mb M M ∧ Keeps (fun _ => False) w w'
theorem made_all (w : World) (M X : List UInt8) (hx : X = M) (e : Ending) (w' : World) (h : ∃ p gb mb, e = .returned (.pointer (some ⟨p, 0, none⟩)) ∧ w.heap.size ≤ p ∧ w.heap.size ≤ gb ∧ w.heap.size ≤ mb ∧ MemAt w' p gb mb X X ∧ Keeps (fun _ => False) w w') : MadeC w M e w' := by
  subst hx
  obtain ⟨p, gb, mb, he, h1, h2, h3, hm, hk⟩ := h
  exact ⟨p, gb, mb, he, ⟨h1, h3⟩, hm, hk⟩
theorem mflat_copy (g : Nat) (M : List UInt8) (c : Nat) (w : World) (hm : M.length = 8192) (hx : BR w w.heap.size (some ⟨g, 0, none⟩) M) : Calls Tryz.prog 10 #[.slice (some ⟨g, 0, none⟩) M.length c] w (MadeC w M) :=
  (mflat_any (some ⟨g, 0, none⟩) M c w hx).mono fun e w' h => made_all w M (fillL M) (fill_all M hm) e w' h
variable {w : World} {p gb mb : Nat} {G M : List UInt8}
set_option maxRecDepth 100000 in
set_option maxHeartbeats 1000000 in
theorem hCreate_at (h : MemAt w p gb mb G M) (ho : okR (regB M)) (hT : Tab w) (hmb : mb ≠ 0) (hp : p ≠ 0) (name : List UInt8) (hn : name.length ≤ 1000000) (hnm : nameB name = true) (hf : fVal (readN (regB M)) name = .tuple #[.int .i64 0, .int .i64 123])
    (i : Nat) (hi : i < 8) (g1 g2 : RG) (hc : createV ⟨regB M, readN (regB M)⟩ name = (0, i, g1)) (M1 M2 : List UInt8) (e1 : layL M 6144 (bytesL g1) = M1) (ho1 : okR (regB M1)) (hr : resizeV ⟨regB M1, readN (regB M1)⟩ (i : Int) 0 = (0, g2)) (e2 : layL M1 6144 (bytesL g2) = M2)
    (ho2 : okR (regB M2)) (hf2 : fVal (readN (regB M2)) name = .tuple #[.int .i64 (i : Int), .int .i64 0]) (k0 k : Nat) (hk0 : Low M k0) (hk : Low M2 k) :
    Calls Tryz.prog 22 #[.pointer (some ⟨p, 0, none⟩), St name] w (OutM w p gb mb G (layH M2 (k + 1) ((i : Int) + 1) 0) (.tuple #[.int .i64 ((k : Int) + 1), .int .i64 0])) := by
  have ml := h.ml
  have HC : Hid (∀ W p gb mb G, MemAt W p gb mb G M → Tab W → mb ≠ 0 → p ≠ 0 → Calls Tryz.prog 71 #[.pointer (some ⟨p, 0, none⟩), St name] W (OutM W p gb mb G (layH M2 (k + 1) ((i : Int) + 1) 0) (.tuple #[.int .i64 ((k : Int) + 1), .int .i64 0]))) := fun W p gb mb G hW hT hmb hp => hcreate_at hW ho hT hmb hp name hn hnm hf i hi g1 g2 hc M1 M2 e1 ho1 hr e2 ho2 hf2 k0 k hk0 hk
  have HB := Lib.hid (mbytes_at h)
  have HT := Lib.hid hT
  have LT := Lib.hid h.lt
  generalize layH M2 (k + 1) ((i : Int) + 1) 0 = M3 at *
  clear h ho hf hc e1 ho1 hr e2 hT ho2 hf2 hk0 hk
  go_enter Tryz.func22, Tryz.ntmps22
  go_wp2_with fail
  refine HB.out.mono ?_
  rintro e w1 ⟨g, rfl, hg, hr, hm, hk⟩
  have hl := LT.out
  have hT1 := HT.out.keep (hk.block 0 HT.out.pos (by omega))
  have s1 := hk.size
  have hfl := mflat_copy g M M.length w1 ml hr.br
  rw [ml] at hfl
  have HFL := Lib.hid hfl
  have HM1 := Lib.hid hm
  have K1 : Hid (Keeps (fun j => j = p ∨ j = mb) w w1) := hk.mono fun _ _ e => Or.inr e
  have HT1 := Lib.hid hT1
  have S1 := Lib.hid s1
  have hp1 := hT1.pos
  clear hr hm hk hT1 s1 HB hfl
  go_wp2_with fail
  refine HFL.out.mono ?_
  rintro e w2 ⟨q, gq, mq, rfl, ⟨q1, q3⟩, hq, kq⟩
  have hT2 := HT1.out.keep (kq.block 0 hp1 (fun f => f))
  have s1 := S1.out
  have HM2 := Lib.hid (HM1.out.keep kq (fun f => f) (fun f => f) (fun f => f))
  have K2 : Hid (Keeps (fun j => j = p ∨ j = mb) w w2) := K1.out.trans (kq.mono fun _ _ f => f.elim)
  have H3 := Lib.hid (HC.out w2 q gq mq M hq hT2 (by omega) (by omega))
  have HT2 := Lib.hid hT2
  have QQ : Hid (w.heap.size ≤ q ∧ w.heap.size ≤ mq ∧ w1.heap.size ≤ q ∧ w1.heap.size ≤ mq) := ⟨by omega, by omega, q1, q3⟩
  have hp2 := hT2.pos
  clear hq kq hT2 HFL HM1 K1 HT1 S1 q1 q3 s1
  go_wp2_with fail
  refine H3.out.mono ?_
  rintro e w3 ⟨rfl, m3, k3⟩
  have qq := QQ.out
  have hT3 := HT2.out.keep (k3.block 0 hp2 (by omega))
  have HM3 := HM2.out.keep k3 (fun f => by omega) (fun f => by omega) (fun f => by omega)
  have H4 := Lib.hid (HC.out w3 p gb mb G HM3 hT3 hmb hp)
  have K3 : Hid (Keeps (fun j => j = p ∨ j = mb) w w3) := Keeps.thru K2.out k3 (fun _ _ f => f) (fun i hi e => by omega)
  clear m3 k3 hT3 HM3 HM2 K2 HT2 H3 HC
  go_wp2_with fail
  refine H4.out.mono ?_
  rintro e w4 ⟨rfl, m4, k4⟩
  have HG : Hid (OutM w p gb mb G M3 (.tuple #[.int .i64 ((k : Int) + 1), .int .i64 0]) (.returned (.tuple #[.int .i64 ((k : Int) + 1), .int .i64 0])) w4) := ⟨rfl, m4, K3.out.trans k4⟩
  clear m4 k4 H4 K3
  go_wp2_with fail
  go_ret2
  exact HG.out
end Go.Proofs.YtceemmnfofjgeaaGreatDoor.Hd
