/-
  LawMemApart
-/
import Derived.Test.YtdbphindnnchfaaGA
import Derived.ChangeOld
import Derived.Below
import Derived.Deep.QuietTactic
import Derived.BigQuiet
import Derived.WalkSmall
import Derived.Test.YtdbphindnnchfaaMmTail
namespace Go.Proofs.Ytdbphindnnchfaa.memApart
open Go.ChangeShapes Go.WideShapes Go.ChangeAt Go.RowKit Mm Go.Maps
set_option linter.unusedVariables false

theorem own : ownKnob Try.prog.godebug = none := by kernel_rfl
theorem laidOut : laidOutB Try.prog = true := by kernel_rfl

theorem inc_u8 (u : UInt8) : Value.int .u8 (((u.toNat : Int) + 1) % 256) = B8 (u + 1) := by
  have e : (((u + 1).toNat : Nat) : Int) = ((u.toNat : Int) + 1) % 256 := by
    rw [UInt8.toNat_add]
    simp
  show _ = Value.int .u8 (((u + 1).toNat : Nat) : Int)
  rw [e]

set_option maxRecDepth 100000 in
set_option maxHeartbeats 1000000 in
theorem walk (A0 : Option Addr) (x0 : List UInt8) (c0 : Nat) (a1 : Int) (A2 : Option Addr) (x2 : List UInt8) (c2 : Nat) (w : World) (b0 : BR w w.heap.size A0 x0) (l0 : x0.length ≤ 140737488351232) (w1 : (Lit.int .i64 a1).wf = true) (b2 : BR w w.heap.size A2 x2) (l2 : x2.length ≤ 140737488351232) :
    Calls Try.prog 5 #[.slice A0 x0.length c0, .int .i64 a1, .slice A2 x2.length c2] w fun e w' => e = .returned (.bool true) ∧ Below w.heap.size w w' := by
  have n1 := i64_of_wf w1
  clear w1
  have bx : ∀ W, Below w.heap.size w W → BR W W.heap.size A0 x0 := fun W hb => (b0.below hb).more hb.size
  have BX := Lib.hid bx
  have bz : ∀ W, Below w.heap.size w W → BR W W.heap.size A2 x2 := fun W hb => (b2.below hb).more hb.size
  have BZ := Lib.hid bz
  have HA2 := Lib.hid (fun ad (e : A2 = some ad) (hn : x2 ≠ []) => show ad.block < w.heap.size by
    obtain ⟨ad', e', hb, _⟩ := b2 hn
    rw [e] at e'
    cases e'
    exact hb)
  clear bx b0 bz b2
  have L2 := Lib.hid l2
  clear l2
  by_cases hl : 9000 < x0.length
  · go_enter Try.func5, Try.ntmps5
    go_wp2_with fail
    refine (memawake_any _).mono ?_
    rintro e u1 ⟨rfl, b1⟩
    go_wp2_with fail
    go_ret
    exact ⟨rfl, b1⟩
  by_cases hl2 : 500 < x2.length
  · go_enter Try.func5, Try.ntmps5
    go_wp2_with fail
    refine (memawake_any _).mono ?_
    rintro e u1 ⟨rfl, b1⟩
    go_wp2_with fail
    go_ret
    exact ⟨rfl, b1⟩
  go_enter Try.func5, Try.ntmps5
  go_wp2_with fail
  refine (memawake_any _).mono ?_
  rintro e u1 ⟨rfl, b1⟩
  obtain ⟨R, cap, u2, ha2, own2, bb2⟩ := run_append8 (P := Try.prog) u1 22 22 5 Try.info8 Try.underlying22 A0 x0 c0 (BX.out _ b1) (by omega)
  have HAP := Lib.hid ha2
  have B2 := Lib.hid (b1.trans (bb2.mono b1.size))
  have s1 := b1.size
  have s2 := bb2.size
  have OWN := Lib.hid own2
  clear ha2 bb2 b1 own2
  go_wp2_with (first | (at_builtin; refine wpList_append_run rfl _ _ 22 rfl _ HAP.out ?_) | fail)
  refine (mflat_any R x0 cap u2 OWN.out.br).mono ?_
  rintro e u3 ⟨p, gb, mb, rfl, p1, p2, p3, hm3, k3⟩
  have B3 := Lib.hid (Below.and B2.out k3 (fun _ h => h.elim) (Nat.le_refl _))
  have s3 := k3.size
  clear HAP
  go_wp2_with fail
  refine (rflat_any A0 x0 c0 u3 (BX.out _ B3.out)).mono ?_
  rintro e u4 ⟨q, rfl, hr4, k4⟩
  obtain ⟨rb, rc, rd, re, hr4⟩ := hr4
  have hm4 := hm3.keep k4 (fun h => h) (fun h => h) (fun h => h)
  obtain ⟨l1, l2, l3⟩ := hm3.lt
  have s4 := k4.size
  have B4 := Lib.hid (Below.and B3.out k4 (fun _ h => h.elim) (Nat.le_refl _))
  have hq := hr4.q0
  have hb := hr4.now.lt'
  have hd := hr4.was.lt'
  have hq' := hr4.lt.1
  have HM4 := Lib.hid hm4
  have HR4 := Lib.hid hr4
  have own4 := own_keeps OWN.out (k3.trans k4) (fun _ _ _ h => h)
  have ROWN := Lib.hid (show ∀ g, R = some ⟨g, 0, none⟩ → 0 < x0.length → g < u2.heap.size from fun g e hk => by
    obtain ⟨g', e', _, hlt, _⟩ := OWN.out.at_ (k := 0) hk
    rw [e] at e'
    cases e'
    exact hlt)
  clear hm3 hm4 hr4 k3 k4 BX OWN B2 B3
  go_wp2_with fail
  go_loopw [35, 10] (fun i _ wr => ∃ (k : Nat) (zs : List UInt8), k ≤ x0.length ∧ i = .int .i64 (k : Int) ∧ zs.length = x0.length ∧ Own8 wr u1.heap.size 5 R cap zs ∧ Keeps (fun i => u1.heap.size ≤ i ∧ i < u2.heap.size) u4 wr) (fun i _ _ => x0.length - (RowKit.intOf i).toNat)
  case atStart => exact ⟨0, x0, by omega, rfl, rfl, own4, Keeps.refl _ _⟩
  case round =>
    clear own4
    obtain ⟨k, zs, hk, rfl, hz, ho, kk⟩ := hrel
    by_cases hlt : k < x0.length
    · obtain ⟨g, e, g1, g2, g3, g4⟩ := ho.at_ (k := k) (by omega)
      have g5 := ROWN.out g e (by omega)
      subst e
      have fin := ho.set_ k (zs.getD k 0 + 1)
      have FIN := Lib.hid fin
      have ZL := Lib.hid (show (zs.set k (zs.getD k 0 + 1)).length = x0.length by rw [List.length_set, hz])
      have KF := Lib.hid (kk.trans (Keeps.setCell (fun i => u1.heap.size ≤ i ∧ i < u2.heap.size) wr ⟨g, k, none⟩ (B8 (zs.getD k 0 + 1)) ⟨g1, g5⟩))
      clear fin ho kk
      generalize zs.set k (zs.getD k 0 + 1) = zs' at *
      generalize zs.getD k 0 = u0 at *
      go_wp2_with fail
      rw [inc_u8]
      go_roundw
      case rel => exact ⟨k + 1, zs', by omega, by go_num, ZL.out, FIN.out, KF.out⟩
      case measure => simp [RowKit.intOf]; omega
    · obtain rfl : k = x0.length := by omega
      obtain ⟨w5, hw5⟩ : ∃ w5, w5 = wr := ⟨_, rfl⟩
      subst hw5
      have hm5 := HM4.out.keep kk (by omega) (by omega) (by omega)
      have hr5 := HR4.out.keep kk (fun i h1 h2 h3 => by omega)
      have B5 := Lib.hid (Below.and B4.out kk (fun i h => by omega) (Nat.le_refl _))
      have s5 := kk.size
      clear hz ho kk HM4 HR4 B4 ROWN
      obtain ⟨Ri, capi, w6, ha6, own6, bb6⟩ := run_append8 (P := Try.prog) w5 22 22 5 Try.info8 Try.underlying22 A2 x2 c2 (BZ.out _ B5.out) (by omega)
      have k6 : Keeps (fun _ => False) w5 w6 := Keeps.below bb6 _ fun k h1 h2 => by omega
      have hm6 := hm5.keep k6 (fun h => h) (fun h => h) (fun h => h)
      have hr6 := hr5.keep k6 (fun _ _ _ h => h)
      have B6 := Lib.hid (Below.and B5.out k6 (fun _ h => h.elim) (Nat.le_refl _))
      have s6 := k6.size
      have HAP := Lib.hid ha6
      have OWN := Lib.hid own6
      have HR6 := Lib.hid hr6
      have HM6 := Lib.hid hm6
      clear ha6 own6 bb6 k6 hm5 hr5 hm6 hr6 B5
      go_wp2_with (first | (at_builtin; refine wpList_append_run rfl _ _ 22 rfl _ HAP.out ?_) | fail)
      have inb : ∀ ad, Ri = some ad → x2 ≠ [] → w5.heap.size ≤ ad.block := fun ad e hn => by
        obtain ⟨g, e', h1, _⟩ := OWN.out.at_ (k := 0) (List.length_pos_iff.2 hn)
        rw [e] at e'
        cases e'
        exact h1
      refine (mlay_at HM6.out a1 n1.1 n1.2 Ri x2 capi OWN.out.br (fun ad e hn => by have := inb ad e hn; exact ⟨by omega, by omega⟩) L2.out OWN.out.cap_le).mono ?_
      rintro e w7 ⟨rfl, hm7, k7⟩
      have hr7 := HR6.out.keep k7 (fun i h1 h2 h3 => by omega)
      have B7 := Lib.hid (Below.and B6.out k7 (fun i h => by omega) (Nat.le_refl _))
      have s7 := k7.size
      have HM7 := Lib.hid hm7
      have OWN7 := Lib.hid (own_keeps OWN.out k7 (fun i h1 h2 => by omega))
      have INB := Lib.hid inb
      clear hm7 k7 HM6 HR6 B6 OWN inb HAP
      go_wp2_with fail
      refine (rlayH_at hr7 a1 n1.1 n1.2 A2 x2 c2 (BZ.out _ B7.out) (fun ad e hn => by have := HA2.out ad e hn; omega) L2.out).mono ?_
      rintro e w8 ⟨rfl, hr8, k8⟩
      have HM8 := Lib.hid (HM7.out.keep k8 (by omega) (by omega) (by omega))
      have HR8 := Lib.hid hr8
      have own8 := own_keeps OWN7.out k8 (fun i h1 h2 => by omega)
      have BW8 := Lib.hid (Below.and B7.out k8 (fun i h => by omega) (Nat.le_refl _))
      have s8 := k8.size
      clear hr7 hr8 k8 HM7 OWN7 B7
      generalize layL (fillL x0) a1 x2 = M at *
      generalize fillL x0 = G at *
      go_wp2_with fail
      go_loopw [57, 12] (fun i _ wr => ∃ (k : Nat) (zs : List UInt8), k ≤ x2.length ∧ i = .int .i64 (k : Int) ∧ zs.length = x2.length ∧ Own8 wr w5.heap.size 5 Ri capi zs ∧ Keeps (fun i => w5.heap.size ≤ i) w8 wr) (fun i _ _ => x2.length - (RowKit.intOf i).toNat)
      case atStart => exact ⟨0, x2, by omega, rfl, rfl, own8, Keeps.refl _ _⟩
      case round =>
        clear own8
        obtain ⟨k, zs, hk, rfl, hz, ho, kk⟩ := hrel
        by_cases hlt : k < x2.length
        · obtain ⟨g, e, g1, g2, g3, g4⟩ := ho.at_ (k := k) (by omega)
          subst e
          have fin := ho.set_ k (zs.getD k 0 + 1)
          have FIN := Lib.hid fin
          have ZL := Lib.hid (show (zs.set k (zs.getD k 0 + 1)).length = x2.length by rw [List.length_set, hz])
          have KF := Lib.hid (kk.trans (Keeps.setCell (fun i => w5.heap.size ≤ i) _ ⟨g, k, none⟩ (B8 (zs.getD k 0 + 1)) g1))
          clear fin ho kk
          generalize zs.set k (zs.getD k 0 + 1) = zs' at *
          generalize zs.getD k 0 = u0 at *
          go_wp2_with fail
          rw [inc_u8]
          go_roundw
          case rel => exact ⟨k + 1, zs', by omega, by go_num, ZL.out, FIN.out, KF.out⟩
          case measure => simp [RowKit.intOf]; omega
        · obtain rfl : k = x2.length := by omega
          obtain ⟨w9, hw9⟩ : ∃ w9, w9 = wr := ⟨_, rfl⟩
          subst hw9
          have hm9 := HM8.out.keep kk (by omega) (by omega) (by omega)
          have hr9 := HR8.out.keep3 kk (by omega) (by omega) (by omega)
          have B9 := Lib.hid (Below.and BW8.out kk (fun i h => by omega) (Nat.le_refl _))
          have s9 := kk.size
          have HR9 := Lib.hid hr9
          have hn1 := n1
          clear hz ho kk HM8 HR8 BW8 hr9
          have LD := mload_at hm9 a1 (x2.length : Int) n1.1 n1.2
          have cl : (clamp (x2.length : Int) 8192).toNat = x2.length := by unfold clamp; rw [if_neg (by omega), if_neg (by omega)]; omega
          rw [cl] at LD
          have LDH := Lib.hid LD
          clear LD cl
          go_wp2_with fail
          refine LDH.out.mono ?_
          rintro e w10 ⟨g, rfl, g1, r10, hm10, k10⟩
          have z10 : (loadL M a1 x2.length).length = x2.length := loadL_len _ _ _
          have HM10 := Lib.hid hm10
          have HR10 := Lib.hid (HR9.out.keep k10 (fun i h1 h2 h3 => by omega))
          have B10 := Lib.hid (Below.and B9.out k10 (fun i h => by omega) (Nat.le_refl _))
          have s10 := k10.size
          rw [z10]
          clear hm9 hm10 k10 HR9 B9 LDH
          generalize loadL M a1 x2.length = os at *
          go_wp2_with fail
          go_loopw [74, 14] (fun i _ wr => ∃ (k : Nat) (zs : List UInt8), k ≤ x2.length ∧ i = .int .i64 (k : Int) ∧ zs.length = x2.length ∧ Row8 wr g 5 zs ∧ Keeps (fun i => i = g) w10 wr) (fun i _ _ => x2.length - (RowKit.intOf i).toNat)
          case atStart => exact ⟨0, os, by omega, rfl, z10, r10, Keeps.refl _ _⟩
          case round =>
            clear r10
            obtain ⟨k, zs, hk, rfl, hz, ho, kk⟩ := hrel
            by_cases hlt : k < x2.length
            · have g3 := ho.cell_ (k := k) (by omega)
              have g4 := ho.free k
              have fin := ho.set_ k (zs.getD k 0 + 1)
              have FIN := Lib.hid fin
              have ZL := Lib.hid (show (zs.set k (zs.getD k 0 + 1)).length = x2.length by rw [List.length_set, hz])
              have KF := Lib.hid (kk.trans (Keeps.setCell (fun i => i = g) _ ⟨g, k, none⟩ (B8 (zs.getD k 0 + 1)) rfl))
              clear fin ho kk
              generalize zs.set k (zs.getD k 0 + 1) = zs' at *
              generalize zs.getD k 0 = u0 at *
              go_wp2_with fail
              rw [inc_u8]
              go_roundw
              case rel => exact ⟨k + 1, zs', by omega, by go_num, ZL.out, FIN.out, KF.out⟩
              case measure => simp [RowKit.intOf]; omega
            · obtain rfl : k = x2.length := by omega
              have HMEM := Lib.hid (HM10.out.keep kk (by omega) (by omega) (by omega))
              have HREF := Lib.hid (HR10.out.keep3 kk (by omega) (by omega) (by omega))
              have HB := Lib.hid (Below.and B10.out kk (fun i h => by omega) (Nat.le_refl _))
              have HLT := Lib.hid (show w.heap.size ≤ mb ∧ mb < u3.heap.size by omega)
              clear hz ho kk HM10 HR10 B10
              go_wp2_with fail
              refine wp_region_held (S := fun W : World => RefH W u3.heap.size q rb rc rd re M G) (by kernel_rfl) ?_
              change wpAnyH _ _ _ _ _ _ _ _ wr.drew
              have kd : Keeps (fun _ => False) wr wr.drew := Keeps.drew _ _
              have HS : (fun W : World => RefH W u3.heap.size q rb rc rd re M G) wr.drew := HREF.out.keep kd (fun _ _ _ h => h)
              have hmT := HMEM.out.keep kd (fun h => h) (fun h => h) (fun h => h)
              have HBT := Lib.hid (Below.and HB.out kd (fun _ h => h.elim) (Nat.le_refl _))
              generalize wr.drew = wT at *
              refine wpAnyH_take (oi := ⟨_, _, _, _, _, _⟩) (i := 3) (v := .pointer (some ⟨q, 0, none⟩)) rfl (by kernel_rfl) (by kernel_rfl) (by kernel_rfl) (fun _ _ _ h => h) (Or.inl ⟨by rfl, fun _ _ => rfl⟩) HS ?_
              simp only [Act.put, List.setIfInBounds_toArray, List.set_cons_zero, List.set_cons_succ]
              refine wpAnyH_take (oi := ⟨_, _, _, _, _, _⟩) (i := 4) (v := .pointer (some ⟨q, 0, none⟩)) rfl (by kernel_rfl) (by kernel_rfl) (by kernel_rfl) (fun _ _ _ h => h) (Or.inl ⟨by rfl, fun _ _ => rfl⟩) HS ?_
              simp only [Act.put, List.setIfInBounds_toArray, List.set_cons_zero, List.set_cons_succ]
              refine wpAnyH_take (oi := ⟨_, _, _, _, _, _⟩) (i := 5) (v := .pointer (some ⟨q, 0, none⟩)) rfl (by kernel_rfl) (by kernel_rfl) (by kernel_rfl) (fun _ _ _ h => h) (Or.inl ⟨by rfl, fun _ _ => by go_simp⟩) HS ?_
              simp only [Act.put, List.setIfInBounds_toArray, List.set_cons_zero, List.set_cons_succ]
              refine wpAnyH_take (oi := ⟨_, _, _, _, _, _⟩) (i := 6) (v := .slice (some ⟨rb, 0, none⟩) 8192 rc) rfl (by kernel_rfl) (by kernel_rfl) (by kernel_rfl) (fun _ _ _ h => h) (yif_load rfl 22 (.tmp 89) rfl _ _ rfl fun W (h : RefH W u3.heap.size q rb rc rd re M G) => load_one aggS h.cs.1) HS ?_
              simp only [Act.put, List.setIfInBounds_toArray, List.set_cons_zero, List.set_cons_succ]
              refine wpAnyH_take (oi := ⟨_, _, _, _, _, _⟩) (i := 7) (v := .string ⟨M.toArray⟩) rfl (by kernel_rfl) (by kernel_rfl) (by kernel_rfl) (fun _ _ _ h => h) (Or.inl ⟨by rfl, fun _ h => ex_convert 22 9 (.tmp 90) rfl _ _ rfl (conv_ref h)⟩) HS ?_
              simp only [Act.put, List.setIfInBounds_toArray, List.set_cons_zero, List.set_cons_succ]
              refine wpAnyH_take (oi := ⟨_, _, _, _, _, _⟩) (i := 0) (v := .pointer (some ⟨p, 0, none⟩)) rfl (by kernel_rfl) (by kernel_rfl) (by kernel_rfl) (fun _ _ _ h => h) (Or.inl ⟨by rfl, fun _ _ => rfl⟩) HS ?_
              simp only [Act.put, List.setIfInBounds_toArray, List.set_cons_zero, List.set_cons_succ]
              refine wpAnyH_all (rs := [1]) (by kernel_rfl) (by simp) fun i hi => ?_
              obtain rfl : i = 1 := by simpa using hi
              refine op_call (om := ⟨_, _, _, _, _, _⟩) (fn := 12) (args := #[.pointer (some ⟨p, 0, none⟩)]) (R := fun u w' => ∃ g, u = .slice (some ⟨g, 0, none⟩) 8192 8192 ∧ Row8 w' g 5 M ∧ Keeps (· = mb) wT w') rfl rfl (by go_simp)
                  ((mbytes_at hmT).mono fun e w' ⟨g, he, h1, h2, h3, h4⟩ => ⟨_, he, g, by rw [hmT.ml], h2, h4⟩) _ _ rfl rfl ?_
              rintro u wU ⟨gU, rfl, rU, kU⟩
              have HS2 : (fun W : World => RefH W u3.heap.size q rb rc rd re M G) wU := HS.keep kU (fun i h1 h2 h3 => by have := HLT.out; omega)
              refine ⟨HS2, ?_⟩
              clear hi
              simp only [Act.put, List.setIfInBounds_toArray, List.set_cons_zero, List.set_cons_succ]
              refine wpAnyH_all (rs := [2]) (by kernel_rfl) (by simp) fun i hi => ?_
              obtain rfl : i = 2 := by simpa using hi
              refine op_run (om := ⟨_, _, _, _, _, _⟩) (u := .string ⟨M.toArray⟩) (w' := wU) rfl rfl (ex_convert 22 9 (.tmp 85) rfl _ _ rfl (conv_row 8192 hmT.ml rU)) _ _ rfl rfl ?_
              rintro u wV ⟨rfl, rfl⟩
              refine ⟨HS2, ?_⟩
              clear hi
              simp only [Act.put, List.setIfInBounds_toArray, List.set_cons_zero, List.set_cons_succ]
              refine wpAnyH_take (oi := ⟨_, _, _, _, _, _⟩) (i := 8) (v := .bool true) rfl (by kernel_rfl) (by kernel_rfl) (by kernel_rfl) (fun _ _ _ h => h) (Or.inl ⟨by rfl, fun _ _ => by go_simp⟩) HS2 ?_
              simp only [Act.put, List.setIfInBounds_toArray, List.set_cons_zero, List.set_cons_succ]
              refine wpAnyH_take (oi := ⟨_, _, _, _, _, _⟩) (i := 9) (v := .bool true) rfl (by kernel_rfl) (by kernel_rfl) (by kernel_rfl) (fun _ _ _ h => h) (Or.inl ⟨by rfl, fun _ _ => rfl⟩) HS2 ?_
              simp only [Act.put, List.setIfInBounds_toArray, List.set_cons_zero, List.set_cons_succ]
              have HF := Lib.hid (Below.and HBT.out kU (fun i hi => by have := HLT.out; omega) (Nat.le_refl _))
              clear HBT HB HREF HMEM HS HS2 hmT kU rU kd
              refine wpAnyH_done (by kernel_rfl) ?_ _
              go_wp2_with fail
              go_ret
              exact ⟨rfl, HF.out⟩

set_option maxRecDepth 100000 in
theorem lifted (os : Os) (started : os.Started) (H : Type) (enc : TypeId × Value → H) :
    ReturnsInHanded {} Try.checked os 5 .any (Rows.memApartSpec.pre6 enc Try.prog Try.f5 Rows.memApartRow.domain false) (Rows.memApartSpec.post enc Try.prog Try.f5 false true false false) := by
  refine returnsInHanded_of_change_sized (C := Try.checked) own started (by kernel_rfl) Try.func5
    (ChangeSpec.witness6 (enc := enc) (C := Try.checked) false ⟨#[], #[.slice none 0 0, .int .i64 0, .slice none 0 0], []⟩ 8 (by kernel_rfl) (by kernel_rfl) (by kernel_rfl) (by kernel_rfl)) ?_
  intro W base args ds gs before hval0 hW _ hsz0 _
  have hsz : (DataW.weightsEach Try.prog (Try.f5.params.toList ++ Rows.memApartSpec.plain.varTypes Try.prog) (ds ++ gs)).all (· ≤ reachBytes) = true := hsz0
  clear hsz0
  have hval : ∀ (j : Nat) t v, Try.f5.params[j]? = some t → args[j]? = some v → Value.okWide Try.prog W .any base t v := hval0
  have hW' := hW
  obtain ⟨p, q, hA0, hV, rfl, _, _⟩ := hW
  have hA : DataW.TrodAll enc Try.prog W 0 (fun _ => true) true Try.f5.params.toList args.toList ds p := hA0
  rw [Try.params5] at hA hval hsz
  obtain ⟨v0, vs0, d0, ds0, p0, q0, hargs, rfl, rfl, h0, r0⟩ := trodAll_cons hA
  obtain ⟨v1, vs1, d1, ds1, p1, q1, rfl, rfl, rfl, h1, r1⟩ := trodAll_cons r0
  obtain ⟨v2, vs2, d2, ds2, p2, q2, rfl, rfl, rfl, h2, r2⟩ := trodAll_cons r1
  obtain ⟨rfl, rfl, rfl⟩ := trodAll_nil r2
  obtain rfl : args = #[v0, v1, v2] := by cases args; simp_all
  obtain ⟨rfl, rfl⟩ := trodVars_none hV
  obtain ⟨A0, len0, c0, rfl⟩ := okWide_slice Try.underlying22 (hval 0 22 v0 rfl rfl)
  have k0 := h0
  have lt0 : ∀ x ∈ p0, x.block < W.heap.size := by obtain ⟨m, hm⟩ := k0; exact DataW.trod_lt m _ _ _ hm
  obtain ⟨x0, rfl, b0, s0⟩ := bytes_in h0
  have l0 := s0 _ _ 0 hsz rfl rfl
  obtain ⟨a1, rfl, rfl, rfl, w1⟩ := open_int Try.underlying3 (hval 1 3 v1 rfl rfl) h1
  obtain ⟨A2, len2, c2, rfl⟩ := okWide_slice Try.underlying22 (hval 2 22 v2 rfl rfl)
  have k2 := h2
  have lt2 : ∀ x ∈ p2, x.block < W.heap.size := by obtain ⟨m, hm⟩ := k2; exact DataW.trod_lt m _ _ _ hm
  obtain ⟨x2, rfl, b2, s2⟩ := bytes_in h2
  have l2 := s2 _ _ 2 hsz rfl rfl
  clear hA0 hval0
  refine (walk A0 x0 c0 a1 A2 x2 c2 W b0 l0 w1 b2 l2).mono fun e W' ⟨he, bel⟩ => ?_
  subst he
  exact ⟨_, rfl, _, _, _, [], _, [], hW', trodAll_mk1 (shut_bool Try.underlying4 _), (trodAll_cons_mk (Below.trod laidOut (by kernel_rfl) (of_decide_eq_true (by kernel_rfl)) k0 bel lt0) (trodAll_cons_mk (shut_int Try.underlying3 w1) (trodAll_cons_mk (Below.trod laidOut (by kernel_rfl) (of_decide_eq_true (by kernel_rfl)) k2 bel lt2) trodAll_mk0))), rfl, bel.frame _, fun h => by cases h⟩

theorem proved : Rows.MemApartSaid :=
  OpenClaim.holds_of_wide 5 Try.f5 rfl rfl rfl rfl rfl rfl rfl ⟨rfl, rfl, rfl, rfl, rfl⟩ rfl rfl rfl rfl rfl (by kernel_rfl) Try.func5 (by kernel_rfl)
    (of_decide_eq_true (by kernel_rfl)) (by unfold Func.isWrapper; first | (rw [if_pos (by decide +kernel)]; kernel_rfl) | (rw [if_neg (by decide +kernel)]; exact ⟨rfl, rfl⟩))
    (fun os started H enc _ => lifted os started H enc)
#print axioms proved
end Go.Proofs.Ytdbphindnnchfaa.memApart
