/-
  ExRGrow
-/
import Derived.Test.YtjconllgghangaaDoorExGrow
import Derived.Test.YtjconllgghangaaDoorExBlocks
namespace Go.Proofs.YtjconllgghangaaDoor.Ex
open Go.RowKit

theorem add_off (g o j : Nat) : (⟨g, o, none⟩ : Addr).add j = ⟨g, o + j, none⟩ := by
  unfold Addr.add
  split <;> simp_all
theorem own_appL {w : World} {B : Nat} {R : Option Addr} {cap : Nat} {l : List Nat} (h : OwnI w B R cap l) (hB : B ≤ w.heap.size) (hl : l.length ≤ 1000) (m : List Nat) (hm : m.length ≤ 1000) {R2 : Option Addr} {c2 : Nat} (hr : JR w R2 m) (h0 : m = [] → R2 = none ∧ c2 = 0) :
    ∃ R' cap' w', (Builtin.append_ #[24, 24] 24 #[.slice R l.length cap, .slice R2 m.length c2]).run Tryd.prog w = .ok (.slice R' (l ++ m).length cap') w' ∧ OwnI w' B R' cap' (l ++ m) ∧ Below B w w' ∧ ∀ k, k < w.heap.size → Value.ownBlock (.slice R l.length cap) ≠ some k → w'.heap[k]? = w.heap[k]? := by
  obtain ⟨i0, hi, hz0, hz1, hz2⟩ := info_parts Tryd.infoInt
  by_cases hn : m = []
  · subst hn
    obtain ⟨rfl, rfl⟩ := h0 rfl
    have := run_append_owned_none (P := Tryd.prog) (w := w) B 24 24 3 i0 1 Tryd.underlying24 hi _ _ _ h
    exact ⟨R, cap, w, by simpa using this, by simpa using h, Below.refl _ _, fun _ _ _ => rfl⟩
  · have hp : 0 < m.length := List.length_pos_iff.2 hn
    obtain ⟨g, o, rfl, hg, _⟩ := hr.at_ hp
    obtain ⟨v', w', hrun, hown, hgr, _, _⟩ := run_append_own_at (P := Tryd.prog) w B 24 24 3 i0 (.int .i64 0) 1 8 Tryd.underlying24 hi hz0 hz1 hz2 rfl (by decide) _ l.length _ h ⟨g, o, none⟩ m.length c2 (m.map fun (k : Nat) => Value.int .i64 (k : Int)) (by simp) (fun j u hu => by
      simp only [List.getElem?_map, Option.map_eq_some_iff] at hu
      obtain ⟨x, hx, rfl⟩ := hu
      obtain ⟨g', o', e, _, hc⟩ := hr j x hx
      cases e
      rw [add_off]
      exact hc) (by
      intro u hu
      simp only [List.mem_map] at hu
      obtain ⟨_, _, rfl⟩ := hu
      rfl) (by unfold maxLen; omega) (by omega) hB
    obtain ⟨g', cap', rfl, _, _⟩ := World.ownsRow.form hown (by omega)
    refine ⟨_, cap', w', by rw [List.length_append]; exact hrun, ?_, ⟨hgr.os, hgr.tape, hgr.output, hgr.size, fun k hk => hgr.block k (by omega) (fun e => by have := (World.ownsRow.lt h k e.symm).1; omega)⟩, fun k hk hne => hgr.block k hk (fun e => hne e.symm)⟩
    unfold OwnI
    rw [List.length_append, List.map_append]
    exact hown
theorem OwnI.lt_ {w : World} {B : Nat} {R : Option Addr} {cap : Nat} {l : List Nat} (h : OwnI w B R cap l) {k : Nat} (e : Value.ownBlock (.slice R l.length cap) = some k) : B ≤ k ∧ k < w.heap.size := World.ownsRow.lt h k e
/-- The row of one stays where another one's grows. -/
theorem own_beside {w w' : World} {B B2 : Nat} {R R2 : Option Addr} {cap cap2 : Nat} {l m : List Nat} (_h : OwnI w B R cap l) (h2 : OwnI w B2 R2 cap2 m) (hlt : ∀ k, Value.ownBlock (.slice R l.length cap) = some k → k < B2)
    (hk : ∀ k, k < w.heap.size → Value.ownBlock (.slice R l.length cap) ≠ some k → w'.heap[k]? = w.heap[k]?) (hs : w.heap.size ≤ w'.heap.size) : JR w' R2 m := fun k x hx => by
  obtain ⟨g, e, hg, hc⟩ := h2.ir k x hx
  subst e
  have hb := (OwnI.lt_ h2 (k := g) rfl).1
  refine ⟨g, 0, rfl, by omega, ?_⟩
  rw [Nat.zero_add, ← hc]
  exact World.cell?_of_block (w := w) (w' := w') (a := ⟨g, k, none⟩) (hk g hg fun e => by have := hlt g e; omega)
theorem bit_and (u b : Nat) (hu : u < 4294967296) : bits .and .u32 ((u / 2 ^ b : Nat) : Int) 1 = if u.testBit b = true then 1 else 0 := by
  have h1 : u / 2 ^ b < 4294967296 := Nat.lt_of_le_of_lt (Nat.div_le_self _ _) hu
  have := andI (u / 2 ^ b) 1 h1 (by decide)
  rw [show ((1 : Nat) : Int) = 1 from rfl] at this
  rw [this, Nat.and_one_is_mod, Nat.testBit_eq_decide_div_mod_eq]
  have h01 : u / 2 ^ b % 2 = 0 ∨ u / 2 ^ b % 2 = 1 := by omega
  rcases h01 with e | e <;> rw [e] <;> rfl
theorem div_pow (u b : Nat) : (u : Int) / (2 : Int) ^ b = ((u / 2 ^ b : Nat) : Int) := by
  have : (2 : Int) ^ b = ((2 ^ b : Nat) : Int) := by simp
  rw [this, ← Int.natCast_ediv]

set_option maxRecDepth 100000 in
set_option maxHeartbeats 300000 in
theorem rgrow_any (A : Option Addr) (l : List EX) (c u : Nat) (n : Int) (w : World) (h : XR w w.heap.size A l) (hl : l.length ≤ 100) (hu : u < 4294967296) :
    Calls Tryd.prog 16 #[.slice A l.length c, .int .u32 (u : Int), .int .i64 n] w (Out3 w (growV l u n)) := by
  have hbk := rblocks_any A l c w h hl
  have HBK := Lib.hid hbk
  clear hbk
  by_cases hok : ok l = true
  · by_cases hneg : n < 0
    · have hv : growV l u n = ([], 0, 1) := by unfold growV; rw [if_pos (.inr hneg)]
      have HV := Lib.hid hv
      have HOK := Lib.hid hok
      clear hv hok h
      go_enter Tryd.func16, Tryd.ntmps16
      go_wp2_with fail
      refine HBK.out.mono ?_
      rintro e w1 ⟨R, cap, rfl, own, b1⟩
      rw [HOK.out]
      clear own
      go_wp2_with fail
      go_ret3
      exact Out3.no HV.out b1
    · obtain ⟨K, rfl⟩ : ∃ K : Nat, n = (K : Int) := ⟨n.toNat, by omega⟩
      have HOK := Lib.hid hok
      have hgood := ok_good l hok
      rw [← blkO_yes hok] at hgood
      have HG := Lib.hid hgood
      clear hok h hneg hgood
      go_enter Tryd.func16, Tryd.ntmps16
      go_wp2_with fail
      refine HBK.out.mono ?_
      rintro e w1 ⟨R, cap, rfl, own, b1⟩
      rw [HOK.out]
      have OWN := Lib.hid own
      have B1 := Lib.hid b1
      clear own b1 HBK
      go_wp2_with fail
      go_loopw [12, 11] (fun i s wr => ∃ (b : Nat) (m : List Nat) (R2 : Option Addr) (cap2 : Nat), 9 ≤ b ∧ b ≤ 32 ∧ i = .int .i64 (b : Int) ∧ s = .slice R2 m.length cap2 ∧ m = frL u b ∧ m.length ≤ K ∧ OwnI wr w1.heap.size R2 cap2 m ∧ (m = [] → R2 = none ∧ cap2 = 0) ∧ Below w1.heap.size w1 wr) (fun i _ _ => 32 - (intOf i).toNat)
      case atStart => exact ⟨9, [], none, 0, by omega, by omega, rfl, rfl, (frL_nine u).symm, by simp, World.ownsRow_nil _ _ _ _, fun _ => ⟨rfl, rfl⟩, Below.refl _ _⟩
      case round =>
        obtain ⟨b, m, R2, cap2, hb9, hb32, rfl, rfl, hm, hmK, own2, hnil, hb⟩ := hrel
        have hmlen : m.length ≤ 32 := by rw [hm]; have := ((frL_prefix u b (32 - b)).length_le); rw [show b + (32 - b) = 32 from by omega] at this; have := (freeL_good u).len; unfold freeL at this; omega
        by_cases hgo : b < 32 ∧ m.length < K
        · obtain ⟨hg1, hg2⟩ := hgo
          have hdp := div_pow u b
          have hba := bit_and u b hu
          have hsu := frL_succ u b
          rw [← hm] at hsu
          generalize u / 2 ^ b = q at *
          by_cases ht : u.testBit b = true
          · rw [if_pos ht] at hba
            have hs : frL u (b + 1) = m := by rw [hsu, if_neg (by unfold free; rw [ht]; simp)]
            have HS := Lib.hid hs
            have OWN2 := Lib.hid own2
            have HN := Lib.hid hnil
            have HB := Lib.hid hb
            clear hsu hs ht hm own2 hnil hb
            go_wp2_with fail
            go_roundw
            case rel => exact ⟨b + 1, m, R2, cap2, by omega, by omega, by go_num, rfl, HS.out.symm, by omega, OWN2.out, HN.out, HB.out⟩
            case measure => simp [intOf]; omega
          · rw [if_neg ht] at hba
            have hs : frL u (b + 1) = m ++ [b] := by rw [hsu, if_pos (by unfold free; simp [hb9, ht])]
            have ownA : OwnI (wr.alloc (.cells #[.int .i64 (b : Int)] 3)) w1.heap.size R2 cap2 m := own2.alloc _
            have belA : Below w1.heap.size w1 (wr.alloc (.cells #[.int .i64 (b : Int)] 3)) := hb.alloc hb.size _
            obtain ⟨R', cap', w2, hap, own3, b3⟩ := ownA.app belA.size (by omega) b wr.heap.size (by rw [cell_of_row _ _ _ _ _ _ (heap_alloc_new wr _)]; rfl)
            have HL : Hid ((m ++ [b]).length = m.length + 1) := by show _ = _; simp
            have HNE : Hid (m ++ [b] ≠ []) := by show _ ≠ _; simp
            have HS := Lib.hid hs
            have HAP := Lib.hid hap
            have OWN3 := Lib.hid own3
            have BEL := Lib.hid (belA.trans b3)
            clear hsu hs ht hm own2 hnil hb ownA belA hap own3 b3
            generalize m ++ [b] = m3 at *
            go_wp2_with (first | (at_builtin; refine wpList_append_run rfl _ _ 24 rfl _ HAP.out ?_) | fail)
            go_roundw
            case rel => exact ⟨b + 1, m3, R', cap', by omega, by omega, by go_num, by rw [HL.out], HS.out.symm, by rw [HL.out]; omega, OWN3.out, fun e => absurd e HNE.out, BEL.out⟩
            case measure => simp [intOf]; omega
        · have hend : (¬ b < 32 ∧ m.length < K) ∨ m.length = K := by omega
          have hfr : m = (freeL u).take m.length := by rw [hm]; exact frL_take hb32
          rcases hend with ⟨he1, he2⟩ | he
          · have hv : growV l u (K : Int) = ([], 0, 50) := by
              obtain rfl : b = 32 := by omega
              unfold growV
              rw [if_neg (by rw [HOK.out]; rintro (h | h); cases h; omega), if_pos (by rw [show freeL u = m from hm.symm]; omega)]
            have HV := Lib.hid hv
            have HB := Lib.hid (B1.out.trans (hb.mono B1.out.size))
            clear hv hgo hm hfr own2 hnil hb
            go_wp2_with fail
            go_ret3
            exact Out3.no HV.out HB.out
          · have hle : K ≤ (freeL u).length := by
              have := congrArg List.length hfr
              rw [List.length_take] at this
              omega
            have hv : growV l u (K : Int) = (extV [] (blkO l ++ m), u ||| setN m, 0) := by
              unfold growV
              rw [if_neg (by rw [HOK.out]; rintro (h | h); cases h; omega), if_neg (by omega), Int.toNat_natCast, ← he, ← hfr, extV_append, blkO_yes HOK.out, ext_blk HOK.out]
            have hgm : Good m := by rw [hfr]; exact (freeL_good u).take _
            have hol := HG.out.len
            have hml := hgm.len
            have own1 : OwnI wr w.heap.size R cap (blkO l) := OWN.out.below hb
            have hblt : ∀ k, Value.ownBlock (.slice R (blkO l).length cap) = some k → k < w1.heap.size := fun k e => (OwnI.lt_ OWN.out e).2
            obtain ⟨R', cap', w2, hap, own3, b3, o3⟩ := own_appL own1 (Nat.le_trans B1.out.size hb.size) (by omega) m (by omega) (IR.jr own2.ir) hnil
            have hs3 : wr.heap.size ≤ w2.heap.size := b3.size
            have hjm := own_beside own1 own2 hblt o3 hs3
            have hjx := IR.jr own3.ir
            have hlt32 : ∀ x ∈ blkO l ++ m, x < 32 := fun x hx => by
              rcases List.mem_append.1 hx with hx | hx
              · exact (HG.out.2 x hx).2
              · exact (hgm.2 x hx).2
            have hlx : (blkO l ++ m).length ≤ 100 := by rw [List.length_append]; omega
            have hex := rextents_any R' (blkO l ++ m) cap' w2 hjx hlx hlt32
            have hbd := bd_ext (blkO l ++ m) hlt32
            have hset := fun w' (hw : Below w2.heap.size w2 w') => rset_any R2 m cap2 w' (hjm.below hw) hgm
            have hor := orI u (setN m) hu hgm.lt
            have HB2 := Lib.hid ((B1.out.trans (hb.mono B1.out.size)).trans b3)
            have HV := Lib.hid hv
            have HAP := Lib.hid hap
            have HEX := Lib.hid hex
            have HBD := Lib.hid (hbd.1.ok (by omega))
            have HSET := Lib.hid hset
            have hd : decide (m.length < K) = false := by simp; omega
            clear he hmlen
            clear hv hgo hm hfr own2 hnil hb own1 hblt hap own3 b3 o3 hjm hjx hlt32 hlx hex hbd hset hgm hol hml hle OWN HG B1
            generalize extV [] (blkO l ++ m) = X at *
            generalize setN m = S at *
            generalize u ||| S = V at *
            generalize (blkO l).length = n1 at *
            generalize (blkO l ++ m).length = n3 at *
            generalize m.length = M at *
            rcases Nat.lt_or_ge b 32 with h32 | h32
            all_goals
              go_wp2_with (first | (at_builtin; refine wpList_append_run rfl _ _ 24 rfl _ HAP.out ?_) | fail)
              refine HEX.out.mono ?_
              rintro e w3 ⟨R4, c4, rfl, own4, b4⟩
              have HX := Lib.hid (own4.xr HBD.out)
              have HB4 := Lib.hid b4
              clear own4 b4
              go_wp2_with fail
              refine (HSET.out w3 HB4.out).mono ?_
              rintro e w4 ⟨rfl, rfl⟩
              have HF := Lib.hid (HB2.out.trans (HB4.out.mono HB2.out.size))
              go_wp2_with fail
              go_ret3
              exact ⟨R4, c4, by rw [HV.out]; rfl, by rw [HV.out]; exact HX.out, HF.out⟩
  · have hno : ok l = false := by simpa using hok
    have hv : growV l u n = ([], 0, 1) := by unfold growV; rw [if_pos (.inl hno)]
    have HV := Lib.hid hv
    have HNO := Lib.hid hno
    clear hv hok h hno
    go_enter Tryd.func16, Tryd.ntmps16
    go_wp2_with fail
    refine HBK.out.mono ?_
    rintro e w1 ⟨R, cap, rfl, own, b1⟩
    rw [HNO.out]
    clear own
    go_wp2_with fail
    go_ret3
    exact Out3.no HV.out b1
end Go.Proofs.YtjconllgghangaaDoor.Ex
