/-
  Merged by wip/tools/merge.py: FrSame2 FrSame3
-/
import Derived.Test.YtefgabnmcfpdcaaGreatDoorSqz
import Derived.Test.YtefgabnmcfpdcaaGreatDoorFrAct
import Derived.Test.YtefgabnmcfpdcaaGreatDoorGFi
namespace Go.Proofs.YtefgabnmcfpdcaaGreatDoor.Fr
open Go.RowKit Ex Ino Mm Fs
set_option linter.unusedVariables false
set_option linter.unusedSimpArgs false
def toDV (d : FD) : DV := ⟨d.name, some ⟨d.g, 0, none⟩, d.c, d.xs⟩
theorem own_dv {w : World} {B g cap : Nat} {l : List FD} (h : OwnL w B g cap l) : OwnD w B (some ⟨g, 0, none⟩) cap (l.map toDV) := by
 unfold OwnD
 unfold OwnL at h
 rw [List.length_map, List.flatMap_map]
 exact h
theorem rows_dv {w : World} {B g cap : Nat} {l : List FD} (h : OwnL w B g cap l) (hb : ∀ d ∈ l, BR w w.heap.size (some ⟨d.g, 0, none⟩) d.xs) : RowsD w (some ⟨g, 0, none⟩) (l.map toDV) := fun k hk => by
 obtain ⟨g', e, h1, h2⟩ := (own_dv h).at_ hk
 cases e
 refine ⟨g, rfl, h.block.2.1, h1, h2, ?_⟩
 rw [List.getElem_map]
 exact hb _ (List.getElem_mem _)
variable {W : World} {p gb mb mi q b c d e : Nat} {G Gd M : List UInt8}
theorem filesV_len (g : RG) : (filesV g).length ≤ 8 := by
 unfold filesV idxL
 rw [List.length_map]
 exact Nat.le_trans (List.length_filter_le _ _) (by simp)
theorem files_two (h : MemAt W p gb mb G M) : ∃ (v : Int) (F : List (List UInt8 × List UInt8)), F.length ≤ 8 ∧
  Calls Tryz.prog 31 #[.pointer (some ⟨p, 0, none⟩)] W (fun en W' => ∃ A n l, CoOut W p gb mb G M (.tuple #[.slice A (l : List DV).length n, .int .i64 v]) en W' ∧ RowsD W' A l ∧ l.map (fun d => (d.name, d.xs)) = F) ∧
  ∀ W', RefH W' mi q b c d e M Gd → Calls Tryz.prog 52 #[.pointer (some ⟨q, 0, none⟩)] W' (fun en W'' => ∃ A n l, en = .returned (.tuple #[.slice A (l : List DV).length n, .int .i64 v]) ∧ Keeps (fun _ => False) W' W'' ∧ RowsD W'' A l ∧ l.map (fun d => (d.name, d.xs)) = F) := by
 by_cases ho : okR (regB M)
 ·refine ⟨0, filesV ⟨regB M, readN (regB M)⟩, filesV_len _, (ffiles_any (memC_flat h) ho (good_of h.ml ho)).mono fun en w' ⟨h1, h2, g, cap, l, he, hown, hrows, hv⟩ => ⟨_, cap, l.map toDV, ⟨by rw [List.length_map]; exact he, h1, h2.mono fun _ _ e => .inr e⟩, rows_dv hown fun d hd => (hrows d hd).1, ?_⟩, fun W' hr => (rfiles_any hr).mono fun en w' x => ?_⟩
  ·rw [List.map_map, ← hv]
   rfl
  ·rcases x.2 with ⟨_, R, cap, fl, he, hf, hv⟩ | ⟨hno, _⟩
   ·exact ⟨R, cap, fl, he, x.1, hf.rows, hv⟩
   ·exact absurd ho hno
 ·refine ⟨120, [], by simp, (ffiles_bad (memC_flat h) ho).mono fun en w' x => ⟨none, 0, [], co_bad x, fun k hk => absurd hk (by simp), rfl⟩, fun W' hr => (rfiles_any hr).mono fun en w' x => ?_⟩
  rcases x.2 with ⟨hok, _⟩ | ⟨_, he⟩
  ·exact absurd hok ho
  ·exact ⟨none, 0, [], he, x.1, fun k hk => absurd hk (by simp), rfl⟩
end Go.Proofs.YtefgabnmcfpdcaaGreatDoor.Fr
namespace Go.Proofs.YtefgabnmcfpdcaaGreatDoor.Fr
open Go.RowKit Ex Ino Mm Fs
set_option linter.unusedVariables false
set_option linter.unusedSimpArgs false
variable {lo : Nat} {w W : World} {p gb mb mi q b c d e : Nat} {G Gd M : List UInt8}
set_option maxRecDepth 100000 in
set_option maxHeartbeats 2000000 in
theorem same_two (h : TwoF lo w p gb mb mi q b c d e G Gd M W) :
  Calls Tryz.prog 15 #[.pointer (some ⟨p, 0, none⟩), .pointer (some ⟨q, 0, none⟩)] W (fun en W' => en = .returned (.bool true) ∧ TwoF lo w p gb mb mi q b c d e G Gd M W') := by
 obtain ⟨v, F, hF, hc, hd⟩ := files_two (mi := mi) (q := q) (b := b) (c := c) (d := d) (e := e) (Gd := Gd) h.mem
 have H := Lib.hid h
 have HC := Lib.hid hc
 have HD := Lib.hid hd
 have hsep := h.sep
 clear h hc hd
 go_enter Tryz.func15, Tryz.ntmps15
 go_wp2_with fail
 refine HC.out.mono ?_
 rintro en w1 ⟨A1, n1, l1, ⟨rfl, m1, k1⟩, hr1, hv1⟩
 have HD1 := Lib.hid (HD.out w1 (H.out.mid k1))
 have H1 := Lib.hid (H.out.both m1 k1 (H.out.mid k1) (Keeps.refl _ _))
 have HR1 := Lib.hid hr1
 have HV1 := Lib.hid hv1
 clear m1 k1 hr1 hv1 HC HD H
 go_wp2_with fail
 refine HD1.out.mono ?_
 rintro en w2 ⟨A2, n2, l2, rfl, k2, hr2, hv2⟩
 have H2' := Lib.hid (H1.out.new k2)
 have HR1' := Lib.hid (HR1.out.keep k2)
 have HR2 := Lib.hid hr2
 have HV2 := Lib.hid hv2
 clear k2 hr2 hv2 HD1 H1 HR1
 go_wp2_with fail
 refine wp_region_held (S := fun W' => RefH W' mi q b c d e M Gd) (by kernel_rfl) ?_
 change wpAnyH _ _ _ _ _ _ _ _ w2.drew
 have kd : Keeps (fun _ => False) w2 w2.drew := keeps_below' ((Below.refl _ _).drew)
 have H2 := H2'.out.new kd
 have hr1 := HR1'.out.keep kd
 have hr2 := HR2.out.keep kd
 have hS := H2.ref
 have hmap : l1.map (fun d => (d.name, d.xs)) = l2.map (fun d => (d.name, d.xs)) := HV1.out.trans HV2.out.symm
 have hl1 : l1.length ≤ 1000 := by
  have := congrArg List.length HV1.out
  rw [List.length_map] at this
  omega
 generalize w2.drew = wd at *
 refine sqH 0 (.int .i64 v) rfl (Or.inl ⟨by rfl, fun _ _ => rfl⟩) hS ?_
 try simp only [Act.put, sqT, sqZ, sqS]
 refine sqH 1 (.int .i64 v) rfl (Or.inl ⟨by rfl, fun _ _ => rfl⟩) hS ?_
 try simp only [Act.put, sqT, sqZ, sqS]
 refine sqH 2 (.bool true) rfl (Or.inl ⟨by rfl, fun _ _ => by go_simp⟩) hS ?_
 try simp only [Act.put, sqT, sqZ, sqS]
 refine sqH 3 (.bool true) rfl (Or.inl ⟨by rfl, fun _ _ => rfl⟩) hS ?_
 try simp only [Act.put, sqT, sqZ, sqS]
 refine sqH 4 (.slice A1 l1.length n1) rfl (Or.inl ⟨by rfl, fun _ _ => rfl⟩) hS ?_
 try simp only [Act.put, sqT, sqZ, sqS]
 refine sqH 5 (.slice A2 l2.length n2) rfl (Or.inl ⟨by rfl, fun _ _ => rfl⟩) hS ?_
 try simp only [Act.put, sqT, sqZ, sqS]
 refine wpAnyH_all (rs := [6]) (by kernel_rfl) (by simp) fun i hi => ?_
 obtain rfl : i = 6 := by simpa using hi
 refine op_call (om := ⟨_, _, _, _, _, _⟩) (fn := 53) (args := #[.slice A1 l1.length n1, .slice A2 l2.length n2]) (R := fun u W' => u = .bool true ∧ Keeps (fun _ => False) wd W') rfl rfl (by go_simp)
  ((rsame_any n1 n2 hr1 hr2 hl1 hmap).mono fun en W' ⟨he, k⟩ => ⟨_, he, rfl, k⟩) _ _ rfl rfl ?_
 rintro u w3 ⟨rfl, k3⟩
 have H3 := H2.new k3
 have hS := H3.ref
 refine ⟨hS, ?_⟩
 try simp only [Act.put, sqT, sqZ, sqS]
 refine sqH 7 (.bool true) rfl (Or.inl ⟨by rfl, fun _ _ => by go_simp⟩) hS ?_
 try simp only [Act.put, sqT, sqZ, sqS]
 refine sqH 8 (.bool true) rfl (Or.inl ⟨by rfl, fun _ _ => rfl⟩) hS ?_
 try simp only [Act.put, sqT, sqZ, sqS]
 refine sqH 9 (.pointer (some ⟨p, 0, none⟩)) rfl (Or.inl ⟨by rfl, fun _ _ => rfl⟩) hS ?_
 try simp only [Act.put, sqT, sqZ, sqS]
 refine sqH 12 (.pointer (some ⟨q, 0, none⟩)) rfl (Or.inl ⟨by rfl, fun _ _ => rfl⟩) hS ?_
 try simp only [Act.put, sqT, sqZ, sqS]
 refine sqH 13 (.pointer (some ⟨q, 0, none⟩)) rfl (Or.inl ⟨by rfl, fun _ _ => by go_simp⟩) hS ?_
 try simp only [Act.put, sqT, sqZ, sqS]
 refine sqH 14 (.pointer (some ⟨q, 0, none⟩)) rfl (Or.inl ⟨by rfl, fun _ _ => by go_simp⟩) hS ?_
 try simp only [Act.put, sqT, sqZ, sqS]
 refine sqH 15 (.slice (some ⟨b, 0, none⟩) 8192 c) rfl (yif_load rfl 31 (.tmp 33) rfl _ _ rfl fun w h => load_one aggB8 (RefH.cs h).1) hS ?_
 try simp only [Act.put, sqT, sqZ, sqS]
 refine sqH 16 (.string ⟨M.toArray⟩) rfl (Or.inl ⟨by rfl, fun _ h => ex_convert 31 9 (.tmp 34) rfl _ _ rfl (conv_ref h)⟩) hS ?_
 try simp only [Act.put, sqT, sqZ, sqS]
 refine wpAnyH_all (rs := [10]) (by kernel_rfl) (by simp) fun i hi => ?_
 obtain rfl : i = 10 := by simpa using hi
 refine op_call (om := ⟨_, _, _, _, _, _⟩) (fn := 21) (args := #[.pointer (some ⟨p, 0, none⟩)]) (R := fun u W' => ∃ g, u = .slice (some ⟨g, 0, none⟩) 8192 8192 ∧ Row8 W' g 5 M ∧ MemAt W' p gb mb G M ∧ Keeps (· = mb) w3 W') rfl rfl (by go_simp)
  ((mbytes_at H3.mem).mono fun e W' ⟨g, he, h1, h2, h3, h4⟩ => ⟨_, he, g, by rw [H3.mem.ml], h2, h3, h4⟩) _ _ rfl rfl ?_
 rintro u w4 ⟨g4, rfl, rw4, m4, k4⟩
 have hS := RefH.keep hS k4 (fun i h1 h2 h3 => by omega)
 refine ⟨hS, ?_⟩
 try simp only [Act.put, sqT, sqZ, sqS]
 refine wpAnyH_all (rs := [11]) (by kernel_rfl) (by simp) fun i hi => ?_
 obtain rfl : i = 11 := by simpa using hi
 refine op_run (om := ⟨_, _, _, _, _, _⟩) (u := .string ⟨M.toArray⟩) (w' := w4) rfl rfl (ex_convert 31 9 (.tmp 29) rfl _ _ rfl (conv_row 8192 m4.ml rw4)) _ _ rfl rfl ?_
 rintro u w5 ⟨rfl, rfl⟩
 refine ⟨hS, ?_⟩
 try simp only [Act.put, sqT, sqZ, sqS]
 refine sqH 17 (.bool true) rfl (Or.inl ⟨by rfl, fun _ _ => by go_simp⟩) hS ?_
 try simp only [Act.put, sqT, sqZ, sqS]
 refine sqH 18 (.bool true) rfl (Or.inl ⟨by rfl, fun _ _ => by go_simp⟩) hS ?_
 try simp only [Act.put, sqT, sqZ, sqS]
 refine sqH 19 (.bool true) rfl (Or.inl ⟨by rfl, fun _ _ => rfl⟩) hS ?_
 try simp only [Act.put, sqT, sqZ, sqS]
 refine wpAnyH_done (by kernel_rfl) ?_ _
 try simp only [Act.put, sqT, sqZ, sqS]
 have HG : Hid (TwoF lo w p gb mb mi q b c d e G Gd M w5) := H3.both m4 (k4.mono fun _ _ e => .inr e) hS (Keeps.refl _ _)
 clear hS m4 k4 rw4 H3 k3 H2 hr1 hr2 kd
 go_wp2_with fail
 go_ret
 exact ⟨rfl, HG.out⟩
end Go.Proofs.YtefgabnmcfpdcaaGreatDoor.Fr
