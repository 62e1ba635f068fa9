/-
  MmPage
-/
import Derived.Test.YtdbphindnnchfaaMm
import Derived.Test.YtdbphindnnchfaaGDk
namespace Go.Proofs.Ytdbphindnnchfaa.Mm
open Go.RowKit Go.Maps
set_option linter.unusedVariables false

theorem allocP2 (w : World) (o : Obj) : (Instr.alloc 63 true (.tuple #[])).run Try.prog (w.alloc o) = .ok (.pointer (some ⟨w.heap.size + 1, 0, none⟩)) ((w.alloc o).alloc (.cells z64' 63)) := by
  have := allocP (w.alloc o)
  rwa [World.size_alloc] at this
theorem put71 {w : World} {mb nn : Nat} {f : Nat → Option (List UInt8)} (h : MapF pageC w mb nn f) (n : Nat) (hn : n < 128) (x : List UInt8) (hq : nn < maxLen) :
    ∃ w', (Instr.mapUpdate 51 (.map (some mb)) (.int .i64 (n : Int)) (ag x)).run Try.prog w = .ok () w' ∧ MapF pageC w' mb 128 (updF f n x) ∧ Keeps (· = mb) w w' ∧ w'.heap.size = w.heap.size := by
  obtain ⟨w', h1, h2, h3, h4⟩ := h.put Try.underlying51 n hn x hq
  exact ⟨w', h1, MapF.tight h2, Keeps.grown _ h3 (fun k e => by cases e; rfl), h4⟩

/-- Two new pages, the second of which is stored into. -/
def two (w : World) : World := (w.alloc (.cells z64' 63)).alloc (.cells z64' 63)
theorem two_facts (w : World) (xs : List UInt8) (hx : xs.length = 64) :
    (Instr.storeAt 63 (.pointer (some ⟨w.heap.size + 1, 0, none⟩)) (ag xs)).run Try.prog (two w) = .ok () ((two w).setCells (w.heap.size + 1) 0 (xs.map B8)) ∧
      PgAt ((two w).setCells (w.heap.size + 1) 0 (xs.map B8)) (w.heap.size + 1) xs ∧ PgAt ((two w).setCells (w.heap.size + 1) 0 (xs.map B8)) w.heap.size zs64 ∧ Keeps (fun _ => False) w ((two w).setCells (w.heap.size + 1) 0 (xs.map B8)) := by
  have h1 : PgAt (two w) (w.heap.size + 1) zs64 := heap_alloc2_new w _ _
  have h0 : PgAt (two w) w.heap.size zs64 := heap_alloc2_old w _ _
  obtain ⟨s1, s2, s3⟩ := h1.put zs64_len hx
  exact ⟨s1, s2, h0.keep s3 (by omega), Keeps.thru ((Keeps.alloc (fun _ => False) w (.cells z64' 63)).trans (Keeps.alloc (fun _ => False) _ (.cells z64' 63))) s3 (fun _ _ h => h) fun _ _ h => by omega⟩

variable {w : World} {p gb mb : Nat} {G M : List UInt8}
set_option maxRecDepth 100000 in
set_option maxHeartbeats 400000 in
theorem mpage_at (h : MemAt w p gb mb G M) (n : Nat) (hn : n < 128) :
    Calls Try.prog 40 #[.pointer (some ⟨p, 0, none⟩), .int .i64 (n : Int)] w fun e w' => e = .returned (ag (page M n)) ∧ MemAt w' p gb mb G M ∧ Keeps (· = mb) w w' := by
  have hlen := page_len h.ml hn
  have hlt := h.lt
  have ap := h.apart
  obtain ⟨c0, c1, c2⟩ := h.c
  obtain ⟨f, hf, hok⟩ := h.map
  have look := (hf.keep (w' := w.alloc (.cells z64' 63)) (Below.heap_alloc _ _ _ hf.lt)).look Try.underlying51 zs64 (zeroP _) n hn
  change (Instr.lookup _ _ _ _).run _ _ = .ok (.tuple #[ag ((f n).getD zs64), .bool (f n).isSome]) _ at look
  cases hl : f n with
  | some x =>
    have e := hok.now n hn x hl
    rw [hl] at look
    simp only [Option.getD_some, Option.isSome_some] at look
    rw [e] at look
    have LK := Lib.hid look
    have HL := Lib.hid hlen
    obtain ⟨s1, s2, s3, s4⟩ := two_facts w (page M n) hlen
    obtain ⟨t1, t2, t3⟩ := s3.put zs64_len hlen
    have ST1 := Lib.hid s1
    have LD := Lib.hid (s2.get hlen)
    have ST2 := Lib.hid t1
    have P2 := Lib.hid t2
    have KK := Lib.hid (Keeps.thru (F'' := fun _ => False) s4 t3 (fun _ _ h => h) fun _ _ h => by omega)
    have HM := Lib.hid h
    clear look e hl hok hf s1 s2 s3 s4 t1 t2 t3 hlen h
    go_enter Try.func40, Try.ntmps40
    go_wp2_with (first
      | ((with_reducible refine here (op := .alloc 63) (d := some 4) ?_); refine wpList_alloc_run rfl 63 rfl _ (allocP _) ?_)
      | ((with_reducible refine here (op := .lookup 51 (.tmp 13) (.tmp 14) true) ?_); refine wpList_lookup_run rfl 51 _ _ true rfl _ _ _ rfl rfl LK.out ?_)
      | ((with_reducible refine here (op := .alloc 63) (d := some 5) ?_); refine wpList_alloc_run rfl 63 rfl _ (allocP2 _ _) ?_)
      | ((with_reducible refine here (op := .store 63 (.tmp 5) (.tmp 16)) ?_); refine wpList_store_run rfl 63 _ _ rfl _ _ rfl rfl ST1.out ?_)
      | ((with_reducible refine here (op := .load 63 (.tmp 5)) ?_); refine wpList_load_run rfl 63 _ rfl _ _ rfl LD.out ?_)
      | ((with_reducible refine here (op := .store 63 (.tmp 4) (.tmp 19)) ?_); refine wpList_store_run rfl 63 _ _ rfl _ _ rfl rfl ST2.out ?_))
    refine bodyPost_ret (v := ag (page M n)) ?_ rfl ⟨rfl, HM.out.keep KK.out (fun h => h) (fun h => h) (fun h => h), KK.out.mono fun _ _ h => h.elim⟩
    exact results_cell_row rfl _ _ w.heap.size 63 _ (0, 0) _ rfl P2.out Try.underlying63 rfl (by rw [sizeP]; simp [HL.out])
  | none =>
    have e := hok.was n hn hl
    rw [hl] at look
    simp only [Option.getD_none, Option.isSome_none] at look
    have LK := Lib.hid look
    have HL := Lib.hid hlen
    obtain ⟨s1, s2, s3, s4⟩ := two_facts w zs64 zs64_len
    have ST1 := Lib.hid s1
    have P3 := Lib.hid s3
    have K3 := Lib.hid s4
    have h3 := h.keep s4 (fun h => h) (fun h => h) (fun h => h)
    have HF := Lib.hid (hf.keeps s4 (fun h => h))
    have HO := Lib.hid hok
    have HLF := Lib.hid hl
    have E := Lib.hid e
    have gl := h.gl
    have ml := h.ml
    obtain ⟨ch, hcl, hhead⟩ := h3.head
    have CH := Lib.hid hhead
    have GV := Lib.hid h3.given
    clear look e hl hok hf s1 s2 s3 s4 hlen h hhead
    go_enter Try.func40, Try.ntmps40
    go_wp2_with (first
      | ((with_reducible refine here (op := .alloc 63) (d := some 4) ?_); refine wpList_alloc_run rfl 63 rfl _ (allocP _) ?_)
      | ((with_reducible refine here (op := .lookup 51 (.tmp 13) (.tmp 14) true) ?_); refine wpList_lookup_run rfl 51 _ _ true rfl _ _ _ rfl rfl LK.out ?_)
      | ((with_reducible refine here (op := .alloc 63) (d := some 5) ?_); refine wpList_alloc_run rfl 63 rfl _ (allocP2 _ _) ?_)
      | ((with_reducible refine here (op := .store 63 (.tmp 5) (.tmp 16)) ?_); refine wpList_store_run rfl 63 _ _ rfl _ _ rfl rfl ST1.out ?_)
      | fail)
    refine (mstored_at h3 n hn).mono ?_
    rintro e w4 ⟨rfl, k4⟩
    rw [← E.out]
    have k04 : Keeps (fun _ => False) w w4 := K3.out.trans k4
    have p4 : PgAt w4 w.heap.size zs64 := P3.out.keep k4 (fun h => h)
    have b4 : w.heap.size < w4.heap.size := p4.lt
    obtain ⟨s1, s2, s3⟩ := (PgAt.new w4).put zs64_len HL.out
    have kA : Keeps (fun _ => False) w4 (w4.alloc (.cells z64' 63)) := Keeps.alloc _ _ _
    have k46 : Keeps (fun _ => False) w4 ((w4.alloc (.cells z64' 63)).setCells w4.heap.size 0 ((page M n).map B8)) := Keeps.thru kA s3 (fun _ _ h => h) fun _ _ h => by omega
    have k06 := k04.trans k46
    have p6 := p4.keep k46 (fun h => h)
    have m6 := HF.out.keeps (k4.trans k46) (fun h => h)
    have ST6 := Lib.hid s1
    have P6 := Lib.hid s2
    have P6' := Lib.hid p6
    have K06 := Lib.hid k06
    have M6 := Lib.hid m6
    have C6 := Lib.hid ((k06.cell p 2 hlt.1 (fun h => h)).trans c2)
    have CH6 := Lib.hid (((k4.trans k46).block p h3.lt.1 (fun h => h)).trans CH.out)
    have GV6 := Lib.hid (((k4.trans k46).block gb h3.lt.2.1 (fun h => h)).trans GV.out)
    clear s1 s2 s3 k46 k06 p6 m6 P3 K3 HF k4 k04 h3 LK ST1 CH GV kA p4
    generalize (two w).setCells (w.heap.size + 1) 0 (List.map B8 zs64) = w3 at *
    generalize hP : page M n = x at *
    have HP := Lib.hid hP
    clear hP
    go_wp2_with (first
      | ((with_reducible refine here (op := .alloc 63) (d := some 7) ?_); refine wpList_alloc_run rfl 63 rfl _ (allocP _) ?_)
      | ((with_reducible refine here (op := .store 63 (.tmp 7) (.tmp 26)) ?_); refine wpList_store_run rfl 63 _ _ rfl _ _ rfl rfl ST6.out ?_))
    generalize (w4.alloc (.cells z64' 63)).setCells w4.heap.size 0 (x.map B8) = w6 at *
    have c6 := C6.out
    have LD := Lib.hid ((show PgAt w6.drew w4.heap.size x from P6.out).get HL.out)
    refine wp_region_still_tail 6 (by kernel_rfl) (by kernel_rfl) ?_
    simp only [List.take_succ_cons, List.take_zero, List.drop_succ_cons, List.drop_zero]
    change wpStill _ _ w6.drew (fun a' => wpList _ _ _ _ a' w6.drew) _ _
    have k67 : Keeps (fun _ => False) w6 w6.drew := Keeps.drew _ _
    have e67 : Hid (w6.drew.heap = w6.heap) := rfl
    have c7 : w6.drew.cell? ⟨p, 2, none⟩ = some (.map (some mb)) := c6
    have m7 := M6.out.keeps k67 (fun h => h)
    have p7 := P6.out.keep k67 (fun h => h)
    have p7' := P6'.out.keep k67 (fun h => h)
    generalize w6.drew = w7 at *
    obtain ⟨w8, u1, u2, u3, u4⟩ := put71 m7 n hn x (by unfold maxLen; omega)
    have UP := Lib.hid u1
    obtain ⟨hl1, hl2, hl3⟩ := hlt
    have p8 := p7.keep u3 (by omega)
    have p8' := p7'.keep u3 (by omega)
    obtain ⟨t1, t2, t3⟩ := p8'.put zs64_len HL.out
    have LD8 := Lib.hid (p8.get HL.out)
    have ST8 := Lib.hid t1
    have P9 := Lib.hid t2
    have m8 : MemAt w8 p gb mb G M := by
      refine ⟨gl, ml, ⟨ch, hcl, (u3.block p ?_ ap.2.1).trans ((k67.block p ?_ (fun h => h)).trans CH6.out)⟩, (u3.block gb ?_ ap.2.2).trans ((k67.block gb ?_ (fun h => h)).trans GV6.out), ⟨_, u2, ⟨fun i hi y hy => ?_, fun i hi hy => ?_⟩⟩⟩
      · exact Nat.lt_of_lt_of_le hl1 (Nat.le_trans K06.out.size k67.size)
      · exact Nat.lt_of_lt_of_le hl1 K06.out.size
      · exact Nat.lt_of_lt_of_le hl2 (Nat.le_trans K06.out.size k67.size)
      · exact Nat.lt_of_lt_of_le hl2 K06.out.size
      · unfold updF at hy
        split at hy
        · rename_i e
          cases hy
          rw [e, HP.out]
        · exact HO.out.now i hi y hy
      · unfold updF at hy
        split at hy
        · cases hy
        · exact HO.out.was i hi hy
    have M9 := Lib.hid (m8.keep t3 (by omega) (by omega) (by omega))
    have K9 := Lib.hid (Keeps.thru (F'' := fun k => k = mb) (Keeps.thru (F'' := fun k => k = mb) (K06.out.trans k67) u3 (fun _ _ h => h.elim) fun _ _ h => h) t3 (fun _ _ h => h) fun _ _ h => by omega)
    clear u1 m7 t1 t2 t3 p8 p8' m8 u2 u3 p7 p7' M6 CH6 GV6 K06 k67 P6 P6'
    still_step
    still_step
    still_step
    still_step
    still_step
    refine wpStill_load rfl 63 (.tmp 7) rfl _ _ rfl LD.out ?_
    refine wpStill_nil ?_
    simp only [Act.put, List.setIfInBounds_toArray, List.set_cons_zero, List.set_cons_succ]
    refine wpList_mapUpdate_run rfl 51 _ _ _ rfl _ _ _ rfl rfl rfl UP.out ?_
    go_wp2_with (first
      | ((with_reducible refine here (op := .load 63 (.tmp 7)) ?_); refine wpList_load_run rfl 63 _ rfl _ _ rfl LD8.out ?_)
      | ((with_reducible refine here (op := .store 63 (.tmp 4) (.tmp 35)) ?_); refine wpList_store_run rfl 63 _ _ rfl _ _ rfl rfl ST8.out ?_))
    refine bodyPost_ret (v := ag x) ?_ rfl ⟨by rw [HP.out], M9.out, K9.out⟩
    exact results_cell_row rfl _ _ w.heap.size 63 _ (0, 0) _ rfl P9.out Try.underlying63 rfl (by rw [sizeP]; simp [HL.out])
end Go.Proofs.Ytdbphindnnchfaa.Mm
