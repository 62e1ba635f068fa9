/-
  Merged by wip/tools/merge.py: ShSettlePC ShSettleNC ShSettlePB ShSettleNB
-/
import Derived.Test.YtebecpjecchfoaaGreatDoorGShP
import Derived.Test.YtebecpjecchfoaaGreatDoorGShI
namespace Go.Proofs.YtebecpjecchfoaaGreatDoor
open Go.RowKit Go.Maps

theorem bareLoadPC {w : World} {b : Nat} (h : w.heap[b]? = some (.cells (zs64.map B8).toArray 270 (0, 0))) : (Instr.loadAt 270 (.pointer (some ⟨b, 0, none⟩))).run Tryz.prog w = .ok (pageC.enc zs64) w := loadPg (xs := zs64) (by have := br_block h 0 64; rwa [List.drop_zero, List.take_of_length_le (by rw [zs64_len]; exact Nat.le_refl _)] at this) zs64_len
theorem bareAllocPC (w : World) : (Instr.alloc 270 true (.tuple #[])).run Tryz.prog w = .ok (.pointer (some ⟨w.heap.size, 0, none⟩)) (w.alloc (.cells (zs64.map B8).toArray 270)) := by kernel_rfl

set_option maxRecDepth 100000 in
set_option maxHeartbeats 4000000 in
theorem settlePC_any {σ : Type} (p1 : Value) (L : Lay σ (fun A c W Q => Calls Tryz.prog 204 #[.slice A 64 c, p1] W Q)) {w : World} {mb nn : Nat} {f : Nat → Option (List UInt8)} (hm : MapF pageC w mb nn f) (hf : ∀ k x, f k = some x → x.length = 64)
    {F0 : Nat → Prop} {s : σ} {r : Nat} (hI : L.I F0 s w) (hmF : ¬ F0 mb) (hrem : L.rem s (cntB zs64 f (keysF f) + r)) :
    Calls Tryz.prog 222 #[.map (some mb), .func (.func 223) #[] #[], .func (.func 204) #[] #[p1]] w (Settled L zs64 (fun xs => xs) f s r F0 w) := by
  have hmm := @run_makeMap Tryz.prog
  have hmlt := hm.lt
  have hFlt := L.lt hI
  have A1 := Lib.hid (bareAllocPC w)
  have k0 : Keeps (fun _ => False) w ((w.alloc (.cells (zs64.map B8).toArray 270)).alloc (.map #[] 0)) := (Keeps.alloc _ _ _).trans (Keeps.alloc _ _ _)
  have hs0 : ((w.alloc (.cells (zs64.map B8).toArray 270)).alloc (.map #[] 0)).heap.size = w.heap.size + 2 := by simp
  have m0 := MapF.made secC (w.alloc (.cells (zs64.map B8).toArray 270))
  rw [World.size_alloc] at m0
  have b0 : ((w.alloc (.cells (zs64.map B8).toArray 270)).alloc (.map #[] 0)).heap[w.heap.size]? = some (.cells (zs64.map B8).toArray 270 (0, 0)) := (Below.heap_alloc _ _ _ (by simp)).trans (heap_alloc_new w _)
  have hm0 := hm.keeps k0 (fun h => h)
  have hI0 := L.keep hI k0 (fun _ _ _ h => h)
  go_enter Tryz.func222, Tryz.ntmps222
  go_wp2_with (first
    | ((with_reducible refine at_ (op := .alloc 270) ?_); refine wpList_val rfl _ (ex_alloc 270 rfl _ A1.out) ?_))
  clear A1 hmm hm hI
  generalize ((w.alloc (.cells (zs64.map B8).toArray 270)).alloc (.map #[] 0)) = w2 at *
  refine (riseP_any w2 hm0).mono ?_
  intro e w3 hR
  obtain ⟨R, c, rfl, hrow, hb3⟩ := hR.row
  have k3 : Keeps (fun _ => False) w2 w3 := keeps_below hb3
  have hs3 := hb3.size
  have hm3 := hm0.keeps k3 (fun h => h)
  have hI3 := L.keep hI0 k3 (fun _ _ _ h => h)
  have m3 := m0.keeps k3 (fun h => h)
  have b3 := (k3.block _ (by omega) (fun h => h)).trans b0
  have kw3 : Keeps (fun _ => False) w w3 := k0.trans k3
  have hRb := hrow.block
  clear hm0 hI0 m0 b0 k0 k3 hR hb3
  go_wp2_with fail
  try go_frame
  go_loopw [15] (fun i wr => ∃ (k m : Nat) (F : Nat → Prop), k ≤ (keysF f).length ∧ i = .int .i64 k ∧ MapF secC wr (w.heap.size + 1) m (layL L.nxt zs64 (fun xs => xs) f s ((keysF f).take k)).2 ∧ m ≤ 2 * k ∧ L.I F (layL L.nxt zs64 (fun xs => xs) f s ((keysF f).take k)).1 wr ∧ (∀ b, F b → F0 b ∨ w3.heap.size ≤ b) ∧
      L.rem (layL L.nxt zs64 (fun xs => xs) f s ((keysF f).take k)).1 (cntB zs64 f ((keysF f).drop k) + r) ∧ Keeps (fun b => F0 b ∨ b = w.heap.size + 1) w3 wr) (fun i _ => (keysF f).length - (Go.RowKit.intOf i).toNat)
  case atStart => exact ⟨0, 0, F0, Nat.zero_le _, rfl, m3, by omega, hI3, fun b h => .inl h, hrem, Keeps.refl _ _⟩
  case round =>
    obtain ⟨k, m, F, hk, rfl, hr, hmk, hIk, hFk, hrk, hkk⟩ := hrel
    by_cases hlt : k < (keysF f).length
    · have hkl := keysF_len f
      have hF0n : ∀ b, w.heap.size ≤ b → ¬ F0 b := fun b h1 h2 => by have := hFlt _ h2; omega
      have hFn : ∀ b, w.heap.size ≤ b → b < w3.heap.size → ¬ F b := by
        intro b h1 h2 h3
        rcases hFk b h3 with h4 | h4
        · exact hF0n b h1 h4
        · omega
      obtain ⟨g, rfl, hc⟩ := (hrow.keeps hkk (by
        intro ad e h
        have := hRb ad e
        rcases h with h | h
        · exact hF0n _ (by omega) h
        · omega)).cell hlt
      have hq := keysF_mem.1 (List.getElem_mem hlt)
      have hT := layL_take L.nxt zs64 (fun xs => xs) f s (keysF f) k hlt
      have hD := cntB_drop zs64 f (keysF f) k hlt
      generalize (keysF f)[k] = q at *
      obtain ⟨x, hx⟩ := Option.isSome_iff_exists.1 hq.2
      have hgx := hf q x hx
      have hskk := hkk.size
      have hmF3 : ¬ (F0 mb ∨ mb = w.heap.size + 1) := by
        rintro (h | h)
        · exact hmF h
        · omega
      obtain ⟨w4, hup, hr4, hg4, hs4⟩ := hr.put Tryz.underlying273 q hq.1 0 (by unfold maxLen; omega)
      have k4 : Keeps (· = w.heap.size + 1) wr w4 := Keeps.grown _ hg4 (fun j hj => by simp only [Option.some.injEq] at hj; omega)
      have kk4 : Keeps (fun b => F0 b ∨ b = w.heap.size + 1) w3 w4 := hkk.trans (k4.mono (fun _ _ h => .inr h))
      have hm4 := hm3.keeps kk4 hmF3
      have b4 := (kk4.block w.heap.size (by omega) (by
        rintro (h | h)
        · exact hF0n _ (Nat.le_refl _) h
        · omega)).trans b3
      have hI4 := L.keep hIk k4 (fun j hj h e => hFn _ (by omega) (by omega) (e ▸ h))
      have LK := hm4.look1 Tryz.underlying252 zs64 (zeroPg w4) q hq.1
      have LB := bareLoadPC b4
      unfold layStep at hT
      rw [hx] at LK hT hD
      simp only [Option.getD_some] at LK hT hD
      rw [hD] at hrk
      have UP := Lib.hid hup
      have LK' := Lib.hid LK
      have LB' := Lib.hid LB
      have HT := Lib.hid hT
      clear hup LK LB hT hD hr hm4 hg4 hkk hIk k4 b4
      by_cases hb : x = zs64
      · have NQ := Lib.hid (neqPg w4 (xs := x) (ys := zs64) hgx zs64_len)
        rw [show (decide (x = zs64)) = true from decide_eq_true hb] at NQ
        have hT2 := HT.out
        rw [if_pos hb] at hT2
        have HT2 := Lib.hid hT2
        rw [if_pos hb, Nat.zero_add] at hrk
        clear HT hT2
        go_wp2_with (first
          | ((with_reducible refine here (op := .mapUpdate 273 (.tmp 19) (.tmp 20) (.const (.int .i64 0))) ?_); refine wpList_mapUpdate_run rfl 273 _ _ _ rfl _ _ _ rfl rfl rfl UP.out ?_)
          | ((with_reducible refine here (op := .lookup 252 (.tmp 21) (.tmp 22) false) ?_); refine wpList_lookup_run rfl 252 _ _ false rfl _ _ _ rfl rfl LK'.out ?_)
          | ((with_reducible refine here (op := .load 270 (.tmp 7)) ?_); refine wpList_load_run rfl 270 _ rfl _ _ rfl LB'.out ?_)
          | ((with_reducible refine at_ (op := .binOp .neq 270 (.tmp 23) (.tmp 24) 270) ?_); refine wpList_val rfl _ (ex_bin_agg .neq 270 270 (.tmp 23) (.tmp 24) rfl _ _ _ rfl rfl guardPg NQ.out) ?_))
        go_roundw
        case rel =>
          refine ⟨k + 1, m + 1, F, by omega, by go_num, ?_, by omega, ?_, hFk, ?_, kk4⟩
          · rw [HT2.out]; exact hr4
          · rw [HT2.out]; exact hI4
          · rw [HT2.out]; exact hrk
        case measure => simp [Go.RowKit.intOf]; omega
      · have NQ := Lib.hid (neqPg w4 (xs := x) (ys := zs64) hgx zs64_len)
        rw [show (decide (x = zs64)) = false from decide_eq_false hb] at NQ
        have hT2 := HT.out
        rw [if_neg hb] at hT2
        have HT2 := Lib.hid hT2
        rw [if_neg hb, show 1 + cntB zs64 f ((keysF f).drop (k + 1)) + r = (cntB zs64 f ((keysF f).drop (k + 1)) + r) + 1 from by omega] at hrk
        clear HT hT2
        go_wp2_with (first
          | ((with_reducible refine here (op := .mapUpdate 273 (.tmp 19) (.tmp 20) (.const (.int .i64 0))) ?_); refine wpList_mapUpdate_run rfl 273 _ _ _ rfl _ _ _ rfl rfl rfl UP.out ?_)
          | ((with_reducible refine here (op := .lookup 252 (.tmp 21) (.tmp 22) false) ?_); refine wpList_lookup_run rfl 252 _ _ false rfl _ _ _ rfl rfl LK'.out ?_)
          | ((with_reducible refine here (op := .load 270 (.tmp 7)) ?_); refine wpList_load_run rfl 270 _ rfl _ _ rfl LB'.out ?_)
          | ((with_reducible refine at_ (op := .binOp .neq 270 (.tmp 23) (.tmp 24) 270) ?_); refine wpList_val rfl _ (ex_bin_agg .neq 270 270 (.tmp 23) (.tmp 24) rfl _ _ _ rfl rfl guardPg NQ.out) ?_)
          | ((with_reducible refine here (op := .lookup 252 (.tmp 30) (.tmp 31) false) ?_); refine wpList_lookup_run rfl 252 _ _ false rfl _ _ _ rfl rfl LK'.out ?_))
        refine (pageBytes_any x hgx _).mono ?_
        rintro e w5 ⟨ga, ca, rfl, hga, hga2, hbr, hb5, hca⟩
        have hA : ∀ ad, (some ⟨ga, 0, none⟩ : Option Addr) = some ad → w4.heap.size ≤ ad.block := fun ad e => by cases e; exact hga
        rw [hgx]
        have k5 : Keeps (fun _ => False) w4 w5 := keeps_below hb5
        have hI5 := L.keep hI4 k5 (fun _ _ _ h => h)
        have hrun := L.run hI5 hrk hgx hbr (fun ad e h => by
          have h1 := hA ad e
          have h2 := L.lt hI4 _ h
          omega) (c := ca)
        have hdown := L.down _ hgx hrk
        go_wp2_with fail
        refine hrun.mono ?_
        rintro e w6 ⟨rfl, ⟨F', hI6, hF6⟩, k6⟩
        clear hrun
        have k56 := (k5.mono (fun _ _ h => h.elim)).trans k6
        have hrF : ¬ F (w.heap.size + 1) := hFn _ (by omega) (by omega)
        have hr6 := hr4.keeps k56 hrF
        have hs5 := k5.size
        have hs6 := k6.size
        obtain ⟨w7, hup7, hr7, hg7, hs7⟩ := hr6.put Tryz.underlying273 q hq.1 _ (by unfold maxLen; omega)
        rw [updF_updF] at hr7
        have k7 : Keeps (· = w.heap.size + 1) w6 w7 := Keeps.grown _ hg7 (fun j hj => by simp only [Option.some.injEq] at hj; omega)
        have hI7 := L.keep hI6 k7 (by
          intro j hj h e
          subst e
          rcases hF6 _ h with h | h
          · exact hrF h
          · omega)
        have UP7 := Lib.hid hup7
        clear hup7 hg7
        go_wp2_with ((with_reducible refine here (op := .mapUpdate 273 (.tmp 26) (.tmp 27) (.tmp 34)) ?_); refine wpList_mapUpdate_run rfl 273 _ _ _ rfl _ _ _ rfl rfl rfl UP7.out ?_)
        go_roundw
        case rel =>
          refine ⟨k + 1, m + 1 + 1, F', by omega, by go_num, ?_, by omega, ?_, ?_, ?_, ?_⟩
          · rw [HT2.out]; exact hr7
          · rw [HT2.out]; exact hI7
          · intro b hb'
            rcases hF6 b hb' with h | h
            · exact hFk b h
            · exact .inr (by omega)
          · rw [HT2.out]; exact hdown
          · refine ⟨k7.os.trans (k56.os.trans kk4.os), k7.tape.trans (k56.tape.trans kk4.tape), k7.output.trans (k56.output.trans kk4.output), by have := kk4.size; omega, fun b hb' hn => ?_⟩
            have := kk4.size
            refine (k7.block b (by omega) (fun e => hn (.inr e))).trans ((k56.block b (by omega) (fun h => ?_)).trans (kk4.block b hb' hn))
            rcases hFk b h with h | h
            · exact hn (.inl h)
            · omega
        case measure => simp [Go.RowKit.intOf]; omega
    · obtain rfl : k = (keysF f).length := by omega
      have hkl := keysF_len f
      rw [List.take_length] at hr hIk hrk
      rw [List.drop_length] at hrk
      have hc0 : cntB zs64 f [] = 0 := rfl
      rw [hc0, Nat.zero_add] at hrk
      go_wp2_with fail
      go_ret
      refine ⟨w.heap.size + 1, m, F, rfl, by omega, hr, by omega, hIk, fun b hb => ?_, hrk, ?_⟩
      · rcases hFk b hb with h | h
        · exact .inl h
        · exact .inr ⟨by omega, by omega⟩
      · refine ⟨hkk.os.trans kw3.os, hkk.tape.trans kw3.tape, hkk.output.trans kw3.output, Nat.le_trans kw3.size hkk.size, fun b hb hn => ?_⟩
        have hn' : ¬ (F0 b ∨ b = w.heap.size + 1) := by
          rintro (h | h)
          · exact hn h
          · omega
        exact (hkk.block b (by omega) hn').trans (kw3.block b hb (fun h => h))
end Go.Proofs.YtebecpjecchfoaaGreatDoor
namespace Go.Proofs.YtebecpjecchfoaaGreatDoor
open Go.RowKit Go.Maps

theorem bareLoadNC {w : World} {b : Nat} (h : w.heap[b]? = some (.cells (z32.map I6).toArray 183 (0, 0))) : (Instr.loadAt 183 (.pointer (some ⟨b, 0, none⟩))).run Tryz.prog w = .ok (nodeC.enc z32) w := NB.load (zs := z32) h z32_len
theorem bareAllocNC (w : World) : (Instr.alloc 183 true (.tuple #[])).run Tryz.prog w = .ok (.pointer (some ⟨w.heap.size, 0, none⟩)) (w.alloc (.cells (z32.map I6).toArray 183)) := allocN w

set_option maxRecDepth 100000 in
set_option maxHeartbeats 4000000 in
theorem settleNC_any {σ : Type} (p1 : Value) (L : Lay σ (fun A c W Q => Calls Tryz.prog 204 #[.slice A 64 c, p1] W Q)) {w : World} {mb nn : Nat} {f : Nat → Option (List Int)} (hm : MapF nodeC w mb nn f) (hf : ∀ k x, f k = some x → x.length = 32 ∧ okN x = true)
    {F0 : Nat → Prop} {s : σ} {r : Nat} (hI : L.I F0 s w) (hmF : ¬ F0 mb) (hrem : L.rem s (cntB z32 f (keysF f) + r)) :
    Calls Tryz.prog 226 #[.map (some mb), .func (.func 227) #[] #[], .func (.func 204) #[] #[p1]] w (Settled L z32 (fun zs => encB zs 32) f s r F0 w) := by
  have hmm := @run_makeMap Tryz.prog
  have hmlt := hm.lt
  have hFlt := L.lt hI
  have A1 := Lib.hid (bareAllocNC w)
  have k0 : Keeps (fun _ => False) w ((w.alloc (.cells (z32.map I6).toArray 183)).alloc (.map #[] 0)) := (Keeps.alloc _ _ _).trans (Keeps.alloc _ _ _)
  have hs0 : ((w.alloc (.cells (z32.map I6).toArray 183)).alloc (.map #[] 0)).heap.size = w.heap.size + 2 := by simp
  have m0 := MapF.made secC (w.alloc (.cells (z32.map I6).toArray 183))
  rw [World.size_alloc] at m0
  have b0 : ((w.alloc (.cells (z32.map I6).toArray 183)).alloc (.map #[] 0)).heap[w.heap.size]? = some (.cells (z32.map I6).toArray 183 (0, 0)) := (Below.heap_alloc _ _ _ (by simp)).trans (heap_alloc_new w _)
  have hm0 := hm.keeps k0 (fun h => h)
  have hI0 := L.keep hI k0 (fun _ _ _ h => h)
  go_enter Tryz.func226, Tryz.ntmps226
  go_wp2_with (first
    | ((with_reducible refine at_ (op := .alloc 183) ?_); refine wpList_val rfl _ (ex_alloc 183 rfl _ A1.out) ?_))
  clear A1 hmm hm hI
  generalize ((w.alloc (.cells (z32.map I6).toArray 183)).alloc (.map #[] 0)) = w2 at *
  refine (riseN_any w2 hm0).mono ?_
  intro e w3 hR
  obtain ⟨R, c, rfl, hrow, hb3⟩ := hR.row
  have k3 : Keeps (fun _ => False) w2 w3 := keeps_below hb3
  have hs3 := hb3.size
  have hm3 := hm0.keeps k3 (fun h => h)
  have hI3 := L.keep hI0 k3 (fun _ _ _ h => h)
  have m3 := m0.keeps k3 (fun h => h)
  have b3 := (k3.block _ (by omega) (fun h => h)).trans b0
  have kw3 : Keeps (fun _ => False) w w3 := k0.trans k3
  have hRb := hrow.block
  clear hm0 hI0 m0 b0 k0 k3 hR hb3
  go_wp2_with fail
  try go_frame
  go_loopw [15] (fun i wr => ∃ (k m : Nat) (F : Nat → Prop), k ≤ (keysF f).length ∧ i = .int .i64 k ∧ MapF secC wr (w.heap.size + 1) m (layL L.nxt z32 (fun zs => encB zs 32) f s ((keysF f).take k)).2 ∧ m ≤ 2 * k ∧ L.I F (layL L.nxt z32 (fun zs => encB zs 32) f s ((keysF f).take k)).1 wr ∧ (∀ b, F b → F0 b ∨ w3.heap.size ≤ b) ∧
      L.rem (layL L.nxt z32 (fun zs => encB zs 32) f s ((keysF f).take k)).1 (cntB z32 f ((keysF f).drop k) + r) ∧ Keeps (fun b => F0 b ∨ b = w.heap.size + 1) w3 wr) (fun i _ => (keysF f).length - (Go.RowKit.intOf i).toNat)
  case atStart => exact ⟨0, 0, F0, Nat.zero_le _, rfl, m3, by omega, hI3, fun b h => .inl h, hrem, Keeps.refl _ _⟩
  case round =>
    obtain ⟨k, m, F, hk, rfl, hr, hmk, hIk, hFk, hrk, hkk⟩ := hrel
    by_cases hlt : k < (keysF f).length
    · have hkl := keysF_len f
      have hF0n : ∀ b, w.heap.size ≤ b → ¬ F0 b := fun b h1 h2 => by have := hFlt _ h2; omega
      have hFn : ∀ b, w.heap.size ≤ b → b < w3.heap.size → ¬ F b := by
        intro b h1 h2 h3
        rcases hFk b h3 with h4 | h4
        · exact hF0n b h1 h4
        · omega
      obtain ⟨g, rfl, hc⟩ := (hrow.keeps hkk (by
        intro ad e h
        have := hRb ad e
        rcases h with h | h
        · exact hF0n _ (by omega) h
        · omega)).cell hlt
      have hq := keysF_mem.1 (List.getElem_mem hlt)
      have hT := layL_take L.nxt z32 (fun zs => encB zs 32) f s (keysF f) k hlt
      have hD := cntB_drop z32 f (keysF f) k hlt
      generalize (keysF f)[k] = q at *
      obtain ⟨x, hx⟩ := Option.isSome_iff_exists.1 hq.2
      have hgx := hf q x hx
      have hskk := hkk.size
      have hmF3 : ¬ (F0 mb ∨ mb = w.heap.size + 1) := by
        rintro (h | h)
        · exact hmF h
        · omega
      obtain ⟨w4, hup, hr4, hg4, hs4⟩ := hr.put Tryz.underlying273 q hq.1 0 (by unfold maxLen; omega)
      have k4 : Keeps (· = w.heap.size + 1) wr w4 := Keeps.grown _ hg4 (fun j hj => by simp only [Option.some.injEq] at hj; omega)
      have kk4 : Keeps (fun b => F0 b ∨ b = w.heap.size + 1) w3 w4 := hkk.trans (k4.mono (fun _ _ h => .inr h))
      have hm4 := hm3.keeps kk4 hmF3
      have b4 := (kk4.block w.heap.size (by omega) (by
        rintro (h | h)
        · exact hF0n _ (Nat.le_refl _) h
        · omega)).trans b3
      have hI4 := L.keep hIk k4 (fun j hj h e => hFn _ (by omega) (by omega) (e ▸ h))
      have LK := hm4.look1 Tryz.underlying271 z32 (zeroNd w4) q hq.1
      have LB := bareLoadNC b4
      unfold layStep at hT
      rw [hx] at LK hT hD
      simp only [Option.getD_some] at LK hT hD
      rw [hD] at hrk
      have UP := Lib.hid hup
      have LK' := Lib.hid LK
      have LB' := Lib.hid LB
      have HT := Lib.hid hT
      clear hup LK LB hT hD hr hm4 hg4 hkk hIk k4 b4
      by_cases hb : x = z32
      · have NQ := Lib.hid (neqN w4 (xs := x) (ys := z32) hgx.1 z32_len)
        rw [show (decide (x = z32)) = true from decide_eq_true hb] at NQ
        have hT2 := HT.out
        rw [if_pos hb] at hT2
        have HT2 := Lib.hid hT2
        rw [if_pos hb, Nat.zero_add] at hrk
        clear HT hT2
        go_wp2_with (first
          | ((with_reducible refine here (op := .mapUpdate 273 (.tmp 19) (.tmp 20) (.const (.int .i64 0))) ?_); refine wpList_mapUpdate_run rfl 273 _ _ _ rfl _ _ _ rfl rfl rfl UP.out ?_)
          | ((with_reducible refine here (op := .lookup 271 (.tmp 21) (.tmp 22) false) ?_); refine wpList_lookup_run rfl 271 _ _ false rfl _ _ _ rfl rfl LK'.out ?_)
          | ((with_reducible refine here (op := .load 183 (.tmp 7)) ?_); refine wpList_load_run rfl 183 _ rfl _ _ rfl LB'.out ?_)
          | ((with_reducible refine at_ (op := .binOp .neq 183 (.tmp 23) (.tmp 24) 183) ?_); refine wpList_val rfl _ (ex_bin_agg .neq 183 183 (.tmp 23) (.tmp 24) rfl _ _ _ rfl rfl guardN NQ.out) ?_))
        go_roundw
        case rel =>
          refine ⟨k + 1, m + 1, F, by omega, by go_num, ?_, by omega, ?_, hFk, ?_, kk4⟩
          · rw [HT2.out]; exact hr4
          · rw [HT2.out]; exact hI4
          · rw [HT2.out]; exact hrk
        case measure => simp [Go.RowKit.intOf]; omega
      · have NQ := Lib.hid (neqN w4 (xs := x) (ys := z32) hgx.1 z32_len)
        rw [show (decide (x = z32)) = false from decide_eq_false hb] at NQ
        have hT2 := HT.out
        rw [if_neg hb] at hT2
        have HT2 := Lib.hid hT2
        rw [if_neg hb, show 1 + cntB z32 f ((keysF f).drop (k + 1)) + r = (cntB z32 f ((keysF f).drop (k + 1)) + r) + 1 from by omega] at hrk
        clear HT hT2
        go_wp2_with (first
          | ((with_reducible refine here (op := .mapUpdate 273 (.tmp 19) (.tmp 20) (.const (.int .i64 0))) ?_); refine wpList_mapUpdate_run rfl 273 _ _ _ rfl _ _ _ rfl rfl rfl UP.out ?_)
          | ((with_reducible refine here (op := .lookup 271 (.tmp 21) (.tmp 22) false) ?_); refine wpList_lookup_run rfl 271 _ _ false rfl _ _ _ rfl rfl LK'.out ?_)
          | ((with_reducible refine here (op := .load 183 (.tmp 7)) ?_); refine wpList_load_run rfl 183 _ rfl _ _ rfl LB'.out ?_)
          | ((with_reducible refine at_ (op := .binOp .neq 183 (.tmp 23) (.tmp 24) 183) ?_); refine wpList_val rfl _ (ex_bin_agg .neq 183 183 (.tmp 23) (.tmp 24) rfl _ _ _ rfl rfl guardN NQ.out) ?_)
          | ((with_reducible refine here (op := .lookup 271 (.tmp 30) (.tmp 31) false) ?_); refine wpList_lookup_run rfl 271 _ _ false rfl _ _ _ rfl rfl LK'.out ?_))
        refine (nodeBytes_any x hgx.1 hgx.2 _).mono ?_
        rintro e w5 ⟨ga, ca, rfl, hbr, hb5, hA⟩
        have k5 : Keeps (fun _ => False) w4 w5 := keeps_below hb5
        have hI5 := L.keep hI4 k5 (fun _ _ _ h => h)
        have hrun := L.run hI5 hrk (encB_len x 32) hbr (fun ad e h => by
          have h1 := hA ad e
          have h2 := L.lt hI4 _ h
          omega) (c := ca)
        have hdown := L.down _ (encB_len x 32) hrk
        go_wp2_with fail
        refine hrun.mono ?_
        rintro e w6 ⟨rfl, ⟨F', hI6, hF6⟩, k6⟩
        clear hrun
        have k56 := (k5.mono (fun _ _ h => h.elim)).trans k6
        have hrF : ¬ F (w.heap.size + 1) := hFn _ (by omega) (by omega)
        have hr6 := hr4.keeps k56 hrF
        have hs5 := k5.size
        have hs6 := k6.size
        obtain ⟨w7, hup7, hr7, hg7, hs7⟩ := hr6.put Tryz.underlying273 q hq.1 _ (by unfold maxLen; omega)
        rw [updF_updF] at hr7
        have k7 : Keeps (· = w.heap.size + 1) w6 w7 := Keeps.grown _ hg7 (fun j hj => by simp only [Option.some.injEq] at hj; omega)
        have hI7 := L.keep hI6 k7 (by
          intro j hj h e
          subst e
          rcases hF6 _ h with h | h
          · exact hrF h
          · omega)
        have UP7 := Lib.hid hup7
        clear hup7 hg7
        go_wp2_with ((with_reducible refine here (op := .mapUpdate 273 (.tmp 26) (.tmp 27) (.tmp 34)) ?_); refine wpList_mapUpdate_run rfl 273 _ _ _ rfl _ _ _ rfl rfl rfl UP7.out ?_)
        go_roundw
        case rel =>
          refine ⟨k + 1, m + 1 + 1, F', by omega, by go_num, ?_, by omega, ?_, ?_, ?_, ?_⟩
          · rw [HT2.out]; exact hr7
          · rw [HT2.out]; exact hI7
          · intro b hb'
            rcases hF6 b hb' with h | h
            · exact hFk b h
            · exact .inr (by omega)
          · rw [HT2.out]; exact hdown
          · refine ⟨k7.os.trans (k56.os.trans kk4.os), k7.tape.trans (k56.tape.trans kk4.tape), k7.output.trans (k56.output.trans kk4.output), by have := kk4.size; omega, fun b hb' hn => ?_⟩
            have := kk4.size
            refine (k7.block b (by omega) (fun e => hn (.inr e))).trans ((k56.block b (by omega) (fun h => ?_)).trans (kk4.block b hb' hn))
            rcases hFk b h with h | h
            · exact hn (.inl h)
            · omega
        case measure => simp [Go.RowKit.intOf]; omega
    · obtain rfl : k = (keysF f).length := by omega
      have hkl := keysF_len f
      rw [List.take_length] at hr hIk hrk
      rw [List.drop_length] at hrk
      have hc0 : cntB z32 f [] = 0 := rfl
      rw [hc0, Nat.zero_add] at hrk
      go_wp2_with fail
      go_ret
      refine ⟨w.heap.size + 1, m, F, rfl, by omega, hr, by omega, hIk, fun b hb => ?_, hrk, ?_⟩
      · rcases hFk b hb with h | h
        · exact .inl h
        · exact .inr ⟨by omega, by omega⟩
      · refine ⟨hkk.os.trans kw3.os, hkk.tape.trans kw3.tape, hkk.output.trans kw3.output, Nat.le_trans kw3.size hkk.size, fun b hb hn => ?_⟩
        have hn' : ¬ (F0 b ∨ b = w.heap.size + 1) := by
          rintro (h | h)
          · exact hn h
          · omega
        exact (hkk.block b (by omega) hn').trans (kw3.block b hb (fun h => h))
end Go.Proofs.YtebecpjecchfoaaGreatDoor
namespace Go.Proofs.YtebecpjecchfoaaGreatDoor
open Go.RowKit Go.Maps

theorem bareLoadPB {w : World} {b : Nat} (h : w.heap[b]? = some (.cells (zs64.map B8).toArray 270 (0, 0))) : (Instr.loadAt 270 (.pointer (some ⟨b, 0, none⟩))).run Tryz.prog w = .ok (pageC.enc zs64) w := loadPg (xs := zs64) (by have := br_block h 0 64; rwa [List.drop_zero, List.take_of_length_le (by rw [zs64_len]; exact Nat.le_refl _)] at this) zs64_len
theorem bareAllocPB (w : World) : (Instr.alloc 270 true (.tuple #[])).run Tryz.prog w = .ok (.pointer (some ⟨w.heap.size, 0, none⟩)) (w.alloc (.cells (zs64.map B8).toArray 270)) := by kernel_rfl

set_option maxRecDepth 100000 in
set_option maxHeartbeats 4000000 in
theorem settlePB_any {σ : Type} (p1 p2 : Value) (L : Lay σ (fun A c W Q => Calls Tryz.prog 180 #[.slice A 64 c, p1, p2] W Q)) {w : World} {mb nn : Nat} {f : Nat → Option (List UInt8)} (hm : MapF pageC w mb nn f) (hf : ∀ k x, f k = some x → x.length = 64)
    {F0 : Nat → Prop} {s : σ} {r : Nat} (hI : L.I F0 s w) (hmF : ¬ F0 mb) (hrem : L.rem s (cntB zs64 f (keysF f) + r)) :
    Calls Tryz.prog 222 #[.map (some mb), .func (.func 223) #[] #[], .func (.func 180) #[] #[p1, p2]] w (Settled L zs64 (fun xs => xs) f s r F0 w) := by
  have hmm := @run_makeMap Tryz.prog
  have hmlt := hm.lt
  have hFlt := L.lt hI
  have A1 := Lib.hid (bareAllocPB w)
  have k0 : Keeps (fun _ => False) w ((w.alloc (.cells (zs64.map B8).toArray 270)).alloc (.map #[] 0)) := (Keeps.alloc _ _ _).trans (Keeps.alloc _ _ _)
  have hs0 : ((w.alloc (.cells (zs64.map B8).toArray 270)).alloc (.map #[] 0)).heap.size = w.heap.size + 2 := by simp
  have m0 := MapF.made secC (w.alloc (.cells (zs64.map B8).toArray 270))
  rw [World.size_alloc] at m0
  have b0 : ((w.alloc (.cells (zs64.map B8).toArray 270)).alloc (.map #[] 0)).heap[w.heap.size]? = some (.cells (zs64.map B8).toArray 270 (0, 0)) := (Below.heap_alloc _ _ _ (by simp)).trans (heap_alloc_new w _)
  have hm0 := hm.keeps k0 (fun h => h)
  have hI0 := L.keep hI k0 (fun _ _ _ h => h)
  go_enter Tryz.func222, Tryz.ntmps222
  go_wp2_with (first
    | ((with_reducible refine at_ (op := .alloc 270) ?_); refine wpList_val rfl _ (ex_alloc 270 rfl _ A1.out) ?_))
  clear A1 hmm hm hI
  generalize ((w.alloc (.cells (zs64.map B8).toArray 270)).alloc (.map #[] 0)) = w2 at *
  refine (riseP_any w2 hm0).mono ?_
  intro e w3 hR
  obtain ⟨R, c, rfl, hrow, hb3⟩ := hR.row
  have k3 : Keeps (fun _ => False) w2 w3 := keeps_below hb3
  have hs3 := hb3.size
  have hm3 := hm0.keeps k3 (fun h => h)
  have hI3 := L.keep hI0 k3 (fun _ _ _ h => h)
  have m3 := m0.keeps k3 (fun h => h)
  have b3 := (k3.block _ (by omega) (fun h => h)).trans b0
  have kw3 : Keeps (fun _ => False) w w3 := k0.trans k3
  have hRb := hrow.block
  clear hm0 hI0 m0 b0 k0 k3 hR hb3
  go_wp2_with fail
  try go_frame
  go_loopw [15] (fun i wr => ∃ (k m : Nat) (F : Nat → Prop), k ≤ (keysF f).length ∧ i = .int .i64 k ∧ MapF secC wr (w.heap.size + 1) m (layL L.nxt zs64 (fun xs => xs) f s ((keysF f).take k)).2 ∧ m ≤ 2 * k ∧ L.I F (layL L.nxt zs64 (fun xs => xs) f s ((keysF f).take k)).1 wr ∧ (∀ b, F b → F0 b ∨ w3.heap.size ≤ b) ∧
      L.rem (layL L.nxt zs64 (fun xs => xs) f s ((keysF f).take k)).1 (cntB zs64 f ((keysF f).drop k) + r) ∧ Keeps (fun b => F0 b ∨ b = w.heap.size + 1) w3 wr) (fun i _ => (keysF f).length - (Go.RowKit.intOf i).toNat)
  case atStart => exact ⟨0, 0, F0, Nat.zero_le _, rfl, m3, by omega, hI3, fun b h => .inl h, hrem, Keeps.refl _ _⟩
  case round =>
    obtain ⟨k, m, F, hk, rfl, hr, hmk, hIk, hFk, hrk, hkk⟩ := hrel
    by_cases hlt : k < (keysF f).length
    · have hkl := keysF_len f
      have hF0n : ∀ b, w.heap.size ≤ b → ¬ F0 b := fun b h1 h2 => by have := hFlt _ h2; omega
      have hFn : ∀ b, w.heap.size ≤ b → b < w3.heap.size → ¬ F b := by
        intro b h1 h2 h3
        rcases hFk b h3 with h4 | h4
        · exact hF0n b h1 h4
        · omega
      obtain ⟨g, rfl, hc⟩ := (hrow.keeps hkk (by
        intro ad e h
        have := hRb ad e
        rcases h with h | h
        · exact hF0n _ (by omega) h
        · omega)).cell hlt
      have hq := keysF_mem.1 (List.getElem_mem hlt)
      have hT := layL_take L.nxt zs64 (fun xs => xs) f s (keysF f) k hlt
      have hD := cntB_drop zs64 f (keysF f) k hlt
      generalize (keysF f)[k] = q at *
      obtain ⟨x, hx⟩ := Option.isSome_iff_exists.1 hq.2
      have hgx := hf q x hx
      have hskk := hkk.size
      have hmF3 : ¬ (F0 mb ∨ mb = w.heap.size + 1) := by
        rintro (h | h)
        · exact hmF h
        · omega
      obtain ⟨w4, hup, hr4, hg4, hs4⟩ := hr.put Tryz.underlying273 q hq.1 0 (by unfold maxLen; omega)
      have k4 : Keeps (· = w.heap.size + 1) wr w4 := Keeps.grown _ hg4 (fun j hj => by simp only [Option.some.injEq] at hj; omega)
      have kk4 : Keeps (fun b => F0 b ∨ b = w.heap.size + 1) w3 w4 := hkk.trans (k4.mono (fun _ _ h => .inr h))
      have hm4 := hm3.keeps kk4 hmF3
      have b4 := (kk4.block w.heap.size (by omega) (by
        rintro (h | h)
        · exact hF0n _ (Nat.le_refl _) h
        · omega)).trans b3
      have hI4 := L.keep hIk k4 (fun j hj h e => hFn _ (by omega) (by omega) (e ▸ h))
      have LK := hm4.look1 Tryz.underlying252 zs64 (zeroPg w4) q hq.1
      have LB := bareLoadPB b4
      unfold layStep at hT
      rw [hx] at LK hT hD
      simp only [Option.getD_some] at LK hT hD
      rw [hD] at hrk
      have UP := Lib.hid hup
      have LK' := Lib.hid LK
      have LB' := Lib.hid LB
      have HT := Lib.hid hT
      clear hup LK LB hT hD hr hm4 hg4 hkk hIk k4 b4
      by_cases hb : x = zs64
      · have NQ := Lib.hid (neqPg w4 (xs := x) (ys := zs64) hgx zs64_len)
        rw [show (decide (x = zs64)) = true from decide_eq_true hb] at NQ
        have hT2 := HT.out
        rw [if_pos hb] at hT2
        have HT2 := Lib.hid hT2
        rw [if_pos hb, Nat.zero_add] at hrk
        clear HT hT2
        go_wp2_with (first
          | ((with_reducible refine here (op := .mapUpdate 273 (.tmp 19) (.tmp 20) (.const (.int .i64 0))) ?_); refine wpList_mapUpdate_run rfl 273 _ _ _ rfl _ _ _ rfl rfl rfl UP.out ?_)
          | ((with_reducible refine here (op := .lookup 252 (.tmp 21) (.tmp 22) false) ?_); refine wpList_lookup_run rfl 252 _ _ false rfl _ _ _ rfl rfl LK'.out ?_)
          | ((with_reducible refine here (op := .load 270 (.tmp 7)) ?_); refine wpList_load_run rfl 270 _ rfl _ _ rfl LB'.out ?_)
          | ((with_reducible refine at_ (op := .binOp .neq 270 (.tmp 23) (.tmp 24) 270) ?_); refine wpList_val rfl _ (ex_bin_agg .neq 270 270 (.tmp 23) (.tmp 24) rfl _ _ _ rfl rfl guardPg NQ.out) ?_))
        go_roundw
        case rel =>
          refine ⟨k + 1, m + 1, F, by omega, by go_num, ?_, by omega, ?_, hFk, ?_, kk4⟩
          · rw [HT2.out]; exact hr4
          · rw [HT2.out]; exact hI4
          · rw [HT2.out]; exact hrk
        case measure => simp [Go.RowKit.intOf]; omega
      · have NQ := Lib.hid (neqPg w4 (xs := x) (ys := zs64) hgx zs64_len)
        rw [show (decide (x = zs64)) = false from decide_eq_false hb] at NQ
        have hT2 := HT.out
        rw [if_neg hb] at hT2
        have HT2 := Lib.hid hT2
        rw [if_neg hb, show 1 + cntB zs64 f ((keysF f).drop (k + 1)) + r = (cntB zs64 f ((keysF f).drop (k + 1)) + r) + 1 from by omega] at hrk
        clear HT hT2
        go_wp2_with (first
          | ((with_reducible refine here (op := .mapUpdate 273 (.tmp 19) (.tmp 20) (.const (.int .i64 0))) ?_); refine wpList_mapUpdate_run rfl 273 _ _ _ rfl _ _ _ rfl rfl rfl UP.out ?_)
          | ((with_reducible refine here (op := .lookup 252 (.tmp 21) (.tmp 22) false) ?_); refine wpList_lookup_run rfl 252 _ _ false rfl _ _ _ rfl rfl LK'.out ?_)
          | ((with_reducible refine here (op := .load 270 (.tmp 7)) ?_); refine wpList_load_run rfl 270 _ rfl _ _ rfl LB'.out ?_)
          | ((with_reducible refine at_ (op := .binOp .neq 270 (.tmp 23) (.tmp 24) 270) ?_); refine wpList_val rfl _ (ex_bin_agg .neq 270 270 (.tmp 23) (.tmp 24) rfl _ _ _ rfl rfl guardPg NQ.out) ?_)
          | ((with_reducible refine here (op := .lookup 252 (.tmp 30) (.tmp 31) false) ?_); refine wpList_lookup_run rfl 252 _ _ false rfl _ _ _ rfl rfl LK'.out ?_))
        refine (pageBytes_any x hgx _).mono ?_
        rintro e w5 ⟨ga, ca, rfl, hga, hga2, hbr, hb5, hca⟩
        have hA : ∀ ad, (some ⟨ga, 0, none⟩ : Option Addr) = some ad → w4.heap.size ≤ ad.block := fun ad e => by cases e; exact hga
        rw [hgx]
        have k5 : Keeps (fun _ => False) w4 w5 := keeps_below hb5
        have hI5 := L.keep hI4 k5 (fun _ _ _ h => h)
        have hrun := L.run hI5 hrk hgx hbr (fun ad e h => by
          have h1 := hA ad e
          have h2 := L.lt hI4 _ h
          omega) (c := ca)
        have hdown := L.down _ hgx hrk
        go_wp2_with fail
        refine hrun.mono ?_
        rintro e w6 ⟨rfl, ⟨F', hI6, hF6⟩, k6⟩
        clear hrun
        have k56 := (k5.mono (fun _ _ h => h.elim)).trans k6
        have hrF : ¬ F (w.heap.size + 1) := hFn _ (by omega) (by omega)
        have hr6 := hr4.keeps k56 hrF
        have hs5 := k5.size
        have hs6 := k6.size
        obtain ⟨w7, hup7, hr7, hg7, hs7⟩ := hr6.put Tryz.underlying273 q hq.1 _ (by unfold maxLen; omega)
        rw [updF_updF] at hr7
        have k7 : Keeps (· = w.heap.size + 1) w6 w7 := Keeps.grown _ hg7 (fun j hj => by simp only [Option.some.injEq] at hj; omega)
        have hI7 := L.keep hI6 k7 (by
          intro j hj h e
          subst e
          rcases hF6 _ h with h | h
          · exact hrF h
          · omega)
        have UP7 := Lib.hid hup7
        clear hup7 hg7
        go_wp2_with ((with_reducible refine here (op := .mapUpdate 273 (.tmp 26) (.tmp 27) (.tmp 34)) ?_); refine wpList_mapUpdate_run rfl 273 _ _ _ rfl _ _ _ rfl rfl rfl UP7.out ?_)
        go_roundw
        case rel =>
          refine ⟨k + 1, m + 1 + 1, F', by omega, by go_num, ?_, by omega, ?_, ?_, ?_, ?_⟩
          · rw [HT2.out]; exact hr7
          · rw [HT2.out]; exact hI7
          · intro b hb'
            rcases hF6 b hb' with h | h
            · exact hFk b h
            · exact .inr (by omega)
          · rw [HT2.out]; exact hdown
          · refine ⟨k7.os.trans (k56.os.trans kk4.os), k7.tape.trans (k56.tape.trans kk4.tape), k7.output.trans (k56.output.trans kk4.output), by have := kk4.size; omega, fun b hb' hn => ?_⟩
            have := kk4.size
            refine (k7.block b (by omega) (fun e => hn (.inr e))).trans ((k56.block b (by omega) (fun h => ?_)).trans (kk4.block b hb' hn))
            rcases hFk b h with h | h
            · exact hn (.inl h)
            · omega
        case measure => simp [Go.RowKit.intOf]; omega
    · obtain rfl : k = (keysF f).length := by omega
      have hkl := keysF_len f
      rw [List.take_length] at hr hIk hrk
      rw [List.drop_length] at hrk
      have hc0 : cntB zs64 f [] = 0 := rfl
      rw [hc0, Nat.zero_add] at hrk
      go_wp2_with fail
      go_ret
      refine ⟨w.heap.size + 1, m, F, rfl, by omega, hr, by omega, hIk, fun b hb => ?_, hrk, ?_⟩
      · rcases hFk b hb with h | h
        · exact .inl h
        · exact .inr ⟨by omega, by omega⟩
      · refine ⟨hkk.os.trans kw3.os, hkk.tape.trans kw3.tape, hkk.output.trans kw3.output, Nat.le_trans kw3.size hkk.size, fun b hb hn => ?_⟩
        have hn' : ¬ (F0 b ∨ b = w.heap.size + 1) := by
          rintro (h | h)
          · exact hn h
          · omega
        exact (hkk.block b (by omega) hn').trans (kw3.block b hb (fun h => h))
end Go.Proofs.YtebecpjecchfoaaGreatDoor
namespace Go.Proofs.YtebecpjecchfoaaGreatDoor
open Go.RowKit Go.Maps

theorem bareLoadNB {w : World} {b : Nat} (h : w.heap[b]? = some (.cells (z32.map I6).toArray 183 (0, 0))) : (Instr.loadAt 183 (.pointer (some ⟨b, 0, none⟩))).run Tryz.prog w = .ok (nodeC.enc z32) w := NB.load (zs := z32) h z32_len
theorem bareAllocNB (w : World) : (Instr.alloc 183 true (.tuple #[])).run Tryz.prog w = .ok (.pointer (some ⟨w.heap.size, 0, none⟩)) (w.alloc (.cells (z32.map I6).toArray 183)) := allocN w

set_option maxRecDepth 100000 in
set_option maxHeartbeats 4000000 in
theorem settleNB_any {σ : Type} (p1 p2 : Value) (L : Lay σ (fun A c W Q => Calls Tryz.prog 180 #[.slice A 64 c, p1, p2] W Q)) {w : World} {mb nn : Nat} {f : Nat → Option (List Int)} (hm : MapF nodeC w mb nn f) (hf : ∀ k x, f k = some x → x.length = 32 ∧ okN x = true)
    {F0 : Nat → Prop} {s : σ} {r : Nat} (hI : L.I F0 s w) (hmF : ¬ F0 mb) (hrem : L.rem s (cntB z32 f (keysF f) + r)) :
    Calls Tryz.prog 226 #[.map (some mb), .func (.func 227) #[] #[], .func (.func 180) #[] #[p1, p2]] w (Settled L z32 (fun zs => encB zs 32) f s r F0 w) := by
  have hmm := @run_makeMap Tryz.prog
  have hmlt := hm.lt
  have hFlt := L.lt hI
  have A1 := Lib.hid (bareAllocNB w)
  have k0 : Keeps (fun _ => False) w ((w.alloc (.cells (z32.map I6).toArray 183)).alloc (.map #[] 0)) := (Keeps.alloc _ _ _).trans (Keeps.alloc _ _ _)
  have hs0 : ((w.alloc (.cells (z32.map I6).toArray 183)).alloc (.map #[] 0)).heap.size = w.heap.size + 2 := by simp
  have m0 := MapF.made secC (w.alloc (.cells (z32.map I6).toArray 183))
  rw [World.size_alloc] at m0
  have b0 : ((w.alloc (.cells (z32.map I6).toArray 183)).alloc (.map #[] 0)).heap[w.heap.size]? = some (.cells (z32.map I6).toArray 183 (0, 0)) := (Below.heap_alloc _ _ _ (by simp)).trans (heap_alloc_new w _)
  have hm0 := hm.keeps k0 (fun h => h)
  have hI0 := L.keep hI k0 (fun _ _ _ h => h)
  go_enter Tryz.func226, Tryz.ntmps226
  go_wp2_with (first
    | ((with_reducible refine at_ (op := .alloc 183) ?_); refine wpList_val rfl _ (ex_alloc 183 rfl _ A1.out) ?_))
  clear A1 hmm hm hI
  generalize ((w.alloc (.cells (z32.map I6).toArray 183)).alloc (.map #[] 0)) = w2 at *
  refine (riseN_any w2 hm0).mono ?_
  intro e w3 hR
  obtain ⟨R, c, rfl, hrow, hb3⟩ := hR.row
  have k3 : Keeps (fun _ => False) w2 w3 := keeps_below hb3
  have hs3 := hb3.size
  have hm3 := hm0.keeps k3 (fun h => h)
  have hI3 := L.keep hI0 k3 (fun _ _ _ h => h)
  have m3 := m0.keeps k3 (fun h => h)
  have b3 := (k3.block _ (by omega) (fun h => h)).trans b0
  have kw3 : Keeps (fun _ => False) w w3 := k0.trans k3
  have hRb := hrow.block
  clear hm0 hI0 m0 b0 k0 k3 hR hb3
  go_wp2_with fail
  try go_frame
  go_loopw [15] (fun i wr => ∃ (k m : Nat) (F : Nat → Prop), k ≤ (keysF f).length ∧ i = .int .i64 k ∧ MapF secC wr (w.heap.size + 1) m (layL L.nxt z32 (fun zs => encB zs 32) f s ((keysF f).take k)).2 ∧ m ≤ 2 * k ∧ L.I F (layL L.nxt z32 (fun zs => encB zs 32) f s ((keysF f).take k)).1 wr ∧ (∀ b, F b → F0 b ∨ w3.heap.size ≤ b) ∧
      L.rem (layL L.nxt z32 (fun zs => encB zs 32) f s ((keysF f).take k)).1 (cntB z32 f ((keysF f).drop k) + r) ∧ Keeps (fun b => F0 b ∨ b = w.heap.size + 1) w3 wr) (fun i _ => (keysF f).length - (Go.RowKit.intOf i).toNat)
  case atStart => exact ⟨0, 0, F0, Nat.zero_le _, rfl, m3, by omega, hI3, fun b h => .inl h, hrem, Keeps.refl _ _⟩
  case round =>
    obtain ⟨k, m, F, hk, rfl, hr, hmk, hIk, hFk, hrk, hkk⟩ := hrel
    by_cases hlt : k < (keysF f).length
    · have hkl := keysF_len f
      have hF0n : ∀ b, w.heap.size ≤ b → ¬ F0 b := fun b h1 h2 => by have := hFlt _ h2; omega
      have hFn : ∀ b, w.heap.size ≤ b → b < w3.heap.size → ¬ F b := by
        intro b h1 h2 h3
        rcases hFk b h3 with h4 | h4
        · exact hF0n b h1 h4
        · omega
      obtain ⟨g, rfl, hc⟩ := (hrow.keeps hkk (by
        intro ad e h
        have := hRb ad e
        rcases h with h | h
        · exact hF0n _ (by omega) h
        · omega)).cell hlt
      have hq := keysF_mem.1 (List.getElem_mem hlt)
      have hT := layL_take L.nxt z32 (fun zs => encB zs 32) f s (keysF f) k hlt
      have hD := cntB_drop z32 f (keysF f) k hlt
      generalize (keysF f)[k] = q at *
      obtain ⟨x, hx⟩ := Option.isSome_iff_exists.1 hq.2
      have hgx := hf q x hx
      have hskk := hkk.size
      have hmF3 : ¬ (F0 mb ∨ mb = w.heap.size + 1) := by
        rintro (h | h)
        · exact hmF h
        · omega
      obtain ⟨w4, hup, hr4, hg4, hs4⟩ := hr.put Tryz.underlying273 q hq.1 0 (by unfold maxLen; omega)
      have k4 : Keeps (· = w.heap.size + 1) wr w4 := Keeps.grown _ hg4 (fun j hj => by simp only [Option.some.injEq] at hj; omega)
      have kk4 : Keeps (fun b => F0 b ∨ b = w.heap.size + 1) w3 w4 := hkk.trans (k4.mono (fun _ _ h => .inr h))
      have hm4 := hm3.keeps kk4 hmF3
      have b4 := (kk4.block w.heap.size (by omega) (by
        rintro (h | h)
        · exact hF0n _ (Nat.le_refl _) h
        · omega)).trans b3
      have hI4 := L.keep hIk k4 (fun j hj h e => hFn _ (by omega) (by omega) (e ▸ h))
      have LK := hm4.look1 Tryz.underlying271 z32 (zeroNd w4) q hq.1
      have LB := bareLoadNB b4
      unfold layStep at hT
      rw [hx] at LK hT hD
      simp only [Option.getD_some] at LK hT hD
      rw [hD] at hrk
      have UP := Lib.hid hup
      have LK' := Lib.hid LK
      have LB' := Lib.hid LB
      have HT := Lib.hid hT
      clear hup LK LB hT hD hr hm4 hg4 hkk hIk k4 b4
      by_cases hb : x = z32
      · have NQ := Lib.hid (neqN w4 (xs := x) (ys := z32) hgx.1 z32_len)
        rw [show (decide (x = z32)) = true from decide_eq_true hb] at NQ
        have hT2 := HT.out
        rw [if_pos hb] at hT2
        have HT2 := Lib.hid hT2
        rw [if_pos hb, Nat.zero_add] at hrk
        clear HT hT2
        go_wp2_with (first
          | ((with_reducible refine here (op := .mapUpdate 273 (.tmp 19) (.tmp 20) (.const (.int .i64 0))) ?_); refine wpList_mapUpdate_run rfl 273 _ _ _ rfl _ _ _ rfl rfl rfl UP.out ?_)
          | ((with_reducible refine here (op := .lookup 271 (.tmp 21) (.tmp 22) false) ?_); refine wpList_lookup_run rfl 271 _ _ false rfl _ _ _ rfl rfl LK'.out ?_)
          | ((with_reducible refine here (op := .load 183 (.tmp 7)) ?_); refine wpList_load_run rfl 183 _ rfl _ _ rfl LB'.out ?_)
          | ((with_reducible refine at_ (op := .binOp .neq 183 (.tmp 23) (.tmp 24) 183) ?_); refine wpList_val rfl _ (ex_bin_agg .neq 183 183 (.tmp 23) (.tmp 24) rfl _ _ _ rfl rfl guardN NQ.out) ?_))
        go_roundw
        case rel =>
          refine ⟨k + 1, m + 1, F, by omega, by go_num, ?_, by omega, ?_, hFk, ?_, kk4⟩
          · rw [HT2.out]; exact hr4
          · rw [HT2.out]; exact hI4
          · rw [HT2.out]; exact hrk
        case measure => simp [Go.RowKit.intOf]; omega
      · have NQ := Lib.hid (neqN w4 (xs := x) (ys := z32) hgx.1 z32_len)
        rw [show (decide (x = z32)) = false from decide_eq_false hb] at NQ
        have hT2 := HT.out
        rw [if_neg hb] at hT2
        have HT2 := Lib.hid hT2
        rw [if_neg hb, show 1 + cntB z32 f ((keysF f).drop (k + 1)) + r = (cntB z32 f ((keysF f).drop (k + 1)) + r) + 1 from by omega] at hrk
        clear HT hT2
        go_wp2_with (first
          | ((with_reducible refine here (op := .mapUpdate 273 (.tmp 19) (.tmp 20) (.const (.int .i64 0))) ?_); refine wpList_mapUpdate_run rfl 273 _ _ _ rfl _ _ _ rfl rfl rfl UP.out ?_)
          | ((with_reducible refine here (op := .lookup 271 (.tmp 21) (.tmp 22) false) ?_); refine wpList_lookup_run rfl 271 _ _ false rfl _ _ _ rfl rfl LK'.out ?_)
          | ((with_reducible refine here (op := .load 183 (.tmp 7)) ?_); refine wpList_load_run rfl 183 _ rfl _ _ rfl LB'.out ?_)
          | ((with_reducible refine at_ (op := .binOp .neq 183 (.tmp 23) (.tmp 24) 183) ?_); refine wpList_val rfl _ (ex_bin_agg .neq 183 183 (.tmp 23) (.tmp 24) rfl _ _ _ rfl rfl guardN NQ.out) ?_)
          | ((with_reducible refine here (op := .lookup 271 (.tmp 30) (.tmp 31) false) ?_); refine wpList_lookup_run rfl 271 _ _ false rfl _ _ _ rfl rfl LK'.out ?_))
        refine (nodeBytes_any x hgx.1 hgx.2 _).mono ?_
        rintro e w5 ⟨ga, ca, rfl, hbr, hb5, hA⟩
        have k5 : Keeps (fun _ => False) w4 w5 := keeps_below hb5
        have hI5 := L.keep hI4 k5 (fun _ _ _ h => h)
        have hrun := L.run hI5 hrk (encB_len x 32) hbr (fun ad e h => by
          have h1 := hA ad e
          have h2 := L.lt hI4 _ h
          omega) (c := ca)
        have hdown := L.down _ (encB_len x 32) hrk
        go_wp2_with fail
        refine hrun.mono ?_
        rintro e w6 ⟨rfl, ⟨F', hI6, hF6⟩, k6⟩
        clear hrun
        have k56 := (k5.mono (fun _ _ h => h.elim)).trans k6
        have hrF : ¬ F (w.heap.size + 1) := hFn _ (by omega) (by omega)
        have hr6 := hr4.keeps k56 hrF
        have hs5 := k5.size
        have hs6 := k6.size
        obtain ⟨w7, hup7, hr7, hg7, hs7⟩ := hr6.put Tryz.underlying273 q hq.1 _ (by unfold maxLen; omega)
        rw [updF_updF] at hr7
        have k7 : Keeps (· = w.heap.size + 1) w6 w7 := Keeps.grown _ hg7 (fun j hj => by simp only [Option.some.injEq] at hj; omega)
        have hI7 := L.keep hI6 k7 (by
          intro j hj h e
          subst e
          rcases hF6 _ h with h | h
          · exact hrF h
          · omega)
        have UP7 := Lib.hid hup7
        clear hup7 hg7
        go_wp2_with ((with_reducible refine here (op := .mapUpdate 273 (.tmp 26) (.tmp 27) (.tmp 34)) ?_); refine wpList_mapUpdate_run rfl 273 _ _ _ rfl _ _ _ rfl rfl rfl UP7.out ?_)
        go_roundw
        case rel =>
          refine ⟨k + 1, m + 1 + 1, F', by omega, by go_num, ?_, by omega, ?_, ?_, ?_, ?_⟩
          · rw [HT2.out]; exact hr7
          · rw [HT2.out]; exact hI7
          · intro b hb'
            rcases hF6 b hb' with h | h
            · exact hFk b h
            · exact .inr (by omega)
          · rw [HT2.out]; exact hdown
          · refine ⟨k7.os.trans (k56.os.trans kk4.os), k7.tape.trans (k56.tape.trans kk4.tape), k7.output.trans (k56.output.trans kk4.output), by have := kk4.size; omega, fun b hb' hn => ?_⟩
            have := kk4.size
            refine (k7.block b (by omega) (fun e => hn (.inr e))).trans ((k56.block b (by omega) (fun h => ?_)).trans (kk4.block b hb' hn))
            rcases hFk b h with h | h
            · exact hn (.inl h)
            · omega
        case measure => simp [Go.RowKit.intOf]; omega
    · obtain rfl : k = (keysF f).length := by omega
      have hkl := keysF_len f
      rw [List.take_length] at hr hIk hrk
      rw [List.drop_length] at hrk
      have hc0 : cntB z32 f [] = 0 := rfl
      rw [hc0, Nat.zero_add] at hrk
      go_wp2_with fail
      go_ret
      refine ⟨w.heap.size + 1, m, F, rfl, by omega, hr, by omega, hIk, fun b hb => ?_, hrk, ?_⟩
      · rcases hFk b hb with h | h
        · exact .inl h
        · exact .inr ⟨by omega, by omega⟩
      · refine ⟨hkk.os.trans kw3.os, hkk.tape.trans kw3.tape, hkk.output.trans kw3.output, Nat.le_trans kw3.size hkk.size, fun b hb hn => ?_⟩
        have hn' : ¬ (F0 b ∨ b = w.heap.size + 1) := by
          rintro (h | h)
          · exact hn h
          · omega
        exact (hkk.block b (by omega) hn').trans (kw3.block b hb (fun h => h))
end Go.Proofs.YtebecpjecchfoaaGreatDoor
