/-
  FrTab
-/
import Derived.Test.YtefgabnmcfpdcaaGreatDoorGFo
import Derived.Test.YtefgabnmcfpdcaaGreatDoorSameB
namespace Go.Proofs.YtefgabnmcfpdcaaGreatDoor.Fr
open Go.RowKit Ex Ino Mm Fs
set_option linter.unusedVariables false
set_option linter.unusedSimpArgs false
variable {w : World} {mi q b c d e : Nat} {M G : List UInt8}
set_option maxRecDepth 100000 in
theorem rblock_any (h : RefH w mi q b c d e M G) (n : Nat) (hn : n < 32) : Calls Tryz.prog 142 #[.pointer (some ⟨q, 0, none⟩), .int .i64 (n : Int)] w (GivesR w (page (regB M) n)) := by
 have hl := rload_at h (6144 + (n : Int) * 64) 64 (by omega) (by omega)
 rw [show (clamp 64 8192).toNat = 64 by decide, load_page h.bl hn] at hl
 have HL := Lib.hid hl
 have q1 : IntKind.i64.wrap ((n : Int) * 64) = (n : Int) * 64 := by rw [IntKind.wrap_i64]; omega
 have q2 : IntKind.i64.wrap (6144 + (n : Int) * 64) = 6144 + (n : Int) * 64 := by rw [IntKind.wrap_i64]; omega
 clear hl h
 generalize page (regB M) n = P at *
 go_enter Tryz.func142, Tryz.ntmps142
 go_wp2_with fail
 refine HL.out.mono ?_
 rintro en w2 ⟨g, rfl, hr, k⟩
 have HG : Hid (GivesR w P (.returned (.slice (some ⟨g, 0, none⟩) P.length P.length)) w2) := ⟨g, rfl, hr, k⟩
 clear hr k HL
 go_wp2_with fail
 go_ret
 exact HG.out
def TableOut (w : World) (bs : List UInt8) (en : Ending) (w' : World) : Prop := Keeps (fun _ => False) w w' ∧
  ((okR bs ∧ ∃ R cap ls, en = .returned (.tuple #[.slice R 8 cap, .int .u32 (usedN (readN bs) : Int), .bool true]) ∧ ls.length = 8 ∧ ls.map (·.x) = readN bs ∧ TabR w' w.heap.size R cap ls) ∨
   (¬ okR bs ∧ en = .returned (.tuple #[.slice none 0 0, .int .u32 0, .bool false])))
def TbR (w : World) (bs : List UInt8) (g : Nat) (lv av iv : Value) (wr : World) : Prop :=
 ∃ n ls Rl cl Ra ca, g = 8 - n ∧ n ≤ 8 ∧ iv = .int .i64 (n : Int) ∧ lv = .slice Rl ls.length cl ∧ ls.map (·.x) = (readN bs).take n ∧ TabR wr w.heap.size Rl cl ls ∧
  av = .slice Ra (allTo (readN bs) n).length ca ∧ OwnI wr w.heap.size Ra ca (allTo (readN bs) n) ∧ Ex.Good (allTo (readN bs) n) ∧ (∀ k, k < n → decE (page bs (1 + k)) = 0) ∧ ApartTo (readN bs) n ∧ ApA Ra Rl ls ∧ Below w.heap.size w wr
def NmR (ns : List IN) (n : Nat) (w3 : World) (g : Nat) (k : Value) (wr : World) : Prop :=
 ∃ m, g = n - m ∧ m ≤ n ∧ k = .int .i64 (m : Int) ∧ (∀ j, j < m → (at' ns n).name ≠ [] → (at' ns j).name ≠ (at' ns n).name) ∧ Below w3.heap.size w3 wr
def BlR (w : World) (B5 : Nat) (ns : List IN) (n : Nat) (own : List Nat) (Ro : Option Addr) (co : Nat) (R5 : Option Addr) (c5 : Nat) (ls : List IV) (g : Nat) (av kv : Value) (wr : World) : Prop :=
 ∃ j Ra ca, g = own.length - j ∧ j ≤ own.length ∧ kv = .int .i64 (j : Int) ∧ av = .slice Ra (allTo ns n ++ own.take j).length ca ∧ OwnI wr w.heap.size Ra ca (allTo ns n ++ own.take j) ∧ Ex.Good (allTo ns n ++ own.take j) ∧
  (∀ b ∈ own.take j, b ∉ allTo ns n) ∧ ApA Ra R5 ls ∧ (∀ g, Ra = some ⟨g, 0, none⟩ → Ro ≠ some ⟨g, 0, none⟩) ∧ TabR wr w.heap.size R5 c5 ls ∧ OwnI wr B5 Ro co own ∧ Below w.heap.size w wr
theorem apa_move {w : World} {B : Nat} {Ra R8 R5 : Option Addr} {c5 : Nat} {ls : List IV} (h : ApA Ra R5 ls) (t : TabR w B R5 c5 ls) (mv : R8 = Ra ∨ ∃ g, R8 = some ⟨g, 0, none⟩ ∧ w.heap.size < g) : ApA R8 R5 ls := by
 rcases mv with rfl | ⟨g8, rfl, hg⟩
 ·exact h
 ·intro g e
  injection e with e
  injection e with e
  subst e
  refine ⟨fun e5 => ?_, fun d hd hn ad e2 => ?_⟩
  ·have := (t.own.row _ e5).2.2
   simp only at this
   omega
  ·obtain ⟨ad', e', hb, _⟩ := (t.ext d hd).ar hn
   rw [e2] at e'
   cases e'
   omega
theorem BlR.next {w : World} {B5 : Nat} {ns : List IN} {n : Nat} {own : List Nat} {Ro : Option Addr} {co : Nat} {R5 : Option Addr} {c5 : Nat} {ls : List IV} {j : Nat} {Rq : Option Addr} {cq : Nat} {wr : World} {L : List Nat} (hLL : allTo ns n ++ own.take j = L) (hj : j < own.length) (hgo : Ex.Good own) (hin : own[j] ∉ L)
  (allq : OwnI wr w.heap.size Rq cq L) (goodq : Ex.Good L) (notq : ∀ b ∈ own.take j, b ∉ allTo ns n) (apq : ApA Rq R5 ls) (ron : ∀ g, Rq = some ⟨g, 0, none⟩ → Ro ≠ some ⟨g, 0, none⟩) (tabq : TabR wr w.heap.size R5 c5 ls) (ownq : OwnI wr B5 Ro co own) (belq : Below w.heap.size w wr) :
  ∃ R8 c8 w8, (Builtin.append_ #[49, 49] 49 #[.slice Rq L.length cq, .slice (some ⟨wr.heap.size, 0, none⟩) 1 1]).run Tryz.prog (wr.alloc (.cells #[.int .i64 (own[j] : Int)] 3)) = .ok (.slice R8 (L.length + 1) c8) w8 ∧
   BlR w B5 ns n own Ro co R5 c5 ls (own.length - (j + 1)) (.slice R8 (L.length + 1) c8) (.int .i64 ((j : Int) + 1)) w8 := by
 obtain ⟨R8, c8, w8, hap, own8, k8, mv⟩ := OwnI.appK allq belq.size (by have := goodq.len; omega) own[j]
 have ht : own.take (j + 1) = own.take j ++ [own[j]] := List.take_succ_eq_append_getElem hj
 have hL2 : allTo ns n ++ own.take (j + 1) = L ++ [own[j]] := by rw [ht, ← List.append_assoc, hLL]
 refine ⟨R8, c8, w8, hap, j + 1, R8, c8, rfl, by omega, by rw [Int.natCast_add]; rfl, by rw [hL2, List.length_append]; rfl, by rw [hL2]; exact own8, ?_, ?_, apa_move apq tabq mv, ?_, tabq.keepI apq k8, ?_, ?_⟩
 ·rw [hL2]
  refine ⟨List.nodup_append.2 ⟨goodq.1, by simp, fun a ha b hb e => ?_⟩, fun b hb => ?_⟩
  ·rw [List.mem_singleton.1 hb] at e
   subst e
   exact hin ha
  ·rcases List.mem_append.1 hb with h1 | h1
   ·exact goodq.2 b h1
   ·rw [List.mem_singleton.1 h1]
    exact hgo.2 _ (List.getElem_mem hj)
 ·intro b hb hb2
  rw [ht] at hb
  rcases List.mem_append.1 hb with h1 | h1
  ·exact notq b h1 hb2
  ·rw [List.mem_singleton.1 h1] at hb2
   exact hin (by rw [← hLL]; exact List.mem_append_left _ hb2)
 ·intro g e e2
  rcases mv with rfl | ⟨g8, rfl, hg⟩
  ·exact ron g e e2
  ·injection e with e
   injection e with e
   subst e
   have := (owni_row ownq _ e2).2.2.1
   simp only at this
   omega
 ·exact owni_keeps ownq k8 fun ad e f => ron _ f (by rw [e]; exact congrArg some (owni_row ownq ad e).1)
 ·exact belq.trans (k8.toBelow w.heap.size belq.size fun k e => by have := (owni_row allq _ e).2.1; simpa using this)
theorem TbR.next {w : World} {bs : List UInt8} {m : Nat} {ls : List IV} {x : IN} {R2 : Option Addr} {c2 : Nat} {R5 : Option Addr} {c5 : Nat} {Rq : Option Addr} {cq : Nat} {wr : World} {own : List Nat}
  (hm : m < 8) (hmap : ls.map (·.x) = (readN bs).take m) (hls : ls.length = m) (hxat : at' (readN bs) m = x) (hox : blkO x.ext = own) (hE : decE (page bs (1 + m)) = 0) (hdec : ∀ k, k < m → decE (page bs (1 + k)) = 0) (hap : ApartTo (readN bs) m)
  (hnm : ∀ j, j < m → (at' (readN bs) m).name ≠ [] → (at' (readN bs) j).name ≠ (at' (readN bs) m).name)
  (allq : OwnI wr w.heap.size Rq cq (allTo (readN bs) m ++ own)) (goodq : Ex.Good (allTo (readN bs) m ++ own)) (notq : ∀ b ∈ own, b ∉ allTo (readN bs) m) (apq : ApA Rq R5 (ls ++ [⟨x, R2, c2⟩])) (tabq : TabR wr w.heap.size R5 c5 (ls ++ [⟨x, R2, c2⟩])) (belq : Below w.heap.size w wr) :
  TbR w bs (8 - (m + 1)) (.slice R5 (m + 1) c5) (.slice Rq (allTo (readN bs) m ++ own).length cq) (.int .i64 ((m : Int) + 1)) wr := by
 have hall : allTo (readN bs) (m + 1) = allTo (readN bs) m ++ own := by
  show allTo (readN bs) m ++ blkO (at' (readN bs) m).ext = _
  rw [hxat, hox]
 refine ⟨m + 1, ls ++ [⟨x, R2, c2⟩], R5, c5, Rq, cq, rfl, by omega, by rw [Int.natCast_add]; rfl, by rw [List.length_append, hls]; rfl, ?_, tabq, by rw [hall], by rw [hall]; exact allq, by rw [hall]; exact goodq, fun k hk => ?_, apart_next hap hnm (by rw [hxat, hox]; exact notq), apq, belq⟩
 ·rw [List.map_append, hmap, List.take_succ_eq_append_getElem (by rw [readN_len]; exact hm)]
  congr 1
  have : (readN bs)[m]'(by rw [readN_len]; exact hm) = x := by
   rw [← hxat]
   unfold at'
   rw [List.getD_eq_getElem?_getD, List.getElem?_eq_getElem (by rw [readN_len]; exact hm)]
   rfl
  rw [this]
  rfl
 ·by_cases e : k = m
  ·subst e; exact hE
  ·exact hdec k (by omega)
theorem str_eq (a b : List UInt8) : ((⟨a.toArray⟩ : ByteArray).toList == (⟨b.toArray⟩ : ByteArray).toList) = decide (a = b) := by
 rw [ByteArray.toList_mk, ByteArray.toList_mk]
 exact list_eq a b
theorem nodup_take {l : List Nat} (h : l.Nodup) {j b : Nat} (hj : j < l.length) (hb : l[j] = b) : b ∉ l.take j := fun hm => by
 obtain ⟨i, hi, e⟩ := List.mem_iff_getElem.1 hm
 rw [List.length_take] at hi
 rw [List.getElem_take] at e
 have := (List.getElem_inj h).1 (e.trans hb.symm)
 omega
theorem str_nil : (⟨#[]⟩ : ByteArray) = ⟨([] : List UInt8).toArray⟩ := rfl
theorem map_at {ls : List IV} {ns : List IN} {n m : Nat} (h : ls.map (·.x) = ns.take n) (hm : m < ls.length) (hn : ls.length = n) : ls[m].x = at' ns m := by
 have := congrArg (fun l => l.getD m in0) h
 simp only [List.getD_eq_getElem?_getD] at this
 rw [List.getElem?_map, List.getElem?_eq_getElem hm, List.getElem?_take_of_lt (by omega)] at this
 unfold at'
 rw [List.getD_eq_getElem?_getD, ← this]
 rfl
set_option maxRecDepth 20000 in
set_option maxHeartbeats 2000000 in
theorem rtable_any (h : RefH w mi q b c d e M G) : Calls Tryz.prog 98 #[.pointer (some ⟨q, 0, none⟩)] w (TableOut w (regB M)) := by
 have hc2 : w.cell? ⟨q, 2, none⟩ = some (.bool false) := by rw [cell_of_row _ _ _ _ _ _ h.head]; rfl
 have H := Lib.hid h
 have hl : (regB M).length = 2048 := by unfold regB; rw [List.length_drop]; have := h.bl; omega
 clear h
 generalize hbs : regB M = bs at *
 have HST : Hid (TbR w bs 8 (.slice none 0 0) (.slice none 0 0) (.int .i64 0) w) := ⟨0, [], none, 0, none, 0, rfl, by omega, rfl, rfl, rfl, TabR.nil, rfl, World.ownsRow_nil _ _ _ _, ⟨List.nodup_nil, fun _ h => by (cases h)⟩, fun k hk => absurd hk (by omega), fun i j _ hj => absurd hj (by omega), fun _ e => by (cases e), Below.refl _ _⟩
 go_enter Tryz.func98, Tryz.ntmps98
 go_wp2_with fail
 go_loopg [5, 6, 7, 8, 9, 10, 12, 13, 14, 16] 8 (fun g lv av iv _ _ _ _ _ _ _ wr => TbR w bs g lv av iv wr)
 case atStart => exact HST.out
 case round =>
  obtain ⟨n, ls, Rl, cl, Ra, ca, rfl, hn, rfl, rfl, hmap, htab, rfl, hall, hgood, hdec, hap, hapa, hbel⟩ := hrel
  have hls : ls.length = n := by
   have := congrArg List.length hmap
   rw [List.length_map, List.length_take, readN_len] at this
   omega
  have hkeep : Keeps (fun _ => False) w wr := keeps_below' hbel
  have hRef : RefH wr mi q b c d e M G := H.out.keep hkeep (fun _ _ _ f => f)
  have w0 := hbel.size
  clear HST
  by_cases hlt : n < 8
  ·have d0 : decide ((n : Int) < 8) = true := by simp; omega
   have d0' : decide (n < 8) = true := by simp; omega
   have q1 : IntKind.i64.wrap (1 + (n : Int)) = ((1 + n : Nat) : Int) := by rw [IntKind.wrap_i64]; omega
   have q2 : IntKind.i64.wrap ((n : Int) + 1) = (n : Int) + 1 := by rw [IntKind.wrap_i64]; omega
   have hbk := rblock_any hRef (1 + n) (by omega)
   rw [hbs] at hbk
   have HBK := Lib.hid hbk
   have HTAB := Lib.hid htab
   have HALL := Lib.hid hall
   have HP := Lib.hid (And.intro hgood (And.intro hdec hap))
   have HBEL := Lib.hid hbel
   have hpl := page_len' hl (n := 1 + n) (by omega)
   clear hbk htab hall hgood hdec hap hbel hRef hkeep
   go_wp2_with fail
   refine HBK.out.mono ?_
   rintro en w1 ⟨g1, rfl, hr1, k1⟩
   rw [hpl]
   have hD := rdecode_new (some ⟨g1, 0, none⟩) (page bs (1 + n)) 64 w1 hr1.br (by omega) (by omega)
   rw [hpl] at hD
   have HD := Lib.hid hD
   have B1 := Lib.hid (HBEL.out.trans ((k1.toBelow wr.heap.size (Nat.le_refl _) fun _ f => f.elim).mono w0))
   have K1 := Lib.hid k1
   have s1 := k1.size
   clear hD hr1 k1 HBK HBEL
   go_wp2_with fail
   refine HD.out.mono ?_
   rintro en w2 ⟨R2, c2, rfl, hxr, hb2, hnew⟩
   have hxat := readN_at bs hlt
   generalize hxg : decX (page bs (1 + n)) = x at *
   by_cases hE : decE (page bs (1 + n)) = 0
   case neg =>
    have e1 : (decE (page bs (1 + n)) != 0) = true := by simp [hE]
    have HG : Hid (∀ W, Below w2.heap.size w2 W → TableOut w bs (.returned (.tuple #[.slice none 0 0, .int .u32 0, .bool false])) W) := fun W hW =>
     ⟨(keeps_below' (B1.out.trans (hb2.mono (by have := B1.out.size; omega)))).trans ((keeps_below' hW).mono fun _ _ f => f), .inr ⟨fun hok => hE (((okR_iff bs).1 hok).1 n hlt), rfl⟩⟩
    have ba := (Below.refl w2.heap.size w2).alloc (Nat.le_refl _) (.cells #[St x.name, .int .i64 x.size, .slice R2 x.ext.length c2] 123)
    have HG2 := Lib.hid (HG.out _ ba)
    clear hE HG ba
    generalize decE (page bs (1 + n)) = E at *
    go_wp2_with fail
    go_ret3
    exact HG2.out
   have e1 : (decE (page bs (1 + n)) != 0) = false := by simp [hE]
   obtain ⟨w3, hw3⟩ : ∃ w3, w3 = w2.alloc (.cells #[St x.name, .int .i64 x.size, .slice R2 x.ext.length c2] 123) := ⟨_, rfl⟩
   have hbox : w3.heap[w2.heap.size]? = some (.cells #[St x.name, .int .i64 x.size, .slice R2 x.ext.length c2] 123 (0, 0)) := by rw [hw3]; exact World.alloc_heap_new w2 _
   have k23 : Keeps (fun _ => False) w2 w3 := by rw [hw3]; exact Keeps.alloc _ _ _
   have s3 : w3.heap.size = w2.heap.size + 1 := by rw [hw3, World.size_alloc]
   have k13 := (keeps_below' hb2).trans (k23.mono fun _ _ f => f)
   have kr3 := K1.out.trans k13
   have tab3 := HTAB.out.keep kr3 fun _ _ _ f => f
   have all3 : OwnI w3 w.heap.size Ra ca (allTo (readN bs) n) := HALL.out.below (kr3.toBelow _ (Nat.le_refl _) fun _ f => f.elim)
   have xr3 : XR w3 w3.heap.size R2 x.ext := xr_via hxr k23 fun _ _ _ f => f
   have b3 : Below w.heap.size w w3 := B1.out.trans ((k13.toBelow w1.heap.size (Nat.le_refl _) fun _ f => f.elim).mono (by have := B1.out.size; omega))
   have hRl : ∀ ad, R2 = some ad → x.ext ≠ [] → w.heap.size ≤ ad.block ∧ Rl ≠ some ⟨ad.block, 0, none⟩ := fun ad e hn => by
    have h1 := hnew ad e hn
    refine ⟨by omega, fun e2 => ?_⟩
    have := (HTAB.out.own.row _ e2).2.2
    simp only at this
    omega
   have hRa : ∀ g, Ra = some ⟨g, 0, none⟩ → g < w1.heap.size := fun g e => by
    have := (owni_row HALL.out _ e).2.2.1
    simp only at this
    omega
   have hRlb : ∀ ad, Rl = some ad → ad.block < w2.heap.size := fun ad e => by
    have := (HTAB.out.own.row _ e).2.2
    have := hb2.size
    omega
   have APN : Hid (∀ R5, (R5 = Rl ∨ ∃ g, R5 = some ⟨g, 0, none⟩ ∧ w3.heap.size ≤ g) → ApA Ra R5 (ls ++ [⟨x, R2, c2⟩])) := fun R5 h5 g e => by
    have hg := hRa g e
    refine ⟨?_, fun dd hd hn ad e2 => ?_⟩
    ·rcases h5 with rfl | ⟨g5, rfl, h5⟩
     ·exact (hapa g e).1
     ·intro e3
      injection e3 with e3
      injection e3 with e3
      have := hb2.size
      omega
    ·rcases List.mem_append.1 hd with h1 | h1
     ·exact (hapa g e).2 dd h1 hn ad e2
     ·rw [List.mem_singleton.1 h1] at hn e2
      have := hnew ad e2 hn
      omega
   have hfew : x.ext.length ≤ 100 := by
    have := (inOk_dec (b := page bs (1 + n)) (w := w2) (R := R2) (by rw [hxg]; exact hxr)).few
    rwa [hxg] at this
   have HRLB := Lib.hid hRlb
   have HBOX := Lib.hid hbox
   have HTAB3 := Lib.hid tab3
   have HALL3 := Lib.hid all3
   have HXR3 := Lib.hid xr3
   have HB3 := Lib.hid b3
   have HRL := Lib.hid hRl
   have HN0 : Hid (NmR (readN bs) n w3 n (.int .i64 0) w3) := ⟨0, by omega, by omega, rfl, fun j hj => absurd hj (by omega), Below.refl _ _⟩
   clear hbox tab3 all3 xr3 b3 hRl k13 kr3 k23 HTAB HALL hxr hb2 hnew K1 B1 hRa hRlb hapa
   go_wp2_with fail
   rw [← hw3]
   go_loopg [12, 39] n (fun g _ k wq => NmR (readN bs) n w3 g k wq)
   case atStart => exact HN0.out
   case round =>
    obtain ⟨m, rfl, hm, rfl, hnm, bq⟩ := hrel
    clear HN0
    by_cases hml : m < ls.length
    ·obtain ⟨gl, rfl, ca0, ca1, ca2⟩ := (HTAB3.out.keep (keeps_below' bq) fun _ _ _ f => f).own.at_ hml
     have hyx := map_at hmap hml hls
     have hbq : wr.heap[w2.heap.size]? = some (.cells #[St x.name, .int .i64 x.size, .slice R2 x.ext.length c2] 123 (0, 0)) := (bq.block _ (by omega)).trans HBOX.out
     have cx0 : wr.cell? ⟨w2.heap.size, 0, none⟩ = some (St x.name) := by rw [cell_of_row _ _ _ _ _ _ hbq]; rfl
     have hlt2 : w2.heap.size < wr.heap.size := by have := bq.size; omega
     have d1 : decide ((m : Int) < (n : Int)) = true := by simp only [decide_eq_true_eq]; omega
     have d2 : decide (m < n) = true := by simp only [decide_eq_true_eq]; omega
     have p0 : (0 : Int) ≤ m := by omega
     have p1 : (m : Int) < n := by omega
     have p1' : m < n := by omega
     have q3 : IntKind.i64.wrap ((m : Int) + 1) = (m : Int) + 1 := by rw [IntKind.wrap_i64]; omega
     generalize ls[m] = y at *
     have ba := (Below.refl wr.heap.size wr).alloc (Nat.le_refl _) (.cells #[St y.x.name, .int .i64 y.x.size, .slice y.R y.x.ext.length y.c] 123)
     have hst := str_eq y.x.name x.name
     have hst0 := str_eq x.name []
     by_cases h0 : x.name = []
     ·have hem : x.name.isEmpty = true := by simp [h0]
      have HR : Hid (NmR (readN bs) n w3 (n - (m + 1)) (.int .i64 ((m : Int) + 1)) (wr.alloc (.cells #[St y.x.name, .int .i64 y.x.size, .slice y.R y.x.ext.length y.c] 123))) := ⟨m + 1, rfl, by omega, by rw [Int.natCast_add]; rfl, fun j hj hne => absurd (by rw [hxat]; exact h0) hne, bq.trans (ba.mono bq.size)⟩
      clear hst hst0 hyx hnm bq hbq h0 ba
      go_wp2_with fail
      go_roundg (n - (m + 1))
      case rel => exact HR.out
      case measure => omega
     ·have hem : x.name.isEmpty = false := by cases hh : x.name with
       | nil => exact absurd hh h0
       | cons _ _ => rfl
      by_cases heq : y.x.name = x.name
      ·have e2 : decide (y.x.name = x.name) = true := by simp [heq]
       have e3 : (y.x.name == x.name) = true := by simp [heq]
       have HG : Hid (TableOut w bs (.returned (.tuple #[.slice none 0 0, .int .u32 0, .bool false])) (wr.alloc (.cells #[St y.x.name, .int .i64 y.x.size, .slice y.R y.x.ext.length y.c] 123))) :=
        ⟨(keeps_below' HB3.out).trans ((keeps_below' bq).trans ((keeps_below' ba).mono fun _ _ f => f)), .inr ⟨fun hok => apart_name (ns := readN bs) (n := n) (k := m) p1' (by rw [hxat]; exact h0) (by rw [← hyx, heq, hxat]) hlt ((okR_iff bs).1 hok).2.1, rfl⟩⟩
       clear hst0 hyx hnm bq hbq h0 ba heq
       go_wp2_with fail
       go_ret3
       exact HG.out
      ·have e2 : decide (y.x.name = x.name) = false := by simp [heq]
       have e3 : (y.x.name == x.name) = false := by simp [heq]
       have HR : Hid (NmR (readN bs) n w3 (n - (m + 1)) (.int .i64 ((m : Int) + 1)) (wr.alloc (.cells #[St y.x.name, .int .i64 y.x.size, .slice y.R y.x.ext.length y.c] 123))) := ⟨m + 1, rfl, by omega, by rw [Int.natCast_add]; rfl, fun j hj hne => by
        by_cases e : j = m
        ·subst e
         rw [← hyx, hxat]
         exact heq
        ·exact hnm j (by omega) hne, bq.trans (ba.mono bq.size)⟩
       clear hst0 hyx hnm bq hbq h0 ba heq
       go_wp2_with fail
       go_roundg (n - (m + 1))
       case rel => exact HR.out
       case measure => omega
    ·obtain rfl : m = n := by omega
     have kq : Keeps (fun _ => False) w3 wr := keeps_below' bq
     have tabq := HTAB3.out.keep kq fun _ _ _ f => f
     have allq : OwnI wr w.heap.size Ra ca (allTo (readN bs) m) := HALL3.out.below bq
     have xrq : XR wr wr.heap.size R2 x.ext := xr_via HXR3.out kq fun _ _ _ f => f
     have bwq : Below w.heap.size w wr := HB3.out.trans (bq.mono HB3.out.size)
     have hbq : wr.heap[w2.heap.size]? = some (.cells #[St x.name, .int .i64 x.size, .slice R2 x.ext.length c2] 123 (0, 0)) := (bq.block _ (by omega)).trans HBOX.out
     have hq3 := bq.size
     obtain ⟨R5, c5, w5, hap, tab5, k5, mv5⟩ := tabq.app bwq.size (by omega) ⟨x, R2, c2⟩ xrq (fun hn ad e => HRL.out ad e hn)
     have apa5 := APN.out R5 (mv5.elim .inl fun ⟨g, e, h⟩ => .inr ⟨g, e, by omega⟩)
     rw [hls] at hap
     have hap' : (Builtin.append_ #[132, 132] 132 #[.slice Rl m cl, .slice (some ⟨wr.heap.size, 0, none⟩) 1 1]).run Tryz.prog (wr.alloc (.cells #[St x.name, .int .i64 x.size, .slice R2 x.ext.length c2] 123)) = .ok (.slice R5 (m + 1) c5) w5 := hap
     have HAP := Lib.hid hap'
     have cx0 : wr.cell? ⟨w2.heap.size, 0, none⟩ = some (St x.name) := by rw [cell_of_row _ _ _ _ _ _ hbq]; rfl
     have cx1 : wr.cell? ⟨w2.heap.size, 1, none⟩ = some (.int .i64 x.size) := by rw [cell_of_row _ _ _ _ _ _ hbq]; rfl
     have cx2 : wr.cell? ⟨w2.heap.size, 2, none⟩ = some (.slice R2 x.ext.length c2) := by rw [cell_of_row _ _ _ _ _ _ hbq]; rfl
     have hnb : Rl ≠ some ⟨w2.heap.size, 0, none⟩ := fun e => by have := HRLB.out _ e; simp only at this; omega
     have hb5 : w5.heap[w2.heap.size]? = some (.cells #[St x.name, .int .i64 x.size, .slice R2 x.ext.length c2] 123 (0, 0)) := (k5.block _ (by omega) hnb).trans hbq
     have cy2 : w5.cell? ⟨w2.heap.size, 2, none⟩ = some (.slice R2 x.ext.length c2) := by rw [cell_of_row _ _ _ _ _ _ hb5]; rfl
     have xr5 : XR w5 w5.heap.size R2 x.ext := xr_via xrq k5 fun hn ad e => (HRL.out ad e hn).2
     have all5 : OwnI w5 w.heap.size Ra ca (allTo (readN bs) m) := owni_keeps allq k5 fun ad e f => rows_apart tabq.own allq ad.block f (by rw [e]; exact congrArg some (owni_row allq ad e).1)
     have b5 : Below w.heap.size w w5 := bwq.trans (k5.toBelow w.heap.size bwq.size fun k e => by have := (tabq.own.row _ e).2.1; simpa using this)
     have HBL := Lib.hid (rblocks_any R2 x.ext c2 w5 xr5 hfew)
     have T5 := Lib.hid tab5
     have A5 := Lib.hid all5
     have P5 := Lib.hid apa5
     have S5 := Lib.hid b5
     have LSL : (ls ++ [(⟨x, R2, c2⟩ : IV)]).length = m + 1 := by rw [List.length_append, hls]; rfl
     have NMF := Lib.hid (fun k hk h0 => hnm k hk h0)
     clear tabq allq xrq bwq hbq hap hap' tab5 k5 mv5 apa5 hb5 xr5 all5 b5 bq kq hnm hnb HTAB3 HALL3 HXR3 HB3 HBOX HRL APN HRLB
     go_wp2_with (first
      | ((with_reducible refine here (op := .call { callee := .builtin .append, args := #[.tmp 54, .tmp 56], argTypes := #[132, 132] }) ?_); refine wpList_append_run rfl _ _ 132 rfl _ HAP.out ?_)
      | fail)
     refine HBL.out.mono ?_
     rintro en w6 ⟨Ro, co, rfl, own6, b56⟩
     have HB0 : Hid (BlR w w5.heap.size (readN bs) m (blkO x.ext) Ro co R5 c5 (ls ++ [⟨x, R2, c2⟩]) (blkO x.ext).length (.slice Ra (allTo (readN bs) m).length ca) (.int .i64 0) w6) := by
      have k56 := keeps_below' (F := fun _ => False) b56
      refine ⟨0, Ra, ca, by omega, by omega, rfl, by rw [List.take_zero, List.append_nil], by rw [List.take_zero, List.append_nil]; exact owni_keeps A5.out k56 fun _ _ f => f, by rw [List.take_zero, List.append_nil]; exact HP.out.1, fun _ h => (by rw [List.take_zero] at h; cases h), P5.out, fun g e e2 => ?_, T5.out.keep k56 fun _ _ _ f => f, own6, S5.out.trans (b56.mono S5.out.size)⟩
      have h1 := (owni_row A5.out _ e).2.2.1
      have h2 := (owni_row own6 _ e2).2.1
      simp only at h1 h2
      omega
     have hgx := blkO_good x.ext
     clear own6 b56 A5 P5 T5 HBL HAP S5
     generalize hox : blkO x.ext = own at *
     have hol := hgx.len
     go_wp2_with fail
     go_loopg [6, 16, 66] own.length (fun g av _ kv wq => BlR w w5.heap.size (readN bs) m own Ro co R5 c5 (ls ++ [⟨x, R2, c2⟩]) g av kv wq)
     case atStart => exact HB0.out
     case round =>
      obtain ⟨j, Rq, cq, rfl, hj, rfl, rfl, allq, goodq, notq, apq, ron, tabq, ownq, belq⟩ := hrel
      generalize hLL : allTo (readN bs) m ++ own.take j = L at *
      have goodL := goodq
      by_cases hjl : j < own.length
      ·obtain ⟨go, rfl, hgo, co0⟩ := ownq.ir.at_ hjl
       have hb32 := hgx.2 own[j] (List.getElem_mem hjl)
       have HSET := Lib.hid (rset_any Rq _ cq wr (IR.jr (OwnI.ir allq)) goodq)
       have d1 : decide ((j : Int) < (own.length : Int)) = true := by simp only [decide_eq_true_eq]; omega
       have d2 : decide (j < own.length) = true := by simp only [decide_eq_true_eq]; omega
       have p0 : (0 : Int) ≤ j := by omega
       have p1 : (j : Int) < own.length := by omega
       have q3 : IntKind.i64.wrap ((j : Int) + 1) = (j : Int) + 1 := by rw [IntKind.wrap_i64]; omega
       have QQ := Lib.hid (And.intro allq (And.intro goodq (And.intro notq (And.intro apq (And.intro ron (And.intro tabq (And.intro ownq belq)))))))
       clear allq goodq notq apq ron tabq ownq belq HB0
       have hsb := setN_bit L own[j]
       have hsn32 : setN L < 4294967296 := setN_lt fun b hb => (goodL.2 b hb).2
       generalize setN L = sn at *
       generalize hbj : own[j] = bj at *
       have hba := bit_and sn bj hsn32
       have hdv := div_pow sn bj
       have hz0 : (0 : Int) ≤ (bj : Int) := by omega
       have hz1 : (bj : Int) ≤ 32 := by omega
       have hwu : IntKind.u64.wrap (bj : Int) = (bj : Int) := by simp [IntKind.wrap, IntKind.bits, IntKind.signed]; omega
       generalize sn / 2 ^ bj = qd at *
       by_cases hin : bj ∈ L
       ·rw [hsb, if_pos (by simp [hin])] at hba
        have HG : Hid (∀ W, Keeps (fun _ => False) wr W → TableOut w bs (.returned (.tuple #[.slice none 0 0, .int .u32 0, .bool false])) W) := fun W hW =>
         ⟨((keeps_below' QQ.out.2.2.2.2.2.2.2).mono fun _ _ f => f).trans hW, .inr ⟨fun hok => by
          have hbm : bj ∈ blkO (at' (readN bs) m).ext := by rw [hxat, hox, ← hbj]; exact List.getElem_mem hjl
          refine apart_block (bare_read bs) hbm ?_ hlt ((okR_iff bs).1 hok).2.1
          rw [← hLL] at hin
          rcases List.mem_append.1 hin with h1 | h1
          ·exact h1
          ·exact absurd h1 (nodup_take hgx.1 hjl (by rw [hbj])), rfl⟩⟩
        have HG2 := Lib.hid (HG.out wr (Keeps.refl _ _))
        clear HG hin hsb hbj hb32 QQ hsn32
        go_wp2_with fail
        refine HSET.out.mono ?_
        rintro en w7 ⟨rfl, rfl⟩
        go_wp2_with fail
        go_ret3
        exact HG2.out
       ·rw [hsb, if_neg (by simp [hin])] at hba
        have hin' : own[j] ∉ L := by rw [hbj]; exact hin
        obtain ⟨R8, c8, w8, hap8, rel8⟩ := BlR.next hLL hjl hgx hin' QQ.out.1 QQ.out.2.1 QQ.out.2.2.1 QQ.out.2.2.2.1 QQ.out.2.2.2.2.1 QQ.out.2.2.2.2.2.1 QQ.out.2.2.2.2.2.2.1 QQ.out.2.2.2.2.2.2.2
        rw [hbj] at hap8
        have HAP8 := Lib.hid hap8
        have REL8 := Lib.hid rel8
        clear hap8 rel8 hin hin' hsb hbj hb32 QQ hsn32 hLL goodL
        go_wp2_with fail
        refine HSET.out.mono ?_
        rintro en w7 ⟨rfl, rfl⟩
        go_wp2_with (first
         | ((with_reducible refine here (op := .call { callee := .builtin .append, args := #[.tmp 77, .tmp 79], argTypes := #[49, 49] }) ?_); refine wpList_append_run rfl _ _ 49 rfl _ HAP8.out ?_)
         | fail)
        go_roundg (own.length - (j + 1))
        case rel => exact REL8.out
        case measure => omega
      ·obtain rfl : j = own.length := by omega
       rw [List.take_length] at hLL notq
       subst hLL
       have NX := Lib.hid (TbR.next hlt hmap hls hxat hox hE HP.out.2.1 HP.out.2.2 NMF.out allq goodq notq apq tabq belq)
       clear allq goodq notq apq tabq belq ron ownq goodL HB0 NMF HP
       have d1 : decide ((own.length : Int) < (own.length : Int)) = false := by simp
       generalize (allTo (readN bs) m ++ own).length = LL at *
       go_wp2_with fail
       go_roundg (8 - (m + 1))
       case rel => exact NX.out
       case measure => omega
  ·obtain rfl : n = 8 := by omega
   have hused := used_all (bare_read bs)
   have HSET := Lib.hid (rset_any Ra _ ca wr (IR.jr (OwnI.ir hall)) hgood)
   have hlt32 := usedN_lt (readN bs)
   have hbk := rblock_any hRef 0 (by omega)
   rw [hbs] at hbk
   have hpl := page_len' hl (n := 0) (by omega)
   have HBK := Lib.hid hbk
   have HTAB := Lib.hid htab
   have HBEL := Lib.hid hbel
   have HOK := Lib.hid ((okR_iff bs).trans ⟨fun h => h.2.2, fun h => ⟨hdec, (apart_to _).2 hap, h⟩⟩)
   have hm8 : ls.map (·.x) = readN bs := by rw [hmap, List.take_of_length_le (by rw [readN_len]; omega)]
   have HM8 := Lib.hid (And.intro hls hm8)
   rw [hused] at HSET
   clear htab hall hgood hdec hap hbel hRef hkeep hbk hmap hm8 hapa hused
   generalize (allTo (readN bs) 8).length = LL at *
   generalize huu : usedN (readN bs) = u at *
   have HU := Lib.hid huu
   clear huu
   go_wp2_with fail
   refine HSET.out.mono ?_
   rintro en w1 ⟨rfl, rfl⟩
   go_wp2_with fail
   refine HBK.out.mono ?_
   rintro en w2 ⟨g2, rfl, hr2, k2⟩
   rw [hpl]
   have HH := Lib.hid (rhead_any u hlt32 w2)
   have BR2 := Lib.hid hr2.br
   have K2 := Lib.hid k2
   clear hr2 k2 HBK HSET
   go_wp2_with fail
   refine HH.out.mono ?_
   rintro en w3 ⟨R3, c3, rfl, ho3, b3⟩
   rw [headL_len]
   have hsm := Go.Proofs.YtefgabnmcfpdcaaGreatDoor.sameB_any (some ⟨g2, 0, none⟩) (page bs 0) 64 R3 (headL u) c3 w3 ((BR2.out.below b3).more b3.size) ho3.br
   rw [hpl, headL_len] at hsm
   have HSM := Lib.hid hsm
   have k3 := K2.out.trans (keeps_below' b3)
   have TAB3 := Lib.hid (HTAB.out.keep k3 fun _ _ _ f => f)
   have KK := Lib.hid ((keeps_below' HBEL.out).trans (k3.mono fun _ _ f => f) : Keeps (fun _ => False) w w3)
   clear ho3 b3 BR2 K2 HH hsm k3 HTAB
   by_cases heq : page bs 0 = headL u
   ·have hG : TableOut w bs (.returned (.tuple #[.slice Rl 8 cl, .int .u32 (u : Int), .bool true])) w3 := ⟨KK.out, .inl ⟨HOK.out.2 heq, Rl, cl, ls, by rw [HU.out], HM8.out.1, HM8.out.2, TAB3.out⟩⟩
    have HG := Lib.hid hG
    rw [show decide (page bs 0 = headL u) = true by simp [heq]] at HSM
    clear hG heq TAB3 KK HOK HM8
    go_wp2_with fail
    refine HSM.out.mono ?_
    rintro en w4 ⟨rfl, rfl⟩
    go_wp2_with fail
    go_ret3
    exact HG.out
   ·have hG : TableOut w bs (.returned (.tuple #[.slice none 0 0, .int .u32 0, .bool false])) w3 := ⟨KK.out, .inr ⟨fun h => heq (HOK.out.1 h), rfl⟩⟩
    have HG := Lib.hid hG
    rw [show decide (page bs 0 = headL u) = false by simp [heq]] at HSM
    clear hG heq TAB3 KK HOK HM8
    go_wp2_with fail
    refine HSM.out.mono ?_
    rintro en w4 ⟨rfl, rfl⟩
    go_wp2_with fail
    go_ret3
    exact HG.out
end Go.Proofs.YtefgabnmcfpdcaaGreatDoor.Fr
