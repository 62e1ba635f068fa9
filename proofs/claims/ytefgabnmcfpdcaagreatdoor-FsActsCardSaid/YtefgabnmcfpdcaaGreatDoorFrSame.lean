/-
  FrSame
-/
import Derived.Test.YtefgabnmcfpdcaaGreatDoorFrFiles
namespace Go.Proofs.YtefgabnmcfpdcaaGreatDoor.Fr
open Go.RowKit Ex Ino Mm Fs
set_option linter.unusedVariables false
set_option linter.unusedSimpArgs false
def RowsD (w : World) (R : Option Addr) (l : List DV) : Prop := ∀ k, (hk : k < l.length) → ∃ g, R = some ⟨g, 0, none⟩ ∧ g < w.heap.size ∧ w.cell? ⟨g, k * 2, none⟩ = some (St l[k].name) ∧ w.cell? ⟨g, k * 2 + 1, none⟩ = some (.slice l[k].R l[k].xs.length l[k].c) ∧ BR w w.heap.size l[k].R l[k].xs
theorem RowsD.keep {w w' : World} {R : Option Addr} {l : List DV} (h : RowsD w R l) (k : Keeps (fun _ => False) w w') : RowsD w' R l := fun j hj => by
 obtain ⟨g, e, hg, h1, h2, h3⟩ := h j hj
 exact ⟨g, e, Nat.lt_of_lt_of_le hg k.size, (k.cell g _ hg (fun f => f)).trans h1, (k.cell g _ hg (fun f => f)).trans h2, k.br h3 fun _ _ _ f => f⟩
theorem FilR.rows {w : World} {B : Nat} {R : Option Addr} {cap : Nat} {l : List DV} (h : FilR w B R cap l) : RowsD w R l := fun k hk => by
 obtain ⟨g, e, h1, h2⟩ := h.own.at_ hk
 exact ⟨g, e, (h.own.row _ e).2.2, h1, h2, h.ext _ (List.getElem_mem hk)⟩
set_option maxRecDepth 100000 in
set_option maxHeartbeats 1000000 in
theorem rsame_any {w : World} {R1 R2 : Option Addr} {l1 l2 : List DV} (c1 c2 : Nat) (h1 : RowsD w R1 l1) (h2 : RowsD w R2 l2) (hl : l1.length ≤ 1000) (he : l1.map (fun d => (d.name, d.xs)) = l2.map (fun d => (d.name, d.xs))) :
  Calls Tryz.prog 53 #[.slice R1 l1.length c1, .slice R2 l2.length c2] w (fun en w' => en = .returned (.bool true) ∧ Keeps (fun _ => False) w w') := by
 have hlen : l1.length = l2.length := by simpa using congrArg List.length he
 have H1 := Lib.hid h1
 have H2 := Lib.hid h2
 have HE := Lib.hid he
 have HL := Lib.hid hlen
 have t0 : ((l1.length : Int) != (l2.length : Int)) = false := by rw [hlen]; simp
 clear h1 h2 he
 rw [← hlen]
 clear hlen
 go_enter Tryz.func53, Tryz.ntmps53
 go_wp2_with fail
 go_loopg [5, 13] l1.length (fun g _ k wr => ∃ m, g = l1.length - m ∧ m ≤ l1.length ∧ k = .int .i64 (m : Int) ∧ Keeps (fun _ => False) w wr)
 case atStart => exact ⟨0, by omega, by omega, rfl, Keeps.refl _ _⟩
 case round =>
  obtain ⟨m, rfl, hm, rfl, kw⟩ := hrel
  by_cases hml : m < l1.length
  ·obtain ⟨g1, rfl, -, a0, a1, a2⟩ := (H1.out.keep kw) m hml
   obtain ⟨g2, rfl, -, b0, b1, b2⟩ := (H2.out.keep kw) m (by rw [← HL.out]; exact hml)
   have hat : l1[m].name = (l2[m]'(by rw [← HL.out]; exact hml)).name ∧ l1[m].xs = (l2[m]'(by rw [← HL.out]; exact hml)).xs := by
    have e : (l1.map (fun d => (d.name, d.xs)))[m]? = (l2.map (fun d => (d.name, d.xs)))[m]? := by rw [HE.out]
    rw [List.getElem?_map, List.getElem?_map, List.getElem?_eq_getElem hml, List.getElem?_eq_getElem (by rw [← HL.out]; exact hml)] at e
    have e := Option.some.inj e
    exact ⟨congrArg Prod.fst e, congrArg Prod.snd e⟩
   have cv1 := fun n c => run_str (P := Tryz.prog) (wr.drewN n) _ 31 9 5 l1[m].R l1[m].xs c ((keeps_below' (F := fun _ => False) (below_drewN (Below.refl _ wr) n)).br a2 (fun _ _ _ f => f)) Tryz.underlying31 Tryz.underlying5 Tryz.underlying9
   have cv2 := fun n c => run_str (P := Tryz.prog) (wr.drewN n) _ 31 9 5 (l2[m]'(by rw [← HL.out]; exact hml)).R (l2[m]'(by rw [← HL.out]; exact hml)).xs c ((keeps_below' (F := fun _ => False) (below_drewN (Below.refl _ wr) n)).br b2 (fun _ _ _ f => f)) Tryz.underlying31 Tryz.underlying5 Tryz.underlying9
   generalize (l2[m]'(by rw [← HL.out]; exact hml)) = y at *
   generalize l1[m] = x at *
   obtain ⟨e1, e2⟩ := hat
   rw [← e1] at b0
   rw [← e2] at cv2 b1
   have d1 : decide ((m : Int) < (l1.length : Int)) = true := by simp only [decide_eq_true_eq]; omega
   have p0 : (0 : Int) ≤ m := by omega
   have p1 : (m : Int) < l1.length := by omega
   have q3 : IntKind.i64.wrap ((m : Int) + 1) = (m : Int) + 1 := by rw [IntKind.wrap_i64]; omega
   have s1 := str_eq x.name x.name
   have s2 := str_eq x.xs x.xs
   have s3 : ((⟨x.name.toArray⟩ : ByteArray).toList != (⟨x.name.toArray⟩ : ByteArray).toList) = false := by simp
   have s4 : ((⟨x.xs.toArray⟩ : ByteArray).toList != (⟨x.xs.toArray⟩ : ByteArray).toList) = false := by simp
   have KW := Lib.hid kw
   clear kw a2 b2 e1 e2
   go_wp2_with fail
   go_quiet (fail)
   have HR := Lib.hid (KW.out.trans (keeps_below' (F := fun _ => False) (below_drewN (Below.refl _ wr) nq)))
   clear cv1 cv2 KW
   go_wp2_with fail
   go_roundg (l1.length - (m + 1))
   case rel => exact ⟨m + 1, rfl, by omega, by rw [Int.natCast_add]; rfl, HR.out⟩
   case measure => omega
  ·obtain rfl : m = l1.length := by omega
   have d1 : decide ((l1.length : Int) < (l1.length : Int)) = false := by simp
   go_wp2_with fail
   go_ret
   exact ⟨rfl, kw⟩
end Go.Proofs.YtefgabnmcfpdcaaGreatDoor.Fr
