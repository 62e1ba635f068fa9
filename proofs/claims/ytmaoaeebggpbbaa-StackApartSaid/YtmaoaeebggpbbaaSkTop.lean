/-
  SkTop
-/
import Derived.Test.YtmaoaeebggpbbaaSkLay
import Derived.Shelf.Abstract
namespace Go.Proofs.Ytmaoaeebggpbbaa.Sk
open Go.RowKit Go.Maps Mm
set_option linter.unusedVariables false
set_option linter.unusedSimpArgs false
/-- How many cells a stack has. -/
def dpt (M : List UInt8) (a lo hi : Int) : Nat := ((hi - topL M a lo hi) / 8).toNat
theorem dpt_is {a lo hi ov un : Int} (pa : Pa a lo hi ov un) (M : List UInt8) : dpt M a lo hi ≤ 32 ∧ topL M a lo hi = hi - 8 * (dpt M a lo hi : Int) := by
  obtain ⟨k, h1, h2⟩ := pa.top M
  have : dpt M a lo hi = k := by unfold dpt; omega
  rw [this]
  exact ⟨h1, h2⟩
def dD (M : List UInt8) : Nat := dpt M 32 256 512
def dB (M : List UInt8) : Nat := dpt M 40 512 768
theorem takeL_one (M : List UInt8) (t : Int) : takeL M t 1 = [cel M t] := by
  unfold takeL
  rw [show List.range 1 = [0] from rfl, List.map_cons, List.map_nil, show t + 8 * ((1 - 1 - 0 : Nat) : Int) = t by omega]
theorem add_at (g k : Nat) : (⟨g, 0, none⟩ : Addr).add k = ⟨g, k, none⟩ := by unfold Addr.add; split <;> simp_all
theorem make1 (w : World) (n : Int) : RI (w.alloc (.cells #[.int .i64 n] 2)) w.heap.size [n] := World.rowIs_alloc w #[.int .i64 n] 2 _ fun i hi => by
  match i, hi with
  | 0, _ => rfl
variable {w : World} {v : Option Addr} {p gb mb : Nat} {ok : Bool} {G M : List UInt8} {a lo hi ov un : Int}
theorem IQ.more {w : World} {B B' : Nat} {A : Option Addr} {l : List Int} (h : IQ w B A l) (hB : B ≤ B') : IQ w B' A l := fun hn => by
  obtain ⟨ad, e, hb, hc⟩ := h hn
  exact ⟨ad, e, by omega, hc⟩
theorem en_take : ∀ args W, (callFunc 53 args).run Try.prog W = .ok (.enter 53 args) W := enters_of Try.func53 (by kernel_rfl) rfl
theorem en_clear : ∀ args W, (callFunc 54 args).run Try.prog W = .ok (.enter 54 args) W := enters_of Try.func54 (by kernel_rfl) rfl
theorem take_one (h : SM w v p gb mb true G M) (pa : Pa a lo hi ov un) (k : Nat) (hk : k ≤ 32) (ht : topL M a lo hi = hi - 8 * (k : Int)) (k1 : 1 ≤ k) (n : Int) (hn : n = 1) : Calls Try.prog 53 #[pil v a lo hi ov un, .int .i64 n] w (GivesK w v p gb mb true G (takM M a (hi - 8 * (k : Int)) 1) [cel M (hi - 8 * (k : Int))]) := by
  have := take_any h pa k hk ht n (by omega) (.inl rfl)
  have e : n.toNat = 1 := by omega
  rw [e, takeL_one] at this
  exact this
set_option maxRecDepth 100000 in
set_option maxHeartbeats 400000 in
theorem single_gen {x : Int} {M' : List UInt8} (TH : Hid (Calls Try.prog 53 #[pil v a lo hi ov un, .int .i64 1] w (GivesK w v p gb mb ok G M' [x]))) : Calls Try.prog 52 #[.func (.func 53) #[pil v a lo hi ov un] #[]] w (OutS w v p gb mb ok G M' (.tuple #[.int .i64 x, .int .i64 0])) := by
  have en := en_take
  go_enter Try.func52, Try.ntmps52
  go_wp2_with fail
  refine TH.out.mono ?_
  rintro e w2 ⟨g, rfl, hg, r2, m2, k2⟩
  have c0 : w2.cell? ⟨g, 0, none⟩ = some (.int .i64 x) := r2.cell_ (k := 0) (by simp)
  have M2 := Lib.hid m2
  have K2 := Lib.hid k2
  clear m2 k2 r2
  simp only [List.length_cons, List.length_nil]
  go_wp2_with fail
  go_ret2
  exact ⟨rfl, M2.out, K2.out⟩
theorem single_ok (h : SM w v p gb mb true G M) (pa : Pa a lo hi ov un) (k : Nat) (hk : k ≤ 32) (ht : topL M a lo hi = hi - 8 * (k : Int)) (k1 : 1 ≤ k) : Calls Try.prog 52 #[.func (.func 53) #[pil v a lo hi ov un] #[]] w (OutS w v p gb mb true G (takM M a (hi - 8 * (k : Int)) 1) (.tuple #[.int .i64 (cel M (hi - 8 * (k : Int))), .int .i64 0])) :=
  single_gen (Lib.hid (take_one h pa k hk ht k1 1 rfl))
set_option maxRecDepth 100000 in
set_option maxHeartbeats 400000 in
theorem single_under (h : SM w v p gb mb ok G M) (pa : Pa a lo hi ov un) (ht : topL M a lo hi = hi) : Calls Try.prog 52 #[.func (.func 53) #[pil v a lo hi ov un] #[]] w (OutS w v p gb mb ok G M (.tuple #[.int .i64 0, .int .i64 un])) := by
  have TK := take_under h pa 0 (by omega) (by rw [ht]; omega) 1 (by omega)
  have bd := pa.bd
  have un0 : (un != 0) = true := by simp; omega
  have TH := Lib.hid TK
  have en := en_take
  clear TK h
  go_enter Try.func52, Try.ntmps52
  go_wp2_with fail
  refine TH.out.mono ?_
  rintro e w2 ⟨rfl, m2, k2⟩
  have M2 := Lib.hid m2
  have K2 := Lib.hid k2
  clear m2 k2
  go_wp2_with fail
  go_ret2
  exact ⟨rfl, M2.out, K2.out⟩

def dataV (v : Option Addr) : Value := pil v 32 256 512 (-3) (-4)
set_option maxRecDepth 100000 in
set_option maxHeartbeats 400000 in
theorem data_any (w : World) (v : Option Addr) : Calls Try.prog 44 #[.pointer v] w fun e w' => e = .returned (dataV v) ∧ Keeps (fun _ => False) w w' := by
  go_enter Try.func44, Try.ntmps44
  go_wp2_with fail
  refine bodyPost_ret (v := dataV v) ?_ rfl ⟨rfl, Keeps.alloc _ _ _⟩
  exact Go.results_cell_row rfl _ _ w.heap.size 71 _ (0, 0) _ rfl (PB.new w v 32 256 512 (-3) (-4)) Try.underlying71 rfl (by kernel_rfl)
theorem dD_le (M : List UInt8) : dD M ≤ 32 := (dpt_is paD M).1
theorem dD_top (M : List UInt8) : topL M 32 256 512 = 512 - 8 * (dD M : Int) := (dpt_is paD M).2
set_option maxRecDepth 100000 in
set_option maxHeartbeats 400000 in
theorem Depth_any (h : SM w v p gb mb ok G M) : Calls Try.prog 11 #[.pointer v] w (OutS w v p gb mb ok G M (.int .i64 (dD M : Int))) := by
  have HH := Lib.hid h
  have CC := Lib.hid fun (W : World) (hh : SM W v p gb mb ok G M) => depth_at hh paD (dD M) (dD_le M) (dD_top M)
  clear h
  go_enter Try.func11, Try.ntmps11
  go_wp2_with fail
  refine (data_any _ _).mono ?_
  rintro e w2 ⟨rfl, k2⟩
  have K2 := Lib.hid (Keeps.first HH.out (fun _ x => x) k2)
  have h2 := HH.out.keep k2 fun _ _ f => f
  clear k2
  go_wp2_with fail
  refine (CC.out _ h2).mono ?_
  rintro e w3 ⟨rfl, h3, k3⟩
  have H3 := Lib.hid h3
  have K3 := Lib.hid (K2.out.trans k3)
  clear h2 h3 k3
  go_wp2_with fail
  go_ret
  exact ⟨rfl, H3.out, K3.out⟩
set_option maxRecDepth 100000 in
set_option maxHeartbeats 400000 in
theorem Pop_ok (h : SM w v p gb mb true G M) (hd : 1 ≤ dD M) : Calls Try.prog 21 #[.pointer v] w (OutS w v p gb mb true G (takM M 32 (512 - 8 * (dD M : Int)) 1) (.tuple #[.int .i64 (cel M (512 - 8 * (dD M : Int))), .int .i64 0])) := by
  have HH := Lib.hid h
  have CC := Lib.hid fun (W : World) (hh : SM W v p gb mb true G M) => single_ok hh paD (dD M) (dD_le M) (dD_top M) hd
  clear h
  go_enter Try.func21, Try.ntmps21
  go_wp2_with fail
  refine (data_any _ _).mono ?_
  rintro e w2 ⟨rfl, k2⟩
  have K2 := Lib.hid (Keeps.first HH.out (fun _ x => x) k2)
  have h2 := HH.out.keep k2 fun _ _ f => f
  clear k2
  go_wp2_with fail
  refine (CC.out _ h2).mono ?_
  rintro e w3 ⟨rfl, h3, k3⟩
  have H3 := Lib.hid h3
  have K3 := Lib.hid (K2.out.trans k3)
  clear h2 h3 k3
  go_wp2_with fail
  go_ret2
  exact ⟨rfl, H3.out, K3.out⟩
set_option maxRecDepth 100000 in
set_option maxHeartbeats 400000 in
theorem Pop_under (h : SM w v p gb mb ok G M) (hd : dD M = 0) : Calls Try.prog 21 #[.pointer v] w (OutS w v p gb mb ok G M (.tuple #[.int .i64 0, .int .i64 (-4)])) := by
  have HH := Lib.hid h
  have CC := Lib.hid fun (W : World) (hh : SM W v p gb mb ok G M) => single_under hh paD (by rw [dD_top M, hd]; rfl)
  clear h
  go_enter Try.func21, Try.ntmps21
  go_wp2_with fail
  refine (data_any _ _).mono ?_
  rintro e w2 ⟨rfl, k2⟩
  have K2 := Lib.hid (Keeps.first HH.out (fun _ x => x) k2)
  have h2 := HH.out.keep k2 fun _ _ f => f
  clear k2
  go_wp2_with fail
  refine (CC.out _ h2).mono ?_
  rintro e w3 ⟨rfl, h3, k3⟩
  have H3 := Lib.hid h3
  have K3 := Lib.hid (K2.out.trans k3)
  clear h2 h3 k3
  go_wp2_with fail
  go_ret2
  exact ⟨rfl, H3.out, K3.out⟩
set_option maxRecDepth 100000 in
set_option maxHeartbeats 400000 in
theorem At_ok (h : SM w v p gb mb ok G M) (n : Nat) (hn : n < dD M) : Calls Try.prog 24 #[.pointer v, .int .i64 (n : Int)] w (OutS w v p gb mb ok G M (.tuple #[.int .i64 (cel M ((512 - 8 * (dD M : Int)) + 8 * (n : Int))), .int .i64 0])) := by
  have HH := Lib.hid h
  have CC := Lib.hid fun (W : World) (hh : SM W v p gb mb ok G M) => nth_at hh paD (dD M) (dD_le M) (dD_top M) n hn
  clear h
  go_enter Try.func24, Try.ntmps24
  go_wp2_with fail
  refine (data_any _ _).mono ?_
  rintro e w2 ⟨rfl, k2⟩
  have K2 := Lib.hid (Keeps.first HH.out (fun _ x => x) k2)
  have h2 := HH.out.keep k2 fun _ _ f => f
  clear k2
  go_wp2_with fail
  refine (CC.out _ h2).mono ?_
  rintro e w3 ⟨rfl, h3, k3⟩
  have H3 := Lib.hid h3
  have K3 := Lib.hid (K2.out.trans k3)
  clear h2 h3 k3
  go_wp2_with fail
  go_ret2
  exact ⟨rfl, H3.out, K3.out⟩
set_option maxRecDepth 100000 in
set_option maxHeartbeats 400000 in
theorem At_no (h : SM w v p gb mb ok G M) (n : Int) (hn : n < 0 ∨ (dD M : Int) ≤ n) : Calls Try.prog 24 #[.pointer v, .int .i64 n] w (OutS w v p gb mb ok G M (.tuple #[.int .i64 0, .int .i64 (-4)])) := by
  have HH := Lib.hid h
  have CC := Lib.hid fun (W : World) (hh : SM W v p gb mb ok G M) => nth_none hh paD (dD M) (dD_le M) (dD_top M) n hn
  clear h
  go_enter Try.func24, Try.ntmps24
  go_wp2_with fail
  refine (data_any _ _).mono ?_
  rintro e w2 ⟨rfl, k2⟩
  have K2 := Lib.hid (Keeps.first HH.out (fun _ x => x) k2)
  have h2 := HH.out.keep k2 fun _ _ f => f
  clear k2
  go_wp2_with fail
  refine (CC.out _ h2).mono ?_
  rintro e w3 ⟨rfl, h3, k3⟩
  have H3 := Lib.hid h3
  have K3 := Lib.hid (K2.out.trans k3)
  clear h2 h3 k3
  go_wp2_with fail
  go_ret2
  exact ⟨rfl, H3.out, K3.out⟩
set_option maxRecDepth 100000 in
set_option maxHeartbeats 400000 in
theorem Push_ok (h : SM w v p gb mb true G M) (n : Int) (hd : dD M < 32) : Calls Try.prog 19 #[.pointer v, .int .i64 n] w (OutS w v p gb mb true G (laysL M 32 (512 - 8 * (dD M : Int)) [n]) (.int .i64 0)) := by
  have HH := Lib.hid h
  have CC := Lib.hid fun (W : World) (hh : SM W v p gb mb true G M) (A : Option Addr) (c : Nat) => lay_at hh paD (dD M) (dD_le M) (dD_top M) A [n] c (by simp; omega)
  clear h
  go_enter Try.func19, Try.ntmps19
  go_wp2_with fail
  refine (data_any _ _).mono ?_
  rintro e w2 ⟨rfl, k2⟩
  have h2 := HH.out.keep k2 fun _ _ f => f
  have LT := Lib.hid (fun k hk => SM.lt h2 (k := k) hk)
  have h3 := h2.alloc (.cells #[.int .i64 n] 2)
  have r3 := make1 w2 n
  have K3 := Lib.hid (Keeps.first HH.out (fun _ x => x) (k2.trans (Keeps.alloc (fun _ => False) w2 (.cells #[.int .i64 n] 2))))
  clear h2 k2
  go_wp2_with fail
  generalize w2.alloc (.cells #[.int .i64 n] 2) = w3 at *
  refine (CC.out _ h3 (some ⟨w2.heap.size, 0, none⟩) 1 (r3.iq _ r3.lt) (fun ad e _ x => by cases e; exact Nat.lt_irrefl _ (LT.out _ x))).mono ?_
  rintro e w4 ⟨rfl, h4, k4⟩
  have H4 := Lib.hid h4
  have K4 := Lib.hid (K3.out.trans k4)
  clear h3 h4 k4 r3
  go_wp2_with fail
  go_ret
  exact ⟨rfl, H4.out, K4.out⟩
set_option maxRecDepth 100000 in
set_option maxHeartbeats 400000 in
theorem Push_over (h : SM w v p gb mb ok G M) (n : Int) (hd : ok = true → dD M = 32) : Calls Try.prog 19 #[.pointer v, .int .i64 n] w (OutS w v p gb mb ok G M (.int .i64 (-3))) := by
  have HH := Lib.hid h
  have CC := Lib.hid fun (W : World) (hh : SM W v p gb mb ok G M) (A : Option Addr) (c : Nat) => lay_over hh paD (dD M) (dD_le M) (dD_top M) A 1 c (fun x => by have := hd x; omega) (fun _ => by omega)
  clear h hd
  go_enter Try.func19, Try.ntmps19
  go_wp2_with fail
  refine (data_any _ _).mono ?_
  rintro e w2 ⟨rfl, k2⟩
  have h2 := HH.out.keep k2 fun _ _ f => f
  have h3 := h2.alloc (.cells #[.int .i64 n] 2)
  have K3 := Lib.hid (Keeps.first HH.out (fun _ x => x) (k2.trans (Keeps.alloc (fun _ => False) w2 (.cells #[.int .i64 n] 2))))
  clear h2 k2
  go_wp2_with fail
  generalize w2.alloc (.cells #[.int .i64 n] 2) = w3 at *
  refine (CC.out _ h3 (some ⟨w2.heap.size, 0, none⟩) 1).mono ?_
  rintro e w4 ⟨rfl, h4, k4⟩
  have H4 := Lib.hid h4
  have K4 := Lib.hid (K3.out.trans k4)
  clear h3 h4 k4
  go_wp2_with fail
  go_ret
  exact ⟨rfl, H4.out, K4.out⟩
set_option maxRecDepth 100000 in
set_option maxHeartbeats 400000 in
theorem Takes_ok (h : SM w v p gb mb ok G M) (n : Int) (hn : n ≤ (dD M : Int)) (hok : ok = true ∨ n ≤ 0) : Calls Try.prog 25 #[.pointer v, .int .i64 n] w (GivesK w v p gb mb ok G (takM M 32 (512 - 8 * (dD M : Int)) n.toNat) (takeL M (512 - 8 * (dD M : Int)) n.toNat)) := by
  have HH := Lib.hid h
  have CC := Lib.hid fun (W : World) (hh : SM W v p gb mb ok G M) => take_any hh paD (dD M) (dD_le M) (dD_top M) n hn hok
  generalize takeL M (512 - 8 * (dD M : Int)) n.toNat = zs at *
  generalize takM M 32 (512 - 8 * (dD M : Int)) n.toNat = M' at *
  clear h
  go_enter Try.func25, Try.ntmps25
  go_wp2_with fail
  refine (data_any _ _).mono ?_
  rintro e w2 ⟨rfl, k2⟩
  have K2 := Lib.hid (Keeps.first HH.out (fun _ x => x) k2)
  have h2 := HH.out.keep k2 fun _ _ f => f
  clear k2
  go_wp2_with fail
  refine (CC.out _ h2).mono ?_
  rintro e w3 ⟨g, rfl, hg, r3, h3, k3⟩
  have R3 := Lib.hid r3
  have H3 := Lib.hid h3
  have sg : w.heap.size ≤ g := by have := K2.out.size; omega
  clear r3
  have K3 := Lib.hid (K2.out.trans k3)
  clear h2 h3 k3
  go_wp2_with fail
  go_ret2
  exact ⟨g, rfl, sg, R3.out, H3.out, K3.out⟩
set_option maxRecDepth 100000 in
set_option maxHeartbeats 400000 in
theorem Takes_under (h : SM w v p gb mb ok G M) (n : Int) (hn : (dD M : Int) < n) : Calls Try.prog 25 #[.pointer v, .int .i64 n] w (OutS w v p gb mb ok G M (.tuple #[.slice none 0 0, .int .i64 (-4)])) := by
  have HH := Lib.hid h
  have CC := Lib.hid fun (W : World) (hh : SM W v p gb mb ok G M) => take_under hh paD (dD M) (dD_le M) (dD_top M) n hn
  clear h
  go_enter Try.func25, Try.ntmps25
  go_wp2_with fail
  refine (data_any _ _).mono ?_
  rintro e w2 ⟨rfl, k2⟩
  have K2 := Lib.hid (Keeps.first HH.out (fun _ x => x) k2)
  have h2 := HH.out.keep k2 fun _ _ f => f
  clear k2
  go_wp2_with fail
  refine (CC.out _ h2).mono ?_
  rintro e w3 ⟨rfl, h3, k3⟩
  have H3 := Lib.hid h3
  have K3 := Lib.hid (K2.out.trans k3)
  clear h2 h3 k3
  go_wp2_with fail
  go_ret2
  exact ⟨rfl, H3.out, K3.out⟩
set_option maxRecDepth 100000 in
set_option maxHeartbeats 400000 in
theorem Lays_over (h : SM w v p gb mb ok G M) (A : Option Addr) (n c : Nat) (hn : ok = true → 32 < dD M + n) (hn' : ok = false → 0 < n) : Calls Try.prog 40 #[.pointer v, .slice A n c] w (OutS w v p gb mb ok G M (.int .i64 (-3))) := by
  have HH := Lib.hid h
  have CC := Lib.hid fun (W : World) (hh : SM W v p gb mb ok G M) => lay_over hh paD (dD M) (dD_le M) (dD_top M) A n c hn hn'
  clear h
  go_enter Try.func40, Try.ntmps40
  go_wp2_with fail
  refine (data_any _ _).mono ?_
  rintro e w2 ⟨rfl, k2⟩
  have K2 := Lib.hid (Keeps.first HH.out (fun _ x => x) k2)
  have h2 := HH.out.keep k2 fun _ _ f => f
  clear k2
  go_wp2_with fail
  refine (CC.out _ h2).mono ?_
  rintro e w3 ⟨rfl, h3, k3⟩
  have H3 := Lib.hid h3
  have K3 := Lib.hid (K2.out.trans k3)
  clear h2 h3 k3
  go_wp2_with fail
  go_ret
  exact ⟨rfl, H3.out, K3.out⟩
set_option maxRecDepth 100000 in
set_option maxHeartbeats 400000 in
theorem Lays_ok (h : SM w v p gb mb true G M) (A : Option Addr) (l : List Int) (c : Nat) (hl : dD M + l.length ≤ 32) (hq : IQ w w.heap.size A l) (hA : ∀ ad, A = some ad → l ≠ [] → ¬ SF true p mb ad.block) : Calls Try.prog 40 #[.pointer v, .slice A l.length c] w (OutS w v p gb mb true G (laysL M 32 (512 - 8 * (dD M : Int)) l) (.int .i64 0)) := by
  have HH := Lib.hid h
  have CC := Lib.hid fun (W : World) (hh : SM W v p gb mb true G M) => fun (hq : IQ W W.heap.size A l) => lay_at hh paD (dD M) (dD_le M) (dD_top M) A l c hl hq hA
  clear h
  go_enter Try.func40, Try.ntmps40
  go_wp2_with fail
  refine (data_any _ _).mono ?_
  rintro e w2 ⟨rfl, k2⟩
  have K2 := Lib.hid (Keeps.first HH.out (fun _ x => x) k2)
  have h2 := HH.out.keep k2 fun _ _ f => f
  have q2 : IQ w2 w2.heap.size A l := IQ.more (hq.keep k2 (Nat.le_refl _) fun _ _ _ f => f) k2.size
  have Q2 := Lib.hid q2
  clear q2 hq
  clear k2
  go_wp2_with fail
  refine (CC.out _ h2 Q2.out).mono ?_
  rintro e w3 ⟨rfl, h3, k3⟩
  have H3 := Lib.hid h3
  have K3 := Lib.hid (K2.out.trans k3)
  clear h2 h3 k3
  go_wp2_with fail
  go_ret
  exact ⟨rfl, H3.out, K3.out⟩

def backV (v : Option Addr) : Value := pil v 40 512 768 (-5) (-6)
set_option maxRecDepth 100000 in
set_option maxHeartbeats 400000 in
theorem back_any (w : World) (v : Option Addr) : Calls Try.prog 47 #[.pointer v] w fun e w' => e = .returned (backV v) ∧ Keeps (fun _ => False) w w' := by
  go_enter Try.func47, Try.ntmps47
  go_wp2_with fail
  refine bodyPost_ret (v := backV v) ?_ rfl ⟨rfl, Keeps.alloc _ _ _⟩
  exact Go.results_cell_row rfl _ _ w.heap.size 71 _ (0, 0) _ rfl (PB.new w v 40 512 768 (-5) (-6)) Try.underlying71 rfl (by kernel_rfl)
theorem dB_le (M : List UInt8) : dB M ≤ 32 := (dpt_is paB M).1
theorem dB_top (M : List UInt8) : topL M 40 512 768 = 768 - 8 * (dB M : Int) := (dpt_is paB M).2
set_option maxRecDepth 100000 in
set_option maxHeartbeats 400000 in
theorem Deep_any (h : SM w v p gb mb ok G M) : Calls Try.prog 13 #[.pointer v] w (OutS w v p gb mb ok G M (.int .i64 (dB M : Int))) := by
  have HH := Lib.hid h
  have CC := Lib.hid fun (W : World) (hh : SM W v p gb mb ok G M) => depth_at hh paB (dB M) (dB_le M) (dB_top M)
  clear h
  go_enter Try.func13, Try.ntmps13
  go_wp2_with fail
  refine (back_any _ _).mono ?_
  rintro e w2 ⟨rfl, k2⟩
  have K2 := Lib.hid (Keeps.first HH.out (fun _ x => x) k2)
  have h2 := HH.out.keep k2 fun _ _ f => f
  clear k2
  go_wp2_with fail
  refine (CC.out _ h2).mono ?_
  rintro e w3 ⟨rfl, h3, k3⟩
  have H3 := Lib.hid h3
  have K3 := Lib.hid (K2.out.trans k3)
  clear h2 h3 k3
  go_wp2_with fail
  go_ret
  exact ⟨rfl, H3.out, K3.out⟩
set_option maxRecDepth 100000 in
set_option maxHeartbeats 400000 in
theorem RPop_ok (h : SM w v p gb mb true G M) (hd : 1 ≤ dB M) : Calls Try.prog 22 #[.pointer v] w (OutS w v p gb mb true G (takM M 40 (768 - 8 * (dB M : Int)) 1) (.tuple #[.int .i64 (cel M (768 - 8 * (dB M : Int))), .int .i64 0])) := by
  have HH := Lib.hid h
  have CC := Lib.hid fun (W : World) (hh : SM W v p gb mb true G M) => single_ok hh paB (dB M) (dB_le M) (dB_top M) hd
  clear h
  go_enter Try.func22, Try.ntmps22
  go_wp2_with fail
  refine (back_any _ _).mono ?_
  rintro e w2 ⟨rfl, k2⟩
  have K2 := Lib.hid (Keeps.first HH.out (fun _ x => x) k2)
  have h2 := HH.out.keep k2 fun _ _ f => f
  clear k2
  go_wp2_with fail
  refine (CC.out _ h2).mono ?_
  rintro e w3 ⟨rfl, h3, k3⟩
  have H3 := Lib.hid h3
  have K3 := Lib.hid (K2.out.trans k3)
  clear h2 h3 k3
  go_wp2_with fail
  go_ret2
  exact ⟨rfl, H3.out, K3.out⟩
set_option maxRecDepth 100000 in
set_option maxHeartbeats 400000 in
theorem RPop_under (h : SM w v p gb mb ok G M) (hd : dB M = 0) : Calls Try.prog 22 #[.pointer v] w (OutS w v p gb mb ok G M (.tuple #[.int .i64 0, .int .i64 (-6)])) := by
  have HH := Lib.hid h
  have CC := Lib.hid fun (W : World) (hh : SM W v p gb mb ok G M) => single_under hh paB (by rw [dB_top M, hd]; rfl)
  clear h
  go_enter Try.func22, Try.ntmps22
  go_wp2_with fail
  refine (back_any _ _).mono ?_
  rintro e w2 ⟨rfl, k2⟩
  have K2 := Lib.hid (Keeps.first HH.out (fun _ x => x) k2)
  have h2 := HH.out.keep k2 fun _ _ f => f
  clear k2
  go_wp2_with fail
  refine (CC.out _ h2).mono ?_
  rintro e w3 ⟨rfl, h3, k3⟩
  have H3 := Lib.hid h3
  have K3 := Lib.hid (K2.out.trans k3)
  clear h2 h3 k3
  go_wp2_with fail
  go_ret2
  exact ⟨rfl, H3.out, K3.out⟩
set_option maxRecDepth 100000 in
set_option maxHeartbeats 400000 in
theorem RAt_ok (h : SM w v p gb mb ok G M) (n : Nat) (hn : n < dB M) : Calls Try.prog 37 #[.pointer v, .int .i64 (n : Int)] w (OutS w v p gb mb ok G M (.tuple #[.int .i64 (cel M ((768 - 8 * (dB M : Int)) + 8 * (n : Int))), .int .i64 0])) := by
  have HH := Lib.hid h
  have CC := Lib.hid fun (W : World) (hh : SM W v p gb mb ok G M) => nth_at hh paB (dB M) (dB_le M) (dB_top M) n hn
  clear h
  go_enter Try.func37, Try.ntmps37
  go_wp2_with fail
  refine (back_any _ _).mono ?_
  rintro e w2 ⟨rfl, k2⟩
  have K2 := Lib.hid (Keeps.first HH.out (fun _ x => x) k2)
  have h2 := HH.out.keep k2 fun _ _ f => f
  clear k2
  go_wp2_with fail
  refine (CC.out _ h2).mono ?_
  rintro e w3 ⟨rfl, h3, k3⟩
  have H3 := Lib.hid h3
  have K3 := Lib.hid (K2.out.trans k3)
  clear h2 h3 k3
  go_wp2_with fail
  go_ret2
  exact ⟨rfl, H3.out, K3.out⟩
set_option maxRecDepth 100000 in
set_option maxHeartbeats 400000 in
theorem RAt_no (h : SM w v p gb mb ok G M) (n : Int) (hn : n < 0 ∨ (dB M : Int) ≤ n) : Calls Try.prog 37 #[.pointer v, .int .i64 n] w (OutS w v p gb mb ok G M (.tuple #[.int .i64 0, .int .i64 (-6)])) := by
  have HH := Lib.hid h
  have CC := Lib.hid fun (W : World) (hh : SM W v p gb mb ok G M) => nth_none hh paB (dB M) (dB_le M) (dB_top M) n hn
  clear h
  go_enter Try.func37, Try.ntmps37
  go_wp2_with fail
  refine (back_any _ _).mono ?_
  rintro e w2 ⟨rfl, k2⟩
  have K2 := Lib.hid (Keeps.first HH.out (fun _ x => x) k2)
  have h2 := HH.out.keep k2 fun _ _ f => f
  clear k2
  go_wp2_with fail
  refine (CC.out _ h2).mono ?_
  rintro e w3 ⟨rfl, h3, k3⟩
  have H3 := Lib.hid h3
  have K3 := Lib.hid (K2.out.trans k3)
  clear h2 h3 k3
  go_wp2_with fail
  go_ret2
  exact ⟨rfl, H3.out, K3.out⟩
set_option maxRecDepth 100000 in
set_option maxHeartbeats 400000 in
theorem RPush_ok (h : SM w v p gb mb true G M) (n : Int) (hd : dB M < 32) : Calls Try.prog 20 #[.pointer v, .int .i64 n] w (OutS w v p gb mb true G (laysL M 40 (768 - 8 * (dB M : Int)) [n]) (.int .i64 0)) := by
  have HH := Lib.hid h
  have CC := Lib.hid fun (W : World) (hh : SM W v p gb mb true G M) (A : Option Addr) (c : Nat) => lay_at hh paB (dB M) (dB_le M) (dB_top M) A [n] c (by simp; omega)
  clear h
  go_enter Try.func20, Try.ntmps20
  go_wp2_with fail
  refine (back_any _ _).mono ?_
  rintro e w2 ⟨rfl, k2⟩
  have h2 := HH.out.keep k2 fun _ _ f => f
  have LT := Lib.hid (fun k hk => SM.lt h2 (k := k) hk)
  have h3 := h2.alloc (.cells #[.int .i64 n] 2)
  have r3 := make1 w2 n
  have K3 := Lib.hid (Keeps.first HH.out (fun _ x => x) (k2.trans (Keeps.alloc (fun _ => False) w2 (.cells #[.int .i64 n] 2))))
  clear h2 k2
  go_wp2_with fail
  generalize w2.alloc (.cells #[.int .i64 n] 2) = w3 at *
  refine (CC.out _ h3 (some ⟨w2.heap.size, 0, none⟩) 1 (r3.iq _ r3.lt) (fun ad e _ x => by cases e; exact Nat.lt_irrefl _ (LT.out _ x))).mono ?_
  rintro e w4 ⟨rfl, h4, k4⟩
  have H4 := Lib.hid h4
  have K4 := Lib.hid (K3.out.trans k4)
  clear h3 h4 k4 r3
  go_wp2_with fail
  go_ret
  exact ⟨rfl, H4.out, K4.out⟩
set_option maxRecDepth 100000 in
set_option maxHeartbeats 400000 in
theorem RPush_over (h : SM w v p gb mb ok G M) (n : Int) (hd : ok = true → dB M = 32) : Calls Try.prog 20 #[.pointer v, .int .i64 n] w (OutS w v p gb mb ok G M (.int .i64 (-5))) := by
  have HH := Lib.hid h
  have CC := Lib.hid fun (W : World) (hh : SM W v p gb mb ok G M) (A : Option Addr) (c : Nat) => lay_over hh paB (dB M) (dB_le M) (dB_top M) A 1 c (fun x => by have := hd x; omega) (fun _ => by omega)
  clear h hd
  go_enter Try.func20, Try.ntmps20
  go_wp2_with fail
  refine (back_any _ _).mono ?_
  rintro e w2 ⟨rfl, k2⟩
  have h2 := HH.out.keep k2 fun _ _ f => f
  have h3 := h2.alloc (.cells #[.int .i64 n] 2)
  have K3 := Lib.hid (Keeps.first HH.out (fun _ x => x) (k2.trans (Keeps.alloc (fun _ => False) w2 (.cells #[.int .i64 n] 2))))
  clear h2 k2
  go_wp2_with fail
  generalize w2.alloc (.cells #[.int .i64 n] 2) = w3 at *
  refine (CC.out _ h3 (some ⟨w2.heap.size, 0, none⟩) 1).mono ?_
  rintro e w4 ⟨rfl, h4, k4⟩
  have H4 := Lib.hid h4
  have K4 := Lib.hid (K3.out.trans k4)
  clear h3 h4 k4
  go_wp2_with fail
  go_ret
  exact ⟨rfl, H4.out, K4.out⟩
end Go.Proofs.Ytmaoaeebggpbbaa.Sk
