/-
  ExGrow
-/
import Derived.Test.YtjconllgghangaaDoorExExts
namespace Go.Proofs.YtjconllgghangaaDoor.Ex
open Go.RowKit

theorem bd_from {l : List EX} {M : Int} (h : Bd l M) (hM : 0 ≤ M) : ∀ (bs : List Nat), (∀ b ∈ bs, b < 32) → Bd (extV l bs) (M + bs.length) ∧ (extV l bs).length ≤ l.length + bs.length := snoc_ind (fun _ => ⟨by simpa [extV] using h, Nat.le_refl _⟩) fun q b ih hb => by
  obtain ⟨h1, h2⟩ := ih fun b h => hb b (by simp [h])
  obtain ⟨h3, h4⟩ := h1.with (by omega) (hb b (by simp))
  rw [extV_snoc, List.length_append, List.length_singleton]
  exact ⟨by rw [show M + ((q.length + 1 : Nat) : Int) = M + (q.length : Int) + 1 from by omega]; exact h3, by omega⟩
theorem Bd.mono {l : List EX} {M M' : Int} (h : Bd l M) (hM : M ≤ M') : Bd l M' := fun x hx => by
  have := h x hx
  omega
theorem bd_ok {l : List EX} (h : ok l = true) : Bd l 23 := fun x hx => by
  have := ok_ins h x hx
  unfold ins at this
  omega
theorem grow_bd {l : List EX} (h : ok l = true) (u k : Nat) : Bd (extV l ((freeL u).take k)) 50 ∧ (extV l ((freeL u).take k)).length ≤ l.length + 23 := by
  have hl := ((freeL_good u).take k).len
  obtain ⟨h1, h2⟩ := bd_from (bd_ok h) (by omega) ((freeL u).take k) fun b hb => (((freeL_good u).take k).2 b hb).2
  exact ⟨h1.mono (by omega), by omega⟩
theorem grow_next (l : List EX) (u : Nat) {k : Nat} (h : k < (freeL u).length) : extV l ((freeL u).take (k + 1)) = withV (extV l ((freeL u).take k)) (freeL u)[k] := by
  rw [List.take_succ_eq_append_getElem h, extV_snoc]
theorem grow_small (l : List EX) (u : Nat) (n : Int) (hl : l.length ≤ 100) (hu : u < 4294967296) : (growV l u n).1.length ≤ 1000 ∧ (growV l u n).2.1 < 4294967296 ∧ ((growV l u n).2.2 = 0 ∨ (growV l u n).2.2 = 1 ∨ (growV l u n).2.2 = 50) := by
  refine ⟨?_, growV_lt l u n hu, ?_⟩
  · unfold growV
    split
    · simp
    · rename_i h
      split
      · simp
      · have hok : ok l = true := by
          cases e : ok l
          · exact absurd (.inl e) h
          · rfl
        have := (grow_bd hok u n.toNat).2
        show (extV l ((freeL u).take n.toNat)).length ≤ 1000
        omega
  · unfold growV
    split
    · exact .inr (.inl rfl)
    · split
      · exact .inr (.inr rfl)
      · exact .inl rfl
theorem blk_len : ∀ {l : List EX}, (∀ x ∈ l, ins x) → l.length ≤ (blkL l).length
  | [], _ => Nat.le_refl _
  | x :: r, h => by
    have ih := blk_len (l := r) fun y hy => h y (List.mem_cons_of_mem _ hy)
    have hx := h x List.mem_cons_self
    unfold ins at hx
    rw [blkL_cons, List.length_append, List.length_cons, exB_len]
    omega
theorem ok_len {l : List EX} (h : ok l = true) : l.length ≤ 23 := Nat.le_trans (blk_len (ok_ins h)) (ok_good l h).len
theorem shrink_small (l : List EX) (u : Nat) (n : Int) : (shrinkV l u n).1.length ≤ 1000 ∧ (shrinkV l u n).2.1 < 4294967296 ∧ ((shrinkV l u n).2.2 = 0 ∨ (shrinkV l u n).2.2 = 1) := by
  unfold shrinkV
  split
  · exact ⟨by simp, by decide, .inr rfl⟩
  · rename_i h
    have hok : ok l = true := by
      cases e : ok l
      · exact absurd (.inl e) h
      · rfl
    have h1 := (bd_ext ((blkL l).take n.toNat) fun b hb => ((ok_good l hok).2 b (List.mem_of_mem_take hb)).2).2
    have h2 := (ok_good l hok).len
    rw [List.length_take] at h1
    exact ⟨by show (extV [] ((blkL l).take n.toNat)).length ≤ 1000; omega, andN_lt _ _, .inl rfl⟩
/-- The answer of Grow and of Shrink: a list, a set, an error. -/
def Out3 (w : World) (m : List EX × Nat × Int) (e : Ending) (w' : World) : Prop := ∃ R cap, e = .returned (.tuple #[.slice R m.1.length cap, .int .u32 (m.2.1 : Int), .int .i64 m.2.2]) ∧ XR w' w'.heap.size R m.1 ∧ Below w.heap.size w w'
theorem Out3.no {w w' : World} {m : List EX × Nat × Int} {z : Int} (h : m = ([], 0, z)) (hb : Below w.heap.size w w') : Out3 w m (.returned (.tuple #[.slice none 0 0, .int .u32 0, .int .i64 z])) w' := by
  subst h
  exact ⟨none, 0, rfl, XR.nil, hb⟩

set_option maxRecDepth 100000 in
set_option maxHeartbeats 200000 in
theorem grow_any (A : Option Addr) (l : List EX) (c u : Nat) (n : Int) (w : World) (h : XR w w.heap.size A l) (hl : l.length ≤ 100) (hu : u < 4294967296) (hn : n ≤ 9223372036854775807) (hT : Tab w) :
    Calls Tryd.prog 15 #[.slice A l.length c, .int .u32 (u : Int), .int .i64 n] w (Out3 w (growV l u n)) := by
  have hck := check_any A l c w h hl
  have HCK := Lib.hid hck
  clear hck
  by_cases hok : ok l = true
  · rw [okE_yes hok] at HCK
    by_cases hneg : n < 0
    · have hv : growV l u n = ([], 0, 1) := by unfold growV; rw [if_pos (.inr hneg)]
      have HV := Lib.hid hv
      clear hv hok h
      go_enter Tryd.func15, Tryd.ntmps15
      go_wp2_with fail
      refine HCK.out.mono ?_
      rintro e w1 ⟨rfl, b1⟩
      go_wp2_with fail
      go_ret3
      exact Out3.no HV.out b1
    · have hand := files_and u hu
      have hones := fun w => ones_any (setN (freeL u)) (freeL_good u).lt w
      rw [count_good (freeL_good u)] at hones
      by_cases hfull : ((freeL u).length : Int) < n
      · have hv : growV l u n = ([], 0, 50) := by unfold growV; rw [if_neg (by rw [hok]; rintro (h | h); cases h; omega), if_pos hfull]
        have HV := Lib.hid hv
        clear hv hok h hT
        generalize setN (freeL u) = fs at *
        generalize (freeL u).length = N at *
        have HON := Lib.hid hones
        clear hones hl hn
        go_enter Tryd.func15, Tryd.ntmps15
        go_wp2_with fail
        refine HCK.out.mono ?_
        rintro e w1 ⟨rfl, b1⟩
        go_wp2_with fail
        refine (HON.out w1).mono ?_
        rintro e w2 ⟨rfl, b2⟩
        have B2 := Lib.hid (b1.trans (b2.mono b1.size))
        clear b1 b2
        go_wp2_with fail
        go_ret3
        exact Out3.no HV.out B2.out
      · have hv : growV l u n = (extV l ((freeL u).take n.toNat), u ||| setN ((freeL u).take n.toNat), 0) := by unfold growV; rw [if_neg (by rw [hok]; rintro (h | h); cases h; omega), if_neg hfull]
        obtain ⟨K, rfl⟩ : ∃ K : Nat, n = (K : Int) := ⟨n.toNat, by omega⟩
        rw [Int.toNat_natCast] at hv
        rw [hv]
        have hKF : K ≤ (freeL u).length := by omega
        have hFl := (freeL_good u).len
        have hfull1 : decide ((freeL u).length < K) = false := by simp; omega
        have HOK := Lib.hid hok
        have HT := Lib.hid hT
        have HX := Lib.hid h
        have HFS := Lib.hid (show setN (freeL u) = setN (freeL u) from rfl)
        clear hv hok h hT hneg
        generalize hfs : setN (freeL u) = fs at *
        clear hfs HFS
        generalize hNN : (freeL u).length = NN at *
        have HNN := Lib.hid hNN
        clear hNN
        go_enter Tryd.func15, Tryd.ntmps15
        go_wp2_with fail
        refine HCK.out.mono ?_
        rintro e w1 ⟨rfl, b1⟩
        clear HCK
        have B1 := Lib.hid b1
        clear b1
        go_wp2_with fail
        refine (hones w1).mono ?_
        rintro e w2 ⟨rfl, b2⟩
        have B2 := Lib.hid (B1.out.trans (b2.mono B1.out.size))
        clear b2 B1
        go_wp2_with fail
        refine (clone_any A l c w2 ((HX.out.below B2.out).more B2.out.size) hl).mono ?_
        rintro e w3 ⟨R3, c3, rfl, own3, b3⟩
        have B3 := Lib.hid (B2.out.trans (b3.mono B2.out.size))
        have OWN3 := Lib.hid own3
        have hs2 := B2.out.size
        have hs3 := b3.size
        clear b3 own3 B2 hand hones
        go_wp2_with fail
        go_loopw [27, 10, 1, 11] (fun i s v _ wr => ∃ (k : Nat) (cur : List EX) (used : Nat) (R : Option Addr) (cap : Nat), k ≤ K ∧ i = .int .i64 (k : Int) ∧ cur = extV l ((freeL u).take k) ∧ used = u ||| setN ((freeL u).take k) ∧ s = .slice R cur.length cap ∧ v = .int .u32 (used : Int) ∧ OwnX wr w2.heap.size R cap cur ∧ Below w.heap.size w wr ∧ w2.heap.size ≤ wr.heap.size) (fun i _ _ _ _ => K - (intOf i).toNat)
        case atStart => exact ⟨0, l, u, R3, c3, by omega, rfl, rfl, by simp [setN], rfl, rfl, OWN3.out, B3.out, hs3⟩
        case round =>
          clear OWN3 B3
          obtain ⟨k, cur, used, R, cap, hk, rfl, hcur, hused, rfl, rfl, own, hb, hsw⟩ := hrel
          by_cases hlt : k < K
          · have hkF : k < (freeL u).length := by rw [HNN.out]; omega
            obtain ⟨hne, hlow⟩ := lowest u k hkF
            have hnx := grow_next l u hkF
            have hor := or_next u k hkF
            obtain ⟨hbd, hbl⟩ := grow_bd HOK.out u k
            have hm := (freeL_good u).2 _ (List.getElem_mem hkF)
            rw [← hcur] at hnx hbd hbl
            rw [← hused] at hne hlow hor
            have hul : used < 4294967296 := by rw [hused]; exact or_lt hu ((freeL_good u).take k).lt
            have hand := files_and used hul
            have hp := pow_lt hm.2
            have horI := orI used (2 ^ (freeL u)[k]) hul hp
            rw [hor] at horI
            have htz := tz_any (setN (freeL used)) (freeL_good used).lt hne wr (HT.out.below hb HT.out.pos)
            rw [hlow] at htz
            have e1 : ((2 : Int) ^ (freeL u)[k]) % 4294967296 = ((2 ^ (freeL u)[k] : Nat) : Int) := by
              have : (2 : Int) ^ (freeL u)[k] = ((2 ^ (freeL u)[k] : Nat) : Int) := by simp
              rw [this]
              clear hor horI this
              generalize (2 : Nat) ^ (freeL u)[k] = T at *
              omega
            have hwith := with_any own hsw (by omega) (hbd.mono (by omega)) (freeL u)[k]
            rw [← hnx] at hwith
            have HB := Lib.hid hb
            have HW := Lib.hid hwith
            have HTZ := Lib.hid htz
            clear hne hlow hnx hor hbd hbl hcur hused own hb hwith htz hp hul
            generalize hE : u ||| setN ((freeL u).take (k + 1)) = E at *
            have HE := Lib.hid hE
            clear hE
            generalize hX : extV l ((freeL u).take (k + 1)) = X at *
            have HXX := Lib.hid hX
            clear hX
            generalize setN (freeL used) = fs2 at *
            generalize (freeL u)[k] = b at *
            generalize ((2 ^ b : Nat) : Int) = T at *
            go_wp2_with fail
            refine HTZ.out.mono ?_
            rintro e w4 ⟨rfl, rfl⟩
            go_wp2_with fail
            refine HW.out.mono ?_
            rintro e w5 ⟨R', cap', rfl, own5, b5, _⟩
            have OWN5 := Lib.hid own5
            have HB5 := Lib.hid (HB.out.trans (b5.mono hs2))
            have hs5 := b5.size
            clear own5 b5
            go_wp2_with fail
            go_roundw
            case rel => exact ⟨k + 1, X, E, R', cap', by omega, by go_num, HXX.out.symm, HE.out.symm, rfl, rfl, OWN5.out, HB5.out, by omega⟩
            case measure => simp [intOf]; omega
          · obtain rfl : k = K := by omega
            have HC := Lib.hid hcur
            have HU := Lib.hid hused
            obtain ⟨hbd, _⟩ := grow_bd HOK.out u k
            rw [← hcur] at hbd
            have HR := Lib.hid (own.xr (hbd.ok (by omega)))
            have HB := Lib.hid hb
            clear own hb hbd hcur hused
            go_wp2_with fail
            go_ret3
            exact ⟨R, cap, by rw [← HC.out, ← HU.out]; rfl, by rw [← HC.out]; exact HR.out, HB.out⟩
  · have hno : ok l = false := by simpa using hok
    rw [okE_no hno] at HCK
    have hv : growV l u n = ([], 0, 1) := by unfold growV; rw [if_pos (.inl hno)]
    have HV := Lib.hid hv
    clear hv hok h
    go_enter Tryd.func15, Tryd.ntmps15
    go_wp2_with fail
    refine HCK.out.mono ?_
    rintro e w1 ⟨rfl, b1⟩
    go_wp2_with fail
    go_ret3
    exact Out3.no HV.out b1
end Go.Proofs.YtjconllgghangaaDoor.Ex
