/-
  Merged by wip/tools/merge.py: RdOfL RdMade
-/
import Derived.Test.YtebecpjecchfoaaGreatDoorGRd
import Derived.Test.YtebecpjecchfoaaGreatDoorDkOfL
import Derived.Test.YtebecpjecchfoaaGreatDoorGDk
import Derived.Test.YtebecpjecchfoaaGreatDoorGDo
namespace Go.Proofs.YtebecpjecchfoaaGreatDoor
open Go.RowKit Go.Maps

end Go.Proofs.YtebecpjecchfoaaGreatDoor
namespace Go.Proofs.YtebecpjecchfoaaGreatDoor
open Go.RowKit

theorem ownsRow_low {w : World} {T size k : Nat} {t : TypeId} {v : Value} {vs : List Value} (h : w.ownsRow T t size v k vs) : w.ownsRow 0 t size v k vs := by
  obtain ⟨h0, h1⟩ := h
  refine ⟨h0, ?_⟩
  rcases h1 with hn | ⟨g, cap, cur, hv, hb, rest⟩
  · exact .inl hn
  · exact .inr ⟨g, cap, cur, hv, Nat.zero_le _, rest⟩
theorem RNew.rd {w wr : World} {p n : Nat} {v : Value} {G : Nat → Nat} {zs : Nat → List UInt8} {D : DSt} (h : RNew w wr p n v G zs) (ok : D.Ok n) (hQ : D.Q = []) (hl : D.left = -1) (hd : D.down = false) (ha : D.acts = 0) (hz : ∀ i, i < n → zs i = sec D.L i) :
    RD wr (fun b => w.heap.size ≤ b) p D := by
  refine ⟨n, v, .slice none 0 0, (List.range n).map fun i => .slice (some ⟨G i, 0, none⟩) 64 64, [], ok, ?_, ownsRow_low h.secs.own, ?_, ?_, ?_, ?_, h.new, ?_, ?_⟩
  · rw [h.head]; unfold rhead; rw [hl, hd, ha]; rfl
  · rw [hQ]; exact ⟨rfl, Or.inl ⟨rfl, rfl⟩⟩
  · intro i hi
    obtain ⟨hrow, hlen, hT, hne⟩ := h.secs.row i hi
    refine ⟨.slice (some ⟨G i, 0, none⟩) 64 64, by simp [hi], ?_⟩
    rw [← hz i hi]
    refine SL.of hlen hrow.br ?_
    intro ad e
    cases e
    refine ⟨?_, ?_⟩
    · have := h.new; show w.heap.size ≤ G i; omega
    · rintro (e | e | e)
      · have : G i = p := e
        omega
      · exact hne e
      · cases e
  · rw [hQ]; rfl
  · intro j q hq; rw [hQ] at hq; simp at hq
  · intro g e
    have := (h.secs.lt g e).1
    have := h.new
    show w.heap.size ≤ g
    omega
  · intro g e; cases e
theorem ofD_ok (xs : List UInt8) (h : xs.length ≤ 128000) : (ofD xs).Ok (nBytes xs.length) :=
  ⟨padded_len xs, (by unfold nBytes; omega), fun q hq => (by cases hq), (by show (-1 : Int) ≤ -1; omega), (by show (-1 : Int) ≤ 9223372036854775807; omega)⟩
end Go.Proofs.YtebecpjecchfoaaGreatDoor
