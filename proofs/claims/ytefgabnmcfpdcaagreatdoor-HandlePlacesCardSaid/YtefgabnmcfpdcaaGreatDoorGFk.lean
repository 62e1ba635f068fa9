/- merged -/
import Derived.Test.YtefgabnmcfpdcaaGreatDoorGFi
import Derived.Test.YtefgabnmcfpdcaaGreatDoorGFl
set_option linter.unusedSimpArgs false
set_option linter.unusedVariables false
namespace Go.Proofs.YtefgabnmcfpdcaaGreatDoor
namespace Fs
open Go.RowKit Ex Ino Mm
structure Sim (n:Int) (g g':RG):Prop where
 nm:∀ j,j<8→(at' g'.ns j).name=(at' g.ns j).name
 dt:∀ j,j<8→isF (at' g.ns j)=true→(j:Int)≠n→zgx g' (at' g'.ns j)=zgx g (at' g.ns j)
theorem Sim.refl (n:Int)(g:RG):Sim n g g:=⟨fun _ _=>rfl,fun _ _ _ _=>rfl⟩
theorem Sim.isF {n:Int} {g g':RG} (h:Sim n g g'){j:Nat} (hj:j<8):isF (at' g'.ns j)=isF (at' g.ns j):=by unfold Fs.isF;rw[h.nm j hj]
theorem Sim.trans {n:Int} {g g' g'':RG} (h:Sim n g g')(k:Sim n g' g''):Sim n g g'':=
 ⟨fun j hj=>(k.nm j hj).trans (h.nm j hj),fun j hj hf hn=>(k.dt j hj (by rw[h.isF hj];exact hf) hn).trans (h.dt j hj hf hn)⟩
theorem Sim.idx {n:Int} {g g':RG} (h:Sim n g g'):zi9 g'.ns=zi9 g.ns:=by
 unfold zi9
 refine List.filter_congr fun j hj=>?_
 rw[List.mem_range] at hj
 exact h.isF hj
theorem zvo {g:RG} (h:RGood g)(n size:Int)(he:(zah g n size).1=0):Sim n g (zah g n size).2∧RGood (zah g n size).2:=by
 unfold zah at he ⊢
 by_cases h0:zci g n size=0
 ·rw[if_pos h0]
  obtain⟨⟨hn,fn⟩,hs,hf,ex,hr⟩:=ze5 h h0
  have hm:∀ j,at' (zcg g n size).ns j=(if j=n.toNat then ⟨(at' g.ns n.toNat).name,size,zeq (at' g.ns n.toNat).ext (zaq g.ns) (zbo size).toNat⟩ else at' g.ns j):=fun j=>by
   rw[zg7,zdj h.nl (by omega),ex]
  refine⟨⟨fun j hj=>?_,fun j hj fj hne=>?_⟩,hr⟩
  ·simp only[hm]
   split
   ·rename_i e;rw[e]
   ·rfl
  ·obtain⟨e1,e2⟩:=zlj h h0 hj fj
   have hjn:j≠n.toNat:=by omega
   rw[if_neg hjn] at e1 e2
   show((zam _ _).take _)=((zam _ _).take _)
   simp only at e1 e2 ⊢
   rw[e2,e1]
 ·rw[if_neg h0] at he
  exact absurd he h0
theorem zyh {g:RG} (h:RGood g)(n a:Int)(k:Nat)(he:(zca g n a k).1=0):Sim n g (zca g n a k).2:=by
 unfold zca at he ⊢
 by_cases h0:za0 g.ns n≠0
 ·rw[if_pos h0] at he;exact absurd he h0
 rw[if_neg h0] at he ⊢
 by_cases h1:a<0∨(za1 g.ns n).size<a
 ·rw[if_pos h1] at he;cases he
 rw[if_neg h1] at he ⊢
 by_cases h2:(za1 g.ns n).size<a+k
 ·rw[if_pos h2] at he ⊢;exact(zvo h _ _ he).1
 ·rw[if_neg h2];exact Sim.refl _ _
def zdk (M:List UInt8) (rv:Int × RG):List UInt8:=if rv.1=0 then zcs M 6144 (zai rv.2) else M
def zb1 (M:List UInt8):RG:=⟨zab M,zaa (zab M)⟩
structure OkM (M:List UInt8):Prop where
 ml:M.length=8192
 ok:okR (zab M)
theorem OkM.step {M:List UInt8} (h:OkM M){rv:Int × RG} (hg:rv.1=0→RGood rv.2):OkM (zdk M rv)∧(rv.1=0→zb1 (zdk M rv)=⟨zai rv.2,rv.2.ns⟩)∧(rv.1≠0→zdk M rv=M):=by
 unfold zdk
 by_cases h0:rv.1=0
 ·rw[if_pos h0]
  have:=Has.lay h.ml (hg h0)
  exact⟨⟨this.ml,this.ok⟩,fun _=>this.eq,fun h=>absurd h0 h⟩
 ·rw[if_neg h0]
  exact⟨h,fun h=>absurd h h0,fun _=>rfl⟩
theorem zws {g:RG} (h:RGood g){i:Nat} (hi:i∈zi9 g.ns):zbu g.ns (at' g.ns i).name=i∧zbd g.ns (at' g.ns i).name=0:=by
 obtain⟨h1,h2⟩:=idxL_mem.1 hi
 have hc:=(h.isF_iff h1).1 h2
 have hn:zbf (at' g.ns i).name=true:=by unfold zd4 at hc;rw[Bool.and_eq_true] at hc;exact hc.1
 cases hf:zer g.ns (at' g.ns i).name with
 | none=>exact absurd rfl (zix hf h1 h2)
 | some j =>
  obtain⟨j1,j2,j3⟩:=zd2 hf
  have e:j=i:=Classical.byContradiction fun hne=>(h.ap j i j1 h1 hne j2 h2).1 j3
  subst e
  unfold zbu zbd
  rw[hn,hf]
  exact⟨rfl,rfl⟩
end Fs
namespace Fs
open Go.RowKit Ex Ino Mm
def FewOut (w:World) (e:Ending) (w':World):Prop:=(∃ b,e=.returned (.bool b))∧Below w.heap.size w w'
end Fs
end Go.Proofs.YtefgabnmcfpdcaaGreatDoor
