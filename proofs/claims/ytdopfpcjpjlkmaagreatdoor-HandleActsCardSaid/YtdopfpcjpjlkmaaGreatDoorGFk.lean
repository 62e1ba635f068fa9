/- merged -/
import Derived.Test.YtdopfpcjpjlkmaaGreatDoorGFi
import Derived.Test.YtdopfpcjpjlkmaaGreatDoorGFl
set_option linter.unusedSimpArgs false
set_option linter.unusedVariables false
namespace Go.Proofs.YtdopfpcjpjlkmaaGreatDoor
namespace Fs
open Go.RowKit Ex Ino Mm
structure Sim (n:Int) (g g':RG):Prop where
 nm:∀ j,j<8→(at' g'.ns j).name=(at' g.ns j).name
 dt:∀ j,j<8→isF (at' g.ns j)=true→(j:Int)≠n→zg9 g' (at' g'.ns j)=zg9 g (at' g.ns j)
theorem Sim.refl (n:Int)(g:RG):Sim n g g:=⟨fun _ _=>rfl,fun _ _ _ _=>rfl⟩
theorem Sim.isF {n:Int} {g g':RG} (h:Sim n g g'){j:Nat} (hj:j<8):isF (at' g'.ns j)=isF (at' g.ns j):=by unfold Fs.isF;rw[h.nm j hj]
theorem Sim.trans {n:Int} {g g' g'':RG} (h:Sim n g g')(k:Sim n g' g''):Sim n g g'':=
 ⟨fun j hj=>(k.nm j hj).trans (h.nm j hj),fun j hj hf hn=>(k.dt j hj (by rw[h.isF hj];exact hf) hn).trans (h.dt j hj hf hn)⟩
theorem Sim.idx {n:Int} {g g':RG} (h:Sim n g g'):zhw g'.ns=zhw g.ns:=by
 unfold zhw
 refine List.filter_congr fun j hj=>?_
 rw[List.mem_range] at hj
 exact h.isF hj
theorem zyq (n:Int){g:RG} (h:g.ns.length=8):Sim n g ⟨zad g,g.ns⟩:=⟨fun _ _=>rfl,fun j _ _ _=>zhs h _⟩
theorem zjq {g:RG} (h:RGood g)(n size:Int)(he:(zag g n size).1=0):Sim n g (zag g n size).2∧RGood (zag g n size).2:=by
 unfold zag at he ⊢
 by_cases h0:zch g n size=0
 ·rw[zp h0]
  obtain⟨⟨hn,fn⟩,hs,hf,ex,hr⟩:=zfb h h0
  have hm:∀ j,at' (zb5 g n size).ns j=(if j=n.toNat then ⟨(at' g.ns n.toNat).name,size,zd8 (at' g.ns n.toNat).ext (zao g.ns) (zbq size).toNat⟩ else at' g.ns j):=fun j=>by
   rw[zfw,zcq h.nl (by omega),ex]
  refine⟨⟨fun j hj=>?_,fun j hj fj hne=>?_⟩,hr⟩
  ·simp only[hm]
   split
   ·rename_i e;rw[e]
   ·rfl
  ·obtain⟨e1,e2⟩:=zl1 h h0 hj fj
   have hjn:j≠n.toNat:=by omega
   rw[zn hjn] at e1 e2
   show((zam _ _).take _)=((zam _ _).take _)
   simp only at e1 e2 ⊢
   rw[e2,e1]
 ·rw[zn h0] at he
  exact absurd he h0
theorem zqj {g:RG} (h:RGood g)(n a:Int)(k:Nat)(he:(zb6 g n a k).1=0):Sim n g (zb6 g n a k).2:=by
 unfold zb6 at he ⊢
 by_cases h0:za1 g.ns n≠0
 ·rw[zp h0] at he;exact absurd he h0
 rw[zn h0] at he ⊢
 by_cases h1:a<0∨(za0 g.ns n).size<a
 ·rw[zp h1] at he;cases he
 rw[zn h1] at he ⊢
 by_cases h2:(za0 g.ns n).size<a+k
 ·rw[zp h2] at he ⊢;exact(zjq h _ _ he).1
 ·rw[zn h2];exact Sim.refl _ _
theorem zyf {g:RG} (h:RGood g)(n a:Int)(b:List UInt8)(he:(zbu g n a b).1=0):Sim n g (zbu g n a b).2∧RGood (zbu g n a b).2:=by
 unfold zbu at he ⊢
 by_cases h0:(zb6 g n a b.length).1=0
 ·rw[zp h0]
  have s1:=zqj h n a b.length h0
  obtain⟨⟨hn,fn⟩,ha,hf,hg⟩:=zhj h h0
  have fn2:isF (at' (zb6 g n a b.length).2.ns n.toNat)=true:=by rw[s1.isF (by omega)];exact fn
  refine⟨s1.trans ⟨fun j _=>rfl,fun j hj fj hne=>?_⟩,zua hg ha.1 hf⟩
  have:=zub hg hn fn2 ha.1 hf hj fj
  rw[zn (by omega)] at this
  show(zam (zpz (zb6 g n a b.length).2 n a b).bs (at' (zb6 g n a b.length).2.ns j).ext).take _=_
  rw[this]
  rfl
 ·rw[zn h0] at he
  exact absurd he h0
def zbz (M:List UInt8) (rv:Int × RG):List UInt8:=if rv.1=0 then zbx M 6144 (zad rv.2) else M
def za6 (M:List UInt8):RG:=⟨zab M,zaa (zab M)⟩
structure OkM (M:List UInt8):Prop where
 ml:M.length=8192
 ok:okR (zab M)
theorem OkM.good {M:List UInt8} (h:OkM M):RGood (za6 M):=zfr h.ml h.ok
theorem OkM.step {M:List UInt8} (h:OkM M){rv:Int × RG} (hg:rv.1=0→RGood rv.2):OkM (zbz M rv)∧(rv.1=0→za6 (zbz M rv)=⟨zad rv.2,rv.2.ns⟩)∧(rv.1≠0→zbz M rv=M):=by
 unfold zbz
 by_cases h0:rv.1=0
 ·rw[zp h0]
  have:=Has.lay h.ml (hg h0)
  exact⟨⟨this.ml,this.ok⟩,fun _=>this.eq,fun h=>absurd h0 h⟩
 ·rw[zn h0]
  exact⟨h,fun h=>absurd h h0,fun _=>rfl⟩
theorem OkM.sim {M:List UInt8} (h:OkM M){n:Int} {rv:Int × RG} (hs:rv.1=0→Sim n (za6 M) rv.2∧RGood rv.2):OkM (zbz M rv)∧Sim n (za6 M) (za6 (zbz M rv)):=by
 obtain⟨h1,h2,h3⟩:=h.step fun e=>(hs e).2
 refine⟨h1,?_⟩
 by_cases h0:rv.1=0
 ·rw[h2 h0]
  exact(hs h0).1.trans (zyq _ (hs h0).2.nl)
 ·rw[h3 h0]
  exact Sim.refl _ _
theorem zxp {g:RG} (h:RGood g){i:Nat} (hi:i∈zhw g.ns):zbi g.ns (at' g.ns i).name=i∧za5 g.ns (at' g.ns i).name=0:=by
 obtain⟨h1,h2⟩:=idxL_mem.1 hi
 have hc:=(h.isF_iff h1).1 h2
 have hn:zbg (at' g.ns i).name=true:=by unfold zd6 at hc;rw[Bool.and_eq_true] at hc;exact hc.1
 cases hf:zdk g.ns (at' g.ns i).name with
 | none=>exact absurd rfl (zf3 hf h1 h2)
 | some j =>
  obtain⟨j1,j2,j3⟩:=zcp hf
  have e:j=i:=Classical.byContradiction fun hne=>(h.ap j i j1 h1 hne j2 h2).1 j3
  subst e
  unfold zbi za5
  rw[hn,hf]
  exact⟨rfl,rfl⟩
end Fs
namespace Fs
open Go.RowKit Ex Ino Mm
def FewOut (w:World) (e:Ending) (w':World):Prop:=(∃ b,e=.returned (.bool b))∧Below w.heap.size w w'
end Fs
end Go.Proofs.YtdopfpcjpjlkmaaGreatDoor
