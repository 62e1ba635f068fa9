/-
  HaS
-/
import Derived.Test.YtdopfpcjpjlkmaaGreatDoorGHh
import Derived.Test.YtdopfpcjpjlkmaaGreatDoorSetSame
set_option linter.unusedSimpArgs false
set_option linter.unusedVariables false
namespace Go.Proofs.YtdopfpcjpjlkmaaGreatDoor.Hd
open Go.RowKit Ex Ino Mm Fs Fr
variable {M M':List UInt8}
structure Inv (M:List UInt8):Prop where
 ok:OkM M
 hd:∀ k,1≤k→k≤4→hF M k=0∨isO M k=true
theorem zu1 {k:Nat} {x:Int} (hx:hF M k=x)(h1:1≤x)(h8:x≤8)(hn:isF (at' (zaa (zab M)) (x-1).toNat)=true):isO M k=true:=by
 refine(zo9 M k).2 ?_
 rw[hx]
 exact⟨⟨h1,h8⟩,nodeE_zero.2 ⟨by omega,hn⟩⟩
theorem zmj {k:Nat} (h:isO M k=true):∃ x,hF M k=x∧1≤x∧x≤8∧isF (at' (zaa (zab M)) (x-1).toNat)=true:=by
 have:=(zo9 M k).1 h
 generalize hF M k=x at *
 exact⟨x,rfl,this.1.1,this.1.2,(nodeE_zero.1 this.2).2⟩
theorem zu2 {k:Nat} (h:hF M k=0):isO M k=false:=by
 cases e:isO M k with
 | false=>rfl
 | true =>
  obtain⟨x,e1,e2,_⟩:=zmj e
  omega
theorem yeb {k:Nat} (hf:hF M' k=hF M k)(hd:hF M k=0∨isO M k=true)(hx:∀ j,j<8→isF (at' (zaa (zab M)) j)=true→isF (at' (zaa (zab M')) j)=true):isO M' k=isO M k:=by
 rcases hd with h | h
 ·rw[zu2 h,zu2 (hf.trans h)]
 ·rw[h]
  obtain⟨x,e,h1,h8,hn⟩:=zmj h
  exact zu1 (hf.trans e) h1 h8 (hx _ (by omega) hn)
theorem Inv.isOp (h:Inv M){k:Nat} (h1:1≤k)(h4:k≤4):opB M k=isO M k:=zuh M h.ok.ok k h1 h4
theorem zqv (h:Inv M)(h':OkM M')(hs:∀ k,1≤k→k≤4→isO M' k=isO M k):zdy M'=zdy M:=by
 have e:∀ k,1≤k→k≤4→opB M' k=opB M k:=fun k k1 k4=>by rw[zuh M' h'.ok k k1 k4,h.isOp k1 k4,hs k k1 k4]
 unfold zdy
 rw[e 1 (by omega) (by omega),e 2 (by omega) (by omega),e 3 (by omega) (by omega),e 4 (by omega) (by omega)]
theorem Inv.lay (h:Inv M){g:RG} (hg:RGood g)(hx:∀ j,j<8→isF (at' (zaa (zab M)) j)=true→isF (at' g.ns j)=true):Inv (zbx M 6144 (zad g))∧(∀ k,1≤k→k≤4→isO (zbx M 6144 (zad g)) k=isO M k)∧za6 (zbx M 6144 (zad g))=⟨zad g,g.ns⟩:=by
 have hh:=Has.lay h.ok.ml hg
 have e:za6 (zbx M 6144 (zad g))=⟨zad g,g.ns⟩:=hh.eq
 have en:zaa (zab (zbx M 6144 (zad g)))=g.ns:=congrArg RG.ns e
 have hs:∀ k,1≤k→k≤4→isO (zbx M 6144 (zad g)) k=isO M k:=fun k k1 k4=>yeb (zg5 h.ok.ml k1 k4 _) (h.hd k k1 k4) fun j hj fj=>by rw[en];exact hx j hj fj
 exact⟨⟨⟨hh.ml,hh.ok⟩,fun k k1 k4=>by rw[zg5 h.ok.ml k1 k4,hs k k1 k4];exact h.hd k k1 k4⟩,hs,e⟩
theorem Inv.step (h:Inv M){rv:Int × RG} (hs:rv.1=0→RGood rv.2∧∀ j,j<8→isF (at' (zaa (zab M)) j)=true→isF (at' rv.2.ns j)=true):Inv (zbz M rv)∧∀ k,1≤k→k≤4→isO (zbz M rv) k=isO M k:=by
 unfold zbz
 by_cases h0:rv.1=0
 ·rw[zp h0]
  obtain⟨a,b,_⟩:=h.lay (hs h0).1 (hs h0).2
  exact⟨a,b⟩
 ·rw[zn h0]
  exact⟨h,fun _ _ _=>rfl⟩
theorem Inv.sim (h:Inv M){n:Int} {rv:Int × RG} (hs:rv.1=0→Sim n (za6 M) rv.2∧RGood rv.2):Inv (zbz M rv)∧∀ k,1≤k→k≤4→isO (zbz M rv) k=isO M k:=
 h.step fun e=>⟨(hs e).2,fun j hj fj=>by rw[(hs e).1.isF hj];exact fj⟩
theorem Inv.cells (h:Inv M){k:Nat} (k1:1≤k)(k4:k≤4)(a b:Int)(ha:a=0∨(1≤a∧a≤8∧isF (at' (zaa (zab M)) (a-1).toNat)=true)):Inv (zdb M k a b):=by
 have ml:=h.ok.ml
 have hr:=ziy ml k1 k4 a b
 refine⟨⟨by rw[zen];exact ml,by rw[hr];exact h.ok.ok⟩,fun x x1 x4=>?_⟩
 by_cases e:x=k
 ·subst e
  have hf:=zie ml x1 x4 a b (by omega)
  rcases ha with ha | ⟨a1,a8,an⟩
  ·exact .inl (hf.trans ha)
  ·exact .inr (zu1 hf a1 a8 (by rw[hr];exact an))
 ·have hf:=ze4 ml k1 x1 x4 e a b
  rcases h.hd x x1 x4 with g | g
  ·exact .inl (hf.trans g)
  ·obtain⟨y,g0,g1,g8,gn⟩:=zmj g
   exact .inr (zu1 (hf.trans g0) g1 g8 (by rw[hr];exact gn))
theorem yhv {k:Nat} {x:Int} (hx:hF M k=x)(h1:1≤x)(h8:x≤8):hN M k+1=x:=by
 rw[yhu M k (by rw[hx];exact h1),hx]
 omega
theorem ziu (ml:M.length=8192){k:Nat} (k1:1≤k)(k4:k≤4)(hO:isO M k=true)(s:Int):zdb M k (hN M k+1) s=zgs M (hA k+8) s:=by
 obtain⟨x,e,h1,h8,_⟩:=zmj hO
 unfold zdb
 rw[yhv e h1 h8,← e]
 show zgs (zgs M (hA k) (cel M (hA k))) (hA k+8) s=_
 rw[yc7 _ _ (by have:=zhx k1 k4;omega)]
theorem Inv.place (h:Inv M){k:Nat} (k1:1≤k)(k4:k≤4)(hO:isO M k=true)(s:Int):Inv (zgs M (hA k+8) s):=by
 rw[← ziu h.ok.ml k1 k4 hO s]
 obtain⟨x,e,h1,h8,hn⟩:=zmj hO
 rw[yhv e h1 h8]
 exact h.cells k1 k4 _ _ (.inr ⟨h1,h8,hn⟩)
theorem zec {α:Type} {P:α→Prop} (M:List UInt8)(n:Int)(y:Nat→α)(z:α)(hy:∀ k:Nat,n=(k:Int)→1≤k→k≤4→isO M k=true→P (y k))(hz:P z):P (zqs M n y z):=by
 by_cases hb:isOp M n
 ·obtain⟨k,rfl,h1,h4,hO⟩:=zco hb
  rw[zcm hb];exact hy k rfl h1 h4 hO
 ·rw[zc9 hb];exact hz
theorem zjz {α:Type} (M:List UInt8)(n:Int)(y y':Nat→α)(z:α)(hy:∀ k:Nat,n=(k:Int)→1≤k→k≤4→isO M k=true→y k=y' k):zqs M n y z=zqs M n y' z:=by
 by_cases hb:isOp M n
 ·obtain⟨k,rfl,h1,h4,hO⟩:=zco hb
  rw[zcm hb,zcm hb];exact hy k rfl h1 h4 hO
 ·rw[zc9 hb,zc9 hb]
theorem yij (h:Inv M)(n:Int):Inv (ycw M n).2:=by
 unfold ycw
 exact zec (P:=fun x:Int × List UInt8=>Inv x.2) M n _ _ (fun k _ k1 k4 _=>h.cells k1 k4 0 0 (.inl rfl)) h
theorem ygv (h:Inv M)(n:Int):Inv (ycr M n).2.2:=by
 unfold ycr
 exact zec (P:=fun x:Int × Int × List UInt8=>Inv x.2.2) M n _ _ (fun _ _ _ _ _=>h) h
theorem yhd (h:Inv M)(n:Int):Inv (yct M n).2.2:=by
 unfold yct
 exact zec (P:=fun x:Int × Int × List UInt8=>Inv x.2.2) M n _ _ (fun _ _ _ _ _=>h) h
theorem yg1 (h:Inv M)(n s:Int):Inv (zne M n s).2:=by
 unfold zne
 exact zec (P:=fun x:Int × List UInt8=>Inv x.2) M n _ _ (fun k _ _ _ _=>(h.sim (n:=hN M k) fun e=>zjq h.ok.good _ _ e).1) h
theorem zt3 (h:Inv M)(n s:Int):yiy M n s=yg0 M n s∧Inv (yg0 M n s).2:=by
 unfold yiy yg0
 constructor
 ·exact zjz M n _ _ _ fun k _ k1 k4 hO=>by
   by_cases c:s<0∨hS M k<s
   ·simp only[zp c]
   ·simp only[zn c,ziu h.ok.ml k1 k4 hO s]
 ·exact zec (P:=fun x:Int × List UInt8=>Inv x.2) M n _ _ (fun k _ k1 k4 hO=>by
   by_cases c:s<0∨hS M k<s
   ·simp only[zp c];exact h
   ·simp only[zn c];exact h.place k1 k4 hO s) h
theorem zt7 (h:Inv M)(n K:Int):yiz M n K=yg6 M n K∧Inv (yg6 M n K).2.2:=by
 unfold yiz yg6
 constructor
 ·exact zjz M n _ _ _ fun k _ k1 k4 hO=>by
   unfold rdM
   by_cases c:rdE M k K=0
   ·simp only[zp c,ziu h.ok.ml k1 k4 hO]
   ·simp only[zn c]
 ·exact zec (P:=fun x:List UInt8 × Int × List UInt8=>Inv x.2.2) M n _ _ (fun k _ k1 k4 hO=>by
   by_cases c:rdE M k K=0
   ·simp only[zp c];exact h.place k1 k4 hO _
   ·simp only[zn c];exact h) h
theorem ztu (h:Inv M)(n:Int)(bb:List UInt8):yix M n bb=ygs M n bb∧Inv (ygs M n bb).2:=by
 have hs:∀ k,Inv (zbz M (wrV M k bb))∧∀ j,1≤j→j≤4→isO (zbz M (wrV M k bb)) j=isO M j:=fun k=>h.sim (n:=hN M k) fun e=>zyf h.ok.good _ _ _ e
 have hn:∀ k,1≤k→k≤4→hN (zbz M (wrV M k bb)) k=hN M k:=fun k k1 k4=>by
  unfold hN zbz
  split
  ·rw[zg5 h.ok.ml k1 k4]
  ·rfl
 unfold yix ygs
 constructor
 ·exact zjz M n _ _ _ fun k _ k1 k4 hO=>by
   unfold wrM
   by_cases c:(wrV M k bb).1=0
   ·have e:zbz M (wrV M k bb)=zbx M 6144 (zad (wrV M k bb).2):=zp c
    simp only[zp c,← e]
    rw[← hn k k1 k4,ziu (hs k).1.ok.ml k1 k4 (by rw[(hs k).2 k k1 k4];exact hO)]
   ·simp only[zn c]
 ·exact zec (P:=fun x:Int × List UInt8=>Inv x.2) M n _ _ (fun k _ k1 k4 hO=>by
   by_cases c:(wrV M k bb).1=0
   ·simp only[zp c];exact(hs k).1.place k1 k4 (by rw[(hs k).2 k k1 k4];exact hO) _
   ·simp only[zn c];exact h) h
theorem yg3 (h:Inv M)(f t:List UInt8):Inv (ycs M f t).2:=by
 unfold ycs
 rw[zp h.ok.ok]
 refine(h.step fun e=>?_).1
 obtain⟨i,hi,hi8,ha,he,hg⟩:=zsc h.ok.good f t e
 rw[he]
 refine⟨hg,fun j hj fj=>?_⟩
 show isF (at' ((za6 M).ns.set i _) j)=true
 rw[zcq h.ok.good.nl hi8]
 split
 ·obtain⟨a,_⟩:=absent_zero.1 ha
  unfold isF
  exact decide_eq_true (zi8 a)
 ·exact fj
theorem yhg (h:Inv M)(name:List UInt8):Inv (zjx M name).2.2:=by
 unfold zjx
 by_cases hE:fE M name≠0
 ·rw[zp hE];exact h
 rw[zn hE]
 by_cases hl:zdy M=0
 ·rw[zp hl];exact h
 rw[zn hl]
 have l4:=zmd M
 refine h.cells (by omega) l4 _ _ (.inr ?_)
 have e0:fE M name=0:=Classical.not_not.1 hE
 unfold fE at e0
 rw[zp h.ok.ok] at e0
 obtain⟨n1,i,hi⟩:=findE_zero.1 e0
 obtain⟨i8,fi,_⟩:=zcp hi
 have en:fN M name=i:=by
  unfold fN
  rw[zp h.ok.ok]
  unfold zbi
  rw[n1,hi]
  rfl
 rw[en]
 exact⟨by omega,by omega,by rw[show((i:Int)+1-1).toNat=i by omega];exact fi⟩
end Go.Proofs.YtdopfpcjpjlkmaaGreatDoor.Hd
