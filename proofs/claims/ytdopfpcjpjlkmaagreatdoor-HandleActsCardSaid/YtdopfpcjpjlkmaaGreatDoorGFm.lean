/- merged -/
import Derived.Test.YtdopfpcjpjlkmaaGreatDoorGFk
set_option linter.unusedVariables false
namespace Go.Proofs.YtdopfpcjpjlkmaaGreatDoor
namespace Fs
open Go.RowKit Ex Ino Mm
end Fs
namespace Fs
open Go.RowKit Ex Ino Mm
structure FV where
 name:List UInt8
 A:Option Addr
 xs:List UInt8
 c:Nat
def fv (d:FV):List UInt8 × List UInt8:=(d.name,d.xs)
def fg (g:RG) (i:Nat):List UInt8 × List UInt8:=((at' g.ns i).name,zg9 g (at' g.ns i))
theorem zn6 (g:RG):zf4 g=(zhw g.ns).map (fg g):=rfl
def zy8 (g:RG) (i:Nat):List (List UInt8 × List UInt8):=((zhw g.ns).filter (·≠i)).map (fg g)
theorem zn5 {α:Type} [DecidableEq α]:∀ {l:List α} {i:α},l.Nodup→i∈l→l.Perm (i::l.filter (·≠i))
 | [],_,_,h=>by cases h
 | x::r,i,hn,h=>by
  have hnr:=List.nodup_cons.1 hn
  by_cases e:x=i
  ·subst e
   have:r.filter (·≠x)=r:=List.filter_eq_self.2 fun a ha=>by
    have:a≠x:=fun e=>hnr.1 (e ▸ ha)
    simpa using this
   rw[List.filter_cons_of_neg (by simp),this]
  ·have hr:i∈r:=(List.mem_cons.1 h).resolve_left fun e'=>e e'.symm
   rw[List.filter_cons_of_pos (by simpa using e)]
   exact((zn5 hnr.2 hr).cons x).trans (List.Perm.swap _ _ _)
theorem ybd {g:RG} {i:Nat} (hi:i∈zhw g.ns):(zf4 g).Perm (fg g i::zy8 g i):=by
 have:=(zn5 (List.Pairwise.filter _ List.nodup_range:(zhw g.ns).Nodup) hi).map (fg g)
 exact this
def MP (l:List FV) (g:RG):Prop:=(l.map fv).Perm (zf4 g)
theorem MP.len {l:List FV} {g:RG} (h:MP l g):l.length=(zf4 g).length:=by have:=h.length_eq;simpa using this
theorem MP.find {l:List FV} {g:RG} (h:MP l g)(hg:RGood g){k:Nat} (hk:k<l.length):∃ i,i∈zhw g.ns∧zdk g.ns l[k].name=some i∧za5 g.ns l[k].name=0∧zbi g.ns l[k].name=i∧fg g i=fv l[k]:=by
 have hm:fv l[k]∈zf4 g:=h.mem_iff.1 (List.mem_map.2 ⟨_,List.getElem_mem hk,rfl⟩)
 rw[zn6] at hm
 obtain⟨i,hi,e⟩:=List.mem_map.1 hm
 have hn:(at' g.ns i).name=l[k].name:=congrArg Prod.fst e
 have hf:=zxp hg hi
 rw[hn] at hf
 obtain⟨h1,h2⟩:=idxL_mem.1 hi
 refine⟨i,hi,?_,hf.2,hf.1,e⟩
 cases hfi:zdk g.ns l[k].name with
 | none=>exact absurd hn (zf3 hfi h1 h2)
 | some j =>
  have hb:=(findE_zero.1 hf.2).1
  have:zbi g.ns l[k].name=j:=by unfold zbi;rw[hb,hfi];rfl
  rw[← this,hf.1]
theorem MP.none {l:List FV} {g:RG} (h:MP l g){name:List UInt8} (hn:∀ d∈l,d.name≠name):zdk g.ns name=none:=by
 cases hf:zdk g.ns name with
 | none=>rfl
 | some i =>
  obtain⟨h1,h2,h3⟩:=zcp hf
  have hm:fg g i∈zf4 g:=by rw[zn6];exact List.mem_map.2 ⟨i,idxL_mem.2 ⟨h1,h2⟩,rfl⟩
  obtain⟨d,hd,e⟩:=List.mem_map.1 (h.mem_iff.2 hm)
  exact absurd ((congrArg Prod.fst e).trans h3) (hn d hd)
theorem zxs {α:Type} {l:List α} {k:Nat} (hk:k<l.length):(l[k]::l.eraseIdx k).Perm l:=by
 rw[List.eraseIdx_eq_take_drop_succ]
 have e:l=l.take k++l[k]::l.drop (k+1):=by rw[← List.drop_eq_getElem_cons hk,List.take_append_drop]
 exact List.perm_middle.symm.trans (by rw[← e])
theorem MP.rest {l:List FV} {g:RG} (h:MP l g)(hg:RGood g){k:Nat} (hk:k<l.length){i:Nat} (hi:i∈zhw g.ns)(e:fg g i=fv l[k]):((l.eraseIdx k).map fv).Perm (zy8 g i):=by
 have h1:=(zxs hk).map fv
 have h2:=(h1.trans h).trans (ybd hi)
 rw[List.map_cons,e] at h2
 exact List.Perm.cons_inv h2
theorem Sim.rest {g g':RG} {i:Nat} (h:Sim (i:Int) g g'):zy8 g' i=zy8 g i:=by
 unfold zy8
 rw[h.idx]
 refine List.map_congr_left fun j hj=>?_
 obtain⟨h1,h2⟩:=List.mem_filter.1 hj
 have hji:j≠i:=by simpa using h2
 obtain⟨h3,h4⟩:=idxL_mem.1 h1
 unfold fg
 rw[h.nm j h3,h.dt j h3 h4 (by omega)]
theorem zlp (xs b:List UInt8)(a:Nat)(h:a≤xs.length):(splice xs a b).take (a+b.length)=xs.take a++b:=by
 have hl:(xs.take a++b).length=a+b.length:=by rw[List.length_append,List.length_take];omega
 have:=List.take_left (l₁:=xs.take a++b) (l₂:=xs.drop (a+b.length))
 rw[hl,List.append_assoc] at this
 exact this
theorem zv6 {g:RG} (h:RGood g){i:Nat} (hi:i<8)(fi:isF (at' g.ns i)=true)(b:List UInt8)(he:(zbu g (i:Int) (at' g.ns i).size b).1=0):
  zg9 (zbu g (i:Int) (at' g.ns i).size b).2 (at' (zbu g (i:Int) (at' g.ns i).size b).2.ns i)=zg9 g (at' g.ns i)++b:=by
 obtain⟨hz,hz2,hz3⟩:=h.size hi
 have hwl:=zdh h.bl (at' g.ns i).ext
 have e0:za1 g.ns (i:Int)=0:=nodeE_zero.2 ⟨⟨by omega,by omega⟩,fi⟩
 have ex:za0 g.ns (i:Int)=at' g.ns i:=by unfold za0;rw[zp e0];rfl
 unfold zbu at he ⊢
 by_cases h0:(zb6 g (i:Int) (at' g.ns i).size b.length).1=0
 rotate_left
 ·rw[zn h0] at he;exact absurd he h0
 rw[zp h0]
 obtain⟨-,ha,hf,hg⟩:=zhj h h0
 have s1:=zqj h (i:Int) (at' g.ns i).size b.length h0
 have f1:isF (at' (zb6 g (i:Int) (at' g.ns i).size b.length).2.ns i)=true:=by rw[s1.isF hi];exact fi
 have hp:=zub hg (n:=(i:Int)) ⟨by omega,by omega⟩ f1 ha.1 hf hi f1
 rw[zp (by simp)] at hp
 show(zam (zpz _ _ _ _).bs (at' (zb6 g (i:Int) (at' g.ns i).size b.length).2.ns i).ext).take _=_
 rw[hp]
 unfold zb6 at h0 hf ⊢
 rw[zn (by rw[e0];decide),ex,zn (by omega)] at h0 hf ⊢
 by_cases hk:(at' g.ns i).size<(at' g.ns i).size+(b.length:Int)
 ·rw[zp hk] at h0 hf ⊢
  unfold zag at h0 hf ⊢
  by_cases hr:zch g (i:Int) ((at' g.ns i).size+(b.length:Int))=0
  rotate_left
  ·rw[zn hr] at h0;exact absurd h0 hr
  rw[zp hr] at hf ⊢
  obtain⟨d1,d2⟩:=zl1 h hr hi fi
  rw[zp (by simp)] at d1 d2
  obtain⟨-,hs,-⟩:=zfb h hr
  have nb:=zfl hs.1 hs.2
  simp only[Int.toNat_natCast] at d1 d2 ⊢
  rw[d2]
  show(splice (zj8 _ _ _) _ b).take (at' (zb5 g (i:Int) ((at' g.ns i).size+(b.length:Int))).ns i).size.toNat=_
  rw[d1]
  show(splice (zj8 _ _ _) _ b).take ((at' g.ns i).size+(b.length:Int)).toNat=_
  rw[show((at' g.ns i).size+(b.length:Int)).toNat=(at' g.ns i).size.toNat+b.length by omega,zlp _ _ _ (by rw[zho];omega)]
  unfold zj8 zg9
  rw[List.take_append_of_le_length (by rw[List.length_take];omega),List.take_take]
  congr 2
  omega
 ·rw[zn hk]
  have hb:b=[]:=List.length_eq_zero_iff.1 (by omega)
  subst hb
  simp only[Int.toNat_natCast]
  have:=zlp (zam g.bs (at' g.ns i).ext) [] (at' g.ns i).size.toNat (by omega)
  simp only[List.length_nil,Nat.add_zero] at this
  exact this
theorem MP.again {l:List FV} {g:RG} (h:MP l g)(hl:g.ns.length=8):MP l ⟨zad g,g.ns⟩:=by
 unfold MP
 rw[zs6 hl]
 exact h
theorem MP.back {l:List FV} {g:RG} (h:MP l g){j:Nat} (hj:j<(zf4 g).length):∃ k,∃ hk:k<l.length,fv l[k]=(zf4 g).getD j ([],[]):=by
 have hm:(zf4 g).getD j ([],[])∈zf4 g:=by
  rw[List.getD_eq_getElem?_getD,List.getElem?_eq_getElem hj]
  exact List.getElem_mem _
 obtain⟨d,hd,e⟩:=List.mem_map.1 (h.mem_iff.2 hm)
 obtain⟨k,hk,rfl⟩:=List.getElem_of_mem hd
 exact⟨k,hk,e⟩
end Fs
end Go.Proofs.YtdopfpcjpjlkmaaGreatDoor
