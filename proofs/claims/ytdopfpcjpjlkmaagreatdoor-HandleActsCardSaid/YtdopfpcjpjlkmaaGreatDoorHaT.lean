/-
  HaT
-/
import Derived.Test.YtdopfpcjpjlkmaaGreatDoorHaS
set_option linter.unusedSimpArgs false
set_option linter.unusedVariables false
namespace Go.Proofs.YtdopfpcjpjlkmaaGreatDoor.Hd
open Go.RowKit Ex Ino Mm Fs Fr
variable {M M':List UInt8}
theorem znd (u:Nat):zbm [] u 0=([],zkv u (zb2 []),0):=by
 unfold zbm
 rw[zn (by rw[yf5];simp)]
 rfl
theorem zwn {g:RG} (hg:RGood g){i:Nat} (hi:i<8){name:List UInt8} (hn:name≠[])(he:at' g.ns i=⟨name,0,[]⟩):zag g (i:Int) 0=(0,g):=by
 have fi:isF (at' g.ns i)=true:=by rw[he];exact decide_eq_true hn
 have n0:za1 g.ns (i:Int)=0:=nodeE_zero.2 ⟨by omega,by rw[Int.toNat_natCast];exact fi⟩
 have nx:za0 g.ns (i:Int)=⟨name,0,[]⟩:=by
  unfold za0
  rw[zp n0,Int.toNat_natCast,he]
 have ne:(zbq 0).toNat=0:=by decide
 have fx:zd8 [] (zao g.ns) 0=[]:=by
  unfold zd8
  rw[zn (by simp),show((0:Nat):Int)=0 from rfl,znd]
 have fe:zh1 [] (zao g.ns) 0=0:=by
  unfold zh1
  rw[zn (by simp),show((0:Nat):Int)=0 from rfl,znd]
 have re:zch g (i:Int) 0=0:=by
  unfold zch
  rw[zn (by rw[n0];simp),zn (by omega),zn (by omega),nx,ne]
  exact fe
 have hs:g.ns.set i ⟨name,0,[]⟩=g.ns:=by
  refine yab (by rw[List.length_set];exact hg.nl) hg.nl fun j hj=>?_
  rw[zcq hg.nl hi]
  split
  ·rename_i e
   rw[e,he]
  ·rfl
 have rg:zb5 g (i:Int) 0=g:=by
  have e1:(zb5 g (i:Int) 0).ns=g.ns:=by
   rw[zfw,nx,ne,Int.toNat_natCast]
   show g.ns.set i ⟨name,0,zd8 [] (zao g.ns) 0⟩=g.ns
   rw[fx,hs]
  have e2:(zb5 g (i:Int) 0).bs=g.bs:=by
   rw[zng,nx,ne]
   show zbo g.bs (zd8 [] (zao g.ns) 0) _=g.bs
   rw[fx]
   rfl
  cases hR:zb5 g (i:Int) 0 with
  | mk bs ns =>
   rw[hR] at e1 e2
   cases g
   simp only at e1 e2
   rw[e1,e2]
 unfold zag
 rw[zp re,rg]
theorem yho (hm:M.length=8192){R:List UInt8} (hR:R.length=2048):zbx (zbx M 6144 R) 6144 R=zbx M 6144 R:=by
 refine za7 (by rw[zbd,zbd]) fun i hi=>?_
 rw[zbd,zbd] at hi
 rw[zbs _ _ _ _ (by rw[zbd];exact hi),zbs _ _ _ _ hi]
 split<;>rfl
theorem zti {g:RG} (h1:g.ns.length=8):zad ⟨zad g,g.ns⟩=zad g:=by
 have e:(zad g).drop 576=g.bs.drop 576:=by
  unfold zad
  rw[← List.append_assoc,List.drop_append,List.length_append,zbj,Fs.flat_len,h1,List.drop_of_length_le (by rw[List.length_append,zbj,Fs.flat_len,h1];omega)]
  simp
 show zb7 (zao g.ns)++((g.ns.flatMap zcf)++(zad g).drop 576)=zad g
 rw[e]
 rfl
theorem ybb {ns ns':List IN} (h:∀ j,j<8→(at' ns' j).name=(at' ns j).name)(name:List UInt8):za5 ns' name=za5 ns name∧zbi ns' name=zbi ns name:=by
 have hi:zhw ns'=zhw ns:=by
  unfold zhw
  refine List.filter_congr fun j hj=>?_
  rw[List.mem_range] at hj
  unfold isF
  rw[h j hj]
 have hf:zdk ns' name=zdk ns name:=by
  unfold zdk
  rw[hi]
  have key:∀ l:List Nat,(∀ j∈l,j<8)→l.find? (fun i=>decide ((at' ns' i).name=name))=l.find? (fun i=>decide ((at' ns i).name=name)):=by
   intro l
   induction l with
   | nil=>intro _;rfl
   | cons a l ih =>
    intro hl
    rw[List.find?_cons,List.find?_cons,h a (hl a (by simp)),ih fun j hj=>hl j (by simp[hj])]
  exact key _ fun j hj=>(idxL_mem.1 hj).1
 unfold za5 zbi
 rw[hf]
 exact⟨rfl,rfl⟩
theorem ye5 {g:RG} (hg:RGood g){i:Nat} {name:List UInt8} (hi:i<8)(hf:(at' g.ns i).name=[])(ha:za2 g.ns name=0):za5 (g.ns.set i ⟨name,0,[]⟩) name=0∧zbi (g.ns.set i ⟨name,0,[]⟩) name=i:=by
 obtain⟨n1,hnone⟩:=absent_zero.1 ha
 have hne:=zi8 n1
 have hat:∀ j,at' (g.ns.set i ⟨name,0,[]⟩) j=if j=i then ⟨name,0,[]⟩ else at' g.ns j:=fun j=>zcq hg.nl hi _ j
 have hfi:zdk (g.ns.set i ⟨name,0,[]⟩) name=some i:=by
  unfold zdk
  have hmem:i∈zhw (g.ns.set i ⟨name,0,[]⟩):=idxL_mem.2 ⟨hi,by rw[hat,zp rfl];exact decide_eq_true hne⟩
  cases hx:(zhw (g.ns.set i ⟨name,0,[]⟩)).find? (fun j=>decide ((at' (g.ns.set i ⟨name,0,[]⟩) j).name=name)) with
  | none =>
   have:=List.find?_eq_none.1 hx i hmem
   rw[hat,zp rfl] at this
   simp at this
  | some j =>
   have h1:=List.find?_some hx
   have h2:=List.mem_of_find?_eq_some hx
   obtain⟨j8,fj⟩:=idxL_mem.1 h2
   by_cases e:j=i
   ·rw[e]
   ·rw[hat,zn e] at h1 fj
    exact absurd (by simpa using h1) (zf3 hnone j8 fj)
 refine⟨findE_zero.2 ⟨n1,i,hfi⟩,?_⟩
 unfold zbi
 rw[n1,hfi]
 rfl
theorem yia (h:OkM M)(name:List UInt8):fE M name=za5 (zaa (zab M)) name:=by unfold fE;rw[zp h.ok]
theorem yh8 (h:OkM M)(name:List UInt8):fN M name=zbi (zaa (zab M)) name:=by unfold fN;rw[zp h.ok]
theorem zzn {name:List UInt8} (hE:fE M name=0)(hl:zdy M≠0):zjx M name=((zdy M:Int),0,zdb M (zdy M) ((fN M name:Int)+1) 0):=by
 unfold zjx
 rw[zn (by rw[hE];simp),zn hl]
theorem crc_at (h:Inv M){name:List UInt8} (n1:zbg name=true)(hl:zdy M≠0):zka M name=if (zlb M name).1≠0 then (0,(zlb M name).1,(zlb M name).2) else zjx (zlb M name).2 name:=by
 unfold zka
 rw[zn (fun x=>x h.ok.ok),zn (by rw[n1];simp),zn hl]
theorem yie (h : Inv M) {name : List UInt8} (n1 : zbg name = true) (hl : zdy M ≠ 0) : zry M name = if (zae (za6 M) name).1 = 122 then
      (if (zag (za6 M) (zbi (zaa (zab M)) name:Nat) 0).1=0 then
        ((zdy M:Int),0,zdb (zbz M (zag (za6 M) (zbi (zaa (zab M)) name:Nat) 0)) (zdy M) ((zbi (zaa (zab M)) name:Int)+1) 0)
       else (0,(zag (za6 M) (zbi (zaa (zab M)) name:Nat) 0).1,M))
    else if (zae (za6 M) name).1=0 then ((zdy M:Int),0,zdb (zbx M 6144 (zad (zae (za6 M) name).2.2)) (zdy M) (((zae (za6 M) name).2.1:Int)+1) 0)
    else (0,(zae (za6 M) name).1,M):=by
  unfold zry
  rw[zn (fun x=>x h.ok.ok),zn (by rw[n1];simp),zn hl]
theorem zpp {name:List UInt8} {E:Int} {X:List UInt8} (h:zka M name=(0,E,X))(hE:E≠0):zxx M name=(0,E,M):=by
 unfold zxx
 rw[h,zp hE]
theorem zvp {name:List UInt8} {n:Int} {X:List UInt8} (h:zka M name=(n,0,X)):zxx M name=(n,0,X):=by
 unfold zxx
 rw[h,zn (by simp)]
theorem zvo (h:Inv M)(name:List UInt8):zxx M name=zry M name∧Inv (zry M name).2.2:=by
 by_cases n0:zbg name=false
 ·have e1:zka M name=(0,121,M):=by
   unfold zka
   rw[zn (fun x=>x h.ok.ok),zp n0]
  have e2:zry M name=(0,121,M):=by
   unfold zry
   rw[zn (fun x=>x h.ok.ok),zp n0]
  rw[zpp e1 (by omega),e2]
  exact⟨rfl,h⟩
 have n1:zbg name=true:=by simpa using n0
 by_cases hl:zdy M=0
 ·have e1:zka M name=(0,130,M):=by
   unfold zka
   rw[zn (fun x=>x h.ok.ok),zn n0,zp hl]
  have e2:zry M name=(0,130,M):=by
   unfold zry
   rw[zn (fun x=>x h.ok.ok),zn n0,zp hl]
  rw[zpp e1 (by omega),e2]
  exact⟨rfl,h⟩
 have l4:=zmd M
 have gg:=h.ok.good
 have er:(za6 M).ns=zaa (zab M):=rfl
 rw[yie h n1 hl]
 have ec:=crc_at h n1 hl
 by_cases hf:za5 (zaa (zab M)) name=123
 ·have ab:za2 (za6 M).ns name=0:=absent_zero.2 (findE_miss.1 hf)
  by_cases hc:(zae (za6 M) name).1=0
  ·obtain⟨i,hi,_,hcv,hg1⟩:=zik gg name hc
   obtain⟨i8,fi⟩:=zq9 hi
   have hne:=zi8 n1
   have hx:∀ j,j<8→isF (at' (zaa (zab M)) j)=true→isF (at' ((za6 M).ns.set i ⟨name,0,[]⟩) j)=true:=fun j hj fj=>by
    rw[zcq gg.nl i8]
    split
    ·exact decide_eq_true hne
    ·exact fj
   obtain⟨iv,hs,hr⟩:=h.lay hg1 hx
   have hM1:∃ M1,M1=zbx M 6144 (zad ⟨(za6 M).bs,(za6 M).ns.set i ⟨name,0,[]⟩⟩):=⟨_,rfl⟩
   obtain⟨M1,hM1⟩:=hM1
   rw[← hM1] at iv hs hr
   have rz:zag (za6 M1) (i:Int) 0=(0,za6 M1):=zwn iv.ok.good i8 hne (by
    rw[hr]
    show at' ((za6 M).ns.set i ⟨name,0,[]⟩) i=_
    rw[zcq gg.nl i8,zp rfl])
   have sm:zbz M1 (0,za6 M1)=M1:=by
    unfold zbz
    rw[zp rfl,hr]
    show zbx M1 6144 (zad ⟨zad ⟨(za6 M).bs,(za6 M).ns.set i ⟨name,0,[]⟩⟩,(za6 M).ns.set i ⟨name,0,[]⟩⟩)=M1
    rw[show zad ⟨zad ⟨(za6 M).bs,(za6 M).ns.set i ⟨name,0,[]⟩⟩,(za6 M).ns.set i ⟨name,0,[]⟩⟩=zad ⟨(za6 M).bs,(za6 M).ns.set i ⟨name,0,[]⟩⟩ from zti (g:=⟨(za6 M).bs,(za6 M).ns.set i ⟨name,0,[]⟩⟩) hg1.nl,hM1]
    exact yho h.ok.ml (zcb hg1.bl hg1.nl)
   have ee:zlb M name=(0,M1):=by
    unfold zlb
    rw[zp hf,hcv,zp rfl]
    show((zag (za6 (zbx M 6144 (zad ⟨(za6 M).bs,(za6 M).ns.set i ⟨name,0,[]⟩⟩))) (i:Int) 0).1,zbz (zbx M 6144 (zad ⟨(za6 M).bs,(za6 M).ns.set i ⟨name,0,[]⟩⟩)) (zag (za6 (zbx M 6144 (zad ⟨(za6 M).bs,(za6 M).ns.set i ⟨name,0,[]⟩⟩))) (i:Int) 0))=(0,M1)
    rw[← hM1,rz,sm]
   have fn:=ye5 gg i8 fi ab
   have en:zaa (zab M1)=(za6 M).ns.set i ⟨name,0,[]⟩:=congrArg RG.ns hr
   have ll:=zqv h iv.ok hs
   have ex:zka M name=((zdy M:Int),0,zdb M1 (zdy M) ((i:Int)+1) 0):=by
    rw[ec,ee,zn (by simp)]
    show zjx M1 name=_
    rw[zzn (by rw[yia iv.ok,en];exact fn.1) (by rw[ll];exact hl),ll,yh8 iv.ok,en,fn.2]
   rw[zvp ex,hcv,zn (by show ¬(0:Int)=122;omega),zp rfl]
   show((zdy M:Int),0,zdb M1 (zdy M) ((i:Int)+1) 0)=((zdy M:Int),0,zdb (zbx M 6144 (zad ⟨(za6 M).bs,(za6 M).ns.set i ⟨name,0,[]⟩⟩)) (zdy M) ((i:Int)+1) 0)∧Inv (zdb (zbx M 6144 (zad ⟨(za6 M).bs,(za6 M).ns.set i ⟨name,0,[]⟩⟩)) (zdy M) ((i:Int)+1) 0)
   rw[← hM1]
   refine⟨rfl,iv.cells (by omega) l4 _ _ (.inr ⟨by omega,by omega,?_⟩)⟩
   rw[en,show((i:Int)+1-1).toNat=i by omega,zcq gg.nl i8,zp rfl]
   exact decide_eq_true hne
  ·have c4:zae (za6 M) name=(124,0,za6 M):=by
    unfold zae at hc ⊢
    rw[zp ab] at hc ⊢
    cases hfr:zg7 (za6 M).ns with
    | none=>rfl
    | some i=>rw[hfr] at hc;exact absurd rfl hc
   have ee:zlb M name=(124,M):=by
    unfold zlb
    rw[zp hf,c4,zn (by show ¬(124:Int)=0;omega)]
   have ex:zka M name=(0,124,M):=by
    rw[ec,ee,zp (by show(124:Int)≠0;omega)]
   rw[zpp ex (by omega),c4,zn (by show ¬(124:Int)=122;omega),zn (by show ¬(124:Int)=0;omega)]
   exact⟨rfl,h⟩
 ·have f0:za5 (zaa (zab M)) name=0:=by
   unfold za5 at hf ⊢
   rw[zn n0] at hf ⊢
   split
   ·rfl
   ·rename_i hno
    rw[zn hno] at hf
    exact absurd rfl hf
  have ab:za2 (za6 M).ns name=122:=by
   unfold za2
   rw[zp (show za5 (za6 M).ns name=0 from f0)]
  have c1:(zae (za6 M) name).1=122:=by
   unfold zae
   rw[zn (by rw[ab];omega)]
   exact ab
  rw[zp c1]
  have ee:zlb M name=((zag (za6 M) (zbi (zaa (zab M)) name:Nat) 0).1,zbz M (zag (za6 M) (zbi (zaa (zab M)) name:Nat) 0)):=by
   unfold zlb
   rw[zn hf,zp f0]
  have sim:=fun e=>zjq gg (zbi (zaa (zab M)) name:Nat) 0 e
  have st:=h.sim sim
  have sy:=(h.ok.sim sim).2
  by_cases hz:(zag (za6 M) (zbi (zaa (zab M)) name:Nat) 0).1=0
  ·rw[zp hz]
   generalize hM1:zbz M (zag (za6 M) (zbi (zaa (zab M)) name:Nat) 0)=M1 at *
   rw[hz] at ee
   have fs:=ybb (ns:=zaa (zab M)) (ns':=zaa (zab M1)) (fun j hj=>sy.nm j hj) name
   have ll:=zqv h st.1.ok st.2
   have ex:zka M name=((zdy M:Int),0,zdb M1 (zdy M) ((zbi (zaa (zab M)) name:Int)+1) 0):=by
    rw[ec,ee,zn (by simp)]
    show zjx M1 name=_
    rw[zzn (by rw[yia st.1.ok,fs.1];exact f0) (by rw[ll];exact hl),ll,yh8 st.1.ok,fs.2]
   rw[zvp ex]
   refine⟨rfl,st.1.cells (by omega) l4 _ _ (.inr ?_)⟩
   obtain⟨_,i,hi⟩:=findE_zero.1 f0
   obtain⟨i8,fi,_⟩:=zcp hi
   have en:zbi (zaa (zab M)) name=i:=by unfold zbi;rw[n1,hi];rfl
   rw[en]
   refine⟨by omega,by omega,?_⟩
   rw[show((i:Int)+1-1).toNat=i by omega]
   have:=sy.isF i8
   exact this.trans fi
  ·rw[zn hz]
   have ex:zka M name=(0,(zag (za6 M) (zbi (zaa (zab M)) name:Nat) 0).1,zbz M (zag (za6 M) (zbi (zaa (zab M)) name:Nat) 0)):=by
    rw[ec,ee,zp hz]
   rw[zpp ex hz]
   exact⟨rfl,h⟩
theorem yd6 (hm:M.length=8192){k:Nat} (k1:1≤k)(k4:k≤4)(a b:Int){R:List UInt8}:zbx (zdb M k a b) 6144 R=zdb (zbx M 6144 R) k a b:=by
 have hb:=zhx k1 k4
 refine za7 (by rw[zbd,zen,zen,zbd]) fun i hi=>?_
 rw[zbd,zen,hm] at hi
 rw[zbs _ _ _ _ (by rw[zen,hm];exact hi)]
 by_cases c:hA k≤i∧(i:Int)<hA k+16
 ·rw[zn (by omega)]
  have m1:(zgs M (hA k) a).length=8192:=by rw[ze3,hm]
  have m2:(zbx M 6144 R).length=8192:=by rw[zbd,hm]
  have m3:(zgs (zbx M 6144 R) (hA k) a).length=8192:=by rw[ze3,m2]
  unfold zdb
  rw[zit (zgs M (hA k) a) (hA k+8) b i (by omega) (by omega),zit (zgs (zbx M 6144 R) (hA k) a) (hA k+8) b i (by omega) (by omega)]
  by_cases c2:hA k+8≤i
  ·rw[zp (by omega),zp (by omega)]
  ·rw[zn (by omega),zn (by omega),zit M (hA k) a i (by omega) (by omega),zit (zbx M 6144 R) (hA k) a i (by omega) (by omega),zp (by omega),zp (by omega)]
 ·rw[zg4 k1 a b (by rw[hm];exact hi) (by omega),zg4 k1 a b (by rw[zbd,hm];exact hi) (by omega),zbs _ _ _ _ (by rw[hm];exact hi)]
def zvq (M:List UInt8) (n:Int):Nat→List UInt8
 | 0=>M
 | k+1=>if hF M (k+1)=n+1 then zdb (zvq M n k) (k+1) 0 0 else zvq M n k
theorem zkc (hm:M.length=8192)(n:Int):∀ k,k≤4→(zvq M n k).length=8192∧zab (zvq M n k)=zab M∧(∀ x,1≤x→x≤4→k<x→hF (zvq M n k) x=hF M x)∧∀ x,1≤x→x≤k→hF (zvq M n k) x=if hF M x=n+1 then 0 else hF M x
 | 0,_=>⟨hm,rfl,fun _ _ _ _=>rfl,fun x h1 h2=>by omega⟩
 | k+1,hk=>by
  obtain⟨i1,i2,i3,i4⟩:=zkc hm n k (by omega)
  unfold zvq
  by_cases c:hF M (k+1)=n+1
  ·rw[zp c]
   refine⟨by rw[zen];exact i1,by rw[ziy i1 (by omega) (by omega)];exact i2,fun x x1 x4 hx=>by rw[ze4 i1 (by omega) x1 x4 (by omega)];exact i3 x x1 x4 (by omega),fun x x1 hx=>?_⟩
   by_cases e:x=k+1
   ·subst e
    rw[zie i1 (by omega) (by omega) 0 0 (by omega),zp c]
   ·rw[ze4 i1 (by omega) x1 (by omega) e]
    exact i4 x x1 (by omega)
  ·rw[zn c]
   refine⟨i1,i2,fun x x1 x4 hx=>i3 x x1 x4 (by omega),fun x x1 hx=>?_⟩
   by_cases e:x=k+1
   ·subst e
    rw[i3 _ x1 (by omega) (by omega),zn c]
   ·exact i4 x x1 (by omega)
theorem ybw (hm:M.length=8192){R:List UInt8} (n:Int):∀ k,k≤4→zrz (zbx M 6144 R) n k=zbx (zvq M n k) 6144 R
 | 0,_=>rfl
 | k+1,hk=>by
  obtain⟨i1,i2,i3,_⟩:=zkc hm n k (by omega)
  unfold zrz zvq
  rw[ybw hm n k (by omega),zg5 i1 (by omega) (by omega),i3 (k+1) (by omega) (by omega) (by omega)]
  split
  ·rw[yd6 i1 (by omega) (by omega)]
  ·rfl
theorem ybv (h:Inv M){n:Int} (hn:0≤n):∀ k,k≤4→zob M n (opK M k)=zvq M n k
 | 0,_=>rfl
 | k+1,hk=>by
  have ih:=ybv h hn k (by omega)
  unfold opK zvq
  rw[h.isOp (by omega) (by omega)]
  cases hO:isO M (k+1) with
  | true =>
   rw[zp rfl,zmt,ih]
   obtain⟨x,e,h1,h8,_⟩:=zmj hO
   have e2:=yhv e h1 h8
   by_cases c:hF M (k+1)=n+1
   ·rw[zp c,zp (by omega)]
   ·rw[zn c,zn (by omega)]
  | false =>
   have h0:hF M (k+1)=0:=by
    rcases h.hd (k+1) (by omega) (by omega) with g | g
    ·exact g
    ·rw[hO] at g;cases g
   rw[zn (by simp),zn (by omega),ih]
theorem zvm (h:Inv M)(name:List UInt8):yfb M name=ycv M name∧Inv (ycv M name).2:=by
 have gg:=h.ok.good
 have er:(za6 M).ns=zaa (zab M):=rfl
 have hE:=yia h.ok name
 unfold yfb ycv
 rw[zn (fun x=>x h.ok.ok),hE]
 by_cases f0:za5 (zaa (zab M)) name=0
 ·have rv:(zbk (za6 M) name).1=0:=by
   unfold zbk
   rw[zp (show za5 (za6 M).ns name=0 from f0)]
  obtain⟨i,hi,i8,he,hg⟩:=zse gg name rv
  rw[zn (fun x=>x rv),zn (fun x=>x f0),he]
  obtain⟨n1,_,_⟩:=findE_zero.1 f0
  have en:fN M name=i:=by
   rw[yh8 h.ok]
   unfold zbi
   rw[n1,show zdk (zaa (zab M)) name=some i from hi]
   rfl
  rw[en]
  have e1:=ybw h.ok.ml (R:=zad ⟨(za6 M).bs,(za6 M).ns.set i in0⟩) (i:Int) 4 (by omega)
  have e2:zob M (i:Int) (opL M)=zvq M (i:Int) 4:=ybv h (by omega) 4 (by omega)
  have e3:zbz (zob M (i:Int) (opL M)) (0,⟨(za6 M).bs,(za6 M).ns.set i in0⟩)=zbx (zvq M (i:Int) 4) 6144 (zad ⟨(za6 M).bs,(za6 M).ns.set i in0⟩):=by
   rw[e2]
   exact zp rfl
  show(0,zrz (zbx M 6144 (zad ⟨(za6 M).bs,(za6 M).ns.set i in0⟩)) (i:Int) 4)=(0,zbz (zob M (i:Int) (opL M)) (0,⟨(za6 M).bs,(za6 M).ns.set i in0⟩))∧Inv (zbz (zob M (i:Int) (opL M)) (0,⟨(za6 M).bs,(za6 M).ns.set i in0⟩))
  rw[e1,e3]
  refine⟨rfl,?_⟩
  obtain⟨i1,i2,_,i4⟩:=zkc h.ok.ml (i:Int) 4 (by omega)
  have hh:=Has.lay i1 hg
  have en2:zaa (zab (zbx (zvq M (i:Int) 4) 6144 (zad ⟨(za6 M).bs,(za6 M).ns.set i in0⟩)))=(za6 M).ns.set i in0:=congrArg RG.ns hh.eq
  refine⟨⟨hh.ml,hh.ok⟩,fun x x1 x4=>?_⟩
  rw[zg5 i1 x1 x4,i4 x x1 x4]
  by_cases c:hF M x=(i:Int)+1
  ·rw[zp c];exact .inl rfl
  ·rw[zn c]
   rcases h.hd x x1 x4 with g | g
   ·exact .inl g
   ·right
    obtain⟨y,e,a1,a8,an⟩:=zmj g
    refine zu1 (x:=y) (by rw[zg5 i1 x1 x4,i4 x x1 x4,zn c];exact e) a1 a8 ?_
    rw[en2,zcq gg.nl i8,zn (by omega)]
    exact an
 ·have rv:(zbk (za6 M) name).1=za5 (zaa (zab M)) name:=by
   unfold zbk
   rw[zn (show ¬za5 (za6 M).ns name=0 from f0)]
   rfl
  rw[zp (by rw[rv];exact f0),zp f0,rv]
  exact⟨rfl,h⟩
theorem zju {x y:Int × List UInt8} {M' R':List UInt8} {β:Bool} (q:QI x y M' R' β)(e:x=y)(h:Inv y.2):β=true∧M'=R'∧Inv R':=by
 obtain⟨q1,rfl,rfl⟩:=q
 subst e
 exact⟨q1 rfl,rfl,h⟩
theorem zk2 {x y:Int × Int × List UInt8} {M' R':List UInt8} {β:Bool} (q:QII x y M' R' β)(e:x=y)(h:Inv y.2.2):β=true∧M'=R'∧Inv R':=by
 obtain⟨q1,rfl,rfl⟩:=q
 subst e
 exact⟨q1 rfl rfl,rfl,h⟩
theorem yg8 {x y:List UInt8 × Int × List UInt8} {M' R':List UInt8} {β:Bool} (q:QR x y M' R' β)(e:x=y)(h:Inv y.2.2):β=true∧M'=R'∧Inv R':=by
 obtain⟨q1,rfl,rfl⟩:=q
 subst e
 exact⟨q1 rfl rfl,rfl,h⟩
theorem ycg (h:Inv M){a:HAct} {M' R':List UInt8} {β:Bool} (q:ActQ a M M M' R' β):β=true∧M'=R'∧Inv R':=by
 rcases q with⟨_,q⟩|⟨_,q⟩|⟨_,q⟩|⟨_,q⟩|⟨_,q⟩|⟨_,q⟩|⟨_,q⟩|⟨_,q⟩|⟨_,q⟩|⟨_,q⟩ | q
 ·exact zk2 q (zvo h _).1 (zvo h _).2
 ·exact zk2 q rfl (yhg h _)
 ·exact zju q rfl (yij h _)
 ·exact yg8 q (zt7 h _ _).1 (zt7 h _ _).2
 ·exact zju q (ztu h _ _).1 (ztu h _ _).2
 ·exact zk2 q rfl (ygv h _)
 ·exact zju q rfl (yg1 h _ _)
 ·exact zk2 q rfl (yhd h _)
 ·exact zju q (zt3 h _ _).1 (zt3 h _ _).2
 ·exact zju q (zvm h _).1 (zvm h _).2
 ·exact zju q rfl (yg3 h _ _)
end Go.Proofs.YtdopfpcjpjlkmaaGreatDoor.Hd
