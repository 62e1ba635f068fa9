/- merged -/
import Derived.Test.YtdopfpcjpjlkmaaGreatDoorGFc
set_option maxHeartbeats 2000000
set_option maxRecDepth 100000
set_option linter.unusedSimpArgs false
set_option linter.unusedVariables false
namespace Go.Proofs.YtdopfpcjpjlkmaaGreatDoor
namespace Fs
open Go.RowKit Ex Ino Mm
theorem zln (ns:List IN)(b:Nat):∀ pre,(zes ns pre).testBit b=true↔∃ i∈pre,b∈za4 (at' ns i).ext:=zgc (by simp[zes]) fun q i ih=>by
 rw[zhe,Nat.testBit_or,Bool.or_eq_true,ih,zha,zbv,decide_eq_true_iff]
 constructor
 ·rintro(⟨j,hj,h⟩ | h)
  ·exact⟨j,List.mem_append_left _ hj,h⟩
  ·exact⟨i,by simp,h⟩
 ·rintro⟨j,hj,h⟩
  rcases List.mem_append.1 hj with hj | hj
  ·exact .inl ⟨j,hj,h⟩
  ·rw[List.mem_singleton] at hj
   subst hj
   exact .inr h
theorem yfw (a b:Nat):a &&& b=0↔∀ i,b.testBit i=true→¬a.testBit i=true:=by
 constructor
 ·intro h i hb ha
  have:=congrArg (fun n=>n.testBit i) h
  simp only[Nat.testBit_and,Nat.zero_testBit,ha,hb] at this
  cases this
 ·intro h
  refine zjh fun i=>?_
  rw[Nat.testBit_and,Nat.zero_testBit]
  cases hb:b.testBit i with
  | false=>simp
  | true =>
   have:=h i hb
   simp only[Bool.not_eq_true] at this
   rw[this]
   rfl
def Sep (ns:List IN) (i j:Nat):Prop:=(at' ns i).name≠(at' ns j).name∧∀ b∈za4 (at' ns i).ext,b ∉ za4 (at' ns j).ext
theorem Sep.symm {ns:List IN} {i j:Nat} (h:Sep ns i j):Sep ns j i:=⟨fun e=>h.1 e.symm,fun b hb hc=>h.2 b hc hb⟩
theorem zyc (ns:List IN)(q:List Nat)(i:Nat):zjk ns q i=true↔∀ j∈q,Sep ns j i:=by
 unfold zjk
 rw[Bool.and_eq_true,decide_eq_true_iff,yfw,Bool.not_eq_true',List.contains_eq_mem,decide_eq_false_iff_not]
 constructor
 ·rintro⟨h1,h2⟩ j hj
  refine⟨fun e=>h1 (List.mem_map.2 ⟨j,hj,e⟩),fun b hb hc=>?_⟩
  exact h2 b (by rw[zha,zbv];exact decide_eq_true hc) ((zln ns b q).2 ⟨j,hj,hb⟩)
 ·intro h
  refine⟨fun hm=>?_,fun b hb hu=>?_⟩
  ·obtain⟨j,hj,e⟩:=List.mem_map.1 hm
   exact(h j hj).1 e
  ·rw[zha,zbv,decide_eq_true_iff] at hb
   obtain⟨j,hj,hc⟩:=(zln ns b q).1 hu
   exact(h j hj).2 b hc hb
theorem ztn (ns:List IN):∀ pre,zjj ns pre↔pre.Pairwise (Sep ns):=zgc (by simp[zog]) fun q i ih=>by
 rw[zil,ih,zyc,List.pairwise_append]
 simp
theorem zi0 {R:Nat→Nat→Prop}:∀ {l:List Nat},l.Pairwise (· < ·)→(l.Pairwise R↔∀ i∈l,∀ j∈l,i<j→R i j)
 | [],_=>by simp
 | a::l,h=>by
  obtain⟨h1,h2⟩:=List.pairwise_cons.1 h
  rw[List.pairwise_cons,zi0 h2]
  constructor
  ·rintro⟨k1,k2⟩ i hi j hj hlt
   rcases List.mem_cons.1 hi with e1 | hi2
   ·subst e1
    rcases List.mem_cons.1 hj with e2 | hj2
    ·omega
    ·exact k1 j hj2
   ·rcases List.mem_cons.1 hj with e2 | hj2
    ·have:=h1 i hi2;omega
    ·exact k2 i hi2 j hj2 hlt
  ·intro k
   exact⟨fun j hj=>k a (by simp) j (by simp[hj]) (h1 j hj),fun i hi j hj hlt=>k i (by simp[hi]) j (by simp[hj]) hlt⟩
theorem yan (ns:List IN):(zhw ns).Pairwise (· < ·):=List.Pairwise.filter _ List.pairwise_lt_range
theorem idxL_mem {ns:List IN} {i:Nat}:i∈zhw ns↔i<8∧isF (at' ns i)=true:=by simp[zhw]
def ztr (ns:List IN):Prop:=∀ i j,i<8→j<8→i≠j→isF (at' ns i)=true→isF (at' ns j)=true→Sep ns i j
theorem zmz (ns:List IN):zjj ns (zhw ns)↔ztr ns:=by
 rw[ztn,zi0 (yan ns)]
 constructor
 ·intro h i j hi hj hne fi fj
  rcases Nat.lt_or_gt_of_ne hne with h1 | h1
  ·exact h i (idxL_mem.2 ⟨hi,fi⟩) j (idxL_mem.2 ⟨hj,fj⟩) h1
  ·exact(h j (idxL_mem.2 ⟨hj,fj⟩) i (idxL_mem.2 ⟨hi,fi⟩) h1).symm
 ·intro h i hi j hj hlt
  exact h i j (idxL_mem.1 hi).1 (idxL_mem.1 hj).1 (by omega) (idxL_mem.1 hi).2 (idxL_mem.1 hj).2
theorem zer (ns:List IN)(b:Nat):(zao ns).testBit b=true↔∃ i,i<8∧isF (at' ns i)=true∧b∈za4 (at' ns i).ext:=by
 unfold zao
 rw[zln]
 constructor
 ·rintro⟨i,hi,h⟩
  exact⟨i,(idxL_mem.1 hi).1,(idxL_mem.1 hi).2,h⟩
 ·rintro⟨i,h1,h2,h3⟩
  exact⟨i,idxL_mem.2 ⟨h1,h2⟩,h3⟩
end Fs
namespace Fs
open Go.RowKit Ex Ino Mm
structure RGood (g:RG):Prop where
 bl:g.bs.length=2048
 nl:g.ns.length=8
 nd:∀ i,i<8→at' g.ns i=in0∨zd6 (at' g.ns i)=true
 ap:ztr g.ns
theorem zbw (bs:List UInt8){i:Nat} (h:i<8):at' (zaa bs) i=zdx (zaw bs (1+i)):=by
 unfold at' zaa
 simp[List.getD_eq_getElem?_getD,h]
theorem zij (b:List UInt8):zdx b=in0∨zd6 (zdx b)=true:=by
 unfold zdx
 by_cases h:zfg b=true
 ·rw[zp h]
  unfold zfg at h
  simp only[Bool.and_eq_true] at h
  exact .inr h.1
 ·rw[zn h]
  exact .inl rfl
theorem zfr {M:List UInt8} (hm:M.length=8192)(h:okP M):RGood ⟨zab M,zaa (zab M)⟩:=by
 refine⟨by simp[zab,hm],zbp _,fun i hi=>?_,?_⟩
 ·simp only[zbw _ hi]
  exact zij _
 ·exact(zmz _).1 h.2.1
theorem yb0:zd6 in0=false:=by simp[zd6,in0,zbg]
theorem zi7:zcf in0=zr64:=by simp[zcf,zrd,yb0,padB,zr64]
theorem zf1 {x:IN} (h:zd6 x=true):zcf x=zdr x:=by
 unfold zcf padB zrd
 rw[zp h,zay]
 simp
theorem zre {x:IN} (h:x=in0∨zd6 x=true):zdx (zcf x)=x∧zf7 (zcf x)=0:=by
 rcases h with rfl | h
 ·rw[zi7]
  exact⟨by simp[zdx,zmk],zmr⟩
 ·rw[zf1 h]
  unfold zdx zf7
  rw[yed h]
  exact⟨by rw[zp rfl,(zk0 h).1],rfl⟩
theorem flat_len (ns:List IN):(ns.flatMap zcf).length=64*ns.length:=by
 induction ns with
 | nil=>rfl
 | cons x r ih=>rw[List.flatMap_cons,List.length_append,zcn,ih,List.length_cons];omega
theorem zcb {g:RG} (h1:g.bs.length=2048)(h2:g.ns.length=8):(zad g).length=2048:=by
 unfold zad
 rw[List.length_append,List.length_append,zbj,flat_len,List.length_drop]
 omega
theorem zqq:∀ (ns:List IN) (r:List UInt8) (i:Nat),i<ns.length→zaw (ns.flatMap zcf++r) i=zcf (at' ns i)
 | [],_,_,h=>by simp at h
 | x::ns,r,0,_=>by
  unfold zaw
  rw[List.flatMap_cons,List.append_assoc,Nat.zero_mul,List.drop_zero,List.take_append_of_le_length (by rw[zcn];exact Nat.le_refl _),List.take_of_length_le (by rw[zcn];exact Nat.le_refl _)]
  rfl
 | x::ns,r,i+1,h=>by
  have ih:=zqq ns r i (by simpa using h)
  unfold zaw at ih ⊢
  rw[List.flatMap_cons,List.append_assoc,show(i+1)*64=(zcf x).length+i*64 by rw[zcn];omega,List.drop_append,List.drop_of_length_le (by omega),List.nil_append,show(zcf x).length+i*64-(zcf x).length=i*64 by omega,ih]
  rfl
theorem zl5 {h r:List UInt8} (hl:h.length=64)(i:Nat):zaw (h++r) 0=h∧zaw (h++r) (1+i)=zaw r i:=by
 unfold zaw
 constructor
 ·rw[Nat.zero_mul,List.drop_zero,List.take_append_of_le_length (by omega),List.take_of_length_le (by omega)]
 ·rw[show(1+i)*64=h.length+i*64 by omega,List.drop_append,List.drop_of_length_le (by omega),List.nil_append,show h.length+i*64-h.length=i*64 by omega]
theorem zgo (g:RG):zaw (zad g) 0=zb7 (zao g.ns):=(zl5 (zbj _) 0).1
theorem zde {g:RG} (h:g.ns.length=8){i:Nat} (hi:i<8):zaw (zad g) (1+i)=zcf (at' g.ns i):=by
 unfold zad
 rw[(zl5 (zbj _) i).2,zqq _ _ _ (by omega)]
theorem zdf {g:RG} (h:g.ns.length=8){b:Nat} (hb:9≤b):zaw (zad g) b=zaw g.bs b:=by
 obtain⟨k,rfl⟩:∃ k,b=1+(8+k):=⟨b-9,by omega⟩
 unfold zad
 rw[(zl5 (zbj _) _).2]
 unfold zaw
 rw[show(8+k)*64=(g.ns.flatMap zcf).length+k*64 by rw[flat_len,h];omega,List.drop_append,List.drop_of_length_le (by omega),List.nil_append,show(g.ns.flatMap zcf).length+k*64-(g.ns.flatMap zcf).length=k*64 by omega,List.drop_drop]
 congr 2
 omega
theorem yab {ns ms:List IN} (h1:ns.length=8)(h2:ms.length=8)(h:∀ i,i<8→at' ns i=at' ms i):ns=ms:=by
 apply List.ext_getElem (by omega)
 intro i h3 h4
 have:=h i (by omega)
 unfold at' at this
 rw[List.getD_eq_getElem?_getD,List.getD_eq_getElem?_getD,List.getElem?_eq_getElem h3,List.getElem?_eq_getElem h4] at this
 simpa using this
theorem zwr {g:RG} (h:RGood g):zaa (zad g)=g.ns∧decP (zad g)∧zlm ⟨zad g,g.ns⟩:=by
 refine⟨yab (zbp _) h.nl fun i hi=>?_,fun i hi=>?_,(zmz _).2 h.ap,zgo g⟩
 ·rw[zbw _ hi,zde h.nl hi,(zre (h.nd i hi)).1]
 ·rw[zde h.nl hi,(zre (h.nd i hi)).2]
theorem ydj {M xs:List UInt8} (hm:M.length=8192)(hx:xs.length=2048):zab (zbx M 6144 xs)=xs:=by
 refine za7 (by simp[zab,zbd,hm,hx]) fun k hk=>?_
 have hk':k<2048:=by simpa [zab,zbd,hm] using hk
 have e:(zab (zbx M 6144 xs)).getD k 0=(zbx M 6144 xs).getD (6144+k) 0:=by
  unfold zab
  simp only[List.getD_eq_getElem?_getD,List.getElem?_drop]
 rw[e,zbs _ _ _ _ (by omega),zp (by omega),zcl _ _ (by omega)]
 congr 1
 omega
theorem zza {M:List UInt8} {g:RG} (hm:M.length=8192)(h:RGood g):okP (zbx M 6144 (zad g))∧zab (zbx M 6144 (zad g))=zad g∧zaa (zad g)=g.ns:=by
 obtain⟨h1,h2,h3⟩:=zwr h
 have e:=ydj hm (zcb h.bl h.nl)
 refine⟨?_,e,h1⟩
 unfold okP
 rw[e,h1]
 exact⟨h2,h3⟩
theorem RGood.again {g:RG} (h:RGood g):RGood ⟨zad g,g.ns⟩:=⟨zcb h.bl h.nl,h.nl,h.nd,h.ap⟩
end Fs
namespace Fs
open Go.RowKit Ex Ino Mm
theorem zcq {ns:List IN} (h:ns.length=8){i:Nat} (hi:i<8)(x:IN)(j:Nat):at' (ns.set i x) j=if j=i then x else at' ns j:=by
 unfold at'
 rw[List.getD_eq_getElem?_getD,List.getElem?_set]
 by_cases e:i=j
 ·subst e
  simp[h,hi]
 ·rw[zn e,zn (fun e'=>e e'.symm),List.getD_eq_getElem?_getD]
theorem zsu {x:IN} (h:zd6 x=true):isF x=true:=by
 have:=(zck h).1.1
 unfold isF
 rw[decide_eq_true_iff]
 intro e
 rw[e] at this
 simp at this
theorem yai:isF in0=false:=rfl
theorem RGood.isF_iff {g:RG} (h:RGood g){i:Nat} (hi:i<8):isF (at' g.ns i)=true↔zd6 (at' g.ns i)=true:=by
 rcases h.nd i hi with e | e
 ·rw[e,yai,yb0]
 ·exact⟨fun _=>e,fun _=>zsu e⟩
theorem RGood.free {g:RG} (h:RGood g){i:Nat} (hi:i<8)(hn:(at' g.ns i).name=[]):at' g.ns i=in0:=by
 rcases h.nd i hi with e | e
 ·exact e
 ·have:=zsu e
  unfold isF at this
  rw[decide_eq_true_iff] at this
  exact absurd hn this
theorem zk8 {g:RG} (h:RGood g){i:Nat} (hi:i<8){x:IN} (hx:x=in0∨zd6 x=true){bs:List UInt8} (hb:bs.length=2048)
  (hs:isF x=true→∀ j,j<8→j≠i→isF (at' g.ns j)=true→x.name≠(at' g.ns j).name∧∀ b∈za4 x.ext,b ∉ za4 (at' g.ns j).ext):RGood ⟨bs,g.ns.set i x⟩:=by
 refine⟨hb,by simp[h.nl],fun j hj=>?_,fun j k hj hk hne fj fk=>?_⟩
 ·simp only[zcq h.nl hi]
  split
  ·exact hx
  ·exact h.nd j hj
 ·simp only[zcq h.nl hi] at fj fk ⊢
  unfold Sep
  rw[zcq h.nl hi,zcq h.nl hi]
  by_cases e1:j=i
  ·subst e1
   rw[zp rfl] at fj
   rw[zn (fun e=>hne e.symm)] at fk
   rw[zp rfl,zn (fun e=>hne e.symm)]
   exact hs fj k hk (fun e=>hne e.symm) fk
  ·rw[zn e1] at fj
   rw[zn e1]
   by_cases e2:k=i
   ·subst e2
    rw[zp rfl] at fk
    rw[zp rfl]
    have:=hs fk j hj e1 fj
    exact⟨fun e=>this.1 e.symm,fun b h1 h2=>this.2 b h2 h1⟩
   ·rw[zn e2] at fk
    rw[zn e2]
    exact h.ap j k hj hk hne fj fk
theorem zcp {ns:List IN} {name:List UInt8} {i:Nat} (h:zdk ns name=some i):i<8∧isF (at' ns i)=true∧(at' ns i).name=name:=by
 have h1:=List.find?_some h
 have h2:=List.mem_of_find?_eq_some h
 rw[idxL_mem] at h2
 exact⟨h2.1,h2.2,by simpa using h1⟩
theorem zf3 {ns:List IN} {name:List UInt8} (h:zdk ns name=none){i:Nat} (hi:i<8)(hf:isF (at' ns i)=true):(at' ns i).name≠name:=by
 have:=List.find?_eq_none.1 h i (idxL_mem.2 ⟨hi,hf⟩)
 simpa using this
theorem findE_zero {ns:List IN} {name:List UInt8}:za5 ns name=0↔zbg name=true∧∃ i,zdk ns name=some i:=by
 unfold za5
 cases zbg name with
 | false=>simp
 | true =>
  cases zdk ns name with
  | none=>simp
  | some i=>simp
theorem findE_miss {ns:List IN} {name:List UInt8}:za5 ns name=123↔zbg name=true∧zdk ns name=none:=by
 unfold za5
 cases zbg name with
 | false=>simp
 | true =>
  cases zdk ns name with
  | none=>simp
  | some i=>simp
theorem absent_zero {ns:List IN} {name:List UInt8}:za2 ns name=0↔zbg name=true∧zdk ns name=none:=by
 unfold za2
 rw[← findE_miss]
 by_cases h0:za5 ns name=0
 ·rw[zp h0,h0]
  simp
 ·rw[zn h0]
  by_cases h1:za5 ns name=123
  ·rw[zp h1]
   simp[h1]
  ·rw[zn h1]
   simp[h0,h1]
theorem nodeE_zero {ns:List IN} {n:Int}:za1 ns n=0↔(0≤n∧n<8)∧isF (at' ns n.toNat)=true:=by
 unfold za1 isF
 by_cases h:n<0∨8≤n
 ·rw[zp h]
  constructor
  ·intro e;cases e
  ·rintro⟨⟨_,_⟩,_⟩;omega
 ·rw[zn h]
  by_cases h1:(at' ns n.toNat).name=[]
  ·rw[zp h1]
   simp[h1]
  ·rw[zn h1]
   simp only[h1,ne_eq,not_false_eq_true,decide_true,and_true,true_iff]
   omega
theorem zi8 {s:List UInt8} (h:zbg s=true):s≠[]:=by
 unfold zbg at h
 simp only[Bool.and_eq_true,decide_eq_true_eq] at h
 intro e
 rw[e] at h
 simp at h
theorem yf5:ok []=true:=rfl
theorem yfq:za4 []=[]:=rfl
theorem ybz {name:List UInt8} (h:zbg name=true):zd6 ⟨name,0,[]⟩=true:=by
 unfold zd6
 simp[h,yf5,yfq,zbq]
theorem zq9 {ns:List IN} {i:Nat} (h:zg7 ns=some i):i<8∧(at' ns i).name=[]:=by
 have h1:=List.find?_some h
 have h2:=List.mem_of_find?_eq_some h
 exact⟨by simpa using h2,by simpa using h1⟩
theorem zik {g:RG} (h:RGood g)(name:List UInt8)(he:(zae g name).1=0):
  ∃ i,zg7 g.ns=some i∧za2 g.ns name=0∧zae g name=(0,i,⟨g.bs,g.ns.set i ⟨name,0,[]⟩⟩)∧RGood ⟨g.bs,g.ns.set i ⟨name,0,[]⟩⟩:=by
 unfold zae at he ⊢
 by_cases ha:za2 g.ns name=0
 ·rw[zp ha] at he
  rw[zp ha]
  cases hf:zg7 g.ns with
  | none=>rw[hf] at he;cases he
  | some i =>
   obtain⟨hi,hn⟩:=zq9 hf
   obtain⟨h1,h2⟩:=absent_zero.1 ha
   refine⟨i,rfl,ha,?_,zk8 h hi (.inr (ybz h1)) h.bl fun _ j hj hne fj=>⟨fun e=>zf3 h2 hj fj e.symm,fun b hb=>by cases hb⟩⟩
   simp only[h.free hi hn]
   rfl
 ·rw[zn ha] at he
  exact absurd he ha
theorem zse {g:RG} (h:RGood g)(name:List UInt8)(he:(zbk g name).1=0):
  ∃ i,zdk g.ns name=some i∧i<8∧zbk g name=(0,⟨g.bs,g.ns.set i in0⟩)∧RGood ⟨g.bs,g.ns.set i in0⟩:=by
 unfold zbk at he ⊢
 by_cases hf:za5 g.ns name=0
 ·rw[zp hf]
  obtain⟨h1,i,h2⟩:=findE_zero.1 hf
  have e:zbi g.ns name=i:=by unfold zbi;rw[h1,h2];rfl
  rw[e]
  exact⟨i,h2,(zcp h2).1,rfl,zk8 h (zcp h2).1 (.inl rfl) h.bl fun hx=>by rw[yai] at hx;cases hx⟩
 ·rw[zn hf] at he
  exact absurd he hf
theorem zri {x:IN} (h:zd6 x=true){t:List UInt8} (ht:zbg t=true):zd6 { x with name:=t }=true:=by
 unfold zd6 at h ⊢
 simp only[Bool.and_eq_true] at h ⊢
 exact⟨ht,h.2⟩
theorem zsc {g:RG} (h:RGood g)(f t:List UInt8)(he:(zbe g f t).1=0):
  ∃ i,zdk g.ns f=some i∧i<8∧za2 g.ns t=0∧zbe g f t=(0,⟨g.bs,g.ns.set i { at' g.ns i with name:=t }⟩)∧RGood ⟨g.bs,g.ns.set i { at' g.ns i with name:=t }⟩:=by
 unfold zbe at he ⊢
 by_cases hn:zbg f=false∨zbg t=false
 ·rw[zp hn] at he;cases he
 rw[zn hn] at he ⊢
 by_cases hf:za5 g.ns f=0
 ·rw[zp hf] at he ⊢
  obtain⟨h1,i,h2⟩:=findE_zero.1 hf
  have e:zbi g.ns f=i:=by unfold zbi;rw[h1,h2];rfl
  rw[e] at he ⊢
  by_cases ha:za2 g.ns t=0
  ·rw[zp ha]
   obtain⟨hi,fi,ni⟩:=zcp h2
   obtain⟨g1,g2⟩:=absent_zero.1 ha
   refine⟨i,h2,hi,ha,rfl,zk8 h hi (.inr (zri ((h.isF_iff hi).1 fi) g1)) h.bl fun _ j hj hne fj=>⟨fun e=>zf3 g2 hj fj e.symm,?_⟩⟩
   exact(h.ap i j hi hj (fun e=>hne e.symm) fi fj).2
  ·rw[zn ha] at he
   exact absurd he ha
 ·rw[zn hf] at he
  exact absurd he hf
theorem zhf {l:List EX} (h:ok l=true)(u:Nat){m:Nat} (hm:m≤(zaq l).length):(zbm l u m).2.2=0∧ok (zbm l u m).1=true∧zaq (zbm l u m).1=(zaq l).take m:=by
 have e:zbm l u m=(zc4 [] ((zaq l).take m),zkv u (zb2 ((zaq l).drop m)),0):=by
  unfold zbm
  rw[zn (by rw[h];rintro(h | h | h);cases h;omega;omega),Int.toNat_natCast]
 rw[e]
 have:=zs9 ((zaq l).take m) [] rfl (by simpa [zaq] using (zcr l h).take m)
 exact⟨rfl,this.1,by simpa [zaq] using this.2⟩
theorem zph {l:List EX} (h:ok l=true){u:Nat} (hu:∀ b∈zaq l,u.testBit b=true){k:Nat} (hk:k≤(zbh u).length):(zcw l u k).2.2=0∧ok (zcw l u k).1=true∧zaq (zcw l u k).1=zaq l++(zbh u).take k:=by
 have e:zcw l u k=(zc4 l ((zbh u).take k),u ||| zb2 ((zbh u).take k),0):=by
  unfold zcw
  rw[zn (by rw[h];rintro(h | h);cases h;omega),zn (by omega),Int.toNat_natCast]
 rw[e]
 have hg:=(zca u).take k
 have hz:∀ b∈(zbh u).take k,u.testBit b=false:=fun b hb=>(frL_mem.1 (List.mem_of_mem_take hb)).2.2
 have:=zs9 ((zbh u).take k) l h ⟨List.nodup_append.2 ⟨(zcr l h).1,hg.1,fun a ha b hb' e=>by
  subst e
  have h1:=hu a ha
  rw[hz a hb'] at h1
  cases h1⟩,fun b hb'=>by
   rcases List.mem_append.1 hb' with h1 | h1
   ·exact(zcr l h).2 b h1
   ·exact hg.2 b h1⟩
 exact⟨rfl,this⟩
theorem zq6 {l:List EX} (h:ok l=true){u:Nat} {k:Nat} (hk:(zbh u).length<k):(zcw l u k).2.2=50:=by
 unfold zcw
 rw[zn (by rw[h];rintro(h | h);cases h;omega),zp (by omega)]
theorem zjc {l:List EX} (h:ok l=true){u:Nat} (hu:∀ b∈zaq l,u.testBit b=true)(m:Nat):zh1 l u m=0↔m-(zaq l).length≤(zbh u).length:=by
 unfold zh1
 rw[zar h]
 by_cases hlt:(zaq l).length<m
 ·rw[zp hlt,show((m:Int)-((zaq l).length:Int))=((m-(zaq l).length:Nat):Int) by omega]
  by_cases hk:m-(zaq l).length≤(zbh u).length
  ·rw[zp (zph h hu hk).1]
   simp[hk]
  ·rw[zn (by rw[zq6 h (by omega)];decide)]
   constructor
   ·intro e;cases e
   ·intro e;exact absurd e hk
 ·rw[zn hlt]
  have:=(zhf h u (m:=m) (by omega)).1
  rw[this]
  simp only[true_iff]
  omega
theorem zve {l:List EX} (h:ok l=true){u:Nat} (hu:∀ b∈zaq l,u.testBit b=true)(m:Nat):zh1 l u m=0∨zh1 l u m=125:=by
 unfold zh1
 rw[zar h]
 by_cases hlt:(zaq l).length<m
 ·rw[zp hlt]
  split
  ·exact .inl rfl
  ·exact .inr rfl
 ·rw[zn hlt]
  exact .inl (zhf h u (m:=m) (by omega)).1
theorem zih {l:List EX} (h:ok l=true){u:Nat} (hu:∀ b∈zaq l,u.testBit b=true){m:Nat} (he:zh1 l u m=0):
  ok (zd8 l u m)=true∧(zaq (zd8 l u m)).length=m∧zaq (zd8 l u m)=(zaq l).take m++(zbh u).take (m-(zaq l).length):=by
 have hk:=(zjc h hu m).1 he
 unfold zd8
 rw[zar h]
 by_cases hlt:(zaq l).length<m
 ·rw[zp hlt,show((m:Int)-((zaq l).length:Int))=((m-(zaq l).length:Nat):Int) by omega]
  obtain⟨h1,h2,h3⟩:=zph h hu hk
  rw[zp h1,List.take_of_length_le (by omega)]
  refine⟨h2,?_,h3⟩
  rw[h3,List.length_append,List.length_take]
  omega
 ·rw[zn hlt]
  obtain⟨_,h2,h3⟩:=zhf h u (m:=m) (by omega)
  refine⟨h2,by rw[h3,List.length_take];omega,?_⟩
  rw[h3,show m-(zaq l).length=0 by omega]
  simp
theorem zc6 {bs all:List UInt8} (bl:List Nat)(hb:bs.length=2048)(hg:∀ b∈bl,b<32):∀ k,k≤bl.length→64*k≤all.length→(zdv bs bl all k).length=2048
 | 0,_,_=>hb
 | k+1,hk,ha=>by
  have ih:=zc6 (all:=all) bl hb hg k (by omega) (by omega)
  have h1:bl.getD k 0<32:=by
   rw[List.getD_eq_getElem?_getD,List.getElem?_eq_getElem (by omega)]
   exact hg _ (List.getElem_mem _)
  have h2:(zaw all k).length=64:=by unfold zaw;rw[List.length_take,List.length_drop];omega
  show(splice _ _ _).length=_
  unfold splice
  simp only[List.length_append,List.length_take,List.length_drop,h2,ih]
  omega
theorem zdh {bs:List UInt8} (hb:bs.length=2048)(l:List EX):(zam bs l).length=64*(za4 l).length:=by
 unfold zam
 have hg:=fun b hb=>((za3 l).2 b hb).2
 generalize za4 l=bl at *
 induction bl with
 | nil=>rfl
 | cons x r ih =>
  rw[List.flatMap_cons,List.length_append,ih (fun b h=>hg b (by simp[h])),List.length_cons]
  have:=hg x (by simp)
  unfold zaw
  rw[List.length_take,List.length_drop]
  omega
theorem zho (xs:List UInt8)(k size:Nat):(zj8 xs k size).length=k:=by
 unfold zj8
 rw[List.length_append,List.length_replicate,List.length_take]
 omega
theorem RGood.bits {g:RG} (h:RGood g){i:Nat} (hi:i<8)(fi:isF (at' g.ns i)=true):ok (at' g.ns i).ext=true∧∀ b∈zaq (at' g.ns i).ext,(zao g.ns).testBit b=true:=by
 have h1:=(zck ((h.isF_iff hi).1 fi)).2.2.2.1
 refine⟨h1,fun b hb=>(zer _ _).2 ⟨i,hi,fi,by rw[zar h1];exact hb⟩⟩
theorem zfl {n:Int} (h0:0≤n)(h1:n≤1472):0≤zbq n∧zbq n≤23∧n≤zbq n*64∧zbq n*64<n+64:=by
 unfold zbq
 split<;>omega
theorem zfb {g:RG} (h:RGood g){n size:Int} (he:zch g n size=0):
  ((0≤n∧n<8)∧isF (at' g.ns n.toNat)=true)∧(0≤size∧size≤1472)∧zh1 (at' g.ns n.toNat).ext (zao g.ns) (zbq size).toNat=0∧za0 g.ns n=at' g.ns n.toNat∧RGood (zb5 g n size):=by
 unfold zch at he
 by_cases h0:za1 g.ns n≠0
 ·rw[zp h0] at he;exact absurd he h0
 rw[zn h0] at he
 have h0:za1 g.ns n=0:=by simpa using h0
 obtain⟨hn,fn⟩:=nodeE_zero.1 h0
 by_cases h1:size<0
 ·rw[zp h1] at he;cases he
 rw[zn h1] at he
 by_cases h2:1472<size
 ·rw[zp h2] at he;cases he
 rw[zn h2] at he
 have ex:za0 g.ns n=at' g.ns n.toNat:=by unfold za0;rw[zp h0]
 rw[ex] at he
 refine⟨⟨hn,fn⟩,⟨by omega,by omega⟩,he,ex,?_⟩
 obtain⟨b1,b2⟩:=h.bits (show n.toNat<8 by omega) fn
 obtain⟨f1,f2,f3⟩:=zih b1 b2 he
 have nb:=zfl (show 0≤size by omega) (show size≤1472 by omega)
 have hc:=(h.isF_iff (show n.toNat<8 by omega)).1 fn
 unfold zb5
 simp only[ex]
 refine zk8 h (by omega) (.inr ?_) ?_ ?_
 ·unfold zd6 at hc ⊢
  simp only[Bool.and_eq_true,decide_eq_true_eq] at hc ⊢
  rw[zar f1,f2]
  exact⟨hc.1,by omega,by omega,f1,by omega⟩
 ·unfold zbo
  refine zc6 _ h.bl (fun b hb=>((za3 _).2 b hb).2) _ (Nat.le_refl _) ?_
  rw[zho,zar f1,f2]
  omega
 ·intro _ j hj hne fj
  have sp:=h.ap n.toNat j (by omega) hj (fun e=>hne e.symm) fn fj
  refine⟨sp.1,fun b hb hc2=>?_⟩
  simp only at hb
  rw[zar f1,f3] at hb
  rcases List.mem_append.1 hb with hb | hb
  ·exact sp.2 b (by rw[zar b1];exact List.mem_of_mem_take hb) hc2
  ·have h3:=(frL_mem.1 (List.mem_of_mem_take hb)).2.2
   rw[(zer _ _).2 ⟨j,hj,fj,hc2⟩] at h3
   cases h3
theorem zua {g:RG} (h:RGood g){n a:Int} {b:List UInt8} (ha:0≤a)(hf:a.toNat+b.length≤64*(za4 (at' g.ns n.toNat).ext).length):RGood (zpz g n a b):=by
 refine⟨?_,h.nl,h.nd,h.ap⟩
 unfold zpz zbo
 refine zc6 _ h.bl (fun b hb=>((za3 _).2 b hb).2) _ (Nat.le_refl _) ?_
 have hw:=zdh h.bl (at' g.ns n.toNat).ext
 unfold splice
 simp only[List.length_append,List.length_take,List.length_drop,hw]
 omega
end Fs
namespace Fs
open Go.RowKit Ex Ino Mm
theorem zbl {bs:List UInt8} (h:bs.length=2048){n:Nat} (hn:n<32):(zaw bs n).length=64:=by
 unfold zaw
 rw[List.length_take,List.length_drop,h]
 omega
theorem zfe {bs x:List UInt8} (h:bs.length=2048)(hx:x.length=64){b c:Nat} (hb:b<32)(hc:c<32):zaw (zau bs b x) c=if c=b then x else zaw bs c:=by
 have hs:(zau bs b x).length=2048:=by
  unfold zau splice
  simp only[List.length_append,List.length_take,List.length_drop,hx,h]
  omega
 refine za7 ?_ fun k hk=>?_
 ·rw[zbl hs hc]
  split
  ·exact hx.symm
  ·exact(zbl h hc).symm
 ·rw[zbl hs hc] at hk
  rw[zce _ _ _ hk]
  unfold zau
  rw[getD_splice _ _ _ _ (by omega),hx]
  by_cases e:c=b
  ·subst e
   rw[zp rfl,zn (by omega),zp (by omega)]
   congr 1
   omega
  ·rw[zn e,zce _ _ _ hk]
   by_cases h1:c*64+k<b*64
   ·rw[zp h1]
   ·rw[zn h1,zn (by omega)]
theorem zif {bl:List Nat} (hg:∀ b∈bl,b<32){k:Nat} (hk:k<bl.length):bl.getD k 0<32∧bl.getD k 0∈bl:=by
 rw[List.getD_eq_getElem?_getD,List.getElem?_eq_getElem hk]
 exact⟨hg _ (List.getElem_mem _),List.getElem_mem _⟩
theorem zi2 {all:List UInt8} {k:Nat} (h:64*(k+1)≤all.length):(zaw all k).length=64:=by
 unfold zaw
 rw[List.length_take,List.length_drop]
 omega
theorem zet {bs all:List UInt8} {bl:List Nat} (hb:bs.length=2048)(hg:∀ b∈bl,b<32){c:Nat} (hc:c<32)(hn:c ∉ bl):∀ k,k≤bl.length→64*k≤all.length→zaw (zdv bs bl all k) c=zaw bs c
 | 0,_,_=>rfl
 | k+1,hk,ha=>by
  show zaw (zau _ _ _) c=_
  rw[zfe (zc6 _ hb hg k (by omega) (by omega)) (zi2 ha) (zif hg (by omega)).1 hc,zn (fun e=>hn (by rw[e];exact(zif hg (by omega)).2))]
  exact zet hb hg hc hn k (by omega) (by omega)
theorem zgw {bs all:List UInt8} {bl:List Nat} (hb:bs.length=2048)(hg:∀ b∈bl,b<32)(hn:bl.Nodup):∀ k,k≤bl.length→64*k≤all.length→∀ j,j<k→zaw (zdv bs bl all k) (bl.getD j 0)=zaw all j
 | 0,_,_,j,hj=>by omega
 | k+1,hk,ha,j,hj=>by
  show zaw (zau _ _ _) _=_
  rw[zfe (zc6 _ hb hg k (by omega) (by omega)) (zi2 ha) (zif hg (by omega)).1 (zif hg (by omega)).1]
  by_cases e:j=k
  ·subst e
   rw[zp rfl]
  ·rw[zn,zgw hb hg hn k (by omega) (by omega) j (by omega)]
   rw[List.getD_eq_getElem?_getD,List.getD_eq_getElem?_getD,List.getElem?_eq_getElem (show j<bl.length by omega),List.getElem?_eq_getElem (show k<bl.length by omega)]
   simp only[Option.getD_some]
   intro e2
   exact e ((List.getElem_inj hn).1 e2)
theorem znm (all:List UInt8):∀ k,64*k≤all.length→(List.range k).flatMap (zaw all)=all.take (64*k)
 | 0,_=>by simp
 | k+1,h=>by
  rw[List.range_succ,List.flatMap_append,znm all k (by omega)]
  simp only[List.flatMap_cons,List.flatMap_nil,List.append_nil]
  unfold zaw
  rw[show 64*(k+1)=64*k+64 by omega,List.take_add,show k*64=64*k by omega]
theorem zn4 {bs bs':List UInt8} {bl:List Nat} (h:∀ b∈bl,zaw bs' b=zaw bs b):bl.flatMap (zaw bs')=bl.flatMap (zaw bs):=by
 induction bl with
 | nil=>rfl
 | cons x r ih=>rw[List.flatMap_cons,List.flatMap_cons,h x (by simp),ih fun b hb=>h b (by simp[hb])]
theorem zkh {bs all:List UInt8} {l:List EX} (hb:bs.length=2048)(ha:all.length=64*(za4 l).length):zam (zbo bs l all) l=all:=by
 have hg:=fun b hb=>((za3 l).2 b hb).2
 have hn:=(za3 l).1
 have h1:=zgw (all:=all) hb hg hn (za4 l).length (Nat.le_refl _) (by omega)
 unfold zam zbo
 have e:(za4 l).flatMap (zaw (zdv bs (za4 l) all (za4 l).length))=(List.range (za4 l).length).flatMap (zaw all):=by
  have e0:za4 l=(List.range (za4 l).length).map fun j=>(za4 l).getD j 0:=by
   apply List.ext_getElem (by simp)
   intro j h2 h3
   simp[List.getD_eq_getElem?_getD,h2]
  conv=>lhs;arg 2;rw[e0]
  rw[List.flatMap_map]
  have:∀ m,m≤(za4 l).length→(List.range m).flatMap (fun j=>zaw (zdv bs (za4 l) all (za4 l).length) ((za4 l).getD j 0))=(List.range m).flatMap (zaw all):=by
   intro m
   induction m with
   | zero=>intro _;rfl
   | succ m ih =>
    intro hm
    rw[List.range_succ,List.flatMap_append,List.flatMap_append,ih (by omega)]
    simp only[List.flatMap_cons,List.flatMap_nil,List.append_nil]
    rw[h1 m (by omega)]
  exact this _ (Nat.le_refl _)
 rw[e,znm _ _ (by omega),List.take_of_length_le (by omega)]
theorem zll {bs all:List UInt8} {l m:List EX} (hb:bs.length=2048)(ha:64*(za4 l).length≤all.length)(hd:∀ b∈za4 m,b ∉ za4 l):zam (zbo bs l all) m=zam bs m:=by
 have hg:=fun b hb=>((za3 l).2 b hb).2
 unfold zam zbo
 exact zn4 fun b h=>zet hb hg ((za3 m).2 b h).2 (hd b h) _ (Nat.le_refl _) (by omega)
theorem zr1 {g:RG} (h:g.ns.length=8)(l:List EX):zam (zad g) l=zam g.bs l:=by
 unfold zam
 exact zn4 fun b hb=>zdf h ((za3 l).2 b hb).1
theorem zhs {g:RG} (h:g.ns.length=8)(x:IN):zg9 ⟨zad g,g.ns⟩ x=zg9 g x:=by
 unfold zg9
 rw[zr1 h]
theorem zs6 {g:RG} (h:g.ns.length=8):zf4 ⟨zad g,g.ns⟩=zf4 g:=by
 unfold zf4
 simp only[zhs h]
theorem RGood.size {g:RG} (h:RGood g){i:Nat} (hi:i<8):(0≤(at' g.ns i).size∧(at' g.ns i).size≤1472)∧((za4 (at' g.ns i).ext).length:Int)=zbq (at' g.ns i).size∧(at' g.ns i).size≤64*(za4 (at' g.ns i).ext).length:=by
 rcases h.nd i hi with e | e
 ·rw[e]
  refine⟨by decide,by decide,by decide⟩
 ·obtain⟨_,_,h3,_,h5⟩:=zck e
  have:=zfl h3.1 h3.2
  exact⟨h3,h5,by omega⟩
theorem zfw (g:RG)(n size:Int):(zb5 g n size).ns=g.ns.set n.toNat ⟨(za0 g.ns n).name,size,zd8 (za0 g.ns n).ext (zao g.ns) (zbq size).toNat⟩:=rfl
theorem zng (g:RG)(n size:Int):(zb5 g n size).bs=zbo g.bs (zd8 (za0 g.ns n).ext (zao g.ns) (zbq size).toNat) (zj8 (zam g.bs (za0 g.ns n).ext) ((zbq size).toNat*64) size.toNat):=rfl
theorem zl1 {g:RG} (h:RGood g){n size:Int} (he:zch g n size=0){j:Nat} (hj:j<8)(fj:isF (at' g.ns j)=true):
  at' (zb5 g n size).ns j=(if j=n.toNat then ⟨(at' g.ns n.toNat).name,size,zd8 (at' g.ns n.toNat).ext (zao g.ns) (zbq size).toNat⟩ else at' g.ns j) ∧
  zam (zb5 g n size).bs (at' (zb5 g n size).ns j).ext=if j=n.toNat then zj8 (zam g.bs (at' g.ns n.toNat).ext) ((zbq size).toNat*64) size.toNat else zam g.bs (at' g.ns j).ext:=by
 obtain⟨⟨hn,fn⟩,hs,hf,ex,hr⟩:=zfb h he
 obtain⟨b1,b2⟩:=h.bits (show n.toNat<8 by omega) fn
 obtain⟨f1,f2,f3⟩:=zih b1 b2 hf
 have nb:=zfl hs.1 hs.2
 have e1:at' (zb5 g n size).ns j=(if j=n.toNat then ⟨(at' g.ns n.toNat).name,size,zd8 (at' g.ns n.toNat).ext (zao g.ns) (zbq size).toNat⟩ else at' g.ns j):=by
  rw[zfw,zcq h.nl (by omega),ex]
 refine⟨e1,?_⟩
 rw[e1,zng,ex]
 by_cases e:j=n.toNat
 ·rw[zp e,zp e]
  exact zkh h.bl (by rw[zho,zar f1,f2];omega)
 ·rw[zn e,zn e]
  refine zll h.bl (by rw[zho,zar f1,f2];omega) fun b hb hc=>?_
  have sp:=h.ap n.toNat j (by omega) hj (fun e'=>e e'.symm) fn fj
  rw[zar f1,f3] at hc
  rcases List.mem_append.1 hc with hc | hc
  ·exact sp.2 b (by rw[zar b1];exact List.mem_of_mem_take hc) hb
  ·have h3:=(frL_mem.1 (List.mem_of_mem_take hc)).2.2
   rw[(zer _ _).2 ⟨j,hj,fj,hb⟩] at h3
   cases h3
theorem zub {g:RG} (h:RGood g){n a:Int} {b:List UInt8} (hn:0≤n∧n<8)(fn:isF (at' g.ns n.toNat)=true)(ha:0≤a)(hf:a.toNat+b.length≤64*(za4 (at' g.ns n.toNat).ext).length){j:Nat} (hj:j<8)(fj:isF (at' g.ns j)=true):
  zam (zpz g n a b).bs (at' g.ns j).ext=if j=n.toNat then splice (zam g.bs (at' g.ns n.toNat).ext) a.toNat b else zam g.bs (at' g.ns j).ext:=by
 have hw:=zdh h.bl (at' g.ns n.toNat).ext
 have hl:(splice (zam g.bs (at' g.ns n.toNat).ext) a.toNat b).length=64*(za4 (at' g.ns n.toNat).ext).length:=by
  unfold splice
  simp only[List.length_append,List.length_take,List.length_drop,hw]
  omega
 show zam (zbo g.bs _ _) _=_
 by_cases e:j=n.toNat
 ·rw[zp e,e]
  exact zkh h.bl hl
 ·rw[zn e]
  refine zll h.bl (by omega) fun c hb hc=>?_
  exact(h.ap n.toNat j (by omega) hj (fun e'=>e e'.symm) fn fj).2 c hc hb
end Fs
namespace Fs
open Go.RowKit Go.Shelf Ex Ino Mm
attribute [local go_sem] Oper.semAt_some
def zt6 (ss:List (List UInt8)):Int:=if ss.all zbg=true then 0 else 121
def TextR (w:World) (g:Nat) (ss:List (List UInt8)):Prop:=g<w.heap.size∧∀ k,k<ss.length→w.cell? ⟨g,k,none⟩=some (St (ss.getD k []))
theorem TextR.below {w w':World} {g:Nat} {ss:List (List UInt8)} (h:TextR w g ss)(hb:Below w.heap.size w w'):TextR w' g ss:=⟨Nat.lt_of_lt_of_le h.1 hb.size,fun k hk=>(hb.cell (p:=⟨g,k,none⟩) h.1).trans (h.2 k hk)⟩
theorem zl2 {w:World} {g:Nat} {ss:List (List UInt8)} (c:Nat)(h:TextR w g ss)(hl:ss.length≤100)(hs:∀ s∈ss,s.length≤9223372036854775807):
  Calls Tryz.prog 124 #[.slice (some ⟨g,0,none⟩) ss.length c] w (zcx w (.int .i64 (zt6 ss))):=by
 have HG:Hid (∀ x w',x=zt6 ss→Below w.heap.size w w'→zcx w (.int .i64 (zt6 ss)) (.returned (.int .i64 x)) w'):=fun x w' h1 h2=>⟨by rw[h1],h2⟩
 generalize zcx w (.int .i64 (zt6 ss))=G at *
 have HT:=zq h
 have HS:=zq hs
 clear h hs
 go_enter Tryz.func124,Tryz.ntmps124
 go_wp2_with fail
 go_loopw [7] (fun i wr=>∃ k:Nat,i=.int .i64 (k:Int)∧k≤ss.length∧(ss.take k).all zbg=true∧Below w.heap.size w wr) (fun i _=>ss.length-(RowKit.intOf i).toNat)
 case atStart=>exact⟨0,rfl,Nat.zero_le _,by simp,Below.refl _ _⟩
 case round =>
  obtain⟨k,rfl,hk,hall,hb⟩:=hrel
  by_cases hlt:k<ss.length
  ·have h2:=HT.out.below hb
   have ck:=h2.2 k hlt
   have hg:=h2.1
   have hm:ss.getD k []∈ss:=by rw[List.getD_eq_getElem?_getD,List.getElem?_eq_getElem hlt];exact List.getElem_mem _
   have hlen:=HS.out _ hm
   have hstep:(ss.take (k+1)).all zbg=((ss.take k).all zbg && zbg (ss.getD k [])):=by
    rw[List.take_succ_eq_append_getElem hlt,List.all_append,List.getD_eq_getElem?_getD,List.getElem?_eq_getElem hlt]
    simp
   rw[hall,Bool.true_and] at hstep
   have hno:zbg (ss.getD k [])=false→zt6 ss=121:=fun hf=>by
    unfold zt6
    rw[zn]
    intro ha
    rw[List.all_eq_true] at ha
    rw[ha _ hm] at hf
    cases hf
   have hN:Calls Tryz.prog 94 #[St (ss.getD k [])] wr (zcx wr (.bool (zbg (ss.getD k [])))):=zfm _ wr hlen
   have HN:=zq hN
   have HST:=zq hstep
   have HNO:=zq hno
   have HB:=zq hb
   clear h2 hm hlen hall hstep hno hN hb
   generalize hq:ss.getD k []=s at *
   generalize zbg s=b at *
   clear hq
   cases b with
   | true =>
    go_wp2_with fail
    refine HN.out.mono ?_
    rintro e w2 ⟨rfl,b2⟩
    have HB2:=zq (HB.out.trans (b2.mono HB.out.size))
    clear b2 HN HB HNO
    go_wp2_with fail
    go_roundw
    case rel=>exact⟨k+1,by go_num,by omega,HST.out,HB2.out⟩
    case measure=>simp[RowKit.intOf];omega
   | false =>
    have HX:=zq (HNO.out rfl)
    clear HNO HST
    go_wp2_with fail
    refine HN.out.mono ?_
    rintro e w2 ⟨rfl,b2⟩
    have HB2:=zq (HB.out.trans (b2.mono HB.out.size))
    clear b2 HN HB
    go_wp2_with fail
    exact HG.out _ _ HX.out.symm HB2.out
  ·obtain rfl:k=ss.length:=by omega
   rw[List.take_length] at hall
   have HX:Hid ((0:Int)=zt6 ss):=by show _=_;unfold zt6;rw[zp hall]
   have HB:=zq hb
   clear hall hb
   go_wp2_with fail
   exact HG.out _ _ HX.out HB.out
structure InF (w:World) (name:List UInt8) (n e:Int) (W:World):Prop where
 s0:Boxed W w.heap.size 9 (St name)
 n0:Boxed W (w.heap.size+1) 3 (.int .i64 n)
 e0:Boxed W (w.heap.size+1+1) 42 (.int .i64 e)
theorem zpb (w:World)(name:List UInt8)(n e:Int){β:Type}:Own (fun (_:β) W=>InF w name n e W):=fun _ _ _ _ hs hg hr=>⟨zbt hs.s0 hg hr,zbt hs.n0 hg hr,zbt hs.e0 hg hr⟩
theorem InF.below {w:World} {name:List UInt8} {n e:Int} {W W':World} (h:InF w name n e W)(k:Below W.heap.size W W'):InF w name n e W':=
 ⟨(k.block _ h.s0.lt).trans h.s0,(k.block _ h.n0.lt).trans h.n0,(k.block _ h.e0.lt).trans h.e0⟩
theorem InF.store {w:World} {name:List UInt8} {n e:Int} {W:World} (h:InF w name n e W)(n' e':Int):InF w name n' e' ((W.setCell ⟨w.heap.size+1,0,none⟩ (.int .i64 n')).setCell ⟨w.heap.size+1+1,0,none⟩ (.int .i64 e')):=
 ⟨(h.s0.other (by omega) _).other (by omega) _,(h.n0.set _).other (by omega) _,(show Boxed (W.setCell ⟨w.heap.size+1,0,none⟩ (.int .i64 n')) (w.heap.size+1+1) 42 (.int .i64 e) from h.e0.other (by omega) _).set _⟩
def zku (ns:List IN) (name:List UInt8):Value:=.tuple #[.int .i64 (zbi ns name:Nat),.int .i64 (za5 ns name)]
def NoneP (ns:List IN) (name:List UInt8) (pre:List Nat):Prop:=∀ i∈pre,(at' ns i).name≠name
def InFi (w:World) (ns:List IN) (name:List UInt8) (pre:List Nat) (W:World):Prop:=NoneP ns name pre∧InF w name 0 0 W∧Below w.heap.size w W
def InFx (w:World) (ns:List IN) (name:List UInt8) (c:Code) (pre:List Nat) (W:World):Prop:=c=.ret∧∃ q i,pre=q++[i]∧NoneP ns name q∧(at' ns i).name=name∧InF w name (i:Int) 0 W∧Below w.heap.size w W
theorem zu4 (w:World)(ns:List IN)(name:List UInt8){B:Nat} (hB:w.heap.size≤B):OwnFrom B (InFi w ns name):=fun pre W W' row ⟨h1,h2,h3⟩ hg hr =>
 ⟨h1,zpb w name 0 0 () W W' row h2 hg (fun r e=>(hr r e).2),ownFrom_below (Nat.le_refl _) hB () W W' row h3 hg hr⟩
theorem yeh (w:World)(ns:List IN)(name:List UInt8){B:Nat} (hB:w.heap.size≤B)(c:Code):OwnFrom B (InFx w ns name c):=fun pre W W' row ⟨h1,q,i,h2,h3,h4,h5,h6⟩ hg hr =>
 ⟨h1,q,i,h2,h3,h4,zpb w name i 0 () W W' row h5 hg (fun r e=>(hr r e).2),ownFrom_below (Nat.le_refl _) hB () W W' row h6 hg hr⟩
theorem NoneP.snoc {ns:List IN} {name:List UInt8} {q:List Nat} {i:Nat} (h:NoneP ns name q)(hi:(at' ns i).name≠name):NoneP ns name (q++[i]):=fun j hj=>by
 rcases List.mem_append.1 hj with hj | hj
 ·exact h j hj
 ·rw[List.mem_singleton] at hj;subst hj;exact hi
theorem zxo {ns:List IN} {name:List UInt8} {q:List Nat} {i:Nat} (hp:q++[i] <+: zhw ns)(h:NoneP ns name q)(hi:(at' ns i).name=name):zdk ns name=some i:=by
 obtain⟨t,ht⟩:=hp
 unfold zdk
 rw[← ht,List.append_assoc,List.find?_append]
 have:q.find? (fun i=>decide ((at' ns i).name=name))=none:=by
  rw[List.find?_eq_none]
  intro j hj
  simpa using h j hj
 rw[this]
 simp[hi]
theorem ye6 {ns:List IN} {name:List UInt8} (h:NoneP ns name (zhw ns)):zdk ns name=none:=by
 unfold zdk
 rw[List.find?_eq_none]
 intro j hj
 simpa using h j hj
def actF (w:World) (l:List ND) (name:List UInt8) (r g b i:Nat):Act:={ tmps:=#[.pointer (some ⟨r,0,none⟩),St name,undef,.pointer (some ⟨w.heap.size,0,none⟩),.pointer (some ⟨w.heap.size+1,0,none⟩),.pointer (some ⟨w.heap.size+1+1,0,none⟩),.int .i64 0,.int .i64 (i:Int),.pointer (some ⟨b,0,none⟩),St name,.slice (some ⟨w.heap.size+1+1+1,0,none⟩) 1 1,.int .i64 0,.int .i64 0,.bool false,undef,.pointer (some ⟨r,0,none⟩),itf g,.int .i64 (i:Int),Ino.ag (zdn l i).x (zdn l i).A (zdn l i).c,undef,undef,undef,undef,undef],defers:=[] }
def MidF (w:World) (l:List ND) (name:List UInt8) (r g:Nat) (pre:List Nat) (i:Nat) (a:Act) (W:World):Prop:=∃ b,a=actF w l name r g b i∧BoxN W b (zdn l i)∧InFi w (zas l) name pre W
theorem yd3 (w:World)(l:List ND)(name:List UInt8)(r g:Nat)(pre:List Nat)(i:Nat){B:Nat} (hB:w.heap.size≤B):OwnFrom B (MidF w l name r g pre i):=fun a W W' row ⟨b,e,h1,h2⟩ hg hr =>
 ⟨b,e,h1.grown hg (fun r e=>(hr r e).2),zu4 w _ name hB pre W W' row h2 hg hr⟩
theorem zvf {w:World} {r:Nat} {bs:List UInt8} {l:List ND} (h:RegAt w r bs l)(name:List UInt8)(hn:name.length≤9223372036854775807):
  Calls Tryz.prog 97 #[.pointer (some ⟨r,0,none⟩),St name] w (zcx w (zku (zas l) name)):=by
 have hb1:Below w.heap.size w ((((w.alloc (.cells #[St name] 9)).alloc (.cells #[.int .i64 0] 3)).alloc (.cells #[.int .i64 0] 42)).alloc (.cells #[St name] 9)):=((((Below.refl _ _).alloc (Nat.le_refl _) _).alloc (by simp) _).alloc (by simp;omega) _).alloc (by simp;omega) _
 have hi1:InF w name 0 0 ((((w.alloc (.cells #[St name] 9)).alloc (.cells #[.int .i64 0] 3)).alloc (.cells #[.int .i64 0] 42)).alloc (.cells #[St name] 9)):=by
  refine⟨(((Boxed.new w 9 (St name)).alloc _).alloc _).alloc _,?_,?_⟩
  ·have:=((Boxed.new (w.alloc (.cells #[St name] 9)) 3 (.int .i64 0)).alloc (.cells #[.int .i64 0] 42)).alloc (.cells #[St name] 9)
   rwa [World.size_alloc] at this
  ·have:=(Boxed.new ((w.alloc (.cells #[St name] 9)).alloc (.cells #[.int .i64 0] 3)) 42 (.int .i64 0)).alloc (.cells #[St name] 9)
   rwa [World.size_alloc,World.size_alloc] at this
 have ht1:TextR ((((w.alloc (.cells #[St name] 9)).alloc (.cells #[.int .i64 0] 3)).alloc (.cells #[.int .i64 0] 42)).alloc (.cells #[St name] 9)) (w.heap.size+1+1+1) [name]:=by
  have hx:=Boxed.new (((w.alloc (.cells #[St name] 9)).alloc (.cells #[.int .i64 0] 3)).alloc (.cells #[.int .i64 0] 42)) 9 (St name)
  rw[World.size_alloc,World.size_alloc,World.size_alloc] at hx
  refine⟨hx.lt,fun k hk=>?_⟩
  simp only[List.length_singleton] at hk
  obtain rfl:k=0:=by omega
  exact hx.cell
 have hrf:zt6 [name]=if zbg name=true then 0 else 121:=by simp[zt6]
 have hrefl:=zl2 (ss:=[name]) 1 ht1 (by simp) (by simpa using hn)
 rw[hrf] at hrefl
 have HR:=zq hrefl
 have HI1:=zq hi1
 have HB1:=zq hb1
 have HREG:=zq h
 clear hb1 hi1 ht1 hrf hrefl h
 refine(callsIn_wide (n:=8)).1 ?_
 refine callsIn_of_wp_marks Tryz.func97 rfl trivial ?_ rfl
 simp only[Tryz.ntmps97,List.size_toArray,List.length_cons,List.length_nil,Nat.reduceAdd,Nat.reduceSub,Array.replicate_succ,Array.replicate_zero,List.push_toArray,List.append_toArray,List.nil_append,List.cons_append]
 by_cases hnb:zbg name=true
 ·rw[zp hnb] at HR
  have HFV:Hid (∀ i,zdk (zas l) name=some i→zku (zas l) name=.tuple #[.int .i64 (i:Int),.int .i64 0]):=fun i hi=>by
   unfold zku zbi za5
   rw[hnb,hi]
   rfl
  have HFN:Hid (zdk (zas l) name=none→zku (zas l) name=.tuple #[.int .i64 0,.int .i64 123]):=fun hi=>by
   unfold zku zbi za5
   rw[hnb,hi]
   rfl
  clear hnb
  gi_wp2
  generalize ((((w.alloc (.cells #[St name] 9)).alloc (.cells #[.int .i64 0] 3)).alloc (.cells #[.int .i64 0] 42)).alloc (.cells #[St name] 9))=w0 at *
  refine⟨trivial,?_⟩
  refine(callsIn_wide.2 HR.out).mono ?_
  clear HR
  rintro e w1 ⟨rfl,b1⟩
  have HI2:=zq (HI1.out.below b1)
  have HB2:=zq (HB1.out.trans (b1.mono HB1.out.size))
  have HR2:=zq (HREG.out.below HB2.out)
  clear b1 HI1 HB1
  gi_wp2
  refine⟨trivial,?_⟩
  refine(callsIn_wide.2 (zmn r w1)).mono ?_
  rintro e w2 ⟨rfl,rfl⟩
  have hbox:=Boxed.new w1 108 (.pointer (some ⟨r,0,none⟩))
  have hb2:Below w1.heap.size w1 (w1.alloc (.cells #[.pointer (some ⟨r,0,none⟩)] 108)):=(Below.refl _ _).alloc (Nat.le_refl _) _
  have H3:=zq (HR2.out.below hb2)
  have HF3:Hid (InFi w (zas l) name [] (w1.alloc (.cells #[.pointer (some ⟨r,0,none⟩)] 108))):=⟨(fun i hi=>by cases hi),HI2.out.below hb2,HB2.out.trans (hb2.mono HB2.out.size)⟩
  have HBOX:=zq hbox
  have HS3:Hid (w.heap.size≤(w1.alloc (.cells #[.pointer (some ⟨r,0,none⟩)] 108)).heap.size):=HF3.out.2.2.size
  clear hbox hb2 HI2 HB2 HR2 HREG
  gi_wp2
  generalize w1.alloc (.cells #[.pointer (some ⟨r,0,none⟩)] 108)=w2 at *
  generalize w1.heap.size=g at *
  have hs3:=HS3.out
  refine zfo rfl (by omega) (gf:=156) (lb:=#[.pointer (some ⟨g,0,none⟩)]) rfl trivial (enters_of Tryz.func156 (by kernel_rfl) rfl)
   (zii Fence.wide _ trivial rfl (by omega) g r bs l w2 HBOX.out H3.out) (Below.refl _ _) (fun _=>rfl)
   (InFi w (zas l) name) (InFx w (zas l) name) (MidF w l name r g)
   (zu4 w _ name hs3) (fun c=>yeh w _ name hs3 c) (fun pre i=>yd3 w l name r g pre i hs3) HF3.out ?assign ?body ?done ?stop
  case assign =>
   intro y pre i W hi _
   have hk:KeepsOthers W (W.alloc (.cells #[St (zdn l i).x.name,.int .i64 (zdn l i).x.size,.slice (zdn l i).A (zdn l i).x.ext.length (zdn l i).c] 113)):=KeepsOthers.alloc _ _
   have hm:MidF w l name r g pre i (actF w l name r g W.heap.size i) (W.alloc (.cells #[St (zdn l i).x.name,.int .i64 (zdn l i).x.size,.slice (zdn l i).A (zdn l i).x.ext.length (zdn l i).c] 113)):=
    ⟨W.heap.size,rfl,heap_alloc_new W _,hi.1,hi.2.1.below ((Below.refl _ _).alloc (Nat.le_refl _) _),hi.2.2.alloc hi.2.2.size _⟩
   have HK:=zq hk
   have HM:=zq hm
   clear hi hs3 hk hm
   gi_wp2
   exact⟨HK.out,HM.out⟩
  case body =>
   rintro y pre i a W ⟨b,rfl,hnn,hu⟩
   obtain⟨c0,c1,c2⟩:=hnn.c
   have cs:=hu.2.1.s0.cell
   have cn:=hu.2.1.n0.cell
   have fn:=hu.2.1.n0.frozen
   have ce:=hu.2.1.e0.cell
   have fe:=hu.2.1.e0.frozen
   have hlt:=hu.2.1.s0.lt
   unfold actF
   clear hs3 c1 c2 hnn
   by_cases hx:(at' (zas l) i).name=name
   ·have HX:Hid (decide ((zdn l i).x.name=name)=true):=by rw[ztk] at hx;show _=_;simpa using hx
    have hk2:=(hu.2.2.setCell (p:=⟨w.heap.size+1,0,none⟩) (by show w.heap.size≤w.heap.size+1;omega) (.int .i64 (i:Int))).setCell (p:=⟨w.heap.size+1+1,0,none⟩) (by show w.heap.size≤w.heap.size+1+1;omega) (.int .i64 0)
    have HE:Hid (InFx w (zas l) name .ret (pre++[i]) ((W.setCell ⟨w.heap.size+1,0,none⟩ (.int .i64 (i:Int))).setCell ⟨w.heap.size+1+1,0,none⟩ (.int .i64 0))):=⟨rfl,pre,i,rfl,hu.1,hx,hu.2.1.store i 0,hk2⟩
    clear hu hx hk2
    gi_wp2_with (first | ((with_reducible refine zke (op:=.binOp .eql 9 (.tmp 20) (.tmp 21) 9) ?_);refine zcy rfl (by intro c h;cases h) rfl _ (HX.out ▸ zmq (.tmp 20) (.tmp 21) rfl _ _ rfl rfl) ?_))
    exact⟨(KeepsOthers.setCell _ _ _).trans (KeepsOthers.setCell _ _ _),HE.out⟩
   ·have HX:Hid (decide ((zdn l i).x.name=name)=false):=by rw[ztk] at hx;show _=_;simpa using hx
    have HE:Hid (InFi w (zas l) name (pre++[i]) W):=⟨hu.1.snoc hx,hu.2⟩
    clear hu hx
    gi_wp2_with (first | ((with_reducible refine zke (op:=.binOp .eql 9 (.tmp 20) (.tmp 21) 9) ?_);refine zcy rfl (by intro c h;cases h) rfl _ (HX.out ▸ zmq (.tmp 20) (.tmp 21) rfl _ _ rfl rfl) ?_))
    exact⟨KeepsOthers.refl _,trivial,HE.out⟩
  case done =>
   rintro D ys W hD rfl ⟨hne,hb,hk⟩ hK
   have hv:=HFN.out (ye6 hne)
   have cb:=hb.n0.cell
   have fb:=hb.n0.frozen
   have ce:=hb.e0.cell
   have fe:=hb.e0.frozen
   have hk':=(hk.setCell (p:=⟨w.heap.size+1,0,none⟩) (by show w.heap.size≤w.heap.size+1;omega) (.int .i64 0)).setCell (p:=⟨w.heap.size+1+1,0,none⟩) (by show w.heap.size≤w.heap.size+1+1;omega) (.int .i64 123)
   have hst:=hb.store 0 123
   have hKd:=(KeepsOthers.setCell _ ⟨w.heap.size+1+1,0,none⟩ (.int .i64 123)).same D _ ((KeepsOthers.setCell W ⟨w.heap.size+1,0,none⟩ (.int .i64 0)).same D _ hK rfl) rfl
   have HV:=zq hv
   have HKK:=zq hk'
   have HST:=zq hst
   have HKD:=zq hKd
   clear hne hb hk hv hk' hst hKd
   gi_wp2
   have g2:=grownBy_putObj' ((W.setCell ⟨w.heap.size+1,0,none⟩ (.int .i64 0)).setCell ⟨w.heap.size+1+1,0,none⟩ (.int .i64 123)) D (.deferred none)
   have x2:=zpb w name 0 123 () _ _ _ HST.out g2 (fun r e=>by cases e;exact⟨_,HKD.out,rfl⟩)
   have k2:=HKK.out.trans (belowK_b (w:=w) (Nat.le_refl _) _ D _ (.deferred none) (by omega) HKD.out rfl rfl)
   refine⟨by simp,.inl ⟨D,_,rfl,run_takeDeferred HKD.out,?_⟩⟩
   have c1:=x2.n0.cell
   have c2:=x2.e0.cell
   refine⟨.tuple #[.int .i64 0,.int .i64 123],?_,by rw[HV.out],k2⟩
   simp[results,Tryz.f97,go_sem,c1,c2]
  case stop =>
   rintro D c2 pre W hD hpre ⟨rfl,q,i,rfl,hq,hi,hb,hk⟩ hK
   have hv:=HFV.out i (zxo hpre hq hi)
   have HV:=zq hv
   clear hv hpre hq hi
   gi_wp2
   have g2:=grownBy_putObj' W D (.deferred none)
   have x2:=zpb w name i 0 () _ _ _ hb g2 (fun r e=>by cases e;exact⟨_,hK,rfl⟩)
   have k2:=hk.trans (belowK_b (w:=w) (Nat.le_refl _) _ D _ (.deferred none) (by omega) hK rfl rfl)
   refine⟨by simp,.inl ⟨D,_,rfl,run_takeDeferred hK,?_⟩⟩
   have c1:=x2.n0.cell
   have c2:=x2.e0.cell
   refine⟨.tuple #[.int .i64 (i:Int),.int .i64 0],?_,by rw[HV.out],k2⟩
   simp[results,Tryz.f97,go_sem,c1,c2]
 ·have hnb:zbg name=false:=by simpa using hnb
  rw[zn (by rw[hnb];decide)] at HR
  have HV:Hid (zku (zas l) name=.tuple #[.int .i64 0,.int .i64 121]):=by
   show _=_
   unfold zku zbi za5
   rw[hnb]
   rfl
  clear hnb
  gi_wp2
  generalize ((((w.alloc (.cells #[St name] 9)).alloc (.cells #[.int .i64 0] 3)).alloc (.cells #[.int .i64 0] 42)).alloc (.cells #[St name] 9))=w0 at *
  refine⟨trivial,?_⟩
  refine(callsIn_wide.2 HR.out).mono ?_
  clear HR
  rintro e w1 ⟨rfl,b1⟩
  have HI2:=zq (HI1.out.below b1)
  have cb:=HI2.out.n0.cell
  have fb:=HI2.out.n0.frozen
  have ce:=HI2.out.e0.cell
  have fe:=HI2.out.e0.frozen
  have hk:=(HB1.out.trans (b1.mono HB1.out.size)).setCell (p:=⟨w.heap.size+1,0,none⟩) (by show w.heap.size≤w.heap.size+1;omega) (.int .i64 0)
  have hk2:=zq (hk.setCell (p:=⟨w.heap.size+1+1,0,none⟩) (by show w.heap.size≤w.heap.size+1+1;omega) (.int .i64 121))
  have HI3:=zq (HI2.out.store 0 121)
  clear b1 HI1 HB1 hk HI2
  gi_wp2
  have c1:=HI3.out.n0.cell
  have c2:=HI3.out.e0.cell
  refine⟨.tuple #[.int .i64 0,.int .i64 121],?_,by rw[HV.out],hk2.out⟩
  simp[results,Tryz.f97,go_sem,c1,c2]
end Fs
namespace Fs
open Go.RowKit Ex Ino Mm
theorem zpj {w:World} {r:Nat} {bs:List UInt8} {l:List ND} (h:RegAt w r bs l)(name:List UInt8)(hn:name.length≤9223372036854775807):
  Calls Tryz.prog 97 #[.pointer (some ⟨r,0,none⟩),St name] w (zcx w (.tuple #[.int .i64 ((zbi (zas l) name:Nat):Int),.int .i64 (za5 (zas l) name)])):=zvf h name hn
theorem zkf {w:World} {r:Nat} {bs:List UInt8} {l:List ND} (h:RegAt w r bs l)(name:List UInt8)(hn:name.length≤9223372036854775807):
  Calls Tryz.prog 125 #[.pointer (some ⟨r,0,none⟩),St name] w (zcx w (.int .i64 (za2 (zas l) name))):=by
 have HF:=zq (zpj h name hn)
 unfold za2
 clear h hn
 generalize zbi (zas l) name=N at *
 generalize za5 (zas l) name=E at *
 by_cases h0:E=0
 ·rw[zp h0]
  subst h0
  go_enter Tryz.func125,Tryz.ntmps125
  go_wp2_with fail
  refine HF.out.mono ?_
  rintro e w2 ⟨rfl,b2⟩
  go_wp2_with fail
  go_ret
  exact⟨rfl,b2⟩
 ·rw[zn h0]
  by_cases h1:E=123
  ·rw[zp h1]
   subst h1
   go_enter Tryz.func125,Tryz.ntmps125
   go_wp2_with fail
   refine HF.out.mono ?_
   rintro e w2 ⟨rfl,b2⟩
   go_wp2_with fail
   go_ret
   exact⟨rfl,b2⟩
  ·rw[zn h1]
   have e0:(E==0)=false:=by simpa using h0
   have e1:(E==123)=false:=by simpa using h1
   clear h0 h1
   go_enter Tryz.func125,Tryz.ntmps125
   go_wp2_with fail
   refine HF.out.mono ?_
   rintro e w2 ⟨rfl,b2⟩
   go_wp2_with fail
   go_ret
   exact⟨rfl,b2⟩
def RegIs (w:World) (r:Nat) (g:RG):Prop:=∃ l,zas l=g.ns∧RegAt w r g.bs l
theorem RegIs.lt {w:World} {r:Nat} {g:RG} (h:RegIs w r g):r<w.heap.size:=by obtain⟨l,_,h⟩:=h;exact h.lt
theorem RegIs.below {w w':World} {r:Nat} {g:RG} (h:RegIs w r g)(b:Below w.heap.size w w'):RegIs w' r g:=by obtain⟨l,e,h⟩:=h;exact⟨l,e,h.below b⟩
def zev (w:World) (r:Nat) (v:Value) (g:RG) (e:Ending) (w':World):Prop:=e=.returned v∧RegIs w' r g∧Keeps (·=r) w w'
theorem zav {w w':World} (r:Nat)(h:Below w.heap.size w w'):Keeps (·=r) w w':=Keeps.below h _ fun i h1 h2=>by omega
theorem zdp {w w':World} {r:Nat} {bs:List UInt8} {l:List ND} (h:RegAt w r bs l)(hb:Below w.heap.size w w')(v:Value):zev w r v ⟨bs,zas l⟩ (.returned v) w':=⟨rfl,⟨l,rfl,h.below hb⟩,zav r hb⟩
def zz2 (d:ND) (name:List UInt8):ND:=⟨⟨name,d.x.size,d.x.ext⟩,d.A,d.c⟩
theorem zus:∀ (l:List ND) (k:Nat) (d:ND) (name:List UInt8),l[k]?=some d→(ncs l).set (k*3) (St name)=ncs (l.set k (zz2 d name))
 | [],k,d,name,h=>by simp at h
 | x::r,0,d,name,h=>by
  simp at h
  subst h
  rfl
 | x::r,k+1,d,name,h=>by
  have ih:=zus r k d name (by simpa using h)
  unfold ncs at *
  rw[List.set_cons_succ,List.flatMap_cons,List.flatMap_cons,← ih,List.set_append,zn (by rw[zd3];omega),zd3,show(k+1)*3-3=k*3 by omega]
theorem zhu {ns:List IN} {name:List UInt8} (h:za2 ns name=0):name.length≤100000:=by
 by_cases hb:zbg name=true
 ·unfold zbg at hb
  simp only[Bool.and_eq_true,decide_eq_true_eq] at hb
  omega
 ·have hf:zbg name=false:=by simpa using hb
  have h1:za5 ns name=121:=by unfold za5;rw[zp hf]
  unfold za2 at h
  rw[h1] at h
  exact absurd h (by decide)
theorem RegAt.putName {w:World} {r:Nat} {bs:List UInt8} {l:List ND} (h:RegAt w r bs l){k:Nat} (hk:k<8){d:ND} (hd:l[k]?=some d)(name:List UInt8)(hn:name.length≤100000):
  RegAt (w.setCell ⟨r,2048+k*3,none⟩ (St name)) r bs (l.set k (zz2 d name))∧Keeps (·=r) w (w.setCell ⟨r,2048+k*3,none⟩ (St name)):=by
 have hkp:Keeps (·=r) w (w.setCell ⟨r,2048+k*3,none⟩ (St name)):=Keeps.setCell _ _ _ _ rfl
 have hdm:=h.nd d (List.mem_of_getElem? hd)
 refine⟨⟨h.bl,by rw[List.length_set,h.nl],?_,fun e he=>?_⟩,hkp⟩
 ·rw[heap_setCell_same w r (2048+k*3) _ _ _ h.hd]
  simp only[List.setIfInBounds_toArray]
  unfold gcl
  rw[← zus l k d name hd]
  rw[List.set_append,zn (by rw[List.length_map,h.bl];omega),List.length_map,h.bl,show 2048+k*3-2048=k*3 by omega]
 ·rcases List.mem_or_eq_of_mem_set he with he | rfl
  ·exact h.nds hkp e he
  ·have hz:NdOk w r (zz2 d name):=⟨⟨hdm.ok.xr,hdm.ok.few,hn,hdm.ok.size⟩,hdm.no⟩
   exact hz.keeps hkp fun hn ad e f=>hdm.no hn ad e f
theorem zwq {w:World} {r:Nat} {bs:List UInt8} {l:List ND} (h:RegAt w r bs l)(name:List UInt8)(hn:name.length≤9223372036854775807):
  Calls Tryz.prog 120 #[.pointer (some ⟨r,0,none⟩),St name] w (zev w r (.int .i64 (zbk ⟨bs,zas l⟩ name).1) (zbk ⟨bs,zas l⟩ name).2):=by
 have HF:=zq (zpj h name hn)
 unfold zbk
 by_cases h0:za5 (zas l) name=0
 ·rw[zp h0]
  rw[h0] at HF
  obtain⟨hnb,i,hi⟩:=findE_zero.1 h0
  have e:zbi (zas l) name=i:=by unfold zbi;rw[hnb,hi];rfl
  rw[e] at HF ⊢
  have hlt:=(zcp hi).1
  have HP:Hid (∀ w2,Below w.heap.size w w2→(Instr.storeAt 113 (.pointer (some ⟨r,2048+i*3,none⟩)) (.agg #[.string ⟨#[]⟩,.int .i64 0,.slice none 0 0])).run Tryz.prog w2=.ok () (w2.setCells r (2048+i*3) (ncl ⟨in0,none,0⟩)) ∧
    zev w r (.int .i64 0) ⟨bs,(zas l).set i in0⟩ (.returned (.int .i64 0)) (w2.setCells r (2048+i*3) (ncl ⟨in0,none,0⟩))):=fun w2 b2=>by
   have h2:=h.below b2
   obtain⟨p1,p2⟩:=h2.putNode hlt ⟨in0,none,0⟩ ⟨⟨XR.nil,by decide,by decide,by decide⟩,fun hn=>absurd rfl hn⟩
   exact⟨zr3 (d:=⟨in0,none,0⟩) (h2.there _ _ (by omega)),rfl,⟨_,zi5 _ _ _,p1⟩,(zav r b2).trans p2⟩
  clear h hn h0 e hi hnb
  generalize zev w r _ _=G at *
  go_enter Tryz.func120,Tryz.ntmps120
  go_wp2_with fail
  refine HF.out.mono ?_
  rintro e w2 ⟨rfl,b2⟩
  obtain⟨s1,s2⟩:=HP.out w2 b2
  have ST:=zq s1
  have HG:=zq s2
  clear s1 s2 b2 HF HP
  go_wp2_with (first | ((with_reducible refine zd5 (op:=.store 113 (.tmp 21) (.tmp 18)) ?_);refine zaz rfl 113 _ _ rfl _ _ rfl rfl ST.out ?_))
  exact HG.out
 ·rw[zn h0]
  have HG:Hid (∀ w2,Below w.heap.size w w2→zev w r (.int .i64 (za5 (zas l) name)) ⟨bs,zas l⟩ (.returned (.int .i64 (za5 (zas l) name))) w2):=fun w2 b2=>zdp h b2 _
  have e0:(za5 (zas l) name != 0)=true:=by simpa using h0
  clear h hn h0
  generalize zev w r _ _=G at *
  generalize za5 (zas l) name=E at *
  generalize zbi (zas l) name=N at *
  go_enter Tryz.func120,Tryz.ntmps120
  go_wp2_with fail
  refine HF.out.mono ?_
  rintro e w2 ⟨rfl,b2⟩
  have HG2:=zq (HG.out w2 b2)
  clear b2 HG HF
  go_wp2_with fail
  exact HG2.out
theorem yhz {ns:List IN} {k:Nat} (hk:k<8)(h:∀ j,j<k→(at' ns j).name≠[])(h0:(at' ns k).name=[]):zg7 ns=some k:=by
 unfold zg7
 have e:List.range 8=List.range k++(k::(List.range' (k+1) (7-k))):=by
  rw[List.range_eq_range',List.range_eq_range',show 8=k+(1+(7-k)) by omega,← List.range'_append,Nat.zero_add,Nat.one_mul,Nat.add_comm 1 (7-k),List.range'_succ]
 rw[e,List.find?_append]
 have:(List.range k).find? (fun i=>decide ((at' ns i).name=[]))=none:=by
  rw[List.find?_eq_none]
  intro j hj
  rw[List.mem_range] at hj
  simpa using h j hj
 rw[this]
 simp[h0]
theorem zs5 {ns:List IN} (h:∀ j,j<8→(at' ns j).name≠[]):zg7 ns=none:=by
 unfold zg7
 rw[List.find?_eq_none]
 intro j hj
 rw[List.mem_range] at hj
 simpa using h j hj
theorem zxw {w:World} {r:Nat} {bs:List UInt8} {l:List ND} (h:RegAt w r bs l)(name:List UInt8)(hn:name.length≤9223372036854775807):
  Calls Tryz.prog 149 #[.pointer (some ⟨r,0,none⟩),St name] w (zev w r (.tuple #[.int .i64 ((zae ⟨bs,zas l⟩ name).2.1:Nat),.int .i64 (zae ⟨bs,zas l⟩ name).1]) (zae ⟨bs,zas l⟩ name).2.2):=by
 have HF:=zq (zkf h name hn)
 unfold zae
 by_cases h0:za2 (zas l) name=0
 ·rw[zp h0]
  rw[h0] at HF
  have HREG:=zq h
  have HN:=zq h.nl
  generalize hG:zev w r _ _=G
  have HYES:Hid (∀ k w2,k<8→(∀ j,j<k→(at' (zas l) j).name≠[])→(at' (zas l) k).name=[]→Below w.heap.size w w2→(∀ o,G (.returned (.tuple #[.int .i64 (k:Int),.int .i64 0])) ((w2.setCell ⟨r,2048+k*3,none⟩ (St name)).alloc o)) ∧
    w2.cell? ⟨r,2048+k*3,none⟩=some (St (at' (zas l) k).name)∧w2.frozen? ⟨r,2048+k*3,none⟩=false):=fun k w2 hk h1 h2 b2=>by
   have hr2:=h.below b2
   obtain⟨d,hd,e,_⟩:=hr2.get hk
   obtain⟨p1,p2⟩:=hr2.putName hk hd name (zhu h0)
   refine⟨fun o=>?_,by rw[e];exact(hr2.nodeC hd).1,frozen_of_row _ _ _ _ _ hr2.hd⟩
   rw[← hG,yhz hk h1 h2]
   have ba:=(Below.refl (w2.setCell ⟨r,2048+k*3,none⟩ (St name)).heap.size (w2.setCell ⟨r,2048+k*3,none⟩ (St name))).alloc (Nat.le_refl _) o
   refine⟨rfl,⟨_,?_,p1.below ba⟩,((zav r b2).trans p2).trans (zav r ba)⟩
   show zas (l.set k (zz2 d name))=(zas l).set k ⟨name,(at' (zas l) k).size,(at' (zas l) k).ext⟩
   rw[zi5,e]
   rfl
  have HNO:Hid (∀ w2,(∀ j,j<8→(at' (zas l) j).name≠[])→Below w.heap.size w w2→G (.returned (.tuple #[.int .i64 0,.int .i64 124])) w2):=fun w2 h1 b2=>by
   rw[← hG,zs5 h1]
   exact zdp h b2 _
  clear h h0 hG hn
  go_enter Tryz.func149,Tryz.ntmps149
  go_wp2_with fail
  refine HF.out.mono ?_
  rintro e w2 ⟨rfl,b2⟩
  have L1:=zq (zz9 HN.out (HREG.out.below b2).nodesR)
  have HB2:=zq b2
  clear b2 HF
  go_wp2_with (first | ((with_reducible refine zd5 (op:=.load 147 (.tmp 17)) ?_);refine za9 rfl 147 _ rfl _ _ rfl L1.out ?_))
  go_loopw [19] (fun i wr=>∃ k:Nat,i=.int .i64 (k:Int)∧k≤8∧(∀ j,j<k→(at' (zas l) j).name≠[])∧Below w.heap.size w wr) (fun i _=>8-(RowKit.intOf i).toNat)
  case atStart=>exact⟨0,rfl,by omega,fun j hj=>by omega,HB2.out⟩
  case round =>
   clear L1
   obtain⟨k,rfl,hk,hne,hb⟩:=hrel
   by_cases hlt:k<8
   ·obtain⟨d,hd,e,_⟩:=HREG.out.get hlt
    have IX:=fun w=>zq (yht w HN.out hd)
    have hb3:=hb.alloc hb.size (.cells #[St d.x.name,.int .i64 d.x.size,.slice d.A d.x.ext.length d.c] 113)
    cases hz:decide (d.x.name=[]) with
    | true =>
     have HZ:=zq hz
     have hY:=HYES.out k _ hlt hne (by rw[e];simpa using hz) hb
     have hrl:r<wr.heap.size:=Nat.lt_of_lt_of_le HREG.out.lt hb.size
     have cc:=hY.2.1
     have ff:=hY.2.2
     have HY:=zq (hY.1 (.cells #[St d.x.name,.int .i64 d.x.size,.slice d.A d.x.ext.length d.c] 113))
     clear hY hz hne hb hb3 hd e HYES HNO
     go_wp2_with (first
      | ((with_reducible refine at_ (op:=.index 147 (.tmp 18) (.tmp 19)) ?_);refine zaj rfl _ (zhq 147 (.tmp 18) (.tmp 19) rfl _ _ _ rfl rfl (IX _).out) ?_)
      | ((with_reducible refine at_ (op:=.binOp .eql 9 (.tmp 24) (.const (.string ⟨#[]⟩)) 9) ?_);refine zaj rfl _ (zpk (.tmp 24) (.const (.string ⟨#[]⟩)) rfl _ true HZ.out rfl rfl) ?_))
     exact HY.out
    | false =>
     have HZ:=zq hz
     have HNE:Hid (∀ j,j<k+1→(at' (zas l) j).name≠[]):=fun j hj=>by
      by_cases e2:j=k
      ·subst e2;rw[e];simpa using hz
      ·exact hne j (by omega)
     have HB3:=zq hb3
     clear hz hne hb hb3 hd e HYES HNO
     go_wp2_with (first
      | ((with_reducible refine at_ (op:=.index 147 (.tmp 18) (.tmp 19)) ?_);refine zaj rfl _ (zhq 147 (.tmp 18) (.tmp 19) rfl _ _ _ rfl rfl (IX _).out) ?_)
      | ((with_reducible refine at_ (op:=.binOp .eql 9 (.tmp 24) (.const (.string ⟨#[]⟩)) 9) ?_);refine zaj rfl _ (zpk (.tmp 24) (.const (.string ⟨#[]⟩)) rfl _ false HZ.out rfl rfl) ?_))
     go_roundw
     case rel=>exact⟨k+1,by go_num,by omega,HNE.out,HB3.out⟩
     case measure=>simp[RowKit.intOf];omega
   ·obtain rfl:k=8:=by omega
    have HY:=zq (HNO.out wr hne hb)
    clear hne hb HYES HNO
    go_wp2_with fail
    exact HY.out
 ·rw[zn h0]
  have HG:Hid (∀ w2,Below w.heap.size w w2→zev w r (.tuple #[.int .i64 ((0:Nat):Int),.int .i64 (za2 (zas l) name)]) ⟨bs,zas l⟩ (.returned (.tuple #[.int .i64 0,.int .i64 (za2 (zas l) name)])) w2):=fun w2 b2=>zdp h b2 _
  have e0:(za2 (zas l) name != 0)=true:=by simpa using h0
  clear h hn h0
  generalize zev w r _ _=G at *
  generalize za2 (zas l) name=E at *
  go_enter Tryz.func149,Tryz.ntmps149
  go_wp2_with fail
  refine HF.out.mono ?_
  rintro e w2 ⟨rfl,b2⟩
  have HG2:=zq (HG.out w2 b2)
  clear b2 HG HF
  go_wp2_with fail
  exact HG2.out
theorem zwp {w:World} {r:Nat} {bs:List UInt8} {l:List ND} (h:RegAt w r bs l)(f t:List UInt8)(hf:f.length≤9223372036854775807)(ht:t.length≤9223372036854775807):
  Calls Tryz.prog 88 #[.pointer (some ⟨r,0,none⟩),St f,St t] w (zev w r (.int .i64 (zbe ⟨bs,zas l⟩ f t).1) (zbe ⟨bs,zas l⟩ f t).2):=by
 have hb1:Below w.heap.size w (w.alloc (.cells #[St f,St t] 9)):=(Below.refl _ _).alloc (Nat.le_refl _) _
 have hx:(w.alloc (.cells #[St f,St t] 9)).heap[w.heap.size]?=some (.cells #[St f,St t] 9 (0,0)):=heap_alloc_new w _
 have ht1:TextR (w.alloc (.cells #[St f,St t] 9)) w.heap.size [f,t]:=by
  refine⟨by simp,fun k hk=>?_⟩
  simp only[List.length_cons,List.length_nil] at hk
  rw[cell_of_row _ _ _ _ _ _ hx]
  match k,hk with
  | 0,_=>rfl
  | 1,_=>rfl
 have hrefl:=zl2 (ss:=[f,t]) 2 ht1 (by simp) (by simp[hf,ht])
 have HR:=zq hrefl
 have HB1:=zq hb1
 have HREG:=zq h
 generalize hG:zev w r _ _=G
 clear hb1 hx ht1 hrefl h
 by_cases hnb:zbg f=false∨zbg t=false
 ·have e1:zt6 [f,t]=121:=by
   unfold zt6
   rw[zn]
   simp only[List.all_cons,List.all_nil,Bool.and_true,Bool.and_eq_true]
   rintro⟨a,b⟩
   rcases hnb with e | e
   ·rw[e] at a;cases a
   ·rw[e] at b;cases b
  have HG:Hid (∀ w2,Below w.heap.size w w2→G (.returned (.int .i64 121)) w2):=fun w2 b2=>by
   rw[← hG]
   unfold zbe
   rw[zp hnb]
   exact zdp HREG.out b2 _
  rw[e1] at HR
  clear hG hnb e1
  go_enter Tryz.func88,Tryz.ntmps88
  go_wp2_with fail
  refine HR.out.mono ?_
  rintro e w2 ⟨rfl,b2⟩
  have HG2:=zq (HG.out w2 (HB1.out.trans (b2.mono HB1.out.size)))
  clear b2 HG HR HB1
  go_wp2_with fail
  exact HG2.out
 ·have e1:zt6 [f,t]=0:=by
   unfold zt6
   rw[zp]
   simp only[List.all_cons,List.all_nil,Bool.and_true,Bool.and_eq_true]
   refine⟨?_,?_⟩
   ·cases h:zbg f with
    | true=>rfl
    | false=>exact absurd (.inl h) hnb
   ·cases h:zbg t with
    | true=>rfl
    | false=>exact absurd (.inr h) hnb
  rw[e1] at HR
  by_cases h0:za5 (zas l) f=0
  ·obtain⟨_,i,hi⟩:=findE_zero.1 h0
   have hlt:=(zcp hi).1
   have ei:zbi (zas l) f=i:=by unfold zbi;rw[(findE_zero.1 h0).1,hi];rfl
   have HF:Hid (∀ w2,Below w.heap.size w w2→Calls Tryz.prog 97 #[.pointer (some ⟨r,0,none⟩),St f] w2 (zcx w2 (.tuple #[.int .i64 ((i:Nat):Int),.int .i64 0]))):=fun w2 b2=>by
    have:=zpj (HREG.out.below b2) f hf
    rwa [ei,h0] at this
   by_cases ha:za2 (zas l) t=0
   ·have HA:Hid (∀ w2,Below w.heap.size w w2→Calls Tryz.prog 125 #[.pointer (some ⟨r,0,none⟩),St t] w2 (zcx w2 (.int .i64 0))):=fun w2 b2=>by
     have:=zkf (HREG.out.below b2) t ht
     rwa [ha] at this
    have HYES:Hid (∀ w2,Below w.heap.size w w2→G (.returned (.int .i64 0)) (w2.setCell ⟨r,2048+i*3,none⟩ (St t))∧(∃ v,w2.cell? ⟨r,2048+i*3,none⟩=some v)∧w2.frozen? ⟨r,2048+i*3,none⟩=false):=fun w2 b2=>by
     have hr2:=HREG.out.below b2
     obtain⟨d,hd,e,_⟩:=hr2.get hlt
     obtain⟨p1,p2⟩:=hr2.putName hlt hd t (zhu ha)
     refine⟨?_,⟨_,(hr2.nodeC hd).1⟩,frozen_of_row _ _ _ _ _ hr2.hd⟩
     rw[← hG]
     unfold zbe
     rw[zn hnb,zp h0,zp ha,ei]
     refine⟨rfl,⟨_,?_,p1⟩,(zav r b2).trans p2⟩
     show zas (l.set i (zz2 d t))=(zas l).set i ⟨t,(at' (zas l) i).size,(at' (zas l) i).ext⟩
     rw[zi5,e]
     rfl
    clear hG hnb e1 h0 hi ei ha HREG
    go_enter Tryz.func88,Tryz.ntmps88
    go_wp2_with fail
    refine HR.out.mono ?_
    rintro e w2 ⟨rfl,b2⟩
    have HB2:=zq (HB1.out.trans (b2.mono HB1.out.size))
    clear b2 HR HB1
    go_wp2_with fail
    refine(HF.out w2 HB2.out).mono ?_
    rintro e w3 ⟨rfl,b3⟩
    have HB3:=zq (HB2.out.trans (b3.mono HB2.out.size))
    clear b3 HF HB2
    go_wp2_with fail
    refine(HA.out w3 HB3.out).mono ?_
    rintro e w4 ⟨rfl,b4⟩
    obtain⟨g1,⟨v,cc⟩,ff⟩:=HYES.out w4 (HB3.out.trans (b4.mono HB3.out.size))
    have HG2:=zq g1
    clear b4 HA HB3 HYES g1
    go_wp2_with fail
    exact HG2.out
   ·have HA:Hid (∀ w2,Below w.heap.size w w2→Calls Tryz.prog 125 #[.pointer (some ⟨r,0,none⟩),St t] w2 (zcx w2 (.int .i64 (za2 (zas l) t)))):=fun w2 b2=>zkf (HREG.out.below b2) t ht
    have HG:Hid (∀ w2,Below w.heap.size w w2→G (.returned (.int .i64 (za2 (zas l) t))) w2):=fun w2 b2=>by
     rw[← hG]
     unfold zbe
     rw[zn hnb,zp h0,zn ha]
     exact zdp HREG.out b2 _
    have e0:(za2 (zas l) t != 0)=true:=by simpa using ha
    clear hG hnb e1 h0 hi ei ha HREG
    generalize za2 (zas l) t=E at *
    go_enter Tryz.func88,Tryz.ntmps88
    go_wp2_with fail
    refine HR.out.mono ?_
    rintro e w2 ⟨rfl,b2⟩
    have HB2:=zq (HB1.out.trans (b2.mono HB1.out.size))
    clear b2 HR HB1
    go_wp2_with fail
    refine(HF.out w2 HB2.out).mono ?_
    rintro e w3 ⟨rfl,b3⟩
    have HB3:=zq (HB2.out.trans (b3.mono HB2.out.size))
    clear b3 HF HB2
    go_wp2_with fail
    refine(HA.out w3 HB3.out).mono ?_
    rintro e w4 ⟨rfl,b4⟩
    have HG2:=zq (HG.out w4 (HB3.out.trans (b4.mono HB3.out.size)))
    clear b4 HA HB3 HG
    go_wp2_with fail
    exact HG2.out
  ·have HF:Hid (∀ w2,Below w.heap.size w w2→Calls Tryz.prog 97 #[.pointer (some ⟨r,0,none⟩),St f] w2 (zcx w2 (.tuple #[.int .i64 ((zbi (zas l) f:Nat):Int),.int .i64 (za5 (zas l) f)]))):=fun w2 b2=>zpj (HREG.out.below b2) f hf
   have HG:Hid (∀ w2,Below w.heap.size w w2→G (.returned (.int .i64 (za5 (zas l) f))) w2):=fun w2 b2=>by
    rw[← hG]
    unfold zbe
    rw[zn hnb,zn h0]
    exact zdp HREG.out b2 _
   have e0:(za5 (zas l) f != 0)=true:=by simpa using h0
   clear hG hnb e1 h0 HREG
   generalize za5 (zas l) f=E at *
   generalize zbi (zas l) f=N at *
   go_enter Tryz.func88,Tryz.ntmps88
   go_wp2_with fail
   refine HR.out.mono ?_
   rintro e w2 ⟨rfl,b2⟩
   have HB2:=zq (HB1.out.trans (b2.mono HB1.out.size))
   clear b2 HR HB1
   go_wp2_with fail
   refine(HF.out w2 HB2.out).mono ?_
   rintro e w3 ⟨rfl,b3⟩
   have HG2:=zq (HG.out w3 (HB2.out.trans (b3.mono HB2.out.size)))
   clear b3 HF HB2 HG
   go_wp2_with fail
   exact HG2.out
end Fs
end Go.Proofs.YtdopfpcjpjlkmaaGreatDoor
