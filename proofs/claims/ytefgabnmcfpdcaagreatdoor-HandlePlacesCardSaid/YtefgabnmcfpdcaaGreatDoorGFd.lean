/- merged -/
import Derived.Test.YtefgabnmcfpdcaaGreatDoorGFc
set_option maxHeartbeats 2000000
set_option maxRecDepth 100000
set_option linter.unusedSimpArgs false
set_option linter.unusedVariables false
namespace Go.Proofs.YtefgabnmcfpdcaaGreatDoor
namespace Fs
open Go.RowKit Ex Ino Mm
theorem zk7 (ns:List IN)(b:Nat):∀ pre,(zeo ns pre).testBit b=true↔∃ i∈pre,b∈za3 (at' ns i).ext:=zf3 (by simp[zeo]) fun q i ih=>by
 rw[zg2,Nat.testBit_or,Bool.or_eq_true,ih,zgy,zbq,decide_eq_true_iff]
 constructor
 ·rintro(⟨j,hj,h⟩ | h)
  ·exact⟨j,List.mem_append_left _ hj,h⟩
  ·exact⟨i,by simp,h⟩
 ·rintro⟨j,hj,h⟩
  rcases List.mem_append.1 hj with hj | hj
  ·exact .inl ⟨j,hj,h⟩
  ·rw[List.mem_singleton] at hj
   subst hj
   exact .inr h
theorem yej (a b:Nat):a &&& b=0↔∀ i,b.testBit i=true→¬a.testBit i=true:=by
 constructor
 ·intro h i hb ha
  have:=congrArg (fun n=>n.testBit i) h
  simp only[Nat.testBit_and,Nat.zero_testBit,ha,hb] at this
  cases this
 ·intro h
  refine zi2 fun i=>?_
  rw[Nat.testBit_and,Nat.zero_testBit]
  cases hb:b.testBit i with
  | false=>simp
  | true =>
   have:=h i hb
   simp only[Bool.not_eq_true] at this
   rw[this]
   rfl
def Sep (ns:List IN) (i j:Nat):Prop:=(at' ns i).name≠(at' ns j).name∧∀ b∈za3 (at' ns i).ext,b ∉ za3 (at' ns j).ext
theorem Sep.symm {ns:List IN} {i j:Nat} (h:Sep ns i j):Sep ns j i:=⟨fun e=>h.1 e.symm,fun b hb hc=>h.2 b hc hb⟩
theorem zxg (ns:List IN)(q:List Nat)(i:Nat):zi5 ns q i=true↔∀ j∈q,Sep ns j i:=by
 unfold zi5
 rw[Bool.and_eq_true,decide_eq_true_iff,yej,Bool.not_eq_true',List.contains_eq_mem,decide_eq_false_iff_not]
 constructor
 ·rintro⟨h1,h2⟩ j hj
  refine⟨fun e=>h1 (List.mem_map.2 ⟨j,hj,e⟩),fun b hb hc=>?_⟩
  exact h2 b (by rw[zgy,zbq];exact decide_eq_true hc) ((zk7 ns b q).2 ⟨j,hj,hb⟩)
 ·intro h
  refine⟨fun hm=>?_,fun b hb hu=>?_⟩
  ·obtain⟨j,hj,e⟩:=List.mem_map.1 hm
   exact(h j hj).1 e
  ·rw[zgy,zbq,decide_eq_true_iff] at hb
   obtain⟨j,hj,hc⟩:=(zk7 ns b q).1 hu
   exact(h j hj).2 b hc hb
theorem zsr (ns:List IN):∀ pre,zi4 ns pre↔pre.Pairwise (Sep ns):=zf3 (by simp[znq]) fun q i ih=>by
 rw[zh7,ih,zxg,List.pairwise_append]
 simp
theorem zil {R:Nat→Nat→Prop}:∀ {l:List Nat},l.Pairwise (· < ·)→(l.Pairwise R↔∀ i∈l,∀ j∈l,i<j→R i j)
 | [],_=>by simp
 | a::l,h=>by
  obtain⟨h1,h2⟩:=List.pairwise_cons.1 h
  rw[List.pairwise_cons,zil h2]
  constructor
  ·rintro⟨k1,k2⟩ i hi j hj hlt
   rcases List.mem_cons.1 hi with e1 | hi2
   ·subst e1
    rcases List.mem_cons.1 hj with e2 | hj2
    ·omega
    ·exact k1 j hj2
   ·rcases List.mem_cons.1 hj with e2 | hj2
    ·have:=h1 i hi2;omega
    ·exact k2 i hi2 j hj2 hlt
  ·intro k
   exact⟨fun j hj=>k a (by simp) j (by simp[hj]) (h1 j hj),fun i hi j hj hlt=>k i (by simp[hi]) j (by simp[hj]) hlt⟩
theorem zzq (ns:List IN):(zi9 ns).Pairwise (· < ·):=List.Pairwise.filter _ List.pairwise_lt_range
theorem idxL_mem {ns:List IN} {i:Nat}:i∈zi9 ns↔i<8∧isF (at' ns i)=true:=by simp[zi9]
def zsv (ns:List IN):Prop:=∀ i j,i<8→j<8→i≠j→isF (at' ns i)=true→isF (at' ns j)=true→Sep ns i j
theorem zmf (ns:List IN):zi4 ns (zi9 ns)↔zsv ns:=by
 rw[zsr,zil (zzq ns)]
 constructor
 ·intro h i j hi hj hne fi fj
  rcases Nat.lt_or_gt_of_ne hne with h1 | h1
  ·exact h i (idxL_mem.2 ⟨hi,fi⟩) j (idxL_mem.2 ⟨hj,fj⟩) h1
  ·exact(h j (idxL_mem.2 ⟨hj,fj⟩) i (idxL_mem.2 ⟨hi,fi⟩) h1).symm
 ·intro h i hi j hj hlt
  exact h i j (idxL_mem.1 hi).1 (idxL_mem.1 hj).1 (by omega) (idxL_mem.1 hi).2 (idxL_mem.1 hj).2
theorem zen (ns:List IN)(b:Nat):(zaq ns).testBit b=true↔∃ i,i<8∧isF (at' ns i)=true∧b∈za3 (at' ns i).ext:=by
 unfold zaq
 rw[zk7]
 constructor
 ·rintro⟨i,hi,h⟩
  exact⟨i,(idxL_mem.1 hi).1,(idxL_mem.1 hi).2,h⟩
 ·rintro⟨i,h1,h2,h3⟩
  exact⟨i,idxL_mem.2 ⟨h1,h2⟩,h3⟩
end Fs
namespace Fs
open Go.RowKit Ex Ino Mm
structure RGood (g:RG):Prop where
 bl:g.bs.length=2048
 nl:g.ns.length=8
 nd:∀ i,i<8→at' g.ns i=in0∨zd4 (at' g.ns i)=true
 ap:zsv g.ns
theorem zbr (bs:List UInt8){i:Nat} (h:i<8):at' (zaa bs) i=zdt (zaw bs (1+i)):=by
 unfold at' zaa
 simp[List.getD_eq_getElem?_getD,h]
theorem zh6 (b:List UInt8):zdt b=in0∨zd4 (zdt b)=true:=by
 unfold zdt
 by_cases h:zfa b=true
 ·rw[if_pos h]
  unfold zfa at h
  simp only[Bool.and_eq_true] at h
  exact .inr h.1
 ·rw[if_neg h]
  exact .inl rfl
theorem zgd {M:List UInt8} (hm:M.length=8192)(h:okP M):RGood ⟨zab M,zaa (zab M)⟩:=by
 refine⟨by simp[zab,hm],zbl _,fun i hi=>?_,?_⟩
 ·simp only[zbr _ hi]
  exact zh6 _
 ·exact(zmf _).1 h.2.1
theorem yaz:zd4 in0=false:=by simp[zd4,in0,zbf]
theorem zis:zcb in0=zr64:=by simp[zcb,zql,yaz,padB,zr64]
theorem zft {x:IN} (h:zd4 x=true):zcb x=zdm x:=by
 unfold zcb padB zql
 rw[if_pos h,zay]
 simp
theorem zqm {x:IN} (h:x=in0∨zd4 x=true):zdt (zcb x)=x∧zfz (zcb x)=0:=by
 rcases h with rfl | h
 ·rw[zis]
  exact⟨by simp[zdt,zlz],zl7⟩
 ·rw[zft h]
  unfold zdt zfz
  rw[yc4 h]
  exact⟨by rw[if_pos rfl,(zkk h).1],rfl⟩
theorem zkt (ns:List IN):(ns.flatMap zcb).length=64*ns.length:=by
 induction ns with
 | nil=>rfl
 | cons x r ih=>rw[List.flatMap_cons,List.length_append,zch,ih,List.length_cons];omega
theorem zb7 {g:RG} (h1:g.bs.length=2048)(h2:g.ns.length=8):(zai g).length=2048:=by
 unfold zai
 rw[List.length_append,List.length_append,zbm,zkt,List.length_drop]
 omega
theorem zp0:∀ (ns:List IN) (r:List UInt8) (i:Nat),i<ns.length→zaw (ns.flatMap zcb++r) i=zcb (at' ns i)
 | [],_,_,h=>by simp at h
 | x::ns,r,0,_=>by
  unfold zaw
  rw[List.flatMap_cons,List.append_assoc,Nat.zero_mul,List.drop_zero,List.take_append_of_le_length (by rw[zch];exact Nat.le_refl _),List.take_of_length_le (by rw[zch];exact Nat.le_refl _)]
  rfl
 | x::ns,r,i+1,h=>by
  have ih:=zp0 ns r i (by simpa using h)
  unfold zaw at ih ⊢
  rw[List.flatMap_cons,List.append_assoc,show(i+1)*64=(zcb x).length+i*64 by rw[zch];omega,List.drop_append,List.drop_of_length_le (by omega),List.nil_append,show(zcb x).length+i*64-(zcb x).length=i*64 by omega,ih]
  rfl
theorem zln {h r:List UInt8} (hl:h.length=64)(i:Nat):zaw (h++r) 0=h∧zaw (h++r) (1+i)=zaw r i:=by
 unfold zaw
 constructor
 ·rw[Nat.zero_mul,List.drop_zero,List.take_append_of_le_length (by omega),List.take_of_length_le (by omega)]
 ·rw[show(1+i)*64=h.length+i*64 by omega,List.drop_append,List.drop_of_length_le (by omega),List.nil_append,show h.length+i*64-h.length=i*64 by omega]
theorem zgg (g:RG):zaw (zai g) 0=zb6 (zaq g.ns):=(zln (zbm _) 0).1
theorem zda {g:RG} (h:g.ns.length=8){i:Nat} (hi:i<8):zaw (zai g) (1+i)=zcb (at' g.ns i):=by
 unfold zai
 rw[(zln (zbm _) i).2,zp0 _ _ _ (by omega)]
theorem zdb {g:RG} (h:g.ns.length=8){b:Nat} (hb:9≤b):zaw (zai g) b=zaw g.bs b:=by
 obtain⟨k,rfl⟩:∃ k,b=1+(8+k):=⟨b-9,by omega⟩
 unfold zai
 rw[(zln (zbm _) _).2]
 unfold zaw
 rw[show(8+k)*64=(g.ns.flatMap zcb).length+k*64 by rw[zkt,h];omega,List.drop_append,List.drop_of_length_le (by omega),List.nil_append,show(g.ns.flatMap zcb).length+k*64-(g.ns.flatMap zcb).length=k*64 by omega,List.drop_drop]
 congr 2
 omega
theorem yf7 {ns ms:List IN} (h1:ns.length=8)(h2:ms.length=8)(h:∀ i,i<8→at' ns i=at' ms i):ns=ms:=by
 apply List.ext_getElem (by omega)
 intro i h3 h4
 have:=h i (by omega)
 unfold at' at this
 rw[List.getD_eq_getElem?_getD,List.getD_eq_getElem?_getD,List.getElem?_eq_getElem h3,List.getElem?_eq_getElem h4] at this
 simpa using this
theorem zvt {g:RG} (h:RGood g):zaa (zai g)=g.ns∧decP (zai g)∧zk6 ⟨zai g,g.ns⟩:=by
 refine⟨yf7 (zbl _) h.nl fun i hi=>?_,fun i hi=>?_,(zmf _).2 h.ap,zgg g⟩
 ·rw[zbr _ hi,zda h.nl hi,(zqm (h.nd i hi)).1]
 ·rw[zda h.nl hi,(zqm (h.nd i hi)).2]
theorem yca {M xs:List UInt8} (hm:M.length=8192)(hx:xs.length=2048):zab (zcs M 6144 xs)=xs:=by
 refine zba (by simp[zab,zcf,hm,hx]) fun k hk=>?_
 have hk':k<2048:=by simpa [zab,zcf,hm] using hk
 have e:(zab (zcs M 6144 xs)).getD k 0=(zcs M 6144 xs).getD (6144+k) 0:=by
  unfold zab
  simp only[List.getD_eq_getElem?_getD,List.getElem?_drop]
 rw[e,zcn _ _ _ _ (by omega),if_pos (by omega),zcw _ _ (by omega)]
 congr 1
 omega
theorem zyd {M:List UInt8} {g:RG} (hm:M.length=8192)(h:RGood g):okP (zcs M 6144 (zai g))∧zab (zcs M 6144 (zai g))=zai g∧zaa (zai g)=g.ns:=by
 obtain⟨h1,h2,h3⟩:=zvt h
 have e:=yca hm (zb7 h.bl h.nl)
 refine⟨?_,e,h1⟩
 unfold okP
 rw[e,h1]
 exact⟨h2,h3⟩
theorem RGood.again {g:RG} (h:RGood g):RGood ⟨zai g,g.ns⟩:=⟨zb7 h.bl h.nl,h.nl,h.nd,h.ap⟩
end Fs
namespace Fs
open Go.RowKit Ex Ino Mm
theorem zdj {ns:List IN} (h:ns.length=8){i:Nat} (hi:i<8)(x:IN)(j:Nat):at' (ns.set i x) j=if j=i then x else at' ns j:=by
 unfold at'
 rw[List.getD_eq_getElem?_getD,List.getElem?_set]
 by_cases e:i=j
 ·subst e
  simp[h,hi]
 ·rw[if_neg e,if_neg (fun e'=>e e'.symm),List.getD_eq_getElem?_getD]
theorem zrz {x:IN} (h:zd4 x=true):isF x=true:=by
 have:=(zce h).1.1
 unfold isF
 rw[decide_eq_true_iff]
 intro e
 rw[e] at this
 simp at this
theorem yf9:isF in0=false:=rfl
theorem RGood.isF_iff {g:RG} (h:RGood g){i:Nat} (hi:i<8):isF (at' g.ns i)=true↔zd4 (at' g.ns i)=true:=by
 rcases h.nd i hi with e | e
 ·rw[e,yf9,yaz]
 ·exact⟨fun _=>e,fun _=>zrz e⟩
theorem RGood.free {g:RG} (h:RGood g){i:Nat} (hi:i<8)(hn:(at' g.ns i).name=[]):at' g.ns i=in0:=by
 rcases h.nd i hi with e | e
 ·exact e
 ·have:=zrz e
  unfold isF at this
  rw[decide_eq_true_iff] at this
  exact absurd hn this
theorem zub {g:RG} (h:RGood g){i:Nat} (hi:i<8){x:IN} (hx:x=in0∨zd4 x=true){bs:List UInt8} (hb:bs.length=2048)
  (hs:isF x=true→∀ j,j<8→j≠i→isF (at' g.ns j)=true→x.name≠(at' g.ns j).name∧∀ b∈za3 x.ext,b ∉ za3 (at' g.ns j).ext):RGood ⟨bs,g.ns.set i x⟩:=by
 refine⟨hb,by simp[h.nl],fun j hj=>?_,fun j k hj hk hne fj fk=>?_⟩
 ·simp only[zdj h.nl hi]
  split
  ·exact hx
  ·exact h.nd j hj
 ·simp only[zdj h.nl hi] at fj fk ⊢
  unfold Sep
  rw[zdj h.nl hi,zdj h.nl hi]
  by_cases e1:j=i
  ·subst e1
   rw[if_pos rfl] at fj
   rw[if_neg (fun e=>hne e.symm)] at fk
   rw[if_pos rfl,if_neg (fun e=>hne e.symm)]
   exact hs fj k hk (fun e=>hne e.symm) fk
  ·rw[if_neg e1] at fj
   rw[if_neg e1]
   by_cases e2:k=i
   ·subst e2
    rw[if_pos rfl] at fk
    rw[if_pos rfl]
    have:=hs fk j hj e1 fj
    exact⟨fun e=>this.1 e.symm,fun b h1 h2=>this.2 b h2 h1⟩
   ·rw[if_neg e2] at fk
    rw[if_neg e2]
    exact h.ap j k hj hk hne fj fk
theorem zd2 {ns:List IN} {name:List UInt8} {i:Nat} (h:zer ns name=some i):i<8∧isF (at' ns i)=true∧(at' ns i).name=name:=by
 have h1:=List.find?_some h
 have h2:=List.mem_of_find?_eq_some h
 rw[idxL_mem] at h2
 exact⟨h2.1,h2.2,by simpa using h1⟩
theorem zix {ns:List IN} {name:List UInt8} (h:zer ns name=none){i:Nat} (hi:i<8)(hf:isF (at' ns i)=true):(at' ns i).name≠name:=by
 have:=List.find?_eq_none.1 h i (idxL_mem.2 ⟨hi,hf⟩)
 simpa using this
theorem findE_zero {ns:List IN} {name:List UInt8}:zbd ns name=0↔zbf name=true∧∃ i,zer ns name=some i:=by
 unfold zbd
 cases zbf name with
 | false=>simp
 | true =>
  cases zer ns name with
  | none=>simp
  | some i=>simp
theorem zwt {ns:List IN} {name:List UInt8}:zbd ns name=123↔zbf name=true∧zer ns name=none:=by
 unfold zbd
 cases zbf name with
 | false=>simp
 | true =>
  cases zer ns name with
  | none=>simp
  | some i=>simp
theorem absent_zero {ns:List IN} {name:List UInt8}:za8 ns name=0↔zbf name=true∧zer ns name=none:=by
 unfold za8
 rw[← zwt]
 by_cases h0:zbd ns name=0
 ·rw[if_pos h0,h0]
  simp
 ·rw[if_neg h0]
  by_cases h1:zbd ns name=123
  ·rw[if_pos h1]
   simp[h1]
  ·rw[if_neg h1]
   simp[h0,h1]
theorem nodeE_zero {ns:List IN} {n:Int}:za0 ns n=0↔(0≤n∧n<8)∧isF (at' ns n.toNat)=true:=by
 unfold za0 isF
 by_cases h:n<0∨8≤n
 ·rw[if_pos h]
  constructor
  ·intro e;cases e
  ·rintro⟨⟨_,_⟩,_⟩;omega
 ·rw[if_neg h]
  by_cases h1:(at' ns n.toNat).name=[]
  ·rw[if_pos h1]
   simp[h1]
  ·rw[if_neg h1]
   simp only[h1,ne_eq,not_false_eq_true,decide_true,and_true,true_iff]
   omega
theorem ztw {s:List UInt8} (h:zbf s=true):s≠[]:=by
 unfold zbf at h
 simp only[Bool.and_eq_true,decide_eq_true_eq] at h
 intro e
 rw[e] at h
 simp at h
theorem ok_nil:ok []=true:=rfl
theorem yed:za3 []=[]:=rfl
theorem yax {name:List UInt8} (h:zbf name=true):zd4 ⟨name,0,[]⟩=true:=by
 unfold zd4
 simp[h,ok_nil,yed,zbo]
theorem zz7 {ns:List IN} {i:Nat} (h:zhk ns=some i):i<8∧(at' ns i).name=[]:=by
 have h1:=List.find?_some h
 have h2:=List.mem_of_find?_eq_some h
 exact⟨by simpa using h2,by simpa using h1⟩
theorem zl8 {g:RG} (h:RGood g)(name:List UInt8)(he:(zae g name).1=0):
  ∃ i,zhk g.ns=some i∧za8 g.ns name=0∧zae g name=(0,i,⟨g.bs,g.ns.set i ⟨name,0,[]⟩⟩)∧RGood ⟨g.bs,g.ns.set i ⟨name,0,[]⟩⟩:=by
 unfold zae at he ⊢
 by_cases ha:za8 g.ns name=0
 ·rw[if_pos ha] at he
  rw[if_pos ha]
  cases hf:zhk g.ns with
  | none=>rw[hf] at he;cases he
  | some i =>
   obtain⟨hi,hn⟩:=zz7 hf
   obtain⟨h1,h2⟩:=absent_zero.1 ha
   refine⟨i,rfl,ha,?_,zub h hi (.inr (yax h1)) h.bl fun _ j hj hne fj=>⟨fun e=>zix h2 hj fj e.symm,fun b hb=>by cases hb⟩⟩
   simp only[h.free hi hn]
   rfl
 ·rw[if_neg ha] at he
  exact absurd he ha
theorem yay {x:IN} (h:zd4 x=true){t:List UInt8} (ht:zbf t=true):zd4 { x with name:=t }=true:=by
 unfold zd4 at h ⊢
 simp only[Bool.and_eq_true] at h ⊢
 exact⟨ht,h.2⟩
theorem zg3 {l:List EX} (h:ok l=true)(u:Nat){m:Nat} (hm:m≤(zap l).length):(zbh l u m).2.2=0∧ok (zbh l u m).1=true∧zap (zbh l u m).1=(zap l).take m:=by
 have e:zbh l u m=(zc1 [] ((zap l).take m),zkx u (zby ((zap l).drop m)),0):=by
  unfold zbh
  rw[if_neg (by rw[h];rintro(h | h | h);cases h;omega;omega),Int.toNat_natCast]
 rw[e]
 have:=zsc ((zap l).take m) [] rfl (by simpa [zap] using (zcj l h).take m)
 exact⟨rfl,this.1,by simpa [zap] using this.2⟩
theorem zor {l:List EX} (h:ok l=true){u:Nat} (hu:∀ b∈zap l,u.testBit b=true){k:Nat} (hk:k≤(zbb u).length):(zcp l u k).2.2=0∧ok (zcp l u k).1=true∧zap (zcp l u k).1=zap l++(zbb u).take k:=by
 have e:zcp l u k=(zc1 l ((zbb u).take k),u ||| zby ((zbb u).take k),0):=by
  unfold zcp
  rw[if_neg (by rw[h];rintro(h | h);cases h;omega),if_neg (by omega),Int.toNat_natCast]
 rw[e]
 have hg:=(zb0 u).take k
 have hz:∀ b∈(zbb u).take k,u.testBit b=false:=fun b hb=>(frL_mem.1 (List.mem_of_mem_take hb)).2.2
 have:=zsc ((zbb u).take k) l h ⟨List.nodup_append.2 ⟨(zcj l h).1,hg.1,fun a ha b hb' e=>by
  subst e
  have h1:=hu a ha
  rw[hz a hb'] at h1
  cases h1⟩,fun b hb'=>by
   rcases List.mem_append.1 hb' with h1 | h1
   ·exact(zcj l h).2 b h1
   ·exact hg.2 b h1⟩
 exact⟨rfl,this⟩
theorem zqf {l:List EX} (h:ok l=true){u:Nat} {k:Nat} (hk:(zbb u).length<k):(zcp l u k).2.2=50:=by
 unfold zcp
 rw[if_neg (by rw[h];rintro(h | h);cases h;omega),if_pos (by omega)]
theorem ziw {l:List EX} (h:ok l=true){u:Nat} (hu:∀ b∈zap l,u.testBit b=true)(m:Nat):zh9 l u m=0↔m-(zap l).length≤(zbb u).length:=by
 unfold zh9
 rw[zar h]
 by_cases hlt:(zap l).length<m
 ·rw[if_pos hlt,show((m:Int)-((zap l).length:Int))=((m-(zap l).length:Nat):Int) by omega]
  by_cases hk:m-(zap l).length≤(zbb u).length
  ·rw[if_pos (zor h hu hk).1]
   simp[hk]
  ·rw[if_neg (by rw[zqf h (by omega)];decide)]
   constructor
   ·intro e;cases e
   ·intro e;exact absurd e hk
 ·rw[if_neg hlt]
  have:=(zg3 h u (m:=m) (by omega)).1
  rw[this]
  simp only[true_iff]
  omega
theorem zuh {l:List EX} (h:ok l=true){u:Nat} (hu:∀ b∈zap l,u.testBit b=true)(m:Nat):zh9 l u m=0∨zh9 l u m=125:=by
 unfold zh9
 rw[zar h]
 by_cases hlt:(zap l).length<m
 ·rw[if_pos hlt]
  split
  ·exact .inl rfl
  ·exact .inr rfl
 ·rw[if_neg hlt]
  exact .inl (zg3 h u (m:=m) (by omega)).1
theorem zh4 {l:List EX} (h:ok l=true){u:Nat} (hu:∀ b∈zap l,u.testBit b=true){m:Nat} (he:zh9 l u m=0):
  ok (zeq l u m)=true∧(zap (zeq l u m)).length=m∧zap (zeq l u m)=(zap l).take m++(zbb u).take (m-(zap l).length):=by
 have hk:=(ziw h hu m).1 he
 unfold zeq
 rw[zar h]
 by_cases hlt:(zap l).length<m
 ·rw[if_pos hlt,show((m:Int)-((zap l).length:Int))=((m-(zap l).length:Nat):Int) by omega]
  obtain⟨h1,h2,h3⟩:=zor h hu hk
  rw[if_pos h1,List.take_of_length_le (by omega)]
  refine⟨h2,?_,h3⟩
  rw[h3,List.length_append,List.length_take]
  omega
 ·rw[if_neg hlt]
  obtain⟨_,h2,h3⟩:=zg3 h u (m:=m) (by omega)
  refine⟨h2,by rw[h3,List.length_take];omega,?_⟩
  rw[h3,show m-(zap l).length=0 by omega]
  simp
theorem zc3 {bs all:List UInt8} (bl:List Nat)(hb:bs.length=2048)(hg:∀ b∈bl,b<32):∀ k,k≤bl.length→64*k≤all.length→(zdq bs bl all k).length=2048
 | 0,_,_=>hb
 | k+1,hk,ha=>by
  have ih:=zc3 (all:=all) bl hb hg k (by omega) (by omega)
  have h1:bl.getD k 0<32:=by
   rw[List.getD_eq_getElem?_getD,List.getElem?_eq_getElem (by omega)]
   exact hg _ (List.getElem_mem _)
  have h2:(zaw all k).length=64:=by unfold zaw;rw[List.length_take,List.length_drop];omega
  show(splice _ _ _).length=_
  unfold splice
  simp only[List.length_append,List.length_take,List.length_drop,h2,ih]
  omega
theorem zdd {bs:List UInt8} (hb:bs.length=2048)(l:List EX):(zam bs l).length=64*(za3 l).length:=by
 unfold zam
 have hg:=fun b hb=>((za2 l).2 b hb).2
 generalize za3 l=bl at *
 induction bl with
 | nil=>rfl
 | cons x r ih =>
  rw[List.flatMap_cons,List.length_append,ih (fun b h=>hg b (by simp[h])),List.length_cons]
  have:=hg x (by simp)
  unfold zaw
  rw[List.length_take,List.length_drop]
  omega
theorem zhd (xs:List UInt8)(k size:Nat):(zjs xs k size).length=k:=by
 unfold zjs
 rw[List.length_append,List.length_replicate,List.length_take]
 omega
theorem RGood.bits {g:RG} (h:RGood g){i:Nat} (hi:i<8)(fi:isF (at' g.ns i)=true):ok (at' g.ns i).ext=true∧∀ b∈zap (at' g.ns i).ext,(zaq g.ns).testBit b=true:=by
 have h1:=(zce ((h.isF_iff hi).1 fi)).2.2.2.1
 refine⟨h1,fun b hb=>(zen _ _).2 ⟨i,hi,fi,by rw[zar h1];exact hb⟩⟩
theorem zff {n:Int} (h0:0≤n)(h1:n≤1472):0≤zbo n∧zbo n≤23∧n≤zbo n*64∧zbo n*64<n+64:=by
 unfold zbo
 split<;>omega
theorem ze5 {g:RG} (h:RGood g){n size:Int} (he:zci g n size=0):
  ((0≤n∧n<8)∧isF (at' g.ns n.toNat)=true)∧(0≤size∧size≤1472)∧zh9 (at' g.ns n.toNat).ext (zaq g.ns) (zbo size).toNat=0∧za1 g.ns n=at' g.ns n.toNat∧RGood (zcg g n size):=by
 unfold zci at he
 by_cases h0:za0 g.ns n≠0
 ·rw[if_pos h0] at he;exact absurd he h0
 rw[if_neg h0] at he
 have h0:za0 g.ns n=0:=by simpa using h0
 obtain⟨hn,fn⟩:=nodeE_zero.1 h0
 by_cases h1:size<0
 ·rw[if_pos h1] at he;cases he
 rw[if_neg h1] at he
 by_cases h2:1472<size
 ·rw[if_pos h2] at he;cases he
 rw[if_neg h2] at he
 have ex:za1 g.ns n=at' g.ns n.toNat:=by unfold za1;rw[if_pos h0]
 rw[ex] at he
 refine⟨⟨hn,fn⟩,⟨by omega,by omega⟩,he,ex,?_⟩
 obtain⟨b1,b2⟩:=h.bits (show n.toNat<8 by omega) fn
 obtain⟨f1,f2,f3⟩:=zh4 b1 b2 he
 have nb:=zff (show 0≤size by omega) (show size≤1472 by omega)
 have hc:=(h.isF_iff (show n.toNat<8 by omega)).1 fn
 unfold zcg
 simp only[ex]
 refine zub h (by omega) (.inr ?_) ?_ ?_
 ·unfold zd4 at hc ⊢
  simp only[Bool.and_eq_true,decide_eq_true_eq] at hc ⊢
  rw[zar f1,f2]
  exact⟨hc.1,by omega,by omega,f1,by omega⟩
 ·unfold zbj
  refine zc3 _ h.bl (fun b hb=>((za2 _).2 b hb).2) _ (Nat.le_refl _) ?_
  rw[zhd,zar f1,f2]
  omega
 ·intro _ j hj hne fj
  have sp:=h.ap n.toNat j (by omega) hj (fun e=>hne e.symm) fn fj
  refine⟨sp.1,fun b hb hc2=>?_⟩
  simp only at hb
  rw[zar f1,f3] at hb
  rcases List.mem_append.1 hb with hb | hb
  ·exact sp.2 b (by rw[zar b1];exact List.mem_of_mem_take hb) hc2
  ·have h3:=(frL_mem.1 (List.mem_of_mem_take hb)).2.2
   rw[(zen _ _).2 ⟨j,hj,fj,hc2⟩] at h3
   cases h3
theorem ycd {g:RG} (h:RGood g){n a:Int} {b:List UInt8} (ha:0≤a)(hf:a.toNat+b.length≤64*(za3 (at' g.ns n.toNat).ext).length):RGood (zpy g n a b):=by
 refine⟨?_,h.nl,h.nd,h.ap⟩
 unfold zpy zbj
 refine zc3 _ h.bl (fun b hb=>((za2 _).2 b hb).2) _ (Nat.le_refl _) ?_
 have hw:=zdd h.bl (at' g.ns n.toNat).ext
 unfold splice
 simp only[List.length_append,List.length_take,List.length_drop,hw]
 omega
end Fs
namespace Fs
open Go.RowKit Ex Ino Mm
theorem zbg {bs:List UInt8} (h:bs.length=2048){n:Nat} (hn:n<32):(zaw bs n).length=64:=by
 unfold zaw
 rw[List.length_take,List.length_drop,h]
 omega
theorem ze8 {bs x:List UInt8} (h:bs.length=2048)(hx:x.length=64){b c:Nat} (hb:b<32)(hc:c<32):zaw (zau bs b x) c=if c=b then x else zaw bs c:=by
 have hs:(zau bs b x).length=2048:=by
  unfold zau splice
  simp only[List.length_append,List.length_take,List.length_drop,hx,h]
  omega
 refine zba ?_ fun k hk=>?_
 ·rw[zbg hs hc]
  split
  ·exact hx.symm
  ·exact(zbg h hc).symm
 ·rw[zbg hs hc] at hk
  rw[zb5 _ _ _ hk]
  unfold zau
  rw[getD_splice _ _ _ _ (by omega),hx]
  by_cases e:c=b
  ·subst e
   rw[if_pos rfl,if_neg (by omega),if_pos (by omega)]
   congr 1
   omega
  ·rw[if_neg e,zb5 _ _ _ hk]
   by_cases h1:c*64+k<b*64
   ·rw[if_pos h1]
   ·rw[if_neg h1,if_neg (by omega)]
theorem zh2 {bl:List Nat} (hg:∀ b∈bl,b<32){k:Nat} (hk:k<bl.length):bl.getD k 0<32∧bl.getD k 0∈bl:=by
 rw[List.getD_eq_getElem?_getD,List.getElem?_eq_getElem hk]
 exact⟨hg _ (List.getElem_mem _),List.getElem_mem _⟩
theorem zin {all:List UInt8} {k:Nat} (h:64*(k+1)≤all.length):(zaw all k).length=64:=by
 unfold zaw
 rw[List.length_take,List.length_drop]
 omega
theorem zep {bs all:List UInt8} {bl:List Nat} (hb:bs.length=2048)(hg:∀ b∈bl,b<32){c:Nat} (hc:c<32)(hn:c ∉ bl):∀ k,k≤bl.length→64*k≤all.length→zaw (zdq bs bl all k) c=zaw bs c
 | 0,_,_=>rfl
 | k+1,hk,ha=>by
  show zaw (zau _ _ _) c=_
  rw[ze8 (zc3 _ hb hg k (by omega) (by omega)) (zin ha) (zh2 hg (by omega)).1 hc,if_neg (fun e=>hn (by rw[e];exact(zh2 hg (by omega)).2))]
  exact zep hb hg hc hn k (by omega) (by omega)
theorem zgo {bs all:List UInt8} {bl:List Nat} (hb:bs.length=2048)(hg:∀ b∈bl,b<32)(hn:bl.Nodup):∀ k,k≤bl.length→64*k≤all.length→∀ j,j<k→zaw (zdq bs bl all k) (bl.getD j 0)=zaw all j
 | 0,_,_,j,hj=>by omega
 | k+1,hk,ha,j,hj=>by
  show zaw (zau _ _ _) _=_
  rw[ze8 (zc3 _ hb hg k (by omega) (by omega)) (zin ha) (zh2 hg (by omega)).1 (zh2 hg (by omega)).1]
  by_cases e:j=k
  ·subst e
   rw[if_pos rfl]
  ·rw[if_neg,zgo hb hg hn k (by omega) (by omega) j (by omega)]
   rw[List.getD_eq_getElem?_getD,List.getD_eq_getElem?_getD,List.getElem?_eq_getElem (show j<bl.length by omega),List.getElem?_eq_getElem (show k<bl.length by omega)]
   simp only[Option.getD_some]
   intro e2
   exact e ((List.getElem_inj hn).1 e2)
theorem zmy (all:List UInt8):∀ k,64*k≤all.length→(List.range k).flatMap (zaw all)=all.take (64*k)
 | 0,_=>by simp
 | k+1,h=>by
  rw[List.range_succ,List.flatMap_append,zmy all k (by omega)]
  simp only[List.flatMap_cons,List.flatMap_nil,List.append_nil]
  unfold zaw
  rw[show 64*(k+1)=64*k+64 by omega,List.take_add,show k*64=64*k by omega]
theorem znf {bs bs':List UInt8} {bl:List Nat} (h:∀ b∈bl,zaw bs' b=zaw bs b):bl.flatMap (zaw bs')=bl.flatMap (zaw bs):=by
 induction bl with
 | nil=>rfl
 | cons x r ih=>rw[List.flatMap_cons,List.flatMap_cons,h x (by simp),ih fun b hb=>h b (by simp[hb])]
theorem zj1 {bs all:List UInt8} {l:List EX} (hb:bs.length=2048)(ha:all.length=64*(za3 l).length):zam (zbj bs l all) l=all:=by
 have hg:=fun b hb=>((za2 l).2 b hb).2
 have hn:=(za2 l).1
 have h1:=zgo (all:=all) hb hg hn (za3 l).length (Nat.le_refl _) (by omega)
 unfold zam zbj
 have e:(za3 l).flatMap (zaw (zdq bs (za3 l) all (za3 l).length))=(List.range (za3 l).length).flatMap (zaw all):=by
  have e0:za3 l=(List.range (za3 l).length).map fun j=>(za3 l).getD j 0:=by
   apply List.ext_getElem (by simp)
   intro j h2 h3
   simp[List.getD_eq_getElem?_getD,h2]
  conv=>lhs;arg 2;rw[e0]
  rw[List.flatMap_map]
  have:∀ m,m≤(za3 l).length→(List.range m).flatMap (fun j=>zaw (zdq bs (za3 l) all (za3 l).length) ((za3 l).getD j 0))=(List.range m).flatMap (zaw all):=by
   intro m
   induction m with
   | zero=>intro _;rfl
   | succ m ih =>
    intro hm
    rw[List.range_succ,List.flatMap_append,List.flatMap_append,ih (by omega)]
    simp only[List.flatMap_cons,List.flatMap_nil,List.append_nil]
    rw[h1 m (by omega)]
  exact this _ (Nat.le_refl _)
 rw[e,zmy _ _ (by omega),List.take_of_length_le (by omega)]
theorem zk5 {bs all:List UInt8} {l m:List EX} (hb:bs.length=2048)(ha:64*(za3 l).length≤all.length)(hd:∀ b∈za3 m,b ∉ za3 l):zam (zbj bs l all) m=zam bs m:=by
 have hg:=fun b hb=>((za2 l).2 b hb).2
 unfold zam zbj
 exact znf fun b h=>zep hb hg ((za2 m).2 b h).2 (hd b h) _ (Nat.le_refl _) (by omega)
theorem zq6 {g:RG} (h:g.ns.length=8)(l:List EX):zam (zai g) l=zam g.bs l:=by
 unfold zam
 exact znf fun b hb=>zdb h ((za2 l).2 b hb).1
theorem zjv {g:RG} (h:g.ns.length=8)(x:IN):zgx ⟨zai g,g.ns⟩ x=zgx g x:=by
 unfold zgx
 rw[zq6 h]
theorem zr9 {g:RG} (h:g.ns.length=8):zfx ⟨zai g,g.ns⟩=zfx g:=by
 unfold zfx
 simp only[zjv h]
theorem RGood.size {g:RG} (h:RGood g){i:Nat} (hi:i<8):(0≤(at' g.ns i).size∧(at' g.ns i).size≤1472)∧((za3 (at' g.ns i).ext).length:Int)=zbo (at' g.ns i).size∧(at' g.ns i).size≤64*(za3 (at' g.ns i).ext).length:=by
 rcases h.nd i hi with e | e
 ·rw[e]
  refine⟨by decide,by decide,by decide⟩
 ·obtain⟨_,_,h3,_,h5⟩:=zce e
  have:=zff h3.1 h3.2
  exact⟨h3,h5,by omega⟩
theorem zg7 (g:RG)(n size:Int):(zcg g n size).ns=g.ns.set n.toNat ⟨(za1 g.ns n).name,size,zeq (za1 g.ns n).ext (zaq g.ns) (zbo size).toNat⟩:=rfl
theorem zvp (g:RG)(n size:Int):(zcg g n size).bs=zbj g.bs (zeq (za1 g.ns n).ext (zaq g.ns) (zbo size).toNat) (zjs (zam g.bs (za1 g.ns n).ext) ((zbo size).toNat*64) size.toNat):=rfl
theorem zlj {g:RG} (h:RGood g){n size:Int} (he:zci g n size=0){j:Nat} (hj:j<8)(fj:isF (at' g.ns j)=true):
  at' (zcg g n size).ns j=(if j=n.toNat then ⟨(at' g.ns n.toNat).name,size,zeq (at' g.ns n.toNat).ext (zaq g.ns) (zbo size).toNat⟩ else at' g.ns j) ∧
  zam (zcg g n size).bs (at' (zcg g n size).ns j).ext=if j=n.toNat then zjs (zam g.bs (at' g.ns n.toNat).ext) ((zbo size).toNat*64) size.toNat else zam g.bs (at' g.ns j).ext:=by
 obtain⟨⟨hn,fn⟩,hs,hf,ex,hr⟩:=ze5 h he
 obtain⟨b1,b2⟩:=h.bits (show n.toNat<8 by omega) fn
 obtain⟨f1,f2,f3⟩:=zh4 b1 b2 hf
 have nb:=zff hs.1 hs.2
 have e1:at' (zcg g n size).ns j=(if j=n.toNat then ⟨(at' g.ns n.toNat).name,size,zeq (at' g.ns n.toNat).ext (zaq g.ns) (zbo size).toNat⟩ else at' g.ns j):=by
  rw[zg7,zdj h.nl (by omega),ex]
 refine⟨e1,?_⟩
 rw[e1,zvp,ex]
 by_cases e:j=n.toNat
 ·rw[if_pos e,if_pos e]
  exact zj1 h.bl (by rw[zhd,zar f1,f2];omega)
 ·rw[if_neg e,if_neg e]
  refine zk5 h.bl (by rw[zhd,zar f1,f2];omega) fun b hb hc=>?_
  have sp:=h.ap n.toNat j (by omega) hj (fun e'=>e e'.symm) fn fj
  rw[zar f1,f3] at hc
  rcases List.mem_append.1 hc with hc | hc
  ·exact sp.2 b (by rw[zar b1];exact List.mem_of_mem_take hc) hb
  ·have h3:=(frL_mem.1 (List.mem_of_mem_take hc)).2.2
   rw[(zen _ _).2 ⟨j,hj,fj,hb⟩] at h3
   cases h3
theorem yce {g:RG} (h:RGood g){n a:Int} {b:List UInt8} (hn:0≤n∧n<8)(fn:isF (at' g.ns n.toNat)=true)(ha:0≤a)(hf:a.toNat+b.length≤64*(za3 (at' g.ns n.toNat).ext).length){j:Nat} (hj:j<8)(fj:isF (at' g.ns j)=true):
  zam (zpy g n a b).bs (at' g.ns j).ext=if j=n.toNat then splice (zam g.bs (at' g.ns n.toNat).ext) a.toNat b else zam g.bs (at' g.ns j).ext:=by
 have hw:=zdd h.bl (at' g.ns n.toNat).ext
 have hl:(splice (zam g.bs (at' g.ns n.toNat).ext) a.toNat b).length=64*(za3 (at' g.ns n.toNat).ext).length:=by
  unfold splice
  simp only[List.length_append,List.length_take,List.length_drop,hw]
  omega
 show zam (zbj g.bs _ _) _=_
 by_cases e:j=n.toNat
 ·rw[if_pos e,e]
  exact zj1 h.bl hl
 ·rw[if_neg e]
  refine zk5 h.bl (by omega) fun c hb hc=>?_
  exact(h.ap n.toNat j (by omega) hj (fun e'=>e e'.symm) fn fj).2 c hc hb
end Fs
namespace Fs
open Go.RowKit Go.Shelf Ex Ino Mm
attribute [local go_sem] Oper.semAt_some
def ztb (ss:List (List UInt8)):Int:=if ss.all zbf=true then 0 else 121
def TextR (w:World) (g:Nat) (ss:List (List UInt8)):Prop:=g<w.heap.size∧∀ k,k<ss.length→w.cell? ⟨g,k,none⟩=some (St (ss.getD k []))
theorem TextR.below {w w':World} {g:Nat} {ss:List (List UInt8)} (h:TextR w g ss)(hb:Below w.heap.size w w'):TextR w' g ss:=⟨Nat.lt_of_lt_of_le h.1 hb.size,fun k hk=>(hb.cell (p:=⟨g,k,none⟩) h.1).trans (h.2 k hk)⟩
set_option maxRecDepth 100000 in
theorem zlk {w:World} {g:Nat} {ss:List (List UInt8)} (c:Nat)(h:TextR w g ss)(hl:ss.length≤100)(hs:∀ s∈ss,s.length≤9223372036854775807):
  Calls Tryz.prog 145 #[.slice (some ⟨g,0,none⟩) ss.length c] w (zcq w (.int .i64 (ztb ss))):=by
 have HG:Hid (∀ x w',x=ztb ss→Below w.heap.size w w'→zcq w (.int .i64 (ztb ss)) (.returned (.int .i64 x)) w'):=fun x w' h1 h2=>⟨by rw[h1],h2⟩
 generalize zcq w (.int .i64 (ztb ss))=G at *
 have HT:=Lib.hid h
 have HS:=Lib.hid hs
 clear h hs
 go_enter Tryz.func145,Tryz.ntmps145
 go_wp2_with fail
 go_loopw [7] (fun i wr=>∃ k:Nat,i=.int .i64 (k:Int)∧k≤ss.length∧(ss.take k).all zbf=true∧Below w.heap.size w wr) (fun i _=>ss.length-(RowKit.intOf i).toNat)
 case atStart=>exact⟨0,rfl,Nat.zero_le _,by simp,Below.refl _ _⟩
 case round =>
  obtain⟨k,rfl,hk,hall,hb⟩:=hrel
  by_cases hlt:k<ss.length
  ·have h2:=HT.out.below hb
   have ck:=h2.2 k hlt
   have hg:=h2.1
   have hm:ss.getD k []∈ss:=by rw[List.getD_eq_getElem?_getD,List.getElem?_eq_getElem hlt];exact List.getElem_mem _
   have hlen:=HS.out _ hm
   have hstep:(ss.take (k+1)).all zbf=((ss.take k).all zbf && zbf (ss.getD k [])):=by
    rw[List.take_succ_eq_append_getElem hlt,List.all_append,List.getD_eq_getElem?_getD,List.getElem?_eq_getElem hlt]
    simp
   rw[hall,Bool.true_and] at hstep
   have hno:zbf (ss.getD k [])=false→ztb ss=121:=fun hf=>by
    unfold ztb
    rw[if_neg]
    intro ha
    rw[List.all_eq_true] at ha
    rw[ha _ hm] at hf
    cases hf
   have hN:Calls Tryz.prog 128 #[St (ss.getD k [])] wr (zcq wr (.bool (zbf (ss.getD k [])))):=zfg _ wr hlen
   have HN:=Lib.hid hN
   have HST:=Lib.hid hstep
   have HNO:=Lib.hid hno
   have HB:=Lib.hid hb
   clear h2 hm hlen hall hstep hno hN hb
   generalize hq:ss.getD k []=s at *
   generalize zbf s=b at *
   clear hq
   cases b with
   | true =>
    go_wp2_with fail
    refine HN.out.mono ?_
    rintro e w2 ⟨rfl,b2⟩
    have HB2:=Lib.hid (HB.out.trans (b2.mono HB.out.size))
    clear b2 HN HB HNO
    go_wp2_with fail
    go_roundw
    case rel=>exact⟨k+1,by go_num,by omega,HST.out,HB2.out⟩
    case measure=>simp[RowKit.intOf];omega
   | false =>
    have HX:=Lib.hid (HNO.out rfl)
    clear HNO HST
    go_wp2_with fail
    refine HN.out.mono ?_
    rintro e w2 ⟨rfl,b2⟩
    have HB2:=Lib.hid (HB.out.trans (b2.mono HB.out.size))
    clear b2 HN HB
    go_wp2_with fail
    exact HG.out _ _ HX.out.symm HB2.out
  ·obtain rfl:k=ss.length:=by omega
   rw[List.take_length] at hall
   have HX:Hid ((0:Int)=ztb ss):=by show _=_;unfold ztb;rw[if_pos hall]
   have HB:=Lib.hid hb
   clear hall hb
   go_wp2_with fail
   exact HG.out _ _ HX.out HB.out
structure InF (w:World) (name:List UInt8) (n e:Int) (W:World):Prop where
 s0:Boxed W w.heap.size 9 (St name)
 n0:Boxed W (w.heap.size+1) 3 (.int .i64 n)
 e0:Boxed W (w.heap.size+1+1) 36 (.int .i64 e)
theorem zol (w:World)(name:List UInt8)(n e:Int){β:Type}:Own (fun (_:β) W=>InF w name n e W):=fun _ _ _ _ hs hg hr=>⟨zbp hs.s0 hg hr,zbp hs.n0 hg hr,zbp hs.e0 hg hr⟩
theorem InF.below {w:World} {name:List UInt8} {n e:Int} {W W':World} (h:InF w name n e W)(k:Below W.heap.size W W'):InF w name n e W':=
 ⟨(k.block _ h.s0.lt).trans h.s0,(k.block _ h.n0.lt).trans h.n0,(k.block _ h.e0.lt).trans h.e0⟩
theorem InF.store {w:World} {name:List UInt8} {n e:Int} {W:World} (h:InF w name n e W)(n' e':Int):InF w name n' e' ((W.setCell ⟨w.heap.size+1,0,none⟩ (.int .i64 n')).setCell ⟨w.heap.size+1+1,0,none⟩ (.int .i64 e')):=
 ⟨(h.s0.other (by omega) _).other (by omega) _,(h.n0.set _).other (by omega) _,(show Boxed (W.setCell ⟨w.heap.size+1,0,none⟩ (.int .i64 n')) (w.heap.size+1+1) 36 (.int .i64 e) from h.e0.other (by omega) _).set _⟩
def zkf (ns:List IN) (name:List UInt8):Value:=.tuple #[.int .i64 (zbu ns name:Nat),.int .i64 (zbd ns name)]
def NoneP (ns:List IN) (name:List UInt8) (pre:List Nat):Prop:=∀ i∈pre,(at' ns i).name≠name
def InFi (w:World) (ns:List IN) (name:List UInt8) (pre:List Nat) (W:World):Prop:=NoneP ns name pre∧InF w name 0 0 W∧Below w.heap.size w W
def InFx (w:World) (ns:List IN) (name:List UInt8) (c:Code) (pre:List Nat) (W:World):Prop:=c=.ret∧∃ q i,pre=q++[i]∧NoneP ns name q∧(at' ns i).name=name∧InF w name (i:Int) 0 W∧Below w.heap.size w W
theorem zt5 (w:World)(ns:List IN)(name:List UInt8){B:Nat} (hB:w.heap.size≤B):OwnFrom B (InFi w ns name):=fun pre W W' row ⟨h1,h2,h3⟩ hg hr =>
 ⟨h1,zol w name 0 0 () W W' row h2 hg (fun r e=>(hr r e).2),ownFrom_below (Nat.le_refl _) hB () W W' row h3 hg hr⟩
theorem yc8 (w:World)(ns:List IN)(name:List UInt8){B:Nat} (hB:w.heap.size≤B)(c:Code):OwnFrom B (InFx w ns name c):=fun pre W W' row ⟨h1,q,i,h2,h3,h4,h5,h6⟩ hg hr =>
 ⟨h1,q,i,h2,h3,h4,zol w name i 0 () W W' row h5 hg (fun r e=>(hr r e).2),ownFrom_below (Nat.le_refl _) hB () W W' row h6 hg hr⟩
theorem NoneP.snoc {ns:List IN} {name:List UInt8} {q:List Nat} {i:Nat} (h:NoneP ns name q)(hi:(at' ns i).name≠name):NoneP ns name (q++[i]):=fun j hj=>by
 rcases List.mem_append.1 hj with hj | hj
 ·exact h j hj
 ·rw[List.mem_singleton] at hj;subst hj;exact hi
theorem zwr {ns:List IN} {name:List UInt8} {q:List Nat} {i:Nat} (hp:q++[i] <+: zi9 ns)(h:NoneP ns name q)(hi:(at' ns i).name=name):zer ns name=some i:=by
 obtain⟨t,ht⟩:=hp
 unfold zer
 rw[← ht,List.append_assoc,List.find?_append]
 have:q.find? (fun i=>decide ((at' ns i).name=name))=none:=by
  rw[List.find?_eq_none]
  intro j hj
  simpa using h j hj
 rw[this]
 simp[hi]
theorem ydw {ns:List IN} {name:List UInt8} (h:NoneP ns name (zi9 ns)):zer ns name=none:=by
 unfold zer
 rw[List.find?_eq_none]
 intro j hj
 simpa using h j hj
def actF (w:World) (l:List ND) (name:List UInt8) (r g b i:Nat):Act:={ tmps:=#[.pointer (some ⟨r,0,none⟩),St name,undef,.pointer (some ⟨w.heap.size,0,none⟩),.pointer (some ⟨w.heap.size+1,0,none⟩),.pointer (some ⟨w.heap.size+1+1,0,none⟩),.int .i64 0,.int .i64 (i:Int),.pointer (some ⟨b,0,none⟩),St name,.slice (some ⟨w.heap.size+1+1+1,0,none⟩) 1 1,.int .i64 0,.int .i64 0,.bool false,undef,.pointer (some ⟨r,0,none⟩),itf g,.int .i64 (i:Int),Ino.ag (zdi l i).x (zdi l i).A (zdi l i).c,undef,undef,undef,undef,undef],defers:=[] }
def MidF (w:World) (l:List ND) (name:List UInt8) (r g:Nat) (pre:List Nat) (i:Nat) (a:Act) (W:World):Prop:=∃ b,a=actF w l name r g b i∧BoxN W b (zdi l i)∧InFi w (zas l) name pre W
theorem ycw (w:World)(l:List ND)(name:List UInt8)(r g:Nat)(pre:List Nat)(i:Nat){B:Nat} (hB:w.heap.size≤B):OwnFrom B (MidF w l name r g pre i):=fun a W W' row ⟨b,e,h1,h2⟩ hg hr =>
 ⟨b,e,h1.grown hg (fun r e=>(hr r e).2),zt5 w _ name hB pre W W' row h2 hg hr⟩
set_option maxRecDepth 100000 in
theorem zui {w:World} {r:Nat} {bs:List UInt8} {l:List ND} (h:RegAt w r bs l)(name:List UInt8)(hn:name.length≤9223372036854775807):
  Calls Tryz.prog 114 #[.pointer (some ⟨r,0,none⟩),St name] w (zcq w (zkf (zas l) name)):=by
 have hb1:Below w.heap.size w ((((w.alloc (.cells #[St name] 9)).alloc (.cells #[.int .i64 0] 3)).alloc (.cells #[.int .i64 0] 36)).alloc (.cells #[St name] 9)):=((((Below.refl _ _).alloc (Nat.le_refl _) _).alloc (by simp) _).alloc (by simp;omega) _).alloc (by simp;omega) _
 have hi1:InF w name 0 0 ((((w.alloc (.cells #[St name] 9)).alloc (.cells #[.int .i64 0] 3)).alloc (.cells #[.int .i64 0] 36)).alloc (.cells #[St name] 9)):=by
  refine⟨(((Boxed.new w 9 (St name)).alloc _).alloc _).alloc _,?_,?_⟩
  ·have:=((Boxed.new (w.alloc (.cells #[St name] 9)) 3 (.int .i64 0)).alloc (.cells #[.int .i64 0] 36)).alloc (.cells #[St name] 9)
   rwa [World.size_alloc] at this
  ·have:=(Boxed.new ((w.alloc (.cells #[St name] 9)).alloc (.cells #[.int .i64 0] 3)) 36 (.int .i64 0)).alloc (.cells #[St name] 9)
   rwa [World.size_alloc,World.size_alloc] at this
 have ht1:TextR ((((w.alloc (.cells #[St name] 9)).alloc (.cells #[.int .i64 0] 3)).alloc (.cells #[.int .i64 0] 36)).alloc (.cells #[St name] 9)) (w.heap.size+1+1+1) [name]:=by
  have hx:=Boxed.new (((w.alloc (.cells #[St name] 9)).alloc (.cells #[.int .i64 0] 3)).alloc (.cells #[.int .i64 0] 36)) 9 (St name)
  rw[World.size_alloc,World.size_alloc,World.size_alloc] at hx
  refine⟨hx.lt,fun k hk=>?_⟩
  simp only[List.length_singleton] at hk
  obtain rfl:k=0:=by omega
  exact hx.cell
 have hrf:ztb [name]=if zbf name=true then 0 else 121:=by simp[ztb]
 have hrefl:=zlk (ss:=[name]) 1 ht1 (by simp) (by simpa using hn)
 rw[hrf] at hrefl
 have HR:=Lib.hid hrefl
 have HI1:=Lib.hid hi1
 have HB1:=Lib.hid hb1
 have HREG:=Lib.hid h
 clear hb1 hi1 ht1 hrf hrefl h
 refine(callsIn_wide (n:=8)).1 ?_
 refine callsIn_of_wp_marks Tryz.func114 rfl trivial ?_ rfl
 simp only[Tryz.ntmps114,List.size_toArray,List.length_cons,List.length_nil,Nat.reduceAdd,Nat.reduceSub,Array.replicate_succ,Array.replicate_zero,List.push_toArray,List.append_toArray,List.nil_append,List.cons_append]
 by_cases hnb:zbf name=true
 ·rw[if_pos hnb] at HR
  have HFV:Hid (∀ i,zer (zas l) name=some i→zkf (zas l) name=.tuple #[.int .i64 (i:Int),.int .i64 0]):=fun i hi=>by
   unfold zkf zbu zbd
   rw[hnb,hi]
   rfl
  have HFN:Hid (zer (zas l) name=none→zkf (zas l) name=.tuple #[.int .i64 0,.int .i64 123]):=fun hi=>by
   unfold zkf zbu zbd
   rw[hnb,hi]
   rfl
  clear hnb
  gi_wp2
  generalize ((((w.alloc (.cells #[St name] 9)).alloc (.cells #[.int .i64 0] 3)).alloc (.cells #[.int .i64 0] 36)).alloc (.cells #[St name] 9))=w0 at *
  refine⟨trivial,?_⟩
  refine(callsIn_wide.2 HR.out).mono ?_
  clear HR
  rintro e w1 ⟨rfl,b1⟩
  have HI2:=Lib.hid (HI1.out.below b1)
  have HB2:=Lib.hid (HB1.out.trans (b1.mono HB1.out.size))
  have HR2:=Lib.hid (HREG.out.below HB2.out)
  clear b1 HI1 HB1
  gi_wp2
  refine⟨trivial,?_⟩
  refine(callsIn_wide.2 (zl3 r w1)).mono ?_
  rintro e w2 ⟨rfl,rfl⟩
  have hbox:=Boxed.new w1 93 (.pointer (some ⟨r,0,none⟩))
  have hb2:Below w1.heap.size w1 (w1.alloc (.cells #[.pointer (some ⟨r,0,none⟩)] 93)):=(Below.refl _ _).alloc (Nat.le_refl _) _
  have H3:=Lib.hid (HR2.out.below hb2)
  have HF3:Hid (InFi w (zas l) name [] (w1.alloc (.cells #[.pointer (some ⟨r,0,none⟩)] 93))):=⟨(fun i hi=>by cases hi),HI2.out.below hb2,HB2.out.trans (hb2.mono HB2.out.size)⟩
  have HBOX:=Lib.hid hbox
  have HS3:Hid (w.heap.size≤(w1.alloc (.cells #[.pointer (some ⟨r,0,none⟩)] 93)).heap.size):=HF3.out.2.2.size
  clear hbox hb2 HI2 HB2 HR2 HREG
  gi_wp2
  generalize w1.alloc (.cells #[.pointer (some ⟨r,0,none⟩)] 93)=w2 at *
  generalize w1.heap.size=g at *
  have hs3:=HS3.out
  refine zfi rfl (by omega) (gf:=137) (lb:=#[.pointer (some ⟨g,0,none⟩)]) rfl trivial (enters_of Tryz.func137 (by kernel_rfl) rfl)
   (zh5 Fence.wide _ trivial rfl (by omega) g r bs l w2 HBOX.out H3.out) (Below.refl _ _) (fun _=>rfl)
   (InFi w (zas l) name) (InFx w (zas l) name) (MidF w l name r g)
   (zt5 w _ name hs3) (fun c=>yc8 w _ name hs3 c) (fun pre i=>ycw w l name r g pre i hs3) HF3.out ?assign ?body ?done ?stop
  case assign =>
   intro y pre i W hi _
   have hk:KeepsOthers W (W.alloc (.cells #[St (zdi l i).x.name,.int .i64 (zdi l i).x.size,.slice (zdi l i).A (zdi l i).x.ext.length (zdi l i).c] 123)):=KeepsOthers.alloc _ _
   have hm:MidF w l name r g pre i (actF w l name r g W.heap.size i) (W.alloc (.cells #[St (zdi l i).x.name,.int .i64 (zdi l i).x.size,.slice (zdi l i).A (zdi l i).x.ext.length (zdi l i).c] 123)):=
    ⟨W.heap.size,rfl,heap_alloc_new W _,hi.1,hi.2.1.below ((Below.refl _ _).alloc (Nat.le_refl _) _),hi.2.2.alloc hi.2.2.size _⟩
   have HK:=Lib.hid hk
   have HM:=Lib.hid hm
   clear hi hs3 hk hm
   gi_wp2
   exact⟨HK.out,HM.out⟩
  case body =>
   rintro y pre i a W ⟨b,rfl,hnn,hu⟩
   obtain⟨c0,c1,c2⟩:=hnn.c
   have cs:=hu.2.1.s0.cell
   have cn:=hu.2.1.n0.cell
   have fn:=hu.2.1.n0.frozen
   have ce:=hu.2.1.e0.cell
   have fe:=hu.2.1.e0.frozen
   have hlt:=hu.2.1.s0.lt
   unfold actF
   clear hs3 c1 c2 hnn
   by_cases hx:(at' (zas l) i).name=name
   ·have HX:Hid (decide ((zdi l i).x.name=name)=true):=by rw[zso] at hx;show _=_;simpa using hx
    have hk2:=(hu.2.2.setCell (p:=⟨w.heap.size+1,0,none⟩) (by show w.heap.size≤w.heap.size+1;omega) (.int .i64 (i:Int))).setCell (p:=⟨w.heap.size+1+1,0,none⟩) (by show w.heap.size≤w.heap.size+1+1;omega) (.int .i64 0)
    have HE:Hid (InFx w (zas l) name .ret (pre++[i]) ((W.setCell ⟨w.heap.size+1,0,none⟩ (.int .i64 (i:Int))).setCell ⟨w.heap.size+1+1,0,none⟩ (.int .i64 0))):=⟨rfl,pre,i,rfl,hu.1,hx,hu.2.1.store i 0,hk2⟩
    clear hu hx hk2
    gi_wp2_with (first | ((with_reducible refine zjy (op:=.binOp .eql 9 (.tmp 20) (.tmp 21) 9) ?_);refine zcr rfl (by intro c h;cases h) rfl _ (HX.out ▸ zl6 (.tmp 20) (.tmp 21) rfl _ _ rfl rfl) ?_))
    exact⟨(KeepsOthers.setCell _ _ _).trans (KeepsOthers.setCell _ _ _),HE.out⟩
   ·have HX:Hid (decide ((zdi l i).x.name=name)=false):=by rw[zso] at hx;show _=_;simpa using hx
    have HE:Hid (InFi w (zas l) name (pre++[i]) W):=⟨hu.1.snoc hx,hu.2⟩
    clear hu hx
    gi_wp2_with (first | ((with_reducible refine zjy (op:=.binOp .eql 9 (.tmp 20) (.tmp 21) 9) ?_);refine zcr rfl (by intro c h;cases h) rfl _ (HX.out ▸ zl6 (.tmp 20) (.tmp 21) rfl _ _ rfl rfl) ?_))
    exact⟨KeepsOthers.refl _,trivial,HE.out⟩
  case done =>
   rintro D ys W hD rfl ⟨hne,hb,hk⟩ hK
   have hv:=HFN.out (ydw hne)
   have cb:=hb.n0.cell
   have fb:=hb.n0.frozen
   have ce:=hb.e0.cell
   have fe:=hb.e0.frozen
   have hk':=(hk.setCell (p:=⟨w.heap.size+1,0,none⟩) (by show w.heap.size≤w.heap.size+1;omega) (.int .i64 0)).setCell (p:=⟨w.heap.size+1+1,0,none⟩) (by show w.heap.size≤w.heap.size+1+1;omega) (.int .i64 123)
   have hst:=hb.store 0 123
   have hKd:=(KeepsOthers.setCell _ ⟨w.heap.size+1+1,0,none⟩ (.int .i64 123)).same D _ ((KeepsOthers.setCell W ⟨w.heap.size+1,0,none⟩ (.int .i64 0)).same D _ hK rfl) rfl
   have HV:=Lib.hid hv
   have HKK:=Lib.hid hk'
   have HST:=Lib.hid hst
   have HKD:=Lib.hid hKd
   clear hne hb hk hv hk' hst hKd
   gi_wp2
   have g2:=grownBy_putObj' ((W.setCell ⟨w.heap.size+1,0,none⟩ (.int .i64 0)).setCell ⟨w.heap.size+1+1,0,none⟩ (.int .i64 123)) D (.deferred none)
   have x2:=zol w name 0 123 () _ _ _ HST.out g2 (fun r e=>by cases e;exact⟨_,HKD.out,rfl⟩)
   have k2:=HKK.out.trans (belowK_b (w:=w) (Nat.le_refl _) _ D _ (.deferred none) (by omega) HKD.out rfl rfl)
   refine⟨by simp,.inl ⟨D,_,rfl,run_takeDeferred HKD.out,?_⟩⟩
   have c1:=x2.n0.cell
   have c2:=x2.e0.cell
   refine⟨.tuple #[.int .i64 0,.int .i64 123],?_,by rw[HV.out],k2⟩
   simp[results,Tryz.f114,go_sem,c1,c2]
  case stop =>
   rintro D c2 pre W hD hpre ⟨rfl,q,i,rfl,hq,hi,hb,hk⟩ hK
   have hv:=HFV.out i (zwr hpre hq hi)
   have HV:=Lib.hid hv
   clear hv hpre hq hi
   gi_wp2
   have g2:=grownBy_putObj' W D (.deferred none)
   have x2:=zol w name i 0 () _ _ _ hb g2 (fun r e=>by cases e;exact⟨_,hK,rfl⟩)
   have k2:=hk.trans (belowK_b (w:=w) (Nat.le_refl _) _ D _ (.deferred none) (by omega) hK rfl rfl)
   refine⟨by simp,.inl ⟨D,_,rfl,run_takeDeferred hK,?_⟩⟩
   have c1:=x2.n0.cell
   have c2:=x2.e0.cell
   refine⟨.tuple #[.int .i64 (i:Int),.int .i64 0],?_,by rw[HV.out],k2⟩
   simp[results,Tryz.f114,go_sem,c1,c2]
 ·have hnb:zbf name=false:=by simpa using hnb
  rw[if_neg (by rw[hnb];decide)] at HR
  have HV:Hid (zkf (zas l) name=.tuple #[.int .i64 0,.int .i64 121]):=by
   show _=_
   unfold zkf zbu zbd
   rw[hnb]
   rfl
  clear hnb
  gi_wp2
  generalize ((((w.alloc (.cells #[St name] 9)).alloc (.cells #[.int .i64 0] 3)).alloc (.cells #[.int .i64 0] 36)).alloc (.cells #[St name] 9))=w0 at *
  refine⟨trivial,?_⟩
  refine(callsIn_wide.2 HR.out).mono ?_
  clear HR
  rintro e w1 ⟨rfl,b1⟩
  have HI2:=Lib.hid (HI1.out.below b1)
  have cb:=HI2.out.n0.cell
  have fb:=HI2.out.n0.frozen
  have ce:=HI2.out.e0.cell
  have fe:=HI2.out.e0.frozen
  have hk:=(HB1.out.trans (b1.mono HB1.out.size)).setCell (p:=⟨w.heap.size+1,0,none⟩) (by show w.heap.size≤w.heap.size+1;omega) (.int .i64 0)
  have hk2:=Lib.hid (hk.setCell (p:=⟨w.heap.size+1+1,0,none⟩) (by show w.heap.size≤w.heap.size+1+1;omega) (.int .i64 121))
  have HI3:=Lib.hid (HI2.out.store 0 121)
  clear b1 HI1 HB1 hk HI2
  gi_wp2
  have c1:=HI3.out.n0.cell
  have c2:=HI3.out.e0.cell
  refine⟨.tuple #[.int .i64 0,.int .i64 121],?_,by rw[HV.out],hk2.out⟩
  simp[results,Tryz.f114,go_sem,c1,c2]
end Fs
namespace Fs
open Go.RowKit Ex Ino Mm
theorem zot {w:World} {r:Nat} {bs:List UInt8} {l:List ND} (h:RegAt w r bs l)(name:List UInt8)(hn:name.length≤9223372036854775807):
  Calls Tryz.prog 114 #[.pointer (some ⟨r,0,none⟩),St name] w (zcq w (.tuple #[.int .i64 ((zbu (zas l) name:Nat):Int),.int .i64 (zbd (zas l) name)])):=zui h name hn
set_option maxRecDepth 100000 in
theorem zjz {w:World} {r:Nat} {bs:List UInt8} {l:List ND} (h:RegAt w r bs l)(name:List UInt8)(hn:name.length≤9223372036854775807):
  Calls Tryz.prog 134 #[.pointer (some ⟨r,0,none⟩),St name] w (zcq w (.int .i64 (za8 (zas l) name))):=by
 have HF:=Lib.hid (zot h name hn)
 unfold za8
 clear h hn
 generalize zbu (zas l) name=N at *
 generalize zbd (zas l) name=E at *
 by_cases h0:E=0
 ·rw[if_pos h0]
  subst h0
  go_enter Tryz.func134,Tryz.ntmps134
  go_wp2_with fail
  refine HF.out.mono ?_
  rintro e w2 ⟨rfl,b2⟩
  go_wp2_with fail
  go_ret
  exact⟨rfl,b2⟩
 ·rw[if_neg h0]
  by_cases h1:E=123
  ·rw[if_pos h1]
   subst h1
   go_enter Tryz.func134,Tryz.ntmps134
   go_wp2_with fail
   refine HF.out.mono ?_
   rintro e w2 ⟨rfl,b2⟩
   go_wp2_with fail
   go_ret
   exact⟨rfl,b2⟩
  ·rw[if_neg h1]
   have e0:(E==0)=false:=by simpa using h0
   have e1:(E==123)=false:=by simpa using h1
   clear h0 h1
   go_enter Tryz.func134,Tryz.ntmps134
   go_wp2_with fail
   refine HF.out.mono ?_
   rintro e w2 ⟨rfl,b2⟩
   go_wp2_with fail
   go_ret
   exact⟨rfl,b2⟩
def RegIs (w:World) (r:Nat) (g:RG):Prop:=∃ l,zas l=g.ns∧RegAt w r g.bs l
theorem RegIs.lt {w:World} {r:Nat} {g:RG} (h:RegIs w r g):r<w.heap.size:=by obtain⟨l,_,h⟩:=h;exact h.lt
theorem RegIs.below {w w':World} {r:Nat} {g:RG} (h:RegIs w r g)(b:Below w.heap.size w w'):RegIs w' r g:=by obtain⟨l,e,h⟩:=h;exact⟨l,e,h.below b⟩
def zes (w:World) (r:Nat) (v:Value) (g:RG) (e:Ending) (w':World):Prop:=e=.returned v∧RegIs w' r g∧Keeps (·=r) w w'
theorem zav {w w':World} (r:Nat)(h:Below w.heap.size w w'):Keeps (·=r) w w':=Keeps.below h _ fun i h1 h2=>by omega
theorem zdl {w w':World} {r:Nat} {bs:List UInt8} {l:List ND} (h:RegAt w r bs l)(hb:Below w.heap.size w w')(v:Value):zes w r v ⟨bs,zas l⟩ (.returned v) w':=⟨rfl,⟨l,rfl,h.below hb⟩,zav r hb⟩
def zy4 (d:ND) (name:List UInt8):ND:=⟨⟨name,d.x.size,d.x.ext⟩,d.A,d.c⟩
theorem ztu:∀ (l:List ND) (k:Nat) (d:ND) (name:List UInt8),l[k]?=some d→(ncs l).set (k*3) (St name)=ncs (l.set k (zy4 d name))
 | [],k,d,name,h=>by simp at h
 | x::r,0,d,name,h=>by
  simp at h
  subst h
  rfl
 | x::r,k+1,d,name,h=>by
  have ih:=ztu r k d name (by simpa using h)
  unfold ncs at *
  rw[List.set_cons_succ,List.flatMap_cons,List.flatMap_cons,← ih,List.set_append,if_neg (by rw[zdz];omega),zdz,show(k+1)*3-3=k*3 by omega]
theorem zhi {ns:List IN} {name:List UInt8} (h:za8 ns name=0):name.length≤100000:=by
 by_cases hb:zbf name=true
 ·unfold zbf at hb
  simp only[Bool.and_eq_true,decide_eq_true_eq] at hb
  omega
 ·have hf:zbf name=false:=by simpa using hb
  have h1:zbd ns name=121:=by unfold zbd;rw[if_pos hf]
  unfold za8 at h
  rw[h1] at h
  exact absurd h (by decide)
theorem RegAt.putName {w:World} {r:Nat} {bs:List UInt8} {l:List ND} (h:RegAt w r bs l){k:Nat} (hk:k<8){d:ND} (hd:l[k]?=some d)(name:List UInt8)(hn:name.length≤100000):
  RegAt (w.setCell ⟨r,2048+k*3,none⟩ (St name)) r bs (l.set k (zy4 d name))∧Keeps (·=r) w (w.setCell ⟨r,2048+k*3,none⟩ (St name)):=by
 have hkp:Keeps (·=r) w (w.setCell ⟨r,2048+k*3,none⟩ (St name)):=Keeps.setCell _ _ _ _ rfl
 have hdm:=h.nd d (List.mem_of_getElem? hd)
 refine⟨⟨h.bl,by rw[List.length_set,h.nl],?_,fun e he=>?_⟩,hkp⟩
 ·rw[heap_setCell_same w r (2048+k*3) _ _ _ h.hd]
  simp only[List.setIfInBounds_toArray]
  unfold gcl
  rw[← ztu l k d name hd]
  rw[List.set_append,if_neg (by rw[List.length_map,h.bl];omega),List.length_map,h.bl,show 2048+k*3-2048=k*3 by omega]
 ·rcases List.mem_or_eq_of_mem_set he with he | rfl
  ·exact h.nds hkp e he
  ·have hz:NdOk w r (zy4 d name):=⟨⟨hdm.ok.xr,hdm.ok.few,hn,hdm.ok.size⟩,hdm.no⟩
   exact hz.keeps hkp fun hn ad e f=>hdm.no hn ad e f
set_option maxRecDepth 100000 in
theorem zvs {w:World} {r:Nat} {bs:List UInt8} {l:List ND} (h:RegAt w r bs l)(name:List UInt8)(hn:name.length≤9223372036854775807):
  Calls Tryz.prog 101 #[.pointer (some ⟨r,0,none⟩),St name] w (zes w r (.int .i64 (zbk ⟨bs,zas l⟩ name).1) (zbk ⟨bs,zas l⟩ name).2):=by
 have HF:=Lib.hid (zot h name hn)
 unfold zbk
 by_cases h0:zbd (zas l) name=0
 ·rw[if_pos h0]
  rw[h0] at HF
  obtain⟨hnb,i,hi⟩:=findE_zero.1 h0
  have e:zbu (zas l) name=i:=by unfold zbu;rw[hnb,hi];rfl
  rw[e] at HF ⊢
  have hlt:=(zd2 hi).1
  have HP:Hid (∀ w2,Below w.heap.size w w2→(Instr.storeAt 123 (.pointer (some ⟨r,2048+i*3,none⟩)) (.agg #[.string ⟨#[]⟩,.int .i64 0,.slice none 0 0])).run Tryz.prog w2=.ok () (w2.setCells r (2048+i*3) (ncl ⟨in0,none,0⟩)) ∧
    zes w r (.int .i64 0) ⟨bs,(zas l).set i in0⟩ (.returned (.int .i64 0)) (w2.setCells r (2048+i*3) (ncl ⟨in0,none,0⟩))):=fun w2 b2=>by
   have h2:=h.below b2
   obtain⟨p1,p2⟩:=h2.putNode hlt ⟨in0,none,0⟩ ⟨⟨XR.nil,by decide,by decide,by decide⟩,fun hn=>absurd rfl hn⟩
   exact⟨zq8 (d:=⟨in0,none,0⟩) (h2.there _ _ (by omega)),rfl,⟨_,ziq _ _ _,p1⟩,(zav r b2).trans p2⟩
  clear h hn h0 e hi hnb
  generalize zes w r _ _=G at *
  go_enter Tryz.func101,Tryz.ntmps101
  go_wp2_with fail
  refine HF.out.mono ?_
  rintro e w2 ⟨rfl,b2⟩
  obtain⟨s1,s2⟩:=HP.out w2 b2
  have ST:=Lib.hid s1
  have HG:=Lib.hid s2
  clear s1 s2 b2 HF HP
  go_wp2_with (first | ((with_reducible refine zd1 (op:=.store 123 (.tmp 21) (.tmp 18)) ?_);refine zaz rfl 123 _ _ rfl _ _ rfl rfl ST.out ?_))
  exact HG.out
 ·rw[if_neg h0]
  have HG:Hid (∀ w2,Below w.heap.size w w2→zes w r (.int .i64 (zbd (zas l) name)) ⟨bs,zas l⟩ (.returned (.int .i64 (zbd (zas l) name))) w2):=fun w2 b2=>zdl h b2 _
  have e0:(zbd (zas l) name != 0)=true:=by simpa using h0
  clear h hn h0
  generalize zes w r _ _=G at *
  generalize zbd (zas l) name=E at *
  generalize zbu (zas l) name=N at *
  go_enter Tryz.func101,Tryz.ntmps101
  go_wp2_with fail
  refine HF.out.mono ?_
  rintro e w2 ⟨rfl,b2⟩
  have HG2:=Lib.hid (HG.out w2 b2)
  clear b2 HG HF
  go_wp2_with fail
  exact HG2.out
theorem ygf {ns:List IN} {k:Nat} (hk:k<8)(h:∀ j,j<k→(at' ns j).name≠[])(h0:(at' ns k).name=[]):zhk ns=some k:=by
 unfold zhk
 have e:List.range 8=List.range k++(k::(List.range' (k+1) (7-k))):=by
  rw[List.range_eq_range',List.range_eq_range',show 8=k+(1+(7-k)) by omega,← List.range'_append,Nat.zero_add,Nat.one_mul,Nat.add_comm 1 (7-k),List.range'_succ]
 rw[e,List.find?_append]
 have:(List.range k).find? (fun i=>decide ((at' ns i).name=[]))=none:=by
  rw[List.find?_eq_none]
  intro j hj
  rw[List.mem_range] at hj
  simpa using h j hj
 rw[this]
 simp[h0]
theorem zr8 {ns:List IN} (h:∀ j,j<8→(at' ns j).name≠[]):zhk ns=none:=by
 unfold zhk
 rw[List.find?_eq_none]
 intro j hj
 rw[List.mem_range] at hj
 simpa using h j hj
set_option maxRecDepth 100000 in
theorem zw0 {w:World} {r:Nat} {bs:List UInt8} {l:List ND} (h:RegAt w r bs l)(name:List UInt8)(hn:name.length≤9223372036854775807):
  Calls Tryz.prog 83 #[.pointer (some ⟨r,0,none⟩),St name] w (zes w r (.tuple #[.int .i64 ((zae ⟨bs,zas l⟩ name).2.1:Nat),.int .i64 (zae ⟨bs,zas l⟩ name).1]) (zae ⟨bs,zas l⟩ name).2.2):=by
 have HF:=Lib.hid (zjz h name hn)
 unfold zae
 by_cases h0:za8 (zas l) name=0
 ·rw[if_pos h0]
  rw[h0] at HF
  have HREG:=Lib.hid h
  have HN:=Lib.hid h.nl
  generalize hG:zes w r _ _=G
  have HYES:Hid (∀ k w2,k<8→(∀ j,j<k→(at' (zas l) j).name≠[])→(at' (zas l) k).name=[]→Below w.heap.size w w2→(∀ o,G (.returned (.tuple #[.int .i64 (k:Int),.int .i64 0])) ((w2.setCell ⟨r,2048+k*3,none⟩ (St name)).alloc o)) ∧
    w2.cell? ⟨r,2048+k*3,none⟩=some (St (at' (zas l) k).name)∧w2.frozen? ⟨r,2048+k*3,none⟩=false):=fun k w2 hk h1 h2 b2=>by
   have hr2:=h.below b2
   obtain⟨d,hd,e,_⟩:=hr2.get hk
   obtain⟨p1,p2⟩:=hr2.putName hk hd name (zhi h0)
   refine⟨fun o=>?_,by rw[e];exact(hr2.nodeC hd).1,frozen_of_row _ _ _ _ _ hr2.hd⟩
   rw[← hG,ygf hk h1 h2]
   have ba:=(Below.refl (w2.setCell ⟨r,2048+k*3,none⟩ (St name)).heap.size (w2.setCell ⟨r,2048+k*3,none⟩ (St name))).alloc (Nat.le_refl _) o
   refine⟨rfl,⟨_,?_,p1.below ba⟩,((zav r b2).trans p2).trans (zav r ba)⟩
   show zas (l.set k (zy4 d name))=(zas l).set k ⟨name,(at' (zas l) k).size,(at' (zas l) k).ext⟩
   rw[ziq,e]
   rfl
  have HNO:Hid (∀ w2,(∀ j,j<8→(at' (zas l) j).name≠[])→Below w.heap.size w w2→G (.returned (.tuple #[.int .i64 0,.int .i64 124])) w2):=fun w2 h1 b2=>by
   rw[← hG,zr8 h1]
   exact zdl h b2 _
  clear h h0 hG hn
  go_enter Tryz.func83,Tryz.ntmps83
  go_wp2_with fail
  refine HF.out.mono ?_
  rintro e w2 ⟨rfl,b2⟩
  have L1:=Lib.hid (zzb HN.out (HREG.out.below b2).nodesR)
  have HB2:=Lib.hid b2
  clear b2 HF
  go_wp2_with (first | ((with_reducible refine zd1 (op:=.load 153 (.tmp 17)) ?_);refine za5 rfl 153 _ rfl _ _ rfl L1.out ?_))
  go_loopw [19] (fun i wr=>∃ k:Nat,i=.int .i64 (k:Int)∧k≤8∧(∀ j,j<k→(at' (zas l) j).name≠[])∧Below w.heap.size w wr) (fun i _=>8-(RowKit.intOf i).toNat)
  case atStart=>exact⟨0,rfl,by omega,fun j hj=>by omega,HB2.out⟩
  case round =>
   clear L1
   obtain⟨k,rfl,hk,hne,hb⟩:=hrel
   by_cases hlt:k<8
   ·obtain⟨d,hd,e,_⟩:=HREG.out.get hlt
    have IX:=fun w=>Lib.hid (ygb w HN.out hd)
    have hb3:=hb.alloc hb.size (.cells #[St d.x.name,.int .i64 d.x.size,.slice d.A d.x.ext.length d.c] 123)
    cases hz:decide (d.x.name=[]) with
    | true =>
     have HZ:=Lib.hid hz
     have hY:=HYES.out k _ hlt hne (by rw[e];simpa using hz) hb
     have hrl:r<wr.heap.size:=Nat.lt_of_lt_of_le HREG.out.lt hb.size
     have cc:=hY.2.1
     have ff:=hY.2.2
     have HY:=Lib.hid (hY.1 (.cells #[St d.x.name,.int .i64 d.x.size,.slice d.A d.x.ext.length d.c] 123))
     clear hY hz hne hb hb3 hd e HYES HNO
     go_wp2_with (first
      | ((with_reducible refine at_ (op:=.index 153 (.tmp 18) (.tmp 19)) ?_);refine zaj rfl _ (zhf 153 (.tmp 18) (.tmp 19) rfl _ _ _ rfl rfl (IX _).out) ?_)
      | ((with_reducible refine at_ (op:=.binOp .eql 9 (.tmp 24) (.const (.string ⟨#[]⟩)) 9) ?_);refine zaj rfl _ (zou (.tmp 24) (.const (.string ⟨#[]⟩)) rfl _ true HZ.out rfl rfl) ?_))
     exact HY.out
    | false =>
     have HZ:=Lib.hid hz
     have HNE:Hid (∀ j,j<k+1→(at' (zas l) j).name≠[]):=fun j hj=>by
      by_cases e2:j=k
      ·subst e2;rw[e];simpa using hz
      ·exact hne j (by omega)
     have HB3:=Lib.hid hb3
     clear hz hne hb hb3 hd e HYES HNO
     go_wp2_with (first
      | ((with_reducible refine at_ (op:=.index 153 (.tmp 18) (.tmp 19)) ?_);refine zaj rfl _ (zhf 153 (.tmp 18) (.tmp 19) rfl _ _ _ rfl rfl (IX _).out) ?_)
      | ((with_reducible refine at_ (op:=.binOp .eql 9 (.tmp 24) (.const (.string ⟨#[]⟩)) 9) ?_);refine zaj rfl _ (zou (.tmp 24) (.const (.string ⟨#[]⟩)) rfl _ false HZ.out rfl rfl) ?_))
     go_roundw
     case rel=>exact⟨k+1,by go_num,by omega,HNE.out,HB3.out⟩
     case measure=>simp[RowKit.intOf];omega
   ·obtain rfl:k=8:=by omega
    have HY:=Lib.hid (HNO.out wr hne hb)
    clear hne hb HYES HNO
    go_wp2_with fail
    exact HY.out
 ·rw[if_neg h0]
  have HG:Hid (∀ w2,Below w.heap.size w w2→zes w r (.tuple #[.int .i64 ((0:Nat):Int),.int .i64 (za8 (zas l) name)]) ⟨bs,zas l⟩ (.returned (.tuple #[.int .i64 0,.int .i64 (za8 (zas l) name)])) w2):=fun w2 b2=>zdl h b2 _
  have e0:(za8 (zas l) name != 0)=true:=by simpa using h0
  clear h hn h0
  generalize zes w r _ _=G at *
  generalize za8 (zas l) name=E at *
  go_enter Tryz.func83,Tryz.ntmps83
  go_wp2_with fail
  refine HF.out.mono ?_
  rintro e w2 ⟨rfl,b2⟩
  have HG2:=Lib.hid (HG.out w2 b2)
  clear b2 HG HF
  go_wp2_with fail
  exact HG2.out
set_option maxRecDepth 100000 in
theorem zvr {w:World} {r:Nat} {bs:List UInt8} {l:List ND} (h:RegAt w r bs l)(f t:List UInt8)(hf:f.length≤9223372036854775807)(ht:t.length≤9223372036854775807):
  Calls Tryz.prog 106 #[.pointer (some ⟨r,0,none⟩),St f,St t] w (zes w r (.int .i64 (zbe ⟨bs,zas l⟩ f t).1) (zbe ⟨bs,zas l⟩ f t).2):=by
 have hb1:Below w.heap.size w (w.alloc (.cells #[St f,St t] 9)):=(Below.refl _ _).alloc (Nat.le_refl _) _
 have hx:(w.alloc (.cells #[St f,St t] 9)).heap[w.heap.size]?=some (.cells #[St f,St t] 9 (0,0)):=heap_alloc_new w _
 have ht1:TextR (w.alloc (.cells #[St f,St t] 9)) w.heap.size [f,t]:=by
  refine⟨by simp,fun k hk=>?_⟩
  simp only[List.length_cons,List.length_nil] at hk
  rw[cell_of_row _ _ _ _ _ _ hx]
  match k,hk with
  | 0,_=>rfl
  | 1,_=>rfl
 have hrefl:=zlk (ss:=[f,t]) 2 ht1 (by simp) (by simp[hf,ht])
 have HR:=Lib.hid hrefl
 have HB1:=Lib.hid hb1
 have HREG:=Lib.hid h
 generalize hG:zes w r _ _=G
 clear hb1 hx ht1 hrefl h
 by_cases hnb:zbf f=false∨zbf t=false
 ·have e1:ztb [f,t]=121:=by
   unfold ztb
   rw[if_neg]
   simp only[List.all_cons,List.all_nil,Bool.and_true,Bool.and_eq_true]
   rintro⟨a,b⟩
   rcases hnb with e | e
   ·rw[e] at a;cases a
   ·rw[e] at b;cases b
  have HG:Hid (∀ w2,Below w.heap.size w w2→G (.returned (.int .i64 121)) w2):=fun w2 b2=>by
   rw[← hG]
   unfold zbe
   rw[if_pos hnb]
   exact zdl HREG.out b2 _
  rw[e1] at HR
  clear hG hnb e1
  go_enter Tryz.func106,Tryz.ntmps106
  go_wp2_with fail
  refine HR.out.mono ?_
  rintro e w2 ⟨rfl,b2⟩
  have HG2:=Lib.hid (HG.out w2 (HB1.out.trans (b2.mono HB1.out.size)))
  clear b2 HG HR HB1
  go_wp2_with fail
  exact HG2.out
 ·have e1:ztb [f,t]=0:=by
   unfold ztb
   rw[if_pos]
   simp only[List.all_cons,List.all_nil,Bool.and_true,Bool.and_eq_true]
   refine⟨?_,?_⟩
   ·cases h:zbf f with
    | true=>rfl
    | false=>exact absurd (.inl h) hnb
   ·cases h:zbf t with
    | true=>rfl
    | false=>exact absurd (.inr h) hnb
  rw[e1] at HR
  by_cases h0:zbd (zas l) f=0
  ·obtain⟨_,i,hi⟩:=findE_zero.1 h0
   have hlt:=(zd2 hi).1
   have ei:zbu (zas l) f=i:=by unfold zbu;rw[(findE_zero.1 h0).1,hi];rfl
   have HF:Hid (∀ w2,Below w.heap.size w w2→Calls Tryz.prog 114 #[.pointer (some ⟨r,0,none⟩),St f] w2 (zcq w2 (.tuple #[.int .i64 ((i:Nat):Int),.int .i64 0]))):=fun w2 b2=>by
    have:=zot (HREG.out.below b2) f hf
    rwa [ei,h0] at this
   by_cases ha:za8 (zas l) t=0
   ·have HA:Hid (∀ w2,Below w.heap.size w w2→Calls Tryz.prog 134 #[.pointer (some ⟨r,0,none⟩),St t] w2 (zcq w2 (.int .i64 0))):=fun w2 b2=>by
     have:=zjz (HREG.out.below b2) t ht
     rwa [ha] at this
    have HYES:Hid (∀ w2,Below w.heap.size w w2→G (.returned (.int .i64 0)) (w2.setCell ⟨r,2048+i*3,none⟩ (St t))∧(∃ v,w2.cell? ⟨r,2048+i*3,none⟩=some v)∧w2.frozen? ⟨r,2048+i*3,none⟩=false):=fun w2 b2=>by
     have hr2:=HREG.out.below b2
     obtain⟨d,hd,e,_⟩:=hr2.get hlt
     obtain⟨p1,p2⟩:=hr2.putName hlt hd t (zhi ha)
     refine⟨?_,⟨_,(hr2.nodeC hd).1⟩,frozen_of_row _ _ _ _ _ hr2.hd⟩
     rw[← hG]
     unfold zbe
     rw[if_neg hnb,if_pos h0,if_pos ha,ei]
     refine⟨rfl,⟨_,?_,p1⟩,(zav r b2).trans p2⟩
     show zas (l.set i (zy4 d t))=(zas l).set i ⟨t,(at' (zas l) i).size,(at' (zas l) i).ext⟩
     rw[ziq,e]
     rfl
    clear hG hnb e1 h0 hi ei ha HREG
    go_enter Tryz.func106,Tryz.ntmps106
    go_wp2_with fail
    refine HR.out.mono ?_
    rintro e w2 ⟨rfl,b2⟩
    have HB2:=Lib.hid (HB1.out.trans (b2.mono HB1.out.size))
    clear b2 HR HB1
    go_wp2_with fail
    refine(HF.out w2 HB2.out).mono ?_
    rintro e w3 ⟨rfl,b3⟩
    have HB3:=Lib.hid (HB2.out.trans (b3.mono HB2.out.size))
    clear b3 HF HB2
    go_wp2_with fail
    refine(HA.out w3 HB3.out).mono ?_
    rintro e w4 ⟨rfl,b4⟩
    obtain⟨g1,⟨v,cc⟩,ff⟩:=HYES.out w4 (HB3.out.trans (b4.mono HB3.out.size))
    have HG2:=Lib.hid g1
    clear b4 HA HB3 HYES g1
    go_wp2_with fail
    exact HG2.out
   ·have HA:Hid (∀ w2,Below w.heap.size w w2→Calls Tryz.prog 134 #[.pointer (some ⟨r,0,none⟩),St t] w2 (zcq w2 (.int .i64 (za8 (zas l) t)))):=fun w2 b2=>zjz (HREG.out.below b2) t ht
    have HG:Hid (∀ w2,Below w.heap.size w w2→G (.returned (.int .i64 (za8 (zas l) t))) w2):=fun w2 b2=>by
     rw[← hG]
     unfold zbe
     rw[if_neg hnb,if_pos h0,if_neg ha]
     exact zdl HREG.out b2 _
    have e0:(za8 (zas l) t != 0)=true:=by simpa using ha
    clear hG hnb e1 h0 hi ei ha HREG
    generalize za8 (zas l) t=E at *
    go_enter Tryz.func106,Tryz.ntmps106
    go_wp2_with fail
    refine HR.out.mono ?_
    rintro e w2 ⟨rfl,b2⟩
    have HB2:=Lib.hid (HB1.out.trans (b2.mono HB1.out.size))
    clear b2 HR HB1
    go_wp2_with fail
    refine(HF.out w2 HB2.out).mono ?_
    rintro e w3 ⟨rfl,b3⟩
    have HB3:=Lib.hid (HB2.out.trans (b3.mono HB2.out.size))
    clear b3 HF HB2
    go_wp2_with fail
    refine(HA.out w3 HB3.out).mono ?_
    rintro e w4 ⟨rfl,b4⟩
    have HG2:=Lib.hid (HG.out w4 (HB3.out.trans (b4.mono HB3.out.size)))
    clear b4 HA HB3 HG
    go_wp2_with fail
    exact HG2.out
  ·have HF:Hid (∀ w2,Below w.heap.size w w2→Calls Tryz.prog 114 #[.pointer (some ⟨r,0,none⟩),St f] w2 (zcq w2 (.tuple #[.int .i64 ((zbu (zas l) f:Nat):Int),.int .i64 (zbd (zas l) f)]))):=fun w2 b2=>zot (HREG.out.below b2) f hf
   have HG:Hid (∀ w2,Below w.heap.size w w2→G (.returned (.int .i64 (zbd (zas l) f))) w2):=fun w2 b2=>by
    rw[← hG]
    unfold zbe
    rw[if_neg hnb,if_neg h0]
    exact zdl HREG.out b2 _
   have e0:(zbd (zas l) f != 0)=true:=by simpa using h0
   clear hG hnb e1 h0 HREG
   generalize zbd (zas l) f=E at *
   generalize zbu (zas l) f=N at *
   go_enter Tryz.func106,Tryz.ntmps106
   go_wp2_with fail
   refine HR.out.mono ?_
   rintro e w2 ⟨rfl,b2⟩
   have HB2:=Lib.hid (HB1.out.trans (b2.mono HB1.out.size))
   clear b2 HR HB1
   go_wp2_with fail
   refine(HF.out w2 HB2.out).mono ?_
   rintro e w3 ⟨rfl,b3⟩
   have HG2:=Lib.hid (HG.out w3 (HB2.out.trans (b3.mono HB2.out.size)))
   clear b3 HF HB2 HG
   go_wp2_with fail
   exact HG2.out
end Fs
end Go.Proofs.YtefgabnmcfpdcaaGreatDoor
