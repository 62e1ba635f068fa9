/- merged -/
import Derived.Test.YtdopfpcjpjlkmaaGreatDoorGSp
import Derived.Test.YtdopfpcjpjlkmaaGreatDoorGA
import Derived.Lib.Tables
import Derived.Shelf.Spec.TrailingZeros
import Derived.StillTailTactics
import Derived.Deep.QuietTactic
import Derived.BigQuiet
import Derived.WalkSmall
import Derived.Deep.Slices
set_option maxHeartbeats 800000
namespace Go.Proofs.YtdopfpcjpjlkmaaGreatDoor
namespace Ex
abbrev EX:=Int × Int
def exB (x:EX):List Nat:=(List.range x.2.toNat).map (x.1.toNat+·)
def zaq (l:List EX):List Nat:=l.flatMap exB
def ins (x:EX):Prop:=9≤x.1∧1≤x.2∧x.2≤32-x.1
instance (x:EX):Decidable (ins x):=by unfold ins;infer_instance
def okL:List Nat→Int→List EX→Bool
 | _,_,[]=>true
 | out,e,x::r=>decide (ins x) && (decide (x.1≠e) && (decide (∀ b∈exB x,b ∉ out) && okL (out++exB x) (x.1+x.2) r))
def ok (l:List EX):Bool:=okL [] 0 l
def ygi (l:List EX):Int:=match l.getLast? with
 | some x=>x.1+x.2
 | none=>0
theorem zje (q:List EX)(x:EX):ygi (q++[x])=x.1+x.2:=by simp[ygi]
theorem zpn (x:EX):(exB x).length=x.2.toNat:=by simp[exB]
theorem zpm {x:EX} {b:Nat}:b∈exB x↔x.1.toNat≤b∧b<x.1.toNat+x.2.toNat:=by
 unfold exB
 rw[List.mem_map]
 constructor
 ·rintro⟨a,ha,rfl⟩
  rw[List.mem_range] at ha
  omega
 ·intro h
  exact⟨b-x.1.toNat,by rw[List.mem_range];omega,by omega⟩
theorem ygh (x:EX)(k:Nat)(h:k<(exB x).length):(exB x)[k]=x.1.toNat+k:=by simp[exB]
theorem ybn (x:EX):(exB x).Nodup:=by
 unfold exB
 exact List.Pairwise.map _ (fun a b h=>by omega) (List.nodup_range (n:=x.2.toNat))
theorem zpl (s:Int)(n:Int)(hs:0≤s)(hn:0≤n):exB (s,n+1)=exB (s,n)++[(s+n).toNat]:=by
 unfold exB
 have e:(s,n+1).2.toNat=n.toNat+1:=by show(n+1).toNat=_;omega
 rw[e,List.range_succ,List.map_append]
 simp
 omega
theorem zdg (a b:List EX):zaq (a++b)=zaq a++zaq b:=by simp[zaq]
theorem zgq (x:EX):zaq [x]=exB x:=by simp[zaq]
theorem zmy (x:EX)(r:List EX):zaq (x::r)=exB x++zaq r:=by simp[zaq]
theorem zhm (out:List Nat)(e:Int)(x:EX)(r:List EX):okL out e (x::r)=true↔ins x∧x.1≠e∧(∀ b∈exB x,b ∉ out)∧okL (out++exB x) (x.1+x.2) r=true:=by
 rw[okL,Bool.and_eq_true,Bool.and_eq_true,Bool.and_eq_true,decide_eq_true_iff,decide_eq_true_iff,decide_eq_true_iff]
theorem zuk (out:List Nat)(e:Int){l:List EX} {x:EX} {r:List EX} (h:l=x::r):okL out e l=(decide (ins x) && (decide (x.1≠e) && (decide (∀ b∈exB x,b ∉ out) && okL (out++exB x) (x.1+x.2) r))):=by
 rw[h,okL]
theorem zul:∀ (q p:List EX) (x:EX),okL (zaq p) (ygi p) (q++[x])=true↔okL (zaq p) (ygi p) q=true∧ins x∧x.1≠ygi (p++q)∧∀ b∈exB x,b ∉ zaq (p++q)
 | [],p,x=>by
  rw[List.nil_append,zhm,List.append_nil]
  simp[okL]
 | y::r,p,x=>by
  have ih:=zul r (p++[y]) x
  rw[zje,zdg,zgq,List.append_assoc,List.singleton_append] at ih
  rw[List.cons_append,zhm,zhm,ih]
  constructor
  ·rintro⟨a,b,c,d,e,f,g⟩
   exact⟨⟨a,b,c,d⟩,e,f,g⟩
  ·rintro⟨⟨a,b,c,d⟩,e,f,g⟩
   exact⟨a,b,c,d,e,f,g⟩
theorem zj0 (q:List EX)(x:EX):ok (q++[x])=true↔ok q=true∧ins x∧x.1≠ygi q∧∀ b∈exB x,b ∉ zaq q:=zul q [] x
theorem zgc {α:Type} {M:List α→Prop} (h0:M [])(h1:∀ q x,M q→M (q++[x])):∀ l,M l:=fun l=>by
 have:∀ n (l:List α),l.length=n→M l:=by
  intro n
  induction n with
  | zero=>intro l hl;rw[List.length_eq_zero_iff.1 hl];exact h0
  | succ n ih =>
   intro l hl
   rcases List.eq_nil_or_concat l with rfl | ⟨q,y,rfl⟩
   ·exact h0
   ·rw[List.concat_eq_append] at hl ⊢
    exact h1 q y (ih q (by simpa using hl))
 exact this _ l rfl
def Good (out:List Nat):Prop:=out.Nodup∧∀ b∈out,9≤b∧b<32
theorem zpa {x:EX} (h:ins x){b:Nat} (hb:b∈exB x):9≤b∧b<32:=by
 rw[zpm] at hb
 unfold ins at h
 omega
theorem Good.add {out:List Nat} {x:EX} (h:Good out)(hx:ins x)(hd:∀ b∈exB x,b ∉ out):Good (out++exB x):=by
 refine⟨List.nodup_append.2 ⟨h.1,ybn x,fun a ha b hb e=>hd b hb (e ▸ ha)⟩,fun b hb=>?_⟩
 rcases List.mem_append.1 hb with h1 | h1
 ·exact h.2 b h1
 ·exact zpa hx h1
theorem zk9:Good []:=⟨List.nodup_nil,fun b hb=>by cases hb⟩
theorem zcr:∀ l,ok l=true→Good (zaq l):=zgc (fun _=>zk9) fun q x ih h=>by
 obtain⟨h1,h2,_,h4⟩:=(zj0 q x).1 h
 rw[zdg,zgq]
 exact(ih h1).add h2 h4
theorem zl8:∀ (n:Nat) (l:List Nat),l.Nodup→(∀ b∈l,b<n)→l.length≤n
 | 0,l,_,h=>by
  cases l with
  | nil=>simp
  | cons x r=>have:=h x (by simp);omega
 | n+1,l,hn,h=>by
  have:=zl8 n (l.erase n) (hn.erase n) (fun b hb=>by
   have h1:=h b (List.mem_of_mem_erase hb)
   have h2:b≠n:=fun e=>by subst e;exact(hn.not_mem_erase) hb
   omega)
  have h3:=List.length_erase (a:=n) (l:=l)
  split at h3<;>omega
theorem Good.len {out:List Nat} (h:Good out):out.length≤23:=by
 have:=zl8 23 (out.map (·-9)) (by
  refine List.Pairwise.imp_of_mem (R:=fun a b=>a≠b) ?_ ?_
  ·intro a b _ _ h;exact h
  ·rw[List.pairwise_map]
   refine h.1.imp_of_mem ?_
   intro a b ha hb hab e
   have:=h.2 a ha
   have:=h.2 b hb
   omega) (fun b hb=>by
  obtain⟨a,ha,rfl⟩:=List.mem_map.1 hb
  have:=h.2 a ha
  omega)
 simpa using this
def zc3 (l:List EX) (b:Nat):List EX:=match l.getLast? with
 | some x=>if x.1+x.2=(b:Int) then l.dropLast++[(x.1,x.2+1)] else l++[((b:Int),1)]
 | none=>[((b:Int),1)]
theorem ziq (b:Nat):zc3 [] b=[((b:Int),1)]:=rfl
theorem zdw (q:List EX)(x:EX)(b:Nat):zc3 (q++[x]) b=if x.1+x.2=(b:Int) then q++[(x.1,x.2+1)] else q++[x]++[((b:Int),1)]:=by simp[zc3]
def zc4 (l:List EX) (bs:List Nat):List EX:=bs.foldl zc3 l
theorem zgm (l:List EX)(a b:List Nat):zc4 l (a++b)=zc4 (zc4 l a) b:=by simp[zc4]
theorem zf5 (l:List EX)(a:List Nat)(b:Nat):zc4 l (a++[b])=zc3 (zc4 l a) b:=by simp[zc4]
theorem ye9 (q:List EX)(s n:Int)(hs:0≤s)(hn:1≤n)(he:s≠ygi q∨q=[]):zc4 q (exB (s,n))=q++[(s,n)]:=by
 obtain⟨k,rfl⟩:∃ k:Nat,n=(k:Int)+1:=⟨(n-1).toNat,by omega⟩
 clear hn
 induction k with
 | zero =>
  rw[zpl s _ hs (by omega),zgm]
  have e:exB (s,((0:Nat):Int))=[]:=rfl
  rw[e]
  show zc3 q (s+((0:Nat):Int)).toNat=_
  have e2:((s+((0:Nat):Int)).toNat:Int)=s:=by omega
  rcases List.eq_nil_or_concat q with rfl | ⟨r,y,rfl⟩
  ·rw[ziq,e2];simp
  ·rw[List.concat_eq_append] at he ⊢
   rw[zdw,zn (by
    rw[zje] at he
    rcases he with he | he
    ·omega
    ·simp at he),e2]
   simp
 | succ k ih =>
  rw[zpl s _ hs (by omega),zgm,show((k+1:Nat):Int)=(k:Int)+1 from by omega,ih]
  show zc3 _ _=_
  rw[zdw,zp (by show s+((k:Int)+1)=_;omega)]
theorem zvh:∀ (l p:List EX) (out:List Nat),okL out (ygi p) l=true→zc4 p (zaq l)=p++l
 | [],p,out,_=>by simp[zaq,zc4]
 | x::r,p,out,h=>by
  obtain⟨h1,h2,_,h4⟩:=(zhm _ _ _ _).1 h
  rw[zmy,zgm]
  have e:zc4 p (exB x)=p++[x]:=ye9 p x.1 x.2 (by unfold ins at h1;omega) h1.2.1 (.inl h2)
  rw[e,zvh r (p++[x]) (out++exB x) (by rw[zje];exact h4)]
  simp
theorem ybh {l:List EX} (h:ok l=true):zc4 [] (zaq l)=l:=zvh l [] [] h
theorem yc2 {p:List EX} (h:ok p=true){b:Nat} (h1:9≤b)(h2:b<32)(hb:b ∉ zaq p):ok (zc3 p b)=true∧zaq (zc3 p b)=zaq p++[b]:=by
 have eb:exB ((b:Int),1)=[b]:=by simp[exB]
 rcases List.eq_nil_or_concat p with rfl | ⟨q,x,rfl⟩
 ·rw[ziq]
  refine⟨(zj0 [] _).2 ⟨rfl,⟨by show(9:Int)≤b;omega,by show(1:Int)≤1;omega,by show(1:Int)≤32-b;omega⟩,by show(b:Int)≠0;omega,fun c _ h=>by cases h⟩,?_⟩
  rw[zgq,eb]
  rfl
 ·rw[List.concat_eq_append] at h hb ⊢
  obtain⟨g1,g2,g3,g4⟩:=(zj0 q x).1 h
  have g2':=g2
  unfold ins at g2'
  rw[zdw]
  split
  ·rename_i e
   have em:=zpl x.1 x.2 (by omega) (by omega)
   have et:(x.1+x.2).toNat=b:=by omega
   rw[et] at em
   rw[zdg,zdg,zgq,zgq,em,List.append_assoc]
   refine⟨(zj0 q _).2 ⟨g1,⟨g2'.1,by show 1≤x.2+1;omega,by show x.2+1≤32-x.1;omega⟩,g3,fun c hc=>?_⟩,rfl⟩
   rw[em] at hc
   rcases List.mem_append.1 hc with hc | hc
   ·exact g4 c hc
   ·simp at hc
    subst hc
    exact fun hm=>hb (by rw[zdg];exact List.mem_append.2 (.inl hm))
  ·rename_i e
   rw[zdg (q++[x]),zgq,eb]
   refine⟨(zj0 _ _).2 ⟨h,⟨by show(9:Int)≤b;omega,by show(1:Int)≤1;omega,by show(1:Int)≤32-b;omega⟩,by rw[zje];show(b:Int)≠_;omega,fun c hc=>?_⟩,rfl⟩
   rw[eb] at hc
   simp at hc
   subst hc
   exact hb
theorem zs9:∀ (bs:List Nat) (p:List EX),ok p=true→Good (zaq p++bs)→ok (zc4 p bs)=true∧zaq (zc4 p bs)=zaq p++bs
 | [],p,h,_=>⟨h,by simp[zc4]⟩
 | b::r,p,h,hg=>by
  have hm:=hg.2 b (by simp)
  have hn:b ∉ zaq p:=fun hb=>by
   have:=(List.nodup_append.1 hg.1).2.2 b hb b (by simp)
   exact this rfl
  obtain⟨h1,h2⟩:=yc2 h hm.1 hm.2 hn
  have:=zs9 r (zc3 p b) h1 (by rw[h2,List.append_assoc];exact hg)
  rw[h2,List.append_assoc] at this
  exact this
def zb2 (l:List Nat):Nat:=l.foldl (fun s b=>s ||| 2 ^ b) 0
theorem zys (l:List Nat)(i:Nat):∀ s:Nat,(l.foldl (fun s b=>s ||| 2 ^ b) s).testBit i=(s.testBit i || decide (i∈l)):=by
 induction l with
 | nil=>intro s;simp
 | cons b r ih =>
  intro s
  rw[List.foldl_cons,ih,Nat.testBit_or,Nat.testBit_two_pow,Bool.or_assoc]
  congr 1
  by_cases e:i=b
  ·subst e;simp
  ·have:¬b=i:=fun h=>e h.symm
   simp[e,this]
theorem zbv (l:List Nat)(i:Nat):(zb2 l).testBit i=decide (i∈l):=by
 unfold zb2
 rw[zys]
 simp
theorem zjh {a b:Nat} (h:∀ i,a.testBit i=b.testBit i):a=b:=Nat.eq_of_testBit_eq h
theorem zh8 (a b:List Nat):zb2 (a++b)=zb2 a ||| zb2 b:=zjh fun i=>by
 rw[Nat.testBit_or,zbv,zbv,zbv]
 simp
theorem yc9 (b:Nat):zb2 [b]=2 ^ b:=by simp[zb2]
theorem zlt (l:List Nat)(b:Nat):zb2 (l++[b])=zb2 l ||| 2 ^ b:=by rw[zh8,yc9]
theorem znr {a:Nat} (h:∀ i,32≤i→a.testBit i=false):a<4294967296:=by
 have:=Nat.lt_pow_two_of_testBit (n:=32) a h
 simpa using this
theorem zlu {l:List Nat} (h:∀ b∈l,b<32):zb2 l<4294967296:=znr fun i hi=>by
 rw[zbv,decide_eq_false_iff_not]
 intro hm
 have:=h i hm
 omega
theorem bit_lt {a i:Nat} (h:a<4294967296)(hi:32≤i):a.testBit i=false:=
 Nat.testBit_lt_two_pow (Nat.lt_of_lt_of_le (show a<2 ^ 32 by simpa using h) (Nat.pow_le_pow_right (by decide) hi))
theorem ygz (x:EX):(2 ^ x.2.toNat-1)*2 ^ x.1.toNat=zb2 (exB x):=zjh fun i=>by
 rw[zbv,Nat.testBit_mul_two_pow,Nat.testBit_two_pow_sub_one]
 rw[Bool.eq_iff_iff,Bool.and_eq_true,decide_eq_true_iff,decide_eq_true_iff,decide_eq_true_iff,zpm]
 omega
theorem zvx (a b:List Nat):zb2 a &&& zb2 b=0↔∀ x∈b,x ∉ a:=by
 constructor
 ·intro h x hx ha
  have:=congrArg (·.testBit x) h
  simp[zbv,hx,ha] at this
 ·intro h
  refine zjh fun i=>?_
  rw[Nat.testBit_and,zbv,zbv]
  by_cases hb:i∈b
  ·simp[h i hb]
  ·simp[hb]
def zkv (a b:Nat):Nat:=(BitVec.ofNat 32 a &&& ~~~ BitVec.ofNat 32 b).toNat
theorem zfn (a b i:Nat):(zkv a b).testBit i=(decide (i<32) && a.testBit i && !b.testBit i):=by
 unfold zkv
 rw[← BitVec.getLsbD,BitVec.getLsbD_and,BitVec.getLsbD_not,BitVec.getLsbD_ofNat,BitVec.getLsbD_ofNat]
 by_cases h:i<32<;>simp[h]
theorem ycd (a b:Nat):zkv a b<4294967296:=znr fun i hi=>by
 rw[zfn]
 simp
 omega
theorem zld (a b:Nat)(_ha:a<4294967296)(_hb:b<4294967296):bits .andNot .u32 (a:Int) (b:Int)=(zkv a b:Int):=by
 have h1:BitVec.ofInt 32 (a:Int)=BitVec.ofNat 32 a:=BitVec.ofInt_natCast ..
 have h2:BitVec.ofInt 32 (b:Int)=BitVec.ofNat 32 b:=BitVec.ofInt_natCast ..
 show IntKind.u32.wrap ((BitVec.ofInt 32 (a:Int) &&& ~~~ BitVec.ofInt 32 (b:Int)).toNat:Int)=_
 rw[h1,h2]
 show IntKind.u32.wrap (zkv a b:Int)=_
 have:=ycd a b
 rw[IntKind.wrap_u32]
 omega
theorem andI (a b:Nat)(ha:a<4294967296)(hb:b<4294967296):bits .and .u32 (a:Int) (b:Int)=((a &&& b:Nat):Int):=by
 have hx:a &&& b<2 ^ 32:=Nat.and_lt_two_pow _ (by omega)
 have h1:(BitVec.ofInt 32 (a:Int)).toNat=a:=by
  rw[BitVec.ofInt_natCast,BitVec.toNat_ofNat];exact Nat.mod_eq_of_lt (by omega)
 have h2:(BitVec.ofInt 32 (b:Int)).toNat=b:=by
  rw[BitVec.ofInt_natCast,BitVec.toNat_ofNat];exact Nat.mod_eq_of_lt (by omega)
 show IntKind.u32.wrap ((BitVec.ofInt 32 (a:Int) &&& BitVec.ofInt 32 (b:Int)).toNat:Int)=_
 rw[BitVec.toNat_and,h1,h2,IntKind.wrap_u32]
 omega
theorem orI (a b:Nat)(ha:a<4294967296)(hb:b<4294967296):bits .or .u32 (a:Int) (b:Int)=((a ||| b:Nat):Int):=by
 have hx:a ||| b<2 ^ 32:=Nat.or_lt_two_pow (by omega) (by omega)
 have h1:(BitVec.ofInt 32 (a:Int)).toNat=a:=by
  rw[BitVec.ofInt_natCast,BitVec.toNat_ofNat];exact Nat.mod_eq_of_lt (by omega)
 have h2:(BitVec.ofInt 32 (b:Int)).toNat=b:=by
  rw[BitVec.ofInt_natCast,BitVec.toNat_ofNat];exact Nat.mod_eq_of_lt (by omega)
 show IntKind.u32.wrap ((BitVec.ofInt 32 (a:Int) ||| BitVec.ofInt 32 (b:Int)).toNat:Int)=_
 rw[BitVec.toNat_or,h1,h2,IntKind.wrap_u32]
 omega
theorem or_lt {a b:Nat} (ha:a<4294967296)(hb:b<4294967296):a ||| b<4294967296:=Nat.or_lt_two_pow (n:=32) (by omega) (by omega)
theorem zuc {b:Nat} (hb:b<32):(2:Nat) ^ b<4294967296:=by
 have:(2:Nat) ^ b<2 ^ 32:=Nat.pow_lt_pow_right (by decide) hb
 simpa using this
def free (u:Nat) (b:Nat):Bool:=decide (9≤b) && !u.testBit b
def frL (u n:Nat):List Nat:=(List.range n).filter (free u)
def zbh (u:Nat):List Nat:=frL u 32
theorem zvd (u n:Nat):frL u (n+1)=if free u n then frL u n++[n] else frL u n:=by
 unfold frL
 rw[List.range_succ,List.filter_append,List.filter_cons]
 split<;>simp
theorem ye0 (u:Nat):frL u 9=[]:=by
 unfold frL
 rw[List.filter_eq_nil_iff]
 intro b hb
 rw[List.mem_range] at hb
 unfold free
 simp
 omega
theorem frL_mem {u n b:Nat}:b∈frL u n↔b<n∧9≤b∧u.testBit b=false:=by
 unfold frL free
 rw[List.mem_filter,List.mem_range,Bool.and_eq_true,decide_eq_true_iff,Bool.not_eq_true']
theorem zn2 (u n k:Nat):frL u n <+: frL u (n+k):=by
 induction k with
 | zero=>exact List.prefix_refl _
 | succ k ih =>
  refine ih.trans ?_
  rw[show n+(k+1)=(n+k)+1 from rfl,zvd]
  split
  ·exact List.prefix_append _ _
  ·exact List.prefix_refl _
theorem yez {u n:Nat} (h:n≤32):frL u n=(zbh u).take (frL u n).length:=by
 have:=zn2 u n (32-n)
 rw[show n+(32-n)=32 from by omega] at this
 obtain⟨t,ht⟩:=this
 unfold zbh
 rw[← ht,List.take_left']
 rfl
theorem zca (u:Nat):Good (zbh u):=⟨List.Pairwise.filter _ List.nodup_range,fun b hb=>by
 have:=frL_mem.1 hb
 exact⟨this.2.1,this.1⟩⟩
theorem zxm (u:Nat):(zbh u).Pairwise (· < ·):=List.Pairwise.filter _ List.pairwise_lt_range
theorem Good.lt {l:List Nat} (h:Good l):zb2 l<4294967296:=zlu fun b hb=>(h.2 b hb).2
theorem Good.take {l:List Nat} (h:Good l)(n:Nat):Good (l.take n):=⟨h.1.sublist (List.take_sublist _ _),fun b hb=>h.2 b (List.mem_of_mem_take hb)⟩
theorem Good.drop {l:List Nat} (h:Good l)(n:Nat):Good (l.drop n):=⟨h.1.sublist (List.drop_sublist _ _),fun b hb=>h.2 b (List.mem_of_mem_drop hb)⟩
theorem ybe (i:Nat):(4294966784:Nat).testBit i=(decide (9≤i) && decide (i<32)):=by
 have e:(4294966784:Nat)=(2 ^ 23-1)*2 ^ 9:=by decide
 rw[e,Nat.testBit_mul_two_pow,Nat.testBit_two_pow_sub_one]
 congr 1
 rw[Bool.eq_iff_iff,decide_eq_true_iff,decide_eq_true_iff]
 omega
theorem zxq (u:Nat):zkv 4294966784 u=zb2 (zbh u):=zjh fun i=>by
 rw[zfn,ybe,zbv,Bool.eq_iff_iff]
 simp only[Bool.and_eq_true,decide_eq_true_iff,Bool.not_eq_true',zbh,frL_mem]
 constructor
 ·rintro⟨⟨a,b,c⟩,d⟩;exact⟨a,b,d⟩
 ·rintro⟨a,b,d⟩;exact⟨⟨a,b,a⟩,d⟩
theorem zra (u:Nat)(hu:u<4294967296):bits .andNot .u32 (4294966784:Int) (u:Int)=(zb2 (zbh u):Int):=by
 have:=zld 4294966784 u (by decide) hu
 rw[zxq,show((4294966784:Nat):Int)=4294966784 from rfl] at this
 exact this
theorem zn9 {l:List Nat} (h:Good l):Sp.popN 32 (zb2 l)=l.length:=by
 rw[Sp.popN_filter]
 have:((List.range 32).filter fun i=>(zb2 l).testBit i).Perm l:=by
  rw[List.perm_iff_count]
  intro a
  rw[List.Nodup.count (List.Pairwise.filter _ List.nodup_range),List.Nodup.count h.1]
  have:(a∈(List.range 32).filter fun i=>(zb2 l).testBit i)↔a∈l:=by
   rw[List.mem_filter,List.mem_range,zbv,decide_eq_true_iff]
   exact⟨fun x=>x.2,fun x=>⟨(h.2 a x).2,x⟩⟩
  simp only[this]
 exact this.length_eq
theorem yex (u:Nat)(k:Nat):zbh (u ||| zb2 ((zbh u).take k))=(zbh u).drop k:=by
 have h1:zbh (u ||| zb2 ((zbh u).take k))=(zbh u).filter (fun b=>!decide (b∈(zbh u).take k)):=by
  conv=>rhs;arg 2;rw[zbh,frL]
  rw[List.filter_filter]
  unfold zbh frL
  refine List.filter_congr fun b _=>?_
  unfold free
  rw[Nat.testBit_or,zbv,Bool.not_or,← Bool.and_assoc,Bool.and_comm (!decide _)]
 rw[h1]
 generalize hF:zbh u=F
 have hn:F.Nodup:=hF ▸ (zca u).1
 conv=>lhs;rw[← List.take_append_drop k F]
 rw[List.filter_append]
 have e1:(F.take k).filter (fun b=>!decide (b∈(F.take k++F.drop k).take k))=[]:=by
  rw[List.filter_eq_nil_iff]
  intro b hb
  rw[List.take_append_drop]
  simp[hb]
 have e2:(F.drop k).filter (fun b=>!decide (b∈(F.take k++F.drop k).take k))=F.drop k:=by
  rw[List.filter_eq_self]
  intro b hb
  rw[List.take_append_drop]
  have hd:(F.take k++F.drop k).Nodup:=by rw[List.take_append_drop];exact hn
  have:=(List.nodup_append.1 hd).2.2
  simp only[Bool.not_eq_true',decide_eq_false_iff_not]
  exact fun h=>this b h b hb rfl
 rw[e1,e2,List.nil_append]
theorem yfd {x:Nat} (h0:x≠0)(hx:x<4294967296):Lib.ctz 32 x<32∧x.testBit (Lib.ctz 32 x)=true∧∀ i,i<Lib.ctz 32 x→x.testBit i=false:=by
 obtain⟨m,hm,ht⟩:=Lib.ctzFrom_spec 32 x (Nat.pos_of_ne_zero h0) (by simpa using hx)
 have e:Lib.ctz 32 x=Lib.ctzFrom 32 x:=by simp[Lib.ctz,h0]
 rw[e]
 generalize Lib.ctzFrom 32 x=t at *
 have hb:∀ i,x.testBit i=(decide (t≤i) && (2*m+1).testBit (i-t)):=fun i=>by rw[hm,Nat.mul_comm,Nat.testBit_mul_two_pow]
 refine⟨ht,?_,fun i hi=>?_⟩
 ·rw[hb];simp
 ·rw[hb];simp;omega
theorem lowest (u k:Nat)(h:k<(zbh u).length):zb2 (zbh (u ||| zb2 ((zbh u).take k)))≠0∧Lib.ctz 32 (zb2 (zbh (u ||| zb2 ((zbh u).take k))))=(zbh u)[k]:=by
 rw[yex]
 have hr:=zxm u
 have hg:=(zca u).drop k
 generalize zbh u=F at *
 rw[List.drop_eq_getElem_cons h] at hg ⊢
 have hne:zb2 (F[k]::F.drop (k+1))≠0:=fun e=>by
  have:=zbv (F[k]::F.drop (k+1)) F[k]
  rw[e,Nat.zero_testBit,decide_eq_true List.mem_cons_self] at this
  cases this
 refine⟨hne,?_⟩
 obtain⟨_,h2,h3⟩:=yfd hne hg.lt
 rw[zbv,decide_eq_true_iff] at h2
 generalize Lib.ctz 32 (zb2 (F[k]::F.drop (k+1)))=t at *
 have hle:F[k]≤t:=by
  rcases List.mem_cons.1 h2 with e | e
  ·omega
  ·obtain⟨j,hj,rfl⟩:=List.getElem_of_mem e
   rw[List.getElem_drop]
   exact Nat.le_of_lt (List.pairwise_iff_getElem.1 hr _ _ _ _ (by omega))
 rcases Nat.eq_or_lt_of_le hle with e | e
 ·exact e.symm
 ·have:=h3 _ e
  rw[zbv,decide_eq_true List.mem_cons_self] at this
  cases this
theorem yhf (u k:Nat)(h:k<(zbh u).length):(u ||| zb2 ((zbh u).take k)) ||| 2 ^ (zbh u)[k]=u ||| zb2 ((zbh u).take (k+1)):=by
 rw[List.take_succ_eq_append_getElem h,zlt,Nat.or_assoc]
theorem ycc (u:Nat)(s:List Nat)(b:Nat):zkv (zkv u (zb2 s)) (2 ^ b)=zkv u (zb2 (s++[b])):=zjh fun i=>by
 rw[zfn,zfn,zfn,zlt,Nat.testBit_or]
 cases decide (i<32)<;>cases u.testBit i<;>cases (zb2 s).testBit i<;>cases (2 ^ b).testBit i<;>rfl
theorem zrv {u:Nat} (h:u<4294967296):zkv u (zb2 [])=u:=zjh fun i=>by
 rw[zfn,zbv]
 by_cases hi:i<32
 ·simp[hi]
 ·rw[bit_lt h (by omega)];simp
def za4 (l:List EX):List Nat:=if ok l then zaq l else []
theorem za3 (l:List EX):Good (za4 l):=by
 unfold za4
 split
 ·rename_i h;exact zcr l h
 ·exact zk9
def zcw (l:List EX) (u:Nat) (n:Int):List EX × Nat × Int:=
 if ok l=false∨n<0 then ([],0,1) else if ((zbh u).length:Int)<n then ([],0,50) else (zc4 l ((zbh u).take n.toNat),u ||| zb2 ((zbh u).take n.toNat),0)
def zbm (l:List EX) (u:Nat) (n:Int):List EX × Nat × Int:=
 if ok l=false∨n<0∨((zaq l).length:Int)<n then ([],0,1) else (zc4 [] ((zaq l).take n.toNat),zkv u (zb2 ((zaq l).drop n.toNat)),0)
end Ex
namespace Ex
open Go.RowKit
def Tab (w:World):Prop:=TabAt 0 Lib.deBruijn32tab w
theorem Tab.keep {w w':World} (h:Tab w)(hb:w'.heap[0]?=w.heap[0]?):Tab w':=fun j hj=>(World.cell?_of_block (w:=w) (w':=w') (a:=⟨0,j,none⟩) hb).trans (h j hj)
theorem Tab.pos {w:World} (h:Tab w):0<w.heap.size:=World.block_lt_of_cell? _ _ (h 0 (by decide))
theorem Tab.below {w w':World} (h:Tab w){B:Nat} (hb:Below B w w')(hB:0<B):Tab w':=h.keep (hb.block 0 hB)
set_option maxRecDepth 100000 in
theorem ygt (x k idx:Nat)(w:World)(hx0:((x:Int)==0)=false)
  (key:bits BinOp.and IntKind.u32 (x:Int) (-(x:Int) % 4294967296)*125613361 % 4294967296 / 134217728=(idx:Int))
  (hi:idx<32) (hk:k<32) (hcell:w.cell? ⟨0,idx,none⟩=some (.int .u8 (k:Int))):
  Calls Tryz.prog 173 #[.int .u32 x] w fun e w'=>e=.returned (.int .i64 k)∧w=w':=by
 go_enter Tryz.func173,Tryz.ntmps173
 go_wp2_with (simp only[key])
 go_ret
 exact⟨rfl,rfl⟩
theorem tz_any (x:Nat)(hx:x<4294967296)(h0:x≠0)(w:World)(hT:Tab w):
  Calls Tryz.prog 173 #[.int .u32 x] w fun e w'=>e=.returned (.int .i64 (Lib.ctz 32 x:Nat))∧w=w':=by
 obtain⟨hlow,hk⟩:=Lib.lowest_bit 32 x h0 (by simpa using hx)
 obtain⟨hi,htab⟩:=Lib.deBruijn32_at _ hk
 have hcell:=hT _ hi
 rw[htab] at hcell
 have key:=tz32_key x _ hx h0 (by simpa using hlow)
 exact ygt x _ _ w (by simp;omega) key hi hk hcell
theorem yha:∀ n:Fin 256,Lib.pop8 (n.val:Int)=(Sp.popN 8 n.val:Int):=by decide +kernel
theorem zk4 (n:Nat)(h:n<256):Lib.pop8 (n:Int)=(Sp.popN 8 n:Int):=yha ⟨n,h⟩
theorem ydu (x:Nat):Sp.popN 8 (x / 16777216)+Sp.popN 8 (x / 65536 % 256)+Sp.popN 8 (x / 256 % 256)+Sp.popN 8 (x % 256)=Sp.popN 32 x:=by
 have e1:=Sp.popN_bytes 24 x
 have e2:=Sp.popN_bytes 16 (x / 256)
 have e3:=Sp.popN_bytes 8 (x / 256 / 256)
 have e4:x / 256 / 256=x / 65536:=by omega
 have e5:x / 65536 / 256=x / 16777216:=by omega
 rw[e4] at e2 e3
 rw[e5] at e3
 simp only[Nat.reduceAdd] at e1 e2 e3
 omega
theorem yh0:(⟨(([0,1,1,2,1,2,2,3,1,2,2,3,2,3,3,4,1,2,2,3,2,3,3,4,2,3,3,4,3,4,4,5,1,2,2,3,2,3,3,4,2,3,3,4,3,4,4,5,2,3,3,4,3,4,4,5,3,4,4,5,4,5,5,6].append
 [1,2,2,3,2,3,3,4,2,3,3,4,3,4,4,5,2,3,3,4,3,4,4,5,3,4,4,5,4,5,5,6,2,3,3,4,3,4,4,5,3,4,4,5,4,5,5,6,3,4,4,5,4,5,5,6,4,5,5,6,5,6,6,7]).append
 ([1,2,2,3,2,3,3,4,2,3,3,4,3,4,4,5,2,3,3,4,3,4,4,5,3,4,4,5,4,5,5,6,2,3,3,4,3,4,4,5,3,4,4,5,4,5,5,6,3,4,4,5,4,5,5,6,4,5,5,6,5,6,6,7].append
 [2,3,3,4,3,4,4,5,3,4,4,5,4,5,5,6,3,4,4,5,4,5,5,6,4,5,5,6,5,6,6,7,3,4,4,5,4,5,5,6,4,5,5,6,5,6,6,7,4,5,5,6,5,6,6,7,5,6,6,7,6,7,7,8])).toArray⟩:ByteArray)=Lib.pop8tab:=by kernel_rfl
set_option maxRecDepth 100000 in
theorem zzq (x a b c d:Nat)(w:World)(i1:(0:Int)≤(x:Int) / 16777216∧(x:Int) / 16777216≤255)
  (p1:Lib.pop8 ((x:Int) / 16777216)=(a:Int)) (p2:Lib.pop8 ((x:Int) / 65536 % 256)=(b:Int)) (p3:Lib.pop8 ((x:Int) / 256 % 256)=(c:Int)) (p4:Lib.pop8 ((x:Int) % 256)=(d:Int)) (hs:a+b+c+d≤32)
  (k2:bits .and .u32 ((x:Int) / 65536) 255=(x:Int) / 65536 % 256) (k3:bits .and .u32 ((x:Int) / 256) 255=(x:Int) / 256 % 256) (k4:bits .and .u32 (x:Int) 255=(x:Int) % 256):
  Calls Tryz.prog 169 #[.int .u32 x] w fun e w'=>e=.returned (.int .i64 ((a+b+c+d:Nat):Int))∧Below w.heap.size w w':=by
 have hm:Hid ((a:Int)+b+c+d=((a+b+c+d:Nat):Int)):=zq (by omega)
 go_enter Tryz.func169,Tryz.ntmps169
 simp only[yh0]
 go_wp2_with fail
 go_quiet (fail)
 go_wp2_with fail
 go_ret
 refine⟨?_,?_⟩
 ·exact congrArg (fun z=>Ending.returned (Value.int .i64 z)) hm.out
 ·exact below_drewN (Below.refl _ _) _
theorem zto (y:Nat)(hy:y<4294967296):bits .and .u32 (y:Int) 255=(y:Int) % 256:=by
 have:=andI y 255 hy (by decide)
 rw[show y &&& 255=y % 256 from by rw[show(255:Nat)=2 ^ 8-1 from rfl,Nat.and_two_pow_sub_one_eq_mod]] at this
 exact this
theorem zui (x:Nat)(hx:x<4294967296)(w:World):
  Calls Tryz.prog 169 #[.int .u32 x] w fun e w'=>e=.returned (.int .i64 (Sp.popN 32 x:Nat))∧Below w.heap.size w w':=by
 have hle:=Sp.popN_le 32 x
 rw[← ydu x] at hle ⊢
 refine zzq x _ _ _ _ w (by omega) ?_ ?_ ?_ ?_ hle ?_ ?_ (zto x hx)
 ·rw[show(x:Int) / 16777216=((x / 16777216:Nat):Int) from by omega];exact zk4 _ (by omega)
 ·rw[show(x:Int) / 65536 % 256=((x / 65536 % 256:Nat):Int) from by omega];exact zk4 _ (by omega)
 ·rw[show(x:Int) / 256 % 256=((x / 256 % 256:Nat):Int) from by omega];exact zk4 _ (by omega)
 ·rw[show(x:Int) % 256=((x % 256:Nat):Int) from by omega];exact zk4 _ (by omega)
 ·rw[show(x:Int) / 65536=((x / 65536:Nat):Int) from by omega];exact zto _ (by omega)
 ·rw[show(x:Int) / 256=((x / 256:Nat):Int) from by omega];exact zto _ (by omega)
end Ex
namespace Ex
open Go.ChangeShapes Go.WideShapes Go.ChangeAt Go.RowKit
def zc5 (x:EX):List Value:=[.int .i64 x.1,.int .i64 x.2]
def XOk (x:EX):Prop:=(-9223372036854775808≤x.1∧x.1≤9223372036854775807)∧-9223372036854775808≤x.2∧x.2≤9223372036854775807
structure XR (w:World) (B:Nat) (A:Option Addr) (l:List EX):Prop where
 ar:l≠[]→∃ ad,A=some ad∧ad.block<B∧∀ k a,l[k]?=some a→∀ j v,(zc5 a)[j]?=some v→w.cell? ((ad.add (k*2)).add j)=some v
 ok:∀ a∈l,XOk a
section
variable {w w':World} {B B':Nat} {A:Option Addr} {l:List EX}
theorem XR.keep (h:XR w B A l)(hk:∀ p:Addr,p.block<B→w'.cell? p=w.cell? p):XR w' B A l:=by
 refine⟨fun hn=>?_,h.ok⟩
 obtain⟨ad,e,hlt,hc⟩:=h.ar hn
 exact⟨ad,e,hlt,fun k a ha j v hv=>(hk _ (by rw[zan,zan];exact hlt)).trans (hc k a ha j v hv)⟩
theorem XR.below (h:XR w B A l)(hb:Below B w w'):XR w' B A l:=h.keep fun _ hp=>hb.cell hp
theorem XR.more (h:XR w B A l)(hB:B≤B'):XR w B' A l:=by
 refine⟨fun hn=>?_,h.ok⟩
 obtain⟨ad,e,hlt,hc⟩:=h.ar hn
 exact⟨ad,e,by omega,hc⟩
theorem XR.nil:XR w B A []:=⟨fun h=>absurd rfl h,fun a ha=>by cases ha⟩
theorem XR.at_ (h:XR w B A l){k:Nat} (hk:k<l.length):
  ∃ ad,A=some ad∧ad.block<B∧w.cell? (ad.add (k*2))=some (.int .i64 l[k].1)∧w.cell? ⟨(ad.add (k*2)).block,(ad.add (k*2)).off+1,none⟩=some (.int .i64 l[k].2)∧XOk l[k]:=by
 obtain⟨ad,e,hb,hc⟩:=h.ar (by intro e;subst e;simp at hk)
 have H:=hc k l[k] (List.getElem?_eq_getElem hk)
 exact⟨ad,e,hb,H 0 _ rfl,H 1 _ rfl,h.ok _ (List.getElem_mem hk)⟩
end
section
variable {H:Type} {enc:TypeId × Value→H} {W:World}
end
def V (x:EX):Value:=.agg #[.int .i64 x.1,.int .i64 x.2]
set_option maxRecDepth 100000 in
theorem ze6 (s n:Int)(w:World)(hs:-9223372036854775808≤s∧s≤9223372036854775807):Calls Tryz.prog 176 #[.agg #[.int .i64 s,.int .i64 n]] w fun e w'=>e=.returned (.bool (decide (ins (s,n))))∧Below w.heap.size w w':=by
 have hw:Below w.heap.size w (w.alloc (.cells #[.int .i64 s,.int .i64 n] 152)):=(Below.refl _ _).alloc (Nat.le_refl _) _
 have HW:=zq hw
 clear hw
 by_cases h1:9≤s
 ·have ew:IntKind.i64.wrap (32-s)=32-s:=by rw[IntKind.wrap_i64];omega
  by_cases h2:1≤n
  ·by_cases h3:n≤32-s
   ·have hi:ins (s,n):=⟨h1,h2,h3⟩
    have HI:=zq (decide_eq_true hi)
    clear hi
    go_enter Tryz.func176,Tryz.ntmps176
    go_wp2_with fail
    go_ret
    exact⟨by rw[HI.out];rfl,HW.out⟩
   ·have hi:¬ins (s,n):=fun h=>h3 h.2.2
    have HI:=zq (decide_eq_false hi)
    clear hi
    go_enter Tryz.func176,Tryz.ntmps176
    go_wp2_with fail
    go_ret
    exact⟨by rw[HI.out];rfl,HW.out⟩
  ·have hi:¬ins (s,n):=fun h=>h2 h.2.1
   have HI:=zq (decide_eq_false hi)
   clear hi
   go_enter Tryz.func176,Tryz.ntmps176
   go_wp2_with fail
   go_ret
   exact⟨by rw[HI.out];rfl,HW.out⟩
 ·have hi:¬ins (s,n):=fun h=>h1 h.1
  have HI:=zq (decide_eq_false hi)
  clear hi
  go_enter Tryz.func176,Tryz.ntmps176
  go_wp2_with fail
  go_ret
  exact⟨by rw[HI.out];rfl,HW.out⟩
theorem ygy (s n:Int)(h:ins (s,n)):((2:Int) ^ n.toNat-1) % 4294967296*2 ^ s.toNat % 4294967296=(zb2 (exB (s,n)):Int):=by
 have e:=ygz (s,n)
 have l:zb2 (exB (s,n))<4294967296:=zlu (fun b hb=>(zpa h hb).2)
 rw[← e] at l ⊢
 simp only at l ⊢
 generalize n.toNat=N at *
 generalize s.toNat=S at *
 have p1:0<(2:Nat) ^ N:=Nat.pow_pos (by decide)
 have p2:0<(2:Nat) ^ S:=Nat.pow_pos (by decide)
 have e1:(2:Int) ^ N=((2 ^ N:Nat):Int):=by simp
 have e2:(2:Int) ^ S=((2 ^ S:Nat):Int):=by simp
 have l2:2 ^ N-1≤(2 ^ N-1)*2 ^ S:=Nat.le_mul_of_pos_right _ p2
 rw[e1,e2]
 clear e1 e2 e
 generalize (2:Nat) ^ N=a at *
 generalize (2:Nat) ^ S=b at *
 have e3:((a:Int)-1) % 4294967296=((a-1:Nat):Int):=by omega
 rw[e3,← Int.natCast_mul]
 omega
set_option maxRecDepth 100000 in
theorem zyr (x:EX)(w:World)(h:ins x):Calls Tryz.prog 167 #[.agg #[.int .i64 x.1,.int .i64 x.2]] w fun e w'=>e=.returned (.int .u32 (zb2 (exB x):Nat))∧Below w.heap.size w w':=by
 have hw:Below w.heap.size w (w.alloc (.cells #[.int .i64 x.1,.int .i64 x.2] 152)):=(Below.refl _ _).alloc (Nat.le_refl _) _
 have HW:=zq hw
 clear hw
 obtain⟨s,n⟩:=x
 have HS:=zq (ygy s n h)
 unfold ins at h
 simp only at h
 go_enter Tryz.func167,Tryz.ntmps167
 go_wp2_with fail
 go_quiet (fail)
 go_wp2_with fail
 go_ret
 refine⟨?_,?_⟩
 ·exact congrArg (fun z=>Ending.returned (Value.int .u32 z)) HS.out
 ·exact below_drewN HW.out _
def okE (l:List EX):Int:=if ok l=true then 0 else 1
theorem zkn {l:List EX} (h:ok l=false):okE l=1:=by simp[okE,h]
theorem zj1 {l:List EX} (h:ok l=true):okE l=0:=by simp[okE,h]
def zcx (w:World) (v:Value) (e:Ending) (w':World):Prop:=e=.returned v∧Below w.heap.size w w'
set_option maxRecDepth 100000 in
theorem zf8 (A:Option Addr)(l:List EX)(c:Nat)(w:World)(h:XR w w.heap.size A l)(hl:l.length≤100):
  Calls Tryz.prog 166 #[.slice A l.length c] w (zcx w (.int .i64 (okE l))):=by
 go_enter Tryz.func166,Tryz.ntmps166
 go_wp2_with fail
 go_loopw [9,3,4,6] (fun i s e _ wr=>∃ (k:Nat) (out:List Nat) (en:Int),k≤l.length∧i=.int .i64 (k:Int)∧s=.int .u32 (zb2 out:Nat)∧e=.int .i64 en∧ok l=okL out en (l.drop k)∧Good out∧0≤en∧en≤32∧Below w.heap.size w wr) (fun i _ _ _ _=>l.length-(RowKit.intOf i).toNat)
 case atStart=>exact⟨0,[],0,by omega,rfl,rfl,rfl,rfl,zk9,by omega,by omega,Below.refl _ _⟩
 case round =>
  obtain⟨k,out,en,hk,rfl,rfl,rfl,hok,hg,he0,he1,hb⟩:=hrel
  by_cases hlt:k<l.length
  ·obtain⟨ad,rfl,hlb,d0,d1,hx⟩:=(h.below hb).at_ hlt
   have hst:=zuk out en (List.drop_eq_getElem_cons hlt)
   rw[← hok] at hst
   have hsz:=hb.size
   have HN:=zq h
   have HO:=zq hok
   clear h hok
   generalize l[k]=x at *
   obtain⟨s,n⟩:=x
   obtain⟨hs0,hn0⟩:=hx
   simp only at d0 d1 hs0 hn0
   have b1:=hb.alloc hsz (.cells #[.int .i64 s,.int .i64 n] 152)
   obtain⟨W1,HW1⟩:∃ W1,W1=wr.alloc (.cells #[.int .i64 s,.int .i64 n] 152):=⟨_,rfl⟩
   have hat:W1.heap[wr.heap.size]?=some (.cells #[.int .i64 s,.int .i64 n] 152 (0,0)):=by rw[HW1];exact heap_alloc_new wr _
   have hs1:wr.heap.size<W1.heap.size:=(Array.getElem?_eq_some_iff.1 hat).1
   rw[← HW1] at b1
   have hin:=ze6 s n W1 hs0
   have HB:=zq b1
   have HG:=zq hg
   have HA:=zq hat
   have HIN:=zq hin
   clear b1 hb hg hat hin
   go_wp2_with fail
   rw[← HW1]
   refine HIN.out.mono ?_
   clear HIN
   rintro e w2 ⟨rfl,b2⟩
   have hat2:=(b2.block _ hs1).trans HA.out
   have c0:w2.cell? ⟨wr.heap.size,0,none⟩=some (.int .i64 s):=by rw[cell_of_row _ _ _ _ _ _ hat2];rfl
   have c1:w2.cell? ⟨wr.heap.size,1,none⟩=some (.int .i64 n):=by rw[cell_of_row _ _ _ _ _ _ hat2];rfl
   have B2:=zq (HB.out.trans (b2.mono HB.out.size))
   have HA2:=zq hat2
   have hs2:wr.heap.size<w2.heap.size:=(Array.getElem?_eq_some_iff.1 hat2).1
   generalize wr.heap.size=g at *
   clear b2 hat2 HW1 HB HA d0 d1 hs1 hsz
   by_cases h1:ins (s,n)
   ·rw[decide_eq_true h1] at hst ⊢
    have h1':=h1
    unfold ins at h1'
    simp only at h1'
    by_cases h2:s=en
    ·have hno:ok l=false:=by rw[hst];simp[h2]
     have HNO:=zq (zkn hno)
     clear hst hno h1
     subst h2
     go_wp2_with fail
     go_ret
     exact⟨by rw[HNO.out];rfl,B2.out⟩
    ·have hset:=fun w=>zyr (s,n) w h1
     have ql:zb2 (exB (s,n))<4294967296:=zlu (fun b hb=>(zpa h1 hb).2)
     have pl:=HG.out.lt
     have hand:=andI _ _ pl ql
     by_cases h3:∀ b∈exB (s,n),b ∉ out
     ·rw[decide_eq_true h3,decide_eq_true (show(s,n).1≠en from h2),Bool.true_and,Bool.true_and,Bool.true_and] at hst
      rw[(zvx _ _).2 h3] at hand
      have hor:=orI _ _ pl ql
      rw[← zh8] at hor
      have hg':=HG.out.add h1 h3
      have HST:=zq hst
      have HG':=zq hg'
      have ew:IntKind.i64.wrap (s+n)=s+n:=by rw[IntKind.wrap_i64];omega
      clear hst hg' h1 h3 HG
      simp only at hset
      generalize hE:zb2 (out++exB (s,n))=E at *
      have HE:=zq hE
      clear hE
      generalize zb2 (exB (s,n))=Q at *
      generalize zb2 out=P at *
      clear pl ql
      go_wp2_with fail
      refine(hset w2).mono ?_
      rintro e w3 ⟨rfl,b3⟩
      have hat3:=(b3.block _ hs2).trans HA2.out
      have c2:w3.cell? ⟨g,0,none⟩=some (.int .i64 s):=by rw[cell_of_row _ _ _ _ _ _ hat3];rfl
      have c3:w3.cell? ⟨g,1,none⟩=some (.int .i64 n):=by rw[cell_of_row _ _ _ _ _ _ hat3];rfl
      have B3:=zq (B2.out.trans (b3.mono B2.out.size))
      have HA3:=zq hat3
      have hs3:g<w3.heap.size:=(Array.getElem?_eq_some_iff.1 hat3).1
      clear b3 hat3 c0 c1 B2 HA2 hs2
      go_wp2_with fail
      refine(hset w3).mono ?_
      rintro e w4 ⟨rfl,b4⟩
      have hat4:=(b4.block _ hs3).trans HA3.out
      have c4:w4.cell? ⟨g,0,none⟩=some (.int .i64 s):=by rw[cell_of_row _ _ _ _ _ _ hat4];rfl
      have c5:w4.cell? ⟨g,1,none⟩=some (.int .i64 n):=by rw[cell_of_row _ _ _ _ _ _ hat4];rfl
      have B4:=zq (B3.out.trans (b4.mono B3.out.size))
      clear b4 hat4 c2 c3 B3 HA3 hs3
      go_wp2_with fail
      go_roundw
      case rel=>exact⟨k+1,out++exB (s,n),s+n,by omega,by go_num,by rw[HE.out],rfl,HO.out.trans (HO.out.symm.trans HST.out),HG'.out,by omega,by omega,B4.out⟩
      case measure=>simp[RowKit.intOf];omega
     ·have hno:ok l=false:=by rw[hst,decide_eq_false h3];simp
      have hne:zb2 out &&& zb2 (exB (s,n))≠0:=fun e=>h3 ((zvx _ _).1 e)
      have HNO:=zq (zkn hno)
      clear hst hno h1 h3
      simp only at hset
      generalize zb2 (exB (s,n))=Q at *
      generalize zb2 out=P at *
      generalize P &&& Q=R at *
      have hr:((R:Int) != 0)=true:=by simp;omega
      clear pl ql hne
      go_wp2_with fail
      refine(hset w2).mono ?_
      rintro e w3 ⟨rfl,b3⟩
      have hat3:=(b3.block _ hs2).trans HA2.out
      have c2:w3.cell? ⟨g,0,none⟩=some (.int .i64 s):=by rw[cell_of_row _ _ _ _ _ _ hat3];rfl
      have c3:w3.cell? ⟨g,1,none⟩=some (.int .i64 n):=by rw[cell_of_row _ _ _ _ _ _ hat3];rfl
      have B3:=zq (B2.out.trans (b3.mono B2.out.size))
      have HA3:=zq hat3
      have hs3:g<w3.heap.size:=(Array.getElem?_eq_some_iff.1 hat3).1
      clear b3 hat3 c0 c1 B2 HA2 hs2
      go_wp2_with fail
      go_ret
      exact⟨by rw[HNO.out];rfl,B3.out⟩
   ·have hno:ok l=false:=by rw[hst];simp[h1]
    rw[decide_eq_false h1]
    have HNO:=zq (zkn hno)
    clear hst hno h1
    go_wp2_with fail
    go_ret
    exact⟨by rw[HNO.out];rfl,B2.out⟩
  ·obtain rfl:k=l.length:=by omega
   have hy:ok l=true:=by rw[hok,List.drop_length,okL]
   have HY:=zq (zj1 hy)
   clear hok hy hg h
   go_wp2_with fail
   go_ret
   exact⟨by rw[HY.out];rfl,hb⟩
end Ex
namespace Ex
open Go.RowKit
theorem zuj:∀ (a b:List EX) (out:List Nat) (e:Int),okL out e (a++b)=true→okL out e a=true
 | [],_,_,_,_=>rfl
 | x::r,b,out,e,h=>by
  obtain⟨h1,h2,h3,h4⟩:=(zhm _ _ _ _).1 h
  exact(zhm _ _ _ _).2 ⟨h1,h2,h3,zuj r b _ _ h4⟩
theorem yhk {l:List EX} (h:ok l=true)(k:Nat):ok (l.take k)=true:=zuj (l.take k) (l.drop k) [] 0 (by rw[List.take_append_drop];exact h)
theorem znp:∀ {l:List EX},ok l=true→∀ x∈l,ins x:=fun {l}=>zgc (M:=fun l=>ok l=true→∀ x∈l,ins x) (fun _ _ h=>by cases h) (fun q x ih h y hy=>by
 obtain⟨h1,h2,_⟩:=(zj0 q x).1 h
 rcases List.mem_append.1 hy with hy | hy
 ·exact ih h1 y hy
 ·simp at hy;subst hy;exact h2) l
theorem zlc {l:List EX} {k:Nat} (hk:k<l.length):zaq (l.take (k+1))=zaq (l.take k)++exB l[k]:=by
 rw[List.take_succ_eq_append_getElem hk,zdg,zgq]
theorem zar {l:List EX} (h:ok l=true):za4 l=zaq l:=by simp[za4,h]
theorem zps {l:List EX} (h:ok l=false):za4 l=[]:=by simp[za4,h]
set_option maxRecDepth 100000 in
theorem zpt (A:Option Addr)(l:List EX)(c:Nat)(w:World)(h:XR w w.heap.size A l)(hl:l.length≤100):
  Calls Tryz.prog 153 #[.slice A l.length c] w (zcx w (.int .u32 (zb2 (za4 l):Nat))):=by
 have hck:=zf8 A l c w h hl
 have HCK:=zq hck
 clear hck
 by_cases hok:ok l=true
 ·rw[zar hok]
  rw[zj1 hok] at HCK
  have HOK:=zq hok
  clear hok
  go_enter Tryz.func153,Tryz.ntmps153
  go_wp2_with fail
  refine HCK.out.mono ?_
  clear HCK
  rintro e w1 ⟨rfl,b1⟩
  have B1:=zq b1
  clear b1
  go_wp2_with fail
  go_loopw [11,3,5] (fun i s _ wr=>∃ (k:Nat),k≤l.length∧i=.int .i64 (k:Int)∧s=.int .u32 (zb2 (zaq (l.take k)):Nat)∧Below w.heap.size w wr) (fun i _ _ _=>l.length-(RowKit.intOf i).toNat)
  case atStart=>exact⟨0,by omega,rfl,rfl,B1.out⟩
  case round =>
   obtain⟨k,hk,rfl,rfl,hb⟩:=hrel
   by_cases hlt:k<l.length
   ·obtain⟨ad,rfl,hlb,d0,d1,hx⟩:=(h.below hb).at_ hlt
    have hst:=zlc hlt
    have hin:=znp HOK.out _ (List.getElem_mem hlt)
    have gl:=(zcr _ (yhk HOK.out k)).lt
    have hsz:=hb.size
    have HN:=zq h
    clear h
    generalize l[k]=x at *
    have ql:zb2 (exB x)<4294967296:=zlu (fun b hb=>(zpa hin hb).2)
    have hor:=orI _ _ gl ql
    rw[← zh8,← hst] at hor
    have hset:=fun w=>zyr x w hin
    clear hst hx hin
    have b1:=hb.alloc hsz (.cells #[.int .i64 x.1,.int .i64 x.2] 152)
    have HB:=zq b1
    obtain⟨s,n⟩:=x
    simp only at d0 d1 hset
    generalize zb2 (exB (s,n))=Q at *
    generalize hE:zb2 (zaq (l.take (k+1)))=E at *
    have HE:=zq hE
    clear hE b1 hb
    generalize zb2 (zaq (l.take k))=P at *
    clear gl ql
    go_wp2_with fail
    refine(hset _).mono ?_
    rintro e w4 ⟨rfl,b4⟩
    have B4:=zq (HB.out.trans (b4.mono HB.out.size))
    clear b4
    go_wp2_with fail
    go_roundw
    case rel=>exact⟨k+1,by omega,by go_num,by rw[HE.out],B4.out⟩
    case measure=>simp[RowKit.intOf];omega
   ·obtain rfl:k=l.length:=by omega
    rw[List.take_length]
    clear h
    go_wp2_with fail
    go_ret
    exact⟨rfl,hb⟩
 ·have hno:ok l=false:=by simpa using hok
  rw[zps hno]
  rw[zkn hno] at HCK
  clear hok
  go_enter Tryz.func153,Tryz.ntmps153
  go_wp2_with fail
  refine HCK.out.mono ?_
  rintro e w1 ⟨rfl,b1⟩
  go_wp2_with fail
  go_ret
  exact⟨rfl,b1⟩
set_option maxRecDepth 100000 in
theorem zgv (A:Option Addr)(l:List EX)(c:Nat)(w:World)(h:XR w w.heap.size A l)(hl:l.length≤100):
  Calls Tryz.prog 157 #[.slice A l.length c] w (zcx w (.int .i64 ((za4 l).length:Nat))):=by
 have hb:=zpt A l c w h hl
 have ho:=fun w=>zui (zb2 (za4 l)) (za3 l).lt w
 rw[zn9 (za3 l)] at ho
 generalize zb2 (za4 l)=s at *
 generalize (za4 l).length=n at *
 clear h
 go_enter Tryz.func157,Tryz.ntmps157
 go_wp2_with fail
 refine hb.mono ?_
 rintro e w1 ⟨rfl,b1⟩
 go_wp2_with fail
 refine(ho w1).mono ?_
 rintro e w2 ⟨rfl,b2⟩
 have B2:=zq (b1.trans (b2.mono b1.size))
 clear b1 b2
 go_wp2_with fail
 go_ret
 exact⟨rfl,B2.out⟩
def JR (w:World) (R:Option Addr) (l:List Nat):Prop:=∀ (k x:Nat),l[k]?=some x→∃ g o,R=some ⟨g,o,none⟩∧g<w.heap.size∧w.cell? ⟨g,o+k,none⟩=some (.int .i64 (x:Int))
theorem IR.jr {w:World} {R:Option Addr} {l:List Nat} (h:IR w R l):JR w R l:=fun k x hx=>by
 obtain⟨g,e,hg,hc⟩:=h k x hx
 exact⟨g,0,e,hg,by rw[Nat.zero_add];exact hc⟩
theorem JR.at_ {w:World} {R:Option Addr} {l:List Nat} (h:JR w R l){k:Nat} (hk:k<l.length):∃ g o,R=some ⟨g,o,none⟩∧g<w.heap.size∧w.cell? ⟨g,o+k,none⟩=some (.int .i64 (l[k]:Int)):=h k _ (List.getElem?_eq_getElem hk)
theorem JR.below {w w':World} {R:Option Addr} {l:List Nat} (h:JR w R l)(hb:Below w.heap.size w w'):JR w' R l:=fun k x hx=>by
 obtain⟨g,o,e,hg,hc⟩:=h k x hx
 exact⟨g,o,e,Nat.lt_of_lt_of_le hg hb.size,(hb.cell (show(⟨g,o+k,none⟩:Addr).block<_ from hg)).trans hc⟩
set_option maxRecDepth 100000 in
theorem ziv (R:Option Addr)(l:List Nat)(c:Nat)(w:World)(h:JR w R l)(hg:Good l):
  Calls Tryz.prog 122 #[.slice R l.length c] w fun e w'=>e=.returned (.int .u32 (zb2 l:Nat))∧w'=w:=by
 have hlen:=hg.len
 go_enter Tryz.func122,Tryz.ntmps122
 go_wp2_with fail
 go_loop [8,3,5] (fun i s _=>∃ (k:Nat),k≤l.length∧i=.int .i64 (k:Int)∧s=.int .u32 (zb2 (l.take k):Nat)) (fun i _ _=>l.length-(RowKit.intOf i).toNat)
 case atStart=>exact⟨0,by omega,rfl,rfl⟩
 case round =>
  obtain⟨k,hk,rfl,rfl⟩:=hrel
  by_cases hlt:k<l.length
  ·obtain⟨g,o,rfl,hgl,hc⟩:=h.at_ hlt
   have hb:=hg.2 _ (List.getElem_mem hlt)
   have hst:zb2 (l.take (k+1))=zb2 (l.take k) ||| 2 ^ l[k]:=by rw[List.take_succ_eq_append_getElem hlt,zlt]
   have pl:=(hg.take k).lt
   have ql:=zuc hb.2
   have hor:=orI _ _ pl ql
   rw[← hst] at hor
   have e1:((2:Int) ^ l[k]) % 4294967296=((2 ^ l[k]:Nat):Int):=by
    have:(2:Int) ^ l[k]=((2 ^ l[k]:Nat):Int):=by simp
    rw[this]
    clear hor this
    generalize (2:Nat) ^ l[k]=T at *
    omega
   clear hst h
   generalize hE:zb2 (l.take (k+1))=E at *
   have HE:=zq hE
   clear hE
   generalize zb2 (l.take k)=P at *
   generalize l[k]=b at *
   generalize ((2 ^ b:Nat):Int)=T at *
   clear pl ql
   go_wp2_with fail
   go_round
   case rel=>exact⟨k+1,by omega,by go_num,by rw[HE.out]⟩
   case measure=>simp[RowKit.intOf];omega
  ·obtain rfl:k=l.length:=by omega
   rw[List.take_length]
   clear h
   go_wp2_with fail
   go_ret
   exact⟨rfl,rfl⟩
end Ex
end Go.Proofs.YtdopfpcjpjlkmaaGreatDoor
