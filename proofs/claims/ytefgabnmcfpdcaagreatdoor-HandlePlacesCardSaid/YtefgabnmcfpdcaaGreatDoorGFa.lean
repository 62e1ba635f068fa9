/- merged -/
import Derived.Test.YtefgabnmcfpdcaaGreatDoorSqz
import Derived.Test.YtefgabnmcfpdcaaGreatDoorGSp
import Derived.Test.YtefgabnmcfpdcaaGreatDoorGA
import Derived.Lib.Tables
import Derived.Shelf.Spec.TrailingZeros
import Derived.StillTailTactics
import Derived.Deep.QuietTactic
import Derived.BigQuiet
import Derived.WalkSmall
import Derived.Deep.Slices
set_option maxHeartbeats 800000
namespace Go.Proofs.YtefgabnmcfpdcaaGreatDoor
namespace Ex
abbrev EX:=Int × Int
def exB (x:EX):List Nat:=(List.range x.2.toNat).map (x.1.toNat+·)
def zap (l:List EX):List Nat:=l.flatMap exB
def ins (x:EX):Prop:=9≤x.1∧1≤x.2∧x.2≤32-x.1
instance (x:EX):Decidable (ins x):=by unfold ins;infer_instance
def okL:List Nat→Int→List EX→Bool
 | _,_,[]=>true
 | out,e,x::r=>decide (ins x) && (decide (x.1≠e) && (decide (∀ b∈exB x,b ∉ out) && okL (out++exB x) (x.1+x.2) r))
def ok (l:List EX):Bool:=okL [] 0 l
def ye7 (l:List EX):Int:=match l.getLast? with
 | some x=>x.1+x.2
 | none=>0
theorem ziz (q:List EX)(x:EX):ye7 (q++[x])=x.1+x.2:=by simp[ye7]
theorem zox (x:EX):(exB x).length=x.2.toNat:=by simp[exB]
theorem zow {x:EX} {b:Nat}:b∈exB x↔x.1.toNat≤b∧b<x.1.toNat+x.2.toNat:=by
 unfold exB
 rw[List.mem_map]
 constructor
 ·rintro⟨a,ha,rfl⟩
  rw[List.mem_range] at ha
  omega
 ·intro h
  exact⟨b-x.1.toNat,by rw[List.mem_range];omega,by omega⟩
theorem ye6 (x:EX)(k:Nat)(h:k<(exB x).length):(exB x)[k]=x.1.toNat+k:=by simp[exB]
theorem yan (x:EX):(exB x).Nodup:=by
 unfold exB
 exact List.Pairwise.map _ (fun a b h=>by omega) (List.nodup_range (n:=x.2.toNat))
theorem zov (s:Int)(n:Int)(hs:0≤s)(hn:0≤n):exB (s,n+1)=exB (s,n)++[(s+n).toNat]:=by
 unfold exB
 have e:(s,n+1).2.toNat=n.toNat+1:=by show(n+1).toNat=_;omega
 rw[e,List.range_succ,List.map_append]
 simp
 omega
theorem zdc (a b:List EX):zap (a++b)=zap a++zap b:=by simp[zap]
theorem zgi (x:EX):zap [x]=exB x:=by simp[zap]
theorem zme (x:EX)(r:List EX):zap (x::r)=exB x++zap r:=by simp[zap]
theorem zha (out:List Nat)(e:Int)(x:EX)(r:List EX):okL out e (x::r)=true↔ins x∧x.1≠e∧(∀ b∈exB x,b ∉ out)∧okL (out++exB x) (x.1+x.2) r=true:=by
 rw[okL,Bool.and_eq_true,Bool.and_eq_true,Bool.and_eq_true,decide_eq_true_iff,decide_eq_true_iff,decide_eq_true_iff]
theorem ztm (out:List Nat)(e:Int){l:List EX} {x:EX} {r:List EX} (h:l=x::r):okL out e l=(decide (ins x) && (decide (x.1≠e) && (decide (∀ b∈exB x,b ∉ out) && okL (out++exB x) (x.1+x.2) r))):=by
 rw[h,okL]
theorem ztn:∀ (q p:List EX) (x:EX),okL (zap p) (ye7 p) (q++[x])=true↔okL (zap p) (ye7 p) q=true∧ins x∧x.1≠ye7 (p++q)∧∀ b∈exB x,b ∉ zap (p++q)
 | [],p,x=>by
  rw[List.nil_append,zha,List.append_nil]
  simp[okL]
 | y::r,p,x=>by
  have ih:=ztn r (p++[y]) x
  rw[ziz,zdc,zgi,List.append_assoc,List.singleton_append] at ih
  rw[List.cons_append,zha,zha,ih]
  constructor
  ·rintro⟨a,b,c,d,e,f,g⟩
   exact⟨⟨a,b,c,d⟩,e,f,g⟩
  ·rintro⟨⟨a,b,c,d⟩,e,f,g⟩
   exact⟨a,b,c,d,e,f,g⟩
theorem zjj (q:List EX)(x:EX):ok (q++[x])=true↔ok q=true∧ins x∧x.1≠ye7 q∧∀ b∈exB x,b ∉ zap q:=ztn q [] x
theorem zf3 {α:Type} {M:List α→Prop} (h0:M [])(h1:∀ q x,M q→M (q++[x])):∀ l,M l:=fun l=>by
 have:∀ n (l:List α),l.length=n→M l:=by
  intro n
  induction n with
  | zero=>intro l hl;rw[List.length_eq_zero_iff.1 hl];exact h0
  | succ n ih =>
   intro l hl
   rcases List.eq_nil_or_concat l with rfl | ⟨q,y,rfl⟩
   ·exact h0
   ·rw[List.concat_eq_append] at hl ⊢
    exact h1 q y (ih q (by simpa using hl))
 exact this _ l rfl
def Good (out:List Nat):Prop:=out.Nodup∧∀ b∈out,9≤b∧b<32
theorem zok {x:EX} (h:ins x){b:Nat} (hb:b∈exB x):9≤b∧b<32:=by
 rw[zow] at hb
 unfold ins at h
 omega
theorem Good.add {out:List Nat} {x:EX} (h:Good out)(hx:ins x)(hd:∀ b∈exB x,b ∉ out):Good (out++exB x):=by
 refine⟨List.nodup_append.2 ⟨h.1,yan x,fun a ha b hb e=>hd b hb (e ▸ ha)⟩,fun b hb=>?_⟩
 rcases List.mem_append.1 hb with h1 | h1
 ·exact h.2 b h1
 ·exact zok hx h1
theorem zkr:Good []:=⟨List.nodup_nil,fun b hb=>by cases hb⟩
theorem zcj:∀ l,ok l=true→Good (zap l):=zf3 (fun _=>zkr) fun q x ih h=>by
 obtain⟨h1,h2,_,h4⟩:=(zjj q x).1 h
 rw[zdc,zgi]
 exact(ih h1).add h2 h4
theorem zlp:∀ (n:Nat) (l:List Nat),l.Nodup→(∀ b∈l,b<n)→l.length≤n
 | 0,l,_,h=>by
  cases l with
  | nil=>simp
  | cons x r=>have:=h x (by simp);omega
 | n+1,l,hn,h=>by
  have:=zlp n (l.erase n) (hn.erase n) (fun b hb=>by
   have h1:=h b (List.mem_of_mem_erase hb)
   have h2:b≠n:=fun e=>by subst e;exact(hn.not_mem_erase) hb
   omega)
  have h3:=List.length_erase (a:=n) (l:=l)
  split at h3<;>omega
theorem Good.len {out:List Nat} (h:Good out):out.length≤23:=by
 have:=zlp 23 (out.map (·-9)) (by
  refine List.Pairwise.imp_of_mem (R:=fun a b=>a≠b) ?_ ?_
  ·intro a b _ _ h;exact h
  ·rw[List.pairwise_map]
   refine h.1.imp_of_mem ?_
   intro a b ha hb hab e
   have:=h.2 a ha
   have:=h.2 b hb
   omega) (fun b hb=>by
  obtain⟨a,ha,rfl⟩:=List.mem_map.1 hb
  have:=h.2 a ha
  omega)
 simpa using this
def zc0 (l:List EX) (b:Nat):List EX:=match l.getLast? with
 | some x=>if x.1+x.2=(b:Int) then l.dropLast++[(x.1,x.2+1)] else l++[((b:Int),1)]
 | none=>[((b:Int),1)]
theorem zic (b:Nat):zc0 [] b=[((b:Int),1)]:=rfl
theorem zdr (q:List EX)(x:EX)(b:Nat):zc0 (q++[x]) b=if x.1+x.2=(b:Int) then q++[(x.1,x.2+1)] else q++[x]++[((b:Int),1)]:=by simp[zc0]
def zc1 (l:List EX) (bs:List Nat):List EX:=bs.foldl zc0 l
theorem zge (l:List EX)(a b:List Nat):zc1 l (a++b)=zc1 (zc1 l a) b:=by simp[zc1]
theorem zfy (l:List EX)(a:List Nat)(b:Nat):zc1 l (a++[b])=zc0 (zc1 l a) b:=by simp[zc1]
theorem ydz (q:List EX)(s n:Int)(hs:0≤s)(hn:1≤n)(he:s≠ye7 q∨q=[]):zc1 q (exB (s,n))=q++[(s,n)]:=by
 obtain⟨k,rfl⟩:∃ k:Nat,n=(k:Int)+1:=⟨(n-1).toNat,by omega⟩
 clear hn
 induction k with
 | zero =>
  rw[zov s _ hs (by omega),zge]
  have e:exB (s,((0:Nat):Int))=[]:=rfl
  rw[e]
  show zc0 q (s+((0:Nat):Int)).toNat=_
  have e2:((s+((0:Nat):Int)).toNat:Int)=s:=by omega
  rcases List.eq_nil_or_concat q with rfl | ⟨r,y,rfl⟩
  ·rw[zic,e2];simp
  ·rw[List.concat_eq_append] at he ⊢
   rw[zdr,if_neg (by
    rw[ziz] at he
    rcases he with he | he
    ·omega
    ·simp at he),e2]
   simp
 | succ k ih =>
  rw[zov s _ hs (by omega),zge,show((k+1:Nat):Int)=(k:Int)+1 from by omega,ih]
  show zc0 _ _=_
  rw[zdr,if_pos (by show s+((k:Int)+1)=_;omega)]
theorem zuk:∀ (l p:List EX) (out:List Nat),okL out (ye7 p) l=true→zc1 p (zap l)=p++l
 | [],p,out,_=>by simp[zap,zc1]
 | x::r,p,out,h=>by
  obtain⟨h1,h2,_,h4⟩:=(zha _ _ _ _).1 h
  rw[zme,zge]
  have e:zc1 p (exB x)=p++[x]:=ydz p x.1 x.2 (by unfold ins at h1;omega) h1.2.1 (.inl h2)
  rw[e,zuk r (p++[x]) (out++exB x) (by rw[ziz];exact h4)]
  simp
theorem yah {l:List EX} (h:ok l=true):zc1 [] (zap l)=l:=zuk l [] [] h
theorem ybv {p:List EX} (h:ok p=true){b:Nat} (h1:9≤b)(h2:b<32)(hb:b ∉ zap p):ok (zc0 p b)=true∧zap (zc0 p b)=zap p++[b]:=by
 have eb:exB ((b:Int),1)=[b]:=by simp[exB]
 rcases List.eq_nil_or_concat p with rfl | ⟨q,x,rfl⟩
 ·rw[zic]
  refine⟨(zjj [] _).2 ⟨rfl,⟨by show(9:Int)≤b;omega,by show(1:Int)≤1;omega,by show(1:Int)≤32-b;omega⟩,by show(b:Int)≠0;omega,fun c _ h=>by cases h⟩,?_⟩
  rw[zgi,eb]
  rfl
 ·rw[List.concat_eq_append] at h hb ⊢
  obtain⟨g1,g2,g3,g4⟩:=(zjj q x).1 h
  have g2':=g2
  unfold ins at g2'
  rw[zdr]
  split
  ·rename_i e
   have em:=zov x.1 x.2 (by omega) (by omega)
   have et:(x.1+x.2).toNat=b:=by omega
   rw[et] at em
   rw[zdc,zdc,zgi,zgi,em,List.append_assoc]
   refine⟨(zjj q _).2 ⟨g1,⟨g2'.1,by show 1≤x.2+1;omega,by show x.2+1≤32-x.1;omega⟩,g3,fun c hc=>?_⟩,rfl⟩
   rw[em] at hc
   rcases List.mem_append.1 hc with hc | hc
   ·exact g4 c hc
   ·simp at hc
    subst hc
    exact fun hm=>hb (by rw[zdc];exact List.mem_append.2 (.inl hm))
  ·rename_i e
   rw[zdc (q++[x]),zgi,eb]
   refine⟨(zjj _ _).2 ⟨h,⟨by show(9:Int)≤b;omega,by show(1:Int)≤1;omega,by show(1:Int)≤32-b;omega⟩,by rw[ziz];show(b:Int)≠_;omega,fun c hc=>?_⟩,rfl⟩
   rw[eb] at hc
   simp at hc
   subst hc
   exact hb
theorem zsc:∀ (bs:List Nat) (p:List EX),ok p=true→Good (zap p++bs)→ok (zc1 p bs)=true∧zap (zc1 p bs)=zap p++bs
 | [],p,h,_=>⟨h,by simp[zc1]⟩
 | b::r,p,h,hg=>by
  have hm:=hg.2 b (by simp)
  have hn:b ∉ zap p:=fun hb=>by
   have:=(List.nodup_append.1 hg.1).2.2 b hb b (by simp)
   exact this rfl
  obtain⟨h1,h2⟩:=ybv h hm.1 hm.2 hn
  have:=zsc r (zc0 p b) h1 (by rw[h2,List.append_assoc];exact hg)
  rw[h2,List.append_assoc] at this
  exact this
def zby (l:List Nat):Nat:=l.foldl (fun s b=>s ||| 2 ^ b) 0
theorem zxu (l:List Nat)(i:Nat):∀ s:Nat,(l.foldl (fun s b=>s ||| 2 ^ b) s).testBit i=(s.testBit i || decide (i∈l)):=by
 induction l with
 | nil=>intro s;simp
 | cons b r ih =>
  intro s
  rw[List.foldl_cons,ih,Nat.testBit_or,Nat.testBit_two_pow,Bool.or_assoc]
  congr 1
  by_cases e:i=b
  ·subst e;simp
  ·have:¬b=i:=fun h=>e h.symm
   simp[e,this]
theorem zbq (l:List Nat)(i:Nat):(zby l).testBit i=decide (i∈l):=by
 unfold zby
 rw[zxu]
 simp
theorem zi2 {a b:Nat} (h:∀ i,a.testBit i=b.testBit i):a=b:=Nat.eq_of_testBit_eq h
theorem zhv (a b:List Nat):zby (a++b)=zby a ||| zby b:=zi2 fun i=>by
 rw[Nat.testBit_or,zbq,zbq,zbq]
 simp
theorem yb0 (b:Nat):zby [b]=2 ^ b:=by simp[zby]
theorem zld (l:List Nat)(b:Nat):zby (l++[b])=zby l ||| 2 ^ b:=by rw[zhv,yb0]
theorem zm4 {a:Nat} (h:∀ i,32≤i→a.testBit i=false):a<4294967296:=by
 have:=Nat.lt_pow_two_of_testBit (n:=32) a h
 simpa using this
theorem zle {l:List Nat} (h:∀ b∈l,b<32):zby l<4294967296:=zm4 fun i hi=>by
 rw[zbq,decide_eq_false_iff_not]
 intro hm
 have:=h i hm
 omega
theorem bit_lt {a i:Nat} (h:a<4294967296)(hi:32≤i):a.testBit i=false:=
 Nat.testBit_lt_two_pow (Nat.lt_of_lt_of_le (show a<2 ^ 32 by simpa using h) (Nat.pow_le_pow_right (by decide) hi))
theorem yfp (x:EX):(2 ^ x.2.toNat-1)*2 ^ x.1.toNat=zby (exB x):=zi2 fun i=>by
 rw[zbq,Nat.testBit_mul_two_pow,Nat.testBit_two_pow_sub_one]
 rw[Bool.eq_iff_iff,Bool.and_eq_true,decide_eq_true_iff,decide_eq_true_iff,decide_eq_true_iff,zow]
 omega
theorem zux (a b:List Nat):zby a &&& zby b=0↔∀ x∈b,x ∉ a:=by
 constructor
 ·intro h x hx ha
  have:=congrArg (·.testBit x) h
  simp[zbq,hx,ha] at this
 ·intro h
  refine zi2 fun i=>?_
  rw[Nat.testBit_and,zbq,zbq]
  by_cases hb:i∈b
  ·simp[h i hb]
  ·simp[hb]
def zkx (a b:Nat):Nat:=(BitVec.ofNat 32 a &&& ~~~ BitVec.ofNat 32 b).toNat
theorem zfh (a b i:Nat):(zkx a b).testBit i=(decide (i<32) && a.testBit i && !b.testBit i):=by
 unfold zkx
 rw[← BitVec.getLsbD,BitVec.getLsbD_and,BitVec.getLsbD_not,BitVec.getLsbD_ofNat,BitVec.getLsbD_ofNat]
 by_cases h:i<32<;>simp[h]
theorem ybd (a b:Nat):zkx a b<4294967296:=zm4 fun i hi=>by
 rw[zfh]
 simp
 omega
theorem zkw (a b:Nat)(_ha:a<4294967296)(_hb:b<4294967296):bits .andNot .u32 (a:Int) (b:Int)=(zkx a b:Int):=by
 have h1:BitVec.ofInt 32 (a:Int)=BitVec.ofNat 32 a:=BitVec.ofInt_natCast ..
 have h2:BitVec.ofInt 32 (b:Int)=BitVec.ofNat 32 b:=BitVec.ofInt_natCast ..
 show IntKind.u32.wrap ((BitVec.ofInt 32 (a:Int) &&& ~~~ BitVec.ofInt 32 (b:Int)).toNat:Int)=_
 rw[h1,h2]
 show IntKind.u32.wrap (zkx a b:Int)=_
 have:=ybd a b
 rw[IntKind.wrap_u32]
 omega
theorem andI (a b:Nat)(ha:a<4294967296)(hb:b<4294967296):bits .and .u32 (a:Int) (b:Int)=((a &&& b:Nat):Int):=by
 have hx:a &&& b<2 ^ 32:=Nat.and_lt_two_pow _ (by omega)
 have h1:(BitVec.ofInt 32 (a:Int)).toNat=a:=by
  rw[BitVec.ofInt_natCast,BitVec.toNat_ofNat];exact Nat.mod_eq_of_lt (by omega)
 have h2:(BitVec.ofInt 32 (b:Int)).toNat=b:=by
  rw[BitVec.ofInt_natCast,BitVec.toNat_ofNat];exact Nat.mod_eq_of_lt (by omega)
 show IntKind.u32.wrap ((BitVec.ofInt 32 (a:Int) &&& BitVec.ofInt 32 (b:Int)).toNat:Int)=_
 rw[BitVec.toNat_and,h1,h2,IntKind.wrap_u32]
 omega
theorem orI (a b:Nat)(ha:a<4294967296)(hb:b<4294967296):bits .or .u32 (a:Int) (b:Int)=((a ||| b:Nat):Int):=by
 have hx:a ||| b<2 ^ 32:=Nat.or_lt_two_pow (by omega) (by omega)
 have h1:(BitVec.ofInt 32 (a:Int)).toNat=a:=by
  rw[BitVec.ofInt_natCast,BitVec.toNat_ofNat];exact Nat.mod_eq_of_lt (by omega)
 have h2:(BitVec.ofInt 32 (b:Int)).toNat=b:=by
  rw[BitVec.ofInt_natCast,BitVec.toNat_ofNat];exact Nat.mod_eq_of_lt (by omega)
 show IntKind.u32.wrap ((BitVec.ofInt 32 (a:Int) ||| BitVec.ofInt 32 (b:Int)).toNat:Int)=_
 rw[BitVec.toNat_or,h1,h2,IntKind.wrap_u32]
 omega
theorem or_lt {a b:Nat} (ha:a<4294967296)(hb:b<4294967296):a ||| b<4294967296:=Nat.or_lt_two_pow (n:=32) (by omega) (by omega)
theorem zte {b:Nat} (hb:b<32):(2:Nat) ^ b<4294967296:=by
 have:(2:Nat) ^ b<2 ^ 32:=Nat.pow_lt_pow_right (by decide) hb
 simpa using this
def free (u:Nat) (b:Nat):Bool:=decide (9≤b) && !u.testBit b
def frL (u n:Nat):List Nat:=(List.range n).filter (free u)
def zbb (u:Nat):List Nat:=frL u 32
theorem zug (u n:Nat):frL u (n+1)=if free u n then frL u n++[n] else frL u n:=by
 unfold frL
 rw[List.range_succ,List.filter_append,List.filter_cons]
 split<;>simp
theorem ydr (u:Nat):frL u 9=[]:=by
 unfold frL
 rw[List.filter_eq_nil_iff]
 intro b hb
 rw[List.mem_range] at hb
 unfold free
 simp
 omega
theorem frL_mem {u n b:Nat}:b∈frL u n↔b<n∧9≤b∧u.testBit b=false:=by
 unfold frL free
 rw[List.mem_filter,List.mem_range,Bool.and_eq_true,decide_eq_true_iff,Bool.not_eq_true']
theorem zne (u n k:Nat):frL u n <+: frL u (n+k):=by
 induction k with
 | zero=>exact List.prefix_refl _
 | succ k ih =>
  refine ih.trans ?_
  rw[show n+(k+1)=(n+k)+1 from rfl,zug]
  split
  ·exact List.prefix_append _ _
  ·exact List.prefix_refl _
theorem ydq {u n:Nat} (h:n≤32):frL u n=(zbb u).take (frL u n).length:=by
 have:=zne u n (32-n)
 rw[show n+(32-n)=32 from by omega] at this
 obtain⟨t,ht⟩:=this
 unfold zbb
 rw[← ht,List.take_left']
 rfl
theorem zb0 (u:Nat):Good (zbb u):=⟨List.Pairwise.filter _ List.nodup_range,fun b hb=>by
 have:=frL_mem.1 hb
 exact⟨this.2.1,this.1⟩⟩
theorem zwo (u:Nat):(zbb u).Pairwise (· < ·):=List.Pairwise.filter _ List.pairwise_lt_range
theorem Good.lt {l:List Nat} (h:Good l):zby l<4294967296:=zle fun b hb=>(h.2 b hb).2
theorem Good.take {l:List Nat} (h:Good l)(n:Nat):Good (l.take n):=⟨h.1.sublist (List.take_sublist _ _),fun b hb=>h.2 b (List.mem_of_mem_take hb)⟩
theorem Good.drop {l:List Nat} (h:Good l)(n:Nat):Good (l.drop n):=⟨h.1.sublist (List.drop_sublist _ _),fun b hb=>h.2 b (List.mem_of_mem_drop hb)⟩
theorem yae (i:Nat):(4294966784:Nat).testBit i=(decide (9≤i) && decide (i<32)):=by
 have e:(4294966784:Nat)=(2 ^ 23-1)*2 ^ 9:=by decide
 rw[e,Nat.testBit_mul_two_pow,Nat.testBit_two_pow_sub_one]
 congr 1
 rw[Bool.eq_iff_iff,decide_eq_true_iff,decide_eq_true_iff]
 omega
theorem zwu (u:Nat):zkx 4294966784 u=zby (zbb u):=zi2 fun i=>by
 rw[zfh,yae,zbq,Bool.eq_iff_iff]
 simp only[Bool.and_eq_true,decide_eq_true_iff,Bool.not_eq_true',zbb,frL_mem]
 constructor
 ·rintro⟨⟨a,b,c⟩,d⟩;exact⟨a,b,d⟩
 ·rintro⟨a,b,d⟩;exact⟨⟨a,b,a⟩,d⟩
theorem zqi (u:Nat)(hu:u<4294967296):bits .andNot .u32 (4294966784:Int) (u:Int)=(zby (zbb u):Int):=by
 have:=zkw 4294966784 u (by decide) hu
 rw[zwu,show((4294966784:Nat):Int)=4294966784 from rfl] at this
 exact this
theorem znk {l:List Nat} (h:Good l):Sp.popN 32 (zby l)=l.length:=by
 rw[Sp.popN_filter]
 have:((List.range 32).filter fun i=>(zby l).testBit i).Perm l:=by
  rw[List.perm_iff_count]
  intro a
  rw[List.Nodup.count (List.Pairwise.filter _ List.nodup_range),List.Nodup.count h.1]
  have:(a∈(List.range 32).filter fun i=>(zby l).testBit i)↔a∈l:=by
   rw[List.mem_filter,List.mem_range,zbq,decide_eq_true_iff]
   exact⟨fun x=>x.2,fun x=>⟨(h.2 a x).2,x⟩⟩
  simp only[this]
 exact this.length_eq
theorem ydo (u:Nat)(k:Nat):zbb (u ||| zby ((zbb u).take k))=(zbb u).drop k:=by
 have h1:zbb (u ||| zby ((zbb u).take k))=(zbb u).filter (fun b=>!decide (b∈(zbb u).take k)):=by
  conv=>rhs;arg 2;rw[zbb,frL]
  rw[List.filter_filter]
  unfold zbb frL
  refine List.filter_congr fun b _=>?_
  unfold free
  rw[Nat.testBit_or,zbq,Bool.not_or,← Bool.and_assoc,Bool.and_comm (!decide _)]
 rw[h1]
 generalize hF:zbb u=F
 have hn:F.Nodup:=hF ▸ (zb0 u).1
 conv=>lhs;rw[← List.take_append_drop k F]
 rw[List.filter_append]
 have e1:(F.take k).filter (fun b=>!decide (b∈(F.take k++F.drop k).take k))=[]:=by
  rw[List.filter_eq_nil_iff]
  intro b hb
  rw[List.take_append_drop]
  simp[hb]
 have e2:(F.drop k).filter (fun b=>!decide (b∈(F.take k++F.drop k).take k))=F.drop k:=by
  rw[List.filter_eq_self]
  intro b hb
  rw[List.take_append_drop]
  have hd:(F.take k++F.drop k).Nodup:=by rw[List.take_append_drop];exact hn
  have:=(List.nodup_append.1 hd).2.2
  simp only[Bool.not_eq_true',decide_eq_false_iff_not]
  exact fun h=>this b h b hb rfl
 rw[e1,e2,List.nil_append]
theorem yd2 {x:Nat} (h0:x≠0)(hx:x<4294967296):Lib.ctz 32 x<32∧x.testBit (Lib.ctz 32 x)=true∧∀ i,i<Lib.ctz 32 x→x.testBit i=false:=by
 obtain⟨m,hm,ht⟩:=Lib.ctzFrom_spec 32 x (Nat.pos_of_ne_zero h0) (by simpa using hx)
 have e:Lib.ctz 32 x=Lib.ctzFrom 32 x:=by simp[Lib.ctz,h0]
 rw[e]
 generalize Lib.ctzFrom 32 x=t at *
 have hb:∀ i,x.testBit i=(decide (t≤i) && (2*m+1).testBit (i-t)):=fun i=>by rw[hm,Nat.mul_comm,Nat.testBit_mul_two_pow]
 refine⟨ht,?_,fun i hi=>?_⟩
 ·rw[hb];simp
 ·rw[hb];simp;omega
theorem lowest (u k:Nat)(h:k<(zbb u).length):zby (zbb (u ||| zby ((zbb u).take k)))≠0∧Lib.ctz 32 (zby (zbb (u ||| zby ((zbb u).take k))))=(zbb u)[k]:=by
 rw[ydo]
 have hr:=zwo u
 have hg:=(zb0 u).drop k
 generalize zbb u=F at *
 rw[List.drop_eq_getElem_cons h] at hg ⊢
 have hne:zby (F[k]::F.drop (k+1))≠0:=fun e=>by
  have:=zbq (F[k]::F.drop (k+1)) F[k]
  rw[e,Nat.zero_testBit,decide_eq_true List.mem_cons_self] at this
  cases this
 refine⟨hne,?_⟩
 obtain⟨_,h2,h3⟩:=yd2 hne hg.lt
 rw[zbq,decide_eq_true_iff] at h2
 generalize Lib.ctz 32 (zby (F[k]::F.drop (k+1)))=t at *
 have hle:F[k]≤t:=by
  rcases List.mem_cons.1 h2 with e | e
  ·omega
  ·obtain⟨j,hj,rfl⟩:=List.getElem_of_mem e
   rw[List.getElem_drop]
   exact Nat.le_of_lt (List.pairwise_iff_getElem.1 hr _ _ _ _ (by omega))
 rcases Nat.eq_or_lt_of_le hle with e | e
 ·exact e.symm
 ·have:=h3 _ e
  rw[zbq,decide_eq_true List.mem_cons_self] at this
  cases this
theorem yfz (u k:Nat)(h:k<(zbb u).length):(u ||| zby ((zbb u).take k)) ||| 2 ^ (zbb u)[k]=u ||| zby ((zbb u).take (k+1)):=by
 rw[List.take_succ_eq_append_getElem h,zld,Nat.or_assoc]
theorem ybc (u:Nat)(s:List Nat)(b:Nat):zkx (zkx u (zby s)) (2 ^ b)=zkx u (zby (s++[b])):=zi2 fun i=>by
 rw[zfh,zfh,zfh,zld,Nat.testBit_or]
 cases decide (i<32)<;>cases u.testBit i<;>cases (zby s).testBit i<;>cases (2 ^ b).testBit i<;>rfl
theorem zq2 {u:Nat} (h:u<4294967296):zkx u (zby [])=u:=zi2 fun i=>by
 rw[zfh,zbq]
 by_cases hi:i<32
 ·simp[hi]
 ·rw[bit_lt h (by omega)];simp
def za3 (l:List EX):List Nat:=if ok l then zap l else []
theorem za2 (l:List EX):Good (za3 l):=by
 unfold za3
 split
 ·rename_i h;exact zcj l h
 ·exact zkr
def zcp (l:List EX) (u:Nat) (n:Int):List EX × Nat × Int:=
 if ok l=false∨n<0 then ([],0,1) else if ((zbb u).length:Int)<n then ([],0,50) else (zc1 l ((zbb u).take n.toNat),u ||| zby ((zbb u).take n.toNat),0)
def zbh (l:List EX) (u:Nat) (n:Int):List EX × Nat × Int:=
 if ok l=false∨n<0∨((zap l).length:Int)<n then ([],0,1) else (zc1 [] ((zap l).take n.toNat),zkx u (zby ((zap l).drop n.toNat)),0)
end Ex
namespace Ex
open Go.RowKit
def Tab (w:World):Prop:=TabAt 0 Lib.deBruijn32tab w
theorem Tab.keep {w w':World} (h:Tab w)(hb:w'.heap[0]?=w.heap[0]?):Tab w':=fun j hj=>(World.cell?_of_block (w:=w) (w':=w') (a:=⟨0,j,none⟩) hb).trans (h j hj)
theorem Tab.pos {w:World} (h:Tab w):0<w.heap.size:=World.block_lt_of_cell? _ _ (h 0 (by decide))
theorem Tab.below {w w':World} (h:Tab w){B:Nat} (hb:Below B w w')(hB:0<B):Tab w':=h.keep (hb.block 0 hB)
set_option maxRecDepth 100000 in
theorem yfk (x k idx:Nat)(w:World)(hx0:((x:Int)==0)=false)
  (key:bits BinOp.and IntKind.u32 (x:Int) (-(x:Int) % 4294967296)*125613361 % 4294967296 / 134217728=(idx:Int))
  (hi:idx<32) (hk:k<32) (hcell:w.cell? ⟨0,idx,none⟩=some (.int .u8 (k:Int))):
  Calls Tryz.prog 182 #[.int .u32 x] w fun e w'=>e=.returned (.int .i64 k)∧w=w':=by
 go_enter Tryz.func182,Tryz.ntmps182
 go_wp2_with (simp only[key])
 go_ret
 exact⟨rfl,rfl⟩
theorem tz_any (x:Nat)(hx:x<4294967296)(h0:x≠0)(w:World)(hT:Tab w):
  Calls Tryz.prog 182 #[.int .u32 x] w fun e w'=>e=.returned (.int .i64 (Lib.ctz 32 x:Nat))∧w=w':=by
 obtain⟨hlow,hk⟩:=Lib.lowest_bit 32 x h0 (by simpa using hx)
 obtain⟨hi,htab⟩:=Lib.deBruijn32_at _ hk
 have hcell:=hT _ hi
 rw[htab] at hcell
 have key:=tz32_key x _ hx h0 (by simpa using hlow)
 exact yfk x _ _ w (by simp;omega) key hi hk hcell
theorem yfv:∀ n:Fin 256,Lib.pop8 (n.val:Int)=(Sp.popN 8 n.val:Int):=by decide +kernel
theorem zkm (n:Nat)(h:n<256):Lib.pop8 (n:Int)=(Sp.popN 8 n:Int):=yfv ⟨n,h⟩
theorem ycn (x:Nat):Sp.popN 8 (x / 16777216)+Sp.popN 8 (x / 65536 % 256)+Sp.popN 8 (x / 256 % 256)+Sp.popN 8 (x % 256)=Sp.popN 32 x:=by
 have e1:=Sp.popN_bytes 24 x
 have e2:=Sp.popN_bytes 16 (x / 256)
 have e3:=Sp.popN_bytes 8 (x / 256 / 256)
 have e4:x / 256 / 256=x / 65536:=by omega
 have e5:x / 65536 / 256=x / 16777216:=by omega
 rw[e4] at e2 e3
 rw[e5] at e3
 simp only[Nat.reduceAdd] at e1 e2 e3
 omega
theorem ygg:(⟨(([0,1,1,2,1,2,2,3,1,2,2,3,2,3,3,4,1,2,2,3,2,3,3,4,2,3,3,4,3,4,4,5,1,2,2,3,2,3,3,4,2,3,3,4,3,4,4,5,2,3,3,4,3,4,4,5,3,4,4,5,4,5,5,6].append
 [1,2,2,3,2,3,3,4,2,3,3,4,3,4,4,5,2,3,3,4,3,4,4,5,3,4,4,5,4,5,5,6,2,3,3,4,3,4,4,5,3,4,4,5,4,5,5,6,3,4,4,5,4,5,5,6,4,5,5,6,5,6,6,7]).append
 ([1,2,2,3,2,3,3,4,2,3,3,4,3,4,4,5,2,3,3,4,3,4,4,5,3,4,4,5,4,5,5,6,2,3,3,4,3,4,4,5,3,4,4,5,4,5,5,6,3,4,4,5,4,5,5,6,4,5,5,6,5,6,6,7].append
 [2,3,3,4,3,4,4,5,3,4,4,5,4,5,5,6,3,4,4,5,4,5,5,6,4,5,5,6,5,6,6,7,3,4,4,5,4,5,5,6,4,5,5,6,5,6,6,7,4,5,5,6,5,6,6,7,5,6,6,7,6,7,7,8])).toArray⟩:ByteArray)=Lib.pop8tab:=by kernel_rfl
set_option maxRecDepth 100000 in
theorem zys (x a b c d:Nat)(w:World)(i1:(0:Int)≤(x:Int) / 16777216∧(x:Int) / 16777216≤255)
  (p1:Lib.pop8 ((x:Int) / 16777216)=(a:Int)) (p2:Lib.pop8 ((x:Int) / 65536 % 256)=(b:Int)) (p3:Lib.pop8 ((x:Int) / 256 % 256)=(c:Int)) (p4:Lib.pop8 ((x:Int) % 256)=(d:Int)) (hs:a+b+c+d≤32)
  (k2:bits .and .u32 ((x:Int) / 65536) 255=(x:Int) / 65536 % 256) (k3:bits .and .u32 ((x:Int) / 256) 255=(x:Int) / 256 % 256) (k4:bits .and .u32 (x:Int) 255=(x:Int) % 256):
  Calls Tryz.prog 177 #[.int .u32 x] w fun e w'=>e=.returned (.int .i64 ((a+b+c+d:Nat):Int))∧Below w.heap.size w w':=by
 have hm:Hid ((a:Int)+b+c+d=((a+b+c+d:Nat):Int)):=hq (by omega)
 go_enter Tryz.func177,Tryz.ntmps177
 simp only[ygg]
 go_wp2_with fail
 go_quiet (fail)
 go_wp2_with fail
 go_ret
 refine⟨?_,?_⟩
 ·exact congrArg (fun z=>Ending.returned (Value.int .i64 z)) hm.out
 ·exact below_drewN (Below.refl _ _) _
theorem zss (y:Nat)(hy:y<4294967296):bits .and .u32 (y:Int) 255=(y:Int) % 256:=by
 have:=andI y 255 hy (by decide)
 rw[show y &&& 255=y % 256 from by rw[show(255:Nat)=2 ^ 8-1 from rfl,Nat.and_two_pow_sub_one_eq_mod]] at this
 exact this
theorem ztj (x:Nat)(hx:x<4294967296)(w:World):
  Calls Tryz.prog 177 #[.int .u32 x] w fun e w'=>e=.returned (.int .i64 (Sp.popN 32 x:Nat))∧Below w.heap.size w w':=by
 have hle:=Sp.popN_le 32 x
 rw[← ycn x] at hle ⊢
 refine zys x _ _ _ _ w (by omega) ?_ ?_ ?_ ?_ hle ?_ ?_ (zss x hx)
 ·rw[show(x:Int) / 16777216=((x / 16777216:Nat):Int) from by omega];exact zkm _ (by omega)
 ·rw[show(x:Int) / 65536 % 256=((x / 65536 % 256:Nat):Int) from by omega];exact zkm _ (by omega)
 ·rw[show(x:Int) / 256 % 256=((x / 256 % 256:Nat):Int) from by omega];exact zkm _ (by omega)
 ·rw[show(x:Int) % 256=((x % 256:Nat):Int) from by omega];exact zkm _ (by omega)
 ·rw[show(x:Int) / 65536=((x / 65536:Nat):Int) from by omega];exact zss _ (by omega)
 ·rw[show(x:Int) / 256=((x / 256:Nat):Int) from by omega];exact zss _ (by omega)
end Ex
namespace Ex
open Go.ChangeShapes Go.WideShapes Go.ChangeAt Go.RowKit
def zc2 (x:EX):List Value:=[.int .i64 x.1,.int .i64 x.2]
def XOk (x:EX):Prop:=(-9223372036854775808≤x.1∧x.1≤9223372036854775807)∧-9223372036854775808≤x.2∧x.2≤9223372036854775807
structure XR (w:World) (B:Nat) (A:Option Addr) (l:List EX):Prop where
 ar:l≠[]→∃ ad,A=some ad∧ad.block<B∧∀ k a,l[k]?=some a→∀ j v,(zc2 a)[j]?=some v→w.cell? ((ad.add (k*2)).add j)=some v
 ok:∀ a∈l,XOk a
section
variable {w w':World} {B B':Nat} {A:Option Addr} {l:List EX}
theorem XR.keep (h:XR w B A l)(hk:∀ p:Addr,p.block<B→w'.cell? p=w.cell? p):XR w' B A l:=by
 refine⟨fun hn=>?_,h.ok⟩
 obtain⟨ad,e,hlt,hc⟩:=h.ar hn
 exact⟨ad,e,hlt,fun k a ha j v hv=>(hk _ (by rw[zan,zan];exact hlt)).trans (hc k a ha j v hv)⟩
theorem XR.below (h:XR w B A l)(hb:Below B w w'):XR w' B A l:=h.keep fun _ hp=>hb.cell hp
theorem XR.more (h:XR w B A l)(hB:B≤B'):XR w B' A l:=by
 refine⟨fun hn=>?_,h.ok⟩
 obtain⟨ad,e,hlt,hc⟩:=h.ar hn
 exact⟨ad,e,by omega,hc⟩
theorem XR.nil:XR w B A []:=⟨fun h=>absurd rfl h,fun a ha=>by cases ha⟩
theorem XR.at_ (h:XR w B A l){k:Nat} (hk:k<l.length):
  ∃ ad,A=some ad∧ad.block<B∧w.cell? (ad.add (k*2))=some (.int .i64 l[k].1)∧w.cell? ⟨(ad.add (k*2)).block,(ad.add (k*2)).off+1,none⟩=some (.int .i64 l[k].2)∧XOk l[k]:=by
 obtain⟨ad,e,hb,hc⟩:=h.ar (by intro e;subst e;simp at hk)
 have H:=hc k l[k] (List.getElem?_eq_getElem hk)
 exact⟨ad,e,hb,H 0 _ rfl,H 1 _ rfl,h.ok _ (List.getElem_mem hk)⟩
end
section
variable {H:Type} {enc:TypeId × Value→H} {W:World}
end
def V (x:EX):Value:=.agg #[.int .i64 x.1,.int .i64 x.2]
set_option maxRecDepth 100000 in
theorem ze0 (s n:Int)(w:World)(hs:-9223372036854775808≤s∧s≤9223372036854775807):Calls Tryz.prog 185 #[.agg #[.int .i64 s,.int .i64 n]] w fun e w'=>e=.returned (.bool (decide (ins (s,n))))∧Below w.heap.size w w':=by
 have hw:Below w.heap.size w (w.alloc (.cells #[.int .i64 s,.int .i64 n] 176)):=(Below.refl _ _).alloc (Nat.le_refl _) _
 have HW:=hq hw
 clear hw
 by_cases h1:9≤s
 ·have ew:IntKind.i64.wrap (32-s)=32-s:=by rw[IntKind.wrap_i64];omega
  by_cases h2:1≤n
  ·by_cases h3:n≤32-s
   ·have hi:ins (s,n):=⟨h1,h2,h3⟩
    have HI:=hq (decide_eq_true hi)
    clear hi
    go_enter Tryz.func185,Tryz.ntmps185
    go_wp2_with fail
    go_ret
    exact⟨by rw[HI.out];rfl,HW.out⟩
   ·have hi:¬ins (s,n):=fun h=>h3 h.2.2
    have HI:=hq (decide_eq_false hi)
    clear hi
    go_enter Tryz.func185,Tryz.ntmps185
    go_wp2_with fail
    go_ret
    exact⟨by rw[HI.out];rfl,HW.out⟩
  ·have hi:¬ins (s,n):=fun h=>h2 h.2.1
   have HI:=hq (decide_eq_false hi)
   clear hi
   go_enter Tryz.func185,Tryz.ntmps185
   go_wp2_with fail
   go_ret
   exact⟨by rw[HI.out];rfl,HW.out⟩
 ·have hi:¬ins (s,n):=fun h=>h1 h.1
  have HI:=hq (decide_eq_false hi)
  clear hi
  go_enter Tryz.func185,Tryz.ntmps185
  go_wp2_with fail
  go_ret
  exact⟨by rw[HI.out];rfl,HW.out⟩
theorem yfo (s n:Int)(h:ins (s,n)):((2:Int) ^ n.toNat-1) % 4294967296*2 ^ s.toNat % 4294967296=(zby (exB (s,n)):Int):=by
 have e:=yfp (s,n)
 have l:zby (exB (s,n))<4294967296:=zle (fun b hb=>(zok h hb).2)
 rw[← e] at l ⊢
 simp only at l ⊢
 generalize n.toNat=N at *
 generalize s.toNat=S at *
 have p1:0<(2:Nat) ^ N:=Nat.pow_pos (by decide)
 have p2:0<(2:Nat) ^ S:=Nat.pow_pos (by decide)
 have e1:(2:Int) ^ N=((2 ^ N:Nat):Int):=by simp
 have e2:(2:Int) ^ S=((2 ^ S:Nat):Int):=by simp
 have l2:2 ^ N-1≤(2 ^ N-1)*2 ^ S:=Nat.le_mul_of_pos_right _ p2
 rw[e1,e2]
 clear e1 e2 e
 generalize (2:Nat) ^ N=a at *
 generalize (2:Nat) ^ S=b at *
 have e3:((a:Int)-1) % 4294967296=((a-1:Nat):Int):=by omega
 rw[e3,← Int.natCast_mul]
 omega
set_option maxRecDepth 100000 in
theorem zxt (x:EX)(w:World)(h:ins x):Calls Tryz.prog 173 #[.agg #[.int .i64 x.1,.int .i64 x.2]] w fun e w'=>e=.returned (.int .u32 (zby (exB x):Nat))∧Below w.heap.size w w':=by
 have hw:Below w.heap.size w (w.alloc (.cells #[.int .i64 x.1,.int .i64 x.2] 176)):=(Below.refl _ _).alloc (Nat.le_refl _) _
 have HW:=hq hw
 clear hw
 obtain⟨s,n⟩:=x
 have HS:=hq (yfo s n h)
 unfold ins at h
 simp only at h
 go_enter Tryz.func173,Tryz.ntmps173
 go_wp2_with fail
 go_quiet (fail)
 go_wp2_with fail
 go_ret
 refine⟨?_,?_⟩
 ·exact congrArg (fun z=>Ending.returned (Value.int .u32 z)) HS.out
 ·exact below_drewN HW.out _
def okE (l:List EX):Int:=if ok l=true then 0 else 1
theorem zj8 {l:List EX} (h:ok l=false):okE l=1:=by simp[okE,h]
theorem zjk {l:List EX} (h:ok l=true):okE l=0:=by simp[okE,h]
def zcq (w:World) (v:Value) (e:Ending) (w':World):Prop:=e=.returned v∧Below w.heap.size w w'
set_option maxRecDepth 100000 in
theorem zf0 (A:Option Addr)(l:List EX)(c:Nat)(w:World)(h:XR w w.heap.size A l)(hl:l.length≤100):
  Calls Tryz.prog 172 #[.slice A l.length c] w (zcq w (.int .i64 (okE l))):=by
 go_enter Tryz.func172,Tryz.ntmps172
 go_wp2_with fail
 go_loopw [9,3,4,6] (fun i s e _ wr=>∃ (k:Nat) (out:List Nat) (en:Int),k≤l.length∧i=.int .i64 (k:Int)∧s=.int .u32 (zby out:Nat)∧e=.int .i64 en∧ok l=okL out en (l.drop k)∧Good out∧0≤en∧en≤32∧Below w.heap.size w wr) (fun i _ _ _ _=>l.length-(RowKit.intOf i).toNat)
 case atStart=>exact⟨0,[],0,by omega,rfl,rfl,rfl,rfl,zkr,by omega,by omega,Below.refl _ _⟩
 case round =>
  obtain⟨k,out,en,hk,rfl,rfl,rfl,hok,hg,he0,he1,hb⟩:=hrel
  by_cases hlt:k<l.length
  ·obtain⟨ad,rfl,hlb,d0,d1,hx⟩:=(h.below hb).at_ hlt
   have hst:=ztm out en (List.drop_eq_getElem_cons hlt)
   rw[← hok] at hst
   have hsz:=hb.size
   have HN:=hq h
   have HO:=hq hok
   clear h hok
   generalize l[k]=x at *
   obtain⟨s,n⟩:=x
   obtain⟨hs0,hn0⟩:=hx
   simp only at d0 d1 hs0 hn0
   have b1:=hb.alloc hsz (.cells #[.int .i64 s,.int .i64 n] 176)
   obtain⟨W1,HW1⟩:∃ W1,W1=wr.alloc (.cells #[.int .i64 s,.int .i64 n] 176):=⟨_,rfl⟩
   have hat:W1.heap[wr.heap.size]?=some (.cells #[.int .i64 s,.int .i64 n] 176 (0,0)):=by rw[HW1];exact heap_alloc_new wr _
   have hs1:wr.heap.size<W1.heap.size:=(Array.getElem?_eq_some_iff.1 hat).1
   rw[← HW1] at b1
   have hin:=ze0 s n W1 hs0
   have HB:=hq b1
   have HG:=hq hg
   have HA:=hq hat
   have HIN:=hq hin
   clear b1 hb hg hat hin
   go_wp2_with fail
   rw[← HW1]
   refine HIN.out.mono ?_
   clear HIN
   rintro e w2 ⟨rfl,b2⟩
   have hat2:=(b2.block _ hs1).trans HA.out
   have c0:w2.cell? ⟨wr.heap.size,0,none⟩=some (.int .i64 s):=by rw[cell_of_row _ _ _ _ _ _ hat2];rfl
   have c1:w2.cell? ⟨wr.heap.size,1,none⟩=some (.int .i64 n):=by rw[cell_of_row _ _ _ _ _ _ hat2];rfl
   have B2:=hq (HB.out.trans (b2.mono HB.out.size))
   have HA2:=hq hat2
   have hs2:wr.heap.size<w2.heap.size:=(Array.getElem?_eq_some_iff.1 hat2).1
   generalize wr.heap.size=g at *
   clear b2 hat2 HW1 HB HA d0 d1 hs1 hsz
   by_cases h1:ins (s,n)
   ·rw[decide_eq_true h1] at hst ⊢
    have h1':=h1
    unfold ins at h1'
    simp only at h1'
    by_cases h2:s=en
    ·have hno:ok l=false:=by rw[hst];simp[h2]
     have HNO:=hq (zj8 hno)
     clear hst hno h1
     subst h2
     go_wp2_with fail
     go_ret
     exact⟨by rw[HNO.out];rfl,B2.out⟩
    ·have hset:=fun w=>zxt (s,n) w h1
     have ql:zby (exB (s,n))<4294967296:=zle (fun b hb=>(zok h1 hb).2)
     have pl:=HG.out.lt
     have hand:=andI _ _ pl ql
     by_cases h3:∀ b∈exB (s,n),b ∉ out
     ·rw[decide_eq_true h3,decide_eq_true (show(s,n).1≠en from h2),Bool.true_and,Bool.true_and,Bool.true_and] at hst
      rw[(zux _ _).2 h3] at hand
      have hor:=orI _ _ pl ql
      rw[← zhv] at hor
      have hg':=HG.out.add h1 h3
      have HST:=hq hst
      have HG':=hq hg'
      have ew:IntKind.i64.wrap (s+n)=s+n:=by rw[IntKind.wrap_i64];omega
      clear hst hg' h1 h3 HG
      simp only at hset
      generalize hE:zby (out++exB (s,n))=E at *
      have HE:=hq hE
      clear hE
      generalize zby (exB (s,n))=Q at *
      generalize zby out=P at *
      clear pl ql
      go_wp2_with fail
      refine(hset w2).mono ?_
      rintro e w3 ⟨rfl,b3⟩
      have hat3:=(b3.block _ hs2).trans HA2.out
      have c2:w3.cell? ⟨g,0,none⟩=some (.int .i64 s):=by rw[cell_of_row _ _ _ _ _ _ hat3];rfl
      have c3:w3.cell? ⟨g,1,none⟩=some (.int .i64 n):=by rw[cell_of_row _ _ _ _ _ _ hat3];rfl
      have B3:=hq (B2.out.trans (b3.mono B2.out.size))
      have HA3:=hq hat3
      have hs3:g<w3.heap.size:=(Array.getElem?_eq_some_iff.1 hat3).1
      clear b3 hat3 c0 c1 B2 HA2 hs2
      go_wp2_with fail
      refine(hset w3).mono ?_
      rintro e w4 ⟨rfl,b4⟩
      have hat4:=(b4.block _ hs3).trans HA3.out
      have c4:w4.cell? ⟨g,0,none⟩=some (.int .i64 s):=by rw[cell_of_row _ _ _ _ _ _ hat4];rfl
      have c5:w4.cell? ⟨g,1,none⟩=some (.int .i64 n):=by rw[cell_of_row _ _ _ _ _ _ hat4];rfl
      have B4:=hq (B3.out.trans (b4.mono B3.out.size))
      clear b4 hat4 c2 c3 B3 HA3 hs3
      go_wp2_with fail
      go_roundw
      case rel=>exact⟨k+1,out++exB (s,n),s+n,by omega,by go_num,by rw[HE.out],rfl,HO.out.trans (HO.out.symm.trans HST.out),HG'.out,by omega,by omega,B4.out⟩
      case measure=>simp[RowKit.intOf];omega
     ·have hno:ok l=false:=by rw[hst,decide_eq_false h3];simp
      have hne:zby out &&& zby (exB (s,n))≠0:=fun e=>h3 ((zux _ _).1 e)
      have HNO:=hq (zj8 hno)
      clear hst hno h1 h3
      simp only at hset
      generalize zby (exB (s,n))=Q at *
      generalize zby out=P at *
      generalize P &&& Q=R at *
      have hr:((R:Int) != 0)=true:=by simp;omega
      clear pl ql hne
      go_wp2_with fail
      refine(hset w2).mono ?_
      rintro e w3 ⟨rfl,b3⟩
      have hat3:=(b3.block _ hs2).trans HA2.out
      have c2:w3.cell? ⟨g,0,none⟩=some (.int .i64 s):=by rw[cell_of_row _ _ _ _ _ _ hat3];rfl
      have c3:w3.cell? ⟨g,1,none⟩=some (.int .i64 n):=by rw[cell_of_row _ _ _ _ _ _ hat3];rfl
      have B3:=hq (B2.out.trans (b3.mono B2.out.size))
      have HA3:=hq hat3
      have hs3:g<w3.heap.size:=(Array.getElem?_eq_some_iff.1 hat3).1
      clear b3 hat3 c0 c1 B2 HA2 hs2
      go_wp2_with fail
      go_ret
      exact⟨by rw[HNO.out];rfl,B3.out⟩
   ·have hno:ok l=false:=by rw[hst];simp[h1]
    rw[decide_eq_false h1]
    have HNO:=hq (zj8 hno)
    clear hst hno h1
    go_wp2_with fail
    go_ret
    exact⟨by rw[HNO.out];rfl,B2.out⟩
  ·obtain rfl:k=l.length:=by omega
   have hy:ok l=true:=by rw[hok,List.drop_length,okL]
   have HY:=hq (zjk hy)
   clear hok hy hg h
   go_wp2_with fail
   go_ret
   exact⟨by rw[HY.out];rfl,hb⟩
end Ex
namespace Ex
open Go.RowKit
theorem ztl:∀ (a b:List EX) (out:List Nat) (e:Int),okL out e (a++b)=true→okL out e a=true
 | [],_,_,_,_=>rfl
 | x::r,b,out,e,h=>by
  obtain⟨h1,h2,h3,h4⟩:=(zha _ _ _ _).1 h
  exact(zha _ _ _ _).2 ⟨h1,h2,h3,ztl r b _ _ h4⟩
theorem yf3 {l:List EX} (h:ok l=true)(k:Nat):ok (l.take k)=true:=ztl (l.take k) (l.drop k) [] 0 (by rw[List.take_append_drop];exact h)
theorem zm2:∀ {l:List EX},ok l=true→∀ x∈l,ins x:=fun {l}=>zf3 (M:=fun l=>ok l=true→∀ x∈l,ins x) (fun _ _ h=>by cases h) (fun q x ih h y hy=>by
 obtain⟨h1,h2,_⟩:=(zjj q x).1 h
 rcases List.mem_append.1 hy with hy | hy
 ·exact ih h1 y hy
 ·simp at hy;subst hy;exact h2) l
theorem zkv {l:List EX} {k:Nat} (hk:k<l.length):zap (l.take (k+1))=zap (l.take k)++exB l[k]:=by
 rw[List.take_succ_eq_append_getElem hk,zdc,zgi]
theorem zar {l:List EX} (h:ok l=true):za3 l=zap l:=by simp[za3,h]
theorem zo1 {l:List EX} (h:ok l=false):za3 l=[]:=by simp[za3,h]
set_option maxRecDepth 100000 in
theorem zo2 (A:Option Addr)(l:List EX)(c:Nat)(w:World)(h:XR w w.heap.size A l)(hl:l.length≤100):
  Calls Tryz.prog 153 #[.slice A l.length c] w (zcq w (.int .u32 (zby (za3 l):Nat))):=by
 have hck:=zf0 A l c w h hl
 have HCK:=hq hck
 clear hck
 by_cases hok:ok l=true
 ·rw[zar hok]
  rw[zjk hok] at HCK
  have HOK:=hq hok
  clear hok
  go_enter Tryz.func153,Tryz.ntmps153
  go_wp2_with fail
  refine HCK.out.mono ?_
  clear HCK
  rintro e w1 ⟨rfl,b1⟩
  have B1:=hq b1
  clear b1
  go_wp2_with fail
  go_loopw [11,3,5] (fun i s _ wr=>∃ (k:Nat),k≤l.length∧i=.int .i64 (k:Int)∧s=.int .u32 (zby (zap (l.take k)):Nat)∧Below w.heap.size w wr) (fun i _ _ _=>l.length-(RowKit.intOf i).toNat)
  case atStart=>exact⟨0,by omega,rfl,rfl,B1.out⟩
  case round =>
   obtain⟨k,hk,rfl,rfl,hb⟩:=hrel
   by_cases hlt:k<l.length
   ·obtain⟨ad,rfl,hlb,d0,d1,hx⟩:=(h.below hb).at_ hlt
    have hst:=zkv hlt
    have hin:=zm2 HOK.out _ (List.getElem_mem hlt)
    have gl:=(zcj _ (yf3 HOK.out k)).lt
    have hsz:=hb.size
    have HN:=hq h
    clear h
    generalize l[k]=x at *
    have ql:zby (exB x)<4294967296:=zle (fun b hb=>(zok hin hb).2)
    have hor:=orI _ _ gl ql
    rw[← zhv,← hst] at hor
    have hset:=fun w=>zxt x w hin
    clear hst hx hin
    have b1:=hb.alloc hsz (.cells #[.int .i64 x.1,.int .i64 x.2] 176)
    have HB:=hq b1
    obtain⟨s,n⟩:=x
    simp only at d0 d1 hset
    generalize zby (exB (s,n))=Q at *
    generalize hE:zby (zap (l.take (k+1)))=E at *
    have HE:=hq hE
    clear hE b1 hb
    generalize zby (zap (l.take k))=P at *
    clear gl ql
    go_wp2_with fail
    refine(hset _).mono ?_
    rintro e w4 ⟨rfl,b4⟩
    have B4:=hq (HB.out.trans (b4.mono HB.out.size))
    clear b4
    go_wp2_with fail
    go_roundw
    case rel=>exact⟨k+1,by omega,by go_num,by rw[HE.out],B4.out⟩
    case measure=>simp[RowKit.intOf];omega
   ·obtain rfl:k=l.length:=by omega
    rw[List.take_length]
    clear h
    go_wp2_with fail
    go_ret
    exact⟨rfl,hb⟩
 ·have hno:ok l=false:=by simpa using hok
  rw[zo1 hno]
  rw[zj8 hno] at HCK
  clear hok
  go_enter Tryz.func153,Tryz.ntmps153
  go_wp2_with fail
  refine HCK.out.mono ?_
  rintro e w1 ⟨rfl,b1⟩
  go_wp2_with fail
  go_ret
  exact⟨rfl,b1⟩
set_option maxRecDepth 100000 in
theorem zgn (A:Option Addr)(l:List EX)(c:Nat)(w:World)(h:XR w w.heap.size A l)(hl:l.length≤100):
  Calls Tryz.prog 161 #[.slice A l.length c] w (zcq w (.int .i64 ((za3 l).length:Nat))):=by
 have hb:=zo2 A l c w h hl
 have ho:=fun w=>ztj (zby (za3 l)) (za2 l).lt w
 rw[znk (za2 l)] at ho
 generalize zby (za3 l)=s at *
 generalize (za3 l).length=n at *
 clear h
 go_enter Tryz.func161,Tryz.ntmps161
 go_wp2_with fail
 refine hb.mono ?_
 rintro e w1 ⟨rfl,b1⟩
 go_wp2_with fail
 refine(ho w1).mono ?_
 rintro e w2 ⟨rfl,b2⟩
 have B2:=hq (b1.trans (b2.mono b1.size))
 clear b1 b2
 go_wp2_with fail
 go_ret
 exact⟨rfl,B2.out⟩
def JR (w:World) (R:Option Addr) (l:List Nat):Prop:=∀ (k x:Nat),l[k]?=some x→∃ g o,R=some ⟨g,o,none⟩∧g<w.heap.size∧w.cell? ⟨g,o+k,none⟩=some (.int .i64 (x:Int))
theorem IR.jr {w:World} {R:Option Addr} {l:List Nat} (h:IR w R l):JR w R l:=fun k x hx=>by
 obtain⟨g,e,hg,hc⟩:=h k x hx
 exact⟨g,0,e,hg,by rw[Nat.zero_add];exact hc⟩
theorem JR.at_ {w:World} {R:Option Addr} {l:List Nat} (h:JR w R l){k:Nat} (hk:k<l.length):∃ g o,R=some ⟨g,o,none⟩∧g<w.heap.size∧w.cell? ⟨g,o+k,none⟩=some (.int .i64 (l[k]:Int)):=h k _ (List.getElem?_eq_getElem hk)
theorem JR.below {w w':World} {R:Option Addr} {l:List Nat} (h:JR w R l)(hb:Below w.heap.size w w'):JR w' R l:=fun k x hx=>by
 obtain⟨g,o,e,hg,hc⟩:=h k x hx
 exact⟨g,o,e,Nat.lt_of_lt_of_le hg hb.size,(hb.cell (show(⟨g,o+k,none⟩:Addr).block<_ from hg)).trans hc⟩
set_option maxRecDepth 100000 in
theorem zig (R:Option Addr)(l:List Nat)(c:Nat)(w:World)(h:JR w R l)(hg:Good l):
  Calls Tryz.prog 104 #[.slice R l.length c] w fun e w'=>e=.returned (.int .u32 (zby l:Nat))∧w'=w:=by
 have hlen:=hg.len
 go_enter Tryz.func104,Tryz.ntmps104
 go_wp2_with fail
 go_loop [8,3,5] (fun i s _=>∃ (k:Nat),k≤l.length∧i=.int .i64 (k:Int)∧s=.int .u32 (zby (l.take k):Nat)) (fun i _ _=>l.length-(RowKit.intOf i).toNat)
 case atStart=>exact⟨0,by omega,rfl,rfl⟩
 case round =>
  obtain⟨k,hk,rfl,rfl⟩:=hrel
  by_cases hlt:k<l.length
  ·obtain⟨g,o,rfl,hgl,hc⟩:=h.at_ hlt
   have hb:=hg.2 _ (List.getElem_mem hlt)
   have hst:zby (l.take (k+1))=zby (l.take k) ||| 2 ^ l[k]:=by rw[List.take_succ_eq_append_getElem hlt,zld]
   have pl:=(hg.take k).lt
   have ql:=zte hb.2
   have hor:=orI _ _ pl ql
   rw[← hst] at hor
   have e1:((2:Int) ^ l[k]) % 4294967296=((2 ^ l[k]:Nat):Int):=by
    have:(2:Int) ^ l[k]=((2 ^ l[k]:Nat):Int):=by simp
    rw[this]
    clear hor this
    generalize (2:Nat) ^ l[k]=T at *
    omega
   clear hst h
   generalize hE:zby (l.take (k+1))=E at *
   have HE:=hq hE
   clear hE
   generalize zby (l.take k)=P at *
   generalize l[k]=b at *
   generalize ((2 ^ b:Nat):Int)=T at *
   clear pl ql
   go_wp2_with fail
   go_round
   case rel=>exact⟨k+1,by omega,by go_num,by rw[HE.out]⟩
   case measure=>simp[RowKit.intOf];omega
  ·obtain rfl:k=l.length:=by omega
   rw[List.take_length]
   clear h
   go_wp2_with fail
   go_ret
   exact⟨rfl,rfl⟩
end Ex
end Go.Proofs.YtefgabnmcfpdcaaGreatDoor
