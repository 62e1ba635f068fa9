/-
  MapF
-/
import Derived.Test.YtdopfpcjpjlkmaaGreatDoorGDk
import Derived.Test.YtdopfpcjpjlkmaaGreatDoorGNd
import Derived.Maps.RangeWalk
import Derived.Lib.SlKeysI
namespace Go.Proofs.YtdopfpcjpjlkmaaGreatDoor
open Go.RowKit Go.Maps Go.MapKept Go.ChangeMaps
structure Codec (V:Type) where
 enc:V→Value
 R:Value→Option (DataW Unit × List MemPlace)
 dat:V→DataW Unit
 ok:∀ x,R (enc x)=some (dat x,[])
 inv:∀ v x ps,R v=some (dat x,ps)→v=enc x
 all:∀ v y,R v=some y→∃ x,v=enc x
def ydn:Codec (List UInt8) where
 enc:=ag
 R:=R8
 dat:=fun xs=>.lit (.string xs)
 ok:=yiv
 inv:=fun v x ps h=>ych h
 all:=fun v y h=>by
  unfold R8 at h
  split at h
  ·rename_i cs
   cases hm:cs.toList.mapM zkd with
   | none=>rw[hm] at h;cases h
   | some ys =>
    refine⟨ys,?_⟩
    have:=zfp hm
    unfold ag
    rw[← this]
  ·cases h
def ycu:Value→Option Int
 | .int .i64 n=>some n
 | _=>none
theorem yef {v:Value} {x:Int} (h:ycu v=some x):v=.int .i64 x:=by
 unfold ycu at h
 split at h
 ·cases h;rfl
 ·cases h
theorem zz5 (xs:List Int):(xs.map I6).mapM ycu=some xs:=by
 induction xs with
 | nil=>rfl
 | cons x r ih=>rw[List.map_cons,List.mapM_cons,ih];rfl
theorem zgj:∀ {vs:List Value} {xs:List Int},vs.mapM ycu=some xs→vs=xs.map I6
 | [],xs,h=>by cases h;rfl
 | v::r,xs,h=>by
  rw[List.mapM_cons] at h
  cases hv:ycu v with
  | none=>rw[hv] at h;cases h
  | some x =>
   rw[hv] at h
   cases hr:r.mapM ycu with
   | none=>rw[hr] at h;cases h
   | some ys =>
    rw[hr] at h
    cases h
    rw[yef hv,zgj hr]
    rfl
def datI (n:Int):DataW Unit:=.lit (.int .i64 n)
def RNd:Value→Option (DataW Unit × List MemPlace)
 | .agg cs=>(cs.toList.mapM ycu).map fun xs=>(.agg (xs.map datI),[])
 | _=>none
theorem zkq:∀ {a b:List Int},a.map datI=b.map datI→a=b
 | [],[],_=>rfl
 | [],y::s,h=>by cases h
 | x::r,[],h=>by cases h
 | x::r,y::s,h=>by
  simp only[List.map_cons,List.cons.injEq,datI,DataW.lit.injEq,Lit.int.injEq,true_and] at h
  rw[h.1,zkq h.2]
def nodeC:Codec (List Int) where
 enc:=ng
 R:=RNd
 dat:=fun xs=>.agg (xs.map datI)
 ok:=fun xs=>by
  show Option.map _ (List.mapM ycu (xs.map I6))=_
  rw[zz5];rfl
 inv:=fun v x ps h=>by
  unfold RNd at h
  split at h
  ·rename_i cs
   cases hm:cs.toList.mapM ycu with
   | none=>rw[hm] at h;cases h
   | some ys =>
    rw[hm] at h
    simp only[Option.map_some,Option.some.injEq,Prod.mk.injEq,DataW.agg.injEq] at h
    have h1:=zkq h.1
    subst h1
    have:=zgj hm
    unfold ng
    rw[← this]
  ·cases h
 all:=fun v y h=>by
  unfold RNd at h
  split at h
  ·rename_i cs
   cases hm:cs.toList.mapM ycu with
   | none=>rw[hm] at h;cases h
   | some ys =>
    refine⟨ys,?_⟩
    have:=zgj hm
    unfold ng
    rw[← this]
  ·cases h
def kI (n:Nat):Lit:=.int .i64 (n:Int)
def yc4 {V:Type} (f:Nat→Option V) (n:Nat) (x:V):Nat→Option V:=fun i=>if i=n then some x else f i
def zq4 {V:Type} (f:Nat→Option V):List Nat:=(List.range 128).filter fun i=>(f i).isSome
theorem keysF_mem {V:Type} {f:Nat→Option V} {i:Nat}:i∈zq4 f↔i<128∧(f i).isSome=true:=by simp[zq4]
theorem yaf {V:Type} (f:Nat→Option V):(zq4 f).length≤128:=by
 have:=List.length_filter_le (fun i=>(f i).isSome) (List.range 128)
 simpa [zq4] using this
theorem zss {V:Type} (f:Nat→Option V):(zq4 f).Nodup:=List.Pairwise.filter _ List.nodup_range
structure MapD {V:Type} (C:Codec V) (D:DataW Unit) (f:Nat→Option V):Prop where
 im:IsMap D
 at_:∀ i,i<128→has D (kI i)=(f i).isSome∧∀ x,f i=some x→∀ z,D.atKey (kI i) z=C.dat x
 keys:∀ z:Int,has D (.int .i64 z)=true→∃ i:Nat,i<128∧z=i
 out:∀ i,128≤i→f i=none
def MapF {V:Type} (C:Codec V) (w:World) (mb nn:Nat) (f:Nat→Option V):Prop:=
 ∃ D,w.ownsMap Tryz.prog 3 C.R mb nn D∧MapD C D f
variable {V:Type} {C:Codec V} {w:World} {mb nn:Nat} {f:Nat→Option V}
theorem zu0 (n:Nat)(h:n<128):keyOf Tryz.prog 3 (.int .i64 (n:Int))=some (kI n):=keyOf_int_mk Tryz.underlying3 (by
 simp[Lit.wf,IntKind.min,IntKind.max,IntKind.signed,IntKind.bits];omega)
theorem kI_ne {a b:Nat} (h:a≠b):kI a≠kI b:=by
 intro e
 unfold kI at e
 injection e with _ e
 omega
theorem MapF.lt (h:MapF C w mb nn f):mb<w.heap.size:=by obtain⟨D,h,_⟩:=h;exact h.lt
theorem MapF.keep {w':World} (h:MapF C w mb nn f)(hk:w'.heap[mb]?=w.heap[mb]?):MapF C w' mb nn f:=by
 obtain⟨D,⟨es,clock,hb,r⟩,rest⟩:=h
 exact⟨D,⟨es,clock,hk.trans hb,r⟩,rest⟩
theorem MapF.keeps {w':World} {F:Nat→Prop} (h:MapF C w mb nn f)(k:Keeps F w w')(hF:¬F mb):MapF C w' mb nn f:=h.keep (k.block _ h.lt hF)
theorem MapF.below {w':World} {B:Nat} (h:MapF C w mb nn f)(k:Below B w w')(hB:mb<B):MapF C w' mb nn f:=h.keep (k.block _ hB)
theorem MapF.alloc (h:MapF C w mb nn f)(o:Obj):MapF C (w.alloc o) mb nn f:=h.keep (Below.heap_alloc _ _ _ h.lt)
theorem MapF.setCell (h:MapF C w mb nn f)(a:Addr)(v:Value)(hb:mb≠a.block):MapF C (w.setCell a v) mb nn f:=h.keep (Below.heap_setCell _ _ _ _ hb)
theorem MapF.made (C:Codec V)(w:World):MapF C (w.alloc (.map #[] 0)) w.heap.size 0 (fun _=>none):=
 ⟨_,World.ownsMap_made w _ _ _,isMap_empty,fun _ _=>⟨rfl,fun b hb=>by cases hb⟩,fun z hz=>by simp[has] at hz,fun _ _=>rfl⟩
theorem MapD.put {D:DataW Unit} (h:MapD C D f)(n:Nat)(hn:n<128)(x:V):MapD C (D.put (kI n) (C.dat x)) (yc4 f n x):=by
 refine⟨h.im.put _ _,fun i hi=>?_,fun z hz=>?_,fun i hi=>?_⟩
 ·unfold yc4
  by_cases e:i=n
  ·subst e
   rw[zp rfl,has_put_same h.im (by trivial)]
   exact⟨rfl,fun y hy z=>by cases hy;exact atKey_put_same h.im (by trivial) _ _⟩
  ·rw[zn e,has_put_other (kI_ne e)]
   refine⟨(h.at_ i hi).1,fun y hy z=>?_⟩
   rw[atKey_put_other (kI_ne e)]
   exact(h.at_ i hi).2 y hy z
 ·by_cases e:z=(n:Int)
  ·exact⟨n,hn,e⟩
  ·rw[has_put_other (by intro e';unfold kI at e';injection e' with _ e';exact e e')] at hz
   exact h.keys z hz
 ·unfold yc4
  rw[zn (by omega)]
  exact h.out i hi
theorem MapF.put {t e:TypeId} (ht:Tryz.prog.underlying t=some (.map 3 e))(h:MapF C w mb nn f)(n:Nat)(hn:n<128)(x:V)(hq:nn<maxLen):
  ∃ w',(Instr.mapUpdate t (.map (some mb)) (.int .i64 (n:Int)) (C.enc x)).run Tryz.prog w=.ok () w'∧MapF C w' mb (nn+1) (yc4 f n x)∧w.grownBy w' (some mb)∧w'.heap.size=w.heap.size:=by
 obtain⟨D,hown,hD⟩:=h
 obtain⟨w',hrun,hown',hg⟩:=hown.store zi9 ht hq (zu0 n hn) (C.ok x)
 refine⟨w',hrun,⟨_,hown',hD.put n hn x⟩,hg.grown,?_⟩
 obtain⟨es,clock,es',clock',hb,rfl⟩:=hg
 simp[setBlock]
theorem MapF.look {t e:TypeId} (ht:Tryz.prog.underlying t=some (.map 3 e))(h:MapF C w mb nn f)(zr:V)(hz:(zeroValue e).run Tryz.prog w=.ok (C.enc zr) w)(n:Nat)(hn:n<128):
  (Instr.lookup t (.map (some mb)) (.int .i64 (n:Int)) true).run Tryz.prog w=.ok (.tuple #[C.enc ((f n).getD zr),.bool (f n).isSome]) w:=by
 obtain⟨D,hown,hD⟩:=h
 obtain⟨hh,hat⟩:=hD.at_ n hn
 obtain⟨v,ps,hrun,hv⟩:=hown.look_ok zi9 ht hz (C.ok zr) (zu0 n hn)
 rw[hrun,hh]
 cases hl:f n with
 | none =>
  rw[hl] at hh
  rw[atKey_of_not_has hh] at hv
  rw[C.inv _ _ _ hv]
  rfl
 | some b =>
  rw[hat b hl] at hv
  rw[C.inv _ _ _ hv]
  rfl
theorem MapD.keysPerm {D:DataW Unit} (hD:MapD C D f)(hown:w.ownsMap Tryz.prog 3 C.R mb nn D):((zq4 f).map Int.ofNat).Perm (intKeys D):=by
 obtain⟨es,hDe,hpw,_⟩:=hown.entries zi9
 obtain⟨es',hD',hko⟩:=hown.keysOf
 obtain rfl:es=es':=by rw[hDe] at hD';simpa using hD'
 subst hDe
 refine perm_intKeys hpw (fun p hp=>by obtain⟨v,hv⟩:=hko p hp;obtain⟨x,_,hx,_⟩:=Maps.keyOf_i64 Tryz.underlying3 hv;exact⟨x,hx⟩) ?_ (fun x=>?_)
 ·exact List.pairwise_map.2 ((zss f).imp fun h e=>h (Int.ofNat.inj e))
 ·constructor
  ·intro hx
   obtain⟨i,hi,rfl⟩:=List.mem_map.1 hx
   obtain⟨h1,h2⟩:=keysF_mem.1 hi
   rw[← h2]
   exact(hD.at_ i h1).1
  ·intro hx
   obtain⟨i,hi,rfl⟩:=hD.keys x hx
   refine List.mem_map.2 ⟨i,keysF_mem.2 ⟨hi,?_⟩,rfl⟩
   rw[← (hD.at_ i hi).1]
   exact hx
theorem zsv (D:DataW Unit):(intKeys D).length=Maps.size D:=by cases D<;>simp[intKeys,Maps.size]
theorem MapD.size {D:DataW Unit} (hD:MapD C D f)(hown:w.ownsMap Tryz.prog 3 C.R mb nn D):Maps.size D=(zq4 f).length:=by
 rw[← zsv,← (hD.keysPerm hown).length_eq,List.length_map]
theorem MapF.len {t e:TypeId} (ht:Tryz.prog.underlying t=some (.map 3 e))(h:MapF C w mb nn f)(ty:TypeId):
  (Builtin.len_ #[t] ty #[.map (some mb)]).run Tryz.prog w=.ok (.int .i64 ((zq4 f).length:Nat)) w:=by
 obtain⟨D,hown,hD⟩:=h
 rw[hown.len ht ty,hD.size hown]
def MapR (C:Codec V) (w:World) (mb r nn:Nat) (f:Nat→Option V) (ss:List Nat) (cnt:Nat):Prop:=
 ∃ D left,w.ranges Tryz.prog 3 C.R mb r nn D left cnt∧MapD C D f∧ss.Nodup∧∀ i,i∈ss↔(i<128∧(f i).isSome=true∧left (kI i)=false)
theorem MapR.owns {r cnt:Nat} {ss:List Nat} (h:MapR C w mb r nn f ss cnt):MapF C w mb nn f:=by
 obtain⟨D,left,hr,hD,_⟩:=h
 exact⟨D,hr.owns,hD⟩
theorem MapR.kept {r cnt:Nat} {ss:List Nat} {w':World} (h:MapR C w mb r nn f ss cnt)(h1:w'.heap[mb]?=w.heap[mb]?)(h2:w'.heap[r]?=w.heap[r]?):MapR C w' mb r nn f ss cnt:=by
 obtain⟨D,left,⟨es,clock,since,seen,c0,hb,F,hs,hD,hr,rest⟩,more⟩:=h
 exact⟨D,left,⟨es,clock,since,seen,c0,h1.trans hb,F,hs,hD,h2.trans hr,rest⟩,more⟩
theorem MapR.lt {r cnt:Nat} {ss:List Nat} (h:MapR C w mb r nn f ss cnt):mb<w.heap.size∧r<w.heap.size:=by
 obtain⟨D,left,hr,_⟩:=h
 exact⟨hr.owns.lt,hr.lt⟩
theorem MapR.ne {r cnt:Nat} {ss:List Nat} (h:MapR C w mb r nn f ss cnt):r≠mb:=by
 obtain⟨D,left,hr,_⟩:=h
 exact hr.ne
theorem MapR.mem {r cnt:Nat} {ss:List Nat} (h:MapR C w mb r nn f ss cnt){i:Nat} (hi:i∈ss):i<128∧(f i).isSome=true:=by
 obtain⟨D,left,_,_,_,hm⟩:=h
 exact⟨((hm i).1 hi).1,((hm i).1 hi).2.1⟩
theorem zl8 {ss:List Nat} (h:ss.Nodup)(n:Nat)(hs:∀ i∈ss,i<n):ss.length≤n:=by
 have h1:ss.Perm ((List.range n).filter fun i=>decide (i∈ss)):=(List.perm_ext_iff_of_nodup h (List.Pairwise.filter _ List.nodup_range)).2 fun i=>by
  simp only[List.mem_filter,List.mem_range,decide_eq_true_eq]
  exact⟨fun hi=>⟨hs i hi,hi⟩,fun hi=>hi.2⟩
 have h2:=List.length_filter_le (fun i=>decide (i∈ss)) (List.range n)
 rw[h1.length_eq]
 simpa using h2
end Go.Proofs.YtdopfpcjpjlkmaaGreatDoor
