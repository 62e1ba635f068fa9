/- merged -/
import Derived.Test.YtdopfpcjpjlkmaaGreatDoorGB
import Derived.Maps.OwnSet
import Derived.Outline
import Derived.Deep.QuietTactic
import Derived.BigQuiet
import Derived.StillTailTactics
import Derived.Test.YtdopfpcjpjlkmaaGreatDoorGT
namespace Go.Proofs.YtdopfpcjpjlkmaaGreatDoor
section
open Go.RowKit Go.Maps Go.MapKept Go.ChangeMaps
theorem za9 {P:Program} {w w':World} {ops:Array Oper} {rest:List Oper} {o:Oper} {a:Act} {Q:Exit→Act→World→Prop} (hgd:o.guard=none)(t:TypeId)(x:Operand)(ho:o.op=.load t x)(p v:Value)(hp:a.eval x=p)
  (hrun:(Instr.loadAt t p).run P w=.ok v w') (h:wpList P ops Q rest (a.put o.dst v) w'):wpList P ops Q (o::rest) a w:=
 wpList_plain hgd fun _ hK=>by
  unfold Oper.wp execOp
  simp only[ho,hp,Sem.run_bind,hrun,Result.andThen_ok,Sem.run_pure]
  exact hK _ _ h
theorem zaz {P:Program} {w w':World} {ops:Array Oper} {rest:List Oper} {o:Oper} {a:Act} {Q:Exit→Act→World→Prop} (hgd:o.guard=none)(t:TypeId)(x y:Operand)(ho:o.op=.store t x y)(p v:Value)(hp:a.eval x=p)(hv:a.eval y=v)
  (hrun:(Instr.storeAt t p v).run P w=.ok () w') (h:wpList P ops Q rest (a.put o.dst undef) w'):wpList P ops Q (o::rest) a w:=
 wpList_plain hgd fun _ hK=>by
  unfold Oper.wp execOp
  simp only[ho,hp,hv,Sem.run_bind,hrun,Result.andThen_ok,Sem.run_pure]
  exact hK _ _ h
theorem zbr {P:Program} {w w':World} {ops:Array Oper} {rest:List Oper} {o:Oper} {a:Act} {Q:Exit→Act→World→Prop} (hgd:o.guard=none)(t:TypeId)(ho:o.op=.alloc t)(v:Value)
  (hrun:(Instr.alloc t true (.tuple #[])).run P w=.ok v w') (h:wpList P ops Q rest (a.put o.dst v) w'):wpList P ops Q (o::rest) a w:=
 wpList_plain hgd fun _ hK=>by
  unfold Oper.wp execOp
  simp only[ho,Sem.run_bind,hrun,Result.andThen_ok,Sem.run_pure]
  exact hK _ _ h
theorem zhy {P:Program} {w w':World} {ops:Array Oper} {rest:List Oper} {o:Oper} {a:Act} {Q:Exit→Act→World→Prop} (hgd:o.guard=none)(t:TypeId)(x:Operand)(ho:o.op=.box t x)(y v:Value)(hy:a.eval x=y)
  (hrun:(Instr.box t y).run P w=.ok v w') (h:wpList P ops Q rest (a.put o.dst v) w'):wpList P ops Q (o::rest) a w:=
 wpList_plain hgd fun _ hK=>by
  unfold Oper.wp execOp
  simp only[ho,hy,Sem.run_bind,hrun,Result.andThen_ok,Sem.run_pure]
  exact hK _ _ h
theorem zft {P:Program} {w w':World} {ops:Array Oper} {rest:List Oper} {o:Oper} {a:Act} {Q:Exit→Act→World→Prop} (hgd:o.guard=none)(t:TypeId)(x y:Operand)(c:Bool)(ho:o.op=.lookup t x y c)(m k v:Value)(hm:a.eval x=m)(hk:a.eval y=k)
  (hrun:(Instr.lookup t m k c).run P w=.ok v w') (h:wpList P ops Q rest (a.put o.dst v) w'):wpList P ops Q (o::rest) a w:=
 wpList_plain hgd fun _ hK=>by
  unfold Oper.wp execOp
  simp only[ho,hm,hk,Sem.run_bind,hrun,Result.andThen_ok,Sem.run_pure]
  exact hK _ _ h
theorem zd5 {P:Program} {w:World} {ops:Array Oper} {rest:List Oper} {a:Act} {Q:Exit→Act→World→Prop} {op:Op} {d:Option Tmp} {ty:TypeId} {pos:String} {af:Array Edge} {g:Option (Nat × Bool)}
  (h:wpList P ops Q (⟨d,op,ty,pos,af,g⟩::rest) a w):wpList P ops Q (⟨d,op,ty,pos,af,g⟩::rest) a w:=h
def zkd:Value→Option UInt8
 | .int .u8 n=>if 0≤n∧n<256 then some (UInt8.ofNat n.toNat) else none
 | _=>none
def R8:Value→Option (DataW Unit × List MemPlace)
 | .agg cs=>(cs.toList.mapM zkd).map fun xs=>(.lit (.string xs),[])
 | _=>none
theorem yfl (x:UInt8):zkd (B8 x)=some x:=by
 have h:=x.toNat_lt
 simp only[zkd]
 rw[zp ⟨by omega,by omega⟩]
 simp
theorem yb6 {v:Value} {x:UInt8} (h:zkd v=some x):v=B8 x:=by
 unfold zkd at h
 split at h
 ·rename_i n
  split at h
  ·rename_i hn
   simp only[Option.some.injEq] at h
   subst h
   have e:((UInt8.ofNat n.toNat).toNat:Int)=n:=by simp;omega
   show Value.int .u8 n=.int .u8 _
   rw[e]
  ·cases h
 ·cases h
theorem zw6 (xs:List UInt8):(xs.map B8).mapM zkd=some xs:=by
 induction xs with
 | nil=>rfl
 | cons x r ih=>rw[List.map_cons,List.mapM_cons,yfl,ih];rfl
theorem zfp:∀ {vs:List Value} {xs:List UInt8},vs.mapM zkd=some xs→vs=xs.map B8
 | [],xs,h=>by cases h;rfl
 | v::r,xs,h=>by
  rw[List.mapM_cons] at h
  cases hv:zkd v with
  | none=>rw[hv] at h;cases h
  | some x =>
   rw[hv] at h
   cases hr:r.mapM zkd with
   | none=>rw[hr] at h;cases h
   | some ys =>
    rw[hr] at h
    cases h
    rw[yb6 hv,zfp hr]
    rfl
def ag (xs:List UInt8):Value:=.agg (xs.map B8).toArray
theorem yiv (xs:List UInt8):R8 (ag xs)=some (.lit (.string xs),[]):=by
 show Option.map _ (List.mapM zkd (xs.map B8))=_
 rw[zw6];rfl
theorem ych {v:Value} {xs:List UInt8} {ps:List MemPlace} (h:R8 v=some (.lit (.string xs),ps)):v=ag xs:=by
 unfold R8 at h
 split at h
 ·rename_i cs
  cases hm:cs.toList.mapM zkd with
  | none=>rw[hm] at h;cases h
  | some ys =>
   rw[hm] at h
   simp only[Option.map_some,Option.some.injEq,Prod.mk.injEq,DataW.lit.injEq,Lit.string.injEq] at h
   obtain⟨rfl,_⟩:=h
   have:=zfp hm
   unfold ag
   rw[← this]
 ·cases h
def zmh:List (Nat × List UInt8)→Nat→Option (List UInt8)
 | [],_=>none
 | q::r,n=>match zmh r n with
  | some b=>some b
  | none=>if q.1=n then some q.2 else none
theorem zw9 (Q:List (Nat × List UInt8))(m:Nat)(b:List UInt8)(n:Nat):zmh (Q++[(m,b)]) n=if m=n then some b else zmh Q n:=by
 induction Q with
 | nil=>simp[zmh]
 | cons q r ih =>
  simp only[List.cons_append,zmh,ih]
  by_cases h:m=n
  ·simp[h]
  ·simp[h]
theorem zi9:Keyed Tryz.prog 3:=int_keyed Tryz.underlying3
theorem yga (n:Nat)(h:n<1000000):keyOf Tryz.prog 3 (.int .i64 (n:Int))=some (.int .i64 (n:Int)):=keyOf_int_mk Tryz.underlying3 (by
 simp[Lit.wf,IntKind.min,IntKind.max,IntKind.signed,IntKind.bits];omega)
def MapIs (w:World) (mb:Nat) (Q:List (Nat × List UInt8)):Prop:=
 ∃ DM,w.ownsMap Tryz.prog 3 R8 mb Q.length DM∧IsMap DM∧∀ n:Nat,n<1000000→has DM (.int .i64 (n:Int))=(zmh Q n).isSome∧∀ b,zmh Q n=some b→∀ z,DM.atKey (.int .i64 (n:Int)) z=.lit (.string b)
def zs64:List UInt8:=List.replicate 64 0
theorem zeg:zs64.length=64:=by simp[zs64]
theorem zero71 (w:World):(zeroValue 239).run Tryz.prog w=.ok (ag zs64) w:=by kernel_rfl
theorem MapIs.look {w:World} {mb:Nat} {Q:List (Nat × List UInt8)} (h:MapIs w mb Q)(n:Nat)(hn:n<1000000):
  (Instr.lookup 231 (.map (some mb)) (.int .i64 (n:Int)) true).run Tryz.prog w=.ok (.tuple #[ag ((zmh Q n).getD zs64),.bool (zmh Q n).isSome]) w:=by
 obtain⟨DM,hown,_,hall⟩:=h
 obtain⟨hh,hat⟩:=hall n hn
 obtain⟨v,ps,hrun,hv⟩:=hown.look_ok zi9 Tryz.underlying231 (zero71 w) (yiv zs64) (yga n hn)
 rw[hrun,hh]
 cases hl:zmh Q n with
 | none =>
  rw[hl] at hh
  rw[atKey_of_not_has hh] at hv
  rw[ych hv]
  rfl
 | some b =>
  rw[hat b hl] at hv
  rw[ych hv]
  rfl
theorem yf8 {a b:Nat} (h:a≠b):(Lit.int .i64 (a:Int))≠.int .i64 (b:Int):=by
 intro e
 injection e with _ e
 omega
theorem MapIs.put {w:World} {mb:Nat} {Q:List (Nat × List UInt8)} (h:MapIs w mb Q)(n:Nat)(hn:n<1000000)(b:List UInt8)(hq:Q.length<1954687338212):
  ∃ w',(Instr.mapUpdate 231 (.map (some mb)) (.int .i64 (n:Int)) (ag b)).run Tryz.prog w=.ok () w'∧MapIs w' mb (Q++[(n,b)])∧w.grownBy w' (some mb):=by
 obtain⟨DM,hown,hm,hall⟩:=h
 obtain⟨w',hrun,hown',hg⟩:=hown.update zi9 Tryz.underlying231 (by unfold maxLen;omega) (yga n hn) (yiv b)
 refine⟨w',hrun,⟨_,by rw[List.length_append];exact hown',hm.put _ _,fun i hi=>?_⟩,hg⟩
 rw[zw9]
 by_cases e:n=i
 ·subst e
  rw[zp rfl,has_put_same hm (by trivial)]
  exact⟨rfl,fun b' hb z=>by cases hb;exact atKey_put_same hm (by trivial) _ _⟩
 ·rw[zn e,has_put_other (yf8 (Ne.symm e))]
  refine⟨(hall i hi).1,fun b' hb z=>?_⟩
  rw[atKey_put_other (yf8 (Ne.symm e))]
  exact(hall i hi).2 b' hb z
theorem MapIs.made (w:World):MapIs (w.alloc (.map #[] 0)) w.heap.size []:=
 ⟨_,World.ownsMap_made w _ _ _,isMap_empty,fun _ _=>⟨rfl,fun b hb=>by cases hb⟩⟩
theorem MapIs.keep {w w':World} {mb:Nat} {Q:List (Nat × List UInt8)} (h:MapIs w mb Q)(hk:w'.heap[mb]?=w.heap[mb]?):MapIs w' mb Q:=by
 obtain⟨DM,⟨es,clock,hb,r⟩,rest⟩:=h
 exact⟨DM,⟨es,clock,hk.trans hb,r⟩,rest⟩
theorem MapIs.lt {w:World} {mb:Nat} {Q:List (Nat × List UInt8)} (h:MapIs w mb Q):mb<w.heap.size:=by
 obtain⟨DM,hown,_⟩:=h;exact hown.lt
theorem MapIs.obj {w:World} {mb:Nat} {Q:List (Nat × List UInt8)} (h:MapIs w mb Q):∃ es clock,w.heap[mb]?=some (.map es clock):=by
 obtain⟨DM,⟨es,clock,hb,_⟩,_⟩:=h;exact⟨es,clock,hb⟩
theorem MapIs.clear {w:World} {mb:Nat} {Q:List (Nat × List UInt8)} (h:MapIs w mb Q)(ty:TypeId):
  ∃ w',(Builtin.clear_ #[231] ty #[.map (some mb)]).run Tryz.prog w=.ok (.tuple #[]) w'∧MapIs w' mb []∧w.grownBy w' (some mb):=by
 obtain⟨DM,⟨es,clock,hb,F,_⟩,_⟩:=h
 refine⟨setBlock w mb (.map #[] clock),?_,⟨.map [],⟨#[],clock,heap_setBlock_same hb _,⟨by simp,⟨fun _ h=>(by simp at h),by simp,by simp⟩,fun _ h=>(by simp at h)⟩,by simp,rfl⟩,isMap_empty,fun _ _=>⟨rfl,fun b hb=>by cases hb⟩⟩,
  ⟨rfl,rfl,rfl,by simp[setBlock],fun i _ hi=>heap_setBlock_other hb _ (fun e=>hi (by rw[e]))⟩⟩
 simp[Builtin.clear_,run_underlying Tryz.underlying231,MapKept.run_getObj_map hb,MapKept.run_setObj_map _ hb,Result.andThen]
 rfl
end
section
open Go.RowKit Go.Maps
structure DSt where
 L:List UInt8
 Q:List (Nat × List UInt8)
 left:Int
 down:Bool
 acts:Nat
def zt9 (q:Nat × List UInt8):List Value:=.int .i64 (q.1:Int)::q.2.map B8
def sec (L:List UInt8) (n:Nat):List UInt8:=(L.drop (n*64)).take 64
structure DSt.Ok (D:DSt) (n:Nat):Prop where
 len:D.L.length=64*n
 n_le:n≤2000
 q:∀ q∈D.Q,q.1<n∧q.2.length=64
 lo:-1≤D.left
 hi:D.left≤9223372036854775807
structure DkAt (w:World) (p lb mb n:Nat) (iv:Value) (D:DSt):Prop where
 ok:D.Ok n
 head:w.heap[p]?=some (.cells #[.slice (some ⟨lb,0,none⟩) n n,iv,.map (some mb),.int .i64 D.left,.bool D.down,.int .i64 (D.acts:Int)] 233 (0,0))
 rows:w.heap[lb]?=some (.cells (D.L.map B8).toArray 239 (0,0))
 que:w.ownsRow 0 241 65 iv D.Q.length (D.Q.flatMap zt9)
 map:MapIs w mb D.Q
def Dk (w:World) (F:Nat→Prop) (p:Nat) (D:DSt):Prop:=
 ∃ lb mb n iv,DkAt w p lb mb n iv D∧F p∧F lb∧F mb∧∀ g,Value.ownBlock iv=some g→F g
theorem DkAt.keep {w w':World} {p lb mb n:Nat} {iv:Value} {D:DSt} (h:DkAt w p lb mb n iv D)(hp:w'.heap[p]?=w.heap[p]?)(hl:w'.heap[lb]?=w.heap[lb]?)(hm:w'.heap[mb]?=w.heap[mb]?)
  (hi:∀ g,Value.ownBlock iv=some g→w'.heap[g]?=w.heap[g]?):DkAt w' p lb mb n iv D:=by
 refine⟨h.ok,hp.trans h.head,hl.trans h.rows,?_,h.map.keep hm⟩
 refine⟨h.que.1,?_⟩
 rcases h.que.2 with hn | ⟨g,cap,cur,rfl,hb,hgg,rest⟩
 ·exact .inl hn
 ·exact .inr ⟨g,cap,cur,rfl,hb,(hi g rfl).trans hgg,rest⟩
theorem Dk.lt {w:World} {F:Nat→Prop} {p:Nat} {D:DSt} (h:Dk w F p D):p<w.heap.size:=by
 obtain⟨lb,mb,n,iv,h,_⟩:=h
 exact(Array.getElem?_eq_some_iff.1 h.head).1
theorem Dk.keep {w w':World} {F G:Nat→Prop} {p:Nat} {D:DSt} (h:Dk w F p D)(k:Keeps G w w')(hd:∀ b,b<w.heap.size→F b→¬G b):Dk w' F p D:=by
 obtain⟨lb,mb,n,iv,h,fp,fl,fm,fi⟩:=h
 have lt:∀ {b:Nat} {o:Obj},w.heap[b]?=some o→b<w.heap.size:=fun e=>(Array.getElem?_eq_some_iff.1 e).1
 have keep:∀ {b:Nat} {o:Obj},w.heap[b]?=some o→F b→w'.heap[b]?=w.heap[b]?:=fun e hf=>k.block _ (lt e) (hd _ (lt e) hf)
 obtain⟨es,clock,hm⟩:=h.map.obj
 refine⟨lb,mb,n,iv,h.keep (keep h.head fp) (keep h.rows fl) (keep hm fm) (fun g hg=>?_),fp,fl,fm,fi⟩
 exact k.block g (h.que.lt g hg).2 (hd _ (h.que.lt g hg).2 (fi g hg))
theorem Dk.mono {w:World} {F G:Nat→Prop} {p:Nat} {D:DSt} (h:Dk w F p D)(hF:∀ k,k<w.heap.size→F k→G k):Dk w G p D:=by
 obtain⟨lb,mb,n,iv,h,fp,fl,fm,fi⟩:=h
 obtain⟨es,clock,hm⟩:=h.map.obj
 have lt:∀ {b:Nat} {o:Obj},w.heap[b]?=some o→b<w.heap.size:=fun e=>(Array.getElem?_eq_some_iff.1 e).1
 exact⟨lb,mb,n,iv,h,hF _ (lt h.head) fp,hF _ (lt h.rows) fl,hF _ (lt hm) fm,fun g hg=>hF _ (h.que.lt g hg).2 (fi g hg)⟩
theorem DkAt.apart {w:World} {p lb mb n:Nat} {iv:Value} {D:DSt} (h:DkAt w p lb mb n iv D):p≠lb∧p≠mb∧lb≠mb∧∀ g,Value.ownBlock iv=some g→g≠p∧g≠lb∧g≠mb:=by
 obtain⟨es,clock,hm⟩:=h.map.obj
 have h1:=h.head
 have h2:=h.rows
 refine⟨?_,?_,?_,fun g hg=>?_⟩
 ·rintro rfl;rw[h1] at h2;simp at h2
 ·rintro rfl;rw[h1] at hm;simp at hm
 ·rintro rfl;rw[h2] at hm;simp at hm
 ·rcases h.que.2 with⟨rfl,_⟩|⟨g',cap,cur,rfl,hb,hgg,rest⟩
  ·cases hg
  ·simp only[Value.ownBlock,Option.some.injEq] at hg
   subst hg
   refine⟨?_,?_,?_⟩
   ·rintro rfl;rw[h1] at hgg;simp at hgg
   ·rintro rfl;rw[h2] at hgg;simp at hgg
   ·rintro rfl;rw[hm] at hgg;simp at hgg
theorem DkAt.c {w:World} {p lb mb n:Nat} {iv:Value} {D:DSt} (h:DkAt w p lb mb n iv D):
  w.cell? ⟨p,0,none⟩=some (.slice (some ⟨lb,0,none⟩) n n)∧w.cell? ⟨p,1,none⟩=some iv∧w.cell? ⟨p,2,none⟩=some (.map (some mb))∧w.cell? ⟨p,3,none⟩=some (.int .i64 D.left)∧w.cell? ⟨p,4,none⟩=some (.bool D.down) ∧
  w.cell? ⟨p,5,none⟩=some (.int .i64 (D.acts:Int))∧∀ i,w.frozen? ⟨p,i,none⟩=false:=by
 have hh:=h.head
 refine⟨?_,?_,?_,?_,?_,?_,fun i=>frozen_of_row w p i _ _ hh⟩<;>rw[cell_of_row w p _ _ _ _ hh]<;>rfl
end
section
open Go.RowKit Go.Maps
def DSt.n (D:DSt):Nat:=D.L.length / 64
def DSt.spent (D:DSt):DSt:=if D.left=0 then { D with down:=true } else { D with left:=if 0<D.left then D.left-1 else D.left,acts:=D.acts+1 }
end
section
open Go.RowKit Go.Maps
def z64:Array Value:=(zs64.map B8).toArray
theorem zej {w:World} {b:Nat} {zs ys:List UInt8} {t:TypeId} (o:Nat)(hb:w.heap[b]?=some (.cells (zs.map B8).toArray t (0,0)))(hfit:o+ys.length≤zs.length):
  (w.setCells b o (ys.map B8)).heap[b]?=some (.cells ((splice zs o ys).map B8).toArray t (0,0))∧Keeps (·=b) w (w.setCells b o (ys.map B8)):=by
 induction ys generalizing w zs o with
 | nil=>exact⟨by simpa [World.setCells,splice] using hb,Keeps.refl _ _⟩
 | cons y r ih =>
  simp only[List.map_cons,World.setCells]
  have h1:(w.setCell ⟨b,o,none⟩ (B8 y)).heap[b]?=some (.cells ((zs.set o y).map B8).toArray t (0,0)):=by
   rw[heap_setCell_same w b o _ t _ hb]
   simp[List.map_set]
  simp only[List.length_cons] at hfit
  obtain⟨h2,h3⟩:=ih (o+1) h1 (by rw[List.length_set];omega)
  refine⟨?_,(Keeps.setCell (·=b) _ _ _ rfl).trans h3⟩
  rw[h2]
  have e:splice (zs.set o y) (o+1) r=splice zs o (y::r):=by
   unfold splice
   rw[List.take_set,List.drop_set_of_lt (by omega)]
   have:(zs.take (o+1)).set o y=zs.take o++[y]:=by
    rw[List.take_succ_eq_append_getElem (by omega),List.set_append_right _ _ (by simp;omega)]
    simp[show o-min o zs.length=0 from by omega]
   rw[this]
   simp[Nat.add_assoc,Nat.add_comm 1]
  rw[e]
theorem zib {w:World} {b:Nat} {zs:List UInt8} {t:TypeId} {fr:Nat × Nat} (hb:w.heap[b]?=some (.cells (zs.map B8).toArray t fr))(o n:Nat):w.rangeAt b o (((zs.drop o).take n).map B8):=by
 intro j v hv
 rw[cell_of_row w b (o+j) _ t _ hb]
 simp only[List.getElem?_map,Option.map_eq_some_iff,List.getElem?_take,List.getElem?_drop] at hv
 obtain⟨u,hu,rfl⟩:=hv
 split at hu
 ·simp[hu]
 ·cases hu
theorem zgb {w:World} {b:Nat} {zs:List UInt8} {t:TypeId} (hb:w.heap[b]?=some (.cells (zs.map B8).toArray t (0,0)))(o n:Nat)(h:o+n≤zs.length):w.there b o n:=by
 intro j hj
 refine⟨?_,frozen_of_row w b _ _ t hb⟩
 rw[cell_of_row w b (o+j) _ t _ hb]
 simp
 omega
def DSt.now (D:DSt) (i:Nat):List UInt8:=(zmh D.Q i).getD (sec D.L i)
theorem zfv (xs ys:List UInt8)(h:xs.length=ys.length):splice xs 0 ys=ys:=by
 unfold splice;simp[h]
theorem newRow (w:World)(xs:List UInt8)(h:xs.length=64):
  ((w.alloc (.cells z64 239)).setCells w.heap.size 0 (xs.map B8)).heap[w.heap.size]?=some (.cells (xs.map B8).toArray 239 (0,0))∧Keeps (fun _=>False) w ((w.alloc (.cells z64 239)).setCells w.heap.size 0 (xs.map B8)):=by
 obtain⟨h1,h2⟩:=zej (w:=w.alloc (.cells z64 239)) (ys:=xs) 0 (heap_alloc_new w _) (by rw[zeg];omega)
 rw[zfv _ _ (by rw[zeg,h])] at h1
 refine⟨h1,⟨h2.os,h2.tape,h2.output,Nat.le_trans (by simp) h2.size,fun k hk _=>(h2.block k (by simp;omega) (by omega)).trans (Below.heap_alloc w _ k hk)⟩⟩
theorem yfp {w:World} {b:Nat} {zs:List UInt8} {t:TypeId} {fr:Nat × Nat} (hb:w.heap[b]?=some (.cells (zs.map B8).toArray t fr))(o n:Nat):BR w w.heap.size (some ⟨b,o,none⟩) ((zs.drop o).take n):=by
 intro _
 refine⟨_,rfl,(Array.getElem?_eq_some_iff.1 hb).1,fun k u hu=>?_⟩
 rw[Addr.add_mid]
 exact zib hb o n k _ (by rw[List.getElem?_map,hu];rfl)
end
section
open Go.RowKit Go.Maps
theorem zeq {P:Program} {w:World} {ops:Array Oper} {rest:List Oper} {o:Oper} {a:Act} {Q:Act→Prop} (hw:Region.wanted o (yielded ops a.tmps)=true)(t:TypeId)(x:Operand)(ho:o.op=.load t x)(p v:Value)(hp:a.eval x=p)
  (hrun:(Instr.loadAt t p).run P w=.ok v w) (h:wpStill P ops w Q rest (a.put o.dst v)):wpStill P ops w Q (o::rest) a:=by
 unfold wpStill
 rw[zp hw]
 unfold Oper.still execOp
 simp only[ho,hp,Sem.run_bind,hrun,Result.andThen_ok,Sem.run_pure,Oper.stillUpon,true_and]
 exact h
theorem zwt {q:Nat × List UInt8} (h:q.2.length=64):(zt9 q).length=65:=by simp[zt9,h]
theorem zgx {w:World} {b:Nat} {zs ys:List Value} {t:TypeId} (o:Nat)(hb:w.heap[b]?=some (.cells zs.toArray t (0,0)))(hfit:o+ys.length≤zs.length):
  (w.setCells b o ys).heap[b]?=some (.cells (splice zs o ys).toArray t (0,0))∧Keeps (·=b) w (w.setCells b o ys):=by
 induction ys generalizing w zs o with
 | nil=>exact⟨by simpa [World.setCells,splice] using hb,Keeps.refl _ _⟩
 | cons y r ih =>
  simp only[World.setCells]
  have h1:(w.setCell ⟨b,o,none⟩ y).heap[b]?=some (.cells (zs.set o y).toArray t (0,0)):=by
   rw[heap_setCell_same w b o _ t _ hb]
   simp
  simp only[List.length_cons] at hfit
  obtain⟨h2,h3⟩:=ih (o+1) h1 (by rw[List.length_set];omega)
  refine⟨?_,(Keeps.setCell (·=b) _ _ _ rfl).trans h3⟩
  rw[h2]
  have e:splice (zs.set o y) (o+1) r=splice zs o (y::r):=by
   unfold splice
   rw[List.take_set,List.drop_set_of_lt (by omega)]
   have:(zs.take (o+1)).set o y=zs.take o++[y]:=by
    rw[List.take_succ_eq_append_getElem (by omega),List.set_append_right _ _ (by simp;omega)]
    simp[show o-min o zs.length=0 from by omega]
   rw[this]
   simp[Nat.add_assoc,Nat.add_comm 1]
  rw[e]
theorem zp7 {w:World} {b:Nat} {zs:List Value} {t:TypeId} (hb:w.heap[b]?=some (.cells zs.toArray t (0,0)))(o n:Nat)(h:o+n≤zs.length):w.there b o n:=by
 intro j hj
 refine⟨?_,frozen_of_row w b _ _ t hb⟩
 rw[cell_of_row w b (o+j) _ t _ hb]
 simp
 omega
theorem zqo {w:World} {b:Nat} {zs:List Value} {t:TypeId} {fr:Nat × Nat} (hb:w.heap[b]?=some (.cells zs.toArray t fr)):w.rangeAt b 0 zs:=by
 intro j v hv
 rw[cell_of_row w b (0+j) _ t _ hb]
 simpa using hv
theorem flat_len (Q:List (Nat × List UInt8))(h:∀ q∈Q,q.2.length=64):(Q.flatMap zt9).length=Q.length*65:=by
 induction Q with
 | nil=>rfl
 | cons q r ih=>rw[List.flatMap_cons,List.length_append,ih (fun x hx=>h x (by simp[hx])),zwt (h q (by simp)),List.length_cons];omega
end
section
open Go.RowKit Go.Maps
theorem ze0 {P:Program} {w w':World} {ops:Array Oper} {rest:List Oper} {o:Oper} {a:Act} {Q:Exit→Act→World→Prop} (hgd:o.guard=none)(t:TypeId)(x y z:Operand)(ho:o.op=.mapUpdate t x y z)(m k v:Value)(hm:a.eval x=m)(hk:a.eval y=k)(hv:a.eval z=v)
  (hrun:(Instr.mapUpdate t m k v).run P w=.ok () w') (h:wpList P ops Q rest (a.put o.dst undef) w'):wpList P ops Q (o::rest) a w:=
 wpList_plain hgd fun _ hK=>by
  unfold Oper.wp execOp
  simp only[ho,hm,hk,hv,Sem.run_bind,hrun,Result.andThen_ok,Sem.run_pure]
  exact hK _ _ h
def DSt.fits (D:DSt) (i:Int) (b:List UInt8):Prop:=0≤i∧i<D.n∧b.length=64
instance (D:DSt) (i:Int) (b:List UInt8):Decidable (D.fits i b):=by unfold DSt.fits;infer_instance
def DSt.write (D:DSt) (i:Int) (b:List UInt8):DSt:=if D.down=true then D else if D.fits i b then (if D.left=0 then D.spent else { D.spent with Q:=D.Q++[(i.toNat,b)] }) else D
theorem DkAt.same {w w':World} {p lb mb n:Nat} {iv:Value} {D:DSt} (h:DkAt w p lb mb n iv D)(k:Keeps (fun _=>False) w w'):DkAt w' p lb mb n iv D:=by
 obtain⟨es,clock,hm⟩:=h.map.obj
 have lt:∀ {b:Nat} {o:Obj},w.heap[b]?=some o→w'.heap[b]?=w.heap[b]?:=fun e=>k.block _ (Array.getElem?_eq_some_iff.1 e).1 (fun h=>h)
 exact h.keep (lt h.head) (lt h.rows) (lt hm) (fun g hg=>k.block g (h.que.lt g hg).2 (fun h=>h))
end
end Go.Proofs.YtdopfpcjpjlkmaaGreatDoor
