/- merged -/
import Derived.Test.YtdopfpcjpjlkmaaGreatDoorInCheck
set_option maxHeartbeats 1000000
set_option maxRecDepth 20000
set_option linter.unusedSimpArgs false
set_option linter.unusedVariables false
namespace Go.Proofs.YtdopfpcjpjlkmaaGreatDoor
namespace Ino
open Go.RowKit Ex
def ag8 (xs:List UInt8):Value:=.agg (xs.map B8).toArray
def zr64:List UInt8:=List.replicate 64 0
theorem zb8:zr64.length=64:=by simp[zr64]
theorem zpu (w:World):(Instr.alloc 176 true (.tuple #[])).run Tryz.prog w=.ok (.pointer (some ⟨w.heap.size,0,none⟩)) (w.alloc (.cells (zr64.map B8).toArray 176)):=by kernel_rfl
theorem zt2:(Tryz.prog.info? 176).map (·.size)=some 64:=by kernel_rfl
theorem yf4 (xs:List UInt8):((xs.map B8).toArray).all (·.oneCell')=true:=all_oneCell_toArray (fun v hv=>by
 simp only[List.mem_map] at hv
 obtain⟨u,_,rfl⟩:=hv
 rfl)
theorem zz7 {w:World} {b o:Nat} {xs:List UInt8} (hl:xs.length=64)(h:w.rangeAt b o (xs.map B8)):
  (Instr.loadAt 176 (.pointer (some ⟨b,o,none⟩))).run Tryz.prog w=.ok (ag8 xs) w:=
 run_loadAt_mid w b o 176 (xs.map B8) _ h Tryz.underlying176 rfl (by rw[zt2,List.length_map,hl])
theorem zoo {w:World} {b o:Nat} {xs:List UInt8} (hl:xs.length=64)(h:w.there b o 64):
  (Instr.storeAt 176 (.pointer (some ⟨b,o,none⟩)) (ag8 xs)).run Tryz.prog w=.ok () (w.setCells b o (xs.map B8)):=by
 have:=run_storeAt_mid (P:=Tryz.prog) w b o 176 (xs.map B8).toArray (by simpa [hl] using h) (by rw[zt2];simp[hl]) (yf4 xs)
 simpa [ag8] using this
theorem yil (w:World)(u:UInt8):(Instr.build 176 #[(0,B8 u)]).run Tryz.prog w=.ok (ag8 (u::List.replicate 63 0)) w:=by kernel_rfl
theorem zvs (w:World):(Instr.build 176 #[]).run Tryz.prog w=.ok (ag8 zr64) w:=by kernel_rfl
theorem ze7 {w:World} {b:Nat} {zs ys:List UInt8} {t:TypeId} (o:Nat)(hb:w.heap[b]?=some (.cells (zs.map B8).toArray t (0,0)))(hfit:o+ys.length≤zs.length):
  (w.setCells b o (ys.map B8)).heap[b]?=some (.cells ((splice zs o ys).map B8).toArray t (0,0))∧Keeps (·=b) w (w.setCells b o (ys.map B8)):=by
 induction ys generalizing w zs o with
 | nil=>exact⟨by simpa [World.setCells,splice] using hb,Keeps.refl _ _⟩
 | cons y r ih =>
  simp only[List.map_cons,World.setCells]
  have h1:(w.setCell ⟨b,o,none⟩ (B8 y)).heap[b]?=some (.cells ((zs.set o y).map B8).toArray t (0,0)):=by
   rw[heap_setCell_same w b o _ t _ hb]
   simp[List.map_set]
  simp only[List.length_cons] at hfit
  obtain⟨h2,h3⟩:=ih (o+1) h1 (by rw[List.length_set];omega)
  refine⟨?_,(Keeps.setCell (·=b) _ _ _ rfl).trans h3⟩
  rw[h2]
  have e:splice (zs.set o y) (o+1) r=splice zs o (y::r):=by
   unfold splice
   rw[List.take_set,List.drop_set_of_lt (by omega)]
   have:(zs.take (o+1)).set o y=zs.take o++[y]:=by
    rw[List.take_succ_eq_append_getElem (by omega),List.set_append_right _ _ (by simp;omega)]
    simp[show o-min o zs.length=0 from by omega]
   rw[this]
   simp[Nat.add_assoc,Nat.add_comm 1]
  rw[e]
theorem zh5 {w:World} {b:Nat} {zs:List UInt8} {t:TypeId} {fr:Nat × Nat} (hb:w.heap[b]?=some (.cells (zs.map B8).toArray t fr)):w.rangeAt b 0 (zs.map B8):=by
 intro j v hv
 rw[cell_of_row w b (0+j) _ t _ hb]
 simpa using hv
theorem zh6 {w:World} {b:Nat} {zs:List UInt8} {t:TypeId} (hb:w.heap[b]?=some (.cells (zs.map B8).toArray t (0,0)))(o n:Nat)(h:o+n≤zs.length):w.there b o n:=by
 intro j hj
 refine⟨?_,frozen_of_row w b _ _ t hb⟩
 rw[cell_of_row w b (o+j) _ t _ hb]
 simp
 omega
theorem zfh (xs ys:List UInt8)(h:xs.length=ys.length):splice xs 0 ys=ys:=by
 unfold splice;simp[h]
theorem ybk {P:Program} {w w':World} {o:Oper} {ρ:Operand→Value} (t:TypeId)(x:Operand)(ho:o.op=.build t #[(0,x)])(y v:Value)(hy:ρ x=y)(hrun:(Instr.build t #[(0,y)]).run P w=.ok v w'):(execOp ρ o).run P w=.ok (.value v) w':=by
 unfold execOp
 simp only[ho,Sem.run_bind,List.map_toArray,List.map_cons,List.map_nil,hy,hrun,Result.andThen_ok,Sem.run_pure]
theorem zc0 {P:Program} {ops:Array Oper} {Q':Exit→Act→World→Prop} {K:Act→World→Prop} {m:Nat} {om:Oper} {a:Act} {w w':World} (hm:ops[m]?=some om)(hw:Region.wanted om (yielded ops a.tmps)=true)(hrun:(execOp a.eval om).run P w=.ok .skip w')(h:K (a.put om.dst undef) w'):wpOp P ops Q' m K a w:=by
 unfold wpOp
 simp only[hm,hw,if_true]
 left
 unfold Oper.wp
 rw[hrun]
 exact h
theorem zgt {P:Program} {md:Region.Mode} {ops:Array Oper} {Q:Exit→Act→World→Prop} {S:World→Prop} {f:Nat} {listed:Array Bool} {a:Act} {w w':World} (i p q j:Nat)(oi op oq oj:Oper)
  (hi:ops[i]?=some oi) (hp:ops[p]?=some op) (hq:ops[q]?=some oq) (hj:ops[j]?=some oj)
  (hB:(decide (Region.ready md ops listed=[i,j]) && decide (Region.ready md ops (listed.setIfInBounds j true)=[i]) && Region.free md ops (listed.setIfInBounds i true) p && (Region.ready md ops (listed.setIfInBounds i true)).contains p &&
   Region.free md ops ((listed.setIfInBounds i true).setIfInBounds p true) q && (Region.ready md ops ((listed.setIfInBounds i true).setIfInBounds p true)).contains q && decide (Region.ready md ops (((listed.setIfInBounds i true).setIfInBounds p true).setIfInBounds q true)=[j]) &&
   Region.free md ops ((listed.setIfInBounds j true).setIfInBounds i true) p && (Region.ready md ops ((listed.setIfInBounds j true).setIfInBounds i true)).contains p &&
   Region.free md ops (((listed.setIfInBounds j true).setIfInBounds i true).setIfInBounds p true) q && (Region.ready md ops (((listed.setIfInBounds j true).setIfInBounds i true).setIfInBounds p true)).contains q &&
   oi.apart ops oj && op.apart ops oj && oq.apart ops oj && Region.noSelect ops && i != j && p != j && q != j)=true)
  (fn:FuncId) (args:Array Value) (u vp vq v:Value) (hwi:Region.wanted oi (yielded ops a.tmps)=true) (hwj:Region.wanted oj (yielded ops a.tmps)=true)
  (hri:∀ W,(execOp a.eval oi).run P W=.ok (.enter fn args) W) (hc:∀ W,S W→Calls P fn args W fun e W'=>e=.returned u∧W'=W)
  (hyp:YieldsIf P ops S op vp (a.put oi.dst u)) (hyq:YieldsIf P ops S oq vq ((a.put oi.dst u).put op.dst vp))
  (hrj:(execOp a.eval oj).run P w=.ok (.value v) w') (hS:S w) (hS':S w')
  (hQp:∀ c a w,Q (.panic c) (a.put op.dst vp) w→Q (.panic c) a w) (hQq:∀ c a w,Q (.panic c) (a.put oq.dst vq) w→Q (.panic c) a w)
  (h:wpAnyH P md ops Q S f ((((listed.setIfInBounds i true).setIfInBounds p true).setIfInBounds q true).setIfInBounds j true) ((((a.put oi.dst u).put op.dst vp).put oq.dst vq).put oj.dst v) w'):wpAnyH P md ops Q S (f+1+1+1+1) listed a w:=by
 simp only[Bool.and_eq_true,decide_eq_true_eq,bne_iff_ne,ne_eq] at hB
 obtain⟨⟨⟨⟨⟨⟨⟨⟨⟨⟨⟨⟨⟨⟨⟨⟨⟨r0,r2⟩,f1⟩,c1⟩,f2⟩,c2⟩,r3⟩,f4⟩,c4⟩,f5⟩,c5⟩,api⟩,app⟩,apq⟩,hs⟩,nij⟩,npj⟩,nqj⟩:=hB
 obtain⟨i1,i2,i3⟩:=Oper.apart_spec api
 obtain⟨p1,p2,p3⟩:=Oper.apart_spec app
 obtain⟨q1,q2,q3⟩:=Oper.apart_spec apq
 have sel:∀ (k:Nat) (o:Oper),ops[k]?=some o→∀ cs b,o.op≠.select cs b:=fun k o hk cs b=>Region.noSelect_spec hs k o cs b hk
 refine wpAnyH_all r0 (by simp) fun m hm=>?_
 simp only[List.mem_cons,List.not_mem_nil,or_false] at hm
 rcases hm with rfl | rfl
 ·refine zbf hi hwi (hri w) (R:=fun x W=>x=u∧W=w) ((hc w hS).mono fun e W ⟨he,hw⟩=>⟨u,he,rfl,hw⟩) _ _ rfl rfl ?_
  rintro _ _ ⟨rfl,rfl⟩
  refine⟨hS,?_⟩
  refine wpAnyH_take hp hs f1 c1 hQp hyp hS ?_
  refine wpAnyH_take hq hs f2 c2 hQq hyq hS ?_
  refine wpAnyH_all r3 (by simp) fun m hm=>?_
  obtain rfl:m=j:=by simpa using hm
  refine zi3 (u:=v) (w':=w') hj ?_ ?_ _ _ rfl rfl ?_
  ·rw[wanted_put oj _ oq.dst vq q1,wanted_put oj _ op.dst vp p1,wanted_put oj _ oi.dst _ i1];exact hwj
  ·rw[execOp_put oj (sel _ _ hj) _ oq.dst vq q1,execOp_put oj (sel _ _ hj) _ op.dst vp p1,execOp_put oj (sel _ _ hj) _ oi.dst _ i1];exact hrj
  rintro _ _ ⟨rfl,rfl⟩
  exact⟨hS',h⟩
 ·refine zi3 hj hwj hrj _ _ rfl rfl ?_
  rintro _ _ ⟨rfl,rfl⟩
  refine⟨hS',?_⟩
  refine wpAnyH_all r2 (by simp) fun k hm=>?_
  obtain rfl:k=i:=by simpa using hm
  refine zbf hi ((wanted_put oi a oj.dst _ i3).trans hwi) (by rw[execOp_put oi (sel _ _ hi) a oj.dst _ i3];exact hri _) (R:=fun x W=>x=u∧W=_) ((hc _ hS').mono fun e W ⟨he,hw⟩=>⟨u,he,rfl,hw⟩) _ _ rfl rfl ?_
  rintro _ _ ⟨rfl,rfl⟩
  refine⟨hS',?_⟩
  rw[← Act.put_comm a _ _ i2]
  refine wpAnyH_take hp hs f4 c4 hQp (hyp.of_same (execOp_put op (sel _ _ hp) _ oj.dst _ p3) (wanted_put op _ oj.dst _ p3)) hS' ?_
  rw[← Act.put_comm _ _ _ p2]
  refine wpAnyH_take hq hs f5 c5 hQq (hyq.of_same (execOp_put oq (sel _ _ hq) _ oj.dst _ q3) (wanted_put oq _ oj.dst _ q3)) hS' ?_
  rw[← Act.put_comm _ _ _ q2]
  rw[Array.setIfInBounds_comm _ _ nqj,Array.setIfInBounds_comm _ _ npj,Array.setIfInBounds_comm _ _ nij] at h
  exact h
theorem zn8 {P:Program} {w w':World} {o:Oper} {ρ:Operand→Value} (s x:Operand)(t t':TypeId)(ho:o.op=.call { callee:=.builtin .append,args:=#[s,x],argTypes:=#[t,t'] })(v:Value)
  (hrun:(Builtin.append_ #[t,t'] o.type #[ρ s,ρ x]).run P w=.ok v w'):(execOp ρ o).run P w=.ok (.value v) w':=by
 unfold execOp
 simp only[ho,resolve,invoke,builtin,Sem.run_bind,Sem.run_pure,Result.andThen_ok,List.map_toArray,List.map_cons,List.map_nil,hrun]
theorem zgz {P:Program} (w:World)(dT sT ty elem:TypeId)(hu:P.underlying dT=some (.slice elem))(hsz:(P.info? elem).map (·.size)=some 1)
  (b o dLen dCap:Nat) (xs:List UInt8) (hle:xs.length≤dLen) (h:w.there b o xs.length):
  (Builtin.copy_ #[dT,sT] ty #[.slice (some ⟨b,o,none⟩) dLen dCap,St xs]).run P w=.ok (goInt xs.length) (w.setCells b o (xs.map B8)):=by
 have hst:=run_storeCells_cells (P:=P) b o (xs.map B8) 0 w (by simpa using fun j hj=>(h j hj).1) (by simpa using fun j hj=>(h j hj).2) (by
  intro v hv
  simp only[List.mem_map] at hv
  obtain⟨u,_,rfl⟩:=hv
  rfl)
 have e1:min xs.length dLen=xs.length:=Nat.min_eq_left hle
 cases hq:P.info? elem with
 | none=>simp[hq] at hsz
 | some i =>
  have hi:i.size=1:=by simpa [hq] using hsz
  simp only[Builtin.copy_]
  simp[run_underlying hu,Builtin.lenOf,Builtin.firstCells,sizeOf,typeInfo,hq,hi,zh7,e1]
  rw[List.take_of_length_le (by simp)]
  exact(congrArg (fun r=>r.andThen fun _ w'=>Result.ok (goInt xs.length) w') hst).trans rfl
end Ino
namespace Ino
open Go.RowKit Ex
def zsr (x:IN):List UInt8:=UInt8.ofNat x.name.length::List.replicate 63 0
def yf9 (x:IN):List UInt8:=splice (zsr x) 1 x.name
def two (n:Nat):List UInt8:=[zga n 0,zga n 1]
def yi0 (x:IN):List UInt8:=splice (yf9 x) 16 (two x.size.toNat)
theorem splice_get (xs ys:List UInt8)(o i:Nat)(h:o+ys.length≤xs.length):(splice xs o ys).getD i 0=if o≤i∧i<o+ys.length then ys.getD (i-o) 0 else xs.getD i 0:=by
 unfold splice
 rw[List.getD_eq_getElem?_getD,List.getD_eq_getElem?_getD,List.getD_eq_getElem?_getD,List.getElem?_append,List.getElem?_append]
 simp only[List.length_take,List.getElem?_take,List.getElem?_drop]
 by_cases h1:i<o
 ·rw[zp (by omega),zp h1,zn (by omega)]
 ·rw[zn (by omega)]
  by_cases h2:i<o+ys.length
  ·rw[zp (by omega),zp (by omega),show i-min o xs.length=i-o by omega]
  ·rw[zn (by omega),zn (by omega),show o+ys.length+(i-min o xs.length-ys.length)=i by omega]
theorem zct (xs ys:List UInt8)(o:Nat)(h:o+ys.length≤xs.length):(splice xs o ys).length=xs.length:=by
 unfold splice
 simp
 omega
theorem zdt (x:IN):(zsr x).length=64:=by simp[zsr]
theorem zd4 (x:IN)(h:x.name.length≤15):(yf9 x).length=64:=by
 unfold yf9
 rw[zct _ _ _ (by rw[zdt];omega),zdt]
theorem zux (x:IN)(h:x.name.length≤15):(yi0 x).length=64:=by
 unfold yi0
 rw[zct _ _ _ (by rw[zd4 x h];simp[two]),zd4 x h]
theorem zo7 (x:IN)(h:x.name.length≤15):yi0 x=zdr { x with ext:=[] }:=by
 refine yac (zux x h) (zay _) fun i hi=>?_
 rw[zeo _ _ hi]
 unfold yi0
 rw[splice_get _ _ _ _ (by rw[zd4 x h];simp[two])]
 unfold yf9
 rw[splice_get _ _ _ _ (by rw[zdt];omega)]
 unfold zvl
 have e2:(two x.size.toNat).length=2:=rfl
 rw[e2]
 have er:∀ j,(List.replicate 63 (0:UInt8)).getD j 0=0:=by
  intro j
  rw[List.getD_eq_getElem?_getD,List.getElem?_replicate]
  split<;>rfl
 by_cases h0:i=0
 ·subst h0
  rw[zn (by omega),zn (by omega),zp rfl]
  rfl
 rw[zn h0]
 obtain⟨j,rfl⟩:∃ j,i=j+1:=⟨i-1,by omega⟩
 have el:(zsr x).getD (j+1) 0=0:=by unfold zsr;rw[List.getD_cons_succ,er]
 by_cases h1:j+1<16
 ·rw[zn (by omega),zp h1,el]
  split
  ·rfl
  ·rw[List.getD_eq_getElem?_getD,List.getElem?_eq_none (show x.name.length≤j+1-1 by omega)];rfl
 rw[zn h1]
 by_cases h2:j+1<18
 ·rw[zp (by omega),zp h2]
  have:j+1=16∨j+1=17:=by omega
  rcases this with e | e<;>rw[e]<;>rfl
 ·rw[zn (by omega),zn (by omega),zn h2,el]
  unfold extF
  split<;>rfl
def ycj (w:World) (x:IN) (wr:World) (i:Value):Prop:=∃ k:Nat,i=.int .i64 (k:Int)∧k≤x.ext.length∧wr.heap[w.heap.size+1+1]?=some (.cells ((zdr { x with ext:=x.ext.take k }).map B8).toArray 176 (0,0))∧wr.heap[w.heap.size+1]?=some (.cells (zr64.map B8).toArray 176 (0,0))∧w.heap.size+3≤wr.heap.size∧Below w.heap.size w wr
theorem zuz (x:IN)(A:Option Addr)(c:Nat)(w:World)(hx:InOk w x A)(hc:zd6 x=true):
  Calls Tryz.prog 152 #[ag x A c] w (zcx w (ag8 (zdr x))):=by
 obtain⟨⟨hn1,hn2⟩,_,⟨hs1,hs2⟩,hok,_⟩:=zck hc
 have hcv:IntKind.u8.wrap (x.name.length:Int)=((UInt8.ofNat x.name.length).toNat:Int):=by
  rw[UInt8.toNat_ofNat']
  simp[IntKind.wrap,IntKind.bits,IntKind.signed]
 obtain⟨wA,hwA⟩:∃ wA,wA=w.alloc (.cells #[St x.name,.int .i64 x.size,.slice A x.ext.length c] 113):=⟨_,rfl⟩
 have a0:wA.heap[w.heap.size]?=some (.cells #[St x.name,.int .i64 x.size,.slice A x.ext.length c] 113 (0,0)):=by rw[hwA];exact heap_alloc_new w _
 have bA:Below w.heap.size w wA:=by rw[hwA];exact(Below.refl _ _).alloc (Nat.le_refl _) _
 have sA:wA.heap.size=w.heap.size+1:=by rw[hwA,World.size_alloc]
 obtain⟨wB,hwB⟩:∃ wB,wB=wA.alloc (.cells (zr64.map B8).toArray 176):=⟨_,rfl⟩
 have b0:wB.heap[w.heap.size]?=some (.cells #[St x.name,.int .i64 x.size,.slice A x.ext.length c] 113 (0,0)):=by rw[hwB];exact(Below.heap_alloc _ _ _ (by omega)).trans a0
 have b1:wB.heap[w.heap.size+1]?=some (.cells (zr64.map B8).toArray 176 (0,0)):=by rw[hwB,← sA];exact heap_alloc_new wA _
 have bB:Below w.heap.size w wB:=by rw[hwB];exact bA.alloc bA.size _
 have sB:wB.heap.size=w.heap.size+1+1:=by rw[hwB,World.size_alloc,sA]
 obtain⟨wC,hwC⟩:∃ wC,wC=wB.alloc (.cells (zr64.map B8).toArray 176):=⟨_,rfl⟩
 have c0:wC.heap[w.heap.size]?=some (.cells #[St x.name,.int .i64 x.size,.slice A x.ext.length c] 113 (0,0)):=by rw[hwC];exact(Below.heap_alloc _ _ _ (by omega)).trans b0
 have c1:wC.heap[w.heap.size+1]?=some (.cells (zr64.map B8).toArray 176 (0,0)):=by rw[hwC];exact(Below.heap_alloc _ _ _ (by omega)).trans b1
 have c2:wC.heap[w.heap.size+1+1]?=some (.cells (zr64.map B8).toArray 176 (0,0)):=by rw[hwC,← sB];exact heap_alloc_new wB _
 have bC:Below w.heap.size w wC:=by rw[hwC];exact bB.alloc bB.size _
 have sC:wC.heap.size=w.heap.size+3:=by rw[hwC,World.size_alloc,sB]
 have st:=zoo (w:=wC) (b:=w.heap.size+1+1) (o:=0) (xs:=zsr x) (zdt x) (zh6 c2 0 64 (by rw[zb8];omega))
 obtain⟨d2,kd⟩:=ze7 (ys:=zsr x) 0 c2 (by rw[zb8,zdt];omega)
 rw[zfh _ _ (by rw[zb8,zdt])] at d2
 generalize wC.setCells (w.heap.size+1+1) 0 ((zsr x).map B8)=w3 at st d2 kd
 have d0:=(kd.block _ (by omega) (by omega)).trans c0
 have d1:=(kd.block _ (by omega) (by omega)).trans c1
 have bD:Below w.heap.size w w3:=bC.trans (kd.toBelow _ (by omega) (by intro k hk;omega))
 have sD:w.heap.size+3≤w3.heap.size:=by rw[← sC];exact kd.size
 have hbu:∀ W,(Instr.build 176 #[(0,B8 (UInt8.ofNat x.name.length))]).run Tryz.prog W=.ok (ag8 (zsr x)) W:=fun W=>yil W _
 have al2:=zpu wA
 have al3:=zpu wB
 rw[sA] at al2
 rw[sB] at al3
 rw[hwC,hwB,hwA] at st
 rw[hwB,hwA] at al3
 rw[hwA] at al2
 have AL2:=zq al2
 have AL3:=zq al3
 have e8:∀ W:World,IntKind.u8.wrap (x.name.length:Int)=((UInt8.ofNat x.name.length).toNat:Int):=fun _=>hcv
 have ST:=zq st
 have BU:=zq hbu
 have LX:=zq hx
 have BD:=zq bD
 have D0:=zq d0
 have D1:=zq d1
 have D2:=zq d2
 have hxe:x.ext.length≤23:=zkm hok
 have HOK:=zq hok
 clear al2 al3 hx hc hwA hwB hwC a0 bA sA b0 b1 bB sB c0 c1 c2 bC sC st kd d0 d1 d2 bD hbu hok e8
 go_enter Tryz.func152,Tryz.ntmps152
 go_wp2_with (first
  | ((with_reducible refine at_ (op:=.alloc 176) (d:=some 2) ?_);refine zaj rfl _ (zjd 176 rfl _ AL2.out) ?_)
  | ((with_reducible refine at_ (op:=.build 176 #[(0,.tmp 10)]) ?_);refine zaj rfl _ (ybk 176 (.tmp 10) rfl _ _ rfl (BU.out _)) ?_)
  | ((with_reducible refine at_ (op:=.alloc 176) (d:=some 3) ?_);refine zaj rfl _ (zjd 176 rfl _ AL3.out) ?_)
  | ((with_reducible refine at_ (op:=.store 176 (.tmp 3) (.tmp 11)) ?_);refine zat rfl (zbb 176 (.tmp 3) (.tmp 11) rfl _ _ rfl rfl ST.out) ?_)
  | fail)
 simp only[Act.put,sqX]
 refine wp_region_still_tail 3 (by kernel_rfl) (by kernel_rfl) ?_
 simp only[List.take_succ_cons,List.take_zero,List.drop_succ_cons,List.drop_zero]
 change wpStill _ _ w3.drew (fun a'=>wpList _ _ _ _ a' w3.drew) _ _
 have e0:w3.drew.heap[w.heap.size]?=_:=D0.out
 have e2:w3.drew.heap[w.heap.size+1+1]?=_:=D2.out
 have e1:w3.drew.heap[w.heap.size+1]?=_:=D1.out
 have be:Below w.heap.size w w3.drew:=BD.out.drew
 have se:w.heap.size+3≤w3.drew.heap.size:=sD
 generalize w3.drew=w4 at *
 have q0:w4.cell? ⟨w.heap.size,0,none⟩=some (St x.name):=by rw[cell_of_row _ _ _ _ _ _ e0];rfl
 have cp:=zgz (P:=Tryz.prog) w4 31 9 3 5 Tryz.underlying31 (by kernel_rfl) (w.heap.size+1+1) 1 15 63 x.name hn2 (zh6 e2 1 x.name.length (by rw[zdt];omega))
 obtain⟨f2,kf⟩:=ze7 (ys:=x.name) 1 e2 (by rw[zdt];omega)
 generalize w4.setCells (w.heap.size+1+1) 1 (x.name.map B8)=w5 at cp f2 kf
 have f0:=(kf.block _ (by omega) (by omega)).trans e0
 have f1:=(kf.block _ (by omega) (by omega)).trans e1
 have bf:=be.trans (kf.toBelow _ (by omega) (by intro k hk;omega))
 have sf:w.heap.size+3≤w5.heap.size:=by have:=kf.size;omega
 have CP:=zq cp
 have F0:=zq f0
 have F1:=zq f1
 have F2:=zq f2
 have BF:=zq bf
 clear cp f0 f1 f2 bf kf e0 e1 e2 be se D0 D1 D2 BD ST AL2 AL3 BU
 still_step
 still_step
 still_step
 refine wpStill_nil ?_
 have cp:=CP.out
 clear CP
 go_wp2_with fail
 clear cp
 refine wp_region_held (S:=fun W=>Below (w.heap.size+1+1) w5 W) (by kernel_rfl) ?_
 change wpAnyH _ _ _ _ _ _ _ _ w5.drew
 have hS:Below (w.heap.size+1+1) w5 w5.drew:=(Below.refl _ _).drew
 have p0:w5.cell? ⟨w.heap.size,1,none⟩=some (.int .i64 x.size):=by rw[cell_of_row _ _ _ _ _ _ F0.out];rfl
 have h3:w.heap.size<w.heap.size+1+1:=by omega
 have hwr:IntKind.u64.wrap x.size=max x.size 0:=by simp[IntKind.wrap,IntKind.bits,IntKind.signed];omega
 have s6:w.heap.size+3≤w5.drew.heap.size:=sf
 have G6:Hid (w5.drew.heap[w.heap.size+1+1]?=_):=zq F2.out
 generalize w5.drew=w6 at *
 refine sqH 0 (.slice (some ⟨w.heap.size+1+1,16,none⟩) 2 48) rfl (Or.inl ⟨by rfl,fun _ _=>by go_simp⟩) hS ?_
 try simp only[Act.put,sqX]
 refine sqH 2 (.pointer (some ⟨w.heap.size,1,none⟩)) rfl (Or.inl ⟨by rfl,fun _ _=>by go_simp⟩) hS ?_
 try simp only[Act.put,sqX]
 refine sqH 3 (.int .i64 x.size) rfl (zai rfl 3 (.tmp 18) rfl _ _ rfl fun w h=>zal zdm ((Below.cell (p:=⟨_,1,none⟩) h h3).trans p0)) hS ?_
 try simp only[Act.put,sqX]
 refine sqH 4 (.int .u64 (x.size.toNat:Nat)) rfl (Or.inl ⟨by rfl,fun _ _=>by go_simp⟩) hS ?_
 try simp only[Act.put,sqX]
 refine wpAnyH_all (rs:=[1]) (by kernel_rfl) (by simp) fun i hi=>?_
 obtain rfl:i=1:=by simpa using hi
 have hmk:(Instr.makeSlice 31 (.int .i64 2) (.int .i64 2)).run Tryz.prog w6=.ok (.slice (some ⟨w6.heap.size,0,none⟩) 2 2) (w6.alloc (.cells (madeCells #[.int .u8 0] 2) 5)):=zfq 2 (by decide) w6
 refine zi3 (om:=⟨_,_,_,_,_,_⟩) (u:=.slice (some ⟨w6.heap.size,0,none⟩) 2 2) (w':=w6.alloc (.cells (madeCells #[.int .u8 0] 2) 5)) rfl rfl (by go_simp) _ _ rfl rfl ?_
 rintro u W7 ⟨rfl,rfl⟩
 have r7:=Row8.made w6 2 5
 have hS7:Below (w.heap.size+1+1) w5 (w6.alloc (.cells (madeCells #[.int .u8 0] 2) 5)):=hS.alloc (by omega) _
 have G7:Hid ((w6.alloc (.cells (madeCells #[.int .u8 0] 2) 5)).heap[w.heap.size+1+1]?=_):=zq ((Below.heap_alloc _ _ _ (by omega)).trans G6.out)
 have hz7:w6.heap.size<(w6.alloc (.cells (madeCells #[.int .u8 0] 2) 5)).heap.size:=by rw[World.size_alloc];omega
 clear hmk hS hi G6
 generalize w6.alloc (.cells (madeCells #[.int .u8 0] 2) 5)=w7 at *
 have hS:Below (w.heap.size+1+1) w5 w7:=hS7
 refine⟨hS,?_⟩
 try simp only[Act.put,sqX]
 have hpn:=zq0 (some ⟨w6.heap.size,0,none⟩) (List.replicate 2 0) 2 0 2 x.size.toNat w7 r7.br (by decide) (by decide)
 rw[show zfk (List.replicate 2 0) 0 x.size.toNat (zds 2 8).toNat=two x.size.toNat from rfl] at hpn
 refine wpAnyH_all (rs:=[5]) (by kernel_rfl) (by simp) fun i hi=>?_
 obtain rfl:i=5:=by simpa using hi
 refine zbf (om:=⟨_,_,_,_,_,_⟩) (fn:=108) (args:=#[.slice (some ⟨w6.heap.size,0,none⟩) 2 2,.int .i64 0,.int .i64 2,.int .u64 (x.size.toNat:Nat)]) (R:=fun u W=>∃ R c2,u=.slice R 2 c2∧BR W W.heap.size R (two x.size.toNat)∧Below w7.heap.size w7 W) rfl rfl (by go_simp)
  (hpn.mono fun e W ⟨R,c2,he,hr,hb⟩=>⟨_,he,R,c2,rfl,hr,hb⟩) _ _ rfl rfl ?_
 rintro u w8 ⟨R,c2,rfl,hr8,hb8⟩
 have hS:Below (w.heap.size+1+1) w5 w8:=Below.trans hS (hb8.mono (by omega))
 have s8:w.heap.size+3≤w8.heap.size:=by have:=hb8.size;omega
 have G8:=zq ((hb8.block _ (by omega)).trans G7.out)
 clear hb8 hi hpn r7 hS7 hz7 G7
 refine⟨hS,?_⟩
 try simp only[Act.put,sqX]
 refine wpAnyH_all (rs:=[6]) (by kernel_rfl) (by simp) fun i hi=>?_
 obtain rfl:i=6:=by simpa using hi
 obtain⟨w9,cp,r9,k9⟩:=zlw (P:=Tryz.prog) w8 31 31 3 5 176 Tryz.underlying31 (by kernel_rfl) (w.heap.size+1+1) 16 2 48 (some ⟨w.heap.size+1+1,16,none⟩) (yf9 x) (two x.size.toNat) R c2 _ (fun _=>rfl) (Row8.of_block G8.out) hr8 (Nat.le_refl 2) (by rw[zd4 x hn2];show 16+2≤64;decide)
 have cp':(Builtin.copy_ #[31,31] 3 #[.slice (some ⟨w.heap.size+1+1,16,none⟩) 2 48,.slice R 2 c2]).run Tryz.prog w8=.ok (.int .i64 2) w9:=cp
 have g9:=r9.block
 refine zi3 (om:=⟨_,_,_,_,_,_⟩) (u:=.int .i64 2) (w':=w9) rfl rfl (by go_simp) _ _ rfl rfl ?_
 rintro u W9 ⟨rfl,rfl⟩
 have hS:Below (w.heap.size+1+1) w5 W9:=hS.trans ⟨k9.os,k9.tape,k9.output,k9.size,fun k hk=>k9.block k (by omega) (fun e=>by injection e with e;omega)⟩
 have s9:w.heap.size+3≤W9.heap.size:=by have:=k9.size;omega
 clear cp cp' hi
 refine⟨hS,?_⟩
 try simp only[Act.put,sqX]
 refine wpAnyH_done (by kernel_rfl) ?_ _
 try simp only[Act.put,sqX]
 have g9':W9.heap[w.heap.size+1+1]?=some (.cells ((zdr { x with ext:=[] }).map B8).toArray 176 (0,0)):=by
  rw[← zo7 x hn2];exact g9
 have f9:=(hS.block _ (by omega)).trans F0.out
 have f9':=(hS.block _ (by omega)).trans F1.out
 have b9:=BF.out.trans (hS.mono (by omega))
 have q2:W9.cell? ⟨w.heap.size,2,none⟩=some (.slice A x.ext.length c):=by rw[cell_of_row _ _ _ _ _ _ f9];rfl
 have XR0:=zq (LX.out.xr.below b9)
 have B9:=zq b9
 have G9:=zq g9'
 have H9:=zq f9'
 clear g9 g9' r9 k9 G8 F0 F1 F2 BF hS f9 f9' b9 p0 hr8
 go_wp2_with fail
 go_loopw [26,4,5,6] (fun i _ _ _ wr=>ycj w x wr i) (fun i _ _ _ _=>x.ext.length-(RowKit.intOf i).toNat)
 case atStart=>exact⟨0,rfl,by omega,by rw[List.take_zero];exact G9.out,H9.out,s9,B9.out⟩
 case round =>
  obtain⟨k,rfl,hk,hg2,hg1,hsz,hb⟩:=hrel
  by_cases hlt:k<x.ext.length
  ·obtain⟨ad,rfl,hlb,d0,d1,hxo⟩:=(LX.out.xr.below hb).at_ hlt
   have hen:=zpo { x with ext:=x.ext.take k } k x.ext[k] (x.ext.take k) (by omega) (by simp;omega) rfl
   have hsm:=zi4 HOK.out _ (List.getElem_mem hlt)
   have htk:x.ext.take k++[x.ext[k]]=x.ext.take (k+1):=(List.take_succ_eq_append_getElem hlt).symm
   rw[htk] at hen
   generalize x.ext[k]=e at *
   obtain⟨es,en⟩:=e
   simp only at d0 d1 hsm hen
   have b1:=hb.alloc (by omega) (.cells #[.int .i64 es,.int .i64 en] 152)
   have g1:=(Below.heap_alloc wr (.cells #[.int .i64 es,.int .i64 en] 152) (w.heap.size+1) (by omega)).trans hg1
   have g2:=(Below.heap_alloc wr (.cells #[.int .i64 es,.int .i64 en] 152) (w.heap.size+1+1) (by omega)).trans hg2
   have hat:(wr.alloc (.cells #[.int .i64 es,.int .i64 en] 152)).heap[wr.heap.size]?=some (.cells #[.int .i64 es,.int .i64 en] 152 (0,0)):=heap_alloc_new wr _
   have hs1:w.heap.size+3≤(wr.alloc (.cells #[.int .i64 es,.int .i64 en] 152)).heap.size:=by rw[World.size_alloc];omega
   have HS1:=zq hs1
   have HB1:=zq b1
   have HG1:=zq g1
   have HG2:=zq g2
   have HAT:=zq hat
   have HEN:=zq hen
   have HTK:=zq htk
   clear b1 g1 g2 hat hen htk hg2 hg1 hb hs1 G9 H9 XR0 B9
   have ew1:IntKind.i64.wrap ((k:Int)*2)=(k:Int)*2:=by rw[IntKind.wrap_i64];omega
   obtain⟨K,hK⟩:∃ K:Nat,K=18+2*k:=⟨_,rfl⟩
   have ew2:IntKind.i64.wrap (18+(k:Int)*2)=(K:Int):=by rw[IntKind.wrap_i64];omega
   have ew3:IntKind.i64.wrap ((K:Int)+1)=((K+1:Nat):Int):=by rw[IntKind.wrap_i64];omega
   have ex1:IntKind.u8.wrap es=((u8 es).toNat:Int):=by rw[zki (by omega)];simp[IntKind.wrap,IntKind.bits,IntKind.signed];omega
   have ex2:IntKind.u8.wrap en=((u8 en).toNat:Int):=by rw[zki (by omega)];simp[IntKind.wrap,IntKind.bits,IntKind.signed];omega
   have hK1:(K:Int)<64:=by omega
   have hK2:((K+1:Nat):Int)<64:=by omega
   have HK:=zq hK
   clear hK
   go_wp2_with fail
   have hne:wr.heap.size≠w.heap.size+1+1:=by omega
   have p0:(wr.alloc (.cells #[.int .i64 es,.int .i64 en] 152)).drew.cell? ⟨wr.heap.size,0,none⟩=some (.int .i64 es):=by rw[cell_of_row _ _ _ _ _ _ (show(wr.alloc (.cells #[.int .i64 es,.int .i64 en] 152)).drew.heap[wr.heap.size]?=_ from HAT.out)];rfl
   have p1:(wr.alloc (.cells #[.int .i64 es,.int .i64 en] 152)).drew.cell? ⟨wr.heap.size,1,none⟩=some (.int .i64 en):=by rw[cell_of_row _ _ _ _ _ _ (show(wr.alloc (.cells #[.int .i64 es,.int .i64 en] 152)).drew.heap[wr.heap.size]?=_ from HAT.out)];rfl
   have HZ2:Hid ((wr.alloc (.cells #[.int .i64 es,.int .i64 en] 152)).drew.heap[w.heap.size+1+1]?=_):=zq HG2.out
   have HZ1:Hid ((wr.alloc (.cells #[.int .i64 es,.int .i64 en] 152)).drew.heap[w.heap.size+1]?=_):=zq HG1.out
   have HZB:=zq HB1.out.drew
   have HZS:Hid (w.heap.size+3≤(wr.alloc (.cells #[.int .i64 es,.int .i64 en] 152)).drew.heap.size):=zq HS1.out
   clear HAT HG1 HG2 HB1 HS1 d0 d1
   refine wp_region_held (S:=fun W=>W.cell? ⟨wr.heap.size,0,none⟩=some (.int .i64 es)∧W.cell? ⟨wr.heap.size,1,none⟩=some (.int .i64 en)) (by kernel_rfl) ?_
   change wpAnyH _ _ _ _ _ _ _ _ (wr.alloc (.cells #[.int .i64 es,.int .i64 en] 152)).drew
   generalize (wr.alloc (.cells #[.int .i64 es,.int .i64 en] 152)).drew=w2 at *
   have hS:=And.intro p0 p1
   have hK:=HK.out
   have hen':=HEN.out
   rw[show 19+2*k=K+1 by omega,show 18+2*k=K by omega] at hen'
   have HEN2:=zq hen'
   clear hK hen' HEN
   refine sqH 0 (.int .i64 (K:Int)) rfl (Or.inl ⟨by rfl,fun _ _=>rfl⟩) hS ?_
   try simp only[Act.put,sqX]
   refine sqH 1 (.int .i64 (K:Int)) rfl (Or.inl ⟨by rfl,fun _ _=>rfl⟩) hS ?_
   try simp only[Act.put,sqX]
   refine sqH 2 (.int .i64 ((K+1:Nat):Int)) rfl (Or.inl ⟨by rfl,fun _ _=>by go_simp⟩) hS ?_
   try simp only[Act.put,sqX]
   refine sqH 3 (.pointer (some ⟨wr.heap.size,0,none⟩)) rfl (Or.inl ⟨by rfl,fun _ _=>by go_simp⟩) hS ?_
   try simp only[Act.put,sqX]
   refine sqH 4 (.int .i64 es) rfl (zai rfl 3 (.tmp 37) rfl _ _ rfl fun w h=>zal zdm h.1) hS ?_
   try simp only[Act.put,sqX]
   refine sqH 5 (B8 (u8 es)) rfl (Or.inl ⟨by rfl,fun _ _=>by go_simp⟩) hS ?_
   try simp only[Act.put,sqX]
   refine sqH 6 (.pointer (some ⟨wr.heap.size,1,none⟩)) rfl (Or.inl ⟨by rfl,fun _ _=>by go_simp⟩) hS ?_
   try simp only[Act.put,sqX]
   refine sqH 7 (.int .i64 en) rfl (zai rfl 3 (.tmp 40) rfl _ _ rfl fun w h=>zal zdm h.2) hS ?_
   try simp only[Act.put,sqX]
   refine sqH 8 (B8 (u8 en)) rfl (Or.inl ⟨by rfl,fun _ _=>by go_simp⟩) hS ?_
   try simp only[Act.put,sqX]
   refine sqH 9 (.pointer (some ⟨w.heap.size+1+1,K,none⟩)) rfl (Or.inl ⟨by rfl,fun _ _=>by go_simp⟩) hS ?_
   try simp only[Act.put,sqX]
   have r2:=Row8.of_block HZ2.out
   have kc0:=r2.cell_ (k:=K) (by rw[zay];omega)
   have kf0:=r2.free K
   have kc1:=r2.cell_ (k:=K+1) (by rw[zay];omega)
   refine wpAnyH_all (rs:=[10]) (by kernel_rfl) (by simp) fun i hi=>?_
   obtain rfl:i=10:=by simpa using hi
   refine zc0 (om:=⟨_,_,_,_,_,_⟩) (w':=w2.setCell ⟨w.heap.size+1+1,K,none⟩ (B8 (u8 es))) rfl rfl (by go_simp) ?_
   have r3:=r2.set_ K (u8 es)
   have z3:(w2.setCell ⟨w.heap.size+1+1,K,none⟩ (B8 (u8 es))).heap[w.heap.size+1]?=_:=(Below.heap_setCell _ _ _ _ (by simp)).trans HZ1.out
   have zb3:=HZB.out.setCell (p:=⟨w.heap.size+1+1,K,none⟩) (by show _≤w.heap.size+1+1;omega) (B8 (u8 es))
   have zs3:w.heap.size+3≤(w2.setCell ⟨w.heap.size+1+1,K,none⟩ (B8 (u8 es))).heap.size:=by rw[World.size_setCell];exact HZS.out
   have hS3:(w2.setCell ⟨w.heap.size+1+1,K,none⟩ (B8 (u8 es))).cell? ⟨wr.heap.size,0,none⟩=some (.int .i64 es)∧(w2.setCell ⟨w.heap.size+1+1,K,none⟩ (B8 (u8 es))).cell? ⟨wr.heap.size,1,none⟩=some (.int .i64 en):=by
    refine⟨?_,?_⟩
    ·rw[World.cell?_setCell_other _ _ _ _ (by simp[hne])];exact hS.1
    ·rw[World.cell?_setCell_other _ _ _ _ (by simp[hne])];exact hS.2
   have kc3:=r3.cell_ (k:=K+1) (by rw[List.length_set,zay];omega)
   have kf3:=r3.free (K+1)
   clear kc0 kf0 kc1 hi r2 HZ2 HZ1 HZB HZS hS p0 p1
   generalize w2.setCell ⟨w.heap.size+1+1,K,none⟩ (B8 (u8 es))=w3 at *
   have hS:=hS3
   refine⟨hS,?_⟩
   try simp only[Act.put,sqX]
   refine sqH 11 (.pointer (some ⟨w.heap.size+1+1,K+1,none⟩)) rfl (Or.inl ⟨by rfl,fun _ _=>by go_simp;omega⟩) hS ?_
   try simp only[Act.put,sqX]
   refine wpAnyH_all (rs:=[12]) (by kernel_rfl) (by simp) fun i hi=>?_
   obtain rfl:i=12:=by simpa using hi
   refine zc0 (om:=⟨_,_,_,_,_,_⟩) (w':=w3.setCell ⟨w.heap.size+1+1,K+1,none⟩ (B8 (u8 en))) rfl rfl (by go_simp) ?_
   have r4:=(r3.set_ (K+1) (u8 en)).block
   rw[HEN2.out] at r4
   have z4:(w3.setCell ⟨w.heap.size+1+1,K+1,none⟩ (B8 (u8 en))).heap[w.heap.size+1]?=_:=(Below.heap_setCell _ _ _ _ (by simp)).trans z3
   have zb4:=zb3.setCell (p:=⟨w.heap.size+1+1,K+1,none⟩) (by show _≤w.heap.size+1+1;omega) (B8 (u8 en))
   have zs4:w.heap.size+3≤(w3.setCell ⟨w.heap.size+1+1,K+1,none⟩ (B8 (u8 en))).heap.size:=by rw[World.size_setCell];exact zs3
   have HR:Hid (ycj w x (w3.setCell ⟨w.heap.size+1+1,K+1,none⟩ (B8 (u8 en))) (.int .i64 ((k:Int)+1))):=⟨k+1,by simp,by omega,r4,z4,zs4,zb4⟩
   have hS4:(w3.setCell ⟨w.heap.size+1+1,K+1,none⟩ (B8 (u8 en))).cell? ⟨wr.heap.size,0,none⟩=some (.int .i64 es)∧(w3.setCell ⟨w.heap.size+1+1,K+1,none⟩ (B8 (u8 en))).cell? ⟨wr.heap.size,1,none⟩=some (.int .i64 en):=by
    refine⟨?_,?_⟩
    ·rw[World.cell?_setCell_other _ _ _ _ (by simp[hne])];exact hS.1
    ·rw[World.cell?_setCell_other _ _ _ _ (by simp[hne])];exact hS.2
   clear kc3 kf3 hi r3 r4 z3 z4 zb3 zb4 zs3 zs4 hS hS3
   generalize w3.setCell ⟨w.heap.size+1+1,K+1,none⟩ (B8 (u8 en))=w4 at *
   have hS:=hS4
   clear hS4
   refine⟨hS,?_⟩
   try simp only[Act.put,sqX]
   refine wpAnyH_done (by kernel_rfl) ?_ _
   try simp only[Act.put,sqX]
   clear hS
   have ew4:IntKind.i64.wrap ((k:Int)+1)=(k:Int)+1:=by rw[IntKind.wrap_i64];omega
   go_wp2_with fail
   go_roundw
   case rel=>exact HR.out
   case measure=>simp[RowKit.intOf];omega
  ·obtain rfl:k=x.ext.length:=by omega
   have lr:=zz7 (w:=wr) (b:=w.heap.size+1+1) (o:=0) (xs:=zdr x) (zay x) (by
    rw[List.take_length] at hg2
    exact zh5 hg2)
   have sr:=zoo (w:=wr) (b:=w.heap.size+1) (o:=0) (xs:=zdr x) (zay x) (zh6 hg1 0 64 (by rw[zb8];omega))
   obtain⟨h1,k1⟩:=ze7 (ys:=zdr x) 0 hg1 (by rw[zb8,zay];omega)
   rw[zfh _ _ (by rw[zb8,zay])] at h1
   have hbf:=hb.trans (k1.toBelow _ hb.size (by intro k hk;omega))
   generalize wr.setCells (w.heap.size+1) 0 ((zdr x).map B8)=w2 at *
   have LR:=zq lr
   have SR:=zq sr
   have H1:=zq h1
   have HBF:=zq hbf
   clear lr sr h1 k1 hbf hg1 hg2 hb G9 H9 XR0 B9
   go_wp2_with (first
    | ((with_reducible refine at_ (op:=.load 176 (.tmp 3)) ?_);refine zaj rfl _ (zdd 176 (.tmp 3) rfl _ _ rfl LR.out) ?_)
    | ((with_reducible refine at_ (op:=.store 176 (.tmp 2) (.tmp 46)) ?_);refine zat rfl (zbb 176 (.tmp 2) (.tmp 46) rfl _ _ rfl rfl SR.out) ?_)
    | fail)
   refine bodyPost_ret (v:=ag8 (zdr x)) ?_ rfl ⟨rfl,HBF.out⟩
   exact results_cell_row rfl _ _ (w.heap.size+1) 176 _ (0,0) _ rfl H1.out Tryz.underlying176 rfl (by rw[zt2];simp[zay])
end Ino
namespace Ino
open Go.RowKit Ex
def zrd (x:IN):List UInt8:=if zd6 x=true then zdr x else []
def zv2 (w:World) (x:IN) (e:Ending) (w':World):Prop:=∃ R n c,e=.returned (.tuple #[.slice R n c,.int .i64 (ze1 x)])∧(zrd x).length=n∧BR w' w'.heap.size R (zrd x)∧Below w.heap.size w w'∧n≤c
theorem zq7 {w w':World} {x:IN} (h:zd6 x=false)(hb:Below w.heap.size w w'):zv2 w x (.returned (.tuple #[.slice none 0 0,.int .i64 110])) w':=by
 have e1:zrd x=[]:=by simp[zrd,h]
 exact⟨none,0,0,by simp[ze1,h],by rw[e1];rfl,by rw[e1];exact BR.nil,hb,by omega⟩
theorem zn1 {w w':World} {x:IN} {R:Option Addr} {c:Nat} (h:zd6 x=true)(hr:BR w' w'.heap.size R (zdr x))(hb:Below w.heap.size w w')(hc:64≤c):zv2 w x (.returned (.tuple #[.slice R 64 c,.int .i64 0])) w':=by
 have e1:zrd x=zdr x:=by simp[zrd,h]
 exact⟨R,64,c,by simp[ze1,h],by rw[e1,zay],by rw[e1];exact hr,hb,hc⟩
theorem ybo (x:IN)(A:Option Addr)(c:Nat)(w:World)(hx:InOk w x A):Calls Tryz.prog 147 #[ag x A c] w (zv2 w x):=by
 obtain⟨wA,hwA⟩:∃ wA,wA=w.alloc (.cells #[St x.name,.int .i64 x.size,.slice A x.ext.length c] 113):=⟨_,rfl⟩
 have a0:wA.heap[w.heap.size]?=some (.cells #[St x.name,.int .i64 x.size,.slice A x.ext.length c] 113 (0,0)):=by rw[hwA];exact heap_alloc_new w _
 have bA:Below w.heap.size w wA:=by rw[hwA];exact(Below.refl _ _).alloc (Nat.le_refl _) _
 have sA:wA.heap.size=w.heap.size+1:=by rw[hwA,World.size_alloc]
 have hck:=zpq x A c wA (hx.below bA)
 have c0:wA.cell? ⟨w.heap.size,0,none⟩=some (St x.name):=by rw[cell_of_row _ _ _ _ _ _ a0];rfl
 have c1:wA.cell? ⟨w.heap.size,1,none⟩=some (.int .i64 x.size):=by rw[cell_of_row _ _ _ _ _ _ a0];rfl
 have c2:wA.cell? ⟨w.heap.size,2,none⟩=some (.slice A x.ext.length c):=by rw[cell_of_row _ _ _ _ _ _ a0];rfl
 have HX:=zq hx
 have HCK:=zq hck
 have HB:=zq bA
 have HA:=zq a0
 have HSA:=zq sA
 clear hx hck bA sA a0
 go_enter Tryz.func147,Tryz.ntmps147
 go_wp2_with fail
 rw[← hwA]
 clear hwA
 refine HCK.out.mono ?_
 clear HCK
 rintro e w2 ⟨rfl,b2⟩
 have a2:=(b2.block w.heap.size (by rw[HSA.out];omega)).trans HA.out
 have B2:=zq (HB.out.trans (b2.mono HB.out.size))
 have hs2:w.heap.size+1≤w2.heap.size:=by rw[← HSA.out];exact b2.size
 clear c0 c1 c2 b2 HB HA
 by_cases hc:zd6 x=true
 ·have he:ze1 x=0:=by simp[ze1,hc]
  rw[he]
  have hl:=zuz x A c w2 (HX.out.below B2.out) hc
  have HL:=zq hl
  have HC:=zq hc
  have c0:w2.cell? ⟨w.heap.size,0,none⟩=some (St x.name):=by rw[cell_of_row _ _ _ _ _ _ a2];rfl
  have c1:w2.cell? ⟨w.heap.size,1,none⟩=some (.int .i64 x.size):=by rw[cell_of_row _ _ _ _ _ _ a2];rfl
  have c2:w2.cell? ⟨w.heap.size,2,none⟩=some (.slice A x.ext.length c):=by rw[cell_of_row _ _ _ _ _ _ a2];rfl
  clear hl hc he a2
  go_wp2_with fail
  refine HL.out.mono ?_
  clear HL c0 c1 c2
  rintro e w3 ⟨rfl,b3⟩
  have al:=zpu w3
  have b4:=(B2.out.trans (b3.mono B2.out.size)).alloc (Nat.le_trans B2.out.size b3.size) (.cells (zr64.map B8).toArray 176)
  have g4:(w3.alloc (.cells (zr64.map B8).toArray 176)).heap[w3.heap.size]?=some (.cells (zr64.map B8).toArray 176 (0,0)):=heap_alloc_new w3 _
  have sr:=zoo (w:=w3.alloc (.cells (zr64.map B8).toArray 176)) (b:=w3.heap.size) (o:=0) (xs:=zdr x) (zay x) (zh6 g4 0 64 (by rw[zb8];omega))
  obtain⟨h5,k5⟩:=ze7 (ys:=zdr x) 0 g4 (by rw[zb8,zay];omega)
  rw[zfh _ _ (by rw[zb8,zay])] at h5
  have b5:=b4.trans (k5.toBelow w.heap.size b4.size (by intro k hk;have:=b3.size;omega))
  have r5:=(Row8.of_block h5).br
  generalize (w3.alloc (.cells (zr64.map B8).toArray 176)).setCells w3.heap.size 0 ((zdr x).map B8)=w5 at *
  have AL:=zq al
  have SR:=zq sr
  have HF:=zq (zn1 (c:=64) HC.out r5 b5 (by omega))
  clear al sr b3 b4 g4 h5 k5 b5 r5
  go_wp2_with (first
   | ((with_reducible refine at_ (op:=.alloc 176) ?_);refine zaj rfl _ (zjd 176 rfl _ AL.out) ?_)
   | ((with_reducible refine at_ (op:=.store 176 (.tmp 5) (.tmp 12)) ?_);refine zat rfl (zbb 176 (.tmp 5) (.tmp 12) rfl _ _ rfl rfl SR.out) ?_)
   | fail)
  go_ret2
  exact HF.out
 ·have hc':zd6 x=false:=by simpa using hc
  have he:ze1 x=110:=by simp[ze1,hc]
  rw[he]
  have HC:=zq hc'
  clear hc hc' he
  go_wp2_with fail
  go_ret2
  exact zq7 HC.out B2.out
theorem zuy (x:IN):zr64.set 0 (UInt8.ofNat x.name.length)=zsr x:=by
 simp[zr64,zsr,List.replicate_succ]
theorem zuw (x:IN)(h:x.name.length≤15):zfk (yf9 x) 16 x.size.toNat 2=yi0 x:=by
 refine yac (by rw[zb1,zd4 x h]) (zux x h) fun i hi=>?_
 rw[zk3 _ _ _ _ _ (by decide) (by rw[zd4 x h];omega)]
 unfold yi0
 rw[splice_get _ _ _ _ (by rw[zd4 x h];simp[two])]
 have e2:(two x.size.toNat).length=2:=rfl
 rw[e2]
 by_cases h1:16≤i∧i<16+2
 ·rw[zp (by omega),zp h1]
  have:i=16∨i=17:=by omega
  rcases this with e | e<;>subst e<;>rfl
 ·rw[zn (by omega),zn h1]
theorem zug {w:World} {B B':Nat} {t:TypeId} {R:Option Addr} {cap:Nat} {zs:List UInt8} (h:Own8 w B t R cap zs)(hB:B'≤B):Own8 w B' t R cap zs:=by
 refine⟨h.1,?_⟩
 rcases h.2 with h0 | ⟨g,cap',cur,hv,hb,rest⟩
 ·exact Or.inl h0
 ·exact Or.inr ⟨g,cap',cur,hv,Nat.le_trans hB hb,rest⟩
def zpv (w:World) (x:IN) (R:Option Addr) (c:Nat) (wr:World) (i:Value):Prop:=∃ k:Nat,i=.int .i64 (k:Int)∧k≤x.ext.length∧Own8 wr w.heap.size 5 R c (zdr { x with ext:=x.ext.take k })∧Below w.heap.size w wr
theorem znh (x:IN)(A:Option Addr)(c:Nat)(w:World)(hx:InOk w x A):Calls Tryz.prog 90 #[ag x A c] w (zv2 w x):=by
 obtain⟨wA,hwA⟩:∃ wA,wA=w.alloc (.cells #[St x.name,.int .i64 x.size,.slice A x.ext.length c] 113):=⟨_,rfl⟩
 have a0:wA.heap[w.heap.size]?=some (.cells #[St x.name,.int .i64 x.size,.slice A x.ext.length c] 113 (0,0)):=by rw[hwA];exact heap_alloc_new w _
 have bA:Below w.heap.size w wA:=by rw[hwA];exact(Below.refl _ _).alloc (Nat.le_refl _) _
 have sA:wA.heap.size=w.heap.size+1:=by rw[hwA,World.size_alloc]
 have hck:=zqn x A c wA (hx.below bA)
 have c0:wA.cell? ⟨w.heap.size,0,none⟩=some (St x.name):=by rw[cell_of_row _ _ _ _ _ _ a0];rfl
 have c1:wA.cell? ⟨w.heap.size,1,none⟩=some (.int .i64 x.size):=by rw[cell_of_row _ _ _ _ _ _ a0];rfl
 have c2:wA.cell? ⟨w.heap.size,2,none⟩=some (.slice A x.ext.length c):=by rw[cell_of_row _ _ _ _ _ _ a0];rfl
 have HX:=zq hx
 have HCK:=zq hck
 have HB:=zq bA
 have HA:=zq a0
 have HSA:=zq sA
 clear hx hck bA sA a0
 go_enter Tryz.func90,Tryz.ntmps90
 go_wp2_with fail
 rw[← hwA]
 clear hwA
 refine HCK.out.mono ?_
 clear HCK
 rintro e w2 ⟨rfl,b2⟩
 have a2:=(b2.block w.heap.size (by rw[HSA.out];omega)).trans HA.out
 have B2:=zq (HB.out.trans (b2.mono HB.out.size))
 have hs2:w.heap.size+1≤w2.heap.size:=by rw[← HSA.out];exact b2.size
 clear c0 c1 c2 b2 HB HA HSA
 by_cases hc:zd6 x=true
 ·obtain⟨⟨hn1,hn2⟩,_,⟨hs1,hs3⟩,hok,_⟩:=zck hc
  have hxe:=zkm hok
  have HOK:=zq hok
  have he:ze1 x=0:=by simp[ze1,hc]
  rw[he]
  have HC:=zq hc
  have hmk:(Instr.makeSlice 31 (.int .i64 64) (.int .i64 64)).run Tryz.prog w2=.ok (.slice (some ⟨w2.heap.size,0,none⟩) 64 64) (w2.alloc (.cells (madeCells #[.int .u8 0] 64) 5)):=zfq 64 (by decide) w2
  have r3:=Row8.made w2 64 5
  have b3:=B2.out.alloc B2.out.size (.cells (madeCells #[.int .u8 0] 64) 5)
  have a3:=(Below.heap_alloc w2 (.cells (madeCells #[.int .u8 0] 64) 5) w.heap.size (by omega)).trans a2
  have z3:w2.heap.size<(w2.alloc (.cells (madeCells #[.int .u8 0] 64) 5)).heap.size:=by rw[World.size_alloc];omega
  generalize w2.alloc (.cells (madeCells #[.int .u8 0] 64) 5)=w3 at *
  have c0:w3.cell? ⟨w.heap.size,0,none⟩=some (St x.name):=by rw[cell_of_row _ _ _ _ _ _ a3];rfl
  have k0:=r3.cell_ (k:=0) (by simp)
  have f0:=r3.free 0
  have hcv:IntKind.u8.wrap (x.name.length:Int)=((UInt8.ofNat x.name.length).toNat:Int):=by
   rw[UInt8.toNat_ofNat']
   simp[IntKind.wrap,IntKind.bits,IntKind.signed]
  have R3:=zq r3
  have B3:=zq b3
  have A3:=zq a3
  clear hok hc he a2 r3 b3 a3
  have hv:Value.int .u8 (x.name.length:Int)=B8 (UInt8.ofNat x.name.length):=by show _=Value.int .u8 ((UInt8.ofNat x.name.length).toNat:Int);rw[UInt8.toNat_ofNat'];congr 1;omega
  have HV:=zq hv
  clear hv hcv
  go_wp2_with fail
  rw[HV.out]
  have r4:=R3.out.set_ 0 (UInt8.ofNat x.name.length)
  rw[show(List.replicate 64 (0:UInt8)).set 0 (UInt8.ofNat x.name.length)=zsr x from zuy x] at r4
  have b4:=B3.out.setCell (p:=⟨w2.heap.size,0,none⟩) (by show _≤w2.heap.size;omega) (B8 (UInt8.ofNat x.name.length))
  have a4:=(Below.heap_setCell w3 ⟨w2.heap.size,0,none⟩ (B8 (UInt8.ofNat x.name.length)) w.heap.size (by show _≠w2.heap.size;omega)).trans A3.out
  have z4:w2.heap.size<(w3.setCell ⟨w2.heap.size,0,none⟩ (B8 (UInt8.ofNat x.name.length))).heap.size:=by rw[World.size_setCell];exact z3
  clear k0 f0 R3 B3 A3 c0 z3 HV
  generalize w3.setCell ⟨w2.heap.size,0,none⟩ (B8 (UInt8.ofNat x.name.length))=w4 at *
  refine wp_region_still_tail 4 (by kernel_rfl) (by kernel_rfl) ?_
  simp only[List.take_succ_cons,List.take_zero,List.drop_succ_cons,List.drop_zero]
  change wpStill _ _ w4.drew (fun a'=>wpList _ _ _ _ a' w4.drew) _ _
  have a5:w4.drew.heap[w.heap.size]?=_:=a4
  have b5:=b4.drew
  have r5:Row8 w4.drew w2.heap.size 5 (zsr x):=r4
  have z5:w2.heap.size<w4.drew.heap.size:=z4
  clear a4 b4 r4 z4
  generalize w4.drew=w5 at *
  have c0:w5.cell? ⟨w.heap.size,0,none⟩=some (St x.name):=by rw[cell_of_row _ _ _ _ _ _ a5];rfl
  have cp:=zgz (P:=Tryz.prog) w5 31 9 3 5 Tryz.underlying31 (by kernel_rfl) w2.heap.size 1 15 63 x.name hn2 (zh6 r5.block 1 x.name.length (by rw[zdt];omega))
  obtain⟨f6,k6⟩:=ze7 (ys:=x.name) 1 r5.block (by rw[zdt];omega)
  generalize w5.setCells w2.heap.size 1 (x.name.map B8)=w6 at cp f6 k6
  have a6:=(k6.block _ (by omega) (by omega)).trans a5
  have b6:=b5.trans (k6.toBelow w.heap.size b5.size (by intro k hk;omega))
  have z6:w2.heap.size<w6.heap.size:=by have:=k6.size;omega
  have CP:=zq cp
  have F6:=zq f6
  have A6:=zq a6
  have B6:=zq b6
  clear cp f6 k6 a5 b5 r5 a6 b6
  still_step
  still_step
  still_step
  still_step
  refine wpStill_nil ?_
  have cp:=CP.out
  clear CP
  have c1:w6.cell? ⟨w.heap.size,1,none⟩=some (.int .i64 x.size):=by rw[cell_of_row _ _ _ _ _ _ A6.out];rfl
  have hwr:IntKind.u64.wrap x.size=(x.size.toNat:Int):=by simp[IntKind.wrap,IntKind.bits,IntKind.signed];omega
  have hpn:=zd2 (some ⟨w2.heap.size,0,none⟩) (yf9 x) 64 16 2 x.size.toNat w6 (Row8.of_block F6.out).br (by rw[zd4 x hn2];decide) (by decide) (by decide)
  rw[show(zds 2 8).toNat=2 from rfl,zuw x hn2,zd4 x hn2,zo7 x hn2] at hpn
  have HPN:=zq hpn
  clear hpn
  go_wp2_with fail
  rw[show max x.size 0=((x.size.toNat:Nat):Int) by omega]
  refine HPN.out.mono ?_
  clear HPN cp c0 c1
  rintro e w7 ⟨R,c4,rfl,o7,b7⟩
  have a7:=(b7.block w.heap.size (by omega)).trans A6.out
  have b7':=B6.out.trans (b7.mono B6.out.size)
  have c2:w7.cell? ⟨w.heap.size,2,none⟩=some (.slice A x.ext.length c):=by rw[cell_of_row _ _ _ _ _ _ a7];rfl
  have o7':Own8 w7 w.heap.size 5 R c4 (zdr { x with ext:=[] }):=zug o7 B6.out.size
  have O7:=zq o7'
  have B7:=zq b7'
  have HXR:=zq HX.out.xr
  clear o7 o7' b7 b7' a7 A6 B6 F6
  rw[zay]
  go_wp2_with fail
  go_loopw [33,6,7] (fun i _ _ wr=>zpv w x R c4 wr i) (fun i _ _ _=>x.ext.length-(RowKit.intOf i).toNat)
  case atStart=>exact⟨0,rfl,by omega,by rw[List.take_zero];exact O7.out,B7.out⟩
  case round =>
   obtain⟨k,rfl,hk,ow,hb⟩:=hrel
   by_cases hlt:k<x.ext.length
   ·obtain⟨ad,rfl,hlb,d0,d1,hxo⟩:=(HXR.out.below hb).at_ hlt
    have hen:=zpo { x with ext:=x.ext.take k } k x.ext[k] (x.ext.take k) (by omega) (by simp;omega) rfl
    have hsm:=zi4 HOK.out _ (List.getElem_mem hlt)
    have htk:x.ext.take k++[x.ext[k]]=x.ext.take (k+1):=(List.take_succ_eq_append_getElem hlt).symm
    rw[htk] at hen
    generalize x.ext[k]=e at *
    obtain⟨es,en⟩:=e
    simp only at d0 d1 hsm hen
    obtain⟨K,hK⟩:∃ K:Nat,K=18+2*k:=⟨_,rfl⟩
    obtain⟨g,rfl,hBg,hgl,_,_⟩:=ow.at_ (k:=K) (by rw[zay];omega)
    have hne:¬g=wr.heap.size:=by omega
    have b1:=(hb.alloc (by exact hb.size) (.cells #[.int .i64 es,.int .i64 en] 152)).drew
    have o1:Own8 (wr.alloc (.cells #[.int .i64 es,.int .i64 en] 152)).drew w.heap.size 5 (some ⟨g,0,none⟩) c4 _:=World.ownsRow.alloc ow (.cells #[.int .i64 es,.int .i64 en] 152)
    have hat:(wr.alloc (.cells #[.int .i64 es,.int .i64 en] 152)).heap[wr.heap.size]?=some (.cells #[.int .i64 es,.int .i64 en] 152 (0,0)):=heap_alloc_new wr _
    have p0:(wr.alloc (.cells #[.int .i64 es,.int .i64 en] 152)).drew.cell? ⟨wr.heap.size,0,none⟩=some (.int .i64 es):=by rw[cell_of_row _ _ _ _ _ _ (show(wr.alloc (.cells #[.int .i64 es,.int .i64 en] 152)).drew.heap[wr.heap.size]?=_ from hat)];rfl
    have p1:(wr.alloc (.cells #[.int .i64 es,.int .i64 en] 152)).drew.cell? ⟨wr.heap.size,1,none⟩=some (.int .i64 en):=by rw[cell_of_row _ _ _ _ _ _ (show(wr.alloc (.cells #[.int .i64 es,.int .i64 en] 152)).drew.heap[wr.heap.size]?=_ from hat)];rfl
    have HZB:=zq b1
    have OW:=zq o1
    rw[show 19+2*k=K+1 by omega,show 18+2*k=K by omega] at hen
    have HEN2:=zq hen
    have ew1:IntKind.i64.wrap (2*(k:Int))=2*(k:Int):=by rw[IntKind.wrap_i64];omega
    have ew2:IntKind.i64.wrap (18+2*(k:Int))=(K:Int):=by rw[IntKind.wrap_i64];omega
    have ew3:IntKind.i64.wrap (19+2*(k:Int))=((K+1:Nat):Int):=by rw[IntKind.wrap_i64];omega
    have ex1:IntKind.u8.wrap es=((u8 es).toNat:Int):=by rw[zki (by omega)];simp[IntKind.wrap,IntKind.bits,IntKind.signed];omega
    have ex2:IntKind.u8.wrap en=((u8 en).toNat:Int):=by rw[zki (by omega)];simp[IntKind.wrap,IntKind.bits,IntKind.signed];omega
    have hK1:(K:Int)<64:=by omega
    have hK2:((K+1:Nat):Int)<64:=by omega
    obtain⟨g1,e1,_,_,kc0,kf0⟩:=o1.at_ (k:=K) (by rw[zay];omega)
    cases e1
    clear b1 o1 hat hen htk ow hb hK O7 B7
    go_wp2_with fail
    refine wp_region_held (S:=fun W=>W.cell? ⟨wr.heap.size,0,none⟩=some (.int .i64 es)∧W.cell? ⟨wr.heap.size,1,none⟩=some (.int .i64 en)) (by kernel_rfl) ?_
    change wpAnyH _ _ _ _ _ _ _ _ (wr.alloc (.cells #[.int .i64 es,.int .i64 en] 152)).drew
    generalize (wr.alloc (.cells #[.int .i64 es,.int .i64 en] 152)).drew=w8 at *
    have hS:=And.intro p0 p1
    refine sqH 0 (.slice (some ⟨g,0,none⟩) 64 c4) rfl (Or.inl ⟨by rfl,fun _ _=>rfl⟩) hS ?_
    try simp only[Act.put,sqX]
    refine sqH 1 (.int .i64 (k:Int)) rfl (Or.inl ⟨by rfl,fun _ _=>rfl⟩) hS ?_
    try simp only[Act.put,sqX]
    refine sqH 2 (.int .i64 (2*(k:Int))) rfl (Or.inl ⟨by rfl,fun _ _=>by go_simp⟩) hS ?_
    try simp only[Act.put,sqX]
    refine sqH 3 (.int .i64 (K:Int)) rfl (Or.inl ⟨by rfl,fun _ _=>by go_simp⟩) hS ?_
    try simp only[Act.put,sqX]
    refine sqH 4 (.slice (some ⟨g,0,none⟩) 64 c4) rfl (Or.inl ⟨by rfl,fun _ _=>rfl⟩) hS ?_
    try simp only[Act.put,sqX]
    refine sqH 5 (.int .i64 (k:Int)) rfl (Or.inl ⟨by rfl,fun _ _=>rfl⟩) hS ?_
    try simp only[Act.put,sqX]
    refine sqH 6 (.int .i64 (2*(k:Int))) rfl (Or.inl ⟨by rfl,fun _ _=>by go_simp⟩) hS ?_
    try simp only[Act.put,sqX]
    refine sqH 7 (.int .i64 ((K+1:Nat):Int)) rfl (Or.inl ⟨by rfl,fun _ _=>by go_simp⟩) hS ?_
    try simp only[Act.put,sqX]
    refine sqH 8 (.pointer (some ⟨wr.heap.size,0,none⟩)) rfl (Or.inl ⟨by rfl,fun _ _=>by go_simp⟩) hS ?_
    try simp only[Act.put,sqX]
    refine sqH 9 (.int .i64 es) rfl (zai rfl 3 (.tmp 46) rfl _ _ rfl fun w h=>zal zdm h.1) hS ?_
    try simp only[Act.put,sqX]
    refine sqH 10 (B8 (u8 es)) rfl (Or.inl ⟨by rfl,fun _ _=>by go_simp⟩) hS ?_
    try simp only[Act.put,sqX]
    refine sqH 11 (.pointer (some ⟨wr.heap.size,1,none⟩)) rfl (Or.inl ⟨by rfl,fun _ _=>by go_simp⟩) hS ?_
    try simp only[Act.put,sqX]
    refine sqH 12 (.int .i64 en) rfl (zai rfl 3 (.tmp 49) rfl _ _ rfl fun w h=>zal zdm h.2) hS ?_
    try simp only[Act.put,sqX]
    refine sqH 13 (B8 (u8 en)) rfl (Or.inl ⟨by rfl,fun _ _=>by go_simp⟩) hS ?_
    try simp only[Act.put,sqX]
    refine sqH 14 (.pointer (some ⟨g,K,none⟩)) rfl (Or.inl ⟨by rfl,fun _ _=>by go_simp⟩) hS ?_
    try simp only[Act.put,sqX]
    refine wpAnyH_all (rs:=[15]) (by kernel_rfl) (by simp) fun i hi=>?_
    obtain rfl:i=15:=by simpa using hi
    refine zc0 (om:=⟨_,_,_,_,_,_⟩) (w':=w8.setCell ⟨g,K,none⟩ (B8 (u8 es))) rfl rfl (by go_simp) ?_
    have o9:=OW.out.set_ K (u8 es)
    have zb9:=HZB.out.setCell (p:=⟨g,K,none⟩) hBg (B8 (u8 es))
    have hS3:(w8.setCell ⟨g,K,none⟩ (B8 (u8 es))).cell? ⟨wr.heap.size,0,none⟩=some (.int .i64 es)∧(w8.setCell ⟨g,K,none⟩ (B8 (u8 es))).cell? ⟨wr.heap.size,1,none⟩=some (.int .i64 en):=by
     refine⟨?_,?_⟩
     ·rw[World.cell?_setCell_other _ _ _ _ (by simp[hne])];exact hS.1
     ·rw[World.cell?_setCell_other _ _ _ _ (by simp[hne])];exact hS.2
    obtain⟨g1,e1,_,_,kc3,kf3⟩:=o9.at_ (k:=K+1) (by rw[List.length_set,zay];omega)
    cases e1
    clear kc0 kf0 hi OW HZB hS p0 p1
    generalize w8.setCell ⟨g,K,none⟩ (B8 (u8 es))=w9 at *
    have hS:=hS3
    refine⟨hS,?_⟩
    try simp only[Act.put,sqX]
    refine sqH 16 (.pointer (some ⟨g,K+1,none⟩)) rfl (Or.inl ⟨by rfl,fun _ _=>by go_simp;omega⟩) hS ?_
    try simp only[Act.put,sqX]
    refine wpAnyH_all (rs:=[17]) (by kernel_rfl) (by simp) fun i hi=>?_
    obtain rfl:i=17:=by simpa using hi
    refine zc0 (om:=⟨_,_,_,_,_,_⟩) (w':=w9.setCell ⟨g,K+1,none⟩ (B8 (u8 en))) rfl rfl (by go_simp) ?_
    have o10:=o9.set_ (K+1) (u8 en)
    rw[HEN2.out] at o10
    have zb10:=zb9.setCell (p:=⟨g,K+1,none⟩) hBg (B8 (u8 en))
    have HR:Hid (zpv w x (some ⟨g,0,none⟩) c4 (w9.setCell ⟨g,K+1,none⟩ (B8 (u8 en))) (.int .i64 ((k:Int)+1))):=⟨k+1,by simp,by omega,o10,zb10⟩
    have hS4:(w9.setCell ⟨g,K+1,none⟩ (B8 (u8 en))).cell? ⟨wr.heap.size,0,none⟩=some (.int .i64 es)∧(w9.setCell ⟨g,K+1,none⟩ (B8 (u8 en))).cell? ⟨wr.heap.size,1,none⟩=some (.int .i64 en):=by
     refine⟨?_,?_⟩
     ·rw[World.cell?_setCell_other _ _ _ _ (by simp[hne])];exact hS.1
     ·rw[World.cell?_setCell_other _ _ _ _ (by simp[hne])];exact hS.2
    clear kc3 kf3 hi o9 o10 zb9 zb10 hS hS3
    generalize w9.setCell ⟨g,K+1,none⟩ (B8 (u8 en))=w10 at *
    have hS:=hS4
    clear hS4
    refine⟨hS,?_⟩
    try simp only[Act.put,sqX]
    refine wpAnyH_done (by kernel_rfl) ?_ _
    try simp only[Act.put,sqX]
    clear hS
    have ew4:IntKind.i64.wrap ((k:Int)+1)=(k:Int)+1:=by rw[IntKind.wrap_i64];omega
    go_wp2_with fail
    go_roundw
    case rel=>exact HR.out
    case measure=>simp[RowKit.intOf];omega
   ·obtain rfl:k=x.ext.length:=by omega
    rw[List.take_length] at ow
    have HF:=zq (zn1 (c:=c4) HC.out ow.br hb (by have:=ow.cap_le;rwa [zay] at this))
    clear ow hb
    go_wp2_with fail
    go_ret2
    exact HF.out
 ·have hc':zd6 x=false:=by simpa using hc
  have he:ze1 x=110:=by simp[ze1,hc]
  rw[he]
  have HC:=zq hc'
  clear hc hc' he
  go_wp2_with fail
  go_ret2
  exact zq7 HC.out B2.out
end Ino
namespace Ex
open Go.RowKit
def OwnX (w:World) (B:Nat) (R:Option Addr) (cap:Nat) (l:List EX):Prop:=w.ownsRow B 152 2 (.slice R l.length cap) l.length (l.flatMap zc5)
theorem zpi (l:List EX):∀ (k:Nat) (a:EX),l[k]?=some a→∀ j v,(zc5 a)[j]?=some v→(l.flatMap zc5)[k*2+j]?=some v:=by
 induction l with
 | nil=>intro k a h;simp at h
 | cons x r ih =>
  intro k a h j v hv
  have hl:(zc5 x).length=2:=rfl
  rw[List.flatMap_cons]
  cases k with
  | zero =>
   simp at h;subst h
   have hj:=(List.getElem?_eq_some_iff.1 hv).1
   rw[List.getElem?_append_left (by omega),Nat.zero_mul,Nat.zero_add]
   exact hv
  | succ k =>
   rw[List.getElem?_append_right (by rw[hl];omega),hl,show(k+1)*2+j-2=k*2+j from by omega]
   exact ih k a (by simpa using h) j v hv
theorem zjb (l:List EX):(l.flatMap zc5).length=l.length*2:=by
 induction l with
 | nil=>rfl
 | cons x r ih=>rw[List.flatMap_cons,List.length_append,ih,List.length_cons,show(zc5 x).length=2 from rfl];omega
theorem yba (l:List EX)(i:Nat)(u:Value)(h:(l.flatMap zc5)[i]?=some u):∃ a,l[i / 2]?=some a∧(zc5 a)[i % 2]?=some u:=by
 have hi:=(List.getElem?_eq_some_iff.1 h).1
 rw[zjb] at hi
 have hk:i / 2<l.length:=by omega
 have h3:i % 2<(zc5 l[i / 2]).length:=by show i % 2<2;omega
 have:=zpi l (i / 2) l[i / 2] (List.getElem?_eq_getElem hk) (i % 2) _ (List.getElem?_eq_getElem h3)
 rw[show i / 2*2+i % 2=i from by omega,h] at this
 exact⟨_,List.getElem?_eq_getElem hk,by rw[List.getElem?_eq_getElem h3];exact this.symm⟩
theorem ydv (l:List EX):∀ u∈l.flatMap zc5,u.oneCell'=true:=by
 intro u hu
 simp only[List.mem_flatMap,zc5,List.mem_cons,List.not_mem_nil,or_false] at hu
 obtain⟨a,_,rfl | rfl⟩:=hu<;>rfl
theorem Tryz.infoX:(Tryz.prog.info? 152).map (fun i=>(i.zero,i.size,i.bytes))=some (some (.agg #[.int .i64 0,.int .i64 0]),2,16):=by kernel_rfl
theorem add_zero (g j:Nat):(⟨g,0,none⟩:Addr).add j=⟨g,j,none⟩:=by unfold Addr.add;split<;>simp_all
structure Beside (w w':World) (v v':Value):Prop where
 size:w.heap.size≤w'.heap.size
 keep:∀ k,k<w.heap.size→v.ownBlock≠some k→w'.heap[k]?=w.heap[k]?
 own:∀ k,v'.ownBlock=some k→v.ownBlock=some k∨w.heap.size≤k
theorem Beside.from {w0 w w':World} {v v':Value} (h:Beside w w' v v')(hs:w0.heap.size≤w.heap.size)(hk:∀ k,k<w0.heap.size→w.heap[k]?=w0.heap[k]?):Beside w0 w' v v':=
 ⟨Nat.le_trans hs h.size,fun k hk' hn=>(h.keep k (by omega) hn).trans (hk k hk'),fun k e=>(h.own k e).imp id (fun h=>by omega)⟩
theorem OwnX.app {w:World} {B:Nat} {R:Option Addr} {cap:Nat} {l:List EX} (h:OwnX w B R cap l)(hB:B≤w.heap.size)(hl:l.length≤1000)(m:List EX)(hm:m.length≤1000)(ad:Addr)(c:Nat)
  (hc:∀ j u,(m.flatMap zc5)[j]?=some u→w.cell? (ad.add j)=some u):
  ∃ R' cap' w',(Builtin.append_ #[111,111] 111 #[.slice R l.length cap,.slice (some ad) m.length c]).run Tryz.prog w=.ok (.slice R' (l++m).length cap') w'∧OwnX w' B R' cap' (l++m)∧Below B w w'∧Beside w w' (.slice R l.length cap) (.slice R' (l++m).length cap'):=by
 obtain⟨i0,hi,hz0,hz1,hz2⟩:=info_parts Tryz.infoX
 obtain⟨v',w',hrun,hown,hg,hv,hob⟩:=run_append_own_at (P:=Tryz.prog) w B 111 111 152 i0 _ 2 16 Tryz.underlying111 hi hz0 hz1 hz2 rfl (by decide) _ l.length _ h ad m.length c (m.flatMap zc5) (zjb m) hc (ydv m) (by unfold maxLen;omega) (by omega) hB
 have hform:∃ R' cap',v'=.slice R' (l++m).length cap':=by
  by_cases h0:0<l.length+m.length
  ·obtain⟨g,cap',rfl,_,_⟩:=World.ownsRow.form hown h0
   exact⟨_,cap',by rw[List.length_append]⟩
  ·rcases hown.2 with⟨e,_⟩|⟨g',cap',cur,e,_⟩
   ·exact⟨none,0,by rw[e,show(l++m).length=0 from by rw[List.length_append];omega]⟩
   ·exact⟨_,cap',by rw[e,List.length_append]⟩
 obtain⟨R',cap',rfl⟩:=hform
 refine⟨R',cap',w',hrun,?_,⟨hg.os,hg.tape,hg.output,hg.size,fun k hk=>hg.block k (by omega) (fun e=>by have:=(World.ownsRow.lt h k e.symm).1;omega)⟩,⟨hg.size,fun k hk hn=>hg.block k hk (fun e=>hn e.symm),fun k e=>?_⟩⟩
 ·unfold OwnX
  rw[List.flatMap_append]
  rw[List.length_append] at hown ⊢
  exact hown
 ·rcases hob with hob | hob
  ·rw[hob] at e;exact .inl e
  ·rw[hob] at e;cases e;exact .inr (Nat.le_refl _)
theorem OwnX.nil (w:World)(B:Nat):OwnX w B none 0 []:=World.ownsRow_nil _ _ _ _
theorem OwnX.empty {w:World} {B:Nat} (hB:B≤w.heap.size):OwnX (w.alloc (.cells #[] 152)) B (some ⟨w.heap.size,0,none⟩) 0 []:=World.ownsRow_lit w #[] 0 hB (by unfold maxLen;omega) rfl
theorem OwnX.alloc {w:World} {B:Nat} {R:Option Addr} {cap:Nat} {l:List EX} (h:OwnX w B R cap l)(o:Obj):OwnX (w.alloc o) B R cap l:=World.ownsRow.alloc h o
theorem OwnX.below {w w':World} {B:Nat} {R:Option Addr} {cap:Nat} {l:List EX} (h:OwnX w B R cap l)(hb:Below w.heap.size w w'):OwnX w' B R cap l:=
 World.ownsRow.kept (row:=none) h ⟨hb.os,hb.tape,hb.output,hb.size,fun k hk _=>hb.block k hk⟩ (by
  cases e:Value.ownBlock (.slice R l.length cap) with
  | none=>exact Or.inl rfl
  | some k=>exact Or.inr (by simp))
theorem OwnX.drewN {w:World} {B:Nat} {R:Option Addr} {cap:Nat} {l:List EX} (h:OwnX w B R cap l)(n:Nat):OwnX (w.drewN n) B R cap l:=h.below (below_drewN (Below.refl _ _) n)
theorem OwnX.at_ {w:World} {B:Nat} {R:Option Addr} {cap:Nat} {l:List EX} (h:OwnX w B R cap l){k:Nat} (hk:k<l.length):
  ∃ g,R=some ⟨g,0,none⟩∧B≤g∧g<w.heap.size∧w.cell? ⟨g,k*2,none⟩=some (.int .i64 l[k].1)∧w.cell? ⟨g,k*2+1,none⟩=some (.int .i64 l[k].2)∧∀ j,w.frozen? ⟨g,j,none⟩=false:=by
 obtain⟨g,c,hv,hb,hlt⟩:=World.ownsRow.form h (by omega)
 injection hv with e1 _ e3
 subst e1 e3
 refine⟨g,rfl,hb,hlt,?_,?_,fun j=>World.ownsRow.frozenAt h j⟩
 ·rw[World.ownsRow.cellAt h (k*2) (by omega)]
  exact zpi l k l[k] (List.getElem?_eq_getElem hk) 0 _ rfl
 ·rw[World.ownsRow.cellAt h (k*2+1) (by omega)]
  exact zpi l k l[k] (List.getElem?_eq_getElem hk) 1 _ rfl
theorem OwnX.xr {w:World} {B:Nat} {R:Option Addr} {cap:Nat} {l:List EX} (h:OwnX w B R cap l)(ho:∀ a∈l,XOk a):XR w w.heap.size R l:=by
 refine⟨fun hn=>?_,ho⟩
 have h0:0<l.length:=List.length_pos_iff.2 hn
 obtain⟨g,rfl,_,hlt,_⟩:=h.at_ h0
 refine⟨_,rfl,hlt,fun k a ha j v hv=>?_⟩
 obtain⟨hk,rfl⟩:=List.getElem?_eq_some_iff.1 ha
 obtain⟨g',e,_,_,c0,c1,_⟩:=h.at_ hk
 cases e
 rw[add_zero]
 match j,hv with
 | 0,hv=>rw[Addr.add_zero'];cases hv;exact c0
 | 1,hv=>cases hv;exact c1
theorem ye2 (q:List EX)(x:EX)(z:Int):((q++[x]).flatMap zc5).set (q.length*2+1) (.int .i64 z)=(q++[(x.1,z)]).flatMap zc5:=by
 rw[List.flatMap_append,List.flatMap_append,List.set_append_right _ _ (by rw[zjb];omega),zjb]
 rw[show q.length*2+1-q.length*2=1 from by omega]
 rfl
theorem OwnX.long {w:World} {B:Nat} {g:Nat} {cap:Nat} {q:List EX} {x:EX} (h:OwnX w B (some ⟨g,0,none⟩) cap (q++[x]))(z:Int):OwnX (w.setCell ⟨g,q.length*2+1,none⟩ (.int .i64 z)) B (some ⟨g,0,none⟩) cap (q++[(x.1,z)]):=by
 have h1:=(World.ownsRow.stored h (q.length*2+1) (.int .i64 z)).1
 rw[ye2] at h1
 unfold OwnX
 rw[List.length_append] at h1 ⊢
 exact h1
def Bd (l:List EX) (M:Int):Prop:=∀ x∈l,(0≤x.1∧x.1≤1000)∧0≤x.2∧x.2≤M
theorem Bd.ok {l:List EX} {M:Int} (h:Bd l M)(hM:M≤1000):∀ a∈l,XOk a:=fun a ha=>by
 have:=h a ha
 unfold XOk
 omega
theorem Bd.with {l:List EX} {M:Int} (h:Bd l M)(hM:0≤M){b:Nat} (hb:b<32):Bd (zc3 l b) (M+1)∧(zc3 l b).length≤l.length+1:=by
 rcases List.eq_nil_or_concat l with rfl | ⟨q,x,rfl⟩
 ·refine⟨fun y hy=>?_,by simp[zc3]⟩
  rw[ziq,List.mem_singleton] at hy
  subst hy
  simp only
  omega
 ·rw[List.concat_eq_append] at h ⊢
  rw[zdw]
  have hq:∀ y∈q,(0≤y.1∧y.1≤1000)∧0≤y.2∧y.2≤M:=fun y hy=>h y (by simp[hy])
  have hx:=h x (by simp)
  split
  ·refine⟨fun y hy=>?_,by simp⟩
   rcases List.mem_append.1 hy with hy | hy
   ·have:=hq y hy;omega
   ·rw[List.mem_singleton] at hy;subst hy;simp only;omega
  ·refine⟨fun y hy=>?_,by simp⟩
   rcases List.mem_append.1 hy with hy | hy
   ·have:=h y hy;omega
   ·rw[List.mem_singleton] at hy;subst hy;simp only;omega
theorem OwnX.other {w:World} {B:Nat} {R:Option Addr} {cap:Nat} {l:List EX} (h:OwnX w B R cap l){q:Nat} (hq:q<B)(v:Value):OwnX (w.setCell ⟨q,0,none⟩ v) B R cap l:=
 World.ownsRow.kept (row:=some q) h ⟨rfl,rfl,rfl,by simp,fun k _ hk=>heap_setCell_other w ⟨q,0,none⟩ k v (fun e=>hk (by rw[e]))⟩ (by
  cases e:Value.ownBlock (.slice R l.length cap) with
  | none=>exact Or.inl rfl
  | some k=>exact Or.inr (fun e2=>by
   have:=(World.ownsRow.lt h k e).1
   cases e2
   omega))
def zoi (w:World) (B:Nat) (v:Value) (m:List EX) (e:Ending) (w':World):Prop:=∃ R cap,e=.returned (.slice R m.length cap)∧OwnX w' B R cap m∧Below B w w'∧Beside w w' v (.slice R m.length cap)
def zv1 (w:World) (B:Nat) (m:List EX) (e:Ending) (w':World):Prop:=∃ R cap,e=.returned (.slice R m.length cap)∧OwnX w' B R cap m∧Below B w w'
end Ex
namespace Ex
open Go.RowKit
theorem yc1 {w:World} {B:Nat} {R:Option Addr} {cap:Nat} (h:OwnX w B R cap [])(hB:B≤w.heap.size)(b:Nat):
  Calls Tryz.prog 174 #[.slice R 0 cap,.int .i64 (b:Int)] w (zoi w B (.slice R 0 cap) [((b:Int),1)]):=by
 have k1:IntKind.i64.wrap (0-1)=-1:=by decide
 have H:=zq h
 clear h
 go_enter Tryz.func174,Tryz.ntmps174
 go_wp2_with fail
 go_quiet (fail)
 have own1:=H.out.drewN nq
 have bel1:Below B w (w.drewN nq):=below_drewN (Below.refl _ _) nq
 have hB1:B≤(w.drewN nq).heap.size:=hB
 have bel1z:w.heap.size≤(w.drewN nq).heap.size+1:=Nat.le_succ _
 have bel1k:∀ (k:Nat),(w.drewN nq).heap[k]?=w.heap[k]?:=fun _=>rfl
 have bel1s:(w.drewN nq).heap.size=w.heap.size:=rfl
 generalize w.drewN nq=w1 at *
 have ownA:=own1.alloc (.cells #[.int .i64 (b:Int),.int .i64 1] 152)
 have belA:Below B w (w1.alloc (.cells #[.int .i64 (b:Int),.int .i64 1] 152)):=bel1.alloc hB1 _
 obtain⟨R',cap',w2,hap,own3,b3,s3⟩:=ownA.app (Nat.le_trans hB belA.size) (by simp) [((b:Int),1)] (by simp) ⟨w1.heap.size,0,none⟩ 1 (fun j u hu=>by
  rw[add_zero,cell_of_row _ _ _ _ _ _ (heap_alloc_new w1 _)]
  simpa [zc5] using hu)
 have HAP:=zq hap
 have HF:Hid (zoi w B (.slice R 0 cap) [((b:Int),1)] (.returned (.slice R' 1 cap')) w2):=⟨R',cap',rfl,own3,belA.trans b3,s3.from (by simp;exact bel1z) (fun k hk=>(Below.heap_alloc _ _ _ (by omega)).trans (bel1k k))⟩
 clear own1 bel1 ownA belA hap own3 b3 H bel1k bel1s bel1z s3
 go_wp2_with (first | (at_builtin;refine zak rfl _ _ 111 rfl _ HAP.out ?_) | fail)
 go_ret
 exact HF.out
theorem zyh {w:World} {B:Nat} {R:Option Addr} {cap:Nat} {q:List EX} {x:EX} (h:OwnX w B R cap (q++[x]))(hB:B≤w.heap.size)(hl:q.length≤500)(b:Nat)(hx:(0≤x.1∧x.1≤1000)∧0≤x.2∧x.2≤100):
  Calls Tryz.prog 174 #[.slice R (q++[x]).length cap,.int .i64 (b:Int)] w (zoi w B (.slice R (q++[x]).length cap) (zc3 (q++[x]) b)):=by
 have hlen:(q++[x]).length=q.length+1:=by simp
 obtain⟨g,rfl,hg,hgl,c0,c1,hf⟩:=h.at_ (k:=q.length) (by omega)
 have e0:(q++[x])[q.length]'(by omega)=x:=by simp
 rw[e0] at c0 c1
 have k2:((q++[x]).length:Int)-1=(q.length:Int):=by omega
 have k3:q.length<(q++[x]).length:=by omega
 have kw:IntKind.i64.wrap (q.length:Int)=(q.length:Int):=by rw[IntKind.wrap_i64];omega
 have ks:IntKind.i64.wrap (x.1+x.2)=x.1+x.2:=by rw[IntKind.wrap_i64];omega
 have kn:IntKind.i64.wrap (x.2+1)=x.2+1:=by rw[IntKind.wrap_i64];omega
 have H:=zq h
 by_cases hs:x.1+x.2=(b:Int)
 ·have hw:zc3 (q++[x]) b=q++[(x.1,x.2+1)]:=by rw[zdw,zp hs]
  have HF:Hid (∀ nq,zoi w B (.slice (some ⟨g,0,none⟩) (q++[x]).length cap) (zc3 (q++[x]) b) (.returned (.slice (some ⟨g,0,none⟩) (q++[x]).length cap)) ((w.drewN nq).setCell ⟨g,q.length*2+1,none⟩ (.int .i64 (x.2+1)))):=fun nq=>by
   refine⟨_,cap,?_,by rw[hw];exact(h.drewN nq).long _,?_,⟨by simp,fun k hk hn=>heap_setCell_other _ _ _ _ (fun e=>hn (by rw[e];rfl)),fun k e=>.inl (by simpa [Value.ownBlock] using e)⟩⟩
   ·rw[hw];simp
   ·exact(below_drewN (Below.refl _ _) nq).trans ⟨rfl,rfl,rfl,by simp,fun k hk=>heap_setCell_other _ _ _ _ (by show k≠g;omega)⟩
  have ks1:IntKind.i64.wrap (x.1+x.2)=(b:Int):=by rw[ks,hs]
  clear h H hlen e0 ks
  generalize (q++[x]).length=n at *
  generalize q.length=m at *
  obtain⟨s,t⟩:=x
  simp only at c0 c1 ks1 kn hs HF
  clear hs hx hw
  go_enter Tryz.func174,Tryz.ntmps174
  go_wp2_with fail
  go_quiet (fail)
  go_wp2_with fail
  go_ret
  exact HF.out _
 ·have hw:zc3 (q++[x]) b=q++[x]++[((b:Int),1)]:=by rw[zdw,zn hs]
  have hs1:(x.1+x.2==(b:Int))=false:=by simpa using hs
  rw[hw]
  have HL:Hid ((q++[x]).length≤501):=by show _≤_;omega
  clear h hlen e0 hw
  generalize q++[x]=l at *
  generalize hn:l.length=n at *
  have HN:=zq hn
  clear hn
  generalize q.length=m at *
  obtain⟨z,hz⟩:∃ z,z=x.1+x.2:=⟨_,rfl⟩
  have ks1:IntKind.i64.wrap (x.1+x.2)=z:=by rw[ks,hz]
  rw[← hz] at hs1
  obtain⟨s,t⟩:=x
  simp only at c0 c1 ks1 kn
  clear hz hx ks hs
  go_enter Tryz.func174,Tryz.ntmps174
  go_wp2_with fail
  go_quiet (fail)
  have own1:=H.out.drewN nq
  have bel1:Below B w (w.drewN nq):=below_drewN (Below.refl _ _) nq
  have hB1:B≤(w.drewN nq).heap.size:=hB
  have bel1z:w.heap.size≤(w.drewN nq).heap.size+1:=Nat.le_succ _
  have bel1k:∀ (k:Nat),(w.drewN nq).heap[k]?=w.heap[k]?:=fun _=>rfl
  have bel1s:(w.drewN nq).heap.size=w.heap.size:=rfl
  generalize w.drewN nq=w1 at *
  have ownA:=own1.alloc (.cells #[.int .i64 (b:Int),.int .i64 1] 152)
  have belA:Below B w (w1.alloc (.cells #[.int .i64 (b:Int),.int .i64 1] 152)):=bel1.alloc hB1 _
  obtain⟨R',cap',w2,hap,own3,b3,s3⟩:=ownA.app (Nat.le_trans hB belA.size) (by rw[HN.out];have:=HL.out;omega) [((b:Int),1)] (by simp) ⟨w1.heap.size,0,none⟩ 1 (fun j u hu=>by
   rw[add_zero,cell_of_row _ _ _ _ _ _ (heap_alloc_new w1 _)]
   simpa [zc5] using hu)
  rw[HN.out] at hap
  have HF:Hid (zoi w B (.slice (some ⟨g,0,none⟩) n cap) (l++[((b:Int),1)]) (.returned (.slice R' (l++[((b:Int),1)]).length cap')) w2):=⟨R',cap',rfl,own3,belA.trans b3,by rw[HN.out] at s3;exact s3.from (by simp;exact bel1z) (fun k hk=>(Below.heap_alloc _ _ _ (by omega)).trans (bel1k k))⟩
  generalize (l++[((b:Int),1)]).length=n2 at *
  have HAP:=zq hap
  clear own1 bel1 ownA belA hap own3 b3 H bel1k bel1s bel1z s3
  go_wp2_with (first | (at_builtin;refine zak rfl _ _ 111 rfl _ HAP.out ?_) | fail)
  go_ret
  exact HF.out
theorem zeh {w:World} {B:Nat} {R:Option Addr} {cap:Nat} {l:List EX} (h:OwnX w B R cap l)(hB:B≤w.heap.size)(hl:l.length≤500)(hd:Bd l 100)(b:Nat):
  Calls Tryz.prog 174 #[.slice R l.length cap,.int .i64 (b:Int)] w (zoi w B (.slice R l.length cap) (zc3 l b)):=by
 rcases List.eq_nil_or_concat l with rfl | ⟨q,x,rfl⟩
 ·exact yc1 h hB b
 ·rw[List.concat_eq_append] at *
  exact zyh h hB (by simp at hl;omega) b (hd x (by simp))
theorem ybx (A:Option Addr)(l:List EX)(c:Nat)(w:World)(h:XR w w.heap.size A l)(hl:l.length≤100):
  Calls Tryz.prog 172 #[.slice A l.length c] w (zv1 w w.heap.size l):=by
 rcases A with _ | ad
 ·have e:l=[]:=by
   by_cases hn:l=[]
   ·exact hn
   ·obtain⟨_,e,_⟩:=h.ar hn;cases e
  subst e
  have HF:Hid (zv1 w w.heap.size [] (.returned (.slice none 0 0)) w):=⟨none,0,rfl,OwnX.nil _ _,Below.refl _ _⟩
  have hq:=Lib.run_eql_slice_nil (P:=Tryz.prog) w 111 152 none 0 c 0 0 Tryz.underlying111
  clear h hl
  go_enter Tryz.func172,Tryz.ntmps172
  go_wp2_with fail
  go_ret
  exact HF.out
 ·have own1:OwnX (w.alloc (.cells #[] 152)) w.heap.size (some ⟨w.heap.size,0,none⟩) 0 []:=OwnX.empty (Nat.le_refl _)
  have bel1:Below w.heap.size w (w.alloc (.cells #[] 152)):=(Below.refl _ _).alloc (Nat.le_refl _) _
  have h1:=h.below bel1
  obtain⟨R',cap',w2,hap,own3,b3,_⟩:=own1.app bel1.size (by simp) l (by omega) ad c (fun j u hu=>by
   obtain⟨a,ha,hv⟩:=yba l j u hu
   obtain⟨ad',e,_,hc⟩:=h1.ar (by intro e;subst e;simp at ha)
   cases e
   have:=hc _ a ha _ u hv
   rw[Go.Deep.add_add,show j / 2*2+j % 2=j from by omega] at this
   exact this)
  rw[List.nil_append] at hap own3
  have HF:Hid (zv1 w w.heap.size l (.returned (.slice R' l.length cap')) w2):=⟨R',cap',rfl,own3,bel1.trans b3⟩
  have HAP:=zq hap
  have hq:=Lib.run_eql_slice_nil (P:=Tryz.prog) w 111 152 (some ad) l.length c 0 0 Tryz.underlying111
  clear h h1 own1 bel1 hap own3 b3
  go_enter Tryz.func172,Tryz.ntmps172
  go_wp2_with (first | (at_builtin;refine zak rfl _ _ 111 rfl _ HAP.out ?_) | fail)
  go_ret
  exact HF.out
end Ex
namespace Ino
open Go.RowKit Ex
theorem box_r (w:World)(C:Array Value):(Instr.box 176 (.agg C)).run Tryz.prog w=.ok (.pointer (some ⟨w.heap.size,0,none⟩)) (w.alloc (.cells C 176)):=rfl
theorem yf2:(Tryz.prog.info? 152).map (·.size)=some 2:=by kernel_rfl
theorem zbc:(Tryz.prog.info? 113).map (·.size)=some 3:=by kernel_rfl
theorem ztp (w:World):(isAgg 5).run Tryz.prog w=.ok false w:=by unfold isAgg;rw[Sem.run_bind,run_underlying Tryz.underlying5 w];rfl
theorem zrb (b:List UInt8){k:Nat} (hk:k<23)(h:∀ e∈(zaf b).take k,e≠(0,0))(h0:(zaf b).getD k (0,0)=(0,0)):zn7 b=(zaf b).take k:=by
 have hl:(zaf b).length=23:=by simp[zaf]
 unfold zn7
 have hs:zaf b=(zaf b).take k++(zaf b)[k]'(by omega)::(zaf b).drop (k+1):=by
  rw[← List.drop_eq_getElem_cons,List.take_append_drop]
 rw[List.getD_eq_getElem?_getD,List.getElem?_eq_getElem (by omega),Option.getD_some] at h0
 have ha:∀ (l r:List EX) (e:EX),(∀ x∈l,x≠(0,0))→e=(0,0)→(l++e::r).takeWhile (fun e=>decide (e≠(0,0)))=l:=by
  intro l r e hl he
  induction l with
  | nil=>rw[List.nil_append,List.takeWhile_cons,he];rfl
  | cons y t ih =>
   rw[List.cons_append,List.takeWhile_cons,zp (by simpa using hl y (by simp)),ih (fun x hx=>hl x (by simp[hx]))]
 have:=ha _ ((zaf b).drop (k+1)) _ h h0
 rw[← hs] at this
 exact this
theorem zvj (b:List UInt8)(h:∀ e∈(zaf b).take 23,e≠(0,0)):zn7 b=(zaf b).take 23:=by
 have hl:(zaf b).length=23:=by simp[zaf]
 rw[List.take_of_length_le (by omega)] at h ⊢
 unfold zn7
 have:=zdz (fun e:EX=>decide (e≠(0,0))) (zaf b) [] (fun x hx=>by simpa using h x hx) (fun x hx=>by cases hx)
 rwa [List.append_nil] at this
theorem zsk (b:List UInt8){k:Nat} (hk:k<23):(zaf b).getD k (0,0)=(((b.getD (18+2*k) 0).toNat:Int),((b.getD (19+2*k) 0).toNat:Int)):=by
 simp[zaf,List.getD_eq_getElem?_getD,hk]
theorem zjv (b:List UInt8){k:Nat} (hk:k<23):(zaf b).take (k+1)=(zaf b).take k++[(zaf b).getD k (0,0)]:=by
 have hl:(zaf b).length=23:=by simp[zaf]
 rw[List.take_succ_eq_append_getElem (by omega),List.getD_eq_getElem?_getD,List.getElem?_eq_getElem (by omega),Option.getD_some]
theorem zhk (b:List UInt8)(k:Nat):∀ e∈(zaf b).take k,XOk e:=by
 intro e he
 have h1:=List.mem_of_mem_take he
 simp only[zaf,List.mem_map,List.mem_range] at h1
 obtain⟨j,_,rfl⟩:=h1
 unfold XOk
 have:=(b.getD (18+2*j) 0).toNat_lt
 have:=(b.getD (19+2*j) 0).toNat_lt
 simp only
 omega
theorem zeb {w w':World} {B:Nat} {R:Option Addr} {cap:Nat} {l:List EX} (h:OwnX w B R cap l){q:Nat} (hq:q<B)(k:Keeps (·=q) w w'):OwnX w' B R cap l:=
 World.ownsRow.kept (row:=some q) h ⟨k.os,k.tape,k.output,k.size,fun j hj hn=>k.block j hj (fun e=>hn (by rw[e]))⟩ (by
  cases e:Value.ownBlock (.slice R l.length cap) with
  | none=>exact Or.inl rfl
  | some k=>exact Or.inr (fun e2=>by
   have:=(World.ownsRow.lt h k e).1
   cases e2
   omega))
def zm1 (w:World) (x:IN) (e:Ending) (w':World):Prop:=∃ R c,e=.returned (ag x R c)∧XR w' w'.heap.size R x.ext∧Below w.heap.size w w'∧∀ ad,R=some ad→x.ext≠[]→w.heap.size≤ad.block
def zkg (w:World) (b:List UInt8) (wr:World) (i:Value):Prop:=∃ (k:Nat) (R:Option Addr) (c:Nat),i=.int .i64 (18+2*(k:Int))∧k≤23∧(∀ e∈(zaf b).take k,e≠(0,0)) ∧
 wr.heap[w.heap.size]?=some (.cells (b.map B8).toArray 176 (0,0))∧wr.heap[w.heap.size+1]?=some (.cells #[.string ⟨#[]⟩,.int .i64 0,.slice none 0 0] 113 (0,0)) ∧
 wr.heap[w.heap.size+1+1]?=some (.cells #[St (zbn b),.int .i64 (zcv b),.slice R ((zaf b).take k).length c] 113 (0,0)) ∧
 OwnX wr (w.heap.size+3) R c ((zaf b).take k)∧w.heap.size+3≤wr.heap.size∧Below w.heap.size w wr
theorem ydk (b:List UInt8)(w:World)(hl:b.length=64):Calls Tryz.prog 150 #[ag8 b] w (zm1 w (za8 b)):=by
 have hu:=(b.getD 0 0).toNat_lt
 have hnm:zbn b=(b.drop 1).take (min (b.getD 0 0).toNat 15):=rfl
 have hC0:(b.map B8).toArray[0]?=some (.int .u8 ((b.getD 0 0).toNat:Int)):=by
  simp[show 0<b.length by omega,List.getD_eq_getElem?_getD]
 generalize (b.getD 0 0).toNat=n at *
 unfold ag8
 obtain⟨C,hC⟩:∃ C,C=(b.map B8).toArray:=⟨_,rfl⟩
 rw[← hC] at hC0 ⊢
 obtain⟨wA,hwA⟩:∃ wA,wA=w.alloc (.cells C 176):=⟨_,rfl⟩
 have a0:wA.heap[w.heap.size]?=some (.cells C 176 (0,0)):=by rw[hwA];exact heap_alloc_new w _
 have bA:Below w.heap.size w wA:=by rw[hwA];exact(Below.refl _ _).alloc (Nat.le_refl _) _
 have sA:wA.heap.size=w.heap.size+1:=by rw[hwA,World.size_alloc]
 obtain⟨wB,hwB⟩:∃ wB,wB=wA.alloc (.cells #[.string ⟨#[]⟩,.int .i64 0,.slice none 0 0] 113):=⟨_,rfl⟩
 have b0:wB.heap[w.heap.size]?=some (.cells C 176 (0,0)):=by rw[hwB];exact(Below.heap_alloc _ _ _ (by omega)).trans a0
 have b1:wB.heap[w.heap.size+1]?=some (.cells #[.string ⟨#[]⟩,.int .i64 0,.slice none 0 0] 113 (0,0)):=by rw[hwB,← sA];exact heap_alloc_new wA _
 have bB:Below w.heap.size w wB:=by rw[hwB];exact bA.alloc bA.size _
 have sB:wB.heap.size=w.heap.size+1+1:=by rw[hwB,World.size_alloc,sA]
 rw[hC] at b0
 have HC:=zq hC
 have B0:=zq b0
 have B1:=zq b1
 have BB:=zq bB
 have SB:=zq sB
 have HNM:=zq hnm
 have HLN:=zq hl
 rw[hwA] at hwB
 have HWB:=zq hwB
 clear bA sA a0 b0 b1 bB sB hnm hC hwB hwA hl
 go_enter Tryz.func150,Tryz.ntmps150
 go_wp2_with (first
  | ((with_reducible refine at_ (op:=.box 176 (.tmp 0)) ?_);refine zaj rfl _ (ybl 176 (.tmp 0) rfl _ _ rfl (box_r w C)) ?_)
  | fail)
 case inr =>
  have hlnm:(zbn b).length=n:=by rw[HNM.out,List.length_take,List.length_drop,HLN.out];omega
  rw[← HWB.out]
  clear HWB
  have c0:wB.drew.heap[w.heap.size]?=some (.cells (b.map B8).toArray 176 (0,0)):=B0.out
  have c1:wB.drew.heap[w.heap.size+1]?=_:=B1.out
  have bC:Below w.heap.size w wB.drew:=BB.out.drew
  have sC:wB.drew.heap.size=w.heap.size+1+1:=SB.out
  clear B0 B1 BB SB
  refine wp_region_held (S:=fun W=>Below (w.heap.size+1+1) wB.drew W) (by kernel_rfl) ?_
  change wpAnyH _ _ _ _ _ _ _ _ wB.drew
  have hS:Below (w.heap.size+1+1) wB.drew wB.drew:=Below.refl _ _
  generalize wB.drew=wC at *
  have hbr:∀ W,Below (w.heap.size+1+1) wC W→BR W W.heap.size (some ⟨w.heap.size,0,none⟩) b:=fun W hW=>by
   have h1:=(hW.block w.heap.size (by omega)).trans c0
   exact(Row8.of_block h1).br
  have hcv:∀ W,Below (w.heap.size+1+1) wC W→(convert 31 9 (.slice (some ⟨w.heap.size,1,none⟩) n 63)).run Tryz.prog W=.ok (St (zbn b)) W:=fun W hW=>by
   have h1:=(hW.block w.heap.size (by omega)).trans c0
   have:=zex (P:=Tryz.prog) W W.heap.size 31 9 5 (some ⟨w.heap.size,1,none⟩) (zbn b) 63 (fun _=>⟨_,rfl,(Row8.of_block h1).lt,fun k u hk=>by
    have hkl:=(List.getElem?_eq_some_iff.1 hk).1
    rw[HNM.out,List.getElem?_take,zp (by omega),List.getElem?_drop] at hk
    rw[show(⟨w.heap.size,1,none⟩:Addr).add k=⟨w.heap.size,1+k,none⟩ from by unfold Addr.add;split<;>simp_all,(Row8.of_block h1).cell_ (by rw[HLN.out];omega),List.getD_eq_getElem?_getD,hk]
    rfl⟩) Tryz.underlying31 Tryz.underlying5 Tryz.underlying9
   rw[hlnm] at this
   exact this
  have hnl:=zl6 b 16 2
  have hnum:∀ W,Below (w.heap.size+1+1) wC W→Calls Tryz.prog 165 #[.slice (some ⟨w.heap.size,0,none⟩) 64 64,.int .i64 16,.int .i64 2] W fun e W'=>e=.returned (.int .u64 (num b 16 2:Nat))∧W'=W:=fun W hW=>by
   have:=zme (some ⟨w.heap.size,0,none⟩) b 64 16 2 W (hbr W hW) (by rw[HLN.out];decide) (by decide)
   rw[HLN.out] at this
   exact this.mono fun e W' ⟨he,hw⟩=>⟨he,hw.symm⟩
  have HS1:Hid (zcv b=(num b 16 2:Nat)):=zq rfl
  have HX:Hid (∀ W,Below (w.heap.size+1+1) wC W→Below (w.heap.size+1+1) wC (W.alloc (.cells #[.string ⟨#[]⟩,.int .i64 0,.slice none 0 0] 113))):=zq fun W hW=>hW.alloc (by rw[← sC];exact hW.size) _
  generalize hnn:num b 16 2=nn at *
  have hn1:nn<65536:=hnl
  clear hnl hnn
  have hwn:IntKind.i64.wrap (nn:Int)=(nn:Int):=by rw[IntKind.wrap_i64];omega
  have hq1:(1:Int)≤1+(n:Int):=by omega
  have hq2:1+(n:Int)≤16→1+(n:Int)≤64:=by omega
  have hone:(#[St (zbn b),.int .i64 (nn:Int),.slice none 0 0]:Array Value).all (·.oneCell')=true:=by simp[Value.oneCell']
  have HCV:=zq hcv
  have HNUM:=zq hnum
  clear hcv hnum
  refine sqH 0 (.int .i64 (1+(n:Int))) rfl (Or.inl ⟨by rfl,fun _ _=>rfl⟩) hS ?_
  try simp only[Act.put,sqX]
  refine sqH 1 (.slice (some ⟨w.heap.size,1,none⟩) n 63) rfl (Or.inl ⟨by rfl,fun _ _=>by go_simp;try omega⟩) hS ?_
  try simp only[Act.put,sqX]
  refine sqH 2 (St (zbn b)) rfl (Or.inl ⟨by rfl,fun W h=>zf6 31 9 (.tmp 13) rfl _ _ rfl (HCV.out W h)⟩) hS ?_
  try simp only[Act.put,sqX]
  refine sqH 3 (.slice (some ⟨w.heap.size,0,none⟩) 64 64) rfl (Or.inl ⟨by rfl,fun _ _=>by go_simp⟩) hS ?_
  try simp only[Act.put,sqX]
  refine zgt 4 5 6 7 ⟨_,_,_,_,_,_⟩ ⟨_,_,_,_,_,_⟩ ⟨_,_,_,_,_,_⟩ ⟨_,_,_,_,_,_⟩ rfl rfl rfl rfl (by kernel_rfl) 165 #[.slice (some ⟨w.heap.size,0,none⟩) 64 64,.int .i64 16,.int .i64 2] (.int .u64 (nn:Nat)) (.int .i64 (nn:Int)) (.agg #[St (zbn b),.int .i64 (nn:Int),.slice none 0 0]) (.pointer (some ⟨wC.heap.size,0,none⟩)) (w':=wC.alloc (.cells #[.string ⟨#[]⟩,.int .i64 0,.slice none 0 0] 113)) rfl rfl (fun _=>by go_simp) HNUM.out (Or.inl ⟨by rfl,fun _ _=>by go_simp⟩) (Or.inl ⟨by rfl,fun _ _=>by go_simp⟩) (by go_simp) hS (HX.out _ hS) (fun _ _ _ h=>h) (fun _ _ _ h=>h) ?_
  try simp only[Act.put,sqX]
  have hS2:=HX.out _ hS
  have g2:(wC.alloc (.cells #[.string ⟨#[]⟩,.int .i64 0,.slice none 0 0] 113)).heap[wC.heap.size]?=some (.cells #[.string ⟨#[]⟩,.int .i64 0,.slice none 0 0] 113 (0,0)):=heap_alloc_new wC _
  have s2:(wC.alloc (.cells #[.string ⟨#[]⟩,.int .i64 0,.slice none 0 0] 113)).heap.size=w.heap.size+3:=by rw[World.size_alloc,sC]
  rw[sC] at g2
  have ep:Value.pointer (some ⟨wC.heap.size,0,none⟩)=.pointer (some ⟨w.heap.size+1+1,0,none⟩):=by rw[sC]
  rw[ep]
  clear hS ep
  generalize wC.alloc (.cells #[.string ⟨#[]⟩,.int .i64 0,.slice none 0 0] 113)=wD at *
  have hS:=hS2
  clear hS2
  refine wpAnyH_all (rs:=[8]) (by kernel_rfl) (by simp) fun i hi=>?_
  obtain rfl:i=8:=by simpa using hi
  have srun:=run_storeAt_mid (P:=Tryz.prog) wD (w.heap.size+1+1) 0 113 #[St (zbn b),.int .i64 (nn:Int),.slice none 0 0] (zax (zs:=[_,_,_]) g2 0 3 (by simp)) zbc hone
  obtain⟨g3,k3⟩:=zah (zs:=[_,_,_]) (ys:=[St (zbn b),.int .i64 (nn:Int),.slice none 0 0]) g2 rfl
  refine zc0 (om:=⟨_,_,_,_,_,_⟩) (w':=wD.setCells (w.heap.size+1+1) 0 [St (zbn b),.int .i64 (nn:Int),.slice none 0 0]) rfl rfl (zbb 113 (.tmp 4) (.tmp 18) rfl _ _ rfl rfl srun) ?_
  have hS3:Below (w.heap.size+1+1) wC _:=hS.trans (k3.toBelow _ (by omega) (by intro k hk;omega))
  have s3:=k3.size
  clear srun k3 hS hi
  generalize wD.setCells (w.heap.size+1+1) 0 [St (zbn b),.int .i64 (nn:Int),.slice none 0 0]=wE at *
  have hS:=hS3
  clear hS3
  refine⟨hS,?_⟩
  try simp only[Act.put,sqX]
  refine wpAnyH_done (by kernel_rfl) ?_ _
  try simp only[Act.put,sqX]
  have e0:=(hS.block w.heap.size (by omega)).trans c0
  have e1:=(hS.block (w.heap.size+1) (by omega)).trans c1
  have bE:=bC.trans (hS.mono (by omega))
  have sE:w.heap.size+3≤wE.heap.size:=by omega
  have HR0:Hid (zkg w b wE (.int .i64 18)):=⟨0,none,0,rfl,by omega,(fun e he=>by cases he),e0,e1,by rw[HS1.out];exact g3,OwnX.nil _ _,sE,bE⟩
  clear e0 e1 bE sE g3 hS c0 c1 bC
  go_wp2_with fail
  go_loopw [5,6] (fun i _ wr=>zkg w b wr i) (fun i _ _=>(64-RowKit.intOf i).toNat)
  case atStart=>exact HR0.out
  case round =>
   obtain⟨k,R,c,rfl,hk,hall,e0,e1,e2,ow,hsz,hb⟩:=hrel
   by_cases hlt:k<23
   ·have p0:=(Row8.of_block e0).cell_ (k:=18+2*k) (by rw[HLN.out];omega)
    have p1:=(Row8.of_block e0).cell_ (k:=19+2*k) (by rw[HLN.out];omega)
    have hpa:=zsk b hlt
    have hpt:=zjv b hlt
    have l0:=(b.getD (18+2*k) 0).toNat_lt
    have l1:=(b.getD (19+2*k) 0).toNat_lt
    obtain⟨K,hK⟩:∃ K:Nat,K=18+2*k:=⟨_,rfl⟩
    rw[show 19+2*k=K+1 by omega] at p1 hpa l1
    rw[show 18+2*k=K by omega] at p0 hpa l0
    rw[show(18:Int)+2*(k:Int)=(K:Int) by omega]
    have q0:∀ W,Below wr.heap.size wr W→W.cell? ⟨w.heap.size,K,none⟩=some (.int .u8 ((b.getD K 0).toNat:Int)):=fun W hW=>(hW.cell (p:=⟨_,K,none⟩) (by show w.heap.size<_;omega)).trans p0
    have q1:∀ W,Below wr.heap.size wr W→W.cell? ⟨w.heap.size,K+1,none⟩=some (.int .u8 ((b.getD (K+1) 0).toNat:Int)):=fun W hW=>(hW.cell (p:=⟨_,K+1,none⟩) (by show w.heap.size<_;omega)).trans p1
    generalize (b.getD K 0).toNat=n0 at *
    generalize (b.getD (K+1) 0).toNat=n1 at *
    have l0':n0<256:=l0
    have l1':n1<256:=l1
    have ew3:IntKind.i64.wrap ((K:Int)+1)=((K+1:Nat):Int):=by rw[IntKind.wrap_i64];omega
    have ew5:IntKind.i64.wrap ((K:Int)+2)=((K+2:Nat):Int):=by rw[IntKind.wrap_i64];omega
    have ew6:IntKind.i64.wrap (n0:Int)=(n0:Int):=by rw[IntKind.wrap_i64];omega
    have ew7:IntKind.i64.wrap (n1:Int)=(n1:Int):=by rw[IntKind.wrap_i64];omega
    have hone2:(#[.int .i64 (n0:Int),.int .i64 (n1:Int)]:Array Value).all (·.oneCell')=true:=by simp[Value.oneCell']
    have hK1:(K:Int)<64:=by omega
    have hK2:((K+1:Nat):Int)<64:=by omega
    have HK:=zq hK
    have Q0:=zq q0
    have Q1:=zq q1
    have HPT:=zq hpt
    have HPA:=zq hpa
    have HALL:=zq hall
    have E0:=zq e0
    have E1:=zq e1
    have E2:=zq e2
    have OW:=zq ow
    have HB:=zq hb
    clear hK q0 q1 hpt hpa hall e0 e1 e2 ow hb p0 p1 l0 l1 HR0
    go_wp2_with fail
    refine wp_region_held (S:=fun W=>Below wr.heap.size wr W) (by kernel_rfl) ?_
    change wpAnyH _ _ _ _ _ _ _ _ wr.drew
    have hS:Below wr.heap.size wr wr.drew:=(Below.refl _ _).drew
    have hz:wr.drew.heap.size=wr.heap.size:=rfl
    generalize wr.drew=w2 at *
    refine sqH 0 (.int .i64 (K:Int)) rfl (Or.inl ⟨by rfl,fun _ _=>rfl⟩) hS ?_
    try simp only[Act.put,sqX]
    refine sqH 1 (.pointer (some ⟨w.heap.size,K,none⟩)) rfl (Or.inl ⟨by rfl,fun _ _=>by go_simp⟩) hS ?_
    try simp only[Act.put,sqX]
    refine sqH 2 (.int .u8 (n0:Int)) rfl (zai rfl 5 (.tmp 24) rfl _ _ rfl fun W h=>zal ztp (Q0.out W h)) hS ?_
    try simp only[Act.put,sqX]
    refine sqH 3 (.int .i64 (n0:Int)) rfl (Or.inl ⟨by rfl,fun _ _=>by go_simp⟩) hS ?_
    try simp only[Act.put,sqX]
    refine sqH 4 (.int .i64 (K:Int)) rfl (Or.inl ⟨by rfl,fun _ _=>rfl⟩) hS ?_
    try simp only[Act.put,sqX]
    refine sqH 5 (.int .i64 ((K+1:Nat):Int)) rfl (Or.inl ⟨by rfl,fun _ _=>by go_simp⟩) hS ?_
    try simp only[Act.put,sqX]
    refine sqH 6 (.pointer (some ⟨w.heap.size,K+1,none⟩)) rfl (Or.inl ⟨by rfl,fun _ _=>by go_simp;try omega⟩) hS ?_
    try simp only[Act.put,sqX]
    refine sqH 7 (.int .u8 (n1:Int)) rfl (zai rfl 5 (.tmp 29) rfl _ _ rfl fun W h=>zal ztp (Q1.out W h)) hS ?_
    try simp only[Act.put,sqX]
    refine sqH 8 (.int .i64 (n1:Int)) rfl (Or.inl ⟨by rfl,fun _ _=>by go_simp⟩) hS ?_
    try simp only[Act.put,sqX]
    refine sqH 9 (.agg #[.int .i64 (n0:Int),.int .i64 (n1:Int)]) rfl (Or.inl ⟨by rfl,fun _ _=>by go_simp⟩) hS ?_
    try simp only[Act.put,sqX]
    refine wpAnyH_all (rs:=[10]) (by kernel_rfl) (by simp) fun i hi=>?_
    obtain rfl:i=10:=by simpa using hi
    refine zi3 (om:=⟨_,_,_,_,_,_⟩) (u:=.pointer (some ⟨w2.heap.size,0,none⟩)) (w':=w2.alloc (.cells #[.int .i64 0,.int .i64 0] 152)) rfl rfl (by go_simp) _ _ rfl rfl ?_
    rintro u W3 ⟨rfl,rfl⟩
    have g3:(w2.alloc (.cells #[.int .i64 0,.int .i64 0] 152)).heap[w2.heap.size]?=some (.cells #[.int .i64 0,.int .i64 0] 152 (0,0)):=heap_alloc_new w2 _
    have hS3:Below wr.heap.size wr (w2.alloc (.cells #[.int .i64 0,.int .i64 0] 152)):=hS.alloc (by omega) _
    rw[hz] at g3 ⊢
    clear hS hi
    generalize w2.alloc (.cells #[.int .i64 0,.int .i64 0] 152)=w3 at *
    have hS:=hS3
    clear hS3
    refine⟨hS,?_⟩
    try simp only[Act.put,sqX]
    refine wpAnyH_all (rs:=[11]) (by kernel_rfl) (by simp) fun i hi=>?_
    obtain rfl:i=11:=by simpa using hi
    have srun:=run_storeAt_mid (P:=Tryz.prog) w3 wr.heap.size 0 152 #[.int .i64 (n0:Int),.int .i64 (n1:Int)] (zax (zs:=[_,_]) g3 0 2 (by simp)) yf2 hone2
    obtain⟨g4,k4⟩:=zah (zs:=[_,_]) (ys:=[.int .i64 (n0:Int),.int .i64 (n1:Int)]) g3 rfl
    refine zc0 (om:=⟨_,_,_,_,_,_⟩) (w':=w3.setCells wr.heap.size 0 [.int .i64 (n0:Int),.int .i64 (n1:Int)]) rfl rfl (zbb 152 (.tmp 6) (.tmp 32) rfl _ _ rfl rfl srun) ?_
    have hS3:Below wr.heap.size wr _:=hS.trans (k4.toBelow _ hS.size (by intro k hk;omega))
    clear srun k4 hS hi
    generalize w3.setCells wr.heap.size 0 [.int .i64 (n0:Int),.int .i64 (n1:Int)]=w4 at *
    have hS:=hS3
    clear hS3
    refine⟨hS,?_⟩
    try simp only[Act.put,sqX]
    refine wpAnyH_done (by kernel_rfl) ?_ _
    try simp only[Act.put,sqX]
    have ow3:=OW.out.below hS
    have e03:=(hS.block w.heap.size (by omega)).trans E0.out
    have e13:=(hS.block (w.heap.size+1) (by omega)).trans E1.out
    have e23:=(hS.block (w.heap.size+1+1) (by omega)).trans E2.out
    have hb3:=HB.out.trans (hS.mono HB.out.size)
    have hz3:=hS.size
    have t0:w4.cell? ⟨wr.heap.size,0,none⟩=some (.int .i64 n0):=by rw[cell_of_row _ _ _ _ _ _ g4];rfl
    have t1:w4.cell? ⟨wr.heap.size,1,none⟩=some (.int .i64 n1):=by rw[cell_of_row _ _ _ _ _ _ g4];rfl
    clear OW E0 E1 E2 HB hS Q0 Q1
    by_cases hnz:n0=0∧n1=0
    ·obtain⟨rfl,rfl⟩:=hnz
     have hext:=zrb b hlt HALL.out HPA.out
     have hl3:=zc8 (zs:=[_,_,_]) e23
     have lr:=run_loadAt_mid (P:=Tryz.prog) w4 (w.heap.size+1+1) 0 113 [St (zbn b),.int .i64 (zcv b),.slice R ((zaf b).take k).length c] _ hl3 Tryz.underlying113 rfl (by rw[zbc];rfl)
     have sr:=run_storeAt_mid (P:=Tryz.prog) w4 (w.heap.size+1) 0 113 #[St (zbn b),.int .i64 (zcv b),.slice R ((zaf b).take k).length c] (zax (zs:=[_,_,_]) e13 0 3 (by simp)) zbc (by simp[Value.oneCell'])
     obtain⟨h1,k1⟩:=zah (zs:=[_,_,_]) (ys:=[St (zbn b),.int .i64 (zcv b),.slice R ((zaf b).take k).length c]) e13 rfl
     have ow5:=zeb ow3 (by omega) k1
     have hb5:=hb3.trans (k1.toBelow w.heap.size hb3.size (by intro k hk;omega))
     generalize w4.setCells (w.heap.size+1) 0 [St (zbn b),.int .i64 (zcv b),.slice R ((zaf b).take k).length c]=w5 at *
     have hnew:∀ ad,R=some ad→(za8 b).ext≠[]→w.heap.size≤ad.block:=fun ad e hn=>by
      change zn7 b≠[] at hn
      rw[hext] at hn
      obtain⟨g,e2,hg,_⟩:=ow5.at_ (k:=0) (List.length_pos_iff.2 hn)
      rw[e] at e2
      cases e2
      show w.heap.size≤g
      omega
     have hout:zm1 w (za8 b) (.returned (.agg #[St (zbn b),.int .i64 (zcv b),.slice R ((zaf b).take k).length c])) w5:=
      ⟨R,c,by show _=Ending.returned (.agg #[St (zbn b),.int .i64 (zcv b),.slice R (zn7 b).length c]);rw[hext],by show XR w5 w5.heap.size R (zn7 b);rw[hext];exact ow5.xr (zhk b _),hb5,hnew⟩
     have LR:=zq lr
     have SR:=zq sr
     have H1:=zq h1
     have HOUT:=zq hout
     clear hl3 lr sr h1 k1 ow5 hb5 hout ow3 e13 e23 hb3 hext
     go_wp2_with (first
      | ((with_reducible refine at_ (op:=.load 113 (.tmp 4)) ?_);refine zaj rfl _ (zdd 113 (.tmp 4) rfl _ _ rfl LR.out) ?_)
      | ((with_reducible refine at_ (op:=.store 113 (.tmp 2) (.tmp 42)) ?_);refine zat rfl (zbb 113 (.tmp 2) (.tmp 42) rfl _ _ rfl rfl SR.out) ?_)
      | fail)
     refine bodyPost_ret (v:=.agg #[St (zbn b),.int .i64 (zcv b),.slice R ((zaf b).take k).length c]) ?_ rfl HOUT.out
     exact results_cell_row rfl _ _ (w.heap.size+1) 113 _ (0,0) _ rfl H1.out Tryz.underlying113 rfl (by rw[zbc];rfl)
    ·have hpt:=HPT.out
     rw[HPA.out] at hpt
     have hall2:∀ e∈(zaf b).take (k+1),e≠(0,0):=fun e he=>by
      rw[hpt] at he
      rcases List.mem_append.1 he with he | he
      ·exact HALL.out e he
      ·rw[List.mem_singleton] at he
       subst he
       intro h
       injection h with h1 h2
       exact hnz ⟨by omega,by omega⟩
     have ownA:=ow3.alloc (.cells #[.int .i64 (n0:Int),.int .i64 (n1:Int)] 152)
     have bA:Below (w.heap.size+3) w4 (w4.alloc (.cells #[.int .i64 (n0:Int),.int .i64 (n1:Int)] 152)):=(Below.refl _ _).alloc (by omega) _
     obtain⟨R',cap',w6,hap,own6,b6,s6⟩:=ownA.app (by rw[World.size_alloc];omega) (by rw[List.length_take];omega) [((n0:Int),(n1:Int))] (by simp) ⟨w4.heap.size,0,none⟩ 1 (fun j u hu=>by
      rw[Ex.add_zero,cell_of_row _ _ _ _ _ _ (heap_alloc_new w4 _)]
      simpa [zc5] using hu)
     rw[← hpt] at own6 hap
     have b46:=bA.trans b6
     have f13:=(b46.block (w.heap.size+1) (by omega)).trans e13
     have f03:=(b46.block w.heap.size (by omega)).trans e03
     have f23:=(b46.block (w.heap.size+1+1) (by omega)).trans e23
     have hb6:=hb3.trans (b46.mono (by omega))
     have x0:w4.cell? ⟨w.heap.size+1+1,2,none⟩=some (.slice R ((zaf b).take k).length c):=by rw[cell_of_row _ _ _ _ _ _ e23];rfl
     have x2:w6.cell? ⟨w.heap.size+1+1,2,none⟩=some (.slice R ((zaf b).take k).length c):=by rw[cell_of_row _ _ _ _ _ _ f23];rfl
     have xf:=frozen_of_row w6 (w.heap.size+1+1) 2 _ _ f23
     have HAP:=zq hap
     have HPT2:=zq hpt
     have hlk:((zaf b).take (k+1)).length=k+1:=by rw[hpt,List.length_append,List.length_take];simp[zaf];omega
     have g7:(w6.setCell ⟨w.heap.size+1+1,2,none⟩ (.slice R' ((zaf b).take (k+1)).length cap')).heap[w.heap.size+1+1]?=some (.cells #[St (zbn b),.int .i64 (zcv b),.slice R' ((zaf b).take (k+1)).length cap'] 113 (0,0)):=by
      rw[heap_setCell_same w6 _ 2 _ _ _ f23]
      simp
     have own7:=zeb own6 (q:=w.heap.size+1+1) (by omega) (Keeps.setCell (·=w.heap.size+1+1) w6 ⟨w.heap.size+1+1,2,none⟩ (.slice R' ((zaf b).take (k+1)).length cap') rfl)
     have hb7:=hb6.setCell (p:=⟨w.heap.size+1+1,2,none⟩) (by show _≤w.heap.size+1+1;omega) (.slice R' ((zaf b).take (k+1)).length cap')
     have f07:=(Below.heap_setCell w6 ⟨w.heap.size+1+1,2,none⟩ (.slice R' ((zaf b).take (k+1)).length cap') w.heap.size (by simp;omega)).trans f03
     have f17:=(Below.heap_setCell w6 ⟨w.heap.size+1+1,2,none⟩ (.slice R' ((zaf b).take (k+1)).length cap') (w.heap.size+1) (by simp)).trans f13
     have s7:w.heap.size+3≤(w6.setCell ⟨w.heap.size+1+1,2,none⟩ (.slice R' ((zaf b).take (k+1)).length cap')).heap.size:=by rw[World.size_setCell];have:=b46.size;omega
     have HR:Hid (zkg w b (w6.setCell ⟨w.heap.size+1+1,2,none⟩ (.slice R' ((zaf b).take (k+1)).length cap')) (.int .i64 ((K+2:Nat):Int))):=⟨k+1,R',cap',by rw[HK.out];congr 1,by omega,hall2,f07,f17,g7,own7,s7,hb7⟩
     have hmes:(64-((K+2:Nat):Int)).toNat<(64-(K:Int)).toNat:=by omega
     have HMES:=zq hmes
     clear hpt hall2 ownA bA own6 b6 s6 b46 f13 f03 f23 hb6 hap g7 own7 hb7 f07 f17 s7 hlk e03 e13 e23 hb3 ow3 hmes
     generalize ((zaf b).take (k+1)).length=L1 at *
     generalize ((zaf b).take k).length=L0 at *
     by_cases hn0:n0=0
     ·have hn1:¬n1=0:=fun h=>hnz ⟨hn0,h⟩
      subst hn0
      clear hnz
      have hb0:((n1:Int)==0)=false:=by simp[hn1]
      have hb1:¬(n1:Int)=0:=by omega
      go_wp2_with (first | (at_builtin;refine zak rfl _ _ 111 rfl _ HAP.out ?_) | fail)
      go_roundw
      case rel=>exact HR.out
      case measure=>exact HMES.out
     ·clear hnz
      have hb0:((n0:Int)==0)=false:=by simp[hn0]
      have hb1:¬(n0:Int)=0:=by omega
      go_wp2_with (first | (at_builtin;refine zak rfl _ _ 111 rfl _ HAP.out ?_) | fail)
      go_roundw
      case rel=>exact HR.out
      case measure=>exact HMES.out
   ·obtain rfl:k=23:=by omega
    have hext:=zvj b hall
    have ow3:=ow
    have e13:=e1
    have e23:=e2
    have hb3:=hb
    clear HR0
    obtain⟨w4,hw4⟩:∃ w4,w4=wr:=⟨_,rfl⟩
    rw[← hw4] at ow3 e13 e23 hb3 ⊢
    clear hw4 e0 e1 e2 ow hb
    have hl3:=zc8 (zs:=[_,_,_]) e23
    have lr:=run_loadAt_mid (P:=Tryz.prog) w4 (w.heap.size+1+1) 0 113 [St (zbn b),.int .i64 (zcv b),.slice R ((zaf b).take 23).length c] _ hl3 Tryz.underlying113 rfl (by rw[zbc];rfl)
    have sr:=run_storeAt_mid (P:=Tryz.prog) w4 (w.heap.size+1) 0 113 #[St (zbn b),.int .i64 (zcv b),.slice R ((zaf b).take 23).length c] (zax (zs:=[_,_,_]) e13 0 3 (by simp)) zbc (by simp[Value.oneCell'])
    obtain⟨h1,k1⟩:=zah (zs:=[_,_,_]) (ys:=[St (zbn b),.int .i64 (zcv b),.slice R ((zaf b).take 23).length c]) e13 rfl
    have ow5:=zeb ow3 (by omega) k1
    have hb5:=hb3.trans (k1.toBelow w.heap.size hb3.size (by intro k hk;omega))
    generalize w4.setCells (w.heap.size+1) 0 [St (zbn b),.int .i64 (zcv b),.slice R ((zaf b).take 23).length c]=w5 at *
    have hnew:∀ ad,R=some ad→(za8 b).ext≠[]→w.heap.size≤ad.block:=fun ad e hn=>by
     change zn7 b≠[] at hn
     rw[hext] at hn
     obtain⟨g,e2,hg,_⟩:=ow5.at_ (k:=0) (List.length_pos_iff.2 hn)
     rw[e] at e2
     cases e2
     show w.heap.size≤g
     omega
    have hout:zm1 w (za8 b) (.returned (.agg #[St (zbn b),.int .i64 (zcv b),.slice R ((zaf b).take 23).length c])) w5:=
     ⟨R,c,by show _=Ending.returned (.agg #[St (zbn b),.int .i64 (zcv b),.slice R (zn7 b).length c]);rw[hext],by show XR w5 w5.heap.size R (zn7 b);rw[hext];exact ow5.xr (zhk b _),hb5,hnew⟩
    have LR:=zq lr
    have SR:=zq sr
    have H1:=zq h1
    have HOUT:=zq hout
    clear hl3 lr sr h1 k1 ow5 hb5 hout ow3 e13 e23 hb3 hext
    go_wp2_with (first
     | ((with_reducible refine at_ (op:=.load 113 (.tmp 4)) ?_);refine zaj rfl _ (zdd 113 (.tmp 4) rfl _ _ rfl LR.out) ?_)
     | ((with_reducible refine at_ (op:=.store 113 (.tmp 2) (.tmp 42)) ?_);refine zat rfl (zbb 113 (.tmp 2) (.tmp 42) rfl _ _ rfl rfl SR.out) ?_)
     | fail)
    refine bodyPost_ret (v:=.agg #[St (zbn b),.int .i64 (zcv b),.slice R ((zaf b).take 23).length c]) ?_ rfl HOUT.out
    exact results_cell_row rfl _ _ (w.heap.size+1) 113 _ (0,0) _ rfl H1.out Tryz.underlying113 rfl (by rw[zbc];rfl)
 case inl =>
  have hlnm:(zbn b).length=15:=by rw[HNM.out,List.length_take,List.length_drop,HLN.out];omega
  rw[← HWB.out]
  clear HWB
  have c0:wB.drew.heap[w.heap.size]?=some (.cells (b.map B8).toArray 176 (0,0)):=B0.out
  have c1:wB.drew.heap[w.heap.size+1]?=_:=B1.out
  have bC:Below w.heap.size w wB.drew:=BB.out.drew
  have sC:wB.drew.heap.size=w.heap.size+1+1:=SB.out
  clear B0 B1 BB SB
  refine wp_region_held (S:=fun W=>Below (w.heap.size+1+1) wB.drew W) (by kernel_rfl) ?_
  change wpAnyH _ _ _ _ _ _ _ _ wB.drew
  have hS:Below (w.heap.size+1+1) wB.drew wB.drew:=Below.refl _ _
  generalize wB.drew=wC at *
  have hbr:∀ W,Below (w.heap.size+1+1) wC W→BR W W.heap.size (some ⟨w.heap.size,0,none⟩) b:=fun W hW=>by
   have h1:=(hW.block w.heap.size (by omega)).trans c0
   exact(Row8.of_block h1).br
  have hcv:∀ W,Below (w.heap.size+1+1) wC W→(convert 31 9 (.slice (some ⟨w.heap.size,1,none⟩) 15 63)).run Tryz.prog W=.ok (St (zbn b)) W:=fun W hW=>by
   have h1:=(hW.block w.heap.size (by omega)).trans c0
   have:=zex (P:=Tryz.prog) W W.heap.size 31 9 5 (some ⟨w.heap.size,1,none⟩) (zbn b) 63 (fun _=>⟨_,rfl,(Row8.of_block h1).lt,fun k u hk=>by
    have hkl:=(List.getElem?_eq_some_iff.1 hk).1
    rw[HNM.out,List.getElem?_take,zp (by omega),List.getElem?_drop] at hk
    rw[show(⟨w.heap.size,1,none⟩:Addr).add k=⟨w.heap.size,1+k,none⟩ from by unfold Addr.add;split<;>simp_all,(Row8.of_block h1).cell_ (by rw[HLN.out];omega),List.getD_eq_getElem?_getD,hk]
    rfl⟩) Tryz.underlying31 Tryz.underlying5 Tryz.underlying9
   rw[hlnm] at this
   exact this
  have hnl:=zl6 b 16 2
  have hnum:∀ W,Below (w.heap.size+1+1) wC W→Calls Tryz.prog 165 #[.slice (some ⟨w.heap.size,0,none⟩) 64 64,.int .i64 16,.int .i64 2] W fun e W'=>e=.returned (.int .u64 (num b 16 2:Nat))∧W'=W:=fun W hW=>by
   have:=zme (some ⟨w.heap.size,0,none⟩) b 64 16 2 W (hbr W hW) (by rw[HLN.out];decide) (by decide)
   rw[HLN.out] at this
   exact this.mono fun e W' ⟨he,hw⟩=>⟨he,hw.symm⟩
  have HS1:Hid (zcv b=(num b 16 2:Nat)):=zq rfl
  have HX:Hid (∀ W,Below (w.heap.size+1+1) wC W→Below (w.heap.size+1+1) wC (W.alloc (.cells #[.string ⟨#[]⟩,.int .i64 0,.slice none 0 0] 113))):=zq fun W hW=>hW.alloc (by rw[← sC];exact hW.size) _
  generalize hnn:num b 16 2=nn at *
  have hn1:nn<65536:=hnl
  clear hnl hnn
  have hwn:IntKind.i64.wrap (nn:Int)=(nn:Int):=by rw[IntKind.wrap_i64];omega
  have hq1:(1:Int)≤1+(n:Int):=by omega
  have hq2:1+(n:Int)≤16→1+(n:Int)≤64:=by omega
  have hone:(#[St (zbn b),.int .i64 (nn:Int),.slice none 0 0]:Array Value).all (·.oneCell')=true:=by simp[Value.oneCell']
  have HCV:=zq hcv
  have HNUM:=zq hnum
  clear hcv hnum
  refine sqH 0 (.int .i64 (16)) rfl (Or.inl ⟨by rfl,fun _ _=>rfl⟩) hS ?_
  try simp only[Act.put,sqX]
  refine sqH 1 (.slice (some ⟨w.heap.size,1,none⟩) 15 63) rfl (Or.inl ⟨by rfl,fun _ _=>by go_simp⟩) hS ?_
  try simp only[Act.put,sqX]
  refine sqH 2 (St (zbn b)) rfl (Or.inl ⟨by rfl,fun W h=>zf6 31 9 (.tmp 13) rfl _ _ rfl (HCV.out W h)⟩) hS ?_
  try simp only[Act.put,sqX]
  refine sqH 3 (.slice (some ⟨w.heap.size,0,none⟩) 64 64) rfl (Or.inl ⟨by rfl,fun _ _=>by go_simp⟩) hS ?_
  try simp only[Act.put,sqX]
  refine zgt 4 5 6 7 ⟨_,_,_,_,_,_⟩ ⟨_,_,_,_,_,_⟩ ⟨_,_,_,_,_,_⟩ ⟨_,_,_,_,_,_⟩ rfl rfl rfl rfl (by kernel_rfl) 165 #[.slice (some ⟨w.heap.size,0,none⟩) 64 64,.int .i64 16,.int .i64 2] (.int .u64 (nn:Nat)) (.int .i64 (nn:Int)) (.agg #[St (zbn b),.int .i64 (nn:Int),.slice none 0 0]) (.pointer (some ⟨wC.heap.size,0,none⟩)) (w':=wC.alloc (.cells #[.string ⟨#[]⟩,.int .i64 0,.slice none 0 0] 113)) rfl rfl (fun _=>by go_simp) HNUM.out (Or.inl ⟨by rfl,fun _ _=>by go_simp⟩) (Or.inl ⟨by rfl,fun _ _=>by go_simp⟩) (by go_simp) hS (HX.out _ hS) (fun _ _ _ h=>h) (fun _ _ _ h=>h) ?_
  try simp only[Act.put,sqX]
  have hS2:=HX.out _ hS
  have g2:(wC.alloc (.cells #[.string ⟨#[]⟩,.int .i64 0,.slice none 0 0] 113)).heap[wC.heap.size]?=some (.cells #[.string ⟨#[]⟩,.int .i64 0,.slice none 0 0] 113 (0,0)):=heap_alloc_new wC _
  have s2:(wC.alloc (.cells #[.string ⟨#[]⟩,.int .i64 0,.slice none 0 0] 113)).heap.size=w.heap.size+3:=by rw[World.size_alloc,sC]
  rw[sC] at g2
  have ep:Value.pointer (some ⟨wC.heap.size,0,none⟩)=.pointer (some ⟨w.heap.size+1+1,0,none⟩):=by rw[sC]
  rw[ep]
  clear hS ep
  generalize wC.alloc (.cells #[.string ⟨#[]⟩,.int .i64 0,.slice none 0 0] 113)=wD at *
  have hS:=hS2
  clear hS2
  refine wpAnyH_all (rs:=[8]) (by kernel_rfl) (by simp) fun i hi=>?_
  obtain rfl:i=8:=by simpa using hi
  have srun:=run_storeAt_mid (P:=Tryz.prog) wD (w.heap.size+1+1) 0 113 #[St (zbn b),.int .i64 (nn:Int),.slice none 0 0] (zax (zs:=[_,_,_]) g2 0 3 (by simp)) zbc hone
  obtain⟨g3,k3⟩:=zah (zs:=[_,_,_]) (ys:=[St (zbn b),.int .i64 (nn:Int),.slice none 0 0]) g2 rfl
  refine zc0 (om:=⟨_,_,_,_,_,_⟩) (w':=wD.setCells (w.heap.size+1+1) 0 [St (zbn b),.int .i64 (nn:Int),.slice none 0 0]) rfl rfl (zbb 113 (.tmp 4) (.tmp 18) rfl _ _ rfl rfl srun) ?_
  have hS3:Below (w.heap.size+1+1) wC _:=hS.trans (k3.toBelow _ (by omega) (by intro k hk;omega))
  have s3:=k3.size
  clear srun k3 hS hi
  generalize wD.setCells (w.heap.size+1+1) 0 [St (zbn b),.int .i64 (nn:Int),.slice none 0 0]=wE at *
  have hS:=hS3
  clear hS3
  refine⟨hS,?_⟩
  try simp only[Act.put,sqX]
  refine wpAnyH_done (by kernel_rfl) ?_ _
  try simp only[Act.put,sqX]
  have e0:=(hS.block w.heap.size (by omega)).trans c0
  have e1:=(hS.block (w.heap.size+1) (by omega)).trans c1
  have bE:=bC.trans (hS.mono (by omega))
  have sE:w.heap.size+3≤wE.heap.size:=by omega
  have HR0:Hid (zkg w b wE (.int .i64 18)):=⟨0,none,0,rfl,by omega,(fun e he=>by cases he),e0,e1,by rw[HS1.out];exact g3,OwnX.nil _ _,sE,bE⟩
  clear e0 e1 bE sE g3 hS c0 c1 bC
  go_wp2_with fail
  go_loopw [5,6] (fun i _ wr=>zkg w b wr i) (fun i _ _=>(64-RowKit.intOf i).toNat)
  case atStart=>exact HR0.out
  case round =>
   obtain⟨k,R,c,rfl,hk,hall,e0,e1,e2,ow,hsz,hb⟩:=hrel
   by_cases hlt:k<23
   ·have p0:=(Row8.of_block e0).cell_ (k:=18+2*k) (by rw[HLN.out];omega)
    have p1:=(Row8.of_block e0).cell_ (k:=19+2*k) (by rw[HLN.out];omega)
    have hpa:=zsk b hlt
    have hpt:=zjv b hlt
    have l0:=(b.getD (18+2*k) 0).toNat_lt
    have l1:=(b.getD (19+2*k) 0).toNat_lt
    obtain⟨K,hK⟩:∃ K:Nat,K=18+2*k:=⟨_,rfl⟩
    rw[show 19+2*k=K+1 by omega] at p1 hpa l1
    rw[show 18+2*k=K by omega] at p0 hpa l0
    rw[show(18:Int)+2*(k:Int)=(K:Int) by omega]
    have q0:∀ W,Below wr.heap.size wr W→W.cell? ⟨w.heap.size,K,none⟩=some (.int .u8 ((b.getD K 0).toNat:Int)):=fun W hW=>(hW.cell (p:=⟨_,K,none⟩) (by show w.heap.size<_;omega)).trans p0
    have q1:∀ W,Below wr.heap.size wr W→W.cell? ⟨w.heap.size,K+1,none⟩=some (.int .u8 ((b.getD (K+1) 0).toNat:Int)):=fun W hW=>(hW.cell (p:=⟨_,K+1,none⟩) (by show w.heap.size<_;omega)).trans p1
    generalize (b.getD K 0).toNat=n0 at *
    generalize (b.getD (K+1) 0).toNat=n1 at *
    have l0':n0<256:=l0
    have l1':n1<256:=l1
    have ew3:IntKind.i64.wrap ((K:Int)+1)=((K+1:Nat):Int):=by rw[IntKind.wrap_i64];omega
    have ew5:IntKind.i64.wrap ((K:Int)+2)=((K+2:Nat):Int):=by rw[IntKind.wrap_i64];omega
    have ew6:IntKind.i64.wrap (n0:Int)=(n0:Int):=by rw[IntKind.wrap_i64];omega
    have ew7:IntKind.i64.wrap (n1:Int)=(n1:Int):=by rw[IntKind.wrap_i64];omega
    have hone2:(#[.int .i64 (n0:Int),.int .i64 (n1:Int)]:Array Value).all (·.oneCell')=true:=by simp[Value.oneCell']
    have hK1:(K:Int)<64:=by omega
    have hK2:((K+1:Nat):Int)<64:=by omega
    have HK:=zq hK
    have Q0:=zq q0
    have Q1:=zq q1
    have HPT:=zq hpt
    have HPA:=zq hpa
    have HALL:=zq hall
    have E0:=zq e0
    have E1:=zq e1
    have E2:=zq e2
    have OW:=zq ow
    have HB:=zq hb
    clear hK q0 q1 hpt hpa hall e0 e1 e2 ow hb p0 p1 l0 l1 HR0
    go_wp2_with fail
    refine wp_region_held (S:=fun W=>Below wr.heap.size wr W) (by kernel_rfl) ?_
    change wpAnyH _ _ _ _ _ _ _ _ wr.drew
    have hS:Below wr.heap.size wr wr.drew:=(Below.refl _ _).drew
    have hz:wr.drew.heap.size=wr.heap.size:=rfl
    generalize wr.drew=w2 at *
    refine sqH 0 (.int .i64 (K:Int)) rfl (Or.inl ⟨by rfl,fun _ _=>rfl⟩) hS ?_
    try simp only[Act.put,sqX]
    refine sqH 1 (.pointer (some ⟨w.heap.size,K,none⟩)) rfl (Or.inl ⟨by rfl,fun _ _=>by go_simp⟩) hS ?_
    try simp only[Act.put,sqX]
    refine sqH 2 (.int .u8 (n0:Int)) rfl (zai rfl 5 (.tmp 24) rfl _ _ rfl fun W h=>zal ztp (Q0.out W h)) hS ?_
    try simp only[Act.put,sqX]
    refine sqH 3 (.int .i64 (n0:Int)) rfl (Or.inl ⟨by rfl,fun _ _=>by go_simp⟩) hS ?_
    try simp only[Act.put,sqX]
    refine sqH 4 (.int .i64 (K:Int)) rfl (Or.inl ⟨by rfl,fun _ _=>rfl⟩) hS ?_
    try simp only[Act.put,sqX]
    refine sqH 5 (.int .i64 ((K+1:Nat):Int)) rfl (Or.inl ⟨by rfl,fun _ _=>by go_simp⟩) hS ?_
    try simp only[Act.put,sqX]
    refine sqH 6 (.pointer (some ⟨w.heap.size,K+1,none⟩)) rfl (Or.inl ⟨by rfl,fun _ _=>by go_simp;try omega⟩) hS ?_
    try simp only[Act.put,sqX]
    refine sqH 7 (.int .u8 (n1:Int)) rfl (zai rfl 5 (.tmp 29) rfl _ _ rfl fun W h=>zal ztp (Q1.out W h)) hS ?_
    try simp only[Act.put,sqX]
    refine sqH 8 (.int .i64 (n1:Int)) rfl (Or.inl ⟨by rfl,fun _ _=>by go_simp⟩) hS ?_
    try simp only[Act.put,sqX]
    refine sqH 9 (.agg #[.int .i64 (n0:Int),.int .i64 (n1:Int)]) rfl (Or.inl ⟨by rfl,fun _ _=>by go_simp⟩) hS ?_
    try simp only[Act.put,sqX]
    refine wpAnyH_all (rs:=[10]) (by kernel_rfl) (by simp) fun i hi=>?_
    obtain rfl:i=10:=by simpa using hi
    refine zi3 (om:=⟨_,_,_,_,_,_⟩) (u:=.pointer (some ⟨w2.heap.size,0,none⟩)) (w':=w2.alloc (.cells #[.int .i64 0,.int .i64 0] 152)) rfl rfl (by go_simp) _ _ rfl rfl ?_
    rintro u W3 ⟨rfl,rfl⟩
    have g3:(w2.alloc (.cells #[.int .i64 0,.int .i64 0] 152)).heap[w2.heap.size]?=some (.cells #[.int .i64 0,.int .i64 0] 152 (0,0)):=heap_alloc_new w2 _
    have hS3:Below wr.heap.size wr (w2.alloc (.cells #[.int .i64 0,.int .i64 0] 152)):=hS.alloc (by omega) _
    rw[hz] at g3 ⊢
    clear hS hi
    generalize w2.alloc (.cells #[.int .i64 0,.int .i64 0] 152)=w3 at *
    have hS:=hS3
    clear hS3
    refine⟨hS,?_⟩
    try simp only[Act.put,sqX]
    refine wpAnyH_all (rs:=[11]) (by kernel_rfl) (by simp) fun i hi=>?_
    obtain rfl:i=11:=by simpa using hi
    have srun:=run_storeAt_mid (P:=Tryz.prog) w3 wr.heap.size 0 152 #[.int .i64 (n0:Int),.int .i64 (n1:Int)] (zax (zs:=[_,_]) g3 0 2 (by simp)) yf2 hone2
    obtain⟨g4,k4⟩:=zah (zs:=[_,_]) (ys:=[.int .i64 (n0:Int),.int .i64 (n1:Int)]) g3 rfl
    refine zc0 (om:=⟨_,_,_,_,_,_⟩) (w':=w3.setCells wr.heap.size 0 [.int .i64 (n0:Int),.int .i64 (n1:Int)]) rfl rfl (zbb 152 (.tmp 6) (.tmp 32) rfl _ _ rfl rfl srun) ?_
    have hS3:Below wr.heap.size wr _:=hS.trans (k4.toBelow _ hS.size (by intro k hk;omega))
    clear srun k4 hS hi
    generalize w3.setCells wr.heap.size 0 [.int .i64 (n0:Int),.int .i64 (n1:Int)]=w4 at *
    have hS:=hS3
    clear hS3
    refine⟨hS,?_⟩
    try simp only[Act.put,sqX]
    refine wpAnyH_done (by kernel_rfl) ?_ _
    try simp only[Act.put,sqX]
    have ow3:=OW.out.below hS
    have e03:=(hS.block w.heap.size (by omega)).trans E0.out
    have e13:=(hS.block (w.heap.size+1) (by omega)).trans E1.out
    have e23:=(hS.block (w.heap.size+1+1) (by omega)).trans E2.out
    have hb3:=HB.out.trans (hS.mono HB.out.size)
    have hz3:=hS.size
    have t0:w4.cell? ⟨wr.heap.size,0,none⟩=some (.int .i64 n0):=by rw[cell_of_row _ _ _ _ _ _ g4];rfl
    have t1:w4.cell? ⟨wr.heap.size,1,none⟩=some (.int .i64 n1):=by rw[cell_of_row _ _ _ _ _ _ g4];rfl
    clear OW E0 E1 E2 HB hS Q0 Q1
    by_cases hnz:n0=0∧n1=0
    ·obtain⟨rfl,rfl⟩:=hnz
     have hext:=zrb b hlt HALL.out HPA.out
     have hl3:=zc8 (zs:=[_,_,_]) e23
     have lr:=run_loadAt_mid (P:=Tryz.prog) w4 (w.heap.size+1+1) 0 113 [St (zbn b),.int .i64 (zcv b),.slice R ((zaf b).take k).length c] _ hl3 Tryz.underlying113 rfl (by rw[zbc];rfl)
     have sr:=run_storeAt_mid (P:=Tryz.prog) w4 (w.heap.size+1) 0 113 #[St (zbn b),.int .i64 (zcv b),.slice R ((zaf b).take k).length c] (zax (zs:=[_,_,_]) e13 0 3 (by simp)) zbc (by simp[Value.oneCell'])
     obtain⟨h1,k1⟩:=zah (zs:=[_,_,_]) (ys:=[St (zbn b),.int .i64 (zcv b),.slice R ((zaf b).take k).length c]) e13 rfl
     have ow5:=zeb ow3 (by omega) k1
     have hb5:=hb3.trans (k1.toBelow w.heap.size hb3.size (by intro k hk;omega))
     generalize w4.setCells (w.heap.size+1) 0 [St (zbn b),.int .i64 (zcv b),.slice R ((zaf b).take k).length c]=w5 at *
     have hnew:∀ ad,R=some ad→(za8 b).ext≠[]→w.heap.size≤ad.block:=fun ad e hn=>by
      change zn7 b≠[] at hn
      rw[hext] at hn
      obtain⟨g,e2,hg,_⟩:=ow5.at_ (k:=0) (List.length_pos_iff.2 hn)
      rw[e] at e2
      cases e2
      show w.heap.size≤g
      omega
     have hout:zm1 w (za8 b) (.returned (.agg #[St (zbn b),.int .i64 (zcv b),.slice R ((zaf b).take k).length c])) w5:=
      ⟨R,c,by show _=Ending.returned (.agg #[St (zbn b),.int .i64 (zcv b),.slice R (zn7 b).length c]);rw[hext],by show XR w5 w5.heap.size R (zn7 b);rw[hext];exact ow5.xr (zhk b _),hb5,hnew⟩
     have LR:=zq lr
     have SR:=zq sr
     have H1:=zq h1
     have HOUT:=zq hout
     clear hl3 lr sr h1 k1 ow5 hb5 hout ow3 e13 e23 hb3 hext
     go_wp2_with (first
      | ((with_reducible refine at_ (op:=.load 113 (.tmp 4)) ?_);refine zaj rfl _ (zdd 113 (.tmp 4) rfl _ _ rfl LR.out) ?_)
      | ((with_reducible refine at_ (op:=.store 113 (.tmp 2) (.tmp 42)) ?_);refine zat rfl (zbb 113 (.tmp 2) (.tmp 42) rfl _ _ rfl rfl SR.out) ?_)
      | fail)
     refine bodyPost_ret (v:=.agg #[St (zbn b),.int .i64 (zcv b),.slice R ((zaf b).take k).length c]) ?_ rfl HOUT.out
     exact results_cell_row rfl _ _ (w.heap.size+1) 113 _ (0,0) _ rfl H1.out Tryz.underlying113 rfl (by rw[zbc];rfl)
    ·have hpt:=HPT.out
     rw[HPA.out] at hpt
     have hall2:∀ e∈(zaf b).take (k+1),e≠(0,0):=fun e he=>by
      rw[hpt] at he
      rcases List.mem_append.1 he with he | he
      ·exact HALL.out e he
      ·rw[List.mem_singleton] at he
       subst he
       intro h
       injection h with h1 h2
       exact hnz ⟨by omega,by omega⟩
     have ownA:=ow3.alloc (.cells #[.int .i64 (n0:Int),.int .i64 (n1:Int)] 152)
     have bA:Below (w.heap.size+3) w4 (w4.alloc (.cells #[.int .i64 (n0:Int),.int .i64 (n1:Int)] 152)):=(Below.refl _ _).alloc (by omega) _
     obtain⟨R',cap',w6,hap,own6,b6,s6⟩:=ownA.app (by rw[World.size_alloc];omega) (by rw[List.length_take];omega) [((n0:Int),(n1:Int))] (by simp) ⟨w4.heap.size,0,none⟩ 1 (fun j u hu=>by
      rw[Ex.add_zero,cell_of_row _ _ _ _ _ _ (heap_alloc_new w4 _)]
      simpa [zc5] using hu)
     rw[← hpt] at own6 hap
     have b46:=bA.trans b6
     have f13:=(b46.block (w.heap.size+1) (by omega)).trans e13
     have f03:=(b46.block w.heap.size (by omega)).trans e03
     have f23:=(b46.block (w.heap.size+1+1) (by omega)).trans e23
     have hb6:=hb3.trans (b46.mono (by omega))
     have x0:w4.cell? ⟨w.heap.size+1+1,2,none⟩=some (.slice R ((zaf b).take k).length c):=by rw[cell_of_row _ _ _ _ _ _ e23];rfl
     have x2:w6.cell? ⟨w.heap.size+1+1,2,none⟩=some (.slice R ((zaf b).take k).length c):=by rw[cell_of_row _ _ _ _ _ _ f23];rfl
     have xf:=frozen_of_row w6 (w.heap.size+1+1) 2 _ _ f23
     have HAP:=zq hap
     have HPT2:=zq hpt
     have hlk:((zaf b).take (k+1)).length=k+1:=by rw[hpt,List.length_append,List.length_take];simp[zaf];omega
     have g7:(w6.setCell ⟨w.heap.size+1+1,2,none⟩ (.slice R' ((zaf b).take (k+1)).length cap')).heap[w.heap.size+1+1]?=some (.cells #[St (zbn b),.int .i64 (zcv b),.slice R' ((zaf b).take (k+1)).length cap'] 113 (0,0)):=by
      rw[heap_setCell_same w6 _ 2 _ _ _ f23]
      simp
     have own7:=zeb own6 (q:=w.heap.size+1+1) (by omega) (Keeps.setCell (·=w.heap.size+1+1) w6 ⟨w.heap.size+1+1,2,none⟩ (.slice R' ((zaf b).take (k+1)).length cap') rfl)
     have hb7:=hb6.setCell (p:=⟨w.heap.size+1+1,2,none⟩) (by show _≤w.heap.size+1+1;omega) (.slice R' ((zaf b).take (k+1)).length cap')
     have f07:=(Below.heap_setCell w6 ⟨w.heap.size+1+1,2,none⟩ (.slice R' ((zaf b).take (k+1)).length cap') w.heap.size (by simp;omega)).trans f03
     have f17:=(Below.heap_setCell w6 ⟨w.heap.size+1+1,2,none⟩ (.slice R' ((zaf b).take (k+1)).length cap') (w.heap.size+1) (by simp)).trans f13
     have s7:w.heap.size+3≤(w6.setCell ⟨w.heap.size+1+1,2,none⟩ (.slice R' ((zaf b).take (k+1)).length cap')).heap.size:=by rw[World.size_setCell];have:=b46.size;omega
     have HR:Hid (zkg w b (w6.setCell ⟨w.heap.size+1+1,2,none⟩ (.slice R' ((zaf b).take (k+1)).length cap')) (.int .i64 ((K+2:Nat):Int))):=⟨k+1,R',cap',by rw[HK.out];congr 1,by omega,hall2,f07,f17,g7,own7,s7,hb7⟩
     have hmes:(64-((K+2:Nat):Int)).toNat<(64-(K:Int)).toNat:=by omega
     have HMES:=zq hmes
     clear hpt hall2 ownA bA own6 b6 s6 b46 f13 f03 f23 hb6 hap g7 own7 hb7 f07 f17 s7 hlk e03 e13 e23 hb3 ow3 hmes
     generalize ((zaf b).take (k+1)).length=L1 at *
     generalize ((zaf b).take k).length=L0 at *
     by_cases hn0:n0=0
     ·have hn1:¬n1=0:=fun h=>hnz ⟨hn0,h⟩
      subst hn0
      clear hnz
      have hb0:((n1:Int)==0)=false:=by simp[hn1]
      have hb1:¬(n1:Int)=0:=by omega
      go_wp2_with (first | (at_builtin;refine zak rfl _ _ 111 rfl _ HAP.out ?_) | fail)
      go_roundw
      case rel=>exact HR.out
      case measure=>exact HMES.out
     ·clear hnz
      have hb0:((n0:Int)==0)=false:=by simp[hn0]
      have hb1:¬(n0:Int)=0:=by omega
      go_wp2_with (first | (at_builtin;refine zak rfl _ _ 111 rfl _ HAP.out ?_) | fail)
      go_roundw
      case rel=>exact HR.out
      case measure=>exact HMES.out
   ·obtain rfl:k=23:=by omega
    have hext:=zvj b hall
    have ow3:=ow
    have e13:=e1
    have e23:=e2
    have hb3:=hb
    clear HR0
    obtain⟨w4,hw4⟩:∃ w4,w4=wr:=⟨_,rfl⟩
    rw[← hw4] at ow3 e13 e23 hb3 ⊢
    clear hw4 e0 e1 e2 ow hb
    have hl3:=zc8 (zs:=[_,_,_]) e23
    have lr:=run_loadAt_mid (P:=Tryz.prog) w4 (w.heap.size+1+1) 0 113 [St (zbn b),.int .i64 (zcv b),.slice R ((zaf b).take 23).length c] _ hl3 Tryz.underlying113 rfl (by rw[zbc];rfl)
    have sr:=run_storeAt_mid (P:=Tryz.prog) w4 (w.heap.size+1) 0 113 #[St (zbn b),.int .i64 (zcv b),.slice R ((zaf b).take 23).length c] (zax (zs:=[_,_,_]) e13 0 3 (by simp)) zbc (by simp[Value.oneCell'])
    obtain⟨h1,k1⟩:=zah (zs:=[_,_,_]) (ys:=[St (zbn b),.int .i64 (zcv b),.slice R ((zaf b).take 23).length c]) e13 rfl
    have ow5:=zeb ow3 (by omega) k1
    have hb5:=hb3.trans (k1.toBelow w.heap.size hb3.size (by intro k hk;omega))
    generalize w4.setCells (w.heap.size+1) 0 [St (zbn b),.int .i64 (zcv b),.slice R ((zaf b).take 23).length c]=w5 at *
    have hnew:∀ ad,R=some ad→(za8 b).ext≠[]→w.heap.size≤ad.block:=fun ad e hn=>by
     change zn7 b≠[] at hn
     rw[hext] at hn
     obtain⟨g,e2,hg,_⟩:=ow5.at_ (k:=0) (List.length_pos_iff.2 hn)
     rw[e] at e2
     cases e2
     show w.heap.size≤g
     omega
    have hout:zm1 w (za8 b) (.returned (.agg #[St (zbn b),.int .i64 (zcv b),.slice R ((zaf b).take 23).length c])) w5:=
     ⟨R,c,by show _=Ending.returned (.agg #[St (zbn b),.int .i64 (zcv b),.slice R (zn7 b).length c]);rw[hext],by show XR w5 w5.heap.size R (zn7 b);rw[hext];exact ow5.xr (zhk b _),hb5,hnew⟩
    have LR:=zq lr
    have SR:=zq sr
    have H1:=zq h1
    have HOUT:=zq hout
    clear hl3 lr sr h1 k1 ow5 hb5 hout ow3 e13 e23 hb3 hext
    go_wp2_with (first
     | ((with_reducible refine at_ (op:=.load 113 (.tmp 4)) ?_);refine zaj rfl _ (zdd 113 (.tmp 4) rfl _ _ rfl LR.out) ?_)
     | ((with_reducible refine at_ (op:=.store 113 (.tmp 2) (.tmp 42)) ?_);refine zat rfl (zbb 113 (.tmp 2) (.tmp 42) rfl _ _ rfl rfl SR.out) ?_)
     | fail)
    refine bodyPost_ret (v:=.agg #[St (zbn b),.int .i64 (zcv b),.slice R ((zaf b).take 23).length c]) ?_ rfl HOUT.out
    exact results_cell_row rfl _ _ (w.heap.size+1) 113 _ (0,0) _ rfl H1.out Tryz.underlying113 rfl (by rw[zbc];rfl)
end Ino
namespace Ino
open Go.RowKit Ex
theorem zz8 {w:World} {ad:Addr} {xs:List UInt8} (hl:xs.length=64)(hc:∀ k u,xs[k]?=some u→w.cell? (ad.add k)=some (B8 u)):
  (Instr.loadAt 176 (.pointer (some ad))).run Tryz.prog w=.ok (ag8 xs) w:=by
 have hl2:(loadCells ad (xs.map B8).length).run Tryz.prog w=.ok (xs.map B8).toArray w:=
  run_loadCells_list (P:=Tryz.prog) w ad (xs.map B8) (fun j v hv=>by
   simp only[List.getElem?_map,Option.map_eq_some_iff] at hv
   obtain⟨u,hu,rfl⟩:=hv
   exact hc j u hu)
 rw[List.length_map,hl] at hl2
 have hs:(sizeOf 176).run Tryz.prog w=.ok 64 w:=by
  have:=zt2
  unfold sizeOf typeInfo
  cases hq:Tryz.prog.info? 176 with
  | none=>rw[hq] at this;cases this
  | some i =>
   rw[hq] at this
   simp only[Option.map_some,Option.some.injEq] at this
   simp[hq,this]
 have hagg:(isAgg 176).run Tryz.prog w=.ok true w:=by
  unfold isAgg
  rw[Sem.run_bind,run_underlying Tryz.underlying176 w]
  rfl
 simp[Instr.loadAt,Instr.sureAddr,loadVar,Sem.run_bind,hagg,hs,hl2,ag8]
theorem zle (xs:List UInt8):ag8 xs=.agg ((xs.map fun u=>(u.toNat:Int)).map (Value.int .u8)).toArray:=by
 unfold ag8
 rw[List.map_map]
 rfl
theorem yaj (xs ys:List UInt8):((xs.map fun u=>(u.toNat:Int))=ys.map fun u=>(u.toNat:Int))↔xs=ys:=by
 constructor
 ·intro h
  have hl:xs.length=ys.length:=by simpa using congrArg List.length h
  apply List.ext_getElem hl
  intro i h1 h2
  have:=congrArg (fun l=>l[i]?) h
  simp only[List.getElem?_map,List.getElem?_eq_getElem h1,List.getElem?_eq_getElem h2,Option.map_some,Option.some.injEq] at this
  exact UInt8.toNat_inj.1 (by omega)
 ·rintro rfl;rfl
theorem zyl:∀ w,(sizeOf 5).run Tryz.prog w=.ok 1 w:=fun w=>by kernel_rfl
theorem eql_r (w:World)(xs ys:List UInt8)(hx:xs.length=64)(hy:ys.length=64):(binOp .eql 176 (ag8 xs) (ag8 ys)).run Tryz.prog w=.ok (.bool (decide (xs=ys))) w:=by
 rw[zle,zle,zqb w 176 5 64 .u8 Tryz.underlying176 Tryz.underlying5 zyl _ _ (by simpa using hx) (by simpa using hy)]
 congr 2
 rw[decide_eq_decide]
 exact yaj xs ys
theorem neq_r (w:World)(xs ys:List UInt8)(hx:xs.length=64)(hy:ys.length=64):(binOp .neq 176 (ag8 xs) (ag8 ys)).run Tryz.prog w=.ok (.bool (!decide (xs=ys))) w:=by
 rw[zle,zle,zkk w 176 5 64 .u8 Tryz.underlying176 Tryz.underlying5 zyl _ _ (by simpa using hx) (by simpa using hy)]
 congr 3
 rw[decide_eq_decide]
 exact yaj xs ys
theorem yft (w:World)(ad:Addr)(c:Nat):(Instr.arrayAt 176 (.slice (some ad) 64 c)).run Tryz.prog w=.ok (.pointer (some ad)) w:=by
 simp[Instr.arrayAt,run_underlying Tryz.underlying176]
theorem yic:Tryz.prog.eqGuardType Tryz.prog.depth 176=false:=by kernel_rfl
theorem zap {P:Program} {fn:Func} {p q r:Tmp} {ty:TypeId} (h:fn.results=#[.cell p ty,.tmp q,.tmp r])(tmps:Array Value)(w:World)(g:Nat)(t:TypeId)(cs:Array Value)(fr:Nat × Nat)(d:TypeDesc)(v u:Value)
  (hp:tmps.getD p undef=.pointer (some ⟨g,0,none⟩)) (hq:tmps.getD q undef=v) (hr:tmps.getD r undef=u) (hg:w.heap[g]?=some (.cells cs t fr))
  (hu:P.underlying ty=some d) (hd:(match d with | .struct _ | .array _ _=>true | _=>false)=true) (hi:(P.info? ty).map (·.size)=some cs.size):
  (results fn tmps).run P w=.ok (.tuple #[.agg cs,v,u]) w:=by
 have hp':tmps[p]?.getD undef=.pointer (some ⟨g,0,none⟩):=by simpa using hp
 have hq':tmps[q]?.getD undef=v:=by simpa using hq
 have hr':tmps[r]?.getD undef=u:=by simpa using hr
 simp[results,h,hp',hq',hr',asAddr,run_loadVar_row w g t ty cs fr d hg hu hd hi]
def in0:IN:=⟨[],0,[]⟩
def zdx (b:List UInt8):IN:=if zfg b=true then za8 b else in0
def zf7 (b:List UInt8):Int:=if zfg b=true then 0 else if b=zr64 then 0 else 110
def ycl (w:World) (b:List UInt8) (e:Ending) (w':World):Prop:=∃ R c,e=.returned (.tuple #[ag (zdx b) R c,.bool (zfg b),.int .i64 (zf7 b)])∧XR w' w'.heap.size R (zdx b).ext∧Below w.heap.size w w'
theorem zg6 {w w':World} {b:List UInt8} (h:zfg b=false)(hb:Below w.heap.size w w')(E:Int)(hE:zf7 b=E):ycl w b (.returned (.tuple #[.agg #[.string ⟨#[]⟩,.int .i64 0,.slice none 0 0],.bool false,.int .i64 E])) w':=by
 have e1:zdx b=in0:=by simp[zdx,h]
 exact⟨none,0,by rw[e1,h,hE];rfl,by rw[e1];exact XR.nil,hb⟩
theorem zvn {b:List UInt8} (h:b.length≠64):zfg b=false∧zf7 b=110:=by
 have h1:zfg b=false:=by
  cases hq:zfg b with
  | false=>rfl
  | true=>exact absurd (yec hq) h
 refine⟨h1,?_⟩
 unfold zf7
 rw[h1,zn (by simp),zn (by rintro rfl;exact h zb8)]
theorem zmk:zfg zr64=false:=by
 cases hq:zfg zr64 with
 | false=>rfl
 | true =>
  unfold zfg at hq
  simp only[Bool.and_eq_true,decide_eq_true_eq] at hq
  exact absurd hq.2 (yfa hq.1)
theorem zmr:zf7 zr64=0:=by simp[zf7]
theorem zgn {b:List UInt8} (h:zfg b=false)(h0:b≠zr64):zf7 b=110:=by simp[zf7,h,h0]
theorem zl3 (b:List UInt8):(za8 b).ext.length≤100∧(za8 b).name.length≤100000∧(-9223372036854775808≤(za8 b).size∧(za8 b).size≤9223372036854775807):=by
 have h1:(zn7 b).length≤(zaf b).length:=(List.takeWhile_sublist _).length_le
 have h2:(zaf b).length=23:=by simp[zaf]
 have h3:=zl6 b 16 2
 refine⟨by show(zn7 b).length≤100;omega,?_,?_⟩
 ·show((b.drop 1).take (min (b.getD 0 0).toNat 15)).length≤100000
  rw[List.length_take]
  omega
 ·show -9223372036854775808≤((num b 16 2:Nat):Int)∧((num b 16 2:Nat):Int)≤9223372036854775807
  have h4:num b 16 2<65536:=h3
  omega
theorem zxu (A:Option Addr)(b:List UInt8)(c:Nat)(w:World)(hx:BR w w.heap.size A b)(hl:b.length≤1000)(hq:b.length≤c):Calls Tryz.prog 128 #[.slice A b.length c] w (ycl w b):=by
 obtain⟨wA,hwA⟩:∃ wA,wA=w.alloc (.cells #[.string ⟨#[]⟩,.int .i64 0,.slice none 0 0] 113):=⟨_,rfl⟩
 have a0:wA.heap[w.heap.size]?=some (.cells #[.string ⟨#[]⟩,.int .i64 0,.slice none 0 0] 113 (0,0)):=by rw[hwA];exact heap_alloc_new w _
 have bA:Below w.heap.size w wA:=by rw[hwA];exact(Below.refl _ _).alloc (Nat.le_refl _) _
 have sA:wA.heap.size=w.heap.size+1:=by rw[hwA,World.size_alloc]
 by_cases h64:b.length=64
 ·obtain⟨ad,rfl,had,hcb⟩:=hx (by intro h;rw[h] at h64;simp at h64)
  have hcA:∀ k u,b[k]?=some u→wA.cell? (ad.add k)=some (B8 u):=fun k u hu=>(bA.cell (p:=ad.add k) (by rw[zan];exact had)).trans (hcb k u hu)
  have lda:=zz8 h64 hcA
  have al:=zpu wA
  rw[sA] at al
  have b0:=(Below.heap_alloc wA (.cells (zr64.map B8).toArray 176) w.heap.size (by omega)).trans a0
  have b1:(wA.alloc (.cells (zr64.map B8).toArray 176)).heap[w.heap.size+1]?=some (.cells (zr64.map B8).toArray 176 (0,0)):=by rw[← sA];exact heap_alloc_new wA _
  have bB:=bA.alloc bA.size (.cells (zr64.map B8).toArray 176)
  have sr:=zoo (w:=wA.alloc (.cells (zr64.map B8).toArray 176)) (b:=w.heap.size+1) (o:=0) (xs:=b) h64 (zh6 b1 0 64 (by rw[zb8];omega))
  obtain⟨c1,k1⟩:=ze7 (ys:=b) 0 b1 (by rw[zb8,h64];omega)
  rw[zfh _ _ (by rw[zb8,h64])] at c1
  have c0:=(k1.block w.heap.size (by rw[World.size_alloc];omega) (by omega)).trans b0
  have bC:=bB.trans (k1.toBelow w.heap.size bB.size (by intro k hk;omega))
  have sC:w.heap.size+2≤((wA.alloc (.cells (zr64.map B8).toArray 176)).setCells (w.heap.size+1) 0 (b.map B8)).heap.size:=by have:=k1.size;rw[World.size_alloc] at this;omega
  generalize hwC:(wA.alloc (.cells (zr64.map B8).toArray 176)).setCells (w.heap.size+1) 0 (b.map B8)=wC at *
  have lr:=zz7 (w:=wC) (b:=w.heap.size+1) (o:=0) (xs:=b) h64 (zh5 c1)
  have er:=eql_r wC b zr64 h64 zb8
  rw[hwA] at lda al sr
  have LDA:=zq lda
  have AL:=zq al
  have SR:=zq sr
  have LR:=zq lr
  have ER:=zq er
  have C0:=zq c0
  have C1:=zq c1
  have BC:=zq bC
  have HL:=zq h64
  have haa:=fun W=>yft W ad c
  rw[h64] at hq ⊢
  clear lda al sr lr er c0 c1 bC b0 b1 bB k1 hcA hcb a0 bA sA h64 hx hwC
  by_cases hz:b=zr64
  ·have hzd:decide (b=zr64)=true:=by simp[hz]
   rw[hzd] at ER
   have sr2:=run_storeAt_mid (P:=Tryz.prog) wC w.heap.size 0 113 #[.string ⟨#[]⟩,.int .i64 0,.slice none 0 0] (zax (zs:=[_,_,_]) C0.out 0 3 (by simp)) zbc (by simp[Value.oneCell'])
   obtain⟨h1,k1⟩:=zah (zs:=[_,_,_]) (ys:=[.string ⟨#[]⟩,.int .i64 0,.slice none 0 0]) C0.out rfl
   have hb1:=BC.out.trans (k1.toBelow w.heap.size BC.out.size (by intro k hk;omega))
   generalize wC.setCells w.heap.size 0 [.string ⟨#[]⟩,.int .i64 0,.slice none 0 0]=w1 at *
   have HF1:=zq (zg6 (b:=b) (by rw[hz];exact zmk) hb1 0 (by rw[hz];exact zmr))
   have SR2:=zq sr2
   have H1:=zq h1
   clear sr2 h1 k1 hb1 hz hzd hwA
   go_enter Tryz.func128,Tryz.ntmps128
   go_wp2_with (first
    | ((with_reducible refine at_ (op:=.load 176 (.tmp 12)) ?_);refine zaj rfl _ (zdd 176 (.tmp 12) rfl _ _ rfl LDA.out) ?_)
    | ((with_reducible refine at_ (op:=.alloc 176) ?_);refine zaj rfl _ (zjd 176 rfl _ AL.out) ?_)
    | ((with_reducible refine at_ (op:=.store 176 (.tmp 5) (.tmp 13)) ?_);refine zat rfl (zbb 176 (.tmp 5) (.tmp 13) rfl _ _ rfl rfl SR.out) ?_)
    | ((with_reducible refine at_ (op:=.load 176 (.tmp 5)) ?_);refine zaj rfl _ (zdd 176 (.tmp 5) rfl _ _ rfl LR.out) ?_)
    | ((with_reducible refine at_ (op:=.build 176 #[]) ?_);refine zaj rfl _ (zg8 176 rfl _ (zvs _)) ?_)
    | ((with_reducible refine at_ (op:=.binOp .eql 176 (.tmp 14) (.tmp 15) 176) ?_);refine zaj rfl _ (zhr .eql 176 176 (.tmp 14) (.tmp 15) rfl _ _ _ rfl rfl yic ER.out) ?_)
    | ((with_reducible refine at_ (op:=.store 113 (.tmp 2) (.tmp 17)) ?_);refine zat rfl (zbb 113 (.tmp 2) (.tmp 17) rfl _ _ rfl rfl SR2.out) ?_)
    | fail)
   refine bodyPost_ret (v:=.tuple #[.agg #[.string ⟨#[]⟩,.int .i64 0,.slice none 0 0],.bool false,.int .i64 0]) ?_ rfl HF1.out
   exact zap rfl _ _ w.heap.size 113 _ (0,0) _ _ _ rfl rfl rfl H1.out Tryz.underlying113 rfl (by rw[zbc];rfl)
  ·have hzd:decide (b=zr64)=false:=by simp[hz]
   rw[hzd] at ER
   have HZ:=zq hz
   have hr:=ydk b wC HL.out
   have HR:=zq hr
   clear hz hzd hr hwA
   go_enter Tryz.func128,Tryz.ntmps128
   go_wp2_with (first
    | ((with_reducible refine at_ (op:=.load 176 (.tmp 12)) ?_);refine zaj rfl _ (zdd 176 (.tmp 12) rfl _ _ rfl LDA.out) ?_)
    | ((with_reducible refine at_ (op:=.alloc 176) ?_);refine zaj rfl _ (zjd 176 rfl _ AL.out) ?_)
    | ((with_reducible refine at_ (op:=.store 176 (.tmp 5) (.tmp 13)) ?_);refine zat rfl (zbb 176 (.tmp 5) (.tmp 13) rfl _ _ rfl rfl SR.out) ?_)
    | ((with_reducible refine at_ (op:=.load 176 (.tmp 5)) ?_);refine zaj rfl _ (zdd 176 (.tmp 5) rfl _ _ rfl LR.out) ?_)
    | ((with_reducible refine at_ (op:=.build 176 #[]) ?_);refine zaj rfl _ (zg8 176 rfl _ (zvs _)) ?_)
    | ((with_reducible refine at_ (op:=.binOp .eql 176 (.tmp 14) (.tmp 15) 176) ?_);refine zaj rfl _ (zhr .eql 176 176 (.tmp 14) (.tmp 15) rfl _ _ _ rfl rfl yic ER.out) ?_)
    | fail)
   refine HR.out.mono ?_
   clear HR
   rintro e w4 ⟨R,cR,rfl,xr4,b4,hnew⟩
   have HNEW:=zq hnew
   clear hnew
   have d0:=(b4.block w.heap.size (by omega)).trans C0.out
   have d1:=(b4.block (w.heap.size+1) (by omega)).trans C1.out
   have bD:=BC.out.trans (b4.mono BC.out.size)
   have z4:w.heap.size+2≤w4.heap.size:=Nat.le_trans sC b4.size
   clear b4 C0 C1 BC LDA AL SR LR ER
   go_wp2_with fail
   have g5:(w4.alloc (.cells #[.string ⟨(za8 b).name.toArray⟩,.int .i64 (za8 b).size,.slice R (za8 b).ext.length cR] 113)).drew.heap[w4.heap.size]?=some (.cells #[.string ⟨(za8 b).name.toArray⟩,.int .i64 (za8 b).size,.slice R (za8 b).ext.length cR] 113 (0,0)):=heap_alloc_new w4 _
   have b45:Below w4.heap.size w4 (w4.alloc (.cells #[.string ⟨(za8 b).name.toArray⟩,.int .i64 (za8 b).size,.slice R (za8 b).ext.length cR] 113)).drew:=((Below.refl _ _).alloc (Nat.le_refl _) _).drew
   have s5:w4.heap.size<(w4.alloc (.cells #[.string ⟨(za8 b).name.toArray⟩,.int .i64 (za8 b).size,.slice R (za8 b).ext.length cR] 113)).drew.heap.size:=by show _<(w4.alloc _).heap.size;rw[World.size_alloc];omega
   refine wp_region_held (S:=fun W=>Below (w4.alloc (.cells #[.string ⟨(za8 b).name.toArray⟩,.int .i64 (za8 b).size,.slice R (za8 b).ext.length cR] 113)).drew.heap.size (w4.alloc (.cells #[.string ⟨(za8 b).name.toArray⟩,.int .i64 (za8 b).size,.slice R (za8 b).ext.length cR] 113)).drew W) (by kernel_rfl) ?_
   change wpAnyH _ _ _ _ _ _ _ _ (w4.alloc (.cells #[.string ⟨(za8 b).name.toArray⟩,.int .i64 (za8 b).size,.slice R (za8 b).ext.length cR] 113)).drew
   generalize (w4.alloc (.cells #[.string ⟨(za8 b).name.toArray⟩,.int .i64 (za8 b).size,.slice R (za8 b).ext.length cR] 113)).drew=w5 at *
   have hS:Below w5.heap.size w5 w5:=Below.refl _ _
   have e0:=(b45.block w.heap.size (by omega)).trans d0
   have e1:=(b45.block (w.heap.size+1) (by omega)).trans d1
   have bE:=bD.trans (b45.mono bD.size)
   obtain⟨hf1,hf2,hf3⟩:=zl3 b
   have hin:∀ W,Below w5.heap.size w5 W→InOk W (za8 b) R:=fun W hW=>⟨((xr4.below b45).below (hW.mono (Nat.le_of_lt s5))).more (Nat.le_trans b45.size hW.size),hf1,hf2,hf3⟩
   have hld:∀ W,Below w5.heap.size w5 W→(Instr.loadAt 113 (.pointer (some ⟨w4.heap.size,0,none⟩))).run Tryz.prog W=.ok (ag (za8 b) R cR) W:=fun W hW=>by
    have h1:=(hW.block w4.heap.size s5).trans g5
    exact run_loadAt_mid W w4.heap.size 0 113 [St (za8 b).name,.int .i64 (za8 b).size,.slice R (za8 b).ext.length cR] _ (zc8 (zs:=[_,_,_]) h1) Tryz.underlying113 rfl (by rw[zbc];rfl)
   have hl5:∀ W,Below w5.heap.size w5 W→(Instr.loadAt 176 (.pointer (some ⟨w.heap.size+1,0,none⟩))).run Tryz.prog W=.ok (ag8 b) W:=fun W hW =>
    zz7 HL.out (zh5 ((hW.block (w.heap.size+1) (by have:=b45.size;omega)).trans e1))
   have HLD:=zq hld
   have HL5:=zq hl5
   have HIN:=zq hin
   have XR4:=zq (xr4.below b45)
   have E0:=zq e0
   have BE:=zq bE
   have G5:=zq g5
   have z5:w.heap.size+2≤w5.heap.size:=Nat.le_trans z4 b45.size
   clear d0 d1 bD b45 g5 e0 e1 bE hin hld hl5 xr4 hf1 hf2 hf3
   by_cases hc:zd6 (za8 b)=true
   ·have he:ze1 (za8 b)=0:=by simp[ze1,hc]
    have HC:=zq hc
    have HCK:Hid (∀ W,Below w5.heap.size w5 W→Calls Tryz.prog 151 #[ag (za8 b) R cR] W (zcx W (.int .i64 0))):=fun W hW=>by
     have:=zpq (za8 b) R cR W (HIN.out W hW)
     rwa [he] at this
    have HLA:Hid (∀ W,Below w5.heap.size w5 W→Calls Tryz.prog 152 #[ag (za8 b) R cR] W (zcx W (ag8 (zdr (za8 b))))):=fun W hW=>zuz (za8 b) R cR W (HIN.out W hW) hc
    have HNE:Hid (∀ W,(binOp .neq 176 (ag8 (zdr (za8 b))) (ag8 b)).run Tryz.prog W=.ok (.bool (!decide (zdr (za8 b)=b))) W):=fun W=>neq_r W _ _ (zay _) HL.out
    clear he hc
    refine sqH 0 (ag (za8 b) R cR) rfl (zai rfl 113 (.tmp 6) rfl _ _ rfl HLD.out) hS ?_
    try simp only[Act.put,sqX]
    refine wpAnyH_all (rs:=[1]) (by kernel_rfl) (by simp) fun i hi=>?_
    obtain rfl:i=1:=by simpa using hi
    refine zbf (om:=⟨_,_,_,_,_,_⟩) (fn:=151) (args:=#[ag (za8 b) R cR]) (R:=fun u W=>u=.int .i64 0∧Below w5.heap.size w5 W) rfl rfl (by go_simp)
     ((HCK.out w5 hS).mono fun e W ⟨he,hb⟩=>⟨_,he,rfl,hb⟩) _ _ rfl rfl ?_
    rintro u w6 ⟨rfl,hb⟩
    have hS:Below w5.heap.size w5 w6:=Below.trans hS (hb.mono hS.size)
    clear hb hi
    refine⟨hS,?_⟩
    try simp only[Act.put,sqX]
    refine sqH 2 (.bool false) rfl (Or.inl ⟨by rfl,fun _ _=>by go_simp⟩) hS ?_
    try simp only[Act.put,sqX]
    refine sqH 3 (.bool false) rfl (Or.inl ⟨by rfl,fun _ _=>rfl⟩) hS ?_
    try simp only[Act.put,sqX]
    refine sqH 4 (ag (za8 b) R cR) rfl (zai rfl 113 (.tmp 6) rfl _ _ rfl HLD.out) hS ?_
    try simp only[Act.put,sqX]
    refine sqH 6 (ag8 b) rfl (zai rfl 176 (.tmp 5) rfl _ _ rfl HL5.out) hS ?_
    try simp only[Act.put,sqX]
    refine wpAnyH_all (rs:=[5]) (by kernel_rfl) (by simp) fun i hi=>?_
    obtain rfl:i=5:=by simpa using hi
    refine zbf (om:=⟨_,_,_,_,_,_⟩) (fn:=152) (args:=#[ag (za8 b) R cR]) (R:=fun u W=>u=ag8 (zdr (za8 b))∧Below w6.heap.size w6 W) rfl rfl (by go_simp)
     ((HLA.out w6 hS).mono fun e W ⟨he,hb⟩=>⟨_,he,rfl,hb⟩) _ _ rfl rfl ?_
    rintro u w7 ⟨rfl,hb⟩
    have hS:Below w5.heap.size w5 w7:=Below.trans hS (hb.mono hS.size)
    clear hb hi
    refine⟨hS,?_⟩
    try simp only[Act.put,sqX]
    refine sqH 7 (.bool (!decide (zdr (za8 b)=b))) rfl (Or.inl ⟨by rfl,fun W _=>zhr .neq 176 176 (.tmp 25) (.tmp 26) rfl _ _ _ rfl rfl yic (HNE.out W)⟩) hS ?_
    try simp only[Act.put,sqX]
    refine sqH 8 (.bool (!decide (zdr (za8 b)=b))) rfl (Or.inl ⟨by rfl,fun _ _=>by go_simp⟩) hS ?_
    try simp only[Act.put,sqX]
    refine wpAnyH_done (by kernel_rfl) ?_ _
    try simp only[Act.put,sqX]
    have w6s:=hS.size
    by_cases hq:zdr (za8 b)=b
    ·have hqd:(!decide (zdr (za8 b)=b))=false:=by simp[hq]
     rw[hqd]
     have hyes:zfg b=true:=by unfold zfg;rw[HC.out];simp[hq]
     have f0:=(hS.block w.heap.size (by omega)).trans E0.out
     have sr:=run_storeAt_mid (P:=Tryz.prog) w7 w.heap.size 0 113 #[St (za8 b).name,.int .i64 (za8 b).size,.slice R (za8 b).ext.length cR] (zax (zs:=[_,_,_]) f0 0 3 (by simp)) zbc (by simp[Value.oneCell'])
     obtain⟨h1,k1⟩:=zah (zs:=[_,_,_]) (ys:=[St (za8 b).name,.int .i64 (za8 b).size,.slice R (za8 b).ext.length cR]) f0 rfl
     have hb1:=(BE.out.trans (hS.mono BE.out.size)).trans (k1.toBelow w.heap.size (Nat.le_trans BE.out.size hS.size) (by intro k hk;omega))
     have lr:=HLD.out w7 hS
     have xr7:XR w7 w4.heap.size R (za8 b).ext:=XR4.out.below (hS.mono (Nat.le_of_lt s5))
     generalize w7.setCells w.heap.size 0 [St (za8 b).name,.int .i64 (za8 b).size,.slice R (za8 b).ext.length cR]=w9 at *
     have xr9:XR w9 w9.heap.size R (za8 b).ext:=by
      refine⟨fun hn=>?_,xr7.ok⟩
      obtain⟨ad',e,hb',hc'⟩:=xr7.ar hn
      have h7:w4.heap.size≤w7.heap.size:=by omega
      have hnw:=HNEW.out ad' e hn
      refine⟨ad',e,by have:=k1.size;omega,fun k a ha j v hv=>?_⟩
      refine(World.cell?_of_block (w:=w7) (k1.block _ ?_ ?_)).trans (hc' k a ha j v hv)
      ·rw[zan,zan];omega
      ·rw[zan,zan];omega
     have hdx:zdx b=za8 b:=by simp[zdx,hyes]
     have hde:zf7 b=0:=by simp[zf7,hyes]
     have HF1:Hid (ycl w b (.returned (.tuple #[.agg #[St (za8 b).name,.int .i64 (za8 b).size,.slice R (za8 b).ext.length cR],.bool true,.int .i64 0])) w9):=⟨R,cR,by rw[hdx,hde,hyes],by rw[hdx];exact xr9,hb1⟩
     have SR2:=zq sr
     have LR2:=zq lr
     have H1:=zq h1
     clear sr lr h1 k1 hb1 f0 hS hyes xr7 xr9 hdx hde hq hqd
     go_wp2_with (first
      | ((with_reducible refine at_ (op:=.load 113 (.tmp 6)) ?_);refine zaj rfl _ (zdd 113 (.tmp 6) rfl _ _ rfl LR2.out) ?_)
      | ((with_reducible refine at_ (op:=.store 113 (.tmp 2) (.tmp 30)) ?_);refine zat rfl (zbb 113 (.tmp 2) (.tmp 30) rfl _ _ rfl rfl SR2.out) ?_)
      | fail)
     refine bodyPost_ret (v:=.tuple #[.agg #[St (za8 b).name,.int .i64 (za8 b).size,.slice R (za8 b).ext.length cR],.bool true,.int .i64 0]) ?_ rfl HF1.out
     exact zap rfl _ _ w.heap.size 113 _ (0,0) _ _ _ rfl rfl rfl H1.out Tryz.underlying113 rfl (by rw[zbc];rfl)
    ·have hqd:(!decide (zdr (za8 b)=b))=true:=by simp[hq]
     rw[hqd]
     have hno:zfg b=false:=by unfold zfg;simp[hq]
     have f0:=(hS.block w.heap.size (by omega)).trans E0.out
     have sr:=run_storeAt_mid (P:=Tryz.prog) w7 w.heap.size 0 113 #[.string ⟨#[]⟩,.int .i64 0,.slice none 0 0] (zax (zs:=[_,_,_]) f0 0 3 (by simp)) zbc (by simp[Value.oneCell'])
     obtain⟨h1,k1⟩:=zah (zs:=[_,_,_]) (ys:=[.string ⟨#[]⟩,.int .i64 0,.slice none 0 0]) f0 rfl
     have hb1:=(BE.out.trans (hS.mono BE.out.size)).trans (k1.toBelow w.heap.size (Nat.le_trans BE.out.size hS.size) (by intro k hk;omega))
     generalize w7.setCells w.heap.size 0 [.string ⟨#[]⟩,.int .i64 0,.slice none 0 0]=w9 at *
     have HF1:=zq (zg6 (b:=b) hno hb1 110 (zgn hno HZ.out))
     have SR2:=zq sr
     have H1:=zq h1
     clear sr h1 k1 hb1 f0 hS hno
     go_wp2_with (first
      | ((with_reducible refine at_ (op:=.store 113 (.tmp 2) (.tmp 29)) ?_);refine zat rfl (zbb 113 (.tmp 2) (.tmp 29) rfl _ _ rfl rfl SR2.out) ?_)
      | fail)
     refine bodyPost_ret (v:=.tuple #[.agg #[.string ⟨#[]⟩,.int .i64 0,.slice none 0 0],.bool false,.int .i64 110]) ?_ rfl HF1.out
     exact zap rfl _ _ w.heap.size 113 _ (0,0) _ _ _ rfl rfl rfl H1.out Tryz.underlying113 rfl (by rw[zbc];rfl)
   ·have hno:zfg b=false:=by unfold zfg;simp[hc]
    have he:ze1 (za8 b)=110:=by simp[ze1,hc]
    have HCK:Hid (∀ W,Below w5.heap.size w5 W→Calls Tryz.prog 151 #[ag (za8 b) R cR] W (zcx W (.int .i64 110))):=fun W hW=>by
     have:=zpq (za8 b) R cR W (HIN.out W hW)
     rwa [he] at this
    clear he hc
    refine sqH 0 (ag (za8 b) R cR) rfl (zai rfl 113 (.tmp 6) rfl _ _ rfl HLD.out) hS ?_
    try simp only[Act.put,sqX]
    refine wpAnyH_all (rs:=[1]) (by kernel_rfl) (by simp) fun i hi=>?_
    obtain rfl:i=1:=by simpa using hi
    refine zbf (om:=⟨_,_,_,_,_,_⟩) (fn:=151) (args:=#[ag (za8 b) R cR]) (R:=fun u W=>u=.int .i64 110∧Below w5.heap.size w5 W) rfl rfl (by go_simp)
     ((HCK.out w5 hS).mono fun e W ⟨he,hb⟩=>⟨_,he,rfl,hb⟩) _ _ rfl rfl ?_
    rintro u w6 ⟨rfl,hb⟩
    have hS:Below w5.heap.size w5 w6:=Below.trans hS (hb.mono hS.size)
    clear hb hi
    refine⟨hS,?_⟩
    try simp only[Act.put,sqX]
    refine sqH 2 (.bool true) rfl (Or.inl ⟨by rfl,fun _ _=>by go_simp⟩) hS ?_
    try simp only[Act.put,sqX]
    refine sqH 3 (.bool true) rfl (Or.inl ⟨by rfl,fun _ _=>rfl⟩) hS ?_
    try simp only[Act.put,sqX]
    refine sqH 4 (undef) rfl (Or.inr ⟨by rfl,rfl⟩) hS ?_
    try simp only[Act.put,sqX]
    refine sqH 5 (undef) rfl (Or.inr ⟨by rfl,rfl⟩) hS ?_
    try simp only[Act.put,sqX]
    refine sqH 6 (undef) rfl (Or.inr ⟨by rfl,rfl⟩) hS ?_
    try simp only[Act.put,sqX]
    refine sqH 7 (undef) rfl (Or.inr ⟨by rfl,rfl⟩) hS ?_
    try simp only[Act.put,sqX]
    refine sqH 8 (.bool true) rfl (Or.inl ⟨by rfl,fun _ _=>by go_simp⟩) hS ?_
    try simp only[Act.put,sqX]
    refine wpAnyH_done (by kernel_rfl) ?_ _
    try simp only[Act.put,sqX]
    have f0:=(hS.block w.heap.size (by omega)).trans E0.out
    have sr:=run_storeAt_mid (P:=Tryz.prog) w6 w.heap.size 0 113 #[.string ⟨#[]⟩,.int .i64 0,.slice none 0 0] (zax (zs:=[_,_,_]) f0 0 3 (by simp)) zbc (by simp[Value.oneCell'])
    obtain⟨h1,k1⟩:=zah (zs:=[_,_,_]) (ys:=[.string ⟨#[]⟩,.int .i64 0,.slice none 0 0]) f0 rfl
    have hb1:=(BE.out.trans (hS.mono BE.out.size)).trans (k1.toBelow w.heap.size (Nat.le_trans BE.out.size hS.size) (by intro k hk;omega))
    generalize w6.setCells w.heap.size 0 [.string ⟨#[]⟩,.int .i64 0,.slice none 0 0]=w9 at *
    have HF1:=zq (zg6 (b:=b) hno hb1 110 (zgn hno HZ.out))
    have SR2:=zq sr
    have H1:=zq h1
    clear sr h1 k1 hb1 f0 hS hno
    go_wp2_with (first
     | ((with_reducible refine at_ (op:=.store 113 (.tmp 2) (.tmp 29)) ?_);refine zat rfl (zbb 113 (.tmp 2) (.tmp 29) rfl _ _ rfl rfl SR2.out) ?_)
     | fail)
    refine bodyPost_ret (v:=.tuple #[.agg #[.string ⟨#[]⟩,.int .i64 0,.slice none 0 0],.bool false,.int .i64 110]) ?_ rfl HF1.out
    exact zap rfl _ _ w.heap.size 113 _ (0,0) _ _ _ rfl rfl rfl H1.out Tryz.underlying113 rfl (by rw[zbc];rfl)
 ·have hd:=zvn h64
  have HF:=zq (zg6 hd.1 bA 110 hd.2)
  have x0:wA.cell? ⟨w.heap.size,0,none⟩=some (.string ⟨#[]⟩):=by rw[cell_of_row _ _ _ _ _ _ a0];rfl
  have n1:((b.length:Int) != 64)=true:=by simp;omega
  have sr:=run_storeAt_mid (P:=Tryz.prog) wA w.heap.size 0 113 #[.string ⟨#[]⟩,.int .i64 0,.slice none 0 0] (zax (zs:=[_,_,_]) a0 0 3 (by simp)) zbc (by simp[Value.oneCell'])
  obtain⟨h1,k1⟩:=zah (zs:=[_,_,_]) (ys:=[.string ⟨#[]⟩,.int .i64 0,.slice none 0 0]) a0 rfl
  have hb1:=bA.trans (k1.toBelow w.heap.size bA.size (by intro k hk;omega))
  rw[hwA] at sr h1 hb1
  generalize (w.alloc (.cells #[.string ⟨#[]⟩,.int .i64 0,.slice none 0 0] 113)).setCells w.heap.size 0 [.string ⟨#[]⟩,.int .i64 0,.slice none 0 0]=w1 at *
  have HF1:=zq (zg6 hd.1 hb1 110 hd.2)
  have SR:=zq sr
  have H1:=zq h1
  clear hx hd HF x0 sr h1 k1 hb1 a0 bA sA hwA h64
  go_enter Tryz.func128,Tryz.ntmps128
  go_wp2_with (first
   | ((with_reducible refine at_ (op:=.store 113 (.tmp 2) (.tmp 10)) ?_);refine zat rfl (zbb 113 (.tmp 2) (.tmp 10) rfl _ _ rfl rfl SR.out) ?_)
   | fail)
  refine bodyPost_ret (v:=.tuple #[.agg #[.string ⟨#[]⟩,.int .i64 0,.slice none 0 0],.bool false,.int .i64 110]) ?_ rfl HF1.out
  exact zap rfl _ _ w.heap.size 113 _ (0,0) _ _ _ rfl rfl rfl H1.out Tryz.underlying113 rfl (by rw[zbc];rfl)
end Ino
end Go.Proofs.YtdopfpcjpjlkmaaGreatDoor
