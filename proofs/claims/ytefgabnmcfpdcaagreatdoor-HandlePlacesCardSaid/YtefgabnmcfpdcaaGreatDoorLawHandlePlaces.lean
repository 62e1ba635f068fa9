/-
  LawHandlePlaces
-/
import Derived.Test.YtefgabnmcfpdcaaGreatDoorCards
import Derived.Test.YtefgabnmcfpdcaaGreatDoorTie
import Derived.Test.YtefgabnmcfpdcaaGreatDoorWalkHandlePlaces
set_option maxRecDepth 100000
set_option linter.unusedVariables false
namespace Go.Proofs.YtefgabnmcfpdcaaGreatDoor.handlePlaces
open Go.ChangeShapes Go.WideShapes Go.ChangeAt Go.RowKit Ex Fs Ino Mm Fr Hd
theorem own:ownKnob Tryz.prog.godebug=none:=by kernel_rfl
theorem zzh:laidOutB Tryz.prog=true:=by kernel_rfl
theorem gTab:Tryz.prog.globalNamed "math/bits.deBruijn32tab"=some 0:=by kernel_rfl
theorem ydn:(Tryz.prog.globals[0]?).map (·.type)=some 226:=by kernel_rfl
theorem cellsT:Tryz.prog.cellsOf 226=32:=by kernel_rfl
theorem cellsE:Tryz.prog.cellsOf 5=1:=by kernel_rfl
theorem table {W:World} (h:laidMetH Tryz.prog Rows.handlePlacesRow.laid W):Tab W:=by
 have ht:Lib.TabIs Tryz.prog W "math/bits.deBruijn32tab" .u8 (Lib.deBruijn32tab.map fun (x:Nat)=>(x:Int)):=
  Lib.tabIs_of_head (rest:=[]) gTab ydn Tryz.underlying226 Tryz.underlying5 cellsE cellsT h
 intro j hj
 have:=ht.cell gTab j (by simpa using hj)
 rw[this]
 simp[List.getD_eq_getElem?_getD,List.getElem?_map,List.getElem?_eq_getElem hj]
set_option maxRecDepth 100000 in
theorem yd4 (H:Type)(enc:TypeId × Value→H)(W:World)(base:Nat)(args:Array Value)(ds gs:List (DataW H))(before:List MemPlace)
  (hval:∀ (j:Nat) t v,Tryz.f7.params[j]?=some t→args[j]?=some v→Value.okWide Tryz.prog W .any base t v)
  (hW:DataW.Whole enc Tryz.prog Tryz.f7.params.toList Rows.handlePlacesSpec.vars false W args.toList ds gs before)
  (hsz:(DataW.weightsEach Tryz.prog (Tryz.f7.params.toList++Rows.handlePlacesSpec.plain.varTypes Tryz.prog) (ds++gs)).all (·≤reachBytes)=true)
  (hL:laidMetH Tryz.prog Rows.handlePlacesRow.laid W):
  Calls Tryz.prog 7 args W fun e W'=>∃ v,e=.returned v∧Rows.handlePlacesSpec.post enc Tryz.prog Tryz.f7 false true false false W args v W':=by
 have hT:=table hL
 have hW':=hW
 obtain⟨p,q,hA0,hV,rfl,_,_⟩:=hW
 have hA:DataW.TrodAll enc Tryz.prog W 0 (fun _=>true) true Tryz.f7.params.toList args.toList ds p:=hA0
 rw[Tryz.params7] at hA hval hsz
 obtain⟨v0,vs0,d0,ds0,p0,q0,hargs,rfl,rfl,h0,r0⟩:=trodAll_cons hA
 obtain⟨v1,vs1,d1,ds1,p1,q1,rfl,rfl,rfl,h1,r1⟩:=trodAll_cons r0
 obtain⟨rfl,rfl,rfl⟩:=trodAll_nil r1
 obtain rfl:args=#[v0,v1]:=by cases args;simp_all
 obtain⟨rfl,rfl⟩:=trodVars_none hV
 obtain⟨A0,len0,c0,rfl⟩:=okWide_slice Tryz.underlying31 (hval 0 31 v0 rfl rfl)
 have k0:=h0
 have lt0:∀ x∈p0,x.block<W.heap.size:=by obtain⟨m,hm⟩:=k0;exact DataW.trod_lt m _ _ _ hm
 have q0:=ya3 h0
 obtain⟨x0,rfl,b0,s0⟩:=zur h0
 have l0:=s0 _ _ 0 hsz rfl rfl
 obtain⟨A1,len1,c1,rfl⟩:=okWide_slice Tryz.underlying39 (hval 1 39 v1 rfl rfl)
 have k1:=h1
 have lt1:∀ x∈p1,x.block<W.heap.size:=by obtain⟨m,hm⟩:=k1;exact DataW.trod_lt m _ _ _ hm
 obtain⟨l1,rfl,o1,s1⟩:=ydg h1
 have m1:=s1 _ _ 1 hsz rfl rfl
 clear hA0
 refine(walk A0 x0 c0 A1 l1 c1 W b0 l0 q0 o1 m1 hT).mono fun e W' ⟨he,bel⟩=>?_
 subst he
 exact⟨_,rfl,_,_,_,[],_,[],hW',trodAll_mk1 (shut_bool Tryz.underlying4 _),(trodAll_cons_mk (Below.trod zzh (by kernel_rfl) (of_decide_eq_true (by kernel_rfl)) k0 bel lt0) (trodAll_cons_mk (Below.trod zzh (by kernel_rfl) (of_decide_eq_true (by kernel_rfl)) k1 bel lt1) trodAll_mk0)),rfl,bel.frame _,fun h=>by cases h⟩
noncomputable def zly (os:Os):World:=
 { World.holding Tryz.prog os ⟨#[],#[],[]⟩ with heap:=(World.holding Tryz.prog os ⟨#[],#[],[]⟩).heap.modify 0 fun
   | .cells _ t frozen=>.cells (Lib.deBruijn32tab.map fun (x:Nat)=>Value.int .u8 (x:Int)).toArray t frozen
   | o=>o }
theorem yc2 (os:Os):laidMet Tryz.prog Rows.handlePlacesRow.laid ((zly os).forCall (fun _ _=>0) ⟨#[],#[.slice none 0 0,.slice none 0 0],[]⟩).memory:=
 laidMet_of_run' 8 (by kernel_rfl) (by kernel_rfl)
theorem reads (os:Os){H:Type} (enc:TypeId × Value→H):∃ places,DataW.whole enc Tryz.prog ((zly os).forCall (fun _ _=>0) ⟨#[],#[.slice none 0 0,.slice none 0 0],[]⟩).memory Tryz.f7.params.toList Rows.handlePlacesSpec.vars false (#[.slice none 0 0,.slice none 0 0]:Array Value).toList 8=some ([.nil,.nil],[],places):=
 ⟨[],by kernel_rfl⟩
theorem lifted (os:Os)(started:os.Started)(H:Type)(enc:TypeId × Value→H)(F:Stop.Interp):
  ReturnsInHanded {} Tryz.checked os 7 .any ((OpenSpec.ofChange Rows.handlePlacesSpec).preRow enc Tryz.prog Tryz.f7 Rows.handlePlacesRow.domain false Rows.handlePlacesRow.laid) (((OpenSpec.ofChange Rows.handlePlacesSpec).at F).post enc Tryz.prog Tryz.f7 false true false false):=by
 obtain⟨places,hx⟩:=reads os enc
 refine returnsInHanded_of_row (C:=Tryz.checked) (s:=OpenSpec.ofChange Rows.handlePlacesSpec) own started (by kernel_rfl) Tryz.func7
  (witness_row_at (enc:=enc) (C:=Tryz.checked) false (zly os) #[.slice none 0 0,.slice none 0 0] rfl (by kernel_rfl) (by kernel_rfl) (by kernel_rfl)
   (OpenSpec.preRow_of_cond 8 hx (by kernel_rfl) (fun k hk=>by cases hk) (by kernel_rfl) (yc2 os))) ?_
 intro W base args ds gs before hval hW _ _ hsz hL _ _
 exact yd4 H enc W base args ds gs before hval hW hsz hL
theorem said:Rows.HandlePlacesSaid:=
 OpenClaim.holds_of_cond 7 Tryz.f7 rfl rfl rfl rfl rfl rfl rfl ⟨rfl,rfl,rfl,rfl,rfl⟩ rfl rfl rfl rfl rfl (by kernel_rfl) Tryz.func7 (by kernel_rfl)
  (of_decide_eq_true (by kernel_rfl)) (by unfold Func.isWrapper;first | (rw[if_pos (by decide +kernel)];kernel_rfl) | (rw[if_neg (by decide +kernel)];exact⟨rfl,rfl⟩))
  (fun os started H enc _ F=>by rw[OpenClaim.pre_eq_preRow];exact lifted os started H enc F)
theorem plain (f:FuncId)(fn:Func)(hf:Tryz.pinned.checked.prog.funcNamed "carrel/carrellaw13.HandlePlaces"=some f)(hfn:Tryz.pinned.checked.prog.funcs[f]?=some fn):
  false=Tryz.pinned.checked.prog.looks []∧∀ (j:Nat) t,fn.params[j]?=some t→Tryz.pinned.checked.prog.wantsStandIn t=false:=by
 obtain rfl:f=7:=Option.some.inj ((show Tryz.prog.funcNamed "carrel/carrellaw13.HandlePlaces"=some 7 by kernel_rfl).symm.trans hf) |>.symm
 obtain rfl:fn=Tryz.f7:=(Option.some.inj (Tryz.func7.symm.trans hfn)).symm
 refine⟨by kernel_rfl,fun j t ht=>?_⟩
 rw[Tryz.params7] at ht
 have h:t=31∨t=39:=by first | simpa using Array.mem_of_getElem? ht | (have h0:=Array.mem_of_getElem? ht;simp at h0;rcases h0 with h0 | h0 | h0 | h0<;>simp[h0])
 rcases h with rfl | rfl<;>(show Tryz.prog.wantsStandIn _=false;kernel_rfl)
theorem proved:Rows.HandlePlacesCardSaid:=
 Claim7.holds_tied_plain_at .later [] _ _ _ _ said (fun _ h=>by cases h) (by kernel_rfl) (fun _ h=>by cases h) handlePlaces_row_tie rfl ⟨rfl,rfl⟩ (by kernel_rfl) rfl plain (by kernel_rfl)
#print axioms proved
end Go.Proofs.YtefgabnmcfpdcaaGreatDoor.handlePlaces
