/- merged -/
import Derived.Test.YtdopfpcjpjlkmaaGreatDoorGFg
set_option maxHeartbeats 2000000
set_option maxRecDepth 100000
set_option linter.unusedSimpArgs false
set_option linter.unusedVariables false
namespace Go.Proofs.YtdopfpcjpjlkmaaGreatDoor
namespace Mm
open Go.RowKit Go.Maps
variable {w:World} {p gb mb:Nat} {G M:List UInt8}
def yfy (w:World) (p gb mb:Nat) (G M:List UInt8) (e:Ending) (w':World):Prop:=e=.returned (.tuple #[])∧MemAt w' p gb mb G M∧Keeps (fun k=>k=p∨k=mb) w w'
theorem zsp (h:MemAt w p gb mb G M)(a:Int)(ha:-9223372036854775808≤a)(ha':a≤9223372036854775807)(A:Option Addr)(xs:List UInt8)(cp:Nat)(hx:BR w w.heap.size A xs)
  (hA:∀ ad,A=some ad→xs≠[]→ad.block≠p∧ad.block≠mb) (hxl:xs.length≤140737488351232) (hcp:xs.length≤cp):
  Calls Tryz.prog 21 #[.pointer (some ⟨p,0,none⟩),.int .i64 a,.slice A xs.length cp] w (yfy w p gb mb G (zbx M a xs)):=by
 have hlt:=h.lt
 have ap:=h.apart
 have ml:=h.ml
 generalize hc:xs.length=c at *
 have x1:=ygd a
 have x2:=yge a
 have y1:=ygc a c
 have y2:a+c≤9223372036854775807→inY a c≤a+c∧(inY a c=a+c∨inY a c=8192):=fun h=>ygb ha (by omega) h
 have y3:9223372036854775807<a+c→inY a c<0:=fun h=>in_no ha' (by omega) h
 have X1:=zq x1
 have X2:=zq x2
 have Y2:=zq y2
 have Y3:=zq y3
 have HC:=zq hc
 have HX:=zq hx
 clear x1 x2 y2 y3 hc hx
 go_enter Tryz.func21,Tryz.ntmps21
 go_wp2_with fail
 refine(zuu h).mono ?_
 rintro e w2 ⟨rfl,rfl⟩
 go_wp2_with fail
 refine(zma _ _ _).mono ?_
 rintro e w2 ⟨rfl,rfl⟩
 generalize inX a=X at *
 generalize inY a c=Y at *
 go_wp2_with fail
 go_loopw [6,8,9] (fun i _ _ wr=>∃ t:Nat,i=.int .i64 (t:Int)∧X≤t∧((t:Int)≤X∨(t:Int)≤Y)∧MemAt wr p gb mb G (zkt M a xs t)∧Keeps (fun k=>k=p∨k=mb) w wr) (fun i _ _ _=>(Y-RowKit.intOf i).toNat)
 case atStart =>
  have x1:=X1.out
  have x2:=X2.out
  have ex:(X.toNat:Int)=X:=Int.toNat_of_nonneg x1.1
  exact⟨X.toNat,by rw[ex],by omega,Or.inl (by omega),by rw[zhn M a xs _ (by omega)];exact h,Keeps.refl _ _⟩
 case round =>
  obtain⟨t,rfl,t1,t2,hmem,hk⟩:=hrel
  by_cases hty:(t:Int)<Y
  ·have tl:(zkt M a xs t).length=8192:=by rw[zcs,ml]
   go_wp2_with fail
   rw[show((t:Int) / 64)=((t / 64:Nat):Int) from rfl]
   refine(zo2 hmem (t / 64) (by omega)).mono ?_
   rintro e w2 ⟨rfl,hm2,k2⟩
   have hpl:=zek tl (n:=t / 64) (by omega)
   obtain⟨s1,s2,s3⟩:=(PgAt.new w2).put zeg hpl
   have kA:Keeps (fun _=>False) w2 (w2.alloc (.cells zm5 92)):=Keeps.alloc _ _ _
   have k23:Keeps (fun _=>False) w2 ((w2.alloc (.cells zm5 92)).setCells w2.heap.size 0 ((zaw (zkt M a xs t) (t / 64)).map B8)):=Keeps.thru kA s3 (fun _ _ h=>h) fun _ _ h=>by omega
   have ST:=zq s1
   have P3:=zq s2
   clear kA s1 s2 s3
   go_wp2_with (first
    | ((with_reducible refine zd5 (op:=.alloc 92) (d:=some 9) ?_);refine zbr rfl 92 rfl _ (zm0 _) ?_)
    | ((with_reducible refine zd5 (op:=.store 92 (.tmp 9) (.tmp 27)) ?_);refine zaz rfl 92 _ _ rfl _ _ rfl rfl ST.out ?_))
   generalize (w2.alloc (.cells zm5 92)).setCells w2.heap.size 0 ((zaw (zkt M a xs t) (t / 64)).map B8)=w3 at *
   have x1:=X1.out
   have x2:=X2.out
   have y2:=Y2.out
   have y3:=Y3.out
   have hac:a+c≤9223372036854775807:=by omega
   obtain⟨d,hd⟩:∃ d:Nat,(t:Int)-a=d:=⟨((t:Int)-a).toNat,by omega⟩
   obtain⟨y,hy⟩:∃ y:Nat,Y-a=y:=⟨(Y-a).toNat,by omega⟩
   have W1:IntKind.i64.wrap ((t:Int)-a)=(d:Int):=by rw[hd];exact IntWalk.i64_in _ (by omega)
   have W2:IntKind.i64.wrap (Y-a)=(y:Int):=by rw[hy];exact IntWalk.i64_in _ (by omega)
   have W3:(t:Int).tmod 64=((t % 64:Nat):Int):=rfl
   have d1:d<y:=by omega
   have d2:y≤c:=by omega
   have d3:¬cp=d:=by omega
   have d4:d≤y:=by omega
   have d5:y≤cp:=by omega
   have m0:t % 64≤64:=by omega
   have m1:t % 64<64:=Nat.mod_lt _ (by omega)
   have m2:¬64=t % 64:=by omega
   have HD:=zq hd
   have HY:=zq hy
   obtain⟨k,hk0⟩:∃ k:Nat,k=min (y-d) (64-t % 64):=⟨_,rfl⟩
   have HK:=zq hk0
   have e1:1≤k:=by omega
   have e2:k≤64:=by omega
   have e3:d+k≤c:=by omega
   have e4:k≤64-t % 64:=by omega
   have tb:t<8192:=by omega
   have E5:=zq (show(t:Int)+k≤Y by omega)
   have hcc:=HC.out
   have LS:=zq (yad M ml a xs t k (by omega) (by omega) (by omega) tb)
   rw[show((t:Int)-a).toNat=d by omega] at LS
   have SL:=fun (w:World) (b:Nat)=>yf1 w b (t % 64) m1
   clear hd hy x1 x2 y2 y3 hk0 hcc
   generalize t % 64=r at W3 m0 m1 m2 SL e4 HK LS
   have hne:xs≠[]:=by
    intro e
    have:=HC.out
    rw[e] at this
    simp at this
    omega
   obtain⟨ad,rfl,had,hcs⟩:=HX.out hne
   have hap:=hA ad rfl hne
   refine wp_region_any (by kernel_rfl) ?_
   change wpAny _ _ _ _ _ _ _ w3.drew
   have k34:Keeps (fun _=>False) w3 w3.drew:=Keeps.drew _ _
   have p4:=P3.out.keep k34 (fun h=>h)
   have h4:=hm2.keep (k23.trans k34) (fun h=>h) (fun h=>h) (fun h=>h)
   have K4':Keeps (fun k=>k=p∨k=mb) w w3.drew:=Keeps.thru (Keeps.thru (F'':=fun k=>k=p∨k=mb) hk k2 (fun _ _ h=>h) fun _ _ h=>Or.inr h) (k23.trans k34) (fun _ _ h=>h) fun _ _ h=>h.elim
   have b4:BR w3.drew w3.drew.heap.size (some ad) xs:=K4'.br HX.out fun ad' e _=>by
    cases e
    rintro(h | h)
    ·exact hap.1 h
    ·exact hap.2 h
   have K4:=zq K4'
   clear K4'
   have s4:w2.heap.size<w3.drew.heap.size:=p4.lt
   have s2:w.heap.size≤w2.heap.size:=Nat.le_trans hk.size k2.size
   generalize w3.drew=w4 at *
   refine wpAny_take (oi:=⟨_,_,_,_,_,_⟩) (i:=0) (v:=.int .i64 (t:Int)) rfl (by kernel_rfl) (by kernel_rfl) (by kernel_rfl) (fun _ _ _ h=>h) (Or.inl ⟨by rfl,fun _=>rfl⟩) ?_
   simp only[Act.put,sqX]
   refine zfu [1,2,3,4,5,6,7,8,9,10,11] [12,13,14] [_,_,_,_,_,_,_,_,_,_,_] [_,_,_] rfl rfl rfl (by kernel_rfl) ?_
   still_step
   still_step
   still_step
   still_step
   still_step
   still_step
   still_step
   still_step
   still_step
   still_step
   still_step
   refine wpStill_nil ?_
   generalize zaw (zkt M a xs t) (t / 64)=P at *
   have hys:((xs.drop d).take k).length=k:=by rw[List.length_take,List.length_drop,HC.out];omega
   have bq:BR w4 w4.heap.size (some (ad.add d)) ((xs.drop d).take k):=by
    intro _
    obtain⟨ad',e,hb,hcc⟩:=b4 hne
    cases e
    refine⟨_,rfl,by rw[zan];exact hb,fun j u hu=>?_⟩
    have hj:j<k:=by
     have:=(List.getElem?_eq_some_iff.1 hu).1
     rw[hys] at this
     exact this
    rw[List.getElem?_take_of_lt hj,List.getElem?_drop] at hu
    rw[Addr.add_add]
    exact hcc _ _ hu
   have r4:Row8 w4 w2.heap.size 92 P:=Row8.of_block p4
   have hspl:(splice P r ((xs.drop d).take k)).length=64:=by
    unfold splice
    simp only[List.length_append,hys,List.length_take,List.length_drop,hpl]
    omega
   obtain⟨w5,c1,c2,c3⟩:=zhg (P:=Tryz.prog) w4 31 31 3 5 92 Tryz.underlying31 zis w2.heap.size r (64-r) (64-r) _ _ _ (y-d) (cp-d) r4 bq (by rw[hys];exact HK.out) (by rw[hys,hpl];omega) (by intro e;rw[e] at hys;simp at hys;omega)
   rw[hys] at c1
   refine zcg rfl _ _ 31 31 rfl _ c1 ?_
   have k45:Keeps (fun k=>k=w2.heap.size) w4 w5:=Keeps.grown _ c3 (fun k e=>by cases e;rfl)
   have h5:=h4.keep k45 (by omega) (by omega) (by omega)
   have K5:=zq (Keeps.thru (F'':=fun k=>k=p∨k=mb) K4.out k45 (fun _ _ h=>h) fun _ _ h=>by omega)
   have p5:PgAt w5 w2.heap.size (splice P r ((xs.drop d).take k)):=c2.block
   have LD:=zq (p5.get hspl)
   have HS:=zq hspl
   clear c1 c2 c3 k45 h4 r4 p4 k34 k23 k2 hm2 hk hmem hys P3 ST SL W1 W2 W3 hpl b4 bq p5 hspl
   go_wp2_with (first
    | ((with_reducible refine zd5 (op:=.load 92 (.tmp 9)) ?_);refine za9 rfl 92 _ rfl _ _ rfl LD.out ?_)
    | fail)
   rw[show((t:Int) / 64)=((t / 64:Nat):Int) from rfl]
   refine(yhn h5 (t / 64) (by omega) _ HS.out).mono ?_
   rintro e w6 ⟨rfl,h6,k6⟩
   rw[LS.out] at h6
   have H6:=zq h6
   have K6:=zq (K5.out.trans k6)
   clear h5 h6 k6 K5
   go_wp2_with fail
   go_roundw
   case rel=>exact⟨t+k,by go_num,by omega,Or.inr (by have:=E5.out;omega),H6.out,K6.out⟩
   case measure=>simp[RowKit.intOf];have:=E5.out;omega
  ·have hte:zkt M a xs t=zbx M a xs:=by
    have x1:=X1.out
    have x2:=X2.out
    have y2:=Y2.out
    have y3:=Y3.out
    have hcc:=HC.out
    by_cases hac:a+c≤9223372036854775807
    ·have y2:=y2 hac
     by_cases hl:a+c≤0
     ·rw[zq2 M ml a xs (by omega),zhn M a xs t (by omega)]
     ·exact yae M ml a xs t (by omega)
    ·rw[zq2 M ml a xs (by omega),zhn M a xs t (by omega)]
   have H5:=zq (hte ▸ hmem)
   have K5:=zq hk
   have hge:Y≤(t:Int):=by omega
   clear hte hmem hk hty t1 t2
   go_wp2_with fail
   all_goals
    go_end0
    exact⟨rfl,H5.out,K5.out⟩
end Mm
namespace Mm
open Go.RowKit Go.Maps
theorem zo6 (A:Option Addr)(xs:List UInt8)(c:Nat)(a:Int)(n:Int)(w:World)(hx:BR w w.heap.size A xs)(hl:xs.length≤1000000)(ha:-9223372036854775808≤a):
  Calls Tryz.prog 131 #[.slice A xs.length c,.int .i64 a,.int .i64 n] w (GivesN w (zfk xs a (IntKind.u64.wrap n).toNat 8)):=by
 go_enter Tryz.func131,Tryz.ntmps131
 have hw:IntKind.u64.wrap n=((IntKind.u64.wrap n).toNat:Int):=(Int.toNat_of_nonneg (by rw[IntKind.wrap_u64];omega)).symm
 have HW:=zq hw
 clear hw
 go_wp2_with fail
 rw[HW.out]
 refine(zg3 _ _ _ _ _ _ _ hx hl ha).mono ?_
 rintro e w1 ⟨g,c1,rfl,h⟩
 go_wp2_with fail
 go_ret
 exact⟨g,c1,rfl,h⟩
variable {w:World} {p gb mb:Nat} {G M:List UInt8}
def zb0 (w:World) (p gb mb:Nat) (G M:List UInt8) (v:Value) (e:Ending) (w':World):Prop:=e=.returned v∧MemAt w' p gb mb G M∧Keeps (fun k=>k=p∨k=mb) w w'
theorem zz4 (h:MemAt w p gb mb G M)(a:Int)(ha:-9223372036854775808≤a)(ha':a≤9223372036854775807):
  Calls Tryz.prog 121 #[.pointer (some ⟨p,0,none⟩),.int .i64 a] w (zb0 w p gb mb G M (.int .i64 (cel M a))):=by
 go_enter Tryz.func121,Tryz.ntmps121
 go_wp2_with fail
 refine(zo4 h a 8 ha ha').mono ?_
 rintro e w2 ⟨g,rfl,hg,hr,hm,hk⟩
 have e8:(zds 8 8192).toNat=8:=by decide
 rw[e8] at hr ⊢
 have H:=zq hm
 have K:=zq hk
 clear hm hk e8
 go_wp2_with fail
 refine(zw8 _ _ _ _ _ hr.br (by rw[zda];omega) (by omega)).mono ?_
 rintro e w3 ⟨rfl,rfl⟩
 rw[yfi]
 go_wp2_with fail
 go_ret
 exact⟨rfl,H.out,K.out.mono fun _ _ h=>Or.inr h⟩
theorem zmc (h:MemAt w p gb mb G M):
  Calls Tryz.prog 13 #[.pointer (some ⟨p,0,none⟩)] w (ygl w p gb mb G M M):=by
 have ml:=h.ml
 go_enter Tryz.func13,Tryz.ntmps13
 go_wp2_with fail
 refine(zo4 h 0 8192 (by omega) (by omega)).mono ?_
 rintro e w2 ⟨g,rfl,hg,hr,hm,hk⟩
 have e8:(zds 8192 8192).toNat=8192:=by decide
 rw[e8,zqz M ml] at hr ⊢
 have H:=zq hm
 have K:=zq hk
 clear hm hk e8
 go_wp2_with fail
 go_ret
 exact⟨g,by rw[ml];rfl,hg,hr,H.out,K.out⟩
theorem zz3 (h:MemAt w p gb mb G M)(a n:Int)(ha:-9223372036854775808≤a)(ha':a≤9223372036854775807):
  Calls Tryz.prog 98 #[.pointer (some ⟨p,0,none⟩),.int .i64 a,.int .i64 n] w (zb0 w p gb mb G (zgs M a n) (.tuple #[])):=by
 have hlt:=h.lt
 have hmk:∀ w:World,(Instr.makeSlice 31 (.int .i64 8) (.int .i64 8)).run Tryz.prog w=.ok (.slice (some ⟨w.heap.size,0,none⟩) 8 8) (w.alloc (.cells (madeCells #[.int .u8 0] 8) 5)):=zfq 8 (by omega)
 have k1:Keeps (fun _=>False) w (w.alloc (.cells (madeCells #[.int .u8 0] 8) 5)):=Keeps.alloc _ _ _
 have h1:=h.keep k1 (fun h=>h) (fun h=>h) (fun h=>h)
 have r1:=Row8.made w 8 5
 have s1:w.heap.size<(w.alloc (.cells (madeCells #[.int .u8 0] 8) 5)).heap.size:=by simp
 clear h
 go_enter Tryz.func98,Tryz.ntmps98
 go_wp2_with fail
 generalize w.alloc (.cells (madeCells #[.int .u8 0] 8) 5)=w1 at *
 refine(zo6 (some ⟨w.heap.size,0,none⟩) (List.replicate 8 0) 8 0 n w1 r1.br (by simp) (by omega)).mono ?_
 rintro e w2 ⟨g,c,rfl,hg,hg',hr,hb,hc⟩
 have k2:Keeps (fun _=>False) w1 w2:=Keeps.below hb _ fun k h1 h2=>by omega
 have h2:=h1.keep k2 (fun h=>h) (fun h=>h) (fun h=>h)
 have K:=zq (k1.trans k2)
 clear k1 k2 h1 r1
 go_wp2_with fail
 refine(zsp h2 a ha ha' _ _ c hr (fun ad e _=>by cases e;exact⟨by show g≠p;omega,by show g≠mb;omega⟩) (by rw[zb1];simp) hc).mono ?_
 rintro e w3 ⟨rfl,h3,k3⟩
 rw[yd9] at h3
 have H:=zq h3
 have K3:=zq (Keeps.thru (F'':=fun k=>k=p∨k=mb) K.out k3 (fun _ _ h=>h.elim) fun _ _ h=>h)
 clear h3 k3 K
 go_wp2_with fail
 all_goals
  go_end0
  exact⟨rfl,H.out,K3.out⟩
end Mm
namespace Mm
open Go.RowKit Go.Maps
def zzw:Array Value:=(.pointer none::.slice none 0 0::.map none::List.replicate 128 (.bool false):List Value).toArray
def NoM (w:World) (v:Option Addr):Prop:=v=none∨∃ p,v=some ⟨p,0,none⟩∧w.heap[p]?=some (.cells zzw 55 (0,0))
theorem NoM.keep {w w':World} {v:Option Addr} {F:Nat→Prop} (h:NoM w v)(k:Keeps F w w')(hF:∀ i,i<w.heap.size→¬F i):NoM w' v:=by
 rcases h with rfl | ⟨p,rfl,hp⟩
 ·exact Or.inl rfl
 ·have hlt:=(Array.getElem?_eq_some_iff.1 hp).1
  exact Or.inr ⟨p,rfl,(k.block p hlt (hF p hlt)).trans hp⟩
variable {w:World} {v:Option Addr}
end Mm
namespace Fs
open Go.RowKit Ex Ino Mm
theorem zcz {M:List UInt8} (h:M.length=8192):(zab M).length=2048:=by unfold zab;rw[List.length_drop];omega
theorem zqx {M:List UInt8} (h:M.length=8192){n:Nat} (hn:n<32):zj6 M (6144+(n:Int)*64) 64=zaw (zab M) n:=by
 have hp:=zbl (zcz h) hn
 refine za7 (by rw[zda,hp]) fun k hk=>?_
 rw[zda] at hk
 rw[zdj _ _ _ _ hk,zcl _ _ (by omega)]
 unfold zaw zab
 rw[List.getD_eq_getElem?_getD,List.getD_eq_getElem?_getD,List.getElem?_take_of_lt (by omega),List.getElem?_drop,List.getElem?_drop]
 congr 2
 omega
theorem yik:(zds 64 8192).toNat=64:=by decide
theorem zci {w:World} {p gb mb:Nat} {G M:List UInt8} (h:MemAt w p gb mb G M):MemC (some ⟨p,0,none⟩) (fun W=>MemAt W p gb mb G M) (·=mb) w (zab M):=by
 obtain⟨l1,l2,l3⟩:=h.lt
 refine⟨zcz h.ml,h,fun k e=>by rw[e];exact l3,fun W W' hW hs k=>hW.keep k (by omega) (by omega) (by omega),fun W n hW hs hn=>?_⟩
 have:=zo4 hW (6144+(n:Int)*64) 64 (by omega) (by omega)
 rw[yik,zqx h.ml hn] at this
 refine this.mono ?_
 rintro e w' ⟨g,rfl,hg,hr,hm,hk⟩
 rw[zbl (zcz h.ml) hn]
 exact⟨g,rfl,hr.br,hm,hk⟩
def NoS (w:World) (v:Option Addr) (W:World):Prop:=v=none∨∃ p,v=some ⟨p,0,none⟩∧p<w.heap.size∧W.heap[p]?=some (.cells zzw 55 (0,0))
theorem NoS.no {w W:World} {v:Option Addr} (h:NoS w v W):NoM W v:=by
 rcases h with h | ⟨p,h1,_,h2⟩
 ·exact .inl h
 ·exact .inr ⟨p,h1,h2⟩
theorem NoS.start {w:World} {v:Option Addr} (h:NoM w v):NoS w v w:=by
 rcases h with h | ⟨p,h1,h2⟩
 ·exact .inl h
 ·exact .inr ⟨p,h1,(Array.getElem?_eq_some_iff.1 h2).1,h2⟩
theorem NoS.keep {w W W':World} {v:Option Addr} (h:NoS w v W)(hs:w.heap.size≤W.heap.size){F:Nat→Prop} (hF:∀ k,k<w.heap.size→¬F k)(k:Keeps F W W'):NoS w v W':=by
 rcases h with h | ⟨p,h1,h2,h3⟩
 ·exact .inl h
 ·exact .inr ⟨p,h1,h2,(k.block p (by omega) (hF p h2)).trans h3⟩
theorem zl4 {n:Nat} (hn:n<32):zaw (List.replicate 2048 0) n=List.replicate 64 0:=by
 unfold zaw
 rw[List.drop_replicate,List.take_replicate]
 congr 1
 omega
def yco (S:World→Prop) (F:Nat→Prop) (w:World) (BS:List UInt8) (x y:Value) (e:Ending) (w':World):Prop:=S w'∧Keeps F w w'∧((okR BS∧e=.returned x)∨(¬okR BS∧e=.returned y))
variable {v:Option Addr} {S:World→Prop} {F:Nat→Prop} {w:World} {BS:List UInt8}
theorem zhp (h:MemC v S F w BS):Calls Tryz.prog 93 #[.pointer v] w (yco S F w BS (.int .i64 0) (.int .i64 120)):=by
 have HC:=zq (zc2 h)
 clear h
 go_enter Tryz.func93,Tryz.ntmps93
 go_wp2_with fail
 refine HC.out.mono ?_
 rintro e w1 ⟨hs,hk,⟨ho,r,l,rfl,-,-,-⟩|⟨ho,rfl⟩⟩
 ·have HG:Hid (yco S F w BS (.int .i64 0) (.int .i64 120) (.returned (.int .i64 0)) w1):=⟨hs,hk,.inl ⟨ho,rfl⟩⟩
  clear hs hk ho
  go_wp2_with fail
  go_ret
  exact HG.out
 ·have HG:Hid (yco S F w BS (.int .i64 0) (.int .i64 120) (.returned (.int .i64 120)) w1):=⟨hs,hk,.inr ⟨ho,rfl⟩⟩
  clear hs hk ho
  go_wp2_with fail
  go_ret
  exact HG.out
def BadOut (S:World→Prop) (F:Nat→Prop) (w:World) (x:Value) (e:Ending) (w':World):Prop:=S w'∧Keeps F w w'∧e=.returned x
theorem zx1 (h:MemC v S F w BS)(ho:¬okR BS)(A:Option Addr)(n c:Nat):Calls Tryz.prog 86 #[.pointer v,.slice A n c] w (BadOut S F w (.int .i64 120)):=by
 have HC:=zq (zc2 h)
 have HO:=zq ho
 clear h ho
 go_enter Tryz.func86,Tryz.ntmps86
 go_wp2_with fail
 refine HC.out.mono ?_
 rintro e w1 ⟨hs,hk,⟨ho,_⟩|⟨-,rfl⟩⟩
 ·exact absurd ho HO.out
 ·have HG:Hid (BadOut S F w (.int .i64 120) (.returned (.int .i64 120)) w1):=⟨hs,hk,rfl⟩
  clear hs hk
  go_wp2_with fail
  go_ret
  exact HG.out
end Fs
namespace Fs
open Go.RowKit Ex Ino Mm
attribute [local go_sem] Oper.semAt_some
variable {v:Option Addr} {S:World→Prop} {F:Nat→Prop} {w:World} {BS:List UInt8}
theorem MemC.more (h:MemC v S F w BS){W:World} (hs:S W)(hsz:w.heap.size≤W.heap.size):MemC v S F W BS:=
 ⟨h.bl,hs,fun k f=>Nat.lt_of_lt_of_le (h.fl k f) hsz,fun W1 W2 a b c=>h.st W1 W2 a (Nat.le_trans hsz b) (c.mono fun k _ e=>Nat.le_trans hsz e),fun W1 n a b c=>h.ld W1 n a (Nat.le_trans hsz b) c⟩
theorem MemC.new (h:MemC v S F w BS){W:World} (k:Keeps (fun _=>False) w W):MemC v S F W BS:=h.more (h.st w W h.sw (Nat.le_refl _) (k.mono fun _ _ f=>f.elim)) k.size
theorem BadOut.new {W w':World} {x:Value} {e:Ending} (k:Keeps (fun _=>False) w W)(h:BadOut S F W x e w'):BadOut S F w x e w':=⟨h.1,(k.mono fun _ _ f=>f.elim).trans h.2.1,h.2.2⟩
theorem zmu (h:MemC v S F w BS)(ho:¬okR BS):∀ W,Keeps (fun _=>False) w W→∀ A n c,Calls Tryz.prog 86 #[.pointer v,.slice A n c] W (BadOut S F w (.int .i64 120)):=fun W k A n c=>(zx1 (h.new k) ho A n c).mono fun e w' hb=>hb.new k
theorem ybg (h:MemC v S F w BS)(ho:¬okR BS)(s:List UInt8):Calls Tryz.prog 49 #[.pointer v,St s] w (BadOut S F w (.tuple #[.int .i64 0,.int .i64 120])):=by
 have HC:=zq (zc2 h)
 have HO:=zq ho
 clear h ho
 go_enter Tryz.func49,Tryz.ntmps49
 go_wp2_with fail
 refine HC.out.mono ?_
 rintro e w1 ⟨hs,hk,⟨ho,_⟩|⟨-,rfl⟩⟩
 ·exact absurd ho HO.out
 ·have HG:Hid (BadOut S F w (.tuple #[.int .i64 0,.int .i64 120]) (.returned (.tuple #[.int .i64 0,.int .i64 120])) w1):=⟨hs,hk,rfl⟩
  clear hs hk
  go_wp2_with fail
  go_ret2
  exact HG.out
theorem ya4 (h:MemC v S F w BS)(ho:¬okR BS)(n:Int):Calls Tryz.prog 91 #[.pointer v,.int .i64 n] w (BadOut S F w (.tuple #[.int .i64 0,.int .i64 120])):=by
 have HC:=zq (zc2 h)
 have HO:=zq ho
 clear h ho
 go_enter Tryz.func91,Tryz.ntmps91
 go_wp2_with fail
 refine HC.out.mono ?_
 rintro e w1 ⟨hs,hk,⟨ho,_⟩|⟨-,rfl⟩⟩
 ·exact absurd ho HO.out
 ·have HG:Hid (BadOut S F w (.tuple #[.int .i64 0,.int .i64 120]) (.returned (.tuple #[.int .i64 0,.int .i64 120])) w1):=⟨hs,hk,rfl⟩
  clear hs hk
  go_wp2_with fail
  go_ret2
  exact HG.out
theorem zs7 (h:MemC v S F w BS)(ho:¬okR BS)(s:List UInt8):Calls Tryz.prog 83 #[.pointer v,St s] w (BadOut S F w (.int .i64 120)):=by
 have HC:=zq (zmu h ho)
 clear h ho
 go_enter Tryz.func83,Tryz.ntmps83
 go_wp2_with fail
 refine(HC.out _ (Keeps.trans (Keeps.alloc _ _ _) (Keeps.alloc _ _ _)) _ _ _).mono ?_
 rintro e w1 ⟨hs,hk,rfl⟩
 have HG:Hid (BadOut S F w (.int .i64 120) (.returned (.int .i64 120)) w1):=⟨hs,hk,rfl⟩
 clear hs hk
 go_wp2_with fail
 go_ret
 exact HG.out
theorem zs1 (h:MemC v S F w BS)(ho:¬okR BS)(s t:List UInt8):Calls Tryz.prog 40 #[.pointer v,St s,St t] w (BadOut S F w (.int .i64 120)):=by
 have HC:=zq (zmu h ho)
 clear h ho
 go_enter Tryz.func40,Tryz.ntmps40
 go_wp2_with fail
 refine(HC.out _ (Keeps.trans (Keeps.trans (Keeps.alloc _ _ _) (Keeps.alloc _ _ _)) (Keeps.alloc _ _ _)) _ _ _).mono ?_
 rintro e w1 ⟨hs,hk,rfl⟩
 have HG:Hid (BadOut S F w (.int .i64 120) (.returned (.int .i64 120)) w1):=⟨hs,hk,rfl⟩
 clear hs hk
 go_wp2_with fail
 go_ret
 exact HG.out
end Fs
namespace Fs
open Go.RowKit Ex Ino Mm
def zjn:List (RG→Int × RG)→RG→Int × RG
 | [],g=>(0,g)
 | f::t,g=>if (f g).1=0 then zjn t (f g).2 else f g
def sv0:RG→Int × RG:=fun g=>(0,g)
theorem zlx:∀ (l:List (RG→Int × RG)) (f:RG→Int × RG) (g gk:RG),zjn l g=(0,gk)→zjn (l++[f]) g=f gk
 | [],f,g,gk,h=>by
  simp only[zjn,Prod.mk.injEq,true_and] at h
  subst h
  simp only[List.nil_append,zjn]
  split
  ·rename_i h0;exact(Prod.ext h0.symm rfl:((0:Int),(f g).2)=f g)
  ·rfl
 | a::l,f,g,gk,h=>by
  simp only[List.cons_append,zjn] at h ⊢
  split
  ·rename_i h0
   rw[zp h0] at h
   exact zlx l f _ gk h
  ·rename_i h0
   rw[zn h0] at h
   rw[h] at h0
   exact absurd rfl h0
theorem zqc:∀ (l t:List (RG→Int × RG)) (g:RG),(zjn l g).1≠0→zjn (l++t) g=zjn l g
 | [],t,g,h=>absurd rfl h
 | a::l,t,g,h=>by
  simp only[List.cons_append,zjn] at h ⊢
  split
  ·rename_i h0
   rw[zp h0] at h
   exact zqc l t _ h
  ·rfl
structure Steps (w:World) (p gb mb:Nat) (Fn:Nat→Prop) (g:Nat) (fs:List (Nat × Array Value)) (sv:List (RG→Int × RG)) (g0:RG) (I:Nat→World→Prop):Prop where
 len:sv.length=fs.length
 few:fs.length≤100
 en:∀ k,k<fs.length→∀ args W,(callFunc (fs.getD k (0,#[])).1 args).run Tryz.prog W=.ok (.enter (fs.getD k (0,#[])).1 args) W
 cl:∀ k,k<fs.length→w.cell? ⟨g,k,none⟩=some (.func (.func (fs.getD k (0,#[])).1) #[] (fs.getD k (0,#[])).2)
 gl:g<w.heap.size∧g≠mb∧¬Fn g
 fl:∀ k,Fn k→k<w.heap.size∧k≠p∧k≠gb∧k≠mb
 i0:∀ W,Keeps (·=mb) w W→I 0 W
 ib:∀ W W' k,I k W→Keeps (fun j=>w.heap.size≤j) W W'→I k W'
 st:∀ k,k<fs.length→∀ gk,zjn (sv.take k) g0=(0,gk)→∀ W r l,w.heap.size≤r→I k W→Keeps (fun j=>j=mb∨Fn j) w W→RegAt W r gk.bs l→zas l=gk.ns →
  Calls Tryz.prog (fs.getD k (0,#[])).1 (#[.pointer (some ⟨r,0,none⟩)]++(fs.getD k (0,#[])).2) W
   fun e w'=>∃ l',e=.returned (.int .i64 ((sv.getD k sv0) gk).1)∧RegAt w' r ((sv.getD k sv0) gk).2.bs l'∧zas l'=((sv.getD k sv0) gk).2.ns∧Keeps (fun j=>j=r∨Fn j) W w'∧I (k+1) w'
def yiw (w:World) (p gb mb:Nat) (G M:List UInt8) (Fn:Nat→Prop) (I:Nat→World→Prop) (n:Nat) (sv:Int × RG) (e:Ending) (w':World):Prop:=
 ∃ W k,k≤n∧I k W∧e=.returned (.int .i64 sv.1)∧(sv.1=0→k=n∧MemAt w' p gb mb G (zbx M 6144 (zad sv.2)))∧(sv.1≠0→MemAt w' p gb mb G M)∧Keeps (fun j=>j=p∨j=mb) W w'∧Keeps (fun j=>j=p∨j=mb∨Fn j) w w'
theorem ya3 {α:Type} (l:List α)(d:α){k:Nat} (h:k<l.length):l.take (k+1)=l.take k++[l.getD k d]:=by
 rw[List.take_succ_eq_append_getElem h,List.getD_eq_getElem?_getD,List.getElem?_eq_getElem h];rfl
theorem zf9 {w:World} {p gb mb:Nat} {G M:List UInt8} {Fn:Nat→Prop} {g c:Nat} {fs:List (Nat × Array Value)} {sv:List (RG→Int × RG)} {I:Nat→World→Prop}
  (h:MemAt w p gb mb G M) (ho:okR (zab M)) (hst:Steps w p gb mb Fn g fs sv ⟨zab M,zaa (zab M)⟩ I):
  Calls Tryz.prog 86 #[.pointer (some ⟨p,0,none⟩),.slice (some ⟨g,0,none⟩) fs.length c] w (yiw w p gb mb G M Fn I fs.length (zjn sv ⟨zab M,zaa (zab M)⟩)):=by
 have HC:=zq (zc2 (zci h))
 have HO:=zq ho
 have HL:=zq h.lt
 have HST:=zq hst
 have hlen:=hst.few
 clear h ho hst
 generalize hg0:(⟨zab M,zaa (zab M)⟩:RG)=g0 at *
 go_enter Tryz.func86,Tryz.ntmps86
 go_wp2_with fail
 refine HC.out.mono ?_
 rintro e w1 ⟨hs,hk,⟨ho,r,l,rfl,hr,hreg,hns⟩|⟨ho,-⟩⟩
 rotate_left
 ·exact absurd HO.out ho
 have HS:=zq hs
 have HI:=zq (HST.out.i0 w1 hk)
 have HK:Hid (Keeps (fun j=>j=mb∨Fn j∨w.heap.size≤j) w w1):=hk.mono fun _ _ e=>.inl e
 have HREG:Hid (RegAt w1 r g0.bs l):=by rw[← hg0];exact hreg
 have HNS:Hid (zas l=g0.ns):=by rw[← hg0];exact hns
 have HR:=zq hr
 clear hs hk hreg hns ho HC
 go_wp2_with fail
 go_loopw [20] (fun i W=>∃ (k:Nat) (gk:RG) (l:List ND),i=.int .i64 (k:Int)∧k≤fs.length∧Hid (zjn (sv.take k) g0=(0,gk))∧RegAt W r gk.bs l∧Hid (zas l=gk.ns)∧Hid (MemAt W p gb mb G M)∧Hid (I k W)∧Hid (Keeps (fun j=>j=mb∨Fn j∨w.heap.size≤j) w W)) (fun i _=>fs.length-(RowKit.intOf i).toNat)
 case atStart=>exact⟨0,g0,l,rfl,Nat.zero_le _,rfl,HREG.out,HNS,HS,HI,HK⟩
 case round =>
  clear HREG HNS HS HI HK
  obtain⟨k,gk,l2,rfl,hk,HRUN,hreg,HNS,HM,HI,HK⟩:=hrel
  by_cases hlt:k<fs.length
  ·have he:=HST.out.en k hlt
   have hc1:wr.cell? ⟨g,k,none⟩=some (.func (.func (fs.getD k (0,#[])).1) #[] (fs.getD k (0,#[])).2):=by
    obtain⟨e1,e2,e3⟩:=HST.out.gl
    exact(World.cell?_of_block (w:=w) (w':=wr) (a:=⟨g,k,none⟩) (HK.out.block g e1 (fun f=>by rcases f with f | f | f;exact e2 f;exact e3 f;omega))).trans (HST.out.cl k hlt)
   have hgl:g<wr.heap.size:=Nat.lt_of_lt_of_le HST.out.gl.1 HK.out.size
   have hcall:=HST.out.st k hlt gk HRUN.out wr r l2 HR.out HI.out (HK.out.mono fun j hj f=>by rcases f with f | f | f;exact .inl f;exact .inr f;omega) hreg HNS.out
   have HCALL:=zq hcall
   have hstep:zjn (sv.take (k+1)) g0=(sv.getD k sv0) gk:=by
    rw[ya3 sv sv0 (by rw[HST.out.len];exact hlt)]
    exact zlx _ _ _ _ HRUN.out
   have HSTEP:=zq hstep
   clear hcall hstep hreg HNS
   generalize hNN:(fs.getD k (0,#[])).1=N at *
   generalize hCC:(fs.getD k (0,#[])).2=caps at *
   clear hNN hCC
   generalize (sv.getD k sv0) gk=res at *
   obtain⟨E,g2⟩:=res
   go_wp2_with fail
   refine HCALL.out.mono ?_
   rintro e w2 ⟨l3,rfl,hreg2,hns2,hk2,hi2⟩
   have hm2:=HM.out.keep hk2 (fun f=>by
    rcases f with f | f
    ·have:=HL.out.1;have:=HR.out;omega
    ·exact(HST.out.fl _ f).2.1 rfl) (fun f=>by
    rcases f with f | f
    ·have:=HL.out.2.1;have:=HR.out;omega
    ·exact(HST.out.fl _ f).2.2.1 rfl) (fun f=>by
    rcases f with f | f
    ·have:=HL.out.2.2;have:=HR.out;omega
    ·exact(HST.out.fl _ f).2.2.2 rfl)
   have hkk:=HK.out.trans (hk2.mono fun j _ f=>by
    rcases f with f | f
    ·exact .inr (.inr (by rw[f];exact HR.out))
    ·exact .inr (.inl f):Keeps (fun j=>j=mb∨Fn j∨w.heap.size≤j) wr w2)
   have HREG2:=zq hreg2
   have HNS2:=zq hns2
   have HI2:=zq hi2
   have HM2:=zq hm2
   have HK2:=zq hkk
   clear hreg2 hns2 hk2 hi2 hm2 hkk HCALL he hc1
   by_cases hE:E=0
   ·subst hE
    go_wp2_with fail
    go_roundw
    case rel=>exact⟨k+1,g2,l3,by go_num,by omega,HSTEP,HREG2.out,HNS2,HM2,HI2,HK2⟩
    case measure=>simp[RowKit.intOf];omega
   ·have hrun:zjn sv g0=(E,g2):=by
     have:=zqc (sv.take (k+1)) (sv.drop (k+1)) g0 (by rw[HSTEP.out];exact hE)
     rwa [List.take_append_drop,HSTEP.out] at this
    have HG:Hid (yiw w p gb mb G M Fn I fs.length (zjn sv g0) (.returned (.int .i64 E)) w2):=by
     rw[hrun]
     exact⟨w2,k+1,by omega,HI2.out,rfl,fun h0=>absurd h0 hE,fun _=>HM2.out,Keeps.refl _ _,HK2.out.mono fun j hj f=>by rcases f with f | f | f;exact .inr (.inl f);exact .inr (.inr f);omega⟩
    clear hrun
    go_wp2_with fail
    go_ret
    exact HG.out
  ·obtain rfl:k=fs.length:=by omega
   have hrun:zjn sv g0=(0,gk):=by
    have:=HRUN.out
    rwa [List.take_of_length_le (by rw[HST.out.len];omega)] at this
   have hby:=yb4 hreg
   have hbe:zad ⟨gk.bs,zas l2⟩=zad gk:=by rw[HNS.out]
   rw[hbe] at hby
   have HBY:=zq hby
   have HRU:=zq hrun
   have HBL:Hid ((zad gk).length≤140737488351232):=by
    have:=zcb (g:=⟨gk.bs,zas l2⟩) hreg.bl (by simp[zas,hreg.nl])
    rw[hbe] at this
    show _≤_
    omega
   clear hby hbe hreg hrun
   have hbl:=HBL.out
   go_wp2_with fail
   refine HBY.out.mono ?_
   rintro e w3 ⟨gb3,c3,rfl,ho3,hk3⟩
   have hrr:=HR.out
   obtain⟨l1,l2',l3⟩:=HL.out
   have hks:=HK.out.size
   have hm3:=HM.out.keep hk3 (by omega) (by omega) (by omega)
   have hlay:=zsp hm3 6144 (by omega) (by omega) (some ⟨gb3,0,none⟩) (zad gk) c3 ho3.br (fun ad e _=>by cases e;have:=ho3.lt';exact⟨by show gb3≠p;omega,by show gb3≠mb;omega⟩) (by omega) ho3.cap_le
   have hi3:=HST.out.ib wr w3 _ HI.out (hk3.mono fun j _ e=>by show _≤_;rw[e];exact hrr)
   have hk33:=HK.out.trans (hk3.mono fun j _ e=>.inr (.inr (by rw[e];exact hrr)):Keeps (fun j=>j=mb∨Fn j∨w.heap.size≤j) wr w3)
   have HLAY:=zq hlay
   have HI3:=zq hi3
   have HK3:=zq hk33
   clear ho3 hk3 hm3 hlay hi3 hk33 HBY hbl l1 l2' l3
   go_wp2_with fail
   refine HLAY.out.mono ?_
   rintro e w4 ⟨rfl,hm4,hk4⟩
   have HG:Hid (yiw w p gb mb G M Fn I fs.length (zjn sv g0) (.returned (.int .i64 0)) w4):=by
    rw[HRU.out]
    exact⟨w3,fs.length,Nat.le_refl _,HI3.out,rfl,fun _=>⟨rfl,hm4⟩,fun h=>absurd rfl h,hk4,(HK3.out.mono fun j hj f=>by rcases f with f | f | f;exact .inr (.inl f);exact .inr (.inr f);omega).trans (hk4.mono fun j _ f=>by rcases f with f | f;exact .inl f;exact .inr (.inl f))⟩
   clear hm4 hk4 HLAY
   go_wp2_with fail
   go_ret
   exact HG.out
end Fs
namespace Fs
open Go.RowKit Ex Ino Mm
def fmtB:List UInt8:=zb7 0++List.replicate 512 0
theorem zja:fmtB.length=576:=by unfold fmtB;rw[List.length_append,zbj,List.length_replicate]
theorem yh2:fmtB≠[]:=fun e=>by have:=zja;rw[e] at this;cases this
theorem ye1 {w0 W:World} {g1 c1 gm:Nat} (h1:BR W W.heap.size (some ⟨g1,0,none⟩) (zb7 0))(h3:BR W W.heap.size (some ⟨gm,0,none⟩) (List.replicate 512 0))(hb:Below w0.heap.size w0 W){gb:Nat} (hgb:W.heap.size=gb):
  Calls Tryz.prog 22 #[.slice (some ⟨gb,0,none⟩) 2 2] (W.alloc (.cells #[.slice (some ⟨g1,0,none⟩) (zb7 0).length c1,.slice (some ⟨gm,0,none⟩) 512 512] 31)) (GivesN w0 fmtB):=by
 subst hgb
 have hf:fmtB=zb7 0++List.replicate 512 0:=rfl
 have hfl:=zja
 have hfn:=yh2
 have hz:(List.replicate 512 (0:UInt8)).length=512:=List.length_replicate ..
 generalize List.replicate 512 (0:UInt8)=Z at *
 generalize fmtB=FB at *
 have l1:=zbj 0
 have hx:=heap_alloc_new W (.cells #[.slice (some ⟨g1,0,none⟩) (zb7 0).length c1,.slice (some ⟨gm,0,none⟩) 512 512] 31)
 have bn:=bA W (.cells #[.slice (some ⟨g1,0,none⟩) (zb7 0).length c1,.slice (some ⟨gm,0,none⟩) 512 512] 31)
 have hpt:PartsR (W.alloc (.cells #[.slice (some ⟨g1,0,none⟩) (zb7 0).length c1,.slice (some ⟨gm,0,none⟩) 512 512] 31)) W.heap.size [⟨some ⟨g1,0,none⟩,c1,zb7 0⟩,⟨some ⟨gm,0,none⟩,512,Z⟩]:=by
  refine⟨(Array.getElem?_eq_some_iff.1 hx).1,fun k p hp=>?_⟩
  rw[cell_of_row _ _ _ _ _ _ hx]
  match k,hp with
  | 0,hp=>simp at hp;subst hp;exact⟨rfl,brK h1 bn,fun e=>by simp only at e;rw[e] at l1;cases l1⟩
  | 1,hp=>simp at hp;subst hp;exact⟨by show some (Value.slice (some ⟨gm,0,none⟩) 512 512)=_;simp only[hz],brK h3 bn,fun e=>by simp only at e;rw[e] at hz;cases hz⟩
  | k+2,hp=>simp at hp
 have hcl:zjg [⟨some ⟨g1,0,none⟩,c1,zb7 0⟩,⟨some ⟨gm,0,none⟩,512,Z⟩]=FB:=by rw[hf];simp[zjg]
 have hj:=znu 2 hpt (by simp) (by rw[hcl,hfl];decide) (by rw[hcl,hfl];decide)
 rw[hcl] at hj
 refine hj.mono fun e w' hh=>?_
 obtain⟨g,c,rfl,q1,q2,q3,q4,q5⟩:=zvb hh hfn
 have bw:=bT hb bn
 exact⟨g,c,rfl,Nat.le_trans bw.size q1,q2,q3,bT bw q4,q5⟩
structure LayC (v:Option Addr) (S T:World→Prop) (F:Nat→Prop) (w:World) (xs:List UInt8):Prop where
 st:∀ W,Below w.heap.size w W→S W
 ly:∀ W g c,S W→w.heap.size≤g→BR W W.heap.size (some ⟨g,0,none⟩) xs→xs.length≤c→Calls Tryz.prog 21 #[.pointer v,.int .i64 6144,.slice (some ⟨g,0,none⟩) xs.length c] W
  fun e w'=>e=.returned (.tuple #[])∧T w'∧Keeps F W w'
theorem zq3 {w:World} {p gb mb:Nat} {G M:List UInt8} (h:MemAt w p gb mb G M)(xs:List UInt8)(hl:xs.length≤140737488351232):LayC (some ⟨p,0,none⟩) (fun W=>MemAt W p gb mb G M∧w.heap.size≤W.heap.size) (fun W=>MemAt W p gb mb G (zbx M 6144 xs)) (fun k=>k=p∨k=mb) w xs:=by
 obtain⟨l1,l2,l3⟩:=h.lt
 refine⟨fun W k=>⟨h.keep (zac k:Keeps (fun _=>False) w W) (fun f=>f) (fun f=>f) (fun f=>f),k.size⟩,fun W g c hS hg hr hc=>?_⟩
 exact zsp hS.1 6144 (by omega) (by omega) (some ⟨g,0,none⟩) xs c hr (fun ad e _=>by cases e;exact⟨by show g≠p;omega,by show g≠mb;omega⟩) hl hc
def ycn (T:World→Prop) (F:Nat→Prop) (w:World) (e:Ending) (w':World):Prop:=e=.returned (.tuple #[])∧T w'∧Keeps F w w'
theorem zn3 {v : Option Addr} {S T : World → Prop} {F : Nat → Prop} {w : World} (h : LayC v S T F w fmtB) :
    Calls Tryz.prog 9 #[.pointer v] w (ycn T F w):=by
  have hmk:∀ w:World,(Instr.makeSlice 31 (.int .i64 512) (.int .i64 512)).run Tryz.prog w=.ok (.slice (some ⟨w.heap.size,0,none⟩) 512 512) (w.alloc (.cells (madeCells #[.int .u8 0] 512) 5)):=zfq 512 (by omega)
  have hn1:∀ W,Calls Tryz.prog 23 #[.int .u32 0] W (GivesN W (zb7 0)):=fun W=>zpd 0 W (by omega)
  have HN1:=zq hn1
  have hj:=fun (W:World) (g1 c1 gm gb:Nat) (h1:BR W W.heap.size (some ⟨g1,0,none⟩) (zb7 0)) (h3:BR W W.heap.size (some ⟨gm,0,none⟩) (List.replicate 512 0)) (hb:Below w.heap.size w W) (hgb:W.heap.size=gb)=>ye1 (w0:=w) (W:=W) (c1:=c1) h1 h3 hb hgb
  have HJ:=zq hj
  have hlay:∀ W g c,Below w.heap.size w W→w.heap.size≤g→BR W W.heap.size (some ⟨g,0,none⟩) fmtB→fmtB.length≤c→Calls Tryz.prog 21 #[.pointer v,.int .i64 6144,.slice (some ⟨g,0,none⟩) fmtB.length c] W (ycn T F w):=fun W g c hb hg hr hc =>
    (h.ly W g c (h.st W hb) hg hr hc).mono fun e w' hh=>⟨hh.1,hh.2.1,(zac hb).trans hh.2.2⟩
  have HLAY:=zq hlay
  clear hn1 hj hlay h
  generalize fmtB=FB at *
  generalize zb7 0=H0 at *
  go_enter Tryz.func9,Tryz.ntmps9
  go_wp2_with fail
  go_region_with (first
    | (refine(HN1.out _).mono ?_;rintro e w1 ⟨g1,c1,rfl,a1,a2,a3,b1,a5⟩;clear a1 a2 a5)
    | (first
        | refine(HJ.out (w1.alloc _) _ _ _ (w1.heap.size+1) (brK a3 (bA w1 _)) (Row8.made w1 512 _).br (bT (bT (bD w) b1) (bA w1 _)) (World.size_alloc _ _)).mono ?_
        | refine(HJ.out w1 _ _ _ w1.heap.size a3 (brK (Row8.made w.drew 512 _).br b1) (bT (bT (bD w) (bA w.drew _)) b1) rfl).mono ?_
       rintro e w4 ⟨g,c,rfl,q1,q2,q3,q4,q5⟩)
    | (refine(HLAY.out w4 _ _ q4 q1 q3 q5).mono ?_;rintro e w5 ⟨rfl,hT,hK⟩))
  all_goals
    have HG:Hid (ycn T F w (.returned (.tuple #[])) w5):=⟨rfl,hT,hK⟩
    clear hT hK q1 q2 q3 q4 q5 a3 b1
    go_wp2_with fail
    go_end0
    exact HG.out
end Fs
namespace Fs
open Go.RowKit Ex Ino Mm
def ycp (w:World) (r sb nb:Nat) (name:List UInt8) (cv:Int × Nat × RG) (e:Ending) (w':World):Prop:=
 e=.returned (.int .i64 cv.1)∧RegIs w' r cv.2.2∧Keeps (fun k=>k=r∨k=nb) w w'∧Boxed w' sb 9 (St name)∧Boxed w' nb 3 (.int .i64 (cv.2.1:Nat))
theorem ztd {w:World} {r:Nat} {bs:List UInt8} {l:List ND} (h:RegAt w r bs l)(name:List UInt8)(hn:name.length≤9223372036854775807){sb nb:Nat} {x:Int} (hs:Boxed w sb 9 (St name))(hb:Boxed w nb 3 (.int .i64 x))
  (hr:sb≠r∧nb≠r∧sb≠nb):
  Calls Tryz.prog 148 #[.pointer (some ⟨r,0,none⟩),.pointer (some ⟨sb,0,none⟩),.pointer (some ⟨nb,0,none⟩)] w (ycp w r sb nb name (zae ⟨bs,zas l⟩ name)):=by
 have HC:=zq (zxw h name hn)
 have cs:=hs.cell
 have HS:=zq hs
 have HB:=zq hb
 clear h hs hb
 generalize zae ⟨bs,zas l⟩ name=cv at *
 obtain⟨E,n,g2⟩:=cv
 go_enter Tryz.func148,Tryz.ntmps148
 go_wp2_with fail
 refine HC.out.mono ?_
 rintro e w2 ⟨rfl,⟨l2,hn2,hreg2⟩,hk2⟩
 have b2:Boxed w2 nb 3 (.int .i64 x):=(hk2.block _ HB.out.lt (fun e=>hr.2.1 e)).trans HB.out
 have s2:Boxed w2 sb 9 (St name):=(hk2.block _ HS.out.lt (fun e=>hr.1 e)).trans HS.out
 have cn:=b2.cell
 have fnz:=b2.frozen
 have k3:Keeps (·=nb) w2 (w2.setCell ⟨nb,0,none⟩ (.int .i64 (n:Int))):=Keeps.setCell _ _ _ _ rfl
 have hreg3:RegAt (w2.setCell ⟨nb,0,none⟩ (.int .i64 (n:Int))) r g2.bs l2:=hreg2.keeps k3 (fun e=>hr.2.1 e.symm) fun d hd hne ad ea eb=>by
  exact zok b2 (fun o x y h1 h2=>by simp at h2) (hreg2.nd d hd).ok.xr hne ad ea eb
 have HG:Hid (ycp w r sb nb name (E,n,g2) (.returned (.int .i64 E)) (w2.setCell ⟨nb,0,none⟩ (.int .i64 (n:Int)))):=
  ⟨rfl,⟨l2,hn2,hreg3⟩,(hk2.mono fun _ _ e=>.inl e).trans (k3.mono fun _ _ e=>.inr e),s2.other hr.2.2 _,b2.set _⟩
 clear hreg2 hk2 b2 s2 k3 hreg3 hn2 HC
 go_wp2_with fail
 go_ret
 exact HG.out
def ygn (w:World) (p gb mb:Nat) (G M:List UInt8) (cv:Int × Nat × RG) (e:Ending) (w':World):Prop:=
 e=.returned (.tuple #[.int .i64 (cv.2.1:Nat),.int .i64 cv.1])∧MemAt w' p gb mb G (if cv.1=0 then zbx M 6144 (zad cv.2.2) else M)∧Keeps (fun k=>k=p∨k=mb) w w'
def CreI (w:World) (name:List UInt8) (n:Nat) (k:Nat) (W:World):Prop:=Boxed W w.heap.size 9 (St name)∧Boxed W (w.heap.size+1) 3 (.int .i64 (if k=0 then 0 else (n:Int)))
def creF (w:World):List (Nat × Array Value):=[(148,#[.pointer (some ⟨w.heap.size,0,none⟩),.pointer (some ⟨w.heap.size+1,0,none⟩)])]
def yid (w:World) (name:List UInt8):World:=(((w.alloc (.cells #[St name] 9)).alloc (.cells #[.int .i64 0] 3)).alloc (.cells #[.func (.func 148) #[] #[.pointer (some ⟨w.heap.size,0,none⟩),.pointer (some ⟨w.heap.size+1,0,none⟩)]] 110))
theorem ybt {w:World} {p gb mb:Nat} {G M:List UInt8} (h:MemAt w p gb mb G M)(name:List UInt8)(hn:name.length≤9223372036854775807)(g0:RG):
  Steps (yid w name) p gb mb (·=w.heap.size+1) (w.heap.size+1+1) (creF w) [fun g=>((zae g name).1,(zae g name).2.2)] g0 (CreI w name (zae g0 name).2.1):=by
 obtain⟨l1,l2,l3⟩:=h.lt
 have hsz:(yid w name).heap.size=w.heap.size+1+1+1:=by unfold yid;rw[World.size_alloc,World.size_alloc,World.size_alloc]
 have b0:Boxed (yid w name) w.heap.size 9 (St name):=((Boxed.new w 9 (St name)).alloc _).alloc _
 have b1:Boxed (yid w name) (w.heap.size+1) 3 (.int .i64 0):=by
  have:=(Boxed.new (w.alloc (.cells #[St name] 9)) 3 (.int .i64 0)).alloc (.cells #[.func (.func 148) #[] #[.pointer (some ⟨w.heap.size,0,none⟩),.pointer (some ⟨w.heap.size+1,0,none⟩)]] 110)
  rwa [World.size_alloc] at this
 have b2:=Boxed.new ((w.alloc (.cells #[St name] 9)).alloc (.cells #[.int .i64 0] 3)) 110 (.func (.func 148) #[] #[.pointer (some ⟨w.heap.size,0,none⟩),.pointer (some ⟨w.heap.size+1,0,none⟩)])
 rw[World.size_alloc,World.size_alloc] at b2
 refine⟨rfl,by show 1≤100;omega,fun k hk=>?_,fun k hk=>?_,⟨by omega,by omega,by omega⟩,fun k e=>by subst e;exact⟨by omega,by omega,by omega,by omega⟩,fun W k=>?_,fun W W' k hI hk=>?_,fun k hk gk hgk W r l hr hI hK hreg hns=>?_⟩
 ·have:k=0:=by simp only[creF,List.length_singleton] at hk;omega
  subst this
  exact enters_of Tryz.func148 (by kernel_rfl) rfl
 ·have:k=0:=by simp only[creF,List.length_singleton] at hk;omega
  subst this
  exact b2.cell
 ·exact⟨(k.block _ b0.lt (by omega)).trans b0,(k.block _ b1.lt (by omega)).trans b1⟩
 ·exact⟨(hk.block _ hI.1.lt (by omega)).trans hI.1,(hk.block _ hI.2.lt (by omega)).trans hI.2⟩
 ·have:k=0:=by simp only[creF,List.length_singleton] at hk;omega
  subst this
  have hg:gk=g0:=by simpa [zjn] using hgk.symm
  subst hg
  have hcv:zae ⟨gk.bs,zas l⟩ name=zae gk name:=by rw[hns]
  have:=ztd hreg name hn hI.1 hI.2 ⟨by omega,by omega,by omega⟩
  rw[hcv] at this
  refine this.mono ?_
  rintro e w' ⟨rfl,⟨l',e1,e2⟩,e3,e4,e5⟩
  exact⟨l',rfl,e2,e1,e3,e4,e5⟩
theorem zhh (f:RG→Int × RG)(g:RG):zjn [f] g=f g:=zlx [] f g g rfl
theorem ztc {g:RG} {name:List UInt8} (h:(zae g name).1≠0):(zae g name).2.1=0:=by
 unfold zae at h ⊢
 split
 ·rename_i h0
  rw[zp h0] at h
  cases hf:zg7 g.ns with
  | none=>rfl
  | some i=>rw[hf] at h;exact absurd rfl h
 ·rfl
theorem zmp {w:World} {p gb mb:Nat} {G M:List UInt8} (h:MemAt w p gb mb G M)(ho:okR (zab M))(name:List UInt8)(hn:name.length≤9223372036854775807):
  Calls Tryz.prog 127 #[.pointer (some ⟨p,0,none⟩),St name] w (ygn w p gb mb G M (zae ⟨zab M,zaa (zab M)⟩ name)):=by
 have hk:Keeps (fun _=>False) w (yid w name):=Keeps.trans (Keeps.trans (Keeps.alloc _ _ _) (Keeps.alloc _ _ _)) (Keeps.alloc _ _ _)
 have hch:=zf9 (c:=1) (h.keep hk (fun f=>f) (fun f=>f) (fun f=>f)) ho (ybt h name hn ⟨zab M,zaa (zab M)⟩)
 have HC:=zq hch
 have HK:=zq hk
 have HL:=zq h.lt
 have HBAD:=zq (ztc (g:=⟨zab M,zaa (zab M)⟩) (name:=name))
 have HONE:=zq (zhh (fun g=>((zae g name).1,(zae g name).2.2)) ⟨zab M,zaa (zab M)⟩)
 clear hch hk h
 generalize hg0:(⟨zab M,zaa (zab M)⟩:RG)=g0 at *
 unfold yid at HC HK
 go_enter Tryz.func127,Tryz.ntmps127
 go_wp2_with fail
 refine HC.out.mono ?_
 rintro e w2 ⟨W,k,hk1,hI,rfl,h0,h1,hk2,hk3⟩
 obtain⟨l1,l2,l3⟩:=HL.out
 rw[HONE.out] at h0 h1
 rw[HONE.out]
 have hbad:=HBAD.out
 dsimp only at h0 h1
 generalize zae g0 name=cv at *
 obtain⟨E,n,g2⟩:=cv
 dsimp only at h0 h1 hbad
 have hn2:(if k=0 then (0:Int) else (n:Int))=(n:Int):=by
  by_cases hE:E=0
  ·have hk4:=(h0 hE).1
   rw[zn (by rw[hk4];simp[creF])]
  ·rw[hbad hE];split<;>rfl
 have hb:Boxed w2 (w.heap.size+1) 3 (.int .i64 (n:Int)):=by
  have:=(hk2.block _ hI.2.lt (fun e=>by rcases e with e | e<;>omega)).trans hI.2
  rw[hn2] at this
  exact this
 have cn:=hb.cell
 have HG:Hid (ygn w p gb mb G M (E,n,g2) (.returned (.tuple #[.int .i64 (n:Int),.int .i64 E])) w2):=by
  refine⟨rfl,?_,((HK.out.mono fun _ _ f=>f.elim:Keeps (fun j=>j=p∨j=mb∨w.heap.size≤j) w _).trans (hk3.mono fun j _ f=>by rcases f with f | f | f;exact .inl f;exact .inr (.inl f);exact .inr (.inr (by rw[f];omega)))).mono fun j hj f=>by rcases f with f | f | f;exact .inl f;exact .inr f;omega⟩
  by_cases hE:E=0
  ·simp only[hE,if_true];exact(h0 hE).2
  ·simp only[hE,if_false];exact h1 hE
 clear hI h0 h1 hk2 hk3 hbad hn2 hb HC HONE HBAD
 go_wp2_with fail
 go_ret2
 exact HG.out
end Fs
namespace Fs
open Go.RowKit Ex Ino Mm
theorem zvu {g:RG} (h:RGood g){i:Nat} (hi:i<8)(hf:isF (at' g.ns i)=true):0≤(at' g.ns i).size∧(at' g.ns i).size≤1472∧(at' g.ns i).size≤64*((za4 (at' g.ns i).ext).length:Int):=by
 obtain⟨_,_,h3,_,h5⟩:=zck ((h.isF_iff hi).1 hf)
 refine⟨h3.1,h3.2,?_⟩
 rw[h5]
 unfold zbq
 split<;>omega
theorem zhj {g:RG} (h:RGood g){n a:Int} {k:Nat} (he:(zb6 g n a k).1=0):
  ((0≤n∧n<8)∧isF (at' g.ns n.toNat)=true)∧(0≤a∧a≤1472)∧a.toNat+k≤64*(za4 (at' (zb6 g n a k).2.ns n.toNat).ext).length∧RGood (zb6 g n a k).2:=by
 unfold zb6 at he ⊢
 by_cases h0:za1 g.ns n≠0
 ·rw[zp h0] at he;exact absurd he h0
 rw[zn h0] at he ⊢
 have h0:za1 g.ns n=0:=by simpa using h0
 obtain⟨hn,fn⟩:=nodeE_zero.1 h0
 have ex:za0 g.ns n=at' g.ns n.toNat:=by unfold za0;rw[zp h0]
 rw[ex] at he ⊢
 by_cases h1:a<0∨(at' g.ns n.toNat).size<a
 ·rw[zp h1] at he;cases he
 rw[zn h1] at he ⊢
 have hb:=zvu h (show n.toNat<8 by omega) fn
 by_cases h2:(at' g.ns n.toNat).size<a+k
 ·rw[zp h2] at he ⊢
  unfold zag at he ⊢
  by_cases h3:zch g n (a+k)=0
  ·rw[zp h3]
   obtain⟨_,r2,r3,r4,r5⟩:=zfb h h3
   have e1:at' (zb5 g n (a+k)).ns n.toNat=⟨(at' g.ns n.toNat).name,a+k,zd8 (at' g.ns n.toNat).ext (zao g.ns) (zbq (a+k)).toNat⟩:=by
    unfold zb5
    simp only
    rw[r4,zcq h.nl (by omega),zp rfl]
   have f1:isF (at' (zb5 g n (a+k)).ns n.toNat)=true:=by rw[e1];exact fn
   have hb2:=zvu r5 (show n.toNat<8 by omega) f1
   have e2:(at' (zb5 g n (a+k)).ns n.toNat).size=a+k:=by rw[e1]
   refine⟨⟨hn,fn⟩,⟨by omega,by omega⟩,?_,r5⟩
   rw[e2] at hb2
   simp only
   omega
  ·rw[zn h3] at he;exact absurd he h3
 ·rw[zn h2]
  exact⟨⟨hn,fn⟩,⟨by omega,by omega⟩,by simp only;omega,h⟩
def zfs (w:World) (r:Nat) (rv:Int × RG) (e:Ending) (w':World):Prop:=zev w r (.int .i64 rv.1) rv.2 e w'
theorem zv8 {w:World} {r:Nat} {bs:List UInt8} {l:List ND} (h:RegAt w r bs l)(hg:RGood ⟨bs,zas l⟩)(hT:Tab w)(n a:Int)(ha:-9223372036854775808≤a∧a≤9223372036854775807){q1 q2 q3 k c:Nat} {A:Option Addr} (hk:k≤140737488355328)
  (h1:Boxed w q1 3 (.int .i64 n)) (h2:Boxed w q2 3 (.int .i64 a)) (h3:Boxed w q3 31 (.slice A k c)):
  Calls Tryz.prog 100 #[.pointer (some ⟨r,0,none⟩),.pointer (some ⟨q1,0,none⟩),.pointer (some ⟨q2,0,none⟩),.pointer (some ⟨q3,0,none⟩)] w (zfs w r (zb6 ⟨bs,zas l⟩ n a k)):=by
 have HC:=zq (zze h hg hT n a k hk ha)
 have c1:=h1.cell
 have c2:=h2.cell
 have c3:=h3.cell
 clear h hg hT h1 h2 h3 hk ha
 generalize zb6 ⟨bs,zas l⟩ n a k=rv at *
 obtain⟨E,g2⟩:=rv
 go_enter Tryz.func100,Tryz.ntmps100
 go_wp2_with fail
 refine HC.out.mono ?_
 rintro e w2 ⟨rfl,hreg2,hk2⟩
 have HG:Hid (zfs w r (E,g2) (.returned (.int .i64 E)) w2):=⟨rfl,hreg2,hk2⟩
 clear hreg2 hk2 HC
 go_wp2_with fail
 go_ret
 exact HG.out
theorem zv7 {w:World} {r:Nat} {bs:List UInt8} {l:List ND} (h:RegAt w r bs l)(i a:Nat)(hi:i<8){q1 q2 q3 cb:Nat} {A:Option Addr} {b:List UInt8} (hb:BR w w.heap.size A b)(hbr:b≠[]→∀ ad,A=some ad→ad.block≠r)
  (hf:a+b.length≤64*(za4 (at' (zas l) i).ext).length)
  (h1:Boxed w q1 3 (.int .i64 (i:Int))) (h2:Boxed w q2 3 (.int .i64 (a:Int))) (h3:Boxed w q3 31 (.slice A b.length cb)):
  Calls Tryz.prog 102 #[.pointer (some ⟨r,0,none⟩),.pointer (some ⟨q1,0,none⟩),.pointer (some ⟨q2,0,none⟩),.pointer (some ⟨q3,0,none⟩)] w (zfs w r (0,zpz ⟨bs,zas l⟩ (i:Int) (a:Int) b)):=by
 have HC:=zq (yg9 h i a hi A b cb hb hbr hf)
 have c1:=h1.cell
 have c2:=h2.cell
 have c3:=h3.cell
 clear h hb hbr hf h1 h2 h3
 generalize zpz ⟨bs,zas l⟩ (i:Int) (a:Int) b=g2 at *
 go_enter Tryz.func102,Tryz.ntmps102
 go_wp2_with fail
 refine HC.out.mono ?_
 rintro e w2 ⟨rfl,hreg2,hk2⟩
 have HG:Hid (zfs w r (0,g2) (.returned (.int .i64 0)) w2):=⟨rfl,hreg2,hk2⟩
 clear hreg2 hk2 HC
 go_wp2_with fail
 go_ret
 exact HG.out
end Fs
namespace Fs
open Go.RowKit Ex Ino Mm
theorem zgp {w w':World} {A:Option Addr} {xs:List UInt8} {F:Nat→Prop} (h:BR w w.heap.size A xs)(k:Keeps F w w')(hF:xs≠[]→∀ ad,A=some ad→¬F ad.block):BR w' w'.heap.size A xs:=fun hne=>by
 obtain⟨ad,e,hl,hc⟩:=h hne
 exact⟨ad,e,Nat.lt_of_lt_of_le hl k.size,fun i u hu=>(World.cell?_of_block (w:=w) (w':=w') (a:=ad.add i) (by rw[zan];exact k.block _ hl (hF hne ad e))).trans (hc i u hu)⟩
def zmv (w:World):Array Value:=#[.pointer (some ⟨w.heap.size,0,none⟩),.pointer (some ⟨w.heap.size+1,0,none⟩),.pointer (some ⟨w.heap.size+1+1,0,none⟩)]
def wriF (w:World):List (Nat × Array Value):=[(100,zmv w),(102,zmv w)]
def ycy (w:World) (n a:Int) (A:Option Addr) (k cb:Nat):World:=(((w.alloc (.cells #[.int .i64 n] 3)).alloc (.cells #[.int .i64 a] 3)).alloc (.cells #[.slice A k cb] 31)).alloc (.cells #[.func (.func 100) #[] (zmv w),.func (.func 102) #[] (zmv w)] 110)
structure WriI (w:World) (n a:Int) (A:Option Addr) (b:List UInt8) (cb:Nat) (W:World):Prop where
 x1:Boxed W w.heap.size 3 (.int .i64 n)
 x2:Boxed W (w.heap.size+1) 3 (.int .i64 a)
 x3:Boxed W (w.heap.size+1+1) 31 (.slice A b.length cb)
 tb:Tab W
 br:BR W W.heap.size A b
theorem WriI.keep {w:World} {n a:Int} {A:Option Addr} {b:List UInt8} {cb:Nat} {W W':World} {F:Nat→Prop} (h:WriI w n a A b cb W)(k:Keeps F W W')(hA:b≠[]→∀ ad,A=some ad→¬F ad.block)(h0:¬F 0)
  (h1:¬F w.heap.size) (h2:¬F (w.heap.size+1)) (h3:¬F (w.heap.size+1+1)):WriI w n a A b cb W':=
 ⟨(k.block _ h.x1.lt h1).trans h.x1,(k.block _ h.x2.lt h2).trans h.x2,(k.block _ h.x3.lt h3).trans h.x3,h.tb.keep (k.block 0 h.tb.pos h0),zgp h.br k hA⟩
theorem yda (f1 f2:RG→Int × RG)(g:RG):zjn [f1,f2] g=if (f1 g).1=0 then f2 (f1 g).2 else f1 g:=by
 show(if (f1 g).1=0 then zjn [f2] (f1 g).2 else f1 g)=_
 rw[zhh]
def wriS (n a:Int) (b:List UInt8):List (RG→Int × RG):=[fun g=>zb6 g n a b.length,fun g=>(0,zpz g n a b)]
theorem zyg {w:World} {p gb mb:Nat} {G M:List UInt8} (h:MemAt w p gb mb G M)(hT:Tab w)(hmb:mb≠0)(n a:Int)(ha:-9223372036854775808≤a∧a≤9223372036854775807){A:Option Addr} {b:List UInt8} (cb:Nat)(hb:BR w w.heap.size A b)(hbl:b.length≤140737488355328)
  (hA:b≠[]→∀ ad,A=some ad→ad.block≠mb) (g0:RG) (hg:RGood g0):
  Steps (ycy w n a A b.length cb) p gb mb (fun _=>False) (w.heap.size+1+1+1) (wriF w) (wriS n a b) g0 (fun _ W=>WriI w n a A b cb W):=by
 obtain⟨l1,l2,l3⟩:=h.lt
 have h0:=hT.pos
 have hsz:(ycy w n a A b.length cb).heap.size=w.heap.size+1+1+1+1:=by unfold ycy;rw[World.size_alloc,World.size_alloc,World.size_alloc,World.size_alloc]
 have hAl:b≠[]→∀ ad,A=some ad→ad.block<w.heap.size:=fun hne ad e=>by
  obtain⟨ad',e',hl,_⟩:=hb hne
  rw[e] at e';cases e';exact hl
 have kw:Keeps (fun _=>False) w (ycy w n a A b.length cb):=Keeps.trans (Keeps.trans (Keeps.trans (Keeps.alloc _ _ _) (Keeps.alloc _ _ _)) (Keeps.alloc _ _ _)) (Keeps.alloc _ _ _)
 have hI:WriI w n a A b cb (ycy w n a A b.length cb):=by
  refine⟨(((Boxed.new w 3 (.int .i64 n)).alloc _).alloc _).alloc _,?_,?_,hT.keep (kw.block 0 h0 (fun f=>f)),zgp hb kw fun _ _ _ f=>f⟩
  ·have:=((Boxed.new (w.alloc (.cells #[.int .i64 n] 3)) 3 (.int .i64 a)).alloc (.cells #[.slice A b.length cb] 31)).alloc (.cells #[.func (.func 100) #[] (zmv w),.func (.func 102) #[] (zmv w)] 110)
   rwa [World.size_alloc] at this
  ·have:=(Boxed.new ((w.alloc (.cells #[.int .i64 n] 3)).alloc (.cells #[.int .i64 a] 3)) 31 (.slice A b.length cb)).alloc (.cells #[.func (.func 100) #[] (zmv w),.func (.func 102) #[] (zmv w)] 110)
   rwa [World.size_alloc,World.size_alloc] at this
 have hrow:=heap_alloc_new (((w.alloc (.cells #[.int .i64 n] 3)).alloc (.cells #[.int .i64 a] 3)).alloc (.cells #[.slice A b.length cb] 31)) (.cells #[.func (.func 100) #[] (zmv w),.func (.func 102) #[] (zmv w)] 110)
 rw[World.size_alloc,World.size_alloc,World.size_alloc] at hrow
 have hcase:∀ k,k<(wriF w).length→k=0∨k=1:=fun k hk=>by simp only[wriF,List.length_cons,List.length_nil] at hk;omega
 refine⟨rfl,by show 2≤100;omega,fun k hk=>?_,fun k hk=>?_,⟨by omega,by omega,fun f=>f⟩,fun k f=>f.elim,fun W k=>?_,fun W W' k hI hk=>?_,fun k hk gk hgk W r l hr hI hK hreg hns=>?_⟩
 ·rcases hcase k hk with rfl | rfl
  ·exact enters_of Tryz.func100 (by kernel_rfl) rfl
  ·exact enters_of Tryz.func102 (by kernel_rfl) rfl
 ·rcases hcase k hk with rfl | rfl
  ·unfold ycy;rw[cell_of_row _ _ _ _ _ _ hrow];rfl
  ·unfold ycy;rw[cell_of_row _ _ _ _ _ _ hrow];rfl
 ·exact hI.keep k hA (fun e=>hmb e.symm) (by omega) (by omega) (by omega)
 ·exact hI.keep hk (fun hne ad e f=>by have:=hAl hne ad e;omega) (by omega) (by omega) (by omega) (by omega)
 ·rcases hcase k hk with rfl | rfl
  ·have hg2:gk=g0:=by simpa [zjn] using hgk.symm
   subst hg2
   have he:(⟨gk.bs,zas l⟩:RG)=gk:=by rw[hns]
   have:=zv8 hreg (by rw[he];exact hg) hI.tb n a ha (k:=b.length) hbl hI.x1 hI.x2 hI.x3
   rw[he] at this
   refine this.mono ?_
   rintro e w' ⟨rfl,⟨l',e1,e2⟩,e3⟩
   exact⟨l',rfl,e2,e1,e3.mono fun _ _ e=>.inl e,hI.keep e3 (fun hne ad e f=>by have:=hAl hne ad e;omega) (by omega) (by omega) (by omega) (by omega)⟩
  ·have hr1:zb6 g0 n a b.length=(0,gk):=by
    have:=zhh (fun g=>zb6 g n a b.length) g0
    rw[show(wriS n a b).take 1=[fun g=>zb6 g n a b.length] from rfl,this] at hgk
    exact hgk
   obtain⟨⟨hn,_⟩,ha2,hfit,_⟩:=zhj hg (n:=n) (a:=a) (k:=b.length) (by rw[hr1])
   rw[hr1] at hfit
   simp only at hfit
   have he:(⟨gk.bs,zas l⟩:RG)=gk:=by rw[hns]
   have en:((n.toNat:Nat):Int)=n:=by omega
   have ea:((a.toNat:Nat):Int)=a:=by omega
   have:=zv7 hreg n.toNat a.toNat (by omega) hI.br (fun hne ad e f=>by have:=hAl hne ad e;omega) (by rw[hns];exact hfit) (by rw[en];exact hI.x1) (by rw[ea];exact hI.x2) hI.x3
   rw[he,en,ea] at this
   refine this.mono ?_
   rintro e w' ⟨rfl,⟨l',e1,e2⟩,e3⟩
   exact⟨l',rfl,e2,e1,e3.mono fun _ _ e=>.inl e,hI.keep e3 (fun hne ad e f=>by have:=hAl hne ad e;omega) (by omega) (by omega) (by omega) (by omega)⟩
def zjm (w:World) (p gb mb:Nat) (G M:List UInt8) (rv:Int × RG) (e:Ending) (w':World):Prop:=
 e=.returned (.int .i64 rv.1)∧MemAt w' p gb mb G (if rv.1=0 then zbx M 6144 (zad rv.2) else M)∧Keeps (fun k=>k=p∨k=mb) w w'
theorem ygr (n a:Int)(b:List UInt8)(g:RG):(zjn (wriS n a b) g).1=(zbu g n a b).1∧((zbu g n a b).1=0→(zjn (wriS n a b) g).2=(zbu g n a b).2):=by
 unfold wriS zbu
 rw[yda]
 by_cases h:(zb6 g n a b.length).1=0
 ·rw[zp h,zp h];exact⟨rfl,fun _=>rfl⟩
 ·rw[zn h,zn h];exact⟨rfl,fun h2=>absurd h2 h⟩
theorem zxl {w:World} {p gb mb:Nat} {G M:List UInt8} (h:MemAt w p gb mb G M)(ho:okR (zab M))(hT:Tab w)(hmb:mb≠0)(n a:Int)(ha:-9223372036854775808≤a∧a≤9223372036854775807){A:Option Addr} {b:List UInt8} (cb:Nat)(hb:BR w w.heap.size A b)(hbl:b.length≤140737488355328)
  (hA:b≠[]→∀ ad,A=some ad→ad.block≠mb):
  Calls Tryz.prog 53 #[.pointer (some ⟨p,0,none⟩),.int .i64 n,.int .i64 a,.slice A b.length cb] w (zjm w p gb mb G M (zbu ⟨zab M,zaa (zab M)⟩ n a b)):=by
 have kw:Keeps (fun _=>False) w (ycy w n a A b.length cb):=Keeps.trans (Keeps.trans (Keeps.trans (Keeps.alloc _ _ _) (Keeps.alloc _ _ _)) (Keeps.alloc _ _ _)) (Keeps.alloc _ _ _)
 have hch:=zf9 (c:=2) (h.keep kw (fun f=>f) (fun f=>f) (fun f=>f)) ho (zyg h hT hmb n a ha cb hb hbl hA ⟨zab M,zaa (zab M)⟩ (zfr h.ml ho))
 have hv:=ygr n a b ⟨zab M,zaa (zab M)⟩
 have HC:=zq hch
 have HK:=zq kw
 have HV:=zq hv
 clear hch kw h hT hb hA hv
 generalize hg0:(⟨zab M,zaa (zab M)⟩:RG)=g0 at *
 unfold ycy zmv at HC HK
 go_enter Tryz.func53,Tryz.ntmps53
 go_wp2_with fail
 refine HC.out.mono ?_
 rintro e w2 ⟨W,k,hk1,hI,rfl,h0,h1,hk2,hk3⟩
 obtain⟨v1,v2⟩:=HV.out
 rw[v1] at h0 h1 ⊢
 generalize zbu g0 n a b=rv at *
 have HG:Hid (zjm w p gb mb G M rv (.returned (.int .i64 rv.1)) w2):=by
  refine⟨rfl,?_,(HK.out.mono fun _ _ f=>f.elim).trans (hk3.mono fun j _ f=>by rcases f with f | f | f;exact .inl f;exact .inr f;exact f.elim)⟩
  by_cases hE:rv.1=0
  ·rw[zp hE,← v2 hE];exact(h0 hE).2
  ·rw[zn hE];exact h1 hE
 clear hI h0 h1 hk2 hk3 v1 v2 HC HV
 go_wp2_with fail
 go_ret
 exact HG.out
end Fs
namespace Fs
open Go.RowKit Ex Ino Mm
variable {v:Option Addr} {S:World→Prop} {F:Nat→Prop} {w:World} {BS:List UInt8}
theorem zmo (h:MemC v S F w BS)(ho:okR BS)(s:List UInt8)(hn:s.length≤9223372036854775807):Calls Tryz.prog 49 #[.pointer v,St s] w (BadOut S F w (zku (zaa BS) s)):=by
 have HC:=zq (zc2 h)
 have HO:=zq ho
 have HST:=zq h.st
 have HFL:=zq h.fl
 clear h ho
 go_enter Tryz.func49,Tryz.ntmps49
 go_wp2_with fail
 refine HC.out.mono ?_
 rintro e w1 ⟨hs,hk,⟨-,r,l,rfl,hr,hreg,hns⟩|⟨ho,-⟩⟩
 rotate_left
 ·exact absurd HO.out ho
 have hf:=zvf hreg s hn
 rw[hns] at hf
 have HF:=zq hf
 have HS:=zq hs
 have HK:=zq hk
 unfold zku at HF ⊢
 clear hs hk hf hreg
 go_wp2_with fail
 refine HF.out.mono ?_
 rintro e w2 ⟨rfl,b2⟩
 have hs2:=HST.out w1 w2 HS.out HK.out.size (zac b2)
 have HG:Hid (BadOut S F w (zku (zaa BS) s) (.returned (zku (zaa BS) s)) w2):=⟨hs2,HK.out.trans (zac b2),rfl⟩
 unfold zku at HG
 clear hs2 b2 HC HF
 go_wp2_with fail
 go_ret2
 exact HG.out
def ygf (ns:List IN) (n:Int):Value:=.tuple #[.int .i64 (za0 ns n).size,.int .i64 (za1 ns n)]
theorem zq8 (h:MemC v S F w BS)(ho:okR BS)(n:Int):Calls Tryz.prog 91 #[.pointer v,.int .i64 n] w (BadOut S F w (ygf (zaa BS) n)):=by
 have HC:=zq (zc2 h)
 have HO:=zq ho
 have HST:=zq h.st
 clear h ho
 go_enter Tryz.func91,Tryz.ntmps91
 go_wp2_with fail
 refine HC.out.mono ?_
 rintro e w1 ⟨hs,hk,⟨-,r,l,rfl,hr,hreg,hns⟩|⟨ho,-⟩⟩
 rotate_left
 ·exact absurd HO.out ho
 have hf:=zgi hreg n
 unfold zby at hf
 have hx:=zj2 l n
 rw[hns] at hf hx
 have HF:=zq hf
 have HS:=zq hs
 have HK:=zq hk
 have hv:ygf (zaa BS) n=.tuple #[.int .i64 (zcu l n).x.size,.int .i64 (za1 (zaa BS) n)]:=by unfold ygf;rw[← hx]
 have HV:=zq hv
 clear hs hk hf hreg hx hv hns
 generalize zcu l n=d at *
 generalize za1 (zaa BS) n=E at *
 go_wp2_with fail
 refine HF.out.mono ?_
 rintro e w2 ⟨rfl,b2⟩
 have b3:=b2.trans ((bA w2 (.cells #[St d.x.name,.int .i64 d.x.size,.slice d.A d.x.ext.length d.c] 113)).mono b2.size)
 have hs2:=HST.out w1 _ HS.out HK.out.size (zac b3)
 have HG:Hid (BadOut S F w (ygf (zaa BS) n) (.returned (.tuple #[.int .i64 d.x.size,.int .i64 E])) (w2.alloc (.cells #[St d.x.name,.int .i64 d.x.size,.slice d.A d.x.ext.length d.c] 113))):=⟨hs2,HK.out.trans (zac b3),by rw[HV.out]⟩
 clear hs2 b2 b3 HC HF
 go_wp2_with fail
 go_ret2
 exact HG.out
end Fs
namespace Fs
open Go.RowKit Ex Ino Mm
def DelI (w:World) (name:List UInt8) (W:World):Prop:=Boxed W w.heap.size 9 (St name)
def delF (w:World):List (Nat × Array Value):=[(119,#[.pointer (some ⟨w.heap.size,0,none⟩)])]
def yi1 (w:World) (name:List UInt8):World:=(w.alloc (.cells #[St name] 9)).alloc (.cells #[.func (.func 119) #[] #[.pointer (some ⟨w.heap.size,0,none⟩)]] 110)
theorem zta {w:World} {r:Nat} {bs:List UInt8} {l:List ND} (h:RegAt w r bs l)(name:List UInt8)(hn:name.length≤9223372036854775807){sb:Nat} (hs:Boxed w sb 9 (St name)):
  Calls Tryz.prog 119 #[.pointer (some ⟨r,0,none⟩),.pointer (some ⟨sb,0,none⟩)] w (zfs w r (zbk ⟨bs,zas l⟩ name)):=by
 have HC:=zq (zwq h name hn)
 have cs:=hs.cell
 clear h hs
 generalize zbk ⟨bs,zas l⟩ name=rv at *
 obtain⟨E,g2⟩:=rv
 go_enter Tryz.func119,Tryz.ntmps119
 go_wp2_with fail
 refine HC.out.mono ?_
 rintro e w2 ⟨rfl,hreg2,hk2⟩
 have HG:Hid (zfs w r (E,g2) (.returned (.int .i64 E)) w2):=⟨rfl,hreg2,hk2⟩
 clear hreg2 hk2 HC
 go_wp2_with fail
 go_ret
 exact HG.out
theorem ybq {w:World} {p gb mb:Nat} {G M:List UInt8} (h:MemAt w p gb mb G M)(name:List UInt8)(hn:name.length≤9223372036854775807)(g0:RG):
  Steps (yi1 w name) p gb mb (fun _=>False) (w.heap.size+1) (delF w) [fun g=>zbk g name] g0 (fun _ W=>DelI w name W):=by
 obtain⟨l1,l2,l3⟩:=h.lt
 have hsz:(yi1 w name).heap.size=w.heap.size+1+1:=by unfold yi1;rw[World.size_alloc,World.size_alloc]
 have b0:Boxed (yi1 w name) w.heap.size 9 (St name):=(Boxed.new w 9 (St name)).alloc _
 have b2:=Boxed.new (w.alloc (.cells #[St name] 9)) 110 (.func (.func 119) #[] #[.pointer (some ⟨w.heap.size,0,none⟩)])
 rw[World.size_alloc] at b2
 have hc0:∀ k,k<(delF w).length→k=0:=fun k hk=>by simp only[delF,List.length_singleton] at hk;omega
 refine⟨rfl,by show 1≤100;omega,fun k hk=>?_,fun k hk=>?_,⟨by omega,by omega,fun f=>f⟩,fun k f=>f.elim,fun W k=>?_,fun W W' k hI hk=>?_,fun k hk gk hgk W r l hr hI hK hreg hns=>?_⟩
 ·obtain rfl:=hc0 k hk
  exact enters_of Tryz.func119 (by kernel_rfl) rfl
 ·obtain rfl:=hc0 k hk
  exact b2.cell
 ·exact(k.block _ b0.lt (by omega)).trans b0
 ·exact(hk.block _ (Boxed.lt hI) (by omega)).trans hI
 ·obtain rfl:=hc0 k hk
  have hg:gk=g0:=by simpa [zjn] using hgk.symm
  subst hg
  have he:(⟨gk.bs,zas l⟩:RG)=gk:=by rw[hns]
  have:=zta hreg name hn hI
  rw[he] at this
  refine this.mono ?_
  rintro e w' ⟨rfl,⟨l',e1,e2⟩,e3⟩
  exact⟨l',rfl,e2,e1,e3.mono fun _ _ e=>.inl e,(e3.block _ (Boxed.lt hI) (fun e=>by omega)).trans hI⟩
theorem zs8 {w:World} {p gb mb:Nat} {G M:List UInt8} (h:MemAt w p gb mb G M)(ho:okR (zab M))(name:List UInt8)(hn:name.length≤9223372036854775807):
  Calls Tryz.prog 83 #[.pointer (some ⟨p,0,none⟩),St name] w (zjm w p gb mb G M (zbk ⟨zab M,zaa (zab M)⟩ name)):=by
 have kw:Keeps (fun _=>False) w (yi1 w name):=Keeps.trans (Keeps.alloc _ _ _) (Keeps.alloc _ _ _)
 have hch:=zf9 (c:=1) (h.keep kw (fun f=>f) (fun f=>f) (fun f=>f)) ho (ybq h name hn ⟨zab M,zaa (zab M)⟩)
 have hv:=zhh (fun g=>zbk g name) ⟨zab M,zaa (zab M)⟩
 rw[hv] at hch
 have HC:=zq hch
 have HK:=zq kw
 clear hch kw h hv
 generalize hg0:(⟨zab M,zaa (zab M)⟩:RG)=g0 at *
 unfold yi1 at HC HK
 go_enter Tryz.func83,Tryz.ntmps83
 go_wp2_with fail
 refine HC.out.mono ?_
 rintro e w2 ⟨W,k,hk1,hI,rfl,h0,h1,hk2,hk3⟩
 dsimp only at h0 h1 ⊢
 generalize zbk g0 name=rv at *
 have HG:Hid (zjm w p gb mb G M rv (.returned (.int .i64 rv.1)) w2):=by
  refine⟨rfl,?_,(HK.out.mono fun _ _ f=>f.elim).trans (hk3.mono fun j _ f=>by rcases f with f | f | f;exact .inl f;exact .inr f;exact f.elim)⟩
  by_cases hE:rv.1=0
  ·rw[zp hE];exact(h0 hE).2
  ·rw[zn hE];exact h1 hE
 clear hI h0 h1 hk2 hk3 HC
 go_wp2_with fail
 go_ret
 exact HG.out
end Fs
end Go.Proofs.YtdopfpcjpjlkmaaGreatDoor
