/- merged -/
import Derived.Test.YtdopfpcjpjlkmaaGreatDoorGFd
import Derived.Test.YtdopfpcjpjlkmaaGreatDoorGFe
import Derived.Lib.SliceRun
set_option maxHeartbeats 4000000
set_option maxRecDepth 100000
set_option linter.unusedSimpArgs false
set_option linter.unusedVariables false
namespace Go.Proofs.YtdopfpcjpjlkmaaGreatDoor
namespace Fs
open Go.RowKit Ex Ino Mm
theorem Own8.app {P:Program} {w:World} {B:Nat} {R:Option Addr} {cap:Nat} {zs:List UInt8} (t ty e:TypeId)(hi:(P.info? e).map (fun i=>(i.zero,i.size,i.bytes))=some (some (.int .u8 0),1,1))(ht:P.underlying t=some (.slice e))
  (h:Own8 w B e R cap zs) (hB:B≤w.heap.size) (hl:zs.length≤1000000) {A:Option Addr} {xs:List UInt8} (c:Nat) (hx:BR w w.heap.size A xs) (hl2:xs.length≤1000000) (hn:xs≠[]):
  ∃ g cap' w',(Builtin.append_ #[t,t] ty #[.slice R zs.length cap,.slice A xs.length c]).run P w=.ok (.slice (some ⟨g,0,none⟩) (zs.length+xs.length) cap') w'∧Own8 w' B e (some ⟨g,0,none⟩) cap' (zs++xs)∧Below B w w':=by
 obtain⟨i0,hi,hz0,hz1,hz2⟩:=info_parts hi
 obtain⟨ad,rfl,_,hc⟩:=hx hn
 have h0:0<xs.length:=List.length_pos_iff.2 hn
 obtain⟨v,w',hrun,hown,hg,_,_⟩:=run_append_own_at (P:=P) w B t ty e i0 (.int .u8 0) 1 1 ht hi hz0 hz1 hz2 rfl (by decide) _ zs.length _ h ad xs.length c (xs.map B8) (by simp) (fun j v hj=>by
  simp only[List.getElem?_map,Option.map_eq_some_iff] at hj
  obtain⟨u,hu,rfl⟩:=hj
  exact hc j u hu) (by
  intro v hv
  simp only[List.mem_map] at hv
  obtain⟨u,_,rfl⟩:=hv
  rfl) (by simp[maxLen];omega) (by omega) hB
 obtain⟨g,cap',rfl,_,_⟩:=World.ownsRow.form hown (by omega)
 refine⟨g,cap',w',hrun,?_,⟨hg.os,hg.tape,hg.output,hg.size,fun k hk=>hg.block k (by omega) (fun e'=>?_)⟩⟩
 ·unfold Own8
  rw[List.map_append,List.length_append]
  exact hown
 ·have:=(World.ownsRow.lt h k e'.symm).1
  omega
theorem znn (w:World)(e:TypeId):Own8 (w.alloc (.cells #[] e)) w.heap.size e (some ⟨w.heap.size,0,none⟩) 0 []:=World.ownsRow_lit w #[] 0 (Nat.le_refl _) (by unfold maxLen;omega) rfl
theorem Own8.below' {w w':World} {B:Nat} {t:TypeId} {R:Option Addr} {cap:Nat} {zs:List UInt8} (h:Own8 w B t R cap zs)(hb:Below w.heap.size w w'):Own8 w' B t R cap zs:=by
 refine⟨h.1,?_⟩
 rcases h.2 with h0 | ⟨g,cap',cur,hv,hB,hgg,rest⟩
 ·exact .inl h0
 ·exact .inr ⟨g,cap',cur,hv,hB,(hb.block g (Array.getElem?_eq_some_iff.1 hgg).1).trans hgg,rest⟩
theorem RegAt.blockBR {w:World} {r:Nat} {bs:List UInt8} {l:List ND} (h:RegAt w r bs l){n:Nat} (hn:n<32):BR w w.heap.size (some ⟨r,n*64,none⟩) (zaw bs n):=by
 intro _
 refine⟨_,rfl,h.lt,fun k u hu=>?_⟩
 have e:(⟨r,n*64,none⟩:Addr).add k=⟨r,n*64+k,none⟩:=by unfold Addr.add;split<;>simp_all
 rw[e]
 exact h.blockR hn k _ (by rw[List.getElem?_map,hu];rfl)
theorem zrt {l:List EX} {k:Nat} (hk:k<(za4 l).length):zh2 l (k:Int)=((((za4 l).getD k 0:Nat):Int),0)∧(za4 l).getD k 0<32∧9≤(za4 l).getD k 0:=by
 refine⟨?_,?_⟩
 ·unfold zh2
  rw[zp (by omega),Int.toNat_natCast]
 ·have:=(za3 l).2 ((za4 l).getD k 0) (by rw[List.getD_eq_getElem?_getD,List.getElem?_eq_getElem hk];exact List.getElem_mem _)
  exact⟨this.2,this.1⟩
def zgu (bs:List UInt8) (l:List EX) (k:Nat):List UInt8:=((za4 l).take k).flatMap (zaw bs)
theorem zr2 {bs:List UInt8} {l:List EX} {k:Nat} (hk:k<(za4 l).length):zgu bs l (k+1)=zgu bs l k++zaw bs ((za4 l).getD k 0):=by
 unfold zgu
 rw[List.take_succ_eq_append_getElem hk,List.flatMap_append,List.getD_eq_getElem?_getD,List.getElem?_eq_getElem hk]
 simp
theorem zwa {bs:List UInt8} (hb:bs.length=2048)(l:List EX)(k:Nat):(zgu bs l k).length≤1472:=by
 have h1:=(za3 l).len
 have hg:=fun b hb=>((za3 l).2 b hb).2
 unfold zgu
 have:∀ m:List Nat,(∀ b∈m,b<32)→(m.flatMap (zaw bs)).length=64*m.length:=fun m=>by
  induction m with
  | nil=>intro _;rfl
  | cons a q ih =>
   intro hm
   rw[List.flatMap_cons,List.length_append,ih fun b h=>hm b (by simp[h]),zbl hb (hm a (by simp)),List.length_cons]
   omega
 rw[this _ fun b h=>hg b (List.mem_of_mem_take h),List.length_take]
 omega
def zvz (w:World) (zs:List UInt8) (e:Ending) (w':World):Prop:=∃ g c,e=.returned (.slice (some ⟨g,0,none⟩) zs.length c)∧Own8 w' (w.heap.size+1) 5 (some ⟨g,0,none⟩) c zs∧Below w.heap.size w w'
theorem zp4 {w:World} {r:Nat} {bs:List UInt8} {l:List ND} (h:RegAt w r bs l)(d:ND)(hd:InOk w d.x d.A):
  Calls Tryz.prog 132 #[.pointer (some ⟨r,0,none⟩),Ino.ag d.x d.A d.c] w (zvz w (zam bs d.x.ext)):=by
 have hb2:Below w.heap.size w ((w.alloc (.cells #[St d.x.name,.int .i64 d.x.size,.slice d.A d.x.ext.length d.c] 113)).alloc (.cells #[] 5)):=((Below.refl _ _).alloc (Nat.le_refl _) _).alloc (by simp) _
 have hbx:BoxN ((w.alloc (.cells #[St d.x.name,.int .i64 d.x.size,.slice d.A d.x.ext.length d.c] 113)).alloc (.cells #[] 5)) w.heap.size d:=(Below.heap_alloc _ _ _ (by simp)).trans (heap_alloc_new w _)
 have ho:Own8 ((w.alloc (.cells #[St d.x.name,.int .i64 d.x.size,.slice d.A d.x.ext.length d.c] 113)).alloc (.cells #[] 5)) (w.heap.size+1) 5 (some ⟨w.heap.size+1,0,none⟩) 0 []:=by
  have:=znn (w.alloc (.cells #[St d.x.name,.int .i64 d.x.size,.slice d.A d.x.ext.length d.c] 113)) 5
  rwa [World.size_alloc] at this
 have hN:=(za3 d.x.ext).len
 have HREG:=zq h
 have HD:=zq hd
 have HB2:=zq hb2
 have HBX:=zq hbx
 have HO:=zq ho
 have htot:=fun W (hW:Below w.heap.size w W)=>zgv d.A d.x.ext d.c W ((hd.xr.below hW).more hW.size) hd.few
 have hblk:=fun W (n:Int) (hW:Below w.heap.size w W)=>zrr d.A d.x.ext d.c n W ((hd.xr.below hW).more hW.size) hd.few
 have HTOT:=zq htot
 have HBLK:=zq hblk
 clear h hd hb2 hbx ho htot hblk
 go_enter Tryz.func132,Tryz.ntmps132
 go_wp2_with fail
 generalize ((w.alloc (.cells #[St d.x.name,.int .i64 d.x.size,.slice d.A d.x.ext.length d.c] 113)).alloc (.cells #[] 5))=w1 at *
 have hb1:=HB2.out
 have c2:=HBX.out.c.2.2
 refine(HTOT.out w1 HB2.out).mono ?_
 rintro e w2 ⟨rfl,b2⟩
 have HB3:=zq (hb1.trans (b2.mono hb1.size))
 have HBX3:=zq (HBX.out.below b2)
 have HO3:=zq (Own8.below' HO.out b2)
 clear hb1 c2 b2 HB2 HBX HO
 go_wp2_with fail
 go_loopw [13,5] (fun i s wr=>∃ (k g cap:Nat),i=.int .i64 (k:Int)∧k≤(za4 d.x.ext).length∧s=.slice (some ⟨g,0,none⟩) (zgu bs d.x.ext k).length cap∧Own8 wr (w.heap.size+1) 5 (some ⟨g,0,none⟩) cap (zgu bs d.x.ext k)∧BoxN wr w.heap.size d∧Below w.heap.size w wr) (fun i _ _=>(za4 d.x.ext).length-(RowKit.intOf i).toNat)
 case atStart=>exact⟨0,w.heap.size+1,0,rfl,Nat.zero_le _,rfl,HO3.out,HBX3.out,HB3.out⟩
 case round =>
  obtain⟨k,g,cap,rfl,hk,rfl,ho,hbx,hb⟩:=hrel
  by_cases hlt:k<(za4 d.x.ext).length
  ·have hblk:=HBLK.out wr (k:Int) hb
   unfold ycq at hblk
   obtain⟨v1,v2,v3⟩:=zrt hlt
   rw[v1] at hblk
   have hst:=zr2 (bs:=bs) hlt
   have hkl:=zwa HREG.out.bl d.x.ext k
   have HK:=zq hblk
   have HST:=zq hst
   have HB:=zq hb
   have HBX:=zq hbx
   have HO:=zq ho
   have c2:=hbx.c.2.2
   have hpl:=zbl HREG.out.bl v2
   have HPL:=zq hpl
   clear hblk v1 hst hb ho hbx hpl
   generalize (za4 d.x.ext).getD k 0=b at *
   generalize zgu bs d.x.ext k=zs at *
   go_wp2_with fail
   refine HK.out.mono ?_
   rintro e w3 ⟨rfl,b3⟩
   have HB4:=zq (HB.out.trans (b3.mono HB.out.size))
   have HBX4:=zq (HBX.out.below b3)
   have ho4:=Own8.below' HO.out b3
   have hbr:=(HREG.out.below HB4.out).blockBR v2
   have hs4:w.heap.size+1≤w3.heap.size:=HBX4.out.lt
   obtain⟨g5,cap5,w5,r5,o5,k5⟩:=Own8.app (P:=Tryz.prog) 31 31 5 Tryz.info8 Tryz.underlying31 ho4 hs4 (by omega) 64 hbr (by rw[HPL.out];omega) (by intro e;have:=HPL.out;rw[e] at this;cases this)
   rw[HPL.out] at r5
   have R5:=zq r5
   rw[← HST.out] at o5
   have HLEN:Hid (zs.length+64=(zgu bs d.x.ext (k+1)).length):=by show _=_;rw[HST.out,List.length_append,HPL.out]
   have HO5:=zq o5
   have HBX5:Hid (BoxN w5 w.heap.size d):=(k5.block _ (by omega)).trans HBX4.out
   have HB5:=zq (HB4.out.trans (k5.mono (by omega)))
   clear b3 HB HBX ho4 hbr r5 o5 k5 c2 HK HB4 HBX4 HO HST
   go_wp2_with (first | (at_builtin;refine zak rfl _ _ 31 rfl _ R5.out ?_) | fail)
   go_roundw
   case rel=>exact⟨k+1,g5,cap5,by go_num,by omega,by rw[HLEN.out],HO5.out,HBX5.out,HB5.out⟩
   case measure=>simp[RowKit.intOf];omega
  ·obtain rfl:k=(za4 d.x.ext).length:=by omega
   have e:zgu bs d.x.ext (za4 d.x.ext).length=zam bs d.x.ext:=by unfold zgu zam;rw[List.take_length]
   rw[e] at ho ⊢
   have HG:Hid (zvz w (zam bs d.x.ext) (.returned (.slice (some ⟨g,0,none⟩) (zam bs d.x.ext).length cap)) wr):=⟨g,cap,rfl,ho,hb⟩
   clear e ho hb hbx
   go_wp2_with fail
   go_ret
   exact HG.out
theorem zp5 {w:World} {r:Nat} {bs:List UInt8} {l:List ND} (h:RegAt w r bs l)(d:ND)(hd:InOk w d.x d.A):
  Calls Tryz.prog 132 #[.pointer (some ⟨r,0,none⟩),Ino.ag d.x d.A d.c] w (GivesN w (zam bs d.x.ext)):=
 (zp4 h d hd).mono fun e w' ⟨g,c,he,ho,hb⟩=>⟨g,c,he,by have:=(Own8.lt' ho).1;omega,(Own8.lt' ho).2,ho.br,hb,ho.cap_le⟩
end Fs
namespace Ex
open Go.RowKit
section
variable {P:Program} {o:Oper} {ρ:Operand→Value}
theorem ex_sl1 (t:TypeId)(x y:Operand)(ho:o.op=.slice t x none (some y) none)(vx vy v:Value)(hx:ρ x=vx)(hy:ρ y=vy)(hrun:∀ w,(Instr.sliceAt t vx none (some vy) none).run P w=.ok v w)(w:World):(execOp ρ o).run P w=.ok (.value v) w:=by
 unfold execOp
 simp only[ho,hx,hy,Option.map_some,Option.map_none]
 rw[Sem.run_bind,hrun]
 rfl
theorem zvk (t:TypeId)(x y:Operand)(ho:o.op=.slice t x (some y) none none)(vx vy v:Value)(hx:ρ x=vx)(hy:ρ y=vy)(hrun:∀ w,(Instr.sliceAt t vx (some vy) none none).run P w=.ok v w)(w:World):(execOp ρ o).run P w=.ok (.value v) w:=by
 unfold execOp
 simp only[ho,hx,hy,Option.map_some,Option.map_none]
 rw[Sem.run_bind,hrun]
 rfl
end
theorem zu7 (g N cap K:Nat)(w:World)(h1:K≤N)(h2:N≤cap):(Instr.sliceAt 40 (.slice (some ⟨g,0,none⟩) N cap) none (some (.int .i64 (K:Int))) none).run Tryz.prog w=.ok (.slice (some ⟨g,0,none⟩) K cap) w:=by
 have e1:(K:Int)≤(cap:Int):=by omega
 go_simp
theorem zt0 (g N cap K:Nat)(w:World)(h1:K≤N)(_h2:N≤cap)(h3:K<cap):(Instr.sliceAt 40 (.slice (some ⟨g,0,none⟩) N cap) (some (.int .i64 (K:Int))) none none).run Tryz.prog w=.ok (.slice (some ⟨g,K,none⟩) (N-K) (cap-K)) w:=by
 have h4:¬cap=K:=by omega
 go_simp
theorem zp8 (g K:Nat)(w:World):(Instr.sliceAt 40 (.slice (some ⟨g,0,none⟩) K K) (some (.int .i64 (K:Int))) none none).run Tryz.prog w=.ok (.slice (some ⟨g,0,none⟩) 0 0) w:=by
 go_simp
theorem yen (w:World):(Instr.sliceAt 40 (.slice none 0 0) none (some (.int .i64 0)) none).run Tryz.prog w=.ok (.slice none 0 0) w:=by
 go_simp
theorem zt1 (w:World):(Instr.sliceAt 40 (.slice none 0 0) (some (.int .i64 0)) none none).run Tryz.prog w=.ok (.slice none 0 0) w:=by
 go_simp
theorem JR.nil {w:World} {R:Option Addr}:JR w R []:=fun k x h=>by simp at h
theorem yhe {w:World} {B:Nat} {R:Option Addr} {cap:Nat} {l:List Nat} (h:OwnI w B R cap l){K:Nat} (hK:K≤l.length):∃ H ch T ct,
  (∀ w,(Instr.sliceAt 40 (.slice R l.length cap) none (some (.int .i64 (K:Int))) none).run Tryz.prog w=.ok (.slice H K ch) w) ∧
  (∀ w,(Instr.sliceAt 40 (.slice R l.length cap) (some (.int .i64 (K:Int))) none none).run Tryz.prog w=.ok (.slice T (l.length-K) ct) w)∧JR w H (l.take K)∧JR w T (l.drop K):=by
 have hir:=h.ir
 rcases h.2 with⟨hn,h0⟩|⟨g,cap',cur,e,_,hg,hnc,_⟩
 ·have hl:l=[]:=List.eq_nil_of_length_eq_zero h0
  subst hl
  obtain rfl:K=0:=by simpa using hK
  injection hn with e1 e2 e3
  subst e1 e3
  exact⟨none,0,none,0,yen,zt1,JR.nil,JR.nil⟩
 ·injection e with e1 e2 e3
  subst e1 e3
  have hgl:g<w.heap.size:=(Array.getElem?_eq_some_iff.1 hg).1
  have hH:JR w (some ⟨g,0,none⟩) (l.take K):=fun k x hx=>by
   rw[List.getElem?_take] at hx
   split at hx
   ·exact IR.jr hir k x hx
   ·cases hx
  by_cases hlt:K<cap
  ·refine⟨_,_,_,_,fun w=>zu7 g l.length cap K w hK hnc,fun w=>zt0 g l.length cap K w hK hnc hlt,hH,fun k x hx=>?_⟩
   rw[List.getElem?_drop] at hx
   obtain⟨g',e',hg',hc⟩:=hir _ x hx
   cases e'
   exact⟨g,K,rfl,hgl,hc⟩
  ·have hcK:cap=K:=by omega
   have hlK:l.length=K:=by omega
   refine⟨some ⟨g,0,none⟩,cap,some ⟨g,0,none⟩,0,fun w=>zu7 g l.length cap K w hK hnc,fun w=>?_,hH,?_⟩
   ·rw[hlK,hcK,Nat.sub_self]
    exact zp8 g K w
   ·rw[List.drop_of_length_le (by omega)]
    exact JR.nil
end Ex
namespace Ex
open Go.RowKit Go.Shelf
abbrev BN:={ x:Nat × Nat // x.1<32 }
abbrev encN (x:BN):Array Value:=encB x.1
theorem zpr (F:Fence)(n:Nat)(h:F.fn 177)(hro:F.round=none)(hn:1≤n){Wr:World→Nat→Prop} {n0:Nat} (hw:Writes n0 Wr)(B:Nat)(A:Option Addr)(l:List EX)(c:Nat)(hok:ok l=true)(hl:l.length≤100)(w:World)
  (hbox:w.heap[B]?=some (.cells #[.slice A l.length c] 111 (0,0))) (hi:∀ W,Below w.heap.size w W→ItOk Wr n0 W A l):
  SeqStopsK F n Tryz.prog 177 #[.pointer (some ⟨B,0,none⟩)] encN (KpW Wr) (fun ys=>ys.map (·.1)=(zaq l).zipIdx) (fun pre=>pre.map (·.1) <+: (zaq l).zipIdx) (zaq l).length w:=fun y J Jx W hW hJ _ hY h0=>by
 have:=zoe F n h hro hn hw y B A l c hok hl (fun pre W=>∃ p:List BN,p.map (·.1)=pre∧J p W) (fun pre W=>∃ p:List BN,p.map (·.1)=pre∧Jx p W) W
  (fun s W1 o ⟨p,e,hs⟩=>⟨p,e,hJ p W1 _ none hs (World.grownBy_alloc W1 o none) (fun r e=>by cases e)⟩)
  (fun pre x W1 ⟨p,e,hs⟩ hlen hpf=>by
   subst e
   have hx:x.1<32:=by
    have hm:(x.1,x.2)∈(zaq l).zipIdx:=by
     obtain⟨t,ht⟩:=hpf
     rw[← ht]
     simp
    rw[List.mk_mem_zipIdx_iff_getElem?] at hm
    exact((zcr l hok).2 _ (List.mem_of_getElem? hm)).2
   rw[List.length_map] at hlen
   obtain⟨fn,tmps,assign,body,hy,hR⟩:=hY p ⟨x,hx⟩ W1 hs hlen
   exact⟨fn,tmps,assign,body,hy,hR.mono fun e W' h=>h.imp (fun ⟨a,b,c⟩=>⟨a,⟨p++[⟨x,hx⟩],by simp,b⟩,c⟩) (fun ⟨a,b⟩=>⟨a,p++[⟨x,hx⟩],by simp,b⟩)⟩)
  (by rw[cell_of_row _ _ _ _ _ _ ((hW.block B (Array.getElem?_eq_some_iff.1 hbox).1).trans hbox)];rfl) (hi W hW) ⟨[],rfl,h0⟩
 exact this.mono fun e W' ⟨h1,h2⟩=>⟨h1,h2.imp (fun ⟨ys,e,p,ep,hp⟩=>⟨p,ep.trans e,hp⟩) (fun ⟨pre,hpre,p,ep,hp⟩=>⟨p,(by show p.map (·.1) <+: _;rw[ep];exact hpre),hp⟩)⟩
def kp (K:Nat) (pre:List BN):List Nat:=(pre.filter fun x=>decide (x.1.2<K)).map (·.1.1)
def dr (K:Nat) (pre:List BN):List Nat:=(pre.filter fun x=>!decide (x.1.2<K)).map (·.1.1)
theorem kp_yes {K:Nat} {pre:List BN} {x:BN} (h:x.1.2<K):kp K (pre++[x])=kp K pre++[x.1.1]∧dr K (pre++[x])=dr K pre:=by simp[kp,dr,List.filter_append,h]
theorem kp_no {K:Nat} {pre:List BN} {x:BN} (h:¬x.1.2<K):kp K (pre++[x])=kp K pre∧dr K (pre++[x])=dr K pre++[x.1.1]:=by simp[kp,dr,List.filter_append,h]
theorem kp_lt (K:Nat)(pre:List BN):∀ b∈kp K pre,b<32:=fun b hb=>by
 obtain⟨x,_,rfl⟩:=List.mem_map.1 hb
 exact x.2
theorem kp_len (K:Nat)(pre:List BN):(kp K pre).length≤pre.length:=by
 unfold kp
 rw[List.length_map]
 exact List.length_filter_le _ _
theorem zts (K:Nat):∀ (bs:List Nat) (m:Nat),((bs.zipIdx m).filter fun x=>decide (x.2<K)).map (·.1)=bs.take (K-m)
 | [],m=>by simp
 | b::r,m=>by
  have ih:=zts K r (m+1)
  rw[List.zipIdx_cons,List.filter_cons]
  by_cases h:m<K
  ·rw[zp (by simpa using h),List.map_cons,ih,show K-m=(K-(m+1))+1 from by omega,List.take_succ_cons]
  ·rw[zn (by simpa using h),ih,show K-(m+1)=0 from by omega,show K-m=0 from by omega]
   simp
theorem ztt (K:Nat):∀ (bs:List Nat) (m:Nat),((bs.zipIdx m).filter fun x=>!decide (x.2<K)).map (·.1)=bs.drop (K-m)
 | [],m=>by simp
 | b::r,m=>by
  have ih:=ztt K r (m+1)
  rw[List.zipIdx_cons,List.filter_cons]
  by_cases h:m<K
  ·rw[zn (by simpa using h),ih,show K-m=(K-(m+1))+1 from by omega,List.drop_succ_cons]
  ·rw[zp (by simpa using h),List.map_cons,ih,show K-(m+1)=0 from by omega,show K-m=0 from by omega]
   simp
theorem kp_all {K:Nat} {ys:List BN} {bs:List Nat} (h:ys.map (·.1)=bs.zipIdx):kp K ys=bs.take K∧dr K ys=bs.drop K:=by
 have h1:=zts K bs 0
 have h2:=ztt K bs 0
 rw[← h,List.filter_map,List.map_map,Nat.sub_zero] at h1 h2
 exact⟨h1,h2⟩
def WrS (p q:Nat) (W:World) (k:Nat):Prop:=k=p∨k=q∨∃ v,W.cell? ⟨q,0,none⟩=some v∧v.ownBlock=some k
theorem zye (p q:Nat):Writes (q+1) (WrS p q):=by
 refine⟨fun W l o' k hl=>?_,fun W o k hW h=>?_⟩
 ·have:(W.putObj l o').cell? ⟨q,0,none⟩=W.cell? ⟨q,0,none⟩:=World.cell?_of_block (w:=W) (World.putObj_heap_other (by show q≠l;omega))
  unfold WrS
  rw[this]
 ·have:(W.alloc o).cell? ⟨q,0,none⟩=W.cell? ⟨q,0,none⟩:=World.cell?_of_block (w:=W) (Below.heap_alloc _ _ _ (by show q<W.heap.size;omega))
  unfold WrS at h ⊢
  rwa [this] at h
structure InS (w:World) (p q u K:Nat) (pre:List BN) (R:Option Addr) (cap:Nat) (W:World):Prop where
 hp:p<q
 hq:p+1<q
 used:Boxed W p 59 (.int .u32 (zkv u (zb2 (dr K pre)):Nat))
 num:Boxed W (p+1) 3 (.int .i64 (K:Int))
 kept:Boxed W q 111 (.slice R (zc4 [] (kp K pre)).length cap)
 own:OwnX W (q+1) R cap (zc4 [] (kp K pre))
 le:w.heap.size≤p
 bel:Below w.heap.size w W
section
variable {w:World} {p q u K:Nat} {pre:List BN} {R:Option Addr} {cap:Nat} {W:World}
theorem InS.row (h:InS w p q u K pre R cap W){k:Nat} (e:Value.ownBlock (.slice R (zc4 [] (kp K pre)).length cap)=some k):q+1≤k∧k<W.heap.size∧∃ cs t,W.heap[k]?=some (.cells cs t (0,0)):=by
 have h1:=World.ownsRow.lt h.own k e
 refine⟨h1.1,h1.2,?_⟩
 rcases h.own.2 with⟨hn,_⟩|⟨g,cap',cur,e',_,hg,_⟩
 ·rw[hn] at e;cases e
 ·rw[e'] at e;cases e;exact⟨_,_,hg⟩
theorem yhs (B:Nat)(hB:w.heap.size≤B):OwnFrom B (fun (pre:List BN) W=>∃ R cap,InS w p q u K pre R cap W):=fun pre W W' row hs hg hr=>by
 obtain⟨R,cap,h⟩:=hs
 have hr':∀ r,row=some r→∃ o:Obj,W.heap[r]?=some o∧o.isCells=false:=fun r e=>(hr r e).2
 refine⟨R,cap,h.hp,h.hq,zbt h.used hg hr',zbt h.num hg hr',zbt h.kept hg hr',World.ownsRow.kept (row:=row) h.own hg ?_,h.le,ownFrom_below (w₀:=w) (Nat.le_refl _) hB () W W' row h.bel hg hr⟩
 cases e:Value.ownBlock (.slice R (zc4 [] (kp K pre)).length cap) with
 | none=>exact .inl rfl
 | some k =>
  refine .inr fun e2=>?_
  obtain⟨_,_,cs,t,hc⟩:=h.row e
  obtain⟨o,ho,hoc⟩:=hr' k e2.symm
  rw[hc] at ho
  cases ho
  cases hoc
theorem InS.with (h:InS w p q u K pre R cap W){x:BN} (hx:x.1.2<K){W2:World} {R':Option Addr} {cap':Nat} (o5:OwnX W2 (q+1) R' cap' (zc3 (zc4 [] (kp K pre)) x.1.1))(b5:Below (q+1) W W2)
  (s5:Beside W W2 (.slice R (zc4 [] (kp K pre)).length cap) (.slice R' (zc3 (zc4 [] (kp K pre)) x.1.1).length cap')):
  KeepsOthers W (W2.setCell ⟨q,0,none⟩ (.slice R' (zc3 (zc4 [] (kp K pre)) x.1.1).length cap'))∧KpW (WrS p q) W (W2.setCell ⟨q,0,none⟩ (.slice R' (zc3 (zc4 [] (kp K pre)) x.1.1).length cap')) ∧
   InS w p q u K (pre++[x]) R' cap' (W2.setCell ⟨q,0,none⟩ (.slice R' (zc3 (zc4 [] (kp K pre)) x.1.1).length cap')):=by
 have hql:q<W.heap.size:=h.kept.lt
 have hkq:∀ k,k≠q→(W2.setCell ⟨q,0,none⟩ (.slice R' (zc3 (zc4 [] (kp K pre)) x.1.1).length cap')).heap[k]?=W2.heap[k]?:=fun k hk=>Below.heap_setCell _ _ _ _ hk
 have hsz:(W2.setCell ⟨q,0,none⟩ (.slice R' (zc3 (zc4 [] (kp K pre)) x.1.1).length cap')).heap.size=W2.heap.size:=by simp[World.setCell]
 have hkept:Boxed (W2.setCell ⟨q,0,none⟩ (.slice R' (zc3 (zc4 [] (kp K pre)) x.1.1).length cap')) q 111 (.slice R' (zc3 (zc4 [] (kp K pre)) x.1.1).length cap'):=
  (show Boxed W2 q 111 (.slice R (zc4 [] (kp K pre)).length cap) from(b5.block q (by omega)).trans h.kept).set _
 have howns:=o5.other (q:=q) (by omega) (.slice R' (zc3 (zc4 [] (kp K pre)) x.1.1).length cap')
 have h3:=s5.size
 refine⟨⟨by rw[hsz];exact h3,fun k o hk ho=>?_⟩,fun hs=>⟨fun k hk=>?_,by rw[hsz];exact h3,fun k o ho hc hn=>?_⟩,?_⟩
 ·have hlt:=(Array.getElem?_eq_some_iff.1 hk).1
  have n1:k≠q:=fun e=>by subst e;rw[h.kept] at hk;cases hk;cases ho
  have n2:Value.ownBlock (.slice R (zc4 [] (kp K pre)).length cap)≠some k:=fun e=>by
   obtain⟨_,_,cs,t,hc⟩:=h.row e
   rw[hc] at hk;cases hk;cases ho
  rw[hkq k n1,s5.keep k hlt n2]
  exact hk
 ·rw[hsz]
  rcases hk with rfl | rfl | ⟨v,hv,hk⟩
  ·have:=h.hp;omega
  ·omega
  ·rw[hkept.cell] at hv
   cases hv
   have:=(World.ownsRow.lt howns k hk).2
   rwa [hsz] at this
 ·have hlt:=(Array.getElem?_eq_some_iff.1 ho).1
  have n1:k≠q:=fun e=>hn (.inr (.inl e))
  have n2:Value.ownBlock (.slice R (zc4 [] (kp K pre)).length cap)≠some k:=fun e=>hn (.inr (.inr ⟨_,h.kept.cell,e⟩))
  refine⟨by rw[hkq k n1,s5.keep k hlt n2];exact ho,?_⟩
  rintro(e | e | ⟨v,hv,hk⟩)
  ·exact hn (.inl e)
  ·exact hn (.inr (.inl e))
  ·rw[hkept.cell] at hv
   cases hv
   rcases s5.own k hk with h1 | h1
   ·exact n2 h1
   ·omega
 ·obtain⟨e1,e2⟩:=kp_yes (pre:=pre) hx
  refine⟨h.hp,h.hq,?_,?_,?_,?_,h.le,?_⟩
  ·rw[e2]
   exact(hkq p (by have:=h.hp;omega)).trans ((b5.block p (by have:=h.hp;omega)).trans h.used)
  ·exact(hkq (p+1) (by have:=h.hq;omega)).trans ((b5.block (p+1) (by have:=h.hq;omega)).trans h.num)
  ·rw[e1,zf5]
   exact hkept
  ·rw[e1,zf5]
   exact howns
  ·have h1:=h.le
   have h2:=h.hp
   exact(h.bel.trans (b5.mono (by omega))).setCell (p:=⟨q,0,none⟩) (by show w.heap.size≤q;omega) _
theorem InS.drop (h:InS w p q u K pre R cap W){x:BN} (hx:¬x.1.2<K){z:Nat} (hz:z=zkv u (zb2 (dr K pre++[x.1.1]))):
  KeepsOthers W (W.drew.setCell ⟨p,0,none⟩ (.int .u32 (z:Int)))∧KpW (WrS p q) W (W.drew.setCell ⟨p,0,none⟩ (.int .u32 (z:Int)))∧InS w p q u K (pre++[x]) R cap (W.drew.setCell ⟨p,0,none⟩ (.int .u32 (z:Int))):=by
 have hpl:p<W.heap.size:=h.used.lt
 have hpq:=h.hp
 have hkq:∀ k,k≠p→(W.drew.setCell ⟨p,0,none⟩ (.int .u32 (z:Int))).heap[k]?=W.heap[k]?:=fun k hk=>Below.heap_setCell W.drew _ _ _ hk
 have hsz:(W.drew.setCell ⟨p,0,none⟩ (.int .u32 (z:Int))).heap.size=W.heap.size:=by simp[World.setCell]
 have hkept:Boxed (W.drew.setCell ⟨p,0,none⟩ (.int .u32 (z:Int))) q 111 (.slice R (zc4 [] (kp K pre)).length cap):=(hkq q (by omega)).trans h.kept
 have hused:Boxed (W.drew.setCell ⟨p,0,none⟩ (.int .u32 (z:Int))) p 59 (.int .u32 (z:Int)):=(show Boxed W.drew p 59 _ from h.used).set _
 refine⟨⟨by rw[hsz];exact Nat.le_refl _,fun k o hk ho=>?_⟩,fun hs=>⟨fun k hk=>?_,by rw[hsz];exact Nat.le_refl _,fun k o ho hc hn=>?_⟩,?_⟩
 ·have n1:k≠p:=fun e=>by subst e;rw[h.used] at hk;cases hk;cases ho
  rw[hkq k n1]
  exact hk
 ·rw[hsz]
  refine hs k ?_
  rcases hk with e | e | ⟨v,hv,hk⟩
  ·exact .inl e
  ·exact .inr (.inl e)
  ·rw[hkept.cell] at hv
   exact .inr (.inr ⟨v,by rw[h.kept.cell];exact hv,hk⟩)
 ·have n1:k≠p:=fun e=>hn (.inl e)
  refine⟨by rw[hkq k n1];exact ho,?_⟩
  rintro(e | e | ⟨v,hv,hk⟩)
  ·exact hn (.inl e)
  ·exact hn (.inr (.inl e))
  ·rw[hkept.cell] at hv
   exact hn (.inr (.inr ⟨v,by rw[h.kept.cell];exact hv,hk⟩))
 ·obtain⟨e1,e2⟩:=kp_no (pre:=pre) hx
  refine⟨h.hp,h.hq,?_,?_,?_,?_,h.le,?_⟩
  ·rw[e2,← hz]
   exact hused
  ·exact(hkq (p+1) (by omega)).trans h.num
  ·rw[e1]
   exact hkept
  ·rw[e1]
   exact(show OwnX W.drew (q+1) R cap _ from h.own.drewN 1).other (q:=p) (by omega) _
  ·have h1:=h.le
   exact(below_drewN h.bel 1).setCell (p:=⟨p,0,none⟩) (by show w.heap.size≤p;omega) _
end
end Ex
namespace Ex
open Go.RowKit Go.Shelf
attribute [local go_sem] Oper.semAt_some
theorem yc0 {P:Program} {c:Code} {K:Act→World→Prop} {Q:Exit→Act→World→Prop} {a:Act} {w:World} (h:c.wp P (Exit.then K (fun _ _ _=>False)) a w):c.wp P (Exit.then K Q) a w:=
 wp_mono h fun e a w h=>by cases e<;>first | exact h | exact h.elim
theorem aggI:∀ w,(isAgg 3).run Tryz.prog w=.ok false w:=fun _=>by kernel_rfl
structure In2 (w:World) (u K:Int) (W:World):Prop where
 u0:Boxed W w.heap.size 59 (.int .u32 u)
 n0:Boxed W (w.heap.size+1) 3 (.int .i64 K)
theorem In2.below {w:World} {u K:Int} {W W':World} (h:In2 w u K W)(k:Below W.heap.size W W'):In2 w u K W':=
 ⟨(k.block _ (Array.getElem?_eq_some_iff.1 h.u0).1).trans h.u0,(k.block _ (Array.getElem?_eq_some_iff.1 h.n0).1).trans h.n0⟩
theorem In2.start (w:World)(u K:Int):In2 w u K ((w.alloc (.cells #[.int .u32 u] 59)).alloc (.cells #[.int .i64 K] 3)):=by
 refine⟨(Boxed.new w 59 (.int .u32 u)).alloc _,?_⟩
 have:=Boxed.new (w.alloc (.cells #[.int .u32 u] 59)) 3 (.int .i64 K)
 rwa [World.size_alloc] at this
def CellN (w:World) (K:Nat) (w1 W:World):Prop:=W.cell? ⟨w.heap.size+1,0,none⟩=some (.int .i64 (K:Int))∧Below w1.heap.size w1 W
theorem CellN.c {w:World} {K:Nat} {w1 W:World} (h:CellN w K w1 W):W.cell? ⟨w.heap.size+1,0,none⟩=some (.int .i64 (K:Int)):=h.1
theorem CellN.of {w:World} {u:Int} {K:Nat} {w1 W:World} (h:In2 w u (K:Int) w1)(b:Below w1.heap.size w1 W):CellN w K w1 W:=⟨(h.below b).n0.cell,b⟩
theorem yb1 {W:World} {D:Nat} {o o':Obj} (h:W.heap[D]?=some o)(ho:o.isCells=false)(ho':o'.isCells=false)(a:Addr):(W.putObj D o').cell? a=W.cell? a:=by
 by_cases e:a.block=D
 ·have hl:=(Array.getElem?_eq_some_iff.1 h).1
  have h2:(W.putObj D o').heap[D]?=some o':=World.putObj_heap_same hl
  unfold World.cell?
  rw[e,h,h2]
  cases o<;>cases o'<;>simp_all [Obj.isCells]
 ·exact World.cell?_of_block (w:=W) (World.putObj_heap_other e)
theorem ItOk.start {w W:World} {p q:Nat} {A:Option Addr} {l:List EX} (hx:XR w w.heap.size A l)(hw:Below w.heap.size w W)(hp:w.heap.size≤p)(hpq:p<q)(hq:Boxed W q 111 (.slice none 0 0)):ItOk (WrS p q) (q+1) W A l:=by
 have hql:=hq.lt
 have hno:∀ v,W.cell? ⟨q,0,none⟩=some v→∀ k,v.ownBlock=some k→False:=fun v hv k e=>by
  rw[hq.cell] at hv
  cases hv
  cases e
 refine⟨fun k hk=>?_,by omega,(hx.below hw).more hw.size,fun hn ad e hk=>?_⟩
 ·rcases hk with e | e | ⟨v,hv,e⟩
  ·omega
  ·omega
  ·exact(hno v hv k e).elim
 ·obtain⟨ad',e',hlt,_⟩:=hx.ar hn
  rw[e] at e'
  cases e'
  rcases hk with e | e | ⟨v,hv,e⟩
  ·omega
  ·omega
  ·exact hno v hv _ e
theorem zwc (A:Option Addr)(l:List EX)(c u:Nat)(n:Int)(w:World)(h:XR w w.heap.size A l)(hl:l.length≤100)(hu:u<4294967296):
  Calls Tryz.prog 164 #[.slice A l.length c,.int .u32 (u:Int),.int .i64 n] w (Out3 w (zbm l u n)):=by
 have hb:Below w.heap.size w ((w.alloc (.cells #[.int .u32 (u:Int)] 59)).alloc (.cells #[.int .i64 n] 3)):=((Below.refl _ _).alloc (Nat.le_refl _) _).alloc (by simp) _
 have hck:=fun W (hW:Below w.heap.size w W)=>zf8 A l c W ((h.below hW).more hW.size) hl
 have HI:=zq (In2.start w (u:Int) n)
 have HB:=zq hb
 have HCK:=zq hck
 have hsz:((w.alloc (.cells #[.int .u32 (u:Int)] 59)).alloc (.cells #[.int .i64 n] 3)).heap.size=w.heap.size+2:=by simp
 have HSZ:=zq hsz
 clear hb hck hsz
 by_cases hok:ok l=true
 ·rw[zj1 hok] at HCK
  by_cases hneg:n<0
  ·have hv:zbm l u n=([],0,1):=by unfold zbm;rw[zp (.inr (.inl hneg))]
   have HV:=zq hv
   clear hv hok h
   refine(callsIn_wide (n:=8)).1 ?_
   refine callsIn_of_wp_marks Tryz.func164 rfl trivial ?_ rfl
   simp only[Tryz.ntmps164,List.size_toArray,List.length_cons,List.length_nil,Nat.reduceAdd,Nat.reduceSub,Array.replicate_succ,Array.replicate_zero,List.push_toArray,List.append_toArray,List.nil_append,List.cons_append]
   gi_wp2
   generalize ((w.alloc (.cells #[.int .u32 (u:Int)] 59)).alloc (.cells #[.int .i64 n] 3))=w0 at *
   refine⟨trivial,?_⟩
   refine(callsIn_wide.2 (HCK.out w0 HB.out)).mono ?_
   clear HCK
   rintro e w1 ⟨rfl,b1⟩
   have cn:=(HI.out.below b1).n0.cell
   have HB1:=zq (HB.out.trans (b1.mono HB.out.size))
   clear b1 HI HB HSZ
   gi_wp2
   refine wpIn_wide.2 ?_
   go_quiet (fail)
   gi_wp2
   refine⟨.tuple #[.slice none 0 0,.int .u32 0,.int .i64 1],?_,Out3.no HV.out (below_drewN HB1.out _)⟩
   simp[results,Tryz.f164,go_sem]
  ·obtain⟨K,rfl⟩:∃ K:Nat,n=(K:Int):=⟨n.toNat,by omega⟩
   have hgood:=za3 l
   have hlen:=hgood.len
   have hto:=fun W (hW:Below w.heap.size w W)=>zgv A l c W ((h.below hW).more hW.size) hl
   by_cases hbig:(za4 l).length<K
   ·have hv:zbm l u (K:Int)=([],0,1):=by unfold zbm;rw[zp (.inr (.inr (by rw[← zar hok];omega)))]
    have HV:=zq hv
    have HTO0:=zq hto
    clear hv hok h hneg hgood hto
    generalize (za4 l).length=N at *
    refine(callsIn_wide (n:=8)).1 ?_
    refine callsIn_of_wp_marks Tryz.func164 rfl trivial ?_ rfl
    simp only[Tryz.ntmps164,List.size_toArray,List.length_cons,List.length_nil,Nat.reduceAdd,Nat.reduceSub,Array.replicate_succ,Array.replicate_zero,List.push_toArray,List.append_toArray,List.nil_append,List.cons_append]
    gi_wp2
    generalize ((w.alloc (.cells #[.int .u32 (u:Int)] 59)).alloc (.cells #[.int .i64 (K:Int)] 3))=w0 at *
    refine⟨trivial,?_⟩
    refine(callsIn_wide.2 (HCK.out w0 HB.out)).mono ?_
    clear HCK
    rintro e w1 ⟨rfl,b1⟩
    have HI1:=zq (HI.out.below b1)
    have HB1:=zq (HB.out.trans (b1.mono HB.out.size))
    have HTO:Hid (∀ W,Below w1.heap.size w1 W→Calls Tryz.prog 157 #[.slice A l.length c] W (zcx W (.int .i64 (N:Int)))):=fun W hW=>HTO0.out W (HB1.out.trans (hW.mono HB1.out.size))
    clear b1 HI HB HSZ HTO0
    gi_wp2
    refine wpIn_wide.2 (yc0 ?_)
    refine wp_region_held (S:=CellN w K w1) (by kernel_rfl) ?_
    change wpAnyH _ _ _ _ _ _ _ _ (w1).drew
    have hS:CellN w K w1 w1.drew:=CellN.of HI1.out (below_drewN (Below.refl _ _) 1)
    generalize (w1).drew=w2 at *
    refine sqH 0 (.int .i64 (K:Int)) rfl (zai rfl 3 (.tmp 5) rfl _ _ rfl fun w h=>zal aggI (CellN.c h)) hS ?_
    try simp only[Act.put,sqX]
    refine sqH 1 (.bool false) rfl (Or.inl ⟨by rfl,fun _ _=>by go_simp⟩) hS ?_
    try simp only[Act.put,sqX]
    refine sqH 2 (.bool false) rfl (Or.inl ⟨by rfl,fun _ _=>rfl⟩) hS ?_
    try simp only[Act.put,sqX]
    refine sqH 3 (.int .i64 (K:Int)) rfl (zai rfl 3 (.tmp 5) rfl _ _ rfl fun w h=>zal aggI (CellN.c h)) hS ?_
    try simp only[Act.put,sqX]
    refine sqH 4 (.slice A l.length c) rfl (Or.inl ⟨by rfl,fun _ _=>rfl⟩) hS ?_
    try simp only[Act.put,sqX]
    refine wpAnyH_all (rs:=[5]) (by kernel_rfl) (by simp) fun i hi=>?_
    obtain rfl:i=5:=by simpa using hi
    refine zbf (om:=⟨_,_,_,_,_,_⟩) (fn:=157) (args:=#[.slice A l.length c]) (R:=fun v W2=>v=.int .i64 (N:Int)∧Below w1.heap.size w1 W2) rfl rfl (by go_simp)
     ((HTO.out w2 hS.2).mono fun e W2 ⟨he,hb⟩=>⟨_,he,rfl,hS.2.trans (hb.mono hS.2.size)⟩) _ _ rfl rfl ?_
    rintro v W2 ⟨rfl,hb4⟩
    have hS:CellN w K w1 W2:=CellN.of HI1.out hb4
    clear hi
    refine⟨hS,?_⟩
    try simp only[Act.put,sqX]
    refine sqH 6 (.bool true) rfl (Or.inl ⟨by rfl,fun _ _=>by go_simp⟩) hS ?_
    try simp only[Act.put,sqX]
    refine sqH 7 (.bool true) rfl (Or.inl ⟨by rfl,fun _ _=>by go_simp⟩) hS ?_
    try simp only[Act.put,sqX]
    refine wpAnyH_done (by kernel_rfl) ?_ _
    try simp only[Act.put,sqX]
    have HB3:=zq (HB1.out.trans (hS.2.mono HB1.out.size))
    gi_wp2
    refine⟨.tuple #[.slice none 0 0,.int .u32 0,.int .i64 1],?_,Out3.no HV.out HB3.out⟩
    simp[results,Tryz.f164,go_sem]
   ·have hKN:¬(((za4 l).length:Nat):Int)<(K:Int):=by omega
    have hv:zbm l u (K:Int)=(zc4 [] ((zaq l).take K),zkv u (zb2 ((zaq l).drop K)),0):=by
     unfold zbm
     rw[zar hok] at hKN
     rw[zn (by rw[hok];rintro(h | h | h);cases h;omega;exact hKN h),Int.toNat_natCast]
    have HV:=zq hv
    have HTO0:=zq hto
    have HOK:=zq hok
    have HX:=zq h
    have hN23:(zaq l).length≤23:=by rw[← zar hok];exact hlen
    have hbd:Bd (zc4 [] ((zaq l).take K)) 50:=by
     have:=(zru ((zaq l).take K) fun b hb=>((zcr l hok).2 b (List.mem_of_mem_take hb)).2).1
     rw[List.length_take] at this
     exact this.mono (by omega)
    have HBD:=zq (hbd.ok (by omega))
    clear hv hok h hneg hgood hto hbd
    generalize (za4 l).length=N at *
    refine(callsIn_wide (n:=8)).1 ?_
    refine callsIn_of_wp_marks Tryz.func164 rfl trivial ?_ rfl
    simp only[Tryz.ntmps164,List.size_toArray,List.length_cons,List.length_nil,Nat.reduceAdd,Nat.reduceSub,Array.replicate_succ,Array.replicate_zero,List.push_toArray,List.append_toArray,List.nil_append,List.cons_append]
    gi_wp2
    generalize ((w.alloc (.cells #[.int .u32 (u:Int)] 59)).alloc (.cells #[.int .i64 (K:Int)] 3))=w0 at *
    refine⟨trivial,?_⟩
    refine(callsIn_wide.2 (HCK.out w0 HB.out)).mono ?_
    clear HCK
    rintro e w1 ⟨rfl,b1⟩
    have HI1:=zq (HI.out.below b1)
    have HB1:=zq (HB.out.trans (b1.mono HB.out.size))
    have HTO:Hid (∀ W,Below w1.heap.size w1 W→Calls Tryz.prog 157 #[.slice A l.length c] W (zcx W (.int .i64 (N:Int)))):=fun W hW=>HTO0.out W (HB1.out.trans (hW.mono HB1.out.size))
    have hs1:w.heap.size+2≤w1.heap.size:=by have:=b1.size;have:=HSZ.out;omega
    clear b1 HI HB HSZ HTO0
    gi_wp2
    refine wpIn_wide.2 (yc0 ?_)
    refine wp_region_held (S:=CellN w K w1) (by kernel_rfl) ?_
    change wpAnyH _ _ _ _ _ _ _ _ (w1).drew
    have hS:CellN w K w1 w1.drew:=CellN.of HI1.out (below_drewN (Below.refl _ _) 1)
    generalize (w1).drew=w2 at *
    refine sqH 0 (.int .i64 (K:Int)) rfl (zai rfl 3 (.tmp 5) rfl _ _ rfl fun w h=>zal aggI (CellN.c h)) hS ?_
    try simp only[Act.put,sqX]
    refine sqH 1 (.bool false) rfl (Or.inl ⟨by rfl,fun _ _=>by go_simp⟩) hS ?_
    try simp only[Act.put,sqX]
    refine sqH 2 (.bool false) rfl (Or.inl ⟨by rfl,fun _ _=>rfl⟩) hS ?_
    try simp only[Act.put,sqX]
    refine sqH 3 (.int .i64 (K:Int)) rfl (zai rfl 3 (.tmp 5) rfl _ _ rfl fun w h=>zal aggI (CellN.c h)) hS ?_
    try simp only[Act.put,sqX]
    refine sqH 4 (.slice A l.length c) rfl (Or.inl ⟨by rfl,fun _ _=>rfl⟩) hS ?_
    try simp only[Act.put,sqX]
    refine wpAnyH_all (rs:=[5]) (by kernel_rfl) (by simp) fun i hi=>?_
    obtain rfl:i=5:=by simpa using hi
    refine zbf (om:=⟨_,_,_,_,_,_⟩) (fn:=157) (args:=#[.slice A l.length c]) (R:=fun v W2=>v=.int .i64 (N:Int)∧Below w1.heap.size w1 W2) rfl rfl (by go_simp)
     ((HTO.out w2 hS.2).mono fun e W2 ⟨he,hb⟩=>⟨_,he,rfl,hS.2.trans (hb.mono hS.2.size)⟩) _ _ rfl rfl ?_
    rintro v W2 ⟨rfl,hb4⟩
    have hS:CellN w K w1 W2:=CellN.of HI1.out hb4
    clear hi
    refine⟨hS,?_⟩
    try simp only[Act.put,sqX]
    refine sqH 6 (.bool false) rfl (Or.inl ⟨by rfl,fun _ _=>by go_simp⟩) hS ?_
    try simp only[Act.put,sqX]
    refine sqH 7 (.bool false) rfl (Or.inl ⟨by rfl,fun _ _=>by go_simp⟩) hS ?_
    try simp only[Act.put,sqX]
    refine wpAnyH_done (by kernel_rfl) ?_ _
    try simp only[Act.put,sqX]
    have HB3:=zq (HB1.out.trans (hS.2.mono HB1.out.size))
    have HI3:=zq (HI1.out.below hS.2)
    have hs3:w.heap.size+2≤W2.heap.size:=by have:=hS.2.size;omega
    clear hS HI1 HB1 HTO
    gi_wp2
    refine⟨trivial,?_⟩
    refine(callsIn_wide.2 (zod A l.length c _)).mono ?_
    rintro e w6 ⟨rfl,rfl⟩
    have hq6:=(Boxed.new W2 111 (.slice none 0 0)).alloc (.cells #[.slice A l.length c] 111)
    have hbox:=heap_alloc_new (W2.alloc (.cells #[.slice none 0 0] 111)) (.cells #[.slice A l.length c] 111)
    have b26:Below W2.heap.size W2 ((W2.alloc (.cells #[.slice none 0 0] 111)).alloc (.cells #[.slice A l.length c] 111)):=((Below.refl _ _).alloc (Nat.le_refl _) _).alloc (by simp) _
    have hI6:=HI3.out.below b26
    have hk6:=HB3.out.trans (b26.mono HB3.out.size)
    have hs6:((W2.alloc (.cells #[.slice none 0 0] 111)).alloc (.cells #[.slice A l.length c] 111)).heap.size=W2.heap.size+2:=by simp
    rw[World.size_alloc] at hbox
    have hS6:InS w w.heap.size W2.heap.size u K [] none 0 ((W2.alloc (.cells #[.slice none 0 0] 111)).alloc (.cells #[.slice A l.length c] 111)):=by
     refine⟨by omega,by omega,?_,hI6.n0,hq6,OwnX.nil _ _,Nat.le_refl _,hk6⟩
     show Boxed _ _ _ (.int .u32 ((zkv u (zb2 []):Nat):Int))
     rw[zrv hu]
     exact hI6.u0
    gi_wp2
    generalize ((W2.alloc (.cells #[.slice none 0 0] 111)).alloc (.cells #[.slice A l.length c] 111))=W6 at *
    generalize W2.heap.size=q at *
    have hit:∀ W,Below W6.heap.size W6 W→ItOk (WrS w.heap.size q) (q+1) W A l:=fun W hW=>ItOk.start HX.out (hk6.trans (hW.mono hk6.size)) (by omega) (by omega) ((hW.block q (by omega)).trans hq6)
    have HBOX:=zq hbox
    have HIT:=zq hit
    have HS6:=zq hS6
    clear hq6 hbox b26 hI6 hk6 hit hS6 HI3 HB3 HX hb4
    refine wpIn_rangeFunc_ownF rfl (by omega) (gf:=177) (lb:=#[.pointer (some ⟨q+1,0,none⟩)]) rfl trivial (enters_of Tryz.func177 (by kernel_rfl) rfl)
     (zpr Fence.wide _ trivial rfl (by omega) (zye w.heap.size q) (q+1) A l c HOK.out hl W6 HBOX.out HIT.out) (fun h k=>KpW.trans h k) (fun W y o o' hy h hc _=>KpW.put (zye w.heap.size q) W y o o' (by omega) h hc) (Below.refl _ _) (fun _=>rfl)
     (fun pre W=>∃ R cap,InS w w.heap.size q u K pre R cap W) (fun _ _ _=>False)
     (yhs _ (by omega)) (fun _ _ _ _ _ hs _ _=>hs) ⟨none,0,HS6.out⟩
     (fun x=>{ tmps:=#[.slice A l.length c,.int .u32 (u:Int),.int .i64 (K:Int),undef,.pointer (some ⟨w.heap.size,0,none⟩),.pointer (some ⟨w.heap.size+1,0,none⟩),.slice none 0 0,.int .u32 0,.int .i64 0,.int .i64 0,.pointer (some ⟨q,0,none⟩),.int .i64 (x.1.2:Int),.int .i64 (x.1.1:Int),.slice A l.length c,.int .i64 0,.int .i64 0,.bool false,undef,.int .i64 (K:Int),.bool false,.bool false,.int .i64 (K:Int),.slice A l.length c,.int .i64 (N:Int),.bool false,.bool false,.slice A l.length c,itv (q+1),.int .i64 (x.1.2:Int),.int .i64 (x.1.1:Int),undef,undef,undef,undef,undef,undef,undef,undef,undef,undef,undef,undef],defers:=[] }) ?assign ?body ?done ?stop
    case assign =>
     intro y x W Kx hK
     gi_wp2
     exact hK
    case body =>
     rintro y pre ⟨⟨b,i⟩,hb⟩ W ⟨R,cap,hS⟩ hlen
     have c10:=hS.kept.cell
     have f10:=hS.kept.frozen
     have c5:=hS.num.cell
     have hkl:=kp_len K pre
     by_cases hi:i<K
     ·have hbd:=zru (kp K pre) (kp_lt K pre)
      have hwi:=zeh hS.own (by have:=hS.kept.lt;omega) (by omega) (hbd.1.mono (by omega)) b
      have HW:=zq hwi
      have hS':=zq hS
      clear hS hbd hwi hkl
      have HLN:Hid (∀ W3 R' cap',OwnX W3 (q+1) R' cap' (zc3 (zc4 [] (kp K pre)) b)→Below (q+1) W W3→Beside W W3 (.slice R (zc4 [] (kp K pre)).length cap) (.slice R' (zc3 (zc4 [] (kp K pre)) b).length cap') →
        KeepsOthers W (W3.setCell ⟨q,0,none⟩ (.slice R' (zc3 (zc4 [] (kp K pre)) b).length cap'))∧KpW (WrS w.heap.size q) W (W3.setCell ⟨q,0,none⟩ (.slice R' (zc3 (zc4 [] (kp K pre)) b).length cap'))∧(∃ R cap,InS w w.heap.size q u K (pre++[⟨(b,i),hb⟩]) R cap (W3.setCell ⟨q,0,none⟩ (.slice R' (zc3 (zc4 [] (kp K pre)) b).length cap')))∧W3.frozen? ⟨q,0,none⟩=false∧∃ v,W3.cell? ⟨q,0,none⟩=some v):=fun W3 R' cap' o5 b5 s5=>by
       obtain⟨g1,g2,g3⟩:=hS'.out.with (x:=⟨(b,i),hb⟩) hi o5 b5 s5
       have hbx:Boxed W3 q 111 _:=(b5.block q (by omega)).trans hS'.out.kept
       exact⟨g1,g2,⟨R',cap',g3⟩,hbx.frozen,_,hbx.cell⟩
      generalize (zc4 [] (kp K pre)).length=cl at *
      generalize zc3 (zc4 [] (kp K pre)) b=nx at *
      gi_wp2
      refine⟨trivial,?_⟩
      refine(CallsIn.inRound y (callsIn_wide.2 HW.out)).mono ?_
      rintro e W3 ⟨R',cap',rfl,o5,b5,s5⟩
      obtain⟨g1,g2,g3,f3,v3,c3⟩:=HLN.out W3 R' cap' o5 b5 s5
      have G1:=zq g1
      have G2:=zq g2
      have G3:=zq g3
      clear o5 b5 s5 g1 g2 g3 HLN HW hS'
      gi_wp2
      exact⟨G1.out,G2.out,G3.out⟩
     ·have c4:=hS.used.cell
      have f4:=hS.used.frozen
      have e1:IntKind.u32.wrap ((2:Int) ^ b)=((2 ^ b:Nat):Int):=by
       have hpw:=zuc hb
       have:(2:Int) ^ b=((2 ^ b:Nat):Int):=by simp
       rw[this,IntKind.wrap_u32]
       clear this
       generalize (2:Nat) ^ b=t at *
       omega
      have hand:=zld (zkv u (zb2 (dr K pre))) (2 ^ b) (ycd _ _) (zuc hb)
      rw[ycc] at hand
      have hdr:=hS.drop (x:=⟨(b,i),hb⟩) hi rfl
      have HDR:=zq hdr
      clear hdr hS hkl
      simp only at HDR
      generalize zkv u (zb2 (dr K pre))=us at *
      generalize zkv u (zb2 (dr K pre++[b]))=z at *
      generalize ((2 ^ b:Nat):Int)=t at *
      gi_wp2
      have hmix:Tryz.prog.follows .mixedOrders=true:=by kernel_rfl
      have HE1:=zq e1
      have HAN:=zq hand
      clear e1 hand
      gi_region_with_o (fail)
      all_goals
       rw[HE1.out,HAN.out]
       gi_wp2
       exact⟨HDR.out.1,HDR.out.2.1,R,cap,HDR.out.2.2⟩
    case done =>
     rintro D ys W hD hys ⟨R,cap,hS⟩ hK'
     obtain⟨e1,e2⟩:=kp_all hys
     have c10:=hS.kept.cell
     have c4:=hS.used.cell
     rw[e1] at c10
     rw[e2] at c4
     have hown:=hS.own
     rw[e1] at hown
     have hxr:=hown.xr HBD.out
     have HXR:=zq hxr
     have HBL:=zq hS.bel
     clear hS hown hxr e1 e2 hys
     generalize zc4 [] ((zaq l).take K)=X at *
     generalize zkv u (zb2 ((zaq l).drop K))=V at *
     gi_wp2
     refine wpIn_wide.2 (yc0 ?_)
     go_quiet (fail)
     gi_wp2
     have hKq:(W.drewN nq).heap[D]?=some (.deferred (some [])):=hK'
     refine⟨by simp,.inl ⟨D,_,rfl,run_takeDeferred hKq,?_⟩⟩
     refine⟨.tuple #[.slice R X.length cap,.int .u32 (V:Int),.int .i64 0],?_,?_⟩
     ·simp[results,Tryz.f164,go_sem]
     ·have hsz:((W.drewN nq).putObj D (.deferred none)).heap.size=W.heap.size:=by simp[World.putObj]
      have k2:=(below_drewN HBL.out nq).trans (belowK_b (w:=w) (Nat.le_refl _) (W.drewN nq) D _ (.deferred none) (by omega) hKq rfl rfl)
      refine⟨R,cap,by rw[HV.out],?_,k2⟩
      rw[HV.out,hsz]
      exact HXR.out.keep fun a _=>yb1 (W:=W.drewN nq) hKq rfl rfl a
    case stop =>
     rintro D c2 pre W _ _ hf _
     exact hf.elim
 ·have hno:ok l=false:=by simpa using hok
  rw[zkn hno] at HCK
  have hv:zbm l u n=([],0,1):=by unfold zbm;rw[zp (.inl hno)]
  have HV:=zq hv
  clear hv hok hno h
  refine(callsIn_wide (n:=8)).1 ?_
  refine callsIn_of_wp_marks Tryz.func164 rfl trivial ?_ rfl
  simp only[Tryz.ntmps164,List.size_toArray,List.length_cons,List.length_nil,Nat.reduceAdd,Nat.reduceSub,Array.replicate_succ,Array.replicate_zero,List.push_toArray,List.append_toArray,List.nil_append,List.cons_append]
  gi_wp2
  generalize ((w.alloc (.cells #[.int .u32 (u:Int)] 59)).alloc (.cells #[.int .i64 n] 3))=w0 at *
  refine⟨trivial,?_⟩
  refine(callsIn_wide.2 (HCK.out w0 HB.out)).mono ?_
  clear HCK
  rintro e w1 ⟨rfl,b1⟩
  have HB1:=zq (HB.out.trans (b1.mono HB.out.size))
  clear b1 HI HB HSZ
  gi_wp2
  refine⟨.tuple #[.slice none 0 0,.int .u32 0,.int .i64 1],?_,Out3.no HV.out HB1.out⟩
  simp[results,Tryz.f164,go_sem]
end Ex
namespace Fs
open Go.RowKit Ex Ino Mm
theorem yis (w:World)(A:Option Addr)(n c:Nat)(h:64≤n):(Instr.arrayAt 145 (.slice A n c)).run Tryz.prog w=.ok (.pointer A) w:=run_arrayAt w 145 5 64 A n c Tryz.underlying145 h
theorem yfo {w:World} {B g:Nat} {xs:List UInt8} (h:BR w B (some ⟨g,0,none⟩) xs)(n:Nat):w.rangeAt g (n*64) ((zaw xs n).map B8):=by
 intro j v hv
 simp only[List.getElem?_map,Option.map_eq_some_iff] at hv
 obtain⟨u,hu,rfl⟩:=hv
 unfold zaw at hu
 have hj:j<64:=by
  have:=(List.getElem?_eq_some_iff.1 hu).1
  rw[List.length_take] at this
  omega
 rw[List.getElem?_take_of_lt hj,List.getElem?_drop] at hu
 obtain⟨ad,e,_,hc⟩:=h (by intro e;subst e;simp at hu)
 cases e
 have:=hc _ u hu
 rw[show(⟨g,0,none⟩:Addr).add (n*64+j)=⟨g,n*64+j,none⟩ by unfold Addr.add;split<;>simp_all] at this
 exact this
theorem zp2 {w:World} {ops:Array Oper} {rest:List Oper} {o:Oper} {a:Act} {Q:Act→Prop} (hw:Region.wanted o (yielded ops a.tmps)=true)(t:TypeId)(x:Operand)(ho:o.op=.sliceToArrayPointer t x)(p v:Value)(hp:a.eval x=p)
  (hrun:(Instr.arrayAt t p).run Tryz.prog w=.ok v w) (h:wpStill Tryz.prog ops w Q rest (a.put o.dst v)):wpStill Tryz.prog ops w Q (o::rest) a:=by
 unfold wpStill
 rw[zp hw]
 unfold Oper.still execOp
 simp only[ho,hp,Sem.run_bind,hrun,Result.andThen_ok,Sem.run_pure,Oper.stillUpon,true_and]
 exact h
structure AllAt (w:World) (r g:Nat) (cap:Nat) (all:List UInt8):Prop where
 br:BR w w.heap.size (some ⟨g,0,none⟩) all
 gr:g≠r
 cap:all.length≤cap
 lt:g<w.heap.size
theorem AllAt.keeps {w w':World} {r g cap:Nat} {all:List UInt8} (h:AllAt w r g cap all)(k:Keeps (·=r) w w'):AllAt w' r g cap all:=
 ⟨k.br h.br (fun ad e _=>by cases e;exact h.gr),h.gr,h.cap,Nat.lt_of_lt_of_le h.lt k.size⟩
def OutsR (w:World) (r:Nat) (v:Value) (bs:List UInt8) (l:List ND) (e:Ending) (w':World):Prop:=e=.returned v∧RegAt w' r bs l∧Keeps (·=r) w w'
theorem znc {w:World} {r g cap:Nat} {bs all:List UInt8} {l:List ND} (h:RegAt w r bs l)(d:ND)(hd:NdOk w r d)(ha:AllAt w r g cap all)(hl:64*(za4 d.x.ext).length≤all.length)(hal:all.length≤100000):
  Calls Tryz.prog 133 #[.pointer (some ⟨r,0,none⟩),Ino.ag d.x d.A d.c,.slice (some ⟨g,0,none⟩) all.length cap] w (OutsR w r (.tuple #[]) (zbo bs d.x.ext all) l):=by
 have hb2:Below w.heap.size w (w.alloc (.cells #[St d.x.name,.int .i64 d.x.size,.slice d.A d.x.ext.length d.c] 113)):=(Below.refl _ _).alloc (Nat.le_refl _) _
 have hbx:BoxN (w.alloc (.cells #[St d.x.name,.int .i64 d.x.size,.slice d.A d.x.ext.length d.c] 113)) w.heap.size d:=heap_alloc_new w _
 have htot:=zgv d.A d.x.ext d.c (w.alloc (.cells #[St d.x.name,.int .i64 d.x.size,.slice d.A d.x.ext.length d.c] 113)) ((hd.ok.xr.below hb2).more hb2.size) hd.ok.few
 have hblk:=fun W (n:Int) (hW:Keeps (·=r) w W)=>zrr d.A d.x.ext d.c n W (hd.keeps hW hd.no).ok.xr hd.ok.few
 have hN:=(za3 d.x.ext).len
 have hrl:=h.lt
 have hcap:=ha.cap
 have HB2:=zq hb2
 have HBX:=zq hbx
 have HREG:=zq (h.below hb2)
 have HALL:=zq (ha.keeps (zav r hb2))
 have HTOT:=zq htot
 have HBLK:=zq hblk
 have HL:=zq hl
 have hgr:=ha.gr
 clear h hd hb2 hbx htot hblk ha
 go_enter Tryz.func133,Tryz.ntmps133
 go_wp2_with fail
 have hs1:w.heap.size<(w.alloc (.cells #[St d.x.name,.int .i64 d.x.size,.slice d.A d.x.ext.length d.c] 113)).heap.size:=by simp
 generalize w.alloc (.cells #[St d.x.name,.int .i64 d.x.size,.slice d.A d.x.ext.length d.c] 113)=w1 at *
 have c2:=HBX.out.c.2.2
 refine HTOT.out.mono ?_
 rintro e w2 ⟨rfl,b2⟩
 have HR3:=zq (HREG.out.below b2)
 have HA3:=zq (HALL.out.keeps (zav r b2))
 have HBX3:=zq (HBX.out.below b2)
 have HK3:=zq ((zav r HB2.out).trans (zav r b2))
 clear b2 HREG HALL HBX HB2 HTOT c2 hs1
 go_wp2_with fail
 go_loopw [12] (fun i wr=>∃ k:Nat,i=.int .i64 (k:Int)∧k≤(za4 d.x.ext).length∧RegAt wr r (zdv bs (za4 d.x.ext) all k) l∧AllAt wr r g cap all∧BoxN wr w.heap.size d∧Keeps (·=r) w wr) (fun i _=>(za4 d.x.ext).length-(RowKit.intOf i).toNat)
 case atStart=>exact⟨0,rfl,Nat.zero_le _,HR3.out,HA3.out,HBX3.out,HK3.out⟩
 case round =>
  clear HR3 HA3 HBX3 HK3
  obtain⟨k,rfl,hk,hreg,hall,hbx,hkp⟩:=hrel
  by_cases hlt:k<(za4 d.x.ext).length
  ·have hblk:=HBLK.out wr (k:Int) hkp
   unfold ycq at hblk
   obtain⟨v1,v2,v3⟩:=zrt hlt
   rw[v1] at hblk
   have hlk:64*(k+1)≤all.length:=Nat.le_trans (by omega) HL.out
   have hpl:=zi2 hlk
   have hnext:zdv bs (za4 d.x.ext) all (k+1)=zau (zdv bs (za4 d.x.ext) all k) ((za4 d.x.ext).getD k 0) (zaw all k):=rfl
   have HNX:=zq hnext
   have HK:=zq hblk
   have HREG:=zq hreg
   have HALL:=zq hall
   have HBX:=zq hbx
   have HKP:=zq hkp
   have c2:=hbx.c.2.2
   have HPL:=zq hpl
   clear hblk v1 hreg hall hbx hkp hnext hpl
   generalize (za4 d.x.ext).getD k 0=b at *
   generalize hN0:(za4 d.x.ext).length=N at *
   have HN0:=zq hN0
   clear hN0
   go_wp2_with fail
   refine HK.out.mono ?_
   rintro e w3 ⟨rfl,b3⟩
   have hk4:=zav r (b3.drew)
   have hr4:=HREG.out.below b3.drew
   have ha4:=HALL.out.keeps hk4
   have hbx4:=HBX.out.below b3.drew
   have LD:=zq (yf7 HPL.out (yfo ha4.br k))
   have AR:=zq (yis w3.drew (some ⟨g,k*64,none⟩) (all.length-k*64) (cap-k*64) (by omega))
   obtain⟨p1,p2⟩:=hr4.putBlock v2 (zaw all k) HPL.out
   have ST:=zq (zlq (xs:=zaw all k) HPL.out (hr4.there (b*64) 64 (by omega)))
   have HR5:=zq p1
   rw[← HNX.out] at HR5
   have HA5:=zq (ha4.keeps p2)
   have hrb:=hr4.lt
   have hne:w.heap.size≠r:=by omega
   have HBX5:Hid (BoxN (w3.drew.setCells r (b*64) ((zaw all k).map B8)) w.heap.size d):=(p2.block _ hbx4.lt hne).trans hbx4
   have HK5:=zq ((HKP.out.trans hk4).trans p2)
   clear b3 hk4 hr4 ha4 hbx4 p1 p2 HK HREG HALL HBX HKP c2 HNX hrb hne HL
   go_wp2_with fail
   have w64:IntKind.i64.wrap ((k:Int)*64)=(k:Int)*64:=by rw[IntKind.wrap_i64];omega
   have q1:0≤(k:Int)*64:=by omega
   have q2:(k:Int)*64≤(all.length:Int):=by omega
   have q3:((k:Int)*64).toNat=k*64:=by omega
   have q4:(b:Int)<32:=by omega
   have hcc:¬cap=k*64:=by omega
   have hcc2:(k*64:Nat)≤all.length:=by omega
   refine wp_region_still_tail 11 (by kernel_rfl) (by kernel_rfl) ?_
   simp only[List.take_succ_cons,List.take_zero,List.drop_succ_cons,List.drop_zero]
   change wpStill _ _ w3.drew (fun a'=>wpList _ _ _ _ a' w3.drew) _ _
   generalize w3.drew=w4 at *
   still_step
   still_step
   still_step
   still_step
   still_step
   still_step
   refine zp2 rfl 145 (.tmp 27) rfl _ _ rfl AR.out ?_
   refine zeq rfl 145 (.tmp 28) rfl _ _ rfl LD.out ?_
   still_step
   still_step
   still_step
   refine wpStill_nil ?_
   clear LD AR w64 q1 q2 q3 q4
   go_wp2_with (first | ((with_reducible refine zd5 (op:=.store 145 (.tmp 32) (.tmp 29)) ?_);refine zaz rfl 145 _ _ rfl _ _ rfl rfl ST.out ?_) | fail)
   go_roundw
   case rel=>exact⟨k+1,by go_num,by omega,HR5.out,HA5.out,HBX5.out,HK5.out⟩
   case measure=>simp[RowKit.intOf];omega
  ·obtain rfl:k=(za4 d.x.ext).length:=by omega
   have HG:Hid (OutsR w r (.tuple #[]) (zbo bs d.x.ext all) l (.returned (.tuple #[])) wr):=⟨rfl,hreg,hkp⟩
   clear hreg hall hbx hkp
   go_wp2_with fail
   all_goals
    go_end0
    exact HG.out
theorem zn0 {w w':World} {zs:List UInt8} {e:Ending} (h:GivesN w zs e w'):∃ g c,e=.returned (.slice (some ⟨g,0,none⟩) zs.length c)∧Below w.heap.size w w'∧∀ r,r<w.heap.size→AllAt w' r g c zs:=by
 obtain⟨g,c,he,h1,h2,h3,h4,h5⟩:=h
 exact⟨g,c,he,h4,fun r hr=>⟨h3,by omega,h5,h2⟩⟩
theorem ygu (g N cap K:Nat)(w:World)(h1:K≤N)(h2:N≤cap):(Instr.sliceAt 31 (.slice (some ⟨g,0,none⟩) N cap) (some (.int .i64 (K:Int))) none none).run Tryz.prog w=.ok (.slice (some (if cap=K then ⟨g,0,none⟩ else ⟨g,K,none⟩)) (N-K) (cap-K)) w:=by
 by_cases h4:cap=K
 ·subst h4
  rw[zp rfl]
  go_simp
 ·rw[zn h4]
  go_simp
theorem yio {w:World} {B g:Nat} {xs:List UInt8} (h:BR w B (some ⟨g,0,none⟩) xs)(K cap:Nat)(hc:xs.length≤cap):BR w B (some (if cap=K then ⟨g,0,none⟩ else ⟨g,K,none⟩)) (xs.drop K):=by
 intro hn
 have hK:K<xs.length:=Nat.lt_of_not_le fun hle=>hn (List.drop_eq_nil_of_le hle)
 rw[zn (by omega)]
 obtain⟨ad,e,hb,hcc⟩:=h (by intro e;rw[e] at hK;simp at hK)
 cases e
 refine⟨_,rfl,hb,fun k u hu=>?_⟩
 rw[List.getElem?_drop] at hu
 have:=hcc _ u hu
 rw[show(⟨g,0,none⟩:Addr).add (K+k)=(⟨g,K,none⟩:Addr).add k by unfold Addr.add;split<;>split<;>simp_all] at this
 exact this
theorem zoa {w:World} {g:Nat} {t:TypeId} {zs xs:List UInt8} {ad:Addr} (n sl c:Nat)(hr:Row8 w g t zs)(hz:zs.length=n)(hx:BR w w.heap.size (some ad) xs)(hsl:xs.length=sl):
  ∃ w',(Builtin.copy_ #[31,31] 3 #[.slice (some ⟨g,0,none⟩) n n,.slice (some ad) sl c]).run Tryz.prog w=.ok (.int .i64 ((min sl n:Nat):Int)) w'∧Row8 w' g t (xs.take n++zs.drop sl)∧w.grownBy w' (some g):=by
 by_cases h0:min sl n=0
 ·refine⟨w,?_,?_,World.grownBy.refl w _⟩
  ·rw[h0]
   exact run_copy_none w _ _ _ _ _ _ _ _ _ _ Tryz.underlying31 zis h0
  ·have e:xs.take n++zs.drop sl=zs:=by
    by_cases hs:sl=0
    ·rw[hs] at hsl
     rw[List.length_eq_zero_iff.1 hsl,hs]
     simp
    ·have:n=0:=by omega
     rw[this] at hz
     rw[List.length_eq_zero_iff.1 hz,this]
     simp
   rw[e]
   exact hr
 ·have hl:(xs.take n).length=min sl n:=by rw[List.length_take,hsl];omega
  obtain⟨w',h1,h2,h3⟩:=zhg (P:=Tryz.prog) w 31 31 3 5 t Tryz.underlying31 zis g 0 n n zs (xs.take n) ad sl c hr (hx.take n) (by rw[hl]) (by rw[hl];omega) (by intro e;rw[e] at hl;simp at hl;omega)
  rw[hl] at h1
  refine⟨w',h1,?_,h3⟩
  have e:splice zs 0 (xs.take n)=xs.take n++zs.drop sl:=by
   unfold splice
   rw[List.take_zero,List.nil_append,hl,Nat.zero_add]
   by_cases hle:sl≤n
   ·rw[Nat.min_eq_left hle]
   ·rw[Nat.min_eq_right (by omega),List.drop_of_length_le (show zs.length≤n by omega),List.drop_of_length_le (show zs.length≤sl by omega)]
  rw[← e]
  exact h2
theorem yfc {w:World} {r:Nat} {bs:List UInt8} {l:List ND} (h:RegAt w r bs l)(d:ND)(hd:NdOk w r d)(a n:Nat)(ha:a+n≤64*(za4 d.x.ext).length):
  Calls Tryz.prog 105 #[.pointer (some ⟨r,0,none⟩),Ino.ag d.x d.A d.c,.int .i64 (a:Int),.int .i64 (n:Int)] w (GivesN w (((zam bs d.x.ext).drop a).take n)):=by
 have hN:=(za3 d.x.ext).len
 have hwl:=zdh h.bl d.x.ext
 have hb1:Below w.heap.size w ((w.alloc (.cells #[St d.x.name,.int .i64 d.x.size,.slice d.A d.x.ext.length d.c] 113)).alloc (.cells (madeCells #[.int .u8 0] n) 5)):=((Below.refl _ _).alloc (Nat.le_refl _) _).alloc (by simp) _
 have hbx:BoxN ((w.alloc (.cells #[St d.x.name,.int .i64 d.x.size,.slice d.A d.x.ext.length d.c] 113)).alloc (.cells (madeCells #[.int .u8 0] n) 5)) w.heap.size d:=(Below.heap_alloc _ _ _ (by simp)).trans (heap_alloc_new w _)
 have hrow:Row8 ((w.alloc (.cells #[St d.x.name,.int .i64 d.x.size,.slice d.A d.x.ext.length d.c] 113)).alloc (.cells (madeCells #[.int .u8 0] n) 5)) (w.heap.size+1) 5 (List.replicate n 0):=by
  have:=Row8.made (w.alloc (.cells #[St d.x.name,.int .i64 d.x.size,.slice d.A d.x.ext.length d.c] 113)) n 5
  rwa [World.size_alloc] at this
 have hmk:=zfq n (by omega)
 have hwh:=zp5 (h.below hb1) d ((hd.keeps (zav r hb1) hd.no).ok)
 have HWL:=zq hwl
 have HB1:=zq hb1
 have HBX:=zq hbx
 have HROW:=zq hrow
 have HWH:=zq hwh
 have hs1:w.heap.size+1<((w.alloc (.cells #[St d.x.name,.int .i64 d.x.size,.slice d.A d.x.ext.length d.c] 113)).alloc (.cells (madeCells #[.int .u8 0] n) 5)).heap.size:=by simp
 clear hwl hb1 hbx hrow hwh h hd
 go_enter Tryz.func105,Tryz.ntmps105
 go_wp2_with fail
 generalize ((w.alloc (.cells #[St d.x.name,.int .i64 d.x.size,.slice d.A d.x.ext.length d.c] 113)).alloc (.cells (madeCells #[.int .u8 0] n) 5))=w1 at *
 refine HWH.out.mono ?_
 rintro e w2 hg2
 obtain⟨g,c,rfl,b2,hall⟩:=zn0 hg2
 have ha2:=hall w.heap.size (by omega)
 have hwl:=HWL.out
 have hcap:=ha2.cap
 have SL:=fun W=>zq (ygu g (zam bs d.x.ext).length c a W (by omega) (by omega))
 have hbr:=yio ha2.br a c hcap
 have hrow2:Row8 w2 (w.heap.size+1) 5 (List.replicate n 0):=Row8.of_block ((b2.block _ HROW.out.lt_).trans HROW.out.block)
 obtain⟨w3,c1,c2,c3⟩:=zoa n ((zam bs d.x.ext).length-a) (c-a) hrow2 (by simp) hbr (by simp)
 have e:((zam bs d.x.ext).drop a).take n++(List.replicate n (0:UInt8)).drop ((zam bs d.x.ext).length-a)=((zam bs d.x.ext).drop a).take n:=by
  rw[List.drop_of_length_le (show(List.replicate n (0:UInt8)).length≤(zam bs d.x.ext).length-a by rw[List.length_replicate];omega),List.append_nil]
 rw[e] at c2
 have hlen:(((zam bs d.x.ext).drop a).take n).length=n:=by rw[List.length_take,List.length_drop];omega
 have HG:Hid (GivesN w (((zam bs d.x.ext).drop a).take n) (.returned (.slice (some ⟨w.heap.size+1,0,none⟩) n n)) w3):=by
  refine znz hlen (Nat.le_refl _) (by omega) c2 ?_
  exact(HB1.out.trans (b2.mono HB1.out.size)).trans ((Keeps.grown (fun k=>k=w.heap.size+1) c3 (fun k e=>by cases e;rfl)).toBelow _ (by have:=HB1.out.size;have:=b2.size;omega) (fun k hk=>by omega))
 have hLa:a≤(zam bs d.x.ext).length:=by omega
 have hLc:(zam bs d.x.ext).length≤c:=hcap
 clear hg2 hall ha2 hwl hcap hbr hrow2 c2 c3 e hlen HWL HWH HROW HBX HB1 b2 SL
 by_cases hca:c=a
 ·subst hca
  rw[zp rfl,Nat.sub_self,show(zam bs d.x.ext).length-c=0 by omega] at c1
  have CP:=zq c1
  clear c1
  go_wp2_with (first
   | ((with_reducible refine zd5 (d:=some 18) ?_);refine zcg rfl (.tmp 12) (.tmp 17) 31 31 rfl _ CP.out ?_)
   | fail)
  go_ret
  exact HG.out
 ·rw[zn hca] at c1
  have CP:=zq c1
  clear c1
  go_wp2_with (first
   | ((with_reducible refine zd5 (d:=some 18) ?_);refine zcg rfl (.tmp 12) (.tmp 17) 31 31 rfl _ CP.out ?_)
   | fail)
  go_ret
  exact HG.out
end Fs
namespace Fs
open Go.RowKit Ex Ino Mm
theorem zz1 {l:List ND} {q:Nat} {v:Value} (h:(ncs l)[q]?=some v):∃ d,l[q / 3]?=some d∧(ncl d)[q % 3]?=some v:=by
 have hq:=(List.getElem?_eq_some_iff.1 h).1
 rw[zso] at hq
 have hi:q / 3<l.length:=by omega
 have h3:q % 3<(ncl l[q / 3]).length:=by rw[zd3];omega
 have:=zut l (q / 3) l[q / 3] (List.getElem?_eq_getElem hi) (q % 3) _ (List.getElem?_eq_getElem h3)
 rw[show q / 3*3+q % 3=q by omega,h] at this
 exact⟨_,List.getElem?_eq_getElem hi,by rw[List.getElem?_eq_getElem h3];exact this.symm⟩
theorem yhw {bs:List UInt8} {l:List ND} (hb:bs.length=2048){o:Nat} {x y:Int} (h1:(gcl bs l)[o]?=some (.int .i64 x))(h2:(gcl bs l)[o+1]?=some (.int .i64 y)):False:=by
 unfold gcl at h1 h2
 by_cases ho:o<2048
 ·rw[List.getElem?_append_left (by rw[List.length_map,hb];exact ho),List.getElem?_map,Option.map_eq_some_iff] at h1
  obtain⟨u,_,hu⟩:=h1
  cases hu
 ·obtain⟨q,rfl⟩:∃ q,o=2048+q:=⟨o-2048,by omega⟩
  rw[List.getElem?_append_right (by rw[List.length_map,hb];omega),List.length_map,hb] at h1 h2
  rw[Nat.add_sub_cancel_left] at h1
  rw[Nat.add_assoc,Nat.add_sub_cancel_left] at h2
  obtain⟨d,hd,hv⟩:=zz1 h1
  obtain⟨d2,hd2,hv2⟩:=zz1 h2
  have h3:q % 3<3:=Nat.mod_lt _ (by omega)
  by_cases e0:q % 3=0
  ·rw[e0] at hv;simp[ncl] at hv
  by_cases e1:q % 3=1
  ·rw[show(q+1) % 3=2 by omega] at hv2
   simp[ncl] at hv2
  ·rw[show q % 3=2 by omega] at hv
   simp[ncl] at hv
theorem zok {w:World} {b:Nat} {C:Array Value} {t:TypeId} {fr:Nat × Nat} {B:Nat} {A:Option Addr} {xs:List EX} (hb:w.heap[b]?=some (.cells C t fr))(hno:∀ o x y,C[o]?=some (.int .i64 x)→C[o+1]?=some (.int .i64 y)→False)(hx:XR w B A xs):xs≠[]→∀ ad,A=some ad→ad.block≠b:=by
 intro hn ad e hr
 obtain⟨ad',e',_,hc⟩:=hx.ar hn
 rw[e] at e'
 cases e'
 obtain⟨x,t,rfl⟩:=List.exists_cons_of_ne_nil hn
 have c0:=hc 0 x rfl 0 _ rfl
 have c1:=hc 0 x rfl 1 _ rfl
 obtain⟨b',o,sp⟩:=ad
 simp only at hr
 subst hr
 have key:∀ (n:Nat) (v:Value),w.cell? (((⟨b',o,sp⟩:Addr).add (0*2)).add n)=some v→C[o+n]?=some v:=fun n v hv=>by
  unfold World.cell? at hv
  rw[zan,zan,hb] at hv
  simp only at hv
  split at hv
  ·cases hv
  ·rename_i hs
   have he:(((⟨b',o,sp⟩:Addr).add (0*2)).add n).off=o+n:=by
    clear hv
    unfold Addr.add at hs ⊢
    by_cases hn0:n=0
    ·subst hn0
     simp
    ·simp[hn0]
   rw[he] at hv
   exact hv
 exact hno o _ _ (key 0 _ c0) (key 1 _ c1)
theorem ycx {w:World} {r B:Nat} {bs:List UInt8} {l:List ND} {A:Option Addr} {xs:List EX} (h:RegAt w r bs l)(hx:XR w B A xs):xs≠[]→∀ ad,A=some ad→ad.block≠r:=
 zok h.hd (fun o x y h1 h2=>yhw h.bl (by simpa using h1) (by simpa using h2)) hx
theorem zoj {w:World} {b B:Nat} {d:ND} {A:Option Addr} {xs:List EX} (h:BoxN w b d)(hx:XR w B A xs):xs≠[]→∀ ad,A=some ad→ad.block≠b:=
 zok h (fun o x y h1 h2=>by
  match o with
  | 0=>simp[ncl] at h1
  | 1=>simp[ncl] at h2
  | 2=>simp[ncl] at h1
  | o+3=>simp[ncl] at h1) hx
theorem zzy {w:World} {r:Nat} {bs:List UInt8} {l:List ND} (h:RegAt w r bs l){d:ND} (hd:InOk w d.x d.A):NdOk w r d:=⟨hd,ycx h hd.xr⟩
def zrx (w:World) (l:List EX) (u m:Nat) (e:Ending) (w':World):Prop:=∃ R cap,e=.returned (.tuple #[.slice R (zd8 l u m).length cap,.int .i64 (zh1 l u m)])∧XR w' w'.heap.size R (zd8 l u m)∧Below w.heap.size w w'
theorem zxn {w:World} (A:Option Addr)(l:List EX)(c u m:Nat)(h:XR w w.heap.size A l)(hl:l.length≤100)(hu:u<4294967296)(hm:m≤1000)(hT:Tab w):
  Calls Tryz.prog 144 #[.slice A l.length c,.int .u32 (u:Int),.int .i64 (m:Int)] w (zrx w l u m):=by
 have htot:=zgv A l c w h hl
 have hN:=(za3 l).len
 have HTOT:=zq htot
 by_cases hlt:(za4 l).length<m
 ·have hg:=fun W (hW:Below w.heap.size w W)=>yet A l c u ((m:Int)-((za4 l).length:Nat)) W ((h.below hW).more hW.size) hl hu (by omega) (hT.below hW hT.pos)
  have HG:=zq hg
  have hF:zd8 l u m=(if (zcw l u ((m:Int)-(za4 l).length)).2.2=0 then (zcw l u ((m:Int)-(za4 l).length)).1 else [])∧zh1 l u m=(if (zcw l u ((m:Int)-(za4 l).length)).2.2=0 then 0 else 125):=by
   unfold zd8 zh1
   rw[zp hlt,zp hlt]
   exact⟨rfl,rfl⟩
  unfold zrx
  rw[hF.1,hF.2]
  generalize hG0:zcw l u ((m:Int)-((za4 l).length:Nat))=G at *
  have hG0:=zq hG0
  clear htot hF h hT hG0
  generalize (za4 l).length=N at *
  have W1:IntKind.i64.wrap ((m:Int)-(N:Int))=(m:Int)-(N:Int):=by rw[IntKind.wrap_i64];omega
  by_cases h0:G.2.2=0
  ·rw[zp h0,zp h0]
   have H0:=zq h0
   clear h0 hg
   go_enter Tryz.func144,Tryz.ntmps144
   go_wp2_with fail
   refine HTOT.out.mono ?_
   rintro e w2 ⟨rfl,b2⟩
   have hgg:=HG.out w2 b2
   have HB:=zq b2
   clear b2 HTOT HG
   go_wp2_with fail
   refine hgg.mono ?_
   rintro e w3 ⟨R,cap,rfl,hx,b3⟩
   have HX:=zq hx
   have HB3:=zq (HB.out.trans (b3.mono HB.out.size))
   rw[H0.out]
   clear hx b3 HB hgg
   go_wp2_with fail
   go_ret2
   exact⟨R,cap,rfl,HX.out,HB3.out⟩
  ·rw[zn h0,zn h0]
   have e0:(G.2.2 != 0)=true:=by simpa using h0
   clear h0 hg
   go_enter Tryz.func144,Tryz.ntmps144
   go_wp2_with fail
   refine HTOT.out.mono ?_
   rintro e w2 ⟨rfl,b2⟩
   have hgg:=HG.out w2 b2
   have HB:=zq b2
   clear b2 HTOT HG
   go_wp2_with fail
   refine hgg.mono ?_
   rintro e w3 ⟨R,cap,rfl,hx,b3⟩
   have HB3:=zq (HB.out.trans (b3.mono HB.out.size))
   clear hx b3 HB hgg
   go_wp2_with fail
   go_ret2
   exact⟨none,0,rfl,XR.nil,HB3.out⟩
 ·have hg:=fun W (hW:Below w.heap.size w W)=>zwc A l c u (m:Int) W ((h.below hW).more hW.size) hl hu
  have HG:=zq hg
  have hF:zd8 l u m=(zbm l u m).1∧zh1 l u m=(zbm l u m).2.2:=by
   unfold zd8 zh1
   rw[zn hlt,zn hlt]
   exact⟨rfl,rfl⟩
  unfold zrx
  rw[hF.1,hF.2]
  generalize zbm l u (m:Int)=G at *
  clear htot hF h hT hg
  generalize (za4 l).length=N at *
  go_enter Tryz.func144,Tryz.ntmps144
  go_wp2_with fail
  refine HTOT.out.mono ?_
  rintro e w2 ⟨rfl,b2⟩
  have hgg:=HG.out w2 b2
  have HB:=zq b2
  clear b2 HTOT HG
  go_wp2_with fail
  refine hgg.mono ?_
  rintro e w3 ⟨R,cap,rfl,hx,b3⟩
  have HX:=zq hx
  have HB3:=zq (HB.out.trans (b3.mono HB.out.size))
  clear hx b3 HB hgg
  go_wp2_with fail
  go_ret2
  exact⟨R,cap,rfl,HX.out,HB3.out⟩
end Fs
namespace Fs
open Go.RowKit Ex Ino Mm
theorem zks {P:Program} {w w':World} {ops:Array Oper} {rest:List Oper} {o:Oper} {a:Act} {Q:Exit→Act→World→Prop} (hgd:o.guard=none)(s:Operand)(t:TypeId)
  (ho:o.op=.call { callee:=.builtin .clear,args:=#[s],argTypes:=#[t] }) (v:Value)
  (hrun:(Builtin.clear_ #[t] o.type #[a.eval s]).run P w=.ok v w') (h:wpList P ops Q rest (a.put o.dst v) w'):wpList P ops Q (o::rest) a w:=
 wpList_plain hgd fun _ hK=>by
  unfold Oper.wp execOp
  simp only[ho,resolve,invoke,builtin,Sem.run_bind,Sem.run_pure,Result.andThen_ok,List.map_toArray,List.map_cons,List.map_nil,hrun]
  exact hK _ _ h
theorem zx0 {w:World} {g:Nat} {t:TypeId} {zs:List UInt8} (N s c:Nat)(ty:TypeId)(hr:Row8 w g t zs)(hz:zs.length=N)(hs:s≤N):
  ∃ w',(Builtin.clear_ #[31] ty #[.slice (some (if N=s then ⟨g,0,none⟩ else ⟨g,s,none⟩)) (N-s) c]).run Tryz.prog w=.ok (.tuple #[]) w'∧Row8 w' g t (zs.take s++List.replicate (N-s) 0)∧Keeps (·=g) w w':=by
 by_cases e:N=s
 ·rw[zp e,show N-s=0 by omega]
  refine⟨w,?_,?_,Keeps.refl _ _⟩
  ·simp[Builtin.clear_,run_underlying Tryz.underlying31]
  ·rw[List.take_of_length_le (by omega)]
   simpa using hr
 ·rw[zn e]
  have hb:=hr.block
  obtain⟨k1,k2⟩:=zej (ys:=List.replicate (N-s) 0) s hb (by rw[List.length_replicate];omega)
  have hrun:=Lib.run_clear_slice (P:=Tryz.prog) w 31 5 ty (.int .u8 0) Tryz.underlying31 (fun w=>by kernel_rfl) rfl rfl g s (N-s) c (by omega) (fun j hj=>(zgb hb s (N-s) (by omega) j hj).1) (fun j hj=>(zgb hb s (N-s) (by omega) j hj).2)
  refine⟨_,hrun,?_,?_⟩
  ·have:(List.replicate (N-s) (0:UInt8)).map B8=List.replicate (N-s) (.int .u8 0):=by rw[List.map_replicate];rfl
   rw[this] at k1
   have h2:=Row8.of_block k1
   have e2:splice zs s (List.replicate (N-s) 0)=zs.take s++List.replicate (N-s) 0:=by
    unfold splice
    rw[List.length_replicate,List.drop_of_length_le (by omega),List.append_nil]
   rw[e2] at h2
   exact h2
  ·have:(List.replicate (N-s) (0:UInt8)).map B8=List.replicate (N-s) (.int .u8 0):=by rw[List.map_replicate];rfl
   rw[this] at k2
   exact k2
theorem yh4 (xs:List UInt8)(k s:Nat)(hs:s≤k):((xs.take k++(List.replicate k (0:UInt8)).drop xs.length).take s)++List.replicate (k-s) 0=zj8 xs k s:=by
 unfold zj8
 rw[Nat.min_eq_right hs]
 by_cases h:s≤xs.length
 ·have e1:(xs.take k++(List.replicate k (0:UInt8)).drop xs.length).take s=xs.take s:=by
   rw[List.take_append_of_le_length (by rw[List.length_take];omega),List.take_take,Nat.min_eq_left hs]
  rw[e1,List.length_take,Nat.min_eq_left h]
 ·have e1:xs.take k=xs:=List.take_of_length_le (by omega)
  have e2:xs.take s=xs:=List.take_of_length_le (by omega)
  rw[e1,e2,List.drop_replicate,List.take_append,List.take_of_length_le (by omega),List.take_replicate,List.append_assoc,List.replicate_append_replicate]
  congr 2
  omega
theorem BoxN.put {W:World} {b:Nat} {d:ND} (h:BoxN W b d)(R:Option Addr)(X:List EX)(cap:Nat):BoxN (W.setCell ⟨b,2,none⟩ (.slice R X.length cap)) b ⟨⟨d.x.name,d.x.size,X⟩,R,cap⟩:=by
 unfold BoxN
 rw[heap_setCell_same W b 2 _ _ _ h]
 rfl
theorem BoxN.putSize {W:World} {b:Nat} {d:ND} (h:BoxN W b d)(s:Int):BoxN (W.setCell ⟨b,1,none⟩ (.int .i64 s)) b ⟨⟨d.x.name,s,d.x.ext⟩,d.A,d.c⟩:=by
 unfold BoxN
 rw[heap_setCell_same W b 1 _ _ _ h]
 rfl
theorem BoxN.fz {W:World} {b:Nat} {d:ND} (h:BoxN W b d)(k:Nat):W.frozen? ⟨b,k,none⟩=false:=frozen_of_row _ _ _ _ _ h
theorem BoxN.load {W:World} {b:Nat} {d:ND} (h:BoxN W b d):(Instr.loadAt 113 (.pointer (some ⟨b,0,none⟩))).run Tryz.prog W=.ok (Ino.ag d.x d.A d.c) W:=yaa (zqo h)
def ze2 (w:World) (r:Nat) (bs:List UInt8) (l:List ND) (n size:Int) (e:Ending) (w':World):Prop:=zev w r (.int .i64 (zag ⟨bs,zas l⟩ n size).1) (zag ⟨bs,zas l⟩ n size).2 e w'
theorem zix {w w':World} {r:Nat} {bs:List UInt8} {l:List ND} {n size E:Int} (h:RegAt w r bs l)(he:zch ⟨bs,zas l⟩ n size=E)(h0:E≠0)(hb:Below w.heap.size w w'):ze2 w r bs l n size (.returned (.int .i64 E)) w':=by
 unfold ze2 zag
 rw[he,zn h0]
 exact zdp h hb _
theorem zy9 {w:World} {r:Nat} {bs:List UInt8} {l:List ND} (h:RegAt w r bs l)(n size:Int)(h0:za1 (zas l) n≠0∨size<0∨1472<size):
  Calls Tryz.prog 118 #[.pointer (some ⟨r,0,none⟩),.int .i64 n,.int .i64 size] w (ze2 w r bs l n size):=by
 have hnode:=zgi h n
 have HN:=zq hnode
 have he:zch ⟨bs,zas l⟩ n size=if za1 (zas l) n≠0 then za1 (zas l) n else if size<0 then 1 else if 1472<size then 125 else zh1 (za0 (zas l) n).ext (zao (zas l)) (zbq size).toNat:=rfl
 by_cases e0:za1 (zas l) n≠0
 ·rw[zp e0] at he
  have HG:Hid (∀ w',Below w.heap.size w w'→ze2 w r bs l n size (.returned (.int .i64 (za1 (zas l) n))) w'):=fun w' hb=>zix h he e0 hb
  have e1:(za1 (zas l) n != 0)=true:=by simpa using e0
  unfold zby at HN
  clear hnode he h h0 e0
  generalize za1 (zas l) n=E at *
  generalize zcu l n=d at *
  generalize ze2 w r bs l n size=G at *
  go_enter Tryz.func118,Tryz.ntmps118
  go_wp2_with fail
  refine HN.out.mono ?_
  rintro e w1 ⟨rfl,b1⟩
  have HG1:=zq (HG.out _ (b1.alloc b1.size (.cells #[St d.x.name,.int .i64 d.x.size,.slice d.A d.x.ext.length d.c] 113)))
  clear b1 HG HN
  go_wp2_with fail
  exact HG1.out
 ·rw[zn e0] at he
  have e0:za1 (zas l) n=0:=by simpa using e0
  unfold zby at HN
  rw[e0] at HN
  by_cases h1:size<0
  ·rw[zp h1] at he
   have HG:Hid (∀ w',Below w.heap.size w w'→ze2 w r bs l n size (.returned (.int .i64 1)) w'):=fun w' hb=>zix h he (by decide) hb
   clear hnode he h h0 e0
   generalize zcu l n=d at *
   generalize ze2 w r bs l n size=G at *
   go_enter Tryz.func118,Tryz.ntmps118
   go_wp2_with fail
   refine HN.out.mono ?_
   rintro e w1 ⟨rfl,b1⟩
   have HG1:=zq (HG.out _ (b1.alloc b1.size (.cells #[St d.x.name,.int .i64 d.x.size,.slice d.A d.x.ext.length d.c] 113)))
   clear b1 HG HN
   go_wp2_with fail
   exact HG1.out
  ·rw[zn h1] at he
   have h2:1472<size:=by rcases h0 with h0 | h0 | h0<;>first | exact absurd e0 h0 | omega
   rw[zp h2] at he
   have HG:Hid (∀ w',Below w.heap.size w w'→ze2 w r bs l n size (.returned (.int .i64 125)) w'):=fun w' hb=>zix h he (by decide) hb
   clear hnode he h h0 e0
   generalize zcu l n=d at *
   generalize ze2 w r bs l n size=G at *
   go_enter Tryz.func118,Tryz.ntmps118
   go_wp2_with fail
   refine HN.out.mono ?_
   rintro e w1 ⟨rfl,b1⟩
   have HG1:=zq (HG.out _ (b1.alloc b1.size (.cells #[St d.x.name,.int .i64 d.x.size,.slice d.A d.x.ext.length d.c] 113)))
   clear b1 HG HN
   go_wp2_with fail
   exact HG1.out
end Fs
namespace Fs
open Go.RowKit Ex Ino Mm
theorem zwo (bs:List UInt8)(l:List ND)(n size:Int)(X:List EX)(d:ND)(hx:za0 (zas l) n=d.x)(hX:zd8 d.x.ext (zao (zas l)) (zbq size).toNat=X):
  zb5 ⟨bs,zas l⟩ n size=⟨zbo bs X (zj8 (zam bs d.x.ext) ((zbq size).toNat*64) size.toNat),(zas l).set n.toNat ⟨d.x.name,size,X⟩⟩:=by
 unfold zb5
 simp only[hx,hX]
theorem zwm {w:World} {r:Nat} {bs:List UInt8} {l:List ND} (h:RegAt w r bs l)(hg:RGood ⟨bs,zas l⟩)(hT:Tab w)(n:Int)(s:Nat)(h0:za1 (zas l) n=0)(hs:s≤1472):
  Calls Tryz.prog 118 #[.pointer (some ⟨r,0,none⟩),.int .i64 n,.int .i64 (s:Int)] w (ze2 w r bs l n (s:Int)):=by
 have hnode:=zgi h n
 unfold zby at hnode
 rw[h0] at hnode
 have HN:=zq hnode
 obtain⟨⟨hn0,hn8⟩,hf⟩:=nodeE_zero.1 h0
 obtain⟨i,rfl⟩:=Int.eq_ofNat_of_zero_le hn0
 rw[Int.toNat_natCast] at hf
 have hi8:i<8:=by omega
 have hdx:=zj2 l (i:Int)
 have hdk:=zk6 h (i:Int)
 have hxe:za0 (zas l) (i:Int)=at' (zas l) i:=by unfold za0;rw[zp h0,Int.toNat_natCast]
 have hbits:=hg.bits (show i<8 from hi8) hf
 have hnb:=zfl (show 0≤(s:Int) by omega) (show(s:Int)≤1472 by omega)
 obtain⟨K,hK⟩:∃ K:Nat,zbq (s:Int)=(K:Int):=⟨(zbq (s:Int)).toNat,by omega⟩
 have hUlt:=zdi (zas l)
 have hre:zch ⟨bs,zas l⟩ (i:Int) (s:Int)=zh1 (zcu l (i:Int)).x.ext (zao (zas l)) K:=by
  unfold zch
  rw[zn (by simp[h0]),zn (by omega),zn (by omega),hdx,hK,Int.toNat_natCast]
 have hfz:zh1 (zcu l (i:Int)).x.ext (zao (zas l)) K=0∨zh1 (zcu l (i:Int)).x.ext (zao (zas l)) K=125:=by
  rw[hdx,hxe]
  exact zve hbits.1 hbits.2 K
 have hfy:zh1 (zcu l (i:Int)).x.ext (zao (zas l)) K=0→(za4 (zd8 (zcu l (i:Int)).x.ext (zao (zas l)) K)).length=K∧(zd8 (zcu l (i:Int)).x.ext (zao (zas l)) K).length≤100:=fun he=>by
  rw[hdx,hxe] at he ⊢
  obtain⟨f1,f2,_⟩:=zih hbits.1 hbits.2 he
  exact⟨by rw[zar f1,f2],Nat.le_trans (ok_len f1) (by decide)⟩
 have hneed:=fun W=>zur (s:Int) W (by omega)
 rw[hK] at hneed
 have hall:(zam bs (zcu l (i:Int)).x.ext).length≤1472:=by
  have:=zdh h.bl (zcu l (i:Int)).x.ext
  have:=(za3 (zcu l (i:Int)).x.ext).len
  omega
 have hRG:=zwo bs l (i:Int) (s:Int) _ (zcu l (i:Int)) hdx.symm rfl
 rw[hK,Int.toNat_natCast,Int.toNat_natCast,Int.toNat_natCast] at hRG
 have HREG:=zq h
 have HDK:=zq hdk
 have HT:=zq hT
 have HRE:=zq hre
 have HFY:=zq hfy
 have HRG:=zq hRG
 have HNEED:=zq hneed
 have HNB:=zq hnb
 have HKK:=zq hK
 have HUL:=zq hUlt
 have HALL:=zq hall
 have HFZ:=zq hfz
 rw[hK] at hnb
 have hK23:K≤23:=by omega
 have hsK:s≤K*64:=by omega
 have hmk:∀ w:World,(Instr.makeSlice 31 (.int .i64 ((K:Int)*64)) (.int .i64 ((K:Int)*64))).run Tryz.prog w=.ok (.slice (some ⟨w.heap.size,0,none⟩) (K*64) (K*64)) (w.alloc (.cells (madeCells #[.int .u8 0] (K*64)) 5)):=by
  have:=zfq (K*64) (by omega)
  rwa [Int.natCast_mul] at this
 clear hfz hnode h hdk hT hre hfy hRG hneed hnb hUlt hg hbits hxe hdx hf h0 hn0 hn8 hall hK HNB HKK
 generalize zcu l (i:Int)=d at *
 generalize hU:zao (zas l)=U at *
 have HU:=zq hU
 clear hU
 generalize hFE:zh1 d.x.ext U K=FE at *
 have HFE:=zq hFE
 clear hFE
 go_enter Tryz.func118,Tryz.ntmps118
 go_wp2_with fail
 refine HN.out.mono ?_
 rintro e w1 ⟨rfl,b1⟩
 have hb2:=b1.alloc b1.size (.cells #[St d.x.name,.int .i64 d.x.size,.slice d.A d.x.ext.length d.c] 113)
 have hbx2:BoxN (w1.alloc (.cells #[St d.x.name,.int .i64 d.x.size,.slice d.A d.x.ext.length d.c] 113)) w1.heap.size d:=heap_alloc_new w1 _
 have hsz2:(w1.alloc (.cells #[St d.x.name,.int .i64 d.x.size,.slice d.A d.x.ext.length d.c] 113)).heap.size=w1.heap.size+1:=World.size_alloc _ _
 have hbxr:r<w1.heap.size:=Nat.lt_of_lt_of_le HREG.out.lt b1.size
 have hbw:w.heap.size≤w1.heap.size:=b1.size
 have HB2:=zq hb2
 have HBX2:=zq hbx2
 have HSZ2:=zq hsz2
 clear b1 hb2 hbx2 hsz2 HN
 go_wp2_with fail
 generalize w1.alloc (.cells #[St d.x.name,.int .i64 d.x.size,.slice d.A d.x.ext.length d.c] 113)=w2 at *
 generalize w1.heap.size=bx at *
 refine(HNEED.out w2).mono ?_
 rintro e w2' ⟨rfl,rfl⟩
 have hb3:=HB2.out.alloc HB2.out.size (.cells (madeCells #[.int .u8 0] (K*64)) 5)
 have hk23:Below w2'.heap.size w2' (w2'.alloc (.cells (madeCells #[.int .u8 0] (K*64)) 5)):=(Below.refl _ _).alloc (Nat.le_refl _) _
 have hrow3:=Row8.made w2' (K*64) 5
 have HB3:=zq hb3
 have HBX3:=zq (HBX2.out.below hk23)
 have HROW3:=zq hrow3
 have HSZ3:Hid ((w2'.alloc (.cells (madeCells #[.int .u8 0] (K*64)) 5)).heap.size=bx+2):=by show _=_;rw[World.size_alloc,HSZ2.out]
 have hga:=HSZ2.out
 obtain⟨c0,c1,c2⟩:=HBX2.out.c
 rw[hga] at HROW3
 clear hb3 hk23 hrow3 HB2 HBX2
 go_wp2_with fail
 clear hga HSZ2 hmk c0 c1 c2
 generalize w2'.alloc (.cells (madeCells #[.int .u8 0] (K*64)) 5)=w3 at *
 have hr3:=HREG.out.below HB3.out
 have hd3:=HDK.out.keeps (zav r HB3.out) HDK.out.no
 have HWH:=zq (zp5 hr3 d hd3.ok)
 clear hr3 hd3
 refine HWH.out.mono ?_
 rintro e w4 hg4
 obtain⟨g,c,rfl,b4,hall4⟩:=zn0 hg4
 have hs3:=HSZ3.out
 have ha4:=hall4 r (by omega)
 have hrow4:Row8 w4 (bx+1) 5 (List.replicate (K*64) 0):=Row8.of_block ((b4.block _ HROW3.out.lt_).trans HROW3.out.block)
 obtain⟨w5,p1,p2,p3⟩:=zoa (K*64) (zam bs d.x.ext).length c hrow4 (by simp) ha4.br rfl
 have k45:Keeps (·=bx+1) w4 w5:=Keeps.grown _ p3 (fun k e=>by cases e;rfl)
 obtain⟨w6,q1,q2,q3⟩:=zx0 (K*64) s (K*64-s) 31 p2 (by rw[List.length_append,List.length_take,List.length_drop,List.length_replicate];omega) hsK
 rw[yh4 _ _ _ hsK] at q2
 have k36:Keeps (·=bx+1) w3 w6:=((Keeps.below b4 _ fun i h1 h2=>by omega).trans k45).trans q3
 have b6:Below w.heap.size w w6:=HB3.out.trans (k36.toBelow _ HB3.out.size (fun k hk=>by have:=hbxr;have:=HREG.out.lt;have:=HB3.out.size;omega))
 have CP:=zq p1
 have CL:=zq q1
 have HROW6:=zq q2
 have HB6:=zq b6
 have HBX6:Hid (BoxN w6 bx d):=(k36.block _ HBX3.out.lt (by omega)).trans HBX3.out
 have HS6:Hid (bx+2≤w6.heap.size):=by have:=k36.size;show _≤_;omega
 clear hg4 hall4 ha4 hrow4 p1 p2 p3 k45 q1 q2 q3 k36 b6 b4 HROW3 HSZ3 hs3 HWH HBX3
 have SL:=fun W=>zq (ygu (bx+1) (K*64) (K*64) s W hsK (Nat.le_refl _))
 generalize (if K*64=s then (⟨bx+1,0,none⟩:Addr) else ⟨bx+1,s,none⟩)=AD at *
 go_wp2_with (first
  | ((with_reducible refine zd5 (d:=some 34) ?_);refine zcg rfl (.tmp 30) (.tmp 33) 31 31 rfl _ CP.out ?_)
  | ((with_reducible refine zd5 (d:=some 37) ?_);refine zaj rfl _ (zvk 31 (.tmp 35) (.tmp 36) rfl _ _ _ rfl rfl (fun W=>(SL W).out) _) ?_)
  | ((with_reducible refine zd5 (op:=.call { callee:=.builtin .clear,args:=#[.tmp 37],argTypes:=#[31] }) ?_);refine zks rfl (.tmp 37) 31 rfl _ CL.out ?_)
  | fail)
 clear CP CL SL
 have hc:=fun W (hW:Below w6.heap.size w6 W)=>(show W.cell? ⟨bx,2,none⟩=some (.slice d.A d.x.ext.length d.c)∧W.frozen? ⟨bx,2,none⟩=false from⟨(HBX6.out.below hW).c.2.2,(HBX6.out.below hW).fz 2⟩)
 have hus:=fun W (hW:Below w6.heap.size w6 W)=>(show Calls Tryz.prog 145 #[.pointer (some ⟨r,0,none⟩)] W (zcx W (.int .u32 (U:Int))) from HU.out ▸ zty (HREG.out.below (HB6.out.trans (hW.mono HB6.out.size))))
 have hft:=fun W (hW:Below w6.heap.size w6 W)=>(show Calls Tryz.prog 144 #[.slice d.A d.x.ext.length d.c,.int .u32 (U:Int),.int .i64 (K:Int)] W (zrx W d.x.ext U K) from
  have hb:=HB6.out.trans (hW.mono HB6.out.size)
  zxn d.A d.x.ext d.c U K ((HDK.out.keeps (zav r hb) HDK.out.no).ok.xr) HDK.out.ok.few HUL.out (by omega) (HT.out.below hb HT.out.pos))
 unfold zrx at hft
 rw[HFE.out] at hft
 have HC:=zq hc
 have HUS:=zq hus
 have HFT:=zq hft
 have hmix:Tryz.prog.follows .mixedOrders=true:=by kernel_rfl
 obtain⟨c6,f6⟩:=hc w6 (Below.refl _ _)
 clear hc hus hft
 go_region_with (first
  | (refine(HUS.out _ ((Below.refl _ _).drew)).mono ?_;rintro e W4 ⟨rfl,b4⟩;obtain⟨c4,f4⟩:=HC.out W4 (((Below.refl _ _).drew).trans b4))
  | (refine(HNEED.out _).mono ?_;rintro e W5 ⟨rfl,rfl⟩)
  | (refine(HFT.out _ (((Below.refl _ _).drew).trans b4)).mono ?_;rintro e W6 ⟨R,cap,rfl,hx6,b6⟩;obtain⟨c7,f7⟩:=HC.out W6 ((((Below.refl _ _).drew).trans b4).trans (Below.mono b6 b4.size))))
 all_goals
  have b46:Below w6.heap.size w6 W6:=(((Below.refl _ _).drew).trans b4).trans (Below.mono b6 b4.size)
  have hw6:=HB6.out.size
  have hbox:=HBX6.out.below b46
  have hbox7:=hbox.put R (zd8 d.x.ext U K) cap
  have b7:Below w.heap.size w (W6.setCell ⟨bx,2,none⟩ (.slice R (zd8 d.x.ext U K).length cap)):=(HB6.out.trans (b46.mono hw6)).setCell (p:=⟨bx,2,none⟩) hbw _
  have hx7:XR (W6.setCell ⟨bx,2,none⟩ (.slice R (zd8 d.x.ext U K).length cap)) (W6.setCell ⟨bx,2,none⟩ (.slice R (zd8 d.x.ext U K).length cap)).heap.size R (zd8 d.x.ext U K):=XR.keeps hx6 (Keeps.setCell (·=bx) _ _ _ rfl) (fun hn ad e=>zoj hbox hx6 hn ad e)
  have hrow7:Row8 (W6.setCell ⟨bx,2,none⟩ (.slice R (zd8 d.x.ext U K).length cap)) (bx+1) 5 (zj8 (zam bs d.x.ext) (K*64) s):=Row8.of_block ((Below.heap_setCell _ _ _ _ (by show bx+1≠bx;omega)).trans ((b46.block _ HROW6.out.lt_).trans HROW6.out.block))
  have HBX7:=zq hbox7
  have HB7:=zq b7
  have HX7:=zq hx7
  have HROW7:=zq hrow7
  have c8:=hbox7.c.2.1
  have f8:=hbox7.fz 1
  clear b4 b46 b6 hx6 c4 f4 c7 f7 c6 f6 hbox hbox7 b7 hx7 hrow7 HC HUS HFT HBX6 HROW6 HB6 HS6 hw6
  generalize W6.setCell ⟨bx,2,none⟩ (.slice R (zd8 d.x.ext U K).length cap)=W7 at *
  rcases HFZ.out with hF | hF
  ·subst hF
   have hre:=HRE.out
   obtain⟨hlX,hXs⟩:=HFY.out rfl
   have HG:Hid (∀ w',RegAt w' r (zbo bs (zd8 d.x.ext U K) (zj8 (zam bs d.x.ext) (K*64) s)) (l.set i ⟨⟨d.x.name,(s:Int),zd8 d.x.ext U K⟩,R,cap⟩)→Keeps (·=r) w w'→ze2 w r bs l (i:Int) (s:Int) (.returned (.int .i64 0)) w'):=fun w' h1 h2=>by
    unfold ze2 zag
    rw[hre,zp rfl,HRG.out]
    exact⟨rfl,⟨_,zi5 _ _ _,h1⟩,h2⟩
   have hHL:(zj8 (zam bs d.x.ext) (K*64) s).length=K*64:=zho _ _ _
   have b8:Below w.heap.size w (W7.setCell ⟨bx,1,none⟩ (.int .i64 (s:Int))):=HB7.out.setCell (p:=⟨bx,1,none⟩) hbw _
   have hx8:=XR.keeps HX7.out (Keeps.setCell (·=bx) W7 ⟨bx,1,none⟩ (.int .i64 (s:Int)) rfl) (fun hn ad e=>zoj HBX7.out HX7.out hn ad e)
   have hbx8:=HBX7.out.putSize (s:Int)
   have hrow8:Row8 (W7.setCell ⟨bx,1,none⟩ (.int .i64 (s:Int))) (bx+1) 5 (zj8 (zam bs d.x.ext) (K*64) s):=Row8.of_block ((Below.heap_setCell _ _ _ _ (by show bx+1≠bx;omega)).trans HROW7.out.block)
   have HB8:=zq b8
   have HX8:=zq hx8
   have HBX8:=zq hbx8
   have HROW8:=zq hrow8
   have HHL:=zq hHL
   have HLX:=zq hlX
   have HXS:=zq hXs
   clear hre hlX hXs hHL b8 hx8 hbx8 hrow8 HX7 HBX7 HROW7 HB7
   generalize ze2 w r bs l (i:Int) (s:Int)=G at *
   go_wp2_with fail
   clear c8 f8
   generalize W7.setCell ⟨bx,1,none⟩ (.int .i64 (s:Int))=W8 at *
   have hr9:=HREG.out.below (HB8.out.drew)
   have hbx9:BoxN W8.drew bx _:=HBX8.out
   have hx9:XR W8.drew W8.drew.heap.size R (zd8 d.x.ext U K):=HX8.out.keep fun _ _=>rfl
   have hok9:InOk W8.drew (⟨d.x.name,(s:Int),zd8 d.x.ext U K⟩:IN) R:=⟨hx9,HXS.out,HDK.out.ok.name,by show -9223372036854775808≤(s:Int)∧(s:Int)≤9223372036854775807;omega⟩
   have hnd9:NdOk W8.drew r ⟨⟨d.x.name,(s:Int),zd8 d.x.ext U K⟩,R,cap⟩:=zzy hr9 hok9
   obtain⟨p1,p2⟩:=hr9.putNode hi8 _ hnd9
   have LD:=zq hbx9.load
   have ST:=zq (zr3 (d:=⟨⟨d.x.name,(s:Int),zd8 d.x.ext U K⟩,R,cap⟩) (hr9.there (2048+i*3) 3 (by omega)))
   have HR9:=zq p1
   have HN9:=zq (hnd9.keeps p2 hnd9.no)
   have hne:bx≠r:=by omega
   have HBX9:Hid (BoxN (W8.drew.setCells r (2048+i*3) (ncl ⟨⟨d.x.name,(s:Int),zd8 d.x.ext U K⟩,R,cap⟩)) bx ⟨⟨d.x.name,(s:Int),zd8 d.x.ext U K⟩,R,cap⟩):=(p2.block _ hbx9.lt hne).trans hbx9
   have hrow9:Row8 (W8.drew.setCells r (2048+i*3) (ncl ⟨⟨d.x.name,(s:Int),zd8 d.x.ext U K⟩,R,cap⟩)) (bx+1) 5 (zj8 (zam bs d.x.ext) (K*64) s):=Row8.of_block ((p2.block _ (show bx+1<W8.drew.heap.size from HROW8.out.lt_) (by omega)).trans HROW8.out.block)
   have HA9:Hid (AllAt (W8.drew.setCells r (2048+i*3) (ncl ⟨⟨d.x.name,(s:Int),zd8 d.x.ext U K⟩,R,cap⟩)) r (bx+1) (K*64) (zj8 (zam bs d.x.ext) (K*64) s)):=⟨hrow9.br,by omega,by rw[HHL.out];exact Nat.le_refl _,hrow9.lt_⟩
   have HK9:=zq ((zav r HB8.out.drew).trans p2)
   have hi9:(i:Int)<8:=by omega
   have LD2:=zq HBX9.out.load
   have hsp:=znc HR9.out ⟨⟨d.x.name,(s:Int),zd8 d.x.ext U K⟩,R,cap⟩ HN9.out HA9.out (by rw[HLX.out,HHL.out];omega) (by rw[HHL.out];omega)
   rw[HHL.out] at hsp
   have HSP:=zq hsp
   clear hsp
   clear hr9 hbx9 hx9 hok9 hnd9 p1 p2 hne hrow9 HX8 HBX8 HROW8 HREG HB8
   refine wp_region_still_tail 6 (by kernel_rfl) (by kernel_rfl) ?_
   simp only[List.take_succ_cons,List.take_zero,List.drop_succ_cons,List.drop_zero]
   change wpStill _ _ W8.drew (fun a'=>wpList _ _ _ _ a' W8.drew) _ _
   generalize W8.drew=W9 at *
   still_step
   still_step
   refine zeq rfl 113 (.tmp 7) rfl _ _ rfl LD.out ?_
   still_step
   still_step
   still_step
   refine wpStill_nil ?_
   clear LD hi9
   go_wp2_with (first
    | ((with_reducible refine zd5 (op:=.store 113 (.tmp 59) (.tmp 56)) ?_);refine zaz rfl 113 _ _ rfl _ _ rfl rfl ST.out ?_)
    | ((with_reducible refine zd5 (op:=.load 113 (.tmp 7)) ?_);refine za9 rfl 113 _ rfl _ _ rfl LD2.out ?_)
    | fail)
   refine HSP.out.mono ?_
   rintro e W10 ⟨rfl,hr10,hk10⟩
   have HG10:=zq (HG.out _ hr10 (HK9.out.trans hk10))
   clear hr10 hk10 HG HSP HK9 HR9 HN9 HA9 HBX9 LD2 ST
   go_wp2_with fail
   exact HG10.out
  ·subst hF
   have hre:=HRE.out
   have HG:=zq (zix HREG.out hre (by decide) HB7.out)
   clear hre HX7 HBX7 HROW7 HREG HB7 c8 f8
   generalize ze2 w r bs l (i:Int) (s:Int)=G at *
   go_wp2_with fail
   exact HG.out
end Fs
namespace Fs
open Go.RowKit Ex Ino Mm
theorem znf {w:World} {r:Nat} {bs:List UInt8} {l:List ND} (h:RegAt w r bs l)(hg:RGood ⟨bs,zas l⟩)(hT:Tab w)(n size:Int):
  Calls Tryz.prog 118 #[.pointer (some ⟨r,0,none⟩),.int .i64 n,.int .i64 size] w (ze2 w r bs l n size):=by
 by_cases h0:za1 (zas l) n≠0∨size<0∨1472<size
 ·exact zy9 h n size h0
 ·obtain⟨s,rfl⟩:=Int.eq_ofNat_of_zero_le (show 0≤size by omega)
  exact zwm h hg hT n s (Classical.byContradiction fun e=>h0 (.inl e)) (by omega)
theorem zze {w:World} {r:Nat} {bs:List UInt8} {l:List ND} (h:RegAt w r bs l)(hg:RGood ⟨bs,zas l⟩)(hT:Tab w)(n a:Int)(k:Nat)(hk:k≤140737488355328)(ha:-9223372036854775808≤a∧a≤9223372036854775807):
  Calls Tryz.prog 101 #[.pointer (some ⟨r,0,none⟩),.int .i64 n,.int .i64 a,.int .i64 (k:Int)] w (zev w r (.int .i64 (zb6 ⟨bs,zas l⟩ n a k).1) (zb6 ⟨bs,zas l⟩ n a k).2):=by
 have hnode:=zgi h n
 unfold zby at hnode
 have HN:=zq hnode
 have hdx:=zj2 l n
 have hsz:(0≤(zcu l n).x.size)∧(zcu l n).x.size≤1472:=by
  rw[hdx]
  unfold za0
  split
  ·rename_i h0
   have:=(nodeE_zero.1 h0).1
   exact(hg.size (show n.toNat<8 by omega)).1
  ·exact⟨by decide,by decide⟩
 have hrs:=fun w1 (hb:Below w.heap.size w w1)=>znf (h.below hb) hg (hT.below hb hT.pos) n (a+k)
 unfold zb6
 simp only[← hdx]
 by_cases h0:za1 (zas l) n≠0
 ·rw[zp h0]
  have HG:Hid (∀ w',Below w.heap.size w w'→zev w r (.int .i64 (za1 (zas l) n)) ⟨bs,zas l⟩ (.returned (.int .i64 (za1 (zas l) n))) w'):=fun w' hb=>zdp h hb _
  have e1:(za1 (zas l) n != 0)=true:=by simpa using h0
  clear hnode h h0 hdx hrs hsz hg
  generalize zev w r _ _=G at *
  generalize za1 (zas l) n=E at *
  generalize zcu l n=d at *
  go_enter Tryz.func101,Tryz.ntmps101
  go_wp2_with fail
  refine HN.out.mono ?_
  rintro e w1 ⟨rfl,b1⟩
  have HG1:=zq (HG.out _ (b1.alloc b1.size (.cells #[St d.x.name,.int .i64 d.x.size,.slice d.A d.x.ext.length d.c] 113)))
  clear b1 HG HN
  go_wp2_with fail
  exact HG1.out
 ·rw[zn h0]
  have h0:za1 (zas l) n=0:=by simpa using h0
  rw[h0] at HN
  by_cases h1:a<0∨(zcu l n).x.size<a
  ·rw[zp h1]
   have HG:Hid (∀ w',Below w.heap.size w w'→zev w r (.int .i64 1) ⟨bs,zas l⟩ (.returned (.int .i64 1)) w'):=fun w' hb=>zdp h hb _
   clear hnode h h0 hdx hrs hg
   generalize zev w r _ _=G at *
   generalize zcu l n=d at *
   by_cases h2:a<0
   ·clear h1 hsz
    go_enter Tryz.func101,Tryz.ntmps101
    go_wp2_with fail
    refine HN.out.mono ?_
    rintro e w1 ⟨rfl,b1⟩
    have HG1:=zq (HG.out _ (b1.alloc b1.size (.cells #[St d.x.name,.int .i64 d.x.size,.slice d.A d.x.ext.length d.c] 113)))
    clear b1 HG HN
    go_wp2_with fail
    exact HG1.out
   ·have h3:d.x.size<a:=by omega
    clear h1 hsz
    go_enter Tryz.func101,Tryz.ntmps101
    go_wp2_with fail
    refine HN.out.mono ?_
    rintro e w1 ⟨rfl,b1⟩
    have HG1:=zq (HG.out _ (b1.alloc b1.size (.cells #[St d.x.name,.int .i64 d.x.size,.slice d.A d.x.ext.length d.c] 113)))
    clear b1 HG HN
    go_wp2_with fail
    exact HG1.out
  ·rw[zn h1]
   have g1:¬a<0:=by omega
   have g2:¬(zcu l n).x.size<a:=by omega
   by_cases h2:(zcu l n).x.size<a+k
   ·rw[zp h2]
    have HRS:Hid (∀ w1,Below w.heap.size w w1→Calls Tryz.prog 118 #[.pointer (some ⟨r,0,none⟩),.int .i64 n,.int .i64 (a+k)] w1 (fun e w'=>zev w r (.int .i64 (zag ⟨bs,zas l⟩ n (a+k)).1) (zag ⟨bs,zas l⟩ n (a+k)).2 e w')):=fun w1 hb =>
     (hrs w1 hb).mono fun e w' ⟨q1,q2,q3⟩=>⟨q1,q2,(zav r hb).trans q3⟩
    generalize hG:zev w r _ _=G at *
    have HX:Hid (∀ e w',G e w'→e=.returned (.int .i64 (zag ⟨bs,zas l⟩ n (a+k)).1)):=fun e w' hh=>by
     rw[← hG] at hh
     exact hh.1
    clear hnode h h0 hdx hrs hg h1 hG
    generalize (zag ⟨bs,zas l⟩ n (a+k)).1=E at *
    generalize zcu l n=d at *
    go_enter Tryz.func101,Tryz.ntmps101
    go_wp2_with fail
    refine HN.out.mono ?_
    rintro e w1 ⟨rfl,b1⟩
    have HR1:=zq (HRS.out _ (b1.alloc b1.size (.cells #[St d.x.name,.int .i64 d.x.size,.slice d.A d.x.ext.length d.c] 113)))
    clear b1 HRS HN
    go_wp2_with fail
    refine HR1.out.mono ?_
    intro e w2 hh
    have e2:=HX.out _ _ hh
    subst e2
    have HH:=zq hh
    clear hh HX HR1
    go_wp2_with fail
    exact HH.out
   ·rw[zn h2]
    have HG:Hid (∀ w',Below w.heap.size w w'→zev w r (.int .i64 0) ⟨bs,zas l⟩ (.returned (.int .i64 0)) w'):=fun w' hb=>zdp h hb _
    clear hnode h h0 hdx hrs hg h1
    generalize zev w r _ _=G at *
    generalize zcu l n=d at *
    go_enter Tryz.func101,Tryz.ntmps101
    go_wp2_with fail
    refine HN.out.mono ?_
    rintro e w1 ⟨rfl,b1⟩
    have HG1:=zq (HG.out _ (b1.alloc b1.size (.cells #[St d.x.name,.int .i64 d.x.size,.slice d.A d.x.ext.length d.c] 113)))
    clear b1 HG HN
    go_wp2_with fail
    exact HG1.out
theorem yg9 {w:World} {r:Nat} {bs:List UInt8} {l:List ND} (h:RegAt w r bs l)(i a:Nat)(hi:i<8)(A:Option Addr)(b:List UInt8)(cb:Nat)(hb:BR w w.heap.size A b)(hbr:b≠[]→∀ ad,A=some ad→ad.block≠r)
  (hf:a+b.length≤64*(za4 (at' (zas l) i).ext).length):
  Calls Tryz.prog 103 #[.pointer (some ⟨r,0,none⟩),.int .i64 (i:Int),.int .i64 (a:Int),.slice A b.length cb] w (zev w r (.int .i64 0) (zpz ⟨bs,zas l⟩ (i:Int) (a:Int) b)):=by
 obtain⟨d,hd,e,hok⟩:=h.get hi
 rw[e] at hf
 have hnn:=(za3 d.x.ext).len
 have hb1:Below w.heap.size w (w.alloc (.cells #[St d.x.name,.int .i64 d.x.size,.slice d.A d.x.ext.length d.c] 113)):=(Below.refl _ _).alloc (Nat.le_refl _) _
 have hbx:BoxN (w.alloc (.cells #[St d.x.name,.int .i64 d.x.size,.slice d.A d.x.ext.length d.c] 113)) w.heap.size d:=heap_alloc_new w _
 have hwh:=zp4 (h.below hb1) d (hok.keeps (zav r hb1) hok.no).ok
 have hwl:=zdh h.bl d.x.ext
 have hpv:zpz ⟨bs,zas l⟩ (i:Int) (a:Int) b=⟨zbo bs d.x.ext (splice (zam bs d.x.ext) a b),zas l⟩:=by
  unfold zpz
  simp only[Int.toNat_natCast,e]
 have HG:Hid (∀ w',RegAt w' r (zbo bs d.x.ext (splice (zam bs d.x.ext) a b)) l→Keeps (·=r) w w'→zev w r (.int .i64 0) (zpz ⟨bs,zas l⟩ (i:Int) (a:Int) b) (.returned (.int .i64 0)) w'):=fun w' h1 h2=>by
  rw[hpv]
  exact⟨rfl,⟨l,rfl,h1⟩,h2⟩
 have L1:=zq (yaa (h.nodeR hd))
 have HREG:=zq h
 have HOK:=zq hok
 have HB1:=zq hb1
 have HBX:=zq hbx
 have HWH:=zq hwh
 have HWL:=zq hwl
 have HBR:=zq hb
 have HBN:=zq hbr
 have hrl:=h.lt
 have hi9:(i:Int)<8:=by omega
 clear h hd e hok hb1 hbx hwh hwl hb hbr hpv
 generalize zev w r _ _=G at *
 go_enter Tryz.func103,Tryz.ntmps103
 go_wp2_with (first
  | ((with_reducible refine zd5 (op:=.load 113 (.tmp 15)) ?_);refine za9 rfl 113 _ rfl _ _ rfl L1.out ?_)
  | fail)
 have hs1:(w.alloc (.cells #[St d.x.name,.int .i64 d.x.size,.slice d.A d.x.ext.length d.c] 113)).heap.size=w.heap.size+1:=World.size_alloc _ _
 have HS1:=zq hs1
 clear hs1 L1 hi9
 generalize w.alloc (.cells #[St d.x.name,.int .i64 d.x.size,.slice d.A d.x.ext.length d.c] 113)=w1 at *
 refine HWH.out.mono ?_
 rintro e w2 ⟨g,c,rfl,ho,b2⟩
 have hgl:=Own8.lt' ho
 rw[HS1.out] at hgl
 have hcl:=ho.cap_le
 have hwl:=HWL.out
 have bw2:=HB1.out.trans (b2.mono HB1.out.size)
 have hbr2:=(HBR.out.below bw2).more bw2.size
 obtain⟨w3,p1,p2,p3⟩:=zow (P:=Tryz.prog) w2 31 31 3 5 5 Tryz.underlying31 zis (w1.heap.size+1) a ((zam bs d.x.ext).length-a) (c-a) (some ⟨g,0,none⟩) (some (if c=a then ⟨g,0,none⟩ else ⟨g,a,none⟩)) c (zam bs d.x.ext) b A cb w2.heap.size (fun hn g' e=>by
  cases e
  have:0<b.length:=List.length_pos_iff.2 hn
  rw[zn (by omega)]) ho hbr2 (by omega) (by omega)
 have hlen:(splice (zam bs d.x.ext) a b).length=(zam bs d.x.ext).length:=length_splice _ _ _ (by omega)
 have b13:Below w1.heap.size w1 w3:=b2.trans (p3.mono (by omega))
 have HLEN:=zq hlen
 have HBX3:=zq (HBX.out.below b13)
 have b3:=HB1.out.trans (b13.mono HB1.out.size)
 have LD3:=zq HBX3.out.load
 have ha3:AllAt w3 r g c (splice (zam bs d.x.ext) a b):=⟨p2.br,by omega,by rw[hlen];exact hcl,(Own8.lt' p2).2⟩
 have hsp:=znc (HREG.out.below b3) d (HOK.out.keeps (zav r b3) HOK.out.no) ha3 (by rw[hlen];omega) (by rw[hlen];omega)
 rw[hlen] at hsp
 have HSP:=zq hsp
 have HB3:=zq b3
 have CP:=zq p1
 have SL:=fun W=>zq (ygu g (zam bs d.x.ext).length c a W (by omega) hcl)
 have hLa:a≤(zam bs d.x.ext).length:=by omega
 clear ho b2 hgl hwl bw2 hbr2 p1 p2 p3 hlen b13 b3 ha3 hsp hcl
 generalize (if c=a then (⟨g,0,none⟩:Addr) else ⟨g,a,none⟩)=AD at *
 go_wp2_with (first
  | ((with_reducible refine zd5 (d:=some 22) ?_);refine zaj rfl _ (zvk 31 (.tmp 20) (.tmp 21) rfl _ _ _ rfl rfl (fun W=>(SL W).out) _) ?_)
  | ((with_reducible refine zd5 (d:=some 24) ?_);refine zcg rfl (.tmp 22) (.tmp 23) 31 31 rfl _ CP.out ?_)
  | ((with_reducible refine zd5 (op:=.load 113 (.tmp 9)) ?_);refine za9 rfl 113 _ rfl _ _ rfl LD3.out ?_)
  | fail)
 refine HSP.out.mono ?_
 rintro e w4 ⟨rfl,h4,k4⟩
 have HG4:=zq (HG.out _ h4 ((zav r HB3.out).trans k4))
 clear h4 k4 HG HSP
 go_wp2_with fail
 exact HG4.out
end Fs
end Go.Proofs.YtdopfpcjpjlkmaaGreatDoor
