/- merged -/
import Derived.Test.YtdopfpcjpjlkmaaGreatDoorGHg
set_option maxHeartbeats 4000000
set_option linter.unusedSimpArgs false
set_option linter.unusedVariables false
namespace Go.Proofs.YtdopfpcjpjlkmaaGreatDoor
namespace Hd
open Go.RowKit Ex Ino Mm Fs Fr
noncomputable def zqs {α:Type} (M:List UInt8) (n:Int) (y:Nat→α) (z:α):α:=by classical exact if isOp M n then y n.toNat else z
theorem zcm {α:Type} {M:List UInt8} {k:Nat} (h:isOp M (k:Int))(y:Nat→α)(z:α):zqs M (k:Int) y z=y k:=by
 unfold zqs
 rw[zp h,Int.toNat_natCast]
theorem zc9 {α:Type} {M:List UInt8} {n:Int} (h:¬isOp M n)(y:Nat→α)(z:α):zqs M n y z=z:=by
 unfold zqs
 rw[zn h]
variable {w:World} {p gb mb mi q b c d e:Nat} {G M:List UInt8}
def zr0 (Q:List UInt8→Value→Ending→World→Prop) (x:Int × List UInt8) (en:Ending) (w':World):Prop:=Q x.2 (.int .i64 x.1) en w'
def zm8 (Q:List UInt8→Value→Ending→World→Prop) (x:Int × Int × List UInt8) (en:Ending) (w':World):Prop:=Q x.2.2 (.tuple #[.int .i64 x.1,.int .i64 x.2.1]) en w'
noncomputable def ycw (M:List UInt8) (n:Int):Int × List UInt8:=zqs M n (fun k=>(0,zdb M k 0 0)) (noE M,M)
noncomputable def zne (M:List UInt8) (n s:Int):Int × List UInt8:=zqs M n (fun k=>((zag (za6 M) (hN M k) s).1,zbz M (zag (za6 M) (hN M k) s))) (noE M,M)
noncomputable def yiy (M:List UInt8) (n s:Int):Int × List UInt8:=zqs M n (fun k=>(if s<0∨hS M k<s then 1 else 0,if s<0∨hS M k<s then M else zdb M k (hN M k+1) s)) (noE M,M)
noncomputable def yg0 (M:List UInt8) (n s:Int):Int × List UInt8:=zqs M n (fun k=>(if s<0∨hS M k<s then 1 else 0,if s<0∨hS M k<s then M else zgs M (hA k+8) s)) (noE M,M)
noncomputable def yix (M:List UInt8) (n:Int) (bb:List UInt8):Int × List UInt8:=zqs M n (fun k=>((wrV M k bb).1,wrM M k (hN M k) (hL M k) bb.length (wrV M k bb))) (noE M,M)
noncomputable def ygs (M:List UInt8) (n:Int) (bb:List UInt8):Int × List UInt8:=zqs M n (fun k=>((wrV M k bb).1,if (wrV M k bb).1=0 then zgs (zbz M (wrV M k bb)) (hA k+8) (hL M k+(bb.length:Int)) else M)) (noE M,M)
noncomputable def ycr (M:List UInt8) (n:Int):Int × Int × List UInt8:=zqs M n (fun k=>(hS M k,0,M)) (0,noE M,M)
noncomputable def yct (M:List UInt8) (n:Int):Int × Int × List UInt8:=zqs M n (fun k=>(hL M k,0,M)) (0,noE M,M)
noncomputable def yiz (M:List UInt8) (n K:Int):List UInt8 × Int × List UInt8:=zqs M n (fun k=>(rdX M k K,rdE M k K,rdM M k (hN M k) (hL M k) (rdX M k K).length (rdE M k K))) ([],noE M,M)
noncomputable def yg6 (M:List UInt8) (n K:Int):List UInt8 × Int × List UInt8:=zqs M n (fun k=>(rdX M k K,rdE M k K,if rdE M k K=0 then zgs M (hA k+8) (hL M k+((rdX M k K).length:Int)) else M)) ([],noE M,M)
noncomputable def ycs (M f t:List UInt8):Int × List UInt8:=by classical exact if okR (zab M) then ((zbe (za6 M) f t).1,zbz M (zbe (za6 M) f t)) else (120,M)
theorem zp1 {P:Program} {f:FuncId} {a:Array Value} {Q:List UInt8→Value→Ending→World→Prop} {E:Int} {M':List UInt8} (h:Calls P f a w (Q M' (.int .i64 E))):Calls P f a w (zr0 Q (E,M')):=h
theorem zrc {P:Program} {f:FuncId} {a:Array Value} {Q:List UInt8→Value→Ending→World→Prop} {E F:Int} {M':List UInt8} (h:Calls P f a w (Q M' (.tuple #[.int .i64 E,.int .i64 F]))):Calls P f a w (zm8 Q (E,F,M')):=h
theorem yii (h:MemAt w p gb mb G M)(n:Int):Calls Tryz.prog 28 #[.pointer (some ⟨p,0,none⟩),.int .i64 n] w (zr0 (zb0 w p gb mb G) (ycw M n)):=by
 unfold ycw
 by_cases hb:isOp M n
 ·obtain⟨k,rfl,h1,h4,hO⟩:=zco hb
  rw[zcm hb];exact zp1 (zxe h hb.1 k h1 h4 hO)
 ·rw[zc9 hb];exact zp1 (yav h n hb)
theorem yih (h:RefH w mi q b c d e M G)(n:Int):Calls Tryz.prog 29 #[.pointer (some ⟨q,0,none⟩),.int .i64 n] w (zr0 (zm9 w mi q b d e G) (ycw M n)):=by
 unfold ycw
 by_cases hb:isOp M n
 ·obtain⟨k,rfl,h1,h4,hO⟩:=zco hb
  rw[zcm hb];exact zp1 (znj h hb.1 k h1 h4 hO)
 ·rw[zc9 hb];exact zp1 ((zzi h n hb).mono fun _ _ x=>zep h x)
theorem ydg (h:MemAt w p gb mb G M)(hT:Tab w)(hmb:mb≠0)(hp:p≠0)(n s:Int):Calls Tryz.prog 33 #[.pointer (some ⟨p,0,none⟩),.int .i64 n,.int .i64 s] w (zr0 (zb0 w p gb mb G) (zne M n s)):=by
 unfold zne
 by_cases hb:isOp M n
 ·obtain⟨k,rfl,h1,h4,hO⟩:=zco hb
  rw[zcm hb];exact zp1 (zsy h hb.1 hT hmb hp k h1 h4 hO s)
 ·rw[zc9 hb];exact zp1 (zxb h n s hb)
theorem ydf (h:RefH w mi q b c d e M G)(n s:Int)(hs:-9223372036854775808≤s∧s≤9223372036854775807):Calls Tryz.prog 34 #[.pointer (some ⟨q,0,none⟩),.int .i64 n,.int .i64 s] w (zr0 (zm9 w mi q b d e G) (zne M n s)):=by
 unfold zne
 by_cases hb:isOp M n
 ·obtain⟨k,rfl,h1,h4,hO⟩:=zco hb
  rw[zcm hb];exact zp1 (zqe h hb.1 k h1 h4 hO s hs)
 ·rw[zc9 hb];exact zp1 ((zwg h n s hb).mono fun _ _ x=>zep h x)
theorem seek_c (h:MemAt w p gb mb G M)(n s:Int):Calls Tryz.prog 36 #[.pointer (some ⟨p,0,none⟩),.int .i64 n,.int .i64 s] w (zr0 (zb0 w p gb mb G) (yiy M n s)):=by
 unfold yiy
 by_cases hb:isOp M n
 ·obtain⟨k,rfl,h1,h4,hO⟩:=zco hb
  rw[zcm hb];exact zp1 (yar h hb.1 k h1 h4 hO s)
 ·rw[zc9 hb];exact zp1 (yek h n s hb)
theorem seek_d (h:RefH w mi q b c d e M G)(n s:Int)(hs:-9223372036854775808≤s∧s≤9223372036854775807):Calls Tryz.prog 37 #[.pointer (some ⟨q,0,none⟩),.int .i64 n,.int .i64 s] w (zr0 (zm9 w mi q b d e G) (yg0 M n s)):=by
 unfold yg0
 by_cases hb:isOp M n
 ·obtain⟨k,rfl,h1,h4,hO⟩:=zco hb
  rw[zcm hb];exact zp1 (zyz h hb.1 k h1 h4 hO s hs)
 ·rw[zc9 hb];exact zp1 ((ydc h n s hb).mono fun _ _ x=>zep h x)
theorem ygq (h:MemAt w p gb mb G M)(hT:Tab w)(hmb:mb≠0)(hp:p≠0)(n:Int){A:Option Addr} {bb:List UInt8} (cb:Nat)(hb':BR w w.heap.size A bb)(hbl:bb.length≤140737488355328)(hA:bb≠[]→∀ ad,A=some ad→ad.block≠mb∧ad.block≠p):
  Calls Tryz.prog 19 #[.pointer (some ⟨p,0,none⟩),.int .i64 n,.slice A bb.length cb] w (zr0 (zb0 w p gb mb G) (yix M n bb)):=by
 unfold yix
 by_cases hb:isOp M n
 ·obtain⟨k,rfl,h1,h4,hO⟩:=zco hb
  rw[zcm hb];exact zp1 (znv h hb.1 hT hmb hp k h1 h4 hO cb hb' hbl hA)
 ·rw[zc9 hb];exact zp1 (yap h n A bb.length cb hb)
theorem ygp (h:RefH w mi q b c d e M G)(n:Int){A:Option Addr} {bb:List UInt8} {cb:Nat} (hb':BR w w.heap.size A bb)(hcb:bb.length≤cb)(hbl:bb.length≤140737488355328)(hA:bb≠[]→∀ ad,A=some ad→ad.block≠b):
  Calls Tryz.prog 31 #[.pointer (some ⟨q,0,none⟩),.int .i64 n,.slice A bb.length cb] w (zr0 (zm9 w mi q b d e G) (ygs M n bb)):=by
 unfold ygs
 by_cases hb:isOp M n
 ·obtain⟨k,rfl,h1,h4,hO⟩:=zco hb
  rw[zcm hb];exact zp1 (zr9 h hb.1 k h1 h4 hO hb' hcb hbl hA)
 ·rw[zc9 hb];exact zp1 ((zyv h n A bb.length cb hb).mono fun _ _ x=>zep h x)
theorem size_c (h:MemAt w p gb mb G M)(n:Int):Calls Tryz.prog 16 #[.pointer (some ⟨p,0,none⟩),.int .i64 n] w (zm8 (zb0 w p gb mb G) (ycr M n)):=by
 unfold ycr
 by_cases hb:isOp M n
 ·obtain⟨k,rfl,h1,h4,hO⟩:=zco hb
  rw[zcm hb];exact zrc (yc6 h hb.1 k h1 h4 hO)
 ·rw[zc9 hb];exact zrc (yej h n hb)
theorem size_d (h:RefH w mi q b c d e M G)(n:Int):Calls Tryz.prog 32 #[.pointer (some ⟨q,0,none⟩),.int .i64 n] w (zm8 (zm9 w mi q b d e G) (ycr M n)):=by
 unfold ycr
 by_cases hb:isOp M n
 ·obtain⟨k,rfl,h1,h4,hO⟩:=zco hb
  rw[zcm hb];exact zrc ((zwk h hb.1 k h1 h4 hO).mono fun _ _ x=>zep h x)
 ·rw[zc9 hb];exact zrc ((ydb h n hb).mono fun _ _ x=>zep h x)
theorem yhc (h:MemAt w p gb mb G M)(n:Int):Calls Tryz.prog 15 #[.pointer (some ⟨p,0,none⟩),.int .i64 n] w (zm8 (zb0 w p gb mb G) (yct M n)):=by
 unfold yct
 by_cases hb:isOp M n
 ·obtain⟨k,rfl,h1,h4,hO⟩:=zco hb
  rw[zcm hb];exact zrc (znw h hb.1 k h1 h4 hO)
 ·rw[zc9 hb];exact zrc (yas h n hb)
theorem yhb (h:RefH w mi q b c d e M G)(n:Int):Calls Tryz.prog 35 #[.pointer (some ⟨q,0,none⟩),.int .i64 n] w (zm8 (zm9 w mi q b d e G) (yct M n)):=by
 unfold yct
 by_cases hb:isOp M n
 ·obtain⟨k,rfl,h1,h4,hO⟩:=zco hb
  rw[zcm hb];exact zrc ((zwh h hb.1 k h1 h4 hO).mono fun _ _ x=>zep h x)
 ·rw[zc9 hb];exact zrc ((zy1 h n hb).mono fun _ _ x=>zep h x)
def EndR (w:World) (p gb mb:Nat) (G:List UInt8) (x:List UInt8 × Int × List UInt8) (en:Ending) (w':World):Prop:=RdH w p gb mb G x.2.2 x.1 x.2.1 en w'
def EndS (w:World) (mi q b d e:Nat) (G:List UInt8) (x:List UInt8 × Int × List UInt8) (en:Ending) (w':World):Prop:=RdD w mi q b d e G x.2.2 x.1 x.2.1 en w'
theorem endR {P:Program} {f:FuncId} {a:Array Value} {E:Int} {xs M':List UInt8} (h:Calls P f a w (RdH w p gb mb G M' xs E)):Calls P f a w (EndR w p gb mb G (xs,E,M')):=h
theorem endS {P:Program} {f:FuncId} {a:Array Value} {E:Int} {xs M':List UInt8} (h:Calls P f a w (RdD w mi q b d e G M' xs E)):Calls P f a w (EndS w mi q b d e G (xs,E,M')):=h
theorem read_c (h:MemAt w p gb mb G M)(n K:Int)(hK:-9223372036854775808≤K∧K≤9223372036854775807):Calls Tryz.prog 20 #[.pointer (some ⟨p,0,none⟩),.int .i64 n,.int .i64 K] w (EndR w p gb mb G (yiz M n K)):=by
 unfold yiz
 by_cases hb:isOp M n
 ·obtain⟨k,rfl,h1,h4,hO⟩:=zco hb
  rw[zcm hb];exact endR (zq5 h hb.1 k h1 h4 hO K hK)
 ·rw[zc9 hb];exact endR ((yel h n hb K).mono fun en w' x=>⟨⟨none,0,x.1,BR.nil,fun _ e=>by cases e⟩,x.2.1,x.2.2⟩)
theorem read_d (h:RefH w mi q b c d e M G)(n K:Int)(hK:-9223372036854775808≤K∧K≤9223372036854775807):Calls Tryz.prog 30 #[.pointer (some ⟨q,0,none⟩),.int .i64 n,.int .i64 K] w (EndS w mi q b d e G (yg6 M n K)):=by
 unfold yg6
 by_cases hb:isOp M n
 ·obtain⟨k,rfl,h1,h4,hO⟩:=zco hb
  rw[zcm hb];exact endS (zwl h hb.1 k h1 h4 hO K hK)
 ·rw[zc9 hb];exact endS ((ydd h n K hb).mono fun en w' x=>⟨⟨none,0,x.1,BR.nil⟩,(zep h x).2⟩)
theorem wriE {P:Program} {f:FuncId} {a:Array Value} {rv:Int × RG} (h:Calls P f a w (zjm w p gb mb G M rv)):Calls P f a w (zr0 (zb0 w p gb mb G) (rv.1,zbz M rv)):=h
theorem wriF {P:Program} {f:FuncId} {a:Array Value} {rv:Int × RG} (h:Calls P f a w (zm4 w mi q b c d e M G rv)):Calls P f a w (zr0 (zm9 w mi q b d e G) (rv.1,zbz M rv)):=h.mono fun _ _ x=>⟨x.1,Dn.of x.2.1 x.2.2⟩
theorem ydi (h:MemAt w p gb mb G M)(f t:List UInt8)(hf:f.length≤9223372036854775807)(ht:t.length≤9223372036854775807):Calls Tryz.prog 40 #[.pointer (some ⟨p,0,none⟩),St f,St t] w (zr0 (zb0 w p gb mb G) (ycs M f t)):=by
 unfold ycs
 by_cases ho:okR (zab M)
 ·rw[zp ho];exact wriE (rv:=zbe (za6 M) f t) (zs2 h ho f t hf ht)
 ·rw[zn ho];exact zp1 ((zs1 (zci h) ho f t).mono fun _ _ x=>⟨x.2.2,x.1,x.2.1.mono fun _ _ e=>.inr e⟩)
theorem ydh (h:RefH w mi q b c d e M G)(f t:List UInt8)(hf:f.length≤9223372036854775807)(ht:t.length≤9223372036854775807):Calls Tryz.prog 41 #[.pointer (some ⟨q,0,none⟩),St f,St t] w (zr0 (zm9 w mi q b d e G) (ycs M f t)):=by
 unfold ycs
 by_cases ho:okR (zab M)
 ·rw[zp ho];exact wriF (rv:=zbe (za6 M) f t) (zr8 h ho f t hf ht)
 ·rw[zn ho];exact zp1 ((zr7 h ho f t hf).mono fun _ _ x=>zep h x)
end Hd
namespace Hd
open Go.ChangeShapes Go.WideShapes Go.ChangeAt Go.RowKit Ex Ino Mm
theorem zrj:Tryz.prog.cellsOf 33=6:=by kernel_rfl
theorem yb5:Tryz.prog.bytesOf 33=80:=by kernel_rfl
structure HAct where
 do_:Int
 s1:List UInt8
 s2:List UInt8
 i3:Int
 i4:Int
 A:Option Addr
 xs:List UInt8
 c:Nat
def zey (x:HAct):List Value:=[.int .i64 x.do_,St x.s1,St x.s2,.int .i64 x.i3,.int .i64 x.i4,.slice x.A x.xs.length x.c]
structure HAct.Ok (W:World) (x:HAct):Prop where
 do__w:-9223372036854775808≤x.do_∧x.do_≤9223372036854775807
 s1_w:x.s1.length≤9223372036854775807
 s2_w:x.s2.length≤9223372036854775807
 i3_w:-9223372036854775808≤x.i3∧x.i3≤9223372036854775807
 i4_w:-9223372036854775808≤x.i4∧x.i4≤9223372036854775807
 br:BR W W.heap.size x.A x.xs
 cap:x.xs.length≤x.c
theorem zkp {H:Type} {P:Program} {e:TypeId}:∀ {l:List (DataW H)} {d:DataW H},d∈l→∀ n∈d.weights P e,n∈DataW.weightsAll P e l
 | [],_,h,_,_=>by cases h
 | x::r,d,h,n,hn=>by
  unfold DataW.weightsAll
  rcases List.mem_cons.1 h with rfl | h
  ·exact List.mem_append_left _ hn
  ·exact List.mem_append_right _ (zkp h n hn)
variable {H:Type} {enc:TypeId × Value→H} {W:World}
set_option maxRecDepth 100000 in
theorem yaq {fuel:Nat} {c:Value} {x:DataW H × List MemPlace} (h:DataW.trod enc Tryz.prog W 0 (fun _=>true) true fuel 31 [c]=some x):∃ A xs cap,c=.slice A (xs:List UInt8).length cap∧xs.length≤cap∧BR W W.heap.size A xs ∧
  ∀ (ts:List TypeId) (ds:List (DataW H)) (j:Nat),(DataW.weightsEach Tryz.prog ts ds).all (·≤reachBytes)=true→ts[j]?=some 31→ds[j]?=some x.1→xs.length≤140737488351232:=by
 rcases DataW.trod_slice Tryz.underlying31 h with⟨e,_⟩|⟨a,len,cap,_,_,_,_,e,_,_,hl,_⟩
 ·cases e
  exact⟨none,[],0,rfl,Nat.le_refl _,BR.nil,fun _ _ _ _ _ _=>by simp⟩
 ·cases e
  obtain⟨xs,rfl,hb,hs⟩:=yfk (H:=H) (enc:=enc) (W:=W) (a:=some a) (cap:=cap) (d:=x.1) (p:=x.2) ⟨fuel,h⟩
  exact⟨some a,xs,cap,rfl,hl,hb,hs⟩
set_option maxRecDepth 100000 in
theorem zxg {fuel:Nat} {cs:List Value} {x:DataW H × List MemPlace} (h:DataW.trod enc Tryz.prog W 0 (fun _=>true) true fuel 33 cs=some x):
  ∃ a:HAct,cs=zey a∧a.Ok W∧((∀ n∈x.1.weights Tryz.prog 33,n≤reachBytes)→a.xs.length≤140737488351232):=by
 obtain⟨xs,n,_,hx,hl,hlen,hg⟩:=DataW.trod_struct Tryz.underlying33 h
 rw[zrj] at hl
 match cs,hl with
 | [c0,c1,c2,c3,c4,c5],_ =>
  match xs,hlen with
  | [y0,y1,y2,y3,y4,y5],_ =>
   have g0:=hg 0 _ rfl
   have g1:=hg 1 _ rfl
   have g2:=hg 2 _ rfl
   have g3:=hg 3 _ rfl
   have g4:=hg 4 _ rfl
   have g5:=hg 5 _ rfl
   obtain⟨a0,e0,_,w0⟩:=DataW.trod_int Tryz.underlying3 g0
   cases e0
   obtain⟨t1,e1,_,w1⟩:=DataW.trod_string Tryz.underlying9 g1
   cases e1
   obtain⟨a1,rfl,l1⟩:=Ino.text_of t1
   obtain⟨t2,e2,_,w2⟩:=DataW.trod_string Tryz.underlying9 g2
   cases e2
   obtain⟨a2,rfl,l2⟩:=Ino.text_of t2
   obtain⟨a3,e3,_,w3⟩:=DataW.trod_int Tryz.underlying3 g3
   cases e3
   obtain⟨a4,e4,_,w4⟩:=DataW.trod_int Tryz.underlying3 g4
   cases e4
   obtain⟨A,ys,cap,rfl,hc,hb,hs⟩:=yaq g5
   refine⟨⟨a0,a1,a2,a3,a4,A,ys,cap⟩,rfl,⟨zml w0,(by show a1.length≤_;unfold maxLen at w1;omega),(by show a2.length≤_;unfold maxLen at w2;omega),zml w3,zml w4,hb,hc⟩,fun hw=>?_⟩
   refine hs [3,9,9,3,3,31] [y0.1,y1.1,y2.1,y3.1,y4.1,y5.1] 5 (List.all_eq_true.2 fun m hm=>?_) rfl rfl
   have:x.1=.agg [y0.1,y1.1,y2.1,y3.1,y4.1,y5.1]:=by rw[hx];rfl
   rw[this] at hw
   unfold DataW.weights at hw
   rw[Tryz.underlying33] at hw
   simpa using hw m hm
def HActR (w:World) (B:Nat) (A:Option Addr) (l:List HAct):Prop:=
 l≠[]→∃ ad,A=some ad∧ad.block<B∧∀ k a,l[k]?=some a→∀ j v,(zey a)[j]?=some v→w.cell? ((ad.add (k*6)).add j)=some v
theorem HActR.below {w w':World} {B:Nat} {A:Option Addr} {l:List HAct} (h:HActR w B A l)(hb:Below B w w'):HActR w' B A l:=by
 intro hn
 obtain⟨ad,e,hlt,hc⟩:=h hn
 exact⟨ad,e,hlt,fun k a ha j v hv=>(hb.cell (by rw[zan,zan];exact hlt)).trans (hc k a ha j v hv)⟩
theorem HActR.nil {w:World} {B:Nat} {A:Option Addr}:HActR w B A []:=fun h=>absurd rfl h
theorem HActR.at_ {w:World} {B:Nat} {A:Option Addr} {l:List HAct} (h:HActR w B A l){k:Nat} (hk:k<l.length):
  ∃ ad,A=some ad∧ad.block<B∧w.cell? (ad.add (k*6))=some (.int .i64 l[k].do_)∧w.cell? ⟨(ad.add (k*6)).block,(ad.add (k*6)).off+1,none⟩=some (St l[k].s1)∧w.cell? ⟨(ad.add (k*6)).block,(ad.add (k*6)).off+2,none⟩=some (St l[k].s2)∧w.cell? ⟨(ad.add (k*6)).block,(ad.add (k*6)).off+3,none⟩=some (.int .i64 l[k].i3)∧w.cell? ⟨(ad.add (k*6)).block,(ad.add (k*6)).off+4,none⟩=some (.int .i64 l[k].i4)∧w.cell? ⟨(ad.add (k*6)).block,(ad.add (k*6)).off+5,none⟩=some (.slice l[k].A l[k].xs.length l[k].c):=by
 obtain⟨ad,e,hb,hc⟩:=h (by intro e;subst e;simp at hk)
 have H:=hc k l[k] (List.getElem?_eq_getElem hk)
 exact⟨ad,e,hb,H 0 _ rfl,H 1 _ rfl,H 2 _ rfl,H 3 _ rfl,H 4 _ rfl,H 5 _ rfl⟩
structure HActsOk (W:World) (A:Option Addr) (l:List HAct):Prop where
 ar:HActR W W.heap.size A l
 ok:∀ a∈l,a.Ok W
theorem yep {a:Option Addr} {len cap:Nat} {d:DataW H} {p:List MemPlace} (h:DataW.Trod enc Tryz.prog W 0 (fun _=>true) true 22 (.slice a len cap) d p):
  ∃ l:List HAct,l.length=len∧HActsOk W a l∧∀ (ts:List TypeId) (ds:List (DataW H)) (j:Nat),(DataW.weightsEach Tryz.prog ts ds).all (·≤reachBytes)=true→ts[j]?=some 22→ds[j]?=some d→len≤1759218604441∧∀ a∈l,a.xs.length≤140737488351232:=by
 obtain⟨fuel,hf⟩:=h
 rcases Go.Deep.open_slice Tryz.underlying22 hf with⟨e,_⟩|⟨ad,len',cap',m,n,D,Pl,e,_,hlc,hcm,hm,hx,hi⟩
 ·simp[Value.cells] at e
  obtain⟨rfl,rfl,rfl⟩:=e
  exact⟨[],rfl,⟨HActR.nil,(fun a ha=>by cases ha)⟩,fun _ _ _ _ _ _=>⟨by omega,fun a ha=>by cases ha⟩⟩
 ·simp[Value.cells] at e
  obtain⟨rfl,rfl,rfl⟩:=e
  rw[zp rfl] at hm
  subst hm
  have hf:∀ i,∃ x:HAct,i<len→(∀ j v,(zey x)[j]?=some v→W.cell? ((ad.add (i*6)).add j)=some v)∧x.Ok W∧((∀ n∈(D i).weights Tryz.prog 33,n≤reachBytes)→x.xs.length≤140737488351232):=by
   intro i
   by_cases hl:i<len
   ·obtain⟨cs',hc,ht⟩:=hi i (by omega)
    rw[zrj] at hc
    obtain⟨x,rfl,hx,hw⟩:=zxg ht
    obtain⟨_,_,hat⟩:=World.cells?_some hc
    refine⟨x,fun _=>⟨fun j v hv=>?_,hx,hw⟩⟩
    have hj:j<6:=by
     have:=(List.getElem?_eq_some_iff.1 hv).1
     simpa [zey] using this
    exact(hat j hj).trans hv
   ·exact⟨⟨0,[],[],0,0,none,[],0⟩,fun h=>absurd h hl⟩
  obtain⟨f,hf⟩:=Classical.skolem.1 hf
  refine⟨(List.range len).map f,by simp,⟨?_,?_⟩,?_⟩
  ·intro hne
   have h0:0<len:=by
    rcases Nat.eq_zero_or_pos len with e | e
    ·subst e;simp at hne
    ·exact e
   refine⟨ad,rfl,?_,fun k x hx=>?_⟩
   ·have:=World.block_lt_of_cell? _ _ ((hf 0 h0).1 0 _ rfl)
    rwa [zan,zan] at this
   ·have hk:k<len∧f k=x:=by
     simp only[List.getElem?_map,Option.map_eq_some_iff] at hx
     obtain⟨j,hj,rfl⟩:=hx
     obtain⟨h1,h2⟩:=List.getElem?_eq_some_iff.1 hj
     simp at h1 h2
     exact⟨h1,by rw[h2]⟩
    obtain⟨hk,rfl⟩:=hk
    exact(hf k hk).1
  ·intro x hx
   simp only[List.mem_map,List.mem_range] at hx
   obtain⟨i,hi',rfl⟩:=hx
   exact(hf i hi').2.1
  ·intro ts ds j hs ht hd
   simp only[Prod.mk.injEq] at hx
   rw[hx.1] at hd
   have hsz:=sized_slice hs ht hd Tryz.underlying22
   rw[yb5] at hsz
   simp only[List.length_map,List.length_range,reachBytes] at hsz
   refine⟨by omega,fun x hx'=>?_⟩
   simp only[List.mem_map,List.mem_range] at hx'
   obtain⟨i,hi',rfl⟩:=hx'
   refine(hf i hi').2.2 fun m hm=>?_
   have hmem:=DataW.weights_mem_each ht hd m (by
    unfold DataW.weights
    rw[Tryz.underlying22]
    exact List.mem_cons_of_mem _ (List.mem_append_left _ (zkp (List.mem_map.2 ⟨i,List.mem_range.2 hi',rfl⟩) m hm)))
   have:=List.all_eq_true.1 hs m hmem
   simpa using this
end Hd
namespace Hd
open Go.RowKit Ex Ino Mm Fs Fr
structure TwoB (lo:Nat) (w:World) (p gb mb mi q b c d e:Nat) (G Gd M R:List UInt8) (W:World):Prop where
 mem:MemAt W p gb mb G M
 ref:RefH W mi q b c d e R Gd
 tab:Tab W
 sep:p<mi∧gb<mi∧mb<mi∧lo≤p∧lo≤mb∧0<lo
 kp:Keeps (fun k=>lo≤k) w W
def TwoH (lo:Nat) (w:World) (p gb mb mi q d e:Nat) (G Gd M R:List UInt8) (W:World):Prop:=∃ b c,TwoB lo w p gb mb mi q b c d e G Gd M R W
variable {lo:Nat} {w W:World} {p gb mb mi q b c d e:Nat} {G Gd M R M' R':List UInt8}
theorem TwoB.bs (h:TwoB lo w p gb mb mi q b c d e G Gd M R W):mi≤q∧mi≤b∧mi≤d∧p<W.heap.size∧mb<W.heap.size∧b<W.heap.size∧q<W.heap.size:=⟨h.ref.q0,h.ref.now.lt'.1,h.ref.was.lt'.1,h.mem.lt.1,h.mem.lt.2.2,h.ref.lt.2.1,h.ref.lt.1⟩
theorem TwoB.new {W':World} (h:TwoB lo w p gb mb mi q b c d e G Gd M R W)(k:Keeps (fun _=>False) W W'):TwoB lo w p gb mb mi q b c d e G Gd M R W':=
 ⟨h.mem.keep k (fun f=>f) (fun f=>f) (fun f=>f),h.ref.keep k fun _ _ _ f=>f,h.tab.keep (k.block 0 h.tab.pos (fun f=>f)),h.sep,h.kp.trans (k.mono fun _ _ f=>f.elim)⟩
theorem TwoB.both {W' W'':World} (h:TwoB lo w p gb mb mi q b c d e G Gd M R W)(m1:MemAt W' p gb mb G M')(k1:Keeps (fun k=>k=p∨k=mb) W W')(dn:Dn W' mi q b d e Gd R' W''):TwoH lo w p gb mb mi q d e G Gd M' R' W'':=by
 have hb:=h.bs
 have hs:=h.sep
 obtain⟨⟨b',c',hn,r2⟩,k2⟩:=dn
 refine⟨b',c',m1.keep k2 (by omega) (by omega) (by omega),r2,?_,hs,(h.kp.trans (k1.mono fun i _ e=>by rcases e with e | e<;>omega)).trans (k2.mono fun i _ e=>by rcases e with e | e<;>omega)⟩
 exact(h.tab.keep (k1.block 0 h.tab.pos (by omega))).keep (k2.block 0 (Nat.lt_of_lt_of_le h.tab.pos k1.size) (by omega))
theorem TwoB.mid {W':World} (h:TwoB lo w p gb mb mi q b c d e G Gd M R W)(k1:Keeps (fun k=>k=p∨k=mb) W W'):RefH W' mi q b c d e R Gd:=by
 have hb:=h.bs
 have hs:=h.sep
 exact Fr.RefH.keep3 h.ref k1 (by omega) (by omega) (by omega)
def BoxH (W:World) (B:Nat) (a:HAct):Prop:=W.heap[B]?=some (.cells (zey a).toArray 33 (0,0))
theorem BoxH.lt {B:Nat} {a:HAct} (h:BoxH W B a):B<W.heap.size:=(Array.getElem?_eq_some_iff.1 h).1
theorem BoxH.cs {B:Nat} {a:HAct} (h:BoxH W B a):W.cell? ⟨B,0,none⟩=some (.int .i64 a.do_)∧W.cell? ⟨B,1,none⟩=some (St a.s1)∧W.cell? ⟨B,2,none⟩=some (St a.s2)∧W.cell? ⟨B,3,none⟩=some (.int .i64 a.i3)∧W.cell? ⟨B,4,none⟩=some (.int .i64 a.i4)∧W.cell? ⟨B,5,none⟩=some (.slice a.A a.xs.length a.c):=by
 refine⟨?_,?_,?_,?_,?_,?_⟩<;>rw[cell_of_row _ _ _ _ _ _ h]<;>rfl
theorem BoxH.keep {F:Nat→Prop} {W':World} {B:Nat} {a:HAct} (h:BoxH W B a)(k:Keeps F W W')(hF:¬F B):BoxH W' B a:=(k.block B h.lt hF).trans h
theorem aggB9 (w:World):(isAgg 31).run Tryz.prog w=.ok false w:=by unfold isAgg;rw[Sem.run_bind,run_underlying Tryz.underlying31 w];rfl
def QI (x y:Int × List UInt8) (M' R':List UInt8) (β:Bool):Prop:=(x.1=y.1→β=true)∧M'=x.2∧R'=y.2
def QII (x y:Int × Int × List UInt8) (M' R':List UInt8) (β:Bool):Prop:=(x.1=y.1→x.2.1=y.2.1→β=true)∧M'=x.2.2∧R'=y.2.2
def QR (x y:List UInt8 × Int × List UInt8) (M' R':List UInt8) (β:Bool):Prop:=(x.1=y.1→x.2.1=y.2.1→β=true)∧M'=x.2.2∧R'=y.2.2
theorem qI {x y:Int × List UInt8} {a b:Int} {β:Bool} (hx:x=(a,M'))(hy:y=(b,R'))(h:a=b→β=true):QI x y M' R' β:=by subst hx;subst hy;exact⟨h,rfl,rfl⟩
theorem qII {x y:Int × Int × List UInt8} {a b a' b':Int} {β:Bool} (hx:x=(a,a',M'))(hy:y=(b,b',R'))(h:a=b→a'=b'→β=true):QII x y M' R' β:=by subst hx;subst hy;exact⟨h,rfl,rfl⟩
theorem qR {x y:List UInt8 × Int × List UInt8} {a b:List UInt8} {a' b':Int} {β:Bool} (hx:x=(a,a',M'))(hy:y=(b,b',R'))(h:a=b→a'=b'→β=true):QR x y M' R' β:=by subst hx;subst hy;exact⟨h,rfl,rfl⟩
theorem zyd {P:Program} {f:FuncId} {a:Array Value} {Q:List UInt8→Value→Ending→World→Prop} {E:Int} (h:Calls P f a W (zr0 Q (E,M'))):Calls P f a W (Q M' (.int .i64 E)):=h
theorem zqr {P:Program} {f:FuncId} {a:Array Value} {Q:List UInt8→Value→Ending→World→Prop} {E F:Int} (h:Calls P f a W (zm8 Q (E,F,M'))):Calls P f a W (Q M' (.tuple #[.int .i64 E,.int .i64 F])):=h
theorem outR {P:Program} {f:FuncId} {a:Array Value} {E:Int} {xs:List UInt8} (h:Calls P f a W (EndR W p gb mb G (xs,E,M'))):Calls P f a W (RdH W p gb mb G M' xs E):=h
theorem outS {P:Program} {f:FuncId} {a:Array Value} {E:Int} {xs:List UInt8} (h:Calls P f a W (EndS W mi q b d e G (xs,E,M'))):Calls P f a W (RdD W mi q b d e G M' xs E):=h
theorem zx3 (h:MemAt W p gb mb G M)(hT:Tab W)(hmb:mb≠0)(hp:p≠0)(name:List UInt8)(hn:name.length≤9223372036854775807):Calls Tryz.prog 17 #[.pointer (some ⟨p,0,none⟩),St name] W (zm8 (zb0 W p gb mb G) (zxx M name)):=by
 have:=zrk h hT hmb hp name hn
 generalize zxx M name=x at *
 exact this
theorem yig (h:MemAt W p gb mb G M)(name:List UInt8)(hn:name.length≤9223372036854775807):Calls Tryz.prog 18 #[.pointer (some ⟨p,0,none⟩),St name] W (zm8 (zb0 W p gb mb G) (zjx M name)):=by
 have:=zrg h name hn
 generalize zjx M name=x at *
 exact this
theorem yb2 (h:MemAt W p gb mb G M)(name:List UInt8)(hn:name.length≤9223372036854775807):Calls Tryz.prog 38 #[.pointer (some ⟨p,0,none⟩),St name] W (zr0 (zb0 W p gb mb G) (yfb M name)):=by
 have:=ztg h name hn
 generalize yfb M name=x at *
 exact this
theorem zws (h:RefH W mi q b c d e M Gd)(name:List UInt8)(hn:name.length≤9223372036854775807):Calls Tryz.prog 26 #[.pointer (some ⟨q,0,none⟩),St name] W (zm8 (zm9 W mi q b d e Gd) (zry M name)):=by
 have:=zql h name hn
 generalize zry M name=x at *
 exact this
theorem yg2 (h:RefH W mi q b c d e M Gd)(name:List UInt8)(hn:name.length≤9223372036854775807):Calls Tryz.prog 27 #[.pointer (some ⟨q,0,none⟩),St name] W (zm8 (zm9 W mi q b d e Gd) (zjx M name)):=by
 have:=zwj h name hn
 generalize zjx M name=x at *
 exact this
theorem zzf (h:RefH W mi q b c d e M Gd)(name:List UInt8)(hn:name.length≤9223372036854775807):Calls Tryz.prog 39 #[.pointer (some ⟨q,0,none⟩),St name] W (zr0 (zm9 W mi q b d e Gd) (ycv M name)):=by
 have:=zqk h name hn
 generalize ycv M name=x at *
 exact this
def ActQ (a:HAct) (M R M' R':List UInt8) (β:Bool):Prop:=
 (a.do_=0∧QII (zxx M a.s1) (zry R a.s1) M' R' β)∨(a.do_=1∧QII (zjx M a.s1) (zjx R a.s1) M' R' β)∨(a.do_=2∧QI (ycw M a.i3) (ycw R a.i3) M' R' β) ∨
 (a.do_=3∧QR (yiz M a.i3 a.i4) (yg6 R a.i3 a.i4) M' R' β)∨(a.do_=4∧QI (yix M a.i3 a.xs) (ygs R a.i3 a.xs) M' R' β)∨(a.do_=5∧QII (ycr M a.i3) (ycr R a.i3) M' R' β) ∨
 (a.do_=6∧QI (zne M a.i3 a.i4) (zne R a.i3 a.i4) M' R' β)∨(a.do_=7∧QII (yct M a.i3) (yct R a.i3) M' R' β)∨(a.do_=8∧QI (yiy M a.i3 a.i4) (yg0 R a.i3 a.i4) M' R' β) ∨
 (a.do_=9∧QI (yfb M a.s1) (ycv R a.s1) M' R' β)∨QI (ycs M a.s1 a.s2) (ycs R a.s1 a.s2) M' R' β
def zew (lo:Nat) (w:World) (p gb mb mi q d e:Nat) (G Gd M R:List UInt8) (a:HAct) (en:Ending) (W':World):Prop:=∃ β M' R',en=.returned (.bool β)∧TwoH lo w p gb mb mi q d e G Gd M' R' W'∧ActQ a M R M' R' β
set_option maxRecDepth 100000 in
theorem yeq (h:TwoH lo w p gb mb mi q d e G Gd M R W)(hmb:mb≠0)(hp:p≠0)(a:HAct)(ha:a.Ok W)(hxl:a.xs.length≤140737488355328)(hlow:a.xs≠[]→∀ ad,a.A=some ad→ad.block<lo):
  Calls Tryz.prog 11 #[.pointer (some ⟨p,0,none⟩),.pointer (some ⟨q,0,none⟩),.agg (zey a).toArray] W (zew lo w p gb mb mi q d e G Gd M R a):=by
 obtain⟨b,c,h⟩:=h
 have hbx:BoxH (W.alloc (.cells (zey a).toArray 33)) W.heap.size a:=World.alloc_heap_new _ _
 have ka:Keeps (fun _=>False) W (W.alloc (.cells (zey a).toArray 33)):=Keeps.alloc _ _ _
 have h1:=h.new ka
 have hbs:=h.bs
 have hsep:=h.sep
 have hbr:=ka.br ha.br fun _ _ _ f=>f
 obtain⟨c0,c1,c2,c3,c4,c5⟩:=hbx.cs
 have hB:W.heap.size≠p∧W.heap.size≠mb∧W.heap.size≠b∧W.heap.size≠q:=by omega
 have HW:=zq (show W.alloc (.cells #[.int .i64 a.do_,St a.s1,St a.s2,.int .i64 a.i3,.int .i64 a.i4,.slice a.A a.xs.length a.c] 33)=W.alloc (.cells (zey a).toArray 33) from rfl)
 generalize hwa:W.alloc (.cells (zey a).toArray 33)=wa at *
 have H1:=zq h1
 have HBX:=zq hbx
 have HA:=zq ha
 have HBR:=zq hbr
 have HLOW:=zq hlow
 clear h h1 hbx ka ha hbr hlow hwa
 show Calls _ _ #[_,_,.agg #[.int .i64 a.do_,St a.s1,St a.s2,.int .i64 a.i3,.int .i64 a.i4,.slice a.A a.xs.length a.c]] W _
 go_enter Tryz.func11,Tryz.ntmps11
 obtain⟨dd,s1,s2,i3,i4,A,xs,cc⟩:=a
 simp only at c0 c1 c2 c3 c4 c5 HW hxl
 by_cases x0:dd=0
 ·subst x0
  have t0:((0:Int)==0)=true:=rfl
  obtain⟨n,v,M2,hx⟩:∃ n v X,zxx M s1=(n,v,X):=⟨_,_,_,rfl⟩
  obtain⟨n',v',R2,hy⟩:∃ n v X,zry R s1=(n,v,X):=⟨_,_,_,rfl⟩
  have hc:=zx3 H1.out.mem H1.out.tab hmb hp s1 HA.out.s1_w
  rw[hx] at hc
  have HC:=zq (zqr hc)
  have HX:=zq (And.intro hx hy)
  clear hc hx hy
  go_wp2_with fail
  rw[HW.out]
  refine HC.out.mono ?_
  rintro en w1 ⟨rfl,m1,k1⟩
  have r1:=H1.out.mid k1
  have hb1:=HBX.out.keep k1 (by omega)
  obtain⟨d0,d1,d2,d3,d4,d5⟩:=hb1.cs
  simp only at d0 d1 d2 d3 d4 d5
  have hd:=zws r1 s1 HA.out.s1_w
  rw[HX.out.2] at hd
  have HD1:=zq (zqr hd)
  have HCO:=zq (And.intro m1 k1)
  clear c0 c1 c2 c3 c4 c5 m1 k1 r1 hb1 HC HW hd
  go_wp2_with fail
  refine HD1.out.mono ?_
  rintro en w2 ⟨rfl,dn⟩
  have HT:=zq (H1.out.both HCO.out.1 HCO.out.2 dn)
  clear dn HD1 HCO
  by_cases hn:n=n'
  ·subst hn
   have HG:Hid (zew lo w p gb mb mi q d e G Gd M R (⟨0,s1,s2,i3,i4,A,xs,cc⟩:HAct) (.returned (.bool (v==v'))) w2):=⟨_,M2,R2,rfl,HT.out,Or.inl ⟨rfl,qII HX.out.1 HX.out.2 fun _ e=>by rw[e];simp⟩⟩
   have s1':(n==n)=true:=by simp
   go_wp2_with fail
   go_ret
   exact HG.out
  ·have HG:Hid (zew lo w p gb mb mi q d e G Gd M R (⟨0,s1,s2,i3,i4,A,xs,cc⟩:HAct) (.returned (.bool false)) w2):=⟨_,M2,R2,rfl,HT.out,Or.inl ⟨rfl,qII HX.out.1 HX.out.2 fun e _=>absurd e hn⟩⟩
   have s1':(n==n')=false:=by simpa using hn
   go_wp2_with fail
   go_ret
   exact HG.out
 by_cases x1:dd=1
 ·subst x1
  have t0:((1:Int)==0)=false:=rfl
  have t1:((1:Int)==1)=true:=rfl
  obtain⟨n,v,M2,hx⟩:∃ n v X,zjx M s1=(n,v,X):=⟨_,_,_,rfl⟩
  obtain⟨n',v',R2,hy⟩:∃ n v X,zjx R s1=(n,v,X):=⟨_,_,_,rfl⟩
  have hc:=yig H1.out.mem s1 HA.out.s1_w
  rw[hx] at hc
  have HC:=zq (zqr hc)
  have HX:=zq (And.intro hx hy)
  clear hc hx hy
  go_wp2_with fail
  rw[HW.out]
  refine HC.out.mono ?_
  rintro en w1 ⟨rfl,m1,k1⟩
  have r1:=H1.out.mid k1
  have hb1:=HBX.out.keep k1 (by omega)
  obtain⟨d0,d1,d2,d3,d4,d5⟩:=hb1.cs
  simp only at d0 d1 d2 d3 d4 d5
  have hd:=yg2 r1 s1 HA.out.s1_w
  rw[HX.out.2] at hd
  have HD1:=zq (zqr hd)
  have HCO:=zq (And.intro m1 k1)
  clear c0 c1 c2 c3 c4 c5 m1 k1 r1 hb1 HC HW hd
  go_wp2_with fail
  refine HD1.out.mono ?_
  rintro en w2 ⟨rfl,dn⟩
  have HT:=zq (H1.out.both HCO.out.1 HCO.out.2 dn)
  clear dn HD1 HCO
  by_cases hn:n=n'
  ·subst hn
   have HG:Hid (zew lo w p gb mb mi q d e G Gd M R (⟨1,s1,s2,i3,i4,A,xs,cc⟩:HAct) (.returned (.bool (v==v'))) w2):=⟨_,M2,R2,rfl,HT.out,Or.inr (Or.inl ⟨rfl,qII HX.out.1 HX.out.2 fun _ e=>by rw[e];simp⟩)⟩
   have s1':(n==n)=true:=by simp
   go_wp2_with fail
   go_ret
   exact HG.out
  ·have HG:Hid (zew lo w p gb mb mi q d e G Gd M R (⟨1,s1,s2,i3,i4,A,xs,cc⟩:HAct) (.returned (.bool false)) w2):=⟨_,M2,R2,rfl,HT.out,Or.inr (Or.inl ⟨rfl,qII HX.out.1 HX.out.2 fun e _=>absurd e hn⟩)⟩
   have s1':(n==n')=false:=by simpa using hn
   go_wp2_with fail
   go_ret
   exact HG.out
 by_cases x2:dd=2
 ·subst x2
  have t0:((2:Int)==0)=false:=rfl
  have t1:((2:Int)==1)=false:=rfl
  have t2:((2:Int)==2)=true:=rfl
  go_wp2_with fail
  refine wp_region_held (S:=fun W'=>BoxH W' W.heap.size (⟨2,s1,s2,i3,i4,A,xs,cc⟩:HAct)) (by kernel_rfl) ?_
  change wpAnyH _ _ _ _ _ _ _ _ (W.alloc (.cells #[.int .i64 2,St s1,St s2,.int .i64 i3,.int .i64 i4,.slice A xs.length cc] 33)).drew
  rw[HW.out]
  have kd:Keeps (fun _=>False) wa wa.drew:=zac ((Below.refl _ _).drew)
  have hS:=HBX.out.keep kd (fun f=>f)
  have H2:=H1.out.new kd
  have hbr2:=kd.br HBR.out fun _ _ _ f=>f
  generalize wa.drew=wd at *
  obtain⟨vc,M2,hx⟩:∃ v X,ycw M i3=(v,X):=⟨_,_,rfl⟩
  obtain⟨vd,R2,hy⟩:∃ v X,ycw R i3=(v,X):=⟨_,_,rfl⟩
  have hc:=yii H2.mem i3
  rw[hx] at hc
  replace hc:=zyd hc
  refine sqH 0 (.pointer (some ⟨p,0,none⟩)) rfl (Or.inl ⟨by rfl,fun _ _=>rfl⟩) hS ?_
  try simp only[Act.put,sqX]
  refine sqH 1 (.pointer (some ⟨W.heap.size,3,none⟩)) rfl (Or.inl ⟨by rfl,fun _ _=>by go_simp⟩) hS ?_
  try simp only[Act.put,sqX]
  refine sqH 2 (.int .i64 i3) rfl (zai rfl 3 (.tmp 80) rfl _ _ rfl fun w h=>zal zdm h.cs.2.2.2.1) hS ?_
  try simp only[Act.put,sqX]
  refine sqH 4 (.pointer (some ⟨q,0,none⟩)) rfl (Or.inl ⟨by rfl,fun _ _=>rfl⟩) hS ?_
  try simp only[Act.put,sqX]
  refine sqH 5 (.pointer (some ⟨W.heap.size,3,none⟩)) rfl (Or.inl ⟨by rfl,fun _ _=>by go_simp⟩) hS ?_
  try simp only[Act.put,sqX]
  refine sqH 6 (.int .i64 i3) rfl (zai rfl 3 (.tmp 84) rfl _ _ rfl fun w h=>zal zdm h.cs.2.2.2.1) hS ?_
  try simp only[Act.put,sqX]
  refine wpAnyH_all (rs:=[3]) (by kernel_rfl) (by simp) fun i hi=>?_
  obtain rfl:i=3:=by simpa using hi
  refine zbf (om:=⟨_,_,_,_,_,_⟩) (fn:=28) (args:=#[.pointer (some ⟨p,0,none⟩),.int .i64 i3]) (R:=fun u W'=>u=.int .i64 vc∧MemAt W' p gb mb G M2∧Keeps (fun k=>k=p∨k=mb) wd W') rfl rfl (by go_simp)
   (hc.mono fun en W' ⟨he,m,k⟩=>⟨_,he,rfl,m,k⟩) _ _ rfl rfl ?_
  rintro u w1 ⟨rfl,m1,k1⟩
  have hS:BoxH w1 W.heap.size (⟨2,s1,s2,i3,i4,A,xs,cc⟩:HAct):=BoxH.keep hS k1 (by omega)
  have r1:=H2.mid k1
  have hd:=yih r1 i3
  rw[hy] at hd
  replace hd:=zyd hd
  refine⟨hS,?_⟩
  try simp only[Act.put,sqX]
  refine wpAnyH_all (rs:=[7]) (by kernel_rfl) (by simp) fun i hi=>?_
  obtain rfl:i=7:=by simpa using hi
  refine zbf (om:=⟨_,_,_,_,_,_⟩) (fn:=29) (args:=#[.pointer (some ⟨q,0,none⟩),.int .i64 i3]) (R:=fun u W'=>u=.int .i64 vd∧Dn w1 mi q b d e Gd R2 W') rfl rfl (by go_simp)
   (hd.mono fun en W' ⟨he,dn⟩=>⟨_,he,rfl,dn⟩) _ _ rfl rfl ?_
  rintro u w2 ⟨rfl,dn⟩
  have hS:BoxH w2 W.heap.size (⟨2,s1,s2,i3,i4,A,xs,cc⟩:HAct):=BoxH.keep hS dn.kp (by omega)
  refine⟨hS,?_⟩
  try simp only[Act.put,sqX]
  refine sqH 8 (.bool (vc==vd)) rfl (Or.inl ⟨by rfl,fun _ _=>by go_simp⟩) hS ?_
  try simp only[Act.put,sqX]
  refine sqH 9 (.bool (vc==vd)) rfl (Or.inl ⟨by rfl,fun _ _=>rfl⟩) hS ?_
  try simp only[Act.put,sqX]
  refine wpAnyH_done (by kernel_rfl) ?_ _
  try simp only[Act.put,sqX]
  have HG:Hid (zew lo w p gb mb mi q d e G Gd M R (⟨2,s1,s2,i3,i4,A,xs,cc⟩:HAct) (.returned (.bool (vc==vd))) w2):=⟨_,M2,R2,rfl,H2.both m1 k1 dn,Or.inr (Or.inr (Or.inl ⟨rfl,qI hx hy fun e=>by rw[e];simp⟩))⟩
  clear hS m1 k1 r1 dn hc hd H2 kd c0 c1 c2 c3 c4 c5 hbr2 hx hy
  go_wp2_with fail
  go_ret
  exact HG.out
 by_cases x3:dd=3
 ·subst x3
  have t0:((3:Int)==0)=false:=rfl
  have t1:((3:Int)==1)=false:=rfl
  have t2:((3:Int)==2)=false:=rfl
  have t3:((3:Int)==3)=true:=rfl
  obtain⟨ys,v,M2,hx⟩:∃ n v X,yiz M i3 i4=(n,v,X):=⟨_,_,_,rfl⟩
  obtain⟨zs,v',R2,hy⟩:∃ n v X,yg6 R i3 i4=(n,v,X):=⟨_,_,_,rfl⟩
  have hc:=read_c H1.out.mem i3 i4 HA.out.i4_w
  rw[hx] at hc
  have HC:=zq (outR hc)
  have HX:=zq (And.intro hx hy)
  clear hc hx hy
  go_wp2_with fail
  rw[HW.out]
  refine HC.out.mono ?_
  rintro en w1 ⟨⟨A1,n1,rfl,hb1,hn1⟩,m1,k1⟩
  have r1:=H1.out.mid k1
  have hbx1:=HBX.out.keep k1 (by omega)
  obtain⟨d0,d1,d2,d3,d4,d5⟩:=hbx1.cs
  simp only at d0 d1 d2 d3 d4 d5
  have hd:=read_d r1 i3 i4 HA.out.i4_w
  rw[HX.out.2] at hd
  have HD1:=zq (outS hd)
  have HCO:=zq (And.intro m1 k1)
  have HB1:=zq (And.intro hb1 hn1)
  clear c0 c1 c2 c3 c4 c5 m1 k1 r1 hbx1 HC HW hb1 hn1 hd
  go_wp2_with fail
  refine HD1.out.mono ?_
  rintro en w2 ⟨⟨A2,n2,rfl,hb2⟩,dn⟩
  have hb1':=dn.kp.br HB1.out.1 (fun ad e hne=>by have h3:=HB1.out.2 ad e;have h4:=H1.out.bs;omega)
  have cv1:=zex (P:=Tryz.prog) w2 _ 31 9 5 A1 ys n1 hb1' Tryz.underlying31 Tryz.underlying5 Tryz.underlying9
  have cv2:=zex (P:=Tryz.prog) w2 _ 31 9 5 A2 zs n2 hb2 Tryz.underlying31 Tryz.underlying5 Tryz.underlying9
  have HT:=zq (H1.out.both HCO.out.1 HCO.out.2 dn)
  clear dn HD1 HCO hb1' hb2 HB1
  by_cases hk:ys=zs
  ·subst hk
   have s1':((⟨ys.toArray⟩:ByteArray).toList==(⟨ys.toArray⟩:ByteArray).toList)=true:=by simp
   have HG:Hid (zew lo w p gb mb mi q d e G Gd M R (⟨3,s1,s2,i3,i4,A,xs,cc⟩:HAct) (.returned (.bool (v==v'))) w2):=⟨_,M2,R2,rfl,HT.out,Or.inr (Or.inr (Or.inr (Or.inl ⟨rfl,qR HX.out.1 HX.out.2 fun _ e=>by rw[e];simp⟩)))⟩
   go_wp2_with fail
   go_ret
   exact HG.out
  ·have HG:Hid (zew lo w p gb mb mi q d e G Gd M R (⟨3,s1,s2,i3,i4,A,xs,cc⟩:HAct) (.returned (.bool false)) w2):=⟨_,M2,R2,rfl,HT.out,Or.inr (Or.inr (Or.inr (Or.inl ⟨rfl,qR HX.out.1 HX.out.2 fun e _=>absurd e hk⟩)))⟩
   have s1':((⟨ys.toArray⟩:ByteArray).toList==(⟨zs.toArray⟩:ByteArray).toList)=false:=by simpa using hk
   go_wp2_with fail
   go_ret
   exact HG.out
 by_cases x4:dd=4
 ·subst x4
  have t0:((4:Int)==0)=false:=rfl
  have t1:((4:Int)==1)=false:=rfl
  have t2:((4:Int)==2)=false:=rfl
  have t3:((4:Int)==3)=false:=rfl
  have t4:((4:Int)==4)=true:=rfl
  go_wp2_with fail
  refine wp_region_held (S:=fun W'=>BoxH W' W.heap.size (⟨4,s1,s2,i3,i4,A,xs,cc⟩:HAct)) (by kernel_rfl) ?_
  change wpAnyH _ _ _ _ _ _ _ _ (W.alloc (.cells #[.int .i64 4,St s1,St s2,.int .i64 i3,.int .i64 i4,.slice A xs.length cc] 33)).drew
  rw[HW.out]
  have kd:Keeps (fun _=>False) wa wa.drew:=zac ((Below.refl _ _).drew)
  have hS:=HBX.out.keep kd (fun f=>f)
  have H2:=H1.out.new kd
  have hbr2:=kd.br HBR.out fun _ _ _ f=>f
  generalize wa.drew=wd at *
  obtain⟨vc,M2,hx⟩:∃ v X,yix M i3 xs=(v,X):=⟨_,_,rfl⟩
  obtain⟨vd,R2,hy⟩:∃ v X,ygs R i3 xs=(v,X):=⟨_,_,rfl⟩
  have hc:=ygq H2.mem H2.tab hmb hp i3 cc hbr2 hxl (fun hne ad e=>by have:=HLOW.out hne ad e;omega)
  rw[hx] at hc
  replace hc:=zyd hc
  refine sqH 0 (.pointer (some ⟨p,0,none⟩)) rfl (Or.inl ⟨by rfl,fun _ _=>rfl⟩) hS ?_
  try simp only[Act.put,sqX]
  refine sqH 1 (.pointer (some ⟨W.heap.size,3,none⟩)) rfl (Or.inl ⟨by rfl,fun _ _=>by go_simp⟩) hS ?_
  try simp only[Act.put,sqX]
  refine sqH 2 (.int .i64 i3) rfl (zai rfl 3 (.tmp 121) rfl _ _ rfl fun w h=>zal zdm h.cs.2.2.2.1) hS ?_
  try simp only[Act.put,sqX]
  refine sqH 3 (.pointer (some ⟨W.heap.size,5,none⟩)) rfl (Or.inl ⟨by rfl,fun _ _=>by go_simp⟩) hS ?_
  try simp only[Act.put,sqX]
  refine sqH 4 (.slice A xs.length cc) rfl (zai rfl 31 (.tmp 123) rfl _ _ rfl fun w h=>zal aggB9 h.cs.2.2.2.2.2) hS ?_
  try simp only[Act.put,sqX]
  refine sqH 6 (.pointer (some ⟨q,0,none⟩)) rfl (Or.inl ⟨by rfl,fun _ _=>rfl⟩) hS ?_
  try simp only[Act.put,sqX]
  refine sqH 7 (.pointer (some ⟨W.heap.size,3,none⟩)) rfl (Or.inl ⟨by rfl,fun _ _=>by go_simp⟩) hS ?_
  try simp only[Act.put,sqX]
  refine sqH 8 (.int .i64 i3) rfl (zai rfl 3 (.tmp 127) rfl _ _ rfl fun w h=>zal zdm h.cs.2.2.2.1) hS ?_
  try simp only[Act.put,sqX]
  refine sqH 9 (.pointer (some ⟨W.heap.size,5,none⟩)) rfl (Or.inl ⟨by rfl,fun _ _=>by go_simp⟩) hS ?_
  try simp only[Act.put,sqX]
  refine sqH 10 (.slice A xs.length cc) rfl (zai rfl 31 (.tmp 129) rfl _ _ rfl fun w h=>zal aggB9 h.cs.2.2.2.2.2) hS ?_
  try simp only[Act.put,sqX]
  refine wpAnyH_all (rs:=[5]) (by kernel_rfl) (by simp) fun i hi=>?_
  obtain rfl:i=5:=by simpa using hi
  refine zbf (om:=⟨_,_,_,_,_,_⟩) (fn:=19) (args:=#[.pointer (some ⟨p,0,none⟩),.int .i64 i3,.slice A xs.length cc]) (R:=fun u W'=>u=.int .i64 vc∧MemAt W' p gb mb G M2∧Keeps (fun k=>k=p∨k=mb) wd W') rfl rfl (by go_simp)
   (hc.mono fun en W' ⟨he,m,k⟩=>⟨_,he,rfl,m,k⟩) _ _ rfl rfl ?_
  rintro u w1 ⟨rfl,m1,k1⟩
  have hS:BoxH w1 W.heap.size (⟨4,s1,s2,i3,i4,A,xs,cc⟩:HAct):=BoxH.keep hS k1 (by omega)
  have r1:=H2.mid k1
  have hbr3:=k1.br hbr2 (fun ad e hne=>by have:=HLOW.out hne ad e;omega)
  have hd:=ygp r1 i3 (cb:=cc) hbr3 HA.out.cap hxl (fun hne ad e=>by have:=HLOW.out hne ad e;have:=hbs;omega)
  rw[hy] at hd
  replace hd:=zyd hd
  refine⟨hS,?_⟩
  try simp only[Act.put,sqX]
  refine wpAnyH_all (rs:=[11]) (by kernel_rfl) (by simp) fun i hi=>?_
  obtain rfl:i=11:=by simpa using hi
  refine zbf (om:=⟨_,_,_,_,_,_⟩) (fn:=31) (args:=#[.pointer (some ⟨q,0,none⟩),.int .i64 i3,.slice A xs.length cc]) (R:=fun u W'=>u=.int .i64 vd∧Dn w1 mi q b d e Gd R2 W') rfl rfl (by go_simp)
   (hd.mono fun en W' ⟨he,dn⟩=>⟨_,he,rfl,dn⟩) _ _ rfl rfl ?_
  rintro u w2 ⟨rfl,dn⟩
  have hS:BoxH w2 W.heap.size (⟨4,s1,s2,i3,i4,A,xs,cc⟩:HAct):=BoxH.keep hS dn.kp (by omega)
  refine⟨hS,?_⟩
  try simp only[Act.put,sqX]
  refine sqH 12 (.bool (vc==vd)) rfl (Or.inl ⟨by rfl,fun _ _=>by go_simp⟩) hS ?_
  try simp only[Act.put,sqX]
  refine sqH 13 (.bool (vc==vd)) rfl (Or.inl ⟨by rfl,fun _ _=>rfl⟩) hS ?_
  try simp only[Act.put,sqX]
  refine wpAnyH_done (by kernel_rfl) ?_ _
  try simp only[Act.put,sqX]
  have HG:Hid (zew lo w p gb mb mi q d e G Gd M R (⟨4,s1,s2,i3,i4,A,xs,cc⟩:HAct) (.returned (.bool (vc==vd))) w2):=⟨_,M2,R2,rfl,H2.both m1 k1 dn,Or.inr (Or.inr (Or.inr (Or.inr (Or.inl ⟨rfl,qI hx hy fun e=>by rw[e];simp⟩))))⟩
  clear hS m1 k1 r1 dn hc hd H2 kd c0 c1 c2 c3 c4 c5 hbr2 hx hy
  go_wp2_with fail
  go_ret
  exact HG.out
 by_cases x5:dd=5
 ·subst x5
  have t0:((5:Int)==0)=false:=rfl
  have t1:((5:Int)==1)=false:=rfl
  have t2:((5:Int)==2)=false:=rfl
  have t3:((5:Int)==3)=false:=rfl
  have t4:((5:Int)==4)=false:=rfl
  have t5:((5:Int)==5)=true:=rfl
  obtain⟨n,v,M2,hx⟩:∃ n v X,ycr M i3=(n,v,X):=⟨_,_,_,rfl⟩
  obtain⟨n',v',R2,hy⟩:∃ n v X,ycr R i3=(n,v,X):=⟨_,_,_,rfl⟩
  have hc:=size_c H1.out.mem i3
  rw[hx] at hc
  have HC:=zq (zqr hc)
  have HX:=zq (And.intro hx hy)
  clear hc hx hy
  go_wp2_with fail
  rw[HW.out]
  refine HC.out.mono ?_
  rintro en w1 ⟨rfl,m1,k1⟩
  have r1:=H1.out.mid k1
  have hb1:=HBX.out.keep k1 (by omega)
  obtain⟨d0,d1,d2,d3,d4,d5⟩:=hb1.cs
  simp only at d0 d1 d2 d3 d4 d5
  have hd:=size_d r1 i3
  rw[HX.out.2] at hd
  have HD1:=zq (zqr hd)
  have HCO:=zq (And.intro m1 k1)
  clear c0 c1 c2 c3 c4 c5 m1 k1 r1 hb1 HC HW hd
  go_wp2_with fail
  refine HD1.out.mono ?_
  rintro en w2 ⟨rfl,dn⟩
  have HT:=zq (H1.out.both HCO.out.1 HCO.out.2 dn)
  clear dn HD1 HCO
  by_cases hn:n=n'
  ·subst hn
   have HG:Hid (zew lo w p gb mb mi q d e G Gd M R (⟨5,s1,s2,i3,i4,A,xs,cc⟩:HAct) (.returned (.bool (v==v'))) w2):=⟨_,M2,R2,rfl,HT.out,Or.inr (Or.inr (Or.inr (Or.inr (Or.inr (Or.inl ⟨rfl,qII HX.out.1 HX.out.2 fun _ e=>by rw[e];simp⟩)))))⟩
   have s1':(n==n)=true:=by simp
   go_wp2_with fail
   go_ret
   exact HG.out
  ·have HG:Hid (zew lo w p gb mb mi q d e G Gd M R (⟨5,s1,s2,i3,i4,A,xs,cc⟩:HAct) (.returned (.bool false)) w2):=⟨_,M2,R2,rfl,HT.out,Or.inr (Or.inr (Or.inr (Or.inr (Or.inr (Or.inl ⟨rfl,qII HX.out.1 HX.out.2 fun e _=>absurd e hn⟩)))))⟩
   have s1':(n==n')=false:=by simpa using hn
   go_wp2_with fail
   go_ret
   exact HG.out
 by_cases x6:dd=6
 ·subst x6
  have t0:((6:Int)==0)=false:=rfl
  have t1:((6:Int)==1)=false:=rfl
  have t2:((6:Int)==2)=false:=rfl
  have t3:((6:Int)==3)=false:=rfl
  have t4:((6:Int)==4)=false:=rfl
  have t5:((6:Int)==5)=false:=rfl
  have t6:((6:Int)==6)=true:=rfl
  go_wp2_with fail
  refine wp_region_held (S:=fun W'=>BoxH W' W.heap.size (⟨6,s1,s2,i3,i4,A,xs,cc⟩:HAct)) (by kernel_rfl) ?_
  change wpAnyH _ _ _ _ _ _ _ _ (W.alloc (.cells #[.int .i64 6,St s1,St s2,.int .i64 i3,.int .i64 i4,.slice A xs.length cc] 33)).drew
  rw[HW.out]
  have kd:Keeps (fun _=>False) wa wa.drew:=zac ((Below.refl _ _).drew)
  have hS:=HBX.out.keep kd (fun f=>f)
  have H2:=H1.out.new kd
  have hbr2:=kd.br HBR.out fun _ _ _ f=>f
  generalize wa.drew=wd at *
  obtain⟨vc,M2,hx⟩:∃ v X,zne M i3 i4=(v,X):=⟨_,_,rfl⟩
  obtain⟨vd,R2,hy⟩:∃ v X,zne R i3 i4=(v,X):=⟨_,_,rfl⟩
  have hc:=ydg H2.mem H2.tab hmb hp i3 i4
  rw[hx] at hc
  replace hc:=zyd hc
  refine sqH 0 (.pointer (some ⟨p,0,none⟩)) rfl (Or.inl ⟨by rfl,fun _ _=>rfl⟩) hS ?_
  try simp only[Act.put,sqX]
  refine sqH 1 (.pointer (some ⟨W.heap.size,3,none⟩)) rfl (Or.inl ⟨by rfl,fun _ _=>by go_simp⟩) hS ?_
  try simp only[Act.put,sqX]
  refine sqH 2 (.int .i64 i3) rfl (zai rfl 3 (.tmp 160) rfl _ _ rfl fun w h=>zal zdm h.cs.2.2.2.1) hS ?_
  try simp only[Act.put,sqX]
  refine sqH 3 (.pointer (some ⟨W.heap.size,4,none⟩)) rfl (Or.inl ⟨by rfl,fun _ _=>by go_simp⟩) hS ?_
  try simp only[Act.put,sqX]
  refine sqH 4 (.int .i64 i4) rfl (zai rfl 3 (.tmp 162) rfl _ _ rfl fun w h=>zal zdm h.cs.2.2.2.2.1) hS ?_
  try simp only[Act.put,sqX]
  refine sqH 6 (.pointer (some ⟨q,0,none⟩)) rfl (Or.inl ⟨by rfl,fun _ _=>rfl⟩) hS ?_
  try simp only[Act.put,sqX]
  refine sqH 7 (.pointer (some ⟨W.heap.size,3,none⟩)) rfl (Or.inl ⟨by rfl,fun _ _=>by go_simp⟩) hS ?_
  try simp only[Act.put,sqX]
  refine sqH 8 (.int .i64 i3) rfl (zai rfl 3 (.tmp 166) rfl _ _ rfl fun w h=>zal zdm h.cs.2.2.2.1) hS ?_
  try simp only[Act.put,sqX]
  refine sqH 9 (.pointer (some ⟨W.heap.size,4,none⟩)) rfl (Or.inl ⟨by rfl,fun _ _=>by go_simp⟩) hS ?_
  try simp only[Act.put,sqX]
  refine sqH 10 (.int .i64 i4) rfl (zai rfl 3 (.tmp 168) rfl _ _ rfl fun w h=>zal zdm h.cs.2.2.2.2.1) hS ?_
  try simp only[Act.put,sqX]
  refine wpAnyH_all (rs:=[5]) (by kernel_rfl) (by simp) fun i hi=>?_
  obtain rfl:i=5:=by simpa using hi
  refine zbf (om:=⟨_,_,_,_,_,_⟩) (fn:=33) (args:=#[.pointer (some ⟨p,0,none⟩),.int .i64 i3,.int .i64 i4]) (R:=fun u W'=>u=.int .i64 vc∧MemAt W' p gb mb G M2∧Keeps (fun k=>k=p∨k=mb) wd W') rfl rfl (by go_simp)
   (hc.mono fun en W' ⟨he,m,k⟩=>⟨_,he,rfl,m,k⟩) _ _ rfl rfl ?_
  rintro u w1 ⟨rfl,m1,k1⟩
  have hS:BoxH w1 W.heap.size (⟨6,s1,s2,i3,i4,A,xs,cc⟩:HAct):=BoxH.keep hS k1 (by omega)
  have r1:=H2.mid k1
  have hd:=ydf r1 i3 i4 HA.out.i4_w
  rw[hy] at hd
  replace hd:=zyd hd
  refine⟨hS,?_⟩
  try simp only[Act.put,sqX]
  refine wpAnyH_all (rs:=[11]) (by kernel_rfl) (by simp) fun i hi=>?_
  obtain rfl:i=11:=by simpa using hi
  refine zbf (om:=⟨_,_,_,_,_,_⟩) (fn:=34) (args:=#[.pointer (some ⟨q,0,none⟩),.int .i64 i3,.int .i64 i4]) (R:=fun u W'=>u=.int .i64 vd∧Dn w1 mi q b d e Gd R2 W') rfl rfl (by go_simp)
   (hd.mono fun en W' ⟨he,dn⟩=>⟨_,he,rfl,dn⟩) _ _ rfl rfl ?_
  rintro u w2 ⟨rfl,dn⟩
  have hS:BoxH w2 W.heap.size (⟨6,s1,s2,i3,i4,A,xs,cc⟩:HAct):=BoxH.keep hS dn.kp (by omega)
  refine⟨hS,?_⟩
  try simp only[Act.put,sqX]
  refine sqH 12 (.bool (vc==vd)) rfl (Or.inl ⟨by rfl,fun _ _=>by go_simp⟩) hS ?_
  try simp only[Act.put,sqX]
  refine sqH 13 (.bool (vc==vd)) rfl (Or.inl ⟨by rfl,fun _ _=>rfl⟩) hS ?_
  try simp only[Act.put,sqX]
  refine wpAnyH_done (by kernel_rfl) ?_ _
  try simp only[Act.put,sqX]
  have HG:Hid (zew lo w p gb mb mi q d e G Gd M R (⟨6,s1,s2,i3,i4,A,xs,cc⟩:HAct) (.returned (.bool (vc==vd))) w2):=⟨_,M2,R2,rfl,H2.both m1 k1 dn,Or.inr (Or.inr (Or.inr (Or.inr (Or.inr (Or.inr (Or.inl ⟨rfl,qI hx hy fun e=>by rw[e];simp⟩))))))⟩
  clear hS m1 k1 r1 dn hc hd H2 kd c0 c1 c2 c3 c4 c5 hbr2 hx hy
  go_wp2_with fail
  go_ret
  exact HG.out
 by_cases x7:dd=7
 ·subst x7
  have t0:((7:Int)==0)=false:=rfl
  have t1:((7:Int)==1)=false:=rfl
  have t2:((7:Int)==2)=false:=rfl
  have t3:((7:Int)==3)=false:=rfl
  have t4:((7:Int)==4)=false:=rfl
  have t5:((7:Int)==5)=false:=rfl
  have t6:((7:Int)==6)=false:=rfl
  have t7:((7:Int)==7)=true:=rfl
  obtain⟨n,v,M2,hx⟩:∃ n v X,yct M i3=(n,v,X):=⟨_,_,_,rfl⟩
  obtain⟨n',v',R2,hy⟩:∃ n v X,yct R i3=(n,v,X):=⟨_,_,_,rfl⟩
  have hc:=yhc H1.out.mem i3
  rw[hx] at hc
  have HC:=zq (zqr hc)
  have HX:=zq (And.intro hx hy)
  clear hc hx hy
  go_wp2_with fail
  rw[HW.out]
  refine HC.out.mono ?_
  rintro en w1 ⟨rfl,m1,k1⟩
  have r1:=H1.out.mid k1
  have hb1:=HBX.out.keep k1 (by omega)
  obtain⟨d0,d1,d2,d3,d4,d5⟩:=hb1.cs
  simp only at d0 d1 d2 d3 d4 d5
  have hd:=yhb r1 i3
  rw[HX.out.2] at hd
  have HD1:=zq (zqr hd)
  have HCO:=zq (And.intro m1 k1)
  clear c0 c1 c2 c3 c4 c5 m1 k1 r1 hb1 HC HW hd
  go_wp2_with fail
  refine HD1.out.mono ?_
  rintro en w2 ⟨rfl,dn⟩
  have HT:=zq (H1.out.both HCO.out.1 HCO.out.2 dn)
  clear dn HD1 HCO
  by_cases hn:n=n'
  ·subst hn
   have HG:Hid (zew lo w p gb mb mi q d e G Gd M R (⟨7,s1,s2,i3,i4,A,xs,cc⟩:HAct) (.returned (.bool (v==v'))) w2):=⟨_,M2,R2,rfl,HT.out,Or.inr (Or.inr (Or.inr (Or.inr (Or.inr (Or.inr (Or.inr (Or.inl ⟨rfl,qII HX.out.1 HX.out.2 fun _ e=>by rw[e];simp⟩)))))))⟩
   have s1':(n==n)=true:=by simp
   go_wp2_with fail
   go_ret
   exact HG.out
  ·have HG:Hid (zew lo w p gb mb mi q d e G Gd M R (⟨7,s1,s2,i3,i4,A,xs,cc⟩:HAct) (.returned (.bool false)) w2):=⟨_,M2,R2,rfl,HT.out,Or.inr (Or.inr (Or.inr (Or.inr (Or.inr (Or.inr (Or.inr (Or.inl ⟨rfl,qII HX.out.1 HX.out.2 fun e _=>absurd e hn⟩)))))))⟩
   have s1':(n==n')=false:=by simpa using hn
   go_wp2_with fail
   go_ret
   exact HG.out
 by_cases x8:dd=8
 ·subst x8
  have t0:((8:Int)==0)=false:=rfl
  have t1:((8:Int)==1)=false:=rfl
  have t2:((8:Int)==2)=false:=rfl
  have t3:((8:Int)==3)=false:=rfl
  have t4:((8:Int)==4)=false:=rfl
  have t5:((8:Int)==5)=false:=rfl
  have t6:((8:Int)==6)=false:=rfl
  have t7:((8:Int)==7)=false:=rfl
  have t8:((8:Int)==8)=true:=rfl
  go_wp2_with fail
  refine wp_region_held (S:=fun W'=>BoxH W' W.heap.size (⟨8,s1,s2,i3,i4,A,xs,cc⟩:HAct)) (by kernel_rfl) ?_
  change wpAnyH _ _ _ _ _ _ _ _ (W.alloc (.cells #[.int .i64 8,St s1,St s2,.int .i64 i3,.int .i64 i4,.slice A xs.length cc] 33)).drew
  rw[HW.out]
  have kd:Keeps (fun _=>False) wa wa.drew:=zac ((Below.refl _ _).drew)
  have hS:=HBX.out.keep kd (fun f=>f)
  have H2:=H1.out.new kd
  have hbr2:=kd.br HBR.out fun _ _ _ f=>f
  generalize wa.drew=wd at *
  obtain⟨vc,M2,hx⟩:∃ v X,yiy M i3 i4=(v,X):=⟨_,_,rfl⟩
  obtain⟨vd,R2,hy⟩:∃ v X,yg0 R i3 i4=(v,X):=⟨_,_,rfl⟩
  have hc:=seek_c H2.mem i3 i4
  rw[hx] at hc
  replace hc:=zyd hc
  refine sqH 0 (.pointer (some ⟨p,0,none⟩)) rfl (Or.inl ⟨by rfl,fun _ _=>rfl⟩) hS ?_
  try simp only[Act.put,sqX]
  refine sqH 1 (.pointer (some ⟨W.heap.size,3,none⟩)) rfl (Or.inl ⟨by rfl,fun _ _=>by go_simp⟩) hS ?_
  try simp only[Act.put,sqX]
  refine sqH 2 (.int .i64 i3) rfl (zai rfl 3 (.tmp 199) rfl _ _ rfl fun w h=>zal zdm h.cs.2.2.2.1) hS ?_
  try simp only[Act.put,sqX]
  refine sqH 3 (.pointer (some ⟨W.heap.size,4,none⟩)) rfl (Or.inl ⟨by rfl,fun _ _=>by go_simp⟩) hS ?_
  try simp only[Act.put,sqX]
  refine sqH 4 (.int .i64 i4) rfl (zai rfl 3 (.tmp 201) rfl _ _ rfl fun w h=>zal zdm h.cs.2.2.2.2.1) hS ?_
  try simp only[Act.put,sqX]
  refine sqH 6 (.pointer (some ⟨q,0,none⟩)) rfl (Or.inl ⟨by rfl,fun _ _=>rfl⟩) hS ?_
  try simp only[Act.put,sqX]
  refine sqH 7 (.pointer (some ⟨W.heap.size,3,none⟩)) rfl (Or.inl ⟨by rfl,fun _ _=>by go_simp⟩) hS ?_
  try simp only[Act.put,sqX]
  refine sqH 8 (.int .i64 i3) rfl (zai rfl 3 (.tmp 205) rfl _ _ rfl fun w h=>zal zdm h.cs.2.2.2.1) hS ?_
  try simp only[Act.put,sqX]
  refine sqH 9 (.pointer (some ⟨W.heap.size,4,none⟩)) rfl (Or.inl ⟨by rfl,fun _ _=>by go_simp⟩) hS ?_
  try simp only[Act.put,sqX]
  refine sqH 10 (.int .i64 i4) rfl (zai rfl 3 (.tmp 207) rfl _ _ rfl fun w h=>zal zdm h.cs.2.2.2.2.1) hS ?_
  try simp only[Act.put,sqX]
  refine wpAnyH_all (rs:=[5]) (by kernel_rfl) (by simp) fun i hi=>?_
  obtain rfl:i=5:=by simpa using hi
  refine zbf (om:=⟨_,_,_,_,_,_⟩) (fn:=36) (args:=#[.pointer (some ⟨p,0,none⟩),.int .i64 i3,.int .i64 i4]) (R:=fun u W'=>u=.int .i64 vc∧MemAt W' p gb mb G M2∧Keeps (fun k=>k=p∨k=mb) wd W') rfl rfl (by go_simp)
   (hc.mono fun en W' ⟨he,m,k⟩=>⟨_,he,rfl,m,k⟩) _ _ rfl rfl ?_
  rintro u w1 ⟨rfl,m1,k1⟩
  have hS:BoxH w1 W.heap.size (⟨8,s1,s2,i3,i4,A,xs,cc⟩:HAct):=BoxH.keep hS k1 (by omega)
  have r1:=H2.mid k1
  have hd:=seek_d r1 i3 i4 HA.out.i4_w
  rw[hy] at hd
  replace hd:=zyd hd
  refine⟨hS,?_⟩
  try simp only[Act.put,sqX]
  refine wpAnyH_all (rs:=[11]) (by kernel_rfl) (by simp) fun i hi=>?_
  obtain rfl:i=11:=by simpa using hi
  refine zbf (om:=⟨_,_,_,_,_,_⟩) (fn:=37) (args:=#[.pointer (some ⟨q,0,none⟩),.int .i64 i3,.int .i64 i4]) (R:=fun u W'=>u=.int .i64 vd∧Dn w1 mi q b d e Gd R2 W') rfl rfl (by go_simp)
   (hd.mono fun en W' ⟨he,dn⟩=>⟨_,he,rfl,dn⟩) _ _ rfl rfl ?_
  rintro u w2 ⟨rfl,dn⟩
  have hS:BoxH w2 W.heap.size (⟨8,s1,s2,i3,i4,A,xs,cc⟩:HAct):=BoxH.keep hS dn.kp (by omega)
  refine⟨hS,?_⟩
  try simp only[Act.put,sqX]
  refine sqH 12 (.bool (vc==vd)) rfl (Or.inl ⟨by rfl,fun _ _=>by go_simp⟩) hS ?_
  try simp only[Act.put,sqX]
  refine sqH 13 (.bool (vc==vd)) rfl (Or.inl ⟨by rfl,fun _ _=>rfl⟩) hS ?_
  try simp only[Act.put,sqX]
  refine wpAnyH_done (by kernel_rfl) ?_ _
  try simp only[Act.put,sqX]
  have HG:Hid (zew lo w p gb mb mi q d e G Gd M R (⟨8,s1,s2,i3,i4,A,xs,cc⟩:HAct) (.returned (.bool (vc==vd))) w2):=⟨_,M2,R2,rfl,H2.both m1 k1 dn,Or.inr (Or.inr (Or.inr (Or.inr (Or.inr (Or.inr (Or.inr (Or.inr (Or.inl ⟨rfl,qI hx hy fun e=>by rw[e];simp⟩))))))))⟩
  clear hS m1 k1 r1 dn hc hd H2 kd c0 c1 c2 c3 c4 c5 hbr2 hx hy
  go_wp2_with fail
  go_ret
  exact HG.out
 by_cases x9:dd=9
 ·subst x9
  have t0:((9:Int)==0)=false:=rfl
  have t1:((9:Int)==1)=false:=rfl
  have t2:((9:Int)==2)=false:=rfl
  have t3:((9:Int)==3)=false:=rfl
  have t4:((9:Int)==4)=false:=rfl
  have t5:((9:Int)==5)=false:=rfl
  have t6:((9:Int)==6)=false:=rfl
  have t7:((9:Int)==7)=false:=rfl
  have t8:((9:Int)==8)=false:=rfl
  have t9:((9:Int)==9)=true:=rfl
  go_wp2_with fail
  refine wp_region_held (S:=fun W'=>BoxH W' W.heap.size (⟨9,s1,s2,i3,i4,A,xs,cc⟩:HAct)) (by kernel_rfl) ?_
  change wpAnyH _ _ _ _ _ _ _ _ (W.alloc (.cells #[.int .i64 9,St s1,St s2,.int .i64 i3,.int .i64 i4,.slice A xs.length cc] 33)).drew
  rw[HW.out]
  have kd:Keeps (fun _=>False) wa wa.drew:=zac ((Below.refl _ _).drew)
  have hS:=HBX.out.keep kd (fun f=>f)
  have H2:=H1.out.new kd
  have hbr2:=kd.br HBR.out fun _ _ _ f=>f
  generalize wa.drew=wd at *
  obtain⟨vc,M2,hx⟩:∃ v X,yfb M s1=(v,X):=⟨_,_,rfl⟩
  obtain⟨vd,R2,hy⟩:∃ v X,ycv R s1=(v,X):=⟨_,_,rfl⟩
  have hc:=yb2 H2.mem s1 HA.out.s1_w
  rw[hx] at hc
  replace hc:=zyd hc
  refine sqH 0 (.pointer (some ⟨p,0,none⟩)) rfl (Or.inl ⟨by rfl,fun _ _=>rfl⟩) hS ?_
  try simp only[Act.put,sqX]
  refine sqH 1 (.pointer (some ⟨W.heap.size,1,none⟩)) rfl (Or.inl ⟨by rfl,fun _ _=>by go_simp⟩) hS ?_
  try simp only[Act.put,sqX]
  refine sqH 2 (St s1) rfl (zai rfl 9 (.tmp 214) rfl _ _ rfl fun w h=>zal zhb h.cs.2.1) hS ?_
  try simp only[Act.put,sqX]
  refine sqH 4 (.pointer (some ⟨q,0,none⟩)) rfl (Or.inl ⟨by rfl,fun _ _=>rfl⟩) hS ?_
  try simp only[Act.put,sqX]
  refine sqH 5 (.pointer (some ⟨W.heap.size,1,none⟩)) rfl (Or.inl ⟨by rfl,fun _ _=>by go_simp⟩) hS ?_
  try simp only[Act.put,sqX]
  refine sqH 6 (St s1) rfl (zai rfl 9 (.tmp 218) rfl _ _ rfl fun w h=>zal zhb h.cs.2.1) hS ?_
  try simp only[Act.put,sqX]
  refine wpAnyH_all (rs:=[3]) (by kernel_rfl) (by simp) fun i hi=>?_
  obtain rfl:i=3:=by simpa using hi
  refine zbf (om:=⟨_,_,_,_,_,_⟩) (fn:=38) (args:=#[.pointer (some ⟨p,0,none⟩),St s1]) (R:=fun u W'=>u=.int .i64 vc∧MemAt W' p gb mb G M2∧Keeps (fun k=>k=p∨k=mb) wd W') rfl rfl (by go_simp)
   (hc.mono fun en W' ⟨he,m,k⟩=>⟨_,he,rfl,m,k⟩) _ _ rfl rfl ?_
  rintro u w1 ⟨rfl,m1,k1⟩
  have hS:BoxH w1 W.heap.size (⟨9,s1,s2,i3,i4,A,xs,cc⟩:HAct):=BoxH.keep hS k1 (by omega)
  have r1:=H2.mid k1
  have hd:=zzf r1 s1 HA.out.s1_w
  rw[hy] at hd
  replace hd:=zyd hd
  refine⟨hS,?_⟩
  try simp only[Act.put,sqX]
  refine wpAnyH_all (rs:=[7]) (by kernel_rfl) (by simp) fun i hi=>?_
  obtain rfl:i=7:=by simpa using hi
  refine zbf (om:=⟨_,_,_,_,_,_⟩) (fn:=39) (args:=#[.pointer (some ⟨q,0,none⟩),St s1]) (R:=fun u W'=>u=.int .i64 vd∧Dn w1 mi q b d e Gd R2 W') rfl rfl (by go_simp)
   (hd.mono fun en W' ⟨he,dn⟩=>⟨_,he,rfl,dn⟩) _ _ rfl rfl ?_
  rintro u w2 ⟨rfl,dn⟩
  have hS:BoxH w2 W.heap.size (⟨9,s1,s2,i3,i4,A,xs,cc⟩:HAct):=BoxH.keep hS dn.kp (by omega)
  refine⟨hS,?_⟩
  try simp only[Act.put,sqX]
  refine sqH 8 (.bool (vc==vd)) rfl (Or.inl ⟨by rfl,fun _ _=>by go_simp⟩) hS ?_
  try simp only[Act.put,sqX]
  refine sqH 9 (.bool (vc==vd)) rfl (Or.inl ⟨by rfl,fun _ _=>rfl⟩) hS ?_
  try simp only[Act.put,sqX]
  refine wpAnyH_done (by kernel_rfl) ?_ _
  try simp only[Act.put,sqX]
  have HG:Hid (zew lo w p gb mb mi q d e G Gd M R (⟨9,s1,s2,i3,i4,A,xs,cc⟩:HAct) (.returned (.bool (vc==vd))) w2):=⟨_,M2,R2,rfl,H2.both m1 k1 dn,Or.inr (Or.inr (Or.inr (Or.inr (Or.inr (Or.inr (Or.inr (Or.inr (Or.inr (Or.inl ⟨rfl,qI hx hy fun e=>by rw[e];simp⟩)))))))))⟩
  clear hS m1 k1 r1 dn hc hd H2 kd c0 c1 c2 c3 c4 c5 hbr2 hx hy
  go_wp2_with fail
  go_ret
  exact HG.out
 have t0:(dd==0)=false:=by simp[x0]
 have t1:(dd==1)=false:=by simp[x1]
 have t2:(dd==2)=false:=by simp[x2]
 have t3:(dd==3)=false:=by simp[x3]
 have t4:(dd==4)=false:=by simp[x4]
 have t5:(dd==5)=false:=by simp[x5]
 have t6:(dd==6)=false:=by simp[x6]
 have t7:(dd==7)=false:=by simp[x7]
 have t8:(dd==8)=false:=by simp[x8]
 have t9:(dd==9)=false:=by simp[x9]
 go_wp2_with fail
 refine wp_region_held (S:=fun W'=>BoxH W' W.heap.size (⟨dd,s1,s2,i3,i4,A,xs,cc⟩:HAct)) (by kernel_rfl) ?_
 change wpAnyH _ _ _ _ _ _ _ _ (W.alloc (.cells #[.int .i64 dd,St s1,St s2,.int .i64 i3,.int .i64 i4,.slice A xs.length cc] 33)).drew
 rw[HW.out]
 have kd:Keeps (fun _=>False) wa wa.drew:=zac ((Below.refl _ _).drew)
 have hS:=HBX.out.keep kd (fun f=>f)
 have H2:=H1.out.new kd
 have hbr2:=kd.br HBR.out fun _ _ _ f=>f
 generalize wa.drew=wd at *
 obtain⟨vc,M2,hx⟩:∃ v X,ycs M s1 s2=(v,X):=⟨_,_,rfl⟩
 obtain⟨vd,R2,hy⟩:∃ v X,ycs R s1 s2=(v,X):=⟨_,_,rfl⟩
 have hc:=ydi H2.mem s1 s2 HA.out.s1_w HA.out.s2_w
 rw[hx] at hc
 replace hc:=zyd hc
 refine sqH 0 (.pointer (some ⟨p,0,none⟩)) rfl (Or.inl ⟨by rfl,fun _ _=>rfl⟩) hS ?_
 try simp only[Act.put,sqX]
 refine sqH 1 (.pointer (some ⟨W.heap.size,1,none⟩)) rfl (Or.inl ⟨by rfl,fun _ _=>by go_simp⟩) hS ?_
 try simp only[Act.put,sqX]
 refine sqH 2 (St s1) rfl (zai rfl 9 (.tmp 223) rfl _ _ rfl fun w h=>zal zhb h.cs.2.1) hS ?_
 try simp only[Act.put,sqX]
 refine sqH 3 (.pointer (some ⟨W.heap.size,2,none⟩)) rfl (Or.inl ⟨by rfl,fun _ _=>by go_simp⟩) hS ?_
 try simp only[Act.put,sqX]
 refine sqH 4 (St s2) rfl (zai rfl 9 (.tmp 225) rfl _ _ rfl fun w h=>zal zhb h.cs.2.2.1) hS ?_
 try simp only[Act.put,sqX]
 refine sqH 6 (.pointer (some ⟨q,0,none⟩)) rfl (Or.inl ⟨by rfl,fun _ _=>rfl⟩) hS ?_
 try simp only[Act.put,sqX]
 refine sqH 7 (.pointer (some ⟨W.heap.size,1,none⟩)) rfl (Or.inl ⟨by rfl,fun _ _=>by go_simp⟩) hS ?_
 try simp only[Act.put,sqX]
 refine sqH 8 (St s1) rfl (zai rfl 9 (.tmp 229) rfl _ _ rfl fun w h=>zal zhb h.cs.2.1) hS ?_
 try simp only[Act.put,sqX]
 refine sqH 9 (.pointer (some ⟨W.heap.size,2,none⟩)) rfl (Or.inl ⟨by rfl,fun _ _=>by go_simp⟩) hS ?_
 try simp only[Act.put,sqX]
 refine sqH 10 (St s2) rfl (zai rfl 9 (.tmp 231) rfl _ _ rfl fun w h=>zal zhb h.cs.2.2.1) hS ?_
 try simp only[Act.put,sqX]
 refine wpAnyH_all (rs:=[5]) (by kernel_rfl) (by simp) fun i hi=>?_
 obtain rfl:i=5:=by simpa using hi
 refine zbf (om:=⟨_,_,_,_,_,_⟩) (fn:=40) (args:=#[.pointer (some ⟨p,0,none⟩),St s1,St s2]) (R:=fun u W'=>u=.int .i64 vc∧MemAt W' p gb mb G M2∧Keeps (fun k=>k=p∨k=mb) wd W') rfl rfl (by go_simp)
  (hc.mono fun en W' ⟨he,m,k⟩=>⟨_,he,rfl,m,k⟩) _ _ rfl rfl ?_
 rintro u w1 ⟨rfl,m1,k1⟩
 have hS:BoxH w1 W.heap.size (⟨dd,s1,s2,i3,i4,A,xs,cc⟩:HAct):=BoxH.keep hS k1 (by omega)
 have r1:=H2.mid k1
 have hd:=ydh r1 s1 s2 HA.out.s1_w HA.out.s2_w
 rw[hy] at hd
 replace hd:=zyd hd
 refine⟨hS,?_⟩
 try simp only[Act.put,sqX]
 refine wpAnyH_all (rs:=[11]) (by kernel_rfl) (by simp) fun i hi=>?_
 obtain rfl:i=11:=by simpa using hi
 refine zbf (om:=⟨_,_,_,_,_,_⟩) (fn:=41) (args:=#[.pointer (some ⟨q,0,none⟩),St s1,St s2]) (R:=fun u W'=>u=.int .i64 vd∧Dn w1 mi q b d e Gd R2 W') rfl rfl (by go_simp)
  (hd.mono fun en W' ⟨he,dn⟩=>⟨_,he,rfl,dn⟩) _ _ rfl rfl ?_
 rintro u w2 ⟨rfl,dn⟩
 have hS:BoxH w2 W.heap.size (⟨dd,s1,s2,i3,i4,A,xs,cc⟩:HAct):=BoxH.keep hS dn.kp (by omega)
 refine⟨hS,?_⟩
 try simp only[Act.put,sqX]
 refine sqH 12 (.bool (vc==vd)) rfl (Or.inl ⟨by rfl,fun _ _=>by go_simp⟩) hS ?_
 try simp only[Act.put,sqX]
 refine sqH 13 (.bool (vc==vd)) rfl (Or.inl ⟨by rfl,fun _ _=>rfl⟩) hS ?_
 try simp only[Act.put,sqX]
 refine wpAnyH_done (by kernel_rfl) ?_ _
 try simp only[Act.put,sqX]
 have HG:Hid (zew lo w p gb mb mi q d e G Gd M R (⟨dd,s1,s2,i3,i4,A,xs,cc⟩:HAct) (.returned (.bool (vc==vd))) w2):=⟨_,M2,R2,rfl,H2.both m1 k1 dn,Or.inr (Or.inr (Or.inr (Or.inr (Or.inr (Or.inr (Or.inr (Or.inr (Or.inr (Or.inr (qI hx hy fun e=>by rw[e];simp))))))))))⟩
 clear hS m1 k1 r1 dn hc hd H2 kd c0 c1 c2 c3 c4 c5 hbr2 hx hy
 go_wp2_with fail
 go_ret
 exact HG.out
end Hd
end Go.Proofs.YtdopfpcjpjlkmaaGreatDoor
