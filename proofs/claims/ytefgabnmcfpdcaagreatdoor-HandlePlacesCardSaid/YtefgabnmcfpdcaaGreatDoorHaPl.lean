/-
  HaPl
-/
import Derived.Test.YtefgabnmcfpdcaaGreatDoorGHh
import Derived.Test.YtefgabnmcfpdcaaGreatDoorGHi
set_option maxHeartbeats 4000000
set_option maxRecDepth 100000
set_option linter.unusedSimpArgs false
set_option linter.unusedVariables false
namespace Go.Proofs.YtefgabnmcfpdcaaGreatDoor.Hd
open Go.RowKit Ex Ino Mm Fs Fr
theorem HActR.more {w:World} {B B':Nat} {A:Option Addr} {l:List HAct} (h:HActR w B A l)(hB:B≤B'):HActR w B' A l:=fun hn=>by
 obtain⟨ad,e,hlt,hc⟩:=h hn
 exact⟨ad,e,Nat.lt_of_lt_of_le hlt hB,hc⟩
theorem zvb {lo:Nat} {w W:World} {p gb mb mi q d e:Nat} {G Gd M R:List UInt8} (h:TwoH lo w p gb mb mi q d e G Gd M R W)(hlo:w.heap.size≤lo):Below w.heap.size w W:=by
 obtain⟨b,c,h⟩:=h
 exact⟨h.kp.os,h.kp.tape,h.kp.output,h.kp.size,fun k hk=>h.kp.block k hk (by omega)⟩
theorem TwoH.new {lo:Nat} {w W W':World} {p gb mb mi q d e:Nat} {G Gd M R:List UInt8} (h:TwoH lo w p gb mb mi q d e G Gd M R W)(k:Keeps (fun _=>False) W W'):TwoH lo w p gb mb mi q d e G Gd M R W':=by
 obtain⟨b,c,h⟩:=h
 exact⟨b,c,h.new k⟩
set_option maxRecDepth 100000 in
theorem ydd (A0:Option Addr)(n0 c0:Nat)(A:Option Addr)(l:List HAct)(c:Nat)(w:World)(h:HActR w w.heap.size A l)(hl:l.length≤1759218604441):
  Calls Tryz.prog 18 #[.slice A0 n0 c0,.slice A l.length c] w (FewOut w):=by
 go_enter Tryz.func18,Tryz.ntmps18
 go_wp2_with fail
 go_loopw [12,5,7] (fun i s _ wr=>∃ (k:Nat) (n:Int),k≤l.length∧i=.int .i64 k∧s=.int .i64 n∧Below w.heap.size w wr) (fun i _ _ _=>l.length-(RowKit.intOf i).toNat)
 case atStart=>exact⟨0,_,by omega,rfl,rfl,Below.refl _ _⟩
 case round =>
  obtain⟨k,n,hk,rfl,rfl,hb⟩:=hrel
  by_cases hlt:k<l.length
  ·have h1:=h.below hb
   obtain⟨ad,rfl,hlb,d0,d1,d2,d3,d4,d5⟩:=h1.at_ hlt
   generalize l[k]=a at *
   clear h h1
   have hsz:=hb.size
   go_wp2_with fail
   all_goals
    go_roundw
    case rel=>exact⟨k+1,_,by omega,by go_num,rfl,hb.alloc hsz _⟩
    case measure=>simp[RowKit.intOf];omega
  ·go_wp2_with fail
   go_ret
   exact⟨⟨_,rfl⟩,hb⟩
def AskR (w:World) (p gb mb:Nat) (G M:List UInt8) (L:List Nat) (R:Option Addr) (j:Nat) (wr:World):Prop:=
 MemAt wr p gb mb G M∧Keeps (fun k=>k=p∨k=mb) w wr∧IR wr R L∧∀ ad,R=some ad→w.heap.size≤ad.block
set_option maxRecDepth 100000 in
theorem zvy (w:World)(hT:Tab w)(A0:Option Addr)(xs:List UInt8)(c0:Nat)(hx:BR w w.heap.size A0 xs)(A:Option Addr)(l:List HAct)(cl:Nat)(hl:HActsOk w A l)(hlen:l.length≤1759218604441)(hw:∀ a∈l,a.xs.length≤140737488351232):
  Calls Tryz.prog 7 #[.slice A0 xs.length c0,.slice A l.length cl] w (fun e w'=>e=.returned (.bool true)∧Below w.heap.size w w'):=by
 have HT:=hq hT
 have HL:=hq hl
 have HW:=hq hw
 have HX:=hq hx
 clear hT hl hw hx
 go_enter Tryz.func7,Tryz.ntmps7
 go_wp2_with fail
 refine(zwh _ HT.out).mono ?_
 rintro e u1 ⟨rfl,b1⟩
 go_wp2_with fail
 refine(ydd A0 xs.length c0 A l cl u1 (HActR.more (HL.out.ar.below b1) b1.size) hlen).mono ?_
 rintro e u2 ⟨⟨bb,rfl⟩,bf⟩
 have b2:=b1.trans (bf.mono b1.size)
 clear b1 bf
 cases bb
 ·go_wp2_with fail
  go_ret
  exact⟨rfl,b2⟩
 go_wp2_with fail
 refine(zls A0 xs c0 u2 ((HX.out.below b2).more b2.size)).mono ?_
 rintro e u3 ⟨p,gb,mb,rfl,p1,p2,p3,hm,k3⟩
 have kk3:=(zac (F:=fun _=>False) b2).trans k3
 have HM:=hq hm
 have KK3:=hq kk3
 have HF:=hq (zx7 A0 xs c0 u3 (kk3.br HX.out fun _ _ _ f=>f))
 have P:=hq (show w.heap.size≤p∧w.heap.size≤mb from by have:=b2.size;omega)
 clear hm k3 kk3 b2 p1 p2 p3
 go_wp2_with fail
 refine HF.out.mono ?_
 rintro e u4 ⟨q,rfl,⟨b,c,d,e,hr⟩,k4⟩
 have H0:Hid (TwoH w.heap.size w p gb mb u3.heap.size q d e (zc8 xs) (zc8 xs) (zc8 xs) (zc8 xs) u4):=by
  have hlt:=HM.out.lt
  have hkk:=KK3.out.trans k4
  exact⟨b,c,HM.out.keep k4 (fun f=>f) (fun f=>f) (fun f=>f),hr,HT.out.keep (hkk.block 0 HT.out.pos (fun f=>f)),⟨by omega,by omega,by omega,P.out.1,P.out.2,HT.out.pos⟩,hkk.mono fun _ _ f=>f.elim⟩
 clear hr k4 HF HM KK3
 generalize zc8 xs=Z at *
 go_wp2_with fail
 go_loopw [8,10,11,12,13,14,29] (fun _ _ _ _ _ _ i wr=>∃ (k:Nat) (M R:List UInt8),k≤l.length∧i=.int .i64 (k:Int)∧TwoH w.heap.size w p gb mb u3.heap.size q d e Z Z M R wr) (fun _ _ _ _ _ _ i _=>l.length-(RowKit.intOf i).toNat)
 case atStart=>exact⟨0,_,_,by omega,rfl,H0.out⟩
 case round =>
  clear H0
  obtain⟨k,M,R,hk,rfl,htw⟩:=hrel
  have hbw:=zvb htw (Nat.le_refl _)
  by_cases hlt:k<l.length
  ·obtain⟨ad,rfl,hlb,d0,d1,d2,d3,d4,d5⟩:=(HL.out.ar.below hbw).at_ hlt
   have hmem:l[k]∈l:=List.getElem_mem hlt
   have ok:=HL.out.ok _ hmem
   have hml:=HW.out _ hmem
   clear hmem
   generalize l[k]=a at *
   have kA:Keeps (fun _=>False) wr (wr.alloc (.cells (zeu a).toArray 42)):=Keeps.alloc _ _ _
   have hlow:a.xs≠[]→∀ ad,a.A=some ad→ad.block<w.heap.size:=fun hne ad e=>by
    obtain⟨ad',e',hl',_⟩:=ok.br hne
    rw[e] at e'
    cases e'
    exact hl'
   have okA:a.Ok (wr.alloc (.cells (zeu a).toArray 42)):=⟨ok.do__w,ok.s1_w,ok.s2_w,ok.i3_w,ok.i4_w,kA.br ((ok.br.below hbw).more hbw.size) (fun _ _ _ f=>f),ok.cap⟩
   have hmb:mb≠0∧p≠0:=by have:=P.out;have:=HT.out.pos;omega
   have HAC:=hq (ydh (htw.new kA) hmb.1 hmb.2 a okA (by omega) hlow)
   have d9:decide ((k:Int)<(l.length:Int))=true:=by simp only[decide_eq_true_eq];omega
   have p0:(0:Int)≤k:=by omega
   have p1:(k:Int)<l.length:=by omega
   have q3:IntKind.i64.wrap ((k:Int)+1)=(k:Int)+1:=by rw[IntKind.wrap_i64];omega
   clear htw hbw ok hml kA hlow okA hmb
   go_wp2_with fail
   refine HAC.out.mono ?_
   rintro e u7 ⟨β,M2,R2,rfl,⟨b2,c2,h7⟩,_⟩
   have HOP:=hq (zsi h7.mem)
   have H7:=hq h7
   clear h7 HAC
   go_wp2_with fail
   refine HOP.out.mono ?_
   rintro e u8 ⟨⟨RR,cp,rfl,own⟩,m8,k8⟩
   have hnew:∀ ad,RR=some ad→u7.heap.size≤ad.block:=fun ad e=>(World.ownsRow.lt own ad.block (by rw[e];rfl)).1
   have HST:Hid (AskR u7 p gb mb Z M2 (opL M2) RR 0 u8):=⟨m8,k8,own.ir,hnew⟩
   have HMEM:=hq (fun x (h:x∈opL M2)=>(zrq M2 4 x).1 h)
   have HLE:=hq (show(opL M2).length≤4 from zoc M2 4)
   clear own m8 k8 hnew HOP
   generalize hLL:opL M2=L at *
   go_wp2_with fail
   go_loopw [10,11,12,13,14,40] (fun _ _ _ _ _ i wx=>∃ j:Nat,j≤L.length∧i=.int .i64 (j:Int)∧AskR u7 p gb mb Z M2 L RR j wx) (fun _ _ _ _ _ i _=>L.length-(RowKit.intOf i).toNat)
   case atStart=>exact⟨0,by omega,rfl,HST.out⟩
   case round =>
    clear HST
    obtain⟨j,hj,rfl,mx,kx,hir,hnew⟩:=hrel
    by_cases hlj:j<L.length
    ·obtain⟨gr,rfl,hgr,cj⟩:=hir.at_ hlj
     have hgw:=hnew _ rfl
     obtain⟨m1,m4,hopb⟩:=HMEM.out L[j] (List.getElem_mem hlj)
     have hopx:=(zhz M2 L[j]).1 hopb
     have hox:=hopx.1
     have hiso:isO M2 L[j]=true:=by have:=hopx.2.2.2;rwa [Int.toNat_natCast] at this
     have hob:=zbt mx.ml hox L[j] hiso
     have hpb:=zds L[j] hob.2.1
     have HP:=hq (zjr mx hox L[j] m1 m4 hiso)
     have HSZ:=hq (fun W' (m:MemAt W' p gb mb Z M2)=>zs8 m hox L[j] m1 m4 hiso)
     have e9:decide ((j:Int)<(L.length:Int))=true:=by simp only[decide_eq_true_eq];omega
     have r0:(0:Int)≤j:=by omega
     have r1:(j:Int)<L.length:=by omega
     have wj:IntKind.i64.wrap ((j:Int)+1)=(j:Int)+1:=by have:=HLE.out;rw[IntKind.wrap_i64];omega
     have HK:=hq (And.intro kx (And.intro hir (And.intro hgw hgr)))
     clear mx kx hir hnew hopb hopx hox hiso
     generalize L[j]=x at *
     generalize Hd.hL M2 x=pl at *
     generalize hS M2 x=sz at *
     have f1:decide (pl<0)=false:=by simp;omega
     have f2:decide (sz<pl)=false:=by simp;omega
     have f3:decide ((x:Int)<1)=false:=by simp;omega
     have f4:decide (4<(x:Int))=false:=by simp;omega
     clear hob hpb m1 m4
     go_wp2_with fail
     refine HP.out.mono ?_
     rintro e u9 ⟨rfl,m9,k9⟩
     have HS2:=hq (HSZ.out u9 m9)
     have HK9:=hq k9
     clear m9 k9 HP HSZ
     go_wp2_with fail
     refine HS2.out.mono ?_
     rintro e u10 ⟨rfl,m10,k10⟩
     have hk:=HK.out
     have HG:Hid (AskR u7 p gb mb Z M2 L (some ⟨gr,0,none⟩) (j+1) u10):=by
      have hb:=H7.out.bs
      exact⟨m10,(hk.1.trans HK9.out).trans k10,IR.via (IR.via hk.2.1 HK9.out (fun ad e=>by cases e;show ¬(gr=p∨gr=mb);have:u7.heap.size≤gr:=hk.2.2.1;omega)) k10 (fun ad e=>by cases e;show ¬(gr=p∨gr=mb);have:u7.heap.size≤gr:=hk.2.2.1;omega),fun ad e=>by cases e;exact hk.2.2.1⟩
     clear m10 k10 hk HK HK9 HS2 cj
     go_wp2_with fail
     go_roundw
     case rel=>exact⟨j+1,by omega,by go_num,HG.out⟩
     case measure=>simp[RowKit.intOf];omega
    ·obtain rfl:j=L.length:=by omega
     have e9:decide ((L.length:Int)<(L.length:Int))=false:=by simp
     have HG:Hid (TwoH w.heap.size w p gb mb u3.heap.size q d e Z Z M2 R2 wr):=H7.out.both mx kx (Dn.quiet (H7.out.mid kx) (Keeps.refl _ _))
     clear mx kx hir hnew
     go_wp2_with fail
     go_roundw
     case rel=>exact⟨k+1,M2,R2,by omega,by go_num,HG.out⟩
     case measure=>simp[RowKit.intOf];omega
  ·obtain rfl:k=l.length:=by omega
   have d9:decide ((l.length:Int)<(l.length:Int))=false:=by simp
   clear htw
   go_wp2_with fail
   go_ret
   exact⟨rfl,hbw⟩
end Go.Proofs.YtefgabnmcfpdcaaGreatDoor.Hd
