/- merged -/
import Derived.Test.YtdopfpcjpjlkmaaGreatDoorGFo
set_option maxHeartbeats 2000000
set_option maxRecDepth 20000
set_option linter.unusedSimpArgs false
set_option linter.unusedVariables false
namespace Go.Proofs.YtdopfpcjpjlkmaaGreatDoor
namespace Fr
open Go.RowKit Ex Ino Mm Fs
variable {w:World} {mi q b c d e:Nat} {M G:List UInt8}
theorem zjs (h:RefH w mi q b c d e M G)(n:Nat)(hn:n<32):Calls Tryz.prog 139 #[.pointer (some ⟨q,0,none⟩),.int .i64 (n:Int)] w (yck w (zaw (zab M) n)):=by
 have hl:=yde h (6144+(n:Int)*64) 64 (by omega) (by omega)
 rw[show(zds 64 8192).toNat=64 by decide,zqx h.bl hn] at hl
 have HL:=zq hl
 have q1:IntKind.i64.wrap ((n:Int)*64)=(n:Int)*64:=by rw[IntKind.wrap_i64];omega
 have q2:IntKind.i64.wrap (6144+(n:Int)*64)=6144+(n:Int)*64:=by rw[IntKind.wrap_i64];omega
 clear hl h
 generalize zaw (zab M) n=P at *
 go_enter Tryz.func139,Tryz.ntmps139
 go_wp2_with fail
 refine HL.out.mono ?_
 rintro en w2 ⟨g,rfl,hr,k⟩
 have HG:Hid (yck w P (.returned (.slice (some ⟨g,0,none⟩) P.length P.length)) w2):=⟨g,rfl,hr,k⟩
 clear hr k HL
 go_wp2_with fail
 go_ret
 exact HG.out
def zhv (w:World) (bs:List UInt8) (en:Ending) (w':World):Prop:=Keeps (fun _=>False) w w' ∧
  ((okR bs∧∃ R cap ls,en=.returned (.tuple #[.slice R 8 cap,.int .u32 (zao (zaa bs):Int),.bool true])∧ls.length=8∧ls.map (·.x)=zaa bs∧TabR w' w.heap.size R cap ls) ∨
   (¬okR bs∧en=.returned (.tuple #[.slice none 0 0,.int .u32 0,.bool false])))
def TbR (w:World) (bs:List UInt8) (g:Nat) (lv av iv:Value) (wr:World):Prop:=
 ∃ n ls Rl cl Ra ca,g=8-n∧n≤8∧iv=.int .i64 (n:Int)∧lv=.slice Rl ls.length cl∧ls.map (·.x)=(zaa bs).take n∧TabR wr w.heap.size Rl cl ls ∧
  av=.slice Ra (zdl (zaa bs) n).length ca∧OwnI wr w.heap.size Ra ca (zdl (zaa bs) n)∧Ex.Good (zdl (zaa bs) n)∧(∀ k,k<n→zf7 (zaw bs (1+k))=0)∧zm3 (zaa bs) n∧ApA Ra Rl ls∧Below w.heap.size w wr
def NmR (ns:List IN) (n:Nat) (w3:World) (g:Nat) (k:Value) (wr:World):Prop:=
 ∃ m,g=n-m∧m≤n∧k=.int .i64 (m:Int)∧(∀ j,j<m→(at' ns n).name≠[]→(at' ns j).name≠(at' ns n).name)∧Below w3.heap.size w3 wr
def BlR (w:World) (B5:Nat) (ns:List IN) (n:Nat) (own:List Nat) (Ro:Option Addr) (co:Nat) (R5:Option Addr) (c5:Nat) (ls:List IV) (g:Nat) (av kv:Value) (wr:World):Prop:=
 ∃ j Ra ca,g=own.length-j∧j≤own.length∧kv=.int .i64 (j:Int)∧av=.slice Ra (zdl ns n++own.take j).length ca∧OwnI wr w.heap.size Ra ca (zdl ns n++own.take j)∧Ex.Good (zdl ns n++own.take j) ∧
  (∀ b∈own.take j,b ∉ zdl ns n)∧ApA Ra R5 ls∧(∀ g,Ra=some ⟨g,0,none⟩→Ro≠some ⟨g,0,none⟩)∧TabR wr w.heap.size R5 c5 ls∧OwnI wr B5 Ro co own∧Below w.heap.size w wr
theorem yfv {w:World} {B:Nat} {Ra R8 R5:Option Addr} {c5:Nat} {ls:List IV} (h:ApA Ra R5 ls)(t:TabR w B R5 c5 ls)(mv:R8=Ra∨∃ g,R8=some ⟨g,0,none⟩∧w.heap.size<g):ApA R8 R5 ls:=by
 rcases mv with rfl | ⟨g8,rfl,hg⟩
 ·exact h
 ·intro g e
  injection e with e
  injection e with e
  subst e
  refine⟨fun e5=>?_,fun d hd hn ad e2=>?_⟩
  ·have:=(t.own.row _ e5).2.2
   simp only at this
   omega
  ·obtain⟨ad',e',hb,_⟩:=(t.ext d hd).ar hn
   rw[e2] at e'
   cases e'
   omega
theorem BlR.next {w:World} {B5:Nat} {ns:List IN} {n:Nat} {own:List Nat} {Ro:Option Addr} {co:Nat} {R5:Option Addr} {c5:Nat} {ls:List IV} {j:Nat} {Rq:Option Addr} {cq:Nat} {wr:World} {L:List Nat} (hLL:zdl ns n++own.take j=L)(hj:j<own.length)(hgo:Ex.Good own)(hin:own[j] ∉ L)
  (allq:OwnI wr w.heap.size Rq cq L) (goodq:Ex.Good L) (notq:∀ b∈own.take j,b ∉ zdl ns n) (apq:ApA Rq R5 ls) (ron:∀ g,Rq=some ⟨g,0,none⟩→Ro≠some ⟨g,0,none⟩) (tabq:TabR wr w.heap.size R5 c5 ls) (ownq:OwnI wr B5 Ro co own) (belq:Below w.heap.size w wr):
  ∃ R8 c8 w8,(Builtin.append_ #[40,40] 40 #[.slice Rq L.length cq,.slice (some ⟨wr.heap.size,0,none⟩) 1 1]).run Tryz.prog (wr.alloc (.cells #[.int .i64 (own[j]:Int)] 3))=.ok (.slice R8 (L.length+1) c8) w8 ∧
   BlR w B5 ns n own Ro co R5 c5 ls (own.length-(j+1)) (.slice R8 (L.length+1) c8) (.int .i64 ((j:Int)+1)) w8:=by
 obtain⟨R8,c8,w8,hap,own8,k8,mv⟩:=OwnI.appK allq belq.size (by have:=goodq.len;omega) own[j]
 have ht:own.take (j+1)=own.take j++[own[j]]:=List.take_succ_eq_append_getElem hj
 have hL2:zdl ns n++own.take (j+1)=L++[own[j]]:=by rw[ht,← List.append_assoc,hLL]
 refine⟨R8,c8,w8,hap,j+1,R8,c8,rfl,by omega,by rw[Int.natCast_add];rfl,by rw[hL2,List.length_append];rfl,by rw[hL2];exact own8,?_,?_,yfv apq tabq mv,?_,tabq.keepI apq k8,?_,?_⟩
 ·rw[hL2]
  refine⟨List.nodup_append.2 ⟨goodq.1,by simp,fun a ha b hb e=>?_⟩,fun b hb=>?_⟩
  ·rw[List.mem_singleton.1 hb] at e
   subst e
   exact hin ha
  ·rcases List.mem_append.1 hb with h1 | h1
   ·exact goodq.2 b h1
   ·rw[List.mem_singleton.1 h1]
    exact hgo.2 _ (List.getElem_mem hj)
 ·intro b hb hb2
  rw[ht] at hb
  rcases List.mem_append.1 hb with h1 | h1
  ·exact notq b h1 hb2
  ·rw[List.mem_singleton.1 h1] at hb2
   exact hin (by rw[← hLL];exact List.mem_append_left _ hb2)
 ·intro g e e2
  rcases mv with rfl | ⟨g8,rfl,hg⟩
  ·exact ron g e e2
  ·injection e with e
   injection e with e
   subst e
   have:=(zel ownq _ e2).2.2.1
   simp only at this
   omega
 ·exact zf0 ownq k8 fun ad e f=>ron _ f (by rw[e];exact congrArg some (zel ownq ad e).1)
 ·exact belq.trans (k8.toBelow w.heap.size belq.size fun k e=>by have:=(zel allq _ e).2.1;simpa using this)
theorem TbR.next {w:World} {bs:List UInt8} {m:Nat} {ls:List IV} {x:IN} {R2:Option Addr} {c2:Nat} {R5:Option Addr} {c5:Nat} {Rq:Option Addr} {cq:Nat} {wr:World} {own:List Nat}
  (hm:m<8) (hmap:ls.map (·.x)=(zaa bs).take m) (hls:ls.length=m) (hxat:at' (zaa bs) m=x) (hox:za4 x.ext=own) (hE:zf7 (zaw bs (1+m))=0) (hdec:∀ k,k<m→zf7 (zaw bs (1+k))=0) (hap:zm3 (zaa bs) m)
  (hnm:∀ j,j<m→(at' (zaa bs) m).name≠[]→(at' (zaa bs) j).name≠(at' (zaa bs) m).name)
  (allq:OwnI wr w.heap.size Rq cq (zdl (zaa bs) m++own)) (goodq:Ex.Good (zdl (zaa bs) m++own)) (notq:∀ b∈own,b ∉ zdl (zaa bs) m) (apq:ApA Rq R5 (ls++[⟨x,R2,c2⟩])) (tabq:TabR wr w.heap.size R5 c5 (ls++[⟨x,R2,c2⟩])) (belq:Below w.heap.size w wr):
  TbR w bs (8-(m+1)) (.slice R5 (m+1) c5) (.slice Rq (zdl (zaa bs) m++own).length cq) (.int .i64 ((m:Int)+1)) wr:=by
 have hall:zdl (zaa bs) (m+1)=zdl (zaa bs) m++own:=by
  show zdl (zaa bs) m++za4 (at' (zaa bs) m).ext=_
  rw[hxat,hox]
 refine⟨m+1,ls++[⟨x,R2,c2⟩],R5,c5,Rq,cq,rfl,by omega,by rw[Int.natCast_add];rfl,by rw[List.length_append,hls];rfl,?_,tabq,by rw[hall],by rw[hall];exact allq,by rw[hall];exact goodq,fun k hk=>?_,zx9 hap hnm (by rw[hxat,hox];exact notq),apq,belq⟩
 ·rw[List.map_append,hmap,List.take_succ_eq_append_getElem (by rw[zbp];exact hm)]
  congr 1
  have:(zaa bs)[m]'(by rw[zbp];exact hm)=x:=by
   rw[← hxat]
   unfold at'
   rw[List.getD_eq_getElem?_getD,List.getElem?_eq_getElem (by rw[zbp];exact hm)]
   rfl
  rw[this]
  rfl
 ·by_cases e:k=m
  ·subst e;exact hE
  ·exact hdec k (by omega)
theorem zkj (a b:List UInt8):((⟨a.toArray⟩:ByteArray).toList==(⟨b.toArray⟩:ByteArray).toList)=decide (a=b):=by
 rw[ByteArray.toList_mk,ByteArray.toList_mk]
 exact zsq a b
theorem zw2 {l:List Nat} (h:l.Nodup){j b:Nat} (hj:j<l.length)(hb:l[j]=b):b ∉ l.take j:=fun hm=>by
 obtain⟨i,hi,e⟩:=List.mem_iff_getElem.1 hm
 rw[List.length_take] at hi
 rw[List.getElem_take] at e
 have:=(List.getElem_inj h).1 (e.trans hb.symm)
 omega
theorem zon:(⟨#[]⟩:ByteArray)=⟨([]:List UInt8).toArray⟩:=rfl
theorem zuv {ls:List IV} {ns:List IN} {n m:Nat} (h:ls.map (·.x)=ns.take n)(hm:m<ls.length)(hn:ls.length=n):ls[m].x=at' ns m:=by
 have:=congrArg (fun l=>l.getD m in0) h
 simp only[List.getD_eq_getElem?_getD] at this
 rw[List.getElem?_map,List.getElem?_eq_getElem hm,List.getElem?_take_of_lt (by omega)] at this
 unfold at'
 rw[List.getD_eq_getElem?_getD,← this]
 rfl
theorem zhi (h:RefH w mi q b c d e M G):Calls Tryz.prog 109 #[.pointer (some ⟨q,0,none⟩)] w (zhv w (zab M)):=by
 have hc2:w.cell? ⟨q,2,none⟩=some (.bool false):=by rw[cell_of_row _ _ _ _ _ _ h.head];rfl
 have H:=zq h
 have hl:(zab M).length=2048:=by unfold zab;rw[List.length_drop];have:=h.bl;omega
 clear h
 generalize hbs:zab M=bs at *
 have HST:Hid (TbR w bs 8 (.slice none 0 0) (.slice none 0 0) (.int .i64 0) w):=⟨0,[],none,0,none,0,rfl,by omega,rfl,rfl,rfl,TabR.nil,rfl,World.ownsRow_nil _ _ _ _,⟨List.nodup_nil,fun _ h=>by (cases h)⟩,fun k hk=>absurd hk (by omega),fun i j _ hj=>absurd hj (by omega),fun _ e=>by (cases e),Below.refl _ _⟩
 go_enter Tryz.func109,Tryz.ntmps109
 go_wp2_with fail
 go_loopg [5,6,7,8,9,10,12,13,14,16] 8 (fun g lv av iv _ _ _ _ _ _ _ wr=>TbR w bs g lv av iv wr)
 case atStart=>exact HST.out
 case round =>
  obtain⟨n,ls,Rl,cl,Ra,ca,rfl,hn,rfl,rfl,hmap,htab,rfl,hall,hgood,hdec,hap,hapa,hbel⟩:=hrel
  have hls:ls.length=n:=by
   have:=congrArg List.length hmap
   rw[List.length_map,List.length_take,zbp] at this
   omega
  have hkeep:Keeps (fun _=>False) w wr:=zac hbel
  have hRef:RefH wr mi q b c d e M G:=H.out.keep hkeep (fun _ _ _ f=>f)
  have w0:=hbel.size
  clear HST
  by_cases hlt:n<8
  ·have d0:decide ((n:Int)<8)=true:=by simp;omega
   have d0':decide (n<8)=true:=by simp;omega
   have q1:IntKind.i64.wrap (1+(n:Int))=((1+n:Nat):Int):=by rw[IntKind.wrap_i64];omega
   have q2:IntKind.i64.wrap ((n:Int)+1)=(n:Int)+1:=by rw[IntKind.wrap_i64];omega
   have hbk:=zjs hRef (1+n) (by omega)
   rw[hbs] at hbk
   have HBK:=zq hbk
   have HTAB:=zq htab
   have HALL:=zq hall
   have HP:=zq (And.intro hgood (And.intro hdec hap))
   have HBEL:=zq hbel
   have hpl:=zbl hl (n:=1+n) (by omega)
   clear hbk htab hall hgood hdec hap hbel hRef hkeep
   go_wp2_with fail
   refine HBK.out.mono ?_
   rintro en w1 ⟨g1,rfl,hr1,k1⟩
   rw[hpl]
   have hD:=zsi (some ⟨g1,0,none⟩) (zaw bs (1+n)) 64 w1 hr1.br (by omega) (by omega)
   rw[hpl] at hD
   have HD:=zq hD
   have B1:=zq (HBEL.out.trans ((k1.toBelow wr.heap.size (Nat.le_refl _) fun _ f=>f.elim).mono w0))
   have K1:=zq k1
   have s1:=k1.size
   clear hD hr1 k1 HBK HBEL
   go_wp2_with fail
   refine HD.out.mono ?_
   rintro en w2 ⟨R2,c2,rfl,hxr,hb2,hnew⟩
   have hxat:=zbw bs hlt
   generalize hxg:zdx (zaw bs (1+n))=x at *
   by_cases hE:zf7 (zaw bs (1+n))=0
   case neg =>
    have e1:(zf7 (zaw bs (1+n)) != 0)=true:=by simp[hE]
    have HG:Hid (∀ W,Below w2.heap.size w2 W→zhv w bs (.returned (.tuple #[.slice none 0 0,.int .u32 0,.bool false])) W):=fun W hW =>
     ⟨(zac (B1.out.trans (hb2.mono (by have:=B1.out.size;omega)))).trans ((zac hW).mono fun _ _ f=>f),.inr ⟨fun hok=>hE (((zic bs).1 hok).1 n hlt),rfl⟩⟩
    have ba:=(Below.refl w2.heap.size w2).alloc (Nat.le_refl _) (.cells #[St x.name,.int .i64 x.size,.slice R2 x.ext.length c2] 113)
    have HG2:=zq (HG.out _ ba)
    clear hE HG ba
    generalize zf7 (zaw bs (1+n))=E at *
    go_wp2_with fail
    go_ret3
    exact HG2.out
   have e1:(zf7 (zaw bs (1+n)) != 0)=false:=by simp[hE]
   obtain⟨w3,hw3⟩:∃ w3,w3=w2.alloc (.cells #[St x.name,.int .i64 x.size,.slice R2 x.ext.length c2] 113):=⟨_,rfl⟩
   have hbox:w3.heap[w2.heap.size]?=some (.cells #[St x.name,.int .i64 x.size,.slice R2 x.ext.length c2] 113 (0,0)):=by rw[hw3];exact World.alloc_heap_new w2 _
   have k23:Keeps (fun _=>False) w2 w3:=by rw[hw3];exact Keeps.alloc _ _ _
   have s3:w3.heap.size=w2.heap.size+1:=by rw[hw3,World.size_alloc]
   have k13:=(zac hb2).trans (k23.mono fun _ _ f=>f)
   have kr3:=K1.out.trans k13
   have tab3:=HTAB.out.keep kr3 fun _ _ _ f=>f
   have all3:OwnI w3 w.heap.size Ra ca (zdl (zaa bs) n):=HALL.out.below (kr3.toBelow _ (Nat.le_refl _) fun _ f=>f.elim)
   have xr3:XR w3 w3.heap.size R2 x.ext:=zez hxr k23 fun _ _ _ f=>f
   have b3:Below w.heap.size w w3:=B1.out.trans ((k13.toBelow w1.heap.size (Nat.le_refl _) fun _ f=>f.elim).mono (by have:=B1.out.size;omega))
   have hRl:∀ ad,R2=some ad→x.ext≠[]→w.heap.size≤ad.block∧Rl≠some ⟨ad.block,0,none⟩:=fun ad e hn=>by
    have h1:=hnew ad e hn
    refine⟨by omega,fun e2=>?_⟩
    have:=(HTAB.out.own.row _ e2).2.2
    simp only at this
    omega
   have hRa:∀ g,Ra=some ⟨g,0,none⟩→g<w1.heap.size:=fun g e=>by
    have:=(zel HALL.out _ e).2.2.1
    simp only at this
    omega
   have hRlb:∀ ad,Rl=some ad→ad.block<w2.heap.size:=fun ad e=>by
    have:=(HTAB.out.own.row _ e).2.2
    have:=hb2.size
    omega
   have APN:Hid (∀ R5,(R5=Rl∨∃ g,R5=some ⟨g,0,none⟩∧w3.heap.size≤g)→ApA Ra R5 (ls++[⟨x,R2,c2⟩])):=fun R5 h5 g e=>by
    have hg:=hRa g e
    refine⟨?_,fun dd hd hn ad e2=>?_⟩
    ·rcases h5 with rfl | ⟨g5,rfl,h5⟩
     ·exact(hapa g e).1
     ·intro e3
      injection e3 with e3
      injection e3 with e3
      have:=hb2.size
      omega
    ·rcases List.mem_append.1 hd with h1 | h1
     ·exact(hapa g e).2 dd h1 hn ad e2
     ·rw[List.mem_singleton.1 h1] at hn e2
      have:=hnew ad e2 hn
      omega
   have hfew:x.ext.length≤100:=by
    have:=(zgl (b:=zaw bs (1+n)) (w:=w2) (R:=R2) (by rw[hxg];exact hxr)).few
    rwa [hxg] at this
   have HRLB:=zq hRlb
   have HBOX:=zq hbox
   have HTAB3:=zq tab3
   have HALL3:=zq all3
   have HXR3:=zq xr3
   have HB3:=zq b3
   have HRL:=zq hRl
   have HN0:Hid (NmR (zaa bs) n w3 n (.int .i64 0) w3):=⟨0,by omega,by omega,rfl,fun j hj=>absurd hj (by omega),Below.refl _ _⟩
   clear hbox tab3 all3 xr3 b3 hRl k13 kr3 k23 HTAB HALL hxr hb2 hnew K1 B1 hRa hRlb hapa
   go_wp2_with fail
   rw[← hw3]
   go_loopg [12,39] n (fun g _ k wq=>NmR (zaa bs) n w3 g k wq)
   case atStart=>exact HN0.out
   case round =>
    obtain⟨m,rfl,hm,rfl,hnm,bq⟩:=hrel
    clear HN0
    by_cases hml:m<ls.length
    ·obtain⟨gl,rfl,ca0,ca1,ca2⟩:=(HTAB3.out.keep (zac bq) fun _ _ _ f=>f).own.at_ hml
     have hyx:=zuv hmap hml hls
     have hbq:wr.heap[w2.heap.size]?=some (.cells #[St x.name,.int .i64 x.size,.slice R2 x.ext.length c2] 113 (0,0)):=(bq.block _ (by omega)).trans HBOX.out
     have cx0:wr.cell? ⟨w2.heap.size,0,none⟩=some (St x.name):=by rw[cell_of_row _ _ _ _ _ _ hbq];rfl
     have hlt2:w2.heap.size<wr.heap.size:=by have:=bq.size;omega
     have d1:decide ((m:Int)<(n:Int))=true:=by simp only[decide_eq_true_eq];omega
     have d2:decide (m<n)=true:=by simp only[decide_eq_true_eq];omega
     have p0:(0:Int)≤m:=by omega
     have p1:(m:Int)<n:=by omega
     have p1':m<n:=by omega
     have q3:IntKind.i64.wrap ((m:Int)+1)=(m:Int)+1:=by rw[IntKind.wrap_i64];omega
     generalize ls[m]=y at *
     have ba:=(Below.refl wr.heap.size wr).alloc (Nat.le_refl _) (.cells #[St y.x.name,.int .i64 y.x.size,.slice y.R y.x.ext.length y.c] 113)
     have hst:=zkj y.x.name x.name
     have hst0:=zkj x.name []
     by_cases h0:x.name=[]
     ·have hem:x.name.isEmpty=true:=by simp[h0]
      have HR:Hid (NmR (zaa bs) n w3 (n-(m+1)) (.int .i64 ((m:Int)+1)) (wr.alloc (.cells #[St y.x.name,.int .i64 y.x.size,.slice y.R y.x.ext.length y.c] 113))):=⟨m+1,rfl,by omega,by rw[Int.natCast_add];rfl,fun j hj hne=>absurd (by rw[hxat];exact h0) hne,bq.trans (ba.mono bq.size)⟩
      clear hst hst0 hyx hnm bq hbq h0 ba
      go_wp2_with fail
      go_roundg (n-(m+1))
      case rel=>exact HR.out
      case measure=>omega
     ·have hem:x.name.isEmpty=false:=by cases hh:x.name with
       | nil=>exact absurd hh h0
       | cons _ _=>rfl
      by_cases heq:y.x.name=x.name
      ·have e2:decide (y.x.name=x.name)=true:=by simp[heq]
       have e3:(y.x.name==x.name)=true:=by simp[heq]
       have HG:Hid (zhv w bs (.returned (.tuple #[.slice none 0 0,.int .u32 0,.bool false])) (wr.alloc (.cells #[St y.x.name,.int .i64 y.x.size,.slice y.R y.x.ext.length y.c] 113))):=
        ⟨(zac HB3.out).trans ((zac bq).trans ((zac ba).mono fun _ _ f=>f)),.inr ⟨fun hok=>zya (ns:=zaa bs) (n:=n) (k:=m) p1' (by rw[hxat];exact h0) (by rw[← hyx,heq,hxat]) hlt ((zic bs).1 hok).2.1,rfl⟩⟩
       clear hst0 hyx hnm bq hbq h0 ba heq
       go_wp2_with fail
       go_ret3
       exact HG.out
      ·have e2:decide (y.x.name=x.name)=false:=by simp[heq]
       have e3:(y.x.name==x.name)=false:=by simp[heq]
       have HR:Hid (NmR (zaa bs) n w3 (n-(m+1)) (.int .i64 ((m:Int)+1)) (wr.alloc (.cells #[St y.x.name,.int .i64 y.x.size,.slice y.R y.x.ext.length y.c] 113))):=⟨m+1,rfl,by omega,by rw[Int.natCast_add];rfl,fun j hj hne=>by
        by_cases e:j=m
        ·subst e
         rw[← hyx,hxat]
         exact heq
        ·exact hnm j (by omega) hne,bq.trans (ba.mono bq.size)⟩
       clear hst0 hyx hnm bq hbq h0 ba heq
       go_wp2_with fail
       go_roundg (n-(m+1))
       case rel=>exact HR.out
       case measure=>omega
    ·obtain rfl:m=n:=by omega
     have kq:Keeps (fun _=>False) w3 wr:=zac bq
     have tabq:=HTAB3.out.keep kq fun _ _ _ f=>f
     have allq:OwnI wr w.heap.size Ra ca (zdl (zaa bs) m):=HALL3.out.below bq
     have xrq:XR wr wr.heap.size R2 x.ext:=zez HXR3.out kq fun _ _ _ f=>f
     have bwq:Below w.heap.size w wr:=HB3.out.trans (bq.mono HB3.out.size)
     have hbq:wr.heap[w2.heap.size]?=some (.cells #[St x.name,.int .i64 x.size,.slice R2 x.ext.length c2] 113 (0,0)):=(bq.block _ (by omega)).trans HBOX.out
     have hq3:=bq.size
     obtain⟨R5,c5,w5,hap,tab5,k5,mv5⟩:=tabq.app bwq.size (by omega) ⟨x,R2,c2⟩ xrq (fun hn ad e=>HRL.out ad e hn)
     have apa5:=APN.out R5 (mv5.elim .inl fun ⟨g,e,h⟩=>.inr ⟨g,e,by omega⟩)
     rw[hls] at hap
     have hap':(Builtin.append_ #[130,130] 130 #[.slice Rl m cl,.slice (some ⟨wr.heap.size,0,none⟩) 1 1]).run Tryz.prog (wr.alloc (.cells #[St x.name,.int .i64 x.size,.slice R2 x.ext.length c2] 113))=.ok (.slice R5 (m+1) c5) w5:=hap
     have HAP:=zq hap'
     have cx0:wr.cell? ⟨w2.heap.size,0,none⟩=some (St x.name):=by rw[cell_of_row _ _ _ _ _ _ hbq];rfl
     have cx1:wr.cell? ⟨w2.heap.size,1,none⟩=some (.int .i64 x.size):=by rw[cell_of_row _ _ _ _ _ _ hbq];rfl
     have cx2:wr.cell? ⟨w2.heap.size,2,none⟩=some (.slice R2 x.ext.length c2):=by rw[cell_of_row _ _ _ _ _ _ hbq];rfl
     have hnb:Rl≠some ⟨w2.heap.size,0,none⟩:=fun e=>by have:=HRLB.out _ e;simp only at this;omega
     have hb5:w5.heap[w2.heap.size]?=some (.cells #[St x.name,.int .i64 x.size,.slice R2 x.ext.length c2] 113 (0,0)):=(k5.block _ (by omega) hnb).trans hbq
     have cy2:w5.cell? ⟨w2.heap.size,2,none⟩=some (.slice R2 x.ext.length c2):=by rw[cell_of_row _ _ _ _ _ _ hb5];rfl
     have xr5:XR w5 w5.heap.size R2 x.ext:=zez xrq k5 fun hn ad e=>(HRL.out ad e hn).2
     have all5:OwnI w5 w.heap.size Ra ca (zdl (zaa bs) m):=zf0 allq k5 fun ad e f=>zwi tabq.own allq ad.block f (by rw[e];exact congrArg some (zel allq ad e).1)
     have b5:Below w.heap.size w w5:=bwq.trans (k5.toBelow w.heap.size bwq.size fun k e=>by have:=(tabq.own.row _ e).2.1;simpa using this)
     have HBL:=zq (zcc R2 x.ext c2 w5 xr5 hfew)
     have T5:=zq tab5
     have A5:=zq all5
     have P5:=zq apa5
     have S5:=zq b5
     have LSL:(ls++[(⟨x,R2,c2⟩:IV)]).length=m+1:=by rw[List.length_append,hls];rfl
     have NMF:=zq (fun k hk h0=>hnm k hk h0)
     clear tabq allq xrq bwq hbq hap hap' tab5 k5 mv5 apa5 hb5 xr5 all5 b5 bq kq hnm hnb HTAB3 HALL3 HXR3 HB3 HBOX HRL APN HRLB
     go_wp2_with (first
      | ((with_reducible refine zd5 (op:=.call { callee:=.builtin .append,args:=#[.tmp 54,.tmp 56],argTypes:=#[130,130] }) ?_);refine zak rfl _ _ 130 rfl _ HAP.out ?_)
      | fail)
     refine HBL.out.mono ?_
     rintro en w6 ⟨Ro,co,rfl,own6,b56⟩
     have HB0:Hid (BlR w w5.heap.size (zaa bs) m (za4 x.ext) Ro co R5 c5 (ls++[⟨x,R2,c2⟩]) (za4 x.ext).length (.slice Ra (zdl (zaa bs) m).length ca) (.int .i64 0) w6):=by
      have k56:=zac (F:=fun _=>False) b56
      refine⟨0,Ra,ca,by omega,by omega,rfl,by rw[List.take_zero,List.append_nil],by rw[List.take_zero,List.append_nil];exact zf0 A5.out k56 fun _ _ f=>f,by rw[List.take_zero,List.append_nil];exact HP.out.1,fun _ h=>(by rw[List.take_zero] at h;cases h),P5.out,fun g e e2=>?_,T5.out.keep k56 fun _ _ _ f=>f,own6,S5.out.trans (b56.mono S5.out.size)⟩
      have h1:=(zel A5.out _ e).2.2.1
      have h2:=(zel own6 _ e2).2.1
      simp only at h1 h2
      omega
     have hgx:=za3 x.ext
     clear own6 b56 A5 P5 T5 HBL HAP S5
     generalize hox:za4 x.ext=own at *
     have hol:=hgx.len
     go_wp2_with fail
     go_loopg [6,16,66] own.length (fun g av _ kv wq=>BlR w w5.heap.size (zaa bs) m own Ro co R5 c5 (ls++[⟨x,R2,c2⟩]) g av kv wq)
     case atStart=>exact HB0.out
     case round =>
      obtain⟨j,Rq,cq,rfl,hj,rfl,rfl,allq,goodq,notq,apq,ron,tabq,ownq,belq⟩:=hrel
      generalize hLL:zdl (zaa bs) m++own.take j=L at *
      have goodL:=goodq
      by_cases hjl:j<own.length
      ·obtain⟨go,rfl,hgo,co0⟩:=ownq.ir.at_ hjl
       have hb32:=hgx.2 own[j] (List.getElem_mem hjl)
       have HSET:=zq (ziv Rq _ cq wr (IR.jr (OwnI.ir allq)) goodq)
       have d1:decide ((j:Int)<(own.length:Int))=true:=by simp only[decide_eq_true_eq];omega
       have d2:decide (j<own.length)=true:=by simp only[decide_eq_true_eq];omega
       have p0:(0:Int)≤j:=by omega
       have p1:(j:Int)<own.length:=by omega
       have q3:IntKind.i64.wrap ((j:Int)+1)=(j:Int)+1:=by rw[IntKind.wrap_i64];omega
       have QQ:=zq (And.intro allq (And.intro goodq (And.intro notq (And.intro apq (And.intro ron (And.intro tabq (And.intro ownq belq)))))))
       clear allq goodq notq apq ron tabq ownq belq HB0
       have hsb:=zbv L own[j]
       have hsn32:zb2 L<4294967296:=zlu fun b hb=>(goodL.2 b hb).2
       generalize zb2 L=sn at *
       generalize hbj:own[j]=bj at *
       have hba:=yca sn bj hsn32
       have hdv:=ybp sn bj
       have hz0:(0:Int)≤(bj:Int):=by omega
       have hz1:(bj:Int)≤32:=by omega
       have hwu:IntKind.u64.wrap (bj:Int)=(bj:Int):=by simp[IntKind.wrap,IntKind.bits,IntKind.signed];omega
       generalize sn / 2 ^ bj=qd at *
       by_cases hin:bj∈L
       ·rw[hsb,zp (by simp[hin])] at hba
        have HG:Hid (∀ W,Keeps (fun _=>False) wr W→zhv w bs (.returned (.tuple #[.slice none 0 0,.int .u32 0,.bool false])) W):=fun W hW =>
         ⟨((zac QQ.out.2.2.2.2.2.2.2).mono fun _ _ f=>f).trans hW,.inr ⟨fun hok=>by
          have hbm:bj∈za4 (at' (zaa bs) m).ext:=by rw[hxat,hox,← hbj];exact List.getElem_mem hjl
          refine ztm (zji bs) hbm ?_ hlt ((zic bs).1 hok).2.1
          rw[← hLL] at hin
          rcases List.mem_append.1 hin with h1 | h1
          ·exact h1
          ·exact absurd h1 (zw2 hgx.1 hjl (by rw[hbj])),rfl⟩⟩
        have HG2:=zq (HG.out wr (Keeps.refl _ _))
        clear HG hin hsb hbj hb32 QQ hsn32
        go_wp2_with fail
        refine HSET.out.mono ?_
        rintro en w7 ⟨rfl,rfl⟩
        go_wp2_with fail
        go_ret3
        exact HG2.out
       ·rw[hsb,zn (by simp[hin])] at hba
        have hin':own[j] ∉ L:=by rw[hbj];exact hin
        obtain⟨R8,c8,w8,hap8,rel8⟩:=BlR.next hLL hjl hgx hin' QQ.out.1 QQ.out.2.1 QQ.out.2.2.1 QQ.out.2.2.2.1 QQ.out.2.2.2.2.1 QQ.out.2.2.2.2.2.1 QQ.out.2.2.2.2.2.2.1 QQ.out.2.2.2.2.2.2.2
        rw[hbj] at hap8
        have HAP8:=zq hap8
        have REL8:=zq rel8
        clear hap8 rel8 hin hin' hsb hbj hb32 QQ hsn32 hLL goodL
        go_wp2_with fail
        refine HSET.out.mono ?_
        rintro en w7 ⟨rfl,rfl⟩
        go_wp2_with (first
         | ((with_reducible refine zd5 (op:=.call { callee:=.builtin .append,args:=#[.tmp 77,.tmp 79],argTypes:=#[40,40] }) ?_);refine zak rfl _ _ 40 rfl _ HAP8.out ?_)
         | fail)
        go_roundg (own.length-(j+1))
        case rel=>exact REL8.out
        case measure=>omega
      ·obtain rfl:j=own.length:=by omega
       rw[List.take_length] at hLL notq
       subst hLL
       have NX:=zq (TbR.next hlt hmap hls hxat hox hE HP.out.2.1 HP.out.2.2 NMF.out allq goodq notq apq tabq belq)
       clear allq goodq notq apq tabq belq ron ownq goodL HB0 NMF HP
       have d1:decide ((own.length:Int)<(own.length:Int))=false:=by simp
       generalize (zdl (zaa bs) m++own).length=LL at *
       go_wp2_with fail
       go_roundg (8-(m+1))
       case rel=>exact NX.out
       case measure=>omega
  ·obtain rfl:n=8:=by omega
   have hused:=zir (zji bs)
   have HSET:=zq (ziv Ra _ ca wr (IR.jr (OwnI.ir hall)) hgood)
   have hlt32:=zdi (zaa bs)
   have hbk:=zjs hRef 0 (by omega)
   rw[hbs] at hbk
   have hpl:=zbl hl (n:=0) (by omega)
   have HBK:=zq hbk
   have HTAB:=zq htab
   have HBEL:=zq hbel
   have HOK:=zq ((zic bs).trans ⟨fun h=>h.2.2,fun h=>⟨hdec,(yfu _).2 hap,h⟩⟩)
   have hm8:ls.map (·.x)=zaa bs:=by rw[hmap,List.take_of_length_le (by rw[zbp];omega)]
   have HM8:=zq (And.intro hls hm8)
   rw[hused] at HSET
   clear htab hall hgood hdec hap hbel hRef hkeep hbk hmap hm8 hapa hused
   generalize (zdl (zaa bs) 8).length=LL at *
   generalize huu:zao (zaa bs)=u at *
   have HU:=zq huu
   clear huu
   go_wp2_with fail
   refine HSET.out.mono ?_
   rintro en w1 ⟨rfl,rfl⟩
   go_wp2_with fail
   refine HBK.out.mono ?_
   rintro en w2 ⟨g2,rfl,hr2,k2⟩
   rw[hpl]
   have HH:=zq (zg0 u hlt32 w2)
   have BR2:=zq hr2.br
   have K2:=zq k2
   clear hr2 k2 HBK HSET
   go_wp2_with fail
   refine HH.out.mono ?_
   rintro en w3 ⟨R3,c3,rfl,ho3,b3⟩
   rw[zbj]
   have hsm:=Go.Proofs.YtdopfpcjpjlkmaaGreatDoor.sameB_any (some ⟨g2,0,none⟩) (zaw bs 0) 64 R3 (zb7 u) c3 w3 ((BR2.out.below b3).more b3.size) ho3.br
   rw[hpl,zbj] at hsm
   have HSM:=zq hsm
   have k3:=K2.out.trans (zac b3)
   have TAB3:=zq (HTAB.out.keep k3 fun _ _ _ f=>f)
   have KK:=zq ((zac HBEL.out).trans (k3.mono fun _ _ f=>f):Keeps (fun _=>False) w w3)
   clear ho3 b3 BR2 K2 HH hsm k3 HTAB
   by_cases heq:zaw bs 0=zb7 u
   ·have hG:zhv w bs (.returned (.tuple #[.slice Rl 8 cl,.int .u32 (u:Int),.bool true])) w3:=⟨KK.out,.inl ⟨HOK.out.2 heq,Rl,cl,ls,by rw[HU.out],HM8.out.1,HM8.out.2,TAB3.out⟩⟩
    have HG:=zq hG
    rw[show decide (zaw bs 0=zb7 u)=true by simp[heq]] at HSM
    clear hG heq TAB3 KK HOK HM8
    go_wp2_with fail
    refine HSM.out.mono ?_
    rintro en w4 ⟨rfl,rfl⟩
    go_wp2_with fail
    go_ret3
    exact HG.out
   ·have hG:zhv w bs (.returned (.tuple #[.slice none 0 0,.int .u32 0,.bool false])) w3:=⟨KK.out,.inr ⟨fun h=>heq (HOK.out.1 h),rfl⟩⟩
    have HG:=zq hG
    rw[show decide (zaw bs 0=zb7 u)=false by simp[heq]] at HSM
    clear hG heq TAB3 KK HOK HM8
    go_wp2_with fail
    refine HSM.out.mono ?_
    rintro en w4 ⟨rfl,rfl⟩
    go_wp2_with fail
    go_ret3
    exact HG.out
end Fr
namespace Fr
open Go.RowKit Ex Ino Mm Fs
variable {w:World} {mi q b c d e:Nat} {M G:List UInt8}
def zhd (w:World) (bs:List UInt8) (v0 v1:Value) (en:Ending) (w':World):Prop:=Keeps (fun _=>False) w w'∧((okR bs∧en=.returned v0)∨(¬okR bs∧en=.returned v1))
theorem znk (h:RefH w mi q b c d e M G):Calls Tryz.prog 65 #[.pointer (some ⟨q,0,none⟩)] w (zhd w (zab M) (.int .i64 0) (.int .i64 120)):=by
 have HT:=zq (zhi h)
 clear h
 go_enter Tryz.func65,Tryz.ntmps65
 go_wp2_with fail
 refine HT.out.mono ?_
 rintro en w1 ⟨k1,⟨hok,R,cap,ls,rfl,hl,hm,ht⟩|⟨hno,rfl⟩⟩
 ·have HG:Hid (zhd w (zab M) (.int .i64 0) (.int .i64 120) (.returned (.int .i64 0)) w1):=⟨k1,.inl ⟨hok,rfl⟩⟩
  clear k1 hok ht HT hl hm
  go_wp2_with fail
  go_ret
  exact HG.out
 ·have HG:Hid (zhd w (zab M) (.int .i64 0) (.int .i64 120) (.returned (.int .i64 120)) w1):=⟨k1,.inr ⟨hno,rfl⟩⟩
  clear k1 hno HT
  go_wp2_with fail
  go_ret
  exact HG.out
def zm2 (w:World) (bs:List UInt8) (n:Int) (en:Ending) (w':World):Prop:=Keeps (fun _=>False) w w' ∧
  ((okR bs∧∃ R c,en=.returned (.tuple #[Ino.ag (za0 (zaa bs) n) R c,.int .u32 (if za1 (zaa bs) n=0 then (zao (zaa bs):Int) else 0),.int .i64 (za1 (zaa bs) n)])∧XR w' w'.heap.size R (za0 (zaa bs) n).ext) ∨
   (¬okR bs∧en=.returned (.tuple #[Ino.ag in0 none 0,.int .u32 0,.int .i64 120])))
theorem zw3 {w:World} {bs:List UInt8} {n E:Int} {w':World} (k:Keeps (fun _=>False) w w')(hok:okR bs)(hE:za1 (zaa bs) n=E)(h0:E≠0):zm2 w bs n (.returned (.tuple #[Ino.ag in0 none 0,.int .u32 0,.int .i64 E])) w':=by
 have hx:za0 (zaa bs) n=in0:=by unfold za0;rw[zn (by rw[hE];exact h0)]
 exact⟨k,.inl ⟨hok,none,0,by rw[hx,hE,zn h0],by rw[hx];exact XR.nil⟩⟩
theorem ze9 (h:RefH w mi q b c d e M G)(n:Int)(hn:-9223372036854775808≤n∧n≤9223372036854775807):
  Calls Tryz.prog 89 #[.pointer (some ⟨q,0,none⟩),.int .i64 n] w (zm2 w (zab M) n):=by
 have h0:RefH (w.alloc (.cells #[.string ⟨#[]⟩,.int .i64 0,.slice none 0 0] 113)) mi q b c d e M G:=h.keep (Keeps.alloc (fun _=>False) _ _) (fun _ _ _ f=>f)
 have HT:=zq (zhi h0)
 have k0:Keeps (fun _=>False) w (w.alloc (.cells #[.string ⟨#[]⟩,.int .i64 0,.slice none 0 0] 113)):=Keeps.alloc _ _ _
 have hb0:(w.alloc (.cells #[.string ⟨#[]⟩,.int .i64 0,.slice none 0 0] 113)).heap[w.heap.size]?=some (.cells #[.string ⟨#[]⟩,.int .i64 0,.slice none 0 0] 113 (0,0)):=World.alloc_heap_new w _
 have s0:(w.alloc (.cells #[.string ⟨#[]⟩,.int .i64 0,.slice none 0 0] 113)).heap.size=w.heap.size+1:=World.size_alloc ..
 clear h h0
 generalize hbs:zab M=bs at *
 go_enter Tryz.func89,Tryz.ntmps89
 go_wp2_with fail
 refine HT.out.mono ?_
 rintro en w1 ⟨k1,⟨hok,R,cap,ls,rfl,hl,hm,ht⟩|⟨hno,rfl⟩⟩
 ·have hb1:=(k1.block w.heap.size (by omega) (fun f=>f)).trans hb0
  have kk:=k0.trans k1
  have hw1:w.heap.size<w1.heap.size:=by have:=k1.size;omega
  have noE:∀ E:Int,za1 (zaa bs) n=E→E≠0→∃ w2,(Instr.storeAt 113 (.pointer (some ⟨w.heap.size,0,none⟩)) (.agg #[.string ⟨#[]⟩,.int .i64 0,.slice none 0 0])).run Tryz.prog w1=.ok () w2 ∧
    w2.heap[w.heap.size]?=some (.cells #[.string ⟨#[]⟩,.int .i64 0,.slice none 0 0] 113 (0,0))∧zm2 w bs n (.returned (.tuple #[Ino.ag in0 none 0,.int .u32 0,.int .i64 E])) w2:=fun E hE h0=>by
   have sr:=run_storeAt_mid (P:=Tryz.prog) w1 w.heap.size 0 113 #[.string ⟨#[]⟩,.int .i64 0,.slice none 0 0] (zax (zs:=[_,_,_]) hb1 0 3 (by simp)) zbc (by simp[Value.oneCell'])
   obtain⟨h1,ks⟩:=zah (zs:=[_,_,_]) (ys:=[.string ⟨#[]⟩,.int .i64 0,.slice none 0 0]) hb1 rfl
   exact⟨_,sr,h1,zw3 (Keeps.thru kk ks (fun _ _ f=>f) fun i hi e=>by omega) hok hE h0⟩
  by_cases hr:n<0∨8≤n
  ·have hE:za1 (zaa bs) n=1:=by unfold za1;rw[zp hr]
   obtain⟨w2,sr,h1,hG⟩:=noE 1 hE (by decide)
   have SR:=zq sr
   have H1:=zq h1
   have HG:=zq hG
   clear noE sr h1 hG hE hb1 kk k1 hok ht hl hm hb0 k0 s0
   by_cases hneg:n<0
   ·have d1:decide (n<0)=true:=by simp only[decide_eq_true_eq];exact hneg
    clear hr hneg
    go_wp2_with (first
     | ((with_reducible refine at_ (op:=.store 113 (.tmp 4) (.tmp 25)) ?_);refine zat rfl (zbb 113 (.tmp 4) (.tmp 25) rfl _ _ rfl rfl SR.out) ?_)
     | fail)
    refine bodyPost_ret (v:=.tuple #[Ino.ag in0 none 0,.int .u32 0,.int .i64 1]) ?_ rfl HG.out
    exact zap rfl _ _ w.heap.size 113 _ (0,0) _ _ _ rfl rfl rfl H1.out Tryz.underlying113 rfl (by rw[zbc];rfl)
   ·have d1:decide (n<0)=false:=by simp only[decide_eq_false_iff_not];exact hneg
    have d2:decide (8≤n)=true:=by simp only[decide_eq_true_eq];omega
    clear hr hneg
    go_wp2_with (first
     | ((with_reducible refine at_ (op:=.store 113 (.tmp 4) (.tmp 25)) ?_);refine zat rfl (zbb 113 (.tmp 4) (.tmp 25) rfl _ _ rfl rfl SR.out) ?_)
     | fail)
    refine bodyPost_ret (v:=.tuple #[Ino.ag in0 none 0,.int .u32 0,.int .i64 1]) ?_ rfl HG.out
    exact zap rfl _ _ w.heap.size 113 _ (0,0) _ _ _ rfl rfl rfl H1.out Tryz.underlying113 rfl (by rw[zbc];rfl)
  ·obtain⟨N,rfl⟩:∃ N:Nat,n=(N:Int):=⟨n.toNat,by omega⟩
   have hN8:N<8:=by omega
   have hNl:N<ls.length:=by omega
   obtain⟨g,rfl,ca0,ca1,ca2⟩:=ht.own.at_ hNl
   have hyx:ls[N].x=at' (zaa bs) N:=zuv (ns:=zaa bs) (by rw[hm,List.take_of_length_le (by rw[zbp];omega)]) hNl hl
   have d1:decide ((N:Int)<0)=false:=by simp
   have d2:decide ((8:Int)≤(N:Int))=false:=by simp only[decide_eq_false_iff_not];omega
   have p0:(0:Int)≤N:=by omega
   have p1:(N:Int)<8:=by omega
   by_cases hnm:ls[N].x.name=[]
   ·have hE:za1 (zaa bs) (N:Int)=123:=by unfold za1;rw[zn hr,show((N:Int)).toNat=N by omega,zp (by rw[← hyx];exact hnm)]
    obtain⟨w2,sr,h1,hG⟩:=noE 123 hE (by decide)
    have hem:ls[N].x.name.isEmpty=true:=by simp[hnm]
    have e2:((⟨ls[N].x.name.toArray⟩:ByteArray).toList==(⟨#[]⟩:ByteArray).toList)=true:=by rw[zon,zkj];simp[hnm]
    have SR:=zq sr
    have H1:=zq h1
    have HG:=zq hG
    clear noE sr h1 hG hE hb1 kk k1 hok ht hl hm hb0 k0 s0 hr hyx
    generalize ls[N]=y at *
    go_wp2_with (first
     | ((with_reducible refine at_ (op:=.store 113 (.tmp 4) (.tmp 32)) ?_);refine zat rfl (zbb 113 (.tmp 4) (.tmp 32) rfl _ _ rfl rfl SR.out) ?_)
     | fail)
    refine bodyPost_ret (v:=.tuple #[Ino.ag in0 none 0,.int .u32 0,.int .i64 123]) ?_ rfl HG.out
    exact zap rfl _ _ w.heap.size 113 _ (0,0) _ _ _ rfl rfl rfl H1.out Tryz.underlying113 rfl (by rw[zbc];rfl)
   ·have hE:za1 (zaa bs) (N:Int)=0:=by unfold za1;rw[zn hr,show((N:Int)).toNat=N by omega,zn (by rw[← hyx];exact hnm)]
    have hX:za0 (zaa bs) (N:Int)=ls[N].x:=by unfold za0;rw[zp hE,show((N:Int)).toNat=N by omega,← hyx]
    have hem:ls[N].x.name.isEmpty=false:=by cases hh:ls[N].x.name with
     | nil=>exact absurd hh hnm
     | cons _ _=>rfl
    have e2:((⟨ls[N].x.name.toArray⟩:ByteArray).toList==(⟨#[]⟩:ByteArray).toList)=false:=by rw[zon,zkj];simp[hnm]
    have sr:=run_storeAt_mid (P:=Tryz.prog) w1 w.heap.size 0 113 #[St ls[N].x.name,.int .i64 ls[N].x.size,.slice ls[N].R ls[N].x.ext.length ls[N].c] (zax (zs:=[_,_,_]) hb1 0 3 (by simp)) zbc (by simp[Value.oneCell'])
    obtain⟨h1,ks⟩:=zah (zs:=[_,_,_]) (ys:=[St ls[N].x.name,.int .i64 ls[N].x.size,.slice ls[N].R ls[N].x.ext.length ls[N].c]) hb1 rfl
    have hmem:ls[N]∈ls:=List.getElem_mem hNl
    have xr2:=zez (ht.ext _ hmem) ks fun hne ad e f=>by have:=(ht.apart _ hmem hne ad e).1;omega
    have hG:zm2 w bs (N:Int) (.returned (.tuple #[Ino.ag ls[N].x ls[N].R ls[N].c,.int .u32 (zao (zaa bs):Int),.int .i64 0])) _:=
     ⟨Keeps.thru kk ks (fun _ _ f=>f) fun i hi e=>by omega,.inl ⟨hok,ls[N].R,ls[N].c,by rw[hX,hE,zp rfl],by rw[hX];exact xr2⟩⟩
    have SR:=zq sr
    have H1:=zq h1
    have HG:=zq hG
    clear noE sr h1 hG hE hb1 kk k1 hok ht hl hm hb0 k0 s0 hr hyx hX xr2 ks hmem
    generalize ls[N]=y at *
    go_wp2_with (first
     | ((with_reducible refine at_ (op:=.store 113 (.tmp 4) (.tmp 36)) ?_);refine zat rfl (zbb 113 (.tmp 4) (.tmp 36) rfl _ _ rfl rfl SR.out) ?_)
     | fail)
    refine bodyPost_ret (v:=.tuple #[Ino.ag y.x y.R y.c,.int .u32 (zao (zaa bs):Int),.int .i64 0]) ?_ rfl HG.out
    exact zap rfl _ _ w.heap.size 113 _ (0,0) _ _ _ rfl rfl rfl H1.out Tryz.underlying113 rfl (by rw[zbc];rfl)
 ·have hb1:=(k1.block w.heap.size (by omega) (fun f=>f)).trans hb0
  have sr:=run_storeAt_mid (P:=Tryz.prog) w1 w.heap.size 0 113 #[.string ⟨#[]⟩,.int .i64 0,.slice none 0 0] (zax (zs:=[_,_,_]) hb1 0 3 (by simp)) zbc (by simp[Value.oneCell'])
  obtain⟨h1,ks⟩:=zah (zs:=[_,_,_]) (ys:=[.string ⟨#[]⟩,.int .i64 0,.slice none 0 0]) hb1 rfl
  have hG:zm2 w bs n (.returned (.tuple #[Ino.ag in0 none 0,.int .u32 0,.int .i64 120])) _:=⟨Keeps.thru (k0.trans k1) ks (fun _ _ f=>f) fun i hi e=>by omega,.inr ⟨hno,rfl⟩⟩
  have SR:=zq sr
  have H1:=zq h1
  have HG:=zq hG
  clear sr h1 hG hb1 k1 hno hb0 k0 s0 ks
  go_wp2_with (first
   | ((with_reducible refine at_ (op:=.store 113 (.tmp 4) (.tmp 18)) ?_);refine zat rfl (zbb 113 (.tmp 4) (.tmp 18) rfl _ _ rfl rfl SR.out) ?_)
   | fail)
  refine bodyPost_ret (v:=.tuple #[Ino.ag in0 none 0,.int .u32 0,.int .i64 120]) ?_ rfl HG.out
  exact zap rfl _ _ w.heap.size 113 _ (0,0) _ _ _ rfl rfl rfl H1.out Tryz.underlying113 rfl (by rw[zbc];rfl)
theorem zyy (h:RefH w mi q b c d e M G)(n:Int)(hn:-9223372036854775808≤n∧n≤9223372036854775807):
  Calls Tryz.prog 79 #[.pointer (some ⟨q,0,none⟩),.int .i64 n] w (zhd w (zab M) (.tuple #[.int .i64 (za0 (zaa (zab M)) n).size,.int .i64 (za1 (zaa (zab M)) n)]) (.tuple #[.int .i64 0,.int .i64 120])):=by
 have HN:=zq (ze9 h n hn)
 clear h
 go_enter Tryz.func79,Tryz.ntmps79
 go_wp2_with fail
 refine HN.out.mono ?_
 rintro en w1 ⟨k1,⟨hok,R,c,rfl,hx⟩|⟨hno,rfl⟩⟩
 ·generalize za0 (zaa (zab M)) n=x at *
  generalize za1 (zaa (zab M)) n=E at *
  generalize (if E=0 then (zao (zaa (zab M)):Int) else 0)=u at *
  have HG:Hid (zhd w (zab M) (.tuple #[.int .i64 x.size,.int .i64 E]) (.tuple #[.int .i64 0,.int .i64 120]) (.returned (.tuple #[.int .i64 x.size,.int .i64 E])) (w1.alloc (.cells #[St x.name,.int .i64 x.size,.slice R x.ext.length c] 113))):=⟨k1.trans (Keeps.alloc _ _ _),.inl ⟨hok,rfl⟩⟩
  clear k1 hok hx HN
  go_wp2_with fail
  go_ret2
  exact HG.out
 ·have HG:Hid (zhd w (zab M) (.tuple #[.int .i64 (za0 (zaa (zab M)) n).size,.int .i64 (za1 (zaa (zab M)) n)]) (.tuple #[.int .i64 0,.int .i64 120]) (.returned (.tuple #[.int .i64 0,.int .i64 120])) (w1.alloc (.cells #[.string ⟨#[]⟩,.int .i64 0,.slice none 0 0] 113))):=⟨k1.trans (Keeps.alloc _ _ _),.inr ⟨hno,rfl⟩⟩
  clear k1 hno HN
  go_wp2_with fail
  go_ret2
  exact HG.out
theorem yh6 {ns:List IN} (ha:ztr ns){name:List UInt8} (h0:name≠[]){m:Nat} (hm:m<8)(he:(at' ns m).name=name):zdk ns name=some m:=by
 have fm:isF (at' ns m)=true:=by simp[isF,he,h0]
 cases hf:zdk ns name with
 | none=>exact absurd he (zf3 hf hm fm)
 | some i =>
  obtain⟨hi,fi,hn⟩:=zcp hf
  by_cases e:i=m
  ·rw[e]
  ·exact absurd (hn.trans he.symm) (ha i m hi hm e fi fm).1
theorem yh5 {ns:List IN} {name:List UInt8} (h:∀ j,j<8→(at' ns j).name≠name):zdk ns name=none:=by
 cases hf:zdk ns name with
 | none=>rfl
 | some i =>
  obtain⟨hi,_,hn⟩:=zcp hf
  exact absurd hn (h i hi)
def FdR (w1:World) (ns:List IN) (name:List UInt8) (g:Nat) (k:Value) (wr:World):Prop:=∃ m,g=8-m∧m≤8∧k=.int .i64 (m:Int)∧(∀ j,j<m→(at' ns j).name≠name)∧Below w1.heap.size w1 wr
theorem zfa (h:RefH w mi q b c d e M G)(name:List UInt8)(hl:name.length≤9223372036854775807):
  Calls Tryz.prog 69 #[.pointer (some ⟨q,0,none⟩),St name] w (zhd w (zab M) (.tuple #[.int .i64 (zbi (zaa (zab M)) name:Int),.int .i64 (za5 (zaa (zab M)) name)]) (.tuple #[.int .i64 0,.int .i64 120])):=by
 have HT:=zq (zhi h)
 have HN:=zq (fun W=>zlz name W hl)
 clear h
 generalize zab M=bs at *
 go_enter Tryz.func69,Tryz.ntmps69
 go_wp2_with fail
 refine HT.out.mono ?_
 rintro en w1 ⟨k1,⟨hok,R,cap,ls,rfl,hls,hm,ht⟩|⟨hno,rfl⟩⟩
 rotate_left
 ·have HG:Hid (zhd w bs (.tuple #[.int .i64 (zbi (zaa bs) name:Int),.int .i64 (za5 (zaa bs) name)]) (.tuple #[.int .i64 0,.int .i64 120]) (.returned (.tuple #[.int .i64 0,.int .i64 120])) w1):=⟨k1,.inr ⟨hno,rfl⟩⟩
  clear k1 hno HT HN
  go_wp2_with fail
  go_ret2
  exact HG.out
 cases hnb:zbg name with
 | false =>
  have h1:zbi (zaa bs) name=0:=by unfold zbi;rw[zp hnb]
  have h2:za5 (zaa bs) name=121:=by unfold za5;rw[zp hnb]
  have HG:Hid (zhd w bs (.tuple #[.int .i64 (zbi (zaa bs) name:Int),.int .i64 (za5 (zaa bs) name)]) (.tuple #[.int .i64 0,.int .i64 120]) (.returned (.tuple #[.int .i64 0,.int .i64 121])) w1):=⟨k1,.inl ⟨hok,by rw[h1,h2];rfl⟩⟩
  rw[hnb] at HN
  clear k1 hok HT h1 h2 ht hm hls
  go_wp2_with fail
  refine(HN.out _).mono ?_
  rintro en w2 ⟨rfl,rfl⟩
  go_wp2_with fail
  go_ret2
  exact HG.out
 | true =>
  rw[hnb] at HN
  have hne:=zi8 hnb
  have hmap:ls.map (·.x)=(zaa bs).take 8:=by rw[hm,List.take_of_length_le (by rw[zbp];omega)]
  have HTT:=zq ht
  have HAP:=zq ((zic bs).1 hok).2.1
  have K1:=zq (And.intro k1 hok)
  have HF0:Hid (FdR w1 (zaa bs) name 8 (.int .i64 0) w1):=⟨0,by omega,by omega,rfl,fun j hj=>absurd hj (by omega),Below.refl _ _⟩
  clear ht hok k1 hm HT
  go_wp2_with fail
  refine(HN.out _).mono ?_
  rintro en w2 ⟨rfl,rfl⟩
  go_wp2_with fail
  go_loopg [9,10,24] 8 (fun g _ _ k wr=>FdR w2 (zaa bs) name g k wr)
  case atStart=>exact HF0.out
  case round =>
   obtain⟨m,rfl,hm,rfl,hnm,bq⟩:=hrel
   clear HF0
   by_cases hml:m<8
   ·obtain⟨gl,rfl,ca0,ca1,ca2⟩:=(HTT.out.keep (F:=fun _=>False) (zac bq) fun _ _ _ f=>f).own.at_ (k:=m) (by omega)
    have hyx:=zuv hmap (by omega:m<ls.length) hls
    have d1:decide ((m:Int)<8)=true:=by simp only[decide_eq_true_eq];omega
    have p0:(0:Int)≤m:=by omega
    have p1:(m:Int)<8:=by omega
    have q3:IntKind.i64.wrap ((m:Int)+1)=(m:Int)+1:=by rw[IntKind.wrap_i64];omega
    generalize ls[m]=y at *
    have ba:=(Below.refl wr.heap.size wr).alloc (Nat.le_refl _) (.cells #[St y.x.name,.int .i64 y.x.size,.slice y.R y.x.ext.length y.c] 113)
    have hst:=zkj y.x.name name
    by_cases heq:y.x.name=name
    ·have e2:decide (y.x.name=name)=true:=by simp[heq]
     have e3:(y.x.name==name)=true:=by simp[heq]
     have hfi:=yh6 HAP.out hne hml (by rw[← hyx];exact heq)
     have h1:zbi (zaa bs) name=m:=by unfold zbi;rw[zn (by rw[hnb];simp),hfi];rfl
     have h2:za5 (zaa bs) name=0:=by unfold za5;rw[zn (by rw[hnb];simp),hfi];rfl
     have HG:Hid (zhd w bs (.tuple #[.int .i64 (zbi (zaa bs) name:Int),.int .i64 (za5 (zaa bs) name)]) (.tuple #[.int .i64 0,.int .i64 120]) (.returned (.tuple #[.int .i64 (m:Int),.int .i64 0])) (wr.alloc (.cells #[St y.x.name,.int .i64 y.x.size,.slice y.R y.x.ext.length y.c] 113))):=
      ⟨(K1.out.1.trans (zac bq)).trans (zac ba),.inl ⟨K1.out.2,by rw[h1,h2]⟩⟩
     clear hyx hnm bq ba heq hfi h1 h2
     go_wp2_with fail
     go_ret2
     exact HG.out
    ·have e2:decide (y.x.name=name)=false:=by simp[heq]
     have e3:(y.x.name==name)=false:=by simp[heq]
     have HR:Hid (FdR w2 (zaa bs) name (8-(m+1)) (.int .i64 ((m:Int)+1)) (wr.alloc (.cells #[St y.x.name,.int .i64 y.x.size,.slice y.R y.x.ext.length y.c] 113))):=⟨m+1,rfl,by omega,by rw[Int.natCast_add];rfl,fun j hj=>by
      by_cases e:j=m
      ·subst e
       rw[← hyx]
       exact heq
      ·exact hnm j (by omega),bq.trans (ba.mono bq.size)⟩
     clear hyx hnm bq ba heq
     go_wp2_with fail
     go_roundg (8-(m+1))
     case rel=>exact HR.out
     case measure=>omega
   ·obtain rfl:m=8:=by omega
    have hfi:=yh5 hnm
    have h1:zbi (zaa bs) name=0:=by unfold zbi;rw[zn (by rw[hnb];simp),hfi];rfl
    have h2:za5 (zaa bs) name=123:=by unfold za5;rw[zn (by rw[hnb];simp),hfi];rfl
    have HG:Hid (zhd w bs (.tuple #[.int .i64 (zbi (zaa bs) name:Int),.int .i64 (za5 (zaa bs) name)]) (.tuple #[.int .i64 0,.int .i64 120]) (.returned (.tuple #[.int .i64 0,.int .i64 123])) wr):=⟨K1.out.1.trans (zac bq),.inl ⟨K1.out.2,by rw[h1,h2];rfl⟩⟩
    clear hnm bq hfi h1 h2
    go_wp2_with fail
    go_ret2
    exact HG.out
end Fr
namespace Fr
open Go.RowKit Ex Ino Mm Fs
variable {w:World} {mi q b c d e:Nat} {M G:List UInt8}
def CoR (w6:World) (bs:List UInt8) (own:List Nat) (g:Nat) (ov kv:Value) (wr:World):Prop:=
 ∃ j Ro co zs,g=own.length-j∧j≤own.length∧kv=.int .i64 (j:Int)∧zs=(own.take j).flatMap (zaw bs)∧zs.length=64*j∧ov=.slice Ro zs.length co∧Own8 wr w6.heap.size 5 Ro co zs∧Below w6.heap.size w6 wr
theorem box_in (w:World)(x:IN)(R:Option Addr)(c:Nat):(Instr.box 113 (Ino.ag x R c)).run Tryz.prog w=.ok (.pointer (some ⟨w.heap.size,0,none⟩)) (w.alloc (.cells #[St x.name,.int .i64 x.size,.slice R x.ext.length c] 113)):=rfl
theorem zqm (h:RefH w mi q b c d e M G)(x:IN)(R:Option Addr)(cx:Nat)(hx:XR w w.heap.size R x.ext)(hf:x.ext.length≤100):
  Calls Tryz.prog 116 #[.pointer (some ⟨q,0,none⟩),Ino.ag x R cx] w (zhc w (zam (zab M) x.ext)):=by
 have BX:=zq (box_in w x R cx)
 have k0:Keeps (fun _=>False) w (w.alloc (.cells #[St x.name,.int .i64 x.size,.slice R x.ext.length cx] 113)):=Keeps.alloc _ _ _
 have hl:(zab M).length=2048:=by unfold zab;rw[List.length_drop];have:=h.bl;omega
 have HBL:=zq (zcc R x.ext cx _ (zez hx k0 fun _ _ _ f=>f) hf)
 have H:=zq h
 have K0:=zq k0
 have hg:=za3 x.ext
 have c2:(w.alloc (.cells #[St x.name,.int .i64 x.size,.slice R x.ext.length cx] 113)).cell? ⟨w.heap.size,2,none⟩=some (.slice R x.ext.length cx):=by rw[cell_of_row _ _ _ _ _ _ (World.alloc_heap_new w _)];rfl
 have hwv:zam (zab M) x.ext=(za4 x.ext).flatMap (zaw (zab M)):=rfl
 clear h k0 hx
 generalize hbs:zab M=bs at *
 generalize hw0:w.alloc (.cells #[St x.name,.int .i64 x.size,.slice R x.ext.length cx] 113)=w0 at *
 rw[hwv]
 unfold Ino.ag at BX ⊢
 clear hwv
 go_enter Tryz.func116,Tryz.ntmps116
 go_wp2_with (first
  | ((with_reducible refine at_ (op:=.box 113 (.tmp 1)) ?_);refine zaj rfl _ (ybl 113 (.tmp 1) rfl _ _ rfl BX.out) ?_)
  | fail)
 refine HBL.out.mono ?_
 rintro en w6 ⟨Ro,co,rfl,own6,b6⟩
 have kk:Keeps (fun _=>False) w w6:=K0.out.trans (zac b6)
 have s6:=kk.size
 have hR6:=H.out.keep kk fun _ _ _ f=>f
 generalize za4 x.ext=own at *
 have HO:=zq own6
 have KK:=zq kk
 have HR6:=zq hR6
 have hol:=hg.len
 have HC0:Hid (CoR w6 bs own own.length (.slice none 0 0) (.int .i64 0) w6):=⟨0,none,0,[],by omega,by omega,rfl,by simp,rfl,rfl,World.ownsRow_nil _ _ _ _,Below.refl _ _⟩
 clear own6 b6 kk hR6 HBL BX H K0 c2 hw0
 go_wp2_with fail
 go_loopg [5,9,18] own.length (fun g ov _ kv wr=>CoR w6 bs own g ov kv wr)
 case atStart=>exact HC0.out
 case round =>
  obtain⟨j,Rz,cz,zs,rfl,hj,rfl,hzs,hzl,rfl,ownz,bz⟩:=hrel
  clear HC0
  by_cases hjl:j<own.length
  ·obtain⟨go,rfl,hgo,co0⟩:=HO.out.ir.at_ hjl
   have co1:=(bz.cell (p:=⟨go,j,none⟩) hgo).trans co0
   have hb32:=hg.2 own[j] (List.getElem_mem hjl)
   have hbk:=zjs (HR6.out.keep (zac (F:=fun _=>False) bz) fun _ _ _ f=>f) own[j] (by omega)
   rw[hbs] at hbk
   have hpl:=zbl hl (n:=own[j]) (by omega)
   have hnext:(own.take (j+1)).flatMap (zaw bs)=zs++zaw bs own[j]:=by rw[List.take_succ_eq_append_getElem hjl,List.flatMap_append,hzs];simp
   have d1:decide ((j:Int)<(own.length:Int))=true:=by simp only[decide_eq_true_eq];omega
   have d2:decide (j<own.length)=true:=by simp only[decide_eq_true_eq];omega
   have p0:(0:Int)≤j:=by omega
   have p1:(j:Int)<own.length:=by omega
   have q3:IntKind.i64.wrap ((j:Int)+1)=(j:Int)+1:=by rw[IntKind.wrap_i64];omega
   have HBK:=zq hbk
   have OZ:=zq ownz
   have BZ:=zq bz
   have HZ:=zq (And.intro hzs hnext)
   clear hbk ownz bz hzs hnext co0 hb32
   generalize own[j]=bj at *
   go_wp2_with fail
   refine HBK.out.mono ?_
   rintro en w7 ⟨g7,rfl,hr7,k7⟩
   rw[hpl]
   have bz7:Below w6.heap.size w6 w7:=BZ.out.trans ((k7.toBelow wr.heap.size (Nat.le_refl _) fun _ f=>f.elim).mono BZ.out.size)
   have oz7:Own8 w7 w6.heap.size 5 Rz cz zs:=by
    refine⟨OZ.out.1,?_⟩
    rcases OZ.out.2 with h0 | ⟨g',cap',cur,hv,hB,hgg,rest⟩
    ·exact .inl h0
    ·exact .inr ⟨g',cap',cur,hv,hB,(k7.block g' (Array.getElem?_eq_some_iff.1 hgg).1 (fun f=>f)).trans hgg,rest⟩
   obtain⟨g8,c8,w8,hap,own8,b8⟩:=Own8.app (P:=Tryz.prog) 31 31 5 (by kernel_rfl) Tryz.underlying31 oz7 bz7.size (by omega) 64 hr7.br (by omega) (by intro e;rw[e] at hpl;cases hpl)
   rw[hpl,hzl] at hap
   have HAP:=zq hap
   have HR:Hid (CoR w6 bs own (own.length-(j+1)) (.slice (some ⟨g8,0,none⟩) (64*j+64) c8) (.int .i64 ((j:Int)+1)) w8):=
    ⟨j+1,_,c8,zs++zaw bs bj,rfl,by omega,by rw[Int.natCast_add];rfl,HZ.out.2.symm,by rw[List.length_append,hzl,hpl];omega,by rw[List.length_append,hzl,hpl],own8,bz7.trans b8⟩
   rw[hzl]
   clear hr7 k7 bz7 oz7 hap own8 b8 OZ BZ HZ HBK
   go_wp2_with (first
    | ((with_reducible refine zd5 (op:=.call { callee:=.builtin .append,args:=#[.tmp 22,.tmp 25],argTypes:=#[31,31] }) ?_);refine zak rfl _ _ 31 rfl _ HAP.out ?_)
    | fail)
   go_roundg (own.length-(j+1))
   case rel=>exact HR.out
   case measure=>omega
  ·obtain rfl:j=own.length:=by omega
   rw[List.take_length] at hzs
   have d1:decide ((own.length:Int)<(own.length:Int))=false:=by simp
   have HG:Hid (zhc w (own.flatMap (zaw bs)) (.returned (.slice Rz zs.length cz)) wr):=⟨Rz,cz,by rw[hzs],by rw[← hzs];exact ownz.low s6,(KK.out.toBelow w.heap.size (Nat.le_refl _) fun _ f=>f.elim).trans (bz.mono s6)⟩
   clear ownz bz hzs
   generalize zs.length=zl at *
   go_wp2_with fail
   go_ret
   exact HG.out
end Fr
namespace Fr
open Go.RowKit Ex Ino Mm Fs
variable {w:World} {mi q b c d e:Nat} {M G:List UInt8}
def RdO (w:World) (bs:List UInt8) (n a k:Int) (en:Ending) (w':World):Prop:=Keeps (fun _=>False) w w' ∧
  ((okR bs∧∃ A c,en=.returned (.tuple #[.slice A (zfc ⟨bs,zaa bs⟩ n a k).length c,.int .i64 (zfx ⟨bs,zaa bs⟩ n a k)])∧BR w' w'.heap.size A (zfc ⟨bs,zaa bs⟩ n a k)∧∀ ad,A=some ad→w.heap.size≤ad.block) ∨
   (¬okR bs∧en=.returned (.tuple #[.slice none 0 0,.int .i64 120])))
theorem zzh {w w':World} {bs:List UInt8} {n a k E:Int} (kk:Keeps (fun _=>False) w w')(hok:okR bs)(hE:zfx ⟨bs,zaa bs⟩ n a k=E)(hX:zfc ⟨bs,zaa bs⟩ n a k=[]):RdO w bs n a k (.returned (.tuple #[.slice none 0 0,.int .i64 E])) w':=
 ⟨kk,.inl ⟨hok,none,0,by rw[hE,hX];rfl,by rw[hX];exact BR.nil,fun _ e=>by cases e⟩⟩
theorem yip {w:World} {B g:Nat} {xs:List UInt8} (h:BR w B (some ⟨g,0,none⟩) xs)(k n:Nat):BR w B (some ⟨g,k,none⟩) ((xs.drop k).take n):=by
 intro hne
 have hn:xs≠[]:=by intro e;rw[e] at hne;simp at hne
 obtain⟨ad,e,hb,hc⟩:=h hn
 cases e
 refine⟨_,rfl,hb,fun j u hu=>?_⟩
 rw[List.getElem?_take] at hu
 split at hu
 ·rw[List.getElem?_drop] at hu
  have:=hc (k+j) u hu
  have e1:(⟨g,0,none⟩:Addr).add (k+j)=⟨g,k+j,none⟩:=by unfold Addr.add;split<;>simp_all
  have e2:(⟨g,k,none⟩:Addr).add j=⟨g,k+j,none⟩:=by unfold Addr.add;split<;>simp_all
  rw[e1] at this
  rw[e2]
  exact this
 ·cases hu
theorem ydr {w:World} {B:Nat} {R:Option Addr} {cap:Nat} {zs:List UInt8} (h:Own8 w B 5 R cap zs):zs.length≤cap:=by
 rcases h.2 with⟨h0,h1⟩|⟨g',cap',cur,hv,hB,hgg,hc,_⟩
 ·omega
 ·injection hv with _ _ h3
  omega
theorem zy0 (h:RefH w mi q b c d e M G)(n a k:Int)(hn:-9223372036854775808≤n∧n≤9223372036854775807)(ha:-9223372036854775808≤a∧a≤9223372036854775807)(hk:-9223372036854775808≤k∧k≤9223372036854775807):
  Calls Tryz.prog 77 #[.pointer (some ⟨q,0,none⟩),.int .i64 n,.int .i64 a,.int .i64 k] w (RdO w (zab M) n a k):=by
 have HN:=zq (ze9 h n hn)
 have H:=zq h
 have hml:=h.bl
 clear h
 have hgood:okR (zab M)→RGood ⟨zab M,zaa (zab M)⟩:=fun ho=>zfr hml ho
 go_enter Tryz.func77,Tryz.ntmps77
 go_wp2_with fail
 refine HN.out.mono ?_
 rintro en w1 ⟨k1,⟨hok,R,cx,rfl,hx⟩|⟨hno,rfl⟩⟩
 rotate_left
 ·have HG:Hid (RdO w (zab M) n a k (.returned (.tuple #[.slice none 0 0,.int .i64 120])) (w1.alloc (.cells #[.string ⟨#[]⟩,.int .i64 0,.slice none 0 0] 113))):=⟨k1.trans (Keeps.alloc _ _ _),.inr ⟨hno,rfl⟩⟩
  clear k1 hno HN H hgood
  go_wp2_with fail
  go_ret2
  exact HG.out
 have hgd:=hgood hok
 have hro:=H.out.keep k1 fun _ _ _ f=>f
 by_cases hE:za1 (zaa (zab M)) n=0
 case neg =>
  have h1:zfx ⟨zab M,zaa (zab M)⟩ n a k=za1 (zaa (zab M)) n:=by unfold zfx;rw[zp hE]
  have h2:zfc ⟨zab M,zaa (zab M)⟩ n a k=[]:=by unfold zfc;rw[zn (by rw[h1];exact hE)]
  have HG:Hid (∀ W,Keeps (fun _=>False) w W→RdO w (zab M) n a k (.returned (.tuple #[.slice none 0 0,.int .i64 (za1 (zaa (zab M)) n)])) W):=fun W hW=>zzh hW hok h1 h2
  have t1:(za1 (zaa (zab M)) n != 0)=true:=by simp[hE]
  have K1:=zq k1
  clear h1 h2 hgd hro hgood H HN hok k1 hx
  generalize za0 (zaa (zab M)) n=x at *
  generalize za1 (zaa (zab M)) n=E at *
  generalize (if E=0 then (zao (zaa (zab M)):Int) else 0)=u at *
  have HG2:=zq (HG.out _ (K1.out.trans (Keeps.alloc _ _ (.cells #[St x.name,.int .i64 x.size,.slice R x.ext.length cx] 113))))
  clear HG K1 hE
  go_wp2_with fail
  go_ret2
  exact HG2.out
 have t1:(za1 (zaa (zab M)) n != 0)=false:=by simp[hE]
 obtain⟨⟨hn0,hn8⟩,hisF⟩:=nodeE_zero.1 hE
 have hsz:=hgd.size (i:=n.toNat) (by omega)
 have hX:za0 (zaa (zab M)) n=at' (zaa (zab M)) n.toNat:=by unfold za0;rw[zp hE]
 have hat:=zbw (zab M) (i:=n.toNat) (by omega)
 have hfew:(za0 (zaa (zab M)) n).ext.length≤100:=by
  have:=(zgl (b:=zaw (zab M) (1+n.toNat)) (w:=w1) (R:=R) (by rw[← hat,← hX];exact hx)).few
  rwa [← hat,← hX] at this
 have hwl:(zam (zab M) (za0 (zaa (zab M)) n).ext).length=64*(za4 (za0 (zaa (zab M)) n).ext).length:=zdh (by unfold zab;rw[List.length_drop];omega) _
 have hbl23:=(za3 (za0 (zaa (zab M)) n).ext).len
 have hre:zfx ⟨zab M,zaa (zab M)⟩ n a k=if a<0∨k<0 then 1 else 0:=by unfold zfx;rw[zn (by rw[show(⟨zab M,zaa (zab M)⟩:RG).ns=zaa (zab M) from rfl,hE];decide)]
 have hrx:zfc ⟨zab M,zaa (zab M)⟩ n a k=if a<0∨k<0 then [] else ((zam (zab M) (za0 (zaa (zab M)) n).ext).drop (zt8 (za0 (zaa (zab M)) n) a)).take (rdN (za0 (zaa (zab M)) n) a k):=by
  unfold zfc
  rw[hre]
  by_cases h0:a<0∨k<0
  ·rw[zp h0,zn (by decide),zp h0]
  ·rw[zn h0,zp rfl,zn h0]
 obtain⟨w2,hw2⟩:∃ w2,w2=w1.alloc (.cells #[St (za0 (zaa (zab M)) n).name,.int .i64 (za0 (zaa (zab M)) n).size,.slice R (za0 (zaa (zab M)) n).ext.length cx] 113):=⟨_,rfl⟩
 have k12:Keeps (fun _=>False) w1 w2:=by rw[hw2];exact Keeps.alloc _ _ _
 have hbox:w2.heap[w1.heap.size]?=some (.cells #[St (za0 (zaa (zab M)) n).name,.int .i64 (za0 (zaa (zab M)) n).size,.slice R (za0 (zaa (zab M)) n).ext.length cx] 113 (0,0)):=by rw[hw2];exact World.alloc_heap_new _ _
 have hRC:=fun W (kW:Keeps (fun _=>False) w2 W)=>zqm (hro.keep (k12.trans kW) fun _ _ _ f=>f) _ R cx (zez hx (k12.trans kW) fun _ _ _ f=>f) hfew
 have KW:=zq (And.intro (k1.trans k12) hok)
 rw[← hX] at hsz
 obtain⟨⟨hs0,hs1⟩,_,hs2⟩:=hsz
 rw[zp hE]
 have RE:=zq hre
 have RX:=zq hrx
 have HRC:=zq hRC
 have c0:w2.cell? ⟨w1.heap.size,0,none⟩=some (St (za0 (zaa (zab M)) n).name):=by rw[cell_of_row _ _ _ _ _ _ hbox];rfl
 have c1:w2.cell? ⟨w1.heap.size,1,none⟩=some (.int .i64 (za0 (zaa (zab M)) n).size):=by rw[cell_of_row _ _ _ _ _ _ hbox];rfl
 have c2:w2.cell? ⟨w1.heap.size,2,none⟩=some (.slice R (za0 (zaa (zab M)) n).ext.length cx):=by rw[cell_of_row _ _ _ _ _ _ hbox];rfl
 have hlt12:w1.heap.size<w2.heap.size:=by rw[hw2,World.size_alloc];omega
 rw[hE]
 clear k1 hok hx hgd hro hgood H HN hfew hRC k12 hre hrx hX hat hisF t1 hE
 generalize za0 (zaa (zab M)) n=x at *
 generalize (zao (zaa (zab M)):Int)=u at *
 generalize zam (zab M) x.ext=W at *
 by_cases hbad:a<0∨k<0
 ·have HG:Hid (RdO w (zab M) n a k (.returned (.tuple #[.slice none 0 0,.int .i64 1])) w2):=zzh KW.out.1 KW.out.2 (by rw[RE.out,zp hbad]) (by rw[RX.out,zp hbad])
  rw[hw2] at HG
  clear RE RX KW HRC c0 c1 c2 hw2
  by_cases hneg:a<0
  ·have d1:decide (a<0)=true:=by simp only[decide_eq_true_eq];exact hneg
   clear hbad hneg
   go_wp2_with fail
   go_ret2
   exact HG.out
  ·have d1:decide (a<0)=false:=by simp only[decide_eq_false_iff_not];exact hneg
   have d2:decide (k<0)=true:=by simp only[decide_eq_true_eq];omega
   clear hbad hneg
   go_wp2_with fail
   go_ret2
   exact HG.out
 ·have d1:decide (a<0)=false:=by simp only[decide_eq_false_iff_not];omega
  have d2:decide (k<0)=false:=by simp only[decide_eq_false_iff_not];omega
  have hre0:zfx ⟨zab M,zaa (zab M)⟩ n a k=0:=by rw[RE.out,zn hbad]
  have hrx0:=RX.out
  rw[zn hbad] at hrx0
  have RE0:=zq hre0
  have RX0:=zq hrx0
  have ha0:0≤a:=by omega
  have hk0:0≤k:=by omega
  clear hre0 hrx0 RE RX hbad
  go_wp2_with fail
  rw[← hw2]
  clear hw2
  obtain⟨wd,hwd⟩:∃ wd,wd=w2.drew:=⟨_,rfl⟩
  have hbd:BoxN wd w1.heap.size ⟨x,R,cx⟩:=by rw[hwd];exact hbox
  have kwd:Keeps (fun _=>False) w2 wd:=by rw[hwd];exact zac ((Below.refl _ _).drew)
  obtain⟨s,hs⟩:∃ s:Nat,x.size=s:=⟨x.size.toNat,by omega⟩
  have cd1:=hbd.c.2.1
  have hsW:s≤W.length:=by omega
  rw[show(⟨x,R,cx⟩:ND).x.size=(s:Int) from hs] at cd1
  refine wp_region_held (S:=fun W=>Below wd.heap.size wd W) (by kernel_rfl) ?_
  change wpAnyH _ _ _ _ _ _ _ _ w2.drew
  rw[← hwd]
  have hS:Below wd.heap.size wd wd:=Below.refl _ _
  refine sqH 0 (.pointer (some ⟨q,0,none⟩)) rfl (Or.inl ⟨by rfl,fun _ _=>rfl⟩) hS ?_
  try simp only[Act.put,sqX]
  refine sqH 1 (Ino.ag x R cx) rfl (zai rfl 113 (.tmp 10) rfl _ _ rfl fun W h=>(hbd.below h).load) hS ?_
  try simp only[Act.put,sqX]
  refine sqH 3 (.pointer (some ⟨w1.heap.size,1,none⟩)) rfl (Or.inl ⟨by rfl,fun _ _=>by go_simp⟩) hS ?_
  try simp only[Act.put,sqX]
  refine sqH 4 (.int .i64 (s:Int)) rfl (zai rfl 3 (.tmp 33) rfl _ _ rfl fun w h=>zal zdm ((h.cell (p:=⟨_,1,none⟩) hbd.lt).trans cd1)) hS ?_
  try simp only[Act.put,sqX]
  refine wpAnyH_all (rs:=[2]) (by kernel_rfl) (by simp) fun i hi=>?_
  obtain rfl:i=2:=by simpa using hi
  refine zbf (om:=⟨_,_,_,_,_,_⟩) (fn:=116) (args:=#[.pointer (some ⟨q,0,none⟩),Ino.ag x R cx]) (R:=fun u W'=>∃ Rc cc,u=.slice Rc W.length cc∧Own8 W' wd.heap.size 5 Rc cc W∧Below wd.heap.size wd W') rfl rfl (by go_simp)
   ((HRC.out wd kwd).mono fun e W' ⟨Rc,cc,he,ho,hb⟩=>⟨_,he,Rc,cc,rfl,ho,hb⟩) _ _ rfl rfl ?_
  rintro u w3 ⟨Rc,cc,rfl,ownc,b3⟩
  have hS:=b3
  have hcap:=ydr ownc
  have hsc:s≤cc:=by omega
  refine⟨hS,?_⟩
  try simp only[Act.put,sqX]
  refine sqH 5 (.slice Rc s cc) rfl (Or.inl ⟨by rfl,fun _ _=>by go_simp⟩) hS ?_
  try simp only[Act.put,sqX]
  refine sqH 6 (.slice Rc s cc) rfl (Or.inl ⟨by rfl,fun _ _=>rfl⟩) hS ?_
  try simp only[Act.put,sqX]
  refine wpAnyH_done (by kernel_rfl) ?_ _
  try simp only[Act.put,sqX]
  have KK3:=zq (And.intro ((KW.out.1.trans kwd).trans (zac b3)) KW.out.2)
  have OW:=zq ownc
  have HWD:=zq (show w.heap.size≤wd.heap.size from(KW.out.1.trans kwd).size)
  rw[hs] at hs0 hs1 hs2
  clear HRC c0 c1 c2 hbd cd1 kwd hS b3 KW ownc
  by_cases hge:(s:Int)≤a
  ·have t2:decide ((s:Int)≤a)=true:=by simp only[decide_eq_true_eq];exact hge
   have HG:Hid (RdO w (zab M) n a k (.returned (.tuple #[.slice none 0 0,.int .i64 0])) w3):=zzh KK3.out.1 KK3.out.2 RE0.out (by rw[RX0.out];unfold rdN;rw[show(min k (x.size-min a x.size)).toNat=0 by omega,List.take_zero])
   clear RE0 RX0 OW KK3 hs
   go_wp2_with fail
   go_ret2
   exact HG.out
  ·have t2:decide ((s:Int)≤a)=false:=by simp only[decide_eq_false_iff_not];exact hge
   obtain⟨ai,rfl⟩:=Int.eq_ofNat_of_zero_le ha0
   obtain⟨ki,rfl⟩:=Int.eq_ofNat_of_zero_le hk0
   rcases OW.out.2 with⟨h0,h1⟩|⟨g',cap',cur,hv,hB,hgg,hc,_⟩
   ·omega
   have hv2:Rc=some ⟨g',0,none⟩∧cc=cap':=by injection hv with q1 _ q3;exact⟨q1,q3⟩
   obtain⟨rfl,rfl⟩:=hv2
   clear hv hc
   have hX:zfc ⟨zab M,zaa (zab M)⟩ n ai ki=(W.drop ai).take (min ki (s-ai)):=by
    rw[RX0.out]
    unfold zt8 rdN
    rw[hs,show(min (ai:Int) (s:Int)).toNat=ai by omega,show(min (ki:Int) ((s:Int)-min (ai:Int) (s:Int))).toNat=min ki (s-ai) by omega]
   have hlen:((W.drop ai).take (min ki (s-ai))).length=min ki (s-ai):=by rw[List.length_take,List.length_drop];omega
   have HG:Hid (RdO w (zab M) n ai ki (.returned (.tuple #[.slice (some ⟨g',ai,none⟩) (min ki (s-ai)) (cc-ai),.int .i64 0])) w3):=by
    refine⟨KK3.out.1,.inl ⟨KK3.out.2,some ⟨g',ai,none⟩,cc-ai,?_,?_,fun ad e=>by cases e;exact Nat.le_trans HWD.out hB⟩⟩
    ·rw[RE0.out,hX,hlen]
    ·rw[hX]
     exact yip OW.out.br _ _
   have hai:ai<s:=by omega
   have hm:(min (ki:Int) ((s:Int)-ai))=((min ki (s-ai):Nat):Int):=by omega
   have hm2:min ki (s-ai)≤s-ai:=by omega
   clear RE0 RX0 OW KK3 hs hlen hX
   generalize min ki (s-ai)=m at *
   go_wp2_with fail
   all_goals first
    | rw[show((ai:Int)+(ki:Int)).toNat-ai=m by omega]
    | rw[show((ai:Int)+((s:Int)-(ai:Int))).toNat-ai=m by omega]
    | skip
   all_goals go_ret2
   all_goals exact HG.out
end Fr
namespace Fr
open Go.RowKit Ex Ino Mm Fs
theorem zcz {M:List UInt8} (hm:M.length=8192):(zab M).length=2048:=by simp[zab,hm]
theorem zi1 {x y:List UInt8} (hx:x.length=2048)(hy:y.length=2048)(h:∀ k,k<32→zaw x k=zaw y k):x=y:=by
 refine za7 (by omega) fun i hi=>?_
 have h1:=h (i / 64) (by omega)
 have h2:=zce x (i / 64) (i % 64) (by omega)
 have h3:=zce y (i / 64) (i % 64) (by omega)
 rw[show i / 64*64+i % 64=i by omega] at h2 h3
 rw[← h2,← h3,h1]
theorem zi6 {b:List UInt8} (h:zf7 b=0):zcf (zdx b)=b:=by
 unfold zf7 at h
 by_cases h1:zfg b=true
 ·have h2:=h1
  unfold zfg at h2
  simp only[Bool.and_eq_true,decide_eq_true_eq] at h2
  unfold zdx
  rw[zp h1,zf1 h2.1,h2.2]
 ·rw[zn h1] at h
  split at h
  ·rename_i h2
   unfold zdx
   rw[zn h1,zi7,h2]
  ·cases h
theorem zx5 {bs:List UInt8} (hb:bs.length=2048)(ho:okR bs):zad ⟨bs,zaa bs⟩=bs:=by
 have hr:=zbp bs
 refine zi1 (zcb hb hr) hb fun k hk=>?_
 by_cases h0:k=0
 ·subst h0
  rw[zgo]
  exact ho.2.2.symm
 by_cases h8:k≤8
 ·obtain⟨i,rfl⟩:∃ i,k=1+i:=⟨k-1,by omega⟩
  rw[zde hr (by omega)]
  show zcf (at' (zaa bs) i)=_
  rw[zbw _ (by omega),zi6 (ho.1 i (by omega))]
 ·rw[zdf hr (by omega)]
theorem zj7 {M:List UInt8} (hm:M.length=8192):zbx M 6144 (zab M)=M:=by
 refine za7 (by rw[zbd]) fun i hi=>?_
 rw[zbd] at hi
 rw[zbs _ _ _ _ hi,zcz hm]
 split
 ·rw[zcl _ _ (by omega)]
  unfold zab
  simp only[List.getD_eq_getElem?_getD,List.getElem?_drop]
  congr 2
  omega
 ·rfl
theorem zq1 {M R xs:List UInt8} (hm:M.length=8192)(hR:R.length=2048){o:Nat} (h:o+xs.length≤2048):zbx (zbx M 6144 R) (6144+(o:Int)) xs=zbx M 6144 (splice R o xs):=by
 have hl:=zct R xs o (by omega)
 refine za7 (by simp only[zbd]) fun i hi=>?_
 rw[zbd,zbd] at hi
 rw[zbs _ _ _ _ (by rw[zbd];exact hi),zbs _ _ _ _ hi,zbs _ _ _ _ hi,hl,hR]
 by_cases h1:i<6144
 ·rw[zn (by omega),zn (by omega),zn (by omega)]
 rw[zp (show(6144:Int)≤i∧(i:Int)<6144+(2048:Nat) by omega),zp (show(6144:Int)≤i∧(i:Int)<6144+(2048:Nat) by omega),zcl (splice R o xs) _ (by omega),zcl R _ (by omega),Ino.splice_get _ _ _ _ (by omega)]
 by_cases h2:6144+o≤i∧i<6144+o+xs.length
 ·rw[zp (by omega),zp (by omega),zcl xs _ (by omega)]
  congr 1
  omega
 ·rw[zn (by omega),zn (by omega)]
theorem yd5 {M R x:List UInt8} (hm:M.length=8192)(hR:R.length=2048){n:Nat} (hn:n<32)(hx:x.length=64):zbx (zbx M 6144 R) (6144+(n:Int)*64) x=zbx M 6144 (zau R n x):=by
 rw[show(6144:Int)+(n:Int)*64=6144+((n*64:Nat):Int) by omega]
 exact zq1 hm hR (by omega)
theorem zei {R x:List UInt8} {n:Nat} (hR:R.length=2048)(hn:n<32)(hx:x.length=64):(zau R n x).length=2048:=by
 unfold zau
 rw[zct _ _ _ (by omega),hR]
theorem zrn {bs:List UInt8} (hb:bs.length=2048)(ho:okR bs){i:Nat} (hi:i<8)(x:IN)(hu:zao ((zaa bs).set i x)=zao (zaa bs)):
  zau bs (1+i) (zcf x)=zad ⟨bs,(zaa bs).set i x⟩:=by
 have hr:=zbp bs
 have hrs:((zaa bs).set i x).length=8:=by rw[List.length_set,hr]
 refine zi1 (zei hb (by omega) (zcn x)) (zcb hb hrs) fun k hk=>?_
 rw[zfe hb (zcn x) (by omega) hk]
 by_cases h0:k=0
 ·subst h0
  rw[zn (by omega),zgo,hu]
  exact ho.2.2
 by_cases h8:k≤8
 ·obtain⟨j,rfl⟩:∃ j,k=1+j:=⟨k-1,by omega⟩
  rw[zde hrs (by omega)]
  show _=zcf (at' ((zaa bs).set i x) j)
  by_cases hj:j=i
  ·subst hj
   rw[zp rfl]
   unfold at'
   rw[List.getD_eq_getElem?_getD,List.getElem?_set_self (by omega)]
   rfl
  ·rw[zn (by omega)]
   have e:at' ((zaa bs).set i x) j=at' (zaa bs) j:=by
    unfold at'
    rw[List.getD_eq_getElem?_getD,List.getElem?_set_ne (by omega),← List.getD_eq_getElem?_getD]
   rw[e,zbw _ (by omega),zi6 (ho.1 j (by omega))]
 ·rw[zn (by omega),zdf hrs (by omega)]
theorem zx4 {bs:List UInt8} (hb:bs.length=2048)(ho:okR bs){i:Nat} (hi:i<8)(x:IN):
  zau (zau bs (1+i) (zcf x)) 0 (zb7 (zao ((zaa bs).set i x)))=zad ⟨bs,(zaa bs).set i x⟩:=by
 have hr:=zbp bs
 have hrs:((zaa bs).set i x).length=8:=by rw[List.length_set,hr]
 have hl1:=zei hb (n:=1+i) (by omega) (zcn x)
 refine zi1 (zei hl1 (by omega) (zbj _)) (zcb hb hrs) fun k hk=>?_
 rw[zfe hl1 (zbj _) (by omega) hk]
 by_cases h0:k=0
 ·subst h0
  rw[zp rfl,zgo]
 rw[zn h0,zfe hb (zcn x) (by omega) hk]
 by_cases h8:k≤8
 ·obtain⟨j,rfl⟩:∃ j,k=1+j:=⟨k-1,by omega⟩
  rw[zde hrs (by omega)]
  show _=zcf (at' ((zaa bs).set i x) j)
  by_cases hj:j=i
  ·subst hj
   rw[zp rfl]
   unfold at'
   rw[List.getD_eq_getElem?_getD,List.getElem?_set_self (by omega)]
   rfl
  ·rw[zn (by omega)]
   have e:at' ((zaa bs).set i x) j=at' (zaa bs) j:=by
    unfold at'
    rw[List.getD_eq_getElem?_getD,List.getElem?_set_ne (by omega),← List.getD_eq_getElem?_getD]
   rw[e,zbw _ (by omega),zi6 (ho.1 j (by omega))]
 ·rw[zn (by omega),zdf hrs (by omega)]
variable {w:World} {mi q b c d e:Nat} {M G:List UInt8}
theorem zoy {R:List UInt8} (h:RefH w mi q b c d e (zbx M 6144 R) G)(hm:M.length=8192)(hR:R.length=2048)(n:Nat)(hn:n<32)(A:Option Addr)(xs:List UInt8)(cp:Nat)(hx:BR w w.heap.size A xs)(hA:∀ ad,A=some ad→xs≠[]→ad.block≠b)(hxl:xs.length=64):
  Calls Tryz.prog 24 #[.pointer (some ⟨q,0,none⟩),.int .i64 (n:Int),.slice A xs.length cp] w (yi2 w mi q b c d e (zbx M 6144 (zau R n xs)) G):=by
 have:=zl0 h n (by omega) A xs cp hx hA (by omega)
 rwa [yd5 hm hR hn hxl] at this
theorem RefH.own_ne {w':World} (h:RefH w mi q b c d e M G){R:Option Addr} {cp:Nat} {xs:List UInt8} (ho:Own8 w' w.heap.size 5 R cp xs):∀ ad,R=some ad→xs≠[]→ad.block≠b:=by
 intro ad e1 e2
 subst e1
 obtain⟨g,e3,l1,_⟩:=ho.at_ (k:=0) (by cases xs with | nil=>exact absurd rfl e2 | cons _ _=>simp)
 cases e3
 have:=h.lt
 show g≠b
 omega
end Fr
end Go.Proofs.YtdopfpcjpjlkmaaGreatDoor
