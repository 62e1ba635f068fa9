/- merged -/
import Derived.Test.YtdopfpcjpjlkmaaGreatDoorGFn
import Derived.Test.YtdopfpcjpjlkmaaGreatDoorGMm
import Derived.Scope
import Derived.WalkMore
set_option maxHeartbeats 2000000
set_option maxRecDepth 100000
set_option linter.unusedSimpArgs false
set_option linter.unusedVariables false
namespace Go.Proofs.YtdopfpcjpjlkmaaGreatDoor
namespace Fs
open Go.RowKit Ex Ino Mm
def zid (n:Nat):List UInt8:=zfk (List.replicate 4 0) 0 n 4
theorem zgh (n:Nat):(zid n).length=4:=by unfold zid;rw[zb1];rfl
def zb7 (u:Nat):List UInt8:=zid 1398362950++(zid u++List.replicate 56 0)
theorem zbj (u:Nat):(zb7 u).length=64:=by unfold zb7;simp[zgh]
def padB (xs:List UInt8):List UInt8:=xs++List.replicate (64-xs.length) 0
theorem zla (x:IN):(zrd x).length≤64:=by
 unfold zrd
 split
 ·rw[zay];exact Nat.le_refl _
 ·simp
def zcf (x:IN):List UInt8:=padB (zrd x)
theorem zcn (x:IN):(zcf x).length=64:=by
 unfold zcf padB
 have:=zla x
 rw[List.length_append,List.length_replicate]
 omega
def isF (x:IN):Bool:=decide (x.name≠[])
def at' (ns:List IN) (i:Nat):IN:=ns.getD i in0
def zhw (ns:List IN):List Nat:=(List.range 8).filter fun i=>isF (at' ns i)
def zha (x:IN):Nat:=zb2 (za4 x.ext)
theorem zvv (x:IN):zha x<4294967296:=(za3 _).lt
def zes (ns:List IN) (pre:List Nat):Nat:=pre.foldl (fun u i=>u ||| zha (at' ns i)) 0
theorem zyj (ns:List IN):zes ns []=0:=rfl
theorem zhe (ns:List IN)(q:List Nat)(i:Nat):zes ns (q++[i])=zes ns q ||| zha (at' ns i):=by simp[zes]
theorem zkx (ns:List IN):∀ pre,zes ns pre<4294967296:=zgc (by rw[zyj];decide) fun q i ih=>by
 rw[zhe]
 exact or_lt ih (zvv _)
def zao (ns:List IN):Nat:=zes ns (zhw ns)
theorem zdi (ns:List IN):zao ns<4294967296:=zkx _ _
def zd9 (ns:List IN) (pre:List Nat):List (List UInt8):=pre.map fun i=>(at' ns i).name
def zjk (ns:List IN) (pre:List Nat) (i:Nat):Bool:=!(zd9 ns pre).contains (at' ns i).name && decide (zes ns pre &&& zha (at' ns i)=0)
def zjj (ns:List IN) (pre:List Nat):Prop:=∀ q i,q++[i] <+: pre→zjk ns q i=true
theorem zog (ns:List IN):zjj ns []:=fun q i h=>by
 have:=h.length_le
 simp at this
theorem zil (ns:List IN)(q:List Nat)(i:Nat):zjj ns (q++[i])↔zjj ns q∧zjk ns q i=true:=by
 constructor
 ·intro h
  exact⟨fun q' i' h'=>h q' i' (h'.trans (List.prefix_append _ _)),h q i (List.prefix_refl _)⟩
 ·rintro⟨h1,h2⟩ q' i' h'
  rcases List.prefix_concat_iff.1 h' with e | h'
  ·obtain⟨rfl,e2⟩:=List.append_inj' e rfl
   simp only[List.cons.injEq,and_true] at e2
   subst e2
   exact h2
  ·exact h1 q' i' h'
structure RG where
 bs:List UInt8
 ns:List IN
def zab (M:List UInt8):List UInt8:=M.drop 6144
def zaa (bs:List UInt8):List IN:=(List.range 8).map fun n=>zdx (zaw bs (1+n))
theorem zbp (bs:List UInt8):(zaa bs).length=8:=by simp[zaa]
def decP (bs:List UInt8):Prop:=∀ n,n<8→zf7 (zaw bs (1+n))=0
def zlm (g:RG):Prop:=zjj g.ns (zhw g.ns)∧zaw g.bs 0=zb7 (zao g.ns)
def okP (M:List UInt8):Prop:=decP (zab M)∧zlm ⟨zab M,zaa (zab M)⟩
def zad (g:RG):List UInt8:=zb7 (zao g.ns)++((g.ns.flatMap zcf)++g.bs.drop 576)
def za1 (ns:List IN) (n:Int):Int:=if n<0∨8≤n then 1 else if (at' ns n.toNat).name=[] then 123 else 0
def za0 (ns:List IN) (n:Int):IN:=if za1 ns n=0 then at' ns n.toNat else in0
def zdk (ns:List IN) (name:List UInt8):Option Nat:=(zhw ns).find? fun i=>decide ((at' ns i).name=name)
def za5 (ns:List IN) (name:List UInt8):Int:=if zbg name=false then 121 else if (zdk ns name).isSome then 0 else 123
def zbi (ns:List IN) (name:List UInt8):Nat:=if zbg name=false then 0 else (zdk ns name).getD 0
def za2 (ns:List IN) (name:List UInt8):Int:=if za5 ns name=0 then 122 else if za5 ns name=123 then 0 else za5 ns name
def zg7 (ns:List IN):Option Nat:=(List.range 8).find? fun i=>decide ((at' ns i).name=[])
def zam (bs:List UInt8) (l:List EX):List UInt8:=(za4 l).flatMap (zaw bs)
def zdv (bs:List UInt8) (bl:List Nat) (all:List UInt8):Nat→List UInt8
 | 0=>bs
 | k+1=>zau (zdv bs bl all k) (bl.getD k 0) (zaw all k)
def zbo (bs:List UInt8) (l:List EX) (all:List UInt8):List UInt8:=zdv bs (za4 l) all (za4 l).length
def zj8 (xs:List UInt8) (k size:Nat):List UInt8:=(xs.take (min k size))++List.replicate (k-(xs.take (min k size)).length) 0
def zh1 (l:List EX) (u:Nat) (many:Nat):Int:=if (za4 l).length<many then (if (zcw l u ((many:Int)-(za4 l).length)).2.2=0 then 0 else 125) else (zbm l u many).2.2
def zd8 (l:List EX) (u:Nat) (many:Nat):List EX:=if (za4 l).length<many then (if (zcw l u ((many:Int)-(za4 l).length)).2.2=0 then (zcw l u ((many:Int)-(za4 l).length)).1 else []) else (zbm l u many).1
def zae (g:RG) (name:List UInt8):Int × Nat × RG:=
 if za2 g.ns name=0 then match zg7 g.ns with
  | some i=>(0,i,{ g with ns:=g.ns.set i { at' g.ns i with name:=name } })
  | none=>(124,0,g)
 else (za2 g.ns name,0,g)
def zbk (g:RG) (name:List UInt8):Int × RG:=
 if za5 g.ns name=0 then (0,{ g with ns:=g.ns.set (zbi g.ns name) in0 }) else (za5 g.ns name,g)
def zbe (g:RG) (f t:List UInt8):Int × RG:=
 if zbg f=false∨zbg t=false then (121,g)
 else if za5 g.ns f=0 then (if za2 g.ns t=0 then (0,{ g with ns:=g.ns.set (zbi g.ns f) { at' g.ns (zbi g.ns f) with name:=t } }) else (za2 g.ns t,g))
 else (za5 g.ns f,g)
def zch (g:RG) (n size:Int):Int:=
 if za1 g.ns n≠0 then za1 g.ns n else if size<0 then 1 else if 1472<size then 125 else zh1 (za0 g.ns n).ext (zao g.ns) (zbq size).toNat
def zb5 (g:RG) (n size:Int):RG:=
 let x:=za0 g.ns n
 let l:=zd8 x.ext (zao g.ns) (zbq size).toNat
 ⟨zbo g.bs l (zj8 (zam g.bs x.ext) ((zbq size).toNat*64) size.toNat),g.ns.set n.toNat ⟨x.name,size,l⟩⟩
def zag (g:RG) (n size:Int):Int × RG:=if zch g n size=0 then (0,zb5 g n size) else (zch g n size,g)
def zb6 (g:RG) (n a:Int) (k:Nat):Int × RG:=
 if za1 g.ns n≠0 then (za1 g.ns n,g) else if a<0∨(za0 g.ns n).size<a then (1,g) else if (za0 g.ns n).size<a+k then zag g n (a+k) else (0,g)
def zpz (g:RG) (n a:Int) (b:List UInt8):RG:={ g with bs:=zbo g.bs (at' g.ns n.toNat).ext (splice (zam g.bs (at' g.ns n.toNat).ext) a.toNat b) }
def zbu (g:RG) (n a:Int) (b:List UInt8):Int × RG:=if (zb6 g n a b.length).1=0 then (0,zpz (zb6 g n a b.length).2 n a b) else ((zb6 g n a b.length).1,g)
def zg9 (g:RG) (x:IN):List UInt8:=(zam g.bs x.ext).take x.size.toNat
def zf4 (g:RG):List (List UInt8 × List UInt8):=(zhw g.ns).map fun i=>((at' g.ns i).name,zg9 g (at' g.ns i))
end Fs
namespace Ex
open Go.RowKit
theorem zru:∀ (bs:List Nat),(∀ b∈bs,b<32)→Bd (zc4 [] bs) bs.length∧(zc4 [] bs).length≤bs.length:=zgc (fun _=>⟨(fun x hx=>by cases hx),Nat.le_refl _⟩) fun q b ih h=>by
 obtain⟨h1,h2⟩:=ih fun b hb=>h b (by simp[hb])
 obtain⟨h3,h4⟩:=h1.with (by omega) (h b (by simp))
 rw[zf5,List.length_append,List.length_singleton]
 exact⟨by rw[show((q.length+1:Nat):Int)=(q.length:Int)+1 from by omega];exact h3,by omega⟩
theorem ye8 (bs:List Nat){k:Nat} (h:k<bs.length):zc4 [] (bs.take (k+1))=zc3 (zc4 [] (bs.take k)) bs[k]:=by
 rw[List.take_succ_eq_append_getElem h,zf5]
theorem zkl (R:Option Addr)(l:List Nat)(c:Nat)(w:World)(h:JR w R l)(hl:l.length≤100)(hlt32:∀ b∈l,b<32):
  Calls Tryz.prog 141 #[.slice R l.length c] w (zv1 w w.heap.size (zc4 [] l)):=by
 go_enter Tryz.func141,Tryz.ntmps141
 go_wp2_with fail
 go_loopw [9,3,5,6] (fun i s _ _ wr=>∃ (k:Nat) (cur:List EX) (R2:Option Addr) (cap:Nat),k≤l.length∧i=.int .i64 (k:Int)∧cur=zc4 [] (l.take k)∧s=.slice R2 cur.length cap∧OwnX wr w.heap.size R2 cap cur∧Below w.heap.size w wr) (fun i _ _ _ _=>l.length-(RowKit.intOf i).toNat)
 case atStart=>exact⟨0,[],none,0,by omega,rfl,rfl,rfl,OwnX.nil _ _,Below.refl _ _⟩
 case round =>
  obtain⟨k,cur,R2,cap,hk,rfl,hcur,rfl,own,hb⟩:=hrel
  by_cases hlt:k<l.length
  ·obtain⟨g,o,rfl,hgl,hc⟩:=(h.below hb).at_ hlt
   have hnx:=ye8 l hlt
   rw[← hcur] at hnx
   have hm:=hlt32 _ (List.getElem_mem hlt)
   have hbd:=zru (l.take k) fun b hb=>hlt32 b (List.mem_of_mem_take hb)
   rw[← hcur,List.length_take,Nat.min_eq_left (by omega)] at hbd
   have HN:=zq h
   have HH:=zq hlt32
   have HX:=zq hnx
   have hB:=hb.size
   clear h hlt32 hnx hcur
   generalize hbk:l[k]=b at *
   clear hbk
   rcases List.eq_nil_or_concat cur with rfl | ⟨q,x,rfl⟩
   ·have OWN:=zq own
    have HB:=zq hb
    rw[ziq] at HX
    clear own hb hbd
    go_wp2_with fail
    go_quiet (fail)
    have own1:=OWN.out.drewN nq
    have bel1:Below w.heap.size w (wr.drewN nq):=below_drewN HB.out nq
    generalize wr.drewN nq=w1 at *
    have ownA:=own1.alloc (.cells #[.int .i64 (b:Int),.int .i64 1] 152)
    have belA:Below w.heap.size w (w1.alloc (.cells #[.int .i64 (b:Int),.int .i64 1] 152)):=bel1.alloc bel1.size _
    obtain⟨R',cap',w2,hap,own3,b3,_⟩:=ownA.app belA.size (by simp) [((b:Int),1)] (by simp) ⟨w1.heap.size,0,none⟩ 1 (fun j u hu=>by
     rw[add_zero,cell_of_row _ _ _ _ _ _ (heap_alloc_new w1 _)]
     simpa [zc5] using hu)
    have HAP:=zq hap
    have OWN3:=zq own3
    have BEL:=zq (belA.trans b3)
    clear own1 bel1 ownA belA hap own3 b3 OWN HB
    go_wp2_with (first | (at_builtin;refine zak rfl _ _ 111 rfl _ HAP.out ?_) | fail)
    go_roundw
    case rel=>exact⟨k+1,[((b:Int),1)],R',cap',by omega,by go_num,HX.out.symm,rfl,OWN3.out,BEL.out⟩
    case measure=>simp[RowKit.intOf];omega
   ·rw[List.concat_eq_append] at *
    have hx:=hbd.1 x (by simp)
    have hlen:(q++[x]).length=q.length+1:=by simp
    have hle:=hbd.2
    obtain⟨g2,rfl,hg2,hgl2,c0,c1,hf⟩:=own.at_ (k:=q.length) (by omega)
    have e0:(q++[x])[q.length]'(by omega)=x:=by simp
    rw[e0] at c0 c1
    have k1:decide (0<(q++[x]).length)=true:=by simp
    have k2:((q++[x]).length:Int)-1=(q.length:Int):=by omega
    have k3:q.length<(q++[x]).length:=by omega
    have kl:(q++[x]).length≤100:=by omega
    have kw:IntKind.i64.wrap (q.length:Int)=(q.length:Int):=by rw[IntKind.wrap_i64];omega
    have kn:IntKind.i64.wrap (x.2+1)=x.2+1:=by rw[IntKind.wrap_i64];omega
    have ks:IntKind.i64.wrap (x.1+x.2)=x.1+x.2:=by rw[IntKind.wrap_i64];omega
    have OWN:=zq own
    have HB:=zq hb
    clear own hb hbd hle hlen e0
    by_cases hs:x.1+x.2=(b:Int)
    ·rw[zdw,zp hs] at HX
     have ks1:IntKind.i64.wrap (x.1+x.2)=(b:Int):=by rw[ks,hs]
     have HO:Hid (∀ nq,OwnX ((wr.drewN nq).setCell ⟨g2,q.length*2+1,none⟩ (.int .i64 (x.2+1))) w.heap.size (some ⟨g2,0,none⟩) cap (q++[(x.1,x.2+1)])):=fun nq=>(OWN.out.drewN nq).long _
     have HK:Hid (∀ nq,Below w.heap.size w ((wr.drewN nq).setCell ⟨g2,q.length*2+1,none⟩ (.int .i64 (x.2+1)))):=fun nq=>(below_drewN HB.out nq).trans ⟨rfl,rfl,rfl,by simp,fun k hk=>heap_setCell_other _ _ _ _ (by show k≠g2;omega)⟩
     have HLN:Hid ((q++[(x.1,x.2+1)]).length=(q++[x]).length):=by show _=_;simp
     clear OWN HB ks
     generalize (q++[x]).length=n at *
     generalize q++[(x.1,x.2+1)]=nx at *
     generalize q.length=m at *
     obtain⟨s,t⟩:=x
     simp only at c0 c1 ks1 kn
     clear hx hs
     go_wp2_with fail
     go_quiet (fail)
     go_wp2_with fail
     go_roundw
     case rel=>exact⟨k+1,nx,_,cap,by omega,by go_num,HX.out.symm,by rw[HLN.out],HO.out _,HK.out _⟩
     case measure=>simp[RowKit.intOf];omega
    ·rw[zdw,zn hs] at HX
     have hs1:(x.1+x.2==(b:Int))=false:=by simpa using hs
     generalize q++[x]=l2 at *
     generalize hn:l2.length=n at *
     have HN2:=zq hn
     clear hn
     generalize q.length=m at *
     obtain⟨z,hz⟩:∃ z,z=x.1+x.2:=⟨_,rfl⟩
     have ks1:IntKind.i64.wrap (x.1+x.2)=z:=by rw[ks,hz]
     rw[← hz] at hs1
     obtain⟨s,t⟩:=x
     simp only at c0 c1 ks1 kn
     clear hz hx ks hs
     go_wp2_with fail
     go_quiet (fail)
     have own1:=OWN.out.drewN nq
     have bel1:Below w.heap.size w (wr.drewN nq):=below_drewN HB.out nq
     generalize wr.drewN nq=w1 at *
     have ownA:=own1.alloc (.cells #[.int .i64 (b:Int),.int .i64 1] 152)
     have belA:Below w.heap.size w (w1.alloc (.cells #[.int .i64 (b:Int),.int .i64 1] 152)):=bel1.alloc bel1.size _
     obtain⟨R',cap',w2,hap,own3,b3,_⟩:=ownA.app belA.size (by rw[HN2.out];omega) [((b:Int),1)] (by simp) ⟨w1.heap.size,0,none⟩ 1 (fun j u hu=>by
      rw[add_zero,cell_of_row _ _ _ _ _ _ (heap_alloc_new w1 _)]
      simpa [zc5] using hu)
     rw[HN2.out] at hap
     have HAP:=zq hap
     have OWN3:=zq own3
     have BEL:=zq (belA.trans b3)
     clear own1 bel1 ownA belA hap own3 b3 OWN HB
     generalize l2++[((b:Int),1)]=nx at *
     go_wp2_with (first | (at_builtin;refine zak rfl _ _ 111 rfl _ HAP.out ?_) | fail)
     go_roundw
     case rel=>exact⟨k+1,nx,R',cap',by omega,by go_num,HX.out.symm,rfl,OWN3.out,BEL.out⟩
     case measure=>simp[RowKit.intOf];omega
  ·obtain rfl:k=l.length:=by omega
   rw[List.take_length] at hcur
   subst hcur
   have OWN:=zq own
   clear h hlt32 own
   go_wp2_with fail
   go_ret
   exact⟨R2,cap,rfl,OWN.out,hb⟩
end Ex
namespace Ex
open Go.RowKit
theorem yiq {l:List EX} {M:Int} (h:Bd l M)(hM:0≤M):∀ (bs:List Nat),(∀ b∈bs,b<32)→Bd (zc4 l bs) (M+bs.length)∧(zc4 l bs).length≤l.length+bs.length:=zgc (fun _=>⟨by simpa [zc4] using h,Nat.le_refl _⟩) fun q b ih hb=>by
 obtain⟨h1,h2⟩:=ih fun b h=>hb b (by simp[h])
 obtain⟨h3,h4⟩:=h1.with (by omega) (hb b (by simp))
 rw[zf5,List.length_append,List.length_singleton]
 exact⟨by rw[show M+((q.length+1:Nat):Int)=M+(q.length:Int)+1 from by omega];exact h3,by omega⟩
theorem Bd.mono {l:List EX} {M M':Int} (h:Bd l M)(hM:M≤M'):Bd l M':=fun x hx=>by
 have:=h x hx
 omega
theorem bd_ok {l:List EX} (h:ok l=true):Bd l 23:=fun x hx=>by
 have:=znp h x hx
 unfold ins at this
 omega
theorem ya1 {l:List EX} (h:ok l=true)(u k:Nat):Bd (zc4 l ((zbh u).take k)) 50∧(zc4 l ((zbh u).take k)).length≤l.length+23:=by
 have hl:=((zca u).take k).len
 obtain⟨h1,h2⟩:=yiq (bd_ok h) (by omega) ((zbh u).take k) fun b hb=>(((zca u).take k).2 b hb).2
 exact⟨h1.mono (by omega),by omega⟩
theorem yaz (l:List EX)(u:Nat){k:Nat} (h:k<(zbh u).length):zc4 l ((zbh u).take (k+1))=zc3 (zc4 l ((zbh u).take k)) (zbh u)[k]:=by
 rw[List.take_succ_eq_append_getElem h,zf5]
theorem yb9:∀ {l:List EX},(∀ x∈l,ins x)→l.length≤(zaq l).length
 | [],_=>Nat.le_refl _
 | x::r,h=>by
  have ih:=yb9 (l:=r) fun y hy=>h y (List.mem_cons_of_mem _ hy)
  have hx:=h x List.mem_cons_self
  unfold ins at hx
  rw[zmy,List.length_append,List.length_cons,zpn]
  omega
theorem ok_len {l:List EX} (h:ok l=true):l.length≤23:=Nat.le_trans (yb9 (znp h)) (zcr l h).len
def Out3 (w:World) (m:List EX × Nat × Int) (e:Ending) (w':World):Prop:=∃ R cap,e=.returned (.tuple #[.slice R m.1.length cap,.int .u32 (m.2.1:Int),.int .i64 m.2.2])∧XR w' w'.heap.size R m.1∧Below w.heap.size w w'
theorem Out3.no {w w':World} {m:List EX × Nat × Int} {z:Int} (h:m=([],0,z))(hb:Below w.heap.size w w'):Out3 w m (.returned (.tuple #[.slice none 0 0,.int .u32 0,.int .i64 z])) w':=by
 subst h
 exact⟨none,0,rfl,XR.nil,hb⟩
theorem yet (A:Option Addr)(l:List EX)(c u:Nat)(n:Int)(w:World)(h:XR w w.heap.size A l)(hl:l.length≤100)(hu:u<4294967296)(hn:n≤9223372036854775807)(hT:Tab w):
  Calls Tryz.prog 163 #[.slice A l.length c,.int .u32 (u:Int),.int .i64 n] w (Out3 w (zcw l u n)):=by
 have hck:=zf8 A l c w h hl
 have HCK:=zq hck
 clear hck
 by_cases hok:ok l=true
 ·rw[zj1 hok] at HCK
  by_cases hneg:n<0
  ·have hv:zcw l u n=([],0,1):=by unfold zcw;rw[zp (.inr hneg)]
   have HV:=zq hv
   clear hv hok h
   go_enter Tryz.func163,Tryz.ntmps163
   go_wp2_with fail
   refine HCK.out.mono ?_
   rintro e w1 ⟨rfl,b1⟩
   go_wp2_with fail
   go_ret3
   exact Out3.no HV.out b1
  ·have hand:=zra u hu
   have hones:=fun w=>zui (zb2 (zbh u)) (zca u).lt w
   rw[zn9 (zca u)] at hones
   by_cases hfull:((zbh u).length:Int)<n
   ·have hv:zcw l u n=([],0,50):=by unfold zcw;rw[zn (by rw[hok];rintro(h | h);cases h;omega),zp hfull]
    have HV:=zq hv
    clear hv hok h hT
    generalize zb2 (zbh u)=fs at *
    generalize (zbh u).length=N at *
    have HON:=zq hones
    clear hones hl hn
    go_enter Tryz.func163,Tryz.ntmps163
    go_wp2_with fail
    refine HCK.out.mono ?_
    rintro e w1 ⟨rfl,b1⟩
    go_wp2_with fail
    refine(HON.out w1).mono ?_
    rintro e w2 ⟨rfl,b2⟩
    have B2:=zq (b1.trans (b2.mono b1.size))
    clear b1 b2
    go_wp2_with fail
    go_ret3
    exact Out3.no HV.out B2.out
   ·have hv:zcw l u n=(zc4 l ((zbh u).take n.toNat),u ||| zb2 ((zbh u).take n.toNat),0):=by unfold zcw;rw[zn (by rw[hok];rintro(h | h);cases h;omega),zn hfull]
    obtain⟨K,rfl⟩:∃ K:Nat,n=(K:Int):=⟨n.toNat,by omega⟩
    rw[Int.toNat_natCast] at hv
    rw[hv]
    have hKF:K≤(zbh u).length:=by omega
    have hFl:=(zca u).len
    have hfull1:decide ((zbh u).length<K)=false:=by simp;omega
    have HOK:=zq hok
    have HT:=zq hT
    have HX:=zq h
    have HFS:=zq (show zb2 (zbh u)=zb2 (zbh u) from rfl)
    clear hv hok h hT hneg
    generalize hfs:zb2 (zbh u)=fs at *
    clear hfs HFS
    generalize hNN:(zbh u).length=NN at *
    have HNN:=zq hNN
    clear hNN
    go_enter Tryz.func163,Tryz.ntmps163
    go_wp2_with fail
    refine HCK.out.mono ?_
    rintro e w1 ⟨rfl,b1⟩
    clear HCK
    have B1:=zq b1
    clear b1
    go_wp2_with fail
    refine(hones w1).mono ?_
    rintro e w2 ⟨rfl,b2⟩
    have B2:=zq (B1.out.trans (b2.mono B1.out.size))
    clear b2 B1
    go_wp2_with fail
    refine(ybx A l c w2 ((HX.out.below B2.out).more B2.out.size) hl).mono ?_
    rintro e w3 ⟨R3,c3,rfl,own3,b3⟩
    have B3:=zq (B2.out.trans (b3.mono B2.out.size))
    have OWN3:=zq own3
    have hs2:=B2.out.size
    have hs3:=b3.size
    clear b3 own3 B2 hand hones
    go_wp2_with fail
    go_loopw [27,10,1,11] (fun i s v _ wr=>∃ (k:Nat) (cur:List EX) (used:Nat) (R:Option Addr) (cap:Nat),k≤K∧i=.int .i64 (k:Int)∧cur=zc4 l ((zbh u).take k)∧used=u ||| zb2 ((zbh u).take k)∧s=.slice R cur.length cap∧v=.int .u32 (used:Int)∧OwnX wr w2.heap.size R cap cur∧Below w.heap.size w wr∧w2.heap.size≤wr.heap.size) (fun i _ _ _ _=>K-(RowKit.intOf i).toNat)
    case atStart=>exact⟨0,l,u,R3,c3,by omega,rfl,rfl,by simp[zb2],rfl,rfl,OWN3.out,B3.out,hs3⟩
    case round =>
     clear OWN3 B3
     obtain⟨k,cur,used,R,cap,hk,rfl,hcur,hused,rfl,rfl,own,hb,hsw⟩:=hrel
     by_cases hlt:k<K
     ·have hkF:k<(zbh u).length:=by rw[HNN.out];omega
      obtain⟨hne,hlow⟩:=lowest u k hkF
      have hnx:=yaz l u hkF
      have hor:=yhf u k hkF
      obtain⟨hbd,hbl⟩:=ya1 HOK.out u k
      have hm:=(zca u).2 _ (List.getElem_mem hkF)
      rw[← hcur] at hnx hbd hbl
      rw[← hused] at hne hlow hor
      have hul:used<4294967296:=by rw[hused];exact or_lt hu ((zca u).take k).lt
      have hand:=zra used hul
      have hp:=zuc hm.2
      have horI:=orI used (2 ^ (zbh u)[k]) hul hp
      rw[hor] at horI
      have htz:=tz_any (zb2 (zbh used)) (zca used).lt hne wr (HT.out.below hb HT.out.pos)
      rw[hlow] at htz
      have e1:((2:Int) ^ (zbh u)[k]) % 4294967296=((2 ^ (zbh u)[k]:Nat):Int):=by
       have:(2:Int) ^ (zbh u)[k]=((2 ^ (zbh u)[k]:Nat):Int):=by simp
       rw[this]
       clear hor horI this
       generalize (2:Nat) ^ (zbh u)[k]=T at *
       omega
      have hwith:=zeh own hsw (by omega) (hbd.mono (by omega)) (zbh u)[k]
      rw[← hnx] at hwith
      have HB:=zq hb
      have HW:=zq hwith
      have HTZ:=zq htz
      clear hne hlow hnx hor hbd hbl hcur hused own hb hwith htz hp hul
      generalize hE:u ||| zb2 ((zbh u).take (k+1))=E at *
      have HE:=zq hE
      clear hE
      generalize hX:zc4 l ((zbh u).take (k+1))=X at *
      have HXX:=zq hX
      clear hX
      generalize zb2 (zbh used)=fs2 at *
      generalize (zbh u)[k]=b at *
      generalize ((2 ^ b:Nat):Int)=T at *
      go_wp2_with fail
      refine HTZ.out.mono ?_
      rintro e w4 ⟨rfl,rfl⟩
      go_wp2_with fail
      refine HW.out.mono ?_
      rintro e w5 ⟨R',cap',rfl,own5,b5,_⟩
      have OWN5:=zq own5
      have HB5:=zq (HB.out.trans (b5.mono hs2))
      have hs5:=b5.size
      clear own5 b5
      go_wp2_with fail
      go_roundw
      case rel=>exact⟨k+1,X,E,R',cap',by omega,by go_num,HXX.out.symm,HE.out.symm,rfl,rfl,OWN5.out,HB5.out,by omega⟩
      case measure=>simp[RowKit.intOf];omega
     ·obtain rfl:k=K:=by omega
      have HC:=zq hcur
      have HU:=zq hused
      obtain⟨hbd,_⟩:=ya1 HOK.out u k
      rw[← hcur] at hbd
      have HR:=zq (own.xr (hbd.ok (by omega)))
      have HB:=zq hb
      clear own hb hbd hcur hused
      go_wp2_with fail
      go_ret3
      exact⟨R,cap,by rw[← HC.out,← HU.out];rfl,by rw[← HC.out];exact HR.out,HB.out⟩
 ·have hno:ok l=false:=by simpa using hok
  rw[zkn hno] at HCK
  have hv:zcw l u n=([],0,1):=by unfold zcw;rw[zp (.inl hno)]
  have HV:=zq hv
  clear hv hok h
  go_enter Tryz.func163,Tryz.ntmps163
  go_wp2_with fail
  refine HCK.out.mono ?_
  rintro e w1 ⟨rfl,b1⟩
  go_wp2_with fail
  go_ret3
  exact Out3.no HV.out b1
end Ex
namespace Fs
open Go.RowKit Ex Ino Mm
structure ND where
 x:IN
 A:Option Addr
 c:Nat
def ncl (d:ND):List Value:=[St d.x.name,.int .i64 d.x.size,.slice d.A d.x.ext.length d.c]
theorem zd3 (d:ND):(ncl d).length=3:=rfl
def ncs (l:List ND):List Value:=l.flatMap ncl
theorem zso (l:List ND):(ncs l).length=l.length*3:=by
 induction l with
 | nil=>rfl
 | cons x r ih=>unfold ncs at *;rw[List.flatMap_cons,List.length_append,ih,List.length_cons,zd3];omega
def gcl (bs:List UInt8) (l:List ND):List Value:=bs.map B8++ncs l
def zas (l:List ND):List IN:=l.map (·.x)
theorem zut:∀ (l:List ND) (k:Nat) (d:ND),l[k]?=some d→∀ j v,(ncl d)[j]?=some v→(ncs l)[k*3+j]?=some v
 | [],k,d,h,_,_,_=>by simp at h
 | x::r,0,d,h,j,v,hv=>by
  simp at h;subst h
  have hj:=(List.getElem?_eq_some_iff.1 hv).1
  unfold ncs
  rw[List.flatMap_cons,List.getElem?_append_left (by omega),Nat.zero_mul,Nat.zero_add]
  exact hv
 | x::r,k+1,d,h,j,v,hv=>by
  have:=zut r k d (by simpa using h) j v hv
  unfold ncs at *
  rw[List.flatMap_cons,List.getElem?_append_right (by rw[zd3];omega),zd3,show(k+1)*3+j-3=k*3+j by omega]
  exact this
theorem zz0:∀ (l:List ND) (k:Nat) (d:ND),k<l.length→splice (ncs l) (k*3) (ncl d)=ncs (l.set k d)
 | [],k,d,h=>by simp at h
 | x::r,0,d,h=>by
  unfold splice ncs
  rw[List.set_cons_zero,List.flatMap_cons,List.flatMap_cons,Nat.zero_mul,List.take_zero,List.nil_append,Nat.zero_add,zd3,List.drop_append,zd3,List.drop_of_length_le (by rw[zd3];omega),List.nil_append]
  rfl
 | x::r,k+1,d,h=>by
  have ih:=zz0 r k d (by simpa using h)
  unfold splice ncs at *
  rw[List.set_cons_succ,List.flatMap_cons,List.flatMap_cons,← ih,show(k+1)*3=(ncl x).length+k*3 by rw[zd3];omega,List.take_append,List.drop_append,List.take_of_length_le (by omega),List.drop_of_length_le (by omega),List.nil_append,List.append_assoc,
   show(ncl x).length+k*3-(ncl x).length=k*3 by omega,show(ncl x).length+k*3+(ncl d).length-(ncl x).length=k*3+(ncl d).length by omega]
structure NdOk (w:World) (r:Nat) (d:ND):Prop where
 ok:InOk w d.x d.A
 no:d.x.ext≠[]→∀ ad,d.A=some ad→ad.block≠r
structure RegAt (w:World) (r:Nat) (bs:List UInt8) (l:List ND):Prop where
 bl:bs.length=2048
 nl:l.length=8
 hd:w.heap[r]?=some (.cells (gcl bs l).toArray 149 (0,0))
 nd:∀ d∈l,NdOk w r d
theorem XR.keeps {w w':World} {A:Option Addr} {l:List EX} {F:Nat→Prop} (h:XR w w.heap.size A l)(k:Keeps F w w')(hn:l≠[]→∀ ad,A=some ad→¬F ad.block):XR w' w'.heap.size A l:=by
 refine⟨fun hl=>?_,h.ok⟩
 obtain⟨ad,e,hlt,hc⟩:=h.ar hl
 exact⟨ad,e,Nat.lt_of_lt_of_le hlt k.size,fun i a ha j v hv=>(World.cell?_of_block (w:=w) (w':=w') (a:=(ad.add (i*2)).add j) (by rw[zan,zan];exact k.block _ hlt (hn hl ad e))).trans (hc i a ha j v hv)⟩
theorem NdOk.keeps {w w':World} {r:Nat} {d:ND} {F:Nat→Prop} (h:NdOk w r d)(k:Keeps F w w')(hn:d.x.ext≠[]→∀ ad,d.A=some ad→¬F ad.block):NdOk w' r d:=⟨⟨XR.keeps h.ok.xr k hn,h.ok.few,h.ok.name,h.ok.size⟩,h.no⟩
variable {w:World} {r:Nat} {bs:List UInt8} {l:List ND}
theorem RegAt.lt (h:RegAt w r bs l):r<w.heap.size:=(Array.getElem?_eq_some_iff.1 h.hd).1
theorem RegAt.keeps {w':World} {F:Nat→Prop} (h:RegAt w r bs l)(k:Keeps F w w')(hr:¬F r)(hn:∀ d∈l,d.x.ext≠[]→∀ ad,d.A=some ad→¬F ad.block):RegAt w' r bs l:=
 ⟨h.bl,h.nl,(k.block r h.lt hr).trans h.hd,fun d hd=>(h.nd d hd).keeps k (hn d hd)⟩
theorem RegAt.new {w':World} (h:RegAt w r bs l)(k:Keeps (fun _=>False) w w'):RegAt w' r bs l:=h.keeps k (fun f=>f) fun _ _ _ _ _ f=>f
theorem RegAt.below {w':World} (h:RegAt w r bs l)(k:Below w.heap.size w w'):RegAt w' r bs l:=h.new (Keeps.below k _ fun i h1 h2=>by omega)
theorem RegAt.nds {w':World} (h:RegAt w r bs l)(k:Keeps (·=r) w w'):∀ d∈l,NdOk w' r d:=fun d hd=>(h.nd d hd).keeps k fun hn ad e f=>(h.nd d hd).no hn ad e f
theorem RegAt.len (h:RegAt w r bs l):(gcl bs l).length=2072:=by unfold gcl;rw[List.length_append,List.length_map,zso,h.bl,h.nl]
theorem RegAt.blockR (h:RegAt w r bs l){n:Nat} (hn:n<32):w.rangeAt r (n*64) ((zaw bs n).map B8):=by
 intro j v hv
 rw[cell_of_row w r _ _ _ _ h.hd]
 simp only[List.getElem?_map,Option.map_eq_some_iff] at hv
 obtain⟨u,hu,rfl⟩:=hv
 have hj:=(List.getElem?_eq_some_iff.1 hu).1
 unfold zaw at hu hj
 rw[List.length_take] at hj
 rw[List.getElem?_take_of_lt (by omega),List.getElem?_drop] at hu
 unfold gcl
 simp only[List.getElem?_toArray]
 rw[List.getElem?_append_left (by rw[List.length_map,h.bl];omega),List.getElem?_map,hu]
 rfl
theorem RegAt.there (h:RegAt w r bs l)(o n:Nat)(hl:o+n≤2072):w.there r o n:=zp7 h.hd o n (by rw[h.len];exact hl)
theorem zr4 (a b c:List Value)(o:Nat)(h:o+c.length≤a.length):splice (a++b) o c=splice a o c++b:=by
 unfold splice
 rw[List.take_append_of_le_length (by omega),List.drop_append_of_le_length (by omega)]
 simp
theorem zp9 (a b c:List Value)(o:Nat):splice (a++b) (a.length+o) c=a++splice b o c:=by
 unfold splice
 rw[List.take_append,List.drop_append,List.take_of_length_le (by omega),List.drop_of_length_le (by omega),List.nil_append,List.append_assoc,show a.length+o-a.length=o by omega,show a.length+o+c.length-a.length=o+c.length by omega]
theorem znq (a c:List UInt8)(o:Nat):splice (a.map B8) o (c.map B8)=(splice a o c).map B8:=by
 unfold splice
 simp[List.map_take,List.map_drop]
theorem RegAt.putBlock (h:RegAt w r bs l){n:Nat} (hn:n<32)(xs:List UInt8)(hx:xs.length=64):RegAt (w.setCells r (n*64) (xs.map B8)) r (zau bs n xs) l∧Keeps (·=r) w (w.setCells r (n*64) (xs.map B8)):=by
 obtain⟨h1,h2⟩:=zgx (n*64) h.hd (ys:=xs.map B8) (by rw[h.len,List.length_map];omega)
 refine⟨⟨?_,h.nl,?_,h.nds h2⟩,h2⟩
 ·unfold zau splice
  simp only[List.length_append,List.length_take,List.length_drop,hx,h.bl]
  omega
 ·rw[h1]
  unfold gcl zau
  rw[zr4 _ _ _ _ (by rw[List.length_map,List.length_map,h.bl];omega),znq]
theorem RegAt.nodesR (h:RegAt w r bs l):w.rangeAt r 2048 (ncs l):=by
 intro j v hv
 rw[cell_of_row w r _ _ _ _ h.hd]
 unfold gcl
 simp only[List.getElem?_toArray]
 rw[List.getElem?_append_right (by rw[List.length_map,h.bl];omega),List.length_map,h.bl,show 2048+j-2048=j by omega]
 exact hv
theorem RegAt.nodeR (h:RegAt w r bs l){i:Nat} {d:ND} (hi:l[i]?=some d):w.rangeAt r (2048+i*3) (ncl d):=by
 intro j v hv
 rw[Nat.add_assoc]
 exact h.nodesR _ _ (zut l i d hi j v hv)
theorem RegAt.nodeC (h:RegAt w r bs l){i:Nat} {d:ND} (hi:l[i]?=some d):w.cell? ⟨r,2048+i*3,none⟩=some (St d.x.name)∧w.cell? ⟨r,2048+i*3+1,none⟩=some (.int .i64 d.x.size)∧w.cell? ⟨r,2048+i*3+2,none⟩=some (.slice d.A d.x.ext.length d.c):=
 ⟨h.nodeR hi 0 _ rfl,h.nodeR hi 1 _ rfl,h.nodeR hi 2 _ rfl⟩
theorem RegAt.putNode (h:RegAt w r bs l){i:Nat} (hi:i<8)(d:ND)(hd:NdOk w r d):RegAt (w.setCells r (2048+i*3) (ncl d)) r bs (l.set i d)∧Keeps (·=r) w (w.setCells r (2048+i*3) (ncl d)):=by
 obtain⟨h1,h2⟩:=zgx (2048+i*3) h.hd (ys:=ncl d) (by rw[h.len,zd3];omega)
 refine⟨⟨h.bl,by rw[List.length_set,h.nl],?_,fun e he=>?_⟩,h2⟩
 ·rw[h1]
  unfold gcl
  have e:(bs.map B8).length=2048:=by rw[List.length_map,h.bl]
  have:=zp9 (bs.map B8) (ncs l) (ncl d) (i*3)
  rw[e] at this
  rw[this,zz0 _ _ _ (by rw[h.nl];exact hi)]
 ·rcases List.mem_or_eq_of_mem_set he with he | rfl
  ·exact h.nds h2 e he
  ·exact hd.keeps h2 fun hn ad e f=>hd.no hn ad e f
theorem zi5 (l:List ND)(i:Nat)(d:ND):zas (l.set i d)=(zas l).set i d.x:=by unfold zas;rw[List.map_set]
theorem zzs {l:List ND} {i:Nat} {d:ND} (h:l[i]?=some d):at' (zas l) i=d.x:=by
 unfold at' zas
 rw[List.getD_eq_getElem?_getD,List.getElem?_map,h]
 rfl
theorem RegAt.get (h:RegAt w r bs l){i:Nat} (hi:i<8):∃ d,l[i]?=some d∧at' (zas l) i=d.x∧NdOk w r d:=by
 have e:l[i]?=some (l[i]'(by rw[h.nl];exact hi)):=List.getElem?_eq_getElem _
 exact⟨_,e,zzs e,h.nd _ (List.getElem_mem _)⟩
theorem zyo:(Tryz.prog.info? 145).map (·.size)=some 64:=by kernel_rfl
theorem zls:(Tryz.prog.info? 113).map (·.size)=some 3:=by kernel_rfl
theorem sizeNs:(Tryz.prog.info? 147).map (·.size)=some 24:=by kernel_rfl
theorem sizeBs:(Tryz.prog.info? 146).map (·.size)=some 2048:=by kernel_rfl
theorem yf7 {b o:Nat} {xs:List UInt8} (hl:xs.length=64)(h:w.rangeAt b o (xs.map B8)):(Instr.loadAt 145 (.pointer (some ⟨b,o,none⟩))).run Tryz.prog w=.ok (ag8 xs) w:=
 run_loadAt_mid w b o 145 (xs.map B8) _ h Tryz.underlying145 rfl (by rw[zyo,List.length_map,hl])
theorem zlq {b o:Nat} {xs:List UInt8} (hl:xs.length=64)(h:w.there b o 64):(Instr.storeAt 145 (.pointer (some ⟨b,o,none⟩)) (ag8 xs)).run Tryz.prog w=.ok () (w.setCells b o (xs.map B8)):=by
 have:=run_storeAt_mid (P:=Tryz.prog) w b o 145 (xs.map B8).toArray (by simpa [hl] using h) (by rw[zyo];simp[hl]) (yf4 xs)
 simpa [ag8] using this
theorem yaa {b o:Nat} {d:ND} (h:w.rangeAt b o (ncl d)):(Instr.loadAt 113 (.pointer (some ⟨b,o,none⟩))).run Tryz.prog w=.ok (Ino.ag d.x d.A d.c) w:=
 run_loadAt_mid w b o 113 (ncl d) _ h Tryz.underlying113 rfl (by rw[zls,zd3])
theorem yhj (d:ND):((ncl d).toArray).all (·.oneCell')=true:=all_oneCell_toArray (fun v hv=>by
 simp only[ncl,List.mem_cons,List.not_mem_nil,or_false] at hv
 rcases hv with rfl | rfl | rfl<;>rfl)
theorem zr3 {b o:Nat} {d:ND} (h:w.there b o 3):(Instr.storeAt 113 (.pointer (some ⟨b,o,none⟩)) (Ino.ag d.x d.A d.c)).run Tryz.prog w=.ok () (w.setCells b o (ncl d)):=by
 have:=run_storeAt_mid (P:=Tryz.prog) w b o 113 (ncl d).toArray (by simpa [zd3] using h) (by rw[zls];rfl) (yhj d)
 simpa [ncl] using this
def agN (l:List ND):Value:=.agg (ncs l).toArray
theorem zz9 {b o:Nat} {l:List ND} (hl:l.length=8)(h:w.rangeAt b o (ncs l)):(Instr.loadAt 147 (.pointer (some ⟨b,o,none⟩))).run Tryz.prog w=.ok (agN l) w:=
 run_loadAt_mid w b o 147 (ncs l) _ h Tryz.underlying147 rfl (by rw[sizeNs,zso,hl])
theorem yf6 {b o:Nat} {xs:List UInt8} (hl:xs.length=2048)(h:w.rangeAt b o (xs.map B8)):(Instr.loadAt 146 (.pointer (some ⟨b,o,none⟩))).run Tryz.prog w=.ok (ag8 xs) w:=
 run_loadAt_mid w b o 146 (xs.map B8) _ h Tryz.underlying146 rfl (by rw[sizeBs,List.length_map,hl])
theorem yht (w:World){l:List ND} (hl:l.length=8){i:Nat} {d:ND} (hi:l[i]?=some d):(Instr.index 147 (agN l) (.int .i64 (i:Int))).run Tryz.prog w=.ok (Ino.ag d.x d.A d.c) w:=by
 have hk:i<8:=by have:=(List.getElem?_eq_some_iff.1 hi).1;omega
 have hs:(sizeOf 113).run Tryz.prog w=.ok 3 w:=by
  have:=zls
  unfold sizeOf typeInfo
  cases hq:Tryz.prog.info? 113 with
  | none=>rw[hq] at this;cases this
  | some i =>
   rw[hq] at this
   simp only[Option.map_some,Option.some.injEq] at this
   simp[hq,this]
 have hagg:(isAgg 113).run Tryz.prog w=.ok true w:=by
  unfold isAgg
  rw[Sem.run_bind,run_underlying Tryz.underlying113 w]
  rfl
 have he:List.take 3 (List.drop (i*3) (ncs l))=ncl d:=by
  apply List.ext_getElem?
  intro j
  by_cases hj:j<3
  ·rw[List.getElem?_take_of_lt hj,List.getElem?_drop]
   have h3:j<(ncl d).length:=hj
   rw[List.getElem?_eq_getElem h3]
   exact zut l i d hi j _ (List.getElem?_eq_getElem h3)
  ·rw[List.getElem?_take,zn hj,List.getElem?_eq_none (by rw[zd3];omega)]
 have hp:(part 113 (ncs l).toArray (i*3)).run Tryz.prog w=.ok (Ino.ag d.x d.A d.c) w:=by
  simp[part,hagg,hs,he]
  rfl
 unfold Instr.index
 simp only[asIntOf,Sem.run_bind,Sem.run_pure,Result.andThen_ok,run_underlying Tryz.underlying147,agN]
 rw[zp ⟨by omega,by omega⟩]
 simp only[Sem.run_bind,hs,Result.andThen_ok]
 rw[Int.toNat_natCast]
 exact hp
end Fs
namespace Ex
open Go.RowKit Go.Shelf
attribute [local go_sem] Oper.semAt_some
section
variable {P:Program} {F:Fence} {n:Nat} {Q:Exit→Act→World→Prop} {a:Act} {w:World}
theorem zea {b:Frame} {k:List Item} {cs:List Frame} {c:Code}:step P (lone (b.atR a (.code (.scope c)::k)) cs w)=.next (lone (b.atR a (.code c::.inScope c::k)) cs w):=
 step_lone_go (by simp[stepG,stepG.exec,Frame.atR])
theorem zop {b:Frame} {k:List Item} {cs:List Frame} {c:Code}:step P (lone (b.atR a (.inScope c::k)) cs w)=.next (lone (b.atR a k) cs w):=
 step_lone_go (by simp[stepG,stepG.exec,Frame.atR])
theorem zv9 {c:Code} (h:c.wpIn F n P (Exit.noGoto Q) a w):(Code.scope c).wpIn F n P Q a w:=by
 intro b k cs hro hb hr
 have h0:(lone (b.atR a (.code (.scope c)::k)) cs w).fenced P F:=fenced_calm hb hr rfl
 obtain⟨e,a₁,w₁,hq,harr⟩:=h b (.inScope c::k) cs hro hb hr
 cases e with
 | normal=>exact⟨.normal,a₁,w₁,hq,.head h0 zea (StepsIn.trans harr (.one (fenced_calm hb hr rfl) zop))⟩
 | exit id' =>
  have hx:exitTo id' (.inScope c::k)=exitTo id' k:=by simp[exitTo]
  exact⟨.exit id',a₁,w₁,hq,fun k' hk=>.head h0 zea (harr.1 k' (by rw[hx];exact hk)),
   fun hr' hk=>let ⟨k₁,h1,h2⟩:=harr.2 hr' (by rw[hx];exact hk);⟨k₁,h1,.head h0 zea h2⟩⟩
 | goto l=>exact hq.elim
 | ret=>exact⟨_,a₁,w₁,hq,.of_steps (.one h0 zea) harr⟩
 | panic ch=>exact⟨_,a₁,w₁,hq,.of_steps (.one h0 zea) harr⟩
 | outgrown=>exact⟨_,a₁,w₁,hq,.of_steps (.one h0 zea) harr⟩
end
structure Writes (n0:Nat) (Wr:World→Nat→Prop):Prop where
 put:∀ W l o' k,n0≤l→(Wr (W.putObj l o') k↔Wr W k)
 new:∀ W o k,n0≤W.heap.size→Wr (W.alloc o) k→Wr W k
def San (Wr:World→Nat→Prop) (W:World):Prop:=∀ k,Wr W k→k<W.heap.size
def KpW (Wr:World→Nat→Prop) (W W':World):Prop:=San Wr W→San Wr W'∧W.heap.size≤W'.heap.size∧∀ k o,W.heap[k]?=some o→o.isCells=true→¬Wr W k→W'.heap[k]?=some o∧¬Wr W' k
theorem KpW.trans {Wr:World→Nat→Prop} {A B C:World} (h:KpW Wr A B)(k:KpW Wr B C):KpW Wr A C:=fun s=>by
 obtain⟨s1,z1,h1⟩:=h s
 obtain⟨s2,z2,h2⟩:=k s1
 refine⟨s2,by omega,fun i o ho hc hn=>?_⟩
 obtain⟨g1,g2⟩:=h1 i o ho hc hn
 exact h2 i o g1 hc g2
theorem KpW.put {Wr:World→Nat→Prop} {n0:Nat} (hw:Writes n0 Wr)(W:World)(l:Nat)(o o':Obj)(hl:n0≤l)(h:W.heap[l]?=some o)(hc:o.isCells=false):KpW Wr W (W.putObj l o'):=fun s=>by
 have hs:(W.putObj l o').heap.size=W.heap.size:=by simp[World.putObj]
 refine⟨fun k hk=>?_,by omega,fun k o2 ho hc2 hn=>?_⟩
 ·rw[hs]
  exact s k ((hw.put W l o' k hl).1 hk)
 ·have hne:k≠l:=fun e=>by subst e;rw[h] at ho;cases ho;rw[hc] at hc2;cases hc2
  exact⟨(World.putObj_heap_other hne).trans ho,fun hk=>hn ((hw.put W l o' k hl).1 hk)⟩
structure ItOk (Wr:World→Nat→Prop) (n0:Nat) (W:World) (A:Option Addr) (l:List EX):Prop where
 san:San Wr W
 le:n0≤W.heap.size
 xr:XR W W.heap.size A l
 no:l≠[]→∀ ad,A=some ad→¬Wr W ad.block
section
variable {Wr:World→Nat→Prop} {n0:Nat} {W W':World} {A:Option Addr} {l:List EX}
theorem ItOk.alloc (hw:Writes n0 Wr)(h:ItOk Wr n0 W A l)(o:Obj):ItOk Wr n0 (W.alloc o) A l∧¬Wr (W.alloc o) W.heap.size:=by
 refine⟨⟨fun k hk=>?_,by have:=h.le;simp;omega,?_,fun hn ad e hk=>h.no hn ad e (hw.new W o _ h.le hk)⟩,fun hk=>?_⟩
 ·have:=h.san k (hw.new W o k h.le hk)
  simp
  omega
 ·exact(h.xr.below ((Below.refl _ _).alloc (Nat.le_refl _) _)).more (by simp)
 ·have:=h.san _ (hw.new W o _ h.le hk)
  omega
theorem ItOk.kept (h:ItOk Wr n0 W A l)(k:KpW Wr W W'):ItOk Wr n0 W' A l:=by
 obtain⟨s,z,hk⟩:=k h.san
 have hb:∀ ad,A=some ad→l≠[]→∃ o,W.heap[ad.block]?=some o∧W'.heap[ad.block]?=some o∧¬Wr W' ad.block:=fun ad e hn=>by
  obtain⟨ad',e',hlt,hc⟩:=h.xr.ar hn
  rw[e] at e'
  cases e'
  have h0:=hc 0 (l[0]'(List.length_pos_iff.2 hn)) (List.getElem?_eq_getElem _) 0 _ rfl
  obtain⟨o,ho,hoc⟩:=cells_of_cell h0
  rw[zan,zan] at ho
  obtain⟨g1,g2⟩:=hk _ o ho hoc (h.no hn ad e)
  exact⟨o,ho,g1,g2⟩
 refine⟨s,by have:=h.le;omega,⟨fun hn=>?_,h.xr.ok⟩,fun hn ad e=>?_⟩
 ·obtain⟨ad,e,hlt,hc⟩:=h.xr.ar hn
  obtain⟨o,h1,h2,_⟩:=hb ad e hn
  refine⟨ad,e,by omega,fun k a ha j v hv=>?_⟩
  exact(World.cell?_of_block (w:=W) (w':=W') (a:=(ad.add (k*2)).add j) (by rw[zan,zan,h1,h2])).trans (hc k a ha j v hv)
 ·obtain⟨o,_,_,h3⟩:=hb ad e hn
  exact h3
end
abbrev encB (x:Nat × Nat):Array Value:=#[.int .i64 (x.2:Int),.int .i64 (x.1:Int)]
theorem zot (o:List Nat)(b:Nat):(o++[b]).zipIdx=o.zipIdx++[(b,o.length)]:=by simp[List.zipIdx_append]
theorem zwe {o m:List Nat} (h:o <+: m):o.zipIdx <+: m.zipIdx:=by
 obtain⟨t,rfl⟩:=h
 rw[List.zipIdx_append]
 exact List.prefix_append _ _
theorem zx8 {l:List EX} {k j:Nat} (hk:k<l.length):(zaq (l.take k)++(exB l[k]).take j) <+: zaq l:=by
 have h1:(zaq (l.take k)++(exB l[k]).take j) <+: zaq (l.take (k+1)):=by
  rw[zlc hk]
  exact(List.prefix_append_right_inj _).2 (List.take_prefix _ _)
 refine h1.trans ?_
 have:l=l.take (k+1)++l.drop (k+1):=(List.take_append_drop _ _).symm
 conv=>rhs;rw[this]
 rw[zdg]
 exact List.prefix_append _ _
theorem zoe (F:Fence)(n:Nat)(h:F.fn 177)(hro:F.round=none)(hn:1≤n){Wr:World→Nat→Prop} {n0:Nat} (hw:Writes n0 Wr)(y B:Nat)(A:Option Addr)(l:List EX)(c:Nat)(hok:ok l=true)(hl:l.length≤100)(J Jx:List (Nat × Nat)→World→Prop)
  (W:World) (hJ:∀ s W1 o,J s W1→J s (W1.alloc o))
  (hY:∀ pre x W,J pre W→pre.length<(zaq l).length→(pre++[x]:List (Nat × Nat)) <+: (zaq l).zipIdx→YieldAt F (n-1) Tryz.prog y (encB x) W fun e W' =>
   (e=.returned (.bool true)∧J (pre++[x]) W'∧KpW Wr W W')∨(e=.returned (.bool false)∧Jx (pre++[x]) W'))
  (hbox:W.cell? ⟨B,0,none⟩=some (.slice A l.length c)) (hi:ItOk Wr n0 W A l) (h0:J [] W):
  CallsIn F n Tryz.prog 177 #[.func (.yield y) #[] #[],.pointer (some ⟨B,0,none⟩)] W fun e W'=>(∃ v,e=.returned v) ∧
   ((∃ ys,ys=(zaq l).zipIdx∧J ys W')∨(∃ pre,pre <+: (zaq l).zipIdx∧Jx pre W')):=by
 have HG:=zq (zcr l hok)
 have HOK:=zq hok
 have HW:=zq hw
 have HJ:=zq hJ
 have HY:=zq hY
 have HI:=zq hi
 clear hw hJ hY hi hok
 refine callsIn_of_wp Tryz.func177 rfl h ?_ hro
 simp only[Tryz.ntmps177,List.size_toArray,List.length_cons,List.length_nil,Nat.reduceAdd,Nat.reduceSub,Array.replicate_succ,Array.replicate_zero,List.push_toArray,List.append_toArray,List.nil_append,List.cons_append]
 gi_wp2
 apply zv9
 gi_wp2
 apply wpIn_label
 gi_wp2
 gi_loopw [9,3,5,6] (fun i s _ _ wr=>∃ k:Nat,k≤l.length∧i=.int .i64 (k:Int)∧s=.int .i64 ((zaq (l.take k)).length:Int)∧J (zaq (l.take k)).zipIdx wr∧ItOk Wr n0 wr A l) (fun i _ _ _ _=>l.length-(RowKit.intOf i).toNat)
 case atStart=>exact⟨0,Nat.zero_le _,rfl,rfl,h0,HI.out⟩
 case round =>
  obtain⟨k,hk,rfl,rfl,hJs,hit⟩:=hrel
  by_cases hlt:k<l.length
  ·obtain⟨ad,rfl,hlb,d0,d1,hx⟩:=hit.xr.at_ hlt
   have hin:=znp HOK.out _ (List.getElem_mem hlt)
   have HPF:Hid (∀ j,(zaq (l.take k)++(exB l[k]).take j) <+: zaq l):=fun j=>zx8 hlt
   have HBS:=zq (zlc hlt)
   obtain⟨hit1,hnw⟩:=hit.alloc HW.out (.cells #[.int .i64 l[k].1,.int .i64 l[k].2] 152)
   have hj1:=HJ.out _ _ (.cells #[.int .i64 l[k].1,.int .i64 l[k].2] 152) hJs
   have hat:=heap_alloc_new wr (.cells #[.int .i64 l[k].1,.int .i64 l[k].2] 152)
   have HIT1:=zq hit1
   have HNW:=zq hnw
   have HJ1:=zq hj1
   have HAT:=zq hat
   clear hit hJs hit1 hnw hj1 hat
   generalize zaq (l.take k)=out at *
   generalize l[k]=x at *
   obtain⟨s,m⟩:=x
   have h1':=hin
   unfold ins at h1'
   simp only at h1' d0 d1
   obtain⟨S,rfl⟩:∃ S:Nat,s=(S:Int):=⟨s.toNat,by omega⟩
   obtain⟨N,rfl⟩:∃ N:Nat,m=(N:Int):=⟨m.toNat,by omega⟩
   have hN:(exB ((S:Int),(N:Int))).length=N:=by rw[zpn];rfl
   have HN:=zq hN
   clear hin hx hN
   gi_wp2
   generalize wr.heap.size=g at *
   gi_loopw [15,3,6] (fun i s _ V=>∃ (j:Nat) (o:List Nat),j≤N∧i=.int .i64 (j:Int)∧o=out++(exB ((S:Int),(N:Int))).take j∧s=.int .i64 (o.length:Int)∧J o.zipIdx V∧ItOk Wr n0 V (some ad) l∧V.heap[g]?=some (.cells #[.int .i64 (S:Int),.int .i64 (N:Int)] 152 (0,0))∧¬Wr V g) (fun i _ _ _=>N-(RowKit.intOf i).toNat)
   case atStart=>exact⟨0,out,by omega,rfl,by simp,rfl,HJ1.out,HIT1.out,HAT.out,HNW.out⟩
   case round =>
    clear HJ1 HIT1 HAT HNW d0 d1
    obtain⟨j,o,hj,rfl,ho,rfl,hj2,hit2,hat2,hnw2⟩:=hrel
    by_cases hjn:j<N
    ·have c2:wr.cell? ⟨g,0,none⟩=some (.int .i64 (S:Int)):=by rw[cell_of_row _ _ _ _ _ _ hat2];rfl
     have hts:=zlo (x:=((S:Int),(N:Int))) (j:=j) (by rw[HN.out];exact hjn)
     have ho3:o++[S+j]=out++(exB ((S:Int),(N:Int))).take (j+1):=by
      rw[hts,ho,List.append_assoc]
      rfl
     have hpf:=HPF.out (j+1)
     rw[← ho3] at hpf
     have hlen:=hpf.length_le
     rw[List.length_append,List.length_singleton] at hlen
     have hsp:=zwe hpf
     rw[zot] at hsp
     have ej:IntKind.i64.wrap ((S:Int)+(j:Int))=((S+j:Nat):Int):=by rw[IntKind.wrap_i64];omega
     have hgl:=HG.out.len
     obtain⟨fn,tmps,assign,body,hy,hR⟩:=HY.out o.zipIdx (S+j,o.length) wr hj2 (by rw[List.length_zipIdx];omega) hsp
     have hk2:=fun V (hkk:KpW Wr wr V)=>hit2.kept hkk
     have hk3:=fun V (hkk:KpW Wr wr V)=>(hkk hit2.san).2.2 g _ hat2 rfl hnw2
     have HK2:=zq hk2
     have HK3:=zq hk3
     have HSP:=zq hsp
     have HSN:=zq (zot o (S+j))
     have HO3:=zq ho3
     have HL3:Hid ((o++[S+j]).length=o.length+1):=by show _=_;simp
     rw[← zot] at hR
     clear hj2 hit2 hat2 hnw2 hts ho3 hpf hsp hk2 hk3 ho HPF
     generalize o++[S+j]=o3 at *
     generalize S+j=b at *
     change (Instr.yield y #[.int .i64 (o.length:Int),.int .i64 (b:Int)]).run _ wr=_ at hy
     gi_wp2
     refine hR.mono ?_
     rintro e W3 (⟨rfl,hJ3,hkp⟩|⟨rfl,hJx3⟩)
     ·obtain⟨k5,k6⟩:=HK3.out W3 hkp
      have k7:=zq (HK2.out W3 hkp)
      gi_wp2
      go_roundw
      case rel=>exact⟨j+1,o3,by omega,by go_num,HO3.out,by rw[HL3.out];go_num,hJ3,k7.out,k5,k6⟩
      case measure=>simp[RowKit.intOf];omega
     ·gi_wp2
      simp only[Exit.noGoto]
      go_end0
      exact⟨⟨_,rfl⟩,.inr ⟨_,by rw[HSN.out];exact HSP.out,hJx3⟩⟩
    ·obtain rfl:j=N:=by omega
     rw[List.take_of_length_le (by rw[HN.out];omega),← HBS.out] at ho
     have HO:=zq ho
     have HIT:=zq hit2
     clear ho hit2 hat2 hnw2
     gi_wp2
     go_roundw
     case rel=>exact⟨k+1,by omega,by go_num,by rw[HO.out],by rw[← HO.out];exact hj2,HIT.out⟩
     case measure=>simp[RowKit.intOf];omega
  ·obtain rfl:k=l.length:=by omega
   rw[List.take_length] at hJs
   gi_wp2
   simp only[Exit.noGoto]
   go_end0
   exact⟨⟨_,rfl⟩,.inl ⟨_,rfl,hJs⟩⟩
end Ex
namespace Fs
open Go.RowKit Go.Shelf Ex Ino Mm
attribute [local go_sem] Oper.semAt_some
section
variable {w w':World} {o:Oper} {ρ:Operand→Value}
theorem yib (x y:Operand)(ho:o.op=.binOp .neq 9 x y 9)(xs ys:List UInt8)(hx:ρ x=St xs)(hy:ρ y=St ys):(execOp ρ o).run Tryz.prog w=.ok (.value (.bool (!decide (xs=ys)))) w:=by
 unfold execOp
 simp only[ho,hx,hy]
 go_simp
 by_cases h:xs=ys<;>simp[h]
theorem zmq (x y:Operand)(ho:o.op=.binOp .eql 9 x y 9)(xs ys:List UInt8)(hx:ρ x=St xs)(hy:ρ y=St ys):(execOp ρ o).run Tryz.prog w=.ok (.value (.bool (decide (xs=ys)))) w:=by
 unfold execOp
 simp only[ho,hx,hy]
 go_simp
 by_cases h:xs=ys<;>simp[h]
theorem ybj (x y:Operand)(ho:o.op=.binOp .neq 9 x y 9)(xs:List UInt8)(b:Bool)(hb:decide (xs≠[])=b)(hx:ρ x=St xs)(hy:ρ y=.string ⟨#[]⟩):(execOp ρ o).run Tryz.prog w=.ok (.value (.bool b)) w:=by
 subst hb
 have:=yib (w:=w) (ρ:=ρ) x y ho xs [] hx hy
 rw[this]
 by_cases h:xs=[]<;>simp[h]
theorem zpk (x y:Operand)(ho:o.op=.binOp .eql 9 x y 9)(xs:List UInt8)(b:Bool)(hb:decide (xs=[])=b)(hx:ρ x=St xs)(hy:ρ y=.string ⟨#[]⟩):(execOp ρ o).run Tryz.prog w=.ok (.value (.bool b)) w:=by
 subst hb
 exact zmq (w:=w) (ρ:=ρ) x y ho xs [] hx hy
end
def zdn (l:List ND) (i:Nat):ND:=l.getD i ⟨in0,none,0⟩
theorem zzz {l:List ND} {i:Nat} {d:ND} (h:l[i]?=some d):zdn l i=d:=by unfold zdn;rw[List.getD_eq_getElem?_getD,h];rfl
abbrev zvl (l:List ND) (i:Nat):Array Value:=#[.int .i64 (i:Int),Ino.ag (zdn l i).x (zdn l i).A (zdn l i).c]
def zxa (ns:List IN) (k:Nat):List Nat:=(List.range k).filter fun i=>isF (at' ns i)
theorem zu5 {ns:List IN} {k:Nat} (h:isF (at' ns k)=true):zxa ns (k+1)=zxa ns k++[k]:=by
 unfold zxa
 rw[List.range_succ,List.filter_append]
 simp[h]
theorem yao {ns:List IN} {k:Nat} (h:isF (at' ns k)=false):zxa ns (k+1)=zxa ns k:=by
 unfold zxa
 rw[List.range_succ,List.filter_append]
 simp[h]
theorem yei (ns:List IN)(k:Nat):(zxa ns k).length≤k:=by
 have:=List.length_filter_le (fun i=>isF (at' ns i)) (List.range k)
 simpa [zxa] using this
theorem zsw (ns:List IN)(k j:Nat):zxa ns k <+: zxa ns (k+j):=by
 induction j with
 | zero=>exact List.prefix_refl _
 | succ j ih =>
  refine ih.trans ?_
  rw[show k+(j+1)=(k+j)+1 from rfl]
  cases h:isF (at' ns (k+j)) with
  | true=>rw[zu5 h];exact List.prefix_append _ _
  | false=>rw[yao h];exact List.prefix_refl _
theorem ybf (F:Fence)(n:Nat)(h:F.fn 156)(hro:F.round=none)(hn:1≤n)(y B r:Nat)(bs:List UInt8)(l:List ND)(J Jx:List Nat→World→Prop)
  (W:World) (hJ:∀ s W1 W2,J s W1→Below W1.heap.size W1 W2→J s W2)
  (hY:∀ pre x W,J pre W→pre.length<8→(pre++[x]:List Nat) <+: zhw (zas l)→YieldAt F (n-1) Tryz.prog y (zvl l x) W fun e W' =>
   (e=.returned (.bool true)∧J (pre++[x]) W'∧True)∨(e=.returned (.bool false)∧Jx (pre++[x]) W'))
  (hB:W.cell? ⟨B,0,none⟩=some (.pointer (some ⟨r,0,none⟩))) (hr:RegAt W r bs l) (h0:J [] W):
  CallsIn F n Tryz.prog 156 #[.func (.yield y) #[] #[],.pointer (some ⟨B,0,none⟩)] W fun e W'=>(∃ v,e=.returned v) ∧
   ((∃ ys,ys=zhw (zas l)∧J ys W')∨(∃ pre,pre <+: zhw (zas l)∧Jx pre W')):=by
 have L1:=zq (zz9 hr.nl hr.nodesR)
 have HN:=zq hr.nl
 have HJ:=zq hJ
 have HY:=zq hY
 clear hJ hY hr
 refine callsIn_of_wp Tryz.func156 rfl h ?_ hro
 simp only[Tryz.ntmps156,List.size_toArray,List.length_cons,List.length_nil,Nat.reduceAdd,Nat.reduceSub,Array.replicate_succ,Array.replicate_zero,List.push_toArray,List.append_toArray,List.nil_append,List.cons_append]
 gi_wp2_with ((with_reducible refine zke (op:=.load 147 (.tmp 7)) ?_);refine zcy rfl (by intro c h;cases h) rfl _ (zdd 147 (.tmp 7) rfl _ _ rfl L1.out) ?_)
 clear L1
 gi_loopw [9] (fun i wr=>∃ k:Nat,k≤8∧i=.int .i64 k∧J (zxa (zas l) k) wr) (fun i _=>8-(RowKit.intOf i).toNat)
 case atStart=>exact⟨0,Nat.zero_le _,rfl,h0⟩
 case round =>
  obtain⟨k,hk,rfl,hJs⟩:=hrel
  by_cases hlt:k<8
  ·obtain⟨d,hd,e,hok⟩:∃ d,l[k]?=some d∧at' (zas l) k=d.x∧zdn l k=d:=by
    have hd:l[k]?=some (l[k]'(by rw[HN.out];exact hlt)):=List.getElem?_eq_getElem _
    exact⟨_,hd,zzs hd,zzz hd⟩
   have IX:=fun w=>zq (yht w HN.out hd)
   cases hz:isF (at' (zas l) k) with
   | true =>
    have hNB:=hz
    rw[e] at hNB
    unfold isF at hNB
    have HNB:=zq hNB
    have HE:=zq (zu5 hz)
    have hlen:=yei (zas l) k
    have hp:=zq (zsw (zas l) (k+1) (8-(k+1)))
    have hj2:=HJ.out _ _ _ hJs ((Below.refl wr.heap.size wr).alloc (Nat.le_refl _) (.cells #[St d.x.name,.int .i64 d.x.size,.slice d.A d.x.ext.length d.c] 113))
    have hpf:zxa (zas l) k++[k] <+: zhw (zas l):=by
     have:=hp.out
     rw[HE.out,show k+1+(8-(k+1))=8 from by omega] at this
     exact this
    obtain⟨fn,tmps,assign,body,hy,hR⟩:=HY.out (zxa (zas l) k) k _ hj2 (by omega) hpf
    rw[← HE.out] at hR
    have HK:=zq hok
    unfold zvl at hy
    rw[HK.out] at hy
    clear hz hNB e hok hd hj2 hpf hlen hJs
    change (Instr.yield y #[.int .i64 (k:Int),.agg #[St d.x.name,.int .i64 d.x.size,.slice d.A d.x.ext.length d.c]]).run _ _=_ at hy
    gi_wp2_with (first
     | ((with_reducible refine zke (op:=.index 147 (.tmp 8) (.tmp 9)) ?_);refine zcy rfl (by intro c h;cases h) rfl _ (zhq 147 (.tmp 8) (.tmp 9) rfl _ _ _ rfl rfl (IX _).out) ?_)
     | ((with_reducible refine zke (op:=.binOp .neq 9 (.tmp 14) (.const (.string ⟨#[]⟩)) 9) ?_);refine zcy rfl (by intro c h;cases h) rfl _ (ybj (.tmp 14) (.const (.string ⟨#[]⟩)) rfl _ true HNB.out rfl rfl) ?_))
    refine hR.mono ?_
    rintro e W3 (⟨rfl,hJ3,hk3⟩|⟨rfl,hJx3⟩)
    ·gi_wp2
     go_roundw
     case rel=>exact⟨k+1,by omega,by go_num,hJ3⟩
     case measure=>simp[RowKit.intOf];omega
    ·gi_wp2
     refine bodyPost_ret (results_none rfl _ _ _) rfl ?_
     exact⟨⟨_,rfl⟩,.inr ⟨_,by have:=hp.out;rwa [show k+1+(8-(k+1))=8 from by omega] at this,hJx3⟩⟩
   | false =>
    have HE:=zq (yao hz)
    have hNB:=hz
    rw[e] at hNB
    unfold isF at hNB
    have HNB:=zq hNB
    clear hz hNB e hok hd
    gi_wp2_with (first
     | ((with_reducible refine zke (op:=.index 147 (.tmp 8) (.tmp 9)) ?_);refine zcy rfl (by intro c h;cases h) rfl _ (zhq 147 (.tmp 8) (.tmp 9) rfl _ _ _ rfl rfl (IX _).out) ?_)
     | ((with_reducible refine zke (op:=.binOp .neq 9 (.tmp 14) (.const (.string ⟨#[]⟩)) 9) ?_);refine zcy rfl (by intro c h;cases h) rfl _ (ybj (.tmp 14) (.const (.string ⟨#[]⟩)) rfl _ false HNB.out rfl rfl) ?_)
     | ((with_reducible refine zke (d:=some 20) ?_);refine wpListIn_skip (by rfl) (by rfl) ?_))
    go_roundw
    case rel=>exact⟨k+1,by omega,by go_num,by rw[HE.out];exact HJ.out _ _ _ hJs ((Below.refl _ _).alloc (Nat.le_refl _) _)⟩
    case measure=>simp[RowKit.intOf];omega
  ·obtain rfl:k=8:=by omega
   gi_wp2
   go_end0
   exact⟨⟨_,rfl⟩,.inl ⟨_,rfl,hJs⟩⟩
end Fs
section
open Go.RowKit
section
variable {F:Fence} {n:Nat} {P:Program} {α:Type} {g:Operand} {ps:Array Tmp} {assign body:Code} {Q:Exit→Act→World→Prop} {a:Act} {w w0:World} {gf:Nat} {lb:Array Value} {encs:α→Array Value} {S Sp:List α→Prop} {N:Nat}
theorem zfo (hro:F.round=none)(h1:1≤n)(hg:a.eval g=.func (.func gf) #[] lb)(hFg:F.fn gf)(eg:∀ args w,(callFunc gf args).run P w=.ok (.enter gf args) w)
  (hseq:SeqStopsK F (n-1) P gf lb encs (fun _ _=>True) S Sp N w0) (hb0:Below w0.heap.size w0 w) (hps:∀ x,(encs x).size=ps.size)
  (I:List α→World→Prop) (Ix:Code→List α→World→Prop) (M:List α→α→Act→World→Prop)
  (hI:OwnFrom w.heap.size I) (hIx:∀ c,OwnFrom w.heap.size (Ix c)) (hM:∀ pre x,OwnFrom w.heap.size (M pre x)) (h0:I [] w)
  (hassign:∀ (l:Nat) (pre:List α) (x:α) (W:World),I pre W→pre.length<N →
   assign.wpIn (F.inRound l) (n-1-1) P (Exit.then (fun a₁ W₁=>KeepsOthers W W₁∧M pre x a₁ W₁) (fun _ _ _=>False)) { tmps:=(ps.zip (encs x)).foldl (fun t (p,v)=>t.setIfInBounds p v) a.tmps,defers:=[] } W)
  (hbody:∀ (l:Nat) (pre:List α) (x:α) (a₁:Act) (W:World),M pre x a₁ W→body.wpIn (F.inRound l) (n-1-1) P (ownPostK (fun _ _=>True) I Ix (pre++[x]) W) a₁ W)
  (hdone:∀ (D:Nat) (xs:List α) (W:World),w.heap.size≤D→S xs→I xs W→W.heap[D]?=some (.deferred (some []))→Q .normal { a with defers:={ target:=.collected D,args:=#[] }::a.defers } W)
  (hstop:∀ (D:Nat) (c:Code) (pre:List α) (W:World),w.heap.size≤D→Sp pre→Ix c pre W→W.heap[D]?=some (.deferred (some []))→c.wpIn F n P Q { a with defers:={ target:=.collected D,args:=#[] }::a.defers } W):
  (Code.rangeFunc g ps assign body).wpIn F n P Q a w:=by
 refine wpIn_rangeFunc ?_
 intro fn hfn
 rw[hro]
 -- the loop's own two blocks
 obtain⟨rec,hrec⟩:∃ rec:LoopState→Option Code→Loop,rec=fun st pe=>{ state:=st,pending:=pe,fn,tmps:=a.tmps,params:=ps,assign,body,defers:=w.heap.size }:=⟨_,rfl⟩
 obtain⟨W1,hW1⟩:∃ W1,(w.alloc (.deferred (some []))).alloc (.loop (rec .ready none))=W1:=⟨_,rfl⟩
 have bl:Below w.heap.size w W1:=by rw[← hW1];exact((Below.refl _ w).alloc (Nat.le_refl _) _).alloc (by simp) _
 have sz:W1.heap.size=w.heap.size+2:=by rw[← hW1];simp
 have hl1:W1.heap[w.heap.size+1]?=some (.loop (rec .ready none)):=by
  rw[← hW1]
  have:=World.alloc_heap_new (w.alloc (.deferred (some []))) (.loop (rec .ready none))
  rwa [World.size_alloc] at this
 have hd1:W1.heap[w.heap.size]?=some (.deferred (some [])):=by
  rw[← hW1]
  exact(Below.heap_alloc _ _ _ (by simp)).trans (World.alloc_heap_new w _)
 have hi1:I [] W1:=by rw[← hW1];exact hI.alloc _ (hI.alloc _ h0)
 -- what is kept of both beside an own statement
 have keepRow:∀ {A B:World} {row:Option Nat},A.grownBy B row→(∀ r,row=some r→W1.heap.size≤r∧∃ o:Obj,A.heap[r]?=some o∧o.isWalk=true)→∀ {k:Nat} {o:Obj},k<W1.heap.size→A.heap[k]?=some o→B.heap[k]?=some o:=fun hg hr k o hk ho =>
  (hg.block k (Array.getElem?_eq_some_iff.1 ho).1 (fun e=>by have:=(hr k e.symm).1;omega)).trans ho
 have toOwn:∀ {A:World} {row:Option Nat},(∀ r,row=some r→W1.heap.size≤r∧∃ o:Obj,A.heap[r]?=some o∧o.isWalk=true)→∀ r,row=some r→w.heap.size≤r∧∃ o:Obj,A.heap[r]?=some o∧o.isCells=false:=fun hr r e=>by
  obtain⟨h2,o,ho,hw⟩:=hr r e
  exact⟨by omega,o,ho,Obj.not_cells_of_walk hw⟩
 refine⟨w.heap.size+1,[{ target:=.collected w.heap.size,args:=#[] }],W1,{ target:=.fn (.func gf) lb,args:=#[.func (.yield (w.heap.size+1)) #[] #[]] },W1,gf,#[.func (.yield (w.heap.size+1)) #[] #[]]++lb,W1,?_,?_,?_,?_,fun _=>h1,?_⟩
 ·rw[← hW1,hrec];exact run_enterLoop_outer _ _ _ _ _
 ·simp only[resolve,hg]
  simp[go_sem]
 ·intro f' hf';simp[Target.leads] at hf';subst hf';exact hFg
 ·simp[invoke,go_sem,eg]
 ·refine(hseq (w.heap.size+1)
   (fun pre W=>I pre W∧W.heap[w.heap.size+1]?=some (.loop (rec .ready none))∧W.heap[w.heap.size]?=some (.deferred (some [])))
   (fun pre W=>∃ c,Ix c pre W∧W.heap[w.heap.size+1]?=some (.loop (rec .done (some c)))∧W.heap[w.heap.size]?=some (.deferred (some [])))
   W1 (hb0.trans (bl.mono hb0.size))
   (fun s A B row hs hg hr=>⟨hI s A B row hs.1 hg (toOwn hr),keepRow hg hr (by omega) hs.2.1,keepRow hg hr (by omega) hs.2.2⟩)
   (fun s A B row ⟨c,h2,h3,h4⟩ hg hr=>⟨c,hIx c s A B row h2 hg (toOwn hr),keepRow hg hr (by omega) h3,keepRow hg hr (by omega) h4⟩)
   ?round ⟨hi1,hl1,hd1⟩).mono ?behind
  case round =>
   rintro pre x W ⟨hi,hl,hd⟩ hlen
   have hy:=run_yield (P:=P) (args:=encs x) hl (by rw[hrec];exact hps x)
   rw[hrec] at hy
   refine⟨fn,_,assign,body,hy,roundIn_of_wpIn hfn (wpIn_mono (hassign _ pre x W hi hlen) ?_)⟩
   clear hy
   intro e a₁ Wa hq
   cases e with
   | normal =>
    obtain⟨ka,hm⟩:=hq
    have hla:=ka.same _ _ hl rfl
    have hda:=ka.same _ _ hd rfl
    refine⟨_,run_beginRound hla (by rw[hrec]),wpIn_mono (hbody _ pre x a₁ _ ((hM pre x).putObj _ hm (by omega) hla rfl)) ?_⟩
    have hlb:(Wa.putObj (w.heap.size+1) (.loop { rec .ready none with state:=.busy })).heap[w.heap.size+1]?=some (.loop { rec .ready none with state:=.busy }):=World.putObj_heap_same (Array.getElem?_eq_some_iff.1 hla).1
    have hdb:(Wa.putObj (w.heap.size+1) (.loop { rec .ready none with state:=.busy })).heap[w.heap.size]?=some (.deferred (some [])):=(World.putObj_heap_other (by omega)).trans hda
    -- the round's end, with a jump or none
    have fin:∀ (jump:Option Code) (Wb:World),KeepsOthers (Wa.putObj (w.heap.size+1) (.loop { rec .ready none with state:=.busy })) Wb →
      ∃ Wc,(Instr.endRound (w.heap.size+1) jump).run P Wb=.ok (.bool jump.isNone) Wc∧Wc=Wb.putObj (w.heap.size+1) (.loop (rec (if jump.isNone then .ready else .done) jump))∧(∃ o,Wb.heap[w.heap.size+1]?=some o∧o.isCells=false) ∧
       Wc.heap[w.heap.size+1]?=some (.loop (rec (if jump.isNone then .ready else .done) jump))∧Wc.heap[w.heap.size]?=some (.deferred (some [])):=fun jump Wb kb=>by
     have h2:=kb.same _ _ hlb rfl
     have h3:=kb.same _ _ hdb rfl
     have hr:=run_endRound (P:=P) jump h2
     rw[hrec] at hr ⊢
     exact⟨_,hr,rfl,⟨_,h2,rfl⟩,World.putObj_heap_same (Array.getElem?_eq_some_iff.1 h2).1,(World.putObj_heap_other (by omega)).trans h3⟩
    intro e a₂ Wb hq2
    cases e with
    | normal =>
     obtain⟨kb,_,hi2⟩:=hq2
     obtain⟨Wc,hr,rfl,⟨o,ho,hoc⟩,h4,h5⟩:=fin none Wb kb
     exact⟨_,_,hr,.inl ⟨rfl,⟨hI.putObj _ hi2 (by omega) ho hoc,h4,h5⟩,trivial⟩⟩
    | ret =>
     obtain⟨kb,hi2⟩:=hq2
     obtain⟨Wc,hr,rfl,⟨o,ho,hoc⟩,h4,h5⟩:=fin (some .ret) Wb kb
     exact⟨_,_,hr,.inr ⟨rfl,.ret,(hIx _).putObj _ hi2 (by omega) ho hoc,h4,h5⟩⟩
    | exit id =>
     obtain⟨kb,hi2⟩:=hq2
     obtain⟨Wc,hr,rfl,⟨o,ho,hoc⟩,h4,h5⟩:=fin (some (.exit id)) Wb kb
     exact⟨_,_,hr,.inr ⟨rfl,.exit id,(hIx _).putObj _ hi2 (by omega) ho hoc,h4,h5⟩⟩
    | goto t =>
     obtain⟨kb,hi2⟩:=hq2
     obtain⟨Wc,hr,rfl,⟨o,ho,hoc⟩,h4,h5⟩:=fin (some (.goto t)) Wb kb
     exact⟨_,_,hr,.inr ⟨rfl,.goto t,(hIx _).putObj _ hi2 (by omega) ho hoc,h4,h5⟩⟩
    | panic ch=>exact hq2.elim
    | outgrown=>exact hq2.elim
   | ret=>exact hq.elim
   | exit id=>exact hq.elim
   | goto t=>exact hq.elim
   | panic ch=>exact hq.elim
   | outgrown=>exact hq.elim
  case behind =>
   rintro e W2 ⟨⟨v,rfl⟩,(⟨xs,hS,hi,hl,hd⟩|⟨pre,hSp,c,hi,hl,hd⟩)⟩
   ·have hr:=run_endLoop (P:=P) hl (by rw[hrec];simp)
    rw[hrec] at hr
    exact⟨none,_,hr,hdone _ xs _ (Nat.le_refl _) hS (hI.putObj _ hi (by omega) hl rfl) ((World.putObj_heap_other (by omega)).trans hd)⟩
   ·have hr:=run_endLoop (P:=P) hl (by rw[hrec];simp)
    rw[hrec] at hr
    exact⟨some c,_,hr,hstop _ c pre _ (Nat.le_refl _) hSp ((hIx c).putObj _ hi (by omega) hl rfl) ((World.putObj_heap_other (by omega)).trans hd)⟩
end
end
namespace Ex
open Go.RowKit
theorem yiu (g o j:Nat):(⟨g,o,none⟩:Addr).add j=⟨g,o+j,none⟩:=by
 unfold Addr.add
 split<;>simp_all
theorem ydq {w:World} {B:Nat} {R:Option Addr} {cap:Nat} {l:List Nat} (h:OwnI w B R cap l)(hB:B≤w.heap.size)(hl:l.length≤1000)(m:List Nat)(hm:m.length≤1000){R2:Option Addr} {c2:Nat} (hr:JR w R2 m)(h0:m=[]→R2=none∧c2=0):
  ∃ R' cap' w',(Builtin.append_ #[40,40] 40 #[.slice R l.length cap,.slice R2 m.length c2]).run Tryz.prog w=.ok (.slice R' (l++m).length cap') w'∧OwnI w' B R' cap' (l++m)∧Below B w w'∧∀ k,k<w.heap.size→Value.ownBlock (.slice R l.length cap)≠some k→w'.heap[k]?=w.heap[k]?:=by
 obtain⟨i0,hi,hz0,hz1,hz2⟩:=info_parts Tryz.infoInt
 by_cases hn:m=[]
 ·subst hn
  obtain⟨rfl,rfl⟩:=h0 rfl
  have:=run_append_owned_none (P:=Tryz.prog) (w:=w) B 40 40 3 i0 1 Tryz.underlying40 hi _ _ _ h
  exact⟨R,cap,w,by simpa using this,by simpa using h,Below.refl _ _,fun _ _ _=>rfl⟩
 ·have hp:0<m.length:=List.length_pos_iff.2 hn
  obtain⟨g,o,rfl,hg,_⟩:=hr.at_ hp
  obtain⟨v',w',hrun,hown,hgr,_,_⟩:=run_append_own_at (P:=Tryz.prog) w B 40 40 3 i0 (.int .i64 0) 1 8 Tryz.underlying40 hi hz0 hz1 hz2 rfl (by decide) _ l.length _ h ⟨g,o,none⟩ m.length c2 (m.map fun (k:Nat)=>Value.int .i64 (k:Int)) (by simp) (fun j u hu=>by
   simp only[List.getElem?_map,Option.map_eq_some_iff] at hu
   obtain⟨x,hx,rfl⟩:=hu
   obtain⟨g',o',e,_,hc⟩:=hr j x hx
   cases e
   rw[yiu]
   exact hc) (by
   intro u hu
   simp only[List.mem_map] at hu
   obtain⟨_,_,rfl⟩:=hu
   rfl) (by unfold maxLen;omega) (by omega) hB
  obtain⟨g',cap',rfl,_,_⟩:=World.ownsRow.form hown (by omega)
  refine⟨_,cap',w',by rw[List.length_append];exact hrun,?_,⟨hgr.os,hgr.tape,hgr.output,hgr.size,fun k hk=>hgr.block k (by omega) (fun e=>by have:=(World.ownsRow.lt h k e.symm).1;omega)⟩,fun k hk hne=>hgr.block k hk (fun e=>hne e.symm)⟩
  unfold OwnI
  rw[List.length_append,List.map_append]
  exact hown
theorem OwnI.lt_ {w:World} {B:Nat} {R:Option Addr} {cap:Nat} {l:List Nat} (h:OwnI w B R cap l){k:Nat} (e:Value.ownBlock (.slice R l.length cap)=some k):B≤k∧k<w.heap.size:=World.ownsRow.lt h k e
theorem zwx {w w':World} {B B2:Nat} {R R2:Option Addr} {cap cap2:Nat} {l m:List Nat} (_h:OwnI w B R cap l)(h2:OwnI w B2 R2 cap2 m)(hlt:∀ k,Value.ownBlock (.slice R l.length cap)=some k→k<B2)
  (hk:∀ k,k<w.heap.size→Value.ownBlock (.slice R l.length cap)≠some k→w'.heap[k]?=w.heap[k]?) (hs:w.heap.size≤w'.heap.size):JR w' R2 m:=fun k x hx=>by
 obtain⟨g,e,hg,hc⟩:=h2.ir k x hx
 subst e
 have hb:=(OwnI.lt_ h2 (k:=g) rfl).1
 refine⟨g,0,rfl,by omega,?_⟩
 rw[Nat.zero_add,← hc]
 exact World.cell?_of_block (w:=w) (w':=w') (a:=⟨g,k,none⟩) (hk g hg fun e=>by have:=hlt g e;omega)
theorem yca (u b:Nat)(hu:u<4294967296):bits .and .u32 ((u / 2 ^ b:Nat):Int) 1=if u.testBit b=true then 1 else 0:=by
 have h1:u / 2 ^ b<4294967296:=Nat.lt_of_le_of_lt (Nat.div_le_self _ _) hu
 have:=andI (u / 2 ^ b) 1 h1 (by decide)
 rw[show((1:Nat):Int)=1 from rfl] at this
 rw[this,Nat.and_one_is_mod,Nat.testBit_eq_decide_div_mod_eq]
 have h01:u / 2 ^ b % 2=0∨u / 2 ^ b % 2=1:=by omega
 rcases h01 with e | e<;>rw[e]<;>rfl
theorem ybp (u b:Nat):(u:Int) / (2:Int) ^ b=((u / 2 ^ b:Nat):Int):=by
 have:(2:Int) ^ b=((2 ^ b:Nat):Int):=by simp
 rw[this,← Int.natCast_ediv]
end Ex
namespace Ex
open Go.RowKit
theorem ex1:zcw [] 0 2=([(9,2)],1536,0):=by decide +kernel
theorem ex2:zcw [] 1024 2=([(9,1),(11,1)],3584,0):=by decide +kernel
end Ex
namespace Ex
open Go.RowKit Go.Shelf
attribute [local go_sem] Oper.semAt_some
def itv (B:Nat):Value:=.func (.func 177) #[] #[.pointer (some ⟨B,0,none⟩)]
theorem zod (A:Option Addr)(n c:Nat)(w:World):
  Calls Tryz.prog 170 #[.slice A n c] w fun e w'=>e=.returned (itv w.heap.size)∧w'=w.alloc (.cells #[.slice A n c] 111):=by
 have hmf:∀ (fn:Fn) (first cap:Array Value) (w:World),(Instr.makeFunc fn first cap).run Tryz.prog w=.ok (.func fn first cap) w:=fun _ _ _ _=>rfl
 go_enter Tryz.func170,Tryz.ntmps170
 go_wp2_with fail
 go_ret
 exact⟨rfl,rfl⟩
theorem zrq (F:Fence)(n:Nat)(h:F.fn 177)(hro:F.round=none)(hn:1≤n){Wr:World→Nat→Prop} {n0:Nat} (hw:Writes n0 Wr)(B:Nat)(A:Option Addr)(l:List EX)(c:Nat)(hok:ok l=true)(hl:l.length≤100)(w:World)
  (hbox:w.heap[B]?=some (.cells #[.slice A l.length c] 111 (0,0))) (hi:∀ W,Below w.heap.size w W→ItOk Wr n0 W A l):
  SeqStopsK F n Tryz.prog 177 #[.pointer (some ⟨B,0,none⟩)] encB (KpW Wr) (fun ys=>ys=(zaq l).zipIdx) (fun pre=>pre <+: (zaq l).zipIdx) (zaq l).length w:=fun y J Jx W hW hJ _ hY h0 =>
 zoe F n h hro hn hw y B A l c hok hl J Jx W (fun s W1 o hs=>hJ s W1 _ none hs (World.grownBy_alloc W1 o none) (fun r e=>by cases e)) (fun pre x W1 h1 h2 _=>hY pre x W1 h1 h2)
  (by rw[cell_of_row _ _ _ _ _ _ ((hW.block B (Array.getElem?_eq_some_iff.1 hbox).1).trans hbox)];rfl) (hi W hW) h0
def zh2 (l:List EX) (n:Int):Int × Int:=if 0≤n∧n<((za4 l).length:Int) then (((za4 l).getD n.toNat 0:Nat),0) else (0,1)
def noWr (_:World) (_:Nat):Prop:=False
theorem zup:Writes 0 noWr:=⟨fun _ _ _ _ _=>Iff.rfl,fun _ _ _ _ h=>h⟩
structure InB (w:World) (n b e:Int) (W:World):Prop where
 n0:Boxed W w.heap.size 3 (.int .i64 n)
 b0:Boxed W (w.heap.size+1) 3 (.int .i64 b)
 e0:Boxed W (w.heap.size+1+1) 42 (.int .i64 e)
theorem zpc (w:World)(n b e:Int){β:Type}:Own (fun (_:β) W=>InB w n b e W):=fun _ _ _ _ hs hg hr=>⟨zbt hs.n0 hg hr,zbt hs.b0 hg hr,zbt hs.e0 hg hr⟩
theorem KpW.refl (Wr:World→Nat→Prop)(W:World):KpW Wr W W:=fun s=>⟨s,Nat.le_refl _,fun _ _ ho _ hn=>⟨ho,hn⟩⟩
theorem zrs {l:List EX} (h:ok l=true){b i:Nat} (hm:(b,i)∈(zaq l).zipIdx):zh2 l (i:Int)=((b:Int),0):=by
 rw[List.mk_mem_zipIdx_iff_getElem?] at hm
 obtain⟨hi,hb⟩:=List.getElem?_eq_some_iff.1 hm
 unfold zh2
 rw[zar h,zp (by omega),Int.toNat_natCast,List.getD_eq_getElem?_getD,hm]
 rfl
theorem ztj {l:List EX} (h:ok l=true){n:Int} (hn:∀ b i,(b,i)∈(zaq l).zipIdx→(i:Int)≠n):zh2 l n=(0,1):=by
 unfold zh2
 rw[zar h,zn]
 rintro⟨h1,h2⟩
 have hi:n.toNat<(zaq l).length:=by omega
 exact hn _ n.toNat (List.mk_mem_zipIdx_iff_getElem?.2 (List.getElem?_eq_getElem hi)) (by omega)
def InBx (w:World) (n:Int) (c:Code) (pre:List (Nat × Nat)) (W:World):Prop:=c=.ret∧∃ (q:List (Nat × Nat)) (b i:Nat),pre=q++[(b,i)]∧(i:Int)=n∧InB w n (b:Int) 0 W∧Below w.heap.size w W
def InBi (w:World) (n:Int) (pre:List (Nat × Nat)) (W:World):Prop:=(∀ b i,(b,i)∈pre→(i:Int)≠n)∧InB w n 0 0 W∧Below w.heap.size w W
theorem InB.below {w:World} {n b e:Int} {W W':World} (h:InB w n b e W)(k:Below W.heap.size W W'):InB w n b e W':=
 ⟨(k.block _ (Array.getElem?_eq_some_iff.1 h.n0).1).trans h.n0,(k.block _ (Array.getElem?_eq_some_iff.1 h.b0).1).trans h.b0,(k.block _ (Array.getElem?_eq_some_iff.1 h.e0).1).trans h.e0⟩
theorem InB.store {w:World} {n b e:Int} {W:World} (h:InB w n b e W)(b' e':Int):InB w n b' e' ((W.setCell ⟨w.heap.size+1,0,none⟩ (.int .i64 b')).setCell ⟨w.heap.size+1+1,0,none⟩ (.int .i64 e')):=
  ⟨(Below.heap_setCell _ _ _ _ (by show w.heap.size≠w.heap.size+1+1;omega)).trans ((Below.heap_setCell _ _ _ _ (by show w.heap.size≠w.heap.size+1;omega)).trans h.n0),
   (Below.heap_setCell _ _ _ _ (by show w.heap.size+1≠w.heap.size+1+1;omega)).trans (h.b0.set _),
   (show Boxed (W.setCell ⟨w.heap.size+1,0,none⟩ (.int .i64 b')) (w.heap.size+1+1) 42 (.int .i64 e) from(Below.heap_setCell _ _ _ _ (by show w.heap.size+1+1≠w.heap.size+1;omega)).trans h.e0).set _⟩
def ycq (w:World) (l:List EX) (n:Int) (e:Ending) (w':World):Prop:=e=.returned (.tuple #[.int .i64 (zh2 l n).1,.int .i64 (zh2 l n).2])∧Below w.heap.size w w'
theorem zrr (A:Option Addr)(l:List EX)(c:Nat)(n:Int)(w:World)(h:XR w w.heap.size A l)(hl:l.length≤100):
  Calls Tryz.prog 158 #[.slice A l.length c,.int .i64 n] w (ycq w l n):=by
 have hb:Below w.heap.size w (((w.alloc (.cells #[.int .i64 n] 3)).alloc (.cells #[.int .i64 0] 3)).alloc (.cells #[.int .i64 0] 42)):=(((Below.refl _ _).alloc (Nat.le_refl _) _).alloc (by simp) _).alloc (by simp;omega) _
 have hi:InB w n 0 0 (((w.alloc (.cells #[.int .i64 n] 3)).alloc (.cells #[.int .i64 0] 3)).alloc (.cells #[.int .i64 0] 42)):=by
  refine⟨((Boxed.new w 3 (.int .i64 n)).alloc _).alloc _,?_,?_⟩
  ·have:=(Boxed.new (w.alloc (.cells #[.int .i64 n] 3)) 3 (.int .i64 0)).alloc (.cells #[.int .i64 0] 42)
   rwa [World.size_alloc] at this
  ·have:=Boxed.new ((w.alloc (.cells #[.int .i64 n] 3)).alloc (.cells #[.int .i64 0] 3)) 42 (.int .i64 0)
   rwa [World.size_alloc,World.size_alloc] at this
 have hck:=fun W (hW:Below w.heap.size w W)=>zf8 A l c W ((h.below hW).more hW.size) hl
 have HB:=zq hb
 have HI:=zq hi
 have HCK:=zq hck
 clear hb hi hck
 have hsz:(((w.alloc (.cells #[.int .i64 n] 3)).alloc (.cells #[.int .i64 0] 3)).alloc (.cells #[.int .i64 0] 42)).heap.size=w.heap.size+3:=by simp
 have HSZ:=zq hsz
 clear hsz
 by_cases hok:ok l=true
 ·rw[zj1 hok] at HCK
  have HOK:=zq hok
  have HX:=zq h
  clear hok h
  refine(callsIn_wide (n:=8)).1 ?_
  refine callsIn_of_wp_marks Tryz.func158 rfl trivial ?_ rfl
  simp only[Tryz.ntmps158,List.size_toArray,List.length_cons,List.length_nil,Nat.reduceAdd,Nat.reduceSub,Array.replicate_succ,Array.replicate_zero,List.push_toArray,List.append_toArray,List.nil_append,List.cons_append]
  gi_wp2
  generalize (((w.alloc (.cells #[.int .i64 n] 3)).alloc (.cells #[.int .i64 0] 3)).alloc (.cells #[.int .i64 0] 42))=w0 at *
  refine⟨trivial,?_⟩
  refine(callsIn_wide.2 (HCK.out w0 HB.out)).mono ?_
  clear HCK
  rintro e w1 ⟨rfl,b1⟩
  have HI1:=zq (HI.out.below b1)
  have HB1:=zq (HB.out.trans (b1.mono HB.out.size))
  have hs1:w.heap.size+3≤w1.heap.size:=by have:=b1.size;have:=HSZ.out;omega
  clear b1 HI HB HSZ
  gi_wp2
  refine⟨trivial,?_⟩
  refine(callsIn_wide.2 (zod A l.length c w1)).mono ?_
  rintro e w2 ⟨rfl,rfl⟩
  have hbox:=heap_alloc_new w1 (.cells #[.slice A l.length c] 111)
  have hk2:Below w.heap.size w (w1.alloc (.cells #[.slice A l.length c] 111)):=HB1.out.alloc HB1.out.size _
  have hi2:=HI1.out.below (W':=w1.alloc (.cells #[.slice A l.length c] 111)) ((Below.refl _ _).alloc (Nat.le_refl _) _)
  have hs2:w.heap.size+3<(w1.alloc (.cells #[.slice A l.length c] 111)).heap.size:=by rw[World.size_alloc];omega
  have HBOX:=zq hbox
  have HK2:=zq hk2
  have HI2:=zq hi2
  clear hbox hk2 hi2 HI1 HB1
  gi_wp2
  generalize w1.alloc (.cells #[.slice A l.length c] 111)=w2 at *
  generalize w1.heap.size=g at *
  have hit:∀ W,Below w2.heap.size w2 W→ItOk noWr 0 W A l:=fun W hW=>⟨fun k hk=>hk.elim,Nat.zero_le _,(HX.out.below (HK2.out.trans (hW.mono HK2.out.size))).more (Nat.le_trans HK2.out.size hW.size),fun _ _ _ hk=>hk⟩
  refine wpIn_rangeFunc_ownF rfl (by omega) (gf:=177) (lb:=#[.pointer (some ⟨g,0,none⟩)]) rfl trivial (enters_of Tryz.func177 (by kernel_rfl) rfl)
   (zrq Fence.wide _ trivial rfl (by omega) zup g A l c HOK.out hl w2 HBOX.out hit) (fun h k=>KpW.trans h k) (fun W l o o' _ h hc _=>KpW.put zup W l o o' (Nat.zero_le _) h hc) (Below.refl _ _) (fun _=>rfl)
   (InBi w n) (InBx w n)
   (OwnFrom.and (ownFrom_pure _ (fun (pre:List (Nat × Nat))=>∀ b i,(b,i)∈pre→(i:Int)≠n)) (OwnFrom.and (Own.from (zpc w n 0 0) _) (ownFrom_below (Nat.le_refl _) (by omega))))
   (fun c s W W' row hs hg hr=>by
    obtain⟨h1,q,b,i,h2,h3,h4,h5⟩:=hs
    exact⟨h1,q,b,i,h2,h3,(zpc w n b 0).from w2.heap.size () W W' row h4 hg hr,ownFrom_below (Nat.le_refl _) (by omega) () W W' row h5 hg hr⟩)
   ⟨fun b i h=>by (cases h),HI2.out,HK2.out⟩
   (fun x=>{ tmps:=#[.slice A l.length c,.int .i64 n,undef,.pointer (some ⟨w.heap.size,0,none⟩),.pointer (some ⟨w.heap.size+1,0,none⟩),.pointer (some ⟨w.heap.size+1+1,0,none⟩),.int .i64 (x.2:Int),.int .i64 (x.1:Int),.slice A l.length c,.int .i64 0,.bool false,.slice A l.length c,itv g,.int .i64 (x.2:Int),.int .i64 (x.1:Int),undef,undef,undef,undef],defers:=[] }) ?assign ?body ?done ?stop
  case assign =>
   intro l x W K hK
   gi_wp2
   exact hK
  case body =>
   rintro l pre ⟨b,i⟩ W ⟨hne,hb,hk⟩ _
   have c0:=hb.n0.cell
   by_cases hx:(i:Int)=n
   ·have cb:=hb.b0.cell
    have fb:=hb.b0.frozen
    have ce:=hb.e0.cell
    have fe:=hb.e0.frozen
    have hk':=(hk.setCell (p:=⟨w.heap.size+1,0,none⟩) (by show w.heap.size≤w.heap.size+1;omega) (.int .i64 (b:Int))).setCell (p:=⟨w.heap.size+1+1,0,none⟩) (by show w.heap.size≤w.heap.size+1+1;omega) (.int .i64 0)
    have HK':=zq hk'
    have HS:=zq (hb.store (b:Int) 0)
    clear hne hb hk hk' hit
    subst hx
    gi_wp2
    exact⟨(KeepsOthers.setCell _ _ _).trans (KeepsOthers.setCell _ _ _),rfl,pre,b,i,rfl,rfl,HS.out,HK'.out⟩
   ·have hx1:((i:Int)==n)=false:=by simpa using hx
    have HII:Hid (InBi w n (pre++[(b,i)]) W):=⟨fun b' i' h=>by
     rcases List.mem_append.1 h with h | h
     ·exact hne b' i' h
     ·simp only[List.mem_singleton,Prod.mk.injEq] at h
      obtain⟨_,rfl⟩:=h
      exact hx,hb,hk⟩
    clear hne hb hk hx hit
    gi_wp2
    exact⟨KeepsOthers.refl _,KpW.refl _ _,HII.out⟩
  case done =>
   rintro D ys W hD rfl ⟨hne,hb,hk⟩ hK
   have hv:=ztj HOK.out hne
   have cb:=hb.b0.cell
   have fb:=hb.b0.frozen
   have ce:=hb.e0.cell
   have fe:=hb.e0.frozen
   have hk':=(hk.setCell (p:=⟨w.heap.size+1,0,none⟩) (by show w.heap.size≤w.heap.size+1;omega) (.int .i64 0)).setCell (p:=⟨w.heap.size+1+1,0,none⟩) (by show w.heap.size≤w.heap.size+1+1;omega) (.int .i64 1)
   have hst:=hb.store 0 1
   have hKd:=(KeepsOthers.setCell _ ⟨w.heap.size+1+1,0,none⟩ (.int .i64 1)).same D _ ((KeepsOthers.setCell W ⟨w.heap.size+1,0,none⟩ (.int .i64 0)).same D _ hK rfl) rfl
   have HV:=zq hv
   have HKK:=zq hk'
   have HST:=zq hst
   have HKD:=zq hKd
   clear hne hb hk hv hk' hst hKd hit
   gi_wp2
   have g2:=grownBy_putObj' ((W.setCell ⟨w.heap.size+1,0,none⟩ (.int .i64 0)).setCell ⟨w.heap.size+1+1,0,none⟩ (.int .i64 1)) D (.deferred none)
   have x2:=zpc w n 0 1 () _ _ _ HST.out g2 (fun r e=>by cases e;exact⟨_,HKD.out,rfl⟩)
   have k2:=HKK.out.trans (belowK_b (w:=w) (Nat.le_refl _) _ D _ (.deferred none) (by omega) HKD.out rfl rfl)
   refine⟨by simp,.inl ⟨D,_,rfl,run_takeDeferred HKD.out,?_⟩⟩
   have c1:=x2.b0.cell
   have c2:=x2.e0.cell
   refine⟨.tuple #[.int .i64 0,.int .i64 1],?_,by rw[HV.out],k2⟩
   simp[results,Tryz.f158,go_sem,c1,c2]
  case stop =>
   rintro D c2 pre W hD hpre ⟨rfl,q,b,i,rfl,hin,hb,hk⟩ hK
   have hm:(b,i)∈(zaq l).zipIdx:=by
    obtain⟨t,ht⟩:=hpre
    rw[← ht]
    simp
   have hv:=zrs HOK.out hm
   rw[hin] at hv
   have HV:=zq hv
   clear hv hm hpre hit hin
   gi_wp2
   have g2:=grownBy_putObj' W D (.deferred none)
   have x2:=zpc w n b 0 () _ _ _ hb g2 (fun r e=>by cases e;exact⟨_,hK,rfl⟩)
   have k2:=hk.trans (belowK_b (w:=w) (Nat.le_refl _) _ D _ (.deferred none) (by omega) hK rfl rfl)
   refine⟨by simp,.inl ⟨D,_,rfl,run_takeDeferred hK,?_⟩⟩
   have c1:=x2.b0.cell
   have c2:=x2.e0.cell
   refine⟨.tuple #[.int .i64 (b:Int),.int .i64 0],?_,by rw[HV.out],k2⟩
   simp[results,Tryz.f158,go_sem,c1,c2]
 ·have hno:ok l=false:=by simpa using hok
  have hv:zh2 l n=(0,1):=by unfold zh2;rw[zps hno,zn (by rintro⟨a,b⟩;simp at b;omega)]
  rw[zkn hno] at HCK
  have HV:=zq hv
  clear hok hno hv h
  refine(callsIn_wide (n:=8)).1 ?_
  refine callsIn_of_wp_marks Tryz.func158 rfl trivial ?_ rfl
  simp only[Tryz.ntmps158,List.size_toArray,List.length_cons,List.length_nil,Nat.reduceAdd,Nat.reduceSub,Array.replicate_succ,Array.replicate_zero,List.push_toArray,List.append_toArray,List.nil_append,List.cons_append]
  gi_wp2
  generalize (((w.alloc (.cells #[.int .i64 n] 3)).alloc (.cells #[.int .i64 0] 3)).alloc (.cells #[.int .i64 0] 42))=w0 at *
  refine⟨trivial,?_⟩
  refine(callsIn_wide.2 (HCK.out w0 HB.out)).mono ?_
  clear HCK
  rintro e w1 ⟨rfl,b1⟩
  have HI1:=zq (HI.out.below b1)
  have cb:=HI1.out.b0.cell
  have fb:=HI1.out.b0.frozen
  have ce:=HI1.out.e0.cell
  have fe:=HI1.out.e0.frozen
  have hk:=(HB.out.trans (b1.mono HB.out.size)).setCell (p:=⟨w.heap.size+1,0,none⟩) (by show w.heap.size≤w.heap.size+1;omega) (.int .i64 0)
  have hk2:=zq (hk.setCell (p:=⟨w.heap.size+1+1,0,none⟩) (by show w.heap.size≤w.heap.size+1+1;omega) (.int .i64 1))
  have HI2:=zq (HI1.out.store 0 1)
  clear b1 HI HB hk HI1
  gi_wp2
  have c1:=HI2.out.b0.cell
  have c2:=HI2.out.e0.cell
  refine⟨.tuple #[.int .i64 0,.int .i64 1],?_,by rw[HV.out],hk2.out⟩
  simp[results,Tryz.f158,go_sem,c1,c2]
end Ex
namespace Fs
open Go.RowKit Go.Shelf Ex Ino Mm
attribute [local go_sem] Oper.semAt_some
def itf (B:Nat):Value:=.func (.func 156) #[] #[.pointer (some ⟨B,0,none⟩)]
theorem zmn (r:Nat)(w:World):
  Calls Tryz.prog 130 #[.pointer (some ⟨r,0,none⟩)] w fun e w'=>e=.returned (itf w.heap.size)∧w'=w.alloc (.cells #[.pointer (some ⟨r,0,none⟩)] 108):=by
 have hmf:∀ (fn:Fn) (first cap:Array Value) (w:World),(Instr.makeFunc fn first cap).run Tryz.prog w=.ok (.func fn first cap) w:=fun _ _ _ _=>rfl
 go_enter Tryz.func130,Tryz.ntmps130
 go_wp2_with fail
 go_ret
 exact⟨rfl,rfl⟩
theorem zsz {W1 W2:World} (h:Below W1.heap.size W1 W2):W1.grownBy W2 none:=⟨h.os,h.tape,h.output,h.size,fun k hk _=>h.block k hk⟩
theorem zii (F:Fence)(n:Nat)(h:F.fn 156)(hro:F.round=none)(hn:1≤n)(B r:Nat)(bs:List UInt8)(l:List ND)(w:World)
  (hbox:Boxed w B 108 (.pointer (some ⟨r,0,none⟩))) (hr:RegAt w r bs l):
  SeqStopsK F n Tryz.prog 156 #[.pointer (some ⟨B,0,none⟩)] (zvl l) (fun _ _=>True) (fun ys=>ys=zhw (zas l)) (fun pre=>pre <+: zhw (zas l)) 8 w:=fun y J Jx W hW hJ _ hY h0 =>
 ybf F n h hro hn y B r bs l J Jx W (fun s W1 W2 hs hb=>hJ s W1 _ none hs (zsz hb) (fun r e=>by cases e)) (fun pre x W1 h1 h2 _=>hY pre x W1 h1 h2)
  (show Boxed W B 108 _ from(hW.block B hbox.lt).trans hbox).cell (hr.below hW) h0
def BoxN (W:World) (b:Nat) (d:ND):Prop:=W.heap[b]?=some (.cells (ncl d).toArray 113 (0,0))
theorem BoxN.c {W:World} {b:Nat} {d:ND} (h:BoxN W b d):W.cell? ⟨b,0,none⟩=some (St d.x.name)∧W.cell? ⟨b,1,none⟩=some (.int .i64 d.x.size)∧W.cell? ⟨b,2,none⟩=some (.slice d.A d.x.ext.length d.c):=by
 refine⟨?_,?_,?_⟩<;>rw[cell_of_row _ _ _ _ _ _ h]<;>rfl
theorem BoxN.lt {W:World} {b:Nat} {d:ND} (h:BoxN W b d):b<W.heap.size:=(Array.getElem?_eq_some_iff.1 h).1
theorem BoxN.grown {W W':World} {b:Nat} {d:ND} (h:BoxN W b d){row:Option Nat} (hg:W.grownBy W' row)(hr:∀ r,row=some r→∃ o:Obj,W.heap[r]?=some o∧o.isCells=false):BoxN W' b d:=zbt h hg hr
theorem BoxN.below {W W':World} {b:Nat} {d:ND} (h:BoxN W b d)(k:Below W.heap.size W W'):BoxN W' b d:=(k.block b h.lt).trans h
theorem ztk (l:List ND)(i:Nat):at' (zas l) i=(zdn l i).x:=by
 unfold at' zas zdn
 rw[List.getD_eq_getElem?_getD,List.getD_eq_getElem?_getD,List.getElem?_map]
 cases l[i]?<;>rfl
theorem zl9 {w:World} {r:Nat} {bs:List UInt8} {l:List ND} (h:RegAt w r bs l)(i:Nat):NdOk w r (zdn l i):=by
 unfold zdn
 rw[List.getD_eq_getElem?_getD]
 cases hi:l[i]? with
 | none=>exact⟨⟨XR.nil,by decide,by decide,by decide⟩,fun hn=>absurd rfl hn⟩
 | some d=>exact h.nd d (List.mem_of_getElem? hi)
theorem zg1 {W W':World} (h:Below W.heap.size W W'):KeepsOthers W W':=⟨h.size,fun k o hk _=>(h.block k (Array.getElem?_eq_some_iff.1 hk).1).trans hk⟩
def InU (w:World) (l:List ND) (pre:List Nat) (W:World):Prop:=Boxed W w.heap.size 59 (.int .u32 (zes (zas l) pre:Nat))∧Below w.heap.size w W
theorem yam (w:World)(l:List ND){B:Nat} (hB:w.heap.size≤B):OwnFrom B (InU w l):=fun pre W W' row ⟨h1,h2⟩ hg hr=>⟨zbt h1 hg (fun r e=>(hr r e).2),ownFrom_below (Nat.le_refl _) hB () W W' row h2 hg hr⟩
theorem InU.store {w:World} {l:List ND} {pre:List Nat} {W:World} (h:InU w l pre W)(i:Nat){W':World} (hb:Below W.heap.size W W'):InU w l (pre++[i]) (W'.setCell ⟨w.heap.size,0,none⟩ (.int .u32 ((zes (zas l) pre ||| zha (at' (zas l) i):Nat):Int))):=by
 refine⟨?_,(h.2.trans (hb.mono h.2.size)).setCell (p:=⟨w.heap.size,0,none⟩) (Nat.le_refl _) _⟩
 rw[zhe]
 have:Boxed W' w.heap.size 59 _:=(hb.block _ h.1.lt).trans h.1
 exact this.set _
def actU (w:World) (l:List ND) (r g b i:Nat):Act:={ tmps:=#[.pointer (some ⟨r,0,none⟩),undef,.int .u32 0,.pointer (some ⟨w.heap.size,0,none⟩),undef,.pointer (some ⟨b,0,none⟩),.pointer (some ⟨r,0,none⟩),itf g,.int .i64 (i:Int),Ino.ag (zdn l i).x (zdn l i).A (zdn l i).c,undef,undef,undef,undef,undef,undef],defers:=[] }
def MidU (w:World) (l:List ND) (r g:Nat) (pre:List Nat) (i:Nat) (a:Act) (W:World):Prop:=∃ b,a=actU w l r g b i∧BoxN W b (zdn l i)∧InU w l pre W
theorem yd2 (w:World)(l:List ND)(r g:Nat)(pre:List Nat)(i:Nat){B:Nat} (hB:w.heap.size≤B):OwnFrom B (MidU w l r g pre i):=fun a W W' row ⟨b,e,h1,h2⟩ hg hr =>
 ⟨b,e,h1.grown hg (fun r e=>(hr r e).2),yam w l hB pre W W' row h2 hg hr⟩
theorem zty {w:World} {r:Nat} {bs:List UInt8} {l:List ND} (h:RegAt w r bs l):
  Calls Tryz.prog 145 #[.pointer (some ⟨r,0,none⟩)] w (zcx w (.int .u32 (zao (zas l):Nat))):=by
 refine(callsIn_wide (n:=8)).1 ?_
 refine callsIn_of_wp_marks Tryz.func145 rfl trivial ?_ rfl
 simp only[Tryz.ntmps145,List.size_toArray,List.length_cons,List.length_nil,Nat.reduceAdd,Nat.reduceSub,Array.replicate_succ,Array.replicate_zero,List.push_toArray,List.append_toArray,List.nil_append,List.cons_append]
 have hb1:Below w.heap.size w (w.alloc (.cells #[.int .u32 0] 59)):=(Below.refl _ _).alloc (Nat.le_refl _) _
 have hx1:=Boxed.new w 59 (.int .u32 0)
 have hs1:(w.alloc (.cells #[.int .u32 0] 59)).heap.size=w.heap.size+1:=by simp
 have H1:=zq (h.below hb1)
 have HB1:=zq hb1
 have HX1:=zq hx1
 have HS1:=zq hs1
 clear hb1 hx1 hs1
 gi_wp2
 generalize w.alloc (.cells #[.int .u32 0] 59)=w1 at *
 refine⟨trivial,?_⟩
 refine(callsIn_wide.2 (zmn r w1)).mono ?_
 rintro e w2 ⟨rfl,rfl⟩
 have hbox:=Boxed.new w1 108 (.pointer (some ⟨r,0,none⟩))
 have hb2:Below w1.heap.size w1 (w1.alloc (.cells #[.pointer (some ⟨r,0,none⟩)] 108)):=(Below.refl _ _).alloc (Nat.le_refl _) _
 have H2:=zq (H1.out.below hb2)
 have HU2:Hid (InU w l [] (w1.alloc (.cells #[.pointer (some ⟨r,0,none⟩)] 108))):=⟨HX1.out.alloc _,HB1.out.trans (hb2.mono HB1.out.size)⟩
 have HBOX:=zq hbox
 have hs2:(w1.alloc (.cells #[.pointer (some ⟨r,0,none⟩)] 108)).heap.size=w.heap.size+2:=by rw[World.size_alloc,HS1.out]
 have HS2:=zq hs2
 clear hs2 hbox hb2 H1 HB1 HX1
 gi_wp2
 generalize w1.alloc (.cells #[.pointer (some ⟨r,0,none⟩)] 108)=w2 at *
 generalize w1.heap.size=g at *
 have hs2:=HS2.out
 refine zfo rfl (by omega) (gf:=156) (lb:=#[.pointer (some ⟨g,0,none⟩)]) rfl trivial (enters_of Tryz.func156 (by kernel_rfl) rfl)
  (zii Fence.wide _ trivial rfl (by omega) g r bs l w2 HBOX.out H2.out) (Below.refl _ _) (fun _=>rfl)
  (InU w l) (fun _ _ _=>False) (MidU w l r g)
  (yam w l (by omega)) (fun _ _ _ _ _ hs _ _=>hs) (fun pre i=>yd2 w l r g pre i (by omega)) HU2.out ?assign ?body ?done ?stop
 case assign =>
  intro y pre i W hi _
  have HI:=zq hi
  have hk:KeepsOthers W (W.alloc (.cells #[St (zdn l i).x.name,.int .i64 (zdn l i).x.size,.slice (zdn l i).A (zdn l i).x.ext.length (zdn l i).c] 113)):=KeepsOthers.alloc _ _
  have hm:MidU w l r g pre i (actU w l r g W.heap.size i) (W.alloc (.cells #[St (zdn l i).x.name,.int .i64 (zdn l i).x.size,.slice (zdn l i).A (zdn l i).x.ext.length (zdn l i).c] 113)):=
   ⟨W.heap.size,rfl,heap_alloc_new W _,hi.1.alloc _,hi.2.alloc hi.2.size _⟩
  have HK:=zq hk
  have HM:=zq hm
  clear hi hs2 hk hm
  gi_wp2
  exact⟨HK.out,HM.out⟩
 case body =>
  rintro y pre i a W ⟨b,rfl,hn,hu⟩
  obtain⟨c0,c1,c2⟩:=hn.c
  have hlt:=hu.1.lt
  have cu:=hu.1.cell
  have fu:=hu.1.frozen
  have hbit:=fun W2 (hW:Below W.heap.size W W2)=>zpt (zdn l i).A (zdn l i).x.ext (zdn l i).c W2 ((zl9 (h.below (hu.2.trans (hW.mono hu.2.size))) i).ok.xr) (zl9 h i).ok.few
  have hst:=fun W2 (hW:Below W.heap.size W W2)=>hu.store i hW
  have hko:=fun W2 (hW:Below W.heap.size W W2) (hk:KeepsOthers W W2)=>hk.trans (KeepsOthers.setCell W2 ⟨w.heap.size,0,none⟩ (.int .u32 ((zes (zas l) pre ||| zha (at' (zas l) i):Nat):Int)))
  have ha:zha (at' (zas l) i)=zb2 (za4 (zdn l i).x.ext):=by rw[ztk];rfl
  rw[ha] at hst hko
  have hor:=orI (zes (zas l) pre) (zb2 (za4 (zdn l i).x.ext)) (zkx _ _) ((za3 _).lt)
  have hcc:=fun W2 (hW:Below W.heap.size W W2)=>(show W2.cell? ⟨w.heap.size,0,none⟩=some (.int .u32 ((zes (zas l) pre:Nat):Int))∧W2.frozen? ⟨w.heap.size,0,none⟩=false from
   have hb:Boxed W2 w.heap.size 59 _:=(hW.block _ hu.1.lt).trans hu.1
   ⟨hb.cell,hb.frozen⟩)
  have HCC:=zq hcc
  have HBIT:=zq hbit
  have HST:=zq hst
  have HKO:=zq hko
  have hmix:Tryz.prog.follows .mixedOrders=true:=by kernel_rfl
  unfold actU
  clear hs2 hbit hst hko hcc ha hn hu
  generalize zes (zas l) pre=U at *
  generalize zb2 (za4 (zdn l i).x.ext)=V at *
  generalize U ||| V=T at *
  gi_wp2
  gi_region_with_o (first | (refine⟨trivial,(CallsIn.inRound y (callsIn_wide.2 (HBIT.out _ ((Below.refl _ _).drew)))).mono ?_⟩;rintro e W3 ⟨rfl,hb3⟩;obtain⟨cu3,fu3⟩:=HCC.out W3 (((Below.refl _ _).drew).trans hb3)))
  all_goals
   have hb4:Below W.heap.size W W3:=((Below.refl _ _).drew).trans hb3
   have HE:=zq (And.intro (HKO.out W3 hb4 (zg1 hb4)) (HST.out W3 hb4))
   clear hb4 hb3 cu3 fu3
   gi_wp2
   exact⟨HE.out.1,trivial,HE.out.2⟩
 case done =>
  rintro D ys W hD rfl hu hK
  have cu:=hu.1.cell
  have HU:=zq hu
  clear hu hs2
  gi_wp2
  refine⟨by simp,.inl ⟨D,_,rfl,run_takeDeferred hK,?_⟩⟩
  have hs3:=HS2.out
  have k2:=HU.out.2.trans (belowK_b (w:=w) (Nat.le_refl _) W D _ (.deferred none) (by omega) hK rfl rfl)
  refine⟨.int .u32 (zes (zas l) (zhw (zas l)):Nat),?_,rfl,k2⟩
  simp[results,Tryz.f145,go_sem]
 case stop =>
  rintro D c2 pre W _ _ hf _
  exact hf.elim
end Fs
namespace Fs
open Go.RowKit Ex Ino Mm
def zcu (l:List ND) (n:Int):ND:=if za1 (zas l) n=0 then zdn l n.toNat else ⟨in0,none,0⟩
theorem zj2 (l:List ND)(n:Int):(zcu l n).x=za0 (zas l) n:=by
 unfold zcu za0
 split
 ·exact(ztk l _).symm
 ·rfl
theorem zk6 {w:World} {r:Nat} {bs:List UInt8} {l:List ND} (h:RegAt w r bs l)(n:Int):NdOk w r (zcu l n):=by
 unfold zcu
 split
 ·exact zl9 h _
 ·exact⟨⟨XR.nil,by decide,by decide,by decide⟩,fun hn=>absurd rfl hn⟩
def zby (w:World) (l:List ND) (n:Int) (e:Ending) (w':World):Prop:=e=.returned (.tuple #[Ino.ag (zcu l n).x (zcu l n).A (zcu l n).c,.int .i64 (za1 (zas l) n)])∧Below w.heap.size w w'
theorem zgi {w:World} {r:Nat} {bs:List UInt8} {l:List ND} (h:RegAt w r bs l)(n:Int):
  Calls Tryz.prog 104 #[.pointer (some ⟨r,0,none⟩),.int .i64 n] w (zby w l n):=by
 by_cases h0:n<0∨8≤n
 ·have he:za1 (zas l) n=1:=by unfold za1;rw[zp h0]
  have hd:zcu l n=⟨in0,none,0⟩:=by unfold zcu;rw[zn (by rw[he];decide)]
  have HG:Hid (∀ e w',e=.returned (.tuple #[Ino.ag in0 none 0,.int .i64 1])→Below w.heap.size w w'→zby w l n e w'):=fun e w' h1 h2=>by
   unfold zby
   rw[he,hd]
   exact⟨h1,h2⟩
  have c1:(decide (n<0) || decide (8≤n))=true:=by simpa using h0
  generalize zby w l n=G at *
  clear he hd h
  by_cases h1:n<0
  ·clear h0 c1
   go_enter Tryz.func104,Tryz.ntmps104
   go_wp2_with fail
   exact bodyPost_ret (zc7 rfl _ _ w.heap.size 113 _ (0,0) _ _ rfl rfl (heap_alloc_new w _) Tryz.underlying113 rfl zls) rfl (HG.out _ _ rfl ((Below.refl _ _).alloc (Nat.le_refl _) _))
  ·have h2:8≤n:=by omega
   clear h0 c1
   go_enter Tryz.func104,Tryz.ntmps104
   go_wp2_with fail
   exact bodyPost_ret (zc7 rfl _ _ w.heap.size 113 _ (0,0) _ _ rfl rfl (heap_alloc_new w _) Tryz.underlying113 rfl zls) rfl (HG.out _ _ rfl ((Below.refl _ _).alloc (Nat.le_refl _) _))
 ·obtain⟨k,rfl⟩:=Int.eq_ofNat_of_zero_le (show 0≤n by omega)
  have hk:k<8:=by omega
  obtain⟨d,hd,e,hok⟩:=h.get hk
  have hnd:=zzz hd
  obtain⟨c0,c1,c2⟩:=h.nodeC hd
  have hlt:=h.lt
  have L1:=zq (yaa ((h.below ((Below.refl _ _).alloc (Nat.le_refl _) (.cells #[.string ⟨#[]⟩,.int .i64 0,.slice none 0 0] 113))).nodeR hd))
  clear hd h0
  by_cases hz:d.x.name=[]
  ·have HZ:Hid (decide (d.x.name=[])=true):=by show _=_;simpa using hz
   have he:za1 (zas l) (k:Int)=123:=by unfold za1;rw[zn (by omega),Int.toNat_natCast,e,zp hz]
   have hdd:zcu l (k:Int)=⟨in0,none,0⟩:=by unfold zcu;rw[zn (by rw[he];decide)]
   have HG:Hid (∀ e w',e=.returned (.tuple #[Ino.ag in0 none 0,.int .i64 123])→Below w.heap.size w w'→zby w l (k:Int) e w'):=fun e w' h1 h2=>by
    unfold zby
    rw[he,hdd]
    exact⟨h1,h2⟩
   generalize zby w l (k:Int)=G at *
   clear he hdd h hz hok e L1
   go_enter Tryz.func104,Tryz.ntmps104
   go_wp2_with (first | ((with_reducible refine at_ (op:=.binOp .eql 9 (.tmp 21) (.const (.string ⟨#[]⟩)) 9) ?_);refine zaj rfl _ (zpk (.tmp 21) (.const (.string ⟨#[]⟩)) rfl _ true HZ.out rfl rfl) ?_))
   exact bodyPost_ret (zc7 rfl _ _ w.heap.size 113 _ (0,0) _ _ rfl rfl (heap_alloc_new w _) Tryz.underlying113 rfl zls) rfl (HG.out _ _ rfl ((Below.refl _ _).alloc (Nat.le_refl _) _))
  ·have HZ:Hid (decide (d.x.name=[])=false):=by show _=_;simpa using hz
   have he:za1 (zas l) (k:Int)=0:=by unfold za1;rw[zn (by omega),Int.toNat_natCast,e,zn hz]
   have hdd:zcu l (k:Int)=d:=by unfold zcu;rw[zp he,Int.toNat_natCast];exact hnd
   have HG:Hid (∀ e w',e=.returned (.tuple #[Ino.ag d.x d.A d.c,.int .i64 0])→Below w.heap.size w w'→zby w l (k:Int) e w'):=fun e w' h1 h2=>by
    unfold zby
    rw[he,hdd]
    exact⟨h1,h2⟩
   generalize zby w l (k:Int)=G at *
   clear he hdd h hz hok e hnd
   go_enter Tryz.func104,Tryz.ntmps104
   go_wp2_with (first
    | ((with_reducible refine at_ (op:=.binOp .eql 9 (.tmp 21) (.const (.string ⟨#[]⟩)) 9) ?_);refine zaj rfl _ (zpk (.tmp 21) (.const (.string ⟨#[]⟩)) rfl _ false HZ.out rfl rfl) ?_)
    | ((with_reducible refine zd5 (op:=.load 113 (.tmp 28)) ?_);refine za9 rfl 113 _ rfl _ _ rfl L1.out ?_))
   exact bodyPost_ret (zc7 rfl _ _ w.heap.size 113 _ (0,0) _ _ rfl rfl (heap_alloc_new w _) Tryz.underlying113 rfl zls) rfl (HG.out _ _ rfl ((Below.refl _ _).alloc (Nat.le_refl _) _))
end Fs
end Go.Proofs.YtdopfpcjpjlkmaaGreatDoor
