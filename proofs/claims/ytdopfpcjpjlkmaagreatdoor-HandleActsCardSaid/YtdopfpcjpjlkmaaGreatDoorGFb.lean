/- merged -/
import Derived.Test.YtdopfpcjpjlkmaaGreatDoorGFa
import Derived.Test.YtdopfpcjpjlkmaaGreatDoorGLe
import Derived.Lib.OthersKept
import Derived.Lib.DecodeN
import Derived.Deep.LoopGhost
set_option maxHeartbeats 1000000
set_option maxRecDepth 100000
namespace Go.Proofs.YtdopfpcjpjlkmaaGreatDoor
namespace Ino
open Go.RowKit Ex
def okC (c:UInt8):Bool:=decide (33≤c.toNat) && decide (c.toNat≤126)
def zbg (s:List UInt8):Bool:=decide (1≤s.length) && (decide (s.length≤15) && s.all okC)
def zbq (n:Int):Int:=if n≤0 then 0 else (n-1) / 64+1
structure IN where
 name:List UInt8
 size:Int
 ext:List EX
deriving DecidableEq
def zd6 (x:IN):Bool:=zbg x.name && (decide (0≤x.size) && (decide (x.size≤1472) && (ok x.ext && decide (((za4 x.ext).length:Int)=zbq x.size))))
def ze1 (x:IN):Int:=if zd6 x=true then 0 else 110
def u8 (n:Int):UInt8:=UInt8.ofNat n.toNat
theorem zki {n:Int} (h:0≤n∧n<256):((u8 n).toNat:Int)=n:=by
 unfold u8
 rw[UInt8.toNat_ofNat']
 omega
def extF (l:List EX) (j:Nat):UInt8:=if j % 2=0 then u8 (l.getD (j / 2) (0,0)).1 else u8 (l.getD (j / 2) (0,0)).2
def zvl (x:IN) (i:Nat):UInt8:=if i=0 then UInt8.ofNat x.name.length else if i<16 then x.name.getD (i-1) 0 else if i<18 then zga x.size.toNat (i-16) else extF x.ext (i-18)
def zdr (x:IN):List UInt8:=(List.range 64).map (zvl x)
theorem zay (x:IN):(zdr x).length=64:=by simp[zdr]
theorem zeo (x:IN)(i:Nat)(h:i<64):(zdr x).getD i 0=zvl x i:=by
 unfold zdr
 simp[List.getD_eq_getElem?_getD,h]
theorem yac {xs ys:List UInt8} (hx:xs.length=64)(hy:ys.length=64)(h:∀ i,i<64→xs.getD i 0=ys.getD i 0):xs=ys:=by
 apply List.ext_getElem (by omega)
 intro i h1 h2
 have:=h i (by omega)
 rw[List.getD_eq_getElem?_getD,List.getD_eq_getElem?_getD,List.getElem?_eq_getElem h1,List.getElem?_eq_getElem h2] at this
 simpa using this
theorem zvc (xs:List UInt8)(k i:Nat)(u:UInt8)(hk:k<xs.length):(xs.set k u).getD i 0=if i=k then u else xs.getD i 0:=by
 rw[List.getD_eq_getElem?_getD,List.getElem?_set]
 by_cases h:i=k
 ·subst h;simp[hk]
 ·rw[zn (fun e=>h e.symm),zn h,List.getD_eq_getElem?_getD]
theorem zpo (x:IN)(k:Nat)(e:EX)(l:List EX)(hk:k<23)(hl:l.length=k)(hx:x.ext=l):
  ((zdr x).set (18+2*k) (u8 e.1)).set (19+2*k) (u8 e.2)=zdr { x with ext:=l++[e] }:=by
 refine yac (by simp[zay]) (zay _) fun i hi=>?_
 rw[zvc _ _ _ _ (by rw[List.length_set,zay];omega),zvc _ _ _ _ (by rw[zay];omega),zeo _ _ hi,zeo _ _ hi]
 unfold zvl
 by_cases h0:i=0
 ·rw[zn (by omega),zn (by omega),zp h0,zp h0]
 rw[zn h0,zn h0]
 by_cases h1:i<16
 ·rw[zn (by omega),zn (by omega),zp h1,zp h1]
 rw[zn h1,zn h1]
 by_cases h2:i<18
 ·rw[zn (by omega),zn (by omega),zp h2,zp h2]
 rw[zn h2,zn h2]
 simp only[hx]
 unfold extF
 have key:∀ j,(l++[e]).getD j (0,0)=if j=k then e else l.getD j (0,0):=by
  intro j
  rw[List.getD_eq_getElem?_getD,List.getElem?_append]
  by_cases hj:j<l.length
  ·rw[zp hj,zn (by omega),List.getD_eq_getElem?_getD]
  ·rw[zn hj]
   by_cases hjk:j=k
   ·rw[zp hjk,show j-l.length=0 by omega];rfl
   ·rw[zn hjk,List.getElem?_eq_none (by simp;omega),List.getD_eq_getElem?_getD,List.getElem?_eq_none (by omega)]
 rw[key]
 by_cases h3:i=19+2*k
 ·rw[zp h3,zn (by omega),zp (by omega)]
 rw[zn h3]
 by_cases h4:i=18+2*k
 ·rw[zp h4,zp (by omega),zp (by omega)]
 have hd:(i-18) / 2≠k:=by omega
 rw[zn h4,zn hd]
def zaf (b:List UInt8):List EX:=(List.range 23).map fun j=>(((b.getD (18+2*j) 0).toNat:Int),((b.getD (19+2*j) 0).toNat:Int))
def zn7 (b:List UInt8):List EX:=(zaf b).takeWhile fun e=>decide (e≠(0,0))
def zvi (b:List UInt8):List EX:=(zaf b).takeWhile fun e=>decide (e.2≠0)
def zbn (b:List UInt8):List UInt8:=(b.drop 1).take (min (b.getD 0 0).toNat 15)
def zcv (b:List UInt8):Int:=(num b 16 2:Nat)
def za8 (b:List UInt8):IN:=⟨zbn b,zcv b,zn7 b⟩
def zba (b:List UInt8):IN:=⟨zbn b,zcv b,zvi b⟩
def zfg (b:List UInt8):Bool:=zd6 (za8 b) && decide (zdr (za8 b)=b)
theorem zck {x:IN} (h:zd6 x=true):(1≤x.name.length∧x.name.length≤15)∧(∀ c∈x.name,33≤c.toNat∧c.toNat≤126)∧(0≤x.size∧x.size≤1472)∧ok x.ext=true∧((za4 x.ext).length:Int)=zbq x.size:=by
 unfold zd6 zbg at h
 simp only[Bool.and_eq_true,decide_eq_true_eq,List.all_eq_true,okC] at h
 obtain⟨⟨h1,h2,h3⟩,h4,h5,h6,h7⟩:=h
 exact⟨⟨h1,h2⟩,h3,⟨h4,h5⟩,h6,h7⟩
theorem zvt:∀ (l:List EX),(∀ e∈l,ins e)→l.length≤(zaq l).length
 | [],_=>by simp
 | e::r,h=>by
  have ih:=zvt r fun y hy=>h y (by simp[hy])
  have he:=h e (by simp)
  unfold ins at he
  rw[zmy,List.length_append,zpn,List.length_cons]
  omega
theorem zkm {l:List EX} (h:ok l=true):l.length≤23:=by
 have h1:=zvt l (znp h)
 have h2:=(zcr l h).len
 omega
theorem zi4 {l:List EX} (h:ok l=true):∀ e∈l,(9≤e.1∧e.1<32)∧1≤e.2∧e.2<24:=fun e he=>by
 have:=znp h e he
 unfold ins at this
 omega
theorem zdz {α:Type} (p:α→Bool):∀ (l r:List α),(∀ x∈l,p x=true)→(∀ x∈r,p x=false)→(l++r).takeWhile p=l
 | [],[],_,_=>rfl
 | [],x::r,_,h=>by rw[List.nil_append,List.takeWhile_cons,h x (by simp)];rfl
 | x::l,r,h,h2=>by
  rw[List.cons_append,List.takeWhile_cons,h x (by simp),zp rfl,zdz p l r (fun y hy=>h y (by simp[hy])) h2]
theorem zzk (x:IN)(hl:x.ext.length≤23)(hs:∀ e∈x.ext,(9≤e.1∧e.1<32)∧1≤e.2∧e.2<24):zaf (zdr x)=x.ext++List.replicate (23-x.ext.length) (0,0):=by
 apply List.ext_getElem
 ·simp[zaf];omega
 ·intro j h1 h2
  have hj:j<23:=by simpa [zaf] using h1
  simp only[zaf,List.getElem_map,List.getElem_range]
  rw[zeo _ _ (by omega),zeo _ _ (by omega)]
  unfold zvl
  rw[zn (by omega),zn (by omega),zn (by omega),zn (by omega),zn (by omega),zn (by omega)]
  unfold extF
  rw[zp (by omega),zn (by omega),show(18+2*j-18) / 2=j by omega,show(19+2*j-18) / 2=j by omega]
  by_cases hn:j<x.ext.length
  ·rw[List.getElem_append_left hn,List.getD_eq_getElem?_getD,List.getElem?_eq_getElem hn,Option.getD_some]
   have:=hs _ (List.getElem_mem hn)
   rw[zki (by omega),zki (by omega)]
  ·rw[List.getElem_append_right (by omega),List.getElem_replicate,List.getD_eq_getElem?_getD,List.getElem?_eq_none (by omega)]
   rfl
theorem yd0 (x:IN)(h:x.name.length≤15):zbn (zdr x)=x.name:=by
 have e0:((zdr x).getD 0 0).toNat=x.name.length:=by
  rw[zeo _ _ (by omega)]
  unfold zvl
  rw[zp rfl,UInt8.toNat_ofNat']
  omega
 unfold zbn
 rw[e0,Nat.min_eq_left h]
 apply List.ext_getElem
 ·simp[zay];omega
 ·intro j h1 h2
  have hg:=zeo x (1+j) (by omega)
  have hL:=zay x
  rw[List.getD_eq_getElem?_getD,List.getElem?_eq_getElem (by omega),Option.getD_some] at hg
  rw[List.getElem_take,List.getElem_drop,hg]
  unfold zvl
  rw[zn (by omega),zp (by omega),show 1+j-1=j by omega,List.getD_eq_getElem?_getD,List.getElem?_eq_getElem h2,Option.getD_some]
theorem yc5 (x:IN)(h:0≤x.size∧x.size≤1472):zcv (zdr x)=x.size:=by
 unfold zcv
 rw[zko (zdr x) 16 x.size.toNat 2 (fun j hj=>by
  rw[zcl _ _ (by omega),zeo _ _ (by omega)]
  unfold zvl
  rw[zn (by omega),zn (by omega),zp (by omega),show((16:Int)+(j:Int)).toNat-16=j by omega])]
 omega
theorem zk0 {x:IN} (h:zd6 x=true):za8 (zdr x)=x∧zba (zdr x)=x:=by
 obtain⟨h1,_,h3,h4,_⟩:=zck h
 have hp:=zzk x (zkm h4) (zi4 h4)
 have hs:=zi4 h4
 obtain⟨n,s,l⟩:=x
 unfold za8 zba zn7 zvi
 rw[yd0 _ h1.2,yc5 _ h3,hp]
 simp only at hs
 refine⟨?_,?_⟩
 ·rw[zdz _ _ _ (fun e he=>by
   have:=hs e he
   simp only[ne_eq,decide_eq_true_eq]
   rintro rfl
   simp only at this
   omega) (fun e he=>by rw[List.eq_of_mem_replicate he];rfl)]
 ·rw[zdz _ _ _ (fun e he=>by
   have:=hs e he
   simp only[ne_eq,decide_eq_true_eq]
   omega) (fun e he=>by rw[List.eq_of_mem_replicate he];rfl)]
theorem zu3 (b:List UInt8):(zd6 (zba b) && decide (zdr (zba b)=b))=zfg b∧(zfg b=true→zba b=za8 b):=by
 have k1:zfg b=true→zba b=za8 b∧zd6 (zba b)=true∧zdr (zba b)=b:=by
  intro h
  unfold zfg at h
  simp only[Bool.and_eq_true,decide_eq_true_eq] at h
  have e:=(zk0 h.1).2
  rw[h.2] at e
  exact⟨e,by rw[e];exact h.1,by rw[e];exact h.2⟩
 refine⟨?_,fun h=>(k1 h).1⟩
 rw[Bool.eq_iff_iff]
 constructor
 ·intro h
  simp only[Bool.and_eq_true,decide_eq_true_eq] at h
  have e:=(zk0 h.1).1
  rw[h.2] at e
  unfold zfg
  simp only[Bool.and_eq_true,decide_eq_true_eq]
  exact⟨by rw[e];exact h.1,by rw[e];exact h.2⟩
 ·intro h
  have:=k1 h
  simp only[Bool.and_eq_true,decide_eq_true_eq]
  exact this.2
theorem yec {b:List UInt8} (h:zfg b=true):b.length=64:=by
 unfold zfg at h
 simp only[Bool.and_eq_true,decide_eq_true_eq] at h
 rw[← h.2,zay]
theorem yee {b:List UInt8} (h:15<(b.getD 0 0).toNat):zfg b=false:=by
 cases hb:zfg b with
 | false=>rfl
 | true =>
  unfold zfg at hb
  simp only[Bool.and_eq_true,decide_eq_true_eq] at hb
  have:=zck hb.1
  rw[← hb.2,zeo _ _ (by omega)] at h
  unfold zvl at h
  rw[zp rfl,UInt8.toNat_ofNat'] at h
  omega
theorem yed {x:IN} (h:zd6 x=true):zfg (zdr x)=true:=by
 unfold zfg
 rw[(zk0 h).1,h]
 simp
theorem yfa {x:IN} (h:zd6 x=true):zdr x≠List.replicate 64 0:=by
 intro e
 have:=zck h
 have hg:=zeo x 0 (by omega)
 rw[e] at hg
 unfold zvl at hg
 rw[zp rfl] at hg
 have h2:=congrArg UInt8.toNat hg
 rw[UInt8.toNat_ofNat'] at h2
 simp at h2
 omega
end Ino
namespace Ino
open Go.RowKit Ex
abbrev St (xs:List UInt8):Value:=.string ⟨xs.toArray⟩
theorem zh7 (xs:List UInt8):(⟨xs.toArray⟩:ByteArray).size=xs.length:=by simp[ByteArray.size]
theorem ztb (n b0 b1 b2 b3:Nat)(h:128≤b0):128≤(Lib.decodeN n b0 b1 b2 b3).1:=by
 unfold Lib.decodeN
 repeat' split
 all_goals simp only
 all_goals omega
section
variable {P:Program}
theorem ydw (w:World)(k:Nat)(xs:List UInt8)(pos:Nat)(ty:TypeId)(hk:w.heap[k]?=some (.stringIter ⟨xs.toArray⟩ pos))(h:pos<xs.length)(ha:xs[pos].toNat<128):
  (Instr.next (.pointer (some ⟨k,0,none⟩)) true ty).run P w=.ok (.tuple #[.bool true,.int .i64 pos,.int .i32 (xs[pos].toNat:Int)]) (w.iterAt k ⟨xs.toArray⟩ (pos+1)):=
 Lib.run_next_ascii_at w k ⟨xs.toArray⟩ pos ty hk (by rw[zh7];exact h) ha
theorem zzx (w:World)(k:Nat)(xs:List UInt8)(pos:Nat)(hk:w.heap[k]?=some (.stringIter ⟨xs.toArray⟩ pos))(h:pos<xs.length)(ha:128≤xs[pos].toNat):
  ∃ (r:Nat) (n:Nat),128≤r∧∀ ty,(Instr.next (.pointer (some ⟨k,0,none⟩)) true ty).run P w=.ok (.tuple #[.bool true,.int .i64 pos,.int .i32 (r:Int)]) (w.iterAt k ⟨xs.toArray⟩ n):=by
 refine⟨(Utf8.decode ⟨xs.toArray⟩ pos).1,pos+(Utf8.decode ⟨xs.toArray⟩ pos).2,?_,fun ty=>Lib.run_next_any_at w k ⟨xs.toArray⟩ pos ty hk (by rw[zh7];exact h)⟩
 rw[Lib.decode_at]
 refine ztb _ _ _ _ _ ?_
 have e:(⟨xs.toArray⟩:ByteArray).get! pos=xs[pos]:=by
  simp[ByteArray.get!,h]
 rw[e]
 exact ha
theorem ydx (w:World)(k:Nat)(xs:List UInt8)(pos:Nat)(ty:TypeId)(hk:w.heap[k]?=some (.stringIter ⟨xs.toArray⟩ pos))(h:¬pos<xs.length):
  (Instr.next (.pointer (some ⟨k,0,none⟩)) true ty).run P w=.ok (.tuple #[.bool false]) w:=
 Lib.run_next_end_at w k ⟨xs.toArray⟩ pos ty hk (by rw[zh7];exact h)
end
theorem zof {w w':World} {B k:Nat} (h:Below B w w')(hk:B≤k)(s:ByteArray)(n:Nat):Below B w (w'.iterAt k s n):=
 h.trans ⟨rfl,rfl,rfl,by rw[Lib.iterAt_size];exact Nat.le_refl _,fun j hj=>Lib.iterAt_other _ _ _ _ _ (by omega)⟩
def yci (w:World) (xs:List UInt8) (g:Nat) (wr:World):Prop:=∃ pos,g=xs.length-pos∧pos≤xs.length∧xs.all okC=(xs.drop pos).all okC∧wr.heap[w.heap.size]?=some (.stringIter ⟨xs.toArray⟩ pos)∧Below w.heap.size w wr
theorem zfm (xs:List UInt8)(w:World)(hl:xs.length≤9223372036854775807):
  Calls Tryz.prog 94 #[St xs] w (zcx w (.bool (zbg xs))):=by
 have hsz:=zh7 xs
 by_cases h1:1≤xs.length
 ·by_cases h2:xs.length≤15
  ·have hb:zbg xs=xs.all okC:=by simp[zbg,h1,h2]
   rw[hb]
   have k1:((xs.length:Int)<1)=False:=by simp;omega
   have k2:(15<(xs.length:Int))=False:=by simp;omega
   have hat:=World.iter_heap w ⟨xs.toArray⟩ 0
   have hbel:Below w.heap.size w (w.iter ⟨xs.toArray⟩ 0):=(Below.refl _ _).alloc (Nat.le_refl _) _
   have HAT:=zq hat
   have HBEL:=zq hbel
   clear hat hbel hb
   go_enter Tryz.func94,Tryz.ntmps94
   go_wp2_with fail
   go_loopg [4] xs.length (fun g _ wr=>yci w xs g wr)
   case atStart=>exact⟨0,by omega,by omega,by simp,HAT.out,HBEL.out⟩
   case round =>
    obtain⟨pos,rfl,hp,hall,hat,bel⟩:=hrel
    by_cases hlt:pos<xs.length
    ·have hd:xs.drop pos=xs[pos]::xs.drop (pos+1):=List.drop_eq_getElem_cons hlt
     rw[hd,List.all_cons] at hall
     have HALL:=zq hall
     clear hall hd
     by_cases ha:xs[pos].toNat<128
     ·have hnx:=fun ty=>ydw (P:=Tryz.prog) wr w.heap.size xs pos ty hat hlt ha
      have hat2:=Lib.iterAt_heap wr w.heap.size ⟨xs.toArray⟩ pos (pos+1) hat
      have bel2:=zof bel (Nat.le_refl _) ⟨xs.toArray⟩ (pos+1)
      have HAT2:=zq hat2
      have HBEL2:=zq bel2
      by_cases hc:okC xs[pos]=true
      ·have hc':=hc
       unfold okC at hc'
       simp only[Bool.and_eq_true,decide_eq_true_eq] at hc'
       have HR:Hid (yci w xs (xs.length-(pos+1)) (wr.iterAt w.heap.size ⟨xs.toArray⟩ (pos+1))):=⟨pos+1,rfl,by omega,by rw[HALL.out,hc,Bool.true_and],hat2,bel2⟩
       have n1:decide (((xs[pos].toNat:Nat):Int)<33)=false:=by simp;omega
       have n2:decide ((126:Int)<((xs[pos].toNat:Nat):Int))=false:=by simp;omega
       clear hat2 bel2 hat bel hc HALL HAT2 HBEL2
       generalize xs[pos].toNat=z at *
       generalize wr.iterAt w.heap.size ⟨xs.toArray⟩ (pos+1)=w2 at *
       go_wp2_with fail
       go_roundg (xs.length-(pos+1))
       case rel=>exact HR.out
       case measure=>omega
      ·have hno:xs.all okC=false:=by rw[HALL.out,(by simpa using hc:okC xs[pos]=false),Bool.false_and]
       have hc':xs[pos].toNat<33∨126<xs[pos].toNat:=by
        unfold okC at hc
        simp only[Bool.and_eq_true,decide_eq_true_eq] at hc
        omega
       have HNO:=zq hno
       clear hat2 hat bel hc HALL HAT2 hno
       generalize xs[pos].toNat=z at *
       generalize wr.iterAt w.heap.size ⟨xs.toArray⟩ (pos+1)=w2 at *
       by_cases n1:z<33
       ·have n1':decide ((z:Int)<33)=true:=by simp;omega
        clear hc' bel2 ha
        go_wp2_with fail
        go_ret
        exact⟨by rw[HNO.out];rfl,HBEL2.out⟩
       ·have n1':decide ((z:Int)<33)=false:=by simp;omega
        have n2:decide ((126:Int)<(z:Int))=true:=by simp;omega
        clear hc' bel2 ha
        go_wp2_with fail
        go_ret
        exact⟨by rw[HNO.out];rfl,HBEL2.out⟩
     ·obtain⟨r,n,hr,hnx⟩:=zzx (P:=Tryz.prog) wr w.heap.size xs pos hat hlt (by omega)
      have bel2:=zof bel (Nat.le_refl _) ⟨xs.toArray⟩ n
      have hno:xs.all okC=false:=by
       have:okC xs[pos]=false:=by
        unfold okC
        simp only[Bool.and_eq_false_iff,decide_eq_false_iff_not]
        omega
       rw[HALL.out,this,Bool.false_and]
      have HNO:=zq hno
      have HBEL2:=zq bel2
      have n1:decide ((r:Int)<33)=false:=by simp;omega
      have n2:decide ((126:Int)<(r:Int))=true:=by simp;omega
      clear hat bel HALL hno bel2 ha hr
      generalize wr.iterAt w.heap.size ⟨xs.toArray⟩ n=w2 at *
      go_wp2_with fail
      go_ret
      exact⟨by rw[HNO.out];rfl,HBEL2.out⟩
    ·have hnx:=fun ty=>ydx (P:=Tryz.prog) wr w.heap.size xs pos ty hat hlt
     have he:xs.all okC=true:=by rw[hall,List.drop_eq_nil_of_le (by omega)];rfl
     have HE:=zq he
     clear he hall hat
     go_wp2_with fail
     go_ret
     exact⟨by rw[HE.out];rfl,bel⟩
  ·have hb:zbg xs=false:=by simp[zbg,h2]
   rw[hb]
   have n1:decide ((xs.length:Int)<1)=false:=by simp;omega
   have n2:decide ((15:Int)<(xs.length:Int))=true:=by simp;omega
   clear h1 h2 hb
   go_enter Tryz.func94,Tryz.ntmps94
   go_wp2_with fail
   go_ret
   exact⟨rfl,Below.refl _ _⟩
 ·have hb:zbg xs=false:=by simp[zbg,h1]
  rw[hb]
  have n1:decide ((xs.length:Int)<1)=true:=by simp;omega
  clear h1 hb
  go_enter Tryz.func94,Tryz.ntmps94
  go_wp2_with fail
  go_ret
  exact⟨rfl,Below.refl _ _⟩
theorem idx_at (xs:List UInt8)(k:Nat)(h:k<xs.length)(w:World):(Instr.index 9 (St xs) (.int .i64 (k:Int))).run Tryz.prog w=.ok (B8 xs[k]) w:=by
 rw[run_index_string w 9 ⟨xs.toArray⟩ .i64 (k:Int) Tryz.underlying9,dif_pos ⟨by omega,by rw[zh7];omega⟩]
 rfl
def zv0 (xs:List UInt8) (i:Value):Prop:=∃ pos:Nat,i=.int .i64 (pos:Int)∧pos≤xs.length∧xs.all okC=(xs.drop pos).all okC
theorem zlz (xs:List UInt8)(w:World)(hl:xs.length≤9223372036854775807):
  Calls Tryz.prog 66 #[St xs] w (fun e w'=>e=.returned (.bool (zbg xs))∧w'=w):=by
 have hsz:=zh7 xs
 go_enter Tryz.func66,Tryz.ntmps66
 go_wp2_with fail
 go_loop [3] (fun i=>zv0 xs i) (fun i=>xs.length-(RowKit.intOf i).toNat)
 case atStart=>exact⟨0,rfl,by omega,by simp⟩
 case round =>
  obtain⟨pos,rfl,hp,hall⟩:=hrel
  by_cases hlt:pos<xs.length
  ·have hd:xs.drop pos=xs[pos]::xs.drop (pos+1):=List.drop_eq_getElem_cons hlt
   rw[hd,List.all_cons] at hall
   have hix:=idx_at xs pos hlt
   have HALL:=zq hall
   clear hall hd
   have ew:IntKind.i64.wrap ((pos:Int)+1)=(pos:Int)+1:=by rw[IntKind.wrap_i64];omega
   by_cases hc:okC xs[pos]=true
   ·have hc':=hc
    unfold okC at hc'
    simp only[Bool.and_eq_true,decide_eq_true_eq] at hc'
    have HR:Hid (zv0 xs (.int .i64 ((pos:Int)+1))):=⟨pos+1,by simp,by omega,by rw[HALL.out,hc,Bool.true_and]⟩
    have n1:decide (((xs[pos].toNat:Nat):Int)<33)=false:=by simp;omega
    have n2:decide ((126:Int)<((xs[pos].toNat:Nat):Int))=false:=by simp;omega
    clear hc HALL
    generalize xs[pos]=z at *
    go_wp2_with fail
    go_round
    case rel=>exact HR.out
    case measure=>simp[RowKit.intOf];omega
   ·have hno:xs.all okC=false:=by rw[HALL.out,(by simpa using hc:okC xs[pos]=false),Bool.false_and]
    have hb:zbg xs=false:=by simp[zbg,hno]
    have hc':xs[pos].toNat<33∨126<xs[pos].toNat:=by
     unfold okC at hc
     simp only[Bool.and_eq_true,decide_eq_true_eq] at hc
     omega
    have HNO:=zq hb
    clear hc HALL hno hb
    generalize xs[pos]=z at *
    by_cases n1:z.toNat<33
    ·have n1':decide ((z.toNat:Int)<33)=true:=by simp;omega
     clear hc'
     go_wp2_with fail
     go_ret
     exact⟨by rw[HNO.out];rfl,rfl⟩
    ·have n1':decide ((z.toNat:Int)<33)=false:=by simp;omega
     have n2:decide ((126:Int)<(z.toNat:Int))=true:=by simp;omega
     clear hc'
     go_wp2_with fail
     go_ret
     exact⟨by rw[HNO.out];rfl,rfl⟩
  ·have he:xs.all okC=true:=by rw[hall,List.drop_eq_nil_of_le (by omega)];rfl
   obtain rfl:pos=xs.length:=by omega
   by_cases h1:1≤xs.length
   ·have n1:decide ((1:Int)≤(xs.length:Int))=true:=by simp;omega
    by_cases h2:xs.length≤15
    ·have n2:decide ((xs.length:Int)≤15)=true:=by simp;omega
     have hb:zbg xs=true:=by simp[zbg,h1,h2,he]
     have HB:=zq hb
     clear hall he hb h1 h2
     go_wp2_with fail
     go_ret
     exact⟨by rw[HB.out];rfl,rfl⟩
    ·have n2:decide ((xs.length:Int)≤15)=false:=by simp;omega
     have hb:zbg xs=false:=by simp[zbg,h2]
     have HB:=zq hb
     clear hall he hb h1 h2
     go_wp2_with fail
     go_ret
     exact⟨by rw[HB.out];rfl,rfl⟩
   ·have n1:decide ((1:Int)≤(xs.length:Int))=false:=by simp;omega
    have hb:zbg xs=false:=by simp[zbg,h1]
    have HB:=zq hb
    clear hall he hb h1
    go_wp2_with fail
    go_ret
    exact⟨by rw[HB.out];rfl,rfl⟩
theorem zur (n:Int)(w:World)(h:-9223372036854775808≤n∧n≤9223372036854775807):
  Calls Tryz.prog 143 #[.int .i64 n] w (fun e w'=>e=.returned (.int .i64 (zbq n))∧w'=w):=by
 by_cases h0:n≤0
 ·have hn:zbq n=0:=by simp[zbq,h0]
  have hm:(if n<0 then (0:Int) else n)=0:=by split<;>omega
  rw[hn]
  have n1:decide ((0:Int)<n)=false:=by simp;omega
  go_enter Tryz.func143,Tryz.ntmps143
  go_wp2_with fail
  go_ret
  exact⟨rfl,rfl⟩
 ·have hn:zbq n=(n-1) / 64+1:=by simp[zbq,h0]
  have HN:=zq hn
  have n0:decide ((0:Int)<n)=true:=by simp;omega
  have e1:IntKind.i64.wrap (n / 64)=n / 64:=by rw[IntKind.wrap_i64];omega
  have e2:IntKind.i64.wrap (n / 64*64)=n / 64*64:=by rw[IntKind.wrap_i64];omega
  by_cases hm:n / 64*64<n
  ·have n1:decide (n / 64*64<n)=true:=by simp;omega
   have hr:n / 64+1=zbq n:=by rw[hn];omega
   have HR:=zq hr
   clear hn hr
   go_enter Tryz.func143,Tryz.ntmps143
   go_wp2_with fail
   go_ret
   exact⟨by rw[← HR.out];rfl,rfl⟩
  ·have n1:decide (n / 64*64<n)=false:=by simp;omega
   have hr:n / 64=zbq n:=by rw[hn];omega
   have HR:=zq hr
   clear hn hr
   go_enter Tryz.func143,Tryz.ntmps143
   go_wp2_with fail
   go_ret
   exact⟨by rw[← HR.out];rfl,rfl⟩
theorem zqd (n:Int)(w:World)(h:-9223372036854775808≤n∧n≤9223372036854775807):
  Calls Tryz.prog 111 #[.int .i64 n] w (fun e w'=>e=.returned (.int .i64 (zbq n))∧w'=w):=by
 by_cases h0:n≤0
 ·have hn:zbq n=0:=by simp[zbq,h0]
  rw[hn]
  go_enter Tryz.func111,Tryz.ntmps111
  go_wp2_with fail
  go_ret
  exact⟨rfl,rfl⟩
 ·have hn:zbq n=(n-1) / 64+1:=by simp[zbq,h0]
  have e1:IntKind.i64.wrap (n-1)=n-1:=by rw[IntKind.wrap_i64];omega
  go_enter Tryz.func111,Tryz.ntmps111
  go_wp2_with fail
  go_ret
  exact⟨rfl,rfl⟩
end Ino
namespace Ex
open Go.RowKit
def zo0 (l:List EX) (k:Nat):Int:=if k=0 then 0 else (l.getD (k-1) (0,0)).1+(l.getD (k-1) (0,0)).2
theorem znl {l:List EX} {k:Nat} (h:k<l.length):zo0 l (k+1)=l[k].1+l[k].2:=by
 simp[zo0,List.getD_eq_getElem?_getD,h]
theorem zlo {x:EX} {j:Nat} (h:j<(exB x).length):(exB x).take (j+1)=(exB x).take j++[x.1.toNat+j]:=by
 rw[List.take_succ_eq_append_getElem h,ygh]
theorem ztz {x:EX} {j:Nat}:x.1.toNat+j ∉ (exB x).take j:=by
 intro h
 obtain⟨i,hi,e⟩:=List.getElem_of_mem h
 rw[List.getElem_take,ygh] at e
 rw[List.length_take] at hi
 omega
theorem zzm {w:World} {B:Nat} {R:Option Addr} {cap:Nat} {l:List Nat} (h:OwnI w B R cap l)(hB:B≤w.heap.size)(hl:l.length≤1954687338212)(x:Nat)(g:Nat)(hg:w.cell? ⟨g,0,none⟩=some (.int .i64 (x:Int))):
  ∃ R' cap' w',(Builtin.append_ #[40,40] 40 #[.slice R l.length cap,.slice (some ⟨g,0,none⟩) 1 1]).run Tryz.prog w=.ok (.slice R' (l.length+1) cap') w'∧OwnI w' B R' cap' (l++[x])∧Below B w w'∧∀ k,k<w.heap.size→Value.ownBlock (.slice R l.length cap)≠some k→w'.heap[k]?=w.heap[k]?:=by
 obtain⟨i0,hi,hz0,hz1,hz2⟩:=info_parts Tryz.infoInt
 obtain⟨v',w',hrun,hown,hg,_,_⟩:=run_append_own_at (P:=Tryz.prog) w B 40 40 3 i0 (.int .i64 0) 1 8 Tryz.underlying40 hi hz0 hz1 hz2 rfl (by decide) _ l.length _ h ⟨g,0,none⟩ 1 1 [.int .i64 (x:Int)] rfl (fun j u hu=>by
  match j,hu with
  | 0,hu=>cases hu;exact hg
  | j+1,hu=>simp at hu) (by intro u hu;simp at hu;subst hu;rfl) (by unfold maxLen;omega) (by omega) hB
 obtain⟨g',cap',rfl,_,_⟩:=World.ownsRow.form hown (by omega)
 refine⟨_,cap',w',hrun,?_,⟨hg.os,hg.tape,hg.output,hg.size,fun k hk=>hg.block k (by omega) (fun e=>by have:=(World.ownsRow.lt h k e.symm).1;omega)⟩,fun k hk hne=>hg.block k hk (fun e=>hne e.symm)⟩
 unfold OwnI
 rw[List.length_append,List.map_append]
 exact hown
theorem zuf {w:World} {B:Nat} {R:Option Addr} {cap:Nat} {l:List Nat} (h:OwnI w B R cap l){g:Nat} {cs:Array Value} (hat:w.heap[g]?=some (.cells cs 152 (0,0))):Value.ownBlock (.slice R l.length cap)≠some g:=by
 intro e
 rcases h.2 with⟨hn,_⟩|⟨g',cap',cur,e',_,hg,_⟩
 ·rw[hn] at e;cases e
 ·rw[e'] at e
  cases e
  rw[hat] at hg
  cases hg
def BlocksOut (w:World) (l:List EX) (e:Ending) (w':World):Prop:=∃ R cap,e=.returned (.tuple #[.slice R (za4 l).length cap,.bool (ok l)])∧OwnI w' w.heap.size R cap (za4 l)∧Below w.heap.size w w'
theorem BlocksOut.no {w w':World} {l:List EX} (h:ok l=false)(hb:Below w.heap.size w w'):BlocksOut w l (.returned (.tuple #[.slice none 0 0,.bool false])) w':=by
 refine⟨none,0,?_,?_,hb⟩
 ·rw[zps h,h];rfl
 ·rw[zps h];exact World.ownsRow_nil _ _ _ _
theorem zcc (A:Option Addr)(l:List EX)(c:Nat)(w:World)(h:XR w w.heap.size A l)(hl:l.length≤100):
  Calls Tryz.prog 110 #[.slice A l.length c] w (BlocksOut w l):=by
 go_enter Tryz.func110,Tryz.ntmps110
 go_wp2_with fail
 go_loopw [12,4,5,6,7,9] (fun i s _ _ _ _ wr=>∃ (k:Nat) (out:List Nat) (R:Option Addr) (cap:Nat),k≤l.length∧i=.int .i64 (k:Int)∧s=.slice R out.length cap∧OwnI wr w.heap.size R cap out∧ok l=okL out (zo0 l k) (l.drop k)∧Good out∧out=zaq (l.take k)∧(∀ m,m<k→∀ y,l[m]?=some y→ins y)∧Below w.heap.size w wr) (fun i _ _ _ _ _ _=>l.length-(RowKit.intOf i).toNat)
 case atStart=>exact⟨0,[],none,0,by omega,rfl,rfl,World.ownsRow_nil _ _ _ _,rfl,zk9,rfl,fun m hm=>absurd hm (by omega),Below.refl _ _⟩
 case round =>
  obtain⟨k,out,R,cap,hk,rfl,rfl,own,hok,hg,hout,hins,hb⟩:=hrel
  by_cases hlt:k<l.length
  ·obtain⟨ad,rfl,hlb,d0,d1,hx⟩:=(h.below hb).at_ hlt
   have hst:=zuk out (zo0 l k) (List.drop_eq_getElem_cons hlt)
   rw[← hok] at hst
   have hbs:=zlc hlt
   have HLK:Hid (l[k]?=some l[k]):=List.getElem?_eq_getElem hlt
   have hps:=znl hlt
   have hsz:=hb.size
   have b1:=hb.alloc hsz (.cells #[.int .i64 l[k].1,.int .i64 l[k].2] 152)
   obtain⟨W1,HW1⟩:∃ W1,W1=wr.alloc (.cells #[.int .i64 l[k].1,.int .i64 l[k].2] 152):=⟨_,rfl⟩
   have own1:OwnI (wr.alloc (.cells #[.int .i64 l[k].1,.int .i64 l[k].2] 152)) w.heap.size R cap out:=own.alloc _
   have hat:W1.heap[wr.heap.size]?=some (.cells #[.int .i64 l[k].1,.int .i64 l[k].2] 152 (0,0)):=by rw[HW1];exact heap_alloc_new wr _
   have hs1:wr.heap.size<W1.heap.size:=(Array.getElem?_eq_some_iff.1 hat).1
   rw[← HW1] at b1 own1
   have HEN:Hid (k=0→zo0 l k=0):=fun e=>by subst e;rfl
   have hprev:k≠0→∃ s' n',(9≤s'∧s'≤31)∧(1≤n'∧n'≤32)∧zo0 l k=s'+n'∧W1.cell? (ad.add ((k-1)*2))=some (.int .i64 s')∧W1.cell? ⟨(ad.add ((k-1)*2)).block,(ad.add ((k-1)*2)).off+1,none⟩=some (.int .i64 n'):=fun h0=>by
    have hlt':k-1<l.length:=by omega
    obtain⟨ad',e',_,p0,p1,_⟩:=(h.below b1).at_ hlt'
    cases e'
    have hi:=hins (k-1) (by omega) _ (List.getElem?_eq_getElem hlt')
    unfold ins at hi
    refine⟨_,_,⟨hi.1,by omega⟩,⟨hi.2.1,by omega⟩,?_,p0,p1⟩
    have:=znl hlt'
    rwa [show k-1+1=k from by omega] at this
   have HN:=zq h
   have HI:=zq hins
   have HO:=zq hout
   have HPS:=zq hps
   have HBS:=zq hbs
   have HB:=zq b1
   have HG:=zq hg
   have HA:=zq hat
   have OWN:=zq own1
   have HPR:=zq hprev
   clear b1 hb hg hat own own1 hok hout hins h hbs hps hprev
   generalize l[k]=x at *
   generalize zo0 l k=en at *
   obtain⟨s,n⟩:=x
   obtain⟨hs0,hn0⟩:=hx
   simp only at d0 d1 hs0 hn0
   have c0:W1.cell? ⟨wr.heap.size,0,none⟩=some (.int .i64 s):=by rw[cell_of_row _ _ _ _ _ _ HA.out];rfl
   have c1:W1.cell? ⟨wr.heap.size,1,none⟩=some (.int .i64 n):=by rw[cell_of_row _ _ _ _ _ _ HA.out];rfl
   by_cases h1:ins (s,n)
   ·have h1':=h1
    unfold ins at h1'
    simp only at h1'
    obtain⟨S,rfl⟩:∃ S:Nat,s=(S:Int):=⟨s.toNat,by omega⟩
    obtain⟨N,rfl⟩:∃ N:Nat,n=(N:Int):=⟨n.toNat,by omega⟩
    have ew:IntKind.i64.wrap (32-(S:Int))=32-(S:Int):=by rw[IntKind.wrap_i64];omega
    have hblk:∀ j,j<N→IntKind.i64.wrap ((S:Int)+(j:Int))=((S+j:Nat):Int):=fun j hj=>by rw[IntKind.wrap_i64];omega
    have hS:(((S:Int),(N:Int)):EX).1.toNat=S:=rfl
    have hN:(exB ((S:Int),(N:Int))).length=N:=by rw[zpn];rfl
    rw[decide_eq_true h1,Bool.true_and] at hst
    have HI1:=zq h1
    have HBK:=zq hblk
    clear h1 hblk
    by_cases hen:(S:Int)=en
    ·have hk0:k≠0:=fun e=>by
      subst e
      have:en=0:=HEN.out rfl
      omega
     obtain⟨s',n',i1,i2,e3,p0,p1⟩:=HPR.out hk0
     have hno:ok l=false:=by rw[hst];simp[hen]
     have HF:=zq (fun n=>BlocksOut.no hno (below_drewN HB.out n))
     have e4:s'+n'=(S:Int):=by omega
     have k1:decide (0<k)=true:=by simp;omega
     have k2:(k:Int)-1=((k-1:Nat):Int):=by omega
     have k3:k-1<l.length:=by omega
     generalize k-1=m at *
     have kw:IntKind.i64.wrap (m:Int)=(m:Int):=by rw[IntKind.wrap_i64];omega
     have k6:IntKind.i64.wrap (s'+n')=(S:Int):=by rw[e4,IntKind.wrap_i64];omega
     clear hst hno HPR HB OWN HPS HBS HO HI HG hen e3 e4 hk0 hS hN
     go_wp2_with fail
     rw[← HW1]
     clear HW1
     go_quiet (fail)
     go_wp2_with fail
     go_ret2
     exact HF.out _
    ·have hst2:ok l=(decide (∀ b∈exB ((S:Int),(N:Int)),b ∉ out) && okL (out++exB ((S:Int),(N:Int))) ((S:Int)+(N:Int)) (l.drop (k+1))):=by rw[hst,decide_eq_true (show(((S:Int),(N:Int)):EX).1≠en from hen),Bool.true_and]
     have hen1:((S:Int)==en)=false:=by simpa using hen
     clear hst
     have hst:=hst2
     clear hst2
     by_cases hk0:k=0
     ·have k1:decide (0<k)=false:=by simp;omega
      clear hk0
      go_wp2_with fail
      rw[← HW1]
      clear HW1
      go_quiet (fail)
      go_wp2_with fail
      generalize wr.heap.size=g0 at *
      go_loopw [7,4,9] (fun i s _ W=>∃ (j:Nat) (out':List Nat) (R:Option Addr) (cap:Nat),j≤N∧i=.int .i64 (j:Int)∧s=.slice R out'.length cap∧out'=out++(exB ((S:Int),(N:Int))).take j∧OwnI W w.heap.size R cap out'∧(∀ b∈(exB ((S:Int),(N:Int))).take j,b ∉ out)∧Below w.heap.size w W∧W.heap[g0]?=some (.cells #[.int .i64 (S:Int),.int .i64 (N:Int)] 152 (0,0))) (fun i _ _ _=>N-(RowKit.intOf i).toNat)
      case atStart=>exact⟨0,out,R,cap,by omega,rfl,rfl,by simp,OWN.out,fun b hb=>by simp at hb,below_drewN HB.out _,HA.out⟩
      case round =>
       clear HA HB OWN c0 c1 HPR k1
       obtain⟨j,out',R2,cap2,hj,rfl,rfl,hout',own2,hnew,hb2,hat2⟩:=hrel
       have c2:wr.cell? ⟨g0,0,none⟩=some (.int .i64 (S:Int)):=by rw[cell_of_row _ _ _ _ _ _ hat2];rfl
       have c3:wr.cell? ⟨g0,1,none⟩=some (.int .i64 (N:Int)):=by rw[cell_of_row _ _ _ _ _ _ hat2];rfl
       have hs2:g0<wr.heap.size:=(Array.getElem?_eq_some_iff.1 hat2).1
       by_cases hjn:j<N
       ·have ej:=HBK.out j hjn
        have hir:=own2.ir
        have hlen:out'.length≤46:=by
         rw[hout',List.length_append,List.length_take]
         have:=HG.out.len
         have:=(show(exB ((S:Int),(N:Int))).length=N from hN)
         omega
        have HIR:=zq hir
        have OWN2:=zq own2
        have HNEW:=zq hnew
        have HB2:=zq hb2
        have HA2:=zq hat2
        have HOUT:=zq hout'
        clear hir own2 hnew hb2 hat2 hout'
        go_wp2_with fail
        go_loop [66,9] (fun i _=>∃ (m:Nat),m≤out'.length∧i=.int .i64 (m:Int)∧∀ m',m'<m→out'[m']?≠some (S+j)) (fun i _=>out'.length-(RowKit.intOf i).toNat)
        case atStart=>exact⟨0,by omega,rfl,fun m' h=>absurd h (by omega)⟩
        case round =>
         obtain⟨m,hm,rfl,hne⟩:=hrel
         have HNE:=zq hne
         clear hne
         by_cases hmo:m<out'.length
         ·obtain⟨g,hR2,hgl,hc⟩:=HIR.out.at_ hmo
          subst hR2
          by_cases hy:out'[m]=S+j
          ·have hno:ok l=false:=by
            rw[hst]
            have hmem:S+j∈out':=hy ▸ List.getElem_mem hmo
            rw[HOUT.out] at hmem
            have h3:¬ ∀ b∈exB ((S:Int),(N:Int)),b ∉ out:=fun h=>by
             rcases List.mem_append.1 hmem with h4 | h4
             ·exact h (S+j) (by rw[zpm];show S≤S+j∧S+j<S+N;omega) h4
             ·exact ztz (x:=((S:Int),(N:Int))) h4
            rw[decide_eq_false h3]
            simp
           have HF:=zq (BlocksOut.no hno HB2.out)
           rw[hy] at hc
           clear hst hno hy
           go_wp2_with fail
           go_ret2
           exact HF.out
          ·have hy':((out'[m]:Nat):Int)≠((S+j:Nat):Int):=by omega
           have HY:=zq hy
           have HYM:Hid (out'[m]?=some out'[m]):=List.getElem?_eq_getElem hmo
           generalize out'[m]=y at *
           clear hy
           go_wp2_with fail
           go_round
           case rel=>exact⟨m+1,by omega,by go_num,fun m' hm'=>by
            by_cases e:m'=m
            ·subst e
             rw[HYM.out]
             intro e2
             injection e2 with e2
             exact HY.out e2
            ·exact HNE.out m' (by omega)⟩
           case measure=>simp[RowKit.intOf];omega
         ·obtain rfl:m=out'.length:=by omega
          have hnin:S+j ∉ out':=fun h=>by
           obtain⟨i,hi,e⟩:=List.getElem_of_mem h
           exact HNE.out i hi (by rw[List.getElem?_eq_getElem hi,e])
          have ownA:OwnI (wr.alloc (.cells #[.int .i64 ((S+j:Nat):Int)] 3)) w.heap.size R2 cap2 out':=OWN2.out.alloc _
          have belA:Below w.heap.size w (wr.alloc (.cells #[.int .i64 ((S+j:Nat):Int)] 3)):=HB2.out.alloc HB2.out.size _
          have hatA:(wr.alloc (.cells #[.int .i64 ((S+j:Nat):Int)] 3)).heap[g0]?=some (.cells #[.int .i64 (S:Int),.int .i64 (N:Int)] 152 (0,0)):=(Below.heap_alloc _ _ _ hs2).trans HA2.out
          obtain⟨R',cap',w2,hap,own3,b3,o3⟩:=zzm ownA belA.size (by omega) (S+j) wr.heap.size (by rw[cell_of_row _ _ _ _ _ _ (heap_alloc_new wr _)];rfl)
          have hat3:=(o3 g0 (by simp;omega) (zuf ownA hatA)).trans hatA
          have hts:=zlo (x:=((S:Int),(N:Int))) (j:=j) (by rw[hN];exact hjn)
          have hnew3:∀ b∈(exB ((S:Int),(N:Int))).take (j+1),b ∉ out:=fun b hb=>by
           rw[hts] at hb
           rcases List.mem_append.1 hb with h4 | h4
           ·exact HNEW.out b h4
           ·simp only[List.mem_singleton] at h4
            rw[h4]
            exact fun h5=>hnin (by rw[HOUT.out];exact List.mem_append.2 (.inl h5))
          have hout3:out'++[S+j]=out++(exB ((S:Int),(N:Int))).take (j+1):=by
           rw[hts,HOUT.out,List.append_assoc]
           rfl
          have HL:Hid ((out'++[S+j]).length=out'.length+1):=by show _=_;simp
          have HAP:=zq hap
          have OWN3:=zq own3
          have BEL:=zq (belA.trans b3)
          have HAT3:=zq hat3
          have HNEW3:=zq hnew3
          have HOUT3:=zq hout3
          clear hnin ownA belA hatA hap own3 b3 o3 hat3 hts hnew3 hout3 HNE HIR OWN2 HB2 HNEW HOUT HA2 hst
          generalize out'++[S+j]=out3 at *
          generalize S+j=b at *
          go_wp2_with (first | (at_builtin;refine zak rfl _ _ 40 rfl _ HAP.out ?_) | fail)
          go_roundw
          case rel=>exact⟨j+1,out3,R',cap',by omega,by go_num,by rw[HL.out],HOUT3.out,OWN3.out,HNEW3.out,BEL.out,HAT3.out⟩
          case measure=>simp[RowKit.intOf];omega
       ·obtain rfl:j=N:=by omega
        rw[List.take_of_length_le (by rw[hN];omega)] at hout' hnew
        have hok3:ok l=okL out' (zo0 l (k+1)) (l.drop (k+1)):=by
         rw[hst,decide_eq_true hnew,Bool.true_and,HPS.out,hout']
        have hg3:Good out':=by rw[hout'];exact HG.out.add HI1.out hnew
        have hbl3:out'=zaq (l.take (k+1)):=by rw[hout',HBS.out,HO.out]
        have hins3:∀ m,m<k+1→∀ y,l[m]?=some y→ins y:=fun m hm y hy=>by
         by_cases e:m=k
         ·subst e
          rw[HLK.out] at hy
          injection hy with hy
          subst hy
          exact HI1.out
         ·exact HI.out m (by omega) y hy
        have HOK3:=zq hok3
        have HG3:=zq hg3
        have HBL3:=zq hbl3
        have HINS3:=zq hins3
        have OWN2:=zq own2
        have HB2:=zq hb2
        clear hok3 hg3 hbl3 hins3 own2 hb2 hst hnew hout' hat2 HPS HBS HO HG HI
        go_wp2_with fail
        go_roundw
        case rel=>exact⟨k+1,out',R2,cap2,by omega,by go_num,rfl,OWN2.out,HOK3.out,HG3.out,HBL3.out,HINS3.out,HB2.out⟩
        case measure=>simp[RowKit.intOf];omega
     ·obtain⟨s',n',i1,i2,e3,p0,p1⟩:=HPR.out hk0
      have k1:decide (0<k)=true:=by simp;omega
      have k2:(k:Int)-1=((k-1:Nat):Int):=by omega
      have k3:k-1<l.length:=by omega
      generalize k-1=m at *
      have kw:IntKind.i64.wrap (m:Int)=(m:Int):=by rw[IntKind.wrap_i64];omega
      have k6:IntKind.i64.wrap (s'+n')=en:=by rw[e3,IntKind.wrap_i64];omega
      clear hk0 e3
      go_wp2_with fail
      rw[← HW1]
      clear HW1
      go_quiet (fail)
      go_wp2_with fail
      generalize wr.heap.size=g0 at *
      go_loopw [7,4,9] (fun i s _ W=>∃ (j:Nat) (out':List Nat) (R:Option Addr) (cap:Nat),j≤N∧i=.int .i64 (j:Int)∧s=.slice R out'.length cap∧out'=out++(exB ((S:Int),(N:Int))).take j∧OwnI W w.heap.size R cap out'∧(∀ b∈(exB ((S:Int),(N:Int))).take j,b ∉ out)∧Below w.heap.size w W∧W.heap[g0]?=some (.cells #[.int .i64 (S:Int),.int .i64 (N:Int)] 152 (0,0))) (fun i _ _ _=>N-(RowKit.intOf i).toNat)
      case atStart=>exact⟨0,out,R,cap,by omega,rfl,rfl,by simp,OWN.out,fun b hb=>by simp at hb,below_drewN HB.out _,HA.out⟩
      case round =>
       clear HA HB OWN c0 c1 HPR k1 k2 k3 kw k6 p0 p1 i1 i2
       obtain⟨j,out',R2,cap2,hj,rfl,rfl,hout',own2,hnew,hb2,hat2⟩:=hrel
       have c2:wr.cell? ⟨g0,0,none⟩=some (.int .i64 (S:Int)):=by rw[cell_of_row _ _ _ _ _ _ hat2];rfl
       have c3:wr.cell? ⟨g0,1,none⟩=some (.int .i64 (N:Int)):=by rw[cell_of_row _ _ _ _ _ _ hat2];rfl
       have hs2:g0<wr.heap.size:=(Array.getElem?_eq_some_iff.1 hat2).1
       by_cases hjn:j<N
       ·have ej:=HBK.out j hjn
        have hir:=own2.ir
        have hlen:out'.length≤46:=by
         rw[hout',List.length_append,List.length_take]
         have:=HG.out.len
         have:=(show(exB ((S:Int),(N:Int))).length=N from hN)
         omega
        have HIR:=zq hir
        have OWN2:=zq own2
        have HNEW:=zq hnew
        have HB2:=zq hb2
        have HA2:=zq hat2
        have HOUT:=zq hout'
        clear hir own2 hnew hb2 hat2 hout'
        go_wp2_with fail
        go_loop [66,9] (fun i _=>∃ (m:Nat),m≤out'.length∧i=.int .i64 (m:Int)∧∀ m',m'<m→out'[m']?≠some (S+j)) (fun i _=>out'.length-(RowKit.intOf i).toNat)
        case atStart=>exact⟨0,by omega,rfl,fun m' h=>absurd h (by omega)⟩
        case round =>
         obtain⟨m,hm,rfl,hne⟩:=hrel
         have HNE:=zq hne
         clear hne
         by_cases hmo:m<out'.length
         ·obtain⟨g,hR2,hgl,hc⟩:=HIR.out.at_ hmo
          subst hR2
          by_cases hy:out'[m]=S+j
          ·have hno:ok l=false:=by
            rw[hst]
            have hmem:S+j∈out':=hy ▸ List.getElem_mem hmo
            rw[HOUT.out] at hmem
            have h3:¬ ∀ b∈exB ((S:Int),(N:Int)),b ∉ out:=fun h=>by
             rcases List.mem_append.1 hmem with h4 | h4
             ·exact h (S+j) (by rw[zpm];show S≤S+j∧S+j<S+N;omega) h4
             ·exact ztz (x:=((S:Int),(N:Int))) h4
            rw[decide_eq_false h3]
            simp
           have HF:=zq (BlocksOut.no hno HB2.out)
           rw[hy] at hc
           clear hst hno hy
           go_wp2_with fail
           go_ret2
           exact HF.out
          ·have hy':((out'[m]:Nat):Int)≠((S+j:Nat):Int):=by omega
           have HY:=zq hy
           have HYM:Hid (out'[m]?=some out'[m]):=List.getElem?_eq_getElem hmo
           generalize out'[m]=y at *
           clear hy
           go_wp2_with fail
           go_round
           case rel=>exact⟨m+1,by omega,by go_num,fun m' hm'=>by
            by_cases e:m'=m
            ·subst e
             rw[HYM.out]
             intro e2
             injection e2 with e2
             exact HY.out e2
            ·exact HNE.out m' (by omega)⟩
           case measure=>simp[RowKit.intOf];omega
         ·obtain rfl:m=out'.length:=by omega
          have hnin:S+j ∉ out':=fun h=>by
           obtain⟨i,hi,e⟩:=List.getElem_of_mem h
           exact HNE.out i hi (by rw[List.getElem?_eq_getElem hi,e])
          have ownA:OwnI (wr.alloc (.cells #[.int .i64 ((S+j:Nat):Int)] 3)) w.heap.size R2 cap2 out':=OWN2.out.alloc _
          have belA:Below w.heap.size w (wr.alloc (.cells #[.int .i64 ((S+j:Nat):Int)] 3)):=HB2.out.alloc HB2.out.size _
          have hatA:(wr.alloc (.cells #[.int .i64 ((S+j:Nat):Int)] 3)).heap[g0]?=some (.cells #[.int .i64 (S:Int),.int .i64 (N:Int)] 152 (0,0)):=(Below.heap_alloc _ _ _ hs2).trans HA2.out
          obtain⟨R',cap',w2,hap,own3,b3,o3⟩:=zzm ownA belA.size (by omega) (S+j) wr.heap.size (by rw[cell_of_row _ _ _ _ _ _ (heap_alloc_new wr _)];rfl)
          have hat3:=(o3 g0 (by simp;omega) (zuf ownA hatA)).trans hatA
          have hts:=zlo (x:=((S:Int),(N:Int))) (j:=j) (by rw[hN];exact hjn)
          have hnew3:∀ b∈(exB ((S:Int),(N:Int))).take (j+1),b ∉ out:=fun b hb=>by
           rw[hts] at hb
           rcases List.mem_append.1 hb with h4 | h4
           ·exact HNEW.out b h4
           ·simp only[List.mem_singleton] at h4
            rw[h4]
            exact fun h5=>hnin (by rw[HOUT.out];exact List.mem_append.2 (.inl h5))
          have hout3:out'++[S+j]=out++(exB ((S:Int),(N:Int))).take (j+1):=by
           rw[hts,HOUT.out,List.append_assoc]
           rfl
          have HL:Hid ((out'++[S+j]).length=out'.length+1):=by show _=_;simp
          have HAP:=zq hap
          have OWN3:=zq own3
          have BEL:=zq (belA.trans b3)
          have HAT3:=zq hat3
          have HNEW3:=zq hnew3
          have HOUT3:=zq hout3
          clear hnin ownA belA hatA hap own3 b3 o3 hat3 hts hnew3 hout3 HNE HIR OWN2 HB2 HNEW HOUT HA2 hst
          generalize out'++[S+j]=out3 at *
          generalize S+j=b at *
          go_wp2_with (first | (at_builtin;refine zak rfl _ _ 40 rfl _ HAP.out ?_) | fail)
          go_roundw
          case rel=>exact⟨j+1,out3,R',cap',by omega,by go_num,by rw[HL.out],HOUT3.out,OWN3.out,HNEW3.out,BEL.out,HAT3.out⟩
          case measure=>simp[RowKit.intOf];omega
       ·obtain rfl:j=N:=by omega
        rw[List.take_of_length_le (by rw[hN];omega)] at hout' hnew
        have hok3:ok l=okL out' (zo0 l (k+1)) (l.drop (k+1)):=by
         rw[hst,decide_eq_true hnew,Bool.true_and,HPS.out,hout']
        have hg3:Good out':=by rw[hout'];exact HG.out.add HI1.out hnew
        have hbl3:out'=zaq (l.take (k+1)):=by rw[hout',HBS.out,HO.out]
        have hins3:∀ m,m<k+1→∀ y,l[m]?=some y→ins y:=fun m hm y hy=>by
         by_cases e:m=k
         ·subst e
          rw[HLK.out] at hy
          injection hy with hy
          subst hy
          exact HI1.out
         ·exact HI.out m (by omega) y hy
        have HOK3:=zq hok3
        have HG3:=zq hg3
        have HBL3:=zq hbl3
        have HINS3:=zq hins3
        have OWN2:=zq own2
        have HB2:=zq hb2
        clear hok3 hg3 hbl3 hins3 own2 hb2 hst hnew hout' hat2 HPS HBS HO HG HI
        go_wp2_with fail
        go_roundw
        case rel=>exact⟨k+1,out',R2,cap2,by omega,by go_num,rfl,OWN2.out,HOK3.out,HG3.out,HBL3.out,HINS3.out,HB2.out⟩
        case measure=>simp[RowKit.intOf];omega
   ·have hno:ok l=false:=by rw[hst];simp[h1]
    have HF:=zq (BlocksOut.no hno HB.out)
    rw[HW1] at HF
    clear hst hno HPR HA c0 c1 HB OWN hs1 HPS HBS HO HI HG
    unfold ins at h1
    simp only at h1
    clear HW1
    by_cases a1:s<9
    ·go_wp2_with fail
     go_ret2
     exact HF.out
    by_cases a2:32≤s
    ·go_wp2_with fail
     go_ret2
     exact HF.out
    by_cases a3:n<1
    ·clear h1
     go_wp2_with fail
     go_ret2
     exact HF.out
    have a4:32-s<n:=by omega
    have ew:IntKind.i64.wrap (32-s)=32-s:=by rw[IntKind.wrap_i64];omega
    clear h1
    go_wp2_with fail
    go_ret2
    exact HF.out
  ·obtain rfl:k=l.length:=by omega
   have hy:ok l=true:=by rw[hok,List.drop_length,okL]
   rw[List.take_length] at hout
   subst hout
   have HY:=zq hy
   have OWN:=zq own
   clear hok hy hg h hins own
   go_wp2_with fail
   go_ret2
   exact⟨R,cap,by rw[zar HY.out,HY.out];rfl,by rw[zar HY.out];exact OWN.out,hb⟩
end Ex
end Go.Proofs.YtdopfpcjpjlkmaaGreatDoor
