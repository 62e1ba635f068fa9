/- merged -/
import Derived.Test.YtdopfpcjpjlkmaaGreatDoorSameB
import Derived.Test.YtdopfpcjpjlkmaaGreatDoorGSnG
import Derived.ChangeArms
import Derived.ChangeMaps5
import Derived.Test.YtdopfpcjpjlkmaaGreatDoorGFg
set_option linter.unusedSimpArgs false
set_option linter.unusedVariables false
namespace Go.Proofs.YtdopfpcjpjlkmaaGreatDoor
namespace Ino
open Go.RowKit Ex
end Ino
namespace Ino
open Go.ChangeShapes Go.WideShapes Go.ChangeAt Go.RowKit Ex
structure InIn (W:World) (x:IN) (A:Option Addr):Prop where
 xr:XR W W.heap.size A x.ext
 el:x.ext.length≤9223372036854775807
 nl:x.name.length≤9223372036854775807
 sz:-9223372036854775808≤x.size∧x.size≤9223372036854775807
theorem InIn.below {w w':World} {x:IN} {A:Option Addr} (h:InIn w x A)(hb:Below w.heap.size w w'):InIn w' x A:=⟨(h.xr.below hb).more hb.size,h.el,h.nl,h.sz⟩
theorem InIn.ok {w:World} {x:IN} {A:Option Addr} (h:InIn w x A)(h1:x.ext.length≤100)(h2:x.name.length≤1000):InOk w x A:=⟨h.xr,h1,by omega,h.sz⟩
theorem text_of (s:ByteArray):∃ xs:List UInt8,s=⟨xs.toArray⟩∧xs.length=s.size:=⟨s.data.toList,by simp,by show s.data.toList.length=s.data.size;simp⟩
variable {H:Type} {enc:TypeId × Value→H} {W:World}
end Ino
namespace Fs
open Go.ChangeShapes Go.WideShapes Go.ChangeAt Go.RowKit Ex Ino Mm
structure FAct where
 do_:Int
 s1:List UInt8
 s2:List UInt8
 i3:Int
 i4:Int
 i5:Int
 A:Option Addr
 xs:List UInt8
 c:Nat
def yh7 (x:FAct):List Value:=[.int .i64 x.do_,St x.s1,St x.s2,.int .i64 x.i3,.int .i64 x.i4,.int .i64 x.i5,.slice x.A x.xs.length x.c]
structure FAct.Ok (W:World) (x:FAct):Prop where
 do__w:-9223372036854775808≤x.do_∧x.do_≤9223372036854775807
 s1_w:x.s1.length≤9223372036854775807
 s2_w:x.s2.length≤9223372036854775807
 i3_w:-9223372036854775808≤x.i3∧x.i3≤9223372036854775807
 i4_w:-9223372036854775808≤x.i4∧x.i4≤9223372036854775807
 i5_w:-9223372036854775808≤x.i5∧x.i5≤9223372036854775807
 br:BR W W.heap.size x.A x.xs
 cap:x.xs.length≤x.c
variable {H:Type} {enc:TypeId × Value→H} {W:World}
def FActR (w:World) (B:Nat) (A:Option Addr) (l:List FAct):Prop:=
 l≠[]→∃ ad,A=some ad∧ad.block<B∧∀ k a,l[k]?=some a→∀ j v,(yh7 a)[j]?=some v→w.cell? ((ad.add (k*7)).add j)=some v
theorem FActR.below {w w':World} {B:Nat} {A:Option Addr} {l:List FAct} (h:FActR w B A l)(hb:Below B w w'):FActR w' B A l:=by
 intro hn
 obtain⟨ad,e,hlt,hc⟩:=h hn
 exact⟨ad,e,hlt,fun k a ha j v hv=>(hb.cell (by rw[zan,zan];exact hlt)).trans (hc k a ha j v hv)⟩
theorem FActR.nil {w:World} {B:Nat} {A:Option Addr}:FActR w B A []:=fun h=>absurd rfl h
theorem FActR.at_ {w:World} {B:Nat} {A:Option Addr} {l:List FAct} (h:FActR w B A l){k:Nat} (hk:k<l.length):
  ∃ ad,A=some ad∧ad.block<B∧w.cell? (ad.add (k*7))=some (.int .i64 l[k].do_)∧w.cell? ⟨(ad.add (k*7)).block,(ad.add (k*7)).off+1,none⟩=some (St l[k].s1)∧w.cell? ⟨(ad.add (k*7)).block,(ad.add (k*7)).off+2,none⟩=some (St l[k].s2)∧w.cell? ⟨(ad.add (k*7)).block,(ad.add (k*7)).off+3,none⟩=some (.int .i64 l[k].i3)∧w.cell? ⟨(ad.add (k*7)).block,(ad.add (k*7)).off+4,none⟩=some (.int .i64 l[k].i4)∧w.cell? ⟨(ad.add (k*7)).block,(ad.add (k*7)).off+5,none⟩=some (.int .i64 l[k].i5)∧w.cell? ⟨(ad.add (k*7)).block,(ad.add (k*7)).off+6,none⟩=some (.slice l[k].A l[k].xs.length l[k].c):=by
 obtain⟨ad,e,hb,hc⟩:=h (by intro e;subst e;simp at hk)
 have H:=hc k l[k] (List.getElem?_eq_getElem hk)
 exact⟨ad,e,hb,H 0 _ rfl,H 1 _ rfl,H 2 _ rfl,H 3 _ rfl,H 4 _ rfl,H 5 _ rfl,H 6 _ rfl⟩
end Fs
end Go.Proofs.YtdopfpcjpjlkmaaGreatDoor
