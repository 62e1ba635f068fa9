/-
  HaPl
-/
import Derived.Test.YtdopfpcjpjlkmaaGreatDoorGHh
import Derived.Test.YtdopfpcjpjlkmaaGreatDoorGHi
set_option maxHeartbeats 800000
set_option maxRecDepth 100000
set_option linter.unusedSimpArgs false
set_option linter.unusedVariables false
namespace Go.Proofs.YtdopfpcjpjlkmaaGreatDoor.Hd
open Go.RowKit Ex Ino Mm Fs Fr
theorem HActR.more {w:World} {B B':Nat} {A:Option Addr} {l:List HAct} (h:HActR w B A l)(hB:B≤B'):HActR w B' A l:=fun hn=>by
 obtain⟨ad,e,hlt,hc⟩:=h hn
 exact⟨ad,e,Nat.lt_of_lt_of_le hlt hB,hc⟩
theorem znb {lo:Nat} {w W:World} {p gb mb mi q d e:Nat} {G Gd M R:List UInt8} (h:TwoH lo w p gb mb mi q d e G Gd M R W)(hlo:w.heap.size≤lo):Below w.heap.size w W:=by
 obtain⟨b,c,h⟩:=h
 exact⟨h.kp.os,h.kp.tape,h.kp.output,h.kp.size,fun k hk=>h.kp.block k hk (by omega)⟩
theorem TwoH.new {lo:Nat} {w W W':World} {p gb mb mi q d e:Nat} {G Gd M R:List UInt8} (h:TwoH lo w p gb mb mi q d e G Gd M R W)(k:Keeps (fun _=>False) W W'):TwoH lo w p gb mb mi q d e G Gd M R W':=by
 obtain⟨b,c,h⟩:=h
 exact⟨b,c,h.new k⟩
theorem yem (A0:Option Addr)(n0 c0:Nat)(A:Option Addr)(l:List HAct)(c:Nat)(w:World)(h:HActR w w.heap.size A l)(hl:l.length≤1759218604441):
  Calls Tryz.prog 6 #[.slice A0 n0 c0,.slice A l.length c] w (FewOut w):=by
 go_enter Tryz.func6,Tryz.ntmps6
 go_wp2_with fail
 go_loopw [12,5,7] (fun i s _ wr=>∃ (k:Nat) (n:Int),k≤l.length∧i=.int .i64 k∧s=.int .i64 n∧Below w.heap.size w wr) (fun i _ _ _=>l.length-(RowKit.intOf i).toNat)
 case atStart=>exact⟨0,_,by omega,rfl,rfl,Below.refl _ _⟩
 case round =>
  obtain⟨k,n,hk,rfl,rfl,hb⟩:=hrel
  by_cases hlt:k<l.length
  ·have h1:=h.below hb
   obtain⟨ad,rfl,hlb,d0,d1,d2,d3,d4,d5⟩:=h1.at_ hlt
   generalize l[k]=a at *
   clear h h1
   have hsz:=hb.size
   go_wp2_with fail
   all_goals
    go_roundw
    case rel=>exact⟨k+1,_,by omega,by go_num,rfl,hb.alloc hsz _⟩
    case measure=>simp[RowKit.intOf];omega
  ·go_wp2_with fail
   go_ret
   exact⟨⟨_,rfl⟩,hb⟩
end Go.Proofs.YtdopfpcjpjlkmaaGreatDoor.Hd
