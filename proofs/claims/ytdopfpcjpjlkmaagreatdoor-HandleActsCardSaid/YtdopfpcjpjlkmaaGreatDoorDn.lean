/-
  Dn
-/
import Derived.Test.YtdopfpcjpjlkmaaGreatDoorGFj
set_option maxHeartbeats 400000
set_option linter.unusedSimpArgs false
set_option linter.unusedVariables false
namespace Go.Proofs.YtdopfpcjpjlkmaaGreatDoor.Hd
open Go.RowKit Go.Maps Mm
variable {w:World} {mi q b c d e:Nat} {M G:List UInt8}
structure Dn (w:World) (mi q b d e:Nat) (G B':List UInt8) (w':World):Prop where
 ref:∃ b' c',(b'=b∨w.heap.size≤b')∧RefH w' mi q b' c' d e B' G
 kp:Keeps (fun k=>k=q∨k=b) w w'
def zm9 (w:World) (mi q b d e:Nat) (G M':List UInt8) (v:Value) (en:Ending) (w':World):Prop:=en=.returned v∧Dn w mi q b d e G M' w'
theorem Dn.quiet (h:RefH w mi q b c d e M G){w':World} (k:Keeps (fun _=>False) w w'):Dn w mi q b d e G M w':=⟨⟨b,c,.inl rfl,h.keep k fun _ _ _ f=>f⟩,k.mono fun _ _ f=>f.elim⟩
theorem Dn.of {w':World} {B':List UInt8} (h:RefH w' mi q b c d e B' G)(k:Keeps (fun k=>k=b) w w'):Dn w mi q b d e G B' w':=⟨⟨b,c,.inl rfl,h⟩,k.mono fun _ _ e=>.inr e⟩
structure Th (w:World) (q b b1:Nat) (w1:World):Prop where
 new:b1=b∨w.heap.size≤b1
 kp:Keeps (fun k=>k=q∨k=b) w w1
theorem Th.refl (w:World)(q b:Nat):Th w q b b w:=⟨.inl rfl,Keeps.refl _ _⟩
theorem Th.same {b1:Nat} {w1 w2:World} (t:Th w q b b1 w1)(k:Keeps (fun k=>k=b1) w1 w2):Th w q b b1 w2:=⟨t.new,Keeps.thru t.kp k (fun _ _ x=>x) fun i hi x=>by
 rcases t.new with h | h
 ·exact .inr (by rw[x,h])
 ·omega⟩
theorem Th.quiet {b1:Nat} {w1 w2:World} (t:Th w q b b1 w1)(k:Keeps (fun _=>False) w1 w2):Th w q b b1 w2:=t.same (k.mono fun _ _ f=>f.elim)
theorem Th.step {b1:Nat} {w1 w2:World} {B2:List UInt8} (t:Th w q b b1 w1)(dn:Dn w1 mi q b1 d e G B2 w2):∃ b2 c2,Th w q b b2 w2∧RefH w2 mi q b2 c2 d e B2 G:=by
 obtain⟨⟨b2,c2,hb2,r2⟩,k2⟩:=dn
 have hs:=t.kp.size
 have hn:=t.new
 refine⟨b2,c2,⟨by omega,Keeps.thru t.kp k2 (fun _ _ x=>x) fun i hi x=>?_⟩,r2⟩
 rcases x with x | x
 ·exact .inl x
 ·rcases hn with h | h
  ·exact .inr (by rw[x,h])
  ·omega
theorem Th.dn {b1 c1:Nat} {w1:World} {B:List UInt8} (t:Th w q b b1 w1)(r:RefH w1 mi q b1 c1 d e B G):Dn w mi q b d e G B w1:=⟨⟨b1,c1,t.new,r⟩,t.kp⟩
theorem Dn.next {w1 w2:World} {b1:Nat} {B2:List UInt8} (h:Th w q b b1 w1)(h2:Dn w1 mi q b1 d e G B2 w2):Dn w mi q b d e G B2 w2:=by
 obtain⟨b2,c2,t,r⟩:=h.step h2
 exact t.dn r
set_option maxRecDepth 100000 in
theorem zgd (h:RefH w mi q b c d e M G)(a n:Int)(ha:-9223372036854775808≤a)(ha':a≤9223372036854775807):
  Calls Tryz.prog 75 #[.pointer (some ⟨q,0,none⟩),.int .i64 a,.int .i64 n] w (zm9 w mi q b d e G (zgs M a n) (.tuple #[])):=by
 have hmi:mi≤w.heap.size:=by have:=h.q0;have:=h.lt;omega
 obtain⟨c0,c1,f0⟩:=h.cs
 have bl:=h.bl
 have hlt:=h.lt
 have C:=zm6 (some ⟨b,0,none⟩) M c a n w h.br (by omega) ha ha'
 rw[bl] at C
 have CC:=zq C
 clear C
 go_enter Tryz.func75,Tryz.ntmps75
 go_wp2_with fail
 refine CC.out.mono ?_
 rintro e1 w2 ⟨R,c2,rfl,ho,hb⟩
 have hl:(zfk M a (IntKind.u64.wrap n).toNat 8).length=8192:=by rw[zb1,bl]
 have k2:Keeps (fun _=>False) w w2:=Keeps.below hb _ fun k h1 h2=>by omega
 have h2:=h.keep k2 (fun _ _ _ h=>h)
 obtain⟨g,rfl,g1,g2,_,_⟩:=ho.at_ (k:=0) (by omega)
 obtain⟨d0,d1,f2⟩:=h2.cs
 have fin:Dn w mi q b d e G (zgs M a n) (w2.setCell ⟨q,0,none⟩ (.slice (some ⟨g,0,none⟩) 8192 c2)):=by
  have ks:Keeps (fun i=>i=q) w2 (w2.setCell ⟨q,0,none⟩ (.slice (some ⟨g,0,none⟩) 8192 c2)):=Keeps.setCell _ _ _ _ rfl
  refine⟨⟨g,c2,.inr g1,⟨h.q0,hl,h.gl,?_,(ho.low hmi).keeps' ks (by omega),h2.was.keeps' ks h.dq,by omega,h.dq,by omega⟩⟩,Keeps.thru k2 ks (fun _ _ h=>h.elim) fun i _ hi=>Or.inl hi⟩
  rw[heap_setCell_same w2 q 0 _ _ _ h2.head]
  rfl
 have FIN:=zq fin
 rw[hl]
 clear fin ho hb k2 h2 h CC hl g1 g2 c0 c1 f0 d1
 go_wp2_with fail
 all_goals
  go_end0
  exact⟨rfl,FIN.out⟩
end Go.Proofs.YtdopfpcjpjlkmaaGreatDoor.Hd
