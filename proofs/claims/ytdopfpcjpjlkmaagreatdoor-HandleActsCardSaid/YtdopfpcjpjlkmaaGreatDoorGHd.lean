/- merged -/
import Derived.Test.YtdopfpcjpjlkmaaGreatDoorGHa
import Derived.Test.YtdopfpcjpjlkmaaGreatDoorGHc
import Derived.Test.YtdopfpcjpjlkmaaGreatDoorDn
set_option maxHeartbeats 2000000
set_option linter.unusedSimpArgs false
set_option linter.unusedVariables false
namespace Go.Proofs.YtdopfpcjpjlkmaaGreatDoor
namespace Hd
open Go.RowKit Ex Ino Mm Fs Fr
variable {w:World} {mi q b c d e:Nat} {M G:List UInt8}
theorem zk1 (h:RefH w mi q b c d e M G)(ho:okR (zab M)):Calls Tryz.prog 65 #[.pointer (some ⟨q,0,none⟩)] w (zkw w (.int .i64 0)):=
 (znk h).mono fun _ _ x=>⟨by rcases x.2 with⟨_,he⟩|⟨hn,_⟩;exact he;exact absurd ho hn,x.1⟩
theorem zoz (h:RefH w mi q b c d e M G)(ho:¬okR (zab M)):Calls Tryz.prog 65 #[.pointer (some ⟨q,0,none⟩)] w (zkw w (.int .i64 120)):=
 (znk h).mono fun _ _ x=>⟨by rcases x.2 with⟨hn,_⟩|⟨_,he⟩;exact absurd hn ho;exact he,x.1⟩
theorem zox (h:RefH w mi q b c d e M G)(ho:okR (zab M))(n:Int)(hn:-9223372036854775808≤n∧n≤9223372036854775807)(s E:Int)(hs:szX (za0 (zaa (zab M)) n)=s)(hE:za1 (zaa (zab M)) n=E):
  Calls Tryz.prog 79 #[.pointer (some ⟨q,0,none⟩),.int .i64 n] w (zkw w (.tuple #[.int .i64 s,.int .i64 E])):=
 (zyy h n hn).mono fun _ _ x=>⟨by
  rcases x.2 with⟨_,he⟩|⟨hn,_⟩
  ·rw[he,yf0,hs,hE]
  ·exact absurd ho hn,x.1⟩
theorem zy6 (h:RefH w mi q b c d e M G)(ho:okR (zab M))(name:List UInt8)(hl:name.length≤9223372036854775807):
  Calls Tryz.prog 69 #[.pointer (some ⟨q,0,none⟩),St name] w (zkw w (.tuple #[.int .i64 (zbi (zaa (zab M)) name:Int),.int .i64 (za5 (zaa (zab M)) name)])):=
 (zfa h name hl).mono fun _ _ x=>⟨by rcases x.2 with⟨_,he⟩|⟨hn,_⟩;exact he;exact absurd ho hn,x.1⟩
theorem yg4 (h:RefH w mi q b c d e M G)(ho:¬okR (zab M))(name:List UInt8)(hl:name.length≤9223372036854775807):
  Calls Tryz.prog 69 #[.pointer (some ⟨q,0,none⟩),St name] w (zkw w (.tuple #[.int .i64 0,.int .i64 120])):=
 (zfa h name hl).mono fun _ _ x=>⟨by rcases x.2 with⟨hn,_⟩|⟨_,he⟩;exact absurd hn ho;exact he,x.1⟩
set_option maxRecDepth 100000 in
theorem zfd (n:Nat)(h1:1≤n)(h4:n≤4)(w:World):Calls Tryz.prog 76 #[.int .i64 (n:Int)] w fun en w'=>en=.returned (.int .i64 (hA n))∧w'=w:=by
 have hv:hA n=64+16*((n:Int)-1):=rfl
 have w1:IntKind.i64.wrap ((n:Int)-1)=(n:Int)-1:=by rw[IntKind.wrap_i64];omega
 have w2:IntKind.i64.wrap (16*((n:Int)-1))=16*((n:Int)-1):=by rw[IntKind.wrap_i64];omega
 have w3:IntKind.i64.wrap (64+16*((n:Int)-1))=64+16*((n:Int)-1):=by rw[IntKind.wrap_i64];omega
 have HV:=zq hv
 clear hv
 go_enter Tryz.func76,Tryz.ntmps76
 go_wp2_with fail
 go_ret
 exact⟨by rw[HV.out];rfl,rfl⟩
def isOp (M:List UInt8) (n:Int):Prop:=okR (zab M)∧1≤n∧n≤4∧isO M n.toNat=true
theorem zco {M:List UInt8} {n:Int} (h:isOp M n):∃ k:Nat,n=(k:Int)∧1≤k∧k≤4∧isO M k=true:=⟨n.toNat,by have:=h.2.1;omega,by have:=h.2.1;omega,by have:=h.2.1;have:=h.2.2.1;omega,h.2.2.2⟩
theorem zpg (M:List UInt8)(n:Nat):-9223372036854775808≤hF M n∧hF M n≤9223372036854775807:=by unfold hF cel wrap64;omega
theorem yer (M:List UInt8)(n:Nat):-9223372036854775808≤hP M n∧hP M n≤9223372036854775807:=by unfold hP cel wrap64;omega
theorem yhu (M:List UInt8)(n:Nat)(h:1≤hF M n):hN M n=hF M n-1:=by
 have:=zpg M n
 unfold hN wrap64
 omega
theorem zo9 (M:List UInt8)(n:Nat):isO M n=true↔(1≤hF M n∧hF M n≤8)∧za1 (zaa (zab M)) (hF M n-1)=0:=by
 have hr:=zpg M n
 unfold isO
 rw[decide_eq_true_eq]
 constructor
 ·intro h
  have h2:0≤hN M n∧hN M n<8:=by
   unfold za1 at h
   by_cases hc:hN M n<0∨8≤hN M n
   ·rw[zp hc] at h;cases h
   ·omega
  have h3:hN M n=hF M n-1:=by
   unfold hN wrap64 at h2 ⊢
   omega
  rw[← h3]
  exact⟨by omega,h⟩
 ·rintro⟨h1,h2⟩
  rw[yhu M n h1.1]
  exact h2
set_option maxRecDepth 100000 in
theorem zd0 (h:RefH w mi q b c d e M G)(ho:okR (zab M))(n:Nat)(h1:1≤n)(h4:n≤4)(hO:isO M n=true):
  Calls Tryz.prog 73 #[.pointer (some ⟨q,0,none⟩),.int .i64 (n:Int)] w (zkw w (.tuple #[.int .i64 (hN M n),.int .i64 (hL M n),.bool true])):=by
 obtain⟨hf,hE⟩:=(zo9 M n).1 hO
 have hn:=yhu M n hf.1
 have hw1:IntKind.i64.wrap (hF M n-1)=hN M n:=by rw[IntKind.wrap_i64];omega
 have hF0:cel M (hA n)=hF M n:=rfl
 have hP0:cel M (hA n+8)=hP M n:=rfl
 have HH:=zq h
 have HC:=zq (zk1 h ho)
 have HCL:=zq (fun W=>zfd n h1 h4 W)
 have hai:=zhx h1 h4
 have HG1:=zq (fun (W:World) (k:Keeps (fun _=>False) w W)=>by have:=zsa (h.keep k fun _ _ _ f=>f) (hA n) (by omega) (by omega);rw[hF0] at this;exact this)
 have HG2:=zq (fun (W:World) (k:Keeps (fun _=>False) w W)=>by have:=zsa (h.keep k fun _ _ _ f=>f) (hA n+8) (by omega) (by omega);rw[hP0] at this;exact this)
 have HS:=zq (fun (W:World) (k:Keeps (fun _=>False) w W)=>zox (h.keep k fun _ _ _ f=>f) ho (hN M n) (by omega) (hS M n) 0 rfl (by rw[hn];exact hE))
 have wa:IntKind.i64.wrap (hA n+8)=hA n+8:=by rw[IntKind.wrap_i64];omega
 have hL0:hL M n=if hP M n<0∨hS M n<hP M n then hS M n else hP M n:=rfl
 have n1:decide ((n:Int)<1)=false:=by simp only[decide_eq_false_iff_not];omega
 have n2:decide ((4:Int)<(n:Int))=false:=by simp only[decide_eq_false_iff_not];omega
 have f1:decide (hF M n<1)=false:=by simp only[decide_eq_false_iff_not];omega
 have f2:decide ((8:Int)<hF M n)=false:=by simp only[decide_eq_false_iff_not];omega
 have hsz:0≤hS M n∧hS M n≤1472:=(zcd h.bl ho n hO).2
 have hpr:=yer M n
 clear h ho hO hf hE hn hF0 hP0 hai
 generalize hF M n=F at *
 generalize hN M n=N at *
 generalize hP M n=P at *
 generalize hS M n=S at *
 generalize hL M n=L at *
 generalize hA n=A at *
 have key:(decide (P<0)=true∧L=S)∨(decide (P<0)=false∧decide (S<P)=true∧L=S)∨(decide (P<0)=false∧decide (S<P)=false∧L=P):=by
  simp only[decide_eq_true_eq,decide_eq_false_iff_not]
  rw[hL0]
  by_cases x1:P<0
  ·exact Or.inl ⟨x1,by rw[zp (Or.inl x1)]⟩
  ·by_cases x2:S<P
   ·exact Or.inr (Or.inl ⟨x1,x2,by rw[zp (Or.inr x2)]⟩)
   ·exact Or.inr (Or.inr ⟨x1,x2,by rw[zn (by omega)]⟩)
 clear hL0
 have wS:IntKind.i64.wrap S=S:=by rw[IntKind.wrap_i64];omega
 have wP:IntKind.i64.wrap P=P:=by rw[IntKind.wrap_i64];omega
 clear hsz hpr
 rcases key with⟨p1,rfl⟩|⟨p1,p2,rfl⟩|⟨p1,p2,rfl⟩
 all_goals
  go_enter Tryz.func73,Tryz.ntmps73
  go_wp2_with fail
  refine HC.out.mono ?_
  rintro e1 w1 ⟨rfl,k1⟩
  go_wp2_with fail
  refine(HCL.out _).mono ?_
  rintro e2 w2 ⟨rfl,rfl⟩
  go_wp2_with fail
  refine(HG1.out _ k1).mono ?_
  rintro e3 w3 ⟨rfl,rfl⟩
  go_wp2_with fail
  refine(HS.out _ k1).mono ?_
  rintro e4 w4 ⟨rfl,k4⟩
  have K4:=zq (k1.trans k4)
  clear k1 k4
  go_wp2_with fail
  refine(HCL.out _).mono ?_
  rintro e5 w5 ⟨rfl,rfl⟩
  go_wp2_with fail
  refine(HG2.out _ K4.out).mono ?_
  rintro e6 w6 ⟨rfl,rfl⟩
  go_wp2_with fail
  go_ret3
  exact⟨rfl,K4.out⟩
set_option maxRecDepth 100000 in
theorem zfi (h:RefH w mi q b c d e M G)(n:Int)(hno:¬isOp M n):
  Calls Tryz.prog 73 #[.pointer (some ⟨q,0,none⟩),.int .i64 n] w (zkw w (.tuple #[.int .i64 0,.int .i64 0,.bool false])):=by
 by_cases ho:okR (zab M)
 ·have HC:=zq (zk1 h ho)
  by_cases n1:n<1
  ·have t1:decide (n<1)=true:=decide_eq_true n1
   clear h ho hno n1
   go_enter Tryz.func73,Tryz.ntmps73
   go_wp2_with fail
   refine HC.out.mono ?_
   rintro e1 w1 ⟨rfl,k1⟩
   go_wp2_with fail
   go_ret3
   exact⟨rfl,k1⟩
  by_cases n4:4<n
  ·have t1:decide (n<1)=false:=decide_eq_false n1
   have t4:decide ((4:Int)<n)=true:=decide_eq_true n4
   clear h ho hno n1 n4
   go_enter Tryz.func73,Tryz.ntmps73
   go_wp2_with fail
   refine HC.out.mono ?_
   rintro e1 w1 ⟨rfl,k1⟩
   go_wp2_with fail
   go_ret3
   exact⟨rfl,k1⟩
  obtain⟨k,rfl⟩:∃ k:Nat,n=(k:Int):=⟨n.toNat,by omega⟩
  have hk1:1≤k:=by omega
  have hk4:k≤4:=by omega
  have hO:isO M k=false:=by
   cases ho2:isO M k with
   | false=>rfl
   | true=>exact absurd ⟨ho,by omega,by omega,ho2⟩ hno
  have hai:=zhx hk1 hk4
  have hF0:cel M (hA k)=hF M k:=rfl
  have HCL:=zq (fun W=>zfd k hk1 hk4 W)
  have HG1:=zq (fun (W:World) (k':Keeps (fun _=>False) w W)=>by have:=zsa (h.keep k' fun _ _ _ f=>f) (hA k) (by omega) (by omega);rw[hF0] at this;exact this)
  have t1:decide ((k:Int)<1)=false:=decide_eq_false n1
  have t4:decide ((4:Int)<(k:Int))=false:=decide_eq_false n4
  have hfr:=zpg M k
  by_cases f1:hF M k<1
  ·have g1:decide (hF M k<1)=true:=decide_eq_true f1
   clear h ho hno n1 n4 hO hF0 hai f1 hk1 hk4 hfr
   generalize hF M k=F at *
   generalize hA k=A at *
   go_enter Tryz.func73,Tryz.ntmps73
   go_wp2_with fail
   refine HC.out.mono ?_
   rintro e1 w1 ⟨rfl,k1⟩
   go_wp2_with fail
   refine(HCL.out _).mono ?_
   rintro e2 w2 ⟨rfl,rfl⟩
   go_wp2_with fail
   refine(HG1.out _ k1).mono ?_
   rintro e3 w3 ⟨rfl,rfl⟩
   go_wp2_with fail
   go_ret3
   exact⟨rfl,k1⟩
  by_cases f8:8<hF M k
  ·have g1:decide (hF M k<1)=false:=decide_eq_false f1
   have g8:decide ((8:Int)<hF M k)=true:=decide_eq_true f8
   clear h ho hno n1 n4 hO hF0 hai f1 f8 hk1 hk4 hfr
   generalize hF M k=F at *
   generalize hA k=A at *
   go_enter Tryz.func73,Tryz.ntmps73
   go_wp2_with fail
   refine HC.out.mono ?_
   rintro e1 w1 ⟨rfl,k1⟩
   go_wp2_with fail
   refine(HCL.out _).mono ?_
   rintro e2 w2 ⟨rfl,rfl⟩
   go_wp2_with fail
   refine(HG1.out _ k1).mono ?_
   rintro e3 w3 ⟨rfl,rfl⟩
   go_wp2_with fail
   go_ret3
   exact⟨rfl,k1⟩
  obtain⟨E,hE⟩:∃ E,za1 (zaa (zab M)) (hF M k-1)=E:=⟨_,rfl⟩
  have hE0:E≠0:=fun e0=>by
   have:=(zo9 M k).2 ⟨⟨by omega,by omega⟩,by rw[hE];exact e0⟩
   rw[hO] at this
   cases this
  have hw1:IntKind.i64.wrap (hF M k-1)=hF M k-1:=by rw[IntKind.wrap_i64];omega
  obtain⟨S,hS⟩:∃ S,szX (za0 (zaa (zab M)) (hF M k-1))=S:=⟨_,rfl⟩
  have HS:=zq (fun (W:World) (k':Keeps (fun _=>False) w W)=>zox (h.keep k' fun _ _ _ f=>f) ho (hF M k-1) (by omega) S E hS hE)
  have g1:decide (hF M k<1)=false:=decide_eq_false f1
  have g8:decide ((8:Int)<hF M k)=false:=decide_eq_false f8
  have tE:(E != 0)=true:=by simpa using hE0
  clear h ho hno n1 n4 hO hF0 hai f1 f8 hk1 hk4 hfr hE hE0 hS
  generalize hF M k=F at *
  generalize hA k=A at *
  go_enter Tryz.func73,Tryz.ntmps73
  go_wp2_with fail
  refine HC.out.mono ?_
  rintro e1 w1 ⟨rfl,k1⟩
  go_wp2_with fail
  refine(HCL.out _).mono ?_
  rintro e2 w2 ⟨rfl,rfl⟩
  go_wp2_with fail
  refine(HG1.out _ k1).mono ?_
  rintro e3 w3 ⟨rfl,rfl⟩
  go_wp2_with fail
  refine(HS.out _ k1).mono ?_
  rintro e4 w4 ⟨rfl,k4⟩
  have K4:=zq (k1.trans k4)
  clear k1 k4
  go_wp2_with fail
  go_ret3
  exact⟨rfl,K4.out⟩
 ·have HC:=zq (zoz h ho)
  clear h ho hno
  go_enter Tryz.func73,Tryz.ntmps73
  go_wp2_with fail
  refine HC.out.mono ?_
  rintro e1 w1 ⟨rfl,k1⟩
  go_wp2_with fail
  go_ret3
  exact⟨rfl,k1⟩
set_option maxRecDepth 100000 in
theorem rbad_v (h:RefH w mi q b c d e M G)(ho:okR (zab M)):Calls Tryz.prog 74 #[.pointer (some ⟨q,0,none⟩)] w (zkw w (.int .i64 131)):=by
 have HC:=zq (zk1 h ho)
 clear h ho
 go_enter Tryz.func74,Tryz.ntmps74
 go_wp2_with fail
 refine HC.out.mono ?_
 rintro e1 w1 ⟨rfl,k1⟩
 go_wp2_with fail
 go_ret
 exact⟨rfl,k1⟩
set_option maxRecDepth 100000 in
theorem rbad_b (h:RefH w mi q b c d e M G)(ho:¬okR (zab M)):Calls Tryz.prog 74 #[.pointer (some ⟨q,0,none⟩)] w (zkw w (.int .i64 120)):=by
 have HC:=zq (zoz h ho)
 clear h ho
 go_enter Tryz.func74,Tryz.ntmps74
 go_wp2_with fail
 refine HC.out.mono ?_
 rintro e1 w1 ⟨rfl,k1⟩
 go_wp2_with fail
 go_ret
 exact⟨rfl,k1⟩
noncomputable def noE (M:List UInt8):Int:=by classical exact if okR (zab M) then 131 else 120
theorem zgg (h:RefH w mi q b c d e M G):Calls Tryz.prog 74 #[.pointer (some ⟨q,0,none⟩)] w (zkw w (.int .i64 (noE M))):=by
 unfold noE
 by_cases ho:okR (zab M)
 ·rw[zp ho];exact rbad_v h ho
 ·rw[zn ho];exact rbad_b h ho
end Hd
namespace Hd
open Go.RowKit Go.Maps Ex Ino Mm Fs Fr
variable {w:World} {mi q b c d e:Nat} {M G:List UInt8}
theorem zep (h:RefH w mi q b c d e M G){v:Value} {en:Ending} {w':World} (x:zkw w v en w'):zm9 w mi q b d e G M v en w':=⟨x.1,Dn.quiet h x.2⟩
set_option maxRecDepth 100000 in
theorem zjt (h:RefH w mi q b c d e M G)(k:Nat)(h1:1≤k)(h4:k≤4)(n:Int)(hn:-9223372036854775808≤n∧n<9223372036854775807):
  Calls Tryz.prog 71 #[.pointer (some ⟨q,0,none⟩),.int .i64 (k:Int),.int .i64 n] w (zm9 w mi q b d e G (zdb M k (n+1) 0) (.int .i64 (k:Int))):=by
 have HCL:=zq (fun W=>zfd k h1 h4 W)
 have hai:=zhx h1 h4
 have HS1:=zq (zgd h (hA k) (n+1) (by omega) (by omega))
 have HS2:=zq (fun (W:World) (b' c':Nat) (h':RefH W mi q b' c' d e (zgs M (hA k) (n+1)) G)=>zgd h' (hA k+8) 0 (by omega) (by omega))
 have wn:IntKind.i64.wrap (n+1)=n+1:=by rw[IntKind.wrap_i64];omega
 have wa:IntKind.i64.wrap (hA k+8)=hA k+8:=by rw[IntKind.wrap_i64];omega
 have HV:=zq (show zdb M k (n+1) 0=zgs (zgs M (hA k) (n+1)) (hA k+8) 0 from rfl)
 clear h hai h1 h4 hn
 generalize hA k=A at *
 generalize zdb M k (n+1) 0=L at *
 go_enter Tryz.func71,Tryz.ntmps71
 go_wp2_with fail
 refine(HCL.out _).mono ?_
 rintro e1 w1 ⟨rfl,rfl⟩
 go_wp2_with fail
 refine HS1.out.mono ?_
 rintro e2 w2 ⟨rfl,⟨b2,c2,hb2,r2⟩,k2⟩
 have D2:=zq (Th.mk hb2 k2)
 have HS3:=zq (HS2.out _ _ _ r2)
 clear k2 r2 hb2 HS1 HS2
 go_wp2_with fail
 refine(HCL.out _).mono ?_
 rintro e3 w3 ⟨rfl,rfl⟩
 go_wp2_with fail
 refine HS3.out.mono ?_
 rintro e4 w4 ⟨rfl,d4⟩
 have D4:=zq (Dn.next D2.out d4)
 clear d4 D2 HS3
 go_wp2_with fail
 go_ret
 exact⟨rfl,by rw[HV.out];exact D4.out⟩
set_option maxRecDepth 100000 in
theorem zzi (h:RefH w mi q b c d e M G)(n:Int)(hno:¬isOp M n):Calls Tryz.prog 29 #[.pointer (some ⟨q,0,none⟩),.int .i64 n] w (zkw w (.int .i64 (noE M))):=by
 have HO:=zq (zfi h n hno)
 have H:=zq h
 have HB:=zq (fun (W:World) (h':RefH W mi q b c d e M G)=>zgg h')
 clear h hno
 generalize noE M=E at *
 go_enter Tryz.func29,Tryz.ntmps29
 go_wp2_with fail
 refine HO.out.mono ?_
 rintro e0 w0 ⟨rfl,k0⟩
 have HB1:=zq (HB.out _ (H.out.keep k0 (fun _ _ _ f=>f)))
 have K0:=zq k0
 clear k0 HO H HB
 go_wp2_with fail
 refine HB1.out.mono ?_
 rintro e1 w1 ⟨rfl,k1⟩
 have K1:=zq (K0.out.trans k1)
 clear k1 K0 HB1
 go_wp2_with fail
 go_ret
 exact⟨rfl,K1.out⟩
set_option maxRecDepth 100000 in
theorem znj (h:RefH w mi q b c d e M G)(ho:okR (zab M))(k:Nat)(h1:1≤k)(h4:k≤4)(hO:isO M k=true):
  Calls Tryz.prog 29 #[.pointer (some ⟨q,0,none⟩),.int .i64 (k:Int)] w (zm9 w mi q b d e G (zdb M k 0 0) (.int .i64 0)):=by
 have HO:=zq (zd0 h ho k h1 h4 hO)
 have HCL:=zq (fun W=>zfd k h1 h4 W)
 have hai:=zhx h1 h4
 have H:=zq h
 have HS1:=zq (fun (W:World) (h':RefH W mi q b c d e M G)=>zgd h' (hA k) 0 (by omega) (by omega))
 have HS2:=zq (fun (W:World) (b' c':Nat) (h':RefH W mi q b' c' d e (zgs M (hA k) 0) G)=>zgd h' (hA k+8) 0 (by omega) (by omega))
 have wa:IntKind.i64.wrap (hA k+8)=hA k+8:=by rw[IntKind.wrap_i64];omega
 have HV:=zq (show zdb M k 0 0=zgs (zgs M (hA k) 0) (hA k+8) 0 from rfl)
 clear h hai h1 h4 ho hO
 generalize hA k=A at *
 generalize zdb M k 0 0=L at *
 generalize hN M k=N at *
 generalize hL M k=P at *
 go_enter Tryz.func29,Tryz.ntmps29
 go_wp2_with fail
 refine HO.out.mono ?_
 rintro e0 w0 ⟨rfl,k0⟩
 have r0:=H.out.keep k0 (fun _ _ _ f=>f)
 have D0:=zq ((Th.refl w q b).quiet k0)
 have HS1':=zq (HS1.out _ r0)
 clear k0 r0 HO H HS1
 go_wp2_with fail
 refine(HCL.out _).mono ?_
 rintro e1 w1 ⟨rfl,rfl⟩
 go_wp2_with fail
 refine HS1'.out.mono ?_
 rintro e2 w2 ⟨rfl,⟨b2,c2,hb2,r2⟩,k2⟩
 have D2:=zq (Th.mk hb2 k2)
 have HS3:=zq (HS2.out _ _ _ r2)
 clear k2 r2 hb2 HS1' HS2
 go_wp2_with fail
 refine(HCL.out _).mono ?_
 rintro e3 w3 ⟨rfl,rfl⟩
 go_wp2_with fail
 refine HS3.out.mono ?_
 rintro e4 w4 ⟨rfl,d4⟩
 have D4:=zq (Dn.next D0.out (Dn.next D2.out d4))
 clear d4 D2 D0 HS3
 go_wp2_with fail
 go_ret
 exact⟨rfl,by rw[HV.out];exact D4.out⟩
set_option maxRecDepth 100000 in
theorem ydb (h:RefH w mi q b c d e M G)(n:Int)(hno:¬isOp M n):Calls Tryz.prog 32 #[.pointer (some ⟨q,0,none⟩),.int .i64 n] w (zkw w (.tuple #[.int .i64 0,.int .i64 (noE M)])):=by
 have HO:=zq (zfi h n hno)
 have H:=zq h
 have HB:=zq (fun (W:World) (h':RefH W mi q b c d e M G)=>zgg h')
 clear h hno
 generalize noE M=E at *
 go_enter Tryz.func32,Tryz.ntmps32
 go_wp2_with fail
 refine HO.out.mono ?_
 rintro e0 w0 ⟨rfl,k0⟩
 have HB1:=zq (HB.out _ (H.out.keep k0 (fun _ _ _ f=>f)))
 have K0:=zq k0
 clear k0 HO H HB
 go_wp2_with fail
 refine HB1.out.mono ?_
 rintro e1 w1 ⟨rfl,k1⟩
 have K1:=zq (K0.out.trans k1)
 clear k1 K0 HB1
 go_wp2_with fail
 go_ret2
 exact⟨rfl,K1.out⟩
set_option maxRecDepth 100000 in
theorem zy1 (h:RefH w mi q b c d e M G)(n:Int)(hno:¬isOp M n):Calls Tryz.prog 35 #[.pointer (some ⟨q,0,none⟩),.int .i64 n] w (zkw w (.tuple #[.int .i64 0,.int .i64 (noE M)])):=by
 have HO:=zq (zfi h n hno)
 have H:=zq h
 have HB:=zq (fun (W:World) (h':RefH W mi q b c d e M G)=>zgg h')
 clear h hno
 generalize noE M=E at *
 go_enter Tryz.func35,Tryz.ntmps35
 go_wp2_with fail
 refine HO.out.mono ?_
 rintro e0 w0 ⟨rfl,k0⟩
 have HB1:=zq (HB.out _ (H.out.keep k0 (fun _ _ _ f=>f)))
 have K0:=zq k0
 clear k0 HO H HB
 go_wp2_with fail
 refine HB1.out.mono ?_
 rintro e1 w1 ⟨rfl,k1⟩
 have K1:=zq (K0.out.trans k1)
 clear k1 K0 HB1
 go_wp2_with fail
 go_ret2
 exact⟨rfl,K1.out⟩
set_option maxRecDepth 100000 in
theorem zwg (h:RefH w mi q b c d e M G)(n:Int)(s:Int)(hno:¬isOp M n):Calls Tryz.prog 34 #[.pointer (some ⟨q,0,none⟩),.int .i64 n,.int .i64 s] w (zkw w (.int .i64 (noE M))):=by
 have HO:=zq (zfi h n hno)
 have H:=zq h
 have HB:=zq (fun (W:World) (h':RefH W mi q b c d e M G)=>zgg h')
 clear h hno
 generalize noE M=E at *
 go_enter Tryz.func34,Tryz.ntmps34
 go_wp2_with fail
 refine HO.out.mono ?_
 rintro e0 w0 ⟨rfl,k0⟩
 have HB1:=zq (HB.out _ (H.out.keep k0 (fun _ _ _ f=>f)))
 have K0:=zq k0
 clear k0 HO H HB
 go_wp2_with fail
 refine HB1.out.mono ?_
 rintro e1 w1 ⟨rfl,k1⟩
 have K1:=zq (K0.out.trans k1)
 clear k1 K0 HB1
 go_wp2_with fail
 go_ret
 exact⟨rfl,K1.out⟩
set_option maxRecDepth 100000 in
theorem ydc (h:RefH w mi q b c d e M G)(n:Int)(s:Int)(hno:¬isOp M n):Calls Tryz.prog 37 #[.pointer (some ⟨q,0,none⟩),.int .i64 n,.int .i64 s] w (zkw w (.int .i64 (noE M))):=by
 have HO:=zq (zfi h n hno)
 have H:=zq h
 have HB:=zq (fun (W:World) (h':RefH W mi q b c d e M G)=>zgg h')
 clear h hno
 generalize noE M=E at *
 go_enter Tryz.func37,Tryz.ntmps37
 go_wp2_with fail
 refine HO.out.mono ?_
 rintro e0 w0 ⟨rfl,k0⟩
 have HB1:=zq (HB.out _ (H.out.keep k0 (fun _ _ _ f=>f)))
 have K0:=zq k0
 clear k0 HO H HB
 go_wp2_with fail
 refine HB1.out.mono ?_
 rintro e1 w1 ⟨rfl,k1⟩
 have K1:=zq (K0.out.trans k1)
 clear k1 K0 HB1
 go_wp2_with fail
 go_ret
 exact⟨rfl,K1.out⟩
set_option maxRecDepth 100000 in
theorem zwh (h:RefH w mi q b c d e M G)(ho:okR (zab M))(k:Nat)(h1:1≤k)(h4:k≤4)(hO:isO M k=true):
  Calls Tryz.prog 35 #[.pointer (some ⟨q,0,none⟩),.int .i64 (k:Int)] w (zkw w (.tuple #[.int .i64 (hL M k),.int .i64 0])):=by
 have HO:=zq (zd0 h ho k h1 h4 hO)
 clear h h1 h4 ho hO
 generalize hN M k=N at *
 generalize hL M k=P at *
 go_enter Tryz.func35,Tryz.ntmps35
 go_wp2_with fail
 refine HO.out.mono ?_
 rintro e0 w0 ⟨rfl,k0⟩
 go_wp2_with fail
 go_ret2
 exact⟨rfl,k0⟩
set_option maxRecDepth 100000 in
theorem zwk (h:RefH w mi q b c d e M G)(ho:okR (zab M))(k:Nat)(h1:1≤k)(h4:k≤4)(hO:isO M k=true):
  Calls Tryz.prog 32 #[.pointer (some ⟨q,0,none⟩),.int .i64 (k:Int)] w (zkw w (.tuple #[.int .i64 (hS M k),.int .i64 0])):=by
 have HO:=zq (zd0 h ho k h1 h4 hO)
 have hE:za1 (zaa (zab M)) (hN M k)=0:=by unfold isO at hO;exact of_decide_eq_true hO
 have hb:=(zcd h.bl ho k hO).1
 have HS:=zq (fun (W:World) (k':Keeps (fun _=>False) w W)=>zox (h.keep k' fun _ _ _ f=>f) ho (hN M k) (by omega) (hS M k) 0 rfl hE)
 clear h h1 h4 ho hO hE hb
 generalize hN M k=N at *
 generalize hL M k=P at *
 generalize hS M k=S at *
 go_enter Tryz.func32,Tryz.ntmps32
 go_wp2_with fail
 refine HO.out.mono ?_
 rintro e0 w0 ⟨rfl,k0⟩
 go_wp2_with fail
 refine(HS.out _ k0).mono ?_
 rintro e1 w1 ⟨rfl,k1⟩
 have K1:=zq (k0.trans k1)
 clear k0 k1 HS HO
 go_wp2_with fail
 go_ret2
 exact⟨rfl,K1.out⟩
set_option maxRecDepth 100000 in
theorem zqe (h:RefH w mi q b c d e M G)(ho:okR (zab M))(k:Nat)(h1:1≤k)(h4:k≤4)(hO:isO M k=true)(s:Int)(hs:-9223372036854775808≤s∧s≤9223372036854775807):
  Calls Tryz.prog 34 #[.pointer (some ⟨q,0,none⟩),.int .i64 (k:Int),.int .i64 s] w
   (zm9 w mi q b d e G (zbz M (zag (za6 M) (hN M k) s)) (.int .i64 (zag (za6 M) (hN M k) s).1)):=by
 have HO:=zq (zd0 h ho k h1 h4 hO)
 have hb:=(zcd h.bl ho k hO).1
 have H:=zq h
 have HR:=zq (fun (W:World) (h':RefH W mi q b c d e M G)=>zh9 h' ho (hN M k) s (by omega) hs)
 clear h h1 h4 ho hO hb hs
 generalize hN M k=N at *
 generalize hL M k=P at *
 go_enter Tryz.func34,Tryz.ntmps34
 go_wp2_with fail
 refine HO.out.mono ?_
 rintro e0 w0 ⟨rfl,k0⟩
 have HR1:=zq (HR.out _ (H.out.keep k0 (fun _ _ _ f=>f)))
 have D0:=zq ((Th.refl w q b).quiet k0)
 clear k0 HO H HR
 go_wp2_with fail
 refine HR1.out.mono ?_
 rintro e1 w1 ⟨rfl,r1,k1⟩
 have D1:=zq (Dn.next D0.out (Dn.of r1 k1))
 clear r1 k1 D0 HR1
 go_wp2_with fail
 go_ret
 exact⟨rfl,D1.out⟩
set_option maxRecDepth 100000 in
theorem zyz (h:RefH w mi q b c d e M G)(ho:okR (zab M))(k:Nat)(h1:1≤k)(h4:k≤4)(hO:isO M k=true)(s:Int)(hs:-9223372036854775808≤s∧s≤9223372036854775807):
  Calls Tryz.prog 37 #[.pointer (some ⟨q,0,none⟩),.int .i64 (k:Int),.int .i64 s] w
   (zm9 w mi q b d e G (if s<0∨hS M k<s then M else zgs M (hA k+8) s) (.int .i64 (if s<0∨hS M k<s then 1 else 0))):=by
 have HO:=zq (zd0 h ho k h1 h4 hO)
 have hE:za1 (zaa (zab M)) (hN M k)=0:=by unfold isO at hO;exact of_decide_eq_true hO
 have hb:=(zcd h.bl ho k hO).1
 have H:=zq h
 have hai:=zhx h1 h4
 have HCL:=zq (fun W=>zfd k h1 h4 W)
 have HS:=zq (fun (W:World) (k':Keeps (fun _=>False) w W)=>zox (h.keep k' fun _ _ _ f=>f) ho (hN M k) (by omega) (hS M k) 0 rfl hE)
 have HS1:=zq (fun (W:World) (h':RefH W mi q b c d e M G)=>zgd h' (hA k+8) s (by omega) (by omega))
 have wa:IntKind.i64.wrap (hA k+8)=hA k+8:=by rw[IntKind.wrap_i64];omega
 have ws:IntKind.i64.wrap s=s:=by rw[IntKind.wrap_i64];omega
 clear h h1 h4 ho hO hE hb hai hs
 generalize hN M k=N at *
 generalize hL M k=P at *
 generalize hS M k=S at *
 generalize hA k=A at *
 by_cases hx:s<0∨S<s
 ·rw[zp hx,zp hx]
  have key:decide (s<0)=true∨(decide (s<0)=false∧decide (S<s)=true):=by simp only[decide_eq_true_eq,decide_eq_false_iff_not];omega
  clear hx
  rcases key with t1 | ⟨t1,t2⟩
  all_goals
   go_enter Tryz.func37,Tryz.ntmps37
   go_wp2_with fail
   refine HO.out.mono ?_
   rintro e0 w0 ⟨rfl,k0⟩
   go_wp2_with fail
   refine(HS.out _ k0).mono ?_
   rintro e1 w1 ⟨rfl,k1⟩
   have K1:=zq (k0.trans k1)
   clear k0 k1
   go_wp2_with fail
   go_ret
   exact⟨rfl,Dn.quiet H.out K1.out⟩
 ·rw[zn hx,zn hx]
  have t1:decide (s<0)=false:=by simp only[decide_eq_false_iff_not];omega
  have t2:decide (S<s)=false:=by simp only[decide_eq_false_iff_not];omega
  clear hx
  go_enter Tryz.func37,Tryz.ntmps37
  go_wp2_with fail
  refine HO.out.mono ?_
  rintro e0 w0 ⟨rfl,k0⟩
  go_wp2_with fail
  refine(HS.out _ k0).mono ?_
  rintro e1 w1 ⟨rfl,k1⟩
  have hk1:=k0.trans k1
  have HS2:=zq (HS1.out _ (H.out.keep hk1 (fun _ _ _ f=>f)))
  have D1:=zq ((Th.refl w q b).quiet hk1)
  clear k0 k1 hk1 HS HS1 H
  go_wp2_with fail
  refine(HCL.out _).mono ?_
  rintro e2 w2 ⟨rfl,rfl⟩
  go_wp2_with fail
  refine HS2.out.mono ?_
  rintro e3 w3 ⟨rfl,d3⟩
  have D3:=zq (Dn.next D1.out d3)
  clear d3 D1 HS2
  go_wp2_with fail
  go_ret
  exact⟨rfl,D3.out⟩
end Hd
namespace Hd
open Go.RowKit Go.Maps Ex Ino Mm Fs Fr
variable {w:World} {mi q b c d e:Nat} {M G:List UInt8}
noncomputable def opB (M:List UInt8) (k:Nat):Bool:=@decide (isOp M (k:Int)) (Classical.propDecidable _)
theorem zjy (M:List UInt8)(k:Nat):opB M k=true↔isOp M (k:Int):=by unfold opB;exact @decide_eq_true_iff _ (Classical.propDecidable _)
theorem zuh (M:List UInt8)(ho:okR (zab M))(k:Nat)(h1:1≤k)(h4:k≤4):opB M k=isO M k:=by
 rw[Bool.eq_iff_iff,zjy]
 exact⟨fun h=>h.2.2.2,fun h=>⟨ho,by omega,by omega,h⟩⟩
theorem zy2 (h:RefH w mi q b c d e M G)(k:Nat):
  Calls Tryz.prog 73 #[.pointer (some ⟨q,0,none⟩),.int .i64 (k:Int)] w (zkw w (if opB M k=true then .tuple #[.int .i64 (hN M k),.int .i64 (hL M k),.bool true] else .tuple #[.int .i64 0,.int .i64 0,.bool false])):=by
 by_cases hb:opB M k=true
 ·rw[zp hb]
  obtain⟨ho,h1,h4,hO⟩:=(zjy M k).1 hb
  exact zd0 h ho k (by omega) (by omega) hO
 ·rw[zn hb]
  exact zfi h k (fun x=>hb ((zjy M k).2 x))
noncomputable def zdy (M:List UInt8):Nat:=if opB M 1=false then 1 else if opB M 2=false then 2 else if opB M 3=false then 3 else if opB M 4=false then 4 else 0
def UpB (M:List UInt8) (k:Nat):Prop:=∀ j,j<k→opB M (j+1)=true
theorem UpB.more {M:List UInt8} {k:Nat} (h:UpB M k)(hk:opB M (k+1)=true):UpB M (k+1):=fun j hj=>by
 by_cases e:j=k
 ·rw[e];exact hk
 ·exact h j (by omega)
theorem zz6 {M:List UInt8} {k:Nat} (h:UpB M k)(hk:k<4)(hn:opB M (k+1)=false):zdy M=k+1:=by
 unfold zdy
 match k,hk with
 | 0,_=>rw[zp hn]
 | 1,_=>rw[zn (by rw[h 0 (by omega)];simp),zp hn]
 | 2,_=>rw[zn (by rw[h 0 (by omega)];simp),zn (by rw[h 1 (by omega)];simp),zp hn]
 | 3,_=>rw[zn (by rw[h 0 (by omega)];simp),zn (by rw[h 1 (by omega)];simp),zn (by rw[h 2 (by omega)];simp),zp hn]
theorem zqw {M:List UInt8} (h:UpB M 4):zdy M=0:=by
 unfold zdy
 rw[zn (by rw[h 0 (by omega)];simp),zn (by rw[h 1 (by omega)];simp),zn (by rw[h 2 (by omega)];simp),zn (by rw[h 3 (by omega)];simp)]
theorem zmd (M:List UInt8):zdy M≤4:=by
 unfold zdy
 split
 ·omega
 split
 ·omega
 split
 ·omega
 split<;>omega
def FrR (w:World) (M:List UInt8) (g:Nat) (hv:Value) (wr:World):Prop:=∃ k,g=4-k∧k≤4∧hv=.int .i64 ((k:Int)+1)∧UpB M k∧Keeps (fun _=>False) w wr
set_option maxRecDepth 100000 in
theorem zqf (h:RefH w mi q b c d e M G):Calls Tryz.prog 67 #[.pointer (some ⟨q,0,none⟩)] w (zkw w (.int .i64 (zdy M:Int))):=by
 have HO:=zq (fun (W:World) (k':Keeps (fun _=>False) w W) (k:Nat)=>zy2 (h.keep k' fun _ _ _ f=>f) k)
 clear h
 go_enter Tryz.func67,Tryz.ntmps67
 go_wp2_with fail
 go_loopg [3,4,5,6] 4 (fun g hv _ _ _ wr=>FrR w M g hv wr)
 case atStart=>exact⟨0,by omega,by omega,rfl,fun j hj=>absurd hj (by omega),Keeps.refl _ _⟩
 case round =>
  obtain⟨k,rfl,hk,rfl,hu,hkp⟩:=hrel
  by_cases hlt:k<4
  ·have HO1:=HO.out _ hkp (k+1)
   rw[show((k+1:Nat):Int)=(k:Int)+1 from by omega] at HO1
   have d0:decide ((k:Int)+1≤4)=true:=by simp only[decide_eq_true_eq];omega
   have wk:IntKind.i64.wrap ((k:Int)+1+1)=(k:Int)+1+1:=by rw[IntKind.wrap_i64];omega
   cases hb:opB M (k+1) with
   | true =>
    rw[hb,zp rfl] at HO1
    have HO2:=zq HO1
    have HU:=zq (hu.more hb)
    have HK:=zq hkp
    clear HO1 hb hu hkp
    generalize hN M (k+1)=N at *
    generalize hL M (k+1)=P at *
    go_wp2_with fail
    refine HO2.out.mono ?_
    rintro e1 w1 ⟨rfl,k1⟩
    have K1:=zq (HK.out.trans k1)
    clear k1 HO2 HK
    go_wp2_with fail
    go_roundg (4-(k+1))
    case rel=>exact⟨k+1,rfl,by omega,by go_num,HU.out,K1.out⟩
    case measure=>omega
   | false =>
    rw[hb] at HO1
    simp only[Bool.false_eq_true,if_false] at HO1
    have HO2:=zq HO1
    have HL:=zq (zz6 hu hlt hb)
    have HK:=zq hkp
    clear HO1 hb hu hkp
    go_wp2_with fail
    refine HO2.out.mono ?_
    rintro e1 w1 ⟨rfl,k1⟩
    have K1:=zq (HK.out.trans k1)
    clear k1 HO2 HK
    go_wp2_with fail
    go_ret
    exact⟨by rw[HL.out];rfl,K1.out⟩
  ·obtain rfl:k=4:=by omega
   have HL:=zq (zqw hu)
   have HK:=zq hkp
   clear hu hkp
   go_wp2_with fail
   go_ret
   exact⟨by rw[HL.out];rfl,HK.out⟩
noncomputable def opK (M:List UInt8):Nat→List Nat
 | 0=>[]
 | k+1=>if opB M (k+1)=true then opK M k++[k+1] else opK M k
noncomputable def opL (M:List UInt8):List Nat:=opK M 4
theorem zo1 (M:List UInt8)(k:Nat):(opK M k).length≤k:=by
 induction k with
 | zero=>exact Nat.le_refl _
 | succ k ih =>
  unfold opK
  split
  ·rw[List.length_append,List.length_singleton];omega
  ·omega
theorem zzp (M:List UInt8)(k:Nat)(x:Nat):x∈opK M k↔1≤x∧x≤k∧opB M x=true:=by
 induction k with
 | zero =>
  unfold opK
  constructor
  ·intro h;cases h
  ·rintro⟨h1,h2,_⟩;omega
 | succ k ih =>
  unfold opK
  by_cases hb:opB M (k+1)=true
  ·rw[zp hb,List.mem_append,ih,List.mem_singleton]
   constructor
   ·rintro(⟨h1,h2,h3⟩ | rfl)
    ·exact⟨h1,by omega,h3⟩
    ·exact⟨by omega,by omega,hb⟩
   ·rintro⟨h1,h2,h3⟩
    by_cases e:x=k+1
    ·exact .inr e
    ·exact .inl ⟨h1,by omega,h3⟩
  ·rw[zn hb,ih]
   constructor
   ·rintro⟨h1,h2,h3⟩;exact⟨h1,by omega,h3⟩
   ·rintro⟨h1,h2,h3⟩
    refine⟨h1,?_,h3⟩
    by_cases e:x=k+1
    ·rw[e] at h3;exact absurd h3 hb
    ·omega
def OpR (w:World) (M:List UInt8) (g:Nat) (ov hv:Value) (wr:World):Prop:=∃ k R cp,g=4-k∧k≤4∧hv=.int .i64 ((k:Int)+1)∧ov=.slice R (opK M k).length cp∧OwnI wr w.heap.size R cp (opK M k)∧Below w.heap.size w wr
def OpO (w:World) (M:List UInt8) (en:Ending) (w':World):Prop:=∃ R cp,en=.returned (.slice R (opL M).length cp)∧OwnI w' w.heap.size R cp (opL M)∧Keeps (fun _=>False) w w'
set_option maxRecDepth 100000 in
theorem zly (h:RefH w mi q b c d e M G):Calls Tryz.prog 42 #[.pointer (some ⟨q,0,none⟩)] w (OpO w M):=by
 have HO:=zq (fun (W:World) (k':Keeps (fun _=>False) w W) (k:Nat)=>zy2 (h.keep k' fun _ _ _ f=>f) k)
 clear h
 go_enter Tryz.func42,Tryz.ntmps42
 go_wp2_with fail
 go_loopg [3,4,5,6,7] 4 (fun g ov hv _ _ _ wr=>OpR w M g ov hv wr)
 case atStart=>exact⟨0,none,0,by omega,by omega,rfl,rfl,World.ownsRow_nil _ _ _ _,Below.refl _ _⟩
 case round =>
  obtain⟨k,R,cp,rfl,hk,rfl,rfl,own,hbl⟩:=hrel
  by_cases hlt:k<4
  ·have HO1:=HO.out _ (zav hbl) (k+1)
   rw[show((k+1:Nat):Int)=(k:Int)+1 from by omega] at HO1
   have d0:decide ((k:Int)+1≤4)=true:=by simp only[decide_eq_true_eq];omega
   have wk:IntKind.i64.wrap ((k:Int)+1+1)=(k:Int)+1+1:=by rw[IntKind.wrap_i64];omega
   have hlen:=zo1 M k
   cases hb:opB M (k+1) with
   | true =>
    have hok:opK M (k+1)=opK M k++[k+1]:=by rw[opK,zp hb]
    rw[hb,zp rfl] at HO1
    have HO2:=zq HO1
    have HOK:=zq hok
    have OWN:=zq own
    have HBL:=zq hbl
    clear HO1 hb own hbl hok
    generalize hN M (k+1)=N at *
    generalize hL M (k+1)=P at *
    generalize opK M k=L at *
    go_wp2_with fail
    refine HO2.out.mono ?_
    rintro e1 w1 ⟨rfl,k1⟩
    have own1:=OWN.out.below (zht k1)
    have b1:=HBL.out.trans ((zht k1).mono HBL.out.size)
    have ownA:OwnI (w1.alloc (.cells #[.int .i64 ((k+1:Nat):Int)] 3)) w.heap.size R cp L:=own1.alloc _
    have belA:Below w.heap.size w (w1.alloc (.cells #[.int .i64 ((k+1:Nat):Int)] 3)):=b1.alloc b1.size _
    obtain⟨R',cap',w2,hap,own3,b3⟩:=ownA.app belA.size (by omega) (k+1) w1.heap.size (by rw[cell_of_row _ _ _ _ _ _ (heap_alloc_new w1 _)];rfl)
    rw[← HOK.out] at own3
    rw[show((k+1:Nat):Int)=(k:Int)+1 from by omega] at hap
    have HLN:Hid ((opK M (k+1)).length=L.length+1):=by show _=_;rw[HOK.out];simp
    have HAP:=zq hap
    have OWN3:=zq own3
    have BEL:=zq (belA.trans b3)
    clear own1 b1 ownA belA hap own3 b3 k1 OWN HBL HO2
    go_wp2_with (first | (at_builtin;refine zak rfl _ _ 40 rfl _ HAP.out ?_) | fail)
    go_roundg (4-(k+1))
    case rel=>exact⟨k+1,R',cap',rfl,by omega,by go_num,by rw[HLN.out],OWN3.out,BEL.out⟩
    case measure=>omega
   | false =>
    have hok:opK M (k+1)=opK M k:=by rw[opK,zn (by rw[hb];simp)]
    rw[hb] at HO1
    simp only[Bool.false_eq_true,if_false] at HO1
    have HO2:=zq HO1
    have HOK:=zq hok
    have OWN:=zq own
    have HBL:=zq hbl
    clear HO1 hb own hbl hok
    generalize opK M k=L at *
    go_wp2_with fail
    refine HO2.out.mono ?_
    rintro e1 w1 ⟨rfl,k1⟩
    have OWN1:=zq (OWN.out.below (zht k1))
    have B1:=zq (HBL.out.trans ((zht k1).mono HBL.out.size))
    clear k1 HO2 OWN HBL
    go_wp2_with fail
    go_roundg (4-(k+1))
    case rel=>exact⟨k+1,R,cp,rfl,by omega,by go_num,by rw[HOK.out],by rw[HOK.out];exact OWN1.out,B1.out⟩
    case measure=>omega
  ·obtain rfl:k=4:=by omega
   have OWN:=zq own
   have HBL:=zq (zav hbl)
   clear own hbl
   go_wp2_with fail
   go_ret
   exact⟨R,cp,rfl,OWN.out,HBL.out⟩
end Hd
namespace Hd
open Go.RowKit Ex Ino Mm Fs
variable {w:World} {p gb mb:Nat} {G M:List UInt8}
set_option maxRecDepth 100000 in
theorem zsm (h:MemAt w p gb mb G M)(ho:¬okR (zab M))(n:Nat)(h1:1≤n)(h4:n≤4)(N:Int)(hN:wrap64 (hF M n-1)=N):
  Calls Tryz.prog 44 #[.pointer (some ⟨p,0,none⟩),.int .i64 (n:Int)] w (zb0 w p gb mb G M (.tuple #[agO 0 0 0,.bool false])):=by
 have k0:Keeps (fun k=>k=p∨k=mb) w (w.alloc (.cells #[.int .i64 0,.int .i64 0,.int .i64 0] 78)):=Keeps.alloc _ _ _
 have h0:MemAt (w.alloc (.cells #[.int .i64 0,.int .i64 0,.int .i64 0] 78)) p gb mb G M:=h.keep (Keeps.alloc (fun _=>False) _ _) (fun f=>f) (fun f=>f) (fun f=>f)
 have LT:=zq h.lt
 have HO:=zq ho
 have TO:=zq (zky h0 n h1 h4)
 have d1:decide ((n:Int)<1)=false:=by simp;omega
 have d2:decide (4<(n:Int))=false:=by simp;omega
 have HNN:=zq hN
 have K0:=zq k0
 have HC:=zq (fun a s W=>zkb (hF M n) a s W)
 clear h h0 ho hN k0
 generalize hF M n=a1 at *
 generalize hP M n=a2 at *
 go_enter Tryz.func44,Tryz.ntmps44
 go_wp2_with fail
 refine TO.out.mono ?_
 rintro e w1 ⟨rfl,m1,k1⟩
 have b1:w1.heap[w.heap.size]?=some (.cells #[.int .i64 0,.int .i64 0,.int .i64 0] 78 (0,0)):=by
  have:=LT.out
  rw[k1.block _ (by rw[World.size_alloc];omega) (by omega)]
  exact heap_alloc_new w _
 have M2:=zq (m1.keep (Keeps.alloc (fun _=>False) w1 (.cells #[.int .i64 a1,.int .i64 a2] 86)) (fun f=>f) (fun f=>f) (fun f=>f))
 have K1:=zq k1
 have B1:=zq b1
 clear m1 k1 b1 TO
 unfold agC
 go_wp2_with fail
 rw[HNN.out]
 refine(ya4 (zci M2.out) HO.out N).mono ?_
 rintro e w2 ⟨m2,k2,rfl⟩
 have bO:w2.heap[w.heap.size]?=some (.cells #[.int .i64 0,.int .i64 0,.int .i64 0] 78 (0,0)):=by
  have:=LT.out
  have:=K1.out.size
  rw[World.size_alloc] at this
  rw[k2.block _ (by rw[World.size_alloc];omega) (by omega)]
  exact(Below.heap_alloc w1 _ w.heap.size (by omega)).trans B1.out
 have dE:((120:Int) != 0)=true:=rfl
 have HR:=zq (zoq (a:=.int .i64 0) (c:=.int .i64 0) (d:=.int .i64 0) bO)
 have HG:Hid (zb0 w p gb mb G M (.tuple #[agO 0 0 0,.bool false]) (.returned (.tuple #[agO 0 0 0,.bool false])) (((w2.setCell ⟨w.heap.size,0,none⟩ (.int .i64 0)).setCell ⟨w.heap.size,1,none⟩ (.int .i64 0)).setCell ⟨w.heap.size,2,none⟩ (.int .i64 0))):=by
  have hl:=LT.out
  have kk:=zjp (fun j=>j=w.heap.size) (w:=w2) (a:=.int .i64 0) (c:=.int .i64 0) (d:=.int .i64 0) rfl
  have KK:=K1.out.trans ((Keeps.alloc (fun k=>k=p∨k=mb) w1 _).trans (k2.mono fun _ _ e=>.inr e))
  exact⟨rfl,m2.keep kk (by omega) (by omega) (by omega),Keeps.thru (K0.out.trans KK) kk (fun _ _ f=>f) (fun i hi e=>by omega)⟩
 have f0:=frozen_of_row w2 w.heap.size 0 _ _ bO
 have f1:=frozen_of_row w2 w.heap.size 1 _ _ bO
 have f2:=frozen_of_row w2 w.heap.size 2 _ _ bO
 have o0:w2.cell? ⟨w.heap.size,0,none⟩=some (.int .i64 0):=by rw[cell_of_row _ _ _ _ _ _ bO];rfl
 have o1:w2.cell? ⟨w.heap.size,1,none⟩=some (.int .i64 0):=by rw[cell_of_row _ _ _ _ _ _ bO];rfl
 have o2:w2.cell? ⟨w.heap.size,2,none⟩=some (.int .i64 0):=by rw[cell_of_row _ _ _ _ _ _ bO];rfl
 clear bO k2 m2 M2 K1 B1
 go_wp2_with fail
 refine bodyPost_ret (v:=.tuple #[agO 0 0 0,.bool false]) ?_ rfl HG.out
 exact zd1 rfl _ _ w.heap.size 78 _ (0,0) _ _ rfl rfl HR.out Tryz.underlying78 rfl zyn
theorem zsl (h:MemAt w p gb mb G M)(n:Int)(hb:isOp M n):
  Calls Tryz.prog 44 #[.pointer (some ⟨p,0,none⟩),.int .i64 n] w (zb0 w p gb mb G M (.tuple #[agO (hN M n.toNat) (hL M n.toNat) (hS M n.toNat),.bool true])):=by
 obtain⟨k,rfl,h1,h4,hO⟩:=zco hb
 have:=zhl h hb.1 k h1 h4
 unfold yhh at this
 rw[zp hO] at this
 rw[Int.toNat_natCast]
 exact this
theorem zno (h:MemAt w p gb mb G M)(n:Int)(hb:¬isOp M n):
  Calls Tryz.prog 44 #[.pointer (some ⟨p,0,none⟩),.int .i64 n] w (zb0 w p gb mb G M (.tuple #[agO 0 0 0,.bool false])):=by
 by_cases hr:n<1∨4<n
 ·exact zw0 h n hr
 ·obtain⟨k,rfl⟩:∃ k:Nat,n=(k:Int):=⟨n.toNat,by omega⟩
  by_cases ho:okR (zab M)
  ·have:=zhl h ho k (by omega) (by omega)
   unfold yhh at this
   rwa [zn (fun hO=>hb ⟨ho,by omega,by omega,by rw[Int.toNat_natCast];exact hO⟩)] at this
  ·exact zsm h ho k (by omega) (by omega) _ rfl
set_option maxRecDepth 100000 in
theorem zh4 (h:MemAt w p gb mb G M)(n:Int)(hno:¬isOp M n)(N:Nat)(caps:Array Value):
  Calls Tryz.prog 45 #[.pointer (some ⟨p,0,none⟩),.int .i64 n,.func (.func N) #[] caps] w (zb0 w p gb mb G M (.int .i64 (noE M))):=by
 have HCK:=zq (zhp (zci h))
 have HOP:=zq (fun W (hW:MemAt W p gb mb G M)=>zno hW n hno)
 unfold noE
 by_cases ho:okR (zab M)
 ·rw[zp ho]
  have HO:=zq ho
  clear h ho hno
  go_enter Tryz.func45,Tryz.ntmps45
  go_wp2_with fail
  refine HCK.out.mono ?_
  rintro e w1 ⟨m1,k1,⟨-,rfl⟩|⟨hn,-⟩⟩
  rotate_left
  ·exact absurd HO.out hn
  have H2:=zq (HOP.out w1 m1)
  have K1:=zq (k1.mono fun _ _ e=>Or.inr e:Keeps (fun j=>j=p∨j=mb) w w1)
  clear k1 m1 HCK HOP
  unfold agO at H2
  go_wp2_with fail
  refine H2.out.mono ?_
  rintro e w2 ⟨rfl,m2,k2⟩
  have HG:Hid (zb0 w p gb mb G M (.int .i64 131) (.returned (.int .i64 131)) (w2.alloc (.cells #[.int .i64 0,.int .i64 0,.int .i64 0] 78))):=
   ⟨rfl,m2.keep (Keeps.alloc (fun _=>False) w2 _) (fun f=>f) (fun f=>f) (fun f=>f),(K1.out.trans k2).trans (Keeps.alloc _ _ _)⟩
  clear m2 k2 H2 K1
  go_wp2_with fail
  go_ret
  exact HG.out
 ·rw[zn ho]
  have HO:=zq ho
  clear h ho hno HOP
  go_enter Tryz.func45,Tryz.ntmps45
  go_wp2_with fail
  refine HCK.out.mono ?_
  rintro e w1 ⟨m1,k1,⟨hy,-⟩|⟨-,rfl⟩⟩
  ·exact absurd hy HO.out
  have HG:Hid (zb0 w p gb mb G M (.int .i64 120) (.returned (.int .i64 120)) w1):=⟨rfl,m1,k1.mono fun _ _ e=>Or.inr e⟩
  clear m1 k1 HCK
  go_wp2_with fail
  go_ret
  exact HG.out
end Hd
namespace Hd
open Go.RowKit Ex Ino Mm Fs
variable {w:World} {p gb mb:Nat} {G M:List UInt8}
set_option maxRecDepth 100000 in
theorem zww (q:Nat)(v:Value)(hb:Boxed w q 3 v)(a b c:Int):Calls Tryz.prog 46 #[agO a b c,.pointer (some ⟨q,0,none⟩)] w (zoh (BoxE w q 3 (.int .i64 b))):=by
 have hb2:=(zd7 hb (.int .i64 b)).alloc (.cells #[.int .i64 a,.int .i64 b,.int .i64 c] 78)
 have c1:=hb.cell
 have f1:=frozen_of_row _ _ 0 _ _ hb
 have hl:=hb.lt
 have HG:Hid (zoh (BoxE w q 3 (.int .i64 b)) (.returned (.int .i64 0)) ((w.setCell ⟨q,0,none⟩ (.int .i64 b)).alloc (.cells #[.int .i64 a,.int .i64 b,.int .i64 c] 78))):=⟨0,rfl,rfl,hb2,(Keeps.setCell (fun j=>j=q) _ ⟨q,0,none⟩ _ rfl).trans (Keeps.alloc _ _ _)⟩
 unfold agO
 clear hb hb2
 go_enter Tryz.func46,Tryz.ntmps46
 go_wp2_with fail
 go_ret
 exact HG.out
set_option maxRecDepth 100000 in
theorem znw (h:MemAt w p gb mb G M)(ho:okR (zab M))(n:Nat)(h1:1≤n)(h4:n≤4)(hO:isO M n=true):
  Calls Tryz.prog 15 #[.pointer (some ⟨p,0,none⟩),.int .i64 (n:Int)] w (zb0 w p gb mb G M (.tuple #[.int .i64 (hL M n),.int .i64 0])):=by
 have hl:=h.lt
 have hb:=Boxed.new w 3 (.int .i64 0)
 have K0:=zq (Keeps.alloc (fun j=>j=p∨j=mb) w (.cells #[.int .i64 0] 3))
 have H0:=zq (h.keep (Keeps.alloc (fun _=>False) w (.cells #[.int .i64 0] 3)) (fun f=>f) (fun f=>f) (fun f=>f))
 have HW:=zq (zeh H0.out ho n h1 h4 hO 46 #[.pointer (some ⟨w.heap.size,0,none⟩)] (enters_of Tryz.func46 (by kernel_rfl) rfl)
  (fun E W'=>E=0∧Boxed W' w.heap.size 3 (.int .i64 (hL M n))∧MemAt W' p gb mb G M∧Keeps (fun j=>j=p∨j=mb) w W')
  (fun W hm hk=>by
   have hbw:Boxed W w.heap.size 3 (.int .i64 0):=(hk.block _ hb.lt (by omega)).trans hb
   refine(zww w.heap.size (.int .i64 0) hbw (hN M n) (zms (hP M n) (hS M n)) (hS M n)).mono ?_
   rintro e w' ⟨E,rfl,rfl,hb',hk'⟩
   exact⟨0,rfl,rfl,hb',hm.keep hk' (by omega) (by omega) (by omega),Keeps.thru (K0.out.trans hk) hk' (fun _ _ f=>f) (fun i hi e=>by omega)⟩))
 have LT:=zq hl
 clear h ho hO hb hl
 generalize hL M n=sz at *
 go_enter Tryz.func15,Tryz.ntmps15
 go_wp2_with fail
 refine HW.out.mono ?_
 rintro e w1 ⟨E,rfl,rfl,hb,hm,hk⟩
 have c1:=hb.cell
 have f1:=frozen_of_row _ _ 0 _ _ hb
 have HB:=zq (zd7 hb (.int .i64 sz))
 have HG:Hid (zb0 w p gb mb G M (.tuple #[.int .i64 sz,.int .i64 0]) (.returned (.tuple #[.int .i64 sz,.int .i64 0])) (w1.setCell ⟨w.heap.size,0,none⟩ (.int .i64 sz))):=by
  have ks:=Keeps.setCell (fun j=>j=w.heap.size) w1 ⟨w.heap.size,0,none⟩ (.int .i64 sz) rfl
  have:=H0.out.lt
  have l0:=LT.out
  exact⟨rfl,hm.keep ks (by omega) (by omega) (by omega),Keeps.thru hk ks (fun _ _ f=>f) (fun i hi e=>by omega)⟩
 clear hb hm hk HW H0
 go_wp2_with fail
 refine bodyPost_ret (v:=.tuple #[.int .i64 sz,.int .i64 0]) ?_ rfl HG.out
 exact zc1 rfl _ _ w.heap.size _ _ rfl rfl zdm HB.out.cell
end Hd
namespace Hd
open Go.RowKit Ex Ino Mm Fs
variable {w:World} {p gb mb:Nat} {G M:List UInt8}
set_option maxRecDepth 100000 in
theorem zxz (h:MemAt w p gb mb G M)(n:Nat)(h1:1≤n)(h4:n≤4)(N pl sz:Int){q1 q3:Nat}
  (x1:Boxed w q1 25 (.pointer (some ⟨p,0,none⟩))) (x3:Boxed w q3 3 (.int .i64 (n:Int))):
  Calls Tryz.prog 72 #[agO N pl sz,.pointer (some ⟨q1,0,none⟩),.pointer (some ⟨q3,0,none⟩)] w (zoh (HwR w p gb mb G (zdb M n 0 0) 0)):=by
 have c1:=(x1.alloc (.cells #[.int .i64 N,.int .i64 pl,.int .i64 sz] 78)).cell
 have c3:=(x3.alloc (.cells #[.int .i64 N,.int .i64 pl,.int .i64 sz] 78)).cell
 have k0:Keeps (fun _=>False) w (w.alloc (.cells #[.int .i64 N,.int .i64 pl,.int .i64 sz] 78)):=Keeps.alloc _ _ _
 have K0:Hid (Keeps (fun j=>j=p∨j=mb) w (w.alloc (.cells #[.int .i64 N,.int .i64 pl,.int .i64 sz] 78))):=Keeps.alloc _ _ _
 have HW:=zq (zmf (h.keep k0 (fun f=>f) (fun f=>f) (fun f=>f)) n h1 h4 0 0)
 clear h k0 x1 x3
 generalize zdb M n 0 0=M2 at *
 unfold agO
 go_enter Tryz.func72,Tryz.ntmps72
 go_wp2_with fail
 refine HW.out.mono ?_
 rintro e w2 ⟨rfl,m2,k2⟩
 have HG:Hid (zoh (HwR w p gb mb G M2 0) (.returned (.int .i64 0)) w2):=⟨0,rfl,rfl,m2,K0.out.trans k2⟩
 clear m2 k2 HW
 go_wp2_with fail
 go_ret
 exact HG.out
set_option maxRecDepth 100000 in
theorem zia (h:MemAt w p gb mb G M)(ho:okR (zab M))(hT:Tab w)(hmb:mb≠0)(N pl sz s:Int){q1 q2:Nat}
  (x1:Boxed w q1 25 (.pointer (some ⟨p,0,none⟩))) (x2:Boxed w q2 3 (.int .i64 s)):
  Calls Tryz.prog 80 #[agO N pl sz,.pointer (some ⟨q1,0,none⟩),.pointer (some ⟨q2,0,none⟩)] w (zoh (HwR w p gb mb G (zbz M (zag (za6 M) N s)) (zag (za6 M) N s).1)):=by
 have c1:=(x1.alloc (.cells #[.int .i64 N,.int .i64 pl,.int .i64 sz] 78)).cell
 have c2:=(x2.alloc (.cells #[.int .i64 N,.int .i64 pl,.int .i64 sz] 78)).cell
 have k0:Keeps (fun _=>False) w (w.alloc (.cells #[.int .i64 N,.int .i64 pl,.int .i64 sz] 78)):=Keeps.alloc _ _ _
 have K0:Hid (Keeps (fun j=>j=p∨j=mb) w (w.alloc (.cells #[.int .i64 N,.int .i64 pl,.int .i64 sz] 78))):=Keeps.alloc _ _ _
 have HW:=zq (show Calls _ _ _ _ (fun e W'=>e=.returned (.int .i64 (zag (za6 M) N s).1)∧MemAt W' p gb mb G (zbz M (zag (za6 M) N s))∧Keeps (fun j=>j=p∨j=mb) _ W') from zig (h.keep k0 (fun f=>f) (fun f=>f) (fun f=>f)) ho (hT.keep (k0.block 0 hT.pos (fun f=>f))) hmb N s)
 clear h ho hT k0 x1 x2
 generalize zbz M (zag (za6 M) N s)=M2 at *
 generalize (zag (za6 M) N s).1=E at *
 unfold agO
 go_enter Tryz.func80,Tryz.ntmps80
 go_wp2_with fail
 refine HW.out.mono ?_
 rintro e w2 ⟨rfl,m2,k2⟩
 have HG:Hid (zoh (HwR w p gb mb G M2 E) (.returned (.int .i64 E)) w2):=⟨E,rfl,rfl,m2,K0.out.trans k2⟩
 clear m2 k2 HW
 go_wp2_with fail
 go_ret
 exact HG.out
set_option maxRecDepth 100000 in
theorem zyu (h:MemAt w p gb mb G M)(n:Nat)(h1:1≤n)(h4:n≤4)(N pl sz s:Int)(hN:0≤N∧N≤8){q1 q2 q3:Nat}
  (x1:Boxed w q1 25 (.pointer (some ⟨p,0,none⟩))) (x2:Boxed w q2 3 (.int .i64 s)) (x3:Boxed w q3 3 (.int .i64 (n:Int))):
  Calls Tryz.prog 82 #[agO N pl sz,.pointer (some ⟨q2,0,none⟩),.pointer (some ⟨q1,0,none⟩),.pointer (some ⟨q3,0,none⟩)] w
   (zoh (HwR w p gb mb G (if s<0∨sz<s then M else zdb M n (N+1) s) (if s<0∨sz<s then 1 else 0))):=by
 have c1:=(x1.alloc (.cells #[.int .i64 N,.int .i64 pl,.int .i64 sz] 78)).cell
 have c2:=(x2.alloc (.cells #[.int .i64 N,.int .i64 pl,.int .i64 sz] 78)).cell
 have c3:=(x3.alloc (.cells #[.int .i64 N,.int .i64 pl,.int .i64 sz] 78)).cell
 have k0:Keeps (fun _=>False) w (w.alloc (.cells #[.int .i64 N,.int .i64 pl,.int .i64 sz] 78)):=Keeps.alloc _ _ _
 have K0:Hid (Keeps (fun j=>j=p∨j=mb) w (w.alloc (.cells #[.int .i64 N,.int .i64 pl,.int .i64 sz] 78))):=Keeps.alloc _ _ _
 have m0:=h.keep k0 (fun f=>f) (fun f=>f) (fun f=>f)
 have b4:=heap_alloc_new w (.cells #[.int .i64 N,.int .i64 pl,.int .i64 sz] 78)
 have o0:(w.alloc (.cells #[.int .i64 N,.int .i64 pl,.int .i64 sz] 78)).cell? ⟨w.heap.size,0,none⟩=some (.int .i64 N):=by rw[cell_of_row _ _ _ _ _ _ b4];rfl
 have o1:(w.alloc (.cells #[.int .i64 N,.int .i64 pl,.int .i64 sz] 78)).cell? ⟨w.heap.size,1,none⟩=some (.int .i64 pl):=by rw[cell_of_row _ _ _ _ _ _ b4];rfl
 have o2:(w.alloc (.cells #[.int .i64 N,.int .i64 pl,.int .i64 sz] 78)).cell? ⟨w.heap.size,2,none⟩=some (.int .i64 sz):=by rw[cell_of_row _ _ _ _ _ _ b4];rfl
 clear b4
 by_cases hx:s<0∨sz<s
 ·rw[zp hx,zp hx]
  have HG:Hid (zoh (HwR w p gb mb G M 1) (.returned (.int .i64 1)) (w.alloc (.cells #[.int .i64 N,.int .i64 pl,.int .i64 sz] 78))):=⟨1,rfl,rfl,m0,K0.out⟩
  have key:decide (s<0)=true∨(decide (s<0)=false∧decide (sz<s)=true):=by simp only[decide_eq_true_eq,decide_eq_false_iff_not];omega
  clear hx h k0 x1 x2 x3 m0
  unfold agO
  rcases key with t1 | ⟨t1,t2⟩
  all_goals
   go_enter Tryz.func82,Tryz.ntmps82
   go_wp2_with fail
   go_ret
   exact HG.out
 ·rw[zn hx,zn hx]
  have t1:decide (s<0)=false:=by simp only[decide_eq_false_iff_not];omega
  have t2:decide (sz<s)=false:=by simp only[decide_eq_false_iff_not];omega
  have hm:=zo3 m0 n h1 h4 N pl sz s (by omega)
  unfold agO at hm
  have HM:=zq hm
  clear hx h k0 x1 x2 x3 m0 hm
  unfold agO
  generalize zdb M n (N+1) s=M2 at *
  go_enter Tryz.func82,Tryz.ntmps82
  go_wp2_with fail
  refine HM.out.mono ?_
  rintro e w3 ⟨rfl,m3,k3⟩
  have HG:Hid (zoh (HwR w p gb mb G M2 0) (.returned (.int .i64 0)) w3):=⟨0,rfl,rfl,m3,K0.out.trans k3⟩
  clear m3 k3 HM
  go_wp2_with fail
  go_ret
  exact HG.out
set_option maxRecDepth 100000 in
theorem zxe (h:MemAt w p gb mb G M)(ho:okR (zab M))(n:Nat)(h1:1≤n)(h4:n≤4)(hO:isO M n=true):
  Calls Tryz.prog 28 #[.pointer (some ⟨p,0,none⟩),.int .i64 (n:Int)] w (zb0 w p gb mb G (zdb M n 0 0) (.int .i64 (0))):=by
 have hob:=zcd h.ml ho n hO
 have hlt:=h.lt
 let o1:Obj:=.cells #[.pointer (some ⟨p,0,none⟩)] 25
 let o2:Obj:=.cells #[.int .i64 (n:Int)] 3
 have x1:Boxed ((w.alloc o1).alloc o2) (w.heap.size) 25 (.pointer (some ⟨p,0,none⟩)):=((Boxed.new w 25 (.pointer (some ⟨p,0,none⟩))).alloc _)
 have x2:Boxed ((w.alloc o1).alloc o2) (w.heap.size+1) 3 (.int .i64 (n:Int)):=by
  have:=(Boxed.new (w.alloc o1) 3 (.int .i64 (n:Int)))
  rwa [World.size_alloc] at this
 have k0:Keeps (fun _=>False) w ((w.alloc o1).alloc o2):=Keeps.trans (Keeps.alloc _ _ _) (Keeps.alloc _ _ _)
 have KW:=zq (k0.mono fun _ _ f=>f.elim:Keeps (fun j=>j=p∨j=mb) w _)
 have HW:=zq (zeh (h.keep k0 (fun f=>f) (fun f=>f) (fun f=>f)) ho n h1 h4 hO 72 #[.pointer (some ⟨w.heap.size,0,none⟩),.pointer (some ⟨w.heap.size+1,0,none⟩)] (enters_of Tryz.func72 (by kernel_rfl) rfl)
  (HwR w p gb mb G (zdb M n 0 0) (0))
  (fun W hm hk=>by
   have y1:=(hk.block _ x1.lt (by omega)).trans x1
   have y2:=(hk.block _ x2.lt (by omega)).trans x2
   refine(zxz hm n h1 h4 (hN M n) (zms (hP M n) (hS M n)) (hS M n) y1 y2).mono ?_
   rintro e w' ⟨E,rfl,rfl,m',k'⟩
   exact⟨_,rfl,rfl,m',(KW.out.trans hk).trans k'⟩))
 clear h ho hO x1 x2 k0 hob KW
 simp only[o1,o2] at HW
 clear_value o1 o2
 clear o1 o2
 generalize (zdb M n 0 0)=M2 at *
 go_enter Tryz.func28,Tryz.ntmps28
 go_wp2_with fail
 refine HW.out.mono ?_
 rintro e w1 ⟨E,rfl,hE,hm,hk⟩
 have HG:Hid (zb0 w p gb mb G M2 (.int .i64 (0)) (.returned (.int .i64 E)) w1):=⟨by rw[hE],hm,hk⟩
 clear hm hk HW hE
 go_wp2_with fail
 go_ret
 exact HG.out
set_option maxRecDepth 100000 in
theorem zsy (h:MemAt w p gb mb G M)(ho:okR (zab M))(hT:Tab w)(hmb:mb≠0)(hp0:p≠0)(n:Nat)(h1:1≤n)(h4:n≤4)(hO:isO M n=true)(s:Int):
  Calls Tryz.prog 33 #[.pointer (some ⟨p,0,none⟩),.int .i64 (n:Int),.int .i64 s] w (zb0 w p gb mb G (zbz M (zag (za6 M) (hN M n) s)) (.int .i64 ((zag (za6 M) (hN M n) s).1))):=by
 have hob:=zcd h.ml ho n hO
 have hlt:=h.lt
 let o1:Obj:=.cells #[.pointer (some ⟨p,0,none⟩)] 25
 let o2:Obj:=.cells #[.int .i64 s] 3
 have x1:Boxed ((w.alloc o1).alloc o2) (w.heap.size) 25 (.pointer (some ⟨p,0,none⟩)):=((Boxed.new w 25 (.pointer (some ⟨p,0,none⟩))).alloc _)
 have x2:Boxed ((w.alloc o1).alloc o2) (w.heap.size+1) 3 (.int .i64 s):=by
  have:=(Boxed.new (w.alloc o1) 3 (.int .i64 s))
  rwa [World.size_alloc] at this
 have k0:Keeps (fun _=>False) w ((w.alloc o1).alloc o2):=Keeps.trans (Keeps.alloc _ _ _) (Keeps.alloc _ _ _)
 have KW:=zq (k0.mono fun _ _ f=>f.elim:Keeps (fun j=>j=p∨j=mb) w _)
 have HW:=zq (zeh (h.keep k0 (fun f=>f) (fun f=>f) (fun f=>f)) ho n h1 h4 hO 80 #[.pointer (some ⟨w.heap.size,0,none⟩),.pointer (some ⟨w.heap.size+1,0,none⟩)] (enters_of Tryz.func80 (by kernel_rfl) rfl)
  (HwR w p gb mb G (zbz M (zag (za6 M) (hN M n) s)) ((zag (za6 M) (hN M n) s).1))
  (fun W hm hk=>by
   have hT2:=(hT.keep (k0.block 0 hT.pos (fun f=>f)))
   have hT3:=hT2.keep (hk.block 0 hT2.pos (by omega))
   have y1:=(hk.block _ x1.lt (by omega)).trans x1
   have y2:=(hk.block _ x2.lt (by omega)).trans x2
   refine(zia hm ho hT3 hmb (hN M n) (zms (hP M n) (hS M n)) (hS M n) s y1 y2).mono ?_
   rintro e w' ⟨E,rfl,rfl,m',k'⟩
   exact⟨_,rfl,rfl,m',(KW.out.trans hk).trans k'⟩))
 clear h ho hT hO x1 x2 k0 hob KW
 simp only[o1,o2] at HW
 clear_value o1 o2
 clear o1 o2
 generalize (zbz M (zag (za6 M) (hN M n) s))=M2 at *
 generalize ((zag (za6 M) (hN M n) s).1)=E0 at *
 go_enter Tryz.func33,Tryz.ntmps33
 go_wp2_with fail
 refine HW.out.mono ?_
 rintro e w1 ⟨E,rfl,hE,hm,hk⟩
 have HG:Hid (zb0 w p gb mb G M2 (.int .i64 (E0)) (.returned (.int .i64 E)) w1):=⟨by rw[hE],hm,hk⟩
 clear hm hk HW hE
 go_wp2_with fail
 go_ret
 exact HG.out
set_option maxRecDepth 100000 in
theorem yar (h:MemAt w p gb mb G M)(ho:okR (zab M))(n:Nat)(h1:1≤n)(h4:n≤4)(hO:isO M n=true)(s:Int):
  Calls Tryz.prog 36 #[.pointer (some ⟨p,0,none⟩),.int .i64 (n:Int),.int .i64 s] w (zb0 w p gb mb G (if s<0∨hS M n<s then M else zdb M n (hN M n+1) s) (.int .i64 (if s<0∨hS M n<s then (1:Int) else 0))):=by
 have hob:=zcd h.ml ho n hO
 have hlt:=h.lt
 let o1:Obj:=.cells #[.pointer (some ⟨p,0,none⟩)] 25
 let o2:Obj:=.cells #[.int .i64 (n:Int)] 3
 let o3:Obj:=.cells #[.int .i64 s] 3
 have x1:Boxed (((w.alloc o1).alloc o2).alloc o3) (w.heap.size) 25 (.pointer (some ⟨p,0,none⟩)):=(((Boxed.new w 25 (.pointer (some ⟨p,0,none⟩))).alloc _).alloc _)
 have x2:Boxed (((w.alloc o1).alloc o2).alloc o3) (w.heap.size+1) 3 (.int .i64 (n:Int)):=by
  have:=((Boxed.new (w.alloc o1) 3 (.int .i64 (n:Int))).alloc o3)
  rwa [World.size_alloc] at this
 have x3:Boxed (((w.alloc o1).alloc o2).alloc o3) (w.heap.size+1+1) 3 (.int .i64 s):=by
  have:=(Boxed.new ((w.alloc o1).alloc o2) 3 (.int .i64 s))
  rwa [World.size_alloc,World.size_alloc] at this
 have k0:Keeps (fun _=>False) w (((w.alloc o1).alloc o2).alloc o3):=Keeps.trans (Keeps.trans (Keeps.alloc _ _ _) (Keeps.alloc _ _ _)) (Keeps.alloc _ _ _)
 have KW:=zq (k0.mono fun _ _ f=>f.elim:Keeps (fun j=>j=p∨j=mb) w _)
 have HW:=zq (zeh (h.keep k0 (fun f=>f) (fun f=>f) (fun f=>f)) ho n h1 h4 hO 82 #[.pointer (some ⟨w.heap.size+1+1,0,none⟩),.pointer (some ⟨w.heap.size,0,none⟩),.pointer (some ⟨w.heap.size+1,0,none⟩)] (enters_of Tryz.func82 (by kernel_rfl) rfl)
  (HwR w p gb mb G (if s<0∨hS M n<s then M else zdb M n (hN M n+1) s) (if s<0∨hS M n<s then (1:Int) else 0))
  (fun W hm hk=>by
   have y1:=(hk.block _ x1.lt (by omega)).trans x1
   have y2:=(hk.block _ x2.lt (by omega)).trans x2
   have y3:=(hk.block _ x3.lt (by omega)).trans x3
   refine(zyu hm n h1 h4 (hN M n) (zms (hP M n) (hS M n)) (hS M n) s (by omega) y1 y3 y2).mono ?_
   rintro e w' ⟨E,rfl,rfl,m',k'⟩
   exact⟨_,rfl,rfl,m',(KW.out.trans hk).trans k'⟩))
 clear h ho hO x1 x2 x3 k0 hob KW
 simp only[o1,o2,o3] at HW
 clear_value o1 o2 o3
 clear o1 o2 o3
 generalize (if s<0∨hS M n<s then M else zdb M n (hN M n+1) s)=M2 at *
 generalize (if s<0∨hS M n<s then (1:Int) else 0)=E0 at *
 go_enter Tryz.func36,Tryz.ntmps36
 go_wp2_with fail
 refine HW.out.mono ?_
 rintro e w1 ⟨E,rfl,hE,hm,hk⟩
 have HG:Hid (zb0 w p gb mb G M2 (.int .i64 (E0)) (.returned (.int .i64 E)) w1):=⟨by rw[hE],hm,hk⟩
 clear hm hk HW hE
 go_wp2_with fail
 go_ret
 exact HG.out
set_option maxRecDepth 100000 in
theorem yav (h:MemAt w p gb mb G M)(n:Int)(hno:¬isOp M n):
  Calls Tryz.prog 28 #[.pointer (some ⟨p,0,none⟩),.int .i64 n] w (zb0 w p gb mb G M (.int .i64 (noE M))):=by
 let o1:Obj:=.cells #[.pointer (some ⟨p,0,none⟩)] 25
 let o2:Obj:=.cells #[.int .i64 n] 3
 have x1:Boxed ((w.alloc o1).alloc o2) (w.heap.size) 25 (.pointer (some ⟨p,0,none⟩)):=((Boxed.new w 25 (.pointer (some ⟨p,0,none⟩))).alloc _)
 have x2:Boxed ((w.alloc o1).alloc o2) (w.heap.size+1) 3 (.int .i64 n):=by
  have:=(Boxed.new (w.alloc o1) 3 (.int .i64 n))
  rwa [World.size_alloc] at this
 have k0:Keeps (fun _=>False) w ((w.alloc o1).alloc o2):=Keeps.trans (Keeps.alloc _ _ _) (Keeps.alloc _ _ _)
 have KW:=zq (k0.mono fun _ _ f=>f.elim:Keeps (fun j=>j=p∨j=mb) w _)
 have HW:=zq (zh4 (h.keep k0 (fun f=>f) (fun f=>f) (fun f=>f)) n hno 72 #[.pointer (some ⟨w.heap.size,0,none⟩),.pointer (some ⟨w.heap.size+1,0,none⟩)])
 clear h hno x1 x2 k0
 simp only[o1,o2] at HW KW
 clear_value o1 o2
 clear o1 o2
 generalize noE M=E at *
 go_enter Tryz.func28,Tryz.ntmps28
 go_wp2_with fail
 refine HW.out.mono ?_
 rintro e w1 ⟨rfl,hm,hk⟩
 have HG:Hid (zb0 w p gb mb G M (.int .i64 E) (.returned (.int .i64 E)) w1):=⟨rfl,hm,KW.out.trans hk⟩
 clear hm hk HW
 go_wp2_with fail
 go_ret
 exact HG.out
set_option maxRecDepth 100000 in
theorem zxb (h:MemAt w p gb mb G M)(n:Int)(s:Int)(hno:¬isOp M n):
  Calls Tryz.prog 33 #[.pointer (some ⟨p,0,none⟩),.int .i64 n,.int .i64 s] w (zb0 w p gb mb G M (.int .i64 (noE M))):=by
 let o1:Obj:=.cells #[.pointer (some ⟨p,0,none⟩)] 25
 let o2:Obj:=.cells #[.int .i64 s] 3
 have x1:Boxed ((w.alloc o1).alloc o2) (w.heap.size) 25 (.pointer (some ⟨p,0,none⟩)):=((Boxed.new w 25 (.pointer (some ⟨p,0,none⟩))).alloc _)
 have x2:Boxed ((w.alloc o1).alloc o2) (w.heap.size+1) 3 (.int .i64 s):=by
  have:=(Boxed.new (w.alloc o1) 3 (.int .i64 s))
  rwa [World.size_alloc] at this
 have k0:Keeps (fun _=>False) w ((w.alloc o1).alloc o2):=Keeps.trans (Keeps.alloc _ _ _) (Keeps.alloc _ _ _)
 have KW:=zq (k0.mono fun _ _ f=>f.elim:Keeps (fun j=>j=p∨j=mb) w _)
 have HW:=zq (zh4 (h.keep k0 (fun f=>f) (fun f=>f) (fun f=>f)) n hno 80 #[.pointer (some ⟨w.heap.size,0,none⟩),.pointer (some ⟨w.heap.size+1,0,none⟩)])
 clear h hno x1 x2 k0
 simp only[o1,o2] at HW KW
 clear_value o1 o2
 clear o1 o2
 generalize noE M=E at *
 go_enter Tryz.func33,Tryz.ntmps33
 go_wp2_with fail
 refine HW.out.mono ?_
 rintro e w1 ⟨rfl,hm,hk⟩
 have HG:Hid (zb0 w p gb mb G M (.int .i64 E) (.returned (.int .i64 E)) w1):=⟨rfl,hm,KW.out.trans hk⟩
 clear hm hk HW
 go_wp2_with fail
 go_ret
 exact HG.out
set_option maxRecDepth 100000 in
theorem yek (h:MemAt w p gb mb G M)(n:Int)(s:Int)(hno:¬isOp M n):
  Calls Tryz.prog 36 #[.pointer (some ⟨p,0,none⟩),.int .i64 n,.int .i64 s] w (zb0 w p gb mb G M (.int .i64 (noE M))):=by
 let o1:Obj:=.cells #[.pointer (some ⟨p,0,none⟩)] 25
 let o2:Obj:=.cells #[.int .i64 n] 3
 let o3:Obj:=.cells #[.int .i64 s] 3
 have x1:Boxed (((w.alloc o1).alloc o2).alloc o3) (w.heap.size) 25 (.pointer (some ⟨p,0,none⟩)):=(((Boxed.new w 25 (.pointer (some ⟨p,0,none⟩))).alloc _).alloc _)
 have x2:Boxed (((w.alloc o1).alloc o2).alloc o3) (w.heap.size+1) 3 (.int .i64 n):=by
  have:=((Boxed.new (w.alloc o1) 3 (.int .i64 n)).alloc o3)
  rwa [World.size_alloc] at this
 have x3:Boxed (((w.alloc o1).alloc o2).alloc o3) (w.heap.size+1+1) 3 (.int .i64 s):=by
  have:=(Boxed.new ((w.alloc o1).alloc o2) 3 (.int .i64 s))
  rwa [World.size_alloc,World.size_alloc] at this
 have k0:Keeps (fun _=>False) w (((w.alloc o1).alloc o2).alloc o3):=Keeps.trans (Keeps.trans (Keeps.alloc _ _ _) (Keeps.alloc _ _ _)) (Keeps.alloc _ _ _)
 have KW:=zq (k0.mono fun _ _ f=>f.elim:Keeps (fun j=>j=p∨j=mb) w _)
 have HW:=zq (zh4 (h.keep k0 (fun f=>f) (fun f=>f) (fun f=>f)) n hno 82 #[.pointer (some ⟨w.heap.size+1+1,0,none⟩),.pointer (some ⟨w.heap.size,0,none⟩),.pointer (some ⟨w.heap.size+1,0,none⟩)])
 clear h hno x1 x2 x3 k0
 simp only[o1,o2,o3] at HW KW
 clear_value o1 o2 o3
 clear o1 o2 o3
 generalize noE M=E at *
 go_enter Tryz.func36,Tryz.ntmps36
 go_wp2_with fail
 refine HW.out.mono ?_
 rintro e w1 ⟨rfl,hm,hk⟩
 have HG:Hid (zb0 w p gb mb G M (.int .i64 E) (.returned (.int .i64 E)) w1):=⟨rfl,hm,KW.out.trans hk⟩
 clear hm hk HW
 go_wp2_with fail
 go_ret
 exact HG.out
set_option maxRecDepth 100000 in
theorem yap (h:MemAt w p gb mb G M)(n:Int)(A:Option Addr)(len cb:Nat)(hno:¬isOp M n):
  Calls Tryz.prog 19 #[.pointer (some ⟨p,0,none⟩),.int .i64 n,.slice A len cb] w (zb0 w p gb mb G M (.int .i64 (noE M))):=by
 let o1:Obj:=.cells #[.pointer (some ⟨p,0,none⟩)] 25
 let o2:Obj:=.cells #[.int .i64 n] 3
 let o3:Obj:=.cells #[.slice A len cb] 31
 have x1:Boxed (((w.alloc o1).alloc o2).alloc o3) (w.heap.size) 25 (.pointer (some ⟨p,0,none⟩)):=(((Boxed.new w 25 (.pointer (some ⟨p,0,none⟩))).alloc _).alloc _)
 have x2:Boxed (((w.alloc o1).alloc o2).alloc o3) (w.heap.size+1) 3 (.int .i64 n):=by
  have:=((Boxed.new (w.alloc o1) 3 (.int .i64 n)).alloc o3)
  rwa [World.size_alloc] at this
 have x3:Boxed (((w.alloc o1).alloc o2).alloc o3) (w.heap.size+1+1) 31 (.slice A len cb):=by
  have:=(Boxed.new ((w.alloc o1).alloc o2) 31 (.slice A len cb))
  rwa [World.size_alloc,World.size_alloc] at this
 have k0:Keeps (fun _=>False) w (((w.alloc o1).alloc o2).alloc o3):=Keeps.trans (Keeps.trans (Keeps.alloc _ _ _) (Keeps.alloc _ _ _)) (Keeps.alloc _ _ _)
 have KW:=zq (k0.mono fun _ _ f=>f.elim:Keeps (fun j=>j=p∨j=mb) w _)
 have HW:=zq (zh4 (h.keep k0 (fun f=>f) (fun f=>f) (fun f=>f)) n hno 52 #[.pointer (some ⟨w.heap.size,0,none⟩),.pointer (some ⟨w.heap.size+1+1,0,none⟩),.pointer (some ⟨w.heap.size+1,0,none⟩)])
 clear h hno x1 x2 x3 k0
 simp only[o1,o2,o3] at HW KW
 clear_value o1 o2 o3
 clear o1 o2 o3
 generalize noE M=E at *
 go_enter Tryz.func19,Tryz.ntmps19
 go_wp2_with fail
 refine HW.out.mono ?_
 rintro e w1 ⟨rfl,hm,hk⟩
 have HG:Hid (zb0 w p gb mb G M (.int .i64 E) (.returned (.int .i64 E)) w1):=⟨rfl,hm,KW.out.trans hk⟩
 clear hm hk HW
 go_wp2_with fail
 go_ret
 exact HG.out
set_option maxRecDepth 100000 in
theorem yej (h:MemAt w p gb mb G M)(n:Int)(hno:¬isOp M n):
  Calls Tryz.prog 16 #[.pointer (some ⟨p,0,none⟩),.int .i64 n] w (zb0 w p gb mb G M (.tuple #[.int .i64 0,.int .i64 (noE M)])):=by
 have hl:=h.lt
 have hb:=Boxed.new w 3 (.int .i64 0)
 have K0:=zq (Keeps.alloc (fun j=>j=p∨j=mb) w (.cells #[.int .i64 0] 3))
 have H0:=zq (h.keep (Keeps.alloc (fun _=>False) w (.cells #[.int .i64 0] 3)) (fun f=>f) (fun f=>f) (fun f=>f))
 have HW:=zq (zh4 H0.out n hno 47 #[.pointer (some ⟨w.heap.size,0,none⟩)])
 have LT:=zq (And.intro hl (World.size_alloc w (.cells #[.int .i64 0] 3)))
 have HBX:=zq hb
 clear h hno hb hl
 generalize noE M=E at *
 go_enter Tryz.func16,Tryz.ntmps16
 go_wp2_with fail
 refine HW.out.mono ?_
 rintro e w1 ⟨rfl,hm,hk⟩
 have hb:Boxed w1 w.heap.size 3 (.int .i64 0):=by
  have l0:=LT.out
  exact(hk.block _ HBX.out.lt (by omega)).trans HBX.out
 have c1:=hb.cell
 have f1:=frozen_of_row _ _ 0 _ _ hb
 have HB:=zq (zd7 hb (.int .i64 0))
 have HG:Hid (zb0 w p gb mb G M (.tuple #[.int .i64 0,.int .i64 E]) (.returned (.tuple #[.int .i64 0,.int .i64 E])) (w1.setCell ⟨w.heap.size,0,none⟩ (.int .i64 0))):=by
  have ks:=Keeps.setCell (fun j=>j=w.heap.size) w1 ⟨w.heap.size,0,none⟩ (.int .i64 0) rfl
  have l0:=LT.out
  exact⟨rfl,hm.keep ks (by omega) (by omega) (by omega),Keeps.thru (K0.out.trans hk) ks (fun _ _ f=>f) (fun i hi e=>by omega)⟩
 clear hb hm hk HW H0
 go_wp2_with fail
 refine bodyPost_ret (v:=.tuple #[.int .i64 0,.int .i64 E]) ?_ rfl HG.out
 exact zc1 rfl _ _ w.heap.size _ _ rfl rfl zdm HB.out.cell
set_option maxRecDepth 100000 in
theorem yas (h:MemAt w p gb mb G M)(n:Int)(hno:¬isOp M n):
  Calls Tryz.prog 15 #[.pointer (some ⟨p,0,none⟩),.int .i64 n] w (zb0 w p gb mb G M (.tuple #[.int .i64 0,.int .i64 (noE M)])):=by
 have hl:=h.lt
 have hb:=Boxed.new w 3 (.int .i64 0)
 have K0:=zq (Keeps.alloc (fun j=>j=p∨j=mb) w (.cells #[.int .i64 0] 3))
 have H0:=zq (h.keep (Keeps.alloc (fun _=>False) w (.cells #[.int .i64 0] 3)) (fun f=>f) (fun f=>f) (fun f=>f))
 have HW:=zq (zh4 H0.out n hno 46 #[.pointer (some ⟨w.heap.size,0,none⟩)])
 have LT:=zq (And.intro hl (World.size_alloc w (.cells #[.int .i64 0] 3)))
 have HBX:=zq hb
 clear h hno hb hl
 generalize noE M=E at *
 go_enter Tryz.func15,Tryz.ntmps15
 go_wp2_with fail
 refine HW.out.mono ?_
 rintro e w1 ⟨rfl,hm,hk⟩
 have hb:Boxed w1 w.heap.size 3 (.int .i64 0):=by
  have l0:=LT.out
  exact(hk.block _ HBX.out.lt (by omega)).trans HBX.out
 have c1:=hb.cell
 have f1:=frozen_of_row _ _ 0 _ _ hb
 have HB:=zq (zd7 hb (.int .i64 0))
 have HG:Hid (zb0 w p gb mb G M (.tuple #[.int .i64 0,.int .i64 E]) (.returned (.tuple #[.int .i64 0,.int .i64 E])) (w1.setCell ⟨w.heap.size,0,none⟩ (.int .i64 0))):=by
  have ks:=Keeps.setCell (fun j=>j=w.heap.size) w1 ⟨w.heap.size,0,none⟩ (.int .i64 0) rfl
  have l0:=LT.out
  exact⟨rfl,hm.keep ks (by omega) (by omega) (by omega),Keeps.thru (K0.out.trans hk) ks (fun _ _ f=>f) (fun i hi e=>by omega)⟩
 clear hb hm hk HW H0
 go_wp2_with fail
 refine bodyPost_ret (v:=.tuple #[.int .i64 0,.int .i64 E]) ?_ rfl HG.out
 exact zc1 rfl _ _ w.heap.size _ _ rfl rfl zdm HB.out.cell
end Hd
namespace Hd
open Go.RowKit Ex Ino Mm Fs
variable {w:World} {p gb mb:Nat} {G M:List UInt8}
set_option maxRecDepth 100000 in
theorem yel (h:MemAt w p gb mb G M)(n:Int)(hno:¬isOp M n)(K:Int):
  Calls Tryz.prog 20 #[.pointer (some ⟨p,0,none⟩),.int .i64 n,.int .i64 K] w (zb0 w p gb mb G M (.tuple #[.slice none 0 0,.int .i64 (noE M)])):=by
 have hlt:=h.lt
 let o1:Obj:=.cells #[.pointer (some ⟨p,0,none⟩)] 25
 let o2:Obj:=.cells #[.int .i64 n] 3
 let o3:Obj:=.cells #[.int .i64 K] 3
 let o4:Obj:=.cells #[.slice none 0 0] 31
 have x3:Boxed ((((w.alloc o1).alloc o2).alloc o3).alloc o4) (w.heap.size+1+1+1) 31 (.slice none 0 0):=by
  have:=Boxed.new (((w.alloc o1).alloc o2).alloc o3) 31 (.slice none 0 0)
  rwa [World.size_alloc,World.size_alloc,World.size_alloc] at this
 have k0:Keeps (fun _=>False) w ((((w.alloc o1).alloc o2).alloc o3).alloc o4):=Keeps.trans (Keeps.trans (Keeps.trans (Keeps.alloc _ _ _) (Keeps.alloc _ _ _)) (Keeps.alloc _ _ _)) (Keeps.alloc _ _ _)
 have KW:=zq (k0.mono fun _ _ f=>f.elim:Keeps (fun j=>j=p∨j=mb) w _)
 have LT:=zq hlt
 have HW:=zq (zh4 (h.keep k0 (fun f=>f) (fun f=>f) (fun f=>f)) n hno 55 #[.pointer (some ⟨w.heap.size,0,none⟩),.pointer (some ⟨w.heap.size+1+1,0,none⟩),.pointer (some ⟨w.heap.size+1+1+1,0,none⟩),.pointer (some ⟨w.heap.size+1,0,none⟩)])
 have X3:=zq x3
 simp only[o1,o2,o3,o4] at HW X3 KW
 clear_value o1 o2 o3 o4
 clear o1 o2 o3 o4 x3 k0 h hno hlt
 generalize noE M=E at *
 go_enter Tryz.func20,Tryz.ntmps20
 go_wp2_with fail
 refine HW.out.mono ?_
 rintro e w1 ⟨rfl,hm,hk⟩
 have hl:=LT.out
 have hb:=(hk.block _ X3.out.lt (by omega)).trans X3.out
 have c1:=Boxed.cell hb
 have f1:=frozen_of_row _ _ 0 _ _ hb
 have HB:=zq (zd7 hb (.slice none 0 0))
 have ks:=Keeps.setCell (fun j=>j=w.heap.size+1+1+1) w1 ⟨w.heap.size+1+1+1,0,none⟩ (.slice none 0 0) rfl
 have HG:Hid (zb0 w p gb mb G M (.tuple #[.slice none 0 0,.int .i64 E]) (.returned (.tuple #[.slice none 0 0,.int .i64 E])) (w1.setCell ⟨w.heap.size+1+1+1,0,none⟩ (.slice none 0 0))):=
  ⟨rfl,hm.keep ks (by omega) (by omega) (by omega),Keeps.thru (KW.out.trans hk) ks (fun _ _ f=>f) (fun i hi e=>by omega)⟩
 clear hb hm hk HW ks hl
 go_wp2_with fail
 refine bodyPost_ret (v:=.tuple #[.slice none 0 0,.int .i64 E]) ?_ rfl HG.out
 exact zc1 rfl _ _ (w.heap.size+1+1+1) _ _ rfl rfl aggS HB.out.cell
end Hd
end Go.Proofs.YtdopfpcjpjlkmaaGreatDoor
