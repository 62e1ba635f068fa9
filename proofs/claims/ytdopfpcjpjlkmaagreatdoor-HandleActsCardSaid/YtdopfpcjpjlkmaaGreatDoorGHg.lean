/- merged -/
import Derived.Test.YtdopfpcjpjlkmaaGreatDoorGHf
set_option maxHeartbeats 1000000
set_option linter.unusedSimpArgs false
set_option linter.unusedVariables false
namespace Go.Proofs.YtdopfpcjpjlkmaaGreatDoor
namespace Hd
open Go.RowKit Ex Ino Mm Fs Fr
variable {w:World} {p gb mb:Nat} {G M:List UInt8}
theorem ztf (h:MemAt w p gb mb G M)(name:List UInt8)(hn:name.length≤9223372036854775807):
  Calls Tryz.prog 49 #[.pointer (some ⟨p,0,none⟩),St name] w (zb0 w p gb mb G M (.tuple #[.int .i64 (fN M name:Int),.int .i64 (fE M name)])):=by
 unfold fN fE
 by_cases ho:okR (zab M)
 ·rw[zp ho,zp ho]
  exact(zmo (zci h) ho name hn).mono fun _ _ x=>⟨x.2.2,x.1,x.2.1.mono fun _ _ e=>.inr e⟩
 ·rw[zn ho,zn ho]
  exact(ybg (zci h) ho name).mono fun _ _ x=>⟨x.2.2,x.1,x.2.1.mono fun _ _ e=>.inr e⟩
theorem zrl (h:MemAt w p gb mb G M)(ho:okR (zab M)):
  Calls Tryz.prog 50 #[.pointer (some ⟨p,0,none⟩)] w (zb0 w p gb mb G M (.tuple #[.int .i64 (zdy M:Int),.int .i64 (if zdy M=0 then 130 else 0)])):=by
 refine(zoc h ho).mono ?_
 rintro e w' ⟨v,hv,x1,x2,x3⟩
 refine⟨?_,x2,x3⟩
 rw[x1]
 congr 1
 have hup:∀ k,k≤4→(∀ j,j<k→isO M (j+1)=true)→UpB M k:=fun k hk hj j hlt=>by rw[zuh M ho (j+1) (by omega) (by omega)];exact hj j hlt
 rcases hv with⟨k,hk,hj,hno,rfl⟩|⟨hj,rfl⟩
 ·have:=zz6 (hup k (by omega) hj) hk (by rw[zuh M ho (k+1) (by omega) (by omega)];exact hno)
  rw[this,zn (by omega)]
  rfl
 ·rw[zqw (hup 4 (by omega) hj),zp rfl]
  rfl
set_option maxRecDepth 100000 in
theorem zrg (h:MemAt w p gb mb G M)(name:List UInt8)(hn:name.length≤9223372036854775807):
  Calls Tryz.prog 18 #[.pointer (some ⟨p,0,none⟩),St name] w (zb0 w p gb mb G (zjx M name).2.2 (.tuple #[.int .i64 (zjx M name).1,.int .i64 (zjx M name).2.1])):=by
 have HF:=zq (ztf h name hn)
 have hfn:=yh9 M name
 have hlo:=zmd M
 unfold zjx
 by_cases hE:fE M name≠0
 ·rw[zp hE]
  have t1:(fE M name != 0)=true:=by simpa using hE
  clear h hE
  generalize fE M name=E at *
  generalize fN M name=n at *
  go_enter Tryz.func18,Tryz.ntmps18
  go_wp2_with fail
  refine HF.out.mono ?_
  rintro e1 w1 ⟨rfl,m1,k1⟩
  have HG:Hid (zb0 w p gb mb G M (.tuple #[.int .i64 0,.int .i64 E]) (.returned (.tuple #[.int .i64 0,.int .i64 E])) w1):=⟨rfl,m1,k1⟩
  clear m1 k1 HF
  go_wp2_with fail
  go_ret2
  exact HG.out
 ·rw[zn hE]
  have hE0:fE M name=0:=Classical.not_not.1 hE
  have ho:okR (zab M):=by
   unfold fE at hE0
   by_cases ho:okR (zab M)
   ·exact ho
   ·rw[zn ho] at hE0;cases hE0
  rw[hE0] at HF
  have HC:=zq (fun W (hW:MemAt W p gb mb G M)=>zrl hW ho)
  clear hE hE0
  by_cases hz:zdy M=0
  ·rw[zp hz]
   rw[hz,zp rfl] at HC
   clear h hz hlo ho
   generalize fN M name=n at *
   go_enter Tryz.func18,Tryz.ntmps18
   go_wp2_with fail
   refine HF.out.mono ?_
   rintro e1 w1 ⟨rfl,m1,k1⟩
   have H2:=zq (HC.out w1 m1)
   have K1:=zq k1
   clear m1 k1 HF HC
   go_wp2_with fail
   refine H2.out.mono ?_
   rintro e2 w2 ⟨rfl,m2,k2⟩
   have HG:Hid (zb0 w p gb mb G M (.tuple #[.int .i64 0,.int .i64 130]) (.returned (.tuple #[.int .i64 0,.int .i64 130])) w2):=⟨rfl,m2,K1.out.trans k2⟩
   clear m2 k2 H2 K1
   go_wp2_with fail
   go_ret2
   exact HG.out
  ·rw[zn hz]
   rw[zn hz] at HC
   have HL:=zq (fun W (hW:MemAt W p gb mb G M)=>zmf hW (zdy M) (by omega) hlo ((fN M name:Int)+1) 0)
   have hw:wrap64 ((fN M name:Int)+1)=(fN M name:Int)+1:=by unfold wrap64;omega
   clear h hz hlo ho hfn
   generalize fN M name=n at *
   generalize zdy M=k at *
   generalize zdb M k ((n:Int)+1) 0=M2 at *
   go_enter Tryz.func18,Tryz.ntmps18
   go_wp2_with fail
   refine HF.out.mono ?_
   rintro e1 w1 ⟨rfl,m1,k1⟩
   have H2:=zq (HC.out w1 m1)
   have K1:=zq k1
   clear m1 k1 HF HC
   go_wp2_with fail
   refine H2.out.mono ?_
   rintro e2 w2 ⟨rfl,m2,k2⟩
   have H3:=zq (HL.out w2 m2)
   have K2:=zq (K1.out.trans k2)
   clear m2 k2 H2 HL K1
   go_wp2_with fail
   try rw[hw]
   refine H3.out.mono ?_
   rintro e3 w3 ⟨rfl,m3,k3⟩
   have HG:Hid (zb0 w p gb mb G M2 (.tuple #[.int .i64 (k:Int),.int .i64 0]) (.returned (.tuple #[.int .i64 (k:Int),.int .i64 0])) w3):=⟨rfl,m3,K2.out.trans k3⟩
   clear m3 k3 H3 K2
   go_wp2_with fail
   go_ret2
   exact HG.out
noncomputable def zlb (M name:List UInt8):Int × List UInt8:=
 if za5 (zaa (zab M)) name=123 then
  (if (zae (za6 M) name).1=0 then
   ((zag (za6 (zbx M 6144 (zad (zae (za6 M) name).2.2))) ((zae (za6 M) name).2.1:Int) 0).1,
    zbz (zbx M 6144 (zad (zae (za6 M) name).2.2)) (zag (za6 (zbx M 6144 (zad (zae (za6 M) name).2.2))) ((zae (za6 M) name).2.1:Int) 0))
  else ((zae (za6 M) name).1,M))
 else if za5 (zaa (zab M)) name=0 then ((zag (za6 M) (zbi (zaa (zab M)) name:Int) 0).1,zbz M (zag (za6 M) (zbi (zaa (zab M)) name:Int) 0))
 else (za5 (zaa (zab M)) name,M)
theorem zrf (h:MemAt w p gb mb G M)(ho:okR (zab M))(hT:Tab w)(hmb:mb≠0)(n s:Int):
  Calls Tryz.prog 81 #[.pointer (some ⟨p,0,none⟩),.int .i64 n,.int .i64 s] w (zb0 w p gb mb G (zbz M (zag (za6 M) n s)) (.int .i64 (zag (za6 M) n s).1)):=zig h ho hT hmb n s
set_option maxRecDepth 100000 in
theorem zx2 (h:MemAt w p gb mb G M)(ho:okR (zab M))(hT:Tab w)(hmb:mb≠0)(hp:p≠0)(name:List UInt8)(hn:name.length≤9223372036854775807):
  Calls Tryz.prog 95 #[.pointer (some ⟨p,0,none⟩),St name] w (zb0 w p gb mb G (zlb M name).2 (.int .i64 (zlb M name).1)):=by
 have hff:=ztf h name hn
 unfold fN fE at hff
 rw[zp ho,zp ho] at hff
 have HF:=zq hff
 have HT:=zq hT
 have hgd:=zfr h.ml ho
 unfold zlb
 by_cases h123:za5 (zaa (zab M)) name=123
 ·rw[zp h123]
  rw[h123] at HF
  have HCR:=zq (fun W (hW:MemAt W p gb mb G M)=>zmp hW ho name hn)
  by_cases hc0:(zae (za6 M) name).1=0
  ·rw[zp hc0]
   have ho1:okR (zab (zbx M 6144 (zad (zae (za6 M) name).2.2))):=(zza h.ml (cre_ok hgd name hc0)).1
   have HC:Hid (∀ W,MemAt W p gb mb G M→Calls Tryz.prog 127 #[.pointer (some ⟨p,0,none⟩),St name] W (zb0 W p gb mb G (zbx M 6144 (zad (zae (za6 M) name).2.2)) (.tuple #[.int .i64 ((zae (za6 M) name).2.1:Int),.int .i64 0]))):=fun W hW=>by
    refine(HCR.out W hW).mono ?_
    rintro e w' ⟨x1,m,k⟩
    have hc0':(zae ⟨zab M,zaa (zab M)⟩ name).1=0:=hc0
    rw[hc0'] at x1
    rw[zp hc0'] at m
    exact⟨x1,m,k⟩
   have HR:=zq (fun W (hW:MemAt W p gb mb G (zbx M 6144 (zad (zae (za6 M) name).2.2))) (hT:Tab W)=>zrf hW ho1 hT hmb ((zae (za6 M) name).2.1:Int) 0)
   clear h ho hff h123 hc0 hT hgd HCR ho1
   generalize zbx M 6144 (zad (zae (za6 M) name).2.2)=M1 at *
   generalize (zae (za6 M) name).2.1=i at *
   generalize zbz M1 (zag (za6 M1) (i:Int) 0)=M2 at *
   generalize (zag (za6 M1) (i:Int) 0).1=E at *
   generalize zbi (zaa (zab M)) name=fn at *
   go_enter Tryz.func95,Tryz.ntmps95
   go_wp2_with fail
   refine HF.out.mono ?_
   rintro e w1 ⟨rfl,m1,k1⟩
   have H2:=zq (HC.out w1 m1)
   have K1:=zq k1
   clear m1 k1 HF HC
   go_wp2_with fail
   refine H2.out.mono ?_
   rintro e w2 ⟨rfl,m2,k2⟩
   have kk:=K1.out.trans k2
   have H3:=zq (HR.out w2 m2 (HT.out.keep (kk.block 0 HT.out.pos (by omega))))
   have K2:=zq kk
   clear m2 k2 H2 HR K1 kk
   go_wp2_with fail
   refine H3.out.mono ?_
   rintro e w3 ⟨rfl,m3,k3⟩
   have HG:Hid (zb0 w p gb mb G M2 (.int .i64 E) (.returned (.int .i64 E)) w3):=⟨rfl,m3,K2.out.trans k3⟩
   clear m3 k3 H3 K2
   go_wp2_with fail
   go_ret
   exact HG.out
  ·rw[zn hc0]
   have tc:((zae (za6 M) name).1 != 0)=true:=by simpa using hc0
   have HC:Hid (∀ W,MemAt W p gb mb G M→Calls Tryz.prog 127 #[.pointer (some ⟨p,0,none⟩),St name] W (zb0 W p gb mb G M (.tuple #[.int .i64 ((zae (za6 M) name).2.1:Int),.int .i64 (zae (za6 M) name).1]))):=fun W hW=>by
    refine(HCR.out W hW).mono ?_
    rintro e w' ⟨x1,m,k⟩
    have hc0':¬(zae ⟨zab M,zaa (zab M)⟩ name).1=0:=hc0
    rw[zn hc0'] at m
    exact⟨x1,m,k⟩
   clear h ho hff h123 hc0 hT hgd HCR
   generalize (zae (za6 M) name).2.1=i at *
   generalize (zae (za6 M) name).1=E at *
   generalize zbi (zaa (zab M)) name=fn at *
   go_enter Tryz.func95,Tryz.ntmps95
   go_wp2_with fail
   refine HF.out.mono ?_
   rintro e w1 ⟨rfl,m1,k1⟩
   have H2:=zq (HC.out w1 m1)
   have K1:=zq k1
   clear m1 k1 HF HC
   go_wp2_with fail
   refine H2.out.mono ?_
   rintro e w2 ⟨rfl,m2,k2⟩
   have HG:Hid (zb0 w p gb mb G M (.int .i64 E) (.returned (.int .i64 E)) w2):=⟨rfl,m2,K1.out.trans k2⟩
   clear m2 k2 H2 K1
   go_wp2_with fail
   go_ret
   exact HG.out
 ·rw[zn h123]
  have t1:(za5 (zaa (zab M)) name==123)=false:=by simpa using h123
  by_cases h0:za5 (zaa (zab M)) name=0
  ·rw[zp h0]
   rw[h0] at HF
   have HR:=zq (fun W (hW:MemAt W p gb mb G M) (hT:Tab W)=>zrf hW ho hT hmb (zbi (zaa (zab M)) name:Int) 0)
   clear h ho hff h123 h0 hT hgd t1
   generalize zbi (zaa (zab M)) name=i at *
   generalize zbz M (zag (za6 M) (i:Int) 0)=M2 at *
   generalize (zag (za6 M) (i:Int) 0).1=E at *
   go_enter Tryz.func95,Tryz.ntmps95
   go_wp2_with fail
   refine HF.out.mono ?_
   rintro e w1 ⟨rfl,m1,k1⟩
   have H3:=zq (HR.out w1 m1 (HT.out.keep (k1.block 0 HT.out.pos (by omega))))
   have K1:=zq k1
   clear m1 k1 HF HR
   go_wp2_with fail
   refine H3.out.mono ?_
   rintro e w3 ⟨rfl,m3,k3⟩
   have HG:Hid (zb0 w p gb mb G M2 (.int .i64 E) (.returned (.int .i64 E)) w3):=⟨rfl,m3,K1.out.trans k3⟩
   clear m3 k3 H3 K1
   go_wp2_with fail
   go_ret
   exact HG.out
  ·rw[zn h0]
   have t2:(za5 (zaa (zab M)) name != 0)=true:=by simpa using h0
   clear h ho hff h123 h0 hT hgd
   generalize zbi (zaa (zab M)) name=i at *
   generalize za5 (zaa (zab M)) name=E at *
   go_enter Tryz.func95,Tryz.ntmps95
   go_wp2_with fail
   refine HF.out.mono ?_
   rintro e w1 ⟨rfl,m1,k1⟩
   have HG:Hid (zb0 w p gb mb G M (.int .i64 E) (.returned (.int .i64 E)) w1):=⟨rfl,m1,k1⟩
   clear m1 k1 HF
   go_wp2_with fail
   go_ret
   exact HG.out
noncomputable def zka (M name:List UInt8):Int × Int × List UInt8:=by
 classical
 exact
  if ¬okR (zab M) then (0,120,M) else if zbg name=false then (0,121,M) else if zdy M=0 then (0,130,M) else
  if (zlb M name).1≠0 then (0,(zlb M name).1,(zlb M name).2) else zjx (zlb M name).2 name
set_option maxRecDepth 100000 in
theorem zth (h:MemAt w p gb mb G M)(hT:Tab w)(hmb:mb≠0)(hp:p≠0)(name:List UInt8)(hn:name.length≤9223372036854775807):
  Calls Tryz.prog 48 #[.pointer (some ⟨p,0,none⟩),St name] w (zb0 w p gb mb G (zka M name).2.2 (.tuple #[.int .i64 (zka M name).1,.int .i64 (zka M name).2.1])):=by
 have HCK:=zq (zhp (zci h))
 have HT:=zq hT
 unfold zka
 by_cases ho:okR (zab M)
 case neg =>
  rw[zp ho]
  have HO:=zq ho
  clear h ho hT
  go_enter Tryz.func48,Tryz.ntmps48
  go_wp2_with fail
  refine HCK.out.mono ?_
  rintro e w1 ⟨m1,k1,⟨hy,-⟩|⟨-,rfl⟩⟩
  ·exact absurd hy HO.out
  have HG:Hid (zb0 w p gb mb G M (.tuple #[.int .i64 0,.int .i64 120]) (.returned (.tuple #[.int .i64 0,.int .i64 120])) w1):=⟨rfl,m1,k1.mono fun _ _ e=>Or.inr e⟩
  clear m1 k1 HCK
  go_wp2_with fail
  go_ret2
  exact HG.out
 rw[zn (Classical.not_not.2 ho)]
 have HCK2:Hid (Calls Tryz.prog 93 #[.pointer (some ⟨p,0,none⟩)] w (zb0 w p gb mb G M (.int .i64 0))):=by
  refine HCK.out.mono ?_
  rintro e w1 ⟨m1,k1,⟨-,he⟩|⟨hno,-⟩⟩
  ·exact⟨he,m1,k1.mono fun _ _ e=>Or.inr e⟩
  ·exact absurd ho hno
 have HNM:=zq (fun W=>zfm name W hn)
 clear HCK
 cases hnb:zbg name with
 | false =>
  rw[zp rfl]
  rw[hnb] at HNM
  clear h ho hnb hT
  go_enter Tryz.func48,Tryz.ntmps48
  go_wp2_with fail
  refine HCK2.out.mono ?_
  rintro e w1 ⟨rfl,m1,k1⟩
  have M1:=zq m1
  have K1:=zq k1
  clear m1 k1 HCK2
  go_wp2_with fail
  refine(HNM.out _).mono ?_
  rintro e w2 ⟨rfl,b2⟩
  have kb:Keeps (fun _=>False) w1 w2:=zac b2
  have HG:Hid (zb0 w p gb mb G M (.tuple #[.int .i64 0,.int .i64 121]) (.returned (.tuple #[.int .i64 0,.int .i64 121])) w2):=⟨rfl,M1.out.keep kb (fun f=>f) (fun f=>f) (fun f=>f),K1.out.trans (kb.mono fun _ _ f=>f.elim)⟩
  clear b2 kb M1 K1 HNM
  go_wp2_with fail
  go_ret2
  exact HG.out
 | true =>
  rw[zn (by simp)]
  rw[hnb] at HNM
  have HC:=zq (fun W (hW:MemAt W p gb mb G M)=>zrl hW ho)
  by_cases hz:zdy M=0
  ·rw[zp hz]
   rw[hz,zp rfl] at HC
   clear h ho hnb hz hT
   go_enter Tryz.func48,Tryz.ntmps48
   go_wp2_with fail
   refine HCK2.out.mono ?_
   rintro e w1 ⟨rfl,m1,k1⟩
   have M1:=zq m1
   have K1:=zq k1
   clear m1 k1 HCK2
   go_wp2_with fail
   refine(HNM.out _).mono ?_
   rintro e w2 ⟨rfl,b2⟩
   have kb:Keeps (fun _=>False) w1 w2:=zac b2
   have H3:=zq (HC.out w2 (M1.out.keep kb (fun f=>f) (fun f=>f) (fun f=>f)))
   have K2:=zq (K1.out.trans (kb.mono fun _ _ f=>f.elim))
   clear b2 kb M1 K1 HNM HC
   go_wp2_with fail
   refine H3.out.mono ?_
   rintro e w3 ⟨rfl,m3,k3⟩
   have HG:Hid (zb0 w p gb mb G M (.tuple #[.int .i64 0,.int .i64 130]) (.returned (.tuple #[.int .i64 0,.int .i64 130])) w3):=⟨rfl,m3,K2.out.trans k3⟩
   clear m3 k3 H3 K2
   go_wp2_with fail
   go_ret2
   exact HG.out
  ·rw[zn hz]
   rw[zn hz] at HC
   have HE:=zq (fun W (hW:MemAt W p gb mb G M) (hT:Tab W)=>zx2 hW ho hT hmb hp name hn)
   by_cases he:(zlb M name).1≠0
   ·rw[zp he]
    have te:((zlb M name).1 != 0)=true:=by simpa using he
    clear h ho hnb hz hT he
    generalize (zlb M name).1=E at *
    generalize (zlb M name).2=M2 at *
    generalize zdy M=lo at *
    go_enter Tryz.func48,Tryz.ntmps48
    go_wp2_with fail
    refine HCK2.out.mono ?_
    rintro e w1 ⟨rfl,m1,k1⟩
    have M1:=zq m1
    have K1:=zq k1
    clear m1 k1 HCK2
    go_wp2_with fail
    refine(HNM.out _).mono ?_
    rintro e w2 ⟨rfl,b2⟩
    have kb:Keeps (fun _=>False) w1 w2:=zac b2
    have H3:=zq (HC.out w2 (M1.out.keep kb (fun f=>f) (fun f=>f) (fun f=>f)))
    have K2:=zq (K1.out.trans (kb.mono fun _ _ f=>f.elim))
    clear b2 kb M1 K1 HNM HC
    go_wp2_with fail
    refine H3.out.mono ?_
    rintro e w3 ⟨rfl,m3,k3⟩
    have kk:=K2.out.trans k3
    have H4:=zq (HE.out w3 m3 (HT.out.keep (kk.block 0 HT.out.pos (by omega))))
    have K3:=zq kk
    clear m3 k3 H3 K2 kk HE
    go_wp2_with fail
    refine H4.out.mono ?_
    rintro e w4 ⟨rfl,m4,k4⟩
    have HG:Hid (zb0 w p gb mb G M2 (.tuple #[.int .i64 0,.int .i64 E]) (.returned (.tuple #[.int .i64 0,.int .i64 E])) w4):=⟨rfl,m4,K3.out.trans k4⟩
    clear m4 k4 H4 K3
    go_wp2_with fail
    go_ret2
    exact HG.out
   ·rw[zn he]
    have he0:(zlb M name).1=0:=Classical.not_not.1 he
    rw[he0] at HE
    have HOP:=zq (fun W (hW:MemAt W p gb mb G (zlb M name).2)=>zrg hW name hn)
    clear h ho hnb hz hT he he0
    generalize (zlb M name).2=M2 at *
    generalize (zjx M2 name).2.2=M3 at *
    generalize (zjx M2 name).1=hh at *
    generalize (zjx M2 name).2.1=E at *
    generalize zdy M=lo at *
    go_enter Tryz.func48,Tryz.ntmps48
    go_wp2_with fail
    refine HCK2.out.mono ?_
    rintro e w1 ⟨rfl,m1,k1⟩
    have M1:=zq m1
    have K1:=zq k1
    clear m1 k1 HCK2
    go_wp2_with fail
    refine(HNM.out _).mono ?_
    rintro e w2 ⟨rfl,b2⟩
    have kb:Keeps (fun _=>False) w1 w2:=zac b2
    have H3:=zq (HC.out w2 (M1.out.keep kb (fun f=>f) (fun f=>f) (fun f=>f)))
    have K2:=zq (K1.out.trans (kb.mono fun _ _ f=>f.elim))
    clear b2 kb M1 K1 HNM HC
    go_wp2_with fail
    refine H3.out.mono ?_
    rintro e w3 ⟨rfl,m3,k3⟩
    have kk:=K2.out.trans k3
    have H4:=zq (HE.out w3 m3 (HT.out.keep (kk.block 0 HT.out.pos (by omega))))
    have K3:=zq kk
    clear m3 k3 H3 K2 kk HE
    go_wp2_with fail
    refine H4.out.mono ?_
    rintro e w4 ⟨rfl,m4,k4⟩
    have H5:=zq (HOP.out w4 m4)
    have K4:=zq (K3.out.trans k4)
    clear m4 k4 H4 K3 HOP
    go_wp2_with fail
    refine H5.out.mono ?_
    rintro e w5 ⟨rfl,m5,k5⟩
    have HG:Hid (zb0 w p gb mb G M3 (.tuple #[.int .i64 hh,.int .i64 E]) (.returned (.tuple #[.int .i64 hh,.int .i64 E])) w5):=⟨rfl,m5,K4.out.trans k5⟩
    clear m5 k5 H5 K4
    go_wp2_with fail
    go_ret2
    exact HG.out
noncomputable def zxx (M name:List UInt8):Int × Int × List UInt8:=if (zka M name).2.1≠0 then (0,(zka M name).2.1,M) else zka M name
set_option maxRecDepth 100000 in
theorem zrk (h:MemAt w p gb mb G M)(hT:Tab w)(hmb:mb≠0)(hp:p≠0)(name:List UInt8)(hn:name.length≤9223372036854775807):
  Calls Tryz.prog 17 #[.pointer (some ⟨p,0,none⟩),St name] w (zb0 w p gb mb G (zxx M name).2.2 (.tuple #[.int .i64 (zxx M name).1,.int .i64 (zxx M name).2.1])):=by
 have ml:=h.ml
 have HC:=zq (fun (W:World) (p gb mb:Nat) (G:List UInt8) (hm:MemAt W p gb mb G M) (ht:Tab W) (h1:mb≠0) (h2:p≠0)=>zth hm ht h1 h2 name hn)
 have HB:=zq (zmc h)
 have HT:=zq hT
 have LT:=zq h.lt
 unfold zxx
 clear h hT
 by_cases h0:(zka M name).2.1≠0
 ·rw[zp h0]
  have te:((zka M name).2.1 != 0)=true:=by simpa using h0
  clear h0
  generalize (zka M name).2.2=M3 at *
  generalize (zka M name).1=hh at *
  generalize (zka M name).2.1=E at *
  go_enter Tryz.func17,Tryz.ntmps17
  go_wp2_with fail
  refine HB.out.mono ?_
  rintro e w1 ⟨g,rfl,hg,hr,hm,hk⟩
  have hl:=LT.out
  have hT1:=HT.out.keep (hk.block 0 HT.out.pos (by omega))
  have s1:=hk.size
  have hfl:=zj4 g M M.length w1 ml hr.br
  rw[ml] at hfl
  have HFL:=zq hfl
  have HM1:=zq hm
  have K1:Hid (Keeps (fun j=>j=p∨j=mb) w w1):=hk.mono fun _ _ e=>Or.inr e
  have HT1:=zq hT1
  have S1:=zq s1
  have hp1:=hT1.pos
  clear hr hm hk hT1 s1 HB hfl
  go_wp2_with fail
  refine HFL.out.mono ?_
  rintro e w2 ⟨q,gq,mq,rfl,⟨q1,q3⟩,hq,kq⟩
  have hT2:=HT1.out.keep (kq.block 0 hp1 (fun f=>f))
  have s1:=S1.out
  have HM2:=zq (HM1.out.keep kq (fun f=>f) (fun f=>f) (fun f=>f))
  have K2:Hid (Keeps (fun j=>j=p∨j=mb) w w2):=K1.out.trans (kq.mono fun _ _ f=>f.elim)
  have H3:=zq (HC.out w2 q gq mq M hq hT2 (by omega) (by omega))
  have HT2:=zq hT2
  have QQ:Hid (w.heap.size≤q∧w.heap.size≤mq∧w1.heap.size≤q∧w1.heap.size≤mq):=⟨by omega,by omega,q1,q3⟩
  have hp2:=hT2.pos
  clear hq kq hT2 HFL HM1 K1 HT1 S1 q1 q3 s1
  go_wp2_with fail
  refine H3.out.mono ?_
  rintro e w3 ⟨rfl,m3,k3⟩
  have qq:=QQ.out
  have hT3:=HT2.out.keep (k3.block 0 hp2 (by omega))
  have HM3:=HM2.out.keep k3 (fun f=>by omega) (fun f=>by omega) (fun f=>by omega)
  have K3:Hid (Keeps (fun j=>j=p∨j=mb) w w3):=Keeps.thru K2.out k3 (fun _ _ f=>f) (fun i hi e=>by omega)
  have HG:Hid (zb0 w p gb mb G M (.tuple #[.int .i64 0,.int .i64 E]) (.returned (.tuple #[.int .i64 0,.int .i64 E])) w3):=⟨rfl,HM3,K3.out⟩
  clear m3 k3 hT3 HM3 HM2 K2 HT2 H3 HC qq K3
  go_wp2_with fail
  go_ret2
  exact HG.out
 ·rw[zn h0]
  have hz:(zka M name).2.1=0:=Classical.not_not.1 h0
  rw[hz] at HC ⊢
  clear h0 hz
  generalize (zka M name).2.2=M3 at *
  generalize (zka M name).1=hh at *
  go_enter Tryz.func17,Tryz.ntmps17
  go_wp2_with fail
  refine HB.out.mono ?_
  rintro e w1 ⟨g,rfl,hg,hr,hm,hk⟩
  have hl:=LT.out
  have hT1:=HT.out.keep (hk.block 0 HT.out.pos (by omega))
  have s1:=hk.size
  have hfl:=zj4 g M M.length w1 ml hr.br
  rw[ml] at hfl
  have HFL:=zq hfl
  have HM1:=zq hm
  have K1:Hid (Keeps (fun j=>j=p∨j=mb) w w1):=hk.mono fun _ _ e=>Or.inr e
  have HT1:=zq hT1
  have S1:=zq s1
  have hp1:=hT1.pos
  clear hr hm hk hT1 s1 HB hfl
  go_wp2_with fail
  refine HFL.out.mono ?_
  rintro e w2 ⟨q,gq,mq,rfl,⟨q1,q3⟩,hq,kq⟩
  have hT2:=HT1.out.keep (kq.block 0 hp1 (fun f=>f))
  have s1:=S1.out
  have HM2:=zq (HM1.out.keep kq (fun f=>f) (fun f=>f) (fun f=>f))
  have K2:Hid (Keeps (fun j=>j=p∨j=mb) w w2):=K1.out.trans (kq.mono fun _ _ f=>f.elim)
  have H3:=zq (HC.out w2 q gq mq M hq hT2 (by omega) (by omega))
  have HT2:=zq hT2
  have QQ:Hid (w.heap.size≤q∧w.heap.size≤mq∧w1.heap.size≤q∧w1.heap.size≤mq):=⟨by omega,by omega,q1,q3⟩
  have hp2:=hT2.pos
  clear hq kq hT2 HFL HM1 K1 HT1 S1 q1 q3 s1
  go_wp2_with fail
  refine H3.out.mono ?_
  rintro e w3 ⟨rfl,m3,k3⟩
  have qq:=QQ.out
  have hT3:=HT2.out.keep (k3.block 0 hp2 (by omega))
  have HM3:=HM2.out.keep k3 (fun f=>by omega) (fun f=>by omega) (fun f=>by omega)
  have K3:Hid (Keeps (fun j=>j=p∨j=mb) w w3):=Keeps.thru K2.out k3 (fun _ _ f=>f) (fun i hi e=>by omega)
  have H4:=zq (HC.out w3 p gb mb G HM3 hT3 hmb hp)
  clear m3 k3 hT3 HM3 HM2 K2 HT2 H3 HC
  go_wp2_with fail
  refine H4.out.mono ?_
  rintro e w4 ⟨rfl,m4,k4⟩
  have HG:Hid (zb0 w p gb mb G M3 (.tuple #[.int .i64 hh,.int .i64 0]) (.returned (.tuple #[.int .i64 hh,.int .i64 0])) w4):=⟨rfl,m4,K3.out.trans k4⟩
  clear m4 k4 H4 K3
  go_wp2_with fail
  go_ret2
  exact HG.out
end Hd
namespace Hd
open Go.RowKit Go.Maps Ex Ino Mm Fs Fr
variable {w:World} {mi q b c d e:Nat} {M G:List UInt8}
def zob (M:List UInt8) (n:Int) (l:List Nat):List UInt8:=l.foldl (fun X h=>if hN M h=n then zdb X h 0 0 else X) M
theorem zmt (M:List UInt8)(n:Int)(l:List Nat)(h:Nat):zob M n (l++[h])=if hN M h=n then zdb (zob M n l) h 0 0 else zob M n l:=by
 unfold zob
 rw[List.foldl_append,List.foldl_cons,List.foldl_nil]
theorem zxy (hm:M.length=8192)(n:Int):∀ (l:List Nat),(∀ h∈l,1≤h∧h≤4)→(zob M n l).length=8192∧zab (zob M n l)=zab M ∧
  (∀ x,1≤x→x≤4→x ∉ l→hF (zob M n l) x=hF M x∧hP (zob M n l) x=hP M x)∧(∀ x,1≤x→x≤4→x∈l→hF (zob M n l) x=if hN M x=n then 0 else hF M x):=by
 intro l
 induction hl:l.length generalizing l with
 | zero =>
  intro _
  obtain rfl:l=[]:=List.length_eq_zero_iff.1 hl
  exact⟨hm,rfl,fun x _ _ _=>⟨rfl,rfl⟩,fun x _ _ h=>by cases h⟩
 | succ m ih =>
  intro hr
  obtain⟨l',h,rfl⟩:∃ l' h,l=l'++[h]:=⟨l.dropLast,l.getLast (by intro e;rw[e] at hl;cases hl),(List.dropLast_concat_getLast _).symm⟩
  rw[List.length_append,List.length_singleton] at hl
  obtain⟨i1,i2,i3,i4⟩:=ih l' (by omega) (fun x hx=>hr x (List.mem_append_left _ hx))
  obtain⟨hh1,hh4⟩:=hr h (by simp)
  rw[zmt]
  by_cases hn:hN M h=n
  ·rw[zp hn]
   refine⟨by rw[zen];exact i1,by rw[ziy i1 hh1 hh4];exact i2,fun x x1 x4 hx=>?_,fun x x1 x4 hx=>?_⟩
   ·have hne:x≠h:=fun e=>hx (by rw[e];simp)
    obtain⟨a1,a2⟩:=i3 x x1 x4 (fun e=>hx (List.mem_append_left _ e))
    exact⟨by rw[ze4 i1 hh1 x1 x4 hne];exact a1,by rw[zk7 i1 hh1 x1 x4 hne];exact a2⟩
   ·by_cases e:x=h
    ·subst e
     rw[zie i1 hh1 hh4 0 0 (by omega),zp hn]
    ·have hx':x∈l':=by
      rcases List.mem_append.1 hx with h1 | h1
      ·exact h1
      ·exact absurd (by simpa using h1) e
     rw[ze4 i1 hh1 x1 x4 e]
     exact i4 x x1 x4 hx'
  ·rw[zn hn]
   refine⟨i1,i2,fun x x1 x4 hx=>i3 x x1 x4 (fun e=>hx (List.mem_append_left _ e)),fun x x1 x4 hx=>?_⟩
   by_cases hx':x∈l'
   ·exact i4 x x1 x4 hx'
   ·obtain rfl:x=h:=by
     rcases List.mem_append.1 hx with h1 | h1
     ·exact absurd h1 hx'
     ·simpa using h1
    rw[(i3 x x1 x4 hx').1,zn hn]
theorem opK_lt (M:List UInt8)(k:Nat):(opK M k).Pairwise (· < ·):=by
 induction k with
 | zero=>exact List.Pairwise.nil
 | succ k ih =>
  unfold opK
  split
  ·rw[List.pairwise_append]
   exact⟨ih,List.pairwise_singleton _ _,fun a ha b hb=>by
    have:=((zzp M k a).1 ha).2.1
    rw[List.mem_singleton] at hb
    omega⟩
  ·exact ih
theorem yhi (M:List UInt8)(j:Nat)(hj:j<(opL M).length):(opL M)[j] ∉ (opL M).take j:=by
 intro hm
 obtain⟨i,hi,he⟩:=List.getElem_of_mem hm
 rw[List.length_take] at hi
 rw[List.getElem_take] at he
 have hp:(opL M).Pairwise (· < ·):=opK_lt M 4
 have:=List.pairwise_iff_getElem.1 hp i j (by omega) hj (by omega)
 rw[he] at this
 omega
theorem yag {X:List UInt8} {h:Nat} (hr:zab X=zab M)(hf:hF X h=hF M h):(isOp X (h:Int)↔isOp M (h:Int))∧hN X h=hN M h:=by
 have hn:hN X h=hN M h:=by unfold hN;rw[hf]
 refine⟨?_,hn⟩
 unfold isOp isO
 rw[hr,Int.toNat_natCast,hn]
noncomputable def ycv (M name:List UInt8):Int × List UInt8:=
 if fE M name≠0 then (fE M name,M) else ((zbk (za6 M) name).1,zbz (zob M (fN M name:Int) (opL M)) (zbk (za6 M) name))
theorem IR.via {w w':World} {R:Option Addr} {l:List Nat} (h:IR w R l){F:Nat→Prop} (k:Keeps F w w')(hF:∀ ad,R=some ad→¬F ad.block):IR w' R l:=fun i x hx=>by
 obtain⟨g,e,hg,hc⟩:=h i x hx
 exact⟨g,e,Nat.lt_of_lt_of_le hg k.size,(k.cell g i hg (hF _ e)).trans hc⟩
theorem Th.go {b1 b2:Nat} {w1 w2:World} (t:Th w q b b1 w1)(hb2:b2=b1∨w1.heap.size≤b2)(k2:Keeps (fun k=>k=q∨k=b1) w1 w2):Th w q b b2 w2:=by
 have hs:=t.kp.size
 have hn:=t.new
 refine⟨by omega,Keeps.thru t.kp k2 (fun _ _ x=>x) fun i hi x=>?_⟩
 rcases x with x | x
 ·exact .inl x
 ·rcases hn with h | h
  ·exact .inr (by rw[x,h])
  ·omega
def DlR (w:World) (mi q b d e:Nat) (G M:List UInt8) (n:Int) (L:List Nat) (R:Option Addr) (g:Nat) (iv:Value) (wr:World):Prop:=
 ∃ j b1 c1,g=L.length-j∧j≤L.length∧iv=.int .i64 (j:Int)∧Th w q b b1 wr∧RefH wr mi q b1 c1 d e (zob M n (L.take j)) G∧IR wr R L∧(∀ ad,R=some ad→w.heap.size≤ad.block∧ad.block≠b1)
set_option maxRecDepth 100000 in
theorem zqk (h:RefH w mi q b c d e M G)(name:List UInt8)(hl:name.length≤9223372036854775807):
  Calls Tryz.prog 39 #[.pointer (some ⟨q,0,none⟩),St name] w (zm9 w mi q b d e G (ycv M name).2 (.int .i64 (ycv M name).1)):=by
 have HF:=zq (zy5 h name hl)
 have H:=zq h
 have hlt:=h.lt
 unfold ycv
 by_cases hE:fE M name≠0
 ·rw[zp hE]
  have t1:(fE M name != 0)=true:=by simpa using hE
  clear h hE hlt
  generalize fE M name=E at *
  generalize fN M name=n at *
  go_enter Tryz.func39,Tryz.ntmps39
  go_wp2_with fail
  refine HF.out.mono ?_
  rintro e1 w1 ⟨rfl,k1⟩
  go_wp2_with fail
  go_ret
  exact⟨rfl,Dn.quiet H.out k1⟩
 ·rw[zn hE]
  have hE0:fE M name=0:=Classical.not_not.1 hE
  have ho:okR (zab M):=by
   unfold fE at hE0
   by_cases ho:okR (zab M)
   ·exact ho
   ·rw[zn ho] at hE0;cases hE0
  rw[hE0] at HF
  have HOP:=zq (fun (W:World) (k':Keeps (fun _=>False) w W)=>zly (h.keep k' fun _ _ _ f=>f))
  have hml:=h.bl
  have HLT:=zq hlt
  have HLL:=zq (zo1 M 4)
  have hmem:∀ x∈opL M,(1≤x∧x≤4)∧opB M x=true:=fun x hx=>by
   obtain⟨a1,a2,a3⟩:=(zzp M 4 x).1 hx
   exact⟨⟨a1,a2⟩,a3⟩
  have HMEM:=zq hmem
  have HCK:=zq (fun (j:Nat)=>zxy hml (fN M name:Int) ((opL M).take j) (fun x hx=>(hmem x (List.mem_of_mem_take hx)).1))
  have HNOT:=zq (yhi M)
  have HDL:=zq (fun (W:World) (b' c':Nat) (X:List UInt8) (h':RefH W mi q b' c' d e X G) (hX:zab X=zab M)=>show Calls _ _ _ W (fun en W'=>en=.returned (.int .i64 (zbk (za6 M) name).1)∧RefH W' mi q b' c' d e (zbz X (zbk (za6 M) name)) G∧Keeps (fun k=>k=b') W W') from by
   have:=zsh h' (by rw[hX];exact ho) name hl
   rw[show(⟨zab X,zaa (zab X)⟩:RG)=za6 M from by rw[hX];rfl] at this
   exact this)
  have HO:=zq ho
  clear h hE hE0 ho hlt hmem hml
  generalize fN M name=n at *
  go_enter Tryz.func39,Tryz.ntmps39
  go_wp2_with fail
  refine HF.out.mono ?_
  rintro e1 w1 ⟨rfl,k1⟩
  go_wp2_with fail
  refine(HOP.out _ k1).mono ?_
  rintro e2 w2 ⟨R,cp,rfl,own,k2⟩
  have hk2:=k1.trans k2
  have hnew:∀ ad,R=some ad→w.heap.size≤ad.block:=fun ad e=>by
   have h1:=k1.size
   have:=(World.ownsRow.lt own ad.block (by rw[e];rfl)).1
   omega
  have hst:DlR w mi q b d e G M (n:Int) (opL M) R (opL M).length (.int .i64 0) w2:=⟨0,b,c,by omega,by omega,rfl,(Th.refl w q b).quiet hk2,H.out.keep hk2 (fun _ _ _ f=>f),own.ir,fun ad e=>⟨hnew ad e,by have:=hnew ad e;have:=HLT.out.2.1;omega⟩⟩
  have HST:=zq hst
  have HLE:=zq (show(opL M).length≤4 from HLL.out)
  clear k1 k2 hk2 own hnew hst HF HOP H HLL
  generalize hLL:opL M=L at *
  go_wp2_with fail
  go_loopg [8,9,10,11,24] L.length (fun g _ _ _ _ iv wr=>DlR w mi q b d e G M (n:Int) L R g iv wr)
  case atStart=>exact HST.out
  case round =>
   clear HST
   obtain⟨j,b1,c1,rfl,hj,rfl,T,r,hir,hnew⟩:=hrel
   by_cases hlt:j<L.length
   ·obtain⟨gr,rfl,hgr,cj⟩:=hir.at_ hlt
    obtain⟨hgw,hgb⟩:=hnew _ rfl
    have hmj:=HMEM.out L[j] (List.getElem_mem hlt)
    have hnt:=HNOT.out j hlt
    obtain⟨x1,x2,x3,-⟩:=HCK.out j
    have htk:L.take (j+1)=L.take j++[L[j]]:=(List.take_append_getElem hlt).symm
    have hsn:=zmt M (n:Int) (L.take j) L[j]
    rw[← htk] at hsn
    obtain⟨⟨m1,m4⟩,hopb⟩:=hmj
    have hsame:=yag (h:=L[j]) x2 (x3 L[j] m1 m4 hnt).1
    have hopx:=hsame.1.2 ((zjy M L[j]).1 hopb)
    have hox:okR (zab (zob M (n:Int) (L.take j))):=hopx.1
    have hiso:isO (zob M (n:Int) (L.take j)) L[j]=true:=by have:=hopx.2.2.2;rwa [Int.toNat_natCast] at this
    have hro:=zd0 r hox L[j] m1 m4 hiso
    rw[hsame.2] at hro
    have HRO:=zq hro
    have HR:=zq r
    have HT:=zq T
    have HIR:=zq hir
    have HSN:=zq hsn
    have HG:=zq (And.intro hgr (And.intro hgw hgb))
    have HRC:=zq (fun (W:World) (k':Keeps (fun _=>False) wr W)=>znj (r.keep k' fun _ _ _ f=>f) hox L[j] m1 m4 hiso)
    have d9:decide ((j:Int)<(L.length:Int))=true:=by simp only[decide_eq_true_eq];omega
    have p0:(0:Int)≤j:=by omega
    have p1:(j:Int)<L.length:=by omega
    have wj:IntKind.i64.wrap ((j:Int)+1)=(j:Int)+1:=by have:=HLE.out;rw[IntKind.wrap_i64];omega
    clear hro r T hir hsn hnew hnt x1 x2 x3 htk hopb hsame hopx hox hiso m1 m4 hgr hgw hgb
    generalize L[j]=x at *
    generalize zob M (n:Int) (L.take j)=X at *
    generalize hL X x=P at *
    by_cases hn:hN M x=(n:Int)
    ·have tn:(hN M x==(n:Int))=true:=by simpa using hn
     rw[zp hn] at HSN
     clear hn
     generalize hN M x=N at *
     go_wp2_with fail
     refine HRO.out.mono ?_
     rintro e4 w4 ⟨rfl,k4⟩
     have HC4:=zq (HRC.out _ k4)
     have K4:=zq k4
     clear k4 HRO HRC
     go_wp2_with fail
     refine HC4.out.mono ?_
     rintro e5 w5 ⟨rfl,⟨b2,c2,hb2,r2⟩,k2⟩
     have hg:=HG.out
     have hs4:=K4.out.size
     have hqlt:=HR.out.lt
     have hrq:=HT.out.kp.size
     have hlq:=HLT.out
     have hst:DlR w mi q b d e G M (n:Int) L (some ⟨gr,0,none⟩) (L.length-(j+1)) (.int .i64 ((j:Int)+1)) w5:=by
      refine⟨j+1,b2,c2,rfl,by omega,by rw[Int.natCast_add];rfl,(HT.out.quiet K4.out).go hb2 k2,by rw[HSN.out];exact r2,?_,fun ad e=>?_⟩
      ·exact IR.via (HIR.out.keep K4.out) k2 (by intro ad e;cases e;show ¬(gr=q∨gr=b1);omega)
      ·cases e
       exact⟨hg.2.1,by show gr≠b2;omega⟩
     have HST:=zq hst
     clear hst hb2 r2 k2 HC4 hg hs4 hqlt hrq hlq
     go_wp2_with fail
     go_roundg (L.length-(j+1))
     case rel=>exact HST.out
     case measure=>omega
    ·have tn:(hN M x==(n:Int))=false:=by simpa using hn
     rw[zn hn] at HSN
     clear hn
     generalize hN M x=N at *
     go_wp2_with fail
     refine HRO.out.mono ?_
     rintro e4 w4 ⟨rfl,k4⟩
     have hst:DlR w mi q b d e G M (n:Int) L (some ⟨gr,0,none⟩) (L.length-(j+1)) (.int .i64 ((j:Int)+1)) w4:=by
      have hg:=HG.out
      exact⟨j+1,b1,c1,rfl,by omega,by rw[Int.natCast_add];rfl,HT.out.quiet k4,by rw[HSN.out];exact HR.out.keep k4 (fun _ _ _ f=>f),HIR.out.keep k4,fun ad e=>by cases e;exact hg.2⟩
     have HST:=zq hst
     clear hst k4 HRO HRC
     go_wp2_with fail
     go_roundg (L.length-(j+1))
     case rel=>exact HST.out
     case measure=>omega
   ·obtain rfl:j=L.length:=by omega
    have d9:decide ((L.length:Int)<(L.length:Int))=false:=by simp
    rw[List.take_length] at r
    have hx:=(HCK.out L.length).2.1
    rw[List.take_length] at hx
    have HD:=zq (HDL.out _ _ _ _ r hx)
    have HT:=zq T
    clear r hx hir hnew T HCK HDL
    generalize zob M (n:Int) L=X at *
    go_wp2_with fail
    refine HD.out.mono ?_
    rintro e4 w4 ⟨rfl,r4,k4⟩
    have D4:=zq ((HT.out.same k4).dn r4)
    clear r4 k4 HD HT
    go_wp2_with fail
    go_ret
    exact⟨rfl,D4.out⟩
end Hd
namespace Hd
open Go.RowKit Ex Ino Mm Fs Fr
variable {w:World} {p gb mb:Nat} {G M:List UInt8}
theorem OwnI.via {w w':World} {B:Nat} {R:Option Addr} {cap:Nat} {l:List Nat} (h:OwnI w B R cap l){F:Nat→Prop} (k:Keeps F w w')(hF:∀ g,B≤g→¬F g):OwnI w' B R cap l:=by
 refine⟨h.1,?_⟩
 rcases h.2 with⟨e1,e2⟩|⟨g',cap',cur,hv,hb,hgg,rest⟩
 ·exact Or.inl ⟨e1,e2⟩
 ·exact Or.inr ⟨g',cap',cur,hv,hb,(k.block g' (Array.getElem?_eq_some_iff.1 hgg).1 (hF g' hb)).trans hgg,rest⟩
theorem ybu (h:MemAt w p gb mb G M)(k:Nat):
  Calls Tryz.prog 44 #[.pointer (some ⟨p,0,none⟩),.int .i64 (k:Int)] w (zb0 w p gb mb G M (if opB M k=true then .tuple #[agO (hN M k) (hL M k) (hS M k),.bool true] else .tuple #[agO 0 0 0,.bool false])):=by
 by_cases hb:opB M k=true
 ·rw[zp hb]
  have:=zsl h (k:Int) ((zjy M k).1 hb)
  rwa [Int.toNat_natCast] at this
 ·rw[zn hb]
  exact zno h k (fun x=>hb ((zjy M k).2 x))
def OpC (w:World) (p gb mb:Nat) (G M:List UInt8) (en:Ending) (w':World):Prop:=(∃ R cp,en=.returned (.slice R (opL M).length cp)∧OwnI w' w.heap.size R cp (opL M))∧MemAt w' p gb mb G M∧Keeps (fun k=>k=p∨k=mb) w w'
def OcR (w:World) (p gb mb:Nat) (G M:List UInt8) (g:Nat) (ov hv:Value) (wr:World):Prop:=∃ k R cp,g=4-k∧k≤4∧hv=.int .i64 (k:Int)∧ov=.slice R (opK M k).length cp∧OwnI wr w.heap.size R cp (opK M k)∧MemAt wr p gb mb G M∧Keeps (fun k=>k=p∨k=mb) w wr
set_option maxRecDepth 100000 in
theorem zte (h:MemAt w p gb mb G M):Calls Tryz.prog 14 #[.pointer (some ⟨p,0,none⟩)] w (OpC w p gb mb G M):=by
 have hlt:=h.lt
 have LT:=zq hlt
 have h0:MemAt (w.alloc (.cells #[] 3)) p gb mb G M:=h.keep (Keeps.alloc (fun _=>False) w _) (fun f=>f) (fun f=>f) (fun f=>f)
 have own0:OwnI (w.alloc (.cells #[] 3)) w.heap.size (some ⟨w.heap.size,0,none⟩) 0 []:=OwnI.empty (Nat.le_refl _)
 have H0:=zq (And.intro h0 (And.intro own0 (Keeps.alloc (fun k=>k=p∨k=mb) w (.cells #[] 3))))
 clear h hlt h0 own0
 go_enter Tryz.func14,Tryz.ntmps14
 go_wp2_with fail
 go_loopg [3,4,5,6,8] 4 (fun g ov _ _ _ hv wr=>OcR w p gb mb G M g ov hv wr)
 case atStart=>exact⟨0,_,_,by omega,by omega,rfl,rfl,H0.out.2.1,H0.out.1,H0.out.2.2⟩
 case round =>
  clear H0
  obtain⟨k,R,cp,rfl,hk,rfl,rfl,own,hm,hkp⟩:=hrel
  by_cases hlt:k<4
  ·have HO1:=ybu hm (k+1)
   rw[show((k+1:Nat):Int)=(k:Int)+1 from by omega] at HO1
   have d0:decide ((k:Int)<4)=true:=by simp only[decide_eq_true_eq];omega
   have wk:IntKind.i64.wrap ((k:Int)+1)=(k:Int)+1:=by rw[IntKind.wrap_i64];omega
   have hlen:=zo1 M k
   have hs0:=hkp.size
   cases hb:opB M (k+1) with
   | true =>
    have hok:opK M (k+1)=opK M k++[k+1]:=by rw[opK,zp hb]
    rw[hb,zp rfl] at HO1
    unfold agO at HO1
    have HO2:=zq HO1
    have HOK:=zq hok
    have OWN:=zq own
    have HKP:=zq hkp
    have HS0:=zq hs0
    clear HO1 hb own hok hm hkp hs0
    generalize hN M (k+1)=N at *
    generalize hL M (k+1)=P at *
    generalize hS M (k+1)=S at *
    generalize opK M k=L at *
    go_wp2_with fail
    refine HO2.out.mono ?_
    rintro e1 w1 ⟨rfl,m1,k1⟩
    have hl:=LT.out
    have s1:=k1.size
    have hs:=HS0.out
    have own1:OwnI w1 w.heap.size R cp L:=OwnI.via OWN.out k1 (fun g hg f=>by omega)
    have ownO:OwnI (w1.alloc (.cells #[.int .i64 N,.int .i64 P,.int .i64 S] 78)) w.heap.size R cp L:=own1.alloc _
    have ownA:OwnI ((w1.alloc (.cells #[.int .i64 N,.int .i64 P,.int .i64 S] 78)).alloc (.cells #[.int .i64 ((k+1:Nat):Int)] 3)) w.heap.size R cp L:=ownO.alloc _
    have sA:w.heap.size≤((w1.alloc (.cells #[.int .i64 N,.int .i64 P,.int .i64 S] 78)).alloc (.cells #[.int .i64 ((k+1:Nat):Int)] 3)).heap.size:=by simp;omega
    obtain⟨R',cap',w2,hap,own3,b3⟩:=ownA.app sA (by omega) (k+1) (w1.heap.size+1) (by
     have:=heap_alloc_new (w1.alloc (.cells #[.int .i64 N,.int .i64 P,.int .i64 S] 78)) (.cells #[.int .i64 ((k+1:Nat):Int)] 3)
     rw[World.size_alloc] at this
     rw[cell_of_row _ _ _ _ _ _ this];rfl)
    rw[← HOK.out] at own3
    rw[show((k+1:Nat):Int)=(k:Int)+1 from by omega] at hap b3
    have kA:Keeps (fun _=>False) w1 ((w1.alloc (.cells #[.int .i64 N,.int .i64 P,.int .i64 S] 78)).alloc (.cells #[.int .i64 ((k:Int)+1)] 3)):=(Keeps.alloc _ _ _).trans (Keeps.alloc _ _ _)
    have k3:Keeps (fun j=>w.heap.size≤j) ((w1.alloc (.cells #[.int .i64 N,.int .i64 P,.int .i64 S] 78)).alloc (.cells #[.int .i64 ((k:Int)+1)] 3)) w2:=⟨b3.os,b3.tape,b3.output,b3.size,fun b hb hF=>b3.block b (by omega)⟩
    have mA:=(m1.keep kA (fun f=>f) (fun f=>f) (fun f=>f)).keep k3 (by omega) (by omega) (by omega)
    have kT:Keeps (fun j=>j=p∨j=mb) w w2:=Keeps.thru ((HKP.out.trans k1).trans (kA.mono fun _ _ f=>f.elim)) k3 (fun _ _ f=>f) (fun i hi e=>by omega)
    have HLN:Hid ((opK M (k+1)).length=L.length+1):=by show _=_;rw[HOK.out];simp
    have HAP:=zq hap
    have HG:=zq (And.intro own3 (And.intro mA kT))
    clear own1 ownO ownA hap own3 b3 k1 OWN HKP HO2 kA k3 mA kT m1 sA hl s1 hs
    go_wp2_with (first | (at_builtin;refine zak rfl _ _ 40 rfl _ HAP.out ?_) | fail)
    go_roundg (4-(k+1))
    case rel=>exact⟨k+1,R',cap',rfl,by omega,by go_num,by rw[HLN.out],HG.out.1,HG.out.2.1,HG.out.2.2⟩
    case measure=>omega
   | false =>
    have hok:opK M (k+1)=opK M k:=by rw[opK,zn (by rw[hb];simp)]
    rw[hb] at HO1
    simp only[Bool.false_eq_true,if_false] at HO1
    unfold agO at HO1
    have HO2:=zq HO1
    have HOK:=zq hok
    have OWN:=zq own
    have HKP:=zq hkp
    have HS0:=zq hs0
    clear HO1 hb own hok hm hkp hs0
    generalize opK M k=L at *
    go_wp2_with fail
    refine HO2.out.mono ?_
    rintro e1 w1 ⟨rfl,m1,k1⟩
    have hl:=LT.out
    have s1:=k1.size
    have hs:=HS0.out
    have own1:OwnI w1 w.heap.size R cp L:=OwnI.via OWN.out k1 (fun g hg f=>by omega)
    have kA:Keeps (fun _=>False) w1 (w1.alloc (.cells #[.int .i64 0,.int .i64 0,.int .i64 0] 78)):=Keeps.alloc _ _ _
    have HG:=zq (And.intro (show OwnI (w1.alloc (.cells #[.int .i64 0,.int .i64 0,.int .i64 0] 78)) w.heap.size R cp L from own1.alloc _) (And.intro (m1.keep kA (fun f=>f) (fun f=>f) (fun f=>f)) ((HKP.out.trans k1).trans (kA.mono fun _ _ f=>f.elim:Keeps (fun j=>j=p∨j=mb) w1 _))))
    clear own1 k1 OWN HKP HO2 kA m1 hl s1 hs
    go_wp2_with fail
    go_roundg (4-(k+1))
    case rel=>exact⟨k+1,R,cp,rfl,by omega,by go_num,by rw[HOK.out],by rw[HOK.out];exact HG.out.1,HG.out.2.1,HG.out.2.2⟩
    case measure=>omega
  ·obtain rfl:k=4:=by omega
   have HG:Hid (OpC w p gb mb G M (.returned (.slice R (opL M).length cp)) wr):=⟨⟨R,cp,rfl,own⟩,hm,hkp⟩
   clear own hm hkp
   go_wp2_with fail
   go_ret
   exact HG.out
theorem fieldC (a b:Int)(w:World):(Instr.field 86 (.agg #[.int .i64 a,.int .i64 b]) 0).run Tryz.prog w=.ok (.int .i64 a) w:=by kernel_rfl
def zrz (X:List UInt8) (n:Int):Nat→List UInt8
 | 0=>X
 | k+1=>if hF (zrz X n k) (k+1)=n+1 then zdb (zrz X n k) (k+1) 0 0 else zrz X n k
noncomputable def yfb (M name:List UInt8):Int × List UInt8:=by
 classical
 exact
  if ¬okR (zab M) then (120,M) else if (zbk (za6 M) name).1≠0 then ((zbk (za6 M) name).1,M) else (0,zrz (zbx M 6144 (zad (zbk (za6 M) name).2)) (fN M name:Int) 4)
def DcR (w:World) (p gb mb:Nat) (G X:List UInt8) (n:Int) (g:Nat) (hv:Value) (wr:World):Prop:=∃ k,g=4-k∧k≤4∧hv=.int .i64 (k:Int)∧MemAt wr p gb mb G (zrz X n k)∧Keeps (fun k=>k=p∨k=mb) w wr
set_option maxRecDepth 100000 in
theorem ztg (h:MemAt w p gb mb G M)(name:List UInt8)(hn:name.length≤9223372036854775807):
  Calls Tryz.prog 38 #[.pointer (some ⟨p,0,none⟩),St name] w (zb0 w p gb mb G (yfb M name).2 (.int .i64 (yfb M name).1)):=by
 have HF:=zq (ztf h name hn)
 have hfn:=yh9 M name
 unfold yfb
 by_cases ho:okR (zab M)
 case neg =>
  rw[zp ho]
  have HD:=zq (fun W (hW:MemAt W p gb mb G M)=>zs7 (zci hW) ho name)
  clear h ho
  generalize fN M name=n at *
  generalize fE M name=E at *
  go_enter Tryz.func38,Tryz.ntmps38
  go_wp2_with fail
  refine HF.out.mono ?_
  rintro e1 w1 ⟨rfl,m1,k1⟩
  have H2:=zq (HD.out w1 m1)
  have K1:=zq k1
  clear m1 k1 HF HD
  go_wp2_with fail
  refine H2.out.mono ?_
  rintro e2 w2 ⟨m2,k2,rfl⟩
  have HG:Hid (zb0 w p gb mb G M (.int .i64 120) (.returned (.int .i64 120)) w2):=⟨rfl,m2,K1.out.trans (k2.mono fun _ _ e=>.inr e)⟩
  clear m2 k2 H2 K1
  go_wp2_with fail
  go_ret
  exact HG.out
 rw[zn (Classical.not_not.2 ho)]
 have HD:=zq (fun W (hW:MemAt W p gb mb G M)=>show Calls _ _ _ W (fun e w'=>e=.returned (.int .i64 (zbk (za6 M) name).1)∧MemAt w' p gb mb G (if (zbk (za6 M) name).1=0 then zbx M 6144 (zad (zbk (za6 M) name).2) else M)∧Keeps (fun k=>k=p∨k=mb) W w') from zs8 hW ho name hn)
 by_cases hr:(zbk (za6 M) name).1≠0
 ·rw[zp hr]
  have tr:((zbk (za6 M) name).1 != 0)=true:=by simpa using hr
  rw[zn hr] at HD
  clear h ho hr
  generalize fN M name=n at *
  generalize fE M name=E at *
  generalize (zbk (za6 M) name).1=R at *
  go_enter Tryz.func38,Tryz.ntmps38
  go_wp2_with fail
  refine HF.out.mono ?_
  rintro e1 w1 ⟨rfl,m1,k1⟩
  have H2:=zq (HD.out w1 m1)
  have K1:=zq k1
  clear m1 k1 HF HD
  go_wp2_with fail
  refine H2.out.mono ?_
  rintro e2 w2 ⟨rfl,m2,k2⟩
  have HG:Hid (zb0 w p gb mb G M (.int .i64 R) (.returned (.int .i64 R)) w2):=⟨rfl,m2,K1.out.trans k2⟩
  clear m2 k2 H2 K1
  go_wp2_with fail
  go_ret
  exact HG.out
 ·rw[zn hr]
  have hr0:(zbk (za6 M) name).1=0:=Classical.not_not.1 hr
  rw[hr0,zp rfl] at HD
  clear h ho hr hr0
  generalize zbx M 6144 (zad (zbk (za6 M) name).2)=X at *
  generalize fN M name=n at *
  generalize fE M name=E at *
  go_enter Tryz.func38,Tryz.ntmps38
  go_wp2_with fail
  refine HF.out.mono ?_
  rintro e1 w1 ⟨rfl,m1,k1⟩
  have H2:=zq (HD.out w1 m1)
  have K1:=zq k1
  clear m1 k1 HF HD
  go_wp2_with fail
  refine H2.out.mono ?_
  rintro e2 w2 ⟨rfl,m2,k2⟩
  have HS:=zq (show DcR w p gb mb G X (n:Int) 4 (.int .i64 0) w2 from⟨0,rfl,by omega,rfl,m2,K1.out.trans k2⟩)
  clear m2 k2 H2 K1
  go_wp2_with fail
  go_loopg [8,21] 4 (fun g _ hv wr=>DcR w p gb mb G X (n:Int) g hv wr)
  case atStart=>exact HS.out
  case round =>
   clear HS
   obtain⟨k,rfl,hk,rfl,hm,hkp⟩:=hrel
   by_cases hlt:k<4
   ·have hto:=zky hm (k+1) (by omega) (by omega)
    rw[show((k+1:Nat):Int)=(k:Int)+1 from by omega] at hto
    unfold agC at hto
    have HTO:=zq hto
    have HL:=zq (fun W (hW:MemAt W p gb mb G (zrz X (n:Int) k))=>zmf hW (k+1) (by omega) (by omega) 0 0)
    have hcs:zrz X (n:Int) (k+1)=if hF (zrz X (n:Int) k) (k+1)=(n:Int)+1 then zdb (zrz X (n:Int) k) (k+1) 0 0 else zrz X (n:Int) k:=rfl
    have HCS:=zq hcs
    rw[show((k+1:Nat):Int)=(k:Int)+1 from by omega] at HL
    have d0:decide ((k:Int)<4)=true:=by simp only[decide_eq_true_eq];omega
    have wk:IntKind.i64.wrap ((k:Int)+1)=(k:Int)+1:=by rw[IntKind.wrap_i64];omega
    have wn:IntKind.i64.wrap ((n:Int)+1)=(n:Int)+1:=by rw[IntKind.wrap_i64];omega
    have HKP:=zq hkp
    have hfc:=fieldC
    clear hto hcs hm hkp
    generalize hX3:zrz X (n:Int) (k+1)=X3 at *
    have HX3:=zq hX3
    clear hX3
    generalize zrz X (n:Int) k=X2 at *
    generalize hF X2 (k+1)=F at *
    generalize hP X2 (k+1)=P at *
    by_cases hf:F=(n:Int)+1
    ·have tf:(F==(n:Int)+1)=true:=by simpa using hf
     rw[zp hf] at HCS
     clear hf
     generalize zdb X2 (k+1) 0 0=X4 at *
     go_wp2_with fail
     refine HTO.out.mono ?_
     rintro e3 w3 ⟨rfl,m3,k3⟩
     have H4:=zq (HL.out w3 m3)
     have K3:=zq (HKP.out.trans k3)
     clear m3 k3 HTO HL HKP
     go_wp2_with fail
     refine H4.out.mono ?_
     rintro e4 w4 ⟨rfl,m4,k4⟩
     have HG:=zq (And.intro m4 (K3.out.trans k4))
     clear m4 k4 H4 K3
     go_wp2_with fail
     go_roundg (4-(k+1))
     case rel=>exact⟨k+1,rfl,by omega,by go_num,by rw[HX3.out,HCS.out];exact HG.out.1,HG.out.2⟩
     case measure=>omega
    ·have tf:(F==(n:Int)+1)=false:=by simpa using hf
     rw[zn hf] at HCS
     clear hf
     go_wp2_with fail
     refine HTO.out.mono ?_
     rintro e3 w3 ⟨rfl,m3,k3⟩
     have HG:=zq (And.intro m3 (HKP.out.trans k3))
     clear m3 k3 HTO HL HKP
     go_wp2_with fail
     go_roundg (4-(k+1))
     case rel=>exact⟨k+1,rfl,by omega,by go_num,by rw[HX3.out,HCS.out];exact HG.out.1,HG.out.2⟩
     case measure=>omega
   ·obtain rfl:k=4:=by omega
    have HG:Hid (zb0 w p gb mb G (zrz X (n:Int) 4) (.int .i64 0) (.returned (.int .i64 0)) wr):=⟨rfl,hm,hkp⟩
    clear hm hkp
    go_wp2_with fail
    go_ret
    exact HG.out
end Hd
namespace Hd
open Go.RowKit Go.Maps Ex Ino Mm Fs Fr
variable {w:World} {mi q b c d e:Nat} {M G:List UInt8}
set_option maxRecDepth 100000 in
theorem ydd (h:RefH w mi q b c d e M G)(n:Int)(s:Int)(hno:¬isOp M n):Calls Tryz.prog 30 #[.pointer (some ⟨q,0,none⟩),.int .i64 n,.int .i64 s] w (zkw w (.tuple #[.slice none 0 0,.int .i64 (noE M)])):=by
 have HO:=zq (zfi h n hno)
 have H:=zq h
 have HB:=zq (fun (W:World) (h':RefH W mi q b c d e M G)=>zgg h')
 clear h hno
 generalize noE M=E at *
 go_enter Tryz.func30,Tryz.ntmps30
 go_wp2_with fail
 refine HO.out.mono ?_
 rintro e0 w0 ⟨rfl,k0⟩
 have HB1:=zq (HB.out _ (H.out.keep k0 (fun _ _ _ f=>f)))
 have K0:=zq k0
 clear k0 HO H HB
 go_wp2_with fail
 refine HB1.out.mono ?_
 rintro e1 w1 ⟨rfl,k1⟩
 have K1:=zq (K0.out.trans k1)
 clear k1 K0 HB1
 go_wp2_with fail
 go_ret2
 exact⟨rfl,K1.out⟩
set_option maxRecDepth 100000 in
theorem zyv (h:RefH w mi q b c d e M G)(n:Int)(A:Option Addr)(len cb:Nat)(hno:¬isOp M n):Calls Tryz.prog 31 #[.pointer (some ⟨q,0,none⟩),.int .i64 n,.slice A len cb] w (zkw w (.int .i64 (noE M))):=by
 have HO:=zq (zfi h n hno)
 have H:=zq h
 have HB:=zq (fun (W:World) (h':RefH W mi q b c d e M G)=>zgg h')
 clear h hno
 generalize noE M=E at *
 go_enter Tryz.func31,Tryz.ntmps31
 go_wp2_with fail
 refine HO.out.mono ?_
 rintro e0 w0 ⟨rfl,k0⟩
 have HB1:=zq (HB.out _ (H.out.keep k0 (fun _ _ _ f=>f)))
 have K0:=zq k0
 clear k0 HO H HB
 go_wp2_with fail
 refine HB1.out.mono ?_
 rintro e1 w1 ⟨rfl,k1⟩
 have K1:=zq (K0.out.trans k1)
 clear k1 K0 HB1
 go_wp2_with fail
 go_ret
 exact⟨rfl,K1.out⟩
def RdD (w:World) (mi q b d e:Nat) (G M' xs:List UInt8) (E:Int) (en:Ending) (w':World):Prop:=
 (∃ A cc,en=.returned (.tuple #[.slice A xs.length cc,.int .i64 E])∧BR w' w'.heap.size A xs)∧Dn w mi q b d e G M' w'
set_option maxRecDepth 100000 in
theorem zwl (h:RefH w mi q b c d e M G)(ho:okR (zab M))(k:Nat)(h1:1≤k)(h4:k≤4)(hO:isO M k=true)(K:Int)(hK:-9223372036854775808≤K∧K≤9223372036854775807):
  Calls Tryz.prog 30 #[.pointer (some ⟨q,0,none⟩),.int .i64 (k:Int),.int .i64 K] w
   (RdD w mi q b d e G (if rdE M k K=0 then zgs M (hA k+8) (hL M k+((rdX M k K).length:Int)) else M) (rdX M k K) (rdE M k K)):=by
 have HO:=zq (zd0 h ho k h1 h4 hO)
 obtain⟨hb1,hb2,hb3⟩:=zcd h.bl ho k hO
 have hpb:=zeu (M:=M) k hb2
 have hxl:=zzg h.bl ho k hO K
 have hai:=zhx h1 h4
 have H:=zq h
 have HCL:=zq (fun W=>zfd k h1 h4 W)
 have HRD:=zq (fun (W:World) (h':RefH W mi q b c d e M G)=>(zy0 h' (hN M k) (hL M k) K (by omega) (by omega) hK).mono fun en W' (x:RdO W (zab M) (hN M k) (hL M k) K en W') =>
  (show Keeps (fun _=>False) W W'∧∃ A cc,en=.returned (.tuple #[.slice A (rdX M k K).length cc,.int .i64 (rdE M k K)])∧BR W' W'.heap.size A (rdX M k K)∧∀ ad,A=some ad→W.heap.size≤ad.block from by
   refine⟨x.1,?_⟩
   rcases x.2 with⟨_,A,cc,he,hb,hn⟩|⟨hno,_⟩
   ·exact⟨A,cc,he,hb,hn⟩
   ·exact absurd ho hno))
 have HS1:=zq (fun (W:World) (h':RefH W mi q b c d e M G)=>zgd h' (hA k+8) (hL M k+((rdX M k K).length:Int)) (by omega) (by omega))
 have wa:IntKind.i64.wrap (hA k+8)=hA k+8:=by rw[IntKind.wrap_i64];omega
 have wl:IntKind.i64.wrap (hL M k+((rdX M k K).length:Int))=hL M k+((rdX M k K).length:Int):=by rw[IntKind.wrap_i64];omega
 clear h h1 h4 ho hO hb1 hb2 hb3 hai hK hpb hxl
 generalize hN M k=N at *
 generalize hL M k=P at *
 generalize hS M k=S at *
 generalize hA k=A at *
 generalize rdX M k K=xs at *
 generalize rdE M k K=E at *
 by_cases hE:E=0
 ·subst hE
  rw[zp rfl]
  go_enter Tryz.func30,Tryz.ntmps30
  go_wp2_with fail
  refine HO.out.mono ?_
  rintro e0 w0 ⟨rfl,k0⟩
  have r0:=H.out.keep k0 (fun _ _ _ f=>f)
  have HR0:=zq (HRD.out _ r0)
  have R0:=zq r0
  have T0:=zq ((Th.refl w q b).quiet k0)
  clear k0 r0 HO H HRD
  go_wp2_with fail
  refine HR0.out.mono ?_
  rintro e1 w1 ⟨k1,Ad,cc,rfl,hbr,hnew⟩
  have r1:=R0.out.keep k1 (fun _ _ _ f=>f)
  have HS2:=zq (HS1.out _ r1)
  have T1:=zq (T0.out.quiet k1)
  have HLT:=zq R0.out.lt
  have HBR:=zq (And.intro hbr hnew)
  clear k1 r1 T0 HR0 HS1 R0 hbr hnew
  go_wp2_with fail
  refine(HCL.out _).mono ?_
  rintro e2 w2 ⟨rfl,rfl⟩
  go_wp2_with fail
  refine HS2.out.mono ?_
  rintro e3 w3 ⟨rfl,d3⟩
  have hbr3:BR w3 w3.heap.size Ad xs:=d3.kp.br HBR.out.1 (fun ad e hne=>by have:=HBR.out.2 ad e;have:=HLT.out;omega)
  obtain⟨b3,c3,t3,r3⟩:=T1.out.step d3
  have HG:Hid (RdD w mi q b d e G (zgs M (A+8) (P+(xs.length:Int))) xs 0 (.returned (.tuple #[.slice Ad xs.length cc,.int .i64 0])) w3):=⟨⟨Ad,cc,rfl,hbr3⟩,t3.dn r3⟩
  clear d3 hbr3 t3 r3 T1 HBR HS2
  go_wp2_with fail
  go_ret2
  exact HG.out
 ·rw[zn hE]
  have tE:(E==0)=false:=by simpa using hE
  clear hE
  go_enter Tryz.func30,Tryz.ntmps30
  go_wp2_with fail
  refine HO.out.mono ?_
  rintro e0 w0 ⟨rfl,k0⟩
  have r0:=H.out.keep k0 (fun _ _ _ f=>f)
  have HR0:=zq (HRD.out _ r0)
  have R0:=zq r0
  have T0:=zq ((Th.refl w q b).quiet k0)
  clear k0 r0 HO H HRD
  go_wp2_with fail
  refine HR0.out.mono ?_
  rintro e1 w1 ⟨k1,Ad,cc,rfl,hbr,hnew⟩
  have HG:Hid (RdD w mi q b d e G M xs E (.returned (.tuple #[.slice Ad xs.length cc,.int .i64 E])) w1):=⟨⟨Ad,cc,rfl,hbr⟩,(T0.out.quiet k1).dn (R0.out.keep k1 (fun _ _ _ f=>f))⟩
  clear k1 T0 HR0 R0 hbr hnew
  go_wp2_with fail
  go_ret2
  exact HG.out
set_option maxRecDepth 100000 in
theorem zr9 (h:RefH w mi q b c d e M G)(ho:okR (zab M))(k:Nat)(h1:1≤k)(h4:k≤4)(hO:isO M k=true){A:Option Addr} {bb:List UInt8} {cb:Nat} (hb:BR w w.heap.size A bb)(hcb:bb.length≤cb)(hbl:bb.length≤140737488355328)
  (hA':bb≠[]→∀ ad,A=some ad→ad.block≠b):
  Calls Tryz.prog 31 #[.pointer (some ⟨q,0,none⟩),.int .i64 (k:Int),.slice A bb.length cb] w
   (zm9 w mi q b d e G (if (wrV M k bb).1=0 then zgs (zbz M (wrV M k bb)) (hA k+8) (hL M k+(bb.length:Int)) else M) (.int .i64 (wrV M k bb).1)):=by
 have HO:=zq (zd0 h ho k h1 h4 hO)
 obtain⟨hb1,hb2,hb3⟩:=zcd h.bl ho k hO
 have hpb:=zeu (M:=M) k hb2
 have hai:=zhx h1 h4
 have H:=zq h
 have HCL:=zq (fun W=>zfd k h1 h4 W)
 have HWR:=zq (fun (W:World) (h':RefH W mi q b c d e M G) (k':Keeps (fun _=>False) w W)=>zwf h' ho (hN M k) (hL M k) (by omega) (by omega) (k'.br hb (fun _ _ _ f=>f)) hcb hbl hA')
 have HS1:=zq (fun (W:World) (b' c':Nat) (h':RefH W mi q b' c' d e (zbz M (wrV M k bb)) G)=>zgd h' (hA k+8) (hL M k+(bb.length:Int)) (by omega) (by omega))
 have wa:IntKind.i64.wrap (hA k+8)=hA k+8:=by rw[IntKind.wrap_i64];omega
 have wl:IntKind.i64.wrap (hL M k+(bb.length:Int))=hL M k+(bb.length:Int):=by rw[IntKind.wrap_i64];omega
 have HW2:=zq (fun (W:World) (h':RefH W mi q b c d e M G) (k':Keeps (fun _=>False) w W)=>(HWR.out W h' k').mono fun en W' (x:zm4 W mi q b c d e M G (wrV M k bb) en W')=>(show en=.returned (.int .i64 (wrV M k bb).1)∧RefH W' mi q b c d e (zbz M (wrV M k bb)) G∧Keeps (fun k=>k=b) W W' from x))
 clear h h1 h4 ho hO hb1 hb2 hb3 hai hpb HWR hb hA'
 have HST:=zq (show(wrV M k bb).1≠0→zbz M (wrV M k bb)=M from fun hne=>by unfold zbz;rw[zn hne])
 generalize hN M k=N at *
 generalize hL M k=P at *
 generalize hA k=Ac at *
 generalize zbz M (wrV M k bb)=M2 at *
 generalize (wrV M k bb).1=E at *
 by_cases hE:E=0
 ·subst hE
  rw[zp rfl]
  go_enter Tryz.func31,Tryz.ntmps31
  go_wp2_with fail
  refine HO.out.mono ?_
  rintro e0 w0 ⟨rfl,k0⟩
  have HR0:=zq (HW2.out _ (H.out.keep k0 (fun _ _ _ f=>f)) k0)
  have T0:=zq ((Th.refl w q b).quiet k0)
  clear k0 HO H HW2
  go_wp2_with fail
  refine HR0.out.mono ?_
  rintro e1 w1 ⟨rfl,r1,k1⟩
  have HS2:=zq (HS1.out _ _ _ r1)
  have T1:=zq (T0.out.same k1)
  clear k1 r1 T0 HR0 HS1
  go_wp2_with fail
  refine(HCL.out _).mono ?_
  rintro e2 w2 ⟨rfl,rfl⟩
  go_wp2_with fail
  refine HS2.out.mono ?_
  rintro e3 w3 ⟨rfl,d3⟩
  obtain⟨b3,c3,t3,r3⟩:=T1.out.step d3
  have D3:=zq (t3.dn r3)
  clear d3 t3 r3 T1 HS2
  go_wp2_with fail
  go_ret
  exact⟨rfl,D3.out⟩
 ·rw[zn hE]
  have tE:(E==0)=false:=by simpa using hE
  have hst:=HST.out hE
  subst hst
  clear hE HST
  go_enter Tryz.func31,Tryz.ntmps31
  go_wp2_with fail
  refine HO.out.mono ?_
  rintro e0 w0 ⟨rfl,k0⟩
  have HR0:=zq (HW2.out _ (H.out.keep k0 (fun _ _ _ f=>f)) k0)
  have T0:=zq ((Th.refl w q b).quiet k0)
  clear k0 HO H HW2
  go_wp2_with fail
  refine HR0.out.mono ?_
  rintro e1 w1 ⟨rfl,r1,k1⟩
  have D1:=zq ((T0.out.same k1).dn r1)
  clear k1 r1 T0 HR0
  go_wp2_with fail
  go_ret
  exact⟨rfl,D1.out⟩
end Hd
end Go.Proofs.YtdopfpcjpjlkmaaGreatDoor
