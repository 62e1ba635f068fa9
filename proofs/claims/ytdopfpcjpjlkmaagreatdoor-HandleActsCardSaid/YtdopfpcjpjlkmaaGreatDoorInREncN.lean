/-
  InREncN
-/
import Derived.Test.YtdopfpcjpjlkmaaGreatDoorGFn
set_option maxHeartbeats 1000000
set_option maxRecDepth 20000
set_option linter.unusedSimpArgs false
set_option linter.unusedVariables false
namespace Go.Proofs.YtdopfpcjpjlkmaaGreatDoor.Ino
open Go.RowKit Ex
def zim (w:World) (x:IN) (e:Ending) (w':World):Prop:=zd6 x=false∨∃ R c,e=.returned (.tuple #[.slice R 64 c,.int .i64 0])∧Own8 w' w.heap.size 5 R c (zdr x)∧Below w.heap.size w w'
theorem zxj {w w':World} {x:IN} {e:Ending} (h:zd6 x=false):zim w x e w':=.inl h
theorem zs0 {w w':World} {x:IN} {R:Option Addr} {c:Nat} (h:zd6 x=true)(hr:Own8 w' w.heap.size 5 R c (zdr x))(hb:Below w.heap.size w w'):zim w x (.returned (.tuple #[.slice R 64 c,.int .i64 0])) w':=.inr ⟨R,c,rfl,hr,hb⟩
theorem zgf (x:IN)(A:Option Addr)(c:Nat)(w:World)(hx:InOk w x A):Calls Tryz.prog 90 #[ag x A c] w (zim w x):=by
 obtain⟨wA,hwA⟩:∃ wA,wA=w.alloc (.cells #[St x.name,.int .i64 x.size,.slice A x.ext.length c] 113):=⟨_,rfl⟩
 have a0:wA.heap[w.heap.size]?=some (.cells #[St x.name,.int .i64 x.size,.slice A x.ext.length c] 113 (0,0)):=by rw[hwA];exact heap_alloc_new w _
 have bA:Below w.heap.size w wA:=by rw[hwA];exact(Below.refl _ _).alloc (Nat.le_refl _) _
 have sA:wA.heap.size=w.heap.size+1:=by rw[hwA,World.size_alloc]
 have hck:=zqn x A c wA (hx.below bA)
 have c0:wA.cell? ⟨w.heap.size,0,none⟩=some (St x.name):=by rw[cell_of_row _ _ _ _ _ _ a0];rfl
 have c1:wA.cell? ⟨w.heap.size,1,none⟩=some (.int .i64 x.size):=by rw[cell_of_row _ _ _ _ _ _ a0];rfl
 have c2:wA.cell? ⟨w.heap.size,2,none⟩=some (.slice A x.ext.length c):=by rw[cell_of_row _ _ _ _ _ _ a0];rfl
 have HX:=zq hx
 have HCK:=zq hck
 have HB:=zq bA
 have HA:=zq a0
 have HSA:=zq sA
 clear hx hck bA sA a0
 go_enter Tryz.func90,Tryz.ntmps90
 go_wp2_with fail
 rw[← hwA]
 clear hwA
 refine HCK.out.mono ?_
 clear HCK
 rintro e w2 ⟨rfl,b2⟩
 have a2:=(b2.block w.heap.size (by rw[HSA.out];omega)).trans HA.out
 have B2:=zq (HB.out.trans (b2.mono HB.out.size))
 have hs2:w.heap.size+1≤w2.heap.size:=by rw[← HSA.out];exact b2.size
 clear c0 c1 c2 b2 HB HA HSA
 by_cases hc:zd6 x=true
 ·obtain⟨⟨hn1,hn2⟩,_,⟨hs1,hs3⟩,hok,_⟩:=zck hc
  have hxe:=zkm hok
  have HOK:=zq hok
  have he:ze1 x=0:=by simp[ze1,hc]
  rw[he]
  have HC:=zq hc
  have hmk:(Instr.makeSlice 31 (.int .i64 64) (.int .i64 64)).run Tryz.prog w2=.ok (.slice (some ⟨w2.heap.size,0,none⟩) 64 64) (w2.alloc (.cells (madeCells #[.int .u8 0] 64) 5)):=zfq 64 (by decide) w2
  have r3:=Row8.made w2 64 5
  have b3:=B2.out.alloc B2.out.size (.cells (madeCells #[.int .u8 0] 64) 5)
  have a3:=(Below.heap_alloc w2 (.cells (madeCells #[.int .u8 0] 64) 5) w.heap.size (by omega)).trans a2
  have z3:w2.heap.size<(w2.alloc (.cells (madeCells #[.int .u8 0] 64) 5)).heap.size:=by rw[World.size_alloc];omega
  generalize w2.alloc (.cells (madeCells #[.int .u8 0] 64) 5)=w3 at *
  have c0:w3.cell? ⟨w.heap.size,0,none⟩=some (St x.name):=by rw[cell_of_row _ _ _ _ _ _ a3];rfl
  have k0:=r3.cell_ (k:=0) (by simp)
  have f0:=r3.free 0
  have hcv:IntKind.u8.wrap (x.name.length:Int)=((UInt8.ofNat x.name.length).toNat:Int):=by
   rw[UInt8.toNat_ofNat']
   simp[IntKind.wrap,IntKind.bits,IntKind.signed]
  have R3:=zq r3
  have B3:=zq b3
  have A3:=zq a3
  clear hok hc he a2 r3 b3 a3
  have hv:Value.int .u8 (x.name.length:Int)=B8 (UInt8.ofNat x.name.length):=by show _=Value.int .u8 ((UInt8.ofNat x.name.length).toNat:Int);rw[UInt8.toNat_ofNat'];congr 1;omega
  have HV:=zq hv
  clear hv hcv
  go_wp2_with fail
  rw[HV.out]
  have r4:=R3.out.set_ 0 (UInt8.ofNat x.name.length)
  rw[show(List.replicate 64 (0:UInt8)).set 0 (UInt8.ofNat x.name.length)=zsr x from zuy x] at r4
  have b4:=B3.out.setCell (p:=⟨w2.heap.size,0,none⟩) (by show _≤w2.heap.size;omega) (B8 (UInt8.ofNat x.name.length))
  have a4:=(Below.heap_setCell w3 ⟨w2.heap.size,0,none⟩ (B8 (UInt8.ofNat x.name.length)) w.heap.size (by show _≠w2.heap.size;omega)).trans A3.out
  have z4:w2.heap.size<(w3.setCell ⟨w2.heap.size,0,none⟩ (B8 (UInt8.ofNat x.name.length))).heap.size:=by rw[World.size_setCell];exact z3
  clear k0 f0 R3 B3 A3 c0 z3 HV
  generalize w3.setCell ⟨w2.heap.size,0,none⟩ (B8 (UInt8.ofNat x.name.length))=w4 at *
  refine wp_region_still_tail 4 (by kernel_rfl) (by kernel_rfl) ?_
  simp only[List.take_succ_cons,List.take_zero,List.drop_succ_cons,List.drop_zero]
  change wpStill _ _ w4.drew (fun a'=>wpList _ _ _ _ a' w4.drew) _ _
  have a5:w4.drew.heap[w.heap.size]?=_:=a4
  have b5:=b4.drew
  have r5:Row8 w4.drew w2.heap.size 5 (zsr x):=r4
  have z5:w2.heap.size<w4.drew.heap.size:=z4
  clear a4 b4 r4 z4
  generalize w4.drew=w5 at *
  have c0:w5.cell? ⟨w.heap.size,0,none⟩=some (St x.name):=by rw[cell_of_row _ _ _ _ _ _ a5];rfl
  have cp:=zgz (P:=Tryz.prog) w5 31 9 3 5 Tryz.underlying31 (by kernel_rfl) w2.heap.size 1 15 63 x.name hn2 (zh6 r5.block 1 x.name.length (by rw[zdt];omega))
  obtain⟨f6,k6⟩:=ze7 (ys:=x.name) 1 r5.block (by rw[zdt];omega)
  generalize w5.setCells w2.heap.size 1 (x.name.map B8)=w6 at cp f6 k6
  have a6:=(k6.block _ (by omega) (by omega)).trans a5
  have b6:=b5.trans (k6.toBelow w.heap.size b5.size (by intro k hk;omega))
  have z6:w2.heap.size<w6.heap.size:=by have:=k6.size;omega
  have CP:=zq cp
  have F6:=zq f6
  have A6:=zq a6
  have B6:=zq b6
  clear cp f6 k6 a5 b5 r5 a6 b6
  still_step
  still_step
  still_step
  still_step
  refine wpStill_nil ?_
  have cp:=CP.out
  clear CP
  have c1:w6.cell? ⟨w.heap.size,1,none⟩=some (.int .i64 x.size):=by rw[cell_of_row _ _ _ _ _ _ A6.out];rfl
  have hwr:IntKind.u64.wrap x.size=(x.size.toNat:Int):=by simp[IntKind.wrap,IntKind.bits,IntKind.signed];omega
  have hpn:=zd2 (some ⟨w2.heap.size,0,none⟩) (yf9 x) 64 16 2 x.size.toNat w6 (Row8.of_block F6.out).br (by rw[zd4 x hn2];decide) (by decide) (by decide)
  rw[show(zds 2 8).toNat=2 from rfl,zuw x hn2,zd4 x hn2,zo7 x hn2] at hpn
  have HPN:=zq hpn
  clear hpn
  go_wp2_with fail
  rw[show max x.size 0=((x.size.toNat:Nat):Int) by omega]
  refine HPN.out.mono ?_
  clear HPN cp c0 c1
  rintro e w7 ⟨R,c4,rfl,o7,b7⟩
  have a7:=(b7.block w.heap.size (by omega)).trans A6.out
  have b7':=B6.out.trans (b7.mono B6.out.size)
  have c2:w7.cell? ⟨w.heap.size,2,none⟩=some (.slice A x.ext.length c):=by rw[cell_of_row _ _ _ _ _ _ a7];rfl
  have o7':Own8 w7 w.heap.size 5 R c4 (zdr { x with ext:=[] }):=zug o7 B6.out.size
  have O7:=zq o7'
  have B7:=zq b7'
  have HXR:=zq HX.out.xr
  clear o7 o7' b7 b7' a7 A6 B6 F6
  rw[zay]
  go_wp2_with fail
  go_loopw [33,6,7] (fun i _ _ wr=>zpv w x R c4 wr i) (fun i _ _ _=>x.ext.length-(RowKit.intOf i).toNat)
  case atStart=>exact⟨0,rfl,by omega,by rw[List.take_zero];exact O7.out,B7.out⟩
  case round =>
   obtain⟨k,rfl,hk,ow,hb⟩:=hrel
   by_cases hlt:k<x.ext.length
   ·obtain⟨ad,rfl,hlb,d0,d1,hxo⟩:=(HXR.out.below hb).at_ hlt
    have hen:=zpo { x with ext:=x.ext.take k } k x.ext[k] (x.ext.take k) (by omega) (by simp;omega) rfl
    have hsm:=zi4 HOK.out _ (List.getElem_mem hlt)
    have htk:x.ext.take k++[x.ext[k]]=x.ext.take (k+1):=(List.take_succ_eq_append_getElem hlt).symm
    rw[htk] at hen
    generalize x.ext[k]=e at *
    obtain⟨es,en⟩:=e
    simp only at d0 d1 hsm hen
    obtain⟨K,hK⟩:∃ K:Nat,K=18+2*k:=⟨_,rfl⟩
    obtain⟨g,rfl,hBg,hgl,_,_⟩:=ow.at_ (k:=K) (by rw[zay];omega)
    have hne:¬g=wr.heap.size:=by omega
    have b1:=(hb.alloc (by exact hb.size) (.cells #[.int .i64 es,.int .i64 en] 152)).drew
    have o1:Own8 (wr.alloc (.cells #[.int .i64 es,.int .i64 en] 152)).drew w.heap.size 5 (some ⟨g,0,none⟩) c4 _:=World.ownsRow.alloc ow (.cells #[.int .i64 es,.int .i64 en] 152)
    have hat:(wr.alloc (.cells #[.int .i64 es,.int .i64 en] 152)).heap[wr.heap.size]?=some (.cells #[.int .i64 es,.int .i64 en] 152 (0,0)):=heap_alloc_new wr _
    have p0:(wr.alloc (.cells #[.int .i64 es,.int .i64 en] 152)).drew.cell? ⟨wr.heap.size,0,none⟩=some (.int .i64 es):=by rw[cell_of_row _ _ _ _ _ _ (show(wr.alloc (.cells #[.int .i64 es,.int .i64 en] 152)).drew.heap[wr.heap.size]?=_ from hat)];rfl
    have p1:(wr.alloc (.cells #[.int .i64 es,.int .i64 en] 152)).drew.cell? ⟨wr.heap.size,1,none⟩=some (.int .i64 en):=by rw[cell_of_row _ _ _ _ _ _ (show(wr.alloc (.cells #[.int .i64 es,.int .i64 en] 152)).drew.heap[wr.heap.size]?=_ from hat)];rfl
    have HZB:=zq b1
    have OW:=zq o1
    rw[show 19+2*k=K+1 by omega,show 18+2*k=K by omega] at hen
    have HEN2:=zq hen
    have ew1:IntKind.i64.wrap (2*(k:Int))=2*(k:Int):=by rw[IntKind.wrap_i64];omega
    have ew2:IntKind.i64.wrap (18+2*(k:Int))=(K:Int):=by rw[IntKind.wrap_i64];omega
    have ew3:IntKind.i64.wrap (19+2*(k:Int))=((K+1:Nat):Int):=by rw[IntKind.wrap_i64];omega
    have ex1:IntKind.u8.wrap es=((u8 es).toNat:Int):=by rw[zki (by omega)];simp[IntKind.wrap,IntKind.bits,IntKind.signed];omega
    have ex2:IntKind.u8.wrap en=((u8 en).toNat:Int):=by rw[zki (by omega)];simp[IntKind.wrap,IntKind.bits,IntKind.signed];omega
    have hK1:(K:Int)<64:=by omega
    have hK2:((K+1:Nat):Int)<64:=by omega
    obtain⟨g1,e1,_,_,kc0,kf0⟩:=o1.at_ (k:=K) (by rw[zay];omega)
    cases e1
    clear b1 o1 hat hen htk ow hb hK O7 B7
    go_wp2_with fail
    refine wp_region_held (S:=fun W=>W.cell? ⟨wr.heap.size,0,none⟩=some (.int .i64 es)∧W.cell? ⟨wr.heap.size,1,none⟩=some (.int .i64 en)) (by kernel_rfl) ?_
    change wpAnyH _ _ _ _ _ _ _ _ (wr.alloc (.cells #[.int .i64 es,.int .i64 en] 152)).drew
    generalize (wr.alloc (.cells #[.int .i64 es,.int .i64 en] 152)).drew=w8 at *
    have hS:=And.intro p0 p1
    refine sqH 0 (.slice (some ⟨g,0,none⟩) 64 c4) rfl (Or.inl ⟨by rfl,fun _ _=>rfl⟩) hS ?_
    try simp only[Act.put,sqX]
    refine sqH 1 (.int .i64 (k:Int)) rfl (Or.inl ⟨by rfl,fun _ _=>rfl⟩) hS ?_
    try simp only[Act.put,sqX]
    refine sqH 2 (.int .i64 (2*(k:Int))) rfl (Or.inl ⟨by rfl,fun _ _=>by go_simp⟩) hS ?_
    try simp only[Act.put,sqX]
    refine sqH 3 (.int .i64 (K:Int)) rfl (Or.inl ⟨by rfl,fun _ _=>by go_simp⟩) hS ?_
    try simp only[Act.put,sqX]
    refine sqH 4 (.slice (some ⟨g,0,none⟩) 64 c4) rfl (Or.inl ⟨by rfl,fun _ _=>rfl⟩) hS ?_
    try simp only[Act.put,sqX]
    refine sqH 5 (.int .i64 (k:Int)) rfl (Or.inl ⟨by rfl,fun _ _=>rfl⟩) hS ?_
    try simp only[Act.put,sqX]
    refine sqH 6 (.int .i64 (2*(k:Int))) rfl (Or.inl ⟨by rfl,fun _ _=>by go_simp⟩) hS ?_
    try simp only[Act.put,sqX]
    refine sqH 7 (.int .i64 ((K+1:Nat):Int)) rfl (Or.inl ⟨by rfl,fun _ _=>by go_simp⟩) hS ?_
    try simp only[Act.put,sqX]
    refine sqH 8 (.pointer (some ⟨wr.heap.size,0,none⟩)) rfl (Or.inl ⟨by rfl,fun _ _=>by go_simp⟩) hS ?_
    try simp only[Act.put,sqX]
    refine sqH 9 (.int .i64 es) rfl (zai rfl 3 (.tmp 46) rfl _ _ rfl fun w h=>zal zdm h.1) hS ?_
    try simp only[Act.put,sqX]
    refine sqH 10 (B8 (u8 es)) rfl (Or.inl ⟨by rfl,fun _ _=>by go_simp⟩) hS ?_
    try simp only[Act.put,sqX]
    refine sqH 11 (.pointer (some ⟨wr.heap.size,1,none⟩)) rfl (Or.inl ⟨by rfl,fun _ _=>by go_simp⟩) hS ?_
    try simp only[Act.put,sqX]
    refine sqH 12 (.int .i64 en) rfl (zai rfl 3 (.tmp 49) rfl _ _ rfl fun w h=>zal zdm h.2) hS ?_
    try simp only[Act.put,sqX]
    refine sqH 13 (B8 (u8 en)) rfl (Or.inl ⟨by rfl,fun _ _=>by go_simp⟩) hS ?_
    try simp only[Act.put,sqX]
    refine sqH 14 (.pointer (some ⟨g,K,none⟩)) rfl (Or.inl ⟨by rfl,fun _ _=>by go_simp⟩) hS ?_
    try simp only[Act.put,sqX]
    refine wpAnyH_all (rs:=[15]) (by kernel_rfl) (by simp) fun i hi=>?_
    obtain rfl:i=15:=by simpa using hi
    refine zc0 (om:=⟨_,_,_,_,_,_⟩) (w':=w8.setCell ⟨g,K,none⟩ (B8 (u8 es))) rfl rfl (by go_simp) ?_
    have o9:=OW.out.set_ K (u8 es)
    have zb9:=HZB.out.setCell (p:=⟨g,K,none⟩) hBg (B8 (u8 es))
    have hS3:(w8.setCell ⟨g,K,none⟩ (B8 (u8 es))).cell? ⟨wr.heap.size,0,none⟩=some (.int .i64 es)∧(w8.setCell ⟨g,K,none⟩ (B8 (u8 es))).cell? ⟨wr.heap.size,1,none⟩=some (.int .i64 en):=by
     refine⟨?_,?_⟩
     ·rw[World.cell?_setCell_other _ _ _ _ (by simp[hne])];exact hS.1
     ·rw[World.cell?_setCell_other _ _ _ _ (by simp[hne])];exact hS.2
    obtain⟨g1,e1,_,_,kc3,kf3⟩:=o9.at_ (k:=K+1) (by rw[List.length_set,zay];omega)
    cases e1
    clear kc0 kf0 hi OW HZB hS p0 p1
    generalize w8.setCell ⟨g,K,none⟩ (B8 (u8 es))=w9 at *
    have hS:=hS3
    refine⟨hS,?_⟩
    try simp only[Act.put,sqX]
    refine sqH 16 (.pointer (some ⟨g,K+1,none⟩)) rfl (Or.inl ⟨by rfl,fun _ _=>by go_simp;omega⟩) hS ?_
    try simp only[Act.put,sqX]
    refine wpAnyH_all (rs:=[17]) (by kernel_rfl) (by simp) fun i hi=>?_
    obtain rfl:i=17:=by simpa using hi
    refine zc0 (om:=⟨_,_,_,_,_,_⟩) (w':=w9.setCell ⟨g,K+1,none⟩ (B8 (u8 en))) rfl rfl (by go_simp) ?_
    have o10:=o9.set_ (K+1) (u8 en)
    rw[HEN2.out] at o10
    have zb10:=zb9.setCell (p:=⟨g,K+1,none⟩) hBg (B8 (u8 en))
    have HR:Hid (zpv w x (some ⟨g,0,none⟩) c4 (w9.setCell ⟨g,K+1,none⟩ (B8 (u8 en))) (.int .i64 ((k:Int)+1))):=⟨k+1,by simp,by omega,o10,zb10⟩
    have hS4:(w9.setCell ⟨g,K+1,none⟩ (B8 (u8 en))).cell? ⟨wr.heap.size,0,none⟩=some (.int .i64 es)∧(w9.setCell ⟨g,K+1,none⟩ (B8 (u8 en))).cell? ⟨wr.heap.size,1,none⟩=some (.int .i64 en):=by
     refine⟨?_,?_⟩
     ·rw[World.cell?_setCell_other _ _ _ _ (by simp[hne])];exact hS.1
     ·rw[World.cell?_setCell_other _ _ _ _ (by simp[hne])];exact hS.2
    clear kc3 kf3 hi o9 o10 zb9 zb10 hS hS3
    generalize w9.setCell ⟨g,K+1,none⟩ (B8 (u8 en))=w10 at *
    have hS:=hS4
    clear hS4
    refine⟨hS,?_⟩
    try simp only[Act.put,sqX]
    refine wpAnyH_done (by kernel_rfl) ?_ _
    try simp only[Act.put,sqX]
    clear hS
    have ew4:IntKind.i64.wrap ((k:Int)+1)=(k:Int)+1:=by rw[IntKind.wrap_i64];omega
    go_wp2_with fail
    go_roundw
    case rel=>exact HR.out
    case measure=>simp[RowKit.intOf];omega
   ·obtain rfl:k=x.ext.length:=by omega
    rw[List.take_length] at ow
    have HF:=zq (zs0 (c:=c4) HC.out ow hb)
    clear ow hb
    go_wp2_with fail
    go_ret2
    exact HF.out
 ·have hc':zd6 x=false:=by simpa using hc
  have he:ze1 x=110:=by simp[ze1,hc]
  rw[he]
  have HC:=zq hc'
  clear hc hc' he
  go_wp2_with fail
  go_ret2
  exact zxj HC.out
end Go.Proofs.YtdopfpcjpjlkmaaGreatDoor.Ino
