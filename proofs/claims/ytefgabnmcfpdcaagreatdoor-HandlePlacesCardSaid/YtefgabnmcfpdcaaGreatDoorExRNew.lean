/-
  ExRNew
-/
import Derived.Test.YtefgabnmcfpdcaaGreatDoorGFf
set_option maxHeartbeats 1000000
set_option maxRecDepth 100000
set_option linter.unusedSimpArgs false
set_option linter.unusedVariables false
namespace Go.Proofs.YtefgabnmcfpdcaaGreatDoor.Ex
open Go.RowKit
def Out3N (w:World) (m:List EX × Nat × Int) (e:Ending) (w':World):Prop:=∃ R cap,e=.returned (.tuple #[.slice R m.1.length cap,.int .u32 (m.2.1:Int),.int .i64 m.2.2])∧XR w' w'.heap.size R m.1∧Below w.heap.size w w'∧∀ ad,R=some ad→w.heap.size≤ad.block
theorem Out3N.no {w w':World} {m:List EX × Nat × Int} {z:Int} (h:m=([],0,z))(hb:Below w.heap.size w w'):Out3N w m (.returned (.tuple #[.slice none 0 0,.int .u32 0,.int .i64 z])) w':=by
 subst h
 exact⟨none,0,rfl,XR.nil,hb,fun _ e=>by cases e⟩
set_option maxRecDepth 100000 in
theorem zx5 (A:Option Addr)(l:List EX)(c u:Nat)(n:Int)(w:World)(h:XR w w.heap.size A l)(hl:l.length≤100)(hu:u<4294967296):
  Calls Tryz.prog 110 #[.slice A l.length c,.int .u32 (u:Int),.int .i64 n] w (Out3N w (zcp l u n)):=by
 have hbk:=zb2 A l c w h hl
 have HBK:=hq hbk
 clear hbk
 by_cases hok:ok l=true
 ·by_cases hneg:n<0
  ·have hv:zcp l u n=([],0,1):=by unfold zcp;rw[if_pos (.inr hneg)]
   have HV:=hq hv
   have HOK:=hq hok
   clear hv hok h
   go_enter Tryz.func110,Tryz.ntmps110
   go_wp2_with fail
   refine HBK.out.mono ?_
   rintro e w1 ⟨R,cap,rfl,own,b1⟩
   rw[HOK.out]
   clear own
   go_wp2_with fail
   go_ret3
   exact Out3N.no HV.out b1
  ·obtain⟨K,rfl⟩:∃ K:Nat,n=(K:Int):=⟨n.toNat,by omega⟩
   have HOK:=hq hok
   have hgood:=zcj l hok
   rw[← zar hok] at hgood
   have HG:=hq hgood
   clear hok h hneg hgood
   go_enter Tryz.func110,Tryz.ntmps110
   go_wp2_with fail
   refine HBK.out.mono ?_
   rintro e w1 ⟨R,cap,rfl,own,b1⟩
   rw[HOK.out]
   have OWN:=hq own
   have B1:=hq b1
   clear own b1 HBK
   go_wp2_with fail
   go_loopw [12,11] (fun i s wr=>∃ (b:Nat) (m:List Nat) (R2:Option Addr) (cap2:Nat),9≤b∧b≤32∧i=.int .i64 (b:Int)∧s=.slice R2 m.length cap2∧m=frL u b∧m.length≤K∧OwnI wr w1.heap.size R2 cap2 m∧(m=[]→R2=none∧cap2=0)∧Below w1.heap.size w1 wr) (fun i _ _=>32-(RowKit.intOf i).toNat)
   case atStart=>exact⟨9,[],none,0,by omega,by omega,rfl,rfl,(ydr u).symm,by simp,World.ownsRow_nil _ _ _ _,fun _=>⟨rfl,rfl⟩,Below.refl _ _⟩
   case round =>
    obtain⟨b,m,R2,cap2,hb9,hb32,rfl,rfl,hm,hmK,own2,hnil,hb⟩:=hrel
    have hmlen:m.length≤32:=by rw[hm];have:=((zne u b (32-b)).length_le);rw[show b+(32-b)=32 from by omega] at this;have:=(zb0 u).len;unfold zbb at this;omega
    by_cases hgo:b<32∧m.length<K
    ·obtain⟨hg1,hg2⟩:=hgo
     have hdp:=yap u b
     have hba:=yba u b hu
     have hsu:=zug u b
     rw[← hm] at hsu
     generalize u / 2 ^ b=q at *
     by_cases ht:u.testBit b=true
     ·rw[if_pos ht] at hba
      have hs:frL u (b+1)=m:=by rw[hsu,if_neg (by unfold free;rw[ht];simp)]
      have HS:=hq hs
      have OWN2:=hq own2
      have HN:=hq hnil
      have HB:=hq hb
      clear hsu hs ht hm own2 hnil hb
      go_wp2_with fail
      go_roundw
      case rel=>exact⟨b+1,m,R2,cap2,by omega,by omega,by go_num,rfl,HS.out.symm,by omega,OWN2.out,HN.out,HB.out⟩
      case measure=>simp[RowKit.intOf];omega
     ·rw[if_neg ht] at hba
      have hs:frL u (b+1)=m++[b]:=by rw[hsu,if_pos (by unfold free;simp[hb9,ht])]
      have ownA:OwnI (wr.alloc (.cells #[.int .i64 (b:Int)] 3)) w1.heap.size R2 cap2 m:=own2.alloc _
      have belA:Below w1.heap.size w1 (wr.alloc (.cells #[.int .i64 (b:Int)] 3)):=hb.alloc hb.size _
      obtain⟨R',cap',w2,hap,own3,b3⟩:=ownA.app belA.size (by omega) b wr.heap.size (by rw[cell_of_row _ _ _ _ _ _ (heap_alloc_new wr _)];rfl)
      have HL:Hid ((m++[b]).length=m.length+1):=by show _=_;simp
      have HNE:Hid (m++[b]≠[]):=by show _≠_;simp
      have HS:=hq hs
      have HAP:=hq hap
      have OWN3:=hq own3
      have BEL:=hq (belA.trans b3)
      clear hsu hs ht hm own2 hnil hb ownA belA hap own3 b3
      generalize m++[b]=m3 at *
      go_wp2_with (first | (at_builtin;refine zak rfl _ _ 49 rfl _ HAP.out ?_) | fail)
      go_roundw
      case rel=>exact⟨b+1,m3,R',cap',by omega,by omega,by go_num,by rw[HL.out],HS.out.symm,by rw[HL.out];omega,OWN3.out,fun e=>absurd e HNE.out,BEL.out⟩
      case measure=>simp[RowKit.intOf];omega
    ·have hend:(¬b<32∧m.length<K)∨m.length=K:=by omega
     have hfr:m=(zbb u).take m.length:=by rw[hm];exact ydq hb32
     rcases hend with⟨he1,he2⟩ | he
     ·have hv:zcp l u (K:Int)=([],0,50):=by
       obtain rfl:b=32:=by omega
       unfold zcp
       rw[if_neg (by rw[HOK.out];rintro(h | h);cases h;omega),if_pos (by rw[show zbb u=m from hm.symm];omega)]
      have HV:=hq hv
      have HB:=hq (B1.out.trans (hb.mono B1.out.size))
      clear hv hgo hm hfr own2 hnil hb
      go_wp2_with fail
      go_ret3
      exact Out3N.no HV.out HB.out
     ·have hle:K≤(zbb u).length:=by
       have:=congrArg List.length hfr
       rw[List.length_take] at this
       omega
      have hv:zcp l u (K:Int)=(zc1 [] (za3 l++m),u ||| zby m,0):=by
       unfold zcp
       rw[if_neg (by rw[HOK.out];rintro(h | h);cases h;omega),if_neg (by omega),Int.toNat_natCast,← he,← hfr,zge,zar HOK.out,yah HOK.out]
      have hgm:Good m:=by rw[hfr];exact(zb0 u).take _
      have hol:=HG.out.len
      have hml:=hgm.len
      have own1:OwnI wr w.heap.size R cap (za3 l):=OWN.out.below hb
      have hblt:∀ k,Value.ownBlock (.slice R (za3 l).length cap)=some k→k<w1.heap.size:=fun k e=>(OwnI.lt_ OWN.out e).2
      obtain⟨R',cap',w2,hap,own3,b3,o3⟩:=ycj own1 (Nat.le_trans B1.out.size hb.size) (by omega) m (by omega) (IR.jr own2.ir) hnil
      have hs3:wr.heap.size≤w2.heap.size:=b3.size
      have hjm:=zv0 own1 own2 hblt o3 hs3
      have hjx:=IR.jr own3.ir
      have hlt32:∀ x∈za3 l++m,x<32:=fun x hx=>by
       rcases List.mem_append.1 hx with hx | hx
       ·exact(HG.out.2 x hx).2
       ·exact(hgm.2 x hx).2
      have hlx:(za3 l++m).length≤100:=by rw[List.length_append];omega
      have hex:=zj5 R' (za3 l++m) cap' w2 hjx hlx hlt32
      have hbd:=zq1 (za3 l++m) hlt32
      have hset:=fun w' (hw:Below w2.heap.size w2 w')=>zig R2 m cap2 w' (hjm.below hw) hgm
      have hor:=orI u (zby m) hu hgm.lt
      have HB2:=hq ((B1.out.trans (hb.mono B1.out.size)).trans b3)
      have HV:=hq hv
      have HAP:=hq hap
      have HEX:=hq hex
      have HBD:=hq (hbd.1.ok (by omega))
      have HSET:=hq hset
      have hd:decide (m.length<K)=false:=by simp;omega
      clear he hmlen
      clear hv hgo hm hfr own2 hnil hb own1 hblt hap own3 b3 o3 hjm hjx hlt32 hlx hex hbd hset hgm hol hml hle OWN HG B1
      generalize zc1 [] (za3 l++m)=X at *
      generalize zby m=S at *
      generalize u ||| S=V at *
      generalize (za3 l).length=n1 at *
      generalize (za3 l++m).length=n3 at *
      generalize m.length=M at *
      rcases Nat.lt_or_ge b 32 with h32 | h32
      all_goals
       go_wp2_with (first | (at_builtin;refine zak rfl _ _ 49 rfl _ HAP.out ?_) | fail)
       refine HEX.out.mono ?_
       rintro e w3 ⟨R4,c4,rfl,own4,b4⟩
       have HX:=hq (own4.xr HBD.out)
       have HNW:=hq fun (ad:Addr) (e:R4=some ad)=>World.ownsRow.lt own4 ad.block (by rw[e];rfl)
       have HB4:=hq b4
       clear own4 b4
       go_wp2_with fail
       refine(HSET.out w3 HB4.out).mono ?_
       rintro e w4 ⟨rfl,rfl⟩
       have HF:=hq (HB2.out.trans (HB4.out.mono HB2.out.size))
       go_wp2_with fail
       go_ret3
       exact⟨R4,c4,by rw[HV.out];rfl,by rw[HV.out];exact HX.out,HF.out,fun ad e=>Nat.le_trans HB2.out.size (HNW.out ad e).1⟩
 ·have hno:ok l=false:=by simpa using hok
  have hv:zcp l u n=([],0,1):=by unfold zcp;rw[if_pos (.inl hno)]
  have HV:=hq hv
  have HNO:=hq hno
  clear hv hok h hno
  go_enter Tryz.func110,Tryz.ntmps110
  go_wp2_with fail
  refine HBK.out.mono ?_
  rintro e w1 ⟨R,cap,rfl,own,b1⟩
  rw[HNO.out]
  clear own
  go_wp2_with fail
  go_ret3
  exact Out3N.no HV.out b1
set_option maxRecDepth 100000 in
theorem zrb (A:Option Addr)(l:List EX)(c u:Nat)(n:Int)(w:World)(h:XR w w.heap.size A l)(hl:l.length≤100)(hu:u<4294967296):
  Calls Tryz.prog 111 #[.slice A l.length c,.int .u32 (u:Int),.int .i64 n] w (Out3N w (zbh l u n)):=by
 have hbk:=zb2 A l c w h hl
 have HBK:=hq hbk
 clear hbk
 by_cases hok:ok l=true
 ·by_cases hneg:n<0
  ·have hv:zbh l u n=([],0,1):=by unfold zbh;rw[if_pos (.inr (.inl hneg))]
   have HV:=hq hv
   have HOK:=hq hok
   clear hv hok h
   go_enter Tryz.func111,Tryz.ntmps111
   go_wp2_with fail
   refine HBK.out.mono ?_
   rintro e w1 ⟨R,cap,rfl,own,b1⟩
   rw[HOK.out]
   clear own
   go_wp2_with fail
   go_ret3
   exact Out3N.no HV.out b1
  ·obtain⟨K,rfl⟩:∃ K:Nat,n=(K:Int):=⟨n.toNat,by omega⟩
   have hgood:=zcj l hok
   have HOK:=hq hok
   by_cases hbig:(za3 l).length<K
   ·have hv:zbh l u (K:Int)=([],0,1):=by unfold zbh;rw[if_pos (.inr (.inr (by rw[← zar hok];omega)))]
    have HV:=hq hv
    clear hv hok h hneg hgood
    go_enter Tryz.func111,Tryz.ntmps111
    go_wp2_with fail
    refine HBK.out.mono ?_
    rintro e w1 ⟨R,cap,rfl,own,b1⟩
    rw[HOK.out]
    clear own
    generalize (za3 l).length=N at *
    go_wp2_with fail
    go_ret3
    exact Out3N.no HV.out b1
   ·have hKN:K≤(za3 l).length:=by omega
    have hv:zbh l u (K:Int)=(zc1 [] ((za3 l).take K),zkx u (zby ((za3 l).drop K)),0):=by
     unfold zbh
     rw[zar hok] at hKN ⊢
     rw[if_neg (by rw[hok];rintro(h | h | h);cases h;omega;omega),Int.toNat_natCast]
    rw[← zar hok] at hgood
    have hlk:((za3 l).take K).length=K:=by rw[List.length_take];omega
    have hdk:((za3 l).drop K).length=(za3 l).length-K:=List.length_drop
    have hlen:=hgood.len
    have hlt32:∀ b∈(za3 l).take K,b<32:=fun b hb=>((hgood.take K).2 b hb).2
    have hbd:=zq1 ((za3 l).take K) hlt32
    have hand:=zkw u (zby ((za3 l).drop K)) hu (hgood.drop K).lt
    have HGD:=hq (hgood.drop K)
    have HBD:=hq (hbd.1.ok (by omega))
    have HV:=hq hv
    have H32:=hq hlt32
    clear hv hok h hneg hgood hbd hlt32 hbig
    go_enter Tryz.func111,Tryz.ntmps111
    go_wp2_with fail
    refine HBK.out.mono ?_
    rintro e w1 ⟨R,cap,rfl,own,b1⟩
    rw[HOK.out]
    obtain⟨H,ch,T,ct,hhd,htl,hjh,hjt⟩:=yfy own hKN
    have hex:=fun W (hW:Below w1.heap.size w1 W)=>zj5 H ((za3 l).take K) ch W (hjh.below hW) (by omega) H32.out
    have hse:=fun W (hW:Below w1.heap.size w1 W)=>zig T ((za3 l).drop K) ct W (hjt.below hW) HGD.out
    rw[hlk] at hex
    rw[hdk] at hse
    have hex2:∀ W,Below w1.heap.size w1 W→Calls Tryz.prog 149 #[.slice H K ch] W fun e W2=>∃ R4 c4,e=.returned (.slice R4 (zc1 [] ((za3 l).take K)).length c4)∧(XR W2 W2.heap.size R4 (zc1 [] ((za3 l).take K))∧∀ ad,R4=some ad→w1.heap.size≤ad.block)∧Below W.heap.size W W2:=fun W hW=>(hex W hW).mono fun e W2 ⟨R4,c4,he,ho,hb⟩=>⟨R4,c4,he,⟨ho.xr HBD.out,fun ad e=>Nat.le_trans hW.size (World.ownsRow.lt ho ad.block (by rw[e];rfl)).1⟩,hb⟩
    have HHD:=hq hhd
    have HTL:=hq htl
    have HEX:=hq hex2
    have HSE:=hq hse
    have HB1:=hq b1
    clear own hhd htl hjh hjt hex hex2 hse b1 hlk hdk HBK HOK HBD HGD H32
    generalize (za3 l).length=N at *
    generalize zc1 [] ((za3 l).take K)=X at *
    generalize zby ((za3 l).drop K)=S at *
    generalize zkx u S=V at *
    go_wp2_with fail
    refine wp_region_held (S:=fun W=>Below w1.heap.size w1 W) (by kernel_rfl) ?_
    change wpAnyH _ _ _ _ _ _ _ _ (w1).drew
    have hS:Below w1.heap.size w1 w1.drew:=below_drewN (Below.refl _ _) 1
    generalize (w1).drew=w2 at *
    refine sqH 0 (.slice R N cap) rfl (Or.inl ⟨by rfl,fun _ _=>rfl⟩) hS ?_
    try simp only[Act.put,sqX]
    refine sqH 1 (.int .i64 (K:Int)) rfl (Or.inl ⟨by rfl,fun _ _=>rfl⟩) hS ?_
    try simp only[Act.put,sqX]
    refine sqH 2 (.slice H K ch) rfl (Or.inl ⟨by rfl,fun _ _=>ex_sl1 49 (.tmp 28) (.tmp 29) rfl _ _ _ rfl rfl HHD.out _⟩) hS ?_
    try simp only[Act.put,sqX]
    refine sqH 4 (.int .u32 (u:Int)) rfl (Or.inl ⟨by rfl,fun _ _=>rfl⟩) hS ?_
    try simp only[Act.put,sqX]
    refine sqH 5 (.slice R N cap) rfl (Or.inl ⟨by rfl,fun _ _=>rfl⟩) hS ?_
    try simp only[Act.put,sqX]
    refine sqH 6 (.int .i64 (K:Int)) rfl (Or.inl ⟨by rfl,fun _ _=>rfl⟩) hS ?_
    try simp only[Act.put,sqX]
    refine sqH 7 (.slice T (N-K) ct) rfl (Or.inl ⟨by rfl,fun _ _=>zun 49 (.tmp 33) (.tmp 34) rfl _ _ _ rfl rfl HTL.out _⟩) hS ?_
    try simp only[Act.put,sqX]
    refine wpAnyH_all (rs:=[3]) (by kernel_rfl) (by simp) fun i hi=>?_
    obtain rfl:i=3:=by simpa using hi
    refine zbc (om:=⟨_,_,_,_,_,_⟩) (fn:=149) (args:=#[.slice H K ch]) (R:=fun u W2=>∃ R4 c4,u=.slice R4 X.length c4∧(XR W2 W2.heap.size R4 X∧∀ ad,R4=some ad→w1.heap.size≤ad.block)∧Below w1.heap.size w1 W2) rfl rfl (by go_simp)
     ((HEX.out w2 hS).mono fun e W2 ⟨R4,c4,he,hx,hb⟩=>⟨_,he,R4,c4,rfl,hx,hS.trans (hb.mono hS.size)⟩) _ _ rfl rfl ?_
    rintro u W2 ⟨R4,c4,rfl,hx4,hb4⟩
    have hS:Below w1.heap.size w1 W2:=hb4
    have HX4:=hq hx4
    clear hx4 hb4 hi
    refine⟨hS,?_⟩
    try simp only[Act.put,sqX]
    refine wpAnyH_all (rs:=[8]) (by kernel_rfl) (by simp) fun i hi=>?_
    obtain rfl:i=8:=by simpa using hi
    refine zbc (om:=⟨_,_,_,_,_,_⟩) (fn:=104) (args:=#[.slice T (N-K) ct]) (R:=fun u W3=>u=.int .u32 (S:Int)∧W3=W2) rfl rfl (by go_simp)
     ((HSE.out W2 hS).mono fun e W3 ⟨he,hb⟩=>⟨_,he,rfl,hb⟩) _ _ rfl rfl ?_
    rintro u W3 ⟨rfl,rfl⟩
    have hS:Below w1.heap.size w1 W3:=hS
    clear hi
    refine⟨hS,?_⟩
    try simp only[Act.put,sqX]
    refine sqH 9 (.int .u32 (V:Int)) rfl (Or.inl ⟨by rfl,fun _ _=>by go_simp⟩) hS ?_
    try simp only[Act.put,sqX]
    refine sqH 10 (.slice R4 X.length c4) rfl (Or.inl ⟨by rfl,fun _ _=>rfl⟩) hS ?_
    try simp only[Act.put,sqX]
    refine sqH 11 (.int .u32 (V:Int)) rfl (Or.inl ⟨by rfl,fun _ _=>rfl⟩) hS ?_
    try simp only[Act.put,sqX]
    refine sqH 12 (.int .i64 0) rfl (Or.inl ⟨by rfl,fun _ _=>rfl⟩) hS ?_
    try simp only[Act.put,sqX]
    refine wpAnyH_done (by kernel_rfl) ?_ _
    try simp only[Act.put,sqX]
    go_wp2_with fail
    go_ret3
    exact⟨R4,c4,by rw[HV.out];rfl,by rw[HV.out];exact HX4.out.1,HB1.out.trans (hS.mono HB1.out.size),fun ad e=>Nat.le_trans HB1.out.size (HX4.out.2 ad e)⟩
 ·have hno:ok l=false:=by simpa using hok
  have hv:zbh l u n=([],0,1):=by unfold zbh;rw[if_pos (.inl hno)]
  have HV:=hq hv
  have HNO:=hq hno
  clear hv hok h hno
  go_enter Tryz.func111,Tryz.ntmps111
  go_wp2_with fail
  refine HBK.out.mono ?_
  rintro e w1 ⟨R,cap,rfl,own,b1⟩
  rw[HNO.out]
  clear own
  go_wp2_with fail
  go_ret3
  exact Out3N.no HV.out b1
end Go.Proofs.YtefgabnmcfpdcaaGreatDoor.Ex
