/-
  ExRNew
-/
import Derived.Test.YtdopfpcjpjlkmaaGreatDoorGFf
set_option maxHeartbeats 1000000
set_option maxRecDepth 100000
set_option linter.unusedSimpArgs false
set_option linter.unusedVariables false
namespace Go.Proofs.YtdopfpcjpjlkmaaGreatDoor.Ex
open Go.RowKit
def Out3N (w:World) (m:List EX × Nat × Int) (e:Ending) (w':World):Prop:=∃ R cap,e=.returned (.tuple #[.slice R m.1.length cap,.int .u32 (m.2.1:Int),.int .i64 m.2.2])∧XR w' w'.heap.size R m.1∧Below w.heap.size w w'∧∀ ad,R=some ad→w.heap.size≤ad.block
theorem Out3N.no {w w':World} {m:List EX × Nat × Int} {z:Int} (h:m=([],0,z))(hb:Below w.heap.size w w'):Out3N w m (.returned (.tuple #[.slice none 0 0,.int .u32 0,.int .i64 z])) w':=by
 subst h
 exact⟨none,0,rfl,XR.nil,hb,fun _ e=>by cases e⟩
theorem zy3 (A:Option Addr)(l:List EX)(c u:Nat)(n:Int)(w:World)(h:XR w w.heap.size A l)(hl:l.length≤100)(hu:u<4294967296):
  Calls Tryz.prog 112 #[.slice A l.length c,.int .u32 (u:Int),.int .i64 n] w (Out3N w (zcw l u n)):=by
 have hbk:=zcc A l c w h hl
 have HBK:=zq hbk
 clear hbk
 by_cases hok:ok l=true
 ·by_cases hneg:n<0
  ·have hv:zcw l u n=([],0,1):=by unfold zcw;rw[zp (.inr hneg)]
   have HV:=zq hv
   have HOK:=zq hok
   clear hv hok h
   go_enter Tryz.func112,Tryz.ntmps112
   go_wp2_with fail
   refine HBK.out.mono ?_
   rintro e w1 ⟨R,cap,rfl,own,b1⟩
   rw[HOK.out]
   clear own
   go_wp2_with fail
   go_ret3
   exact Out3N.no HV.out b1
  ·obtain⟨K,rfl⟩:∃ K:Nat,n=(K:Int):=⟨n.toNat,by omega⟩
   have HOK:=zq hok
   have hgood:=zcr l hok
   rw[← zar hok] at hgood
   have HG:=zq hgood
   clear hok h hneg hgood
   go_enter Tryz.func112,Tryz.ntmps112
   go_wp2_with fail
   refine HBK.out.mono ?_
   rintro e w1 ⟨R,cap,rfl,own,b1⟩
   rw[HOK.out]
   have OWN:=zq own
   have B1:=zq b1
   clear own b1 HBK
   go_wp2_with fail
   go_loopw [12,11] (fun i s wr=>∃ (b:Nat) (m:List Nat) (R2:Option Addr) (cap2:Nat),9≤b∧b≤32∧i=.int .i64 (b:Int)∧s=.slice R2 m.length cap2∧m=frL u b∧m.length≤K∧OwnI wr w1.heap.size R2 cap2 m∧(m=[]→R2=none∧cap2=0)∧Below w1.heap.size w1 wr) (fun i _ _=>32-(RowKit.intOf i).toNat)
   case atStart=>exact⟨9,[],none,0,by omega,by omega,rfl,rfl,(ye0 u).symm,by simp,World.ownsRow_nil _ _ _ _,fun _=>⟨rfl,rfl⟩,Below.refl _ _⟩
   case round =>
    obtain⟨b,m,R2,cap2,hb9,hb32,rfl,rfl,hm,hmK,own2,hnil,hb⟩:=hrel
    have hmlen:m.length≤32:=by rw[hm];have:=((zn2 u b (32-b)).length_le);rw[show b+(32-b)=32 from by omega] at this;have:=(zca u).len;unfold zbh at this;omega
    by_cases hgo:b<32∧m.length<K
    ·obtain⟨hg1,hg2⟩:=hgo
     have hdp:=ybp u b
     have hba:=yca u b hu
     have hsu:=zvd u b
     rw[← hm] at hsu
     generalize u / 2 ^ b=q at *
     by_cases ht:u.testBit b=true
     ·rw[zp ht] at hba
      have hs:frL u (b+1)=m:=by rw[hsu,zn (by unfold free;rw[ht];simp)]
      have HS:=zq hs
      have OWN2:=zq own2
      have HN:=zq hnil
      have HB:=zq hb
      clear hsu hs ht hm own2 hnil hb
      go_wp2_with fail
      go_roundw
      case rel=>exact⟨b+1,m,R2,cap2,by omega,by omega,by go_num,rfl,HS.out.symm,by omega,OWN2.out,HN.out,HB.out⟩
      case measure=>simp[RowKit.intOf];omega
     ·rw[zn ht] at hba
      have hs:frL u (b+1)=m++[b]:=by rw[hsu,zp (by unfold free;simp[hb9,ht])]
      have ownA:OwnI (wr.alloc (.cells #[.int .i64 (b:Int)] 3)) w1.heap.size R2 cap2 m:=own2.alloc _
      have belA:Below w1.heap.size w1 (wr.alloc (.cells #[.int .i64 (b:Int)] 3)):=hb.alloc hb.size _
      obtain⟨R',cap',w2,hap,own3,b3⟩:=ownA.app belA.size (by omega) b wr.heap.size (by rw[cell_of_row _ _ _ _ _ _ (heap_alloc_new wr _)];rfl)
      have HL:Hid ((m++[b]).length=m.length+1):=by show _=_;simp
      have HNE:Hid (m++[b]≠[]):=by show _≠_;simp
      have HS:=zq hs
      have HAP:=zq hap
      have OWN3:=zq own3
      have BEL:=zq (belA.trans b3)
      clear hsu hs ht hm own2 hnil hb ownA belA hap own3 b3
      generalize m++[b]=m3 at *
      go_wp2_with (first | (at_builtin;refine zak rfl _ _ 40 rfl _ HAP.out ?_) | fail)
      go_roundw
      case rel=>exact⟨b+1,m3,R',cap',by omega,by omega,by go_num,by rw[HL.out],HS.out.symm,by rw[HL.out];omega,OWN3.out,fun e=>absurd e HNE.out,BEL.out⟩
      case measure=>simp[RowKit.intOf];omega
    ·have hend:(¬b<32∧m.length<K)∨m.length=K:=by omega
     have hfr:m=(zbh u).take m.length:=by rw[hm];exact yez hb32
     rcases hend with⟨he1,he2⟩ | he
     ·have hv:zcw l u (K:Int)=([],0,50):=by
       obtain rfl:b=32:=by omega
       unfold zcw
       rw[zn (by rw[HOK.out];rintro(h | h);cases h;omega),zp (by rw[show zbh u=m from hm.symm];omega)]
      have HV:=zq hv
      have HB:=zq (B1.out.trans (hb.mono B1.out.size))
      clear hv hgo hm hfr own2 hnil hb
      go_wp2_with fail
      go_ret3
      exact Out3N.no HV.out HB.out
     ·have hle:K≤(zbh u).length:=by
       have:=congrArg List.length hfr
       rw[List.length_take] at this
       omega
      have hv:zcw l u (K:Int)=(zc4 [] (za4 l++m),u ||| zb2 m,0):=by
       unfold zcw
       rw[zn (by rw[HOK.out];rintro(h | h);cases h;omega),zn (by omega),Int.toNat_natCast,← he,← hfr,zgm,zar HOK.out,ybh HOK.out]
      have hgm:Good m:=by rw[hfr];exact(zca u).take _
      have hol:=HG.out.len
      have hml:=hgm.len
      have own1:OwnI wr w.heap.size R cap (za4 l):=OWN.out.below hb
      have hblt:∀ k,Value.ownBlock (.slice R (za4 l).length cap)=some k→k<w1.heap.size:=fun k e=>(OwnI.lt_ OWN.out e).2
      obtain⟨R',cap',w2,hap,own3,b3,o3⟩:=ydq own1 (Nat.le_trans B1.out.size hb.size) (by omega) m (by omega) (IR.jr own2.ir) hnil
      have hs3:wr.heap.size≤w2.heap.size:=b3.size
      have hjm:=zwx own1 own2 hblt o3 hs3
      have hjx:=IR.jr own3.ir
      have hlt32:∀ x∈za4 l++m,x<32:=fun x hx=>by
       rcases List.mem_append.1 hx with hx | hx
       ·exact(HG.out.2 x hx).2
       ·exact(hgm.2 x hx).2
      have hlx:(za4 l++m).length≤100:=by rw[List.length_append];omega
      have hex:=zkl R' (za4 l++m) cap' w2 hjx hlx hlt32
      have hbd:=zru (za4 l++m) hlt32
      have hset:=fun w' (hw:Below w2.heap.size w2 w')=>ziv R2 m cap2 w' (hjm.below hw) hgm
      have hor:=orI u (zb2 m) hu hgm.lt
      have HB2:=zq ((B1.out.trans (hb.mono B1.out.size)).trans b3)
      have HV:=zq hv
      have HAP:=zq hap
      have HEX:=zq hex
      have HBD:=zq (hbd.1.ok (by omega))
      have HSET:=zq hset
      have hd:decide (m.length<K)=false:=by simp;omega
      clear he hmlen
      clear hv hgo hm hfr own2 hnil hb own1 hblt hap own3 b3 o3 hjm hjx hlt32 hlx hex hbd hset hgm hol hml hle OWN HG B1
      generalize zc4 [] (za4 l++m)=X at *
      generalize zb2 m=S at *
      generalize u ||| S=V at *
      generalize (za4 l).length=n1 at *
      generalize (za4 l++m).length=n3 at *
      generalize m.length=M at *
      rcases Nat.lt_or_ge b 32 with h32 | h32
      all_goals
       go_wp2_with (first | (at_builtin;refine zak rfl _ _ 40 rfl _ HAP.out ?_) | fail)
       refine HEX.out.mono ?_
       rintro e w3 ⟨R4,c4,rfl,own4,b4⟩
       have HX:=zq (own4.xr HBD.out)
       have HNW:=zq fun (ad:Addr) (e:R4=some ad)=>World.ownsRow.lt own4 ad.block (by rw[e];rfl)
       have HB4:=zq b4
       clear own4 b4
       go_wp2_with fail
       refine(HSET.out w3 HB4.out).mono ?_
       rintro e w4 ⟨rfl,rfl⟩
       have HF:=zq (HB2.out.trans (HB4.out.mono HB2.out.size))
       go_wp2_with fail
       go_ret3
       exact⟨R4,c4,by rw[HV.out];rfl,by rw[HV.out];exact HX.out,HF.out,fun ad e=>Nat.le_trans HB2.out.size (HNW.out ad e).1⟩
 ·have hno:ok l=false:=by simpa using hok
  have hv:zcw l u n=([],0,1):=by unfold zcw;rw[zp (.inl hno)]
  have HV:=zq hv
  have HNO:=zq hno
  clear hv hok h hno
  go_enter Tryz.func112,Tryz.ntmps112
  go_wp2_with fail
  refine HBK.out.mono ?_
  rintro e w1 ⟨R,cap,rfl,own,b1⟩
  rw[HNO.out]
  clear own
  go_wp2_with fail
  go_ret3
  exact Out3N.no HV.out b1
theorem zr6 (A:Option Addr)(l:List EX)(c u:Nat)(n:Int)(w:World)(h:XR w w.heap.size A l)(hl:l.length≤100)(hu:u<4294967296):
  Calls Tryz.prog 113 #[.slice A l.length c,.int .u32 (u:Int),.int .i64 n] w (Out3N w (zbm l u n)):=by
 have hbk:=zcc A l c w h hl
 have HBK:=zq hbk
 clear hbk
 by_cases hok:ok l=true
 ·by_cases hneg:n<0
  ·have hv:zbm l u n=([],0,1):=by unfold zbm;rw[zp (.inr (.inl hneg))]
   have HV:=zq hv
   have HOK:=zq hok
   clear hv hok h
   go_enter Tryz.func113,Tryz.ntmps113
   go_wp2_with fail
   refine HBK.out.mono ?_
   rintro e w1 ⟨R,cap,rfl,own,b1⟩
   rw[HOK.out]
   clear own
   go_wp2_with fail
   go_ret3
   exact Out3N.no HV.out b1
  ·obtain⟨K,rfl⟩:∃ K:Nat,n=(K:Int):=⟨n.toNat,by omega⟩
   have hgood:=zcr l hok
   have HOK:=zq hok
   by_cases hbig:(za4 l).length<K
   ·have hv:zbm l u (K:Int)=([],0,1):=by unfold zbm;rw[zp (.inr (.inr (by rw[← zar hok];omega)))]
    have HV:=zq hv
    clear hv hok h hneg hgood
    go_enter Tryz.func113,Tryz.ntmps113
    go_wp2_with fail
    refine HBK.out.mono ?_
    rintro e w1 ⟨R,cap,rfl,own,b1⟩
    rw[HOK.out]
    clear own
    generalize (za4 l).length=N at *
    go_wp2_with fail
    go_ret3
    exact Out3N.no HV.out b1
   ·have hKN:K≤(za4 l).length:=by omega
    have hv:zbm l u (K:Int)=(zc4 [] ((za4 l).take K),zkv u (zb2 ((za4 l).drop K)),0):=by
     unfold zbm
     rw[zar hok] at hKN ⊢
     rw[zn (by rw[hok];rintro(h | h | h);cases h;omega;omega),Int.toNat_natCast]
    rw[← zar hok] at hgood
    have hlk:((za4 l).take K).length=K:=by rw[List.length_take];omega
    have hdk:((za4 l).drop K).length=(za4 l).length-K:=List.length_drop
    have hlen:=hgood.len
    have hlt32:∀ b∈(za4 l).take K,b<32:=fun b hb=>((hgood.take K).2 b hb).2
    have hbd:=zru ((za4 l).take K) hlt32
    have hand:=zld u (zb2 ((za4 l).drop K)) hu (hgood.drop K).lt
    have HGD:=zq (hgood.drop K)
    have HBD:=zq (hbd.1.ok (by omega))
    have HV:=zq hv
    have H32:=zq hlt32
    clear hv hok h hneg hgood hbd hlt32 hbig
    go_enter Tryz.func113,Tryz.ntmps113
    go_wp2_with fail
    refine HBK.out.mono ?_
    rintro e w1 ⟨R,cap,rfl,own,b1⟩
    rw[HOK.out]
    obtain⟨H,ch,T,ct,hhd,htl,hjh,hjt⟩:=yhe own hKN
    have hex:=fun W (hW:Below w1.heap.size w1 W)=>zkl H ((za4 l).take K) ch W (hjh.below hW) (by omega) H32.out
    have hse:=fun W (hW:Below w1.heap.size w1 W)=>ziv T ((za4 l).drop K) ct W (hjt.below hW) HGD.out
    rw[hlk] at hex
    rw[hdk] at hse
    have hex2:∀ W,Below w1.heap.size w1 W→Calls Tryz.prog 141 #[.slice H K ch] W fun e W2=>∃ R4 c4,e=.returned (.slice R4 (zc4 [] ((za4 l).take K)).length c4)∧(XR W2 W2.heap.size R4 (zc4 [] ((za4 l).take K))∧∀ ad,R4=some ad→w1.heap.size≤ad.block)∧Below W.heap.size W W2:=fun W hW=>(hex W hW).mono fun e W2 ⟨R4,c4,he,ho,hb⟩=>⟨R4,c4,he,⟨ho.xr HBD.out,fun ad e=>Nat.le_trans hW.size (World.ownsRow.lt ho ad.block (by rw[e];rfl)).1⟩,hb⟩
    have HHD:=zq hhd
    have HTL:=zq htl
    have HEX:=zq hex2
    have HSE:=zq hse
    have HB1:=zq b1
    clear own hhd htl hjh hjt hex hex2 hse b1 hlk hdk HBK HOK HBD HGD H32
    generalize (za4 l).length=N at *
    generalize zc4 [] ((za4 l).take K)=X at *
    generalize zb2 ((za4 l).drop K)=S at *
    generalize zkv u S=V at *
    go_wp2_with fail
    refine wp_region_held (S:=fun W=>Below w1.heap.size w1 W) (by kernel_rfl) ?_
    change wpAnyH _ _ _ _ _ _ _ _ (w1).drew
    have hS:Below w1.heap.size w1 w1.drew:=below_drewN (Below.refl _ _) 1
    generalize (w1).drew=w2 at *
    refine sqH 0 (.slice R N cap) rfl (Or.inl ⟨by rfl,fun _ _=>rfl⟩) hS ?_
    try simp only[Act.put,sqX]
    refine sqH 1 (.int .i64 (K:Int)) rfl (Or.inl ⟨by rfl,fun _ _=>rfl⟩) hS ?_
    try simp only[Act.put,sqX]
    refine sqH 2 (.slice H K ch) rfl (Or.inl ⟨by rfl,fun _ _=>ex_sl1 40 (.tmp 28) (.tmp 29) rfl _ _ _ rfl rfl HHD.out _⟩) hS ?_
    try simp only[Act.put,sqX]
    refine sqH 4 (.int .u32 (u:Int)) rfl (Or.inl ⟨by rfl,fun _ _=>rfl⟩) hS ?_
    try simp only[Act.put,sqX]
    refine sqH 5 (.slice R N cap) rfl (Or.inl ⟨by rfl,fun _ _=>rfl⟩) hS ?_
    try simp only[Act.put,sqX]
    refine sqH 6 (.int .i64 (K:Int)) rfl (Or.inl ⟨by rfl,fun _ _=>rfl⟩) hS ?_
    try simp only[Act.put,sqX]
    refine sqH 7 (.slice T (N-K) ct) rfl (Or.inl ⟨by rfl,fun _ _=>zvk 40 (.tmp 33) (.tmp 34) rfl _ _ _ rfl rfl HTL.out _⟩) hS ?_
    try simp only[Act.put,sqX]
    refine wpAnyH_all (rs:=[3]) (by kernel_rfl) (by simp) fun i hi=>?_
    obtain rfl:i=3:=by simpa using hi
    refine zbf (om:=⟨_,_,_,_,_,_⟩) (fn:=141) (args:=#[.slice H K ch]) (R:=fun u W2=>∃ R4 c4,u=.slice R4 X.length c4∧(XR W2 W2.heap.size R4 X∧∀ ad,R4=some ad→w1.heap.size≤ad.block)∧Below w1.heap.size w1 W2) rfl rfl (by go_simp)
     ((HEX.out w2 hS).mono fun e W2 ⟨R4,c4,he,hx,hb⟩=>⟨_,he,R4,c4,rfl,hx,hS.trans (hb.mono hS.size)⟩) _ _ rfl rfl ?_
    rintro u W2 ⟨R4,c4,rfl,hx4,hb4⟩
    have hS:Below w1.heap.size w1 W2:=hb4
    have HX4:=zq hx4
    clear hx4 hb4 hi
    refine⟨hS,?_⟩
    try simp only[Act.put,sqX]
    refine wpAnyH_all (rs:=[8]) (by kernel_rfl) (by simp) fun i hi=>?_
    obtain rfl:i=8:=by simpa using hi
    refine zbf (om:=⟨_,_,_,_,_,_⟩) (fn:=122) (args:=#[.slice T (N-K) ct]) (R:=fun u W3=>u=.int .u32 (S:Int)∧W3=W2) rfl rfl (by go_simp)
     ((HSE.out W2 hS).mono fun e W3 ⟨he,hb⟩=>⟨_,he,rfl,hb⟩) _ _ rfl rfl ?_
    rintro u W3 ⟨rfl,rfl⟩
    have hS:Below w1.heap.size w1 W3:=hS
    clear hi
    refine⟨hS,?_⟩
    try simp only[Act.put,sqX]
    refine sqH 9 (.int .u32 (V:Int)) rfl (Or.inl ⟨by rfl,fun _ _=>by go_simp⟩) hS ?_
    try simp only[Act.put,sqX]
    refine sqH 10 (.slice R4 X.length c4) rfl (Or.inl ⟨by rfl,fun _ _=>rfl⟩) hS ?_
    try simp only[Act.put,sqX]
    refine sqH 11 (.int .u32 (V:Int)) rfl (Or.inl ⟨by rfl,fun _ _=>rfl⟩) hS ?_
    try simp only[Act.put,sqX]
    refine sqH 12 (.int .i64 0) rfl (Or.inl ⟨by rfl,fun _ _=>rfl⟩) hS ?_
    try simp only[Act.put,sqX]
    refine wpAnyH_done (by kernel_rfl) ?_ _
    try simp only[Act.put,sqX]
    go_wp2_with fail
    go_ret3
    exact⟨R4,c4,by rw[HV.out];rfl,by rw[HV.out];exact HX4.out.1,HB1.out.trans (hS.mono HB1.out.size),fun ad e=>Nat.le_trans HB1.out.size (HX4.out.2 ad e)⟩
 ·have hno:ok l=false:=by simpa using hok
  have hv:zbm l u n=([],0,1):=by unfold zbm;rw[zp (.inl hno)]
  have HV:=zq hv
  have HNO:=zq hno
  clear hv hok h hno
  go_enter Tryz.func113,Tryz.ntmps113
  go_wp2_with fail
  refine HBK.out.mono ?_
  rintro e w1 ⟨R,cap,rfl,own,b1⟩
  rw[HNO.out]
  clear own
  go_wp2_with fail
  go_ret3
  exact Out3N.no HV.out b1
end Go.Proofs.YtdopfpcjpjlkmaaGreatDoor.Ex
