/-
  HaLw
-/
import Derived.Test.YtdopfpcjpjlkmaaGreatDoorHaT
import Derived.Test.YtdopfpcjpjlkmaaGreatDoorHaPl
set_option maxHeartbeats 4000000
set_option linter.unusedSimpArgs false
set_option linter.unusedVariables false
namespace Go.Proofs.YtdopfpcjpjlkmaaGreatDoor.Hd
open Go.RowKit Ex Ino Mm Fs Fr
variable {lo:Nat} {w W:World} {p gb mb mi q d e:Nat} {G Gd M:List UInt8}
def OpdO (lo:Nat) (w:World) (p gb mb mi q d e:Nat) (G Gd M:List UInt8) (en:Ending) (W':World):Prop:=en=.returned (.bool true)∧TwoH lo w p gb mb mi q d e G Gd M M W'
set_option maxRecDepth 100000 in
theorem zwz (h:TwoH lo w p gb mb mi q d e G Gd M M W):Calls Tryz.prog 12 #[.pointer (some ⟨p,0,none⟩),.pointer (some ⟨q,0,none⟩)] W (OpdO lo w p gb mb mi q d e G Gd M):=by
 obtain⟨b,c,h⟩:=h
 have HC:=zq (zte h.mem)
 have HH:=zq h
 have HLE:=zo1 M 4
 clear h
 go_enter Tryz.func12,Tryz.ntmps12
 go_wp2_with fail
 refine HC.out.mono ?_
 rintro e1 w1 ⟨⟨R,cp,rfl,own1⟩,m1,k1⟩
 have r1:=HH.out.mid k1
 have HR:=zq (zly r1)
 have IR1:=zq own1.ir
 have NW:=zq (show ∀ ad,R=some ad→W.heap.size≤ad.block from fun ad e=>(World.ownsRow.lt own1 ad.block (by rw[e];rfl)).1)
 have M1:=zq m1
 have K1:=zq k1
 have R1:=zq r1
 clear own1 m1 k1 r1 HC
 change (opL M).length≤4 at HLE
 go_wp2_with fail
 refine HR.out.mono ?_
 rintro e2 w2 ⟨R2,cp2,rfl,own2,k2⟩
 have i1:=IR1.out.keep k2
 have i2:=own2.ir
 have T2:Hid (TwoH lo w p gb mb mi q d e G Gd M M w2):=zq (HH.out.both M1.out K1.out (Dn.quiet R1.out k2))
 clear own2 k2 HR IR1 M1 K1 R1 HH NW
 generalize opL M=l at *
 go_wp2_with fail
 go_loopw [19,7] (fun i _ wr=>∃ (j:Nat),j≤l.length∧i=.int .i64 (j:Int)∧Keeps (fun _=>False) w2 wr) (fun i _ _=>l.length-(RowKit.intOf i).toNat)
 case atStart=>exact⟨0,by omega,rfl,Keeps.refl _ _⟩
 case round =>
  obtain⟨j,hj,rfl,hk⟩:=hrel
  by_cases hlt:j<l.length
  ·obtain⟨g1,rfl,_,c1⟩:=(i1.keep hk).at_ hlt
   obtain⟨g2,rfl,_,c2⟩:=(i2.keep hk).at_ hlt
   have HK:=zq hk
   clear i1 i2 hk T2
   generalize l[j]=x at *
   go_wp2_with fail
   go_quiet (fail)
   go_wp2_with fail
   go_roundw
   case rel=>exact⟨j+1,by omega,by go_num,HK.out.trans ⟨rfl,rfl,rfl,Nat.le_refl _,fun _ _ _=>rfl⟩⟩
   case measure=>simp[RowKit.intOf];omega
  ·obtain rfl:j=l.length:=by omega
   obtain⟨b2,c2,t2⟩:=T2.out
   have T3:=zq (show TwoH lo w p gb mb mi q d e G Gd M M wr from⟨b2,c2,t2.new hk⟩)
   clear i1 i2 hk T2 t2
   go_wp2_with fail
   go_ret
   exact⟨rfl,T3.out⟩
theorem yhr {G0:List UInt8} (gl:G0.length=8192)(hz:∀ k,1≤k→k≤4→hF G0 k=0):Inv (zbx G0 6144 fmtB):=by
 have hh:=Has.fmt gl
 exact⟨⟨hh.ml,hh.ok⟩,fun k k1 k4=>.inl (by rw[zg5 gl k1 k4];exact hz k k1 k4)⟩
set_option maxRecDepth 100000 in
theorem yax (w:World)(hT:Tab w)(A:Option Addr)(l:List HAct)(cl:Nat)(hl:HActsOk w A l)(hlen:l.length≤1759218604441)(hw:∀ a∈l,a.xs.length≤140737488351232):
  Calls Tryz.prog 3 #[.slice A l.length cl] w (fun e w'=>e=.returned (.bool true)∧Below w.heap.size w w'):=by
 have HT:=zq hT
 have HL:=zq hl
 have HW:=zq hw
 clear hT hl hw
 go_enter Tryz.func3,Tryz.ntmps3
 go_wp2_with fail
 refine(zxf _ HT.out).mono ?_
 rintro e u1 ⟨rfl,b1⟩
 go_wp2_with fail
 refine(yem none 0 0 A l cl u1 (HActR.more (HL.out.ar.below b1) b1.size) hlen).mono ?_
 rintro e u2 ⟨⟨bb,rfl⟩,bf⟩
 have b2:=b1.trans (bf.mono b1.size)
 clear b1 bf
 cases bb
 ·go_wp2_with fail
  go_ret
  exact⟨rfl,b2⟩
 go_wp2_with fail
 refine(zmb none [] 0 u2 BR.nil).mono ?_
 rintro e u3 ⟨p,gb,mb,rfl,p1,p2,p3,hm,k3⟩
 have kk3:=(zac (F:=fun _=>False) b2).trans k3
 have HM:=zq hm
 have KK3:=zq kk3
 have HF:=zq (zy4 none [] 0 u3 BR.nil)
 have P:=zq (show w.heap.size≤p∧w.heap.size≤mb from by have:=b2.size;omega)
 clear hm k3 kk3 b2 p1 p2 p3
 go_wp2_with fail
 refine HF.out.mono ?_
 rintro e u4 ⟨q,rfl,⟨b,c,d,e,hr⟩,k4⟩
 have gl:(zdo []).length=8192:=zdq []
 have gz:∀ k,1≤k→k≤4→hF (zdo []) k=0:=fun k _ _=>zvr _
 generalize zdo []=G0 at *
 have h0:TwoB w.heap.size w p gb mb u3.heap.size q b c d e G0 G0 G0 G0 u4:=by
  have hlt:=HM.out.lt
  have hkk:=KK3.out.trans k4
  exact⟨HM.out.keep k4 (fun f=>f) (fun f=>f) (fun f=>f),hr,HT.out.keep (hkk.block 0 HT.out.pos (fun f=>f)),⟨by omega,by omega,by omega,P.out.1,P.out.2,HT.out.pos⟩,hkk.mono fun _ _ f=>f.elim⟩
 have H0:=zq h0
 have IV:=zq (yhr gl gz)
 clear hr k4 HF HM KK3 h0 gz
 have HFM:=zq (zn3 (zq3 H0.out.mem fmtB (by rw[zja];omega)))
 go_wp2_with fail
 refine HFM.out.mono ?_
 rintro e5 u5 ⟨rfl,m5,k5⟩
 have HRF:=zq (zsb (H0.out.mid k5))
 have HMK:=zq (And.intro m5 k5)
 clear m5 k5 HFM
 go_wp2_with fail
 refine HRF.out.mono ?_
 rintro e6 u6 ⟨rfl,r6,k6⟩
 have H6:=zq (H0.out.both HMK.out.1 HMK.out.2 (Dn.of r6 k6))
 clear r6 k6 HRF HMK H0
 go_wp2_with fail
 generalize hMF:zbx G0 6144 fmtB=MF at *
 clear hMF
 go_loopw [6,22] (fun _ i wr=>∃ (k:Nat) (M:List UInt8),k≤l.length∧i=.int .i64 (k:Int)∧Hid (Inv M)∧TwoH w.heap.size w p gb mb u3.heap.size q d e G0 G0 M M wr) (fun _ i _=>l.length-(RowKit.intOf i).toNat)
 case atStart=>exact⟨0,_,by omega,rfl,IV,H6.out⟩
 case round =>
  clear H6 IV
  obtain⟨k,M,hk,rfl,IVM,htw⟩:=hrel
  have hbw:=znb htw (Nat.le_refl _)
  by_cases hlt:k<l.length
  ·obtain⟨ad,rfl,hlb,d0,d1,d2,d3,d4,d5⟩:=(HL.out.ar.below hbw).at_ hlt
   have hmem:l[k]∈l:=List.getElem_mem hlt
   have ok:=HL.out.ok _ hmem
   have hml:=HW.out _ hmem
   clear hmem
   generalize l[k]=a at *
   have kA:Keeps (fun _=>False) wr (wr.alloc (.cells (zey a).toArray 33)):=Keeps.alloc _ _ _
   have hlow:a.xs≠[]→∀ ad,a.A=some ad→ad.block<w.heap.size:=fun hne ad e=>by
    obtain⟨ad',e',hl',_⟩:=ok.br hne
    rw[e] at e'
    cases e'
    exact hl'
   have okA:a.Ok (wr.alloc (.cells (zey a).toArray 33)):=⟨ok.do__w,ok.s1_w,ok.s2_w,ok.i3_w,ok.i4_w,kA.br ((ok.br.below hbw).more hbw.size) (fun _ _ _ f=>f),ok.cap⟩
   have hmb:mb≠0∧p≠0:=by have:=P.out;have:=HT.out.pos;omega
   have HAC:=zq (yeq (htw.new kA) hmb.1 hmb.2 a okA (by omega) hlow)
   have d9:decide ((k:Int)<(l.length:Int))=true:=by simp only[decide_eq_true_eq];omega
   have p0:(0:Int)≤k:=by omega
   have p1:(k:Int)<l.length:=by omega
   have q3:IntKind.i64.wrap ((k:Int)+1)=(k:Int)+1:=by rw[IntKind.wrap_i64];omega
   clear htw hbw ok hml kA hlow okA hmb
   go_wp2_with fail
   refine HAC.out.mono ?_
   rintro e u7 ⟨β,M2,R2,rfl,h7,hq⟩
   obtain⟨rfl,rfl,iv2⟩:=ycg IVM.out hq
   have HOP:=zq (zwz h7)
   have IV2:=zq iv2
   clear h7 HAC hq iv2 IVM
   go_wp2_with fail
   refine HOP.out.mono ?_
   rintro e u8 ⟨rfl,h8⟩
   have H8:=zq h8
   clear h8 HOP
   go_wp2_with fail
   go_roundw
   case rel=>exact⟨k+1,_,by omega,by go_num,IV2,H8.out⟩
   case measure=>simp[RowKit.intOf];omega
  ·obtain rfl:k=l.length:=by omega
   have d9:decide ((l.length:Int)<(l.length:Int))=false:=by simp
   obtain⟨rb,rc,tw⟩:=htw
   have TW:=zq tw
   clear hbw IVM tw
   go_wp2_with fail
--@last
   refine wp_region_held (S:=fun W=>RefH W u3.heap.size q rb rc d e M G0) (by kernel_rfl) ?_
   change wpAnyH _ _ _ _ _ _ _ _ (wr).drew
   have hS:(fun W=>RefH W u3.heap.size q rb rc d e M G0) wr.drew:=TW.out.ref.keep (Keeps.drew (fun _=>False) wr) (fun _ _ _ h=>h)
   have m8:=TW.out.mem.keep (Keeps.drew (fun _=>False) wr) (fun h=>h) (fun h=>h) (fun h=>h)
   have SP:=zq TW.out.sep
   have B8:=zq (znb (show TwoH w.heap.size w p gb mb u3.heap.size q d e G0 G0 M M wr.drew from⟨_,_,TW.out.new (Keeps.drew (fun _=>False) wr)⟩) (Nat.le_refl _))
   clear TW
   generalize (wr).drew=w8 at *
   refine sqH 3 (.pointer (some ⟨q,0,none⟩)) rfl (Or.inl ⟨by rfl,fun _ _=>rfl⟩) hS ?_
   try simp only[Act.put,sqX]
   refine sqH 4 (.pointer (some ⟨q,0,none⟩)) rfl (Or.inl ⟨by rfl,fun _ _=>by go_simp⟩) hS ?_
   try simp only[Act.put,sqX]
   refine sqH 5 (.pointer (some ⟨q,0,none⟩)) rfl (Or.inl ⟨by rfl,fun _ _=>by go_simp⟩) hS ?_
   try simp only[Act.put,sqX]
   refine sqH 6 (.slice (some ⟨rb,0,none⟩) 8192 rc) rfl (zai rfl 31 (.tmp 43) rfl _ _ rfl fun w h=>zal aggS h.cs.1) hS ?_
   try simp only[Act.put,sqX]
   refine sqH 7 (.string ⟨M.toArray⟩) rfl (Or.inl ⟨by rfl,fun _ h=>zf6 31 9 (.tmp 44) rfl _ _ rfl (yfg h)⟩) hS ?_
   try simp only[Act.put,sqX]
   refine sqH 0 (.pointer (some ⟨p,0,none⟩)) rfl (Or.inl ⟨by rfl,fun _ _=>rfl⟩) hS ?_
   try simp only[Act.put,sqX]
   refine wpAnyH_all (rs:=[1]) (by kernel_rfl) (by simp) fun i hI9=>?_
   obtain rfl:i=1:=by simpa using hI9
   refine zbf (om:=⟨_,_,_,_,_,_⟩) (fn:=13) (args:=#[.pointer (some ⟨p,0,none⟩)]) (R:=fun u w'=>∃ g,u=.slice (some ⟨g,0,none⟩) 8192 8192∧Row8 w' g 5 M∧MemAt w' p gb mb G0 M∧Keeps (·=mb) w8 w') rfl rfl (by go_simp)
    ((zmc m8).mono fun e w' ⟨g,he,h1,h2,h3,h4⟩=>⟨_,he,g,by rw[m8.ml],h2,h3,h4⟩) _ _ rfl rfl ?_
   rintro u w9 ⟨g9,rfl,r9,m9,k9⟩
   have hS:=RefH.keep hS k9 (fun i h1 h2 h3=>by have:=SP.out;omega)
   have B9:=zq (Below.and B8.out k9 (fun i hi=>by have:=SP.out;omega) (Nat.le_refl _))
   clear hI9
   refine⟨hS,?_⟩
   try simp only[Act.put,sqX]
   refine wpAnyH_all (rs:=[2]) (by kernel_rfl) (by simp) fun i hI9=>?_
   obtain rfl:i=2:=by simpa using hI9
   refine zi3 (om:=⟨_,_,_,_,_,_⟩) (u:=.string ⟨M.toArray⟩) (w':=w9) rfl rfl (zf6 31 9 (.tmp 39) rfl _ _ rfl (yff 8192 m8.ml r9)) _ _ rfl rfl ?_
   rintro u w10 ⟨rfl,rfl⟩
   refine⟨hS,?_⟩
   clear hI9
   try simp only[Act.put,sqX]
   refine sqH 8 (.bool true) rfl (Or.inl ⟨by rfl,fun _ _=>by go_simp⟩) hS ?_
   try simp only[Act.put,sqX]
   refine sqH 9 (.bool true) rfl (Or.inl ⟨by rfl,fun _ _=>rfl⟩) hS ?_
   try simp only[Act.put,sqX]
   refine wpAnyH_done (by kernel_rfl) ?_ _
   try simp only[Act.put,sqX]
   clear hS m8 m9 r9 k9
   go_wp2_with fail
   go_ret
   exact⟨rfl,B9.out⟩
--@@
end Go.Proofs.YtdopfpcjpjlkmaaGreatDoor.Hd
