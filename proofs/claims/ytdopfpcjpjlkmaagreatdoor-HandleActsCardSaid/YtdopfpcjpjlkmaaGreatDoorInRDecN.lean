/-
  InRDecN
-/
import Derived.Test.YtdopfpcjpjlkmaaGreatDoorGFn
import Derived.Test.YtdopfpcjpjlkmaaGreatDoorSameB
import Derived.Test.YtdopfpcjpjlkmaaGreatDoorGSnG
set_option maxHeartbeats 1000000
set_option maxRecDepth 20000
set_option linter.unusedSimpArgs false
set_option linter.unusedVariables false
namespace Go.Proofs.YtdopfpcjpjlkmaaGreatDoor.Ino
open Go.RowKit Ex
def zpx (w:World) (b:List UInt8) (e:Ending) (w':World):Prop:=∃ R c,e=.returned (.tuple #[ag (zdx b) R c,.bool (zfg b),.int .i64 (zf7 b)])∧XR w' w'.heap.size R (zdx b).ext∧Below w.heap.size w w'∧∀ ad,R=some ad→(zdx b).ext≠[]→w.heap.size≤ad.block
theorem zed {w w':World} {b:List UInt8} (h:zfg b=false)(hb:Below w.heap.size w w')(E:Int)(hE:zf7 b=E):zpx w b (.returned (.tuple #[.agg #[.string ⟨#[]⟩,.int .i64 0,.slice none 0 0],.bool false,.int .i64 E])) w':=by
 have e1:zdx b=in0:=by simp[zdx,h]
 exact⟨none,0,by rw[e1,h,hE];rfl,by rw[e1];exact XR.nil,hb,fun _ e=>by cases e⟩
theorem zxr (b:List UInt8){k:Nat} (hk:k<23)(h:∀ e∈(zaf b).take k,e.2≠0)(h0:((zaf b).getD k (0,0)).2=0):zvi b=(zaf b).take k:=by
 have hl:(zaf b).length=23:=by simp[zaf]
 unfold zvi
 have hs:zaf b=(zaf b).take k++(zaf b)[k]'(by omega)::(zaf b).drop (k+1):=by
  rw[← List.drop_eq_getElem_cons,List.take_append_drop]
 rw[List.getD_eq_getElem?_getD,List.getElem?_eq_getElem (by omega),Option.getD_some] at h0
 have ha:∀ (l r:List EX) (e:EX),(∀ x∈l,x.2≠0)→e.2=0→(l++e::r).takeWhile (fun e=>decide (e.2≠0))=l:=by
  intro l r e hl he
  induction l with
  | nil=>rw[List.nil_append,List.takeWhile_cons,he];rfl
  | cons y t ih =>
   rw[List.cons_append,List.takeWhile_cons,zp (by simpa using hl y (by simp)),ih (fun x hx=>hl x (by simp[hx]))]
 have:=ha _ ((zaf b).drop (k+1)) _ h h0
 rw[← hs] at this
 exact this
theorem ybi (b:List UInt8)(h:∀ e∈(zaf b).take 23,e.2≠0):zvi b=(zaf b).take 23:=by
 have hl:(zaf b).length=23:=by simp[zaf]
 rw[List.take_of_length_le (by omega)] at h ⊢
 unfold zvi
 have:=zdz (fun e:EX=>decide (e.2≠0)) (zaf b) [] (fun x hx=>by simpa using h x hx) (fun x hx=>by cases hx)
 rwa [List.append_nil] at this
theorem ze5 (b:List UInt8):(zba b).ext.length≤100∧(zba b).name.length≤100000∧(-9223372036854775808≤(zba b).size∧(zba b).size≤9223372036854775807):=by
 have h1:(zvi b).length≤(zaf b).length:=(List.takeWhile_sublist _).length_le
 have h2:(zaf b).length=23:=by simp[zaf]
 exact⟨by show(zvi b).length≤100;omega,(zl3 b).2.1,(zl3 b).2.2⟩
theorem zo5 {P:Program} {t:TypeId} (hagg:∀ w,(isAgg t).run P w=.ok false w){w:World} {ad:Addr} {v:Value} (h:w.cell? ad=some v):(Instr.loadAt t (.pointer (some ad))).run P w=.ok v w:=by
 simp[Instr.loadAt,Instr.sureAddr,loadVar,hagg,h]
def zpw (w:World) (b:List UInt8) (wr:World) (i:Value):Prop:=∃ (k:Nat) (R:Option Addr) (c:Nat),i=.int .i64 (18+2*(k:Int))∧k≤23∧(∀ e∈(zaf b).take k,e.2≠0) ∧
 wr.heap[w.heap.size]?=some (.cells #[.string ⟨#[]⟩,.int .i64 0,.slice none 0 0] 113 (0,0)) ∧
 wr.heap[w.heap.size+1+1]?=some (.cells #[St (zbn b),.int .i64 (zcv b),.slice R ((zaf b).take k).length c] 113 (0,0)) ∧
 OwnX wr (w.heap.size+3) R c ((zaf b).take k)∧w.heap.size+3≤wr.heap.size∧Below w.heap.size w wr
theorem zsi (A:Option Addr)(b:List UInt8)(c:Nat)(w:World)(hx:BR w w.heap.size A b)(hl:b.length≤1000)(hq:b.length≤c):Calls Tryz.prog 138 #[.slice A b.length c] w (zpx w b):=by
 obtain⟨wA,hwA⟩:∃ wA,wA=w.alloc (.cells #[.string ⟨#[]⟩,.int .i64 0,.slice none 0 0] 113):=⟨_,rfl⟩
 have a0:wA.heap[w.heap.size]?=some (.cells #[.string ⟨#[]⟩,.int .i64 0,.slice none 0 0] 113 (0,0)):=by rw[hwA];exact heap_alloc_new w _
 have bA:Below w.heap.size w wA:=by rw[hwA];exact(Below.refl _ _).alloc (Nat.le_refl _) _
 have sA:wA.heap.size=w.heap.size+1:=by rw[hwA,World.size_alloc]
 by_cases h64:b.length=64
 ·have hxA:=hx.below bA
  obtain⟨ad,rfl,had,hcb⟩:=hx (by intro h;rw[h] at h64;simp at h64)
  have hmk:(Instr.makeSlice 31 (.int .i64 64) (.int .i64 64)).run Tryz.prog (w.alloc (.cells #[.string ⟨#[]⟩,.int .i64 0,.slice none 0 0] 113))=.ok (.slice (some ⟨w.heap.size+1,0,none⟩) 64 64) ((w.alloc (.cells #[.string ⟨#[]⟩,.int .i64 0,.slice none 0 0] 113)).alloc (.cells (madeCells #[.int .u8 0] 64) 5)):=by
   have:=zfq 64 (by decide) (w.alloc (.cells #[.string ⟨#[]⟩,.int .i64 0,.slice none 0 0] 113))
   rwa [World.size_alloc] at this
  have r3:=Row8.made wA 64 5
  rw[sA] at r3
  have b0:=(Below.heap_alloc wA (.cells (madeCells #[.int .u8 0] 64) 5) w.heap.size (by omega)).trans a0
  have bB:=bA.alloc bA.size (.cells (madeCells #[.int .u8 0] 64) 5)
  have sB:(wA.alloc (.cells (madeCells #[.int .u8 0] 64) 5)).heap.size=w.heap.size+1+1:=by rw[World.size_alloc,sA]
  rw[hwA] at r3 b0 bB sB
  generalize hwB:(w.alloc (.cells #[.string ⟨#[]⟩,.int .i64 0,.slice none 0 0] 113)).alloc (.cells (madeCells #[.int .u8 0] 64) 5)=wB at *
  have hs:=Go.Proofs.YtdopfpcjpjlkmaaGreatDoor.sameB_any (some ad) b c (some ⟨w.heap.size+1,0,none⟩) (List.replicate 64 0) 64 wB (hx.below bB |>.more bB.size) (by have:=r3.br;exact this)
  rw[h64] at hs
  have HS:=zq hs
  have B0:=zq b0
  have BB:=zq bB
  have HX:=zq hx
  have HL:=zq h64
  have HCB:Hid (∀ W,Below w.heap.size w W→∀ k,k<64→W.cell? (ad.add k)=some (B8 (b.getD k 0))):=zq fun W hW k hk=>(hW.cell (p:=ad.add k) (by rw[zan];exact had)).trans (hcb k _ (by rw[List.getElem?_eq_getElem (by omega),List.getD_eq_getElem?_getD,List.getElem?_eq_getElem (by omega)];rfl))
  rw[h64] at hq ⊢
  clear hs b0 bB hx h64 r3 hcb hxA a0 bA sA
  go_enter Tryz.func138,Tryz.ntmps138
  go_wp2_with fail
  refine HS.out.mono ?_
  clear HS hmk hwB hwA
  rintro e w2 ⟨rfl,rfl⟩
  by_cases hz:b=zr64
  ·have hzd:decide (b=List.replicate 64 0)=true:=decide_eq_true hz
   rw[hzd]
   have hno:zfg b=false:=by rw[hz];exact zmk
   have hde:zf7 b=0:=by rw[hz];exact zmr
   have hS:Below w.heap.size w wB:=BB.out
   have sr:=run_storeAt_mid (P:=Tryz.prog) wB w.heap.size 0 113 #[.string ⟨#[]⟩,.int .i64 0,.slice none 0 0] (zax (zs:=[_,_,_]) B0.out 0 3 (by simp)) zbc (by simp[Value.oneCell'])
   obtain⟨h1,k1⟩:=zah (zs:=[_,_,_]) (ys:=[.string ⟨#[]⟩,.int .i64 0,.slice none 0 0]) B0.out rfl
   have hb1:=hS.trans (k1.toBelow w.heap.size hS.size (by intro k hk;omega))
   generalize wB.setCells w.heap.size 0 [.string ⟨#[]⟩,.int .i64 0,.slice none 0 0]=w9 at *
   have HF1:=zq (zed (b:=b) hno hb1 0 hde)
   have SR2:=zq sr
   have H1:=zq h1
   clear sr h1 k1 hb1 hS hno hde
   go_wp2_with (first
    | ((with_reducible refine at_ (op:=.store 113 (.tmp 2) (.tmp 16)) ?_);refine zat rfl (zbb 113 (.tmp 2) (.tmp 16) rfl _ _ rfl rfl SR2.out) ?_)
    | fail)
   refine bodyPost_ret (v:=.tuple #[.agg #[.string ⟨#[]⟩,.int .i64 0,.slice none 0 0],.bool false,.int .i64 0]) ?_ rfl HF1.out
   exact zap rfl _ _ w.heap.size 113 _ (0,0) _ _ _ rfl rfl rfl H1.out Tryz.underlying113 rfl (by rw[zbc];rfl)
  ·have hzd:decide (b=List.replicate 64 0)=false:=decide_eq_false hz
   rw[hzd]
   have HZ:=zq hz
   clear hz hzd
   have p0:wB.cell? ad=some (.int .u8 ((b.getD 0 0).toNat:Int)):=by have:=HCB.out wB BB.out 0 (by omega);rwa [Addr.add_zero'] at this
   have hu:=(b.getD 0 0).toNat_lt
   have hnm:zbn b=(b.drop 1).take (min (b.getD 0 0).toNat 15):=rfl
   by_cases hbig:15<(b.getD 0 0).toNat
   ·have hno:zfg b=false:=yee hbig
    have hde:zf7 b=110:=zgn hno HZ.out
    generalize (b.getD 0 0).toNat=n at *
    have n1:decide ((15:Int)<(n:Int))=true:=by simp;omega
    have hS:Below w.heap.size w wB:=BB.out
    have f0:=B0.out
    have sr:=run_storeAt_mid (P:=Tryz.prog) wB w.heap.size 0 113 #[.string ⟨#[]⟩,.int .i64 0,.slice none 0 0] (zax (zs:=[_,_,_]) f0 0 3 (by simp)) zbc (by simp[Value.oneCell'])
    obtain⟨h1,k1⟩:=zah (zs:=[_,_,_]) (ys:=[.string ⟨#[]⟩,.int .i64 0,.slice none 0 0]) f0 rfl
    have hb1:=hS.trans (k1.toBelow w.heap.size hS.size (by intro k hk;omega))
    generalize wB.setCells w.heap.size 0 [.string ⟨#[]⟩,.int .i64 0,.slice none 0 0]=w9 at *
    have HF1:=zq (zed (b:=b) hno hb1 110 hde)
    have SR2:=zq sr
    have H1:=zq h1
    clear sr h1 k1 hb1 hS hno hde
    go_wp2_with (first
     | ((with_reducible refine at_ (op:=.store 113 (.tmp 2) (.tmp 21)) ?_);refine zat rfl (zbb 113 (.tmp 2) (.tmp 21) rfl _ _ rfl rfl SR2.out) ?_)
     | fail)
    refine bodyPost_ret (v:=.tuple #[.agg #[.string ⟨#[]⟩,.int .i64 0,.slice none 0 0],.bool false,.int .i64 110]) ?_ rfl HF1.out
    exact zap rfl _ _ w.heap.size 113 _ (0,0) _ _ _ rfl rfl rfl H1.out Tryz.underlying113 rfl (by rw[zbc];rfl)
   ·generalize (b.getD 0 0).toNat=n at *
    have n1:decide ((15:Int)<(n:Int))=false:=by simp;omega
    have hn15:n≤15:=by omega
    have hlnm:(zbn b).length=n:=by rw[hnm,List.length_take,List.length_drop,HL.out];omega
    have HNM:=zq hnm
    clear hbig hnm
    go_wp2_with fail
    have c0:wB.drew.heap[w.heap.size]?=some (.cells #[.string ⟨#[]⟩,.int .i64 0,.slice none 0 0] 113 (0,0)):=B0.out
    have bC:Below w.heap.size w wB.drew:=BB.out.drew
    have sC:wB.drew.heap.size=w.heap.size+1+1:=sB
    have p0d:wB.drew.cell? ad=some (.int .u8 (n:Int)):=p0
    clear B0 BB sB
    refine wp_region_held (S:=fun W=>Below (w.heap.size+1+1) wB.drew W) (by kernel_rfl) ?_
    change wpAnyH _ _ _ _ _ _ _ _ wB.drew
    have hS:Below (w.heap.size+1+1) wB.drew wB.drew:=Below.refl _ _
    generalize wB.drew=wC at *
    have hbw:∀ W,Below (w.heap.size+1+1) wC W→Below w.heap.size w W:=fun W hW=>bC.trans (hW.mono (by omega))
    have hbr:∀ W,Below (w.heap.size+1+1) wC W→BR W W.heap.size (some ad) b:=fun W hW=>(HX.out.below (hbw W hW)).more (hbw W hW).size
    have hcv:∀ W,Below (w.heap.size+1+1) wC W→(convert 31 9 (.slice (some (ad.add 1)) n (c-1))).run Tryz.prog W=.ok (St (zbn b)) W:=fun W hW=>by
     have:=zex (P:=Tryz.prog) W W.heap.size 31 9 5 (some (ad.add 1)) (zbn b) (c-1) (fun _=>⟨_,rfl,by rw[zan];exact Nat.lt_of_lt_of_le had (hbw W hW).size,fun k u hk=>by
      have hkl:=(List.getElem?_eq_some_iff.1 hk).1
      rw[HNM.out,List.getElem?_take,zp (by omega),List.getElem?_drop] at hk
      rw[Go.Deep.add_add,HCB.out W (hbw W hW) (1+k) (by omega),List.getD_eq_getElem?_getD,hk]
      rfl⟩) Tryz.underlying31 Tryz.underlying5 Tryz.underlying9
     rw[hlnm] at this
     exact this
    have hnl:=zl6 b 16 2
    have hnum:∀ W,Below (w.heap.size+1+1) wC W→Calls Tryz.prog 161 #[.slice (some ad) 64 c,.int .i64 16,.int .i64 2] W fun e W'=>e=.returned (.int .u64 (num b 16 2:Nat))∧W'=W:=fun W hW=>by
     have:=zni (some ad) b c 16 2 W (hbr W hW) (by rw[HL.out];decide) (by decide) (by decide)
     rw[HL.out] at this
     exact this.mono fun e W' ⟨he,hw⟩=>⟨he,hw.symm⟩
    have HS1:Hid (zcv b=(num b 16 2:Nat)):=zq rfl
    have HXA:Hid (∀ W,Below (w.heap.size+1+1) wC W→Below (w.heap.size+1+1) wC (W.alloc (.cells #[.string ⟨#[]⟩,.int .i64 0,.slice none 0 0] 113))):=zq fun W hW=>hW.alloc (by rw[← sC];exact hW.size) _
    have HP0:Hid (∀ W,Below (w.heap.size+1+1) wC W→W.cell? ad=some (.int .u8 (n:Int))):=zq fun W hW=>(hW.cell (p:=ad) (by omega)).trans p0d
    generalize hnn:num b 16 2=nn at *
    have hn1:nn<65536:=hnl
    clear hnl hnn p0 p0d
    have hwn:IntKind.i64.wrap (nn:Int)=(nn:Int):=by rw[IntKind.wrap_i64];omega
    have hw8:IntKind.u8.wrap (1+(n:Int))=1+(n:Int):=by simp[IntKind.wrap,IntKind.bits,IntKind.signed];omega
    have hq1:(1:Int)≤1+(n:Int):=by omega
    have hq2:1+(n:Int)≤(c:Int):=by omega
    have hc1:¬c=1:=by omega
    have hone:(#[St (zbn b),.int .i64 (nn:Int),.slice none 0 0]:Array Value).all (·.oneCell')=true:=by simp[Value.oneCell']
    have HCV:=zq hcv
    have HNUM:=zq hnum
    clear hcv hnum hbr hbw
    refine sqH 0 (.slice (some ad) 64 c) rfl (Or.inl ⟨by rfl,fun _ _=>rfl⟩) hS ?_
    try simp only[Act.put,sqX]
    refine sqH 1 (.slice (some ad) 64 c) rfl (Or.inl ⟨by rfl,fun _ _=>rfl⟩) hS ?_
    try simp only[Act.put,sqX]
    refine sqH 2 (.pointer (some ad)) rfl (Or.inl ⟨by rfl,fun _ _=>by go_simp⟩) hS ?_
    try simp only[Act.put,sqX]
    refine sqH 3 (.int .u8 (n:Int)) rfl (zai rfl 5 (.tmp 24) rfl _ _ rfl fun W h=>zo5 ztp (HP0.out W h)) hS ?_
    try simp only[Act.put,sqX]
    refine sqH 4 (.int .u8 (1+(n:Int))) rfl (Or.inl ⟨by rfl,fun _ _=>by go_simp⟩) hS ?_
    try simp only[Act.put,sqX]
    refine sqH 5 (.slice (some (ad.add 1)) n (c-1)) rfl (Or.inl ⟨by rfl,fun _ _=>by go_simp;try omega⟩) hS ?_
    try simp only[Act.put,sqX]
    refine sqH 6 (St (zbn b)) rfl (Or.inl ⟨by rfl,fun W h=>zf6 31 9 (.tmp 27) rfl _ _ rfl (HCV.out W h)⟩) hS ?_
    try simp only[Act.put,sqX]
    refine sqH 7 (.slice (some ad) 64 c) rfl (Or.inl ⟨by rfl,fun _ _=>rfl⟩) hS ?_
    try simp only[Act.put,sqX]
    refine zgt 8 9 10 11 ⟨_,_,_,_,_,_⟩ ⟨_,_,_,_,_,_⟩ ⟨_,_,_,_,_,_⟩ ⟨_,_,_,_,_,_⟩ rfl rfl rfl rfl (by kernel_rfl) 161 #[.slice (some ad) 64 c,.int .i64 16,.int .i64 2] (.int .u64 (nn:Nat)) (.int .i64 (nn:Int)) (.agg #[St (zbn b),.int .i64 (nn:Int),.slice none 0 0]) (.pointer (some ⟨wC.heap.size,0,none⟩)) (w':=wC.alloc (.cells #[.string ⟨#[]⟩,.int .i64 0,.slice none 0 0] 113)) rfl rfl (fun _=>by go_simp) HNUM.out (Or.inl ⟨by rfl,fun _ _=>by go_simp⟩) (Or.inl ⟨by rfl,fun _ _=>by go_simp⟩) (by go_simp) hS (HXA.out _ hS) (fun _ _ _ h=>h) (fun _ _ _ h=>h) ?_
    try simp only[Act.put,sqX]
    have hS2:=HXA.out _ hS
    have g2:(wC.alloc (.cells #[.string ⟨#[]⟩,.int .i64 0,.slice none 0 0] 113)).heap[wC.heap.size]?=some (.cells #[.string ⟨#[]⟩,.int .i64 0,.slice none 0 0] 113 (0,0)):=heap_alloc_new wC _
    have s2:(wC.alloc (.cells #[.string ⟨#[]⟩,.int .i64 0,.slice none 0 0] 113)).heap.size=w.heap.size+3:=by rw[World.size_alloc,sC]
    rw[sC] at g2
    have ep:Value.pointer (some ⟨wC.heap.size,0,none⟩)=.pointer (some ⟨w.heap.size+1+1,0,none⟩):=by rw[sC]
    rw[ep]
    clear hS ep
    generalize wC.alloc (.cells #[.string ⟨#[]⟩,.int .i64 0,.slice none 0 0] 113)=wD at *
    have hS:=hS2
    clear hS2
    refine wpAnyH_all (rs:=[12]) (by kernel_rfl) (by simp) fun i hi=>?_
    obtain rfl:i=12:=by simpa using hi
    have srun:=run_storeAt_mid (P:=Tryz.prog) wD (w.heap.size+1+1) 0 113 #[St (zbn b),.int .i64 (nn:Int),.slice none 0 0] (zax (zs:=[_,_,_]) g2 0 3 (by simp)) zbc hone
    obtain⟨g3,k3⟩:=zah (zs:=[_,_,_]) (ys:=[St (zbn b),.int .i64 (nn:Int),.slice none 0 0]) g2 rfl
    refine zc0 (om:=⟨_,_,_,_,_,_⟩) (w':=wD.setCells (w.heap.size+1+1) 0 [St (zbn b),.int .i64 (nn:Int),.slice none 0 0]) rfl rfl (zbb 113 (.tmp 5) (.tmp 32) rfl _ _ rfl rfl srun) ?_
    have hS3:Below (w.heap.size+1+1) wC _:=hS.trans (k3.toBelow _ (by omega) (by intro k hk;omega))
    have s3:=k3.size
    clear srun k3 hS hi
    generalize wD.setCells (w.heap.size+1+1) 0 [St (zbn b),.int .i64 (nn:Int),.slice none 0 0]=wE at *
    have hS:=hS3
    clear hS3
    refine⟨hS,?_⟩
    try simp only[Act.put,sqX]
    refine wpAnyH_done (by kernel_rfl) ?_ _
    try simp only[Act.put,sqX]
    have e0:=(hS.block w.heap.size (by omega)).trans c0
    have bE:=bC.trans (hS.mono (by omega))
    have sE:w.heap.size+3≤wE.heap.size:=by omega
    have HR0:Hid (zpw w b wE (.int .i64 18)):=⟨0,none,0,rfl,by omega,(fun e he=>by cases he),e0,by rw[HS1.out];exact g3,OwnX.nil _ _,sE,bE⟩
    clear e0 bE sE g3 hS c0 bC
    go_wp2_with fail
    go_loopw [6] (fun i wr=>zpw w b wr i) (fun i _=>(64-RowKit.intOf i).toNat)
    case atStart=>exact HR0.out
    case round =>
     obtain⟨k,R,c2,rfl,hk,hall,e0,e2,ow,hsz,hb⟩:=hrel
     by_cases hlt:k<23
     ·have hpa:=zsk b hlt
      have hpt:=zjv b hlt
      have l0:=(b.getD (18+2*k) 0).toNat_lt
      have l1:=(b.getD (19+2*k) 0).toNat_lt
      obtain⟨K,hK⟩:∃ K:Nat,K=18+2*k:=⟨_,rfl⟩
      rw[show 19+2*k=K+1 by omega] at hpa l1
      rw[show 18+2*k=K by omega] at hpa l0
      rw[show(18:Int)+2*(k:Int)=(K:Int) by omega]
      have q0:∀ W,Below (w.heap.size+1+1) wr W→W.cell? (ad.add K)=some (.int .u8 ((b.getD K 0).toNat:Int)):=fun W hW=>HCB.out W (hb.trans (hW.mono (by omega))) K (by omega)
      have q1:∀ W,Below (w.heap.size+1+1) wr W→W.cell? ⟨ad.block,ad.off+(K+1),none⟩=some (.int .u8 ((b.getD (K+1) 0).toNat:Int)):=fun W hW=>by
       have:=HCB.out W (hb.trans (hW.mono (by omega))) (K+1) (by omega)
       rwa [show ad.add (K+1)=⟨ad.block,ad.off+(K+1),none⟩ from by unfold Addr.add;simp] at this
      generalize (b.getD K 0).toNat=n0 at *
      generalize (b.getD (K+1) 0).toNat=n1 at *
      have l0':n0<256:=l0
      have l1':n1<256:=l1
      have ew3:IntKind.i64.wrap ((K:Int)+1)=((K+1:Nat):Int):=by rw[IntKind.wrap_i64];omega
      have ew5:IntKind.i64.wrap ((K:Int)+2)=((K+2:Nat):Int):=by rw[IntKind.wrap_i64];omega
      have ew6:IntKind.i64.wrap (n0:Int)=(n0:Int):=by rw[IntKind.wrap_i64];omega
      have ew7:IntKind.i64.wrap (n1:Int)=(n1:Int):=by rw[IntKind.wrap_i64];omega
      have hK1:(K:Int)<64:=by omega
      have hK2:((K+1:Nat):Int)<64:=by omega
      have hKd:decide ((K:Int)<64)=true:=decide_eq_true hK1
      have r1:=q1 wr (Below.refl _ _)
      by_cases hn1:n1=0
      ·have hext:=zxr b hlt hall (by rw[hpa];simp[hn1])
       subst hn1
       clear HR0 hK q0 q1 hpa hpt
       have hin:InOk wr (zba b) R:=⟨by show XR wr wr.heap.size R (zvi b);rw[hext];exact ow.xr (zhk b _),(ze5 b).1,(ze5 b).2.1,(ze5 b).2.2⟩
       have hlen:(zba b).ext.length=((zaf b).take k).length:=by show(zvi b).length=_;rw[hext]
       have hnew:∀ ad,R=some ad→(zba b).ext≠[]→w.heap.size+3≤ad.block:=fun ad e hn=>by
        change zvi b≠[] at hn
        rw[hext] at hn
        obtain⟨g,e2',hg,_⟩:=ow.at_ (k:=0) (List.length_pos_iff.2 hn)
        rw[e] at e2'
        cases e2'
        exact hg
       rw[← hlen] at e2
       have he2:wr.heap[w.heap.size+1+1]?=some (.cells #[St (zba b).name,.int .i64 (zba b).size,.slice R (zba b).ext.length c2] 113 (0,0)):=e2
       have hld:∀ W,Below wr.heap.size wr W→(Instr.loadAt 113 (.pointer (some ⟨w.heap.size+1+1,0,none⟩))).run Tryz.prog W=.ok (ag (zba b) R c2) W:=fun W hW=>by
        have h1:=(hW.block (w.heap.size+1+1) (by omega)).trans he2
        exact run_loadAt_mid W (w.heap.size+1+1) 0 113 [St (zba b).name,.int .i64 (zba b).size,.slice R (zba b).ext.length c2] _ (zc8 (zs:=[_,_,_]) h1) Tryz.underlying113 rfl (by rw[zbc];rfl)
       have LD:=zq hld
       have EN:=zq (znh (zba b) R c2 wr hin)
       have HIN:=zq hin
       have HNEW:=zq hnew
       have E0:=zq e0
       have HB:=zq hb
       clear hext hin hlen hnew e2 he2 hld e0 hb ow hall
       go_wp2_with (first
        | ((with_reducible refine at_ (op:=.load 113 (.tmp 5)) ?_);refine zaj rfl _ (zdd 113 (.tmp 5) rfl _ _ rfl (LD.out _ (Below.refl _ _))) ?_)
        | fail)
       refine EN.out.mono ?_
       clear EN
       rintro e w5 ⟨R5,n5,c5,rfl,h5,br5,b5,_⟩
       have f0:=(b5.block w.heap.size (by omega)).trans E0.out
       have hS:=HB.out.trans (b5.mono HB.out.size)
       have hir:=zu3 b
       by_cases hc:zd6 (zba b)=true
       ·have he:ze1 (zba b)=0:=by simp[ze1,hc]
        have heo:zrd (zba b)=zdr (zba b):=by simp[zrd,hc]
        rw[he]
        rw[heo] at h5 br5
        rw[zay] at h5
        subst h5
        have hs:=Go.Proofs.YtdopfpcjpjlkmaaGreatDoor.sameB_any (some ad) b c R5 (zdr (zba b)) c5 w5 ((HX.out.below hS).more hS.size) br5
        rw[HL.out,zay] at hs
        rw[hc,Bool.true_and] at hir
        have HSM:=zq hs
        have HIR:=zq hir
        clear hs hir he heo hc br5
        go_wp2_with fail
        refine HSM.out.mono ?_
        clear HSM
        rintro e w6 ⟨rfl,rfl⟩
        by_cases hq:b=zdr (zba b)
        ·have hqd:decide (b=zdr (zba b))=true:=decide_eq_true hq
         rw[hqd]
         have hyes:zfg b=true:=by rw[← HIR.out.1];exact decide_eq_true hq.symm
         have hrr:=HIR.out.2 hyes
         have hde:zf7 b=0:=by simp[zf7,hyes]
         have hdx:zdx b=zba b:=by rw[hrr];simp[zdx,hyes]
         have sr:=run_storeAt_mid (P:=Tryz.prog) w5 w.heap.size 0 113 #[St (zba b).name,.int .i64 (zba b).size,.slice R (zba b).ext.length c2] (zax (zs:=[_,_,_]) f0 0 3 (by simp)) zbc (by simp[Value.oneCell'])
         obtain⟨h1,k1⟩:=zah (zs:=[_,_,_]) (ys:=[St (zba b).name,.int .i64 (zba b).size,.slice R (zba b).ext.length c2]) f0 rfl
         have hb1:=hS.trans (k1.toBelow w.heap.size hS.size (by intro k hk;omega))
         have lr:=LD.out w5 b5
         have xr7:XR w5 w5.heap.size R (zba b).ext:=(HIN.out.xr.below b5).more b5.size
         generalize w5.setCells w.heap.size 0 [St (zba b).name,.int .i64 (zba b).size,.slice R (zba b).ext.length c2]=w9 at *
         have xr9:XR w9 w9.heap.size R (zba b).ext:=by
          refine⟨fun hn=>?_,xr7.ok⟩
          obtain⟨ad',e,hb',hc'⟩:=xr7.ar hn
          have hnw:=HNEW.out ad' e hn
          refine⟨ad',e,by have:=k1.size;omega,fun k a ha j v hv=>?_⟩
          refine(World.cell?_of_block (w:=w5) (k1.block _ ?_ ?_)).trans (hc' k a ha j v hv)
          ·rw[zan,zan];omega
          ·rw[zan,zan];omega
         have HF1:Hid (zpx w b (.returned (.tuple #[.agg #[St (zba b).name,.int .i64 (zba b).size,.slice R (zba b).ext.length c2],.bool true,.int .i64 0])) w9):=⟨R,c2,by rw[hdx,hde,hyes],by rw[hdx];exact xr9,hb1,fun ad e hn=>by rw[hdx] at hn;have:=HNEW.out ad e hn;omega⟩
         have SR2:=zq sr
         have LR2:=zq lr
         have H1:=zq h1
         clear sr lr h1 k1 hb1 f0 hS hyes xr7 xr9 hdx hde hq hqd hrr HIR
         go_wp2_with (first
          | ((with_reducible refine at_ (op:=.load 113 (.tmp 5)) ?_);refine zaj rfl _ (zdd 113 (.tmp 5) rfl _ _ rfl LR2.out) ?_)
          | ((with_reducible refine at_ (op:=.store 113 (.tmp 2) (.tmp 76)) ?_);refine zat rfl (zbb 113 (.tmp 2) (.tmp 76) rfl _ _ rfl rfl SR2.out) ?_)
          | fail)
         refine bodyPost_ret (v:=.tuple #[.agg #[St (zba b).name,.int .i64 (zba b).size,.slice R (zba b).ext.length c2],.bool true,.int .i64 0]) ?_ rfl HF1.out
         exact zap rfl _ _ w.heap.size 113 _ (0,0) _ _ _ rfl rfl rfl H1.out Tryz.underlying113 rfl (by rw[zbc];rfl)
        ·have hqd:decide (b=zdr (zba b))=false:=decide_eq_false hq
         rw[hqd]
         have hno:zfg b=false:=by rw[← HIR.out.1];exact decide_eq_false (fun h=>hq h.symm)
         have hde:zf7 b=110:=zgn hno HZ.out
         clear HIR hqd hq
         have sr:=run_storeAt_mid (P:=Tryz.prog) w5 w.heap.size 0 113 #[.string ⟨#[]⟩,.int .i64 0,.slice none 0 0] (zax (zs:=[_,_,_]) f0 0 3 (by simp)) zbc (by simp[Value.oneCell'])
         obtain⟨h1,k1⟩:=zah (zs:=[_,_,_]) (ys:=[.string ⟨#[]⟩,.int .i64 0,.slice none 0 0]) f0 rfl
         have hb1:=hS.trans (k1.toBelow w.heap.size hS.size (by intro k hk;omega))
         generalize w5.setCells w.heap.size 0 [.string ⟨#[]⟩,.int .i64 0,.slice none 0 0]=w9 at *
         have HF1:=zq (zed (b:=b) hno hb1 110 hde)
         have SR2:=zq sr
         have H1:=zq h1
         clear sr h1 k1 hb1 hS hno hde
         go_wp2_with (first
          | ((with_reducible refine at_ (op:=.store 113 (.tmp 2) (.tmp 75)) ?_);refine zat rfl (zbb 113 (.tmp 2) (.tmp 75) rfl _ _ rfl rfl SR2.out) ?_)
          | fail)
         refine bodyPost_ret (v:=.tuple #[.agg #[.string ⟨#[]⟩,.int .i64 0,.slice none 0 0],.bool false,.int .i64 110]) ?_ rfl HF1.out
         exact zap rfl _ _ w.heap.size 113 _ (0,0) _ _ _ rfl rfl rfl H1.out Tryz.underlying113 rfl (by rw[zbc];rfl)
       ·have he:ze1 (zba b)=110:=by simp[ze1,hc]
        rw[he]
        have hno:zfg b=false:=by rw[← hir.1];simp[hc]
        have hde:zf7 b=110:=zgn hno HZ.out
        clear hir hc he h5 br5
        have sr:=run_storeAt_mid (P:=Tryz.prog) w5 w.heap.size 0 113 #[.string ⟨#[]⟩,.int .i64 0,.slice none 0 0] (zax (zs:=[_,_,_]) f0 0 3 (by simp)) zbc (by simp[Value.oneCell'])
        obtain⟨h1,k1⟩:=zah (zs:=[_,_,_]) (ys:=[.string ⟨#[]⟩,.int .i64 0,.slice none 0 0]) f0 rfl
        have hb1:=hS.trans (k1.toBelow w.heap.size hS.size (by intro k hk;omega))
        generalize w5.setCells w.heap.size 0 [.string ⟨#[]⟩,.int .i64 0,.slice none 0 0]=w9 at *
        have HF1:=zq (zed (b:=b) hno hb1 110 hde)
        have SR2:=zq sr
        have H1:=zq h1
        clear sr h1 k1 hb1 hS hno hde
        go_wp2_with (first
         | ((with_reducible refine at_ (op:=.store 113 (.tmp 2) (.tmp 75)) ?_);refine zat rfl (zbb 113 (.tmp 2) (.tmp 75) rfl _ _ rfl rfl SR2.out) ?_)
         | fail)
        refine bodyPost_ret (v:=.tuple #[.agg #[.string ⟨#[]⟩,.int .i64 0,.slice none 0 0],.bool false,.int .i64 110]) ?_ rfl HF1.out
        exact zap rfl _ _ w.heap.size 113 _ (0,0) _ _ _ rfl rfl rfl H1.out Tryz.underlying113 rfl (by rw[zbc];rfl)
      ·have hnb:((n1:Int) != 0)=true:=by simp[hn1]
       have hn1':¬(n1:Int)=0:=by omega
       rw[hpa] at hpt
       have hall2:∀ e∈(zaf b).take (k+1),e.2≠0:=fun e he=>by
        rw[hpt] at he
        rcases List.mem_append.1 he with he | he
        ·exact hall e he
        ·rw[List.mem_singleton] at he
         subst he
         exact hn1'
       have HK:=zq hK
       have Q0:=zq q0
       have Q1:=zq q1
       have HPT:=zq hpt
       have HALL:=zq hall2
       have E0:=zq e0
       have E2:=zq e2
       have OW:=zq ow
       have HB:=zq hb
       have x2:wr.cell? ⟨w.heap.size+1+1,2,none⟩=some (.slice R ((zaf b).take k).length c2):=by rw[cell_of_row _ _ _ _ _ _ e2];rfl
       clear hK q0 q1 hpt hpa hall hall2 e0 e2 ow hb l0 l1 HR0 hn1
       go_wp2_with fail
       have hS:Below (w.heap.size+1+1) wr wr.drew:=(Below.refl _ _).drew
       have hS3:Below (w.heap.size+3) wr wr.drew:=(Below.refl _ _).drew
       have hz:wr.drew.heap.size=wr.heap.size:=rfl
       have hap0:=OW.out.below (show Below wr.heap.size wr wr.drew from(Below.refl _ _).drew)
       refine wp_region_held (S:=fun W=>Below (w.heap.size+1+1) wr W) (by kernel_rfl) ?_
       change wpAnyH _ _ _ _ _ _ _ _ wr.drew
       generalize wr.drew=w2 at *
       have hx2:w.heap.size+1+1<w.heap.size+3:=by omega
       refine sqH 0 (.pointer (some ⟨w.heap.size+1+1,2,none⟩)) rfl (Or.inl ⟨by rfl,fun _ _=>by go_simp⟩) hS ?_
       try simp only[Act.put,sqX]
       refine sqH 2 (.slice (some ad) 64 c) rfl (Or.inl ⟨by rfl,fun _ _=>rfl⟩) hS ?_
       try simp only[Act.put,sqX]
       refine sqH 3 (.int .i64 (K:Int)) rfl (Or.inl ⟨by rfl,fun _ _=>rfl⟩) hS ?_
       try simp only[Act.put,sqX]
       refine sqH 4 (.pointer (some (ad.add K))) rfl (Or.inl ⟨by rfl,fun _ _=>by go_simp⟩) hS ?_
       try simp only[Act.put,sqX]
       refine sqH 5 (.int .u8 (n0:Int)) rfl (zai rfl 5 (.tmp 49) rfl _ _ rfl fun W h=>zo5 ztp (Q0.out W h)) hS ?_
       try simp only[Act.put,sqX]
       refine sqH 6 (.int .i64 (n0:Int)) rfl (Or.inl ⟨by rfl,fun _ _=>by go_simp⟩) hS ?_
       try simp only[Act.put,sqX]
       refine sqH 7 (.slice (some ad) 64 c) rfl (Or.inl ⟨by rfl,fun _ _=>rfl⟩) hS ?_
       try simp only[Act.put,sqX]
       refine sqH 8 (.int .i64 (K:Int)) rfl (Or.inl ⟨by rfl,fun _ _=>rfl⟩) hS ?_
       try simp only[Act.put,sqX]
       refine sqH 9 (.int .i64 ((K+1:Nat):Int)) rfl (Or.inl ⟨by rfl,fun _ _=>by go_simp⟩) hS ?_
       try simp only[Act.put,sqX]
       refine sqH 10 (.pointer (some ⟨ad.block,ad.off+(K+1),none⟩)) rfl (Or.inl ⟨by rfl,fun _ _=>by go_simp;try omega⟩) hS ?_
       try simp only[Act.put,sqX]
       refine sqH 11 (.int .u8 (n1:Int)) rfl (zai rfl 5 (.tmp 55) rfl _ _ rfl fun W h=>zo5 ztp (Q1.out W h)) hS ?_
       try simp only[Act.put,sqX]
       refine sqH 12 (.int .i64 (n1:Int)) rfl (Or.inl ⟨by rfl,fun _ _=>by go_simp⟩) hS ?_
       try simp only[Act.put,sqX]
       refine sqH 13 (.agg #[.int .i64 (n0:Int),.int .i64 (n1:Int)]) rfl (Or.inl ⟨by rfl,fun _ _=>by go_simp⟩) hS ?_
       try simp only[Act.put,sqX]
       have y0:w2.cell? ⟨w.heap.size+1+1,2,none⟩=some (.slice R ((zaf b).take k).length c2):=(hS3.cell (p:=⟨_,2,none⟩) hx2).trans x2
       have hSA:Below (w.heap.size+1+1) wr (w2.alloc (.cells #[.int .i64 (n0:Int),.int .i64 (n1:Int)] 152)):=hS.alloc (by omega) _
       have hSA3:Below (w.heap.size+3) wr (w2.alloc (.cells #[.int .i64 (n0:Int),.int .i64 (n1:Int)] 152)):=hS3.alloc (by omega) _
       have y1:(w2.alloc (.cells #[.int .i64 (n0:Int),.int .i64 (n1:Int)] 152)).cell? ⟨w.heap.size+1+1,2,none⟩=some (.slice R ((zaf b).take k).length c2):=(hSA3.cell (p:=⟨_,2,none⟩) hx2).trans x2
       refine BothH.go (oi:=⟨_,_,_,_,_,_⟩) (i:=1) (v:=.slice R ((zaf b).take k).length c2) rfl ?_
       refine BothH.step rfl 14 ⟨_,_,_,_,_,_⟩ rfl (by kernel_rfl) hS (zli rfl 111 (.tmp 45) rfl _ _ rfl (zal aggX y0)) (fun u W=>u=.slice (some ⟨w2.heap.size,0,none⟩) 1 1∧W=w2.alloc (.cells #[.int .i64 (n0:Int),.int .i64 (n1:Int)] 152)) (by rintro _ _ ⟨_,rfl⟩;exact hSA) (zi3 rfl rfl (by go_simp)) ?_
       rintro _ _ ⟨rfl,rfl⟩
       try simp only[Act.put,sqX]
       refine BothH.done rfl (by kernel_rfl) hSA (zli rfl 111 (.tmp 45) rfl _ _ rfl (zal aggX y1)) ?_
       try simp only[Act.put,sqX]
       have ownA:=hap0.alloc (.cells #[.int .i64 (n0:Int),.int .i64 (n1:Int)] 152)
       obtain⟨R',cap',w4,hap,own6,b6,s6⟩:=ownA.app (by rw[World.size_alloc];omega) (by rw[List.length_take];omega) [((n0:Int),(n1:Int))] (by simp) ⟨w2.heap.size,0,none⟩ 1 (fun j u hu=>by
        rw[Ex.add_zero,cell_of_row _ _ _ _ _ _ (heap_alloc_new w2 _)]
        simpa [zc5] using hu)
       rw[← HPT.out] at own6 hap
       have hap':(Builtin.append_ #[111,111] 111 #[.slice R ((zaf b).take k).length c2,.slice (some ⟨w2.heap.size,0,none⟩) 1 1]).run Tryz.prog (w2.alloc (.cells #[.int .i64 (n0:Int),.int .i64 (n1:Int)] 152))=.ok (.slice R' ((zaf b).take (k+1)).length cap') w4:=hap
       clear hap
       refine wpAnyH_all (rs:=[15]) (by kernel_rfl) (by simp) fun i hi=>?_
       obtain rfl:i=15:=by simpa using hi
       refine zi3 (om:=⟨_,_,_,_,_,_⟩) (u:=.slice R' ((zaf b).take (k+1)).length cap') (w':=w4) rfl rfl (zn8 (.tmp 46) (.tmp 59) 111 111 rfl _ hap') _ _ rfl rfl ?_
       rintro u W5 ⟨rfl,rfl⟩
       have b46:Below (w.heap.size+3) w2 W5:=((Below.refl _ _).alloc (by omega) _).trans b6
       have bw5:Below (w.heap.size+3) wr W5:=hS3.trans b46
       clear hap' hi
       have f23:=(bw5.block (w.heap.size+1+1) (by omega)).trans E2.out
       have f03:=(bw5.block w.heap.size (by omega)).trans E0.out
       have x5:W5.cell? ⟨w.heap.size+1+1,2,none⟩=some (.slice R ((zaf b).take k).length c2):=by rw[cell_of_row _ _ _ _ _ _ f23];rfl
       have xf:=frozen_of_row W5 (w.heap.size+1+1) 2 _ _ f23
       have hb5:=HB.out.trans (bw5.mono (by omega))
       have hS5:Below (w.heap.size+1+1) wr W5:=bw5.mono (by omega)
       clear hS hS3 hSA hSA3 y0 y1
       have hS:=hS5
       refine⟨hS,?_⟩
       try simp only[Act.put,sqX]
       refine sqH 16 (.pointer (some ⟨w.heap.size+1+1,2,none⟩)) rfl (Or.inl ⟨by rfl,fun _ _=>by go_simp⟩) hS ?_
       try simp only[Act.put,sqX]
       refine wpAnyH_all (rs:=[17]) (by kernel_rfl) (by simp) fun i hi=>?_
       obtain rfl:i=17:=by simpa using hi
       refine zc0 (om:=⟨_,_,_,_,_,_⟩) (w':=(W5.setCell ⟨w.heap.size+1+1,2,none⟩ (.slice R' ((zaf b).take (k+1)).length cap'))) rfl rfl (by go_simp) ?_
       have g7:(W5.setCell ⟨w.heap.size+1+1,2,none⟩ (.slice R' ((zaf b).take (k+1)).length cap')).heap[w.heap.size+1+1]?=some (.cells #[St (zbn b),.int .i64 (zcv b),.slice R' ((zaf b).take (k+1)).length cap'] 113 (0,0)):=by
        rw[heap_setCell_same W5 _ 2 _ _ _ f23]
        simp
       have own7:=zeb own6 (q:=w.heap.size+1+1) (by omega) (Keeps.setCell (·=w.heap.size+1+1) W5 ⟨w.heap.size+1+1,2,none⟩ (.slice R' ((zaf b).take (k+1)).length cap') rfl)
       have hb7:=hb5.setCell (p:=⟨w.heap.size+1+1,2,none⟩) (by show _≤w.heap.size+1+1;omega) (.slice R' ((zaf b).take (k+1)).length cap')
       have f07:=(Below.heap_setCell W5 ⟨w.heap.size+1+1,2,none⟩ (.slice R' ((zaf b).take (k+1)).length cap') w.heap.size (by simp;omega)).trans f03
       have s7:w.heap.size+3≤(W5.setCell ⟨w.heap.size+1+1,2,none⟩ (.slice R' ((zaf b).take (k+1)).length cap')).heap.size:=by rw[World.size_setCell];have:=bw5.size;omega
       have HR:Hid (zpw w b (W5.setCell ⟨w.heap.size+1+1,2,none⟩ (.slice R' ((zaf b).take (k+1)).length cap')) (.int .i64 ((K+2:Nat):Int))):=⟨k+1,R',cap',by rw[HK.out];congr 1,by omega,HALL.out,f07,g7,own7,s7,hb7⟩
       have HMES:Hid ((64-((K+2:Nat):Int)).toNat<(64-(K:Int)).toNat):=zq (by omega)
       have HSW:Hid (Below (w.heap.size+1+1) wr (W5.setCell ⟨w.heap.size+1+1,2,none⟩ (.slice R' ((zaf b).take (k+1)).length cap'))):=zq (hS.setCell (p:=⟨w.heap.size+1+1,2,none⟩) (by show _≤w.heap.size+1+1;omega) _)
       clear g7 own7 hb7 f07 s7 x5 xf f03 f23 hb5 hS hS5 bw5 b46 own6 b6 s6 ownA hap0 hi
       generalize (W5.setCell ⟨w.heap.size+1+1,2,none⟩ (.slice R' ((zaf b).take (k+1)).length cap'))=w9 at *
       refine⟨HSW.out,?_⟩
       try simp only[Act.put,sqX]
       refine wpAnyH_done (by kernel_rfl) ?_ _
       try simp only[Act.put,sqX]
       go_wp2_with fail
       go_roundw
       case rel=>exact HR.out
       case measure=>exact HMES.out
     ·obtain rfl:k=23:=by omega
      have hext:=ybi b hall
      clear HR0
      have hKd:decide ((18:Int)+2*((23:Nat):Int)<64)=false:=by decide
      have hin:InOk wr (zba b) R:=⟨by show XR wr wr.heap.size R (zvi b);rw[hext];exact ow.xr (zhk b _),(ze5 b).1,(ze5 b).2.1,(ze5 b).2.2⟩
      have hlen:(zba b).ext.length=((zaf b).take 23).length:=by show(zvi b).length=_;rw[hext]
      have hnew:∀ ad,R=some ad→(zba b).ext≠[]→w.heap.size+3≤ad.block:=fun ad e hn=>by
       change zvi b≠[] at hn
       rw[hext] at hn
       obtain⟨g,e2',hg,_⟩:=ow.at_ (k:=0) (List.length_pos_iff.2 hn)
       rw[e] at e2'
       cases e2'
       exact hg
      rw[← hlen] at e2
      have he2:wr.heap[w.heap.size+1+1]?=some (.cells #[St (zba b).name,.int .i64 (zba b).size,.slice R (zba b).ext.length c2] 113 (0,0)):=e2
      have hld:∀ W,Below wr.heap.size wr W→(Instr.loadAt 113 (.pointer (some ⟨w.heap.size+1+1,0,none⟩))).run Tryz.prog W=.ok (ag (zba b) R c2) W:=fun W hW=>by
       have h1:=(hW.block (w.heap.size+1+1) (by omega)).trans he2
       exact run_loadAt_mid W (w.heap.size+1+1) 0 113 [St (zba b).name,.int .i64 (zba b).size,.slice R (zba b).ext.length c2] _ (zc8 (zs:=[_,_,_]) h1) Tryz.underlying113 rfl (by rw[zbc];rfl)
      have LD:=zq hld
      have EN:=zq (znh (zba b) R c2 wr hin)
      have HIN:=zq hin
      have HNEW:=zq hnew
      have E0:=zq e0
      have HB:=zq hb
      clear hext hin hlen hnew e2 he2 hld e0 hb ow hall
      go_wp2_with (first
       | ((with_reducible refine at_ (op:=.load 113 (.tmp 5)) ?_);refine zaj rfl _ (zdd 113 (.tmp 5) rfl _ _ rfl (LD.out _ (Below.refl _ _))) ?_)
       | fail)
      refine EN.out.mono ?_
      clear EN
      rintro e w5 ⟨R5,n5,c5,rfl,h5,br5,b5,_⟩
      have f0:=(b5.block w.heap.size (by omega)).trans E0.out
      have hS:=HB.out.trans (b5.mono HB.out.size)
      have hir:=zu3 b
      by_cases hc:zd6 (zba b)=true
      ·have he:ze1 (zba b)=0:=by simp[ze1,hc]
       have heo:zrd (zba b)=zdr (zba b):=by simp[zrd,hc]
       rw[he]
       rw[heo] at h5 br5
       rw[zay] at h5
       subst h5
       have hs:=Go.Proofs.YtdopfpcjpjlkmaaGreatDoor.sameB_any (some ad) b c R5 (zdr (zba b)) c5 w5 ((HX.out.below hS).more hS.size) br5
       rw[HL.out,zay] at hs
       rw[hc,Bool.true_and] at hir
       have HSM:=zq hs
       have HIR:=zq hir
       clear hs hir he heo hc br5
       go_wp2_with fail
       refine HSM.out.mono ?_
       clear HSM
       rintro e w6 ⟨rfl,rfl⟩
       by_cases hq:b=zdr (zba b)
       ·have hqd:decide (b=zdr (zba b))=true:=decide_eq_true hq
        rw[hqd]
        have hyes:zfg b=true:=by rw[← HIR.out.1];exact decide_eq_true hq.symm
        have hrr:=HIR.out.2 hyes
        have hde:zf7 b=0:=by simp[zf7,hyes]
        have hdx:zdx b=zba b:=by rw[hrr];simp[zdx,hyes]
        have sr:=run_storeAt_mid (P:=Tryz.prog) w5 w.heap.size 0 113 #[St (zba b).name,.int .i64 (zba b).size,.slice R (zba b).ext.length c2] (zax (zs:=[_,_,_]) f0 0 3 (by simp)) zbc (by simp[Value.oneCell'])
        obtain⟨h1,k1⟩:=zah (zs:=[_,_,_]) (ys:=[St (zba b).name,.int .i64 (zba b).size,.slice R (zba b).ext.length c2]) f0 rfl
        have hb1:=hS.trans (k1.toBelow w.heap.size hS.size (by intro k hk;omega))
        have lr:=LD.out w5 b5
        have xr7:XR w5 w5.heap.size R (zba b).ext:=(HIN.out.xr.below b5).more b5.size
        generalize w5.setCells w.heap.size 0 [St (zba b).name,.int .i64 (zba b).size,.slice R (zba b).ext.length c2]=w9 at *
        have xr9:XR w9 w9.heap.size R (zba b).ext:=by
         refine⟨fun hn=>?_,xr7.ok⟩
         obtain⟨ad',e,hb',hc'⟩:=xr7.ar hn
         have hnw:=HNEW.out ad' e hn
         refine⟨ad',e,by have:=k1.size;omega,fun k a ha j v hv=>?_⟩
         refine(World.cell?_of_block (w:=w5) (k1.block _ ?_ ?_)).trans (hc' k a ha j v hv)
         ·rw[zan,zan];omega
         ·rw[zan,zan];omega
        have HF1:Hid (zpx w b (.returned (.tuple #[.agg #[St (zba b).name,.int .i64 (zba b).size,.slice R (zba b).ext.length c2],.bool true,.int .i64 0])) w9):=⟨R,c2,by rw[hdx,hde,hyes],by rw[hdx];exact xr9,hb1,fun ad e hn=>by rw[hdx] at hn;have:=HNEW.out ad e hn;omega⟩
        have SR2:=zq sr
        have LR2:=zq lr
        have H1:=zq h1
        clear sr lr h1 k1 hb1 f0 hS hyes xr7 xr9 hdx hde hq hqd hrr HIR
        go_wp2_with (first
         | ((with_reducible refine at_ (op:=.load 113 (.tmp 5)) ?_);refine zaj rfl _ (zdd 113 (.tmp 5) rfl _ _ rfl LR2.out) ?_)
         | ((with_reducible refine at_ (op:=.store 113 (.tmp 2) (.tmp 76)) ?_);refine zat rfl (zbb 113 (.tmp 2) (.tmp 76) rfl _ _ rfl rfl SR2.out) ?_)
         | fail)
        refine bodyPost_ret (v:=.tuple #[.agg #[St (zba b).name,.int .i64 (zba b).size,.slice R (zba b).ext.length c2],.bool true,.int .i64 0]) ?_ rfl HF1.out
        exact zap rfl _ _ w.heap.size 113 _ (0,0) _ _ _ rfl rfl rfl H1.out Tryz.underlying113 rfl (by rw[zbc];rfl)
       ·have hqd:decide (b=zdr (zba b))=false:=decide_eq_false hq
        rw[hqd]
        have hno:zfg b=false:=by rw[← HIR.out.1];exact decide_eq_false (fun h=>hq h.symm)
        have hde:zf7 b=110:=zgn hno HZ.out
        clear HIR hqd hq
        have sr:=run_storeAt_mid (P:=Tryz.prog) w5 w.heap.size 0 113 #[.string ⟨#[]⟩,.int .i64 0,.slice none 0 0] (zax (zs:=[_,_,_]) f0 0 3 (by simp)) zbc (by simp[Value.oneCell'])
        obtain⟨h1,k1⟩:=zah (zs:=[_,_,_]) (ys:=[.string ⟨#[]⟩,.int .i64 0,.slice none 0 0]) f0 rfl
        have hb1:=hS.trans (k1.toBelow w.heap.size hS.size (by intro k hk;omega))
        generalize w5.setCells w.heap.size 0 [.string ⟨#[]⟩,.int .i64 0,.slice none 0 0]=w9 at *
        have HF1:=zq (zed (b:=b) hno hb1 110 hde)
        have SR2:=zq sr
        have H1:=zq h1
        clear sr h1 k1 hb1 hS hno hde
        go_wp2_with (first
         | ((with_reducible refine at_ (op:=.store 113 (.tmp 2) (.tmp 75)) ?_);refine zat rfl (zbb 113 (.tmp 2) (.tmp 75) rfl _ _ rfl rfl SR2.out) ?_)
         | fail)
        refine bodyPost_ret (v:=.tuple #[.agg #[.string ⟨#[]⟩,.int .i64 0,.slice none 0 0],.bool false,.int .i64 110]) ?_ rfl HF1.out
        exact zap rfl _ _ w.heap.size 113 _ (0,0) _ _ _ rfl rfl rfl H1.out Tryz.underlying113 rfl (by rw[zbc];rfl)
      ·have he:ze1 (zba b)=110:=by simp[ze1,hc]
       rw[he]
       have hno:zfg b=false:=by rw[← hir.1];simp[hc]
       have hde:zf7 b=110:=zgn hno HZ.out
       clear hir hc he h5 br5
       have sr:=run_storeAt_mid (P:=Tryz.prog) w5 w.heap.size 0 113 #[.string ⟨#[]⟩,.int .i64 0,.slice none 0 0] (zax (zs:=[_,_,_]) f0 0 3 (by simp)) zbc (by simp[Value.oneCell'])
       obtain⟨h1,k1⟩:=zah (zs:=[_,_,_]) (ys:=[.string ⟨#[]⟩,.int .i64 0,.slice none 0 0]) f0 rfl
       have hb1:=hS.trans (k1.toBelow w.heap.size hS.size (by intro k hk;omega))
       generalize w5.setCells w.heap.size 0 [.string ⟨#[]⟩,.int .i64 0,.slice none 0 0]=w9 at *
       have HF1:=zq (zed (b:=b) hno hb1 110 hde)
       have SR2:=zq sr
       have H1:=zq h1
       clear sr h1 k1 hb1 hS hno hde
       go_wp2_with (first
        | ((with_reducible refine at_ (op:=.store 113 (.tmp 2) (.tmp 75)) ?_);refine zat rfl (zbb 113 (.tmp 2) (.tmp 75) rfl _ _ rfl rfl SR2.out) ?_)
        | fail)
       refine bodyPost_ret (v:=.tuple #[.agg #[.string ⟨#[]⟩,.int .i64 0,.slice none 0 0],.bool false,.int .i64 110]) ?_ rfl HF1.out
       exact zap rfl _ _ w.heap.size 113 _ (0,0) _ _ _ rfl rfl rfl H1.out Tryz.underlying113 rfl (by rw[zbc];rfl)
 ·have hd:=zvn h64
  have sr:=run_storeAt_mid (P:=Tryz.prog) wA w.heap.size 0 113 #[.string ⟨#[]⟩,.int .i64 0,.slice none 0 0] (zax (zs:=[_,_,_]) a0 0 3 (by simp)) zbc (by simp[Value.oneCell'])
  obtain⟨h1,k1⟩:=zah (zs:=[_,_,_]) (ys:=[.string ⟨#[]⟩,.int .i64 0,.slice none 0 0]) a0 rfl
  have hb1:=bA.trans (k1.toBelow w.heap.size bA.size (by intro k hk;omega))
  rw[hwA] at sr h1 hb1
  have n1:((b.length:Int) != 64)=true:=by simp;omega
  generalize (w.alloc (.cells #[.string ⟨#[]⟩,.int .i64 0,.slice none 0 0] 113)).setCells w.heap.size 0 [.string ⟨#[]⟩,.int .i64 0,.slice none 0 0]=w1 at *
  have HF1:=zq (zed hd.1 hb1 110 hd.2)
  have SR:=zq sr
  have H1:=zq h1
  clear hx hd sr h1 k1 hb1 a0 bA sA hwA h64
  go_enter Tryz.func138,Tryz.ntmps138
  go_wp2_with (first
   | ((with_reducible refine at_ (op:=.store 113 (.tmp 2) (.tmp 12)) ?_);refine zat rfl (zbb 113 (.tmp 2) (.tmp 12) rfl _ _ rfl rfl SR.out) ?_)
   | fail)
  refine bodyPost_ret (v:=.tuple #[.agg #[.string ⟨#[]⟩,.int .i64 0,.slice none 0 0],.bool false,.int .i64 110]) ?_ rfl HF1.out
  exact zap rfl _ _ w.heap.size 113 _ (0,0) _ _ _ rfl rfl rfl H1.out Tryz.underlying113 rfl (by rw[zbc];rfl)
end Go.Proofs.YtdopfpcjpjlkmaaGreatDoor.Ino
