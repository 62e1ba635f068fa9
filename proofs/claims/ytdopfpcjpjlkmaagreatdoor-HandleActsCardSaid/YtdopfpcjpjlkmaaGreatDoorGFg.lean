/- merged -/
import Derived.Test.YtdopfpcjpjlkmaaGreatDoorGFf
set_option maxHeartbeats 2000000
set_option maxRecDepth 100000
set_option linter.unusedSimpArgs false
set_option linter.unusedVariables false
namespace Go.Proofs.YtdopfpcjpjlkmaaGreatDoor
namespace Fs
open Go.RowKit Ex Ino Mm
theorem zyw (w:World)(ty:TypeId)(n:Nat)(hn0:0<n)(hn:n≤100000):
  ∃ cap C,(Builtin.append_ #[31,3] ty #[.slice none 0 0,.int .i64 (n:Int)]).run Tryz.prog w=.ok (.slice (some ⟨w.heap.size,0,none⟩) n cap) (w.drew.alloc (.cells C 5))∧n≤cap∧cap≤maxLen∧C.size=cap*1:=by
 obtain⟨i0,hi,hz0,hz1,hz2⟩:=info_parts Tryz.info8
 have hu:Tryz.prog.underlying 31=some (.slice 5):=Tryz.underlying31
 have hui:Tryz.prog.underlying 3=some (.int .i64):=Tryz.underlying3
 have hw:IntKind.i64.wrap (n:Int)=(n:Int):=by rw[IntKind.wrap_i64];omega
 have hneg:¬((n:Int)<0):=by omega
 have hbig:¬(281474976710656<(n:Int)*(i0.bytes:Int)):=by rw[hz2];omega
 have hm1:n≠0:=by omega
 have h48:¬(281474976710656<Builtin.nextslicecap n 0*i0.bytes):=by rw[nextslicecap_zero hn0,hz2];omega
 have h63:¬(9223372036854775807<(n:Int)):=by omega
 have hmx:max (n:Int) 0=(n:Int):=by omega
 have hcl:(Value.int .u8 0).cells=#[.int .u8 0]:=rfl
 have hge:=grownCap_ge w n 0 5
 have hcm:grownCap w n 0 5≤maxLen:=grownCap_le_maxLen w n 0 5 (by unfold maxLen;omega)
 refine⟨grownCap w n 0 5,#[]++Builtin.zeroCells #[.int .u8 0] n++Builtin.zeroCells #[.int .u8 0] (grownCap w n 0 5-n),?_,hge,hcm,?_⟩
 ·simp[Builtin.append_,run_underlying hu,run_underlying hui,sizeOf,typeInfo,zeroValue,hi,hz0,hz1,asInt,asIntOf,hw,hneg,hm1,hbig,h63,h48,hmx,hcl,Question.forced,Builtin.firstCells,Go.newRow,grownCap]
 ·simp[size_zeroCells]
  have:=hge
  omega
theorem zh3 {P:Program} {w w':World} {ops:Array Oper} {rest:List Oper} {o:Oper} {a:Act} {Q:Exit→Act→World→Prop} (hgd:o.guard=none)(s x:Operand)(t t':TypeId)
  (ho:o.op=.call { callee:=.builtin .append,args:=#[s,x],argTypes:=#[t,t'] }) (v:Value)
  (hrun:(Builtin.append_ #[t,t'] o.type #[a.eval s,a.eval x]).run P w=.ok v w') (h:wpList P ops Q rest (a.put o.dst v) w'):wpList P ops Q (o::rest) a w:=
 wpList_plain hgd fun _ hK=>by
  unfold Oper.wp execOp
  simp only[ho,resolve,invoke,builtin,Sem.run_bind,Sem.run_pure,Result.andThen_ok,List.map_toArray,List.map_cons,List.map_nil,hrun]
  exact hK _ _ h
theorem ya2 (n:Nat)(hn0:0<n)(hn:n≤100000)(w:World):Calls Tryz.prog 107 #[.slice none 0 0,.int .i64 (n:Int)] w fun e w'=>∃ g cap,e=.returned (.slice (some ⟨g,0,none⟩) 0 cap)∧Own8 w' w.heap.size 5 (some ⟨g,0,none⟩) cap []∧Below w.heap.size w w':=by
 obtain⟨cap,C,hrun,hc1,hc2,hC⟩:=zyw w 31 n hn0 hn
 have hn1:decide ((n:Int)<0)=false:=by simp
 have hn2:decide (0<(n:Int))=true:=by simp;omega
 have hk:Below w.heap.size w (w.drew.alloc (.cells C 5)):=((Below.refl _ w).drew).alloc (Nat.le_refl _) _
 have ho:Own8 (w.drew.alloc (.cells C 5)) w.heap.size 5 (some ⟨w.heap.size,0,none⟩) cap []:=⟨by simp,.inr ⟨w.heap.size,cap,C,rfl,Nat.le_refl _,heap_alloc_new w.drew _,by simp,hc2,hC,by simp⟩⟩
 have HR:=zq hrun
 have HK:=zq hk
 have HO:=zq ho
 clear hrun hk ho
 go_enter Tryz.func107,Tryz.ntmps107
 go_wp2_with (first | (at_builtin;refine zh3 rfl _ _ 31 3 rfl _ HR.out ?_) | fail)
 go_ret
 exact⟨_,cap,rfl,HO.out,HK.out⟩
structure PT where
 A:Option Addr
 c:Nat
 xs:List UInt8
structure PartsR (w:World) (ob:Nat) (ps:List PT):Prop where
 lt:ob<w.heap.size
 at_:∀ k p,ps[k]?=some p→w.cell? ⟨ob,k,none⟩=some (.slice p.A p.xs.length p.c)∧BR w w.heap.size p.A p.xs∧p.xs≠[]
theorem PartsR.below {w w':World} {ob:Nat} {ps:List PT} (h:PartsR w ob ps)(hb:Below w.heap.size w w'):PartsR w' ob ps:=
 ⟨Nat.lt_of_lt_of_le h.lt hb.size,fun k p hp=>⟨(hb.cell (p:=⟨ob,k,none⟩) h.lt).trans (h.at_ k p hp).1,((h.at_ k p hp).2.1.below hb).more hb.size,(h.at_ k p hp).2.2⟩⟩
def zjg (ps:List PT):List UInt8:=ps.flatMap (·.xs)
theorem zrm {ps:List PT} {k:Nat} {p:PT} (h:ps[k]?=some p):zjg (ps.take (k+1))=zjg (ps.take k)++p.xs:=by
 obtain⟨hk,e⟩:=List.getElem?_eq_some_iff.1 h
 unfold zjg
 rw[List.take_succ_eq_append_getElem hk,List.flatMap_append,e]
 simp
theorem yb3 (ps:List PT)(k:Nat):(zjg (ps.take k)).length≤(zjg ps).length:=by
 conv=>rhs;rw[← List.take_append_drop k ps]
 unfold zjg
 rw[List.flatMap_append,List.length_append]
 omega
theorem yfj {w:World} {ob:Nat} {ps:List PT} (c:Nat)(h:PartsR w ob ps)(hl:ps.length≤100)(h0:0<(zjg ps).length)(h1:(zjg ps).length≤100000):
  Calls Tryz.prog 61 #[.slice (some ⟨ob,0,none⟩) ps.length c] w (zhc w (zjg ps)):=by
 have HP:=zq h
 have HL0:=zq h0
 have HL1:=zq h1
 clear h h0 h1
 go_enter Tryz.func61,Tryz.ntmps61
 go_wp2_with fail
 go_loopw [3,11] (fun s i wr=>∃ k:Nat,k≤ps.length∧i=.int .i64 (k:Int)∧s=.int .i64 ((zjg (ps.take k)).length:Int)∧w=wr) (fun _ i _=>ps.length-(RowKit.intOf i).toNat)
 case atStart=>exact⟨0,by omega,rfl,rfl,rfl⟩
 case round =>
  obtain⟨k,hk,rfl,rfl,rfl⟩:=hrel
  by_cases hlt:k<ps.length
  ·obtain⟨p,hp⟩:∃ p,ps[k]?=some p:=⟨_,List.getElem?_eq_getElem hlt⟩
   have hc:=(HP.out.at_ k p hp).1
   have hst:=zrm hp
   have hlen:(zjg (ps.take (k+1))).length=(zjg (ps.take k)).length+p.xs.length:=by rw[hst,List.length_append]
   have hle:=yb3 ps (k+1)
   have HLEN:=zq hlen
   have hl1:=HL1.out
   have hsum:(zjg (ps.take k)).length+p.xs.length≤100000:=by omega
   have hob:=HP.out.lt
   clear hlen hst hle hl1 hp
   generalize (zjg (ps.take k)).length=s at *
   have e2:decide ((s:Int)+(p.xs.length:Int)<0)=false:=by simp;omega
   go_wp2_with fail
   go_roundw
   case rel=>exact⟨k+1,by omega,by go_num,by rw[HLEN.out];go_num,trivial⟩
   case measure=>simp[RowKit.intOf];omega
  ·obtain rfl:k=ps.length:=by omega
   rw[List.take_length]
   have hg:=ya2 (zjg ps).length HL0.out HL1.out w
   have HG:=zq hg
   clear hg
   go_wp2_with fail
   refine HG.out.mono ?_
   rintro e w2 ⟨g,cap,rfl,o2,k2⟩
   have O2:=zq o2
   have K2:=zq k2
   clear o2 k2 HG
   go_wp2_with fail
   go_loopw [6,27] (fun s i W=>∃ (k g cap:Nat),k≤ps.length∧i=.int .i64 (k:Int)∧s=.slice (some ⟨g,0,none⟩) (zjg (ps.take k)).length cap∧Own8 W w.heap.size 5 (some ⟨g,0,none⟩) cap (zjg (ps.take k))∧Below w.heap.size w W) (fun _ i _=>ps.length-(RowKit.intOf i).toNat)
   case atStart=>exact⟨0,g,cap,by omega,rfl,rfl,O2.out,K2.out⟩
   case round =>
    clear O2 K2
    obtain⟨k,g3,cap3,hk3,rfl,rfl,o3,b3⟩:=hrel
    by_cases hlt3:k<ps.length
    ·obtain⟨p,hp⟩:∃ p,ps[k]?=some p:=⟨_,List.getElem?_eq_getElem hlt3⟩
     have hp3:=HP.out.below b3
     obtain⟨hc,hbr,hne⟩:=hp3.at_ k p hp
     have hst:=zrm hp
     have hle:=yb3 ps (k+1)
     have hl1:=HL1.out
     have hlen:(zjg (ps.take (k+1))).length=(zjg (ps.take k)).length+p.xs.length:=by rw[hst,List.length_append]
     obtain⟨g5,cap5,w5,r5,o5,k5⟩:=Own8.app (P:=Tryz.prog) 31 31 5 Tryz.info8 Tryz.underlying31 o3 b3.size (by omega) p.c hbr (by omega) hne
     rw[← hst] at o5
     have R5:=zq r5
     have O5:=zq o5
     have B5:=zq (b3.trans k5)
     have HLEN:=zq hlen
     have hob:=hp3.lt
     clear hst hle hl1 hlen r5 o5 k5 o3 b3 hbr hne hp
     generalize (zjg (ps.take k)).length=s at *
     go_wp2_with (first | (at_builtin;refine zak rfl _ _ 31 rfl _ R5.out ?_) | fail)
     go_roundw
     case rel=>exact⟨k+1,g5,cap5,by omega,by go_num,by rw[HLEN.out],O5.out,B5.out⟩
     case measure=>simp[RowKit.intOf];omega
    ·obtain rfl:k=ps.length:=by omega
     rw[List.take_length] at o3
     rw[List.take_length]
     have HG:Hid (zhc w (zjg ps) (.returned (.slice (some ⟨g3,0,none⟩) (zjg ps).length cap3)) wr):=⟨_,_,rfl,o3,b3⟩
     clear o3 b3
     go_wp2_with fail
     go_ret
     exact HG.out
theorem znu {w:World} {ob:Nat} {ps:List PT} (c:Nat)(h:PartsR w ob ps)(hl:ps.length≤100)(h0:0<(zjg ps).length)(h1:(zjg ps).length≤100000):
  Calls Tryz.prog 22 #[.slice (some ⟨ob,0,none⟩) ps.length c] w (zhc w (zjg ps)):=by
 have HC:=zq (yfj c h hl h0 h1)
 clear h h0 h1
 generalize ps.length=n at *
 go_enter Tryz.func22,Tryz.ntmps22
 go_wp2_with fail
 refine HC.out.mono ?_
 rintro e w2 ⟨R,cap,rfl,h1,h2⟩
 have H1:=zq h1
 have H2:=zq h2
 clear h1 h2 HC
 go_wp2_with fail
 go_ret
 exact⟨R,cap,rfl,H1.out,H2.out⟩
theorem zzr (n:Nat)(w:World)(hn:n<4294967296):Calls Tryz.prog 62 #[.int .u32 (n:Int)] w (GivesN w (zid n)):=by
 have hmk:∀ w:World,(Instr.makeSlice 31 (.int .i64 4) (.int .i64 4)).run Tryz.prog w=.ok (.slice (some ⟨w.heap.size,0,none⟩) 4 4) (w.alloc (.cells (madeCells #[.int .u8 0] 4) 5)):=zfq 4 (by omega)
 have hb:Below w.heap.size w (w.alloc (.cells (madeCells #[.int .u8 0] 4) 5)):=(Below.refl _ _).alloc (Nat.le_refl _) _
 have hr:=Row8.made w 4 5
 have hw:IntKind.u64.wrap (n:Int)=(n:Int):=by rw[IntKind.wrap_u64];omega
 have hp:=zg3 (some ⟨w.heap.size,0,none⟩) (List.replicate 4 0) 4 0 4 n (w.alloc (.cells (madeCells #[.int .u8 0] 4) 5)) hr.br (by simp) (by omega)
 rw[List.length_replicate,show(zds 4 8).toNat=4 from rfl] at hp
 have HP:=zq hp
 have HB:=zq hb
 have HW:=zq hw
 have hlen:=zgh n
 have HLEN:=zq hlen
 clear hp hb hr hlen hn
 go_enter Tryz.func62,Tryz.ntmps62
 go_wp2_with fail
 refine HP.out.mono ?_
 rintro e w2 ⟨g,cap,rfl,h1,h2,h3,h4,h5⟩
 have hG:GivesN w (zid n) (.returned (.slice (some ⟨g,0,none⟩) (zid n).length cap)) w2:=⟨g,cap,rfl,Nat.le_trans HB.out.size h1,h2,h3,HB.out.trans (h4.mono HB.out.size),h5⟩
 have HG:=zq hG
 clear h1 h2 h3 h4 h5 HP HB hG hmk hw
 go_wp2_with fail
 go_ret
 exact HG.out
theorem num_z (z:Int)(n:Nat)(w:World)(hz:z=(n:Int))(hn:n<4294967296):Calls Tryz.prog 62 #[.int .u32 z] w (GivesN w (zid n)):=by
 subst hz
 exact zzr n w hn
theorem zvb {w w':World} {zs:List UInt8} {e:Ending} (h:zhc w zs e w')(hn:zs≠[]):GivesN w zs e w':=by
 obtain⟨R,c,he,ho,hb⟩:=h
 obtain⟨g,rfl,h1,h2,_⟩:=ho.at_ (k:=0) (List.length_pos_iff.2 hn)
 exact⟨g,c,he,h1,h2,ho.br,hb,ho.cap_le⟩
theorem brK {w w':World} {A:Option Addr} {xs:List UInt8} (h:BR w w.heap.size A xs)(k:Below w.heap.size w w'):BR w' w'.heap.size A xs:=(h.below k).more k.size
theorem bA (w:World)(o:Obj):Below w.heap.size w (w.alloc o):=(Below.refl _ _).alloc (Nat.le_refl _) _
theorem bT {a b c:World} (h:Below a.heap.size a b)(k:Below b.heap.size b c):Below a.heap.size a c:=h.trans (k.mono h.size)
theorem bD (w:World):Below w.heap.size w w.drew:=(Below.refl _ _).drew
def zpe (m u:Nat):List UInt8:=zid m++(zid u++List.replicate 56 0)
theorem zmm (m u:Nat):(zpe m u).length=64:=by unfold zpe;simp[zgh]
theorem yeo (m u:Nat):zpe m u≠[]:=fun e=>by have:=zmm m u;rw[e] at this;cases this
theorem yau {w0 W:World} (m u:Nat){g1 c1 g2 c2 gm:Nat} (h1:BR W W.heap.size (some ⟨g1,0,none⟩) (zid m))(h2:BR W W.heap.size (some ⟨g2,0,none⟩) (zid u))(h3:BR W W.heap.size (some ⟨gm,0,none⟩) (List.replicate 56 0))(hb:Below w0.heap.size w0 W){gb:Nat} (hgb:W.heap.size=gb):
  Calls Tryz.prog 22 #[.slice (some ⟨gb,0,none⟩) 3 3] (W.alloc (.cells #[.slice (some ⟨g1,0,none⟩) (zid m).length c1,.slice (some ⟨g2,0,none⟩) (zid u).length c2,.slice (some ⟨gm,0,none⟩) 56 56] 31)) (GivesN w0 (zpe m u)):=by
 subst hgb
 have l1:=zgh m
 have l2:=zgh u
 have hx:=heap_alloc_new W (.cells #[.slice (some ⟨g1,0,none⟩) (zid m).length c1,.slice (some ⟨g2,0,none⟩) (zid u).length c2,.slice (some ⟨gm,0,none⟩) 56 56] 31)
 have bn:=bA W (.cells #[.slice (some ⟨g1,0,none⟩) (zid m).length c1,.slice (some ⟨g2,0,none⟩) (zid u).length c2,.slice (some ⟨gm,0,none⟩) 56 56] 31)
 have hpt:PartsR (W.alloc (.cells #[.slice (some ⟨g1,0,none⟩) (zid m).length c1,.slice (some ⟨g2,0,none⟩) (zid u).length c2,.slice (some ⟨gm,0,none⟩) 56 56] 31)) W.heap.size [⟨some ⟨g1,0,none⟩,c1,zid m⟩,⟨some ⟨g2,0,none⟩,c2,zid u⟩,⟨some ⟨gm,0,none⟩,56,List.replicate 56 0⟩]:=by
  refine⟨(Array.getElem?_eq_some_iff.1 hx).1,fun k p hp=>?_⟩
  rw[cell_of_row _ _ _ _ _ _ hx]
  match k,hp with
  | 0,hp=>simp at hp;subst hp;exact⟨rfl,brK h1 bn,fun e=>by simp only at e;rw[e] at l1;cases l1⟩
  | 1,hp=>simp at hp;subst hp;exact⟨rfl,brK h2 bn,fun e=>by simp only at e;rw[e] at l2;cases l2⟩
  | 2,hp=>simp at hp;subst hp;exact⟨by simp,brK h3 bn,fun e=>by simp at e⟩
  | k+3,hp=>simp at hp
 have hcl:zjg [⟨some ⟨g1,0,none⟩,c1,zid m⟩,⟨some ⟨g2,0,none⟩,c2,zid u⟩,⟨some ⟨gm,0,none⟩,56,List.replicate 56 0⟩]=zpe m u:=by simp[zjg,zpe]
 have hj:=znu 3 hpt (by simp) (by rw[hcl,zmm];decide) (by rw[hcl,zmm];decide)
 rw[hcl] at hj
 refine hj.mono fun e w' hh=>?_
 obtain⟨g,c,rfl,q1,q2,q3,q4,q5⟩:=zvb hh (yeo m u)
 have bw:=bT hb bn
 exact⟨g,c,rfl,Nat.le_trans bw.size q1,q2,q3,bT bw q4,q5⟩
theorem zpd (u:Nat)(w:World)(hu:u<4294967296):Calls Tryz.prog 23 #[.int .u32 (u:Int)] w (GivesN w (zb7 u)):=by
  have hmk:∀ w:World,(Instr.makeSlice 31 (.int .i64 56) (.int .i64 56)).run Tryz.prog w=.ok (.slice (some ⟨w.heap.size,0,none⟩) 56 56) (w.alloc (.cells (madeCells #[.int .u8 0] 56) 5)):=zfq 56 (by omega)
  obtain⟨MG,hMG⟩:∃ m:Nat,m=1398362950:=⟨_,rfl⟩
  have hn1:∀ W,Calls Tryz.prog 62 #[.int .u32 1398362950] W (GivesN W (zid MG)):=fun W=>num_z 1398362950 MG W (by omega) (by omega)
  have hH:zb7 u=zpe MG u:=by rw[hMG];rfl
  rw[hH]
  clear hMG hH
  have HN1:=zq hn1
  have hn2:=fun W=>zzr u W hu
  have HN2:=zq hn2
  have hj:=fun (W:World) (g1 c1 g2 c2 gm gb:Nat) (h1:BR W W.heap.size (some ⟨g1,0,none⟩) (zid MG)) (h2:BR W W.heap.size (some ⟨g2,0,none⟩) (zid u)) (h3:BR W W.heap.size (some ⟨gm,0,none⟩) (List.replicate 56 0)) (hb:Below w.heap.size w W) (hgb:W.heap.size=gb)=>yau (w0:=w) (W:=W) (c1:=c1) (c2:=c2) MG u h1 h2 h3 hb hgb
  have HJ:=zq hj
  clear hn1 hn2 hu hj
  go_enter Tryz.func23,Tryz.ntmps23
  go_wp2_with fail
  go_region_with (first
    | (refine(HN1.out _).mono ?_;rintro e w1 ⟨g1,c1,rfl,a1,a2,a3,b1,a5⟩;clear a1 a2 a5)
    | (refine(HN2.out _).mono ?_;rintro e w2 ⟨g2,c2,rfl,d1,d2,d3,b2,d5⟩;clear d1 d2 d5)
    | (first
        | refine(HJ.out (w2.alloc _) _ _ _ _ w2.heap.size (w2.heap.size+1) (brK (brK a3 b2) (bA w2 _)) (brK d3 (bA w2 _)) (Row8.made w2 56 _).br (bT (bT (bT (bD w) b1) b2) (bA w2 _)) (World.size_alloc _ _)).mono ?_
        | refine(HJ.out w2 _ _ _ _ w1.heap.size w2.heap.size (brK (brK a3 (bA w1 _)) b2) d3 (brK (Row8.made w1 56 _).br b2) (bT (bT (bT (bD w) b1) (bA w1 _)) b2) rfl).mono ?_
        | refine(HJ.out w2 _ _ _ _ w.heap.size w2.heap.size (brK a3 b2) d3 (brK (brK (Row8.made w.drew 56 _).br b1) b2) (bT (bT (bT (bD w) (bA w.drew _)) b1) b2) rfl).mono ?_
       rintro e w4 ⟨g,c,rfl,hh⟩))
  all_goals
    have HG:Hid (GivesN w (zpe MG u) (.returned (.slice (some ⟨g,0,none⟩) (zpe MG u).length c)) w4):=⟨g,c,rfl,hh⟩
    clear hh a3 b1 d3 b2
    go_wp2_with fail
    go_ret
    exact HG.out
end Fs
namespace Fs
open Go.RowKit Ex Ino Mm
def bsK (bs:List UInt8) (ns:List IN) (k:Nat):List UInt8:=zb7 (zao ns)++((ns.take k).flatMap zcf++bs.drop ((1+k)*64))
theorem bsK_0 {bs:List UInt8} (hb:bs.length=2048)(ns:List IN):zau bs 0 (zb7 (zao ns))=bsK bs ns 0:=by
 unfold zau splice bsK
 simp[zbj]
theorem bsK_8 (bs:List UInt8){ns:List IN} (hn:ns.length=8):bsK bs ns 8=zad ⟨bs,ns⟩:=by
 unfold bsK zad
 simp only
 rw[List.take_of_length_le (by omega)]
theorem zor {bs x y:List UInt8} (hb:bs.length=2048){n:Nat} (hn:n<32)(hx:x.length=64)(hy:y.length≤64):splice (zau bs n x) (n*64) y=zau bs n (y++x.drop y.length):=by
 have hl:(zau bs n x).length=2048:=by
  unfold zau splice
  simp only[List.length_append,List.length_take,List.length_drop,hx,hb]
  omega
 have hz:(y++x.drop y.length).length=64:=by rw[List.length_append,List.length_drop];omega
 have hl2:(zau bs n (y++x.drop y.length)).length=2048:=by
  unfold zau splice
  simp only[List.length_append,List.length_take,List.length_drop,hb]
  simp only[List.length_append,List.length_drop] at hz
  omega
 have hl3:(splice (zau bs n x) (n*64) y).length=2048:=by
  rw[length_splice _ _ _ (by omega),hl]
 refine za7 (by rw[hl3,hl2]) fun i hi=>?_
 rw[hl3] at hi
 rw[getD_splice _ _ _ _ (by omega)]
 unfold zau
 rw[getD_splice _ _ _ _ (by omega),getD_splice _ _ _ _ (by omega),hx,hz]
 by_cases h1:i<n*64
 ·rw[zp h1,zp h1,zp h1]
 ·rw[zn h1,zn h1,zn h1]
  by_cases h2:i<n*64+y.length
  ·rw[zp h2,zp (by omega)]
   simp only[List.getD_eq_getElem?_getD]
   rw[List.getElem?_append_left (by omega)]
  ·rw[zn h2]
   by_cases h3:i<n*64+64
   ·rw[zp h3,zp h3]
    simp only[List.getD_eq_getElem?_getD]
    rw[List.getElem?_append_right (by omega),List.getElem?_drop]
    congr 2
    omega
   ·rw[zn h3,zn h3]
theorem yfn {bs:List UInt8} (hb:bs.length=2048){ns:List IN} (hn:ns.length=8){k:Nat} (hk:k<8):zau (bsK bs ns k) (1+k) (zcf (at' ns k))=bsK bs ns (k+1):=by
 have e1:(zb7 (zao ns)++(ns.take k).flatMap zcf).length=(1+k)*64:=by rw[List.length_append,zbj,flat_len,List.length_take];omega
 have e2:ns.take (k+1)=ns.take k++[at' ns k]:=by
  rw[List.take_succ_eq_append_getElem (by omega)]
  unfold at'
  rw[List.getD_eq_getElem?_getD,List.getElem?_eq_getElem (by omega)]
  rfl
 have hN:=zcn (at' ns k)
 unfold zau splice bsK
 rw[e2,List.flatMap_append,← List.append_assoc (zb7 (zao ns)),List.take_append_of_le_length (by omega),List.take_of_length_le (by omega),List.drop_append,hN,List.drop_of_length_le (by omega),List.nil_append,e1,List.drop_drop]
 simp only[List.flatMap_cons,List.flatMap_nil,List.append_nil,List.append_assoc]
 congr 4
 omega
theorem pad_eq (x:IN):zrd x++zr64.drop (zrd x).length=zcf x:=by
 have:=zla x
 unfold zcf padB zr64
 rw[List.drop_replicate]
theorem yin (w:World):(Instr.build 145 #[]).run Tryz.prog w=.ok (ag8 zr64) w:=by kernel_rfl
theorem yit (w:World):(Instr.alloc 145 true (.tuple #[])).run Tryz.prog w=.ok (.pointer (some ⟨w.heap.size,0,none⟩)) (w.alloc (.cells (zr64.map B8).toArray 145)):=by kernel_rfl
theorem zwb (a:List Value)(b:List Value)(o:Nat)(c:List Value)(h:o+c.length≤a.length):(a++b).take o++c++(a++b).drop (o+c.length)=splice a o c++b:=by
 unfold splice
 rw[List.take_append_of_le_length (by omega),List.drop_append_of_le_length (by omega)]
 simp
theorem RegAt.copyIn {w:World} {r:Nat} {bs:List UInt8} {l:List ND} (h:RegAt w r bs l){n:Nat} (hn:n<32){A:Option Addr} {xs:List UInt8} (c:Nat)(hx:BR w w.heap.size A xs)(hl:xs.length≤64):
  ∃ w',(Builtin.copy_ #[31,31] 3 #[.slice (some ⟨r,n*64,none⟩) 64 64,.slice A xs.length c]).run Tryz.prog w=.ok (.int .i64 ((xs.length:Nat):Int)) w'∧RegAt w' r (splice bs (n*64) xs) l∧Keeps (·=r) w w':=by
 by_cases h0:xs=[]
 ·subst h0
  refine⟨w,run_copy_none w _ _ _ _ _ _ _ _ _ _ Tryz.underlying31 zis (by simp),?_,Keeps.refl _ _⟩
  have e:splice bs (n*64) []=bs:=by unfold splice;simp
  rw[e]
  exact h
 ·obtain⟨ad,rfl,_,hc⟩:=hx h0
  have hrun:=run_copy_row (P:=Tryz.prog) w 31 31 3 5 r (n*64) 64 64 ad xs.length c (gcl bs l).toArray 149 (xs.map B8) Tryz.underlying31 zis h.hd (by rw[List.length_map];exact(Nat.min_eq_left hl).symm) (fun j v hj=>by
   simp only[List.getElem?_map,Option.map_eq_some_iff] at hj
   obtain⟨u,hu,rfl⟩:=hj
   exact hc j u hu) (by rw[List.length_map];simp[h.len];omega) (by
   intro v hv
   simp only[List.mem_map] at hv
   obtain⟨u,_,rfl⟩:=hv
   rfl)
  rw[List.length_map] at hrun
  have hk:Keeps (·=r) w (w.setRow r ((gcl bs l).toArray.toList.take (n*64)++xs.map B8++(gcl bs l).toArray.toList.drop (n*64+xs.length)).toArray):=⟨rfl,rfl,rfl,by simp,fun k _ hk=>setRow_other w r k _ hk⟩
  refine⟨_,hrun,⟨by rw[length_splice _ _ _ (by have:=h.bl;omega),h.bl],h.nl,?_,h.nds hk⟩,hk⟩
  rw[setRow_heap w r _ _ _ _ h.hd]
  have:=zwb (bs.map B8) (ncs l) (n*64) (xs.map B8) (by rw[List.length_map,List.length_map,h.bl];omega)
  rw[List.length_map,znq] at this
  unfold gcl
  rw[← this]
theorem idxBl (w:World){xs:List UInt8} (hl:xs.length=2048){k:Nat} (hk:k<32):(Instr.index 146 (ag8 xs) (.int .i64 (k:Int))).run Tryz.prog w=.ok (ag8 (zaw xs k)) w:=by
 have hs:(sizeOf 145).run Tryz.prog w=.ok 64 w:=by
  have:=zyo
  unfold sizeOf typeInfo
  cases hq:Tryz.prog.info? 145 with
  | none=>rw[hq] at this;cases this
  | some i =>
   rw[hq] at this
   simp only[Option.map_some,Option.some.injEq] at this
   simp[hq,this]
 have hagg:(isAgg 145).run Tryz.prog w=.ok true w:=by
  unfold isAgg
  rw[Sem.run_bind,run_underlying Tryz.underlying145 w]
  rfl
 have hp:(part 145 (xs.map B8).toArray (k*64)).run Tryz.prog w=.ok (ag8 (zaw xs k)) w:=by
  simp[part,hagg,hs,ag8,zaw,List.map_take,List.map_drop]
 unfold Instr.index
 simp only[asIntOf,Sem.run_bind,Sem.run_pure,Result.andThen_ok,run_underlying Tryz.underlying146,ag8]
 rw[zp ⟨by omega,by omega⟩]
 simp only[Sem.run_bind,hs,Result.andThen_ok]
 rw[Int.toNat_natCast]
 exact hp
theorem zjw (xs:List UInt8)(k:Nat):xs.take (64*(k+1))=xs.take (64*k)++zaw xs k:=by
 unfold zaw
 rw[show 64*(k+1)=64*k+64 by omega,List.take_add,show k*64=64*k by omega]
end Fs
namespace Fs
open Go.RowKit Ex Ino Mm
theorem yb8 {w:World} {B g:Nat} {xs:List UInt8} (h:BR w B (some ⟨g,0,none⟩) xs)(hl:xs.length=64):(Instr.loadAt 145 (.pointer (some ⟨g,0,none⟩))).run Tryz.prog w=.ok (ag8 xs) w:=by
 refine yf7 hl fun j v hv=>?_
 simp only[List.getElem?_map,Option.map_eq_some_iff] at hv
 obtain⟨u,hu,rfl⟩:=hv
 obtain⟨ad,e,_,hc⟩:=h (by intro e;subst e;simp at hl)
 cases e
 have:=hc _ u hu
 rw[show(⟨g,0,none⟩:Addr).add j=⟨g,j,none⟩ by unfold Addr.add;split<;>simp_all] at this
 rw[Nat.zero_add]
 exact this
theorem zg8 {w w':World} {P:Program} {o:Oper} {ρ:Operand→Value} (t:TypeId)(ho:o.op=.build t #[])(v:Value)(hrun:(Instr.build t #[]).run P w=.ok v w'):(execOp ρ o).run P w=.ok (.value v) w':=by
 unfold execOp
 simp only[ho,List.map_toArray,List.map_nil,Sem.run_bind,hrun,Result.andThen_ok,Sem.run_pure]
def zv3 (w:World) (r:Nat) (zs:List UInt8) (e:Ending) (w':World):Prop:=∃ g c,e=.returned (.slice (some ⟨g,0,none⟩) zs.length c)∧Own8 w' w.heap.size 5 (some ⟨g,0,none⟩) c zs∧Keeps (·=r) w w'
theorem yb4 {w:World} {r:Nat} {bs:List UInt8} {l:List ND} (h:RegAt w r bs l):
  Calls Tryz.prog 123 #[.pointer (some ⟨r,0,none⟩)] w (zv3 w r (zad ⟨bs,zas l⟩)):=by
 have hus:=zty (h.below ((Below.refl _ w).drew))
 have hhd:=fun W=>zpd (zao (zas l)) W (zdi _)
 have HREG:=zq h
 have HUS:=zq hus
 have HHD:=zq hhd
 have hnl:(zas l).length=8:=by unfold zas;rw[List.length_map,h.nl]
 have hb8:=bsK_8 bs hnl
 have HB8:=zq hb8
 have HST:Hid (∀ k,k<8→zau (bsK bs (zas l) k) (1+k) (zcf (at' (zas l) k))=bsK bs (zas l) (k+1)):=fun k hk=>yfn h.bl hnl hk
 have HS0:=zq (bsK_0 h.bl (zas l))
 have HNL:=zq hnl
 have hhl:=zbj (zao (zas l))
 have HHL:=zq hhl
 have hrl:=h.lt
 clear hus hhd h hb8 hnl hhl
 generalize zao (zas l)=U at *
 generalize zb7 U=HL at *
 go_enter Tryz.func123,Tryz.ntmps123
 go_wp2_with fail
 refine wp_region_any (by kernel_rfl) ?_
 change wpAny _ _ _ _ _ _ _ w.drew
 refine wpAny_take (oi:=⟨_,_,_,_,_,_⟩) (i:=0) (v:=.pointer (some ⟨r,0,none⟩)) rfl (by kernel_rfl) (by kernel_rfl) (by kernel_rfl) (fun _ _ _ h=>h) (Or.inl ⟨by rfl,fun _=>rfl⟩) ?_
 simp only[Act.put,sqX]
 refine wpAny_take (oi:=⟨_,_,_,_,_,_⟩) (i:=1) (v:=.pointer (some ⟨r,0,none⟩)) rfl (by kernel_rfl) (by kernel_rfl) (by kernel_rfl) (fun _ _ _ h=>h) (Or.inl ⟨by rfl,fun _=>rfl⟩) ?_
 simp only[Act.put,sqX]
 refine wpAny_take (oi:=⟨_,_,_,_,_,_⟩) (i:=6) (v:=.pointer (some ⟨r,0,none⟩)) rfl (by kernel_rfl) (by kernel_rfl) (by kernel_rfl) (fun _ _ _ h=>h) (Or.inl ⟨by rfl,fun _=>by go_simp⟩) ?_
 simp only[Act.put,sqX]
 refine wpAny_take (oi:=⟨_,_,_,_,_,_⟩) (i:=7) (v:=.pointer (some ⟨r,0,none⟩)) rfl (by kernel_rfl) (by kernel_rfl) (by kernel_rfl) (fun _ _ _ h=>h) (Or.inl ⟨by rfl,fun _=>by go_simp⟩) ?_
 simp only[Act.put,sqX]
 refine zfu [] [2,3,4,5,8,9] [] [_,_,_,_,_,_] rfl rfl rfl (by kernel_rfl) ?_
 refine wpStill_nil ?_
 have b0:Below w.heap.size w w.drew:=(Below.refl _ w).drew
 have B0:=zq b0
 clear b0
 generalize w.drew=w0 at *
 go_wp2_with fail
 refine HUS.out.mono ?_
 rintro e w1 ⟨rfl,b1⟩
 have B1:=zq (B0.out.trans (b1.mono B0.out.size))
 clear b1 HUS B0
 go_wp2_with fail
 refine(HHD.out w1).mono ?_
 rintro e w2 ⟨g,c,rfl,g1,g2,g3,b2,g5⟩
 have B2:=zq (B1.out.trans (b2.mono B1.out.size))
 have AR:=zq (yis w2 (some ⟨g,0,none⟩) HL.length c (by rw[HHL.out];exact Nat.le_refl _))
 have LD:=zq (yb8 g3 HHL.out)
 have hr2:=HREG.out.below B2.out
 obtain⟨p1,p2⟩:=hr2.putBlock (n:=0) (by omega) HL HHL.out
 rw[HS0.out] at p1
 rw[Nat.zero_mul] at p1 p2
 have ST:=zq (zlq (xs:=HL) HHL.out (hr2.there 0 64 (by omega)))
 have HR3:=zq p1
 have HK3:=zq ((zav r B2.out).trans p2)
 have LN:=zq (zz9 p1.nl p1.nodesR)
 clear g1 g2 g3 b2 g5 hr2 p1 p2 HHD B1 HS0 B2
 go_wp2_with (first
  | ((refine at_ (op:=.sliceToArrayPointer 145 (.tmp 13)) ?_);refine zaj rfl _ (ybm 145 (.tmp 13) rfl _ _ rfl AR.out) ?_)
  | ((refine zd5 (op:=.load 145 (.tmp 14)) ?_);refine za9 rfl 145 _ rfl _ _ rfl LD.out ?_)
  | ((refine zd5 (op:=.store 145 (.tmp 18) (.tmp 15)) ?_);refine zaz rfl 145 _ _ rfl _ _ rfl rfl ST.out ?_)
  | ((refine zd5 (op:=.load 147 (.tmp 21)) ?_);refine za9 rfl 147 _ rfl _ _ rfl LN.out ?_)
  | fail)
 clear AR LD ST LN
 generalize w2.setCells r 0 (HL.map B8)=w3 at *
 go_loopw [23] (fun i wr=>∃ k:Nat,i=.int .i64 (k:Int)∧k≤8∧RegAt wr r (bsK bs (zas l) k) l∧Keeps (·=r) w wr) (fun i _=>8-(RowKit.intOf i).toNat)
 case atStart=>exact⟨0,rfl,by omega,HR3.out,HK3.out⟩
 case round =>
  clear HR3 HK3
  obtain⟨k,rfl,hk,hreg,hkp⟩:=hrel
  by_cases hlt:k<8
  ·obtain⟨d,hd,e,hok⟩:=hreg.get hlt
   have IX:=fun w=>zq (yht w hreg.nl hd)
   have ba:=bA wr (.cells #[St d.x.name,.int .i64 d.x.size,.slice d.A d.x.ext.length d.c] 113)
   have hra:=hreg.below ba
   have hxa:BoxN (wr.alloc (.cells #[St d.x.name,.int .i64 d.x.size,.slice d.A d.x.ext.length d.c] 113)) wr.heap.size d:=heap_alloc_new wr _
   obtain⟨p1,p2⟩:=hra.putBlock (n:=1+k) (by omega) zr64 zb8
   have ST:=zq (zlq (xs:=zr64) zb8 (hra.there ((1+k)*64) 64 (by omega)))
   have hne:wr.heap.size≠r:=by have:=hreg.lt;omega
   have hx5:BoxN ((wr.alloc (.cells #[St d.x.name,.int .i64 d.x.size,.slice d.A d.x.ext.length d.c] 113)).setCells r ((1+k)*64) (zr64.map B8)) wr.heap.size d:=(p2.block _ hxa.lt hne).trans hxa
   have LD:=zq hx5.load
   have HR5:=zq p1
   have HK5:=zq ((hkp.trans (zav r ba)).trans p2)
   have hin:=(hok.keeps (Keeps.trans (zav r ba) p2) hok.no).ok
   have HEN:=zq (ybo d.x d.A d.c _ hin)
   have HSTK:=HST.out k hlt
   rw[e,← pad_eq,← zor hreg.bl (by omega) zb8 (zla _)] at HSTK
   have HSK:=zq HSTK
   have hel:=zla d.x
   have HEL:=zq hel
   have BLD:=fun w=>zq (yin w)
   clear hd e hok hreg hkp ba hra hxa p1 p2 hne hx5 hin HSTK hel
   generalize zr64=Z at *
   have hq1:(0:Int)≤1+(k:Int):=by omega
   have hq2:1+(k:Int)<32:=by omega
   have hq3:(1+(k:Int)).toNat=1+k:=by omega
   go_wp2_with (first
    | ((with_reducible refine at_ (op:=.index 147 (.tmp 22) (.tmp 23)) ?_);refine zaj rfl _ (zhq 147 (.tmp 22) (.tmp 23) rfl _ _ _ rfl rfl (IX _).out) ?_)
    | ((with_reducible refine zd5 (op:=.build 145 #[]) ?_);refine zaj rfl _ (zg8 145 rfl _ (BLD _).out) ?_)
    | ((with_reducible refine zd5 (op:=.store 145 (.tmp 33) (.tmp 30)) ?_);refine zaz rfl 145 _ _ rfl _ _ rfl rfl ST.out ?_)
    | ((with_reducible refine zd5 (op:=.load 113 (.tmp 4)) ?_);refine za9 rfl 113 _ rfl _ _ rfl LD.out ?_)
    | fail)
   clear ST LD IX BLD
   generalize (wr.alloc (.cells #[St d.x.name,.int .i64 d.x.size,.slice d.A d.x.ext.length d.c] 113)).setCells r ((1+k)*64) (Z.map B8)=w5 at *
   refine HEN.out.mono ?_
   rintro e w6 ⟨R,n,cc,rfl,hn,hbr,b6,hc⟩
   obtain⟨w7,q1,q2,q3⟩:=(HR5.out.below b6).copyIn (n:=1+k) (by omega) cc hbr HEL.out
   rw[HSK.out] at q2
   rw[hn] at q1
   have CP:=zq q1
   have HR7:=zq q2
   have HK7:=zq ((HK5.out.trans (zav r b6)).trans q3)
   clear hn hbr b6 hc q1 q2 q3 HR5 HK5 HEN HSK HEL
   go_wp2_with (first
    | ((with_reducible refine zd5 (d:=some 47) ?_);refine zcg rfl (.tmp 45) (.tmp 46) 31 31 rfl _ CP.out ?_)
    | fail)
   go_roundw
   case rel=>exact⟨k+1,by go_num,by omega,HR7.out,HK7.out⟩
   case measure=>simp[RowKit.intOf];omega
  ·obtain rfl:k=8:=by omega
   rw[HB8.out] at hreg
   generalize zad ⟨bs,zas l⟩=BL at *
   have LB:=zq (yf6 hreg.bl (by
    intro j v hv
    rw[Nat.zero_add,cell_of_row wr r j _ _ _ hreg.hd]
    unfold gcl
    simp only[List.getElem?_toArray]
    rw[List.getElem?_append_left (List.getElem?_eq_some_iff.1 hv).1]
    exact hv:wr.rangeAt r 0 (BL.map B8)))
   have hE:=znn wr 5
   have hkE:=hkp.trans (zav r (bA wr (.cells #[] 5)))
   have HE:=zq (hE.low (B':=w.heap.size) hkp.size)
   have HKE:=zq hkE
   have LB2:=zq (yf6 hreg.bl (by
    intro j v hv
    rw[Nat.zero_add,cell_of_row (wr.alloc (.cells #[] 5)) r j _ _ _ (hreg.below (bA wr _)).hd]
    unfold gcl
    simp only[List.getElem?_toArray]
    rw[List.getElem?_append_left (List.getElem?_eq_some_iff.1 hv).1]
    exact hv:(wr.alloc (.cells #[] 5)).rangeAt r 0 (BL.map B8)))
   have HBLn:=zq hreg.bl
   clear hreg hkp hE hkE LB
   go_wp2_with (first
    | ((with_reducible refine zd5 (op:=.load 146 (.tmp 52)) ?_);refine za9 rfl 146 _ rfl _ _ rfl LB2.out ?_)
    | fail)
   clear LB2
   generalize wr.alloc (.cells #[] 5)=we at *
   generalize wr.heap.size=ge at *
   go_loopw [54,7] (fun i s W=>∃ (k g cap:Nat),i=.int .i64 (k:Int)∧k≤32∧s=.slice (some ⟨g,0,none⟩) (BL.take (64*k)).length cap∧Own8 W w.heap.size 5 (some ⟨g,0,none⟩) cap (BL.take (64*k))∧Keeps (·=r) w W) (fun i _ _=>32-(RowKit.intOf i).toNat)
   case atStart=>exact⟨0,ge,0,rfl,by omega,by simp,by simpa using HE.out,HKE.out⟩
   case round =>
    clear HE HKE
    obtain⟨k,g3,cap3,rfl,hk3,rfl,ho3,hk4⟩:=hrel
    by_cases hlt3:k<32
    ·have IX:=fun w=>zq (idxBl w HBLn.out hlt3)
     have hpl:=zbl HBLn.out hlt3
     have ha0:(wr.alloc (.cells (zr64.map B8).toArray 145)).heap[wr.heap.size]?=some (.cells (zr64.map B8).toArray 145 (0,0)):=heap_alloc_new wr _
     obtain⟨s1,s2⟩:=zej (ys:=zaw BL k) 0 ha0 (by rw[hpl,zb8];omega)
     have e0:splice zr64 0 (zaw BL k)=zaw BL k:=zfv _ _ (by rw[hpl,zb8])
     rw[e0] at s1
     have AL:=zq (yit wr)
     have ST:=zq (zlq (xs:=zaw BL k) hpl (zgb ha0 0 64 (by rw[zb8];omega)))
     have hrow:=Row8.of_block s1
     have k1:Keeps (fun _=>False) wr ((wr.alloc (.cells (zr64.map B8).toArray 145)).setCells wr.heap.size 0 ((zaw BL k).map B8)):=Keeps.thru (Keeps.alloc (fun _=>False) wr _) s2 (fun _ _ h=>h) fun _ h1 h2=>by omega
     have b1:Below wr.heap.size wr ((wr.alloc (.cells (zr64.map B8).toArray 145)).setCells wr.heap.size 0 ((zaw BL k).map B8)):=k1.toBelow _ (Nat.le_refl _) fun _ h=>h.elim
     have ho5:=Own8.below' ho3 b1
     obtain⟨g6,cap6,w6,r6,o6,k6⟩:=Own8.app (P:=Tryz.prog) 31 31 5 Tryz.info8 Tryz.underlying31 ho5 (Nat.le_trans hk4.size b1.size) (by rw[List.length_take,HBLn.out];omega) 64 hrow.br (by omega) (by intro e;rw[e] at hpl;cases hpl)
     rw[← zjw] at o6
     rw[hpl] at r6
     have hlen:(BL.take (64*(k+1))).length=(BL.take (64*k)).length+64:=by rw[zjw,List.length_append,hpl]
     rw[List.length_take] at r6
     rw[List.length_take (i:=64*k)] at hlen
     have R6:=zq r6
     have O6:=zq o6
     have kk:=hk4.trans (zav r b1)
     have K6:Hid (Keeps (·=r) w w6):=⟨k6.os.trans kk.os,k6.tape.trans kk.tape,k6.output.trans kk.output,Nat.le_trans kk.size k6.size,fun i h1 h2=>(k6.block i h1).trans (kk.block i h1 h2)⟩
     have HLEN:=zq hlen
     clear hpl ha0 s1 s2 e0 hrow k1 b1 ho5 r6 o6 k6 hlen ho3 hk4 kk
     generalize (wr.alloc (.cells (zr64.map B8).toArray 145)).setCells wr.heap.size 0 ((zaw BL k).map B8)=w5 at *
     generalize wr.alloc (.cells (zr64.map B8).toArray 145)=w4 at *
     generalize wr.heap.size=gb at *
     generalize ag8 (zaw BL k)=PV at *
     go_wp2_with (first
      | ((with_reducible refine at_ (op:=.index 146 (.tmp 53) (.tmp 54)) ?_);refine zaj rfl _ (zhq 146 (.tmp 53) (.tmp 54) rfl _ _ _ rfl rfl (IX _).out) ?_)
      | ((with_reducible refine zd5 (op:=.alloc 145) (d:=some 9) ?_);refine zbr rfl 145 rfl _ AL.out ?_)
      | ((with_reducible refine zd5 (op:=.store 145 (.tmp 9) (.tmp 56)) ?_);refine zaz rfl 145 _ _ rfl _ _ rfl rfl ST.out ?_)
      | (at_builtin;refine zak rfl _ _ 31 rfl _ R6.out ?_)
      | fail)
     go_roundw
     case rel=>exact⟨k+1,g6,cap6,by go_num,by omega,by rw[HLEN.out],O6.out,K6.out⟩
     case measure=>simp[RowKit.intOf];omega
    ·obtain rfl:k=32:=by omega
     rw[List.take_of_length_le (by rw[HBLn.out];omega)] at ho3 ⊢
     have HG:Hid (zv3 w r BL (.returned (.slice (some ⟨g3,0,none⟩) BL.length cap3)) wr):=⟨g3,cap3,rfl,ho3,hk4⟩
     clear ho3 hk4
     go_wp2_with fail
     go_ret
     exact HG.out
end Fs
namespace Fs
open Go.RowKit Ex Ino Mm
theorem Tryz.infoStr:(Tryz.prog.info? 9).map (fun i=>(i.zero,i.size,i.bytes))=some (some (.string ⟨#[]⟩),1,16):=by kernel_rfl
def OwnT (w:World) (B g cap:Nat) (l:List (List UInt8)):Prop:=w.ownsRow B 9 1 (.slice (some ⟨g,0,none⟩) l.length cap) l.length (l.map St)
theorem OwnT.block {w:World} {B g cap:Nat} {l:List (List UInt8)} (h:OwnT w B g cap l):B≤g∧g<w.heap.size∧∃ cs t,w.heap[g]?=some (.cells cs t (0,0)):=by
 have h1:=World.ownsRow.lt h g rfl
 refine⟨h1.1,h1.2,?_⟩
 rcases h.2 with⟨hn,_⟩|⟨g',cap',cur,e',_,hg,_⟩
 ·cases hn
 ·injection e' with e1;injection e1 with e1;injection e1 with e1;subst e1;exact⟨_,_,hg⟩
theorem OwnT.kept {w w':World} {B g cap:Nat} {l:List (List UInt8)} (h:OwnT w B g cap l){row:Option Nat} (hg:w.grownBy w' row)(hr:∀ r,row=some r→∃ o:Obj,w.heap[r]?=some o∧o.isCells=false):OwnT w' B g cap l:=
 World.ownsRow.kept (row:=row) h hg (.inr fun e2=>by
  obtain⟨_,_,cs,t,hc⟩:=h.block
  obtain⟨o,ho,hoc⟩:=hr g e2.symm
  rw[hc] at ho
  cases ho
  cases hoc)
theorem OwnT.same {w w':World} {B g cap:Nat} {l:List (List UInt8)} (h:OwnT w B g cap l)(hk:w'.heap[g]?=w.heap[g]?):OwnT w' B g cap l:=by
 refine⟨h.1,?_⟩
 rcases h.2 with h0 | ⟨g',cap',cur,hv,hB,hgg,rest⟩
 ·exact .inl h0
 ·refine .inr ⟨g',cap',cur,hv,hB,?_,rest⟩
  injection hv with e1;injection e1 with e1;injection e1 with e1;subst e1
  exact hk.trans hgg
theorem OwnT.at_ {w:World} {B g cap:Nat} {l:List (List UInt8)} (h:OwnT w B g cap l){k:Nat} (hk:k<l.length):w.cell? ⟨g,k,none⟩=some (St (l.getD k [])):=by
 rw[World.ownsRow.cellAt h k (by omega)]
 simp[List.getElem?_eq_getElem hk]
theorem OwnT.text {w:World} {B g cap:Nat} {l:List (List UInt8)} (h:OwnT w B g cap l):TextR w g l:=⟨h.block.2.1,fun k hk=>h.at_ hk⟩
theorem OwnT.app {w:World} {B g cap:Nat} {l:List (List UInt8)} (h:OwnT w B g cap l)(hB:B≤w.heap.size)(hl:l.length≤1000)(s:List UInt8)(ad:Addr)(c:Nat)(ty:TypeId)(hc:w.cell? (ad.add 0)=some (St s)):
  ∃ g' cap' w',(Builtin.append_ #[175,175] ty #[.slice (some ⟨g,0,none⟩) l.length cap,.slice (some ad) 1 c]).run Tryz.prog w=.ok (.slice (some ⟨g',0,none⟩) (l.length+1) cap') w'∧OwnT w' B g' cap' (l++[s])∧w.grownBy w' (some g)∧(g'=g∨g'=w.heap.size):=by
 obtain⟨i0,hi,hz0,hz1,hz2⟩:=info_parts Tryz.infoStr
 obtain⟨v',w',hrun,hown,hg,_,hb⟩:=run_append_own_at (P:=Tryz.prog) w B 175 ty 9 i0 _ 1 16 Tryz.underlying175 hi hz0 hz1 hz2 rfl (by decide) _ l.length _ h ad 1 c [St s] rfl (fun j u hu=>by
  match j,hu with
  | 0,hu=>cases hu;exact hc
  | j+1,hu=>simp at hu) (fun u hu=>by simp at hu;subst hu;rfl) (by unfold maxLen;omega) (by omega) hB
 obtain⟨g',cap',rfl,_,_⟩:=World.ownsRow.form hown (by omega)
 refine⟨g',cap',w',hrun,?_,hg,?_⟩
 ·unfold OwnT
  rw[List.length_append,List.map_append]
  exact hown
 ·rcases hb with hb | hb
  ·injection hb with hb;exact .inl hb
  ·injection hb with hb;exact .inr hb
theorem OwnT.empty (w:World){B:Nat} (hB:B≤w.heap.size):OwnT (w.alloc (.cells #[] 9)) B w.heap.size 0 []:=World.ownsRow_lit w #[] 0 hB (by unfold maxLen;omega) rfl
theorem yak {w:World} {g:Nat} {ss:List (List UInt8)} (c:Nat)(s:List UInt8)(h:TextR w g ss)(hl:ss.length≤1000):
  Calls Tryz.prog 168 #[.slice (some ⟨g,0,none⟩) ss.length c,St s] w fun e w'=>∃ x:Int,e=.returned (.int .i64 x)∧decide (0≤x)=ss.contains s∧w'=w:=by
 have HG:Hid (∀ x:Int,decide (0≤x)=ss.contains s→(fun (e:Ending) w'=>∃ x:Int,e=.returned (.int .i64 x)∧decide (0≤x)=ss.contains s∧w'=w) (.returned (.int .i64 x)) w):=fun x h1=>⟨x,rfl,h1,rfl⟩
 generalize (fun (e:Ending) w'=>∃ x:Int,e=.returned (.int .i64 x)∧decide (0≤x)=ss.contains s∧w'=w)=G at *
 have HT:=zq h
 clear h
 go_enter Tryz.func168,Tryz.ntmps168
 go_wp2_with fail
 go_loopw [8] (fun i wr=>∃ k:Nat,i=.int .i64 (k:Int)∧k≤ss.length∧Hid (∀ x∈ss.take k,x≠s)∧wr=w) (fun i _=>ss.length-(RowKit.intOf i).toNat)
 case atStart=>exact⟨0,rfl,Nat.zero_le _,fun x hx=>by simp at hx,rfl⟩
 case round =>
  obtain⟨k,rfl,hk,HNO,rfl⟩:=hrel
  by_cases hlt:k<ss.length
  ·have ck:=HT.out.2 k hlt
   have hg:=HT.out.1
   have he:ss.getD k []=ss[k]:=by rw[List.getD_eq_getElem?_getD,List.getElem?_eq_getElem hlt];rfl
   have hstep:ss.take (k+1)=ss.take k++[ss.getD k []]:=by rw[List.take_succ_eq_append_getElem hlt,he]
   have hm:ss.getD k []∈ss:=by rw[he];exact List.getElem_mem _
   by_cases hx:s=ss.getD k []
   ·have HX:Hid (decide (s=ss.getD k [])=true):=by show _=_;simpa using hx
    have HR:=zq (HG.out (k:Int) (by rw[decide_eq_true (by omega),List.contains_eq_mem];rw[← hx] at hm;exact(decide_eq_true hm).symm))
    clear he hstep hm hx HG HNO
    generalize ss.getD k []=t at *
    go_wp2_with (first | ((refine at_ (op:=.binOp .eql 9 (.tmp 11) (.tmp 15) 9) ?_);refine zaj rfl _ (HX.out ▸ zmq (.tmp 11) (.tmp 15) rfl _ _ rfl rfl) ?_) | fail)
    exact HR.out
   ·have HX:Hid (decide (s=ss.getD k [])=false):=by show _=_;simpa using hx
    have HN2:Hid (∀ x∈ss.take (k+1),x≠s):=by
     show ∀ x∈_,_
     rw[hstep]
     intro x hx2
     rcases List.mem_append.1 hx2 with h1 | h1
     ·exact HNO.out x h1
     ·rw[List.mem_singleton] at h1;subst h1;exact fun e=>hx e.symm
    clear he hstep hm hx HNO
    generalize ss.getD k []=t at *
    go_wp2_with (first | ((refine at_ (op:=.binOp .eql 9 (.tmp 11) (.tmp 15) 9) ?_);refine zaj rfl _ (HX.out ▸ zmq (.tmp 11) (.tmp 15) rfl _ _ rfl rfl) ?_) | fail)
    go_roundw
    case rel=>exact⟨k+1,by go_num,by omega,HN2,trivial⟩
    case measure=>simp[RowKit.intOf];omega
  ·obtain rfl:k=ss.length:=by omega
   have HNO':=HNO.out
   rw[List.take_length] at HNO'
   have HR:=zq (HG.out (-1) (by
    rw[List.contains_eq_mem]
    have:s ∉ ss:=fun hs=>HNO' s hs rfl
    rw[decide_eq_false this]
    decide))
   clear HNO HNO' HG
   go_wp2_with fail
   exact HR.out
theorem zrh {w:World} {g:Nat} {ss:List (List UInt8)} (c:Nat)(s:List UInt8)(h:TextR w g ss)(hl:ss.length≤1000):
  Calls Tryz.prog 154 #[.slice (some ⟨g,0,none⟩) ss.length c,St s] w fun e w'=>e=.returned (.bool (ss.contains s))∧w'=w:=by
 have HI:=zq (yak c s h hl)
 clear h
 go_enter Tryz.func154,Tryz.ntmps154
 go_wp2_with fail
 refine HI.out.mono ?_
 rintro e w1 ⟨x,rfl,hx,rfl⟩
 clear HI
 by_cases h0:0≤x
 ·have HX:Hid (ss.contains s=true):=by show _=_;rw[← hx];exact decide_eq_true h0
  clear hx
  go_wp2_with fail
  go_ret
  exact⟨by rw[HX.out];rfl,rfl⟩
 ·have HX:Hid (ss.contains s=false):=by show _=_;rw[← hx];exact decide_eq_false h0
  clear hx
  go_wp2_with fail
  go_ret
  exact⟨by rw[HX.out];exact zge (decide_eq_false (by omega)),rfl⟩
theorem zxt (A:Option Addr)(xs:List UInt8)(c:Nat)(A':Option Addr)(ys:List UInt8)(c':Nat)(w:World)(hx:BR w w.heap.size A xs)(hy:BR w w.heap.size A' ys):
  Calls Tryz.prog 155 #[.slice A xs.length c,.slice A' ys.length c'] w fun e w'=>e=.returned (.bool (decide (xs=ys)))∧w=w':=by
 have c1:=zex (P:=Tryz.prog) w _ _ _ _ A xs c hx Tryz.underlying31 Tryz.underlying5 Tryz.underlying9
 have c2:=zex (P:=Tryz.prog) w _ _ _ _ A' ys c' hy Tryz.underlying31 Tryz.underlying5 Tryz.underlying9
 clear hx hy
 go_enter Tryz.func155,Tryz.ntmps155
 go_wp2
 go_ret
 exact⟨zge (zsq xs ys),rfl⟩
end Fs
namespace Fs
open Go.RowKit Go.Shelf Ex Ino Mm
attribute [local go_sem] Oper.semAt_some
structure InW (w:World) (ns:List IN) (pre:List Nat) (g cap:Nat) (W:World):Prop where
 t0:Boxed W w.heap.size 4 (.bool false)
 own:OwnT W (w.heap.size+1) g cap (zd9 ns pre)
 nb:Boxed W (w.heap.size+1+1) 175 (.slice (some ⟨g,0,none⟩) (zd9 ns pre).length cap)
 ub:Boxed W (w.heap.size+1+1+1) 59 (.int .u32 (zes ns pre:Nat))
 gn:g≠w.heap.size+1+1∧g≠w.heap.size+1+1+1
 ap:zjj ns pre
 bel:Below w.heap.size w W
theorem InW.below {w:World} {ns:List IN} {pre:List Nat} {g cap:Nat} {W W':World} (h:InW w ns pre g cap W)(k:Below W.heap.size W W'):InW w ns pre g cap W':=
 ⟨(k.block _ h.t0.lt).trans h.t0,h.own.same (k.block _ h.own.block.2.1),(k.block _ h.nb.lt).trans h.nb,(k.block _ h.ub.lt).trans h.ub,h.gn,h.ap,h.bel.trans (k.mono h.bel.size)⟩
def InWs (w:World) (ns:List IN) (pre:List Nat) (W:World):Prop:=∃ g cap,InW w ns pre g cap W
theorem yal (w:World)(ns:List IN){B:Nat} (hB:w.heap.size≤B):OwnFrom B (InWs w ns):=fun pre W W' row ⟨g,cap,h⟩ hg hr =>
 have hr':∀ r,row=some r→∃ o:Obj,W.heap[r]?=some o∧o.isCells=false:=fun r e=>(hr r e).2
 ⟨g,cap,zbt h.t0 hg hr',h.own.kept hg hr',zbt h.nb hg hr',zbt h.ub hg hr',h.gn,h.ap,ownFrom_below (Nat.le_refl _) hB () W W' row h.bel hg hr⟩
theorem InW.start (w:World)(ns:List IN):InW w ns [] (w.heap.size+1) 0 ((((w.alloc (.cells #[.bool false] 4)).alloc (.cells #[] 9)).alloc (.cells #[.slice (some ⟨w.heap.size+1,0,none⟩) 0 0] 175)).alloc (.cells #[.int .u32 0] 59)):=by
 have b0:=(((Boxed.new w 4 (.bool false)).alloc (.cells #[] 9)).alloc (.cells #[.slice (some ⟨w.heap.size+1,0,none⟩) 0 0] 175)).alloc (.cells #[.int .u32 0] 59)
 have b1:=OwnT.empty (w.alloc (.cells #[.bool false] 4)) (B:=w.heap.size+1) (by simp)
 have b2:=(Boxed.new ((w.alloc (.cells #[.bool false] 4)).alloc (.cells #[] 9)) 175 (.slice (some ⟨w.heap.size+1,0,none⟩) 0 0)).alloc (.cells #[.int .u32 0] 59)
 have b3:=Boxed.new (((w.alloc (.cells #[.bool false] 4)).alloc (.cells #[] 9)).alloc (.cells #[.slice (some ⟨w.heap.size+1,0,none⟩) 0 0] 175)) 59 (.int .u32 0)
 rw[World.size_alloc] at b1
 rw[World.size_alloc,World.size_alloc] at b2
 rw[World.size_alloc,World.size_alloc,World.size_alloc] at b3
 have b1':=(b1.same (w':=(((w.alloc (.cells #[.bool false] 4)).alloc (.cells #[] 9)).alloc (.cells #[.slice (some ⟨w.heap.size+1,0,none⟩) 0 0] 175)).alloc (.cells #[.int .u32 0] 59)) (by
  exact(Below.heap_alloc _ _ _ (by simp)).trans (Below.heap_alloc _ _ _ (by simp))))
 exact⟨b0,b1',b2,b3,⟨by omega,by omega⟩,zog ns,((((Below.refl _ w).alloc (Nat.le_refl _) _).alloc (by simp) _).alloc (by simp;omega) _).alloc (by simp;omega) _⟩
theorem InW.step {w:World} {ns:List IN} {pre:List Nat} {g cap:Nat} {W:World} (h:InW w ns pre g cap W){i:Nat} (hi:zjk ns pre i=true)(hl:pre.length≤100):
  ∃ g' cap' w7,(Builtin.append_ #[175,175] 175 #[.slice (some ⟨g,0,none⟩) (zd9 ns pre).length cap,.slice (some ⟨W.heap.size,0,none⟩) 1 1]).run Tryz.prog (W.alloc (.cells #[St (at' ns i).name] 9))=.ok (.slice (some ⟨g',0,none⟩) ((zd9 ns pre).length+1) cap') w7 ∧
   Boxed w7 (w.heap.size+1+1) 175 (.slice (some ⟨g,0,none⟩) (zd9 ns pre).length cap)∧Boxed w7 (w.heap.size+1+1+1) 59 (.int .u32 (zes ns pre:Nat)) ∧
   KeepsOthers W ((w7.setCell ⟨w.heap.size+1+1,0,none⟩ (.slice (some ⟨g',0,none⟩) ((zd9 ns pre).length+1) cap')).setCell ⟨w.heap.size+1+1+1,0,none⟩ (.int .u32 ((zes ns pre ||| zha (at' ns i):Nat):Int))) ∧
   InW w ns (pre++[i]) g' cap' ((w7.setCell ⟨w.heap.size+1+1,0,none⟩ (.slice (some ⟨g',0,none⟩) ((zd9 ns pre).length+1) cap')).setCell ⟨w.heap.size+1+1+1,0,none⟩ (.int .u32 ((zes ns pre ||| zha (at' ns i):Nat):Int))):=by
 have hs:=h.bel.size
 have l0:=h.t0.lt
 have l2:=h.ub.lt
 have b6:Below W.heap.size W (W.alloc (.cells #[St (at' ns i).name] 9)):=(Below.refl _ _).alloc (Nat.le_refl _) _
 have h6:=h.below b6
 have hc:(W.alloc (.cells #[St (at' ns i).name] 9)).cell? ((⟨W.heap.size,0,none⟩:Addr).add 0)=some (St (at' ns i).name):=by
  rw[show(⟨W.heap.size,0,none⟩:Addr).add 0=⟨W.heap.size,0,none⟩ from by unfold Addr.add;split<;>simp_all,cell_of_row (W.alloc (.cells #[St (at' ns i).name] 9)) W.heap.size 0 _ _ _ (World.alloc_heap_new _ _)];rfl
 obtain⟨g',cap',w7,hrun,hown,hg,hgg⟩:=h6.own.app (by rw[World.size_alloc];omega) (by simp[zd9];omega) (at' ns i).name ⟨W.heap.size,0,none⟩ 1 175 hc
 rw[World.size_alloc] at hgg
 obtain⟨gb1,gb2,gcs,gt,gh⟩:=h6.own.block
 have hbk:∀ k,k<W.heap.size→k≠g→w7.heap[k]?=W.heap[k]?:=fun k hk hne=>(hg.block k (by rw[World.size_alloc];omega) (fun e=>hne (by injection e))).trans (b6.block k hk)
 have n7:Boxed w7 (w.heap.size+1+1) 175 _:=(hbk _ h.nb.lt (fun e=>h.gn.1 e.symm)).trans h.nb
 have u7:Boxed w7 (w.heap.size+1+1+1) 59 _:=(hbk _ h.ub.lt (fun e=>h.gn.2 e.symm)).trans h.ub
 have t7:Boxed w7 w.heap.size 4 _:=(hbk _ h.t0.lt (fun e=>by omega)).trans h.t0
 have hk7:KeepsOthers W w7:=by
  refine⟨by have:=hg.size;rw[World.size_alloc] at this;omega,fun k o hk ho=>?_⟩
  have hkl:=(Array.getElem?_eq_some_iff.1 hk).1
  refine(hbk k hkl fun e=>?_).trans hk
  subst e
  rw[b6.block k hkl,hk] at gh
  cases gh
  cases ho
 have b7:Below w.heap.size w w7:=h.bel.trans ⟨hg.os,hg.tape,hg.output,by have:=hg.size;rw[World.size_alloc] at this;omega,fun k hk=>hbk k (by omega) (by omega)⟩
 have hgn:g'≠w.heap.size+1+1∧g'≠w.heap.size+1+1+1:=by
  rcases hgg with e | e
  ·rw[e];exact h.gn
  ·omega
 have en:zd9 ns (pre++[i])=zd9 ns pre++[(at' ns i).name]:=by simp[zd9]
 have eu:=zhe ns pre i
 refine⟨g',cap',w7,hrun,n7,u7,(hk7.trans (KeepsOthers.setCell _ _ _)).trans (KeepsOthers.setCell _ _ _),⟨(t7.other (by omega) _).other (by omega) _,?_,?_,?_,hgn,(zil ns pre i).2 ⟨h.ap,hi⟩,(b7.setCell (by show w.heap.size≤w.heap.size+1+1;omega) _).setCell (by show w.heap.size≤w.heap.size+1+1+1;omega) _⟩⟩
 ·rw[en]
  refine hown.same ?_
  rw[heap_setCell_other _ _ _ _ hgn.2,heap_setCell_other _ _ _ _ hgn.1]
 ·rw[en,List.length_append,List.length_singleton]
  exact(n7.set _).other (by omega) _
 ·rw[eu]
  have:=(u7.other (B':=w.heap.size+1+1) (by omega) (.slice (some ⟨g',0,none⟩) ((zd9 ns pre).length+1) cap')).set (.int .u32 ((zes ns pre ||| zha (at' ns i):Nat):Int))
  exact this
end Fs
namespace Fs
open Go.RowKit Go.Shelf Ex Ino Mm
attribute [local go_sem] Oper.semAt_some
def WhOut (w:World) (bs:List UInt8) (ns:List IN) (e:Ending) (w':World):Prop:=∃ b,e=.returned (.bool b)∧(b=true↔zlm ⟨bs,ns⟩)∧Below w.heap.size w w'
def InWx (w:World) (ns:List IN) (c:Code) (pre:List Nat) (W:World):Prop:=c=.ret∧(∃ q i,pre=q++[i]∧zjk ns q i=false)∧Boxed W w.heap.size 4 (.bool false)∧Below w.heap.size w W
theorem yeg (w:World)(ns:List IN){B:Nat} (hB:w.heap.size≤B)(c:Code):OwnFrom B (InWx w ns c):=fun pre W W' row ⟨h1,h2,h3,h4⟩ hg hr =>
 ⟨h1,h2,zbt h3 hg (fun r e=>(hr r e).2),ownFrom_below (Nat.le_refl _) hB () W W' row h4 hg hr⟩
def actW (w:World) (l:List ND) (r g b i:Nat):Act:={ tmps:=#[.pointer (some ⟨r,0,none⟩),undef,.pointer (some ⟨w.heap.size,0,none⟩),.pointer (some ⟨w.heap.size+1+1,0,none⟩),.pointer (some ⟨w.heap.size+1+1+1,0,none⟩),undef,.pointer (some ⟨b,0,none⟩),undef,.slice (some ⟨w.heap.size+1,0,none⟩) 0 0,.pointer (some ⟨r,0,none⟩),itf g,.int .i64 (i:Int),Ino.ag (zdn l i).x (zdn l i).A (zdn l i).c,undef,undef,undef,undef,undef,undef,undef,undef,undef,undef,undef,undef,undef,undef,undef,undef,undef,undef,undef,undef,undef,undef,undef,undef,undef,undef,undef,undef,undef],defers:=[] }
def MidW (w:World) (l:List ND) (r g:Nat) (pre:List Nat) (i:Nat) (a:Act) (W:World):Prop:=∃ b,a=actW w l r g b i∧BoxN W b (zdn l i)∧InWs w (zas l) pre W∧pre.length≤8
theorem yd1 (w:World)(l:List ND)(r g:Nat)(pre:List Nat)(i:Nat){B:Nat} (hB:w.heap.size≤B):OwnFrom B (MidW w l r g pre i):=fun a W W' row ⟨b,e,h1,h2,h3⟩ hg hr =>
 ⟨b,e,h1.grown hg (fun r e=>(hr r e).2),yal w _ hB pre W W' row h2 hg hr,h3⟩
theorem zyb {ns:List IN} {a b:List Nat} (h:zjj ns b)(hp:a <+: b):zjj ns a:=fun q i hq=>h q i (hq.trans hp)
theorem zst {w:World} {r:Nat} {bs:List UInt8} {l:List ND} (h:RegAt w r bs l):
  Calls Tryz.prog 129 #[.pointer (some ⟨r,0,none⟩)] w (WhOut w bs (zas l)):=by
 refine(callsIn_wide (n:=8)).1 ?_
 refine callsIn_of_wp_marks Tryz.func129 rfl trivial ?_ rfl
 simp only[Tryz.ntmps129,List.size_toArray,List.length_cons,List.length_nil,Nat.reduceAdd,Nat.reduceSub,Array.replicate_succ,Array.replicate_zero,List.push_toArray,List.append_toArray,List.nil_append,List.cons_append]
 have hst:=InW.start w (zas l)
 have H1:=zq (h.below (Below.mono hst.bel (Nat.le_refl _)))
 have HST:=zq hst
 clear hst
 gi_wp2
 generalize ((((w.alloc (.cells #[.bool false] 4)).alloc (.cells #[] 9)).alloc (.cells #[.slice (some ⟨w.heap.size+1,0,none⟩) 0 0] 175)).alloc (.cells #[.int .u32 0] 59))=w1 at *
 refine⟨trivial,?_⟩
 refine(callsIn_wide.2 (zmn r w1)).mono ?_
 rintro e w2 ⟨rfl,rfl⟩
 have hbox:=Boxed.new w1 108 (.pointer (some ⟨r,0,none⟩))
 have hb2:Below w1.heap.size w1 (w1.alloc (.cells #[.pointer (some ⟨r,0,none⟩)] 108)):=(Below.refl _ _).alloc (Nat.le_refl _) _
 have H2:=zq (H1.out.below hb2)
 have hi2:=HST.out.below hb2
 have HI2:Hid (InWs w (zas l) [] (w1.alloc (.cells #[.pointer (some ⟨r,0,none⟩)] 108))):=⟨_,_,hi2⟩
 have HBOX:=zq hbox
 have HS2:Hid (w.heap.size≤(w1.alloc (.cells #[.pointer (some ⟨r,0,none⟩)] 108)).heap.size∧w.heap.size+1+1+1<(w1.alloc (.cells #[.pointer (some ⟨r,0,none⟩)] 108)).heap.size):=⟨hi2.bel.size,hi2.ub.lt⟩
 clear hi2 hbox hb2 H1 HST
 gi_wp2
 generalize w1.alloc (.cells #[.pointer (some ⟨r,0,none⟩)] 108)=w2 at *
 generalize w1.heap.size=g at *
 have hs2:=HS2.out.1
 refine zfo rfl (by omega) (gf:=156) (lb:=#[.pointer (some ⟨g,0,none⟩)]) rfl trivial (enters_of Tryz.func156 (by kernel_rfl) rfl)
  (zii Fence.wide _ trivial rfl (by omega) g r bs l w2 HBOX.out H2.out) (Below.refl _ _) (fun _=>rfl)
  (InWs w (zas l)) (InWx w (zas l)) (MidW w l r g)
  (yal w _ hs2) (fun c=>yeg w _ hs2 c) (fun pre i=>yd1 w l r g pre i hs2) HI2.out ?assign ?body ?done ?stop
 case assign =>
  intro y pre i W hi hpl
  have hk:KeepsOthers W (W.alloc (.cells #[St (zdn l i).x.name,.int .i64 (zdn l i).x.size,.slice (zdn l i).A (zdn l i).x.ext.length (zdn l i).c] 113)):=KeepsOthers.alloc _ _
  obtain⟨gg,cap,hw⟩:=hi
  have hm:MidW w l r g pre i (actW w l r g W.heap.size i) (W.alloc (.cells #[St (zdn l i).x.name,.int .i64 (zdn l i).x.size,.slice (zdn l i).A (zdn l i).x.ext.length (zdn l i).c] 113)):=
   ⟨W.heap.size,rfl,heap_alloc_new W _,⟨gg,cap,hw.below ((Below.refl _ _).alloc (Nat.le_refl _) _)⟩,by omega⟩
  have HK:=zq hk
  have HM:=zq hm
  clear hw hs2 hk hm
  gi_wp2
  exact⟨HK.out,HM.out⟩
 case body =>
  rintro y pre i a W ⟨b,rfl,hn,⟨gg,cap,hu⟩,hpl⟩
  obtain⟨c0,c1,c2⟩:=hn.c
  have hbit:=fun W2 (hW:Below W.heap.size W W2)=>zpt (zdn l i).A (zdn l i).x.ext (zdn l i).c W2 ((zl9 (h.below (hu.bel.trans (hW.mono hu.bel.size))) i).ok.xr) (zl9 h i).ok.few
  have hx8:=fun W2 (hW:Below W.heap.size W W2)=>(show _∧_∧_ from⟨(hn.below hW).c.1,(hu.below hW).nb.cell,(hu.below hW).ub.cell⟩)
  have hcon:=fun W2 (hW:Below W.heap.size W W2)=>zrh cap (at' (zas l) i).name (hu.below hW).own.text (by simp[zd9];omega)
  have hV:zha (at' (zas l) i)=zb2 (za4 (zdn l i).x.ext):=by rw[ztk];rfl
  have hVl:=zvv (at' (zas l) i)
  have hand:=andI (zes (zas l) pre) (zha (at' (zas l) i)) (zkx _ _) hVl
  have hor:=orI (zes (zas l) pre) (zha (at' (zas l) i)) (zkx _ _) hVl
  have hstep:=fun (hap:zjk (zas l) pre i=true) W2 (hW:Below W.heap.size W W2)=>(hu.below hW).step hap (by omega)
  have hbad:zjk (zas l) pre i=false→∀ W2 (hW:Below W.heap.size W W2),Boxed W2 w.heap.size 4 (.bool false)∧KeepsOthers W (W2.setCell ⟨w.heap.size,0,none⟩ (.bool false))∧InWx w (zas l) .ret (pre++[i]) (W2.setCell ⟨w.heap.size,0,none⟩ (.bool false)):=fun hap W2 hW =>
   ⟨(hu.below hW).t0,(zg1 hW).trans (KeepsOthers.setCell _ _ _),rfl,⟨pre,i,rfl,hap⟩,(hu.below hW).t0.set _,(hu.bel.trans (hW.mono hu.bel.size)).setCell (p:=⟨w.heap.size,0,none⟩) (Nat.le_refl _) _⟩
  have hap0:zjk (zas l) pre i=(!(zd9 (zas l) pre).contains (at' (zas l) i).name && decide (zes (zas l) pre &&& zha (at' (zas l) i)=0)):=rfl
  rw[ztk] at hcon
  have hse:(at' (zas l) i).name=(zdn l i).x.name:=by rw[ztk]
  rw[hse] at hstep hap0
  rw[hV] at hand hor hap0 hstep
  have HBIT:=zq hbit
  have HX8:=zq hx8
  have HCON:=zq hcon
  have HSTEP:=zq hstep
  have HBAD:=zq hbad
  unfold actW
  clear hs2 hbit hx8 hcon hstep hbad hV hVl hn hu hpl hse
  generalize hNL:(zd9 (zas l) pre).contains (zdn l i).x.name=con at *
  generalize zes (zas l) pre=U at *
  generalize zb2 (za4 (zdn l i).x.ext)=V at *
  gi_wp2
  refine⟨trivial,(CallsIn.inRound y (callsIn_wide.2 (HBIT.out _ (Below.refl _ _)))).mono ?_⟩
  rintro e W3 ⟨rfl,hb3⟩
  obtain⟨d0,d1,d2⟩:=HX8.out W3 hb3
  have HC3:=zq (HCON.out W3 hb3)
  have hko3:=zg1 hb3
  cases con with
  | true =>
   obtain⟨e1,e2,e3⟩:=HBAD.out (by rw[hap0];rfl) W3 hb3
   have f1:=e1.frozen
   have c1':=e1.cell
   have HE:=zq (And.intro e2 e3)
   clear e1 e2 e3 hap0 HBAD HSTEP HX8 HCON HBIT hb3 hand hor hko3
   gi_wp2
   refine⟨trivial,(CallsIn.inRound y (callsIn_wide.2 HC3.out)).mono ?_⟩
   rintro e W4 ⟨rfl,rfl⟩
   gi_wp2_with (first
    | ((with_reducible refine zke (d:=some 21) ?_);refine wpListIn_skip (by rfl) (by rfl) ?_)
    | ((with_reducible refine zke (d:=some 22) ?_);refine wpListIn_skip (by rfl) (by rfl) ?_)
    | ((with_reducible refine zke (d:=some 23) ?_);refine wpListIn_skip (by rfl) (by rfl) ?_)
    | ((with_reducible refine zke (d:=some 24) ?_);refine wpListIn_skip (by rfl) (by rfl) ?_))
   exact HE.out
  | false =>
   by_cases hT:U &&& V=0
   ·obtain⟨g',cap',w7,hrun,n7,u7,hko,hin⟩:=HSTEP.out (by rw[hap0,hT];rfl) W3 hb3
    have f7:=n7.frozen
    have c7:=n7.cell
    have u8:=u7.other (B':=w.heap.size+1+1) (by omega) (.slice (some ⟨g',0,none⟩) ((zd9 (zas l) pre).length+1) cap')
    have cu8:=u8.cell
    have fu8:=u8.frozen
    have HRUN:=zq hrun
    have HE:=zq (And.intro (hko3.trans hko) (show InWs w (zas l) (pre++[i]) _ from⟨_,_,hin⟩))
    have hand0:bits .and .u32 (U:Int) (V:Int)=0:=by rw[hand,hT];rfl
    clear hrun n7 u7 hko hin hap0 HBAD HSTEP HX8 HCON HBIT hb3 hand u8 hko3 hT
    generalize (zd9 (zas l) pre).length=NL at *
    gi_wp2
    refine⟨trivial,(CallsIn.inRound y (callsIn_wide.2 HC3.out)).mono ?_⟩
    rintro e W4 ⟨rfl,rfl⟩
    gi_wp2_with (first | ((with_reducible refine zke (d:=some 30) ?_);refine zcy rfl (by intro c h;cases h) rfl _ (zn8 (.tmp 26) (.tmp 29) 175 175 rfl _ HRUN.out) ?_))
    exact⟨HE.out.1,trivial,HE.out.2⟩
   ·obtain⟨e1,e2,e3⟩:=HBAD.out (by rw[hap0];simpa using hT) W3 hb3
    have f1:=e1.frozen
    have c1':=e1.cell
    have HE:=zq (And.intro e2 e3)
    have hne:¬((U &&& V:Nat):Int)=0:=fun h=>hT (by omega)
    clear e1 e2 e3 hap0 HBAD HSTEP HX8 HCON HBIT hb3 hor hT hko3
    generalize U &&& V=T at *
    gi_wp2
    refine⟨trivial,(CallsIn.inRound y (callsIn_wide.2 HC3.out)).mono ?_⟩
    rintro e W4 ⟨rfl,rfl⟩
    gi_wp2
    exact HE.out
 case done =>
  rintro D ys W hD rfl ⟨gg,cap,hu⟩ hK
  have cu:W.cell? ⟨w.heap.size+1+1+1,0,none⟩=some (.int .u32 ((zao (zas l):Nat):Int)):=hu.ub.cell
  have hreg:=h.below hu.bel
  have hrl:=hreg.lt
  have hhd:=zpd (zao (zas l)) W.drew (zdi _)
  have HAP:Hid (zaw bs 0=zb7 (zao (zas l))↔zlm ⟨bs,zas l⟩):=⟨fun e=>⟨hu.ap,e⟩,fun e=>e.2⟩
  have hpl:(zaw bs 0).length=64:=zbl hreg.bl (by omega)
  have hbr:=hreg.blockBR (n:=0) (by omega)
  have HEQ:∀ (W2:World) A' ys' c',Below W.heap.size W W2→BR W2 W2.heap.size A' ys'→Calls Tryz.prog 155 #[.slice (some ⟨r,0,none⟩) 64 64,.slice A' ys'.length c'] W2 fun e w'=>e=.returned (.bool (decide (zaw bs 0=ys')))∧W2=w':=fun W2 A' ys' c' hb hy=>by
   have:=zxt (some ⟨r,0*64,none⟩) (zaw bs 0) 64 A' ys' c' W2 ((hreg.below hb).blockBR (n:=0) (by omega)) hy
   rw[hpl,Nat.zero_mul] at this
   exact this
  have hDs:w.heap.size<D:=by have:=HS2.out.2;omega
  have HTB:=fun W2 (hW:Below W.heap.size W W2)=>(show Boxed W2 w.heap.size 4 (.bool false) from(hu.below hW).t0)
  have HKK:=fun W2 (hW:Below W.heap.size W W2)=>hu.bel.trans (hW.mono hu.bel.size)
  have HDD:=fun W2 (hW:Below W.heap.size W W2)=>(hW.block D (Array.getElem?_eq_some_iff.1 hK).1).trans hK
  have HHD:=zq hhd
  have HEQ2:=zq HEQ
  have HTB2:=zq HTB
  have HKK2:=zq HKK
  have HDD2:=zq HDD
  clear hhd HEQ HTB HKK HDD hbr hpl hreg hu hK
  generalize zao (zas l)=U at *
  generalize zb7 U=HL at *
  generalize zaw bs 0=PB at *
  gi_wp2
  refine wpIn_wide.2 (yc0 ?_)
  refine wp_region_any (by kernel_rfl) ?_
  change wpAny _ _ _ _ _ _ _ W.drew
  refine wpAny_take (oi:=⟨_,_,_,_,_,_⟩) (i:=0) (v:=.pointer (some ⟨r,0,none⟩)) rfl (by kernel_rfl) (by kernel_rfl) (by kernel_rfl) (fun _ _ _ h=>h) (Or.inl ⟨by rfl,fun _=>rfl⟩) ?_
  simp only[Act.put,sqX]
  refine wpAny_take (oi:=⟨_,_,_,_,_,_⟩) (i:=1) (v:=.pointer (some ⟨r,0,none⟩)) rfl (by kernel_rfl) (by kernel_rfl) (by kernel_rfl) (fun _ _ _ h=>h) (Or.inl ⟨by rfl,fun _=>rfl⟩) ?_
  simp only[Act.put,sqX]
  refine wpAny_take (oi:=⟨_,_,_,_,_,_⟩) (i:=2) (v:=.pointer (some ⟨r,0,none⟩)) rfl (by kernel_rfl) (by kernel_rfl) (by kernel_rfl) (fun _ _ _ h=>h) (Or.inl ⟨by rfl,fun _=>by go_simp⟩) ?_
  simp only[Act.put,sqX]
  refine wpAny_take (oi:=⟨_,_,_,_,_,_⟩) (i:=3) (v:=.pointer (some ⟨r,0,none⟩)) rfl (by kernel_rfl) (by kernel_rfl) (by kernel_rfl) (fun _ _ _ h=>h) (Or.inl ⟨by rfl,fun _=>by go_simp⟩) ?_
  simp only[Act.put,sqX]
  refine wpAny_take (oi:=⟨_,_,_,_,_,_⟩) (i:=4) (v:=.slice (some ⟨r,0,none⟩) 64 64) rfl (by kernel_rfl) (by kernel_rfl) (by kernel_rfl) (fun _ _ _ h=>h) (Or.inl ⟨by rfl,fun _=>by go_simp⟩) ?_
  simp only[Act.put,sqX]
  refine zfu [] [5,6,7,8] [] [_,_,_,_] rfl rfl rfl (by kernel_rfl) ?_
  refine wpStill_nil ?_
  have bd:Below W.heap.size W W.drew:=(Below.refl _ W).drew
  have cud:W.drew.cell? ⟨w.heap.size+1+1+1,0,none⟩=some (.int .u32 (U:Int)):=cu
  have HBD:=zq bd
  clear bd cu
  generalize W.drew=W0 at *
  go_wp2_with fail
  refine HHD.out.mono ?_
  rintro e W2 ⟨g2,c2,rfl,q1,q2,q3,b2,q5⟩
  have hb2:=HBD.out.trans (b2.mono HBD.out.size)
  have HEQ3:=zq (HEQ2.out W2 (some ⟨g2,0,none⟩) HL c2 hb2 q3)
  have ht:=HTB2.out W2 hb2
  have ct:=ht.cell
  have ft:=ht.frozen
  have HT:=zq ht
  have HB2:=zq hb2
  have hdd:=HDD2.out W2 hb2
  have HD2:=zq hdd
  have hkk:=HKK2.out W2 hb2
  have HK3:=zq hkk
  clear q1 q2 q3 b2 q5 hb2 ht HTB2 HDD2 HKK2 hdd hkk HEQ2 HHD HBD cud
  go_wp2_with fail
  refine HEQ3.out.mono ?_
  rintro e W3 ⟨rfl,rfl⟩
  have ft3:=ft
  go_wp2_with fail
  gi_wp2
  have hD3:(W2.setCell ⟨w.heap.size,0,none⟩ (.bool (decide (PB=HL)))).heap[D]?=some (.deferred (some [])):=by
   rw[heap_setCell_other _ _ _ _ (by dsimp only;omega)]
   exact HD2.out
  have hT3:=HT.out.set (.bool (decide (PB=HL)))
  have g2:=grownBy_putObj' (W2.setCell ⟨w.heap.size,0,none⟩ (.bool (decide (PB=HL)))) D (.deferred none)
  have x2:Boxed _ w.heap.size 4 (.bool (decide (PB=HL))):=zbt hT3 g2 (fun r e=>by cases e;exact⟨_,hD3,rfl⟩)
  have k2:=(HK3.out.setCell (p:=⟨w.heap.size,0,none⟩) (Nat.le_refl _) (.bool (decide (PB=HL)))).trans (belowK_b (w:=w) (Nat.le_refl _) _ D _ (.deferred none) (by omega) hD3 rfl rfl)
  refine⟨by simp,.inl ⟨D,_,rfl,run_takeDeferred hD3,?_⟩⟩
  have c3:=x2.cell
  refine⟨.bool (decide (PB=HL)),?_,_,rfl,by rw[decide_eq_true_iff];exact HAP.out,k2⟩
  simp[results,Tryz.f129,go_sem,c3]
 case stop =>
  rintro D c2 pre W hD hpre ⟨rfl,⟨q,i,rfl,hq⟩,hb,hk⟩ hK
  have c1:=hb.cell
  have HNO:Hid (¬zlm ⟨bs,zas l⟩):=fun hw=>by
   have:=(zil (zas l) q i).1 (zyb hw.1 hpre)
   rw[hq] at this
   cases this.2
  have HB:=zq hb
  have HK2:=zq hk
  clear hb hk hq hpre
  gi_wp2
  have g2:=grownBy_putObj' W D (.deferred none)
  have x2:Boxed _ w.heap.size 4 (.bool false):=zbt HB.out g2 (fun r e=>by cases e;exact⟨_,hK,rfl⟩)
  have k2:=HK2.out.trans (belowK_b (w:=w) (Nat.le_refl _) W D _ (.deferred none) (by omega) hK rfl rfl)
  refine⟨by simp,.inl ⟨D,_,rfl,run_takeDeferred hK,?_⟩⟩
  have c3:=x2.cell
  refine⟨.bool false,?_,false,rfl,⟨(fun h=>by cases h),fun h=>absurd h HNO.out⟩,k2⟩
  simp[results,Tryz.f129,go_sem,c3]
end Fs
namespace Fs
open Go.RowKit Ex Ino Mm
def nd0:ND:=⟨in0,none,0⟩
theorem yim (w:World):(Instr.build 149 #[]).run Tryz.prog w=.ok (.agg (gcl (List.replicate 2048 0) (List.replicate 8 nd0)).toArray) w:=by kernel_rfl
theorem boxRg (w:World)(cs:Array Value):(Instr.box 149 (.agg cs)).run Tryz.prog w=.ok (.pointer (some ⟨w.heap.size,0,none⟩)) (w.alloc (.cells cs 149)):=by rfl
theorem nd0_ok (w:World)(r:Nat):NdOk w r nd0:=⟨⟨XR.nil,by decide,by decide,by decide⟩,fun hn=>absurd rfl hn⟩
theorem zzc (w:World):RegAt (w.alloc (.cells (gcl (List.replicate 2048 0) (List.replicate 8 nd0)).toArray 149)) w.heap.size (List.replicate 2048 0) (List.replicate 8 nd0):=
 ⟨by rw[List.length_replicate],rfl,World.alloc_heap_new w _,fun d hd=>by rw[List.eq_of_mem_replicate hd];exact nd0_ok _ _⟩
def cpK (BS:List UInt8) (k:Nat):List UInt8:=BS.take (64*k)++List.replicate (2048-64*k) 0
theorem yif (BS:List UInt8):cpK BS 0=List.replicate 2048 0:=by unfold cpK;rw[Nat.mul_zero,List.take_zero,List.nil_append]
theorem cpK_32 {BS:List UInt8} (h:BS.length=2048):cpK BS 32=BS:=by
 unfold cpK
 rw[List.take_of_length_le (by omega),show 2048-64*32=0 from rfl,List.replicate_zero,List.append_nil]
theorem yfe {BS:List UInt8} (h:BS.length=2048){k:Nat} (hk:k<32):zau (cpK BS k) k (zaw BS k)=cpK BS (k+1):=by
 have hp:=zbl h hk
 have ht:(BS.take (64*k)).length=k*64:=by rw[List.length_take];omega
 unfold zau splice cpK
 rw[zjw,hp,List.take_append_of_le_length (by omega),List.take_of_length_le (by omega),List.drop_append,List.drop_of_length_le (by omega),List.nil_append,ht,List.drop_replicate]
 simp only[List.append_assoc]
 congr 3
 omega
structure MemC (v:Option Addr) (S:World→Prop) (F:Nat→Prop) (w:World) (BS:List UInt8):Prop where
 bl:BS.length=2048
 sw:S w
 fl:∀ k,F k→k<w.heap.size
 st:∀ W W',S W→w.heap.size≤W.heap.size→Keeps (fun k=>w.heap.size≤k) W W'→S W'
 ld:∀ W (n:Nat),S W→w.heap.size≤W.heap.size→n<32→Calls Tryz.prog 43 #[.pointer v,.int .i64 (6144+(n:Int)*64),.int .i64 64] W
  fun e w'=>∃ g,e=.returned (.slice (some ⟨g,0,none⟩) 64 64)∧BR w' w'.heap.size (some ⟨g,0,none⟩) (zaw BS n)∧S w'∧Keeps F W w'
def okR (BS:List UInt8):Prop:=decP BS∧zlm ⟨BS,zaa BS⟩
def zpy (S:World→Prop) (F:Nat→Prop) (w:World) (BS:List UInt8) (e:Ending) (w':World):Prop:=S w'∧Keeps F w w' ∧
 ((okR BS∧∃ r l,e=.returned (.tuple #[.pointer (some ⟨r,0,none⟩),.int .i64 0])∧w.heap.size≤r∧RegAt w' r BS l∧zas l=zaa BS) ∨
  (¬okR BS∧e=.returned (.tuple #[.pointer none,.int .i64 120])))
theorem zgl {w:World} {b:List UInt8} {R:Option Addr} (h:XR w w.heap.size R (zdx b).ext):InOk w (zdx b) R:=by
 rcases zij b with e | e
 ·rw[e] at h ⊢
  exact⟨h,by decide,by decide,by decide⟩
 ·obtain⟨h1,_,h3,h4,_⟩:=zck e
  exact⟨h,by have:=zkm h4;omega,by omega,by omega⟩
theorem ydl {BS:List UInt8} {l:List ND} (hl:l.length=8)(h:∀ i,i<8→at' (zas l) i=zdx (zaw BS (1+i))):zas l=zaa BS:=by
 have h1:(zas l).length=8:=by unfold zas;rw[List.length_map,hl]
 refine List.ext_getElem (by rw[h1,zbp]) fun i h2 h3=>?_
 have h4:=h i (by omega)
 rw[← zbw BS (by omega)] at h4
 unfold at' at h4
 rw[List.getD_eq_getElem?_getD,List.getD_eq_getElem?_getD,List.getElem?_eq_getElem h2,List.getElem?_eq_getElem h3] at h4
 exact h4
theorem zac {F:Nat→Prop} {w w':World} (h:Below w.heap.size w w'):Keeps F w w':=⟨h.os,h.tape,h.output,h.size,fun b hb _=>h.block b hb⟩
theorem zc2 {v:Option Addr} {S:World→Prop} {F:Nat→Prop} {w:World} {BS:List UInt8} (h:MemC v S F w BS):
  Calls Tryz.prog 96 #[.pointer v] w (zpy S F w BS):=by
 have hrg:=zzc w
 have hk0:Keeps (fun k=>F k∨w.heap.size≤k) w (w.alloc (.cells (gcl (List.replicate 2048 0) (List.replicate 8 nd0)).toArray 149)):=Keeps.alloc _ w _
 have hs0:=h.st w _ h.sw (Nat.le_refl _) ((Keeps.alloc (fun _=>False) w (.cells (gcl (List.replicate 2048 0) (List.replicate 8 nd0)).toArray 149)).mono fun _ _ f=>f.elim)
 have HM:=zq h
 have hfl:=h.fl
 have HFL:=zq hfl
 rw[← yif BS] at hrg
 rw[← yif BS] at hs0 hk0
 have BU:∀ w:World,Hid ((Instr.build 149 #[]).run Tryz.prog w=.ok (.agg (gcl (cpK BS 0) (List.replicate 8 nd0)).toArray) w):=fun w=>by rw[yif];exact zq (yim w)
 have BX:=fun w cs=>zq (boxRg w cs)
 have HRG:=zq hrg
 have HK0:=zq hk0
 have HS0:=zq hs0
 have hr0:w.heap.size<(w.alloc (.cells (gcl (cpK BS 0) (List.replicate 8 nd0)).toArray 149)).heap.size:=hrg.lt
 clear h hrg hk0 hs0 hfl
 generalize hG:gcl (cpK BS 0) (List.replicate 8 nd0)=GC at *
 clear hG
 generalize hrr:w.heap.size=r at *
 go_enter Tryz.func96,Tryz.ntmps96
 go_wp2_with (first
  | ((with_reducible refine zd5 (op:=.build 149 #[]) ?_);refine zaj rfl _ (zg8 149 rfl _ (BU _).out) ?_)
  | ((with_reducible refine zd5 (op:=.box 149 (.tmp 10)) ?_);refine zhy rfl 149 _ rfl _ _ rfl (BX _ _).out ?_)
  | fail)
 generalize w.alloc (.cells GC.toArray 149)=w1 at *
 go_loopw [12] (fun i wr=>∃ k:Nat,i=.int .i64 (k:Int)∧k≤32∧RegAt wr r (cpK BS k) (List.replicate 8 nd0)∧S wr∧Keeps (fun k=>F k∨r≤k) w wr) (fun i _=>32-(RowKit.intOf i).toNat)
 case atStart=>exact⟨0,rfl,by omega,HRG.out,HS0.out,HK0.out⟩
 case round =>
  clear HRG HS0 HK0
  obtain⟨k,rfl,hk,hreg,hs,hkp⟩:=hrel
  have hsz:=hkp.size
  by_cases hlt:k<32
  ·have HLD:=zq (HM.out.ld wr.drew k (HM.out.st wr wr.drew hs (by omega) (zac (Below.refl _ wr).drew)) (by show _≤wr.heap.size;omega) hlt)
   have hregd:RegAt wr.drew r (cpK BS k) (List.replicate 8 nd0):=hreg.below (Below.refl _ wr).drew
   have hkd:Keeps (fun k=>F k∨r≤k) w wr.drew:=hkp.trans (zac (Below.refl _ wr).drew)
   have HREG:=zq hregd
   have HKP:=zq hkd
   have HSTEP:=zq (yfe HM.out.bl hlt)
   have HPL:=zq (zbl HM.out.bl hlt)
   have w64:IntKind.i64.wrap ((k:Int)*64)=(k:Int)*64:=by rw[IntKind.wrap_i64];omega
   have w65:IntKind.i64.wrap (6144+(k:Int)*64)=6144+(k:Int)*64:=by rw[IntKind.wrap_i64];omega
   have q1:(0:Int)≤(k:Int):=by omega
   have q2:(k:Int)<32:=by omega
   clear hreg hs hkp hregd hkd
   go_wp2_with fail
   refine wp_region_any (by kernel_rfl) ?_
   change wpAny _ _ _ _ _ _ _ wr.drew
   have hszd:w.heap.size≤wr.drew.heap.size:=hsz
   generalize wr.drew=W at *
   refine wpAny_take (oi:=⟨_,_,_,_,_,_⟩) (i:=0) (v:=.pointer (some ⟨r,0,none⟩)) rfl (by kernel_rfl) (by kernel_rfl) (by kernel_rfl) (fun _ _ _ h=>h) (Or.inl ⟨by rfl,fun _=>rfl⟩) ?_
   simp only[Act.put,sqX]
   refine wpAny_take (oi:=⟨_,_,_,_,_,_⟩) (i:=1) (v:=.int .i64 (k:Int)) rfl (by kernel_rfl) (by kernel_rfl) (by kernel_rfl) (fun _ _ _ h=>h) (Or.inl ⟨by rfl,fun _=>rfl⟩) ?_
   simp only[Act.put,sqX]
   refine wpAny_take (oi:=⟨_,_,_,_,_,_⟩) (i:=2) (v:=.pointer v) rfl (by kernel_rfl) (by kernel_rfl) (by kernel_rfl) (fun _ _ _ h=>h) (Or.inl ⟨by rfl,fun _=>rfl⟩) ?_
   simp only[Act.put,sqX]
   refine wpAny_take (oi:=⟨_,_,_,_,_,_⟩) (i:=3) (v:=.int .i64 (k:Int)) rfl (by kernel_rfl) (by kernel_rfl) (by kernel_rfl) (fun _ _ _ h=>h) (Or.inl ⟨by rfl,fun _=>rfl⟩) ?_
   simp only[Act.put,sqX]
   refine wpAny_take (oi:=⟨_,_,_,_,_,_⟩) (i:=4) (v:=.int .i64 ((k:Int)*64)) rfl (by kernel_rfl) (by kernel_rfl) (by kernel_rfl) (fun _ _ _ h=>h) (Or.inl ⟨by rfl,fun _=>by go_simp⟩) ?_
   simp only[Act.put,sqX]
   refine wpAny_take (oi:=⟨_,_,_,_,_,_⟩) (i:=5) (v:=.int .i64 (6144+(k:Int)*64)) rfl (by kernel_rfl) (by kernel_rfl) (by kernel_rfl) (fun _ _ _ h=>h) (Or.inl ⟨by rfl,fun _=>by go_simp⟩) ?_
   simp only[Act.put,sqX]
   refine wpAny_take (oi:=⟨_,_,_,_,_,_⟩) (i:=9) (v:=.pointer (some ⟨r,0,none⟩)) rfl (by kernel_rfl) (by kernel_rfl) (by kernel_rfl) (fun _ _ _ h=>h) (Or.inl ⟨by rfl,fun _=>rfl⟩) ?_
   simp only[Act.put,sqX]
   refine wpAny_take (oi:=⟨_,_,_,_,_,_⟩) (i:=10) (v:=.pointer (some ⟨r,0,none⟩)) rfl (by kernel_rfl) (by kernel_rfl) (by kernel_rfl) (fun _ _ _ h=>h) (Or.inl ⟨by rfl,fun _=>by go_simp⟩) ?_
   simp only[Act.put,sqX]
   refine zfu [] [6,7,8,11,12] [] [_,_,_,_,_] rfl rfl rfl (by kernel_rfl) ?_
   refine wpStill_nil ?_
   clear w64 w65
   go_wp2_with fail
   refine HLD.out.mono ?_
   rintro e W2 ⟨g,rfl,hbr,hs2,hk2⟩
   have hreg2:RegAt W2 r (cpK BS k) (List.replicate 8 nd0):=HREG.out.keeps hk2 (fun f=>by have:=HFL.out r f;omega) (fun d hd hne=>absurd (by rw[List.eq_of_mem_replicate hd];rfl) hne)
   obtain⟨p1,p2⟩:=hreg2.putBlock hlt (zaw BS k) HPL.out
   rw[HSTEP.out] at p1
   have ST:=zq (zlq (xs:=zaw BS k) HPL.out (hreg2.there (k*64) 64 (by omega)))
   have LD:=zq (yb8 hbr HPL.out)
   have AR:=zq (yis W2 (some ⟨g,0,none⟩) 64 64 (Nat.le_refl _))
   have hs3:=HM.out.st W2 _ hs2 (by have:=hk2.size;omega) (p2.mono fun k _ e=>by show _≤_;rw[e];omega)
   have HR3:=zq p1
   have HS3:=zq hs3
   have HK3:=zq ((HKP.out.trans (hk2.mono fun _ _ f=>.inl f)).trans (p2.mono fun k _ e=>.inr (by rw[e];exact Nat.le_refl _)))
   clear hbr hs2 hk2 hreg2 p1 p2 hs3 HREG HKP HLD HSTEP
   generalize zaw BS k=PB at *
   go_wp2_with (first
    | ((refine at_ (op:=.sliceToArrayPointer 145 (.tmp 21)) ?_);refine zaj rfl _ (ybm 145 (.tmp 21) rfl _ _ rfl AR.out) ?_)
    | ((refine zd5 (op:=.load 145 (.tmp 22)) ?_);refine za9 rfl 145 _ rfl _ _ rfl LD.out ?_)
    | ((refine zd5 (op:=.store 145 (.tmp 26) (.tmp 23)) ?_);refine zaz rfl 145 _ _ rfl _ _ rfl rfl ST.out ?_)
    | fail)
   go_roundw
   case rel=>exact⟨k+1,by go_num,by omega,HR3.out,HS3.out,HK3.out⟩
   case measure=>simp[RowKit.intOf];omega
  ·obtain rfl:k=32:=by omega
   rw[cpK_32 HM.out.bl] at hreg
   have HREG:=zq hreg
   have HS:=zq hs
   have HKP:=zq hkp
   clear hreg hs hkp
   go_wp2_with fail
   go_loopw [28] (fun i W=>∃ (k:Nat) (l:List ND),i=.int .i64 (k:Int)∧k≤8∧RegAt W r BS l∧Hid (∀ j,j<k→at' (zas l) j=zdx (zaw BS (1+j))∧zf7 (zaw BS (1+j))=0)∧S W∧Keeps (fun k=>F k∨r≤k) w W) (fun i _=>8-(RowKit.intOf i).toNat)
   case atStart=>exact⟨0,_,rfl,by omega,HREG.out,fun j hj=>absurd hj (by omega),HS.out,HKP.out⟩
   case round =>
    clear HREG HS HKP hsz
    obtain⟨k,l,rfl,hk,hreg,HDEC,hs,hkp⟩:=hrel
    have hsz:=hkp.size
    by_cases hlt:k<8
    ·have hpl:=zbl hreg.bl (n:=1+k) (by omega)
     have hdec:=zxu (some ⟨r,(1+k)*64,none⟩) (zaw BS (1+k)) 64 wr (hreg.blockBR (n:=1+k) (by omega)) (by omega) (by omega)
     rw[hpl] at hdec
     have HD:=zq hdec
     have HREG:=zq hreg
     have HS:=zq hs
     have HKP:=zq hkp
     have hq1:(0:Int)≤1+(k:Int):=by omega
     have hq2:1+(k:Int)<32:=by omega
     have hq3:(1+(k:Int)).toNat=1+k:=by omega
     clear hpl hdec hreg hs hkp
     go_wp2_with fail
     refine HD.out.mono ?_
     rintro e W2 ⟨R,c,rfl,hx,hb⟩
     have ba:=bA W2 (.cells #[St (zdx (zaw BS (1+k))).name,.int .i64 (zdx (zaw BS (1+k))).size,.slice R (zdx (zaw BS (1+k))).ext.length c] 113)
     have bd:Below (W2.alloc (.cells #[St (zdx (zaw BS (1+k))).name,.int .i64 (zdx (zaw BS (1+k))).size,.slice R (zdx (zaw BS (1+k))).ext.length c] 113)).heap.size (W2.alloc (.cells #[St (zdx (zaw BS (1+k))).name,.int .i64 (zdx (zaw BS (1+k))).size,.slice R (zdx (zaw BS (1+k))).ext.length c] 113)) (W2.alloc (.cells #[St (zdx (zaw BS (1+k))).name,.int .i64 (zdx (zaw BS (1+k))).size,.slice R (zdx (zaw BS (1+k))).ext.length c] 113)).drew:=(Below.refl _ _).drew
     have hreg3:=((HREG.out.below hb).below ba).below bd
     have hx3:BoxN (W2.alloc (.cells #[St (zdx (zaw BS (1+k))).name,.int .i64 (zdx (zaw BS (1+k))).size,.slice R (zdx (zaw BS (1+k))).ext.length c] 113)).drew W2.heap.size ⟨zdx (zaw BS (1+k)),R,c⟩:=heap_alloc_new W2 _
     have hnd:=zzy hreg3 (d:=⟨zdx (zaw BS (1+k)),R,c⟩) (((zgl hx).below ba).below bd)
     obtain⟨p1,p2⟩:=hreg3.putNode hlt ⟨zdx (zaw BS (1+k)),R,c⟩ hnd
     have hk3:=(HKP.out.trans (zac hb)).trans (zac ba)
     have hs3:=HM.out.st wr _ HS.out (by omega) ((zac hb).trans (zac ba))
     have hs4:=HM.out.st _ _ (HM.out.st _ _ hs3 (by have:=hk3.size;omega) (zac bd)) (by have:=hk3.size;have:=bd.size;omega) (p2.mono fun k _ e=>by show _≤_;rw[e];omega)
     have hkF:Keeps F w (W2.alloc (.cells #[St (zdx (zaw BS (1+k))).name,.int .i64 (zdx (zaw BS (1+k))).size,.slice R (zdx (zaw BS (1+k))).ext.length c] 113)):=hk3.mono fun k hk f=>by rcases f with f | f;exact f;omega
     have hn2:∀ j,j<k+1→zf7 (zaw BS (1+k))=0→at' (zas (l.set k ⟨zdx (zaw BS (1+k)),R,c⟩)) j=zdx (zaw BS (1+j))∧zf7 (zaw BS (1+j))=0:=fun j hj h0=>by
      rw[zi5,zcq (by unfold zas;rw[List.length_map,HREG.out.nl]) hlt]
      by_cases e:j=k
      ·rw[zp e,e];exact⟨rfl,h0⟩
      ·rw[zn e];exact HDEC.out j (by omega)
     have hk4:=(hk3.trans (zac bd)).trans (p2.mono (fun k _ e=>.inr (by rw[e];exact Nat.le_refl _):∀ k,_→_→(F k∨r≤k)))
     by_cases hE:zf7 (zaw BS (1+k))=0
     ·have HN2:Hid (∀ j,j<k+1→at' (zas (l.set k ⟨zdx (zaw BS (1+k)),R,c⟩)) j=zdx (zaw BS (1+j))∧zf7 (zaw BS (1+j))=0):=fun j hj=>hn2 j hj hE
      have HR4:=zq p1
      have HS4:=zq hs4
      have HK4:=zq hk4
      have ST:=zq (zr3 (d:=⟨zdx (zaw BS (1+k)),R,c⟩) (hreg3.there (2048+k*3) 3 (by omega)))
      have LD:=zq hx3.load
      rw[hE]
      have q1:(0:Int)≤(k:Int):=by omega
      have q2:(k:Int)<8:=by omega
      clear ba bd hreg3 hx3 hnd p1 p2 hk3 hs3 hs4 hkF hn2 hk4 hE hx hb HD HREG HS HKP hq1 hq2 hq3
      generalize zdx (zaw BS (1+k))=x at *
      generalize zfg (zaw BS (1+k))=ib at *
      go_wp2_with fail
      generalize W2.alloc (.cells #[St x.name,.int .i64 x.size,.slice R x.ext.length c] 113)=W3 at *
      generalize W2.heap.size=xb at *
      refine wp_region_still_tail 6 (by kernel_rfl) (by kernel_rfl) ?_
      simp only[List.take_succ_cons,List.take_zero,List.drop_succ_cons,List.drop_zero]
      change wpStill _ _ W3.drew (fun a'=>wpList _ _ _ _ a' W3.drew) _ _
      generalize W3.drew=W4 at *
      still_step
      still_step
      refine zeq rfl 113 (.tmp 7) rfl _ _ rfl LD.out ?_
      still_step
      still_step
      still_step
      refine wpStill_nil ?_
      clear LD q1 q2
      go_wp2_with (first | ((with_reducible refine zd5 (op:=.store 113 (.tmp 50) (.tmp 47)) ?_);refine zaz rfl 113 _ _ rfl _ _ rfl rfl ST.out ?_) | fail)
      refine⟨⟨_,_,_,_,_,_,_,_,_,_,_,_,_,_,_,_,_,_,_,_,_,_,_,_,_,_,_,_,_,_,?rel,rfl⟩,?measure⟩
      case rel=>exact⟨k+1,_,by go_num,by omega,HR4.out,HN2,HS4.out,HK4.out⟩
      case measure=>simp[RowKit.intOf];omega
     ·have HG:Hid (zpy S F w BS (.returned (.tuple #[.pointer none,.int .i64 120])) (W2.alloc (.cells #[St (zdx (zaw BS (1+k))).name,.int .i64 (zdx (zaw BS (1+k))).size,.slice R (zdx (zaw BS (1+k))).ext.length c] 113))):=⟨hs3,hkF,.inr ⟨fun h=>hE (h.1 k hlt),rfl⟩⟩
      clear ba bd hreg3 hx3 hnd p1 p2 hk3 hs3 hs4 hkF hn2 hk4 hx hb HD HREG HS HKP hq1 hq2 hq3
      generalize zdx (zaw BS (1+k))=x at *
      generalize zfg (zaw BS (1+k))=ib at *
      generalize zf7 (zaw BS (1+k))=E at *
      go_wp2_with fail
      go_ret2
      exact HG.out
    ·obtain rfl:k=8:=by omega
     have hrd:zas l=zaa BS:=ydl hreg.nl fun i hi=>(HDEC.out i hi).1
     have HW:=zq (zst hreg)
     have HREG:=zq hreg
     have HS:=zq hs
     have HKP:=zq hkp
     have HRD:=zq hrd
     clear hreg hs hkp hrd
     go_wp2_with fail
     refine HW.out.mono ?_
     rintro e W2 ⟨b,rfl,hb,hbel⟩
     have hs2:=HM.out.st _ _ HS.out (by omega) (zac hbel)
     have hkF:Keeps F w W2:=(HKP.out.trans (zac hbel)).mono fun k hk f=>by rcases f with f | f;exact f;omega
     have hreg2:=HREG.out.below hbel
     cases b with
     | true =>
      have HG:Hid (zpy S F w BS (.returned (.tuple #[.pointer (some ⟨r,0,none⟩),.int .i64 0])) W2):=⟨hs2,hkF,.inl ⟨⟨fun n hn=>(HDEC.out n hn).2,by rw[← HRD.out];exact hb.1 rfl⟩,r,l,rfl,by omega,hreg2,HRD.out⟩⟩
      clear hb hbel hs2 hkF hreg2 HW HREG HS HKP
      go_wp2_with fail
      go_ret2
      exact HG.out
     | false =>
      have HG:Hid (zpy S F w BS (.returned (.tuple #[.pointer none,.int .i64 120])) W2):=⟨hs2,hkF,.inr ⟨fun h=>absurd (hb.2 (by rw[HRD.out];exact h.2)) (by decide),rfl⟩⟩
      clear hb hbel hs2 hkF hreg2 HW HREG HS HKP
      go_wp2_with fail
      go_ret2
      exact HG.out
end Fs
end Go.Proofs.YtdopfpcjpjlkmaaGreatDoor
