/- merged -/
import Derived.Test.YtdopfpcjpjlkmaaGreatDoorInRDecN
import Derived.Test.YtdopfpcjpjlkmaaGreatDoorGFj
set_option maxHeartbeats 400000
set_option linter.unusedSimpArgs false
set_option linter.unusedVariables false
namespace Go.Proofs.YtdopfpcjpjlkmaaGreatDoor
namespace Fr
open Go.RowKit Ex Ino Mm Fs
structure IV where
 x:IN
 R:Option Addr
 c:Nat
def icl (d:IV):List Value:=[St d.x.name,.int .i64 d.x.size,.slice d.R d.x.ext.length d.c]
theorem infoIn:(Tryz.prog.info? 113).map (fun i=>(i.zero,i.size,i.bytes))=some (some (.agg #[.string ⟨#[]⟩,.int .i64 0,.slice none 0 0]),3,48):=by kernel_rfl
def OwnT (w:World) (B:Nat) (R:Option Addr) (cap:Nat) (l:List IV):Prop:=w.ownsRow B 113 3 (.slice R l.length cap) l.length (l.flatMap icl)
theorem OwnT.row {w:World} {B:Nat} {R:Option Addr} {cap:Nat} {l:List IV} (h:OwnT w B R cap l)(ad:Addr)(e:R=some ad):ad=⟨ad.block,0,none⟩∧B≤ad.block∧ad.block<w.heap.size:=by
 subst e
 have h1:=World.ownsRow.lt h ad.block rfl
 refine⟨?_,h1.1,h1.2⟩
 rcases h.2 with⟨hn,_⟩|⟨g',cap',cur,e',_⟩
 ·cases hn
 ·injection e' with e1
  injection e1 with e1
  rw[e1]
theorem ye3 (l:List IV):∀ (k:Nat) (a:IV),l[k]?=some a→∀ j v,(icl a)[j]?=some v→(l.flatMap icl)[k*3+j]?=some v:=by
 induction l with
 | nil=>intro k a h;simp at h
 | cons x r ih =>
  intro k a h j v hv
  have hj:j<3:=by have:=(List.getElem?_eq_some_iff.1 hv).1;simpa [icl] using this
  rw[List.flatMap_cons]
  cases k with
  | zero =>
   have e:x=a:=by simpa using h
   subst e
   rw[List.getElem?_append_left (by simp[icl];omega)]
   simpa using hv
  | succ k =>
   rw[List.getElem?_append_right (by simp[icl];omega),show(k+1)*3+j-(icl x).length=k*3+j by simp[icl];omega]
   exact ih k a (by simpa using h) j v hv
theorem OwnT.at_ {w:World} {B:Nat} {R:Option Addr} {cap:Nat} {l:List IV} (h:OwnT w B R cap l){k:Nat} (hk:k<l.length):
  ∃ g,R=some ⟨g,0,none⟩∧w.cell? ⟨g,k*3,none⟩=some (St l[k].x.name)∧w.cell? ⟨g,k*3+1,none⟩=some (.int .i64 l[k].x.size)∧w.cell? ⟨g,k*3+2,none⟩=some (.slice l[k].R l[k].x.ext.length l[k].c):=by
 obtain⟨g,c,hv,hb,hlt⟩:=World.ownsRow.form h (by omega)
 injection hv with e1 _ e3
 subst e1 e3
 have hat:∀ j v,(icl l[k])[j]?=some v→w.cell? ⟨g,k*3+j,none⟩=some v:=fun j v hv=>by
  have hj:j<3:=by have:=(List.getElem?_eq_some_iff.1 hv).1;simpa [icl] using this
  have h1:=World.ownsRow.cellAt h (k*3+j) (by omega)
  rw[h1]
  exact ye3 l k l[k] (List.getElem?_eq_getElem hk) j v hv
 exact⟨g,rfl,hat 0 _ rfl,hat 1 _ rfl,hat 2 _ rfl⟩
theorem OwnT.keeps {w w':World} {F:Nat→Prop} {B:Nat} {R:Option Addr} {cap:Nat} {l:List IV} (h:OwnT w B R cap l)(k:Keeps F w w')(hF:∀ ad,R=some ad→¬F ad.block):OwnT w' B R cap l:=by
 refine⟨h.1,?_⟩
 rcases h.2 with h0 | ⟨g',cap',cur,hv,hB,hgg,rest⟩
 ·exact .inl h0
 ·refine .inr ⟨g',cap',cur,hv,hB,?_,rest⟩
  injection hv with e1
  exact(k.block g' (Array.getElem?_eq_some_iff.1 hgg).1 (hF _ e1)).trans hgg
theorem zez {w w':World} {F:Nat→Prop} {A:Option Addr} {l:List EX} (h:XR w w.heap.size A l)(k:Keeps F w w')(hF:l≠[]→∀ ad,A=some ad→¬F ad.block):XR w' w'.heap.size A l:=by
 refine⟨fun hn=>?_,h.ok⟩
 obtain⟨ad',e,hb',hc'⟩:=h.ar hn
 refine⟨ad',e,Nat.lt_of_lt_of_le hb' k.size,fun i a ha j v hv=>?_⟩
 refine(World.cell?_of_block (w:=w) (k.block _ ?_ ?_)).trans (hc' i a ha j v hv)
 ·rw[zan,zan];exact hb'
 ·rw[zan,zan];exact hF hn ad' e
structure TabR (w:World) (B:Nat) (R:Option Addr) (cap:Nat) (l:List IV):Prop where
 own:OwnT w B R cap l
 ext:∀ d∈l,XR w w.heap.size d.R d.x.ext
 apart:∀ d∈l,d.x.ext≠[]→∀ ad,d.R=some ad→B≤ad.block∧R≠some ⟨ad.block,0,none⟩
theorem TabR.nil {w:World} {B:Nat}:TabR w B none 0 []:=⟨World.ownsRow_nil _ _ _ _,fun _ h=>by (cases h),fun _ h=>by (cases h)⟩
theorem TabR.keep {w w':World} {F:Nat→Prop} {B:Nat} {R:Option Addr} {cap:Nat} {l:List IV} (h:TabR w B R cap l)(k:Keeps F w w')(hF:∀ b,B≤b→b<w.heap.size→¬F b):TabR w' B R cap l:=
 ⟨h.own.keeps k fun ad e=>hF _ (h.own.row ad e).2.1 (h.own.row ad e).2.2,fun d hd=>zez (h.ext d hd) k fun hn ad e=>by
  obtain⟨ad',e',hb,_⟩:=(h.ext d hd).ar hn
  rw[e] at e'
  cases e'
  exact hF _ (h.apart d hd hn ad e).1 hb,h.apart⟩
theorem TabR.low {w:World} {B B':Nat} {R:Option Addr} {cap:Nat} {l:List IV} (h:TabR w B R cap l)(hB:B'≤B):TabR w B' R cap l:=by
 refine⟨⟨h.own.1,?_⟩,h.ext,fun d hd hn ad e=>⟨Nat.le_trans hB (h.apart d hd hn ad e).1,(h.apart d hd hn ad e).2⟩⟩
 rcases h.own.2 with h0 | ⟨g',cap',cur,hv,hb,rest⟩
 ·exact .inl h0
 ·exact .inr ⟨g',cap',cur,hv,Nat.le_trans hB hb,rest⟩
theorem TabR.app {w:World} {B:Nat} {R:Option Addr} {cap:Nat} {l:List IV} (h:TabR w B R cap l)(hB:B≤w.heap.size)(hl:l.length≤1000)(d:IV)(hx:XR w w.heap.size d.R d.x.ext)
  (ha:d.x.ext≠[]→∀ ad,d.R=some ad→B≤ad.block∧R≠some ⟨ad.block,0,none⟩):
  ∃ R' cap' w',(Builtin.append_ #[130,130] 130 #[.slice R l.length cap,.slice (some ⟨w.heap.size,0,none⟩) 1 1]).run Tryz.prog (w.alloc (.cells (icl d).toArray 113))=.ok (.slice R' (l.length+1) cap') w' ∧
   TabR w' B R' cap' (l++[d])∧Keeps (fun k=>R=some ⟨k,0,none⟩) w w'∧(R'=R∨∃ g,R'=some ⟨g,0,none⟩∧w.heap.size<g):=by
 obtain⟨i0,hi,hz0,hz1,hz2⟩:=info_parts infoIn
 have k0:Keeps (fun _=>False) w (w.alloc (.cells (icl d).toArray 113)):=Keeps.alloc _ _ _
 have h2:OwnT (w.alloc (.cells (icl d).toArray 113)) B R cap l:=h.own.keeps k0 fun _ _ f=>f
 have hnew:(w.alloc (.cells (icl d).toArray 113)).heap[w.heap.size]?=some (.cells (icl d).toArray 113 (0,0)):=World.alloc_heap_new w _
 have hc:∀ j u,(icl d)[j]?=some u→(w.alloc (.cells (icl d).toArray 113)).cell? ((⟨w.heap.size,0,none⟩:Addr).add j)=some u:=fun j u hu=>by
  have e:(⟨w.heap.size,0,none⟩:Addr).add j=⟨w.heap.size,j,none⟩:=by unfold Addr.add;split<;>simp_all
  rw[e,cell_of_row _ _ _ _ _ _ hnew]
  simpa using hu
 obtain⟨v',w',hrun,hown,hg,_,hb⟩:=run_append_own_at (P:=Tryz.prog) (w.alloc (.cells (icl d).toArray 113)) B 130 130 113 i0 _ 3 48 Tryz.underlying130 hi hz0 hz1 hz2 rfl (by decide) _ l.length _ h2 ⟨w.heap.size,0,none⟩ 1 1 (icl d) rfl hc (fun u hu=>by
  simp only[icl,List.mem_cons,List.not_mem_nil,or_false] at hu
  rcases hu with rfl | rfl | rfl<;>rfl) (by unfold maxLen;omega) (by omega) (by rw[World.size_alloc];omega)
 obtain⟨g',cap',rfl,_,hlt'⟩:=World.ownsRow.form hown (by omega)
 have kk:Keeps (fun k=>R=some ⟨k,0,none⟩) w w':=(k0.mono fun _ _ f=>f.elim).trans (Keeps.grown _ hg fun k hk=>by
  cases hR:R with
  | none=>rw[hR] at hk;cases hk
  | some a =>
   rw[hR] at hk
   obtain rfl:a.block=k:=Option.some.inj (show some a.block=some k from hk)
   exact congrArg some (h.own.row a hR).1)
 have hfr:∀ A (ext:List EX),XR w w.heap.size A ext→(ext≠[]→∀ ad,A=some ad→R≠some ⟨ad.block,0,none⟩)→ext≠[]→∀ ad,A=some ad→(some ⟨g',0,none⟩:Option Addr)≠some ⟨ad.block,0,none⟩:=fun A ext hxr hne hn ad e he=>by
  injection he with he
  injection he with he
  obtain⟨ad',e',hb',_⟩:=hxr.ar hn
  rw[e] at e'
  cases e'
  rcases hb with hb | hb
  ·have hb2:Value.ownBlock (.slice R l.length cap)=some g':=hb.symm
   cases hR:R with
   | none=>rw[hR] at hb2;cases hb2
   | some a =>
    rw[hR] at hb2
    replace hb2:a.block=g':=Option.some.inj (show some a.block=some g' from hb2)
    exact hne hn ad e (by rw[hR,(h.own.row a hR).1,hb2,he])
  ·injection hb with hb
   change g'=_ at hb
   rw[World.size_alloc] at hb
   omega
 have hmv:(some ⟨g',0,none⟩:Option Addr)=R∨∃ g,(some ⟨g',0,none⟩:Option Addr)=some ⟨g,0,none⟩∧w.heap.size<g:=by
  rcases hb with hb | hb
  ·left
   have hb2:Value.ownBlock (.slice R l.length cap)=some g':=hb.symm
   cases hR:R with
   | none=>rw[hR] at hb2;cases hb2
   | some a =>
    rw[hR] at hb2
    replace hb2:a.block=g':=Option.some.inj (show some a.block=some g' from hb2)
    rw[(h.own.row a hR).1,hb2]
  ·right
   injection hb with hb
   change g'=_ at hb
   rw[World.size_alloc] at hb
   exact⟨g',rfl,by omega⟩
 refine⟨some ⟨g',0,none⟩,cap',w',hrun,⟨?_,fun x hx'=>?_,fun x hx' hn ad e=>?_⟩,kk,hmv⟩
 ·unfold OwnT
  rw[List.length_append,List.flatMap_append]
  simpa using hown
 ·rcases List.mem_append.1 hx' with h1 | h1
  ·exact zez (h.ext x h1) kk fun hn ad e=>(h.apart x h1 hn ad e).2
  ·rw[List.mem_singleton.1 h1]
   exact zez hx kk fun hn ad e=>(ha hn ad e).2
 ·rcases List.mem_append.1 hx' with h1 | h1
  ·exact⟨(h.apart x h1 hn ad e).1,hfr _ _ (h.ext x h1) (fun hn ad e=>(h.apart x h1 hn ad e).2) hn ad e⟩
  ·rw[List.mem_singleton.1 h1] at hn e
   exact⟨(ha hn ad e).1,hfr _ _ hx (fun hn ad e=>(ha hn ad e).2) hn ad e⟩
theorem zel {w:World} {B:Nat} {R:Option Addr} {cap:Nat} {l:List Nat} (h:OwnI w B R cap l)(ad:Addr)(e:R=some ad):ad=⟨ad.block,0,none⟩∧B≤ad.block∧ad.block<w.heap.size∧∃ cs,w.heap[ad.block]?=some (.cells cs 3 (0,0)):=by
 subst e
 have h1:=World.ownsRow.lt h ad.block rfl
 rcases h.2 with⟨hn,_⟩|⟨g',cap',cur,e',hb,hg,_⟩
 ·cases hn
 ·injection e' with e1
  injection e1 with e1
  subst e1
  exact⟨rfl,h1.1,h1.2,cur,hg⟩
theorem ydo {w:World} {B:Nat} {R:Option Addr} {cap:Nat} {l:List IV} (h:OwnT w B R cap l)(ad:Addr)(e:R=some ad):∃ cs,w.heap[ad.block]?=some (.cells cs 113 (0,0)):=by
 subst e
 rcases h.2 with⟨hn,_⟩|⟨g',cap',cur,e',hb,hg,_⟩
 ·cases hn
 ·injection e' with e1
  injection e1 with e1
  subst e1
  exact⟨cur,hg⟩
theorem zwi {w:World} {B B':Nat} {R R':Option Addr} {cap cap':Nat} {l:List IV} {z:List Nat} (h:OwnT w B R cap l)(h':OwnI w B' R' cap' z)(g:Nat)(e:R=some ⟨g,0,none⟩)(e':R'=some ⟨g,0,none⟩):False:=by
 obtain⟨cs,h1⟩:=ydo h _ e
 obtain⟨_,_,_,cs',h2⟩:=zel h' _ e'
 rw[h1] at h2
 injection h2 with h2
 injection h2 with _ h2
 revert h2
 decide
theorem zf0 {w w':World} {F:Nat→Prop} {B:Nat} {R:Option Addr} {cap:Nat} {l:List Nat} (h:OwnI w B R cap l)(k:Keeps F w w')(hF:∀ ad,R=some ad→¬F ad.block):OwnI w' B R cap l:=by
 refine⟨h.1,?_⟩
 rcases h.2 with h0 | ⟨g',cap',cur,hv,hB,hgg,rest⟩
 ·exact .inl h0
 ·refine .inr ⟨g',cap',cur,hv,hB,?_,rest⟩
  injection hv with e1
  exact(k.block g' (Array.getElem?_eq_some_iff.1 hgg).1 (hF _ e1)).trans hgg
theorem OwnI.appK {w:World} {B:Nat} {R:Option Addr} {cap:Nat} {l:List Nat} (h:OwnI w B R cap l)(hB:B≤w.heap.size)(hl:l.length≤1000)(x:Nat):
  ∃ R' cap' w',(Builtin.append_ #[40,40] 40 #[.slice R l.length cap,.slice (some ⟨w.heap.size,0,none⟩) 1 1]).run Tryz.prog (w.alloc (.cells #[.int .i64 (x:Int)] 3))=.ok (.slice R' (l.length+1) cap') w'∧OwnI w' B R' cap' (l++[x]) ∧
   Keeps (fun k=>R=some ⟨k,0,none⟩) w w'∧(R'=R∨∃ g,R'=some ⟨g,0,none⟩∧w.heap.size<g):=by
 have k0:Keeps (fun _=>False) w (w.alloc (.cells #[.int .i64 (x:Int)] 3)):=Keeps.alloc _ _ _
 have h2:=zf0 h k0 fun _ _ f=>f
 obtain⟨i0,hi,hz0,hz1,hz2⟩:=info_parts Tryz.infoInt
 obtain⟨v',w',hrun,hown,hg,_,hb⟩:=run_append_own_at (P:=Tryz.prog) (w.alloc (.cells #[.int .i64 (x:Int)] 3)) B 40 40 3 i0 (.int .i64 0) 1 8 Tryz.underlying40 hi hz0 hz1 hz2 rfl (by decide) _ l.length _ h2 ⟨w.heap.size,0,none⟩ 1 1 [.int .i64 (x:Int)] rfl (fun j u hu=>by
  match j,hu with
  | 0,hu=>cases hu;exact(Boxed.new w 3 (.int .i64 (x:Int))).cell
  | j+1,hu=>simp at hu) (by intro u hu;simp at hu;subst hu;rfl) (by unfold maxLen;omega) (by omega) (by rw[World.size_alloc];omega)
 obtain⟨g',cap',rfl,_,_⟩:=World.ownsRow.form hown (by omega)
 refine⟨some ⟨g',0,none⟩,cap',w',hrun,?_,?_,?_⟩
 ·unfold OwnI
  rw[List.length_append,List.map_append]
  exact hown
 ·exact(k0.mono fun _ _ f=>f.elim).trans (Keeps.grown _ hg fun k hk=>by
   cases hR:R with
   | none=>rw[hR] at hk;cases hk
   | some a =>
    rw[hR] at hk
    obtain rfl:a.block=k:=Option.some.inj (show some a.block=some k from hk)
    exact congrArg some (zel h a hR).1)
 ·rcases hb with hb | hb
  ·left
   have hb2:Value.ownBlock (.slice R l.length cap)=some g':=hb.symm
   cases hR:R with
   | none=>rw[hR] at hb2;cases hb2
   | some a =>
    rw[hR] at hb2
    replace hb2:a.block=g':=Option.some.inj (show some a.block=some g' from hb2)
    rw[(zel h a hR).1,hb2]
  ·right
   injection hb with hb
   change g'=_ at hb
   rw[World.size_alloc] at hb
   exact⟨g',rfl,by omega⟩
def ApA (Ra Rl:Option Addr) (ls:List IV):Prop:=∀ g,Ra=some ⟨g,0,none⟩→Rl≠some ⟨g,0,none⟩∧∀ d∈ls,d.x.ext≠[]→∀ ad,d.R=some ad→ad.block≠g
theorem TabR.keepI {w w':World} {B:Nat} {Ra R:Option Addr} {cap:Nat} {l:List IV} (h:TabR w B R cap l)(ha:ApA Ra R l)(k:Keeps (fun k=>Ra=some ⟨k,0,none⟩) w w'):TabR w' B R cap l:=
 ⟨h.own.keeps k fun ad e f=>(ha _ f).1 (by rw[e];exact congrArg some (h.own.row ad e).1),fun d hd=>zez (h.ext d hd) k fun hn ad e f=>(ha _ f).2 d hd hn ad e rfl,h.apart⟩
end Fr
namespace Fr
open Go.RowKit Ex Ino Mm Fs
def zm3 (ns:List IN) (n:Nat):Prop:=∀ i j,i<j→j<n→isF (at' ns i)=true→isF (at' ns j)=true→Sep ns i j
theorem yfu (ns:List IN):ztr ns↔zm3 ns 8:=
 ⟨fun h i j hij hj fi fj=>h i j (by omega) hj (by omega) fi fj,fun h i j hi hj hne fi fj=>by
  rcases Nat.lt_or_gt_of_ne hne with hl | hl
  ·exact h i j hl hj fi fj
  ·exact(h j i hl hi fj fi).symm⟩
def zdl (ns:List IN):Nat→List Nat
 | 0=>[]
 | n+1=>zdl ns n++za4 (at' ns n).ext
theorem allTo_mem {ns:List IN} {b:Nat}:∀ {n:Nat},b∈zdl ns n↔∃ i,i<n∧b∈za4 (at' ns i).ext
 | 0=>by simp[zdl]
 | n+1=>by
  unfold zdl
  rw[List.mem_append,allTo_mem]
  constructor
  ·rintro(⟨i,h1,h2⟩ | h)
   ·exact⟨i,by omega,h2⟩
   ·exact⟨n,by omega,h⟩
  ·rintro⟨i,h1,h2⟩
   by_cases e:i=n
   ·subst e;exact .inr h2
   ·exact .inl ⟨i,by omega,h2⟩
def yi3 (ns:List IN):Prop:=∀ i,isF (at' ns i)=false→za4 (at' ns i).ext=[]
theorem zji (bs:List UInt8):yi3 (zaa bs):=fun i h=>by
 by_cases hi:i<8
 ·rw[zbw bs hi] at h ⊢
  rcases zij (zaw bs (1+i)) with e | e
  ·rw[e];rfl
  ·rw[zsu e] at h;cases h
 ·have:at' (zaa bs) i=in0:=by unfold at';rw[List.getD_eq_getElem?_getD,List.getElem?_eq_none (by rw[zbp];omega)];rfl
  rw[this];rfl
theorem zx9 {ns:List IN} {n:Nat} (h:zm3 ns n)(hn:∀ k,k<n→(at' ns n).name≠[]→(at' ns k).name≠(at' ns n).name)(hb:∀ b∈za4 (at' ns n).ext,b ∉ zdl ns n):zm3 ns (n+1):=by
 intro i j hij hj fi fj
 by_cases e:j=n
 ·subst e
  have hne:(at' ns j).name≠[]:=by simpa [isF] using fj
  exact⟨hn i hij hne,fun b h1 h2=>hb b h2 (allTo_mem.2 ⟨i,hij,h1⟩)⟩
 ·exact h i j hij (by omega) fi fj
theorem zya {ns:List IN} {n k:Nat} (hk:k<n)(h0:(at' ns n).name≠[])(he:(at' ns k).name=(at' ns n).name)(hn:n<8):¬ztr ns:=fun h=>by
 refine(h k n (by omega) hn (by omega) ?_ ?_).1 he
 ·simp[isF,he,h0]
 ·simp[isF,h0]
theorem ztm {ns:List IN} (hba:yi3 ns){n b:Nat} (hb:b∈za4 (at' ns n).ext)(ha:b∈zdl ns n)(hn:n<8):¬ztr ns:=fun h=>by
 obtain⟨k,hk,hkb⟩:=allTo_mem.1 ha
 have fi:∀ i,b∈za4 (at' ns i).ext→isF (at' ns i)=true:=fun i hi=>by
  cases hf:isF (at' ns i) with
  | true=>rfl
  | false=>rw[hba i hf] at hi;cases hi
 exact(h k n (by omega) hn (by omega) (fi k hkb) (fi n hb)).2 b hkb hb
theorem zir {ns:List IN} (hba:yi3 ns):zb2 (zdl ns 8)=zao ns:=by
 refine Nat.eq_of_testBit_eq fun b=>?_
 rw[zbv,Bool.eq_iff_iff,decide_eq_true_eq,zer,allTo_mem]
 constructor
 ·rintro⟨i,hi,hb⟩
  refine⟨i,hi,?_,hb⟩
  cases hf:isF (at' ns i) with
  | true=>rfl
  | false=>rw[hba i hf] at hb;cases hb
 ·rintro⟨i,hi,_,hb⟩
  exact⟨i,hi,hb⟩
theorem zic (bs:List UInt8):okR bs↔(∀ n,n<8→zf7 (zaw bs (1+n))=0)∧ztr (zaa bs)∧zaw bs 0=zb7 (zao (zaa bs)):=by
 unfold okR decP zlm
 rw[zmz]
end Fr
end Go.Proofs.YtdopfpcjpjlkmaaGreatDoor
