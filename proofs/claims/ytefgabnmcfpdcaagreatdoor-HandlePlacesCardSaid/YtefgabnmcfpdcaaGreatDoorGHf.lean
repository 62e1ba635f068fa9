/- merged -/
import Derived.Test.YtefgabnmcfpdcaaGreatDoorGHe
set_option maxHeartbeats 400000
set_option linter.unusedSimpArgs false
set_option linter.unusedVariables false
namespace Go.Proofs.YtefgabnmcfpdcaaGreatDoor
namespace Fr
open Go.RowKit Ex Ino Mm Fs
structure DV where
 name:List UInt8
 R:Option Addr
 c:Nat
 xs:List UInt8
def dcl (d:DV):List Value:=[St d.name,.slice d.R d.xs.length d.c]
def OwnD (w:World) (B:Nat) (R:Option Addr) (cap:Nat) (l:List DV):Prop:=w.ownsRow B 63 2 (.slice R l.length cap) l.length (l.flatMap dcl)
theorem OwnD.row {w:World} {B:Nat} {R:Option Addr} {cap:Nat} {l:List DV} (h:OwnD w B R cap l)(ad:Addr)(e:R=some ad):ad=⟨ad.block,0,none⟩∧B≤ad.block∧ad.block<w.heap.size:=by
 subst e
 have h1:=World.ownsRow.lt h ad.block rfl
 refine⟨?_,h1.1,h1.2⟩
 rcases h.2 with⟨hn,_⟩|⟨g',cap',cur,e',_⟩
 ·cases hn
 ·injection e' with e1
  injection e1 with e1
  rw[e1]
theorem ydv (l:List DV):∀ (k:Nat) (a:DV),l[k]?=some a→∀ j v,(dcl a)[j]?=some v→(l.flatMap dcl)[k*2+j]?=some v:=by
 induction l with
 | nil=>intro k a h;simp at h
 | cons x r ih =>
  intro k a h j v hv
  have hj:j<2:=by have:=(List.getElem?_eq_some_iff.1 hv).1;simpa [dcl] using this
  rw[List.flatMap_cons]
  cases k with
  | zero =>
   have e:x=a:=by simpa using h
   subst e
   rw[List.getElem?_append_left (by simp[dcl];omega)]
   simpa using hv
  | succ k =>
   rw[List.getElem?_append_right (by simp[dcl];omega),show(k+1)*2+j-(dcl x).length=k*2+j by simp[dcl];omega]
   exact ih k a (by simpa using h) j v hv
theorem OwnD.at_ {w:World} {B:Nat} {R:Option Addr} {cap:Nat} {l:List DV} (h:OwnD w B R cap l){k:Nat} (hk:k<l.length):
  ∃ g,R=some ⟨g,0,none⟩∧w.cell? ⟨g,k*2,none⟩=some (St l[k].name)∧w.cell? ⟨g,k*2+1,none⟩=some (.slice l[k].R l[k].xs.length l[k].c):=by
 obtain⟨g,c,hv,hb,hlt⟩:=World.ownsRow.form h (by omega)
 injection hv with e1 _ e3
 subst e1 e3
 have hat:∀ j v,(dcl l[k])[j]?=some v→w.cell? ⟨g,k*2+j,none⟩=some v:=fun j v hv=>by
  have hj:j<2:=by have:=(List.getElem?_eq_some_iff.1 hv).1;simpa [dcl] using this
  have h1:=World.ownsRow.cellAt h (k*2+j) (by omega)
  rw[h1]
  exact ydv l k l[k] (List.getElem?_eq_getElem hk) j v hv
 exact⟨g,rfl,hat 0 _ rfl,hat 1 _ rfl⟩
theorem OwnD.keeps {w w':World} {F:Nat→Prop} {B:Nat} {R:Option Addr} {cap:Nat} {l:List DV} (h:OwnD w B R cap l)(k:Keeps F w w')(hF:∀ ad,R=some ad→¬F ad.block):OwnD w' B R cap l:=by
 refine⟨h.1,?_⟩
 rcases h.2 with h0 | ⟨g',cap',cur,hv,hB,hgg,rest⟩
 ·exact .inl h0
 ·refine .inr ⟨g',cap',cur,hv,hB,?_,rest⟩
  injection hv with e1
  exact(k.block g' (Array.getElem?_eq_some_iff.1 hgg).1 (hF _ e1)).trans hgg
theorem ya7 {w w':World} {F:Nat→Prop} {A:Option Addr} {xs:List UInt8} (h:BR w w.heap.size A xs)(k:Keeps F w w')(hF:xs≠[]→∀ ad,A=some ad→¬F ad.block):BR w' w'.heap.size A xs:=k.br h fun ad e hn=>hF hn ad e
structure FilR (w:World) (B:Nat) (R:Option Addr) (cap:Nat) (l:List DV):Prop where
 own:OwnD w B R cap l
 ext:∀ d∈l,BR w w.heap.size d.R d.xs
 apart:∀ d∈l,d.xs≠[]→∀ ad,d.R=some ad→B≤ad.block∧R≠some ⟨ad.block,0,none⟩
theorem FilR.nil {w:World} {B:Nat}:FilR w B none 0 []:=⟨World.ownsRow_nil _ _ _ _,fun _ h=>by (cases h),fun _ h=>by (cases h)⟩
theorem FilR.keep {w w':World} {F:Nat→Prop} {B:Nat} {R:Option Addr} {cap:Nat} {l:List DV} (h:FilR w B R cap l)(k:Keeps F w w')(hF:∀ b,B≤b→b<w.heap.size→¬F b):FilR w' B R cap l:=
 ⟨h.own.keeps k fun ad e=>hF _ (h.own.row ad e).2.1 (h.own.row ad e).2.2,fun d hd=>ya7 (h.ext d hd) k fun hn ad e=>by
  obtain⟨ad',e',hb,_⟩:=h.ext d hd hn
  rw[e] at e'
  cases e'
  exact hF _ (h.apart d hd hn ad e).1 hb,h.apart⟩
theorem FilR.low {w:World} {B B':Nat} {R:Option Addr} {cap:Nat} {l:List DV} (h:FilR w B R cap l)(hB:B'≤B):FilR w B' R cap l:=by
 refine⟨⟨h.own.1,?_⟩,h.ext,fun d hd hn ad e=>⟨Nat.le_trans hB (h.apart d hd hn ad e).1,(h.apart d hd hn ad e).2⟩⟩
 rcases h.own.2 with h0 | ⟨g',cap',cur,hv,hb,rest⟩
 ·exact .inl h0
 ·exact .inr ⟨g',cap',cur,hv,Nat.le_trans hB hb,rest⟩
theorem FilR.app {w:World} {B:Nat} {R:Option Addr} {cap:Nat} {l:List DV} (h:FilR w B R cap l)(hB:B≤w.heap.size)(hl:l.length≤1000)(d:DV)(hx:BR w w.heap.size d.R d.xs)
  (ha:d.xs≠[]→∀ ad,d.R=some ad→B≤ad.block∧R≠some ⟨ad.block,0,none⟩):
  ∃ R' cap' w',(Builtin.append_ #[59,59] 59 #[.slice R l.length cap,.slice (some ⟨w.heap.size,0,none⟩) 1 1]).run Tryz.prog (w.alloc (.cells (dcl d).toArray 63))=.ok (.slice R' (l.length+1) cap') w' ∧
   FilR w' B R' cap' (l++[d])∧Keeps (fun k=>R=some ⟨k,0,none⟩) w w'∧(R'=R∨∃ g,R'=some ⟨g,0,none⟩∧w.heap.size<g):=by
 obtain⟨i0,hi,hz0,hz1,hz2⟩:=info_parts Tryz.infoFi
 have k0:Keeps (fun _=>False) w (w.alloc (.cells (dcl d).toArray 63)):=Keeps.alloc _ _ _
 have h2:OwnD (w.alloc (.cells (dcl d).toArray 63)) B R cap l:=h.own.keeps k0 fun _ _ f=>f
 have hnew:(w.alloc (.cells (dcl d).toArray 63)).heap[w.heap.size]?=some (.cells (dcl d).toArray 63 (0,0)):=World.alloc_heap_new w _
 have hc:∀ j u,(dcl d)[j]?=some u→(w.alloc (.cells (dcl d).toArray 63)).cell? ((⟨w.heap.size,0,none⟩:Addr).add j)=some u:=fun j u hu=>by
  have e:(⟨w.heap.size,0,none⟩:Addr).add j=⟨w.heap.size,j,none⟩:=by unfold Addr.add;split<;>simp_all
  rw[e,cell_of_row _ _ _ _ _ _ hnew]
  simpa using hu
 obtain⟨v',w',hrun,hown,hg,_,hb⟩:=run_append_own_at (P:=Tryz.prog) (w.alloc (.cells (dcl d).toArray 63)) B 59 59 63 i0 _ 2 40 Tryz.underlying59 hi hz0 hz1 hz2 rfl (by decide) _ l.length _ h2 ⟨w.heap.size,0,none⟩ 1 1 (dcl d) rfl hc (fun u hu=>by
  simp only[dcl,List.mem_cons,List.not_mem_nil,or_false] at hu
  rcases hu with rfl | rfl<;>rfl) (by unfold maxLen;omega) (by omega) (by rw[World.size_alloc];omega)
 obtain⟨g',cap',rfl,_,hlt'⟩:=World.ownsRow.form hown (by omega)
 have kk:Keeps (fun k=>R=some ⟨k,0,none⟩) w w':=(k0.mono fun _ _ f=>f.elim).trans (Keeps.grown _ hg fun k hk=>by
  cases hR:R with
  | none=>rw[hR] at hk;cases hk
  | some a =>
   rw[hR] at hk
   obtain rfl:a.block=k:=Option.some.inj (show some a.block=some k from hk)
   exact congrArg some (h.own.row a hR).1)
 have hfr:∀ A (ext:List UInt8),BR w w.heap.size A ext→(ext≠[]→∀ ad,A=some ad→R≠some ⟨ad.block,0,none⟩)→ext≠[]→∀ ad,A=some ad→(some ⟨g',0,none⟩:Option Addr)≠some ⟨ad.block,0,none⟩:=fun A ext hxr hne hn ad e he=>by
  injection he with he
  injection he with he
  obtain⟨ad',e',hb',_⟩:=hxr hn
  rw[e] at e'
  cases e'
  rcases hb with hb | hb
  ·have hb2:Value.ownBlock (.slice R l.length cap)=some g':=hb.symm
   cases hR:R with
   | none=>rw[hR] at hb2;cases hb2
   | some a =>
    rw[hR] at hb2
    replace hb2:a.block=g':=Option.some.inj (show some a.block=some g' from hb2)
    exact hne hn ad e (by rw[hR,(h.own.row a hR).1,hb2,he])
  ·injection hb with hb
   change g'=_ at hb
   rw[World.size_alloc] at hb
   omega
 have hmv:(some ⟨g',0,none⟩:Option Addr)=R∨∃ g,(some ⟨g',0,none⟩:Option Addr)=some ⟨g,0,none⟩∧w.heap.size<g:=by
  rcases hb with hb | hb
  ·left
   have hb2:Value.ownBlock (.slice R l.length cap)=some g':=hb.symm
   cases hR:R with
   | none=>rw[hR] at hb2;cases hb2
   | some a =>
    rw[hR] at hb2
    replace hb2:a.block=g':=Option.some.inj (show some a.block=some g' from hb2)
    rw[(h.own.row a hR).1,hb2]
  ·right
   injection hb with hb
   change g'=_ at hb
   rw[World.size_alloc] at hb
   exact⟨g',rfl,by omega⟩
 refine⟨some ⟨g',0,none⟩,cap',w',hrun,⟨?_,fun x hx'=>?_,fun x hx' hn ad e=>?_⟩,kk,hmv⟩
 ·unfold OwnD
  rw[List.length_append,List.flatMap_append]
  simpa using hown
 ·rcases List.mem_append.1 hx' with h1 | h1
  ·exact ya7 (h.ext x h1) kk fun hn ad e=>(h.apart x h1 hn ad e).2
  ·rw[List.mem_singleton.1 h1]
   exact ya7 hx kk fun hn ad e=>(ha hn ad e).2
 ·rcases List.mem_append.1 hx' with h1 | h1
  ·exact⟨(h.apart x h1 hn ad e).1,hfr _ _ (h.ext x h1) (fun hn ad e=>(h.apart x h1 hn ad e).2) hn ad e⟩
  ·rw[List.mem_singleton.1 h1] at hn e
   exact⟨(ha hn ad e).1,hfr _ _ hx (fun hn ad e=>(ha hn ad e).2) hn ad e⟩
end Fr
namespace Fr
open Go.RowKit Ex Ino Mm Fs
variable {w:World} {mi q b c d e:Nat} {M G:List UInt8}
end Fr
namespace Fr
open Go.RowKit Ex Ino Mm Fs
def RowsD (w:World) (R:Option Addr) (l:List DV):Prop:=∀ k,(hk:k<l.length)→∃ g,R=some ⟨g,0,none⟩∧g<w.heap.size∧w.cell? ⟨g,k*2,none⟩=some (St l[k].name)∧w.cell? ⟨g,k*2+1,none⟩=some (.slice l[k].R l[k].xs.length l[k].c)∧BR w w.heap.size l[k].R l[k].xs
theorem RowsD.keep {w w':World} {R:Option Addr} {l:List DV} (h:RowsD w R l)(k:Keeps (fun _=>False) w w'):RowsD w' R l:=fun j hj=>by
 obtain⟨g,e,hg,h1,h2,h3⟩:=h j hj
 exact⟨g,e,Nat.lt_of_lt_of_le hg k.size,(k.cell g _ hg (fun f=>f)).trans h1,(k.cell g _ hg (fun f=>f)).trans h2,k.br h3 fun _ _ _ f=>f⟩
theorem FilR.rows {w:World} {B:Nat} {R:Option Addr} {cap:Nat} {l:List DV} (h:FilR w B R cap l):RowsD w R l:=fun k hk=>by
 obtain⟨g,e,h1,h2⟩:=h.own.at_ hk
 exact⟨g,e,(h.own.row _ e).2.2,h1,h2,h.ext _ (List.getElem_mem hk)⟩
end Fr
namespace Fr
open Go.RowKit Ex Ino Mm Fs
variable {W:World} {p gb mb mi q b c d e:Nat} {G Gd M:List UInt8}
theorem cre_ok {g:RG} (h:RGood g)(name:List UInt8)(he:(zae g name).1=0):RGood (zae g name).2.2:=by
 obtain⟨i,_,_,e,hg⟩:=zl8 h name he
 rw[e];exact hg
end Fr
end Go.Proofs.YtefgabnmcfpdcaaGreatDoor
