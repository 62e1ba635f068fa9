/- merged -/
import Derived.Test.YtdopfpcjpjlkmaaGreatDoorGHe
set_option maxHeartbeats 400000
set_option linter.unusedSimpArgs false
set_option linter.unusedVariables false
namespace Go.Proofs.YtdopfpcjpjlkmaaGreatDoor
namespace Fr
open Go.RowKit Ex Ino Mm Fs
structure DV where
 name:List UInt8
 R:Option Addr
 c:Nat
 xs:List UInt8
def dcl (d:DV):List Value:=[St d.name,.slice d.R d.xs.length d.c]
theorem ye4 (l:List DV):∀ (k:Nat) (a:DV),l[k]?=some a→∀ j v,(dcl a)[j]?=some v→(l.flatMap dcl)[k*2+j]?=some v:=by
 induction l with
 | nil=>intro k a h;simp at h
 | cons x r ih =>
  intro k a h j v hv
  have hj:j<2:=by have:=(List.getElem?_eq_some_iff.1 hv).1;simpa [dcl] using this
  rw[List.flatMap_cons]
  cases k with
  | zero =>
   have e:x=a:=by simpa using h
   subst e
   rw[List.getElem?_append_left (by simp[dcl];omega)]
   simpa using hv
  | succ k =>
   rw[List.getElem?_append_right (by simp[dcl];omega),show(k+1)*2+j-(dcl x).length=k*2+j by simp[dcl];omega]
   exact ih k a (by simpa using h) j v hv
theorem yb7 {w w':World} {F:Nat→Prop} {A:Option Addr} {xs:List UInt8} (h:BR w w.heap.size A xs)(k:Keeps F w w')(hF:xs≠[]→∀ ad,A=some ad→¬F ad.block):BR w' w'.heap.size A xs:=k.br h fun ad e hn=>hF hn ad e
end Fr
namespace Fr
open Go.RowKit Ex Ino Mm Fs
variable {w:World} {mi q b c d e:Nat} {M G:List UInt8}
end Fr
namespace Fr
open Go.RowKit Ex Ino Mm Fs
def RowsD (w:World) (R:Option Addr) (l:List DV):Prop:=∀ k,(hk:k<l.length)→∃ g,R=some ⟨g,0,none⟩∧g<w.heap.size∧w.cell? ⟨g,k*2,none⟩=some (St l[k].name)∧w.cell? ⟨g,k*2+1,none⟩=some (.slice l[k].R l[k].xs.length l[k].c)∧BR w w.heap.size l[k].R l[k].xs
theorem RowsD.keep {w w':World} {R:Option Addr} {l:List DV} (h:RowsD w R l)(k:Keeps (fun _=>False) w w'):RowsD w' R l:=fun j hj=>by
 obtain⟨g,e,hg,h1,h2,h3⟩:=h j hj
 exact⟨g,e,Nat.lt_of_lt_of_le hg k.size,(k.cell g _ hg (fun f=>f)).trans h1,(k.cell g _ hg (fun f=>f)).trans h2,k.br h3 fun _ _ _ f=>f⟩
end Fr
namespace Fr
open Go.RowKit Ex Ino Mm Fs
variable {W:World} {p gb mb mi q b c d e:Nat} {G Gd M:List UInt8}
theorem cre_ok {g:RG} (h:RGood g)(name:List UInt8)(he:(zae g name).1=0):RGood (zae g name).2.2:=by
 obtain⟨i,_,_,e,hg⟩:=zik h name he
 rw[e];exact hg
end Fr
end Go.Proofs.YtdopfpcjpjlkmaaGreatDoor
