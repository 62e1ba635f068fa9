/- merged -/
import Derived.Test.YtdopfpcjpjlkmaaGreatDoorMapF
set_option maxHeartbeats 600000
set_option maxRecDepth 100000
set_option linter.unusedVariables false
namespace Go.Proofs.YtdopfpcjpjlkmaaGreatDoor
namespace Mm
open Go.RowKit Go.Maps
theorem Keeps.thru {F F' F'':Nat→Prop} {a b c:World} (h:Keeps F a b)(k:Keeps F' b c)(h1:∀ i,i<a.heap.size→F i→F'' i)(h2:∀ i,i<a.heap.size→F' i→F'' i):Keeps F'' a c:=
 ⟨k.os.trans h.os,k.tape.trans h.tape,k.output.trans h.output,Nat.le_trans h.size k.size,fun i hi hF=>(k.block i (Nat.lt_of_lt_of_le hi h.size) fun f=>hF (h2 i hi f)).trans (h.block i hi fun f=>hF (h1 i hi f))⟩
def zm5:Array Value:=(zs64.map B8).toArray
theorem zm0 (w:World):(Instr.alloc 92 true (.tuple #[])).run Tryz.prog w=.ok (.pointer (some ⟨w.heap.size,0,none⟩)) (w.alloc (.cells zm5 92)):=by kernel_rfl
theorem zym:(Tryz.prog.info? 92).map (·.size)=some 64:=by kernel_rfl
theorem zeroP (w:World):(zeroValue 92).run Tryz.prog w=.ok (ag zs64) w:=by kernel_rfl
theorem loadP {w:World} {b o:Nat} {xs:List UInt8} (hl:xs.length=64)(h:w.rangeAt b o (xs.map B8)):
  (Instr.loadAt 92 (.pointer (some ⟨b,o,none⟩))).run Tryz.prog w=.ok (ag xs) w:=
 run_loadAt_mid w b o 92 (xs.map B8) _ h Tryz.underlying92 rfl (by rw[zym,List.length_map,hl])
theorem storeP {w:World} {b o:Nat} {xs:List UInt8} (hl:xs.length=64)(h:w.there b o 64):
  (Instr.storeAt 92 (.pointer (some ⟨b,o,none⟩)) (ag xs)).run Tryz.prog w=.ok () (w.setCells b o (xs.map B8)):=by
 have:=run_storeAt_mid (P:=Tryz.prog) w b o 92 (xs.map B8).toArray (by simpa [hl] using h) (by rw[zym];simp[hl]) (by
  refine all_oneCell_toArray (fun v hv=>?_)
  simp only[List.mem_map] at hv
  obtain⟨u,_,rfl⟩:=hv
  rfl)
 simpa [ag] using this
theorem boxP (w:World)(xs:List UInt8)(h:xs.length=64):(Instr.box 92 (ag xs)).run Tryz.prog w=.ok (.pointer (some ⟨w.heap.size,0,none⟩)) (w.alloc (.cells (xs.map B8).toArray 92)):=rfl
theorem arrP (w:World)(A:Option Addr)(c:Nat):(Instr.arrayAt 92 (.slice A 64 c)).run Tryz.prog w=.ok (.pointer A) w:=run_arrayAt w 92 5 64 A 64 c Tryz.underlying92 (by omega)
def PgAt (w:World) (b:Nat) (xs:List UInt8):Prop:=w.heap[b]?=some (.cells (xs.map B8).toArray 92 (0,0))
theorem PgAt.new (w:World):PgAt (w.alloc (.cells zm5 92)) w.heap.size zs64:=heap_alloc_new w _
theorem PgAt.put {w:World} {b:Nat} {xs ys:List UInt8} (h:PgAt w b xs)(hx:xs.length=64)(hy:ys.length=64):
  (Instr.storeAt 92 (.pointer (some ⟨b,0,none⟩)) (ag ys)).run Tryz.prog w=.ok () (w.setCells b 0 (ys.map B8))∧PgAt (w.setCells b 0 (ys.map B8)) b ys∧Keeps (·=b) w (w.setCells b 0 (ys.map B8)):=by
 obtain⟨h1,h2⟩:=zej (ys:=ys) 0 h (by omega)
 rw[zfv _ _ (by omega)] at h1
 exact⟨storeP hy (zgb h 0 64 (by omega)),h1,h2⟩
theorem PgAt.get {w:World} {b:Nat} {xs:List UInt8} (h:PgAt w b xs)(hx:xs.length=64):(Instr.loadAt 92 (.pointer (some ⟨b,0,none⟩))).run Tryz.prog w=.ok (ag xs) w:=by
 have:=zib h 0 64
 rw[List.drop_zero,List.take_of_length_le (by omega)] at this
 exact loadP hx this
theorem PgAt.lt {w:World} {b:Nat} {xs:List UInt8} (h:PgAt w b xs):b<w.heap.size:=(Array.getElem?_eq_some_iff.1 h).1
theorem PgAt.keep {w w':World} {b:Nat} {xs:List UInt8} {F:Nat→Prop} (h:PgAt w b xs)(k:Keeps F w w')(hF:¬F b):PgAt w' b xs:=(k.block b h.lt hF).trans h
def zaw (L:List UInt8) (n:Nat):List UInt8:=(L.drop (n*64)).take 64
theorem zek {L:List UInt8} (h:L.length=8192){n:Nat} (hn:n<128):(zaw L n).length=64:=by
 unfold zaw
 rw[List.length_take,List.length_drop,h]
 omega
def zem (gb mb:Nat) (ch:List Bool):List Value:=.pointer none::.slice (some ⟨gb,0,none⟩) 8192 8192::.map (some mb)::ch.map Value.bool
structure PagesOk (f:Nat→Option (List UInt8)) (G M:List UInt8):Prop where
 now:∀ i,i<128→∀ x,f i=some x→x=zaw M i
 was:∀ i,i<128→f i=none→zaw M i=zaw G i
structure MemAt (w:World) (p gb mb:Nat) (G M:List UInt8):Prop where
 gl:G.length=8192
 ml:M.length=8192
 head:∃ ch:List Bool,ch.length=128∧w.heap[p]?=some (.cells (zem gb mb ch).toArray 55 (0,0))
 given:w.heap[gb]?=some (.cells (G.map B8).toArray 5 (0,0))
 map:∃ f,MapF ydn w mb 128 f∧PagesOk f G M
theorem MapF.tight {V:Type} {C:Codec V} {w:World} {mb nn:Nat} {f:Nat→Option V} (h:MapF C w mb nn f):MapF C w mb 128 f:=by
 obtain⟨D,hown,hD⟩:=h
 have h1:=hD.size hown
 have h2:=yaf f
 obtain⟨es,clock,hb,F,hs,rfl⟩:=hown
 have h3:Maps.size (DataW.map ((es.toList.map (WideElems.rg Tryz.prog 3 C.R)).foldr DataW.insert []))=es.size:=length_read es
 exact⟨_,⟨es,clock,hb,F,by omega,rfl⟩,hD⟩
variable {w:World} {p gb mb:Nat} {G M:List UInt8}
theorem MemAt.lt (h:MemAt w p gb mb G M):p<w.heap.size∧gb<w.heap.size∧mb<w.heap.size:=by
 obtain⟨ch,_,hh⟩:=h.head
 obtain⟨f,hf,_⟩:=h.map
 exact⟨(Array.getElem?_eq_some_iff.1 hh).1,(Array.getElem?_eq_some_iff.1 h.given).1,hf.lt⟩
theorem MemAt.keep {w':World} {F:Nat→Prop} (h:MemAt w p gb mb G M)(k:Keeps F w w')(hp:¬F p)(hg:¬F gb)(hm:¬F mb):MemAt w' p gb mb G M:=by
 obtain⟨l1,l2,l3⟩:=h.lt
 obtain⟨ch,hl,hh⟩:=h.head
 obtain⟨f,hf,hok⟩:=h.map
 exact⟨h.gl,h.ml,⟨ch,hl,(k.block p l1 hp).trans hh⟩,(k.block gb l2 hg).trans h.given,⟨f,hf.keeps k hm,hok⟩⟩
theorem MemAt.c (h:MemAt w p gb mb G M):w.cell? ⟨p,0,none⟩=some (.pointer none)∧w.cell? ⟨p,1,none⟩=some (.slice (some ⟨gb,0,none⟩) 8192 8192)∧w.cell? ⟨p,2,none⟩=some (.map (some mb)):=by
 obtain⟨ch,_,hh⟩:=h.head
 refine⟨?_,?_,?_⟩<;>rw[cell_of_row _ _ _ _ _ _ hh]<;>rfl
theorem MemAt.apart (h:MemAt w p gb mb G M):p≠gb∧p≠mb∧gb≠mb:=by
 obtain⟨ch,_,hh⟩:=h.head
 obtain⟨f,⟨D,⟨es,clock,hb,_⟩,_⟩,_⟩:=h.map
 refine⟨?_,?_,?_⟩
 ·intro e
  have h1:=hh
  rw[e,h.given] at h1
  simp only[Option.some.injEq,Obj.cells.injEq] at h1
  exact absurd h1.2.1 (by decide)
 ·intro e
  have h1:=hh
  rw[e,hb] at h1
  cases h1
 ·intro e
  have h1:=h.given
  rw[e,hb] at h1
  cases h1
theorem zuu (h:MemAt w p gb mb G M):Calls Tryz.prog 57 #[.pointer (some ⟨p,0,none⟩)] w fun e w'=>e=.returned (.bool true)∧w=w':=by
 obtain⟨c0,c1,c2⟩:=h.c
 clear h
 have hnm:=fun (w:World)=>run_neq_map_nil (P:=Tryz.prog) w 52 3 92 (some mb) Tryz.underlying52
 go_enter Tryz.func57,Tryz.ntmps57
 go_wp2_with fail
 go_ret
 exact⟨rfl,rfl⟩
theorem ybm {P:Program} {w w':World} {o:Oper} {ρ:Operand→Value} (t:TypeId)(x:Operand)(ho:o.op=.sliceToArrayPointer t x)(p v:Value)(hp:ρ x=p)(hrun:(Instr.arrayAt t p).run P w=.ok v w'):(execOp ρ o).run P w=.ok (.value v) w':=by
 unfold execOp
 simp only[ho,hp,Sem.run_bind,hrun,Result.andThen_ok,Sem.run_pure]
theorem zw5 (h:MemAt w p gb mb G M)(n:Nat)(hn:n<128):Calls Tryz.prog 106 #[.pointer (some ⟨p,0,none⟩),.int .i64 (n:Int)] w fun e w'=>e=.returned (.tuple #[ag (zaw G n),.bool true])∧Keeps (fun _=>False) w w':=by
 obtain⟨c0,c1,c2⟩:=h.c
 have hlt:=h.lt
 have hl:=zek h.gl hn
 have k1:Keeps (fun _=>False) w (w.alloc (.cells zm5 92)):=Keeps.alloc _ _ _
 have g1:(w.alloc (.cells zm5 92)).heap[gb]?=_:=(k1.block gb hlt.2.1 (fun h=>h)).trans h.given
 have AR:=zq (show(Instr.arrayAt 92 (.slice (some ⟨gb,n*64,none⟩) ((n+1)*64-n*64) (8192-n*64))).run Tryz.prog (w.alloc (.cells zm5 92))=.ok (.pointer (some ⟨gb,n*64,none⟩)) (w.alloc (.cells zm5 92)) by
  rw[show(n+1)*64-n*64=64 by omega];exact arrP _ _ _)
 have LD:=zq (loadP hl (zib g1 (n*64) 64))
 obtain⟨s1,s2,s3⟩:=(PgAt.new w).put zeg hl
 have ST:=zq s1
 have P2:=zq s2
 have K2:=zq (Keeps.thru (F'':=fun _=>False) k1 s3 (fun _ _ h=>h) fun _ _ h=>by omega)
 clear s1 s2 s3 k1 g1 h
 have HL:=zq hl
 clear hl
 go_enter Tryz.func106,Tryz.ntmps106
 go_wp2_with (first
   | ((with_reducible refine zd5 (op:=.alloc 92) (d:=some 4) ?_);refine zbr rfl 92 rfl _ (zm0 _) ?_)
   | ((with_reducible refine at_ (op:=.sliceToArrayPointer 92 (.tmp 22)) ?_);refine zaj rfl _ (ybm 92 (.tmp 22) rfl _ _ rfl AR.out) ?_)
   | ((with_reducible refine zd5 (op:=.load 92 (.tmp 23)) ?_);refine za9 rfl 92 _ rfl _ _ rfl LD.out ?_)
   | ((with_reducible refine zd5 (op:=.store 92 (.tmp 4) (.tmp 24)) ?_);refine zaz rfl 92 _ _ rfl _ _ rfl rfl ST.out ?_))
 refine bodyPost_ret (v:=.tuple #[ag (zaw G n),.bool true]) ?_ rfl ⟨rfl,K2.out⟩
 exact zc7 rfl _ _ w.heap.size 92 _ (0,0) _ _ rfl rfl P2.out Tryz.underlying92 rfl (by rw[zym];simp[HL.out])
end Mm
namespace Mm
open Go.RowKit Go.Maps
theorem yce (w:World)(o:Obj):(Instr.alloc 92 true (.tuple #[])).run Tryz.prog (w.alloc o)=.ok (.pointer (some ⟨w.heap.size+1,0,none⟩)) ((w.alloc o).alloc (.cells zm5 92)):=by
 have:=zm0 (w.alloc o)
 rwa [World.size_alloc] at this
theorem put71 {w:World} {mb nn:Nat} {f:Nat→Option (List UInt8)} (h:MapF ydn w mb nn f)(n:Nat)(hn:n<128)(x:List UInt8)(hq:nn<maxLen):
  ∃ w',(Instr.mapUpdate 52 (.map (some mb)) (.int .i64 (n:Int)) (ag x)).run Tryz.prog w=.ok () w'∧MapF ydn w' mb 128 (yc4 f n x)∧Keeps (·=mb) w w'∧w'.heap.size=w.heap.size:=by
 obtain⟨w',h1,h2,h3,h4⟩:=h.put Tryz.underlying52 n hn x hq
 exact⟨w',h1,MapF.tight h2,Keeps.grown _ h3 (fun k e=>by cases e;rfl),h4⟩
def two (w:World):World:=(w.alloc (.cells zm5 92)).alloc (.cells zm5 92)
theorem zp6 (w:World)(xs:List UInt8)(hx:xs.length=64):
  (Instr.storeAt 92 (.pointer (some ⟨w.heap.size+1,0,none⟩)) (ag xs)).run Tryz.prog (two w)=.ok () ((two w).setCells (w.heap.size+1) 0 (xs.map B8)) ∧
   PgAt ((two w).setCells (w.heap.size+1) 0 (xs.map B8)) (w.heap.size+1) xs∧PgAt ((two w).setCells (w.heap.size+1) 0 (xs.map B8)) w.heap.size zs64∧Keeps (fun _=>False) w ((two w).setCells (w.heap.size+1) 0 (xs.map B8)):=by
 have h1:PgAt (two w) (w.heap.size+1) zs64:=heap_alloc2_new w _ _
 have h0:PgAt (two w) w.heap.size zs64:=heap_alloc2_old w _ _
 obtain⟨s1,s2,s3⟩:=h1.put zeg hx
 exact⟨s1,s2,h0.keep s3 (by omega),Keeps.thru ((Keeps.alloc (fun _=>False) w (.cells zm5 92)).trans (Keeps.alloc (fun _=>False) _ (.cells zm5 92))) s3 (fun _ _ h=>h) fun _ _ h=>by omega⟩
variable {w:World} {p gb mb:Nat} {G M:List UInt8}
theorem zo2 (h:MemAt w p gb mb G M)(n:Nat)(hn:n<128):
  Calls Tryz.prog 59 #[.pointer (some ⟨p,0,none⟩),.int .i64 (n:Int)] w fun e w'=>e=.returned (ag (zaw M n))∧MemAt w' p gb mb G M∧Keeps (·=mb) w w':=by
 have hlen:=zek h.ml hn
 have hlt:=h.lt
 have ap:=h.apart
 obtain⟨c0,c1,c2⟩:=h.c
 obtain⟨f,hf,hok⟩:=h.map
 have look:=(hf.keep (w':=w.alloc (.cells zm5 92)) (Below.heap_alloc _ _ _ hf.lt)).look Tryz.underlying52 zs64 (zeroP _) n hn
 change (Instr.lookup _ _ _ _).run _ _=.ok (.tuple #[ag ((f n).getD zs64),.bool (f n).isSome]) _ at look
 cases hl:f n with
 | some x =>
  have e:=hok.now n hn x hl
  rw[hl] at look
  simp only[Option.getD_some,Option.isSome_some] at look
  rw[e] at look
  have LK:=zq look
  have HL:=zq hlen
  obtain⟨s1,s2,s3,s4⟩:=zp6 w (zaw M n) hlen
  obtain⟨t1,t2,t3⟩:=s3.put zeg hlen
  have ST1:=zq s1
  have LD:=zq (s2.get hlen)
  have ST2:=zq t1
  have P2:=zq t2
  have KK:=zq (Keeps.thru (F'':=fun _=>False) s4 t3 (fun _ _ h=>h) fun _ _ h=>by omega)
  have HM:=zq h
  clear look e hl hok hf s1 s2 s3 s4 t1 t2 t3 hlen h
  go_enter Tryz.func59,Tryz.ntmps59
  go_wp2_with (first
   | ((with_reducible refine zd5 (op:=.alloc 92) (d:=some 4) ?_);refine zbr rfl 92 rfl _ (zm0 _) ?_)
   | ((with_reducible refine zd5 (op:=.lookup 52 (.tmp 13) (.tmp 14) true) ?_);refine zft rfl 52 _ _ true rfl _ _ _ rfl rfl LK.out ?_)
   | ((with_reducible refine zd5 (op:=.alloc 92) (d:=some 5) ?_);refine zbr rfl 92 rfl _ (yce _ _) ?_)
   | ((with_reducible refine zd5 (op:=.store 92 (.tmp 5) (.tmp 16)) ?_);refine zaz rfl 92 _ _ rfl _ _ rfl rfl ST1.out ?_)
   | ((with_reducible refine zd5 (op:=.load 92 (.tmp 5)) ?_);refine za9 rfl 92 _ rfl _ _ rfl LD.out ?_)
   | ((with_reducible refine zd5 (op:=.store 92 (.tmp 4) (.tmp 19)) ?_);refine zaz rfl 92 _ _ rfl _ _ rfl rfl ST2.out ?_))
  refine bodyPost_ret (v:=ag (zaw M n)) ?_ rfl ⟨rfl,HM.out.keep KK.out (fun h=>h) (fun h=>h) (fun h=>h),KK.out.mono fun _ _ h=>h.elim⟩
  exact results_cell_row rfl _ _ w.heap.size 92 _ (0,0) _ rfl P2.out Tryz.underlying92 rfl (by rw[zym];simp[HL.out])
 | none =>
  have e:=hok.was n hn hl
  rw[hl] at look
  simp only[Option.getD_none,Option.isSome_none] at look
  have LK:=zq look
  have HL:=zq hlen
  obtain⟨s1,s2,s3,s4⟩:=zp6 w zs64 zeg
  have ST1:=zq s1
  have P3:=zq s3
  have K3:=zq s4
  have h3:=h.keep s4 (fun h=>h) (fun h=>h) (fun h=>h)
  have HF:=zq (hf.keeps s4 (fun h=>h))
  have HO:=zq hok
  have HLF:=zq hl
  have E:=zq e
  have gl:=h.gl
  have ml:=h.ml
  obtain⟨ch,hcl,hhead⟩:=h3.head
  have CH:=zq hhead
  have GV:=zq h3.given
  clear look e hl hok hf s1 s2 s3 s4 hlen h hhead
  go_enter Tryz.func59,Tryz.ntmps59
  go_wp2_with (first
   | ((with_reducible refine zd5 (op:=.alloc 92) (d:=some 4) ?_);refine zbr rfl 92 rfl _ (zm0 _) ?_)
   | ((with_reducible refine zd5 (op:=.lookup 52 (.tmp 13) (.tmp 14) true) ?_);refine zft rfl 52 _ _ true rfl _ _ _ rfl rfl LK.out ?_)
   | ((with_reducible refine zd5 (op:=.alloc 92) (d:=some 5) ?_);refine zbr rfl 92 rfl _ (yce _ _) ?_)
   | ((with_reducible refine zd5 (op:=.store 92 (.tmp 5) (.tmp 16)) ?_);refine zaz rfl 92 _ _ rfl _ _ rfl rfl ST1.out ?_)
   | fail)
  refine(zw5 h3 n hn).mono ?_
  rintro e w4 ⟨rfl,k4⟩
  rw[← E.out]
  have k04:Keeps (fun _=>False) w w4:=K3.out.trans k4
  have p4:PgAt w4 w.heap.size zs64:=P3.out.keep k4 (fun h=>h)
  have b4:w.heap.size<w4.heap.size:=p4.lt
  obtain⟨s1,s2,s3⟩:=(PgAt.new w4).put zeg HL.out
  have kA:Keeps (fun _=>False) w4 (w4.alloc (.cells zm5 92)):=Keeps.alloc _ _ _
  have k46:Keeps (fun _=>False) w4 ((w4.alloc (.cells zm5 92)).setCells w4.heap.size 0 ((zaw M n).map B8)):=Keeps.thru kA s3 (fun _ _ h=>h) fun _ _ h=>by omega
  have k06:=k04.trans k46
  have p6:=p4.keep k46 (fun h=>h)
  have m6:=HF.out.keeps (k4.trans k46) (fun h=>h)
  have ST6:=zq s1
  have P6:=zq s2
  have P6':=zq p6
  have K06:=zq k06
  have M6:=zq m6
  have C6:=zq ((k06.cell p 2 hlt.1 (fun h=>h)).trans c2)
  have CH6:=zq (((k4.trans k46).block p h3.lt.1 (fun h=>h)).trans CH.out)
  have GV6:=zq (((k4.trans k46).block gb h3.lt.2.1 (fun h=>h)).trans GV.out)
  clear s1 s2 s3 k46 k06 p6 m6 P3 K3 HF k4 k04 h3 LK ST1 CH GV kA p4
  generalize (two w).setCells (w.heap.size+1) 0 (List.map B8 zs64)=w3 at *
  generalize hP:zaw M n=x at *
  have HP:=zq hP
  clear hP
  go_wp2_with (first
   | ((with_reducible refine zd5 (op:=.alloc 92) (d:=some 7) ?_);refine zbr rfl 92 rfl _ (zm0 _) ?_)
   | ((with_reducible refine zd5 (op:=.store 92 (.tmp 7) (.tmp 26)) ?_);refine zaz rfl 92 _ _ rfl _ _ rfl rfl ST6.out ?_))
  generalize (w4.alloc (.cells zm5 92)).setCells w4.heap.size 0 (x.map B8)=w6 at *
  have c6:=C6.out
  have LD:=zq ((show PgAt w6.drew w4.heap.size x from P6.out).get HL.out)
  refine wp_region_still_tail 6 (by kernel_rfl) (by kernel_rfl) ?_
  simp only[List.take_succ_cons,List.take_zero,List.drop_succ_cons,List.drop_zero]
  change wpStill _ _ w6.drew (fun a'=>wpList _ _ _ _ a' w6.drew) _ _
  have k67:Keeps (fun _=>False) w6 w6.drew:=Keeps.drew _ _
  have e67:Hid (w6.drew.heap=w6.heap):=rfl
  have c7:w6.drew.cell? ⟨p,2,none⟩=some (.map (some mb)):=c6
  have m7:=M6.out.keeps k67 (fun h=>h)
  have p7:=P6.out.keep k67 (fun h=>h)
  have p7':=P6'.out.keep k67 (fun h=>h)
  generalize w6.drew=w7 at *
  obtain⟨w8,u1,u2,u3,u4⟩:=put71 m7 n hn x (by unfold maxLen;omega)
  have UP:=zq u1
  obtain⟨hl1,hl2,hl3⟩:=hlt
  have p8:=p7.keep u3 (by omega)
  have p8':=p7'.keep u3 (by omega)
  obtain⟨t1,t2,t3⟩:=p8'.put zeg HL.out
  have LD8:=zq (p8.get HL.out)
  have ST8:=zq t1
  have P9:=zq t2
  have m8:MemAt w8 p gb mb G M:=by
   refine⟨gl,ml,⟨ch,hcl,(u3.block p ?_ ap.2.1).trans ((k67.block p ?_ (fun h=>h)).trans CH6.out)⟩,(u3.block gb ?_ ap.2.2).trans ((k67.block gb ?_ (fun h=>h)).trans GV6.out),⟨_,u2,⟨fun i hi y hy=>?_,fun i hi hy=>?_⟩⟩⟩
   ·exact Nat.lt_of_lt_of_le hl1 (Nat.le_trans K06.out.size k67.size)
   ·exact Nat.lt_of_lt_of_le hl1 K06.out.size
   ·exact Nat.lt_of_lt_of_le hl2 (Nat.le_trans K06.out.size k67.size)
   ·exact Nat.lt_of_lt_of_le hl2 K06.out.size
   ·unfold yc4 at hy
    split at hy
    ·rename_i e
     cases hy
     rw[e,HP.out]
    ·exact HO.out.now i hi y hy
   ·unfold yc4 at hy
    split at hy
    ·cases hy
    ·exact HO.out.was i hi hy
  have M9:=zq (m8.keep t3 (by omega) (by omega) (by omega))
  have K9:=zq (Keeps.thru (F'':=fun k=>k=mb) (Keeps.thru (F'':=fun k=>k=mb) (K06.out.trans k67) u3 (fun _ _ h=>h.elim) fun _ _ h=>h) t3 (fun _ _ h=>h) fun _ _ h=>by omega)
  clear u1 m7 t1 t2 t3 p8 p8' m8 u2 u3 p7 p7' M6 CH6 GV6 K06 k67 P6 P6'
  still_step
  still_step
  still_step
  still_step
  still_step
  refine zeq rfl 92 (.tmp 7) rfl _ _ rfl LD.out ?_
  refine wpStill_nil ?_
  simp only[Act.put,sqX]
  refine ze0 rfl 52 _ _ _ rfl _ _ _ rfl rfl rfl UP.out ?_
  go_wp2_with (first
   | ((with_reducible refine zd5 (op:=.load 92 (.tmp 7)) ?_);refine za9 rfl 92 _ rfl _ _ rfl LD8.out ?_)
   | ((with_reducible refine zd5 (op:=.store 92 (.tmp 4) (.tmp 35)) ?_);refine zaz rfl 92 _ _ rfl _ _ rfl rfl ST8.out ?_))
  refine bodyPost_ret (v:=ag x) ?_ rfl ⟨by rw[HP.out],M9.out,K9.out⟩
  exact results_cell_row rfl _ _ w.heap.size 92 _ (0,0) _ rfl P9.out Tryz.underlying92 rfl (by rw[zym];simp[HL.out])
end Mm
namespace Mm
open Go.RowKit Go.Maps
theorem zom:∀ {xs ys:List UInt8},(xs.map fun u=>(u.toNat:Int))=ys.map (fun u=>(u.toNat:Int))↔xs=ys:=by
 intro xs ys
 constructor
 ·intro h
  exact(List.map_inj_right (fun a b e=>UInt8.toNat_inj.1 (Int.ofNat.inj e))).1 h
 ·rintro rfl;rfl
theorem sizeU (w:World):(sizeOf 5).run Tryz.prog w=.ok 1 w:=by kernel_rfl
theorem neqP (w:World)(xs ys:List UInt8)(hx:xs.length=64)(hy:ys.length=64):(binOp .neq 92 (ag xs) (ag ys)).run Tryz.prog w=.ok (.bool (!decide (xs=ys))) w:=by
 have h:=zkk (P:=Tryz.prog) w 92 5 64 .u8 Tryz.underlying92 Tryz.underlying5 sizeU (xs.map fun u=>(u.toNat:Int)) (ys.map fun u=>(u.toNat:Int)) (by simpa using hx) (by simpa using hy)
 rw[List.map_map,List.map_map] at h
 have e:decide ((xs.map fun u=>(u.toNat:Int))=ys.map (fun u=>(u.toNat:Int)))=decide (xs=ys):=by
  rw[decide_eq_decide];exact zom
 rw[e] at h
 exact h
theorem guardP:Tryz.prog.eqGuardType Tryz.prog.depth 92=false:=by kernel_rfl
def zau (M:List UInt8) (n:Nat) (x:List UInt8):List UInt8:=splice M (n*64) x
theorem ze8 {M x:List UInt8} {n:Nat} (hm:M.length=8192)(hx:x.length=64)(hn:n<128):(zau M n x).length=8192:=by
 unfold zau splice
 simp only[List.length_append,List.length_take,List.length_drop]
 omega
theorem getD_splice (M ys:List UInt8)(o k:Nat)(h:o+ys.length≤M.length):(splice M o ys).getD k 0=if k<o then M.getD k 0 else if k<o+ys.length then ys.getD (k-o) 0 else M.getD k 0:=by
 unfold splice
 have hl:(M.take o).length=o:=by rw[List.length_take];omega
 simp only[List.getD_eq_getElem?_getD]
 by_cases h1:k<o
 ·rw[zp h1,List.getElem?_append_left (by omega),List.getElem?_take_of_lt h1]
 ·rw[zn h1,List.getElem?_append_right (by omega),hl]
  by_cases h2:k<o+ys.length
  ·rw[zp h2,List.getElem?_append_left (by omega)]
  ·rw[zn h2,List.getElem?_append_right (by omega),List.getElem?_drop]
   congr 2
   omega
theorem za7 {xs ys:List UInt8} (hl:xs.length=ys.length)(h:∀ k,k<xs.length→xs.getD k 0=ys.getD k 0):xs=ys:=by
 refine List.ext_getElem hl fun k h1 h2=>?_
 have:=h k h1
 simpa [List.getD_eq_getElem?_getD,List.getElem?_eq_getElem h1,List.getElem?_eq_getElem h2] using this
theorem zce (L:List UInt8)(n k:Nat)(hk:k<64):(zaw L n).getD k 0=L.getD (n*64+k) 0:=by
 unfold zaw
 simp only[List.getD_eq_getElem?_getD]
 rw[List.getElem?_take_of_lt hk,List.getElem?_drop]
theorem ydm {M x:List UInt8} {n i:Nat} (hm:M.length=8192)(hx:x.length=64)(hn:n<128)(hi:i<128):zaw (zau M n x) i=if i=n then x else zaw M i:=by
 have hs:=ze8 hm hx hn
 have hl:=zek hs hi
 by_cases e:i=n
 ·subst e
  rw[zp rfl]
  refine za7 (by omega) fun k hk=>?_
  rw[zce _ _ _ (by omega)]
  unfold zau
  rw[getD_splice _ _ _ _ (by omega),zn (by omega),zp (by omega)]
  congr 1
  omega
 ·rw[zn e]
  have hl2:=zek hm hi
  refine za7 (by omega) fun k hk=>?_
  rw[zce _ _ _ (by omega),zce _ _ _ (by omega)]
  unfold zau
  rw[getD_splice _ _ _ _ (by omega)]
  by_cases h1:i*64+k<n*64
  ·rw[zp h1]
  ·rw[zn h1,zn (by omega)]
theorem zqa {M:List UInt8} {n:Nat} (hm:M.length=8192)(hn:n<128):zau M n (zaw M n)=M:=by
 have hp:=zek hm hn
 refine za7 (by rw[ze8 hm hp hn,hm]) fun k hk=>?_
 unfold zau
 rw[getD_splice _ _ _ _ (by omega)]
 split
 ·rfl
 ·split
  ·rw[zce _ _ _ (by omega)]
   congr 1
   omega
  ·rfl
theorem zqu (gb mb:Nat)(ch:List Bool)(n:Nat):(zem gb mb ch).toArray.setIfInBounds (3+n) (.bool true)=(zem gb mb (ch.set n true)).toArray:=by
 rw[List.setIfInBounds_toArray,Nat.add_comm 3 n]
 simp[zem,List.map_set]
variable {w:World} {p gb mb:Nat} {G M:List UInt8}
theorem yhn (h:MemAt w p gb mb G M)(n:Nat)(hn:n<128)(x:List UInt8)(hx:x.length=64):
  Calls Tryz.prog 60 #[.pointer (some ⟨p,0,none⟩),.int .i64 (n:Int),ag x] w fun e w'=>e=.returned (.tuple #[])∧MemAt w' p gb mb G (zau M n x)∧Keeps (fun k=>k=p∨k=mb) w w':=by
 have hlt:=h.lt
 have ap:=h.apart
 have k1:Keeps (fun _=>False) w (w.alloc (.cells (x.map B8).toArray 92)):=Keeps.alloc _ _ _
 have h1:=h.keep k1 (fun h=>h) (fun h=>h) (fun h=>h)
 have p1:PgAt (w.alloc (.cells (x.map B8).toArray 92)) w.heap.size x:=heap_alloc_new w _
 go_enter Tryz.func60,Tryz.ntmps60
 go_wp2_with ((with_reducible refine at_ (op:=.box 92 (.tmp 2)) ?_);refine zaj rfl _ (ybl 92 (.tmp 2) rfl _ _ rfl (boxP _ x hx)) ?_)
 refine wp_region_held (S:=fun W=>PgAt W w.heap.size x) (by kernel_rfl) ?_
 change wpAnyH _ _ _ _ _ _ _ _ (w.alloc (.cells (x.map B8).toArray 92)).drew
 have k2:Keeps (fun _=>False) w (w.alloc (.cells (x.map B8).toArray 92)).drew:=k1.trans (Keeps.drew _ _)
 have h2:=h.keep k2 (fun h=>h) (fun h=>h) (fun h=>h)
 have hS:PgAt (w.alloc (.cells (x.map B8).toArray 92)).drew w.heap.size x:=p1
 clear k1 h1 p1
 generalize (w.alloc (.cells (x.map B8).toArray 92)).drew=w1 at *
 simp only[Act.put,sqX]
 refine sqH 0 (ag x) rfl (zai rfl 92 (.tmp 5) rfl _ _ rfl fun W (h:PgAt W w.heap.size x)=>h.get hx) hS ?_
 simp only[Act.put,sqX]
 refine sqH 1 (.pointer (some ⟨p,0,none⟩)) rfl (Or.inl ⟨by rfl,fun _ _=>rfl⟩) hS ?_
 simp only[Act.put,sqX]
 refine sqH 2 (.int .i64 (n:Int)) rfl (Or.inl ⟨by rfl,fun _ _=>rfl⟩) hS ?_
 simp only[Act.put,sqX]
 refine wpAnyH_all (rs:=[3]) (by kernel_rfl) (by simp) fun i hmem=>?_
 obtain rfl:i=3:=by simpa using hmem
 refine zbf (om:=⟨_,_,_,_,_,_⟩) (fn:=59) (args:=#[.pointer (some ⟨p,0,none⟩),.int .i64 (n:Int)]) (R:=fun u w'=>u=ag (zaw M n)∧MemAt w' p gb mb G M∧Keeps (·=mb) w1 w') rfl rfl (by go_simp)
  ((zo2 h2 n hn).mono fun e w' ⟨he,h1,h2⟩=>⟨_,he,rfl,h1,h2⟩) _ _ rfl rfl ?_
 rintro u w2 ⟨rfl,h3,k3⟩
 have hS2:PgAt w2 w.heap.size x:=hS.keep k3 (by omega)
 refine⟨hS2,?_⟩
 clear hmem
 have hpl:=zek h.ml hn
 have NE:=zq (neqP · x (zaw M n) hx hpl)
 have K02:=zq (Keeps.thru (F'':=fun k=>k=mb) k2 k3 (fun _ _ h=>h.elim) fun _ _ h=>h)
 have H3:=zq h3
 have HS2:=zq hS2
 have HX:=zq hx
 have HS:=zq (zqa h.ml hn)
 have ML:=zq h.ml
 have HPG:=zq (fun i (hi:i<128)=>ydm h.ml hx hn hi)
 have HSL:=zq (ze8 h.ml hx hn)
 clear h h2 hS k2 k3 hx hpl
 simp only[Act.put,sqX]
 refine sqH 4 (.bool (!decide (x=zaw M n))) rfl (Or.inl ⟨by rfl,fun _ _=>?_⟩) hS2 ?_
 ·exact zhr .neq 92 92 (.tmp 6) (.tmp 9) rfl (x.map B8).toArray ((zaw M n).map B8).toArray _ rfl rfl guardP (NE.out _)
 simp only[Act.put,sqX]
 refine wpAnyH_done (by kernel_rfl) ?_ _
 by_cases he:x=zaw M n
 ·have hd:(!decide (x=zaw M n))=false:=by simp[he]
  rw[hd]
  have E:=zq he
  clear hd he NE
  go_wp2_with fail
  go_end0
  refine⟨rfl,?_,K02.out.mono fun _ _ h=>Or.inr h⟩
  rw[E.out,HS.out]
  exact H3.out
 ·have hd:(!decide (x=zaw M n))=true:=by simp[he]
  rw[hd]
  obtain⟨c0,c1,c2⟩:=H3.out.c
  have c3:w2.drew.cell? ⟨p,2,none⟩=some (.map (some mb)):=c2
  obtain⟨f,hf,hok⟩:=H3.out.map
  have HO:=zq hok
  have HF:=zq hf
  have LD:=zq ((show PgAt w2.drew w.heap.size x from hS2).get HX.out)
  clear hd he NE hS2 hf hok c0 c1 c2
  go_wp2_with fail
  refine wp_region_still_tail 6 (by kernel_rfl) (by kernel_rfl) ?_
  simp only[List.take_succ_cons,List.take_zero,List.drop_succ_cons,List.drop_zero]
  change wpStill _ _ w2.drew (fun a'=>wpList _ _ _ _ a' w2.drew) _ _
  have k23:Keeps (fun _=>False) w2 w2.drew:=Keeps.drew _ _
  have h3:=H3.out.keep k23 (fun h=>h) (fun h=>h) (fun h=>h)
  have m3:=HF.out.keeps k23 (fun h=>h)
  generalize w2.drew=w3 at *
  obtain⟨w4,u1,u2,u3,u4⟩:=put71 m3 n hn x (by unfold maxLen;omega)
  have UP:=zq u1
  clear u1
  still_step
  still_step
  still_step
  still_step
  still_step
  refine zeq rfl 92 (.tmp 5) rfl _ _ rfl LD.out ?_
  refine wpStill_nil ?_
  simp only[Act.put,sqX]
  refine ze0 rfl 52 _ _ _ rfl _ _ _ rfl rfl rfl UP.out ?_
  obtain⟨ch,hcl,hh⟩:=h3.head
  have hh4:w4.heap[p]?=some (.cells (zem gb mb ch).toArray 55 (0,0)):=(u3.block p h3.lt.1 ap.2.1).trans hh
  have d4:w4.cell? ⟨p,3+n,none⟩=some (.bool (ch.getD n false)):=by
   rw[cell_of_row _ _ _ _ _ _ hh4]
   simp[zem,Nat.add_comm 3 n,hcl,hn]
  have f4:w4.frozen? ⟨p,3+n,none⟩=false:=frozen_of_row w4 p _ _ _ hh4
  clear c3
  go_wp2_with fail
  go_end0
  have hl4:=h3.lt
  refine⟨rfl,⟨h3.gl,HSL.out,⟨ch.set n true,by simpa using hcl,?_⟩,?_,⟨_,u2.setCell _ _ (fun e=>ap.2.1 e.symm),⟨fun i hi y hy=>?_,fun i hi hy=>?_⟩⟩⟩,?_⟩
  ·rw[heap_setCell_same w4 p (3+n) _ _ _ hh4,zqu]
  ·rw[Below.heap_setCell _ _ _ _ (fun e=>ap.1 e.symm)]
   exact(u3.block gb hl4.2.1 ap.2.2).trans h3.given
  ·rw[HPG.out i hi]
   unfold yc4 at hy
   split at hy
   ·rename_i e
    cases hy
    rw[zp e]
   ·rename_i e
    rw[zn e]
    exact HO.out.now i hi y hy
  ·rw[HPG.out i hi]
   unfold yc4 at hy
   split at hy
   ·cases hy
   ·rename_i e
    rw[zn e]
    exact HO.out.was i hi hy
  ·exact Keeps.thru (Keeps.thru (F'':=fun k=>k=mb) K02.out (Keeps.thru (F'':=fun k=>k=mb) k23 u3 (fun _ _ h=>h.elim) fun _ _ h=>h) (fun _ _ h=>h) fun _ _ h=>h) (Keeps.setCell (fun k=>k=p) _ _ _ rfl) (fun _ _ h=>Or.inr h) fun _ _ h=>Or.inl h
end Mm
namespace Mm
open Go.RowKit
def zf2 (M:List UInt8) (a:Int) (c:Nat) (t:Int):List UInt8:=(List.range c).map fun (i:Nat)=>if a+i<t then byt M (a+i) else 0
def zj6 (M:List UInt8) (a:Int) (c:Nat):List UInt8:=(List.range c).map fun (i:Nat)=>byt M (a+i)
theorem zcj (M:List UInt8)(a:Int)(c:Nat)(t:Int):(zf2 M a c t).length=c:=by simp[zf2]
theorem zda (M:List UInt8)(a:Int)(c:Nat):(zj6 M a c).length=c:=by simp[zj6]
theorem zee (M:List UInt8)(a:Int)(c:Nat)(t:Int)(k:Nat)(hk:k<c):(zf2 M a c t).getD k 0=if a+k<t then byt M (a+k) else 0:=by
 simp[zf2,List.getD_eq_getElem?_getD,hk]
theorem zdj (M:List UInt8)(a:Int)(c:Nat)(k:Nat)(hk:k<c):(zj6 M a c).getD k 0=byt M (a+k):=by
 simp[zj6,List.getD_eq_getElem?_getD,hk]
theorem zgk (M:List UInt8)(a:Int)(c:Nat)(t:Int)(h:t≤a∨t≤0):zf2 M a c t=List.replicate c 0:=by
 refine za7 (by rw[zcj,List.length_replicate]) fun k hk=>?_
 rw[zcj] at hk
 rw[zee _ _ _ _ _ hk]
 have e:(List.replicate c (0:UInt8)).getD k 0=0:=by simp[List.getD_eq_getElem?_getD,hk]
 rw[e]
 split
 ·exact zff _ _ (by omega)
 ·rfl
theorem zns (M:List UInt8)(hm:M.length=8192)(a:Int)(c:Nat)(t:Int)(h:a+c≤t∨8192≤t):zf2 M a c t=zj6 M a c:=by
 refine za7 (by rw[zcj,zda]) fun k hk=>?_
 rw[zcj] at hk
 rw[zee _ _ _ _ _ hk,zdj _ _ _ _ hk]
 split
 ·rfl
 ·exact(zff _ _ (by omega)).symm
theorem znt (M:List UInt8)(hm:M.length=8192)(a:Int)(c:Nat)(h:a+c≤0∨8192≤a):zj6 M a c=List.replicate c 0:=by
 refine za7 (by rw[zda,List.length_replicate]) fun k hk=>?_
 rw[zda] at hk
 rw[zdj _ _ _ _ hk]
 have e:(List.replicate c (0:UInt8)).getD k 0=0:=by simp[List.getD_eq_getElem?_getD,hk]
 rw[e]
 exact zff _ _ (by omega)
theorem zw7 (M:List UInt8)(hm:M.length=8192)(a:Int)(c t k:Nat)(h0:a≤t)(h1:t+k≤a+c)(h2:t % 64+k≤64)(h3:t<8192):
  splice (zf2 M a c t) (t-a).toNat (((zaw M (t / 64)).drop (t % 64)).take k)=zf2 M a c (t+k:Nat):=by
 have hp:=zek hm (n:=t / 64) (by omega)
 have hl:(((zaw M (t / 64)).drop (t % 64)).take k).length=k:=by rw[List.length_take,List.length_drop,hp];omega
 have hs:(splice (zf2 M a c t) (t-a).toNat (((zaw M (t / 64)).drop (t % 64)).take k)).length=c:=by
  unfold splice
  simp only[List.length_append,hl,List.length_take,List.length_drop,zcj]
  omega
 refine za7 (by rw[zcj,hs]) fun i hi=>?_
 rw[hs] at hi
 rw[getD_splice _ _ _ _ (by rw[hl,zcj];omega),hl,zee _ _ _ _ _ hi,zee _ _ _ _ _ hi]
 by_cases c1:i<(t-a).toNat
 ·rw[zp c1,zp (by omega),zp (by omega)]
 ·rw[zn c1]
  by_cases c2:i<(t-a).toNat+k
  ·rw[zp c2,zp (by omega),zcl _ _ (by omega)]
   have e:(((zaw M (t / 64)).drop (t % 64)).take k).getD (i-(t-a).toNat) 0=(zaw M (t / 64)).getD (t % 64+(i-(t-a).toNat)) 0:=by
    simp only[List.getD_eq_getElem?_getD]
    rw[List.getElem?_take_of_lt (by omega),List.getElem?_drop]
   rw[e,zce _ _ _ (by omega)]
   congr 1
   omega
  ·rw[zn c2,zn (by omega),zn (by omega)]
def zkt (M:List UInt8) (a:Int) (xs:List UInt8) (t:Int):List UInt8:=(List.range M.length).map fun (i:Nat)=>if a≤i∧(i:Int)<t∧(i:Int)<a+xs.length then byt xs (i-a) else M.getD i 0
def zbx (M:List UInt8) (a:Int) (xs:List UInt8):List UInt8:=(List.range M.length).map fun (i:Nat)=>if a≤i∧(i:Int)<a+xs.length then byt xs (i-a) else M.getD i 0
theorem zcs (M:List UInt8)(a:Int)(xs:List UInt8)(t:Int):(zkt M a xs t).length=M.length:=by simp[zkt]
theorem zbd (M:List UInt8)(a:Int)(xs:List UInt8):(zbx M a xs).length=M.length:=by simp[zbx]
theorem zdc (M:List UInt8)(a:Int)(xs:List UInt8)(t:Int)(k:Nat)(hk:k<M.length):(zkt M a xs t).getD k 0=if a≤k∧(k:Int)<t∧(k:Int)<a+xs.length then byt xs (k-a) else M.getD k 0:=by
 simp[zkt,List.getD_eq_getElem?_getD,hk]
theorem zbs (M:List UInt8)(a:Int)(xs:List UInt8)(k:Nat)(hk:k<M.length):(zbx M a xs).getD k 0=if a≤k∧(k:Int)<a+xs.length then byt xs (k-a) else M.getD k 0:=by
 simp[zbx,List.getD_eq_getElem?_getD,hk]
theorem zhn (M:List UInt8)(a:Int)(xs:List UInt8)(t:Int)(h:t≤a∨t≤0):zkt M a xs t=M:=by
 refine za7 (zcs _ _ _ _) fun k hk=>?_
 rw[zcs] at hk
 rw[zdc _ _ _ _ _ hk,zn (by omega)]
theorem yae (M:List UInt8)(hm:M.length=8192)(a:Int)(xs:List UInt8)(t:Int)(h:a+xs.length≤t∨8192≤t):zkt M a xs t=zbx M a xs:=by
 refine za7 (by rw[zcs,zbd]) fun k hk=>?_
 rw[zcs] at hk
 rw[zdc _ _ _ _ _ hk,zbs _ _ _ _ hk]
 by_cases c:a≤k∧(k:Int)<a+xs.length
 ·rw[zp c,zp (by omega)]
 ·rw[zn c,zn (by omega)]
theorem zq2 (M:List UInt8)(hm:M.length=8192)(a:Int)(xs:List UInt8)(h:a+xs.length≤0∨8192≤a):zbx M a xs=M:=by
 refine za7 (zbd _ _ _) fun k hk=>?_
 rw[zbd] at hk
 rw[zbs _ _ _ _ hk,zn (by omega)]
theorem yad (M:List UInt8)(hm:M.length=8192)(a:Int)(xs:List UInt8)(t k:Nat)(h0:a≤t)(h1:t+k≤a+xs.length)(h2:t % 64+k≤64)(h3:t<8192):
  zau (zkt M a xs t) (t / 64) (splice (zaw (zkt M a xs t) (t / 64)) (t % 64) ((xs.drop (t-a).toNat).take k))=zkt M a xs (t+k:Nat):=by
 have hL:(zkt M a xs t).length=8192:=by rw[zcs,hm]
 have hp:=zek hL (n:=t / 64) (by omega)
 have hl:((xs.drop (t-a).toNat).take k).length=k:=by rw[List.length_take,List.length_drop];omega
 have hsp:(splice (zaw (zkt M a xs t) (t / 64)) (t % 64) ((xs.drop (t-a).toNat).take k)).length=64:=by
  unfold splice
  simp only[List.length_append,hl,List.length_take,List.length_drop,hp]
  omega
 refine za7 (by rw[ze8 hL hsp (by omega),zcs,hm]) fun i hi=>?_
 rw[ze8 hL hsp (by omega)] at hi
 unfold zau
 rw[getD_splice _ _ _ _ (by omega),hsp,zdc _ _ _ _ _ (by omega),zdc _ _ _ _ _ (by omega)]
 by_cases c1:i<t / 64*64
 ·rw[zp c1]
  by_cases c:a≤i∧(i:Int)<t∧(i:Int)<a+xs.length
  ·rw[zp c,zp (by omega)]
  ·rw[zn c,zn (by omega)]
 ·rw[zn c1]
  by_cases c2:i<t / 64*64+64
  ·rw[zp c2,getD_splice _ _ _ _ (by rw[hl,hp];omega),hl]
   by_cases c3:i-t / 64*64<t % 64
   ·rw[zp c3,zce _ _ _ (by omega),zdc _ _ _ _ _ (by omega)]
    have e:t / 64*64+(i-t / 64*64)=i:=by omega
    rw[e]
    by_cases c:a≤i∧(i:Int)<t∧(i:Int)<a+xs.length
    ·rw[zp c,zp (by omega)]
    ·rw[zn c,zn (by omega)]
   ·rw[zn c3]
    by_cases c4:i-t / 64*64<t % 64+k
    ·rw[zp c4,zp (by omega),zcl _ _ (by omega)]
     simp only[List.getD_eq_getElem?_getD]
     rw[List.getElem?_take_of_lt (by omega),List.getElem?_drop]
     congr 2
     omega
    ·rw[zn c4,zce _ _ _ (by omega),zdc _ _ _ _ _ (by omega)]
     have e:t / 64*64+(i-t / 64*64)=i:=by omega
     rw[e]
     by_cases c:a≤i∧(i:Int)<t∧(i:Int)<a+xs.length
     ·omega
     ·rw[zn c,zn (by omega)]
  ·rw[zn c2]
   by_cases c:a≤i∧(i:Int)<t∧(i:Int)<a+xs.length
   ·omega
   ·rw[zn c,zn (by omega)]
def inX (a:Int):Int:=if 0 > a then 0 else a
def inY (a n:Int):Int:=if 8192<wrap64 (a+n) then 8192 else wrap64 (a+n)
theorem ygd (a:Int):0≤inX a∧a≤inX a:=by unfold inX;split<;>omega
theorem yge (a:Int):inX a=a∨(inX a=0∧a<0):=by unfold inX;split<;>omega
theorem ygc (a n:Int):inY a n≤8192:=by unfold inY;split<;>omega
theorem ygb {a n:Int} (ha:-9223372036854775808≤a)(hn:0≤n)(h:a+n≤9223372036854775807):inY a n≤a+n∧(inY a n=a+n∨inY a n=8192):=by
 have e:wrap64 (a+n)=a+n:=by unfold wrap64;omega
 unfold inY
 rw[e]
 split<;>omega
theorem in_no {a n:Int} (ha:a≤9223372036854775807)(hn:n≤1000000000000000)(h:9223372036854775807<a+n):inY a n<0:=by
 have e:wrap64 (a+n)=a+n-18446744073709551616:=by unfold wrap64;omega
 unfold inY
 rw[e]
 split<;>omega
end Mm
namespace Mm
open Go.RowKit Go.Maps
theorem zma (a n:Int)(w:World):Calls Tryz.prog 58 #[.int .i64 a,.int .i64 n] w fun e w'=>e=.returned (.tuple #[.int .i64 (inX a),.int .i64 (inY a n)])∧w=w':=by
 unfold inX inY
 go_enter Tryz.func58,Tryz.ntmps58
 go_wp2_with fail
 all_goals
  go_ret2
  exact⟨rfl,rfl⟩
theorem zis:(Tryz.prog.info? 5).map (·.size)=some 1:=by kernel_rfl
theorem zhg {P:Program} (w:World)(dT sT ty elem t:TypeId)(hu:P.underlying dT=some (.slice elem))(hsz:(P.info? elem).map (·.size)=some 1)
  (g off dLen dCap:Nat) (zs ys:List UInt8) (ad:Addr) (sl c:Nat) (hr:Row8 w g t zs) (hy:BR w w.heap.size (some ad) ys) (hle:ys.length=min sl dLen) (hfit:off+ys.length≤zs.length) (hn:ys≠[]):
  ∃ w',(Builtin.copy_ #[dT,sT] ty #[.slice (some ⟨g,off,none⟩) dLen dCap,.slice (some ad) sl c]).run P w=.ok (.int .i64 (ys.length:Int)) w'∧Row8 w' g t (splice zs off ys)∧w.grownBy w' (some g):=by
 obtain⟨ad',e,_,hc⟩:=hy hn
 cases e
 have hrun:=run_copy_row (P:=P) w dT sT ty elem g off dLen dCap ad sl c _ t (ys.map B8) hu hsz hr.block (by rw[List.length_map];omega) (fun j v hj=>by
  simp only[List.getElem?_map,Option.map_eq_some_iff] at hj
  obtain⟨u,hu,rfl⟩:=hj
  exact hc j u hu) (by simpa using hfit) (by
  intro v hv
  simp only[List.mem_map] at hv
  obtain⟨u,_,rfl⟩:=hv
  rfl)
 rw[List.length_map] at hrun
 refine⟨_,hrun,?_,⟨rfl,rfl,rfl,by simp,fun k _ hne=>setRow_other w g k _ (fun e=>hne (by rw[e]))⟩⟩
 refine Row8.of_block ((setRow_heap w g _ _ t _ hr.block).trans ?_)
 simp[splice,List.map_take,List.map_drop]
theorem zcg {P:Program} {w w':World} {ops:Array Oper} {rest:List Oper} {o:Oper} {a:Act} {Q:Exit→Act→World→Prop} (hgd:o.guard=none)(s x:Operand)(t t':TypeId)
  (ho:o.op=.call { callee:=.builtin .copy,args:=#[s,x],argTypes:=#[t,t'] }) (v:Value)
  (hrun:(Builtin.copy_ #[t,t'] o.type #[a.eval s,a.eval x]).run P w=.ok v w') (h:wpList P ops Q rest (a.put o.dst v) w'):wpList P ops Q (o::rest) a w:=
 wpList_plain hgd fun _ hK=>by
  unfold Oper.wp execOp
  simp only[ho,resolve,invoke,builtin,Sem.run_bind,Sem.run_pure,Result.andThen_ok,List.map_toArray,List.map_cons,List.map_nil,hrun]
  exact hK _ _ h
theorem PgAt.br {w:World} {b:Nat} {xs:List UInt8} (h:PgAt w b xs)(hx:xs.length=64)(r k:Nat)(hk:r+k≤64):BR w w.heap.size (some ⟨b,r,none⟩) ((xs.drop r).take k):=yfp h r k
theorem ztl:Tryz.prog.arrayLen 92=64:=by kernel_rfl
theorem elemP:Tryz.prog.elem 92=5:=by kernel_rfl
theorem yf1 (w:World)(b r:Nat)(hr:r<64):(Instr.sliceAt 92 (.pointer (some ⟨b,0,none⟩)) (some (.int .i64 (r:Int))) none none).run Tryz.prog w=.ok (.slice (some ⟨b,r,none⟩) (64-r) (64-r)) w:=by
 rw[run_sliceAt_array_l w 92 ⟨b,0,none⟩ (by rw[ztl,elemP];exact Tryz.underlying92) .i64 (r:Int) (by omega) (by rw[ztl];omega),elemP,sizeU,Result.andThen_ok,ztl,Int.toNat_natCast]
 unfold slicedAt
 rw[zn (by omega),Nat.mul_one,Addr.add_mid,Nat.zero_add]
variable {w:World} {p gb mb:Nat} {G M:List UInt8}
def ygl (w:World) (p gb mb:Nat) (G M zs:List UInt8) (e:Ending) (w':World):Prop:=
 ∃ g,e=.returned (.slice (some ⟨g,0,none⟩) zs.length zs.length)∧w.heap.size≤g∧Row8 w' g 5 zs∧MemAt w' p gb mb G M∧Keeps (·=mb) w w'
theorem zo4 (h:MemAt w p gb mb G M)(a n:Int)(ha:-9223372036854775808≤a)(ha':a≤9223372036854775807):
  Calls Tryz.prog 43 #[.pointer (some ⟨p,0,none⟩),.int .i64 a,.int .i64 n] w (ygl w p gb mb G M (zj6 M a (zds n 8192).toNat)):=by
 have hr:=zef n 8192 (by omega)
 generalize hm:zds n 8192=m at *
 unfold zds at hm
 obtain⟨c,rfl⟩:=Int.eq_ofNat_of_zero_le hr.1
 rw[Int.toNat_natCast]
 have hmk:=zfq c (by omega)
 have hlt:=h.lt
 have ap:=h.apart
 have ml:=h.ml
 have k1:Keeps (fun _=>False) w (w.alloc (.cells (madeCells #[.int .u8 0] c) 5)):=Keeps.alloc _ _ _
 have h1:=h.keep k1 (fun h=>h) (fun h=>h) (fun h=>h)
 have r1:=Row8.made w c 5
 have s1:w.heap.size<(w.alloc (.cells (madeCells #[.int .u8 0] c) 5)).heap.size:=by simp
 clear h
 go_enter Tryz.func43,Tryz.ntmps43
 go_wp2_with fail
 all_goals
  clear hm hmk
  generalize w.alloc (.cells (madeCells #[.int .u8 0] c) 5)=w1 at *
  refine(zuu h1).mono ?_
  rintro e w2 ⟨rfl,rfl⟩
  go_wp2_with fail
  refine(zma _ _ _).mono ?_
  rintro e w2 ⟨rfl,rfl⟩
  have x1:=ygd a
  have x2:=yge a
  have y1:=ygc a c
  have y2:a+c≤9223372036854775807→inY a c≤a+c∧(inY a c=a+c∨inY a c=8192):=fun h=>ygb ha (by omega) h
  have y3:9223372036854775807<a+c→inY a c<0:=fun h=>in_no ha' (by omega) h
  have X1:=zq x1
  have X2:=zq x2
  have Y2:=zq y2
  have Y3:=zq y3
  clear x1 x2 y2 y3
  generalize inX a=X at *
  generalize inY a c=Y at *
  go_wp2_with fail
  go_loopw [8,10] (fun i _ wr=>∃ t:Nat,i=.int .i64 (t:Int)∧X≤t∧((t:Int)≤X∨(t:Int)≤Y)∧Row8 wr w.heap.size 5 (zf2 M a c t)∧MemAt wr p gb mb G M∧Keeps (·=mb) w wr) (fun i _ _=>(Y-RowKit.intOf i).toNat)
  case atStart =>
   have x1:=X1.out
   have x2:=X2.out
   have ex:(X.toNat:Int)=X:=Int.toNat_of_nonneg x1.1
   exact⟨X.toNat,by rw[ex],by omega,Or.inl (by omega),by rw[zgk M a c _ (by omega)];exact r1,h1,k1.mono fun _ _ h=>h.elim⟩
  case round =>
   obtain⟨t,rfl,t1,t2,hrow,hmem,hk⟩:=hrel
   by_cases hty:(t:Int)<Y
   ·go_wp2_with fail
    rw[show((t:Int) / 64)=((t / 64:Nat):Int) from rfl]
    refine(zo2 hmem (t / 64) (by omega)).mono ?_
    rintro e w2 ⟨rfl,hm2,k2⟩
    have hpl:=zek ml (n:=t / 64) (by omega)
    obtain⟨s1,s2,s3⟩:=(PgAt.new w2).put zeg hpl
    have kA:Keeps (fun _=>False) w2 (w2.alloc (.cells zm5 92)):=Keeps.alloc _ _ _
    have k23:Keeps (fun _=>False) w2 ((w2.alloc (.cells zm5 92)).setCells w2.heap.size 0 ((zaw M (t / 64)).map B8)):=Keeps.thru kA s3 (fun _ _ h=>h) fun _ _ h=>by omega
    have ST:=zq s1
    have P3:=zq s2
    clear kA s1 s2 s3
    go_wp2_with (first
     | ((with_reducible refine zd5 (op:=.alloc 92) (d:=some 10) ?_);refine zbr rfl 92 rfl _ (zm0 _) ?_)
     | ((with_reducible refine zd5 (op:=.store 92 (.tmp 10) (.tmp 32)) ?_);refine zaz rfl 92 _ _ rfl _ _ rfl rfl ST.out ?_))
    generalize (w2.alloc (.cells zm5 92)).setCells w2.heap.size 0 ((zaw M (t / 64)).map B8)=w3 at *
    have x1:=X1.out
    have x2:=X2.out
    have y2:=Y2.out
    have y3:=Y3.out
    have hac:a+c≤9223372036854775807:=by omega
    obtain⟨d,hd⟩:∃ d:Nat,(t:Int)-a=d:=⟨((t:Int)-a).toNat,by omega⟩
    obtain⟨y,hy⟩:∃ y:Nat,Y-a=y:=⟨(Y-a).toNat,by omega⟩
    have W1:IntKind.i64.wrap ((t:Int)-a)=(d:Int):=by rw[hd];exact IntWalk.i64_in _ (by omega)
    have W2:IntKind.i64.wrap (Y-a)=(y:Int):=by rw[hy];exact IntWalk.i64_in _ (by omega)
    have W3:(t:Int).tmod 64=((t % 64:Nat):Int):=rfl
    have d1:d<y:=by omega
    have d2:y≤c:=by omega
    have d3:¬c=d:=by omega
    have d4:d≤y:=by omega
    have m0:t % 64≤64:=by omega
    have m1:t % 64<64:=Nat.mod_lt _ (by omega)
    have m2:¬64=t % 64:=by omega
    have HD:=zq hd
    have HY:=zq hy
    obtain⟨k,hk0⟩:∃ k:Nat,k=min (64-t % 64) (y-d):=⟨_,rfl⟩
    have HK:=zq hk0
    have e1:1≤k:=by omega
    have e2:k≤64:=by omega
    have e3:d+k≤c:=by omega
    have e4:k≤64-t % 64:=by omega
    have tb:t<8192:=by omega
    have E5:=zq (show(t:Int)+k≤Y by omega)
    have E6:=zq (show(t:Int)≤a+c by omega)
    have LS:=zq (zw7 M ml a c t k (by omega) (by omega) (by omega) tb)
    rw[show((t:Int)-a).toNat=d by omega] at LS
    clear hd hy x1 x2 y2 y3 hk0
    have SL:=fun (w:World) (b:Nat)=>yf1 w b (t % 64) m1
    generalize t % 64=r at W3 m0 m1 m2 SL e4 HK LS
    refine wp_region_any (by kernel_rfl) ?_
    change wpAny _ _ _ _ _ _ _ w3.drew
    have k34:Keeps (fun _=>False) w3 w3.drew:=Keeps.drew _ _
    have p4:=P3.out.keep k34 (fun h=>h)
    have r4:Row8 w3.drew w.heap.size 5 (zf2 M a c t):=by
     have h1:=hrow.lt_
     refine Row8.of_block ((k34.block _ (Nat.lt_of_lt_of_le h1 (Nat.le_trans k2.size k23.size)) (fun h=>h)).trans ((k23.block _ (Nat.lt_of_lt_of_le h1 k2.size) (fun h=>h)).trans ((k2.block _ h1 (by omega)).trans hrow.block)))
    have h4:=hm2.keep (k23.trans k34) (fun h=>h) (fun h=>h) (fun h=>h)
    have K4:=zq (Keeps.thru (F'':=fun k=>k=mb) (hk.trans k2) (k23.trans k34) (fun _ _ h=>h) fun _ _ h=>h.elim)
    generalize w3.drew=w4 at *
    refine wpAny_take (oi:=⟨_,_,_,_,_,_⟩) (i:=0) (v:=.int .i64 (t:Int)) rfl (by kernel_rfl) (by kernel_rfl) (by kernel_rfl) (fun _ _ _ h=>h) (Or.inl ⟨by rfl,fun _=>rfl⟩) ?_
    simp only[Act.put,sqX]
    refine zfu [1,2,3,4,5,6,7,8,9,10,11] [12,13,14] [_,_,_,_,_,_,_,_,_,_,_] [_,_,_] rfl rfl rfl (by kernel_rfl) ?_
    still_step
    still_step
    still_step
    still_step
    still_step
    still_step
    still_step
    still_step
    still_step
    still_step
    still_step
    refine wpStill_nil ?_
    have hys:(((zaw M (t / 64)).drop r).take k).length=k:=by rw[List.length_take,List.length_drop,hpl];omega
    obtain⟨w5,c1,c2,c3⟩:=zhg (P:=Tryz.prog) w4 31 31 3 5 5 Tryz.underlying31 zis w.heap.size d (y-d) (c-d) _ _ _ (64-r) (64-r) r4 (p4.br hpl r k (by omega)) (by rw[hys];exact HK.out) (by rw[hys,zcj];omega) (by intro e;rw[e] at hys;simp at hys;omega)
    rw[hys] at c1
    rw[LS.out] at c2
    refine zcg rfl _ _ 31 31 rfl _ c1 ?_
    have k45:Keeps (fun k=>k=w.heap.size) w4 w5:=Keeps.grown _ c3 (fun k e=>by cases e;rfl)
    have h5:=zq (h4.keep k45 (by omega) (by omega) (by omega))
    have K5:=zq (Keeps.thru (F'':=fun k=>k=mb) K4.out k45 (fun _ _ h=>h) fun _ _ h=>by omega)
    have R5:=zq c2
    clear c1 c2 c3 k45 h4 r4 p4 k34 k23 k2 hm2 hk hmem hrow hys P3 ST SL W1 W2 W3 hpl
    go_wp2_with fail
    go_roundw
    case rel=>exact⟨t+k,by go_num,by omega,Or.inr (by have:=E5.out;omega),R5.out,h5.out,K5.out⟩
    case measure=>simp[RowKit.intOf];have:=E5.out;omega
   ·have hte:zf2 M a c t=zj6 M a c:=by
     have x1:=X1.out
     have x2:=X2.out
     have y2:=Y2.out
     have y3:=Y3.out
     by_cases hac:a+c≤9223372036854775807
     ·have y2:=y2 hac
      by_cases hl:a+c≤0
      ·rw[znt M ml a c (Or.inl hl),zgk M a c t (by omega)]
      ·exact zns M ml a c t (by omega)
     ·rw[znt M ml a c (by omega),zgk M a c t (by omega)]
    have R5:=zq (hte ▸ hrow)
    have H5:=zq hmem
    have K5:=zq hk
    have hge:Y≤(t:Int):=by omega
    clear hte hrow hmem hk hty t1 t2
    go_wp2_with fail
    go_ret
    exact⟨w.heap.size,by rw[zda];rfl,Nat.le_refl _,R5.out,H5.out,K5.out⟩
end Mm
end Go.Proofs.YtdopfpcjpjlkmaaGreatDoor
