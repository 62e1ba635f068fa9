/-
  InCheck
-/
import Derived.Test.YtdopfpcjpjlkmaaGreatDoorGFb
import Derived.Test.YtdopfpcjpjlkmaaGreatDoorGT
set_option maxHeartbeats 800000
set_option maxRecDepth 20000
namespace Go.Proofs.YtdopfpcjpjlkmaaGreatDoor.Ino
open Go.RowKit Ex
abbrev ag (x:IN) (A:Option Addr) (c:Nat):Value:=.agg #[St x.name,.int .i64 x.size,.slice A x.ext.length c]
theorem zhb (w:World):(isAgg 9).run Tryz.prog w=.ok false w:=by unfold isAgg;rw[Sem.run_bind,run_underlying Tryz.underlying9 w];rfl
theorem zdm (w:World):(isAgg 3).run Tryz.prog w=.ok false w:=by unfold isAgg;rw[Sem.run_bind,run_underlying Tryz.underlying3 w];rfl
theorem aggX (w:World):(isAgg 111).run Tryz.prog w=.ok false w:=by unfold isAgg;rw[Sem.run_bind,run_underlying Tryz.underlying111 w];rfl
structure InOk (w:World) (x:IN) (A:Option Addr):Prop where
 xr:XR w w.heap.size A x.ext
 few:x.ext.length≤100
 name:x.name.length≤100000
 size:-9223372036854775808≤x.size∧x.size≤9223372036854775807
theorem InOk.below {w w':World} {x:IN} {A:Option Addr} (h:InOk w x A)(hb:Below w.heap.size w w'):InOk w' x A:=⟨(h.xr.below hb).more hb.size,h.few,h.name,h.size⟩
theorem check0 (x:IN)(A:Option Addr)(c:Nat)(w:World)(hx:InOk w x A)(h0:zbg x.name=false):
  Calls Tryz.prog 151 #[ag x A c] w (zcx w (.int .i64 (110))):=by
 have hN:∀ W,Calls Tryz.prog 94 #[St x.name] W (zcx W (.bool false)):=fun W=>by rw[← h0];exact zfm x.name W (Nat.le_trans hx.name (by decide))
 have c0':(w.alloc (.cells #[St x.name,.int .i64 x.size,.slice A x.ext.length c] 113)).drew.cell? ⟨w.heap.size,0,none⟩=some (St x.name):=by rw[show(w.alloc (.cells #[St x.name,.int .i64 x.size,.slice A x.ext.length c] 113)).drew.cell? _=(w.alloc (.cells #[St x.name,.int .i64 x.size,.slice A x.ext.length c] 113)).cell? _ from rfl,cell_of_row _ _ _ _ _ _ (heap_alloc_new w _)];rfl
 have c1':(w.alloc (.cells #[St x.name,.int .i64 x.size,.slice A x.ext.length c] 113)).drew.cell? ⟨w.heap.size,1,none⟩=some (.int .i64 x.size):=by rw[show(w.alloc (.cells #[St x.name,.int .i64 x.size,.slice A x.ext.length c] 113)).drew.cell? _=(w.alloc (.cells #[St x.name,.int .i64 x.size,.slice A x.ext.length c] 113)).cell? _ from rfl,cell_of_row _ _ _ _ _ _ (heap_alloc_new w _)];rfl
 have c2':(w.alloc (.cells #[St x.name,.int .i64 x.size,.slice A x.ext.length c] 113)).drew.cell? ⟨w.heap.size,2,none⟩=some (.slice A x.ext.length c):=by rw[show(w.alloc (.cells #[St x.name,.int .i64 x.size,.slice A x.ext.length c] 113)).drew.cell? _=(w.alloc (.cells #[St x.name,.int .i64 x.size,.slice A x.ext.length c] 113)).cell? _ from rfl,cell_of_row _ _ _ _ _ _ (heap_alloc_new w _)];rfl
 have hb':Below w.heap.size w (w.alloc (.cells #[St x.name,.int .i64 x.size,.slice A x.ext.length c] 113)).drew:=((Below.refl _ _).alloc (Nat.le_refl _) _).drew
 have hg':w.heap.size<(w.alloc (.cells #[St x.name,.int .i64 x.size,.slice A x.ext.length c] 113)).drew.heap.size:=by show _<(w.alloc _).heap.size;rw[World.size_alloc];omega
 have HN:=zq hN
 have HB:=zq hb'
 clear hN hx hb' h0
 go_enter Tryz.func151,Tryz.ntmps151
 go_wp2_with fail
 refine wp_region_held (S:=fun W=>Below (w.alloc (.cells #[St x.name,.int .i64 x.size,.slice A x.ext.length c] 113)).drew.heap.size (w.alloc (.cells #[St x.name,.int .i64 x.size,.slice A x.ext.length c] 113)).drew W) (by kernel_rfl) ?_
 change wpAnyH _ _ _ _ _ _ _ _ (w.alloc (.cells #[St x.name,.int .i64 x.size,.slice A x.ext.length c] 113)).drew
 generalize (w.alloc (.cells #[St x.name,.int .i64 x.size,.slice A x.ext.length c] 113)).drew=w1 at *
 have hS:Below w1.heap.size w1 w1:=Below.refl _ _
 refine sqH 0 (.pointer (some ⟨w.heap.size,0,none⟩)) rfl (Or.inl ⟨by rfl,fun _ _=>by go_simp⟩) hS ?_
 try simp only[Act.put,sqX]
 refine sqH 1 (St x.name) rfl (zai rfl 9 (.tmp 4) rfl _ _ rfl fun w h=>zal zhb ((Below.cell (p:=⟨_,0,none⟩) h hg').trans c0')) hS ?_
 try simp only[Act.put,sqX]
 refine wpAnyH_all (rs:=[2]) (by kernel_rfl) (by simp) fun i hi=>?_
 obtain rfl:i=2:=by simpa using hi
 refine zbf (om:=⟨_,_,_,_,_,_⟩) (fn:=94) (args:=#[St x.name]) (R:=fun u W=>u=.bool false∧Below w1.heap.size w1 W) rfl rfl (by go_simp)
  ((HN.out w1).mono fun e W ⟨he,hb⟩=>⟨_,he,rfl,hb⟩) _ _ rfl rfl ?_
 rintro u w2 ⟨rfl,hb⟩
 have hS:Below w1.heap.size w1 w2:=Below.trans hS (hb.mono hS.size)
 clear hb hi
 refine⟨hS,?_⟩
 try simp only[Act.put,sqX]
 refine sqH 3 (.bool false) rfl (Or.inl ⟨by rfl,fun _ _=>rfl⟩) hS ?_
 try simp only[Act.put,sqX]
 refine sqH 4 (undef) rfl (Or.inr ⟨by rfl,rfl⟩) hS ?_
 try simp only[Act.put,sqX]
 refine sqH 5 (undef) rfl (Or.inr ⟨by rfl,rfl⟩) hS ?_
 try simp only[Act.put,sqX]
 refine sqH 6 (undef) rfl (Or.inr ⟨by rfl,rfl⟩) hS ?_
 try simp only[Act.put,sqX]
 refine sqH 7 (.bool false) rfl (Or.inl ⟨by rfl,fun _ _=>by go_simp⟩) hS ?_
 try simp only[Act.put,sqX]
 refine sqH 8 (.bool false) rfl (Or.inl ⟨by rfl,fun _ _=>rfl⟩) hS ?_
 try simp only[Act.put,sqX]
 refine sqH 9 (undef) rfl (Or.inr ⟨by rfl,rfl⟩) hS ?_
 try simp only[Act.put,sqX]
 refine sqH 10 (undef) rfl (Or.inr ⟨by rfl,rfl⟩) hS ?_
 try simp only[Act.put,sqX]
 refine sqH 11 (undef) rfl (Or.inr ⟨by rfl,rfl⟩) hS ?_
 try simp only[Act.put,sqX]
 refine sqH 12 (.bool false) rfl (Or.inl ⟨by rfl,fun _ _=>by go_simp⟩) hS ?_
 try simp only[Act.put,sqX]
 refine sqH 13 (.bool false) rfl (Or.inl ⟨by rfl,fun _ _=>rfl⟩) hS ?_
 try simp only[Act.put,sqX]
 refine sqH 14 (undef) rfl (Or.inr ⟨by rfl,rfl⟩) hS ?_
 try simp only[Act.put,sqX]
 refine sqH 15 (undef) rfl (Or.inr ⟨by rfl,rfl⟩) hS ?_
 try simp only[Act.put,sqX]
 refine sqH 16 (undef) rfl (Or.inr ⟨by rfl,rfl⟩) hS ?_
 try simp only[Act.put,sqX]
 refine sqH 17 (undef) rfl (Or.inr ⟨by rfl,rfl⟩) hS ?_
 try simp only[Act.put,sqX]
 refine sqH 18 (.bool false) rfl (Or.inl ⟨by rfl,fun _ _=>by go_simp⟩) hS ?_
 try simp only[Act.put,sqX]
 refine sqH 19 (.bool false) rfl (Or.inl ⟨by rfl,fun _ _=>rfl⟩) hS ?_
 try simp only[Act.put,sqX]
 refine sqH 20 (undef) rfl (Or.inr ⟨by rfl,rfl⟩) hS ?_
 try simp only[Act.put,sqX]
 refine sqH 21 (undef) rfl (Or.inr ⟨by rfl,rfl⟩) hS ?_
 try simp only[Act.put,sqX]
 refine sqH 22 (undef) rfl (Or.inr ⟨by rfl,rfl⟩) hS ?_
 try simp only[Act.put,sqX]
 refine sqH 23 (undef) rfl (Or.inr ⟨by rfl,rfl⟩) hS ?_
 try simp only[Act.put,sqX]
 refine sqH 24 (undef) rfl (Or.inr ⟨by rfl,rfl⟩) hS ?_
 try simp only[Act.put,sqX]
 refine sqH 25 (undef) rfl (Or.inr ⟨by rfl,rfl⟩) hS ?_
 try simp only[Act.put,sqX]
 refine sqH 26 (undef) rfl (Or.inr ⟨by rfl,rfl⟩) hS ?_
 try simp only[Act.put,sqX]
 refine sqH 27 (.bool false) rfl (Or.inl ⟨by rfl,fun _ _=>by go_simp⟩) hS ?_
 try simp only[Act.put,sqX]
 refine sqH 28 (.bool false) rfl (Or.inl ⟨by rfl,fun _ _=>rfl⟩) hS ?_
 try simp only[Act.put,sqX]
 refine wpAnyH_done (by kernel_rfl) ?_ _
 try simp only[Act.put,sqX]
 have HF:=zq (HB.out.trans (hS.mono (Nat.le_of_lt hg')))
 clear hS
 go_wp2_with fail
 go_ret
 exact⟨rfl,HF.out⟩
theorem check1 (x:IN)(A:Option Addr)(c:Nat)(w:World)(hx:InOk w x A)(h0:zbg x.name=true)(h1:x.size<0):
  Calls Tryz.prog 151 #[ag x A c] w (zcx w (.int .i64 (110))):=by
 have hN:∀ W,Calls Tryz.prog 94 #[St x.name] W (zcx W (.bool true)):=fun W=>by rw[← h0];exact zfm x.name W (Nat.le_trans hx.name (by decide))
 have d1:decide ((0:Int)≤x.size)=false:=by simp;omega
 have c0':(w.alloc (.cells #[St x.name,.int .i64 x.size,.slice A x.ext.length c] 113)).drew.cell? ⟨w.heap.size,0,none⟩=some (St x.name):=by rw[show(w.alloc (.cells #[St x.name,.int .i64 x.size,.slice A x.ext.length c] 113)).drew.cell? _=(w.alloc (.cells #[St x.name,.int .i64 x.size,.slice A x.ext.length c] 113)).cell? _ from rfl,cell_of_row _ _ _ _ _ _ (heap_alloc_new w _)];rfl
 have c1':(w.alloc (.cells #[St x.name,.int .i64 x.size,.slice A x.ext.length c] 113)).drew.cell? ⟨w.heap.size,1,none⟩=some (.int .i64 x.size):=by rw[show(w.alloc (.cells #[St x.name,.int .i64 x.size,.slice A x.ext.length c] 113)).drew.cell? _=(w.alloc (.cells #[St x.name,.int .i64 x.size,.slice A x.ext.length c] 113)).cell? _ from rfl,cell_of_row _ _ _ _ _ _ (heap_alloc_new w _)];rfl
 have c2':(w.alloc (.cells #[St x.name,.int .i64 x.size,.slice A x.ext.length c] 113)).drew.cell? ⟨w.heap.size,2,none⟩=some (.slice A x.ext.length c):=by rw[show(w.alloc (.cells #[St x.name,.int .i64 x.size,.slice A x.ext.length c] 113)).drew.cell? _=(w.alloc (.cells #[St x.name,.int .i64 x.size,.slice A x.ext.length c] 113)).cell? _ from rfl,cell_of_row _ _ _ _ _ _ (heap_alloc_new w _)];rfl
 have hb':Below w.heap.size w (w.alloc (.cells #[St x.name,.int .i64 x.size,.slice A x.ext.length c] 113)).drew:=((Below.refl _ _).alloc (Nat.le_refl _) _).drew
 have hg':w.heap.size<(w.alloc (.cells #[St x.name,.int .i64 x.size,.slice A x.ext.length c] 113)).drew.heap.size:=by show _<(w.alloc _).heap.size;rw[World.size_alloc];omega
 have HN:=zq hN
 have HB:=zq hb'
 clear hN hx hb' h0 h1
 go_enter Tryz.func151,Tryz.ntmps151
 go_wp2_with fail
 refine wp_region_held (S:=fun W=>Below (w.alloc (.cells #[St x.name,.int .i64 x.size,.slice A x.ext.length c] 113)).drew.heap.size (w.alloc (.cells #[St x.name,.int .i64 x.size,.slice A x.ext.length c] 113)).drew W) (by kernel_rfl) ?_
 change wpAnyH _ _ _ _ _ _ _ _ (w.alloc (.cells #[St x.name,.int .i64 x.size,.slice A x.ext.length c] 113)).drew
 generalize (w.alloc (.cells #[St x.name,.int .i64 x.size,.slice A x.ext.length c] 113)).drew=w1 at *
 have hS:Below w1.heap.size w1 w1:=Below.refl _ _
 refine sqH 0 (.pointer (some ⟨w.heap.size,0,none⟩)) rfl (Or.inl ⟨by rfl,fun _ _=>by go_simp⟩) hS ?_
 try simp only[Act.put,sqX]
 refine sqH 1 (St x.name) rfl (zai rfl 9 (.tmp 4) rfl _ _ rfl fun w h=>zal zhb ((Below.cell (p:=⟨_,0,none⟩) h hg').trans c0')) hS ?_
 try simp only[Act.put,sqX]
 refine wpAnyH_all (rs:=[2]) (by kernel_rfl) (by simp) fun i hi=>?_
 obtain rfl:i=2:=by simpa using hi
 refine zbf (om:=⟨_,_,_,_,_,_⟩) (fn:=94) (args:=#[St x.name]) (R:=fun u W=>u=.bool true∧Below w1.heap.size w1 W) rfl rfl (by go_simp)
  ((HN.out w1).mono fun e W ⟨he,hb⟩=>⟨_,he,rfl,hb⟩) _ _ rfl rfl ?_
 rintro u w2 ⟨rfl,hb⟩
 have hS:Below w1.heap.size w1 w2:=Below.trans hS (hb.mono hS.size)
 clear hb hi
 refine⟨hS,?_⟩
 try simp only[Act.put,sqX]
 refine sqH 3 (.bool true) rfl (Or.inl ⟨by rfl,fun _ _=>rfl⟩) hS ?_
 try simp only[Act.put,sqX]
 refine sqH 4 (.pointer (some ⟨w.heap.size,1,none⟩)) rfl (Or.inl ⟨by rfl,fun _ _=>by go_simp⟩) hS ?_
 try simp only[Act.put,sqX]
 refine sqH 5 (.int .i64 x.size) rfl (zai rfl 3 (.tmp 8) rfl _ _ rfl fun w h=>zal zdm ((Below.cell (p:=⟨_,1,none⟩) h hg').trans c1')) hS ?_
 try simp only[Act.put,sqX]
 refine sqH 6 (.bool false) rfl (Or.inl ⟨by rfl,fun _ _=>by go_simp⟩) hS ?_
 try simp only[Act.put,sqX]
 refine sqH 7 (.bool false) rfl (Or.inl ⟨by rfl,fun _ _=>by go_simp⟩) hS ?_
 try simp only[Act.put,sqX]
 refine sqH 8 (.bool false) rfl (Or.inl ⟨by rfl,fun _ _=>rfl⟩) hS ?_
 try simp only[Act.put,sqX]
 refine sqH 9 (undef) rfl (Or.inr ⟨by rfl,rfl⟩) hS ?_
 try simp only[Act.put,sqX]
 refine sqH 10 (undef) rfl (Or.inr ⟨by rfl,rfl⟩) hS ?_
 try simp only[Act.put,sqX]
 refine sqH 11 (undef) rfl (Or.inr ⟨by rfl,rfl⟩) hS ?_
 try simp only[Act.put,sqX]
 refine sqH 12 (.bool false) rfl (Or.inl ⟨by rfl,fun _ _=>by go_simp⟩) hS ?_
 try simp only[Act.put,sqX]
 refine sqH 13 (.bool false) rfl (Or.inl ⟨by rfl,fun _ _=>rfl⟩) hS ?_
 try simp only[Act.put,sqX]
 refine sqH 14 (undef) rfl (Or.inr ⟨by rfl,rfl⟩) hS ?_
 try simp only[Act.put,sqX]
 refine sqH 15 (undef) rfl (Or.inr ⟨by rfl,rfl⟩) hS ?_
 try simp only[Act.put,sqX]
 refine sqH 16 (undef) rfl (Or.inr ⟨by rfl,rfl⟩) hS ?_
 try simp only[Act.put,sqX]
 refine sqH 17 (undef) rfl (Or.inr ⟨by rfl,rfl⟩) hS ?_
 try simp only[Act.put,sqX]
 refine sqH 18 (.bool false) rfl (Or.inl ⟨by rfl,fun _ _=>by go_simp⟩) hS ?_
 try simp only[Act.put,sqX]
 refine sqH 19 (.bool false) rfl (Or.inl ⟨by rfl,fun _ _=>rfl⟩) hS ?_
 try simp only[Act.put,sqX]
 refine sqH 20 (undef) rfl (Or.inr ⟨by rfl,rfl⟩) hS ?_
 try simp only[Act.put,sqX]
 refine sqH 21 (undef) rfl (Or.inr ⟨by rfl,rfl⟩) hS ?_
 try simp only[Act.put,sqX]
 refine sqH 22 (undef) rfl (Or.inr ⟨by rfl,rfl⟩) hS ?_
 try simp only[Act.put,sqX]
 refine sqH 23 (undef) rfl (Or.inr ⟨by rfl,rfl⟩) hS ?_
 try simp only[Act.put,sqX]
 refine sqH 24 (undef) rfl (Or.inr ⟨by rfl,rfl⟩) hS ?_
 try simp only[Act.put,sqX]
 refine sqH 25 (undef) rfl (Or.inr ⟨by rfl,rfl⟩) hS ?_
 try simp only[Act.put,sqX]
 refine sqH 26 (undef) rfl (Or.inr ⟨by rfl,rfl⟩) hS ?_
 try simp only[Act.put,sqX]
 refine sqH 27 (.bool false) rfl (Or.inl ⟨by rfl,fun _ _=>by go_simp⟩) hS ?_
 try simp only[Act.put,sqX]
 refine sqH 28 (.bool false) rfl (Or.inl ⟨by rfl,fun _ _=>rfl⟩) hS ?_
 try simp only[Act.put,sqX]
 refine wpAnyH_done (by kernel_rfl) ?_ _
 try simp only[Act.put,sqX]
 have HF:=zq (HB.out.trans (hS.mono (Nat.le_of_lt hg')))
 clear hS
 go_wp2_with fail
 go_ret
 exact⟨rfl,HF.out⟩
theorem check2 (x:IN)(A:Option Addr)(c:Nat)(w:World)(hx:InOk w x A)(h0:zbg x.name=true)(h1:0≤x.size)(h2:1472<x.size):
  Calls Tryz.prog 151 #[ag x A c] w (zcx w (.int .i64 (110))):=by
 have hN:∀ W,Calls Tryz.prog 94 #[St x.name] W (zcx W (.bool true)):=fun W=>by rw[← h0];exact zfm x.name W (Nat.le_trans hx.name (by decide))
 have d1:decide ((0:Int)≤x.size)=true:=by simp;omega
 have d2:decide (x.size≤(1472:Int))=false:=by simp;omega
 have c0':(w.alloc (.cells #[St x.name,.int .i64 x.size,.slice A x.ext.length c] 113)).drew.cell? ⟨w.heap.size,0,none⟩=some (St x.name):=by rw[show(w.alloc (.cells #[St x.name,.int .i64 x.size,.slice A x.ext.length c] 113)).drew.cell? _=(w.alloc (.cells #[St x.name,.int .i64 x.size,.slice A x.ext.length c] 113)).cell? _ from rfl,cell_of_row _ _ _ _ _ _ (heap_alloc_new w _)];rfl
 have c1':(w.alloc (.cells #[St x.name,.int .i64 x.size,.slice A x.ext.length c] 113)).drew.cell? ⟨w.heap.size,1,none⟩=some (.int .i64 x.size):=by rw[show(w.alloc (.cells #[St x.name,.int .i64 x.size,.slice A x.ext.length c] 113)).drew.cell? _=(w.alloc (.cells #[St x.name,.int .i64 x.size,.slice A x.ext.length c] 113)).cell? _ from rfl,cell_of_row _ _ _ _ _ _ (heap_alloc_new w _)];rfl
 have c2':(w.alloc (.cells #[St x.name,.int .i64 x.size,.slice A x.ext.length c] 113)).drew.cell? ⟨w.heap.size,2,none⟩=some (.slice A x.ext.length c):=by rw[show(w.alloc (.cells #[St x.name,.int .i64 x.size,.slice A x.ext.length c] 113)).drew.cell? _=(w.alloc (.cells #[St x.name,.int .i64 x.size,.slice A x.ext.length c] 113)).cell? _ from rfl,cell_of_row _ _ _ _ _ _ (heap_alloc_new w _)];rfl
 have hb':Below w.heap.size w (w.alloc (.cells #[St x.name,.int .i64 x.size,.slice A x.ext.length c] 113)).drew:=((Below.refl _ _).alloc (Nat.le_refl _) _).drew
 have hg':w.heap.size<(w.alloc (.cells #[St x.name,.int .i64 x.size,.slice A x.ext.length c] 113)).drew.heap.size:=by show _<(w.alloc _).heap.size;rw[World.size_alloc];omega
 have HN:=zq hN
 have HB:=zq hb'
 clear hN hx hb' h0 h1 h2
 go_enter Tryz.func151,Tryz.ntmps151
 go_wp2_with fail
 refine wp_region_held (S:=fun W=>Below (w.alloc (.cells #[St x.name,.int .i64 x.size,.slice A x.ext.length c] 113)).drew.heap.size (w.alloc (.cells #[St x.name,.int .i64 x.size,.slice A x.ext.length c] 113)).drew W) (by kernel_rfl) ?_
 change wpAnyH _ _ _ _ _ _ _ _ (w.alloc (.cells #[St x.name,.int .i64 x.size,.slice A x.ext.length c] 113)).drew
 generalize (w.alloc (.cells #[St x.name,.int .i64 x.size,.slice A x.ext.length c] 113)).drew=w1 at *
 have hS:Below w1.heap.size w1 w1:=Below.refl _ _
 refine sqH 0 (.pointer (some ⟨w.heap.size,0,none⟩)) rfl (Or.inl ⟨by rfl,fun _ _=>by go_simp⟩) hS ?_
 try simp only[Act.put,sqX]
 refine sqH 1 (St x.name) rfl (zai rfl 9 (.tmp 4) rfl _ _ rfl fun w h=>zal zhb ((Below.cell (p:=⟨_,0,none⟩) h hg').trans c0')) hS ?_
 try simp only[Act.put,sqX]
 refine wpAnyH_all (rs:=[2]) (by kernel_rfl) (by simp) fun i hi=>?_
 obtain rfl:i=2:=by simpa using hi
 refine zbf (om:=⟨_,_,_,_,_,_⟩) (fn:=94) (args:=#[St x.name]) (R:=fun u W=>u=.bool true∧Below w1.heap.size w1 W) rfl rfl (by go_simp)
  ((HN.out w1).mono fun e W ⟨he,hb⟩=>⟨_,he,rfl,hb⟩) _ _ rfl rfl ?_
 rintro u w2 ⟨rfl,hb⟩
 have hS:Below w1.heap.size w1 w2:=Below.trans hS (hb.mono hS.size)
 clear hb hi
 refine⟨hS,?_⟩
 try simp only[Act.put,sqX]
 refine sqH 3 (.bool true) rfl (Or.inl ⟨by rfl,fun _ _=>rfl⟩) hS ?_
 try simp only[Act.put,sqX]
 refine sqH 4 (.pointer (some ⟨w.heap.size,1,none⟩)) rfl (Or.inl ⟨by rfl,fun _ _=>by go_simp⟩) hS ?_
 try simp only[Act.put,sqX]
 refine sqH 5 (.int .i64 x.size) rfl (zai rfl 3 (.tmp 8) rfl _ _ rfl fun w h=>zal zdm ((Below.cell (p:=⟨_,1,none⟩) h hg').trans c1')) hS ?_
 try simp only[Act.put,sqX]
 refine sqH 6 (.bool true) rfl (Or.inl ⟨by rfl,fun _ _=>by go_simp⟩) hS ?_
 try simp only[Act.put,sqX]
 refine sqH 7 (.bool true) rfl (Or.inl ⟨by rfl,fun _ _=>by go_simp⟩) hS ?_
 try simp only[Act.put,sqX]
 refine sqH 8 (.bool true) rfl (Or.inl ⟨by rfl,fun _ _=>rfl⟩) hS ?_
 try simp only[Act.put,sqX]
 refine sqH 9 (.pointer (some ⟨w.heap.size,1,none⟩)) rfl (Or.inl ⟨by rfl,fun _ _=>by go_simp⟩) hS ?_
 try simp only[Act.put,sqX]
 refine sqH 10 (.int .i64 x.size) rfl (zai rfl 3 (.tmp 13) rfl _ _ rfl fun w h=>zal zdm ((Below.cell (p:=⟨_,1,none⟩) h hg').trans c1')) hS ?_
 try simp only[Act.put,sqX]
 refine sqH 11 (.bool false) rfl (Or.inl ⟨by rfl,fun _ _=>by go_simp⟩) hS ?_
 try simp only[Act.put,sqX]
 refine sqH 12 (.bool false) rfl (Or.inl ⟨by rfl,fun _ _=>by go_simp⟩) hS ?_
 try simp only[Act.put,sqX]
 refine sqH 13 (.bool false) rfl (Or.inl ⟨by rfl,fun _ _=>rfl⟩) hS ?_
 try simp only[Act.put,sqX]
 refine sqH 14 (undef) rfl (Or.inr ⟨by rfl,rfl⟩) hS ?_
 try simp only[Act.put,sqX]
 refine sqH 15 (undef) rfl (Or.inr ⟨by rfl,rfl⟩) hS ?_
 try simp only[Act.put,sqX]
 refine sqH 16 (undef) rfl (Or.inr ⟨by rfl,rfl⟩) hS ?_
 try simp only[Act.put,sqX]
 refine sqH 17 (undef) rfl (Or.inr ⟨by rfl,rfl⟩) hS ?_
 try simp only[Act.put,sqX]
 refine sqH 18 (.bool false) rfl (Or.inl ⟨by rfl,fun _ _=>by go_simp⟩) hS ?_
 try simp only[Act.put,sqX]
 refine sqH 19 (.bool false) rfl (Or.inl ⟨by rfl,fun _ _=>rfl⟩) hS ?_
 try simp only[Act.put,sqX]
 refine sqH 20 (undef) rfl (Or.inr ⟨by rfl,rfl⟩) hS ?_
 try simp only[Act.put,sqX]
 refine sqH 21 (undef) rfl (Or.inr ⟨by rfl,rfl⟩) hS ?_
 try simp only[Act.put,sqX]
 refine sqH 22 (undef) rfl (Or.inr ⟨by rfl,rfl⟩) hS ?_
 try simp only[Act.put,sqX]
 refine sqH 23 (undef) rfl (Or.inr ⟨by rfl,rfl⟩) hS ?_
 try simp only[Act.put,sqX]
 refine sqH 24 (undef) rfl (Or.inr ⟨by rfl,rfl⟩) hS ?_
 try simp only[Act.put,sqX]
 refine sqH 25 (undef) rfl (Or.inr ⟨by rfl,rfl⟩) hS ?_
 try simp only[Act.put,sqX]
 refine sqH 26 (undef) rfl (Or.inr ⟨by rfl,rfl⟩) hS ?_
 try simp only[Act.put,sqX]
 refine sqH 27 (.bool false) rfl (Or.inl ⟨by rfl,fun _ _=>by go_simp⟩) hS ?_
 try simp only[Act.put,sqX]
 refine sqH 28 (.bool false) rfl (Or.inl ⟨by rfl,fun _ _=>rfl⟩) hS ?_
 try simp only[Act.put,sqX]
 refine wpAnyH_done (by kernel_rfl) ?_ _
 try simp only[Act.put,sqX]
 have HF:=zq (HB.out.trans (hS.mono (Nat.le_of_lt hg')))
 clear hS
 go_wp2_with fail
 go_ret
 exact⟨rfl,HF.out⟩
theorem check3 (x:IN)(A:Option Addr)(c:Nat)(w:World)(hx:InOk w x A)(h0:zbg x.name=true)(h1:0≤x.size)(h2:x.size≤1472)(h3:ok x.ext=false):
  Calls Tryz.prog 151 #[ag x A c] w (zcx w (.int .i64 (110))):=by
 have hN:∀ W,Calls Tryz.prog 94 #[St x.name] W (zcx W (.bool true)):=fun W=>by rw[← h0];exact zfm x.name W (Nat.le_trans hx.name (by decide))
 have d1:decide ((0:Int)≤x.size)=true:=by simp;omega
 have d2:decide (x.size≤(1472:Int))=true:=by simp;omega
 have c0':(w.alloc (.cells #[St x.name,.int .i64 x.size,.slice A x.ext.length c] 113)).drew.cell? ⟨w.heap.size,0,none⟩=some (St x.name):=by rw[show(w.alloc (.cells #[St x.name,.int .i64 x.size,.slice A x.ext.length c] 113)).drew.cell? _=(w.alloc (.cells #[St x.name,.int .i64 x.size,.slice A x.ext.length c] 113)).cell? _ from rfl,cell_of_row _ _ _ _ _ _ (heap_alloc_new w _)];rfl
 have c1':(w.alloc (.cells #[St x.name,.int .i64 x.size,.slice A x.ext.length c] 113)).drew.cell? ⟨w.heap.size,1,none⟩=some (.int .i64 x.size):=by rw[show(w.alloc (.cells #[St x.name,.int .i64 x.size,.slice A x.ext.length c] 113)).drew.cell? _=(w.alloc (.cells #[St x.name,.int .i64 x.size,.slice A x.ext.length c] 113)).cell? _ from rfl,cell_of_row _ _ _ _ _ _ (heap_alloc_new w _)];rfl
 have c2':(w.alloc (.cells #[St x.name,.int .i64 x.size,.slice A x.ext.length c] 113)).drew.cell? ⟨w.heap.size,2,none⟩=some (.slice A x.ext.length c):=by rw[show(w.alloc (.cells #[St x.name,.int .i64 x.size,.slice A x.ext.length c] 113)).drew.cell? _=(w.alloc (.cells #[St x.name,.int .i64 x.size,.slice A x.ext.length c] 113)).cell? _ from rfl,cell_of_row _ _ _ _ _ _ (heap_alloc_new w _)];rfl
 have hb':Below w.heap.size w (w.alloc (.cells #[St x.name,.int .i64 x.size,.slice A x.ext.length c] 113)).drew:=((Below.refl _ _).alloc (Nat.le_refl _) _).drew
 have hg':w.heap.size<(w.alloc (.cells #[St x.name,.int .i64 x.size,.slice A x.ext.length c] 113)).drew.heap.size:=by show _<(w.alloc _).heap.size;rw[World.size_alloc];omega
 have HC:Hid (∀ W,Below (w.alloc (.cells #[St x.name,.int .i64 x.size,.slice A x.ext.length c] 113)).drew.heap.size (w.alloc (.cells #[St x.name,.int .i64 x.size,.slice A x.ext.length c] 113)).drew W→Calls Tryz.prog 166 #[.slice A x.ext.length c] W (zcx W (.int .i64 1))):=fun W hW=>by
  have hi:=(hx.below hb').below hW
  have:=zf8 A x.ext c W hi.xr hi.few
  rw[zkn h3] at this
  exact this
 have HN:=zq hN
 have HB:=zq hb'
 clear hN hx hb' h0 h1 h2 h3
 go_enter Tryz.func151,Tryz.ntmps151
 go_wp2_with fail
 refine wp_region_held (S:=fun W=>Below (w.alloc (.cells #[St x.name,.int .i64 x.size,.slice A x.ext.length c] 113)).drew.heap.size (w.alloc (.cells #[St x.name,.int .i64 x.size,.slice A x.ext.length c] 113)).drew W) (by kernel_rfl) ?_
 change wpAnyH _ _ _ _ _ _ _ _ (w.alloc (.cells #[St x.name,.int .i64 x.size,.slice A x.ext.length c] 113)).drew
 generalize (w.alloc (.cells #[St x.name,.int .i64 x.size,.slice A x.ext.length c] 113)).drew=w1 at *
 have hS:Below w1.heap.size w1 w1:=Below.refl _ _
 refine sqH 0 (.pointer (some ⟨w.heap.size,0,none⟩)) rfl (Or.inl ⟨by rfl,fun _ _=>by go_simp⟩) hS ?_
 try simp only[Act.put,sqX]
 refine sqH 1 (St x.name) rfl (zai rfl 9 (.tmp 4) rfl _ _ rfl fun w h=>zal zhb ((Below.cell (p:=⟨_,0,none⟩) h hg').trans c0')) hS ?_
 try simp only[Act.put,sqX]
 refine wpAnyH_all (rs:=[2]) (by kernel_rfl) (by simp) fun i hi=>?_
 obtain rfl:i=2:=by simpa using hi
 refine zbf (om:=⟨_,_,_,_,_,_⟩) (fn:=94) (args:=#[St x.name]) (R:=fun u W=>u=.bool true∧Below w1.heap.size w1 W) rfl rfl (by go_simp)
  ((HN.out w1).mono fun e W ⟨he,hb⟩=>⟨_,he,rfl,hb⟩) _ _ rfl rfl ?_
 rintro u w2 ⟨rfl,hb⟩
 have hS:Below w1.heap.size w1 w2:=Below.trans hS (hb.mono hS.size)
 clear hb hi
 refine⟨hS,?_⟩
 try simp only[Act.put,sqX]
 refine sqH 3 (.bool true) rfl (Or.inl ⟨by rfl,fun _ _=>rfl⟩) hS ?_
 try simp only[Act.put,sqX]
 refine sqH 4 (.pointer (some ⟨w.heap.size,1,none⟩)) rfl (Or.inl ⟨by rfl,fun _ _=>by go_simp⟩) hS ?_
 try simp only[Act.put,sqX]
 refine sqH 5 (.int .i64 x.size) rfl (zai rfl 3 (.tmp 8) rfl _ _ rfl fun w h=>zal zdm ((Below.cell (p:=⟨_,1,none⟩) h hg').trans c1')) hS ?_
 try simp only[Act.put,sqX]
 refine sqH 6 (.bool true) rfl (Or.inl ⟨by rfl,fun _ _=>by go_simp⟩) hS ?_
 try simp only[Act.put,sqX]
 refine sqH 7 (.bool true) rfl (Or.inl ⟨by rfl,fun _ _=>by go_simp⟩) hS ?_
 try simp only[Act.put,sqX]
 refine sqH 8 (.bool true) rfl (Or.inl ⟨by rfl,fun _ _=>rfl⟩) hS ?_
 try simp only[Act.put,sqX]
 refine sqH 9 (.pointer (some ⟨w.heap.size,1,none⟩)) rfl (Or.inl ⟨by rfl,fun _ _=>by go_simp⟩) hS ?_
 try simp only[Act.put,sqX]
 refine sqH 10 (.int .i64 x.size) rfl (zai rfl 3 (.tmp 13) rfl _ _ rfl fun w h=>zal zdm ((Below.cell (p:=⟨_,1,none⟩) h hg').trans c1')) hS ?_
 try simp only[Act.put,sqX]
 refine sqH 11 (.bool true) rfl (Or.inl ⟨by rfl,fun _ _=>by go_simp⟩) hS ?_
 try simp only[Act.put,sqX]
 refine sqH 12 (.bool true) rfl (Or.inl ⟨by rfl,fun _ _=>by go_simp⟩) hS ?_
 try simp only[Act.put,sqX]
 refine sqH 13 (.bool true) rfl (Or.inl ⟨by rfl,fun _ _=>rfl⟩) hS ?_
 try simp only[Act.put,sqX]
 refine sqH 14 (.pointer (some ⟨w.heap.size,2,none⟩)) rfl (Or.inl ⟨by rfl,fun _ _=>by go_simp⟩) hS ?_
 try simp only[Act.put,sqX]
 refine sqH 15 (.slice A x.ext.length c) rfl (zai rfl 111 (.tmp 18) rfl _ _ rfl fun w h=>zal aggX ((Below.cell (p:=⟨_,2,none⟩) h hg').trans c2')) hS ?_
 try simp only[Act.put,sqX]
 refine wpAnyH_all (rs:=[16]) (by kernel_rfl) (by simp) fun i hi=>?_
 obtain rfl:i=16:=by simpa using hi
 refine zbf (om:=⟨_,_,_,_,_,_⟩) (fn:=166) (args:=#[.slice A x.ext.length c]) (R:=fun u W=>u=.int .i64 1∧Below w2.heap.size w2 W) rfl rfl (by go_simp)
  ((HC.out w2 hS).mono fun e W ⟨he,hb⟩=>⟨_,he,rfl,hb⟩) _ _ rfl rfl ?_
 rintro u w3 ⟨rfl,hb⟩
 have hS:Below w1.heap.size w1 w3:=Below.trans hS (hb.mono hS.size)
 clear hb hi
 refine⟨hS,?_⟩
 try simp only[Act.put,sqX]
 refine sqH 17 (.bool false) rfl (Or.inl ⟨by rfl,fun _ _=>by go_simp⟩) hS ?_
 try simp only[Act.put,sqX]
 refine sqH 18 (.bool false) rfl (Or.inl ⟨by rfl,fun _ _=>by go_simp⟩) hS ?_
 try simp only[Act.put,sqX]
 refine sqH 19 (.bool false) rfl (Or.inl ⟨by rfl,fun _ _=>rfl⟩) hS ?_
 try simp only[Act.put,sqX]
 refine sqH 20 (undef) rfl (Or.inr ⟨by rfl,rfl⟩) hS ?_
 try simp only[Act.put,sqX]
 refine sqH 21 (undef) rfl (Or.inr ⟨by rfl,rfl⟩) hS ?_
 try simp only[Act.put,sqX]
 refine sqH 22 (undef) rfl (Or.inr ⟨by rfl,rfl⟩) hS ?_
 try simp only[Act.put,sqX]
 refine sqH 23 (undef) rfl (Or.inr ⟨by rfl,rfl⟩) hS ?_
 try simp only[Act.put,sqX]
 refine sqH 24 (undef) rfl (Or.inr ⟨by rfl,rfl⟩) hS ?_
 try simp only[Act.put,sqX]
 refine sqH 25 (undef) rfl (Or.inr ⟨by rfl,rfl⟩) hS ?_
 try simp only[Act.put,sqX]
 refine sqH 26 (undef) rfl (Or.inr ⟨by rfl,rfl⟩) hS ?_
 try simp only[Act.put,sqX]
 refine sqH 27 (.bool false) rfl (Or.inl ⟨by rfl,fun _ _=>by go_simp⟩) hS ?_
 try simp only[Act.put,sqX]
 refine sqH 28 (.bool false) rfl (Or.inl ⟨by rfl,fun _ _=>rfl⟩) hS ?_
 try simp only[Act.put,sqX]
 refine wpAnyH_done (by kernel_rfl) ?_ _
 try simp only[Act.put,sqX]
 have HF:=zq (HB.out.trans (hS.mono (Nat.le_of_lt hg')))
 clear hS
 go_wp2_with fail
 go_ret
 exact⟨rfl,HF.out⟩
theorem check4 (x:IN)(A:Option Addr)(c:Nat)(w:World)(hx:InOk w x A)(h0:zbg x.name=true)(h1:0≤x.size)(h2:x.size≤1472)(h3:ok x.ext=true):
  Calls Tryz.prog 151 #[ag x A c] w (zcx w (.int .i64 (ze1 x))):=by
 have hN:∀ W,Calls Tryz.prog 94 #[St x.name] W (zcx W (.bool true)):=fun W=>by rw[← h0];exact zfm x.name W (Nat.le_trans hx.name (by decide))
 have d1:decide ((0:Int)≤x.size)=true:=by simp;omega
 have d2:decide (x.size≤(1472:Int))=true:=by simp;omega
 have hce:ze1 x=if ((za4 x.ext).length:Int)=zbq x.size then 0 else 110:=by
  simp[ze1,zd6,h0,h1,h2,h3]
 have HCE:=zq hce
 clear hce
 have c0':(w.alloc (.cells #[St x.name,.int .i64 x.size,.slice A x.ext.length c] 113)).drew.cell? ⟨w.heap.size,0,none⟩=some (St x.name):=by rw[show(w.alloc (.cells #[St x.name,.int .i64 x.size,.slice A x.ext.length c] 113)).drew.cell? _=(w.alloc (.cells #[St x.name,.int .i64 x.size,.slice A x.ext.length c] 113)).cell? _ from rfl,cell_of_row _ _ _ _ _ _ (heap_alloc_new w _)];rfl
 have c1':(w.alloc (.cells #[St x.name,.int .i64 x.size,.slice A x.ext.length c] 113)).drew.cell? ⟨w.heap.size,1,none⟩=some (.int .i64 x.size):=by rw[show(w.alloc (.cells #[St x.name,.int .i64 x.size,.slice A x.ext.length c] 113)).drew.cell? _=(w.alloc (.cells #[St x.name,.int .i64 x.size,.slice A x.ext.length c] 113)).cell? _ from rfl,cell_of_row _ _ _ _ _ _ (heap_alloc_new w _)];rfl
 have c2':(w.alloc (.cells #[St x.name,.int .i64 x.size,.slice A x.ext.length c] 113)).drew.cell? ⟨w.heap.size,2,none⟩=some (.slice A x.ext.length c):=by rw[show(w.alloc (.cells #[St x.name,.int .i64 x.size,.slice A x.ext.length c] 113)).drew.cell? _=(w.alloc (.cells #[St x.name,.int .i64 x.size,.slice A x.ext.length c] 113)).cell? _ from rfl,cell_of_row _ _ _ _ _ _ (heap_alloc_new w _)];rfl
 have hb':Below w.heap.size w (w.alloc (.cells #[St x.name,.int .i64 x.size,.slice A x.ext.length c] 113)).drew:=((Below.refl _ _).alloc (Nat.le_refl _) _).drew
 have hg':w.heap.size<(w.alloc (.cells #[St x.name,.int .i64 x.size,.slice A x.ext.length c] 113)).drew.heap.size:=by show _<(w.alloc _).heap.size;rw[World.size_alloc];omega
 have HC:Hid (∀ W,Below (w.alloc (.cells #[St x.name,.int .i64 x.size,.slice A x.ext.length c] 113)).drew.heap.size (w.alloc (.cells #[St x.name,.int .i64 x.size,.slice A x.ext.length c] 113)).drew W→Calls Tryz.prog 166 #[.slice A x.ext.length c] W (zcx W (.int .i64 0))):=fun W hW=>by
  have hi:=(hx.below hb').below hW
  have:=zf8 A x.ext c W hi.xr hi.few
  rw[zj1 h3] at this
  exact this
 have HT:Hid (∀ W,Below (w.alloc (.cells #[St x.name,.int .i64 x.size,.slice A x.ext.length c] 113)).drew.heap.size (w.alloc (.cells #[St x.name,.int .i64 x.size,.slice A x.ext.length c] 113)).drew W→Calls Tryz.prog 157 #[.slice A x.ext.length c] W (zcx W (.int .i64 ((za4 x.ext).length:Nat)))):=fun W hW=>by
  have hi:=(hx.below hb').below hW
  exact zgv A x.ext c W hi.xr hi.few
 have HD:Hid (∀ W,Calls Tryz.prog 143 #[.int .i64 x.size] W (fun e w'=>e=.returned (.int .i64 (zbq x.size))∧w'=W)):=fun W=>zur x.size W hx.size
 have HN:=zq hN
 have HB:=zq hb'
 clear hN hx hb' h0 h1 h2 h3
 go_enter Tryz.func151,Tryz.ntmps151
 go_wp2_with fail
 refine wp_region_held (S:=fun W=>Below (w.alloc (.cells #[St x.name,.int .i64 x.size,.slice A x.ext.length c] 113)).drew.heap.size (w.alloc (.cells #[St x.name,.int .i64 x.size,.slice A x.ext.length c] 113)).drew W) (by kernel_rfl) ?_
 change wpAnyH _ _ _ _ _ _ _ _ (w.alloc (.cells #[St x.name,.int .i64 x.size,.slice A x.ext.length c] 113)).drew
 generalize (w.alloc (.cells #[St x.name,.int .i64 x.size,.slice A x.ext.length c] 113)).drew=w1 at *
 have hS:Below w1.heap.size w1 w1:=Below.refl _ _
 refine sqH 0 (.pointer (some ⟨w.heap.size,0,none⟩)) rfl (Or.inl ⟨by rfl,fun _ _=>by go_simp⟩) hS ?_
 try simp only[Act.put,sqX]
 refine sqH 1 (St x.name) rfl (zai rfl 9 (.tmp 4) rfl _ _ rfl fun w h=>zal zhb ((Below.cell (p:=⟨_,0,none⟩) h hg').trans c0')) hS ?_
 try simp only[Act.put,sqX]
 refine wpAnyH_all (rs:=[2]) (by kernel_rfl) (by simp) fun i hi=>?_
 obtain rfl:i=2:=by simpa using hi
 refine zbf (om:=⟨_,_,_,_,_,_⟩) (fn:=94) (args:=#[St x.name]) (R:=fun u W=>u=.bool true∧Below w1.heap.size w1 W) rfl rfl (by go_simp)
  ((HN.out w1).mono fun e W ⟨he,hb⟩=>⟨_,he,rfl,hb⟩) _ _ rfl rfl ?_
 rintro u w2 ⟨rfl,hb⟩
 have hS:Below w1.heap.size w1 w2:=Below.trans hS (hb.mono hS.size)
 clear hb hi
 refine⟨hS,?_⟩
 try simp only[Act.put,sqX]
 refine sqH 3 (.bool true) rfl (Or.inl ⟨by rfl,fun _ _=>rfl⟩) hS ?_
 try simp only[Act.put,sqX]
 refine sqH 4 (.pointer (some ⟨w.heap.size,1,none⟩)) rfl (Or.inl ⟨by rfl,fun _ _=>by go_simp⟩) hS ?_
 try simp only[Act.put,sqX]
 refine sqH 5 (.int .i64 x.size) rfl (zai rfl 3 (.tmp 8) rfl _ _ rfl fun w h=>zal zdm ((Below.cell (p:=⟨_,1,none⟩) h hg').trans c1')) hS ?_
 try simp only[Act.put,sqX]
 refine sqH 6 (.bool true) rfl (Or.inl ⟨by rfl,fun _ _=>by go_simp⟩) hS ?_
 try simp only[Act.put,sqX]
 refine sqH 7 (.bool true) rfl (Or.inl ⟨by rfl,fun _ _=>by go_simp⟩) hS ?_
 try simp only[Act.put,sqX]
 refine sqH 8 (.bool true) rfl (Or.inl ⟨by rfl,fun _ _=>rfl⟩) hS ?_
 try simp only[Act.put,sqX]
 refine sqH 9 (.pointer (some ⟨w.heap.size,1,none⟩)) rfl (Or.inl ⟨by rfl,fun _ _=>by go_simp⟩) hS ?_
 try simp only[Act.put,sqX]
 refine sqH 10 (.int .i64 x.size) rfl (zai rfl 3 (.tmp 13) rfl _ _ rfl fun w h=>zal zdm ((Below.cell (p:=⟨_,1,none⟩) h hg').trans c1')) hS ?_
 try simp only[Act.put,sqX]
 refine sqH 11 (.bool true) rfl (Or.inl ⟨by rfl,fun _ _=>by go_simp⟩) hS ?_
 try simp only[Act.put,sqX]
 refine sqH 12 (.bool true) rfl (Or.inl ⟨by rfl,fun _ _=>by go_simp⟩) hS ?_
 try simp only[Act.put,sqX]
 refine sqH 13 (.bool true) rfl (Or.inl ⟨by rfl,fun _ _=>rfl⟩) hS ?_
 try simp only[Act.put,sqX]
 refine sqH 14 (.pointer (some ⟨w.heap.size,2,none⟩)) rfl (Or.inl ⟨by rfl,fun _ _=>by go_simp⟩) hS ?_
 try simp only[Act.put,sqX]
 refine sqH 15 (.slice A x.ext.length c) rfl (zai rfl 111 (.tmp 18) rfl _ _ rfl fun w h=>zal aggX ((Below.cell (p:=⟨_,2,none⟩) h hg').trans c2')) hS ?_
 try simp only[Act.put,sqX]
 refine wpAnyH_all (rs:=[16]) (by kernel_rfl) (by simp) fun i hi=>?_
 obtain rfl:i=16:=by simpa using hi
 refine zbf (om:=⟨_,_,_,_,_,_⟩) (fn:=166) (args:=#[.slice A x.ext.length c]) (R:=fun u W=>u=.int .i64 0∧Below w2.heap.size w2 W) rfl rfl (by go_simp)
  ((HC.out w2 hS).mono fun e W ⟨he,hb⟩=>⟨_,he,rfl,hb⟩) _ _ rfl rfl ?_
 rintro u w3 ⟨rfl,hb⟩
 have hS:Below w1.heap.size w1 w3:=Below.trans hS (hb.mono hS.size)
 clear hb hi
 refine⟨hS,?_⟩
 try simp only[Act.put,sqX]
 refine sqH 17 (.bool true) rfl (Or.inl ⟨by rfl,fun _ _=>by go_simp⟩) hS ?_
 try simp only[Act.put,sqX]
 refine sqH 18 (.bool true) rfl (Or.inl ⟨by rfl,fun _ _=>by go_simp⟩) hS ?_
 try simp only[Act.put,sqX]
 refine sqH 19 (.bool true) rfl (Or.inl ⟨by rfl,fun _ _=>rfl⟩) hS ?_
 try simp only[Act.put,sqX]
 refine sqH 20 (.pointer (some ⟨w.heap.size,2,none⟩)) rfl (Or.inl ⟨by rfl,fun _ _=>by go_simp⟩) hS ?_
 try simp only[Act.put,sqX]
 refine sqH 21 (.slice A x.ext.length c) rfl (zai rfl 111 (.tmp 24) rfl _ _ rfl fun w h=>zal aggX ((Below.cell (p:=⟨_,2,none⟩) h hg').trans c2')) hS ?_
 try simp only[Act.put,sqX]
 refine sqH 23 (.pointer (some ⟨w.heap.size,1,none⟩)) rfl (Or.inl ⟨by rfl,fun _ _=>by go_simp⟩) hS ?_
 try simp only[Act.put,sqX]
 refine sqH 24 (.int .i64 x.size) rfl (zai rfl 3 (.tmp 27) rfl _ _ rfl fun w h=>zal zdm ((Below.cell (p:=⟨_,1,none⟩) h hg').trans c1')) hS ?_
 try simp only[Act.put,sqX]
 refine wpAnyH_all (rs:=[22]) (by kernel_rfl) (by simp) fun i hi=>?_
 obtain rfl:i=22:=by simpa using hi
 refine zbf (om:=⟨_,_,_,_,_,_⟩) (fn:=157) (args:=#[.slice A x.ext.length c]) (R:=fun u W=>u=.int .i64 ((za4 x.ext).length:Nat)∧Below w3.heap.size w3 W) rfl rfl (by go_simp)
  ((HT.out w3 hS).mono fun e W ⟨he,hb⟩=>⟨_,he,rfl,hb⟩) _ _ rfl rfl ?_
 rintro u w4 ⟨rfl,hb⟩
 have hS:Below w1.heap.size w1 w4:=Below.trans hS (hb.mono hS.size)
 clear hb hi
 refine⟨hS,?_⟩
 try simp only[Act.put,sqX]
 refine wpAnyH_all (rs:=[25]) (by kernel_rfl) (by simp) fun i hi=>?_
 obtain rfl:i=25:=by simpa using hi
 refine zbf (om:=⟨_,_,_,_,_,_⟩) (fn:=143) (args:=#[.int .i64 x.size]) (R:=fun u W=>u=.int .i64 (zbq x.size)∧W=w4) rfl rfl (by go_simp)
  ((HD.out w4).mono fun e W ⟨he,hb⟩=>⟨_,he,rfl,hb⟩) _ _ rfl rfl ?_
 rintro u W ⟨rfl,rfl⟩
 clear hi
 refine⟨hS,?_⟩
 try simp only[Act.put,sqX]
 refine sqH 26 (.bool (decide (((za4 x.ext).length:Int)=zbq x.size))) rfl (Or.inl ⟨by rfl,fun _ _=>by go_simp;rfl⟩) hS ?_
 try simp only[Act.put,sqX]
 refine sqH 27 (.bool (decide (((za4 x.ext).length:Int)=zbq x.size))) rfl (Or.inl ⟨by rfl,fun _ _=>by go_simp⟩) hS ?_
 try simp only[Act.put,sqX]
 refine sqH 28 (.bool (decide (((za4 x.ext).length:Int)=zbq x.size))) rfl (Or.inl ⟨by rfl,fun _ _=>rfl⟩) hS ?_
 try simp only[Act.put,sqX]
 refine wpAnyH_done (by kernel_rfl) ?_ _
 try simp only[Act.put,sqX]
 have HF:=zq (HB.out.trans (hS.mono (Nat.le_of_lt hg')))
 clear hS
 by_cases hq:((za4 x.ext).length:Int)=zbq x.size
 ·have hd:decide (((za4 x.ext).length:Int)=zbq x.size)=true:=by simp[hq]
  have he:=HCE.out
  rw[zp hq] at he
  have HE:=zq he
  rw[hd]
  clear he hq HCE hd
  go_wp2_with fail
  go_ret
  exact⟨by rw[HE.out];rfl,HF.out⟩
 ·have hd:decide (((za4 x.ext).length:Int)=zbq x.size)=false:=by simp[hq]
  have he:=HCE.out
  rw[zn hq] at he
  have HE:=zq he
  rw[hd]
  clear he hq HCE hd
  go_wp2_with fail
  go_ret
  exact⟨by rw[HE.out];rfl,HF.out⟩
theorem zpq (x:IN)(A:Option Addr)(c:Nat)(w:World)(hx:InOk w x A):Calls Tryz.prog 151 #[ag x A c] w (zcx w (.int .i64 (ze1 x))):=by
 by_cases h0:zbg x.name=true
 ·by_cases h1:0≤x.size
  ·by_cases h2:x.size≤1472
   ·by_cases h3:ok x.ext=true
    ·exact check4 x A c w hx h0 h1 h2 h3
    ·have h3':ok x.ext=false:=by simpa using h3
     have:=check3 x A c w hx h0 h1 h2 h3'
     rwa [show ze1 x=110 by simp[ze1,zd6,h3']]
   ·have:=check2 x A c w hx h0 h1 (by omega)
    rwa [show ze1 x=110 by simp[ze1,zd6,h2]]
  ·have:=check1 x A c w hx h0 (by omega)
   rwa [show ze1 x=110 by simp[ze1,zd6,h1]]
 ·have h0':zbg x.name=false:=by simpa using h0
  have:=check0 x A c w hx h0'
  rwa [show ze1 x=110 by simp[ze1,zd6,h0']]
theorem zqn (x:IN)(A:Option Addr)(c:Nat)(w:World)(hx:InOk w x A):Calls Tryz.prog 126 #[ag x A c] w (zcx w (.int .i64 (ze1 x))):=by
 have hB:Hid (Calls Tryz.prog 110 #[.slice A x.ext.length c] (w.alloc (.cells #[St x.name,.int .i64 x.size,.slice A x.ext.length c] 113)) (BlocksOut (w.alloc (.cells #[St x.name,.int .i64 x.size,.slice A x.ext.length c] 113)) x.ext)):=by
  have hi:=hx.below ((Below.refl _ _).alloc (Nat.le_refl _) (.cells #[St x.name,.int .i64 x.size,.slice A x.ext.length c] 113))
  exact zcc A x.ext c _ hi.xr hi.few
 have hN:Hid (∀ W,Calls Tryz.prog 66 #[St x.name] W (fun e w'=>e=.returned (.bool (zbg x.name))∧w'=W)):=fun W=>zlz x.name W (Nat.le_trans hx.name (by decide))
 have hD:Hid (∀ W,Calls Tryz.prog 111 #[.int .i64 x.size] W (fun e w'=>e=.returned (.int .i64 (zbq x.size))∧w'=W)):=fun W=>zqd x.size W hx.size
 have c0:(w.alloc (.cells #[St x.name,.int .i64 x.size,.slice A x.ext.length c] 113)).cell? ⟨w.heap.size,0,none⟩=some (St x.name):=by rw[cell_of_row _ _ _ _ _ _ (heap_alloc_new w _)];rfl
 have c1:(w.alloc (.cells #[St x.name,.int .i64 x.size,.slice A x.ext.length c] 113)).cell? ⟨w.heap.size,1,none⟩=some (.int .i64 x.size):=by rw[cell_of_row _ _ _ _ _ _ (heap_alloc_new w _)];rfl
 have c2:(w.alloc (.cells #[St x.name,.int .i64 x.size,.slice A x.ext.length c] 113)).cell? ⟨w.heap.size,2,none⟩=some (.slice A x.ext.length c):=by rw[cell_of_row _ _ _ _ _ _ (heap_alloc_new w _)];rfl
 have hb:Below w.heap.size w (w.alloc (.cells #[St x.name,.int .i64 x.size,.slice A x.ext.length c] 113)):=(Below.refl _ _).alloc (Nat.le_refl _) _
 have hg:w.heap.size<(w.alloc (.cells #[St x.name,.int .i64 x.size,.slice A x.ext.length c] 113)).heap.size:=by rw[World.size_alloc];omega
 have HB:=zq hb
 clear hx hb
 go_enter Tryz.func126,Tryz.ntmps126
 go_wp2_with fail
 refine hB.out.mono ?_
 clear hB
 rintro e w2 ⟨R,cap,rfl,_,b2⟩
 have k0:w2.cell? ⟨w.heap.size,0,none⟩=some (St x.name):=(b2.cell (p:=⟨_,0,none⟩) hg).trans c0
 have k1:w2.cell? ⟨w.heap.size,1,none⟩=some (.int .i64 x.size):=(b2.cell (p:=⟨_,1,none⟩) hg).trans c1
 have k2:w2.cell? ⟨w.heap.size,2,none⟩=some (.slice A x.ext.length c):=(b2.cell (p:=⟨_,2,none⟩) hg).trans c2
 have HF:=zq (HB.out.trans (b2.mono (Nat.le_of_lt hg)))
 clear b2 HB c0 c1 c2 hg
 by_cases h3:ok x.ext=true
 ·by_cases h0:zbg x.name=true
  ·by_cases h1:0≤x.size
   ·have d1:decide (x.size<0)=false:=by simp;omega
    by_cases h2:x.size≤1472
    ·have d2:decide ((1472:Int)<x.size)=false:=by simp;omega
     have hce:ze1 x=if ((za4 x.ext).length:Int)=zbq x.size then 0 else 110:=by
      simp[ze1,zd6,h0,h1,h2,h3]
     by_cases hq:((za4 x.ext).length:Int)=zbq x.size
     ·have hd:(((za4 x.ext).length:Int) != zbq x.size)=false:=by simp[hq]
      rw[zp hq] at hce
      have HE:=zq hce
      rw[h3]
      rw[h0] at hN
      clear hce hq h1 h2 h3 h0
      generalize (za4 x.ext).length=n at *
      generalize zbq x.size=m at *
      go_wp2_with fail
      refine(hN.out _).mono ?_
      rintro e w3 ⟨rfl,rfl⟩
      go_wp2_with fail
      refine(hD.out _).mono ?_
      rintro e w3 ⟨rfl,rfl⟩
      go_wp2_with fail
      go_ret
      exact⟨by rw[HE.out];rfl,HF.out⟩
     ·have hd:(((za4 x.ext).length:Int) != zbq x.size)=true:=by simp[hq]
      rw[zn hq] at hce
      have HE:=zq hce
      rw[h3]
      rw[h0] at hN
      clear hce hq h1 h2 h3 h0
      generalize (za4 x.ext).length=n at *
      generalize zbq x.size=m at *
      go_wp2_with fail
      refine(hN.out _).mono ?_
      rintro e w3 ⟨rfl,rfl⟩
      go_wp2_with fail
      refine(hD.out _).mono ?_
      rintro e w3 ⟨rfl,rfl⟩
      go_wp2_with fail
      go_ret
      exact⟨by rw[HE.out];rfl,HF.out⟩
    ·have d2:decide ((1472:Int)<x.size)=true:=by simp;omega
     have HE:=zq (show ze1 x=110 by simp[ze1,zd6,h2])
     rw[h3]
     rw[h0] at hN
     clear h1 h2 h3 h0
     go_wp2_with fail
     refine(hN.out _).mono ?_
     rintro e w3 ⟨rfl,rfl⟩
     go_wp2_with fail
     go_ret
     exact⟨by rw[HE.out];rfl,HF.out⟩
   ·have d1:decide (x.size<0)=true:=by simp;omega
    have HE:=zq (show ze1 x=110 by simp[ze1,zd6,h1])
    rw[h3]
    rw[h0] at hN
    clear h1 h3 h0
    go_wp2_with fail
    refine(hN.out _).mono ?_
    rintro e w3 ⟨rfl,rfl⟩
    go_wp2_with fail
    go_ret
    exact⟨by rw[HE.out];rfl,HF.out⟩
  ·have h0':zbg x.name=false:=by simpa using h0
   have HE:=zq (show ze1 x=110 by simp[ze1,zd6,h0'])
   rw[h3]
   rw[h0'] at hN
   clear h3 h0 h0'
   go_wp2_with fail
   refine(hN.out _).mono ?_
   rintro e w3 ⟨rfl,rfl⟩
   go_wp2_with fail
   go_ret
   exact⟨by rw[HE.out];rfl,HF.out⟩
 ·have h3':ok x.ext=false:=by simpa using h3
  have HE:=zq (show ze1 x=110 by simp[ze1,zd6,h3'])
  rw[h3']
  clear h3 h3'
  go_wp2_with fail
  go_ret
  exact⟨by rw[HE.out];rfl,HF.out⟩
end Go.Proofs.YtdopfpcjpjlkmaaGreatDoor.Ino
