/- merged -/
import Derived.Test.YtdopfpcjpjlkmaaGreatDoorGA
import Derived.WalkLawsBesides
set_option maxHeartbeats 400000
namespace Go.Proofs.YtdopfpcjpjlkmaaGreatDoor
section
open Go.RowKit
set_option maxRecDepth 100000 in
theorem ze6 (l a i:Int)(w:World)(hl:0≤l)(hl':l≤4611686018427387904)(ha:-9223372036854775808≤a)(hi:0≤i)(hi':i≤4611686018427387904):
  Calls Tryz.prog 136 #[.int .i64 l,.int .i64 a,.int .i64 i] w fun e w'=>e=.returned (.bool (decide (0≤a+i) && decide (a+i<l)))∧w=w':=by
 by_cases h1:a<l
 ·by_cases h2:0≤a+i
  ·by_cases h3:a+i<l
   ·go_enter Tryz.func136,Tryz.ntmps136
    go_wp2
    go_ret
    exact⟨zge (by simp[h2,h3]),rfl⟩
   ·go_enter Tryz.func136,Tryz.ntmps136
    go_wp2
    go_ret
    exact⟨zge (by simp[h3]),rfl⟩
  ·go_enter Tryz.func136,Tryz.ntmps136
   go_wp2
   go_ret
   exact⟨zge (by simp;omega),rfl⟩
 ·have h3:¬a+i<l:=by omega
  go_enter Tryz.func136,Tryz.ntmps136
  go_wp2
  go_ret
  exact⟨zge (by simp[h3]),rfl⟩
set_option maxRecDepth 100000 in
theorem zna (n m:Int)(w:World):
  Calls Tryz.prog 137 #[.int .i64 n,.int .i64 m] w fun e w'=>e=.returned (.int .i64 (zds n m))∧w=w':=by
 unfold zds
 go_enter Tryz.func137,Tryz.ntmps137
 go_wp2
 all_goals
  go_ret
  exact⟨rfl,rfl⟩
set_option maxRecDepth 100000 in
theorem zx7 (A:Option Addr)(xs:List UInt8)(c:Nat)(a i:Int)(w:World)(hx:BR w w.heap.size A xs)(hl':xs.length≤1000000)(ha:-9223372036854775808≤a)(hi:0≤i)(hi':i≤4611686018427387904):
  Calls Tryz.prog 175 #[.slice A xs.length c,.int .i64 a,.int .i64 i] w fun e w'=>e=.returned (B8 (byt xs (a+i)))∧w=w':=by
 by_cases h:0≤a+i∧a+i<xs.length
 ·obtain⟨h2,h3⟩:=h
  have hb:(decide (0≤a+i) && decide (a+i<(xs.length:Int)))=true:=by simp[h2,h3]
  obtain⟨ad,rfl,_,hc⟩:=hx.at_ (k:=(a+i).toNat) (by omega)
  have he:=zcl xs (a+i) h2
  rw[← he] at hc
  have HE:=zq he
  clear he hx
  go_enter Tryz.func175,Tryz.ntmps175
  go_wp2_with (go_at_call 136;refine(ze6 _ _ _ _ (by omega) (by omega) ha hi hi').mono ?_;rintro e w' ⟨rfl,rfl⟩)
  go_ret
  exact⟨rfl,rfl⟩
 ·have hb:(decide (0≤a+i) && decide (a+i<(xs.length:Int)))=false:=by
   rw[Bool.eq_false_iff];simp;omega
  have he:=zff xs (a+i) (by omega)
  have HE:=zq he
  clear he hx
  go_enter Tryz.func175,Tryz.ntmps175
  go_wp2_with (go_at_call 136;refine(ze6 _ _ _ _ (by omega) (by omega) ha hi hi').mono ?_;rintro e w' ⟨rfl,rfl⟩)
  go_ret
  exact⟨by rw[HE.out];rfl,rfl⟩
end
section
open Go.RowKit
theorem Tryz.info8:(Tryz.prog.info? 5).map (fun i=>(i.zero,i.size,i.bytes))=some (some (.int .u8 0),1,1):=by kernel_rfl
theorem zfq (n:Nat)(hn:n≤1000000)(w:World):
  (Instr.makeSlice 31 (.int .i64 (n:Int)) (.int .i64 (n:Int))).run Tryz.prog w=.ok (.slice (some ⟨w.heap.size,0,none⟩) n n) (w.alloc (.cells (madeCells #[.int .u8 0] n) 5)):=by
 obtain⟨i0,hi,hz0,hz1,hz2⟩:=info_parts Tryz.info8
 exact run_make_row 31 5 i0 (.int .u8 0) Tryz.underlying31 hi hz0 hz1 rfl .i64 .i64 n (by rw[hz2];omega) (by omega) w
end
section
open Go.RowKit
end
end Go.Proofs.YtdopfpcjpjlkmaaGreatDoor
