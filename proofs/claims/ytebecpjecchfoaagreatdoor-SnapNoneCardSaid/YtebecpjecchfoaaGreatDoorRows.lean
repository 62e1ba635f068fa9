/-
  NARROWER THAN 'FOR EVERY INPUT', by the rows' own cells (each row's printed sentence says how): SnapActs: laid · SnapOpens: laid · SnapEach: laid · SnapCrashes: laid · SnapGoesOn: laid · SnapRoom: laid · SnapNone: laid · MemStores: laid.
  DERIVED. THE GIVEN ROWS OF THIS SEAT. 8 by the template 'for every input the law returns true; each argument reads behind the call as it read before'; 0 by the template 'total and deterministic' (their statements: YtebecpjecchfoaaGreatDoorTotals.lean).
  GIVEN WITH THE SEED: the statements are not yours to turn. If you find one false, say at which input.
  Laid BY PROGRAM, IN A SANDBOX (cutbox-rows.mjs): the forced cells as the released guide's own fill.sh prints them over the translation 5b5a4dc0d89f4235… (all of the seat's roots in one cut). By AI agents, Wed Nov 11 2026. No macro, syntax, notation, axiom, sorry.
-/
import Derived.Test.YtebecpjecchfoaaGreatDoorChecked
import GoSem.Claim
import GoSem.ClaimJoined
import GoSem.ClaimMapViews
import Derived.JoinedTies
import Derived.KernelRfl
namespace Go.Proofs.YtebecpjecchfoaaGreatDoor
/- THE CELL 'sum', in the pinned program and in every row, IS THE sha256 OF THE DUMP (.gsa) THAT YtebecpjecchfoaaGreatDoorProg.lean LOADS. Nothing in Lean hashes anything: it is a label: what it is worth is what the hold of that sum in a sandbox is worth. -/
noncomputable def Tryz.pinned : Pinned := { name := "ytebecpjecchfoaagreatdoor", sum := "5b5a4dc0d89f4235a31e5302407e804b9095464a2298b84cb867d4bc380195c3", checked := Tryz.checked }
namespace Rows
def none {H : Type} : Left H := { results := [], args := [] }

/- WHAT THE LISTED PACKAGE-LEVEL VARIABLES READ AS WHEN THE CALL BEGINS. Each datum BY PROGRAM (the guide's laid-datum.mjs) off the statement by which the dump's own 'gosem.cut.vars' lays the variable. In a bare row this is a premise. The card (YtebecpjecchfoaaGreatDoorCards.lean) ties it to the program's text. -/
def laid_math_bits_deBruijn64tab {H : Type} : DataW H := .agg [.lit (.int .u8 0), .lit (.int .u8 1), .lit (.int .u8 56), .lit (.int .u8 2), .lit (.int .u8 57), .lit (.int .u8 49), .lit (.int .u8 28), .lit (.int .u8 3), .lit (.int .u8 61), .lit (.int .u8 58), .lit (.int .u8 42), .lit (.int .u8 50), .lit (.int .u8 38), .lit (.int .u8 29), .lit (.int .u8 17), .lit (.int .u8 4), .lit (.int .u8 62), .lit (.int .u8 47), .lit (.int .u8 59), .lit (.int .u8 36), .lit (.int .u8 45), .lit (.int .u8 43), .lit (.int .u8 51), .lit (.int .u8 22), .lit (.int .u8 53), .lit (.int .u8 39), .lit (.int .u8 33), .lit (.int .u8 30), .lit (.int .u8 24), .lit (.int .u8 18), .lit (.int .u8 12), .lit (.int .u8 5), .lit (.int .u8 63), .lit (.int .u8 55), .lit (.int .u8 48), .lit (.int .u8 27), .lit (.int .u8 60), .lit (.int .u8 41), .lit (.int .u8 37), .lit (.int .u8 16), .lit (.int .u8 46), .lit (.int .u8 35), .lit (.int .u8 44), .lit (.int .u8 21), .lit (.int .u8 52), .lit (.int .u8 32), .lit (.int .u8 23), .lit (.int .u8 11), .lit (.int .u8 54), .lit (.int .u8 26), .lit (.int .u8 40), .lit (.int .u8 15), .lit (.int .u8 34), .lit (.int .u8 20), .lit (.int .u8 31), .lit (.int .u8 10), .lit (.int .u8 25), .lit (.int .u8 14), .lit (.int .u8 19), .lit (.int .u8 9), .lit (.int .u8 13), .lit (.int .u8 8), .lit (.int .u8 7), .lit (.int .u8 6)]

/-- 'carrellaw08.SnapActs': WHATEVER THE INPUT: true; the input reads as it did. -/
def snapActsSpec : ChangeSpec := { name := "snapActs", fn := fun _ => fun
  | [d1, d2] => { results := [.lit (.bool true)], args := [d1, d2] }
  | _ => none }
def snapActsRow : OpenClaim := { program := "ytebecpjecchfoaagreatdoor", sum := "5b5a4dc0d89f4235a31e5302407e804b9095464a2298b84cb867d4bc380195c3", func := "carrel/carrellaw08.SnapActs", spec := "snapActs", unfollowed := true, recurses := true, named := ["math/bits.deBruijn64tab"], apart := false, laid := [("math/bits.deBruijn64tab", laid_math_bits_deBruijn64tab)] }
def SnapActsSaid : Prop := snapActsRow.holds Tryz.pinned (OpenSpec.ofChange snapActsSpec)

/-- ITS FALSE NEIGHBOUR: 'it returns false'. Refute it at one input. -/
def snapActsWrong : ChangeSpec := { name := "snapActs", fn := fun _ => fun
  | [d1, d2] => { results := [.lit (.bool false)], args := [d1, d2] }
  | _ => none }
def SnapActsWrongFalsely : Prop := snapActsRow.holds Tryz.pinned (OpenSpec.ofChange snapActsWrong)

/-- 'carrellaw08.SnapOpens': WHATEVER THE INPUT: true; the input reads as it did. -/
def snapOpensSpec : ChangeSpec := { name := "snapOpens", fn := fun _ => fun
  | [d1, d2, d3] => { results := [.lit (.bool true)], args := [d1, d2, d3] }
  | _ => none }
def snapOpensRow : OpenClaim := { program := "ytebecpjecchfoaagreatdoor", sum := "5b5a4dc0d89f4235a31e5302407e804b9095464a2298b84cb867d4bc380195c3", func := "carrel/carrellaw08.SnapOpens", spec := "snapOpens", unfollowed := true, recurses := true, named := ["math/bits.deBruijn64tab"], apart := false, laid := [("math/bits.deBruijn64tab", laid_math_bits_deBruijn64tab)] }
def SnapOpensSaid : Prop := snapOpensRow.holds Tryz.pinned (OpenSpec.ofChange snapOpensSpec)

/-- ITS FALSE NEIGHBOUR: 'it returns false'. Refute it at one input. -/
def snapOpensWrong : ChangeSpec := { name := "snapOpens", fn := fun _ => fun
  | [d1, d2, d3] => { results := [.lit (.bool false)], args := [d1, d2, d3] }
  | _ => none }
def SnapOpensWrongFalsely : Prop := snapOpensRow.holds Tryz.pinned (OpenSpec.ofChange snapOpensWrong)

/-- 'carrellaw08.SnapEach': WHATEVER THE INPUT: true; the input reads as it did. -/
def snapEachSpec : ChangeSpec := { name := "snapEach", fn := fun _ => fun
  | [d1, d2] => { results := [.lit (.bool true)], args := [d1, d2] }
  | _ => none }
def snapEachRow : OpenClaim := { program := "ytebecpjecchfoaagreatdoor", sum := "5b5a4dc0d89f4235a31e5302407e804b9095464a2298b84cb867d4bc380195c3", func := "carrel/carrellaw08.SnapEach", spec := "snapEach", unfollowed := true, recurses := true, named := ["math/bits.deBruijn64tab"], apart := false, laid := [("math/bits.deBruijn64tab", laid_math_bits_deBruijn64tab)] }
def SnapEachSaid : Prop := snapEachRow.holds Tryz.pinned (OpenSpec.ofChange snapEachSpec)

/-- ITS FALSE NEIGHBOUR: 'it returns false'. Refute it at one input. -/
def snapEachWrong : ChangeSpec := { name := "snapEach", fn := fun _ => fun
  | [d1, d2] => { results := [.lit (.bool false)], args := [d1, d2] }
  | _ => none }
def SnapEachWrongFalsely : Prop := snapEachRow.holds Tryz.pinned (OpenSpec.ofChange snapEachWrong)

/-- 'carrellaw08.SnapCrashes': WHATEVER THE INPUT: true; the input reads as it did. -/
def snapCrashesSpec : ChangeSpec := { name := "snapCrashes", fn := fun _ => fun
  | [d1, d2, d3, d4, d5] => { results := [.lit (.bool true)], args := [d1, d2, d3, d4, d5] }
  | _ => none }
def snapCrashesRow : OpenClaim := { program := "ytebecpjecchfoaagreatdoor", sum := "5b5a4dc0d89f4235a31e5302407e804b9095464a2298b84cb867d4bc380195c3", func := "carrel/carrellaw08.SnapCrashes", spec := "snapCrashes", unfollowed := true, recurses := true, named := ["math/bits.deBruijn64tab"], apart := false, laid := [("math/bits.deBruijn64tab", laid_math_bits_deBruijn64tab)] }
def SnapCrashesSaid : Prop := snapCrashesRow.holds Tryz.pinned (OpenSpec.ofChange snapCrashesSpec)

/-- ITS FALSE NEIGHBOUR: 'it returns false'. Refute it at one input. -/
def snapCrashesWrong : ChangeSpec := { name := "snapCrashes", fn := fun _ => fun
  | [d1, d2, d3, d4, d5] => { results := [.lit (.bool false)], args := [d1, d2, d3, d4, d5] }
  | _ => none }
def SnapCrashesWrongFalsely : Prop := snapCrashesRow.holds Tryz.pinned (OpenSpec.ofChange snapCrashesWrong)

/-- 'carrellaw08.SnapGoesOn': WHATEVER THE INPUT: true; the input reads as it did. -/
def snapGoesOnSpec : ChangeSpec := { name := "snapGoesOn", fn := fun _ => fun
  | [d1, d2, d3, d4, d5, d6, d7] => { results := [.lit (.bool true)], args := [d1, d2, d3, d4, d5, d6, d7] }
  | _ => none }
def snapGoesOnRow : OpenClaim := { program := "ytebecpjecchfoaagreatdoor", sum := "5b5a4dc0d89f4235a31e5302407e804b9095464a2298b84cb867d4bc380195c3", func := "carrel/carrellaw08.SnapGoesOn", spec := "snapGoesOn", unfollowed := true, recurses := true, named := ["math/bits.deBruijn64tab"], apart := false, laid := [("math/bits.deBruijn64tab", laid_math_bits_deBruijn64tab)] }
def SnapGoesOnSaid : Prop := snapGoesOnRow.holds Tryz.pinned (OpenSpec.ofChange snapGoesOnSpec)

/-- ITS FALSE NEIGHBOUR: 'it returns false'. Refute it at one input. -/
def snapGoesOnWrong : ChangeSpec := { name := "snapGoesOn", fn := fun _ => fun
  | [d1, d2, d3, d4, d5, d6, d7] => { results := [.lit (.bool false)], args := [d1, d2, d3, d4, d5, d6, d7] }
  | _ => none }
def SnapGoesOnWrongFalsely : Prop := snapGoesOnRow.holds Tryz.pinned (OpenSpec.ofChange snapGoesOnWrong)

/-- 'carrellaw08.SnapRoom': WHATEVER THE INPUT: true; the input reads as it did. -/
def snapRoomSpec : ChangeSpec := { name := "snapRoom", fn := fun _ => fun
  | [d1, d2] => { results := [.lit (.bool true)], args := [d1, d2] }
  | _ => none }
def snapRoomRow : OpenClaim := { program := "ytebecpjecchfoaagreatdoor", sum := "5b5a4dc0d89f4235a31e5302407e804b9095464a2298b84cb867d4bc380195c3", func := "carrel/carrellaw08.SnapRoom", spec := "snapRoom", unfollowed := true, recurses := true, named := ["math/bits.deBruijn64tab"], apart := false, laid := [("math/bits.deBruijn64tab", laid_math_bits_deBruijn64tab)] }
def SnapRoomSaid : Prop := snapRoomRow.holds Tryz.pinned (OpenSpec.ofChange snapRoomSpec)

/-- ITS FALSE NEIGHBOUR: 'it returns false'. Refute it at one input. -/
def snapRoomWrong : ChangeSpec := { name := "snapRoom", fn := fun _ => fun
  | [d1, d2] => { results := [.lit (.bool false)], args := [d1, d2] }
  | _ => none }
def SnapRoomWrongFalsely : Prop := snapRoomRow.holds Tryz.pinned (OpenSpec.ofChange snapRoomWrong)

/-- 'carrellaw08.SnapNone': WHATEVER THE INPUT: true; the input reads as it did. -/
def snapNoneSpec : ChangeSpec := { name := "snapNone", fn := fun _ => fun
  | [d1, d2, d3] => { results := [.lit (.bool true)], args := [d1, d2, d3] }
  | _ => none }
def snapNoneRow : OpenClaim := { program := "ytebecpjecchfoaagreatdoor", sum := "5b5a4dc0d89f4235a31e5302407e804b9095464a2298b84cb867d4bc380195c3", func := "carrel/carrellaw08.SnapNone", spec := "snapNone", unfollowed := true, recurses := true, named := ["math/bits.deBruijn64tab"], apart := false, laid := [("math/bits.deBruijn64tab", laid_math_bits_deBruijn64tab)] }
def SnapNoneSaid : Prop := snapNoneRow.holds Tryz.pinned (OpenSpec.ofChange snapNoneSpec)

/-- ITS FALSE NEIGHBOUR: 'it returns false'. Refute it at one input. -/
def snapNoneWrong : ChangeSpec := { name := "snapNone", fn := fun _ => fun
  | [d1, d2, d3] => { results := [.lit (.bool false)], args := [d1, d2, d3] }
  | _ => none }
def SnapNoneWrongFalsely : Prop := snapNoneRow.holds Tryz.pinned (OpenSpec.ofChange snapNoneWrong)

/-- 'carrellaw09.MemStores': WHATEVER THE INPUT: true; the input reads as it did. -/
def memStoresSpec : ChangeSpec := { name := "memStores", fn := fun _ => fun
  | [d1, d2] => { results := [.lit (.bool true)], args := [d1, d2] }
  | _ => none }
def memStoresRow : OpenClaim := { program := "ytebecpjecchfoaagreatdoor", sum := "5b5a4dc0d89f4235a31e5302407e804b9095464a2298b84cb867d4bc380195c3", func := "carrel/carrellaw09.MemStores", spec := "memStores", unfollowed := true, recurses := true, named := ["math/bits.deBruijn64tab"], apart := false, laid := [("math/bits.deBruijn64tab", laid_math_bits_deBruijn64tab)] }
def MemStoresSaid : Prop := memStoresRow.holds Tryz.pinned (OpenSpec.ofChange memStoresSpec)

/-- ITS FALSE NEIGHBOUR: 'it returns false'. Refute it at one input. -/
def memStoresWrong : ChangeSpec := { name := "memStores", fn := fun _ => fun
  | [d1, d2] => { results := [.lit (.bool false)], args := [d1, d2] }
  | _ => none }
def MemStoresWrongFalsely : Prop := memStoresRow.holds Tryz.pinned (OpenSpec.ofChange memStoresWrong)

/- THE SECOND FORM. 'bulk': how many values and letters a reading holds, each counted each time it is reached (what is shared counts as often as it is met; a slice's spare places count too). A statement '..UptoSaid' is the law's where the arguments, and the package variables that the reading takes, are together of bulk at most 1048576: NARROWER than '..Said'. Prove '..Said' where nothing that the law and all that it calls make is longer than what came in: it says more and counts as full. Else prove '..UptoSaid'. A law counts once. -/
mutual
def uptoBulk {H : Type} : DataW H → Nat
  | .lit (.string bytes) => bytes.length + 1
  | .lit _ => 1
  | .nil => 1
  | .ptr d => uptoBulk d + 1
  | .slice elems spare => uptoBulkAll elems + uptoBulkAll spare + 1
  | .agg parts => uptoBulkAll parts + 1
  | .iface _ d => uptoBulk d + 1
  | .map entries => uptoBulkEntries entries + 1
  | .held _ => 1
def uptoBulkAll {H : Type} : List (DataW H) → Nat
  | [] => 0
  | d :: r => uptoBulk d + uptoBulkAll r
def uptoBulkEntries {H : Type} : List (Lit × DataW H) → Nat
  | [] => 0
  | x :: r => uptoBulkEntry x + uptoBulkEntries r
def uptoBulkEntry {H : Type} : Lit × DataW H → Nat
  | (.string bytes, d) => bytes.length + uptoBulk d + 1
  | (_, d) => uptoBulk d + 1
 end
def uptoSmall : (H : Type) → List (DataW H) → Bool := fun _ ds => decide (uptoBulkAll ds ≤ 1048576)
def OpenSpec.upto (s : _root_.Go.ChangeSpec) : _root_.Go.OpenSpec := { _root_.Go.OpenSpec.ofChange s with cond := some uptoSmall }

/-- 'carrellaw08.SnapActs', WHERE WHAT IT READS IS OF BULK AT MOST 1048576: true; the input reads as it did. -/
def snapActsUptoRow : OpenClaim := { program := "ytebecpjecchfoaagreatdoor", sum := "5b5a4dc0d89f4235a31e5302407e804b9095464a2298b84cb867d4bc380195c3", func := "carrel/carrellaw08.SnapActs", spec := "snapActs", unfollowed := true, recurses := true, named := ["math/bits.deBruijn64tab"], apart := false, laid := [("math/bits.deBruijn64tab", laid_math_bits_deBruijn64tab)], narrowed := true }
def SnapActsUptoSaid : Prop := snapActsUptoRow.holds Tryz.pinned (OpenSpec.upto snapActsSpec)

/-- 'carrellaw08.SnapOpens', WHERE WHAT IT READS IS OF BULK AT MOST 1048576: true; the input reads as it did. -/
def snapOpensUptoRow : OpenClaim := { program := "ytebecpjecchfoaagreatdoor", sum := "5b5a4dc0d89f4235a31e5302407e804b9095464a2298b84cb867d4bc380195c3", func := "carrel/carrellaw08.SnapOpens", spec := "snapOpens", unfollowed := true, recurses := true, named := ["math/bits.deBruijn64tab"], apart := false, laid := [("math/bits.deBruijn64tab", laid_math_bits_deBruijn64tab)], narrowed := true }
def SnapOpensUptoSaid : Prop := snapOpensUptoRow.holds Tryz.pinned (OpenSpec.upto snapOpensSpec)

/-- 'carrellaw08.SnapEach', WHERE WHAT IT READS IS OF BULK AT MOST 1048576: true; the input reads as it did. -/
def snapEachUptoRow : OpenClaim := { program := "ytebecpjecchfoaagreatdoor", sum := "5b5a4dc0d89f4235a31e5302407e804b9095464a2298b84cb867d4bc380195c3", func := "carrel/carrellaw08.SnapEach", spec := "snapEach", unfollowed := true, recurses := true, named := ["math/bits.deBruijn64tab"], apart := false, laid := [("math/bits.deBruijn64tab", laid_math_bits_deBruijn64tab)], narrowed := true }
def SnapEachUptoSaid : Prop := snapEachUptoRow.holds Tryz.pinned (OpenSpec.upto snapEachSpec)

/-- 'carrellaw08.SnapCrashes', WHERE WHAT IT READS IS OF BULK AT MOST 1048576: true; the input reads as it did. -/
def snapCrashesUptoRow : OpenClaim := { program := "ytebecpjecchfoaagreatdoor", sum := "5b5a4dc0d89f4235a31e5302407e804b9095464a2298b84cb867d4bc380195c3", func := "carrel/carrellaw08.SnapCrashes", spec := "snapCrashes", unfollowed := true, recurses := true, named := ["math/bits.deBruijn64tab"], apart := false, laid := [("math/bits.deBruijn64tab", laid_math_bits_deBruijn64tab)], narrowed := true }
def SnapCrashesUptoSaid : Prop := snapCrashesUptoRow.holds Tryz.pinned (OpenSpec.upto snapCrashesSpec)

/-- 'carrellaw08.SnapGoesOn', WHERE WHAT IT READS IS OF BULK AT MOST 1048576: true; the input reads as it did. -/
def snapGoesOnUptoRow : OpenClaim := { program := "ytebecpjecchfoaagreatdoor", sum := "5b5a4dc0d89f4235a31e5302407e804b9095464a2298b84cb867d4bc380195c3", func := "carrel/carrellaw08.SnapGoesOn", spec := "snapGoesOn", unfollowed := true, recurses := true, named := ["math/bits.deBruijn64tab"], apart := false, laid := [("math/bits.deBruijn64tab", laid_math_bits_deBruijn64tab)], narrowed := true }
def SnapGoesOnUptoSaid : Prop := snapGoesOnUptoRow.holds Tryz.pinned (OpenSpec.upto snapGoesOnSpec)

/-- 'carrellaw08.SnapRoom', WHERE WHAT IT READS IS OF BULK AT MOST 1048576: true; the input reads as it did. -/
def snapRoomUptoRow : OpenClaim := { program := "ytebecpjecchfoaagreatdoor", sum := "5b5a4dc0d89f4235a31e5302407e804b9095464a2298b84cb867d4bc380195c3", func := "carrel/carrellaw08.SnapRoom", spec := "snapRoom", unfollowed := true, recurses := true, named := ["math/bits.deBruijn64tab"], apart := false, laid := [("math/bits.deBruijn64tab", laid_math_bits_deBruijn64tab)], narrowed := true }
def SnapRoomUptoSaid : Prop := snapRoomUptoRow.holds Tryz.pinned (OpenSpec.upto snapRoomSpec)

/-- 'carrellaw08.SnapNone', WHERE WHAT IT READS IS OF BULK AT MOST 1048576: true; the input reads as it did. -/
def snapNoneUptoRow : OpenClaim := { program := "ytebecpjecchfoaagreatdoor", sum := "5b5a4dc0d89f4235a31e5302407e804b9095464a2298b84cb867d4bc380195c3", func := "carrel/carrellaw08.SnapNone", spec := "snapNone", unfollowed := true, recurses := true, named := ["math/bits.deBruijn64tab"], apart := false, laid := [("math/bits.deBruijn64tab", laid_math_bits_deBruijn64tab)], narrowed := true }
def SnapNoneUptoSaid : Prop := snapNoneUptoRow.holds Tryz.pinned (OpenSpec.upto snapNoneSpec)

/-- 'carrellaw09.MemStores', WHERE WHAT IT READS IS OF BULK AT MOST 1048576: true; the input reads as it did. -/
def memStoresUptoRow : OpenClaim := { program := "ytebecpjecchfoaagreatdoor", sum := "5b5a4dc0d89f4235a31e5302407e804b9095464a2298b84cb867d4bc380195c3", func := "carrel/carrellaw09.MemStores", spec := "memStores", unfollowed := true, recurses := true, named := ["math/bits.deBruijn64tab"], apart := false, laid := [("math/bits.deBruijn64tab", laid_math_bits_deBruijn64tab)], narrowed := true }
def MemStoresUptoSaid : Prop := memStoresUptoRow.holds Tryz.pinned (OpenSpec.upto memStoresSpec)

end Rows
end Go.Proofs.YtebecpjecchfoaaGreatDoor
