/-
  No cell of these rows narrows 'for every input' (looked for: loops, veiled, ifaces, maps, wideKeys, modest, calm, conditions, laid).
  DERIVED. THE GIVEN ROWS OF THIS SEAT. 4 by the template 'for every input the law returns true; each argument reads behind the call as it read before'; 0 by the template 'total and deterministic' (their statements: YtncignjfmcajgaaTotals.lean).
  GIVEN WITH THE SEED: the statements are not yours to turn. If you find one false, say at which input.
  Laid BY PROGRAM, IN A SANDBOX (cutbox-rows.mjs): the forced cells as the released guide's own fill.sh prints them over the translation 527150517bc02a87… (all of the seat's roots in one cut). By AI agents, Wed Nov 11 2026. No macro, syntax, notation, axiom, sorry.
-/
import Derived.Test.YtncignjfmcajgaaChecked
import GoSem.Claim
import GoSem.ClaimJoined
import GoSem.ClaimMapViews
import Derived.JoinedTies
import Derived.KernelRfl
namespace Go.Proofs.Ytncignjfmcajgaa
/- THE CELL 'sum', in the pinned program and in every row, IS THE sha256 OF THE DUMP (.gsa) THAT YtncignjfmcajgaaProg.lean LOADS. Nothing in Lean hashes anything: it is a label: what it is worth is what the hold of that sum in a sandbox is worth. -/
noncomputable def Try.pinned : Pinned := { name := "ytncignjfmcajgaa", sum := "527150517bc02a872ca145a5754c8ceeef73820f9c2dd07d481eb13fdea7a469", checked := Try.checked }
namespace Rows
def none {H : Type} : Left H := { results := [], args := [] }

/-- 'carrellaw15.DigitsReads': WHATEVER THE INPUT: true; the input reads as it did. -/
def digitsReadsSpec : ChangeSpec := { name := "digitsReads", fn := fun _ => fun
  | [d1, d2] => { results := [.lit (.bool true)], args := [d1, d2] }
  | _ => none }
def digitsReadsRow : OpenClaim := { program := "ytncignjfmcajgaa", sum := "527150517bc02a872ca145a5754c8ceeef73820f9c2dd07d481eb13fdea7a469", func := "carrel/carrellaw15.DigitsReads", spec := "digitsReads", unfollowed := true, recurses := true, apart := false }
def DigitsReadsSaid : Prop := digitsReadsRow.holds Try.pinned (OpenSpec.ofChange digitsReadsSpec)

/-- ITS FALSE NEIGHBOUR: 'it returns false'. Refute it at one input. -/
def digitsReadsWrong : ChangeSpec := { name := "digitsReads", fn := fun _ => fun
  | [d1, d2] => { results := [.lit (.bool false)], args := [d1, d2] }
  | _ => none }
def DigitsReadsWrongFalsely : Prop := digitsReadsRow.holds Try.pinned (OpenSpec.ofChange digitsReadsWrong)

/-- 'carrellaw15.DigitsShows': WHATEVER THE INPUT: true; the input reads as it did. -/
def digitsShowsSpec : ChangeSpec := { name := "digitsShows", fn := fun _ => fun
  | [d1, d2] => { results := [.lit (.bool true)], args := [d1, d2] }
  | _ => none }
def digitsShowsRow : OpenClaim := { program := "ytncignjfmcajgaa", sum := "527150517bc02a872ca145a5754c8ceeef73820f9c2dd07d481eb13fdea7a469", func := "carrel/carrellaw15.DigitsShows", spec := "digitsShows", unfollowed := true, recurses := true, apart := false }
def DigitsShowsSaid : Prop := digitsShowsRow.holds Try.pinned (OpenSpec.ofChange digitsShowsSpec)

/-- ITS FALSE NEIGHBOUR: 'it returns false'. Refute it at one input. -/
def digitsShowsWrong : ChangeSpec := { name := "digitsShows", fn := fun _ => fun
  | [d1, d2] => { results := [.lit (.bool false)], args := [d1, d2] }
  | _ => none }
def DigitsShowsWrongFalsely : Prop := digitsShowsRow.holds Try.pinned (OpenSpec.ofChange digitsShowsWrong)

/-- 'carrellaw15.DigitsBack': WHATEVER THE INPUT: true; the input reads as it did. -/
def digitsBackSpec : ChangeSpec := { name := "digitsBack", fn := fun _ => fun
  | [d1, d2] => { results := [.lit (.bool true)], args := [d1, d2] }
  | _ => none }
def digitsBackRow : OpenClaim := { program := "ytncignjfmcajgaa", sum := "527150517bc02a872ca145a5754c8ceeef73820f9c2dd07d481eb13fdea7a469", func := "carrel/carrellaw15.DigitsBack", spec := "digitsBack", unfollowed := true, recurses := true, apart := false }
def DigitsBackSaid : Prop := digitsBackRow.holds Try.pinned (OpenSpec.ofChange digitsBackSpec)

/-- ITS FALSE NEIGHBOUR: 'it returns false'. Refute it at one input. -/
def digitsBackWrong : ChangeSpec := { name := "digitsBack", fn := fun _ => fun
  | [d1, d2] => { results := [.lit (.bool false)], args := [d1, d2] }
  | _ => none }
def DigitsBackWrongFalsely : Prop := digitsBackRow.holds Try.pinned (OpenSpec.ofChange digitsBackWrong)

/-- 'carrellaw15.DigitsMarks': WHATEVER THE INPUT: true; the input reads as it did. -/
def digitsMarksSpec : ChangeSpec := { name := "digitsMarks", fn := fun _ => fun
  | [d1, d2] => { results := [.lit (.bool true)], args := [d1, d2] }
  | _ => none }
def digitsMarksRow : OpenClaim := { program := "ytncignjfmcajgaa", sum := "527150517bc02a872ca145a5754c8ceeef73820f9c2dd07d481eb13fdea7a469", func := "carrel/carrellaw15.DigitsMarks", spec := "digitsMarks", unfollowed := true, recurses := true, apart := false }
def DigitsMarksSaid : Prop := digitsMarksRow.holds Try.pinned (OpenSpec.ofChange digitsMarksSpec)

/-- ITS FALSE NEIGHBOUR: 'it returns false'. Refute it at one input. -/
def digitsMarksWrong : ChangeSpec := { name := "digitsMarks", fn := fun _ => fun
  | [d1, d2] => { results := [.lit (.bool false)], args := [d1, d2] }
  | _ => none }
def DigitsMarksWrongFalsely : Prop := digitsMarksRow.holds Try.pinned (OpenSpec.ofChange digitsMarksWrong)

/- THE SECOND FORM. 'bulk': how many values and letters a reading holds, each counted each time it is reached (what is shared counts as often as it is met; a slice's spare places count too). A statement '..UptoSaid' is the law's where the arguments, and the package variables that the reading takes, are together of bulk at most 1048576: NARROWER than '..Said'. Prove '..Said' where nothing that the law and all that it calls make is longer than what came in: it says more and counts as full. Else prove '..UptoSaid'. A law counts once. -/
mutual
def uptoBulk {H : Type} : DataW H → Nat
  | .lit (.string bytes) => bytes.length + 1
  | .lit _ => 1
  | .nil => 1
  | .ptr d => uptoBulk d + 1
  | .slice elems spare => uptoBulkAll elems + uptoBulkAll spare + 1
  | .agg parts => uptoBulkAll parts + 1
  | .iface _ d => uptoBulk d + 1
  | .map entries => uptoBulkEntries entries + 1
  | .held _ => 1
def uptoBulkAll {H : Type} : List (DataW H) → Nat
  | [] => 0
  | d :: r => uptoBulk d + uptoBulkAll r
def uptoBulkEntries {H : Type} : List (Lit × DataW H) → Nat
  | [] => 0
  | x :: r => uptoBulkEntry x + uptoBulkEntries r
def uptoBulkEntry {H : Type} : Lit × DataW H → Nat
  | (.string bytes, d) => bytes.length + uptoBulk d + 1
  | (_, d) => uptoBulk d + 1
 end
def uptoSmall : (H : Type) → List (DataW H) → Bool := fun _ ds => decide (uptoBulkAll ds ≤ 1048576)
def OpenSpec.upto (s : _root_.Go.ChangeSpec) : _root_.Go.OpenSpec := { _root_.Go.OpenSpec.ofChange s with cond := some uptoSmall }

/-- 'carrellaw15.DigitsReads', WHERE WHAT IT READS IS OF BULK AT MOST 1048576: true; the input reads as it did. -/
def digitsReadsUptoRow : OpenClaim := { program := "ytncignjfmcajgaa", sum := "527150517bc02a872ca145a5754c8ceeef73820f9c2dd07d481eb13fdea7a469", func := "carrel/carrellaw15.DigitsReads", spec := "digitsReads", unfollowed := true, recurses := true, apart := false, narrowed := true }
def DigitsReadsUptoSaid : Prop := digitsReadsUptoRow.holds Try.pinned (OpenSpec.upto digitsReadsSpec)

/-- 'carrellaw15.DigitsShows', WHERE WHAT IT READS IS OF BULK AT MOST 1048576: true; the input reads as it did. -/
def digitsShowsUptoRow : OpenClaim := { program := "ytncignjfmcajgaa", sum := "527150517bc02a872ca145a5754c8ceeef73820f9c2dd07d481eb13fdea7a469", func := "carrel/carrellaw15.DigitsShows", spec := "digitsShows", unfollowed := true, recurses := true, apart := false, narrowed := true }
def DigitsShowsUptoSaid : Prop := digitsShowsUptoRow.holds Try.pinned (OpenSpec.upto digitsShowsSpec)

/-- 'carrellaw15.DigitsBack', WHERE WHAT IT READS IS OF BULK AT MOST 1048576: true; the input reads as it did. -/
def digitsBackUptoRow : OpenClaim := { program := "ytncignjfmcajgaa", sum := "527150517bc02a872ca145a5754c8ceeef73820f9c2dd07d481eb13fdea7a469", func := "carrel/carrellaw15.DigitsBack", spec := "digitsBack", unfollowed := true, recurses := true, apart := false, narrowed := true }
def DigitsBackUptoSaid : Prop := digitsBackUptoRow.holds Try.pinned (OpenSpec.upto digitsBackSpec)

/-- 'carrellaw15.DigitsMarks', WHERE WHAT IT READS IS OF BULK AT MOST 1048576: true; the input reads as it did. -/
def digitsMarksUptoRow : OpenClaim := { program := "ytncignjfmcajgaa", sum := "527150517bc02a872ca145a5754c8ceeef73820f9c2dd07d481eb13fdea7a469", func := "carrel/carrellaw15.DigitsMarks", spec := "digitsMarks", unfollowed := true, recurses := true, apart := false, narrowed := true }
def DigitsMarksUptoSaid : Prop := digitsMarksUptoRow.holds Try.pinned (OpenSpec.upto digitsMarksSpec)

end Rows
end Go.Proofs.Ytncignjfmcajgaa
