/-
  No cell of these rows narrows 'for every input' (looked for: loops, veiled, ifaces, maps, wideKeys, modest, calm, conditions, laid).
  DERIVED. THE GIVEN ROWS OF THIS SEAT. 4 by the template 'for every input the law returns true; each argument reads behind the call as it read before'; 0 by the template 'total and deterministic' (their statements: YtddhacmaogaocaaTotals.lean).
  GIVEN WITH THE SEED: the statements are not yours to turn. If you find one false, say at which input.
  Laid BY PROGRAM, IN A SANDBOX (cutbox-rows.mjs): the forced cells as the released guide's own fill.sh prints them over the translation 034382a89afa8981… (all of the seat's roots in one cut). By AI agents, Wed Nov 11 2026. No macro, syntax, notation, axiom, sorry.
-/
import Derived.Test.YtddhacmaogaocaaChecked
import GoSem.Claim
import GoSem.ClaimJoined
import GoSem.ClaimMapViews
import Derived.JoinedTies
import Derived.KernelRfl
namespace Go.Proofs.Ytddhacmaogaocaa
/- THE CELL 'sum', in the pinned program and in every row, IS THE sha256 OF THE DUMP (.gsa) THAT YtddhacmaogaocaaProg.lean LOADS. Nothing in Lean hashes anything: it is a label: what it is worth is what the hold of that sum in a sandbox is worth. -/
noncomputable def Try.pinned : Pinned := { name := "ytddhacmaogaocaa", sum := "034382a89afa8981f5b50539ae9d5ff9f8dbad84370e143ec59f5578f6714173", checked := Try.checked }
namespace Rows
def none {H : Type} : Left H := { results := [], args := [] }

/-- 'aquiferlaw09.PileNames': WHATEVER THE INPUT: true; the input reads as it did. -/
def pileNamesSpec : ChangeSpec := { name := "pileNames", fn := fun _ => fun
  | [] => { results := [.lit (.bool true)], args := [] }
  | _ => none }
def pileNamesRow : OpenClaim := { program := "ytddhacmaogaocaa", sum := "034382a89afa8981f5b50539ae9d5ff9f8dbad84370e143ec59f5578f6714173", func := "aquifer/aquiferlaw09.PileNames", spec := "pileNames", unfollowed := true, recurses := true, apart := false }
def PileNamesSaid : Prop := pileNamesRow.holds Try.pinned (OpenSpec.ofChange pileNamesSpec)

/-- ITS FALSE NEIGHBOUR: 'it returns false'. Refute it at one input. -/
def pileNamesWrong : ChangeSpec := { name := "pileNames", fn := fun _ => fun
  | [] => { results := [.lit (.bool false)], args := [] }
  | _ => none }
def PileNamesWrongFalsely : Prop := pileNamesRow.holds Try.pinned (OpenSpec.ofChange pileNamesWrong)

/-- 'aquiferlaw09.PileReads': WHATEVER THE INPUT: true; the input reads as it did. -/
def pileReadsSpec : ChangeSpec := { name := "pileReads", fn := fun _ => fun
  | [d1, d2, d3] => { results := [.lit (.bool true)], args := [d1, d2, d3] }
  | _ => none }
def pileReadsRow : OpenClaim := { program := "ytddhacmaogaocaa", sum := "034382a89afa8981f5b50539ae9d5ff9f8dbad84370e143ec59f5578f6714173", func := "aquifer/aquiferlaw09.PileReads", spec := "pileReads", unfollowed := true, recurses := true, apart := false }
def PileReadsSaid : Prop := pileReadsRow.holds Try.pinned (OpenSpec.ofChange pileReadsSpec)

/-- ITS FALSE NEIGHBOUR: 'it returns false'. Refute it at one input. -/
def pileReadsWrong : ChangeSpec := { name := "pileReads", fn := fun _ => fun
  | [d1, d2, d3] => { results := [.lit (.bool false)], args := [d1, d2, d3] }
  | _ => none }
def PileReadsWrongFalsely : Prop := pileReadsRow.holds Try.pinned (OpenSpec.ofChange pileReadsWrong)

/-- 'aquiferlaw09.PileLives': WHATEVER THE INPUT: true; the input reads as it did. -/
def pileLivesSpec : ChangeSpec := { name := "pileLives", fn := fun _ => fun
  | [d1, d2] => { results := [.lit (.bool true)], args := [d1, d2] }
  | _ => none }
def pileLivesRow : OpenClaim := { program := "ytddhacmaogaocaa", sum := "034382a89afa8981f5b50539ae9d5ff9f8dbad84370e143ec59f5578f6714173", func := "aquifer/aquiferlaw09.PileLives", spec := "pileLives", unfollowed := true, recurses := true, apart := false }
def PileLivesSaid : Prop := pileLivesRow.holds Try.pinned (OpenSpec.ofChange pileLivesSpec)

/-- ITS FALSE NEIGHBOUR: 'it returns false'. Refute it at one input. -/
def pileLivesWrong : ChangeSpec := { name := "pileLives", fn := fun _ => fun
  | [d1, d2] => { results := [.lit (.bool false)], args := [d1, d2] }
  | _ => none }
def PileLivesWrongFalsely : Prop := pileLivesRow.holds Try.pinned (OpenSpec.ofChange pileLivesWrong)

/-- 'aquiferlaw09.PilePuts': WHATEVER THE INPUT: true; the input reads as it did. -/
def pilePutsSpec : ChangeSpec := { name := "pilePuts", fn := fun _ => fun
  | [d1, d2] => { results := [.lit (.bool true)], args := [d1, d2] }
  | _ => none }
def pilePutsRow : OpenClaim := { program := "ytddhacmaogaocaa", sum := "034382a89afa8981f5b50539ae9d5ff9f8dbad84370e143ec59f5578f6714173", func := "aquifer/aquiferlaw09.PilePuts", spec := "pilePuts", unfollowed := true, recurses := true, apart := false }
def PilePutsSaid : Prop := pilePutsRow.holds Try.pinned (OpenSpec.ofChange pilePutsSpec)

/-- ITS FALSE NEIGHBOUR: 'it returns false'. Refute it at one input. -/
def pilePutsWrong : ChangeSpec := { name := "pilePuts", fn := fun _ => fun
  | [d1, d2] => { results := [.lit (.bool false)], args := [d1, d2] }
  | _ => none }
def PilePutsWrongFalsely : Prop := pilePutsRow.holds Try.pinned (OpenSpec.ofChange pilePutsWrong)

/- THE SECOND FORM. 'bulk': how many values and letters a reading holds, each counted each time it is reached (what is shared counts as often as it is met; a slice's spare places count too). A statement '..UptoSaid' is the law's where the arguments, and the package variables that the reading takes, are together of bulk at most 1048576: NARROWER than '..Said'. Prove '..Said' where nothing that the law and all that it calls make is longer than what came in: it says more and counts as full. Else prove '..UptoSaid'. A law counts once. -/
mutual
def uptoBulk {H : Type} : DataW H → Nat
  | .lit (.string bytes) => bytes.length + 1
  | .lit _ => 1
  | .nil => 1
  | .ptr d => uptoBulk d + 1
  | .slice elems spare => uptoBulkAll elems + uptoBulkAll spare + 1
  | .agg parts => uptoBulkAll parts + 1
  | .iface _ d => uptoBulk d + 1
  | .map entries => uptoBulkEntries entries + 1
  | .held _ => 1
def uptoBulkAll {H : Type} : List (DataW H) → Nat
  | [] => 0
  | d :: r => uptoBulk d + uptoBulkAll r
def uptoBulkEntries {H : Type} : List (Lit × DataW H) → Nat
  | [] => 0
  | x :: r => uptoBulkEntry x + uptoBulkEntries r
def uptoBulkEntry {H : Type} : Lit × DataW H → Nat
  | (.string bytes, d) => bytes.length + uptoBulk d + 1
  | (_, d) => uptoBulk d + 1
 end
def uptoSmall : (H : Type) → List (DataW H) → Bool := fun _ ds => decide (uptoBulkAll ds ≤ 1048576)
def OpenSpec.upto (s : _root_.Go.ChangeSpec) : _root_.Go.OpenSpec := { _root_.Go.OpenSpec.ofChange s with cond := some uptoSmall }

/-- 'aquiferlaw09.PileNames', WHERE WHAT IT READS IS OF BULK AT MOST 1048576: true; the input reads as it did. -/
def pileNamesUptoRow : OpenClaim := { program := "ytddhacmaogaocaa", sum := "034382a89afa8981f5b50539ae9d5ff9f8dbad84370e143ec59f5578f6714173", func := "aquifer/aquiferlaw09.PileNames", spec := "pileNames", unfollowed := true, recurses := true, apart := false, narrowed := true }
def PileNamesUptoSaid : Prop := pileNamesUptoRow.holds Try.pinned (OpenSpec.upto pileNamesSpec)

/-- 'aquiferlaw09.PileReads', WHERE WHAT IT READS IS OF BULK AT MOST 1048576: true; the input reads as it did. -/
def pileReadsUptoRow : OpenClaim := { program := "ytddhacmaogaocaa", sum := "034382a89afa8981f5b50539ae9d5ff9f8dbad84370e143ec59f5578f6714173", func := "aquifer/aquiferlaw09.PileReads", spec := "pileReads", unfollowed := true, recurses := true, apart := false, narrowed := true }
def PileReadsUptoSaid : Prop := pileReadsUptoRow.holds Try.pinned (OpenSpec.upto pileReadsSpec)

/-- 'aquiferlaw09.PileLives', WHERE WHAT IT READS IS OF BULK AT MOST 1048576: true; the input reads as it did. -/
def pileLivesUptoRow : OpenClaim := { program := "ytddhacmaogaocaa", sum := "034382a89afa8981f5b50539ae9d5ff9f8dbad84370e143ec59f5578f6714173", func := "aquifer/aquiferlaw09.PileLives", spec := "pileLives", unfollowed := true, recurses := true, apart := false, narrowed := true }
def PileLivesUptoSaid : Prop := pileLivesUptoRow.holds Try.pinned (OpenSpec.upto pileLivesSpec)

/-- 'aquiferlaw09.PilePuts', WHERE WHAT IT READS IS OF BULK AT MOST 1048576: true; the input reads as it did. -/
def pilePutsUptoRow : OpenClaim := { program := "ytddhacmaogaocaa", sum := "034382a89afa8981f5b50539ae9d5ff9f8dbad84370e143ec59f5578f6714173", func := "aquifer/aquiferlaw09.PilePuts", spec := "pilePuts", unfollowed := true, recurses := true, apart := false, narrowed := true }
def PilePutsUptoSaid : Prop := pilePutsUptoRow.holds Try.pinned (OpenSpec.upto pilePutsSpec)

end Rows
end Go.Proofs.Ytddhacmaogaocaa
