/-
  No cell of these rows narrows 'for every input' (looked for: loops, veiled, ifaces, maps, wideKeys, modest, calm, conditions, laid).
  DERIVED. THE GIVEN ROWS OF THIS SEAT. 5 by the template 'for every input the law returns true; each argument reads behind the call as it read before'; 0 by the template 'total and deterministic' (their statements: YtdcegkeaopjbnaaTotals.lean).
  GIVEN WITH THE SEED: the statements are not yours to turn. If you find one false, say at which input.
  Laid BY PROGRAM, IN A SANDBOX (cutbox-rows.mjs): the forced cells as the released guide's own fill.sh prints them over the translation 697818f448c5fdd9… (all of the seat's roots in one cut). By AI agents, Wed Nov 11 2026. No macro, syntax, notation, axiom, sorry.
-/
import Derived.Test.YtdcegkeaopjbnaaChecked
import GoSem.Claim
import GoSem.ClaimJoined
import GoSem.ClaimMapViews
import Derived.JoinedTies
import Derived.KernelRfl
namespace Go.Proofs.Ytdcegkeaopjbnaa
/- THE CELL 'sum', in the pinned program and in every row, IS THE sha256 OF THE DUMP (.gsa) THAT YtdcegkeaopjbnaaProg.lean LOADS. Nothing in Lean hashes anything: it is a label: what it is worth is what the hold of that sum in a sandbox is worth. -/
noncomputable def Try.pinned : Pinned := { name := "ytdcegkeaopjbnaa", sum := "697818f448c5fdd9449c82292600c758c4990f90499796bd7a2d51aa842ebec4", checked := Try.checked }
namespace Rows
def none {H : Type} : Left H := { results := [], args := [] }

/-- 'aquiferlaw12.BlobNames': WHATEVER THE INPUT: true; the input reads as it did. -/
def blobNamesSpec : ChangeSpec := { name := "blobNames", fn := fun _ => fun
  | [] => { results := [.lit (.bool true)], args := [] }
  | _ => none }
def blobNamesRow : OpenClaim := { program := "ytdcegkeaopjbnaa", sum := "697818f448c5fdd9449c82292600c758c4990f90499796bd7a2d51aa842ebec4", func := "aquifer/aquiferlaw12.BlobNames", spec := "blobNames", unfollowed := true, recurses := true, apart := false }
def BlobNamesSaid : Prop := blobNamesRow.holds Try.pinned (OpenSpec.ofChange blobNamesSpec)

/-- ITS FALSE NEIGHBOUR: 'it returns false'. Refute it at one input. -/
def blobNamesWrong : ChangeSpec := { name := "blobNames", fn := fun _ => fun
  | [] => { results := [.lit (.bool false)], args := [] }
  | _ => none }
def BlobNamesWrongFalsely : Prop := blobNamesRow.holds Try.pinned (OpenSpec.ofChange blobNamesWrong)

/-- 'aquiferlaw12.BlobNeeds': WHATEVER THE INPUT: true; the input reads as it did. -/
def blobNeedsSpec : ChangeSpec := { name := "blobNeeds", fn := fun _ => fun
  | [d] => { results := [.lit (.bool true)], args := [d] }
  | _ => none }
def blobNeedsRow : OpenClaim := { program := "ytdcegkeaopjbnaa", sum := "697818f448c5fdd9449c82292600c758c4990f90499796bd7a2d51aa842ebec4", func := "aquifer/aquiferlaw12.BlobNeeds", spec := "blobNeeds", unfollowed := true, recurses := true, apart := false }
def BlobNeedsSaid : Prop := blobNeedsRow.holds Try.pinned (OpenSpec.ofChange blobNeedsSpec)

/-- ITS FALSE NEIGHBOUR: 'it returns false'. Refute it at one input. -/
def blobNeedsWrong : ChangeSpec := { name := "blobNeeds", fn := fun _ => fun
  | [d] => { results := [.lit (.bool false)], args := [d] }
  | _ => none }
def BlobNeedsWrongFalsely : Prop := blobNeedsRow.holds Try.pinned (OpenSpec.ofChange blobNeedsWrong)

/-- 'aquiferlaw12.BlobBack': WHATEVER THE INPUT: true; the input reads as it did. -/
def blobBackSpec : ChangeSpec := { name := "blobBack", fn := fun _ => fun
  | [d] => { results := [.lit (.bool true)], args := [d] }
  | _ => none }
def blobBackRow : OpenClaim := { program := "ytdcegkeaopjbnaa", sum := "697818f448c5fdd9449c82292600c758c4990f90499796bd7a2d51aa842ebec4", func := "aquifer/aquiferlaw12.BlobBack", spec := "blobBack", unfollowed := true, recurses := true, apart := false }
def BlobBackSaid : Prop := blobBackRow.holds Try.pinned (OpenSpec.ofChange blobBackSpec)

/-- ITS FALSE NEIGHBOUR: 'it returns false'. Refute it at one input. -/
def blobBackWrong : ChangeSpec := { name := "blobBack", fn := fun _ => fun
  | [d] => { results := [.lit (.bool false)], args := [d] }
  | _ => none }
def BlobBackWrongFalsely : Prop := blobBackRow.holds Try.pinned (OpenSpec.ofChange blobBackWrong)

/-- 'aquiferlaw12.BlobSpoils': WHATEVER THE INPUT: true; the input reads as it did. -/
def blobSpoilsSpec : ChangeSpec := { name := "blobSpoils", fn := fun _ => fun
  | [d1, d2, d3] => { results := [.lit (.bool true)], args := [d1, d2, d3] }
  | _ => none }
def blobSpoilsRow : OpenClaim := { program := "ytdcegkeaopjbnaa", sum := "697818f448c5fdd9449c82292600c758c4990f90499796bd7a2d51aa842ebec4", func := "aquifer/aquiferlaw12.BlobSpoils", spec := "blobSpoils", unfollowed := true, recurses := true, apart := false }
def BlobSpoilsSaid : Prop := blobSpoilsRow.holds Try.pinned (OpenSpec.ofChange blobSpoilsSpec)

/-- ITS FALSE NEIGHBOUR: 'it returns false'. Refute it at one input. -/
def blobSpoilsWrong : ChangeSpec := { name := "blobSpoils", fn := fun _ => fun
  | [d1, d2, d3] => { results := [.lit (.bool false)], args := [d1, d2, d3] }
  | _ => none }
def BlobSpoilsWrongFalsely : Prop := blobSpoilsRow.holds Try.pinned (OpenSpec.ofChange blobSpoilsWrong)

/-- 'aquiferlaw12.BlobGrows': WHATEVER THE INPUT: true; the input reads as it did. -/
def blobGrowsSpec : ChangeSpec := { name := "blobGrows", fn := fun _ => fun
  | [d] => { results := [.lit (.bool true)], args := [d] }
  | _ => none }
def blobGrowsRow : OpenClaim := { program := "ytdcegkeaopjbnaa", sum := "697818f448c5fdd9449c82292600c758c4990f90499796bd7a2d51aa842ebec4", func := "aquifer/aquiferlaw12.BlobGrows", spec := "blobGrows", unfollowed := true, recurses := true, apart := false }
def BlobGrowsSaid : Prop := blobGrowsRow.holds Try.pinned (OpenSpec.ofChange blobGrowsSpec)

/-- ITS FALSE NEIGHBOUR: 'it returns false'. Refute it at one input. -/
def blobGrowsWrong : ChangeSpec := { name := "blobGrows", fn := fun _ => fun
  | [d] => { results := [.lit (.bool false)], args := [d] }
  | _ => none }
def BlobGrowsWrongFalsely : Prop := blobGrowsRow.holds Try.pinned (OpenSpec.ofChange blobGrowsWrong)

/- THE SECOND FORM. 'bulk': how many values and letters a reading holds, each counted each time it is reached (what is shared counts as often as it is met; a slice's spare places count too). A statement '..UptoSaid' is the law's where the arguments, and the package variables that the reading takes, are together of bulk at most 1048576: NARROWER than '..Said'. Prove '..Said' where nothing that the law and all that it calls make is longer than what came in: it says more and counts as full. Else prove '..UptoSaid'. A law counts once. -/
mutual
def uptoBulk {H : Type} : DataW H → Nat
  | .lit (.string bytes) => bytes.length + 1
  | .lit _ => 1
  | .nil => 1
  | .ptr d => uptoBulk d + 1
  | .slice elems spare => uptoBulkAll elems + uptoBulkAll spare + 1
  | .agg parts => uptoBulkAll parts + 1
  | .iface _ d => uptoBulk d + 1
  | .map entries => uptoBulkEntries entries + 1
  | .held _ => 1
def uptoBulkAll {H : Type} : List (DataW H) → Nat
  | [] => 0
  | d :: r => uptoBulk d + uptoBulkAll r
def uptoBulkEntries {H : Type} : List (Lit × DataW H) → Nat
  | [] => 0
  | x :: r => uptoBulkEntry x + uptoBulkEntries r
def uptoBulkEntry {H : Type} : Lit × DataW H → Nat
  | (.string bytes, d) => bytes.length + uptoBulk d + 1
  | (_, d) => uptoBulk d + 1
 end
def uptoSmall : (H : Type) → List (DataW H) → Bool := fun _ ds => decide (uptoBulkAll ds ≤ 1048576)
def OpenSpec.upto (s : _root_.Go.ChangeSpec) : _root_.Go.OpenSpec := { _root_.Go.OpenSpec.ofChange s with cond := some uptoSmall }

/-- 'aquiferlaw12.BlobNames', WHERE WHAT IT READS IS OF BULK AT MOST 1048576: true; the input reads as it did. -/
def blobNamesUptoRow : OpenClaim := { program := "ytdcegkeaopjbnaa", sum := "697818f448c5fdd9449c82292600c758c4990f90499796bd7a2d51aa842ebec4", func := "aquifer/aquiferlaw12.BlobNames", spec := "blobNames", unfollowed := true, recurses := true, apart := false, narrowed := true }
def BlobNamesUptoSaid : Prop := blobNamesUptoRow.holds Try.pinned (OpenSpec.upto blobNamesSpec)

/-- 'aquiferlaw12.BlobNeeds', WHERE WHAT IT READS IS OF BULK AT MOST 1048576: true; the input reads as it did. -/
def blobNeedsUptoRow : OpenClaim := { program := "ytdcegkeaopjbnaa", sum := "697818f448c5fdd9449c82292600c758c4990f90499796bd7a2d51aa842ebec4", func := "aquifer/aquiferlaw12.BlobNeeds", spec := "blobNeeds", unfollowed := true, recurses := true, apart := false, narrowed := true }
def BlobNeedsUptoSaid : Prop := blobNeedsUptoRow.holds Try.pinned (OpenSpec.upto blobNeedsSpec)

/-- 'aquiferlaw12.BlobBack', WHERE WHAT IT READS IS OF BULK AT MOST 1048576: true; the input reads as it did. -/
def blobBackUptoRow : OpenClaim := { program := "ytdcegkeaopjbnaa", sum := "697818f448c5fdd9449c82292600c758c4990f90499796bd7a2d51aa842ebec4", func := "aquifer/aquiferlaw12.BlobBack", spec := "blobBack", unfollowed := true, recurses := true, apart := false, narrowed := true }
def BlobBackUptoSaid : Prop := blobBackUptoRow.holds Try.pinned (OpenSpec.upto blobBackSpec)

/-- 'aquiferlaw12.BlobSpoils', WHERE WHAT IT READS IS OF BULK AT MOST 1048576: true; the input reads as it did. -/
def blobSpoilsUptoRow : OpenClaim := { program := "ytdcegkeaopjbnaa", sum := "697818f448c5fdd9449c82292600c758c4990f90499796bd7a2d51aa842ebec4", func := "aquifer/aquiferlaw12.BlobSpoils", spec := "blobSpoils", unfollowed := true, recurses := true, apart := false, narrowed := true }
def BlobSpoilsUptoSaid : Prop := blobSpoilsUptoRow.holds Try.pinned (OpenSpec.upto blobSpoilsSpec)

/-- 'aquiferlaw12.BlobGrows', WHERE WHAT IT READS IS OF BULK AT MOST 1048576: true; the input reads as it did. -/
def blobGrowsUptoRow : OpenClaim := { program := "ytdcegkeaopjbnaa", sum := "697818f448c5fdd9449c82292600c758c4990f90499796bd7a2d51aa842ebec4", func := "aquifer/aquiferlaw12.BlobGrows", spec := "blobGrows", unfollowed := true, recurses := true, apart := false, narrowed := true }
def BlobGrowsUptoSaid : Prop := blobGrowsUptoRow.holds Try.pinned (OpenSpec.upto blobGrowsSpec)

end Rows
end Go.Proofs.Ytdcegkeaopjbnaa
