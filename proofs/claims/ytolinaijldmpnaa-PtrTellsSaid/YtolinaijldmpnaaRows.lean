/-
  No cell of these rows narrows 'for every input' (looked for: loops, veiled, ifaces, maps, wideKeys, modest, calm, conditions, laid).
  DERIVED. THE GIVEN ROWS OF THIS SEAT. 6 by the template 'for every input the law returns true; each argument reads behind the call as it read before'; 0 by the template 'total and deterministic' (their statements: YtolinaijldmpnaaTotals.lean).
  GIVEN WITH THE SEED: the statements are not yours to turn. If you find one false, say at which input.
  Laid BY PROGRAM, IN A SANDBOX (cutbox-rows.mjs): the forced cells as the released guide's own fill.sh prints them over the translation 0de2c525c8a3f042… (all of the seat's roots in one cut). By AI agents, Wed Nov 11 2026. No macro, syntax, notation, axiom, sorry.
-/
import Derived.Test.YtolinaijldmpnaaChecked
import GoSem.Claim
import GoSem.ClaimJoined
import GoSem.ClaimMapViews
import Derived.JoinedTies
import Derived.KernelRfl
namespace Go.Proofs.Ytolinaijldmpnaa
/- THE CELL 'sum', in the pinned program and in every row, IS THE sha256 OF THE DUMP (.gsa) THAT YtolinaijldmpnaaProg.lean LOADS. Nothing in Lean hashes anything: it is a label: what it is worth is what the hold of that sum in a sandbox is worth. -/
noncomputable def Try.pinned : Pinned := { name := "ytolinaijldmpnaa", sum := "0de2c525c8a3f042ae6e963c1045e2ca4a6c5cb89228eefdfc454a5617f00b08", checked := Try.checked }
namespace Rows
def none {H : Type} : Left H := { results := [], args := [] }

/-- 'aquiferlaw05.PtrNames': WHATEVER THE INPUT: true; the input reads as it did. -/
def ptrNamesSpec : ChangeSpec := { name := "ptrNames", fn := fun _ => fun
  | [] => { results := [.lit (.bool true)], args := [] }
  | _ => none }
def ptrNamesRow : OpenClaim := { program := "ytolinaijldmpnaa", sum := "0de2c525c8a3f042ae6e963c1045e2ca4a6c5cb89228eefdfc454a5617f00b08", func := "aquifer/aquiferlaw05.PtrNames", spec := "ptrNames", apart := false }
def PtrNamesSaid : Prop := ptrNamesRow.holds Try.pinned (OpenSpec.ofChange ptrNamesSpec)

/-- ITS FALSE NEIGHBOUR: 'it returns false'. Refute it at one input. -/
def ptrNamesWrong : ChangeSpec := { name := "ptrNames", fn := fun _ => fun
  | [] => { results := [.lit (.bool false)], args := [] }
  | _ => none }
def PtrNamesWrongFalsely : Prop := ptrNamesRow.holds Try.pinned (OpenSpec.ofChange ptrNamesWrong)

/-- 'aquiferlaw05.PtrTells': WHATEVER THE INPUT: true; the input reads as it did. -/
def ptrTellsSpec : ChangeSpec := { name := "ptrTells", fn := fun _ => fun
  | [d1, d2, d3] => { results := [.lit (.bool true)], args := [d1, d2, d3] }
  | _ => none }
def ptrTellsRow : OpenClaim := { program := "ytolinaijldmpnaa", sum := "0de2c525c8a3f042ae6e963c1045e2ca4a6c5cb89228eefdfc454a5617f00b08", func := "aquifer/aquiferlaw05.PtrTells", spec := "ptrTells", apart := false }
def PtrTellsSaid : Prop := ptrTellsRow.holds Try.pinned (OpenSpec.ofChange ptrTellsSpec)

/-- ITS FALSE NEIGHBOUR: 'it returns false'. Refute it at one input. -/
def ptrTellsWrong : ChangeSpec := { name := "ptrTells", fn := fun _ => fun
  | [d1, d2, d3] => { results := [.lit (.bool false)], args := [d1, d2, d3] }
  | _ => none }
def PtrTellsWrongFalsely : Prop := ptrTellsRow.holds Try.pinned (OpenSpec.ofChange ptrTellsWrong)

/-- 'aquiferlaw05.PtrBytes': WHATEVER THE INPUT: true; the input reads as it did. -/
def ptrBytesSpec : ChangeSpec := { name := "ptrBytes", fn := fun _ => fun
  | [d1, d2] => { results := [.lit (.bool true)], args := [d1, d2] }
  | _ => none }
def ptrBytesRow : OpenClaim := { program := "ytolinaijldmpnaa", sum := "0de2c525c8a3f042ae6e963c1045e2ca4a6c5cb89228eefdfc454a5617f00b08", func := "aquifer/aquiferlaw05.PtrBytes", spec := "ptrBytes", apart := false }
def PtrBytesSaid : Prop := ptrBytesRow.holds Try.pinned (OpenSpec.ofChange ptrBytesSpec)

/-- ITS FALSE NEIGHBOUR: 'it returns false'. Refute it at one input. -/
def ptrBytesWrong : ChangeSpec := { name := "ptrBytes", fn := fun _ => fun
  | [d1, d2] => { results := [.lit (.bool false)], args := [d1, d2] }
  | _ => none }
def PtrBytesWrongFalsely : Prop := ptrBytesRow.holds Try.pinned (OpenSpec.ofChange ptrBytesWrong)

/-- 'aquiferlaw05.PtrBack': WHATEVER THE INPUT: true; the input reads as it did. -/
def ptrBackSpec : ChangeSpec := { name := "ptrBack", fn := fun _ => fun
  | [d1, d2] => { results := [.lit (.bool true)], args := [d1, d2] }
  | _ => none }
def ptrBackRow : OpenClaim := { program := "ytolinaijldmpnaa", sum := "0de2c525c8a3f042ae6e963c1045e2ca4a6c5cb89228eefdfc454a5617f00b08", func := "aquifer/aquiferlaw05.PtrBack", spec := "ptrBack", apart := false }
def PtrBackSaid : Prop := ptrBackRow.holds Try.pinned (OpenSpec.ofChange ptrBackSpec)

/-- ITS FALSE NEIGHBOUR: 'it returns false'. Refute it at one input. -/
def ptrBackWrong : ChangeSpec := { name := "ptrBack", fn := fun _ => fun
  | [d1, d2] => { results := [.lit (.bool false)], args := [d1, d2] }
  | _ => none }
def PtrBackWrongFalsely : Prop := ptrBackRow.holds Try.pinned (OpenSpec.ofChange ptrBackWrong)

/-- 'aquiferlaw05.PtrOrder': WHATEVER THE INPUT: true; the input reads as it did. -/
def ptrOrderSpec : ChangeSpec := { name := "ptrOrder", fn := fun _ => fun
  | [d1, d2, d3] => { results := [.lit (.bool true)], args := [d1, d2, d3] }
  | _ => none }
def ptrOrderRow : OpenClaim := { program := "ytolinaijldmpnaa", sum := "0de2c525c8a3f042ae6e963c1045e2ca4a6c5cb89228eefdfc454a5617f00b08", func := "aquifer/aquiferlaw05.PtrOrder", spec := "ptrOrder", apart := false }
def PtrOrderSaid : Prop := ptrOrderRow.holds Try.pinned (OpenSpec.ofChange ptrOrderSpec)

/-- ITS FALSE NEIGHBOUR: 'it returns false'. Refute it at one input. -/
def ptrOrderWrong : ChangeSpec := { name := "ptrOrder", fn := fun _ => fun
  | [d1, d2, d3] => { results := [.lit (.bool false)], args := [d1, d2, d3] }
  | _ => none }
def PtrOrderWrongFalsely : Prop := ptrOrderRow.holds Try.pinned (OpenSpec.ofChange ptrOrderWrong)

/-- 'aquiferlaw05.PtrApart': WHATEVER THE INPUT: true; the input reads as it did. -/
def ptrApartSpec : ChangeSpec := { name := "ptrApart", fn := fun _ => fun
  | [d1, d2] => { results := [.lit (.bool true)], args := [d1, d2] }
  | _ => none }
def ptrApartRow : OpenClaim := { program := "ytolinaijldmpnaa", sum := "0de2c525c8a3f042ae6e963c1045e2ca4a6c5cb89228eefdfc454a5617f00b08", func := "aquifer/aquiferlaw05.PtrApart", spec := "ptrApart", apart := false }
def PtrApartSaid : Prop := ptrApartRow.holds Try.pinned (OpenSpec.ofChange ptrApartSpec)

/-- ITS FALSE NEIGHBOUR: 'it returns false'. Refute it at one input. -/
def ptrApartWrong : ChangeSpec := { name := "ptrApart", fn := fun _ => fun
  | [d1, d2] => { results := [.lit (.bool false)], args := [d1, d2] }
  | _ => none }
def PtrApartWrongFalsely : Prop := ptrApartRow.holds Try.pinned (OpenSpec.ofChange ptrApartWrong)

/- THE SECOND FORM. 'bulk': how many values and letters a reading holds, each counted each time it is reached (what is shared counts as often as it is met; a slice's spare places count too). A statement '..UptoSaid' is the law's where the arguments, and the package variables that the reading takes, are together of bulk at most 1048576: NARROWER than '..Said'. Prove '..Said' where nothing that the law and all that it calls make is longer than what came in: it says more and counts as full. Else prove '..UptoSaid'. A law counts once. -/
mutual
def uptoBulk {H : Type} : DataW H → Nat
  | .lit (.string bytes) => bytes.length + 1
  | .lit _ => 1
  | .nil => 1
  | .ptr d => uptoBulk d + 1
  | .slice elems spare => uptoBulkAll elems + uptoBulkAll spare + 1
  | .agg parts => uptoBulkAll parts + 1
  | .iface _ d => uptoBulk d + 1
  | .map entries => uptoBulkEntries entries + 1
  | .held _ => 1
def uptoBulkAll {H : Type} : List (DataW H) → Nat
  | [] => 0
  | d :: r => uptoBulk d + uptoBulkAll r
def uptoBulkEntries {H : Type} : List (Lit × DataW H) → Nat
  | [] => 0
  | x :: r => uptoBulkEntry x + uptoBulkEntries r
def uptoBulkEntry {H : Type} : Lit × DataW H → Nat
  | (.string bytes, d) => bytes.length + uptoBulk d + 1
  | (_, d) => uptoBulk d + 1
 end
def uptoSmall : (H : Type) → List (DataW H) → Bool := fun _ ds => decide (uptoBulkAll ds ≤ 1048576)
def OpenSpec.upto (s : _root_.Go.ChangeSpec) : _root_.Go.OpenSpec := { _root_.Go.OpenSpec.ofChange s with cond := some uptoSmall }

/-- 'aquiferlaw05.PtrNames', WHERE WHAT IT READS IS OF BULK AT MOST 1048576: true; the input reads as it did. -/
def ptrNamesUptoRow : OpenClaim := { program := "ytolinaijldmpnaa", sum := "0de2c525c8a3f042ae6e963c1045e2ca4a6c5cb89228eefdfc454a5617f00b08", func := "aquifer/aquiferlaw05.PtrNames", spec := "ptrNames", apart := false, narrowed := true }
def PtrNamesUptoSaid : Prop := ptrNamesUptoRow.holds Try.pinned (OpenSpec.upto ptrNamesSpec)

/-- 'aquiferlaw05.PtrTells', WHERE WHAT IT READS IS OF BULK AT MOST 1048576: true; the input reads as it did. -/
def ptrTellsUptoRow : OpenClaim := { program := "ytolinaijldmpnaa", sum := "0de2c525c8a3f042ae6e963c1045e2ca4a6c5cb89228eefdfc454a5617f00b08", func := "aquifer/aquiferlaw05.PtrTells", spec := "ptrTells", apart := false, narrowed := true }
def PtrTellsUptoSaid : Prop := ptrTellsUptoRow.holds Try.pinned (OpenSpec.upto ptrTellsSpec)

/-- 'aquiferlaw05.PtrBytes', WHERE WHAT IT READS IS OF BULK AT MOST 1048576: true; the input reads as it did. -/
def ptrBytesUptoRow : OpenClaim := { program := "ytolinaijldmpnaa", sum := "0de2c525c8a3f042ae6e963c1045e2ca4a6c5cb89228eefdfc454a5617f00b08", func := "aquifer/aquiferlaw05.PtrBytes", spec := "ptrBytes", apart := false, narrowed := true }
def PtrBytesUptoSaid : Prop := ptrBytesUptoRow.holds Try.pinned (OpenSpec.upto ptrBytesSpec)

/-- 'aquiferlaw05.PtrBack', WHERE WHAT IT READS IS OF BULK AT MOST 1048576: true; the input reads as it did. -/
def ptrBackUptoRow : OpenClaim := { program := "ytolinaijldmpnaa", sum := "0de2c525c8a3f042ae6e963c1045e2ca4a6c5cb89228eefdfc454a5617f00b08", func := "aquifer/aquiferlaw05.PtrBack", spec := "ptrBack", apart := false, narrowed := true }
def PtrBackUptoSaid : Prop := ptrBackUptoRow.holds Try.pinned (OpenSpec.upto ptrBackSpec)

/-- 'aquiferlaw05.PtrOrder', WHERE WHAT IT READS IS OF BULK AT MOST 1048576: true; the input reads as it did. -/
def ptrOrderUptoRow : OpenClaim := { program := "ytolinaijldmpnaa", sum := "0de2c525c8a3f042ae6e963c1045e2ca4a6c5cb89228eefdfc454a5617f00b08", func := "aquifer/aquiferlaw05.PtrOrder", spec := "ptrOrder", apart := false, narrowed := true }
def PtrOrderUptoSaid : Prop := ptrOrderUptoRow.holds Try.pinned (OpenSpec.upto ptrOrderSpec)

/-- 'aquiferlaw05.PtrApart', WHERE WHAT IT READS IS OF BULK AT MOST 1048576: true; the input reads as it did. -/
def ptrApartUptoRow : OpenClaim := { program := "ytolinaijldmpnaa", sum := "0de2c525c8a3f042ae6e963c1045e2ca4a6c5cb89228eefdfc454a5617f00b08", func := "aquifer/aquiferlaw05.PtrApart", spec := "ptrApart", apart := false, narrowed := true }
def PtrApartUptoSaid : Prop := ptrApartUptoRow.holds Try.pinned (OpenSpec.upto ptrApartSpec)

end Rows
end Go.Proofs.Ytolinaijldmpnaa
