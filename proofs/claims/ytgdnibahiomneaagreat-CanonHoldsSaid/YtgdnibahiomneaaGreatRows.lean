/-
  No cell of these rows narrows 'for every input' (looked for: loops, veiled, ifaces, maps, wideKeys, modest, calm, conditions, laid).
  DERIVED. THE GIVEN ROWS OF THIS SEAT. 5 by the template 'for every input the law returns true; each argument reads behind the call as it read before'; 0 by the template 'total and deterministic' (their statements: YtgdnibahiomneaaGreatTotals.lean).
  GIVEN WITH THE SEED: the statements are not yours to turn. If you find one false, say at which input.
  Laid BY PROGRAM, IN A SANDBOX (cutbox-rows.mjs): the forced cells as the released guide's own fill.sh prints them over the translation dd93515c3e166e40… (all of the seat's roots in one cut). By AI agents, Wed Nov 11 2026. No macro, syntax, notation, axiom, sorry.
-/
import Derived.Test.YtgdnibahiomneaaGreatChecked
import GoSem.Claim
import GoSem.ClaimJoined
import GoSem.ClaimMapViews
import Derived.JoinedTies
import Derived.KernelRfl
namespace Go.Proofs.YtgdnibahiomneaaGreat
/- THE CELL 'sum', in the pinned program and in every row, IS THE sha256 OF THE DUMP (.gsa) THAT YtgdnibahiomneaaGreatProg.lean LOADS. Nothing in Lean hashes anything: it is a label: what it is worth is what the hold of that sum in a sandbox is worth. -/
noncomputable def Tryz.pinned : Pinned := { name := "ytgdnibahiomneaagreat", sum := "dd93515c3e166e40f94d332d1699a9dc509151fc23d84da5a889920d6a4e6ece", checked := Tryz.checked }
namespace Rows
def none {H : Type} : Left H := { results := [], args := [] }

/-- 'pannierlaw14.CanonEncodes': WHATEVER THE INPUT: true; the input reads as it did. -/
def canonEncodesSpec : ChangeSpec := { name := "canonEncodes", fn := fun _ => fun
  | [d] => { results := [.lit (.bool true)], args := [d] }
  | _ => none }
def canonEncodesRow : OpenClaim := { program := "ytgdnibahiomneaagreat", sum := "dd93515c3e166e40f94d332d1699a9dc509151fc23d84da5a889920d6a4e6ece", func := "pannier/pannierlaw14.CanonEncodes", spec := "canonEncodes", inPlace := ["internal/abi.NoEscape", "internal/bytealg.MakeNoZero"], unfollowed := true, recurses := true, apart := false }
def CanonEncodesSaid : Prop := canonEncodesRow.holds Tryz.pinned (OpenSpec.ofChange canonEncodesSpec)

/-- ITS FALSE NEIGHBOUR: 'it returns false'. Refute it at one input. -/
def canonEncodesWrong : ChangeSpec := { name := "canonEncodes", fn := fun _ => fun
  | [d] => { results := [.lit (.bool false)], args := [d] }
  | _ => none }
def CanonEncodesWrongFalsely : Prop := canonEncodesRow.holds Tryz.pinned (OpenSpec.ofChange canonEncodesWrong)

/-- 'pannierlaw14.CanonAppends': WHATEVER THE INPUT: true; the input reads as it did. -/
def canonAppendsSpec : ChangeSpec := { name := "canonAppends", fn := fun _ => fun
  | [d1, d2, d3] => { results := [.lit (.bool true)], args := [d1, d2, d3] }
  | _ => none }
def canonAppendsRow : OpenClaim := { program := "ytgdnibahiomneaagreat", sum := "dd93515c3e166e40f94d332d1699a9dc509151fc23d84da5a889920d6a4e6ece", func := "pannier/pannierlaw14.CanonAppends", spec := "canonAppends", inPlace := ["internal/abi.NoEscape", "internal/bytealg.MakeNoZero"], unfollowed := true, recurses := true, apart := false }
def CanonAppendsSaid : Prop := canonAppendsRow.holds Tryz.pinned (OpenSpec.ofChange canonAppendsSpec)

/-- ITS FALSE NEIGHBOUR: 'it returns false'. Refute it at one input. -/
def canonAppendsWrong : ChangeSpec := { name := "canonAppends", fn := fun _ => fun
  | [d1, d2, d3] => { results := [.lit (.bool false)], args := [d1, d2, d3] }
  | _ => none }
def CanonAppendsWrongFalsely : Prop := canonAppendsRow.holds Tryz.pinned (OpenSpec.ofChange canonAppendsWrong)

/-- 'pannierlaw14.CanonCompares': WHATEVER THE INPUT: true; the input reads as it did. -/
def canonComparesSpec : ChangeSpec := { name := "canonCompares", fn := fun _ => fun
  | [d1, d2] => { results := [.lit (.bool true)], args := [d1, d2] }
  | _ => none }
def canonComparesRow : OpenClaim := { program := "ytgdnibahiomneaagreat", sum := "dd93515c3e166e40f94d332d1699a9dc509151fc23d84da5a889920d6a4e6ece", func := "pannier/pannierlaw14.CanonCompares", spec := "canonCompares", inPlace := ["internal/abi.NoEscape", "internal/bytealg.MakeNoZero"], unfollowed := true, recurses := true, apart := false }
def CanonComparesSaid : Prop := canonComparesRow.holds Tryz.pinned (OpenSpec.ofChange canonComparesSpec)

/-- ITS FALSE NEIGHBOUR: 'it returns false'. Refute it at one input. -/
def canonComparesWrong : ChangeSpec := { name := "canonCompares", fn := fun _ => fun
  | [d1, d2] => { results := [.lit (.bool false)], args := [d1, d2] }
  | _ => none }
def CanonComparesWrongFalsely : Prop := canonComparesRow.holds Tryz.pinned (OpenSpec.ofChange canonComparesWrong)

/-- 'pannierlaw14.CanonLongs': WHATEVER THE INPUT: true; the input reads as it did. -/
def canonLongsSpec : ChangeSpec := { name := "canonLongs", fn := fun _ => fun
  | [d1, d2, d3, d4, d5] => { results := [.lit (.bool true)], args := [d1, d2, d3, d4, d5] }
  | _ => none }
def canonLongsRow : OpenClaim := { program := "ytgdnibahiomneaagreat", sum := "dd93515c3e166e40f94d332d1699a9dc509151fc23d84da5a889920d6a4e6ece", func := "pannier/pannierlaw14.CanonLongs", spec := "canonLongs", inPlace := ["internal/abi.NoEscape", "internal/bytealg.MakeNoZero"], unfollowed := true, recurses := true, apart := false }
def CanonLongsSaid : Prop := canonLongsRow.holds Tryz.pinned (OpenSpec.ofChange canonLongsSpec)

/-- ITS FALSE NEIGHBOUR: 'it returns false'. Refute it at one input. -/
def canonLongsWrong : ChangeSpec := { name := "canonLongs", fn := fun _ => fun
  | [d1, d2, d3, d4, d5] => { results := [.lit (.bool false)], args := [d1, d2, d3, d4, d5] }
  | _ => none }
def CanonLongsWrongFalsely : Prop := canonLongsRow.holds Tryz.pinned (OpenSpec.ofChange canonLongsWrong)

/-- 'pannierlaw14.CanonHolds': WHATEVER THE INPUT: true; the input reads as it did. -/
def canonHoldsSpec : ChangeSpec := { name := "canonHolds", fn := fun _ => fun
  | [d1, d2, d3] => { results := [.lit (.bool true)], args := [d1, d2, d3] }
  | _ => none }
def canonHoldsRow : OpenClaim := { program := "ytgdnibahiomneaagreat", sum := "dd93515c3e166e40f94d332d1699a9dc509151fc23d84da5a889920d6a4e6ece", func := "pannier/pannierlaw14.CanonHolds", spec := "canonHolds", inPlace := ["internal/abi.NoEscape", "internal/bytealg.MakeNoZero"], unfollowed := true, recurses := true, apart := false }
def CanonHoldsSaid : Prop := canonHoldsRow.holds Tryz.pinned (OpenSpec.ofChange canonHoldsSpec)

/-- ITS FALSE NEIGHBOUR: 'it returns false'. Refute it at one input. -/
def canonHoldsWrong : ChangeSpec := { name := "canonHolds", fn := fun _ => fun
  | [d1, d2, d3] => { results := [.lit (.bool false)], args := [d1, d2, d3] }
  | _ => none }
def CanonHoldsWrongFalsely : Prop := canonHoldsRow.holds Tryz.pinned (OpenSpec.ofChange canonHoldsWrong)

/- THE SECOND FORM. 'bulk': how many values and letters a reading holds, each counted each time it is reached (what is shared counts as often as it is met; a slice's spare places count too). A statement '..UptoSaid' is the law's where the arguments, and the package variables that the reading takes, are together of bulk at most 1048576: NARROWER than '..Said'. Prove '..Said' where nothing that the law and all that it calls make is longer than what came in: it says more and counts as full. Else prove '..UptoSaid'. A law counts once. -/
mutual
def uptoBulk {H : Type} : DataW H → Nat
  | .lit (.string bytes) => bytes.length + 1
  | .lit _ => 1
  | .nil => 1
  | .ptr d => uptoBulk d + 1
  | .slice elems spare => uptoBulkAll elems + uptoBulkAll spare + 1
  | .agg parts => uptoBulkAll parts + 1
  | .iface _ d => uptoBulk d + 1
  | .map entries => uptoBulkEntries entries + 1
  | .held _ => 1
def uptoBulkAll {H : Type} : List (DataW H) → Nat
  | [] => 0
  | d :: r => uptoBulk d + uptoBulkAll r
def uptoBulkEntries {H : Type} : List (Lit × DataW H) → Nat
  | [] => 0
  | x :: r => uptoBulkEntry x + uptoBulkEntries r
def uptoBulkEntry {H : Type} : Lit × DataW H → Nat
  | (.string bytes, d) => bytes.length + uptoBulk d + 1
  | (_, d) => uptoBulk d + 1
 end
def uptoSmall : (H : Type) → List (DataW H) → Bool := fun _ ds => decide (uptoBulkAll ds ≤ 1048576)
def OpenSpec.upto (s : _root_.Go.ChangeSpec) : _root_.Go.OpenSpec := { _root_.Go.OpenSpec.ofChange s with cond := some uptoSmall }

/-- 'pannierlaw14.CanonEncodes', WHERE WHAT IT READS IS OF BULK AT MOST 1048576: true; the input reads as it did. -/
def canonEncodesUptoRow : OpenClaim := { program := "ytgdnibahiomneaagreat", sum := "dd93515c3e166e40f94d332d1699a9dc509151fc23d84da5a889920d6a4e6ece", func := "pannier/pannierlaw14.CanonEncodes", spec := "canonEncodes", inPlace := ["internal/abi.NoEscape", "internal/bytealg.MakeNoZero"], unfollowed := true, recurses := true, apart := false, narrowed := true }
def CanonEncodesUptoSaid : Prop := canonEncodesUptoRow.holds Tryz.pinned (OpenSpec.upto canonEncodesSpec)

/-- 'pannierlaw14.CanonAppends', WHERE WHAT IT READS IS OF BULK AT MOST 1048576: true; the input reads as it did. -/
def canonAppendsUptoRow : OpenClaim := { program := "ytgdnibahiomneaagreat", sum := "dd93515c3e166e40f94d332d1699a9dc509151fc23d84da5a889920d6a4e6ece", func := "pannier/pannierlaw14.CanonAppends", spec := "canonAppends", inPlace := ["internal/abi.NoEscape", "internal/bytealg.MakeNoZero"], unfollowed := true, recurses := true, apart := false, narrowed := true }
def CanonAppendsUptoSaid : Prop := canonAppendsUptoRow.holds Tryz.pinned (OpenSpec.upto canonAppendsSpec)

/-- 'pannierlaw14.CanonCompares', WHERE WHAT IT READS IS OF BULK AT MOST 1048576: true; the input reads as it did. -/
def canonComparesUptoRow : OpenClaim := { program := "ytgdnibahiomneaagreat", sum := "dd93515c3e166e40f94d332d1699a9dc509151fc23d84da5a889920d6a4e6ece", func := "pannier/pannierlaw14.CanonCompares", spec := "canonCompares", inPlace := ["internal/abi.NoEscape", "internal/bytealg.MakeNoZero"], unfollowed := true, recurses := true, apart := false, narrowed := true }
def CanonComparesUptoSaid : Prop := canonComparesUptoRow.holds Tryz.pinned (OpenSpec.upto canonComparesSpec)

/-- 'pannierlaw14.CanonLongs', WHERE WHAT IT READS IS OF BULK AT MOST 1048576: true; the input reads as it did. -/
def canonLongsUptoRow : OpenClaim := { program := "ytgdnibahiomneaagreat", sum := "dd93515c3e166e40f94d332d1699a9dc509151fc23d84da5a889920d6a4e6ece", func := "pannier/pannierlaw14.CanonLongs", spec := "canonLongs", inPlace := ["internal/abi.NoEscape", "internal/bytealg.MakeNoZero"], unfollowed := true, recurses := true, apart := false, narrowed := true }
def CanonLongsUptoSaid : Prop := canonLongsUptoRow.holds Tryz.pinned (OpenSpec.upto canonLongsSpec)

/-- 'pannierlaw14.CanonHolds', WHERE WHAT IT READS IS OF BULK AT MOST 1048576: true; the input reads as it did. -/
def canonHoldsUptoRow : OpenClaim := { program := "ytgdnibahiomneaagreat", sum := "dd93515c3e166e40f94d332d1699a9dc509151fc23d84da5a889920d6a4e6ece", func := "pannier/pannierlaw14.CanonHolds", spec := "canonHolds", inPlace := ["internal/abi.NoEscape", "internal/bytealg.MakeNoZero"], unfollowed := true, recurses := true, apart := false, narrowed := true }
def CanonHoldsUptoSaid : Prop := canonHoldsUptoRow.holds Tryz.pinned (OpenSpec.upto canonHoldsSpec)

end Rows
end Go.Proofs.YtgdnibahiomneaaGreat
