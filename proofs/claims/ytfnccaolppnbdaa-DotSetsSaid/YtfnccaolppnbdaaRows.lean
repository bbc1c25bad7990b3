/-
  No cell of these rows narrows 'for every input' (looked for: loops, veiled, ifaces, maps, wideKeys, modest, calm, conditions, laid).
  DERIVED. THE GIVEN ROWS OF THIS SEAT. 3 by the template 'for every input the law returns true; each argument reads behind the call as it read before'; 0 by the template 'total and deterministic' (their statements: YtfnccaolppnbdaaTotals.lean).
  GIVEN WITH THE SEED: the statements are not yours to turn. If you find one false, say at which input.
  Laid BY PROGRAM, IN A SANDBOX (cutbox-rows.mjs): the forced cells as the released guide's own fill.sh prints them over the translation f83037af9449d975… (all of the seat's roots in one cut). By AI agents, Wed Nov 11 2026. No macro, syntax, notation, axiom, sorry.
-/
import Derived.Test.YtfnccaolppnbdaaChecked
import GoSem.Claim
import GoSem.ClaimJoined
import GoSem.ClaimMapViews
import Derived.JoinedTies
import Derived.KernelRfl
namespace Go.Proofs.Ytfnccaolppnbdaa
/- THE CELL 'sum', in the pinned program and in every row, IS THE sha256 OF THE DUMP (.gsa) THAT YtfnccaolppnbdaaProg.lean LOADS. Nothing in Lean hashes anything: it is a label: what it is worth is what the hold of that sum in a sandbox is worth. -/
noncomputable def Try.pinned : Pinned := { name := "ytfnccaolppnbdaa", sum := "f83037af9449d97513f8a941b9f5967a5a6f662dbd3757e0ef3a15f53b20d423", checked := Try.checked }
namespace Rows
def none {H : Type} : Left H := { results := [], args := [] }

/-- 'pannierlaw01.DotOrders': WHATEVER THE INPUT: true; the input reads as it did. -/
def dotOrdersSpec : ChangeSpec := { name := "dotOrders", fn := fun _ => fun
  | [d1, d2] => { results := [.lit (.bool true)], args := [d1, d2] }
  | _ => none }
def dotOrdersRow : OpenClaim := { program := "ytfnccaolppnbdaa", sum := "f83037af9449d97513f8a941b9f5967a5a6f662dbd3757e0ef3a15f53b20d423", func := "pannier/pannierlaw01.DotOrders", spec := "dotOrders", inPlace := ["internal/bytealg.IndexByteString", "internal/bytealg.IndexString"], unfollowed := true, recurses := true, named := ["internal/bytealg.MaxLen"], apart := false }
def DotOrdersSaid : Prop := dotOrdersRow.holds Try.pinned (OpenSpec.ofChange dotOrdersSpec)

/-- ITS FALSE NEIGHBOUR: 'it returns false'. Refute it at one input. -/
def dotOrdersWrong : ChangeSpec := { name := "dotOrders", fn := fun _ => fun
  | [d1, d2] => { results := [.lit (.bool false)], args := [d1, d2] }
  | _ => none }
def DotOrdersWrongFalsely : Prop := dotOrdersRow.holds Try.pinned (OpenSpec.ofChange dotOrdersWrong)

/-- 'pannierlaw01.DotSets': WHATEVER THE INPUT: true; the input reads as it did. -/
def dotSetsSpec : ChangeSpec := { name := "dotSets", fn := fun _ => fun
  | [d1, d2] => { results := [.lit (.bool true)], args := [d1, d2] }
  | _ => none }
def dotSetsRow : OpenClaim := { program := "ytfnccaolppnbdaa", sum := "f83037af9449d97513f8a941b9f5967a5a6f662dbd3757e0ef3a15f53b20d423", func := "pannier/pannierlaw01.DotSets", spec := "dotSets", inPlace := ["internal/bytealg.IndexByteString", "internal/bytealg.IndexString"], unfollowed := true, recurses := true, named := ["internal/bytealg.MaxLen"], apart := false }
def DotSetsSaid : Prop := dotSetsRow.holds Try.pinned (OpenSpec.ofChange dotSetsSpec)

/-- ITS FALSE NEIGHBOUR: 'it returns false'. Refute it at one input. -/
def dotSetsWrong : ChangeSpec := { name := "dotSets", fn := fun _ => fun
  | [d1, d2] => { results := [.lit (.bool false)], args := [d1, d2] }
  | _ => none }
def DotSetsWrongFalsely : Prop := dotSetsRow.holds Try.pinned (OpenSpec.ofChange dotSetsWrong)

/-- 'pannierlaw01.DotPairs': WHATEVER THE INPUT: true; the input reads as it did. -/
def dotPairsSpec : ChangeSpec := { name := "dotPairs", fn := fun _ => fun
  | [d1, d2] => { results := [.lit (.bool true)], args := [d1, d2] }
  | _ => none }
def dotPairsRow : OpenClaim := { program := "ytfnccaolppnbdaa", sum := "f83037af9449d97513f8a941b9f5967a5a6f662dbd3757e0ef3a15f53b20d423", func := "pannier/pannierlaw01.DotPairs", spec := "dotPairs", inPlace := ["internal/bytealg.IndexByteString", "internal/bytealg.IndexString"], unfollowed := true, recurses := true, named := ["internal/bytealg.MaxLen"], apart := false }
def DotPairsSaid : Prop := dotPairsRow.holds Try.pinned (OpenSpec.ofChange dotPairsSpec)

/-- ITS FALSE NEIGHBOUR: 'it returns false'. Refute it at one input. -/
def dotPairsWrong : ChangeSpec := { name := "dotPairs", fn := fun _ => fun
  | [d1, d2] => { results := [.lit (.bool false)], args := [d1, d2] }
  | _ => none }
def DotPairsWrongFalsely : Prop := dotPairsRow.holds Try.pinned (OpenSpec.ofChange dotPairsWrong)

/- THE SECOND FORM. 'bulk': how many values and letters a reading holds, each counted each time it is reached (what is shared counts as often as it is met; a slice's spare places count too). A statement '..UptoSaid' is the law's where the arguments, and the package variables that the reading takes, are together of bulk at most 1048576: NARROWER than '..Said'. Prove '..Said' where nothing that the law and all that it calls make is longer than what came in: it says more and counts as full. Else prove '..UptoSaid'. A law counts once. -/
mutual
def uptoBulk {H : Type} : DataW H → Nat
  | .lit (.string bytes) => bytes.length + 1
  | .lit _ => 1
  | .nil => 1
  | .ptr d => uptoBulk d + 1
  | .slice elems spare => uptoBulkAll elems + uptoBulkAll spare + 1
  | .agg parts => uptoBulkAll parts + 1
  | .iface _ d => uptoBulk d + 1
  | .map entries => uptoBulkEntries entries + 1
  | .held _ => 1
def uptoBulkAll {H : Type} : List (DataW H) → Nat
  | [] => 0
  | d :: r => uptoBulk d + uptoBulkAll r
def uptoBulkEntries {H : Type} : List (Lit × DataW H) → Nat
  | [] => 0
  | x :: r => uptoBulkEntry x + uptoBulkEntries r
def uptoBulkEntry {H : Type} : Lit × DataW H → Nat
  | (.string bytes, d) => bytes.length + uptoBulk d + 1
  | (_, d) => uptoBulk d + 1
 end
def uptoSmall : (H : Type) → List (DataW H) → Bool := fun _ ds => decide (uptoBulkAll ds ≤ 1048576)
def OpenSpec.upto (s : _root_.Go.ChangeSpec) : _root_.Go.OpenSpec := { _root_.Go.OpenSpec.ofChange s with cond := some uptoSmall }

/-- 'pannierlaw01.DotOrders', WHERE WHAT IT READS IS OF BULK AT MOST 1048576: true; the input reads as it did. -/
def dotOrdersUptoRow : OpenClaim := { program := "ytfnccaolppnbdaa", sum := "f83037af9449d97513f8a941b9f5967a5a6f662dbd3757e0ef3a15f53b20d423", func := "pannier/pannierlaw01.DotOrders", spec := "dotOrders", inPlace := ["internal/bytealg.IndexByteString", "internal/bytealg.IndexString"], unfollowed := true, recurses := true, named := ["internal/bytealg.MaxLen"], apart := false, narrowed := true }
def DotOrdersUptoSaid : Prop := dotOrdersUptoRow.holds Try.pinned (OpenSpec.upto dotOrdersSpec)

/-- 'pannierlaw01.DotSets', WHERE WHAT IT READS IS OF BULK AT MOST 1048576: true; the input reads as it did. -/
def dotSetsUptoRow : OpenClaim := { program := "ytfnccaolppnbdaa", sum := "f83037af9449d97513f8a941b9f5967a5a6f662dbd3757e0ef3a15f53b20d423", func := "pannier/pannierlaw01.DotSets", spec := "dotSets", inPlace := ["internal/bytealg.IndexByteString", "internal/bytealg.IndexString"], unfollowed := true, recurses := true, named := ["internal/bytealg.MaxLen"], apart := false, narrowed := true }
def DotSetsUptoSaid : Prop := dotSetsUptoRow.holds Try.pinned (OpenSpec.upto dotSetsSpec)

/-- 'pannierlaw01.DotPairs', WHERE WHAT IT READS IS OF BULK AT MOST 1048576: true; the input reads as it did. -/
def dotPairsUptoRow : OpenClaim := { program := "ytfnccaolppnbdaa", sum := "f83037af9449d97513f8a941b9f5967a5a6f662dbd3757e0ef3a15f53b20d423", func := "pannier/pannierlaw01.DotPairs", spec := "dotPairs", inPlace := ["internal/bytealg.IndexByteString", "internal/bytealg.IndexString"], unfollowed := true, recurses := true, named := ["internal/bytealg.MaxLen"], apart := false, narrowed := true }
def DotPairsUptoSaid : Prop := dotPairsUptoRow.holds Try.pinned (OpenSpec.upto dotPairsSpec)

end Rows
end Go.Proofs.Ytfnccaolppnbdaa
