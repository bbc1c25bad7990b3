/-
  No cell of these rows narrows 'for every input' (looked for: loops, veiled, ifaces, maps, wideKeys, modest, calm, conditions, laid).
  DERIVED. THE GIVEN ROWS OF THIS SEAT. 5 by the template 'for every input the law returns true; each argument reads behind the call as it read before'; 0 by the template 'total and deterministic' (their statements: YtfjbocipjmpogaaGreatTotals.lean).
  GIVEN WITH THE SEED: the statements are not yours to turn. If you find one false, say at which input.
  Laid BY PROGRAM, IN A SANDBOX (cutbox-rows.mjs): the forced cells as the released guide's own fill.sh prints them over the translation 7a2f305e51702994… (all of the seat's roots in one cut). By AI agents, Wed Nov 11 2026. No macro, syntax, notation, axiom, sorry.
-/
import Derived.Test.YtfjbocipjmpogaaGreatChecked
import GoSem.Claim
import GoSem.ClaimJoined
import GoSem.ClaimMapViews
import Derived.JoinedTies
import Derived.KernelRfl
namespace Go.Proofs.YtfjbocipjmpogaaGreat
/- THE CELL 'sum', in the pinned program and in every row, IS THE sha256 OF THE DUMP (.gsa) THAT YtfjbocipjmpogaaGreatProg.lean LOADS. Nothing in Lean hashes anything: it is a label: what it is worth is what the hold of that sum in a sandbox is worth. -/
noncomputable def Tryz.pinned : Pinned := { name := "ytfjbocipjmpogaagreat", sum := "7a2f305e517029945f806cee8f713db015dccc3c53bed906c6cb1b31e97f34ea", checked := Tryz.checked }
namespace Rows
def none {H : Type} : Left H := { results := [], args := [] }

/-- 'pannierlaw11.JoinJoins': WHATEVER THE INPUT: true; the input reads as it did. -/
def joinJoinsSpec : ChangeSpec := { name := "joinJoins", fn := fun _ => fun
  | [d1, d2] => { results := [.lit (.bool true)], args := [d1, d2] }
  | _ => none }
def joinJoinsRow : OpenClaim := { program := "ytfjbocipjmpogaagreat", sum := "7a2f305e517029945f806cee8f713db015dccc3c53bed906c6cb1b31e97f34ea", func := "pannier/pannierlaw11.JoinJoins", spec := "joinJoins", inPlace := ["internal/abi.NoEscape", "internal/bytealg.MakeNoZero", "internal/bytealg.abigen_runtime_cmpstring"], unfollowed := true, recurses := true, plainKeys := false, apart := false }
def JoinJoinsSaid : Prop := joinJoinsRow.holds Tryz.pinned (OpenSpec.ofChange joinJoinsSpec)

/-- ITS FALSE NEIGHBOUR: 'it returns false'. Refute it at one input. -/
def joinJoinsWrong : ChangeSpec := { name := "joinJoins", fn := fun _ => fun
  | [d1, d2] => { results := [.lit (.bool false)], args := [d1, d2] }
  | _ => none }
def JoinJoinsWrongFalsely : Prop := joinJoinsRow.holds Tryz.pinned (OpenSpec.ofChange joinJoinsWrong)

/-- 'pannierlaw11.JoinAlls': WHATEVER THE INPUT: true; the input reads as it did. -/
def joinAllsSpec : ChangeSpec := { name := "joinAlls", fn := fun _ => fun
  | [d1, d2] => { results := [.lit (.bool true)], args := [d1, d2] }
  | _ => none }
def joinAllsRow : OpenClaim := { program := "ytfjbocipjmpogaagreat", sum := "7a2f305e517029945f806cee8f713db015dccc3c53bed906c6cb1b31e97f34ea", func := "pannier/pannierlaw11.JoinAlls", spec := "joinAlls", inPlace := ["internal/abi.NoEscape", "internal/bytealg.MakeNoZero", "internal/bytealg.abigen_runtime_cmpstring"], unfollowed := true, recurses := true, plainKeys := false, apart := false }
def JoinAllsSaid : Prop := joinAllsRow.holds Tryz.pinned (OpenSpec.ofChange joinAllsSpec)

/-- ITS FALSE NEIGHBOUR: 'it returns false'. Refute it at one input. -/
def joinAllsWrong : ChangeSpec := { name := "joinAlls", fn := fun _ => fun
  | [d1, d2] => { results := [.lit (.bool false)], args := [d1, d2] }
  | _ => none }
def JoinAllsWrongFalsely : Prop := joinAllsRow.holds Tryz.pinned (OpenSpec.ofChange joinAllsWrong)

/-- 'pannierlaw11.JoinWithin': WHATEVER THE INPUT: true; the input reads as it did. -/
def joinWithinSpec : ChangeSpec := { name := "joinWithin", fn := fun _ => fun
  | [d1, d2] => { results := [.lit (.bool true)], args := [d1, d2] }
  | _ => none }
def joinWithinRow : OpenClaim := { program := "ytfjbocipjmpogaagreat", sum := "7a2f305e517029945f806cee8f713db015dccc3c53bed906c6cb1b31e97f34ea", func := "pannier/pannierlaw11.JoinWithin", spec := "joinWithin", inPlace := ["internal/abi.NoEscape", "internal/bytealg.MakeNoZero", "internal/bytealg.abigen_runtime_cmpstring"], unfollowed := true, recurses := true, plainKeys := false, apart := false }
def JoinWithinSaid : Prop := joinWithinRow.holds Tryz.pinned (OpenSpec.ofChange joinWithinSpec)

/-- ITS FALSE NEIGHBOUR: 'it returns false'. Refute it at one input. -/
def joinWithinWrong : ChangeSpec := { name := "joinWithin", fn := fun _ => fun
  | [d1, d2] => { results := [.lit (.bool false)], args := [d1, d2] }
  | _ => none }
def JoinWithinWrongFalsely : Prop := joinWithinRow.holds Tryz.pinned (OpenSpec.ofChange joinWithinWrong)

/-- 'pannierlaw11.JoinGroups': WHATEVER THE INPUT: true; the input reads as it did. -/
def joinGroupsSpec : ChangeSpec := { name := "joinGroups", fn := fun _ => fun
  | [d1, d2, d3] => { results := [.lit (.bool true)], args := [d1, d2, d3] }
  | _ => none }
def joinGroupsRow : OpenClaim := { program := "ytfjbocipjmpogaagreat", sum := "7a2f305e517029945f806cee8f713db015dccc3c53bed906c6cb1b31e97f34ea", func := "pannier/pannierlaw11.JoinGroups", spec := "joinGroups", inPlace := ["internal/abi.NoEscape", "internal/bytealg.MakeNoZero", "internal/bytealg.abigen_runtime_cmpstring"], unfollowed := true, recurses := true, plainKeys := false, apart := false }
def JoinGroupsSaid : Prop := joinGroupsRow.holds Tryz.pinned (OpenSpec.ofChange joinGroupsSpec)

/-- ITS FALSE NEIGHBOUR: 'it returns false'. Refute it at one input. -/
def joinGroupsWrong : ChangeSpec := { name := "joinGroups", fn := fun _ => fun
  | [d1, d2, d3] => { results := [.lit (.bool false)], args := [d1, d2, d3] }
  | _ => none }
def JoinGroupsWrongFalsely : Prop := joinGroupsRow.holds Tryz.pinned (OpenSpec.ofChange joinGroupsWrong)

/-- 'pannierlaw11.JoinHolds': WHATEVER THE INPUT: true; the input reads as it did. -/
def joinHoldsSpec : ChangeSpec := { name := "joinHolds", fn := fun _ => fun
  | [d1, d2] => { results := [.lit (.bool true)], args := [d1, d2] }
  | _ => none }
def joinHoldsRow : OpenClaim := { program := "ytfjbocipjmpogaagreat", sum := "7a2f305e517029945f806cee8f713db015dccc3c53bed906c6cb1b31e97f34ea", func := "pannier/pannierlaw11.JoinHolds", spec := "joinHolds", inPlace := ["internal/abi.NoEscape", "internal/bytealg.MakeNoZero", "internal/bytealg.abigen_runtime_cmpstring"], unfollowed := true, recurses := true, plainKeys := false, apart := false }
def JoinHoldsSaid : Prop := joinHoldsRow.holds Tryz.pinned (OpenSpec.ofChange joinHoldsSpec)

/-- ITS FALSE NEIGHBOUR: 'it returns false'. Refute it at one input. -/
def joinHoldsWrong : ChangeSpec := { name := "joinHolds", fn := fun _ => fun
  | [d1, d2] => { results := [.lit (.bool false)], args := [d1, d2] }
  | _ => none }
def JoinHoldsWrongFalsely : Prop := joinHoldsRow.holds Tryz.pinned (OpenSpec.ofChange joinHoldsWrong)

/- THE SECOND FORM. 'bulk': how many values and letters a reading holds, each counted each time it is reached (what is shared counts as often as it is met; a slice's spare places count too). A statement '..UptoSaid' is the law's where the arguments, and the package variables that the reading takes, are together of bulk at most 1048576: NARROWER than '..Said'. Prove '..Said' where nothing that the law and all that it calls make is longer than what came in: it says more and counts as full. Else prove '..UptoSaid'. A law counts once. -/
mutual
def uptoBulk {H : Type} : DataW H → Nat
  | .lit (.string bytes) => bytes.length + 1
  | .lit _ => 1
  | .nil => 1
  | .ptr d => uptoBulk d + 1
  | .slice elems spare => uptoBulkAll elems + uptoBulkAll spare + 1
  | .agg parts => uptoBulkAll parts + 1
  | .iface _ d => uptoBulk d + 1
  | .map entries => uptoBulkEntries entries + 1
  | .held _ => 1
def uptoBulkAll {H : Type} : List (DataW H) → Nat
  | [] => 0
  | d :: r => uptoBulk d + uptoBulkAll r
def uptoBulkEntries {H : Type} : List (Lit × DataW H) → Nat
  | [] => 0
  | x :: r => uptoBulkEntry x + uptoBulkEntries r
def uptoBulkEntry {H : Type} : Lit × DataW H → Nat
  | (.string bytes, d) => bytes.length + uptoBulk d + 1
  | (_, d) => uptoBulk d + 1
 end
def uptoSmall : (H : Type) → List (DataW H) → Bool := fun _ ds => decide (uptoBulkAll ds ≤ 1048576)
def OpenSpec.upto (s : _root_.Go.ChangeSpec) : _root_.Go.OpenSpec := { _root_.Go.OpenSpec.ofChange s with cond := some uptoSmall }

/-- 'pannierlaw11.JoinJoins', WHERE WHAT IT READS IS OF BULK AT MOST 1048576: true; the input reads as it did. -/
def joinJoinsUptoRow : OpenClaim := { program := "ytfjbocipjmpogaagreat", sum := "7a2f305e517029945f806cee8f713db015dccc3c53bed906c6cb1b31e97f34ea", func := "pannier/pannierlaw11.JoinJoins", spec := "joinJoins", inPlace := ["internal/abi.NoEscape", "internal/bytealg.MakeNoZero", "internal/bytealg.abigen_runtime_cmpstring"], unfollowed := true, recurses := true, plainKeys := false, apart := false, narrowed := true }
def JoinJoinsUptoSaid : Prop := joinJoinsUptoRow.holds Tryz.pinned (OpenSpec.upto joinJoinsSpec)

/-- 'pannierlaw11.JoinAlls', WHERE WHAT IT READS IS OF BULK AT MOST 1048576: true; the input reads as it did. -/
def joinAllsUptoRow : OpenClaim := { program := "ytfjbocipjmpogaagreat", sum := "7a2f305e517029945f806cee8f713db015dccc3c53bed906c6cb1b31e97f34ea", func := "pannier/pannierlaw11.JoinAlls", spec := "joinAlls", inPlace := ["internal/abi.NoEscape", "internal/bytealg.MakeNoZero", "internal/bytealg.abigen_runtime_cmpstring"], unfollowed := true, recurses := true, plainKeys := false, apart := false, narrowed := true }
def JoinAllsUptoSaid : Prop := joinAllsUptoRow.holds Tryz.pinned (OpenSpec.upto joinAllsSpec)

/-- 'pannierlaw11.JoinWithin', WHERE WHAT IT READS IS OF BULK AT MOST 1048576: true; the input reads as it did. -/
def joinWithinUptoRow : OpenClaim := { program := "ytfjbocipjmpogaagreat", sum := "7a2f305e517029945f806cee8f713db015dccc3c53bed906c6cb1b31e97f34ea", func := "pannier/pannierlaw11.JoinWithin", spec := "joinWithin", inPlace := ["internal/abi.NoEscape", "internal/bytealg.MakeNoZero", "internal/bytealg.abigen_runtime_cmpstring"], unfollowed := true, recurses := true, plainKeys := false, apart := false, narrowed := true }
def JoinWithinUptoSaid : Prop := joinWithinUptoRow.holds Tryz.pinned (OpenSpec.upto joinWithinSpec)

/-- 'pannierlaw11.JoinGroups', WHERE WHAT IT READS IS OF BULK AT MOST 1048576: true; the input reads as it did. -/
def joinGroupsUptoRow : OpenClaim := { program := "ytfjbocipjmpogaagreat", sum := "7a2f305e517029945f806cee8f713db015dccc3c53bed906c6cb1b31e97f34ea", func := "pannier/pannierlaw11.JoinGroups", spec := "joinGroups", inPlace := ["internal/abi.NoEscape", "internal/bytealg.MakeNoZero", "internal/bytealg.abigen_runtime_cmpstring"], unfollowed := true, recurses := true, plainKeys := false, apart := false, narrowed := true }
def JoinGroupsUptoSaid : Prop := joinGroupsUptoRow.holds Tryz.pinned (OpenSpec.upto joinGroupsSpec)

/-- 'pannierlaw11.JoinHolds', WHERE WHAT IT READS IS OF BULK AT MOST 1048576: true; the input reads as it did. -/
def joinHoldsUptoRow : OpenClaim := { program := "ytfjbocipjmpogaagreat", sum := "7a2f305e517029945f806cee8f713db015dccc3c53bed906c6cb1b31e97f34ea", func := "pannier/pannierlaw11.JoinHolds", spec := "joinHolds", inPlace := ["internal/abi.NoEscape", "internal/bytealg.MakeNoZero", "internal/bytealg.abigen_runtime_cmpstring"], unfollowed := true, recurses := true, plainKeys := false, apart := false, narrowed := true }
def JoinHoldsUptoSaid : Prop := joinHoldsUptoRow.holds Tryz.pinned (OpenSpec.upto joinHoldsSpec)

end Rows
end Go.Proofs.YtfjbocipjmpogaaGreat
