/-
  No cell of these rows narrows 'for every input' (looked for: loops, veiled, ifaces, maps, wideKeys, modest, calm, conditions, laid).
  DERIVED. THE GIVEN ROWS OF THIS SEAT. 5 by the template 'for every input the law returns true; each argument reads behind the call as it read before'; 0 by the template 'total and deterministic' (their statements: YtpnemekkpifbaaaGreatTotals.lean).
  GIVEN WITH THE SEED: the statements are not yours to turn. If you find one false, say at which input.
  Laid BY PROGRAM, IN A SANDBOX (cutbox-rows.mjs): the forced cells as the released guide's own fill.sh prints them over the translation c01a3c89f2d089a5… (all of the seat's roots in one cut). By AI agents, Wed Nov 11 2026. No macro, syntax, notation, axiom, sorry.
-/
import Derived.Test.YtpnemekkpifbaaaGreatChecked
import GoSem.Claim
import GoSem.ClaimJoined
import GoSem.ClaimMapViews
import Derived.JoinedTies
import Derived.KernelRfl
namespace Go.Proofs.YtpnemekkpifbaaaGreat
/- THE CELL 'sum', in the pinned program and in every row, IS THE sha256 OF THE DUMP (.gsa) THAT YtpnemekkpifbaaaGreatProg.lean LOADS. Nothing in Lean hashes anything: it is a label: what it is worth is what the hold of that sum in a sandbox is worth. -/
noncomputable def Tryz.pinned : Pinned := { name := "ytpnemekkpifbaaagreat", sum := "c01a3c89f2d089a5bc40a378e7f5a081ebdabee2755fcc4d37bdbba651ad60cd", checked := Tryz.checked }
namespace Rows
def none {H : Type} : Left H := { results := [], args := [] }

/-- 'pannierlaw15.DecodeReads': WHATEVER THE INPUT: true; the input reads as it did. -/
def decodeReadsSpec : ChangeSpec := { name := "decodeReads", fn := fun _ => fun
  | [d] => { results := [.lit (.bool true)], args := [d] }
  | _ => none }
def decodeReadsRow : OpenClaim := { program := "ytpnemekkpifbaaagreat", sum := "c01a3c89f2d089a5bc40a378e7f5a081ebdabee2755fcc4d37bdbba651ad60cd", func := "pannier/pannierlaw15.DecodeReads", spec := "decodeReads", inPlace := ["internal/abi.NoEscape", "internal/bytealg.MakeNoZero"], unfollowed := true, recurses := true, apart := false }
def DecodeReadsSaid : Prop := decodeReadsRow.holds Tryz.pinned (OpenSpec.ofChange decodeReadsSpec)

/-- ITS FALSE NEIGHBOUR: 'it returns false'. Refute it at one input. -/
def decodeReadsWrong : ChangeSpec := { name := "decodeReads", fn := fun _ => fun
  | [d] => { results := [.lit (.bool false)], args := [d] }
  | _ => none }
def DecodeReadsWrongFalsely : Prop := decodeReadsRow.holds Tryz.pinned (OpenSpec.ofChange decodeReadsWrong)

/-- 'pannierlaw15.DecodeSpoilt': WHATEVER THE INPUT: true; the input reads as it did. -/
def decodeSpoiltSpec : ChangeSpec := { name := "decodeSpoilt", fn := fun _ => fun
  | [d1, d2, d3, d4] => { results := [.lit (.bool true)], args := [d1, d2, d3, d4] }
  | _ => none }
def decodeSpoiltRow : OpenClaim := { program := "ytpnemekkpifbaaagreat", sum := "c01a3c89f2d089a5bc40a378e7f5a081ebdabee2755fcc4d37bdbba651ad60cd", func := "pannier/pannierlaw15.DecodeSpoilt", spec := "decodeSpoilt", inPlace := ["internal/abi.NoEscape", "internal/bytealg.MakeNoZero"], unfollowed := true, recurses := true, apart := false }
def DecodeSpoiltSaid : Prop := decodeSpoiltRow.holds Tryz.pinned (OpenSpec.ofChange decodeSpoiltSpec)

/-- ITS FALSE NEIGHBOUR: 'it returns false'. Refute it at one input. -/
def decodeSpoiltWrong : ChangeSpec := { name := "decodeSpoilt", fn := fun _ => fun
  | [d1, d2, d3, d4] => { results := [.lit (.bool false)], args := [d1, d2, d3, d4] }
  | _ => none }
def DecodeSpoiltWrongFalsely : Prop := decodeSpoiltRow.holds Tryz.pinned (OpenSpec.ofChange decodeSpoiltWrong)

/-- 'pannierlaw15.DecodeCounts': WHATEVER THE INPUT: true; the input reads as it did. -/
def decodeCountsSpec : ChangeSpec := { name := "decodeCounts", fn := fun _ => fun
  | [d1, d2] => { results := [.lit (.bool true)], args := [d1, d2] }
  | _ => none }
def decodeCountsRow : OpenClaim := { program := "ytpnemekkpifbaaagreat", sum := "c01a3c89f2d089a5bc40a378e7f5a081ebdabee2755fcc4d37bdbba651ad60cd", func := "pannier/pannierlaw15.DecodeCounts", spec := "decodeCounts", inPlace := ["internal/abi.NoEscape", "internal/bytealg.MakeNoZero"], unfollowed := true, recurses := true, apart := false }
def DecodeCountsSaid : Prop := decodeCountsRow.holds Tryz.pinned (OpenSpec.ofChange decodeCountsSpec)

/-- ITS FALSE NEIGHBOUR: 'it returns false'. Refute it at one input. -/
def decodeCountsWrong : ChangeSpec := { name := "decodeCounts", fn := fun _ => fun
  | [d1, d2] => { results := [.lit (.bool false)], args := [d1, d2] }
  | _ => none }
def DecodeCountsWrongFalsely : Prop := decodeCountsRow.holds Tryz.pinned (OpenSpec.ofChange decodeCountsWrong)

/-- 'pannierlaw15.DecodeGreats': WHATEVER THE INPUT: true; the input reads as it did. -/
def decodeGreatsSpec : ChangeSpec := { name := "decodeGreats", fn := fun _ => fun
  | [d1, d2, d3] => { results := [.lit (.bool true)], args := [d1, d2, d3] }
  | _ => none }
def decodeGreatsRow : OpenClaim := { program := "ytpnemekkpifbaaagreat", sum := "c01a3c89f2d089a5bc40a378e7f5a081ebdabee2755fcc4d37bdbba651ad60cd", func := "pannier/pannierlaw15.DecodeGreats", spec := "decodeGreats", inPlace := ["internal/abi.NoEscape", "internal/bytealg.MakeNoZero"], unfollowed := true, recurses := true, apart := false }
def DecodeGreatsSaid : Prop := decodeGreatsRow.holds Tryz.pinned (OpenSpec.ofChange decodeGreatsSpec)

/-- ITS FALSE NEIGHBOUR: 'it returns false'. Refute it at one input. -/
def decodeGreatsWrong : ChangeSpec := { name := "decodeGreats", fn := fun _ => fun
  | [d1, d2, d3] => { results := [.lit (.bool false)], args := [d1, d2, d3] }
  | _ => none }
def DecodeGreatsWrongFalsely : Prop := decodeGreatsRow.holds Tryz.pinned (OpenSpec.ofChange decodeGreatsWrong)

/-- 'pannierlaw15.DecodeHolds': WHATEVER THE INPUT: true; the input reads as it did. -/
def decodeHoldsSpec : ChangeSpec := { name := "decodeHolds", fn := fun _ => fun
  | [d1, d2] => { results := [.lit (.bool true)], args := [d1, d2] }
  | _ => none }
def decodeHoldsRow : OpenClaim := { program := "ytpnemekkpifbaaagreat", sum := "c01a3c89f2d089a5bc40a378e7f5a081ebdabee2755fcc4d37bdbba651ad60cd", func := "pannier/pannierlaw15.DecodeHolds", spec := "decodeHolds", inPlace := ["internal/abi.NoEscape", "internal/bytealg.MakeNoZero"], unfollowed := true, recurses := true, apart := false }
def DecodeHoldsSaid : Prop := decodeHoldsRow.holds Tryz.pinned (OpenSpec.ofChange decodeHoldsSpec)

/-- ITS FALSE NEIGHBOUR: 'it returns false'. Refute it at one input. -/
def decodeHoldsWrong : ChangeSpec := { name := "decodeHolds", fn := fun _ => fun
  | [d1, d2] => { results := [.lit (.bool false)], args := [d1, d2] }
  | _ => none }
def DecodeHoldsWrongFalsely : Prop := decodeHoldsRow.holds Tryz.pinned (OpenSpec.ofChange decodeHoldsWrong)

/- THE SECOND FORM. 'bulk': how many values and letters a reading holds, each counted each time it is reached (what is shared counts as often as it is met; a slice's spare places count too). A statement '..UptoSaid' is the law's where the arguments, and the package variables that the reading takes, are together of bulk at most 1048576: NARROWER than '..Said'. Prove '..Said' where nothing that the law and all that it calls make is longer than what came in: it says more and counts as full. Else prove '..UptoSaid'. A law counts once. -/
mutual
def uptoBulk {H : Type} : DataW H → Nat
  | .lit (.string bytes) => bytes.length + 1
  | .lit _ => 1
  | .nil => 1
  | .ptr d => uptoBulk d + 1
  | .slice elems spare => uptoBulkAll elems + uptoBulkAll spare + 1
  | .agg parts => uptoBulkAll parts + 1
  | .iface _ d => uptoBulk d + 1
  | .map entries => uptoBulkEntries entries + 1
  | .held _ => 1
def uptoBulkAll {H : Type} : List (DataW H) → Nat
  | [] => 0
  | d :: r => uptoBulk d + uptoBulkAll r
def uptoBulkEntries {H : Type} : List (Lit × DataW H) → Nat
  | [] => 0
  | x :: r => uptoBulkEntry x + uptoBulkEntries r
def uptoBulkEntry {H : Type} : Lit × DataW H → Nat
  | (.string bytes, d) => bytes.length + uptoBulk d + 1
  | (_, d) => uptoBulk d + 1
 end
def uptoSmall : (H : Type) → List (DataW H) → Bool := fun _ ds => decide (uptoBulkAll ds ≤ 1048576)
def OpenSpec.upto (s : _root_.Go.ChangeSpec) : _root_.Go.OpenSpec := { _root_.Go.OpenSpec.ofChange s with cond := some uptoSmall }

/-- 'pannierlaw15.DecodeReads', WHERE WHAT IT READS IS OF BULK AT MOST 1048576: true; the input reads as it did. -/
def decodeReadsUptoRow : OpenClaim := { program := "ytpnemekkpifbaaagreat", sum := "c01a3c89f2d089a5bc40a378e7f5a081ebdabee2755fcc4d37bdbba651ad60cd", func := "pannier/pannierlaw15.DecodeReads", spec := "decodeReads", inPlace := ["internal/abi.NoEscape", "internal/bytealg.MakeNoZero"], unfollowed := true, recurses := true, apart := false, narrowed := true }
def DecodeReadsUptoSaid : Prop := decodeReadsUptoRow.holds Tryz.pinned (OpenSpec.upto decodeReadsSpec)

/-- 'pannierlaw15.DecodeSpoilt', WHERE WHAT IT READS IS OF BULK AT MOST 1048576: true; the input reads as it did. -/
def decodeSpoiltUptoRow : OpenClaim := { program := "ytpnemekkpifbaaagreat", sum := "c01a3c89f2d089a5bc40a378e7f5a081ebdabee2755fcc4d37bdbba651ad60cd", func := "pannier/pannierlaw15.DecodeSpoilt", spec := "decodeSpoilt", inPlace := ["internal/abi.NoEscape", "internal/bytealg.MakeNoZero"], unfollowed := true, recurses := true, apart := false, narrowed := true }
def DecodeSpoiltUptoSaid : Prop := decodeSpoiltUptoRow.holds Tryz.pinned (OpenSpec.upto decodeSpoiltSpec)

/-- 'pannierlaw15.DecodeCounts', WHERE WHAT IT READS IS OF BULK AT MOST 1048576: true; the input reads as it did. -/
def decodeCountsUptoRow : OpenClaim := { program := "ytpnemekkpifbaaagreat", sum := "c01a3c89f2d089a5bc40a378e7f5a081ebdabee2755fcc4d37bdbba651ad60cd", func := "pannier/pannierlaw15.DecodeCounts", spec := "decodeCounts", inPlace := ["internal/abi.NoEscape", "internal/bytealg.MakeNoZero"], unfollowed := true, recurses := true, apart := false, narrowed := true }
def DecodeCountsUptoSaid : Prop := decodeCountsUptoRow.holds Tryz.pinned (OpenSpec.upto decodeCountsSpec)

/-- 'pannierlaw15.DecodeGreats', WHERE WHAT IT READS IS OF BULK AT MOST 1048576: true; the input reads as it did. -/
def decodeGreatsUptoRow : OpenClaim := { program := "ytpnemekkpifbaaagreat", sum := "c01a3c89f2d089a5bc40a378e7f5a081ebdabee2755fcc4d37bdbba651ad60cd", func := "pannier/pannierlaw15.DecodeGreats", spec := "decodeGreats", inPlace := ["internal/abi.NoEscape", "internal/bytealg.MakeNoZero"], unfollowed := true, recurses := true, apart := false, narrowed := true }
def DecodeGreatsUptoSaid : Prop := decodeGreatsUptoRow.holds Tryz.pinned (OpenSpec.upto decodeGreatsSpec)

/-- 'pannierlaw15.DecodeHolds', WHERE WHAT IT READS IS OF BULK AT MOST 1048576: true; the input reads as it did. -/
def decodeHoldsUptoRow : OpenClaim := { program := "ytpnemekkpifbaaagreat", sum := "c01a3c89f2d089a5bc40a378e7f5a081ebdabee2755fcc4d37bdbba651ad60cd", func := "pannier/pannierlaw15.DecodeHolds", spec := "decodeHolds", inPlace := ["internal/abi.NoEscape", "internal/bytealg.MakeNoZero"], unfollowed := true, recurses := true, apart := false, narrowed := true }
def DecodeHoldsUptoSaid : Prop := decodeHoldsUptoRow.holds Tryz.pinned (OpenSpec.upto decodeHoldsSpec)

end Rows
end Go.Proofs.YtpnemekkpifbaaaGreat
