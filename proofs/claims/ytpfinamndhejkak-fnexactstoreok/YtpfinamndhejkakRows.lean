/-
  No cell of these rows narrows 'for every input' (looked for: loops, veiled, ifaces, maps, wideKeys, modest, calm, conditions, laid).
  DERIVED. THE GIVEN ROWS OF THIS SEAT. 6 by the template 'for every input the law returns true; each argument reads behind the call as it read before'; 0 by the template 'total and deterministic' (their statements: YtpfinamndhejkakTotals.lean).
  GIVEN WITH THE SEED: the statements are not yours to turn. If you find one false, say at which input.
  Laid BY PROGRAM, IN A SANDBOX (cutbox-rows.mjs): the forced cells as the released guide's own fill.sh prints them over the translation c8077d237fc5c616… (all of the seat's roots in one cut). By AI agents, Wed Nov 11 2026. No macro, syntax, notation, axiom, sorry.
-/
import Derived.Test.YtpfinamndhejkakChecked
import GoSem.Claim
import GoSem.ClaimJoined
import GoSem.ClaimMapViews
import Derived.JoinedTies
import Derived.KernelRfl
namespace Go.Proofs.Ytpfinamndhejkak
/- THE CELL 'sum', in the pinned program and in every row, IS THE sha256 OF THE DUMP (.gsa) THAT YtpfinamndhejkakProg.lean LOADS. Nothing in Lean hashes anything: it is a label: what it is worth is what the hold of that sum in a sandbox is worth. -/
noncomputable def Try.pinned : Pinned := { name := "ytpfinamndhejkak", sum := "c8077d237fc5c616ea0a1abbd2545b89d41dfd8113e0ce79a904ea169a1c2c54", checked := Try.checked }
namespace Rows
def none {H : Type} : Left H := { results := [], args := [] }

/-- 'laws.FnExactCoded': WHATEVER THE INPUT: true; the input reads as it did. -/
def fnExactCodedSpec : ChangeSpec := { name := "fnExactCoded", fn := fun _ => fun
  | [d1, d2] => { results := [.lit (.bool true)], args := [d1, d2] }
  | _ => none }
def fnExactCodedRow : OpenClaim := { program := "ytpfinamndhejkak", sum := "c8077d237fc5c616ea0a1abbd2545b89d41dfd8113e0ce79a904ea169a1c2c54", func := "loop.example/g00260/laws.FnExactCoded", spec := "fnExactCoded", inPlace := ["internal/abi.NoEscape"], plainKeys := false, apart := false }
def FnExactCodedSaid : Prop := fnExactCodedRow.holds Try.pinned (OpenSpec.ofChange fnExactCodedSpec)

/-- ITS FALSE NEIGHBOUR: 'it returns false'. Refute it at one input. -/
def fnExactCodedWrong : ChangeSpec := { name := "fnExactCoded", fn := fun _ => fun
  | [d1, d2] => { results := [.lit (.bool false)], args := [d1, d2] }
  | _ => none }
def FnExactCodedWrongFalsely : Prop := fnExactCodedRow.holds Try.pinned (OpenSpec.ofChange fnExactCodedWrong)

/-- 'laws.FnExactDecoded': WHATEVER THE INPUT: true; the input reads as it did. -/
def fnExactDecodedSpec : ChangeSpec := { name := "fnExactDecoded", fn := fun _ => fun
  | [d1, d2] => { results := [.lit (.bool true)], args := [d1, d2] }
  | _ => none }
def fnExactDecodedRow : OpenClaim := { program := "ytpfinamndhejkak", sum := "c8077d237fc5c616ea0a1abbd2545b89d41dfd8113e0ce79a904ea169a1c2c54", func := "loop.example/g00260/laws.FnExactDecoded", spec := "fnExactDecoded", inPlace := ["internal/abi.NoEscape"], unfollowed := true, recurses := true, plainKeys := false, apart := false }
def FnExactDecodedSaid : Prop := fnExactDecodedRow.holds Try.pinned (OpenSpec.ofChange fnExactDecodedSpec)

/-- ITS FALSE NEIGHBOUR: 'it returns false'. Refute it at one input. -/
def fnExactDecodedWrong : ChangeSpec := { name := "fnExactDecoded", fn := fun _ => fun
  | [d1, d2] => { results := [.lit (.bool false)], args := [d1, d2] }
  | _ => none }
def FnExactDecodedWrongFalsely : Prop := fnExactDecodedRow.holds Try.pinned (OpenSpec.ofChange fnExactDecodedWrong)

/-- 'laws.FnExactSqueezed': WHATEVER THE INPUT: true; the input reads as it did. -/
def fnExactSqueezedSpec : ChangeSpec := { name := "fnExactSqueezed", fn := fun _ => fun
  | [d] => { results := [.lit (.bool true)], args := [d] }
  | _ => none }
def fnExactSqueezedRow : OpenClaim := { program := "ytpfinamndhejkak", sum := "c8077d237fc5c616ea0a1abbd2545b89d41dfd8113e0ce79a904ea169a1c2c54", func := "loop.example/g00260/laws.FnExactSqueezed", spec := "fnExactSqueezed", inPlace := ["internal/abi.NoEscape"], plainKeys := false, apart := false }
def FnExactSqueezedSaid : Prop := fnExactSqueezedRow.holds Try.pinned (OpenSpec.ofChange fnExactSqueezedSpec)

/-- ITS FALSE NEIGHBOUR: 'it returns false'. Refute it at one input. -/
def fnExactSqueezedWrong : ChangeSpec := { name := "fnExactSqueezed", fn := fun _ => fun
  | [d] => { results := [.lit (.bool false)], args := [d] }
  | _ => none }
def FnExactSqueezedWrongFalsely : Prop := fnExactSqueezedRow.holds Try.pinned (OpenSpec.ofChange fnExactSqueezedWrong)

/-- 'laws.FnExactLoosed': WHATEVER THE INPUT: true; the input reads as it did. -/
def fnExactLoosedSpec : ChangeSpec := { name := "fnExactLoosed", fn := fun _ => fun
  | [d] => { results := [.lit (.bool true)], args := [d] }
  | _ => none }
def fnExactLoosedRow : OpenClaim := { program := "ytpfinamndhejkak", sum := "c8077d237fc5c616ea0a1abbd2545b89d41dfd8113e0ce79a904ea169a1c2c54", func := "loop.example/g00260/laws.FnExactLoosed", spec := "fnExactLoosed", inPlace := ["internal/abi.NoEscape"], plainKeys := false, apart := false }
def FnExactLoosedSaid : Prop := fnExactLoosedRow.holds Try.pinned (OpenSpec.ofChange fnExactLoosedSpec)

/-- ITS FALSE NEIGHBOUR: 'it returns false'. Refute it at one input. -/
def fnExactLoosedWrong : ChangeSpec := { name := "fnExactLoosed", fn := fun _ => fun
  | [d] => { results := [.lit (.bool false)], args := [d] }
  | _ => none }
def FnExactLoosedWrongFalsely : Prop := fnExactLoosedRow.holds Try.pinned (OpenSpec.ofChange fnExactLoosedWrong)

/-- 'laws.FnExactGain': WHATEVER THE INPUT: true; the input reads as it did. -/
def fnExactGainSpec : ChangeSpec := { name := "fnExactGain", fn := fun _ => fun
  | [d] => { results := [.lit (.bool true)], args := [d] }
  | _ => none }
def fnExactGainRow : OpenClaim := { program := "ytpfinamndhejkak", sum := "c8077d237fc5c616ea0a1abbd2545b89d41dfd8113e0ce79a904ea169a1c2c54", func := "loop.example/g00260/laws.FnExactGain", spec := "fnExactGain", inPlace := ["internal/abi.NoEscape"], plainKeys := false, apart := false }
def FnExactGainSaid : Prop := fnExactGainRow.holds Try.pinned (OpenSpec.ofChange fnExactGainSpec)

/-- ITS FALSE NEIGHBOUR: 'it returns false'. Refute it at one input. -/
def fnExactGainWrong : ChangeSpec := { name := "fnExactGain", fn := fun _ => fun
  | [d] => { results := [.lit (.bool false)], args := [d] }
  | _ => none }
def FnExactGainWrongFalsely : Prop := fnExactGainRow.holds Try.pinned (OpenSpec.ofChange fnExactGainWrong)

/-- 'laws.FnExactStoreOk': WHATEVER THE INPUT: true; the input reads as it did. -/
def fnExactStoreOkSpec : ChangeSpec := { name := "fnExactStoreOk", fn := fun _ => fun
  | [d] => { results := [.lit (.bool true)], args := [d] }
  | _ => none }
def fnExactStoreOkRow : OpenClaim := { program := "ytpfinamndhejkak", sum := "c8077d237fc5c616ea0a1abbd2545b89d41dfd8113e0ce79a904ea169a1c2c54", func := "loop.example/g00260/laws.FnExactStoreOk", spec := "fnExactStoreOk", unfollowed := true, recurses := true, plainKeys := false, apart := false }
def FnExactStoreOkSaid : Prop := fnExactStoreOkRow.holds Try.pinned (OpenSpec.ofChange fnExactStoreOkSpec)

/-- ITS FALSE NEIGHBOUR: 'it returns false'. Refute it at one input. -/
def fnExactStoreOkWrong : ChangeSpec := { name := "fnExactStoreOk", fn := fun _ => fun
  | [d] => { results := [.lit (.bool false)], args := [d] }
  | _ => none }
def FnExactStoreOkWrongFalsely : Prop := fnExactStoreOkRow.holds Try.pinned (OpenSpec.ofChange fnExactStoreOkWrong)

/- THE SECOND FORM. 'bulk': how many values and letters a reading holds, each counted each time it is reached (what is shared counts as often as it is met; a slice's spare places count too). A statement '..UptoSaid' is the law's where the arguments, and the package variables that the reading takes, are together of bulk at most 1048576: NARROWER than '..Said'. Prove '..Said' where nothing that the law and all that it calls make is longer than what came in: it says more and counts as full. Else prove '..UptoSaid'. A law counts once. -/
mutual
def uptoBulk {H : Type} : DataW H → Nat
  | .lit (.string bytes) => bytes.length + 1
  | .lit _ => 1
  | .nil => 1
  | .ptr d => uptoBulk d + 1
  | .slice elems spare => uptoBulkAll elems + uptoBulkAll spare + 1
  | .agg parts => uptoBulkAll parts + 1
  | .iface _ d => uptoBulk d + 1
  | .map entries => uptoBulkEntries entries + 1
  | .held _ => 1
def uptoBulkAll {H : Type} : List (DataW H) → Nat
  | [] => 0
  | d :: r => uptoBulk d + uptoBulkAll r
def uptoBulkEntries {H : Type} : List (Lit × DataW H) → Nat
  | [] => 0
  | x :: r => uptoBulkEntry x + uptoBulkEntries r
def uptoBulkEntry {H : Type} : Lit × DataW H → Nat
  | (.string bytes, d) => bytes.length + uptoBulk d + 1
  | (_, d) => uptoBulk d + 1
 end
def uptoSmall : (H : Type) → List (DataW H) → Bool := fun _ ds => decide (uptoBulkAll ds ≤ 1048576)
def OpenSpec.upto (s : _root_.Go.ChangeSpec) : _root_.Go.OpenSpec := { _root_.Go.OpenSpec.ofChange s with cond := some uptoSmall }

/-- 'laws.FnExactCoded', WHERE WHAT IT READS IS OF BULK AT MOST 1048576: true; the input reads as it did. -/
def fnExactCodedUptoRow : OpenClaim := { program := "ytpfinamndhejkak", sum := "c8077d237fc5c616ea0a1abbd2545b89d41dfd8113e0ce79a904ea169a1c2c54", func := "loop.example/g00260/laws.FnExactCoded", spec := "fnExactCoded", inPlace := ["internal/abi.NoEscape"], plainKeys := false, apart := false, narrowed := true }
def FnExactCodedUptoSaid : Prop := fnExactCodedUptoRow.holds Try.pinned (OpenSpec.upto fnExactCodedSpec)

/-- 'laws.FnExactDecoded', WHERE WHAT IT READS IS OF BULK AT MOST 1048576: true; the input reads as it did. -/
def fnExactDecodedUptoRow : OpenClaim := { program := "ytpfinamndhejkak", sum := "c8077d237fc5c616ea0a1abbd2545b89d41dfd8113e0ce79a904ea169a1c2c54", func := "loop.example/g00260/laws.FnExactDecoded", spec := "fnExactDecoded", inPlace := ["internal/abi.NoEscape"], unfollowed := true, recurses := true, plainKeys := false, apart := false, narrowed := true }
def FnExactDecodedUptoSaid : Prop := fnExactDecodedUptoRow.holds Try.pinned (OpenSpec.upto fnExactDecodedSpec)

/-- 'laws.FnExactSqueezed', WHERE WHAT IT READS IS OF BULK AT MOST 1048576: true; the input reads as it did. -/
def fnExactSqueezedUptoRow : OpenClaim := { program := "ytpfinamndhejkak", sum := "c8077d237fc5c616ea0a1abbd2545b89d41dfd8113e0ce79a904ea169a1c2c54", func := "loop.example/g00260/laws.FnExactSqueezed", spec := "fnExactSqueezed", inPlace := ["internal/abi.NoEscape"], plainKeys := false, apart := false, narrowed := true }
def FnExactSqueezedUptoSaid : Prop := fnExactSqueezedUptoRow.holds Try.pinned (OpenSpec.upto fnExactSqueezedSpec)

/-- 'laws.FnExactLoosed', WHERE WHAT IT READS IS OF BULK AT MOST 1048576: true; the input reads as it did. -/
def fnExactLoosedUptoRow : OpenClaim := { program := "ytpfinamndhejkak", sum := "c8077d237fc5c616ea0a1abbd2545b89d41dfd8113e0ce79a904ea169a1c2c54", func := "loop.example/g00260/laws.FnExactLoosed", spec := "fnExactLoosed", inPlace := ["internal/abi.NoEscape"], plainKeys := false, apart := false, narrowed := true }
def FnExactLoosedUptoSaid : Prop := fnExactLoosedUptoRow.holds Try.pinned (OpenSpec.upto fnExactLoosedSpec)

/-- 'laws.FnExactGain', WHERE WHAT IT READS IS OF BULK AT MOST 1048576: true; the input reads as it did. -/
def fnExactGainUptoRow : OpenClaim := { program := "ytpfinamndhejkak", sum := "c8077d237fc5c616ea0a1abbd2545b89d41dfd8113e0ce79a904ea169a1c2c54", func := "loop.example/g00260/laws.FnExactGain", spec := "fnExactGain", inPlace := ["internal/abi.NoEscape"], plainKeys := false, apart := false, narrowed := true }
def FnExactGainUptoSaid : Prop := fnExactGainUptoRow.holds Try.pinned (OpenSpec.upto fnExactGainSpec)

/-- 'laws.FnExactStoreOk', WHERE WHAT IT READS IS OF BULK AT MOST 1048576: true; the input reads as it did. -/
def fnExactStoreOkUptoRow : OpenClaim := { program := "ytpfinamndhejkak", sum := "c8077d237fc5c616ea0a1abbd2545b89d41dfd8113e0ce79a904ea169a1c2c54", func := "loop.example/g00260/laws.FnExactStoreOk", spec := "fnExactStoreOk", unfollowed := true, recurses := true, plainKeys := false, apart := false, narrowed := true }
def FnExactStoreOkUptoSaid : Prop := fnExactStoreOkUptoRow.holds Try.pinned (OpenSpec.upto fnExactStoreOkSpec)

end Rows
end Go.Proofs.Ytpfinamndhejkak
