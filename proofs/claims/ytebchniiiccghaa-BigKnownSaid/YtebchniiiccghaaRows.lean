/-
  No cell of these rows narrows 'for every input' (looked for: loops, veiled, ifaces, maps, wideKeys, modest, calm, conditions, laid).
  DERIVED. THE GIVEN ROWS OF THIS SEAT. 11 by the template 'for every input the law returns true; each argument reads behind the call as it read before'; 0 by the template 'total and deterministic' (their statements: YtebchniiiccghaaTotals.lean).
  GIVEN WITH THE SEED: the statements are not yours to turn. If you find one false, say at which input.
  Laid BY PROGRAM, IN A SANDBOX (cutbox-rows.mjs): the forced cells as the released guide's own fill.sh prints them over the translation 378ea6bc59453b52… (all of the seat's roots in one cut). By AI agents, Wed Nov 11 2026. No macro, syntax, notation, axiom, sorry.
-/
import Derived.Test.YtebchniiiccghaaChecked
import GoSem.Claim
import GoSem.ClaimJoined
import GoSem.ClaimMapViews
import Derived.JoinedTies
import Derived.KernelRfl
namespace Go.Proofs.Ytebchniiiccghaa
/- THE CELL 'sum', in the pinned program and in every row, IS THE sha256 OF THE DUMP (.gsa) THAT YtebchniiiccghaaProg.lean LOADS. Nothing in Lean hashes anything: it is a label: what it is worth is what the hold of that sum in a sandbox is worth. -/
noncomputable def Try.pinned : Pinned := { name := "ytebchniiiccghaa", sum := "378ea6bc59453b52a8364e9479327dac4e9711472640b2188a1c00d03ed21998", checked := Try.checked }
namespace Rows
def none {H : Type} : Left H := { results := [], args := [] }

/-- 'litmuslaw01.NatParses': WHATEVER THE INPUT: true; the input reads as it did. -/
def natParsesSpec : ChangeSpec := { name := "natParses", fn := fun _ => fun
  | [d1, d2] => { results := [.lit (.bool true)], args := [d1, d2] }
  | _ => none }
def natParsesRow : OpenClaim := { program := "ytebchniiiccghaa", sum := "378ea6bc59453b52a8364e9479327dac4e9711472640b2188a1c00d03ed21998", func := "litmus/litmuslaw01.NatParses", spec := "natParses", unfollowed := true, recurses := true, apart := false }
def NatParsesSaid : Prop := natParsesRow.holds Try.pinned (OpenSpec.ofChange natParsesSpec)

/-- ITS FALSE NEIGHBOUR: 'it returns false'. Refute it at one input. -/
def natParsesWrong : ChangeSpec := { name := "natParses", fn := fun _ => fun
  | [d1, d2] => { results := [.lit (.bool false)], args := [d1, d2] }
  | _ => none }
def NatParsesWrongFalsely : Prop := natParsesRow.holds Try.pinned (OpenSpec.ofChange natParsesWrong)

/-- 'litmuslaw02.BigTells': WHATEVER THE INPUT: true; the input reads as it did. -/
def bigTellsSpec : ChangeSpec := { name := "bigTells", fn := fun _ => fun
  | [d1, d2, d3] => { results := [.lit (.bool true)], args := [d1, d2, d3] }
  | _ => none }
def bigTellsRow : OpenClaim := { program := "ytebchniiiccghaa", sum := "378ea6bc59453b52a8364e9479327dac4e9711472640b2188a1c00d03ed21998", func := "litmus/litmuslaw02.BigTells", spec := "bigTells", unfollowed := true, recurses := true, apart := false }
def BigTellsSaid : Prop := bigTellsRow.holds Try.pinned (OpenSpec.ofChange bigTellsSpec)

/-- ITS FALSE NEIGHBOUR: 'it returns false'. Refute it at one input. -/
def bigTellsWrong : ChangeSpec := { name := "bigTells", fn := fun _ => fun
  | [d1, d2, d3] => { results := [.lit (.bool false)], args := [d1, d2, d3] }
  | _ => none }
def BigTellsWrongFalsely : Prop := bigTellsRow.holds Try.pinned (OpenSpec.ofChange bigTellsWrong)

/-- 'litmuslaw02.BigDivs': WHATEVER THE INPUT: true; the input reads as it did. -/
def bigDivsSpec : ChangeSpec := { name := "bigDivs", fn := fun _ => fun
  | [d1, d2, d3] => { results := [.lit (.bool true)], args := [d1, d2, d3] }
  | _ => none }
def bigDivsRow : OpenClaim := { program := "ytebchniiiccghaa", sum := "378ea6bc59453b52a8364e9479327dac4e9711472640b2188a1c00d03ed21998", func := "litmus/litmuslaw02.BigDivs", spec := "bigDivs", unfollowed := true, recurses := true, apart := false }
def BigDivsSaid : Prop := bigDivsRow.holds Try.pinned (OpenSpec.ofChange bigDivsSpec)

/-- ITS FALSE NEIGHBOUR: 'it returns false'. Refute it at one input. -/
def bigDivsWrong : ChangeSpec := { name := "bigDivs", fn := fun _ => fun
  | [d1, d2, d3] => { results := [.lit (.bool false)], args := [d1, d2, d3] }
  | _ => none }
def BigDivsWrongFalsely : Prop := bigDivsRow.holds Try.pinned (OpenSpec.ofChange bigDivsWrong)

/-- 'litmuslaw02.BigReads': WHATEVER THE INPUT: true; the input reads as it did. -/
def bigReadsSpec : ChangeSpec := { name := "bigReads", fn := fun _ => fun
  | [d1, d2, d3] => { results := [.lit (.bool true)], args := [d1, d2, d3] }
  | _ => none }
def bigReadsRow : OpenClaim := { program := "ytebchniiiccghaa", sum := "378ea6bc59453b52a8364e9479327dac4e9711472640b2188a1c00d03ed21998", func := "litmus/litmuslaw02.BigReads", spec := "bigReads", unfollowed := true, recurses := true, apart := false }
def BigReadsSaid : Prop := bigReadsRow.holds Try.pinned (OpenSpec.ofChange bigReadsSpec)

/-- ITS FALSE NEIGHBOUR: 'it returns false'. Refute it at one input. -/
def bigReadsWrong : ChangeSpec := { name := "bigReads", fn := fun _ => fun
  | [d1, d2, d3] => { results := [.lit (.bool false)], args := [d1, d2, d3] }
  | _ => none }
def BigReadsWrongFalsely : Prop := bigReadsRow.holds Try.pinned (OpenSpec.ofChange bigReadsWrong)

/-- 'litmuslaw02.BigRing': WHATEVER THE INPUT: true; the input reads as it did. -/
def bigRingSpec : ChangeSpec := { name := "bigRing", fn := fun _ => fun
  | [d1, d2] => { results := [.lit (.bool true)], args := [d1, d2] }
  | _ => none }
def bigRingRow : OpenClaim := { program := "ytebchniiiccghaa", sum := "378ea6bc59453b52a8364e9479327dac4e9711472640b2188a1c00d03ed21998", func := "litmus/litmuslaw02.BigRing", spec := "bigRing", unfollowed := true, recurses := true, apart := false }
def BigRingSaid : Prop := bigRingRow.holds Try.pinned (OpenSpec.ofChange bigRingSpec)

/-- ITS FALSE NEIGHBOUR: 'it returns false'. Refute it at one input. -/
def bigRingWrong : ChangeSpec := { name := "bigRing", fn := fun _ => fun
  | [d1, d2] => { results := [.lit (.bool false)], args := [d1, d2] }
  | _ => none }
def BigRingWrongFalsely : Prop := bigRingRow.holds Try.pinned (OpenSpec.ofChange bigRingWrong)

/-- 'litmuslaw02.BigFloor': WHATEVER THE INPUT: true; the input reads as it did. -/
def bigFloorSpec : ChangeSpec := { name := "bigFloor", fn := fun _ => fun
  | [d] => { results := [.lit (.bool true)], args := [d] }
  | _ => none }
def bigFloorRow : OpenClaim := { program := "ytebchniiiccghaa", sum := "378ea6bc59453b52a8364e9479327dac4e9711472640b2188a1c00d03ed21998", func := "litmus/litmuslaw02.BigFloor", spec := "bigFloor", unfollowed := true, recurses := true, apart := false }
def BigFloorSaid : Prop := bigFloorRow.holds Try.pinned (OpenSpec.ofChange bigFloorSpec)

/-- ITS FALSE NEIGHBOUR: 'it returns false'. Refute it at one input. -/
def bigFloorWrong : ChangeSpec := { name := "bigFloor", fn := fun _ => fun
  | [d] => { results := [.lit (.bool false)], args := [d] }
  | _ => none }
def BigFloorWrongFalsely : Prop := bigFloorRow.holds Try.pinned (OpenSpec.ofChange bigFloorWrong)

/-- 'litmuslaw02.BigOrder': WHATEVER THE INPUT: true; the input reads as it did. -/
def bigOrderSpec : ChangeSpec := { name := "bigOrder", fn := fun _ => fun
  | [d1, d2, d3] => { results := [.lit (.bool true)], args := [d1, d2, d3] }
  | _ => none }
def bigOrderRow : OpenClaim := { program := "ytebchniiiccghaa", sum := "378ea6bc59453b52a8364e9479327dac4e9711472640b2188a1c00d03ed21998", func := "litmus/litmuslaw02.BigOrder", spec := "bigOrder", unfollowed := true, recurses := true, apart := false }
def BigOrderSaid : Prop := bigOrderRow.holds Try.pinned (OpenSpec.ofChange bigOrderSpec)

/-- ITS FALSE NEIGHBOUR: 'it returns false'. Refute it at one input. -/
def bigOrderWrong : ChangeSpec := { name := "bigOrder", fn := fun _ => fun
  | [d1, d2, d3] => { results := [.lit (.bool false)], args := [d1, d2, d3] }
  | _ => none }
def BigOrderWrongFalsely : Prop := bigOrderRow.holds Try.pinned (OpenSpec.ofChange bigOrderWrong)

/-- 'litmuslaw02.BigTexts': WHATEVER THE INPUT: true; the input reads as it did. -/
def bigTextsSpec : ChangeSpec := { name := "bigTexts", fn := fun _ => fun
  | [d1, d2] => { results := [.lit (.bool true)], args := [d1, d2] }
  | _ => none }
def bigTextsRow : OpenClaim := { program := "ytebchniiiccghaa", sum := "378ea6bc59453b52a8364e9479327dac4e9711472640b2188a1c00d03ed21998", func := "litmus/litmuslaw02.BigTexts", spec := "bigTexts", unfollowed := true, recurses := true, apart := false }
def BigTextsSaid : Prop := bigTextsRow.holds Try.pinned (OpenSpec.ofChange bigTextsSpec)

/-- ITS FALSE NEIGHBOUR: 'it returns false'. Refute it at one input. -/
def bigTextsWrong : ChangeSpec := { name := "bigTexts", fn := fun _ => fun
  | [d1, d2] => { results := [.lit (.bool false)], args := [d1, d2] }
  | _ => none }
def BigTextsWrongFalsely : Prop := bigTextsRow.holds Try.pinned (OpenSpec.ofChange bigTextsWrong)

/-- 'litmuslaw02.BigSmall': WHATEVER THE INPUT: true; the input reads as it did. -/
def bigSmallSpec : ChangeSpec := { name := "bigSmall", fn := fun _ => fun
  | [d1, d2, d3] => { results := [.lit (.bool true)], args := [d1, d2, d3] }
  | _ => none }
def bigSmallRow : OpenClaim := { program := "ytebchniiiccghaa", sum := "378ea6bc59453b52a8364e9479327dac4e9711472640b2188a1c00d03ed21998", func := "litmus/litmuslaw02.BigSmall", spec := "bigSmall", unfollowed := true, recurses := true, apart := false }
def BigSmallSaid : Prop := bigSmallRow.holds Try.pinned (OpenSpec.ofChange bigSmallSpec)

/-- ITS FALSE NEIGHBOUR: 'it returns false'. Refute it at one input. -/
def bigSmallWrong : ChangeSpec := { name := "bigSmall", fn := fun _ => fun
  | [d1, d2, d3] => { results := [.lit (.bool false)], args := [d1, d2, d3] }
  | _ => none }
def BigSmallWrongFalsely : Prop := bigSmallRow.holds Try.pinned (OpenSpec.ofChange bigSmallWrong)

/-- 'litmuslaw02.BigShares': WHATEVER THE INPUT: true; the input reads as it did. -/
def bigSharesSpec : ChangeSpec := { name := "bigShares", fn := fun _ => fun
  | [d1, d2] => { results := [.lit (.bool true)], args := [d1, d2] }
  | _ => none }
def bigSharesRow : OpenClaim := { program := "ytebchniiiccghaa", sum := "378ea6bc59453b52a8364e9479327dac4e9711472640b2188a1c00d03ed21998", func := "litmus/litmuslaw02.BigShares", spec := "bigShares", unfollowed := true, recurses := true, apart := false }
def BigSharesSaid : Prop := bigSharesRow.holds Try.pinned (OpenSpec.ofChange bigSharesSpec)

/-- ITS FALSE NEIGHBOUR: 'it returns false'. Refute it at one input. -/
def bigSharesWrong : ChangeSpec := { name := "bigShares", fn := fun _ => fun
  | [d1, d2] => { results := [.lit (.bool false)], args := [d1, d2] }
  | _ => none }
def BigSharesWrongFalsely : Prop := bigSharesRow.holds Try.pinned (OpenSpec.ofChange bigSharesWrong)

/-- 'litmuslaw02.BigKnown': WHATEVER THE INPUT: true; the input reads as it did. -/
def bigKnownSpec : ChangeSpec := { name := "bigKnown", fn := fun _ => fun
  | [] => { results := [.lit (.bool true)], args := [] }
  | _ => none }
def bigKnownRow : OpenClaim := { program := "ytebchniiiccghaa", sum := "378ea6bc59453b52a8364e9479327dac4e9711472640b2188a1c00d03ed21998", func := "litmus/litmuslaw02.BigKnown", spec := "bigKnown", unfollowed := true, recurses := true, apart := false }
def BigKnownSaid : Prop := bigKnownRow.holds Try.pinned (OpenSpec.ofChange bigKnownSpec)

/-- ITS FALSE NEIGHBOUR: 'it returns false'. Refute it at one input. -/
def bigKnownWrong : ChangeSpec := { name := "bigKnown", fn := fun _ => fun
  | [] => { results := [.lit (.bool false)], args := [] }
  | _ => none }
def BigKnownWrongFalsely : Prop := bigKnownRow.holds Try.pinned (OpenSpec.ofChange bigKnownWrong)

/- THE SECOND FORM. 'bulk': how many values and letters a reading holds, each counted each time it is reached (what is shared counts as often as it is met; a slice's spare places count too). A statement '..UptoSaid' is the law's where the arguments, and the package variables that the reading takes, are together of bulk at most 1048576: NARROWER than '..Said'. Prove '..Said' where nothing that the law and all that it calls make is longer than what came in: it says more and counts as full. Else prove '..UptoSaid'. A law counts once. -/
mutual
def uptoBulk {H : Type} : DataW H → Nat
  | .lit (.string bytes) => bytes.length + 1
  | .lit _ => 1
  | .nil => 1
  | .ptr d => uptoBulk d + 1
  | .slice elems spare => uptoBulkAll elems + uptoBulkAll spare + 1
  | .agg parts => uptoBulkAll parts + 1
  | .iface _ d => uptoBulk d + 1
  | .map entries => uptoBulkEntries entries + 1
  | .held _ => 1
def uptoBulkAll {H : Type} : List (DataW H) → Nat
  | [] => 0
  | d :: r => uptoBulk d + uptoBulkAll r
def uptoBulkEntries {H : Type} : List (Lit × DataW H) → Nat
  | [] => 0
  | x :: r => uptoBulkEntry x + uptoBulkEntries r
def uptoBulkEntry {H : Type} : Lit × DataW H → Nat
  | (.string bytes, d) => bytes.length + uptoBulk d + 1
  | (_, d) => uptoBulk d + 1
 end
def uptoSmall : (H : Type) → List (DataW H) → Bool := fun _ ds => decide (uptoBulkAll ds ≤ 1048576)
def OpenSpec.upto (s : _root_.Go.ChangeSpec) : _root_.Go.OpenSpec := { _root_.Go.OpenSpec.ofChange s with cond := some uptoSmall }

/-- 'litmuslaw01.NatParses', WHERE WHAT IT READS IS OF BULK AT MOST 1048576: true; the input reads as it did. -/
def natParsesUptoRow : OpenClaim := { program := "ytebchniiiccghaa", sum := "378ea6bc59453b52a8364e9479327dac4e9711472640b2188a1c00d03ed21998", func := "litmus/litmuslaw01.NatParses", spec := "natParses", unfollowed := true, recurses := true, apart := false, narrowed := true }
def NatParsesUptoSaid : Prop := natParsesUptoRow.holds Try.pinned (OpenSpec.upto natParsesSpec)

/-- 'litmuslaw02.BigTells', WHERE WHAT IT READS IS OF BULK AT MOST 1048576: true; the input reads as it did. -/
def bigTellsUptoRow : OpenClaim := { program := "ytebchniiiccghaa", sum := "378ea6bc59453b52a8364e9479327dac4e9711472640b2188a1c00d03ed21998", func := "litmus/litmuslaw02.BigTells", spec := "bigTells", unfollowed := true, recurses := true, apart := false, narrowed := true }
def BigTellsUptoSaid : Prop := bigTellsUptoRow.holds Try.pinned (OpenSpec.upto bigTellsSpec)

/-- 'litmuslaw02.BigDivs', WHERE WHAT IT READS IS OF BULK AT MOST 1048576: true; the input reads as it did. -/
def bigDivsUptoRow : OpenClaim := { program := "ytebchniiiccghaa", sum := "378ea6bc59453b52a8364e9479327dac4e9711472640b2188a1c00d03ed21998", func := "litmus/litmuslaw02.BigDivs", spec := "bigDivs", unfollowed := true, recurses := true, apart := false, narrowed := true }
def BigDivsUptoSaid : Prop := bigDivsUptoRow.holds Try.pinned (OpenSpec.upto bigDivsSpec)

/-- 'litmuslaw02.BigReads', WHERE WHAT IT READS IS OF BULK AT MOST 1048576: true; the input reads as it did. -/
def bigReadsUptoRow : OpenClaim := { program := "ytebchniiiccghaa", sum := "378ea6bc59453b52a8364e9479327dac4e9711472640b2188a1c00d03ed21998", func := "litmus/litmuslaw02.BigReads", spec := "bigReads", unfollowed := true, recurses := true, apart := false, narrowed := true }
def BigReadsUptoSaid : Prop := bigReadsUptoRow.holds Try.pinned (OpenSpec.upto bigReadsSpec)

/-- 'litmuslaw02.BigRing', WHERE WHAT IT READS IS OF BULK AT MOST 1048576: true; the input reads as it did. -/
def bigRingUptoRow : OpenClaim := { program := "ytebchniiiccghaa", sum := "378ea6bc59453b52a8364e9479327dac4e9711472640b2188a1c00d03ed21998", func := "litmus/litmuslaw02.BigRing", spec := "bigRing", unfollowed := true, recurses := true, apart := false, narrowed := true }
def BigRingUptoSaid : Prop := bigRingUptoRow.holds Try.pinned (OpenSpec.upto bigRingSpec)

/-- 'litmuslaw02.BigFloor', WHERE WHAT IT READS IS OF BULK AT MOST 1048576: true; the input reads as it did. -/
def bigFloorUptoRow : OpenClaim := { program := "ytebchniiiccghaa", sum := "378ea6bc59453b52a8364e9479327dac4e9711472640b2188a1c00d03ed21998", func := "litmus/litmuslaw02.BigFloor", spec := "bigFloor", unfollowed := true, recurses := true, apart := false, narrowed := true }
def BigFloorUptoSaid : Prop := bigFloorUptoRow.holds Try.pinned (OpenSpec.upto bigFloorSpec)

/-- 'litmuslaw02.BigOrder', WHERE WHAT IT READS IS OF BULK AT MOST 1048576: true; the input reads as it did. -/
def bigOrderUptoRow : OpenClaim := { program := "ytebchniiiccghaa", sum := "378ea6bc59453b52a8364e9479327dac4e9711472640b2188a1c00d03ed21998", func := "litmus/litmuslaw02.BigOrder", spec := "bigOrder", unfollowed := true, recurses := true, apart := false, narrowed := true }
def BigOrderUptoSaid : Prop := bigOrderUptoRow.holds Try.pinned (OpenSpec.upto bigOrderSpec)

/-- 'litmuslaw02.BigTexts', WHERE WHAT IT READS IS OF BULK AT MOST 1048576: true; the input reads as it did. -/
def bigTextsUptoRow : OpenClaim := { program := "ytebchniiiccghaa", sum := "378ea6bc59453b52a8364e9479327dac4e9711472640b2188a1c00d03ed21998", func := "litmus/litmuslaw02.BigTexts", spec := "bigTexts", unfollowed := true, recurses := true, apart := false, narrowed := true }
def BigTextsUptoSaid : Prop := bigTextsUptoRow.holds Try.pinned (OpenSpec.upto bigTextsSpec)

/-- 'litmuslaw02.BigSmall', WHERE WHAT IT READS IS OF BULK AT MOST 1048576: true; the input reads as it did. -/
def bigSmallUptoRow : OpenClaim := { program := "ytebchniiiccghaa", sum := "378ea6bc59453b52a8364e9479327dac4e9711472640b2188a1c00d03ed21998", func := "litmus/litmuslaw02.BigSmall", spec := "bigSmall", unfollowed := true, recurses := true, apart := false, narrowed := true }
def BigSmallUptoSaid : Prop := bigSmallUptoRow.holds Try.pinned (OpenSpec.upto bigSmallSpec)

/-- 'litmuslaw02.BigShares', WHERE WHAT IT READS IS OF BULK AT MOST 1048576: true; the input reads as it did. -/
def bigSharesUptoRow : OpenClaim := { program := "ytebchniiiccghaa", sum := "378ea6bc59453b52a8364e9479327dac4e9711472640b2188a1c00d03ed21998", func := "litmus/litmuslaw02.BigShares", spec := "bigShares", unfollowed := true, recurses := true, apart := false, narrowed := true }
def BigSharesUptoSaid : Prop := bigSharesUptoRow.holds Try.pinned (OpenSpec.upto bigSharesSpec)

/-- 'litmuslaw02.BigKnown', WHERE WHAT IT READS IS OF BULK AT MOST 1048576: true; the input reads as it did. -/
def bigKnownUptoRow : OpenClaim := { program := "ytebchniiiccghaa", sum := "378ea6bc59453b52a8364e9479327dac4e9711472640b2188a1c00d03ed21998", func := "litmus/litmuslaw02.BigKnown", spec := "bigKnown", unfollowed := true, recurses := true, apart := false, narrowed := true }
def BigKnownUptoSaid : Prop := bigKnownUptoRow.holds Try.pinned (OpenSpec.upto bigKnownSpec)

end Rows
end Go.Proofs.Ytebchniiiccghaa
