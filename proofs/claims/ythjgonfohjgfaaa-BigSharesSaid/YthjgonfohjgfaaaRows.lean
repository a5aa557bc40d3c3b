/-
  No cell of these rows narrows 'for every input' (looked for: loops, veiled, ifaces, maps, wideKeys, modest, calm, conditions, laid).
  DERIVED. THE GIVEN ROWS OF THIS SEAT. 6 by the template 'for every input the law returns true; each argument reads behind the call as it read before'; 0 by the template 'total and deterministic' (their statements: YthjgonfohjgfaaaTotals.lean).
  GIVEN WITH THE SEED: the statements are not yours to turn. If you find one false, say at which input.
  Laid BY PROGRAM, IN A SANDBOX (cutbox-rows.mjs): the forced cells as the released guide's own fill.sh prints them over the translation c53e46003ab8e9ec… (all of the seat's roots in one cut). By AI agents, Wed Nov 11 2026. No macro, syntax, notation, axiom, sorry.
-/
import Derived.Test.YthjgonfohjgfaaaChecked
import GoSem.Claim
import GoSem.ClaimJoined
import GoSem.ClaimMapViews
import Derived.JoinedTies
import Derived.KernelRfl
namespace Go.Proofs.Ythjgonfohjgfaaa
/- THE CELL 'sum', in the pinned program and in every row, IS THE sha256 OF THE DUMP (.gsa) THAT YthjgonfohjgfaaaProg.lean LOADS. Nothing in Lean hashes anything: it is a label: what it is worth is what the hold of that sum in a sandbox is worth. -/
noncomputable def Try.pinned : Pinned := { name := "ythjgonfohjgfaaa", sum := "c53e46003ab8e9ecc5fbb41c65fb8c4be634fedab920e4d685da6b2a6e58b848", checked := Try.checked }
namespace Rows
def none {H : Type} : Left H := { results := [], args := [] }

/-- 'litmuslaw01.NatParses': WHATEVER THE INPUT: true; the input reads as it did. -/
def natParsesSpec : ChangeSpec := { name := "natParses", fn := fun _ => fun
  | [d1, d2] => { results := [.lit (.bool true)], args := [d1, d2] }
  | _ => none }
def natParsesRow : OpenClaim := { program := "ythjgonfohjgfaaa", sum := "c53e46003ab8e9ecc5fbb41c65fb8c4be634fedab920e4d685da6b2a6e58b848", func := "litmus/litmuslaw01.NatParses", spec := "natParses", unfollowed := true, recurses := true, apart := false }
def NatParsesSaid : Prop := natParsesRow.holds Try.pinned (OpenSpec.ofChange natParsesSpec)

/-- ITS FALSE NEIGHBOUR: 'it returns false'. Refute it at one input. -/
def natParsesWrong : ChangeSpec := { name := "natParses", fn := fun _ => fun
  | [d1, d2] => { results := [.lit (.bool false)], args := [d1, d2] }
  | _ => none }
def NatParsesWrongFalsely : Prop := natParsesRow.holds Try.pinned (OpenSpec.ofChange natParsesWrong)

/-- 'litmuslaw02.BigTells': WHATEVER THE INPUT: true; the input reads as it did. -/
def bigTellsSpec : ChangeSpec := { name := "bigTells", fn := fun _ => fun
  | [d1, d2, d3] => { results := [.lit (.bool true)], args := [d1, d2, d3] }
  | _ => none }
def bigTellsRow : OpenClaim := { program := "ythjgonfohjgfaaa", sum := "c53e46003ab8e9ecc5fbb41c65fb8c4be634fedab920e4d685da6b2a6e58b848", func := "litmus/litmuslaw02.BigTells", spec := "bigTells", unfollowed := true, recurses := true, apart := false }
def BigTellsSaid : Prop := bigTellsRow.holds Try.pinned (OpenSpec.ofChange bigTellsSpec)

/-- ITS FALSE NEIGHBOUR: 'it returns false'. Refute it at one input. -/
def bigTellsWrong : ChangeSpec := { name := "bigTells", fn := fun _ => fun
  | [d1, d2, d3] => { results := [.lit (.bool false)], args := [d1, d2, d3] }
  | _ => none }
def BigTellsWrongFalsely : Prop := bigTellsRow.holds Try.pinned (OpenSpec.ofChange bigTellsWrong)

/-- 'litmuslaw02.BigDivs': WHATEVER THE INPUT: true; the input reads as it did. -/
def bigDivsSpec : ChangeSpec := { name := "bigDivs", fn := fun _ => fun
  | [d1, d2, d3] => { results := [.lit (.bool true)], args := [d1, d2, d3] }
  | _ => none }
def bigDivsRow : OpenClaim := { program := "ythjgonfohjgfaaa", sum := "c53e46003ab8e9ecc5fbb41c65fb8c4be634fedab920e4d685da6b2a6e58b848", func := "litmus/litmuslaw02.BigDivs", spec := "bigDivs", unfollowed := true, recurses := true, apart := false }
def BigDivsSaid : Prop := bigDivsRow.holds Try.pinned (OpenSpec.ofChange bigDivsSpec)

/-- ITS FALSE NEIGHBOUR: 'it returns false'. Refute it at one input. -/
def bigDivsWrong : ChangeSpec := { name := "bigDivs", fn := fun _ => fun
  | [d1, d2, d3] => { results := [.lit (.bool false)], args := [d1, d2, d3] }
  | _ => none }
def BigDivsWrongFalsely : Prop := bigDivsRow.holds Try.pinned (OpenSpec.ofChange bigDivsWrong)

/-- 'litmuslaw02.BigReads': WHATEVER THE INPUT: true; the input reads as it did. -/
def bigReadsSpec : ChangeSpec := { name := "bigReads", fn := fun _ => fun
  | [d1, d2, d3] => { results := [.lit (.bool true)], args := [d1, d2, d3] }
  | _ => none }
def bigReadsRow : OpenClaim := { program := "ythjgonfohjgfaaa", sum := "c53e46003ab8e9ecc5fbb41c65fb8c4be634fedab920e4d685da6b2a6e58b848", func := "litmus/litmuslaw02.BigReads", spec := "bigReads", unfollowed := true, recurses := true, apart := false }
def BigReadsSaid : Prop := bigReadsRow.holds Try.pinned (OpenSpec.ofChange bigReadsSpec)

/-- ITS FALSE NEIGHBOUR: 'it returns false'. Refute it at one input. -/
def bigReadsWrong : ChangeSpec := { name := "bigReads", fn := fun _ => fun
  | [d1, d2, d3] => { results := [.lit (.bool false)], args := [d1, d2, d3] }
  | _ => none }
def BigReadsWrongFalsely : Prop := bigReadsRow.holds Try.pinned (OpenSpec.ofChange bigReadsWrong)

/-- 'litmuslaw02.BigRing': WHATEVER THE INPUT: true; the input reads as it did. -/
def bigRingSpec : ChangeSpec := { name := "bigRing", fn := fun _ => fun
  | [d1, d2] => { results := [.lit (.bool true)], args := [d1, d2] }
  | _ => none }
def bigRingRow : OpenClaim := { program := "ythjgonfohjgfaaa", sum := "c53e46003ab8e9ecc5fbb41c65fb8c4be634fedab920e4d685da6b2a6e58b848", func := "litmus/litmuslaw02.BigRing", spec := "bigRing", unfollowed := true, recurses := true, apart := false }
def BigRingSaid : Prop := bigRingRow.holds Try.pinned (OpenSpec.ofChange bigRingSpec)

/-- ITS FALSE NEIGHBOUR: 'it returns false'. Refute it at one input. -/
def bigRingWrong : ChangeSpec := { name := "bigRing", fn := fun _ => fun
  | [d1, d2] => { results := [.lit (.bool false)], args := [d1, d2] }
  | _ => none }
def BigRingWrongFalsely : Prop := bigRingRow.holds Try.pinned (OpenSpec.ofChange bigRingWrong)

/-- 'litmuslaw02.BigShares': WHATEVER THE INPUT: true; the input reads as it did. -/
def bigSharesSpec : ChangeSpec := { name := "bigShares", fn := fun _ => fun
  | [d1, d2] => { results := [.lit (.bool true)], args := [d1, d2] }
  | _ => none }
def bigSharesRow : OpenClaim := { program := "ythjgonfohjgfaaa", sum := "c53e46003ab8e9ecc5fbb41c65fb8c4be634fedab920e4d685da6b2a6e58b848", func := "litmus/litmuslaw02.BigShares", spec := "bigShares", unfollowed := true, recurses := true, apart := false }
def BigSharesSaid : Prop := bigSharesRow.holds Try.pinned (OpenSpec.ofChange bigSharesSpec)

/-- ITS FALSE NEIGHBOUR: 'it returns false'. Refute it at one input. -/
def bigSharesWrong : ChangeSpec := { name := "bigShares", fn := fun _ => fun
  | [d1, d2] => { results := [.lit (.bool false)], args := [d1, d2] }
  | _ => none }
def BigSharesWrongFalsely : Prop := bigSharesRow.holds Try.pinned (OpenSpec.ofChange bigSharesWrong)

/- THE SECOND FORM. 'bulk': how many values and letters a reading holds, each counted each time it is reached (what is shared counts as often as it is met; a slice's spare places count too). A statement '..UptoSaid' is the law's where the arguments, and the package variables that the reading takes, are together of bulk at most 1048576: NARROWER than '..Said'. Prove '..Said' where nothing that the law and all that it calls make is longer than what came in: it says more and counts as full. Else prove '..UptoSaid'. A law counts once. -/
mutual
def uptoBulk {H : Type} : DataW H → Nat
  | .lit (.string bytes) => bytes.length + 1
  | .lit _ => 1
  | .nil => 1
  | .ptr d => uptoBulk d + 1
  | .slice elems spare => uptoBulkAll elems + uptoBulkAll spare + 1
  | .agg parts => uptoBulkAll parts + 1
  | .iface _ d => uptoBulk d + 1
  | .map entries => uptoBulkEntries entries + 1
  | .held _ => 1
def uptoBulkAll {H : Type} : List (DataW H) → Nat
  | [] => 0
  | d :: r => uptoBulk d + uptoBulkAll r
def uptoBulkEntries {H : Type} : List (Lit × DataW H) → Nat
  | [] => 0
  | x :: r => uptoBulkEntry x + uptoBulkEntries r
def uptoBulkEntry {H : Type} : Lit × DataW H → Nat
  | (.string bytes, d) => bytes.length + uptoBulk d + 1
  | (_, d) => uptoBulk d + 1
 end
def uptoSmall : (H : Type) → List (DataW H) → Bool := fun _ ds => decide (uptoBulkAll ds ≤ 1048576)
def OpenSpec.upto (s : _root_.Go.ChangeSpec) : _root_.Go.OpenSpec := { _root_.Go.OpenSpec.ofChange s with cond := some uptoSmall }

/-- 'litmuslaw01.NatParses', WHERE WHAT IT READS IS OF BULK AT MOST 1048576: true; the input reads as it did. -/
def natParsesUptoRow : OpenClaim := { program := "ythjgonfohjgfaaa", sum := "c53e46003ab8e9ecc5fbb41c65fb8c4be634fedab920e4d685da6b2a6e58b848", func := "litmus/litmuslaw01.NatParses", spec := "natParses", unfollowed := true, recurses := true, apart := false, narrowed := true }
def NatParsesUptoSaid : Prop := natParsesUptoRow.holds Try.pinned (OpenSpec.upto natParsesSpec)

/-- 'litmuslaw02.BigTells', WHERE WHAT IT READS IS OF BULK AT MOST 1048576: true; the input reads as it did. -/
def bigTellsUptoRow : OpenClaim := { program := "ythjgonfohjgfaaa", sum := "c53e46003ab8e9ecc5fbb41c65fb8c4be634fedab920e4d685da6b2a6e58b848", func := "litmus/litmuslaw02.BigTells", spec := "bigTells", unfollowed := true, recurses := true, apart := false, narrowed := true }
def BigTellsUptoSaid : Prop := bigTellsUptoRow.holds Try.pinned (OpenSpec.upto bigTellsSpec)

/-- 'litmuslaw02.BigDivs', WHERE WHAT IT READS IS OF BULK AT MOST 1048576: true; the input reads as it did. -/
def bigDivsUptoRow : OpenClaim := { program := "ythjgonfohjgfaaa", sum := "c53e46003ab8e9ecc5fbb41c65fb8c4be634fedab920e4d685da6b2a6e58b848", func := "litmus/litmuslaw02.BigDivs", spec := "bigDivs", unfollowed := true, recurses := true, apart := false, narrowed := true }
def BigDivsUptoSaid : Prop := bigDivsUptoRow.holds Try.pinned (OpenSpec.upto bigDivsSpec)

/-- 'litmuslaw02.BigReads', WHERE WHAT IT READS IS OF BULK AT MOST 1048576: true; the input reads as it did. -/
def bigReadsUptoRow : OpenClaim := { program := "ythjgonfohjgfaaa", sum := "c53e46003ab8e9ecc5fbb41c65fb8c4be634fedab920e4d685da6b2a6e58b848", func := "litmus/litmuslaw02.BigReads", spec := "bigReads", unfollowed := true, recurses := true, apart := false, narrowed := true }
def BigReadsUptoSaid : Prop := bigReadsUptoRow.holds Try.pinned (OpenSpec.upto bigReadsSpec)

/-- 'litmuslaw02.BigRing', WHERE WHAT IT READS IS OF BULK AT MOST 1048576: true; the input reads as it did. -/
def bigRingUptoRow : OpenClaim := { program := "ythjgonfohjgfaaa", sum := "c53e46003ab8e9ecc5fbb41c65fb8c4be634fedab920e4d685da6b2a6e58b848", func := "litmus/litmuslaw02.BigRing", spec := "bigRing", unfollowed := true, recurses := true, apart := false, narrowed := true }
def BigRingUptoSaid : Prop := bigRingUptoRow.holds Try.pinned (OpenSpec.upto bigRingSpec)

/-- 'litmuslaw02.BigShares', WHERE WHAT IT READS IS OF BULK AT MOST 1048576: true; the input reads as it did. -/
def bigSharesUptoRow : OpenClaim := { program := "ythjgonfohjgfaaa", sum := "c53e46003ab8e9ecc5fbb41c65fb8c4be634fedab920e4d685da6b2a6e58b848", func := "litmus/litmuslaw02.BigShares", spec := "bigShares", unfollowed := true, recurses := true, apart := false, narrowed := true }
def BigSharesUptoSaid : Prop := bigSharesUptoRow.holds Try.pinned (OpenSpec.upto bigSharesSpec)

end Rows
end Go.Proofs.Ythjgonfohjgfaaa
