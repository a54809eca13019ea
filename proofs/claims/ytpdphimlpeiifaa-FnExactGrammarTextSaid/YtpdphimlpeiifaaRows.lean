/-
  No cell of these rows narrows 'for every input' (looked for: loops, veiled, ifaces, maps, wideKeys, modest, calm, conditions, laid).
  DERIVED. THE GIVEN ROWS OF THIS SEAT. 11 by the template 'for every input the law returns true; each argument reads behind the call as it read before'; 0 by the template 'total and deterministic' (their statements: YtpdphimlpeiifaaTotals.lean).
  GIVEN WITH THE SEED: the statements are not yours to turn. If you find one false, say at which input.
  Laid BY PROGRAM, IN A SANDBOX (cutbox-rows.mjs): the forced cells as the released guide's own fill.sh prints them over the translation 0e916a9eb249cc85… (all of the seat's roots in one cut). By AI agents, Wed Nov 11 2026. No macro, syntax, notation, axiom, sorry.
-/
import Derived.Test.YtpdphimlpeiifaaChecked
import GoSem.Claim
import GoSem.ClaimJoined
import GoSem.ClaimMapViews
import Derived.JoinedTies
import Derived.KernelRfl
namespace Go.Proofs.Ytpdphimlpeiifaa
/- THE CELL 'sum', in the pinned program and in every row, IS THE sha256 OF THE DUMP (.gsa) THAT YtpdphimlpeiifaaProg.lean LOADS. Nothing in Lean hashes anything: it is a label: what it is worth is what the hold of that sum in a sandbox is worth. -/
noncomputable def Try.pinned : Pinned := { name := "ytpdphimlpeiifaa", sum := "0e916a9eb249cc85be6a4bcaccf30d3df18d9a4a37b54aafceb4f65f370586c0", checked := Try.checked }
namespace Rows
def none {H : Type} : Left H := { results := [], args := [] }

/-- 'laws.FnAffixes': WHATEVER THE INPUT: true; the input reads as it did. -/
def fnAffixesSpec : ChangeSpec := { name := "fnAffixes", fn := fun _ => fun
  | [d] => { results := [.lit (.bool true)], args := [d] }
  | _ => none }
def fnAffixesRow : OpenClaim := { program := "ytpdphimlpeiifaa", sum := "0e916a9eb249cc85be6a4bcaccf30d3df18d9a4a37b54aafceb4f65f370586c0", func := "loop.example/g00911/laws.FnAffixes", spec := "fnAffixes", unfollowed := true, recurses := true, apart := false }
def FnAffixesSaid : Prop := fnAffixesRow.holds Try.pinned (OpenSpec.ofChange fnAffixesSpec)

/-- ITS FALSE NEIGHBOUR: 'it returns false'. Refute it at one input. -/
def fnAffixesWrong : ChangeSpec := { name := "fnAffixes", fn := fun _ => fun
  | [d] => { results := [.lit (.bool false)], args := [d] }
  | _ => none }
def FnAffixesWrongFalsely : Prop := fnAffixesRow.holds Try.pinned (OpenSpec.ofChange fnAffixesWrong)

/-- 'laws.FnExactValidAffix': WHATEVER THE INPUT: true; the input reads as it did. -/
def fnExactValidAffixSpec : ChangeSpec := { name := "fnExactValidAffix", fn := fun _ => fun
  | [d] => { results := [.lit (.bool true)], args := [d] }
  | _ => none }
def fnExactValidAffixRow : OpenClaim := { program := "ytpdphimlpeiifaa", sum := "0e916a9eb249cc85be6a4bcaccf30d3df18d9a4a37b54aafceb4f65f370586c0", func := "loop.example/g00911/laws.FnExactValidAffix", spec := "fnExactValidAffix", unfollowed := true, recurses := true, apart := false }
def FnExactValidAffixSaid : Prop := fnExactValidAffixRow.holds Try.pinned (OpenSpec.ofChange fnExactValidAffixSpec)

/-- ITS FALSE NEIGHBOUR: 'it returns false'. Refute it at one input. -/
def fnExactValidAffixWrong : ChangeSpec := { name := "fnExactValidAffix", fn := fun _ => fun
  | [d] => { results := [.lit (.bool false)], args := [d] }
  | _ => none }
def FnExactValidAffixWrongFalsely : Prop := fnExactValidAffixRow.holds Try.pinned (OpenSpec.ofChange fnExactValidAffixWrong)

/-- 'laws.FnExactMatchesAffix': WHATEVER THE INPUT: true; the input reads as it did. -/
def fnExactMatchesAffixSpec : ChangeSpec := { name := "fnExactMatchesAffix", fn := fun _ => fun
  | [d1, d2] => { results := [.lit (.bool true)], args := [d1, d2] }
  | _ => none }
def fnExactMatchesAffixRow : OpenClaim := { program := "ytpdphimlpeiifaa", sum := "0e916a9eb249cc85be6a4bcaccf30d3df18d9a4a37b54aafceb4f65f370586c0", func := "loop.example/g00911/laws.FnExactMatchesAffix", spec := "fnExactMatchesAffix", unfollowed := true, recurses := true, apart := false }
def FnExactMatchesAffixSaid : Prop := fnExactMatchesAffixRow.holds Try.pinned (OpenSpec.ofChange fnExactMatchesAffixSpec)

/-- ITS FALSE NEIGHBOUR: 'it returns false'. Refute it at one input. -/
def fnExactMatchesAffixWrong : ChangeSpec := { name := "fnExactMatchesAffix", fn := fun _ => fun
  | [d1, d2] => { results := [.lit (.bool false)], args := [d1, d2] }
  | _ => none }
def FnExactMatchesAffixWrongFalsely : Prop := fnExactMatchesAffixRow.holds Try.pinned (OpenSpec.ofChange fnExactMatchesAffixWrong)

/-- 'laws.FnExactApplyAffix': WHATEVER THE INPUT: true; the input reads as it did. -/
def fnExactApplyAffixSpec : ChangeSpec := { name := "fnExactApplyAffix", fn := fun _ => fun
  | [d1, d2] => { results := [.lit (.bool true)], args := [d1, d2] }
  | _ => none }
def fnExactApplyAffixRow : OpenClaim := { program := "ytpdphimlpeiifaa", sum := "0e916a9eb249cc85be6a4bcaccf30d3df18d9a4a37b54aafceb4f65f370586c0", func := "loop.example/g00911/laws.FnExactApplyAffix", spec := "fnExactApplyAffix", unfollowed := true, recurses := true, apart := false }
def FnExactApplyAffixSaid : Prop := fnExactApplyAffixRow.holds Try.pinned (OpenSpec.ofChange fnExactApplyAffixSpec)

/-- ITS FALSE NEIGHBOUR: 'it returns false'. Refute it at one input. -/
def fnExactApplyAffixWrong : ChangeSpec := { name := "fnExactApplyAffix", fn := fun _ => fun
  | [d1, d2] => { results := [.lit (.bool false)], args := [d1, d2] }
  | _ => none }
def FnExactApplyAffixWrongFalsely : Prop := fnExactApplyAffixRow.holds Try.pinned (OpenSpec.ofChange fnExactApplyAffixWrong)

/-- 'laws.FnExactUndoAffix': WHATEVER THE INPUT: true; the input reads as it did. -/
def fnExactUndoAffixSpec : ChangeSpec := { name := "fnExactUndoAffix", fn := fun _ => fun
  | [d1, d2] => { results := [.lit (.bool true)], args := [d1, d2] }
  | _ => none }
def fnExactUndoAffixRow : OpenClaim := { program := "ytpdphimlpeiifaa", sum := "0e916a9eb249cc85be6a4bcaccf30d3df18d9a4a37b54aafceb4f65f370586c0", func := "loop.example/g00911/laws.FnExactUndoAffix", spec := "fnExactUndoAffix", unfollowed := true, recurses := true, apart := false }
def FnExactUndoAffixSaid : Prop := fnExactUndoAffixRow.holds Try.pinned (OpenSpec.ofChange fnExactUndoAffixSpec)

/-- ITS FALSE NEIGHBOUR: 'it returns false'. Refute it at one input. -/
def fnExactUndoAffixWrong : ChangeSpec := { name := "fnExactUndoAffix", fn := fun _ => fun
  | [d1, d2] => { results := [.lit (.bool false)], args := [d1, d2] }
  | _ => none }
def FnExactUndoAffixWrongFalsely : Prop := fnExactUndoAffixRow.holds Try.pinned (OpenSpec.ofChange fnExactUndoAffixWrong)

/-- 'laws.FnExactValidGrammar': WHATEVER THE INPUT: true; the input reads as it did. -/
def fnExactValidGrammarSpec : ChangeSpec := { name := "fnExactValidGrammar", fn := fun _ => fun
  | [d] => { results := [.lit (.bool true)], args := [d] }
  | _ => none }
def fnExactValidGrammarRow : OpenClaim := { program := "ytpdphimlpeiifaa", sum := "0e916a9eb249cc85be6a4bcaccf30d3df18d9a4a37b54aafceb4f65f370586c0", func := "loop.example/g00911/laws.FnExactValidGrammar", spec := "fnExactValidGrammar", unfollowed := true, recurses := true, apart := false }
def FnExactValidGrammarSaid : Prop := fnExactValidGrammarRow.holds Try.pinned (OpenSpec.ofChange fnExactValidGrammarSpec)

/-- ITS FALSE NEIGHBOUR: 'it returns false'. Refute it at one input. -/
def fnExactValidGrammarWrong : ChangeSpec := { name := "fnExactValidGrammar", fn := fun _ => fun
  | [d] => { results := [.lit (.bool false)], args := [d] }
  | _ => none }
def FnExactValidGrammarWrongFalsely : Prop := fnExactValidGrammarRow.holds Try.pinned (OpenSpec.ofChange fnExactValidGrammarWrong)

/-- 'laws.FnExactSameGrammar': WHATEVER THE INPUT: true; the input reads as it did. -/
def fnExactSameGrammarSpec : ChangeSpec := { name := "fnExactSameGrammar", fn := fun _ => fun
  | [d1, d2] => { results := [.lit (.bool true)], args := [d1, d2] }
  | _ => none }
def fnExactSameGrammarRow : OpenClaim := { program := "ytpdphimlpeiifaa", sum := "0e916a9eb249cc85be6a4bcaccf30d3df18d9a4a37b54aafceb4f65f370586c0", func := "loop.example/g00911/laws.FnExactSameGrammar", spec := "fnExactSameGrammar", unfollowed := true, recurses := true, apart := false }
def FnExactSameGrammarSaid : Prop := fnExactSameGrammarRow.holds Try.pinned (OpenSpec.ofChange fnExactSameGrammarSpec)

/-- ITS FALSE NEIGHBOUR: 'it returns false'. Refute it at one input. -/
def fnExactSameGrammarWrong : ChangeSpec := { name := "fnExactSameGrammar", fn := fun _ => fun
  | [d1, d2] => { results := [.lit (.bool false)], args := [d1, d2] }
  | _ => none }
def FnExactSameGrammarWrongFalsely : Prop := fnExactSameGrammarRow.holds Try.pinned (OpenSpec.ofChange fnExactSameGrammarWrong)

/-- 'laws.FnExactWordOf': WHATEVER THE INPUT: true; the input reads as it did. -/
def fnExactWordOfSpec : ChangeSpec := { name := "fnExactWordOf", fn := fun _ => fun
  | [d1, d2] => { results := [.lit (.bool true)], args := [d1, d2] }
  | _ => none }
def fnExactWordOfRow : OpenClaim := { program := "ytpdphimlpeiifaa", sum := "0e916a9eb249cc85be6a4bcaccf30d3df18d9a4a37b54aafceb4f65f370586c0", func := "loop.example/g00911/laws.FnExactWordOf", spec := "fnExactWordOf", unfollowed := true, recurses := true, apart := false }
def FnExactWordOfSaid : Prop := fnExactWordOfRow.holds Try.pinned (OpenSpec.ofChange fnExactWordOfSpec)

/-- ITS FALSE NEIGHBOUR: 'it returns false'. Refute it at one input. -/
def fnExactWordOfWrong : ChangeSpec := { name := "fnExactWordOf", fn := fun _ => fun
  | [d1, d2] => { results := [.lit (.bool false)], args := [d1, d2] }
  | _ => none }
def FnExactWordOfWrongFalsely : Prop := fnExactWordOfRow.holds Try.pinned (OpenSpec.ofChange fnExactWordOfWrong)

/-- 'laws.FnExactDerivationsOf': WHATEVER THE INPUT: true; the input reads as it did. -/
def fnExactDerivationsOfSpec : ChangeSpec := { name := "fnExactDerivationsOf", fn := fun _ => fun
  | [d1, d2] => { results := [.lit (.bool true)], args := [d1, d2] }
  | _ => none }
def fnExactDerivationsOfRow : OpenClaim := { program := "ytpdphimlpeiifaa", sum := "0e916a9eb249cc85be6a4bcaccf30d3df18d9a4a37b54aafceb4f65f370586c0", func := "loop.example/g00911/laws.FnExactDerivationsOf", spec := "fnExactDerivationsOf", unfollowed := true, recurses := true, apart := false }
def FnExactDerivationsOfSaid : Prop := fnExactDerivationsOfRow.holds Try.pinned (OpenSpec.ofChange fnExactDerivationsOfSpec)

/-- ITS FALSE NEIGHBOUR: 'it returns false'. Refute it at one input. -/
def fnExactDerivationsOfWrong : ChangeSpec := { name := "fnExactDerivationsOf", fn := fun _ => fun
  | [d1, d2] => { results := [.lit (.bool false)], args := [d1, d2] }
  | _ => none }
def FnExactDerivationsOfWrongFalsely : Prop := fnExactDerivationsOfRow.holds Try.pinned (OpenSpec.ofChange fnExactDerivationsOfWrong)

/-- 'laws.FnExactGrammarText': WHATEVER THE INPUT: true; the input reads as it did. -/
def fnExactGrammarTextSpec : ChangeSpec := { name := "fnExactGrammarText", fn := fun _ => fun
  | [d] => { results := [.lit (.bool true)], args := [d] }
  | _ => none }
def fnExactGrammarTextRow : OpenClaim := { program := "ytpdphimlpeiifaa", sum := "0e916a9eb249cc85be6a4bcaccf30d3df18d9a4a37b54aafceb4f65f370586c0", func := "loop.example/g00911/laws.FnExactGrammarText", spec := "fnExactGrammarText", inPlace := ["internal/abi.NoEscape", "internal/bytealg.MakeNoZero"], unfollowed := true, recurses := true, apart := false }
def FnExactGrammarTextSaid : Prop := fnExactGrammarTextRow.holds Try.pinned (OpenSpec.ofChange fnExactGrammarTextSpec)

/-- ITS FALSE NEIGHBOUR: 'it returns false'. Refute it at one input. -/
def fnExactGrammarTextWrong : ChangeSpec := { name := "fnExactGrammarText", fn := fun _ => fun
  | [d] => { results := [.lit (.bool false)], args := [d] }
  | _ => none }
def FnExactGrammarTextWrongFalsely : Prop := fnExactGrammarTextRow.holds Try.pinned (OpenSpec.ofChange fnExactGrammarTextWrong)

/-- 'laws.FnExactReadGrammar': WHATEVER THE INPUT: true; the input reads as it did. -/
def fnExactReadGrammarSpec : ChangeSpec := { name := "fnExactReadGrammar", fn := fun _ => fun
  | [d] => { results := [.lit (.bool true)], args := [d] }
  | _ => none }
def fnExactReadGrammarRow : OpenClaim := { program := "ytpdphimlpeiifaa", sum := "0e916a9eb249cc85be6a4bcaccf30d3df18d9a4a37b54aafceb4f65f370586c0", func := "loop.example/g00911/laws.FnExactReadGrammar", spec := "fnExactReadGrammar", inPlace := ["internal/bytealg.IndexByteString", "internal/abi.NoEscape", "internal/bytealg.MakeNoZero"], unfollowed := true, recurses := true, apart := false }
def FnExactReadGrammarSaid : Prop := fnExactReadGrammarRow.holds Try.pinned (OpenSpec.ofChange fnExactReadGrammarSpec)

/-- ITS FALSE NEIGHBOUR: 'it returns false'. Refute it at one input. -/
def fnExactReadGrammarWrong : ChangeSpec := { name := "fnExactReadGrammar", fn := fun _ => fun
  | [d] => { results := [.lit (.bool false)], args := [d] }
  | _ => none }
def FnExactReadGrammarWrongFalsely : Prop := fnExactReadGrammarRow.holds Try.pinned (OpenSpec.ofChange fnExactReadGrammarWrong)

/- THE SECOND FORM. 'bulk': how many values and letters a reading holds, each counted each time it is reached (what is shared counts as often as it is met; a slice's spare places count too). A statement '..UptoSaid' is the law's where the arguments, and the package variables that the reading takes, are together of bulk at most 1048576: NARROWER than '..Said'. Prove '..Said' where nothing that the law and all that it calls make is longer than what came in: it says more and counts as full. Else prove '..UptoSaid'. A law counts once. -/
mutual
def uptoBulk {H : Type} : DataW H → Nat
  | .lit (.string bytes) => bytes.length + 1
  | .lit _ => 1
  | .nil => 1
  | .ptr d => uptoBulk d + 1
  | .slice elems spare => uptoBulkAll elems + uptoBulkAll spare + 1
  | .agg parts => uptoBulkAll parts + 1
  | .iface _ d => uptoBulk d + 1
  | .map entries => uptoBulkEntries entries + 1
  | .held _ => 1
def uptoBulkAll {H : Type} : List (DataW H) → Nat
  | [] => 0
  | d :: r => uptoBulk d + uptoBulkAll r
def uptoBulkEntries {H : Type} : List (Lit × DataW H) → Nat
  | [] => 0
  | x :: r => uptoBulkEntry x + uptoBulkEntries r
def uptoBulkEntry {H : Type} : Lit × DataW H → Nat
  | (.string bytes, d) => bytes.length + uptoBulk d + 1
  | (_, d) => uptoBulk d + 1
 end
def uptoSmall : (H : Type) → List (DataW H) → Bool := fun _ ds => decide (uptoBulkAll ds ≤ 1048576)
def OpenSpec.upto (s : _root_.Go.ChangeSpec) : _root_.Go.OpenSpec := { _root_.Go.OpenSpec.ofChange s with cond := some uptoSmall }

/-- 'laws.FnAffixes', WHERE WHAT IT READS IS OF BULK AT MOST 1048576: true; the input reads as it did. -/
def fnAffixesUptoRow : OpenClaim := { program := "ytpdphimlpeiifaa", sum := "0e916a9eb249cc85be6a4bcaccf30d3df18d9a4a37b54aafceb4f65f370586c0", func := "loop.example/g00911/laws.FnAffixes", spec := "fnAffixes", unfollowed := true, recurses := true, apart := false, narrowed := true }
def FnAffixesUptoSaid : Prop := fnAffixesUptoRow.holds Try.pinned (OpenSpec.upto fnAffixesSpec)

/-- 'laws.FnExactValidAffix', WHERE WHAT IT READS IS OF BULK AT MOST 1048576: true; the input reads as it did. -/
def fnExactValidAffixUptoRow : OpenClaim := { program := "ytpdphimlpeiifaa", sum := "0e916a9eb249cc85be6a4bcaccf30d3df18d9a4a37b54aafceb4f65f370586c0", func := "loop.example/g00911/laws.FnExactValidAffix", spec := "fnExactValidAffix", unfollowed := true, recurses := true, apart := false, narrowed := true }
def FnExactValidAffixUptoSaid : Prop := fnExactValidAffixUptoRow.holds Try.pinned (OpenSpec.upto fnExactValidAffixSpec)

/-- 'laws.FnExactMatchesAffix', WHERE WHAT IT READS IS OF BULK AT MOST 1048576: true; the input reads as it did. -/
def fnExactMatchesAffixUptoRow : OpenClaim := { program := "ytpdphimlpeiifaa", sum := "0e916a9eb249cc85be6a4bcaccf30d3df18d9a4a37b54aafceb4f65f370586c0", func := "loop.example/g00911/laws.FnExactMatchesAffix", spec := "fnExactMatchesAffix", unfollowed := true, recurses := true, apart := false, narrowed := true }
def FnExactMatchesAffixUptoSaid : Prop := fnExactMatchesAffixUptoRow.holds Try.pinned (OpenSpec.upto fnExactMatchesAffixSpec)

/-- 'laws.FnExactApplyAffix', WHERE WHAT IT READS IS OF BULK AT MOST 1048576: true; the input reads as it did. -/
def fnExactApplyAffixUptoRow : OpenClaim := { program := "ytpdphimlpeiifaa", sum := "0e916a9eb249cc85be6a4bcaccf30d3df18d9a4a37b54aafceb4f65f370586c0", func := "loop.example/g00911/laws.FnExactApplyAffix", spec := "fnExactApplyAffix", unfollowed := true, recurses := true, apart := false, narrowed := true }
def FnExactApplyAffixUptoSaid : Prop := fnExactApplyAffixUptoRow.holds Try.pinned (OpenSpec.upto fnExactApplyAffixSpec)

/-- 'laws.FnExactUndoAffix', WHERE WHAT IT READS IS OF BULK AT MOST 1048576: true; the input reads as it did. -/
def fnExactUndoAffixUptoRow : OpenClaim := { program := "ytpdphimlpeiifaa", sum := "0e916a9eb249cc85be6a4bcaccf30d3df18d9a4a37b54aafceb4f65f370586c0", func := "loop.example/g00911/laws.FnExactUndoAffix", spec := "fnExactUndoAffix", unfollowed := true, recurses := true, apart := false, narrowed := true }
def FnExactUndoAffixUptoSaid : Prop := fnExactUndoAffixUptoRow.holds Try.pinned (OpenSpec.upto fnExactUndoAffixSpec)

/-- 'laws.FnExactValidGrammar', WHERE WHAT IT READS IS OF BULK AT MOST 1048576: true; the input reads as it did. -/
def fnExactValidGrammarUptoRow : OpenClaim := { program := "ytpdphimlpeiifaa", sum := "0e916a9eb249cc85be6a4bcaccf30d3df18d9a4a37b54aafceb4f65f370586c0", func := "loop.example/g00911/laws.FnExactValidGrammar", spec := "fnExactValidGrammar", unfollowed := true, recurses := true, apart := false, narrowed := true }
def FnExactValidGrammarUptoSaid : Prop := fnExactValidGrammarUptoRow.holds Try.pinned (OpenSpec.upto fnExactValidGrammarSpec)

/-- 'laws.FnExactSameGrammar', WHERE WHAT IT READS IS OF BULK AT MOST 1048576: true; the input reads as it did. -/
def fnExactSameGrammarUptoRow : OpenClaim := { program := "ytpdphimlpeiifaa", sum := "0e916a9eb249cc85be6a4bcaccf30d3df18d9a4a37b54aafceb4f65f370586c0", func := "loop.example/g00911/laws.FnExactSameGrammar", spec := "fnExactSameGrammar", unfollowed := true, recurses := true, apart := false, narrowed := true }
def FnExactSameGrammarUptoSaid : Prop := fnExactSameGrammarUptoRow.holds Try.pinned (OpenSpec.upto fnExactSameGrammarSpec)

/-- 'laws.FnExactWordOf', WHERE WHAT IT READS IS OF BULK AT MOST 1048576: true; the input reads as it did. -/
def fnExactWordOfUptoRow : OpenClaim := { program := "ytpdphimlpeiifaa", sum := "0e916a9eb249cc85be6a4bcaccf30d3df18d9a4a37b54aafceb4f65f370586c0", func := "loop.example/g00911/laws.FnExactWordOf", spec := "fnExactWordOf", unfollowed := true, recurses := true, apart := false, narrowed := true }
def FnExactWordOfUptoSaid : Prop := fnExactWordOfUptoRow.holds Try.pinned (OpenSpec.upto fnExactWordOfSpec)

/-- 'laws.FnExactDerivationsOf', WHERE WHAT IT READS IS OF BULK AT MOST 1048576: true; the input reads as it did. -/
def fnExactDerivationsOfUptoRow : OpenClaim := { program := "ytpdphimlpeiifaa", sum := "0e916a9eb249cc85be6a4bcaccf30d3df18d9a4a37b54aafceb4f65f370586c0", func := "loop.example/g00911/laws.FnExactDerivationsOf", spec := "fnExactDerivationsOf", unfollowed := true, recurses := true, apart := false, narrowed := true }
def FnExactDerivationsOfUptoSaid : Prop := fnExactDerivationsOfUptoRow.holds Try.pinned (OpenSpec.upto fnExactDerivationsOfSpec)

/-- 'laws.FnExactGrammarText', WHERE WHAT IT READS IS OF BULK AT MOST 1048576: true; the input reads as it did. -/
def fnExactGrammarTextUptoRow : OpenClaim := { program := "ytpdphimlpeiifaa", sum := "0e916a9eb249cc85be6a4bcaccf30d3df18d9a4a37b54aafceb4f65f370586c0", func := "loop.example/g00911/laws.FnExactGrammarText", spec := "fnExactGrammarText", inPlace := ["internal/abi.NoEscape", "internal/bytealg.MakeNoZero"], unfollowed := true, recurses := true, apart := false, narrowed := true }
def FnExactGrammarTextUptoSaid : Prop := fnExactGrammarTextUptoRow.holds Try.pinned (OpenSpec.upto fnExactGrammarTextSpec)

/-- 'laws.FnExactReadGrammar', WHERE WHAT IT READS IS OF BULK AT MOST 1048576: true; the input reads as it did. -/
def fnExactReadGrammarUptoRow : OpenClaim := { program := "ytpdphimlpeiifaa", sum := "0e916a9eb249cc85be6a4bcaccf30d3df18d9a4a37b54aafceb4f65f370586c0", func := "loop.example/g00911/laws.FnExactReadGrammar", spec := "fnExactReadGrammar", inPlace := ["internal/bytealg.IndexByteString", "internal/abi.NoEscape", "internal/bytealg.MakeNoZero"], unfollowed := true, recurses := true, apart := false, narrowed := true }
def FnExactReadGrammarUptoSaid : Prop := fnExactReadGrammarUptoRow.holds Try.pinned (OpenSpec.upto fnExactReadGrammarSpec)

end Rows
end Go.Proofs.Ytpdphimlpeiifaa
