/-
  No cell of these rows narrows 'for every input' (looked for: loops, veiled, ifaces, maps, wideKeys, modest, calm, conditions, laid).
  DERIVED. THE GIVEN ROWS OF THIS SEAT. 9 by the template 'for every input the law returns true; each argument reads behind the call as it read before'; 0 by the template 'total and deterministic' (their statements: YtnpjjbolonbndaaTotals.lean).
  GIVEN WITH THE SEED: the statements are not yours to turn. If you find one false, say at which input.
  Laid BY PROGRAM, IN A SANDBOX (cutbox-rows.mjs): the forced cells as the released guide's own fill.sh prints them over the translation 0bebb994baf8f257… (all of the seat's roots in one cut). By AI agents, Wed Nov 11 2026. No macro, syntax, notation, axiom, sorry.
-/
import Derived.Test.YtnpjjbolonbndaaChecked
import GoSem.Claim
import GoSem.ClaimJoined
import GoSem.ClaimMapViews
import Derived.JoinedTies
import Derived.KernelRfl
namespace Go.Proofs.Ytnpjjbolonbndaa
/- THE CELL 'sum', in the pinned program and in every row, IS THE sha256 OF THE DUMP (.gsa) THAT YtnpjjbolonbndaaProg.lean LOADS. Nothing in Lean hashes anything: it is a label: what it is worth is what the hold of that sum in a sandbox is worth. -/
noncomputable def Try.pinned : Pinned := { name := "ytnpjjbolonbndaa", sum := "0bebb994baf8f2576b2e78c51e5797081bdb31b1eaaa26ce8f44ea3f5e961d98", checked := Try.checked }
namespace Rows
def none {H : Type} : Left H := { results := [], args := [] }

/-- 'laws.FnExactParseInt': WHATEVER THE INPUT: true; the input reads as it did. -/
def fnExactParseIntSpec : ChangeSpec := { name := "fnExactParseInt", fn := fun _ => fun
  | [d] => { results := [.lit (.bool true)], args := [d] }
  | _ => none }
def fnExactParseIntRow : OpenClaim := { program := "ytnpjjbolonbndaa", sum := "0bebb994baf8f2576b2e78c51e5797081bdb31b1eaaa26ce8f44ea3f5e961d98", func := "loop.example/g03015/laws.FnExactParseInt", spec := "fnExactParseInt", recurses := true, apart := false }
def FnExactParseIntSaid : Prop := fnExactParseIntRow.holds Try.pinned (OpenSpec.ofChange fnExactParseIntSpec)

/-- ITS FALSE NEIGHBOUR: 'it returns false'. Refute it at one input. -/
def fnExactParseIntWrong : ChangeSpec := { name := "fnExactParseInt", fn := fun _ => fun
  | [d] => { results := [.lit (.bool false)], args := [d] }
  | _ => none }
def FnExactParseIntWrongFalsely : Prop := fnExactParseIntRow.holds Try.pinned (OpenSpec.ofChange fnExactParseIntWrong)

/-- 'laws.FnExactIsAtom': WHATEVER THE INPUT: true; the input reads as it did. -/
def fnExactIsAtomSpec : ChangeSpec := { name := "fnExactIsAtom", fn := fun _ => fun
  | [d] => { results := [.lit (.bool true)], args := [d] }
  | _ => none }
def fnExactIsAtomRow : OpenClaim := { program := "ytnpjjbolonbndaa", sum := "0bebb994baf8f2576b2e78c51e5797081bdb31b1eaaa26ce8f44ea3f5e961d98", func := "loop.example/g03015/laws.FnExactIsAtom", spec := "fnExactIsAtom", apart := false }
def FnExactIsAtomSaid : Prop := fnExactIsAtomRow.holds Try.pinned (OpenSpec.ofChange fnExactIsAtomSpec)

/-- ITS FALSE NEIGHBOUR: 'it returns false'. Refute it at one input. -/
def fnExactIsAtomWrong : ChangeSpec := { name := "fnExactIsAtom", fn := fun _ => fun
  | [d] => { results := [.lit (.bool false)], args := [d] }
  | _ => none }
def FnExactIsAtomWrongFalsely : Prop := fnExactIsAtomRow.holds Try.pinned (OpenSpec.ofChange fnExactIsAtomWrong)

/-- 'laws.FnExactIsNumber': WHATEVER THE INPUT: true; the input reads as it did. -/
def fnExactIsNumberSpec : ChangeSpec := { name := "fnExactIsNumber", fn := fun _ => fun
  | [d] => { results := [.lit (.bool true)], args := [d] }
  | _ => none }
def fnExactIsNumberRow : OpenClaim := { program := "ytnpjjbolonbndaa", sum := "0bebb994baf8f2576b2e78c51e5797081bdb31b1eaaa26ce8f44ea3f5e961d98", func := "loop.example/g03015/laws.FnExactIsNumber", spec := "fnExactIsNumber", recurses := true, apart := false }
def FnExactIsNumberSaid : Prop := fnExactIsNumberRow.holds Try.pinned (OpenSpec.ofChange fnExactIsNumberSpec)

/-- ITS FALSE NEIGHBOUR: 'it returns false'. Refute it at one input. -/
def fnExactIsNumberWrong : ChangeSpec := { name := "fnExactIsNumber", fn := fun _ => fun
  | [d] => { results := [.lit (.bool false)], args := [d] }
  | _ => none }
def FnExactIsNumberWrongFalsely : Prop := fnExactIsNumberRow.holds Try.pinned (OpenSpec.ofChange fnExactIsNumberWrong)

/-- 'laws.FnExactIsName': WHATEVER THE INPUT: true; the input reads as it did. -/
def fnExactIsNameSpec : ChangeSpec := { name := "fnExactIsName", fn := fun _ => fun
  | [d] => { results := [.lit (.bool true)], args := [d] }
  | _ => none }
def fnExactIsNameRow : OpenClaim := { program := "ytnpjjbolonbndaa", sum := "0bebb994baf8f2576b2e78c51e5797081bdb31b1eaaa26ce8f44ea3f5e961d98", func := "loop.example/g03015/laws.FnExactIsName", spec := "fnExactIsName", apart := false }
def FnExactIsNameSaid : Prop := fnExactIsNameRow.holds Try.pinned (OpenSpec.ofChange fnExactIsNameSpec)

/-- ITS FALSE NEIGHBOUR: 'it returns false'. Refute it at one input. -/
def fnExactIsNameWrong : ChangeSpec := { name := "fnExactIsName", fn := fun _ => fun
  | [d] => { results := [.lit (.bool false)], args := [d] }
  | _ => none }
def FnExactIsNameWrongFalsely : Prop := fnExactIsNameRow.holds Try.pinned (OpenSpec.ofChange fnExactIsNameWrong)

/-- 'laws.FnExactIsVar': WHATEVER THE INPUT: true; the input reads as it did. -/
def fnExactIsVarSpec : ChangeSpec := { name := "fnExactIsVar", fn := fun _ => fun
  | [d] => { results := [.lit (.bool true)], args := [d] }
  | _ => none }
def fnExactIsVarRow : OpenClaim := { program := "ytnpjjbolonbndaa", sum := "0bebb994baf8f2576b2e78c51e5797081bdb31b1eaaa26ce8f44ea3f5e961d98", func := "loop.example/g03015/laws.FnExactIsVar", spec := "fnExactIsVar", apart := false }
def FnExactIsVarSaid : Prop := fnExactIsVarRow.holds Try.pinned (OpenSpec.ofChange fnExactIsVarSpec)

/-- ITS FALSE NEIGHBOUR: 'it returns false'. Refute it at one input. -/
def fnExactIsVarWrong : ChangeSpec := { name := "fnExactIsVar", fn := fun _ => fun
  | [d] => { results := [.lit (.bool false)], args := [d] }
  | _ => none }
def FnExactIsVarWrongFalsely : Prop := fnExactIsVarRow.holds Try.pinned (OpenSpec.ofChange fnExactIsVarWrong)

/-- 'laws.FnExactIsTerm': WHATEVER THE INPUT: true; the input reads as it did. -/
def fnExactIsTermSpec : ChangeSpec := { name := "fnExactIsTerm", fn := fun _ => fun
  | [d] => { results := [.lit (.bool true)], args := [d] }
  | _ => none }
def fnExactIsTermRow : OpenClaim := { program := "ytnpjjbolonbndaa", sum := "0bebb994baf8f2576b2e78c51e5797081bdb31b1eaaa26ce8f44ea3f5e961d98", func := "loop.example/g03015/laws.FnExactIsTerm", spec := "fnExactIsTerm", apart := false }
def FnExactIsTermSaid : Prop := fnExactIsTermRow.holds Try.pinned (OpenSpec.ofChange fnExactIsTermSpec)

/-- ITS FALSE NEIGHBOUR: 'it returns false'. Refute it at one input. -/
def fnExactIsTermWrong : ChangeSpec := { name := "fnExactIsTerm", fn := fun _ => fun
  | [d] => { results := [.lit (.bool false)], args := [d] }
  | _ => none }
def FnExactIsTermWrongFalsely : Prop := fnExactIsTermRow.holds Try.pinned (OpenSpec.ofChange fnExactIsTermWrong)

/-- 'laws.FnExactCompareAtoms': WHATEVER THE INPUT: true; the input reads as it did. -/
def fnExactCompareAtomsSpec : ChangeSpec := { name := "fnExactCompareAtoms", fn := fun _ => fun
  | [d1, d2] => { results := [.lit (.bool true)], args := [d1, d2] }
  | _ => none }
def fnExactCompareAtomsRow : OpenClaim := { program := "ytnpjjbolonbndaa", sum := "0bebb994baf8f2576b2e78c51e5797081bdb31b1eaaa26ce8f44ea3f5e961d98", func := "loop.example/g03015/laws.FnExactCompareAtoms", spec := "fnExactCompareAtoms", recurses := true, apart := false }
def FnExactCompareAtomsSaid : Prop := fnExactCompareAtomsRow.holds Try.pinned (OpenSpec.ofChange fnExactCompareAtomsSpec)

/-- ITS FALSE NEIGHBOUR: 'it returns false'. Refute it at one input. -/
def fnExactCompareAtomsWrong : ChangeSpec := { name := "fnExactCompareAtoms", fn := fun _ => fun
  | [d1, d2] => { results := [.lit (.bool false)], args := [d1, d2] }
  | _ => none }
def FnExactCompareAtomsWrongFalsely : Prop := fnExactCompareAtomsRow.holds Try.pinned (OpenSpec.ofChange fnExactCompareAtomsWrong)

/-- 'laws.FnExactJoin': WHATEVER THE INPUT: true; the input reads as it did. -/
def fnExactJoinSpec : ChangeSpec := { name := "fnExactJoin", fn := fun _ => fun
  | [d1, d2] => { results := [.lit (.bool true)], args := [d1, d2] }
  | _ => none }
def fnExactJoinRow : OpenClaim := { program := "ytnpjjbolonbndaa", sum := "0bebb994baf8f2576b2e78c51e5797081bdb31b1eaaa26ce8f44ea3f5e961d98", func := "loop.example/g03015/laws.FnExactJoin", spec := "fnExactJoin", inPlace := ["internal/abi.NoEscape", "internal/bytealg.MakeNoZero"], apart := false }
def FnExactJoinSaid : Prop := fnExactJoinRow.holds Try.pinned (OpenSpec.ofChange fnExactJoinSpec)

/-- ITS FALSE NEIGHBOUR: 'it returns false'. Refute it at one input. -/
def fnExactJoinWrong : ChangeSpec := { name := "fnExactJoin", fn := fun _ => fun
  | [d1, d2] => { results := [.lit (.bool false)], args := [d1, d2] }
  | _ => none }
def FnExactJoinWrongFalsely : Prop := fnExactJoinRow.holds Try.pinned (OpenSpec.ofChange fnExactJoinWrong)

/-- 'laws.FnExactSortedTexts': WHATEVER THE INPUT: true; the input reads as it did. -/
def fnExactSortedTextsSpec : ChangeSpec := { name := "fnExactSortedTexts", fn := fun _ => fun
  | [d] => { results := [.lit (.bool true)], args := [d] }
  | _ => none }
def fnExactSortedTextsRow : OpenClaim := { program := "ytnpjjbolonbndaa", sum := "0bebb994baf8f2576b2e78c51e5797081bdb31b1eaaa26ce8f44ea3f5e961d98", func := "loop.example/g03015/laws.FnExactSortedTexts", spec := "fnExactSortedTexts", recurses := true, apart := false }
def FnExactSortedTextsSaid : Prop := fnExactSortedTextsRow.holds Try.pinned (OpenSpec.ofChange fnExactSortedTextsSpec)

/-- ITS FALSE NEIGHBOUR: 'it returns false'. Refute it at one input. -/
def fnExactSortedTextsWrong : ChangeSpec := { name := "fnExactSortedTexts", fn := fun _ => fun
  | [d] => { results := [.lit (.bool false)], args := [d] }
  | _ => none }
def FnExactSortedTextsWrongFalsely : Prop := fnExactSortedTextsRow.holds Try.pinned (OpenSpec.ofChange fnExactSortedTextsWrong)

/- THE SECOND FORM. 'bulk': how many values and letters a reading holds, each counted each time it is reached (what is shared counts as often as it is met; a slice's spare places count too). A statement '..UptoSaid' is the law's where the arguments, and the package variables that the reading takes, are together of bulk at most 1048576: NARROWER than '..Said'. Prove '..Said' where nothing that the law and all that it calls make is longer than what came in: it says more and counts as full. Else prove '..UptoSaid'. A law counts once. -/
mutual
def uptoBulk {H : Type} : DataW H → Nat
  | .lit (.string bytes) => bytes.length + 1
  | .lit _ => 1
  | .nil => 1
  | .ptr d => uptoBulk d + 1
  | .slice elems spare => uptoBulkAll elems + uptoBulkAll spare + 1
  | .agg parts => uptoBulkAll parts + 1
  | .iface _ d => uptoBulk d + 1
  | .map entries => uptoBulkEntries entries + 1
  | .held _ => 1
def uptoBulkAll {H : Type} : List (DataW H) → Nat
  | [] => 0
  | d :: r => uptoBulk d + uptoBulkAll r
def uptoBulkEntries {H : Type} : List (Lit × DataW H) → Nat
  | [] => 0
  | x :: r => uptoBulkEntry x + uptoBulkEntries r
def uptoBulkEntry {H : Type} : Lit × DataW H → Nat
  | (.string bytes, d) => bytes.length + uptoBulk d + 1
  | (_, d) => uptoBulk d + 1
 end
def uptoSmall : (H : Type) → List (DataW H) → Bool := fun _ ds => decide (uptoBulkAll ds ≤ 1048576)
def OpenSpec.upto (s : _root_.Go.ChangeSpec) : _root_.Go.OpenSpec := { _root_.Go.OpenSpec.ofChange s with cond := some uptoSmall }

/-- 'laws.FnExactParseInt', WHERE WHAT IT READS IS OF BULK AT MOST 1048576: true; the input reads as it did. -/
def fnExactParseIntUptoRow : OpenClaim := { program := "ytnpjjbolonbndaa", sum := "0bebb994baf8f2576b2e78c51e5797081bdb31b1eaaa26ce8f44ea3f5e961d98", func := "loop.example/g03015/laws.FnExactParseInt", spec := "fnExactParseInt", recurses := true, apart := false, narrowed := true }
def FnExactParseIntUptoSaid : Prop := fnExactParseIntUptoRow.holds Try.pinned (OpenSpec.upto fnExactParseIntSpec)

/-- 'laws.FnExactIsAtom', WHERE WHAT IT READS IS OF BULK AT MOST 1048576: true; the input reads as it did. -/
def fnExactIsAtomUptoRow : OpenClaim := { program := "ytnpjjbolonbndaa", sum := "0bebb994baf8f2576b2e78c51e5797081bdb31b1eaaa26ce8f44ea3f5e961d98", func := "loop.example/g03015/laws.FnExactIsAtom", spec := "fnExactIsAtom", apart := false, narrowed := true }
def FnExactIsAtomUptoSaid : Prop := fnExactIsAtomUptoRow.holds Try.pinned (OpenSpec.upto fnExactIsAtomSpec)

/-- 'laws.FnExactIsNumber', WHERE WHAT IT READS IS OF BULK AT MOST 1048576: true; the input reads as it did. -/
def fnExactIsNumberUptoRow : OpenClaim := { program := "ytnpjjbolonbndaa", sum := "0bebb994baf8f2576b2e78c51e5797081bdb31b1eaaa26ce8f44ea3f5e961d98", func := "loop.example/g03015/laws.FnExactIsNumber", spec := "fnExactIsNumber", recurses := true, apart := false, narrowed := true }
def FnExactIsNumberUptoSaid : Prop := fnExactIsNumberUptoRow.holds Try.pinned (OpenSpec.upto fnExactIsNumberSpec)

/-- 'laws.FnExactIsName', WHERE WHAT IT READS IS OF BULK AT MOST 1048576: true; the input reads as it did. -/
def fnExactIsNameUptoRow : OpenClaim := { program := "ytnpjjbolonbndaa", sum := "0bebb994baf8f2576b2e78c51e5797081bdb31b1eaaa26ce8f44ea3f5e961d98", func := "loop.example/g03015/laws.FnExactIsName", spec := "fnExactIsName", apart := false, narrowed := true }
def FnExactIsNameUptoSaid : Prop := fnExactIsNameUptoRow.holds Try.pinned (OpenSpec.upto fnExactIsNameSpec)

/-- 'laws.FnExactIsVar', WHERE WHAT IT READS IS OF BULK AT MOST 1048576: true; the input reads as it did. -/
def fnExactIsVarUptoRow : OpenClaim := { program := "ytnpjjbolonbndaa", sum := "0bebb994baf8f2576b2e78c51e5797081bdb31b1eaaa26ce8f44ea3f5e961d98", func := "loop.example/g03015/laws.FnExactIsVar", spec := "fnExactIsVar", apart := false, narrowed := true }
def FnExactIsVarUptoSaid : Prop := fnExactIsVarUptoRow.holds Try.pinned (OpenSpec.upto fnExactIsVarSpec)

/-- 'laws.FnExactIsTerm', WHERE WHAT IT READS IS OF BULK AT MOST 1048576: true; the input reads as it did. -/
def fnExactIsTermUptoRow : OpenClaim := { program := "ytnpjjbolonbndaa", sum := "0bebb994baf8f2576b2e78c51e5797081bdb31b1eaaa26ce8f44ea3f5e961d98", func := "loop.example/g03015/laws.FnExactIsTerm", spec := "fnExactIsTerm", apart := false, narrowed := true }
def FnExactIsTermUptoSaid : Prop := fnExactIsTermUptoRow.holds Try.pinned (OpenSpec.upto fnExactIsTermSpec)

/-- 'laws.FnExactCompareAtoms', WHERE WHAT IT READS IS OF BULK AT MOST 1048576: true; the input reads as it did. -/
def fnExactCompareAtomsUptoRow : OpenClaim := { program := "ytnpjjbolonbndaa", sum := "0bebb994baf8f2576b2e78c51e5797081bdb31b1eaaa26ce8f44ea3f5e961d98", func := "loop.example/g03015/laws.FnExactCompareAtoms", spec := "fnExactCompareAtoms", recurses := true, apart := false, narrowed := true }
def FnExactCompareAtomsUptoSaid : Prop := fnExactCompareAtomsUptoRow.holds Try.pinned (OpenSpec.upto fnExactCompareAtomsSpec)

/-- 'laws.FnExactJoin', WHERE WHAT IT READS IS OF BULK AT MOST 1048576: true; the input reads as it did. -/
def fnExactJoinUptoRow : OpenClaim := { program := "ytnpjjbolonbndaa", sum := "0bebb994baf8f2576b2e78c51e5797081bdb31b1eaaa26ce8f44ea3f5e961d98", func := "loop.example/g03015/laws.FnExactJoin", spec := "fnExactJoin", inPlace := ["internal/abi.NoEscape", "internal/bytealg.MakeNoZero"], apart := false, narrowed := true }
def FnExactJoinUptoSaid : Prop := fnExactJoinUptoRow.holds Try.pinned (OpenSpec.upto fnExactJoinSpec)

/-- 'laws.FnExactSortedTexts', WHERE WHAT IT READS IS OF BULK AT MOST 1048576: true; the input reads as it did. -/
def fnExactSortedTextsUptoRow : OpenClaim := { program := "ytnpjjbolonbndaa", sum := "0bebb994baf8f2576b2e78c51e5797081bdb31b1eaaa26ce8f44ea3f5e961d98", func := "loop.example/g03015/laws.FnExactSortedTexts", spec := "fnExactSortedTexts", recurses := true, apart := false, narrowed := true }
def FnExactSortedTextsUptoSaid : Prop := fnExactSortedTextsUptoRow.holds Try.pinned (OpenSpec.upto fnExactSortedTextsSpec)

end Rows
end Go.Proofs.Ytnpjjbolonbndaa
