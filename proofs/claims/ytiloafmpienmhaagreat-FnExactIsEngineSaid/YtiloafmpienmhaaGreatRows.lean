/-
  No cell of these rows narrows 'for every input' (looked for: loops, veiled, ifaces, maps, wideKeys, modest, calm, conditions, laid).
  DERIVED. THE GIVEN ROWS OF THIS SEAT. 3 by the template 'for every input the law returns true; each argument reads behind the call as it read before'; 0 by the template 'total and deterministic' (their statements: YtiloafmpienmhaaGreatTotals.lean).
  GIVEN WITH THE SEED: the statements are not yours to turn. If you find one false, say at which input.
  Laid BY PROGRAM, IN A SANDBOX (cutbox-rows.mjs): the forced cells as the released guide's own fill.sh prints them over the translation 4d8b15bf3aa94f55… (all of the seat's roots in one cut). By AI agents, Wed Nov 11 2026. No macro, syntax, notation, axiom, sorry.
-/
import Derived.Test.YtiloafmpienmhaaGreatChecked
import GoSem.Claim
import GoSem.ClaimJoined
import GoSem.ClaimMapViews
import Derived.JoinedTies
import Derived.KernelRfl
namespace Go.Proofs.YtiloafmpienmhaaGreat
/- THE CELL 'sum', in the pinned program and in every row, IS THE sha256 OF THE DUMP (.gsa) THAT YtiloafmpienmhaaGreatProg.lean LOADS. Nothing in Lean hashes anything: it is a label: what it is worth is what the hold of that sum in a sandbox is worth. -/
noncomputable def Tryz.pinned : Pinned := { name := "ytiloafmpienmhaagreat", sum := "4d8b15bf3aa94f55601b6c329b8d581394161f3ea10563a0808d54accf086175", checked := Tryz.checked }
namespace Rows
def none {H : Type} : Left H := { results := [], args := [] }

/-- 'laws.FnExactChoiceOf': WHATEVER THE INPUT: true; the input reads as it did. -/
def fnExactChoiceOfSpec : ChangeSpec := { name := "fnExactChoiceOf", fn := fun _ => fun
  | [d1, d2, d3] => { results := [.lit (.bool true)], args := [d1, d2, d3] }
  | _ => none }
def fnExactChoiceOfRow : OpenClaim := { program := "ytiloafmpienmhaagreat", sum := "4d8b15bf3aa94f55601b6c329b8d581394161f3ea10563a0808d54accf086175", func := "loop.example/g03015/laws.FnExactChoiceOf", spec := "fnExactChoiceOf", unfollowed := true, recurses := true, apart := false }
def FnExactChoiceOfSaid : Prop := fnExactChoiceOfRow.holds Tryz.pinned (OpenSpec.ofChange fnExactChoiceOfSpec)

/-- ITS FALSE NEIGHBOUR: 'it returns false'. Refute it at one input. -/
def fnExactChoiceOfWrong : ChangeSpec := { name := "fnExactChoiceOf", fn := fun _ => fun
  | [d1, d2, d3] => { results := [.lit (.bool false)], args := [d1, d2, d3] }
  | _ => none }
def FnExactChoiceOfWrongFalsely : Prop := fnExactChoiceOfRow.holds Tryz.pinned (OpenSpec.ofChange fnExactChoiceOfWrong)

/-- 'laws.FnExactIsEngine': WHATEVER THE INPUT: true; the input reads as it did. -/
def fnExactIsEngineSpec : ChangeSpec := { name := "fnExactIsEngine", fn := fun _ => fun
  | [d] => { results := [.lit (.bool true)], args := [d] }
  | _ => none }
def fnExactIsEngineRow : OpenClaim := { program := "ytiloafmpienmhaagreat", sum := "4d8b15bf3aa94f55601b6c329b8d581394161f3ea10563a0808d54accf086175", func := "loop.example/g03015/laws.FnExactIsEngine", spec := "fnExactIsEngine", unfollowed := true, recurses := true, apart := false }
def FnExactIsEngineSaid : Prop := fnExactIsEngineRow.holds Tryz.pinned (OpenSpec.ofChange fnExactIsEngineSpec)

/-- ITS FALSE NEIGHBOUR: 'it returns false'. Refute it at one input. -/
def fnExactIsEngineWrong : ChangeSpec := { name := "fnExactIsEngine", fn := fun _ => fun
  | [d] => { results := [.lit (.bool false)], args := [d] }
  | _ => none }
def FnExactIsEngineWrongFalsely : Prop := fnExactIsEngineRow.holds Tryz.pinned (OpenSpec.ofChange fnExactIsEngineWrong)

/-- 'laws.FnExactNewEngine': WHATEVER THE INPUT: true; the input reads as it did. -/
def fnExactNewEngineSpec : ChangeSpec := { name := "fnExactNewEngine", fn := fun _ => fun
  | [d] => { results := [.lit (.bool true)], args := [d] }
  | _ => none }
def fnExactNewEngineRow : OpenClaim := { program := "ytiloafmpienmhaagreat", sum := "4d8b15bf3aa94f55601b6c329b8d581394161f3ea10563a0808d54accf086175", func := "loop.example/g03015/laws.FnExactNewEngine", spec := "fnExactNewEngine", unfollowed := true, recurses := true, apart := false }
def FnExactNewEngineSaid : Prop := fnExactNewEngineRow.holds Tryz.pinned (OpenSpec.ofChange fnExactNewEngineSpec)

/-- ITS FALSE NEIGHBOUR: 'it returns false'. Refute it at one input. -/
def fnExactNewEngineWrong : ChangeSpec := { name := "fnExactNewEngine", fn := fun _ => fun
  | [d] => { results := [.lit (.bool false)], args := [d] }
  | _ => none }
def FnExactNewEngineWrongFalsely : Prop := fnExactNewEngineRow.holds Tryz.pinned (OpenSpec.ofChange fnExactNewEngineWrong)

/- THE SECOND FORM. 'bulk': how many values and letters a reading holds, each counted each time it is reached (what is shared counts as often as it is met; a slice's spare places count too). A statement '..UptoSaid' is the law's where the arguments, and the package variables that the reading takes, are together of bulk at most 1048576: NARROWER than '..Said'. Prove '..Said' where nothing that the law and all that it calls make is longer than what came in: it says more and counts as full. Else prove '..UptoSaid'. A law counts once. -/
mutual
def uptoBulk {H : Type} : DataW H → Nat
  | .lit (.string bytes) => bytes.length + 1
  | .lit _ => 1
  | .nil => 1
  | .ptr d => uptoBulk d + 1
  | .slice elems spare => uptoBulkAll elems + uptoBulkAll spare + 1
  | .agg parts => uptoBulkAll parts + 1
  | .iface _ d => uptoBulk d + 1
  | .map entries => uptoBulkEntries entries + 1
  | .held _ => 1
def uptoBulkAll {H : Type} : List (DataW H) → Nat
  | [] => 0
  | d :: r => uptoBulk d + uptoBulkAll r
def uptoBulkEntries {H : Type} : List (Lit × DataW H) → Nat
  | [] => 0
  | x :: r => uptoBulkEntry x + uptoBulkEntries r
def uptoBulkEntry {H : Type} : Lit × DataW H → Nat
  | (.string bytes, d) => bytes.length + uptoBulk d + 1
  | (_, d) => uptoBulk d + 1
 end
def uptoSmall : (H : Type) → List (DataW H) → Bool := fun _ ds => decide (uptoBulkAll ds ≤ 1048576)
def OpenSpec.upto (s : _root_.Go.ChangeSpec) : _root_.Go.OpenSpec := { _root_.Go.OpenSpec.ofChange s with cond := some uptoSmall }

/-- 'laws.FnExactChoiceOf', WHERE WHAT IT READS IS OF BULK AT MOST 1048576: true; the input reads as it did. -/
def fnExactChoiceOfUptoRow : OpenClaim := { program := "ytiloafmpienmhaagreat", sum := "4d8b15bf3aa94f55601b6c329b8d581394161f3ea10563a0808d54accf086175", func := "loop.example/g03015/laws.FnExactChoiceOf", spec := "fnExactChoiceOf", unfollowed := true, recurses := true, apart := false, narrowed := true }
def FnExactChoiceOfUptoSaid : Prop := fnExactChoiceOfUptoRow.holds Tryz.pinned (OpenSpec.upto fnExactChoiceOfSpec)

/-- 'laws.FnExactIsEngine', WHERE WHAT IT READS IS OF BULK AT MOST 1048576: true; the input reads as it did. -/
def fnExactIsEngineUptoRow : OpenClaim := { program := "ytiloafmpienmhaagreat", sum := "4d8b15bf3aa94f55601b6c329b8d581394161f3ea10563a0808d54accf086175", func := "loop.example/g03015/laws.FnExactIsEngine", spec := "fnExactIsEngine", unfollowed := true, recurses := true, apart := false, narrowed := true }
def FnExactIsEngineUptoSaid : Prop := fnExactIsEngineUptoRow.holds Tryz.pinned (OpenSpec.upto fnExactIsEngineSpec)

/-- 'laws.FnExactNewEngine', WHERE WHAT IT READS IS OF BULK AT MOST 1048576: true; the input reads as it did. -/
def fnExactNewEngineUptoRow : OpenClaim := { program := "ytiloafmpienmhaagreat", sum := "4d8b15bf3aa94f55601b6c329b8d581394161f3ea10563a0808d54accf086175", func := "loop.example/g03015/laws.FnExactNewEngine", spec := "fnExactNewEngine", unfollowed := true, recurses := true, apart := false, narrowed := true }
def FnExactNewEngineUptoSaid : Prop := fnExactNewEngineUptoRow.holds Tryz.pinned (OpenSpec.upto fnExactNewEngineSpec)

end Rows
end Go.Proofs.YtiloafmpienmhaaGreat
