/-
  Laws of exact answers, taken to the given statements.
-/
import Derived.Test.YtimcfgokocihnaaZA3
namespace Go.Proofs.Ytimcfgokocihnaa
open Go.ChangeShapes Go.WideShapes Go.ChangeAt Go.RowKit
open Go.WideMaps Go.WideElems
open Go.ChangeMaps (open_string)
open Abs

theorem rows_same {α : Type} {q1 q2 : α → List Tr} (h : ∀ a, oldL (q1 a) = oldL (q2 a)) (l : List α) : oldLL (l.map q1) = oldLL (l.map q2) := by
  rw [oldLL_eq, oldLL_eq, List.map_map, List.map_map]; exact List.map_congr_left fun a _ => by
    have := h a
    rw [oldL_eq, oldL_eq] at this; exact this
set_option maxRecDepth 100000 in
theorem FnExactFindRule.lifted (os : Os) (started : os.Started) (H : Type) (enc : TypeId × Value → H) :
    ReturnsInHanded {} Try.checked os 6 .any (Rows.fnExactFindRuleSpec.pre6 enc Try.prog Try.f6 Rows.fnExactFindRuleRow.domain false) (Rows.fnExactFindRuleSpec.post enc Try.prog Try.f6 false true false false) := by
  refine returnsInHanded_of_change (C := Try.checked) Abs.own started (by kernel_rfl) Try.func6
    (ChangeSpec.witness6 (enc := enc) (C := Try.checked) false ⟨#[], #[.slice none 0 0, .string ⟨#[]⟩], []⟩ 8 (by kernel_rfl) (by kernel_rfl) (by kernel_rfl) (by kernel_rfl)) ?_
  intro W base args ds gs before hval0 hW _ _
  have hval : ∀ (j : Nat) t v, Try.f6.params[j]? = some t → args[j]? = some v → Value.okWide Try.prog W .any base t v := hval0
  have hW' := hW
  obtain ⟨p, q, hA0, hV, _, _, _⟩ := hW'
  have hA : DataW.TrodAll enc Try.prog W 0 (fun _ => true) true Try.f6.params.toList args.toList ds p := hA0
  rw [Try.params6] at hA hval
  obtain ⟨v0, v1, d0, d1, p0, p1, rfl, rfl, _, h0, h1⟩ := trodAll_two hA
  obtain ⟨x0, f0, r0⟩ := open_arg (P := Try.prog) W.heap.size 8 (by kernel_rfl : clOf Try.prog 8 53 = some (Ty.list 38 (Ty.pair Ty.str (Ty.pair Ty.int (Ty.pair (Ty.list 141 tCond) (Ty.list 26 tAction))))).cl) (fun fs h => by rw [Try.underlying53] at h; cases h) (hval 0 53 v0 rfl rfl) h0
  obtain ⟨a0, e0, b0⟩ := (Ty.list 38 (Ty.pair Ty.str (Ty.pair Ty.int (Ty.pair (Ty.list 141 tCond) (Ty.list 26 tAction))))).hcl _ f0
  obtain rfl := (List.cons.inj e0).1
  have r0 := Eq.mp (congrArg (fun x => Rep W.heap.size W (allF W) [] [] [] (.list none x) v0) (rows_same (q1 := Ty.q (Ty.pair Ty.str (Ty.pair Ty.int (Ty.pair (Ty.list 141 tCond) (Ty.list 26 tAction))))) (q2 := Ty.q tRule) (fun _ => rfl) a0)) r0
  obtain ⟨x1, f1, r1⟩ := open_arg (P := Try.prog) W.heap.size 8 (by kernel_rfl : clOf Try.prog 8 9 = some Ty.str.cl) (fun fs h => by rw [Try.underlying9] at h; cases h) (hval 1 9 v1 rfl rfl) h1
  obtain ⟨a1, e1, b1⟩ := Ty.str.hcl _ f1
  obtain rfl := (List.cons.inj e1).1
  refine (law_ret (lawExactFindRule.ret a0 a1 b0 b1) (Both.cons.2 ⟨r0, (Both.cons.2 ⟨r1, both_nil⟩)⟩)).mono ?_
  rintro e W' ⟨rfl, hb⟩
  obtain ⟨hg, -⟩ := trodVars_none hV
  subst hg
  exact ⟨_, rfl, law_post Abs.laidOut rfl (by rw [Try.params6]; decide +kernel) rfl Try.underlying4 hW hb rfl⟩

theorem FnExactFindRule.said : Rows.FnExactFindRuleSaid :=
  OpenClaim.holds_of_wide 6 Try.f6 rfl rfl rfl rfl rfl rfl rfl ⟨rfl, rfl, rfl, rfl, rfl⟩ rfl rfl rfl rfl rfl (by kernel_rfl) Try.func6 (Abs.closed (by kernel_rfl))
    (of_decide_eq_true (by kernel_rfl)) (by unfold Func.isWrapper; first | (rw [if_pos (by decide +kernel)]; kernel_rfl) | (rw [if_neg (by decide +kernel)]; exact ⟨rfl, rfl⟩))
    (fun os started H enc _ => FnExactFindRule.lifted os started H enc)

end Go.Proofs.Ytimcfgokocihnaa
