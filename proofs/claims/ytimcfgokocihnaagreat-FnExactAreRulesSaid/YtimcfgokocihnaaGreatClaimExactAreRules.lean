/-
  Laws of exact answers, taken to the given statements.
-/
import Derived.Test.YtimcfgokocihnaaGreatZC4
namespace Go.Proofs.YtimcfgokocihnaaGreat
open Go.ChangeShapes Go.WideShapes Go.ChangeAt Go.RowKit
open Go.WideMaps Go.WideElems
open Go.ChangeMaps (open_string)
open Abs

theorem rows_same {α : Type} {q1 q2 : α → List Tr} (h : ∀ a, oldL (q1 a) = oldL (q2 a)) (l : List α) : oldLL (l.map q1) = oldLL (l.map q2) := by
  rw [oldLL_eq, oldLL_eq, List.map_map, List.map_map]; exact List.map_congr_left fun a _ => by
    have := h a
    rw [oldL_eq, oldL_eq] at this; exact this
set_option maxRecDepth 100000 in
theorem FnExactAreRules.lifted (os : Os) (started : os.Started) (H : Type) (enc : TypeId × Value → H) :
    ReturnsInHanded {} Tryz.checked os 4 .any (Rows.fnExactAreRulesSpec.pre6 enc Tryz.prog Tryz.f4 Rows.fnExactAreRulesRow.domain false) (Rows.fnExactAreRulesSpec.post enc Tryz.prog Tryz.f4 false true false false) := by
  refine returnsInHanded_of_change (C := Tryz.checked) Abs.own started (by kernel_rfl) Tryz.func4
    (ChangeSpec.witness6 (enc := enc) (C := Tryz.checked) false ⟨#[], #[.slice none 0 0], []⟩ 8 (by kernel_rfl) (by kernel_rfl) (by kernel_rfl) (by kernel_rfl)) ?_
  intro W base args ds gs before hval0 hW _ _
  have hval : ∀ (j : Nat) t v, Tryz.f4.params[j]? = some t → args[j]? = some v → Value.okWide Tryz.prog W .any base t v := hval0
  have hW' := hW
  obtain ⟨p, q, hA0, hV, _, _, _⟩ := hW'
  have hA : DataW.TrodAll enc Tryz.prog W 0 (fun _ => true) true Tryz.f4.params.toList args.toList ds p := hA0
  rw [Tryz.params4] at hA hval
  obtain ⟨v0, d0, rfl, rfl, h0⟩ := trodAll_one hA
  obtain ⟨x0, f0, r0⟩ := open_arg (P := Tryz.prog) W.heap.size 8 (by kernel_rfl : clOf Tryz.prog 8 35 = some (Ty.list 25 (Ty.pair Ty.str (Ty.pair Ty.int (Ty.pair (Ty.list 74 tCond) (Ty.list 77 tAction))))).cl) (fun fs h => by rw [Tryz.underlying35] at h; cases h) (hval 0 35 v0 rfl rfl) h0
  obtain ⟨a0, e0, b0⟩ := (Ty.list 25 (Ty.pair Ty.str (Ty.pair Ty.int (Ty.pair (Ty.list 74 tCond) (Ty.list 77 tAction))))).hcl _ f0
  obtain rfl := (List.cons.inj e0).1
  have r0 := Eq.mp (congrArg (fun x => Rep W.heap.size W (allF W) [] [] [] (.list none x) v0) (rows_same (q1 := Ty.q (Ty.pair Ty.str (Ty.pair Ty.int (Ty.pair (Ty.list 74 tCond) (Ty.list 77 tAction))))) (q2 := Ty.q tRule) (fun _ => rfl) a0)) r0
  refine (law_ret (lawExactAreRules.ret a0 b0) (Both.cons.2 ⟨r0, both_nil⟩)).mono ?_
  rintro e W' ⟨rfl, hb⟩
  obtain ⟨hg, -⟩ := trodVars_none hV
  subst hg
  exact ⟨_, rfl, law_post Abs.laidOut rfl (by rw [Tryz.params4]; decide +kernel) rfl Tryz.underlying4 hW hb rfl⟩

theorem FnExactAreRules.said : Rows.FnExactAreRulesSaid :=
  OpenClaim.holds_of_wide 4 Tryz.f4 rfl rfl rfl rfl rfl rfl rfl ⟨rfl, rfl, rfl, rfl, rfl⟩ rfl rfl rfl rfl rfl (by kernel_rfl) Tryz.func4 (Abs.closed (by kernel_rfl))
    (of_decide_eq_true (by kernel_rfl)) (by unfold Func.isWrapper; first | (rw [if_pos (by decide +kernel)]; kernel_rfl) | (rw [if_neg (by decide +kernel)]; exact ⟨rfl, rfl⟩))
    (fun os started H enc _ => FnExactAreRules.lifted os started H enc)

end Go.Proofs.YtimcfgokocihnaaGreat
