/-
  Laws of exact answers, taken to the given statements.
-/
import Derived.Test.YtimcfgokocihnaaGreatZC4
namespace Go.Proofs.YtimcfgokocihnaaGreat
open Go.ChangeShapes Go.WideShapes Go.ChangeAt Go.RowKit
open Go.WideMaps Go.WideElems
open Go.ChangeMaps (open_string)
open Abs

set_option maxRecDepth 100000 in
theorem FnExactIsMonotone.lifted (os : Os) (started : os.Started) (H : Type) (enc : TypeId × Value → H) :
    ReturnsInHanded {} Tryz.checked os 5 .any (Rows.fnExactIsMonotoneSpec.pre6 enc Tryz.prog Tryz.f5 Rows.fnExactIsMonotoneRow.domain false) (Rows.fnExactIsMonotoneSpec.post enc Tryz.prog Tryz.f5 false true false false) := by
  refine returnsInHanded_of_change (C := Tryz.checked) Abs.own started (by kernel_rfl) Tryz.func5
    (ChangeSpec.witness6 (enc := enc) (C := Tryz.checked) false ⟨#[], #[.agg #[.string ⟨#[]⟩, .int .i64 0, .slice none 0 0, .slice none 0 0]], []⟩ 8 (by kernel_rfl) (by kernel_rfl) (by kernel_rfl) (by kernel_rfl)) ?_
  intro W base args ds gs before hval0 hW _ _
  have hval : ∀ (j : Nat) t v, Tryz.f5.params[j]? = some t → args[j]? = some v → Value.okWide Tryz.prog W .any base t v := hval0
  have hW' := hW
  obtain ⟨p, q, hA0, hV, _, _, _⟩ := hW'
  have hA : DataW.TrodAll enc Tryz.prog W 0 (fun _ => true) true Tryz.f5.params.toList args.toList ds p := hA0
  rw [Tryz.params5] at hA hval
  obtain ⟨v0, d0, rfl, rfl, h0⟩ := trodAll_one hA
  obtain ⟨x0, f0, r0⟩ := open_argS (P := Tryz.prog) W.heap.size 8 (by kernel_rfl : clOf Tryz.prog 8 25 = some (Ty.pair Ty.str (Ty.pair Ty.int (Ty.pair (Ty.list 74 tCond) (Ty.list 77 tAction)))).cl) Tryz.underlying25 (hval 0 25 v0 rfl rfl) h0
  obtain ⟨a0, rfl, b0⟩ := (Ty.pair Ty.str (Ty.pair Ty.int (Ty.pair (Ty.list 74 tCond) (Ty.list 77 tAction)))).hcl _ f0
  refine (law_ret (lawExactIsMonotone.ret a0 b0) (Both.cons.2 ⟨r0, both_nil⟩)).mono ?_
  rintro e W' ⟨rfl, hb⟩
  obtain ⟨hg, -⟩ := trodVars_none hV
  subst hg
  exact ⟨_, rfl, law_post Abs.laidOut rfl (by rw [Tryz.params5]; decide +kernel) rfl Tryz.underlying4 hW hb rfl⟩

theorem FnExactIsMonotone.said : Rows.FnExactIsMonotoneSaid :=
  OpenClaim.holds_of_wide 5 Tryz.f5 rfl rfl rfl rfl rfl rfl rfl ⟨rfl, rfl, rfl, rfl, rfl⟩ rfl rfl rfl rfl rfl (by kernel_rfl) Tryz.func5 (Abs.closed (by kernel_rfl))
    (of_decide_eq_true (by kernel_rfl)) (by unfold Func.isWrapper; first | (rw [if_pos (by decide +kernel)]; kernel_rfl) | (rw [if_neg (by decide +kernel)]; exact ⟨rfl, rfl⟩))
    (fun os started H enc _ => FnExactIsMonotone.lifted os started H enc)

end Go.Proofs.YtimcfgokocihnaaGreat
