/-
  Laws of exact answers, taken to the given statements.
-/
import Derived.Test.YtnpjjbolonbndaaC5
import Derived.Test.YtnpjjbolonbndaaClose
namespace Go.Proofs.Ytnpjjbolonbndaa
open Go.ChangeShapes Go.WideShapes Go.ChangeAt Go.RowKit
open Go.WideMaps Go.WideElems
open Go.ChangeMaps (open_string)
open Abs

set_option maxRecDepth 100000 in
theorem FnExactCompareAtoms.lifted (os : Os) (started : os.Started) (H : Type) (enc : TypeId × Value → H) :
    ReturnsInHanded {} Try.checked os 9 .any (Rows.fnExactCompareAtomsSpec.pre6 enc Try.prog Try.f9 Rows.fnExactCompareAtomsRow.domain false) (Rows.fnExactCompareAtomsSpec.post enc Try.prog Try.f9 false true false false) := by
  refine returnsInHanded_of_change (C := Try.checked) Abs.own started (by kernel_rfl) Try.func9
    (ChangeSpec.witness6 (enc := enc) (C := Try.checked) false ⟨#[], #[.string ⟨#[]⟩, .string ⟨#[]⟩], []⟩ 8 (by kernel_rfl) (by kernel_rfl) (by kernel_rfl) (by kernel_rfl)) ?_
  intro W base args ds gs before hval0 hW _ _
  have hval : ∀ (j : Nat) t v, Try.f9.params[j]? = some t → args[j]? = some v → Value.okWide Try.prog W .any base t v := hval0
  have hW' := hW
  obtain ⟨p, q, hA0, hV, _, _, _⟩ := hW'
  have hA : DataW.TrodAll enc Try.prog W 0 (fun _ => true) true Try.f9.params.toList args.toList ds p := hA0
  rw [Try.params9] at hA hval
  obtain ⟨v0, v1, d0, d1, p0, p1, rfl, rfl, _, h0, h1⟩ := trodAll_two hA
  obtain ⟨a0, rfl, _, _, _⟩ := open_string Try.underlying9 (hval 0 9 v0 rfl rfl) h0
  obtain ⟨a1, rfl, _, _, _⟩ := open_string Try.underlying9 (hval 1 9 v1 rfl rfl) h1
  refine (law_ret (lawCmpAtoms.ret a0.data.toList a1.data.toList) (both_two (rep_string a0) (rep_string a1))).mono ?_
  rintro e W' ⟨rfl, hb⟩
  obtain ⟨hg, -⟩ := trodVars_none hV
  subst hg
  exact ⟨_, rfl, law_post Abs.laidOut rfl (by rw [Try.params9]; decide +kernel) rfl Try.underlying4 hW hb rfl⟩

theorem FnExactCompareAtoms.said : Rows.FnExactCompareAtomsSaid :=
  OpenClaim.holds_of_wide 9 Try.f9 rfl rfl rfl rfl rfl rfl rfl ⟨rfl, rfl, rfl, rfl, rfl⟩ rfl rfl rfl rfl rfl (by kernel_rfl) Try.func9 (by kernel_rfl)
    (of_decide_eq_true (by kernel_rfl)) (by unfold Func.isWrapper; first | (rw [if_pos (by decide +kernel)]; kernel_rfl) | (rw [if_neg (by decide +kernel)]; exact ⟨rfl, rfl⟩))
    (fun os started H enc _ => FnExactCompareAtoms.lifted os started H enc)

end Go.Proofs.Ytnpjjbolonbndaa
