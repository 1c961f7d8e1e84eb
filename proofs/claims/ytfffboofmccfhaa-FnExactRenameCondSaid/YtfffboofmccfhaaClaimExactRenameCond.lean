/-
  Laws of exact answers, taken to the given statements.
-/
import Derived.Test.YtfffboofmccfhaaZE2
namespace Go.Proofs.Ytfffboofmccfhaa
open Go.ChangeShapes Go.WideShapes Go.ChangeAt Go.RowKit
open Go.WideMaps Go.WideElems
open Go.ChangeMaps (open_string)
open Abs

set_option maxRecDepth 100000 in
theorem FnExactRenameCond.lifted (os : Os) (started : os.Started) (H : Type) (enc : TypeId × Value → H) :
    ReturnsInHanded {} Try.checked os 10 .any (Rows.fnExactRenameCondSpec.pre6 enc Try.prog Try.f10 Rows.fnExactRenameCondRow.domain false) (Rows.fnExactRenameCondSpec.post enc Try.prog Try.f10 false true false false) := by
  refine returnsInHanded_of_change (C := Try.checked) Abs.own started (by kernel_rfl) Try.func10
    (ChangeSpec.witness6 (enc := enc) (C := Try.checked) false ⟨#[], #[.agg #[.int .i64 0, .string ⟨#[]⟩, .slice none 0 0, .string ⟨#[]⟩, .string ⟨#[]⟩], .slice none 0 0], []⟩ 8 (by kernel_rfl) (by kernel_rfl) (by kernel_rfl) (by kernel_rfl)) ?_
  intro W base args ds gs before hval0 hW _ _
  have hval : ∀ (j : Nat) t v, Try.f10.params[j]? = some t → args[j]? = some v → Value.okWide Try.prog W .any base t v := hval0
  have hW' := hW
  obtain ⟨p, q, hA0, hV, _, _, _⟩ := hW'
  have hA : DataW.TrodAll enc Try.prog W 0 (fun _ => true) true Try.f10.params.toList args.toList ds p := hA0
  rw [Try.params10] at hA hval
  obtain ⟨v0, v1, d0, d1, p0, p1, rfl, rfl, _, h0, h1⟩ := trodAll_two hA
  obtain ⟨x0, f0, r0⟩ := open_argS (P := Try.prog) W.heap.size 8 (by kernel_rfl : clOf Try.prog 8 26 = some tCond.cl) Try.underlying26 (hval 0 26 v0 rfl rfl) h0
  obtain ⟨a0, rfl, b0⟩ := tCond.hcl _ f0
  obtain ⟨x1, f1, r1⟩ := open_arg (P := Try.prog) W.heap.size 8 (by kernel_rfl : clOf Try.prog 8 39 = some (Ty.plain 84 tPair (fun _ => rfl) (fun _ => rfl)).cl) (fun fs h => by rw [Try.underlying39] at h; cases h) (hval 1 39 v1 rfl rfl) h1
  obtain ⟨a1, e1, b1⟩ := (Ty.plain 84 tPair (fun _ => rfl) (fun _ => rfl)).hcl _ f1
  obtain rfl := (List.cons.inj e1).1
  refine (law_ret (lawExactRenameCond.ret a0 a1 b0 b1) (Both.cons.2 ⟨r0, (Both.cons.2 ⟨r1, both_nil⟩)⟩)).mono ?_
  rintro e W' ⟨rfl, hb⟩
  obtain ⟨hg, -⟩ := trodVars_none hV
  subst hg
  exact ⟨_, rfl, law_post Abs.laidOut rfl (by rw [Try.params10]; decide +kernel) rfl Try.underlying4 hW hb rfl⟩

theorem FnExactRenameCond.said : Rows.FnExactRenameCondSaid :=
  OpenClaim.holds_of_wide 10 Try.f10 rfl rfl rfl rfl rfl rfl rfl ⟨rfl, rfl, rfl, rfl, rfl⟩ rfl rfl rfl rfl rfl (by kernel_rfl) Try.func10 (Abs.closed (by kernel_rfl))
    (of_decide_eq_true (by kernel_rfl)) (by unfold Func.isWrapper; first | (rw [if_pos (by decide +kernel)]; kernel_rfl) | (rw [if_neg (by decide +kernel)]; exact ⟨rfl, rfl⟩))
    (fun os started H enc _ => FnExactRenameCond.lifted os started H enc)

end Go.Proofs.Ytfffboofmccfhaa
