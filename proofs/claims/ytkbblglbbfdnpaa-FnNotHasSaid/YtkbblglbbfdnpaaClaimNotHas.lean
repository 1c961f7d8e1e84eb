/-
  Laws of exact answers, taken to the given statements.
-/
import Derived.Test.YtkbblglbbfdnpaaZB3
namespace Go.Proofs.Ytkbblglbbfdnpaa
open Go.ChangeShapes Go.WideShapes Go.ChangeAt Go.RowKit
open Go.WideMaps Go.WideElems
open Go.ChangeMaps (open_string)
open Abs

set_option maxRecDepth 100000 in
theorem FnNotHas.lifted (os : Os) (started : os.Started) (H : Type) (enc : TypeId × Value → H) :
    ReturnsInHanded {} Try.checked os 6 .any (Rows.fnNotHasSpec.pre6 enc Try.prog Try.f6 Rows.fnNotHasRow.domain false) (Rows.fnNotHasSpec.post enc Try.prog Try.f6 false true false false) := by
  refine returnsInHanded_of_change (C := Try.checked) Abs.own started (by kernel_rfl) Try.func6
    (ChangeSpec.witness6 (enc := enc) (C := Try.checked) false ⟨#[], #[.slice none 0 0], []⟩ 8 (by kernel_rfl) (by kernel_rfl) (by kernel_rfl) (by kernel_rfl)) ?_
  intro W base args ds gs before hval0 hW _ _
  have hval : ∀ (j : Nat) t v, Try.f6.params[j]? = some t → args[j]? = some v → Value.okWide Try.prog W .any base t v := hval0
  have hW' := hW
  obtain ⟨p, q, hA0, hV, _, _, _⟩ := hW'
  have hA : DataW.TrodAll enc Try.prog W 0 (fun _ => true) true Try.f6.params.toList args.toList ds p := hA0
  rw [Try.params6] at hA hval
  obtain ⟨v0, d0, rfl, rfl, h0⟩ := trodAll_one hA
  obtain ⟨x0, f0, r0⟩ := open_arg (P := Try.prog) W.heap.size 16 (by kernel_rfl : clOf Try.prog 16 22 = some (Ty.plain 5 tByte (fun _ => rfl) (fun _ => rfl)).cl) (fun fs h => by rw [Try.underlying22] at h; cases h) (hval 0 22 v0 rfl rfl) h0
  obtain ⟨a0, e0, b0⟩ := (Ty.plain 5 tByte (fun _ => rfl) (fun _ => rfl)).hcl _ f0
  obtain rfl := (List.cons.inj e0).1
  refine (law_ret (lawNotHas.ret a0 b0) (fun p hp => by cases hp) (Both.cons.2 ⟨r0, both_nil⟩)).mono ?_
  rintro e W' ⟨rfl, hb⟩
  obtain ⟨hg, -⟩ := trodVars_none hV
  subst hg
  exact ⟨_, rfl, law_post Abs.laidOut rfl (by rw [Try.params6]; decide +kernel) rfl Try.underlying4 hW hb rfl⟩

theorem FnNotHas.said : Rows.FnNotHasSaid :=
  OpenClaim.holds_of_wide 6 Try.f6 rfl rfl rfl rfl rfl rfl rfl ⟨rfl, rfl, rfl, rfl, rfl⟩ rfl rfl rfl rfl rfl (by kernel_rfl) Try.func6 (Abs.closed (by kernel_rfl))
    (of_decide_eq_true (by kernel_rfl)) (by unfold Func.isWrapper; first | (rw [if_pos (by decide +kernel)]; kernel_rfl) | (rw [if_neg (by decide +kernel)]; exact ⟨rfl, rfl⟩))
    (fun os started H enc _ => FnNotHas.lifted os started H enc)

end Go.Proofs.Ytkbblglbbfdnpaa
