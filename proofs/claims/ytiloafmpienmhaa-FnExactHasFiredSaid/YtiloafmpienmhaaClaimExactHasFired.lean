/-
  Laws of exact answers, taken to the given statements.
-/
import Derived.Test.YtiloafmpienmhaaZB3
namespace Go.Proofs.Ytiloafmpienmhaa
open Go.ChangeShapes Go.WideShapes Go.ChangeAt Go.RowKit
open Go.WideMaps Go.WideElems
open Go.ChangeMaps (open_string)
open Abs

set_option maxRecDepth 100000 in
theorem FnExactHasFired.lifted (os : Os) (started : os.Started) (H : Type) (enc : TypeId × Value → H) :
    ReturnsInHanded {} Try.checked os 4 .any (Rows.fnExactHasFiredSpec.pre6 enc Try.prog Try.f4 Rows.fnExactHasFiredRow.domain false) (Rows.fnExactHasFiredSpec.post enc Try.prog Try.f4 false true false false) := by
  refine returnsInHanded_of_change (C := Try.checked) Abs.own started (by kernel_rfl) Try.func4
    (ChangeSpec.witness6 (enc := enc) (C := Try.checked) false ⟨#[], #[.slice none 0 0, .agg #[.string ⟨#[]⟩, .slice none 0 0, .slice none 0 0, .int .i64 0, .slice none 0 0, .int .i64 0, .int .i64 0]], []⟩ 8 (by kernel_rfl) (by kernel_rfl) (by kernel_rfl) (by kernel_rfl)) ?_
  intro W base args ds gs before hval0 hW _ _
  have hval : ∀ (j : Nat) t v, Try.f4.params[j]? = some t → args[j]? = some v → Value.okWide Try.prog W .any base t v := hval0
  have hW' := hW
  obtain ⟨p, q, hA0, hV, _, _, _⟩ := hW'
  have hA : DataW.TrodAll enc Try.prog W 0 (fun _ => true) true Try.f4.params.toList args.toList ds p := hA0
  rw [Try.params4] at hA hval
  obtain ⟨v0, v1, d0, d1, p0, p1, rfl, rfl, _, h0, h1⟩ := trodAll_two hA
  obtain ⟨x0, f0, r0⟩ := open_arg (P := Try.prog) W.heap.size 16 (by kernel_rfl : clOf Try.prog 16 31 = some (Ty.list 99 tFiring).cl) (fun fs h => by rw [Try.underlying31] at h; cases h) (hval 0 31 v0 rfl rfl) h0
  obtain ⟨a0, e0, b0⟩ := (Ty.list 99 tFiring).hcl _ f0
  obtain rfl := (List.cons.inj e0).1
  obtain ⟨x1, f1, r1⟩ := open_argS (P := Try.prog) W.heap.size 16 (by kernel_rfl : clOf Try.prog 16 37 = some (Ty.pair (Ty.pair Ty.str (Ty.pair (Ty.list 54 tFct) (Ty.plain 82 tPair (fun _ => rfl) (fun _ => rfl)))) (Ty.pair Ty.int (Ty.pair tInts (Ty.pair Ty.int Ty.int)))).cl) Try.underlying37 (hval 1 37 v1 rfl rfl) h1
  obtain ⟨a1, rfl, b1⟩ := (Ty.pair (Ty.pair Ty.str (Ty.pair (Ty.list 54 tFct) (Ty.plain 82 tPair (fun _ => rfl) (fun _ => rfl)))) (Ty.pair Ty.int (Ty.pair tInts (Ty.pair Ty.int Ty.int)))).hcl _ f1
  refine (law_ret (lawExactHasFired.ret a0 a1 b0 b1) (fun p hp => by cases hp) (Both.cons.2 ⟨r0, (Both.cons.2 ⟨r1, both_nil⟩)⟩)).mono ?_
  rintro e W' ⟨rfl, hb⟩
  obtain ⟨hg, -⟩ := trodVars_none hV
  subst hg
  exact ⟨_, rfl, law_post Abs.laidOut rfl (by rw [Try.params4]; decide +kernel) rfl Try.underlying4 hW hb rfl⟩

theorem FnExactHasFired.said : Rows.FnExactHasFiredSaid :=
  OpenClaim.holds_of_wide 4 Try.f4 rfl rfl rfl rfl rfl rfl rfl ⟨rfl, rfl, rfl, rfl, rfl⟩ rfl rfl rfl rfl rfl (by kernel_rfl) Try.func4 (Abs.closed (by kernel_rfl))
    (of_decide_eq_true (by kernel_rfl)) (by unfold Func.isWrapper; first | (rw [if_pos (by decide +kernel)]; kernel_rfl) | (rw [if_neg (by decide +kernel)]; exact ⟨rfl, rfl⟩))
    (fun os started H enc _ => FnExactHasFired.lifted os started H enc)

end Go.Proofs.Ytiloafmpienmhaa
