/-
  Laws of exact answers, taken to the given statements.
-/
import Derived.Test.YtoindmahilbalaaGreatZT5
namespace Go.Proofs.YtoindmahilbalaaGreat
open Go.ChangeShapes Go.WideShapes Go.ChangeAt Go.RowKit
open Go.WideMaps Go.WideElems
open Go.ChangeMaps (open_string)
open Abs

set_option maxRecDepth 100000 in
theorem FnExactMatchesOf.lifted (os : Os) (started : os.Started) (H : Type) (enc : TypeId × Value → H) :
    ReturnsInHanded {} Tryz.checked os 4 .any (Rows.fnExactMatchesOfSpec.pre6 enc Tryz.prog Tryz.f4 Rows.fnExactMatchesOfRow.domain false) (Rows.fnExactMatchesOfSpec.post enc Tryz.prog Tryz.f4 false true false false) := by
  refine returnsInHanded_of_change (C := Tryz.checked) Abs.own started (by kernel_rfl) Tryz.func4
    (ChangeSpec.witness6 (enc := enc) (C := Tryz.checked) false ⟨#[], #[.agg #[.string ⟨#[]⟩, .int .i64 0, .slice none 0 0, .slice none 0 0], .slice none 0 0], []⟩ 8 (by kernel_rfl) (by kernel_rfl) (by kernel_rfl) (by kernel_rfl)) ?_
  intro W base args ds gs before hval0 hW _ _
  have hval : ∀ (j : Nat) t v, Tryz.f4.params[j]? = some t → args[j]? = some v → Value.okWide Tryz.prog W .any base t v := hval0
  have hW' := hW
  obtain ⟨p, q, hA0, hV, _, _, _⟩ := hW'
  have hA : DataW.TrodAll enc Tryz.prog W 0 (fun _ => true) true Tryz.f4.params.toList args.toList ds p := hA0
  rw [Tryz.params4] at hA hval
  obtain ⟨v0, v1, d0, d1, p0, p1, rfl, rfl, _, h0, h1⟩ := trodAll_two hA
  obtain ⟨x0, f0, r0⟩ := open_argS (P := Tryz.prog) W.heap.size 8 (by kernel_rfl : clOf Tryz.prog 8 25 = some (Ty.pair Ty.str (Ty.pair Ty.int (Ty.pair (Ty.list 108 tCond) (Ty.list 111 tAction)))).cl) Tryz.underlying25 (hval 0 25 v0 rfl rfl) h0
  obtain ⟨a0, rfl, b0⟩ := (Ty.pair Ty.str (Ty.pair Ty.int (Ty.pair (Ty.list 108 tCond) (Ty.list 111 tAction)))).hcl _ f0
  obtain ⟨x1, f1, r1⟩ := open_arg (P := Tryz.prog) W.heap.size 8 (by kernel_rfl : clOf Tryz.prog 8 26 = some (Ty.list 79 tFct).cl) (fun fs h => by rw [Tryz.underlying26] at h; cases h) (hval 1 26 v1 rfl rfl) h1
  obtain ⟨a1, e1, b1⟩ := (Ty.list 79 tFct).hcl _ f1
  obtain rfl := (List.cons.inj e1).1
  refine (law_ret (lawExactMatchesOf.ret a0 a1 b0 b1) (Both.cons.2 ⟨r0, (Both.cons.2 ⟨r1, both_nil⟩)⟩)).mono ?_
  rintro e W' ⟨rfl, hb⟩
  obtain ⟨hg, -⟩ := trodVars_none hV
  subst hg
  exact ⟨_, rfl, law_post Abs.laidOut rfl (by rw [Tryz.params4]; decide +kernel) rfl Tryz.underlying4 hW hb rfl⟩

theorem FnExactMatchesOf.said : Rows.FnExactMatchesOfSaid :=
  OpenClaim.holds_of_wide 4 Tryz.f4 rfl rfl rfl rfl rfl rfl rfl ⟨rfl, rfl, rfl, rfl, rfl⟩ rfl rfl rfl rfl rfl (by kernel_rfl) Tryz.func4 (Abs.closed (by kernel_rfl))
    (of_decide_eq_true (by kernel_rfl)) (by unfold Func.isWrapper; first | (rw [if_pos (by decide +kernel)]; kernel_rfl) | (rw [if_neg (by decide +kernel)]; exact ⟨rfl, rfl⟩))
    (fun os started H enc _ => FnExactMatchesOf.lifted os started H enc)

end Go.Proofs.YtoindmahilbalaaGreat
