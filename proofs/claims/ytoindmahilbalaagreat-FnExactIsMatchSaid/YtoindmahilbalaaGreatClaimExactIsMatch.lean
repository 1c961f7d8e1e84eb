/-
  Laws of exact answers, taken to the given statements.
-/
import Derived.Test.YtoindmahilbalaaGreatZR4
namespace Go.Proofs.YtoindmahilbalaaGreat
open Go.ChangeShapes Go.WideShapes Go.ChangeAt Go.RowKit
open Go.WideMaps Go.WideElems
open Go.ChangeMaps (open_string)
open Abs

set_option maxRecDepth 100000 in
theorem FnExactIsMatch.lifted (os : Os) (started : os.Started) (H : Type) (enc : TypeId × Value → H) :
    ReturnsInHanded {} Tryz.checked os 6 .any (Rows.fnExactIsMatchSpec.pre6 enc Tryz.prog Tryz.f6 Rows.fnExactIsMatchRow.domain false) (Rows.fnExactIsMatchSpec.post enc Tryz.prog Tryz.f6 false true false false) := by
  refine returnsInHanded_of_change (C := Tryz.checked) Abs.own started (by kernel_rfl) Tryz.func6
    (ChangeSpec.witness6 (enc := enc) (C := Tryz.checked) false ⟨#[], #[.agg #[.string ⟨#[]⟩, .int .i64 0, .slice none 0 0, .slice none 0 0], .slice none 0 0, .agg #[.string ⟨#[]⟩, .slice none 0 0, .slice none 0 0]], []⟩ 8 (by kernel_rfl) (by kernel_rfl) (by kernel_rfl) (by kernel_rfl)) ?_
  intro W base args ds gs before hval0 hW _ _
  have hval : ∀ (j : Nat) t v, Tryz.f6.params[j]? = some t → args[j]? = some v → Value.okWide Tryz.prog W .any base t v := hval0
  have hW' := hW
  obtain ⟨p, q, hA0, hV, _, _, _⟩ := hW'
  have hA : DataW.TrodAll enc Tryz.prog W 0 (fun _ => true) true Tryz.f6.params.toList args.toList ds p := hA0
  rw [Tryz.params6] at hA hval
  obtain ⟨v0, v1, v2, d0, d1, d2, p0, p1, p2, rfl, rfl, _, h0, h1, h2⟩ := trodAll_three hA
  obtain ⟨x0, f0, r0⟩ := open_argS (P := Tryz.prog) W.heap.size 8 (by kernel_rfl : clOf Tryz.prog 8 25 = some (Ty.pair Ty.str (Ty.pair Ty.int (Ty.pair (Ty.list 108 tCond) (Ty.list 111 tAction)))).cl) Tryz.underlying25 (hval 0 25 v0 rfl rfl) h0
  obtain ⟨a0, rfl, b0⟩ := (Ty.pair Ty.str (Ty.pair Ty.int (Ty.pair (Ty.list 108 tCond) (Ty.list 111 tAction)))).hcl _ f0
  obtain ⟨x1, f1, r1⟩ := open_arg (P := Tryz.prog) W.heap.size 8 (by kernel_rfl : clOf Tryz.prog 8 26 = some (Ty.list 79 tFct).cl) (fun fs h => by rw [Tryz.underlying26] at h; cases h) (hval 1 26 v1 rfl rfl) h1
  obtain ⟨a1, e1, b1⟩ := (Ty.list 79 tFct).hcl _ f1
  obtain rfl := (List.cons.inj e1).1
  obtain ⟨x2, f2, r2⟩ := open_argS (P := Tryz.prog) W.heap.size 8 (by kernel_rfl : clOf Tryz.prog 8 60 = some (Ty.pair Ty.str (Ty.pair (Ty.list 79 tFct) (Ty.plain 144 tPair (fun _ => rfl) (fun _ => rfl)))).cl) Tryz.underlying60 (hval 2 60 v2 rfl rfl) h2
  obtain ⟨a2, rfl, b2⟩ := (Ty.pair Ty.str (Ty.pair (Ty.list 79 tFct) (Ty.plain 144 tPair (fun _ => rfl) (fun _ => rfl)))).hcl _ f2
  refine (law_ret (lawExactIsMatch.ret a0 a1 a2 b0 b1 b2) (Both.cons.2 ⟨r0, (Both.cons.2 ⟨r1, (Both.cons.2 ⟨r2, both_nil⟩)⟩)⟩)).mono ?_
  rintro e W' ⟨rfl, hb⟩
  obtain ⟨hg, -⟩ := trodVars_none hV
  subst hg
  exact ⟨_, rfl, law_post Abs.laidOut rfl (by rw [Tryz.params6]; decide +kernel) rfl Tryz.underlying4 hW hb rfl⟩

theorem FnExactIsMatch.said : Rows.FnExactIsMatchSaid :=
  OpenClaim.holds_of_wide 6 Tryz.f6 rfl rfl rfl rfl rfl rfl rfl ⟨rfl, rfl, rfl, rfl, rfl⟩ rfl rfl rfl rfl rfl (by kernel_rfl) Tryz.func6 (Abs.closed (by kernel_rfl))
    (of_decide_eq_true (by kernel_rfl)) (by unfold Func.isWrapper; first | (rw [if_pos (by decide +kernel)]; kernel_rfl) | (rw [if_neg (by decide +kernel)]; exact ⟨rfl, rfl⟩))
    (fun os started H enc _ => FnExactIsMatch.lifted os started H enc)

end Go.Proofs.YtoindmahilbalaaGreat
