/-
  Laws of exact answers, taken to the given statements.
-/
import Derived.Test.YtoindmahilbalaaGreatZX5
namespace Go.Proofs.YtoindmahilbalaaGreat
open Go.ChangeShapes Go.WideShapes Go.ChangeAt Go.RowKit
open Go.WideMaps Go.WideElems
open Go.ChangeMaps (open_string)
open Abs

theorem rows_same {α : Type} {q1 q2 : α → List Tr} (h : ∀ a, oldL (q1 a) = oldL (q2 a)) (l : List α) : oldLL (l.map q1) = oldLL (l.map q2) := by
  rw [oldLL_eq, oldLL_eq, List.map_map, List.map_map]; exact List.map_congr_left fun a _ => by
    have := h a
    rw [oldL_eq, oldL_eq] at this; exact this
set_option maxRecDepth 100000 in
theorem FnExactAllMatches.lifted (os : Os) (started : os.Started) (H : Type) (enc : TypeId × Value → H) :
    ReturnsInHanded {} Tryz.checked os 5 .any (Rows.fnExactAllMatchesSpec.pre6 enc Tryz.prog Tryz.f5 Rows.fnExactAllMatchesRow.domain false) (Rows.fnExactAllMatchesSpec.post enc Tryz.prog Tryz.f5 false true false false) := by
  refine returnsInHanded_of_change (C := Tryz.checked) Abs.own started (by kernel_rfl) Tryz.func5
    (ChangeSpec.witness6 (enc := enc) (C := Tryz.checked) false ⟨#[], #[.slice none 0 0, .slice none 0 0], []⟩ 8 (by kernel_rfl) (by kernel_rfl) (by kernel_rfl) (by kernel_rfl)) ?_
  intro W base args ds gs before hval0 hW _ _
  have hval : ∀ (j : Nat) t v, Tryz.f5.params[j]? = some t → args[j]? = some v → Value.okWide Tryz.prog W .any base t v := hval0
  have hW' := hW
  obtain ⟨p, q, hA0, hV, _, _, _⟩ := hW'
  have hA : DataW.TrodAll enc Tryz.prog W 0 (fun _ => true) true Tryz.f5.params.toList args.toList ds p := hA0
  rw [Tryz.params5] at hA hval
  obtain ⟨v0, v1, d0, d1, p0, p1, rfl, rfl, _, h0, h1⟩ := trodAll_two hA
  obtain ⟨x0, f0, r0⟩ := open_arg (P := Tryz.prog) W.heap.size 8 (by kernel_rfl : clOf Tryz.prog 8 50 = some (Ty.list 25 (Ty.pair Ty.str (Ty.pair Ty.int (Ty.pair (Ty.list 108 tCond) (Ty.list 111 tAction))))).cl) (fun fs h => by rw [Tryz.underlying50] at h; cases h) (hval 0 50 v0 rfl rfl) h0
  obtain ⟨a0, e0, b0⟩ := (Ty.list 25 (Ty.pair Ty.str (Ty.pair Ty.int (Ty.pair (Ty.list 108 tCond) (Ty.list 111 tAction))))).hcl _ f0
  obtain rfl := (List.cons.inj e0).1
  have r0 := Eq.mp (congrArg (fun x => Rep W.heap.size W (allF W) [] [] [] (.list none x) v0) (rows_same (q1 := Ty.q (Ty.pair Ty.str (Ty.pair Ty.int (Ty.pair (Ty.list 108 tCond) (Ty.list 111 tAction))))) (q2 := Ty.q tRule) (fun _ => rfl) a0)) r0
  obtain ⟨x1, f1, r1⟩ := open_arg (P := Tryz.prog) W.heap.size 8 (by kernel_rfl : clOf Tryz.prog 8 26 = some (Ty.list 79 tFct).cl) (fun fs h => by rw [Tryz.underlying26] at h; cases h) (hval 1 26 v1 rfl rfl) h1
  obtain ⟨a1, e1, b1⟩ := (Ty.list 79 tFct).hcl _ f1
  obtain rfl := (List.cons.inj e1).1
  refine (law_ret (lawExactAllMatches.ret a0 a1 b0 b1) (Both.cons.2 ⟨r0, (Both.cons.2 ⟨r1, both_nil⟩)⟩)).mono ?_
  rintro e W' ⟨rfl, hb⟩
  obtain ⟨hg, -⟩ := trodVars_none hV
  subst hg
  exact ⟨_, rfl, law_post Abs.laidOut rfl (by rw [Tryz.params5]; decide +kernel) rfl Tryz.underlying4 hW hb rfl⟩

theorem FnExactAllMatches.said : Rows.FnExactAllMatchesSaid :=
  OpenClaim.holds_of_wide 5 Tryz.f5 rfl rfl rfl rfl rfl rfl rfl ⟨rfl, rfl, rfl, rfl, rfl⟩ rfl rfl rfl rfl rfl (by kernel_rfl) Tryz.func5 (Abs.closed (by kernel_rfl))
    (of_decide_eq_true (by kernel_rfl)) (by unfold Func.isWrapper; first | (rw [if_pos (by decide +kernel)]; kernel_rfl) | (rw [if_neg (by decide +kernel)]; exact ⟨rfl, rfl⟩))
    (fun os started H enc _ => FnExactAllMatches.lifted os started H enc)

end Go.Proofs.YtoindmahilbalaaGreat
