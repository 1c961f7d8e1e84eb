/-
  Laws of exact answers, taken to the given statements.
-/
import Derived.Test.YtiloafmpienmhaaGreatZA4
namespace Go.Proofs.YtiloafmpienmhaaGreat
open Go.ChangeShapes Go.WideShapes Go.ChangeAt Go.RowKit
open Go.WideMaps Go.WideElems
open Go.ChangeMaps (open_string)
open Abs

theorem same_list {α : Type} {t t' : Nat} {T U : Ty α} (h : ∀ a, oldL (T.q a) = oldL (U.q a)) (l : List α) : oldL ((Ty.list t T).q l) = oldL ((Ty.list t' U).q l) := by
  show [AV.list none (oldLL (l.map T.q))] = [AV.list none (oldLL (l.map U.q))]
  rw [oldLL_eq, oldLL_eq, List.map_map, List.map_map]
  congr 2
  exact List.map_congr_left fun a _ => by
    have := h a
    rw [oldL_eq, oldL_eq] at this; exact this
theorem same_pair {α β : Type} {T U : Ty α} {V X : Ty β} (h : ∀ a, oldL (T.q a) = oldL (U.q a)) (k : ∀ a, oldL (V.q a) = oldL (X.q a)) (a : α × β) : oldL ((Ty.pair T V).q a) = oldL ((Ty.pair U X).q a) := by
  show oldL (T.q a.1 ++ V.q a.2) = oldL (U.q a.1 ++ X.q a.2)
  have h1 := h a.1
  have h2 := k a.2
  rw [oldL_eq, oldL_eq] at h1 h2
  rw [oldL_eq, oldL_eq, List.map_append, List.map_append, h1, h2]
set_option maxHeartbeats 4000000 in
set_option maxRecDepth 100000 in
theorem FnExactIsEngine.lifted (os : Os) (started : os.Started) (H : Type) (enc : TypeId × Value → H) :
    ReturnsInHanded {} Tryz.checked os 4 .any (Rows.fnExactIsEngineSpec.pre6 enc Tryz.prog Tryz.f4 Rows.fnExactIsEngineRow.domain false) (Rows.fnExactIsEngineSpec.post enc Tryz.prog Tryz.f4 false true false false) := by
  refine returnsInHanded_of_change (C := Tryz.checked) Abs.own started (by kernel_rfl) Tryz.func4
    (ChangeSpec.witness6 (enc := enc) (C := Tryz.checked) false ⟨#[], #[.agg #[.slice none 0 0, .slice none 0 0, .int .i64 0, .slice none 0 0, .bool false, .slice none 0 0]], []⟩ 8 (by kernel_rfl) (by kernel_rfl) (by kernel_rfl) (by kernel_rfl)) ?_
  intro W base args ds gs before hval0 hW _ _
  have hval : ∀ (j : Nat) t v, Tryz.f4.params[j]? = some t → args[j]? = some v → Value.okWide Tryz.prog W .any base t v := hval0
  have hW' := hW
  obtain ⟨p, q, hA0, hV, _, _, _⟩ := hW'
  have hA : DataW.TrodAll enc Tryz.prog W 0 (fun _ => true) true Tryz.f4.params.toList args.toList ds p := hA0
  rw [Tryz.params4] at hA hval
  obtain ⟨v0, d0, rfl, rfl, h0⟩ := trodAll_one hA
  obtain ⟨x0, f0, r0⟩ := open_argS (P := Tryz.prog) W.heap.size 16 (by kernel_rfl : clOf Tryz.prog 16 57 = some (Ty.pair (Ty.list 75 (Ty.pair Ty.str (Ty.pair Ty.int (Ty.pair (Ty.list 187 tCond) (Ty.list 190 tAction))))) (Ty.pair (Ty.list 81 tStamp) (Ty.pair Ty.int (Ty.pair (Ty.list 167 tFiring) (Ty.pair Ty.bool (Ty.list 170 tEvent)))))).cl) Tryz.underlying57 (hval 0 57 v0 rfl rfl) h0
  obtain ⟨a0, rfl, b0⟩ := (Ty.pair (Ty.list 75 (Ty.pair Ty.str (Ty.pair Ty.int (Ty.pair (Ty.list 187 tCond) (Ty.list 190 tAction))))) (Ty.pair (Ty.list 81 tStamp) (Ty.pair Ty.int (Ty.pair (Ty.list 167 tFiring) (Ty.pair Ty.bool (Ty.list 170 tEvent)))))).hcl _ f0
  have r0 := Eq.mp (congrArg (fun x => Rep W.heap.size W (allF W) [] [] [] (.agg x) v0) (show oldL (Ty.q (Ty.pair (Ty.list 75 (Ty.pair Ty.str (Ty.pair Ty.int (Ty.pair (Ty.list 187 tCond) (Ty.list 190 tAction))))) (Ty.pair (Ty.list 81 tStamp) (Ty.pair Ty.int (Ty.pair (Ty.list 167 tFiring) (Ty.pair Ty.bool (Ty.list 170 tEvent)))))) a0) = oldL (Ty.q tEngine a0) from (same_pair (T := (Ty.list 75 (Ty.pair Ty.str (Ty.pair Ty.int (Ty.pair (Ty.list 187 tCond) (Ty.list 190 tAction)))))) (U := (Ty.list 93 (Ty.pair Ty.str (Ty.pair Ty.int (Ty.pair tConds tActions))))) (V := (Ty.pair (Ty.list 81 tStamp) (Ty.pair Ty.int (Ty.pair (Ty.list 167 tFiring) (Ty.pair Ty.bool (Ty.list 170 tEvent)))))) (X := (Ty.pair tStamps (Ty.pair Ty.int (Ty.pair tFirings (Ty.pair Ty.bool tEvents))))) (same_list (t := 75) (t' := 93) (T := (Ty.pair Ty.str (Ty.pair Ty.int (Ty.pair (Ty.list 187 tCond) (Ty.list 190 tAction))))) (U := (Ty.pair Ty.str (Ty.pair Ty.int (Ty.pair tConds tActions)))) (same_pair (T := Ty.str) (U := Ty.str) (V := (Ty.pair Ty.int (Ty.pair (Ty.list 187 tCond) (Ty.list 190 tAction)))) (X := (Ty.pair Ty.int (Ty.pair tConds tActions))) (fun _ => rfl) (same_pair (T := Ty.int) (U := Ty.int) (V := (Ty.pair (Ty.list 187 tCond) (Ty.list 190 tAction))) (X := (Ty.pair tConds tActions)) (fun _ => rfl) (same_pair (T := (Ty.list 187 tCond)) (U := tConds) (V := (Ty.list 190 tAction)) (X := tActions) (fun _ => rfl) (fun _ => rfl))))) (same_pair (T := (Ty.list 81 tStamp)) (U := tStamps) (V := (Ty.pair Ty.int (Ty.pair (Ty.list 167 tFiring) (Ty.pair Ty.bool (Ty.list 170 tEvent))))) (X := (Ty.pair Ty.int (Ty.pair tFirings (Ty.pair Ty.bool tEvents)))) (fun _ => rfl) (same_pair (T := Ty.int) (U := Ty.int) (V := (Ty.pair (Ty.list 167 tFiring) (Ty.pair Ty.bool (Ty.list 170 tEvent)))) (X := (Ty.pair tFirings (Ty.pair Ty.bool tEvents))) (fun _ => rfl) (same_pair (T := (Ty.list 167 tFiring)) (U := tFirings) (V := (Ty.pair Ty.bool (Ty.list 170 tEvent))) (X := (Ty.pair Ty.bool tEvents)) (fun _ => rfl) (same_pair (T := Ty.bool) (U := Ty.bool) (V := (Ty.list 170 tEvent)) (X := tEvents) (fun _ => rfl) (fun _ => rfl)))))) _)) r0
  refine (law_ret (lawExactIsEngine.ret a0 b0) (fun p hp => by cases hp) (Both.cons.2 ⟨r0, both_nil⟩)).mono ?_
  rintro e W' ⟨rfl, hb⟩
  obtain ⟨hg, -⟩ := trodVars_none hV
  subst hg
  exact ⟨_, rfl, law_post Abs.laidOut rfl (by rw [Tryz.params4]; decide +kernel) rfl Tryz.underlying4 hW hb rfl⟩

theorem FnExactIsEngine.said : Rows.FnExactIsEngineSaid :=
  OpenClaim.holds_of_wide 4 Tryz.f4 rfl rfl rfl rfl rfl rfl rfl ⟨rfl, rfl, rfl, rfl, rfl⟩ rfl rfl rfl rfl rfl (by kernel_rfl) Tryz.func4 (Abs.closed (by kernel_rfl))
    (of_decide_eq_true (by kernel_rfl)) (by unfold Func.isWrapper; first | (rw [if_pos (by decide +kernel)]; kernel_rfl) | (rw [if_neg (by decide +kernel)]; exact ⟨rfl, rfl⟩))
    (fun os started H enc _ => FnExactIsEngine.lifted os started H enc)

end Go.Proofs.YtiloafmpienmhaaGreat
