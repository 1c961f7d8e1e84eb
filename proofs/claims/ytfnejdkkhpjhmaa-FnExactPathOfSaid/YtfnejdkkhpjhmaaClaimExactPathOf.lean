/-
  Laws of exact answers, taken to the given statements.
-/
import Derived.Test.YtfnejdkkhpjhmaaZC4
namespace Go.Proofs.Ytfnejdkkhpjhmaa
open Go.ChangeShapes Go.WideShapes Go.ChangeAt Go.RowKit
open Go.WideMaps Go.WideElems
open Go.ChangeMaps (open_string)
open Abs

theorem same_list {α : Type} {t t' : Nat} {T U : Ty α} (h : ∀ a, oldL (T.q a) = oldL (U.q a)) (l : List α) : oldL ((Ty.list t T).q l) = oldL ((Ty.list t' U).q l) := by
  show [AV.list none (oldLL (l.map T.q))] = [AV.list none (oldLL (l.map U.q))]
  rw [oldLL_eq, oldLL_eq, List.map_map, List.map_map]
  congr 2
  exact List.map_congr_left fun a _ => by
    have := h a
    rw [oldL_eq, oldL_eq] at this; exact this
theorem same_pair {α β : Type} {T U : Ty α} {V X : Ty β} (h : ∀ a, oldL (T.q a) = oldL (U.q a)) (k : ∀ a, oldL (V.q a) = oldL (X.q a)) (a : α × β) : oldL ((Ty.pair T V).q a) = oldL ((Ty.pair U X).q a) := by
  show oldL (T.q a.1 ++ V.q a.2) = oldL (U.q a.1 ++ X.q a.2)
  have h1 := h a.1
  have h2 := k a.2
  rw [oldL_eq, oldL_eq] at h1 h2
  rw [oldL_eq, oldL_eq, List.map_append, List.map_append, h1, h2]
set_option maxHeartbeats 4000000 in
set_option maxRecDepth 100000 in
theorem FnExactPathOf.lifted (os : Os) (started : os.Started) (H : Type) (enc : TypeId × Value → H) :
    ReturnsInHanded {} Try.checked os 4 .any (Rows.fnExactPathOfSpec.pre6 enc Try.prog Try.f4 Rows.fnExactPathOfRow.domain false) (Rows.fnExactPathOfSpec.post enc Try.prog Try.f4 false true false false) := by
  refine returnsInHanded_of_change (C := Try.checked) Abs.own started (by kernel_rfl) Try.func4
    (ChangeSpec.witness6 (enc := enc) (C := Try.checked) false ⟨#[], #[.agg #[.slice none 0 0, .slice none 0 0, .slice none 0 0, .slice none 0 0, .slice none 0 0, .int .i64 0], .int .i64 0], []⟩ 8 (by kernel_rfl) (by kernel_rfl) (by kernel_rfl) (by kernel_rfl)) ?_
  intro W base args ds gs before hval0 hW _ _
  have hval : ∀ (j : Nat) t v, Try.f4.params[j]? = some t → args[j]? = some v → Value.okWide Try.prog W .any base t v := hval0
  have hW' := hW
  obtain ⟨p, q, hA0, hV, _, _, _⟩ := hW'
  have hA : DataW.TrodAll enc Try.prog W 0 (fun _ => true) true Try.f4.params.toList args.toList ds p := hA0
  rw [Try.params4] at hA hval
  obtain ⟨v0, v1, d0, d1, p0, p1, rfl, rfl, _, h0, h1⟩ := trodAll_two hA
  obtain ⟨x0, f0, r0⟩ := open_argS (P := Try.prog) W.heap.size 16 (by kernel_rfl : clOf Try.prog 16 37 = some (Ty.pair (Ty.list 127 (Ty.pair Ty.str (Ty.pair Ty.int (Ty.pair (Ty.list 134 tCond) (Ty.list 178 tAction))))) (Ty.pair tInts (Ty.pair (Ty.list 131 (Ty.pair tPattern (Ty.list 139 tFct))) (Ty.pair (Ty.list 137 (Ty.pair Ty.int (Ty.pair tCond (Ty.pair Ty.int (Ty.list 181 (Ty.pair (Ty.list 139 tFct) (Ty.plain 58 tPair (fun _ => rfl) (fun _ => rfl)))))))) (Ty.pair (Ty.list 139 tFct) Ty.int))))).cl) Try.underlying37 (hval 0 37 v0 rfl rfl) h0
  obtain ⟨a0, rfl, b0⟩ := (Ty.pair (Ty.list 127 (Ty.pair Ty.str (Ty.pair Ty.int (Ty.pair (Ty.list 134 tCond) (Ty.list 178 tAction))))) (Ty.pair tInts (Ty.pair (Ty.list 131 (Ty.pair tPattern (Ty.list 139 tFct))) (Ty.pair (Ty.list 137 (Ty.pair Ty.int (Ty.pair tCond (Ty.pair Ty.int (Ty.list 181 (Ty.pair (Ty.list 139 tFct) (Ty.plain 58 tPair (fun _ => rfl) (fun _ => rfl)))))))) (Ty.pair (Ty.list 139 tFct) Ty.int))))).hcl _ f0
  have r0 := Eq.mp (congrArg (fun x => Rep W.heap.size W (allF W) [] [] [] (.agg x) v0) (show oldL (Ty.q (Ty.pair (Ty.list 127 (Ty.pair Ty.str (Ty.pair Ty.int (Ty.pair (Ty.list 134 tCond) (Ty.list 178 tAction))))) (Ty.pair tInts (Ty.pair (Ty.list 131 (Ty.pair tPattern (Ty.list 139 tFct))) (Ty.pair (Ty.list 137 (Ty.pair Ty.int (Ty.pair tCond (Ty.pair Ty.int (Ty.list 181 (Ty.pair (Ty.list 139 tFct) (Ty.plain 58 tPair (fun _ => rfl) (fun _ => rfl)))))))) (Ty.pair (Ty.list 139 tFct) Ty.int))))) a0) = oldL (Ty.q tNetwork a0) from (same_pair (T := (Ty.list 127 (Ty.pair Ty.str (Ty.pair Ty.int (Ty.pair (Ty.list 134 tCond) (Ty.list 178 tAction)))))) (U := (Ty.list 110 (Ty.pair Ty.str (Ty.pair Ty.int (Ty.pair tConds tActions))))) (V := (Ty.pair tInts (Ty.pair (Ty.list 131 (Ty.pair tPattern (Ty.list 139 tFct))) (Ty.pair (Ty.list 137 (Ty.pair Ty.int (Ty.pair tCond (Ty.pair Ty.int (Ty.list 181 (Ty.pair (Ty.list 139 tFct) (Ty.plain 58 tPair (fun _ => rfl) (fun _ => rfl)))))))) (Ty.pair (Ty.list 139 tFct) Ty.int))))) (X := (Ty.pair tInts (Ty.pair (Ty.list 106 (Ty.pair tPattern tFcts)) (Ty.pair (Ty.list 87 (Ty.pair Ty.int (Ty.pair tCond (Ty.pair Ty.int (Ty.list 154 (Ty.pair tFcts tPairs)))))) (Ty.pair tFcts Ty.int))))) (same_list (t := 127) (t' := 110) (T := (Ty.pair Ty.str (Ty.pair Ty.int (Ty.pair (Ty.list 134 tCond) (Ty.list 178 tAction))))) (U := (Ty.pair Ty.str (Ty.pair Ty.int (Ty.pair tConds tActions)))) (same_pair (T := Ty.str) (U := Ty.str) (V := (Ty.pair Ty.int (Ty.pair (Ty.list 134 tCond) (Ty.list 178 tAction)))) (X := (Ty.pair Ty.int (Ty.pair tConds tActions))) (fun _ => rfl) (same_pair (T := Ty.int) (U := Ty.int) (V := (Ty.pair (Ty.list 134 tCond) (Ty.list 178 tAction))) (X := (Ty.pair tConds tActions)) (fun _ => rfl) (same_pair (T := (Ty.list 134 tCond)) (U := tConds) (V := (Ty.list 178 tAction)) (X := tActions) (fun _ => rfl) (fun _ => rfl))))) (same_pair (T := tInts) (U := tInts) (V := (Ty.pair (Ty.list 131 (Ty.pair tPattern (Ty.list 139 tFct))) (Ty.pair (Ty.list 137 (Ty.pair Ty.int (Ty.pair tCond (Ty.pair Ty.int (Ty.list 181 (Ty.pair (Ty.list 139 tFct) (Ty.plain 58 tPair (fun _ => rfl) (fun _ => rfl)))))))) (Ty.pair (Ty.list 139 tFct) Ty.int)))) (X := (Ty.pair (Ty.list 106 (Ty.pair tPattern tFcts)) (Ty.pair (Ty.list 87 (Ty.pair Ty.int (Ty.pair tCond (Ty.pair Ty.int (Ty.list 154 (Ty.pair tFcts tPairs)))))) (Ty.pair tFcts Ty.int)))) (fun _ => rfl) (same_pair (T := (Ty.list 131 (Ty.pair tPattern (Ty.list 139 tFct)))) (U := (Ty.list 106 (Ty.pair tPattern tFcts))) (V := (Ty.pair (Ty.list 137 (Ty.pair Ty.int (Ty.pair tCond (Ty.pair Ty.int (Ty.list 181 (Ty.pair (Ty.list 139 tFct) (Ty.plain 58 tPair (fun _ => rfl) (fun _ => rfl)))))))) (Ty.pair (Ty.list 139 tFct) Ty.int))) (X := (Ty.pair (Ty.list 87 (Ty.pair Ty.int (Ty.pair tCond (Ty.pair Ty.int (Ty.list 154 (Ty.pair tFcts tPairs)))))) (Ty.pair tFcts Ty.int))) (same_list (t := 131) (t' := 106) (T := (Ty.pair tPattern (Ty.list 139 tFct))) (U := (Ty.pair tPattern tFcts)) (same_pair (T := tPattern) (U := tPattern) (V := (Ty.list 139 tFct)) (X := tFcts) (fun _ => rfl) (fun _ => rfl))) (same_pair (T := (Ty.list 137 (Ty.pair Ty.int (Ty.pair tCond (Ty.pair Ty.int (Ty.list 181 (Ty.pair (Ty.list 139 tFct) (Ty.plain 58 tPair (fun _ => rfl) (fun _ => rfl))))))))) (U := (Ty.list 87 (Ty.pair Ty.int (Ty.pair tCond (Ty.pair Ty.int (Ty.list 154 (Ty.pair tFcts tPairs))))))) (V := (Ty.pair (Ty.list 139 tFct) Ty.int)) (X := (Ty.pair tFcts Ty.int)) (same_list (t := 137) (t' := 87) (T := (Ty.pair Ty.int (Ty.pair tCond (Ty.pair Ty.int (Ty.list 181 (Ty.pair (Ty.list 139 tFct) (Ty.plain 58 tPair (fun _ => rfl) (fun _ => rfl)))))))) (U := (Ty.pair Ty.int (Ty.pair tCond (Ty.pair Ty.int (Ty.list 154 (Ty.pair tFcts tPairs)))))) (same_pair (T := Ty.int) (U := Ty.int) (V := (Ty.pair tCond (Ty.pair Ty.int (Ty.list 181 (Ty.pair (Ty.list 139 tFct) (Ty.plain 58 tPair (fun _ => rfl) (fun _ => rfl))))))) (X := (Ty.pair tCond (Ty.pair Ty.int (Ty.list 154 (Ty.pair tFcts tPairs))))) (fun _ => rfl) (same_pair (T := tCond) (U := tCond) (V := (Ty.pair Ty.int (Ty.list 181 (Ty.pair (Ty.list 139 tFct) (Ty.plain 58 tPair (fun _ => rfl) (fun _ => rfl)))))) (X := (Ty.pair Ty.int (Ty.list 154 (Ty.pair tFcts tPairs)))) (fun _ => rfl) (same_pair (T := Ty.int) (U := Ty.int) (V := (Ty.list 181 (Ty.pair (Ty.list 139 tFct) (Ty.plain 58 tPair (fun _ => rfl) (fun _ => rfl))))) (X := (Ty.list 154 (Ty.pair tFcts tPairs))) (fun _ => rfl) (same_list (t := 181) (t' := 154) (T := (Ty.pair (Ty.list 139 tFct) (Ty.plain 58 tPair (fun _ => rfl) (fun _ => rfl)))) (U := (Ty.pair tFcts tPairs)) (same_pair (T := (Ty.list 139 tFct)) (U := tFcts) (V := (Ty.plain 58 tPair (fun _ => rfl) (fun _ => rfl))) (X := tPairs) (fun _ => rfl) (fun _ => rfl))))))) (same_pair (T := (Ty.list 139 tFct)) (U := tFcts) (V := Ty.int) (X := Ty.int) (fun _ => rfl) (fun _ => rfl)))))) _)) r0
  obtain ⟨x1, f1, r1⟩ := open_arg (P := Try.prog) W.heap.size 16 (by kernel_rfl : clOf Try.prog 16 3 = some Ty.int.cl) (fun fs h => by rw [Try.underlying3] at h; cases h) (hval 1 3 v1 rfl rfl) h1
  obtain ⟨a1, e1, b1⟩ := Ty.int.hcl _ f1
  obtain rfl := (List.cons.inj e1).1
  refine (law_ret (lawExactPathOf.ret a0 a1 b0 b1) (fun p hp => by cases hp) (Both.cons.2 ⟨r0, (Both.cons.2 ⟨r1, both_nil⟩)⟩)).mono ?_
  rintro e W' ⟨rfl, hb⟩
  obtain ⟨hg, -⟩ := trodVars_none hV
  subst hg
  exact ⟨_, rfl, law_post Abs.laidOut rfl (by rw [Try.params4]; decide +kernel) rfl Try.underlying4 hW hb rfl⟩

theorem FnExactPathOf.said : Rows.FnExactPathOfSaid :=
  OpenClaim.holds_of_wide 4 Try.f4 rfl rfl rfl rfl rfl rfl rfl ⟨rfl, rfl, rfl, rfl, rfl⟩ rfl rfl rfl rfl rfl (by kernel_rfl) Try.func4 (Abs.closed (by kernel_rfl))
    (of_decide_eq_true (by kernel_rfl)) (by unfold Func.isWrapper; first | (rw [if_pos (by decide +kernel)]; kernel_rfl) | (rw [if_neg (by decide +kernel)]; exact ⟨rfl, rfl⟩))
    (fun os started H enc _ => FnExactPathOf.lifted os started H enc)

end Go.Proofs.Ytfnejdkkhpjhmaa
