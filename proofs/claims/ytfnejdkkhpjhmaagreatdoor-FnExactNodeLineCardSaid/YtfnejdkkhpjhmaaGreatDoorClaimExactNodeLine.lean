/-
  Laws of exact answers, taken to the given statements.
-/
import Derived.Test.YtfnejdkkhpjhmaaGreatDoorZA3
namespace Go.Proofs.YtfnejdkkhpjhmaaGreatDoor
open Go.ChangeShapes Go.WideShapes Go.ChangeAt Go.RowKit
open Go.WideMaps Go.WideElems
open Go.ChangeMaps (open_string)
open Abs

theorem same_list {α : Type} {t t' : Nat} {T U : Ty α} (h : ∀ a, oldL (T.q a) = oldL (U.q a)) (l : List α) : oldL ((Ty.list t T).q l) = oldL ((Ty.list t' U).q l) := by
  show [AV.list none (oldLL (l.map T.q))] = [AV.list none (oldLL (l.map U.q))]
  rw [oldLL_eq, oldLL_eq, List.map_map, List.map_map]
  congr 2
  exact List.map_congr_left fun a _ => by
    have := h a
    rw [oldL_eq, oldL_eq] at this; exact this
theorem same_pair {α β : Type} {T U : Ty α} {V X : Ty β} (h : ∀ a, oldL (T.q a) = oldL (U.q a)) (k : ∀ a, oldL (V.q a) = oldL (X.q a)) (a : α × β) : oldL ((Ty.pair T V).q a) = oldL ((Ty.pair U X).q a) := by
  show oldL (T.q a.1 ++ V.q a.2) = oldL (U.q a.1 ++ X.q a.2)
  have h1 := h a.1
  have h2 := k a.2
  rw [oldL_eq, oldL_eq] at h1 h2
  rw [oldL_eq, oldL_eq, List.map_append, List.map_append, h1, h2]
def laid1 : List (String × DataW Unit) := [("math/bits.deBruijn32tab", Rows.laid_math_bits_deBruijn32tab), ("math/bits.deBruijn64tab", Rows.laid_math_bits_deBruijn64tab), ("internal/strconv.uint64pow10", Rows.laid_internal_strconv_uint64pow10)]
set_option maxRecDepth 100000 in
theorem door_met1 (os : Os) (args : Array Value) : laidMetH Tryz.prog laid1 ((World.doorLaid Tryz.prog 24 os).forCall (fun _ _ => 0) ⟨#[], args, []⟩).memory :=
  laidMetH_of_parts3 (fuel := 8) (laidMet_of_run' 8 (by kernel_rfl) (by kernel_rfl)) (by kernel_rfl) (by kernel_rfl)
theorem cond_laid1 {W : World} (h : laidMetH Tryz.prog laid1 W) : CondB W [] := by
  rw [MakeChecks.laidMetH_plain _ _ _ (by kernel_rfl)] at h
  obtain ⟨ps, ⟨g0, t0, cs0, f0, p0, q0, hg0, ht0, hv0, hd0, ⟨g1, t1, cs1, f1, p1, q1, hg1, ht1, hv1, hd1, ⟨g2, t2, cs2, f2, p2, q2, hg2, ht2, hv2, hd2, _, _⟩, _⟩, _⟩, _⟩ := h
  obtain rfl := Option.some.inj ((show Tryz.prog.globalNamed "internal/strconv.uint64pow10" = some 0 by kernel_rfl).symm.trans hg2)
  obtain rfl := Option.some.inj ((show (Tryz.prog.globals[0]?).map (·.type) = some 315 by kernel_rfl).symm.trans ht2)
  exact cond_of hv2 hd2
set_option maxHeartbeats 4000000 in
set_option maxRecDepth 100000 in
theorem FnExactNodeLine.lifted (os : Os) (started : os.Started) (H : Type) (enc : TypeId × Value → H) :
    ReturnsInHanded {} Tryz.checked os 7 .any (fun w args => (Rows.fnExactNodeLineSpec.pre enc Tryz.prog Tryz.f7 [] false w args ∧ laidMetH Tryz.prog laid1 w) ∧ sizedMet enc Tryz.prog Tryz.f7 (OpenSpec.ofChange Rows.fnExactNodeLineSpec) false w args)
      (Rows.fnExactNodeLineSpec.post enc Tryz.prog Tryz.f7 false true false false) := by
  refine returnsInHanded_of_change_and (C := Tryz.checked) (X := fun w _ => laidMetH Tryz.prog laid1 w) (fun _ _ _ hh h => h.of_heap hh) Abs.own started (by kernel_rfl) Tryz.func7
    (ChangeSpec.witness_shaped (enc := enc) (C := Tryz.checked) (os := os) (X := fun w _ => laidMetH Tryz.prog laid1 w) false (World.doorLaid Tryz.prog 24 os) #[.agg #[.slice none 0 0, .slice none 0 0, .slice none 0 0, .slice none 0 0, .slice none 0 0, .int .i64 0], .int .i64 0] 8 rfl (World.shaped_of_RefB (by kernel_rfl) (by kernel_rfl)) (by kernel_rfl) (by kernel_rfl) (by kernel_rfl) (door_met1 os _)) ?_
  intro W base args ds gs before hval0 hW _ _ hL _
  have hval : ∀ (j : Nat) t v, Tryz.f7.params[j]? = some t → args[j]? = some v → Value.okWide Tryz.prog W .any base t v := hval0
  have hW' := hW
  obtain ⟨p, q, hA0, hV, _, _, _⟩ := hW'
  have hA : DataW.TrodAll enc Tryz.prog W 0 (fun _ => true) true Tryz.f7.params.toList args.toList ds p := hA0
  rw [Tryz.params7] at hA hval
  obtain ⟨v0, v1, d0, d1, p0, p1, rfl, rfl, _, h0, h1⟩ := trodAll_two hA
  obtain ⟨x0, f0, r0⟩ := open_argS (P := Tryz.prog) W.heap.size 16 (by kernel_rfl : clOf Tryz.prog 16 43 = some (Ty.pair (Ty.list 59 (Ty.pair Ty.str (Ty.pair Ty.int (Ty.pair (Ty.list 149 tCond) (Ty.list 190 tAction))))) (Ty.pair tInts (Ty.pair (Ty.list 146 (Ty.pair tPattern (Ty.list 154 tFct))) (Ty.pair (Ty.list 152 (Ty.pair Ty.int (Ty.pair tCond (Ty.pair Ty.int (Ty.list 247 (Ty.pair (Ty.list 154 tFct) (Ty.plain 308 tPair (fun _ => rfl) (fun _ => rfl)))))))) (Ty.pair (Ty.list 154 tFct) Ty.int))))).cl) Tryz.underlying43 (hval 0 43 v0 rfl rfl) h0
  obtain ⟨a0, rfl, b0⟩ := (Ty.pair (Ty.list 59 (Ty.pair Ty.str (Ty.pair Ty.int (Ty.pair (Ty.list 149 tCond) (Ty.list 190 tAction))))) (Ty.pair tInts (Ty.pair (Ty.list 146 (Ty.pair tPattern (Ty.list 154 tFct))) (Ty.pair (Ty.list 152 (Ty.pair Ty.int (Ty.pair tCond (Ty.pair Ty.int (Ty.list 247 (Ty.pair (Ty.list 154 tFct) (Ty.plain 308 tPair (fun _ => rfl) (fun _ => rfl)))))))) (Ty.pair (Ty.list 154 tFct) Ty.int))))).hcl _ f0
  have r0 := Eq.mp (congrArg (fun x => Rep W.heap.size W (allF W) [] [] [] (.agg x) v0) (show oldL (Ty.q (Ty.pair (Ty.list 59 (Ty.pair Ty.str (Ty.pair Ty.int (Ty.pair (Ty.list 149 tCond) (Ty.list 190 tAction))))) (Ty.pair tInts (Ty.pair (Ty.list 146 (Ty.pair tPattern (Ty.list 154 tFct))) (Ty.pair (Ty.list 152 (Ty.pair Ty.int (Ty.pair tCond (Ty.pair Ty.int (Ty.list 247 (Ty.pair (Ty.list 154 tFct) (Ty.plain 308 tPair (fun _ => rfl) (fun _ => rfl)))))))) (Ty.pair (Ty.list 154 tFct) Ty.int))))) a0) = oldL (Ty.q tNetwork a0) from (same_pair (T := (Ty.list 59 (Ty.pair Ty.str (Ty.pair Ty.int (Ty.pair (Ty.list 149 tCond) (Ty.list 190 tAction)))))) (U := (Ty.list 77 (Ty.pair Ty.str (Ty.pair Ty.int (Ty.pair tConds tActions))))) (V := (Ty.pair tInts (Ty.pair (Ty.list 146 (Ty.pair tPattern (Ty.list 154 tFct))) (Ty.pair (Ty.list 152 (Ty.pair Ty.int (Ty.pair tCond (Ty.pair Ty.int (Ty.list 247 (Ty.pair (Ty.list 154 tFct) (Ty.plain 308 tPair (fun _ => rfl) (fun _ => rfl)))))))) (Ty.pair (Ty.list 154 tFct) Ty.int))))) (X := (Ty.pair tInts (Ty.pair (Ty.list 99 (Ty.pair tPattern tFcts)) (Ty.pair (Ty.list 72 (Ty.pair Ty.int (Ty.pair tCond (Ty.pair Ty.int (Ty.list 64 (Ty.pair tFcts tPairs)))))) (Ty.pair tFcts Ty.int))))) (same_list (t := 59) (t' := 77) (T := (Ty.pair Ty.str (Ty.pair Ty.int (Ty.pair (Ty.list 149 tCond) (Ty.list 190 tAction))))) (U := (Ty.pair Ty.str (Ty.pair Ty.int (Ty.pair tConds tActions)))) (same_pair (T := Ty.str) (U := Ty.str) (V := (Ty.pair Ty.int (Ty.pair (Ty.list 149 tCond) (Ty.list 190 tAction)))) (X := (Ty.pair Ty.int (Ty.pair tConds tActions))) (fun _ => rfl) (same_pair (T := Ty.int) (U := Ty.int) (V := (Ty.pair (Ty.list 149 tCond) (Ty.list 190 tAction))) (X := (Ty.pair tConds tActions)) (fun _ => rfl) (same_pair (T := (Ty.list 149 tCond)) (U := tConds) (V := (Ty.list 190 tAction)) (X := tActions) (fun _ => rfl) (fun _ => rfl))))) (same_pair (T := tInts) (U := tInts) (V := (Ty.pair (Ty.list 146 (Ty.pair tPattern (Ty.list 154 tFct))) (Ty.pair (Ty.list 152 (Ty.pair Ty.int (Ty.pair tCond (Ty.pair Ty.int (Ty.list 247 (Ty.pair (Ty.list 154 tFct) (Ty.plain 308 tPair (fun _ => rfl) (fun _ => rfl)))))))) (Ty.pair (Ty.list 154 tFct) Ty.int)))) (X := (Ty.pair (Ty.list 99 (Ty.pair tPattern tFcts)) (Ty.pair (Ty.list 72 (Ty.pair Ty.int (Ty.pair tCond (Ty.pair Ty.int (Ty.list 64 (Ty.pair tFcts tPairs)))))) (Ty.pair tFcts Ty.int)))) (fun _ => rfl) (same_pair (T := (Ty.list 146 (Ty.pair tPattern (Ty.list 154 tFct)))) (U := (Ty.list 99 (Ty.pair tPattern tFcts))) (V := (Ty.pair (Ty.list 152 (Ty.pair Ty.int (Ty.pair tCond (Ty.pair Ty.int (Ty.list 247 (Ty.pair (Ty.list 154 tFct) (Ty.plain 308 tPair (fun _ => rfl) (fun _ => rfl)))))))) (Ty.pair (Ty.list 154 tFct) Ty.int))) (X := (Ty.pair (Ty.list 72 (Ty.pair Ty.int (Ty.pair tCond (Ty.pair Ty.int (Ty.list 64 (Ty.pair tFcts tPairs)))))) (Ty.pair tFcts Ty.int))) (same_list (t := 146) (t' := 99) (T := (Ty.pair tPattern (Ty.list 154 tFct))) (U := (Ty.pair tPattern tFcts)) (same_pair (T := tPattern) (U := tPattern) (V := (Ty.list 154 tFct)) (X := tFcts) (fun _ => rfl) (fun _ => rfl))) (same_pair (T := (Ty.list 152 (Ty.pair Ty.int (Ty.pair tCond (Ty.pair Ty.int (Ty.list 247 (Ty.pair (Ty.list 154 tFct) (Ty.plain 308 tPair (fun _ => rfl) (fun _ => rfl))))))))) (U := (Ty.list 72 (Ty.pair Ty.int (Ty.pair tCond (Ty.pair Ty.int (Ty.list 64 (Ty.pair tFcts tPairs))))))) (V := (Ty.pair (Ty.list 154 tFct) Ty.int)) (X := (Ty.pair tFcts Ty.int)) (same_list (t := 152) (t' := 72) (T := (Ty.pair Ty.int (Ty.pair tCond (Ty.pair Ty.int (Ty.list 247 (Ty.pair (Ty.list 154 tFct) (Ty.plain 308 tPair (fun _ => rfl) (fun _ => rfl)))))))) (U := (Ty.pair Ty.int (Ty.pair tCond (Ty.pair Ty.int (Ty.list 64 (Ty.pair tFcts tPairs)))))) (same_pair (T := Ty.int) (U := Ty.int) (V := (Ty.pair tCond (Ty.pair Ty.int (Ty.list 247 (Ty.pair (Ty.list 154 tFct) (Ty.plain 308 tPair (fun _ => rfl) (fun _ => rfl))))))) (X := (Ty.pair tCond (Ty.pair Ty.int (Ty.list 64 (Ty.pair tFcts tPairs))))) (fun _ => rfl) (same_pair (T := tCond) (U := tCond) (V := (Ty.pair Ty.int (Ty.list 247 (Ty.pair (Ty.list 154 tFct) (Ty.plain 308 tPair (fun _ => rfl) (fun _ => rfl)))))) (X := (Ty.pair Ty.int (Ty.list 64 (Ty.pair tFcts tPairs)))) (fun _ => rfl) (same_pair (T := Ty.int) (U := Ty.int) (V := (Ty.list 247 (Ty.pair (Ty.list 154 tFct) (Ty.plain 308 tPair (fun _ => rfl) (fun _ => rfl))))) (X := (Ty.list 64 (Ty.pair tFcts tPairs))) (fun _ => rfl) (same_list (t := 247) (t' := 64) (T := (Ty.pair (Ty.list 154 tFct) (Ty.plain 308 tPair (fun _ => rfl) (fun _ => rfl)))) (U := (Ty.pair tFcts tPairs)) (same_pair (T := (Ty.list 154 tFct)) (U := tFcts) (V := (Ty.plain 308 tPair (fun _ => rfl) (fun _ => rfl))) (X := tPairs) (fun _ => rfl) (fun _ => rfl))))))) (same_pair (T := (Ty.list 154 tFct)) (U := tFcts) (V := Ty.int) (X := Ty.int) (fun _ => rfl) (fun _ => rfl)))))) _)) r0
  obtain ⟨x1, f1, r1⟩ := open_arg (P := Tryz.prog) W.heap.size 16 (by kernel_rfl : clOf Tryz.prog 16 3 = some Ty.int.cl) (fun fs h => by rw [Tryz.underlying3] at h; cases h) (hval 1 3 v1 rfl rfl) h1
  obtain ⟨a1, e1, b1⟩ := Ty.int.hcl _ f1
  obtain rfl := (List.cons.inj e1).1
  refine (law_ret (lawExactNodeLine.ret a0 a1 b0 b1) (cond_laid1 hL) (Both.cons.2 ⟨r0, (Both.cons.2 ⟨r1, both_nil⟩)⟩)).mono ?_
  rintro e W' ⟨rfl, hb⟩
  obtain ⟨hg, -⟩ := trodVars_none hV
  subst hg
  exact ⟨_, rfl, law_post Abs.laidOut rfl (by rw [Tryz.params7]; decide +kernel) rfl Tryz.underlying4 hW hb rfl⟩

theorem FnExactNodeLine.holds : Rows.FnExactNodeLineSaid :=
  OpenClaim.holds_of_wide 7 Tryz.f7 rfl rfl rfl rfl rfl rfl rfl ⟨rfl, rfl, rfl, rfl, rfl⟩ rfl rfl rfl rfl rfl (by kernel_rfl) Tryz.func7 (Abs.closed (by kernel_rfl))
    (of_decide_eq_true (by kernel_rfl)) (by unfold Func.isWrapper; first | (rw [if_pos (by decide +kernel)]; kernel_rfl) | (rw [if_neg (by decide +kernel)]; exact ⟨rfl, rfl⟩))
    (fun os started H enc _ => FnExactNodeLine.lifted os started H enc)
set_option maxRecDepth 100000 in
theorem FnExactNodeLine.said : Rows.FnExactNodeLineCardSaid :=
  Claim7.holds_tied_plain_at .later [] [.data, .data, .data] true (true, "e4fa0d59ea1bcd9b342942a5cafbe71b60ff442b0556a1976f00fe29741f58db") false
    FnExactNodeLine.holds (fun _ h => by cases h) (by kernel_rfl) (fun _ h => by cases h) fnExactNodeLine_row_tie rfl ⟨rfl, rfl⟩ Abs.main rfl
    (fun f fn hf hfn => by
      obtain rfl : f = 7 := Option.some.inj ((show Tryz.prog.funcNamed "loop.example/g03015/laws.FnExactNodeLine" = some 7 by kernel_rfl).symm.trans hf) |>.symm
      obtain rfl : fn = Tryz.f7 := (Option.some.inj (Tryz.func7.symm.trans hfn)).symm
      exact ⟨by kernel_rfl, fun j t ht => by
        rw [Tryz.params7] at ht
        have hm : t ∈ [43, 3] := by simpa using Array.mem_of_getElem? ht
        have hall : ([43, 3].all fun u => !Tryz.prog.wantsStandIn u) = true := by kernel_rfl
        exact (show Tryz.prog.wantsStandIn t = false by simpa using List.all_eq_true.1 hall t hm)⟩)
    (by kernel_rfl)

end Go.Proofs.YtfnejdkkhpjhmaaGreatDoor
