/-
  Laws of exact answers, taken to the given statements.
-/
import Derived.Test.YtplfkocigmnpmaaDoorZG2
namespace Go.Proofs.YtplfkocigmnpmaaDoor
open Go.ChangeShapes Go.WideShapes Go.ChangeAt Go.RowKit
open Go.WideMaps Go.WideElems
open Go.ChangeMaps (open_string)
open Abs

def laid1 : List (String × DataW Unit) := [("math/bits.deBruijn32tab", Rows.laid_math_bits_deBruijn32tab), ("math/bits.deBruijn64tab", Rows.laid_math_bits_deBruijn64tab), ("internal/strconv.uint64pow10", Rows.laid_internal_strconv_uint64pow10)]
set_option maxRecDepth 100000 in
theorem door_met1 (os : Os) (args : Array Value) : laidMetH Tryd.prog laid1 ((World.doorLaid Tryd.prog 24 os).forCall (fun _ _ => 0) ⟨#[], args, []⟩).memory :=
  laidMetH_of_parts3 (fuel := 8) (laidMet_of_run' 8 (by kernel_rfl) (by kernel_rfl)) (by kernel_rfl) (by kernel_rfl)
theorem cond_laid1 {W : World} (h : laidMetH Tryd.prog laid1 W) : CondB W [] := by
  rw [MakeChecks.laidMetH_plain _ _ _ (by kernel_rfl)] at h
  obtain ⟨ps, ⟨g0, t0, cs0, f0, p0, q0, hg0, ht0, hv0, hd0, ⟨g1, t1, cs1, f1, p1, q1, hg1, ht1, hv1, hd1, ⟨g2, t2, cs2, f2, p2, q2, hg2, ht2, hv2, hd2, _, _⟩, _⟩, _⟩, _⟩ := h
  obtain rfl := Option.some.inj ((show Tryd.prog.globalNamed "internal/strconv.uint64pow10" = some 0 by kernel_rfl).symm.trans hg2)
  obtain rfl := Option.some.inj ((show (Tryd.prog.globals[0]?).map (·.type) = some 127 by kernel_rfl).symm.trans ht2)
  exact cond_of hv2 hd2
set_option maxRecDepth 100000 in
theorem FnExactChoiceLine.lifted (os : Os) (started : os.Started) (H : Type) (enc : TypeId × Value → H) :
    ReturnsInHanded {} Tryd.checked os 3 .any (fun w args => (Rows.fnExactChoiceLineSpec.pre enc Tryd.prog Tryd.f3 [] false w args ∧ laidMetH Tryd.prog laid1 w) ∧ sizedMet enc Tryd.prog Tryd.f3 (OpenSpec.ofChange Rows.fnExactChoiceLineSpec) false w args)
      (Rows.fnExactChoiceLineSpec.post enc Tryd.prog Tryd.f3 false true false false) := by
  refine returnsInHanded_of_change_and (C := Tryd.checked) (X := fun w _ => laidMetH Tryd.prog laid1 w) (fun _ _ _ hh h => h.of_heap hh) Abs.own started (by kernel_rfl) Tryd.func3
    (ChangeSpec.witness_shaped (enc := enc) (C := Tryd.checked) (os := os) (X := fun w _ => laidMetH Tryd.prog laid1 w) false (World.doorLaid Tryd.prog 24 os) #[.agg #[.string ⟨#[]⟩, .slice none 0 0, .slice none 0 0, .int .i64 0, .slice none 0 0, .int .i64 0, .int .i64 0]] 8 rfl (World.shaped_of_RefB (by kernel_rfl) (by kernel_rfl)) (by kernel_rfl) (by kernel_rfl) (by kernel_rfl) (door_met1 os _)) ?_
  intro W base args ds gs before hval0 hW _ _ hL _
  have hval : ∀ (j : Nat) t v, Tryd.f3.params[j]? = some t → args[j]? = some v → Value.okWide Tryd.prog W .any base t v := hval0
  have hW' := hW
  obtain ⟨p, q, hA0, hV, _, _, _⟩ := hW'
  have hA : DataW.TrodAll enc Tryd.prog W 0 (fun _ => true) true Tryd.f3.params.toList args.toList ds p := hA0
  rw [Tryd.params3] at hA hval
  obtain ⟨v0, d0, rfl, rfl, h0⟩ := trodAll_one hA
  obtain ⟨x0, f0, r0⟩ := open_argS (P := Tryd.prog) W.heap.size 16 (by kernel_rfl : clOf Tryd.prog 16 28 = some (Ty.pair (Ty.pair Ty.str (Ty.pair (Ty.list 63 tFct) (Ty.plain 66 tPair (fun _ => rfl) (fun _ => rfl)))) (Ty.pair Ty.int (Ty.pair tInts (Ty.pair Ty.int Ty.int)))).cl) Tryd.underlying28 (hval 0 28 v0 rfl rfl) h0
  obtain ⟨a0, rfl, b0⟩ := (Ty.pair (Ty.pair Ty.str (Ty.pair (Ty.list 63 tFct) (Ty.plain 66 tPair (fun _ => rfl) (fun _ => rfl)))) (Ty.pair Ty.int (Ty.pair tInts (Ty.pair Ty.int Ty.int)))).hcl _ f0
  refine (law_ret (lawExactChoiceLine.ret a0 b0) (cond_laid1 hL) (Both.cons.2 ⟨r0, both_nil⟩)).mono ?_
  rintro e W' ⟨rfl, hb⟩
  obtain ⟨hg, -⟩ := trodVars_none hV
  subst hg
  exact ⟨_, rfl, law_post Abs.laidOut rfl (by rw [Tryd.params3]; decide +kernel) rfl Tryd.underlying4 hW hb rfl⟩

theorem FnExactChoiceLine.holds : Rows.FnExactChoiceLineSaid :=
  OpenClaim.holds_of_wide 3 Tryd.f3 rfl rfl rfl rfl rfl rfl rfl ⟨rfl, rfl, rfl, rfl, rfl⟩ rfl rfl rfl rfl rfl (by kernel_rfl) Tryd.func3 (Abs.closed (by kernel_rfl))
    (of_decide_eq_true (by kernel_rfl)) (by unfold Func.isWrapper; first | (rw [if_pos (by decide +kernel)]; kernel_rfl) | (rw [if_neg (by decide +kernel)]; exact ⟨rfl, rfl⟩))
    (fun os started H enc _ => FnExactChoiceLine.lifted os started H enc)
set_option maxRecDepth 100000 in
theorem FnExactChoiceLine.said : Rows.FnExactChoiceLineCardSaid :=
  Claim7.holds_tied_plain_at .later [] [.data, .data, .data] true (true, "4b4f17d01f36311d77c6b2d4104307ab886d70f5e10febeaf84c1af26a58c28b") false
    FnExactChoiceLine.holds (fun _ h => by cases h) (by kernel_rfl) (fun _ h => by cases h) fnExactChoiceLine_row_tie rfl ⟨rfl, rfl⟩ Abs.main rfl
    (fun f fn hf hfn => by
      obtain rfl : f = 3 := Option.some.inj ((show Tryd.prog.funcNamed "loop.example/g03015/laws.FnExactChoiceLine" = some 3 by kernel_rfl).symm.trans hf) |>.symm
      obtain rfl : fn = Tryd.f3 := (Option.some.inj (Tryd.func3.symm.trans hfn)).symm
      exact ⟨by kernel_rfl, fun j t ht => by
        rw [Tryd.params3] at ht
        have hm : t ∈ [28] := by simpa using Array.mem_of_getElem? ht
        have hall : ([28].all fun u => !Tryd.prog.wantsStandIn u) = true := by kernel_rfl
        exact (show Tryd.prog.wantsStandIn t = false by simpa using List.all_eq_true.1 hall t hm)⟩)
    (by kernel_rfl)

end Go.Proofs.YtplfkocigmnpmaaDoor
