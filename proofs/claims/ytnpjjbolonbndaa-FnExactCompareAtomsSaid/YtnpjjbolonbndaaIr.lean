/-
  Short words for the evaluator's form of code.
-/
import Derived.Test.YtnpjjbolonbndaaSound14
namespace Go.Proofs.Ytnpjjbolonbndaa
namespace Abs
def t (n : Nat) : Operand := .tmp n
def s (d : Nat) (op : AOp) : AO := ⟨some d, none, op⟩
def g (j : Nat) (want : Bool) (d : Nat) (op : AOp) : AO := ⟨some d, some (j, want), op⟩

/-- 'ARet', closed -/
@[irreducible] def Ret (P : Program) (f : Nat) (args : List AV) (r : AV) (frs : Fr) : Prop := ARet P f args r frs
theorem Ret_eq : Ret = ARet := by funext P f args r frs; unfold Ret; rfl

theorem Ret.of_ir {P : Program} {fid : Nat} {fn : Func} {code : ACode} {rs : List RRes} {K : List Nat} {args : List AV} {r : AV} {frs : Fr} (hf : P.funcs[fid]? = some fn) (hb : fn.body.isSome = true)
    (hn : args.length ≤ fn.ntmps) (hc : cCode P fn.ntmps (fn.body.getD .skip) = code) (hr : fn.results.toList.map (cRes P) = rs)
    (h : aCode (Ret P) K code (doneK rs r frs) ⟨argEnv 0 args, [], []⟩) : Ret P fid args r frs := by
  rw [Ret_eq] at h ⊢
  obtain ⟨c, hc'⟩ := Option.isSome_iff_exists.1 hb
  refine ARet.of_code hf hc' hn K ?_
  rw [hc', Option.getD_some] at hc
  rw [hc, hr]; exact h

theorem Ret.of_irS {P : Program} {fid : Nat} {fn : Func} {code : ACode} {rs : List RRes} {K : List Nat} {args : List AV} {r : AV} (hr : isScalR r = true) (hf : P.funcs[fid]? = some fn) (hb : fn.body.isSome = true)
    (hn : args.length ≤ fn.ntmps) (hc : cCode P fn.ntmps (fn.body.getD .skip) = code) (hrs : fn.results.toList.map (cRes P) = rs)
    (h : aCode (Ret P) K code (doneS rs r) ⟨argEnv 0 args, [], []⟩) : Ret P fid args r [] := by
  rw [Ret_eq] at h ⊢
  obtain ⟨c, hc'⟩ := Option.isSome_iff_exists.1 hb
  refine ARet.of_code_scal hr hf hc' hn K ?_
  rw [hc', Option.getD_some] at hc
  rw [hc, hrs]; exact h
end Abs
end Go.Proofs.Ytnpjjbolonbndaa
