/-
  Short words for the evaluator's form of code; what is known of functions, closed.
-/
import Derived.Test.YtamcaplpgmloiaaOwn
namespace Go.Proofs.Ytamcaplpgmloiaa
namespace Abs
def t (n : Nat) : Operand := .tmp n
def s (d : Nat) (op : AOp) : AO := ⟨some d, none, op⟩
def g (j : Nat) (want : Bool) (d : Nat) (op : AOp) : AO := ⟨some d, some (j, want), op⟩

/-- 'ARet', 'ORet', 'TRet', closed -/
@[irreducible] def Ret (P : Program) (f : Nat) (args : List AV) (r : AV) (frs : Fr) : Prop := ARet P f args r frs
@[irreducible] def Own (P : Program) (f : Nat) (args : List AV) (x : Tr) : Prop := ORet P f args x
@[irreducible] def Turn (P : Program) (f : Nat) (b0 : List ABox) (args : List AV) (r : AV) (b1 : List ABox) : Prop := TRet P f b0 args r b1
def Kn (P : Program) : Con := ⟨Ret P, Own P, Turn P⟩
theorem Ret_eq : Ret = ARet := by funext P f args r frs; unfold Ret; rfl
theorem Own_eq : Own = ORet := by funext P f args x; unfold Own; rfl
theorem Turn_eq : Turn = TRet := by funext P f b0 args r b1; unfold Turn; rfl
theorem Kn_eq (P : Program) : Kn P = ACon P := by unfold Kn ACon; rw [Ret_eq, Own_eq, Turn_eq]

theorem okFn_of {P : Program} {fid : Nat} {fn : Func} (hf : P.funcs[fid]? = some fn) (hb : fn.body.isSome = true) (hm : (fn.name == "runtime.NumGoroutine") = false) : okFn P fid = true := by
  unfold okFn; rw [hf]; simp only [hb, hm]; rfl

theorem Ret.of_ir {P : Program} {fid : Nat} {fn : Func} {code : ACode} {rs : List RRes} {K : List Nat} {args : List AV} {r : AV} {frs : Fr} (hf : P.funcs[fid]? = some fn) (hb : fn.body.isSome = true) (hm : (fn.name == "runtime.NumGoroutine") = false)
    (hn : args.length ≤ fn.ntmps) (hc : cCode P fn.ntmps (fn.body.getD .skip) = code) (hr : fn.results.toList.map (cRes P) = rs)
    (h : aCode (Kn P) K 0 code (doneK rs r frs) ⟨argEnv 0 args, [], []⟩) : Ret P fid args r frs := by
  rw [Kn_eq] at h; rw [Ret_eq]
  obtain ⟨c, hc'⟩ := Option.isSome_iff_exists.1 hb
  refine ARet.of_code (okFn_of hf hb hm) hf hc' hn K ?_
  rw [hc', Option.getD_some] at hc
  rw [hc, hr]; exact h

theorem Ret.of_irS {P : Program} {fid : Nat} {fn : Func} {code : ACode} {rs : List RRes} {K : List Nat} {args : List AV} {r : AV} (hr : isScalR r = true) (hf : P.funcs[fid]? = some fn) (hb : fn.body.isSome = true) (hm : (fn.name == "runtime.NumGoroutine") = false)
    (hn : args.length ≤ fn.ntmps) (hc : cCode P fn.ntmps (fn.body.getD .skip) = code) (hrs : fn.results.toList.map (cRes P) = rs)
    (h : aCode (Kn P) K 0 code (doneS rs r) ⟨argEnv 0 args, [], []⟩) : Ret P fid args r [] := by
  rw [Kn_eq] at h; rw [Ret_eq]
  obtain ⟨c, hc'⟩ := Option.isSome_iff_exists.1 hb
  refine ARet.of_code_scal hr (okFn_of hf hb hm) hf hc' hn K ?_
  rw [hc', Option.getD_some] at hc
  rw [hc, hrs]; exact h

theorem Turn.of_ir {P : Program} {fid : Nat} {fn : Func} {code : ACode} {rs : List RRes} {K : List Nat} {b0 : List ABox} {x' : Tr} {args : List AV} {r : AV} (hr : isScalR r = true) (hf : P.funcs[fid]? = some fn) (hb : fn.body.isSome = true) (hm : (fn.name == "runtime.NumGoroutine") = false)
    (hn : args.length ≤ fn.ntmps) (hc : cCode P fn.ntmps (fn.body.getD .skip) = code) (hrs : fn.results.toList.map (cRes P) = rs) (hx : nb x' = b0.length)
    (h : aCode (Kn P) K b0.length code (doneT rs b0.length r (gb x' 0)) ⟨argEnv 0 args, b0, []⟩) : Turn P fid b0 args r (gb x' 0) := by
  rw [Kn_eq] at h; rw [Turn_eq]
  obtain ⟨c, hc'⟩ := Option.isSome_iff_exists.1 hb
  refine TRet.of_code hr (okFn_of hf hb hm) hf hc' hn K hx ?_
  rw [hc', Option.getD_some] at hc
  rw [hc, hrs]; exact h

theorem Ret.own {P : Program} {f : Nat} {args : List AV} {r : AV} {frs : Fr} (h : Ret P f args r frs) {x : Tr} (ts : List Nat) (ho : OwnA frs [x] [r] ts) (hn : ts.Nodup) : Own P f args x := by
  rw [Ret_eq] at h; rw [Own_eq]; exact ARet.own h ho hn
end Abs
end Go.Proofs.Ytamcaplpgmloiaa
