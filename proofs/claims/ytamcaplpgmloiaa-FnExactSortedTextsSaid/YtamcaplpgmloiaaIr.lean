/-
  Short words for the evaluator's form of code; what is known of functions, closed.
-/
import Derived.Test.YtamcaplpgmloiaaOwn
namespace Go.Proofs.Ytamcaplpgmloiaa
namespace Abs
variable {mo : Bool}
def t (n : Nat) : Operand := .tmp n
def s (d : Nat) (op : AOp) : AO := ⟨some d, none, op⟩
def g (j : Nat) (want : Bool) (d : Nat) (op : AOp) : AO := ⟨some d, some (j, want), op⟩

/-- 'ARet', 'ORet', 'TRet', 'GRet', closed -/
@[irreducible] def Ret (mo : Bool) (P : Program) (f : Nat) (args : List AV) (r : AV) (frs : Fr) : Prop := ARet mo P f args r frs
@[irreducible] def Own (mo : Bool) (P : Program) (f : Nat) (args : List AV) (x : Tr) : Prop := ORet mo P f args x
@[irreducible] def Turn (mo : Bool) (P : Program) (f : Nat) (b0 : List ABox) (args : List AV) (r : AV) (b1 : List ABox) : Prop := TRet mo P f b0 args r b1
@[irreducible] def Ctx (mo : Bool) (P : Program) (f : Nat) (b0 : List ABox) (args : List AV) (Φ : AV → List ABox → Prop) : Prop := GRet mo P f b0 args Φ
def Kn (mo : Bool) (P : Program) : Con := ⟨Ret mo P, Own mo P, Turn mo P, Ctx mo P⟩
theorem Ret_eq : Ret = ARet := by funext mo P f args r frs; unfold Ret; rfl
theorem Own_eq : Own = ORet := by funext mo P f args x; unfold Own; rfl
theorem Turn_eq : Turn = TRet := by funext mo P f b0 args r b1; unfold Turn; rfl
theorem Ctx_eq : Ctx = GRet := by funext mo P f b0 args Φ; unfold Ctx; rfl
theorem Kn_eq (P : Program) : Kn mo P = ACon mo P := by unfold Kn ACon; rw [Ret_eq, Own_eq, Turn_eq, Ctx_eq]
theorem Bel.weak {B : Nat} {w w' : World} (h : Bel true B w w') : Bel mo B w w' := ⟨h.toBelow, fun _ => h.drawn rfl⟩
theorem Keep.weak {box0 : List BId} {w w' : World} (h : Keep true box0 w w') : Keep mo box0 w w' := ⟨fun _ => h.drawn rfl, h.os, h.tape, h.output, h.size, h.block⟩
theorem Ret.weak {P : Program} {f : Nat} {args : List AV} {r : AV} {frs : Fr} (h : Ret true P f args r frs) : Ret mo P f args r frs := by
  rw [Ret_eq] at h ⊢
  refine ⟨h.1, fun w F vs h1 h2 => (h.2 w F vs h1 h2).mono ?_⟩
  rintro e w' ⟨v, F', tok, box, h3, h4, h5⟩
  exact ⟨v, F', tok, box, h3, h4.weak, h5⟩
theorem Own.weak {P : Program} {f : Nat} {args : List AV} {x : Tr} (h : Own true P f args x) : Own mo P f args x := by
  rw [Own_eq] at h ⊢
  refine ⟨h.1, fun w F vs h1 h2 => (h.2 w F vs h1 h2).mono ?_⟩
  rintro e w' ⟨v, ds, h3, h4, h5⟩
  exact ⟨v, ds, h3, h4.weak, h5⟩
theorem Turn.weak {P : Program} {f : Nat} {b0 b1 : List ABox} {args : List AV} {r : AV} (h : Turn true P f b0 args r b1) : Turn mo P f b0 args r b1 := by
  rw [Turn_eq] at h ⊢
  refine ⟨h.1, fun w F vs box0 h1 h2 h3 h4 h5 h6 => (h.2 w F vs box0 h1 h2 h3 h4 h5 h6).mono ?_⟩
  rintro e w' ⟨v, F', h7, h8, h9⟩
  exact ⟨v, F', h7, h8.weak, h9⟩

theorem okFn_of {P : Program} {fid : Nat} {fn : Func} (hf : P.funcs[fid]? = some fn) (hb : fn.body.isSome = true) (hm : (fn.name == "runtime.NumGoroutine") = false) : okFn P fid = true := by
  unfold okFn; rw [hf]; simp only [hb, hm]; rfl

theorem Ret.of_ir {P : Program} {fid : Nat} {fn : Func} {code : ACode} {rs : List RRes} {K : List Nat} {args : List AV} {r : AV} {frs : Fr} (hf : P.funcs[fid]? = some fn) (hb : fn.body.isSome = true) (hm : (fn.name == "runtime.NumGoroutine") = false)
    (hn : args.length ≤ fn.ntmps) (hc : cCode P fn.ntmps (fn.body.getD .skip) = code) (hr : fn.results.toList.map (cRes P) = rs)
    (h : aCode (Kn mo P) K 0 code (doneK rs r frs) ⟨argEnv 0 args, [], []⟩) : Ret mo P fid args r frs := by
  rw [Kn_eq] at h; rw [Ret_eq]
  obtain ⟨c, hc'⟩ := Option.isSome_iff_exists.1 hb
  refine ARet.of_code (okFn_of hf hb hm) hf hc' hn K ?_
  rw [hc', Option.getD_some] at hc
  rw [hc, hr]; exact h

theorem Ret.of_irS {P : Program} {fid : Nat} {fn : Func} {code : ACode} {rs : List RRes} {K : List Nat} {args : List AV} {r : AV} (hr : isScalR r = true) (hf : P.funcs[fid]? = some fn) (hb : fn.body.isSome = true) (hm : (fn.name == "runtime.NumGoroutine") = false)
    (hn : args.length ≤ fn.ntmps) (hc : cCode P fn.ntmps (fn.body.getD .skip) = code) (hrs : fn.results.toList.map (cRes P) = rs)
    (h : aCode (Kn mo P) K 0 code (doneS rs r) ⟨argEnv 0 args, [], []⟩) : Ret mo P fid args r [] := by
  rw [Kn_eq] at h; rw [Ret_eq]
  obtain ⟨c, hc'⟩ := Option.isSome_iff_exists.1 hb
  refine ARet.of_code_scal hr (okFn_of hf hb hm) hf hc' hn K ?_
  rw [hc', Option.getD_some] at hc
  rw [hc, hrs]; exact h

theorem Turn.of_ir {P : Program} {fid : Nat} {fn : Func} {code : ACode} {rs : List RRes} {K : List Nat} {b0 : List ABox} {x' : Tr} {args : List AV} {r : AV} (hr : isScalR r = true) (hf : P.funcs[fid]? = some fn) (hb : fn.body.isSome = true) (hm : (fn.name == "runtime.NumGoroutine") = false)
    (hn : args.length ≤ fn.ntmps) (hc : cCode P fn.ntmps (fn.body.getD .skip) = code) (hrs : fn.results.toList.map (cRes P) = rs) (hx : nb x' = b0.length)
    (h : aCode (Kn mo P) K b0.length code (doneT rs b0.length r (gb x' 0)) ⟨argEnv 0 args, b0, []⟩) : Turn mo P fid b0 args r (gb x' 0) := by
  rw [Kn_eq] at h; rw [Turn_eq]
  obtain ⟨c, hc'⟩ := Option.isSome_iff_exists.1 hb
  refine TRet.of_code hr (okFn_of hf hb hm) hf hc' hn K hx ?_
  rw [hc', Option.getD_some] at hc
  rw [hc, hrs]; exact h

theorem Ret.own {P : Program} {f : Nat} {args : List AV} {r : AV} {frs : Fr} (h : Ret mo P f args r frs) {x : Tr} (ts : List Nat) (ho : OwnA frs [x] [r] ts) (hn : ts.Nodup) : Own mo P f args x := by
  rw [Ret_eq] at h; rw [Own_eq]; exact ARet.own h ho hn
end Abs
end Go.Proofs.Ytamcaplpgmloiaa
