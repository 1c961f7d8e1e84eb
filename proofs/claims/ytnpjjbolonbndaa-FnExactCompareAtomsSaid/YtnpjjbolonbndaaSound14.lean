/-
  Whole code, and functions: what the evaluator shows of a function's code is what a call of it hands back.
-/
import Derived.Test.YtnpjjbolonbndaaSound13
import Derived.Deep.LoopGhost
namespace Go.Proofs.Ytnpjjbolonbndaa
namespace Abs
open Go.RowKit

section
variable {P : Program} {n : Nat} {w0 : World} {F0 : Nat → Nat}

theorem look_norm (e : Env) (i : Nat) : ∀ K, look (norm e K) i = look e i ∨ look (norm e K) i = .any
  | [] => .inr rfl
  | j :: K => by
    rw [norm, look]
    by_cases h : i = j
    · rw [if_pos h, h]; exact .inl rfl
    · rw [if_neg h]; exact look_norm e i K

theorem Sim.norm {g : G} {s : St} {a : Act} {w : World} (h : Sim n w0 F0 g s a w) (K : List Nat) : Sim n w0 F0 g ⟨Abs.norm s.env K, s.bx, s.fr⟩ a w :=
  have he : EnvOk w0.heap.size w g.F g.tok s.fr g.box (Abs.norm s.env K) a := fun i => by
    rcases look_norm s.env i K with h1 | h1
    · rw [h1]; exact h.env i
    · rw [h1]; exact .rep _ _ (.any _)
  { h with env := he }

theorem agrees_look {e : Env} : ∀ {t : Env} {i : Nat}, agrees e t → look t i = look e i ∧ (∃ x, (i, x) ∈ t ∧ look t i = x) ∨ look t i = .any
  | [], i, _ => .inr rfl
  | (j, x) :: t, i, h => by
    rw [look]
    by_cases hi : i = j
    · subst hi
      rw [if_pos rfl]
      exact .inl ⟨h.1.symm, x, by simp, rfl⟩
    · rw [if_neg hi]
      rcases agrees_look h.2 (i := i) with ⟨h1, y, h2, h3⟩ | h
      · exact .inl ⟨h1, y, by simp [h2], h3⟩
      · exact .inr h

/-- no address of a variable of the call's own, and no value under a guard -/
def isPtr (x : AV) : Bool := match x with | .bptr _ _ => true | .bsl _ _ => true | .cond _ _ => true | _ => false

theorem ptrsIn_mem {m : Nat} : ∀ {t : Env} {i : Nat} {x : AV}, ptrsIn m t → (i, x) ∈ t → (∀ j off, x = .bptr j off → j < m) ∧ (∀ j l, x = .bsl j l → j < m) ∧ (∀ g y, x = .cond g y → isPtr y = false)
  | (k, y) :: t, i, x, h, hm => by
    rcases List.mem_cons.1 hm with hm | hm
    · cases hm
      cases y with
      | bptr j off => exact ⟨(fun j' off' he => by cases he; exact h.1), (fun _ _ he => by cases he), (fun g y he => by cases he)⟩
      | bsl j off => exact ⟨(fun _ _ he => by cases he), (fun j' off' he => by cases he; exact h.1), (fun g y he => by cases he)⟩
      | cond g y =>
        refine ⟨(fun j' off' he => by cases he), (fun _ _ he => by cases he), fun g' y' he => ?_⟩
        cases he
        have h1 := h.1
        cases y <;> first | rfl | exact h1.elim
      | _ => exact ⟨(fun _ _ he => by cases he), (fun _ _ he => by cases he), (fun _ _ he => by cases he)⟩
    · have : ptrsIn m t := by
        cases y with
        | bptr | bsl | cond => exact h.2
        | _ => exact h
      exact ptrsIn_mem this hm

theorem RepT.plain {B : Nat} {w : World} {F : Nat → Nat} {tok : List (Option Nat)} {fr : Fr} {box : List Nat} {x : AV} {v : Value} (h : RepT B w F tok fr box x v) (h1 : isPtr x = false) : Rep B w F tok fr x v := by
  cases h with
  | rep _ _ h => exact h
  | bptr j off b h => cases h1
  | bsl j l b h => cases h1
  | cond g x v h hn => cases h1

theorem Sim.weak {g : G} {s t : St} {a : Act} {w : World} (h : Sim n w0 F0 g s a w) (hw : Weak s t) : Sim n w0 F0 { g with box := g.box.take t.bx.length } t a w := by
  have htl : t.bx.length ≤ s.bx.length := by have := congrArg List.length hw.bx; simp at this; omega
  have hget : ∀ (j b : Nat), (g.box.take t.bx.length)[j]? = some b → g.box[j]? = some b ∧ j < t.bx.length := fun j b hj => by
    rw [List.getElem?_take] at hj
    split at hj
    · exact ⟨hj, by assumption⟩
    · cases hj
  have hfr := hw.fr
  refine {
    defers := h.defers, size := h.size
    env := fun i => ?_
    below := h.below, old := h.old, out := h.out
    boxlen := by simp [h.boxlen]; omega
    boxin := fun j b hj => h.boxin j b (hget j b hj).1
    boxrep := fun j b x hj hx => ?_
    boxinj := fun i j b hi hj => h.boxinj i j b (hget i b hi).1 (hget j b hj).1
    toklen := by rw [← hfr]; exact h.toklen
    tokin := fun k b hk => ⟨(h.tokin k b hk).1, (h.tokin k b hk).2.1, fun hm => (h.tokin k b hk).2.2 (List.mem_of_mem_take hm)⟩
    tokinj := h.tokinj }
  · rw [← hfr]
    rcases agrees_look hw.env (i := i) with ⟨h1, x, h2, h3⟩ | h1
    · have hx := h.env i
      rw [← h1, h3] at hx
      rw [h3]
      obtain ⟨p1, p3, p2⟩ := ptrsIn_mem hw.ptrs h2
      generalize a.tmps.getD i undef = u at hx ⊢
      cases hx with
      | rep _ _ hr => exact .rep _ _ hr
      | bptr j off b hb => exact .bptr j off b (by rw [List.getElem?_take, if_pos (p1 j off rfl)]; exact hb)
      | bsl j l b hb => exact .bsl j l b (by rw [List.getElem?_take, if_pos (p3 j l rfl)]; exact hb)
      | cond gg y v hy hn => exact .cond gg y _ (fun hg => .rep _ _ ((hy hg).plain (p2 gg y rfl))) hn
    · rw [h1]; exact .rep _ _ (.any _)
  · rw [← hfr]
    obtain ⟨h1, h2⟩ := hget j b hj
    refine h.boxrep j b x h1 ?_
    rw [← hw.bx, List.getElem?_take, if_pos h2] at hx
    exact hx

theorem aCode_sound (K : List Nat) : ∀ (c : Code) (Q : Exit → St → Prop) (s : St), aCode (ARet P) K (cCode P n c) Q s → ∀ (g : G) (a : Act) (w : World), Sim n w0 F0 g s a w →
    c.wp P (fun e a' w' => ∃ g' s', Sim n w0 F0 g' s' a' w' ∧ Q e s') a w := by
  intro c
  induction c with
  | skip => intro Q s h g a w hs; exact wp_skip ⟨g, s, hs, h⟩
  | region id ops d =>
    intro Q s h g a w hs
    obtain ⟨e, b, f⟩ := s
    unfold cCode at h
    split at h
    · rename_i hh
      simp only [Bool.and_eq_true, Bool.or_eq_true, Bool.not_eq_true'] at hh
      obtain ⟨⟨hgd, hdst⟩, hdraw⟩ := hh
      cases d with
      | false => exact wp_region_list (aOps_sound hgd hdst (fun g' e' bx' f' a' w' S hk => ⟨g', _, S, hk⟩) ops.toList (fun _ h => h) g e b f a w hs h)
      | true =>
        obtain ⟨hlex, hfo⟩ := hdraw.resolve_left (by simp)
        refine wp_region_quiet (C := Below w.heap.size w) hfo hlex (Below.refl _ _).drew ?_
        exact aDraw_sound (g := g) (f := f) hgd hdst (fun e' a' S hk w' hw => ⟨g, _, S.world hw, hk⟩) ops.toList (fun _ h => h) e a hs h
    · exact h.no
  | seq x y ihx ihy =>
    intro Q s h g a w hs
    refine wp_seq (wp_mono (ihx _ s h g a w hs) ?_)
    rintro e a' w' ⟨g', s', S, hq⟩
    cases e with
    | normal => exact ihy Q s' hq g' a' w' S
    | _ => exact ⟨g', s', S, hq⟩
  | cond c x y ihx ihy =>
    intro Q s h g a w hs
    obtain ⟨e, bx, f⟩ := s
    obtain ⟨v, h1, hv⟩ := evG_sound hs.env h
    obtain ⟨b, rfl, h2⟩ := gBool_inv h1
    rw [forceEnv_eq, forceBx_eq] at h2
    obtain ⟨h3, h4⟩ := h2
    refine wp_cond hv.val_inv ?_
    cases b with
    | true => exact ihx Q _ (h3 rfl) g a w (hs.norm K)
    | false => exact ihy Q _ (h4 rfl) g a w (hs.norm K)
  | block id body ih =>
    intro Q s h g a w hs
    refine wp_block (wp_mono (ih _ s h g a w hs) ?_)
    rintro e a' w' ⟨g', s', S, hq⟩
    cases e with
    | exit id' =>
      simp only [blockK] at hq
      simp only [Exit.inBlock]
      split at hq
      · rename_i he; rw [if_pos he]; exact ⟨g', s', S, hq⟩
      · rename_i he; rw [if_neg he]; exact ⟨g', s', S, hq⟩
    | _ => exact ⟨g', s', S, hq⟩
  | loop body ih =>
    intro Q s h g a w hs
    obtain ⟨α, I, C, μ, ⟨x0, hc0, hw0⟩, hround⟩ := h
    refine wp_loop_ghost (fun m a w => ∃ x g, C x ∧ μ x = m ∧ Sim n w0 F0 g (I x) a w) (μ x0) ⟨x0, _, hc0, rfl, hs.weak hw0⟩ ?_
    rintro m a w ⟨x, g, hc, rfl, S⟩
    refine wp_mono (ih _ _ (hround x hc) g a w S) ?_
    rintro e a' w' ⟨g', s', S', hq⟩
    cases e with
    | normal =>
      obtain ⟨⟨x', hc', hw', hlt⟩⟩ := hq
      exact ⟨μ x', hlt, x', _, hc', rfl, S'.weak hw'⟩
    | _ => exact ⟨g', s', S', hq⟩
  | exit id => intro Q s h g a w hs; exact wp_exit ⟨g, s, hs, h⟩
  | ret => intro Q s h g a w hs; exact wp_ret ⟨g, s, hs, h⟩
  | _ => intro Q s h g a w hs; exact h.no

/-! functions -/

/-- where a result lies -/
inductive RRes where
  | tmp (t : Nat)
  | cell (t : Nat) (agg : Bool) (size : Nat)
  | other

def cRes (P : Program) : ResultVar → RRes
  | .tmp t => .tmp t
  | .cell t ty => if okTy P ty then .cell t (aggTy P ty) (P.cellsOf ty) else .other

def resOne (s : St) (r : RRes) (k : AV → Prop) : Prop :=
  match r with
  | .tmp t => unG true (look s.env t) k
  | .cell t ag sz => ptrCells s.bx (look s.env t) fun cs => takeAV ag sz cs k
  | .other => Stop

/-- a result holds no address of a variable of the call's own -/
def dataK (x : AV) (k : AV → Prop) : Prop := match isPtr x with | true => Stop | false => k x

def resAll (s : St) : List RRes → (List AV → Prop) → Prop
  | [], k => k []
  | r :: rs, k => resOne s r fun x => dataK x fun x => resAll s rs fun xs => k (x :: xs)

inductive Final (v r : AV) (f frs : Fr) : Prop | mk : v = r → f = frs → Final v r f frs

/-- a made slice that is handed back: what its cells hold is named by whoever proves it -/
inductive Freeze (b : List ABox) (j n : Nat) (k : List (List AV) → Prop) : Prop
  | mk (xs : List (List AV)) (cs : List AV) (sz : Nat) (h1 : b[j]? = some (.cells cs)) (h2 : cs = xs.flatten) (h3 : xs.length = n) (h4 : ∀ e ∈ xs, e.length = sz) (hk : k xs) : Freeze b j n k

def finish (x : AV) (s : St) (Φ : AV → Fr → Prop) : Prop :=
  match x with
  | .bsl j n => Freeze s.bx j n fun xs => Φ (.list none xs) s.fr
  | .bptr _ _ => Stop
  | .cond _ _ => Stop
  | x => Φ x s.fr

def doneG (rs : List RRes) (Φ : AV → Fr → Prop) (e : Exit) (s : St) : Prop :=
  match e with
  | .normal => (match rs with | [r] => resOne s r fun x => finish x s Φ | rs => resAll s rs fun xs => Φ (.tup xs) s.fr)
  | .ret => (match rs with | [r] => resOne s r fun x => finish x s Φ | rs => resAll s rs fun xs => Φ (.tup xs) s.fr)
  | _ => Stop
def doneK (rs : List RRes) (r : AV) (frs : Fr) : Exit → St → Prop := doneG rs fun v f => Final v r f frs
/-- what is handed back is plain: what the call has laid for itself does not matter -/
def doneS (rs : List RRes) (r : AV) : Exit → St → Prop := doneG rs fun v _ => Final v r [] []

def argEnv : Nat → List AV → Env
  | _, [] => []
  | i, x :: xs => (i, x) :: argEnv (i + 1) xs

theorem look_argEnv : ∀ (xs : List AV) (i j : Nat), look (argEnv i xs) j = if i ≤ j then (xs[j - i]?).getD .any else .any
  | [], i, j => by simp [argEnv, look]
  | x :: xs, i, j => by
    rw [argEnv, look, look_argEnv xs (i + 1) j]
    by_cases h : j = i
    · subst h; simp
    · rw [if_neg h]
      by_cases h2 : i + 1 ≤ j
      · rw [if_pos h2, if_pos (by omega), show j - i = (j - (i + 1)) + 1 by omega, List.getElem?_cons_succ]
      · rw [if_neg h2, if_neg (by omega)]

/-- what the function's end reads -/
def resRun (a : Act) (rv : ResultVar) : Sem Value := match rv with | .tmp t => pure (a.tmps.getD t undef) | .cell t ty => do loadVar ty (← asAddr (a.tmps.getD t undef))

theorem res_one {g : G} {s : St} {a : Act} {w : World} (hs : Sim n w0 F0 g s a w) {rv : ResultVar} {k : AV → Prop} (h : resOne s (cRes P rv) k) :
    ∃ x v, k x ∧ RepT w0.heap.size w g.F g.tok s.fr g.box x v ∧
      (resRun a rv).run P w = .ok v w := by
  cases rv with
  | tmp t =>
    obtain ⟨x, hk, hx⟩ := unG_sound h (hs.env t)
    exact ⟨x, _, hk, hx, rfl⟩
  | cell t ty =>
    by_cases hok : okTy P ty = true
    · rw [cRes, if_pos hok] at h
      replace h : ptrCells s.bx (look s.env t) fun cs => takeAV (aggTy P ty) (P.cellsOf ty) cs k := h
      obtain ⟨cs, b, off, vs, hk, hv, hc⟩ := ptr_rep hs.boxrep hs.boxlen h (hs.env t)
      simp only [okTy, Bool.and_eq_true, Option.isSome_iff_exists] at hok
      obtain ⟨⟨d, hd⟩, ⟨i, hi⟩⟩ := hok
      have hsz : P.cellsOf ty = i.size := by simp [Program.cellsOf, hi]
      unfold takeAV at hk
      split at hk
      · rename_i hag
        obtain ⟨hn, hk⟩ := hk
        obtain ⟨h1, h2⟩ := cells_agg P hn hc
        have h3 := h2 w (Below.refl _ _)
        refine ⟨_, _, hk, .rep _ _ h1, ?_⟩
        rw [hsz] at h3 ⊢
        unfold aggTy at hag
        rw [hd] at hag
        cases d <;> simp at hag <;> simp [resRun, hv, asAddr, loadVar, isAgg, run_underlying hd, Go.sizeOf, typeInfo, hi, h3]
      · rename_i hag
        split at hk
        · rename_i c cs'
          obtain ⟨h1, _, h3⟩ := hc 0 c (by simp)
          refine ⟨_, _, hk, .rep _ _ h3, ?_⟩
          have h4 : w.cell? ⟨b, off, none⟩ = some (vs 0) := by simpa using h1
          unfold aggTy at hag
          rw [hd] at hag
          cases d <;> simp at hag <;> simp [resRun, hv, asAddr, loadVar, isAgg, run_underlying hd, h4]
        · exact hk.no
    · rw [cRes, if_neg hok] at h
      exact Stop.no h

theorem data_inv {x : AV} {k : AV → Prop} (h : dataK x k) : k x ∧ isPtr x = false := by
  unfold dataK at h
  split at h
  · exact h.no
  · rename_i hp; exact ⟨h, hp⟩

theorem res_all {g : G} {s : St} {a : Act} {w : World} (hs : Sim n w0 F0 g s a w) : ∀ (rs : List ResultVar) {k : List AV → Prop}, resAll s (rs.map (cRes P)) k →
    ∃ xs vs, k xs ∧ Both (Rep w0.heap.size w g.F g.tok s.fr) xs vs ∧
      (rs.mapM (resRun a)).run P w = .ok vs w
  | [], k, h => ⟨[], [], h, ⟨rfl, by simp⟩, by simp⟩
  | r :: rs, k, h => by
    obtain ⟨x, v, hk, hx, hr⟩ := res_one (P := P) hs h
    obtain ⟨hk, h1⟩ := data_inv hk
    obtain ⟨xs, vs, hk, hb, hrs⟩ := res_all hs rs hk
    refine ⟨x :: xs, v :: vs, hk, Both.cons.2 ⟨hx.plain h1, hb⟩, ?_⟩
    simp only [List.mapM_cons, Sem.run_bind, Sem.run_pure, hr, Result.andThen_ok, hrs]

theorem mapM_len {a : Act} {w w' : World} : ∀ {rs : List ResultVar} {us : List Value}, (rs.mapM (resRun a)).run P w = .ok us w' → us.length = rs.length
  | [], us, h => by simp at h; rw [h.1]; rfl
  | r :: rs, us, h => by
    simp only [List.mapM_cons, Sem.run_bind] at h
    cases h1 : (resRun a r).run P w with
    | ok v w1 =>
      rw [h1, Result.andThen_ok] at h
      cases h2 : (rs.mapM (resRun a)).run P w1 with
      | ok vs w2 =>
        rw [h2, Result.andThen_ok, Sem.run_pure] at h
        have := mapM_len h2
        cases h
        simp [this]
      | _ => rw [h2] at h; cases h
    | _ => rw [h1] at h; cases h

/-- From a function's code to its calls. -/
theorem calls_of_code {fid : Nat} {fn : Func} {c : Code} {args : List AV} {Φ : AV → Fr → Prop} (hf : P.funcs[fid]? = some fn) (hb : fn.body = some c) (hn : args.length ≤ fn.ntmps) (K : List Nat)
    (h : aCode (ARet P) K (cCode P fn.ntmps c) (doneG (fn.results.toList.map (cRes P)) Φ) ⟨argEnv 0 args, [], []⟩)
    (w : World) (F : Nat → Nat) (vs : Array Value) (hout : ∀ b, w.heap.size ≤ b → F b = 0) (hargs : Both (Rep w.heap.size w F [] []) args vs.toList) :
    Calls P fid vs w fun e w' => ∃ (v : Value) (F' : Nat → Nat) (tok : List (Option Nat)) (r : AV) (frs : Fr), Φ r frs ∧ e = .returned v ∧ Below w.heap.size w w' ∧ (∀ b, b < w.heap.size → F' b = F b) ∧
      (∀ b, w'.heap.size ≤ b → F' b = 0) ∧ tok.length = frs.length ∧ (∀ (k b : Nat), tok[k]? = some (some b) → w.heap.size ≤ b ∧ b < w'.heap.size) ∧
      (∀ (k l b : Nat), tok[k]? = some (some b) → tok[l]? = some (some b) → k = l) ∧ Rep w.heap.size w' F' tok frs r v := by
  refine calls_of_wp hf hb ?_
  have hvs : vs.size = args.length := by have := hargs.1; simpa using this.symm
  have S : Sim fn.ntmps w F ⟨F, [], []⟩ ⟨argEnv 0 args, [], []⟩ { tmps := vs ++ Array.replicate (fn.ntmps - vs.size) undef, defers := [] } w := {
    defers := rfl
    size := by simp; omega
    env := fun i => by
      rw [look_argEnv, if_pos (Nat.zero_le _), Nat.sub_zero]
      cases hi : args[i]? with
      | none => exact .rep _ _ (.any _)
      | some x =>
        have hlt := getElem?_lt hi
        have hv : (vs ++ Array.replicate (fn.ntmps - vs.size) undef).getD i undef = vs[i]'(by omega) := by
          have h1 : i < vs.size := by omega
          have h2 : i < vs.size + (fn.ntmps - vs.size) := by omega
          simp [Array.getD, h1, h2]
        rw [hv]
        exact .rep _ _ (hargs.2 i x _ hi (by rw [Array.getElem?_toList]; simp [hvs, hlt]))
    below := Below.refl _ _
    old := fun _ _ => rfl
    out := hout
    boxlen := rfl
    boxin := by simp
    boxrep := by simp
    boxinj := by simp
    toklen := rfl
    tokin := by simp
    tokinj := by simp }
  refine wp_mono (aCode_sound (n := fn.ntmps) (w0 := w) (F0 := F) K c _ _ h _ _ _ S) ?_
  rintro e a' w' ⟨g', s', S', hq⟩
  have out : ∀ (us : List Value) (x : AV) (F' : Nat → Nat), (fn.results.toList.mapM (resRun a')).run P w' = .ok us w' → Φ x s'.fr → (∀ b, b < w.heap.size → F' b = F b) → (∀ b, w'.heap.size ≤ b → F' b = 0) →
      Rep w.heap.size w' F' g'.tok s'.fr x (if h : us.toArray.size = 1 then us.toArray[0] else .tuple us.toArray) →
      a'.defers = [] ∧ ∃ v, (results fn a'.tmps).run P w' = .ok v w' ∧
        ∃ (v' : Value) (F' : Nat → Nat) (tok : List (Option Nat)) (r : AV) (frs : Fr), Φ r frs ∧ Ending.returned v = .returned v' ∧ Below w.heap.size w w' ∧ (∀ b, b < w.heap.size → F' b = F b) ∧
          (∀ b, w'.heap.size ≤ b → F' b = 0) ∧ tok.length = frs.length ∧ (∀ (k b : Nat), tok[k]? = some (some b) → w.heap.size ≤ b ∧ b < w'.heap.size) ∧
          (∀ (k l b : Nat), tok[k]? = some (some b) → tok[l]? = some (some b) → k = l) ∧ Rep w.heap.size w' F' tok frs r v' := by
    intro us x F' hr hx ho1 ho2 hrep
    have hres : (results fn a'.tmps).run P w' = .ok (if h : us.toArray.size = 1 then us.toArray[0] else .tuple us.toArray) w' := by
      have e1 : results fn a'.tmps = (do let vs ← fn.results.mapM (resRun a'); pure (if h : vs.size = 1 then vs[0] else .tuple vs)) := by
        unfold results
        rfl
      rw [e1, Array.mapM_eq_mapM_toList]
      simp only [Sem.run_bind, Sem.run_map, hr, Result.andThen_ok, Sem.run_pure]
    exact ⟨S'.defers, _, hres, _, F', g'.tok, x, s'.fr, hx, rfl, S'.below, ho1, ho2, S'.toklen, fun k b hk => ⟨(S'.tokin k b hk).1, (S'.tokin k b hk).2.1⟩, S'.tokinj, hrep⟩
  have fin : (match fn.results.toList.map (cRes P) with | [r] => resOne s' r fun x => finish x s' Φ | rs => resAll s' rs fun xs => Φ (.tup xs) s'.fr) →
      a'.defers = [] ∧ ∃ v, (results fn a'.tmps).run P w' = .ok v w' ∧
        ∃ (v' : Value) (F' : Nat → Nat) (tok : List (Option Nat)) (r : AV) (frs : Fr), Φ r frs ∧ Ending.returned v = .returned v' ∧ Below w.heap.size w w' ∧ (∀ b, b < w.heap.size → F' b = F b) ∧
          (∀ b, w'.heap.size ≤ b → F' b = 0) ∧ tok.length = frs.length ∧ (∀ (k b : Nat), tok[k]? = some (some b) → w.heap.size ≤ b ∧ b < w'.heap.size) ∧
          (∀ (k l b : Nat), tok[k]? = some (some b) → tok[l]? = some (some b) → k = l) ∧ Rep w.heap.size w' F' tok frs r v' := by
    intro hq
    split at hq
    · rename_i r hrs
      obtain ⟨rv, hrv, rfl⟩ : ∃ rv, fn.results.toList = [rv] ∧ cRes P rv = r := by
        match h : fn.results.toList, hrs with
        | [rv], hrs => exact ⟨rv, rfl, by simpa [h] using hrs⟩
      obtain ⟨x, v, hk, hx, hr⟩ := res_one (P := P) S' hq
      have hm : (fn.results.toList.mapM (resRun a')).run P w' = .ok [v] w' := by
        rw [hrv]; simp only [List.mapM_cons, List.mapM_nil, Sem.run_bind, Sem.run_pure, hr, Result.andThen_ok]
      unfold finish at hk
      split at hk
      · rename_i j m
        obtain ⟨b, hb, hv⟩ := hx.bsl_inv
        obtain ⟨xs, cs, sz, h1, h2, h3, h4, hk⟩ := hk
        obtain ⟨c, t, hh, hs, hc⟩ := S'.boxrep j b _ hb h1
        have hbin := S'.boxin j b hb
        subst h3
        have L : Later w' g'.F g'.tok s'.fr w' (setF g'.F b (xs.length * sz)) g'.tok s'.fr := by
          refine ⟨fun _ _ _ => rfl, fun b' => ?_, fun k t' s'' m' hk => ⟨m', hk, Nat.le_refl _, fun _ => ⟨rfl, fun b' hb' => ⟨rfl, ?_⟩⟩⟩⟩
          · by_cases hbb : b' = b
            · subst hbb; rw [hbin.2.2]; exact Nat.zero_le _
            · simp [setF, hbb]
          · have : b' ≠ b := fun h => (S'.tokin k b' hb').2.2 (h ▸ List.mem_of_getElem? hb)
            simp [setF, this]
        refine out [v] _ (setF g'.F b (xs.length * sz)) hm hk (fun b' hb' => ?_) (fun b' hb' => ?_) ?_
        · have : b' ≠ b := by omega
          simp only [setF, this, if_false]; exact S'.old b' hb'
        · have : b' ≠ b := by omega
          simp only [setF, this, if_false]; exact S'.out b' hb'
        · have e1 : (if h : [v].toArray.size = 1 then [v].toArray[0] else .tuple [v].toArray) = v := rfl
          rw [e1, hv]
          subst h2
          have hget : ∀ (i j : Nat) (el : List AV) (x : AV), xs[i]? = some el → el[j]? = some x → w'.cell? ⟨b, 0 + i * sz + j, none⟩ = some (c.getD (i * sz + j) undef) ∧ (c.getD (i * sz + j) undef).oneCell' = true ∧
              Rep w.heap.size w' g'.F g'.tok s'.fr x (c.getD (i * sz + j) undef) := by
            intro i j el x hi hj
            have hf := flatten_get sz xs i j el x h4 hi hj
            have hlt : i * sz + j < c.size := by have := getElem?_lt hf; omega
            refine ⟨?_, (hc _ x hf).2, (hc _ x hf).1⟩
            rw [Nat.zero_add]
            simp [World.cell?, hh, hlt, Array.getD]
          exact .list none xs _ _ sz b 0 (fun i j => c.getD (i * sz + j) undef) (Nat.le_refl _) (fun _ => rfl) h4 (fun _ => by simp [setF]) (fun i el j x hi hj => ⟨(hget i j el x hi hj).1, (hget i j el x hi hj).2.1⟩)
            (fun i el j x hi hj => (hget i j el x hi hj).2.2.later L) (fun k hk => by cases hk)
      · exact hk.no
      · exact hk.no
      · rename_i h1 h2 h3
        have hp : isPtr x = false := by
          cases x <;> first | rfl | exact absurd rfl (h1 _ _) | exact absurd rfl (h2 _ _) | exact absurd rfl (h3 _ _)
        exact out [v] x g'.F hm hk S'.old S'.out (hx.plain hp)
    · rename_i hne
      obtain ⟨xs, us, hk, hb', hr⟩ := res_all (P := P) S' fn.results.toList hq
      refine out us _ g'.F hr hk S'.old S'.out ?_
      have hl := hb'.1
      have h1 : ¬ us.toArray.size = 1 := fun h => by
        have h2 : us.length = 1 := by simpa using h
        have h3 := mapM_len hr
        match hfr : fn.results.toList, h3 with
        | [rv], _ => exact hne (cRes P rv) (by rw [hfr]; rfl)
        | [], h3 => rw [h2] at h3; cases h3
        | _ :: _ :: _, h3 => rw [h2] at h3; simp at h3
      rw [dif_neg h1]
      refine .tup _ _ (by simpa using hl) (fun i c hc => ?_)
      have hi := getElem?_lt hc
      have hi' : i < us.length := by omega
      have e1 : us.toArray.getD i undef = us[i] := by simp [Array.getD, hi']
      rw [e1]
      exact hb'.2 i c _ hc (List.getElem?_eq_getElem hi')
  cases e with
  | normal => exact fin hq
  | ret => exact fin hq
  | _ => exact hq.no

theorem ARet.of_code {fid : Nat} {fn : Func} {c : Code} {args : List AV} {r : AV} {frs : Fr} (hf : P.funcs[fid]? = some fn) (hb : fn.body = some c) (hn : args.length ≤ fn.ntmps) (K : List Nat)
    (h : aCode (ARet P) K (cCode P fn.ntmps c) (doneK (fn.results.toList.map (cRes P)) r frs) ⟨argEnv 0 args, [], []⟩) : ARet P fid args r frs := by
  intro w F vs hout hargs
  refine (calls_of_code (Φ := fun x f => Final x r f frs) hf hb hn K h w F vs hout hargs).mono ?_
  rintro e w' ⟨v, F', tok, r', frs', ⟨rfl, rfl⟩, h1⟩
  exact ⟨v, F', tok, h1⟩

def isScalR (r : AV) : Bool := match r with | .tup vs => vs.all isScal | r => isScal r

theorem rep_scalR {r : AV} (hr : isScalR r = true) {B : Nat} {w : World} {F : Nat → Nat} {tok : List (Option Nat)} {fr : Fr} {v : Value} (h : Rep B w F tok fr r v) : Rep B w F [] [] r v := by
  cases h with
  | tup vs us hl hq =>
    refine .tup _ _ hl fun i c hc => ?_
    have hs : isScal c = true := List.all_eq_true.1 hr c (List.mem_of_getElem? hc)
    rw [scal_uniq hs (hq i c hc)]
    exact scal_rep hs
  | val v => exact .val v
  | str s => exact .str s
  | _ => cases hr

theorem ARet.of_code_scal {fid : Nat} {fn : Func} {c : Code} {args : List AV} {r : AV} (hr : isScalR r = true) (hf : P.funcs[fid]? = some fn) (hb : fn.body = some c) (hn : args.length ≤ fn.ntmps) (K : List Nat)
    (h : aCode (ARet P) K (cCode P fn.ntmps c) (doneS (fn.results.toList.map (cRes P)) r) ⟨argEnv 0 args, [], []⟩) : ARet P fid args r [] := by
  intro w F vs hout hargs
  refine (calls_of_code (Φ := fun x _ => Final x r [] []) hf hb hn K h w F vs hout hargs).mono ?_
  rintro e w' ⟨v, F', tok, r', frs', ⟨rfl, _⟩, rfl, h1, h2, h3, _, _, _, h7⟩
  exact ⟨v, F', [], rfl, h1, h2, h3, rfl, by simp, by simp, rep_scalR hr h7⟩
end
end Abs
end Go.Proofs.Ytnpjjbolonbndaa
