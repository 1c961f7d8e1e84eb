/-
  What a call hands back in slices of its own, as a tree.
  Short words for the evaluator's form of code; what is known of functions, closed.
  Lists of strings, numbers and the like as slices; small laws for what the evaluator leaves.
  Types of data: how a value's cells are trees, tokens and frames; texts, numbers, lists of texts, lists of structs, fields one after the other.
-/
import Derived.Test.YtkbblglbbfdnpaaK4
import Derived.ProofKit
namespace Go.Proofs.Ytkbblglbbfdnpaa
namespace Abs
variable {mo : Bool}
open Go.RowKit

/-- members of a result, in slices of the call's own (whose tokens are named), and the trees that they are -/
inductive OwnA (fr : Fr) : List Tr → List AV → List Nat → Prop
  | nil : OwnA fr [] [] []
  | v (x : Value) (hp : plainV x = true) {xs : List Tr} {cs : List AV} {ts : List Nat} (h : OwnA fr xs cs ts) : OwnA fr (.v x :: xs) (.val x :: cs) ts
  | s (x : Str) {xs : List Tr} {cs : List AV} {ts : List Nat} (h : OwnA fr xs cs ts) : OwnA fr (.s x :: xs) (.str x :: cs) ts
  | nils (t sz : Nat) {xs : List Tr} {cs : List AV} {ts : List Nat} (h : OwnA fr xs cs ts) : OwnA fr (.l t sz [] :: xs) (.val (.slice none 0 0) :: cs) ts
  | l (t sz : Nat) (es : List (List Tr)) (k : Nat) (ys : List (List AV)) (hk : fr[k]? = some (t, sz, es.length)) (hl : ys.length = es.length) (hs : ∀ e ∈ es, e.length = sz) (hy : ∀ y ∈ ys, y.length = sz)
      {d1 : List Nat} (he : OwnA fr es.flatten ys.flatten d1) {xs : List Tr} {cs : List AV} {ts : List Nat} (h : OwnA fr xs cs ts) : OwnA fr (.l t sz es :: xs) (.list (some k) ys :: cs) (k :: d1 ++ ts)
  | a (fs : List Tr) (us : List AV) {d1 : List Nat} (he : OwnA fr fs us d1) {xs : List Tr} {cs : List AV} {ts : List Nat} (h : OwnA fr xs cs ts) : OwnA fr (.a fs :: xs) (.agg us :: cs) (d1 ++ ts)
  | av (fs : List Tr) (us : Array Value) (h1 : us.toList.all (·.oneCell') = true) {d1 : List Nat} (he : OwnA fr fs (us.toList.map constAV) d1) {xs : List Tr} {cs : List AV} {ts : List Nat} (h : OwnA fr xs cs ts) :
      OwnA fr (.a fs :: xs) (.val (.agg us) :: cs) (d1 ++ ts)
  | p (fs : List Tr) (us : List AV) {d1 : List Nat} (he : OwnA fr fs us d1) {xs : List Tr} {cs : List AV} {ts : List Nat} (h : OwnA fr xs cs ts) : OwnA fr (.p fs :: xs) (.tup us :: cs) (d1 ++ ts)

theorem OwnA.own {B : Nat} {w : World} {F : Nat → Nat} {tok : List (Option Nat)} {fr : Fr} {xs : List Tr} {cs : List AV} {ts : List Nat} (h : OwnA fr xs cs ts) :
    ∀ {vs : List Value} {box : List BId}, Both (Rep B w F tok fr box) cs vs → OwnL w xs vs (ts.filterMap fun k => (tok[k]?).join) := by
  induction h with
  | nil =>
    intro vs box hb
    have : vs = [] := List.eq_nil_of_length_eq_zero (by have := hb.1; simpa using this.symm)
    subst this; exact .nil
  | v x hp _ ih =>
    intro vs box hb
    cases vs with
    | nil => simp [Both] at hb
    | cons v vs =>
      obtain ⟨b1, b2⟩ := Both.cons.1 hb
      rw [b1.val_inv]; exact .v x hp (ih b2)
  | s x _ ih =>
    intro vs box hb
    cases vs with
    | nil => simp [Both] at hb
    | cons v vs =>
      obtain ⟨b1, b2⟩ := Both.cons.1 hb
      cases b1; exact .s x (ih b2)
  | nils t sz _ ih =>
    intro vs box hb
    cases vs with
    | nil => simp [Both] at hb
    | cons v vs =>
      obtain ⟨b1, b2⟩ := Both.cons.1 hb
      rw [b1.val_inv]; exact .none t sz (ih b2)
  | l t sz es k ys hk hl hs hy he _ ih1 ih2 =>
    intro vs box hb
    cases vs with
    | nil => simp [Both] at hb
    | cons v vs =>
      obtain ⟨b1, b2⟩ := Both.cons.1 hb
      cases b1 with
      | list _ _ a cap sz' b off us hcap ha hsz hF hc hr ho =>
        obtain ⟨t', s', n', hfr, hle, hown⟩ := ho k rfl
        rw [hk] at hfr; cases hfr
        obtain ⟨rfl, ⟨vals, hv⟩, htok, _⟩ := hown hl
        rw [hl] at hv
        rcases hv.2 with ⟨hn, hz⟩ | ⟨g, cap', cur, hn, hBg, hg, hncap, hcm, hcs, htake⟩
        · have he0 : es = [] := List.eq_nil_of_length_eq_zero hz
          subst he0
          simp only [Value.slice.injEq] at hn
          obtain ⟨rfl, _, rfl⟩ := hn
          have hys : ys = [] := List.eq_nil_of_length_eq_zero (by simpa using hl)
          subst hys
          have hd : (tok[k]?).join = none := by rw [htok]; rfl
          cases he
          simp only [List.cons_append, List.nil_append, List.filterMap_cons, hd, List.length_nil]
          exact .none t _ (ih2 b2)
        · simp only [Value.slice.injEq] at hn
          obtain ⟨rfl, _, rfl⟩ := hn
          have hd : (tok[k]?).join = some g := by rw [htok]; rfl
          have hcell : ∀ q, w.cell? ⟨g, q, none⟩ = cur[q]? := fun q => cell_of_row w g q cur t (0, 0) hg
          -- the row's values, one by one
          have hvl : vals.length = es.length * sz := hv.1
          have hfl : ys.flatten.length = es.length * sz := by rw [length_flatten' sz ys hsz, hl]
          have hboth : Both (Rep B w F tok fr []) ys.flatten vals := by
            refine ⟨by rw [hfl, hvl], fun q x u hx hu => ?_⟩
            have hq := getElem?_lt hx
            rw [hfl] at hq
            have hpos : 0 < sz := by
              rcases Nat.eq_zero_or_pos sz with h | h
              · rw [h] at hq; simp at hq
              · exact h
            have h1 : q % sz < sz := Nat.mod_lt _ hpos
            have h2 : q / sz < ys.length := by rw [hl]; exact (Nat.div_lt_iff_lt_mul hpos).2 hq
            have h3 : q = q / sz * sz + q % sz := by rw [Nat.mul_comm]; exact (Nat.div_add_mod _ _).symm
            have hyl : (ys[q / sz]'h2).length = sz := hsz _ (List.getElem_mem h2)
            have hg1 : ys[q / sz]? = some (ys[q / sz]'h2) := List.getElem?_eq_getElem h2
            have hg2 : (ys[q / sz]'h2)[q % sz]? = some ((ys[q / sz]'h2)[q % sz]'(by omega)) := List.getElem?_eq_getElem (by omega)
            have hf := flatten_get sz ys (q / sz) (q % sz) _ _ hsz hg1 hg2
            rw [← h3, hx] at hf
            cases hf
            have hne : ys ≠ [] := by intro h; rw [h] at h2; simp at h2
            have hab := ha hne
            simp only [Option.some.injEq, Addr.mk.injEq] at hab
            obtain ⟨rfl, rfl, _⟩ := hab
            obtain ⟨c1, c2⟩ := hc _ _ _ _ hg1 hg2
            rw [Nat.zero_add, ← h3, hcell] at c1
            have c3 : vals[q]? = cur[q]? := by rw [← htake, List.getElem?_take, if_pos hq]; simp
            rw [hu, c1] at c3
            cases c3
            exact hr _ _ _ _ hg1 hg2
          have hone : ∀ u ∈ vals, u.oneCell' = true := fun u hu => by
            obtain ⟨q, hq⟩ := List.getElem?_of_mem hu
            have hql := getElem?_lt hq
            rw [hvl] at hql
            have hpos : 0 < sz := by
              rcases Nat.eq_zero_or_pos sz with h | h
              · rw [h] at hql; simp at hql
              · exact h
            have h1 : q % sz < sz := Nat.mod_lt _ hpos
            have h2 : q / sz < ys.length := by rw [hl]; exact (Nat.div_lt_iff_lt_mul hpos).2 hql
            have h3 : q = q / sz * sz + q % sz := by rw [Nat.mul_comm]; exact (Nat.div_add_mod _ _).symm
            have hyl : (ys[q / sz]'h2).length = sz := hsz _ (List.getElem_mem h2)
            have hg1 : ys[q / sz]? = some (ys[q / sz]'h2) := List.getElem?_eq_getElem h2
            have hg2 : (ys[q / sz]'h2)[q % sz]? = some ((ys[q / sz]'h2)[q % sz]'(by omega)) := List.getElem?_eq_getElem (by omega)
            have hne : ys ≠ [] := by intro h; rw [h] at h2; simp at h2
            have hab := ha hne
            simp only [Option.some.injEq, Addr.mk.injEq] at hab
            obtain ⟨rfl, rfl, _⟩ := hab
            obtain ⟨c1, c2⟩ := hc _ _ _ _ hg1 hg2
            rw [Nat.zero_add, ← h3, hcell] at c1
            have c3 : vals[q]? = cur[q]? := by rw [← htake, List.getElem?_take, if_pos hql]; simp
            rw [hq, c1] at c3
            cases c3
            exact c2
          simp only [List.cons_append, List.filterMap_cons, hd, List.filterMap_append, hl]
          exact .l t _ es g cap cur vals hg hcs hncap hcm hs htake hone (ih1 hboth) (ih2 b2)
  | a fs us _ _ ih1 ih2 =>
    intro vs box hb
    cases vs with
    | nil => simp [Both] at hb
    | cons v vs =>
      obtain ⟨b1, b2⟩ := Both.cons.1 hb
      cases b1 with
      | agg _ ws hl h1 hr =>
        rw [List.filterMap_append]
        have hg : ∀ i u, ws.toList[i]? = some u → u = ws.getD i undef ∧ i < ws.size := fun i u hu => by
          have hu' : ws[i]? = some u := by simpa using hu
          have hi := (Array.getElem?_eq_some_iff.1 hu').1
          exact ⟨by simp [Array.getD, hi, (Array.getElem?_eq_some_iff.1 hu').2], hi⟩
        refine .a fs ws (fun u hu => ?_) (ih1 (box := box) ⟨by simpa using hl, fun i x u hx hu => ?_⟩) (ih2 b2)
        · obtain ⟨i, hi⟩ := List.getElem?_of_mem hu
          obtain ⟨e1, e2⟩ := hg i u hi
          rw [e1]; exact h1 i e2
        · rw [(hg i u hu).1]; exact hr i x hx
  | av fs us h1 _ _ ih1 ih2 =>
    intro vs box hb
    cases vs with
    | nil => simp [Both] at hb
    | cons v vs =>
      obtain ⟨b1, b2⟩ := Both.cons.1 hb
      rw [b1.val_inv, List.filterMap_append]
      refine .a fs us (fun u hu => List.all_eq_true.1 h1 u hu) (ih1 (box := box) ⟨by simp, fun i x u hx hu => ?_⟩) (ih2 b2)
      rw [List.getElem?_map, hu] at hx
      cases hx
      exact constAV_rep u
  | p fs us _ _ ih1 ih2 =>
    intro vs box hb
    cases vs with
    | nil => simp [Both] at hb
    | cons v vs =>
      obtain ⟨b1, b2⟩ := Both.cons.1 hb
      cases b1 with
      | tup _ ws hl hr =>
        rw [List.filterMap_append]
        refine .p fs ws (ih1 (box := box) ⟨by simpa using hl, fun i x u hx hu => ?_⟩) (ih2 b2)
        have hu' : ws[i]? = some u := by simpa using hu
        have hi := (Array.getElem?_eq_some_iff.1 hu').1
        have e1 : u = ws.getD i undef := by simp [Array.getD, hi, (Array.getElem?_eq_some_iff.1 hu').2]
        rw [e1]; exact hr i x hx

theorem ARet.own {P : Program} {f : Nat} {args : List AV} {r : AV} {frs : Fr} (h : ARet mo P f args r frs) {x : Tr} {ts : List Nat} (ho : OwnA frs [x] [r] ts) (hn : ts.Nodup) : ORet mo P f args x := by
  refine ⟨h.1, fun w F vs hcond hout hargs => (h.2 w F vs hcond hout hargs).mono ?_⟩
  rintro e w' ⟨v, F', tok, box, rfl, hb, _, _, htl, htin, htinj, hrep⟩
  have hget : ∀ d, d ∈ ts.filterMap (fun k => (tok[k]?).join) → ∃ k ∈ ts, tok[k]? = some (some d) := fun d hd => by
    obtain ⟨k, hk, he⟩ := List.mem_filterMap.1 hd
    cases h : tok[k]? with
    | none => rw [h] at he; cases he
    | some o => rw [h] at he; cases o with
      | none => cases he
      | some b => cases he; exact ⟨k, hk, h⟩
  refine ⟨v, ts.filterMap fun k => (tok[k]?).join, rfl, hb, ho.own (F := F') (box := box) (Both.cons.2 ⟨hrep, rfl, by simp⟩), ?_, fun d hd => ?_⟩
  · clear hrep ho
    induction ts with
    | nil => simp
    | cons k ts ih =>
      obtain ⟨n1, n2⟩ := List.nodup_cons.1 hn
      have hget' : ∀ d, d ∈ ts.filterMap (fun k => (tok[k]?).join) → ∃ k ∈ ts, tok[k]? = some (some d) := fun d hd => by
        obtain ⟨k, hk, he⟩ := List.mem_filterMap.1 hd
        cases h : tok[k]? with
        | none => rw [h] at he; cases he
        | some o => rw [h] at he; cases o with
          | none => cases he
          | some b => cases he; exact ⟨k, hk, h⟩
      rw [List.filterMap_cons]
      split
      · exact ih n2 hget'
      · rename_i b hb'
        refine List.nodup_cons.2 ⟨fun hm => ?_, ih n2 hget'⟩
        obtain ⟨k', hk', he'⟩ := hget' b hm
        have he : tok[k]? = some (some b) := by
          cases h : tok[k]? with
          | none => rw [h] at hb'; cases hb'
          | some o => rw [h] at hb'; cases o with
            | none => cases hb'
            | some b => cases hb'; rfl
        exact n1 (htinj k k' b he he' ▸ hk')
  · obtain ⟨k, _, hk⟩ := hget d hd
    exact htin k d hk
end Abs
end Go.Proofs.Ytkbblglbbfdnpaa
namespace Go.Proofs.Ytkbblglbbfdnpaa
namespace Abs
variable {mo : Bool}
def t (n : Nat) : Operand := .tmp n
def s (d : Nat) (op : AOp) : AO := ⟨some d, none, op⟩
def g (j : Nat) (want : Bool) (d : Nat) (op : AOp) : AO := ⟨some d, some (j, want), op⟩

/-- 'ARet', 'ORet', 'TRet', 'GRet', closed -/
@[irreducible] def Ret (mo : Bool) (P : Program) (f : Nat) (args : List AV) (r : AV) (frs : Fr) : Prop := ARet mo P f args r frs
@[irreducible] def Own (mo : Bool) (P : Program) (f : Nat) (args : List AV) (x : Tr) : Prop := ORet mo P f args x
@[irreducible] def Turn (mo : Bool) (P : Program) (f : Nat) (b0 : List ABox) (args : List AV) (r : AV) (b1 : List ABox) : Prop := TRet mo P f b0 args r b1
@[irreducible] def Ctx (mo : Bool) (P : Program) (f : Nat) (b0 : List ABox) (args : List AV) (Φ : AV → List ABox → Prop) : Prop := GRet mo P f b0 args Φ
@[irreducible] def Lent (mo : Bool) (P : Program) (f : Nat) (b0 : List ABox) (args : List AV) (Φ : AV → List ABox → Fr → Prop) : Prop := LRet mo P f b0 args Φ
@[irreducible] def Ins (mo : Bool) (P : Program) (f : Nat) (b0 : List ABox) (f0 : Fr) (args : List AV) (Φ : AV → List ABox → Fr → Prop) : Prop := IRet mo P f b0 f0 args Φ
def Kn (mo : Bool) (P : Program) : Con := ⟨Ret mo P, Own mo P, Turn mo P, Ctx mo P, Lent mo P, Ins mo P⟩
theorem Ret_eq : Ret = ARet := by funext mo P f args r frs; unfold Ret; rfl
theorem Own_eq : Own = ORet := by funext mo P f args x; unfold Own; rfl
theorem Turn_eq : Turn = TRet := by funext mo P f b0 args r b1; unfold Turn; rfl
theorem Ctx_eq : Ctx = GRet := by funext mo P f b0 args Φ; unfold Ctx; rfl
theorem Lent_eq : Lent = LRet := by funext mo P f b0 args Φ; unfold Lent; rfl
theorem Ins_eq : Ins = IRet := by funext mo P f b0 f0 args Φ; unfold Ins; rfl
theorem Kn_eq (P : Program) : Kn mo P = ACon mo P := by unfold Kn ACon; rw [Ret_eq, Own_eq, Turn_eq, Ctx_eq, Lent_eq, Ins_eq]
theorem Bel.weak {B : Nat} {w w' : World} (h : Bel true B w w') : Bel mo B w w' := ⟨h.toBelow, fun _ => h.drawn rfl⟩
theorem Keep.weak {box0 : List BId} {w w' : World} (h : Keep true box0 w w') : Keep mo box0 w w' := ⟨fun _ => h.drawn rfl, h.os, h.tape, h.output, h.size, h.block⟩
theorem Ret.weak {P : Program} {f : Nat} {args : List AV} {r : AV} {frs : Fr} (h : Ret true P f args r frs) : Ret mo P f args r frs := by
  rw [Ret_eq] at h ⊢
  refine ⟨h.1, fun w F vs h0 h1 h2 => (h.2 w F vs h0 h1 h2).mono ?_⟩
  rintro e w' ⟨v, F', tok, box, h3, h4, h5⟩
  exact ⟨v, F', tok, box, h3, h4.weak, h5⟩
theorem Own.weak {P : Program} {f : Nat} {args : List AV} {x : Tr} (h : Own true P f args x) : Own mo P f args x := by
  rw [Own_eq] at h ⊢
  refine ⟨h.1, fun w F vs h0 h1 h2 => (h.2 w F vs h0 h1 h2).mono ?_⟩
  rintro e w' ⟨v, ds, h3, h4, h5⟩
  exact ⟨v, ds, h3, h4.weak, h5⟩
theorem Turn.weak {P : Program} {f : Nat} {b0 b1 : List ABox} {args : List AV} {r : AV} (h : Turn true P f b0 args r b1) : Turn mo P f b0 args r b1 := by
  rw [Turn_eq] at h ⊢
  refine ⟨h.1, fun w F vs box0 h0 h1 h2 h3 h4 h5 h6 => (h.2 w F vs box0 h0 h1 h2 h3 h4 h5 h6).mono ?_⟩
  rintro e w' ⟨v, F', h7, h8, h9⟩
  exact ⟨v, F', h7, h8.weak, h9⟩

theorem okFn_of {P : Program} {fid : Nat} {fn : Func} (hf : P.funcs[fid]? = some fn) (hb : fn.body.isSome = true) (hm : (fn.name == "runtime.NumGoroutine") = false) : okFn P fid = true := by
  unfold okFn; rw [hf]; simp only [hb, hm]; rfl

theorem Ret.of_ir {P : Program} {fid : Nat} {fn : Func} {code : ACode} {rs : List RRes} {K : List Nat} {args : List AV} {r : AV} {frs : Fr} (hf : P.funcs[fid]? = some fn) (hb : fn.body.isSome = true) (hm : (fn.name == "runtime.NumGoroutine") = false)
    (hn : args.length ≤ fn.ntmps) (hc : cCode P fn.ntmps (fn.body.getD .skip) = code) (hr : fn.results.toList.map (cRes P) = rs)
    (h : aCode (Kn mo P) K 0 code (doneK rs r frs) ⟨argEnv 0 args, [], []⟩) : Ret mo P fid args r frs := by
  rw [Kn_eq] at h; rw [Ret_eq]
  obtain ⟨c, hc'⟩ := Option.isSome_iff_exists.1 hb
  refine ARet.of_code (okFn_of hf hb hm) hf hc' hn K ?_
  rw [hc', Option.getD_some] at hc
  rw [hc, hr]; exact h

theorem Ret.of_irS {P : Program} {fid : Nat} {fn : Func} {code : ACode} {rs : List RRes} {K : List Nat} {args : List AV} {r : AV} (hr : isScalR r = true) (hf : P.funcs[fid]? = some fn) (hb : fn.body.isSome = true) (hm : (fn.name == "runtime.NumGoroutine") = false)
    (hn : args.length ≤ fn.ntmps) (hc : cCode P fn.ntmps (fn.body.getD .skip) = code) (hrs : fn.results.toList.map (cRes P) = rs)
    (h : aCode (Kn mo P) K 0 code (doneS rs r) ⟨argEnv 0 args, [], []⟩) : Ret mo P fid args r [] := by
  rw [Kn_eq] at h; rw [Ret_eq]
  obtain ⟨c, hc'⟩ := Option.isSome_iff_exists.1 hb
  refine ARet.of_code_scal hr (okFn_of hf hb hm) hf hc' hn K ?_
  rw [hc', Option.getD_some] at hc
  rw [hc, hrs]; exact h

theorem Turn.of_ir {P : Program} {fid : Nat} {fn : Func} {code : ACode} {rs : List RRes} {K : List Nat} {b0 : List ABox} {x' : Tr} {args : List AV} {r : AV} (hr : isScalR r = true) (hf : P.funcs[fid]? = some fn) (hb : fn.body.isSome = true) (hm : (fn.name == "runtime.NumGoroutine") = false)
    (hn : args.length ≤ fn.ntmps) (hc : cCode P fn.ntmps (fn.body.getD .skip) = code) (hrs : fn.results.toList.map (cRes P) = rs) (hx : nb x' = b0.length)
    (h : aCode (Kn mo P) K b0.length code (doneT rs b0.length r (gb x' 0)) ⟨argEnv 0 args, b0, []⟩) : Turn mo P fid b0 args r (gb x' 0) := by
  rw [Kn_eq] at h; rw [Turn_eq]
  obtain ⟨c, hc'⟩ := Option.isSome_iff_exists.1 hb
  refine TRet.of_code hr (okFn_of hf hb hm) hf hc' hn K hx ?_
  rw [hc', Option.getD_some] at hc
  rw [hc, hrs]; exact h

theorem Lent.of_ir {P : Program} {fid : Nat} {fn : Func} {code : ACode} {rs : List RRes} {K : List Nat} {b0 : List ABox} {args : List AV} {Φ : AV → List ABox → Fr → Prop} (hd : noDead b0 = true) (hf : P.funcs[fid]? = some fn) (hb : fn.body.isSome = true) (hm : (fn.name == "runtime.NumGoroutine") = false)
    (hn : args.length ≤ fn.ntmps) (hc : cCode P fn.ntmps (fn.body.getD .skip) = code) (hrs : fn.results.toList.map (cRes P) = rs)
    (h : aCode (Kn mo P) K b0.length code (doneL rs Φ) ⟨argEnv 0 args, b0, []⟩) : Lent mo P fid b0 args Φ := by
  rw [Kn_eq] at h; rw [Lent_eq]
  obtain ⟨c, hc'⟩ := Option.isSome_iff_exists.1 hb
  refine LRet.of_code hd (okFn_of hf hb hm) hf hc' hn K ?_
  rw [hc', Option.getD_some] at hc
  rw [hc, hrs]; exact h

theorem Ins.of_ir {P : Program} {fid : Nat} {fn : Func} {code : ACode} {rs : List RRes} {K : List Nat} {b0 : List ABox} {f0 : Fr} {args : List AV} {Φ : AV → List ABox → Fr → Prop} (hf : P.funcs[fid]? = some fn) (hb : fn.body.isSome = true) (hm : (fn.name == "runtime.NumGoroutine") = false)
    (hn : args.length ≤ fn.ntmps) (hc : cCode P fn.ntmps (fn.body.getD .skip) = code) (hrs : fn.results.toList.map (cRes P) = rs)
    (h : aCode (Kn mo P) K b0.length code (doneI rs Φ) ⟨argEnv 0 args, b0, f0⟩) : Ins mo P fid b0 f0 args Φ := by
  rw [Kn_eq] at h; rw [Ins_eq]
  obtain ⟨c, hc'⟩ := Option.isSome_iff_exists.1 hb
  refine IRet.of_code (okFn_of hf hb hm) hf hc' hn K ?_
  rw [hc', Option.getD_some] at hc
  rw [hc, hrs]; exact h

theorem Ret.own {P : Program} {f : Nat} {args : List AV} {r : AV} {frs : Fr} (h : Ret mo P f args r frs) {x : Tr} (ts : List Nat) (ho : OwnA frs [x] [r] ts) (hn : ts.Nodup) : Own mo P f args x := by
  rw [Ret_eq] at h; rw [Own_eq]; exact ARet.own h ho hn
end Abs
end Go.Proofs.Ytkbblglbbfdnpaa
namespace Go.Proofs.Ytkbblglbbfdnpaa
namespace Abs

mutual
theorem mapT_old : ∀ (f : Nat → Option Nat) (x : Tr), mapT f (old x) = old x
  | _, .v _ => rfl
  | _, .s _ => rfl
  | f, .l _ _ xs => by rw [old, mapT, mapTLL_old f xs]; rfl
  | f, .a fs => by rw [old, mapT, mapTL_old f fs]
  | f, .p fs => by rw [old, mapT, mapTL_old f fs]
theorem mapTL_old : ∀ (f : Nat → Option Nat) (xs : List Tr), mapTL f (oldL xs) = oldL xs
  | _, [] => rfl
  | f, x :: xs => by rw [oldL, mapTL, mapT_old f x, mapTL_old f xs]
theorem mapTLL_old : ∀ (f : Nat → Option Nat) (xs : List (List Tr)), mapTLL f (oldLL xs) = oldLL xs
  | _, [] => rfl
  | f, x :: xs => by rw [oldLL, mapTLL, mapTL_old f x, mapTLL_old f xs]
end
theorem HJoin.mk3 {tree : (Env → List ABox → Fr → Prop) → Prop} {next : St → Prop} {e : Env} {b : List ABox} {f : Fr} (h : tree fun e' b' f' => HEnd e' b' f' ⟨e, b, f⟩) (hk : next ⟨e, b, f⟩) : HJoin tree next := .mk _ h hk
theorem Fork.dec {c : Prop} [Decidable c] {p q : Prop} (h : c → p) (k : ¬ c → q) : Fork (decide c) p q := ⟨fun e => h (of_decide_eq_true e), fun e => k (of_decide_eq_false e)⟩
theorem Fork.yes {b : Bool} {p q : Prop} (h : b = true) (k : p) : Fork b p q := ⟨fun _ => k, fun e => absurd (h.symm.trans e) (by decide)⟩
theorem Fork.no {b : Bool} {p q : Prop} (h : b = false) (k : q) : Fork b p q := ⟨fun e => absurd (h.symm.trans e) (by decide), fun _ => k⟩
theorem Fork.decYes {c : Prop} [Decidable c] {p q : Prop} (h : c) (k : p) : Fork (decide c) p q := .yes (decide_eq_true h) k
theorem Fork.decNo {c : Prop} [Decidable c] {p q : Prop} (h : ¬ c) (k : q) : Fork (decide c) p q := .no (decide_eq_false h) k
theorem bl_irrefl : ∀ s : Str, Op.bytesLess s s = false
  | [] => rfl
  | c :: s => by simp [Op.bytesLess, bl_irrefl s]
theorem Fork.neg {b : Bool} {p q : Prop} (h : b = false → p) (k : b = true → q) : Fork (!b) p q := ⟨fun e => h (by simpa using e), fun e => k (by simpa using e)⟩
theorem Fork.bne {a b : Int} {p q : Prop} (h : a ≠ b → p) (k : a = b → q) : Fork (a != b) p q := ⟨fun e => h (by simpa using e), fun e => k (by simpa using e)⟩
theorem Fork.beq {a b : Int} {p q : Prop} (h : a = b → p) (k : a ≠ b → q) : Fork (a == b) p q := ⟨fun e => h (by simpa using e), fun e => k (by simpa using e)⟩
theorem Fork.seq {a b : Str} {p q : Prop} (h : a = b → p) (k : a ≠ b → q) : Fork (a == b) p q := ⟨fun e => h (by simpa using e), fun e => k (by simpa using e)⟩
theorem Fork.sne {a b : Str} {p q : Prop} (h : a ≠ b → p) (k : a = b → q) : Fork (!(a == b)) p q := ⟨fun e => h (by simpa using e), fun e => k (by simpa using e)⟩

theorem forceK_of {x : AV} {k : AV → Prop} (h : k x) : forceK x k := by
  cases x with
  | list o xs => cases o <;> exact h
  | _ => exact h
theorem forceBx_of : ∀ {b : List ABox} {k : List ABox → Prop}, k b → forceBx b k
  | [], _, h => h
  | .cells _ _ :: r, _, h => forceBx_of (b := r) h
  | .iter _ _ :: r, _, h => forceBx_of (b := r) h
  | .map _ :: r, _, h => forceBx_of (b := r) h
  | .vmap _ _ _ :: r, _, h => forceBx_of (b := r) h
  | .dead :: r, _, h => forceBx_of (b := r) h
theorem BoxIn.last (pre bs : List ABox) : BoxIn (pre ++ bs) pre.length bs := fun i b hi => by
  rw [List.getElem?_append_right (by omega), Nat.add_sub_cancel_left]; exact hi
theorem BoxIn.more {b bs : List ABox} {n : Nat} (h : BoxIn b n bs) (c : List ABox) : BoxIn (b ++ c) n bs := fun i x hi => by
  rw [List.getElem?_append_left (getElem?_lt (h i x hi))]; exact h i x hi
theorem unG_old {gd : Bool} {x : Tr} {k : AV → Prop} (h : k (old x)) : unG gd (old x) k := by cases x <;> exact h
theorem unG_gv {gd : Bool} {x : Tr} {n : Nat} {k : AV → Prop} (h : k (gv x n)) : unG gd (gv x n) k := by cases x <;> exact h
theorem ACall.mkL {C : Con} {lend : Bool} {f : Nat} {vs : List AV} {b : List ABox} {fr : Fr} {k : AV → List ABox → Fr → Prop} (ys : List AV) (i : Nat) (xs : List (List Tr)) (frs : Fr) (h : C.ret f ys (.list (some i) (oldLL xs)) frs) (hv : SeesL Sees0 vs ys)
    (hk : k (.list (some (i + fr.length)) (oldLL xs)) b (fr ++ frs)) : ACall C lend f vs b fr k :=
  .mk ys _ frs h hv (by rw [show shift fr.length (.list (some i) (oldLL xs)) = .list (some (i + fr.length)) (oldLL xs) by unfold shift; rw [mapT, mapTLL_old]; rfl]; exact hk)
theorem ACall.turn' {C : Con} {f : Nat} {vs : List AV} {b : List ABox} {fr : Fr} {k : AV → List ABox → Fr → Prop} (b' : List ABox) (ys : List AV) (x x' : Tr) (r : AV) (pre post : List ABox) (h : C.turn f (gb x 0) ys r (gb x' 0)) (hr : isScalR r = true)
    (hb : b = pre ++ gb x pre.length ++ post) (hn : nb x' = nb x) (hv : SeesL (SeesM x pre.length) vs ys) (hb' : pre ++ gb x' pre.length ++ post = b') (hk : k r b' fr) : ACall C true f vs b fr k :=
  .turn rfl ys x x' r pre post h hr hb hn hv (hb' ▸ hk)
/-- a callee is gone into, all boxes being lent to it -/
theorem ACall.inl {C : Con} {f : Nat} {vs : List AV} {b : List ABox} {k : AV → List ABox → Fr → Prop} (b0 : List ABox) (ys : List AV) (hb : Lends b b0) (hv : SeesL SeesC vs ys) (h : C.lent f b0 ys (fun r b1 frs => k r (merge b b0 b1) frs)) : ACall C true f vs b [] k :=
  .lent rfl b0 ys _ h hb hv (fun _ _ _ hk => hk)
theorem fr1 {t s a b : Nat} (h : a = b) : [(t, s, a)] = [(t, s, b)] := by rw [h]
theorem fr2 {t s a b t' s' a' b' : Nat} (h : a = b) (h' : a' = b') : [(t, s, a), (t', s', a')] = [(t, s, b), (t', s', b')] := by rw [h, h']
theorem AV.int_congr {k : IntKind} {a b : Int} (h : a = b) : AV.val (.int k a) = AV.val (.int k b) := by rw [h]
theorem AV.bool_congr {a b : Bool} (h : a = b) : AV.val (.bool a) = AV.val (.bool b) := by rw [h]
theorem AV.str_congr {a b : Str} (h : a = b) : AV.str a = AV.str b := by rw [h]
theorem AV.list_congr {o : Option Nat} {a b : List (List AV)} (h : a = b) : AV.list o a = AV.list o b := by rw [h]
theorem AV.bsl_congr {j n j' n' : Nat} (h : j = j') (h' : n = n') : AV.bsl j n = AV.bsl j' n' := by rw [h, h']
theorem AV.tup2_congr {a b a' b' : AV} (h : a = b) (h' : a' = b') : AV.tup [a, a'] = AV.tup [b, b'] := by rw [h, h']

theorem wrap64 {x : Int} (h0 : -9223372036854775808 ≤ x) (h1 : x ≤ 9223372036854775807) : IntKind.i64.wrap x = x := by
  have := Go.IntWalk.i64_in x ⟨h0, h1⟩
  exact this

/-- an element of a slice whose elements are trees -/
theorem Ix.map {α : Type} [Inhabited α] {gd : Bool} {l : List α} {q : α → List Tr} {i : Int} {sz : Nat} {k : List AV → Prop} (hs : ∀ a, (q a).length = sz) (h : gd = true → 0 ≤ i ∧ i < l.length) (hk : k (oldL (q (l.getD i.toNat default)))) :
    Ix gd (oldLL (l.map q)) i sz k :=
  ⟨_, fun hg => by
    obtain ⟨h0, h1⟩ := h hg
    have : i.toNat < l.length := by omega
    refine ⟨h0, ?_, by rw [oldL_eq, List.length_map, hs]⟩
    rw [oldLL_eq]
    simp [this, oldL_eq], hk⟩
theorem Cut.map {α : Type} {gd : Bool} {l : List α} {q : α → List Tr} {lo hi : Int} {sz : Nat} {k : List (List AV) → Prop} (hs : ∀ a, (q a).length = sz) (h : gd = true → 0 ≤ lo ∧ lo ≤ hi ∧ hi ≤ l.length)
    (hk : k (oldLL (((l.take hi.toNat).drop lo.toNat).map q))) : Cut gd (oldLL (l.map q)) lo hi sz k :=
  ⟨_, fun hg => by
    obtain ⟨h0, h1, h2⟩ := h hg
    refine ⟨h0, h1, by rw [oldLL_eq, List.length_map, List.length_map]; exact h2, fun c hc => ?_, by simp [oldLL_eq]⟩
    rw [oldLL_eq] at hc
    obtain ⟨e, he, rfl⟩ := List.mem_map.1 hc
    obtain ⟨a, _, rfl⟩ := List.mem_map.1 he
    rw [List.length_map, hs], hk⟩
@[simp] theorem length_oldLL (xs : List (List Tr)) : (oldLL xs).length = xs.length := by rw [oldLL_eq]; simp
theorem oldLL_append (a b : List (List Tr)) : oldLL (a ++ b) = oldLL a ++ oldLL b := by simp [oldLL_eq]
theorem oldLL_sz {α : Type} {l : List α} {q : α → List Tr} {sz : Nat} (hs : ∀ a, (q a).length = sz) : ∀ c ∈ oldLL (l.map q), c.length = sz := by
  intro c hc
  rw [oldLL_eq] at hc
  obtain ⟨e, he, rfl⟩ := List.mem_map.1 hc
  obtain ⟨a, _, rfl⟩ := List.mem_map.1 he
  rw [List.length_map, hs]

theorem Sees0.old (x : Tr) : Sees0 (old x) (old x) := Sees0.erase (mapT_old _ x)
theorem Sees0.olds (o : Option Nat) (xs : List (List Tr)) : Sees0 (.list o (oldLL xs)) (.list none (oldLL xs)) := Sees0.list (mapTLL_old _ xs)
theorem Sees0.oldagg (xs : List Tr) : Sees0 (.agg (oldL xs)) (.agg (oldL xs)) := Sees0.erase (by show AV.agg (mapTL noTok (oldL xs)) = _; rw [mapTL_old])

theorem rep_string {B : Nat} {w : World} {F : Nat → Nat} {box : List BId} (s : ByteArray) : Rep B w F [] [] box (.str s.data.toList) (.string s) := by
  have : Value.string s = mkS s.data.toList := by unfold mkS; simp
  rw [this]; exact .str _

/-- texts -/
def sq (x : Str) : List Tr := [.s x]
def strs (l : List Str) : List (List AV) := oldLL (l.map sq)
@[simp] theorem length_strs (l : List Str) : (strs l).length = l.length := by simp [strs]
theorem strs_eq (l : List Str) : strs l = l.map fun s => [.str s] := by simp [strs, oldLL_eq, sq, old]
theorem strs_append (a b : List Str) : strs (a ++ b) = strs a ++ strs b := by simp [strs_eq]
theorem strs_cons (a : Str) (b : List Str) : strs (a :: b) = [.str a] :: strs b := rfl
theorem strs_nil : strs [] = [] := rfl
@[simp] theorem strs_sz (l : List Str) : ∀ c ∈ strs l, c.length = 1 := oldLL_sz (fun _ => rfl)
theorem Ix.strs {gd : Bool} {l : List Str} {i : Int} {sz : Nat} {k : List AV → Prop} (hs : 1 = sz) (h : gd = true → 0 ≤ i ∧ i < l.length) (hk : k [.str (l.getD i.toNat [])]) : Ix gd (Abs.strs l) i sz k :=
  Ix.map (q := sq) (fun _ => hs) h hk
theorem Cut.strs {gd : Bool} {l : List Str} {lo hi : Int} {sz : Nat} {k : List (List AV) → Prop} (hs : 1 = sz) (h : gd = true → 0 ≤ lo ∧ lo ≤ hi ∧ hi ≤ l.length) (hk : k (Abs.strs ((l.take hi.toNat).drop lo.toNat))) : Cut gd (Abs.strs l) lo hi sz k :=
  Cut.map (q := sq) (fun _ => hs) h hk

/-- one more element of a list -/
theorem take_succ' {α : Type} {l : List α} {i : Nat} (d : α) (h : i < l.length) : l.take (i + 1) = l.take i ++ [l.getD i d] := by
  rw [List.take_succ_eq_append_getElem h]
  simp [List.getD, h]
theorem foldl_take_succ {α β : Type} {l : List α} {i : Nat} (d : α) (f : β → α → β) (b : β) (h : i < l.length) : (l.take (i + 1)).foldl f b = f ((l.take i).foldl f b) (l.getD i d) := by
  rw [take_succ' d h, List.foldl_append]; rfl
end Abs
end Go.Proofs.Ytkbblglbbfdnpaa
namespace Go.Proofs.Ytkbblglbbfdnpaa
namespace Abs

/-- the cells of a type -/
inductive Cl where
  | str
  | bool
  | int (k : IntKind)
  | sl (e : TypeId) (sz : Nat) (cs : List Cl)

inductive FitsL : List Cl → List Tr → Prop
  | nil : FitsL [] []
  | str (x : Str) (h : x.length ≤ maxLen) {cs : List Cl} {xs : List Tr} (hs : FitsL cs xs) : FitsL (.str :: cs) (.s x :: xs)
  | bool (b : Bool) {cs : List Cl} {xs : List Tr} (hs : FitsL cs xs) : FitsL (.bool :: cs) (.v (.bool b) :: xs)
  | int (k : IntKind) (n : Int) (h : (Lit.int k n).wf = true) {cs : List Cl} {xs : List Tr} (hs : FitsL cs xs) : FitsL (.int k :: cs) (.v (.int k n) :: xs)
  | sl (e sz : Nat) (c : List Cl) (es : List (List Tr)) (h : es.length ≤ maxLen) (hz : c.length = sz) (he : ∀ x ∈ es, FitsL c x) {cs : List Cl} {xs : List Tr} (hs : FitsL cs xs) :
      FitsL (.sl e sz c :: cs) (.l e sz es :: xs)

theorem FitsL.length {cs : List Cl} {xs : List Tr} (h : FitsL cs xs) : xs.length = cs.length := by induction h <;> simp_all
theorem FitsL.append {cs ds : List Cl} {xs ys : List Tr} (h : FitsL cs xs) (h' : FitsL ds ys) : FitsL (cs ++ ds) (xs ++ ys) := by
  induction h with
  | nil => exact h'
  | str x h _ ih => exact .str x h ih
  | bool b _ ih => exact .bool b ih
  | int k n h _ ih => exact .int k n h ih
  | sl e sz c es h hz he _ _ ih => exact .sl e sz c es h hz he ih
theorem FitsL.ok {cs : List Cl} {xs : List Tr} (h : FitsL cs xs) : okTL xs = true := by
  induction h with
  | nil => rfl
  | str x h _ ih => rw [okTL, okT, ih]; rfl
  | bool b _ ih => rw [okTL, okT, ih]; rfl
  | int k n h _ ih => rw [okTL, okT, ih]; rfl
  | sl e sz c es h hz he _ ih1 ih2 =>
    have h1 : es.all (fun e => e.length == sz) = true := List.all_eq_true.2 fun x hx => by rw [(he x hx).length, hz]; simp
    have h2 : okTLL es = true := by
      clear h hz h1
      induction es with
      | nil => rfl
      | cons x es ih => rw [okTLL, ih1 x (by simp), ih (fun y hy => he y (by simp [hy])) (fun y hy => ih1 y (by simp [hy]))]; rfl
    rw [okTL, okT, h1, h2, ih2]; rfl

variable {α β : Type}
theorem maxLen_le {n : Nat} (h : n ≤ maxLen) : n ≤ 9223372036854775807 := Nat.le_trans h (by decide +kernel)
def addTok (m : Nat) (k : Nat) : Option Nat := some (k + m)
theorem shift_eq (m : Nat) : shift m = mapT (addTok m) := rfl

/-- cells of a value (q), what stands for them where its slices are the call's own from token n on (tk), and these slices (fr) -/
structure Ty (α : Type) where
  sz : Nat
  q : α → List Tr
  tk : α → Nat → List AV
  fr : α → Fr
  size : α → Nat
  bd : α → Prop
  cl : List Cl
  hq : ∀ a, (q a).length = sz
  hok : ∀ a, okTL (q a) = true
  htk : ∀ a n, (tk a n).length = sz
  hnr : ∀ a n, ∀ c ∈ tk a n, noRef c = true
  hsh : ∀ a n m, mapTL (addTok m) (tk a n) = tk a (n + m)
  hse : ∀ a n, mapTL noTok (tk a n) = oldL (q a)
  hcl : ∀ xs, FitsL cl xs → ∃ a, xs = q a ∧ bd a
  hown : ∀ a n (F : Fr), (∀ i x, (fr a)[i]? = some x → F[n + i]? = some x) → ∃ ts, OwnA F (q a) (tk a n) ts ∧ ts.Perm (List.range' n (fr a).length)

theorem mapTL_append (f : Nat → Option Nat) (xs ys : List AV) : mapTL f (xs ++ ys) = mapTL f xs ++ mapTL f ys := by simp [mapTL_eq]
theorem okTL_append (xs ys : List Tr) : okTL (xs ++ ys) = (okTL xs && okTL ys) := by simp [okTL_all]
theorem oldL_append (xs ys : List Tr) : oldL (xs ++ ys) = oldL xs ++ oldL ys := by simp [oldL_eq]
theorem OwnA.append {F : Fr} {xs ys : List Tr} {cs ds : List AV} {ts us : List Nat} (h : OwnA F xs cs ts) (h' : OwnA F ys ds us) : OwnA F (xs ++ ys) (cs ++ ds) (ts ++ us) := by
  induction h with
  | nil => exact h'
  | v x hp _ ih => exact .v x hp ih
  | s x _ ih => exact .s x ih
  | nils t sz _ ih => exact .nils t sz ih
  | l t sz es k ys hk hl hs hy he _ _ ih => rw [List.append_assoc]; exact .l t sz es k ys hk hl hs hy he ih
  | a fs us _ _ _ ih => rw [List.append_assoc]; exact .a fs us ‹_› ih
  | av fs us h1 _ _ _ ih => rw [List.append_assoc]; exact .av fs us h1 ‹_› ih
  | p fs us _ _ _ ih => rw [List.append_assoc]; exact .p fs us ‹_› ih

def Ty.str : Ty Str where
  sz := 1
  q s := [.s s]
  tk s _ := [.str s]
  fr _ := []
  size s := s.length
  bd s := s.length ≤ 9223372036854775807
  cl := [.str]
  hcl xs h := by
    cases h with
    | str x h hs => cases hs; exact ⟨x, rfl, maxLen_le h⟩
  hq _ := rfl
  hok _ := rfl
  htk _ _ := rfl
  hnr _ _ c hc := by simp at hc; subst hc; rfl
  hsh _ _ _ := rfl
  hse _ _ := rfl
  hown a _ _ _ := ⟨_, .s a .nil, .refl _⟩
def Ty.int : Ty Int where
  sz := 1
  q n := [.v (.int .i64 n)]
  tk n _ := [.val (.int .i64 n)]
  fr _ := []
  size _ := 0
  bd n := (Lit.int .i64 n).wf = true
  cl := [.int .i64]
  hcl xs h := by
    cases h with
    | int k n h hs => cases hs; exact ⟨n, rfl, h⟩
  hq _ := rfl
  hok _ := rfl
  htk _ _ := rfl
  hnr _ _ c hc := by simp at hc; subst hc; rfl
  hsh _ _ _ := rfl
  hse _ _ := rfl
  hown a _ _ _ := ⟨_, .v _ rfl .nil, .refl _⟩
def Ty.bool : Ty Bool where
  sz := 1
  q n := [.v (.bool n)]
  tk n _ := [.val (.bool n)]
  fr _ := []
  size _ := 0
  bd _ := True
  cl := [.bool]
  hcl xs h := by
    cases h with
    | bool n hs => cases hs; exact ⟨n, rfl, trivial⟩
  hq _ := rfl
  hok _ := rfl
  htk _ _ := rfl
  hnr _ _ c hc := by simp at hc; subst hc; rfl
  hsh _ _ _ := rfl
  hse _ _ := rfl
  hown a _ _ _ := ⟨_, .v _ rfl .nil, .refl _⟩

/-- a slice whose elements are plain -/
theorem own_plain (T : Ty α) (h : ∀ a, T.fr a = []) (n : Nat) (F : Fr) : ∀ l : List α, OwnA F (l.map T.q).flatten (l.map fun a => T.tk a n).flatten []
  | [] => .nil
  | a :: l => by
    obtain ⟨ts, h1, h2⟩ := T.hown a n F (by simp [h])
    rw [h] at h2
    have : ts = [] := List.Perm.eq_nil h2
    subst this
    exact OwnA.append h1 (own_plain T h n F l)

/-- the elements of a slice, read -/
def rows (T : Ty α) (l : List α) : List (List AV) := oldLL (l.map T.q)
@[simp] theorem length_rows (T : Ty α) (l : List α) : (rows T l).length = l.length := by simp [rows]
def listSize (T : Ty α) : List α → Nat
  | [] => 0
  | a :: l => T.size a + listSize T l
theorem listSize_take_succ (T : Ty α) {l : List α} {i : Nat} {a : α} (hi : l[i]? = some a) : listSize T (l.take (i + 1)) = listSize T (l.take i) + T.size a := by
  induction l generalizing i with
  | nil => simp at hi
  | cons s l ih =>
    cases i with
    | zero => simp at hi; subst hi; simp [listSize]
    | succ i => simp only [List.take_succ_cons, listSize, ih (by simpa using hi)]; omega
theorem listSize_take_le (T : Ty α) (l : List α) (i : Nat) : listSize T (l.take i) ≤ listSize T l := by
  induction l generalizing i with
  | nil => simp
  | cons s l ih => cases i with
    | zero => simp [listSize]
    | succ i => simp only [List.take_succ_cons, listSize]; have := ih i; omega
theorem listSize_mem (T : Ty α) {l : List α} {a : α} (h : a ∈ l) : T.size a ≤ listSize T l := by
  induction l with
  | nil => cases h
  | cons x l ih =>
    rcases List.mem_cons.1 h with rfl | h
    · simp [listSize]
    · have := ih h; simp only [listSize]; omega

def tks (T : Ty α) : List α → Nat → List (List AV)
  | [], _ => []
  | a :: l, n => T.tk a n :: tks T l (n + (T.fr a).length)
def frs (T : Ty α) (l : List α) : Fr := l.flatMap T.fr
theorem length_tks (T : Ty α) : ∀ (l : List α) (n : Nat), (tks T l n).length = l.length
  | [], _ => rfl
  | a :: l, n => by simp [tks, length_tks T l]
theorem tks_append (T : Ty α) : ∀ (l m : List α) (n : Nat), tks T (l ++ m) n = tks T l n ++ tks T m (n + (frs T l).length)
  | [], m, n => by simp [tks, frs]
  | a :: l, m, n => by
    simp only [List.cons_append, tks, tks_append T l, frs, List.flatMap_cons, List.length_append, Nat.add_assoc]
theorem frs_append (T : Ty α) (l m : List α) : frs T (l ++ m) = frs T l ++ frs T m := by simp [frs]
theorem tks_sz (T : Ty α) : ∀ (l : List α) (n : Nat), ∀ x ∈ tks T l n, x.length = T.sz
  | [], _, _, h => by cases h
  | a :: l, n, x, h => by
    rcases List.mem_cons.1 h with rfl | h
    · exact T.htk a n
    · exact tks_sz T l _ x h
theorem tks_nr (T : Ty α) : ∀ (l : List α) (n : Nat), ∀ c ∈ (tks T l n).flatten, noRef c = true
  | [], _, _, h => by cases h
  | a :: l, n, c, h => by
    rw [tks, List.flatten_cons, List.mem_append] at h
    rcases h with h | h
    · exact T.hnr a n c h
    · exact tks_nr T l _ c h
theorem tks_sh (T : Ty α) (m : Nat) : ∀ (l : List α) (n : Nat), mapTLL (addTok m) (tks T l n) = tks T l (n + m)
  | [], _ => rfl
  | a :: l, n => by rw [tks, mapTLL, T.hsh, tks_sh T m l, tks]; congr 2; omega
theorem tks_se (T : Ty α) : ∀ (l : List α) (n : Nat), mapTLL noTok (tks T l n) = oldLL (l.map T.q)
  | [], _ => rfl
  | a :: l, n => by rw [tks, mapTLL, T.hse, tks_se T l]; rfl
theorem tks_own (T : Ty α) (F : Fr) : ∀ (l : List α) (n : Nat), (∀ i x, (frs T l)[i]? = some x → F[n + i]? = some x) → ∃ ts, OwnA F (l.map T.q).flatten (tks T l n).flatten ts ∧ ts.Perm (List.range' n (frs T l).length)
  | [], _, _ => ⟨_, .nil, .refl _⟩
  | a :: l, n, h => by
    obtain ⟨t1, h1, p1⟩ := T.hown a n F (fun i x hi => h i x (by rw [frs, List.flatMap_cons, List.getElem?_append_left (getElem?_lt hi)]; exact hi))
    obtain ⟨t2, h2, p2⟩ := tks_own T F l (n + (T.fr a).length) (fun i x hi => by
      have := h ((T.fr a).length + i) x (by rw [frs, List.flatMap_cons, List.getElem?_append_right (by omega), Nat.add_sub_cancel_left]; exact hi)
      rw [Nat.add_assoc]; exact this)
    refine ⟨t1 ++ t2, OwnA.append h1 h2, ?_⟩
    rw [show frs T (a :: l) = T.fr a ++ frs T l from rfl, List.length_append, ← List.range'_append_1]
    exact p1.append p2
theorem tks_get (T : Ty α) {l : List α} {i : Nat} {a : α} (n : Nat) (hi : l[i]? = some a) : (tks T l n)[i]? = some (T.tk a (n + (frs T (l.take i)).length)) := by
  induction l generalizing i n with
  | nil => simp at hi
  | cons b l ih =>
    cases i with
    | zero => simp at hi; subst hi; simp [tks, frs]
    | succ i =>
      simp only [tks, List.getElem?_cons_succ, List.take_succ_cons]
      rw [ih _ (by simpa using hi)]
      simp [frs, Nat.add_assoc]
theorem okTLL_map (T : Ty α) : ∀ l : List α, okTLL (l.map T.q) = true
  | [] => rfl
  | a :: l => by rw [List.map_cons, okTLL, T.hok, okTLL_map T l]; rfl
theorem ok_list (T : Ty α) (t : Nat) (l : List α) : okT (.l t T.sz (l.map T.q)) = true := by
  rw [okT, okTLL_map, Bool.and_true, List.all_eq_true]
  intro x hx
  obtain ⟨a, _, rfl⟩ := List.mem_map.1 hx
  simp [T.hq]

theorem fits_list (T : Ty α) (t : Nat) (xs : List Tr) (h : FitsL [.sl t T.sz T.cl] xs) : ∃ l : List α, xs = [.l t T.sz (l.map T.q)] ∧ (l.length ≤ 9223372036854775807 ∧ ∀ a ∈ l, T.bd a) := by
  cases h with
  | sl e sz c es h hz he hs =>
    cases hs
    have : ∃ l : List α, es = l.map T.q ∧ ∀ a ∈ l, T.bd a := by
      clear h
      induction es with
      | nil => exact ⟨[], rfl, by simp⟩
      | cons x es ih =>
        obtain ⟨l, rfl, hl⟩ := ih (fun y hy => he y (by simp [hy]))
        obtain ⟨a, rfl, ha⟩ := T.hcl x (he x (by simp))
        exact ⟨a :: l, rfl, by simpa [ha] using hl⟩
    obtain ⟨l, rfl, hl⟩ := this
    exact ⟨l, rfl, maxLen_le (by simpa using h), hl⟩
theorem FitsL.split {cs ds : List Cl} {xs : List Tr} (h : FitsL (cs ++ ds) xs) : ∃ ys zs, xs = ys ++ zs ∧ FitsL cs ys ∧ FitsL ds zs := by
  induction cs generalizing xs with
  | nil => exact ⟨[], xs, rfl, .nil, h⟩
  | cons c cs ih =>
    cases h with
    | str x h hs => obtain ⟨ys, zs, rfl, h1, h2⟩ := ih hs; exact ⟨_ :: ys, zs, rfl, .str x h h1, h2⟩
    | bool b hs => obtain ⟨ys, zs, rfl, h1, h2⟩ := ih hs; exact ⟨_ :: ys, zs, rfl, .bool b h1, h2⟩
    | int k n h hs => obtain ⟨ys, zs, rfl, h1, h2⟩ := ih hs; exact ⟨_ :: ys, zs, rfl, .int k n h h1, h2⟩
    | sl e sz c es h hz he hs => obtain ⟨ys, zs, rfl, h1, h2⟩ := ih hs; exact ⟨_ :: ys, zs, rfl, .sl e sz c es h hz he h1, h2⟩

/-- a list whose elements have slices of their own -/
def Ty.list (t : Nat) (T : Ty α) : Ty (List α) where
  sz := 1
  q l := [.l t T.sz (l.map T.q)]
  tk l n := [.list (some (n + (frs T l).length)) (tks T l n)]
  fr l := frs T l ++ [(t, T.sz, l.length)]
  size l := l.length + listSize T l
  bd l := l.length ≤ 9223372036854775807 ∧ ∀ a ∈ l, T.bd a
  cl := [.sl t T.sz T.cl]
  hcl := fits_list T t
  hq _ := rfl
  hok l := by rw [okTL, ok_list]; rfl
  htk _ _ := rfl
  hnr _ _ c hc := by simp at hc; subst hc; rfl
  hsh l n m := by
    rw [mapTL, mapTL, mapT, tks_sh]
    show [AV.list (some (n + (frs T l).length + m)) _] = _
    rw [Nat.add_right_comm]
  hse l n := by rw [mapTL, mapTL, mapT, tks_se]; rfl
  hown l n F h := by
    obtain ⟨ts, h1, p1⟩ := tks_own T F l n (fun i x hi => h i x (by rw [List.getElem?_append_left (getElem?_lt hi)]; exact hi))
    have h2 : F[n + (frs T l).length]? = some (t, T.sz, l.length) := h _ _ (by rw [List.getElem?_append_right (Nat.le_refl _), Nat.sub_self]; rfl)
    refine ⟨_, .l t T.sz (l.map T.q) (n + (frs T l).length) (tks T l n) (by rw [h2, List.length_map]) (by rw [length_tks, List.length_map]) (fun e he => ?_) (tks_sz T l n) h1 .nil, ?_⟩
    · obtain ⟨a, _, rfl⟩ := List.mem_map.1 he
      exact T.hq a
    · rw [List.append_nil, List.length_append, List.length_singleton, ← List.range'_append_1]
      exact (List.perm_append_comm (l₁ := [n + (frs T l).length]) (l₂ := ts)).trans (p1.append (.refl _))
/-- a list whose elements have none -/
def Ty.plain (t : Nat) (T : Ty α) (h : ∀ a, T.fr a = []) (e : ∀ a, T.tk a 0 = oldL (T.q a)) : Ty (List α) where
  sz := 1
  q l := [.l t T.sz (l.map T.q)]
  tk l n := [.list (some n) (oldLL (l.map T.q))]
  fr l := [(t, T.sz, l.length)]
  size l := l.length + listSize T l
  bd l := l.length ≤ 9223372036854775807 ∧ ∀ a ∈ l, T.bd a
  cl := [.sl t T.sz T.cl]
  hcl := fits_list T t
  hq _ := rfl
  hok l := by rw [okTL, ok_list]; rfl
  htk _ _ := rfl
  hnr _ _ c hc := by simp at hc; subst hc; rfl
  hsh l n m := by rw [mapTL, mapTL, mapT, mapTLL_old]; rfl
  hse l n := by rw [mapTL, mapTL, mapT, mapTLL_old]; rfl
  hown l n F h' := by
    have h2 : F[n]? = some (t, T.sz, l.length) := h' 0 _ rfl
    have h3 := own_plain T h 0 F l
    have e2 : (l.map fun a => T.tk a 0) = oldLL (l.map T.q) := by rw [oldLL_eq, List.map_map]; exact List.map_congr_left fun a _ => by rw [e, oldL_eq]; rfl
    rw [e2] at h3
    refine ⟨_, .l t T.sz (l.map T.q) n _ (by rw [h2, List.length_map]) (by simp) (fun e he => ?_) (oldLL_sz T.hq) h3 .nil, .refl _⟩
    obtain ⟨a, _, rfl⟩ := List.mem_map.1 he
    exact T.hq a
/-- fields, one after the other -/
def Ty.pair (T : Ty α) (U : Ty β) : Ty (α × β) where
  sz := T.sz + U.sz
  q a := T.q a.1 ++ U.q a.2
  tk a n := T.tk a.1 n ++ U.tk a.2 (n + (T.fr a.1).length)
  fr a := T.fr a.1 ++ U.fr a.2
  size a := T.size a.1 + U.size a.2
  bd a := T.bd a.1 ∧ U.bd a.2
  cl := T.cl ++ U.cl
  hcl xs h := by
    obtain ⟨ys, zs, rfl, h1, h2⟩ := h.split
    obtain ⟨a, rfl, ha⟩ := T.hcl _ h1
    obtain ⟨b, rfl, hb⟩ := U.hcl _ h2
    exact ⟨(a, b), rfl, ha, hb⟩
  hq a := by rw [List.length_append, T.hq, U.hq]
  hok a := by rw [okTL_append, T.hok, U.hok]; rfl
  htk a n := by rw [List.length_append, T.htk, U.htk]
  hnr a n c hc := by
    rcases List.mem_append.1 hc with h | h
    · exact T.hnr _ _ c h
    · exact U.hnr _ _ c h
  hsh a n m := by rw [mapTL_append, T.hsh, U.hsh, Nat.add_right_comm]
  hse a n := by rw [mapTL_append, T.hse, U.hse, oldL_append]
  hown a n F h := by
    obtain ⟨t1, h1, p1⟩ := T.hown a.1 n F (fun i x hi => h i x (by rw [List.getElem?_append_left (getElem?_lt hi)]; exact hi))
    obtain ⟨t2, h2, p2⟩ := U.hown a.2 (n + (T.fr a.1).length) F (fun i x hi => by
      have := h ((T.fr a.1).length + i) x (by rw [List.getElem?_append_right (by omega), Nat.add_sub_cancel_left]; exact hi)
      rw [Nat.add_assoc]; exact this)
    refine ⟨t1 ++ t2, OwnA.append h1 h2, ?_⟩
    rw [List.length_append, ← List.range'_append_1]
    exact p1.append p2

/-- a call that hands back a struct, or a list, of its own -/
theorem ACall.mkA (T : Ty α) {C : Con} {lend : Bool} {f : Nat} {vs : List AV} {b : List ABox} {fr : Fr} {k : AV → List ABox → Fr → Prop} (ys : List AV) (a : α) (h : C.ret f ys (.agg (T.tk a 0)) (T.fr a)) (hv : SeesL Sees0 vs ys)
    (hk : k (.agg (T.tk a fr.length)) b (fr ++ T.fr a)) : ACall C lend f vs b fr k :=
  .mk ys _ _ h hv (by rw [shift_eq, mapT, T.hsh, Nat.zero_add]; exact hk)
theorem ACall.mkV (T : Ty α) {C : Con} {lend : Bool} {f : Nat} {vs : List AV} {b : List ABox} {fr : Fr} {k : AV → List ABox → Fr → Prop} (ys : List AV) (a : α) (r : Nat → AV) (hr : ∀ n, T.tk a n = [r n]) (h : C.ret f ys (r 0) (T.fr a)) (hv : SeesL Sees0 vs ys)
    (hk : k (r fr.length) b (fr ++ T.fr a)) : ACall C lend f vs b fr k :=
  .mk ys _ _ h hv (by
    have := T.hsh a 0 fr.length
    rw [hr, hr, mapTL, mapTL, Nat.zero_add] at this
    rw [shift_eq, (List.cons.inj this).1]; exact hk)
theorem Ty.ownA (T : Ty α) {mo : Bool} {P : Program} {f : Nat} {args : List AV} {a : α} (h : Ret mo P f args (.agg (T.tk a 0)) (T.fr a)) : Own mo P f args (.a (T.q a)) := by
  obtain ⟨ts, h1, p1⟩ := T.hown a 0 (T.fr a) (fun i x hi => by rwa [Nat.zero_add])
  have := OwnA.a (T.q a) (T.tk a 0) h1 .nil
  rw [List.append_nil] at this
  exact h.own ts this (p1.symm.nodup (List.nodup_range' _))
theorem Ty.ownV (T : Ty α) {mo : Bool} {P : Program} {f : Nat} {args : List AV} {a : α} {x : Tr} {r : AV} (hx : T.q a = [x]) (hr : T.tk a 0 = [r]) (h : Ret mo P f args r (T.fr a)) : Own mo P f args x := by
  obtain ⟨ts, h1, p1⟩ := T.hown a 0 (T.fr a) (fun i x hi => by rwa [Nat.zero_add])
  rw [hx, hr] at h1
  exact h.own ts h1 (p1.symm.nodup (List.nodup_range' _))
/-! what the evaluator's steps ask beside: shown where they are used -/
theorem Need.fin {p q : Prop} (k : q) (h : p := by intros; (try simp only [length_strs] at *); (try simp only [length_rows] at *); (try simp only [length_oldLL, List.length_map] at *); (try simp only [Bool.and_eq_true, decide_eq_true_eq] at *); omega) : Need p q := ⟨h, k⟩
theorem Ix.strsF {gd : Bool} {l : List Str} {i : Int} {sz : Nat} {k : List AV → Prop} (hs : 1 = sz) (hk : k [.str (l.getD i.toNat [])]) (h : gd = true → 0 ≤ i ∧ i < l.length := by intros; (try simp only [length_strs] at *); (try simp only [length_rows] at *); (try simp only [length_oldLL, List.length_map] at *); (try simp only [Bool.and_eq_true, decide_eq_true_eq] at *); omega) : Ix gd (Abs.strs l) i sz k := Ix.strs hs h hk
theorem Ix.mapF {α : Type} [Inhabited α] {gd : Bool} {l : List α} {q : α → List Tr} {i : Int} {sz : Nat} {k : List AV → Prop} (hs : ∀ a, (q a).length = sz) (hk : k (oldL (q (l.getD i.toNat default)))) (h : gd = true → 0 ≤ i ∧ i < l.length := by intros; (try simp only [length_strs] at *); (try simp only [length_rows] at *); (try simp only [length_oldLL, List.length_map] at *); (try simp only [Bool.and_eq_true, decide_eq_true_eq] at *); omega) : Ix gd (oldLL (l.map q)) i sz k := Ix.map hs h hk
theorem ACall.scalA {C : Con} {lend : Bool} {f : Nat} {vs : List AV} {b : List ABox} {fr : Fr} {k : AV → List ABox → Fr → Prop} (ys : List AV) (r : AV) (h : C.ret f ys r []) (hr : isScalR r = true) (hk : k r b fr) (hv : SeesL (SeesB b) vs ys := by repeat' first | exact SeesL.nil | refine SeesL.cons ?_ ?_ | exact SeesB.of0 (Sees0.val _) | exact SeesB.of0 (Sees0.str _) | exact SeesB.of0 (Sees0.olds _ _) | exact SeesB.of0 (Sees0.old _) | exact SeesB.of0 (Sees0.oldagg _) | exact SeesB.of0 Sees0.nil | exact Sees0.val _ | exact Sees0.str _ | exact Sees0.olds _ _ | exact Sees0.old _ | exact Sees0.oldagg _ | exact Sees0.nil | exact SeesB.of0 (Sees0.any _) | assumption | exact sees_gv _ _ _ (by assumption) (by first | assumption | exact BoxIn.last _ _ | exact BoxIn.more (BoxIn.last _ _) _) | refine SeesB.agg ?_ | refine Sees0.agg ?_ | exact SeesB.of0 (Sees0.clo SeesL.nil SeesL.nil) | exact Sees0.clo SeesL.nil SeesL.nil | exact SeesB.of0 (Sees0.list rfl) | exact Sees0.list rfl) : ACall C lend f vs b fr k := .scal ys r h hr hv hk
theorem AQCall.mkA {C : Con} {f : Nat} {vs : List AV} {gd : Bool} {b : List ABox} {k : AV → Prop} (ys : List AV) (r : AV) (h : gd = true → C.ret f ys r []) (hr : isScalR r = true) (hk : k r) (hv : gd = true → SeesL (SeesB b) vs ys := by intro _; repeat' first | exact SeesL.nil | refine SeesL.cons ?_ ?_ | exact SeesB.of0 (Sees0.val _) | exact SeesB.of0 (Sees0.str _) | exact SeesB.of0 (Sees0.olds _ _) | exact SeesB.of0 (Sees0.old _) | exact SeesB.of0 (Sees0.oldagg _) | exact SeesB.of0 Sees0.nil | exact Sees0.val _ | exact Sees0.str _ | exact Sees0.olds _ _ | exact Sees0.old _ | exact Sees0.oldagg _ | exact Sees0.nil | exact SeesB.of0 (Sees0.any _) | assumption | exact sees_gv _ _ _ (by assumption) (by first | assumption | exact BoxIn.last _ _ | exact BoxIn.more (BoxIn.last _ _) _) | refine SeesB.agg ?_ | refine Sees0.agg ?_ | exact SeesB.of0 (Sees0.clo SeesL.nil SeesL.nil) | exact Sees0.clo SeesL.nil SeesL.nil | exact SeesB.of0 (Sees0.list rfl) | exact Sees0.list rfl) : AQCall C f vs gd b k := .mk ys r h hr hv hk
theorem AGCall.mkA {C : Con} {f : Nat} {vs : List AV} {gd : Bool} {b : List ABox} {k : AV → Prop} (ys : List AV) (r : AV) (h : gd = true → C.ret f ys r []) (hr : isScalR r = true) (hk : k r) (hv : gd = true → SeesL (SeesB b) vs ys := by intro _; repeat' first | exact SeesL.nil | refine SeesL.cons ?_ ?_ | exact SeesB.of0 (Sees0.val _) | exact SeesB.of0 (Sees0.str _) | exact SeesB.of0 (Sees0.olds _ _) | exact SeesB.of0 (Sees0.old _) | exact SeesB.of0 (Sees0.oldagg _) | exact SeesB.of0 Sees0.nil | exact Sees0.val _ | exact Sees0.str _ | exact Sees0.olds _ _ | exact Sees0.old _ | exact Sees0.oldagg _ | exact Sees0.nil | exact SeesB.of0 (Sees0.any _) | assumption | exact sees_gv _ _ _ (by assumption) (by first | assumption | exact BoxIn.last _ _ | exact BoxIn.more (BoxIn.last _ _) _) | refine SeesB.agg ?_ | refine Sees0.agg ?_ | exact SeesB.of0 (Sees0.clo SeesL.nil SeesL.nil) | exact Sees0.clo SeesL.nil SeesL.nil | exact SeesB.of0 (Sees0.list rfl) | exact Sees0.list rfl) : AGCall C f vs gd b k := .scal (.mk ys r h hr hv hk)
theorem AGCall.oldA {C : Con} {f : Nat} {vs : List AV} {gd : Bool} {b : List ABox} {k : AV → Prop} (ys : List AV) (x : Tr) (h : gd = true → C.own f ys x) (hk : k (Abs.old x)) (hv : gd = true → SeesL (SeesB b) vs ys := by intro _; repeat' first | exact SeesL.nil | refine SeesL.cons ?_ ?_ | exact SeesB.of0 (Sees0.val _) | exact SeesB.of0 (Sees0.str _) | exact SeesB.of0 (Sees0.olds _ _) | exact SeesB.of0 (Sees0.old _) | exact SeesB.of0 (Sees0.oldagg _) | exact SeesB.of0 Sees0.nil | exact Sees0.val _ | exact Sees0.str _ | exact Sees0.olds _ _ | exact Sees0.old _ | exact Sees0.oldagg _ | exact Sees0.nil | exact SeesB.of0 (Sees0.any _) | assumption | exact sees_gv _ _ _ (by assumption) (by first | assumption | exact BoxIn.last _ _ | exact BoxIn.more (BoxIn.last _ _) _) | refine SeesB.agg ?_ | refine Sees0.agg ?_ | exact SeesB.of0 (Sees0.clo SeesL.nil SeesL.nil) | exact Sees0.clo SeesL.nil SeesL.nil | exact SeesB.of0 (Sees0.list rfl) | exact Sees0.list rfl) 
    (ho : okT x = true := by first | assumption | exact Ty.hok _ _ | exact ok_list _ _ _ | (simp [okT, okTL, ok_list, Ty.hok]; done)) : AGCall C f vs gd b k := .old ys x h hv ho hk
theorem ACall.mkR {C : Con} {lend : Bool} {f : Nat} {vs : List AV} {b : List ABox} {fr : Fr} {k : AV → List ABox → Fr → Prop} (ys : List AV) (r : AV) (frs : Fr) (h : C.ret f ys r frs) (hk : k (shift fr.length r) b (fr ++ frs)) (hv : SeesL Sees0 vs ys := by repeat' first | exact SeesL.nil | refine SeesL.cons ?_ ?_ | exact SeesB.of0 (Sees0.val _) | exact SeesB.of0 (Sees0.str _) | exact SeesB.of0 (Sees0.olds _ _) | exact SeesB.of0 (Sees0.old _) | exact SeesB.of0 (Sees0.oldagg _) | exact SeesB.of0 Sees0.nil | exact Sees0.val _ | exact Sees0.str _ | exact Sees0.olds _ _ | exact Sees0.old _ | exact Sees0.oldagg _ | exact Sees0.nil | exact SeesB.of0 (Sees0.any _) | assumption | exact sees_gv _ _ _ (by assumption) (by first | assumption | exact BoxIn.last _ _ | exact BoxIn.more (BoxIn.last _ _) _) | refine SeesB.agg ?_ | refine Sees0.agg ?_ | exact SeesB.of0 (Sees0.clo SeesL.nil SeesL.nil) | exact Sees0.clo SeesL.nil SeesL.nil | exact SeesB.of0 (Sees0.list rfl) | exact Sees0.list rfl) : ACall C lend f vs b fr k := .mk ys r frs h hv hk
theorem ACall.mkLA {C : Con} {lend : Bool} {f : Nat} {vs : List AV} {b : List ABox} {fr : Fr} {k : AV → List ABox → Fr → Prop} (ys : List AV) (i : Nat) (xs : List (List Tr)) (frs : Fr) (h : C.ret f ys (.list (some i) (oldLL xs)) frs)
    (hk : k (.list (some (i + fr.length)) (oldLL xs)) b (fr ++ frs)) (hv : SeesL Sees0 vs ys := by repeat' first | exact SeesL.nil | refine SeesL.cons ?_ ?_ | exact SeesB.of0 (Sees0.val _) | exact SeesB.of0 (Sees0.str _) | exact SeesB.of0 (Sees0.olds _ _) | exact SeesB.of0 (Sees0.old _) | exact SeesB.of0 (Sees0.oldagg _) | exact SeesB.of0 Sees0.nil | exact Sees0.val _ | exact Sees0.str _ | exact Sees0.olds _ _ | exact Sees0.old _ | exact Sees0.oldagg _ | exact Sees0.nil | exact SeesB.of0 (Sees0.any _) | assumption | exact sees_gv _ _ _ (by assumption) (by first | assumption | exact BoxIn.last _ _ | exact BoxIn.more (BoxIn.last _ _) _) | refine SeesB.agg ?_ | refine Sees0.agg ?_ | exact SeesB.of0 (Sees0.clo SeesL.nil SeesL.nil) | exact Sees0.clo SeesL.nil SeesL.nil | exact SeesB.of0 (Sees0.list rfl) | exact Sees0.list rfl) : ACall C lend f vs b fr k := .mkL ys i xs frs h hv hk
theorem ACall.oldA {C : Con} {lend : Bool} {f : Nat} {vs : List AV} {b : List ABox} {fr : Fr} {k : AV → List ABox → Fr → Prop} (ys : List AV) (x : Tr) (h : C.own f ys x) (hk : k (Abs.old x) b fr) (hv : SeesL (SeesB b) vs ys := by repeat' first | exact SeesL.nil | refine SeesL.cons ?_ ?_ | exact SeesB.of0 (Sees0.val _) | exact SeesB.of0 (Sees0.str _) | exact SeesB.of0 (Sees0.olds _ _) | exact SeesB.of0 (Sees0.old _) | exact SeesB.of0 (Sees0.oldagg _) | exact SeesB.of0 Sees0.nil | exact Sees0.val _ | exact Sees0.str _ | exact Sees0.olds _ _ | exact Sees0.old _ | exact Sees0.oldagg _ | exact Sees0.nil | exact SeesB.of0 (Sees0.any _) | assumption | exact sees_gv _ _ _ (by assumption) (by first | assumption | exact BoxIn.last _ _ | exact BoxIn.more (BoxIn.last _ _) _) | refine SeesB.agg ?_ | refine Sees0.agg ?_ | exact SeesB.of0 (Sees0.clo SeesL.nil SeesL.nil) | exact Sees0.clo SeesL.nil SeesL.nil | exact SeesB.of0 (Sees0.list rfl) | exact Sees0.list rfl)
    (ho : okT x = true := by first | assumption | exact Ty.hok _ _ | exact ok_list _ _ _ | (simp [okT, okTL, ok_list, Ty.hok]; done)) : ACall C lend f vs b fr k := .old ys x h hv ho hk
theorem ACall.unbA {C : Con} {lend : Bool} {f : Nat} {vs : List AV} {b : List ABox} {fr : Fr} {k : AV → List ABox → Fr → Prop} (ys : List AV) (x : Tr) (h : C.own f ys x) (hk : k (gv x b.length) (b ++ gb x b.length) fr) (hv : SeesL (SeesB b) vs ys := by repeat' first | exact SeesL.nil | refine SeesL.cons ?_ ?_ | exact SeesB.of0 (Sees0.val _) | exact SeesB.of0 (Sees0.str _) | exact SeesB.of0 (Sees0.olds _ _) | exact SeesB.of0 (Sees0.old _) | exact SeesB.of0 (Sees0.oldagg _) | exact SeesB.of0 Sees0.nil | exact Sees0.val _ | exact Sees0.str _ | exact Sees0.olds _ _ | exact Sees0.old _ | exact Sees0.oldagg _ | exact Sees0.nil | exact SeesB.of0 (Sees0.any _) | assumption | exact sees_gv _ _ _ (by assumption) (by first | assumption | exact BoxIn.last _ _ | exact BoxIn.more (BoxIn.last _ _) _) | refine SeesB.agg ?_ | refine Sees0.agg ?_ | exact SeesB.of0 (Sees0.clo SeesL.nil SeesL.nil) | exact Sees0.clo SeesL.nil SeesL.nil | exact SeesB.of0 (Sees0.list rfl) | exact Sees0.list rfl) : ACall C lend f vs b fr k := .unb ys x h hv hk

end Abs
end Go.Proofs.Ytkbblglbbfdnpaa
