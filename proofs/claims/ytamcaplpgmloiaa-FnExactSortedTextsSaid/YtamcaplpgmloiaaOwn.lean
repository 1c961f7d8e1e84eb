/-
  What a call hands back in slices of its own, as a tree.
-/
import Derived.Test.YtamcaplpgmloiaaSound15
namespace Go.Proofs.Ytamcaplpgmloiaa
namespace Abs
variable {mo : Bool}
open Go.RowKit

/-- members of a result, in slices of the call's own (whose tokens are named), and the trees that they are -/
inductive OwnA (fr : Fr) : List Tr → List AV → List Nat → Prop
  | nil : OwnA fr [] [] []
  | v (x : Value) (hp : plainV x = true) {xs : List Tr} {cs : List AV} {ts : List Nat} (h : OwnA fr xs cs ts) : OwnA fr (.v x :: xs) (.val x :: cs) ts
  | s (x : Str) {xs : List Tr} {cs : List AV} {ts : List Nat} (h : OwnA fr xs cs ts) : OwnA fr (.s x :: xs) (.str x :: cs) ts
  | nils (t sz : Nat) {xs : List Tr} {cs : List AV} {ts : List Nat} (h : OwnA fr xs cs ts) : OwnA fr (.l t sz [] :: xs) (.val (.slice none 0 0) :: cs) ts
  | l (t sz : Nat) (es : List (List Tr)) (k : Nat) (ys : List (List AV)) (hk : fr[k]? = some (t, sz, es.length)) (hl : ys.length = es.length) (hs : ∀ e ∈ es, e.length = sz) (hy : ∀ y ∈ ys, y.length = sz)
      {d1 : List Nat} (he : OwnA fr es.flatten ys.flatten d1) {xs : List Tr} {cs : List AV} {ts : List Nat} (h : OwnA fr xs cs ts) : OwnA fr (.l t sz es :: xs) (.list (some k) ys :: cs) (k :: d1 ++ ts)
  | a (fs : List Tr) (us : List AV) {d1 : List Nat} (he : OwnA fr fs us d1) {xs : List Tr} {cs : List AV} {ts : List Nat} (h : OwnA fr xs cs ts) : OwnA fr (.a fs :: xs) (.agg us :: cs) (d1 ++ ts)
  | av (fs : List Tr) (us : Array Value) (h1 : us.toList.all (·.oneCell') = true) {d1 : List Nat} (he : OwnA fr fs (us.toList.map constAV) d1) {xs : List Tr} {cs : List AV} {ts : List Nat} (h : OwnA fr xs cs ts) :
      OwnA fr (.a fs :: xs) (.val (.agg us) :: cs) (d1 ++ ts)
  | p (fs : List Tr) (us : List AV) {d1 : List Nat} (he : OwnA fr fs us d1) {xs : List Tr} {cs : List AV} {ts : List Nat} (h : OwnA fr xs cs ts) : OwnA fr (.p fs :: xs) (.tup us :: cs) (d1 ++ ts)

theorem OwnA.own {B : Nat} {w : World} {F : Nat → Nat} {tok : List (Option Nat)} {fr : Fr} {xs : List Tr} {cs : List AV} {ts : List Nat} (h : OwnA fr xs cs ts) :
    ∀ {vs : List Value} {box : List BId}, Both (Rep B w F tok fr box) cs vs → OwnL w xs vs (ts.filterMap fun k => (tok[k]?).join) := by
  induction h with
  | nil =>
    intro vs box hb
    have : vs = [] := List.eq_nil_of_length_eq_zero (by have := hb.1; simpa using this.symm)
    subst this; exact .nil
  | v x hp _ ih =>
    intro vs box hb
    cases vs with
    | nil => simp [Both] at hb
    | cons v vs =>
      obtain ⟨b1, b2⟩ := Both.cons.1 hb
      rw [b1.val_inv]; exact .v x hp (ih b2)
  | s x _ ih =>
    intro vs box hb
    cases vs with
    | nil => simp [Both] at hb
    | cons v vs =>
      obtain ⟨b1, b2⟩ := Both.cons.1 hb
      cases b1; exact .s x (ih b2)
  | nils t sz _ ih =>
    intro vs box hb
    cases vs with
    | nil => simp [Both] at hb
    | cons v vs =>
      obtain ⟨b1, b2⟩ := Both.cons.1 hb
      rw [b1.val_inv]; exact .none t sz (ih b2)
  | l t sz es k ys hk hl hs hy he _ ih1 ih2 =>
    intro vs box hb
    cases vs with
    | nil => simp [Both] at hb
    | cons v vs =>
      obtain ⟨b1, b2⟩ := Both.cons.1 hb
      cases b1 with
      | list _ _ a cap sz' b off us hcap ha hsz hF hc hr ho =>
        obtain ⟨t', s', n', hfr, hle, hown⟩ := ho k rfl
        rw [hk] at hfr; cases hfr
        obtain ⟨rfl, ⟨vals, hv⟩, htok, _⟩ := hown hl
        rw [hl] at hv
        rcases hv.2 with ⟨hn, hz⟩ | ⟨g, cap', cur, hn, hBg, hg, hncap, hcm, hcs, htake⟩
        · have he0 : es = [] := List.eq_nil_of_length_eq_zero hz
          subst he0
          simp only [Value.slice.injEq] at hn
          obtain ⟨rfl, _, rfl⟩ := hn
          have hys : ys = [] := List.eq_nil_of_length_eq_zero (by simpa using hl)
          subst hys
          have hd : (tok[k]?).join = none := by rw [htok]; rfl
          cases he
          simp only [List.cons_append, List.nil_append, List.filterMap_cons, hd, List.length_nil]
          exact .none t _ (ih2 b2)
        · simp only [Value.slice.injEq] at hn
          obtain ⟨rfl, _, rfl⟩ := hn
          have hd : (tok[k]?).join = some g := by rw [htok]; rfl
          have hcell : ∀ q, w.cell? ⟨g, q, none⟩ = cur[q]? := fun q => cell_of_row w g q cur t (0, 0) hg
          -- the row's values, one by one
          have hvl : vals.length = es.length * sz := hv.1
          have hfl : ys.flatten.length = es.length * sz := by rw [length_flatten' sz ys hsz, hl]
          have hboth : Both (Rep B w F tok fr []) ys.flatten vals := by
            refine ⟨by rw [hfl, hvl], fun q x u hx hu => ?_⟩
            have hq := getElem?_lt hx
            rw [hfl] at hq
            have hpos : 0 < sz := by
              rcases Nat.eq_zero_or_pos sz with h | h
              · rw [h] at hq; simp at hq
              · exact h
            have h1 : q % sz < sz := Nat.mod_lt _ hpos
            have h2 : q / sz < ys.length := by rw [hl]; exact (Nat.div_lt_iff_lt_mul hpos).2 hq
            have h3 : q = q / sz * sz + q % sz := by rw [Nat.mul_comm]; exact (Nat.div_add_mod _ _).symm
            have hyl : (ys[q / sz]'h2).length = sz := hsz _ (List.getElem_mem h2)
            have hg1 : ys[q / sz]? = some (ys[q / sz]'h2) := List.getElem?_eq_getElem h2
            have hg2 : (ys[q / sz]'h2)[q % sz]? = some ((ys[q / sz]'h2)[q % sz]'(by omega)) := List.getElem?_eq_getElem (by omega)
            have hf := flatten_get sz ys (q / sz) (q % sz) _ _ hsz hg1 hg2
            rw [← h3, hx] at hf
            cases hf
            have hne : ys ≠ [] := by intro h; rw [h] at h2; simp at h2
            have hab := ha hne
            simp only [Option.some.injEq, Addr.mk.injEq] at hab
            obtain ⟨rfl, rfl, _⟩ := hab
            obtain ⟨c1, c2⟩ := hc _ _ _ _ hg1 hg2
            rw [Nat.zero_add, ← h3, hcell] at c1
            have c3 : vals[q]? = cur[q]? := by rw [← htake, List.getElem?_take, if_pos hq]; simp
            rw [hu, c1] at c3
            cases c3
            exact hr _ _ _ _ hg1 hg2
          have hone : ∀ u ∈ vals, u.oneCell' = true := fun u hu => by
            obtain ⟨q, hq⟩ := List.getElem?_of_mem hu
            have hql := getElem?_lt hq
            rw [hvl] at hql
            have hpos : 0 < sz := by
              rcases Nat.eq_zero_or_pos sz with h | h
              · rw [h] at hql; simp at hql
              · exact h
            have h1 : q % sz < sz := Nat.mod_lt _ hpos
            have h2 : q / sz < ys.length := by rw [hl]; exact (Nat.div_lt_iff_lt_mul hpos).2 hql
            have h3 : q = q / sz * sz + q % sz := by rw [Nat.mul_comm]; exact (Nat.div_add_mod _ _).symm
            have hyl : (ys[q / sz]'h2).length = sz := hsz _ (List.getElem_mem h2)
            have hg1 : ys[q / sz]? = some (ys[q / sz]'h2) := List.getElem?_eq_getElem h2
            have hg2 : (ys[q / sz]'h2)[q % sz]? = some ((ys[q / sz]'h2)[q % sz]'(by omega)) := List.getElem?_eq_getElem (by omega)
            have hne : ys ≠ [] := by intro h; rw [h] at h2; simp at h2
            have hab := ha hne
            simp only [Option.some.injEq, Addr.mk.injEq] at hab
            obtain ⟨rfl, rfl, _⟩ := hab
            obtain ⟨c1, c2⟩ := hc _ _ _ _ hg1 hg2
            rw [Nat.zero_add, ← h3, hcell] at c1
            have c3 : vals[q]? = cur[q]? := by rw [← htake, List.getElem?_take, if_pos hql]; simp
            rw [hq, c1] at c3
            cases c3
            exact c2
          simp only [List.cons_append, List.filterMap_cons, hd, List.filterMap_append, hl]
          exact .l t _ es g cap cur vals hg hcs hncap hcm hs htake hone (ih1 hboth) (ih2 b2)
  | a fs us _ _ ih1 ih2 =>
    intro vs box hb
    cases vs with
    | nil => simp [Both] at hb
    | cons v vs =>
      obtain ⟨b1, b2⟩ := Both.cons.1 hb
      cases b1 with
      | agg _ ws hl h1 hr =>
        rw [List.filterMap_append]
        have hg : ∀ i u, ws.toList[i]? = some u → u = ws.getD i undef ∧ i < ws.size := fun i u hu => by
          have hu' : ws[i]? = some u := by simpa using hu
          have hi := (Array.getElem?_eq_some_iff.1 hu').1
          exact ⟨by simp [Array.getD, hi, (Array.getElem?_eq_some_iff.1 hu').2], hi⟩
        refine .a fs ws (fun u hu => ?_) (ih1 (box := box) ⟨by simpa using hl, fun i x u hx hu => ?_⟩) (ih2 b2)
        · obtain ⟨i, hi⟩ := List.getElem?_of_mem hu
          obtain ⟨e1, e2⟩ := hg i u hi
          rw [e1]; exact h1 i e2
        · rw [(hg i u hu).1]; exact hr i x hx
  | av fs us h1 _ _ ih1 ih2 =>
    intro vs box hb
    cases vs with
    | nil => simp [Both] at hb
    | cons v vs =>
      obtain ⟨b1, b2⟩ := Both.cons.1 hb
      rw [b1.val_inv, List.filterMap_append]
      refine .a fs us (fun u hu => List.all_eq_true.1 h1 u hu) (ih1 (box := box) ⟨by simp, fun i x u hx hu => ?_⟩) (ih2 b2)
      rw [List.getElem?_map, hu] at hx
      cases hx
      exact constAV_rep u
  | p fs us _ _ ih1 ih2 =>
    intro vs box hb
    cases vs with
    | nil => simp [Both] at hb
    | cons v vs =>
      obtain ⟨b1, b2⟩ := Both.cons.1 hb
      cases b1 with
      | tup _ ws hl hr =>
        rw [List.filterMap_append]
        refine .p fs ws (ih1 (box := box) ⟨by simpa using hl, fun i x u hx hu => ?_⟩) (ih2 b2)
        have hu' : ws[i]? = some u := by simpa using hu
        have hi := (Array.getElem?_eq_some_iff.1 hu').1
        have e1 : u = ws.getD i undef := by simp [Array.getD, hi, (Array.getElem?_eq_some_iff.1 hu').2]
        rw [e1]; exact hr i x hx

theorem ARet.own {P : Program} {f : Nat} {args : List AV} {r : AV} {frs : Fr} (h : ARet mo P f args r frs) {x : Tr} {ts : List Nat} (ho : OwnA frs [x] [r] ts) (hn : ts.Nodup) : ORet mo P f args x := by
  refine ⟨h.1, fun w F vs hout hargs => (h.2 w F vs hout hargs).mono ?_⟩
  rintro e w' ⟨v, F', tok, box, rfl, hb, _, _, htl, htin, htinj, hrep⟩
  have hget : ∀ d, d ∈ ts.filterMap (fun k => (tok[k]?).join) → ∃ k ∈ ts, tok[k]? = some (some d) := fun d hd => by
    obtain ⟨k, hk, he⟩ := List.mem_filterMap.1 hd
    cases h : tok[k]? with
    | none => rw [h] at he; cases he
    | some o => rw [h] at he; cases o with
      | none => cases he
      | some b => cases he; exact ⟨k, hk, h⟩
  refine ⟨v, ts.filterMap fun k => (tok[k]?).join, rfl, hb, ho.own (F := F') (box := box) (Both.cons.2 ⟨hrep, rfl, by simp⟩), ?_, fun d hd => ?_⟩
  · clear hrep ho
    induction ts with
    | nil => simp
    | cons k ts ih =>
      obtain ⟨n1, n2⟩ := List.nodup_cons.1 hn
      have hget' : ∀ d, d ∈ ts.filterMap (fun k => (tok[k]?).join) → ∃ k ∈ ts, tok[k]? = some (some d) := fun d hd => by
        obtain ⟨k, hk, he⟩ := List.mem_filterMap.1 hd
        cases h : tok[k]? with
        | none => rw [h] at he; cases he
        | some o => rw [h] at he; cases o with
          | none => cases he
          | some b => cases he; exact ⟨k, hk, h⟩
      rw [List.filterMap_cons]
      split
      · exact ih n2 hget'
      · rename_i b hb'
        refine List.nodup_cons.2 ⟨fun hm => ?_, ih n2 hget'⟩
        obtain ⟨k', hk', he'⟩ := hget' b hm
        have he : tok[k]? = some (some b) := by
          cases h : tok[k]? with
          | none => rw [h] at hb'; cases hb'
          | some o => rw [h] at hb'; cases o with
            | none => cases hb'
            | some b => cases hb'; rfl
        exact n1 (htinj k k' b he he' ▸ hk')
  · obtain ⟨k, _, hk⟩ := hget d hd
    exact htin k d hk
end Abs
end Go.Proofs.Ytamcaplpgmloiaa
