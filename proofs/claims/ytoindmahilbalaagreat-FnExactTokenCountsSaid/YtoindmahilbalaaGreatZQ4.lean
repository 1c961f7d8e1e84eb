/-
  What stands below some laws' proofs, part 4: contracts of functions, by an evaluator.
-/
import Derived.Test.YtoindmahilbalaaGreatZQ3
namespace Go.Proofs.YtoindmahilbalaaGreat
open Abs
theorem Abs.Need.finN {p q : Prop} (k : q) (h : p := by intros; (try simp only [length_strs] at *); (try simp only [length_rows] at *); (try simp only [length_oldLL, List.length_map, Int.toNat_natCast] at *); (try simp only [Bool.and_eq_true, decide_eq_true_eq] at *); omega) : Need p q := ⟨h, k⟩
theorem Abs.Ix.strsN {gd : Bool} {l : List Str} {i : Int} {sz : Nat} {k : List AV → Prop} (hs : 1 = sz) (hk : k [.str (l.getD i.toNat [])]) (h : gd = true → 0 ≤ i ∧ i < l.length := by intros; (try simp only [length_strs] at *); (try simp only [length_rows] at *); (try simp only [length_oldLL, List.length_map, Int.toNat_natCast] at *); (try simp only [Bool.and_eq_true, decide_eq_true_eq] at *); omega) : Ix gd (Abs.strs l) i sz k := Ix.strs hs h hk
theorem Abs.Ix.mapN {α : Type} [Inhabited α] {gd : Bool} {l : List α} {q : α → List Tr} {i : Int} {sz : Nat} {k : List AV → Prop} (hs : ∀ a, (q a).length = sz) (hk : k (oldL (q (l.getD i.toNat default)))) (h : gd = true → 0 ≤ i ∧ i < l.length := by intros; (try simp only [length_strs] at *); (try simp only [length_rows] at *); (try simp only [length_oldLL, List.length_map, Int.toNat_natCast] at *); (try simp only [Bool.and_eq_true, decide_eq_true_eq] at *); omega) : Ix gd (oldLL (l.map q)) i sz k := Ix.map hs h hk
theorem Abs.Fork.decY {c : Prop} [Decidable c] {p q : Prop} (k : p) (h : c := by (try simp only [length_oldLL, length_rows, length_strs, length_tks, List.length_map, Int.toNat_natCast]); omega) : Fork (decide c) p q := .decYes h k
theorem Abs.Fork.decN {c : Prop} [Decidable c] {p q : Prop} (k : q) (h : ¬ c := by (try simp only [length_oldLL, length_rows, length_strs, length_tks, List.length_map, Int.toNat_natCast]); omega) : Fork (decide c) p q := .decNo h k
theorem Abs.Fork.andY {a b : Prop} [Decidable a] [Decidable b] {p q : Prop} (k : p) (h : a ∧ b := by (try simp only [length_oldLL, length_rows, length_strs, length_tks, List.length_map, Int.toNat_natCast]); omega) : Fork (decide a && decide b) p q := .yes (by simp [h.1, h.2]) k
theorem Abs.Fork.andN {a b : Prop} [Decidable a] [Decidable b] {p q : Prop} (k : q) (h : ¬ (a ∧ b) := by (try simp only [length_oldLL, length_rows, length_strs, length_tks, List.length_map, Int.toNat_natCast]); omega) : Fork (decide a && decide b) p q := .no (by rw [← Bool.decide_and]; exact decide_eq_false h) k
theorem ok_strT (l : List Str) : okT (strT l) = true := ok_list Ty.str _ l
theorem Abs.SeesB.bptr1 {bx : List ABox} {j : Nat} {x y : AV} (hj : bx[j]? = some (.cells .var [x])) (h : SeesB bx x y) (hn : noRef y = true) : SeesB bx (.bptr j 0) (.rptr [y]) :=
  SeesB.bptr (off := 0) (ys := [y]) hj (SeesL.cons h SeesL.nil) (fun z hz => by rw [List.mem_singleton.1 hz]; exact hn)
theorem Abs.Sees0.takeold {n : Nat} {xs : List Tr} (h : xs.length = n) : Sees0 (.agg (List.take n (oldL xs))) (.agg (oldL xs)) := by
  rw [List.take_of_length_le (by rw [oldL_eq, List.length_map, h]; exact Nat.le_refl _)]
  exact Sees0.oldagg xs
theorem Abs.Sees0.rptrL (xs : List (List Tr)) : Sees0 (.rptr [.list none (oldLL xs)]) (.rptr [.list none (oldLL xs)]) := Sees0.erase (by
  show AV.rptr [AV.list none (mapTLL noTok (oldLL xs))] = _
  rw [mapTLL_old])
theorem Abs.ACall.scalC {C : Con} {lend : Bool} {f : Nat} {vs : List AV} {b : List ABox} {fr : Fr} {k : AV → List ABox → Fr → Prop} (ys : List AV) (r : AV) (h : C.ret f ys r []) (hr : isScalR r = true) (hk : k r b fr)
    (hv : SeesL (SeesB b) vs ys := by repeat' first | exact SeesL.nil | refine SeesL.cons ?_ ?_ | exact SeesB.of0 (Sees0.val _) | exact SeesB.of0 (Sees0.str _) | exact SeesB.of0 (Sees0.olds _ _) | exact SeesB.of0 (Sees0.old _) | exact SeesB.of0 (Sees0.oldagg _) | exact SeesB.of0 Sees0.nil | exact SeesB.of0 (Sees0.clo SeesL.nil SeesL.nil) | refine SeesB.of0 (Sees0.takeold (n := _) ?_) | exact SeesB.of0 (Sees0.rptrL _) | exact SeesB.of0 (Sees0.erase rfl) | exact SeesB.of0 (Sees0.list rfl) | refine SeesB.clo ?_ ?_ | refine SeesB.bptr1 rfl ?_ rfl | refine SeesB.agg ?_ | rfl) : ACall C lend f vs b fr k := .scal ys r h hr hv hk
theorem Abs.AGCall.scalC {C : Con} {f : Nat} {vs : List AV} {gd : Bool} {b : List ABox} {k : AV → Prop} (ys : List AV) (r : AV) (h : gd = true → C.ret f ys r []) (hr : isScalR r = true) (hk : k r)
    (hv : SeesL (SeesB b) vs ys := by repeat' first | exact SeesL.nil | refine SeesL.cons ?_ ?_ | exact SeesB.of0 (Sees0.val _) | exact SeesB.of0 (Sees0.str _) | exact SeesB.of0 (Sees0.olds _ _) | exact SeesB.of0 (Sees0.old _) | exact SeesB.of0 (Sees0.oldagg _) | exact SeesB.of0 Sees0.nil | exact SeesB.of0 (Sees0.clo SeesL.nil SeesL.nil) | refine SeesB.of0 (Sees0.takeold (n := _) ?_) | exact SeesB.of0 (Sees0.rptrL _) | exact SeesB.of0 (Sees0.erase rfl) | exact SeesB.of0 (Sees0.list rfl) | refine SeesB.clo ?_ ?_ | refine SeesB.bptr1 rfl ?_ rfl | refine SeesB.agg ?_ | rfl) : AGCall C f vs gd b k := .scal (.mk ys r h hr (fun _ => hv) hk)
theorem mem_insB {l : List Str} {x : Str} : x ∈ insAll blt l ↔ x ∈ l := insAll_mem blt_sto l x
theorem insB_congr {l m : List Str} (h : ∀ x, x ∈ l ↔ x ∈ m) : insAll blt l = insAll blt m :=
  Asc.unique blt_sto (insAll_asc blt_sto l) (insAll_asc blt_sto m) fun x => by rw [mem_insB, mem_insB]; exact h x
theorem insB_left (l m : List Str) : insAll blt (insAll blt l ++ m) = insAll blt (l ++ m) := insB_congr fun x => by simp [mem_insB]
section
variable {α : Type}
def fm (f : α → List Str) (l : List α) : List Str := l.flatMap f
theorem fm_take (d : α) (f : α → List Str) {l : List α} {i : Nat} (h : i < l.length) : fm f (l.take (i + 1)) = fm f (l.take i) ++ f (l.getD i d) := by
  rw [take_succ' d h]; simp [fm]
theorem fm_mem {f : α → List Str} {l : List α} {x : Str} : x ∈ fm f l ↔ ∃ a ∈ l, x ∈ f a := by simp [fm]
theorem fm_len (T : Ty α) (f : α → List Str) (h : ∀ a, (f a).length ≤ T.size a) : ∀ l : List α, (fm f l).length ≤ listSize T l
  | [] => Nat.le_refl _
  | a :: l => by
    have ih := fm_len T f h l
    have e : listSize T (a :: l) = T.size a + listSize T l := rfl
    have e2 : fm f (a :: l) = f a ++ fm f l := rfl
    have := h a
    rw [e, e2, List.length_append]; omega
theorem fm_lenT (T : Ty α) (f : α → List Str) (h : ∀ a, (f a).length ≤ T.size a) (l : List α) (i : Nat) : (fm f (l.take i)).length ≤ listSize T l :=
  Nat.le_trans (fm_len T f h _) (listSize_take_le T l i)
theorem size_app (l m : List Str) : listSize Ty.str (l ++ m) = listSize Ty.str l + listSize Ty.str m := by
  induction l with
  | nil => simp [listSize]
  | cons x l ih =>
    have e : listSize Ty.str (x :: l) = x.length + listSize Ty.str l := rfl
    have e2 : listSize Ty.str (x :: l ++ m) = x.length + listSize Ty.str (l ++ m) := rfl
    rw [e, e2, ih]; omega
end
theorem cvF_size (x : VCond) : listSize Ty.str (cvF x) ≤ tCond.size x := by
  have hz := tCond_sz x
  have e : listSize Ty.str [x.2.2.1, x.2.2.2] = x.2.2.1.length + (x.2.2.2.length + 0) := rfl
  rw [cvF, size_app, e]; omega
theorem ins_vs_len (l : List Str) : (insAll blt (vs l)).length ≤ listSize Ty.str l := Nat.le_trans (insAll_le _) (vs_sz l)
theorem tAction_sz (a : VAction) : tAction.size a = a.2.1.length + (a.2.2.length + listSize Ty.str a.2.2) := by
  have h : tAction.size a = 0 + tFct.size a.2 := rfl
  rw [h, tFct_size, tStrs_size]; omega
theorem tRule_sz (r : VRule) : tRule.size r = r.1.length + (r.2.2.1.length + listSize tCond r.2.2.1) + (r.2.2.2.length + listSize tAction r.2.2.2) := by
  have h1 : tConds.size r.2.2.1 = r.2.2.1.length + listSize tCond r.2.2.1 := rfl
  have h2 : tActions.size r.2.2.2 = r.2.2.2.length + listSize tAction r.2.2.2 := rfl
  rw [tRule_size, h1, h2]; omega
def bvC (x : VCond) : List Str := if x.1 = 1 then insAll blt (vs x.2.1.2) else []
def cvC (x : VCond) : List Str := insAll blt (vs (cvF x))
def avC (a : VAction) : List Str := insAll blt (vs a.2.2)
theorem bvC_len (x : VCond) : (bvC x).length ≤ tCond.size x := by
  have hz := tCond_sz x
  have := ins_vs_len x.2.1.2
  unfold bvC; split
  · omega
  · simp
theorem cvC_len (x : VCond) : (cvC x).length ≤ tCond.size x := Nat.le_trans (ins_vs_len _) (cvF_size x)
theorem avC_len (x : VAction) : (avC x).length ≤ tAction.size x := by
  have hz := tAction_sz x
  have := ins_vs_len x.2.2
  unfold avC; omega
def isActF (a : VAction) : Bool := if hasKind a.1 then isPatF a.2 else if a.1 = 3 then zeroP a.2 else false
def bvF (l : List VCond) (n : Nat) : List Str := insAll blt (fm bvC (l.take n))
def cvsF (l : List VCond) : List Str := insAll blt (fm cvC l)
def rvF (l : List VCond) (m : List VAction) : List Str := insAll blt (fm cvC l ++ fm avC m)
def elseF (l : List VCond) (m : List VAction) (i : Nat) (v : Str) : Bool := decide (v ∈ fm cvC (l.take i ++ l.drop (i + 1)) ++ fm avC m)
def okV (l : List VCond) (m : List VAction) (i : Nat) (x : VCond) (v : Str) : Bool := decide (v ∈ bvF l i) || (!isTestF x && !(x.1 == 2 && elseF l m i v))
def okC (l : List VCond) (m : List VAction) (i : Nat) (x : VCond) : Bool := isCondF x && (!(i == 0) || x.1 == 1) && (cvC x).all (okV l m i x)
def okA (b : List Str) (a : VAction) : Bool := isActF a && (avC a).all fun v => decide (v ∈ b)
def isRuleF (r : VRule) : Bool :=
  nameF r.1 && decide (0 ≤ r.2.1) && decide (r.2.1 ≤ 9) && decide (1 ≤ r.2.2.1.length) && decide (r.2.2.1.length ≤ 4) && decide (1 ≤ r.2.2.2.length) && decide (r.2.2.2.length ≤ 2)
    && ((List.range r.2.2.1.length).all fun i => okC r.2.2.1 r.2.2.2 i (r.2.2.1.getD i default)) && r.2.2.2.all (okA (bvF r.2.2.1 r.2.2.1.length)) && decide ((cvsF r.2.2.1).length ≤ 6)
theorem bvC_sub {x : VCond} {v : Str} (h : v ∈ bvC x) : v ∈ cvC x := by
  unfold bvC at h
  split at h
  · rw [cvC, mem_insB]
    rw [mem_insB] at h
    rw [cv_eq]
    simp [h]
  · cases h
theorem bvF_mem {l : List VCond} {n : Nat} {v : Str} : v ∈ bvF l n ↔ ∃ x ∈ l.take n, v ∈ bvC x := by rw [bvF, mem_insB, fm_mem]
theorem rv_cvs {l : List VCond} {m : List VAction} (h : m.all (okA (bvF l l.length)) = true) : rvF l m = cvsF l := by
  refine insB_congr fun v => ?_
  rw [List.mem_append]
  refine ⟨fun hv => ?_, .inl⟩
  rcases hv with hv | hv
  · exact hv
  · obtain ⟨a, ha, hv⟩ := fm_mem.1 hv
    have h1 := List.all_eq_true.1 h a ha
    rw [okA, Bool.and_eq_true] at h1
    have h2 := of_decide_eq_true (List.all_eq_true.1 h1.2 v hv)
    obtain ⟨x, hx, hv⟩ := bvF_mem.1 h2
    rw [List.take_length] at hx
    exact fm_mem.2 ⟨x, hx, bvC_sub hv⟩
theorem rule_no {r : VRule} (h : ¬ (nameF r.1 = true ∧ 0 ≤ r.2.1 ∧ r.2.1 ≤ 9 ∧ 1 ≤ r.2.2.1.length ∧ r.2.2.1.length ≤ 4 ∧ 1 ≤ r.2.2.2.length ∧ r.2.2.2.length ≤ 2)) : isRuleF r = false := by
  rw [Bool.eq_false_iff]
  intro h'
  simp only [isRuleF, Bool.and_eq_true, decide_eq_true_eq] at h'
  exact h ⟨h'.1.1.1.1.1.1.1.1.1, h'.1.1.1.1.1.1.1.1.2, h'.1.1.1.1.1.1.1.2, h'.1.1.1.1.1.1.2, h'.1.1.1.1.1.2, h'.1.1.1.1.2, h'.1.1.1.2⟩
theorem rule_noC {r : VRule} {i : Nat} (hi : i < r.2.2.1.length) (h : okC r.2.2.1 r.2.2.2 i (r.2.2.1.getD i default) = false) : isRuleF r = false := by
  have : ((List.range r.2.2.1.length).all fun i => okC r.2.2.1 r.2.2.2 i (r.2.2.1.getD i default)) = false := by
    rw [List.all_eq_false]
    exact ⟨i, List.mem_range.2 hi, by rw [h]; simp⟩
  rw [isRuleF, this, Bool.and_false, Bool.false_and, Bool.false_and]
theorem getD_mem {α : Type} [Inhabited α] {l : List α} {i : Nat} (hi : i < l.length) : l.getD i default ∈ l := by simp [List.getD, hi]
theorem rule_noA {r : VRule} {i : Nat} (hi : i < r.2.2.2.length) (h : okA (bvF r.2.2.1 r.2.2.1.length) (r.2.2.2.getD i default) = false) : isRuleF r = false := by
  have : r.2.2.2.all (okA (bvF r.2.2.1 r.2.2.1.length)) = false := by
    rw [List.all_eq_false]
    exact ⟨_, getD_mem hi, by rw [h]; simp⟩
  simp [isRuleF, this]
theorem rule_yes {r : VRule} (h : nameF r.1 = true ∧ 0 ≤ r.2.1 ∧ r.2.1 ≤ 9 ∧ 1 ≤ r.2.2.1.length ∧ r.2.2.1.length ≤ 4 ∧ 1 ≤ r.2.2.2.length ∧ r.2.2.2.length ≤ 2)
    (hc : ∀ i, i < r.2.2.1.length → okC r.2.2.1 r.2.2.2 i (r.2.2.1.getD i default) = true) (ha : ∀ i, i < r.2.2.2.length → okA (bvF r.2.2.1 r.2.2.1.length) (r.2.2.2.getD i default) = true) :
    isRuleF r = decide ((rvF r.2.2.1 r.2.2.2).length ≤ 6) := by
  have h1 : ((List.range r.2.2.1.length).all fun i => okC r.2.2.1 r.2.2.2 i (r.2.2.1.getD i default)) = true := List.all_eq_true.2 fun i hi => hc i (List.mem_range.1 hi)
  have h2 : r.2.2.2.all (okA (bvF r.2.2.1 r.2.2.1.length)) = true := List.all_eq_true.2 fun a ha' => by
    obtain ⟨i, hi⟩ := List.getElem?_of_mem ha'
    have hl := getElem?_lt hi
    have := ha i hl
    have e : r.2.2.2.getD i default = a := by simp [List.getD, hi]
    rwa [e] at this
  obtain ⟨a1, a2, a3, a4, a5, a6, a7⟩ := h
  rw [rv_cvs h2]
  simp only [isRuleF, a1, a2, a3, a4, a5, a6, a7, h1, h2, decide_true, Bool.and_self, Bool.true_and]
end Go.Proofs.YtoindmahilbalaaGreat
namespace Go.Proofs.YtoindmahilbalaaGreat
open Abs
abbrev tokT (ts : List VToken) : Tr := .l 90 2 (ts.map tToken.q)
abbrev TA := AccO tToken 90 0
theorem tok_own {F : Fr} {kf kb : Nat} {fs : List Fct} {m : List VPair} {ys : List (List AV)} {us : List Nat} (h : AccO tFct 86 kf F fs ys us) (hb : F[kb]? = some (141, 2, m.length)) (hne : kb ≠ kf) (hbu : kb ∉ us) :
    ∃ vs, OwnA F (tToken.q (fs, m)) [.list (some kf) ys, .list (some kb) (pairs m)] vs ∧ vs.Nodup ∧ ∀ j ∈ vs, j = kf ∨ j = kb ∨ j ∈ us := by
  have h1 : OwnA F [.l 141 2 (m.map tPair.q)] [.list (some kb) (pairs m)] [kb] := plain_ownA tPair (fun _ => rfl) (fun _ => rfl) F _ kb m hb .nil
  refine ⟨kf :: us ++ [kb], .l 86 2 (fs.map tFct.q) kf ys (by rw [h.hk, List.length_map]; rfl) (by rw [h.hl, List.length_map]) (fun e he => ?_) h.hs h.own h1, ?_, fun j hj => ?_⟩
  · obtain ⟨a, _, rfl⟩ := List.mem_map.1 he
    exact tFct.hq a
  · rw [List.cons_append, List.nodup_cons, List.nodup_append]
    refine ⟨fun hm => ?_, h.nd, by simp, fun a ha b hb' e => ?_⟩
    · rcases List.mem_append.1 hm with hm | hm
      · exact h.kn hm
      · exact hne (List.mem_singleton.1 hm).symm
    · rw [List.mem_singleton.1 hb'] at e; exact hbu (e ▸ ha)
  · rcases List.mem_append.1 hj with hj | hj
    · rcases List.mem_cons.1 hj with hj | hj
      · exact .inl hj
      · exact .inr (.inr hj)
    · exact .inr (.inl (List.mem_singleton.1 hj))
theorem tok_step {F : Fr} {acc : List VToken} {ys : List (List AV)} {ts : List Nat} (hA : TA F acc ys ts) (fs : List Fct) (f : Fct) (m : List VPair) {n n1 n2 c c' : Nat} (hn : n = F.length) (hn1 : n1 = n + 1 + (frs tFct fs).length) (hn2 : n2 = n1 + 1) (hc : c = fs.length + 1) (hc' : c' = acc.length + 1) :
    ∃ us, TA ((((F ++ [(141, 2, m.length)]) ++ tFcts.fr fs ++ tFct.fr f).set n1 (86, 2, c)).set 0 (90, 2, c')) (acc ++ [(fs ++ [f], m)]) (ys ++ [[.list (some n1) (tks tFct fs (n + 1) ++ [tFct.tk f n2]), .list (some n) (pairs m)]]) us := by
  subst hn hn1 hn2 hc
  obtain ⟨us1, h1, g1⟩ := AccO.ofTks tFct 86 fs (F ++ [(141, 2, m.length)])
  have hl1 : (F ++ [(141, 2, m.length)]).length = F.length + 1 := by simp
  rw [hl1] at h1 g1
  have hfr : tFcts.fr fs = frs tFct fs ++ [(86, tFct.sz, fs.length)] := rfl
  rw [hfr]
  generalize hF2 : (F ++ [(141, 2, m.length)]) ++ (frs tFct fs ++ [(86, tFct.sz, fs.length)]) = F2 at h1 ⊢
  have hl2 : F2.length = F.length + 1 + (frs tFct fs).length + 1 := by rw [← hF2]; simp; omega
  obtain ⟨us2, h2, n2, g2⟩ := tFct.tkOwn f (n := F.length + 1 + (frs tFct fs).length + 1) (F := F2 ++ tFct.fr f) (fun i x hi => by rw [List.getElem?_append_right (by omega), hl2, Nat.add_sub_cancel_left]; exact hi)
  have h3 := (h1.grow (tFct.fr f)).snoc (m := fs.length + 1) f _ us2 rfl h2 n2 (fun j hj => by
    have := g2 j hj
    exact ⟨by omega, fun hm => by have := (g1 j hm).2; omega⟩)
  have hbk : ((F2 ++ tFct.fr f).set (F.length + 1 + (frs tFct fs).length) (86, tFct.sz, fs.length + 1))[F.length]? = some (141, 2, m.length) := by
    rw [List.getElem?_set, if_neg (by omega), List.getElem?_append_left (by omega), ← hF2, List.getElem?_append_left (by simp), List.getElem?_append_right (Nat.le_refl _), Nat.sub_self]; rfl
  have hF3 : ∀ j, j < F.length → ((F2 ++ tFct.fr f).set (F.length + 1 + (frs tFct fs).length) (86, tFct.sz, fs.length + 1))[j]? = F[j]? := fun j hj => by
    rw [List.getElem?_set, if_neg (by omega), List.getElem?_append_left (by omega), ← hF2, List.getElem?_append_left (by simp; omega), List.getElem?_append_left hj]
  obtain ⟨vs, o1, o2, o3⟩ := tok_own h3 hbk (by omega) (fun hm => by
    rcases List.mem_append.1 hm with hm | hm
    · have := (g1 _ hm).1; omega
    · have := (g2 _ hm).1; omega)
  have hA' : TA ((F2 ++ tFct.fr f).set (F.length + 1 + (frs tFct fs).length) (86, tFct.sz, fs.length + 1)) acc ys ts :=
    ⟨by rw [hF3 0 hA.klt]; exact hA.hk, hA.hl, hA.hs, hA.own.mono fun j hj => hF3 j (hA.own.lt j hj), hA.nd, hA.kn⟩
  have h0 := hA.klt
  refine ⟨_, hA'.snoc _ _ vs hc' o1 o2 fun j hj => ?_⟩
  have hlow : ∀ j, j ∈ vs → F.length ≤ j := fun j hj => by
    rcases o3 j hj with h | h | h
    · omega
    · omega
    · rcases List.mem_append.1 h with h | h
      · have := (g1 _ h).1; omega
      · have := (g2 _ h).1; omega
  have := hlow j hj
  exact ⟨by omega, fun hm => by have := hA.own.lt j hm; omega⟩
theorem tok_head {F : Fr} {acc : List VToken} {ys : List (List AV)} {ts : List Nat} (hA : TA F acc ys ts) (fs : List Fct) (f : Fct) (m : List VPair) :
    (((F ++ [(141, 2, m.length)]) ++ tFcts.fr fs ++ tFct.fr f).set (F.length + 1 + (frs tFct fs).length) (86, 2, fs.length + 1))[0]? = some (90, 2, ys.length) := by
  have := hA.klt
  rw [List.getElem?_set, if_neg (by omega), List.getElem?_append_left (by simp; omega), List.getElem?_append_left (by simp), List.getElem?_append_left this, hA.hk, hA.hl]; rfl
theorem tok_copy {F : Fr} {acc : List VToken} {ys : List (List AV)} {ts : List Nat} (hA : TA F acc ys ts) (t : VToken) {n c' : Nat} (hn : n = F.length) (hc' : c' = acc.length + 1) :
    ∃ us, TA ((F ++ tToken.fr t).set 0 (90, 2, c')) (acc ++ [t]) (ys ++ [tToken.tk t n]) us := by
  subst hn
  obtain ⟨us2, h2, n2, g2⟩ := tToken.tkOwn t (n := F.length) (F := F ++ tToken.fr t) (fun i x hi => by rw [List.getElem?_append_right (by omega), Nat.add_sub_cancel_left]; exact hi)
  refine ⟨_, (hA.grow (tToken.fr t)).snoc t _ us2 hc' h2 n2 fun j hj => ?_⟩
  have := g2 j hj
  have h0 := hA.klt
  exact ⟨by omega, fun hm => by have := hA.own.lt j hm; omega⟩
theorem sCopyT.own (t : VToken) (h : tToken.size t ≤ 1048576) : sCopyT.Own [.agg (oldL (tToken.q t))] (.a (tToken.q t)) := by
  rw [tToken_size] at h
  refine Ty.ownA tToken ?_
  refine sCopyT.ir.of rfl ?_
  have hf := tFcts_canon.ret rfl rfl (sCopies.own t.1 (by omega))
  have hb := sCopyB.ret t.2 (by omega)
  repeat' first
    | (conv => whnf
       first | refine Need.mk rfl ?_ | refine Need.mk ⟨rfl, Nat.le_of_ble_eq_true rfl⟩ ?_ | refine nb_ ?_ | refine FinAgg.keep ?_ | refine Final.mk rfl rfl | refine ACall.mkFcts _ _ (hf) (by repeat' first | exact SeesL.nil | refine SeesL.cons ?_ ?_ | exact SeesB.of0 (Sees0.val _) | exact SeesB.of0 (Sees0.str _) | exact SeesB.of0 (Sees0.olds _ _) | exact SeesB.of0 (Sees0.old _) | exact SeesB.of0 (Sees0.oldagg _) | exact SeesB.of0 Sees0.nil | exact Sees0.val _ | exact Sees0.str _ | exact Sees0.olds _ _ | exact Sees0.old _ | exact Sees0.oldagg _ | exact Sees0.nil | exact SeesB.of0 (Sees0.any _) | assumption | exact sees_gv _ _ _ (by assumption) (by first | assumption | exact BoxIn.last _ _ | exact BoxIn.more (BoxIn.last _ _) _) | refine SeesB.agg ?_ | refine Sees0.agg ?_ | exact SeesB.of0 (Sees0.clo SeesL.nil SeesL.nil) | exact Sees0.clo SeesL.nil SeesL.nil | exact SeesB.of0 (Sees0.list rfl) | exact Sees0.list rfl) ?_ | refine ACall.mkLA _ _ _ _ (hb) ?_)
theorem sMatchFact.retB (p : VPattern) (f : Fct) (b : List VPair) (h1 : tPattern.size p ≤ 1048576) (h2 : tFct.size f ≤ 1048576) (h3 : tPairs.size b ≤ 1048576) :
    sMatchFact.Ret [.agg (oldL (tPattern.q p)), .agg (oldL (tFct.q f)), .list none (pairs b)] (.tup [.list (some 0) (pairs ((matM p f b).getD [])), .val (.bool (matM p f b).isSome)]) [(141, 2, ((matM p f b).getD []).length)] :=
  plain_retP (fun _ => rfl) (fun _ => rfl) tPair_canon (sMatchFact.own p f b h1 h2 h3)
def hasF (l : List Fct) (p : VPattern) (t : VToken) : List VToken := l.filterMap fun f => (matM p f t.2).map fun b => (t.1 ++ [f], b)
theorem hasF_yes {l : List Fct} {p : VPattern} {t : VToken} {k : Nat} (hk : k < l.length) {b : List VPair} (h : matM p (l.getD k default) t.2 = some b) : hasF (l.take (k + 1)) p t = hasF (l.take k) p t ++ [(t.1 ++ [l.getD k default], b)] := by
  rw [take_succ' default hk, hasF, List.filterMap_append]
  generalize l.getD k default = f at h ⊢
  simp [hasF, h]
theorem hasF_no {l : List Fct} {p : VPattern} {t : VToken} {k : Nat} (hk : k < l.length) (h : matM p (l.getD k default) t.2 = none) : hasF (l.take (k + 1)) p t = hasF (l.take k) p t := by
  rw [take_succ' default hk, hasF, List.filterMap_append]
  generalize l.getD k default = f at h ⊢
  simp [hasF, h]
theorem hasF_le (l : List Fct) (p : VPattern) (t : VToken) (k : Nat) : (hasF (l.take k) p t).length ≤ l.length :=
  Nat.le_trans (List.length_filterMap_le _ _) (by rw [List.length_take]; omega)
theorem nextF_has {l : List Fct} {x : VCond} (h : x.1 = 1) (t : VToken) : nextF l x t = hasF l x.2.1 t := by rw [nextF, if_pos h]; rfl
theorem tok_sz {l : List Fct} {n : Nat} {t : VToken} (hl : ∀ f ∈ l, isFactF f = true) (h : GoodT l n t) (hn : n ≤ 5) : tToken.size t ≤ 1048576 := by
  have := goodT_size hl h hn
  rw [tToken_size]; omega
theorem tget {ts : List VToken} {i : Nat} (hi : i < ts.length) : ts.getD i default ∈ ts := by
  rw [List.getD_eq_getElem?_getD, List.getElem?_eq_getElem hi]; exact List.getElem_mem hi
set_option maxHeartbeats 4000000 in
theorem sNext.own (ts : List VToken) (x : VCond) (l : List Fct) (hx : tCond.size x ≤ 1048576) (h : tFcts.size l ≤ 1048576) (hl : ∀ f ∈ l, isFactF f = true) (hl24 : l.length ≤ 24) (hts : ts.length ≤ 331776) (hg : ∀ t ∈ ts, GoodT l 4 t) :
    sNext.Own [.list none (rows tToken ts), .agg (oldL (tCond.q x)), .list none (facts l)] (tokT (stepF l ts x)) := by
  refine Own.of_irP (code := sNext.code) (rs := sNext.res) (K := sNext.keep) Tryz.func93 rfl (by kernel_rfl) (Nat.le_of_ble_eq_true rfl) (by kernel_rfl) (by kernel_rfl) ?_
  have hp := tCond_pat x
  rw [tFcts_size] at h
  repeat' first
    | (conv => whnf
       first | refine Need.mk rfl ?_)
  refine ALoop.mk (Nat × Fr × List (List AV)) (fun i => ⟨[(0, .list none (rows tToken ts)), (2, .list none (facts l)), (4, .bptr 0 0), (7, .list (some 0) i.2.2), (8, .val (.int .i64 i.1))], [.cells .var (oldL (tCond.q x))], i.2.1⟩)
    (fun i => i.1 ≤ ts.length ∧ ∃ us, TA i.2.1 (stepF l (ts.take i.1) x) i.2.2 us) (fun i => ts.length - i.1) ⟨(0, [(90, 2, 0)], []), ⟨Nat.zero_le _, [], AccO.nil rfl⟩, ?_⟩ (fun i hi => ?_)
  · repeat' first
      | exact trivial | refine wl_ ?_ ?_ ?_ ?_ | refine And.intro ?_ ?_ | with_reducible rfl | exact ble_ | refine fr1 ?_ | refine AV.int_congr ?_ | refine AV.list_congr ?_ | (apply rfl)
  obtain ⟨i, F, ys⟩ := i
  obtain ⟨hi, us, hA⟩ := hi
  simp only at hi hA ⊢
  have hrl : (rows tToken ts).length = ts.length := length_rows _ _
  have hfl : (facts l).length = l.length := length_rows _ _
  by_cases hi' : i < ts.length
  rotate_left
  · have e : i = ts.length := by omega
    subst e
    rw [List.take_length] at hA
    repeat' first
      | (conv => whnf
         first | refine Need.mk rfl ?_ | refine Fork.decN ?_)
    exact hA.final
  have hgt := hg _ (tget hi')
  have hsz := goodT_size hl hgt (by omega)
  have hAk := hA.hk
  have hAl := hA.hl
  have hle := stepF_le hl24 (x := x) ts i
  by_cases hk : x.1 = 1
  · repeat' first
      | contradiction
      | (conv => whnf
         first | refine Need.mk rfl ?_ | refine Fork.decY ?_ | refine Fork.bne (fun _ => ?_) (fun _ => ?_))
    refine ALoop.mk (Nat × Fr × List (List AV)) (fun k => ⟨[(0, .list none (rows tToken ts)), (2, .list none (facts l)), (4, .bptr 0 0), (7, .list (some 0) k.2.2), (8, .val (.int .i64 i)), (9, .val (.int .i64 k.1))], [.cells .var (oldL (tCond.q x))], k.2.1⟩)
      (fun k => k.1 ≤ l.length ∧ ∃ us, TA k.2.1 (stepF l (ts.take i) x ++ hasF (l.take k.1) x.2.1 (ts.getD i default)) k.2.2 us) (fun k => l.length - k.1) ⟨(0, F, ys), ⟨Nat.zero_le _, us, by simpa [hasF] using hA⟩, ?_⟩ (fun k hk2 => ?_)
    · repeat' first
        | exact trivial | refine wl_ ?_ ?_ ?_ ?_ | refine And.intro ?_ ?_ | with_reducible rfl | exact ble_ | refine AV.int_congr ?_ | refine AV.list_congr ?_ | (apply rfl)
    obtain ⟨k, G, zs⟩ := k
    obtain ⟨hk2, vs, hB⟩ := hk2
    simp only at hk2 hB ⊢
    have hBk := hB.hk
    have hBl := hB.hl
    have hle2 := hasF_le l x.2.1 (ts.getD i default) k
    rw [List.length_append] at hBk hBl
    by_cases hk' : k < l.length
    rotate_left
    · have e : k = l.length := by omega
      subst e
      rw [List.take_length, ← nextF_has hk, ← stepF_take hi'] at hB
      repeat' first
        | (conv => whnf
           first | refine Need.mk rfl ?_ | refine Fork.decN ?_ | refine Round.mk ?_)
      refine ⟨(i + 1, G, zs), ⟨by simp only; omega, vs, hB⟩, ?_, by simp only; omega⟩
      repeat' first
        | exact trivial | refine wl_ ?_ ?_ ?_ ?_ | refine And.intro ?_ ?_ | with_reducible rfl | exact ble_ | refine AV.int_congr ?_ | refine AV.list_congr ?_ | (apply rfl)
      rw [wrap64 (by omega) (by omega)]; rfl
    have hf1 : tFct.size (l.getD k default) ≤ 1048576 := by have := fct_le hk'; omega
    have hm := sMatchFact.retB x.2.1 (l.getD k default) (ts.getD i default).2 (by omega) hf1 (by omega)
    have hfs := tFcts_canon.ret rfl rfl (sCopies.own (ts.getD i default).1 (by omega))
    have hfc := sCopy.ret (l.getD k default) hf1
    cases hmm : matM x.2.1 (l.getD k default) (ts.getD i default).2 with
    | none =>
      rw [hmm] at hm
      repeat' first
        | contradiction
        | (conv => whnf
           first | refine Need.mk rfl ?_ | refine nb_ ?_ | refine Ix.mapN (fun _ => rfl) ?_ | refine Fork.decY ?_ | refine Fork.mk (fun _ => ?_) (fun _ => ?_) | refine Round.mk ?_ | refine ACall.mkTB tPair _ _ _ _ (hm) (by repeat' first | exact SeesL.nil | refine SeesL.cons ?_ ?_ | exact SeesB.of0 (Sees0.val _) | exact SeesB.of0 (Sees0.str _) | exact SeesB.of0 (Sees0.olds _ _) | exact SeesB.of0 (Sees0.old _) | exact SeesB.of0 (Sees0.oldagg _) | exact SeesB.of0 Sees0.nil | exact Sees0.val _ | exact Sees0.str _ | exact Sees0.olds _ _ | exact Sees0.old _ | exact Sees0.oldagg _ | exact Sees0.nil | exact SeesB.of0 (Sees0.any _) | assumption | exact sees_gv _ _ _ (by assumption) (by first | assumption | exact BoxIn.last _ _ | exact BoxIn.more (BoxIn.last _ _) _) | refine SeesB.agg ?_ | refine Sees0.agg ?_ | exact SeesB.of0 (Sees0.clo SeesL.nil SeesL.nil) | exact Sees0.clo SeesL.nil SeesL.nil | exact SeesB.of0 (Sees0.list rfl) | exact Sees0.list rfl) ?_)
      refine ⟨(k + 1, G ++ [(141, 2, 0)], zs), ⟨by simp only; omega, vs, by rw [hasF_no hk' hmm]; exact hB.grow _⟩, ?_, by simp only; omega⟩
      repeat' first
        | exact trivial | refine wl_ ?_ ?_ ?_ ?_ | refine And.intro ?_ ?_ | with_reducible rfl | exact ble_ | refine AV.int_congr ?_ | refine AV.list_congr ?_ | (apply rfl)
      rw [wrap64 (by omega) (by omega)]; rfl
    | some b =>
      rw [hmm] at hm
      obtain ⟨us', hS⟩ := tok_step hB (ts.getD i default).1 (l.getD k default) b (c' := (stepF l (ts.take i) x).length + (hasF (l.take k) x.2.1 (ts.getD i default)).length + 1) rfl rfl rfl rfl (by rw [List.length_append])
      rw [List.append_assoc (stepF l (ts.take i) x), ← hasF_yes hk' hmm] at hS
      repeat' first
        | contradiction
        | (conv => whnf
           first | refine Need.mk rfl ?_ | refine nb_ ?_ | refine Need.finN ?_ | refine Ix.mapN (fun _ => rfl) ?_ | refine Fork.decY ?_ | refine Fork.mk (fun _ => ?_) (fun _ => ?_) | refine Lit.read rfl ?_ | refine ACall.mkTB tPair _ _ _ _ (hm) (by repeat' first | exact SeesL.nil | refine SeesL.cons ?_ ?_ | exact SeesB.of0 (Sees0.val _) | exact SeesB.of0 (Sees0.str _) | exact SeesB.of0 (Sees0.olds _ _) | exact SeesB.of0 (Sees0.old _) | exact SeesB.of0 (Sees0.oldagg _) | exact SeesB.of0 Sees0.nil | exact Sees0.val _ | exact Sees0.str _ | exact Sees0.olds _ _ | exact Sees0.old _ | exact Sees0.oldagg _ | exact Sees0.nil | exact SeesB.of0 (Sees0.any _) | assumption | exact sees_gv _ _ _ (by assumption) (by first | assumption | exact BoxIn.last _ _ | exact BoxIn.more (BoxIn.last _ _) _) | refine SeesB.agg ?_ | refine Sees0.agg ?_ | exact SeesB.of0 (Sees0.clo SeesL.nil SeesL.nil) | exact Sees0.clo SeesL.nil SeesL.nil | exact SeesB.of0 (Sees0.list rfl) | exact Sees0.list rfl) ?_ | refine ACall.mkFcts _ _ (hfs) (by repeat' first | exact SeesL.nil | refine SeesL.cons ?_ ?_ | exact SeesB.of0 (Sees0.val _) | exact SeesB.of0 (Sees0.str _) | exact SeesB.of0 (Sees0.olds _ _) | exact SeesB.of0 (Sees0.old _) | exact SeesB.of0 (Sees0.oldagg _) | exact SeesB.of0 Sees0.nil | exact Sees0.val _ | exact Sees0.str _ | exact Sees0.olds _ _ | exact Sees0.old _ | exact Sees0.oldagg _ | exact Sees0.nil | exact SeesB.of0 (Sees0.any _) | assumption | exact sees_gv _ _ _ (by assumption) (by first | assumption | exact BoxIn.last _ _ | exact BoxIn.more (BoxIn.last _ _) _) | refine SeesB.agg ?_ | refine Sees0.agg ?_ | exact SeesB.of0 (Sees0.clo SeesL.nil SeesL.nil) | exact Sees0.clo SeesL.nil SeesL.nil | exact SeesB.of0 (Sees0.list rfl) | exact Sees0.list rfl) ?_ | refine ACall.mkFct _ _ (hfc) (by repeat' first | exact SeesL.nil | refine SeesL.cons ?_ ?_ | exact SeesB.of0 (Sees0.val _) | exact SeesB.of0 (Sees0.str _) | exact SeesB.of0 (Sees0.olds _ _) | exact SeesB.of0 (Sees0.old _) | exact SeesB.of0 (Sees0.oldagg _) | exact SeesB.of0 Sees0.nil | exact Sees0.val _ | exact Sees0.str _ | exact Sees0.olds _ _ | exact Sees0.old _ | exact Sees0.oldagg _ | exact Sees0.nil | exact SeesB.of0 (Sees0.any _) | assumption | exact sees_gv _ _ _ (by assumption) (by first | assumption | exact BoxIn.last _ _ | exact BoxIn.more (BoxIn.last _ _) _) | refine SeesB.agg ?_ | refine Sees0.agg ?_ | exact SeesB.of0 (Sees0.clo SeesL.nil SeesL.nil) | exact Sees0.clo SeesL.nil SeesL.nil | exact SeesB.of0 (Sees0.list rfl) | exact Sees0.list rfl) ?_)
      have hG1 : (G ++ [(141, 2, ((some b).getD []).length)]).length = G.length + 1 := by simp
      have hfsz : (ts.getD i default).1.length ≤ 4 := hgt.le
      obtain ⟨F3, hF3⟩ := head_cons (tok_head hB (ts.getD i default).1 (l.getD k default) b)
      rw [hF3] at hS
      refine appK_to (F' := (90, 2, zs.length) :: F3) ?_ ?_ ?_ ?_ ?_
      · rw [length_tks, List.append_assoc, List.getElem?_append_right (by omega), List.getElem?_append_left (by simp [Ty.list, tFcts]), Nat.add_sub_cancel_left]
        show (frs tFct (ts.getD i default).1 ++ [_])[_]? = _
        rw [List.getElem?_append_right (Nat.le_refl _), Nat.sub_self]; rfl
      · intro c hc; rw [List.mem_singleton.1 hc]; exact tFct.htk _ _
      · rw [List.length_singleton, length_tks]; omega
      · rw [← hF3, hG1, length_tks]; rfl
      rw [hG1]
      have hG2 : (G ++ [(141, 2, ((some b).getD []).length)] ++ tFcts.fr (ts.getD i default).1).length = G.length + 1 + (frs tFct (ts.getD i default).1).length + 1 := by
        rw [show tFcts.fr (ts.getD i default).1 = frs tFct (ts.getD i default).1 ++ [(86, tFct.sz, (ts.getD i default).1.length)] from rfl]; simp only [List.length_append, List.length_singleton]; omega
      rw [hG2]
      repeat' first
        | (conv => whnf
           first | refine Need.mk rfl ?_ | refine Need.mk ?_ ?_ | refine Round.mk ?_ | refine Lit.read rfl ?_)
      · intro c hc; rw [List.mem_singleton.1 hc]; rfl
      · simp only [List.length_singleton]; omega
      · refine ⟨(k + 1, _, _), ⟨by simp only; omega, us', hS⟩, ?_, by simp only; omega⟩
        repeat' first
          | exact trivial | refine wl_ ?_ ?_ ?_ ?_ | refine And.intro ?_ ?_ | with_reducible rfl | exact ble_ | refine AV.int_congr ?_ | refine AV.list_congr ?_ | (apply rfl)
        · rw [wrap64 (by omega) (by omega)]; rfl
        · rw [← hBl]; rfl
  · have hc := sHoldsCond.ret x (ts.getD i default).2 l hx (by omega) (by rw [tFcts_size]; exact h)
    have hco := tToken_canon.retA (sCopyT.own (ts.getD i default) (tok_sz hl hgt (by omega)))
    have hlen1 : ys.length + 1 ≤ 7962625 := by omega
    repeat' first
      | contradiction
      | (conv => whnf
         first | refine Need.mk rfl ?_ | refine nb_ ?_ | refine Ix.mapN (fun _ => rfl) ?_ | refine Fork.decY ?_ | refine Fork.bne (fun _ => ?_) (fun _ => ?_) | refine Fork.mk (fun _ => ?_) (fun _ => ?_) | refine Round.mk ?_ | refine Lit.read rfl ?_ | refine AQCall.mkA _ _ (fun hg => hc) rfl ?_ | refine ACall.mk_Token _ _ (hco) (by repeat' first | exact SeesL.nil | refine SeesL.cons ?_ ?_ | exact SeesB.of0 (Sees0.val _) | exact SeesB.of0 (Sees0.str _) | exact SeesB.of0 (Sees0.olds _ _) | exact SeesB.of0 (Sees0.old _) | exact SeesB.of0 (Sees0.oldagg _) | exact SeesB.of0 Sees0.nil | exact Sees0.val _ | exact Sees0.str _ | exact Sees0.olds _ _ | exact Sees0.old _ | exact Sees0.oldagg _ | exact Sees0.nil | exact SeesB.of0 (Sees0.any _) | assumption | exact sees_gv _ _ _ (by assumption) (by first | assumption | exact BoxIn.last _ _ | exact BoxIn.more (BoxIn.last _ _) _) | refine SeesB.agg ?_ | refine Sees0.agg ?_ | exact SeesB.of0 (Sees0.clo SeesL.nil SeesL.nil) | exact Sees0.clo SeesL.nil SeesL.nil | exact SeesB.of0 (Sees0.list rfl) | exact Sees0.list rfl) ?_)
    · have hh : holdsCF x (ts.getD i default).2 l = true := by assumption
      have hnx : nextF l x (ts.getD i default) = [ts.getD i default] := by rw [nextF, if_neg hk, hh, if_pos rfl]
      obtain ⟨us', hS⟩ := tok_copy hA (ts.getD i default) (n := F.length) (c' := ys.length + 1) rfl (by omega)
      rw [← hnx, ← stepF_take hi'] at hS
      refine aOps_append (o := none) rfl rfl ?_ ?_ ?_ ?_
      · rw [List.getElem?_append_left hA.klt, hA.hk, ← hAl]; rfl
      · intro c hc; rw [List.mem_singleton.1 hc]; exact tToken.htk _ _
      · rw [List.length_singleton]; omega
      · repeat' first
          | (conv => whnf
             first | refine Need.mk rfl ?_ | refine Round.mk ?_)
        refine ⟨(i + 1, _, _), ⟨by simp only; omega, us', hS⟩, ?_, by simp only; omega⟩
        repeat' first
          | exact trivial | refine wl_ ?_ ?_ ?_ ?_ | refine And.intro ?_ ?_ | with_reducible rfl | exact ble_ | refine AV.int_congr ?_ | refine AV.list_congr ?_ | (apply rfl)
        rw [wrap64 (by omega) (by omega)]; rfl
    · have hh : holdsCF x (ts.getD i default).2 l = false := by assumption
      have hnx : nextF l x (ts.getD i default) = [] := by rw [nextF, if_neg hk, hh, if_neg (by simp)]
      refine ⟨(i + 1, F, ys), ⟨by simp only; omega, us, by rw [stepF_take hi', hnx, List.append_nil]; exact hA⟩, ?_, by simp only; omega⟩
      repeat' first
        | exact trivial | refine wl_ ?_ ?_ ?_ ?_ | refine And.intro ?_ ?_ | with_reducible rfl | exact ble_ | refine AV.int_congr ?_ | refine AV.list_congr ?_ | (apply rfl)
      rw [wrap64 (by omega) (by omega)]; rfl
theorem GoodT.mono {l : List Fct} {m n : Nat} {t : VToken} (h : GoodT l m t) (hm : m ≤ n) : GoodT l n t := ⟨Nat.le_trans h.le hm, h.mem, h.bind⟩
theorem nil_acc : TA [(90, 2, 1)] [([], [])] [[.val (.slice none 0 0), .val (.slice none 0 0)]] [] where
  hk := rfl
  hl := rfl
  hs y hy := by rw [List.mem_singleton.1 hy]; rfl
  own := .nils _ _ (.nils _ _ .nil)
  nd := List.nodup_nil
  kn := by simp
set_option maxHeartbeats 4000000 in
theorem sTokens.own (cs : List VCond) (l : List Fct) (hc : tConds.size cs ≤ 1048576) (hc4 : cs.length ≤ 4) (h : tFcts.size l ≤ 1048576) (hl : ∀ f ∈ l, isFactF f = true) (hl24 : l.length ≤ 24) :
    sTokens.Own [.list none (rows tCond cs), .list none (facts l)] (tokT (toksF l cs)) := by
  refine Own.of_irP (code := sTokens.code) (rs := sTokens.res) (K := sTokens.keep) Tryz.func51 rfl (by kernel_rfl) (Nat.le_of_ble_eq_true rfl) (by kernel_rfl) (by kernel_rfl) ?_
  rw [tConds_sz] at hc
  repeat' first
    | (conv => whnf
       first | refine Need.mk rfl ?_)
  refine ALoop.mk (Nat × Fr × Nat × List (List AV)) (fun i => ⟨[(0, .list none (rows tCond cs)), (1, .list none (facts l)), (5, .list (some i.2.2.1) i.2.2.2), (6, .val (.int .i64 i.1))], [], i.2.1⟩)
    (fun i => i.1 ≤ cs.length ∧ ∃ us, AccO tToken 90 i.2.2.1 i.2.1 (toksF l (cs.take i.1)) i.2.2.2 us) (fun i => cs.length - i.1) ⟨(0, [(90, 2, 1)], 0, [[.val (.slice none 0 0), .val (.slice none 0 0)]]), ⟨Nat.zero_le _, [], by rw [List.take_zero, toksF_nil]; exact nil_acc⟩, ?_⟩ (fun i hi => ?_)
  · repeat' first
      | exact trivial | refine wl_ ?_ ?_ ?_ ?_ | refine And.intro ?_ ?_ | with_reducible rfl | exact ble_ | refine fr1 ?_ | refine AV.int_congr ?_ | refine AV.list_congr ?_ | (apply rfl)
  obtain ⟨i, F, kk, ys⟩ := i
  obtain ⟨hi, us, hA⟩ := hi
  simp only at hi hA ⊢
  have hrl : (rows tCond cs).length = cs.length := length_rows _ _
  by_cases hi' : i < cs.length
  rotate_left
  · have e : i = cs.length := by omega
    subst e
    rw [List.take_length] at hA
    repeat' first
      | (conv => whnf
         first | refine Need.mk rfl ?_ | refine Fork.decN ?_)
    exact hA.final
  have hx := tCond_le hi'
  have hn := tTokens_canon.ret rfl rfl (sNext.own (toksF l (cs.take i)) (cs.getD i default) l (by omega) h hl hl24 (toksF_len4 hl24 hc4 i) (fun t ht => (toksF_good l cs i hi t ht).mono (by omega)))
  repeat' first
    | (conv => whnf
       first | refine Need.mk rfl ?_ | refine nb_ ?_ | refine Ix.mapN (fun _ => rfl) ?_ | refine Fork.decY ?_)
  conv => whnf
  rw [Int.toNat_natCast]
  refine ACall.mk_TokenS _ _ hn (SeesL.cons hA.sees (SeesL.cons ?_ (SeesL.cons ?_ SeesL.nil))) ?_
  · exact @Sees0.oldagg (tCond.q (cs.getD i default))
  · exact @Sees0.olds _ _
  repeat' first
    | (conv => whnf
       first | refine Need.mk rfl ?_ | refine Round.mk ?_)
  obtain ⟨us', hB, _⟩ := AccO.ofTks tToken 90 (stepF l (toksF l (cs.take i)) (cs.getD i default)) F
  rw [← toksF_succ l hi'] at hB
  refine ⟨(i + 1, _, _, _), ⟨by simp only; omega, us', hB⟩, ?_, by simp only; omega⟩
  rw [toksF_succ l hi']
  repeat' first
    | exact trivial | refine wl_ ?_ ?_ ?_ ?_ | refine And.intro ?_ ?_ | with_reducible rfl | exact ble_ | refine AV.int_congr ?_ | refine AV.list_congr ?_ | (apply rfl)
  rw [wrap64 (by omega) (by omega)]; rfl
end Go.Proofs.YtoindmahilbalaaGreat
namespace Go.Proofs.YtoindmahilbalaaGreat
open Abs Go.RowKit
theorem fget {l : List Fct} {i : Nat} (hi : i < l.length) : l[i]? = some (l.getD i default) := by simp [List.getD, hi]
def zf : List AV := [.str [], .val (.slice none 0 0)]
theorem tks_mem {α : Type} (T : Ty α) {c : AV} : ∀ {l : List α} {n : Nat}, c ∈ (tks T l n).flatten → ∃ a m, c ∈ T.tk a m
  | [], _, h => by cases h
  | a :: l, n, h => by
    rw [tks, List.flatten_cons, List.mem_append] at h
    rcases h with h | h
    · exact ⟨a, n, h⟩
    · exact tks_mem T h
theorem part_inF (m : Nat) (l : List Fct) (i : Nat) : inB.inBL m (part zf (tks tFct l 0) i) := by
  refine inBL_of fun c hc => ?_
  rw [part, List.mem_append] at hc
  rcases hc with h | h
  · obtain ⟨x, hx, hc⟩ := List.mem_flatten.1 h
    obtain ⟨a, n, ha⟩ := tks_mem tFct (List.mem_flatten.2 ⟨x, List.mem_of_mem_take hx, hc⟩)
    have ha : c ∈ [AV.str a.1, .list (some n) (strs a.2)] := ha
    rcases List.mem_cons.1 ha with rfl | ha
    · trivial
    · rw [List.mem_singleton.1 ha]; trivial
  · obtain ⟨x, hx, hc⟩ := List.mem_flatten.1 h
    rw [List.eq_of_mem_replicate hx] at hc
    rcases List.mem_cons.1 hc with rfl | hc
    · trivial
    · rw [List.mem_singleton.1 hc]; trivial
theorem pcopyFacts.ret (l : List Fct) (h : tFcts.size l ≤ 1048576) : pcopyFacts.Ret [.list none (facts l)] (.list (some (frs tFct l).length) (tks tFct l 0)) (frs tFct l ++ [(86, 2, l.length)]) := by
  refine pcopyFacts.ir.of rfl ?_
  rw [tFcts_size] at h
  have hfl : (facts l).length = l.length := length_rows _ _
  repeat' first
    | (conv => whnf
       first | refine Need.fin ?_)
  refine ALoop.mk Nat (fun i => ⟨[(3, .bsl 0 l.length), (9, .list none (facts l)), (10, .val (.int .i64 l.length)), (11, .val (.int .i64 i))], [.cells (.row 86 2) (part zf (tks tFct l 0) i)], frs tFct (l.take i)⟩) (fun i => i ≤ l.length) (fun i => l.length - i) ⟨0, Nat.zero_le _, ?_⟩ (fun i hi => ?_)
  · repeat' first
      | exact trivial | refine wl_ ?_ ?_ ?_ ?_ | refine And.intro ?_ ?_ | with_reducible rfl | exact ble_ | refine AV.int_congr ?_ | refine AV.list_congr ?_ | refine AV.bsl_congr ?_ ?_ | (apply rfl)
    · rw [hfl, Int.toNat_natCast]
    · rw [hfl]
    · simp only [List.nil_append, List.cons_append, List.length_cons, List.length_nil, List.take_succ_cons, List.take_zero]
      rw [part_made (xs := tks tFct l 0) (sz := 2) rfl (by decide) (by rw [length_tks, hfl, Int.toNat_natCast])]; rfl
  by_cases hi' : i < l.length
  rotate_left
  · have hil : i = l.length := by omega
    subst hil
    have hall := part_all zf (tks tFct l 0)
    rw [length_tks] at hall
    rw [List.take_length, hall]
    repeat' first
      | (conv => whnf
         first | refine Need.mk rfl ?_ | refine Fork.decN ?_)
    conv => whnf
    refine FreezeD.flat (Freeze.mk (tks tFct l 0) _ 86 2 rfl rfl (length_tks _ _ _) (tks_sz tFct l 0) (tks_nr tFct l 0) ?_)
    repeat' first
      | (conv => whnf
         first | refine Final.mk rfl rfl)
  have hsz := fct_le hi'
  have hget := tks_get tFct 0 (fget hi')
  rw [Nat.zero_add] at hget
  repeat' first
    | (conv => whnf
       first | refine Need.mk rfl ?_ | refine Need.mk ⟨rfl, Nat.le_of_ble_eq_true rfl⟩ ?_ | refine nb_ ?_ | refine Need.finN ?_ | refine Need.mk ?_ ?_ | refine Ix.mapN (fun _ => rfl) ?_ | refine Fork.decY ?_ | refine Round.mk ?_ | refine ACall.mkFct _ _ (pcopyFact.ret _ ?_) (by repeat' first | exact SeesL.nil | refine SeesL.cons ?_ ?_ | exact SeesB.of0 (Sees0.val _) | exact SeesB.of0 (Sees0.str _) | exact SeesB.of0 (Sees0.olds _ _) | exact SeesB.of0 (Sees0.old _) | exact SeesB.of0 (Sees0.oldagg _) | exact SeesB.of0 Sees0.nil | exact Sees0.val _ | exact Sees0.str _ | exact Sees0.olds _ _ | exact Sees0.old _ | exact Sees0.oldagg _ | exact Sees0.nil | exact SeesB.of0 (Sees0.any _) | assumption | exact sees_gv _ _ _ (by assumption) (by first | assumption | exact BoxIn.last _ _ | exact BoxIn.more (BoxIn.last _ _) _) | refine SeesB.agg ?_ | refine Sees0.agg ?_ | exact SeesB.of0 (Sees0.clo SeesL.nil SeesL.nil) | exact Sees0.clo SeesL.nil SeesL.nil | exact SeesB.of0 (Sees0.list rfl) | exact Sees0.list rfl) ?_)
  · rw [Int.toNat_natCast]; omega
  · rw [tFct.htk, part_len (sz := 2) rfl (tks_sz tFct l 0) (by rw [length_tks]; omega), length_tks, Int.toNat_natCast]
    exact ⟨rfl, by omega⟩
  · refine ⟨i + 1, by omega, ?_, by omega⟩
    refine ⟨?_, ?_, ?_, Nat.le_of_ble_eq_true rfl, Or.inr ⟨?_, part_inF 1 l (i + 1), trivial⟩⟩
    rotate_right
    · exact ⟨Nat.zero_lt_one, trivial, trivial, trivial, trivial⟩
    · repeat' first
        | exact trivial | refine And.intro ?_ ?_ | with_reducible rfl | refine AV.int_congr ?_ | refine AV.list_congr ?_ | refine AV.bsl_congr ?_ ?_
      rw [wrap64 (by omega) (by omega)]; rfl
    · have := part_set (z := zf) (sz := 2) rfl (tks_sz tFct l 0) hget
      exact congrArg (fun c => [ABox.cells (.row 86 2) c]) this
    · show frs tFct (l.take i) ++ tFct.fr (l.getD ((i : Int)).toNat default) = frs tFct (l.take (i + 1))
      rw [take_succ' default hi', frs_append, Int.toNat_natCast]
      simp [frs]
theorem pcopyFacts.own (l : List Fct) (h : tFcts.size l ≤ 1048576) : pcopyFacts.Own [.list none (facts l)] (fctsT l) := by
  have h1 := pcopyFacts.ret l h
  refine Ty.ownV tFcts (a := l) rfl rfl ?_
  rw [Nat.zero_add]; exact h1
end Go.Proofs.YtoindmahilbalaaGreat
namespace Go.Proofs.YtoindmahilbalaaGreat
open Abs
theorem pMatchFact.retB (p : VPattern) (f : Fct) (b : List VPair) (h1 : tPattern.size p ≤ 1048576) (h2 : tFct.size f ≤ 1048576) (h3 : tPairs.size b ≤ 1048576) :
    pMatchFact.RetN [.agg (oldL (tPattern.q p)), .agg (oldL (tFct.q f)), .list none (pairs b)] (.tup [.list (some 0) (pairs ((matM p f b).getD [])), .val (.bool (matM p f b).isSome)]) [(141, 2, ((matM p f b).getD []).length)] :=
  plain_retP (fun _ => rfl) (fun _ => rfl) tPair_canon ((matM_eq p f b).symm ▸ pMatchFact.own p f b h1 h2 h3)
set_option maxHeartbeats 4000000 in
theorem pBehind.own (t : VToken) (x : VCond) (l : List Fct) (hk : x.1 = 1) (hx : tCond.size x ≤ 1048576) (h : tFcts.size l ≤ 1048576) (hl24 : l.length ≤ 24) (hsz : tFcts.size t.1 ≤ 180 ∧ tPairs.size t.2 ≤ 108) :
    ptokensBehind.OwnN [.agg (oldL (tToken.q t)), .agg (oldL (tCond.q x)), .list none (facts l)] (tokT (hasF l x.2.1 t)) := by
  refine Own.of_irP (code := ptokensBehind.code) (rs := ptokensBehind.res) (K := ptokensBehind.keep) Tryz.func104 rfl (by kernel_rfl) (Nat.le_of_ble_eq_true rfl) (by kernel_rfl) (by kernel_rfl) ?_
  have hp := tCond_pat x
  rw [tFcts_size] at h
  repeat' first
    | contradiction
    | (conv => whnf
       first | refine Need.mk rfl ?_ | refine Fork.bne (fun _ => ?_) (fun _ => ?_))
  refine ALoop.mk (Nat × Fr × List (List AV)) (fun k => ⟨[(3, .bptr 0 0), (4, .bptr 1 0), (7, .list (some 0) k.2.2), (26, .list none (facts l)), (27, .val (.int .i64 l.length)), (28, .val (.int .i64 k.1))], [.cells .var (oldL (tToken.q t)), .cells .var (oldL (tCond.q x))], k.2.1⟩)
    (fun k => k.1 ≤ l.length ∧ ∃ us, TA k.2.1 (hasF (l.take k.1) x.2.1 t) k.2.2 us) (fun k => l.length - k.1) ⟨(0, [(90, 2, 0)], []), ⟨Nat.zero_le _, [], AccO.nil rfl⟩, ?_⟩ (fun k hk2 => ?_)
  · repeat' first
      | exact trivial | refine wl_ ?_ ?_ ?_ ?_ | refine And.intro ?_ ?_ | with_reducible rfl | exact ble_ | refine fr1 ?_ | refine AV.int_congr ?_ | refine AV.list_congr ?_ | (apply rfl)
    simp
  obtain ⟨k, G, zs⟩ := k
  obtain ⟨hk2, vs, hB⟩ := hk2
  simp only at hk2 hB ⊢
  have hfl : (facts l).length = l.length := length_rows _ _
  have hBk := hB.hk
  have hBl := hB.hl
  have hle2 := hasF_le l x.2.1 t k
  by_cases hk' : k < l.length
  rotate_left
  · have e : k = l.length := by omega
    subst e
    rw [List.take_length] at hB
    repeat' first
      | (conv => whnf
         first | refine Need.mk rfl ?_ | refine Fork.decN ?_)
    exact hB.final
  have hf1 : tFct.size (l.getD k default) ≤ 1048576 := by have := fct_le hk'; omega
  have hm := pMatchFact.retB x.2.1 (l.getD k default) t.2 (by omega) hf1 (by omega)
  have hfs := tFcts_canon.ret rfl rfl (pcopyFacts.own t.1 (by omega))
  have hfc := pcopyFact.ret (l.getD k default) hf1
  cases hmm : matM x.2.1 (l.getD k default) t.2 with
  | none =>
    rw [hmm] at hm
    repeat' first
      | contradiction
      | (conv => whnf
         first | refine Need.mk rfl ?_ | refine Need.mk ⟨rfl, Nat.le_of_ble_eq_true rfl⟩ ?_ | refine nb_ ?_ | refine Ix.mapN (fun _ => rfl) ?_ | refine Fork.decY ?_ | refine Fork.mk (fun _ => ?_) (fun _ => ?_) | refine Round.mk ?_ | refine ACall.mkTB tPair _ _ _ _ (hm) (by repeat' first | exact SeesL.nil | refine SeesL.cons ?_ ?_ | exact SeesB.of0 (Sees0.val _) | exact SeesB.of0 (Sees0.str _) | exact SeesB.of0 (Sees0.olds _ _) | exact SeesB.of0 (Sees0.old _) | exact SeesB.of0 (Sees0.oldagg _) | exact SeesB.of0 Sees0.nil | exact Sees0.val _ | exact Sees0.str _ | exact Sees0.olds _ _ | exact Sees0.old _ | exact Sees0.oldagg _ | exact Sees0.nil | exact SeesB.of0 (Sees0.any _) | assumption | exact sees_gv _ _ _ (by assumption) (by first | assumption | exact BoxIn.last _ _ | exact BoxIn.more (BoxIn.last _ _) _) | refine SeesB.agg ?_ | refine Sees0.agg ?_ | exact SeesB.of0 (Sees0.clo SeesL.nil SeesL.nil) | exact Sees0.clo SeesL.nil SeesL.nil | exact SeesB.of0 (Sees0.list rfl) | exact Sees0.list rfl) ?_)
    refine ⟨(k + 1, G ++ [(141, 2, 0)], zs), ⟨by simp only; omega, vs, by rw [hasF_no hk' hmm]; exact hB.grow _⟩, ?_, by simp only; omega⟩
    repeat' first
      | exact trivial | refine wr_ ?_ ?_ ?_ ?_ | refine And.intro ?_ ?_ | with_reducible rfl | exact ble_ | refine AV.int_congr ?_ | refine AV.list_congr ?_ | (apply rfl)
    rw [wrap64 (by omega) (by omega)]; rfl
  | some b =>
    rw [hmm] at hm
    obtain ⟨us', hS⟩ := tok_step hB t.1 (l.getD k default) b (c' := (hasF (l.take k) x.2.1 t).length + 1) rfl rfl rfl rfl rfl
    rw [← hasF_yes hk' hmm] at hS
    have hfsz : t.1.length ≤ 180 := by have := hsz.1; rw [tFcts_size] at this; omega
    have hG1 : (G ++ [(141, 2, ((some b).getD []).length)]).length = G.length + 1 := by simp
    have hG2 : (G ++ [(141, 2, ((some b).getD []).length)] ++ tFcts.fr t.1).length = G.length + 1 + (frs tFct t.1).length + 1 := by
      rw [show tFcts.fr t.1 = frs tFct t.1 ++ [(86, tFct.sz, t.1.length)] from rfl]; simp only [List.length_append, List.length_singleton]; omega
    obtain ⟨F3, hF3⟩ := head_cons (tok_head hB t.1 (l.getD k default) b)
    rw [hF3] at hS
    repeat' first
      | contradiction
      | (conv => whnf
         first | refine Need.mk rfl ?_ | refine Need.mk ⟨rfl, Nat.le_of_ble_eq_true rfl⟩ ?_ | refine nb_ ?_ | refine Need.finN ?_ | refine Ix.mapN (fun _ => rfl) ?_ | refine Fork.decY ?_ | refine Fork.mk (fun _ => ?_) (fun _ => ?_) | refine Lit.read rfl ?_ | refine ACall.mkTB tPair _ _ _ _ (hm) (by repeat' first | exact SeesL.nil | refine SeesL.cons ?_ ?_ | exact SeesB.of0 (Sees0.val _) | exact SeesB.of0 (Sees0.str _) | exact SeesB.of0 (Sees0.olds _ _) | exact SeesB.of0 (Sees0.old _) | exact SeesB.of0 (Sees0.oldagg _) | exact SeesB.of0 Sees0.nil | exact Sees0.val _ | exact Sees0.str _ | exact Sees0.olds _ _ | exact Sees0.old _ | exact Sees0.oldagg _ | exact Sees0.nil | exact SeesB.of0 (Sees0.any _) | assumption | exact sees_gv _ _ _ (by assumption) (by first | assumption | exact BoxIn.last _ _ | exact BoxIn.more (BoxIn.last _ _) _) | refine SeesB.agg ?_ | refine Sees0.agg ?_ | exact SeesB.of0 (Sees0.clo SeesL.nil SeesL.nil) | exact Sees0.clo SeesL.nil SeesL.nil | exact SeesB.of0 (Sees0.list rfl) | exact Sees0.list rfl) ?_ | refine ACall.mkFcts _ _ (Ret.weak (hfs)) (by repeat' first | exact SeesL.nil | refine SeesL.cons ?_ ?_ | exact SeesB.of0 (Sees0.val _) | exact SeesB.of0 (Sees0.str _) | exact SeesB.of0 (Sees0.olds _ _) | exact SeesB.of0 (Sees0.old _) | exact SeesB.of0 (Sees0.oldagg _) | exact SeesB.of0 Sees0.nil | exact Sees0.val _ | exact Sees0.str _ | exact Sees0.olds _ _ | exact Sees0.old _ | exact Sees0.oldagg _ | exact Sees0.nil | exact SeesB.of0 (Sees0.any _) | assumption | exact sees_gv _ _ _ (by assumption) (by first | assumption | exact BoxIn.last _ _ | exact BoxIn.more (BoxIn.last _ _) _) | refine SeesB.agg ?_ | refine Sees0.agg ?_ | exact SeesB.of0 (Sees0.clo SeesL.nil SeesL.nil) | exact Sees0.clo SeesL.nil SeesL.nil | exact SeesB.of0 (Sees0.list rfl) | exact Sees0.list rfl) ?_ | refine ACall.mkFct _ _ (Ret.weak (hfc)) (by repeat' first | exact SeesL.nil | refine SeesL.cons ?_ ?_ | exact SeesB.of0 (Sees0.val _) | exact SeesB.of0 (Sees0.str _) | exact SeesB.of0 (Sees0.olds _ _) | exact SeesB.of0 (Sees0.old _) | exact SeesB.of0 (Sees0.oldagg _) | exact SeesB.of0 Sees0.nil | exact Sees0.val _ | exact Sees0.str _ | exact Sees0.olds _ _ | exact Sees0.old _ | exact Sees0.oldagg _ | exact Sees0.nil | exact SeesB.of0 (Sees0.any _) | assumption | exact sees_gv _ _ _ (by assumption) (by first | assumption | exact BoxIn.last _ _ | exact BoxIn.more (BoxIn.last _ _) _) | refine SeesB.agg ?_ | refine Sees0.agg ?_ | exact SeesB.of0 (Sees0.clo SeesL.nil SeesL.nil) | exact Sees0.clo SeesL.nil SeesL.nil | exact SeesB.of0 (Sees0.list rfl) | exact Sees0.list rfl) ?_)
    refine appK_to (F' := (90, 2, zs.length) :: F3) ?_ ?_ ?_ ?_ ?_
    · rw [length_tks, List.append_assoc, List.getElem?_append_right (by omega), List.getElem?_append_left (by simp [Ty.list, tFcts]), Nat.add_sub_cancel_left]
      show (frs tFct t.1 ++ [_])[_]? = _
      rw [List.getElem?_append_right (Nat.le_refl _), Nat.sub_self]; rfl
    · intro c hc; rw [List.mem_singleton.1 hc]; exact tFct.htk _ _
    · rw [List.length_singleton, length_tks]; omega
    · rw [← hF3, hG1, length_tks]; rfl
    rw [hG1, hG2]
    repeat' first
      | (conv => whnf
         first | refine Need.mk rfl ?_ | refine Need.mk ?_ ?_ | refine Round.mk ?_ | refine Lit.read rfl ?_)
    · intro c hc; rw [List.mem_singleton.1 hc]; rfl
    · simp only [List.length_singleton]; omega
    · refine ⟨(k + 1, _, _), ⟨by simp only; omega, us', hS⟩, ?_, by simp only; omega⟩
      repeat' first
        | exact trivial | refine wr_ ?_ ?_ ?_ ?_ | refine And.intro ?_ ?_ | with_reducible rfl | exact ble_ | refine AV.int_congr ?_ | refine AV.list_congr ?_ | (apply rfl)
      · rw [wrap64 (by omega) (by omega)]; rfl
      · rw [← hBl]; rfl
theorem pBehind.alias (t : VToken) (x : VCond) (l : List Fct) (hk : x.1 ≠ 1) (hx : tCond.size x ≤ 1048576) (h : tFcts.size l ≤ 1048576) (hsz : tFcts.size t.1 ≤ 180 ∧ tPairs.size t.2 ≤ 108) (us : List Value) (hus : us.length = 2) :
    ptokensBehind.RetN [.agg (tags us (oldL (tToken.q t))), .agg (oldL (tCond.q x)), .list none (facts l)] (.list (some 0) (if holdsCF x t.2 l then [tags us (oldL (tToken.q t))] else [])) [(90, 2, if holdsCF x t.2 l then 1 else 0)] := by
  obtain ⟨u, v, rfl⟩ : ∃ u v, us = [u, v] := by
    match us, hus with
    | [u, v], _ => exact ⟨u, v, rfl⟩
  refine ptokensBehind.ir.of rfl ?_
  have hc := pHoldsCond.ret x t.2 l hx (by omega) h
  cases hh : holdsCF x t.2 l with
  | false =>
    rw [hh] at hc
    repeat' first
      | contradiction
      | (conv => whnf
         first | refine Need.mk rfl ?_ | refine nb_ ?_ | refine Fork.bne (fun _ => ?_) (fun _ => ?_))
    refine ACall.scal _ _ hc rfl (SeesL.cons (SeesB.of0 (Sees0.oldagg (tCond.q x))) (SeesL.cons (SeesB.of0 (Sees0.tag (Sees0.olds _ _))) (SeesL.cons (SeesB.of0 (Sees0.olds _ _)) SeesL.nil))) ?_
    repeat' first
      | contradiction
      | (conv => whnf
         first | refine Fork.mk (fun _ => ?_) (fun _ => ?_) | refine Final.mk rfl rfl)
  | true =>
    rw [hh] at hc
    repeat' first
      | contradiction
      | (conv => whnf
         first | refine Need.mk rfl ?_ | refine nb_ ?_ | refine Fork.bne (fun _ => ?_) (fun _ => ?_))
    refine ACall.scal _ _ hc rfl (SeesL.cons (SeesB.of0 (Sees0.oldagg (tCond.q x))) (SeesL.cons (SeesB.of0 (Sees0.tag (Sees0.olds _ _))) (SeesL.cons (SeesB.of0 (Sees0.olds _ _)) SeesL.nil))) ?_
    repeat' first
      | contradiction
      | (conv => whnf
         first | refine Need.mk rfl ?_ | refine nb_ ?_ | refine Need.mk ?_ ?_ | refine Fork.mk (fun _ => ?_) (fun _ => ?_) | refine Lit.read rfl ?_ | refine Final.mk rfl rfl)
    · intro c hc; rw [List.mem_singleton.1 hc]; rfl
    · simp
theorem sees_erase : ∀ cs : List AV, SeesL Sees0 cs (mapTL noTok cs)
  | [] => .nil
  | c :: cs => .cons (Sees0.erase rfl) (sees_erase cs)
theorem tk_sees {α : Type} (T : Ty α) (a : α) (m : Nat) : SeesL Sees0 (T.tk a m) (oldL (T.q a)) := by
  rw [← T.hse a m]; exact sees_erase _
theorem subr_tok (n : Nat) (us : List Value) (cs zs : List AV) (h : us.length = cs.length) (hz : zs.length = cs.length) (b : Bool) : SubR n us cs (.list (some 0) (if b then [tags us zs] else [])) (.list (some (0 + n)) (if b then [cs] else [])) := by
  cases b with
  | false => exact .list (some 0) [] [] rfl (by simp) (by simp)
  | true =>
    refine .list (some 0) [tags us zs] [cs] rfl (fun i y z hy hz' => ?_) (fun i j y z a b hy hz' ha hb => ?_)
    · cases i with
      | zero => simp at hy hz'; subst hy; subst hz'; rw [tags, List.length_zipWith]; omega
      | succ i => simp at hy
    · cases i with
      | zero =>
        simp at hy hz'; subst hy; subst hz'
        rw [tags, List.getElem?_zipWith] at ha
        cases hu : us[j]? with
        | none => rw [hu] at ha; cases zs[j]? <;> cases ha
        | some u =>
          cases hzz : zs[j]? with
          | none => rw [hu, hzz] at ha; cases ha
          | some w => rw [hu, hzz] at ha; cases ha; exact .tag j u w b hu hb
      | succ i => simp at hy
theorem frs_at {α : Type} (T : Ty α) {src : List α} {i : Nat} {a : α} (hi : src[i]? = some a) {k : Nat} {y : Nat × Nat × Nat} (hk : (T.fr a)[k]? = some y) : (frs T src)[(frs T (src.take i)).length + k]? = some y := by
  have hlt := getElem?_lt hi
  have e : src = src.take i ++ a :: src.drop (i + 1) := by
    have h1 := List.drop_eq_getElem_cons hlt
    have h2 : src[i] = a := by rw [List.getElem?_eq_getElem hlt] at hi; exact Option.some.inj hi
    rw [h2] at h1; rw [← h1, List.take_append_drop]
  have h3 : frs T src = frs T (src.take i) ++ (T.fr a ++ frs T (src.drop (i + 1))) := by
    have h4 : frs T src = frs T (src.take i ++ a :: src.drop (i + 1)) := by rw [← e]
    rw [h4, frs_append]; rfl
  rw [h3, List.getElem?_append_right (by omega), Nat.add_sub_cancel_left, List.getElem?_append_left (getElem?_lt hk)]
  exact hk
theorem tConds_take (cs : List VCond) (n : Nat) : tConds.size (cs.take n) ≤ tConds.size cs := by
  rw [tConds_sz, tConds_sz, List.length_take]
  have := listSize_take_le tCond cs n
  omega
set_option maxHeartbeats 4000000 in
theorem ptokensOfConds.own (l : List Fct) (h : tFcts.size l ≤ 1048576) (hl : ∀ f ∈ l, isFactF f = true) (hl24 : l.length ≤ 24) : ∀ (n : Nat) (cs : List VCond), cs.length = n → n ≤ 4 → tConds.size cs ≤ 1048576 →
    ptokensOfConds.OwnN [.list none (rows tCond cs), .list none (facts l)] (tokT (toksF l cs)) := by
  intro n
  induction n with
  | zero =>
    intro cs hn _ _
    have e : cs = [] := List.eq_nil_of_length_eq_zero hn
    subst e
    refine Own.of_irP (code := ptokensOfConds.code) (rs := ptokensOfConds.res) (K := ptokensOfConds.keep) Tryz.func57 rfl (by kernel_rfl) (Nat.le_of_ble_eq_true rfl) (by kernel_rfl) (by kernel_rfl) ?_
    have hw : IntKind.i64.wrap ((([] : List VCond).length : Int) - 1) = -1 := wrap64 (by simp) (by simp)
    repeat' first
      | (conv => whnf
         first | refine Need.mk rfl ?_ | refine Fork.decY ?_)
    rw [toksF_nil]
    exact nil_acc.final
  | succ n ih =>
    intro cs hn hn4 hc
    refine Own.of_irP (code := ptokensOfConds.code) (rs := ptokensOfConds.res) (K := ptokensOfConds.keep) Tryz.func57 rfl (by kernel_rfl) (Nat.le_of_ble_eq_true rfl) (by kernel_rfl) (by kernel_rfl) ?_
    have hrl : (rows tCond cs).length = cs.length := length_rows _ _
    have hw : IntKind.i64.wrap (((rows tCond cs).length : Int) - 1) = (n : Int) := by rw [hrl, hn, wrap64 (by omega) (by omega)]; omega
    have hown := ih (cs.take n) (by rw [List.length_take]; omega) (by omega) (Nat.le_trans (tConds_take cs n) hc)
    have hret := tTokens_canon.ret rfl rfl hown
    have hw' : IntKind.i64.wrap ((cs.length : Int) - 1) = (n : Int) := by rw [← hrl]; exact hw
    repeat' first
      | (conv => whnf
         first | refine Need.mk rfl ?_ | refine Cut.map (fun _ => rfl) ?_ ?_ | refine Fork.decN ?_)
    · intro _; rw [hw]; omega
    conv => whnf
    refine ACall.mk_TokenS _ _ hret (SeesL.cons ?_ (SeesL.cons ?_ SeesL.nil)) ?_
    · rw [hw, Int.toNat_natCast]; exact @Sees0.olds _ _
    · exact @Sees0.olds _ _
    skip
    generalize hsrc : toksF l (cs.take n) = src
    have hg : ∀ t ∈ src, GoodT l 4 t := fun t ht => (toksF_good l cs n (by omega) t (hsrc ▸ ht)).mono (by omega)
    have hsl : src.length ≤ 331776 := hsrc ▸ toksF_len4 hl24 (by omega) n
    have hfin : toksF l cs = stepF l src (cs.getD n default) := by
      rw [← hsrc, ← toksF_succ l (by omega), List.take_of_length_le (by omega)]
    generalize hx0 : cs.getD n default = x at hfin
    have hxs : tCond.size x ≤ 1048576 := by
      have := tCond_le (l := cs) (i := n) (by omega)
      rw [hx0] at this; rw [tConds_sz] at hc; omega
    refine ALoop.mk (Nat × Fr × List (List AV)) (fun i => ⟨[(0, .list none (rows tCond cs)), (1, .list none (facts l)), (5, .val (.int .i64 n)), (6, .list (some 0) i.2.2), (21, .list (some (1 + (frs tToken src).length)) (tks tToken src 1)), (22, .val (.int .i64 src.length)), (23, .val (.int .i64 i.1))], [], i.2.1⟩)
      (fun i => i.1 ≤ src.length ∧ (∀ (j : Nat) y, (frs tToken src)[j]? = some y → i.2.1[1 + j]? = some y) ∧ 1 + (frs tToken src).length < i.2.1.length ∧ ∃ us, TA i.2.1 (stepF l (src.take i.1) x) i.2.2 us ∧ ∀ u ∈ us, u < 1 + (frs tToken (src.take i.1)).length ∨ 1 + (frs tToken src).length < u)
      (fun i => src.length - i.1) ⟨(0, (90, 2, 0) :: tTokens.fr src, []), ⟨Nat.zero_le _, fun j y hj => ?_, ?_, [], AccO.nil rfl, by simp⟩, ?_⟩ (fun i hi => ?_)
    · rw [Nat.add_comm, List.getElem?_cons_succ]
      show (frs tToken src ++ [_])[j]? = _
      rw [List.getElem?_append_left (getElem?_lt hj)]; exact hj
    · show 1 + _ < ((90, 2, 0) :: (frs tToken src ++ [(90, tToken.sz, src.length)])).length
      simp; omega
    · repeat' first
        | exact trivial | refine wl_ ?_ ?_ ?_ ?_ | refine And.intro ?_ ?_ | with_reducible rfl | exact ble_ | refine AV.int_congr ?_ | refine AV.list_congr ?_ | (apply rfl)
      · exact hw
      · rw [length_tks]
    obtain ⟨i, F, ys⟩ := i
    obtain ⟨hi, hfr, hFl, us, hA, hus⟩ := hi
    simp only at hi hfr hFl hA hus ⊢
    have htl : (tks tToken src 1).length = src.length := length_tks _ _ _
    obtain ⟨F1, rfl⟩ := head_cons hA.hk
    rw [← hA.hl] at *
    by_cases hi' : i < src.length
    rotate_left
    · have e : i = src.length := by omega
      subst e
      rw [List.take_length, ← hfin] at hA
      repeat' first
        | (conv => whnf
           first | refine Need.mk rfl ?_ | refine Fork.decN ?_)
      exact hA.final
    have hgt := hg _ (tget hi')
    have hsz := goodT_size hl hgt (by omega)
    have hle := stepF_le hl24 (x := x) src i
    have hAl := hA.hl
    generalize ha0 : src.getD i default = a at hgt hsz
    have hai : src[i]? = some a := by rw [← ha0]; exact tToken_get hi'
    obtain ⟨m, hm⟩ : ∃ m, m = 1 + (frs tToken (src.take i)).length := ⟨_, rfl⟩
    have hget : (tks tToken src 1)[i]? = some (tToken.tk a m) := by rw [hm]; exact tks_get tToken 1 hai
    have hfs : frs tToken (src.take (i + 1)) = frs tToken (src.take i) ++ tToken.fr a := by
      rw [take_succ' default hi', ha0, frs_append]; simp [frs]
    have hfl : (frs tToken (src.take (i + 1))).length ≤ (frs tToken src).length := by
      have : src = src.take (i + 1) ++ src.drop (i + 1) := (List.take_append_drop _ _).symm
      have h2 : (frs tToken src).length = (frs tToken (src.take (i + 1)) ++ frs tToken (src.drop (i + 1))).length := by rw [← frs_append, ← this]
      rw [List.length_append] at h2; omega
    rw [hfs, List.length_append] at hfl
    have hstep := stepF_take (l := l) (x := x) hi'
    rw [ha0] at hstep
    have hx0' : cs.getD ((n : Nat) : Int).toNat default = x := by rw [Int.toNat_natCast]; exact hx0
    have hix : (0 : Int) ≤ (i : Int) ∧ (tks tToken src 1)[((i : Nat) : Int).toNat]? = some (tToken.tk a m) ∧ (tToken.tk a m).length = 2 := ⟨by omega, by rw [Int.toNat_natCast]; exact hget, rfl⟩
    by_cases hk : x.1 = 1
    · have hb := tTokens_canon.ret rfl rfl (pBehind.own a x l hk hxs h hl24 hsz)
      have hle2 := hasF_le l x.2.1 a l.length
      rw [List.take_length] at hle2
      repeat' first
        | (conv => whnf
           first | refine Need.mk rfl ?_ | refine Need.mk ⟨rfl, Nat.le_of_ble_eq_true rfl⟩ ?_ | refine nb_ ?_ | refine Ix.mk _ (fun _ => hix) ?_ | refine Ix.mapN (fun _ => rfl) ?_ | refine Fork.decY ?_)
      conv => whnf
      refine ACall.mk_TokenS _ _ hb (SeesL.cons ?_ (SeesL.cons ?_ (SeesL.cons ?_ SeesL.nil))) ?_
      · exact @Sees0.aggs _ _ (tk_sees tToken a m)
      · rw [hx0']; exact @Sees0.oldagg (tCond.q x)
      · exact @Sees0.olds _ _
      repeat' first
        | (conv => whnf
           first | refine Need.mk rfl ?_ | refine Need.mk ?_ ?_ | refine Round.mk ?_)
      · exact tks_sz tToken _ _
      · rw [length_tks]; omega
      generalize hnew : hasF l x.2.1 a = new at hle2
      rw [nextF_has hk, hnew] at hstep
      generalize hG : (90, tToken.sz, ys.length) :: F1 = G at *
      have hGp : 0 < G.length := by rw [← hG]; simp
      obtain ⟨vs, o1, o2, o3⟩ := tksOwn tToken new (n := G.length) (F := G ++ tTokens.fr new) (fun q y hq => by
        rw [List.getElem?_append_right (by omega), Nat.add_sub_cancel_left, show tTokens.fr new = frs tToken new ++ [(90, tToken.sz, new.length)] from rfl, List.getElem?_append_left (getElem?_lt hq)]; exact hq)
      have hA2 := (hA.grow (tTokens.fr new)).app (m := ys.length + (tks tToken new G.length).length) new (tks tToken new G.length) vs (by rw [hAl, length_tks]) (length_tks _ _ _) (tks_sz _ _ _) o1 o2
        (fun j hj => ⟨by have := (o3 j hj).1; omega, fun hm => by have := hA.own.lt j hm; have := (o3 j hj).1; omega⟩)
      rw [← hstep] at hA2
      refine ⟨(i + 1, _, _), ⟨by simp only; omega, fun j y hj => ?_, ?_, us ++ vs, hA2, fun u hu => ?_⟩, ?_, by simp only; omega⟩
      · have := getElem?_lt hj
        rw [List.getElem?_set, if_neg (by omega), List.getElem?_append_left (by omega)]; exact hfr j y hj
      · rw [List.length_set, List.length_append]; omega
      · rw [hfs, List.length_append]
        rcases List.mem_append.1 hu with hu | hu
        · rcases hus u hu with h | h
          · exact .inl (by omega)
          · exact .inr h
        · have := (o3 u hu).1; exact .inr (by omega)
      · repeat' first
          | exact trivial | refine wr_ ?_ ?_ ?_ ?_ | refine And.intro ?_ ?_ | with_reducible rfl | exact ble_ | refine AV.int_congr ?_ | refine AV.list_congr ?_ | (apply rfl)
        rw [wrap64 (by omega) (by omega)]; rfl
    · have hb : ∀ us : List Value, us.length = 2 → _ := pBehind.alias a x l hk hxs h hsz
      repeat' first
        | (conv => whnf
           first | refine Need.mk rfl ?_ | refine Need.mk ⟨rfl, Nat.le_of_ble_eq_true rfl⟩ ?_ | refine nb_ ?_ | refine Ix.mk _ (fun _ => hix) ?_ | refine Ix.mapN (fun _ => rfl) ?_ | refine Fork.decY ?_)
      conv => whnf
      refine ACall.alias [] [.agg (oldL (tCond.q (cs.getD ((n : Nat) : Int).toNat default))), .list none (facts l)] [] [.agg (oldL (tCond.q x)), .list none (facts l)] (tToken.tk a m) (oldL (tToken.q a)) _ (.list (some (0 + ((90, tToken.sz, ys.length) :: F1).length)) (if holdsCF x a.2 l then [tToken.tk a m] else [])) _ rfl (tToken.hnr a m) .nil (SeesL.cons ?_ (SeesL.cons ?_ SeesL.nil)) (tk_sees tToken a m) hb (fun us hu => subr_tok _ us (tToken.tk a m) (oldL (tToken.q a)) hu rfl _) ?_
      · rw [hx0']; exact @Sees0.oldagg (tCond.q x)
      · exact @Sees0.olds _ _
      cases hh : holdsCF x a.2 l with
      | false =>
        have hnx : nextF l x a = [] := by rw [nextF, if_neg hk, hh, if_neg (by simp)]
        rw [hnx] at hstep
        repeat' first
          | (conv => whnf
             first | refine Need.mk rfl ?_ | refine Need.mk ?_ ?_ | refine Round.mk ?_)
        · intro c hc; simp at hc
        · simp only [Bool.false_eq_true, if_false, List.length_nil]; omega
        generalize hG : (90, tToken.sz, ys.length) :: F1 = G at *
        have hGp : 0 < G.length := by rw [← hG]; simp
        have hA2 := (hA.grow [(90, 2, 0)]).app (m := ys.length + 0) [] [] [] (by rw [hAl]; rfl) rfl (by simp) .nil List.nodup_nil (by simp)
        rw [← hstep] at hA2
        refine ⟨(i + 1, _, _), ⟨by simp only; omega, fun j y hj => ?_, ?_, us ++ [], hA2, fun u hu => ?_⟩, ?_, by simp only; omega⟩
        · have := getElem?_lt hj
          rw [List.getElem?_set, if_neg (by omega), List.getElem?_append_left (by omega)]; exact hfr j y hj
        · rw [List.length_set, List.length_append]; omega
        · rw [hfs, List.length_append]
          rw [List.append_nil] at hu
          rcases hus u hu with h | h
          · exact .inl (by omega)
          · exact .inr h
        · repeat' first
            | exact trivial | refine wr_ ?_ ?_ ?_ ?_ | refine And.intro ?_ ?_ | with_reducible rfl | exact ble_ | refine AV.int_congr ?_ | refine AV.list_congr ?_ | (apply rfl)
          rw [wrap64 (by omega) (by omega)]; rfl
      | true =>
        have hnx : nextF l x a = [a] := by rw [nextF, if_neg hk, hh, if_pos rfl]
        rw [hnx] at hstep
        repeat' first
          | (conv => whnf
             first | refine Need.mk rfl ?_ | refine Need.mk ?_ ?_ | refine Round.mk ?_)
        · intro c hc; rw [if_pos rfl] at hc; rw [List.mem_singleton.1 hc]; rfl
        · simp only [if_true, List.length_singleton]; omega
        generalize hG : (90, tToken.sz, ys.length) :: F1 = G at *
        have hGp : 0 < G.length := by rw [← hG]; simp
        obtain ⟨vs, o1, o2, o3⟩ := tToken.tkOwn a (n := m) (F := G ++ [(90, 2, 1)]) (fun q y hq => by
          have h1 := hfr _ _ (frs_at tToken hai hq)
          have h2 := getElem?_lt hq
          rw [List.getElem?_append_left (by omega), hm, Nat.add_assoc]; exact h1)
        have hA2 := (hA.grow [(90, 2, 1)]).snoc (m := ys.length + 1) a (tToken.tk a m) vs (by rw [hAl]) o1 o2
          (fun j hj => ⟨by have := (o3 j hj).1; omega, fun hm' => by have := o3 j hj; rcases hus j hm' with h | h <;> omega⟩)
        rw [← hstep] at hA2
        refine ⟨(i + 1, _, _), ⟨by simp only; omega, fun j y hj => ?_, ?_, us ++ vs, hA2, fun u hu => ?_⟩, ?_, by simp only; omega⟩
        · have := getElem?_lt hj
          rw [List.getElem?_set, if_neg (by omega), List.getElem?_append_left (by omega)]; exact hfr j y hj
        · rw [List.length_set, List.length_append]; omega
        · rw [hfs, List.length_append]
          rcases List.mem_append.1 hu with hu | hu
          · rcases hus u hu with h | h
            · exact .inl (by omega)
            · exact .inr h
          · have := (o3 u hu).2; exact .inl (by omega)
        · repeat' first
            | exact trivial | refine wr_ ?_ ?_ ?_ ?_ | refine And.intro ?_ ?_ | with_reducible rfl | exact ble_ | refine AV.int_congr ?_ | refine AV.list_congr ?_ | (apply rfl)
          rw [wrap64 (by omega) (by omega)]; rfl
end Go.Proofs.YtoindmahilbalaaGreat
namespace Go.Proofs.YtoindmahilbalaaGreat
open Abs
def sIsAction.code : ACode := (q_ (r_ [s 1 (.box (t 0)), s 2 (.mv (.const (.bool false)))]) (q_ (.seq (r_ [s 3 (f_ 0 1), s 4 (l_ 3)]) (.block 0 (q_ (.seq (r_ [s 6 (.bin .eql (t 4) (i_ 1)), v_ 5 6]) (.cond (t 5) .skip (r_ [s 7 (.bin .eql (t 4) (i_ 2)), v_ 5 7]))) (.cond (t 5) (q_ (r_ [s 8 (f_ 1 1), s 9 (a_ 2 8), s 10 (.call 122 [(t 9)]), v_ 2 10]) .ret) (q_ (r_ [s 12 (.bin .eql (t 4) (i_ 3)), v_ 11 12]) (.cond (t 11) (q_ (r_ [s 13 (f_ 1 1), s 14 (f_ 0 13), s 15 (l_ 14), s 16 (.bin .eql (t 15) (.const (.string (.mk #[])))), v_ 17 16, g 17 true 18 (f_ 1 1), g 17 true 19 (f_ 1 18), g 17 true 20 (l_ 19), g 17 true 21 (.len false (t 20)), g 17 true 22 (.bin .eql (t 21) (i_ 0)), s 23 (.and (t 17) (t 22)), v_ 2 23]) .ret) .skip)))))) (q_ (r_ [s 2 (.mv (.const (.bool false)))]) .ret)))
def sIsAction.keep : List Nat := [0, 1, 2, 4, 5]
def sIsAction.res : List RRes := [.tmp 2]
theorem sIsAction.ir : IrAt Tryz.prog 88 sIsAction.code sIsAction.keep sIsAction.res Tryz.f88.ntmps := ⟨_, Tryz.func88, rfl, by kernel_rfl, rfl, by kernel_rfl, by kernel_rfl, rfl⟩
abbrev sIsAction.Ret (args : List AV) (r : AV) (frs : Fr) : Prop := Abs.Ret true Tryz.prog 88 args r frs
def pIsAction.code : ACode := (q_ (r_ [s 1 (.box (t 0)), s 2 (.mv (.const (.bool false)))]) (q_ (.seq (r_ [s 3 (f_ 0 1), s 4 (l_ 3)]) (.block 0 (q_ (.seq (r_ [s 6 (.bin .eql (t 4) (i_ 1)), v_ 5 6]) (.cond (t 5) .skip (r_ [s 7 (.bin .eql (t 4) (i_ 2)), v_ 5 7]))) (.cond (t 5) (q_ (r_ [s 8 (f_ 1 1), s 9 (a_ 2 8), s 10 (.call 168 [(t 9)]), v_ 2 10]) .ret) (q_ (r_ [s 12 (.bin .eql (t 4) (i_ 3)), v_ 11 12]) (.cond (t 11) (q_ (r_ [s 13 (f_ 1 1), s 14 (a_ 2 13), s 15 (.build [(.string (.mk (.mk []))), (.slice none 0 0)] [] []), s 16 (.call 170 [(t 14), (t 15)]), v_ 2 16]) .ret) .skip)))))) (q_ (r_ [s 2 (.mv (.const (.bool false)))]) .ret)))
def pIsAction.keep : List Nat := [0, 1, 2, 4, 5]
def pIsAction.res : List RRes := [.tmp 2]
theorem pIsAction.ir : IrAt Tryz.prog 138 pIsAction.code pIsAction.keep pIsAction.res Tryz.f138.ntmps := ⟨_, Tryz.func138, rfl, by kernel_rfl, rfl, by kernel_rfl, by kernel_rfl, rfl⟩
abbrev pIsAction.Ret (args : List AV) (r : AV) (frs : Fr) : Prop := Abs.Ret true Tryz.prog 138 args r frs
def sBoundVars.code : ACode := (q_ (r_ [s 2 (.box (t 0)), s 4 (.mv (.const (.slice none 0 0)))]) (q_ (r_ [s 9 (.bslice 9 1 true []), v_ 5 9]) (q_ (.seq (r_ [s 6 (.mv (i_ 0))]) (.block 0 (.loop (q_ (.seq (r_ [v_ 10 6, s 11 (f_ 2 2), s 12 (l_ 11), s 13 (.len false (t 12)), s 14 (.bin .lss (t 10) (t 13)), v_ 15 14, g 15 true 16 (.mv (t 6)), g 15 true 17 (.mv (t 1)), g 15 true 18 (.bin .lss (t 16) (t 17)), s 19 (.and (t 15) (t 18))]) (.cond (t 19) .skip (.exit 0))) (q_ (.block 1 (q_ (r_ [s 22 (f_ 2 2), s 23 (l_ 22), v_ 24 6, s 25 (.iadr 5 (t 23) (t 24)), s 26 (f_ 0 25), s 27 (l_ 26), s 28 (.bin .eql (t 27) (i_ 1))]) (.cond (t 28) (q_ (r_ [s 29 (f_ 2 2), s 30 (l_ 29), v_ 31 6, s 32 (.iadr 5 (t 30) (t 31)), s 33 (f_ 1 32), s 34 (a_ 2 33), s 35 (.call 89 [(t 34)]), v_ 7 35]) (q_ (r_ [s 8 (.mv (i_ 0))]) (.block 2 (.loop (q_ (.seq (r_ [v_ 36 8, v_ 37 7, s 38 (.len false (t 37)), s 39 (.bin .lss (t 36) (t 38))]) (.cond (t 39) .skip (.exit 2))) (q_ (.block 3 (r_ [v_ 42 5, v_ 43 7, v_ 44 8, s 45 (.iadr 1 (t 43) (t 44)), s 46 (l_ 45), s 47 (.call 121 [(t 42), (t 46)]), v_ 5 47])) (r_ [v_ 40 8, s 41 (.bin .add (t 40) (i_ 1)), v_ 8 41]))))))) .skip))) (r_ [v_ 20 6, s 21 (.bin .add (t 20) (i_ 1)), v_ 6 21])))))) (q_ (r_ [v_ 48 5, v_ 4 48]) .ret))))
def sBoundVars.keep : List Nat := [0, 1, 2, 4, 5, 6, 7, 8]
def sBoundVars.res : List RRes := [.tmp 4]
abbrev sBoundVars.Own (args : List AV) (x : Tr) : Prop := Abs.Own true Tryz.prog 82 args x
def pBoundVars.code : ACode := (q_ (r_ [s 2 (.box (t 0)), s 4 (.mv (.const (.slice none 0 0)))]) (q_ (r_ [s 8 (.bslice 9 1 true []), v_ 5 8]) (q_ (.seq (r_ [s 9 (f_ 2 2), s 10 (l_ 9), v_ 11 1, s 12 (.mm true (t 11) (i_ 0)), s 13 (f_ 2 2), s 14 (l_ 13), s 15 (.len false (t 14)), s 16 (.mm false (t 12) (t 15)), s 17 (.slice false 5 (t 10) none (some (t 16))), s 18 (.len false (t 17)), s 19 (.mv (i_ 0))]) (.block 0 (.loop (q_ (r_ [s 20 (.bin .lss (t 19) (t 18))]) (q_ (.cond (t 20) .skip (.exit 0)) (q_ (.block 1 (q_ (r_ [s 21 (.iadr 5 (t 17) (t 19)), s 22 (a_ 5 21), s 7 (.alloc [(.int .i64 (.ofNat 0)), (.string (.mk (.mk []))), (.slice none 0 0), (.string (.mk (.mk []))), (.string (.mk (.mk [])))]), ⟨none, none, (.store 5 (t 7) (t 22))⟩]) (q_ (r_ [s 23 (f_ 0 7), s 24 (l_ 23), s 25 (.bin .eql (t 24) (i_ 1))]) (.cond (t 25) (r_ [v_ 26 5, s 27 (f_ 1 7), s 28 (a_ 2 27), s 29 (.call 143 [(t 28)]), s 30 (.append 9 1 16 (t 26) (t 29)), v_ 5 30]) .skip)))) (r_ [s 31 (.bin .add (t 19) (i_ 1)), v_ 19 31]))))))) (q_ (r_ [v_ 32 5, s 33 (.call 145 [(t 32)]), v_ 4 33]) .ret))))
def pBoundVars.keep : List Nat := [0, 1, 2, 4, 5, 7, 17, 18, 19, 20]
def pBoundVars.res : List RRes := [.tmp 4]
theorem pBoundVars.ir : IrAt Tryz.prog 140 pBoundVars.code pBoundVars.keep pBoundVars.res Tryz.f140.ntmps := ⟨_, Tryz.func140, rfl, by kernel_rfl, rfl, by kernel_rfl, by kernel_rfl, rfl⟩
abbrev pBoundVars.Own (args : List AV) (x : Tr) : Prop := Abs.Own true Tryz.prog 140 args x
abbrev pBoundVars.Ret (args : List AV) (r : AV) (frs : Fr) : Prop := Abs.Ret true Tryz.prog 140 args r frs
def sRuleVars.code : ACode := (q_ (r_ [s 1 (.box (t 0)), s 2 (.mv (.const (.slice none 0 0)))]) (q_ (r_ [s 10 (.bslice 9 1 true []), v_ 3 10]) (q_ (.seq (r_ [s 4 (.mv (i_ 0))]) (.block 0 (.loop (q_ (.seq (r_ [v_ 11 4, s 12 (f_ 2 1), s 13 (l_ 12), s 14 (.len false (t 13)), s 15 (.bin .lss (t 11) (t 14))]) (.cond (t 15) .skip (.exit 0))) (q_ (.block 1 (q_ (r_ [s 18 (f_ 2 1), s 19 (l_ 18), v_ 20 4, s 21 (.iadr 5 (t 19) (t 20)), s 22 (a_ 5 21), s 23 (.call 84 [(t 22)]), v_ 5 23]) (q_ (r_ [s 6 (.mv (i_ 0))]) (.block 2 (.loop (q_ (.seq (r_ [v_ 24 6, v_ 25 5, s 26 (.len false (t 25)), s 27 (.bin .lss (t 24) (t 26))]) (.cond (t 27) .skip (.exit 2))) (q_ (.block 3 (r_ [v_ 30 3, v_ 31 5, v_ 32 6, s 33 (.iadr 1 (t 31) (t 32)), s 34 (l_ 33), s 35 (.call 121 [(t 30), (t 34)]), v_ 3 35])) (r_ [v_ 28 6, s 29 (.bin .add (t 28) (i_ 1)), v_ 6 29])))))))) (r_ [v_ 16 4, s 17 (.bin .add (t 16) (i_ 1)), v_ 4 17])))))) (q_ (.seq (r_ [s 7 (.mv (i_ 0))]) (.block 4 (.loop (q_ (.seq (r_ [v_ 36 7, s 37 (f_ 3 1), s 38 (l_ 37), s 39 (.len false (t 38)), s 40 (.bin .lss (t 36) (t 39))]) (.cond (t 40) .skip (.exit 4))) (q_ (.block 5 (q_ (r_ [s 43 (f_ 3 1), s 44 (l_ 43), v_ 45 7, s 46 (.iadr 3 (t 44) (t 45)), s 47 (f_ 1 46), s 48 (a_ 2 47), s 49 (.call 89 [(t 48)]), v_ 8 49]) (q_ (r_ [s 9 (.mv (i_ 0))]) (.block 6 (.loop (q_ (.seq (r_ [v_ 50 9, v_ 51 8, s 52 (.len false (t 51)), s 53 (.bin .lss (t 50) (t 52))]) (.cond (t 53) .skip (.exit 6))) (q_ (.block 7 (r_ [v_ 56 3, v_ 57 8, v_ 58 9, s 59 (.iadr 1 (t 57) (t 58)), s 60 (l_ 59), s 61 (.call 121 [(t 56), (t 60)]), v_ 3 61])) (r_ [v_ 54 9, s 55 (.bin .add (t 54) (i_ 1)), v_ 9 55])))))))) (r_ [v_ 41 7, s 42 (.bin .add (t 41) (i_ 1)), v_ 7 42])))))) (q_ (r_ [v_ 62 3, v_ 2 62]) .ret)))))
def sRuleVars.keep : List Nat := [0, 1, 2, 3, 4, 5, 6, 7, 8, 9]
def sRuleVars.res : List RRes := [.tmp 2]
abbrev sRuleVars.Own (args : List AV) (x : Tr) : Prop := Abs.Own true Tryz.prog 90 args x
def pRuleVars.code : ACode := (q_ (r_ [s 1 (.box (t 0)), s 2 (.mv (.const (.slice none 0 0)))]) (q_ (r_ [s 6 (f_ 2 1), s 7 (l_ 6), s 8 (.call 101 [(t 7)]), v_ 3 8]) (q_ (.seq (r_ [s 9 (f_ 3 1), s 10 (l_ 9), s 11 (.len false (t 10)), s 12 (.mv (i_ 0))]) (.block 0 (.loop (q_ (r_ [s 13 (.bin .lss (t 12) (t 11))]) (q_ (.cond (t 13) .skip (.exit 0)) (q_ (.block 1 (q_ (r_ [s 14 (.iadr 3 (t 10) (t 12)), s 15 (a_ 3 14), s 5 (.alloc [(.int .i64 (.ofNat 0)), (.string (.mk (.mk []))), (.slice none 0 0)]), ⟨none, none, (.store 3 (t 5) (t 15))⟩]) (r_ [v_ 16 3, s 17 (f_ 1 5), s 18 (a_ 2 17), s 19 (.call 143 [(t 18)]), s 20 (.append 9 1 16 (t 16) (t 19)), v_ 3 20]))) (r_ [s 21 (.bin .add (t 12) (i_ 1)), v_ 12 21]))))))) (q_ (r_ [v_ 22 3, s 23 (.call 145 [(t 22)]), v_ 2 23]) .ret))))
def pRuleVars.keep : List Nat := [0, 1, 2, 3, 5, 10, 11, 12, 13]
def pRuleVars.res : List RRes := [.tmp 2]
theorem pRuleVars.ir : IrAt Tryz.prog 171 pRuleVars.code pRuleVars.keep pRuleVars.res Tryz.f171.ntmps := ⟨_, Tryz.func171, rfl, by kernel_rfl, rfl, by kernel_rfl, by kernel_rfl, rfl⟩
abbrev pRuleVars.Own (args : List AV) (x : Tr) : Prop := Abs.Own true Tryz.prog 171 args x
abbrev pRuleVars.Ret (args : List AV) (r : AV) (frs : Fr) : Prop := Abs.Ret true Tryz.prog 171 args r frs
def pvarsOfConds.code : ACode := (q_ (r_ [s 2 (.mv (.const (.slice none 0 0)))]) (q_ (r_ [s 6 (.bslice 9 1 true []), v_ 3 6]) (q_ (.seq (r_ [v_ 7 0, s 8 (.len false (t 7)), s 9 (.mv (i_ 0))]) (.block 0 (.loop (q_ (r_ [s 10 (.bin .lss (t 9) (t 8))]) (q_ (.cond (t 10) .skip (.exit 0)) (q_ (.block 1 (q_ (r_ [s 11 (.iadr 5 (t 7) (t 9)), s 12 (a_ 5 11), s 5 (.alloc [(.int .i64 (.ofNat 0)), (.string (.mk (.mk []))), (.slice none 0 0), (.string (.mk (.mk []))), (.string (.mk (.mk [])))]), ⟨none, none, (.store 5 (t 5) (t 12))⟩]) (r_ [v_ 13 3, s 14 (a_ 5 5), s 15 (.call 144 [(t 14)]), s 16 (.append 9 1 16 (t 13) (t 15)), v_ 3 16]))) (r_ [s 17 (.bin .add (t 9) (i_ 1)), v_ 9 17]))))))) (q_ (r_ [v_ 18 3, s 19 (.call 145 [(t 18)]), v_ 2 19]) .ret))))
def pvarsOfConds.keep : List Nat := [0, 2, 3, 5, 7, 8, 9, 10]
def pvarsOfConds.res : List RRes := [.tmp 2]
theorem pvarsOfConds.ir : IrAt Tryz.prog 101 pvarsOfConds.code pvarsOfConds.keep pvarsOfConds.res Tryz.f101.ntmps := ⟨_, Tryz.func101, rfl, by kernel_rfl, rfl, by kernel_rfl, by kernel_rfl, rfl⟩
abbrev pvarsOfConds.Own (args : List AV) (x : Tr) : Prop := Abs.Own true Tryz.prog 101 args x
abbrev pvarsOfConds.Ret (args : List AV) (r : AV) (frs : Fr) : Prop := Abs.Ret true Tryz.prog 101 args r frs
def sIsRule.code : ACode := (q_ (r_ [s 1 (.box (t 0)), s 2 (.mv (.const (.bool false)))]) (q_ (.seq (r_ [s 13 (f_ 0 1), s 14 (l_ 13), s 15 (.call 81 [(t 14)]), s 16 (.not (t 15)), v_ 17 16, g 17 false 18 (f_ 1 1), g 17 false 19 (l_ 18), g 17 false 20 (.call 50 [(t 19), (i_ 0), (i_ 9)]), g 17 false 21 (.not (t 20)), s 22 (.or (t 17) (t 21)), v_ 23 22, g 23 false 24 (f_ 2 1), g 23 false 25 (l_ 24), g 23 false 26 (.len false (t 25)), g 23 false 27 (.call 50 [(t 26), (i_ 1), (i_ 4)]), g 23 false 28 (.not (t 27)), s 29 (.or (t 23) (t 28)), v_ 30 29, g 30 false 31 (f_ 3 1), g 30 false 32 (l_ 31), g 30 false 33 (.len false (t 32)), g 30 false 34 (.call 50 [(t 33), (i_ 1), (i_ 2)]), g 30 false 35 (.not (t 34)), s 36 (.or (t 30) (t 35))]) (.cond (t 36) (q_ (r_ [s 2 (.mv (.const (.bool false)))]) .ret) .skip)) (q_ (r_ [s 37 (a_ 4 1), s 38 (f_ 2 1), s 39 (l_ 38), s 40 (.len false (t 39)), s 41 (.call 82 [(t 37), (t 40)]), v_ 3 41]) (q_ (.seq (r_ [s 4 (.mv (i_ 0))]) (.block 0 (.loop (q_ (.seq (r_ [v_ 42 4, s 43 (f_ 2 1), s 44 (l_ 43), s 45 (.len false (t 44)), s 46 (.bin .lss (t 42) (t 45))]) (.cond (t 46) .skip (.exit 0))) (q_ (.block 1 (q_ (r_ [s 49 (f_ 2 1), s 50 (l_ 49), v_ 51 4, s 52 (.iadr 5 (t 50) (t 51)), s 53 (a_ 5 52), s 5 (.alloc [(.int .i64 (.ofNat 0)), (.string (.mk (.mk []))), (.slice none 0 0), (.string (.mk (.mk []))), (.string (.mk (.mk [])))]), ⟨none, none, (.store 5 (t 5) (t 53))⟩]) (q_ (.seq (r_ [s 54 (a_ 5 5), s 55 (.call 83 [(t 54)]), s 56 (.not (t 55)), v_ 57 56, g 57 false 58 (.mv (t 4)), g 57 false 59 (.bin .eql (t 58) (i_ 0)), g 57 false 60 (.mv (t 59)), g 60 true 61 (f_ 0 5), g 60 true 62 (l_ 61), g 60 true 63 (.bin .neq (t 62) (i_ 1)), g 57 false 64 (.and (t 60) (t 63)), s 65 (.or (t 57) (t 64))]) (.cond (t 65) (q_ (r_ [s 2 (.mv (.const (.bool false)))]) .ret) .skip)) (q_ (r_ [s 66 (a_ 4 1), v_ 67 4, s 68 (.call 82 [(t 66), (t 67)]), v_ 6 68]) (q_ (r_ [s 69 (a_ 5 5), s 70 (.call 84 [(t 69)]), v_ 7 70]) (q_ (r_ [s 8 (.mv (i_ 0))]) (.block 2 (.loop (q_ (.seq (r_ [v_ 71 8, v_ 72 7, s 73 (.len false (t 72)), s 74 (.bin .lss (t 71) (t 73))]) (.cond (t 74) .skip (.exit 2))) (q_ (.block 3 (q_ (r_ [v_ 77 6, v_ 78 7, v_ 79 8, s 80 (.iadr 1 (t 78) (t 79)), s 81 (l_ 80), s 82 (.call 85 [(t 77), (t 81)]), v_ 9 82]) (q_ (.region true [s 83 (a_ 5 5), s 84 (.call 86 [(t 83)]), v_ 85 84, g 85 true 86 (.mv (t 9)), g 85 true 87 (.not (t 86)), s 88 (.and (t 85) (t 87)), v_ 89 88, g 89 false 90 (f_ 0 5), g 89 false 91 (l_ 90), g 89 false 92 (.bin .eql (t 91) (i_ 2)), g 89 false 93 (.mv (t 92)), g 93 true 94 (.mv (t 9)), g 93 true 95 (.not (t 94)), g 89 false 96 (.and (t 93) (t 95)), g 89 false 97 (.mv (t 96)), g 97 true 98 (a_ 4 1), g 97 true 99 (.mv (t 4)), g 97 true 100 (.mv (t 7)), g 97 true 101 (.mv (t 8)), g 97 true 102 (.iadr 1 (t 100) (t 101)), g 97 true 103 (l_ 102), g 97 true 104 (.call 87 [(t 98), (t 99), (t 103)]), g 89 false 105 (.and (t 97) (t 104)), s 106 (.or (t 89) (t 105))]) (.cond (t 106) (q_ (r_ [s 2 (.mv (.const (.bool false)))]) .ret) .skip)))) (r_ [v_ 75 8, s 76 (.bin .add (t 75) (i_ 1)), v_ 8 76]))))))))))) (r_ [v_ 47 4, s 48 (.bin .add (t 47) (i_ 1)), v_ 4 48])))))) (q_ (.seq (r_ [s 10 (.mv (i_ 0))]) (.block 4 (.loop (q_ (.seq (r_ [v_ 107 10, s 108 (f_ 3 1), s 109 (l_ 108), s 110 (.len false (t 109)), s 111 (.bin .lss (t 107) (t 110))]) (.cond (t 111) .skip (.exit 4))) (q_ (.block 5 (q_ (.seq (r_ [s 114 (f_ 3 1), s 115 (l_ 114), v_ 116 10, s 117 (.iadr 3 (t 115) (t 116)), s 118 (a_ 3 117), s 119 (.call 88 [(t 118)]), s 120 (.not (t 119))]) (.cond (t 120) (q_ (r_ [s 2 (.mv (.const (.bool false)))]) .ret) .skip)) (q_ (r_ [s 121 (f_ 3 1), s 122 (l_ 121), v_ 123 10, s 124 (.iadr 3 (t 122) (t 123)), s 125 (f_ 1 124), s 126 (a_ 2 125), s 127 (.call 89 [(t 126)]), v_ 11 127]) (q_ (r_ [s 12 (.mv (i_ 0))]) (.block 6 (.loop (q_ (.seq (r_ [v_ 128 12, v_ 129 11, s 130 (.len false (t 129)), s 131 (.bin .lss (t 128) (t 130))]) (.cond (t 131) .skip (.exit 6))) (q_ (.block 7 (q_ (r_ [v_ 134 3, v_ 135 11, v_ 136 12, s 137 (.iadr 1 (t 135) (t 136)), s 138 (l_ 137), s 139 (.call 85 [(t 134), (t 138)]), s 140 (.not (t 139))]) (.cond (t 140) (q_ (r_ [s 2 (.mv (.const (.bool false)))]) .ret) .skip))) (r_ [v_ 132 12, s 133 (.bin .add (t 132) (i_ 1)), v_ 12 133]))))))))) (r_ [v_ 112 10, s 113 (.bin .add (t 112) (i_ 1)), v_ 10 113])))))) (q_ (r_ [s 141 (a_ 4 1), s 142 (.call 90 [(t 141)]), s 143 (.len false (t 142)), s 144 (.bin .leq (t 143) (i_ 6)), v_ 2 144]) .ret))))))
def sIsRule.keep : List Nat := [0, 1, 2, 3, 4, 5, 6, 7, 8, 9, 10, 11, 12]
def sIsRule.res : List RRes := [.tmp 2]
theorem sIsRule.ir : IrAt Tryz.prog 48 sIsRule.code sIsRule.keep sIsRule.res Tryz.f48.ntmps := ⟨_, Tryz.func48, rfl, by kernel_rfl, rfl, by kernel_rfl, by kernel_rfl, rfl⟩
abbrev sIsRule.Ret (args : List AV) (r : AV) (frs : Fr) : Prop := Abs.Ret true Tryz.prog 48 args r frs
def pIsRule.code : ACode := (q_ (r_ [s 1 (.box (t 0)), s 2 (.mv (.const (.bool false)))]) (q_ (r_ [s 3 (f_ 0 1), s 4 (l_ 3), s 5 (.call 97 [(t 4)]), v_ 6 5, g 6 true 7 (f_ 1 1), g 6 true 8 (l_ 7), g 6 true 9 (.bin .leq (i_ 0) (t 8)), s 10 (.and (t 6) (t 9)), v_ 11 10, g 11 true 12 (f_ 1 1), g 11 true 13 (l_ 12), g 11 true 14 (.bin .leq (t 13) (i_ 9)), s 15 (.and (t 11) (t 14)), v_ 16 15, g 16 true 17 (f_ 2 1), g 16 true 18 (l_ 17), g 16 true 19 (.call 98 [(t 18)]), s 20 (.and (t 16) (t 19)), v_ 21 20, g 21 true 22 (f_ 3 1), g 21 true 23 (l_ 22), g 21 true 24 (.call 99 [(t 23)]), s 25 (.and (t 21) (t 24)), v_ 26 25, g 26 true 27 (a_ 4 1), g 26 true 28 (.call 100 [(t 27)]), s 29 (.and (t 26) (t 28)), v_ 30 29, g 30 true 31 (f_ 2 1), g 30 true 32 (l_ 31), g 30 true 33 (.call 101 [(t 32)]), g 30 true 34 (.len false (t 33)), g 30 true 35 (.bin .leq (t 34) (i_ 6)), s 36 (.and (t 30) (t 35)), v_ 2 36]) .ret))
def pIsRule.keep : List Nat := [0, 1, 2]
def pIsRule.res : List RRes := [.tmp 2]
theorem pIsRule.ir : IrAt Tryz.prog 55 pIsRule.code pIsRule.keep pIsRule.res Tryz.f55.ntmps := ⟨_, Tryz.func55, rfl, by kernel_rfl, rfl, by kernel_rfl, by kernel_rfl, rfl⟩
abbrev pIsRule.Ret (args : List AV) (r : AV) (frs : Fr) : Prop := Abs.Ret true Tryz.prog 55 args r frs
def sElse.code : ACode := (q_ (r_ [s 3 (.box (t 0)), s 6 (.mv (.const (.bool false)))]) (q_ (.seq (r_ [s 7 (.mv (i_ 0))]) (.block 0 (.loop (q_ (.seq (r_ [v_ 9 7, s 10 (f_ 2 3), s 11 (l_ 10), s 12 (.len false (t 11)), s 13 (.bin .lss (t 9) (t 12))]) (.cond (t 13) .skip (.exit 0))) (q_ (.block 1 (q_ (r_ [v_ 16 7, v_ 17 1, s 18 (.bin .neq (t 16) (t 17)), v_ 19 18, g 19 true 20 (f_ 2 3), g 19 true 21 (l_ 20), g 19 true 22 (.mv (t 7)), g 19 true 23 (.iadr 5 (t 21) (t 22)), g 19 true 24 (a_ 5 23), g 19 true 25 (.call 84 [(t 24)]), g 19 true 26 (.mv (t 2)), g 19 true 27 (.call 85 [(t 25), (t 26)]), s 28 (.and (t 19) (t 27))]) (.cond (t 28) (q_ (r_ [s 6 (.mv (.const (.bool true)))]) .ret) .skip))) (r_ [v_ 14 7, s 15 (.bin .add (t 14) (i_ 1)), v_ 7 15])))))) (q_ (.seq (r_ [s 8 (.mv (i_ 0))]) (.block 2 (.loop (q_ (.seq (r_ [v_ 29 8, s 30 (f_ 3 3), s 31 (l_ 30), s 32 (.len false (t 31)), s 33 (.bin .lss (t 29) (t 32))]) (.cond (t 33) .skip (.exit 2))) (q_ (.block 3 (q_ (r_ [s 36 (f_ 3 3), s 37 (l_ 36), v_ 38 8, s 39 (.iadr 3 (t 37) (t 38)), s 40 (f_ 1 39), s 41 (a_ 2 40), s 42 (.call 89 [(t 41)]), v_ 43 2, s 44 (.call 85 [(t 42), (t 43)])]) (.cond (t 44) (q_ (r_ [s 6 (.mv (.const (.bool true)))]) .ret) .skip))) (r_ [v_ 34 8, s 35 (.bin .add (t 34) (i_ 1)), v_ 8 35])))))) (q_ (r_ [s 6 (.mv (.const (.bool false)))]) .ret))))
def sElse.keep : List Nat := [0, 1, 2, 3, 6, 7, 8]
def sElse.res : List RRes := [.tmp 6]
theorem sElse.ir : IrAt Tryz.prog 87 sElse.code sElse.keep sElse.res Tryz.f87.ntmps := ⟨_, Tryz.func87, rfl, by kernel_rfl, rfl, by kernel_rfl, by kernel_rfl, rfl⟩
abbrev sElse.Ret (args : List AV) (r : AV) (frs : Fr) : Prop := Abs.Ret true Tryz.prog 87 args r frs
def pareConds.code : ACode := (q_ (r_ [s 2 (.mv (.const (.bool false)))]) (q_ (r_ [v_ 3 0, s 4 (.len false (t 3)), s 5 (.bin .leq (i_ 1) (t 4)), v_ 6 5, g 6 true 7 (.mv (t 0)), g 6 true 8 (.len false (t 7)), g 6 true 9 (.bin .leq (t 8) (i_ 4)), s 10 (.and (t 6) (t 9)), v_ 11 10, g 11 true 12 (.mv (t 0)), g 11 true 13 (.iadr 5 (t 12) (i_ 0)), g 11 true 14 (f_ 0 13), g 11 true 15 (l_ 14), g 11 true 16 (.bin .eql (t 15) (i_ 1)), s 17 (.and (t 11) (t 16)), v_ 18 17, g 18 true 19 (.mv (t 0)), g 18 true 20 (.call 135 [(t 19), (.func 136)]), s 21 (.and (t 18) (t 20)), v_ 2 21]) .ret))
def pareConds.keep : List Nat := [0, 2]
def pareConds.res : List RRes := [.tmp 2]
theorem pareConds.ir : IrAt Tryz.prog 98 pareConds.code pareConds.keep pareConds.res Tryz.f98.ntmps := ⟨_, Tryz.func98, rfl, by kernel_rfl, rfl, by kernel_rfl, by kernel_rfl, rfl⟩
abbrev pareConds.Ret (args : List AV) (r : AV) (frs : Fr) : Prop := Abs.Ret true Tryz.prog 98 args r frs
def pareActions.code : ACode := (q_ (r_ [s 2 (.mv (.const (.bool false)))]) (q_ (r_ [v_ 3 0, s 4 (.len false (t 3)), s 5 (.bin .leq (i_ 1) (t 4)), v_ 6 5, g 6 true 7 (.mv (t 0)), g 6 true 8 (.len false (t 7)), g 6 true 9 (.bin .leq (t 8) (i_ 2)), s 10 (.and (t 6) (t 9)), v_ 11 10, g 11 true 12 (.mv (t 0)), g 11 true 13 (.call 137 [(t 12), (.func 138)]), s 14 (.and (t 11) (t 13)), v_ 2 14]) .ret))
def pareActions.keep : List Nat := [0, 2]
def pareActions.res : List RRes := [.tmp 2]
theorem pareActions.ir : IrAt Tryz.prog 99 pareActions.code pareActions.keep pareActions.res Tryz.f99.ntmps := ⟨_, Tryz.func99, rfl, by kernel_rfl, rfl, by kernel_rfl, by kernel_rfl, rfl⟩
abbrev pareActions.Ret (args : List AV) (r : AV) (frs : Fr) : Prop := Abs.Ret true Tryz.prog 99 args r frs
def pusesOnlyBound.code : ACode := (q_ (r_ [s 1 (.box (t 0)), s 2 (.mv (.const (.bool false)))]) (q_ (.seq (r_ [s 5 (f_ 2 1), s 6 (l_ 5), s 7 (.len false (t 6)), s 8 (.mv (i_ 0))]) (.block 0 (.loop (q_ (r_ [s 9 (.bin .lss (t 8) (t 7))]) (q_ (.cond (t 9) .skip (.exit 0)) (q_ (.block 1 (q_ (r_ [v_ 10 8, v_ 3 10]) (q_ (r_ [s 11 (a_ 4 1), v_ 12 3, s 13 (.call 139 [(t 11), (t 12)]), s 14 (.not (t 13))]) (.cond (t 14) (q_ (r_ [s 2 (.mv (.const (.bool false)))]) .ret) .skip)))) (r_ [s 15 (.bin .add (t 8) (i_ 1)), v_ 8 15]))))))) (q_ (r_ [s 16 (a_ 4 1), s 17 (f_ 2 1), s 18 (l_ 17), s 19 (.len false (t 18)), s 20 (.call 140 [(t 16), (t 19)]), s 4 (.alloc [(.slice none 0 0)]), ⟨none, none, (.store 1 (t 4) (t 20))⟩]) (q_ (r_ [s 21 (f_ 3 1), s 22 (l_ 21), s 23 (.clo 141 [] [(t 4)]), s 24 (.call 137 [(t 22), (t 23)]), v_ 2 24]) .ret))))
def pusesOnlyBound.keep : List Nat := [0, 1, 2, 3, 4, 7, 8, 9]
def pusesOnlyBound.res : List RRes := [.tmp 2]
theorem pusesOnlyBound.ir : IrAt Tryz.prog 100 pusesOnlyBound.code pusesOnlyBound.keep pusesOnlyBound.res Tryz.f100.ntmps := ⟨_, Tryz.func100, rfl, by kernel_rfl, rfl, by kernel_rfl, by kernel_rfl, rfl⟩
abbrev pusesOnlyBound.Ret (args : List AV) (r : AV) (frs : Fr) : Prop := Abs.Ret true Tryz.prog 100 args r frs
def pmayStandAt.code : ACode := (q_ (r_ [s 2 (.box (t 0)), s 4 (.mv (.const (.bool false)))]) (q_ (.heldT [8, 9, 10, 11, 12, 13, 14, 15, 5, 6] (.alt (s 8 (f_ 2 2)) (.alt (s 9 (l_ 8)) (.alt (v_ 10 1) (.alt (s 11 (.iadr 5 (t 9) (t 10))) (.alt (s 12 (a_ 5 11)) (.alt (s 13 (a_ 4 2)) (.alt (v_ 14 1) (.alt (s 15 (.call 140 [(t 13), (t 14)])) (.alt (s 5 (.alloc [(.int .i64 (.ofNat 0)), (.string (.mk (.mk []))), (.slice none 0 0), (.string (.mk (.mk []))), (.string (.mk (.mk [])))])) (.alt (s 6 (.alloc [(.slice none 0 0)])) .fin .none) (.alt (s 6 (.alloc [(.slice none 0 0)])) (.alt (s 5 (.alloc [(.int .i64 (.ofNat 0)), (.string (.mk (.mk []))), (.slice none 0 0), (.string (.mk (.mk []))), (.string (.mk (.mk [])))])) .fin .none) .none)) (.alt (s 5 (.alloc [(.int .i64 (.ofNat 0)), (.string (.mk (.mk []))), (.slice none 0 0), (.string (.mk (.mk []))), (.string (.mk (.mk [])))])) (.alt (s 15 (.call 140 [(t 13), (t 14)])) (.alt (s 6 (.alloc [(.slice none 0 0)])) .fin .none) (.alt (s 6 (.alloc [(.slice none 0 0)])) (.alt (s 15 (.call 140 [(t 13), (t 14)])) .fin .none) .none)) (.alt (s 6 (.alloc [(.slice none 0 0)])) (.alt (s 15 (.call 140 [(t 13), (t 14)])) (.alt (s 5 (.alloc [(.int .i64 (.ofNat 0)), (.string (.mk (.mk []))), (.slice none 0 0), (.string (.mk (.mk []))), (.string (.mk (.mk [])))])) .fin .none) (.alt (s 5 (.alloc [(.int .i64 (.ofNat 0)), (.string (.mk (.mk []))), (.slice none 0 0), (.string (.mk (.mk []))), (.string (.mk (.mk [])))])) (.alt (s 15 (.call 140 [(t 13), (t 14)])) .fin .none) .none)) .none))) .none) .none) .none) .none) .none) .none) .none) [⟨none, none, (.store 5 (t 5) (t 12))⟩, ⟨none, none, (.store 1 (t 6) (t 15))⟩]) (q_ (.seq (r_ [s 16 (f_ 0 5), s 17 (l_ 16)]) (.block 0 (q_ (r_ [s 19 (.bin .eql (t 17) (i_ 1)), v_ 18 19]) (.cond (t 18) (q_ (r_ [s 4 (.mv (.const (.bool true)))]) .ret) (q_ (r_ [s 21 (.bin .eql (t 17) (i_ 2)), v_ 20 21]) (.cond (t 20) (q_ (.heldT [22, 23, 24, 25, 26, 27, 28, 29, 30, 31, 32, 33, 34, 35, 36, 7] (.alt (s 22 (f_ 2 2)) (.alt (s 23 (l_ 22)) (.alt (v_ 24 1) (.alt (s 25 (.slice false 5 (t 23) none (some (t 24)))) (.alt (s 26 (f_ 2 2)) (.alt (s 27 (l_ 26)) (.alt (v_ 28 1) (.alt (s 29 (.bin .add (t 28) (i_ 1))) (.alt (s 30 (.slice false 5 (t 27) (some (t 29)) none)) (.alt (s 33 (f_ 3 2)) (.alt (s 34 (l_ 33)) (.alt (s 31 (.bslice 31 1 true [(t 25), (t 30)])) (.alt (s 32 (.call 172 [(t 31)])) (.alt (s 35 (.build [(.string (.mk (.mk []))), (.int .i64 (.ofNat 0)), (.slice none 0 0), (.slice none 0 0)] [(2, 1), (3, 1)] [(t 32), (t 34)])) (.alt (s 36 (.call 171 [(t 35)])) (.alt (s 7 (.alloc [(.slice none 0 0)])) .fin .none) (.alt (s 7 (.alloc [(.slice none 0 0)])) (.alt (s 36 (.call 171 [(t 35)])) .fin .none) .none)) .none) (.alt (s 7 (.alloc [(.slice none 0 0)])) (.alt (s 32 (.call 172 [(t 31)])) (.alt (s 35 (.build [(.string (.mk (.mk []))), (.int .i64 (.ofNat 0)), (.slice none 0 0), (.slice none 0 0)] [(2, 1), (3, 1)] [(t 32), (t 34)])) (.alt (s 36 (.call 171 [(t 35)])) .fin .none) .none) .none) .none)) (.alt (s 7 (.alloc [(.slice none 0 0)])) (.alt (s 31 (.bslice 31 1 true [(t 25), (t 30)])) (.alt (s 32 (.call 172 [(t 31)])) (.alt (s 35 (.build [(.string (.mk (.mk []))), (.int .i64 (.ofNat 0)), (.slice none 0 0), (.slice none 0 0)] [(2, 1), (3, 1)] [(t 32), (t 34)])) (.alt (s 36 (.call 171 [(t 35)])) .fin .none) .none) .none) .none) .none)) .none) .none) .none) .none) .none) .none) .none) .none) .none) .none) .none) [⟨none, none, (.store 1 (t 7) (t 36))⟩]) (q_ (r_ [s 37 (a_ 5 5), s 38 (.call 144 [(t 37)]), s 39 (.clo 174 [] [(t 6), (t 7)]), s 40 (.call 173 [(t 38), (t 39)]), v_ 4 40]) .ret)) .skip)))))) (q_ (.held [s 41 (a_ 5 5), s 43 (l_ 6), s 42 (.call 144 [(t 41)])] [s 44 (.call 142 [(t 42), (t 43)]), v_ 4 44]) .ret))))
def pmayStandAt.keep : List Nat := [0, 1, 2, 4, 5, 6, 7, 17]
def pmayStandAt.res : List RRes := [.tmp 4]
theorem pmayStandAt.ir : IrAt Tryz.prog 139 pmayStandAt.code pmayStandAt.keep pmayStandAt.res Tryz.f139.ntmps := ⟨_, Tryz.func139, rfl, by kernel_rfl, rfl, by kernel_rfl, by kernel_rfl, rfl⟩
abbrev pmayStandAt.Ret (args : List AV) (r : AV) (frs : Fr) : Prop := Abs.Ret true Tryz.prog 139 args r frs
def pareAmong.code : ACode := (q_ (r_ [s 3 (.box (t 1)), s 4 (.mv (.const (.bool false)))]) (q_ (r_ [v_ 5 0, s 6 (.clo 176 [] [(t 3)]), s 7 (.call 173 [(t 5), (t 6)]), v_ 4 7]) .ret))
def pareAmong.keep : List Nat := [0, 1, 3, 4]
def pareAmong.res : List RRes := [.tmp 4]
theorem pareAmong.ir : IrAt Tryz.prog 142 pareAmong.code pareAmong.keep pareAmong.res Tryz.f142.ntmps := ⟨_, Tryz.func142, rfl, by kernel_rfl, rfl, by kernel_rfl, by kernel_rfl, rfl⟩
abbrev pareAmong.Ret (args : List AV) (r : AV) (frs : Fr) : Prop := Abs.Ret true Tryz.prog 142 args r frs
def pallC.code : ACode := (q_ (r_ [s 4 (.mv (.const (.bool false)))]) (q_ (.seq (r_ [v_ 7 0, s 8 (.len false (t 7)), s 9 (.mv (i_ 0))]) (.block 0 (.loop (q_ (r_ [s 10 (.bin .lss (t 9) (t 8))]) (q_ (.cond (t 10) .skip (.exit 0)) (q_ (.block 1 (q_ (r_ [s 11 (.iadr 5 (t 7) (t 9)), s 12 (a_ 5 11), s 6 (.alloc [(.int .i64 (.ofNat 0)), (.string (.mk (.mk []))), (.slice none 0 0), (.string (.mk (.mk []))), (.string (.mk (.mk [])))]), ⟨none, none, (.store 5 (t 6) (t 12))⟩]) (q_ (r_ [v_ 13 1, s 14 (a_ 5 6), s 15 (.callv (t 13) [(t 14)]), s 16 (.not (t 15))]) (.cond (t 16) (q_ (r_ [s 4 (.mv (.const (.bool false)))]) .ret) .skip)))) (r_ [s 17 (.bin .add (t 9) (i_ 1)), v_ 9 17]))))))) (q_ (r_ [s 4 (.mv (.const (.bool true)))]) .ret)))
def pallC.keep : List Nat := [0, 1, 4, 6, 7, 8, 9, 10]
def pallC.res : List RRes := [.tmp 4]
theorem pallC.ir : IrAt Tryz.prog 135 pallC.code pallC.keep pallC.res Tryz.f135.ntmps := ⟨_, Tryz.func135, rfl, by kernel_rfl, rfl, by kernel_rfl, by kernel_rfl, rfl⟩
abbrev pallC.Ret (args : List AV) (r : AV) (frs : Fr) : Prop := Abs.Ret true Tryz.prog 135 args r frs
def pallA.code : ACode := (q_ (r_ [s 4 (.mv (.const (.bool false)))]) (q_ (.seq (r_ [v_ 7 0, s 8 (.len false (t 7)), s 9 (.mv (i_ 0))]) (.block 0 (.loop (q_ (r_ [s 10 (.bin .lss (t 9) (t 8))]) (q_ (.cond (t 10) .skip (.exit 0)) (q_ (.block 1 (q_ (r_ [s 11 (.iadr 3 (t 7) (t 9)), s 12 (a_ 3 11), s 6 (.alloc [(.int .i64 (.ofNat 0)), (.string (.mk (.mk []))), (.slice none 0 0)]), ⟨none, none, (.store 3 (t 6) (t 12))⟩]) (q_ (r_ [v_ 13 1, s 14 (a_ 3 6), s 15 (.callv (t 13) [(t 14)]), s 16 (.not (t 15))]) (.cond (t 16) (q_ (r_ [s 4 (.mv (.const (.bool false)))]) .ret) .skip)))) (r_ [s 17 (.bin .add (t 9) (i_ 1)), v_ 9 17]))))))) (q_ (r_ [s 4 (.mv (.const (.bool true)))]) .ret)))
def pallA.keep : List Nat := [0, 1, 4, 6, 7, 8, 9, 10]
def pallA.res : List RRes := [.tmp 4]
theorem pallA.ir : IrAt Tryz.prog 137 pallA.code pallA.keep pallA.res Tryz.f137.ntmps := ⟨_, Tryz.func137, rfl, by kernel_rfl, rfl, by kernel_rfl, by kernel_rfl, rfl⟩
abbrev pallA.Ret (args : List AV) (r : AV) (frs : Fr) : Prop := Abs.Ret true Tryz.prog 137 args r frs
def pallS.code : ACode := (q_ (r_ [s 4 (.mv (.const (.bool false)))]) (q_ (.seq (r_ [v_ 7 0, s 8 (.len false (t 7)), s 9 (.mv (i_ 0))]) (.block 0 (.loop (q_ (r_ [s 10 (.bin .lss (t 9) (t 8))]) (q_ (.cond (t 10) .skip (.exit 0)) (q_ (.block 1 (q_ (r_ [s 11 (.iadr 1 (t 7) (t 9)), s 12 (l_ 11), v_ 6 12]) (q_ (r_ [v_ 13 1, v_ 14 6, s 15 (.callv (t 13) [(t 14)]), s 16 (.not (t 15))]) (.cond (t 16) (q_ (r_ [s 4 (.mv (.const (.bool false)))]) .ret) .skip)))) (r_ [s 17 (.bin .add (t 9) (i_ 1)), v_ 9 17]))))))) (q_ (r_ [s 4 (.mv (.const (.bool true)))]) .ret)))
def pallS.keep : List Nat := [0, 1, 4, 6, 7, 8, 9, 10]
def pallS.res : List RRes := [.tmp 4]
theorem pallS.ir : IrAt Tryz.prog 173 pallS.code pallS.keep pallS.res Tryz.f173.ntmps := ⟨_, Tryz.func173, rfl, by kernel_rfl, rfl, by kernel_rfl, by kernel_rfl, rfl⟩
abbrev pallS.Ret (args : List AV) (r : AV) (frs : Fr) : Prop := Abs.Ret true Tryz.prog 173 args r frs
def pmayClo.code : ACode := (q_ (r_ [s 4 (.mv (.const (.bool false)))]) (q_ (r_ [s 5 (l_ 1), v_ 6 0, s 7 (.call 175 [(t 5), (t 6)]), v_ 8 7, g 8 false 9 (l_ 2), g 8 false 10 (.mv (t 0)), g 8 false 11 (.call 175 [(t 9), (t 10)]), g 8 false 12 (.not (t 11)), s 13 (.or (t 8) (t 12)), v_ 4 13]) .ret))
def pmayClo.keep : List Nat := [0, 1, 2, 4]
def pmayClo.res : List RRes := [.tmp 4]
theorem pmayClo.ir : IrAt Tryz.prog 174 pmayClo.code pmayClo.keep pmayClo.res Tryz.f174.ntmps := ⟨_, Tryz.func174, rfl, by kernel_rfl, rfl, by kernel_rfl, by kernel_rfl, rfl⟩
abbrev pmayClo.Ret (args : List AV) (r : AV) (frs : Fr) : Prop := Abs.Ret true Tryz.prog 174 args r frs
def pamongClo.code : ACode := (q_ (r_ [s 3 (.mv (.const (.bool false)))]) (q_ (r_ [s 4 (l_ 1), v_ 5 0, s 6 (.call 175 [(t 4), (t 5)]), v_ 3 6]) .ret))
def pamongClo.keep : List Nat := [0, 1, 3]
def pamongClo.res : List RRes := [.tmp 3]
theorem pamongClo.ir : IrAt Tryz.prog 176 pamongClo.code pamongClo.keep pamongClo.res Tryz.f176.ntmps := ⟨_, Tryz.func176, rfl, by kernel_rfl, rfl, by kernel_rfl, by kernel_rfl, rfl⟩
abbrev pamongClo.Ret (args : List AV) (r : AV) (frs : Fr) : Prop := Abs.Ret true Tryz.prog 176 args r frs
def pusesClo.code : ACode := (q_ (r_ [s 2 (.box (t 0)), s 3 (.mv (.const (.bool false)))]) (q_ (.held [s 4 (f_ 1 2), s 5 (a_ 2 4), s 7 (l_ 1), s 6 (.call 143 [(t 5)])] [s 8 (.call 142 [(t 6), (t 7)]), v_ 3 8]) .ret))
def pusesClo.keep : List Nat := [0, 1, 2, 3]
def pusesClo.res : List RRes := [.tmp 3]
theorem pusesClo.ir : IrAt Tryz.prog 141 pusesClo.code pusesClo.keep pusesClo.res Tryz.f141.ntmps := ⟨_, Tryz.func141, rfl, by kernel_rfl, rfl, by kernel_rfl, by kernel_rfl, rfl⟩
abbrev pusesClo.Ret (args : List AV) (r : AV) (frs : Fr) : Prop := Abs.Ret true Tryz.prog 141 args r frs
def slConcatC.code : ACode := (q_ (r_ [s 2 (.mv (.const (.slice none 0 0)))]) (q_ (r_ [s 3 (.mv (i_ 0))]) (q_ (.seq (r_ [v_ 9 0, s 10 (.len false (t 9)), s 11 (.mv (i_ 0))]) (.block 0 (.loop (q_ (r_ [s 12 (.bin .lss (t 11) (t 10))]) (q_ (.cond (t 12) .skip (.exit 0)) (q_ (.block 1 (q_ (r_ [s 13 (.iadr 1 (t 9) (t 11)), s 14 (l_ 13), v_ 5 14]) (q_ (r_ [v_ 15 3, v_ 16 5, s 17 (.len false (t 16)), s 18 (.bin .add (t 15) (t 17)), v_ 3 18]) (q_ (r_ [v_ 19 3, s 20 (.bin .lss (t 19) (i_ 0))]) (.cond (t 20) (r_ [s 21 .other, ⟨none, none, .other⟩]) .skip))))) (r_ [s 22 (.bin .add (t 11) (i_ 1)), v_ 11 22]))))))) (q_ (r_ [v_ 23 3, s 24 (.call 199 [(.const (.slice none 0 0)), (t 23)]), v_ 6 24]) (q_ (.seq (r_ [v_ 25 0, s 26 (.len false (t 25)), s 27 (.mv (i_ 0))]) (.block 2 (.loop (q_ (r_ [s 28 (.bin .lss (t 27) (t 26))]) (q_ (.cond (t 28) .skip (.exit 2)) (q_ (.block 3 (q_ (r_ [s 29 (.iadr 1 (t 25) (t 27)), s 30 (l_ 29), v_ 8 30]) (r_ [v_ 31 6, v_ 32 8, s 33 (.append 116 5 80 (t 31) (t 32)), v_ 6 33]))) (r_ [s 34 (.bin .add (t 27) (i_ 1)), v_ 27 34]))))))) (q_ (r_ [v_ 35 6, v_ 2 35]) .ret))))))
def slConcatC.keep : List Nat := [0, 2, 3, 5, 6, 8, 9, 10, 11, 12, 25, 26, 27, 28]
def slConcatC.res : List RRes := [.tmp 2]
theorem slConcatC.ir : IrAt Tryz.prog 172 slConcatC.code slConcatC.keep slConcatC.res Tryz.f172.ntmps := ⟨_, Tryz.func172, rfl, by kernel_rfl, rfl, by kernel_rfl, by kernel_rfl, rfl⟩
abbrev slConcatC.Ret (args : List AV) (r : AV) (frs : Fr) : Prop := Abs.Ret true Tryz.prog 172 args r frs
abbrev slGrowC.Ret (args : List AV) (r : AV) (frs : Fr) : Prop := Abs.Ret true Tryz.prog 199 args r frs
end Go.Proofs.YtoindmahilbalaaGreat
namespace Go.Proofs.YtoindmahilbalaaGreat
open Abs
theorem tAction_pat (x : VAction) : tPattern.size x.2 ≤ tAction.size x := by
  have h : tAction.size x = 0 + tPattern.size x.2 := rfl
  omega
theorem act_has {x : VAction} (h : hasKind x.1 = true) : isPatF x.2 = isActF x := by rw [isActF, if_pos h]
theorem act_stop {x : VAction} (h : x.1 = 3) : zeroP x.2 = isActF x := by rw [isActF, if_neg (by simp [hasKind, h]), if_pos h]
theorem act_no {x : VAction} (h1 : x.1 ≠ 1) (h2 : x.1 ≠ 2) (h3 : x.1 ≠ 3) : false = isActF x := by rw [isActF, if_neg (by simp [hasKind, h1, h2]), if_neg h3]
theorem sIsAction.ret (x : VAction) (h : tAction.size x ≤ 1048576) : sIsAction.Ret [.agg (oldL (tAction.q x))] (.val (.bool (isActF x))) [] := by
  refine sIsAction.ir.of rfl ?_
  have hp := tAction_pat x
  repeat' first
    | (conv => whnf
       first | refine Need.mk (fun h => h) ?_ | refine Need.mk rfl ?_ | refine nb_ ?_ | refine Fork.decYes (by omega) ?_ | refine Fork.dec (fun _ => ?_) (fun _ => ?_) | refine FinVal.keep ?_ | refine Final.mk ?_ rfl | refine ACall.scalA _ _ (sIsPattern.ret _ ?_) rfl ?_)
    | refine AV.bool_congr ?_
  all_goals first
    | omega
    | (refine act_has ?_; simp [hasKind, *]; done)
    | (rw [length_oldLL, List.length_map]; exact act_stop (by assumption))
    | exact act_no (by assumption) (by assumption) (by assumption)
theorem pIsAction.ret (x : VAction) (h : tAction.size x ≤ 1048576) : pIsAction.Ret [.agg (oldL (tAction.q x))] (.val (.bool (isActF x))) [] := by
  refine pIsAction.ir.of rfl ?_
  have hp := tAction_pat x
  have hzp := pzero.ret x.2 (by omega)
  repeat' first
    | (conv => whnf
       first | refine Need.mk rfl ?_ | refine nb_ ?_ | refine Fork.decYes (by omega) ?_ | refine Fork.dec (fun _ => ?_) (fun _ => ?_) | refine FinVal.keep ?_ | refine Final.mk ?_ rfl | refine ACall.scalA _ _ (pIsPattern.ret _ ?_) rfl ?_ | refine ACall.scalA _ _ (hzp) rfl ?_)
    | refine AV.bool_congr ?_
  all_goals first
    | omega
    | (refine act_has ?_; simp [hasKind, *]; done)
    | exact act_stop (by assumption)
    | exact act_no (by assumption) (by assumption) (by assumption)
theorem cond_le {l : List VCond} {i : Nat} (hi : i < l.length) : tCond.size (l.getD i default) ≤ listSize tCond l := tCond_le hi
theorem own_anyP {F : Fr} {l : List Str} {k : Nat} (hk : F[k]? = some (9, 1, l.length)) : ∃ ts, OwnA F [strT l] [.list (some k) (strs l)] ts ∧ ts.Nodup := own_rowF hk rfl
theorem act_le {l : List VAction} {i : Nat} (hi : i < l.length) : tAction.size (l.getD i default) ≤ listSize tAction l := tAction_le hi
end Go.Proofs.YtoindmahilbalaaGreat
namespace Go.Proofs.YtoindmahilbalaaGreat
open Abs
theorem put_step {m v : List Str} {k : Nat} (hk : k < v.length) : insAll blt (m ++ v.take (k + 1)) = ins blt (v.getD k []) false (insAll blt (m ++ v.take k)) := by
  rw [take_succ' [] hk, ← List.append_assoc, ins_snoc]
theorem bvC_yes {x : VCond} (h : x.1 = 1) : bvC x = insAll blt (vs x.2.1.2) := by rw [bvC, if_pos h]
theorem bvC_no {x : VCond} (h : x.1 ≠ 1) : bvC x = [] := by rw [bvC, if_neg h]
theorem ins_app_le (m v : List Str) (k : Nat) : (insAll blt (m ++ v.take k)).length ≤ m.length + v.length := by
  refine Nat.le_trans (insAll_le _) ?_
  rw [List.length_append, List.length_take]; omega
theorem sBoundVars.own (r : VRule) (n : Int) (h : tRule.size r ≤ 1048576) : sBoundVars.Own [.agg (oldL (tRule.q r)), .val (.int .i64 n)] (strT (bvF r.2.2.1 n.toNat)) := by
  refine Own.of_irP (code := sBoundVars.code) (rs := sBoundVars.res) (K := sBoundVars.keep) Tryz.func82 rfl (by kernel_rfl) (Nat.le_of_ble_eq_true rfl) (by kernel_rfl) (by kernel_rfl) ?_
  rw [tRule_sz] at h
  repeat' first
    | (conv => whnf
       first | refine Need.mk rfl ?_)
  refine ALoop.mk (Nat × Nat × Fr) (fun a => ⟨[(1, .val (.int .i64 n)), (2, .bptr 0 0), (5, .list (some a.2.1) (strs (insAll blt (fm bvC (r.2.2.1.take a.1))))), (6, .val (.int .i64 a.1))], [.cells .var (oldL (tRule.q r))], a.2.2⟩) (fun a => a.1 ≤ r.2.2.1.length ∧ (a.1 : Int) ≤ max n 0 ∧ a.2.2[a.2.1]? = some (9, 1, (insAll blt (fm bvC (r.2.2.1.take a.1))).length)) (fun a => r.2.2.1.length - a.1) ⟨(0, 0, [(9, 1, 0)]), ⟨Nat.zero_le _, by show (0 : Int) ≤ _; omega, rfl⟩, ?_⟩ (fun a ha => ?_)
  · repeat' first
      | exact trivial | refine wl_ ?_ ?_ ?_ ?_ | refine And.intro ?_ ?_ | with_reducible rfl | exact ble_ | refine fr1 ?_ | refine AV.int_congr ?_ | refine AV.list_congr ?_ | (apply rfl)
  obtain ⟨hi, hn, hF⟩ := ha
  have hl := fm_lenT tCond bvC bvC_len r.2.2.1 a.1
  by_cases hi' : a.1 < r.2.2.1.length ∧ (a.1 : Int) < n
  rotate_left
  · repeat' first
      | (conv => whnf
         first | refine Need.mk (fun h => h) ?_ | refine Need.mk rfl ?_ | refine Fork.andN ?_)
    have e : r.2.2.1.take a.1 = r.2.2.1.take n.toNat := by
      rcases Nat.lt_or_ge a.1 r.2.2.1.length with h1 | h1
      · have : a.1 = n.toNat := by omega
        rw [this]
      · rw [List.take_of_length_le h1, List.take_of_length_le (by omega)]
    rw [e] at hF
    rw [e]
    exact own_anyP hF
  have hc := cond_le hi'.1
  have hz := tCond_sz (r.2.2.1.getD a.1 default)
  have hp := tCond_pat (r.2.2.1.getD a.1 default)
  have hstep := fm_take default bvC hi'.1
  have hbl := bvC_len (r.2.2.1.getD a.1 default)
  have hvo := sVarsOf.own (r.2.2.1.getD a.1 default).2.1 (by omega)
  have hok := ok_strT (insAll blt (vs (r.2.2.1.getD a.1 default).2.1.2))
  by_cases hk1 : (r.2.2.1.getD a.1 default).1 = 1
  rotate_left
  · rw [bvC_no hk1, List.append_nil] at hstep
    repeat' first
      | (conv => whnf
         first | refine Need.mk (fun h => h) ?_ | refine Need.mk rfl ?_ | refine Ix.mapN (fun _ => rfl) ?_ | refine Fork.andY ?_ | refine Fork.decN ?_ | refine Round.mk ?_)
    refine ⟨(a.1 + 1, a.2.1, a.2.2), ⟨by omega, by show ((a.1 + 1 : Nat) : Int) ≤ _; omega, by rw [hstep]; exact hF⟩, ?_, by omega⟩
    repeat' first
      | exact trivial | refine wl_ ?_ ?_ ?_ ?_ | refine And.intro ?_ ?_ | with_reducible rfl | exact ble_ | refine AV.int_congr ?_ | refine AV.list_congr ?_ | (apply rfl)
    · rw [hstep]
    · rw [wrap64 (by omega) (by omega)]; rfl
  rw [← bvC_yes hk1] at hvo hok
  repeat' first
    | (conv => whnf
       first | refine Need.mk (fun h => h) ?_ | refine Need.mk rfl ?_ | refine nb_ ?_ | refine Ix.mapN (fun _ => rfl) ?_ | refine Fork.decY ?_ | refine Fork.andY ?_ | refine ACall.oldA _ _ (hvo) ?_)
  · refine ALoop.mk (Nat × Nat × Fr) (fun c => ⟨[(1, .val (.int .i64 n)), (2, .bptr 0 0), (5, .list (some c.2.1) (strs (insAll blt (fm bvC (r.2.2.1.take a.1) ++ (bvC (r.2.2.1.getD a.1 default)).take c.1)))), (6, .val (.int .i64 a.1)), (7, .list none (strs (bvC (r.2.2.1.getD a.1 default)))), (8, .val (.int .i64 c.1))], [.cells .var (oldL (tRule.q r))], c.2.2⟩) (fun c => c.1 ≤ (bvC (r.2.2.1.getD a.1 default)).length ∧ c.2.2[c.2.1]? = some (9, 1, (insAll blt (fm bvC (r.2.2.1.take a.1) ++ (bvC (r.2.2.1.getD a.1 default)).take c.1)).length)) (fun c => (bvC (r.2.2.1.getD a.1 default)).length - c.1) ⟨(0, a.2.1, a.2.2), ⟨Nat.zero_le _, by rw [List.take_zero, List.append_nil]; exact hF⟩, ?_⟩ (fun c hcc => ?_)
    · repeat' first
        | exact trivial | refine wl_ ?_ ?_ ?_ ?_ | refine And.intro ?_ ?_ | with_reducible rfl | exact ble_ | refine AV.int_congr ?_ | refine AV.list_congr ?_ | (apply rfl)
      show strs _ = strs (insAll blt (fm bvC (r.2.2.1.take a.1) ++ List.take 0 _))
      rw [List.take_zero, List.append_nil]
    obtain ⟨hk, hG⟩ := hcc
    by_cases hk' : c.1 < (bvC (r.2.2.1.getD a.1 default)).length
    rotate_left
    · rw [List.take_of_length_le (show (bvC (r.2.2.1.getD a.1 default)).length ≤ c.1 by omega), ← hstep] at hG
      repeat' first
        | (conv => whnf
           first | refine Need.mk rfl ?_ | refine Fork.decN ?_ | refine Round.mk ?_)
      refine ⟨(a.1 + 1, c.2.1, c.2.2), ⟨by omega, by show ((a.1 + 1 : Nat) : Int) ≤ _; omega, hG⟩, ?_, by omega⟩
      repeat' first
        | exact trivial | refine wl_ ?_ ?_ ?_ ?_ | refine And.intro ?_ ?_ | with_reducible rfl | exact ble_ | refine AV.int_congr ?_ | refine AV.list_congr ?_ | (apply rfl)
      · rw [List.take_of_length_le (show (bvC (r.2.2.1.getD a.1 default)).length ≤ c.1 by omega), ← hstep]
      · rw [wrap64 (by omega) (by omega)]; rfl
    have hst := put_step (m := fm bvC (r.2.2.1.take a.1)) hk'
    have hle := ins_app_le (fm bvC (r.2.2.1.take a.1)) (bvC (r.2.2.1.getD a.1 default)) c.1
    have hl1 := fm_lenT tCond bvC bvC_len r.2.2.1 (a.1 + 1)
    rw [hstep, List.length_append] at hl1
    repeat' first
      | (conv => whnf
         first | refine Need.mk rfl ?_ | refine Ix.strsN rfl ?_ | refine Fork.decY ?_ | refine Round.mk ?_ | refine ACall.mkStrs _ _ (sPut.ret _ _ ?_) (by repeat' first | exact SeesL.nil | refine SeesL.cons ?_ ?_ | exact SeesB.of0 (Sees0.val _) | exact SeesB.of0 (Sees0.str _) | exact SeesB.of0 (Sees0.olds _ _) | exact SeesB.of0 (Sees0.old _) | exact SeesB.of0 (Sees0.oldagg _) | exact SeesB.of0 Sees0.nil | exact Sees0.val _ | exact Sees0.str _ | exact Sees0.olds _ _ | exact Sees0.old _ | exact Sees0.oldagg _ | exact Sees0.nil | exact SeesB.of0 (Sees0.any _) | assumption | exact sees_gv _ _ _ (by assumption) (by first | assumption | exact BoxIn.last _ _ | exact BoxIn.more (BoxIn.last _ _) _) | refine SeesB.agg ?_ | refine Sees0.agg ?_ | exact SeesB.of0 (Sees0.clo SeesL.nil SeesL.nil) | exact Sees0.clo SeesL.nil SeesL.nil | exact SeesB.of0 (Sees0.list rfl) | exact Sees0.list rfl) ?_)
    · omega
    refine ⟨(c.1 + 1, c.2.2.length, c.2.2 ++ [(9, 1, (insAll blt (fm bvC (r.2.2.1.take a.1) ++ (bvC (r.2.2.1.getD a.1 default)).take (c.1 + 1))).length)]), ⟨by omega, by simp⟩, ?_, by omega⟩
    repeat' first
      | exact trivial | refine wl_ ?_ ?_ ?_ ?_ | refine And.intro ?_ ?_ | with_reducible rfl | exact ble_ | refine AV.int_congr ?_ | refine AV.list_congr ?_ | (apply rfl)
    · show strs _ = strs (insAll blt (fm bvC (r.2.2.1.take a.1) ++ (bvC (r.2.2.1.getD a.1 default)).take (c.1 + 1)))
      rw [hst, Int.toNat_natCast] <;> rfl
    · rw [wrap64 (by omega) (by omega)]; rfl
    · show c.2.2 ++ [(9, 1, (ins blt ((bvC (r.2.2.1.getD a.1 default)).getD c.1 []) false (insAll blt (fm bvC (r.2.2.1.take a.1) ++ (bvC (r.2.2.1.getD a.1 default)).take c.1))).length)] = c.2.2 ++ [_]
      rw [hst]
theorem take_min {α : Type} (l : List α) (n : Int) : (l.take (min (max n 0) (l.length : Int)).toNat).drop (0 : Int).toNat = l.take n.toNat := by
  rw [show (0 : Int).toNat = 0 from rfl, List.drop_zero]
  rcases Int.le_total n l.length with h | h
  · have : (min (max n 0) (l.length : Int)).toNat = n.toNat := by omega
    rw [this]
  · have : (min (max n 0) (l.length : Int)).toNat = l.length := by omega
    rw [this, List.take_length, List.take_of_length_le (by omega)]
theorem pBoundVars.own (r : VRule) (n : Int) (h : tRule.size r ≤ 1048576) : pBoundVars.Own [.agg (oldL (tRule.q r)), .val (.int .i64 n)] (strT (bvF r.2.2.1 n.toNat)) := by
  refine own_row (k := 1) rfl (?_ : pBoundVars.Ret _ (.list (some 1) (strs (bvF r.2.2.1 n.toNat))) [(9, 1, (fm bvC (r.2.2.1.take n.toNat)).length), (9, 1, (bvF r.2.2.1 n.toNat).length)])
  refine pBoundVars.ir.of rfl ?_
  rw [tRule_sz] at h
  have htm := take_min r.2.2.1 n
  have hLs := listSize_take_le tCond r.2.2.1 n.toNat
  have hLl : (r.2.2.1.take n.toNat).length ≤ r.2.2.1.length := by rw [List.length_take]; omega
  rw [show bvF r.2.2.1 n.toNat = insAll blt (fm bvC (r.2.2.1.take n.toNat)) from rfl]
  generalize hL : r.2.2.1.take n.toNat = L at htm hLs hLl
  repeat' first
    | (conv => whnf
       first | refine Need.mk rfl ?_ | refine Cut.map (fun _ => rfl) ?_ ?_)
  · intro _
    simp only [length_oldLL, List.length_map]
    show (0 : Int) ≤ 0 ∧ (0 : Int) ≤ _ ∧ _
    omega
  refine ALoop.mk Nat (fun i => ⟨[(5, .list (some 0) (strs (fm bvC (L.take i)))), (17, .list none (rows tCond L)), (18, .val (.int .i64 L.length)), (19, .val (.int .i64 i))], [.cells .var (oldL (tRule.q r))], [(9, 1, (fm bvC (L.take i)).length)]⟩) (fun i => i ≤ L.length) (fun i => L.length - i) ⟨0, Nat.zero_le _, ?_⟩ (fun i hi => ?_)
  · repeat' first
      | exact trivial | refine wl_ ?_ ?_ ?_ ?_ | refine And.intro ?_ ?_ | exact ble_ | refine fr1 ?_ | refine AV.int_congr ?_ | refine AV.list_congr ?_ | (apply rfl)
    · show oldLL (List.map tCond.q (List.drop (0 : Int).toNat _)) = _
      rw [length_oldLL, List.length_map, htm]; rfl
    · show ((oldLL (List.map tCond.q (List.drop (0 : Int).toNat _))).length : Int) = _
      rw [length_oldLL, length_oldLL, List.length_map, List.length_map, htm]
  have hl := fm_lenT tCond bvC bvC_len L i
  by_cases hi' : i < L.length
  rotate_left
  · rw [show fm bvC L = fm bvC (L.take i) by rw [List.take_of_length_le (by omega)]]
    repeat' first
      | (conv => whnf
         first | refine Need.mk rfl ?_ | refine Fork.decN ?_ | refine Final.mk rfl rfl | refine ACall.mkStrs _ _ (pSortedTexts.ret _ ?_) (by repeat' first | exact SeesL.nil | refine SeesL.cons ?_ ?_ | exact SeesB.of0 (Sees0.val _) | exact SeesB.of0 (Sees0.str _) | exact SeesB.of0 (Sees0.olds _ _) | exact SeesB.of0 (Sees0.old _) | exact SeesB.of0 (Sees0.oldagg _) | exact SeesB.of0 Sees0.nil | exact Sees0.val _ | exact Sees0.str _ | exact Sees0.olds _ _ | exact Sees0.old _ | exact Sees0.oldagg _ | exact Sees0.nil | exact SeesB.of0 (Sees0.any _) | assumption | exact sees_gv _ _ _ (by assumption) (by first | assumption | exact BoxIn.last _ _ | exact BoxIn.more (BoxIn.last _ _) _) | refine SeesB.agg ?_ | refine Sees0.agg ?_ | exact SeesB.of0 (Sees0.clo SeesL.nil SeesL.nil) | exact Sees0.clo SeesL.nil SeesL.nil | exact SeesB.of0 (Sees0.list rfl) | exact Sees0.list rfl) ?_)
    omega
  have hc := cond_le hi'
  have hz := tCond_sz (L.getD i default)
  have hp := tCond_pat (L.getD i default)
  have hstep := fm_take default bvC hi'
  have hl1 := fm_lenT tCond bvC bvC_len L (i + 1)
  rw [hstep, List.length_append] at hl1
  by_cases hk1 : (L.getD i default).1 = 1
  rotate_left
  · rw [bvC_no hk1, List.append_nil] at hstep
    repeat' first
      | (conv => whnf
         first | refine Need.mk rfl ?_ | refine Need.mk ⟨rfl, Nat.le_of_ble_eq_true rfl⟩ ?_ | refine nb_ ?_ | refine Ix.mapN (fun _ => rfl) ?_ | refine Fork.decY ?_ | refine Fork.decN ?_ | refine Round.mk ?_)
    refine ⟨i + 1, by omega, ?_, by omega⟩
    repeat' first
      | exact trivial | refine wr_ ?_ ?_ ?_ ?_ | refine And.intro ?_ ?_ | with_reducible rfl | exact ble_ | refine fr1 ?_ | refine AV.int_congr ?_ | refine AV.list_congr ?_ | (apply rfl)
    · rw [hstep]
    · rw [wrap64 (by omega) (by omega)]; rfl
    · rw [hstep]
  have hvo := pVarsOf.own (L.getD i default).2.1 (by omega)
  have hok := ok_strT (insAll blt (vs (L.getD i default).2.1.2))
  rw [← bvC_yes hk1] at hvo hok
  repeat' first
    | (conv => whnf
       first | refine Need.mk rfl ?_ | refine Need.mk ⟨rfl, Nat.le_of_ble_eq_true rfl⟩ ?_ | refine nb_ ?_ | refine Need.finN ?_ | refine Need.mk ?_ ?_ | refine Ix.mapN (fun _ => rfl) ?_ | refine Fork.decY ?_ | refine Round.mk ?_ | refine ACall.oldA _ _ (hvo) ?_)
  · simp
  · exact strs_sz _
  · refine ⟨i + 1, by omega, ?_, by omega⟩
    repeat' first
      | exact trivial | refine wr_ ?_ ?_ ?_ ?_ | refine And.intro ?_ ?_ | with_reducible rfl | exact ble_ | refine fr1 ?_ | refine AV.int_congr ?_ | refine AV.list_congr ?_ | (apply rfl)
    · rw [hstep, strs_append] <;> rfl
    · rw [wrap64 (by omega) (by omega)]; rfl
    · show (strs _).length + (strs (bvC (L.getD i default))).length = _
      rw [hstep, length_strs, length_strs, List.length_append]
theorem pvarsOfConds.ret (l : List VCond) (h : tConds.size l ≤ 1048576) : pvarsOfConds.Ret [.list none (rows tCond l)] (.list (some 1) (strs (cvsF l))) [(9, 1, (fm cvC l).length), (9, 1, (cvsF l).length)] := by
  refine pvarsOfConds.ir.of rfl ?_
  rw [tConds_sz] at h
  repeat' first
    | (conv => whnf
       first | refine Need.mk rfl ?_)
  refine ALoop.mk Nat (fun i => ⟨[(3, .list (some 0) (strs (fm cvC (l.take i)))), (7, .list none (rows tCond l)), (8, .val (.int .i64 l.length)), (9, .val (.int .i64 i))], [], [(9, 1, (fm cvC (l.take i)).length)]⟩) (fun i => i ≤ l.length) (fun i => l.length - i) ⟨0, Nat.zero_le _, ?_⟩ (fun i hi => ?_)
  · repeat' first
      | exact trivial | refine wl_ ?_ ?_ ?_ ?_ | refine And.intro ?_ ?_ | with_reducible rfl | exact ble_ | refine fr1 ?_ | refine AV.int_congr ?_ | refine AV.list_congr ?_ | (apply rfl)
    simp
  have hl := fm_lenT tCond cvC cvC_len l i
  by_cases hi' : i < l.length
  rotate_left
  · rw [show fm cvC l = fm cvC (l.take i) by rw [List.take_of_length_le (by omega)], show cvsF l = insAll blt (fm cvC (l.take i)) by rw [List.take_of_length_le (by omega)]; rfl]
    repeat' first
      | (conv => whnf
         first | refine Need.mk rfl ?_ | refine Fork.decN ?_ | refine Final.mk rfl rfl | refine ACall.mkStrs _ _ (pSortedTexts.ret _ ?_) (by repeat' first | exact SeesL.nil | refine SeesL.cons ?_ ?_ | exact SeesB.of0 (Sees0.val _) | exact SeesB.of0 (Sees0.str _) | exact SeesB.of0 (Sees0.olds _ _) | exact SeesB.of0 (Sees0.old _) | exact SeesB.of0 (Sees0.oldagg _) | exact SeesB.of0 Sees0.nil | exact Sees0.val _ | exact Sees0.str _ | exact Sees0.olds _ _ | exact Sees0.old _ | exact Sees0.oldagg _ | exact Sees0.nil | exact SeesB.of0 (Sees0.any _) | assumption | exact sees_gv _ _ _ (by assumption) (by first | assumption | exact BoxIn.last _ _ | exact BoxIn.more (BoxIn.last _ _) _) | refine SeesB.agg ?_ | refine Sees0.agg ?_ | exact SeesB.of0 (Sees0.clo SeesL.nil SeesL.nil) | exact Sees0.clo SeesL.nil SeesL.nil | exact SeesB.of0 (Sees0.list rfl) | exact Sees0.list rfl) ?_)
    omega
  have hc := cond_le hi'
  have hstep := fm_take default cvC hi'
  have hl1 := fm_lenT tCond cvC cvC_len l (i + 1)
  rw [hstep, List.length_append] at hl1
  have hvo := pCondVars.own (l.getD i default) (by omega)
  have hok := ok_strT (cvC (l.getD i default))
  rw [show insAll blt (vs (cvF (l.getD i default))) = cvC (l.getD i default) from rfl] at hvo
  repeat' first
    | (conv => whnf
       first | refine Need.mk rfl ?_ | refine Need.mk ⟨rfl, Nat.le_of_ble_eq_true rfl⟩ ?_ | refine nb_ ?_ | refine Need.finN ?_ | refine Need.mk ?_ ?_ | refine Ix.mapN (fun _ => rfl) ?_ | refine Fork.decY ?_ | refine Round.mk ?_ | refine ACall.oldA _ _ (hvo) ?_)
  · simp
  · exact strs_sz _
  · refine ⟨i + 1, by omega, ?_, by omega⟩
    repeat' first
      | exact trivial | refine wr_ ?_ ?_ ?_ ?_ | refine And.intro ?_ ?_ | with_reducible rfl | exact ble_ | refine fr1 ?_ | refine AV.int_congr ?_ | refine AV.list_congr ?_ | (apply rfl)
    · rw [hstep, strs_append] <;> rfl
    · rw [wrap64 (by omega) (by omega)]; rfl
    · show (strs _).length + (strs (cvC (l.getD i default))).length = _
      rw [hstep, length_strs, length_strs, List.length_append]
theorem pvarsOfConds.own (l : List VCond) (h : tConds.size l ≤ 1048576) : pvarsOfConds.Own [.list none (rows tCond l)] (strT (cvsF l)) := own_row rfl (pvarsOfConds.ret l h)
theorem cvs_len (l : List VCond) : (cvsF l).length ≤ listSize tCond l := Nat.le_trans (insAll_le _) (fm_len tCond cvC cvC_len l)
theorem pRuleVars.own (r : VRule) (h : tRule.size r ≤ 1048576) : pRuleVars.Own [.agg (oldL (tRule.q r))] (strT (rvF r.2.2.1 r.2.2.2)) := by
  refine own_row (k := 2) rfl (?_ : pRuleVars.Ret _ (.list (some 2) (strs (rvF r.2.2.1 r.2.2.2))) [(9, 1, (fm cvC r.2.2.1).length), (9, 1, (cvsF r.2.2.1 ++ fm avC r.2.2.2).length), (9, 1, (rvF r.2.2.1 r.2.2.2).length)])
  refine pRuleVars.ir.of rfl ?_
  have hrs := tRule_size r
  have htc : tConds.size r.2.2.1 ≤ 1048576 := by omega
  rw [tRule_sz] at h
  have hcl := cvs_len r.2.2.1
  have hrv : rvF r.2.2.1 r.2.2.2 = insAll blt (cvsF r.2.2.1 ++ fm avC r.2.2.2) := (insB_left _ _).symm
  rw [hrv]
  have hvc := pvarsOfConds.ret r.2.2.1 htc
  repeat' first
    | (conv => whnf
       first | refine ACall.mkLA _ _ _ _ (hvc) ?_)
  refine ALoop.mk Nat (fun i => ⟨[(3, .list (some 1) (strs (cvsF r.2.2.1 ++ fm avC (r.2.2.2.take i)))), (10, .list none (rows tAction r.2.2.2)), (11, .val (.int .i64 r.2.2.2.length)), (12, .val (.int .i64 i))], [.cells .var (oldL (tRule.q r))], [(9, 1, (fm cvC r.2.2.1).length), (9, 1, (cvsF r.2.2.1 ++ fm avC (r.2.2.2.take i)).length)]⟩) (fun i => i ≤ r.2.2.2.length) (fun i => r.2.2.2.length - i) ⟨0, Nat.zero_le _, ?_⟩ (fun i hi => ?_)
  · repeat' first
      | exact trivial | refine wl_ ?_ ?_ ?_ ?_ | refine And.intro ?_ ?_ | with_reducible rfl | exact ble_ | refine fr2 ?_ ?_ | refine AV.int_congr ?_ | refine AV.list_congr ?_ | (apply rfl)
    · simp [fm]; rfl
    · simp
    · simp [fm]
  have hl := fm_lenT tAction avC avC_len r.2.2.2 i
  by_cases hi' : i < r.2.2.2.length
  rotate_left
  · rw [show fm avC r.2.2.2 = fm avC (r.2.2.2.take i) by rw [List.take_of_length_le (by omega)]]
    repeat' first
      | (conv => whnf
         first | refine Need.mk rfl ?_ | refine Fork.decN ?_ | refine Final.mk rfl rfl | refine ACall.mkStrs _ _ (pSortedTexts.ret _ ?_) (by repeat' first | exact SeesL.nil | refine SeesL.cons ?_ ?_ | exact SeesB.of0 (Sees0.val _) | exact SeesB.of0 (Sees0.str _) | exact SeesB.of0 (Sees0.olds _ _) | exact SeesB.of0 (Sees0.old _) | exact SeesB.of0 (Sees0.oldagg _) | exact SeesB.of0 Sees0.nil | exact Sees0.val _ | exact Sees0.str _ | exact Sees0.olds _ _ | exact Sees0.old _ | exact Sees0.oldagg _ | exact Sees0.nil | exact SeesB.of0 (Sees0.any _) | assumption | exact sees_gv _ _ _ (by assumption) (by first | assumption | exact BoxIn.last _ _ | exact BoxIn.more (BoxIn.last _ _) _) | refine SeesB.agg ?_ | refine Sees0.agg ?_ | exact SeesB.of0 (Sees0.clo SeesL.nil SeesL.nil) | exact Sees0.clo SeesL.nil SeesL.nil | exact SeesB.of0 (Sees0.list rfl) | exact Sees0.list rfl) ?_)
    rw [List.length_append]; omega
  have hc := act_le hi'
  have hp := tAction_pat (r.2.2.2.getD i default)
  have hstep := fm_take default avC hi'
  have hl1 := fm_lenT tAction avC avC_len r.2.2.2 (i + 1)
  rw [hstep, List.length_append] at hl1
  have hvo := pVarsOf.own (r.2.2.2.getD i default).2 (by omega)
  have hok := ok_strT (avC (r.2.2.2.getD i default))
  rw [show insAll blt (vs (r.2.2.2.getD i default).2.2) = avC (r.2.2.2.getD i default) from rfl] at hvo
  repeat' first
    | (conv => whnf
       first | refine Need.mk rfl ?_ | refine Need.mk ⟨rfl, Nat.le_of_ble_eq_true rfl⟩ ?_ | refine nb_ ?_ | refine Need.mk ?_ ?_ | refine Ix.mapN (fun _ => rfl) ?_ | refine Fork.decY ?_ | refine Round.mk ?_ | refine ACall.oldA _ _ (hvo) ?_)
  · simp
  · exact strs_sz _
  · show ((strs _).length + (strs (avC (r.2.2.2.getD i default))).length) * 16 ≤ _ ∧ _ + (strs (avC (r.2.2.2.getD i default))).length ≤ _
    rw [length_strs, length_strs, List.length_append]; omega
  · refine ⟨i + 1, by omega, ?_, by omega⟩
    repeat' first
      | exact trivial | refine wr_ ?_ ?_ ?_ ?_ | refine And.intro ?_ ?_ | with_reducible rfl | exact ble_ | refine fr2 ?_ ?_ | refine AV.int_congr ?_ | refine AV.list_congr ?_ | (apply rfl)
    · rw [hstep, ← List.append_assoc, strs_append (_ ++ _)] <;> rfl
    · rw [wrap64 (by omega) (by omega)]; rfl
    · show (strs _).length + (strs (avC (r.2.2.2.getD i default))).length = _
      rw [hstep, length_strs, length_strs]; simp only [List.length_append]; omega
set_option maxHeartbeats 4000000 in
theorem sRuleVars.own (r : VRule) (h : tRule.size r ≤ 1048576) : sRuleVars.Own [.agg (oldL (tRule.q r))] (strT (rvF r.2.2.1 r.2.2.2)) := by
  refine Own.of_irP (code := sRuleVars.code) (rs := sRuleVars.res) (K := sRuleVars.keep) Tryz.func90 rfl (by kernel_rfl) (Nat.le_of_ble_eq_true rfl) (by kernel_rfl) (by kernel_rfl) ?_
  rw [tRule_sz] at h
  have hcl := fm_len tCond cvC cvC_len r.2.2.1
  repeat' first
    | (conv => whnf
       first | refine Need.mk rfl ?_)
  refine ALoop.mk (Nat × Nat × Fr) (fun a => ⟨[(1, .bptr 0 0), (3, .list (some a.2.1) (strs (insAll blt (fm cvC (r.2.2.1.take a.1))))), (4, .val (.int .i64 a.1))], [.cells .var (oldL (tRule.q r))], a.2.2⟩) (fun a => a.1 ≤ r.2.2.1.length ∧ a.2.2[a.2.1]? = some (9, 1, (insAll blt (fm cvC (r.2.2.1.take a.1))).length)) (fun a => r.2.2.1.length - a.1) ⟨(0, 0, [(9, 1, 0)]), ⟨Nat.zero_le _, rfl⟩, ?_⟩ (fun a ha => ?_)
  · repeat' first
      | exact trivial | refine wl_ ?_ ?_ ?_ ?_ | refine And.intro ?_ ?_ | exact ble_ | refine fr1 ?_ | refine AV.int_congr ?_ | refine AV.list_congr ?_ | (apply rfl)
  obtain ⟨hi, hF⟩ := ha
  have hl := fm_lenT tCond cvC cvC_len r.2.2.1 a.1
  by_cases hi' : a.1 < r.2.2.1.length
  · have hc := cond_le hi'
    have hstep := fm_take default cvC hi'
    have hl1 := fm_lenT tCond cvC cvC_len r.2.2.1 (a.1 + 1)
    rw [hstep, List.length_append] at hl1
    have hvo := sCondVars.own (r.2.2.1.getD a.1 default) (by omega)
    have hok := ok_strT (cvC (r.2.2.1.getD a.1 default))
    rw [show insAll blt (vs (cvF (r.2.2.1.getD a.1 default))) = cvC (r.2.2.1.getD a.1 default) from rfl] at hvo
    repeat' first
      | (conv => whnf
         first | refine Need.mk rfl ?_ | refine nb_ ?_ | refine Ix.mapN (fun _ => rfl) ?_ | refine Fork.decY ?_ | refine ACall.oldA _ _ (hvo) ?_)
    refine ALoop.mk (Nat × Nat × Fr) (fun c => ⟨[(1, .bptr 0 0), (3, .list (some c.2.1) (strs (insAll blt (fm cvC (r.2.2.1.take a.1) ++ (cvC (r.2.2.1.getD a.1 default)).take c.1)))), (4, .val (.int .i64 a.1)), (5, .list none (strs (cvC (r.2.2.1.getD a.1 default)))), (6, .val (.int .i64 c.1))], [.cells .var (oldL (tRule.q r))], c.2.2⟩) (fun c => c.1 ≤ (cvC (r.2.2.1.getD a.1 default)).length ∧ c.2.2[c.2.1]? = some (9, 1, (insAll blt (fm cvC (r.2.2.1.take a.1) ++ (cvC (r.2.2.1.getD a.1 default)).take c.1)).length)) (fun c => (cvC (r.2.2.1.getD a.1 default)).length - c.1) ⟨(0, a.2.1, a.2.2), ⟨Nat.zero_le _, by rw [List.take_zero, List.append_nil]; exact hF⟩, ?_⟩ (fun c hcc => ?_)
    · repeat' first
        | exact trivial | refine wl_ ?_ ?_ ?_ ?_ | refine And.intro ?_ ?_ | with_reducible rfl | exact ble_ | refine AV.int_congr ?_ | refine AV.list_congr ?_ | (apply rfl)
      show strs _ = strs (insAll blt (fm cvC (r.2.2.1.take a.1) ++ List.take 0 _))
      rw [List.take_zero, List.append_nil]
    obtain ⟨hk, hG⟩ := hcc
    by_cases hk' : c.1 < (cvC (r.2.2.1.getD a.1 default)).length
    rotate_left
    · rw [List.take_of_length_le (show (cvC (r.2.2.1.getD a.1 default)).length ≤ c.1 by omega), ← hstep] at hG
      repeat' first
        | (conv => whnf
           first | refine Need.mk rfl ?_ | refine Fork.decN ?_ | refine Round.mk ?_)
      refine ⟨(a.1 + 1, c.2.1, c.2.2), ⟨by omega, hG⟩, ?_, by omega⟩
      repeat' first
        | exact trivial | refine wl_ ?_ ?_ ?_ ?_ | refine And.intro ?_ ?_ | with_reducible rfl | exact ble_ | refine AV.int_congr ?_ | refine AV.list_congr ?_ | (apply rfl)
      · rw [List.take_of_length_le (show (cvC (r.2.2.1.getD a.1 default)).length ≤ c.1 by omega), ← hstep]
      · rw [wrap64 (by omega) (by omega)]; rfl
    have hst := put_step (m := fm cvC (r.2.2.1.take a.1)) hk'
    have hle := ins_app_le (fm cvC (r.2.2.1.take a.1)) (cvC (r.2.2.1.getD a.1 default)) c.1
    repeat' first
      | (conv => whnf
         first | refine Need.mk rfl ?_ | refine Ix.strsN rfl ?_ | refine Fork.decY ?_ | refine Round.mk ?_ | refine ACall.mkStrs _ _ (sPut.ret _ _ ?_) (by repeat' first | exact SeesL.nil | refine SeesL.cons ?_ ?_ | exact SeesB.of0 (Sees0.val _) | exact SeesB.of0 (Sees0.str _) | exact SeesB.of0 (Sees0.olds _ _) | exact SeesB.of0 (Sees0.old _) | exact SeesB.of0 (Sees0.oldagg _) | exact SeesB.of0 Sees0.nil | exact Sees0.val _ | exact Sees0.str _ | exact Sees0.olds _ _ | exact Sees0.old _ | exact Sees0.oldagg _ | exact Sees0.nil | exact SeesB.of0 (Sees0.any _) | assumption | exact sees_gv _ _ _ (by assumption) (by first | assumption | exact BoxIn.last _ _ | exact BoxIn.more (BoxIn.last _ _) _) | refine SeesB.agg ?_ | refine Sees0.agg ?_ | exact SeesB.of0 (Sees0.clo SeesL.nil SeesL.nil) | exact Sees0.clo SeesL.nil SeesL.nil | exact SeesB.of0 (Sees0.list rfl) | exact Sees0.list rfl) ?_)
    · omega
    refine ⟨(c.1 + 1, c.2.2.length, c.2.2 ++ [(9, 1, (insAll blt (fm cvC (r.2.2.1.take a.1) ++ (cvC (r.2.2.1.getD a.1 default)).take (c.1 + 1))).length)]), ⟨by omega, by simp⟩, ?_, by omega⟩
    repeat' first
      | exact trivial | refine wl_ ?_ ?_ ?_ ?_ | refine And.intro ?_ ?_ | with_reducible rfl | exact ble_ | refine AV.int_congr ?_ | refine AV.list_congr ?_ | (apply rfl)
    · show strs _ = strs (insAll blt (fm cvC (r.2.2.1.take a.1) ++ (cvC (r.2.2.1.getD a.1 default)).take (c.1 + 1)))
      rw [hst, Int.toNat_natCast] <;> rfl
    · rw [wrap64 (by omega) (by omega)]; rfl
    · show c.2.2 ++ [(9, 1, (ins blt ((cvC (r.2.2.1.getD a.1 default)).getD c.1 []) false (insAll blt (fm cvC (r.2.2.1.take a.1) ++ (cvC (r.2.2.1.getD a.1 default)).take c.1))).length)] = c.2.2 ++ [_]
      rw [hst]
  have e0 : r.2.2.1.take a.1 = r.2.2.1 := List.take_of_length_le (by omega)
  rw [e0] at hF
  repeat' first
    | (conv => whnf
       first | refine Need.mk rfl ?_ | refine Fork.decN ?_)
  refine ALoop.mk (Nat × Nat × Fr) (fun a => ⟨[(1, .bptr 0 0), (3, .list (some a.2.1) (strs (insAll blt (fm cvC r.2.2.1 ++ fm avC (r.2.2.2.take a.1))))), (7, .val (.int .i64 a.1))], [.cells .var (oldL (tRule.q r))], a.2.2⟩) (fun a => a.1 ≤ r.2.2.2.length ∧ a.2.2[a.2.1]? = some (9, 1, (insAll blt (fm cvC r.2.2.1 ++ fm avC (r.2.2.2.take a.1))).length)) (fun a => r.2.2.2.length - a.1) ⟨(0, a.2.1, a.2.2), ⟨Nat.zero_le _, by rw [List.take_zero, show fm avC [] = [] from rfl, List.append_nil]; exact hF⟩, ?_⟩ (fun b hb => ?_)
  · repeat' first
      | exact trivial | refine wl_ ?_ ?_ ?_ ?_ | refine And.intro ?_ ?_ | with_reducible rfl | exact ble_ | refine AV.int_congr ?_ | refine AV.list_congr ?_ | (apply rfl)
    rw [e0]
    show strs _ = strs (insAll blt (fm cvC r.2.2.1 ++ fm avC (List.take 0 _)))
    rw [List.take_zero, show fm avC [] = [] from rfl, List.append_nil]
  clear hi hF hi' hl e0
  obtain ⟨hi, hF⟩ := hb
  have hl := fm_lenT tAction avC avC_len r.2.2.2 b.1
  by_cases hi' : b.1 < r.2.2.2.length
  rotate_left
  · have e0 : r.2.2.2.take b.1 = r.2.2.2 := List.take_of_length_le (by omega)
    rw [e0] at hF
    repeat' first
      | (conv => whnf
         first | refine Need.mk rfl ?_ | refine Fork.decN ?_)
    rw [e0]
    exact own_anyP hF
  have hc := act_le hi'
  have hp := tAction_pat (r.2.2.2.getD b.1 default)
  have hstep := fm_take default avC hi'
  have hl1 := fm_lenT tAction avC avC_len r.2.2.2 (b.1 + 1)
  rw [hstep, List.length_append] at hl1
  have hvo := sVarsOf.own (r.2.2.2.getD b.1 default).2 (by omega)
  have hok := ok_strT (avC (r.2.2.2.getD b.1 default))
  rw [show insAll blt (vs (r.2.2.2.getD b.1 default).2.2) = avC (r.2.2.2.getD b.1 default) from rfl] at hvo
  repeat' first
    | (conv => whnf
       first | refine Need.mk rfl ?_ | refine nb_ ?_ | refine Ix.mapN (fun _ => rfl) ?_ | refine Fork.decY ?_ | refine ACall.oldA _ _ (hvo) ?_)
  refine ALoop.mk (Nat × Nat × Fr) (fun c => ⟨[(1, .bptr 0 0), (3, .list (some c.2.1) (strs (insAll blt ((fm cvC r.2.2.1 ++ fm avC (r.2.2.2.take b.1)) ++ (avC (r.2.2.2.getD b.1 default)).take c.1)))), (7, .val (.int .i64 b.1)), (8, .list none (strs (avC (r.2.2.2.getD b.1 default)))), (9, .val (.int .i64 c.1))], [.cells .var (oldL (tRule.q r))], c.2.2⟩) (fun c => c.1 ≤ (avC (r.2.2.2.getD b.1 default)).length ∧ c.2.2[c.2.1]? = some (9, 1, (insAll blt ((fm cvC r.2.2.1 ++ fm avC (r.2.2.2.take b.1)) ++ (avC (r.2.2.2.getD b.1 default)).take c.1)).length)) (fun c => (avC (r.2.2.2.getD b.1 default)).length - c.1) ⟨(0, b.2.1, b.2.2), ⟨Nat.zero_le _, by rw [List.take_zero, List.append_nil]; exact hF⟩, ?_⟩ (fun c hcc => ?_)
  · repeat' first
      | exact trivial | refine wl_ ?_ ?_ ?_ ?_ | refine And.intro ?_ ?_ | with_reducible rfl | exact ble_ | refine AV.int_congr ?_ | refine AV.list_congr ?_ | (apply rfl)
    show strs _ = strs (insAll blt ((fm cvC r.2.2.1 ++ fm avC (r.2.2.2.take b.1)) ++ List.take 0 _))
    rw [List.take_zero, List.append_nil]
  obtain ⟨hk, hG⟩ := hcc
  by_cases hk' : c.1 < (avC (r.2.2.2.getD b.1 default)).length
  rotate_left
  · rw [List.take_of_length_le (show (avC (r.2.2.2.getD b.1 default)).length ≤ c.1 by omega), List.append_assoc, ← hstep] at hG
    repeat' first
      | (conv => whnf
         first | refine Need.mk rfl ?_ | refine Fork.decN ?_ | refine Round.mk ?_)
    refine ⟨(b.1 + 1, c.2.1, c.2.2), ⟨by omega, hG⟩, ?_, by omega⟩
    repeat' first
      | exact trivial | refine wl_ ?_ ?_ ?_ ?_ | refine And.intro ?_ ?_ | with_reducible rfl | exact ble_ | refine AV.int_congr ?_ | refine AV.list_congr ?_ | (apply rfl)
    · rw [List.take_of_length_le (show (avC (r.2.2.2.getD b.1 default)).length ≤ c.1 by omega), List.append_assoc, ← hstep]
    · rw [wrap64 (by omega) (by omega)]; rfl
  have hst := put_step (m := fm cvC r.2.2.1 ++ fm avC (r.2.2.2.take b.1)) hk'
  have hle := ins_app_le (fm cvC r.2.2.1 ++ fm avC (r.2.2.2.take b.1)) (avC (r.2.2.2.getD b.1 default)) c.1
  rw [List.length_append] at hle
  repeat' first
    | (conv => whnf
       first | refine Need.mk rfl ?_ | refine Ix.strsN rfl ?_ | refine Fork.decY ?_ | refine Round.mk ?_ | refine ACall.mkStrs _ _ (sPut.ret _ _ ?_) (by repeat' first | exact SeesL.nil | refine SeesL.cons ?_ ?_ | exact SeesB.of0 (Sees0.val _) | exact SeesB.of0 (Sees0.str _) | exact SeesB.of0 (Sees0.olds _ _) | exact SeesB.of0 (Sees0.old _) | exact SeesB.of0 (Sees0.oldagg _) | exact SeesB.of0 Sees0.nil | exact Sees0.val _ | exact Sees0.str _ | exact Sees0.olds _ _ | exact Sees0.old _ | exact Sees0.oldagg _ | exact Sees0.nil | exact SeesB.of0 (Sees0.any _) | assumption | exact sees_gv _ _ _ (by assumption) (by first | assumption | exact BoxIn.last _ _ | exact BoxIn.more (BoxIn.last _ _) _) | refine SeesB.agg ?_ | refine Sees0.agg ?_ | exact SeesB.of0 (Sees0.clo SeesL.nil SeesL.nil) | exact Sees0.clo SeesL.nil SeesL.nil | exact SeesB.of0 (Sees0.list rfl) | exact Sees0.list rfl) ?_)
  · omega
  refine ⟨(c.1 + 1, c.2.2.length, c.2.2 ++ [(9, 1, (insAll blt ((fm cvC r.2.2.1 ++ fm avC (r.2.2.2.take b.1)) ++ (avC (r.2.2.2.getD b.1 default)).take (c.1 + 1))).length)]), ⟨by omega, by simp⟩, ?_, by omega⟩
  repeat' first
    | exact trivial | refine wl_ ?_ ?_ ?_ ?_ | refine And.intro ?_ ?_ | with_reducible rfl | exact ble_ | refine AV.int_congr ?_ | refine AV.list_congr ?_ | (apply rfl)
  · show strs _ = strs (insAll blt ((fm cvC r.2.2.1 ++ fm avC (r.2.2.2.take b.1)) ++ (avC (r.2.2.2.getD b.1 default)).take (c.1 + 1)))
    rw [hst, Int.toNat_natCast] <;> rfl
  · rw [wrap64 (by omega) (by omega)]; rfl
  · show c.2.2 ++ [(9, 1, (ins blt ((avC (r.2.2.2.getD b.1 default)).getD c.1 []) false (insAll blt ((fm cvC r.2.2.1 ++ fm avC (r.2.2.2.take b.1)) ++ (avC (r.2.2.2.getD b.1 default)).take c.1))).length)] = c.2.2 ++ [_]
    rw [hst]
end Go.Proofs.YtoindmahilbalaaGreat
namespace Go.Proofs.YtoindmahilbalaaGreat
open Abs
theorem allD_no {α : Type} [Inhabited α] {q : α → Bool} {x : List α} {i : Nat} (hi : i < x.length) (h : q (x.getD i default) = false) : x.all q = false := by
  rw [List.all_eq_false]
  exact ⟨_, getD_mem hi, by rw [h]; simp⟩
theorem allD_succ {α : Type} [Inhabited α] {q : α → Bool} {x : List α} {i : Nat} (hi : i < x.length) (h : (x.take i).all q = true) (hc : q (x.getD i default) = true) : (x.take (i + 1)).all q = true := by
  rw [take_succ' default hi, List.all_append, h]; simpa using hc
theorem pallC.ret (q : VCond → Bool) (F : Nat) (l : List VCond) (hq : ∀ x : VCond, tCond.size x ≤ 1048576 → Abs.Ret true Tryz.prog F [.agg (oldL (tCond.q x))] (.val (.bool (q x))) []) (h : tConds.size l ≤ 1048576) :
    pallC.Ret [.list none (rows tCond l), .clo F [] []] (.val (.bool (l.all q))) [] := by
  refine pallC.ir.of rfl ?_
  rw [tConds_sz] at h
  skip
  refine ALoop.mk Nat (fun i => ⟨[(1, .clo F [] []), (7, .list none (rows tCond l)), (8, .val (.int .i64 l.length)), (9, .val (.int .i64 i))], [], []⟩) (fun i => i ≤ l.length ∧ (l.take i).all q = true) (fun i => l.length - i) ⟨0, ⟨Nat.zero_le _, rfl⟩, ?_⟩ (fun i hi => ?_)
  · repeat' first
      | exact trivial | refine wl_ ?_ ?_ ?_ ?_ | refine And.intro ?_ ?_ | with_reducible rfl | exact ble_ | refine AV.int_congr ?_ | refine AV.list_congr ?_ | (apply rfl)
    simp
  by_cases hi' : i < l.length
  rotate_left
  · have := hi.2
    rw [List.take_of_length_le (by omega)] at this
    repeat' first
      | (conv => whnf
         first | refine Need.mk rfl ?_ | refine Fork.decN ?_ | refine FinVal.keep ?_ | refine Final.mk ?_ rfl)
      | refine AV.bool_congr ?_
    exact this.symm
  have hqi := hq (l.getD i default) (by have := cond_le hi'; omega)
  repeat' first
    | (conv => whnf
       first | refine Need.mk rfl ?_ | refine Need.mk ⟨rfl, Nat.le_of_ble_eq_true rfl⟩ ?_ | refine nb_ ?_ | refine Ix.mapN (fun _ => rfl) ?_ | refine Fork.decY ?_ | refine Fork.neg (fun _ => ?_) (fun _ => ?_) | refine Round.mk ?_ | refine FinVal.keep ?_ | refine Final.mk ?_ rfl | refine ACall.scalA _ _ (hqi) rfl ?_)
    | refine AV.bool_congr ?_
  · rename_i h1
    exact (allD_no hi' h1).symm
  · rename_i h1
    refine ⟨i + 1, ⟨by omega, allD_succ hi' hi.2 h1⟩, ?_, by omega⟩
    repeat' first
      | exact trivial | refine wr_ ?_ ?_ ?_ ?_ | refine And.intro ?_ ?_ | with_reducible rfl | exact ble_ | refine AV.int_congr ?_ | refine AV.list_congr ?_ | (apply rfl)
    rw [wrap64 (by omega) (by omega)]; rfl
theorem pallA0.ret (q : VAction → Bool) (F : Nat) (l : List VAction) (hq : ∀ x : VAction, tAction.size x ≤ 1048576 → Abs.Ret true Tryz.prog F [.agg (oldL (tAction.q x))] (.val (.bool (q x))) []) (h : tActions.size l ≤ 1048576) :
    pallA.Ret [.list none (rows tAction l), .clo F [] []] (.val (.bool (l.all q))) [] := by
  refine pallA.ir.of rfl ?_
  rw [tActions_sz] at h
  skip
  refine ALoop.mk Nat (fun i => ⟨[(1, .clo F [] []), (7, .list none (rows tAction l)), (8, .val (.int .i64 l.length)), (9, .val (.int .i64 i))], [], []⟩) (fun i => i ≤ l.length ∧ (l.take i).all q = true) (fun i => l.length - i) ⟨0, ⟨Nat.zero_le _, rfl⟩, ?_⟩ (fun i hi => ?_)
  · repeat' first
      | exact trivial | refine wl_ ?_ ?_ ?_ ?_ | refine And.intro ?_ ?_ | with_reducible rfl | exact ble_ | refine AV.int_congr ?_ | refine AV.list_congr ?_ | (apply rfl)
    simp
  by_cases hi' : i < l.length
  rotate_left
  · have := hi.2
    rw [List.take_of_length_le (by omega)] at this
    repeat' first
      | (conv => whnf
         first | refine Need.mk rfl ?_ | refine Fork.decN ?_ | refine FinVal.keep ?_ | refine Final.mk ?_ rfl)
      | refine AV.bool_congr ?_
    exact this.symm
  have hqi := hq (l.getD i default) (by have := act_le hi'; omega)
  repeat' first
    | (conv => whnf
       first | refine Need.mk rfl ?_ | refine Need.mk ⟨rfl, Nat.le_of_ble_eq_true rfl⟩ ?_ | refine nb_ ?_ | refine Ix.mapN (fun _ => rfl) ?_ | refine Fork.decY ?_ | refine Fork.neg (fun _ => ?_) (fun _ => ?_) | refine Round.mk ?_ | refine FinVal.keep ?_ | refine Final.mk ?_ rfl | refine ACall.scalC _ _ (hqi) rfl ?_)
    | refine AV.bool_congr ?_
  · rename_i h1
    exact (allD_no hi' h1).symm
  · rename_i h1
    refine ⟨i + 1, ⟨by omega, allD_succ hi' hi.2 h1⟩, ?_, by omega⟩
    repeat' first
      | exact trivial | refine wr_ ?_ ?_ ?_ ?_ | refine And.intro ?_ ?_ | with_reducible rfl | exact ble_ | refine AV.int_congr ?_ | refine AV.list_congr ?_ | (apply rfl)
    rw [wrap64 (by omega) (by omega)]; rfl
theorem pallA1.ret (q : VAction → Bool) (F : Nat) (b : List Str) (l : List VAction) (hq : ∀ x : VAction, tAction.size x ≤ 1048576 → Abs.Ret true Tryz.prog F [.agg (oldL (tAction.q x)), .rptr [.list none (strs b)]] (.val (.bool (q x))) []) (h : tActions.size l ≤ 1048576) :
    pallA.Ret [.list none (rows tAction l), .clo F [] [.rptr [.list none (strs b)]]] (.val (.bool (l.all q))) [] := by
  refine pallA.ir.of rfl ?_
  rw [tActions_sz] at h
  skip
  refine ALoop.mk Nat (fun i => ⟨[(1, .clo F [] [.rptr [.list none (strs b)]]), (7, .list none (rows tAction l)), (8, .val (.int .i64 l.length)), (9, .val (.int .i64 i))], [], []⟩) (fun i => i ≤ l.length ∧ (l.take i).all q = true) (fun i => l.length - i) ⟨0, ⟨Nat.zero_le _, rfl⟩, ?_⟩ (fun i hi => ?_)
  · repeat' first
      | exact trivial | refine wl_ ?_ ?_ ?_ ?_ | refine And.intro ?_ ?_ | with_reducible rfl | exact ble_ | refine AV.int_congr ?_ | refine AV.list_congr ?_ | (apply rfl)
    simp
  by_cases hi' : i < l.length
  rotate_left
  · have := hi.2
    rw [List.take_of_length_le (by omega)] at this
    repeat' first
      | (conv => whnf
         first | refine Need.mk rfl ?_ | refine Fork.decN ?_ | refine FinVal.keep ?_ | refine Final.mk ?_ rfl)
      | refine AV.bool_congr ?_
    exact this.symm
  have hqi := hq (l.getD i default) (by have := act_le hi'; omega)
  repeat' first
    | (conv => whnf
       first | refine Need.mk rfl ?_ | refine Need.mk ⟨rfl, Nat.le_of_ble_eq_true rfl⟩ ?_ | refine nb_ ?_ | refine Ix.mapN (fun _ => rfl) ?_ | refine Fork.decY ?_ | refine Fork.neg (fun _ => ?_) (fun _ => ?_) | refine Round.mk ?_ | refine FinVal.keep ?_ | refine Final.mk ?_ rfl | refine ACall.scalC _ _ (hqi) rfl ?_)
    | refine AV.bool_congr ?_
  · rename_i h1
    exact (allD_no hi' h1).symm
  · rename_i h1
    refine ⟨i + 1, ⟨by omega, allD_succ hi' hi.2 h1⟩, ?_, by omega⟩
    repeat' first
      | exact trivial | refine wr_ ?_ ?_ ?_ ?_ | refine And.intro ?_ ?_ | with_reducible rfl | exact ble_ | refine AV.int_congr ?_ | refine AV.list_congr ?_ | (apply rfl)
    rw [wrap64 (by omega) (by omega)]; rfl
theorem pallS.ret (q : Str → Bool) (F : Nat) (cs : List AV) (hcs : ∀ b, SeesL (SeesB b) cs cs) (l : List Str) (hq : ∀ x : Str, Abs.Ret true Tryz.prog F (.str x :: cs) (.val (.bool (q x))) []) (h : l.length ≤ 4194304) :
    pallS.Ret [.list none (strs l), .clo F [] cs] (.val (.bool (l.all q))) [] := by
  refine pallS.ir.of rfl ?_
  skip
  refine ALoop.mk Nat (fun i => ⟨[(1, .clo F [] cs), (7, .list none (strs l)), (8, .val (.int .i64 l.length)), (9, .val (.int .i64 i))], [], []⟩) (fun i => i ≤ l.length ∧ (l.take i).all q = true) (fun i => l.length - i) ⟨0, ⟨Nat.zero_le _, rfl⟩, ?_⟩ (fun i hi => ?_)
  · repeat' first
      | exact trivial | refine wl_ ?_ ?_ ?_ ?_ | refine And.intro ?_ ?_ | with_reducible rfl | exact ble_ | refine AV.int_congr ?_ | refine AV.list_congr ?_ | (apply rfl)
    simp
  by_cases hi' : i < l.length
  rotate_left
  · have := hi.2
    rw [List.take_of_length_le (by omega)] at this
    repeat' first
      | (conv => whnf
         first | refine Need.mk rfl ?_ | refine Fork.decN ?_ | refine FinVal.keep ?_ | refine Final.mk ?_ rfl)
      | refine AV.bool_congr ?_
    exact this.symm
  have hqi := hq (l.getD i [])
  repeat' first
    | (conv => whnf
       first | refine Need.mk rfl ?_ | refine Ix.strsN rfl ?_ | refine Fork.decY ?_)
  conv => whnf
  refine ACall.scal (.str (l.getD i []) :: cs) _ hqi rfl (.cons (SeesB.of0 (Sees0.str _)) (hcs _)) ?_
  repeat' first
    | (conv => whnf
       first | refine Need.mk rfl ?_ | refine Fork.neg (fun _ => ?_) (fun _ => ?_) | refine Round.mk ?_ | refine FinVal.keep ?_ | refine Final.mk ?_ rfl)
    | refine AV.bool_congr ?_
  · rename_i h1
    exact (allQ_no hi' h1).symm
  · rename_i h1
    refine ⟨i + 1, ⟨by omega, allQ_succ hi' hi.2 h1⟩, ?_, by omega⟩
    repeat' first
      | exact trivial | refine wl_ ?_ ?_ ?_ ?_ | refine And.intro ?_ ?_ | with_reducible rfl | exact ble_ | refine AV.int_congr ?_ | refine AV.list_congr ?_ | (apply rfl)
    rw [wrap64 (by omega) (by omega)]; rfl
theorem others_mem {α : Type} [Inhabited α] {l : List α} {i : Nat} {x : α} : x ∈ l.take i ++ l.drop (i + 1) ↔ ∃ k, k < l.length ∧ k ≠ i ∧ l.getD k default = x := by
  rw [List.mem_append, List.mem_take_iff_getElem, List.mem_drop_iff_getElem]
  constructor
  · rintro (⟨k, hk, rfl⟩ | ⟨k, hk, rfl⟩)
    · refine ⟨k, by omega, by omega, ?_⟩
      have : k < l.length := by omega
      simp [List.getD, this]
    · refine ⟨i + 1 + k, by omega, by omega, ?_⟩
      have : i + 1 + k < l.length := by omega
      simp [List.getD, this]
  · rintro ⟨k, hk, hne, rfl⟩
    rcases Nat.lt_or_gt_of_ne hne with h | h
    · exact .inl ⟨k, by omega, by simp [List.getD, hk]⟩
    · refine .inr ⟨k - (i + 1), by omega, ?_⟩
      have e : i + 1 + (k - (i + 1)) = k := by omega
      simp [List.getD, hk, e]
theorem else_cond {l : List VCond} {m : List VAction} {i k : Nat} {v : Str} (hk : k < l.length) (hne : k ≠ i) (h : v ∈ cvC (l.getD k default)) : elseF l m i v = true := by
  refine decide_eq_true (List.mem_append.2 (.inl (fm_mem.2 ⟨_, others_mem.2 ⟨k, hk, hne, rfl⟩, h⟩)))
theorem else_act {l : List VCond} {m : List VAction} {i k : Nat} {v : Str} (hk : k < m.length) (h : v ∈ avC (m.getD k default)) : elseF l m i v = true := by
  refine decide_eq_true (List.mem_append.2 (.inr (fm_mem.2 ⟨_, getD_mem hk, h⟩)))
theorem else_no {l : List VCond} {m : List VAction} {i : Nat} {v : Str} (h1 : ∀ k, k < l.length → k ≠ i → v ∉ cvC (l.getD k default)) (h2 : ∀ k, k < m.length → v ∉ avC (m.getD k default)) : elseF l m i v = false := by
  refine decide_eq_false fun h => ?_
  rcases List.mem_append.1 h with h | h
  · obtain ⟨x, hx, hv⟩ := fm_mem.1 h
    obtain ⟨k, hk, hne, rfl⟩ := others_mem.1 hx
    exact h1 k hk hne hv
  · obtain ⟨x, hx, hv⟩ := fm_mem.1 h
    obtain ⟨k, hk⟩ := List.getElem?_of_mem hx
    have e : m.getD k default = x := by simp [List.getD, hk]
    exact h2 k (getElem?_lt hk) (by rw [e]; exact hv)
theorem sElse.ret (r : VRule) (i : Nat) (v : Str) (h : tRule.size r ≤ 1048576) (hir : i < r.2.2.1.length) : sElse.Ret [.agg (oldL (tRule.q r)), .val (.int .i64 i), .str v] (.val (.bool (elseF r.2.2.1 r.2.2.2 i v))) [] := by
  refine sElse.ir.of rfl ?_
  rw [tRule_sz] at h
  skip
  refine ALoop.mk Nat (fun k => ⟨[(1, .val (.int .i64 i)), (2, .str v), (3, .bptr 0 0), (7, .val (.int .i64 k))], [.cells .var (oldL (tRule.q r))], []⟩) (fun k => k ≤ r.2.2.1.length ∧ ∀ k', k' < k → k' ≠ i → v ∉ cvC (r.2.2.1.getD k' default)) (fun k => r.2.2.1.length - k) ⟨0, ⟨Nat.zero_le _, fun k' h => by omega⟩, ?_⟩ (fun k hk => ?_)
  · repeat' first
      | exact trivial | refine wl_ ?_ ?_ ?_ ?_ | refine And.intro ?_ ?_ | with_reducible rfl | exact ble_ | refine AV.int_congr ?_ | refine AV.str_congr ?_ | (apply rfl)
  by_cases hk' : k < r.2.2.1.length
  · have hc := cond_le hk'
    have hvl := cvC_len (r.2.2.1.getD k default)
    have hvo := sCondVars.own (r.2.2.1.getD k default) (by omega)
    have hok := ok_strT (cvC (r.2.2.1.getD k default))
    rw [show insAll blt (vs (cvF (r.2.2.1.getD k default))) = cvC (r.2.2.1.getD k default) from rfl] at hvo
    repeat' first
      | (conv => whnf
         first | refine Need.mk (fun h => h) ?_ | refine Need.mk rfl ?_ | refine nb_ ?_ | refine Ix.mapN (fun _ => rfl) ?_ | refine Fork.decY ?_ | refine Fork.mk (fun _ => ?_) (fun _ => ?_) | refine Round.mk ?_ | refine FinVal.keep ?_ | refine Final.mk ?_ rfl | refine AGCall.oldA _ _ (fun hg => hvo) ?_ | refine AGCall.mkA _ _ (fun hg => sHasText.ret _ _ ?_) rfl ?_)
      | refine AV.bool_congr ?_
    · omega
    · rename_i h1
      simp only [Bool.and_eq_true, bne_iff_ne, ne_eq, decide_eq_true_eq] at h1
      exact (else_cond hk' (fun e => h1.1 (by rw [e])) h1.2).symm
    · rename_i h1
      refine ⟨k + 1, ⟨by omega, fun k' h2 h3 h4 => ?_⟩, ?_, by omega⟩
      · rcases Nat.lt_or_eq_of_le (Nat.le_of_lt_succ h2) with h5 | h5
        · exact hk.2 k' h5 h3 h4
        · subst h5
          have : ((k' : Int) != (i : Int)) = true := by rw [bne_iff_ne]; omega
          rw [this, decide_eq_true h4] at h1; cases h1
      · repeat' first
          | exact trivial | refine wl_ ?_ ?_ ?_ ?_ | refine And.intro ?_ ?_ | with_reducible rfl | exact ble_ | refine AV.int_congr ?_ | refine AV.str_congr ?_ | (apply rfl)
        rw [wrap64 (by omega) (by omega)]; rfl
  have hall := hk.2
  repeat' first
    | (conv => whnf
       first | refine Need.mk rfl ?_ | refine Fork.decN ?_)
  refine ALoop.mk Nat (fun k => ⟨[(1, .val (.int .i64 i)), (2, .str v), (3, .bptr 0 0), (8, .val (.int .i64 k))], [.cells .var (oldL (tRule.q r))], []⟩) (fun k => k ≤ r.2.2.2.length ∧ ∀ k', k' < k → v ∉ avC (r.2.2.2.getD k' default)) (fun k => r.2.2.2.length - k) ⟨0, ⟨Nat.zero_le _, fun k' h => by omega⟩, ?_⟩ (fun q hq => ?_)
  · repeat' first
      | exact trivial | refine wl_ ?_ ?_ ?_ ?_ | refine And.intro ?_ ?_ | with_reducible rfl | exact ble_ | refine AV.int_congr ?_ | refine AV.str_congr ?_ | (apply rfl)
  by_cases hq' : q < r.2.2.2.length
  · have hc := act_le hq'
    have hp := tAction_pat (r.2.2.2.getD q default)
    have hvl := avC_len (r.2.2.2.getD q default)
    have hvo := sVarsOf.own (r.2.2.2.getD q default).2 (by omega)
    have hok := ok_strT (avC (r.2.2.2.getD q default))
    rw [show insAll blt (vs (r.2.2.2.getD q default).2.2) = avC (r.2.2.2.getD q default) from rfl] at hvo
    repeat' first
      | (conv => whnf
         first | refine Need.mk rfl ?_ | refine nb_ ?_ | refine Ix.mapN (fun _ => rfl) ?_ | refine Fork.decY ?_ | refine Fork.dec (fun _ => ?_) (fun _ => ?_) | refine Round.mk ?_ | refine FinVal.keep ?_ | refine Final.mk ?_ rfl | refine ACall.oldA _ _ (hvo) ?_ | refine ACall.scalA _ _ (sHasText.ret _ _ ?_) rfl ?_)
      | refine AV.bool_congr ?_
    · omega
    · rename_i h1
      exact (else_act hq' h1).symm
    · rename_i h1
      refine ⟨q + 1, ⟨by omega, fun k' h2 h4 => ?_⟩, ?_, by omega⟩
      · rcases Nat.lt_or_eq_of_le (Nat.le_of_lt_succ h2) with h5 | h5
        · exact hq.2 k' h5 h4
        · subst h5
          exact h1 h4
      · repeat' first
          | exact trivial | refine wl_ ?_ ?_ ?_ ?_ | refine And.intro ?_ ?_ | with_reducible rfl | exact ble_ | refine AV.int_congr ?_ | refine AV.str_congr ?_ | (apply rfl)
        rw [wrap64 (by omega) (by omega)]; rfl
  repeat' first
    | (conv => whnf
       first | refine Need.mk rfl ?_ | refine Fork.decN ?_ | refine FinVal.keep ?_ | refine Final.mk ?_ rfl)
    | refine AV.bool_congr ?_
  exact (else_no (fun k' h1 h2 => hall k' (by omega) h2) (fun k' h1 => hq.2 k' (by omega))).symm
theorem okV_no {l : List VCond} {m : List VAction} {i : Nat} {x : VCond} {v : Str} (h : ((isTestF x && !decide (v ∈ bvF l i)) || (x.1 == 2 && !decide (v ∈ bvF l i) && elseF l m i v)) = true) : okV l m i x v = false := by
  unfold okV; revert h
  cases decide (v ∈ bvF l i) <;> cases isTestF x <;> cases (x.1 == 2) <;> cases elseF l m i v <;> simp
theorem okV_yes {l : List VCond} {m : List VAction} {i : Nat} {x : VCond} {v : Str} (h : ((isTestF x && !decide (v ∈ bvF l i)) || (x.1 == 2 && !decide (v ∈ bvF l i) && elseF l m i v)) = false) : okV l m i x v = true := by
  unfold okV; revert h
  cases decide (v ∈ bvF l i) <;> cases isTestF x <;> cases (x.1 == 2) <;> cases elseF l m i v <;> simp
theorem bvF_len (l : List VCond) (n : Nat) : (bvF l n).length ≤ listSize tCond l := Nat.le_trans (insAll_le _) (fm_lenT tCond bvC bvC_len l n)
theorem rvF_len (r : VRule) : (rvF r.2.2.1 r.2.2.2).length ≤ listSize tCond r.2.2.1 + listSize tAction r.2.2.2 := by
  refine Nat.le_trans (insAll_le _) ?_
  rw [List.length_append]
  have h1 := fm_len tCond cvC cvC_len r.2.2.1
  have h2 := fm_len tAction avC avC_len r.2.2.2
  omega
theorem head_iff (r : VRule) : (!nameF r.1 || !(decide (0 ≤ r.2.1) && decide (r.2.1 ≤ 9)) || !(decide (1 ≤ ((oldLL (r.2.2.1.map tCond.q)).length : Int)) && decide (((oldLL (r.2.2.1.map tCond.q)).length : Int) ≤ 4)) || !(decide (1 ≤ ((oldLL (r.2.2.2.map tAction.q)).length : Int)) && decide (((oldLL (r.2.2.2.map tAction.q)).length : Int) ≤ 2))) = false ↔
    nameF r.1 = true ∧ 0 ≤ r.2.1 ∧ r.2.1 ≤ 9 ∧ 1 ≤ r.2.2.1.length ∧ r.2.2.1.length ≤ 4 ∧ 1 ≤ r.2.2.2.length ∧ r.2.2.2.length ≤ 2 := by
  simp only [length_oldLL, List.length_map, Bool.or_eq_false_iff, Bool.not_eq_false', Bool.and_eq_true, decide_eq_true_eq]
  constructor
  · rintro ⟨⟨⟨h1, h2, h3⟩, h4, h5⟩, h6, h7⟩
    exact ⟨h1, h2, h3, by omega, by omega, by omega, by omega⟩
  · rintro ⟨h1, h2, h3, h4, h5, h6, h7⟩
    exact ⟨⟨⟨h1, h2, h3⟩, by omega, by omega⟩, by omega, by omega⟩
set_option maxHeartbeats 4000000 in
theorem sIsRule.ret (r : VRule) (h : tRule.size r ≤ 1048576) : sIsRule.Ret [.agg (oldL (tRule.q r))] (.val (.bool (isRuleF r))) [] := by
  refine sIsRule.ir.of rfl ?_
  have hrs := h
  rw [tRule_sz] at h
  have hbk := ok_strT (bvF r.2.2.1 r.2.2.1.length)
  have hbl := bvF_len r.2.2.1 r.2.2.1.length
  have hbx : sBoundVars.Own [.agg (oldL (tRule.q r)), .val (.int .i64 (oldLL (r.2.2.1.map tCond.q)).length)] (strT (bvF r.2.2.1 r.2.2.1.length)) := by
    rw [length_oldLL, List.length_map]
    have := sBoundVars.own r r.2.2.1.length hrs
    rwa [Int.toNat_natCast] at this
  have hif := head_iff r
  cases hb : (!nameF r.1 || !(decide (0 ≤ r.2.1) && decide (r.2.1 ≤ 9)) || !(decide (1 ≤ ((oldLL (r.2.2.1.map tCond.q)).length : Int)) && decide (((oldLL (r.2.2.1.map tCond.q)).length : Int) ≤ 4)) || !(decide (1 ≤ ((oldLL (r.2.2.2.map tAction.q)).length : Int)) && decide (((oldLL (r.2.2.2.map tAction.q)).length : Int) ≤ 2)))
  rotate_left
  · rw [hb] at hif
    rw [rule_no (fun e => absurd (hif.2 e) (by simp))]
    repeat' first
      | (conv => whnf
         first | refine Need.mk (fun h => h) ?_ | refine Fork.yes (by assumption) ?_ | refine FinVal.keep ?_ | refine Final.mk rfl rfl | refine ACall.scalA _ _ (sIsName.ret _ ?_) rfl ?_ | refine AGCall.mkA _ _ (fun hg => l1In.ret _ _ _) rfl ?_)
    omega
  have h0 := hif.1 hb
  clear hif
  repeat' first
    | (conv => whnf
       first | refine Need.mk (fun h => h) ?_ | refine nb_ ?_ | refine Fork.no (by assumption) ?_ | refine ACall.scalA _ _ (sIsName.ret _ ?_) rfl ?_ | refine AGCall.mkA _ _ (fun hg => l1In.ret _ _ _) rfl ?_ | refine ACall.oldA _ _ (hbx) ?_)
  · omega
  refine ALoop.mk Nat (fun i => ⟨[(1, .bptr 0 0), (3, .list none (strs (bvF r.2.2.1 r.2.2.1.length))), (4, .val (.int .i64 i))], [.cells .var (oldL (tRule.q r))], []⟩) (fun i => i ≤ r.2.2.1.length ∧ ∀ j, j < i → okC r.2.2.1 r.2.2.2 j (r.2.2.1.getD j default) = true) (fun i => r.2.2.1.length - i) ⟨0, ⟨Nat.zero_le _, fun j hj => by omega⟩, ?_⟩ (fun i hi => ?_)
  · repeat' first
      | exact trivial | refine wl_ ?_ ?_ ?_ ?_ | refine And.intro ?_ ?_ | with_reducible rfl | exact ble_ | refine AV.int_congr ?_ | refine AV.list_congr ?_ | (apply rfl)
  by_cases hi' : i < r.2.2.1.length
  · have hc := cond_le hi'
    have hvl := cvC_len (r.2.2.1.getD i default)
    have hvo := sCondVars.own (r.2.2.1.getD i default) (by omega)
    have hok := ok_strT (cvC (r.2.2.1.getD i default))
    rw [show insAll blt (vs (cvF (r.2.2.1.getD i default))) = cvC (r.2.2.1.getD i default) from rfl] at hvo
    have hbi := sBoundVars.own r i hrs
    rw [Int.toNat_natCast] at hbi
    have hbik := ok_strT (bvF r.2.2.1 i)
    have hbil := bvF_len r.2.2.1 i
    have hic := sIsCond.ret (r.2.2.1.getD i default) (by omega)
    have hit := sIsTest.ret (r.2.2.1.getD i default) (by omega)
    repeat' first
      | (conv => whnf
         first | refine Need.mk (fun h => h) ?_ | refine Need.mk rfl ?_ | refine Need.mk ⟨rfl, Nat.le_of_ble_eq_true rfl⟩ ?_ | refine nb_ ?_ | refine Ix.mapN (fun _ => rfl) ?_ | refine Fork.decY ?_ | refine Fork.mk (fun _ => ?_) (fun _ => ?_) | refine FinVal.keep ?_ | refine Final.mk ?_ rfl | refine ACall.scalA _ _ (hic) rfl ?_ | refine ACall.oldA _ _ (hbi) ?_ | refine ACall.oldA _ _ (hvo) ?_)
      | refine AV.bool_congr ?_
    · rename_i h1
      rw [rule_noC hi']
      unfold okC
      revert h1
      have e : ((i : Int) == 0) = (i == 0) := by cases i <;> simp <;> omega
      rw [e, Int.toNat_natCast]
      cases isCondF (r.2.2.1.getD i default) <;> cases (i == 0) <;> simp
      intro h2 h3; exact absurd h3 h2
    rename_i h1
    have hcok : isCondF (r.2.2.1.getD i default) = true ∧ ((i == 0) = true → (r.2.2.1.getD i default).1 = 1) := by
      rw [Int.toNat_natCast] at h1
      have e : ((i : Int) == 0) = (i == 0) := by cases i <;> simp <;> omega
      rw [e] at h1
      revert h1
      cases isCondF (r.2.2.1.getD i default) <;> cases (i == 0) <;> simp
    refine ALoop.mk Nat (fun k => ⟨[(1, .bptr 0 0), (3, .list none (strs (bvF r.2.2.1 r.2.2.1.length))), (4, .val (.int .i64 i)), (5, .bptr 1 0), (6, .list none (strs (bvF r.2.2.1 i))), (7, .list none (strs (cvC (r.2.2.1.getD i default)))), (8, .val (.int .i64 k))], [.cells .var (oldL (tRule.q r)), .cells .var (oldL (tCond.q (r.2.2.1.getD i default)))], []⟩) (fun k => k ≤ (cvC (r.2.2.1.getD i default)).length ∧ ∀ j, j < k → okV r.2.2.1 r.2.2.2 i (r.2.2.1.getD i default) ((cvC (r.2.2.1.getD i default)).getD j []) = true) (fun k => (cvC (r.2.2.1.getD i default)).length - k) ⟨0, ⟨Nat.zero_le _, fun j hj => by omega⟩, ?_⟩ (fun k hk => ?_)
    · repeat' first
        | exact trivial | refine wl_ ?_ ?_ ?_ ?_ | refine And.intro ?_ ?_ | with_reducible rfl | exact ble_ | refine AV.int_congr ?_ | refine AV.list_congr ?_ | (apply rfl)
    by_cases hk' : k < (cvC (r.2.2.1.getD i default)).length
    rotate_left
    · have hov : (cvC (r.2.2.1.getD i default)).all (okV r.2.2.1 r.2.2.2 i (r.2.2.1.getD i default)) = true := List.all_eq_true.2 fun v hv => by
        obtain ⟨j, hj⟩ := List.getElem?_of_mem hv
        have := hk.2 j (by have := getElem?_lt hj; omega)
        have e : (cvC (r.2.2.1.getD i default)).getD j [] = v := by rw [List.getD_eq_getElem?_getD, hj]; rfl
        rwa [e] at this
      repeat' first
        | (conv => whnf
           first | refine Need.mk rfl ?_ | refine Fork.decN ?_ | refine Round.mk ?_)
      refine ⟨i + 1, ⟨by omega, fun j hj => ?_⟩, ?_, by omega⟩
      · rcases Nat.lt_or_eq_of_le (Nat.le_of_lt_succ hj) with h5 | h5
        · exact hi.2 j h5
        · subst h5
          rw [okC, hcok.1, hov]
          have := hcok.2
          cases hz : (j == 0)
          · rfl
          · rw [this hz]; rfl
      · repeat' first
          | exact trivial | refine wr_ ?_ ?_ ?_ ?_ | refine And.intro ?_ ?_ | with_reducible rfl | exact ble_ | refine AV.int_congr ?_ | refine AV.list_congr ?_ | (apply rfl)
        rw [wrap64 (by omega) (by omega)]; rfl
    have hse := sElse.ret r i ((cvC (r.2.2.1.getD i default)).getD k []) hrs hi'
    have hht := sHasText.ret (bvF r.2.2.1 i) ((cvC (r.2.2.1.getD i default)).getD k []) (by omega)
    repeat' first
      | (conv => whnf
         first | refine Need.mk (fun h => h) ?_ | refine Need.mk rfl ?_ | refine nb_ ?_ | refine Ix.strsN rfl ?_ | refine Fork.decY ?_ | refine Fork.mk (fun _ => ?_) (fun _ => ?_) | refine Round.mk ?_ | refine FinVal.keep ?_ | refine Final.mk ?_ rfl | refine AQCall.mkA _ _ (fun hg => hit) rfl ?_ | refine ACall.scalA _ _ (hht) rfl ?_ | refine AQCall.mkA _ _ (fun hg => hse) rfl ?_)
      | refine AV.bool_congr ?_
    · rename_i h2
      have h3 := okV_no h2
      rw [rule_noC hi']
      have : (cvC (r.2.2.1.getD i default)).all (okV r.2.2.1 r.2.2.2 i (r.2.2.1.getD i default)) = false := allQ_no hk' h3
      rw [okC, this, Bool.and_false]
    · rename_i h2
      have h3 := okV_yes h2
      refine ⟨k + 1, ⟨by omega, fun j hj => ?_⟩, ?_, by omega⟩
      · rcases Nat.lt_or_eq_of_le (Nat.le_of_lt_succ hj) with h5 | h5
        · exact hk.2 j h5
        · subst h5; exact h3
      · repeat' first
          | exact trivial | refine wl_ ?_ ?_ ?_ ?_ | refine And.intro ?_ ?_ | with_reducible rfl | exact ble_ | refine AV.int_congr ?_ | refine AV.list_congr ?_ | (apply rfl)
        rw [wrap64 (by omega) (by omega)]; rfl
  have hall := hi.2
  repeat' first
    | (conv => whnf
       first | refine Need.mk rfl ?_ | refine Fork.decN ?_)
  refine ALoop.mk Nat (fun q => ⟨[(1, .bptr 0 0), (3, .list none (strs (bvF r.2.2.1 r.2.2.1.length))), (10, .val (.int .i64 q))], [.cells .var (oldL (tRule.q r))], []⟩) (fun q => q ≤ r.2.2.2.length ∧ ∀ j, j < q → okA (bvF r.2.2.1 r.2.2.1.length) (r.2.2.2.getD j default) = true) (fun q => r.2.2.2.length - q) ⟨0, ⟨Nat.zero_le _, fun j hj => by omega⟩, ?_⟩ (fun q hq => ?_)
  · repeat' first
      | exact trivial | refine wl_ ?_ ?_ ?_ ?_ | refine And.intro ?_ ?_ | with_reducible rfl | exact ble_ | refine AV.int_congr ?_ | refine AV.list_congr ?_ | (apply rfl)
  by_cases hq' : q < r.2.2.2.length
  rotate_left
  · have hrv := sRuleVars.own r hrs
    have hrk := ok_strT (rvF r.2.2.1 r.2.2.2)
    have hy := rule_yes h0 (fun j hj => hall j (by omega)) (fun j hj => hq.2 j (by omega))
    repeat' first
      | (conv => whnf
         first | refine Need.mk rfl ?_ | refine nb_ ?_ | refine Fork.decN ?_ | refine FinVal.keep ?_ | refine Final.mk ?_ rfl | refine ACall.oldA _ _ (hrv) ?_)
      | refine AV.bool_congr ?_
    rw [hy, length_oldLL, List.length_map]
    exact decide_eq_decide.2 (by omega)
  have hc := act_le hq'
  have hp := tAction_pat (r.2.2.2.getD q default)
  have hvl := avC_len (r.2.2.2.getD q default)
  have hvo := sVarsOf.own (r.2.2.2.getD q default).2 (by omega)
  have hok := ok_strT (avC (r.2.2.2.getD q default))
  rw [show insAll blt (vs (r.2.2.2.getD q default).2.2) = avC (r.2.2.2.getD q default) from rfl] at hvo
  have hia := sIsAction.ret (r.2.2.2.getD q default) (by omega)
  repeat' first
    | (conv => whnf
       first | refine Need.mk rfl ?_ | refine nb_ ?_ | refine Ix.mapN (fun _ => rfl) ?_ | refine Fork.decY ?_ | refine Fork.neg (fun _ => ?_) (fun _ => ?_) | refine FinVal.keep ?_ | refine Final.mk ?_ rfl | refine ACall.scalC _ _ (hia) rfl ?_ | refine ACall.oldA _ _ (hvo) ?_)
    | refine AV.bool_congr ?_
  · rename_i h1
    rw [rule_noA hq']
    rw [okA, h1]; rfl
  rename_i hact
  refine ALoop.mk Nat (fun k => ⟨[(1, .bptr 0 0), (3, .list none (strs (bvF r.2.2.1 r.2.2.1.length))), (10, .val (.int .i64 q)), (11, .list none (strs (avC (r.2.2.2.getD q default)))), (12, .val (.int .i64 k))], [.cells .var (oldL (tRule.q r))], []⟩) (fun k => k ≤ (avC (r.2.2.2.getD q default)).length ∧ ∀ j, j < k → (avC (r.2.2.2.getD q default)).getD j [] ∈ bvF r.2.2.1 r.2.2.1.length) (fun k => (avC (r.2.2.2.getD q default)).length - k) ⟨0, ⟨Nat.zero_le _, fun j hj => by omega⟩, ?_⟩ (fun k hk => ?_)
  · repeat' first
      | exact trivial | refine wl_ ?_ ?_ ?_ ?_ | refine And.intro ?_ ?_ | with_reducible rfl | exact ble_ | refine AV.int_congr ?_ | refine AV.list_congr ?_ | (apply rfl)
  by_cases hk' : k < (avC (r.2.2.2.getD q default)).length
  rotate_left
  · have hov : ((avC (r.2.2.2.getD q default)).all fun v => decide (v ∈ bvF r.2.2.1 r.2.2.1.length)) = true := List.all_eq_true.2 fun v hv => by
      obtain ⟨j, hj⟩ := List.getElem?_of_mem hv
      have := hk.2 j (by have := getElem?_lt hj; omega)
      have e : (avC (r.2.2.2.getD q default)).getD j [] = v := by rw [List.getD_eq_getElem?_getD, hj]; rfl
      rw [e] at this
      exact decide_eq_true this
    repeat' first
      | (conv => whnf
         first | refine Need.mk rfl ?_ | refine Fork.decN ?_ | refine Round.mk ?_)
    refine ⟨q + 1, ⟨by omega, fun j hj => ?_⟩, ?_, by omega⟩
    · rcases Nat.lt_or_eq_of_le (Nat.le_of_lt_succ hj) with h5 | h5
      · exact hq.2 j h5
      · subst h5
        rw [okA, hact, hov]; rfl
    · repeat' first
        | exact trivial | refine wl_ ?_ ?_ ?_ ?_ | refine And.intro ?_ ?_ | with_reducible rfl | exact ble_ | refine AV.int_congr ?_ | refine AV.list_congr ?_ | (apply rfl)
      rw [wrap64 (by omega) (by omega)]; rfl
  have hht := sHasText.ret (bvF r.2.2.1 r.2.2.1.length) ((avC (r.2.2.2.getD q default)).getD k []) (by omega)
  repeat' first
    | (conv => whnf
       first | refine Need.mk rfl ?_ | refine Ix.strsN rfl ?_ | refine Fork.decY ?_ | refine Fork.neg (fun _ => ?_) (fun _ => ?_) | refine Round.mk ?_ | refine FinVal.keep ?_ | refine Final.mk ?_ rfl | refine ACall.scalA _ _ (hht) rfl ?_)
    | refine AV.bool_congr ?_
  · rename_i h1
    have h1 : (avC (r.2.2.2.getD q default)).getD k [] ∉ bvF r.2.2.1 r.2.2.1.length := by first | exact h1 | exact of_decide_eq_false h1
    rw [rule_noA hq']
    have : ((avC (r.2.2.2.getD q default)).all fun v => decide (v ∈ bvF r.2.2.1 r.2.2.1.length)) = false := allQ_no hk' (decide_eq_false h1)
    rw [okA, this, Bool.and_false]
  · rename_i h1
    have h1 : (avC (r.2.2.2.getD q default)).getD k [] ∈ bvF r.2.2.1 r.2.2.1.length := by first | exact h1 | exact of_decide_eq_true h1
    refine ⟨k + 1, ⟨by omega, fun j hj => ?_⟩, ?_, by omega⟩
    · rcases Nat.lt_or_eq_of_le (Nat.le_of_lt_succ hj) with h5 | h5
      · exact hk.2 j h5
      · subst h5; exact h1
    · repeat' first
        | exact trivial | refine wl_ ?_ ?_ ?_ ?_ | refine And.intro ?_ ?_ | with_reducible rfl | exact ble_ | refine AV.int_congr ?_ | refine AV.list_congr ?_ | (apply rfl)
      rw [wrap64 (by omega) (by omega)]; rfl
end Go.Proofs.YtoindmahilbalaaGreat
namespace Go.Proofs.YtoindmahilbalaaGreat
open Abs Go.RowKit Go.Shelf
theorem slGrowC.ret (n : Nat) (hn : n ≤ 1048576) : slGrowC.Ret [.val (.slice none 0 0), .val (.int .i64 n)] (.list (some 0) []) [(116, 5, 0)] := by
  rw [slGrowC.Ret, Ret_eq]
  refine ⟨by kernel_rfl, fun w F vs hout hargs => ?_⟩
  obtain ⟨v0, v1, rfl⟩ : ∃ v0 v1, vs = #[v0, v1] := by
    have := hargs.1
    match vs, this with
    | ⟨[a, b]⟩, _ => exact ⟨a, b, rfl⟩
  obtain ⟨h0, h1⟩ := Both.cons.1 hargs
  obtain ⟨h1, _⟩ := Both.cons.1 h1
  cases h0
  cases h1
  rcases Nat.eq_zero_or_pos n with rfl | hpos
  · refine (Any8.slices_Grow_room Tryz.growC none 0 0 0 w (by omega) (by omega) (by omega) (by omega)).mono ?_
    rintro e w' ⟨rfl, rfl⟩
    refine ⟨_, F, [none], [], rfl, Bel.refl _ _, fun _ _ => rfl, hout, rfl, fun k b h => ?_, fun k l b h => ?_, .list _ [] none 0 5 0 0 (fun _ _ => undef) (Nat.le_refl _) (fun h => absurd rfl h) (by simp) (fun h => absurd rfl h) (by simp) (by simp) (fun k hk => ?_)⟩
    · cases k <;> simp at h
    · cases k <;> simp at h
    · cases hk
      exact ⟨_, 5, 0, rfl, Nat.le_refl _, fun _ => ⟨rfl, ⟨[], World.ownsRow_nil _ _ _ _⟩, rfl, fun b h => by cases h⟩⟩
  · obtain ⟨el, ti, z, hu, hi, hz, hzs, hps, _, hel, hcz⟩ := goodElem_inv (P := Tryz.prog) (t := 31) (by kernel_rfl)
    have he : el = 116 := hel.symm.trans (by kernel_rfl)
    subst he
    have hsz : ti.size = 5 := hcz.symm.trans (by kernel_rfl)
    have hby : ti.bytes = 80 := by
      have h : bytesOf Tryz.prog 116 = ti.bytes := by unfold bytesOf; rw [hi]
      exact h.symm.trans (by kernel_rfl)
    have hzz : z.cells.size = 5 := hzs.trans hsz
    refine (Any8.slices_Grow_grow Tryz.growC ti z hi hz (by omega) none 0 0 n [] w (by omega) (by omega) (by rw [hby]; omega) (by omega) (by simp) (fun _ => rfl) (fun a h => by cases h)).mono ?_
    rintro e w' ⟨rfl, rfl⟩
    have hge := grownCap_ge w (0 + n) 0 116
    have hle := grownCap_le_maxLen w (0 + n) 0 116 (by unfold maxLen; omega)
    have hG : grownCap w (0 + n) 0 (Tryz.growC_ren.t 25) = grownCap w (0 + n) 0 116 := rfl
    rw [hG]
    generalize grownCap w (0 + n) 0 116 = G at hge hle
    refine ⟨_, F, [some w.heap.size], [], rfl, ((Bel.refl _ w).drew).alloc (Nat.le_refl _) _, fun _ _ => rfl, fun b hb => hout b ?_, rfl, fun k b h => ?_, fun k l b h1 h2 => ?_, .list _ [] (some ⟨w.heap.size, 0, none⟩) G 5 w.heap.size 0 (fun _ _ => undef) (Nat.zero_le _) (fun h => absurd rfl h) (by simp) (fun h => absurd rfl h) (by simp) (by simp) (fun k hk => ?_)⟩
    · have : w.heap.size + 1 ≤ b := by simpa using hb
      omega
    · cases k with
      | zero => simp at h; subst h; exact ⟨Nat.le_refl _, by simp⟩
      | succ k => simp at h
    · cases k <;> cases l <;> simp at h1 h2
      rfl
    · cases hk
      refine ⟨_, 5, 0, rfl, Nat.le_refl _, fun _ => ⟨rfl, ⟨[], rfl, Or.inr ⟨w.heap.size, G, _, rfl, Nat.le_refl _, heap_alloc_new w.drew _, Nat.zero_le _, hle, ?_, by simp⟩⟩, rfl, fun b h => ?_⟩⟩
      · simp [Builtin.zeroCells, hzz]; omega
      · cases h; rw [hout _ (Nat.le_refl _)]; rfl
def sumC (a b : List VCond) (i : Nat) : Nat := if i = 0 then 0 else if i = 1 then a.length else a.length + b.length
def catC (a b : List VCond) (i : Nat) : List VCond := if i = 0 then [] else if i = 1 then a else a ++ b
theorem rows_app {α : Type} (T : Ty α) (a b : List α) : rows T (a ++ b) = rows T a ++ rows T b := by rw [rows, List.map_append, oldLL_append]; rfl
theorem slConcatC2.ret (a b : List VCond) (hab : a.length + b.length ≤ 1048576) : slConcatC.Ret [.list none [[.list none (rows tCond a)], [.list none (rows tCond b)]]] (.list (some 0) (rows tCond (a ++ b))) [(116, 5, (a ++ b).length)] := by
  refine slConcatC.ir.of rfl ?_
  have e1 : IntKind.i64.wrap ((0 : Int) + (rows tCond a).length) = a.length := by rw [length_rows, wrap64 (by omega) (by omega)]; omega
  have e2 : IntKind.i64.wrap ((a.length : Int) + (rows tCond b).length) = ((a.length + b.length : Nat) : Int) := by rw [length_rows, wrap64 (by omega) (by omega)]; omega
  skip
  refine ALoop.mk Nat (fun i => ⟨[(0, .list none [[.list none (rows tCond a)], [.list none (rows tCond b)]]), (3, .val (.int .i64 (sumC a b i))), (9, .list none [[.list none (rows tCond a)], [.list none (rows tCond b)]]), (10, .val (.int .i64 2)), (11, .val (.int .i64 i))], [], []⟩) (fun i => i ≤ 2) (fun i => 2 - i) ⟨0, by omega, ?_⟩ (fun i hi => ?_)
  · repeat' first
      | exact trivial | refine wl_ ?_ ?_ ?_ ?_ | refine And.intro ?_ ?_ | with_reducible rfl | exact ble_ | refine AV.int_congr ?_ | refine AV.list_congr ?_ | (apply rfl)
  have hc : i = 0 ∨ i = 1 ∨ i = 2 := by omega
  rcases hc with rfl | rfl | rfl
  · have hix : (0 : Int) ≤ (0 : Nat) ∧ [[AV.list none (rows tCond a)], [AV.list none (rows tCond b)]][((0 : Nat) : Int).toNat]? = some [AV.list none (rows tCond a)] ∧ 1 = 1 := ⟨by omega, rfl, rfl⟩
    repeat' first
      | (conv => whnf
         first | refine Need.mk rfl ?_ | refine Ix.mk _ (fun _ => hix) ?_ | refine Fork.decYes (by omega) ?_ | refine Fork.dec (fun _ => ?_) (fun _ => ?_) | refine Round.mk ?_)
    · rename_i h
      have h : IntKind.i64.wrap ((0 : Int) + (rows tCond a).length) < 0 := h
      rw [e1] at h; omega
    · refine ⟨1, by omega, ?_, by omega⟩
      repeat' first
        | exact trivial | refine wl_ ?_ ?_ ?_ ?_ | refine And.intro ?_ ?_ | with_reducible rfl | exact ble_ | refine AV.int_congr ?_ | refine AV.list_congr ?_ | (apply rfl)
      exact e1
  · have hix : (0 : Int) ≤ (1 : Nat) ∧ [[AV.list none (rows tCond a)], [AV.list none (rows tCond b)]][((1 : Nat) : Int).toNat]? = some [AV.list none (rows tCond b)] ∧ 1 = 1 := ⟨by omega, rfl, rfl⟩
    repeat' first
      | (conv => whnf
         first | refine Need.mk rfl ?_ | refine Ix.mk _ (fun _ => hix) ?_ | refine Fork.decYes (by omega) ?_ | refine Fork.dec (fun _ => ?_) (fun _ => ?_) | refine Round.mk ?_)
    · rename_i h
      have h : IntKind.i64.wrap ((a.length : Int) + (rows tCond b).length) < 0 := h
      rw [e2] at h; omega
    · refine ⟨2, by omega, ?_, by omega⟩
      repeat' first
        | exact trivial | refine wl_ ?_ ?_ ?_ ?_ | refine And.intro ?_ ?_ | with_reducible rfl | exact ble_ | refine AV.int_congr ?_ | refine AV.list_congr ?_ | (apply rfl)
      exact e2
  have hg : slGrowC.Ret [.val (.slice none 0 0), .val (.int .i64 (sumC a b 2))] (.list (some 0) []) [(116, 5, 0)] := slGrowC.ret (a.length + b.length) (by omega)
  repeat' first
    | (conv => whnf
       first | refine Need.mk rfl ?_ | refine Fork.decNo (by omega) ?_ | refine ACall.mkR _ _ _ (hg) ?_)
  refine ALoop.mk Nat (fun i => ⟨[(0, .list none [[.list none (rows tCond a)], [.list none (rows tCond b)]]), (6, .list (some 0) (rows tCond (catC a b i))), (25, .list none [[.list none (rows tCond a)], [.list none (rows tCond b)]]), (26, .val (.int .i64 2)), (27, .val (.int .i64 i))], [], [(116, 5, (catC a b i).length)]⟩) (fun i => i ≤ 2) (fun i => 2 - i) ⟨0, by omega, ?_⟩ (fun i hi => ?_)
  · repeat' first
      | exact trivial | refine wl_ ?_ ?_ ?_ ?_ | refine And.intro ?_ ?_ | with_reducible rfl | exact ble_ | refine fr1 ?_ | refine AV.int_congr ?_ | refine AV.list_congr ?_ | (apply rfl)
  have hc : i = 0 ∨ i = 1 ∨ i = 2 := by omega
  rcases hc with rfl | rfl | rfl
  · have hix : (0 : Int) ≤ (0 : Nat) ∧ [[AV.list none (rows tCond a)], [AV.list none (rows tCond b)]][((0 : Nat) : Int).toNat]? = some [AV.list none (rows tCond a)] ∧ 1 = 1 := ⟨by omega, rfl, rfl⟩
    repeat' first
      | (conv => whnf
         first | refine Need.mk rfl ?_ | refine Need.mk ?_ ?_ | refine Ix.mk _ (fun _ => hix) ?_ | refine Fork.decYes (by omega) ?_ | refine Round.mk ?_)
    · exact rows_cut tCond a
    · rw [length_rows, length_rows]; simp [catC]; omega
    · refine ⟨1, by omega, ?_, by omega⟩
      repeat' first
        | exact trivial | refine wl_ ?_ ?_ ?_ ?_ | refine And.intro ?_ ?_ | with_reducible rfl | exact ble_ | refine fr1 ?_ | refine AV.int_congr ?_ | refine AV.list_congr ?_ | (apply rfl)
      show (rows tCond []).length + (rows tCond a).length = a.length
      simp
  · have hix : (0 : Int) ≤ (1 : Nat) ∧ [[AV.list none (rows tCond a)], [AV.list none (rows tCond b)]][((1 : Nat) : Int).toNat]? = some [AV.list none (rows tCond b)] ∧ 1 = 1 := ⟨by omega, rfl, rfl⟩
    repeat' first
      | (conv => whnf
         first | refine Need.mk rfl ?_ | refine Need.mk ?_ ?_ | refine Ix.mk _ (fun _ => hix) ?_ | refine Fork.decYes (by omega) ?_ | refine Round.mk ?_)
    · simp
    · exact rows_cut tCond b
    · rw [length_rows, length_rows]; simp [catC]; omega
    · refine ⟨2, by omega, ?_, by omega⟩
      repeat' first
        | exact trivial | refine wl_ ?_ ?_ ?_ ?_ | refine And.intro ?_ ?_ | with_reducible rfl | exact ble_ | refine fr1 ?_ | refine AV.int_congr ?_ | refine AV.list_congr ?_ | (apply rfl)
      · exact (rows_app tCond a b).symm
      · show (rows tCond a).length + (rows tCond b).length = (a ++ b).length
        simp
  · repeat' first
      | (conv => whnf
         first | refine Need.mk rfl ?_ | refine Fork.decNo (by omega) ?_ | refine Final.mk rfl rfl)
theorem Abs.Sees0.list2 (o : Option Nat) (a b : List (List Tr)) : Sees0 (.list o [[.list none (oldLL a)], [.list none (oldLL b)]]) (.list none [[.list none (oldLL a)], [.list none (oldLL b)]]) := Sees0.list (by
  show [[AV.list none (mapTLL noTok (oldLL a))], [AV.list none (mapTLL noTok (oldLL b))]] = _
  rw [mapTLL_old, mapTLL_old])
theorem Abs.ACall.mkL2 {C : Con} {lend : Bool} {f : Nat} {vs : List AV} {b : List ABox} {fr : Fr} {k : AV → List ABox → Fr → Prop} (ys : List AV) (i : Nat) (xs : List (List Tr)) (frs : Fr) (h : C.ret f ys (.list (some i) (oldLL xs)) frs)
    (hk : k (.list (some (i + fr.length)) (oldLL xs)) b (fr ++ frs)) (hv : SeesL Sees0 vs ys := by refine SeesL.cons ?_ SeesL.nil; exact Sees0.list2 _ _ _) : ACall C lend f vs b fr k := .mkL ys i xs frs h hv hk
theorem seesR (b : List Str) : ∀ bx, SeesL (SeesB bx) [AV.rptr [.list none (strs b)]] [.rptr [.list none (strs b)]] := fun _ => .cons (SeesB.of0 (Sees0.rptrL _)) .nil
theorem seesR2 (b c : List Str) : ∀ bx, SeesL (SeesB bx) [AV.rptr [.list none (strs b)], AV.rptr [.list none (strs c)]] [.rptr [.list none (strs b)], .rptr [.list none (strs c)]] := fun _ => .cons (SeesB.of0 (Sees0.rptrL _)) (.cons (SeesB.of0 (Sees0.rptrL _)) .nil)
theorem pamongClo.ret (s : Str) (b : List Str) (h : b.length ≤ 1048576) : pamongClo.Ret [.str s, .rptr [.list none (strs b)]] (.val (.bool (decide (s ∈ b)))) [] := by
  refine pamongClo.ir.of rfl ?_
  repeat' first
    | (conv => whnf
       first | refine FinVal.keep ?_ | refine Final.mk rfl rfl | refine ACall.scalA _ _ (slContains.ret _ _ ?_) rfl ?_)
  exact h
theorem pareAmong.ret (l b : List Str) (h : l.length ≤ 4194304) (hb : b.length ≤ 1048576) : pareAmong.Ret [.list none (strs l), .list none (strs b)] (.val (.bool (l.all fun v => decide (v ∈ b)))) [] := by
  refine pareAmong.ir.of rfl ?_
  have ha := pallS.ret (fun v => decide (v ∈ b)) _ _ (seesR b) l (fun x => pamongClo.ret x b hb) h
  repeat' first
    | (conv => whnf
       first | refine Need.mk ?_ ?_ | refine FinVal.keep ?_ | refine Final.mk rfl rfl | refine ACall.scalC _ _ (ha) rfl ?_)
  exact ⟨rfl, rfl⟩
theorem pmayClo.ret (s : Str) (b c : List Str) (hb : b.length ≤ 1048576) (hc : c.length ≤ 1048576) : pmayClo.Ret [.str s, .rptr [.list none (strs b)], .rptr [.list none (strs c)]] (.val (.bool (decide (s ∈ b) || !decide (s ∈ c)))) [] := by
  refine pmayClo.ir.of rfl ?_
  repeat' first
    | (conv => whnf
       first | refine Need.mk (fun h => h) ?_ | refine FinVal.keep ?_ | refine Final.mk rfl rfl | refine ACall.scalA _ _ (slContains.ret _ _ ?_) rfl ?_ | refine AGCall.mkA _ _ (fun hg => slContains.ret _ _ ?_) rfl ?_)
  · exact hb
  · exact hc
theorem pusesClo.ret (a : VAction) (b : List Str) (h : tAction.size a ≤ 1048576) (hb : b.length ≤ 1048576) : pusesClo.Ret [.agg (oldL (tAction.q a)), .rptr [.list none (strs b)]] (.val (.bool ((avC a).all fun v => decide (v ∈ b)))) [] := by
  refine pusesClo.ir.of rfl ?_
  have hp := tAction_pat a
  have hvl := avC_len a
  have hvo := pVarsOf.own a.2 (by omega)
  have hok := ok_strT (avC a)
  rw [show insAll blt (vs a.2.2) = avC a from rfl] at hvo
  have ha := pareAmong.ret (avC a) b (by omega) hb
  repeat' first
    | (conv => whnf
       first | refine nb_ ?_ | refine FinVal.keep ?_ | refine Final.mk rfl rfl | refine ACall.oldA _ _ (hvo) ?_ | refine ACall.scalC _ _ (ha) rfl ?_)
def mayF (l : List VCond) (m : List VAction) (i : Nat) (x : VCond) : Bool :=
  if x.1 = 1 then true else if x.1 = 2 then (cvC x).all (fun v => decide (v ∈ bvF l i) || !decide (v ∈ rvF (l.take i ++ l.drop (i + 1)) m)) else (cvC x).all (fun v => decide (v ∈ bvF l i))
theorem may_ok {l : List VCond} {m : List VAction} {i : Nat} {x : VCond} (h : isCondF x = true) : mayF l m i x = (cvC x).all (okV l m i x) := by
  unfold mayF
  by_cases h1 : x.1 = 1
  · rw [if_pos h1]
    refine (List.all_eq_true.2 fun v _ => ?_).symm
    have : isTestF x = false := by simp [isTestF, testKind, h1]
    simp [okV, this, h1]
  rw [if_neg h1]
  by_cases h2 : x.1 = 2
  · rw [if_pos h2]
    congr 1
    funext v
    have : isTestF x = false := by simp [isTestF, testKind, h2]
    have e : decide (v ∈ rvF (l.take i ++ l.drop (i + 1)) m) = elseF l m i v := decide_eq_decide.2 mem_insB
    simp [okV, this, h2, e]
  rw [if_neg h2]
  congr 1
  funext v
  have hk : hasKind x.1 = false := by simp [hasKind, h1, h2]
  have : isTestF x = true := by rwa [isCondF, if_neg (by simp [hk])] at h
  simp [okV, this, h2]
end Go.Proofs.YtoindmahilbalaaGreat
namespace Go.Proofs.YtoindmahilbalaaGreat
open Abs
set_option maxHeartbeats 40000000 in
theorem pmay1.ret (r : VRule) (i : Nat) (h : tRule.size r ≤ 1048576) (hi : i < r.2.2.1.length) (h1 : (r.2.2.1.getD i default).1 = 1) : pmayStandAt.Ret [.agg (oldL (tRule.q r)), .val (.int .i64 i)] (.val (.bool (mayF r.2.2.1 r.2.2.2 i (r.2.2.1.getD i default)))) [] := by
  refine pmayStandAt.ir.ofS rfl rfl ?_
  have hrs := h
  rw [tRule_sz] at h
  have hc := cond_le hi
  have hvl := cvC_len (r.2.2.1.getD i default)
  have hvo := pCondVars.own (r.2.2.1.getD i default) (by omega)
  have hok := ok_strT (cvC (r.2.2.1.getD i default))
  rw [show insAll blt (vs (cvF (r.2.2.1.getD i default))) = cvC (r.2.2.1.getD i default) from rfl] at hvo
  have hbi := pBoundVars.own r i hrs
  rw [Int.toNat_natCast] at hbi
  have hbik := ok_strT (bvF r.2.2.1 i)
  have hbil := bvF_len r.2.2.1 i
  have hb1 : ((r.2.2.1.getD (i : Int).toNat default).1 == 1) = true := by rw [Int.toNat_natCast, beq_iff_eq]; exact h1
  rw [mayF, if_pos h1]
  repeat' first
    | exact trivial
    | (conv => whnf
       first | refine Need.mk rfl ?_ | refine Need.mk ⟨rfl, Nat.le_of_ble_eq_true rfl⟩ ?_ | refine nb_ ?_ | refine Ix.mapN (fun _ => rfl) ?_ | refine Fork.yes (by assumption) ?_ | refine HAlt.mk ?_ ?_ | refine HJoin.split ?_ | refine FinVal.keep ?_ | refine Final.mk rfl rfl | refine ACall.oldA _ _ (hbi) ?_)
end Go.Proofs.YtoindmahilbalaaGreat
namespace Go.Proofs.YtoindmahilbalaaGreat
open Abs
theorem one_out {α : Type} (T : Ty α) (l : List α) (i : Nat) : listSize T (l.take i ++ l.drop (i + 1)) ≤ listSize T l ∧ (l.take i ++ l.drop (i + 1)).length ≤ l.length := by
  refine ⟨?_, by rw [List.length_append, List.length_take, List.length_drop]; omega⟩
  have hd : ∀ (l : List α) (n : Nat), listSize T (l.drop n) ≤ listSize T l := by
    intro l
    induction l with
    | nil => intro n; simp [listSize]
    | cons a l ih =>
      intro n
      cases n with
      | zero => simp
      | succ n => have := ih n; simp only [List.drop_succ_cons, listSize]; omega
  induction l generalizing i with
  | nil => simp [listSize]
  | cons a l ih =>
    cases i with
    | zero => have := hd l 0; simp only [List.take_zero, List.nil_append, List.drop_succ_cons, listSize]; simp only [List.drop_zero] at *; omega
    | succ i => have := ih i; simp only [List.take_succ_cons, List.cons_append, List.drop_succ_cons, listSize]; omega
set_option maxHeartbeats 40000000 in
theorem pmay2.ret (r : VRule) (i : Nat) (h : tRule.size r ≤ 1048576) (hi : i < r.2.2.1.length) (h1 : (r.2.2.1.getD i default).1 ≠ 1) (h2 : (r.2.2.1.getD i default).1 = 2) : pmayStandAt.Ret [.agg (oldL (tRule.q r)), .val (.int .i64 i)] (.val (.bool (mayF r.2.2.1 r.2.2.2 i (r.2.2.1.getD i default)))) [] := by
  refine pmayStandAt.ir.ofS rfl rfl ?_
  have hrs := h
  rw [tRule_sz] at h
  have hc := cond_le hi
  have hvl := cvC_len (r.2.2.1.getD i default)
  have hvo := pCondVars.own (r.2.2.1.getD i default) (by omega)
  have hok := ok_strT (cvC (r.2.2.1.getD i default))
  rw [show insAll blt (vs (cvF (r.2.2.1.getD i default))) = cvC (r.2.2.1.getD i default) from rfl] at hvo
  have hbi := pBoundVars.own r i hrs
  rw [Int.toNat_natCast] at hbi
  have hbik := ok_strT (bvF r.2.2.1 i)
  have hbil := bvF_len r.2.2.1 i
  have hb1 : ((r.2.2.1.getD (i : Int).toNat default).1 == 1) = false := by rw [Int.toNat_natCast, beq_eq_false_iff_ne]; exact h1
  have hb2 : ((r.2.2.1.getD (i : Int).toNat default).1 == 2) = true := by rw [Int.toNat_natCast, beq_iff_eq]; exact h2
  have hw : IntKind.i64.wrap ((i : Int) + 1) = ((i + 1 : Nat) : Int) := by rw [wrap64 (by omega) (by omega)]; rfl
  have hB : (r.2.2.1.take ((oldLL (r.2.2.1.map tCond.q)).length : Int).toNat).drop (IntKind.i64.wrap ((i : Int) + 1)).toNat = r.2.2.1.drop (i + 1) := by
    rw [hw, length_oldLL, List.length_map, Int.toNat_natCast, Int.toNat_natCast, List.take_length]
  have hcat : slConcatC.Ret [.list none [[.list none (rows tCond (r.2.2.1.take i))], [.list none (rows tCond ((r.2.2.1.take ((oldLL (r.2.2.1.map tCond.q)).length : Int).toNat).drop (IntKind.i64.wrap ((i : Int) + 1)).toNat))]]] (.list (some 0) (rows tCond (r.2.2.1.take i ++ r.2.2.1.drop (i + 1)))) [(116, 5, (r.2.2.1.take i ++ r.2.2.1.drop (i + 1)).length)] := by
    rw [hB]
    exact slConcatC2.ret _ _ (by rw [List.length_take, List.length_drop]; omega)
  have hrs' : tRule.size (([] : Str), (0 : Int), r.2.2.1.take i ++ r.2.2.1.drop (i + 1), r.2.2.2) ≤ 1048576 := by
    rw [tRule_sz]
    have := one_out tCond r.2.2.1 i
    simp only [List.length_nil]; omega
  have hrv := pRuleVars.own (([] : Str), (0 : Int), r.2.2.1.take i ++ r.2.2.1.drop (i + 1), r.2.2.2) hrs'
  have hrk := ok_strT (rvF (r.2.2.1.take i ++ r.2.2.1.drop (i + 1)) r.2.2.2)
  have hrl := rvF_len (([] : Str), (0 : Int), r.2.2.1.take i ++ r.2.2.1.drop (i + 1), r.2.2.2)
  rw [tRule_sz] at hrs'
  simp only at hrs' hrl hrv
  have ha := pallS.ret (fun v => decide (v ∈ bvF r.2.2.1 i) || !decide (v ∈ rvF (r.2.2.1.take i ++ r.2.2.1.drop (i + 1)) r.2.2.2)) _ _ (seesR2 _ _) (cvC (r.2.2.1.getD i default)) (fun x => pmayClo.ret x (bvF r.2.2.1 i) (rvF (r.2.2.1.take i ++ r.2.2.1.drop (i + 1)) r.2.2.2) (by omega) (by omega)) (by omega)
  rw [mayF, if_neg h1, if_pos h2]
  have hz1 : true = true → (0 : Int) ≤ ((0 : Nat) : Int) ∧ ((0 : Nat) : Int) ≤ (i : Int) ∧ (i : Int) ≤ (r.2.2.1.length : Int) := fun _ => ⟨by omega, by omega, by omega⟩
  have hz2 : true = true → 0 ≤ IntKind.i64.wrap ((i : Int) + 1) ∧ IntKind.i64.wrap ((i : Int) + 1) ≤ ((oldLL (r.2.2.1.map tCond.q)).length : Int) ∧ ((oldLL (r.2.2.1.map tCond.q)).length : Int) ≤ (r.2.2.1.length : Int) := fun _ => by
    rw [hw, length_oldLL, List.length_map]; omega
  clear hrl hrs' hB hw h hrs hc hvl hbil
  skip
  conv => whnf
  refine HJoin.split ?_
  repeat' first
    | exact trivial
    | (conv => whnf
       first | refine Need.mk rfl ?_ | refine Need.mk ⟨rfl, Nat.le_of_ble_eq_true rfl⟩ ?_ | refine nb_ ?_ | refine Ix.mapN (fun _ => rfl) ?_ | refine Fork.yes (by assumption) ?_ | refine Fork.no (by assumption) ?_ | refine HAlt.mk ?_ ?_ | refine ACall.oldA _ _ (hbi) ?_)
  all_goals
    repeat' first
      | exact trivial
      | (conv => whnf
         first | refine Need.mk rfl ?_ | refine Need.mk ⟨rfl, Nat.le_of_ble_eq_true rfl⟩ ?_ | refine nb_ ?_ | refine Need.mk ?_ ?_ | refine Cut.map (fun _ => rfl) ?_ ?_ | refine HAlt.mk ?_ ?_ | apply HJoin.mk3 | exact HEnd.mk rfl rfl rfl | refine FinVal.keep ?_ | refine Final.mk rfl rfl | refine ACall.oldA _ _ (hvo) ?_ | refine ACall.mkL2 _ _ _ _ (hcat) ?_ | refine ACall.oldA _ _ (hrv) ?_ | refine ACall.scalC _ _ (ha) rfl ?_)
  all_goals first
    | exact hz1
    | exact hz2
    | exact ⟨rfl, rfl⟩
end Go.Proofs.YtoindmahilbalaaGreat
namespace Go.Proofs.YtoindmahilbalaaGreat
open Abs
set_option maxHeartbeats 40000000 in
theorem pmay3.ret (r : VRule) (i : Nat) (h : tRule.size r ≤ 1048576) (hi : i < r.2.2.1.length) (h1 : (r.2.2.1.getD i default).1 ≠ 1) (h2 : (r.2.2.1.getD i default).1 ≠ 2) : pmayStandAt.Ret [.agg (oldL (tRule.q r)), .val (.int .i64 i)] (.val (.bool (mayF r.2.2.1 r.2.2.2 i (r.2.2.1.getD i default)))) [] := by
  refine pmayStandAt.ir.ofS rfl rfl ?_
  have hrs := h
  rw [tRule_sz] at h
  have hc := cond_le hi
  have hvl := cvC_len (r.2.2.1.getD i default)
  have hvo := pCondVars.own (r.2.2.1.getD i default) (by omega)
  have hok := ok_strT (cvC (r.2.2.1.getD i default))
  rw [show insAll blt (vs (cvF (r.2.2.1.getD i default))) = cvC (r.2.2.1.getD i default) from rfl] at hvo
  have hbi := pBoundVars.own r i hrs
  rw [Int.toNat_natCast] at hbi
  have hbik := ok_strT (bvF r.2.2.1 i)
  have hbil := bvF_len r.2.2.1 i
  have hb1 : ((r.2.2.1.getD (i : Int).toNat default).1 == 1) = false := by rw [Int.toNat_natCast, beq_eq_false_iff_ne]; exact h1
  have hb2 : ((r.2.2.1.getD (i : Int).toNat default).1 == 2) = false := by rw [Int.toNat_natCast, beq_eq_false_iff_ne]; exact h2
  have ha := pareAmong.ret (cvC (r.2.2.1.getD i default)) (bvF r.2.2.1 i) (by omega) (by omega)
  rw [mayF, if_neg h1, if_neg h2]
  repeat' first
    | exact trivial
    | (conv => whnf
       first | refine Need.mk rfl ?_ | refine Need.mk ⟨rfl, Nat.le_of_ble_eq_true rfl⟩ ?_ | refine nb_ ?_ | refine Ix.mapN (fun _ => rfl) ?_ | refine Fork.no (by assumption) ?_ | refine HAlt.mk ?_ ?_ | refine HJoin.split ?_ | refine FinVal.keep ?_ | refine Final.mk rfl rfl | refine ACall.oldA _ _ (hbi) ?_ | refine ACall.oldA _ _ (hvo) ?_ | refine ACall.scalC _ _ (ha) rfl ?_)
end Go.Proofs.YtoindmahilbalaaGreat
namespace Go.Proofs.YtoindmahilbalaaGreat
open Abs
theorem pmayStandAt.ret (r : VRule) (i : Nat) (h : tRule.size r ≤ 1048576) (hi : i < r.2.2.1.length) : pmayStandAt.Ret [.agg (oldL (tRule.q r)), .val (.int .i64 i)] (.val (.bool (mayF r.2.2.1 r.2.2.2 i (r.2.2.1.getD i default)))) [] := by
  by_cases h1 : (r.2.2.1.getD i default).1 = 1
  · exact pmay1.ret r i h hi h1
  by_cases h2 : (r.2.2.1.getD i default).1 = 2
  · exact pmay2.ret r i h hi h1 h2
  exact pmay3.ret r i h hi h1 h2
def condsF (l : List VCond) : Bool := decide (1 ≤ (l.length : Int)) && decide ((l.length : Int) ≤ 4) && ((l.getD 0 default).1 == 1) && l.all isCondF
def actsF (m : List VAction) : Bool := decide (1 ≤ (m.length : Int)) && decide ((m.length : Int) ≤ 2) && m.all isActF
theorem pareConds.ret (l : List VCond) (h : tConds.size l ≤ 1048576) : pareConds.Ret [.list none (rows tCond l)] (.val (.bool (condsF l))) [] := by
  refine pareConds.ir.of rfl ?_
  have ha := pallC.ret isCondF _ l (fun x hx => pIsCond.ret x hx) h
  repeat' first
    | (conv => whnf
       first | refine Need.mk (fun h => h) ?_ | refine Need.mk rfl ?_ | refine Ix.mapN (fun _ => rfl) ?_ | refine FinVal.keep ?_ | refine Final.mk ?_ rfl | refine AGCall.mkA _ _ (fun hg => ha) rfl ?_)
    | refine AV.bool_congr ?_
  rw [length_rows]; rfl
theorem pareActions.ret (m : List VAction) (h : tActions.size m ≤ 1048576) : pareActions.Ret [.list none (rows tAction m)] (.val (.bool (actsF m))) [] := by
  refine pareActions.ir.of rfl ?_
  have ha := pallA0.ret isActF _ m (fun x hx => pIsAction.ret x hx) h
  repeat' first
    | (conv => whnf
       first | refine Need.mk (fun h => h) ?_ | refine Need.mk rfl ?_ | refine FinVal.keep ?_ | refine Final.mk ?_ rfl | refine AGCall.mkA _ _ (fun hg => ha) rfl ?_)
    | refine AV.bool_congr ?_
  rw [length_rows]; rfl
def usesF (l : List VCond) (m : List VAction) : Bool := ((List.range l.length).all fun i => mayF l m i (l.getD i default)) && m.all fun a => (avC a).all fun v => decide (v ∈ bvF l l.length)
theorem pusesOnlyBound.ret (r : VRule) (h : tRule.size r ≤ 1048576) : pusesOnlyBound.Ret [.agg (oldL (tRule.q r))] (.val (.bool (usesF r.2.2.1 r.2.2.2))) [] := by
  refine pusesOnlyBound.ir.ofS rfl rfl ?_
  have hrs := h
  have hz := tRule_size r
  have hta : tActions.size r.2.2.2 ≤ 1048576 := by omega
  rw [tRule_sz] at h
  have hbk := ok_strT (bvF r.2.2.1 r.2.2.1.length)
  have hbl := bvF_len r.2.2.1 r.2.2.1.length
  have hbx : pBoundVars.Own [.agg (oldL (tRule.q r)), .val (.int .i64 (oldLL (r.2.2.1.map tCond.q)).length)] (strT (bvF r.2.2.1 r.2.2.1.length)) := by
    rw [length_oldLL, List.length_map]
    have := pBoundVars.own r r.2.2.1.length hrs
    rwa [Int.toNat_natCast] at this
  have ha := pallA1.ret (fun a => (avC a).all fun v => decide (v ∈ bvF r.2.2.1 r.2.2.1.length)) _ (bvF r.2.2.1 r.2.2.1.length) r.2.2.2 (fun x hx => pusesClo.ret x _ hx (by omega)) hta
  skip
  refine ALoop.mk Nat (fun i => ⟨[(1, .bptr 0 0), (7, .val (.int .i64 r.2.2.1.length)), (8, .val (.int .i64 i))], [.cells .var (oldL (tRule.q r))], []⟩) (fun i => i ≤ r.2.2.1.length ∧ ∀ j, j < i → mayF r.2.2.1 r.2.2.2 j (r.2.2.1.getD j default) = true) (fun i => r.2.2.1.length - i) ⟨0, ⟨Nat.zero_le _, fun j hj => by omega⟩, ?_⟩ (fun i hi => ?_)
  · repeat' first
      | exact trivial | refine wl_ ?_ ?_ ?_ ?_ | refine And.intro ?_ ?_ | with_reducible rfl | exact ble_ | refine AV.int_congr ?_ | (apply rfl)
    simp
  by_cases hi' : i < r.2.2.1.length
  · have hm := pmayStandAt.ret r i hrs hi'
    repeat' first
      | (conv => whnf
         first | refine Need.mk rfl ?_ | refine nb_ ?_ | refine Fork.decY ?_ | refine Fork.neg (fun _ => ?_) (fun _ => ?_) | refine Round.mk ?_ | refine FinVal.keep ?_ | refine Final.mk ?_ rfl | refine ACall.scalC _ _ (hm) rfl ?_)
      | refine AV.bool_congr ?_
    · rename_i h1
      have : ((List.range r.2.2.1.length).all fun i => mayF r.2.2.1 r.2.2.2 i (r.2.2.1.getD i default)) = false := by
        rw [List.all_eq_false]
        exact ⟨i, List.mem_range.2 hi', by rw [h1]; simp⟩
      rw [usesF, this, Bool.false_and]
    · rename_i h1
      refine ⟨i + 1, ⟨by omega, fun j hj => ?_⟩, ?_, by omega⟩
      · rcases Nat.lt_or_eq_of_le (Nat.le_of_lt_succ hj) with h5 | h5
        · exact hi.2 j h5
        · subst h5; exact h1
      · repeat' first
          | exact trivial | refine wl_ ?_ ?_ ?_ ?_ | refine And.intro ?_ ?_ | with_reducible rfl | exact ble_ | refine AV.int_congr ?_ | (apply rfl)
        rw [wrap64 (by omega) (by omega)]; rfl
  have hall : ((List.range r.2.2.1.length).all fun i => mayF r.2.2.1 r.2.2.2 i (r.2.2.1.getD i default)) = true := List.all_eq_true.2 fun j hj => hi.2 j (by have := List.mem_range.1 hj; omega)
  repeat' first
    | (conv => whnf
       first | refine Need.mk rfl ?_ | refine Need.mk ⟨rfl, Nat.le_of_ble_eq_true rfl⟩ ?_ | refine nb_ ?_ | refine Need.mk ?_ ?_ | refine Fork.decN ?_ | refine FinVal.keep ?_ | refine Final.mk ?_ rfl | refine ACall.oldA _ _ (hbx) ?_ | refine ACall.scalC _ _ (ha) rfl ?_)
    | refine AV.bool_congr ?_
  · exact ⟨rfl, rfl⟩
  · rw [usesF, hall, Bool.true_and]
theorem getD_in {α : Type} [Inhabited α] {l : List α} {a : α} (h : a ∈ l) : ∃ i, i < l.length ∧ l.getD i default = a := by
  obtain ⟨i, hi⟩ := List.getElem?_of_mem h
  exact ⟨i, getElem?_lt hi, by rw [List.getD_eq_getElem?_getD, hi]; rfl⟩
theorem rule_prog (r : VRule) : (nameF r.1 && decide (0 ≤ r.2.1) && decide (r.2.1 ≤ 9) && condsF r.2.2.1 && actsF r.2.2.2 && usesF r.2.2.1 r.2.2.2 && decide (((cvsF r.2.2.1).length : Int) ≤ 6)) = isRuleF r := by
  have hl : decide (((cvsF r.2.2.1).length : Int) ≤ 6) = decide ((cvsF r.2.2.1).length ≤ 6) := decide_eq_decide.2 (by omega)
  rw [hl, Bool.eq_iff_iff, isRuleF]
  simp only [Bool.and_eq_true, condsF, actsF, usesF, decide_eq_true_eq]
  constructor
  · rintro ⟨⟨⟨⟨⟨⟨h1, h2⟩, h3⟩, ⟨⟨h4, h5⟩, h6⟩, h7⟩, ⟨h8, h9⟩, h10⟩, h11, h12⟩, h13⟩
    refine ⟨⟨⟨⟨⟨⟨⟨⟨⟨h1, h2⟩, h3⟩, by omega⟩, by omega⟩, by omega⟩, by omega⟩, List.all_eq_true.2 fun i hi => ?_⟩, List.all_eq_true.2 fun a ha => ?_⟩, h13⟩
    · have hi' := List.mem_range.1 hi
      have hc := List.all_eq_true.1 h7 _ (getD_mem hi')
      have hm := List.all_eq_true.1 h11 i hi
      rw [may_ok hc] at hm
      rw [okC, hc, hm]
      cases i with
      | zero => rw [h6]; rfl
      | succ i => rfl
    · rw [okA, List.all_eq_true.1 h10 a ha, List.all_eq_true.1 h12 a ha]; rfl
  · rintro ⟨⟨⟨⟨⟨⟨⟨⟨⟨h1, h2⟩, h3⟩, h4⟩, h5⟩, h8⟩, h9⟩, hC⟩, hA⟩, h13⟩
    have hc : ∀ i, i < r.2.2.1.length → isCondF (r.2.2.1.getD i default) = true ∧ (!(i == 0) || (r.2.2.1.getD i default).1 == 1) = true ∧ (cvC (r.2.2.1.getD i default)).all (okV r.2.2.1 r.2.2.2 i (r.2.2.1.getD i default)) = true := fun i hi => by
      have := List.all_eq_true.1 hC i (List.mem_range.2 hi)
      rw [okC, Bool.and_eq_true, Bool.and_eq_true] at this
      exact ⟨this.1.1, this.1.2, this.2⟩
    refine ⟨⟨⟨⟨⟨⟨h1, h2⟩, h3⟩, ⟨⟨by omega, by omega⟩, ?_⟩, List.all_eq_true.2 fun x hx => ?_⟩, ⟨by omega, by omega⟩, List.all_eq_true.2 fun a ha => ?_⟩, List.all_eq_true.2 fun i hi => ?_, List.all_eq_true.2 fun a ha => ?_⟩, h13⟩
    · have := (hc 0 (by omega)).2.1
      simpa using this
    · obtain ⟨i, hi, rfl⟩ := getD_in hx
      exact (hc i hi).1
    · have := List.all_eq_true.1 hA a ha
      rw [okA, Bool.and_eq_true] at this
      exact this.1
    · have hi' := List.mem_range.1 hi
      rw [may_ok (hc i hi').1]
      exact (hc i hi').2.2
    · have := List.all_eq_true.1 hA a ha
      rw [okA, Bool.and_eq_true] at this
      exact this.2
theorem pIsRule.ret (r : VRule) (h : tRule.size r ≤ 1048576) : pIsRule.Ret [.agg (oldL (tRule.q r))] (.val (.bool (isRuleF r))) [] := by
  refine pIsRule.ir.ofS rfl rfl ?_
  have hrs := h
  have hz := tRule_size r
  rw [tRule_sz] at h
  have hca := pareConds.ret r.2.2.1 (by omega)
  have haa := pareActions.ret r.2.2.2 (by omega)
  have hu := pusesOnlyBound.ret r hrs
  have hv := pvarsOfConds.own r.2.2.1 (by omega)
  have hvk := ok_strT (cvsF r.2.2.1)
  repeat' first
    | (conv => whnf
       first | refine Need.mk (fun h => h) ?_ | refine Need.mk rfl ?_ | refine nb_ ?_ | refine FinVal.keep ?_ | refine Final.mk ?_ rfl | refine ACall.scalA _ _ (pIsName.ret _ ?_) rfl ?_ | refine AGCall.mkA _ _ (fun hg => hca) rfl ?_ | refine AGCall.mkA _ _ (fun hg => haa) rfl ?_ | refine AGCall.scalC _ _ (fun hg => hu) rfl ?_ | refine AGCall.oldA _ _ (fun hg => hv) ?_)
    | refine AV.bool_congr ?_
  · omega
  · rw [length_oldLL, List.length_map]; exact rule_prog r
end Go.Proofs.YtoindmahilbalaaGreat
namespace Go.Proofs.YtoindmahilbalaaGreat
open Abs
def tokOk (r : VRule) (n : Int) (l : List Fct) : Bool := isRuleF r && areF l && decide (0 ≤ n) && decide (n ≤ (r.2.2.1.length : Int))
def tokensF (r : VRule) (n : Int) (l : List Fct) : List VToken := if tokOk r n l then toksF l (r.2.2.1.take n.toNat) else []
theorem rule_conds {r : VRule} (h : isRuleF r = true) : r.2.2.1.length ≤ 4 := by
  unfold isRuleF at h
  simp only [Bool.and_eq_true, decide_eq_true_eq] at h
  exact h.1.1.1.1.1.2
theorem empty_own (F : Fr) : ∃ us, OwnA [(90, 2, 0)] [tokT []] [.list (some 0) []] us ∧ us.Nodup := (AccO.nil (T := tToken) (t := 90) (k := 0) (F := [(90, 2, 0)]) rfl).final
theorem toks_own (ts : List VToken) : ∃ us, OwnA (tTokens.fr ts) [tokT ts] [.list (some (0 + (frs tToken ts).length)) (tks tToken ts 0)] us ∧ us.Nodup := by
  obtain ⟨us, h1, h2, _⟩ := tTokens.tkOwn ts (n := 0) (F := tTokens.fr ts) (fun i x hi => by rw [Nat.zero_add]; exact hi)
  exact ⟨us, h1, h2⟩
theorem tokOk_s (r : VRule) (n : Int) (l : List Fct) : (!isRuleF r || !areF l || !(decide (0 ≤ n) && decide (n ≤ ((oldLL (r.2.2.1.map tCond.q)).length : Int)))) = !tokOk r n l := by
  rw [length_oldLL, List.length_map, tokOk]
  cases isRuleF r <;> cases areF l <;> cases decide (0 ≤ n) <;> cases decide (n ≤ (r.2.2.1.length : Int)) <;> rfl
structure TokIn (r : VRule) (n : Int) (l : List Fct) : Prop where
  rule : isRuleF r = true
  facts : areF l = true
  lo : 0 ≤ n
  hi : n ≤ (r.2.2.1.length : Int)
theorem tokOk_in {r : VRule} {n : Int} {l : List Fct} (h : tokOk r n l = true) : TokIn r n l := by
  simp only [tokOk, Bool.and_eq_true, decide_eq_true_eq] at h
  exact ⟨h.1.1.1, h.1.1.2, h.1.2, h.2⟩
theorem tokens_no {r : VRule} {n : Int} {l : List Fct} (h : tokOk r n l = false) : tokensF r n l = [] := by rw [tokensF, h]; rfl
theorem tokens_yes {r : VRule} {n : Int} {l : List Fct} (h : tokOk r n l = true) : tokensF r n l = toksF l (r.2.2.1.take n.toNat) := by rw [tokensF, if_pos h]
theorem rule_sz (r : VRule) : tConds.size r.2.2.1 ≤ tRule.size r := by rw [tRule_sz, tConds_sz]; omega
theorem sTokensOf.own (r : VRule) (n : Int) (l : List Fct) (hr : tRule.size r ≤ 1048576) (h : tFcts.size l ≤ 1048576) : sTokensOf.Own [.agg (oldL (tRule.q r)), .val (.int .i64 n), .list none (facts l)] (tokT (tokensF r n l)) := by
  refine Own.of_irP (code := sTokensOf.code) (rs := sTokensOf.res) (K := sTokensOf.keep) Tryz.func11 rfl (by kernel_rfl) (Nat.le_of_ble_eq_true rfl) (by kernel_rfl) (by kernel_rfl) ?_
  have hrr := sIsRule.ret r hr
  have hra := sAreFacts.ret l h
  have hok := tokOk_s r n l
  have hz := rule_sz r
  cases ho : tokOk r n l with
  | false =>
    rw [ho] at hok
    rw [tokens_no ho]
    repeat' first
      | (conv => whnf
         first | refine Need.mk (fun h => h) ?_ | refine Need.mk rfl ?_ | refine nb_ ?_ | refine Fork.yes (by assumption) ?_ | refine ACall.scalC _ _ (hrr) rfl ?_ | refine AGCall.mkA _ _ (fun hg => hra) rfl ?_ | refine AGCall.mkA _ _ (fun hg => l1In.ret _ _ _) rfl ?_)
    skip
    exact empty_own []
  | true =>
    rw [ho] at hok
    obtain ⟨i1, i2, i3, i4⟩ := tokOk_in ho
    have hc4 := rule_conds i1
    rw [tokens_yes ho]
    have hret := tTokens_canon.ret rfl rfl (sTokens.own (r.2.2.1.take n.toNat) l (Nat.le_trans (tConds_take _ _) (by omega)) (by rw [List.length_take]; omega) h (areF_fact i2) (areF_len i2))
    repeat' first
      | (conv => whnf
         first | refine Need.mk (fun h => h) ?_ | refine nb_ ?_ | refine Cut.map (fun _ => rfl) ?_ ?_ | refine Fork.no (by assumption) ?_ | refine ACall.scalC _ _ (hrr) rfl ?_ | refine AGCall.mkA _ _ (fun hg => hra) rfl ?_ | refine AGCall.mkA _ _ (fun hg => l1In.ret _ _ _) rfl ?_)
    · intro _; omega
    conv => whnf
    refine ACall.mk_TokenS _ _ hret (SeesL.cons ?_ (SeesL.cons ?_ SeesL.nil)) ?_
    · exact @Sees0.olds _ _
    · exact @Sees0.olds _ _
    skip
    exact toks_own _
end Go.Proofs.YtoindmahilbalaaGreat
namespace Go.Proofs.YtoindmahilbalaaGreat
open Abs
theorem mget {ms : List VMatch} {i : Nat} (hi : i < ms.length) : ms.getD i default ∈ ms := by
  rw [List.getD_eq_getElem?_getD, List.getElem?_eq_getElem hi]; exact List.getElem_mem hi
def cntOk (r : VRule) (l : List Fct) : Bool := isRuleF r && areF l
def countsF (r : VRule) (l : List Fct) : List Int := if cntOk r l then (List.range (r.2.2.1.length + 1)).map fun k => ((toksF l (r.2.2.1.take k)).length : Int) else []
theorem counts_at {r : VRule} {l : List Fct} (h : cntOk r l = true) {k : Nat} (hk : k ≤ r.2.2.1.length) : tokensF r (k : Int) l = toksF l (r.2.2.1.take k) := by
  rw [cntOk, Bool.and_eq_true] at h
  have : tokOk r (k : Int) l = true := by
    simp only [tokOk, Bool.and_eq_true, decide_eq_true_eq]
    exact ⟨⟨⟨h.1, h.2⟩, by omega⟩, by omega⟩
  rw [tokens_yes this, Int.toNat_natCast]
theorem tokens_le (r : VRule) (n : Int) (l : List Fct) : (tokensF r n l).length ≤ 331776 := by
  rw [tokensF]
  split
  · rename_i ho
    obtain ⟨i1, i2, _, _⟩ := tokOk_in ho
    exact toksF_len4 (areF_len i2) (rule_conds i1) _
  · exact Nat.zero_le _
theorem ok_tok (ts : List VToken) : okT (tokT ts) = true := ok_list tToken _ _
theorem cnt_snoc (f : Nat → Int) (i : Nat) : rows Ty.int ((List.range i).map f) ++ [[.val (.int .i64 (f i))]] = rows Ty.int ((List.range (i + 1)).map f) := by
  rw [List.range_succ, List.map_append]; exact rows_snoc Ty.int _ (f i)
theorem cond_len (r : VRule) : ((oldLL (r.2.2.1.map tCond.q)).length : Int) = (r.2.2.1.length : Int) := by rw [length_oldLL, List.length_map]
theorem sTokenCounts.own (r : VRule) (l : List Fct) (hr : tRule.size r ≤ 1048576) (h : tFcts.size l ≤ 1048576) : sTokenCounts.Own [.agg (oldL (tRule.q r)), .list none (facts l)] (.l 3 1 ((countsF r l).map Ty.int.q)) := by
  refine plain_own Ty.int (fun _ => rfl) (fun _ => rfl) 3 0 (l := countsF r l) (F := [(3, 1, (countsF r l).length)]) rfl ?_
  refine sTokenCounts.ir.of rfl ?_
  have hrr := sIsRule.ret r hr
  have hra := sAreFacts.ret l h
  have hcl := cond_len r
  have hzl : r.2.2.1.length ≤ 1048576 := by rw [tRule_sz] at hr; omega
  cases hok : cntOk r l with
  | false =>
    rw [countsF, hok, if_neg (by simp)]
    repeat' first
      | (conv => whnf
         first | refine Need.mk rfl ?_)
    refine ALoop.mk Unit (fun _ => ⟨[(1, .list none (facts l)), (2, .bptr 0 0), (5, .list (some 0) []), (6, .val (.int .i64 0))], [.cells .var (oldL (tRule.q r))], [(3, 1, 0)]⟩) (fun _ => True) (fun _ => 0) ⟨(), trivial, ?_⟩ (fun i hi => ?_)
    · repeat' first
        | exact trivial | refine wl_ ?_ ?_ ?_ ?_ | refine And.intro ?_ ?_ | with_reducible rfl | exact ble_ | refine fr1 ?_ | refine AV.int_congr ?_ | refine AV.list_congr ?_ | (apply rfl)
    repeat' first
      | (conv => whnf
         first | refine Need.mk (fun h => h) ?_ | refine Need.mk rfl ?_ | refine nb_ ?_ | refine Fork.no (by assumption) ?_ | refine Final.mk rfl rfl | refine AGCall.scalC _ _ (fun hg => hrr) rfl ?_ | refine AGCall.mkA _ _ (fun hg => hra) rfl ?_)
  | true =>
    rw [countsF, hok, if_pos rfl]
    have hcc := hok
    rw [cntOk, Bool.and_eq_true] at hcc
    rw [hcc.1] at hrr
    rw [hcc.2] at hra
    have hc4 := rule_conds hcc.1
    generalize hf : (fun k => ((toksF l (r.2.2.1.take k)).length : Int)) = f
    repeat' first
      | (conv => whnf
         first | refine Need.mk rfl ?_)
    refine ALoop.mk Nat (fun i => ⟨[(1, .list none (facts l)), (2, .bptr 0 0), (5, .list (some 0) (rows Ty.int ((List.range i).map f))), (6, .val (.int .i64 i))], [.cells .var (oldL (tRule.q r))], [(3, 1, i)]⟩) (fun i => i ≤ r.2.2.1.length + 1) (fun i => r.2.2.1.length + 1 - i) ⟨0, Nat.zero_le _, ?_⟩ (fun i hi => ?_)
    · repeat' first
        | exact trivial | refine wl_ ?_ ?_ ?_ ?_ | refine And.intro ?_ ?_ | with_reducible rfl | exact ble_ | refine fr1 ?_ | refine AV.int_congr ?_ | refine AV.list_congr ?_ | (apply rfl)
    by_cases hi' : i ≤ r.2.2.1.length
    rotate_left
    · have e : i = r.2.2.1.length + 1 := by omega
      subst e
      repeat' first
        | (conv => whnf
           first | refine Need.mk (fun h => h) ?_ | refine Need.mk rfl ?_ | refine nb_ ?_ | refine Fork.mk (fun _ => ?_) (fun _ => ?_) | refine Final.mk ?_ ?_ | refine AGCall.scalC _ _ (fun hg => hrr) rfl ?_ | refine AGCall.mkA _ _ (fun hg => hra) rfl ?_)
        | refine AV.list_congr ?_ | with_reducible rfl | refine fr1 ?_
      · rename_i hc; exfalso; simp [hcl] at hc; try omega
      all_goals simp
    have hok2 := ok_tok (tokensF r (i : Int) l)
    have hto := sTokensOf.own r (i : Int) l hr h
    have hle := tokens_le r (i : Int) l
    have hfi : ((tokensF r (i : Int) l).length : Int) = f i := by rw [counts_at hok hi', ← hf]
    have hri : (rows Ty.int ((List.range i).map f)).length = i := by rw [length_rows, List.length_map, List.length_range]
    have hol : ((oldLL ((tokensF r (i : Int) l).map tToken.q)).length : Int) = f i := by rw [length_oldLL, List.length_map]; exact hfi
    repeat' first
      | (conv => whnf
         first | refine Need.mk (fun h => h) ?_ | refine Need.mk rfl ?_ | refine nb_ ?_ | refine Need.finN ?_ | refine Need.mk ?_ ?_ | refine Fork.mk (fun _ => ?_) (fun _ => ?_) | refine Round.mk ?_ | refine Lit.read rfl ?_ | refine Final.mk ?_ ?_ | refine AGCall.scalC _ _ (fun hg => hrr) rfl ?_ | refine AGCall.mkA _ _ (fun hg => hra) rfl ?_ | refine ACall.oldA _ _ (hto) ?_)
      | refine AV.list_congr ?_ | refine fr1 ?_
    · intro c hc; rw [List.mem_singleton.1 hc]; rfl
    · rw [hri, List.length_singleton]; omega
    · refine ⟨i + 1, by omega, ?_, by omega⟩
      repeat' first
        | exact trivial | refine wl_ ?_ ?_ ?_ ?_ | refine And.intro ?_ ?_ | with_reducible rfl | exact ble_ | refine fr1 ?_ | refine AV.int_congr ?_ | refine AV.list_congr ?_ | (apply rfl)
      · rw [hol]; exact cnt_snoc f i
      · rw [wrap64 (by omega) (by omega)]; rfl
      · rw [hri]; rfl
    all_goals (rename_i hc; exfalso; simp [hcl] at hc; try omega)
end Go.Proofs.YtoindmahilbalaaGreat
namespace Go.Proofs.YtoindmahilbalaaGreat
open Abs
theorem pTokenCounts.own (r : VRule) (l : List Fct) (hr : tRule.size r ≤ 1048576) (h : tFcts.size l ≤ 1048576) : pTokenCounts.OwnN [.agg (oldL (tRule.q r)), .list none (facts l)] (.l 3 1 ((countsF r l).map Ty.int.q)) := by
  refine plain_own Ty.int (fun _ => rfl) (fun _ => rfl) 3 0 (l := countsF r l) (F := [(3, 1, (countsF r l).length)]) rfl ?_
  refine pTokenCounts.ir.of rfl ?_
  have hrr := pIsRule.ret r hr
  have hra := pAreFacts.ret l h
  have hcl := cond_len r
  have hz := rule_sz r
  cases hok : cntOk r l with
  | false =>
    rw [countsF, hok, if_neg (by simp)]
    have hb : (!isRuleF r || !areF l) = true := by
      rw [cntOk] at hok
      cases h1 : isRuleF r with
      | false => rfl
      | true => rw [h1, Bool.true_and] at hok; rw [hok]; rfl
    repeat' first
      | (conv => whnf
         first | refine Need.mk (fun h => h) ?_ | refine Need.mk rfl ?_ | refine nb_ ?_ | refine Fork.yes (by assumption) ?_ | refine Final.mk rfl rfl | refine ACall.scalC _ _ (Ret.weak (hrr)) rfl ?_ | refine AGCall.mkA _ _ (fun hg => Ret.weak (hra)) rfl ?_)
  | true =>
    rw [countsF, hok, if_pos rfl]
    have hcc := hok
    rw [cntOk, Bool.and_eq_true] at hcc
    rw [hcc.1] at hrr
    rw [hcc.2] at hra
    have hc4 := rule_conds hcc.1
    have hw : IntKind.i64.wrap (((oldLL (r.2.2.1.map tCond.q)).length : Int) + 1) = ((r.2.2.1.length + 1 : Nat) : Int) := by rw [hcl]; exact wrap64 (by omega) (by omega)
    generalize hf : (fun k => ((toksF l (r.2.2.1.take k)).length : Int)) = f
    repeat' first
      | contradiction
      | (conv => whnf
         first | refine Need.mk (fun h => h) ?_ | refine Need.mk rfl ?_ | refine nb_ ?_ | refine Fork.mk (fun _ => ?_) (fun _ => ?_) | refine ACall.scalC _ _ (Ret.weak (hrr)) rfl ?_ | refine AGCall.mkA _ _ (fun hg => Ret.weak (hra)) rfl ?_)
    refine ALoop.mk Nat (fun i => ⟨[(1, .list none (facts l)), (2, .bptr 0 0), (5, .list (some 0) (rows Ty.int ((List.range i).map f))), (20, .val (.int .i64 ((r.2.2.1.length + 1 : Nat) : Int))), (21, .val (.int .i64 i))], [.cells .var (oldL (tRule.q r))], [(3, 1, i)]⟩) (fun i => i ≤ r.2.2.1.length + 1) (fun i => r.2.2.1.length + 1 - i) ⟨0, Nat.zero_le _, ?_⟩ (fun i hi => ?_)
    · repeat' first
        | exact trivial | refine wl_ ?_ ?_ ?_ ?_ | refine And.intro ?_ ?_ | with_reducible rfl | exact ble_ | refine fr1 ?_ | refine AV.int_congr ?_ | refine AV.list_congr ?_ | (apply rfl)
      exact hw
    have hri : (rows Ty.int ((List.range i).map f)).length = i := by rw [length_rows, List.length_map, List.length_range]
    by_cases hi' : i ≤ r.2.2.1.length
    rotate_left
    · have e : i = r.2.2.1.length + 1 := by omega
      subst e
      repeat' first
        | (conv => whnf
           first | refine Need.mk rfl ?_ | refine Fork.decN ?_ | refine Final.mk ?_ ?_)
        | refine AV.list_congr ?_ | with_reducible rfl | refine fr1 ?_
      all_goals simp
    have hok2 := ok_tok (toksF l (r.2.2.1.take i))
    have hto := ptokensOfConds.own l h (areF_fact hcc.2) (areF_len hcc.2) i (r.2.2.1.take i) (by rw [List.length_take]; omega) (by omega) (Nat.le_trans (tConds_take _ _) (by omega))
    have hle := toksF_len4 (areF_len hcc.2) hc4 i
    have hol : ((oldLL ((toksF l (r.2.2.1.take i)).map tToken.q)).length : Int) = f i := by rw [length_oldLL, List.length_map, ← hf]
    repeat' first
      | (conv => whnf
         first | refine Need.mk rfl ?_ | refine Cut.map (fun _ => rfl) ?_ ?_ | refine Fork.decY ?_)
    · intro _; omega
    conv => whnf
    refine ACall.old _ _ hto (SeesL.cons (SeesB.of0 ?_) (SeesL.cons (SeesB.of0 ?_) SeesL.nil)) hok2 ?_
    · exact @Sees0.olds _ _
    · exact @Sees0.olds _ _
    repeat' first
      | (conv => whnf
         first | refine Need.mk rfl ?_ | refine Need.finN ?_ | refine Need.mk ?_ ?_ | refine Round.mk ?_ | refine Lit.read rfl ?_)
    · intro c hc; rw [List.mem_singleton.1 hc]; rfl
    · rw [hri, List.length_singleton]; omega
    · refine ⟨i + 1, by omega, ?_, by omega⟩
      repeat' first
        | exact trivial | refine wl_ ?_ ?_ ?_ ?_ | refine And.intro ?_ ?_ | with_reducible rfl | exact ble_ | refine fr1 ?_ | refine AV.int_congr ?_ | refine AV.list_congr ?_ | (apply rfl)
      · rw [hol]; exact cnt_snoc f i
      · rw [wrap64 (by omega) (by omega)]; rfl
      · rw [hri]; rfl
theorem counts_le (r : VRule) (l : List Fct) : (countsF r l).length ≤ 5 := by
  rw [countsF]
  split
  · rename_i h
    rw [cntOk, Bool.and_eq_true] at h
    have := rule_conds h.1
    rw [List.length_map, List.length_range]; omega
  · exact Nat.zero_le _
end Go.Proofs.YtoindmahilbalaaGreat
namespace Go.Proofs.YtoindmahilbalaaGreat
open Abs
theorem lawExactTokenCounts.ret (a0 : VRule) (a1 : List Fct) (hb0 : tRule.bd a0) (hb1 : tFcts.bd a1) : lawExactTokenCounts.RetN [.agg (oldL (tRule.q a0)), .list none (rows tFct a1)] (.val (.bool true)) [] :=
  lawExactTokenCounts.of_own a0 a1 hb0 hb1 fun h => by
    have h1 := counts_le a0 a1
    have h2 : listSize Ty.int (countsF a0 a1) ≤ 5 := by
      have : ∀ c : List Int, listSize Ty.int c ≤ c.length := fun c => by
        induction c with
        | nil => exact Nat.le_refl _
        | cons x c ih => show Ty.int.size x + listSize Ty.int c ≤ c.length + 1; have : Ty.int.size x ≤ 1 := by (show _ ≤ 1); simp [Ty.int]
                         omega
      have := this (countsF a0 a1); omega
    have h3 := CnB.rows CnB.int (countsF a0 a1)
    exact ⟨countsF a0 a1, by rw [tInts_size]; omega, by show cnLL _ ≤ _; omega, sTokenCounts.own a0 a1 (by omega) (by omega), pTokenCounts.own a0 a1 (by omega) (by omega)⟩
end Go.Proofs.YtoindmahilbalaaGreat
namespace Go.Proofs.YtoindmahilbalaaGreat
def headSigns : List Nat := [104, 97, 114, 110, 101, 115, 115, 32, 98, 49, 54, 48, 102, 56, 100, 98, 102, 50, 49, 48, 48, 55, 56, 57, 48, 54, 98, 101, 101, 53, 97, 54, 100, 51, 99, 54, 50, 100, 52, 53, 101, 49, 102, 99, 99, 49, 56, 52, 50, 53, 50, 50, 100, 48, 98, 55, 98, 48, 48, 49, 49, 102, 50, 53, 54, 99, 48, 53, 99, 97, 50, 51, 32, 99, 117, 116, 32, 97, 116, 32, 108, 111, 111, 112, 46, 101, 120, 97, 109, 112, 108, 101, 47, 103, 48, 51, 48, 49, 53, 47, 108, 97, 119, 115, 46, 70, 110, 69, 120, 97, 99, 116, 84, 111, 107, 101, 110, 115, 79, 102, 32, 108, 111, 111, 112, 46, 101, 120, 97, 109, 112, 108, 101, 47, 103, 48, 51, 48, 49, 53, 47, 108, 97, 119, 115, 46, 70, 110, 69, 120, 97, 99, 116, 77, 97, 116, 99, 104, 101, 115, 79, 102, 32, 108, 111, 111, 112, 46, 101, 120, 97, 109, 112, 108, 101, 47, 103, 48, 51, 48, 49, 53, 47, 108, 97, 119, 115, 46, 70, 110, 69, 120, 97, 99, 116, 65, 108, 108, 77, 97, 116, 99, 104, 101, 115, 32, 108, 111, 111, 112, 46, 101, 120, 97, 109, 112, 108, 101, 47, 103, 48, 51, 48, 49, 53, 47, 108, 97, 119, 115, 46, 70, 110, 69, 120, 97, 99, 116, 73, 115, 77, 97, 116, 99, 104, 32, 108, 111, 111, 112, 46, 101, 120, 97, 109, 112, 108, 101, 47, 103, 48, 51, 48, 49, 53, 47, 108, 97, 119, 115, 46, 70, 110, 69, 120, 97, 99, 116, 68, 101, 101, 112, 101, 115, 116, 67, 111, 110, 100, 32, 108, 111, 111, 112, 46, 101, 120, 97, 109, 112, 108, 101, 47, 103, 48, 51, 48, 49, 53, 47, 108, 97, 119, 115, 46, 70, 110, 69, 120, 97, 99, 116, 84, 111, 107, 101, 110, 67, 111, 117, 110, 116, 115]
theorem Abs.head : Tryz.prog.initOrder = String.ofList (headSigns.map Char.ofNat) := by kernel_rfl
theorem Abs.signs : Tryz.prog.initOrder.toList = headSigns.map Char.ofNat := by rw [Abs.head, String.toList_ofList]
def headWords : List (List Nat) := [[99, 117, 116], [97, 116], [108, 111, 111, 112, 46, 101, 120, 97, 109, 112, 108, 101, 47, 103, 48, 51, 48, 49, 53, 47, 108, 97, 119, 115, 46, 70, 110, 69, 120, 97, 99, 116, 84, 111, 107, 101, 110, 115, 79, 102], [108, 111, 111, 112, 46, 101, 120, 97, 109, 112, 108, 101, 47, 103, 48, 51, 48, 49, 53, 47, 108, 97, 119, 115, 46, 70, 110, 69, 120, 97, 99, 116, 77, 97, 116, 99, 104, 101, 115, 79, 102], [108, 111, 111, 112, 46, 101, 120, 97, 109, 112, 108, 101, 47, 103, 48, 51, 48, 49, 53, 47, 108, 97, 119, 115, 46, 70, 110, 69, 120, 97, 99, 116, 65, 108, 108, 77, 97, 116, 99, 104, 101, 115], [108, 111, 111, 112, 46, 101, 120, 97, 109, 112, 108, 101, 47, 103, 48, 51, 48, 49, 53, 47, 108, 97, 119, 115, 46, 70, 110, 69, 120, 97, 99, 116, 73, 115, 77, 97, 116, 99, 104], [108, 111, 111, 112, 46, 101, 120, 97, 109, 112, 108, 101, 47, 103, 48, 51, 48, 49, 53, 47, 108, 97, 119, 115, 46, 70, 110, 69, 120, 97, 99, 116, 68, 101, 101, 112, 101, 115, 116, 67, 111, 110, 100], [108, 111, 111, 112, 46, 101, 120, 97, 109, 112, 108, 101, 47, 103, 48, 51, 48, 49, 53, 47, 108, 97, 119, 115, 46, 70, 110, 69, 120, 97, 99, 116, 84, 111, 107, 101, 110, 67, 111, 117, 110, 116, 115]]
theorem Abs.words : behindMainWord (wordsSigns (headSigns.map Char.ofNat)) = headWords.map fun w => w.map Char.ofNat := by kernel_rfl
theorem Abs.heads : behindMainWord (wordsSigns Tryz.prog.initOrder.toList) = headWords.map fun w => w.map Char.ofNat := by rw [Abs.signs, Abs.words]
theorem enters_gen (P : Program) (h : behindMainWord (wordsSigns P.initOrder.toList) = headWords.map fun w => w.map Char.ofNat) (h1 : P.laysLater = false) (h2 : P.bearsReflect = false) (h3 : P.doorFits [] = true) : P.mayEnter = true := by
  have h4 : stripLifts liftWords (headWords.map fun w => w.map Char.ofNat) = ([], headWords.map fun w => w.map Char.ofNat) := by kernel_rfl
  have h5 : (headWords.map fun w => w.map Char.ofNat) = (headWords.headD []).map Char.ofNat :: (headWords.tail.map fun w => w.map Char.ofNat) := rfl
  unfold Program.mayEnter
  rw [h, h1, h2, h5]
  simp only []
  rw [← h5, h4]
  simp only []
  rw [h3]
  rfl
theorem final_gen (P : Program) (h : behindMainWord (wordsSigns P.initOrder.toList) = headWords.map fun w => w.map Char.ofNat) : P.liftsFinal = false := by
  unfold Program.liftsFinal Program.headLifts
  rw [h]
  kernel_rfl
theorem made_gen (P : Program) (h : behindMainWord (wordsSigns P.initOrder.toList) = headWords.map fun w => w.map Char.ofNat) : P.make = some .cut := by
  unfold Program.make
  rw [h]
  rfl
theorem Abs.enters : Tryz.prog.mayEnter = true := enters_gen _ Abs.heads (by kernel_rfl) (by kernel_rfl) (by kernel_rfl)
theorem Abs.final : Tryz.prog.liftsFinal = false := final_gen _ Abs.heads
theorem Abs.made : Tryz.prog.make = some .cut := made_gen _ Abs.heads
theorem Abs.rowed : mapsRowed Tryz.prog = true := by kernel_rfl
theorem Abs.laidOut : laidOutB Tryz.prog = true := by kernel_rfl
def joinedLess (P : Program) (f : FuncId) (fn : Func) (s : ChangeSpec) (c : OpenClaim) (h1 : P.mayEnter = true) (h2 : P.liftsFinal = false) (h3 : P.make = some .cut) (h4 : mapsRowed P = true) (h5 : laidOutB P = true) : {b : Bool // joinedFacts P f fn s c = b} := by
  refine ⟨?b, ?h⟩
  case h =>
    unfold joinedFacts
    rw [h1, h2, h3, h4, h5]
theorem Abs.closed {f : FuncId} {fn : Func} {s : ChangeSpec} {c : OpenClaim} (h : (joinedLess Tryz.prog f fn s c Abs.enters Abs.final Abs.made Abs.rowed Abs.laidOut).1 = true) : joinedFacts Tryz.prog f fn s c = true :=
  (joinedLess Tryz.prog f fn s c Abs.enters Abs.final Abs.made Abs.rowed Abs.laidOut).2.trans h
end Go.Proofs.YtoindmahilbalaaGreat
