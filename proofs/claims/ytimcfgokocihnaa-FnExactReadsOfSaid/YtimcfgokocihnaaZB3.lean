/-
  What stands below some laws' proofs, part 3: contracts of functions, by an evaluator.
-/
import Derived.Test.YtimcfgokocihnaaZB2
namespace Go.Proofs.Ytimcfgokocihnaa
open Abs
theorem Abs.Need.finN {p q : Prop} (k : q) (h : p := by intros; (try simp only [length_strs] at *); (try simp only [length_rows] at *); (try simp only [length_oldLL, List.length_map, Int.toNat_natCast] at *); (try simp only [Bool.and_eq_true, decide_eq_true_eq] at *); omega) : Need p q := ⟨h, k⟩
theorem Abs.Ix.strsN {gd : Bool} {l : List Str} {i : Int} {sz : Nat} {k : List AV → Prop} (hs : 1 = sz) (hk : k [.str (l.getD i.toNat [])]) (h : gd = true → 0 ≤ i ∧ i < l.length := by intros; (try simp only [length_strs] at *); (try simp only [length_rows] at *); (try simp only [length_oldLL, List.length_map, Int.toNat_natCast] at *); (try simp only [Bool.and_eq_true, decide_eq_true_eq] at *); omega) : Ix gd (Abs.strs l) i sz k := Ix.strs hs h hk
theorem Abs.Ix.mapN {α : Type} [Inhabited α] {gd : Bool} {l : List α} {q : α → List Tr} {i : Int} {sz : Nat} {k : List AV → Prop} (hs : ∀ a, (q a).length = sz) (hk : k (oldL (q (l.getD i.toNat default)))) (h : gd = true → 0 ≤ i ∧ i < l.length := by intros; (try simp only [length_strs] at *); (try simp only [length_rows] at *); (try simp only [length_oldLL, List.length_map, Int.toNat_natCast] at *); (try simp only [Bool.and_eq_true, decide_eq_true_eq] at *); omega) : Ix gd (oldLL (l.map q)) i sz k := Ix.map hs h hk
theorem Abs.Fork.decY {c : Prop} [Decidable c] {p q : Prop} (k : p) (h : c := by (try simp only [length_oldLL, length_rows, length_strs, length_tks, List.length_map, Int.toNat_natCast]); omega) : Fork (decide c) p q := .decYes h k
theorem Abs.Fork.decN {c : Prop} [Decidable c] {p q : Prop} (k : q) (h : ¬ c := by (try simp only [length_oldLL, length_rows, length_strs, length_tks, List.length_map, Int.toNat_natCast]); omega) : Fork (decide c) p q := .decNo h k
theorem Abs.Fork.andY {a b : Prop} [Decidable a] [Decidable b] {p q : Prop} (k : p) (h : a ∧ b := by (try simp only [length_oldLL, length_rows, length_strs, length_tks, List.length_map, Int.toNat_natCast]); omega) : Fork (decide a && decide b) p q := .yes (by simp [h.1, h.2]) k
theorem Abs.Fork.andN {a b : Prop} [Decidable a] [Decidable b] {p q : Prop} (k : q) (h : ¬ (a ∧ b) := by (try simp only [length_oldLL, length_rows, length_strs, length_tks, List.length_map, Int.toNat_natCast]); omega) : Fork (decide a && decide b) p q := .no (by rw [← Bool.decide_and]; exact decide_eq_false h) k
section
variable {α : Type}
def fm (f : α → List Str) (l : List α) : List Str := l.flatMap f
theorem fm_take (d : α) (f : α → List Str) {l : List α} {i : Nat} (h : i < l.length) : fm f (l.take (i + 1)) = fm f (l.take i) ++ f (l.getD i d) := by
  rw [take_succ' d h]; simp [fm]
theorem size_app (l m : List Str) : listSize Ty.str (l ++ m) = listSize Ty.str l + listSize Ty.str m := by
  induction l with
  | nil => simp [listSize]
  | cons x l ih =>
    have e : listSize Ty.str (x :: l) = x.length + listSize Ty.str l := rfl
    have e2 : listSize Ty.str (x :: l ++ m) = x.length + listSize Ty.str (l ++ m) := rfl
    rw [e, e2, ih]; omega
theorem fm_size (T : Ty α) (f : α → List Str) (h : ∀ a, listSize Ty.str (f a) ≤ T.size a) : ∀ l : List α, listSize Ty.str (fm f l) ≤ listSize T l
  | [] => Nat.le_refl _
  | a :: l => by
    have ih := fm_size T f h l
    have e : listSize T (a :: l) = T.size a + listSize T l := rfl
    have e2 : fm f (a :: l) = f a ++ fm f l := rfl
    have := h a
    rw [e, e2, size_app]; omega
theorem fm_len1 (f : α → List Str) (h : ∀ a, (f a).length ≤ 1) : ∀ l : List α, (fm f l).length ≤ l.length
  | [] => Nat.le_refl _
  | a :: l => by
    have ih := fm_len1 f h l
    have e2 : fm f (a :: l) = f a ++ fm f l := rfl
    have := h a
    rw [e2, List.length_append, List.length_cons]; omega
theorem fm_len1T (f : α → List Str) (h : ∀ a, (f a).length ≤ 1) (l : List α) (i : Nat) : (fm f (l.take i)).length ≤ l.length :=
  Nat.le_trans (fm_len1 f h _) (by rw [List.length_take]; omega)
end
theorem tAction_sz (a : VAction) : tAction.size a = a.2.1.length + (a.2.2.length + listSize Ty.str a.2.2) := by
  have h : tAction.size a = 0 + tFct.size a.2 := rfl
  rw [h, tFct_size, tStrs_size]; omega
theorem tRule_sz (r : VRule) : tRule.size r = r.1.length + (r.2.2.1.length + listSize tCond r.2.2.1) + (r.2.2.2.length + listSize tAction r.2.2.2) := by
  have h1 : tConds.size r.2.2.1 = r.2.2.1.length + listSize tCond r.2.2.1 := rfl
  have h2 : tActions.size r.2.2.2 = r.2.2.2.length + listSize tAction r.2.2.2 := rfl
  rw [tRule_size, h1, h2]; omega
def rdC (x : VCond) : List Str := if hasKind x.1 then [x.2.1.1] else []
def wrC (x : VAction) : List Str := if hasKind x.1 then [x.2.1] else []
theorem rdC_len (x : VCond) : (rdC x).length ≤ 1 := by unfold rdC; split <;> simp
theorem wrC_len (x : VAction) : (wrC x).length ≤ 1 := by unfold wrC; split <;> simp
def rdF (r : VRule) : List Str := insAll blt (fm rdC r.2.2.1)
def wrF (r : VRule) : List Str := insAll blt (fm wrC r.2.2.2)
end Go.Proofs.Ytimcfgokocihnaa
namespace Go.Proofs.Ytimcfgokocihnaa
open Abs
theorem cond_le {l : List VCond} {i : Nat} (hi : i < l.length) : tCond.size (l.getD i default) ≤ listSize tCond l := tCond_le hi
theorem own_anyP {F : Fr} {l : List Str} {k : Nat} (hk : F[k]? = some (9, 1, l.length)) : ∃ ts, OwnA F [strT l] [.list (some k) (strs l)] ts ∧ ts.Nodup := own_rowF hk rfl
theorem sReadsOf.own (r : VRule) (h : tRule.size r ≤ 1048576) : sReadsOf.Own [.agg (oldL (tRule.q r))] (strT (rdF r)) := by
  refine Own.of_irP (code := sReadsOf.code) (rs := sReadsOf.res) (K := sReadsOf.keep) Try.func38 rfl (by kernel_rfl) (Nat.le_of_ble_eq_true rfl) (by kernel_rfl) (by kernel_rfl) ?_
  rw [tRule_sz] at h
  repeat' first
    | contradiction | exact trivial
    | (conv => whnf
       first | refine Need.mk (fun h => h) ?_ | refine Need.mk rfl ?_ | refine Need.mk ⟨rfl, Nat.le_of_ble_eq_true rfl⟩ ?_ | refine Need.mk (Nat.le_of_ble_eq_true rfl) ?_ | refine Need.fin ?_ | refine Need.mk ?_ ?_ | refine Ix.strsF rfl ?_ | refine Ix.strs rfl ?_ ?_ | refine Cut.strs rfl ?_ ?_ | refine Ix.mapF (fun _ => rfl) ?_ | refine Ix.map (fun _ => rfl) ?_ ?_ | refine Cut.map (fun _ => rfl) ?_ ?_ | refine Fork.yes (by assumption) ?_ | refine Fork.no (by assumption) ?_ | refine Fork.decYes (by omega) ?_ | refine Fork.decNo (by omega) ?_ | refine Fork.dec (fun _ => ?_) (fun _ => ?_) | refine Fork.bne (fun _ => ?_) (fun _ => ?_) | refine Fork.beq (fun _ => ?_) (fun _ => ?_) | refine Fork.seq (fun _ => ?_) (fun _ => ?_) | refine Fork.sne (fun _ => ?_) (fun _ => ?_) | refine Fork.neg (fun _ => ?_) (fun _ => ?_) | refine Fork.mk (fun _ => ?_) (fun _ => ?_) | refine HAlt.mk ?_ ?_ | apply HJoin.mk3 | exact HEnd.mk rfl rfl rfl | refine HEnd.mk ?_ ?_ ?_ | refine Round.mk ?_ | refine NilQ.mk (fun b hb => ?_) | refine forceK_of ?_ | refine forceBx_of ?_ | refine unG_old ?_ | refine unG_gv ?_ | refine Lit.read rfl ?_ | refine FinVal.keep ?_ | refine FinAgg.keep ?_ | refine Final.mk rfl rfl | refine Final.mk ?_ rfl | refine Final.mk ?_ ?_ | refine FinalT.mk ?_ ?_ | refine FinalC.allA ?_)
    | refine AV.bool_congr ?_ | refine AV.int_congr ?_ | refine AV.str_congr ?_ | refine AV.list_congr ?_ | with_reducible rfl | refine fr1 ?_ | refine fr2 ?_ ?_
  refine ALoop.mk (Nat × Nat × Fr) (fun a => ⟨[(1, .bptr 0 0), (3, .list (some a.2.1) (strs (insAll blt (fm rdC (r.2.2.1.take a.1))))), (4, .val (.int .i64 a.1))], [.cells .var (oldL (tRule.q r))], a.2.2⟩) (fun a => a.1 ≤ r.2.2.1.length ∧ a.2.2[a.2.1]? = some (9, 1, (insAll blt (fm rdC (r.2.2.1.take a.1))).length)) (fun a => r.2.2.1.length - a.1) ⟨(0, 0, [(9, 1, 0)]), ⟨Nat.zero_le _, rfl⟩, ?_⟩ (fun a ha => ?_)
  · repeat' first
      | exact trivial | refine Weak.mk ?_ ?_ ?_ ?_ (Or.inl (Nat.le_of_ble_eq_true rfl)) | refine Weak.mk ?_ ?_ ?_ ?_ (Or.inr ⟨(by repeat' first | exact trivial | exact Nat.le_of_ble_eq_true rfl | refine And.intro ?_ ?_), (by repeat' first | exact trivial | exact Nat.le_of_ble_eq_true rfl | refine And.intro ?_ ?_)⟩) | refine Weak.mk ?_ ?_ ?_ ?_ ?_ | refine And.intro ?_ ?_ | with_reducible rfl | exact Nat.le_of_ble_eq_true rfl | refine fr1 ?_ | refine fr2 ?_ ?_ | refine AV.int_congr ?_ | refine AV.bool_congr ?_ | refine AV.str_congr ?_ | refine AV.list_congr ?_ | refine AV.bsl_congr ?_ ?_ | (apply rfl)
  obtain ⟨hi, hF⟩ := ha
  have hl := fm_len1T rdC rdC_len r.2.2.1 a.1
  have hl' := insAll_le (fm rdC (r.2.2.1.take a.1))
  by_cases hi' : a.1 < r.2.2.1.length
  rotate_left
  · rw [List.take_of_length_le (by omega)] at hF
    repeat' first
      | contradiction | exact trivial
      | (conv => whnf
         first | refine Need.mk (fun h => h) ?_ | refine Need.mk rfl ?_ | refine Need.mk ⟨rfl, Nat.le_of_ble_eq_true rfl⟩ ?_ | refine Need.mk (Nat.le_of_ble_eq_true rfl) ?_ | refine Need.finN ?_ | refine Need.mk ?_ ?_ | refine Ix.strsN rfl ?_ | refine Ix.strs rfl ?_ ?_ | refine Cut.strs rfl ?_ ?_ | refine Ix.mapN (fun _ => rfl) ?_ | refine Ix.map (fun _ => rfl) ?_ ?_ | refine Cut.map (fun _ => rfl) ?_ ?_ | refine Fork.yes (by assumption) ?_ | refine Fork.no (by assumption) ?_ | refine Fork.decY ?_ | refine Fork.andY ?_ | refine Fork.andN ?_ | refine Fork.decN ?_ | refine Fork.dec (fun _ => ?_) (fun _ => ?_) | refine Fork.bne (fun _ => ?_) (fun _ => ?_) | refine Fork.beq (fun _ => ?_) (fun _ => ?_) | refine Fork.seq (fun _ => ?_) (fun _ => ?_) | refine Fork.sne (fun _ => ?_) (fun _ => ?_) | refine Fork.neg (fun _ => ?_) (fun _ => ?_) | refine Fork.mk (fun _ => ?_) (fun _ => ?_) | refine HAlt.mk ?_ ?_ | apply HJoin.mk3 | exact HEnd.mk rfl rfl rfl | refine HEnd.mk ?_ ?_ ?_ | refine Round.mk ?_ | refine NilQ.mk (fun b hb => ?_) | refine forceK_of ?_ | refine forceBx_of ?_ | refine unG_old ?_ | refine unG_gv ?_ | refine Lit.read rfl ?_ | refine FinVal.keep ?_ | refine FinAgg.keep ?_ | refine Final.mk rfl rfl | refine Final.mk ?_ rfl | refine Final.mk ?_ ?_ | refine FinalT.mk ?_ ?_ | refine FinalC.allA ?_)
      | refine AV.bool_congr ?_ | refine AV.int_congr ?_ | refine AV.str_congr ?_ | refine AV.list_congr ?_ | with_reducible rfl | refine fr1 ?_ | refine fr2 ?_ ?_
    rw [List.take_of_length_le (show r.2.2.1.length ≤ a.1 by omega)]
    exact own_anyP hF
  have hc := cond_le hi'
  have hz := tCond_sz (r.2.2.1.getD a.1 default)
  have hstep := fm_take default rdC hi'
  repeat' first
    | contradiction | exact trivial
    | (conv => whnf
       first | refine Need.mk (fun h => h) ?_ | refine Need.mk rfl ?_ | refine Need.mk ⟨rfl, Nat.le_of_ble_eq_true rfl⟩ ?_ | refine Need.mk (Nat.le_of_ble_eq_true rfl) ?_ | refine Need.finN ?_ | refine Need.mk ?_ ?_ | refine Ix.strsN rfl ?_ | refine Ix.strs rfl ?_ ?_ | refine Cut.strs rfl ?_ ?_ | refine Ix.mapN (fun _ => rfl) ?_ | refine Ix.map (fun _ => rfl) ?_ ?_ | refine Cut.map (fun _ => rfl) ?_ ?_ | refine Fork.yes (by assumption) ?_ | refine Fork.no (by assumption) ?_ | refine Fork.decY ?_ | refine Fork.andY ?_ | refine Fork.andN ?_ | refine Fork.decN ?_ | refine Fork.dec (fun _ => ?_) (fun _ => ?_) | refine Fork.bne (fun _ => ?_) (fun _ => ?_) | refine Fork.beq (fun _ => ?_) (fun _ => ?_) | refine Fork.seq (fun _ => ?_) (fun _ => ?_) | refine Fork.sne (fun _ => ?_) (fun _ => ?_) | refine Fork.neg (fun _ => ?_) (fun _ => ?_) | refine Fork.mk (fun _ => ?_) (fun _ => ?_) | refine HAlt.mk ?_ ?_ | apply HJoin.mk3 | exact HEnd.mk rfl rfl rfl | refine HEnd.mk ?_ ?_ ?_ | refine Round.mk ?_ | refine NilQ.mk (fun b hb => ?_) | refine forceK_of ?_ | refine forceBx_of ?_ | refine unG_old ?_ | refine unG_gv ?_ | refine Lit.read rfl ?_ | refine FinVal.keep ?_ | refine FinAgg.keep ?_ | refine Final.mk rfl rfl | refine Final.mk ?_ rfl | refine Final.mk ?_ ?_ | refine FinalT.mk ?_ ?_ | refine FinalC.allA ?_ | refine ACall.mkStrs _ _ (sPut.ret _ _ ?_) (by repeat' first | exact SeesL.nil | refine SeesL.cons ?_ ?_ | exact SeesB.of0 (Sees0.val _) | exact SeesB.of0 (Sees0.str _) | exact SeesB.of0 (Sees0.olds _ _) | exact SeesB.of0 (Sees0.old _) | exact SeesB.of0 (Sees0.oldagg _) | exact SeesB.of0 Sees0.nil | exact Sees0.val _ | exact Sees0.str _ | exact Sees0.olds _ _ | exact Sees0.old _ | exact Sees0.oldagg _ | exact Sees0.nil | exact SeesB.of0 (Sees0.any _) | assumption | exact sees_gv _ _ _ (by assumption) (by first | assumption | exact BoxIn.last _ _ | exact BoxIn.more (BoxIn.last _ _) _) | refine SeesB.agg ?_ | refine Sees0.agg ?_ | exact SeesB.of0 (Sees0.clo SeesL.nil SeesL.nil) | exact Sees0.clo SeesL.nil SeesL.nil | exact SeesB.of0 (Sees0.list rfl) | exact Sees0.list rfl) ?_)
    | refine AV.bool_congr ?_ | refine AV.int_congr ?_ | refine AV.str_congr ?_ | refine AV.list_congr ?_ | with_reducible rfl | refine fr1 ?_ | refine fr2 ?_ ?_
  · omega
  · have h1 := ‹(_ || _) = true›
    rw [Int.toNat_natCast] at h1
    have h1 : hasKind (r.2.2.1.getD a.1 default).1 = true := h1
    rw [rdC, if_pos h1] at hstep
    refine ⟨(a.1 + 1, a.2.2.length, a.2.2 ++ [(9, 1, (insAll blt (fm rdC (r.2.2.1.take (a.1 + 1)))).length)]), ⟨by omega, by simp⟩, ?_, by omega⟩
    repeat' first
      | exact trivial | refine Weak.mk ?_ ?_ ?_ ?_ (Or.inl (Nat.le_of_ble_eq_true rfl)) | refine Weak.mk ?_ ?_ ?_ ?_ (Or.inr ⟨(by repeat' first | exact trivial | exact Nat.le_of_ble_eq_true rfl | refine And.intro ?_ ?_), (by repeat' first | exact trivial | exact Nat.le_of_ble_eq_true rfl | refine And.intro ?_ ?_)⟩) | refine Weak.mk ?_ ?_ ?_ ?_ ?_ | refine And.intro ?_ ?_ | with_reducible rfl | exact Nat.le_of_ble_eq_true rfl | refine fr1 ?_ | refine fr2 ?_ ?_ | refine AV.int_congr ?_ | refine AV.bool_congr ?_ | refine AV.str_congr ?_ | refine AV.list_congr ?_ | refine AV.bsl_congr ?_ ?_ | (apply rfl)
    · show strs _ = strs (insAll blt (fm rdC (r.2.2.1.take (a.1 + 1))))
      rw [hstep, ins_snoc, Int.toNat_natCast]
    · rw [wrap64 (by omega) (by omega)]; rfl
    · show a.2.2 ++ [(9, 1, (ins blt (r.2.2.1.getD a.1 default).2.1.1 false (insAll blt (fm rdC (r.2.2.1.take a.1)))).length)] = a.2.2 ++ [_]
      rw [hstep, ins_snoc]
  · have h1 := ‹(_ || _) = false›
    rw [Int.toNat_natCast] at h1
    have h1 : ¬ hasKind (r.2.2.1.getD a.1 default).1 = true := by rw [Bool.not_eq_true]; exact h1
    rw [rdC, if_neg h1, List.append_nil] at hstep
    refine ⟨(a.1 + 1, a.2.1, a.2.2), ⟨by omega, by rw [hstep]; exact hF⟩, ?_, by omega⟩
    repeat' first
      | exact trivial | refine Weak.mk ?_ ?_ ?_ ?_ (Or.inl (Nat.le_of_ble_eq_true rfl)) | refine Weak.mk ?_ ?_ ?_ ?_ (Or.inr ⟨(by repeat' first | exact trivial | exact Nat.le_of_ble_eq_true rfl | refine And.intro ?_ ?_), (by repeat' first | exact trivial | exact Nat.le_of_ble_eq_true rfl | refine And.intro ?_ ?_)⟩) | refine Weak.mk ?_ ?_ ?_ ?_ ?_ | refine And.intro ?_ ?_ | with_reducible rfl | exact Nat.le_of_ble_eq_true rfl | refine fr1 ?_ | refine fr2 ?_ ?_ | refine AV.int_congr ?_ | refine AV.bool_congr ?_ | refine AV.str_congr ?_ | refine AV.list_congr ?_ | refine AV.bsl_congr ?_ ?_ | (apply rfl)
    · rw [hstep]
    · rw [wrap64 (by omega) (by omega)]; rfl
theorem pReadsOf.own (r : VRule) (h : tRule.size r ≤ 1048576) : pReadsOf.Own [.agg (oldL (tRule.q r))] (strT (rdF r)) := by
  refine own_row (k := 1) rfl (?_ : pReadsOf.Ret _ (.list (some 1) (strs (rdF r))) [(9, 1, (fm rdC r.2.2.1).length), (9, 1, (rdF r).length)])
  refine pReadsOf.of rfl ?_
  rw [tRule_sz] at h
  repeat' first
    | contradiction | exact trivial
    | (conv => whnf
       first | refine Need.mk (fun h => h) ?_ | refine Need.mk rfl ?_ | refine Need.mk ⟨rfl, Nat.le_of_ble_eq_true rfl⟩ ?_ | refine Need.mk (Nat.le_of_ble_eq_true rfl) ?_ | refine Need.fin ?_ | refine Need.mk ?_ ?_ | refine Ix.strsF rfl ?_ | refine Ix.strs rfl ?_ ?_ | refine Cut.strs rfl ?_ ?_ | refine Ix.mapF (fun _ => rfl) ?_ | refine Ix.map (fun _ => rfl) ?_ ?_ | refine Cut.map (fun _ => rfl) ?_ ?_ | refine Fork.yes (by assumption) ?_ | refine Fork.no (by assumption) ?_ | refine Fork.decYes (by omega) ?_ | refine Fork.decNo (by omega) ?_ | refine Fork.dec (fun _ => ?_) (fun _ => ?_) | refine Fork.bne (fun _ => ?_) (fun _ => ?_) | refine Fork.beq (fun _ => ?_) (fun _ => ?_) | refine Fork.seq (fun _ => ?_) (fun _ => ?_) | refine Fork.sne (fun _ => ?_) (fun _ => ?_) | refine Fork.neg (fun _ => ?_) (fun _ => ?_) | refine Fork.mk (fun _ => ?_) (fun _ => ?_) | refine HAlt.mk ?_ ?_ | apply HJoin.mk3 | exact HEnd.mk rfl rfl rfl | refine HEnd.mk ?_ ?_ ?_ | refine Round.mk ?_ | refine NilQ.mk (fun b hb => ?_) | refine forceK_of ?_ | refine forceBx_of ?_ | refine unG_old ?_ | refine unG_gv ?_ | refine Lit.read rfl ?_ | refine FinVal.keep ?_ | refine FinAgg.keep ?_ | refine Final.mk rfl rfl | refine Final.mk ?_ rfl | refine Final.mk ?_ ?_ | refine FinalT.mk ?_ ?_ | refine FinalC.allA ?_)
    | refine AV.bool_congr ?_ | refine AV.int_congr ?_ | refine AV.str_congr ?_ | refine AV.list_congr ?_ | with_reducible rfl | refine fr1 ?_ | refine fr2 ?_ ?_
  refine ALoop.mk Nat (fun i => ⟨[(3, .list (some 0) (strs (fm rdC (r.2.2.1.take i)))), (8, .list none (rows tCond r.2.2.1)), (9, .val (.int .i64 r.2.2.1.length)), (10, .val (.int .i64 i))], [.cells .var (oldL (tRule.q r))], [(9, 1, (fm rdC (r.2.2.1.take i)).length)]⟩) (fun i => i ≤ r.2.2.1.length) (fun i => r.2.2.1.length - i) ⟨0, Nat.zero_le _, ?_⟩ (fun i hi => ?_)
  · repeat' first
      | exact trivial | refine Weak.mk ?_ ?_ ?_ ?_ (Or.inl (Nat.le_of_ble_eq_true rfl)) | refine Weak.mk ?_ ?_ ?_ ?_ (Or.inr ⟨(by repeat' first | exact trivial | exact Nat.le_of_ble_eq_true rfl | refine And.intro ?_ ?_), (by repeat' first | exact trivial | exact Nat.le_of_ble_eq_true rfl | refine And.intro ?_ ?_)⟩) | refine Weak.mk ?_ ?_ ?_ ?_ ?_ | refine And.intro ?_ ?_ | with_reducible rfl | exact Nat.le_of_ble_eq_true rfl | refine fr1 ?_ | refine fr2 ?_ ?_ | refine AV.int_congr ?_ | refine AV.bool_congr ?_ | refine AV.str_congr ?_ | refine AV.list_congr ?_ | refine AV.bsl_congr ?_ ?_ | (apply rfl)
    simp
  have hl := fm_len1T rdC rdC_len r.2.2.1 i
  by_cases hi' : i < r.2.2.1.length
  rotate_left
  · have e : r.2.2.1.take i = r.2.2.1 := List.take_of_length_le (by omega)
    repeat' first
      | contradiction | exact trivial
      | (conv => whnf
         first | refine Need.mk (fun h => h) ?_ | refine Need.mk rfl ?_ | refine Need.mk ⟨rfl, Nat.le_of_ble_eq_true rfl⟩ ?_ | refine Need.mk (Nat.le_of_ble_eq_true rfl) ?_ | refine Need.finN ?_ | refine Need.mk ?_ ?_ | refine Ix.strsN rfl ?_ | refine Ix.strs rfl ?_ ?_ | refine Cut.strs rfl ?_ ?_ | refine Ix.mapN (fun _ => rfl) ?_ | refine Ix.map (fun _ => rfl) ?_ ?_ | refine Cut.map (fun _ => rfl) ?_ ?_ | refine Fork.yes (by assumption) ?_ | refine Fork.no (by assumption) ?_ | refine Fork.decY ?_ | refine Fork.andY ?_ | refine Fork.andN ?_ | refine Fork.decN ?_ | refine Fork.dec (fun _ => ?_) (fun _ => ?_) | refine Fork.bne (fun _ => ?_) (fun _ => ?_) | refine Fork.beq (fun _ => ?_) (fun _ => ?_) | refine Fork.seq (fun _ => ?_) (fun _ => ?_) | refine Fork.sne (fun _ => ?_) (fun _ => ?_) | refine Fork.neg (fun _ => ?_) (fun _ => ?_) | refine Fork.mk (fun _ => ?_) (fun _ => ?_) | refine HAlt.mk ?_ ?_ | apply HJoin.mk3 | exact HEnd.mk rfl rfl rfl | refine HEnd.mk ?_ ?_ ?_ | refine Round.mk ?_ | refine NilQ.mk (fun b hb => ?_) | refine forceK_of ?_ | refine forceBx_of ?_ | refine unG_old ?_ | refine unG_gv ?_ | refine Lit.read rfl ?_ | refine FinVal.keep ?_ | refine FinAgg.keep ?_ | refine Final.mk rfl rfl | refine Final.mk ?_ rfl | refine Final.mk ?_ ?_ | refine FinalT.mk ?_ ?_ | refine FinalC.allA ?_ | refine ACall.mkStrs _ _ (pSortedTexts.ret _ ?_) (by repeat' first | exact SeesL.nil | refine SeesL.cons ?_ ?_ | exact SeesB.of0 (Sees0.val _) | exact SeesB.of0 (Sees0.str _) | exact SeesB.of0 (Sees0.olds _ _) | exact SeesB.of0 (Sees0.old _) | exact SeesB.of0 (Sees0.oldagg _) | exact SeesB.of0 Sees0.nil | exact Sees0.val _ | exact Sees0.str _ | exact Sees0.olds _ _ | exact Sees0.old _ | exact Sees0.oldagg _ | exact Sees0.nil | exact SeesB.of0 (Sees0.any _) | assumption | exact sees_gv _ _ _ (by assumption) (by first | assumption | exact BoxIn.last _ _ | exact BoxIn.more (BoxIn.last _ _) _) | refine SeesB.agg ?_ | refine Sees0.agg ?_ | exact SeesB.of0 (Sees0.clo SeesL.nil SeesL.nil) | exact Sees0.clo SeesL.nil SeesL.nil | exact SeesB.of0 (Sees0.list rfl) | exact Sees0.list rfl) ?_)
      | refine AV.bool_congr ?_ | refine AV.int_congr ?_ | refine AV.str_congr ?_ | refine AV.list_congr ?_ | with_reducible rfl | refine fr1 ?_ | refine fr2 ?_ ?_
    · omega
    all_goals rw [e] <;> rfl
  have hstep := fm_take default rdC hi'
  repeat' first
    | contradiction | exact trivial
    | (conv => whnf
       first | refine Need.mk (fun h => h) ?_ | refine Need.mk rfl ?_ | refine Need.mk ⟨rfl, Nat.le_of_ble_eq_true rfl⟩ ?_ | refine Need.mk (Nat.le_of_ble_eq_true rfl) ?_ | refine Need.finN ?_ | refine Need.mk ?_ ?_ | refine Ix.strsN rfl ?_ | refine Ix.strs rfl ?_ ?_ | refine Cut.strs rfl ?_ ?_ | refine Ix.mapN (fun _ => rfl) ?_ | refine Ix.map (fun _ => rfl) ?_ ?_ | refine Cut.map (fun _ => rfl) ?_ ?_ | refine Fork.yes (by assumption) ?_ | refine Fork.no (by assumption) ?_ | refine Fork.decY ?_ | refine Fork.andY ?_ | refine Fork.andN ?_ | refine Fork.decN ?_ | refine Fork.dec (fun _ => ?_) (fun _ => ?_) | refine Fork.bne (fun _ => ?_) (fun _ => ?_) | refine Fork.beq (fun _ => ?_) (fun _ => ?_) | refine Fork.seq (fun _ => ?_) (fun _ => ?_) | refine Fork.sne (fun _ => ?_) (fun _ => ?_) | refine Fork.neg (fun _ => ?_) (fun _ => ?_) | refine Fork.mk (fun _ => ?_) (fun _ => ?_) | refine HAlt.mk ?_ ?_ | apply HJoin.mk3 | exact HEnd.mk rfl rfl rfl | refine HEnd.mk ?_ ?_ ?_ | refine Round.mk ?_ | refine NilQ.mk (fun b hb => ?_) | refine forceK_of ?_ | refine forceBx_of ?_ | refine unG_old ?_ | refine unG_gv ?_ | refine Lit.read rfl ?_ | refine FinVal.keep ?_ | refine FinAgg.keep ?_ | refine Final.mk rfl rfl | refine Final.mk ?_ rfl | refine Final.mk ?_ ?_ | refine FinalT.mk ?_ ?_ | refine FinalC.allA ?_)
    | refine AV.bool_congr ?_ | refine AV.int_congr ?_ | refine AV.str_congr ?_ | refine AV.list_congr ?_ | with_reducible rfl | refine fr1 ?_ | refine fr2 ?_ ?_
  · simp
  · intro c hc; rw [List.mem_singleton.1 hc]; rfl
  · rw [length_strs]; simp only [List.length_singleton]; omega
  · have h1 := ‹(_ || _) = true›
    rw [Int.toNat_natCast] at h1
    have h1 : hasKind (r.2.2.1.getD i default).1 = true := h1
    rw [rdC, if_pos h1] at hstep
    refine ⟨i + 1, by omega, ?_, by omega⟩
    repeat' first
      | exact trivial | refine Weak.mk ?_ ?_ ?_ ?_ (Or.inl (Nat.le_of_ble_eq_true rfl)) | refine Weak.mk ?_ ?_ ?_ ?_ (Or.inr ⟨(by repeat' first | exact trivial | exact Nat.le_of_ble_eq_true rfl | refine And.intro ?_ ?_), (by repeat' first | exact trivial | exact Nat.le_of_ble_eq_true rfl | refine And.intro ?_ ?_)⟩) | refine Weak.mk ?_ ?_ ?_ ?_ ?_ | refine And.intro ?_ ?_ | with_reducible rfl | exact Nat.le_of_ble_eq_true rfl | refine fr1 ?_ | refine fr2 ?_ ?_ | refine AV.int_congr ?_ | refine AV.bool_congr ?_ | refine AV.str_congr ?_ | refine AV.list_congr ?_ | refine AV.bsl_congr ?_ ?_ | (apply rfl)
    · rw [hstep, strs_append] <;> rfl
    · rw [wrap64 (by omega) (by omega)]; rfl
    · rw [hstep, List.length_append, length_strs] <;> rfl
  · have h1 := ‹(_ || _) = false›
    rw [Int.toNat_natCast] at h1
    have h1 : ¬ hasKind (r.2.2.1.getD i default).1 = true := by rw [Bool.not_eq_true]; exact h1
    rw [rdC, if_neg h1, List.append_nil] at hstep
    refine ⟨i + 1, by omega, ?_, by omega⟩
    repeat' first
      | exact trivial | refine Weak.mk ?_ ?_ ?_ ?_ (Or.inl (Nat.le_of_ble_eq_true rfl)) | refine Weak.mk ?_ ?_ ?_ ?_ (Or.inr ⟨(by repeat' first | exact trivial | exact Nat.le_of_ble_eq_true rfl | refine And.intro ?_ ?_), (by repeat' first | exact trivial | exact Nat.le_of_ble_eq_true rfl | refine And.intro ?_ ?_)⟩) | refine Weak.mk ?_ ?_ ?_ ?_ ?_ | refine And.intro ?_ ?_ | with_reducible rfl | exact Nat.le_of_ble_eq_true rfl | refine fr1 ?_ | refine fr2 ?_ ?_ | refine AV.int_congr ?_ | refine AV.bool_congr ?_ | refine AV.str_congr ?_ | refine AV.list_congr ?_ | refine AV.bsl_congr ?_ ?_ | (apply rfl)
    · rw [hstep]
    · rw [wrap64 (by omega) (by omega)]; rfl
    · rw [hstep]
theorem act_le {l : List VAction} {i : Nat} (hi : i < l.length) : tAction.size (l.getD i default) ≤ listSize tAction l := tAction_le hi
theorem sWritesOf.own (r : VRule) (h : tRule.size r ≤ 1048576) : sWritesOf.Own [.agg (oldL (tRule.q r))] (strT (wrF r)) := by
  refine Own.of_irP (code := sWritesOf.code) (rs := sWritesOf.res) (K := sWritesOf.keep) Try.func40 rfl (by kernel_rfl) (Nat.le_of_ble_eq_true rfl) (by kernel_rfl) (by kernel_rfl) ?_
  rw [tRule_sz] at h
  repeat' first
    | contradiction | exact trivial
    | (conv => whnf
       first | refine Need.mk (fun h => h) ?_ | refine Need.mk rfl ?_ | refine Need.mk ⟨rfl, Nat.le_of_ble_eq_true rfl⟩ ?_ | refine Need.mk (Nat.le_of_ble_eq_true rfl) ?_ | refine Need.fin ?_ | refine Need.mk ?_ ?_ | refine Ix.strsF rfl ?_ | refine Ix.strs rfl ?_ ?_ | refine Cut.strs rfl ?_ ?_ | refine Ix.mapF (fun _ => rfl) ?_ | refine Ix.map (fun _ => rfl) ?_ ?_ | refine Cut.map (fun _ => rfl) ?_ ?_ | refine Fork.yes (by assumption) ?_ | refine Fork.no (by assumption) ?_ | refine Fork.decYes (by omega) ?_ | refine Fork.decNo (by omega) ?_ | refine Fork.dec (fun _ => ?_) (fun _ => ?_) | refine Fork.bne (fun _ => ?_) (fun _ => ?_) | refine Fork.beq (fun _ => ?_) (fun _ => ?_) | refine Fork.seq (fun _ => ?_) (fun _ => ?_) | refine Fork.sne (fun _ => ?_) (fun _ => ?_) | refine Fork.neg (fun _ => ?_) (fun _ => ?_) | refine Fork.mk (fun _ => ?_) (fun _ => ?_) | refine HAlt.mk ?_ ?_ | apply HJoin.mk3 | exact HEnd.mk rfl rfl rfl | refine HEnd.mk ?_ ?_ ?_ | refine Round.mk ?_ | refine NilQ.mk (fun b hb => ?_) | refine forceK_of ?_ | refine forceBx_of ?_ | refine unG_old ?_ | refine unG_gv ?_ | refine Lit.read rfl ?_ | refine FinVal.keep ?_ | refine FinAgg.keep ?_ | refine Final.mk rfl rfl | refine Final.mk ?_ rfl | refine Final.mk ?_ ?_ | refine FinalT.mk ?_ ?_ | refine FinalC.allA ?_)
    | refine AV.bool_congr ?_ | refine AV.int_congr ?_ | refine AV.str_congr ?_ | refine AV.list_congr ?_ | with_reducible rfl | refine fr1 ?_ | refine fr2 ?_ ?_
  refine ALoop.mk (Nat × Nat × Fr) (fun a => ⟨[(1, .bptr 0 0), (3, .list (some a.2.1) (strs (insAll blt (fm wrC (r.2.2.2.take a.1))))), (4, .val (.int .i64 a.1))], [.cells .var (oldL (tRule.q r))], a.2.2⟩) (fun a => a.1 ≤ r.2.2.2.length ∧ a.2.2[a.2.1]? = some (9, 1, (insAll blt (fm wrC (r.2.2.2.take a.1))).length)) (fun a => r.2.2.2.length - a.1) ⟨(0, 0, [(9, 1, 0)]), ⟨Nat.zero_le _, rfl⟩, ?_⟩ (fun a ha => ?_)
  · repeat' first
      | exact trivial | refine Weak.mk ?_ ?_ ?_ ?_ (Or.inl (Nat.le_of_ble_eq_true rfl)) | refine Weak.mk ?_ ?_ ?_ ?_ (Or.inr ⟨(by repeat' first | exact trivial | exact Nat.le_of_ble_eq_true rfl | refine And.intro ?_ ?_), (by repeat' first | exact trivial | exact Nat.le_of_ble_eq_true rfl | refine And.intro ?_ ?_)⟩) | refine Weak.mk ?_ ?_ ?_ ?_ ?_ | refine And.intro ?_ ?_ | with_reducible rfl | exact Nat.le_of_ble_eq_true rfl | refine fr1 ?_ | refine fr2 ?_ ?_ | refine AV.int_congr ?_ | refine AV.bool_congr ?_ | refine AV.str_congr ?_ | refine AV.list_congr ?_ | refine AV.bsl_congr ?_ ?_ | (apply rfl)
  obtain ⟨hi, hF⟩ := ha
  have hl := fm_len1T wrC wrC_len r.2.2.2 a.1
  have hl' := insAll_le (fm wrC (r.2.2.2.take a.1))
  by_cases hi' : a.1 < r.2.2.2.length
  rotate_left
  · rw [List.take_of_length_le (by omega)] at hF
    repeat' first
      | contradiction | exact trivial
      | (conv => whnf
         first | refine Need.mk (fun h => h) ?_ | refine Need.mk rfl ?_ | refine Need.mk ⟨rfl, Nat.le_of_ble_eq_true rfl⟩ ?_ | refine Need.mk (Nat.le_of_ble_eq_true rfl) ?_ | refine Need.finN ?_ | refine Need.mk ?_ ?_ | refine Ix.strsN rfl ?_ | refine Ix.strs rfl ?_ ?_ | refine Cut.strs rfl ?_ ?_ | refine Ix.mapN (fun _ => rfl) ?_ | refine Ix.map (fun _ => rfl) ?_ ?_ | refine Cut.map (fun _ => rfl) ?_ ?_ | refine Fork.yes (by assumption) ?_ | refine Fork.no (by assumption) ?_ | refine Fork.decY ?_ | refine Fork.andY ?_ | refine Fork.andN ?_ | refine Fork.decN ?_ | refine Fork.dec (fun _ => ?_) (fun _ => ?_) | refine Fork.bne (fun _ => ?_) (fun _ => ?_) | refine Fork.beq (fun _ => ?_) (fun _ => ?_) | refine Fork.seq (fun _ => ?_) (fun _ => ?_) | refine Fork.sne (fun _ => ?_) (fun _ => ?_) | refine Fork.neg (fun _ => ?_) (fun _ => ?_) | refine Fork.mk (fun _ => ?_) (fun _ => ?_) | refine HAlt.mk ?_ ?_ | apply HJoin.mk3 | exact HEnd.mk rfl rfl rfl | refine HEnd.mk ?_ ?_ ?_ | refine Round.mk ?_ | refine NilQ.mk (fun b hb => ?_) | refine forceK_of ?_ | refine forceBx_of ?_ | refine unG_old ?_ | refine unG_gv ?_ | refine Lit.read rfl ?_ | refine FinVal.keep ?_ | refine FinAgg.keep ?_ | refine Final.mk rfl rfl | refine Final.mk ?_ rfl | refine Final.mk ?_ ?_ | refine FinalT.mk ?_ ?_ | refine FinalC.allA ?_)
      | refine AV.bool_congr ?_ | refine AV.int_congr ?_ | refine AV.str_congr ?_ | refine AV.list_congr ?_ | with_reducible rfl | refine fr1 ?_ | refine fr2 ?_ ?_
    rw [List.take_of_length_le (show r.2.2.2.length ≤ a.1 by omega)]
    exact own_anyP hF
  have hc := act_le hi'
  have hz := tAction_sz (r.2.2.2.getD a.1 default)
  have hstep := fm_take default wrC hi'
  repeat' first
    | contradiction | exact trivial
    | (conv => whnf
       first | refine Need.mk (fun h => h) ?_ | refine Need.mk rfl ?_ | refine Need.mk ⟨rfl, Nat.le_of_ble_eq_true rfl⟩ ?_ | refine Need.mk (Nat.le_of_ble_eq_true rfl) ?_ | refine Need.finN ?_ | refine Need.mk ?_ ?_ | refine Ix.strsN rfl ?_ | refine Ix.strs rfl ?_ ?_ | refine Cut.strs rfl ?_ ?_ | refine Ix.mapN (fun _ => rfl) ?_ | refine Ix.map (fun _ => rfl) ?_ ?_ | refine Cut.map (fun _ => rfl) ?_ ?_ | refine Fork.yes (by assumption) ?_ | refine Fork.no (by assumption) ?_ | refine Fork.decY ?_ | refine Fork.andY ?_ | refine Fork.andN ?_ | refine Fork.decN ?_ | refine Fork.dec (fun _ => ?_) (fun _ => ?_) | refine Fork.bne (fun _ => ?_) (fun _ => ?_) | refine Fork.beq (fun _ => ?_) (fun _ => ?_) | refine Fork.seq (fun _ => ?_) (fun _ => ?_) | refine Fork.sne (fun _ => ?_) (fun _ => ?_) | refine Fork.neg (fun _ => ?_) (fun _ => ?_) | refine Fork.mk (fun _ => ?_) (fun _ => ?_) | refine HAlt.mk ?_ ?_ | apply HJoin.mk3 | exact HEnd.mk rfl rfl rfl | refine HEnd.mk ?_ ?_ ?_ | refine Round.mk ?_ | refine NilQ.mk (fun b hb => ?_) | refine forceK_of ?_ | refine forceBx_of ?_ | refine unG_old ?_ | refine unG_gv ?_ | refine Lit.read rfl ?_ | refine FinVal.keep ?_ | refine FinAgg.keep ?_ | refine Final.mk rfl rfl | refine Final.mk ?_ rfl | refine Final.mk ?_ ?_ | refine FinalT.mk ?_ ?_ | refine FinalC.allA ?_ | refine ACall.mkStrs _ _ (sPut.ret _ _ ?_) (by repeat' first | exact SeesL.nil | refine SeesL.cons ?_ ?_ | exact SeesB.of0 (Sees0.val _) | exact SeesB.of0 (Sees0.str _) | exact SeesB.of0 (Sees0.olds _ _) | exact SeesB.of0 (Sees0.old _) | exact SeesB.of0 (Sees0.oldagg _) | exact SeesB.of0 Sees0.nil | exact Sees0.val _ | exact Sees0.str _ | exact Sees0.olds _ _ | exact Sees0.old _ | exact Sees0.oldagg _ | exact Sees0.nil | exact SeesB.of0 (Sees0.any _) | assumption | exact sees_gv _ _ _ (by assumption) (by first | assumption | exact BoxIn.last _ _ | exact BoxIn.more (BoxIn.last _ _) _) | refine SeesB.agg ?_ | refine Sees0.agg ?_ | exact SeesB.of0 (Sees0.clo SeesL.nil SeesL.nil) | exact Sees0.clo SeesL.nil SeesL.nil | exact SeesB.of0 (Sees0.list rfl) | exact Sees0.list rfl) ?_)
    | refine AV.bool_congr ?_ | refine AV.int_congr ?_ | refine AV.str_congr ?_ | refine AV.list_congr ?_ | with_reducible rfl | refine fr1 ?_ | refine fr2 ?_ ?_
  · omega
  · have h1 := ‹(_ || _) = true›
    rw [Int.toNat_natCast] at h1
    have h1 : hasKind (r.2.2.2.getD a.1 default).1 = true := h1
    rw [wrC, if_pos h1] at hstep
    refine ⟨(a.1 + 1, a.2.2.length, a.2.2 ++ [(9, 1, (insAll blt (fm wrC (r.2.2.2.take (a.1 + 1)))).length)]), ⟨by omega, by simp⟩, ?_, by omega⟩
    repeat' first
      | exact trivial | refine Weak.mk ?_ ?_ ?_ ?_ (Or.inl (Nat.le_of_ble_eq_true rfl)) | refine Weak.mk ?_ ?_ ?_ ?_ (Or.inr ⟨(by repeat' first | exact trivial | exact Nat.le_of_ble_eq_true rfl | refine And.intro ?_ ?_), (by repeat' first | exact trivial | exact Nat.le_of_ble_eq_true rfl | refine And.intro ?_ ?_)⟩) | refine Weak.mk ?_ ?_ ?_ ?_ ?_ | refine And.intro ?_ ?_ | with_reducible rfl | exact Nat.le_of_ble_eq_true rfl | refine fr1 ?_ | refine fr2 ?_ ?_ | refine AV.int_congr ?_ | refine AV.bool_congr ?_ | refine AV.str_congr ?_ | refine AV.list_congr ?_ | refine AV.bsl_congr ?_ ?_ | (apply rfl)
    · show strs _ = strs (insAll blt (fm wrC (r.2.2.2.take (a.1 + 1))))
      rw [hstep, ins_snoc, Int.toNat_natCast]
    · rw [wrap64 (by omega) (by omega)]; rfl
    · show a.2.2 ++ [(9, 1, (ins blt (r.2.2.2.getD a.1 default).2.1 false (insAll blt (fm wrC (r.2.2.2.take a.1)))).length)] = a.2.2 ++ [_]
      rw [hstep, ins_snoc]
  · have h1 := ‹(_ || _) = false›
    rw [Int.toNat_natCast] at h1
    have h1 : ¬ hasKind (r.2.2.2.getD a.1 default).1 = true := by rw [Bool.not_eq_true]; exact h1
    rw [wrC, if_neg h1, List.append_nil] at hstep
    refine ⟨(a.1 + 1, a.2.1, a.2.2), ⟨by omega, by rw [hstep]; exact hF⟩, ?_, by omega⟩
    repeat' first
      | exact trivial | refine Weak.mk ?_ ?_ ?_ ?_ (Or.inl (Nat.le_of_ble_eq_true rfl)) | refine Weak.mk ?_ ?_ ?_ ?_ (Or.inr ⟨(by repeat' first | exact trivial | exact Nat.le_of_ble_eq_true rfl | refine And.intro ?_ ?_), (by repeat' first | exact trivial | exact Nat.le_of_ble_eq_true rfl | refine And.intro ?_ ?_)⟩) | refine Weak.mk ?_ ?_ ?_ ?_ ?_ | refine And.intro ?_ ?_ | with_reducible rfl | exact Nat.le_of_ble_eq_true rfl | refine fr1 ?_ | refine fr2 ?_ ?_ | refine AV.int_congr ?_ | refine AV.bool_congr ?_ | refine AV.str_congr ?_ | refine AV.list_congr ?_ | refine AV.bsl_congr ?_ ?_ | (apply rfl)
    · rw [hstep]
    · rw [wrap64 (by omega) (by omega)]; rfl
theorem pWritesOf.own (r : VRule) (h : tRule.size r ≤ 1048576) : pWritesOf.Own [.agg (oldL (tRule.q r))] (strT (wrF r)) := by
  refine own_row (k := 1) rfl (?_ : pWritesOf.Ret _ (.list (some 1) (strs (wrF r))) [(9, 1, (fm wrC r.2.2.2).length), (9, 1, (wrF r).length)])
  refine pWritesOf.of rfl ?_
  rw [tRule_sz] at h
  repeat' first
    | contradiction | exact trivial
    | (conv => whnf
       first | refine Need.mk (fun h => h) ?_ | refine Need.mk rfl ?_ | refine Need.mk ⟨rfl, Nat.le_of_ble_eq_true rfl⟩ ?_ | refine Need.mk (Nat.le_of_ble_eq_true rfl) ?_ | refine Need.fin ?_ | refine Need.mk ?_ ?_ | refine Ix.strsF rfl ?_ | refine Ix.strs rfl ?_ ?_ | refine Cut.strs rfl ?_ ?_ | refine Ix.mapF (fun _ => rfl) ?_ | refine Ix.map (fun _ => rfl) ?_ ?_ | refine Cut.map (fun _ => rfl) ?_ ?_ | refine Fork.yes (by assumption) ?_ | refine Fork.no (by assumption) ?_ | refine Fork.decYes (by omega) ?_ | refine Fork.decNo (by omega) ?_ | refine Fork.dec (fun _ => ?_) (fun _ => ?_) | refine Fork.bne (fun _ => ?_) (fun _ => ?_) | refine Fork.beq (fun _ => ?_) (fun _ => ?_) | refine Fork.seq (fun _ => ?_) (fun _ => ?_) | refine Fork.sne (fun _ => ?_) (fun _ => ?_) | refine Fork.neg (fun _ => ?_) (fun _ => ?_) | refine Fork.mk (fun _ => ?_) (fun _ => ?_) | refine HAlt.mk ?_ ?_ | apply HJoin.mk3 | exact HEnd.mk rfl rfl rfl | refine HEnd.mk ?_ ?_ ?_ | refine Round.mk ?_ | refine NilQ.mk (fun b hb => ?_) | refine forceK_of ?_ | refine forceBx_of ?_ | refine unG_old ?_ | refine unG_gv ?_ | refine Lit.read rfl ?_ | refine FinVal.keep ?_ | refine FinAgg.keep ?_ | refine Final.mk rfl rfl | refine Final.mk ?_ rfl | refine Final.mk ?_ ?_ | refine FinalT.mk ?_ ?_ | refine FinalC.allA ?_)
    | refine AV.bool_congr ?_ | refine AV.int_congr ?_ | refine AV.str_congr ?_ | refine AV.list_congr ?_ | with_reducible rfl | refine fr1 ?_ | refine fr2 ?_ ?_
  refine ALoop.mk Nat (fun i => ⟨[(3, .list (some 0) (strs (fm wrC (r.2.2.2.take i)))), (8, .list none (rows tAction r.2.2.2)), (9, .val (.int .i64 r.2.2.2.length)), (10, .val (.int .i64 i))], [.cells .var (oldL (tRule.q r))], [(9, 1, (fm wrC (r.2.2.2.take i)).length)]⟩) (fun i => i ≤ r.2.2.2.length) (fun i => r.2.2.2.length - i) ⟨0, Nat.zero_le _, ?_⟩ (fun i hi => ?_)
  · repeat' first
      | exact trivial | refine Weak.mk ?_ ?_ ?_ ?_ (Or.inl (Nat.le_of_ble_eq_true rfl)) | refine Weak.mk ?_ ?_ ?_ ?_ (Or.inr ⟨(by repeat' first | exact trivial | exact Nat.le_of_ble_eq_true rfl | refine And.intro ?_ ?_), (by repeat' first | exact trivial | exact Nat.le_of_ble_eq_true rfl | refine And.intro ?_ ?_)⟩) | refine Weak.mk ?_ ?_ ?_ ?_ ?_ | refine And.intro ?_ ?_ | with_reducible rfl | exact Nat.le_of_ble_eq_true rfl | refine fr1 ?_ | refine fr2 ?_ ?_ | refine AV.int_congr ?_ | refine AV.bool_congr ?_ | refine AV.str_congr ?_ | refine AV.list_congr ?_ | refine AV.bsl_congr ?_ ?_ | (apply rfl)
    simp
  have hl := fm_len1T wrC wrC_len r.2.2.2 i
  by_cases hi' : i < r.2.2.2.length
  rotate_left
  · have e : r.2.2.2.take i = r.2.2.2 := List.take_of_length_le (by omega)
    repeat' first
      | contradiction | exact trivial
      | (conv => whnf
         first | refine Need.mk (fun h => h) ?_ | refine Need.mk rfl ?_ | refine Need.mk ⟨rfl, Nat.le_of_ble_eq_true rfl⟩ ?_ | refine Need.mk (Nat.le_of_ble_eq_true rfl) ?_ | refine Need.finN ?_ | refine Need.mk ?_ ?_ | refine Ix.strsN rfl ?_ | refine Ix.strs rfl ?_ ?_ | refine Cut.strs rfl ?_ ?_ | refine Ix.mapN (fun _ => rfl) ?_ | refine Ix.map (fun _ => rfl) ?_ ?_ | refine Cut.map (fun _ => rfl) ?_ ?_ | refine Fork.yes (by assumption) ?_ | refine Fork.no (by assumption) ?_ | refine Fork.decY ?_ | refine Fork.andY ?_ | refine Fork.andN ?_ | refine Fork.decN ?_ | refine Fork.dec (fun _ => ?_) (fun _ => ?_) | refine Fork.bne (fun _ => ?_) (fun _ => ?_) | refine Fork.beq (fun _ => ?_) (fun _ => ?_) | refine Fork.seq (fun _ => ?_) (fun _ => ?_) | refine Fork.sne (fun _ => ?_) (fun _ => ?_) | refine Fork.neg (fun _ => ?_) (fun _ => ?_) | refine Fork.mk (fun _ => ?_) (fun _ => ?_) | refine HAlt.mk ?_ ?_ | apply HJoin.mk3 | exact HEnd.mk rfl rfl rfl | refine HEnd.mk ?_ ?_ ?_ | refine Round.mk ?_ | refine NilQ.mk (fun b hb => ?_) | refine forceK_of ?_ | refine forceBx_of ?_ | refine unG_old ?_ | refine unG_gv ?_ | refine Lit.read rfl ?_ | refine FinVal.keep ?_ | refine FinAgg.keep ?_ | refine Final.mk rfl rfl | refine Final.mk ?_ rfl | refine Final.mk ?_ ?_ | refine FinalT.mk ?_ ?_ | refine FinalC.allA ?_ | refine ACall.mkStrs _ _ (pSortedTexts.ret _ ?_) (by repeat' first | exact SeesL.nil | refine SeesL.cons ?_ ?_ | exact SeesB.of0 (Sees0.val _) | exact SeesB.of0 (Sees0.str _) | exact SeesB.of0 (Sees0.olds _ _) | exact SeesB.of0 (Sees0.old _) | exact SeesB.of0 (Sees0.oldagg _) | exact SeesB.of0 Sees0.nil | exact Sees0.val _ | exact Sees0.str _ | exact Sees0.olds _ _ | exact Sees0.old _ | exact Sees0.oldagg _ | exact Sees0.nil | exact SeesB.of0 (Sees0.any _) | assumption | exact sees_gv _ _ _ (by assumption) (by first | assumption | exact BoxIn.last _ _ | exact BoxIn.more (BoxIn.last _ _) _) | refine SeesB.agg ?_ | refine Sees0.agg ?_ | exact SeesB.of0 (Sees0.clo SeesL.nil SeesL.nil) | exact Sees0.clo SeesL.nil SeesL.nil | exact SeesB.of0 (Sees0.list rfl) | exact Sees0.list rfl) ?_)
      | refine AV.bool_congr ?_ | refine AV.int_congr ?_ | refine AV.str_congr ?_ | refine AV.list_congr ?_ | with_reducible rfl | refine fr1 ?_ | refine fr2 ?_ ?_
    · omega
    all_goals rw [e] <;> rfl
  have hstep := fm_take default wrC hi'
  repeat' first
    | contradiction | exact trivial
    | (conv => whnf
       first | refine Need.mk (fun h => h) ?_ | refine Need.mk rfl ?_ | refine Need.mk ⟨rfl, Nat.le_of_ble_eq_true rfl⟩ ?_ | refine Need.mk (Nat.le_of_ble_eq_true rfl) ?_ | refine Need.finN ?_ | refine Need.mk ?_ ?_ | refine Ix.strsN rfl ?_ | refine Ix.strs rfl ?_ ?_ | refine Cut.strs rfl ?_ ?_ | refine Ix.mapN (fun _ => rfl) ?_ | refine Ix.map (fun _ => rfl) ?_ ?_ | refine Cut.map (fun _ => rfl) ?_ ?_ | refine Fork.yes (by assumption) ?_ | refine Fork.no (by assumption) ?_ | refine Fork.decY ?_ | refine Fork.andY ?_ | refine Fork.andN ?_ | refine Fork.decN ?_ | refine Fork.dec (fun _ => ?_) (fun _ => ?_) | refine Fork.bne (fun _ => ?_) (fun _ => ?_) | refine Fork.beq (fun _ => ?_) (fun _ => ?_) | refine Fork.seq (fun _ => ?_) (fun _ => ?_) | refine Fork.sne (fun _ => ?_) (fun _ => ?_) | refine Fork.neg (fun _ => ?_) (fun _ => ?_) | refine Fork.mk (fun _ => ?_) (fun _ => ?_) | refine HAlt.mk ?_ ?_ | apply HJoin.mk3 | exact HEnd.mk rfl rfl rfl | refine HEnd.mk ?_ ?_ ?_ | refine Round.mk ?_ | refine NilQ.mk (fun b hb => ?_) | refine forceK_of ?_ | refine forceBx_of ?_ | refine unG_old ?_ | refine unG_gv ?_ | refine Lit.read rfl ?_ | refine FinVal.keep ?_ | refine FinAgg.keep ?_ | refine Final.mk rfl rfl | refine Final.mk ?_ rfl | refine Final.mk ?_ ?_ | refine FinalT.mk ?_ ?_ | refine FinalC.allA ?_)
    | refine AV.bool_congr ?_ | refine AV.int_congr ?_ | refine AV.str_congr ?_ | refine AV.list_congr ?_ | with_reducible rfl | refine fr1 ?_ | refine fr2 ?_ ?_
  · simp
  · intro c hc; rw [List.mem_singleton.1 hc]; rfl
  · rw [length_strs]; simp only [List.length_singleton]; omega
  · have h1 := ‹(_ || _) = true›
    rw [Int.toNat_natCast] at h1
    have h1 : hasKind (r.2.2.2.getD i default).1 = true := h1
    rw [wrC, if_pos h1] at hstep
    refine ⟨i + 1, by omega, ?_, by omega⟩
    repeat' first
      | exact trivial | refine Weak.mk ?_ ?_ ?_ ?_ (Or.inl (Nat.le_of_ble_eq_true rfl)) | refine Weak.mk ?_ ?_ ?_ ?_ (Or.inr ⟨(by repeat' first | exact trivial | exact Nat.le_of_ble_eq_true rfl | refine And.intro ?_ ?_), (by repeat' first | exact trivial | exact Nat.le_of_ble_eq_true rfl | refine And.intro ?_ ?_)⟩) | refine Weak.mk ?_ ?_ ?_ ?_ ?_ | refine And.intro ?_ ?_ | with_reducible rfl | exact Nat.le_of_ble_eq_true rfl | refine fr1 ?_ | refine fr2 ?_ ?_ | refine AV.int_congr ?_ | refine AV.bool_congr ?_ | refine AV.str_congr ?_ | refine AV.list_congr ?_ | refine AV.bsl_congr ?_ ?_ | (apply rfl)
    · rw [hstep, strs_append] <;> rfl
    · rw [wrap64 (by omega) (by omega)]; rfl
    · rw [hstep, List.length_append, length_strs] <;> rfl
  · have h1 := ‹(_ || _) = false›
    rw [Int.toNat_natCast] at h1
    have h1 : ¬ hasKind (r.2.2.2.getD i default).1 = true := by rw [Bool.not_eq_true]; exact h1
    rw [wrC, if_neg h1, List.append_nil] at hstep
    refine ⟨i + 1, by omega, ?_, by omega⟩
    repeat' first
      | exact trivial | refine Weak.mk ?_ ?_ ?_ ?_ (Or.inl (Nat.le_of_ble_eq_true rfl)) | refine Weak.mk ?_ ?_ ?_ ?_ (Or.inr ⟨(by repeat' first | exact trivial | exact Nat.le_of_ble_eq_true rfl | refine And.intro ?_ ?_), (by repeat' first | exact trivial | exact Nat.le_of_ble_eq_true rfl | refine And.intro ?_ ?_)⟩) | refine Weak.mk ?_ ?_ ?_ ?_ ?_ | refine And.intro ?_ ?_ | with_reducible rfl | exact Nat.le_of_ble_eq_true rfl | refine fr1 ?_ | refine fr2 ?_ ?_ | refine AV.int_congr ?_ | refine AV.bool_congr ?_ | refine AV.str_congr ?_ | refine AV.list_congr ?_ | refine AV.bsl_congr ?_ ?_ | (apply rfl)
    · rw [hstep]
    · rw [wrap64 (by omega) (by omega)]; rfl
    · rw [hstep]
end Go.Proofs.Ytimcfgokocihnaa
namespace Go.Proofs.Ytimcfgokocihnaa
open Abs
theorem insB_size (l : List Str) : tStrs.size (insAll blt l) ≤ l.length + listSize Ty.str l := by
  rw [tStrs_size]
  have h1 := insAll_le l
  have h2 := insAll_size l
  omega
theorem rdC_size (x : VCond) : listSize Ty.str (rdC x) ≤ tCond.size x := by
  have hz := tCond_sz x
  unfold rdC; split
  · show x.2.1.1.length + 0 ≤ _; omega
  · exact Nat.zero_le _
theorem wrC_size (x : VAction) : listSize Ty.str (wrC x) ≤ tAction.size x := by
  have hz := tAction_sz x
  unfold wrC; split
  · show x.2.1.length + 0 ≤ _; omega
  · exact Nat.zero_le _
theorem lawExactReadsOf.ret (a0 : VRule) (hb0 : tRule.bd a0) : lawExactReadsOf.Ret [.agg (oldL (tRule.q a0))] (.val (.bool true)) [] := by
  refine lawExactReadsOf.of_own a0 hb0 fun h => ⟨_, ?_, sReadsOf.own a0 h, pReadsOf.own a0 h⟩
  have h1 := insB_size (fm rdC a0.2.2.1)
  have h2 := fm_len1 rdC rdC_len a0.2.2.1
  have h3 := fm_size tCond rdC rdC_size a0.2.2.1
  rw [tRule_sz] at h
  unfold rdF; omega
theorem lawExactWritesOf.ret (a0 : VRule) (hb0 : tRule.bd a0) : lawExactWritesOf.Ret [.agg (oldL (tRule.q a0))] (.val (.bool true)) [] := by
  refine lawExactWritesOf.of_own a0 hb0 fun h => ⟨_, ?_, sWritesOf.own a0 h, pWritesOf.own a0 h⟩
  have h1 := insB_size (fm wrC a0.2.2.2)
  have h2 := fm_len1 wrC wrC_len a0.2.2.2
  have h3 := fm_size tAction wrC wrC_size a0.2.2.2
  rw [tRule_sz] at h
  unfold wrF; omega
end Go.Proofs.Ytimcfgokocihnaa
namespace Go.Proofs.Ytimcfgokocihnaa
def headSigns : List Nat := [104, 97, 114, 110, 101, 115, 115, 32, 54, 51, 102, 101, 54, 51, 49, 48, 50, 53, 99, 49, 50, 55, 57, 102, 102, 49, 98, 50, 52, 102, 101, 97, 51, 57, 56, 50, 48, 52, 57, 51, 50, 99, 102, 57, 48, 48, 51, 52, 97, 50, 49, 55, 50, 51, 101, 56, 98, 54, 99, 101, 57, 55, 99, 54, 57, 57, 102, 54, 97, 53, 99, 53, 32, 99, 117, 116, 32, 97, 116, 32, 108, 111, 111, 112, 46, 101, 120, 97, 109, 112, 108, 101, 47, 103, 48, 51, 48, 49, 53, 47, 108, 97, 119, 115, 46, 70, 110, 69, 120, 97, 99, 116, 73, 115, 65, 99, 116, 105, 111, 110, 32, 108, 111, 111, 112, 46, 101, 120, 97, 109, 112, 108, 101, 47, 103, 48, 51, 48, 49, 53, 47, 108, 97, 119, 115, 46, 70, 110, 69, 120, 97, 99, 116, 66, 111, 117, 110, 100, 86, 97, 114, 115, 32, 108, 111, 111, 112, 46, 101, 120, 97, 109, 112, 108, 101, 47, 103, 48, 51, 48, 49, 53, 47, 108, 97, 119, 115, 46, 70, 110, 69, 120, 97, 99, 116, 82, 117, 108, 101, 86, 97, 114, 115, 32, 108, 111, 111, 112, 46, 101, 120, 97, 109, 112, 108, 101, 47, 103, 48, 51, 48, 49, 53, 47, 108, 97, 119, 115, 46, 70, 110, 69, 120, 97, 99, 116, 70, 105, 110, 100, 82, 117, 108, 101, 32, 108, 111, 111, 112, 46, 101, 120, 97, 109, 112, 108, 101, 47, 103, 48, 51, 48, 49, 53, 47, 108, 97, 119, 115, 46, 70, 110, 69, 120, 97, 99, 116, 83, 112, 101, 99, 105, 102, 105, 99, 105, 116, 121, 32, 108, 111, 111, 112, 46, 101, 120, 97, 109, 112, 108, 101, 47, 103, 48, 51, 48, 49, 53, 47, 108, 97, 119, 115, 46, 70, 110, 69, 120, 97, 99, 116, 82, 101, 97, 100, 115, 79, 102, 32, 108, 111, 111, 112, 46, 101, 120, 97, 109, 112, 108, 101, 47, 103, 48, 51, 48, 49, 53, 47, 108, 97, 119, 115, 46, 70, 110, 69, 120, 97, 99, 116, 87, 114, 105, 116, 101, 115, 79, 102, 32, 108, 111, 111, 112, 46, 101, 120, 97, 109, 112, 108, 101, 47, 103, 48, 51, 48, 49, 53, 47, 108, 97, 119, 115, 46, 70, 110, 69, 120, 97, 99, 116, 70, 111, 114, 109, 97, 116, 65, 99, 116, 105, 111, 110, 32, 108, 111, 111, 112, 46, 101, 120, 97, 109, 112, 108, 101, 47, 103, 48, 51, 48, 49, 53, 47, 108, 97, 119, 115, 46, 70, 110, 69, 120, 97, 99, 116, 83, 97, 109, 101, 82, 117, 108, 101, 32, 108, 111, 111, 112, 46, 101, 120, 97, 109, 112, 108, 101, 47, 103, 48, 51, 48, 49, 53, 47, 108, 97, 119, 115, 46, 70, 110, 69, 120, 97, 99, 116, 69, 120, 116, 101, 110, 100, 32, 108, 111, 111, 112, 46, 101, 120, 97, 109, 112, 108, 101, 47, 103, 48, 51, 48, 49, 53, 47, 108, 97, 119, 115, 46, 70, 110, 69, 120, 97, 99, 116, 65, 100, 100, 70, 97, 99, 116, 32, 108, 111, 111, 112, 46, 101, 120, 97, 109, 112, 108, 101, 47, 103, 48, 51, 48, 49, 53, 47, 108, 97, 119, 115, 46, 70, 110, 69, 120, 97, 99, 116, 82, 101, 109, 111, 118, 101, 70, 97, 99, 116]
theorem Abs.head : Try.prog.initOrder = String.ofList (headSigns.map Char.ofNat) := by kernel_rfl
theorem Abs.signs : Try.prog.initOrder.toList = headSigns.map Char.ofNat := by rw [Abs.head, String.toList_ofList]
def headWords : List (List Nat) := [[99, 117, 116], [97, 116], [108, 111, 111, 112, 46, 101, 120, 97, 109, 112, 108, 101, 47, 103, 48, 51, 48, 49, 53, 47, 108, 97, 119, 115, 46, 70, 110, 69, 120, 97, 99, 116, 73, 115, 65, 99, 116, 105, 111, 110], [108, 111, 111, 112, 46, 101, 120, 97, 109, 112, 108, 101, 47, 103, 48, 51, 48, 49, 53, 47, 108, 97, 119, 115, 46, 70, 110, 69, 120, 97, 99, 116, 66, 111, 117, 110, 100, 86, 97, 114, 115], [108, 111, 111, 112, 46, 101, 120, 97, 109, 112, 108, 101, 47, 103, 48, 51, 48, 49, 53, 47, 108, 97, 119, 115, 46, 70, 110, 69, 120, 97, 99, 116, 82, 117, 108, 101, 86, 97, 114, 115], [108, 111, 111, 112, 46, 101, 120, 97, 109, 112, 108, 101, 47, 103, 48, 51, 48, 49, 53, 47, 108, 97, 119, 115, 46, 70, 110, 69, 120, 97, 99, 116, 70, 105, 110, 100, 82, 117, 108, 101], [108, 111, 111, 112, 46, 101, 120, 97, 109, 112, 108, 101, 47, 103, 48, 51, 48, 49, 53, 47, 108, 97, 119, 115, 46, 70, 110, 69, 120, 97, 99, 116, 83, 112, 101, 99, 105, 102, 105, 99, 105, 116, 121], [108, 111, 111, 112, 46, 101, 120, 97, 109, 112, 108, 101, 47, 103, 48, 51, 48, 49, 53, 47, 108, 97, 119, 115, 46, 70, 110, 69, 120, 97, 99, 116, 82, 101, 97, 100, 115, 79, 102], [108, 111, 111, 112, 46, 101, 120, 97, 109, 112, 108, 101, 47, 103, 48, 51, 48, 49, 53, 47, 108, 97, 119, 115, 46, 70, 110, 69, 120, 97, 99, 116, 87, 114, 105, 116, 101, 115, 79, 102], [108, 111, 111, 112, 46, 101, 120, 97, 109, 112, 108, 101, 47, 103, 48, 51, 48, 49, 53, 47, 108, 97, 119, 115, 46, 70, 110, 69, 120, 97, 99, 116, 70, 111, 114, 109, 97, 116, 65, 99, 116, 105, 111, 110], [108, 111, 111, 112, 46, 101, 120, 97, 109, 112, 108, 101, 47, 103, 48, 51, 48, 49, 53, 47, 108, 97, 119, 115, 46, 70, 110, 69, 120, 97, 99, 116, 83, 97, 109, 101, 82, 117, 108, 101], [108, 111, 111, 112, 46, 101, 120, 97, 109, 112, 108, 101, 47, 103, 48, 51, 48, 49, 53, 47, 108, 97, 119, 115, 46, 70, 110, 69, 120, 97, 99, 116, 69, 120, 116, 101, 110, 100], [108, 111, 111, 112, 46, 101, 120, 97, 109, 112, 108, 101, 47, 103, 48, 51, 48, 49, 53, 47, 108, 97, 119, 115, 46, 70, 110, 69, 120, 97, 99, 116, 65, 100, 100, 70, 97, 99, 116], [108, 111, 111, 112, 46, 101, 120, 97, 109, 112, 108, 101, 47, 103, 48, 51, 48, 49, 53, 47, 108, 97, 119, 115, 46, 70, 110, 69, 120, 97, 99, 116, 82, 101, 109, 111, 118, 101, 70, 97, 99, 116]]
theorem Abs.words : behindMainWord (wordsSigns (headSigns.map Char.ofNat)) = headWords.map fun w => w.map Char.ofNat := by kernel_rfl
theorem Abs.heads : behindMainWord (wordsSigns Try.prog.initOrder.toList) = headWords.map fun w => w.map Char.ofNat := by rw [Abs.signs, Abs.words]
theorem enters_gen (P : Program) (h : behindMainWord (wordsSigns P.initOrder.toList) = headWords.map fun w => w.map Char.ofNat) (h1 : P.laysLater = false) (h2 : P.bearsReflect = false) (h3 : P.doorFits [] = true) : P.mayEnter = true := by
  have h4 : stripLifts liftWords (headWords.map fun w => w.map Char.ofNat) = ([], headWords.map fun w => w.map Char.ofNat) := by kernel_rfl
  have h5 : (headWords.map fun w => w.map Char.ofNat) = (headWords.headD []).map Char.ofNat :: (headWords.tail.map fun w => w.map Char.ofNat) := rfl
  unfold Program.mayEnter
  rw [h, h1, h2, h5]
  simp only []
  rw [← h5, h4]
  simp only []
  rw [h3]
  rfl
theorem final_gen (P : Program) (h : behindMainWord (wordsSigns P.initOrder.toList) = headWords.map fun w => w.map Char.ofNat) : P.liftsFinal = false := by
  unfold Program.liftsFinal Program.headLifts
  rw [h]
  kernel_rfl
theorem made_gen (P : Program) (h : behindMainWord (wordsSigns P.initOrder.toList) = headWords.map fun w => w.map Char.ofNat) : P.make = some .cut := by
  unfold Program.make
  rw [h]
  rfl
theorem Abs.enters : Try.prog.mayEnter = true := enters_gen _ Abs.heads (by kernel_rfl) (by kernel_rfl) (by kernel_rfl)
theorem Abs.final : Try.prog.liftsFinal = false := final_gen _ Abs.heads
theorem Abs.made : Try.prog.make = some .cut := made_gen _ Abs.heads
theorem Abs.rowed : mapsRowed Try.prog = true := by kernel_rfl
theorem Abs.laidOut : laidOutB Try.prog = true := by kernel_rfl
/-- the closed facts of a row, without what is known already -/
def joinedLess (P : Program) (f : FuncId) (fn : Func) (s : ChangeSpec) (c : OpenClaim) (h1 : P.mayEnter = true) (h2 : P.liftsFinal = false) (h3 : P.make = some .cut) (h4 : mapsRowed P = true) (h5 : laidOutB P = true) : {b : Bool // joinedFacts P f fn s c = b} := by
  refine ⟨?b, ?h⟩
  case h =>
    unfold joinedFacts
    rw [h1, h2, h3, h4, h5]
theorem Abs.closed {f : FuncId} {fn : Func} {s : ChangeSpec} {c : OpenClaim} (h : (joinedLess Try.prog f fn s c Abs.enters Abs.final Abs.made Abs.rowed Abs.laidOut).1 = true) : joinedFacts Try.prog f fn s c = true :=
  (joinedLess Try.prog f fn s c Abs.enters Abs.final Abs.made Abs.rowed Abs.laidOut).2.trans h
end Go.Proofs.Ytimcfgokocihnaa
namespace Go.Proofs.Ytimcfgokocihnaa
namespace Abs
open Go.ChangeShapes Go.WideShapes Go.RowKit
def clF (P : Program) (g : TypeId → Option (List Cl)) : Nat → List Field → Option (List Cl)
  | _, [] => some []
  | off, f :: fs => match g f.type with
    | some cs => if f.offset = off ∧ cs.length = P.cellsOf f.type then
        (match clF P g (off + cs.length) fs with | some r => some (cs ++ r) | none => none) else none
    | none => none
def clOf (P : Program) : Nat → TypeId → Option (List Cl)
  | 0, _ => none
  | n + 1, t => match P.underlying t with
    | some .string => some [.str]
    | some .bool => some [.bool]
    | some (.int k) => some [.int k]
    | some (.slice e) => match clOf P n e with
      | some cs => if cs.length = P.cellsOf e ∧ 0 < P.cellsOf e then some [.sl e (P.cellsOf e) cs] else none
      | none => none
    | some (.struct fs) => match clF P (clOf P n) 0 fs.toList with
      | some cs => if cs.length = P.cellsOf t then some cs else none
      | none => none
    | _ => none
theorem Both.app {R : AV → Value → Prop} {xs ys : List AV} {us vs : List Value} (h : Both R xs us) (h' : Both R ys vs) : Both R (xs ++ ys) (us ++ vs) := by
  refine ⟨by simp [h.1, h'.1], fun i x v hx hv => ?_⟩
  rw [List.getElem?_append] at hx hv
  rw [h.1] at hx
  split at hx
  · rename_i hi; rw [if_pos hi] at hv; exact h.2 i x v hx hv
  · rename_i hi; rw [if_neg hi] at hv; exact h'.2 _ x v hx hv
/-- the cells of all blocks that are there -/
def allF (w : World) (b : Nat) : Nat := match w.heap[b]? with | some (.cells c _ _) => c.size | _ => 0
theorem allF_out (w : World) (b : Nat) (h : w.heap.size ≤ b) : allF w b = 0 := by
  unfold allF; rw [Array.getElem?_eq_none h]
section
variable {H : Type} {enc : TypeId × Value → H} {P : Program} {w : World} {base : Nat} {spare : Nat → Bool} {held : Bool}
def Opens (B : Nat) (w : World) (cls : List Cl) (cs : List Value) : Prop :=
  ∃ trs, FitsL cls trs ∧ Both (Rep B w (allF w) [] [] []) (oldL trs) cs ∧ ∀ v ∈ cs, v.oneCell' = true
theorem Opens.one {B : Nat} {cl : Cl} {v : Value} (x : Tr) (h : FitsL [cl] [x]) (hr : Rep B w (allF w) [] [] [] (old x) v) (h1 : v.oneCell' = true) : Opens B w [cl] [v] :=
  ⟨[x], h, Both.cons.2 ⟨hr, rfl, by simp [oldL]⟩, by simp [h1]⟩
theorem open_fields {fuel : Nat} {cs : List Value} (B : Nat) (g : TypeId → Option (List Cl))
    (ih : ∀ t cs x cls, g t = some cls → DataW.trod enc P w base spare held fuel t cs = some x → Opens B w cls cs) :
    ∀ (fs : List Field) (off : Nat) (cls : List Cl), clF P g off fs = some cls → (∀ f ∈ fs, ∃ x, DataW.trod enc P w base spare held fuel f.type ((cs.drop f.offset).take (P.cellsOf f.type)) = some x) →
      Opens B w cls ((cs.drop off).take cls.length)
  | [], off, cls, h, _ => by
    simp only [clF, Option.some.injEq] at h
    subst h
    exact ⟨[], .nil, by simp [Both, oldL], by simp⟩
  | f :: fs, off, cls, h, hx => by
    unfold clF at h
    cases hg : g f.type with
    | none => rw [hg] at h; cases h
    | some c =>
      rw [hg] at h
      simp only at h
      split at h
      · rename_i hc
        obtain ⟨rfl, hc⟩ := hc
        cases hr : clF P g (f.offset + c.length) fs with
        | none => rw [hr] at h; cases h
        | some r =>
          rw [hr] at h
          simp only [Option.some.injEq] at h
          subst h
          obtain ⟨x, hx1⟩ := hx f (by simp)
          obtain ⟨t1, f1, b1, o1⟩ := ih _ _ _ _ hg hx1
          obtain ⟨t2, f2, b2, o2⟩ := open_fields B g ih fs _ r hr (fun f' hf' => hx f' (by simp [hf']))
          have hsplit : (cs.drop f.offset).take (c ++ r).length = (cs.drop f.offset).take c.length ++ (cs.drop (f.offset + c.length)).take r.length := by
            rw [List.length_append, List.take_add, List.drop_drop]
          rw [hsplit, hc]
          rw [hc] at b2 o2
          refine ⟨t1 ++ t2, f1.append f2, ?_, fun v hv => ?_⟩
          · rw [oldL_eq, List.map_append, ← oldL_eq, ← oldL_eq]; exact b1.app b2
          · rcases List.mem_append.1 hv with h | h
            · exact o1 v h
            · exact o2 v h
      · cases h
theorem open_cells (B : Nat) : ∀ (n fuel : Nat) (t : TypeId) (cs : List Value) (x : DataW H × List MemPlace) (cls : List Cl), clOf P n t = some cls → DataW.trod enc P w base spare held fuel t cs = some x → Opens B w cls cs
  | 0, _, _, _, _, _, h, _ => by cases h
  | n + 1, fuel, t, cs, x, cls, h, hx => by
    unfold clOf at h
    cases ht : P.underlying t with
    | none => rw [ht] at h; cases h
    | some u =>
      rw [ht] at h
      cases u with
      | string =>
        simp only [Option.some.injEq] at h; subst h
        obtain ⟨s, rfl, _, hs⟩ := DataW.trod_string ht hx
        exact Opens.one (.s s.data.toList) (.str _ hs .nil) (rep_string s) rfl
      | bool =>
        simp only [Option.some.injEq] at h; subst h
        cases fuel with
        | zero => simp [DataW.trod] at hx
        | succ m =>
          unfold DataW.trod at hx
          rw [ht] at hx
          split at hx <;> simp_all
          exact Opens.one (.v (.bool _)) (.bool _ .nil) (.val _) rfl
      | int k =>
        simp only [Option.some.injEq] at h; subst h
        obtain ⟨m, rfl, _, hm⟩ := DataW.trod_int ht hx
        exact Opens.one (.v (.int k m)) (.int _ _ hm .nil) (.val _) rfl
      | slice e =>
        simp only at h
        cases hc : clOf P n e with
        | none => rw [hc] at h; cases h
        | some c =>
          rw [hc] at h
          simp only at h
          split at h
          · rename_i hsz
            obtain ⟨hsz, hpos⟩ := hsz
            simp only [Option.some.injEq] at h; subst h
            rcases Go.Deep.open_slice ht hx with ⟨rfl, _⟩ | ⟨a, len, cap, m, k, D, Pl, rfl, _, hl, hm, hmm, _, hel⟩
            · refine Opens.one (.l e (P.cellsOf e) []) (.sl _ _ _ [] (Nat.zero_le _) hsz (by simp) .nil) ?_ rfl
              exact .list none [] none 0 0 0 0 (fun _ _ => undef) (Nat.le_refl _) (fun h => absurd rfl h) (by simp) (fun h => absurd rfl h) (by simp) (by simp) (fun k hk => by cases hk)
            · have hlm : len ≤ m := by rw [hmm]; split <;> omega
              obtain ⟨T, hT⟩ := Go.Deep.choose_lt (α := List Value × List Tr) (n := len) (p := fun i q => w.cells? base (a.add (i * P.cellsOf e)) (P.cellsOf e) = some q.1 ∧ FitsL c q.2 ∧
                  Both (Rep B w (allF w) [] [] []) (oldL q.2) q.1 ∧ ∀ v ∈ q.1, v.oneCell' = true) (fun i hi => by
                obtain ⟨cs', h1, h2⟩ := hel i (by omega)
                obtain ⟨trs, h3, h4, h5⟩ := open_cells B n k e cs' _ c hc h2
                exact ⟨(cs', trs), h1, h3, h4, h5⟩)
              have hlen : ((List.range len).map fun i => (T i).2).length = len := by simp
              refine Opens.one (.l e (P.cellsOf e) ((List.range len).map fun i => (T i).2)) (.sl _ _ _ _ (by rw [hlen]; omega) hsz (fun x hx => ?_) .nil) ?_ rfl
              · obtain ⟨i, hi, rfl⟩ := List.mem_map.1 hx
                exact (hT i (List.mem_range.1 hi)).2.1
              · have hol : (oldLL ((List.range len).map fun i => (T i).2)).length = len := by rw [length_oldLL, hlen]
                have hget : ∀ i e', (oldLL ((List.range len).map fun i => (T i).2))[i]? = some e' → i < len ∧ e' = oldL (T i).2 := by
                  intro i e' he
                  have hi : i < len := by have := getElem?_lt he; omega
                  rw [oldLL_eq] at he
                  simp [hi] at he
                  exact ⟨hi, by rw [oldL_eq]; exact he.symm⟩
                have hlenT : ∀ i, i < len → (oldL (T i).2).length = P.cellsOf e := fun i hi => by rw [oldL_eq, List.length_map, (hT i hi).2.1.length, hsz]
                have hcell : ∀ i j, i < len → j < P.cellsOf e → w.cell? ⟨a.block, a.off + i * P.cellsOf e + j, none⟩ = (T i).1[j]? ∧ a.spot = none := by
                  intro i j hi hj
                  obtain ⟨_, hl', hc'⟩ := World.cells?_some (hT i hi).1
                  have h0 : a.spot = none := by
                    obtain ⟨_, hl0, hc0⟩ := World.cells?_some (hT 0 (by omega)).1
                    have := hc0 0 hpos
                    rw [List.getElem?_eq_getElem (by omega)] at this
                    simp only [Nat.zero_mul, Addr.add, if_true] at this
                    unfold World.cell? at this
                    cases hs : a.spot with
                    | none => rfl
                    | some _ => rw [hs] at this; split at this <;> simp at this
                  refine ⟨?_, h0⟩
                  rw [← hc' j hj, Go.Deep.add_add]
                  unfold Addr.add
                  split
                  · rename_i hz
                    rw [show a.off + i * P.cellsOf e + j = a.off by omega]
                    cases a; simp only at h0; subst h0; rfl
                  · rw [Nat.add_assoc]
                have hrep := Rep.list (B := B) (w := w) (F := allF w) (tok := []) (fr := []) (box := []) none (oldLL ((List.range len).map fun i => (T i).2)) (some a) cap (P.cellsOf e) a.block a.off
                  (fun i j => (T i).1.getD j undef) (by rw [hol]; exact hl)
                  (fun hne => by
                    have : 0 < len := by
                      rcases Nat.eq_zero_or_pos len with h0 | h0
                      · subst h0; exact absurd rfl hne
                      · exact h0
                    have := (hcell 0 0 this hpos).2
                    cases a; simp only at this; subst this; rfl)
                  (fun e' he' => by
                    obtain ⟨i, hi⟩ := List.getElem?_of_mem he'
                    obtain ⟨h1, h2⟩ := hget i e' hi
                    rw [h2]; exact hlenT i h1)
                  (fun hne => by
                    have h0 : 0 < len := by
                      rcases Nat.eq_zero_or_pos len with h0 | h0
                      · subst h0; exact absurd rfl hne
                      · exact h0
                    rw [hol]
                    have hc := (hcell (len - 1) (P.cellsOf e - 1) (by omega) (by omega)).1
                    have hl1 : (T (len - 1)).1.length = P.cellsOf e := (World.cells?_some (hT (len - 1) (by omega)).1).2.1
                    rw [List.getElem?_eq_getElem (by omega)] at hc
                    unfold World.cell? at hc
                    unfold allF
                    simp only at hc
                    split at hc
                    · simp only [Option.isSome_none, Bool.false_eq_true, if_false] at hc
                      have hlt := (Array.getElem?_eq_some_iff.1 hc).1
                      have hmul : (len - 1) * P.cellsOf e + P.cellsOf e = len * P.cellsOf e := by
                        obtain ⟨q, rfl⟩ : ∃ q, len = q + 1 := ⟨len - 1, by omega⟩
                        rw [Nat.add_sub_cancel, Nat.add_mul]; omega
                      rename_i he
                      rw [he]
                      simp only
                      omega
                    · cases hc)
                  (fun i e' j c' hi hj => by
                    obtain ⟨h1, rfl⟩ := hget i e' hi
                    have hj' := getElem?_lt hj
                    rw [hlenT i h1] at hj'
                    have hl1 : (T i).1.length = P.cellsOf e := (World.cells?_some (hT i h1).1).2.1
                    have hg : (T i).1[j]? = some ((T i).1.getD j undef) := by simp [List.getD, hl1, hj']
                    exact ⟨by rw [(hcell i j h1 hj').1, hg], (hT i h1).2.2.2 _ (List.mem_of_getElem? hg)⟩)
                  (fun i e' j c' hi hj => by
                    obtain ⟨h1, rfl⟩ := hget i e' hi
                    have hj' := getElem?_lt hj
                    rw [hlenT i h1] at hj'
                    have hl1 : (T i).1.length = P.cellsOf e := (World.cells?_some (hT i h1).1).2.1
                    have hg : (T i).1[j]? = some ((T i).1.getD j undef) := by simp [List.getD, hl1, hj']
                    exact (hT i h1).2.2.1.2 j c' _ hj hg)
                  (fun k hk => by cases hk)
                rw [hol] at hrep
                exact hrep
          · cases h
      | struct fs =>
        simp only at h
        cases hc : clF P (clOf P n) 0 fs.toList with
        | none => rw [hc] at h; cases h
        | some c =>
          rw [hc] at h
          simp only at h
          split at h
          · rename_i hsz
            simp only [Option.some.injEq] at h; subst h
            obtain ⟨xs, m, rfl, _, hl, hfl, hel⟩ := DataW.trod_struct ht hx
            have := open_fields (fuel := m) (cs := cs) B (clOf P n) (fun t cs x cls h1 h2 => open_cells B n m t cs x cls h1 h2) fs.toList 0 c hc (fun f hf => by
              obtain ⟨i, hi⟩ := List.getElem?_of_mem hf
              have hi' : fs[i]? = some f := by simpa using hi
              have := hel i f hi'
              have hlt : i < xs.length := by have := getElem?_lt hi; simp at this; omega
              exact ⟨_, by rw [this, List.getElem?_eq_getElem hlt]⟩)
            rw [List.drop_zero, hsz, ← hl, List.take_length] at this
            exact this
          · cases h
      | _ => simp only at h; cases h
/-- an argument that is a struct -/
theorem open_argS {t : TypeId} {v : Value} {d : DataW H} {ps : List MemPlace} {r : Reach} {b0 : Nat} (B n : Nat) {cls : List Cl} (hc : clOf P n t = some cls) {fs : Array Field} (hs : P.underlying t = some (.struct fs)) (hval : Value.okWide P w r b0 t v)
    (h : DataW.Trod enc P w base spare held t v d ps) : ∃ xs, FitsL cls xs ∧ Rep B w (allF w) [] [] [] (old (.a xs)) v := by
  obtain ⟨fuel, h⟩ := h
  obtain ⟨trs, h1, h2, h3⟩ := open_cells B n fuel t _ _ _ hc h
  unfold Value.okWide at hval
  rw [hs] at hval
  obtain ⟨cs, rfl, _, _⟩ := hval
  refine ⟨trs, h1, ?_⟩
  have hg : ∀ i, i < cs.size → cs.toList[i]? = some (cs.getD i undef) := fun i hi => by simp [Array.getD, hi]
  have hl : (oldL trs).length = cs.size := by have := h2.1; simpa [Value.cells] using this
  exact .agg _ _ hl (fun i hi => h3 _ (List.mem_of_getElem? (hg i hi))) (fun i c hc => h2.2 i c _ hc (hg i (by have := getElem?_lt hc; omega)))
end
end Abs
end Go.Proofs.Ytimcfgokocihnaa
namespace Go.Proofs.Ytimcfgokocihnaa
namespace Abs
variable {mo : Bool}
open Go.ChangeShapes Go.WideShapes Go.ChangeAt Go.RowKit
section
variable {H : Type} {enc : TypeId × Value → H} {P : Program}
theorem trodAll_stays {base : Nat} (hl : laidOutB P = true) {W W' : World} {sp' : Nat → Bool} : ∀ {ts : List TypeId} {vs : List Value} {ds : List (DataW H)} {ps : List MemPlace},
    (∀ t ∈ ts, P.readableRec t = true ∧ t < P.types.size) → DataW.TrodAll enc P W base (fun _ => true) true ts vs ds ps → (∀ p ∈ ps, W.sameAt W' p) → (∀ p ∈ ps, sp' p.block = true) →
    DataW.TrodAll enc P W' base sp' true ts vs ds ps
  | [], [], [], _, _, h, _, _ => h
  | t :: ts, v :: vs, d :: ds, _, ht, h, hs, hp => by
    obtain ⟨p, q, h1, h2, rfl⟩ := h
    exact ⟨p, q, WideElems.Trod_stays hl (ht t (by simp)).1 (ht t (by simp)).2 h1 (fun x hx => hs x (by simp [hx])) (fun x hx => hp x (by simp [hx])),
      trodAll_stays hl (fun t h => ht t (by simp [h])) h2 (fun x hx => hs x (by simp [hx])) (fun x hx => hp x (by simp [hx])), rfl⟩
/-- a law that says yes, and leaves what was there alone -/
theorem law_post {f : Func} {s : ChangeSpec} {apart fresh handsOn again : Bool} {W W' : World} {args : Array Value} {ds gs : List (DataW H)} {before : List MemPlace} {tb : TypeId}
    (hl : laidOutB P = true) (hv : s.vars = []) (hp : ∀ t ∈ f.params.toList, P.readableRec t = true ∧ t < P.types.size) (hr : f.resultTypes = #[tb]) (htb : P.underlying tb = some .bool)
    (hW : DataW.Whole enc P f.params.toList s.vars apart W args.toList ds gs before) (hb : Bel mo W.heap.size W W')
    (hfn : s.fn H (ds ++ gs) = { results := [.lit (.bool true)], args := ds }) : s.post enc P f apart fresh handsOn again W args (.bool true) W' := by
  have hlt : ∀ p ∈ before, p.block < W.heap.size := fun p hp => hW.lt p hp
  have hW' := hW
  obtain ⟨p, q, hA, hV, hpq, hz, hn⟩ := hW
  rw [hv] at hV
  obtain ⟨hg, hq⟩ : gs = [] ∧ q = [] := trodVars_none hV
  subst hg; subst hq
  simp only [List.append_nil] at hpq hfn hz hn
  subst hpq
  have hargs : ∀ sp : Nat → Bool, (∀ x ∈ before, sp x.block = true) → DataW.TrodAll enc P W' 0 sp true f.params.toList args.toList ds before :=
    fun sp hsp => trodAll_stays hl hp hA (fun x hx => hb.same (hlt x hx)) hsp
  have hres : ∀ (b : Nat) (sp : Nat → Bool) (hd : Bool), DataW.TrodAll enc P W' b sp hd f.resultTypes.toList ((Value.bool true).resultList f.resultTypes.size) [.lit (.bool true)] [] := fun b sp hd => by
    rw [hr]
    exact trodAll_mk1 (shut_bool htb true)
  have hvars : ∀ sp : Nat → Bool, DataW.TrodVars enc P W' sp s.vars [] [] := fun sp => by rw [hv]; rfl
  have hfn' : s.fn H (ds ++ []) = { results := [.lit (.bool true)], args := ds } := by rw [List.append_nil]; exact hfn
  refine ⟨ds, [], before, [], before, [], hW', by rw [hfn']; exact hres _ _ _, by rw [hfn']; exact hargs _ (fun x hx => by simpa using hlt x hx), by rw [hfn']; exact hvars _, hb.frame _, fun _ => ?_⟩
  refine ⟨ok_one hr rfl (okWide_bool_mk htb true), _, _, ([] ++ before) ++ [], ⟨[] ++ before, [], trodAll_append (hargs _ (fun _ _ => rfl)) (hres _ _ _), hvars _, rfl, ?_, ?_⟩, ?_⟩
  · intro b off hp'
    have hm : MemPlace.cell b off ∈ before := by simpa using hp'
    rw [hb.frozen (hlt _ hm)]
    exact hz b off hm
  · intro ha
    simpa using hn ha
  · intro x hx _
    simpa using hx
end
/-- the call's own result -/
theorem law_ret {P : Program} {fid : Nat} {avs : List AV} {args : Array Value} {W : World} (h : Ret mo P fid avs (.val (.bool true)) []) (hB : Both (Rep W.heap.size W (allF W) [] [] []) avs args.toList) :
    Calls P fid args W fun e w' => e = .returned (.bool true) ∧ Bel mo W.heap.size W w' := by
  rw [Ret_eq] at h
  obtain ⟨_, hR⟩ := h
  refine (hR W (allF W) args (fun b hb => allF_out W b hb) hB).mono ?_
  rintro e W' ⟨v, F', tok, box, rfl, hb, _, _, _, _, _, hrep⟩
  cases hrep
  exact ⟨rfl, hb⟩
theorem both_nil {R : AV → Value → Prop} : Both R [] [] := ⟨rfl, by simp⟩
end Abs
theorem Abs.own : ownKnob Try.prog.godebug = none := by kernel_rfl
end Go.Proofs.Ytimcfgokocihnaa
