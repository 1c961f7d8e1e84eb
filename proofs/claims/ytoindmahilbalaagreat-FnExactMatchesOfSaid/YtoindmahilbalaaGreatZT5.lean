/-
  What stands below some laws' proofs, part 5: contracts of functions, by an evaluator.
-/
import Derived.Test.YtoindmahilbalaaGreatZT4
namespace Go.Proofs.YtoindmahilbalaaGreat
open Abs
theorem pmayStandAt.ret (r : VRule) (i : Nat) (h : tRule.size r ≤ 1048576) (hi : i < r.2.2.1.length) : pmayStandAt.Ret [.agg (oldL (tRule.q r)), .val (.int .i64 i)] (.val (.bool (mayF r.2.2.1 r.2.2.2 i (r.2.2.1.getD i default)))) [] := by
  by_cases h1 : (r.2.2.1.getD i default).1 = 1
  · exact pmay1.ret r i h hi h1
  by_cases h2 : (r.2.2.1.getD i default).1 = 2
  · exact pmay2.ret r i h hi h1 h2
  exact pmay3.ret r i h hi h1 h2
def condsF (l : List VCond) : Bool := decide (1 ≤ (l.length : Int)) && decide ((l.length : Int) ≤ 4) && ((l.getD 0 default).1 == 1) && l.all isCondF
def actsF (m : List VAction) : Bool := decide (1 ≤ (m.length : Int)) && decide ((m.length : Int) ≤ 2) && m.all isActF
theorem pareConds.ret (l : List VCond) (h : tConds.size l ≤ 1048576) : pareConds.Ret [.list none (rows tCond l)] (.val (.bool (condsF l))) [] := by
  refine pareConds.ir.of rfl ?_
  have ha := pallC.ret isCondF _ l (fun x hx => pIsCond.ret x hx) h
  repeat' first
    | (conv => whnf
       first | refine Need.mk (fun h => h) ?_ | refine Need.mk rfl ?_ | refine Ix.mapN (fun _ => rfl) ?_ | refine FinVal.keep ?_ | refine Final.mk ?_ rfl | refine AGCall.mkA _ _ (fun hg => ha) rfl ?_)
    | refine AV.bool_congr ?_
  rw [length_rows]; rfl
theorem pareActions.ret (m : List VAction) (h : tActions.size m ≤ 1048576) : pareActions.Ret [.list none (rows tAction m)] (.val (.bool (actsF m))) [] := by
  refine pareActions.ir.of rfl ?_
  have ha := pallA0.ret isActF _ m (fun x hx => pIsAction.ret x hx) h
  repeat' first
    | (conv => whnf
       first | refine Need.mk (fun h => h) ?_ | refine Need.mk rfl ?_ | refine FinVal.keep ?_ | refine Final.mk ?_ rfl | refine AGCall.mkA _ _ (fun hg => ha) rfl ?_)
    | refine AV.bool_congr ?_
  rw [length_rows]; rfl
def usesF (l : List VCond) (m : List VAction) : Bool := ((List.range l.length).all fun i => mayF l m i (l.getD i default)) && m.all fun a => (avC a).all fun v => decide (v ∈ bvF l l.length)
theorem pusesOnlyBound.ret (r : VRule) (h : tRule.size r ≤ 1048576) : pusesOnlyBound.Ret [.agg (oldL (tRule.q r))] (.val (.bool (usesF r.2.2.1 r.2.2.2))) [] := by
  refine pusesOnlyBound.ir.ofS rfl rfl ?_
  have hrs := h
  have hz := tRule_size r
  have hta : tActions.size r.2.2.2 ≤ 1048576 := by omega
  rw [tRule_sz] at h
  have hbk := ok_strT (bvF r.2.2.1 r.2.2.1.length)
  have hbl := bvF_len r.2.2.1 r.2.2.1.length
  have hbx : pBoundVars.Own [.agg (oldL (tRule.q r)), .val (.int .i64 (oldLL (r.2.2.1.map tCond.q)).length)] (strT (bvF r.2.2.1 r.2.2.1.length)) := by
    rw [length_oldLL, List.length_map]
    have := pBoundVars.own r r.2.2.1.length hrs
    rwa [Int.toNat_natCast] at this
  have ha := pallA1.ret (fun a => (avC a).all fun v => decide (v ∈ bvF r.2.2.1 r.2.2.1.length)) _ (bvF r.2.2.1 r.2.2.1.length) r.2.2.2 (fun x hx => pusesClo.ret x _ hx (by omega)) hta
  skip
  refine ALoop.mk Nat (fun i => ⟨[(1, .bptr 0 0), (7, .val (.int .i64 r.2.2.1.length)), (8, .val (.int .i64 i))], [.cells .var (oldL (tRule.q r))], []⟩) (fun i => i ≤ r.2.2.1.length ∧ ∀ j, j < i → mayF r.2.2.1 r.2.2.2 j (r.2.2.1.getD j default) = true) (fun i => r.2.2.1.length - i) ⟨0, ⟨Nat.zero_le _, fun j hj => by omega⟩, ?_⟩ (fun i hi => ?_)
  · repeat' first
      | exact trivial | refine wl_ ?_ ?_ ?_ ?_ | refine And.intro ?_ ?_ | with_reducible rfl | exact ble_ | refine AV.int_congr ?_ | (apply rfl)
    simp
  by_cases hi' : i < r.2.2.1.length
  · have hm := pmayStandAt.ret r i hrs hi'
    repeat' first
      | (conv => whnf
         first | refine Need.mk rfl ?_ | refine nb_ ?_ | refine Fork.decY ?_ | refine Fork.neg (fun _ => ?_) (fun _ => ?_) | refine Round.mk ?_ | refine FinVal.keep ?_ | refine Final.mk ?_ rfl | refine ACall.scalC _ _ (hm) rfl ?_)
      | refine AV.bool_congr ?_
    · rename_i h1
      have : ((List.range r.2.2.1.length).all fun i => mayF r.2.2.1 r.2.2.2 i (r.2.2.1.getD i default)) = false := by
        rw [List.all_eq_false]
        exact ⟨i, List.mem_range.2 hi', by rw [h1]; simp⟩
      rw [usesF, this, Bool.false_and]
    · rename_i h1
      refine ⟨i + 1, ⟨by omega, fun j hj => ?_⟩, ?_, by omega⟩
      · rcases Nat.lt_or_eq_of_le (Nat.le_of_lt_succ hj) with h5 | h5
        · exact hi.2 j h5
        · subst h5; exact h1
      · repeat' first
          | exact trivial | refine wl_ ?_ ?_ ?_ ?_ | refine And.intro ?_ ?_ | with_reducible rfl | exact ble_ | refine AV.int_congr ?_ | (apply rfl)
        rw [wrap64 (by omega) (by omega)]; rfl
  have hall : ((List.range r.2.2.1.length).all fun i => mayF r.2.2.1 r.2.2.2 i (r.2.2.1.getD i default)) = true := List.all_eq_true.2 fun j hj => hi.2 j (by have := List.mem_range.1 hj; omega)
  repeat' first
    | (conv => whnf
       first | refine Need.mk rfl ?_ | refine Need.mk ⟨rfl, Nat.le_of_ble_eq_true rfl⟩ ?_ | refine nb_ ?_ | refine Need.mk ?_ ?_ | refine Fork.decN ?_ | refine FinVal.keep ?_ | refine Final.mk ?_ rfl | refine ACall.oldA _ _ (hbx) ?_ | refine ACall.scalC _ _ (ha) rfl ?_)
    | refine AV.bool_congr ?_
  · exact ⟨rfl, rfl⟩
  · rw [usesF, hall, Bool.true_and]
theorem getD_in {α : Type} [Inhabited α] {l : List α} {a : α} (h : a ∈ l) : ∃ i, i < l.length ∧ l.getD i default = a := by
  obtain ⟨i, hi⟩ := List.getElem?_of_mem h
  exact ⟨i, getElem?_lt hi, by rw [List.getD_eq_getElem?_getD, hi]; rfl⟩
theorem rule_prog (r : VRule) : (nameF r.1 && decide (0 ≤ r.2.1) && decide (r.2.1 ≤ 9) && condsF r.2.2.1 && actsF r.2.2.2 && usesF r.2.2.1 r.2.2.2 && decide (((cvsF r.2.2.1).length : Int) ≤ 6)) = isRuleF r := by
  have hl : decide (((cvsF r.2.2.1).length : Int) ≤ 6) = decide ((cvsF r.2.2.1).length ≤ 6) := decide_eq_decide.2 (by omega)
  rw [hl, Bool.eq_iff_iff, isRuleF]
  simp only [Bool.and_eq_true, condsF, actsF, usesF, decide_eq_true_eq]
  constructor
  · rintro ⟨⟨⟨⟨⟨⟨h1, h2⟩, h3⟩, ⟨⟨h4, h5⟩, h6⟩, h7⟩, ⟨h8, h9⟩, h10⟩, h11, h12⟩, h13⟩
    refine ⟨⟨⟨⟨⟨⟨⟨⟨⟨h1, h2⟩, h3⟩, by omega⟩, by omega⟩, by omega⟩, by omega⟩, List.all_eq_true.2 fun i hi => ?_⟩, List.all_eq_true.2 fun a ha => ?_⟩, h13⟩
    · have hi' := List.mem_range.1 hi
      have hc := List.all_eq_true.1 h7 _ (getD_mem hi')
      have hm := List.all_eq_true.1 h11 i hi
      rw [may_ok hc] at hm
      rw [okC, hc, hm]
      cases i with
      | zero => rw [h6]; rfl
      | succ i => rfl
    · rw [okA, List.all_eq_true.1 h10 a ha, List.all_eq_true.1 h12 a ha]; rfl
  · rintro ⟨⟨⟨⟨⟨⟨⟨⟨⟨h1, h2⟩, h3⟩, h4⟩, h5⟩, h8⟩, h9⟩, hC⟩, hA⟩, h13⟩
    have hc : ∀ i, i < r.2.2.1.length → isCondF (r.2.2.1.getD i default) = true ∧ (!(i == 0) || (r.2.2.1.getD i default).1 == 1) = true ∧ (cvC (r.2.2.1.getD i default)).all (okV r.2.2.1 r.2.2.2 i (r.2.2.1.getD i default)) = true := fun i hi => by
      have := List.all_eq_true.1 hC i (List.mem_range.2 hi)
      rw [okC, Bool.and_eq_true, Bool.and_eq_true] at this
      exact ⟨this.1.1, this.1.2, this.2⟩
    refine ⟨⟨⟨⟨⟨⟨h1, h2⟩, h3⟩, ⟨⟨by omega, by omega⟩, ?_⟩, List.all_eq_true.2 fun x hx => ?_⟩, ⟨by omega, by omega⟩, List.all_eq_true.2 fun a ha => ?_⟩, List.all_eq_true.2 fun i hi => ?_, List.all_eq_true.2 fun a ha => ?_⟩, h13⟩
    · have := (hc 0 (by omega)).2.1
      simpa using this
    · obtain ⟨i, hi, rfl⟩ := getD_in hx
      exact (hc i hi).1
    · have := List.all_eq_true.1 hA a ha
      rw [okA, Bool.and_eq_true] at this
      exact this.1
    · have hi' := List.mem_range.1 hi
      rw [may_ok (hc i hi').1]
      exact (hc i hi').2.2
    · have := List.all_eq_true.1 hA a ha
      rw [okA, Bool.and_eq_true] at this
      exact this.2
theorem pIsRule.ret (r : VRule) (h : tRule.size r ≤ 1048576) : pIsRule.Ret [.agg (oldL (tRule.q r))] (.val (.bool (isRuleF r))) [] := by
  refine pIsRule.ir.ofS rfl rfl ?_
  have hrs := h
  have hz := tRule_size r
  rw [tRule_sz] at h
  have hca := pareConds.ret r.2.2.1 (by omega)
  have haa := pareActions.ret r.2.2.2 (by omega)
  have hu := pusesOnlyBound.ret r hrs
  have hv := pvarsOfConds.own r.2.2.1 (by omega)
  have hvk := ok_strT (cvsF r.2.2.1)
  repeat' first
    | (conv => whnf
       first | refine Need.mk (fun h => h) ?_ | refine Need.mk rfl ?_ | refine nb_ ?_ | refine FinVal.keep ?_ | refine Final.mk ?_ rfl | refine ACall.scalA _ _ (pIsName.ret _ ?_) rfl ?_ | refine AGCall.mkA _ _ (fun hg => hca) rfl ?_ | refine AGCall.mkA _ _ (fun hg => haa) rfl ?_ | refine AGCall.scalC _ _ (fun hg => hu) rfl ?_ | refine AGCall.oldA _ _ (fun hg => hv) ?_)
    | refine AV.bool_congr ?_
  · omega
  · rw [length_oldLL, List.length_map]; exact rule_prog r
end Go.Proofs.YtoindmahilbalaaGreat
namespace Go.Proofs.YtoindmahilbalaaGreat
open Abs
abbrev matT (ms : List VMatch) : Tr := .l 65 3 (ms.map tMatch.q)
def tokOk (r : VRule) (n : Int) (l : List Fct) : Bool := isRuleF r && areF l && decide (0 ≤ n) && decide (n ≤ (r.2.2.1.length : Int))
def tokensF (r : VRule) (n : Int) (l : List Fct) : List VToken := if tokOk r n l then toksF l (r.2.2.1.take n.toNat) else []
theorem rule_conds {r : VRule} (h : isRuleF r = true) : r.2.2.1.length ≤ 4 := by
  unfold isRuleF at h
  simp only [Bool.and_eq_true, decide_eq_true_eq] at h
  exact h.1.1.1.1.1.2
theorem empty_own (F : Fr) : ∃ us, OwnA [(90, 2, 0)] [tokT []] [.list (some 0) []] us ∧ us.Nodup := (AccO.nil (T := tToken) (t := 90) (k := 0) (F := [(90, 2, 0)]) rfl).final
theorem toks_own (ts : List VToken) : ∃ us, OwnA (tTokens.fr ts) [tokT ts] [.list (some (0 + (frs tToken ts).length)) (tks tToken ts 0)] us ∧ us.Nodup := by
  obtain ⟨us, h1, h2, _⟩ := tTokens.tkOwn ts (n := 0) (F := tTokens.fr ts) (fun i x hi => by rw [Nat.zero_add]; exact hi)
  exact ⟨us, h1, h2⟩
theorem tokOk_s (r : VRule) (n : Int) (l : List Fct) : (!isRuleF r || !areF l || !(decide (0 ≤ n) && decide (n ≤ ((oldLL (r.2.2.1.map tCond.q)).length : Int)))) = !tokOk r n l := by
  rw [length_oldLL, List.length_map, tokOk]
  cases isRuleF r <;> cases areF l <;> cases decide (0 ≤ n) <;> cases decide (n ≤ (r.2.2.1.length : Int)) <;> rfl
theorem tokOk_p (r : VRule) (n : Int) (l : List Fct) : (!isRuleF r || !areF l || decide (n < 0) || decide (((oldLL (r.2.2.1.map tCond.q)).length : Int) < n)) = !tokOk r n l := by
  rw [length_oldLL, List.length_map, tokOk]
  have e1 : decide (n < 0) = !decide (0 ≤ n) := by by_cases h : n < 0 <;> simp [h] <;> omega
  have e2 : decide ((r.2.2.1.length : Int) < n) = !decide (n ≤ (r.2.2.1.length : Int)) := by by_cases h : (r.2.2.1.length : Int) < n <;> simp [h] <;> omega
  rw [e1, e2]
  cases isRuleF r <;> cases areF l <;> cases decide (0 ≤ n) <;> cases decide (n ≤ (r.2.2.1.length : Int)) <;> rfl
structure TokIn (r : VRule) (n : Int) (l : List Fct) : Prop where
  rule : isRuleF r = true
  facts : areF l = true
  lo : 0 ≤ n
  hi : n ≤ (r.2.2.1.length : Int)
theorem tokOk_in {r : VRule} {n : Int} {l : List Fct} (h : tokOk r n l = true) : TokIn r n l := by
  simp only [tokOk, Bool.and_eq_true, decide_eq_true_eq] at h
  exact ⟨h.1.1.1, h.1.1.2, h.1.2, h.2⟩
theorem tokens_no {r : VRule} {n : Int} {l : List Fct} (h : tokOk r n l = false) : tokensF r n l = [] := by rw [tokensF, h]; rfl
theorem tokens_yes {r : VRule} {n : Int} {l : List Fct} (h : tokOk r n l = true) : tokensF r n l = toksF l (r.2.2.1.take n.toNat) := by rw [tokensF, if_pos h]
theorem rule_sz (r : VRule) : tConds.size r.2.2.1 ≤ tRule.size r := by rw [tRule_sz, tConds_sz]; omega
theorem sTokensOf.own (r : VRule) (n : Int) (l : List Fct) (hr : tRule.size r ≤ 1048576) (h : tFcts.size l ≤ 1048576) : sTokensOf.Own [.agg (oldL (tRule.q r)), .val (.int .i64 n), .list none (facts l)] (tokT (tokensF r n l)) := by
  refine Abs.IrAt.ownP sTokensOf.ir rfl ?_
  have hrr := sIsRule.ret r hr
  have hra := sAreFacts.ret l h
  have hok := tokOk_s r n l
  have hz := rule_sz r
  cases ho : tokOk r n l with
  | false =>
    rw [ho] at hok
    rw [tokens_no ho]
    repeat' first
      | (conv => whnf
         first | refine Need.mk (fun h => h) ?_ | refine Need.mk rfl ?_ | refine nb_ ?_ | refine Fork.yes (by assumption) ?_ | refine ACall.scalC _ _ (hrr) rfl ?_ | refine AGCall.mkA _ _ (fun hg => hra) rfl ?_ | refine AGCall.mkA _ _ (fun hg => l1In.ret _ _ _) rfl ?_)
    skip
    exact empty_own []
  | true =>
    rw [ho] at hok
    obtain ⟨i1, i2, i3, i4⟩ := tokOk_in ho
    have hc4 := rule_conds i1
    rw [tokens_yes ho]
    have hret := tTokens_canon.ret rfl rfl (sTokens.own (r.2.2.1.take n.toNat) l (Nat.le_trans (tConds_take _ _) (by omega)) (by rw [List.length_take]; omega) h (areF_fact i2) (areF_len i2))
    repeat' first
      | (conv => whnf
         first | refine Need.mk (fun h => h) ?_ | refine nb_ ?_ | refine Cut.map (fun _ => rfl) ?_ ?_ | refine Fork.no (by assumption) ?_ | refine ACall.scalC _ _ (hrr) rfl ?_ | refine AGCall.mkA _ _ (fun hg => hra) rfl ?_ | refine AGCall.mkA _ _ (fun hg => l1In.ret _ _ _) rfl ?_)
    · intro _; omega
    conv => whnf
    refine ACall.mk_TokenS _ _ hret (SeesL.cons ?_ (SeesL.cons ?_ SeesL.nil)) ?_
    · exact @Sees0.olds _ _
    · exact @Sees0.olds _ _
    skip
    exact toks_own _
theorem pTokensOf.own (r : VRule) (n : Int) (l : List Fct) (hr : tRule.size r ≤ 1048576) (h : tFcts.size l ≤ 1048576) : pTokensOf.OwnN [.agg (oldL (tRule.q r)), .val (.int .i64 n), .list none (facts l)] (tokT (tokensF r n l)) := by
  refine Abs.IrAt.ownP pTokensOf.ir rfl ?_
  have hrr := pIsRule.ret r hr
  have hra := pAreFacts.ret l h
  have hok := tokOk_p r n l
  have hz := rule_sz r
  cases ho : tokOk r n l with
  | false =>
    rw [ho] at hok
    rw [tokens_no ho]
    repeat' first
      | (conv => whnf
         first | refine Need.mk (fun h => h) ?_ | refine Need.mk rfl ?_ | refine nb_ ?_ | refine Fork.yes (by assumption) ?_ | refine ACall.scalC _ _ (Ret.weak (hrr)) rfl ?_ | refine AGCall.mkA _ _ (fun hg => Ret.weak (hra)) rfl ?_)
    skip
    exact empty_own []
  | true =>
    rw [ho] at hok
    obtain ⟨i1, i2, i3, i4⟩ := tokOk_in ho
    have hc4 := rule_conds i1
    rw [tokens_yes ho]
    have hret := tTokens_canon.ret rfl rfl (ptokensOfConds.own l h (areF_fact i2) (areF_len i2) n.toNat (r.2.2.1.take n.toNat) (by rw [List.length_take]; omega) (by omega) (Nat.le_trans (tConds_take _ _) (by omega)))
    repeat' first
      | (conv => whnf
         first | refine Need.mk (fun h => h) ?_ | refine Need.mk rfl ?_ | refine nb_ ?_ | refine Cut.map (fun _ => rfl) ?_ ?_ | refine Fork.no (by assumption) ?_ | refine ACall.scalC _ _ (Ret.weak (hrr)) rfl ?_ | refine AGCall.mkA _ _ (fun hg => Ret.weak (hra)) rfl ?_)
    · intro _; omega
    conv => whnf
    refine ACall.mk_TokenS _ _ hret (SeesL.cons ?_ (SeesL.cons ?_ SeesL.nil)) ?_
    · exact @Sees0.olds _ _
    · exact @Sees0.olds _ _
    skip
    exact toks_own _
def matchesF (r : VRule) (l : List Fct) : List VMatch := (tokensF r (r.2.2.1.length : Int) l).map fun t => (r.1, t)
def rowM (nm : Str) (c : List AV) : List AV := .str nm :: c
theorem sMatchesOf.own (r : VRule) (l : List Fct) (hr : tRule.size r ≤ 1048576) (h : tFcts.size l ≤ 1048576) : sMatchesOf.Own [.agg (oldL (tRule.q r)), .list none (facts l)] (matT (matchesF r l)) := by
  refine Abs.IrAt.ownP sMatchesOf.ir rfl ?_
  have hret := tTokens_canon.ret rfl rfl (sTokensOf.own r (r.2.2.1.length : Int) l hr h)
  have hcl : ((oldLL (r.2.2.1.map tCond.q)).length : Int) = (r.2.2.1.length : Int) := by rw [length_oldLL, List.length_map]
  have hlen : (tokensF r (r.2.2.1.length : Int) l).length ≤ 331776 := by
    rw [tokensF]
    split
    · rename_i ho
      obtain ⟨i1, i2, _, _⟩ := tokOk_in ho
      exact toksF_len4 (areF_len i2) (rule_conds i1) _
    · exact Nat.zero_le _
  unfold matchesF
  generalize tokensF r (r.2.2.1.length : Int) l = src at hret hlen
  rw [← hcl] at hret
  repeat' first
    | (conv => whnf
       first | refine Need.mk rfl ?_ | refine nb_ ?_ | refine ACall.mk_TokenS _ _ (hret) (by repeat' first | exact SeesL.nil | refine SeesL.cons ?_ ?_ | exact SeesB.of0 (Sees0.val _) | exact SeesB.of0 (Sees0.str _) | exact SeesB.of0 (Sees0.olds _ _) | exact SeesB.of0 (Sees0.old _) | exact SeesB.of0 (Sees0.oldagg _) | exact SeesB.of0 Sees0.nil | exact Sees0.val _ | exact Sees0.str _ | exact Sees0.olds _ _ | exact Sees0.old _ | exact Sees0.oldagg _ | exact Sees0.nil | exact SeesB.of0 (Sees0.any _) | assumption | exact sees_gv _ _ _ (by assumption) (by first | assumption | exact BoxIn.last _ _ | exact BoxIn.more (BoxIn.last _ _) _) | refine SeesB.agg ?_ | refine Sees0.agg ?_ | exact SeesB.of0 (Sees0.clo SeesL.nil SeesL.nil) | exact Sees0.clo SeesL.nil SeesL.nil | exact SeesB.of0 (Sees0.list rfl) | exact Sees0.list rfl) ?_)
  refine ALoop.mk (Nat × Fr × List (List AV)) (fun i => ⟨[(2, .bptr 0 0), (5, .list (some 0) i.2.2), (6, .list (some (1 + (frs tToken src).length)) (tks tToken src 1)), (7, .val (.int .i64 i.1))], [.cells .var (oldL (tRule.q r))], i.2.1⟩)
    (fun i => i.1 ≤ src.length ∧ (∀ (j : Nat) y, (frs tToken src)[j]? = some y → i.2.1[1 + j]? = some y) ∧ 1 + (frs tToken src).length < i.2.1.length ∧ ∃ us, AccO tMatch 65 0 i.2.1 ((src.take i.1).map fun t => (r.1, t)) i.2.2 us ∧ ∀ u ∈ us, u < 1 + (frs tToken (src.take i.1)).length)
    (fun i => src.length - i.1) ⟨(0, (65, 3, 0) :: tTokens.fr src, []), ⟨Nat.zero_le _, fun j y hj => ?_, ?_, [], AccO.nil rfl, by simp⟩, ?_⟩ (fun i hi => ?_)
  · rw [Nat.add_comm, List.getElem?_cons_succ]
    show (frs tToken src ++ [_])[j]? = _
    rw [List.getElem?_append_left (getElem?_lt hj)]; exact hj
  · show 1 + _ < ((65, 3, 0) :: (frs tToken src ++ [(90, tToken.sz, src.length)])).length
    simp; omega
  · repeat' first
      | exact trivial | refine wl_ ?_ ?_ ?_ ?_ | refine And.intro ?_ ?_ | with_reducible rfl | exact ble_ | refine AV.int_congr ?_ | refine AV.list_congr ?_ | (apply rfl)
  obtain ⟨i, F, ys⟩ := i
  obtain ⟨hi, hfr, hFl, us, hA, hus⟩ := hi
  simp only at hi hfr hFl hA hus ⊢
  have htl : (tks tToken src 1).length = src.length := length_tks _ _ _
  obtain ⟨F1, rfl⟩ := head_cons hA.hk
  rw [← hA.hl] at *
  by_cases hi' : i < src.length
  rotate_left
  · have e : i = src.length := by omega
    subst e
    rw [List.take_length] at hA
    repeat' first
      | (conv => whnf
         first | refine Need.mk rfl ?_ | refine Fork.decN ?_)
    exact hA.final
  have hAl := hA.hl
  rw [List.length_map, List.length_take] at hAl
  generalize ha0 : src.getD i default = a
  have hai : src[i]? = some a := by rw [← ha0]; exact tToken_get hi'
  obtain ⟨m, hm⟩ : ∃ m, m = 1 + (frs tToken (src.take i)).length := ⟨_, rfl⟩
  have hget : (tks tToken src 1)[i]? = some (tToken.tk a m) := by rw [hm]; exact tks_get tToken 1 hai
  have hfs : frs tToken (src.take (i + 1)) = frs tToken (src.take i) ++ tToken.fr a := by
    rw [take_succ' default hi', ha0, frs_append]; simp [frs]
  have hix : (0 : Int) ≤ (i : Int) ∧ (tks tToken src 1)[((i : Nat) : Int).toNat]? = some (tToken.tk a m) ∧ (tToken.tk a m).length = 2 := ⟨by omega, by rw [Int.toNat_natCast]; exact hget, rfl⟩
  repeat' first
    | (conv => whnf
       first | refine Need.mk rfl ?_ | refine Need.mk ?_ ?_ | refine Ix.mk _ (fun _ => hix) ?_ | refine Fork.decY ?_ | refine Round.mk ?_ | refine Lit.read rfl ?_)
  · intro c hc; rw [List.mem_singleton.1 hc]; rfl
  · simp only [List.length_singleton]; omega
  generalize hG : (65, tMatch.sz, ys.length) :: F1 = G at *
  have hGp : 0 < G.length := by rw [← hG]; simp
  obtain ⟨vs, o1, o2, o3⟩ := tToken.tkOwn a (n := m) (F := G) (fun q y hq => by rw [hm, Nat.add_assoc]; exact hfr _ _ (frs_at tToken hai hq))
  have hA2 := hA.snoc (m := ys.length + 1) (r.1, a) (rowM r.1 (tToken.tk a m)) vs (by rw [hA.hl]) (OwnA.s r.1 o1) o2
    (fun j hj => ⟨by have := (o3 j hj).1; omega, fun hm' => by have := o3 j hj; have := hus j hm'; omega⟩)
  have e9 : ((src.take i).map fun t => (r.1, t)) ++ [(r.1, a)] = (src.take (i + 1)).map fun t => (r.1, t) := by rw [take_succ' default hi', ha0, List.map_append]; rfl
  rw [e9] at hA2
  refine ⟨(i + 1, _, _), ⟨by simp only; omega, fun j y hj => ?_, ?_, us ++ vs, hA2, fun u hu => ?_⟩, ?_, by simp only; omega⟩
  · rw [List.getElem?_set, if_neg (by omega)]; exact hfr j y hj
  · rw [List.length_set]; exact hFl
  · rw [hfs, List.length_append]
    rcases List.mem_append.1 hu with hu | hu
    · have := hus u hu; omega
    · have := (o3 u hu).2; omega
  · repeat' first
      | exact trivial | refine wl_ ?_ ?_ ?_ ?_ | refine And.intro ?_ ?_ | with_reducible rfl | exact ble_ | refine AV.int_congr ?_ | refine AV.list_congr ?_ | (apply rfl)
    rw [wrap64 (by omega) (by omega)]; rfl
def zm : List AV := [.str [], .val (.slice none 0 0), .val (.slice none 0 0)]
theorem rowsM_sz {nm : Str} {src : List VToken} {n : Nat} : ∀ x ∈ (tks tToken src n).map (rowM nm), x.length = 3 := fun x hx => by
  obtain ⟨c, hc, rfl⟩ := List.mem_map.1 hx
  rw [rowM, List.length_cons, tks_sz tToken src n c hc]; rfl
theorem rowsM_cell {nm : Str} {src : List VToken} {n : Nat} : ∀ x ∈ (tks tToken src n).map (rowM nm), ∀ c ∈ x, (∃ s, c = .str s) ∨ ∃ o ys, c = .list o ys := fun x hx c hc => by
  obtain ⟨d, hd, rfl⟩ := List.mem_map.1 hx
  rcases List.mem_cons.1 hc with rfl | hc
  · exact .inl ⟨nm, rfl⟩
  · obtain ⟨a, m, ha⟩ := tks_mem tToken (c := c) (List.mem_flatten.2 ⟨d, hd, hc⟩)
    have ha : c ∈ [AV.list (some (m + (frs tFct a.1).length)) (tks tFct a.1 m), .list (some (m + (tFcts.fr a.1).length)) (rows tPair a.2)] := ha
    rcases List.mem_cons.1 ha with rfl | ha
    · exact .inr ⟨_, _, rfl⟩
    · rw [List.mem_singleton.1 ha]; exact .inr ⟨_, _, rfl⟩
theorem partM_in (m : Nat) {nm : Str} {src : List VToken} {n : Nat} (i : Nat) : inB.inBL m (part zm ((tks tToken src n).map (rowM nm)) i) := by
  refine inBL_of fun c hc => ?_
  rw [part, List.mem_append] at hc
  rcases hc with h | h
  · obtain ⟨x, hx, hc⟩ := List.mem_flatten.1 h
    rcases rowsM_cell x (List.mem_of_mem_take hx) c hc with ⟨_, rfl⟩ | ⟨_, _, rfl⟩ <;> trivial
  · obtain ⟨x, hx, hc⟩ := List.mem_flatten.1 h
    rw [List.eq_of_mem_replicate hx] at hc
    rcases List.mem_cons.1 hc with rfl | hc
    · trivial
    rcases List.mem_cons.1 hc with rfl | hc
    · trivial
    · rw [List.mem_singleton.1 hc]; trivial
theorem rowsM_nr {nm : Str} {src : List VToken} {n : Nat} : ∀ c ∈ ((tks tToken src n).map (rowM nm)).flatten, noRef c = true := fun c hc => by
  obtain ⟨x, hx, hc⟩ := List.mem_flatten.1 hc
  rcases rowsM_cell x hx c hc with ⟨_, rfl⟩ | ⟨_, _, rfl⟩ <;> rfl
theorem rowsM_own {nm : Str} {F : Fr} : ∀ (src : List VToken) (n : Nat), (∀ (i : Nat) x, (frs tToken src)[i]? = some x → F[n + i]? = some x) → ∃ us, OwnA F ((src.map fun t => (nm, t)).map tMatch.q).flatten ((tks tToken src n).map (rowM nm)).flatten us ∧ us.Perm (List.range' n (frs tToken src).length)
  | [], _, _ => ⟨[], .nil, .refl _⟩
  | a :: src, n, h => by
    obtain ⟨t1, h1, p1⟩ := tToken.hown a n F (fun i x hi => h i x (by rw [frs, List.flatMap_cons, List.getElem?_append_left (getElem?_lt hi)]; exact hi))
    obtain ⟨t2, h2, p2⟩ := rowsM_own src (n + (tToken.fr a).length) (fun i x hi => by
      have := h ((tToken.fr a).length + i) x (by rw [frs, List.flatMap_cons, List.getElem?_append_right (by omega), Nat.add_sub_cancel_left]; exact hi)
      rw [Nat.add_assoc]; exact this)
    refine ⟨t1 ++ t2, OwnA.append (OwnA.s nm h1) h2, ?_⟩
    rw [show frs tToken (a :: src) = tToken.fr a ++ frs tToken src from rfl, List.length_append, ← List.range'_append_1]
    exact p1.append p2
theorem rowsM_final (nm : Str) (src : List VToken) : ∃ us, OwnA (tTokens.fr src ++ [(65, 3, src.length)]) [matT (src.map fun t => (nm, t))] [.list (some (tTokens.fr src).length) ((tks tToken src 0).map (rowM nm))] us ∧ us.Nodup := by
  have hl : (tTokens.fr src).length = (frs tToken src).length + 1 := by rw [show tTokens.fr src = frs tToken src ++ [(90, tToken.sz, src.length)] from rfl]; simp
  obtain ⟨us, h1, p1⟩ := rowsM_own (nm := nm) (F := tTokens.fr src ++ [(65, 3, src.length)]) src 0 (fun i x hi => by
    rw [Nat.zero_add, List.getElem?_append_left (by have := getElem?_lt hi; omega)]
    show (frs tToken src ++ [_])[i]? = _
    rw [List.getElem?_append_left (getElem?_lt hi)]; exact hi)
  have hA : AccO tMatch 65 (tTokens.fr src).length (tTokens.fr src ++ [(65, 3, src.length)]) (src.map fun t => (nm, t)) ((tks tToken src 0).map (rowM nm)) us :=
    ⟨by rw [List.getElem?_append_right (Nat.le_refl _), Nat.sub_self, List.length_map]; rfl, by rw [List.length_map, List.length_map, length_tks], rowsM_sz, h1, p1.symm.nodup (List.nodup_range' _),
      fun hm => by have := (p1.mem_iff).1 hm; rw [List.mem_range'_1] at this; omega⟩
  exact hA.final
theorem pMatchesOf.own (r : VRule) (l : List Fct) (hr : tRule.size r ≤ 1048576) (h : tFcts.size l ≤ 1048576) : pMatchesOf.OwnN [.agg (oldL (tRule.q r)), .list none (facts l)] (matT (matchesF r l)) := by
  refine Abs.IrAt.ownP pMatchesOf.ir rfl ?_
  have hret := tTokens_canon.ret rfl rfl (pTokensOf.own r (r.2.2.1.length : Int) l hr h)
  have hcl : ((oldLL (r.2.2.1.map tCond.q)).length : Int) = (r.2.2.1.length : Int) := by rw [length_oldLL, List.length_map]
  have hlen : (tokensF r (r.2.2.1.length : Int) l).length ≤ 331776 := by
    rw [tokensF]
    split
    · rename_i ho
      obtain ⟨i1, i2, _, _⟩ := tokOk_in ho
      exact toksF_len4 (areF_len i2) (rule_conds i1) _
    · exact Nat.zero_le _
  unfold matchesF
  generalize tokensF r (r.2.2.1.length : Int) l = src at hret hlen
  rw [← hcl] at hret
  repeat' first
    | (conv => whnf
       first | refine nb_ ?_ | refine Need.mk ?_ ?_ | refine ACall.mk_TokenS _ _ (hret) (by repeat' first | exact SeesL.nil | refine SeesL.cons ?_ ?_ | exact SeesB.of0 (Sees0.val _) | exact SeesB.of0 (Sees0.str _) | exact SeesB.of0 (Sees0.olds _ _) | exact SeesB.of0 (Sees0.old _) | exact SeesB.of0 (Sees0.oldagg _) | exact SeesB.of0 Sees0.nil | exact Sees0.val _ | exact Sees0.str _ | exact Sees0.olds _ _ | exact Sees0.old _ | exact Sees0.oldagg _ | exact Sees0.nil | exact SeesB.of0 (Sees0.any _) | assumption | exact sees_gv _ _ _ (by assumption) (by first | assumption | exact BoxIn.last _ _ | exact BoxIn.more (BoxIn.last _ _) _) | refine SeesB.agg ?_ | refine Sees0.agg ?_ | exact SeesB.of0 (Sees0.clo SeesL.nil SeesL.nil) | exact Sees0.clo SeesL.nil SeesL.nil | exact SeesB.of0 (Sees0.list rfl) | exact Sees0.list rfl) ?_)
  · rw [length_tks]; omega
  refine ALoop.mk Nat (fun i => ⟨[(2, .bptr 0 0), (6, .bsl 1 src.length), (18, .list (some (0 + (frs tToken src).length)) (tks tToken src 0)), (19, .val (.int .i64 src.length)), (20, .val (.int .i64 i))], [.cells .var (oldL (tRule.q r)), .cells (.row 65 3) (part zm ((tks tToken src 0).map (rowM r.1)) i)], tTokens.fr src⟩) (fun i => i ≤ src.length) (fun i => src.length - i) ⟨0, Nat.zero_le _, ?_⟩ (fun i hi => ?_)
  · repeat' first
      | exact trivial | refine wl_ ?_ ?_ ?_ ?_ | refine And.intro ?_ ?_ | exact ble_ | refine AV.int_congr ?_ | refine AV.list_congr ?_ | refine AV.bsl_congr ?_ ?_ | (apply rfl)
    · rw [length_tks, Int.toNat_natCast]
    · rw [length_tks]
    · simp only [List.nil_append, List.cons_append, List.length_cons, List.length_nil, List.take_succ_cons, List.take_zero]
      rw [part_made (xs := (tks tToken src 0).map (rowM r.1)) (sz := 3) rfl (by decide) (by rw [List.length_map, length_tks, Int.toNat_natCast])]; rfl
  have hml : ((tks tToken src 0).map (rowM r.1)).length = src.length := by rw [List.length_map, length_tks]
  have htl : (tks tToken src 0).length = src.length := length_tks _ _ _
  by_cases hi' : i < src.length
  rotate_left
  · have hil : i = src.length := by omega
    subst hil
    have hall := part_all zm ((tks tToken src 0).map (rowM r.1))
    rw [hml] at hall
    rw [hall]
    repeat' first
      | (conv => whnf
         first | refine Need.mk rfl ?_ | refine Fork.decN ?_)
    conv => whnf
    refine FreezeD.flat (Freeze.mk ((tks tToken src 0).map (rowM r.1)) _ 65 3 rfl rfl hml rowsM_sz rowsM_nr ?_)
    skip
    exact rowsM_final r.1 src
  generalize ha0 : src.getD i default = a
  have hai : src[i]? = some a := by rw [← ha0]; exact tToken_get hi'
  obtain ⟨m, hm⟩ : ∃ m, m = (frs tToken (src.take i)).length := ⟨_, rfl⟩
  have hget : (tks tToken src 0)[i]? = some (tToken.tk a m) := by have := tks_get tToken 0 hai; rw [Nat.zero_add] at this; rw [hm]; exact this
  have hget2 : ((tks tToken src 0).map (rowM r.1))[i]? = some (rowM r.1 (tToken.tk a m)) := by rw [List.getElem?_map, hget]; rfl
  have hix : (0 : Int) ≤ (i : Int) ∧ (tks tToken src 0)[((i : Nat) : Int).toNat]? = some (tToken.tk a m) ∧ (tToken.tk a m).length = 2 := ⟨by omega, by rw [Int.toNat_natCast]; exact hget, rfl⟩
  repeat' first
    | (conv => whnf
       first | refine Need.mk rfl ?_ | refine Need.mk ⟨rfl, Nat.le_of_ble_eq_true rfl⟩ ?_ | refine nb_ ?_ | refine Need.finN ?_ | refine Need.mk ?_ ?_ | refine Ix.mk _ (fun _ => hix) ?_ | refine Fork.decY ?_ | refine Round.mk ?_)
  · refine ⟨rfl, ?_⟩
    rw [part_len (sz := 3) rfl rowsM_sz (by omega), hml, Int.toNat_natCast]; omega
  · refine ⟨i + 1, by omega, ?_, by omega⟩
    refine ⟨?_, ?_, ?_, Nat.le_of_ble_eq_true rfl, Or.inr ⟨⟨Nat.zero_lt_two, Nat.one_lt_two, trivial, trivial, trivial, trivial⟩, ⟨trivial, trivial, trivial, trivial, trivial⟩, partM_in _ (i + 1), trivial⟩⟩
    · repeat' first
        | exact trivial | refine And.intro ?_ ?_ | with_reducible rfl | refine AV.int_congr ?_ | refine AV.list_congr ?_ | refine AV.bsl_congr ?_ ?_ | (apply rfl)
      rw [wrap64 (by omega) (by omega)]; rfl
    · have := part_set (z := zm) (sz := 3) rfl rowsM_sz hget2
      exact congrArg (fun c => [ABox.cells .var (oldL (tRule.q r)), ABox.cells (.row 65 3) c]) this
    · rfl
theorem matchesF_le (r : VRule) (l : List Fct) : (matchesF r l).length ≤ 331776 := by
  rw [matchesF, List.length_map, tokensF]
  split
  · rename_i ho
    obtain ⟨i1, i2, _, _⟩ := tokOk_in ho
    exact toksF_len4 (areF_len i2) (rule_conds i1) _
  · exact Nat.zero_le _
end Go.Proofs.YtoindmahilbalaaGreat
namespace Go.Proofs.YtoindmahilbalaaGreat
open Abs
theorem match_sz {r : VRule} {l : List Fct} : ∀ m ∈ matchesF r l, tMatch.size m ≤ 296 := fun m hm => by
  obtain ⟨t, ht, rfl⟩ := List.mem_map.1 hm
  rw [tokensF] at ht
  split at ht
  · rename_i ho
    obtain ⟨i1, i2, i3, i4⟩ := tokOk_in ho
    have hc := rule_conds i1
    have := goodT_size (areF_fact i2) (toksF_good l r.2.2.1 (r.2.2.1.length : Int).toNat (by omega) t ht) (by omega)
    have hn : r.1.length ≤ 8 := by
      unfold isRuleF nameF at i1
      simp only [Bool.and_eq_true] at i1
      exact atomF_le i1.1.1.1.1.1.1.1.1.1.1
    rw [tMatch_size]
    show r.1.length + (tFcts.size t.1 + tPairs.size t.2) ≤ _
    omega
  · cases ht
theorem mget {ms : List VMatch} {i : Nat} (hi : i < ms.length) : ms.getD i default ∈ ms := by
  rw [List.getD_eq_getElem?_getD, List.getElem?_eq_getElem hi]; exact List.getElem_mem hi
end Go.Proofs.YtoindmahilbalaaGreat
namespace Go.Proofs.YtoindmahilbalaaGreat
open Abs
theorem matches_size (r : VRule) (l : List Fct) : listSize tMatch (matchesF r l) ≤ 296 * 331776 := listSize_sub tMatch (matchesF r l) (fun m hm => match_sz m hm) (matchesF_le r l)
theorem lawExactMatchesOf.ret (a0 : VRule) (a1 : List Fct) (hb0 : tRule.bd a0) (hb1 : tFcts.bd a1) : lawExactMatchesOf.RetN [.agg (oldL (tRule.q a0)), .list none (rows tFct a1)] (.val (.bool true)) [] :=
  lawExactMatchesOf.of_own a0 a1 hb0 hb1 fun h => ⟨matchesF a0 a1, by have h1 := matches_size a0 a1; have h2 := matchesF_le a0 a1; rw [tMatchs_sz]; omega,
    by have h1 := matches_size a0 a1; have h2 := matchesF_le a0 a1; have h3 := CnB.rows tMatch_cn (matchesF a0 a1); show cnLL _ ≤ _; omega, sMatchesOf.own a0 a1 (by omega) (by omega), pMatchesOf.own a0 a1 (by omega) (by omega)⟩
end Go.Proofs.YtoindmahilbalaaGreat
namespace Go.Proofs.YtoindmahilbalaaGreat
def headSigns : List Nat := [104, 97, 114, 110, 101, 115, 115, 32, 98, 49, 54, 48, 102, 56, 100, 98, 102, 50, 49, 48, 48, 55, 56, 57, 48, 54, 98, 101, 101, 53, 97, 54, 100, 51, 99, 54, 50, 100, 52, 53, 101, 49, 102, 99, 99, 49, 56, 52, 50, 53, 50, 50, 100, 48, 98, 55, 98, 48, 48, 49, 49, 102, 50, 53, 54, 99, 48, 53, 99, 97, 50, 51, 32, 99, 117, 116, 32, 97, 116, 32, 108, 111, 111, 112, 46, 101, 120, 97, 109, 112, 108, 101, 47, 103, 48, 51, 48, 49, 53, 47, 108, 97, 119, 115, 46, 70, 110, 69, 120, 97, 99, 116, 84, 111, 107, 101, 110, 115, 79, 102, 32, 108, 111, 111, 112, 46, 101, 120, 97, 109, 112, 108, 101, 47, 103, 48, 51, 48, 49, 53, 47, 108, 97, 119, 115, 46, 70, 110, 69, 120, 97, 99, 116, 77, 97, 116, 99, 104, 101, 115, 79, 102, 32, 108, 111, 111, 112, 46, 101, 120, 97, 109, 112, 108, 101, 47, 103, 48, 51, 48, 49, 53, 47, 108, 97, 119, 115, 46, 70, 110, 69, 120, 97, 99, 116, 65, 108, 108, 77, 97, 116, 99, 104, 101, 115, 32, 108, 111, 111, 112, 46, 101, 120, 97, 109, 112, 108, 101, 47, 103, 48, 51, 48, 49, 53, 47, 108, 97, 119, 115, 46, 70, 110, 69, 120, 97, 99, 116, 73, 115, 77, 97, 116, 99, 104, 32, 108, 111, 111, 112, 46, 101, 120, 97, 109, 112, 108, 101, 47, 103, 48, 51, 48, 49, 53, 47, 108, 97, 119, 115, 46, 70, 110, 69, 120, 97, 99, 116, 68, 101, 101, 112, 101, 115, 116, 67, 111, 110, 100, 32, 108, 111, 111, 112, 46, 101, 120, 97, 109, 112, 108, 101, 47, 103, 48, 51, 48, 49, 53, 47, 108, 97, 119, 115, 46, 70, 110, 69, 120, 97, 99, 116, 84, 111, 107, 101, 110, 67, 111, 117, 110, 116, 115]
theorem Abs.head : Tryz.prog.initOrder = String.ofList (headSigns.map Char.ofNat) := by kernel_rfl
theorem Abs.signs : Tryz.prog.initOrder.toList = headSigns.map Char.ofNat := by rw [Abs.head, String.toList_ofList]
def headWords : List (List Nat) := [[99, 117, 116], [97, 116], [108, 111, 111, 112, 46, 101, 120, 97, 109, 112, 108, 101, 47, 103, 48, 51, 48, 49, 53, 47, 108, 97, 119, 115, 46, 70, 110, 69, 120, 97, 99, 116, 84, 111, 107, 101, 110, 115, 79, 102], [108, 111, 111, 112, 46, 101, 120, 97, 109, 112, 108, 101, 47, 103, 48, 51, 48, 49, 53, 47, 108, 97, 119, 115, 46, 70, 110, 69, 120, 97, 99, 116, 77, 97, 116, 99, 104, 101, 115, 79, 102], [108, 111, 111, 112, 46, 101, 120, 97, 109, 112, 108, 101, 47, 103, 48, 51, 48, 49, 53, 47, 108, 97, 119, 115, 46, 70, 110, 69, 120, 97, 99, 116, 65, 108, 108, 77, 97, 116, 99, 104, 101, 115], [108, 111, 111, 112, 46, 101, 120, 97, 109, 112, 108, 101, 47, 103, 48, 51, 48, 49, 53, 47, 108, 97, 119, 115, 46, 70, 110, 69, 120, 97, 99, 116, 73, 115, 77, 97, 116, 99, 104], [108, 111, 111, 112, 46, 101, 120, 97, 109, 112, 108, 101, 47, 103, 48, 51, 48, 49, 53, 47, 108, 97, 119, 115, 46, 70, 110, 69, 120, 97, 99, 116, 68, 101, 101, 112, 101, 115, 116, 67, 111, 110, 100], [108, 111, 111, 112, 46, 101, 120, 97, 109, 112, 108, 101, 47, 103, 48, 51, 48, 49, 53, 47, 108, 97, 119, 115, 46, 70, 110, 69, 120, 97, 99, 116, 84, 111, 107, 101, 110, 67, 111, 117, 110, 116, 115]]
theorem Abs.words : behindMainWord (wordsSigns (headSigns.map Char.ofNat)) = headWords.map fun w => w.map Char.ofNat := by kernel_rfl
theorem Abs.heads : behindMainWord (wordsSigns Tryz.prog.initOrder.toList) = headWords.map fun w => w.map Char.ofNat := by rw [Abs.signs, Abs.words]
theorem enters_gen (P : Program) (h : behindMainWord (wordsSigns P.initOrder.toList) = headWords.map fun w => w.map Char.ofNat) (h1 : P.laysLater = false) (h2 : P.bearsReflect = false) (h3 : P.doorFits [] = true) : P.mayEnter = true := by
  have h4 : stripLifts liftWords (headWords.map fun w => w.map Char.ofNat) = ([], headWords.map fun w => w.map Char.ofNat) := by kernel_rfl
  have h5 : (headWords.map fun w => w.map Char.ofNat) = (headWords.headD []).map Char.ofNat :: (headWords.tail.map fun w => w.map Char.ofNat) := rfl
  unfold Program.mayEnter
  rw [h, h1, h2, h5]
  simp only []
  rw [← h5, h4]
  simp only []
  rw [h3]
  rfl
theorem final_gen (P : Program) (h : behindMainWord (wordsSigns P.initOrder.toList) = headWords.map fun w => w.map Char.ofNat) : P.liftsFinal = false := by
  unfold Program.liftsFinal Program.headLifts
  rw [h]
  kernel_rfl
theorem made_gen (P : Program) (h : behindMainWord (wordsSigns P.initOrder.toList) = headWords.map fun w => w.map Char.ofNat) : P.make = some .cut := by
  unfold Program.make
  rw [h]
  rfl
theorem Abs.enters : Tryz.prog.mayEnter = true := enters_gen _ Abs.heads (by kernel_rfl) (by kernel_rfl) (by kernel_rfl)
theorem Abs.final : Tryz.prog.liftsFinal = false := final_gen _ Abs.heads
theorem Abs.made : Tryz.prog.make = some .cut := made_gen _ Abs.heads
theorem Abs.rowed : mapsRowed Tryz.prog = true := by kernel_rfl
theorem Abs.laidOut : laidOutB Tryz.prog = true := by kernel_rfl
def joinedLess (P : Program) (f : FuncId) (fn : Func) (s : ChangeSpec) (c : OpenClaim) (h1 : P.mayEnter = true) (h2 : P.liftsFinal = false) (h3 : P.make = some .cut) (h4 : mapsRowed P = true) (h5 : laidOutB P = true) : {b : Bool // joinedFacts P f fn s c = b} := by
  refine ⟨?b, ?h⟩
  case h =>
    unfold joinedFacts
    rw [h1, h2, h3, h4, h5]
theorem Abs.closed {f : FuncId} {fn : Func} {s : ChangeSpec} {c : OpenClaim} (h : (joinedLess Tryz.prog f fn s c Abs.enters Abs.final Abs.made Abs.rowed Abs.laidOut).1 = true) : joinedFacts Tryz.prog f fn s c = true :=
  (joinedLess Tryz.prog f fn s c Abs.enters Abs.final Abs.made Abs.rowed Abs.laidOut).2.trans h
end Go.Proofs.YtoindmahilbalaaGreat
namespace Go.Proofs.YtoindmahilbalaaGreat
namespace Abs
open Go.ChangeShapes Go.WideShapes Go.RowKit
def clF (P : Program) (g : TypeId → Option (List Cl)) : Nat → List Field → Option (List Cl)
  | _, [] => some []
  | off, f :: fs => match g f.type with
    | some cs => if f.offset = off ∧ cs.length = P.cellsOf f.type then
        (match clF P g (off + cs.length) fs with | some r => some (cs ++ r) | none => none) else none
    | none => none
def clOf (P : Program) : Nat → TypeId → Option (List Cl)
  | 0, _ => none
  | n + 1, t => match P.underlying t with
    | some .string => some [.str]
    | some .bool => some [.bool]
    | some (.int k) => some [.int k]
    | some (.slice e) => match clOf P n e with
      | some cs => if cs.length = P.cellsOf e ∧ 0 < P.cellsOf e then some [.sl e (P.cellsOf e) cs] else none
      | none => none
    | some (.struct fs) => match clF P (clOf P n) 0 fs.toList with
      | some cs => if cs.length = P.cellsOf t then some cs else none
      | none => none
    | _ => none
theorem Both.app {R : AV → Value → Prop} {xs ys : List AV} {us vs : List Value} (h : Both R xs us) (h' : Both R ys vs) : Both R (xs ++ ys) (us ++ vs) := by
  refine ⟨by simp [h.1, h'.1], fun i x v hx hv => ?_⟩
  rw [List.getElem?_append] at hx hv
  rw [h.1] at hx
  split at hx
  · rename_i hi; rw [if_pos hi] at hv; exact h.2 i x v hx hv
  · rename_i hi; rw [if_neg hi] at hv; exact h'.2 _ x v hx hv
def allF (w : World) (b : Nat) : Nat := match w.heap[b]? with | some (.cells c _ _) => c.size | _ => 0
theorem allF_out (w : World) (b : Nat) (h : w.heap.size ≤ b) : allF w b = 0 := by
  unfold allF; rw [Array.getElem?_eq_none h]
section
variable {H : Type} {enc : TypeId × Value → H} {P : Program} {w : World} {base : Nat} {spare : Nat → Bool} {held : Bool}
def Opens (B : Nat) (w : World) (cls : List Cl) (cs : List Value) : Prop :=
  ∃ trs, FitsL cls trs ∧ Both (Rep B w (allF w) [] [] []) (oldL trs) cs ∧ ∀ v ∈ cs, v.oneCell' = true
theorem Opens.one {B : Nat} {cl : Cl} {v : Value} (x : Tr) (h : FitsL [cl] [x]) (hr : Rep B w (allF w) [] [] [] (old x) v) (h1 : v.oneCell' = true) : Opens B w [cl] [v] :=
  ⟨[x], h, Both.cons.2 ⟨hr, rfl, by simp [oldL]⟩, by simp [h1]⟩
theorem open_fields {fuel : Nat} {cs : List Value} (B : Nat) (g : TypeId → Option (List Cl))
    (ih : ∀ t cs x cls, g t = some cls → DataW.trod enc P w base spare held fuel t cs = some x → Opens B w cls cs) :
    ∀ (fs : List Field) (off : Nat) (cls : List Cl), clF P g off fs = some cls → (∀ f ∈ fs, ∃ x, DataW.trod enc P w base spare held fuel f.type ((cs.drop f.offset).take (P.cellsOf f.type)) = some x) →
      Opens B w cls ((cs.drop off).take cls.length)
  | [], off, cls, h, _ => by
    simp only [clF, Option.some.injEq] at h
    subst h
    exact ⟨[], .nil, by simp [Both, oldL], by simp⟩
  | f :: fs, off, cls, h, hx => by
    unfold clF at h
    cases hg : g f.type with
    | none => rw [hg] at h; cases h
    | some c =>
      rw [hg] at h
      simp only at h
      split at h
      · rename_i hc
        obtain ⟨rfl, hc⟩ := hc
        cases hr : clF P g (f.offset + c.length) fs with
        | none => rw [hr] at h; cases h
        | some r =>
          rw [hr] at h
          simp only [Option.some.injEq] at h
          subst h
          obtain ⟨x, hx1⟩ := hx f (by simp)
          obtain ⟨t1, f1, b1, o1⟩ := ih _ _ _ _ hg hx1
          obtain ⟨t2, f2, b2, o2⟩ := open_fields B g ih fs _ r hr (fun f' hf' => hx f' (by simp [hf']))
          have hsplit : (cs.drop f.offset).take (c ++ r).length = (cs.drop f.offset).take c.length ++ (cs.drop (f.offset + c.length)).take r.length := by
            rw [List.length_append, List.take_add, List.drop_drop]
          rw [hsplit, hc]
          rw [hc] at b2 o2
          refine ⟨t1 ++ t2, f1.append f2, ?_, fun v hv => ?_⟩
          · rw [oldL_eq, List.map_append, ← oldL_eq, ← oldL_eq]; exact b1.app b2
          · rcases List.mem_append.1 hv with h | h
            · exact o1 v h
            · exact o2 v h
      · cases h
theorem open_cells (B : Nat) : ∀ (n fuel : Nat) (t : TypeId) (cs : List Value) (x : DataW H × List MemPlace) (cls : List Cl), clOf P n t = some cls → DataW.trod enc P w base spare held fuel t cs = some x → Opens B w cls cs
  | 0, _, _, _, _, _, h, _ => by cases h
  | n + 1, fuel, t, cs, x, cls, h, hx => by
    unfold clOf at h
    cases ht : P.underlying t with
    | none => rw [ht] at h; cases h
    | some u =>
      rw [ht] at h
      cases u with
      | string =>
        simp only [Option.some.injEq] at h; subst h
        obtain ⟨s, rfl, _, hs⟩ := DataW.trod_string ht hx
        exact Opens.one (.s s.data.toList) (.str _ hs .nil) (rep_string s) rfl
      | bool =>
        simp only [Option.some.injEq] at h; subst h
        cases fuel with
        | zero => simp [DataW.trod] at hx
        | succ m =>
          unfold DataW.trod at hx
          rw [ht] at hx
          split at hx <;> simp_all
          exact Opens.one (.v (.bool _)) (.bool _ .nil) (.val _) rfl
      | int k =>
        simp only [Option.some.injEq] at h; subst h
        obtain ⟨m, rfl, _, hm⟩ := DataW.trod_int ht hx
        exact Opens.one (.v (.int k m)) (.int _ _ hm .nil) (.val _) rfl
      | slice e =>
        simp only at h
        cases hc : clOf P n e with
        | none => rw [hc] at h; cases h
        | some c =>
          rw [hc] at h
          simp only at h
          split at h
          · rename_i hsz
            obtain ⟨hsz, hpos⟩ := hsz
            simp only [Option.some.injEq] at h; subst h
            rcases Go.Deep.open_slice ht hx with ⟨rfl, _⟩ | ⟨a, len, cap, m, k, D, Pl, rfl, _, hl, hm, hmm, _, hel⟩
            · refine Opens.one (.l e (P.cellsOf e) []) (.sl _ _ _ [] (Nat.zero_le _) hsz (by simp) .nil) ?_ rfl
              exact .list none [] none 0 0 0 0 (fun _ _ => undef) (Nat.le_refl _) (fun h => absurd rfl h) (by simp) (fun h => absurd rfl h) (by simp) (by simp) (fun k hk => by cases hk)
            · have hlm : len ≤ m := by rw [hmm]; split <;> omega
              obtain ⟨T, hT⟩ := Go.Deep.choose_lt (α := List Value × List Tr) (n := len) (p := fun i q => w.cells? base (a.add (i * P.cellsOf e)) (P.cellsOf e) = some q.1 ∧ FitsL c q.2 ∧
                  Both (Rep B w (allF w) [] [] []) (oldL q.2) q.1 ∧ ∀ v ∈ q.1, v.oneCell' = true) (fun i hi => by
                obtain ⟨cs', h1, h2⟩ := hel i (by omega)
                obtain ⟨trs, h3, h4, h5⟩ := open_cells B n k e cs' _ c hc h2
                exact ⟨(cs', trs), h1, h3, h4, h5⟩)
              have hlen : ((List.range len).map fun i => (T i).2).length = len := by simp
              refine Opens.one (.l e (P.cellsOf e) ((List.range len).map fun i => (T i).2)) (.sl _ _ _ _ (by rw [hlen]; omega) hsz (fun x hx => ?_) .nil) ?_ rfl
              · obtain ⟨i, hi, rfl⟩ := List.mem_map.1 hx
                exact (hT i (List.mem_range.1 hi)).2.1
              · have hol : (oldLL ((List.range len).map fun i => (T i).2)).length = len := by rw [length_oldLL, hlen]
                have hget : ∀ i e', (oldLL ((List.range len).map fun i => (T i).2))[i]? = some e' → i < len ∧ e' = oldL (T i).2 := by
                  intro i e' he
                  have hi : i < len := by have := getElem?_lt he; omega
                  rw [oldLL_eq] at he
                  simp [hi] at he
                  exact ⟨hi, by rw [oldL_eq]; exact he.symm⟩
                have hlenT : ∀ i, i < len → (oldL (T i).2).length = P.cellsOf e := fun i hi => by rw [oldL_eq, List.length_map, (hT i hi).2.1.length, hsz]
                have hcell : ∀ i j, i < len → j < P.cellsOf e → w.cell? ⟨a.block, a.off + i * P.cellsOf e + j, none⟩ = (T i).1[j]? ∧ a.spot = none := by
                  intro i j hi hj
                  obtain ⟨_, hl', hc'⟩ := World.cells?_some (hT i hi).1
                  have h0 : a.spot = none := by
                    obtain ⟨_, hl0, hc0⟩ := World.cells?_some (hT 0 (by omega)).1
                    have := hc0 0 hpos
                    rw [List.getElem?_eq_getElem (by omega)] at this
                    simp only [Nat.zero_mul, Addr.add, if_true] at this
                    unfold World.cell? at this
                    cases hs : a.spot with
                    | none => rfl
                    | some _ => rw [hs] at this; split at this <;> simp at this
                  refine ⟨?_, h0⟩
                  rw [← hc' j hj, Go.Deep.add_add]
                  unfold Addr.add
                  split
                  · rename_i hz
                    rw [show a.off + i * P.cellsOf e + j = a.off by omega]
                    cases a; simp only at h0; subst h0; rfl
                  · rw [Nat.add_assoc]
                have hrep := Rep.list (B := B) (w := w) (F := allF w) (tok := []) (fr := []) (box := []) none (oldLL ((List.range len).map fun i => (T i).2)) (some a) cap (P.cellsOf e) a.block a.off
                  (fun i j => (T i).1.getD j undef) (by rw [hol]; exact hl)
                  (fun hne => by
                    have : 0 < len := by
                      rcases Nat.eq_zero_or_pos len with h0 | h0
                      · subst h0; exact absurd rfl hne
                      · exact h0
                    have := (hcell 0 0 this hpos).2
                    cases a; simp only at this; subst this; rfl)
                  (fun e' he' => by
                    obtain ⟨i, hi⟩ := List.getElem?_of_mem he'
                    obtain ⟨h1, h2⟩ := hget i e' hi
                    rw [h2]; exact hlenT i h1)
                  (fun hne => by
                    have h0 : 0 < len := by
                      rcases Nat.eq_zero_or_pos len with h0 | h0
                      · subst h0; exact absurd rfl hne
                      · exact h0
                    rw [hol]
                    have hc := (hcell (len - 1) (P.cellsOf e - 1) (by omega) (by omega)).1
                    have hl1 : (T (len - 1)).1.length = P.cellsOf e := (World.cells?_some (hT (len - 1) (by omega)).1).2.1
                    rw [List.getElem?_eq_getElem (by omega)] at hc
                    unfold World.cell? at hc
                    unfold allF
                    simp only at hc
                    split at hc
                    · simp only [Option.isSome_none, Bool.false_eq_true, if_false] at hc
                      have hlt := (Array.getElem?_eq_some_iff.1 hc).1
                      have hmul : (len - 1) * P.cellsOf e + P.cellsOf e = len * P.cellsOf e := by
                        obtain ⟨q, rfl⟩ : ∃ q, len = q + 1 := ⟨len - 1, by omega⟩
                        rw [Nat.add_sub_cancel, Nat.add_mul]; omega
                      rename_i he
                      rw [he]
                      simp only
                      omega
                    · cases hc)
                  (fun i e' j c' hi hj => by
                    obtain ⟨h1, rfl⟩ := hget i e' hi
                    have hj' := getElem?_lt hj
                    rw [hlenT i h1] at hj'
                    have hl1 : (T i).1.length = P.cellsOf e := (World.cells?_some (hT i h1).1).2.1
                    have hg : (T i).1[j]? = some ((T i).1.getD j undef) := by simp [List.getD, hl1, hj']
                    exact ⟨by rw [(hcell i j h1 hj').1, hg], (hT i h1).2.2.2 _ (List.mem_of_getElem? hg)⟩)
                  (fun i e' j c' hi hj => by
                    obtain ⟨h1, rfl⟩ := hget i e' hi
                    have hj' := getElem?_lt hj
                    rw [hlenT i h1] at hj'
                    have hl1 : (T i).1.length = P.cellsOf e := (World.cells?_some (hT i h1).1).2.1
                    have hg : (T i).1[j]? = some ((T i).1.getD j undef) := by simp [List.getD, hl1, hj']
                    exact (hT i h1).2.2.1.2 j c' _ hj hg)
                  (fun k hk => by cases hk)
                rw [hol] at hrep
                exact hrep
          · cases h
      | struct fs =>
        simp only at h
        cases hc : clF P (clOf P n) 0 fs.toList with
        | none => rw [hc] at h; cases h
        | some c =>
          rw [hc] at h
          simp only at h
          split at h
          · rename_i hsz
            simp only [Option.some.injEq] at h; subst h
            obtain ⟨xs, m, rfl, _, hl, hfl, hel⟩ := DataW.trod_struct ht hx
            have := open_fields (fuel := m) (cs := cs) B (clOf P n) (fun t cs x cls h1 h2 => open_cells B n m t cs x cls h1 h2) fs.toList 0 c hc (fun f hf => by
              obtain ⟨i, hi⟩ := List.getElem?_of_mem hf
              have hi' : fs[i]? = some f := by simpa using hi
              have := hel i f hi'
              have hlt : i < xs.length := by have := getElem?_lt hi; simp at this; omega
              exact ⟨_, by rw [this, List.getElem?_eq_getElem hlt]⟩)
            rw [List.drop_zero, hsz, ← hl, List.take_length] at this
            exact this
          · cases h
      | _ => simp only at h; cases h
theorem open_arg {t : TypeId} {v : Value} {d : DataW H} {ps : List MemPlace} {r : Reach} {b0 : Nat} (B n : Nat) {cl : Cl} (hc : clOf P n t = some [cl]) (hs : ∀ fs, P.underlying t ≠ some (.struct fs)) (hval : Value.okWide P w r b0 t v)
    (h : DataW.Trod enc P w base spare held t v d ps) : ∃ x, FitsL [cl] [x] ∧ Rep B w (allF w) [] [] [] (old x) v := by
  obtain ⟨fuel, h⟩ := h
  obtain ⟨trs, h1, h2, h3⟩ := open_cells B n fuel t _ _ _ hc h
  have hv : v.cells.toList = [v] := by
    cases v with
    | agg cs =>
      exfalso
      unfold Value.okWide at hval
      cases n with
      | zero => cases hc
      | succ n =>
        unfold clOf at hc
        cases hu : P.underlying t with
        | none => rw [hu] at hc; cases hc
        | some u =>
          rw [hu] at hc hval hs
          cases u <;> first | cases hc; done | exact absurd rfl (hs _) | (simp only [Cell.okWide, hu, Cell.ok] at hval)
    | _ => rfl
  rw [hv] at h2
  cases trs with
  | nil => exact absurd h1.length (by simp)
  | cons x xs =>
    cases xs with
    | cons _ _ => exact absurd h1.length (by simp)
    | nil => exact ⟨x, h1, (Both.cons.1 h2).1⟩
theorem open_argS {t : TypeId} {v : Value} {d : DataW H} {ps : List MemPlace} {r : Reach} {b0 : Nat} (B n : Nat) {cls : List Cl} (hc : clOf P n t = some cls) {fs : Array Field} (hs : P.underlying t = some (.struct fs)) (hval : Value.okWide P w r b0 t v)
    (h : DataW.Trod enc P w base spare held t v d ps) : ∃ xs, FitsL cls xs ∧ Rep B w (allF w) [] [] [] (old (.a xs)) v := by
  obtain ⟨fuel, h⟩ := h
  obtain ⟨trs, h1, h2, h3⟩ := open_cells B n fuel t _ _ _ hc h
  unfold Value.okWide at hval
  rw [hs] at hval
  obtain ⟨cs, rfl, _, _⟩ := hval
  refine ⟨trs, h1, ?_⟩
  have hg : ∀ i, i < cs.size → cs.toList[i]? = some (cs.getD i undef) := fun i hi => by simp [Array.getD, hi]
  have hl : (oldL trs).length = cs.size := by have := h2.1; simpa [Value.cells] using this
  exact .agg _ _ hl (fun i hi => h3 _ (List.mem_of_getElem? (hg i hi))) (fun i c hc => h2.2 i c _ hc (hg i (by have := getElem?_lt hc; omega)))
end
end Abs
end Go.Proofs.YtoindmahilbalaaGreat
namespace Go.Proofs.YtoindmahilbalaaGreat
namespace Abs
variable {mo : Bool}
open Go.ChangeShapes Go.WideShapes Go.ChangeAt Go.RowKit
section
variable {H : Type} {enc : TypeId × Value → H} {P : Program}
theorem trodAll_stays {base : Nat} (hl : laidOutB P = true) {W W' : World} {sp' : Nat → Bool} : ∀ {ts : List TypeId} {vs : List Value} {ds : List (DataW H)} {ps : List MemPlace},
    (∀ t ∈ ts, P.readableRec t = true ∧ t < P.types.size) → DataW.TrodAll enc P W base (fun _ => true) true ts vs ds ps → (∀ p ∈ ps, W.sameAt W' p) → (∀ p ∈ ps, sp' p.block = true) →
    DataW.TrodAll enc P W' base sp' true ts vs ds ps
  | [], [], [], _, _, h, _, _ => h
  | t :: ts, v :: vs, d :: ds, _, ht, h, hs, hp => by
    obtain ⟨p, q, h1, h2, rfl⟩ := h
    exact ⟨p, q, WideElems.Trod_stays hl (ht t (by simp)).1 (ht t (by simp)).2 h1 (fun x hx => hs x (by simp [hx])) (fun x hx => hp x (by simp [hx])),
      trodAll_stays hl (fun t h => ht t (by simp [h])) h2 (fun x hx => hs x (by simp [hx])) (fun x hx => hp x (by simp [hx])), rfl⟩
theorem law_post {f : Func} {s : ChangeSpec} {apart fresh handsOn again : Bool} {W W' : World} {args : Array Value} {ds gs : List (DataW H)} {before : List MemPlace} {tb : TypeId}
    (hl : laidOutB P = true) (hv : s.vars = []) (hp : ∀ t ∈ f.params.toList, P.readableRec t = true ∧ t < P.types.size) (hr : f.resultTypes = #[tb]) (htb : P.underlying tb = some .bool)
    (hW : DataW.Whole enc P f.params.toList s.vars apart W args.toList ds gs before) (hb : Bel mo W.heap.size W W')
    (hfn : s.fn H (ds ++ gs) = { results := [.lit (.bool true)], args := ds }) : s.post enc P f apart fresh handsOn again W args (.bool true) W' := by
  have hlt : ∀ p ∈ before, p.block < W.heap.size := fun p hp => hW.lt p hp
  have hW' := hW
  obtain ⟨p, q, hA, hV, hpq, hz, hn⟩ := hW
  rw [hv] at hV
  obtain ⟨hg, hq⟩ : gs = [] ∧ q = [] := trodVars_none hV
  subst hg; subst hq
  simp only [List.append_nil] at hpq hfn hz hn
  subst hpq
  have hargs : ∀ sp : Nat → Bool, (∀ x ∈ before, sp x.block = true) → DataW.TrodAll enc P W' 0 sp true f.params.toList args.toList ds before :=
    fun sp hsp => trodAll_stays hl hp hA (fun x hx => hb.same (hlt x hx)) hsp
  have hres : ∀ (b : Nat) (sp : Nat → Bool) (hd : Bool), DataW.TrodAll enc P W' b sp hd f.resultTypes.toList ((Value.bool true).resultList f.resultTypes.size) [.lit (.bool true)] [] := fun b sp hd => by
    rw [hr]
    exact trodAll_mk1 (shut_bool htb true)
  have hvars : ∀ sp : Nat → Bool, DataW.TrodVars enc P W' sp s.vars [] [] := fun sp => by rw [hv]; rfl
  have hfn' : s.fn H (ds ++ []) = { results := [.lit (.bool true)], args := ds } := by rw [List.append_nil]; exact hfn
  refine ⟨ds, [], before, [], before, [], hW', by rw [hfn']; exact hres _ _ _, by rw [hfn']; exact hargs _ (fun x hx => by simpa using hlt x hx), by rw [hfn']; exact hvars _, hb.frame _, fun _ => ?_⟩
  refine ⟨ok_one hr rfl (okWide_bool_mk htb true), _, _, ([] ++ before) ++ [], ⟨[] ++ before, [], trodAll_append (hargs _ (fun _ _ => rfl)) (hres _ _ _), hvars _, rfl, ?_, ?_⟩, ?_⟩
  · intro b off hp'
    have hm : MemPlace.cell b off ∈ before := by simpa using hp'
    rw [hb.frozen (hlt _ hm)]
    exact hz b off hm
  · intro ha
    simpa using hn ha
  · intro x hx _
    simpa using hx
end
theorem law_ret {P : Program} {fid : Nat} {avs : List AV} {args : Array Value} {W : World} (h : Ret mo P fid avs (.val (.bool true)) []) (hB : Both (Rep W.heap.size W (allF W) [] [] []) avs args.toList) :
    Calls P fid args W fun e w' => e = .returned (.bool true) ∧ Bel mo W.heap.size W w' := by
  rw [Ret_eq] at h
  obtain ⟨_, hR⟩ := h
  refine (hR W (allF W) args (fun b hb => allF_out W b hb) hB).mono ?_
  rintro e W' ⟨v, F', tok, box, rfl, hb, _, _, _, _, _, hrep⟩
  cases hrep
  exact ⟨rfl, hb⟩
theorem both_nil {R : AV → Value → Prop} : Both R [] [] := ⟨rfl, by simp⟩
end Abs
theorem Abs.own : ownKnob Tryz.prog.godebug = none := by kernel_rfl
end Go.Proofs.YtoindmahilbalaaGreat
