/-
  What stands below some laws' proofs, part 5: contracts of functions, by an evaluator.
-/
import Derived.Test.YtfffboofmccfhaaZA4
namespace Go.Proofs.Ytfffboofmccfhaa
open Abs
def lessF (a b : Str) : Bool := (parseF a).2 && (parseF b).2 && decide ((parseF a).1 < (parseF b).1)
theorem less_cmp (a b : Str) : ((parseF a).2 && (parseF b).2 && decide (cmpA a b < 0)) = lessF a b := by
  unfold lessF cmpA
  cases ha : (parseF a).2 <;> cases hb : (parseF b).2 <;> simp
  unfold icmp
  split
  · rename_i h; simp [h]
  · split
    · rename_i h; simp [h]
    · rename_i h _; simp; omega
theorem valF_len (b : List VPair) (t : Str) (h : tPairs.size b ≤ 1048576) (ht : t.length ≤ 1048576) : (valF b t).1.length ≤ 1048576 := by
  rw [tPairs_sz] at h
  unfold valF
  split
  · exact ht
  split
  · cases hl : lookV b t with
    | none => simp
    | some v =>
      have : v.length ≤ listSize tPair b := by
        clear h
        induction b with
        | nil => cases hl
        | cons p b ih =>
          rw [lookV] at hl
          have e : listSize tPair (p :: b) = (p.1.length + p.2.length) + listSize tPair b := rfl
          split at hl
          · cases hl; omega
          · have := ih hl; omega
      simp; omega
  · simp
def opF (k : Int) (a b : Str) : Bool := if k = 3 then a == b else if k = 4 then !(a == b) else lessF a b
def holdsTF (x : VCond) (b : List VPair) : Bool := isTestF x && bindF b && (valF b x.2.2.1).2 && (valF b x.2.2.2).2 && opF x.1 (valF b x.2.2.1).1 (valF b x.2.2.2).1
theorem holds_no1 {x : VCond} {b : List VPair} (h : (!isTestF x || !bindF b) = true) : false = holdsTF x b := by
  unfold holdsTF; revert h; cases isTestF x <;> cases bindF b <;> simp
theorem holds_no2 {x : VCond} {b : List VPair} (h : (!(valF b x.2.2.1).2 || !(valF b x.2.2.2).2) = true) : false = holdsTF x b := by
  unfold holdsTF; revert h; cases (valF b x.2.2.1).2 <;> cases (valF b x.2.2.2).2 <;> simp
theorem holds_at {x : VCond} {b : List VPair} (h : (!isTestF x || !bindF b) = false) (h' : (!(valF b x.2.2.1).2 || !(valF b x.2.2.2).2) = false) : opF x.1 (valF b x.2.2.1).1 (valF b x.2.2.2).1 = holdsTF x b := by
  unfold holdsTF; revert h h'; cases isTestF x <;> cases bindF b <;> cases (valF b x.2.2.1).2 <;> cases (valF b x.2.2.2).2 <;> simp
theorem sHoldsTest.ret (x : VCond) (b : List VPair) (h : tCond.size x ≤ 1048576) (hb : tPairs.size b ≤ 1048576) : sHoldsTest.Ret [.agg (oldL (tCond.q x)), .list none (pairs b)] (.val (.bool (holdsTF x b))) [] := by
  refine sHoldsTest.ofS rfl rfl ?_
  have hz := tCond_sz x
  have hl : x.2.2.1.length ≤ 1048576 := by omega
  have hr : x.2.2.2.length ≤ 1048576 := by omega
  have hvl := valF_len b _ hb hl
  have hvr := valF_len b _ hb hr
  repeat' first
    | contradiction
    | (conv => whnf
       first
         | refine Need.mk (fun h => h) ?_
         | refine Need.mk rfl ?_
         | refine Need.mk ⟨rfl, Nat.le_of_ble_eq_true rfl⟩ ?_
         | refine Need.mk (Nat.le_of_ble_eq_true rfl) ?_
         | refine Need.mk (by intros; (try simp only [length_strs] at *); (try simp only [length_rows] at *); (try simp only [length_oldLL, List.length_map] at *); (try simp only [Bool.and_eq_true, decide_eq_true_eq] at *); omega) ?_
         | refine Need.mk ?_ ?_
         | refine Ix.strs rfl (by intros; (try simp only [length_strs] at *); (try simp only [length_rows] at *); (try simp only [length_oldLL, List.length_map] at *); (try simp only [Bool.and_eq_true, decide_eq_true_eq] at *); omega) ?_
         | refine Ix.strs rfl ?_ ?_
         | refine Cut.strs rfl ?_ ?_
         | refine Ix.map (fun _ => rfl) (by intros; (try simp only [length_strs] at *); (try simp only [length_rows] at *); (try simp only [length_oldLL, List.length_map] at *); (try simp only [Bool.and_eq_true, decide_eq_true_eq] at *); omega) ?_
         | refine Ix.map (fun _ => rfl) ?_ ?_
         | refine Cut.map (fun _ => rfl) ?_ ?_
         | refine Fork.yes (by assumption) ?_
         | refine Fork.no (by assumption) ?_
         | refine Fork.decYes (by omega) ?_
         | refine Fork.decNo (by omega) ?_
         | refine Fork.dec (fun _ => ?_) (fun _ => ?_)
         | refine Fork.bne (fun _ => ?_) (fun _ => ?_)
         | refine Fork.beq (fun _ => ?_) (fun _ => ?_)
         | refine Fork.seq (fun _ => ?_) (fun _ => ?_)
         | refine Fork.sne (fun _ => ?_) (fun _ => ?_)
         | refine Fork.neg (fun _ => ?_) (fun _ => ?_)
         | refine Fork.mk (fun _ => ?_) (fun _ => ?_)
         | refine Round.mk ?_
         | refine NilQ.mk (fun b hb => ?_)
         | refine forceK_of ?_
         | refine forceBx_of ?_
         | refine unG_old ?_
         | refine unG_gv ?_
         | refine Lit.read rfl ?_
         | refine FinVal.keep ?_
         | refine FinAgg.keep ?_
         | refine Final.mk rfl rfl
         | refine Final.mk ?_ rfl
         | refine Final.mk ?_ ?_
         | refine FinalT.mk ?_ ?_
         | refine FinalC.all (by repeat' first | exact Lends.nil | refine Lends.map _ ?_ | refine Lends.lend _ _ (by first | exact hx.1 | exact hy.1 | exact noTk_old _ | (intro c hc; rw [List.mem_singleton.1 hc]; rfl) | (intro c hc; cases hc; done)) ?_) ?_
         | refine ACall.scal _ _ (sIsTest.ret _ ?_) rfl (by repeat' first | exact SeesL.nil | refine SeesL.cons ?_ ?_ | exact SeesB.of0 (Sees0.val _) | exact SeesB.of0 (Sees0.str _) | exact SeesB.of0 (Sees0.olds _ _) | exact SeesB.of0 (Sees0.old _) | exact SeesB.of0 (Sees0.oldagg _) | exact SeesB.of0 Sees0.nil | exact Sees0.val _ | exact Sees0.str _ | exact Sees0.olds _ _ | exact Sees0.old _ | exact Sees0.oldagg _ | exact Sees0.nil | exact SeesB.of0 (Sees0.any _) | assumption | exact sees_gv _ _ _ (by assumption) (by first | assumption | exact BoxIn.last _ _ | exact BoxIn.more (BoxIn.last _ _) _) | refine SeesB.agg ?_ | refine Sees0.agg ?_ | exact SeesB.of0 (Sees0.clo SeesL.nil SeesL.nil) | exact Sees0.clo SeesL.nil SeesL.nil | exact SeesB.of0 (Sees0.list rfl) | exact Sees0.list rfl) ?_
         | refine AQCall.mk _ _ (fun hg => sIsTest.ret _ ?_) rfl (fun _ => (by repeat' first | exact SeesL.nil | refine SeesL.cons ?_ ?_ | exact SeesB.of0 (Sees0.val _) | exact SeesB.of0 (Sees0.str _) | exact SeesB.of0 (Sees0.olds _ _) | exact SeesB.of0 (Sees0.old _) | exact SeesB.of0 (Sees0.oldagg _) | exact SeesB.of0 Sees0.nil | exact Sees0.val _ | exact Sees0.str _ | exact Sees0.olds _ _ | exact Sees0.old _ | exact Sees0.oldagg _ | exact Sees0.nil | exact SeesB.of0 (Sees0.any _) | assumption | exact sees_gv _ _ _ (by assumption) (by first | assumption | exact BoxIn.last _ _ | exact BoxIn.more (BoxIn.last _ _) _) | refine SeesB.agg ?_ | refine Sees0.agg ?_ | exact SeesB.of0 (Sees0.clo SeesL.nil SeesL.nil) | exact Sees0.clo SeesL.nil SeesL.nil | exact SeesB.of0 (Sees0.list rfl) | exact Sees0.list rfl)) ?_
         | refine ACall.scal _ _ (sIsBinding.ret _ ?_) rfl (by repeat' first | exact SeesL.nil | refine SeesL.cons ?_ ?_ | exact SeesB.of0 (Sees0.val _) | exact SeesB.of0 (Sees0.str _) | exact SeesB.of0 (Sees0.olds _ _) | exact SeesB.of0 (Sees0.old _) | exact SeesB.of0 (Sees0.oldagg _) | exact SeesB.of0 Sees0.nil | exact Sees0.val _ | exact Sees0.str _ | exact Sees0.olds _ _ | exact Sees0.old _ | exact Sees0.oldagg _ | exact Sees0.nil | exact SeesB.of0 (Sees0.any _) | assumption | exact sees_gv _ _ _ (by assumption) (by first | assumption | exact BoxIn.last _ _ | exact BoxIn.more (BoxIn.last _ _) _) | refine SeesB.agg ?_ | refine Sees0.agg ?_ | exact SeesB.of0 (Sees0.clo SeesL.nil SeesL.nil) | exact Sees0.clo SeesL.nil SeesL.nil | exact SeesB.of0 (Sees0.list rfl) | exact Sees0.list rfl) ?_
         | refine AQCall.mk _ _ (fun hg => sIsBinding.ret _ ?_) rfl (fun _ => (by repeat' first | exact SeesL.nil | refine SeesL.cons ?_ ?_ | exact SeesB.of0 (Sees0.val _) | exact SeesB.of0 (Sees0.str _) | exact SeesB.of0 (Sees0.olds _ _) | exact SeesB.of0 (Sees0.old _) | exact SeesB.of0 (Sees0.oldagg _) | exact SeesB.of0 Sees0.nil | exact Sees0.val _ | exact Sees0.str _ | exact Sees0.olds _ _ | exact Sees0.old _ | exact Sees0.oldagg _ | exact Sees0.nil | exact SeesB.of0 (Sees0.any _) | assumption | exact sees_gv _ _ _ (by assumption) (by first | assumption | exact BoxIn.last _ _ | exact BoxIn.more (BoxIn.last _ _) _) | refine SeesB.agg ?_ | refine Sees0.agg ?_ | exact SeesB.of0 (Sees0.clo SeesL.nil SeesL.nil) | exact Sees0.clo SeesL.nil SeesL.nil | exact SeesB.of0 (Sees0.list rfl) | exact Sees0.list rfl)) ?_
         | refine ACall.scal _ _ (sValueOf.ret _ _ ?_ ?_) rfl (by repeat' first | exact SeesL.nil | refine SeesL.cons ?_ ?_ | exact SeesB.of0 (Sees0.val _) | exact SeesB.of0 (Sees0.str _) | exact SeesB.of0 (Sees0.olds _ _) | exact SeesB.of0 (Sees0.old _) | exact SeesB.of0 (Sees0.oldagg _) | exact SeesB.of0 Sees0.nil | exact Sees0.val _ | exact Sees0.str _ | exact Sees0.olds _ _ | exact Sees0.old _ | exact Sees0.oldagg _ | exact Sees0.nil | exact SeesB.of0 (Sees0.any _) | assumption | exact sees_gv _ _ _ (by assumption) (by first | assumption | exact BoxIn.last _ _ | exact BoxIn.more (BoxIn.last _ _) _) | refine SeesB.agg ?_ | refine Sees0.agg ?_ | exact SeesB.of0 (Sees0.clo SeesL.nil SeesL.nil) | exact Sees0.clo SeesL.nil SeesL.nil | exact SeesB.of0 (Sees0.list rfl) | exact Sees0.list rfl) ?_
         | refine AQCall.mk _ _ (fun hg => sValueOf.ret _ _ ?_ ?_) rfl (fun _ => (by repeat' first | exact SeesL.nil | refine SeesL.cons ?_ ?_ | exact SeesB.of0 (Sees0.val _) | exact SeesB.of0 (Sees0.str _) | exact SeesB.of0 (Sees0.olds _ _) | exact SeesB.of0 (Sees0.old _) | exact SeesB.of0 (Sees0.oldagg _) | exact SeesB.of0 Sees0.nil | exact Sees0.val _ | exact Sees0.str _ | exact Sees0.olds _ _ | exact Sees0.old _ | exact Sees0.oldagg _ | exact Sees0.nil | exact SeesB.of0 (Sees0.any _) | assumption | exact sees_gv _ _ _ (by assumption) (by first | assumption | exact BoxIn.last _ _ | exact BoxIn.more (BoxIn.last _ _) _) | refine SeesB.agg ?_ | refine Sees0.agg ?_ | exact SeesB.of0 (Sees0.clo SeesL.nil SeesL.nil) | exact Sees0.clo SeesL.nil SeesL.nil | exact SeesB.of0 (Sees0.list rfl) | exact Sees0.list rfl)) ?_
         | refine ACall.scal _ _ (sIsNumber.ret _ ?_) rfl (by repeat' first | exact SeesL.nil | refine SeesL.cons ?_ ?_ | exact SeesB.of0 (Sees0.val _) | exact SeesB.of0 (Sees0.str _) | exact SeesB.of0 (Sees0.olds _ _) | exact SeesB.of0 (Sees0.old _) | exact SeesB.of0 (Sees0.oldagg _) | exact SeesB.of0 Sees0.nil | exact Sees0.val _ | exact Sees0.str _ | exact Sees0.olds _ _ | exact Sees0.old _ | exact Sees0.oldagg _ | exact Sees0.nil | exact SeesB.of0 (Sees0.any _) | assumption | exact sees_gv _ _ _ (by assumption) (by first | assumption | exact BoxIn.last _ _ | exact BoxIn.more (BoxIn.last _ _) _) | refine SeesB.agg ?_ | refine Sees0.agg ?_ | exact SeesB.of0 (Sees0.clo SeesL.nil SeesL.nil) | exact Sees0.clo SeesL.nil SeesL.nil | exact SeesB.of0 (Sees0.list rfl) | exact Sees0.list rfl) ?_
         | refine AQCall.mk _ _ (fun hg => sIsNumber.ret _ ?_) rfl (fun _ => (by repeat' first | exact SeesL.nil | refine SeesL.cons ?_ ?_ | exact SeesB.of0 (Sees0.val _) | exact SeesB.of0 (Sees0.str _) | exact SeesB.of0 (Sees0.olds _ _) | exact SeesB.of0 (Sees0.old _) | exact SeesB.of0 (Sees0.oldagg _) | exact SeesB.of0 Sees0.nil | exact Sees0.val _ | exact Sees0.str _ | exact Sees0.olds _ _ | exact Sees0.old _ | exact Sees0.oldagg _ | exact Sees0.nil | exact SeesB.of0 (Sees0.any _) | assumption | exact sees_gv _ _ _ (by assumption) (by first | assumption | exact BoxIn.last _ _ | exact BoxIn.more (BoxIn.last _ _) _) | refine SeesB.agg ?_ | refine Sees0.agg ?_ | exact SeesB.of0 (Sees0.clo SeesL.nil SeesL.nil) | exact Sees0.clo SeesL.nil SeesL.nil | exact SeesB.of0 (Sees0.list rfl) | exact Sees0.list rfl)) ?_
         | refine ACall.scal _ _ (sCompareAtoms.ret _ _ ?_ ?_) rfl (by repeat' first | exact SeesL.nil | refine SeesL.cons ?_ ?_ | exact SeesB.of0 (Sees0.val _) | exact SeesB.of0 (Sees0.str _) | exact SeesB.of0 (Sees0.olds _ _) | exact SeesB.of0 (Sees0.old _) | exact SeesB.of0 (Sees0.oldagg _) | exact SeesB.of0 Sees0.nil | exact Sees0.val _ | exact Sees0.str _ | exact Sees0.olds _ _ | exact Sees0.old _ | exact Sees0.oldagg _ | exact Sees0.nil | exact SeesB.of0 (Sees0.any _) | assumption | exact sees_gv _ _ _ (by assumption) (by first | assumption | exact BoxIn.last _ _ | exact BoxIn.more (BoxIn.last _ _) _) | refine SeesB.agg ?_ | refine Sees0.agg ?_ | exact SeesB.of0 (Sees0.clo SeesL.nil SeesL.nil) | exact Sees0.clo SeesL.nil SeesL.nil | exact SeesB.of0 (Sees0.list rfl) | exact Sees0.list rfl) ?_
         | refine AQCall.mk _ _ (fun hg => sCompareAtoms.ret _ _ ?_ ?_) rfl (fun _ => (by repeat' first | exact SeesL.nil | refine SeesL.cons ?_ ?_ | exact SeesB.of0 (Sees0.val _) | exact SeesB.of0 (Sees0.str _) | exact SeesB.of0 (Sees0.olds _ _) | exact SeesB.of0 (Sees0.old _) | exact SeesB.of0 (Sees0.oldagg _) | exact SeesB.of0 Sees0.nil | exact Sees0.val _ | exact Sees0.str _ | exact Sees0.olds _ _ | exact Sees0.old _ | exact Sees0.oldagg _ | exact Sees0.nil | exact SeesB.of0 (Sees0.any _) | assumption | exact sees_gv _ _ _ (by assumption) (by first | assumption | exact BoxIn.last _ _ | exact BoxIn.more (BoxIn.last _ _) _) | refine SeesB.agg ?_ | refine Sees0.agg ?_ | exact SeesB.of0 (Sees0.clo SeesL.nil SeesL.nil) | exact Sees0.clo SeesL.nil SeesL.nil | exact SeesB.of0 (Sees0.list rfl) | exact Sees0.list rfl)) ?_)
    | refine AV.bool_congr ?_
    | refine AV.int_congr ?_
    | refine AV.str_congr ?_
    | refine AV.list_congr ?_
    | with_reducible rfl
    | refine fr1 ?_
    | refine fr2 ?_ ?_
  all_goals first
    | assumption
    | exact holds_no1 (by assumption)
    | exact holds_no2 (by assumption)
    | (rw [← holds_at (by assumption) (by assumption), opF, if_pos (by assumption)])
    | (rw [← holds_at (by assumption) (by assumption), opF, if_neg (by assumption), if_pos (by assumption)])
    | (rw [← holds_at (by assumption) (by assumption), opF, if_neg (by assumption), if_neg (by assumption), less_cmp])
theorem pcmp1.ret (a b : Str) : pcmp1.Ret [.str a, .str b] (.val (.bool (a == b))) [] := by
  refine pcmp1.of rfl ?_
  repeat' first
    | contradiction
    | (conv => whnf
       first
         | refine Need.mk (fun h => h) ?_
         | refine Need.mk rfl ?_
         | refine Need.mk ⟨rfl, Nat.le_of_ble_eq_true rfl⟩ ?_
         | refine Need.mk (Nat.le_of_ble_eq_true rfl) ?_
         | refine Need.mk (by intros; (try simp only [length_strs] at *); (try simp only [length_rows] at *); (try simp only [length_oldLL, List.length_map] at *); (try simp only [Bool.and_eq_true, decide_eq_true_eq] at *); omega) ?_
         | refine Need.mk ?_ ?_
         | refine Ix.strs rfl (by intros; (try simp only [length_strs] at *); (try simp only [length_rows] at *); (try simp only [length_oldLL, List.length_map] at *); (try simp only [Bool.and_eq_true, decide_eq_true_eq] at *); omega) ?_
         | refine Ix.strs rfl ?_ ?_
         | refine Cut.strs rfl ?_ ?_
         | refine Ix.map (fun _ => rfl) (by intros; (try simp only [length_strs] at *); (try simp only [length_rows] at *); (try simp only [length_oldLL, List.length_map] at *); (try simp only [Bool.and_eq_true, decide_eq_true_eq] at *); omega) ?_
         | refine Ix.map (fun _ => rfl) ?_ ?_
         | refine Cut.map (fun _ => rfl) ?_ ?_
         | refine Fork.yes (by assumption) ?_
         | refine Fork.no (by assumption) ?_
         | refine Fork.decYes (by omega) ?_
         | refine Fork.decNo (by omega) ?_
         | refine Fork.dec (fun _ => ?_) (fun _ => ?_)
         | refine Fork.bne (fun _ => ?_) (fun _ => ?_)
         | refine Fork.beq (fun _ => ?_) (fun _ => ?_)
         | refine Fork.seq (fun _ => ?_) (fun _ => ?_)
         | refine Fork.sne (fun _ => ?_) (fun _ => ?_)
         | refine Fork.neg (fun _ => ?_) (fun _ => ?_)
         | refine Fork.mk (fun _ => ?_) (fun _ => ?_)
         | refine Round.mk ?_
         | refine NilQ.mk (fun b hb => ?_)
         | refine forceK_of ?_
         | refine forceBx_of ?_
         | refine unG_old ?_
         | refine unG_gv ?_
         | refine Lit.read rfl ?_
         | refine FinVal.keep ?_
         | refine FinAgg.keep ?_
         | refine Final.mk rfl rfl
         | refine Final.mk ?_ rfl
         | refine Final.mk ?_ ?_
         | refine FinalT.mk ?_ ?_
         | refine FinalC.all (by repeat' first | exact Lends.nil | refine Lends.map _ ?_ | refine Lends.lend _ _ (by first | exact hx.1 | exact hy.1 | exact noTk_old _ | (intro c hc; rw [List.mem_singleton.1 hc]; rfl) | (intro c hc; cases hc; done)) ?_) ?_)
    | refine AV.bool_congr ?_
    | refine AV.int_congr ?_
    | refine AV.str_congr ?_
    | refine AV.list_congr ?_
    | with_reducible rfl
    | refine fr1 ?_
    | refine fr2 ?_ ?_
theorem pcmp2.ret (a b : Str) : pcmp2.Ret [.str a, .str b] (.val (.bool (!(a == b)))) [] := by
  refine pcmp2.of rfl ?_
  repeat' first
    | contradiction
    | (conv => whnf
       first
         | refine Need.mk (fun h => h) ?_
         | refine Need.mk rfl ?_
         | refine Need.mk ⟨rfl, Nat.le_of_ble_eq_true rfl⟩ ?_
         | refine Need.mk (Nat.le_of_ble_eq_true rfl) ?_
         | refine Need.mk (by intros; (try simp only [length_strs] at *); (try simp only [length_rows] at *); (try simp only [length_oldLL, List.length_map] at *); (try simp only [Bool.and_eq_true, decide_eq_true_eq] at *); omega) ?_
         | refine Need.mk ?_ ?_
         | refine Ix.strs rfl (by intros; (try simp only [length_strs] at *); (try simp only [length_rows] at *); (try simp only [length_oldLL, List.length_map] at *); (try simp only [Bool.and_eq_true, decide_eq_true_eq] at *); omega) ?_
         | refine Ix.strs rfl ?_ ?_
         | refine Cut.strs rfl ?_ ?_
         | refine Ix.map (fun _ => rfl) (by intros; (try simp only [length_strs] at *); (try simp only [length_rows] at *); (try simp only [length_oldLL, List.length_map] at *); (try simp only [Bool.and_eq_true, decide_eq_true_eq] at *); omega) ?_
         | refine Ix.map (fun _ => rfl) ?_ ?_
         | refine Cut.map (fun _ => rfl) ?_ ?_
         | refine Fork.yes (by assumption) ?_
         | refine Fork.no (by assumption) ?_
         | refine Fork.decYes (by omega) ?_
         | refine Fork.decNo (by omega) ?_
         | refine Fork.dec (fun _ => ?_) (fun _ => ?_)
         | refine Fork.bne (fun _ => ?_) (fun _ => ?_)
         | refine Fork.beq (fun _ => ?_) (fun _ => ?_)
         | refine Fork.seq (fun _ => ?_) (fun _ => ?_)
         | refine Fork.sne (fun _ => ?_) (fun _ => ?_)
         | refine Fork.neg (fun _ => ?_) (fun _ => ?_)
         | refine Fork.mk (fun _ => ?_) (fun _ => ?_)
         | refine Round.mk ?_
         | refine NilQ.mk (fun b hb => ?_)
         | refine forceK_of ?_
         | refine forceBx_of ?_
         | refine unG_old ?_
         | refine unG_gv ?_
         | refine Lit.read rfl ?_
         | refine FinVal.keep ?_
         | refine FinAgg.keep ?_
         | refine Final.mk rfl rfl
         | refine Final.mk ?_ rfl
         | refine Final.mk ?_ ?_
         | refine FinalT.mk ?_ ?_
         | refine FinalC.all (by repeat' first | exact Lends.nil | refine Lends.map _ ?_ | refine Lends.lend _ _ (by first | exact hx.1 | exact hy.1 | exact noTk_old _ | (intro c hc; rw [List.mem_singleton.1 hc]; rfl) | (intro c hc; cases hc; done)) ?_) ?_)
    | refine AV.bool_congr ?_
    | refine AV.int_congr ?_
    | refine AV.str_congr ?_
    | refine AV.list_congr ?_
    | with_reducible rfl
    | refine fr1 ?_
    | refine fr2 ?_ ?_
theorem pisLessNumber.ret (a b : Str) (ha : a.length ≤ 1048576) (hb : b.length ≤ 1048576) : pisLessNumber.Ret [.str a, .str b] (.val (.bool (lessF a b))) [] := by
  refine pisLessNumber.of rfl ?_
  repeat' first
    | contradiction
    | (conv => whnf
       first
         | refine Need.mk (fun h => h) ?_
         | refine Need.mk rfl ?_
         | refine Need.mk ⟨rfl, Nat.le_of_ble_eq_true rfl⟩ ?_
         | refine Need.mk (Nat.le_of_ble_eq_true rfl) ?_
         | refine Need.mk (by intros; (try simp only [length_strs] at *); (try simp only [length_rows] at *); (try simp only [length_oldLL, List.length_map] at *); (try simp only [Bool.and_eq_true, decide_eq_true_eq] at *); omega) ?_
         | refine Need.mk ?_ ?_
         | refine Ix.strs rfl (by intros; (try simp only [length_strs] at *); (try simp only [length_rows] at *); (try simp only [length_oldLL, List.length_map] at *); (try simp only [Bool.and_eq_true, decide_eq_true_eq] at *); omega) ?_
         | refine Ix.strs rfl ?_ ?_
         | refine Cut.strs rfl ?_ ?_
         | refine Ix.map (fun _ => rfl) (by intros; (try simp only [length_strs] at *); (try simp only [length_rows] at *); (try simp only [length_oldLL, List.length_map] at *); (try simp only [Bool.and_eq_true, decide_eq_true_eq] at *); omega) ?_
         | refine Ix.map (fun _ => rfl) ?_ ?_
         | refine Cut.map (fun _ => rfl) ?_ ?_
         | refine Fork.yes (by assumption) ?_
         | refine Fork.no (by assumption) ?_
         | refine Fork.decYes (by omega) ?_
         | refine Fork.decNo (by omega) ?_
         | refine Fork.dec (fun _ => ?_) (fun _ => ?_)
         | refine Fork.bne (fun _ => ?_) (fun _ => ?_)
         | refine Fork.beq (fun _ => ?_) (fun _ => ?_)
         | refine Fork.seq (fun _ => ?_) (fun _ => ?_)
         | refine Fork.sne (fun _ => ?_) (fun _ => ?_)
         | refine Fork.neg (fun _ => ?_) (fun _ => ?_)
         | refine Fork.mk (fun _ => ?_) (fun _ => ?_)
         | refine Round.mk ?_
         | refine NilQ.mk (fun b hb => ?_)
         | refine forceK_of ?_
         | refine forceBx_of ?_
         | refine unG_old ?_
         | refine unG_gv ?_
         | refine Lit.read rfl ?_
         | refine FinVal.keep ?_
         | refine FinAgg.keep ?_
         | refine Final.mk rfl rfl
         | refine Final.mk ?_ rfl
         | refine Final.mk ?_ ?_
         | refine FinalT.mk ?_ ?_
         | refine FinalC.all (by repeat' first | exact Lends.nil | refine Lends.map _ ?_ | refine Lends.lend _ _ (by first | exact hx.1 | exact hy.1 | exact noTk_old _ | (intro c hc; rw [List.mem_singleton.1 hc]; rfl) | (intro c hc; cases hc; done)) ?_) ?_
         | refine ACall.scal _ _ (pParseInt.ret _ ?_) rfl (by repeat' first | exact SeesL.nil | refine SeesL.cons ?_ ?_ | exact SeesB.of0 (Sees0.val _) | exact SeesB.of0 (Sees0.str _) | exact SeesB.of0 (Sees0.olds _ _) | exact SeesB.of0 (Sees0.old _) | exact SeesB.of0 (Sees0.oldagg _) | exact SeesB.of0 Sees0.nil | exact Sees0.val _ | exact Sees0.str _ | exact Sees0.olds _ _ | exact Sees0.old _ | exact Sees0.oldagg _ | exact Sees0.nil | exact SeesB.of0 (Sees0.any _) | assumption | exact sees_gv _ _ _ (by assumption) (by first | assumption | exact BoxIn.last _ _ | exact BoxIn.more (BoxIn.last _ _) _) | refine SeesB.agg ?_ | refine Sees0.agg ?_ | exact SeesB.of0 (Sees0.clo SeesL.nil SeesL.nil) | exact Sees0.clo SeesL.nil SeesL.nil | exact SeesB.of0 (Sees0.list rfl) | exact Sees0.list rfl) ?_
         | refine AQCall.mk _ _ (fun hg => pParseInt.ret _ ?_) rfl (fun _ => (by repeat' first | exact SeesL.nil | refine SeesL.cons ?_ ?_ | exact SeesB.of0 (Sees0.val _) | exact SeesB.of0 (Sees0.str _) | exact SeesB.of0 (Sees0.olds _ _) | exact SeesB.of0 (Sees0.old _) | exact SeesB.of0 (Sees0.oldagg _) | exact SeesB.of0 Sees0.nil | exact Sees0.val _ | exact Sees0.str _ | exact Sees0.olds _ _ | exact Sees0.old _ | exact Sees0.oldagg _ | exact Sees0.nil | exact SeesB.of0 (Sees0.any _) | assumption | exact sees_gv _ _ _ (by assumption) (by first | assumption | exact BoxIn.last _ _ | exact BoxIn.more (BoxIn.last _ _) _) | refine SeesB.agg ?_ | refine Sees0.agg ?_ | exact SeesB.of0 (Sees0.clo SeesL.nil SeesL.nil) | exact Sees0.clo SeesL.nil SeesL.nil | exact SeesB.of0 (Sees0.list rfl) | exact Sees0.list rfl)) ?_)
    | refine AV.bool_congr ?_
    | refine AV.int_congr ?_
    | refine AV.str_congr ?_
    | refine AV.list_congr ?_
    | with_reducible rfl
    | refine fr1 ?_
    | refine fr2 ?_ ?_
  all_goals first
    | assumption
    | rfl
theorem test_kind {x : VCond} {b : List VPair} (h : (!isTestF x || !bindF b) = false) : x.1 = 3 ∨ x.1 = 4 ∨ x.1 = 5 := by
  have h1 : isTestF x = true := by revert h; cases isTestF x <;> simp
  unfold isTestF at h1
  rw [Bool.and_eq_true] at h1
  have h2 := h1.1
  simp only [testKind, Bool.or_eq_true, beq_iff_eq] at h2
  omega
theorem pHoldsTest.ret (x : VCond) (b : List VPair) (h : tCond.size x ≤ 1048576) (hb : tPairs.size b ≤ 1048576) : pHoldsTest.Ret [.agg (oldL (tCond.q x)), .list none (pairs b)] (.val (.bool (holdsTF x b))) [] := by
  refine pHoldsTest.ofS rfl rfl ?_
  have hz := tCond_sz x
  have hl : x.2.2.1.length ≤ 1048576 := by omega
  have hr : x.2.2.2.length ≤ 1048576 := by omega
  have hvl := valF_len b _ hb hl
  have hvr := valF_len b _ hb hr
  by_cases hno : (!isTestF x || !bindF b) = true
  · repeat' first
      | contradiction
      | (conv => whnf
         first
           | refine Need.mk (fun h => h) ?_
           | refine Need.mk rfl ?_
           | refine Need.mk ⟨rfl, Nat.le_of_ble_eq_true rfl⟩ ?_
           | refine Need.mk (Nat.le_of_ble_eq_true rfl) ?_
           | refine Need.mk (by intros; (try simp only [length_strs] at *); (try simp only [length_rows] at *); (try simp only [length_oldLL, List.length_map] at *); (try simp only [Bool.and_eq_true, decide_eq_true_eq] at *); omega) ?_
           | refine Need.mk ?_ ?_
           | refine Ix.strs rfl (by intros; (try simp only [length_strs] at *); (try simp only [length_rows] at *); (try simp only [length_oldLL, List.length_map] at *); (try simp only [Bool.and_eq_true, decide_eq_true_eq] at *); omega) ?_
           | refine Ix.strs rfl ?_ ?_
           | refine Cut.strs rfl ?_ ?_
           | refine Ix.map (fun _ => rfl) (by intros; (try simp only [length_strs] at *); (try simp only [length_rows] at *); (try simp only [length_oldLL, List.length_map] at *); (try simp only [Bool.and_eq_true, decide_eq_true_eq] at *); omega) ?_
           | refine Ix.map (fun _ => rfl) ?_ ?_
           | refine Cut.map (fun _ => rfl) ?_ ?_
           | refine Fork.yes (by assumption) ?_
           | refine Fork.no (by assumption) ?_
           | refine Fork.decYes (by omega) ?_
           | refine Fork.decNo (by omega) ?_
           | refine Fork.dec (fun _ => ?_) (fun _ => ?_)
           | refine Fork.bne (fun _ => ?_) (fun _ => ?_)
           | refine Fork.beq (fun _ => ?_) (fun _ => ?_)
           | refine Fork.seq (fun _ => ?_) (fun _ => ?_)
           | refine Fork.sne (fun _ => ?_) (fun _ => ?_)
           | refine Fork.neg (fun _ => ?_) (fun _ => ?_)
           | refine Fork.mk (fun _ => ?_) (fun _ => ?_)
           | refine Round.mk ?_
           | refine NilQ.mk (fun b hb => ?_)
           | refine forceK_of ?_
           | refine forceBx_of ?_
           | refine unG_old ?_
           | refine unG_gv ?_
           | refine Lit.read rfl ?_
           | refine FinVal.keep ?_
           | refine FinAgg.keep ?_
           | refine Final.mk rfl rfl
           | refine Final.mk ?_ rfl
           | refine Final.mk ?_ ?_
           | refine FinalT.mk ?_ ?_
           | refine FinalC.all (by repeat' first | exact Lends.nil | refine Lends.map _ ?_ | refine Lends.lend _ _ (by first | exact hx.1 | exact hy.1 | exact noTk_old _ | (intro c hc; rw [List.mem_singleton.1 hc]; rfl) | (intro c hc; cases hc; done)) ?_) ?_
           | refine ACall.scal _ _ (pIsTest.ret _ ?_) rfl (by repeat' first | exact SeesL.nil | refine SeesL.cons ?_ ?_ | exact SeesB.of0 (Sees0.val _) | exact SeesB.of0 (Sees0.str _) | exact SeesB.of0 (Sees0.olds _ _) | exact SeesB.of0 (Sees0.old _) | exact SeesB.of0 (Sees0.oldagg _) | exact SeesB.of0 Sees0.nil | exact Sees0.val _ | exact Sees0.str _ | exact Sees0.olds _ _ | exact Sees0.old _ | exact Sees0.oldagg _ | exact Sees0.nil | exact SeesB.of0 (Sees0.any _) | assumption | exact sees_gv _ _ _ (by assumption) (by first | assumption | exact BoxIn.last _ _ | exact BoxIn.more (BoxIn.last _ _) _) | refine SeesB.agg ?_ | refine Sees0.agg ?_ | exact SeesB.of0 (Sees0.clo SeesL.nil SeesL.nil) | exact Sees0.clo SeesL.nil SeesL.nil | exact SeesB.of0 (Sees0.list rfl) | exact Sees0.list rfl) ?_
           | refine AQCall.mk _ _ (fun hg => pIsTest.ret _ ?_) rfl (fun _ => (by repeat' first | exact SeesL.nil | refine SeesL.cons ?_ ?_ | exact SeesB.of0 (Sees0.val _) | exact SeesB.of0 (Sees0.str _) | exact SeesB.of0 (Sees0.olds _ _) | exact SeesB.of0 (Sees0.old _) | exact SeesB.of0 (Sees0.oldagg _) | exact SeesB.of0 Sees0.nil | exact Sees0.val _ | exact Sees0.str _ | exact Sees0.olds _ _ | exact Sees0.old _ | exact Sees0.oldagg _ | exact Sees0.nil | exact SeesB.of0 (Sees0.any _) | assumption | exact sees_gv _ _ _ (by assumption) (by first | assumption | exact BoxIn.last _ _ | exact BoxIn.more (BoxIn.last _ _) _) | refine SeesB.agg ?_ | refine Sees0.agg ?_ | exact SeesB.of0 (Sees0.clo SeesL.nil SeesL.nil) | exact Sees0.clo SeesL.nil SeesL.nil | exact SeesB.of0 (Sees0.list rfl) | exact Sees0.list rfl)) ?_
           | refine ACall.scal _ _ (pIsBinding.ret _ ?_) rfl (by repeat' first | exact SeesL.nil | refine SeesL.cons ?_ ?_ | exact SeesB.of0 (Sees0.val _) | exact SeesB.of0 (Sees0.str _) | exact SeesB.of0 (Sees0.olds _ _) | exact SeesB.of0 (Sees0.old _) | exact SeesB.of0 (Sees0.oldagg _) | exact SeesB.of0 Sees0.nil | exact Sees0.val _ | exact Sees0.str _ | exact Sees0.olds _ _ | exact Sees0.old _ | exact Sees0.oldagg _ | exact Sees0.nil | exact SeesB.of0 (Sees0.any _) | assumption | exact sees_gv _ _ _ (by assumption) (by first | assumption | exact BoxIn.last _ _ | exact BoxIn.more (BoxIn.last _ _) _) | refine SeesB.agg ?_ | refine Sees0.agg ?_ | exact SeesB.of0 (Sees0.clo SeesL.nil SeesL.nil) | exact Sees0.clo SeesL.nil SeesL.nil | exact SeesB.of0 (Sees0.list rfl) | exact Sees0.list rfl) ?_
           | refine AQCall.mk _ _ (fun hg => pIsBinding.ret _ ?_) rfl (fun _ => (by repeat' first | exact SeesL.nil | refine SeesL.cons ?_ ?_ | exact SeesB.of0 (Sees0.val _) | exact SeesB.of0 (Sees0.str _) | exact SeesB.of0 (Sees0.olds _ _) | exact SeesB.of0 (Sees0.old _) | exact SeesB.of0 (Sees0.oldagg _) | exact SeesB.of0 Sees0.nil | exact Sees0.val _ | exact Sees0.str _ | exact Sees0.olds _ _ | exact Sees0.old _ | exact Sees0.oldagg _ | exact Sees0.nil | exact SeesB.of0 (Sees0.any _) | assumption | exact sees_gv _ _ _ (by assumption) (by first | assumption | exact BoxIn.last _ _ | exact BoxIn.more (BoxIn.last _ _) _) | refine SeesB.agg ?_ | refine Sees0.agg ?_ | exact SeesB.of0 (Sees0.clo SeesL.nil SeesL.nil) | exact Sees0.clo SeesL.nil SeesL.nil | exact SeesB.of0 (Sees0.list rfl) | exact Sees0.list rfl)) ?_)
      | refine AV.bool_congr ?_
      | refine AV.int_congr ?_
      | refine AV.str_congr ?_
      | refine AV.list_congr ?_
      | with_reducible rfl
      | refine fr1 ?_
      | refine fr2 ?_ ?_
    all_goals first
      | assumption
      | exact holds_no1 (by assumption)
      | contradiction
  have hyes : (!isTestF x || !bindF b) = false := by simpa using hno
  by_cases hno2 : (!(valF b x.2.2.1).2 || !(valF b x.2.2.2).2) = true
  · repeat' first
      | contradiction
      | (conv => whnf
         first
           | refine Need.mk (fun h => h) ?_
           | refine Need.mk rfl ?_
           | refine Need.mk ⟨rfl, Nat.le_of_ble_eq_true rfl⟩ ?_
           | refine Need.mk (Nat.le_of_ble_eq_true rfl) ?_
           | refine Need.mk (by intros; (try simp only [length_strs] at *); (try simp only [length_rows] at *); (try simp only [length_oldLL, List.length_map] at *); (try simp only [Bool.and_eq_true, decide_eq_true_eq] at *); omega) ?_
           | refine Need.mk ?_ ?_
           | refine Ix.strs rfl (by intros; (try simp only [length_strs] at *); (try simp only [length_rows] at *); (try simp only [length_oldLL, List.length_map] at *); (try simp only [Bool.and_eq_true, decide_eq_true_eq] at *); omega) ?_
           | refine Ix.strs rfl ?_ ?_
           | refine Cut.strs rfl ?_ ?_
           | refine Ix.map (fun _ => rfl) (by intros; (try simp only [length_strs] at *); (try simp only [length_rows] at *); (try simp only [length_oldLL, List.length_map] at *); (try simp only [Bool.and_eq_true, decide_eq_true_eq] at *); omega) ?_
           | refine Ix.map (fun _ => rfl) ?_ ?_
           | refine Cut.map (fun _ => rfl) ?_ ?_
           | refine Fork.yes (by assumption) ?_
           | refine Fork.no (by assumption) ?_
           | refine Fork.decYes (by omega) ?_
           | refine Fork.decNo (by omega) ?_
           | refine Fork.dec (fun _ => ?_) (fun _ => ?_)
           | refine Fork.bne (fun _ => ?_) (fun _ => ?_)
           | refine Fork.beq (fun _ => ?_) (fun _ => ?_)
           | refine Fork.seq (fun _ => ?_) (fun _ => ?_)
           | refine Fork.sne (fun _ => ?_) (fun _ => ?_)
           | refine Fork.neg (fun _ => ?_) (fun _ => ?_)
           | refine Fork.mk (fun _ => ?_) (fun _ => ?_)
           | refine Round.mk ?_
           | refine NilQ.mk (fun b hb => ?_)
           | refine forceK_of ?_
           | refine forceBx_of ?_
           | refine unG_old ?_
           | refine unG_gv ?_
           | refine Lit.read rfl ?_
           | refine FinVal.keep ?_
           | refine FinAgg.keep ?_
           | refine Final.mk rfl rfl
           | refine Final.mk ?_ rfl
           | refine Final.mk ?_ ?_
           | refine FinalT.mk ?_ ?_
           | refine FinalC.all (by repeat' first | exact Lends.nil | refine Lends.map _ ?_ | refine Lends.lend _ _ (by first | exact hx.1 | exact hy.1 | exact noTk_old _ | (intro c hc; rw [List.mem_singleton.1 hc]; rfl) | (intro c hc; cases hc; done)) ?_) ?_
           | refine ACall.scal _ _ (pIsTest.ret _ ?_) rfl (by repeat' first | exact SeesL.nil | refine SeesL.cons ?_ ?_ | exact SeesB.of0 (Sees0.val _) | exact SeesB.of0 (Sees0.str _) | exact SeesB.of0 (Sees0.olds _ _) | exact SeesB.of0 (Sees0.old _) | exact SeesB.of0 (Sees0.oldagg _) | exact SeesB.of0 Sees0.nil | exact Sees0.val _ | exact Sees0.str _ | exact Sees0.olds _ _ | exact Sees0.old _ | exact Sees0.oldagg _ | exact Sees0.nil | exact SeesB.of0 (Sees0.any _) | assumption | exact sees_gv _ _ _ (by assumption) (by first | assumption | exact BoxIn.last _ _ | exact BoxIn.more (BoxIn.last _ _) _) | refine SeesB.agg ?_ | refine Sees0.agg ?_ | exact SeesB.of0 (Sees0.clo SeesL.nil SeesL.nil) | exact Sees0.clo SeesL.nil SeesL.nil | exact SeesB.of0 (Sees0.list rfl) | exact Sees0.list rfl) ?_
           | refine AQCall.mk _ _ (fun hg => pIsTest.ret _ ?_) rfl (fun _ => (by repeat' first | exact SeesL.nil | refine SeesL.cons ?_ ?_ | exact SeesB.of0 (Sees0.val _) | exact SeesB.of0 (Sees0.str _) | exact SeesB.of0 (Sees0.olds _ _) | exact SeesB.of0 (Sees0.old _) | exact SeesB.of0 (Sees0.oldagg _) | exact SeesB.of0 Sees0.nil | exact Sees0.val _ | exact Sees0.str _ | exact Sees0.olds _ _ | exact Sees0.old _ | exact Sees0.oldagg _ | exact Sees0.nil | exact SeesB.of0 (Sees0.any _) | assumption | exact sees_gv _ _ _ (by assumption) (by first | assumption | exact BoxIn.last _ _ | exact BoxIn.more (BoxIn.last _ _) _) | refine SeesB.agg ?_ | refine Sees0.agg ?_ | exact SeesB.of0 (Sees0.clo SeesL.nil SeesL.nil) | exact Sees0.clo SeesL.nil SeesL.nil | exact SeesB.of0 (Sees0.list rfl) | exact Sees0.list rfl)) ?_
           | refine ACall.scal _ _ (pIsBinding.ret _ ?_) rfl (by repeat' first | exact SeesL.nil | refine SeesL.cons ?_ ?_ | exact SeesB.of0 (Sees0.val _) | exact SeesB.of0 (Sees0.str _) | exact SeesB.of0 (Sees0.olds _ _) | exact SeesB.of0 (Sees0.old _) | exact SeesB.of0 (Sees0.oldagg _) | exact SeesB.of0 Sees0.nil | exact Sees0.val _ | exact Sees0.str _ | exact Sees0.olds _ _ | exact Sees0.old _ | exact Sees0.oldagg _ | exact Sees0.nil | exact SeesB.of0 (Sees0.any _) | assumption | exact sees_gv _ _ _ (by assumption) (by first | assumption | exact BoxIn.last _ _ | exact BoxIn.more (BoxIn.last _ _) _) | refine SeesB.agg ?_ | refine Sees0.agg ?_ | exact SeesB.of0 (Sees0.clo SeesL.nil SeesL.nil) | exact Sees0.clo SeesL.nil SeesL.nil | exact SeesB.of0 (Sees0.list rfl) | exact Sees0.list rfl) ?_
           | refine AQCall.mk _ _ (fun hg => pIsBinding.ret _ ?_) rfl (fun _ => (by repeat' first | exact SeesL.nil | refine SeesL.cons ?_ ?_ | exact SeesB.of0 (Sees0.val _) | exact SeesB.of0 (Sees0.str _) | exact SeesB.of0 (Sees0.olds _ _) | exact SeesB.of0 (Sees0.old _) | exact SeesB.of0 (Sees0.oldagg _) | exact SeesB.of0 Sees0.nil | exact Sees0.val _ | exact Sees0.str _ | exact Sees0.olds _ _ | exact Sees0.old _ | exact Sees0.oldagg _ | exact Sees0.nil | exact SeesB.of0 (Sees0.any _) | assumption | exact sees_gv _ _ _ (by assumption) (by first | assumption | exact BoxIn.last _ _ | exact BoxIn.more (BoxIn.last _ _) _) | refine SeesB.agg ?_ | refine Sees0.agg ?_ | exact SeesB.of0 (Sees0.clo SeesL.nil SeesL.nil) | exact Sees0.clo SeesL.nil SeesL.nil | exact SeesB.of0 (Sees0.list rfl) | exact Sees0.list rfl)) ?_
           | refine ACall.scal _ _ (pValueOf.ret _ _ ?_ ?_) rfl (by repeat' first | exact SeesL.nil | refine SeesL.cons ?_ ?_ | exact SeesB.of0 (Sees0.val _) | exact SeesB.of0 (Sees0.str _) | exact SeesB.of0 (Sees0.olds _ _) | exact SeesB.of0 (Sees0.old _) | exact SeesB.of0 (Sees0.oldagg _) | exact SeesB.of0 Sees0.nil | exact Sees0.val _ | exact Sees0.str _ | exact Sees0.olds _ _ | exact Sees0.old _ | exact Sees0.oldagg _ | exact Sees0.nil | exact SeesB.of0 (Sees0.any _) | assumption | exact sees_gv _ _ _ (by assumption) (by first | assumption | exact BoxIn.last _ _ | exact BoxIn.more (BoxIn.last _ _) _) | refine SeesB.agg ?_ | refine Sees0.agg ?_ | exact SeesB.of0 (Sees0.clo SeesL.nil SeesL.nil) | exact Sees0.clo SeesL.nil SeesL.nil | exact SeesB.of0 (Sees0.list rfl) | exact Sees0.list rfl) ?_
           | refine AQCall.mk _ _ (fun hg => pValueOf.ret _ _ ?_ ?_) rfl (fun _ => (by repeat' first | exact SeesL.nil | refine SeesL.cons ?_ ?_ | exact SeesB.of0 (Sees0.val _) | exact SeesB.of0 (Sees0.str _) | exact SeesB.of0 (Sees0.olds _ _) | exact SeesB.of0 (Sees0.old _) | exact SeesB.of0 (Sees0.oldagg _) | exact SeesB.of0 Sees0.nil | exact Sees0.val _ | exact Sees0.str _ | exact Sees0.olds _ _ | exact Sees0.old _ | exact Sees0.oldagg _ | exact Sees0.nil | exact SeesB.of0 (Sees0.any _) | assumption | exact sees_gv _ _ _ (by assumption) (by first | assumption | exact BoxIn.last _ _ | exact BoxIn.more (BoxIn.last _ _) _) | refine SeesB.agg ?_ | refine Sees0.agg ?_ | exact SeesB.of0 (Sees0.clo SeesL.nil SeesL.nil) | exact Sees0.clo SeesL.nil SeesL.nil | exact SeesB.of0 (Sees0.list rfl) | exact Sees0.list rfl)) ?_)
      | refine AV.bool_congr ?_
      | refine AV.int_congr ?_
      | refine AV.str_congr ?_
      | refine AV.list_congr ?_
      | with_reducible rfl
      | refine fr1 ?_
      | refine fr2 ?_ ?_
    all_goals first
      | assumption
      | exact holds_no1 (by assumption)
      | exact holds_no2 (by assumption)
      | contradiction
  have hyes2 : (!(valF b x.2.2.1).2 || !(valF b x.2.2.2).2) = false := by simpa using hno2
  rcases test_kind hyes with hk | hk | hk
  · have hc : pcomparisonOf.Ret [.val (.int .i64 x.1)] (.tup [.agg [.val (.int .i64 3), .str [61], .clo 132 [] []], .val (.bool true)]) [(75, 3, 3)] := by rw [hk]; exact cmp3
    repeat' first
      | contradiction
      | (conv => whnf
         first
           | refine Need.mk (fun h => h) ?_
           | refine Need.mk rfl ?_
           | refine Need.mk ⟨rfl, Nat.le_of_ble_eq_true rfl⟩ ?_
           | refine Need.mk (Nat.le_of_ble_eq_true rfl) ?_
           | refine Need.mk (by intros; (try simp only [length_strs] at *); (try simp only [length_rows] at *); (try simp only [length_oldLL, List.length_map] at *); (try simp only [Bool.and_eq_true, decide_eq_true_eq] at *); omega) ?_
           | refine Need.mk ?_ ?_
           | refine Ix.strs rfl (by intros; (try simp only [length_strs] at *); (try simp only [length_rows] at *); (try simp only [length_oldLL, List.length_map] at *); (try simp only [Bool.and_eq_true, decide_eq_true_eq] at *); omega) ?_
           | refine Ix.strs rfl ?_ ?_
           | refine Cut.strs rfl ?_ ?_
           | refine Ix.map (fun _ => rfl) (by intros; (try simp only [length_strs] at *); (try simp only [length_rows] at *); (try simp only [length_oldLL, List.length_map] at *); (try simp only [Bool.and_eq_true, decide_eq_true_eq] at *); omega) ?_
           | refine Ix.map (fun _ => rfl) ?_ ?_
           | refine Cut.map (fun _ => rfl) ?_ ?_
           | refine Fork.yes (by assumption) ?_
           | refine Fork.no (by assumption) ?_
           | refine Fork.decYes (by omega) ?_
           | refine Fork.decNo (by omega) ?_
           | refine Fork.dec (fun _ => ?_) (fun _ => ?_)
           | refine Fork.bne (fun _ => ?_) (fun _ => ?_)
           | refine Fork.beq (fun _ => ?_) (fun _ => ?_)
           | refine Fork.seq (fun _ => ?_) (fun _ => ?_)
           | refine Fork.sne (fun _ => ?_) (fun _ => ?_)
           | refine Fork.neg (fun _ => ?_) (fun _ => ?_)
           | refine Fork.mk (fun _ => ?_) (fun _ => ?_)
           | refine Round.mk ?_
           | refine NilQ.mk (fun b hb => ?_)
           | refine forceK_of ?_
           | refine forceBx_of ?_
           | refine unG_old ?_
           | refine unG_gv ?_
           | refine Lit.read rfl ?_
           | refine FinVal.keep ?_
           | refine FinAgg.keep ?_
           | refine Final.mk rfl rfl
           | refine Final.mk ?_ rfl
           | refine Final.mk ?_ ?_
           | refine FinalT.mk ?_ ?_
           | refine FinalC.all (by repeat' first | exact Lends.nil | refine Lends.map _ ?_ | refine Lends.lend _ _ (by first | exact hx.1 | exact hy.1 | exact noTk_old _ | (intro c hc; rw [List.mem_singleton.1 hc]; rfl) | (intro c hc; cases hc; done)) ?_) ?_
           | refine ACall.scal _ _ (pIsTest.ret _ ?_) rfl (by repeat' first | exact SeesL.nil | refine SeesL.cons ?_ ?_ | exact SeesB.of0 (Sees0.val _) | exact SeesB.of0 (Sees0.str _) | exact SeesB.of0 (Sees0.olds _ _) | exact SeesB.of0 (Sees0.old _) | exact SeesB.of0 (Sees0.oldagg _) | exact SeesB.of0 Sees0.nil | exact Sees0.val _ | exact Sees0.str _ | exact Sees0.olds _ _ | exact Sees0.old _ | exact Sees0.oldagg _ | exact Sees0.nil | exact SeesB.of0 (Sees0.any _) | assumption | exact sees_gv _ _ _ (by assumption) (by first | assumption | exact BoxIn.last _ _ | exact BoxIn.more (BoxIn.last _ _) _) | refine SeesB.agg ?_ | refine Sees0.agg ?_ | exact SeesB.of0 (Sees0.clo SeesL.nil SeesL.nil) | exact Sees0.clo SeesL.nil SeesL.nil | exact SeesB.of0 (Sees0.list rfl) | exact Sees0.list rfl) ?_
           | refine AQCall.mk _ _ (fun hg => pIsTest.ret _ ?_) rfl (fun _ => (by repeat' first | exact SeesL.nil | refine SeesL.cons ?_ ?_ | exact SeesB.of0 (Sees0.val _) | exact SeesB.of0 (Sees0.str _) | exact SeesB.of0 (Sees0.olds _ _) | exact SeesB.of0 (Sees0.old _) | exact SeesB.of0 (Sees0.oldagg _) | exact SeesB.of0 Sees0.nil | exact Sees0.val _ | exact Sees0.str _ | exact Sees0.olds _ _ | exact Sees0.old _ | exact Sees0.oldagg _ | exact Sees0.nil | exact SeesB.of0 (Sees0.any _) | assumption | exact sees_gv _ _ _ (by assumption) (by first | assumption | exact BoxIn.last _ _ | exact BoxIn.more (BoxIn.last _ _) _) | refine SeesB.agg ?_ | refine Sees0.agg ?_ | exact SeesB.of0 (Sees0.clo SeesL.nil SeesL.nil) | exact Sees0.clo SeesL.nil SeesL.nil | exact SeesB.of0 (Sees0.list rfl) | exact Sees0.list rfl)) ?_
           | refine ACall.scal _ _ (pIsBinding.ret _ ?_) rfl (by repeat' first | exact SeesL.nil | refine SeesL.cons ?_ ?_ | exact SeesB.of0 (Sees0.val _) | exact SeesB.of0 (Sees0.str _) | exact SeesB.of0 (Sees0.olds _ _) | exact SeesB.of0 (Sees0.old _) | exact SeesB.of0 (Sees0.oldagg _) | exact SeesB.of0 Sees0.nil | exact Sees0.val _ | exact Sees0.str _ | exact Sees0.olds _ _ | exact Sees0.old _ | exact Sees0.oldagg _ | exact Sees0.nil | exact SeesB.of0 (Sees0.any _) | assumption | exact sees_gv _ _ _ (by assumption) (by first | assumption | exact BoxIn.last _ _ | exact BoxIn.more (BoxIn.last _ _) _) | refine SeesB.agg ?_ | refine Sees0.agg ?_ | exact SeesB.of0 (Sees0.clo SeesL.nil SeesL.nil) | exact Sees0.clo SeesL.nil SeesL.nil | exact SeesB.of0 (Sees0.list rfl) | exact Sees0.list rfl) ?_
           | refine AQCall.mk _ _ (fun hg => pIsBinding.ret _ ?_) rfl (fun _ => (by repeat' first | exact SeesL.nil | refine SeesL.cons ?_ ?_ | exact SeesB.of0 (Sees0.val _) | exact SeesB.of0 (Sees0.str _) | exact SeesB.of0 (Sees0.olds _ _) | exact SeesB.of0 (Sees0.old _) | exact SeesB.of0 (Sees0.oldagg _) | exact SeesB.of0 Sees0.nil | exact Sees0.val _ | exact Sees0.str _ | exact Sees0.olds _ _ | exact Sees0.old _ | exact Sees0.oldagg _ | exact Sees0.nil | exact SeesB.of0 (Sees0.any _) | assumption | exact sees_gv _ _ _ (by assumption) (by first | assumption | exact BoxIn.last _ _ | exact BoxIn.more (BoxIn.last _ _) _) | refine SeesB.agg ?_ | refine Sees0.agg ?_ | exact SeesB.of0 (Sees0.clo SeesL.nil SeesL.nil) | exact Sees0.clo SeesL.nil SeesL.nil | exact SeesB.of0 (Sees0.list rfl) | exact Sees0.list rfl)) ?_
           | refine ACall.scal _ _ (pValueOf.ret _ _ ?_ ?_) rfl (by repeat' first | exact SeesL.nil | refine SeesL.cons ?_ ?_ | exact SeesB.of0 (Sees0.val _) | exact SeesB.of0 (Sees0.str _) | exact SeesB.of0 (Sees0.olds _ _) | exact SeesB.of0 (Sees0.old _) | exact SeesB.of0 (Sees0.oldagg _) | exact SeesB.of0 Sees0.nil | exact Sees0.val _ | exact Sees0.str _ | exact Sees0.olds _ _ | exact Sees0.old _ | exact Sees0.oldagg _ | exact Sees0.nil | exact SeesB.of0 (Sees0.any _) | assumption | exact sees_gv _ _ _ (by assumption) (by first | assumption | exact BoxIn.last _ _ | exact BoxIn.more (BoxIn.last _ _) _) | refine SeesB.agg ?_ | refine Sees0.agg ?_ | exact SeesB.of0 (Sees0.clo SeesL.nil SeesL.nil) | exact Sees0.clo SeesL.nil SeesL.nil | exact SeesB.of0 (Sees0.list rfl) | exact Sees0.list rfl) ?_
           | refine AQCall.mk _ _ (fun hg => pValueOf.ret _ _ ?_ ?_) rfl (fun _ => (by repeat' first | exact SeesL.nil | refine SeesL.cons ?_ ?_ | exact SeesB.of0 (Sees0.val _) | exact SeesB.of0 (Sees0.str _) | exact SeesB.of0 (Sees0.olds _ _) | exact SeesB.of0 (Sees0.old _) | exact SeesB.of0 (Sees0.oldagg _) | exact SeesB.of0 Sees0.nil | exact Sees0.val _ | exact Sees0.str _ | exact Sees0.olds _ _ | exact Sees0.old _ | exact Sees0.oldagg _ | exact Sees0.nil | exact SeesB.of0 (Sees0.any _) | assumption | exact sees_gv _ _ _ (by assumption) (by first | assumption | exact BoxIn.last _ _ | exact BoxIn.more (BoxIn.last _ _) _) | refine SeesB.agg ?_ | refine Sees0.agg ?_ | exact SeesB.of0 (Sees0.clo SeesL.nil SeesL.nil) | exact Sees0.clo SeesL.nil SeesL.nil | exact SeesB.of0 (Sees0.list rfl) | exact Sees0.list rfl)) ?_
           | refine ACall.mk _ _ _ (hc) (by repeat' first | exact SeesL.nil | refine SeesL.cons ?_ ?_ | exact SeesB.of0 (Sees0.val _) | exact SeesB.of0 (Sees0.str _) | exact SeesB.of0 (Sees0.olds _ _) | exact SeesB.of0 (Sees0.old _) | exact SeesB.of0 (Sees0.oldagg _) | exact SeesB.of0 Sees0.nil | exact Sees0.val _ | exact Sees0.str _ | exact Sees0.olds _ _ | exact Sees0.old _ | exact Sees0.oldagg _ | exact Sees0.nil | exact SeesB.of0 (Sees0.any _) | assumption | exact sees_gv _ _ _ (by assumption) (by first | assumption | exact BoxIn.last _ _ | exact BoxIn.more (BoxIn.last _ _) _) | refine SeesB.agg ?_ | refine Sees0.agg ?_ | exact SeesB.of0 (Sees0.clo SeesL.nil SeesL.nil) | exact Sees0.clo SeesL.nil SeesL.nil | exact SeesB.of0 (Sees0.list rfl) | exact Sees0.list rfl) ?_
           | refine ACall.scal _ _ (pcmp1.ret _ _) rfl (by repeat' first | exact SeesL.nil | refine SeesL.cons ?_ ?_ | exact SeesB.of0 (Sees0.val _) | exact SeesB.of0 (Sees0.str _) | exact SeesB.of0 (Sees0.olds _ _) | exact SeesB.of0 (Sees0.old _) | exact SeesB.of0 (Sees0.oldagg _) | exact SeesB.of0 Sees0.nil | exact Sees0.val _ | exact Sees0.str _ | exact Sees0.olds _ _ | exact Sees0.old _ | exact Sees0.oldagg _ | exact Sees0.nil | exact SeesB.of0 (Sees0.any _) | assumption | exact sees_gv _ _ _ (by assumption) (by first | assumption | exact BoxIn.last _ _ | exact BoxIn.more (BoxIn.last _ _) _) | refine SeesB.agg ?_ | refine Sees0.agg ?_ | exact SeesB.of0 (Sees0.clo SeesL.nil SeesL.nil) | exact Sees0.clo SeesL.nil SeesL.nil | exact SeesB.of0 (Sees0.list rfl) | exact Sees0.list rfl) ?_
           | refine AQCall.mk _ _ (fun hg => pcmp1.ret _ _) rfl (fun _ => (by repeat' first | exact SeesL.nil | refine SeesL.cons ?_ ?_ | exact SeesB.of0 (Sees0.val _) | exact SeesB.of0 (Sees0.str _) | exact SeesB.of0 (Sees0.olds _ _) | exact SeesB.of0 (Sees0.old _) | exact SeesB.of0 (Sees0.oldagg _) | exact SeesB.of0 Sees0.nil | exact Sees0.val _ | exact Sees0.str _ | exact Sees0.olds _ _ | exact Sees0.old _ | exact Sees0.oldagg _ | exact Sees0.nil | exact SeesB.of0 (Sees0.any _) | assumption | exact sees_gv _ _ _ (by assumption) (by first | assumption | exact BoxIn.last _ _ | exact BoxIn.more (BoxIn.last _ _) _) | refine SeesB.agg ?_ | refine Sees0.agg ?_ | exact SeesB.of0 (Sees0.clo SeesL.nil SeesL.nil) | exact Sees0.clo SeesL.nil SeesL.nil | exact SeesB.of0 (Sees0.list rfl) | exact Sees0.list rfl)) ?_)
      | refine AV.bool_congr ?_
      | refine AV.int_congr ?_
      | refine AV.str_congr ?_
      | refine AV.list_congr ?_
      | with_reducible rfl
      | refine fr1 ?_
      | refine fr2 ?_ ?_
    all_goals first
      | assumption
      | contradiction
      | (rw [← holds_at hyes hyes2, opF, if_pos hk])
  · have hc : pcomparisonOf.Ret [.val (.int .i64 x.1)] (.tup [.agg [.val (.int .i64 4), .str [33, 61], .clo 133 [] []], .val (.bool true)]) [(75, 3, 3)] := by rw [hk]; exact cmp4
    repeat' first
      | contradiction
      | (conv => whnf
         first
           | refine Need.mk (fun h => h) ?_
           | refine Need.mk rfl ?_
           | refine Need.mk ⟨rfl, Nat.le_of_ble_eq_true rfl⟩ ?_
           | refine Need.mk (Nat.le_of_ble_eq_true rfl) ?_
           | refine Need.mk (by intros; (try simp only [length_strs] at *); (try simp only [length_rows] at *); (try simp only [length_oldLL, List.length_map] at *); (try simp only [Bool.and_eq_true, decide_eq_true_eq] at *); omega) ?_
           | refine Need.mk ?_ ?_
           | refine Ix.strs rfl (by intros; (try simp only [length_strs] at *); (try simp only [length_rows] at *); (try simp only [length_oldLL, List.length_map] at *); (try simp only [Bool.and_eq_true, decide_eq_true_eq] at *); omega) ?_
           | refine Ix.strs rfl ?_ ?_
           | refine Cut.strs rfl ?_ ?_
           | refine Ix.map (fun _ => rfl) (by intros; (try simp only [length_strs] at *); (try simp only [length_rows] at *); (try simp only [length_oldLL, List.length_map] at *); (try simp only [Bool.and_eq_true, decide_eq_true_eq] at *); omega) ?_
           | refine Ix.map (fun _ => rfl) ?_ ?_
           | refine Cut.map (fun _ => rfl) ?_ ?_
           | refine Fork.yes (by assumption) ?_
           | refine Fork.no (by assumption) ?_
           | refine Fork.decYes (by omega) ?_
           | refine Fork.decNo (by omega) ?_
           | refine Fork.dec (fun _ => ?_) (fun _ => ?_)
           | refine Fork.bne (fun _ => ?_) (fun _ => ?_)
           | refine Fork.beq (fun _ => ?_) (fun _ => ?_)
           | refine Fork.seq (fun _ => ?_) (fun _ => ?_)
           | refine Fork.sne (fun _ => ?_) (fun _ => ?_)
           | refine Fork.neg (fun _ => ?_) (fun _ => ?_)
           | refine Fork.mk (fun _ => ?_) (fun _ => ?_)
           | refine Round.mk ?_
           | refine NilQ.mk (fun b hb => ?_)
           | refine forceK_of ?_
           | refine forceBx_of ?_
           | refine unG_old ?_
           | refine unG_gv ?_
           | refine Lit.read rfl ?_
           | refine FinVal.keep ?_
           | refine FinAgg.keep ?_
           | refine Final.mk rfl rfl
           | refine Final.mk ?_ rfl
           | refine Final.mk ?_ ?_
           | refine FinalT.mk ?_ ?_
           | refine FinalC.all (by repeat' first | exact Lends.nil | refine Lends.map _ ?_ | refine Lends.lend _ _ (by first | exact hx.1 | exact hy.1 | exact noTk_old _ | (intro c hc; rw [List.mem_singleton.1 hc]; rfl) | (intro c hc; cases hc; done)) ?_) ?_
           | refine ACall.scal _ _ (pIsTest.ret _ ?_) rfl (by repeat' first | exact SeesL.nil | refine SeesL.cons ?_ ?_ | exact SeesB.of0 (Sees0.val _) | exact SeesB.of0 (Sees0.str _) | exact SeesB.of0 (Sees0.olds _ _) | exact SeesB.of0 (Sees0.old _) | exact SeesB.of0 (Sees0.oldagg _) | exact SeesB.of0 Sees0.nil | exact Sees0.val _ | exact Sees0.str _ | exact Sees0.olds _ _ | exact Sees0.old _ | exact Sees0.oldagg _ | exact Sees0.nil | exact SeesB.of0 (Sees0.any _) | assumption | exact sees_gv _ _ _ (by assumption) (by first | assumption | exact BoxIn.last _ _ | exact BoxIn.more (BoxIn.last _ _) _) | refine SeesB.agg ?_ | refine Sees0.agg ?_ | exact SeesB.of0 (Sees0.clo SeesL.nil SeesL.nil) | exact Sees0.clo SeesL.nil SeesL.nil | exact SeesB.of0 (Sees0.list rfl) | exact Sees0.list rfl) ?_
           | refine AQCall.mk _ _ (fun hg => pIsTest.ret _ ?_) rfl (fun _ => (by repeat' first | exact SeesL.nil | refine SeesL.cons ?_ ?_ | exact SeesB.of0 (Sees0.val _) | exact SeesB.of0 (Sees0.str _) | exact SeesB.of0 (Sees0.olds _ _) | exact SeesB.of0 (Sees0.old _) | exact SeesB.of0 (Sees0.oldagg _) | exact SeesB.of0 Sees0.nil | exact Sees0.val _ | exact Sees0.str _ | exact Sees0.olds _ _ | exact Sees0.old _ | exact Sees0.oldagg _ | exact Sees0.nil | exact SeesB.of0 (Sees0.any _) | assumption | exact sees_gv _ _ _ (by assumption) (by first | assumption | exact BoxIn.last _ _ | exact BoxIn.more (BoxIn.last _ _) _) | refine SeesB.agg ?_ | refine Sees0.agg ?_ | exact SeesB.of0 (Sees0.clo SeesL.nil SeesL.nil) | exact Sees0.clo SeesL.nil SeesL.nil | exact SeesB.of0 (Sees0.list rfl) | exact Sees0.list rfl)) ?_
           | refine ACall.scal _ _ (pIsBinding.ret _ ?_) rfl (by repeat' first | exact SeesL.nil | refine SeesL.cons ?_ ?_ | exact SeesB.of0 (Sees0.val _) | exact SeesB.of0 (Sees0.str _) | exact SeesB.of0 (Sees0.olds _ _) | exact SeesB.of0 (Sees0.old _) | exact SeesB.of0 (Sees0.oldagg _) | exact SeesB.of0 Sees0.nil | exact Sees0.val _ | exact Sees0.str _ | exact Sees0.olds _ _ | exact Sees0.old _ | exact Sees0.oldagg _ | exact Sees0.nil | exact SeesB.of0 (Sees0.any _) | assumption | exact sees_gv _ _ _ (by assumption) (by first | assumption | exact BoxIn.last _ _ | exact BoxIn.more (BoxIn.last _ _) _) | refine SeesB.agg ?_ | refine Sees0.agg ?_ | exact SeesB.of0 (Sees0.clo SeesL.nil SeesL.nil) | exact Sees0.clo SeesL.nil SeesL.nil | exact SeesB.of0 (Sees0.list rfl) | exact Sees0.list rfl) ?_
           | refine AQCall.mk _ _ (fun hg => pIsBinding.ret _ ?_) rfl (fun _ => (by repeat' first | exact SeesL.nil | refine SeesL.cons ?_ ?_ | exact SeesB.of0 (Sees0.val _) | exact SeesB.of0 (Sees0.str _) | exact SeesB.of0 (Sees0.olds _ _) | exact SeesB.of0 (Sees0.old _) | exact SeesB.of0 (Sees0.oldagg _) | exact SeesB.of0 Sees0.nil | exact Sees0.val _ | exact Sees0.str _ | exact Sees0.olds _ _ | exact Sees0.old _ | exact Sees0.oldagg _ | exact Sees0.nil | exact SeesB.of0 (Sees0.any _) | assumption | exact sees_gv _ _ _ (by assumption) (by first | assumption | exact BoxIn.last _ _ | exact BoxIn.more (BoxIn.last _ _) _) | refine SeesB.agg ?_ | refine Sees0.agg ?_ | exact SeesB.of0 (Sees0.clo SeesL.nil SeesL.nil) | exact Sees0.clo SeesL.nil SeesL.nil | exact SeesB.of0 (Sees0.list rfl) | exact Sees0.list rfl)) ?_
           | refine ACall.scal _ _ (pValueOf.ret _ _ ?_ ?_) rfl (by repeat' first | exact SeesL.nil | refine SeesL.cons ?_ ?_ | exact SeesB.of0 (Sees0.val _) | exact SeesB.of0 (Sees0.str _) | exact SeesB.of0 (Sees0.olds _ _) | exact SeesB.of0 (Sees0.old _) | exact SeesB.of0 (Sees0.oldagg _) | exact SeesB.of0 Sees0.nil | exact Sees0.val _ | exact Sees0.str _ | exact Sees0.olds _ _ | exact Sees0.old _ | exact Sees0.oldagg _ | exact Sees0.nil | exact SeesB.of0 (Sees0.any _) | assumption | exact sees_gv _ _ _ (by assumption) (by first | assumption | exact BoxIn.last _ _ | exact BoxIn.more (BoxIn.last _ _) _) | refine SeesB.agg ?_ | refine Sees0.agg ?_ | exact SeesB.of0 (Sees0.clo SeesL.nil SeesL.nil) | exact Sees0.clo SeesL.nil SeesL.nil | exact SeesB.of0 (Sees0.list rfl) | exact Sees0.list rfl) ?_
           | refine AQCall.mk _ _ (fun hg => pValueOf.ret _ _ ?_ ?_) rfl (fun _ => (by repeat' first | exact SeesL.nil | refine SeesL.cons ?_ ?_ | exact SeesB.of0 (Sees0.val _) | exact SeesB.of0 (Sees0.str _) | exact SeesB.of0 (Sees0.olds _ _) | exact SeesB.of0 (Sees0.old _) | exact SeesB.of0 (Sees0.oldagg _) | exact SeesB.of0 Sees0.nil | exact Sees0.val _ | exact Sees0.str _ | exact Sees0.olds _ _ | exact Sees0.old _ | exact Sees0.oldagg _ | exact Sees0.nil | exact SeesB.of0 (Sees0.any _) | assumption | exact sees_gv _ _ _ (by assumption) (by first | assumption | exact BoxIn.last _ _ | exact BoxIn.more (BoxIn.last _ _) _) | refine SeesB.agg ?_ | refine Sees0.agg ?_ | exact SeesB.of0 (Sees0.clo SeesL.nil SeesL.nil) | exact Sees0.clo SeesL.nil SeesL.nil | exact SeesB.of0 (Sees0.list rfl) | exact Sees0.list rfl)) ?_
           | refine ACall.mk _ _ _ (hc) (by repeat' first | exact SeesL.nil | refine SeesL.cons ?_ ?_ | exact SeesB.of0 (Sees0.val _) | exact SeesB.of0 (Sees0.str _) | exact SeesB.of0 (Sees0.olds _ _) | exact SeesB.of0 (Sees0.old _) | exact SeesB.of0 (Sees0.oldagg _) | exact SeesB.of0 Sees0.nil | exact Sees0.val _ | exact Sees0.str _ | exact Sees0.olds _ _ | exact Sees0.old _ | exact Sees0.oldagg _ | exact Sees0.nil | exact SeesB.of0 (Sees0.any _) | assumption | exact sees_gv _ _ _ (by assumption) (by first | assumption | exact BoxIn.last _ _ | exact BoxIn.more (BoxIn.last _ _) _) | refine SeesB.agg ?_ | refine Sees0.agg ?_ | exact SeesB.of0 (Sees0.clo SeesL.nil SeesL.nil) | exact Sees0.clo SeesL.nil SeesL.nil | exact SeesB.of0 (Sees0.list rfl) | exact Sees0.list rfl) ?_
           | refine ACall.scal _ _ (pcmp2.ret _ _) rfl (by repeat' first | exact SeesL.nil | refine SeesL.cons ?_ ?_ | exact SeesB.of0 (Sees0.val _) | exact SeesB.of0 (Sees0.str _) | exact SeesB.of0 (Sees0.olds _ _) | exact SeesB.of0 (Sees0.old _) | exact SeesB.of0 (Sees0.oldagg _) | exact SeesB.of0 Sees0.nil | exact Sees0.val _ | exact Sees0.str _ | exact Sees0.olds _ _ | exact Sees0.old _ | exact Sees0.oldagg _ | exact Sees0.nil | exact SeesB.of0 (Sees0.any _) | assumption | exact sees_gv _ _ _ (by assumption) (by first | assumption | exact BoxIn.last _ _ | exact BoxIn.more (BoxIn.last _ _) _) | refine SeesB.agg ?_ | refine Sees0.agg ?_ | exact SeesB.of0 (Sees0.clo SeesL.nil SeesL.nil) | exact Sees0.clo SeesL.nil SeesL.nil | exact SeesB.of0 (Sees0.list rfl) | exact Sees0.list rfl) ?_
           | refine AQCall.mk _ _ (fun hg => pcmp2.ret _ _) rfl (fun _ => (by repeat' first | exact SeesL.nil | refine SeesL.cons ?_ ?_ | exact SeesB.of0 (Sees0.val _) | exact SeesB.of0 (Sees0.str _) | exact SeesB.of0 (Sees0.olds _ _) | exact SeesB.of0 (Sees0.old _) | exact SeesB.of0 (Sees0.oldagg _) | exact SeesB.of0 Sees0.nil | exact Sees0.val _ | exact Sees0.str _ | exact Sees0.olds _ _ | exact Sees0.old _ | exact Sees0.oldagg _ | exact Sees0.nil | exact SeesB.of0 (Sees0.any _) | assumption | exact sees_gv _ _ _ (by assumption) (by first | assumption | exact BoxIn.last _ _ | exact BoxIn.more (BoxIn.last _ _) _) | refine SeesB.agg ?_ | refine Sees0.agg ?_ | exact SeesB.of0 (Sees0.clo SeesL.nil SeesL.nil) | exact Sees0.clo SeesL.nil SeesL.nil | exact SeesB.of0 (Sees0.list rfl) | exact Sees0.list rfl)) ?_)
      | refine AV.bool_congr ?_
      | refine AV.int_congr ?_
      | refine AV.str_congr ?_
      | refine AV.list_congr ?_
      | with_reducible rfl
      | refine fr1 ?_
      | refine fr2 ?_ ?_
    all_goals first
      | assumption
      | contradiction
      | (rw [← holds_at hyes hyes2, opF, if_neg (by omega), if_pos hk])
  · have hc : pcomparisonOf.Ret [.val (.int .i64 x.1)] (.tup [.agg [.val (.int .i64 5), .str [60], .clo 134 [] []], .val (.bool true)]) [(75, 3, 3)] := by rw [hk]; exact cmp5
    repeat' first
      | contradiction
      | (conv => whnf
         first
           | refine Need.mk (fun h => h) ?_
           | refine Need.mk rfl ?_
           | refine Need.mk ⟨rfl, Nat.le_of_ble_eq_true rfl⟩ ?_
           | refine Need.mk (Nat.le_of_ble_eq_true rfl) ?_
           | refine Need.mk (by intros; (try simp only [length_strs] at *); (try simp only [length_rows] at *); (try simp only [length_oldLL, List.length_map] at *); (try simp only [Bool.and_eq_true, decide_eq_true_eq] at *); omega) ?_
           | refine Need.mk ?_ ?_
           | refine Ix.strs rfl (by intros; (try simp only [length_strs] at *); (try simp only [length_rows] at *); (try simp only [length_oldLL, List.length_map] at *); (try simp only [Bool.and_eq_true, decide_eq_true_eq] at *); omega) ?_
           | refine Ix.strs rfl ?_ ?_
           | refine Cut.strs rfl ?_ ?_
           | refine Ix.map (fun _ => rfl) (by intros; (try simp only [length_strs] at *); (try simp only [length_rows] at *); (try simp only [length_oldLL, List.length_map] at *); (try simp only [Bool.and_eq_true, decide_eq_true_eq] at *); omega) ?_
           | refine Ix.map (fun _ => rfl) ?_ ?_
           | refine Cut.map (fun _ => rfl) ?_ ?_
           | refine Fork.yes (by assumption) ?_
           | refine Fork.no (by assumption) ?_
           | refine Fork.decYes (by omega) ?_
           | refine Fork.decNo (by omega) ?_
           | refine Fork.dec (fun _ => ?_) (fun _ => ?_)
           | refine Fork.bne (fun _ => ?_) (fun _ => ?_)
           | refine Fork.beq (fun _ => ?_) (fun _ => ?_)
           | refine Fork.seq (fun _ => ?_) (fun _ => ?_)
           | refine Fork.sne (fun _ => ?_) (fun _ => ?_)
           | refine Fork.neg (fun _ => ?_) (fun _ => ?_)
           | refine Fork.mk (fun _ => ?_) (fun _ => ?_)
           | refine Round.mk ?_
           | refine NilQ.mk (fun b hb => ?_)
           | refine forceK_of ?_
           | refine forceBx_of ?_
           | refine unG_old ?_
           | refine unG_gv ?_
           | refine Lit.read rfl ?_
           | refine FinVal.keep ?_
           | refine FinAgg.keep ?_
           | refine Final.mk rfl rfl
           | refine Final.mk ?_ rfl
           | refine Final.mk ?_ ?_
           | refine FinalT.mk ?_ ?_
           | refine FinalC.all (by repeat' first | exact Lends.nil | refine Lends.map _ ?_ | refine Lends.lend _ _ (by first | exact hx.1 | exact hy.1 | exact noTk_old _ | (intro c hc; rw [List.mem_singleton.1 hc]; rfl) | (intro c hc; cases hc; done)) ?_) ?_
           | refine ACall.scal _ _ (pIsTest.ret _ ?_) rfl (by repeat' first | exact SeesL.nil | refine SeesL.cons ?_ ?_ | exact SeesB.of0 (Sees0.val _) | exact SeesB.of0 (Sees0.str _) | exact SeesB.of0 (Sees0.olds _ _) | exact SeesB.of0 (Sees0.old _) | exact SeesB.of0 (Sees0.oldagg _) | exact SeesB.of0 Sees0.nil | exact Sees0.val _ | exact Sees0.str _ | exact Sees0.olds _ _ | exact Sees0.old _ | exact Sees0.oldagg _ | exact Sees0.nil | exact SeesB.of0 (Sees0.any _) | assumption | exact sees_gv _ _ _ (by assumption) (by first | assumption | exact BoxIn.last _ _ | exact BoxIn.more (BoxIn.last _ _) _) | refine SeesB.agg ?_ | refine Sees0.agg ?_ | exact SeesB.of0 (Sees0.clo SeesL.nil SeesL.nil) | exact Sees0.clo SeesL.nil SeesL.nil | exact SeesB.of0 (Sees0.list rfl) | exact Sees0.list rfl) ?_
           | refine AQCall.mk _ _ (fun hg => pIsTest.ret _ ?_) rfl (fun _ => (by repeat' first | exact SeesL.nil | refine SeesL.cons ?_ ?_ | exact SeesB.of0 (Sees0.val _) | exact SeesB.of0 (Sees0.str _) | exact SeesB.of0 (Sees0.olds _ _) | exact SeesB.of0 (Sees0.old _) | exact SeesB.of0 (Sees0.oldagg _) | exact SeesB.of0 Sees0.nil | exact Sees0.val _ | exact Sees0.str _ | exact Sees0.olds _ _ | exact Sees0.old _ | exact Sees0.oldagg _ | exact Sees0.nil | exact SeesB.of0 (Sees0.any _) | assumption | exact sees_gv _ _ _ (by assumption) (by first | assumption | exact BoxIn.last _ _ | exact BoxIn.more (BoxIn.last _ _) _) | refine SeesB.agg ?_ | refine Sees0.agg ?_ | exact SeesB.of0 (Sees0.clo SeesL.nil SeesL.nil) | exact Sees0.clo SeesL.nil SeesL.nil | exact SeesB.of0 (Sees0.list rfl) | exact Sees0.list rfl)) ?_
           | refine ACall.scal _ _ (pIsBinding.ret _ ?_) rfl (by repeat' first | exact SeesL.nil | refine SeesL.cons ?_ ?_ | exact SeesB.of0 (Sees0.val _) | exact SeesB.of0 (Sees0.str _) | exact SeesB.of0 (Sees0.olds _ _) | exact SeesB.of0 (Sees0.old _) | exact SeesB.of0 (Sees0.oldagg _) | exact SeesB.of0 Sees0.nil | exact Sees0.val _ | exact Sees0.str _ | exact Sees0.olds _ _ | exact Sees0.old _ | exact Sees0.oldagg _ | exact Sees0.nil | exact SeesB.of0 (Sees0.any _) | assumption | exact sees_gv _ _ _ (by assumption) (by first | assumption | exact BoxIn.last _ _ | exact BoxIn.more (BoxIn.last _ _) _) | refine SeesB.agg ?_ | refine Sees0.agg ?_ | exact SeesB.of0 (Sees0.clo SeesL.nil SeesL.nil) | exact Sees0.clo SeesL.nil SeesL.nil | exact SeesB.of0 (Sees0.list rfl) | exact Sees0.list rfl) ?_
           | refine AQCall.mk _ _ (fun hg => pIsBinding.ret _ ?_) rfl (fun _ => (by repeat' first | exact SeesL.nil | refine SeesL.cons ?_ ?_ | exact SeesB.of0 (Sees0.val _) | exact SeesB.of0 (Sees0.str _) | exact SeesB.of0 (Sees0.olds _ _) | exact SeesB.of0 (Sees0.old _) | exact SeesB.of0 (Sees0.oldagg _) | exact SeesB.of0 Sees0.nil | exact Sees0.val _ | exact Sees0.str _ | exact Sees0.olds _ _ | exact Sees0.old _ | exact Sees0.oldagg _ | exact Sees0.nil | exact SeesB.of0 (Sees0.any _) | assumption | exact sees_gv _ _ _ (by assumption) (by first | assumption | exact BoxIn.last _ _ | exact BoxIn.more (BoxIn.last _ _) _) | refine SeesB.agg ?_ | refine Sees0.agg ?_ | exact SeesB.of0 (Sees0.clo SeesL.nil SeesL.nil) | exact Sees0.clo SeesL.nil SeesL.nil | exact SeesB.of0 (Sees0.list rfl) | exact Sees0.list rfl)) ?_
           | refine ACall.scal _ _ (pValueOf.ret _ _ ?_ ?_) rfl (by repeat' first | exact SeesL.nil | refine SeesL.cons ?_ ?_ | exact SeesB.of0 (Sees0.val _) | exact SeesB.of0 (Sees0.str _) | exact SeesB.of0 (Sees0.olds _ _) | exact SeesB.of0 (Sees0.old _) | exact SeesB.of0 (Sees0.oldagg _) | exact SeesB.of0 Sees0.nil | exact Sees0.val _ | exact Sees0.str _ | exact Sees0.olds _ _ | exact Sees0.old _ | exact Sees0.oldagg _ | exact Sees0.nil | exact SeesB.of0 (Sees0.any _) | assumption | exact sees_gv _ _ _ (by assumption) (by first | assumption | exact BoxIn.last _ _ | exact BoxIn.more (BoxIn.last _ _) _) | refine SeesB.agg ?_ | refine Sees0.agg ?_ | exact SeesB.of0 (Sees0.clo SeesL.nil SeesL.nil) | exact Sees0.clo SeesL.nil SeesL.nil | exact SeesB.of0 (Sees0.list rfl) | exact Sees0.list rfl) ?_
           | refine AQCall.mk _ _ (fun hg => pValueOf.ret _ _ ?_ ?_) rfl (fun _ => (by repeat' first | exact SeesL.nil | refine SeesL.cons ?_ ?_ | exact SeesB.of0 (Sees0.val _) | exact SeesB.of0 (Sees0.str _) | exact SeesB.of0 (Sees0.olds _ _) | exact SeesB.of0 (Sees0.old _) | exact SeesB.of0 (Sees0.oldagg _) | exact SeesB.of0 Sees0.nil | exact Sees0.val _ | exact Sees0.str _ | exact Sees0.olds _ _ | exact Sees0.old _ | exact Sees0.oldagg _ | exact Sees0.nil | exact SeesB.of0 (Sees0.any _) | assumption | exact sees_gv _ _ _ (by assumption) (by first | assumption | exact BoxIn.last _ _ | exact BoxIn.more (BoxIn.last _ _) _) | refine SeesB.agg ?_ | refine Sees0.agg ?_ | exact SeesB.of0 (Sees0.clo SeesL.nil SeesL.nil) | exact Sees0.clo SeesL.nil SeesL.nil | exact SeesB.of0 (Sees0.list rfl) | exact Sees0.list rfl)) ?_
           | refine ACall.mk _ _ _ (hc) (by repeat' first | exact SeesL.nil | refine SeesL.cons ?_ ?_ | exact SeesB.of0 (Sees0.val _) | exact SeesB.of0 (Sees0.str _) | exact SeesB.of0 (Sees0.olds _ _) | exact SeesB.of0 (Sees0.old _) | exact SeesB.of0 (Sees0.oldagg _) | exact SeesB.of0 Sees0.nil | exact Sees0.val _ | exact Sees0.str _ | exact Sees0.olds _ _ | exact Sees0.old _ | exact Sees0.oldagg _ | exact Sees0.nil | exact SeesB.of0 (Sees0.any _) | assumption | exact sees_gv _ _ _ (by assumption) (by first | assumption | exact BoxIn.last _ _ | exact BoxIn.more (BoxIn.last _ _) _) | refine SeesB.agg ?_ | refine Sees0.agg ?_ | exact SeesB.of0 (Sees0.clo SeesL.nil SeesL.nil) | exact Sees0.clo SeesL.nil SeesL.nil | exact SeesB.of0 (Sees0.list rfl) | exact Sees0.list rfl) ?_
           | refine ACall.scal _ _ (pisLessNumber.ret _ _ ?_ ?_) rfl (by repeat' first | exact SeesL.nil | refine SeesL.cons ?_ ?_ | exact SeesB.of0 (Sees0.val _) | exact SeesB.of0 (Sees0.str _) | exact SeesB.of0 (Sees0.olds _ _) | exact SeesB.of0 (Sees0.old _) | exact SeesB.of0 (Sees0.oldagg _) | exact SeesB.of0 Sees0.nil | exact Sees0.val _ | exact Sees0.str _ | exact Sees0.olds _ _ | exact Sees0.old _ | exact Sees0.oldagg _ | exact Sees0.nil | exact SeesB.of0 (Sees0.any _) | assumption | exact sees_gv _ _ _ (by assumption) (by first | assumption | exact BoxIn.last _ _ | exact BoxIn.more (BoxIn.last _ _) _) | refine SeesB.agg ?_ | refine Sees0.agg ?_ | exact SeesB.of0 (Sees0.clo SeesL.nil SeesL.nil) | exact Sees0.clo SeesL.nil SeesL.nil | exact SeesB.of0 (Sees0.list rfl) | exact Sees0.list rfl) ?_
           | refine AQCall.mk _ _ (fun hg => pisLessNumber.ret _ _ ?_ ?_) rfl (fun _ => (by repeat' first | exact SeesL.nil | refine SeesL.cons ?_ ?_ | exact SeesB.of0 (Sees0.val _) | exact SeesB.of0 (Sees0.str _) | exact SeesB.of0 (Sees0.olds _ _) | exact SeesB.of0 (Sees0.old _) | exact SeesB.of0 (Sees0.oldagg _) | exact SeesB.of0 Sees0.nil | exact Sees0.val _ | exact Sees0.str _ | exact Sees0.olds _ _ | exact Sees0.old _ | exact Sees0.oldagg _ | exact Sees0.nil | exact SeesB.of0 (Sees0.any _) | assumption | exact sees_gv _ _ _ (by assumption) (by first | assumption | exact BoxIn.last _ _ | exact BoxIn.more (BoxIn.last _ _) _) | refine SeesB.agg ?_ | refine Sees0.agg ?_ | exact SeesB.of0 (Sees0.clo SeesL.nil SeesL.nil) | exact Sees0.clo SeesL.nil SeesL.nil | exact SeesB.of0 (Sees0.list rfl) | exact Sees0.list rfl)) ?_)
      | refine AV.bool_congr ?_
      | refine AV.int_congr ?_
      | refine AV.str_congr ?_
      | refine AV.list_congr ?_
      | with_reducible rfl
      | refine fr1 ?_
      | refine fr2 ?_ ?_
    all_goals first
      | assumption
      | contradiction
      | (rw [← holds_at hyes hyes2, opF, if_neg (by omega), if_neg (by omega)])
def signF (k : Int) : Str := if k = 3 then [32, 61, 32] else if k = 4 then [32, 33, 61, 32] else [32, 60, 32]
def fmtC (x : VCond) : Str := if isCondF x then (if x.1 = 1 then fmtP x.2.1 else if x.1 = 2 then [110, 111, 116, 32] ++ fmtP x.2.1 else x.2.2.1 ++ signF x.1 ++ x.2.2.2) else []
theorem sSign.ret (k : Int) : sSign.Ret [.val (.int .i64 k)] (.str (signF k)) [] := by
  refine sSign.of rfl ?_
  repeat' first
    | contradiction
    | (conv => whnf
       first
         | refine Need.mk (fun h => h) ?_
         | refine Need.mk rfl ?_
         | refine Need.mk ⟨rfl, Nat.le_of_ble_eq_true rfl⟩ ?_
         | refine Need.mk (Nat.le_of_ble_eq_true rfl) ?_
         | refine Need.mk (by intros; (try simp only [length_strs] at *); (try simp only [length_rows] at *); (try simp only [length_oldLL, List.length_map] at *); (try simp only [Bool.and_eq_true, decide_eq_true_eq] at *); omega) ?_
         | refine Need.mk ?_ ?_
         | refine Ix.strs rfl (by intros; (try simp only [length_strs] at *); (try simp only [length_rows] at *); (try simp only [length_oldLL, List.length_map] at *); (try simp only [Bool.and_eq_true, decide_eq_true_eq] at *); omega) ?_
         | refine Ix.strs rfl ?_ ?_
         | refine Cut.strs rfl ?_ ?_
         | refine Ix.map (fun _ => rfl) (by intros; (try simp only [length_strs] at *); (try simp only [length_rows] at *); (try simp only [length_oldLL, List.length_map] at *); (try simp only [Bool.and_eq_true, decide_eq_true_eq] at *); omega) ?_
         | refine Ix.map (fun _ => rfl) ?_ ?_
         | refine Cut.map (fun _ => rfl) ?_ ?_
         | refine Fork.yes (by assumption) ?_
         | refine Fork.no (by assumption) ?_
         | refine Fork.decYes (by omega) ?_
         | refine Fork.decNo (by omega) ?_
         | refine Fork.dec (fun _ => ?_) (fun _ => ?_)
         | refine Fork.bne (fun _ => ?_) (fun _ => ?_)
         | refine Fork.beq (fun _ => ?_) (fun _ => ?_)
         | refine Fork.seq (fun _ => ?_) (fun _ => ?_)
         | refine Fork.sne (fun _ => ?_) (fun _ => ?_)
         | refine Fork.neg (fun _ => ?_) (fun _ => ?_)
         | refine Fork.mk (fun _ => ?_) (fun _ => ?_)
         | refine Round.mk ?_
         | refine NilQ.mk (fun b hb => ?_)
         | refine forceK_of ?_
         | refine forceBx_of ?_
         | refine unG_old ?_
         | refine unG_gv ?_
         | refine Lit.read rfl ?_
         | refine FinVal.keep ?_
         | refine FinAgg.keep ?_
         | refine Final.mk rfl rfl
         | refine Final.mk ?_ rfl
         | refine Final.mk ?_ ?_
         | refine FinalT.mk ?_ ?_
         | refine FinalC.all (by repeat' first | exact Lends.nil | refine Lends.map _ ?_ | refine Lends.lend _ _ (by first | exact hx.1 | exact hy.1 | exact noTk_old _ | (intro c hc; rw [List.mem_singleton.1 hc]; rfl) | (intro c hc; cases hc; done)) ?_) ?_)
    | refine AV.bool_congr ?_
    | refine AV.int_congr ?_
    | refine AV.str_congr ?_
    | refine AV.list_congr ?_
    | with_reducible rfl
    | refine fr1 ?_
    | refine fr2 ?_ ?_
  all_goals (simp [signF, *]; done)
theorem fmtP_len (f : VPattern) : (fmtP f).length ≤ tPattern.size f + 2 := by
  have h1 : tPattern.size f = f.1.length + (f.2.length + listSize Ty.str f.2) := by
    show tFct.size f = _
    rw [tFct_size, tStrs_size]
  unfold fmtP
  have := jn_len [44] f.2
  split
  · simp only [List.length_append, List.length_cons, List.length_nil] at this ⊢; omega
  · simp
theorem sign_len (k : Int) : (signF k).length ≤ 4 := by
  unfold signF
  split
  · decide
  · split <;> decide
theorem fmtC_no {x : VCond} (h : isCondF x = false) : [] = fmtC x := by unfold fmtC; rw [if_neg (by simp [h])]
theorem fmtC_has {x : VCond} (h : isCondF x = true) (h1 : x.1 = 1) : fmtP x.2.1 = fmtC x := by unfold fmtC; rw [if_pos h, if_pos h1]
theorem fmtC_not {x : VCond} (h : isCondF x = true) (h2 : x.1 = 2) : [110, 111, 116, 32] ++ fmtP x.2.1 = fmtC x := by unfold fmtC; rw [if_pos h, if_neg (by omega), if_pos h2]
theorem fmtC_test {x : VCond} (h : isCondF x = true) (h1 : x.1 ≠ 1) (h2 : x.1 ≠ 2) : x.2.2.1 ++ signF x.1 ++ x.2.2.2 = fmtC x := by unfold fmtC; rw [if_pos h, if_neg h1, if_neg h2]
theorem sFormatCond.ret (x : VCond) (h : tCond.size x ≤ 1048576) : sFormatCond.Ret [.agg (oldL (tCond.q x))] (.str (fmtC x)) [] := by
  refine sFormatCond.of rfl ?_
  have hp := tCond_pat x
  have hz := tCond_sz x
  have hf := fmtP_len x.2.1
  have hs := sign_len x.1
  repeat' first
    | contradiction
    | (conv => whnf
       first
         | refine Need.mk (fun h => h) ?_
         | refine Need.mk rfl ?_
         | refine Need.mk ⟨rfl, Nat.le_of_ble_eq_true rfl⟩ ?_
         | refine Need.mk (Nat.le_of_ble_eq_true rfl) ?_
         | refine Need.mk (by intros; (try simp only [length_strs] at *); (try simp only [length_rows] at *); (try simp only [length_oldLL, List.length_map] at *); (try simp only [Bool.and_eq_true, decide_eq_true_eq] at *); omega) ?_
         | refine Need.mk ?_ ?_
         | refine Ix.strs rfl (by intros; (try simp only [length_strs] at *); (try simp only [length_rows] at *); (try simp only [length_oldLL, List.length_map] at *); (try simp only [Bool.and_eq_true, decide_eq_true_eq] at *); omega) ?_
         | refine Ix.strs rfl ?_ ?_
         | refine Cut.strs rfl ?_ ?_
         | refine Ix.map (fun _ => rfl) (by intros; (try simp only [length_strs] at *); (try simp only [length_rows] at *); (try simp only [length_oldLL, List.length_map] at *); (try simp only [Bool.and_eq_true, decide_eq_true_eq] at *); omega) ?_
         | refine Ix.map (fun _ => rfl) ?_ ?_
         | refine Cut.map (fun _ => rfl) ?_ ?_
         | refine Fork.yes (by assumption) ?_
         | refine Fork.no (by assumption) ?_
         | refine Fork.decYes (by omega) ?_
         | refine Fork.decNo (by omega) ?_
         | refine Fork.dec (fun _ => ?_) (fun _ => ?_)
         | refine Fork.bne (fun _ => ?_) (fun _ => ?_)
         | refine Fork.beq (fun _ => ?_) (fun _ => ?_)
         | refine Fork.seq (fun _ => ?_) (fun _ => ?_)
         | refine Fork.sne (fun _ => ?_) (fun _ => ?_)
         | refine Fork.neg (fun _ => ?_) (fun _ => ?_)
         | refine Fork.mk (fun _ => ?_) (fun _ => ?_)
         | refine Round.mk ?_
         | refine NilQ.mk (fun b hb => ?_)
         | refine forceK_of ?_
         | refine forceBx_of ?_
         | refine unG_old ?_
         | refine unG_gv ?_
         | refine Lit.read rfl ?_
         | refine FinVal.keep ?_
         | refine FinAgg.keep ?_
         | refine Final.mk rfl rfl
         | refine Final.mk ?_ rfl
         | refine Final.mk ?_ ?_
         | refine FinalT.mk ?_ ?_
         | refine FinalC.all (by repeat' first | exact Lends.nil | refine Lends.map _ ?_ | refine Lends.lend _ _ (by first | exact hx.1 | exact hy.1 | exact noTk_old _ | (intro c hc; rw [List.mem_singleton.1 hc]; rfl) | (intro c hc; cases hc; done)) ?_) ?_
         | refine ACall.scal _ _ (sIsCond.ret _ ?_) rfl (by repeat' first | exact SeesL.nil | refine SeesL.cons ?_ ?_ | exact SeesB.of0 (Sees0.val _) | exact SeesB.of0 (Sees0.str _) | exact SeesB.of0 (Sees0.olds _ _) | exact SeesB.of0 (Sees0.old _) | exact SeesB.of0 (Sees0.oldagg _) | exact SeesB.of0 Sees0.nil | exact Sees0.val _ | exact Sees0.str _ | exact Sees0.olds _ _ | exact Sees0.old _ | exact Sees0.oldagg _ | exact Sees0.nil | exact SeesB.of0 (Sees0.any _) | assumption | exact sees_gv _ _ _ (by assumption) (by first | assumption | exact BoxIn.last _ _ | exact BoxIn.more (BoxIn.last _ _) _) | refine SeesB.agg ?_ | refine Sees0.agg ?_ | exact SeesB.of0 (Sees0.clo SeesL.nil SeesL.nil) | exact Sees0.clo SeesL.nil SeesL.nil | exact SeesB.of0 (Sees0.list rfl) | exact Sees0.list rfl) ?_
         | refine AQCall.mk _ _ (fun hg => sIsCond.ret _ ?_) rfl (fun _ => (by repeat' first | exact SeesL.nil | refine SeesL.cons ?_ ?_ | exact SeesB.of0 (Sees0.val _) | exact SeesB.of0 (Sees0.str _) | exact SeesB.of0 (Sees0.olds _ _) | exact SeesB.of0 (Sees0.old _) | exact SeesB.of0 (Sees0.oldagg _) | exact SeesB.of0 Sees0.nil | exact Sees0.val _ | exact Sees0.str _ | exact Sees0.olds _ _ | exact Sees0.old _ | exact Sees0.oldagg _ | exact Sees0.nil | exact SeesB.of0 (Sees0.any _) | assumption | exact sees_gv _ _ _ (by assumption) (by first | assumption | exact BoxIn.last _ _ | exact BoxIn.more (BoxIn.last _ _) _) | refine SeesB.agg ?_ | refine Sees0.agg ?_ | exact SeesB.of0 (Sees0.clo SeesL.nil SeesL.nil) | exact Sees0.clo SeesL.nil SeesL.nil | exact SeesB.of0 (Sees0.list rfl) | exact Sees0.list rfl)) ?_
         | refine ACall.scal _ _ (sFormatPattern.ret _ ?_) rfl (by repeat' first | exact SeesL.nil | refine SeesL.cons ?_ ?_ | exact SeesB.of0 (Sees0.val _) | exact SeesB.of0 (Sees0.str _) | exact SeesB.of0 (Sees0.olds _ _) | exact SeesB.of0 (Sees0.old _) | exact SeesB.of0 (Sees0.oldagg _) | exact SeesB.of0 Sees0.nil | exact Sees0.val _ | exact Sees0.str _ | exact Sees0.olds _ _ | exact Sees0.old _ | exact Sees0.oldagg _ | exact Sees0.nil | exact SeesB.of0 (Sees0.any _) | assumption | exact sees_gv _ _ _ (by assumption) (by first | assumption | exact BoxIn.last _ _ | exact BoxIn.more (BoxIn.last _ _) _) | refine SeesB.agg ?_ | refine Sees0.agg ?_ | exact SeesB.of0 (Sees0.clo SeesL.nil SeesL.nil) | exact Sees0.clo SeesL.nil SeesL.nil | exact SeesB.of0 (Sees0.list rfl) | exact Sees0.list rfl) ?_
         | refine AQCall.mk _ _ (fun hg => sFormatPattern.ret _ ?_) rfl (fun _ => (by repeat' first | exact SeesL.nil | refine SeesL.cons ?_ ?_ | exact SeesB.of0 (Sees0.val _) | exact SeesB.of0 (Sees0.str _) | exact SeesB.of0 (Sees0.olds _ _) | exact SeesB.of0 (Sees0.old _) | exact SeesB.of0 (Sees0.oldagg _) | exact SeesB.of0 Sees0.nil | exact Sees0.val _ | exact Sees0.str _ | exact Sees0.olds _ _ | exact Sees0.old _ | exact Sees0.oldagg _ | exact Sees0.nil | exact SeesB.of0 (Sees0.any _) | assumption | exact sees_gv _ _ _ (by assumption) (by first | assumption | exact BoxIn.last _ _ | exact BoxIn.more (BoxIn.last _ _) _) | refine SeesB.agg ?_ | refine Sees0.agg ?_ | exact SeesB.of0 (Sees0.clo SeesL.nil SeesL.nil) | exact Sees0.clo SeesL.nil SeesL.nil | exact SeesB.of0 (Sees0.list rfl) | exact Sees0.list rfl)) ?_
         | refine ACall.scal _ _ (sSign.ret _) rfl (by repeat' first | exact SeesL.nil | refine SeesL.cons ?_ ?_ | exact SeesB.of0 (Sees0.val _) | exact SeesB.of0 (Sees0.str _) | exact SeesB.of0 (Sees0.olds _ _) | exact SeesB.of0 (Sees0.old _) | exact SeesB.of0 (Sees0.oldagg _) | exact SeesB.of0 Sees0.nil | exact Sees0.val _ | exact Sees0.str _ | exact Sees0.olds _ _ | exact Sees0.old _ | exact Sees0.oldagg _ | exact Sees0.nil | exact SeesB.of0 (Sees0.any _) | assumption | exact sees_gv _ _ _ (by assumption) (by first | assumption | exact BoxIn.last _ _ | exact BoxIn.more (BoxIn.last _ _) _) | refine SeesB.agg ?_ | refine Sees0.agg ?_ | exact SeesB.of0 (Sees0.clo SeesL.nil SeesL.nil) | exact Sees0.clo SeesL.nil SeesL.nil | exact SeesB.of0 (Sees0.list rfl) | exact Sees0.list rfl) ?_
         | refine AQCall.mk _ _ (fun hg => sSign.ret _) rfl (fun _ => (by repeat' first | exact SeesL.nil | refine SeesL.cons ?_ ?_ | exact SeesB.of0 (Sees0.val _) | exact SeesB.of0 (Sees0.str _) | exact SeesB.of0 (Sees0.olds _ _) | exact SeesB.of0 (Sees0.old _) | exact SeesB.of0 (Sees0.oldagg _) | exact SeesB.of0 Sees0.nil | exact Sees0.val _ | exact Sees0.str _ | exact Sees0.olds _ _ | exact Sees0.old _ | exact Sees0.oldagg _ | exact Sees0.nil | exact SeesB.of0 (Sees0.any _) | assumption | exact sees_gv _ _ _ (by assumption) (by first | assumption | exact BoxIn.last _ _ | exact BoxIn.more (BoxIn.last _ _) _) | refine SeesB.agg ?_ | refine Sees0.agg ?_ | exact SeesB.of0 (Sees0.clo SeesL.nil SeesL.nil) | exact Sees0.clo SeesL.nil SeesL.nil | exact SeesB.of0 (Sees0.list rfl) | exact Sees0.list rfl)) ?_)
    | refine AV.bool_congr ?_
    | refine AV.int_congr ?_
    | refine AV.str_congr ?_
    | refine AV.list_congr ?_
    | with_reducible rfl
    | refine fr1 ?_
    | refine fr2 ?_ ?_
  all_goals first
    | omega
    | exact fmtC_no (by assumption)
    | exact fmtC_has (by assumption) (by assumption)
    | exact fmtC_not (by assumption) (by assumption)
    | exact fmtC_test (by assumption) (by assumption) (by assumption)
    | (show 4 + _ ≤ _; omega)
    | (rw [List.length_append]; omega)
theorem cond_kind {x : VCond} (h : isCondF x = true) (h1 : x.1 ≠ 1) (h2 : x.1 ≠ 2) : x.1 = 3 ∨ x.1 = 4 ∨ x.1 = 5 := by
  have hk : hasKind x.1 = false := by simp [hasKind, h1, h2]
  rw [isCondF, if_neg (by simp [hk]), isTestF, Bool.and_eq_true] at h
  have h2 := h.1
  simp only [testKind, Bool.or_eq_true, beq_iff_eq] at h2
  omega
theorem join3 (a b c : Str) (h : a.length + b.length + c.length ≤ 3145728) : pJoin.RetN [.list none [[.str a], [.str b], [.str c]], .str [32]] (.str (a ++ ([32] ++ b ++ [32]) ++ c)) [] := by
  have h' := pJoin.ret [a, b, c] [32] ⟨by simp [jn]; omega, by simp⟩
  have e : jn [32] [a, b, c] = a ++ ([32] ++ b ++ [32]) ++ c := by simp [jn]
  rwa [e] at h'
theorem pFormatCond.ret (x : VCond) (h : tCond.size x ≤ 1048576) : pFormatCond.RetN [.agg (oldL (tCond.q x))] (.str (fmtC x)) [] := by
  refine pFormatCond.ofS rfl rfl ?_
  have hp := tCond_pat x
  have hz := tCond_sz x
  have hf := fmtP_len x.2.1
  by_cases hc : isCondF x = false
  · have hn : (!isCondF x) = true := by simp [hc]
    repeat' first
      | contradiction
      | (conv => whnf
         first
           | refine Need.mk (fun h => h) ?_
           | refine Need.mk rfl ?_
           | refine Need.mk ⟨rfl, Nat.le_of_ble_eq_true rfl⟩ ?_
           | refine Need.mk (Nat.le_of_ble_eq_true rfl) ?_
           | refine Need.mk (by intros; (try simp only [length_strs] at *); (try simp only [length_rows] at *); (try simp only [length_oldLL, List.length_map] at *); (try simp only [Bool.and_eq_true, decide_eq_true_eq] at *); omega) ?_
           | refine Need.mk ?_ ?_
           | refine Ix.strs rfl (by intros; (try simp only [length_strs] at *); (try simp only [length_rows] at *); (try simp only [length_oldLL, List.length_map] at *); (try simp only [Bool.and_eq_true, decide_eq_true_eq] at *); omega) ?_
           | refine Ix.strs rfl ?_ ?_
           | refine Cut.strs rfl ?_ ?_
           | refine Ix.map (fun _ => rfl) (by intros; (try simp only [length_strs] at *); (try simp only [length_rows] at *); (try simp only [length_oldLL, List.length_map] at *); (try simp only [Bool.and_eq_true, decide_eq_true_eq] at *); omega) ?_
           | refine Ix.map (fun _ => rfl) ?_ ?_
           | refine Cut.map (fun _ => rfl) ?_ ?_
           | refine Fork.yes (by assumption) ?_
           | refine Fork.no (by assumption) ?_
           | refine Fork.decYes (by omega) ?_
           | refine Fork.decNo (by omega) ?_
           | refine Fork.dec (fun _ => ?_) (fun _ => ?_)
           | refine Fork.bne (fun _ => ?_) (fun _ => ?_)
           | refine Fork.beq (fun _ => ?_) (fun _ => ?_)
           | refine Fork.seq (fun _ => ?_) (fun _ => ?_)
           | refine Fork.sne (fun _ => ?_) (fun _ => ?_)
           | refine Fork.neg (fun _ => ?_) (fun _ => ?_)
           | refine Fork.mk (fun _ => ?_) (fun _ => ?_)
           | refine Round.mk ?_
           | refine NilQ.mk (fun b hb => ?_)
           | refine forceK_of ?_
           | refine forceBx_of ?_
           | refine unG_old ?_
           | refine unG_gv ?_
           | refine Lit.read rfl ?_
           | refine FinVal.keep ?_
           | refine FinAgg.keep ?_
           | refine Final.mk rfl rfl
           | refine Final.mk ?_ rfl
           | refine Final.mk ?_ ?_
           | refine FinalT.mk ?_ ?_
           | refine FinalC.all (by repeat' first | exact Lends.nil | refine Lends.map _ ?_ | refine Lends.lend _ _ (by first | exact hx.1 | exact hy.1 | exact noTk_old _ | (intro c hc; rw [List.mem_singleton.1 hc]; rfl) | (intro c hc; cases hc; done)) ?_) ?_
           | refine ACall.scal _ _ (Ret.weak (pIsCond.ret _ ?_)) rfl (by repeat' first | exact SeesL.nil | refine SeesL.cons ?_ ?_ | exact SeesB.of0 (Sees0.val _) | exact SeesB.of0 (Sees0.str _) | exact SeesB.of0 (Sees0.olds _ _) | exact SeesB.of0 (Sees0.old _) | exact SeesB.of0 (Sees0.oldagg _) | exact SeesB.of0 Sees0.nil | exact Sees0.val _ | exact Sees0.str _ | exact Sees0.olds _ _ | exact Sees0.old _ | exact Sees0.oldagg _ | exact Sees0.nil | exact SeesB.of0 (Sees0.any _) | assumption | exact sees_gv _ _ _ (by assumption) (by first | assumption | exact BoxIn.last _ _ | exact BoxIn.more (BoxIn.last _ _) _) | refine SeesB.agg ?_ | refine Sees0.agg ?_ | exact SeesB.of0 (Sees0.clo SeesL.nil SeesL.nil) | exact Sees0.clo SeesL.nil SeesL.nil | exact SeesB.of0 (Sees0.list rfl) | exact Sees0.list rfl) ?_
           | refine AQCall.mk _ _ (fun hg => Ret.weak (pIsCond.ret _ ?_)) rfl (fun _ => (by repeat' first | exact SeesL.nil | refine SeesL.cons ?_ ?_ | exact SeesB.of0 (Sees0.val _) | exact SeesB.of0 (Sees0.str _) | exact SeesB.of0 (Sees0.olds _ _) | exact SeesB.of0 (Sees0.old _) | exact SeesB.of0 (Sees0.oldagg _) | exact SeesB.of0 Sees0.nil | exact Sees0.val _ | exact Sees0.str _ | exact Sees0.olds _ _ | exact Sees0.old _ | exact Sees0.oldagg _ | exact Sees0.nil | exact SeesB.of0 (Sees0.any _) | assumption | exact sees_gv _ _ _ (by assumption) (by first | assumption | exact BoxIn.last _ _ | exact BoxIn.more (BoxIn.last _ _) _) | refine SeesB.agg ?_ | refine Sees0.agg ?_ | exact SeesB.of0 (Sees0.clo SeesL.nil SeesL.nil) | exact Sees0.clo SeesL.nil SeesL.nil | exact SeesB.of0 (Sees0.list rfl) | exact Sees0.list rfl)) ?_)
      | refine AV.bool_congr ?_
      | refine AV.int_congr ?_
      | refine AV.str_congr ?_
      | refine AV.list_congr ?_
      | with_reducible rfl
      | refine fr1 ?_
      | refine fr2 ?_ ?_
    all_goals first
      | omega
      | exact fmtC_no hc
  have hc : isCondF x = true := by simpa using hc
  have hn : (!isCondF x) = false := by simp [hc]
  by_cases h1 : x.1 = 1
  · have hb : (x.1 == 1) = true := by simp [h1]
    repeat' first
      | contradiction
      | (conv => whnf
         first
           | refine Need.mk (fun h => h) ?_
           | refine Need.mk rfl ?_
           | refine Need.mk ⟨rfl, Nat.le_of_ble_eq_true rfl⟩ ?_
           | refine Need.mk (Nat.le_of_ble_eq_true rfl) ?_
           | refine Need.mk (by intros; (try simp only [length_strs] at *); (try simp only [length_rows] at *); (try simp only [length_oldLL, List.length_map] at *); (try simp only [Bool.and_eq_true, decide_eq_true_eq] at *); omega) ?_
           | refine Need.mk ?_ ?_
           | refine Ix.strs rfl (by intros; (try simp only [length_strs] at *); (try simp only [length_rows] at *); (try simp only [length_oldLL, List.length_map] at *); (try simp only [Bool.and_eq_true, decide_eq_true_eq] at *); omega) ?_
           | refine Ix.strs rfl ?_ ?_
           | refine Cut.strs rfl ?_ ?_
           | refine Ix.map (fun _ => rfl) (by intros; (try simp only [length_strs] at *); (try simp only [length_rows] at *); (try simp only [length_oldLL, List.length_map] at *); (try simp only [Bool.and_eq_true, decide_eq_true_eq] at *); omega) ?_
           | refine Ix.map (fun _ => rfl) ?_ ?_
           | refine Cut.map (fun _ => rfl) ?_ ?_
           | refine Fork.yes (by assumption) ?_
           | refine Fork.no (by assumption) ?_
           | refine Fork.decYes (by omega) ?_
           | refine Fork.decNo (by omega) ?_
           | refine Fork.dec (fun _ => ?_) (fun _ => ?_)
           | refine Fork.bne (fun _ => ?_) (fun _ => ?_)
           | refine Fork.beq (fun _ => ?_) (fun _ => ?_)
           | refine Fork.seq (fun _ => ?_) (fun _ => ?_)
           | refine Fork.sne (fun _ => ?_) (fun _ => ?_)
           | refine Fork.neg (fun _ => ?_) (fun _ => ?_)
           | refine Fork.mk (fun _ => ?_) (fun _ => ?_)
           | refine Round.mk ?_
           | refine NilQ.mk (fun b hb => ?_)
           | refine forceK_of ?_
           | refine forceBx_of ?_
           | refine unG_old ?_
           | refine unG_gv ?_
           | refine Lit.read rfl ?_
           | refine FinVal.keep ?_
           | refine FinAgg.keep ?_
           | refine Final.mk rfl rfl
           | refine Final.mk ?_ rfl
           | refine Final.mk ?_ ?_
           | refine FinalT.mk ?_ ?_
           | refine FinalC.all (by repeat' first | exact Lends.nil | refine Lends.map _ ?_ | refine Lends.lend _ _ (by first | exact hx.1 | exact hy.1 | exact noTk_old _ | (intro c hc; rw [List.mem_singleton.1 hc]; rfl) | (intro c hc; cases hc; done)) ?_) ?_
           | refine ACall.scal _ _ (Ret.weak (pIsCond.ret _ ?_)) rfl (by repeat' first | exact SeesL.nil | refine SeesL.cons ?_ ?_ | exact SeesB.of0 (Sees0.val _) | exact SeesB.of0 (Sees0.str _) | exact SeesB.of0 (Sees0.olds _ _) | exact SeesB.of0 (Sees0.old _) | exact SeesB.of0 (Sees0.oldagg _) | exact SeesB.of0 Sees0.nil | exact Sees0.val _ | exact Sees0.str _ | exact Sees0.olds _ _ | exact Sees0.old _ | exact Sees0.oldagg _ | exact Sees0.nil | exact SeesB.of0 (Sees0.any _) | assumption | exact sees_gv _ _ _ (by assumption) (by first | assumption | exact BoxIn.last _ _ | exact BoxIn.more (BoxIn.last _ _) _) | refine SeesB.agg ?_ | refine Sees0.agg ?_ | exact SeesB.of0 (Sees0.clo SeesL.nil SeesL.nil) | exact Sees0.clo SeesL.nil SeesL.nil | exact SeesB.of0 (Sees0.list rfl) | exact Sees0.list rfl) ?_
           | refine AQCall.mk _ _ (fun hg => Ret.weak (pIsCond.ret _ ?_)) rfl (fun _ => (by repeat' first | exact SeesL.nil | refine SeesL.cons ?_ ?_ | exact SeesB.of0 (Sees0.val _) | exact SeesB.of0 (Sees0.str _) | exact SeesB.of0 (Sees0.olds _ _) | exact SeesB.of0 (Sees0.old _) | exact SeesB.of0 (Sees0.oldagg _) | exact SeesB.of0 Sees0.nil | exact Sees0.val _ | exact Sees0.str _ | exact Sees0.olds _ _ | exact Sees0.old _ | exact Sees0.oldagg _ | exact Sees0.nil | exact SeesB.of0 (Sees0.any _) | assumption | exact sees_gv _ _ _ (by assumption) (by first | assumption | exact BoxIn.last _ _ | exact BoxIn.more (BoxIn.last _ _) _) | refine SeesB.agg ?_ | refine Sees0.agg ?_ | exact SeesB.of0 (Sees0.clo SeesL.nil SeesL.nil) | exact Sees0.clo SeesL.nil SeesL.nil | exact SeesB.of0 (Sees0.list rfl) | exact Sees0.list rfl)) ?_
           | refine ACall.scal _ _ (pFormatPattern.ret _ ?_) rfl (by repeat' first | exact SeesL.nil | refine SeesL.cons ?_ ?_ | exact SeesB.of0 (Sees0.val _) | exact SeesB.of0 (Sees0.str _) | exact SeesB.of0 (Sees0.olds _ _) | exact SeesB.of0 (Sees0.old _) | exact SeesB.of0 (Sees0.oldagg _) | exact SeesB.of0 Sees0.nil | exact Sees0.val _ | exact Sees0.str _ | exact Sees0.olds _ _ | exact Sees0.old _ | exact Sees0.oldagg _ | exact Sees0.nil | exact SeesB.of0 (Sees0.any _) | assumption | exact sees_gv _ _ _ (by assumption) (by first | assumption | exact BoxIn.last _ _ | exact BoxIn.more (BoxIn.last _ _) _) | refine SeesB.agg ?_ | refine Sees0.agg ?_ | exact SeesB.of0 (Sees0.clo SeesL.nil SeesL.nil) | exact Sees0.clo SeesL.nil SeesL.nil | exact SeesB.of0 (Sees0.list rfl) | exact Sees0.list rfl) ?_
           | refine AQCall.mk _ _ (fun hg => pFormatPattern.ret _ ?_) rfl (fun _ => (by repeat' first | exact SeesL.nil | refine SeesL.cons ?_ ?_ | exact SeesB.of0 (Sees0.val _) | exact SeesB.of0 (Sees0.str _) | exact SeesB.of0 (Sees0.olds _ _) | exact SeesB.of0 (Sees0.old _) | exact SeesB.of0 (Sees0.oldagg _) | exact SeesB.of0 Sees0.nil | exact Sees0.val _ | exact Sees0.str _ | exact Sees0.olds _ _ | exact Sees0.old _ | exact Sees0.oldagg _ | exact Sees0.nil | exact SeesB.of0 (Sees0.any _) | assumption | exact sees_gv _ _ _ (by assumption) (by first | assumption | exact BoxIn.last _ _ | exact BoxIn.more (BoxIn.last _ _) _) | refine SeesB.agg ?_ | refine Sees0.agg ?_ | exact SeesB.of0 (Sees0.clo SeesL.nil SeesL.nil) | exact Sees0.clo SeesL.nil SeesL.nil | exact SeesB.of0 (Sees0.list rfl) | exact Sees0.list rfl)) ?_)
      | refine AV.bool_congr ?_
      | refine AV.int_congr ?_
      | refine AV.str_congr ?_
      | refine AV.list_congr ?_
      | with_reducible rfl
      | refine fr1 ?_
      | refine fr2 ?_ ?_
    all_goals first
      | omega
      | exact fmtC_has hc h1
  have hb1 : (x.1 == 1) = false := by simp [h1]
  by_cases h2 : x.1 = 2
  · have hb2 : (x.1 == 2) = true := by simp [h2]
    repeat' first
      | contradiction
      | (conv => whnf
         first
           | refine Need.mk (fun h => h) ?_
           | refine Need.mk rfl ?_
           | refine Need.mk ⟨rfl, Nat.le_of_ble_eq_true rfl⟩ ?_
           | refine Need.mk (Nat.le_of_ble_eq_true rfl) ?_
           | refine Need.mk (by intros; (try simp only [length_strs] at *); (try simp only [length_rows] at *); (try simp only [length_oldLL, List.length_map] at *); (try simp only [Bool.and_eq_true, decide_eq_true_eq] at *); omega) ?_
           | refine Need.mk ?_ ?_
           | refine Ix.strs rfl (by intros; (try simp only [length_strs] at *); (try simp only [length_rows] at *); (try simp only [length_oldLL, List.length_map] at *); (try simp only [Bool.and_eq_true, decide_eq_true_eq] at *); omega) ?_
           | refine Ix.strs rfl ?_ ?_
           | refine Cut.strs rfl ?_ ?_
           | refine Ix.map (fun _ => rfl) (by intros; (try simp only [length_strs] at *); (try simp only [length_rows] at *); (try simp only [length_oldLL, List.length_map] at *); (try simp only [Bool.and_eq_true, decide_eq_true_eq] at *); omega) ?_
           | refine Ix.map (fun _ => rfl) ?_ ?_
           | refine Cut.map (fun _ => rfl) ?_ ?_
           | refine Fork.yes (by assumption) ?_
           | refine Fork.no (by assumption) ?_
           | refine Fork.decYes (by omega) ?_
           | refine Fork.decNo (by omega) ?_
           | refine Fork.dec (fun _ => ?_) (fun _ => ?_)
           | refine Fork.bne (fun _ => ?_) (fun _ => ?_)
           | refine Fork.beq (fun _ => ?_) (fun _ => ?_)
           | refine Fork.seq (fun _ => ?_) (fun _ => ?_)
           | refine Fork.sne (fun _ => ?_) (fun _ => ?_)
           | refine Fork.neg (fun _ => ?_) (fun _ => ?_)
           | refine Fork.mk (fun _ => ?_) (fun _ => ?_)
           | refine Round.mk ?_
           | refine NilQ.mk (fun b hb => ?_)
           | refine forceK_of ?_
           | refine forceBx_of ?_
           | refine unG_old ?_
           | refine unG_gv ?_
           | refine Lit.read rfl ?_
           | refine FinVal.keep ?_
           | refine FinAgg.keep ?_
           | refine Final.mk rfl rfl
           | refine Final.mk ?_ rfl
           | refine Final.mk ?_ ?_
           | refine FinalT.mk ?_ ?_
           | refine FinalC.all (by repeat' first | exact Lends.nil | refine Lends.map _ ?_ | refine Lends.lend _ _ (by first | exact hx.1 | exact hy.1 | exact noTk_old _ | (intro c hc; rw [List.mem_singleton.1 hc]; rfl) | (intro c hc; cases hc; done)) ?_) ?_
           | refine ACall.scal _ _ (Ret.weak (pIsCond.ret _ ?_)) rfl (by repeat' first | exact SeesL.nil | refine SeesL.cons ?_ ?_ | exact SeesB.of0 (Sees0.val _) | exact SeesB.of0 (Sees0.str _) | exact SeesB.of0 (Sees0.olds _ _) | exact SeesB.of0 (Sees0.old _) | exact SeesB.of0 (Sees0.oldagg _) | exact SeesB.of0 Sees0.nil | exact Sees0.val _ | exact Sees0.str _ | exact Sees0.olds _ _ | exact Sees0.old _ | exact Sees0.oldagg _ | exact Sees0.nil | exact SeesB.of0 (Sees0.any _) | assumption | exact sees_gv _ _ _ (by assumption) (by first | assumption | exact BoxIn.last _ _ | exact BoxIn.more (BoxIn.last _ _) _) | refine SeesB.agg ?_ | refine Sees0.agg ?_ | exact SeesB.of0 (Sees0.clo SeesL.nil SeesL.nil) | exact Sees0.clo SeesL.nil SeesL.nil | exact SeesB.of0 (Sees0.list rfl) | exact Sees0.list rfl) ?_
           | refine AQCall.mk _ _ (fun hg => Ret.weak (pIsCond.ret _ ?_)) rfl (fun _ => (by repeat' first | exact SeesL.nil | refine SeesL.cons ?_ ?_ | exact SeesB.of0 (Sees0.val _) | exact SeesB.of0 (Sees0.str _) | exact SeesB.of0 (Sees0.olds _ _) | exact SeesB.of0 (Sees0.old _) | exact SeesB.of0 (Sees0.oldagg _) | exact SeesB.of0 Sees0.nil | exact Sees0.val _ | exact Sees0.str _ | exact Sees0.olds _ _ | exact Sees0.old _ | exact Sees0.oldagg _ | exact Sees0.nil | exact SeesB.of0 (Sees0.any _) | assumption | exact sees_gv _ _ _ (by assumption) (by first | assumption | exact BoxIn.last _ _ | exact BoxIn.more (BoxIn.last _ _) _) | refine SeesB.agg ?_ | refine Sees0.agg ?_ | exact SeesB.of0 (Sees0.clo SeesL.nil SeesL.nil) | exact Sees0.clo SeesL.nil SeesL.nil | exact SeesB.of0 (Sees0.list rfl) | exact Sees0.list rfl)) ?_
           | refine ACall.scal _ _ (pFormatPattern.ret _ ?_) rfl (by repeat' first | exact SeesL.nil | refine SeesL.cons ?_ ?_ | exact SeesB.of0 (Sees0.val _) | exact SeesB.of0 (Sees0.str _) | exact SeesB.of0 (Sees0.olds _ _) | exact SeesB.of0 (Sees0.old _) | exact SeesB.of0 (Sees0.oldagg _) | exact SeesB.of0 Sees0.nil | exact Sees0.val _ | exact Sees0.str _ | exact Sees0.olds _ _ | exact Sees0.old _ | exact Sees0.oldagg _ | exact Sees0.nil | exact SeesB.of0 (Sees0.any _) | assumption | exact sees_gv _ _ _ (by assumption) (by first | assumption | exact BoxIn.last _ _ | exact BoxIn.more (BoxIn.last _ _) _) | refine SeesB.agg ?_ | refine Sees0.agg ?_ | exact SeesB.of0 (Sees0.clo SeesL.nil SeesL.nil) | exact Sees0.clo SeesL.nil SeesL.nil | exact SeesB.of0 (Sees0.list rfl) | exact Sees0.list rfl) ?_
           | refine AQCall.mk _ _ (fun hg => pFormatPattern.ret _ ?_) rfl (fun _ => (by repeat' first | exact SeesL.nil | refine SeesL.cons ?_ ?_ | exact SeesB.of0 (Sees0.val _) | exact SeesB.of0 (Sees0.str _) | exact SeesB.of0 (Sees0.olds _ _) | exact SeesB.of0 (Sees0.old _) | exact SeesB.of0 (Sees0.oldagg _) | exact SeesB.of0 Sees0.nil | exact Sees0.val _ | exact Sees0.str _ | exact Sees0.olds _ _ | exact Sees0.old _ | exact Sees0.oldagg _ | exact Sees0.nil | exact SeesB.of0 (Sees0.any _) | assumption | exact sees_gv _ _ _ (by assumption) (by first | assumption | exact BoxIn.last _ _ | exact BoxIn.more (BoxIn.last _ _) _) | refine SeesB.agg ?_ | refine Sees0.agg ?_ | exact SeesB.of0 (Sees0.clo SeesL.nil SeesL.nil) | exact Sees0.clo SeesL.nil SeesL.nil | exact SeesB.of0 (Sees0.list rfl) | exact Sees0.list rfl)) ?_)
      | refine AV.bool_congr ?_
      | refine AV.int_congr ?_
      | refine AV.str_congr ?_
      | refine AV.list_congr ?_
      | with_reducible rfl
      | refine fr1 ?_
      | refine fr2 ?_ ?_
    all_goals first
      | omega
      | (show 4 + _ ≤ _; omega)
      | exact fmtC_not hc h2
  have hb2 : (x.1 == 2) = false := by simp [h2]
  have hk := cond_kind hc h1 h2
  rcases hk with hk | hk | hk
  · have hcm : pcomparisonOf.RetN [.val (.int .i64 x.1)] (.tup [.agg [.val (.int .i64 3), .str [61], .clo 132 [] []], .val (.bool true)]) [(75, 3, 3)] := by rw [hk]; exact cmp3.weak
    have hj := join3 x.2.2.1 [61] x.2.2.2 (by simp; omega)
    repeat' first
      | contradiction
      | (conv => whnf
         first
           | refine Need.mk (fun h => h) ?_
           | refine Need.mk rfl ?_
           | refine Need.mk ⟨rfl, Nat.le_of_ble_eq_true rfl⟩ ?_
           | refine Need.mk (Nat.le_of_ble_eq_true rfl) ?_
           | refine Need.mk (by intros; (try simp only [length_strs] at *); (try simp only [length_rows] at *); (try simp only [length_oldLL, List.length_map] at *); (try simp only [Bool.and_eq_true, decide_eq_true_eq] at *); omega) ?_
           | refine Need.mk ?_ ?_
           | refine Ix.strs rfl (by intros; (try simp only [length_strs] at *); (try simp only [length_rows] at *); (try simp only [length_oldLL, List.length_map] at *); (try simp only [Bool.and_eq_true, decide_eq_true_eq] at *); omega) ?_
           | refine Ix.strs rfl ?_ ?_
           | refine Cut.strs rfl ?_ ?_
           | refine Ix.map (fun _ => rfl) (by intros; (try simp only [length_strs] at *); (try simp only [length_rows] at *); (try simp only [length_oldLL, List.length_map] at *); (try simp only [Bool.and_eq_true, decide_eq_true_eq] at *); omega) ?_
           | refine Ix.map (fun _ => rfl) ?_ ?_
           | refine Cut.map (fun _ => rfl) ?_ ?_
           | refine Fork.yes (by assumption) ?_
           | refine Fork.no (by assumption) ?_
           | refine Fork.decYes (by omega) ?_
           | refine Fork.decNo (by omega) ?_
           | refine Fork.dec (fun _ => ?_) (fun _ => ?_)
           | refine Fork.bne (fun _ => ?_) (fun _ => ?_)
           | refine Fork.beq (fun _ => ?_) (fun _ => ?_)
           | refine Fork.seq (fun _ => ?_) (fun _ => ?_)
           | refine Fork.sne (fun _ => ?_) (fun _ => ?_)
           | refine Fork.neg (fun _ => ?_) (fun _ => ?_)
           | refine Fork.mk (fun _ => ?_) (fun _ => ?_)
           | refine Round.mk ?_
           | refine NilQ.mk (fun b hb => ?_)
           | refine forceK_of ?_
           | refine forceBx_of ?_
           | refine unG_old ?_
           | refine unG_gv ?_
           | refine Lit.read rfl ?_
           | refine FinVal.keep ?_
           | refine FinAgg.keep ?_
           | refine Final.mk rfl rfl
           | refine Final.mk ?_ rfl
           | refine Final.mk ?_ ?_
           | refine FinalT.mk ?_ ?_
           | refine FinalC.all (by repeat' first | exact Lends.nil | refine Lends.map _ ?_ | refine Lends.lend _ _ (by first | exact hx.1 | exact hy.1 | exact noTk_old _ | (intro c hc; rw [List.mem_singleton.1 hc]; rfl) | (intro c hc; cases hc; done)) ?_) ?_
           | refine ACall.scal _ _ (Ret.weak (pIsCond.ret _ ?_)) rfl (by repeat' first | exact SeesL.nil | refine SeesL.cons ?_ ?_ | exact SeesB.of0 (Sees0.val _) | exact SeesB.of0 (Sees0.str _) | exact SeesB.of0 (Sees0.olds _ _) | exact SeesB.of0 (Sees0.old _) | exact SeesB.of0 (Sees0.oldagg _) | exact SeesB.of0 Sees0.nil | exact Sees0.val _ | exact Sees0.str _ | exact Sees0.olds _ _ | exact Sees0.old _ | exact Sees0.oldagg _ | exact Sees0.nil | exact SeesB.of0 (Sees0.any _) | assumption | exact sees_gv _ _ _ (by assumption) (by first | assumption | exact BoxIn.last _ _ | exact BoxIn.more (BoxIn.last _ _) _) | refine SeesB.agg ?_ | refine Sees0.agg ?_ | exact SeesB.of0 (Sees0.clo SeesL.nil SeesL.nil) | exact Sees0.clo SeesL.nil SeesL.nil | exact SeesB.of0 (Sees0.list rfl) | exact Sees0.list rfl) ?_
           | refine AQCall.mk _ _ (fun hg => Ret.weak (pIsCond.ret _ ?_)) rfl (fun _ => (by repeat' first | exact SeesL.nil | refine SeesL.cons ?_ ?_ | exact SeesB.of0 (Sees0.val _) | exact SeesB.of0 (Sees0.str _) | exact SeesB.of0 (Sees0.olds _ _) | exact SeesB.of0 (Sees0.old _) | exact SeesB.of0 (Sees0.oldagg _) | exact SeesB.of0 Sees0.nil | exact Sees0.val _ | exact Sees0.str _ | exact Sees0.olds _ _ | exact Sees0.old _ | exact Sees0.oldagg _ | exact Sees0.nil | exact SeesB.of0 (Sees0.any _) | assumption | exact sees_gv _ _ _ (by assumption) (by first | assumption | exact BoxIn.last _ _ | exact BoxIn.more (BoxIn.last _ _) _) | refine SeesB.agg ?_ | refine Sees0.agg ?_ | exact SeesB.of0 (Sees0.clo SeesL.nil SeesL.nil) | exact Sees0.clo SeesL.nil SeesL.nil | exact SeesB.of0 (Sees0.list rfl) | exact Sees0.list rfl)) ?_
           | refine ACall.mk _ _ _ (hcm) (by repeat' first | exact SeesL.nil | refine SeesL.cons ?_ ?_ | exact SeesB.of0 (Sees0.val _) | exact SeesB.of0 (Sees0.str _) | exact SeesB.of0 (Sees0.olds _ _) | exact SeesB.of0 (Sees0.old _) | exact SeesB.of0 (Sees0.oldagg _) | exact SeesB.of0 Sees0.nil | exact Sees0.val _ | exact Sees0.str _ | exact Sees0.olds _ _ | exact Sees0.old _ | exact Sees0.oldagg _ | exact Sees0.nil | exact SeesB.of0 (Sees0.any _) | assumption | exact sees_gv _ _ _ (by assumption) (by first | assumption | exact BoxIn.last _ _ | exact BoxIn.more (BoxIn.last _ _) _) | refine SeesB.agg ?_ | refine Sees0.agg ?_ | exact SeesB.of0 (Sees0.clo SeesL.nil SeesL.nil) | exact Sees0.clo SeesL.nil SeesL.nil | exact SeesB.of0 (Sees0.list rfl) | exact Sees0.list rfl) ?_
           | refine ACall.scal _ _ (hj) rfl (by repeat' first | exact SeesL.nil | refine SeesL.cons ?_ ?_ | exact SeesB.of0 (Sees0.val _) | exact SeesB.of0 (Sees0.str _) | exact SeesB.of0 (Sees0.olds _ _) | exact SeesB.of0 (Sees0.old _) | exact SeesB.of0 (Sees0.oldagg _) | exact SeesB.of0 Sees0.nil | exact Sees0.val _ | exact Sees0.str _ | exact Sees0.olds _ _ | exact Sees0.old _ | exact Sees0.oldagg _ | exact Sees0.nil | exact SeesB.of0 (Sees0.any _) | assumption | exact sees_gv _ _ _ (by assumption) (by first | assumption | exact BoxIn.last _ _ | exact BoxIn.more (BoxIn.last _ _) _) | refine SeesB.agg ?_ | refine Sees0.agg ?_ | exact SeesB.of0 (Sees0.clo SeesL.nil SeesL.nil) | exact Sees0.clo SeesL.nil SeesL.nil | exact SeesB.of0 (Sees0.list rfl) | exact Sees0.list rfl) ?_
           | refine AQCall.mk _ _ (fun hg => hj) rfl (fun _ => (by repeat' first | exact SeesL.nil | refine SeesL.cons ?_ ?_ | exact SeesB.of0 (Sees0.val _) | exact SeesB.of0 (Sees0.str _) | exact SeesB.of0 (Sees0.olds _ _) | exact SeesB.of0 (Sees0.old _) | exact SeesB.of0 (Sees0.oldagg _) | exact SeesB.of0 Sees0.nil | exact Sees0.val _ | exact Sees0.str _ | exact Sees0.olds _ _ | exact Sees0.old _ | exact Sees0.oldagg _ | exact Sees0.nil | exact SeesB.of0 (Sees0.any _) | assumption | exact sees_gv _ _ _ (by assumption) (by first | assumption | exact BoxIn.last _ _ | exact BoxIn.more (BoxIn.last _ _) _) | refine SeesB.agg ?_ | refine Sees0.agg ?_ | exact SeesB.of0 (Sees0.clo SeesL.nil SeesL.nil) | exact Sees0.clo SeesL.nil SeesL.nil | exact SeesB.of0 (Sees0.list rfl) | exact Sees0.list rfl)) ?_)
      | refine AV.bool_congr ?_
      | refine AV.int_congr ?_
      | refine AV.str_congr ?_
      | refine AV.list_congr ?_
      | with_reducible rfl
      | refine fr1 ?_
      | refine fr2 ?_ ?_
    all_goals first
      | omega
      | (rw [← fmtC_test hc h1 h2, signF, if_pos hk]; rfl)
  · have hcm : pcomparisonOf.RetN [.val (.int .i64 x.1)] (.tup [.agg [.val (.int .i64 4), .str [33, 61], .clo 133 [] []], .val (.bool true)]) [(75, 3, 3)] := by rw [hk]; exact cmp4.weak
    have hj := join3 x.2.2.1 [33, 61] x.2.2.2 (by simp; omega)
    repeat' first
      | contradiction
      | (conv => whnf
         first
           | refine Need.mk (fun h => h) ?_
           | refine Need.mk rfl ?_
           | refine Need.mk ⟨rfl, Nat.le_of_ble_eq_true rfl⟩ ?_
           | refine Need.mk (Nat.le_of_ble_eq_true rfl) ?_
           | refine Need.mk (by intros; (try simp only [length_strs] at *); (try simp only [length_rows] at *); (try simp only [length_oldLL, List.length_map] at *); (try simp only [Bool.and_eq_true, decide_eq_true_eq] at *); omega) ?_
           | refine Need.mk ?_ ?_
           | refine Ix.strs rfl (by intros; (try simp only [length_strs] at *); (try simp only [length_rows] at *); (try simp only [length_oldLL, List.length_map] at *); (try simp only [Bool.and_eq_true, decide_eq_true_eq] at *); omega) ?_
           | refine Ix.strs rfl ?_ ?_
           | refine Cut.strs rfl ?_ ?_
           | refine Ix.map (fun _ => rfl) (by intros; (try simp only [length_strs] at *); (try simp only [length_rows] at *); (try simp only [length_oldLL, List.length_map] at *); (try simp only [Bool.and_eq_true, decide_eq_true_eq] at *); omega) ?_
           | refine Ix.map (fun _ => rfl) ?_ ?_
           | refine Cut.map (fun _ => rfl) ?_ ?_
           | refine Fork.yes (by assumption) ?_
           | refine Fork.no (by assumption) ?_
           | refine Fork.decYes (by omega) ?_
           | refine Fork.decNo (by omega) ?_
           | refine Fork.dec (fun _ => ?_) (fun _ => ?_)
           | refine Fork.bne (fun _ => ?_) (fun _ => ?_)
           | refine Fork.beq (fun _ => ?_) (fun _ => ?_)
           | refine Fork.seq (fun _ => ?_) (fun _ => ?_)
           | refine Fork.sne (fun _ => ?_) (fun _ => ?_)
           | refine Fork.neg (fun _ => ?_) (fun _ => ?_)
           | refine Fork.mk (fun _ => ?_) (fun _ => ?_)
           | refine Round.mk ?_
           | refine NilQ.mk (fun b hb => ?_)
           | refine forceK_of ?_
           | refine forceBx_of ?_
           | refine unG_old ?_
           | refine unG_gv ?_
           | refine Lit.read rfl ?_
           | refine FinVal.keep ?_
           | refine FinAgg.keep ?_
           | refine Final.mk rfl rfl
           | refine Final.mk ?_ rfl
           | refine Final.mk ?_ ?_
           | refine FinalT.mk ?_ ?_
           | refine FinalC.all (by repeat' first | exact Lends.nil | refine Lends.map _ ?_ | refine Lends.lend _ _ (by first | exact hx.1 | exact hy.1 | exact noTk_old _ | (intro c hc; rw [List.mem_singleton.1 hc]; rfl) | (intro c hc; cases hc; done)) ?_) ?_
           | refine ACall.scal _ _ (Ret.weak (pIsCond.ret _ ?_)) rfl (by repeat' first | exact SeesL.nil | refine SeesL.cons ?_ ?_ | exact SeesB.of0 (Sees0.val _) | exact SeesB.of0 (Sees0.str _) | exact SeesB.of0 (Sees0.olds _ _) | exact SeesB.of0 (Sees0.old _) | exact SeesB.of0 (Sees0.oldagg _) | exact SeesB.of0 Sees0.nil | exact Sees0.val _ | exact Sees0.str _ | exact Sees0.olds _ _ | exact Sees0.old _ | exact Sees0.oldagg _ | exact Sees0.nil | exact SeesB.of0 (Sees0.any _) | assumption | exact sees_gv _ _ _ (by assumption) (by first | assumption | exact BoxIn.last _ _ | exact BoxIn.more (BoxIn.last _ _) _) | refine SeesB.agg ?_ | refine Sees0.agg ?_ | exact SeesB.of0 (Sees0.clo SeesL.nil SeesL.nil) | exact Sees0.clo SeesL.nil SeesL.nil | exact SeesB.of0 (Sees0.list rfl) | exact Sees0.list rfl) ?_
           | refine AQCall.mk _ _ (fun hg => Ret.weak (pIsCond.ret _ ?_)) rfl (fun _ => (by repeat' first | exact SeesL.nil | refine SeesL.cons ?_ ?_ | exact SeesB.of0 (Sees0.val _) | exact SeesB.of0 (Sees0.str _) | exact SeesB.of0 (Sees0.olds _ _) | exact SeesB.of0 (Sees0.old _) | exact SeesB.of0 (Sees0.oldagg _) | exact SeesB.of0 Sees0.nil | exact Sees0.val _ | exact Sees0.str _ | exact Sees0.olds _ _ | exact Sees0.old _ | exact Sees0.oldagg _ | exact Sees0.nil | exact SeesB.of0 (Sees0.any _) | assumption | exact sees_gv _ _ _ (by assumption) (by first | assumption | exact BoxIn.last _ _ | exact BoxIn.more (BoxIn.last _ _) _) | refine SeesB.agg ?_ | refine Sees0.agg ?_ | exact SeesB.of0 (Sees0.clo SeesL.nil SeesL.nil) | exact Sees0.clo SeesL.nil SeesL.nil | exact SeesB.of0 (Sees0.list rfl) | exact Sees0.list rfl)) ?_
           | refine ACall.mk _ _ _ (hcm) (by repeat' first | exact SeesL.nil | refine SeesL.cons ?_ ?_ | exact SeesB.of0 (Sees0.val _) | exact SeesB.of0 (Sees0.str _) | exact SeesB.of0 (Sees0.olds _ _) | exact SeesB.of0 (Sees0.old _) | exact SeesB.of0 (Sees0.oldagg _) | exact SeesB.of0 Sees0.nil | exact Sees0.val _ | exact Sees0.str _ | exact Sees0.olds _ _ | exact Sees0.old _ | exact Sees0.oldagg _ | exact Sees0.nil | exact SeesB.of0 (Sees0.any _) | assumption | exact sees_gv _ _ _ (by assumption) (by first | assumption | exact BoxIn.last _ _ | exact BoxIn.more (BoxIn.last _ _) _) | refine SeesB.agg ?_ | refine Sees0.agg ?_ | exact SeesB.of0 (Sees0.clo SeesL.nil SeesL.nil) | exact Sees0.clo SeesL.nil SeesL.nil | exact SeesB.of0 (Sees0.list rfl) | exact Sees0.list rfl) ?_
           | refine ACall.scal _ _ (hj) rfl (by repeat' first | exact SeesL.nil | refine SeesL.cons ?_ ?_ | exact SeesB.of0 (Sees0.val _) | exact SeesB.of0 (Sees0.str _) | exact SeesB.of0 (Sees0.olds _ _) | exact SeesB.of0 (Sees0.old _) | exact SeesB.of0 (Sees0.oldagg _) | exact SeesB.of0 Sees0.nil | exact Sees0.val _ | exact Sees0.str _ | exact Sees0.olds _ _ | exact Sees0.old _ | exact Sees0.oldagg _ | exact Sees0.nil | exact SeesB.of0 (Sees0.any _) | assumption | exact sees_gv _ _ _ (by assumption) (by first | assumption | exact BoxIn.last _ _ | exact BoxIn.more (BoxIn.last _ _) _) | refine SeesB.agg ?_ | refine Sees0.agg ?_ | exact SeesB.of0 (Sees0.clo SeesL.nil SeesL.nil) | exact Sees0.clo SeesL.nil SeesL.nil | exact SeesB.of0 (Sees0.list rfl) | exact Sees0.list rfl) ?_
           | refine AQCall.mk _ _ (fun hg => hj) rfl (fun _ => (by repeat' first | exact SeesL.nil | refine SeesL.cons ?_ ?_ | exact SeesB.of0 (Sees0.val _) | exact SeesB.of0 (Sees0.str _) | exact SeesB.of0 (Sees0.olds _ _) | exact SeesB.of0 (Sees0.old _) | exact SeesB.of0 (Sees0.oldagg _) | exact SeesB.of0 Sees0.nil | exact Sees0.val _ | exact Sees0.str _ | exact Sees0.olds _ _ | exact Sees0.old _ | exact Sees0.oldagg _ | exact Sees0.nil | exact SeesB.of0 (Sees0.any _) | assumption | exact sees_gv _ _ _ (by assumption) (by first | assumption | exact BoxIn.last _ _ | exact BoxIn.more (BoxIn.last _ _) _) | refine SeesB.agg ?_ | refine Sees0.agg ?_ | exact SeesB.of0 (Sees0.clo SeesL.nil SeesL.nil) | exact Sees0.clo SeesL.nil SeesL.nil | exact SeesB.of0 (Sees0.list rfl) | exact Sees0.list rfl)) ?_)
      | refine AV.bool_congr ?_
      | refine AV.int_congr ?_
      | refine AV.str_congr ?_
      | refine AV.list_congr ?_
      | with_reducible rfl
      | refine fr1 ?_
      | refine fr2 ?_ ?_
    all_goals first
      | omega
      | (rw [← fmtC_test hc h1 h2, signF, if_neg (by omega), if_pos hk]; rfl)
  · have hcm : pcomparisonOf.RetN [.val (.int .i64 x.1)] (.tup [.agg [.val (.int .i64 5), .str [60], .clo 134 [] []], .val (.bool true)]) [(75, 3, 3)] := by rw [hk]; exact cmp5.weak
    have hj := join3 x.2.2.1 [60] x.2.2.2 (by simp; omega)
    repeat' first
      | contradiction
      | (conv => whnf
         first
           | refine Need.mk (fun h => h) ?_
           | refine Need.mk rfl ?_
           | refine Need.mk ⟨rfl, Nat.le_of_ble_eq_true rfl⟩ ?_
           | refine Need.mk (Nat.le_of_ble_eq_true rfl) ?_
           | refine Need.mk (by intros; (try simp only [length_strs] at *); (try simp only [length_rows] at *); (try simp only [length_oldLL, List.length_map] at *); (try simp only [Bool.and_eq_true, decide_eq_true_eq] at *); omega) ?_
           | refine Need.mk ?_ ?_
           | refine Ix.strs rfl (by intros; (try simp only [length_strs] at *); (try simp only [length_rows] at *); (try simp only [length_oldLL, List.length_map] at *); (try simp only [Bool.and_eq_true, decide_eq_true_eq] at *); omega) ?_
           | refine Ix.strs rfl ?_ ?_
           | refine Cut.strs rfl ?_ ?_
           | refine Ix.map (fun _ => rfl) (by intros; (try simp only [length_strs] at *); (try simp only [length_rows] at *); (try simp only [length_oldLL, List.length_map] at *); (try simp only [Bool.and_eq_true, decide_eq_true_eq] at *); omega) ?_
           | refine Ix.map (fun _ => rfl) ?_ ?_
           | refine Cut.map (fun _ => rfl) ?_ ?_
           | refine Fork.yes (by assumption) ?_
           | refine Fork.no (by assumption) ?_
           | refine Fork.decYes (by omega) ?_
           | refine Fork.decNo (by omega) ?_
           | refine Fork.dec (fun _ => ?_) (fun _ => ?_)
           | refine Fork.bne (fun _ => ?_) (fun _ => ?_)
           | refine Fork.beq (fun _ => ?_) (fun _ => ?_)
           | refine Fork.seq (fun _ => ?_) (fun _ => ?_)
           | refine Fork.sne (fun _ => ?_) (fun _ => ?_)
           | refine Fork.neg (fun _ => ?_) (fun _ => ?_)
           | refine Fork.mk (fun _ => ?_) (fun _ => ?_)
           | refine Round.mk ?_
           | refine NilQ.mk (fun b hb => ?_)
           | refine forceK_of ?_
           | refine forceBx_of ?_
           | refine unG_old ?_
           | refine unG_gv ?_
           | refine Lit.read rfl ?_
           | refine FinVal.keep ?_
           | refine FinAgg.keep ?_
           | refine Final.mk rfl rfl
           | refine Final.mk ?_ rfl
           | refine Final.mk ?_ ?_
           | refine FinalT.mk ?_ ?_
           | refine FinalC.all (by repeat' first | exact Lends.nil | refine Lends.map _ ?_ | refine Lends.lend _ _ (by first | exact hx.1 | exact hy.1 | exact noTk_old _ | (intro c hc; rw [List.mem_singleton.1 hc]; rfl) | (intro c hc; cases hc; done)) ?_) ?_
           | refine ACall.scal _ _ (Ret.weak (pIsCond.ret _ ?_)) rfl (by repeat' first | exact SeesL.nil | refine SeesL.cons ?_ ?_ | exact SeesB.of0 (Sees0.val _) | exact SeesB.of0 (Sees0.str _) | exact SeesB.of0 (Sees0.olds _ _) | exact SeesB.of0 (Sees0.old _) | exact SeesB.of0 (Sees0.oldagg _) | exact SeesB.of0 Sees0.nil | exact Sees0.val _ | exact Sees0.str _ | exact Sees0.olds _ _ | exact Sees0.old _ | exact Sees0.oldagg _ | exact Sees0.nil | exact SeesB.of0 (Sees0.any _) | assumption | exact sees_gv _ _ _ (by assumption) (by first | assumption | exact BoxIn.last _ _ | exact BoxIn.more (BoxIn.last _ _) _) | refine SeesB.agg ?_ | refine Sees0.agg ?_ | exact SeesB.of0 (Sees0.clo SeesL.nil SeesL.nil) | exact Sees0.clo SeesL.nil SeesL.nil | exact SeesB.of0 (Sees0.list rfl) | exact Sees0.list rfl) ?_
           | refine AQCall.mk _ _ (fun hg => Ret.weak (pIsCond.ret _ ?_)) rfl (fun _ => (by repeat' first | exact SeesL.nil | refine SeesL.cons ?_ ?_ | exact SeesB.of0 (Sees0.val _) | exact SeesB.of0 (Sees0.str _) | exact SeesB.of0 (Sees0.olds _ _) | exact SeesB.of0 (Sees0.old _) | exact SeesB.of0 (Sees0.oldagg _) | exact SeesB.of0 Sees0.nil | exact Sees0.val _ | exact Sees0.str _ | exact Sees0.olds _ _ | exact Sees0.old _ | exact Sees0.oldagg _ | exact Sees0.nil | exact SeesB.of0 (Sees0.any _) | assumption | exact sees_gv _ _ _ (by assumption) (by first | assumption | exact BoxIn.last _ _ | exact BoxIn.more (BoxIn.last _ _) _) | refine SeesB.agg ?_ | refine Sees0.agg ?_ | exact SeesB.of0 (Sees0.clo SeesL.nil SeesL.nil) | exact Sees0.clo SeesL.nil SeesL.nil | exact SeesB.of0 (Sees0.list rfl) | exact Sees0.list rfl)) ?_
           | refine ACall.mk _ _ _ (hcm) (by repeat' first | exact SeesL.nil | refine SeesL.cons ?_ ?_ | exact SeesB.of0 (Sees0.val _) | exact SeesB.of0 (Sees0.str _) | exact SeesB.of0 (Sees0.olds _ _) | exact SeesB.of0 (Sees0.old _) | exact SeesB.of0 (Sees0.oldagg _) | exact SeesB.of0 Sees0.nil | exact Sees0.val _ | exact Sees0.str _ | exact Sees0.olds _ _ | exact Sees0.old _ | exact Sees0.oldagg _ | exact Sees0.nil | exact SeesB.of0 (Sees0.any _) | assumption | exact sees_gv _ _ _ (by assumption) (by first | assumption | exact BoxIn.last _ _ | exact BoxIn.more (BoxIn.last _ _) _) | refine SeesB.agg ?_ | refine Sees0.agg ?_ | exact SeesB.of0 (Sees0.clo SeesL.nil SeesL.nil) | exact Sees0.clo SeesL.nil SeesL.nil | exact SeesB.of0 (Sees0.list rfl) | exact Sees0.list rfl) ?_
           | refine ACall.scal _ _ (hj) rfl (by repeat' first | exact SeesL.nil | refine SeesL.cons ?_ ?_ | exact SeesB.of0 (Sees0.val _) | exact SeesB.of0 (Sees0.str _) | exact SeesB.of0 (Sees0.olds _ _) | exact SeesB.of0 (Sees0.old _) | exact SeesB.of0 (Sees0.oldagg _) | exact SeesB.of0 Sees0.nil | exact Sees0.val _ | exact Sees0.str _ | exact Sees0.olds _ _ | exact Sees0.old _ | exact Sees0.oldagg _ | exact Sees0.nil | exact SeesB.of0 (Sees0.any _) | assumption | exact sees_gv _ _ _ (by assumption) (by first | assumption | exact BoxIn.last _ _ | exact BoxIn.more (BoxIn.last _ _) _) | refine SeesB.agg ?_ | refine Sees0.agg ?_ | exact SeesB.of0 (Sees0.clo SeesL.nil SeesL.nil) | exact Sees0.clo SeesL.nil SeesL.nil | exact SeesB.of0 (Sees0.list rfl) | exact Sees0.list rfl) ?_
           | refine AQCall.mk _ _ (fun hg => hj) rfl (fun _ => (by repeat' first | exact SeesL.nil | refine SeesL.cons ?_ ?_ | exact SeesB.of0 (Sees0.val _) | exact SeesB.of0 (Sees0.str _) | exact SeesB.of0 (Sees0.olds _ _) | exact SeesB.of0 (Sees0.old _) | exact SeesB.of0 (Sees0.oldagg _) | exact SeesB.of0 Sees0.nil | exact Sees0.val _ | exact Sees0.str _ | exact Sees0.olds _ _ | exact Sees0.old _ | exact Sees0.oldagg _ | exact Sees0.nil | exact SeesB.of0 (Sees0.any _) | assumption | exact sees_gv _ _ _ (by assumption) (by first | assumption | exact BoxIn.last _ _ | exact BoxIn.more (BoxIn.last _ _) _) | refine SeesB.agg ?_ | refine Sees0.agg ?_ | exact SeesB.of0 (Sees0.clo SeesL.nil SeesL.nil) | exact Sees0.clo SeesL.nil SeesL.nil | exact SeesB.of0 (Sees0.list rfl) | exact Sees0.list rfl)) ?_)
      | refine AV.bool_congr ?_
      | refine AV.int_congr ?_
      | refine AV.str_congr ?_
      | refine AV.list_congr ?_
      | with_reducible rfl
      | refine fr1 ?_
      | refine fr2 ?_ ?_
    all_goals first
      | omega
      | (rw [← fmtC_test hc h1 h2, signF, if_neg (by omega), if_neg (by omega)]; rfl)
end Go.Proofs.Ytfffboofmccfhaa
namespace Go.Proofs.Ytfffboofmccfhaa
open Abs
theorem lawExactIsCond.ret (a0 : VCond) (hb0 : tCond.bd a0) : lawExactIsCond.Ret [.agg (oldL (tCond.q a0))] (.val (.bool true)) [] :=
  lawExactIsCond.of_ret a0 hb0 fun h => ⟨_, sIsCond.ret a0 h, pIsCond.ret a0 h⟩
theorem lawExactIsTest.ret (a0 : VCond) (hb0 : tCond.bd a0) : lawExactIsTest.Ret [.agg (oldL (tCond.q a0))] (.val (.bool true)) [] :=
  lawExactIsTest.of_ret a0 hb0 fun h => ⟨_, sIsTest.ret a0 h, pIsTest.ret a0 h⟩
theorem lawExactSameCond.ret (a0 a1 : VCond) (hb0 : tCond.bd a0) (hb1 : tCond.bd a1) : lawExactSameCond.Ret [.agg (oldL (tCond.q a0)), .agg (oldL (tCond.q a1))] (.val (.bool true)) [] :=
  lawExactSameCond.of_ret a0 a1 hb0 hb1 fun h => ⟨_, sSameCond.ret a0 a1 (by omega), pSameCond.ret a0 a1 (by omega)⟩
theorem lawExactHoldsTest.ret (a0 : VCond) (a1 : List VPair) (hb0 : tCond.bd a0) (hb1 : tPairs.bd a1) : lawExactHoldsTest.Ret [.agg (oldL (tCond.q a0)), .list none (rows tPair a1)] (.val (.bool true)) [] :=
  lawExactHoldsTest.of_ret a0 a1 hb0 hb1 fun h => ⟨_, sHoldsTest.ret a0 a1 (by omega) (by omega), pHoldsTest.ret a0 a1 (by omega) (by omega)⟩
theorem lawExactFormatCond.ret (a0 : VCond) (hb0 : tCond.bd a0) : lawExactFormatCond.RetN [.agg (oldL (tCond.q a0))] (.val (.bool true)) [] :=
  lawExactFormatCond.of_ret a0 hb0 fun h => ⟨_, sFormatCond.ret a0 h, pFormatCond.ret a0 h⟩
end Go.Proofs.Ytfffboofmccfhaa
namespace Go.Proofs.Ytfffboofmccfhaa
def headSigns : List Nat := [104, 97, 114, 110, 101, 115, 115, 32, 52, 54, 57, 56, 55, 101, 98, 54, 53, 56, 56, 54, 50, 97, 56, 99, 102, 101, 98, 48, 48, 54, 57, 57, 51, 101, 48, 55, 57, 101, 49, 53, 55, 97, 51, 98, 48, 97, 52, 97, 53, 54, 54, 54, 54, 54, 50, 102, 52, 49, 97, 97, 98, 52, 55, 55, 57, 53, 50, 57, 98, 102, 48, 99, 32, 99, 117, 116, 32, 97, 116, 32, 108, 111, 111, 112, 46, 101, 120, 97, 109, 112, 108, 101, 47, 103, 48, 51, 48, 49, 53, 47, 108, 97, 119, 115, 46, 70, 110, 69, 120, 97, 99, 116, 73, 115, 67, 111, 110, 100, 32, 108, 111, 111, 112, 46, 101, 120, 97, 109, 112, 108, 101, 47, 103, 48, 51, 48, 49, 53, 47, 108, 97, 119, 115, 46, 70, 110, 69, 120, 97, 99, 116, 73, 115, 84, 101, 115, 116, 32, 108, 111, 111, 112, 46, 101, 120, 97, 109, 112, 108, 101, 47, 103, 48, 51, 48, 49, 53, 47, 108, 97, 119, 115, 46, 70, 110, 69, 120, 97, 99, 116, 67, 111, 110, 100, 86, 97, 114, 115, 32, 108, 111, 111, 112, 46, 101, 120, 97, 109, 112, 108, 101, 47, 103, 48, 51, 48, 49, 53, 47, 108, 97, 119, 115, 46, 70, 110, 69, 120, 97, 99, 116, 72, 111, 108, 100, 115, 84, 101, 115, 116, 32, 108, 111, 111, 112, 46, 101, 120, 97, 109, 112, 108, 101, 47, 103, 48, 51, 48, 49, 53, 47, 108, 97, 119, 115, 46, 70, 110, 69, 120, 97, 99, 116, 77, 97, 116, 99, 104, 105, 110, 103, 70, 97, 99, 116, 115, 32, 108, 111, 111, 112, 46, 101, 120, 97, 109, 112, 108, 101, 47, 103, 48, 51, 48, 49, 53, 47, 108, 97, 119, 115, 46, 70, 110, 69, 120, 97, 99, 116, 70, 111, 114, 109, 97, 116, 67, 111, 110, 100, 32, 108, 111, 111, 112, 46, 101, 120, 97, 109, 112, 108, 101, 47, 103, 48, 51, 48, 49, 53, 47, 108, 97, 119, 115, 46, 70, 110, 69, 120, 97, 99, 116, 83, 97, 109, 101, 67, 111, 110, 100, 32, 108, 111, 111, 112, 46, 101, 120, 97, 109, 112, 108, 101, 47, 103, 48, 51, 48, 49, 53, 47, 108, 97, 119, 115, 46, 70, 110, 69, 120, 97, 99, 116, 82, 101, 110, 97, 109, 101, 67, 111, 110, 100, 32, 108, 111, 111, 112, 46, 101, 120, 97, 109, 112, 108, 101, 47, 103, 48, 51, 48, 49, 53, 47, 108, 97, 119, 115, 46, 70, 110, 84, 101, 115, 116, 115, 32, 108, 111, 111, 112, 46, 101, 120, 97, 109, 112, 108, 101, 47, 103, 48, 51, 48, 49, 53, 47, 108, 97, 119, 115, 46, 70, 110, 69, 120, 97, 99, 116, 86, 97, 114, 115, 79, 102]
theorem Abs.head : Try.prog.initOrder = String.ofList (headSigns.map Char.ofNat) := by kernel_rfl
theorem Abs.signs : Try.prog.initOrder.toList = headSigns.map Char.ofNat := by rw [Abs.head, String.toList_ofList]
def headWords : List (List Nat) := [[99, 117, 116], [97, 116], [108, 111, 111, 112, 46, 101, 120, 97, 109, 112, 108, 101, 47, 103, 48, 51, 48, 49, 53, 47, 108, 97, 119, 115, 46, 70, 110, 69, 120, 97, 99, 116, 73, 115, 67, 111, 110, 100], [108, 111, 111, 112, 46, 101, 120, 97, 109, 112, 108, 101, 47, 103, 48, 51, 48, 49, 53, 47, 108, 97, 119, 115, 46, 70, 110, 69, 120, 97, 99, 116, 73, 115, 84, 101, 115, 116], [108, 111, 111, 112, 46, 101, 120, 97, 109, 112, 108, 101, 47, 103, 48, 51, 48, 49, 53, 47, 108, 97, 119, 115, 46, 70, 110, 69, 120, 97, 99, 116, 67, 111, 110, 100, 86, 97, 114, 115], [108, 111, 111, 112, 46, 101, 120, 97, 109, 112, 108, 101, 47, 103, 48, 51, 48, 49, 53, 47, 108, 97, 119, 115, 46, 70, 110, 69, 120, 97, 99, 116, 72, 111, 108, 100, 115, 84, 101, 115, 116], [108, 111, 111, 112, 46, 101, 120, 97, 109, 112, 108, 101, 47, 103, 48, 51, 48, 49, 53, 47, 108, 97, 119, 115, 46, 70, 110, 69, 120, 97, 99, 116, 77, 97, 116, 99, 104, 105, 110, 103, 70, 97, 99, 116, 115], [108, 111, 111, 112, 46, 101, 120, 97, 109, 112, 108, 101, 47, 103, 48, 51, 48, 49, 53, 47, 108, 97, 119, 115, 46, 70, 110, 69, 120, 97, 99, 116, 70, 111, 114, 109, 97, 116, 67, 111, 110, 100], [108, 111, 111, 112, 46, 101, 120, 97, 109, 112, 108, 101, 47, 103, 48, 51, 48, 49, 53, 47, 108, 97, 119, 115, 46, 70, 110, 69, 120, 97, 99, 116, 83, 97, 109, 101, 67, 111, 110, 100], [108, 111, 111, 112, 46, 101, 120, 97, 109, 112, 108, 101, 47, 103, 48, 51, 48, 49, 53, 47, 108, 97, 119, 115, 46, 70, 110, 69, 120, 97, 99, 116, 82, 101, 110, 97, 109, 101, 67, 111, 110, 100], [108, 111, 111, 112, 46, 101, 120, 97, 109, 112, 108, 101, 47, 103, 48, 51, 48, 49, 53, 47, 108, 97, 119, 115, 46, 70, 110, 84, 101, 115, 116, 115], [108, 111, 111, 112, 46, 101, 120, 97, 109, 112, 108, 101, 47, 103, 48, 51, 48, 49, 53, 47, 108, 97, 119, 115, 46, 70, 110, 69, 120, 97, 99, 116, 86, 97, 114, 115, 79, 102]]
theorem Abs.words : behindMainWord (wordsSigns (headSigns.map Char.ofNat)) = headWords.map fun w => w.map Char.ofNat := by kernel_rfl
theorem Abs.heads : behindMainWord (wordsSigns Try.prog.initOrder.toList) = headWords.map fun w => w.map Char.ofNat := by rw [Abs.signs, Abs.words]
theorem enters_gen (P : Program) (h : behindMainWord (wordsSigns P.initOrder.toList) = headWords.map fun w => w.map Char.ofNat) (h1 : P.laysLater = false) (h2 : P.bearsReflect = false) (h3 : P.doorFits [] = true) : P.mayEnter = true := by
  have h4 : stripLifts liftWords (headWords.map fun w => w.map Char.ofNat) = ([], headWords.map fun w => w.map Char.ofNat) := by kernel_rfl
  have h5 : (headWords.map fun w => w.map Char.ofNat) = (headWords.headD []).map Char.ofNat :: (headWords.tail.map fun w => w.map Char.ofNat) := rfl
  unfold Program.mayEnter
  rw [h, h1, h2, h5]
  simp only []
  rw [← h5, h4]
  simp only []
  rw [h3]
  rfl
theorem final_gen (P : Program) (h : behindMainWord (wordsSigns P.initOrder.toList) = headWords.map fun w => w.map Char.ofNat) : P.liftsFinal = false := by
  unfold Program.liftsFinal Program.headLifts
  rw [h]
  kernel_rfl
theorem made_gen (P : Program) (h : behindMainWord (wordsSigns P.initOrder.toList) = headWords.map fun w => w.map Char.ofNat) : P.make = some .cut := by
  unfold Program.make
  rw [h]
  rfl
theorem Abs.enters : Try.prog.mayEnter = true := enters_gen _ Abs.heads (by kernel_rfl) (by kernel_rfl) (by kernel_rfl)
theorem Abs.final : Try.prog.liftsFinal = false := final_gen _ Abs.heads
theorem Abs.made : Try.prog.make = some .cut := made_gen _ Abs.heads
theorem Abs.rowed : mapsRowed Try.prog = true := by kernel_rfl
theorem Abs.laidOut : laidOutB Try.prog = true := by kernel_rfl
/-- the closed facts of a row, without what is known already -/
def joinedLess (P : Program) (f : FuncId) (fn : Func) (s : ChangeSpec) (c : OpenClaim) (h1 : P.mayEnter = true) (h2 : P.liftsFinal = false) (h3 : P.make = some .cut) (h4 : mapsRowed P = true) (h5 : laidOutB P = true) : {b : Bool // joinedFacts P f fn s c = b} := by
  refine ⟨?b, ?h⟩
  case h =>
    unfold joinedFacts
    rw [h1, h2, h3, h4, h5]
theorem Abs.closed {f : FuncId} {fn : Func} {s : ChangeSpec} {c : OpenClaim} (h : (joinedLess Try.prog f fn s c Abs.enters Abs.final Abs.made Abs.rowed Abs.laidOut).1 = true) : joinedFacts Try.prog f fn s c = true :=
  (joinedLess Try.prog f fn s c Abs.enters Abs.final Abs.made Abs.rowed Abs.laidOut).2.trans h
end Go.Proofs.Ytfffboofmccfhaa
namespace Go.Proofs.Ytfffboofmccfhaa
namespace Abs
open Go.ChangeShapes Go.WideShapes Go.RowKit
def clF (P : Program) (g : TypeId → Option (List Cl)) : Nat → List Field → Option (List Cl)
  | _, [] => some []
  | off, f :: fs => match g f.type with
    | some cs => if f.offset = off ∧ cs.length = P.cellsOf f.type then
        (match clF P g (off + cs.length) fs with | some r => some (cs ++ r) | none => none) else none
    | none => none
def clOf (P : Program) : Nat → TypeId → Option (List Cl)
  | 0, _ => none
  | n + 1, t => match P.underlying t with
    | some .string => some [.str]
    | some .bool => some [.bool]
    | some (.int k) => some [.int k]
    | some (.slice e) => match clOf P n e with
      | some cs => if cs.length = P.cellsOf e ∧ 0 < P.cellsOf e then some [.sl e (P.cellsOf e) cs] else none
      | none => none
    | some (.struct fs) => match clF P (clOf P n) 0 fs.toList with
      | some cs => if cs.length = P.cellsOf t then some cs else none
      | none => none
    | _ => none
theorem Both.app {R : AV → Value → Prop} {xs ys : List AV} {us vs : List Value} (h : Both R xs us) (h' : Both R ys vs) : Both R (xs ++ ys) (us ++ vs) := by
  refine ⟨by simp [h.1, h'.1], fun i x v hx hv => ?_⟩
  rw [List.getElem?_append] at hx hv
  rw [h.1] at hx
  split at hx
  · rename_i hi; rw [if_pos hi] at hv; exact h.2 i x v hx hv
  · rename_i hi; rw [if_neg hi] at hv; exact h'.2 _ x v hx hv
/-- the cells of all blocks that are there -/
def allF (w : World) (b : Nat) : Nat := match w.heap[b]? with | some (.cells c _ _) => c.size | _ => 0
theorem allF_out (w : World) (b : Nat) (h : w.heap.size ≤ b) : allF w b = 0 := by
  unfold allF; rw [Array.getElem?_eq_none h]
section
variable {H : Type} {enc : TypeId × Value → H} {P : Program} {w : World} {base : Nat} {spare : Nat → Bool} {held : Bool}
def Opens (B : Nat) (w : World) (cls : List Cl) (cs : List Value) : Prop :=
  ∃ trs, FitsL cls trs ∧ Both (Rep B w (allF w) [] [] []) (oldL trs) cs ∧ ∀ v ∈ cs, v.oneCell' = true
theorem Opens.one {B : Nat} {cl : Cl} {v : Value} (x : Tr) (h : FitsL [cl] [x]) (hr : Rep B w (allF w) [] [] [] (old x) v) (h1 : v.oneCell' = true) : Opens B w [cl] [v] :=
  ⟨[x], h, Both.cons.2 ⟨hr, rfl, by simp [oldL]⟩, by simp [h1]⟩
theorem open_fields {fuel : Nat} {cs : List Value} (B : Nat) (g : TypeId → Option (List Cl))
    (ih : ∀ t cs x cls, g t = some cls → DataW.trod enc P w base spare held fuel t cs = some x → Opens B w cls cs) :
    ∀ (fs : List Field) (off : Nat) (cls : List Cl), clF P g off fs = some cls → (∀ f ∈ fs, ∃ x, DataW.trod enc P w base spare held fuel f.type ((cs.drop f.offset).take (P.cellsOf f.type)) = some x) →
      Opens B w cls ((cs.drop off).take cls.length)
  | [], off, cls, h, _ => by
    simp only [clF, Option.some.injEq] at h
    subst h
    exact ⟨[], .nil, by simp [Both, oldL], by simp⟩
  | f :: fs, off, cls, h, hx => by
    unfold clF at h
    cases hg : g f.type with
    | none => rw [hg] at h; cases h
    | some c =>
      rw [hg] at h
      simp only at h
      split at h
      · rename_i hc
        obtain ⟨rfl, hc⟩ := hc
        cases hr : clF P g (f.offset + c.length) fs with
        | none => rw [hr] at h; cases h
        | some r =>
          rw [hr] at h
          simp only [Option.some.injEq] at h
          subst h
          obtain ⟨x, hx1⟩ := hx f (by simp)
          obtain ⟨t1, f1, b1, o1⟩ := ih _ _ _ _ hg hx1
          obtain ⟨t2, f2, b2, o2⟩ := open_fields B g ih fs _ r hr (fun f' hf' => hx f' (by simp [hf']))
          have hsplit : (cs.drop f.offset).take (c ++ r).length = (cs.drop f.offset).take c.length ++ (cs.drop (f.offset + c.length)).take r.length := by
            rw [List.length_append, List.take_add, List.drop_drop]
          rw [hsplit, hc]
          rw [hc] at b2 o2
          refine ⟨t1 ++ t2, f1.append f2, ?_, fun v hv => ?_⟩
          · rw [oldL_eq, List.map_append, ← oldL_eq, ← oldL_eq]; exact b1.app b2
          · rcases List.mem_append.1 hv with h | h
            · exact o1 v h
            · exact o2 v h
      · cases h
theorem open_cells (B : Nat) : ∀ (n fuel : Nat) (t : TypeId) (cs : List Value) (x : DataW H × List MemPlace) (cls : List Cl), clOf P n t = some cls → DataW.trod enc P w base spare held fuel t cs = some x → Opens B w cls cs
  | 0, _, _, _, _, _, h, _ => by cases h
  | n + 1, fuel, t, cs, x, cls, h, hx => by
    unfold clOf at h
    cases ht : P.underlying t with
    | none => rw [ht] at h; cases h
    | some u =>
      rw [ht] at h
      cases u with
      | string =>
        simp only [Option.some.injEq] at h; subst h
        obtain ⟨s, rfl, _, hs⟩ := DataW.trod_string ht hx
        exact Opens.one (.s s.data.toList) (.str _ hs .nil) (rep_string s) rfl
      | bool =>
        simp only [Option.some.injEq] at h; subst h
        cases fuel with
        | zero => simp [DataW.trod] at hx
        | succ m =>
          unfold DataW.trod at hx
          rw [ht] at hx
          split at hx <;> simp_all
          exact Opens.one (.v (.bool _)) (.bool _ .nil) (.val _) rfl
      | int k =>
        simp only [Option.some.injEq] at h; subst h
        obtain ⟨m, rfl, _, hm⟩ := DataW.trod_int ht hx
        exact Opens.one (.v (.int k m)) (.int _ _ hm .nil) (.val _) rfl
      | slice e =>
        simp only at h
        cases hc : clOf P n e with
        | none => rw [hc] at h; cases h
        | some c =>
          rw [hc] at h
          simp only at h
          split at h
          · rename_i hsz
            obtain ⟨hsz, hpos⟩ := hsz
            simp only [Option.some.injEq] at h; subst h
            rcases Go.Deep.open_slice ht hx with ⟨rfl, _⟩ | ⟨a, len, cap, m, k, D, Pl, rfl, _, hl, hm, hmm, _, hel⟩
            · refine Opens.one (.l e (P.cellsOf e) []) (.sl _ _ _ [] (Nat.zero_le _) hsz (by simp) .nil) ?_ rfl
              exact .list none [] none 0 0 0 0 (fun _ _ => undef) (Nat.le_refl _) (fun h => absurd rfl h) (by simp) (fun h => absurd rfl h) (by simp) (by simp) (fun k hk => by cases hk)
            · have hlm : len ≤ m := by rw [hmm]; split <;> omega
              obtain ⟨T, hT⟩ := Go.Deep.choose_lt (α := List Value × List Tr) (n := len) (p := fun i q => w.cells? base (a.add (i * P.cellsOf e)) (P.cellsOf e) = some q.1 ∧ FitsL c q.2 ∧
                  Both (Rep B w (allF w) [] [] []) (oldL q.2) q.1 ∧ ∀ v ∈ q.1, v.oneCell' = true) (fun i hi => by
                obtain ⟨cs', h1, h2⟩ := hel i (by omega)
                obtain ⟨trs, h3, h4, h5⟩ := open_cells B n k e cs' _ c hc h2
                exact ⟨(cs', trs), h1, h3, h4, h5⟩)
              have hlen : ((List.range len).map fun i => (T i).2).length = len := by simp
              refine Opens.one (.l e (P.cellsOf e) ((List.range len).map fun i => (T i).2)) (.sl _ _ _ _ (by rw [hlen]; omega) hsz (fun x hx => ?_) .nil) ?_ rfl
              · obtain ⟨i, hi, rfl⟩ := List.mem_map.1 hx
                exact (hT i (List.mem_range.1 hi)).2.1
              · have hol : (oldLL ((List.range len).map fun i => (T i).2)).length = len := by rw [length_oldLL, hlen]
                have hget : ∀ i e', (oldLL ((List.range len).map fun i => (T i).2))[i]? = some e' → i < len ∧ e' = oldL (T i).2 := by
                  intro i e' he
                  have hi : i < len := by have := getElem?_lt he; omega
                  rw [oldLL_eq] at he
                  simp [hi] at he
                  exact ⟨hi, by rw [oldL_eq]; exact he.symm⟩
                have hlenT : ∀ i, i < len → (oldL (T i).2).length = P.cellsOf e := fun i hi => by rw [oldL_eq, List.length_map, (hT i hi).2.1.length, hsz]
                have hcell : ∀ i j, i < len → j < P.cellsOf e → w.cell? ⟨a.block, a.off + i * P.cellsOf e + j, none⟩ = (T i).1[j]? ∧ a.spot = none := by
                  intro i j hi hj
                  obtain ⟨_, hl', hc'⟩ := World.cells?_some (hT i hi).1
                  have h0 : a.spot = none := by
                    obtain ⟨_, hl0, hc0⟩ := World.cells?_some (hT 0 (by omega)).1
                    have := hc0 0 hpos
                    rw [List.getElem?_eq_getElem (by omega)] at this
                    simp only [Nat.zero_mul, Addr.add, if_true] at this
                    unfold World.cell? at this
                    cases hs : a.spot with
                    | none => rfl
                    | some _ => rw [hs] at this; split at this <;> simp at this
                  refine ⟨?_, h0⟩
                  rw [← hc' j hj, Go.Deep.add_add]
                  unfold Addr.add
                  split
                  · rename_i hz
                    rw [show a.off + i * P.cellsOf e + j = a.off by omega]
                    cases a; simp only at h0; subst h0; rfl
                  · rw [Nat.add_assoc]
                have hrep := Rep.list (B := B) (w := w) (F := allF w) (tok := []) (fr := []) (box := []) none (oldLL ((List.range len).map fun i => (T i).2)) (some a) cap (P.cellsOf e) a.block a.off
                  (fun i j => (T i).1.getD j undef) (by rw [hol]; exact hl)
                  (fun hne => by
                    have : 0 < len := by
                      rcases Nat.eq_zero_or_pos len with h0 | h0
                      · subst h0; exact absurd rfl hne
                      · exact h0
                    have := (hcell 0 0 this hpos).2
                    cases a; simp only at this; subst this; rfl)
                  (fun e' he' => by
                    obtain ⟨i, hi⟩ := List.getElem?_of_mem he'
                    obtain ⟨h1, h2⟩ := hget i e' hi
                    rw [h2]; exact hlenT i h1)
                  (fun hne => by
                    have h0 : 0 < len := by
                      rcases Nat.eq_zero_or_pos len with h0 | h0
                      · subst h0; exact absurd rfl hne
                      · exact h0
                    rw [hol]
                    have hc := (hcell (len - 1) (P.cellsOf e - 1) (by omega) (by omega)).1
                    have hl1 : (T (len - 1)).1.length = P.cellsOf e := (World.cells?_some (hT (len - 1) (by omega)).1).2.1
                    rw [List.getElem?_eq_getElem (by omega)] at hc
                    unfold World.cell? at hc
                    unfold allF
                    simp only at hc
                    split at hc
                    · simp only [Option.isSome_none, Bool.false_eq_true, if_false] at hc
                      have hlt := (Array.getElem?_eq_some_iff.1 hc).1
                      have hmul : (len - 1) * P.cellsOf e + P.cellsOf e = len * P.cellsOf e := by
                        obtain ⟨q, rfl⟩ : ∃ q, len = q + 1 := ⟨len - 1, by omega⟩
                        rw [Nat.add_sub_cancel, Nat.add_mul]; omega
                      rename_i he
                      rw [he]
                      simp only
                      omega
                    · cases hc)
                  (fun i e' j c' hi hj => by
                    obtain ⟨h1, rfl⟩ := hget i e' hi
                    have hj' := getElem?_lt hj
                    rw [hlenT i h1] at hj'
                    have hl1 : (T i).1.length = P.cellsOf e := (World.cells?_some (hT i h1).1).2.1
                    have hg : (T i).1[j]? = some ((T i).1.getD j undef) := by simp [List.getD, hl1, hj']
                    exact ⟨by rw [(hcell i j h1 hj').1, hg], (hT i h1).2.2.2 _ (List.mem_of_getElem? hg)⟩)
                  (fun i e' j c' hi hj => by
                    obtain ⟨h1, rfl⟩ := hget i e' hi
                    have hj' := getElem?_lt hj
                    rw [hlenT i h1] at hj'
                    have hl1 : (T i).1.length = P.cellsOf e := (World.cells?_some (hT i h1).1).2.1
                    have hg : (T i).1[j]? = some ((T i).1.getD j undef) := by simp [List.getD, hl1, hj']
                    exact (hT i h1).2.2.1.2 j c' _ hj hg)
                  (fun k hk => by cases hk)
                rw [hol] at hrep
                exact hrep
          · cases h
      | struct fs =>
        simp only at h
        cases hc : clF P (clOf P n) 0 fs.toList with
        | none => rw [hc] at h; cases h
        | some c =>
          rw [hc] at h
          simp only at h
          split at h
          · rename_i hsz
            simp only [Option.some.injEq] at h; subst h
            obtain ⟨xs, m, rfl, _, hl, hfl, hel⟩ := DataW.trod_struct ht hx
            have := open_fields (fuel := m) (cs := cs) B (clOf P n) (fun t cs x cls h1 h2 => open_cells B n m t cs x cls h1 h2) fs.toList 0 c hc (fun f hf => by
              obtain ⟨i, hi⟩ := List.getElem?_of_mem hf
              have hi' : fs[i]? = some f := by simpa using hi
              have := hel i f hi'
              have hlt : i < xs.length := by have := getElem?_lt hi; simp at this; omega
              exact ⟨_, by rw [this, List.getElem?_eq_getElem hlt]⟩)
            rw [List.drop_zero, hsz, ← hl, List.take_length] at this
            exact this
          · cases h
      | _ => simp only at h; cases h
/-- an argument that is no struct -/
theorem open_arg {t : TypeId} {v : Value} {d : DataW H} {ps : List MemPlace} {r : Reach} {b0 : Nat} (B n : Nat) {cl : Cl} (hc : clOf P n t = some [cl]) (hs : ∀ fs, P.underlying t ≠ some (.struct fs)) (hval : Value.okWide P w r b0 t v)
    (h : DataW.Trod enc P w base spare held t v d ps) : ∃ x, FitsL [cl] [x] ∧ Rep B w (allF w) [] [] [] (old x) v := by
  obtain ⟨fuel, h⟩ := h
  obtain ⟨trs, h1, h2, h3⟩ := open_cells B n fuel t _ _ _ hc h
  have hv : v.cells.toList = [v] := by
    cases v with
    | agg cs =>
      exfalso
      unfold Value.okWide at hval
      cases n with
      | zero => cases hc
      | succ n =>
        unfold clOf at hc
        cases hu : P.underlying t with
        | none => rw [hu] at hc; cases hc
        | some u =>
          rw [hu] at hc hval hs
          cases u <;> first | cases hc; done | exact absurd rfl (hs _) | (simp only [Cell.okWide, hu, Cell.ok] at hval)
    | _ => rfl
  rw [hv] at h2
  cases trs with
  | nil => exact absurd h1.length (by simp)
  | cons x xs =>
    cases xs with
    | cons _ _ => exact absurd h1.length (by simp)
    | nil => exact ⟨x, h1, (Both.cons.1 h2).1⟩
/-- an argument that is a struct -/
theorem open_argS {t : TypeId} {v : Value} {d : DataW H} {ps : List MemPlace} {r : Reach} {b0 : Nat} (B n : Nat) {cls : List Cl} (hc : clOf P n t = some cls) {fs : Array Field} (hs : P.underlying t = some (.struct fs)) (hval : Value.okWide P w r b0 t v)
    (h : DataW.Trod enc P w base spare held t v d ps) : ∃ xs, FitsL cls xs ∧ Rep B w (allF w) [] [] [] (old (.a xs)) v := by
  obtain ⟨fuel, h⟩ := h
  obtain ⟨trs, h1, h2, h3⟩ := open_cells B n fuel t _ _ _ hc h
  unfold Value.okWide at hval
  rw [hs] at hval
  obtain ⟨cs, rfl, _, _⟩ := hval
  refine ⟨trs, h1, ?_⟩
  have hg : ∀ i, i < cs.size → cs.toList[i]? = some (cs.getD i undef) := fun i hi => by simp [Array.getD, hi]
  have hl : (oldL trs).length = cs.size := by have := h2.1; simpa [Value.cells] using this
  exact .agg _ _ hl (fun i hi => h3 _ (List.mem_of_getElem? (hg i hi))) (fun i c hc => h2.2 i c _ hc (hg i (by have := getElem?_lt hc; omega)))
end
end Abs
end Go.Proofs.Ytfffboofmccfhaa
namespace Go.Proofs.Ytfffboofmccfhaa
namespace Abs
variable {mo : Bool}
open Go.ChangeShapes Go.WideShapes Go.ChangeAt Go.RowKit
section
variable {H : Type} {enc : TypeId × Value → H} {P : Program}
theorem trodAll_stays {base : Nat} (hl : laidOutB P = true) {W W' : World} {sp' : Nat → Bool} : ∀ {ts : List TypeId} {vs : List Value} {ds : List (DataW H)} {ps : List MemPlace},
    (∀ t ∈ ts, P.readableRec t = true ∧ t < P.types.size) → DataW.TrodAll enc P W base (fun _ => true) true ts vs ds ps → (∀ p ∈ ps, W.sameAt W' p) → (∀ p ∈ ps, sp' p.block = true) →
    DataW.TrodAll enc P W' base sp' true ts vs ds ps
  | [], [], [], _, _, h, _, _ => h
  | t :: ts, v :: vs, d :: ds, _, ht, h, hs, hp => by
    obtain ⟨p, q, h1, h2, rfl⟩ := h
    exact ⟨p, q, WideElems.Trod_stays hl (ht t (by simp)).1 (ht t (by simp)).2 h1 (fun x hx => hs x (by simp [hx])) (fun x hx => hp x (by simp [hx])),
      trodAll_stays hl (fun t h => ht t (by simp [h])) h2 (fun x hx => hs x (by simp [hx])) (fun x hx => hp x (by simp [hx])), rfl⟩
/-- a law that says yes, and leaves what was there alone -/
theorem law_post {f : Func} {s : ChangeSpec} {apart fresh handsOn again : Bool} {W W' : World} {args : Array Value} {ds gs : List (DataW H)} {before : List MemPlace} {tb : TypeId}
    (hl : laidOutB P = true) (hv : s.vars = []) (hp : ∀ t ∈ f.params.toList, P.readableRec t = true ∧ t < P.types.size) (hr : f.resultTypes = #[tb]) (htb : P.underlying tb = some .bool)
    (hW : DataW.Whole enc P f.params.toList s.vars apart W args.toList ds gs before) (hb : Bel mo W.heap.size W W')
    (hfn : s.fn H (ds ++ gs) = { results := [.lit (.bool true)], args := ds }) : s.post enc P f apart fresh handsOn again W args (.bool true) W' := by
  have hlt : ∀ p ∈ before, p.block < W.heap.size := fun p hp => hW.lt p hp
  have hW' := hW
  obtain ⟨p, q, hA, hV, hpq, hz, hn⟩ := hW
  rw [hv] at hV
  obtain ⟨hg, hq⟩ : gs = [] ∧ q = [] := trodVars_none hV
  subst hg; subst hq
  simp only [List.append_nil] at hpq hfn hz hn
  subst hpq
  have hargs : ∀ sp : Nat → Bool, (∀ x ∈ before, sp x.block = true) → DataW.TrodAll enc P W' 0 sp true f.params.toList args.toList ds before :=
    fun sp hsp => trodAll_stays hl hp hA (fun x hx => hb.same (hlt x hx)) hsp
  have hres : ∀ (b : Nat) (sp : Nat → Bool) (hd : Bool), DataW.TrodAll enc P W' b sp hd f.resultTypes.toList ((Value.bool true).resultList f.resultTypes.size) [.lit (.bool true)] [] := fun b sp hd => by
    rw [hr]
    exact trodAll_mk1 (shut_bool htb true)
  have hvars : ∀ sp : Nat → Bool, DataW.TrodVars enc P W' sp s.vars [] [] := fun sp => by rw [hv]; rfl
  have hfn' : s.fn H (ds ++ []) = { results := [.lit (.bool true)], args := ds } := by rw [List.append_nil]; exact hfn
  refine ⟨ds, [], before, [], before, [], hW', by rw [hfn']; exact hres _ _ _, by rw [hfn']; exact hargs _ (fun x hx => by simpa using hlt x hx), by rw [hfn']; exact hvars _, hb.frame _, fun _ => ?_⟩
  refine ⟨ok_one hr rfl (okWide_bool_mk htb true), _, _, ([] ++ before) ++ [], ⟨[] ++ before, [], trodAll_append (hargs _ (fun _ _ => rfl)) (hres _ _ _), hvars _, rfl, ?_, ?_⟩, ?_⟩
  · intro b off hp'
    have hm : MemPlace.cell b off ∈ before := by simpa using hp'
    rw [hb.frozen (hlt _ hm)]
    exact hz b off hm
  · intro ha
    simpa using hn ha
  · intro x hx _
    simpa using hx
end
/-- the call's own result -/
theorem law_ret {P : Program} {fid : Nat} {avs : List AV} {args : Array Value} {W : World} (h : Ret mo P fid avs (.val (.bool true)) []) (hB : Both (Rep W.heap.size W (allF W) [] [] []) avs args.toList) :
    Calls P fid args W fun e w' => e = .returned (.bool true) ∧ Bel mo W.heap.size W w' := by
  rw [Ret_eq] at h
  obtain ⟨_, hR⟩ := h
  refine (hR W (allF W) args (fun b hb => allF_out W b hb) hB).mono ?_
  rintro e W' ⟨v, F', tok, box, rfl, hb, _, _, _, _, _, hrep⟩
  cases hrep
  exact ⟨rfl, hb⟩
theorem both_nil {R : AV → Value → Prop} : Both R [] [] := ⟨rfl, by simp⟩
end Abs
theorem Abs.own : ownKnob Try.prog.godebug = none := by kernel_rfl
end Go.Proofs.Ytfffboofmccfhaa
