/-
  Chapter 2: the order and the equality of facts, sets of facts.
-/
import Derived.Test.YtamcaplpgmloiaaC11
namespace Go.Proofs.Ytamcaplpgmloiaa
open Abs

theorem slCompareFunc.ret (l m : List Str) (h : tStrs.size l ≤ 1048576) (h' : tStrs.size m ≤ 1048576) :
    slCompareFunc.Ret [.list none (strs l), .list none (strs m), .clo 77 [] []] (.val (.int .i64 (cmpArgs l m))) [] := by
  refine slCompareFunc.of rfl ?_
  rw [tStrs_size] at h h'
  repeat' first
    | contradiction
    | (conv => whnf
       first
         | refine Need.mk (fun h => h) ?_
         | refine Need.mk rfl ?_
         | refine Need.mk ⟨rfl, Nat.le_of_ble_eq_true rfl⟩ ?_
         | refine Need.mk (Nat.le_of_ble_eq_true rfl) ?_
         | refine Need.mk (by intros; (try simp only [length_strs] at *); (try simp only [length_rows] at *); (try simp only [length_oldLL, List.length_map] at *); (try simp only [Bool.and_eq_true, decide_eq_true_eq] at *); omega) ?_
         | refine Need.mk ?_ ?_
         | refine Ix.strs rfl (by intros; (try simp only [length_strs] at *); (try simp only [length_rows] at *); (try simp only [length_oldLL, List.length_map] at *); (try simp only [Bool.and_eq_true, decide_eq_true_eq] at *); omega) ?_
         | refine Ix.strs rfl ?_ ?_
         | refine Cut.strs rfl ?_ ?_
         | refine Ix.map (fun _ => rfl) (by intros; (try simp only [length_strs] at *); (try simp only [length_rows] at *); (try simp only [length_oldLL, List.length_map] at *); (try simp only [Bool.and_eq_true, decide_eq_true_eq] at *); omega) ?_
         | refine Ix.map (fun _ => rfl) ?_ ?_
         | refine Cut.map (fun _ => rfl) ?_ ?_
         | refine Fork.yes (by assumption) ?_
         | refine Fork.no (by assumption) ?_
         | refine Fork.decYes (by omega) ?_
         | refine Fork.decNo (by omega) ?_
         | refine Fork.dec (fun _ => ?_) (fun _ => ?_)
         | refine Fork.bne (fun _ => ?_) (fun _ => ?_)
         | refine Fork.beq (fun _ => ?_) (fun _ => ?_)
         | refine Fork.seq (fun _ => ?_) (fun _ => ?_)
         | refine Fork.sne (fun _ => ?_) (fun _ => ?_)
         | refine Fork.neg (fun _ => ?_) (fun _ => ?_)
         | refine Fork.mk (fun _ => ?_) (fun _ => ?_)
         | refine Round.mk ?_
         | refine NilQ.mk (fun b hb => ?_)
         | refine forceK_of ?_
         | refine forceBx_of ?_
         | refine unG_old ?_
         | refine unG_gv ?_
         | refine Lit.read rfl ?_
         | refine FinVal.keep ?_
         | refine FinAgg.keep ?_
         | refine Final.mk rfl rfl
         | refine Final.mk ?_ rfl
         | refine Final.mk ?_ ?_
         | refine FinalT.mk ?_ ?_)
    | refine AV.bool_congr ?_
    | refine AV.int_congr ?_
    | refine AV.str_congr ?_
    | refine AV.list_congr ?_
    | with_reducible rfl
    | refine fr1 ?_
    | refine fr2 ?_ ?_
  refine ALoop.mk Nat (fun i => ⟨[(0, .list none (strs l)), (1, .list none (strs m)), (2, .clo 77 [] []), (11, .list none (strs l)), (12, .val (.int .i64 l.length)), (13, .val (.int .i64 i))], [], []⟩) (fun i => i ≤ l.length ∧ i ≤ m.length ∧ cmpArgs (l.drop i) (m.drop i) = cmpArgs l m) (fun i => l.length - i) ⟨0, ⟨Nat.zero_le _, Nat.zero_le _, rfl⟩, ?_⟩ (fun i hi => ?_)
  · repeat' first
      | exact trivial
      | refine Weak.mk ?_ ?_ ?_ ?_ (Or.inl (Nat.le_of_ble_eq_true rfl))
      | refine Weak.mk ?_ ?_ ?_ ?_ (Or.inr ⟨(by repeat' first | exact trivial | exact Nat.le_of_ble_eq_true rfl | refine And.intro ?_ ?_), (by repeat' first | exact trivial | exact Nat.le_of_ble_eq_true rfl | refine And.intro ?_ ?_)⟩)
      | refine Weak.mk ?_ ?_ ?_ ?_ ?_
      | refine And.intro ?_ ?_
      | with_reducible rfl
      | exact Nat.le_of_ble_eq_true rfl
      | refine fr1 ?_
      | refine fr2 ?_ ?_
      | refine AV.int_congr ?_
      | refine AV.bool_congr ?_
      | refine AV.str_congr ?_
      | refine AV.list_congr ?_
      | refine AV.bsl_congr ?_ ?_
      | (apply rfl)
    simp
  obtain ⟨hi1, hi2, hi3⟩ := hi
  repeat' first
    | contradiction
    | (conv => whnf
       first
         | refine Need.mk (fun h => h) ?_
         | refine Need.mk rfl ?_
         | refine Need.mk ⟨rfl, Nat.le_of_ble_eq_true rfl⟩ ?_
         | refine Need.mk (Nat.le_of_ble_eq_true rfl) ?_
         | refine Need.mk (by intros; (try simp only [length_strs] at *); (try simp only [length_rows] at *); (try simp only [length_oldLL, List.length_map] at *); (try simp only [Bool.and_eq_true, decide_eq_true_eq] at *); omega) ?_
         | refine Need.mk ?_ ?_
         | refine Ix.strs rfl (by intros; (try simp only [length_strs] at *); (try simp only [length_rows] at *); (try simp only [length_oldLL, List.length_map] at *); (try simp only [Bool.and_eq_true, decide_eq_true_eq] at *); omega) ?_
         | refine Ix.strs rfl ?_ ?_
         | refine Cut.strs rfl ?_ ?_
         | refine Ix.map (fun _ => rfl) (by intros; (try simp only [length_strs] at *); (try simp only [length_rows] at *); (try simp only [length_oldLL, List.length_map] at *); (try simp only [Bool.and_eq_true, decide_eq_true_eq] at *); omega) ?_
         | refine Ix.map (fun _ => rfl) ?_ ?_
         | refine Cut.map (fun _ => rfl) ?_ ?_
         | refine Fork.yes (by assumption) ?_
         | refine Fork.no (by assumption) ?_
         | refine Fork.decYes (by omega) ?_
         | refine Fork.decNo (by omega) ?_
         | refine Fork.dec (fun _ => ?_) (fun _ => ?_)
         | refine Fork.bne (fun _ => ?_) (fun _ => ?_)
         | refine Fork.beq (fun _ => ?_) (fun _ => ?_)
         | refine Fork.seq (fun _ => ?_) (fun _ => ?_)
         | refine Fork.sne (fun _ => ?_) (fun _ => ?_)
         | refine Fork.neg (fun _ => ?_) (fun _ => ?_)
         | refine Fork.mk (fun _ => ?_) (fun _ => ?_)
         | refine Round.mk ?_
         | refine NilQ.mk (fun b hb => ?_)
         | refine forceK_of ?_
         | refine forceBx_of ?_
         | refine unG_old ?_
         | refine unG_gv ?_
         | refine Lit.read rfl ?_
         | refine FinVal.keep ?_
         | refine FinAgg.keep ?_
         | refine Final.mk rfl rfl
         | refine Final.mk ?_ rfl
         | refine Final.mk ?_ ?_
         | refine FinalT.mk ?_ ?_
         | refine ACall.scal _ _ (pCompareAtoms.ret _ _ ?_ ?_) rfl (by repeat' first | exact SeesL.nil | refine SeesL.cons ?_ ?_ | exact SeesB.of0 (Sees0.val _) | exact SeesB.of0 (Sees0.str _) | exact SeesB.of0 (Sees0.olds _ _) | exact SeesB.of0 (Sees0.old _) | exact SeesB.of0 (Sees0.oldagg _) | exact SeesB.of0 Sees0.nil | exact Sees0.val _ | exact Sees0.str _ | exact Sees0.olds _ _ | exact Sees0.old _ | exact Sees0.oldagg _ | exact Sees0.nil | exact SeesB.of0 (Sees0.any _) | assumption | exact sees_gv _ _ _ (by assumption) (by first | assumption | exact BoxIn.last _ _ | exact BoxIn.more (BoxIn.last _ _) _) | refine SeesB.agg ?_ | refine Sees0.agg ?_ | exact SeesB.of0 (Sees0.clo SeesL.nil SeesL.nil) | exact Sees0.clo SeesL.nil SeesL.nil) ?_
         | refine AQCall.mk _ _ (fun hg => pCompareAtoms.ret _ _ ?_ ?_) rfl (fun _ => (by repeat' first | exact SeesL.nil | refine SeesL.cons ?_ ?_ | exact SeesB.of0 (Sees0.val _) | exact SeesB.of0 (Sees0.str _) | exact SeesB.of0 (Sees0.olds _ _) | exact SeesB.of0 (Sees0.old _) | exact SeesB.of0 (Sees0.oldagg _) | exact SeesB.of0 Sees0.nil | exact Sees0.val _ | exact Sees0.str _ | exact Sees0.olds _ _ | exact Sees0.old _ | exact Sees0.oldagg _ | exact Sees0.nil | exact SeesB.of0 (Sees0.any _) | assumption | exact sees_gv _ _ _ (by assumption) (by first | assumption | exact BoxIn.last _ _ | exact BoxIn.more (BoxIn.last _ _) _) | refine SeesB.agg ?_ | refine Sees0.agg ?_ | exact SeesB.of0 (Sees0.clo SeesL.nil SeesL.nil) | exact Sees0.clo SeesL.nil SeesL.nil)) ?_)
    | refine AV.bool_congr ?_
    | refine AV.int_congr ?_
    | refine AV.str_congr ?_
    | refine AV.list_congr ?_
    | with_reducible rfl
    | refine fr1 ?_
    | refine fr2 ?_ ?_
  all_goals try simp only [length_rows, length_strs, length_oldLL, List.length_map, Int.toNat_natCast] at *
  · rw [← hi3, cmpArgs_end (by rw [List.drop_eq_nil_iff, List.drop_eq_nil_iff]; omega)]
    simp only [List.length_drop]
    (repeat' split) <;> omega
  · have := str_le (l := l) (i := i) (by omega); omega
  · have := str_le (l := m) (i := i) (by omega); omega
  · rename_i h1 h2 h3
    rw [← hi3, cmpArgs_drop (by omega) (by omega), if_pos h2]
  · rename_i h1 h2 h3
    refine ⟨i + 1, ⟨by omega, by omega, ?_⟩, ?_, by omega⟩
    · rw [cmpArgs_drop (by omega) (by omega), if_neg (by simpa using h2)] at hi3; exact hi3
    · repeat' first
        | exact trivial
        | refine Weak.mk ?_ ?_ ?_ ?_ (Or.inl (Nat.le_of_ble_eq_true rfl))
        | refine Weak.mk ?_ ?_ ?_ ?_ (Or.inr ⟨(by repeat' first | exact trivial | exact Nat.le_of_ble_eq_true rfl | refine And.intro ?_ ?_), (by repeat' first | exact trivial | exact Nat.le_of_ble_eq_true rfl | refine And.intro ?_ ?_)⟩)
        | refine Weak.mk ?_ ?_ ?_ ?_ ?_
        | refine And.intro ?_ ?_
        | with_reducible rfl
        | exact Nat.le_of_ble_eq_true rfl
        | refine fr1 ?_
        | refine fr2 ?_ ?_
        | refine AV.int_congr ?_
        | refine AV.bool_congr ?_
        | refine AV.str_congr ?_
        | refine AV.list_congr ?_
        | refine AV.bsl_congr ?_ ?_
        | (apply rfl)
      rw [wrap64 (by omega) (by omega)]; rfl
  all_goals rename_i h1 h2
  all_goals rw [← hi3, cmpArgs_end (by rw [List.drop_eq_nil_iff, List.drop_eq_nil_iff]; omega)]
  all_goals simp only [List.length_drop]
  all_goals ((repeat' split) <;> omega)
theorem pCompareFacts.ret (f g : Fct) (h : tFct.size f ≤ 1048576) (h' : tFct.size g ≤ 1048576) : pCompareFacts.Ret [.agg (oldL (tFct.q f)), .agg (oldL (tFct.q g))] (.val (.int .i64 (cmpF f g))) [] := by
  refine pCompareFacts.of rfl ?_
  rw [tFct_size] at h h'
  repeat' first
    | contradiction
    | (conv => whnf
       first
         | refine Need.mk (fun h => h) ?_
         | refine Need.mk rfl ?_
         | refine Need.mk ⟨rfl, Nat.le_of_ble_eq_true rfl⟩ ?_
         | refine Need.mk (Nat.le_of_ble_eq_true rfl) ?_
         | refine Need.mk (by intros; (try simp only [length_strs] at *); (try simp only [length_rows] at *); (try simp only [length_oldLL, List.length_map] at *); (try simp only [Bool.and_eq_true, decide_eq_true_eq] at *); omega) ?_
         | refine Need.mk ?_ ?_
         | refine Ix.strs rfl (by intros; (try simp only [length_strs] at *); (try simp only [length_rows] at *); (try simp only [length_oldLL, List.length_map] at *); (try simp only [Bool.and_eq_true, decide_eq_true_eq] at *); omega) ?_
         | refine Ix.strs rfl ?_ ?_
         | refine Cut.strs rfl ?_ ?_
         | refine Ix.map (fun _ => rfl) (by intros; (try simp only [length_strs] at *); (try simp only [length_rows] at *); (try simp only [length_oldLL, List.length_map] at *); (try simp only [Bool.and_eq_true, decide_eq_true_eq] at *); omega) ?_
         | refine Ix.map (fun _ => rfl) ?_ ?_
         | refine Cut.map (fun _ => rfl) ?_ ?_
         | refine Fork.yes (by assumption) ?_
         | refine Fork.no (by assumption) ?_
         | refine Fork.decYes (by omega) ?_
         | refine Fork.decNo (by omega) ?_
         | refine Fork.dec (fun _ => ?_) (fun _ => ?_)
         | refine Fork.bne (fun _ => ?_) (fun _ => ?_)
         | refine Fork.beq (fun _ => ?_) (fun _ => ?_)
         | refine Fork.seq (fun _ => ?_) (fun _ => ?_)
         | refine Fork.sne (fun _ => ?_) (fun _ => ?_)
         | refine Fork.neg (fun _ => ?_) (fun _ => ?_)
         | refine Fork.mk (fun _ => ?_) (fun _ => ?_)
         | refine Round.mk ?_
         | refine NilQ.mk (fun b hb => ?_)
         | refine forceK_of ?_
         | refine forceBx_of ?_
         | refine unG_old ?_
         | refine unG_gv ?_
         | refine Lit.read rfl ?_
         | refine FinVal.keep ?_
         | refine FinAgg.keep ?_
         | refine Final.mk rfl rfl
         | refine Final.mk ?_ rfl
         | refine Final.mk ?_ ?_
         | refine FinalT.mk ?_ ?_
         | refine ACall.scal _ _ (cmpString.ret _ _) rfl (by repeat' first | exact SeesL.nil | refine SeesL.cons ?_ ?_ | exact SeesB.of0 (Sees0.val _) | exact SeesB.of0 (Sees0.str _) | exact SeesB.of0 (Sees0.olds _ _) | exact SeesB.of0 (Sees0.old _) | exact SeesB.of0 (Sees0.oldagg _) | exact SeesB.of0 Sees0.nil | exact Sees0.val _ | exact Sees0.str _ | exact Sees0.olds _ _ | exact Sees0.old _ | exact Sees0.oldagg _ | exact Sees0.nil | exact SeesB.of0 (Sees0.any _) | assumption | exact sees_gv _ _ _ (by assumption) (by first | assumption | exact BoxIn.last _ _ | exact BoxIn.more (BoxIn.last _ _) _) | refine SeesB.agg ?_ | refine Sees0.agg ?_ | exact SeesB.of0 (Sees0.clo SeesL.nil SeesL.nil) | exact Sees0.clo SeesL.nil SeesL.nil) ?_
         | refine AQCall.mk _ _ (fun hg => cmpString.ret _ _) rfl (fun _ => (by repeat' first | exact SeesL.nil | refine SeesL.cons ?_ ?_ | exact SeesB.of0 (Sees0.val _) | exact SeesB.of0 (Sees0.str _) | exact SeesB.of0 (Sees0.olds _ _) | exact SeesB.of0 (Sees0.old _) | exact SeesB.of0 (Sees0.oldagg _) | exact SeesB.of0 Sees0.nil | exact Sees0.val _ | exact Sees0.str _ | exact Sees0.olds _ _ | exact Sees0.old _ | exact Sees0.oldagg _ | exact Sees0.nil | exact SeesB.of0 (Sees0.any _) | assumption | exact sees_gv _ _ _ (by assumption) (by first | assumption | exact BoxIn.last _ _ | exact BoxIn.more (BoxIn.last _ _) _) | refine SeesB.agg ?_ | refine Sees0.agg ?_ | exact SeesB.of0 (Sees0.clo SeesL.nil SeesL.nil) | exact Sees0.clo SeesL.nil SeesL.nil)) ?_
         | refine ACall.scal _ _ (slCompareFunc.ret _ _ ?_ ?_) rfl (by repeat' first | exact SeesL.nil | refine SeesL.cons ?_ ?_ | exact SeesB.of0 (Sees0.val _) | exact SeesB.of0 (Sees0.str _) | exact SeesB.of0 (Sees0.olds _ _) | exact SeesB.of0 (Sees0.old _) | exact SeesB.of0 (Sees0.oldagg _) | exact SeesB.of0 Sees0.nil | exact Sees0.val _ | exact Sees0.str _ | exact Sees0.olds _ _ | exact Sees0.old _ | exact Sees0.oldagg _ | exact Sees0.nil | exact SeesB.of0 (Sees0.any _) | assumption | exact sees_gv _ _ _ (by assumption) (by first | assumption | exact BoxIn.last _ _ | exact BoxIn.more (BoxIn.last _ _) _) | refine SeesB.agg ?_ | refine Sees0.agg ?_ | exact SeesB.of0 (Sees0.clo SeesL.nil SeesL.nil) | exact Sees0.clo SeesL.nil SeesL.nil) ?_
         | refine AQCall.mk _ _ (fun hg => slCompareFunc.ret _ _ ?_ ?_) rfl (fun _ => (by repeat' first | exact SeesL.nil | refine SeesL.cons ?_ ?_ | exact SeesB.of0 (Sees0.val _) | exact SeesB.of0 (Sees0.str _) | exact SeesB.of0 (Sees0.olds _ _) | exact SeesB.of0 (Sees0.old _) | exact SeesB.of0 (Sees0.oldagg _) | exact SeesB.of0 Sees0.nil | exact Sees0.val _ | exact Sees0.str _ | exact Sees0.olds _ _ | exact Sees0.old _ | exact Sees0.oldagg _ | exact Sees0.nil | exact SeesB.of0 (Sees0.any _) | assumption | exact sees_gv _ _ _ (by assumption) (by first | assumption | exact BoxIn.last _ _ | exact BoxIn.more (BoxIn.last _ _) _) | refine SeesB.agg ?_ | refine Sees0.agg ?_ | exact SeesB.of0 (Sees0.clo SeesL.nil SeesL.nil) | exact Sees0.clo SeesL.nil SeesL.nil)) ?_)
    | refine AV.bool_congr ?_
    | refine AV.int_congr ?_
    | refine AV.str_congr ?_
    | refine AV.list_congr ?_
    | with_reducible rfl
    | refine fr1 ?_
    | refine fr2 ?_ ?_
  · rename_i h1
    unfold cmpF; rw [if_neg (fun e => h1 (scmp_zero.2 e))]
  · omega
  · omega
  · rename_i h1
    unfold cmpF; rw [if_pos (scmp_zero.1 (by simpa using h1))]
theorem slEqual.ret (l m : List Str) (hl : l.length ≤ 1099511627776) : slEqual.Ret [.list none (strs l), .list none (strs m)] (.val (.bool (decide (l = m)))) [] := by
  refine slEqual.of rfl ?_
  repeat' first
    | contradiction
    | (conv => whnf
       first
         | refine Need.mk (fun h => h) ?_
         | refine Need.mk rfl ?_
         | refine Need.mk ⟨rfl, Nat.le_of_ble_eq_true rfl⟩ ?_
         | refine Need.mk (Nat.le_of_ble_eq_true rfl) ?_
         | refine Need.mk (by intros; (try simp only [length_strs] at *); (try simp only [length_rows] at *); (try simp only [length_oldLL, List.length_map] at *); (try simp only [Bool.and_eq_true, decide_eq_true_eq] at *); omega) ?_
         | refine Need.mk ?_ ?_
         | refine Ix.strs rfl (by intros; (try simp only [length_strs] at *); (try simp only [length_rows] at *); (try simp only [length_oldLL, List.length_map] at *); (try simp only [Bool.and_eq_true, decide_eq_true_eq] at *); omega) ?_
         | refine Ix.strs rfl ?_ ?_
         | refine Cut.strs rfl ?_ ?_
         | refine Ix.map (fun _ => rfl) (by intros; (try simp only [length_strs] at *); (try simp only [length_rows] at *); (try simp only [length_oldLL, List.length_map] at *); (try simp only [Bool.and_eq_true, decide_eq_true_eq] at *); omega) ?_
         | refine Ix.map (fun _ => rfl) ?_ ?_
         | refine Cut.map (fun _ => rfl) ?_ ?_
         | refine Fork.yes (by assumption) ?_
         | refine Fork.no (by assumption) ?_
         | refine Fork.decYes (by omega) ?_
         | refine Fork.decNo (by omega) ?_
         | refine Fork.dec (fun _ => ?_) (fun _ => ?_)
         | refine Fork.bne (fun _ => ?_) (fun _ => ?_)
         | refine Fork.beq (fun _ => ?_) (fun _ => ?_)
         | refine Fork.seq (fun _ => ?_) (fun _ => ?_)
         | refine Fork.sne (fun _ => ?_) (fun _ => ?_)
         | refine Fork.neg (fun _ => ?_) (fun _ => ?_)
         | refine Fork.mk (fun _ => ?_) (fun _ => ?_)
         | refine Round.mk ?_
         | refine NilQ.mk (fun b hb => ?_)
         | refine forceK_of ?_
         | refine forceBx_of ?_
         | refine unG_old ?_
         | refine unG_gv ?_
         | refine Lit.read rfl ?_
         | refine FinVal.keep ?_
         | refine FinAgg.keep ?_
         | refine Final.mk rfl rfl
         | refine Final.mk ?_ rfl
         | refine Final.mk ?_ ?_
         | refine FinalT.mk ?_ ?_)
    | refine AV.bool_congr ?_
    | refine AV.int_congr ?_
    | refine AV.str_congr ?_
    | refine AV.list_congr ?_
    | with_reducible rfl
    | refine fr1 ?_
    | refine fr2 ?_ ?_
  · rename_i h
    rw [length_strs, length_strs] at h
    have h3 : ¬ l = m := fun e => h (by rw [e])
    simp [h3]
  rename_i h
  rw [length_strs, length_strs] at h
  have h : l.length = m.length := by omega
  repeat' first
    | contradiction
    | (conv => whnf
       first
         | refine Need.mk (fun h => h) ?_
         | refine Need.mk rfl ?_
         | refine Need.mk ⟨rfl, Nat.le_of_ble_eq_true rfl⟩ ?_
         | refine Need.mk (Nat.le_of_ble_eq_true rfl) ?_
         | refine Need.mk (by intros; (try simp only [length_strs] at *); (try simp only [length_rows] at *); (try simp only [length_oldLL, List.length_map] at *); (try simp only [Bool.and_eq_true, decide_eq_true_eq] at *); omega) ?_
         | refine Need.mk ?_ ?_
         | refine Ix.strs rfl (by intros; (try simp only [length_strs] at *); (try simp only [length_rows] at *); (try simp only [length_oldLL, List.length_map] at *); (try simp only [Bool.and_eq_true, decide_eq_true_eq] at *); omega) ?_
         | refine Ix.strs rfl ?_ ?_
         | refine Cut.strs rfl ?_ ?_
         | refine Ix.map (fun _ => rfl) (by intros; (try simp only [length_strs] at *); (try simp only [length_rows] at *); (try simp only [length_oldLL, List.length_map] at *); (try simp only [Bool.and_eq_true, decide_eq_true_eq] at *); omega) ?_
         | refine Ix.map (fun _ => rfl) ?_ ?_
         | refine Cut.map (fun _ => rfl) ?_ ?_
         | refine Fork.yes (by assumption) ?_
         | refine Fork.no (by assumption) ?_
         | refine Fork.decYes (by omega) ?_
         | refine Fork.decNo (by omega) ?_
         | refine Fork.dec (fun _ => ?_) (fun _ => ?_)
         | refine Fork.bne (fun _ => ?_) (fun _ => ?_)
         | refine Fork.beq (fun _ => ?_) (fun _ => ?_)
         | refine Fork.seq (fun _ => ?_) (fun _ => ?_)
         | refine Fork.sne (fun _ => ?_) (fun _ => ?_)
         | refine Fork.neg (fun _ => ?_) (fun _ => ?_)
         | refine Fork.mk (fun _ => ?_) (fun _ => ?_)
         | refine Round.mk ?_
         | refine NilQ.mk (fun b hb => ?_)
         | refine forceK_of ?_
         | refine forceBx_of ?_
         | refine unG_old ?_
         | refine unG_gv ?_
         | refine Lit.read rfl ?_
         | refine FinVal.keep ?_
         | refine FinAgg.keep ?_
         | refine Final.mk rfl rfl
         | refine Final.mk ?_ rfl
         | refine Final.mk ?_ ?_
         | refine FinalT.mk ?_ ?_)
    | refine AV.bool_congr ?_
    | refine AV.int_congr ?_
    | refine AV.str_congr ?_
    | refine AV.list_congr ?_
    | with_reducible rfl
    | refine fr1 ?_
    | refine fr2 ?_ ?_
  refine ALoop.mk Nat (fun i => ⟨[(0, .list none (strs l)), (1, .list none (strs m)), (12, .val (.int .i64 l.length)), (13, .val (.int .i64 i))], [], []⟩) (fun i => i ≤ l.length ∧ l.take i = m.take i) (fun i => l.length - i) ⟨0, ⟨Nat.zero_le _, rfl⟩, ?_⟩ (fun i hi => ?_)
  · repeat' first
      | exact trivial
      | refine Weak.mk ?_ ?_ ?_ ?_ (Or.inl (Nat.le_of_ble_eq_true rfl))
      | refine Weak.mk ?_ ?_ ?_ ?_ (Or.inr ⟨(by repeat' first | exact trivial | exact Nat.le_of_ble_eq_true rfl | refine And.intro ?_ ?_), (by repeat' first | exact trivial | exact Nat.le_of_ble_eq_true rfl | refine And.intro ?_ ?_)⟩)
      | refine Weak.mk ?_ ?_ ?_ ?_ ?_
      | refine And.intro ?_ ?_
      | with_reducible rfl
      | exact Nat.le_of_ble_eq_true rfl
      | refine fr1 ?_
      | refine fr2 ?_ ?_
      | refine AV.int_congr ?_
      | refine AV.bool_congr ?_
      | refine AV.str_congr ?_
      | refine AV.list_congr ?_
      | refine AV.bsl_congr ?_ ?_
      | (apply rfl)
    simp
  repeat' first
    | contradiction
    | (conv => whnf
       first
         | refine Need.mk (fun h => h) ?_
         | refine Need.mk rfl ?_
         | refine Need.mk ⟨rfl, Nat.le_of_ble_eq_true rfl⟩ ?_
         | refine Need.mk (Nat.le_of_ble_eq_true rfl) ?_
         | refine Need.mk (by intros; (try simp only [length_strs] at *); (try simp only [length_rows] at *); (try simp only [length_oldLL, List.length_map] at *); (try simp only [Bool.and_eq_true, decide_eq_true_eq] at *); omega) ?_
         | refine Need.mk ?_ ?_
         | refine Ix.strs rfl (by intros; (try simp only [length_strs] at *); (try simp only [length_rows] at *); (try simp only [length_oldLL, List.length_map] at *); (try simp only [Bool.and_eq_true, decide_eq_true_eq] at *); omega) ?_
         | refine Ix.strs rfl ?_ ?_
         | refine Cut.strs rfl ?_ ?_
         | refine Ix.map (fun _ => rfl) (by intros; (try simp only [length_strs] at *); (try simp only [length_rows] at *); (try simp only [length_oldLL, List.length_map] at *); (try simp only [Bool.and_eq_true, decide_eq_true_eq] at *); omega) ?_
         | refine Ix.map (fun _ => rfl) ?_ ?_
         | refine Cut.map (fun _ => rfl) ?_ ?_
         | refine Fork.yes (by assumption) ?_
         | refine Fork.no (by assumption) ?_
         | refine Fork.decYes (by omega) ?_
         | refine Fork.decNo (by omega) ?_
         | refine Fork.dec (fun _ => ?_) (fun _ => ?_)
         | refine Fork.bne (fun _ => ?_) (fun _ => ?_)
         | refine Fork.beq (fun _ => ?_) (fun _ => ?_)
         | refine Fork.seq (fun _ => ?_) (fun _ => ?_)
         | refine Fork.sne (fun _ => ?_) (fun _ => ?_)
         | refine Fork.neg (fun _ => ?_) (fun _ => ?_)
         | refine Fork.mk (fun _ => ?_) (fun _ => ?_)
         | refine Round.mk ?_
         | refine NilQ.mk (fun b hb => ?_)
         | refine forceK_of ?_
         | refine forceBx_of ?_
         | refine unG_old ?_
         | refine unG_gv ?_
         | refine Lit.read rfl ?_
         | refine FinVal.keep ?_
         | refine FinAgg.keep ?_
         | refine Final.mk rfl rfl
         | refine Final.mk ?_ rfl
         | refine Final.mk ?_ ?_
         | refine FinalT.mk ?_ ?_)
    | refine AV.bool_congr ?_
    | refine AV.int_congr ?_
    | refine AV.str_congr ?_
    | refine AV.list_congr ?_
    | with_reducible rfl
    | refine fr1 ?_
    | refine fr2 ?_ ?_
  · rename_i h1 h2
    have h3 : ¬ l = m := fun e => h2 (by rw [e])
    simp [h3]
  · rename_i h1 h2
    refine ⟨i + 1, ⟨by omega, ?_⟩, ?_, by omega⟩
    · rw [take_succ' [] (by omega), take_succ' (l := m) [] (by omega), hi.2]
      rw [Int.toNat_natCast] at h2
      have h2' : l.getD i [] = m.getD i [] := h2
      rw [h2']
    · repeat' first
        | exact trivial
        | refine Weak.mk ?_ ?_ ?_ ?_ (Or.inl (Nat.le_of_ble_eq_true rfl))
        | refine Weak.mk ?_ ?_ ?_ ?_ (Or.inr ⟨(by repeat' first | exact trivial | exact Nat.le_of_ble_eq_true rfl | refine And.intro ?_ ?_), (by repeat' first | exact trivial | exact Nat.le_of_ble_eq_true rfl | refine And.intro ?_ ?_)⟩)
        | refine Weak.mk ?_ ?_ ?_ ?_ ?_
        | refine And.intro ?_ ?_
        | with_reducible rfl
        | exact Nat.le_of_ble_eq_true rfl
        | refine fr1 ?_
        | refine fr2 ?_ ?_
        | refine AV.int_congr ?_
        | refine AV.bool_congr ?_
        | refine AV.str_congr ?_
        | refine AV.list_congr ?_
        | refine AV.bsl_congr ?_ ?_
        | (apply rfl)
      rw [wrap64 (by omega) (by omega)]; rfl
  · rename_i h1
    have h2 := hi.2
    rw [List.take_of_length_le (by omega), List.take_of_length_le (by omega)] at h2
    simp [h2]
theorem sSameTexts.ret (l m : List Str) (hl : l.length ≤ 1099511627776) : sSameTexts.Ret [.list none (strs l), .list none (strs m)] (.val (.bool (decide (l = m)))) [] := by
  refine sSameTexts.of rfl ?_
  repeat' first
    | contradiction
    | (conv => whnf
       first
         | refine Need.mk (fun h => h) ?_
         | refine Need.mk rfl ?_
         | refine Need.mk ⟨rfl, Nat.le_of_ble_eq_true rfl⟩ ?_
         | refine Need.mk (Nat.le_of_ble_eq_true rfl) ?_
         | refine Need.mk (by intros; (try simp only [length_strs] at *); (try simp only [length_rows] at *); (try simp only [length_oldLL, List.length_map] at *); (try simp only [Bool.and_eq_true, decide_eq_true_eq] at *); omega) ?_
         | refine Need.mk ?_ ?_
         | refine Ix.strs rfl (by intros; (try simp only [length_strs] at *); (try simp only [length_rows] at *); (try simp only [length_oldLL, List.length_map] at *); (try simp only [Bool.and_eq_true, decide_eq_true_eq] at *); omega) ?_
         | refine Ix.strs rfl ?_ ?_
         | refine Cut.strs rfl ?_ ?_
         | refine Ix.map (fun _ => rfl) (by intros; (try simp only [length_strs] at *); (try simp only [length_rows] at *); (try simp only [length_oldLL, List.length_map] at *); (try simp only [Bool.and_eq_true, decide_eq_true_eq] at *); omega) ?_
         | refine Ix.map (fun _ => rfl) ?_ ?_
         | refine Cut.map (fun _ => rfl) ?_ ?_
         | refine Fork.yes (by assumption) ?_
         | refine Fork.no (by assumption) ?_
         | refine Fork.decYes (by omega) ?_
         | refine Fork.decNo (by omega) ?_
         | refine Fork.dec (fun _ => ?_) (fun _ => ?_)
         | refine Fork.bne (fun _ => ?_) (fun _ => ?_)
         | refine Fork.beq (fun _ => ?_) (fun _ => ?_)
         | refine Fork.seq (fun _ => ?_) (fun _ => ?_)
         | refine Fork.sne (fun _ => ?_) (fun _ => ?_)
         | refine Fork.neg (fun _ => ?_) (fun _ => ?_)
         | refine Fork.mk (fun _ => ?_) (fun _ => ?_)
         | refine Round.mk ?_
         | refine NilQ.mk (fun b hb => ?_)
         | refine forceK_of ?_
         | refine forceBx_of ?_
         | refine unG_old ?_
         | refine unG_gv ?_
         | refine Lit.read rfl ?_
         | refine FinVal.keep ?_
         | refine FinAgg.keep ?_
         | refine Final.mk rfl rfl
         | refine Final.mk ?_ rfl
         | refine Final.mk ?_ ?_
         | refine FinalT.mk ?_ ?_)
    | refine AV.bool_congr ?_
    | refine AV.int_congr ?_
    | refine AV.str_congr ?_
    | refine AV.list_congr ?_
    | with_reducible rfl
    | refine fr1 ?_
    | refine fr2 ?_ ?_
  · rename_i h
    rw [length_strs, length_strs] at h
    have h3 : ¬ l = m := fun e => h (by rw [e])
    simp [h3]
  rename_i h
  rw [length_strs, length_strs] at h
  have h : l.length = m.length := by omega
  repeat' first
    | contradiction
    | (conv => whnf
       first
         | refine Need.mk (fun h => h) ?_
         | refine Need.mk rfl ?_
         | refine Need.mk ⟨rfl, Nat.le_of_ble_eq_true rfl⟩ ?_
         | refine Need.mk (Nat.le_of_ble_eq_true rfl) ?_
         | refine Need.mk (by intros; (try simp only [length_strs] at *); (try simp only [length_rows] at *); (try simp only [length_oldLL, List.length_map] at *); (try simp only [Bool.and_eq_true, decide_eq_true_eq] at *); omega) ?_
         | refine Need.mk ?_ ?_
         | refine Ix.strs rfl (by intros; (try simp only [length_strs] at *); (try simp only [length_rows] at *); (try simp only [length_oldLL, List.length_map] at *); (try simp only [Bool.and_eq_true, decide_eq_true_eq] at *); omega) ?_
         | refine Ix.strs rfl ?_ ?_
         | refine Cut.strs rfl ?_ ?_
         | refine Ix.map (fun _ => rfl) (by intros; (try simp only [length_strs] at *); (try simp only [length_rows] at *); (try simp only [length_oldLL, List.length_map] at *); (try simp only [Bool.and_eq_true, decide_eq_true_eq] at *); omega) ?_
         | refine Ix.map (fun _ => rfl) ?_ ?_
         | refine Cut.map (fun _ => rfl) ?_ ?_
         | refine Fork.yes (by assumption) ?_
         | refine Fork.no (by assumption) ?_
         | refine Fork.decYes (by omega) ?_
         | refine Fork.decNo (by omega) ?_
         | refine Fork.dec (fun _ => ?_) (fun _ => ?_)
         | refine Fork.bne (fun _ => ?_) (fun _ => ?_)
         | refine Fork.beq (fun _ => ?_) (fun _ => ?_)
         | refine Fork.seq (fun _ => ?_) (fun _ => ?_)
         | refine Fork.sne (fun _ => ?_) (fun _ => ?_)
         | refine Fork.neg (fun _ => ?_) (fun _ => ?_)
         | refine Fork.mk (fun _ => ?_) (fun _ => ?_)
         | refine Round.mk ?_
         | refine NilQ.mk (fun b hb => ?_)
         | refine forceK_of ?_
         | refine forceBx_of ?_
         | refine unG_old ?_
         | refine unG_gv ?_
         | refine Lit.read rfl ?_
         | refine FinVal.keep ?_
         | refine FinAgg.keep ?_
         | refine Final.mk rfl rfl
         | refine Final.mk ?_ rfl
         | refine Final.mk ?_ ?_
         | refine FinalT.mk ?_ ?_)
    | refine AV.bool_congr ?_
    | refine AV.int_congr ?_
    | refine AV.str_congr ?_
    | refine AV.list_congr ?_
    | with_reducible rfl
    | refine fr1 ?_
    | refine fr2 ?_ ?_
  refine ALoop.mk Nat (fun i => ⟨[(0, .list none (strs l)), (1, .list none (strs m)), (5, .val (.int .i64 i))], [], []⟩) (fun i => i ≤ l.length ∧ l.take i = m.take i) (fun i => l.length - i) ⟨0, ⟨Nat.zero_le _, rfl⟩, ?_⟩ (fun i hi => ?_)
  · repeat' first
      | exact trivial
      | refine Weak.mk ?_ ?_ ?_ ?_ (Or.inl (Nat.le_of_ble_eq_true rfl))
      | refine Weak.mk ?_ ?_ ?_ ?_ (Or.inr ⟨(by repeat' first | exact trivial | exact Nat.le_of_ble_eq_true rfl | refine And.intro ?_ ?_), (by repeat' first | exact trivial | exact Nat.le_of_ble_eq_true rfl | refine And.intro ?_ ?_)⟩)
      | refine Weak.mk ?_ ?_ ?_ ?_ ?_
      | refine And.intro ?_ ?_
      | with_reducible rfl
      | exact Nat.le_of_ble_eq_true rfl
      | refine fr1 ?_
      | refine fr2 ?_ ?_
      | refine AV.int_congr ?_
      | refine AV.bool_congr ?_
      | refine AV.str_congr ?_
      | refine AV.list_congr ?_
      | refine AV.bsl_congr ?_ ?_
      | (apply rfl)
  repeat' first
    | contradiction
    | (conv => whnf
       first
         | refine Need.mk (fun h => h) ?_
         | refine Need.mk rfl ?_
         | refine Need.mk ⟨rfl, Nat.le_of_ble_eq_true rfl⟩ ?_
         | refine Need.mk (Nat.le_of_ble_eq_true rfl) ?_
         | refine Need.mk (by intros; (try simp only [length_strs] at *); (try simp only [length_rows] at *); (try simp only [length_oldLL, List.length_map] at *); (try simp only [Bool.and_eq_true, decide_eq_true_eq] at *); omega) ?_
         | refine Need.mk ?_ ?_
         | refine Ix.strs rfl (by intros; (try simp only [length_strs] at *); (try simp only [length_rows] at *); (try simp only [length_oldLL, List.length_map] at *); (try simp only [Bool.and_eq_true, decide_eq_true_eq] at *); omega) ?_
         | refine Ix.strs rfl ?_ ?_
         | refine Cut.strs rfl ?_ ?_
         | refine Ix.map (fun _ => rfl) (by intros; (try simp only [length_strs] at *); (try simp only [length_rows] at *); (try simp only [length_oldLL, List.length_map] at *); (try simp only [Bool.and_eq_true, decide_eq_true_eq] at *); omega) ?_
         | refine Ix.map (fun _ => rfl) ?_ ?_
         | refine Cut.map (fun _ => rfl) ?_ ?_
         | refine Fork.yes (by assumption) ?_
         | refine Fork.no (by assumption) ?_
         | refine Fork.decYes (by omega) ?_
         | refine Fork.decNo (by omega) ?_
         | refine Fork.dec (fun _ => ?_) (fun _ => ?_)
         | refine Fork.bne (fun _ => ?_) (fun _ => ?_)
         | refine Fork.beq (fun _ => ?_) (fun _ => ?_)
         | refine Fork.seq (fun _ => ?_) (fun _ => ?_)
         | refine Fork.sne (fun _ => ?_) (fun _ => ?_)
         | refine Fork.neg (fun _ => ?_) (fun _ => ?_)
         | refine Fork.mk (fun _ => ?_) (fun _ => ?_)
         | refine Round.mk ?_
         | refine NilQ.mk (fun b hb => ?_)
         | refine forceK_of ?_
         | refine forceBx_of ?_
         | refine unG_old ?_
         | refine unG_gv ?_
         | refine Lit.read rfl ?_
         | refine FinVal.keep ?_
         | refine FinAgg.keep ?_
         | refine Final.mk rfl rfl
         | refine Final.mk ?_ rfl
         | refine Final.mk ?_ ?_
         | refine FinalT.mk ?_ ?_)
    | refine AV.bool_congr ?_
    | refine AV.int_congr ?_
    | refine AV.str_congr ?_
    | refine AV.list_congr ?_
    | with_reducible rfl
    | refine fr1 ?_
    | refine fr2 ?_ ?_
  · rename_i h1 h2
    have h3 : ¬ l = m := fun e => h2 (by rw [e])
    simp [h3]
  · rename_i h1 h2
    rw [length_strs] at h1
    refine ⟨i + 1, ⟨by omega, ?_⟩, ?_, by omega⟩
    · rw [take_succ' [] (by omega), take_succ' (l := m) [] (by omega), hi.2]
      rw [Int.toNat_natCast] at h2
      have h2' : l.getD i [] = m.getD i [] := h2
      rw [h2']
    · repeat' first
        | exact trivial
        | refine Weak.mk ?_ ?_ ?_ ?_ (Or.inl (Nat.le_of_ble_eq_true rfl))
        | refine Weak.mk ?_ ?_ ?_ ?_ (Or.inr ⟨(by repeat' first | exact trivial | exact Nat.le_of_ble_eq_true rfl | refine And.intro ?_ ?_), (by repeat' first | exact trivial | exact Nat.le_of_ble_eq_true rfl | refine And.intro ?_ ?_)⟩)
        | refine Weak.mk ?_ ?_ ?_ ?_ ?_
        | refine And.intro ?_ ?_
        | with_reducible rfl
        | exact Nat.le_of_ble_eq_true rfl
        | refine fr1 ?_
        | refine fr2 ?_ ?_
        | refine AV.int_congr ?_
        | refine AV.bool_congr ?_
        | refine AV.str_congr ?_
        | refine AV.list_congr ?_
        | refine AV.bsl_congr ?_ ?_
        | (apply rfl)
      rw [wrap64 (by omega) (by omega)]; rfl
  · rename_i h1
    rw [length_strs] at h1
    have h2 := hi.2
    rw [List.take_of_length_le (by omega), List.take_of_length_le (by omega)] at h2
    simp [h2]
theorem sSame.ret (f g : Fct) (h : tFct.size f ≤ 1048576) : sSame.Ret [.agg (oldL (tFct.q f)), .agg (oldL (tFct.q g))] (.val (.bool (decide (f = g)))) [] := by
  refine sSame.of rfl ?_
  rw [tFct_size, tStrs_size] at h
  repeat' first
    | contradiction
    | (conv => whnf
       first
         | refine Need.mk (fun h => h) ?_
         | refine Need.mk rfl ?_
         | refine Need.mk ⟨rfl, Nat.le_of_ble_eq_true rfl⟩ ?_
         | refine Need.mk (Nat.le_of_ble_eq_true rfl) ?_
         | refine Need.mk (by intros; (try simp only [length_strs] at *); (try simp only [length_rows] at *); (try simp only [length_oldLL, List.length_map] at *); (try simp only [Bool.and_eq_true, decide_eq_true_eq] at *); omega) ?_
         | refine Need.mk ?_ ?_
         | refine Ix.strs rfl (by intros; (try simp only [length_strs] at *); (try simp only [length_rows] at *); (try simp only [length_oldLL, List.length_map] at *); (try simp only [Bool.and_eq_true, decide_eq_true_eq] at *); omega) ?_
         | refine Ix.strs rfl ?_ ?_
         | refine Cut.strs rfl ?_ ?_
         | refine Ix.map (fun _ => rfl) (by intros; (try simp only [length_strs] at *); (try simp only [length_rows] at *); (try simp only [length_oldLL, List.length_map] at *); (try simp only [Bool.and_eq_true, decide_eq_true_eq] at *); omega) ?_
         | refine Ix.map (fun _ => rfl) ?_ ?_
         | refine Cut.map (fun _ => rfl) ?_ ?_
         | refine Fork.yes (by assumption) ?_
         | refine Fork.no (by assumption) ?_
         | refine Fork.decYes (by omega) ?_
         | refine Fork.decNo (by omega) ?_
         | refine Fork.dec (fun _ => ?_) (fun _ => ?_)
         | refine Fork.bne (fun _ => ?_) (fun _ => ?_)
         | refine Fork.beq (fun _ => ?_) (fun _ => ?_)
         | refine Fork.seq (fun _ => ?_) (fun _ => ?_)
         | refine Fork.sne (fun _ => ?_) (fun _ => ?_)
         | refine Fork.neg (fun _ => ?_) (fun _ => ?_)
         | refine Fork.mk (fun _ => ?_) (fun _ => ?_)
         | refine Round.mk ?_
         | refine NilQ.mk (fun b hb => ?_)
         | refine forceK_of ?_
         | refine forceBx_of ?_
         | refine unG_old ?_
         | refine unG_gv ?_
         | refine Lit.read rfl ?_
         | refine FinVal.keep ?_
         | refine FinAgg.keep ?_
         | refine Final.mk rfl rfl
         | refine Final.mk ?_ rfl
         | refine Final.mk ?_ ?_
         | refine FinalT.mk ?_ ?_
         | refine ACall.scal _ _ (sSameTexts.ret _ _ ?_) rfl (by repeat' first | exact SeesL.nil | refine SeesL.cons ?_ ?_ | exact SeesB.of0 (Sees0.val _) | exact SeesB.of0 (Sees0.str _) | exact SeesB.of0 (Sees0.olds _ _) | exact SeesB.of0 (Sees0.old _) | exact SeesB.of0 (Sees0.oldagg _) | exact SeesB.of0 Sees0.nil | exact Sees0.val _ | exact Sees0.str _ | exact Sees0.olds _ _ | exact Sees0.old _ | exact Sees0.oldagg _ | exact Sees0.nil | exact SeesB.of0 (Sees0.any _) | assumption | exact sees_gv _ _ _ (by assumption) (by first | assumption | exact BoxIn.last _ _ | exact BoxIn.more (BoxIn.last _ _) _) | refine SeesB.agg ?_ | refine Sees0.agg ?_ | exact SeesB.of0 (Sees0.clo SeesL.nil SeesL.nil) | exact Sees0.clo SeesL.nil SeesL.nil) ?_
         | refine AQCall.mk _ _ (fun hg => sSameTexts.ret _ _ ?_) rfl (fun _ => (by repeat' first | exact SeesL.nil | refine SeesL.cons ?_ ?_ | exact SeesB.of0 (Sees0.val _) | exact SeesB.of0 (Sees0.str _) | exact SeesB.of0 (Sees0.olds _ _) | exact SeesB.of0 (Sees0.old _) | exact SeesB.of0 (Sees0.oldagg _) | exact SeesB.of0 Sees0.nil | exact Sees0.val _ | exact Sees0.str _ | exact Sees0.olds _ _ | exact Sees0.old _ | exact Sees0.oldagg _ | exact Sees0.nil | exact SeesB.of0 (Sees0.any _) | assumption | exact sees_gv _ _ _ (by assumption) (by first | assumption | exact BoxIn.last _ _ | exact BoxIn.more (BoxIn.last _ _) _) | refine SeesB.agg ?_ | refine Sees0.agg ?_ | exact SeesB.of0 (Sees0.clo SeesL.nil SeesL.nil) | exact Sees0.clo SeesL.nil SeesL.nil)) ?_)
    | refine AV.bool_congr ?_
    | refine AV.int_congr ?_
    | refine AV.str_congr ?_
    | refine AV.list_congr ?_
    | with_reducible rfl
    | refine fr1 ?_
    | refine fr2 ?_ ?_
  · omega
  · obtain ⟨r, l⟩ := f; obtain ⟨r', l'⟩ := g
    rw [Bool.eq_iff_iff]; simp
theorem psameFact.ret (f g : Fct) (h : tFct.size f ≤ 1048576) : psameFact.Ret [.agg (oldL (tFct.q f)), .agg (oldL (tFct.q g))] (.val (.bool (decide (f = g)))) [] := by
  refine psameFact.of rfl ?_
  rw [tFct_size, tStrs_size] at h
  repeat' first
    | contradiction
    | (conv => whnf
       first
         | refine Need.mk (fun h => h) ?_
         | refine Need.mk rfl ?_
         | refine Need.mk ⟨rfl, Nat.le_of_ble_eq_true rfl⟩ ?_
         | refine Need.mk (Nat.le_of_ble_eq_true rfl) ?_
         | refine Need.mk (by intros; (try simp only [length_strs] at *); (try simp only [length_rows] at *); (try simp only [length_oldLL, List.length_map] at *); (try simp only [Bool.and_eq_true, decide_eq_true_eq] at *); omega) ?_
         | refine Need.mk ?_ ?_
         | refine Ix.strs rfl (by intros; (try simp only [length_strs] at *); (try simp only [length_rows] at *); (try simp only [length_oldLL, List.length_map] at *); (try simp only [Bool.and_eq_true, decide_eq_true_eq] at *); omega) ?_
         | refine Ix.strs rfl ?_ ?_
         | refine Cut.strs rfl ?_ ?_
         | refine Ix.map (fun _ => rfl) (by intros; (try simp only [length_strs] at *); (try simp only [length_rows] at *); (try simp only [length_oldLL, List.length_map] at *); (try simp only [Bool.and_eq_true, decide_eq_true_eq] at *); omega) ?_
         | refine Ix.map (fun _ => rfl) ?_ ?_
         | refine Cut.map (fun _ => rfl) ?_ ?_
         | refine Fork.yes (by assumption) ?_
         | refine Fork.no (by assumption) ?_
         | refine Fork.decYes (by omega) ?_
         | refine Fork.decNo (by omega) ?_
         | refine Fork.dec (fun _ => ?_) (fun _ => ?_)
         | refine Fork.bne (fun _ => ?_) (fun _ => ?_)
         | refine Fork.beq (fun _ => ?_) (fun _ => ?_)
         | refine Fork.seq (fun _ => ?_) (fun _ => ?_)
         | refine Fork.sne (fun _ => ?_) (fun _ => ?_)
         | refine Fork.neg (fun _ => ?_) (fun _ => ?_)
         | refine Fork.mk (fun _ => ?_) (fun _ => ?_)
         | refine Round.mk ?_
         | refine NilQ.mk (fun b hb => ?_)
         | refine forceK_of ?_
         | refine forceBx_of ?_
         | refine unG_old ?_
         | refine unG_gv ?_
         | refine Lit.read rfl ?_
         | refine FinVal.keep ?_
         | refine FinAgg.keep ?_
         | refine Final.mk rfl rfl
         | refine Final.mk ?_ rfl
         | refine Final.mk ?_ ?_
         | refine FinalT.mk ?_ ?_
         | refine ACall.scal _ _ (slEqual.ret _ _ ?_) rfl (by repeat' first | exact SeesL.nil | refine SeesL.cons ?_ ?_ | exact SeesB.of0 (Sees0.val _) | exact SeesB.of0 (Sees0.str _) | exact SeesB.of0 (Sees0.olds _ _) | exact SeesB.of0 (Sees0.old _) | exact SeesB.of0 (Sees0.oldagg _) | exact SeesB.of0 Sees0.nil | exact Sees0.val _ | exact Sees0.str _ | exact Sees0.olds _ _ | exact Sees0.old _ | exact Sees0.oldagg _ | exact Sees0.nil | exact SeesB.of0 (Sees0.any _) | assumption | exact sees_gv _ _ _ (by assumption) (by first | assumption | exact BoxIn.last _ _ | exact BoxIn.more (BoxIn.last _ _) _) | refine SeesB.agg ?_ | refine Sees0.agg ?_ | exact SeesB.of0 (Sees0.clo SeesL.nil SeesL.nil) | exact Sees0.clo SeesL.nil SeesL.nil) ?_
         | refine AQCall.mk _ _ (fun hg => slEqual.ret _ _ ?_) rfl (fun _ => (by repeat' first | exact SeesL.nil | refine SeesL.cons ?_ ?_ | exact SeesB.of0 (Sees0.val _) | exact SeesB.of0 (Sees0.str _) | exact SeesB.of0 (Sees0.olds _ _) | exact SeesB.of0 (Sees0.old _) | exact SeesB.of0 (Sees0.oldagg _) | exact SeesB.of0 Sees0.nil | exact Sees0.val _ | exact Sees0.str _ | exact Sees0.olds _ _ | exact Sees0.old _ | exact Sees0.oldagg _ | exact Sees0.nil | exact SeesB.of0 (Sees0.any _) | assumption | exact sees_gv _ _ _ (by assumption) (by first | assumption | exact BoxIn.last _ _ | exact BoxIn.more (BoxIn.last _ _) _) | refine SeesB.agg ?_ | refine Sees0.agg ?_ | exact SeesB.of0 (Sees0.clo SeesL.nil SeesL.nil) | exact Sees0.clo SeesL.nil SeesL.nil)) ?_)
    | refine AV.bool_congr ?_
    | refine AV.int_congr ?_
    | refine AV.str_congr ?_
    | refine AV.list_congr ?_
    | with_reducible rfl
    | refine fr1 ?_
    | refine fr2 ?_ ?_
  · omega
  · obtain ⟨r, l⟩ := f; obtain ⟨r', l'⟩ := g
    rw [Bool.eq_iff_iff]; simp

/-! sets -/
theorem fct_le {l : List Fct} {i : Nat} (hi : i < l.length) : tFct.size (l.getD i default) ≤ listSize tFct l :=
  listSize_mem tFct (List.mem_of_getElem? (facts_get hi))
theorem fct_le' {l : List Fct} (i : Nat) : tFct.size (l.getD i default) ≤ listSize tFct l := by
  rcases Nat.lt_or_ge i l.length with h | h
  · exact fct_le h
  · have : l.getD i default = default := by simp [List.getD, List.getElem?_eq_none h]
    rw [this]; exact Nat.zero_le _
def findF : List Fct → Fct → Int → Int
  | [], _, _ => -1
  | g :: l, f, n => if g = f then n else findF l f (n + 1)
theorem findF_drop {l : List Fct} {f : Fct} {i : Nat} (hi : i < l.length) : findF (l.drop i) f i = if l.getD i default = f then (i : Int) else findF (l.drop (i + 1)) f ((i + 1 : Nat) : Int) := by
  rw [List.drop_eq_getElem_cons hi, findF]
  simp [List.getD, hi]
theorem sFindFact.ret (l : List Fct) (f : Fct) (h : tFcts.size l ≤ 1048576) (h' : tFct.size f ≤ 1048576) : sFindFact.Ret [.list none (facts l), .agg (oldL (tFct.q f))] (.val (.int .i64 (findF l f 0))) [] := by
  refine sFindFact.of rfl ?_
  rw [tFcts_size] at h
  repeat' first
    | contradiction
    | (conv => whnf
       first
         | refine Need.mk (fun h => h) ?_
         | refine Need.mk rfl ?_
         | refine Need.mk ⟨rfl, Nat.le_of_ble_eq_true rfl⟩ ?_
         | refine Need.mk (Nat.le_of_ble_eq_true rfl) ?_
         | refine Need.mk (by intros; (try simp only [length_strs] at *); (try simp only [length_rows] at *); (try simp only [length_oldLL, List.length_map] at *); (try simp only [Bool.and_eq_true, decide_eq_true_eq] at *); omega) ?_
         | refine Need.mk ?_ ?_
         | refine Ix.strs rfl (by intros; (try simp only [length_strs] at *); (try simp only [length_rows] at *); (try simp only [length_oldLL, List.length_map] at *); (try simp only [Bool.and_eq_true, decide_eq_true_eq] at *); omega) ?_
         | refine Ix.strs rfl ?_ ?_
         | refine Cut.strs rfl ?_ ?_
         | refine Ix.map (fun _ => rfl) (by intros; (try simp only [length_strs] at *); (try simp only [length_rows] at *); (try simp only [length_oldLL, List.length_map] at *); (try simp only [Bool.and_eq_true, decide_eq_true_eq] at *); omega) ?_
         | refine Ix.map (fun _ => rfl) ?_ ?_
         | refine Cut.map (fun _ => rfl) ?_ ?_
         | refine Fork.yes (by assumption) ?_
         | refine Fork.no (by assumption) ?_
         | refine Fork.decYes (by omega) ?_
         | refine Fork.decNo (by omega) ?_
         | refine Fork.dec (fun _ => ?_) (fun _ => ?_)
         | refine Fork.bne (fun _ => ?_) (fun _ => ?_)
         | refine Fork.beq (fun _ => ?_) (fun _ => ?_)
         | refine Fork.seq (fun _ => ?_) (fun _ => ?_)
         | refine Fork.sne (fun _ => ?_) (fun _ => ?_)
         | refine Fork.neg (fun _ => ?_) (fun _ => ?_)
         | refine Fork.mk (fun _ => ?_) (fun _ => ?_)
         | refine Round.mk ?_
         | refine NilQ.mk (fun b hb => ?_)
         | refine forceK_of ?_
         | refine forceBx_of ?_
         | refine unG_old ?_
         | refine unG_gv ?_
         | refine Lit.read rfl ?_
         | refine FinVal.keep ?_
         | refine FinAgg.keep ?_
         | refine Final.mk rfl rfl
         | refine Final.mk ?_ rfl
         | refine Final.mk ?_ ?_
         | refine FinalT.mk ?_ ?_)
    | refine AV.bool_congr ?_
    | refine AV.int_congr ?_
    | refine AV.str_congr ?_
    | refine AV.list_congr ?_
    | with_reducible rfl
    | refine fr1 ?_
    | refine fr2 ?_ ?_
  refine ALoop.mk Nat (fun i => ⟨[(0, .list none (facts l)), (3, .bptr 0 0), (5, .val (.int .i64 i))], [.cells .var (oldL (tFct.q f))], []⟩) (fun i => i ≤ l.length ∧ findF (l.drop i) f i = findF l f 0) (fun i => l.length - i) ⟨0, ⟨Nat.zero_le _, rfl⟩, ?_⟩ (fun i hi => ?_)
  · repeat' first
      | exact trivial
      | refine Weak.mk ?_ ?_ ?_ ?_ (Or.inl (Nat.le_of_ble_eq_true rfl))
      | refine Weak.mk ?_ ?_ ?_ ?_ (Or.inr ⟨(by repeat' first | exact trivial | exact Nat.le_of_ble_eq_true rfl | refine And.intro ?_ ?_), (by repeat' first | exact trivial | exact Nat.le_of_ble_eq_true rfl | refine And.intro ?_ ?_)⟩)
      | refine Weak.mk ?_ ?_ ?_ ?_ ?_
      | refine And.intro ?_ ?_
      | with_reducible rfl
      | exact Nat.le_of_ble_eq_true rfl
      | refine fr1 ?_
      | refine fr2 ?_ ?_
      | refine AV.int_congr ?_
      | refine AV.bool_congr ?_
      | refine AV.str_congr ?_
      | refine AV.list_congr ?_
      | refine AV.bsl_congr ?_ ?_
      | (apply rfl)
  repeat' first
    | contradiction
    | (conv => whnf
       first
         | refine Need.mk (fun h => h) ?_
         | refine Need.mk rfl ?_
         | refine Need.mk ⟨rfl, Nat.le_of_ble_eq_true rfl⟩ ?_
         | refine Need.mk (Nat.le_of_ble_eq_true rfl) ?_
         | refine Need.mk (by intros; (try simp only [length_strs] at *); (try simp only [length_rows] at *); (try simp only [length_oldLL, List.length_map] at *); (try simp only [Bool.and_eq_true, decide_eq_true_eq] at *); omega) ?_
         | refine Need.mk ?_ ?_
         | refine Ix.strs rfl (by intros; (try simp only [length_strs] at *); (try simp only [length_rows] at *); (try simp only [length_oldLL, List.length_map] at *); (try simp only [Bool.and_eq_true, decide_eq_true_eq] at *); omega) ?_
         | refine Ix.strs rfl ?_ ?_
         | refine Cut.strs rfl ?_ ?_
         | refine Ix.map (fun _ => rfl) (by intros; (try simp only [length_strs] at *); (try simp only [length_rows] at *); (try simp only [length_oldLL, List.length_map] at *); (try simp only [Bool.and_eq_true, decide_eq_true_eq] at *); omega) ?_
         | refine Ix.map (fun _ => rfl) ?_ ?_
         | refine Cut.map (fun _ => rfl) ?_ ?_
         | refine Fork.yes (by assumption) ?_
         | refine Fork.no (by assumption) ?_
         | refine Fork.decYes (by omega) ?_
         | refine Fork.decNo (by omega) ?_
         | refine Fork.dec (fun _ => ?_) (fun _ => ?_)
         | refine Fork.bne (fun _ => ?_) (fun _ => ?_)
         | refine Fork.beq (fun _ => ?_) (fun _ => ?_)
         | refine Fork.seq (fun _ => ?_) (fun _ => ?_)
         | refine Fork.sne (fun _ => ?_) (fun _ => ?_)
         | refine Fork.neg (fun _ => ?_) (fun _ => ?_)
         | refine Fork.mk (fun _ => ?_) (fun _ => ?_)
         | refine Round.mk ?_
         | refine NilQ.mk (fun b hb => ?_)
         | refine forceK_of ?_
         | refine forceBx_of ?_
         | refine unG_old ?_
         | refine unG_gv ?_
         | refine Lit.read rfl ?_
         | refine FinVal.keep ?_
         | refine FinAgg.keep ?_
         | refine Final.mk rfl rfl
         | refine Final.mk ?_ rfl
         | refine Final.mk ?_ ?_
         | refine FinalT.mk ?_ ?_
         | refine ACall.scal _ _ (sSame.ret _ _ ?_) rfl (by repeat' first | exact SeesL.nil | refine SeesL.cons ?_ ?_ | exact SeesB.of0 (Sees0.val _) | exact SeesB.of0 (Sees0.str _) | exact SeesB.of0 (Sees0.olds _ _) | exact SeesB.of0 (Sees0.old _) | exact SeesB.of0 (Sees0.oldagg _) | exact SeesB.of0 Sees0.nil | exact Sees0.val _ | exact Sees0.str _ | exact Sees0.olds _ _ | exact Sees0.old _ | exact Sees0.oldagg _ | exact Sees0.nil | exact SeesB.of0 (Sees0.any _) | assumption | exact sees_gv _ _ _ (by assumption) (by first | assumption | exact BoxIn.last _ _ | exact BoxIn.more (BoxIn.last _ _) _) | refine SeesB.agg ?_ | refine Sees0.agg ?_ | exact SeesB.of0 (Sees0.clo SeesL.nil SeesL.nil) | exact Sees0.clo SeesL.nil SeesL.nil) ?_
         | refine AQCall.mk _ _ (fun hg => sSame.ret _ _ ?_) rfl (fun _ => (by repeat' first | exact SeesL.nil | refine SeesL.cons ?_ ?_ | exact SeesB.of0 (Sees0.val _) | exact SeesB.of0 (Sees0.str _) | exact SeesB.of0 (Sees0.olds _ _) | exact SeesB.of0 (Sees0.old _) | exact SeesB.of0 (Sees0.oldagg _) | exact SeesB.of0 Sees0.nil | exact Sees0.val _ | exact Sees0.str _ | exact Sees0.olds _ _ | exact Sees0.old _ | exact Sees0.oldagg _ | exact Sees0.nil | exact SeesB.of0 (Sees0.any _) | assumption | exact sees_gv _ _ _ (by assumption) (by first | assumption | exact BoxIn.last _ _ | exact BoxIn.more (BoxIn.last _ _) _) | refine SeesB.agg ?_ | refine Sees0.agg ?_ | exact SeesB.of0 (Sees0.clo SeesL.nil SeesL.nil) | exact Sees0.clo SeesL.nil SeesL.nil)) ?_)
    | refine AV.bool_congr ?_
    | refine AV.int_congr ?_
    | refine AV.str_congr ?_
    | refine AV.list_congr ?_
    | with_reducible rfl
    | refine fr1 ?_
    | refine fr2 ?_ ?_
  all_goals try simp only [length_rows, length_strs, length_oldLL, List.length_map, Int.toNat_natCast] at *
  · have := fct_le (l := l) (i := i) (by omega); omega
  · rename_i h1 h2
    have h3 := findF_drop (l := l) (f := f) (i := i) (by omega)
    rw [if_pos (by simpa using h1), hi.2] at h3
    exact h3.symm
  · rename_i h1 h2
    have h3 := findF_drop (l := l) (f := f) (i := i) (by omega)
    rw [if_neg (by simpa using h1), hi.2] at h3
    refine ⟨i + 1, ⟨by omega, h3.symm⟩, ?_, by omega⟩
    repeat' first
      | exact trivial
      | refine Weak.mk ?_ ?_ ?_ ?_ (Or.inl (Nat.le_of_ble_eq_true rfl))
      | refine Weak.mk ?_ ?_ ?_ ?_ (Or.inr ⟨(by repeat' first | exact trivial | exact Nat.le_of_ble_eq_true rfl | refine And.intro ?_ ?_), (by repeat' first | exact trivial | exact Nat.le_of_ble_eq_true rfl | refine And.intro ?_ ?_)⟩)
      | refine Weak.mk ?_ ?_ ?_ ?_ ?_
      | refine And.intro ?_ ?_
      | with_reducible rfl
      | exact Nat.le_of_ble_eq_true rfl
      | refine fr1 ?_
      | refine fr2 ?_ ?_
      | refine AV.int_congr ?_
      | refine AV.bool_congr ?_
      | refine AV.str_congr ?_
      | refine AV.list_congr ?_
      | refine AV.bsl_congr ?_ ?_
      | (apply rfl)
    rw [wrap64 (by omega) (by omega)]; rfl
  · have := hi.2
    rw [List.drop_eq_nil_of_le (by omega)] at this
    rw [← this]; rfl
theorem pFindFact.ret (l : List Fct) (f : Fct) (h : tFcts.size l ≤ 1048576) (h' : tFct.size f ≤ 1048576) : pFindFact.Ret [.list none (facts l), .agg (oldL (tFct.q f))] (.val (.int .i64 (findF l f 0))) [] := by
  refine pFindFact.of rfl ?_
  rw [tFcts_size] at h
  repeat' first
    | contradiction
    | (conv => whnf
       first
         | refine Need.mk (fun h => h) ?_
         | refine Need.mk rfl ?_
         | refine Need.mk ⟨rfl, Nat.le_of_ble_eq_true rfl⟩ ?_
         | refine Need.mk (Nat.le_of_ble_eq_true rfl) ?_
         | refine Need.mk (by intros; (try simp only [length_strs] at *); (try simp only [length_rows] at *); (try simp only [length_oldLL, List.length_map] at *); (try simp only [Bool.and_eq_true, decide_eq_true_eq] at *); omega) ?_
         | refine Need.mk ?_ ?_
         | refine Ix.strs rfl (by intros; (try simp only [length_strs] at *); (try simp only [length_rows] at *); (try simp only [length_oldLL, List.length_map] at *); (try simp only [Bool.and_eq_true, decide_eq_true_eq] at *); omega) ?_
         | refine Ix.strs rfl ?_ ?_
         | refine Cut.strs rfl ?_ ?_
         | refine Ix.map (fun _ => rfl) (by intros; (try simp only [length_strs] at *); (try simp only [length_rows] at *); (try simp only [length_oldLL, List.length_map] at *); (try simp only [Bool.and_eq_true, decide_eq_true_eq] at *); omega) ?_
         | refine Ix.map (fun _ => rfl) ?_ ?_
         | refine Cut.map (fun _ => rfl) ?_ ?_
         | refine Fork.yes (by assumption) ?_
         | refine Fork.no (by assumption) ?_
         | refine Fork.decYes (by omega) ?_
         | refine Fork.decNo (by omega) ?_
         | refine Fork.dec (fun _ => ?_) (fun _ => ?_)
         | refine Fork.bne (fun _ => ?_) (fun _ => ?_)
         | refine Fork.beq (fun _ => ?_) (fun _ => ?_)
         | refine Fork.seq (fun _ => ?_) (fun _ => ?_)
         | refine Fork.sne (fun _ => ?_) (fun _ => ?_)
         | refine Fork.neg (fun _ => ?_) (fun _ => ?_)
         | refine Fork.mk (fun _ => ?_) (fun _ => ?_)
         | refine Round.mk ?_
         | refine NilQ.mk (fun b hb => ?_)
         | refine forceK_of ?_
         | refine forceBx_of ?_
         | refine unG_old ?_
         | refine unG_gv ?_
         | refine Lit.read rfl ?_
         | refine FinVal.keep ?_
         | refine FinAgg.keep ?_
         | refine Final.mk rfl rfl
         | refine Final.mk ?_ rfl
         | refine Final.mk ?_ ?_
         | refine FinalT.mk ?_ ?_)
    | refine AV.bool_congr ?_
    | refine AV.int_congr ?_
    | refine AV.str_congr ?_
    | refine AV.list_congr ?_
    | with_reducible rfl
    | refine fr1 ?_
    | refine fr2 ?_ ?_
  refine ALoop.mk Nat (fun i => ⟨[(0, .list none (facts l)), (3, .bptr 0 0), (7, .list none (facts l)), (8, .val (.int .i64 l.length)), (9, .val (.int .i64 i))], [.cells .var (oldL (tFct.q f))], []⟩) (fun i => i ≤ l.length ∧ findF (l.drop i) f i = findF l f 0) (fun i => l.length - i) ⟨0, ⟨Nat.zero_le _, rfl⟩, ?_⟩ (fun i hi => ?_)
  · repeat' first
      | exact trivial
      | refine Weak.mk ?_ ?_ ?_ ?_ (Or.inl (Nat.le_of_ble_eq_true rfl))
      | refine Weak.mk ?_ ?_ ?_ ?_ (Or.inr ⟨(by repeat' first | exact trivial | exact Nat.le_of_ble_eq_true rfl | refine And.intro ?_ ?_), (by repeat' first | exact trivial | exact Nat.le_of_ble_eq_true rfl | refine And.intro ?_ ?_)⟩)
      | refine Weak.mk ?_ ?_ ?_ ?_ ?_
      | refine And.intro ?_ ?_
      | with_reducible rfl
      | exact Nat.le_of_ble_eq_true rfl
      | refine fr1 ?_
      | refine fr2 ?_ ?_
      | refine AV.int_congr ?_
      | refine AV.bool_congr ?_
      | refine AV.str_congr ?_
      | refine AV.list_congr ?_
      | refine AV.bsl_congr ?_ ?_
      | (apply rfl)
    simp
  repeat' first
    | contradiction
    | (conv => whnf
       first
         | refine Need.mk (fun h => h) ?_
         | refine Need.mk rfl ?_
         | refine Need.mk ⟨rfl, Nat.le_of_ble_eq_true rfl⟩ ?_
         | refine Need.mk (Nat.le_of_ble_eq_true rfl) ?_
         | refine Need.mk (by intros; (try simp only [length_strs] at *); (try simp only [length_rows] at *); (try simp only [length_oldLL, List.length_map] at *); (try simp only [Bool.and_eq_true, decide_eq_true_eq] at *); omega) ?_
         | refine Need.mk ?_ ?_
         | refine Ix.strs rfl (by intros; (try simp only [length_strs] at *); (try simp only [length_rows] at *); (try simp only [length_oldLL, List.length_map] at *); (try simp only [Bool.and_eq_true, decide_eq_true_eq] at *); omega) ?_
         | refine Ix.strs rfl ?_ ?_
         | refine Cut.strs rfl ?_ ?_
         | refine Ix.map (fun _ => rfl) (by intros; (try simp only [length_strs] at *); (try simp only [length_rows] at *); (try simp only [length_oldLL, List.length_map] at *); (try simp only [Bool.and_eq_true, decide_eq_true_eq] at *); omega) ?_
         | refine Ix.map (fun _ => rfl) ?_ ?_
         | refine Cut.map (fun _ => rfl) ?_ ?_
         | refine Fork.yes (by assumption) ?_
         | refine Fork.no (by assumption) ?_
         | refine Fork.decYes (by omega) ?_
         | refine Fork.decNo (by omega) ?_
         | refine Fork.dec (fun _ => ?_) (fun _ => ?_)
         | refine Fork.bne (fun _ => ?_) (fun _ => ?_)
         | refine Fork.beq (fun _ => ?_) (fun _ => ?_)
         | refine Fork.seq (fun _ => ?_) (fun _ => ?_)
         | refine Fork.sne (fun _ => ?_) (fun _ => ?_)
         | refine Fork.neg (fun _ => ?_) (fun _ => ?_)
         | refine Fork.mk (fun _ => ?_) (fun _ => ?_)
         | refine Round.mk ?_
         | refine NilQ.mk (fun b hb => ?_)
         | refine forceK_of ?_
         | refine forceBx_of ?_
         | refine unG_old ?_
         | refine unG_gv ?_
         | refine Lit.read rfl ?_
         | refine FinVal.keep ?_
         | refine FinAgg.keep ?_
         | refine Final.mk rfl rfl
         | refine Final.mk ?_ rfl
         | refine Final.mk ?_ ?_
         | refine FinalT.mk ?_ ?_
         | refine ACall.scal _ _ (psameFact.ret _ _ ?_) rfl (by repeat' first | exact SeesL.nil | refine SeesL.cons ?_ ?_ | exact SeesB.of0 (Sees0.val _) | exact SeesB.of0 (Sees0.str _) | exact SeesB.of0 (Sees0.olds _ _) | exact SeesB.of0 (Sees0.old _) | exact SeesB.of0 (Sees0.oldagg _) | exact SeesB.of0 Sees0.nil | exact Sees0.val _ | exact Sees0.str _ | exact Sees0.olds _ _ | exact Sees0.old _ | exact Sees0.oldagg _ | exact Sees0.nil | exact SeesB.of0 (Sees0.any _) | assumption | exact sees_gv _ _ _ (by assumption) (by first | assumption | exact BoxIn.last _ _ | exact BoxIn.more (BoxIn.last _ _) _) | refine SeesB.agg ?_ | refine Sees0.agg ?_ | exact SeesB.of0 (Sees0.clo SeesL.nil SeesL.nil) | exact Sees0.clo SeesL.nil SeesL.nil) ?_
         | refine AQCall.mk _ _ (fun hg => psameFact.ret _ _ ?_) rfl (fun _ => (by repeat' first | exact SeesL.nil | refine SeesL.cons ?_ ?_ | exact SeesB.of0 (Sees0.val _) | exact SeesB.of0 (Sees0.str _) | exact SeesB.of0 (Sees0.olds _ _) | exact SeesB.of0 (Sees0.old _) | exact SeesB.of0 (Sees0.oldagg _) | exact SeesB.of0 Sees0.nil | exact Sees0.val _ | exact Sees0.str _ | exact Sees0.olds _ _ | exact Sees0.old _ | exact Sees0.oldagg _ | exact Sees0.nil | exact SeesB.of0 (Sees0.any _) | assumption | exact sees_gv _ _ _ (by assumption) (by first | assumption | exact BoxIn.last _ _ | exact BoxIn.more (BoxIn.last _ _) _) | refine SeesB.agg ?_ | refine Sees0.agg ?_ | exact SeesB.of0 (Sees0.clo SeesL.nil SeesL.nil) | exact Sees0.clo SeesL.nil SeesL.nil)) ?_)
    | refine AV.bool_congr ?_
    | refine AV.int_congr ?_
    | refine AV.str_congr ?_
    | refine AV.list_congr ?_
    | with_reducible rfl
    | refine fr1 ?_
    | refine fr2 ?_ ?_
  all_goals try simp only [length_rows, length_strs, length_oldLL, List.length_map, Int.toNat_natCast] at *
  · have := fct_le (l := l) (i := i) (by omega); omega
  · rename_i h1 h2
    have h3 := findF_drop (l := l) (f := f) (i := i) (by omega)
    rw [if_pos (by simpa using h2), hi.2] at h3
    exact h3.symm
  · rename_i h1 h2
    have h3 := findF_drop (l := l) (f := f) (i := i) (by omega)
    rw [if_neg (by simpa using h2), hi.2] at h3
    refine ⟨i + 1, ⟨by omega, h3.symm⟩, ?_, by omega⟩
    repeat' first
      | exact trivial
      | refine Weak.mk ?_ ?_ ?_ ?_ (Or.inl (Nat.le_of_ble_eq_true rfl))
      | refine Weak.mk ?_ ?_ ?_ ?_ (Or.inr ⟨(by repeat' first | exact trivial | exact Nat.le_of_ble_eq_true rfl | refine And.intro ?_ ?_), (by repeat' first | exact trivial | exact Nat.le_of_ble_eq_true rfl | refine And.intro ?_ ?_)⟩)
      | refine Weak.mk ?_ ?_ ?_ ?_ ?_
      | refine And.intro ?_ ?_
      | with_reducible rfl
      | exact Nat.le_of_ble_eq_true rfl
      | refine fr1 ?_
      | refine fr2 ?_ ?_
      | refine AV.int_congr ?_
      | refine AV.bool_congr ?_
      | refine AV.str_congr ?_
      | refine AV.list_congr ?_
      | refine AV.bsl_congr ?_ ?_
      | (apply rfl)
    rw [wrap64 (by omega) (by omega)]; rfl
  · have := hi.2
    rw [List.drop_eq_nil_of_le (by omega)] at this
    rw [← this]; rfl
def badAt (l : List Fct) (i : Nat) : Bool := !isFactF (l.getD i default) || (decide ((0 : Int) < i) && decide (0 ≤ cmpF (l.getD (i - 1) default) (l.getD i default)))
@[irreducible] def areF (l : List Fct) : Bool := decide ((l.length : Int) ≤ 24) && (List.range l.length).all fun i => !badAt l i
theorem areF_no {l : List Fct} {i : Nat} (hi : i < l.length) (h : badAt l i = true) : areF l = false := by
  have : ((List.range l.length).all fun i => !badAt l i) = false := by
    rw [List.all_eq_false]
    exact ⟨i, List.mem_range.2 hi, by simp [h]⟩
  unfold areF; rw [this, Bool.and_false]
theorem areF_yes {l : List Fct} (h : ∀ j, j < l.length → badAt l j = false) : areF l = decide ((l.length : Int) ≤ 24) := by
  have : ((List.range l.length).all fun i => !badAt l i) = true := by
    rw [List.all_eq_true]
    intro j hj
    simp [h j (List.mem_range.1 hj)]
  unfold areF; rw [this, Bool.and_true]
theorem badAt_step {l : List Fct} {i : Nat} {x : Int} (hi : i < l.length) (hx : x = (i : Int) - 1) :
    (!isFactF (l.getD i default) || (decide ((0 : Int) < (i : Int)) && decide (0 ≤ cmpF (l.getD x.toNat default) (l.getD i default)))) = badAt l i := by
  subst hx
  unfold badAt
  rw [show ((i : Int) - 1).toNat = i - 1 by omega]
theorem sAreFacts.ret (l : List Fct) (h : tFcts.size l ≤ 1048576) : sAreFacts.Ret [.list none (facts l)] (.val (.bool (areF l))) [] := by
  refine sAreFacts.of rfl ?_
  rw [tFcts_size] at h
  repeat' first
    | contradiction
    | (conv => whnf
       first
         | refine Need.mk (fun h => h) ?_
         | refine Need.mk rfl ?_
         | refine Need.mk ⟨rfl, Nat.le_of_ble_eq_true rfl⟩ ?_
         | refine Need.mk (Nat.le_of_ble_eq_true rfl) ?_
         | refine Need.mk (by intros; (try simp only [length_strs] at *); (try simp only [length_rows] at *); (try simp only [length_oldLL, List.length_map] at *); (try simp only [Bool.and_eq_true, decide_eq_true_eq] at *); omega) ?_
         | refine Need.mk ?_ ?_
         | refine Ix.strs rfl (by intros; (try simp only [length_strs] at *); (try simp only [length_rows] at *); (try simp only [length_oldLL, List.length_map] at *); (try simp only [Bool.and_eq_true, decide_eq_true_eq] at *); omega) ?_
         | refine Ix.strs rfl ?_ ?_
         | refine Cut.strs rfl ?_ ?_
         | refine Ix.map (fun _ => rfl) (by intros; (try simp only [length_strs] at *); (try simp only [length_rows] at *); (try simp only [length_oldLL, List.length_map] at *); (try simp only [Bool.and_eq_true, decide_eq_true_eq] at *); omega) ?_
         | refine Ix.map (fun _ => rfl) ?_ ?_
         | refine Cut.map (fun _ => rfl) ?_ ?_
         | refine Fork.yes (by assumption) ?_
         | refine Fork.no (by assumption) ?_
         | refine Fork.decYes (by omega) ?_
         | refine Fork.decNo (by omega) ?_
         | refine Fork.dec (fun _ => ?_) (fun _ => ?_)
         | refine Fork.bne (fun _ => ?_) (fun _ => ?_)
         | refine Fork.beq (fun _ => ?_) (fun _ => ?_)
         | refine Fork.seq (fun _ => ?_) (fun _ => ?_)
         | refine Fork.sne (fun _ => ?_) (fun _ => ?_)
         | refine Fork.neg (fun _ => ?_) (fun _ => ?_)
         | refine Fork.mk (fun _ => ?_) (fun _ => ?_)
         | refine Round.mk ?_
         | refine NilQ.mk (fun b hb => ?_)
         | refine forceK_of ?_
         | refine forceBx_of ?_
         | refine unG_old ?_
         | refine unG_gv ?_
         | refine Lit.read rfl ?_
         | refine FinVal.keep ?_
         | refine FinAgg.keep ?_
         | refine Final.mk rfl rfl
         | refine Final.mk ?_ rfl
         | refine Final.mk ?_ ?_
         | refine FinalT.mk ?_ ?_)
    | refine AV.bool_congr ?_
    | refine AV.int_congr ?_
    | refine AV.str_congr ?_
    | refine AV.list_congr ?_
    | with_reducible rfl
    | refine fr1 ?_
    | refine fr2 ?_ ?_
  refine ALoop.mk Nat (fun i => ⟨[(0, .list none (facts l)), (3, .val (.int .i64 i))], [], []⟩) (fun i => i ≤ l.length ∧ ∀ j, j < i → badAt l j = false) (fun i => l.length - i) ⟨0, ⟨Nat.zero_le _, by omega⟩, ?_⟩ (fun i hi => ?_)
  · repeat' first
      | exact trivial
      | refine Weak.mk ?_ ?_ ?_ ?_ (Or.inl (Nat.le_of_ble_eq_true rfl))
      | refine Weak.mk ?_ ?_ ?_ ?_ (Or.inr ⟨(by repeat' first | exact trivial | exact Nat.le_of_ble_eq_true rfl | refine And.intro ?_ ?_), (by repeat' first | exact trivial | exact Nat.le_of_ble_eq_true rfl | refine And.intro ?_ ?_)⟩)
      | refine Weak.mk ?_ ?_ ?_ ?_ ?_
      | refine And.intro ?_ ?_
      | with_reducible rfl
      | exact Nat.le_of_ble_eq_true rfl
      | refine fr1 ?_
      | refine fr2 ?_ ?_
      | refine AV.int_congr ?_
      | refine AV.bool_congr ?_
      | refine AV.str_congr ?_
      | refine AV.list_congr ?_
      | refine AV.bsl_congr ?_ ?_
      | (apply rfl)
  have hw : i < l.length → IntKind.i64.wrap ((i : Int) - 1) = (i : Int) - 1 := fun h => wrap64 (by omega) (by omega)
  repeat' first
    | contradiction
    | (conv => whnf
       first
         | refine Need.mk (fun h => h) ?_
         | refine Need.mk rfl ?_
         | refine Need.mk ⟨rfl, Nat.le_of_ble_eq_true rfl⟩ ?_
         | refine Need.mk (Nat.le_of_ble_eq_true rfl) ?_
         | refine Need.mk (by intros; (try simp only [length_strs] at *); (try simp only [length_rows] at *); (try simp only [length_oldLL, List.length_map] at *); (try simp only [Bool.and_eq_true, decide_eq_true_eq] at *); omega) ?_
         | refine Need.mk ?_ ?_
         | refine Ix.strs rfl (by intros; (try simp only [length_strs] at *); (try simp only [length_rows] at *); (try simp only [length_oldLL, List.length_map] at *); (try simp only [Bool.and_eq_true, decide_eq_true_eq] at *); omega) ?_
         | refine Ix.strs rfl ?_ ?_
         | refine Cut.strs rfl ?_ ?_
         | refine Ix.map (fun _ => rfl) (by intros; (try simp only [length_strs] at *); (try simp only [length_rows] at *); (try simp only [length_oldLL, List.length_map] at *); (try simp only [Bool.and_eq_true, decide_eq_true_eq] at *); omega) ?_
         | refine Ix.map (fun _ => rfl) ?_ ?_
         | refine Cut.map (fun _ => rfl) ?_ ?_
         | refine Fork.yes (by assumption) ?_
         | refine Fork.no (by assumption) ?_
         | refine Fork.decYes (by omega) ?_
         | refine Fork.decNo (by omega) ?_
         | refine Fork.dec (fun _ => ?_) (fun _ => ?_)
         | refine Fork.bne (fun _ => ?_) (fun _ => ?_)
         | refine Fork.beq (fun _ => ?_) (fun _ => ?_)
         | refine Fork.seq (fun _ => ?_) (fun _ => ?_)
         | refine Fork.sne (fun _ => ?_) (fun _ => ?_)
         | refine Fork.neg (fun _ => ?_) (fun _ => ?_)
         | refine Fork.mk (fun _ => ?_) (fun _ => ?_)
         | refine Round.mk ?_
         | refine NilQ.mk (fun b hb => ?_)
         | refine forceK_of ?_
         | refine forceBx_of ?_
         | refine unG_old ?_
         | refine unG_gv ?_
         | refine Lit.read rfl ?_
         | refine FinVal.keep ?_
         | refine FinAgg.keep ?_
         | refine Final.mk rfl rfl
         | refine Final.mk ?_ rfl
         | refine Final.mk ?_ ?_
         | refine FinalT.mk ?_ ?_
         | refine ACall.scal _ _ (sIsFact.ret _ ?_) rfl (by repeat' first | exact SeesL.nil | refine SeesL.cons ?_ ?_ | exact SeesB.of0 (Sees0.val _) | exact SeesB.of0 (Sees0.str _) | exact SeesB.of0 (Sees0.olds _ _) | exact SeesB.of0 (Sees0.old _) | exact SeesB.of0 (Sees0.oldagg _) | exact SeesB.of0 Sees0.nil | exact Sees0.val _ | exact Sees0.str _ | exact Sees0.olds _ _ | exact Sees0.old _ | exact Sees0.oldagg _ | exact Sees0.nil | exact SeesB.of0 (Sees0.any _) | assumption | exact sees_gv _ _ _ (by assumption) (by first | assumption | exact BoxIn.last _ _ | exact BoxIn.more (BoxIn.last _ _) _) | refine SeesB.agg ?_ | refine Sees0.agg ?_ | exact SeesB.of0 (Sees0.clo SeesL.nil SeesL.nil) | exact Sees0.clo SeesL.nil SeesL.nil) ?_
         | refine AQCall.mk _ _ (fun hg => sIsFact.ret _ ?_) rfl (fun _ => (by repeat' first | exact SeesL.nil | refine SeesL.cons ?_ ?_ | exact SeesB.of0 (Sees0.val _) | exact SeesB.of0 (Sees0.str _) | exact SeesB.of0 (Sees0.olds _ _) | exact SeesB.of0 (Sees0.old _) | exact SeesB.of0 (Sees0.oldagg _) | exact SeesB.of0 Sees0.nil | exact Sees0.val _ | exact Sees0.str _ | exact Sees0.olds _ _ | exact Sees0.old _ | exact Sees0.oldagg _ | exact Sees0.nil | exact SeesB.of0 (Sees0.any _) | assumption | exact sees_gv _ _ _ (by assumption) (by first | assumption | exact BoxIn.last _ _ | exact BoxIn.more (BoxIn.last _ _) _) | refine SeesB.agg ?_ | refine Sees0.agg ?_ | exact SeesB.of0 (Sees0.clo SeesL.nil SeesL.nil) | exact Sees0.clo SeesL.nil SeesL.nil)) ?_
         | refine ACall.scal _ _ (sCompareFacts.ret _ _ ?_ ?_) rfl (by repeat' first | exact SeesL.nil | refine SeesL.cons ?_ ?_ | exact SeesB.of0 (Sees0.val _) | exact SeesB.of0 (Sees0.str _) | exact SeesB.of0 (Sees0.olds _ _) | exact SeesB.of0 (Sees0.old _) | exact SeesB.of0 (Sees0.oldagg _) | exact SeesB.of0 Sees0.nil | exact Sees0.val _ | exact Sees0.str _ | exact Sees0.olds _ _ | exact Sees0.old _ | exact Sees0.oldagg _ | exact Sees0.nil | exact SeesB.of0 (Sees0.any _) | assumption | exact sees_gv _ _ _ (by assumption) (by first | assumption | exact BoxIn.last _ _ | exact BoxIn.more (BoxIn.last _ _) _) | refine SeesB.agg ?_ | refine Sees0.agg ?_ | exact SeesB.of0 (Sees0.clo SeesL.nil SeesL.nil) | exact Sees0.clo SeesL.nil SeesL.nil) ?_
         | refine AQCall.mk _ _ (fun hg => sCompareFacts.ret _ _ ?_ ?_) rfl (fun _ => (by repeat' first | exact SeesL.nil | refine SeesL.cons ?_ ?_ | exact SeesB.of0 (Sees0.val _) | exact SeesB.of0 (Sees0.str _) | exact SeesB.of0 (Sees0.olds _ _) | exact SeesB.of0 (Sees0.old _) | exact SeesB.of0 (Sees0.oldagg _) | exact SeesB.of0 Sees0.nil | exact Sees0.val _ | exact Sees0.str _ | exact Sees0.olds _ _ | exact Sees0.old _ | exact Sees0.oldagg _ | exact Sees0.nil | exact SeesB.of0 (Sees0.any _) | assumption | exact sees_gv _ _ _ (by assumption) (by first | assumption | exact BoxIn.last _ _ | exact BoxIn.more (BoxIn.last _ _) _) | refine SeesB.agg ?_ | refine Sees0.agg ?_ | exact SeesB.of0 (Sees0.clo SeesL.nil SeesL.nil) | exact Sees0.clo SeesL.nil SeesL.nil)) ?_)
    | refine AV.bool_congr ?_
    | refine AV.int_congr ?_
    | refine AV.str_congr ?_
    | refine AV.list_congr ?_
    | with_reducible rfl
    | refine fr1 ?_
    | refine fr2 ?_ ?_
  all_goals try simp only [length_rows, length_strs, length_oldLL, List.length_map, Int.toNat_natCast] at *
  · exact Nat.le_trans (fct_le' _) (by omega)
  · exact Nat.le_trans (fct_le' _) (by omega)
  · exact Nat.le_trans (fct_le' _) (by omega)
  · rename_i h1 h2
    rw [badAt_step (by omega) (hw (by omega))] at h1
    rw [areF_no (by omega) h1]
  · rename_i h1 h2
    rw [badAt_step (by omega) (hw (by omega))] at h1
    refine ⟨i + 1, ⟨by omega, fun j hj => ?_⟩, ?_, by omega⟩
    · rcases Nat.lt_or_ge j i with h | h
      · exact hi.2 j h
      · have : j = i := by omega
        subst this; exact h1
    · repeat' first
        | exact trivial
        | refine Weak.mk ?_ ?_ ?_ ?_ (Or.inl (Nat.le_of_ble_eq_true rfl))
        | refine Weak.mk ?_ ?_ ?_ ?_ (Or.inr ⟨(by repeat' first | exact trivial | exact Nat.le_of_ble_eq_true rfl | refine And.intro ?_ ?_), (by repeat' first | exact trivial | exact Nat.le_of_ble_eq_true rfl | refine And.intro ?_ ?_)⟩)
        | refine Weak.mk ?_ ?_ ?_ ?_ ?_
        | refine And.intro ?_ ?_
        | with_reducible rfl
        | exact Nat.le_of_ble_eq_true rfl
        | refine fr1 ?_
        | refine fr2 ?_ ?_
        | refine AV.int_congr ?_
        | refine AV.bool_congr ?_
        | refine AV.str_congr ?_
        | refine AV.list_congr ?_
        | refine AV.bsl_congr ?_ ?_
        | (apply rfl)
      rw [wrap64 (by omega) (by omega)]; rfl
  · rw [areF_yes (fun j hj => hi.2 j (by omega))]
theorem areF_long {l : List Fct} (h : ¬ (l.length : Int) ≤ 24) : areF l = false := by unfold areF; simp [h]
theorem pAreFacts.ret (l : List Fct) (h : tFcts.size l ≤ 1048576) : pAreFacts.Ret [.list none (facts l)] (.val (.bool (areF l))) [] := by
  refine pAreFacts.of rfl ?_
  rw [tFcts_size] at h
  repeat' first
    | contradiction
    | (conv => whnf
       first
         | refine Need.mk (fun h => h) ?_
         | refine Need.mk rfl ?_
         | refine Need.mk ⟨rfl, Nat.le_of_ble_eq_true rfl⟩ ?_
         | refine Need.mk (Nat.le_of_ble_eq_true rfl) ?_
         | refine Need.mk (by intros; (try simp only [length_strs] at *); (try simp only [length_rows] at *); (try simp only [length_oldLL, List.length_map] at *); (try simp only [Bool.and_eq_true, decide_eq_true_eq] at *); omega) ?_
         | refine Need.mk ?_ ?_
         | refine Ix.strs rfl (by intros; (try simp only [length_strs] at *); (try simp only [length_rows] at *); (try simp only [length_oldLL, List.length_map] at *); (try simp only [Bool.and_eq_true, decide_eq_true_eq] at *); omega) ?_
         | refine Ix.strs rfl ?_ ?_
         | refine Cut.strs rfl ?_ ?_
         | refine Ix.map (fun _ => rfl) (by intros; (try simp only [length_strs] at *); (try simp only [length_rows] at *); (try simp only [length_oldLL, List.length_map] at *); (try simp only [Bool.and_eq_true, decide_eq_true_eq] at *); omega) ?_
         | refine Ix.map (fun _ => rfl) ?_ ?_
         | refine Cut.map (fun _ => rfl) ?_ ?_
         | refine Fork.yes (by assumption) ?_
         | refine Fork.no (by assumption) ?_
         | refine Fork.decYes (by omega) ?_
         | refine Fork.decNo (by omega) ?_
         | refine Fork.dec (fun _ => ?_) (fun _ => ?_)
         | refine Fork.bne (fun _ => ?_) (fun _ => ?_)
         | refine Fork.beq (fun _ => ?_) (fun _ => ?_)
         | refine Fork.seq (fun _ => ?_) (fun _ => ?_)
         | refine Fork.sne (fun _ => ?_) (fun _ => ?_)
         | refine Fork.neg (fun _ => ?_) (fun _ => ?_)
         | refine Fork.mk (fun _ => ?_) (fun _ => ?_)
         | refine Round.mk ?_
         | refine NilQ.mk (fun b hb => ?_)
         | refine forceK_of ?_
         | refine forceBx_of ?_
         | refine unG_old ?_
         | refine unG_gv ?_
         | refine Lit.read rfl ?_
         | refine FinVal.keep ?_
         | refine FinAgg.keep ?_
         | refine Final.mk rfl rfl
         | refine Final.mk ?_ rfl
         | refine Final.mk ?_ ?_
         | refine FinalT.mk ?_ ?_)
    | refine AV.bool_congr ?_
    | refine AV.int_congr ?_
    | refine AV.str_congr ?_
    | refine AV.list_congr ?_
    | with_reducible rfl
    | refine fr1 ?_
    | refine fr2 ?_ ?_
  · rename_i h1
    rw [length_rows] at h1
    rw [areF_long (by omega)]
  rename_i h24
  rw [length_rows] at h24
  repeat' first
    | contradiction
    | (conv => whnf
       first
         | refine Need.mk (fun h => h) ?_
         | refine Need.mk rfl ?_
         | refine Need.mk ⟨rfl, Nat.le_of_ble_eq_true rfl⟩ ?_
         | refine Need.mk (Nat.le_of_ble_eq_true rfl) ?_
         | refine Need.mk (by intros; (try simp only [length_strs] at *); (try simp only [length_rows] at *); (try simp only [length_oldLL, List.length_map] at *); (try simp only [Bool.and_eq_true, decide_eq_true_eq] at *); omega) ?_
         | refine Need.mk ?_ ?_
         | refine Ix.strs rfl (by intros; (try simp only [length_strs] at *); (try simp only [length_rows] at *); (try simp only [length_oldLL, List.length_map] at *); (try simp only [Bool.and_eq_true, decide_eq_true_eq] at *); omega) ?_
         | refine Ix.strs rfl ?_ ?_
         | refine Cut.strs rfl ?_ ?_
         | refine Ix.map (fun _ => rfl) (by intros; (try simp only [length_strs] at *); (try simp only [length_rows] at *); (try simp only [length_oldLL, List.length_map] at *); (try simp only [Bool.and_eq_true, decide_eq_true_eq] at *); omega) ?_
         | refine Ix.map (fun _ => rfl) ?_ ?_
         | refine Cut.map (fun _ => rfl) ?_ ?_
         | refine Fork.yes (by assumption) ?_
         | refine Fork.no (by assumption) ?_
         | refine Fork.decYes (by omega) ?_
         | refine Fork.decNo (by omega) ?_
         | refine Fork.dec (fun _ => ?_) (fun _ => ?_)
         | refine Fork.bne (fun _ => ?_) (fun _ => ?_)
         | refine Fork.beq (fun _ => ?_) (fun _ => ?_)
         | refine Fork.seq (fun _ => ?_) (fun _ => ?_)
         | refine Fork.sne (fun _ => ?_) (fun _ => ?_)
         | refine Fork.neg (fun _ => ?_) (fun _ => ?_)
         | refine Fork.mk (fun _ => ?_) (fun _ => ?_)
         | refine Round.mk ?_
         | refine NilQ.mk (fun b hb => ?_)
         | refine forceK_of ?_
         | refine forceBx_of ?_
         | refine unG_old ?_
         | refine unG_gv ?_
         | refine Lit.read rfl ?_
         | refine FinVal.keep ?_
         | refine FinAgg.keep ?_
         | refine Final.mk rfl rfl
         | refine Final.mk ?_ rfl
         | refine Final.mk ?_ ?_
         | refine FinalT.mk ?_ ?_)
    | refine AV.bool_congr ?_
    | refine AV.int_congr ?_
    | refine AV.str_congr ?_
    | refine AV.list_congr ?_
    | with_reducible rfl
    | refine fr1 ?_
    | refine fr2 ?_ ?_
  refine ALoop.mk Nat (fun i => ⟨[(0, .list none (facts l)), (8, .list none (facts l)), (9, .val (.int .i64 l.length)), (10, .val (.int .i64 i))], [], []⟩) (fun i => i ≤ l.length ∧ ∀ j, j < i → badAt l j = false) (fun i => l.length - i) ⟨0, ⟨Nat.zero_le _, by omega⟩, ?_⟩ (fun i hi => ?_)
  · repeat' first
      | exact trivial
      | refine Weak.mk ?_ ?_ ?_ ?_ (Or.inl (Nat.le_of_ble_eq_true rfl))
      | refine Weak.mk ?_ ?_ ?_ ?_ (Or.inr ⟨(by repeat' first | exact trivial | exact Nat.le_of_ble_eq_true rfl | refine And.intro ?_ ?_), (by repeat' first | exact trivial | exact Nat.le_of_ble_eq_true rfl | refine And.intro ?_ ?_)⟩)
      | refine Weak.mk ?_ ?_ ?_ ?_ ?_
      | refine And.intro ?_ ?_
      | with_reducible rfl
      | exact Nat.le_of_ble_eq_true rfl
      | refine fr1 ?_
      | refine fr2 ?_ ?_
      | refine AV.int_congr ?_
      | refine AV.bool_congr ?_
      | refine AV.str_congr ?_
      | refine AV.list_congr ?_
      | refine AV.bsl_congr ?_ ?_
      | (apply rfl)
    simp
  have hw : i < l.length → IntKind.i64.wrap ((i : Int) - 1) = (i : Int) - 1 := fun h => wrap64 (by omega) (by omega)
  repeat' first
    | contradiction
    | (conv => whnf
       first
         | refine Need.mk (fun h => h) ?_
         | refine Need.mk rfl ?_
         | refine Need.mk ⟨rfl, Nat.le_of_ble_eq_true rfl⟩ ?_
         | refine Need.mk (Nat.le_of_ble_eq_true rfl) ?_
         | refine Need.mk (by intros; (try simp only [length_strs] at *); (try simp only [length_rows] at *); (try simp only [length_oldLL, List.length_map] at *); (try simp only [Bool.and_eq_true, decide_eq_true_eq] at *); omega) ?_
         | refine Need.mk ?_ ?_
         | refine Ix.strs rfl (by intros; (try simp only [length_strs] at *); (try simp only [length_rows] at *); (try simp only [length_oldLL, List.length_map] at *); (try simp only [Bool.and_eq_true, decide_eq_true_eq] at *); omega) ?_
         | refine Ix.strs rfl ?_ ?_
         | refine Cut.strs rfl ?_ ?_
         | refine Ix.map (fun _ => rfl) (by intros; (try simp only [length_strs] at *); (try simp only [length_rows] at *); (try simp only [length_oldLL, List.length_map] at *); (try simp only [Bool.and_eq_true, decide_eq_true_eq] at *); omega) ?_
         | refine Ix.map (fun _ => rfl) ?_ ?_
         | refine Cut.map (fun _ => rfl) ?_ ?_
         | refine Fork.yes (by assumption) ?_
         | refine Fork.no (by assumption) ?_
         | refine Fork.decYes (by omega) ?_
         | refine Fork.decNo (by omega) ?_
         | refine Fork.dec (fun _ => ?_) (fun _ => ?_)
         | refine Fork.bne (fun _ => ?_) (fun _ => ?_)
         | refine Fork.beq (fun _ => ?_) (fun _ => ?_)
         | refine Fork.seq (fun _ => ?_) (fun _ => ?_)
         | refine Fork.sne (fun _ => ?_) (fun _ => ?_)
         | refine Fork.neg (fun _ => ?_) (fun _ => ?_)
         | refine Fork.mk (fun _ => ?_) (fun _ => ?_)
         | refine Round.mk ?_
         | refine NilQ.mk (fun b hb => ?_)
         | refine forceK_of ?_
         | refine forceBx_of ?_
         | refine unG_old ?_
         | refine unG_gv ?_
         | refine Lit.read rfl ?_
         | refine FinVal.keep ?_
         | refine FinAgg.keep ?_
         | refine Final.mk rfl rfl
         | refine Final.mk ?_ rfl
         | refine Final.mk ?_ ?_
         | refine FinalT.mk ?_ ?_
         | refine ACall.scal _ _ (pIsFact.ret _ ?_) rfl (by repeat' first | exact SeesL.nil | refine SeesL.cons ?_ ?_ | exact SeesB.of0 (Sees0.val _) | exact SeesB.of0 (Sees0.str _) | exact SeesB.of0 (Sees0.olds _ _) | exact SeesB.of0 (Sees0.old _) | exact SeesB.of0 (Sees0.oldagg _) | exact SeesB.of0 Sees0.nil | exact Sees0.val _ | exact Sees0.str _ | exact Sees0.olds _ _ | exact Sees0.old _ | exact Sees0.oldagg _ | exact Sees0.nil | exact SeesB.of0 (Sees0.any _) | assumption | exact sees_gv _ _ _ (by assumption) (by first | assumption | exact BoxIn.last _ _ | exact BoxIn.more (BoxIn.last _ _) _) | refine SeesB.agg ?_ | refine Sees0.agg ?_ | exact SeesB.of0 (Sees0.clo SeesL.nil SeesL.nil) | exact Sees0.clo SeesL.nil SeesL.nil) ?_
         | refine AQCall.mk _ _ (fun hg => pIsFact.ret _ ?_) rfl (fun _ => (by repeat' first | exact SeesL.nil | refine SeesL.cons ?_ ?_ | exact SeesB.of0 (Sees0.val _) | exact SeesB.of0 (Sees0.str _) | exact SeesB.of0 (Sees0.olds _ _) | exact SeesB.of0 (Sees0.old _) | exact SeesB.of0 (Sees0.oldagg _) | exact SeesB.of0 Sees0.nil | exact Sees0.val _ | exact Sees0.str _ | exact Sees0.olds _ _ | exact Sees0.old _ | exact Sees0.oldagg _ | exact Sees0.nil | exact SeesB.of0 (Sees0.any _) | assumption | exact sees_gv _ _ _ (by assumption) (by first | assumption | exact BoxIn.last _ _ | exact BoxIn.more (BoxIn.last _ _) _) | refine SeesB.agg ?_ | refine Sees0.agg ?_ | exact SeesB.of0 (Sees0.clo SeesL.nil SeesL.nil) | exact Sees0.clo SeesL.nil SeesL.nil)) ?_
         | refine ACall.scal _ _ (pCompareFacts.ret _ _ ?_ ?_) rfl (by repeat' first | exact SeesL.nil | refine SeesL.cons ?_ ?_ | exact SeesB.of0 (Sees0.val _) | exact SeesB.of0 (Sees0.str _) | exact SeesB.of0 (Sees0.olds _ _) | exact SeesB.of0 (Sees0.old _) | exact SeesB.of0 (Sees0.oldagg _) | exact SeesB.of0 Sees0.nil | exact Sees0.val _ | exact Sees0.str _ | exact Sees0.olds _ _ | exact Sees0.old _ | exact Sees0.oldagg _ | exact Sees0.nil | exact SeesB.of0 (Sees0.any _) | assumption | exact sees_gv _ _ _ (by assumption) (by first | assumption | exact BoxIn.last _ _ | exact BoxIn.more (BoxIn.last _ _) _) | refine SeesB.agg ?_ | refine Sees0.agg ?_ | exact SeesB.of0 (Sees0.clo SeesL.nil SeesL.nil) | exact Sees0.clo SeesL.nil SeesL.nil) ?_
         | refine AQCall.mk _ _ (fun hg => pCompareFacts.ret _ _ ?_ ?_) rfl (fun _ => (by repeat' first | exact SeesL.nil | refine SeesL.cons ?_ ?_ | exact SeesB.of0 (Sees0.val _) | exact SeesB.of0 (Sees0.str _) | exact SeesB.of0 (Sees0.olds _ _) | exact SeesB.of0 (Sees0.old _) | exact SeesB.of0 (Sees0.oldagg _) | exact SeesB.of0 Sees0.nil | exact Sees0.val _ | exact Sees0.str _ | exact Sees0.olds _ _ | exact Sees0.old _ | exact Sees0.oldagg _ | exact Sees0.nil | exact SeesB.of0 (Sees0.any _) | assumption | exact sees_gv _ _ _ (by assumption) (by first | assumption | exact BoxIn.last _ _ | exact BoxIn.more (BoxIn.last _ _) _) | refine SeesB.agg ?_ | refine Sees0.agg ?_ | exact SeesB.of0 (Sees0.clo SeesL.nil SeesL.nil) | exact Sees0.clo SeesL.nil SeesL.nil)) ?_)
    | refine AV.bool_congr ?_
    | refine AV.int_congr ?_
    | refine AV.str_congr ?_
    | refine AV.list_congr ?_
    | with_reducible rfl
    | refine fr1 ?_
    | refine fr2 ?_ ?_
  all_goals try simp only [length_rows, length_strs, length_oldLL, List.length_map, Int.toNat_natCast] at *
  · exact Nat.le_trans (fct_le' _) (by omega)
  · exact Nat.le_trans (fct_le' _) (by omega)
  · exact Nat.le_trans (fct_le' _) (by omega)
  · rename_i h2 h1
    rw [badAt_step (by omega) (hw (by omega))] at h1
    rw [areF_no (by omega) h1]
  · rename_i h2 h1
    rw [badAt_step (by omega) (hw (by omega))] at h1
    refine ⟨i + 1, ⟨by omega, fun j hj => ?_⟩, ?_, by omega⟩
    · rcases Nat.lt_or_ge j i with h | h
      · exact hi.2 j h
      · have : j = i := by omega
        subst this; exact h1
    · repeat' first
        | exact trivial
        | refine Weak.mk ?_ ?_ ?_ ?_ (Or.inl (Nat.le_of_ble_eq_true rfl))
        | refine Weak.mk ?_ ?_ ?_ ?_ (Or.inr ⟨(by repeat' first | exact trivial | exact Nat.le_of_ble_eq_true rfl | refine And.intro ?_ ?_), (by repeat' first | exact trivial | exact Nat.le_of_ble_eq_true rfl | refine And.intro ?_ ?_)⟩)
        | refine Weak.mk ?_ ?_ ?_ ?_ ?_
        | refine And.intro ?_ ?_
        | with_reducible rfl
        | exact Nat.le_of_ble_eq_true rfl
        | refine fr1 ?_
        | refine fr2 ?_ ?_
        | refine AV.int_congr ?_
        | refine AV.bool_congr ?_
        | refine AV.str_congr ?_
        | refine AV.list_congr ?_
        | refine AV.bsl_congr ?_ ?_
        | (apply rfl)
      rw [wrap64 (by omega) (by omega)]; rfl
  · rw [areF_yes (fun j hj => hi.2 j (by omega))]; simp; omega
theorem sSameFacts.ret (l m : List Fct) (h : tFcts.size l ≤ 1048576) : sSameFacts.Ret [.list none (facts l), .list none (facts m)] (.val (.bool (decide (l = m)))) [] := by
  refine sSameFacts.of rfl ?_
  rw [tFcts_size] at h
  repeat' first
    | contradiction
    | (conv => whnf
       first
         | refine Need.mk (fun h => h) ?_
         | refine Need.mk rfl ?_
         | refine Need.mk ⟨rfl, Nat.le_of_ble_eq_true rfl⟩ ?_
         | refine Need.mk (Nat.le_of_ble_eq_true rfl) ?_
         | refine Need.mk (by intros; (try simp only [length_strs] at *); (try simp only [length_rows] at *); (try simp only [length_oldLL, List.length_map] at *); (try simp only [Bool.and_eq_true, decide_eq_true_eq] at *); omega) ?_
         | refine Need.mk ?_ ?_
         | refine Ix.strs rfl (by intros; (try simp only [length_strs] at *); (try simp only [length_rows] at *); (try simp only [length_oldLL, List.length_map] at *); (try simp only [Bool.and_eq_true, decide_eq_true_eq] at *); omega) ?_
         | refine Ix.strs rfl ?_ ?_
         | refine Cut.strs rfl ?_ ?_
         | refine Ix.map (fun _ => rfl) (by intros; (try simp only [length_strs] at *); (try simp only [length_rows] at *); (try simp only [length_oldLL, List.length_map] at *); (try simp only [Bool.and_eq_true, decide_eq_true_eq] at *); omega) ?_
         | refine Ix.map (fun _ => rfl) ?_ ?_
         | refine Cut.map (fun _ => rfl) ?_ ?_
         | refine Fork.yes (by assumption) ?_
         | refine Fork.no (by assumption) ?_
         | refine Fork.decYes (by omega) ?_
         | refine Fork.decNo (by omega) ?_
         | refine Fork.dec (fun _ => ?_) (fun _ => ?_)
         | refine Fork.bne (fun _ => ?_) (fun _ => ?_)
         | refine Fork.beq (fun _ => ?_) (fun _ => ?_)
         | refine Fork.seq (fun _ => ?_) (fun _ => ?_)
         | refine Fork.sne (fun _ => ?_) (fun _ => ?_)
         | refine Fork.neg (fun _ => ?_) (fun _ => ?_)
         | refine Fork.mk (fun _ => ?_) (fun _ => ?_)
         | refine Round.mk ?_
         | refine NilQ.mk (fun b hb => ?_)
         | refine forceK_of ?_
         | refine forceBx_of ?_
         | refine unG_old ?_
         | refine unG_gv ?_
         | refine Lit.read rfl ?_
         | refine FinVal.keep ?_
         | refine FinAgg.keep ?_
         | refine Final.mk rfl rfl
         | refine Final.mk ?_ rfl
         | refine Final.mk ?_ ?_
         | refine FinalT.mk ?_ ?_)
    | refine AV.bool_congr ?_
    | refine AV.int_congr ?_
    | refine AV.str_congr ?_
    | refine AV.list_congr ?_
    | with_reducible rfl
    | refine fr1 ?_
    | refine fr2 ?_ ?_
  · rename_i h
    rw [length_rows, length_rows] at h
    have h3 : ¬ l = m := fun e => h (by rw [e])
    simp [h3]
  rename_i h
  rw [length_rows, length_rows] at h
  have h : l.length = m.length := by omega
  repeat' first
    | contradiction
    | (conv => whnf
       first
         | refine Need.mk (fun h => h) ?_
         | refine Need.mk rfl ?_
         | refine Need.mk ⟨rfl, Nat.le_of_ble_eq_true rfl⟩ ?_
         | refine Need.mk (Nat.le_of_ble_eq_true rfl) ?_
         | refine Need.mk (by intros; (try simp only [length_strs] at *); (try simp only [length_rows] at *); (try simp only [length_oldLL, List.length_map] at *); (try simp only [Bool.and_eq_true, decide_eq_true_eq] at *); omega) ?_
         | refine Need.mk ?_ ?_
         | refine Ix.strs rfl (by intros; (try simp only [length_strs] at *); (try simp only [length_rows] at *); (try simp only [length_oldLL, List.length_map] at *); (try simp only [Bool.and_eq_true, decide_eq_true_eq] at *); omega) ?_
         | refine Ix.strs rfl ?_ ?_
         | refine Cut.strs rfl ?_ ?_
         | refine Ix.map (fun _ => rfl) (by intros; (try simp only [length_strs] at *); (try simp only [length_rows] at *); (try simp only [length_oldLL, List.length_map] at *); (try simp only [Bool.and_eq_true, decide_eq_true_eq] at *); omega) ?_
         | refine Ix.map (fun _ => rfl) ?_ ?_
         | refine Cut.map (fun _ => rfl) ?_ ?_
         | refine Fork.yes (by assumption) ?_
         | refine Fork.no (by assumption) ?_
         | refine Fork.decYes (by omega) ?_
         | refine Fork.decNo (by omega) ?_
         | refine Fork.dec (fun _ => ?_) (fun _ => ?_)
         | refine Fork.bne (fun _ => ?_) (fun _ => ?_)
         | refine Fork.beq (fun _ => ?_) (fun _ => ?_)
         | refine Fork.seq (fun _ => ?_) (fun _ => ?_)
         | refine Fork.sne (fun _ => ?_) (fun _ => ?_)
         | refine Fork.neg (fun _ => ?_) (fun _ => ?_)
         | refine Fork.mk (fun _ => ?_) (fun _ => ?_)
         | refine Round.mk ?_
         | refine NilQ.mk (fun b hb => ?_)
         | refine forceK_of ?_
         | refine forceBx_of ?_
         | refine unG_old ?_
         | refine unG_gv ?_
         | refine Lit.read rfl ?_
         | refine FinVal.keep ?_
         | refine FinAgg.keep ?_
         | refine Final.mk rfl rfl
         | refine Final.mk ?_ rfl
         | refine Final.mk ?_ ?_
         | refine FinalT.mk ?_ ?_)
    | refine AV.bool_congr ?_
    | refine AV.int_congr ?_
    | refine AV.str_congr ?_
    | refine AV.list_congr ?_
    | with_reducible rfl
    | refine fr1 ?_
    | refine fr2 ?_ ?_
  refine ALoop.mk Nat (fun i => ⟨[(0, .list none (facts l)), (1, .list none (facts m)), (5, .val (.int .i64 i))], [], []⟩) (fun i => i ≤ l.length ∧ l.take i = m.take i) (fun i => l.length - i) ⟨0, ⟨Nat.zero_le _, rfl⟩, ?_⟩ (fun i hi => ?_)
  · repeat' first
      | exact trivial
      | refine Weak.mk ?_ ?_ ?_ ?_ (Or.inl (Nat.le_of_ble_eq_true rfl))
      | refine Weak.mk ?_ ?_ ?_ ?_ (Or.inr ⟨(by repeat' first | exact trivial | exact Nat.le_of_ble_eq_true rfl | refine And.intro ?_ ?_), (by repeat' first | exact trivial | exact Nat.le_of_ble_eq_true rfl | refine And.intro ?_ ?_)⟩)
      | refine Weak.mk ?_ ?_ ?_ ?_ ?_
      | refine And.intro ?_ ?_
      | with_reducible rfl
      | exact Nat.le_of_ble_eq_true rfl
      | refine fr1 ?_
      | refine fr2 ?_ ?_
      | refine AV.int_congr ?_
      | refine AV.bool_congr ?_
      | refine AV.str_congr ?_
      | refine AV.list_congr ?_
      | refine AV.bsl_congr ?_ ?_
      | (apply rfl)
  repeat' first
    | contradiction
    | (conv => whnf
       first
         | refine Need.mk (fun h => h) ?_
         | refine Need.mk rfl ?_
         | refine Need.mk ⟨rfl, Nat.le_of_ble_eq_true rfl⟩ ?_
         | refine Need.mk (Nat.le_of_ble_eq_true rfl) ?_
         | refine Need.mk (by intros; (try simp only [length_strs] at *); (try simp only [length_rows] at *); (try simp only [length_oldLL, List.length_map] at *); (try simp only [Bool.and_eq_true, decide_eq_true_eq] at *); omega) ?_
         | refine Need.mk ?_ ?_
         | refine Ix.strs rfl (by intros; (try simp only [length_strs] at *); (try simp only [length_rows] at *); (try simp only [length_oldLL, List.length_map] at *); (try simp only [Bool.and_eq_true, decide_eq_true_eq] at *); omega) ?_
         | refine Ix.strs rfl ?_ ?_
         | refine Cut.strs rfl ?_ ?_
         | refine Ix.map (fun _ => rfl) (by intros; (try simp only [length_strs] at *); (try simp only [length_rows] at *); (try simp only [length_oldLL, List.length_map] at *); (try simp only [Bool.and_eq_true, decide_eq_true_eq] at *); omega) ?_
         | refine Ix.map (fun _ => rfl) ?_ ?_
         | refine Cut.map (fun _ => rfl) ?_ ?_
         | refine Fork.yes (by assumption) ?_
         | refine Fork.no (by assumption) ?_
         | refine Fork.decYes (by omega) ?_
         | refine Fork.decNo (by omega) ?_
         | refine Fork.dec (fun _ => ?_) (fun _ => ?_)
         | refine Fork.bne (fun _ => ?_) (fun _ => ?_)
         | refine Fork.beq (fun _ => ?_) (fun _ => ?_)
         | refine Fork.seq (fun _ => ?_) (fun _ => ?_)
         | refine Fork.sne (fun _ => ?_) (fun _ => ?_)
         | refine Fork.neg (fun _ => ?_) (fun _ => ?_)
         | refine Fork.mk (fun _ => ?_) (fun _ => ?_)
         | refine Round.mk ?_
         | refine NilQ.mk (fun b hb => ?_)
         | refine forceK_of ?_
         | refine forceBx_of ?_
         | refine unG_old ?_
         | refine unG_gv ?_
         | refine Lit.read rfl ?_
         | refine FinVal.keep ?_
         | refine FinAgg.keep ?_
         | refine Final.mk rfl rfl
         | refine Final.mk ?_ rfl
         | refine Final.mk ?_ ?_
         | refine FinalT.mk ?_ ?_
         | refine ACall.scal _ _ (sSame.ret _ _ ?_) rfl (by repeat' first | exact SeesL.nil | refine SeesL.cons ?_ ?_ | exact SeesB.of0 (Sees0.val _) | exact SeesB.of0 (Sees0.str _) | exact SeesB.of0 (Sees0.olds _ _) | exact SeesB.of0 (Sees0.old _) | exact SeesB.of0 (Sees0.oldagg _) | exact SeesB.of0 Sees0.nil | exact Sees0.val _ | exact Sees0.str _ | exact Sees0.olds _ _ | exact Sees0.old _ | exact Sees0.oldagg _ | exact Sees0.nil | exact SeesB.of0 (Sees0.any _) | assumption | exact sees_gv _ _ _ (by assumption) (by first | assumption | exact BoxIn.last _ _ | exact BoxIn.more (BoxIn.last _ _) _) | refine SeesB.agg ?_ | refine Sees0.agg ?_ | exact SeesB.of0 (Sees0.clo SeesL.nil SeesL.nil) | exact Sees0.clo SeesL.nil SeesL.nil) ?_
         | refine AQCall.mk _ _ (fun hg => sSame.ret _ _ ?_) rfl (fun _ => (by repeat' first | exact SeesL.nil | refine SeesL.cons ?_ ?_ | exact SeesB.of0 (Sees0.val _) | exact SeesB.of0 (Sees0.str _) | exact SeesB.of0 (Sees0.olds _ _) | exact SeesB.of0 (Sees0.old _) | exact SeesB.of0 (Sees0.oldagg _) | exact SeesB.of0 Sees0.nil | exact Sees0.val _ | exact Sees0.str _ | exact Sees0.olds _ _ | exact Sees0.old _ | exact Sees0.oldagg _ | exact Sees0.nil | exact SeesB.of0 (Sees0.any _) | assumption | exact sees_gv _ _ _ (by assumption) (by first | assumption | exact BoxIn.last _ _ | exact BoxIn.more (BoxIn.last _ _) _) | refine SeesB.agg ?_ | refine Sees0.agg ?_ | exact SeesB.of0 (Sees0.clo SeesL.nil SeesL.nil) | exact Sees0.clo SeesL.nil SeesL.nil)) ?_)
    | refine AV.bool_congr ?_
    | refine AV.int_congr ?_
    | refine AV.str_congr ?_
    | refine AV.list_congr ?_
    | with_reducible rfl
    | refine fr1 ?_
    | refine fr2 ?_ ?_
  · rw [Int.toNat_natCast]; exact Nat.le_trans (fct_le' _) (by omega)
  · rename_i h1 h2
    have h3 : ¬ l = m := fun e => of_decide_eq_false h2 (by rw [e])
    simp [h3]
  · rename_i h1 h2
    rw [length_rows] at h1
    rw [Int.toNat_natCast] at h2
    refine ⟨i + 1, ⟨by omega, ?_⟩, ?_, by omega⟩
    · rw [take_succ' default (by omega), take_succ' (l := m) default (by omega), hi.2, of_decide_eq_true h2]
    · repeat' first
        | exact trivial
        | refine Weak.mk ?_ ?_ ?_ ?_ (Or.inl (Nat.le_of_ble_eq_true rfl))
        | refine Weak.mk ?_ ?_ ?_ ?_ (Or.inr ⟨(by repeat' first | exact trivial | exact Nat.le_of_ble_eq_true rfl | refine And.intro ?_ ?_), (by repeat' first | exact trivial | exact Nat.le_of_ble_eq_true rfl | refine And.intro ?_ ?_)⟩)
        | refine Weak.mk ?_ ?_ ?_ ?_ ?_
        | refine And.intro ?_ ?_
        | with_reducible rfl
        | exact Nat.le_of_ble_eq_true rfl
        | refine fr1 ?_
        | refine fr2 ?_ ?_
        | refine AV.int_congr ?_
        | refine AV.bool_congr ?_
        | refine AV.str_congr ?_
        | refine AV.list_congr ?_
        | refine AV.bsl_congr ?_ ?_
        | (apply rfl)
      rw [wrap64 (by omega) (by omega)]; rfl
  · rename_i h1
    rw [length_rows] at h1
    have h2 := hi.2
    rw [List.take_of_length_le (by omega), List.take_of_length_le (by omega)] at h2
    simp [h2]
theorem slEqualFuncF.ret (l m : List Fct) (h : tFcts.size l ≤ 1048576) : slEqualFuncF.Ret [.list none (facts l), .list none (facts m), .clo 73 [] []] (.val (.bool (decide (l = m)))) [] := by
  refine slEqualFuncF.of rfl ?_
  rw [tFcts_size] at h
  repeat' first
    | contradiction
    | (conv => whnf
       first
         | refine Need.mk (fun h => h) ?_
         | refine Need.mk rfl ?_
         | refine Need.mk ⟨rfl, Nat.le_of_ble_eq_true rfl⟩ ?_
         | refine Need.mk (Nat.le_of_ble_eq_true rfl) ?_
         | refine Need.mk (by intros; (try simp only [length_strs] at *); (try simp only [length_rows] at *); (try simp only [length_oldLL, List.length_map] at *); (try simp only [Bool.and_eq_true, decide_eq_true_eq] at *); omega) ?_
         | refine Need.mk ?_ ?_
         | refine Ix.strs rfl (by intros; (try simp only [length_strs] at *); (try simp only [length_rows] at *); (try simp only [length_oldLL, List.length_map] at *); (try simp only [Bool.and_eq_true, decide_eq_true_eq] at *); omega) ?_
         | refine Ix.strs rfl ?_ ?_
         | refine Cut.strs rfl ?_ ?_
         | refine Ix.map (fun _ => rfl) (by intros; (try simp only [length_strs] at *); (try simp only [length_rows] at *); (try simp only [length_oldLL, List.length_map] at *); (try simp only [Bool.and_eq_true, decide_eq_true_eq] at *); omega) ?_
         | refine Ix.map (fun _ => rfl) ?_ ?_
         | refine Cut.map (fun _ => rfl) ?_ ?_
         | refine Fork.yes (by assumption) ?_
         | refine Fork.no (by assumption) ?_
         | refine Fork.decYes (by omega) ?_
         | refine Fork.decNo (by omega) ?_
         | refine Fork.dec (fun _ => ?_) (fun _ => ?_)
         | refine Fork.bne (fun _ => ?_) (fun _ => ?_)
         | refine Fork.beq (fun _ => ?_) (fun _ => ?_)
         | refine Fork.seq (fun _ => ?_) (fun _ => ?_)
         | refine Fork.sne (fun _ => ?_) (fun _ => ?_)
         | refine Fork.neg (fun _ => ?_) (fun _ => ?_)
         | refine Fork.mk (fun _ => ?_) (fun _ => ?_)
         | refine Round.mk ?_
         | refine NilQ.mk (fun b hb => ?_)
         | refine forceK_of ?_
         | refine forceBx_of ?_
         | refine unG_old ?_
         | refine unG_gv ?_
         | refine Lit.read rfl ?_
         | refine FinVal.keep ?_
         | refine FinAgg.keep ?_
         | refine Final.mk rfl rfl
         | refine Final.mk ?_ rfl
         | refine Final.mk ?_ ?_
         | refine FinalT.mk ?_ ?_)
    | refine AV.bool_congr ?_
    | refine AV.int_congr ?_
    | refine AV.str_congr ?_
    | refine AV.list_congr ?_
    | with_reducible rfl
    | refine fr1 ?_
    | refine fr2 ?_ ?_
  · rename_i h
    rw [length_rows, length_rows] at h
    have h3 : ¬ l = m := fun e => h (by rw [e])
    simp [h3]
  rename_i h
  rw [length_rows, length_rows] at h
  have h : l.length = m.length := by omega
  repeat' first
    | contradiction
    | (conv => whnf
       first
         | refine Need.mk (fun h => h) ?_
         | refine Need.mk rfl ?_
         | refine Need.mk ⟨rfl, Nat.le_of_ble_eq_true rfl⟩ ?_
         | refine Need.mk (Nat.le_of_ble_eq_true rfl) ?_
         | refine Need.mk (by intros; (try simp only [length_strs] at *); (try simp only [length_rows] at *); (try simp only [length_oldLL, List.length_map] at *); (try simp only [Bool.and_eq_true, decide_eq_true_eq] at *); omega) ?_
         | refine Need.mk ?_ ?_
         | refine Ix.strs rfl (by intros; (try simp only [length_strs] at *); (try simp only [length_rows] at *); (try simp only [length_oldLL, List.length_map] at *); (try simp only [Bool.and_eq_true, decide_eq_true_eq] at *); omega) ?_
         | refine Ix.strs rfl ?_ ?_
         | refine Cut.strs rfl ?_ ?_
         | refine Ix.map (fun _ => rfl) (by intros; (try simp only [length_strs] at *); (try simp only [length_rows] at *); (try simp only [length_oldLL, List.length_map] at *); (try simp only [Bool.and_eq_true, decide_eq_true_eq] at *); omega) ?_
         | refine Ix.map (fun _ => rfl) ?_ ?_
         | refine Cut.map (fun _ => rfl) ?_ ?_
         | refine Fork.yes (by assumption) ?_
         | refine Fork.no (by assumption) ?_
         | refine Fork.decYes (by omega) ?_
         | refine Fork.decNo (by omega) ?_
         | refine Fork.dec (fun _ => ?_) (fun _ => ?_)
         | refine Fork.bne (fun _ => ?_) (fun _ => ?_)
         | refine Fork.beq (fun _ => ?_) (fun _ => ?_)
         | refine Fork.seq (fun _ => ?_) (fun _ => ?_)
         | refine Fork.sne (fun _ => ?_) (fun _ => ?_)
         | refine Fork.neg (fun _ => ?_) (fun _ => ?_)
         | refine Fork.mk (fun _ => ?_) (fun _ => ?_)
         | refine Round.mk ?_
         | refine NilQ.mk (fun b hb => ?_)
         | refine forceK_of ?_
         | refine forceBx_of ?_
         | refine unG_old ?_
         | refine unG_gv ?_
         | refine Lit.read rfl ?_
         | refine FinVal.keep ?_
         | refine FinAgg.keep ?_
         | refine Final.mk rfl rfl
         | refine Final.mk ?_ rfl
         | refine Final.mk ?_ ?_
         | refine FinalT.mk ?_ ?_)
    | refine AV.bool_congr ?_
    | refine AV.int_congr ?_
    | refine AV.str_congr ?_
    | refine AV.list_congr ?_
    | with_reducible rfl
    | refine fr1 ?_
    | refine fr2 ?_ ?_
  refine ALoop.mk Nat (fun i => ⟨[(0, .list none (facts l)), (1, .list none (facts m)), (2, .clo 73 [] []), (15, .list none (facts l)), (16, .val (.int .i64 l.length)), (17, .val (.int .i64 i))], [], []⟩) (fun i => i ≤ l.length ∧ l.take i = m.take i) (fun i => l.length - i) ⟨0, ⟨Nat.zero_le _, rfl⟩, ?_⟩ (fun i hi => ?_)
  · repeat' first
      | exact trivial
      | refine Weak.mk ?_ ?_ ?_ ?_ (Or.inl (Nat.le_of_ble_eq_true rfl))
      | refine Weak.mk ?_ ?_ ?_ ?_ (Or.inr ⟨(by repeat' first | exact trivial | exact Nat.le_of_ble_eq_true rfl | refine And.intro ?_ ?_), (by repeat' first | exact trivial | exact Nat.le_of_ble_eq_true rfl | refine And.intro ?_ ?_)⟩)
      | refine Weak.mk ?_ ?_ ?_ ?_ ?_
      | refine And.intro ?_ ?_
      | with_reducible rfl
      | exact Nat.le_of_ble_eq_true rfl
      | refine fr1 ?_
      | refine fr2 ?_ ?_
      | refine AV.int_congr ?_
      | refine AV.bool_congr ?_
      | refine AV.str_congr ?_
      | refine AV.list_congr ?_
      | refine AV.bsl_congr ?_ ?_
      | (apply rfl)
    simp
  repeat' first
    | contradiction
    | (conv => whnf
       first
         | refine Need.mk (fun h => h) ?_
         | refine Need.mk rfl ?_
         | refine Need.mk ⟨rfl, Nat.le_of_ble_eq_true rfl⟩ ?_
         | refine Need.mk (Nat.le_of_ble_eq_true rfl) ?_
         | refine Need.mk (by intros; (try simp only [length_strs] at *); (try simp only [length_rows] at *); (try simp only [length_oldLL, List.length_map] at *); (try simp only [Bool.and_eq_true, decide_eq_true_eq] at *); omega) ?_
         | refine Need.mk ?_ ?_
         | refine Ix.strs rfl (by intros; (try simp only [length_strs] at *); (try simp only [length_rows] at *); (try simp only [length_oldLL, List.length_map] at *); (try simp only [Bool.and_eq_true, decide_eq_true_eq] at *); omega) ?_
         | refine Ix.strs rfl ?_ ?_
         | refine Cut.strs rfl ?_ ?_
         | refine Ix.map (fun _ => rfl) (by intros; (try simp only [length_strs] at *); (try simp only [length_rows] at *); (try simp only [length_oldLL, List.length_map] at *); (try simp only [Bool.and_eq_true, decide_eq_true_eq] at *); omega) ?_
         | refine Ix.map (fun _ => rfl) ?_ ?_
         | refine Cut.map (fun _ => rfl) ?_ ?_
         | refine Fork.yes (by assumption) ?_
         | refine Fork.no (by assumption) ?_
         | refine Fork.decYes (by omega) ?_
         | refine Fork.decNo (by omega) ?_
         | refine Fork.dec (fun _ => ?_) (fun _ => ?_)
         | refine Fork.bne (fun _ => ?_) (fun _ => ?_)
         | refine Fork.beq (fun _ => ?_) (fun _ => ?_)
         | refine Fork.seq (fun _ => ?_) (fun _ => ?_)
         | refine Fork.sne (fun _ => ?_) (fun _ => ?_)
         | refine Fork.neg (fun _ => ?_) (fun _ => ?_)
         | refine Fork.mk (fun _ => ?_) (fun _ => ?_)
         | refine Round.mk ?_
         | refine NilQ.mk (fun b hb => ?_)
         | refine forceK_of ?_
         | refine forceBx_of ?_
         | refine unG_old ?_
         | refine unG_gv ?_
         | refine Lit.read rfl ?_
         | refine FinVal.keep ?_
         | refine FinAgg.keep ?_
         | refine Final.mk rfl rfl
         | refine Final.mk ?_ rfl
         | refine Final.mk ?_ ?_
         | refine FinalT.mk ?_ ?_
         | refine ACall.scal _ _ (psameFact.ret _ _ ?_) rfl (by repeat' first | exact SeesL.nil | refine SeesL.cons ?_ ?_ | exact SeesB.of0 (Sees0.val _) | exact SeesB.of0 (Sees0.str _) | exact SeesB.of0 (Sees0.olds _ _) | exact SeesB.of0 (Sees0.old _) | exact SeesB.of0 (Sees0.oldagg _) | exact SeesB.of0 Sees0.nil | exact Sees0.val _ | exact Sees0.str _ | exact Sees0.olds _ _ | exact Sees0.old _ | exact Sees0.oldagg _ | exact Sees0.nil | exact SeesB.of0 (Sees0.any _) | assumption | exact sees_gv _ _ _ (by assumption) (by first | assumption | exact BoxIn.last _ _ | exact BoxIn.more (BoxIn.last _ _) _) | refine SeesB.agg ?_ | refine Sees0.agg ?_ | exact SeesB.of0 (Sees0.clo SeesL.nil SeesL.nil) | exact Sees0.clo SeesL.nil SeesL.nil) ?_
         | refine AQCall.mk _ _ (fun hg => psameFact.ret _ _ ?_) rfl (fun _ => (by repeat' first | exact SeesL.nil | refine SeesL.cons ?_ ?_ | exact SeesB.of0 (Sees0.val _) | exact SeesB.of0 (Sees0.str _) | exact SeesB.of0 (Sees0.olds _ _) | exact SeesB.of0 (Sees0.old _) | exact SeesB.of0 (Sees0.oldagg _) | exact SeesB.of0 Sees0.nil | exact Sees0.val _ | exact Sees0.str _ | exact Sees0.olds _ _ | exact Sees0.old _ | exact Sees0.oldagg _ | exact Sees0.nil | exact SeesB.of0 (Sees0.any _) | assumption | exact sees_gv _ _ _ (by assumption) (by first | assumption | exact BoxIn.last _ _ | exact BoxIn.more (BoxIn.last _ _) _) | refine SeesB.agg ?_ | refine Sees0.agg ?_ | exact SeesB.of0 (Sees0.clo SeesL.nil SeesL.nil) | exact Sees0.clo SeesL.nil SeesL.nil)) ?_)
    | refine AV.bool_congr ?_
    | refine AV.int_congr ?_
    | refine AV.str_congr ?_
    | refine AV.list_congr ?_
    | with_reducible rfl
    | refine fr1 ?_
    | refine fr2 ?_ ?_
  · rw [Int.toNat_natCast]; exact Nat.le_trans (fct_le' _) (by omega)
  · rename_i h1 h2
    have h3 : ¬ l = m := fun e => of_decide_eq_false h2 (by rw [e])
    simp [h3]
  · rename_i h1 h2
    rw [Int.toNat_natCast] at h2
    refine ⟨i + 1, ⟨by omega, ?_⟩, ?_, by omega⟩
    · rw [take_succ' default (by omega), take_succ' (l := m) default (by omega), hi.2, of_decide_eq_true h2]
    · repeat' first
        | exact trivial
        | refine Weak.mk ?_ ?_ ?_ ?_ (Or.inl (Nat.le_of_ble_eq_true rfl))
        | refine Weak.mk ?_ ?_ ?_ ?_ (Or.inr ⟨(by repeat' first | exact trivial | exact Nat.le_of_ble_eq_true rfl | refine And.intro ?_ ?_), (by repeat' first | exact trivial | exact Nat.le_of_ble_eq_true rfl | refine And.intro ?_ ?_)⟩)
        | refine Weak.mk ?_ ?_ ?_ ?_ ?_
        | refine And.intro ?_ ?_
        | with_reducible rfl
        | exact Nat.le_of_ble_eq_true rfl
        | refine fr1 ?_
        | refine fr2 ?_ ?_
        | refine AV.int_congr ?_
        | refine AV.bool_congr ?_
        | refine AV.str_congr ?_
        | refine AV.list_congr ?_
        | refine AV.bsl_congr ?_ ?_
        | (apply rfl)
      rw [wrap64 (by omega) (by omega)]; rfl
  · rename_i h1
    have h2 := hi.2
    rw [List.take_of_length_le (by omega), List.take_of_length_le (by omega)] at h2
    simp [h2]
theorem pSameFacts.ret (l m : List Fct) (h : tFcts.size l ≤ 1048576) : pSameFacts.Ret [.list none (facts l), .list none (facts m)] (.val (.bool (decide (l = m)))) [] := by
  refine pSameFacts.of rfl ?_
  repeat' first
    | contradiction
    | (conv => whnf
       first
         | refine Need.mk (fun h => h) ?_
         | refine Need.mk rfl ?_
         | refine Need.mk ⟨rfl, Nat.le_of_ble_eq_true rfl⟩ ?_
         | refine Need.mk (Nat.le_of_ble_eq_true rfl) ?_
         | refine Need.mk (by intros; (try simp only [length_strs] at *); (try simp only [length_rows] at *); (try simp only [length_oldLL, List.length_map] at *); (try simp only [Bool.and_eq_true, decide_eq_true_eq] at *); omega) ?_
         | refine Need.mk ?_ ?_
         | refine Ix.strs rfl (by intros; (try simp only [length_strs] at *); (try simp only [length_rows] at *); (try simp only [length_oldLL, List.length_map] at *); (try simp only [Bool.and_eq_true, decide_eq_true_eq] at *); omega) ?_
         | refine Ix.strs rfl ?_ ?_
         | refine Cut.strs rfl ?_ ?_
         | refine Ix.map (fun _ => rfl) (by intros; (try simp only [length_strs] at *); (try simp only [length_rows] at *); (try simp only [length_oldLL, List.length_map] at *); (try simp only [Bool.and_eq_true, decide_eq_true_eq] at *); omega) ?_
         | refine Ix.map (fun _ => rfl) ?_ ?_
         | refine Cut.map (fun _ => rfl) ?_ ?_
         | refine Fork.yes (by assumption) ?_
         | refine Fork.no (by assumption) ?_
         | refine Fork.decYes (by omega) ?_
         | refine Fork.decNo (by omega) ?_
         | refine Fork.dec (fun _ => ?_) (fun _ => ?_)
         | refine Fork.bne (fun _ => ?_) (fun _ => ?_)
         | refine Fork.beq (fun _ => ?_) (fun _ => ?_)
         | refine Fork.seq (fun _ => ?_) (fun _ => ?_)
         | refine Fork.sne (fun _ => ?_) (fun _ => ?_)
         | refine Fork.neg (fun _ => ?_) (fun _ => ?_)
         | refine Fork.mk (fun _ => ?_) (fun _ => ?_)
         | refine Round.mk ?_
         | refine NilQ.mk (fun b hb => ?_)
         | refine forceK_of ?_
         | refine forceBx_of ?_
         | refine unG_old ?_
         | refine unG_gv ?_
         | refine Lit.read rfl ?_
         | refine FinVal.keep ?_
         | refine FinAgg.keep ?_
         | refine Final.mk rfl rfl
         | refine Final.mk ?_ rfl
         | refine Final.mk ?_ ?_
         | refine FinalT.mk ?_ ?_
         | refine ACall.scal _ _ (slEqualFuncF.ret _ _ ?_) rfl (by repeat' first | exact SeesL.nil | refine SeesL.cons ?_ ?_ | exact SeesB.of0 (Sees0.val _) | exact SeesB.of0 (Sees0.str _) | exact SeesB.of0 (Sees0.olds _ _) | exact SeesB.of0 (Sees0.old _) | exact SeesB.of0 (Sees0.oldagg _) | exact SeesB.of0 Sees0.nil | exact Sees0.val _ | exact Sees0.str _ | exact Sees0.olds _ _ | exact Sees0.old _ | exact Sees0.oldagg _ | exact Sees0.nil | exact SeesB.of0 (Sees0.any _) | assumption | exact sees_gv _ _ _ (by assumption) (by first | assumption | exact BoxIn.last _ _ | exact BoxIn.more (BoxIn.last _ _) _) | refine SeesB.agg ?_ | refine Sees0.agg ?_ | exact SeesB.of0 (Sees0.clo SeesL.nil SeesL.nil) | exact Sees0.clo SeesL.nil SeesL.nil) ?_
         | refine AQCall.mk _ _ (fun hg => slEqualFuncF.ret _ _ ?_) rfl (fun _ => (by repeat' first | exact SeesL.nil | refine SeesL.cons ?_ ?_ | exact SeesB.of0 (Sees0.val _) | exact SeesB.of0 (Sees0.str _) | exact SeesB.of0 (Sees0.olds _ _) | exact SeesB.of0 (Sees0.old _) | exact SeesB.of0 (Sees0.oldagg _) | exact SeesB.of0 Sees0.nil | exact Sees0.val _ | exact Sees0.str _ | exact Sees0.olds _ _ | exact Sees0.old _ | exact Sees0.oldagg _ | exact Sees0.nil | exact SeesB.of0 (Sees0.any _) | assumption | exact sees_gv _ _ _ (by assumption) (by first | assumption | exact BoxIn.last _ _ | exact BoxIn.more (BoxIn.last _ _) _) | refine SeesB.agg ?_ | refine Sees0.agg ?_ | exact SeesB.of0 (Sees0.clo SeesL.nil SeesL.nil) | exact Sees0.clo SeesL.nil SeesL.nil)) ?_)
    | refine AV.bool_congr ?_
    | refine AV.int_congr ?_
    | refine AV.str_congr ?_
    | refine AV.list_congr ?_
    | with_reducible rfl
    | refine fr1 ?_
    | refine fr2 ?_ ?_
  exact h
end Go.Proofs.Ytamcaplpgmloiaa
