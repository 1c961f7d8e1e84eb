/-
  What stands below some laws' proofs, part 3: contracts of functions, by an evaluator.
-/
import Derived.Test.YtimcfgokocihnaaZE2
namespace Go.Proofs.Ytimcfgokocihnaa
open Abs
theorem slCompareFunc.ret (l m : List Str) (h : tStrs.size l ≤ 1048576) (h' : tStrs.size m ≤ 1048576) :
    slCompareFunc.Ret [.list none (strs l), .list none (strs m), .clo 159 [] []] (.val (.int .i64 (cmpArgs l m))) [] := by
  refine slCompareFunc.of rfl ?_
  rw [tStrs_size] at h h'
  repeat' first
    | contradiction | exact trivial
    | (conv => whnf
       first | refine Need.mk (fun h => h) ?_ | refine Need.mk rfl ?_ | refine Need.mk ⟨rfl, Nat.le_of_ble_eq_true rfl⟩ ?_ | refine Need.mk (Nat.le_of_ble_eq_true rfl) ?_ | refine Need.fin ?_ | refine Need.mk ?_ ?_ | refine Ix.strsF rfl ?_ | refine Ix.strs rfl ?_ ?_ | refine Cut.strs rfl ?_ ?_ | refine Ix.mapF (fun _ => rfl) ?_ | refine Ix.map (fun _ => rfl) ?_ ?_ | refine Cut.map (fun _ => rfl) ?_ ?_ | refine Fork.yes (by assumption) ?_ | refine Fork.no (by assumption) ?_ | refine Fork.decYes (by omega) ?_ | refine Fork.decNo (by omega) ?_ | refine Fork.dec (fun _ => ?_) (fun _ => ?_) | refine Fork.bne (fun _ => ?_) (fun _ => ?_) | refine Fork.beq (fun _ => ?_) (fun _ => ?_) | refine Fork.seq (fun _ => ?_) (fun _ => ?_) | refine Fork.sne (fun _ => ?_) (fun _ => ?_) | refine Fork.neg (fun _ => ?_) (fun _ => ?_) | refine Fork.mk (fun _ => ?_) (fun _ => ?_) | refine HAlt.mk ?_ ?_ | apply HJoin.mk3 | exact HEnd.mk rfl rfl rfl | refine HEnd.mk ?_ ?_ ?_ | refine Round.mk ?_ | refine NilQ.mk (fun b hb => ?_) | refine forceK_of ?_ | refine forceBx_of ?_ | refine unG_old ?_ | refine unG_gv ?_ | refine Lit.read rfl ?_ | refine FinVal.keep ?_ | refine FinAgg.keep ?_ | refine Final.mk rfl rfl | refine Final.mk ?_ rfl | refine Final.mk ?_ ?_ | refine FinalT.mk ?_ ?_ | refine FinalC.allA ?_)
    | refine AV.bool_congr ?_ | refine AV.int_congr ?_ | refine AV.str_congr ?_ | refine AV.list_congr ?_ | with_reducible rfl | refine fr1 ?_ | refine fr2 ?_ ?_
  refine ALoop.mk Nat (fun i => ⟨[(0, .list none (strs l)), (1, .list none (strs m)), (2, .clo 159 [] []), (11, .list none (strs l)), (12, .val (.int .i64 l.length)), (13, .val (.int .i64 i))], [], []⟩) (fun i => i ≤ l.length ∧ i ≤ m.length ∧ cmpArgs (l.drop i) (m.drop i) = cmpArgs l m) (fun i => l.length - i) ⟨0, ⟨Nat.zero_le _, Nat.zero_le _, rfl⟩, ?_⟩ (fun i hi => ?_)
  · repeat' first
      | exact trivial | refine Weak.mk ?_ ?_ ?_ ?_ (Or.inl (Nat.le_of_ble_eq_true rfl)) | refine Weak.mk ?_ ?_ ?_ ?_ (Or.inr ⟨(by repeat' first | exact trivial | exact Nat.le_of_ble_eq_true rfl | refine And.intro ?_ ?_), (by repeat' first | exact trivial | exact Nat.le_of_ble_eq_true rfl | refine And.intro ?_ ?_)⟩) | refine Weak.mk ?_ ?_ ?_ ?_ ?_ | refine And.intro ?_ ?_ | with_reducible rfl | exact Nat.le_of_ble_eq_true rfl | refine fr1 ?_ | refine fr2 ?_ ?_ | refine AV.int_congr ?_ | refine AV.bool_congr ?_ | refine AV.str_congr ?_ | refine AV.list_congr ?_ | refine AV.bsl_congr ?_ ?_ | (apply rfl)
    simp
  obtain ⟨hi1, hi2, hi3⟩ := hi
  repeat' first
    | contradiction | exact trivial
    | (conv => whnf
       first | refine Need.mk (fun h => h) ?_ | refine Need.mk rfl ?_ | refine Need.mk ⟨rfl, Nat.le_of_ble_eq_true rfl⟩ ?_ | refine Need.mk (Nat.le_of_ble_eq_true rfl) ?_ | refine Need.fin ?_ | refine Need.mk ?_ ?_ | refine Ix.strsF rfl ?_ | refine Ix.strs rfl ?_ ?_ | refine Cut.strs rfl ?_ ?_ | refine Ix.mapF (fun _ => rfl) ?_ | refine Ix.map (fun _ => rfl) ?_ ?_ | refine Cut.map (fun _ => rfl) ?_ ?_ | refine Fork.yes (by assumption) ?_ | refine Fork.no (by assumption) ?_ | refine Fork.decYes (by omega) ?_ | refine Fork.decNo (by omega) ?_ | refine Fork.dec (fun _ => ?_) (fun _ => ?_) | refine Fork.bne (fun _ => ?_) (fun _ => ?_) | refine Fork.beq (fun _ => ?_) (fun _ => ?_) | refine Fork.seq (fun _ => ?_) (fun _ => ?_) | refine Fork.sne (fun _ => ?_) (fun _ => ?_) | refine Fork.neg (fun _ => ?_) (fun _ => ?_) | refine Fork.mk (fun _ => ?_) (fun _ => ?_) | refine HAlt.mk ?_ ?_ | apply HJoin.mk3 | exact HEnd.mk rfl rfl rfl | refine HEnd.mk ?_ ?_ ?_ | refine Round.mk ?_ | refine NilQ.mk (fun b hb => ?_) | refine forceK_of ?_ | refine forceBx_of ?_ | refine unG_old ?_ | refine unG_gv ?_ | refine Lit.read rfl ?_ | refine FinVal.keep ?_ | refine FinAgg.keep ?_ | refine Final.mk rfl rfl | refine Final.mk ?_ rfl | refine Final.mk ?_ ?_ | refine FinalT.mk ?_ ?_ | refine FinalC.allA ?_ | refine ACall.scalA _ _ (pCompareAtoms.ret _ _ ?_ ?_) rfl ?_ | refine AQCall.mkA _ _ (fun hg => pCompareAtoms.ret _ _ ?_ ?_) rfl ?_ | refine AGCall.mkA _ _ (fun hg => pCompareAtoms.ret _ _ ?_ ?_) rfl ?_)
    | refine AV.bool_congr ?_ | refine AV.int_congr ?_ | refine AV.str_congr ?_ | refine AV.list_congr ?_ | with_reducible rfl | refine fr1 ?_ | refine fr2 ?_ ?_
  all_goals try simp only [length_rows, length_strs, length_oldLL, List.length_map, Int.toNat_natCast] at *
  · rw [← hi3, cmpArgs_end (by rw [List.drop_eq_nil_iff, List.drop_eq_nil_iff]; omega)]
    simp only [List.length_drop]
    (repeat' split) <;> omega
  · have := str_le (l := l) (i := i) (by omega); omega
  · have := str_le (l := m) (i := i) (by omega); omega
  · rename_i h1 h2 h3
    rw [← hi3, cmpArgs_drop (by omega) (by omega), if_pos h2]
  · rename_i h1 h2 h3
    refine ⟨i + 1, ⟨by omega, by omega, ?_⟩, ?_, by omega⟩
    · rw [cmpArgs_drop (by omega) (by omega), if_neg (by simpa using h2)] at hi3; exact hi3
    · repeat' first
        | exact trivial | refine Weak.mk ?_ ?_ ?_ ?_ (Or.inl (Nat.le_of_ble_eq_true rfl)) | refine Weak.mk ?_ ?_ ?_ ?_ (Or.inr ⟨(by repeat' first | exact trivial | exact Nat.le_of_ble_eq_true rfl | refine And.intro ?_ ?_), (by repeat' first | exact trivial | exact Nat.le_of_ble_eq_true rfl | refine And.intro ?_ ?_)⟩) | refine Weak.mk ?_ ?_ ?_ ?_ ?_ | refine And.intro ?_ ?_ | with_reducible rfl | exact Nat.le_of_ble_eq_true rfl | refine fr1 ?_ | refine fr2 ?_ ?_ | refine AV.int_congr ?_ | refine AV.bool_congr ?_ | refine AV.str_congr ?_ | refine AV.list_congr ?_ | refine AV.bsl_congr ?_ ?_ | (apply rfl)
      rw [wrap64 (by omega) (by omega)]; rfl
  all_goals rename_i h1 h2
  all_goals rw [← hi3, cmpArgs_end (by rw [List.drop_eq_nil_iff, List.drop_eq_nil_iff]; omega)]
  all_goals simp only [List.length_drop]
  all_goals ((repeat' split) <;> omega)
theorem pCompareFacts.ret (f g : Fct) (h : tFct.size f ≤ 1048576) (h' : tFct.size g ≤ 1048576) : pCompareFacts.Ret [.agg (oldL (tFct.q f)), .agg (oldL (tFct.q g))] (.val (.int .i64 (cmpF f g))) [] := by
  refine pCompareFacts.of rfl ?_
  rw [tFct_size] at h h'
  repeat' first
    | contradiction | exact trivial
    | (conv => whnf
       first | refine Need.mk (fun h => h) ?_ | refine Need.mk rfl ?_ | refine Need.mk ⟨rfl, Nat.le_of_ble_eq_true rfl⟩ ?_ | refine Need.mk (Nat.le_of_ble_eq_true rfl) ?_ | refine Need.fin ?_ | refine Need.mk ?_ ?_ | refine Ix.strsF rfl ?_ | refine Ix.strs rfl ?_ ?_ | refine Cut.strs rfl ?_ ?_ | refine Ix.mapF (fun _ => rfl) ?_ | refine Ix.map (fun _ => rfl) ?_ ?_ | refine Cut.map (fun _ => rfl) ?_ ?_ | refine Fork.yes (by assumption) ?_ | refine Fork.no (by assumption) ?_ | refine Fork.decYes (by omega) ?_ | refine Fork.decNo (by omega) ?_ | refine Fork.dec (fun _ => ?_) (fun _ => ?_) | refine Fork.bne (fun _ => ?_) (fun _ => ?_) | refine Fork.beq (fun _ => ?_) (fun _ => ?_) | refine Fork.seq (fun _ => ?_) (fun _ => ?_) | refine Fork.sne (fun _ => ?_) (fun _ => ?_) | refine Fork.neg (fun _ => ?_) (fun _ => ?_) | refine Fork.mk (fun _ => ?_) (fun _ => ?_) | refine HAlt.mk ?_ ?_ | apply HJoin.mk3 | exact HEnd.mk rfl rfl rfl | refine HEnd.mk ?_ ?_ ?_ | refine Round.mk ?_ | refine NilQ.mk (fun b hb => ?_) | refine forceK_of ?_ | refine forceBx_of ?_ | refine unG_old ?_ | refine unG_gv ?_ | refine Lit.read rfl ?_ | refine FinVal.keep ?_ | refine FinAgg.keep ?_ | refine Final.mk rfl rfl | refine Final.mk ?_ rfl | refine Final.mk ?_ ?_ | refine FinalT.mk ?_ ?_ | refine FinalC.allA ?_ | refine ACall.scalA _ _ (cmpString.ret _ _) rfl ?_ | refine AQCall.mkA _ _ (fun hg => cmpString.ret _ _) rfl ?_ | refine AGCall.mkA _ _ (fun hg => cmpString.ret _ _) rfl ?_ | refine ACall.scalA _ _ (slCompareFunc.ret _ _ ?_ ?_) rfl ?_ | refine AQCall.mkA _ _ (fun hg => slCompareFunc.ret _ _ ?_ ?_) rfl ?_ | refine AGCall.mkA _ _ (fun hg => slCompareFunc.ret _ _ ?_ ?_) rfl ?_)
    | refine AV.bool_congr ?_ | refine AV.int_congr ?_ | refine AV.str_congr ?_ | refine AV.list_congr ?_ | with_reducible rfl | refine fr1 ?_ | refine fr2 ?_ ?_
  · rename_i h1
    unfold cmpF; rw [if_neg (fun e => h1 (scmp_zero.2 e))]
  · omega
  · omega
  · rename_i h1
    unfold cmpF; rw [if_pos (scmp_zero.1 (by simpa using h1))]
theorem slEqual.ret (l m : List Str) (hl : l.length ≤ 1099511627776) : slEqual.Ret [.list none (strs l), .list none (strs m)] (.val (.bool (decide (l = m)))) [] := by
  refine slEqual.of rfl ?_
  repeat' first
    | contradiction | exact trivial
    | (conv => whnf
       first | refine Need.mk (fun h => h) ?_ | refine Need.mk rfl ?_ | refine Need.mk ⟨rfl, Nat.le_of_ble_eq_true rfl⟩ ?_ | refine Need.mk (Nat.le_of_ble_eq_true rfl) ?_ | refine Need.fin ?_ | refine Need.mk ?_ ?_ | refine Ix.strsF rfl ?_ | refine Ix.strs rfl ?_ ?_ | refine Cut.strs rfl ?_ ?_ | refine Ix.mapF (fun _ => rfl) ?_ | refine Ix.map (fun _ => rfl) ?_ ?_ | refine Cut.map (fun _ => rfl) ?_ ?_ | refine Fork.yes (by assumption) ?_ | refine Fork.no (by assumption) ?_ | refine Fork.decYes (by omega) ?_ | refine Fork.decNo (by omega) ?_ | refine Fork.dec (fun _ => ?_) (fun _ => ?_) | refine Fork.bne (fun _ => ?_) (fun _ => ?_) | refine Fork.beq (fun _ => ?_) (fun _ => ?_) | refine Fork.seq (fun _ => ?_) (fun _ => ?_) | refine Fork.sne (fun _ => ?_) (fun _ => ?_) | refine Fork.neg (fun _ => ?_) (fun _ => ?_) | refine Fork.mk (fun _ => ?_) (fun _ => ?_) | refine HAlt.mk ?_ ?_ | apply HJoin.mk3 | exact HEnd.mk rfl rfl rfl | refine HEnd.mk ?_ ?_ ?_ | refine Round.mk ?_ | refine NilQ.mk (fun b hb => ?_) | refine forceK_of ?_ | refine forceBx_of ?_ | refine unG_old ?_ | refine unG_gv ?_ | refine Lit.read rfl ?_ | refine FinVal.keep ?_ | refine FinAgg.keep ?_ | refine Final.mk rfl rfl | refine Final.mk ?_ rfl | refine Final.mk ?_ ?_ | refine FinalT.mk ?_ ?_ | refine FinalC.allA ?_)
    | refine AV.bool_congr ?_ | refine AV.int_congr ?_ | refine AV.str_congr ?_ | refine AV.list_congr ?_ | with_reducible rfl | refine fr1 ?_ | refine fr2 ?_ ?_
  · rename_i h
    rw [length_strs, length_strs] at h
    have h3 : ¬ l = m := fun e => h (by rw [e])
    simp [h3]
  rename_i h
  rw [length_strs, length_strs] at h
  have h : l.length = m.length := by omega
  repeat' first
    | contradiction | exact trivial
    | (conv => whnf
       first | refine Need.mk (fun h => h) ?_ | refine Need.mk rfl ?_ | refine Need.mk ⟨rfl, Nat.le_of_ble_eq_true rfl⟩ ?_ | refine Need.mk (Nat.le_of_ble_eq_true rfl) ?_ | refine Need.fin ?_ | refine Need.mk ?_ ?_ | refine Ix.strsF rfl ?_ | refine Ix.strs rfl ?_ ?_ | refine Cut.strs rfl ?_ ?_ | refine Ix.mapF (fun _ => rfl) ?_ | refine Ix.map (fun _ => rfl) ?_ ?_ | refine Cut.map (fun _ => rfl) ?_ ?_ | refine Fork.yes (by assumption) ?_ | refine Fork.no (by assumption) ?_ | refine Fork.decYes (by omega) ?_ | refine Fork.decNo (by omega) ?_ | refine Fork.dec (fun _ => ?_) (fun _ => ?_) | refine Fork.bne (fun _ => ?_) (fun _ => ?_) | refine Fork.beq (fun _ => ?_) (fun _ => ?_) | refine Fork.seq (fun _ => ?_) (fun _ => ?_) | refine Fork.sne (fun _ => ?_) (fun _ => ?_) | refine Fork.neg (fun _ => ?_) (fun _ => ?_) | refine Fork.mk (fun _ => ?_) (fun _ => ?_) | refine HAlt.mk ?_ ?_ | apply HJoin.mk3 | exact HEnd.mk rfl rfl rfl | refine HEnd.mk ?_ ?_ ?_ | refine Round.mk ?_ | refine NilQ.mk (fun b hb => ?_) | refine forceK_of ?_ | refine forceBx_of ?_ | refine unG_old ?_ | refine unG_gv ?_ | refine Lit.read rfl ?_ | refine FinVal.keep ?_ | refine FinAgg.keep ?_ | refine Final.mk rfl rfl | refine Final.mk ?_ rfl | refine Final.mk ?_ ?_ | refine FinalT.mk ?_ ?_ | refine FinalC.allA ?_)
    | refine AV.bool_congr ?_ | refine AV.int_congr ?_ | refine AV.str_congr ?_ | refine AV.list_congr ?_ | with_reducible rfl | refine fr1 ?_ | refine fr2 ?_ ?_
  refine ALoop.mk Nat (fun i => ⟨[(0, .list none (strs l)), (1, .list none (strs m)), (12, .val (.int .i64 l.length)), (13, .val (.int .i64 i))], [], []⟩) (fun i => i ≤ l.length ∧ l.take i = m.take i) (fun i => l.length - i) ⟨0, ⟨Nat.zero_le _, rfl⟩, ?_⟩ (fun i hi => ?_)
  · repeat' first
      | exact trivial | refine Weak.mk ?_ ?_ ?_ ?_ (Or.inl (Nat.le_of_ble_eq_true rfl)) | refine Weak.mk ?_ ?_ ?_ ?_ (Or.inr ⟨(by repeat' first | exact trivial | exact Nat.le_of_ble_eq_true rfl | refine And.intro ?_ ?_), (by repeat' first | exact trivial | exact Nat.le_of_ble_eq_true rfl | refine And.intro ?_ ?_)⟩) | refine Weak.mk ?_ ?_ ?_ ?_ ?_ | refine And.intro ?_ ?_ | with_reducible rfl | exact Nat.le_of_ble_eq_true rfl | refine fr1 ?_ | refine fr2 ?_ ?_ | refine AV.int_congr ?_ | refine AV.bool_congr ?_ | refine AV.str_congr ?_ | refine AV.list_congr ?_ | refine AV.bsl_congr ?_ ?_ | (apply rfl)
    simp
  repeat' first
    | contradiction | exact trivial
    | (conv => whnf
       first | refine Need.mk (fun h => h) ?_ | refine Need.mk rfl ?_ | refine Need.mk ⟨rfl, Nat.le_of_ble_eq_true rfl⟩ ?_ | refine Need.mk (Nat.le_of_ble_eq_true rfl) ?_ | refine Need.fin ?_ | refine Need.mk ?_ ?_ | refine Ix.strsF rfl ?_ | refine Ix.strs rfl ?_ ?_ | refine Cut.strs rfl ?_ ?_ | refine Ix.mapF (fun _ => rfl) ?_ | refine Ix.map (fun _ => rfl) ?_ ?_ | refine Cut.map (fun _ => rfl) ?_ ?_ | refine Fork.yes (by assumption) ?_ | refine Fork.no (by assumption) ?_ | refine Fork.decYes (by omega) ?_ | refine Fork.decNo (by omega) ?_ | refine Fork.dec (fun _ => ?_) (fun _ => ?_) | refine Fork.bne (fun _ => ?_) (fun _ => ?_) | refine Fork.beq (fun _ => ?_) (fun _ => ?_) | refine Fork.seq (fun _ => ?_) (fun _ => ?_) | refine Fork.sne (fun _ => ?_) (fun _ => ?_) | refine Fork.neg (fun _ => ?_) (fun _ => ?_) | refine Fork.mk (fun _ => ?_) (fun _ => ?_) | refine HAlt.mk ?_ ?_ | apply HJoin.mk3 | exact HEnd.mk rfl rfl rfl | refine HEnd.mk ?_ ?_ ?_ | refine Round.mk ?_ | refine NilQ.mk (fun b hb => ?_) | refine forceK_of ?_ | refine forceBx_of ?_ | refine unG_old ?_ | refine unG_gv ?_ | refine Lit.read rfl ?_ | refine FinVal.keep ?_ | refine FinAgg.keep ?_ | refine Final.mk rfl rfl | refine Final.mk ?_ rfl | refine Final.mk ?_ ?_ | refine FinalT.mk ?_ ?_ | refine FinalC.allA ?_)
    | refine AV.bool_congr ?_ | refine AV.int_congr ?_ | refine AV.str_congr ?_ | refine AV.list_congr ?_ | with_reducible rfl | refine fr1 ?_ | refine fr2 ?_ ?_
  · rename_i h1 h2
    have h3 : ¬ l = m := fun e => h2 (by rw [e])
    simp [h3]
  · rename_i h1 h2
    refine ⟨i + 1, ⟨by omega, ?_⟩, ?_, by omega⟩
    · rw [take_succ' [] (by omega), take_succ' (l := m) [] (by omega), hi.2]
      rw [Int.toNat_natCast] at h2
      have h2' : l.getD i [] = m.getD i [] := h2
      rw [h2']
    · repeat' first
        | exact trivial | refine Weak.mk ?_ ?_ ?_ ?_ (Or.inl (Nat.le_of_ble_eq_true rfl)) | refine Weak.mk ?_ ?_ ?_ ?_ (Or.inr ⟨(by repeat' first | exact trivial | exact Nat.le_of_ble_eq_true rfl | refine And.intro ?_ ?_), (by repeat' first | exact trivial | exact Nat.le_of_ble_eq_true rfl | refine And.intro ?_ ?_)⟩) | refine Weak.mk ?_ ?_ ?_ ?_ ?_ | refine And.intro ?_ ?_ | with_reducible rfl | exact Nat.le_of_ble_eq_true rfl | refine fr1 ?_ | refine fr2 ?_ ?_ | refine AV.int_congr ?_ | refine AV.bool_congr ?_ | refine AV.str_congr ?_ | refine AV.list_congr ?_ | refine AV.bsl_congr ?_ ?_ | (apply rfl)
      rw [wrap64 (by omega) (by omega)]; rfl
  · rename_i h1
    have h2 := hi.2
    rw [List.take_of_length_le (by omega), List.take_of_length_le (by omega)] at h2
    simp [h2]
theorem sSameTexts.ret (l m : List Str) (hl : l.length ≤ 1099511627776) : sSameTexts.Ret [.list none (strs l), .list none (strs m)] (.val (.bool (decide (l = m)))) [] := by
  refine sSameTexts.of rfl ?_
  repeat' first
    | contradiction | exact trivial
    | (conv => whnf
       first | refine Need.mk (fun h => h) ?_ | refine Need.mk rfl ?_ | refine Need.mk ⟨rfl, Nat.le_of_ble_eq_true rfl⟩ ?_ | refine Need.mk (Nat.le_of_ble_eq_true rfl) ?_ | refine Need.fin ?_ | refine Need.mk ?_ ?_ | refine Ix.strsF rfl ?_ | refine Ix.strs rfl ?_ ?_ | refine Cut.strs rfl ?_ ?_ | refine Ix.mapF (fun _ => rfl) ?_ | refine Ix.map (fun _ => rfl) ?_ ?_ | refine Cut.map (fun _ => rfl) ?_ ?_ | refine Fork.yes (by assumption) ?_ | refine Fork.no (by assumption) ?_ | refine Fork.decYes (by omega) ?_ | refine Fork.decNo (by omega) ?_ | refine Fork.dec (fun _ => ?_) (fun _ => ?_) | refine Fork.bne (fun _ => ?_) (fun _ => ?_) | refine Fork.beq (fun _ => ?_) (fun _ => ?_) | refine Fork.seq (fun _ => ?_) (fun _ => ?_) | refine Fork.sne (fun _ => ?_) (fun _ => ?_) | refine Fork.neg (fun _ => ?_) (fun _ => ?_) | refine Fork.mk (fun _ => ?_) (fun _ => ?_) | refine HAlt.mk ?_ ?_ | apply HJoin.mk3 | exact HEnd.mk rfl rfl rfl | refine HEnd.mk ?_ ?_ ?_ | refine Round.mk ?_ | refine NilQ.mk (fun b hb => ?_) | refine forceK_of ?_ | refine forceBx_of ?_ | refine unG_old ?_ | refine unG_gv ?_ | refine Lit.read rfl ?_ | refine FinVal.keep ?_ | refine FinAgg.keep ?_ | refine Final.mk rfl rfl | refine Final.mk ?_ rfl | refine Final.mk ?_ ?_ | refine FinalT.mk ?_ ?_ | refine FinalC.allA ?_)
    | refine AV.bool_congr ?_ | refine AV.int_congr ?_ | refine AV.str_congr ?_ | refine AV.list_congr ?_ | with_reducible rfl | refine fr1 ?_ | refine fr2 ?_ ?_
  · rename_i h
    rw [length_strs, length_strs] at h
    have h3 : ¬ l = m := fun e => h (by rw [e])
    simp [h3]
  rename_i h
  rw [length_strs, length_strs] at h
  have h : l.length = m.length := by omega
  repeat' first
    | contradiction | exact trivial
    | (conv => whnf
       first | refine Need.mk (fun h => h) ?_ | refine Need.mk rfl ?_ | refine Need.mk ⟨rfl, Nat.le_of_ble_eq_true rfl⟩ ?_ | refine Need.mk (Nat.le_of_ble_eq_true rfl) ?_ | refine Need.fin ?_ | refine Need.mk ?_ ?_ | refine Ix.strsF rfl ?_ | refine Ix.strs rfl ?_ ?_ | refine Cut.strs rfl ?_ ?_ | refine Ix.mapF (fun _ => rfl) ?_ | refine Ix.map (fun _ => rfl) ?_ ?_ | refine Cut.map (fun _ => rfl) ?_ ?_ | refine Fork.yes (by assumption) ?_ | refine Fork.no (by assumption) ?_ | refine Fork.decYes (by omega) ?_ | refine Fork.decNo (by omega) ?_ | refine Fork.dec (fun _ => ?_) (fun _ => ?_) | refine Fork.bne (fun _ => ?_) (fun _ => ?_) | refine Fork.beq (fun _ => ?_) (fun _ => ?_) | refine Fork.seq (fun _ => ?_) (fun _ => ?_) | refine Fork.sne (fun _ => ?_) (fun _ => ?_) | refine Fork.neg (fun _ => ?_) (fun _ => ?_) | refine Fork.mk (fun _ => ?_) (fun _ => ?_) | refine HAlt.mk ?_ ?_ | apply HJoin.mk3 | exact HEnd.mk rfl rfl rfl | refine HEnd.mk ?_ ?_ ?_ | refine Round.mk ?_ | refine NilQ.mk (fun b hb => ?_) | refine forceK_of ?_ | refine forceBx_of ?_ | refine unG_old ?_ | refine unG_gv ?_ | refine Lit.read rfl ?_ | refine FinVal.keep ?_ | refine FinAgg.keep ?_ | refine Final.mk rfl rfl | refine Final.mk ?_ rfl | refine Final.mk ?_ ?_ | refine FinalT.mk ?_ ?_ | refine FinalC.allA ?_)
    | refine AV.bool_congr ?_ | refine AV.int_congr ?_ | refine AV.str_congr ?_ | refine AV.list_congr ?_ | with_reducible rfl | refine fr1 ?_ | refine fr2 ?_ ?_
  refine ALoop.mk Nat (fun i => ⟨[(0, .list none (strs l)), (1, .list none (strs m)), (5, .val (.int .i64 i))], [], []⟩) (fun i => i ≤ l.length ∧ l.take i = m.take i) (fun i => l.length - i) ⟨0, ⟨Nat.zero_le _, rfl⟩, ?_⟩ (fun i hi => ?_)
  · repeat' first
      | exact trivial | refine Weak.mk ?_ ?_ ?_ ?_ (Or.inl (Nat.le_of_ble_eq_true rfl)) | refine Weak.mk ?_ ?_ ?_ ?_ (Or.inr ⟨(by repeat' first | exact trivial | exact Nat.le_of_ble_eq_true rfl | refine And.intro ?_ ?_), (by repeat' first | exact trivial | exact Nat.le_of_ble_eq_true rfl | refine And.intro ?_ ?_)⟩) | refine Weak.mk ?_ ?_ ?_ ?_ ?_ | refine And.intro ?_ ?_ | with_reducible rfl | exact Nat.le_of_ble_eq_true rfl | refine fr1 ?_ | refine fr2 ?_ ?_ | refine AV.int_congr ?_ | refine AV.bool_congr ?_ | refine AV.str_congr ?_ | refine AV.list_congr ?_ | refine AV.bsl_congr ?_ ?_ | (apply rfl)
  repeat' first
    | contradiction | exact trivial
    | (conv => whnf
       first | refine Need.mk (fun h => h) ?_ | refine Need.mk rfl ?_ | refine Need.mk ⟨rfl, Nat.le_of_ble_eq_true rfl⟩ ?_ | refine Need.mk (Nat.le_of_ble_eq_true rfl) ?_ | refine Need.fin ?_ | refine Need.mk ?_ ?_ | refine Ix.strsF rfl ?_ | refine Ix.strs rfl ?_ ?_ | refine Cut.strs rfl ?_ ?_ | refine Ix.mapF (fun _ => rfl) ?_ | refine Ix.map (fun _ => rfl) ?_ ?_ | refine Cut.map (fun _ => rfl) ?_ ?_ | refine Fork.yes (by assumption) ?_ | refine Fork.no (by assumption) ?_ | refine Fork.decYes (by omega) ?_ | refine Fork.decNo (by omega) ?_ | refine Fork.dec (fun _ => ?_) (fun _ => ?_) | refine Fork.bne (fun _ => ?_) (fun _ => ?_) | refine Fork.beq (fun _ => ?_) (fun _ => ?_) | refine Fork.seq (fun _ => ?_) (fun _ => ?_) | refine Fork.sne (fun _ => ?_) (fun _ => ?_) | refine Fork.neg (fun _ => ?_) (fun _ => ?_) | refine Fork.mk (fun _ => ?_) (fun _ => ?_) | refine HAlt.mk ?_ ?_ | apply HJoin.mk3 | exact HEnd.mk rfl rfl rfl | refine HEnd.mk ?_ ?_ ?_ | refine Round.mk ?_ | refine NilQ.mk (fun b hb => ?_) | refine forceK_of ?_ | refine forceBx_of ?_ | refine unG_old ?_ | refine unG_gv ?_ | refine Lit.read rfl ?_ | refine FinVal.keep ?_ | refine FinAgg.keep ?_ | refine Final.mk rfl rfl | refine Final.mk ?_ rfl | refine Final.mk ?_ ?_ | refine FinalT.mk ?_ ?_ | refine FinalC.allA ?_)
    | refine AV.bool_congr ?_ | refine AV.int_congr ?_ | refine AV.str_congr ?_ | refine AV.list_congr ?_ | with_reducible rfl | refine fr1 ?_ | refine fr2 ?_ ?_
  · rename_i h1 h2
    have h3 : ¬ l = m := fun e => h2 (by rw [e])
    simp [h3]
  · rename_i h1 h2
    rw [length_strs] at h1
    refine ⟨i + 1, ⟨by omega, ?_⟩, ?_, by omega⟩
    · rw [take_succ' [] (by omega), take_succ' (l := m) [] (by omega), hi.2]
      rw [Int.toNat_natCast] at h2
      have h2' : l.getD i [] = m.getD i [] := h2
      rw [h2']
    · repeat' first
        | exact trivial | refine Weak.mk ?_ ?_ ?_ ?_ (Or.inl (Nat.le_of_ble_eq_true rfl)) | refine Weak.mk ?_ ?_ ?_ ?_ (Or.inr ⟨(by repeat' first | exact trivial | exact Nat.le_of_ble_eq_true rfl | refine And.intro ?_ ?_), (by repeat' first | exact trivial | exact Nat.le_of_ble_eq_true rfl | refine And.intro ?_ ?_)⟩) | refine Weak.mk ?_ ?_ ?_ ?_ ?_ | refine And.intro ?_ ?_ | with_reducible rfl | exact Nat.le_of_ble_eq_true rfl | refine fr1 ?_ | refine fr2 ?_ ?_ | refine AV.int_congr ?_ | refine AV.bool_congr ?_ | refine AV.str_congr ?_ | refine AV.list_congr ?_ | refine AV.bsl_congr ?_ ?_ | (apply rfl)
      rw [wrap64 (by omega) (by omega)]; rfl
  · rename_i h1
    rw [length_strs] at h1
    have h2 := hi.2
    rw [List.take_of_length_le (by omega), List.take_of_length_le (by omega)] at h2
    simp [h2]
theorem sSame.ret (f g : Fct) (h : tFct.size f ≤ 1048576) : sSame.Ret [.agg (oldL (tFct.q f)), .agg (oldL (tFct.q g))] (.val (.bool (decide (f = g)))) [] := by
  refine sSame.of rfl ?_
  rw [tFct_size, tStrs_size] at h
  repeat' first
    | contradiction | exact trivial
    | (conv => whnf
       first | refine Need.mk (fun h => h) ?_ | refine Need.mk rfl ?_ | refine Need.mk ⟨rfl, Nat.le_of_ble_eq_true rfl⟩ ?_ | refine Need.mk (Nat.le_of_ble_eq_true rfl) ?_ | refine Need.fin ?_ | refine Need.mk ?_ ?_ | refine Ix.strsF rfl ?_ | refine Ix.strs rfl ?_ ?_ | refine Cut.strs rfl ?_ ?_ | refine Ix.mapF (fun _ => rfl) ?_ | refine Ix.map (fun _ => rfl) ?_ ?_ | refine Cut.map (fun _ => rfl) ?_ ?_ | refine Fork.yes (by assumption) ?_ | refine Fork.no (by assumption) ?_ | refine Fork.decYes (by omega) ?_ | refine Fork.decNo (by omega) ?_ | refine Fork.dec (fun _ => ?_) (fun _ => ?_) | refine Fork.bne (fun _ => ?_) (fun _ => ?_) | refine Fork.beq (fun _ => ?_) (fun _ => ?_) | refine Fork.seq (fun _ => ?_) (fun _ => ?_) | refine Fork.sne (fun _ => ?_) (fun _ => ?_) | refine Fork.neg (fun _ => ?_) (fun _ => ?_) | refine Fork.mk (fun _ => ?_) (fun _ => ?_) | refine HAlt.mk ?_ ?_ | apply HJoin.mk3 | exact HEnd.mk rfl rfl rfl | refine HEnd.mk ?_ ?_ ?_ | refine Round.mk ?_ | refine NilQ.mk (fun b hb => ?_) | refine forceK_of ?_ | refine forceBx_of ?_ | refine unG_old ?_ | refine unG_gv ?_ | refine Lit.read rfl ?_ | refine FinVal.keep ?_ | refine FinAgg.keep ?_ | refine Final.mk rfl rfl | refine Final.mk ?_ rfl | refine Final.mk ?_ ?_ | refine FinalT.mk ?_ ?_ | refine FinalC.allA ?_ | refine ACall.scalA _ _ (sSameTexts.ret _ _ ?_) rfl ?_ | refine AQCall.mkA _ _ (fun hg => sSameTexts.ret _ _ ?_) rfl ?_ | refine AGCall.mkA _ _ (fun hg => sSameTexts.ret _ _ ?_) rfl ?_)
    | refine AV.bool_congr ?_ | refine AV.int_congr ?_ | refine AV.str_congr ?_ | refine AV.list_congr ?_ | with_reducible rfl | refine fr1 ?_ | refine fr2 ?_ ?_
  · omega
  · obtain ⟨r, l⟩ := f; obtain ⟨r', l'⟩ := g
    rw [Bool.eq_iff_iff]; simp
theorem psameFact.ret (f g : Fct) (h : tFct.size f ≤ 1048576) : psameFact.Ret [.agg (oldL (tFct.q f)), .agg (oldL (tFct.q g))] (.val (.bool (decide (f = g)))) [] := by
  refine psameFact.of rfl ?_
  rw [tFct_size, tStrs_size] at h
  repeat' first
    | contradiction | exact trivial
    | (conv => whnf
       first | refine Need.mk (fun h => h) ?_ | refine Need.mk rfl ?_ | refine Need.mk ⟨rfl, Nat.le_of_ble_eq_true rfl⟩ ?_ | refine Need.mk (Nat.le_of_ble_eq_true rfl) ?_ | refine Need.fin ?_ | refine Need.mk ?_ ?_ | refine Ix.strsF rfl ?_ | refine Ix.strs rfl ?_ ?_ | refine Cut.strs rfl ?_ ?_ | refine Ix.mapF (fun _ => rfl) ?_ | refine Ix.map (fun _ => rfl) ?_ ?_ | refine Cut.map (fun _ => rfl) ?_ ?_ | refine Fork.yes (by assumption) ?_ | refine Fork.no (by assumption) ?_ | refine Fork.decYes (by omega) ?_ | refine Fork.decNo (by omega) ?_ | refine Fork.dec (fun _ => ?_) (fun _ => ?_) | refine Fork.bne (fun _ => ?_) (fun _ => ?_) | refine Fork.beq (fun _ => ?_) (fun _ => ?_) | refine Fork.seq (fun _ => ?_) (fun _ => ?_) | refine Fork.sne (fun _ => ?_) (fun _ => ?_) | refine Fork.neg (fun _ => ?_) (fun _ => ?_) | refine Fork.mk (fun _ => ?_) (fun _ => ?_) | refine HAlt.mk ?_ ?_ | apply HJoin.mk3 | exact HEnd.mk rfl rfl rfl | refine HEnd.mk ?_ ?_ ?_ | refine Round.mk ?_ | refine NilQ.mk (fun b hb => ?_) | refine forceK_of ?_ | refine forceBx_of ?_ | refine unG_old ?_ | refine unG_gv ?_ | refine Lit.read rfl ?_ | refine FinVal.keep ?_ | refine FinAgg.keep ?_ | refine Final.mk rfl rfl | refine Final.mk ?_ rfl | refine Final.mk ?_ ?_ | refine FinalT.mk ?_ ?_ | refine FinalC.allA ?_ | refine ACall.scalA _ _ (slEqual.ret _ _ ?_) rfl ?_ | refine AQCall.mkA _ _ (fun hg => slEqual.ret _ _ ?_) rfl ?_ | refine AGCall.mkA _ _ (fun hg => slEqual.ret _ _ ?_) rfl ?_)
    | refine AV.bool_congr ?_ | refine AV.int_congr ?_ | refine AV.str_congr ?_ | refine AV.list_congr ?_ | with_reducible rfl | refine fr1 ?_ | refine fr2 ?_ ?_
  · omega
  · obtain ⟨r, l⟩ := f; obtain ⟨r', l'⟩ := g
    rw [Bool.eq_iff_iff]; simp
theorem fct_le {l : List Fct} {i : Nat} (hi : i < l.length) : tFct.size (l.getD i default) ≤ listSize tFct l :=
  listSize_mem tFct (List.mem_of_getElem? (facts_get hi))
theorem fct_le' {l : List Fct} (i : Nat) : tFct.size (l.getD i default) ≤ listSize tFct l := by
  rcases Nat.lt_or_ge i l.length with h | h
  · exact fct_le h
  · have : l.getD i default = default := by simp [List.getD, List.getElem?_eq_none h]
    rw [this]; exact Nat.zero_le _
def findF : List Fct → Fct → Int → Int
  | [], _, _ => -1
  | g :: l, f, n => if g = f then n else findF l f (n + 1)
theorem findF_drop {l : List Fct} {f : Fct} {i : Nat} (hi : i < l.length) : findF (l.drop i) f i = if l.getD i default = f then (i : Int) else findF (l.drop (i + 1)) f ((i + 1 : Nat) : Int) := by
  rw [List.drop_eq_getElem_cons hi, findF]
  simp [List.getD, hi]
theorem sFindFact.ret (l : List Fct) (f : Fct) (h : tFcts.size l ≤ 1048576) (h' : tFct.size f ≤ 1048576) : sFindFact.Ret [.list none (facts l), .agg (oldL (tFct.q f))] (.val (.int .i64 (findF l f 0))) [] := by
  refine sFindFact.of rfl ?_
  rw [tFcts_size] at h
  repeat' first
    | contradiction | exact trivial
    | (conv => whnf
       first | refine Need.mk (fun h => h) ?_ | refine Need.mk rfl ?_ | refine Need.mk ⟨rfl, Nat.le_of_ble_eq_true rfl⟩ ?_ | refine Need.mk (Nat.le_of_ble_eq_true rfl) ?_ | refine Need.fin ?_ | refine Need.mk ?_ ?_ | refine Ix.strsF rfl ?_ | refine Ix.strs rfl ?_ ?_ | refine Cut.strs rfl ?_ ?_ | refine Ix.mapF (fun _ => rfl) ?_ | refine Ix.map (fun _ => rfl) ?_ ?_ | refine Cut.map (fun _ => rfl) ?_ ?_ | refine Fork.yes (by assumption) ?_ | refine Fork.no (by assumption) ?_ | refine Fork.decYes (by omega) ?_ | refine Fork.decNo (by omega) ?_ | refine Fork.dec (fun _ => ?_) (fun _ => ?_) | refine Fork.bne (fun _ => ?_) (fun _ => ?_) | refine Fork.beq (fun _ => ?_) (fun _ => ?_) | refine Fork.seq (fun _ => ?_) (fun _ => ?_) | refine Fork.sne (fun _ => ?_) (fun _ => ?_) | refine Fork.neg (fun _ => ?_) (fun _ => ?_) | refine Fork.mk (fun _ => ?_) (fun _ => ?_) | refine HAlt.mk ?_ ?_ | apply HJoin.mk3 | exact HEnd.mk rfl rfl rfl | refine HEnd.mk ?_ ?_ ?_ | refine Round.mk ?_ | refine NilQ.mk (fun b hb => ?_) | refine forceK_of ?_ | refine forceBx_of ?_ | refine unG_old ?_ | refine unG_gv ?_ | refine Lit.read rfl ?_ | refine FinVal.keep ?_ | refine FinAgg.keep ?_ | refine Final.mk rfl rfl | refine Final.mk ?_ rfl | refine Final.mk ?_ ?_ | refine FinalT.mk ?_ ?_ | refine FinalC.allA ?_)
    | refine AV.bool_congr ?_ | refine AV.int_congr ?_ | refine AV.str_congr ?_ | refine AV.list_congr ?_ | with_reducible rfl | refine fr1 ?_ | refine fr2 ?_ ?_
  refine ALoop.mk Nat (fun i => ⟨[(0, .list none (facts l)), (3, .bptr 0 0), (5, .val (.int .i64 i))], [.cells .var (oldL (tFct.q f))], []⟩) (fun i => i ≤ l.length ∧ findF (l.drop i) f i = findF l f 0) (fun i => l.length - i) ⟨0, ⟨Nat.zero_le _, rfl⟩, ?_⟩ (fun i hi => ?_)
  · repeat' first
      | exact trivial | refine Weak.mk ?_ ?_ ?_ ?_ (Or.inl (Nat.le_of_ble_eq_true rfl)) | refine Weak.mk ?_ ?_ ?_ ?_ (Or.inr ⟨(by repeat' first | exact trivial | exact Nat.le_of_ble_eq_true rfl | refine And.intro ?_ ?_), (by repeat' first | exact trivial | exact Nat.le_of_ble_eq_true rfl | refine And.intro ?_ ?_)⟩) | refine Weak.mk ?_ ?_ ?_ ?_ ?_ | refine And.intro ?_ ?_ | with_reducible rfl | exact Nat.le_of_ble_eq_true rfl | refine fr1 ?_ | refine fr2 ?_ ?_ | refine AV.int_congr ?_ | refine AV.bool_congr ?_ | refine AV.str_congr ?_ | refine AV.list_congr ?_ | refine AV.bsl_congr ?_ ?_ | (apply rfl)
  repeat' first
    | contradiction | exact trivial
    | (conv => whnf
       first | refine Need.mk (fun h => h) ?_ | refine Need.mk rfl ?_ | refine Need.mk ⟨rfl, Nat.le_of_ble_eq_true rfl⟩ ?_ | refine Need.mk (Nat.le_of_ble_eq_true rfl) ?_ | refine Need.fin ?_ | refine Need.mk ?_ ?_ | refine Ix.strsF rfl ?_ | refine Ix.strs rfl ?_ ?_ | refine Cut.strs rfl ?_ ?_ | refine Ix.mapF (fun _ => rfl) ?_ | refine Ix.map (fun _ => rfl) ?_ ?_ | refine Cut.map (fun _ => rfl) ?_ ?_ | refine Fork.yes (by assumption) ?_ | refine Fork.no (by assumption) ?_ | refine Fork.decYes (by omega) ?_ | refine Fork.decNo (by omega) ?_ | refine Fork.dec (fun _ => ?_) (fun _ => ?_) | refine Fork.bne (fun _ => ?_) (fun _ => ?_) | refine Fork.beq (fun _ => ?_) (fun _ => ?_) | refine Fork.seq (fun _ => ?_) (fun _ => ?_) | refine Fork.sne (fun _ => ?_) (fun _ => ?_) | refine Fork.neg (fun _ => ?_) (fun _ => ?_) | refine Fork.mk (fun _ => ?_) (fun _ => ?_) | refine HAlt.mk ?_ ?_ | apply HJoin.mk3 | exact HEnd.mk rfl rfl rfl | refine HEnd.mk ?_ ?_ ?_ | refine Round.mk ?_ | refine NilQ.mk (fun b hb => ?_) | refine forceK_of ?_ | refine forceBx_of ?_ | refine unG_old ?_ | refine unG_gv ?_ | refine Lit.read rfl ?_ | refine FinVal.keep ?_ | refine FinAgg.keep ?_ | refine Final.mk rfl rfl | refine Final.mk ?_ rfl | refine Final.mk ?_ ?_ | refine FinalT.mk ?_ ?_ | refine FinalC.allA ?_ | refine ACall.scalA _ _ (sSame.ret _ _ ?_) rfl ?_ | refine AQCall.mkA _ _ (fun hg => sSame.ret _ _ ?_) rfl ?_ | refine AGCall.mkA _ _ (fun hg => sSame.ret _ _ ?_) rfl ?_)
    | refine AV.bool_congr ?_ | refine AV.int_congr ?_ | refine AV.str_congr ?_ | refine AV.list_congr ?_ | with_reducible rfl | refine fr1 ?_ | refine fr2 ?_ ?_
  all_goals try simp only [length_rows, length_strs, length_oldLL, List.length_map, Int.toNat_natCast] at *
  · have := fct_le (l := l) (i := i) (by omega); omega
  · rename_i h1 h2
    have h3 := findF_drop (l := l) (f := f) (i := i) (by omega)
    rw [if_pos (by simpa using h1), hi.2] at h3
    exact h3.symm
  · rename_i h1 h2
    have h3 := findF_drop (l := l) (f := f) (i := i) (by omega)
    rw [if_neg (by simpa using h1), hi.2] at h3
    refine ⟨i + 1, ⟨by omega, h3.symm⟩, ?_, by omega⟩
    repeat' first
      | exact trivial | refine Weak.mk ?_ ?_ ?_ ?_ (Or.inl (Nat.le_of_ble_eq_true rfl)) | refine Weak.mk ?_ ?_ ?_ ?_ (Or.inr ⟨(by repeat' first | exact trivial | exact Nat.le_of_ble_eq_true rfl | refine And.intro ?_ ?_), (by repeat' first | exact trivial | exact Nat.le_of_ble_eq_true rfl | refine And.intro ?_ ?_)⟩) | refine Weak.mk ?_ ?_ ?_ ?_ ?_ | refine And.intro ?_ ?_ | with_reducible rfl | exact Nat.le_of_ble_eq_true rfl | refine fr1 ?_ | refine fr2 ?_ ?_ | refine AV.int_congr ?_ | refine AV.bool_congr ?_ | refine AV.str_congr ?_ | refine AV.list_congr ?_ | refine AV.bsl_congr ?_ ?_ | (apply rfl)
    rw [wrap64 (by omega) (by omega)]; rfl
  · have := hi.2
    rw [List.drop_eq_nil_of_le (by omega)] at this
    rw [← this]; rfl
theorem pFindFact.ret (l : List Fct) (f : Fct) (h : tFcts.size l ≤ 1048576) (h' : tFct.size f ≤ 1048576) : pFindFact.Ret [.list none (facts l), .agg (oldL (tFct.q f))] (.val (.int .i64 (findF l f 0))) [] := by
  refine pFindFact.of rfl ?_
  rw [tFcts_size] at h
  repeat' first
    | contradiction | exact trivial
    | (conv => whnf
       first | refine Need.mk (fun h => h) ?_ | refine Need.mk rfl ?_ | refine Need.mk ⟨rfl, Nat.le_of_ble_eq_true rfl⟩ ?_ | refine Need.mk (Nat.le_of_ble_eq_true rfl) ?_ | refine Need.fin ?_ | refine Need.mk ?_ ?_ | refine Ix.strsF rfl ?_ | refine Ix.strs rfl ?_ ?_ | refine Cut.strs rfl ?_ ?_ | refine Ix.mapF (fun _ => rfl) ?_ | refine Ix.map (fun _ => rfl) ?_ ?_ | refine Cut.map (fun _ => rfl) ?_ ?_ | refine Fork.yes (by assumption) ?_ | refine Fork.no (by assumption) ?_ | refine Fork.decYes (by omega) ?_ | refine Fork.decNo (by omega) ?_ | refine Fork.dec (fun _ => ?_) (fun _ => ?_) | refine Fork.bne (fun _ => ?_) (fun _ => ?_) | refine Fork.beq (fun _ => ?_) (fun _ => ?_) | refine Fork.seq (fun _ => ?_) (fun _ => ?_) | refine Fork.sne (fun _ => ?_) (fun _ => ?_) | refine Fork.neg (fun _ => ?_) (fun _ => ?_) | refine Fork.mk (fun _ => ?_) (fun _ => ?_) | refine HAlt.mk ?_ ?_ | apply HJoin.mk3 | exact HEnd.mk rfl rfl rfl | refine HEnd.mk ?_ ?_ ?_ | refine Round.mk ?_ | refine NilQ.mk (fun b hb => ?_) | refine forceK_of ?_ | refine forceBx_of ?_ | refine unG_old ?_ | refine unG_gv ?_ | refine Lit.read rfl ?_ | refine FinVal.keep ?_ | refine FinAgg.keep ?_ | refine Final.mk rfl rfl | refine Final.mk ?_ rfl | refine Final.mk ?_ ?_ | refine FinalT.mk ?_ ?_ | refine FinalC.allA ?_)
    | refine AV.bool_congr ?_ | refine AV.int_congr ?_ | refine AV.str_congr ?_ | refine AV.list_congr ?_ | with_reducible rfl | refine fr1 ?_ | refine fr2 ?_ ?_
  refine ALoop.mk Nat (fun i => ⟨[(0, .list none (facts l)), (3, .bptr 0 0), (7, .list none (facts l)), (8, .val (.int .i64 l.length)), (9, .val (.int .i64 i))], [.cells .var (oldL (tFct.q f))], []⟩) (fun i => i ≤ l.length ∧ findF (l.drop i) f i = findF l f 0) (fun i => l.length - i) ⟨0, ⟨Nat.zero_le _, rfl⟩, ?_⟩ (fun i hi => ?_)
  · repeat' first
      | exact trivial | refine Weak.mk ?_ ?_ ?_ ?_ (Or.inl (Nat.le_of_ble_eq_true rfl)) | refine Weak.mk ?_ ?_ ?_ ?_ (Or.inr ⟨(by repeat' first | exact trivial | exact Nat.le_of_ble_eq_true rfl | refine And.intro ?_ ?_), (by repeat' first | exact trivial | exact Nat.le_of_ble_eq_true rfl | refine And.intro ?_ ?_)⟩) | refine Weak.mk ?_ ?_ ?_ ?_ ?_ | refine And.intro ?_ ?_ | with_reducible rfl | exact Nat.le_of_ble_eq_true rfl | refine fr1 ?_ | refine fr2 ?_ ?_ | refine AV.int_congr ?_ | refine AV.bool_congr ?_ | refine AV.str_congr ?_ | refine AV.list_congr ?_ | refine AV.bsl_congr ?_ ?_ | (apply rfl)
    simp
  repeat' first
    | contradiction | exact trivial
    | (conv => whnf
       first | refine Need.mk (fun h => h) ?_ | refine Need.mk rfl ?_ | refine Need.mk ⟨rfl, Nat.le_of_ble_eq_true rfl⟩ ?_ | refine Need.mk (Nat.le_of_ble_eq_true rfl) ?_ | refine Need.fin ?_ | refine Need.mk ?_ ?_ | refine Ix.strsF rfl ?_ | refine Ix.strs rfl ?_ ?_ | refine Cut.strs rfl ?_ ?_ | refine Ix.mapF (fun _ => rfl) ?_ | refine Ix.map (fun _ => rfl) ?_ ?_ | refine Cut.map (fun _ => rfl) ?_ ?_ | refine Fork.yes (by assumption) ?_ | refine Fork.no (by assumption) ?_ | refine Fork.decYes (by omega) ?_ | refine Fork.decNo (by omega) ?_ | refine Fork.dec (fun _ => ?_) (fun _ => ?_) | refine Fork.bne (fun _ => ?_) (fun _ => ?_) | refine Fork.beq (fun _ => ?_) (fun _ => ?_) | refine Fork.seq (fun _ => ?_) (fun _ => ?_) | refine Fork.sne (fun _ => ?_) (fun _ => ?_) | refine Fork.neg (fun _ => ?_) (fun _ => ?_) | refine Fork.mk (fun _ => ?_) (fun _ => ?_) | refine HAlt.mk ?_ ?_ | apply HJoin.mk3 | exact HEnd.mk rfl rfl rfl | refine HEnd.mk ?_ ?_ ?_ | refine Round.mk ?_ | refine NilQ.mk (fun b hb => ?_) | refine forceK_of ?_ | refine forceBx_of ?_ | refine unG_old ?_ | refine unG_gv ?_ | refine Lit.read rfl ?_ | refine FinVal.keep ?_ | refine FinAgg.keep ?_ | refine Final.mk rfl rfl | refine Final.mk ?_ rfl | refine Final.mk ?_ ?_ | refine FinalT.mk ?_ ?_ | refine FinalC.allA ?_ | refine ACall.scalA _ _ (psameFact.ret _ _ ?_) rfl ?_ | refine AQCall.mkA _ _ (fun hg => psameFact.ret _ _ ?_) rfl ?_ | refine AGCall.mkA _ _ (fun hg => psameFact.ret _ _ ?_) rfl ?_)
    | refine AV.bool_congr ?_ | refine AV.int_congr ?_ | refine AV.str_congr ?_ | refine AV.list_congr ?_ | with_reducible rfl | refine fr1 ?_ | refine fr2 ?_ ?_
  all_goals try simp only [length_rows, length_strs, length_oldLL, List.length_map, Int.toNat_natCast] at *
  · have := fct_le (l := l) (i := i) (by omega); omega
  · rename_i h1 h2
    have h3 := findF_drop (l := l) (f := f) (i := i) (by omega)
    rw [if_pos (by simpa using h2), hi.2] at h3
    exact h3.symm
  · rename_i h1 h2
    have h3 := findF_drop (l := l) (f := f) (i := i) (by omega)
    rw [if_neg (by simpa using h2), hi.2] at h3
    refine ⟨i + 1, ⟨by omega, h3.symm⟩, ?_, by omega⟩
    repeat' first
      | exact trivial | refine Weak.mk ?_ ?_ ?_ ?_ (Or.inl (Nat.le_of_ble_eq_true rfl)) | refine Weak.mk ?_ ?_ ?_ ?_ (Or.inr ⟨(by repeat' first | exact trivial | exact Nat.le_of_ble_eq_true rfl | refine And.intro ?_ ?_), (by repeat' first | exact trivial | exact Nat.le_of_ble_eq_true rfl | refine And.intro ?_ ?_)⟩) | refine Weak.mk ?_ ?_ ?_ ?_ ?_ | refine And.intro ?_ ?_ | with_reducible rfl | exact Nat.le_of_ble_eq_true rfl | refine fr1 ?_ | refine fr2 ?_ ?_ | refine AV.int_congr ?_ | refine AV.bool_congr ?_ | refine AV.str_congr ?_ | refine AV.list_congr ?_ | refine AV.bsl_congr ?_ ?_ | (apply rfl)
    rw [wrap64 (by omega) (by omega)]; rfl
  · have := hi.2
    rw [List.drop_eq_nil_of_le (by omega)] at this
    rw [← this]; rfl
def badAt (l : List Fct) (i : Nat) : Bool := !isFactF (l.getD i default) || (decide ((0 : Int) < i) && decide (0 ≤ cmpF (l.getD (i - 1) default) (l.getD i default)))
@[irreducible] def areF (l : List Fct) : Bool := decide ((l.length : Int) ≤ 24) && (List.range l.length).all fun i => !badAt l i
theorem areF_no {l : List Fct} {i : Nat} (hi : i < l.length) (h : badAt l i = true) : areF l = false := by
  have : ((List.range l.length).all fun i => !badAt l i) = false := by
    rw [List.all_eq_false]
    exact ⟨i, List.mem_range.2 hi, by simp [h]⟩
  unfold areF; rw [this, Bool.and_false]
theorem areF_yes {l : List Fct} (h : ∀ j, j < l.length → badAt l j = false) : areF l = decide ((l.length : Int) ≤ 24) := by
  have : ((List.range l.length).all fun i => !badAt l i) = true := by
    rw [List.all_eq_true]
    intro j hj
    simp [h j (List.mem_range.1 hj)]
  unfold areF; rw [this, Bool.and_true]
theorem badAt_step {l : List Fct} {i : Nat} {x : Int} (hi : i < l.length) (hx : x = (i : Int) - 1) :
    (!isFactF (l.getD i default) || (decide ((0 : Int) < (i : Int)) && decide (0 ≤ cmpF (l.getD x.toNat default) (l.getD i default)))) = badAt l i := by
  subst hx
  unfold badAt
  rw [show ((i : Int) - 1).toNat = i - 1 by omega]
theorem sAreFacts.ret (l : List Fct) (h : tFcts.size l ≤ 1048576) : sAreFacts.Ret [.list none (facts l)] (.val (.bool (areF l))) [] := by
  refine sAreFacts.of rfl ?_
  rw [tFcts_size] at h
  repeat' first
    | contradiction | exact trivial
    | (conv => whnf
       first | refine Need.mk (fun h => h) ?_ | refine Need.mk rfl ?_ | refine Need.mk ⟨rfl, Nat.le_of_ble_eq_true rfl⟩ ?_ | refine Need.mk (Nat.le_of_ble_eq_true rfl) ?_ | refine Need.fin ?_ | refine Need.mk ?_ ?_ | refine Ix.strsF rfl ?_ | refine Ix.strs rfl ?_ ?_ | refine Cut.strs rfl ?_ ?_ | refine Ix.mapF (fun _ => rfl) ?_ | refine Ix.map (fun _ => rfl) ?_ ?_ | refine Cut.map (fun _ => rfl) ?_ ?_ | refine Fork.yes (by assumption) ?_ | refine Fork.no (by assumption) ?_ | refine Fork.decYes (by omega) ?_ | refine Fork.decNo (by omega) ?_ | refine Fork.dec (fun _ => ?_) (fun _ => ?_) | refine Fork.bne (fun _ => ?_) (fun _ => ?_) | refine Fork.beq (fun _ => ?_) (fun _ => ?_) | refine Fork.seq (fun _ => ?_) (fun _ => ?_) | refine Fork.sne (fun _ => ?_) (fun _ => ?_) | refine Fork.neg (fun _ => ?_) (fun _ => ?_) | refine Fork.mk (fun _ => ?_) (fun _ => ?_) | refine HAlt.mk ?_ ?_ | apply HJoin.mk3 | exact HEnd.mk rfl rfl rfl | refine HEnd.mk ?_ ?_ ?_ | refine Round.mk ?_ | refine NilQ.mk (fun b hb => ?_) | refine forceK_of ?_ | refine forceBx_of ?_ | refine unG_old ?_ | refine unG_gv ?_ | refine Lit.read rfl ?_ | refine FinVal.keep ?_ | refine FinAgg.keep ?_ | refine Final.mk rfl rfl | refine Final.mk ?_ rfl | refine Final.mk ?_ ?_ | refine FinalT.mk ?_ ?_ | refine FinalC.allA ?_)
    | refine AV.bool_congr ?_ | refine AV.int_congr ?_ | refine AV.str_congr ?_ | refine AV.list_congr ?_ | with_reducible rfl | refine fr1 ?_ | refine fr2 ?_ ?_
  refine ALoop.mk Nat (fun i => ⟨[(0, .list none (facts l)), (3, .val (.int .i64 i))], [], []⟩) (fun i => i ≤ l.length ∧ ∀ j, j < i → badAt l j = false) (fun i => l.length - i) ⟨0, ⟨Nat.zero_le _, by omega⟩, ?_⟩ (fun i hi => ?_)
  · repeat' first
      | exact trivial | refine Weak.mk ?_ ?_ ?_ ?_ (Or.inl (Nat.le_of_ble_eq_true rfl)) | refine Weak.mk ?_ ?_ ?_ ?_ (Or.inr ⟨(by repeat' first | exact trivial | exact Nat.le_of_ble_eq_true rfl | refine And.intro ?_ ?_), (by repeat' first | exact trivial | exact Nat.le_of_ble_eq_true rfl | refine And.intro ?_ ?_)⟩) | refine Weak.mk ?_ ?_ ?_ ?_ ?_ | refine And.intro ?_ ?_ | with_reducible rfl | exact Nat.le_of_ble_eq_true rfl | refine fr1 ?_ | refine fr2 ?_ ?_ | refine AV.int_congr ?_ | refine AV.bool_congr ?_ | refine AV.str_congr ?_ | refine AV.list_congr ?_ | refine AV.bsl_congr ?_ ?_ | (apply rfl)
  have hw : i < l.length → IntKind.i64.wrap ((i : Int) - 1) = (i : Int) - 1 := fun h => wrap64 (by omega) (by omega)
  repeat' first
    | contradiction | exact trivial
    | (conv => whnf
       first | refine Need.mk (fun h => h) ?_ | refine Need.mk rfl ?_ | refine Need.mk ⟨rfl, Nat.le_of_ble_eq_true rfl⟩ ?_ | refine Need.mk (Nat.le_of_ble_eq_true rfl) ?_ | refine Need.fin ?_ | refine Need.mk ?_ ?_ | refine Ix.strsF rfl ?_ | refine Ix.strs rfl ?_ ?_ | refine Cut.strs rfl ?_ ?_ | refine Ix.mapF (fun _ => rfl) ?_ | refine Ix.map (fun _ => rfl) ?_ ?_ | refine Cut.map (fun _ => rfl) ?_ ?_ | refine Fork.yes (by assumption) ?_ | refine Fork.no (by assumption) ?_ | refine Fork.decYes (by omega) ?_ | refine Fork.decNo (by omega) ?_ | refine Fork.dec (fun _ => ?_) (fun _ => ?_) | refine Fork.bne (fun _ => ?_) (fun _ => ?_) | refine Fork.beq (fun _ => ?_) (fun _ => ?_) | refine Fork.seq (fun _ => ?_) (fun _ => ?_) | refine Fork.sne (fun _ => ?_) (fun _ => ?_) | refine Fork.neg (fun _ => ?_) (fun _ => ?_) | refine Fork.mk (fun _ => ?_) (fun _ => ?_) | refine HAlt.mk ?_ ?_ | apply HJoin.mk3 | exact HEnd.mk rfl rfl rfl | refine HEnd.mk ?_ ?_ ?_ | refine Round.mk ?_ | refine NilQ.mk (fun b hb => ?_) | refine forceK_of ?_ | refine forceBx_of ?_ | refine unG_old ?_ | refine unG_gv ?_ | refine Lit.read rfl ?_ | refine FinVal.keep ?_ | refine FinAgg.keep ?_ | refine Final.mk rfl rfl | refine Final.mk ?_ rfl | refine Final.mk ?_ ?_ | refine FinalT.mk ?_ ?_ | refine FinalC.allA ?_ | refine ACall.scalA _ _ (sIsFact.ret _ ?_) rfl ?_ | refine AQCall.mkA _ _ (fun hg => sIsFact.ret _ ?_) rfl ?_ | refine AGCall.mkA _ _ (fun hg => sIsFact.ret _ ?_) rfl ?_ | refine ACall.scalA _ _ (sCompareFacts.ret _ _ ?_ ?_) rfl ?_ | refine AQCall.mkA _ _ (fun hg => sCompareFacts.ret _ _ ?_ ?_) rfl ?_ | refine AGCall.mkA _ _ (fun hg => sCompareFacts.ret _ _ ?_ ?_) rfl ?_)
    | refine AV.bool_congr ?_ | refine AV.int_congr ?_ | refine AV.str_congr ?_ | refine AV.list_congr ?_ | with_reducible rfl | refine fr1 ?_ | refine fr2 ?_ ?_
  all_goals try simp only [length_rows, length_strs, length_oldLL, List.length_map, Int.toNat_natCast] at *
  · exact Nat.le_trans (fct_le' _) (by omega)
  · exact Nat.le_trans (fct_le' _) (by omega)
  · exact Nat.le_trans (fct_le' _) (by omega)
  · rename_i h1 h2
    rw [badAt_step (by omega) (hw (by omega))] at h1
    rw [areF_no (by omega) h1]
  · rename_i h1 h2
    rw [badAt_step (by omega) (hw (by omega))] at h1
    refine ⟨i + 1, ⟨by omega, fun j hj => ?_⟩, ?_, by omega⟩
    · rcases Nat.lt_or_ge j i with h | h
      · exact hi.2 j h
      · have : j = i := by omega
        subst this; exact h1
    · repeat' first
        | exact trivial | refine Weak.mk ?_ ?_ ?_ ?_ (Or.inl (Nat.le_of_ble_eq_true rfl)) | refine Weak.mk ?_ ?_ ?_ ?_ (Or.inr ⟨(by repeat' first | exact trivial | exact Nat.le_of_ble_eq_true rfl | refine And.intro ?_ ?_), (by repeat' first | exact trivial | exact Nat.le_of_ble_eq_true rfl | refine And.intro ?_ ?_)⟩) | refine Weak.mk ?_ ?_ ?_ ?_ ?_ | refine And.intro ?_ ?_ | with_reducible rfl | exact Nat.le_of_ble_eq_true rfl | refine fr1 ?_ | refine fr2 ?_ ?_ | refine AV.int_congr ?_ | refine AV.bool_congr ?_ | refine AV.str_congr ?_ | refine AV.list_congr ?_ | refine AV.bsl_congr ?_ ?_ | (apply rfl)
      rw [wrap64 (by omega) (by omega)]; rfl
  · rw [areF_yes (fun j hj => hi.2 j (by omega))]
theorem areF_long {l : List Fct} (h : ¬ (l.length : Int) ≤ 24) : areF l = false := by unfold areF; simp [h]
theorem pAreFacts.ret (l : List Fct) (h : tFcts.size l ≤ 1048576) : pAreFacts.Ret [.list none (facts l)] (.val (.bool (areF l))) [] := by
  refine pAreFacts.of rfl ?_
  rw [tFcts_size] at h
  repeat' first
    | contradiction | exact trivial
    | (conv => whnf
       first | refine Need.mk (fun h => h) ?_ | refine Need.mk rfl ?_ | refine Need.mk ⟨rfl, Nat.le_of_ble_eq_true rfl⟩ ?_ | refine Need.mk (Nat.le_of_ble_eq_true rfl) ?_ | refine Need.fin ?_ | refine Need.mk ?_ ?_ | refine Ix.strsF rfl ?_ | refine Ix.strs rfl ?_ ?_ | refine Cut.strs rfl ?_ ?_ | refine Ix.mapF (fun _ => rfl) ?_ | refine Ix.map (fun _ => rfl) ?_ ?_ | refine Cut.map (fun _ => rfl) ?_ ?_ | refine Fork.yes (by assumption) ?_ | refine Fork.no (by assumption) ?_ | refine Fork.decYes (by omega) ?_ | refine Fork.decNo (by omega) ?_ | refine Fork.dec (fun _ => ?_) (fun _ => ?_) | refine Fork.bne (fun _ => ?_) (fun _ => ?_) | refine Fork.beq (fun _ => ?_) (fun _ => ?_) | refine Fork.seq (fun _ => ?_) (fun _ => ?_) | refine Fork.sne (fun _ => ?_) (fun _ => ?_) | refine Fork.neg (fun _ => ?_) (fun _ => ?_) | refine Fork.mk (fun _ => ?_) (fun _ => ?_) | refine HAlt.mk ?_ ?_ | apply HJoin.mk3 | exact HEnd.mk rfl rfl rfl | refine HEnd.mk ?_ ?_ ?_ | refine Round.mk ?_ | refine NilQ.mk (fun b hb => ?_) | refine forceK_of ?_ | refine forceBx_of ?_ | refine unG_old ?_ | refine unG_gv ?_ | refine Lit.read rfl ?_ | refine FinVal.keep ?_ | refine FinAgg.keep ?_ | refine Final.mk rfl rfl | refine Final.mk ?_ rfl | refine Final.mk ?_ ?_ | refine FinalT.mk ?_ ?_ | refine FinalC.allA ?_)
    | refine AV.bool_congr ?_ | refine AV.int_congr ?_ | refine AV.str_congr ?_ | refine AV.list_congr ?_ | with_reducible rfl | refine fr1 ?_ | refine fr2 ?_ ?_
  · rename_i h1
    rw [length_rows] at h1
    rw [areF_long (by omega)]
  rename_i h24
  rw [length_rows] at h24
  repeat' first
    | contradiction | exact trivial
    | (conv => whnf
       first | refine Need.mk (fun h => h) ?_ | refine Need.mk rfl ?_ | refine Need.mk ⟨rfl, Nat.le_of_ble_eq_true rfl⟩ ?_ | refine Need.mk (Nat.le_of_ble_eq_true rfl) ?_ | refine Need.fin ?_ | refine Need.mk ?_ ?_ | refine Ix.strsF rfl ?_ | refine Ix.strs rfl ?_ ?_ | refine Cut.strs rfl ?_ ?_ | refine Ix.mapF (fun _ => rfl) ?_ | refine Ix.map (fun _ => rfl) ?_ ?_ | refine Cut.map (fun _ => rfl) ?_ ?_ | refine Fork.yes (by assumption) ?_ | refine Fork.no (by assumption) ?_ | refine Fork.decYes (by omega) ?_ | refine Fork.decNo (by omega) ?_ | refine Fork.dec (fun _ => ?_) (fun _ => ?_) | refine Fork.bne (fun _ => ?_) (fun _ => ?_) | refine Fork.beq (fun _ => ?_) (fun _ => ?_) | refine Fork.seq (fun _ => ?_) (fun _ => ?_) | refine Fork.sne (fun _ => ?_) (fun _ => ?_) | refine Fork.neg (fun _ => ?_) (fun _ => ?_) | refine Fork.mk (fun _ => ?_) (fun _ => ?_) | refine HAlt.mk ?_ ?_ | apply HJoin.mk3 | exact HEnd.mk rfl rfl rfl | refine HEnd.mk ?_ ?_ ?_ | refine Round.mk ?_ | refine NilQ.mk (fun b hb => ?_) | refine forceK_of ?_ | refine forceBx_of ?_ | refine unG_old ?_ | refine unG_gv ?_ | refine Lit.read rfl ?_ | refine FinVal.keep ?_ | refine FinAgg.keep ?_ | refine Final.mk rfl rfl | refine Final.mk ?_ rfl | refine Final.mk ?_ ?_ | refine FinalT.mk ?_ ?_ | refine FinalC.allA ?_)
    | refine AV.bool_congr ?_ | refine AV.int_congr ?_ | refine AV.str_congr ?_ | refine AV.list_congr ?_ | with_reducible rfl | refine fr1 ?_ | refine fr2 ?_ ?_
  refine ALoop.mk Nat (fun i => ⟨[(0, .list none (facts l)), (8, .list none (facts l)), (9, .val (.int .i64 l.length)), (10, .val (.int .i64 i))], [], []⟩) (fun i => i ≤ l.length ∧ ∀ j, j < i → badAt l j = false) (fun i => l.length - i) ⟨0, ⟨Nat.zero_le _, by omega⟩, ?_⟩ (fun i hi => ?_)
  · repeat' first
      | exact trivial | refine Weak.mk ?_ ?_ ?_ ?_ (Or.inl (Nat.le_of_ble_eq_true rfl)) | refine Weak.mk ?_ ?_ ?_ ?_ (Or.inr ⟨(by repeat' first | exact trivial | exact Nat.le_of_ble_eq_true rfl | refine And.intro ?_ ?_), (by repeat' first | exact trivial | exact Nat.le_of_ble_eq_true rfl | refine And.intro ?_ ?_)⟩) | refine Weak.mk ?_ ?_ ?_ ?_ ?_ | refine And.intro ?_ ?_ | with_reducible rfl | exact Nat.le_of_ble_eq_true rfl | refine fr1 ?_ | refine fr2 ?_ ?_ | refine AV.int_congr ?_ | refine AV.bool_congr ?_ | refine AV.str_congr ?_ | refine AV.list_congr ?_ | refine AV.bsl_congr ?_ ?_ | (apply rfl)
    simp
  have hw : i < l.length → IntKind.i64.wrap ((i : Int) - 1) = (i : Int) - 1 := fun h => wrap64 (by omega) (by omega)
  repeat' first
    | contradiction | exact trivial
    | (conv => whnf
       first | refine Need.mk (fun h => h) ?_ | refine Need.mk rfl ?_ | refine Need.mk ⟨rfl, Nat.le_of_ble_eq_true rfl⟩ ?_ | refine Need.mk (Nat.le_of_ble_eq_true rfl) ?_ | refine Need.fin ?_ | refine Need.mk ?_ ?_ | refine Ix.strsF rfl ?_ | refine Ix.strs rfl ?_ ?_ | refine Cut.strs rfl ?_ ?_ | refine Ix.mapF (fun _ => rfl) ?_ | refine Ix.map (fun _ => rfl) ?_ ?_ | refine Cut.map (fun _ => rfl) ?_ ?_ | refine Fork.yes (by assumption) ?_ | refine Fork.no (by assumption) ?_ | refine Fork.decYes (by omega) ?_ | refine Fork.decNo (by omega) ?_ | refine Fork.dec (fun _ => ?_) (fun _ => ?_) | refine Fork.bne (fun _ => ?_) (fun _ => ?_) | refine Fork.beq (fun _ => ?_) (fun _ => ?_) | refine Fork.seq (fun _ => ?_) (fun _ => ?_) | refine Fork.sne (fun _ => ?_) (fun _ => ?_) | refine Fork.neg (fun _ => ?_) (fun _ => ?_) | refine Fork.mk (fun _ => ?_) (fun _ => ?_) | refine HAlt.mk ?_ ?_ | apply HJoin.mk3 | exact HEnd.mk rfl rfl rfl | refine HEnd.mk ?_ ?_ ?_ | refine Round.mk ?_ | refine NilQ.mk (fun b hb => ?_) | refine forceK_of ?_ | refine forceBx_of ?_ | refine unG_old ?_ | refine unG_gv ?_ | refine Lit.read rfl ?_ | refine FinVal.keep ?_ | refine FinAgg.keep ?_ | refine Final.mk rfl rfl | refine Final.mk ?_ rfl | refine Final.mk ?_ ?_ | refine FinalT.mk ?_ ?_ | refine FinalC.allA ?_ | refine ACall.scalA _ _ (pIsFact.ret _ ?_) rfl ?_ | refine AQCall.mkA _ _ (fun hg => pIsFact.ret _ ?_) rfl ?_ | refine AGCall.mkA _ _ (fun hg => pIsFact.ret _ ?_) rfl ?_ | refine ACall.scalA _ _ (pCompareFacts.ret _ _ ?_ ?_) rfl ?_ | refine AQCall.mkA _ _ (fun hg => pCompareFacts.ret _ _ ?_ ?_) rfl ?_ | refine AGCall.mkA _ _ (fun hg => pCompareFacts.ret _ _ ?_ ?_) rfl ?_)
    | refine AV.bool_congr ?_ | refine AV.int_congr ?_ | refine AV.str_congr ?_ | refine AV.list_congr ?_ | with_reducible rfl | refine fr1 ?_ | refine fr2 ?_ ?_
  all_goals try simp only [length_rows, length_strs, length_oldLL, List.length_map, Int.toNat_natCast] at *
  · exact Nat.le_trans (fct_le' _) (by omega)
  · exact Nat.le_trans (fct_le' _) (by omega)
  · exact Nat.le_trans (fct_le' _) (by omega)
  · rename_i h2 h1
    rw [badAt_step (by omega) (hw (by omega))] at h1
    rw [areF_no (by omega) h1]
  · rename_i h2 h1
    rw [badAt_step (by omega) (hw (by omega))] at h1
    refine ⟨i + 1, ⟨by omega, fun j hj => ?_⟩, ?_, by omega⟩
    · rcases Nat.lt_or_ge j i with h | h
      · exact hi.2 j h
      · have : j = i := by omega
        subst this; exact h1
    · repeat' first
        | exact trivial | refine Weak.mk ?_ ?_ ?_ ?_ (Or.inl (Nat.le_of_ble_eq_true rfl)) | refine Weak.mk ?_ ?_ ?_ ?_ (Or.inr ⟨(by repeat' first | exact trivial | exact Nat.le_of_ble_eq_true rfl | refine And.intro ?_ ?_), (by repeat' first | exact trivial | exact Nat.le_of_ble_eq_true rfl | refine And.intro ?_ ?_)⟩) | refine Weak.mk ?_ ?_ ?_ ?_ ?_ | refine And.intro ?_ ?_ | with_reducible rfl | exact Nat.le_of_ble_eq_true rfl | refine fr1 ?_ | refine fr2 ?_ ?_ | refine AV.int_congr ?_ | refine AV.bool_congr ?_ | refine AV.str_congr ?_ | refine AV.list_congr ?_ | refine AV.bsl_congr ?_ ?_ | (apply rfl)
      rw [wrap64 (by omega) (by omega)]; rfl
  · rw [areF_yes (fun j hj => hi.2 j (by omega))]; simp; omega
end Go.Proofs.Ytimcfgokocihnaa
namespace Go.Proofs.Ytimcfgokocihnaa
open Abs
theorem takeAV_one {n : Nat} {cs : List AV} {k : AV → Prop} (c : AV) (r : List AV) (h : cs = c :: r) (hk : k c) : takeAV false n cs k := by subst h; exact hk
theorem gbL_fct (f : Fct) (n : Nat) : gb (.a (tFct.q f)) n = gb (strT f.2) n := by
  show gb (.s f.1) n ++ (gb (strT f.2) (n + 0) ++ []) = _
  rw [List.append_nil]; rfl
theorem nb_fct (f : Fct) : nb (.a (tFct.q f)) = 1 := by
  show 0 + (nb (strT f.2) + 0) = 1
  rw [nb_strT]
def mcells : List Fct → Nat → List AV
  | [], _ => []
  | f :: l, n => .str f.1 :: .bsl n f.2.length :: mcells l (n + 1)
def mbox (f : Fct) : ABox := .cells (.row 9 1) (f.2.map AV.str)
theorem gvLL_fct : ∀ (l : List Fct) (n : Nat), gvLL (l.map tFct.q) n = mcells l n
  | [], _ => rfl
  | f :: l, n => by
    have h1 : gvL (tFct.q f) n = [.str f.1, .bsl n f.2.length] := by
      show [AV.str f.1, gv (strT f.2) (n + 0)] = _
      rw [gv_strT]; rfl
    have h2 : nbL (tFct.q f) = 1 := nb_fct f
    rw [List.map_cons, gvLL, h1, h2, gvLL_fct l]; rfl
theorem gbLL_fct : ∀ (l : List Fct) (n : Nat), gbLL (l.map tFct.q) n = l.map mbox
  | [], _ => rfl
  | f :: l, n => by
    have h1 : gbL (tFct.q f) n = [mbox f] := (gbL_fct f n).trans (gb_strT f.2 n)
    have h2 : nbL (tFct.q f) = 1 := nb_fct f
    rw [List.map_cons, gbLL, h1, h2, gbLL_fct l]; rfl
def fctsT (l : List Fct) : Tr := .l 80 2 (l.map tFct.q)
theorem gb_fctsT (l : List Fct) (n : Nat) : gb (fctsT l) n = .cells (.row 80 2) (mcells l (n + 1)) :: l.map mbox := by rw [fctsT, gb, gvLL_fct, gbLL_fct]
theorem gv_fctsT (l : List Fct) (n : Nat) : gv (fctsT l) n = .bsl n l.length := by rw [fctsT, gv, List.length_map]
theorem length_mcells : ∀ (l : List Fct) (n : Nat), (mcells l n).length = l.length * 2
  | [], _ => rfl
  | f :: l, n => by simp only [mcells, List.length_cons, length_mcells l]; omega
end Go.Proofs.Ytimcfgokocihnaa
namespace Go.Proofs.Ytimcfgokocihnaa
open Abs
theorem sTexts.ret (l : List Str) (h : l.length ≤ 1048576) : sTexts.Ret [.list none (strs l)] (.list (some 0) (strs l)) [(9, 1, l.length)] := by
  refine sTexts.of rfl ?_
  repeat' first
    | contradiction | exact trivial
    | (conv => whnf
       first | refine Need.mk (fun h => h) ?_ | refine Need.mk rfl ?_ | refine Need.mk ⟨rfl, Nat.le_of_ble_eq_true rfl⟩ ?_ | refine Need.mk (Nat.le_of_ble_eq_true rfl) ?_ | refine Need.fin ?_ | refine Need.mk ?_ ?_ | refine Ix.strsF rfl ?_ | refine Ix.strs rfl ?_ ?_ | refine Cut.strs rfl ?_ ?_ | refine Ix.mapF (fun _ => rfl) ?_ | refine Ix.map (fun _ => rfl) ?_ ?_ | refine Cut.map (fun _ => rfl) ?_ ?_ | refine Fork.yes (by assumption) ?_ | refine Fork.no (by assumption) ?_ | refine Fork.decYes (by omega) ?_ | refine Fork.decNo (by omega) ?_ | refine Fork.dec (fun _ => ?_) (fun _ => ?_) | refine Fork.bne (fun _ => ?_) (fun _ => ?_) | refine Fork.beq (fun _ => ?_) (fun _ => ?_) | refine Fork.seq (fun _ => ?_) (fun _ => ?_) | refine Fork.sne (fun _ => ?_) (fun _ => ?_) | refine Fork.neg (fun _ => ?_) (fun _ => ?_) | refine Fork.mk (fun _ => ?_) (fun _ => ?_) | refine HAlt.mk ?_ ?_ | apply HJoin.mk3 | exact HEnd.mk rfl rfl rfl | refine HEnd.mk ?_ ?_ ?_ | refine Round.mk ?_ | refine NilQ.mk (fun b hb => ?_) | refine forceK_of ?_ | refine forceBx_of ?_ | refine unG_old ?_ | refine unG_gv ?_ | refine Lit.read rfl ?_ | refine FinVal.keep ?_ | refine FinAgg.keep ?_ | refine Final.mk rfl rfl | refine Final.mk ?_ rfl | refine Final.mk ?_ ?_ | refine FinalT.mk ?_ ?_ | refine FinalC.allA ?_)
    | refine AV.bool_congr ?_ | refine AV.int_congr ?_ | refine AV.str_congr ?_ | refine AV.list_congr ?_ | with_reducible rfl | refine fr1 ?_ | refine fr2 ?_ ?_
  · exact strs_sz l
  · simp; omega
  · rfl
  · simp
theorem slClone.ret (l : List Str) (h : l.length ≤ 1048576) : slClone.Ret [.list none (strs l)] (.list (some 0) (strs l)) [(9, 1, l.length)] := by
  refine slClone.of rfl ?_
  repeat' first
    | contradiction | exact trivial
    | (conv => whnf
       first | refine Need.mk (fun h => h) ?_ | refine Need.mk rfl ?_ | refine Need.mk ⟨rfl, Nat.le_of_ble_eq_true rfl⟩ ?_ | refine Need.mk (Nat.le_of_ble_eq_true rfl) ?_ | refine Need.fin ?_ | refine Need.mk ?_ ?_ | refine Ix.strsF rfl ?_ | refine Ix.strs rfl ?_ ?_ | refine Cut.strs rfl ?_ ?_ | refine Ix.mapF (fun _ => rfl) ?_ | refine Ix.map (fun _ => rfl) ?_ ?_ | refine Cut.map (fun _ => rfl) ?_ ?_ | refine Fork.yes (by assumption) ?_ | refine Fork.no (by assumption) ?_ | refine Fork.decYes (by omega) ?_ | refine Fork.decNo (by omega) ?_ | refine Fork.dec (fun _ => ?_) (fun _ => ?_) | refine Fork.bne (fun _ => ?_) (fun _ => ?_) | refine Fork.beq (fun _ => ?_) (fun _ => ?_) | refine Fork.seq (fun _ => ?_) (fun _ => ?_) | refine Fork.sne (fun _ => ?_) (fun _ => ?_) | refine Fork.neg (fun _ => ?_) (fun _ => ?_) | refine Fork.mk (fun _ => ?_) (fun _ => ?_) | refine HAlt.mk ?_ ?_ | apply HJoin.mk3 | exact HEnd.mk rfl rfl rfl | refine HEnd.mk ?_ ?_ ?_ | refine Round.mk ?_ | refine NilQ.mk (fun b hb => ?_) | refine forceK_of ?_ | refine forceBx_of ?_ | refine unG_old ?_ | refine unG_gv ?_ | refine Lit.read rfl ?_ | refine FinVal.nil 9 1 rfl ?_ | refine FinVal.keep ?_ | refine FinAgg.keep ?_ | refine Final.mk rfl rfl | refine Final.mk ?_ rfl | refine Final.mk ?_ ?_ | refine FinalT.mk ?_ ?_ | refine FinalC.allA ?_)
    | refine AV.bool_congr ?_ | refine AV.int_congr ?_ | refine AV.str_congr ?_ | refine AV.list_congr ?_ | with_reducible rfl | refine fr1 ?_ | refine fr2 ?_ ?_
  · rename_i h1
    have hl : l = [] := List.eq_nil_of_length_eq_zero (by rw [length_strs] at hb; exact hb (by revert h1; cases b <;> simp))
    subst hl; rfl
  · rename_i h1
    have hl : l = [] := List.eq_nil_of_length_eq_zero (by rw [length_strs] at hb; exact hb (by revert h1; cases b <;> simp))
    subst hl; rfl
  · exact strs_sz l
  · simp; omega
  · rfl
  · simp
theorem sCopy.ret (f : Fct) (h : tFct.size f ≤ 1048576) : sCopy.Ret [.agg (oldL (tFct.q f))] (.agg (tFct.tk f 0)) (tFct.fr f) := by
  refine sCopy.of rfl ?_
  rw [tFct_size, tStrs_size] at h
  repeat' first
    | contradiction | exact trivial
    | (conv => whnf
       first | refine Need.mk (fun h => h) ?_ | refine Need.mk rfl ?_ | refine Need.mk ⟨rfl, Nat.le_of_ble_eq_true rfl⟩ ?_ | refine Need.mk (Nat.le_of_ble_eq_true rfl) ?_ | refine Need.fin ?_ | refine Need.mk ?_ ?_ | refine Ix.strsF rfl ?_ | refine Ix.strs rfl ?_ ?_ | refine Cut.strs rfl ?_ ?_ | refine Ix.mapF (fun _ => rfl) ?_ | refine Ix.map (fun _ => rfl) ?_ ?_ | refine Cut.map (fun _ => rfl) ?_ ?_ | refine Fork.yes (by assumption) ?_ | refine Fork.no (by assumption) ?_ | refine Fork.decYes (by omega) ?_ | refine Fork.decNo (by omega) ?_ | refine Fork.dec (fun _ => ?_) (fun _ => ?_) | refine Fork.bne (fun _ => ?_) (fun _ => ?_) | refine Fork.beq (fun _ => ?_) (fun _ => ?_) | refine Fork.seq (fun _ => ?_) (fun _ => ?_) | refine Fork.sne (fun _ => ?_) (fun _ => ?_) | refine Fork.neg (fun _ => ?_) (fun _ => ?_) | refine Fork.mk (fun _ => ?_) (fun _ => ?_) | refine HAlt.mk ?_ ?_ | apply HJoin.mk3 | exact HEnd.mk rfl rfl rfl | refine HEnd.mk ?_ ?_ ?_ | refine Round.mk ?_ | refine NilQ.mk (fun b hb => ?_) | refine forceK_of ?_ | refine forceBx_of ?_ | refine unG_old ?_ | refine unG_gv ?_ | refine Lit.read rfl ?_ | refine FinVal.keep ?_ | refine FinAgg.keep ?_ | refine Final.mk rfl rfl | refine Final.mk ?_ rfl | refine Final.mk ?_ ?_ | refine FinalT.mk ?_ ?_ | refine FinalC.allA ?_ | refine ACall.mkStrs _ _ (sTexts.ret _ ?_) (by repeat' first | exact SeesL.nil | refine SeesL.cons ?_ ?_ | exact SeesB.of0 (Sees0.val _) | exact SeesB.of0 (Sees0.str _) | exact SeesB.of0 (Sees0.olds _ _) | exact SeesB.of0 (Sees0.old _) | exact SeesB.of0 (Sees0.oldagg _) | exact SeesB.of0 Sees0.nil | exact Sees0.val _ | exact Sees0.str _ | exact Sees0.olds _ _ | exact Sees0.old _ | exact Sees0.oldagg _ | exact Sees0.nil | exact SeesB.of0 (Sees0.any _) | assumption | exact sees_gv _ _ _ (by assumption) (by first | assumption | exact BoxIn.last _ _ | exact BoxIn.more (BoxIn.last _ _) _) | refine SeesB.agg ?_ | refine Sees0.agg ?_ | exact SeesB.of0 (Sees0.clo SeesL.nil SeesL.nil) | exact Sees0.clo SeesL.nil SeesL.nil | exact SeesB.of0 (Sees0.list rfl) | exact Sees0.list rfl) ?_)
    | refine AV.bool_congr ?_ | refine AV.int_congr ?_ | refine AV.str_congr ?_ | refine AV.list_congr ?_ | with_reducible rfl | refine fr1 ?_ | refine fr2 ?_ ?_
  omega
theorem pcopyFact.ret (f : Fct) (h : tFct.size f ≤ 1048576) : pcopyFact.Ret [.agg (oldL (tFct.q f))] (.agg (tFct.tk f 0)) (tFct.fr f) := by
  refine pcopyFact.of rfl ?_
  rw [tFct_size, tStrs_size] at h
  repeat' first
    | contradiction | exact trivial
    | (conv => whnf
       first | refine Need.mk (fun h => h) ?_ | refine Need.mk rfl ?_ | refine Need.mk ⟨rfl, Nat.le_of_ble_eq_true rfl⟩ ?_ | refine Need.mk (Nat.le_of_ble_eq_true rfl) ?_ | refine Need.fin ?_ | refine Need.mk ?_ ?_ | refine Ix.strsF rfl ?_ | refine Ix.strs rfl ?_ ?_ | refine Cut.strs rfl ?_ ?_ | refine Ix.mapF (fun _ => rfl) ?_ | refine Ix.map (fun _ => rfl) ?_ ?_ | refine Cut.map (fun _ => rfl) ?_ ?_ | refine Fork.yes (by assumption) ?_ | refine Fork.no (by assumption) ?_ | refine Fork.decYes (by omega) ?_ | refine Fork.decNo (by omega) ?_ | refine Fork.dec (fun _ => ?_) (fun _ => ?_) | refine Fork.bne (fun _ => ?_) (fun _ => ?_) | refine Fork.beq (fun _ => ?_) (fun _ => ?_) | refine Fork.seq (fun _ => ?_) (fun _ => ?_) | refine Fork.sne (fun _ => ?_) (fun _ => ?_) | refine Fork.neg (fun _ => ?_) (fun _ => ?_) | refine Fork.mk (fun _ => ?_) (fun _ => ?_) | refine HAlt.mk ?_ ?_ | apply HJoin.mk3 | exact HEnd.mk rfl rfl rfl | refine HEnd.mk ?_ ?_ ?_ | refine Round.mk ?_ | refine NilQ.mk (fun b hb => ?_) | refine forceK_of ?_ | refine forceBx_of ?_ | refine unG_old ?_ | refine unG_gv ?_ | refine Lit.read rfl ?_ | refine FinVal.keep ?_ | refine FinAgg.keep ?_ | refine Final.mk rfl rfl | refine Final.mk ?_ rfl | refine Final.mk ?_ ?_ | refine FinalT.mk ?_ ?_ | refine FinalC.allA ?_ | refine ACall.mkStrs _ _ (slClone.ret _ ?_) (by repeat' first | exact SeesL.nil | refine SeesL.cons ?_ ?_ | exact SeesB.of0 (Sees0.val _) | exact SeesB.of0 (Sees0.str _) | exact SeesB.of0 (Sees0.olds _ _) | exact SeesB.of0 (Sees0.old _) | exact SeesB.of0 (Sees0.oldagg _) | exact SeesB.of0 Sees0.nil | exact Sees0.val _ | exact Sees0.str _ | exact Sees0.olds _ _ | exact Sees0.old _ | exact Sees0.oldagg _ | exact Sees0.nil | exact SeesB.of0 (Sees0.any _) | assumption | exact sees_gv _ _ _ (by assumption) (by first | assumption | exact BoxIn.last _ _ | exact BoxIn.more (BoxIn.last _ _) _) | refine SeesB.agg ?_ | refine Sees0.agg ?_ | exact SeesB.of0 (Sees0.clo SeesL.nil SeesL.nil) | exact Sees0.clo SeesL.nil SeesL.nil | exact SeesB.of0 (Sees0.list rfl) | exact Sees0.list rfl) ?_)
    | refine AV.bool_congr ?_ | refine AV.int_congr ?_ | refine AV.str_congr ?_ | refine AV.list_congr ?_ | with_reducible rfl | refine fr1 ?_ | refine fr2 ?_ ?_
  omega
/-- a list of facts that is built by appending: its own slice first, then the facts' -/
def accFr (l : List Fct) : Fr := (80, 2, l.length) :: frs tFct l
theorem accFr_snoc (l : List Fct) (f : Fct) : (accFr l ++ tFct.fr f).set 0 (80, 2, l.length + 1) = accFr (l ++ [f]) := by
  simp [accFr, frs]
theorem acc_snoc (l : List Fct) (f : Fct) : tks tFct l 1 ++ [tFct.tk f (accFr l).length] = tks tFct (l ++ [f]) 1 := by
  rw [tks_append]
  congr 1
  show _ = [tFct.tk f _]
  rw [accFr, List.length_cons, Nat.add_comm]
end Go.Proofs.Ytimcfgokocihnaa
namespace Go.Proofs.Ytimcfgokocihnaa
namespace Abs
variable {mo : Bool}
open Go.RowKit Go.Sort
theorem heap_putRow {α : Type} [Inhabited α] (enc : α → Value) (w : World) (blk off : Nat) (d : Array α) (c : Array Value) (t : TypeId) (z : Nat × Nat) (h : w.heap[blk]? = some (.cells c t z)) :
    (putRow enc w blk off d).heap[blk]? = some (.cells (putCells enc off d c) t z) := by
  simp [putRow, mapBlock, Array.getElem?_modify, h, onCells]
theorem heap_putRow_other {α : Type} [Inhabited α] (enc : α → Value) (w : World) (blk off : Nat) (d : Array α) (k : Nat) (h : k ≠ blk) : (putRow enc w blk off d).heap[k]? = w.heap[k]? := by
  simp [putRow, mapBlock, Array.getElem?_modify, Ne.symm h]
theorem heap_grow (w : World) (os : Array Obj) (k : Nat) (h : k < w.heap.size) : (grow w os).heap[k]? = w.heap[k]? := by
  simp [grow, Array.getElem?_append, h]
/-- a row that is lent has been turned; nothing else has -/
theorem gpost_row {w w' : World} {F : Nat → Nat} {box0 : List BId} {b0 : List ABox} {Φ : AV → List ABox → Prop} (hout : ∀ b, w.heap.size ≤ b → F b = 0) (hbl : box0.length = b0.length)
    (hbi : ∀ (j b c : Nat), box0[j]? = some (.blk b c) → b < w.heap.size ∧ (live b0 j → F b = 0))
    (hbj : ∀ (i j b c c' : Nat), box0[i]? = some (.blk b c) → box0[j]? = some (.blk b c') → live b0 i → live b0 j → i = j)
    (hB : BoxesOk w.heap.size w F [] [] box0 b0) {j blk cap : Nat} {k : RK} {cs cs' : List AV} (hj : box0[j]? = some (.blk blk cap)) (hl : b0[j]? = some (.cells k cs))
    (hdr : w.drawn ≤ w'.drawn) (hos : w'.os = w.os) (htape : w'.tape = w.tape) (hou : w'.output = w.output) (hsz : w.heap.size ≤ w'.heap.size) (hk : ∀ k, k < w.heap.size → k ≠ blk → w'.heap[k]? = w.heap[k]?)
    (hx : (∀ y v, Rep w.heap.size w F [] [] box0 y v → Rep w.heap.size w' F [] [] box0 y v) → BoxOk w.heap.size w' F [] [] box0 (.blk blk cap) (.cells k cs'))
    {e : Ending} {v : Value} {r : AV} (hv : e = .returned v) (hr : Rep w.heap.size w' F [] [] box0 r v) (hΦ : Φ r (b0.set j (.cells k cs'))) :
    ∃ (v : Value) (F' : Nat → Nat) (box1 : List BId) (r : AV) (b1 : List ABox), Φ r b1 ∧ e = .returned v ∧ Keep mo (mask b0 box0) w w' ∧ (∀ b, b < w.heap.size → F' b = F b) ∧ (∀ b, w'.heap.size ≤ b → F' b = 0) ∧
      (∀ (j : Nat) d, box0[j]? = some d → box1[j]? = some d) ∧ box1.length = b1.length ∧
      (∀ (j b c : Nat), box0.length ≤ j → box1[j]? = some (.blk b c) → (w.heap.size ≤ b ∨ ∃ i : Nat, live b0 i ∧ box0[i]? = some (.blk b c)) ∧ b < w'.heap.size) ∧
      (∀ (j b c : Nat), box1[j]? = some (.blk b c) → live b1 j → (box0.length ≤ j ∨ live b0 j) → F' b = 0) ∧
      (∀ (i j b c c' : Nat), box1[i]? = some (.blk b c) → box1[j]? = some (.blk b c') → live b1 i → live b1 j → (box0.length ≤ i ∨ live b0 i) → (box0.length ≤ j ∨ live b0 j) → i = j) ∧
      (∀ (j : Nat) d x, box1[j]? = some d → b1[j]? = some x → (box0.length ≤ j ∨ live b0 j) → BoxOk w.heap.size w' F' [] [] box1 d x) ∧ Rep w.heap.size w' F' [] [] box1 r v := by
  have hlive : live b0 j := fun h => by rw [hl] at h; cases h
  have hF0 := (hbi j blk cap hj).2 hlive
  have hjl := getElem?_lt hl
  have L : Later w F [] [] w' F [] [] := by
    refine ⟨fun b i hi => World.cell?_of_block (w := w) (hk b ?_ (fun h => by rw [h, hF0] at hi; omega)), fun _ => Nat.le_refl _, fun k t s n h => by simp at h⟩
    rcases Nat.lt_or_ge b w.heap.size with h | h
    · exact h
    · rw [hout b h] at hi; omega
  have ld : ∀ {i : Nat}, live (b0.set j (.cells k cs')) i ↔ live b0 i := live_set (by simp) hlive
  refine ⟨v, F, box0, r, _, hΦ, hv, ⟨fun _ => hdr, hos, htape, hou, hsz, fun q hq hn => hk q hq (fun h => ?_)⟩, fun _ _ => rfl, fun b hb => hout b (Nat.le_trans hsz hb), fun _ _ h => h, by simpa using hbl,
    fun i b c hi h => (by have := getElem?_lt h; omega), fun i b c hi hli _ => (hbi i b c hi).2 (ld.1 hli), fun i i' b c c' h1 h2 l1 l2 _ _ => hbj i i' b c c' h1 h2 (ld.1 l1) (ld.1 l2), fun i d x hd hx' hin => ?_, hr⟩
  · subst h
    refine hn j cap ?_
    clear hx hΦ hv hr ld L
    induction b0 generalizing box0 j with
    | nil => simp at hl
    | cons x b ih =>
      cases box0 with
      | nil => simp at hj
      | cons d box =>
        cases j with
        | zero =>
          simp at hl hj
          subst hl; subst hj
          simp [mask]
        | succ j =>
          have h1 : b[j]? = some (.cells k cs) := by simpa using hl
          have h2 : box[j]? = some (.blk q cap) := by simpa using hj
          have aux : ∀ (b : List ABox) (box : List BId) (j : Nat), b[j]? = some (.cells k cs) → box[j]? = some (.blk q cap) → (mask b box)[j]? = some (.blk q cap) := by
            intro b
            induction b with
            | nil => intro box j h; simp at h
            | cons x b ih =>
              intro box j h1 h2
              cases box with
              | nil => simp at h2
              | cons d box =>
                cases j with
                | zero => simp at h1 h2; subst h1; subst h2; simp [mask]
                | succ j => cases x <;> simpa [mask] using ih box j (by simpa using h1) (by simpa using h2)
          cases x <;> simpa [mask] using aux b box j h1 h2
  · rw [List.getElem?_set] at hx'
    by_cases hij : j = i
    · subst hij
      rw [if_pos rfl, if_pos hjl] at hx'
      rw [hj] at hd
      cases hx'; cases hd
      exact hx (fun y v h => h.later L (fun _ _ h => h))
    · rw [if_neg hij] at hx'
      refine (hB i d x hd hx').later L (fun _ _ h => h) (fun b c he hnd => ?_)
      subst he
      refine hk b (hbi i b c hd).1 (fun h => ?_)
      subst h
      exact hij (hbj j i b cap c hj hd hlive (fun h => hnd (by rw [hx'] at h; exact Option.some.inj h)))
theorem putCells_zero {α : Type} [Inhabited α] (enc : α → Value) (d : Array α) (c : Array Value) (h : d.size ≤ c.size) : (putCells enc 0 d c).toList = d.toList.map enc ++ c.toList.drop d.size := by
  apply List.ext_getElem?
  intro i
  rw [Array.getElem?_toList, putCells, Array.getElem?_mapIdx, List.getElem?_append, List.length_map, Array.length_toList]
  by_cases hi : i < d.size
  · have hc : i < c.size := by omega
    simp [hi, hc, getElem!_pos d i hi]
  · rw [if_neg hi, List.getElem?_drop, show d.size + (i - d.size) = i by omega, Array.getElem?_toList]
    cases c[i]? with
    | none => rfl
    | some x => simp [hi]
end Abs
end Go.Proofs.Ytimcfgokocihnaa
namespace Go.Proofs.Ytimcfgokocihnaa
open Abs
structure STO {α : Type} (lt : α → α → Bool) : Prop where
  irrefl : ∀ x, lt x x = false
  trans : ∀ x y z, lt x y = true → lt y z = true → lt x z = true
  tri : ∀ x y, lt x y = false → lt y x = false → x = y
section
variable {α : Type} {lt : α → α → Bool}
theorem STO.asymm (h : STO lt) {x y : α} (hxy : lt x y = true) : lt y x = false := by
  cases hyx : lt y x with
  | false => rfl
  | true => have := h.trans x y x hxy hyx; rw [h.irrefl] at this; cases this
theorem STO.swo [Inhabited α] (h : STO lt) : Go.Sort.SWO lt where
  irrefl := h.irrefl
  trans := h.trans
  ntrans x y z h1 h2 := by
    cases hxz : lt x z with
    | false => rfl
    | true =>
      cases hyx : lt y x with
      | true => have := h.trans y x z hyx hxz; rw [this] at h2; cases h2
      | false => have := h.tri x y h1 hyx; subst this; rw [h2] at hxz; cases hxz
def Asc (lt : α → α → Bool) (l : List α) : Prop := l.Pairwise fun x y => lt x y = true
theorem Asc.nodup (h : STO lt) {l : List α} (hl : Asc lt l) : l.Nodup := hl.imp fun {x y} hxy e => by subst e; rw [h.irrefl] at hxy; cases hxy
/-- ascending lists with the same members are one -/
theorem Asc.unique (h : STO lt) : ∀ {l m : List α}, Asc lt l → Asc lt m → (∀ x, x ∈ l ↔ x ∈ m) → l = m
  | [], [], _, _, _ => rfl
  | [], y :: m, _, _, hm => absurd ((hm y).2 (by simp)) (by simp)
  | x :: l, [], _, _, hm => absurd ((hm x).1 (by simp)) (by simp)
  | x :: l, y :: m, hl, hr, hm => by
    obtain ⟨h1, h2⟩ := List.pairwise_cons.1 hl
    obtain ⟨h3, h4⟩ := List.pairwise_cons.1 hr
    have hxy : x = y := by
      rcases List.mem_cons.1 ((hm x).1 (by simp)) with e | hx
      · exact e
      · rcases List.mem_cons.1 ((hm y).2 (by simp)) with e | hy
        · exact e.symm
        · have := h.asymm (h3 x hx); rw [h1 y hy] at this; cases this
    subst hxy
    congr 1
    refine Asc.unique h h2 h4 fun z => ⟨fun hz => ?_, fun hz => ?_⟩
    · rcases List.mem_cons.1 ((hm z).1 (by simp [hz])) with e | hz'
      · subst e; have := h1 z hz; rw [h.irrefl] at this; cases this
      · exact hz'
    · rcases List.mem_cons.1 ((hm z).2 (by simp [hz])) with e | hz'
      · subst e; have := h3 z hz; rw [h.irrefl] at this; cases this
      · exact hz'
/-- put in at its place, unless it is there -/
def ins (lt : α → α → Bool) (s : α) : Bool → List α → List α
  | d, [] => if d then [] else [s]
  | true, x :: l => x :: ins lt s true l
  | false, x :: l => if lt x s then x :: ins lt s false l else if lt s x then s :: x :: ins lt s true l else x :: ins lt s true l
theorem ins_true (s : α) : ∀ l, ins lt s true l = l
  | [] => rfl
  | x :: l => by rw [ins, ins_true s l]
theorem ins_mem (h : STO lt) (s : α) : ∀ l x, x ∈ ins lt s false l ↔ x = s ∨ x ∈ l
  | [], x => by simp [ins]
  | y :: l, x => by
    rw [ins]
    split
    · rw [List.mem_cons, ins_mem h s l x, List.mem_cons]
      exact ⟨fun h => by rcases h with h | h | h <;> simp [h], fun h => by rcases h with h | h | h <;> simp [h]⟩
    · rename_i h1
      split
      · rw [ins_true]; simp
      · rename_i h2
        rw [ins_true]
        have : y = s := h.tri y s (by simpa using h1) (by simpa using h2)
        subst this; simp
theorem ins_asc (h : STO lt) (s : α) : ∀ l, Asc lt l → Asc lt (ins lt s false l)
  | [], _ => by simp [ins, Asc]
  | y :: l, hl => by
    obtain ⟨h1, h2⟩ := List.pairwise_cons.1 hl
    rw [ins]
    split
    · rename_i hy
      refine List.pairwise_cons.2 ⟨fun z hz => ?_, ins_asc h s l h2⟩
      rcases (ins_mem h s l z).1 hz with rfl | hz
      · exact hy
      · exact h1 z hz
    · split
      · rename_i hs
        rw [ins_true]
        refine List.pairwise_cons.2 ⟨fun z hz => ?_, hl⟩
        rcases List.mem_cons.1 hz with rfl | hz
        · exact hs
        · exact h.trans _ _ _ hs (h1 z hz)
      · rw [ins_true]; exact hl
theorem ins_len (s : α) : ∀ (d : Bool) (l : List α), (ins lt s d l).length ≤ l.length + 1
  | true, l => by rw [ins_true]; omega
  | false, [] => by simp [ins]
  | false, y :: l => by
    have := ins_len s false l
    rw [ins]
    split
    · simp only [List.length_cons]; omega
    · split <;> simp [ins_true]
variable [Inhabited α] [DecidableEq α]
end
def blt (a b : Str) : Bool := Op.bytesLess a b
theorem blt_eq : ∀ a b : Str, blt a b = decide (a < b)
  | _, [] => by simp [blt, Op.bytesLess]
  | [], _ :: _ => by simp [blt, Op.bytesLess]
  | a :: x, b :: y => by
    have ih := blt_eq x y
    rw [blt] at ih ⊢
    rw [Op.bytesLess, ih]
    rw [Bool.eq_iff_iff]
    simp only [Bool.or_eq_true, Bool.and_eq_true, decide_eq_true_eq, beq_iff_eq]
    rw [List.cons_lt_cons_iff]
theorem blt_sto : STO blt where
  irrefl x := by rw [blt_eq]; simp [List.lt_irrefl]
  trans x y z h1 h2 := by rw [blt_eq, decide_eq_true_eq] at *; exact List.lt_trans h1 h2
  tri x y h1 h2 := by
    rw [blt_eq, decide_eq_false_iff_not] at *
    exact List.le_antisymm (List.not_lt.1 h2) (List.not_lt.1 h1)
structure CMP {α : Type} (c : α → α → Int) : Prop where
  zero : ∀ x y, c x y = 0 ↔ x = y
  anti : ∀ x y, c x y < 0 ↔ 0 < c y x
  trans : ∀ x y z, c x y < 0 → c y z < 0 → c x z < 0
def ltC {α : Type} (c : α → α → Int) (x y : α) : Bool := decide (c x y < 0)
theorem CMP.sto {α : Type} {c : α → α → Int} (h : CMP c) : STO (ltC c) where
  irrefl x := by unfold ltC; rw [(h.zero x x).2 rfl]; rfl
  trans x y z h1 h2 := by unfold ltC at *; rw [decide_eq_true_eq] at *; exact h.trans x y z h1 h2
  tri x y h1 h2 := by
    unfold ltC at *
    rw [decide_eq_false_iff_not] at *
    have := h.anti y x
    exact (h.zero x y).1 (by omega)
theorem scmp_cmp : CMP scmp where
  zero _ _ := scmp_zero
  anti x y := by
    have h1 := scmp_zero (a := x) (b := y)
    unfold scmp at h1 ⊢
    have b1 := @STO.asymm _ _ blt_sto x y
    have b2 := blt_sto.tri x y
    unfold blt at b1 b2
    by_cases e : x = y
    · subst e; simp [bl_irrefl]
    · have e' : ¬ y = x := fun h => e h.symm
      cases hx : Op.bytesLess x y <;> cases hy : Op.bytesLess y x <;> simp [e, e']
      · exact e (b2 hx hy)
      · have := b1 hx; rw [this] at hy; cases hy
  trans x y z h1 h2 := by
    have b := blt_sto.trans x y z
    unfold blt at b
    unfold scmp at *
    split at h1
    · rename_i hx
      split at h2
      · rename_i hy; rw [if_pos (b hx hy)]; omega
      · split at h2 <;> omega
    · split at h1 <;> omega
theorem cmpA_cmp : CMP cmpA where
  zero x y := by
    unfold cmpA
    by_cases hx : numF x = true <;> by_cases hy : numF y = true
    · rw [parseF_yes hx, parseF_yes hy]
      simp only [if_true]
      unfold icmp
      have ex : fmt (valA 0 x) = x := fmt_of_isNum (by unfold numF at hx; simp at hx; exact hx.1)
      have ey : fmt (valA 0 y) = y := fmt_of_isNum (by unfold numF at hy; simp at hy; exact hy.1)
      constructor
      · intro h
        split at h
        · omega
        · split at h
          · rename_i h2; rw [← ex, ← ey, show valA 0 x = valA 0 y by omega]
          · omega
      · rintro rfl; simp
    · rw [parseF_yes hx, parseF_no (by simpa using hy)]
      simp only [if_true]
      refine ⟨fun h => by simp at h, fun h => ?_⟩
      subst h; exact absurd hx hy
    · rw [parseF_no (by simpa using hx), parseF_yes hy]
      simp only [if_true]
      refine ⟨fun h => by simp at h, fun h => ?_⟩
      subst h; exact absurd hy hx
    · rw [parseF_no (by simpa using hx), parseF_no (by simpa using hy)]
      exact scmp_zero
  anti x y := by
    unfold cmpA
    have hs := scmp_cmp.anti x y
    cases hx : (parseF x).2 <;> cases hy : (parseF y).2 <;> simp only [if_true, Bool.false_eq_true, if_false]
    · exact hs
    · omega
    · omega
    · unfold icmp; split <;> split <;> (try split) <;> omega
  trans x y z := by
    unfold cmpA
    have hs := scmp_cmp.trans x y z
    cases hx : (parseF x).2 <;> cases hy : (parseF y).2 <;> cases hz : (parseF z).2 <;> simp only [if_true, Bool.false_eq_true, if_false]
    · exact hs
    all_goals (try (intro h1 h2; omega))
    intro h1 h2
    unfold icmp at *
    split at h1
    · split at h2
      · rw [if_pos (by omega)]; omega
      · split at h2 <;> omega
    · split at h1 <;> omega
theorem cmpArgs_cmp : CMP cmpArgs where
  zero x y := by
    induction x generalizing y with
    | nil => cases y <;> simp [cmpArgs]
    | cons a x ih =>
      cases y with
      | nil => simp [cmpArgs]
      | cons b y =>
        rw [cmpArgs]
        have hz := cmpA_cmp.zero a b
        split
        · rename_i h; exact ⟨fun e => absurd e h, fun e => absurd (hz.2 (List.cons.inj e).1) h⟩
        · rename_i h
          have e : a = b := hz.1 (Decidable.not_not.1 h)
          subst e
          rw [ih]; simp
  anti x y := by
    induction x generalizing y with
    | nil => cases y <;> simp [cmpArgs]
    | cons a x ih =>
      cases y with
      | nil => simp [cmpArgs]
      | cons b y =>
        rw [cmpArgs, cmpArgs]
        have hz := cmpA_cmp.zero a b
        have hz' := cmpA_cmp.zero b a
        have ha := cmpA_cmp.anti a b
        by_cases h : a = b
        · subst h
          rw [if_neg (by simp [hz]), if_neg (by simp [hz])]; exact ih y
        · rw [if_pos (fun e => h (hz.1 e)), if_pos (fun e => h (hz'.1 e).symm)]; exact ha
  trans x y z := by
    induction x generalizing y z with
    | nil =>
      cases y <;> cases z <;> simp [cmpArgs]
    | cons a x ih =>
      cases y with
      | nil => simp [cmpArgs]
      | cons b y =>
        cases z with
        | nil => simp [cmpArgs]
        | cons c z =>
          rw [cmpArgs, cmpArgs, cmpArgs]
          have hz := fun a b => cmpA_cmp.zero a b
          have ht := cmpA_cmp.trans a b c
          by_cases h1 : a = b
          · subst h1
            rw [if_neg (by simp [hz])]
            by_cases h2 : a = c
            · subst h2
              rw [if_neg (by simp [hz]), if_neg (by simp [hz])]; exact ih y z
            · rw [if_pos (fun e => h2 ((hz _ _).1 e)), if_pos (fun e => h2 ((hz _ _).1 e))]; exact fun _ h => h
          · rw [if_pos (fun e => h1 ((hz _ _).1 e))]
            by_cases h2 : b = c
            · subst h2
              rw [if_neg (by simp [hz]), if_pos (fun e => h1 ((hz _ _).1 e))]; exact fun h _ => h
            · rw [if_pos (fun e => h2 ((hz _ _).1 e))]
              intro h3 h4
              have h5 := ht h3 h4
              rw [if_pos (by omega)]; exact h5
theorem cmpF_cmp : CMP cmpF where
  zero x y := by
    unfold cmpF
    split
    · rename_i h; rw [cmpArgs_cmp.zero]; exact ⟨fun e => Prod.ext h e, fun e => by rw [e]⟩
    · rename_i h; exact ⟨fun e => absurd (scmp_zero.1 e) h, fun e => absurd (by rw [e]) h⟩
  anti x y := by
    unfold cmpF
    by_cases h : x.1 = y.1
    · rw [if_pos h, if_pos h.symm]; exact cmpArgs_cmp.anti _ _
    · rw [if_neg h, if_neg (fun e => h e.symm)]; exact scmp_cmp.anti _ _
  trans x y z := by
    unfold cmpF
    by_cases h1 : x.1 = y.1 <;> by_cases h2 : y.1 = z.1
    · rw [if_pos h1, if_pos h2, if_pos (h1.trans h2)]; exact cmpArgs_cmp.trans _ _ _
    · rw [if_pos h1, if_neg h2, if_neg (fun e => h2 (h1.symm.trans e)), h1]; exact fun _ h => h
    · rw [if_neg h1, if_pos h2, if_neg (fun e => h1 (e.trans h2.symm)), h2]; exact fun h _ => h
    · rw [if_neg h1, if_neg h2]
      intro h3 h4
      have h5 := scmp_cmp.trans _ _ _ h3 h4
      have h6 : x.1 ≠ z.1 := fun e => by have := scmp_zero.2 e; omega
      rw [if_neg h6]; exact h5
end Go.Proofs.Ytimcfgokocihnaa
namespace Go.Proofs.Ytimcfgokocihnaa
open Abs
theorem ins_drop {α : Type} {lt : α → α → Bool} {s : α} {l : List α} {i : Nat} (e : α) (d : Bool) (hi : i < l.length) :
    ins lt s d (l.drop i) = if d then l.getD i e :: ins lt s true (l.drop (i + 1)) else if lt (l.getD i e) s then l.getD i e :: ins lt s false (l.drop (i + 1)) else if lt s (l.getD i e) then s :: l.getD i e :: ins lt s true (l.drop (i + 1)) else l.getD i e :: ins lt s true (l.drop (i + 1)) := by
  rw [List.drop_eq_getElem_cons hi]
  have : l.getD i e = l[i] := by simp [List.getD, hi]
  rw [this]
  cases d <;> rfl
end Go.Proofs.Ytimcfgokocihnaa
namespace Go.Proofs.Ytimcfgokocihnaa
open Abs
theorem sCopies.ret (l : List Fct) (h : tFcts.size l ≤ 1048576) : sCopies.Ret [.list none (facts l)] (.list (some 0) (tks tFct l 1)) (accFr l) := by
  refine sCopies.of rfl ?_
  rw [tFcts_size] at h
  repeat' first
    | contradiction | exact trivial
    | (conv => whnf
       first | refine Need.mk (fun h => h) ?_ | refine Need.mk rfl ?_ | refine Need.mk ⟨rfl, Nat.le_of_ble_eq_true rfl⟩ ?_ | refine Need.mk (Nat.le_of_ble_eq_true rfl) ?_ | refine Need.fin ?_ | refine Need.mk ?_ ?_ | refine Ix.strsF rfl ?_ | refine Ix.strs rfl ?_ ?_ | refine Cut.strs rfl ?_ ?_ | refine Ix.mapF (fun _ => rfl) ?_ | refine Ix.map (fun _ => rfl) ?_ ?_ | refine Cut.map (fun _ => rfl) ?_ ?_ | refine Fork.yes (by assumption) ?_ | refine Fork.no (by assumption) ?_ | refine Fork.decYes (by omega) ?_ | refine Fork.decNo (by omega) ?_ | refine Fork.dec (fun _ => ?_) (fun _ => ?_) | refine Fork.bne (fun _ => ?_) (fun _ => ?_) | refine Fork.beq (fun _ => ?_) (fun _ => ?_) | refine Fork.seq (fun _ => ?_) (fun _ => ?_) | refine Fork.sne (fun _ => ?_) (fun _ => ?_) | refine Fork.neg (fun _ => ?_) (fun _ => ?_) | refine Fork.mk (fun _ => ?_) (fun _ => ?_) | refine HAlt.mk ?_ ?_ | apply HJoin.mk3 | exact HEnd.mk rfl rfl rfl | refine HEnd.mk ?_ ?_ ?_ | refine Round.mk ?_ | refine NilQ.mk (fun b hb => ?_) | refine forceK_of ?_ | refine forceBx_of ?_ | refine unG_old ?_ | refine unG_gv ?_ | refine Lit.read rfl ?_ | refine FinVal.keep ?_ | refine FinAgg.keep ?_ | refine Final.mk rfl rfl | refine Final.mk ?_ rfl | refine Final.mk ?_ ?_ | refine FinalT.mk ?_ ?_ | refine FinalC.allA ?_)
    | refine AV.bool_congr ?_ | refine AV.int_congr ?_ | refine AV.str_congr ?_ | refine AV.list_congr ?_ | with_reducible rfl | refine fr1 ?_ | refine fr2 ?_ ?_
  refine ALoop.mk Nat (fun i => ⟨[(0, .list none (facts l)), (3, .list (some 0) (tks tFct (l.take i) 1)), (4, .val (.int .i64 i))], [], accFr (l.take i)⟩) (fun i => i ≤ l.length) (fun i => l.length - i) ⟨0, Nat.zero_le _, ?_⟩ (fun i hi => ?_)
  · repeat' first
      | exact trivial | refine Weak.mk ?_ ?_ ?_ ?_ (Or.inl (Nat.le_of_ble_eq_true rfl)) | refine Weak.mk ?_ ?_ ?_ ?_ (Or.inr ⟨(by repeat' first | exact trivial | exact Nat.le_of_ble_eq_true rfl | refine And.intro ?_ ?_), (by repeat' first | exact trivial | exact Nat.le_of_ble_eq_true rfl | refine And.intro ?_ ?_)⟩) | refine Weak.mk ?_ ?_ ?_ ?_ ?_ | refine And.intro ?_ ?_ | with_reducible rfl | exact Nat.le_of_ble_eq_true rfl | refine fr1 ?_ | refine fr2 ?_ ?_ | refine AV.int_congr ?_ | refine AV.bool_congr ?_ | refine AV.str_congr ?_ | refine AV.list_congr ?_ | refine AV.bsl_congr ?_ ?_ | (apply rfl)
  have hlen : (l.take i).length ≤ l.length := by rw [List.length_take]; omega
  repeat' first
    | contradiction | exact trivial
    | (conv => whnf
       first | refine Need.mk (fun h => h) ?_ | refine Need.mk rfl ?_ | refine Need.mk ⟨rfl, Nat.le_of_ble_eq_true rfl⟩ ?_ | refine Need.mk (Nat.le_of_ble_eq_true rfl) ?_ | refine Need.fin ?_ | refine Need.mk ?_ ?_ | refine Ix.strsF rfl ?_ | refine Ix.strs rfl ?_ ?_ | refine Cut.strs rfl ?_ ?_ | refine Ix.mapF (fun _ => rfl) ?_ | refine Ix.map (fun _ => rfl) ?_ ?_ | refine Cut.map (fun _ => rfl) ?_ ?_ | refine Fork.yes (by assumption) ?_ | refine Fork.no (by assumption) ?_ | refine Fork.decYes (by omega) ?_ | refine Fork.decNo (by omega) ?_ | refine Fork.dec (fun _ => ?_) (fun _ => ?_) | refine Fork.bne (fun _ => ?_) (fun _ => ?_) | refine Fork.beq (fun _ => ?_) (fun _ => ?_) | refine Fork.seq (fun _ => ?_) (fun _ => ?_) | refine Fork.sne (fun _ => ?_) (fun _ => ?_) | refine Fork.neg (fun _ => ?_) (fun _ => ?_) | refine Fork.mk (fun _ => ?_) (fun _ => ?_) | refine HAlt.mk ?_ ?_ | apply HJoin.mk3 | exact HEnd.mk rfl rfl rfl | refine HEnd.mk ?_ ?_ ?_ | refine Round.mk ?_ | refine NilQ.mk (fun b hb => ?_) | refine forceK_of ?_ | refine forceBx_of ?_ | refine unG_old ?_ | refine unG_gv ?_ | refine Lit.read rfl ?_ | refine FinVal.keep ?_ | refine FinAgg.keep ?_ | refine Final.mk rfl rfl | refine Final.mk ?_ rfl | refine Final.mk ?_ ?_ | refine FinalT.mk ?_ ?_ | refine FinalC.allA ?_ | refine ACall.mkFct _ _ (sCopy.ret _ ?_) (by repeat' first | exact SeesL.nil | refine SeesL.cons ?_ ?_ | exact SeesB.of0 (Sees0.val _) | exact SeesB.of0 (Sees0.str _) | exact SeesB.of0 (Sees0.olds _ _) | exact SeesB.of0 (Sees0.old _) | exact SeesB.of0 (Sees0.oldagg _) | exact SeesB.of0 Sees0.nil | exact Sees0.val _ | exact Sees0.str _ | exact Sees0.olds _ _ | exact Sees0.old _ | exact Sees0.oldagg _ | exact Sees0.nil | exact SeesB.of0 (Sees0.any _) | assumption | exact sees_gv _ _ _ (by assumption) (by first | assumption | exact BoxIn.last _ _ | exact BoxIn.more (BoxIn.last _ _) _) | refine SeesB.agg ?_ | refine Sees0.agg ?_ | exact SeesB.of0 (Sees0.clo SeesL.nil SeesL.nil) | exact Sees0.clo SeesL.nil SeesL.nil | exact SeesB.of0 (Sees0.list rfl) | exact Sees0.list rfl) ?_)
    | refine AV.bool_congr ?_ | refine AV.int_congr ?_ | refine AV.str_congr ?_ | refine AV.list_congr ?_ | with_reducible rfl | refine fr1 ?_ | refine fr2 ?_ ?_
  all_goals try simp only [length_rows, length_strs, length_oldLL, List.length_map, Int.toNat_natCast] at *
  · have := fct_le (l := l) (i := i) (by omega); omega
  · rw [length_tks]
  · intro c hc; rw [List.mem_singleton.1 hc]; exact tFct.htk _ _
  · rw [length_tks]; simp; omega
  · refine ⟨i + 1, by omega, ?_, by omega⟩
    repeat' first
      | exact trivial | refine Weak.mk ?_ ?_ ?_ ?_ (Or.inl (Nat.le_of_ble_eq_true rfl)) | refine Weak.mk ?_ ?_ ?_ ?_ (Or.inr ⟨(by repeat' first | exact trivial | exact Nat.le_of_ble_eq_true rfl | refine And.intro ?_ ?_), (by repeat' first | exact trivial | exact Nat.le_of_ble_eq_true rfl | refine And.intro ?_ ?_)⟩) | refine Weak.mk ?_ ?_ ?_ ?_ ?_ | refine And.intro ?_ ?_ | with_reducible rfl | exact Nat.le_of_ble_eq_true rfl | refine fr1 ?_ | refine fr2 ?_ ?_ | refine AV.int_congr ?_ | refine AV.bool_congr ?_ | refine AV.str_congr ?_ | refine AV.list_congr ?_ | refine AV.bsl_congr ?_ ?_ | (apply rfl)
    · rw [acc_snoc, take_succ' default (by omega)]
    · rw [wrap64 (by omega) (by omega)]; rfl
    · show (accFr (l.take i) ++ tFct.fr (l.getD i default)).set 0 (_, _, (tks tFct (l.take i) 1).length + 1) = accFr (l.take (i + 1))
      rw [length_tks, take_succ' default (by omega)]; exact accFr_snoc _ _
  · rw [List.take_of_length_le (by omega)]
  · rw [List.take_of_length_le (by omega)]
abbrev flt : Fct → Fct → Bool := ltC cmpF
theorem flt_sto : STO flt := cmpF_cmp.sto
set_option maxHeartbeats 2000000 in
theorem sPut2.ret (l : List Fct) (f : Fct) (h : tFcts.size l ≤ 1048576) (h' : tFct.size f ≤ 1048576) : sPut2.Ret [.list none (facts l), .agg (oldL (tFct.q f))] (.list (some 0) (tks tFct (ins flt f false l) 1)) (accFr (ins flt f false l)) := by
  refine sPut2.of rfl ?_
  rw [tFcts_size] at h
  repeat' first
    | contradiction | exact trivial
    | (conv => whnf
       first | refine Need.mk (fun h => h) ?_ | refine Need.mk rfl ?_ | refine Need.mk ⟨rfl, Nat.le_of_ble_eq_true rfl⟩ ?_ | refine Need.mk (Nat.le_of_ble_eq_true rfl) ?_ | refine Need.fin ?_ | refine Need.mk ?_ ?_ | refine Ix.strsF rfl ?_ | refine Ix.strs rfl ?_ ?_ | refine Cut.strs rfl ?_ ?_ | refine Ix.mapF (fun _ => rfl) ?_ | refine Ix.map (fun _ => rfl) ?_ ?_ | refine Cut.map (fun _ => rfl) ?_ ?_ | refine Fork.yes (by assumption) ?_ | refine Fork.no (by assumption) ?_ | refine Fork.decYes (by omega) ?_ | refine Fork.decNo (by omega) ?_ | refine Fork.dec (fun _ => ?_) (fun _ => ?_) | refine Fork.bne (fun _ => ?_) (fun _ => ?_) | refine Fork.beq (fun _ => ?_) (fun _ => ?_) | refine Fork.seq (fun _ => ?_) (fun _ => ?_) | refine Fork.sne (fun _ => ?_) (fun _ => ?_) | refine Fork.neg (fun _ => ?_) (fun _ => ?_) | refine Fork.mk (fun _ => ?_) (fun _ => ?_) | refine HAlt.mk ?_ ?_ | apply HJoin.mk3 | exact HEnd.mk rfl rfl rfl | refine HEnd.mk ?_ ?_ ?_ | refine Round.mk ?_ | refine NilQ.mk (fun b hb => ?_) | refine forceK_of ?_ | refine forceBx_of ?_ | refine unG_old ?_ | refine unG_gv ?_ | refine Lit.read rfl ?_ | refine FinVal.keep ?_ | refine FinAgg.keep ?_ | refine Final.mk rfl rfl | refine Final.mk ?_ rfl | refine Final.mk ?_ ?_ | refine FinalT.mk ?_ ?_ | refine FinalC.allA ?_)
    | refine AV.bool_congr ?_ | refine AV.int_congr ?_ | refine AV.str_congr ?_ | refine AV.list_congr ?_ | with_reducible rfl | refine fr1 ?_ | refine fr2 ?_ ?_
  refine ALoop.mk (Nat × List Fct × Bool) (fun a => ⟨[(0, .list none (facts l)), (3, .bptr 0 0), (5, .list (some 0) (tks tFct a.2.1 1)), (6, .val (.bool a.2.2)), (7, .val (.int .i64 a.1))], [.cells .var (oldL (tFct.q f))], accFr a.2.1⟩)
    (fun a => a.1 ≤ l.length ∧ (a.2.1.length ≤ a.1 + 1 ∧ (a.2.2 = false → a.2.1.length ≤ a.1)) ∧ a.2.1 ++ ins flt f a.2.2 (l.drop a.1) = ins flt f false l) (fun a => l.length - a.1) ⟨(0, [], false), ⟨Nat.zero_le _, ⟨Nat.zero_le _, fun _ => Nat.zero_le _⟩, rfl⟩, ?_⟩ (fun a ha => ?_)
  · repeat' first
      | exact trivial | refine Weak.mk ?_ ?_ ?_ ?_ (Or.inl (Nat.le_of_ble_eq_true rfl)) | refine Weak.mk ?_ ?_ ?_ ?_ (Or.inr ⟨(by repeat' first | exact trivial | exact Nat.le_of_ble_eq_true rfl | refine And.intro ?_ ?_), (by repeat' first | exact trivial | exact Nat.le_of_ble_eq_true rfl | refine And.intro ?_ ?_)⟩) | refine Weak.mk ?_ ?_ ?_ ?_ ?_ | refine And.intro ?_ ?_ | with_reducible rfl | exact Nat.le_of_ble_eq_true rfl | refine fr1 ?_ | refine fr2 ?_ ?_ | refine AV.int_congr ?_ | refine AV.bool_congr ?_ | refine AV.str_congr ?_ | refine AV.list_congr ?_ | refine AV.bsl_congr ?_ ?_ | (apply rfl)
  obtain ⟨i, o, d⟩ := a
  obtain ⟨h1, h2, h3⟩ := ha
  simp only at h1 h2 h3 ⊢
  have hle' : ∀ i, tFct.size (l.getD i default) ≤ 1048576 := fun i => Nat.le_trans (fct_le' i) (by omega)
  have app : ∀ m : Nat, m ≤ l.length + 1 → m * 40 ≤ 140737488355328 ∧ m ≤ 1099511627776 := fun m hm => by omega
  have hfl : (facts l).length = l.length := length_rows _ _
  have e0 : l.getD (i : Int).toNat default = l.getD i default := by rw [Int.toNat_natCast]
  have snoc : ∀ (o : List Fct) (f : Fct), (accFr o ++ tFct.fr f).set 0 (80, 2, (tks tFct o 1).length + 1) = accFr (o ++ [f]) := fun o f => by rw [length_tks]; exact accFr_snoc _ _
  rcases Nat.lt_or_ge i l.length with hlt | hge
  rotate_left
  · rw [List.drop_of_length_le hge] at h3
    cases d with
    | true =>
      rw [ins, if_pos rfl, List.append_nil] at h3
      repeat' first
        | contradiction | exact trivial
        | (conv => whnf
           first | refine Need.mk (fun h => h) ?_ | refine Need.mk rfl ?_ | refine Need.mk ⟨rfl, Nat.le_of_ble_eq_true rfl⟩ ?_ | refine Need.mk (Nat.le_of_ble_eq_true rfl) ?_ | refine Need.fin ?_ | refine Need.mk ?_ ?_ | refine Ix.strsF rfl ?_ | refine Ix.strs rfl ?_ ?_ | refine Cut.strs rfl ?_ ?_ | refine Ix.mapF (fun _ => rfl) ?_ | refine Ix.map (fun _ => rfl) ?_ ?_ | refine Cut.map (fun _ => rfl) ?_ ?_ | refine Fork.yes (by assumption) ?_ | refine Fork.no (by assumption) ?_ | refine Fork.decYes (by omega) ?_ | refine Fork.decNo (by omega) ?_ | refine Fork.dec (fun _ => ?_) (fun _ => ?_) | refine Fork.bne (fun _ => ?_) (fun _ => ?_) | refine Fork.beq (fun _ => ?_) (fun _ => ?_) | refine Fork.seq (fun _ => ?_) (fun _ => ?_) | refine Fork.sne (fun _ => ?_) (fun _ => ?_) | refine Fork.neg (fun _ => ?_) (fun _ => ?_) | refine Fork.mk (fun _ => ?_) (fun _ => ?_) | refine HAlt.mk ?_ ?_ | apply HJoin.mk3 | exact HEnd.mk rfl rfl rfl | refine HEnd.mk ?_ ?_ ?_ | refine Round.mk ?_ | refine NilQ.mk (fun b hb => ?_) | refine forceK_of ?_ | refine forceBx_of ?_ | refine unG_old ?_ | refine unG_gv ?_ | refine Lit.read rfl ?_ | refine FinVal.keep ?_ | refine FinAgg.keep ?_ | refine Final.mk rfl rfl | refine Final.mk ?_ rfl | refine Final.mk ?_ ?_ | refine FinalT.mk ?_ ?_ | refine FinalC.allA ?_)
        | refine AV.bool_congr ?_ | refine AV.int_congr ?_ | refine AV.str_congr ?_ | refine AV.list_congr ?_ | with_reducible rfl | refine fr1 ?_ | refine fr2 ?_ ?_
      all_goals rw [h3]
    | false =>
      rw [ins, if_neg (by simp)] at h3
      repeat' first
        | contradiction | exact trivial
        | (conv => whnf
           first | refine Need.mk (fun h => h) ?_ | refine Need.mk rfl ?_ | refine Need.mk ⟨rfl, Nat.le_of_ble_eq_true rfl⟩ ?_ | refine Need.mk (Nat.le_of_ble_eq_true rfl) ?_ | refine Need.fin ?_ | refine Need.mk ?_ ?_ | refine Ix.strsF rfl ?_ | refine Ix.strs rfl ?_ ?_ | refine Cut.strs rfl ?_ ?_ | refine Ix.mapF (fun _ => rfl) ?_ | refine Ix.map (fun _ => rfl) ?_ ?_ | refine Cut.map (fun _ => rfl) ?_ ?_ | refine Fork.yes (by assumption) ?_ | refine Fork.no (by assumption) ?_ | refine Fork.decYes (by omega) ?_ | refine Fork.decNo (by omega) ?_ | refine Fork.dec (fun _ => ?_) (fun _ => ?_) | refine Fork.bne (fun _ => ?_) (fun _ => ?_) | refine Fork.beq (fun _ => ?_) (fun _ => ?_) | refine Fork.seq (fun _ => ?_) (fun _ => ?_) | refine Fork.sne (fun _ => ?_) (fun _ => ?_) | refine Fork.neg (fun _ => ?_) (fun _ => ?_) | refine Fork.mk (fun _ => ?_) (fun _ => ?_) | refine HAlt.mk ?_ ?_ | apply HJoin.mk3 | exact HEnd.mk rfl rfl rfl | refine HEnd.mk ?_ ?_ ?_ | refine Round.mk ?_ | refine NilQ.mk (fun b hb => ?_) | refine forceK_of ?_ | refine forceBx_of ?_ | refine unG_old ?_ | refine unG_gv ?_ | refine Lit.read rfl ?_ | refine FinVal.keep ?_ | refine FinAgg.keep ?_ | refine Final.mk rfl rfl | refine Final.mk ?_ rfl | refine Final.mk ?_ ?_ | refine FinalT.mk ?_ ?_ | refine FinalC.allA ?_ | refine ACall.mkFct _ _ (sCopy.ret _ ?_) (by repeat' first | exact SeesL.nil | refine SeesL.cons ?_ ?_ | exact SeesB.of0 (Sees0.val _) | exact SeesB.of0 (Sees0.str _) | exact SeesB.of0 (Sees0.olds _ _) | exact SeesB.of0 (Sees0.old _) | exact SeesB.of0 (Sees0.oldagg _) | exact SeesB.of0 Sees0.nil | exact Sees0.val _ | exact Sees0.str _ | exact Sees0.olds _ _ | exact Sees0.old _ | exact Sees0.oldagg _ | exact Sees0.nil | exact SeesB.of0 (Sees0.any _) | assumption | exact sees_gv _ _ _ (by assumption) (by first | assumption | exact BoxIn.last _ _ | exact BoxIn.more (BoxIn.last _ _) _) | refine SeesB.agg ?_ | refine Sees0.agg ?_ | exact SeesB.of0 (Sees0.clo SeesL.nil SeesL.nil) | exact Sees0.clo SeesL.nil SeesL.nil | exact SeesB.of0 (Sees0.list rfl) | exact Sees0.list rfl) ?_)
        | refine AV.bool_congr ?_ | refine AV.int_congr ?_ | refine AV.str_congr ?_ | refine AV.list_congr ?_ | with_reducible rfl | refine fr1 ?_ | refine fr2 ?_ ?_
      · exact h'
      · rw [length_tks]
      · intro c hc; rw [List.mem_singleton.1 hc]; exact tFct.htk _ _
      · rw [length_tks]; simp only [List.length_singleton]; exact app _ (by have := h2.2 rfl; omega)
      · rw [acc_snoc, h3]
      · show (accFr o ++ tFct.fr f).set 0 (_, _, (tks tFct o 1).length + 1) = _
        rw [snoc, h3]
  cases d with
  | true =>
    rw [ins_drop default true hlt, if_pos rfl] at h3
    repeat' first
      | contradiction | exact trivial
      | (conv => whnf
         first | refine Need.mk (fun h => h) ?_ | refine Need.mk rfl ?_ | refine Need.mk ⟨rfl, Nat.le_of_ble_eq_true rfl⟩ ?_ | refine Need.mk (Nat.le_of_ble_eq_true rfl) ?_ | refine Need.fin ?_ | refine Need.mk ?_ ?_ | refine Ix.strsF rfl ?_ | refine Ix.strs rfl ?_ ?_ | refine Cut.strs rfl ?_ ?_ | refine Ix.mapF (fun _ => rfl) ?_ | refine Ix.map (fun _ => rfl) ?_ ?_ | refine Cut.map (fun _ => rfl) ?_ ?_ | refine Fork.yes (by assumption) ?_ | refine Fork.no (by assumption) ?_ | refine Fork.decYes (by omega) ?_ | refine Fork.decNo (by omega) ?_ | refine Fork.dec (fun _ => ?_) (fun _ => ?_) | refine Fork.bne (fun _ => ?_) (fun _ => ?_) | refine Fork.beq (fun _ => ?_) (fun _ => ?_) | refine Fork.seq (fun _ => ?_) (fun _ => ?_) | refine Fork.sne (fun _ => ?_) (fun _ => ?_) | refine Fork.neg (fun _ => ?_) (fun _ => ?_) | refine Fork.mk (fun _ => ?_) (fun _ => ?_) | refine HAlt.mk ?_ ?_ | apply HJoin.mk3 | exact HEnd.mk rfl rfl rfl | refine HEnd.mk ?_ ?_ ?_ | refine Round.mk ?_ | refine NilQ.mk (fun b hb => ?_) | refine forceK_of ?_ | refine forceBx_of ?_ | refine unG_old ?_ | refine unG_gv ?_ | refine Lit.read rfl ?_ | refine FinVal.keep ?_ | refine FinAgg.keep ?_ | refine Final.mk rfl rfl | refine Final.mk ?_ rfl | refine Final.mk ?_ ?_ | refine FinalT.mk ?_ ?_ | refine FinalC.allA ?_ | refine ACall.mkFct _ _ (sCopy.ret _ ?_) (by repeat' first | exact SeesL.nil | refine SeesL.cons ?_ ?_ | exact SeesB.of0 (Sees0.val _) | exact SeesB.of0 (Sees0.str _) | exact SeesB.of0 (Sees0.olds _ _) | exact SeesB.of0 (Sees0.old _) | exact SeesB.of0 (Sees0.oldagg _) | exact SeesB.of0 Sees0.nil | exact Sees0.val _ | exact Sees0.str _ | exact Sees0.olds _ _ | exact Sees0.old _ | exact Sees0.oldagg _ | exact Sees0.nil | exact SeesB.of0 (Sees0.any _) | assumption | exact sees_gv _ _ _ (by assumption) (by first | assumption | exact BoxIn.last _ _ | exact BoxIn.more (BoxIn.last _ _) _) | refine SeesB.agg ?_ | refine Sees0.agg ?_ | exact SeesB.of0 (Sees0.clo SeesL.nil SeesL.nil) | exact Sees0.clo SeesL.nil SeesL.nil | exact SeesB.of0 (Sees0.list rfl) | exact Sees0.list rfl) ?_ | refine ACall.scalA _ _ (sCompareFacts.ret _ _ ?_ ?_) rfl ?_ | refine AQCall.mkA _ _ (fun hg => sCompareFacts.ret _ _ ?_ ?_) rfl ?_ | refine AGCall.mkA _ _ (fun hg => sCompareFacts.ret _ _ ?_ ?_) rfl ?_)
      | refine AV.bool_congr ?_ | refine AV.int_congr ?_ | refine AV.str_congr ?_ | refine AV.list_congr ?_ | with_reducible rfl | refine fr1 ?_ | refine fr2 ?_ ?_
    all_goals try exact hle' _
    all_goals try exact h'
    · rw [length_tks]
    · intro c hc; rw [List.mem_singleton.1 hc]; exact tFct.htk _ _
    · rw [length_tks]; simp only [List.length_singleton]; exact app _ (by omega)
    · refine ⟨(i + 1, o ++ [l.getD i default], true), ⟨by omega, ⟨by simp; omega, by simp⟩, by simpa using h3⟩, ?_, by simp only; omega⟩
      repeat' first
        | exact trivial | refine Weak.mk ?_ ?_ ?_ ?_ (Or.inl (Nat.le_of_ble_eq_true rfl)) | refine Weak.mk ?_ ?_ ?_ ?_ (Or.inr ⟨(by repeat' first | exact trivial | exact Nat.le_of_ble_eq_true rfl | refine And.intro ?_ ?_), (by repeat' first | exact trivial | exact Nat.le_of_ble_eq_true rfl | refine And.intro ?_ ?_)⟩) | refine Weak.mk ?_ ?_ ?_ ?_ ?_ | refine And.intro ?_ ?_ | with_reducible rfl | exact Nat.le_of_ble_eq_true rfl | refine fr1 ?_ | refine fr2 ?_ ?_ | refine AV.int_congr ?_ | refine AV.bool_congr ?_ | refine AV.str_congr ?_ | refine AV.list_congr ?_ | refine AV.bsl_congr ?_ ?_ | (apply rfl)
      · rw [e0, acc_snoc]
      · rw [wrap64 (by omega) (by omega)]; rfl
      · show (accFr o ++ tFct.fr (l.getD (i : Int).toNat default)).set 0 (_, _, (tks tFct o 1).length + 1) = _
        rw [snoc, e0]
  | false =>
    rw [ins_drop default false hlt, if_neg (by simp)] at h3
    have h2' := h2.2 rfl
    rcases Int.lt_trichotomy (cmpF (l.getD (i : Int).toNat default) f) 0 with hc | hc | hc
    · have hl1 : flt (l.getD i default) f = true := by rw [e0] at hc; simpa [flt, ltC] using hc
      rw [if_pos hl1] at h3
      repeat' first
        | contradiction | exact trivial
        | (conv => whnf
           first | refine Need.mk (fun h => h) ?_ | refine Need.mk rfl ?_ | refine Need.mk ⟨rfl, Nat.le_of_ble_eq_true rfl⟩ ?_ | refine Need.mk (Nat.le_of_ble_eq_true rfl) ?_ | refine Need.fin ?_ | refine Need.mk ?_ ?_ | refine Ix.strsF rfl ?_ | refine Ix.strs rfl ?_ ?_ | refine Cut.strs rfl ?_ ?_ | refine Ix.mapF (fun _ => rfl) ?_ | refine Ix.map (fun _ => rfl) ?_ ?_ | refine Cut.map (fun _ => rfl) ?_ ?_ | refine Fork.yes (by assumption) ?_ | refine Fork.no (by assumption) ?_ | refine Fork.decYes (by omega) ?_ | refine Fork.decNo (by omega) ?_ | refine Fork.dec (fun _ => ?_) (fun _ => ?_) | refine Fork.bne (fun _ => ?_) (fun _ => ?_) | refine Fork.beq (fun _ => ?_) (fun _ => ?_) | refine Fork.seq (fun _ => ?_) (fun _ => ?_) | refine Fork.sne (fun _ => ?_) (fun _ => ?_) | refine Fork.neg (fun _ => ?_) (fun _ => ?_) | refine Fork.mk (fun _ => ?_) (fun _ => ?_) | refine HAlt.mk ?_ ?_ | apply HJoin.mk3 | exact HEnd.mk rfl rfl rfl | refine HEnd.mk ?_ ?_ ?_ | refine Round.mk ?_ | refine NilQ.mk (fun b hb => ?_) | refine forceK_of ?_ | refine forceBx_of ?_ | refine unG_old ?_ | refine unG_gv ?_ | refine Lit.read rfl ?_ | refine FinVal.keep ?_ | refine FinAgg.keep ?_ | refine Final.mk rfl rfl | refine Final.mk ?_ rfl | refine Final.mk ?_ ?_ | refine FinalT.mk ?_ ?_ | refine FinalC.allA ?_ | refine ACall.mkFct _ _ (sCopy.ret _ ?_) (by repeat' first | exact SeesL.nil | refine SeesL.cons ?_ ?_ | exact SeesB.of0 (Sees0.val _) | exact SeesB.of0 (Sees0.str _) | exact SeesB.of0 (Sees0.olds _ _) | exact SeesB.of0 (Sees0.old _) | exact SeesB.of0 (Sees0.oldagg _) | exact SeesB.of0 Sees0.nil | exact Sees0.val _ | exact Sees0.str _ | exact Sees0.olds _ _ | exact Sees0.old _ | exact Sees0.oldagg _ | exact Sees0.nil | exact SeesB.of0 (Sees0.any _) | assumption | exact sees_gv _ _ _ (by assumption) (by first | assumption | exact BoxIn.last _ _ | exact BoxIn.more (BoxIn.last _ _) _) | refine SeesB.agg ?_ | refine Sees0.agg ?_ | exact SeesB.of0 (Sees0.clo SeesL.nil SeesL.nil) | exact Sees0.clo SeesL.nil SeesL.nil | exact SeesB.of0 (Sees0.list rfl) | exact Sees0.list rfl) ?_ | refine ACall.scalA _ _ (sCompareFacts.ret _ _ ?_ ?_) rfl ?_ | refine AQCall.mkA _ _ (fun hg => sCompareFacts.ret _ _ ?_ ?_) rfl ?_ | refine AGCall.mkA _ _ (fun hg => sCompareFacts.ret _ _ ?_ ?_) rfl ?_)
        | refine AV.bool_congr ?_ | refine AV.int_congr ?_ | refine AV.str_congr ?_ | refine AV.list_congr ?_ | with_reducible rfl | refine fr1 ?_ | refine fr2 ?_ ?_
      all_goals try exact hle' _
      all_goals try exact h'
      · rw [length_tks]
      · intro c hc; rw [List.mem_singleton.1 hc]; exact tFct.htk _ _
      · rw [length_tks]; simp only [List.length_singleton]; exact app _ (by omega)
      · refine ⟨(i + 1, o ++ [l.getD i default], false), ⟨by omega, ⟨by simp; omega, fun _ => by simp; omega⟩, by simpa using h3⟩, ?_, by simp only; omega⟩
        repeat' first
          | exact trivial | refine Weak.mk ?_ ?_ ?_ ?_ (Or.inl (Nat.le_of_ble_eq_true rfl)) | refine Weak.mk ?_ ?_ ?_ ?_ (Or.inr ⟨(by repeat' first | exact trivial | exact Nat.le_of_ble_eq_true rfl | refine And.intro ?_ ?_), (by repeat' first | exact trivial | exact Nat.le_of_ble_eq_true rfl | refine And.intro ?_ ?_)⟩) | refine Weak.mk ?_ ?_ ?_ ?_ ?_ | refine And.intro ?_ ?_ | with_reducible rfl | exact Nat.le_of_ble_eq_true rfl | refine fr1 ?_ | refine fr2 ?_ ?_ | refine AV.int_congr ?_ | refine AV.bool_congr ?_ | refine AV.str_congr ?_ | refine AV.list_congr ?_ | refine AV.bsl_congr ?_ ?_ | (apply rfl)
        · rw [e0, acc_snoc]
        · rw [wrap64 (by omega) (by omega)]; rfl
        · show (accFr o ++ tFct.fr (l.getD (i : Int).toNat default)).set 0 (_, _, (tks tFct o 1).length + 1) = _
          rw [snoc, e0]
    · have he : l.getD i default = f := by rw [e0] at hc; exact (cmpF_cmp.zero _ _).1 hc
      rw [if_neg (by rw [he, flt_sto.irrefl]; simp), if_neg (by rw [he, flt_sto.irrefl]; simp)] at h3
      repeat' first
        | contradiction | exact trivial
        | (conv => whnf
           first | refine Need.mk (fun h => h) ?_ | refine Need.mk rfl ?_ | refine Need.mk ⟨rfl, Nat.le_of_ble_eq_true rfl⟩ ?_ | refine Need.mk (Nat.le_of_ble_eq_true rfl) ?_ | refine Need.fin ?_ | refine Need.mk ?_ ?_ | refine Ix.strsF rfl ?_ | refine Ix.strs rfl ?_ ?_ | refine Cut.strs rfl ?_ ?_ | refine Ix.mapF (fun _ => rfl) ?_ | refine Ix.map (fun _ => rfl) ?_ ?_ | refine Cut.map (fun _ => rfl) ?_ ?_ | refine Fork.yes (by assumption) ?_ | refine Fork.no (by assumption) ?_ | refine Fork.decYes (by omega) ?_ | refine Fork.decNo (by omega) ?_ | refine Fork.dec (fun _ => ?_) (fun _ => ?_) | refine Fork.bne (fun _ => ?_) (fun _ => ?_) | refine Fork.beq (fun _ => ?_) (fun _ => ?_) | refine Fork.seq (fun _ => ?_) (fun _ => ?_) | refine Fork.sne (fun _ => ?_) (fun _ => ?_) | refine Fork.neg (fun _ => ?_) (fun _ => ?_) | refine Fork.mk (fun _ => ?_) (fun _ => ?_) | refine HAlt.mk ?_ ?_ | apply HJoin.mk3 | exact HEnd.mk rfl rfl rfl | refine HEnd.mk ?_ ?_ ?_ | refine Round.mk ?_ | refine NilQ.mk (fun b hb => ?_) | refine forceK_of ?_ | refine forceBx_of ?_ | refine unG_old ?_ | refine unG_gv ?_ | refine Lit.read rfl ?_ | refine FinVal.keep ?_ | refine FinAgg.keep ?_ | refine Final.mk rfl rfl | refine Final.mk ?_ rfl | refine Final.mk ?_ ?_ | refine FinalT.mk ?_ ?_ | refine FinalC.allA ?_ | refine ACall.mkFct _ _ (sCopy.ret _ ?_) (by repeat' first | exact SeesL.nil | refine SeesL.cons ?_ ?_ | exact SeesB.of0 (Sees0.val _) | exact SeesB.of0 (Sees0.str _) | exact SeesB.of0 (Sees0.olds _ _) | exact SeesB.of0 (Sees0.old _) | exact SeesB.of0 (Sees0.oldagg _) | exact SeesB.of0 Sees0.nil | exact Sees0.val _ | exact Sees0.str _ | exact Sees0.olds _ _ | exact Sees0.old _ | exact Sees0.oldagg _ | exact Sees0.nil | exact SeesB.of0 (Sees0.any _) | assumption | exact sees_gv _ _ _ (by assumption) (by first | assumption | exact BoxIn.last _ _ | exact BoxIn.more (BoxIn.last _ _) _) | refine SeesB.agg ?_ | refine Sees0.agg ?_ | exact SeesB.of0 (Sees0.clo SeesL.nil SeesL.nil) | exact Sees0.clo SeesL.nil SeesL.nil | exact SeesB.of0 (Sees0.list rfl) | exact Sees0.list rfl) ?_ | refine ACall.scalA _ _ (sCompareFacts.ret _ _ ?_ ?_) rfl ?_ | refine AQCall.mkA _ _ (fun hg => sCompareFacts.ret _ _ ?_ ?_) rfl ?_ | refine AGCall.mkA _ _ (fun hg => sCompareFacts.ret _ _ ?_ ?_) rfl ?_)
        | refine AV.bool_congr ?_ | refine AV.int_congr ?_ | refine AV.str_congr ?_ | refine AV.list_congr ?_ | with_reducible rfl | refine fr1 ?_ | refine fr2 ?_ ?_
      all_goals try exact hle' _
      all_goals try exact h'
      · rw [length_tks]
      · intro c hc; rw [List.mem_singleton.1 hc]; exact tFct.htk _ _
      · rw [length_tks]; simp only [List.length_singleton]; exact app _ (by omega)
      · refine ⟨(i + 1, o ++ [l.getD i default], true), ⟨by omega, ⟨by simp; omega, by simp⟩, by simpa using h3⟩, ?_, by simp only; omega⟩
        repeat' first
          | exact trivial | refine Weak.mk ?_ ?_ ?_ ?_ (Or.inl (Nat.le_of_ble_eq_true rfl)) | refine Weak.mk ?_ ?_ ?_ ?_ (Or.inr ⟨(by repeat' first | exact trivial | exact Nat.le_of_ble_eq_true rfl | refine And.intro ?_ ?_), (by repeat' first | exact trivial | exact Nat.le_of_ble_eq_true rfl | refine And.intro ?_ ?_)⟩) | refine Weak.mk ?_ ?_ ?_ ?_ ?_ | refine And.intro ?_ ?_ | with_reducible rfl | exact Nat.le_of_ble_eq_true rfl | refine fr1 ?_ | refine fr2 ?_ ?_ | refine AV.int_congr ?_ | refine AV.bool_congr ?_ | refine AV.str_congr ?_ | refine AV.list_congr ?_ | refine AV.bsl_congr ?_ ?_ | (apply rfl)
        · rw [e0, acc_snoc]
        · rw [wrap64 (by omega) (by omega)]; rfl
        · show (accFr o ++ tFct.fr (l.getD (i : Int).toNat default)).set 0 (_, _, (tks tFct o 1).length + 1) = _
          rw [snoc, e0]
    · have hl0 : flt (l.getD i default) f = false := by rw [e0] at hc; simp only [flt, ltC, decide_eq_false_iff_not]; omega
      have hl1 : flt f (l.getD i default) = true := by rw [e0] at hc; have := (cmpF_cmp.anti f (l.getD i default)); simp only [flt, ltC, decide_eq_true_eq]; omega
      rw [if_neg (by rw [hl0]; simp), if_pos hl1] at h3
      repeat' first
        | contradiction | exact trivial
        | (conv => whnf
           first | refine Need.mk (fun h => h) ?_ | refine Need.mk rfl ?_ | refine Need.mk ⟨rfl, Nat.le_of_ble_eq_true rfl⟩ ?_ | refine Need.mk (Nat.le_of_ble_eq_true rfl) ?_ | refine Need.fin ?_ | refine Need.mk ?_ ?_ | refine Ix.strsF rfl ?_ | refine Ix.strs rfl ?_ ?_ | refine Cut.strs rfl ?_ ?_ | refine Ix.mapF (fun _ => rfl) ?_ | refine Ix.map (fun _ => rfl) ?_ ?_ | refine Cut.map (fun _ => rfl) ?_ ?_ | refine Fork.yes (by assumption) ?_ | refine Fork.no (by assumption) ?_ | refine Fork.decYes (by omega) ?_ | refine Fork.decNo (by omega) ?_ | refine Fork.dec (fun _ => ?_) (fun _ => ?_) | refine Fork.bne (fun _ => ?_) (fun _ => ?_) | refine Fork.beq (fun _ => ?_) (fun _ => ?_) | refine Fork.seq (fun _ => ?_) (fun _ => ?_) | refine Fork.sne (fun _ => ?_) (fun _ => ?_) | refine Fork.neg (fun _ => ?_) (fun _ => ?_) | refine Fork.mk (fun _ => ?_) (fun _ => ?_) | refine HAlt.mk ?_ ?_ | apply HJoin.mk3 | exact HEnd.mk rfl rfl rfl | refine HEnd.mk ?_ ?_ ?_ | refine Round.mk ?_ | refine NilQ.mk (fun b hb => ?_) | refine forceK_of ?_ | refine forceBx_of ?_ | refine unG_old ?_ | refine unG_gv ?_ | refine Lit.read rfl ?_ | refine FinVal.keep ?_ | refine FinAgg.keep ?_ | refine Final.mk rfl rfl | refine Final.mk ?_ rfl | refine Final.mk ?_ ?_ | refine FinalT.mk ?_ ?_ | refine FinalC.allA ?_ | refine ACall.mkFct _ _ (sCopy.ret _ ?_) (by repeat' first | exact SeesL.nil | refine SeesL.cons ?_ ?_ | exact SeesB.of0 (Sees0.val _) | exact SeesB.of0 (Sees0.str _) | exact SeesB.of0 (Sees0.olds _ _) | exact SeesB.of0 (Sees0.old _) | exact SeesB.of0 (Sees0.oldagg _) | exact SeesB.of0 Sees0.nil | exact Sees0.val _ | exact Sees0.str _ | exact Sees0.olds _ _ | exact Sees0.old _ | exact Sees0.oldagg _ | exact Sees0.nil | exact SeesB.of0 (Sees0.any _) | assumption | exact sees_gv _ _ _ (by assumption) (by first | assumption | exact BoxIn.last _ _ | exact BoxIn.more (BoxIn.last _ _) _) | refine SeesB.agg ?_ | refine Sees0.agg ?_ | exact SeesB.of0 (Sees0.clo SeesL.nil SeesL.nil) | exact Sees0.clo SeesL.nil SeesL.nil | exact SeesB.of0 (Sees0.list rfl) | exact Sees0.list rfl) ?_ | refine ACall.scalA _ _ (sCompareFacts.ret _ _ ?_ ?_) rfl ?_ | refine AQCall.mkA _ _ (fun hg => sCompareFacts.ret _ _ ?_ ?_) rfl ?_ | refine AGCall.mkA _ _ (fun hg => sCompareFacts.ret _ _ ?_ ?_) rfl ?_)
        | refine AV.bool_congr ?_ | refine AV.int_congr ?_ | refine AV.str_congr ?_ | refine AV.list_congr ?_ | with_reducible rfl | refine fr1 ?_ | refine fr2 ?_ ?_
      all_goals try exact hle' _
      all_goals try exact h'
      · rw [length_tks]
      · intro c hc; rw [List.mem_singleton.1 hc]; exact tFct.htk _ _
      · rw [length_tks]; simp only [List.length_singleton]; exact app _ (by omega)
      · simp only [List.length_append]
      · intro c hc; rw [List.mem_singleton.1 hc]; exact tFct.htk _ _
      · simp only [List.length_append, List.length_singleton, length_tks]; exact app _ (by omega)
      · refine ⟨(i + 1, o ++ [f] ++ [l.getD i default], true), ⟨by omega, ⟨by simp; omega, by simp⟩, by simpa using h3⟩, ?_, by simp only; omega⟩
        repeat' first
          | exact trivial | refine Weak.mk ?_ ?_ ?_ ?_ (Or.inl (Nat.le_of_ble_eq_true rfl)) | refine Weak.mk ?_ ?_ ?_ ?_ (Or.inr ⟨(by repeat' first | exact trivial | exact Nat.le_of_ble_eq_true rfl | refine And.intro ?_ ?_), (by repeat' first | exact trivial | exact Nat.le_of_ble_eq_true rfl | refine And.intro ?_ ?_)⟩) | refine Weak.mk ?_ ?_ ?_ ?_ ?_ | refine And.intro ?_ ?_ | with_reducible rfl | exact Nat.le_of_ble_eq_true rfl | refine fr1 ?_ | refine fr2 ?_ ?_ | refine AV.int_congr ?_ | refine AV.bool_congr ?_ | refine AV.str_congr ?_ | refine AV.list_congr ?_ | refine AV.bsl_congr ?_ ?_ | (apply rfl)
        · show tks tFct o 1 ++ [tFct.tk f (accFr o).length] ++ [tFct.tk (l.getD (i : Int).toNat default) ((accFr o ++ tFct.fr f).set 0 (80, 2, (tks tFct o 1).length + 1)).length] = tks tFct (o ++ [f] ++ [l.getD i default]) 1
          rw [snoc, e0, acc_snoc, acc_snoc]
        · rw [wrap64 (by omega) (by omega)]; rfl
        · show ((accFr o ++ tFct.fr f).set 0 (80, 2, (tks tFct o 1).length + 1) ++ tFct.fr (l.getD (i : Int).toNat default)).set 0 (80, 2, (tks tFct o 1 ++ [tFct.tk f (accFr o).length]).length + 1) = _
          rw [snoc, e0, acc_snoc, snoc]
def addOk (l : List Fct) (f : Fct) : Bool := areF l && isFactF f && decide (findF l f 0 < 0) && !decide ((l.length : Int) = 24)
def addF (l : List Fct) (f : Fct) : List Fct := if addOk l f then ins flt f false l else l
theorem Abs.ACall.mk_acc {C : Con} {lend : Bool} {f : Nat} {vs : List AV} {b : List ABox} {fr : Fr} {k : AV → List ABox → Fr → Prop} (ys : List AV) (l : List Fct) (h : C.ret f ys (.list (some 0) (tks tFct l 1)) (accFr l)) (hv : SeesL Sees0 vs ys)
    (hk : k (.list (some (0 + fr.length)) (tks tFct l (1 + fr.length))) b (fr ++ accFr l)) : ACall C lend f vs b fr k :=
  .mk ys _ _ h hv (by rw [shift_eq, mapT, tks_sh]; exact hk)
theorem acc_ownP {mo : Bool} {P : Program} {f : Nat} {args : List AV} {l : List Fct} {v : Bool} (h : Ret mo P f args (.tup [.list (some 0) (tks tFct l 1), .val (.bool v)]) (accFr l)) : Own mo P f args (.p [fctsT l, .v (.bool v)]) := by
  obtain ⟨ts, h1, p1⟩ := tks_own tFct (accFr l) l 1 (fun i x hi => by rw [accFr, Nat.add_comm, List.getElem?_cons_succ]; exact hi)
  have h2 : OwnA (accFr l) [fctsT l, .v (.bool v)] [.list (some 0) (tks tFct l 1), .val (.bool v)] (0 :: ts ++ []) :=
    .l 80 2 _ 0 _ (by simp [accFr]) (by rw [length_tks, List.length_map]) (fun e he => by obtain ⟨a, _, rfl⟩ := List.mem_map.1 he; exact tFct.hq a) (tks_sz tFct l 1) h1 (.v _ rfl .nil)
  refine h.own _ (.p _ _ h2 .nil) ?_
  rw [List.append_nil, List.append_nil]
  refine List.nodup_cons.2 ⟨fun hm => ?_, p1.symm.nodup (List.nodup_range' _)⟩
  have := (p1.mem_iff).1 hm
  rw [List.mem_range'_1] at this
  omega
set_option maxHeartbeats 4000000 in
theorem sAddFact.own (l : List Fct) (f : Fct) (h : tFcts.size l + tFct.size f ≤ 1048576) : sAddFact.Own [.list none (facts l), .agg (oldL (tFct.q f))] (.p [fctsT (addF l f), .v (.bool (addOk l f))]) := by
  refine acc_ownP (sAddFact.of rfl ?_)
  have hc := sCopies.ret l (by omega)
  have hw := sPut2.ret l f (by omega) (by omega)
  have hf := sFindFact.ret l f (by omega) (by omega)
  have ha := sAreFacts.ret l (by omega)
  have hi := sIsFact.ret f (by omega)
  have hfl : (facts l).length = l.length := length_rows _ _
  unfold addF addOk
  cases h1 : areF l with
  | false =>
    rw [h1] at ha
    rw [if_neg (by simp)]
    repeat' first
      | contradiction | exact trivial
      | (conv => whnf
         first | refine Need.mk (fun h => h) ?_ | refine Need.mk rfl ?_ | refine Need.mk ⟨rfl, Nat.le_of_ble_eq_true rfl⟩ ?_ | refine Need.mk (Nat.le_of_ble_eq_true rfl) ?_ | refine Need.fin ?_ | refine Need.mk ?_ ?_ | refine Ix.strsF rfl ?_ | refine Ix.strs rfl ?_ ?_ | refine Cut.strs rfl ?_ ?_ | refine Ix.mapF (fun _ => rfl) ?_ | refine Ix.map (fun _ => rfl) ?_ ?_ | refine Cut.map (fun _ => rfl) ?_ ?_ | refine Fork.yes (by assumption) ?_ | refine Fork.no (by assumption) ?_ | refine Fork.decYes (by omega) ?_ | refine Fork.decNo (by omega) ?_ | refine Fork.dec (fun _ => ?_) (fun _ => ?_) | refine Fork.bne (fun _ => ?_) (fun _ => ?_) | refine Fork.beq (fun _ => ?_) (fun _ => ?_) | refine Fork.seq (fun _ => ?_) (fun _ => ?_) | refine Fork.sne (fun _ => ?_) (fun _ => ?_) | refine Fork.neg (fun _ => ?_) (fun _ => ?_) | refine Fork.mk (fun _ => ?_) (fun _ => ?_) | refine HAlt.mk ?_ ?_ | apply HJoin.mk3 | exact HEnd.mk rfl rfl rfl | refine HEnd.mk ?_ ?_ ?_ | refine Round.mk ?_ | refine NilQ.mk (fun b hb => ?_) | refine forceK_of ?_ | refine forceBx_of ?_ | refine unG_old ?_ | refine unG_gv ?_ | refine Lit.read rfl ?_ | refine FinVal.keep ?_ | refine FinAgg.keep ?_ | refine Final.mk rfl rfl | refine Final.mk ?_ rfl | refine Final.mk ?_ ?_ | refine FinalT.mk ?_ ?_ | refine FinalC.allA ?_ | refine ACall.scalA _ _ (ha) rfl ?_ | refine AQCall.mkA _ _ (fun hg => ha) rfl ?_ | refine AGCall.mkA _ _ (fun hg => ha) rfl ?_ | refine ACall.scalA _ _ (hf) rfl ?_ | refine AQCall.mkA _ _ (fun hg => hf) rfl ?_ | refine AGCall.mkA _ _ (fun hg => hf) rfl ?_ | refine ACall.scalA _ _ (hi) rfl ?_ | refine AQCall.mkA _ _ (fun hg => hi) rfl ?_ | refine AGCall.mkA _ _ (fun hg => hi) rfl ?_ | refine ACall.mk_acc _ _ (hc) (by repeat' first | exact SeesL.nil | refine SeesL.cons ?_ ?_ | exact SeesB.of0 (Sees0.val _) | exact SeesB.of0 (Sees0.str _) | exact SeesB.of0 (Sees0.olds _ _) | exact SeesB.of0 (Sees0.old _) | exact SeesB.of0 (Sees0.oldagg _) | exact SeesB.of0 Sees0.nil | exact Sees0.val _ | exact Sees0.str _ | exact Sees0.olds _ _ | exact Sees0.old _ | exact Sees0.oldagg _ | exact Sees0.nil | exact SeesB.of0 (Sees0.any _) | assumption | exact sees_gv _ _ _ (by assumption) (by first | assumption | exact BoxIn.last _ _ | exact BoxIn.more (BoxIn.last _ _) _) | refine SeesB.agg ?_ | refine Sees0.agg ?_ | exact SeesB.of0 (Sees0.clo SeesL.nil SeesL.nil) | exact Sees0.clo SeesL.nil SeesL.nil | exact SeesB.of0 (Sees0.list rfl) | exact Sees0.list rfl) ?_ | refine ACall.mk_acc _ _ (hw) (by repeat' first | exact SeesL.nil | refine SeesL.cons ?_ ?_ | exact SeesB.of0 (Sees0.val _) | exact SeesB.of0 (Sees0.str _) | exact SeesB.of0 (Sees0.olds _ _) | exact SeesB.of0 (Sees0.old _) | exact SeesB.of0 (Sees0.oldagg _) | exact SeesB.of0 Sees0.nil | exact Sees0.val _ | exact Sees0.str _ | exact Sees0.olds _ _ | exact Sees0.old _ | exact Sees0.oldagg _ | exact Sees0.nil | exact SeesB.of0 (Sees0.any _) | assumption | exact sees_gv _ _ _ (by assumption) (by first | assumption | exact BoxIn.last _ _ | exact BoxIn.more (BoxIn.last _ _) _) | refine SeesB.agg ?_ | refine Sees0.agg ?_ | exact SeesB.of0 (Sees0.clo SeesL.nil SeesL.nil) | exact Sees0.clo SeesL.nil SeesL.nil | exact SeesB.of0 (Sees0.list rfl) | exact Sees0.list rfl) ?_)
      | refine AV.bool_congr ?_ | refine AV.int_congr ?_ | refine AV.str_congr ?_ | refine AV.list_congr ?_ | with_reducible rfl | refine fr1 ?_ | refine fr2 ?_ ?_
    all_goals first
      | (exfalso; rename_i hx; simp at hx; omega)
      | (refine AV.tup2_congr rfl (AV.bool_congr ?_); simp; omega)
      | rfl
  | true =>
    rw [h1] at ha
    cases h3 : isFactF f with
    | false =>
      rw [h3] at hi
      rw [if_neg (by simp)]
      repeat' first
        | contradiction | exact trivial
        | (conv => whnf
           first | refine Need.mk (fun h => h) ?_ | refine Need.mk rfl ?_ | refine Need.mk ⟨rfl, Nat.le_of_ble_eq_true rfl⟩ ?_ | refine Need.mk (Nat.le_of_ble_eq_true rfl) ?_ | refine Need.fin ?_ | refine Need.mk ?_ ?_ | refine Ix.strsF rfl ?_ | refine Ix.strs rfl ?_ ?_ | refine Cut.strs rfl ?_ ?_ | refine Ix.mapF (fun _ => rfl) ?_ | refine Ix.map (fun _ => rfl) ?_ ?_ | refine Cut.map (fun _ => rfl) ?_ ?_ | refine Fork.yes (by assumption) ?_ | refine Fork.no (by assumption) ?_ | refine Fork.decYes (by omega) ?_ | refine Fork.decNo (by omega) ?_ | refine Fork.dec (fun _ => ?_) (fun _ => ?_) | refine Fork.bne (fun _ => ?_) (fun _ => ?_) | refine Fork.beq (fun _ => ?_) (fun _ => ?_) | refine Fork.seq (fun _ => ?_) (fun _ => ?_) | refine Fork.sne (fun _ => ?_) (fun _ => ?_) | refine Fork.neg (fun _ => ?_) (fun _ => ?_) | refine Fork.mk (fun _ => ?_) (fun _ => ?_) | refine HAlt.mk ?_ ?_ | apply HJoin.mk3 | exact HEnd.mk rfl rfl rfl | refine HEnd.mk ?_ ?_ ?_ | refine Round.mk ?_ | refine NilQ.mk (fun b hb => ?_) | refine forceK_of ?_ | refine forceBx_of ?_ | refine unG_old ?_ | refine unG_gv ?_ | refine Lit.read rfl ?_ | refine FinVal.keep ?_ | refine FinAgg.keep ?_ | refine Final.mk rfl rfl | refine Final.mk ?_ rfl | refine Final.mk ?_ ?_ | refine FinalT.mk ?_ ?_ | refine FinalC.allA ?_ | refine ACall.scalA _ _ (ha) rfl ?_ | refine AQCall.mkA _ _ (fun hg => ha) rfl ?_ | refine AGCall.mkA _ _ (fun hg => ha) rfl ?_ | refine ACall.scalA _ _ (hf) rfl ?_ | refine AQCall.mkA _ _ (fun hg => hf) rfl ?_ | refine AGCall.mkA _ _ (fun hg => hf) rfl ?_ | refine ACall.scalA _ _ (hi) rfl ?_ | refine AQCall.mkA _ _ (fun hg => hi) rfl ?_ | refine AGCall.mkA _ _ (fun hg => hi) rfl ?_ | refine ACall.mk_acc _ _ (hc) (by repeat' first | exact SeesL.nil | refine SeesL.cons ?_ ?_ | exact SeesB.of0 (Sees0.val _) | exact SeesB.of0 (Sees0.str _) | exact SeesB.of0 (Sees0.olds _ _) | exact SeesB.of0 (Sees0.old _) | exact SeesB.of0 (Sees0.oldagg _) | exact SeesB.of0 Sees0.nil | exact Sees0.val _ | exact Sees0.str _ | exact Sees0.olds _ _ | exact Sees0.old _ | exact Sees0.oldagg _ | exact Sees0.nil | exact SeesB.of0 (Sees0.any _) | assumption | exact sees_gv _ _ _ (by assumption) (by first | assumption | exact BoxIn.last _ _ | exact BoxIn.more (BoxIn.last _ _) _) | refine SeesB.agg ?_ | refine Sees0.agg ?_ | exact SeesB.of0 (Sees0.clo SeesL.nil SeesL.nil) | exact Sees0.clo SeesL.nil SeesL.nil | exact SeesB.of0 (Sees0.list rfl) | exact Sees0.list rfl) ?_ | refine ACall.mk_acc _ _ (hw) (by repeat' first | exact SeesL.nil | refine SeesL.cons ?_ ?_ | exact SeesB.of0 (Sees0.val _) | exact SeesB.of0 (Sees0.str _) | exact SeesB.of0 (Sees0.olds _ _) | exact SeesB.of0 (Sees0.old _) | exact SeesB.of0 (Sees0.oldagg _) | exact SeesB.of0 Sees0.nil | exact Sees0.val _ | exact Sees0.str _ | exact Sees0.olds _ _ | exact Sees0.old _ | exact Sees0.oldagg _ | exact Sees0.nil | exact SeesB.of0 (Sees0.any _) | assumption | exact sees_gv _ _ _ (by assumption) (by first | assumption | exact BoxIn.last _ _ | exact BoxIn.more (BoxIn.last _ _) _) | refine SeesB.agg ?_ | refine Sees0.agg ?_ | exact SeesB.of0 (Sees0.clo SeesL.nil SeesL.nil) | exact Sees0.clo SeesL.nil SeesL.nil | exact SeesB.of0 (Sees0.list rfl) | exact Sees0.list rfl) ?_)
        | refine AV.bool_congr ?_ | refine AV.int_congr ?_ | refine AV.str_congr ?_ | refine AV.list_congr ?_ | with_reducible rfl | refine fr1 ?_ | refine fr2 ?_ ?_
      all_goals first
        | (exfalso; rename_i hx; simp at hx; omega)
        | (refine AV.tup2_congr rfl (AV.bool_congr ?_); simp; omega)
        | rfl
    | true =>
      rw [h3] at hi
      by_cases h2 : findF l f 0 < 0
      · by_cases h4 : (l.length : Int) = 24
        · rw [if_neg (by simp; omega)]
          repeat' first
            | contradiction | exact trivial
            | (conv => whnf
               first | refine Need.mk (fun h => h) ?_ | refine Need.mk rfl ?_ | refine Need.mk ⟨rfl, Nat.le_of_ble_eq_true rfl⟩ ?_ | refine Need.mk (Nat.le_of_ble_eq_true rfl) ?_ | refine Need.fin ?_ | refine Need.mk ?_ ?_ | refine Ix.strsF rfl ?_ | refine Ix.strs rfl ?_ ?_ | refine Cut.strs rfl ?_ ?_ | refine Ix.mapF (fun _ => rfl) ?_ | refine Ix.map (fun _ => rfl) ?_ ?_ | refine Cut.map (fun _ => rfl) ?_ ?_ | refine Fork.yes (by assumption) ?_ | refine Fork.no (by assumption) ?_ | refine Fork.decYes (by omega) ?_ | refine Fork.decNo (by omega) ?_ | refine Fork.dec (fun _ => ?_) (fun _ => ?_) | refine Fork.bne (fun _ => ?_) (fun _ => ?_) | refine Fork.beq (fun _ => ?_) (fun _ => ?_) | refine Fork.seq (fun _ => ?_) (fun _ => ?_) | refine Fork.sne (fun _ => ?_) (fun _ => ?_) | refine Fork.neg (fun _ => ?_) (fun _ => ?_) | refine Fork.mk (fun _ => ?_) (fun _ => ?_) | refine HAlt.mk ?_ ?_ | apply HJoin.mk3 | exact HEnd.mk rfl rfl rfl | refine HEnd.mk ?_ ?_ ?_ | refine Round.mk ?_ | refine NilQ.mk (fun b hb => ?_) | refine forceK_of ?_ | refine forceBx_of ?_ | refine unG_old ?_ | refine unG_gv ?_ | refine Lit.read rfl ?_ | refine FinVal.keep ?_ | refine FinAgg.keep ?_ | refine Final.mk rfl rfl | refine Final.mk ?_ rfl | refine Final.mk ?_ ?_ | refine FinalT.mk ?_ ?_ | refine FinalC.allA ?_ | refine ACall.scalA _ _ (ha) rfl ?_ | refine AQCall.mkA _ _ (fun hg => ha) rfl ?_ | refine AGCall.mkA _ _ (fun hg => ha) rfl ?_ | refine ACall.scalA _ _ (hf) rfl ?_ | refine AQCall.mkA _ _ (fun hg => hf) rfl ?_ | refine AGCall.mkA _ _ (fun hg => hf) rfl ?_ | refine ACall.scalA _ _ (hi) rfl ?_ | refine AQCall.mkA _ _ (fun hg => hi) rfl ?_ | refine AGCall.mkA _ _ (fun hg => hi) rfl ?_ | refine ACall.mk_acc _ _ (hc) (by repeat' first | exact SeesL.nil | refine SeesL.cons ?_ ?_ | exact SeesB.of0 (Sees0.val _) | exact SeesB.of0 (Sees0.str _) | exact SeesB.of0 (Sees0.olds _ _) | exact SeesB.of0 (Sees0.old _) | exact SeesB.of0 (Sees0.oldagg _) | exact SeesB.of0 Sees0.nil | exact Sees0.val _ | exact Sees0.str _ | exact Sees0.olds _ _ | exact Sees0.old _ | exact Sees0.oldagg _ | exact Sees0.nil | exact SeesB.of0 (Sees0.any _) | assumption | exact sees_gv _ _ _ (by assumption) (by first | assumption | exact BoxIn.last _ _ | exact BoxIn.more (BoxIn.last _ _) _) | refine SeesB.agg ?_ | refine Sees0.agg ?_ | exact SeesB.of0 (Sees0.clo SeesL.nil SeesL.nil) | exact Sees0.clo SeesL.nil SeesL.nil | exact SeesB.of0 (Sees0.list rfl) | exact Sees0.list rfl) ?_ | refine ACall.mk_acc _ _ (hw) (by repeat' first | exact SeesL.nil | refine SeesL.cons ?_ ?_ | exact SeesB.of0 (Sees0.val _) | exact SeesB.of0 (Sees0.str _) | exact SeesB.of0 (Sees0.olds _ _) | exact SeesB.of0 (Sees0.old _) | exact SeesB.of0 (Sees0.oldagg _) | exact SeesB.of0 Sees0.nil | exact Sees0.val _ | exact Sees0.str _ | exact Sees0.olds _ _ | exact Sees0.old _ | exact Sees0.oldagg _ | exact Sees0.nil | exact SeesB.of0 (Sees0.any _) | assumption | exact sees_gv _ _ _ (by assumption) (by first | assumption | exact BoxIn.last _ _ | exact BoxIn.more (BoxIn.last _ _) _) | refine SeesB.agg ?_ | refine Sees0.agg ?_ | exact SeesB.of0 (Sees0.clo SeesL.nil SeesL.nil) | exact Sees0.clo SeesL.nil SeesL.nil | exact SeesB.of0 (Sees0.list rfl) | exact Sees0.list rfl) ?_)
            | refine AV.bool_congr ?_ | refine AV.int_congr ?_ | refine AV.str_congr ?_ | refine AV.list_congr ?_ | with_reducible rfl | refine fr1 ?_ | refine fr2 ?_ ?_
          all_goals first
            | (exfalso; rename_i hx; simp at hx; omega)
            | (refine AV.tup2_congr rfl (AV.bool_congr ?_); simp; omega)
            | rfl
        · rw [if_pos (by simp; omega)]
          repeat' first
            | contradiction | exact trivial
            | (conv => whnf
               first | refine Need.mk (fun h => h) ?_ | refine Need.mk rfl ?_ | refine Need.mk ⟨rfl, Nat.le_of_ble_eq_true rfl⟩ ?_ | refine Need.mk (Nat.le_of_ble_eq_true rfl) ?_ | refine Need.fin ?_ | refine Need.mk ?_ ?_ | refine Ix.strsF rfl ?_ | refine Ix.strs rfl ?_ ?_ | refine Cut.strs rfl ?_ ?_ | refine Ix.mapF (fun _ => rfl) ?_ | refine Ix.map (fun _ => rfl) ?_ ?_ | refine Cut.map (fun _ => rfl) ?_ ?_ | refine Fork.yes (by assumption) ?_ | refine Fork.no (by assumption) ?_ | refine Fork.decYes (by omega) ?_ | refine Fork.decNo (by omega) ?_ | refine Fork.dec (fun _ => ?_) (fun _ => ?_) | refine Fork.bne (fun _ => ?_) (fun _ => ?_) | refine Fork.beq (fun _ => ?_) (fun _ => ?_) | refine Fork.seq (fun _ => ?_) (fun _ => ?_) | refine Fork.sne (fun _ => ?_) (fun _ => ?_) | refine Fork.neg (fun _ => ?_) (fun _ => ?_) | refine Fork.mk (fun _ => ?_) (fun _ => ?_) | refine HAlt.mk ?_ ?_ | apply HJoin.mk3 | exact HEnd.mk rfl rfl rfl | refine HEnd.mk ?_ ?_ ?_ | refine Round.mk ?_ | refine NilQ.mk (fun b hb => ?_) | refine forceK_of ?_ | refine forceBx_of ?_ | refine unG_old ?_ | refine unG_gv ?_ | refine Lit.read rfl ?_ | refine FinVal.keep ?_ | refine FinAgg.keep ?_ | refine Final.mk rfl rfl | refine Final.mk ?_ rfl | refine Final.mk ?_ ?_ | refine FinalT.mk ?_ ?_ | refine FinalC.allA ?_ | refine ACall.scalA _ _ (ha) rfl ?_ | refine AQCall.mkA _ _ (fun hg => ha) rfl ?_ | refine AGCall.mkA _ _ (fun hg => ha) rfl ?_ | refine ACall.scalA _ _ (hf) rfl ?_ | refine AQCall.mkA _ _ (fun hg => hf) rfl ?_ | refine AGCall.mkA _ _ (fun hg => hf) rfl ?_ | refine ACall.scalA _ _ (hi) rfl ?_ | refine AQCall.mkA _ _ (fun hg => hi) rfl ?_ | refine AGCall.mkA _ _ (fun hg => hi) rfl ?_ | refine ACall.mk_acc _ _ (hc) (by repeat' first | exact SeesL.nil | refine SeesL.cons ?_ ?_ | exact SeesB.of0 (Sees0.val _) | exact SeesB.of0 (Sees0.str _) | exact SeesB.of0 (Sees0.olds _ _) | exact SeesB.of0 (Sees0.old _) | exact SeesB.of0 (Sees0.oldagg _) | exact SeesB.of0 Sees0.nil | exact Sees0.val _ | exact Sees0.str _ | exact Sees0.olds _ _ | exact Sees0.old _ | exact Sees0.oldagg _ | exact Sees0.nil | exact SeesB.of0 (Sees0.any _) | assumption | exact sees_gv _ _ _ (by assumption) (by first | assumption | exact BoxIn.last _ _ | exact BoxIn.more (BoxIn.last _ _) _) | refine SeesB.agg ?_ | refine Sees0.agg ?_ | exact SeesB.of0 (Sees0.clo SeesL.nil SeesL.nil) | exact Sees0.clo SeesL.nil SeesL.nil | exact SeesB.of0 (Sees0.list rfl) | exact Sees0.list rfl) ?_ | refine ACall.mk_acc _ _ (hw) (by repeat' first | exact SeesL.nil | refine SeesL.cons ?_ ?_ | exact SeesB.of0 (Sees0.val _) | exact SeesB.of0 (Sees0.str _) | exact SeesB.of0 (Sees0.olds _ _) | exact SeesB.of0 (Sees0.old _) | exact SeesB.of0 (Sees0.oldagg _) | exact SeesB.of0 Sees0.nil | exact Sees0.val _ | exact Sees0.str _ | exact Sees0.olds _ _ | exact Sees0.old _ | exact Sees0.oldagg _ | exact Sees0.nil | exact SeesB.of0 (Sees0.any _) | assumption | exact sees_gv _ _ _ (by assumption) (by first | assumption | exact BoxIn.last _ _ | exact BoxIn.more (BoxIn.last _ _) _) | refine SeesB.agg ?_ | refine Sees0.agg ?_ | exact SeesB.of0 (Sees0.clo SeesL.nil SeesL.nil) | exact Sees0.clo SeesL.nil SeesL.nil | exact SeesB.of0 (Sees0.list rfl) | exact Sees0.list rfl) ?_)
            | refine AV.bool_congr ?_ | refine AV.int_congr ?_ | refine AV.str_congr ?_ | refine AV.list_congr ?_ | with_reducible rfl | refine fr1 ?_ | refine fr2 ?_ ?_
          all_goals first
            | (exfalso; rename_i hx; simp at hx; omega)
            | (refine AV.tup2_congr rfl (AV.bool_congr ?_); simp; omega)
            | rfl
      · rw [if_neg (by simp; omega)]
        repeat' first
          | contradiction | exact trivial
          | (conv => whnf
             first | refine Need.mk (fun h => h) ?_ | refine Need.mk rfl ?_ | refine Need.mk ⟨rfl, Nat.le_of_ble_eq_true rfl⟩ ?_ | refine Need.mk (Nat.le_of_ble_eq_true rfl) ?_ | refine Need.fin ?_ | refine Need.mk ?_ ?_ | refine Ix.strsF rfl ?_ | refine Ix.strs rfl ?_ ?_ | refine Cut.strs rfl ?_ ?_ | refine Ix.mapF (fun _ => rfl) ?_ | refine Ix.map (fun _ => rfl) ?_ ?_ | refine Cut.map (fun _ => rfl) ?_ ?_ | refine Fork.yes (by assumption) ?_ | refine Fork.no (by assumption) ?_ | refine Fork.decYes (by omega) ?_ | refine Fork.decNo (by omega) ?_ | refine Fork.dec (fun _ => ?_) (fun _ => ?_) | refine Fork.bne (fun _ => ?_) (fun _ => ?_) | refine Fork.beq (fun _ => ?_) (fun _ => ?_) | refine Fork.seq (fun _ => ?_) (fun _ => ?_) | refine Fork.sne (fun _ => ?_) (fun _ => ?_) | refine Fork.neg (fun _ => ?_) (fun _ => ?_) | refine Fork.mk (fun _ => ?_) (fun _ => ?_) | refine HAlt.mk ?_ ?_ | apply HJoin.mk3 | exact HEnd.mk rfl rfl rfl | refine HEnd.mk ?_ ?_ ?_ | refine Round.mk ?_ | refine NilQ.mk (fun b hb => ?_) | refine forceK_of ?_ | refine forceBx_of ?_ | refine unG_old ?_ | refine unG_gv ?_ | refine Lit.read rfl ?_ | refine FinVal.keep ?_ | refine FinAgg.keep ?_ | refine Final.mk rfl rfl | refine Final.mk ?_ rfl | refine Final.mk ?_ ?_ | refine FinalT.mk ?_ ?_ | refine FinalC.allA ?_ | refine ACall.scalA _ _ (ha) rfl ?_ | refine AQCall.mkA _ _ (fun hg => ha) rfl ?_ | refine AGCall.mkA _ _ (fun hg => ha) rfl ?_ | refine ACall.scalA _ _ (hf) rfl ?_ | refine AQCall.mkA _ _ (fun hg => hf) rfl ?_ | refine AGCall.mkA _ _ (fun hg => hf) rfl ?_ | refine ACall.scalA _ _ (hi) rfl ?_ | refine AQCall.mkA _ _ (fun hg => hi) rfl ?_ | refine AGCall.mkA _ _ (fun hg => hi) rfl ?_ | refine ACall.mk_acc _ _ (hc) (by repeat' first | exact SeesL.nil | refine SeesL.cons ?_ ?_ | exact SeesB.of0 (Sees0.val _) | exact SeesB.of0 (Sees0.str _) | exact SeesB.of0 (Sees0.olds _ _) | exact SeesB.of0 (Sees0.old _) | exact SeesB.of0 (Sees0.oldagg _) | exact SeesB.of0 Sees0.nil | exact Sees0.val _ | exact Sees0.str _ | exact Sees0.olds _ _ | exact Sees0.old _ | exact Sees0.oldagg _ | exact Sees0.nil | exact SeesB.of0 (Sees0.any _) | assumption | exact sees_gv _ _ _ (by assumption) (by first | assumption | exact BoxIn.last _ _ | exact BoxIn.more (BoxIn.last _ _) _) | refine SeesB.agg ?_ | refine Sees0.agg ?_ | exact SeesB.of0 (Sees0.clo SeesL.nil SeesL.nil) | exact Sees0.clo SeesL.nil SeesL.nil | exact SeesB.of0 (Sees0.list rfl) | exact Sees0.list rfl) ?_ | refine ACall.mk_acc _ _ (hw) (by repeat' first | exact SeesL.nil | refine SeesL.cons ?_ ?_ | exact SeesB.of0 (Sees0.val _) | exact SeesB.of0 (Sees0.str _) | exact SeesB.of0 (Sees0.olds _ _) | exact SeesB.of0 (Sees0.old _) | exact SeesB.of0 (Sees0.oldagg _) | exact SeesB.of0 Sees0.nil | exact Sees0.val _ | exact Sees0.str _ | exact Sees0.olds _ _ | exact Sees0.old _ | exact Sees0.oldagg _ | exact Sees0.nil | exact SeesB.of0 (Sees0.any _) | assumption | exact sees_gv _ _ _ (by assumption) (by first | assumption | exact BoxIn.last _ _ | exact BoxIn.more (BoxIn.last _ _) _) | refine SeesB.agg ?_ | refine Sees0.agg ?_ | exact SeesB.of0 (Sees0.clo SeesL.nil SeesL.nil) | exact Sees0.clo SeesL.nil SeesL.nil | exact SeesB.of0 (Sees0.list rfl) | exact Sees0.list rfl) ?_)
          | refine AV.bool_congr ?_ | refine AV.int_congr ?_ | refine AV.str_congr ?_ | refine AV.list_congr ?_ | with_reducible rfl | refine fr1 ?_ | refine fr2 ?_ ?_
        all_goals first
          | (exfalso; rename_i hx; simp at hx; omega)
          | (refine AV.tup2_congr rfl (AV.bool_congr ?_); simp; omega)
          | rfl
end Go.Proofs.Ytimcfgokocihnaa
namespace Go.Proofs.Ytimcfgokocihnaa
open Abs
theorem SeesB.strs {bx : List ABox} {j t : Nat} {l : List Str} (hj : bx[j]? = some (.cells (.row t 1) (strs l).flatten)) : SeesB bx (.bsl j l.length) (.list none (Abs.strs l)) := by
  refine SeesB.bsl hj (by simp) (strs_sz l) ?_
  rw [strs_eq]
  clear hj
  induction l with
  | nil => exact .nil
  | cons s l ih => exact .cons (SeesB.of0 (Sees0.str s)) ih
theorem inBL_of {m : Nat} : ∀ {cs : List AV}, (∀ c ∈ cs, inB m c) → inB.inBL m cs
  | [], _ => trivial
  | c :: cs, h => ⟨h c (by simp), inBL_of fun d hd => h d (by simp [hd])⟩
end Go.Proofs.Ytimcfgokocihnaa
namespace Go.Proofs.Ytimcfgokocihnaa
namespace Abs
open Go.ChangeShapes Go.WideShapes Go.RowKit
def clF (P : Program) (g : TypeId → Option (List Cl)) : Nat → List Field → Option (List Cl)
  | _, [] => some []
  | off, f :: fs => match g f.type with
    | some cs => if f.offset = off ∧ cs.length = P.cellsOf f.type then
        (match clF P g (off + cs.length) fs with | some r => some (cs ++ r) | none => none) else none
    | none => none
def clOf (P : Program) : Nat → TypeId → Option (List Cl)
  | 0, _ => none
  | n + 1, t => match P.underlying t with
    | some .string => some [.str]
    | some .bool => some [.bool]
    | some (.int k) => some [.int k]
    | some (.slice e) => match clOf P n e with
      | some cs => if cs.length = P.cellsOf e ∧ 0 < P.cellsOf e then some [.sl e (P.cellsOf e) cs] else none
      | none => none
    | some (.struct fs) => match clF P (clOf P n) 0 fs.toList with
      | some cs => if cs.length = P.cellsOf t then some cs else none
      | none => none
    | _ => none
theorem Both.app {R : AV → Value → Prop} {xs ys : List AV} {us vs : List Value} (h : Both R xs us) (h' : Both R ys vs) : Both R (xs ++ ys) (us ++ vs) := by
  refine ⟨by simp [h.1, h'.1], fun i x v hx hv => ?_⟩
  rw [List.getElem?_append] at hx hv
  rw [h.1] at hx
  split at hx
  · rename_i hi; rw [if_pos hi] at hv; exact h.2 i x v hx hv
  · rename_i hi; rw [if_neg hi] at hv; exact h'.2 _ x v hx hv
/-- the cells of all blocks that are there -/
def allF (w : World) (b : Nat) : Nat := match w.heap[b]? with | some (.cells c _ _) => c.size | _ => 0
theorem allF_out (w : World) (b : Nat) (h : w.heap.size ≤ b) : allF w b = 0 := by
  unfold allF; rw [Array.getElem?_eq_none h]
section
variable {H : Type} {enc : TypeId × Value → H} {P : Program} {w : World} {base : Nat} {spare : Nat → Bool} {held : Bool}
def Opens (B : Nat) (w : World) (cls : List Cl) (cs : List Value) : Prop :=
  ∃ trs, FitsL cls trs ∧ Both (Rep B w (allF w) [] [] []) (oldL trs) cs ∧ ∀ v ∈ cs, v.oneCell' = true
theorem Opens.one {B : Nat} {cl : Cl} {v : Value} (x : Tr) (h : FitsL [cl] [x]) (hr : Rep B w (allF w) [] [] [] (old x) v) (h1 : v.oneCell' = true) : Opens B w [cl] [v] :=
  ⟨[x], h, Both.cons.2 ⟨hr, rfl, by simp [oldL]⟩, by simp [h1]⟩
theorem open_fields {fuel : Nat} {cs : List Value} (B : Nat) (g : TypeId → Option (List Cl))
    (ih : ∀ t cs x cls, g t = some cls → DataW.trod enc P w base spare held fuel t cs = some x → Opens B w cls cs) :
    ∀ (fs : List Field) (off : Nat) (cls : List Cl), clF P g off fs = some cls → (∀ f ∈ fs, ∃ x, DataW.trod enc P w base spare held fuel f.type ((cs.drop f.offset).take (P.cellsOf f.type)) = some x) →
      Opens B w cls ((cs.drop off).take cls.length)
  | [], off, cls, h, _ => by
    simp only [clF, Option.some.injEq] at h
    subst h
    exact ⟨[], .nil, by simp [Both, oldL], by simp⟩
  | f :: fs, off, cls, h, hx => by
    unfold clF at h
    cases hg : g f.type with
    | none => rw [hg] at h; cases h
    | some c =>
      rw [hg] at h
      simp only at h
      split at h
      · rename_i hc
        obtain ⟨rfl, hc⟩ := hc
        cases hr : clF P g (f.offset + c.length) fs with
        | none => rw [hr] at h; cases h
        | some r =>
          rw [hr] at h
          simp only [Option.some.injEq] at h
          subst h
          obtain ⟨x, hx1⟩ := hx f (by simp)
          obtain ⟨t1, f1, b1, o1⟩ := ih _ _ _ _ hg hx1
          obtain ⟨t2, f2, b2, o2⟩ := open_fields B g ih fs _ r hr (fun f' hf' => hx f' (by simp [hf']))
          have hsplit : (cs.drop f.offset).take (c ++ r).length = (cs.drop f.offset).take c.length ++ (cs.drop (f.offset + c.length)).take r.length := by
            rw [List.length_append, List.take_add, List.drop_drop]
          rw [hsplit, hc]
          rw [hc] at b2 o2
          refine ⟨t1 ++ t2, f1.append f2, ?_, fun v hv => ?_⟩
          · rw [oldL_eq, List.map_append, ← oldL_eq, ← oldL_eq]; exact b1.app b2
          · rcases List.mem_append.1 hv with h | h
            · exact o1 v h
            · exact o2 v h
      · cases h
theorem open_cells (B : Nat) : ∀ (n fuel : Nat) (t : TypeId) (cs : List Value) (x : DataW H × List MemPlace) (cls : List Cl), clOf P n t = some cls → DataW.trod enc P w base spare held fuel t cs = some x → Opens B w cls cs
  | 0, _, _, _, _, _, h, _ => by cases h
  | n + 1, fuel, t, cs, x, cls, h, hx => by
    unfold clOf at h
    cases ht : P.underlying t with
    | none => rw [ht] at h; cases h
    | some u =>
      rw [ht] at h
      cases u with
      | string =>
        simp only [Option.some.injEq] at h; subst h
        obtain ⟨s, rfl, _, hs⟩ := DataW.trod_string ht hx
        exact Opens.one (.s s.data.toList) (.str _ hs .nil) (rep_string s) rfl
      | bool =>
        simp only [Option.some.injEq] at h; subst h
        cases fuel with
        | zero => simp [DataW.trod] at hx
        | succ m =>
          unfold DataW.trod at hx
          rw [ht] at hx
          split at hx <;> simp_all
          exact Opens.one (.v (.bool _)) (.bool _ .nil) (.val _) rfl
      | int k =>
        simp only [Option.some.injEq] at h; subst h
        obtain ⟨m, rfl, _, hm⟩ := DataW.trod_int ht hx
        exact Opens.one (.v (.int k m)) (.int _ _ hm .nil) (.val _) rfl
      | slice e =>
        simp only at h
        cases hc : clOf P n e with
        | none => rw [hc] at h; cases h
        | some c =>
          rw [hc] at h
          simp only at h
          split at h
          · rename_i hsz
            obtain ⟨hsz, hpos⟩ := hsz
            simp only [Option.some.injEq] at h; subst h
            rcases Go.Deep.open_slice ht hx with ⟨rfl, _⟩ | ⟨a, len, cap, m, k, D, Pl, rfl, _, hl, hm, hmm, _, hel⟩
            · refine Opens.one (.l e (P.cellsOf e) []) (.sl _ _ _ [] (Nat.zero_le _) hsz (by simp) .nil) ?_ rfl
              exact .list none [] none 0 0 0 0 (fun _ _ => undef) (Nat.le_refl _) (fun h => absurd rfl h) (by simp) (fun h => absurd rfl h) (by simp) (by simp) (fun k hk => by cases hk)
            · have hlm : len ≤ m := by rw [hmm]; split <;> omega
              obtain ⟨T, hT⟩ := Go.Deep.choose_lt (α := List Value × List Tr) (n := len) (p := fun i q => w.cells? base (a.add (i * P.cellsOf e)) (P.cellsOf e) = some q.1 ∧ FitsL c q.2 ∧
                  Both (Rep B w (allF w) [] [] []) (oldL q.2) q.1 ∧ ∀ v ∈ q.1, v.oneCell' = true) (fun i hi => by
                obtain ⟨cs', h1, h2⟩ := hel i (by omega)
                obtain ⟨trs, h3, h4, h5⟩ := open_cells B n k e cs' _ c hc h2
                exact ⟨(cs', trs), h1, h3, h4, h5⟩)
              have hlen : ((List.range len).map fun i => (T i).2).length = len := by simp
              refine Opens.one (.l e (P.cellsOf e) ((List.range len).map fun i => (T i).2)) (.sl _ _ _ _ (by rw [hlen]; omega) hsz (fun x hx => ?_) .nil) ?_ rfl
              · obtain ⟨i, hi, rfl⟩ := List.mem_map.1 hx
                exact (hT i (List.mem_range.1 hi)).2.1
              · have hol : (oldLL ((List.range len).map fun i => (T i).2)).length = len := by rw [length_oldLL, hlen]
                have hget : ∀ i e', (oldLL ((List.range len).map fun i => (T i).2))[i]? = some e' → i < len ∧ e' = oldL (T i).2 := by
                  intro i e' he
                  have hi : i < len := by have := getElem?_lt he; omega
                  rw [oldLL_eq] at he
                  simp [hi] at he
                  exact ⟨hi, by rw [oldL_eq]; exact he.symm⟩
                have hlenT : ∀ i, i < len → (oldL (T i).2).length = P.cellsOf e := fun i hi => by rw [oldL_eq, List.length_map, (hT i hi).2.1.length, hsz]
                have hcell : ∀ i j, i < len → j < P.cellsOf e → w.cell? ⟨a.block, a.off + i * P.cellsOf e + j, none⟩ = (T i).1[j]? ∧ a.spot = none := by
                  intro i j hi hj
                  obtain ⟨_, hl', hc'⟩ := World.cells?_some (hT i hi).1
                  have h0 : a.spot = none := by
                    obtain ⟨_, hl0, hc0⟩ := World.cells?_some (hT 0 (by omega)).1
                    have := hc0 0 hpos
                    rw [List.getElem?_eq_getElem (by omega)] at this
                    simp only [Nat.zero_mul, Addr.add, if_true] at this
                    unfold World.cell? at this
                    cases hs : a.spot with
                    | none => rfl
                    | some _ => rw [hs] at this; split at this <;> simp at this
                  refine ⟨?_, h0⟩
                  rw [← hc' j hj, Go.Deep.add_add]
                  unfold Addr.add
                  split
                  · rename_i hz
                    rw [show a.off + i * P.cellsOf e + j = a.off by omega]
                    cases a; simp only at h0; subst h0; rfl
                  · rw [Nat.add_assoc]
                have hrep := Rep.list (B := B) (w := w) (F := allF w) (tok := []) (fr := []) (box := []) none (oldLL ((List.range len).map fun i => (T i).2)) (some a) cap (P.cellsOf e) a.block a.off
                  (fun i j => (T i).1.getD j undef) (by rw [hol]; exact hl)
                  (fun hne => by
                    have : 0 < len := by
                      rcases Nat.eq_zero_or_pos len with h0 | h0
                      · subst h0; exact absurd rfl hne
                      · exact h0
                    have := (hcell 0 0 this hpos).2
                    cases a; simp only at this; subst this; rfl)
                  (fun e' he' => by
                    obtain ⟨i, hi⟩ := List.getElem?_of_mem he'
                    obtain ⟨h1, h2⟩ := hget i e' hi
                    rw [h2]; exact hlenT i h1)
                  (fun hne => by
                    have h0 : 0 < len := by
                      rcases Nat.eq_zero_or_pos len with h0 | h0
                      · subst h0; exact absurd rfl hne
                      · exact h0
                    rw [hol]
                    have hc := (hcell (len - 1) (P.cellsOf e - 1) (by omega) (by omega)).1
                    have hl1 : (T (len - 1)).1.length = P.cellsOf e := (World.cells?_some (hT (len - 1) (by omega)).1).2.1
                    rw [List.getElem?_eq_getElem (by omega)] at hc
                    unfold World.cell? at hc
                    unfold allF
                    simp only at hc
                    split at hc
                    · simp only [Option.isSome_none, Bool.false_eq_true, if_false] at hc
                      have hlt := (Array.getElem?_eq_some_iff.1 hc).1
                      have hmul : (len - 1) * P.cellsOf e + P.cellsOf e = len * P.cellsOf e := by
                        obtain ⟨q, rfl⟩ : ∃ q, len = q + 1 := ⟨len - 1, by omega⟩
                        rw [Nat.add_sub_cancel, Nat.add_mul]; omega
                      rename_i he
                      rw [he]
                      simp only
                      omega
                    · cases hc)
                  (fun i e' j c' hi hj => by
                    obtain ⟨h1, rfl⟩ := hget i e' hi
                    have hj' := getElem?_lt hj
                    rw [hlenT i h1] at hj'
                    have hl1 : (T i).1.length = P.cellsOf e := (World.cells?_some (hT i h1).1).2.1
                    have hg : (T i).1[j]? = some ((T i).1.getD j undef) := by simp [List.getD, hl1, hj']
                    exact ⟨by rw [(hcell i j h1 hj').1, hg], (hT i h1).2.2.2 _ (List.mem_of_getElem? hg)⟩)
                  (fun i e' j c' hi hj => by
                    obtain ⟨h1, rfl⟩ := hget i e' hi
                    have hj' := getElem?_lt hj
                    rw [hlenT i h1] at hj'
                    have hl1 : (T i).1.length = P.cellsOf e := (World.cells?_some (hT i h1).1).2.1
                    have hg : (T i).1[j]? = some ((T i).1.getD j undef) := by simp [List.getD, hl1, hj']
                    exact (hT i h1).2.2.1.2 j c' _ hj hg)
                  (fun k hk => by cases hk)
                rw [hol] at hrep
                exact hrep
          · cases h
      | struct fs =>
        simp only at h
        cases hc : clF P (clOf P n) 0 fs.toList with
        | none => rw [hc] at h; cases h
        | some c =>
          rw [hc] at h
          simp only at h
          split at h
          · rename_i hsz
            simp only [Option.some.injEq] at h; subst h
            obtain ⟨xs, m, rfl, _, hl, hfl, hel⟩ := DataW.trod_struct ht hx
            have := open_fields (fuel := m) (cs := cs) B (clOf P n) (fun t cs x cls h1 h2 => open_cells B n m t cs x cls h1 h2) fs.toList 0 c hc (fun f hf => by
              obtain ⟨i, hi⟩ := List.getElem?_of_mem hf
              have hi' : fs[i]? = some f := by simpa using hi
              have := hel i f hi'
              have hlt : i < xs.length := by have := getElem?_lt hi; simp at this; omega
              exact ⟨_, by rw [this, List.getElem?_eq_getElem hlt]⟩)
            rw [List.drop_zero, hsz, ← hl, List.take_length] at this
            exact this
          · cases h
      | _ => simp only at h; cases h
/-- an argument that is no struct -/
theorem open_arg {t : TypeId} {v : Value} {d : DataW H} {ps : List MemPlace} {r : Reach} {b0 : Nat} (B n : Nat) {cl : Cl} (hc : clOf P n t = some [cl]) (hs : ∀ fs, P.underlying t ≠ some (.struct fs)) (hval : Value.okWide P w r b0 t v)
    (h : DataW.Trod enc P w base spare held t v d ps) : ∃ x, FitsL [cl] [x] ∧ Rep B w (allF w) [] [] [] (old x) v := by
  obtain ⟨fuel, h⟩ := h
  obtain ⟨trs, h1, h2, h3⟩ := open_cells B n fuel t _ _ _ hc h
  have hv : v.cells.toList = [v] := by
    cases v with
    | agg cs =>
      exfalso
      unfold Value.okWide at hval
      cases n with
      | zero => cases hc
      | succ n =>
        unfold clOf at hc
        cases hu : P.underlying t with
        | none => rw [hu] at hc; cases hc
        | some u =>
          rw [hu] at hc hval hs
          cases u <;> first | cases hc; done | exact absurd rfl (hs _) | (simp only [Cell.okWide, hu, Cell.ok] at hval)
    | _ => rfl
  rw [hv] at h2
  cases trs with
  | nil => exact absurd h1.length (by simp)
  | cons x xs =>
    cases xs with
    | cons _ _ => exact absurd h1.length (by simp)
    | nil => exact ⟨x, h1, (Both.cons.1 h2).1⟩
/-- an argument that is a struct -/
theorem open_argS {t : TypeId} {v : Value} {d : DataW H} {ps : List MemPlace} {r : Reach} {b0 : Nat} (B n : Nat) {cls : List Cl} (hc : clOf P n t = some cls) {fs : Array Field} (hs : P.underlying t = some (.struct fs)) (hval : Value.okWide P w r b0 t v)
    (h : DataW.Trod enc P w base spare held t v d ps) : ∃ xs, FitsL cls xs ∧ Rep B w (allF w) [] [] [] (old (.a xs)) v := by
  obtain ⟨fuel, h⟩ := h
  obtain ⟨trs, h1, h2, h3⟩ := open_cells B n fuel t _ _ _ hc h
  unfold Value.okWide at hval
  rw [hs] at hval
  obtain ⟨cs, rfl, _, _⟩ := hval
  refine ⟨trs, h1, ?_⟩
  have hg : ∀ i, i < cs.size → cs.toList[i]? = some (cs.getD i undef) := fun i hi => by simp [Array.getD, hi]
  have hl : (oldL trs).length = cs.size := by have := h2.1; simpa [Value.cells] using this
  exact .agg _ _ hl (fun i hi => h3 _ (List.mem_of_getElem? (hg i hi))) (fun i c hc => h2.2 i c _ hc (hg i (by have := getElem?_lt hc; omega)))
end
end Abs
end Go.Proofs.Ytimcfgokocihnaa
namespace Go.Proofs.Ytimcfgokocihnaa
open Abs Go.RowKit Go.Sort Go.Lib Go.Shelf
/-- what has come behind a world: draws and blocks -/
theorem grow_of_bel {W w' : World} (h : Bel true W.heap.size W w') : ∃ q os', w' = grow (W.drewN q) os' := by
  refine ⟨w'.drawn - W.drawn, w'.heap.extract W.heap.size w'.heap.size, ?_⟩
  have hd := h.drawn rfl
  have hs := h.size
  have hh : w'.heap = W.heap ++ w'.heap.extract W.heap.size w'.heap.size := by
    apply Array.ext
    · simp; omega
    · intro i h1 h2
      by_cases hi : i < W.heap.size
      · rw [Array.getElem_append_left hi]
        have := h.block i hi
        rw [Array.getElem?_eq_getElem h1, Array.getElem?_eq_getElem hi] at this
        exact Option.some.inj this
      · rw [Array.getElem_append_right (by omega), Array.getElem_extract]
        congr 1; omega
  have e1 := h.os
  have e2 := h.tape
  have e3 := h.output
  cases w' with
  | mk heap tape drawn os output =>
    simp only [grow, World.drewN] at *
    rw [← hh, e1, e2, e3]
    congr 1; omega
/-- one row has been turned: the boxes -/
theorem boxes_row {w w' : World} {F : Nat → Nat} {box0 : List BId} {b0 : List ABox} (hout : ∀ b, w.heap.size ≤ b → F b = 0)
    (hbi : ∀ (j b c : Nat), box0[j]? = some (.blk b c) → b < w.heap.size ∧ (live b0 j → F b = 0))
    (hbj : ∀ (i j b c c' : Nat), box0[i]? = some (.blk b c) → box0[j]? = some (.blk b c') → live b0 i → live b0 j → i = j)
    (hB : BoxesOk w.heap.size w F [] [] box0 b0) {j blk cap : Nat} {k : RK} {cs cs' : List AV} (hj : box0[j]? = some (.blk blk cap)) (hl : b0[j]? = some (.cells k cs))
    (hk : ∀ k, k < w.heap.size → k ≠ blk → w'.heap[k]? = w.heap[k]?)
    (hx : (∀ y v, Rep w.heap.size w F [] [] box0 y v → Rep w.heap.size w' F [] [] box0 y v) → BoxOk w.heap.size w' F [] [] box0 (.blk blk cap) (.cells k cs')) :
    (∀ y v, Rep w.heap.size w F [] [] box0 y v → Rep w.heap.size w' F [] [] box0 y v) ∧ BoxesOk w.heap.size w' F [] [] box0 (b0.set j (.cells k cs')) := by
  have hlive : live b0 j := fun h => by rw [hl] at h; cases h
  have hF0 := (hbi j blk cap hj).2 hlive
  have hjl := getElem?_lt hl
  have L : Later w F [] [] w' F [] [] := by
    refine ⟨fun b i hi => World.cell?_of_block (w := w) (hk b ?_ (fun h => by rw [h, hF0] at hi; omega)), fun _ => Nat.le_refl _, fun k t s n h => by simp at h⟩
    rcases Nat.lt_or_ge b w.heap.size with h | h
    · exact h
    · rw [hout b h] at hi; omega
  have later : ∀ y v, Rep w.heap.size w F [] [] box0 y v → Rep w.heap.size w' F [] [] box0 y v := fun y v h => h.later L (fun _ _ h => h)
  refine ⟨later, fun i d x hd hx' => ?_⟩
  rw [List.getElem?_set] at hx'
  by_cases hij : j = i
  · subst hij
    rw [if_pos rfl, if_pos hjl] at hx'
    rw [hj] at hd
    cases hx'; cases hd
    exact hx later
  · rw [if_neg hij] at hx'
    refine (hB i d x hd hx').later L (fun _ _ h => h) (fun b c he hnd => ?_)
    subst he
    refine hk b (hbi i b c hd).1 (fun h => ?_)
    subst h
    exact hij (hbj j i b cap c hj hd hlive (fun h => hnd (by rw [hx'] at h; exact Option.some.inj h)))
theorem flatK_toList {α : Type} [Inhabited α] (enc : α → List Value) (k : Nat) (hk : ∀ x, (enc x).length = k) (d : Array α) : (flatK enc k d).toList = (d.toList.map enc).flatten := by
  have hlen : ∀ c ∈ d.toList.map enc, c.length = k := fun c hc => by obtain ⟨a, _, rfl⟩ := List.mem_map.1 hc; exact hk a
  apply List.ext_getElem?
  intro i
  by_cases hi : i < d.size * k
  · have hk0 : 0 < k := by rcases Nat.eq_zero_or_pos k with h | h
                           · rw [h] at hi; simp at hi
                           · exact h
    have h1 : i / k < d.size := (Nat.div_lt_iff_lt_mul hk0).2 hi
    have h2 : i % k < k := Nat.mod_lt _ hk0
    have h3 : i = i / k * k + i % k := by rw [Nat.mul_comm]; exact (Nat.div_add_mod _ _).symm
    have h4 : (d.toList.map enc)[i / k]? = some (enc d[i / k]!) := by
      rw [List.getElem?_map, Array.getElem?_toList, Array.getElem?_eq_getElem h1, getElem!_pos d _ h1]; rfl
    have h5 : (enc d[i / k]!)[i % k]? = some ((enc d[i / k]!)[i % k]!) := by
      have : i % k < (enc d[i / k]!).length := by rw [hk]; exact h2
      rw [List.getElem?_eq_getElem this, getElem!_pos (enc d[i / k]!) _ this]
    have h6 := flatten_get k _ _ _ _ _ hlen h4 h5
    rw [← h3] at h6
    rw [h6, Array.getElem?_toList]
    have h7 : i < (flatK enc k d).size := by rw [size_flatK]; exact hi
    rw [Array.getElem?_eq_getElem h7, ← getElem!_pos (flatK enc k d) _ h7, get_flatK _ _ _ _ hi]
  · have a1 : (flatK enc k d).toList[i]? = none := List.getElem?_eq_none (by simp; omega)
    have a2 : (d.toList.map enc).flatten[i]? = none := List.getElem?_eq_none (by rw [length_flatten' k _ hlen, List.length_map]; simp; omega)
    rw [a1, a2]
theorem both_flat {ι : Type} {R : AV → Value → Prop} (f : ι → List AV) (g : ι → List Value) : ∀ l : List ι, (∀ i ∈ l, Both R (f i) (g i)) → Both R (l.map f).flatten (l.map g).flatten
  | [], _ => ⟨rfl, fun i x u h => by simp at h⟩
  | i :: l, h => by
    rw [List.map_cons, List.map_cons, List.flatten_cons, List.flatten_cons]
    exact Both.app (h i (by simp)) (both_flat f g l fun k hk => h k (by simp [hk]))
theorem getD_mem' {α : Type} [Inhabited α] {l : List α} {i : Nat} (hi : i < l.length) : l.getD i default ∈ l := by simp [List.getD, hi]
section
variable {α : Type} [Inhabited α]
/-- A sort of structs by a function of two of them, as a call to which the row is lent: the elements in another order, which is sorted. 'hS': the library's contract. -/
theorem sort_ctx {P : Program} {fS : Nat} (T : Ty α) (K t : Nat) (hK : T.sz = K) (cf : α → α → Int) (g : Nat) (hokS : okFn P fS = true)
    (b : List ABox) (j : Nat) (es : List (List AV)) (xs : List α) (hj : b[j]? = some (.cells (.row t K) es.flatten)) (hl : es.length = xs.length) (hs : ∀ e ∈ es, e.length = K) (h0 : 0 < xs.length)
    (hcmp : ∀ x ∈ xs, ∀ y ∈ xs, Abs.Ret true P g [.agg (oldL (T.q x)), .agg (oldL (T.q y))] (.val (.int .i64 (cf x y))) [])
    (hv : ∀ (i : Nat) e x, es[i]? = some e → xs[i]? = some x → ∀ bx, (∀ k, k ≠ j → bx[k]? = b[k]?) → SeesL (SeesB bx) e (oldL (T.q x)))
    (hS : ∀ (ι : Type) (_ : Inhabited ι) (enc : ι → List Value) (f : ι → α) (blk cap : Nat) (d : Array ι) (w : World), (∀ i, f i ∈ xs) → (∀ x, (enc x).length = K) → (∀ x, ∀ v ∈ enc x, v.oneCell' = true) → d.size = xs.length →
      (∀ (m : Nat) (os : Array Obj) (dk : Array ι), dk.size = d.size → ∀ x y : ι,
        Calls P g (#[.agg (enc x).toArray, .agg (enc y).toArray] ++ #[]) (sortWorldK enc K w blk 0 m dk os) fun e w' => e = .returned (.int .i64 (cf (f x) (f y))) ∧ ∃ q os', w' = grow ((sortWorldK enc K w blk 0 m dk os).drewN q) os') →
      HoldsK enc K w blk 0 d → blk < w.heap.size →
      Calls P fS #[.slice (some ⟨blk, 0, none⟩) d.size cap, .func (.func g) #[] #[]] w fun e w' =>
        e = .returned (.tuple #[]) ∧ ∃ d' n os, PermIn 0 d.size d d' ∧ SortedIn (fun x y => decide (cf (f x) (f y) < 0)) 0 d.size d' ∧ w' = sortWorldK enc K w blk 0 n d' os) :
    Abs.Ctx true P fS b [.bsl j xs.length, .clo g [] []] (fun r b1 => r = .tup [] ∧ ∃ idx : List Nat, idx.Perm (List.range xs.length) ∧
      ((idx.map fun i => xs.getD i default).Pairwise fun x y => ¬ cf y x < 0) ∧ b1 = b.set j (.cells (.row t K) (idx.map fun i => es.getD i []).flatten)) := by
  rw [Ctx_eq]
  refine ⟨hokS, fun w F vs box0 hout hbl hbi hbj hB hargs => ?_⟩
  obtain ⟨v0, v1, rfl⟩ : ∃ v0 v1, vs = #[v0, v1] := by
    have := hargs.1
    match vs, this with
    | ⟨[a, b]⟩, _ => exact ⟨a, b, rfl⟩
  obtain ⟨h0', h1⟩ := Both.cons.1 hargs
  obtain ⟨h1, _⟩ := Both.cons.1 h1
  obtain rfl : v1 = .func (.func g) #[] #[] := by
    cases h1 with
    | clo _ _ _ vf vc e1 e2 _ _ =>
      have : vf = #[] := Array.eq_empty_of_size_eq_zero e1.symm
      have : vc = #[] := Array.eq_empty_of_size_eq_zero e2.symm
      subst_vars; rfl
  rcases h0'.bsl_inv with ⟨bl, cap, hb, hcap, rfl⟩ | ⟨hb, hz, rfl⟩
  rotate_left
  · omega
  obtain ⟨c, t', hh, hle, hr, rfl, hcs, hcm⟩ := hB j _ _ hb hj
  have hfl := length_flatten' K es hs
  have hblk := (hbi j bl cap hb).1
  -- elements by their places
  have hine : ∀ i : Fin xs.length, ∃ e, es[i.val]? = some e ∧ e.length = K := fun i => ⟨_, List.getElem?_eq_getElem (by rw [hl]; exact i.2), hs _ (List.getElem_mem _)⟩
  obtain ⟨enc, henc⟩ : ∃ enc : Fin xs.length → List Value, enc = fun i => (List.range K).map fun q => c.getD (i.val * K + q) undef := ⟨_, rfl⟩
  have hk : ∀ i, (enc i).length = K := fun i => by rw [henc]; simp
  have hcell : ∀ (i : Fin xs.length) e (q : Nat) x, es[i.val]? = some e → e[q]? = some x → Rep w.heap.size w F [] [] box0 x (c.getD (i.val * K + q) undef) ∧ (c.getD (i.val * K + q) undef).oneCell' = true := fun i e q x he hq =>
    hr _ x (flatten_get K es i.val q e x hs he hq)
  have hboth : ∀ i : Fin xs.length, Both (Rep w.heap.size w F [] [] box0) (es.getD i.val []) (enc i) := fun i => by
    obtain ⟨e, he, hel⟩ := hine i
    have e1 : es.getD i.val [] = e := by rw [List.getD_eq_getElem?_getD, he]; rfl
    rw [e1]
    refine ⟨by rw [hel, hk], fun q x u hx hu => ?_⟩
    have hq : q < K := by rw [← hel]; exact getElem?_lt hx
    rw [henc] at hu
    simp only [List.getElem?_map, List.getElem?_range hq, Option.map_some, Option.some.injEq] at hu
    subst hu
    exact (hcell i e q x he hx).1
  have hone : ∀ i, ∀ v ∈ enc i, v.oneCell' = true := fun i v hv' => by
    obtain ⟨e, he, hel⟩ := hine i
    rw [henc] at hv'
    obtain ⟨q, hq, rfl⟩ := List.mem_map.1 hv'
    have hq := List.mem_range.1 hq
    exact (hcell i e q _ he (List.getElem?_eq_getElem (by rw [hel]; exact hq))).2
  -- the worlds that the sort passes through
  haveI hinh : Inhabited (Fin xs.length) := ⟨⟨0, h0⟩⟩
  have hworld : ∀ (m : Nat) (os : Array Obj) (dk : Array (Fin xs.length)), dk.size = xs.length →
      (∀ k, k < w.heap.size → k ≠ bl → (sortWorldK enc K w bl 0 m dk os).heap[k]? = w.heap[k]?) ∧ w.heap.size ≤ (sortWorldK enc K w bl 0 m dk os).heap.size ∧
      (∀ y v, Rep w.heap.size w F [] [] box0 y v → Rep w.heap.size (sortWorldK enc K w bl 0 m dk os) F [] [] box0 y v) ∧
      ((∀ y v, Rep w.heap.size w F [] [] box0 y v → Rep w.heap.size (sortWorldK enc K w bl 0 m dk os) F [] [] box0 y v) → BoxOk w.heap.size (sortWorldK enc K w bl 0 m dk os) F [] [] box0 (.blk bl cap) (.cells (.row t' K) (dk.toList.map fun i => es.getD i.val []).flatten)) ∧
      BoxesOk w.heap.size (sortWorldK enc K w bl 0 m dk os) F [] [] box0 (b.set j (.cells (.row t' K) (dk.toList.map fun i => es.getD i.val []).flatten)) := fun m os dk hdk => by
    have hk1 : ∀ k, k < w.heap.size → k ≠ bl → (sortWorldK enc K w bl 0 m dk os).heap[k]? = w.heap[k]? := fun k hk hkb => by
      unfold sortWorldK putRowK
      rw [heap_grow _ _ _ (by simpa using hk), heap_putRow_other _ _ _ _ _ _ hkb]; rfl
    have hsz : w.heap.size ≤ (sortWorldK enc K w bl 0 m dk os).heap.size := by
      unfold sortWorldK putRowK; simp [grow, putRow, mapBlock, Sort.ahead]
    have hh' : (sortWorldK enc K w bl 0 m dk os).heap[bl]? = some (.cells (putCells id 0 (flatK enc K dk) c) t' (0, 0)) := by
      unfold sortWorldK putRowK
      rw [heap_grow _ _ _ (by simpa using hblk)]
      exact heap_putRow id (Sort.ahead w m) bl 0 (flatK enc K dk) c _ (0, 0) hh
    have hbox : (∀ y v, Rep w.heap.size w F [] [] box0 y v → Rep w.heap.size (sortWorldK enc K w bl 0 m dk os) F [] [] box0 y v) → BoxOk w.heap.size (sortWorldK enc K w bl 0 m dk os) F [] [] box0 (.blk bl cap) (.cells (.row t' K) (dk.toList.map fun i => es.getD i.val []).flatten) := fun later => by
      have hvl : (dk.toList.map enc).flatten.length = xs.length * K := by
        rw [length_flatten' K _ (fun c hc => by obtain ⟨a, _, rfl⟩ := List.mem_map.1 hc; exact hk a), List.length_map]; simp [hdk]
      have hnc : xs.length * K ≤ c.size := by rw [hcs]; exact Nat.mul_le_mul_right K hcap
      refine boxOk_row (c := putCells id 0 (flatK enc K dk) c) (vals := (dk.toList.map enc).flatten) (rest := c.toList.drop (xs.length * K)) hh' ?_ (both_flat _ _ _ fun i _ => ?_) (fun u hu => ?_) ?_ hcm
      · rw [putCells_zero _ _ _ (by rw [size_flatK, hdk]; exact hnc), List.map_id_fun, id, flatK_toList enc K hk, size_flatK, hdk]
      · have := hboth i
        exact ⟨this.1, fun q x u hx hu => later x u (this.2 q x u hx hu)⟩
      · obtain ⟨l, hl', hu⟩ := List.mem_flatten.1 hu
        obtain ⟨i, _, rfl⟩ := List.mem_map.1 hl'
        exact hone i u hu
      · rw [List.length_append, hvl, List.length_drop]; simp; omega
    obtain ⟨h1, h2⟩ := boxes_row hout hbi hbj hB hb hj hk1 hbox
    exact ⟨hk1, hsz, h1, hbox, h2⟩
  obtain ⟨d, hd⟩ : ∃ d : Array (Fin xs.length), d = Array.ofFn id := ⟨_, rfl⟩
  have hds : d.size = xs.length := by rw [hd]; simp
  have hmem : ∀ i : Fin xs.length, xs.getD i.val default ∈ xs := fun i => getD_mem' i.2
  have hx : ∀ i : Fin xs.length, xs[i.val]? = some (xs.getD i.val default) := fun i => by rw [List.getD_eq_getElem?_getD, List.getElem?_eq_getElem i.2]; rfl
  have hcl : ∀ (m : Nat) (os : Array Obj) (dk : Array (Fin xs.length)), dk.size = d.size → ∀ x y : Fin xs.length,
      Calls P g (#[.agg (enc x).toArray, .agg (enc y).toArray] ++ #[]) (sortWorldK enc K w bl 0 m dk os) fun e w' => e = .returned (.int .i64 (cf (xs.getD x.val default) (xs.getD y.val default))) ∧ ∃ q os', w' = grow ((sortWorldK enc K w bl 0 m dk os).drewN q) os' := fun m os dk hdk x y => by
    obtain ⟨hk1, hsz, later, _, hbx⟩ := hworld m os dk (hdk.trans hds)
    generalize sortWorldK enc K w bl 0 m dk os = W at hk1 hsz later hbx
    have h := hcmp _ (hmem x) _ (hmem y)
    rw [Ret_eq] at h
    have harg : ∀ i : Fin xs.length, Rep W.heap.size W (bigF W F) [] [] [] (.agg (oldL (T.q (xs.getD i.val default)))) (.agg (enc i).toArray) := fun i => by
      obtain ⟨e, he, hel⟩ := hine i
      have hv' := hv i.val e _ he (hx i) (b.set j (.cells (.row t' K) (dk.toList.map fun i => es.getD i.val []).flatten)) (fun k hk => by rw [List.getElem?_set, if_neg (Ne.symm hk)])
      have hb' := hboth i
      rw [List.getD_eq_getElem?_getD, he] at hb'
      have hb2 : Both (RepT w.heap.size W F [] [] box0) e (enc i) := ⟨hb'.1, fun q x u hx hu => .rep _ _ (later x u (hb'.2 q x u hx hu))⟩
      have hb3 := both_sees hb2 hv' (R' := Rep W.heap.size W (bigF W F) [] [] []) (fun x y v hS hx => hS (bigF W F) hbx (bigF_le W F) bigF_cells hx W.heap.size [])
      refine .agg _ _ (by have := hb3.1; simpa using this) (fun q hq => ?_) (fun q cc hc => ?_)
      · have hq' : q < (enc i).length := by simpa using hq
        have : (enc i).toArray.getD q undef = (enc i)[q] := by simp [Array.getD, hq']
        rw [this]; exact hone i _ (List.getElem_mem _)
      · have hq' : q < (enc i).length := by have := getElem?_lt hc; rw [hb3.1] at this; exact this
        have : (enc i).toArray.getD q undef = (enc i)[q] := by simp [Array.getD, hq']
        rw [this]; exact hb3.2 q cc _ hc (List.getElem?_eq_getElem hq')
    refine (h.2 W (bigF W F) #[.agg (enc x).toArray, .agg (enc y).toArray] (fun b' hb' => bigF_out hb' (hout b' (Nat.le_trans hsz hb'))) (Both.cons.2 ⟨harg x, Both.cons.2 ⟨harg y, rfl, fun i x u h => by simp at h⟩⟩)).mono ?_
    rintro e w' ⟨v, F', tok, box, rfl, hbel, _, _, _, _, _, hrep⟩
    exact ⟨by rw [hrep.val_inv], grow_of_bel hbel⟩
  have hH : HoldsK enc K w bl 0 d := by
    intro q hq
    rw [size_flatK, hds] at hq
    have hq1 : q < (flatK enc K d).size := by rw [size_flatK, hds]; exact hq
    have hKp : 0 < K := by rcases Nat.eq_zero_or_pos K with h | h
                           · rw [h] at hq; simp at hq
                           · exact h
    have h1 : q / K < xs.length := (Nat.div_lt_iff_lt_mul hKp).2 hq
    have h2 : q % K < K := Nat.mod_lt _ hKp
    have h3 : q / K * K + q % K = q := by rw [Nat.mul_comm]; exact Nat.div_add_mod _ _
    have hqc : q < c.size := by rw [hcs]; exact Nat.lt_of_lt_of_le hq (Nat.mul_le_mul_right K hcap)
    have e1 : (flatK enc K d)[q]! = c.getD q undef := by
      rw [get_flatK _ _ _ _ (by rw [hds]; exact hq)]
      have e2 : d[q / K]! = ⟨q / K, h1⟩ := by
        rw [getElem!_pos d _ (by rw [hds]; exact h1)]
        subst hd; simp
      rw [e2, henc]
      rw [getElem!_pos _ _ (by simpa using h2)]
      simp [h3]
    rw [e1, Nat.zero_add]
    refine ⟨by rw [cell_of_row w bl q c t' (0, 0) hh]; simp [Array.getD, hqc], ?_⟩
    simp [World.frozen?, hh]
  have hcall := hS (Fin xs.length) hinh enc (fun i => xs.getD i.val default) bl cap d w hmem hk hone hds hcl hH hblk
  rw [hds] at hcall
  refine hcall.mono ?_
  rintro e w' ⟨rfl, d', m, os, hp, hsd, rfl⟩
  have hd's : d'.size = xs.length := hp.1.trans hds
  obtain ⟨hk1, hsz, later, hbox, hbx⟩ := hworld m os d' hd's
  refine gpost_row (v := .tuple #[]) (r := .tup []) hout hbl hbi hbj hB hb hj ?_ ?_ ?_ ?_ hsz hk1 hbox rfl (.tup [] #[] rfl (by simp)) ⟨rfl, d'.toList.map (·.val), ?_, ?_, ?_⟩
  · unfold sortWorldK putRowK; simp [grow, putRow, mapBlock, Sort.ahead]
  · rfl
  · rfl
  · rfl
  · have hp2 := hp.2.2
    have ex : ∀ (n : Nat) (a : Array (Fin xs.length)), a.size = n → a.extract 0 n = a := fun n a h => by subst h; simp
    have e1 := ex _ d' hd's
    have e2 := ex _ d hds
    rw [e1, e2] at hp2
    have e3 : d.toList.map (fun i : Fin xs.length => i.val) = List.range xs.length := by
      apply List.ext_getElem
      · simp [hds]
      · intro i a1 a2
        subst hd
        simp
    rw [← e3]
    exact hp2.map _
  · rw [List.map_map, List.pairwise_iff_getElem]
    intro i k hi hk' hik
    simp only [List.length_map, Array.length_toList] at hi hk'
    have h := hsd i k (Nat.zero_le _) hik (by omega)
    simp only [List.getElem_map, Function.comp]
    rw [getElem!_pos d' k hk', getElem!_pos d' i hi] at h
    exact of_decide_eq_false h
  · rw [List.map_map]; rfl
end
end Go.Proofs.Ytimcfgokocihnaa
namespace Go.Proofs.Ytimcfgokocihnaa
open Abs
/-- the variables among some texts -/
def vs (l : List Str) : List Str := l.filter varF
end Go.Proofs.Ytimcfgokocihnaa
namespace Go.Proofs.Ytimcfgokocihnaa
open Abs
theorem Abs.Need.finN {p q : Prop} (k : q) (h : p := by intros; (try simp only [length_strs] at *); (try simp only [length_rows] at *); (try simp only [length_oldLL, List.length_map, Int.toNat_natCast] at *); (try simp only [Bool.and_eq_true, decide_eq_true_eq] at *); omega) : Need p q := ⟨h, k⟩
theorem Abs.Ix.strsN {gd : Bool} {l : List Str} {i : Int} {sz : Nat} {k : List AV → Prop} (hs : 1 = sz) (hk : k [.str (l.getD i.toNat [])]) (h : gd = true → 0 ≤ i ∧ i < l.length := by intros; (try simp only [length_strs] at *); (try simp only [length_rows] at *); (try simp only [length_oldLL, List.length_map, Int.toNat_natCast] at *); (try simp only [Bool.and_eq_true, decide_eq_true_eq] at *); omega) : Ix gd (Abs.strs l) i sz k := Ix.strs hs h hk
theorem Abs.Ix.mapN {α : Type} [Inhabited α] {gd : Bool} {l : List α} {q : α → List Tr} {i : Int} {sz : Nat} {k : List AV → Prop} (hs : ∀ a, (q a).length = sz) (hk : k (oldL (q (l.getD i.toNat default)))) (h : gd = true → 0 ≤ i ∧ i < l.length := by intros; (try simp only [length_strs] at *); (try simp only [length_rows] at *); (try simp only [length_oldLL, List.length_map, Int.toNat_natCast] at *); (try simp only [Bool.and_eq_true, decide_eq_true_eq] at *); omega) : Ix gd (oldLL (l.map q)) i sz k := Ix.map hs h hk
theorem Abs.Fork.decY {c : Prop} [Decidable c] {p q : Prop} (k : p) (h : c := by (try simp only [length_oldLL, length_rows, length_strs, length_tks, List.length_map, Int.toNat_natCast]); omega) : Fork (decide c) p q := .decYes h k
theorem Abs.Fork.decN {c : Prop} [Decidable c] {p q : Prop} (k : q) (h : ¬ c := by (try simp only [length_oldLL, length_rows, length_strs, length_tks, List.length_map, Int.toNat_natCast]); omega) : Fork (decide c) p q := .decNo h k
theorem Abs.Fork.andY {a b : Prop} [Decidable a] [Decidable b] {p q : Prop} (k : p) (h : a ∧ b := by (try simp only [length_oldLL, length_rows, length_strs, length_tks, List.length_map, Int.toNat_natCast]); omega) : Fork (decide a && decide b) p q := .yes (by simp [h.1, h.2]) k
theorem Abs.Fork.andN {a b : Prop} [Decidable a] [Decidable b] {p q : Prop} (k : q) (h : ¬ (a ∧ b) := by (try simp only [length_oldLL, length_rows, length_strs, length_tks, List.length_map, Int.toNat_natCast]); omega) : Fork (decide a && decide b) p q := .no (by rw [← Bool.decide_and]; exact decide_eq_false h) k
section
variable {α : Type}
end
end Go.Proofs.Ytimcfgokocihnaa
namespace Go.Proofs.Ytimcfgokocihnaa
open Abs Go.RowKit
theorem fget {l : List Fct} {i : Nat} (hi : i < l.length) : l[i]? = some (l.getD i default) := by simp [List.getD, hi]
def zf : List AV := [.str [], .val (.slice none 0 0)]
theorem tks_mem {α : Type} (T : Ty α) {c : AV} : ∀ {l : List α} {n : Nat}, c ∈ (tks T l n).flatten → ∃ a m, c ∈ T.tk a m
  | [], _, h => by cases h
  | a :: l, n, h => by
    rw [tks, List.flatten_cons, List.mem_append] at h
    rcases h with h | h
    · exact ⟨a, n, h⟩
    · exact tks_mem T h
theorem part_inF (m : Nat) (l : List Fct) (i : Nat) : inB.inBL m (part zf (tks tFct l 0) i) := by
  refine inBL_of fun c hc => ?_
  rw [part, List.mem_append] at hc
  rcases hc with h | h
  · obtain ⟨x, hx, hc⟩ := List.mem_flatten.1 h
    obtain ⟨a, n, ha⟩ := tks_mem tFct (List.mem_flatten.2 ⟨x, List.mem_of_mem_take hx, hc⟩)
    have ha : c ∈ [AV.str a.1, .list (some n) (strs a.2)] := ha
    rcases List.mem_cons.1 ha with rfl | ha
    · trivial
    · rw [List.mem_singleton.1 ha]; trivial
  · obtain ⟨x, hx, hc⟩ := List.mem_flatten.1 h
    rw [List.eq_of_mem_replicate hx] at hc
    rcases List.mem_cons.1 hc with rfl | hc
    · trivial
    · rw [List.mem_singleton.1 hc]; trivial
theorem pcopyFacts.ret (l : List Fct) (h : tFcts.size l ≤ 1048576) : pcopyFacts.Ret [.list none (facts l)] (.list (some (frs tFct l).length) (tks tFct l 0)) (frs tFct l ++ [(80, 2, l.length)]) := by
  refine pcopyFacts.of rfl ?_
  rw [tFcts_size] at h
  have hfl : (facts l).length = l.length := length_rows _ _
  repeat' first
    | contradiction | exact trivial
    | (conv => whnf
       first | refine Need.mk (fun h => h) ?_ | refine Need.mk rfl ?_ | refine Need.mk ⟨rfl, Nat.le_of_ble_eq_true rfl⟩ ?_ | refine Need.mk (Nat.le_of_ble_eq_true rfl) ?_ | refine Need.fin ?_ | refine Need.mk ?_ ?_ | refine Ix.strsF rfl ?_ | refine Ix.strs rfl ?_ ?_ | refine Cut.strs rfl ?_ ?_ | refine Ix.mapF (fun _ => rfl) ?_ | refine Ix.map (fun _ => rfl) ?_ ?_ | refine Cut.map (fun _ => rfl) ?_ ?_ | refine Fork.yes (by assumption) ?_ | refine Fork.no (by assumption) ?_ | refine Fork.decYes (by omega) ?_ | refine Fork.decNo (by omega) ?_ | refine Fork.dec (fun _ => ?_) (fun _ => ?_) | refine Fork.bne (fun _ => ?_) (fun _ => ?_) | refine Fork.beq (fun _ => ?_) (fun _ => ?_) | refine Fork.seq (fun _ => ?_) (fun _ => ?_) | refine Fork.sne (fun _ => ?_) (fun _ => ?_) | refine Fork.neg (fun _ => ?_) (fun _ => ?_) | refine Fork.mk (fun _ => ?_) (fun _ => ?_) | refine HAlt.mk ?_ ?_ | apply HJoin.mk3 | exact HEnd.mk rfl rfl rfl | refine HEnd.mk ?_ ?_ ?_ | refine Round.mk ?_ | refine NilQ.mk (fun b hb => ?_) | refine forceK_of ?_ | refine forceBx_of ?_ | refine unG_old ?_ | refine unG_gv ?_ | refine Lit.read rfl ?_ | refine FinVal.keep ?_ | refine FinAgg.keep ?_ | refine Final.mk rfl rfl | refine Final.mk ?_ rfl | refine Final.mk ?_ ?_ | refine FinalT.mk ?_ ?_ | refine FinalC.allA ?_)
    | refine AV.bool_congr ?_ | refine AV.int_congr ?_ | refine AV.str_congr ?_ | refine AV.list_congr ?_ | with_reducible rfl | refine fr1 ?_ | refine fr2 ?_ ?_
  refine ALoop.mk Nat (fun i => ⟨[(3, .bsl 0 l.length), (9, .list none (facts l)), (10, .val (.int .i64 l.length)), (11, .val (.int .i64 i))], [.cells (.row 80 2) (part zf (tks tFct l 0) i)], frs tFct (l.take i)⟩) (fun i => i ≤ l.length) (fun i => l.length - i) ⟨0, Nat.zero_le _, ?_⟩ (fun i hi => ?_)
  · repeat' first
      | exact trivial | refine Weak.mk ?_ ?_ ?_ ?_ (Or.inl (Nat.le_of_ble_eq_true rfl)) | refine Weak.mk ?_ ?_ ?_ ?_ (Or.inr ⟨(by repeat' first | exact trivial | exact Nat.le_of_ble_eq_true rfl | refine And.intro ?_ ?_), (by repeat' first | exact trivial | exact Nat.le_of_ble_eq_true rfl | refine And.intro ?_ ?_)⟩) | refine Weak.mk ?_ ?_ ?_ ?_ ?_ | refine And.intro ?_ ?_ | with_reducible rfl | exact Nat.le_of_ble_eq_true rfl | refine fr1 ?_ | refine fr2 ?_ ?_ | refine AV.int_congr ?_ | refine AV.bool_congr ?_ | refine AV.str_congr ?_ | refine AV.list_congr ?_ | refine AV.bsl_congr ?_ ?_ | (apply rfl)
    · rw [hfl, Int.toNat_natCast]
    · rw [hfl]
    · simp only [List.nil_append, List.cons_append, List.length_cons, List.length_nil, List.take_succ_cons, List.take_zero]
      rw [part_made (xs := tks tFct l 0) (sz := 2) rfl (by decide) (by rw [length_tks, hfl, Int.toNat_natCast])]; rfl
  by_cases hi' : i < l.length
  rotate_left
  · have hil : i = l.length := by omega
    subst hil
    have hall := part_all zf (tks tFct l 0)
    rw [length_tks] at hall
    rw [List.take_length, hall]
    repeat' first
      | contradiction | exact trivial
      | (conv => whnf
         first | refine Need.mk (fun h => h) ?_ | refine Need.mk rfl ?_ | refine Need.mk ⟨rfl, Nat.le_of_ble_eq_true rfl⟩ ?_ | refine Need.mk (Nat.le_of_ble_eq_true rfl) ?_ | refine Need.finN ?_ | refine Need.mk ?_ ?_ | refine Ix.strsN rfl ?_ | refine Ix.strs rfl ?_ ?_ | refine Cut.strs rfl ?_ ?_ | refine Ix.mapN (fun _ => rfl) ?_ | refine Ix.map (fun _ => rfl) ?_ ?_ | refine Cut.map (fun _ => rfl) ?_ ?_ | refine Fork.yes (by assumption) ?_ | refine Fork.no (by assumption) ?_ | refine Fork.decY ?_ | refine Fork.andY ?_ | refine Fork.andN ?_ | refine Fork.decN ?_ | refine Fork.dec (fun _ => ?_) (fun _ => ?_) | refine Fork.bne (fun _ => ?_) (fun _ => ?_) | refine Fork.beq (fun _ => ?_) (fun _ => ?_) | refine Fork.seq (fun _ => ?_) (fun _ => ?_) | refine Fork.sne (fun _ => ?_) (fun _ => ?_) | refine Fork.neg (fun _ => ?_) (fun _ => ?_) | refine Fork.mk (fun _ => ?_) (fun _ => ?_) | refine HAlt.mk ?_ ?_ | apply HJoin.mk3 | exact HEnd.mk rfl rfl rfl | refine HEnd.mk ?_ ?_ ?_ | refine Round.mk ?_ | refine NilQ.mk (fun b hb => ?_) | refine forceK_of ?_ | refine forceBx_of ?_ | refine unG_old ?_ | refine unG_gv ?_ | refine Lit.read rfl ?_ | refine FinVal.keep ?_ | refine FinAgg.keep ?_ | refine Final.mk rfl rfl | refine Final.mk ?_ rfl | refine Final.mk ?_ ?_ | refine FinalT.mk ?_ ?_ | refine FinalC.allA ?_)
      | refine AV.bool_congr ?_ | refine AV.int_congr ?_ | refine AV.str_congr ?_ | refine AV.list_congr ?_ | with_reducible rfl | refine fr1 ?_ | refine fr2 ?_ ?_
    conv => whnf
    refine FreezeD.flat (Freeze.mk (tks tFct l 0) _ 80 2 rfl rfl (length_tks _ _ _) (tks_sz tFct l 0) (tks_nr tFct l 0) ?_)
    repeat' first
      | contradiction | exact trivial
      | (conv => whnf
         first | refine Need.mk (fun h => h) ?_ | refine Need.mk rfl ?_ | refine Need.mk ⟨rfl, Nat.le_of_ble_eq_true rfl⟩ ?_ | refine Need.mk (Nat.le_of_ble_eq_true rfl) ?_ | refine Need.finN ?_ | refine Need.mk ?_ ?_ | refine Ix.strsN rfl ?_ | refine Ix.strs rfl ?_ ?_ | refine Cut.strs rfl ?_ ?_ | refine Ix.mapN (fun _ => rfl) ?_ | refine Ix.map (fun _ => rfl) ?_ ?_ | refine Cut.map (fun _ => rfl) ?_ ?_ | refine Fork.yes (by assumption) ?_ | refine Fork.no (by assumption) ?_ | refine Fork.decY ?_ | refine Fork.andY ?_ | refine Fork.andN ?_ | refine Fork.decN ?_ | refine Fork.dec (fun _ => ?_) (fun _ => ?_) | refine Fork.bne (fun _ => ?_) (fun _ => ?_) | refine Fork.beq (fun _ => ?_) (fun _ => ?_) | refine Fork.seq (fun _ => ?_) (fun _ => ?_) | refine Fork.sne (fun _ => ?_) (fun _ => ?_) | refine Fork.neg (fun _ => ?_) (fun _ => ?_) | refine Fork.mk (fun _ => ?_) (fun _ => ?_) | refine HAlt.mk ?_ ?_ | apply HJoin.mk3 | exact HEnd.mk rfl rfl rfl | refine HEnd.mk ?_ ?_ ?_ | refine Round.mk ?_ | refine NilQ.mk (fun b hb => ?_) | refine forceK_of ?_ | refine forceBx_of ?_ | refine unG_old ?_ | refine unG_gv ?_ | refine Lit.read rfl ?_ | refine FinVal.keep ?_ | refine FinAgg.keep ?_ | refine Final.mk rfl rfl | refine Final.mk ?_ rfl | refine Final.mk ?_ ?_ | refine FinalT.mk ?_ ?_ | refine FinalC.allA ?_)
      | refine AV.bool_congr ?_ | refine AV.int_congr ?_ | refine AV.str_congr ?_ | refine AV.list_congr ?_ | with_reducible rfl | refine fr1 ?_ | refine fr2 ?_ ?_
  have hsz := fct_le hi'
  have hget := tks_get tFct 0 (fget hi')
  rw [Nat.zero_add] at hget
  repeat' first
    | contradiction | exact trivial
    | (conv => whnf
       first | refine Need.mk (fun h => h) ?_ | refine Need.mk rfl ?_ | refine Need.mk ⟨rfl, Nat.le_of_ble_eq_true rfl⟩ ?_ | refine Need.mk (Nat.le_of_ble_eq_true rfl) ?_ | refine Need.finN ?_ | refine Need.mk ?_ ?_ | refine Ix.strsN rfl ?_ | refine Ix.strs rfl ?_ ?_ | refine Cut.strs rfl ?_ ?_ | refine Ix.mapN (fun _ => rfl) ?_ | refine Ix.map (fun _ => rfl) ?_ ?_ | refine Cut.map (fun _ => rfl) ?_ ?_ | refine Fork.yes (by assumption) ?_ | refine Fork.no (by assumption) ?_ | refine Fork.decY ?_ | refine Fork.andY ?_ | refine Fork.andN ?_ | refine Fork.decN ?_ | refine Fork.dec (fun _ => ?_) (fun _ => ?_) | refine Fork.bne (fun _ => ?_) (fun _ => ?_) | refine Fork.beq (fun _ => ?_) (fun _ => ?_) | refine Fork.seq (fun _ => ?_) (fun _ => ?_) | refine Fork.sne (fun _ => ?_) (fun _ => ?_) | refine Fork.neg (fun _ => ?_) (fun _ => ?_) | refine Fork.mk (fun _ => ?_) (fun _ => ?_) | refine HAlt.mk ?_ ?_ | apply HJoin.mk3 | exact HEnd.mk rfl rfl rfl | refine HEnd.mk ?_ ?_ ?_ | refine Round.mk ?_ | refine NilQ.mk (fun b hb => ?_) | refine forceK_of ?_ | refine forceBx_of ?_ | refine unG_old ?_ | refine unG_gv ?_ | refine Lit.read rfl ?_ | refine FinVal.keep ?_ | refine FinAgg.keep ?_ | refine Final.mk rfl rfl | refine Final.mk ?_ rfl | refine Final.mk ?_ ?_ | refine FinalT.mk ?_ ?_ | refine FinalC.allA ?_ | refine ACall.mkFct _ _ (pcopyFact.ret _ ?_) (by repeat' first | exact SeesL.nil | refine SeesL.cons ?_ ?_ | exact SeesB.of0 (Sees0.val _) | exact SeesB.of0 (Sees0.str _) | exact SeesB.of0 (Sees0.olds _ _) | exact SeesB.of0 (Sees0.old _) | exact SeesB.of0 (Sees0.oldagg _) | exact SeesB.of0 Sees0.nil | exact Sees0.val _ | exact Sees0.str _ | exact Sees0.olds _ _ | exact Sees0.old _ | exact Sees0.oldagg _ | exact Sees0.nil | exact SeesB.of0 (Sees0.any _) | assumption | exact sees_gv _ _ _ (by assumption) (by first | assumption | exact BoxIn.last _ _ | exact BoxIn.more (BoxIn.last _ _) _) | refine SeesB.agg ?_ | refine Sees0.agg ?_ | exact SeesB.of0 (Sees0.clo SeesL.nil SeesL.nil) | exact Sees0.clo SeesL.nil SeesL.nil | exact SeesB.of0 (Sees0.list rfl) | exact Sees0.list rfl) ?_)
    | refine AV.bool_congr ?_ | refine AV.int_congr ?_ | refine AV.str_congr ?_ | refine AV.list_congr ?_ | with_reducible rfl | refine fr1 ?_ | refine fr2 ?_ ?_
  · rw [Int.toNat_natCast]; omega
  · rw [tFct.htk, part_len (sz := 2) rfl (tks_sz tFct l 0) (by rw [length_tks]; omega), length_tks, Int.toNat_natCast]
    exact ⟨rfl, by omega⟩
  · refine ⟨i + 1, by omega, ?_, by omega⟩
    refine ⟨?_, ?_, ?_, Nat.le_of_ble_eq_true rfl, Or.inr ⟨?_, part_inF 1 l (i + 1), trivial⟩⟩
    rotate_right
    · exact ⟨Nat.zero_lt_one, trivial, trivial, trivial, trivial⟩
    · repeat' first
        | exact trivial | refine Weak.mk ?_ ?_ ?_ ?_ (Or.inl (Nat.le_of_ble_eq_true rfl)) | refine Weak.mk ?_ ?_ ?_ ?_ (Or.inr ⟨(by repeat' first | exact trivial | exact Nat.le_of_ble_eq_true rfl | refine And.intro ?_ ?_), (by repeat' first | exact trivial | exact Nat.le_of_ble_eq_true rfl | refine And.intro ?_ ?_)⟩) | refine Weak.mk ?_ ?_ ?_ ?_ ?_ | refine And.intro ?_ ?_ | with_reducible rfl | exact Nat.le_of_ble_eq_true rfl | refine fr1 ?_ | refine fr2 ?_ ?_ | refine AV.int_congr ?_ | refine AV.bool_congr ?_ | refine AV.str_congr ?_ | refine AV.list_congr ?_ | refine AV.bsl_congr ?_ ?_ | (apply rfl)
      rw [wrap64 (by omega) (by omega)]; rfl
    · have := part_set (z := zf) (sz := 2) rfl (tks_sz tFct l 0) hget
      exact congrArg (fun c => [ABox.cells (.row 80 2) c]) this
    · show frs tFct (l.take i) ++ tFct.fr (l.getD ((i : Int)).toNat default) = frs tFct (l.take (i + 1))
      rw [take_succ' default hi', frs_append, Int.toNat_natCast]
      simp [frs]
theorem pcopyFacts.own (l : List Fct) (h : tFcts.size l ≤ 1048576) : pcopyFacts.Own [.list none (facts l)] (fctsT l) := by
  have h1 := pcopyFacts.ret l h
  refine Ty.ownV tFcts (a := l) rfl rfl ?_
  rw [Nat.zero_add]; exact h1
end Go.Proofs.Ytimcfgokocihnaa
namespace Go.Proofs.Ytimcfgokocihnaa
open Abs
def factCells : List Fct → List Nat → List AV
  | x :: xs, k :: ks => .str x.1 :: .bsl k x.2.length :: factCells xs ks
  | [], _ => []
  | _ :: _, [] => []
def kill (b : List ABox) : List Nat → List ABox
  | [] => b
  | k :: ks => kill (b.set k .dead) ks
theorem finL_facts (one : AV → List ABox → Fr → (AV → List ABox → Fr → Prop) → Prop) : ∀ (xs : List Fct) (ks : List Nat) (b : List ABox) (f : Fr) (K : List AV → List ABox → Fr → Prop), ks.length = xs.length → ks.Nodup →
    (∀ (i : Nat) k x, ks[i]? = some k → xs[i]? = some x → b[k]? = some (mbox x)) → K (tks tFct xs f.length).flatten (kill b ks) (f ++ frs tFct xs) → finL (finS one) (factCells xs ks) b f K
  | [], [], b, f, K, _, _, _, h => by
    rw [factCells, finL]
    simpa [tks, kill, frs] using h
  | [], _ :: _, _, _, _, hl, _, _, _ => by cases hl
  | _ :: _, [], _, _, _, hl, _, _, _ => by cases hl
  | x :: xs, k :: ks, b, f, K, hl, hn, hb, h => by
    rw [factCells, finL]
    refine (show finL (finS one) (.bsl k x.2.length :: factCells xs ks) b f (fun cs b f => K (.str x.1 :: cs) b f) from ?_)
    rw [finL]
    have h1 := hb 0 k x rfl rfl
    refine FreezeD.flat (Freeze.mk (strs x.2) _ 9 1 h1 (strs_flatten _).symm (by simp) (strs_sz _) (fun c hc => ?_) ?_)
    · obtain ⟨s, _, rfl⟩ := List.mem_map.1 hc; rfl
    obtain ⟨n1, n2⟩ := List.nodup_cons.1 hn
    refine finL_facts one xs ks _ _ _ (by simpa using hl) n2 (fun i k' x' hk' hx' => ?_) ?_
    · have hne : k ≠ k' := fun e => n1 (e ▸ List.mem_of_getElem? hk')
      rw [List.getElem?_set, if_neg hne]
      exact hb (i + 1) k' x' (by simpa using hk') (by simpa using hx')
    · rw [show f ++ [(9, 1, x.2.length)] ++ frs tFct xs = f ++ frs tFct (x :: xs) by rw [List.append_assoc]; rfl]
      rw [List.length_append]
      exact h
end Go.Proofs.Ytimcfgokocihnaa
namespace Go.Proofs.Ytimcfgokocihnaa
open Abs
abbrev slSortF.Ctx (b0 : List ABox) (args : List AV) (Φ : AV → List ABox → Prop) : Prop := Abs.Ctx true Try.prog 125 b0 args Φ
end Go.Proofs.Ytimcfgokocihnaa
namespace Go.Proofs
open Go.RowKit Go.Shelf
def Try.sortF_ren : Go.Shelf.Ren := ⟨fun | 6 => 125 | 15 => 157 | 14 => 156 | 28 => 178 | 29 => 179 | 20 => 170 | 21 => 171 | 22 => 172 | 23 => 173 | 24 => 174 | 25 => 175 | 26 => 176 | 27 => 177 | 46 => 196 | 47 => 197 | 48 => 198 | 49 => 199 | 50 => 200 | 57 => 209 | n => n, fun | 22 => 76 | 24 => 80 | 25 => 136 | 3 => 3 | 39 => 150 | 0 => 0 | 53 => 166 | 55 => 168 | 4 => 4 | 46 => 160 | 45 => 159 | 50 => 124 | 5 => 5 | 9 => 9 | 66 => 180 | 70 => 184 | 76 => 198 | 77 => 199 | n => n, fun | n => n⟩
theorem Try.sortF : Go.Proofs.SlLaysF0.n6 Try.prog Try.sortF_ren := {
  mixed := by kernel_rfl
  f6 := ⟨Try.f125.name, by decide, Try.func125.trans (congrArg some (by kernel_rfl))⟩
  f14 := ⟨Try.f156.name, by decide, Try.func156.trans (congrArg some (by kernel_rfl))⟩
  f15 := Try.func157.trans (congrArg some (by kernel_rfl))
  f20 := ⟨Try.f170.name, by decide, Try.func170.trans (congrArg some (by kernel_rfl))⟩
  f21 := ⟨Try.f171.name, by decide, Try.func171.trans (congrArg some (by kernel_rfl))⟩
  f22 := ⟨Try.f172.name, by decide, Try.func172.trans (congrArg some (by kernel_rfl))⟩
  f23 := ⟨Try.f173.name, by decide, Try.func173.trans (congrArg some (by kernel_rfl))⟩
  f24 := ⟨Try.f174.name, by decide, Try.func174.trans (congrArg some (by kernel_rfl))⟩
  f25 := ⟨Try.f175.name, by decide, Try.func175.trans (congrArg some (by kernel_rfl))⟩
  f26 := ⟨Try.f176.name, by decide, Try.func176.trans (congrArg some (by kernel_rfl))⟩
  f27 := ⟨Try.f177.name, by decide, Try.func177.trans (congrArg some (by kernel_rfl))⟩
  f28 := Try.func178.trans (congrArg some (by kernel_rfl))
  f29 := Try.func179.trans (congrArg some (by kernel_rfl))
  f46 := ⟨Try.f196.name, by decide, Try.func196.trans (congrArg some (by kernel_rfl))⟩
  f47 := Try.func197.trans (congrArg some (by kernel_rfl))
  f48 := Try.func198.trans (congrArg some (by kernel_rfl))
  f49 := ⟨Try.f199.name, by decide, Try.func199.trans (congrArg some (by kernel_rfl))⟩
  f50 := ⟨Try.f200.name, by decide, Try.func200.trans (congrArg some (by kernel_rfl))⟩
  f57 := ⟨Try.f209.name, by decide, Try.func209.trans (congrArg some (by kernel_rfl))⟩
  t0 := Try.underlying0
  a0 := Try.isAgg0
  z0 := Try.sizeOf0
  v0 := Try.zeroValue0
  t3 := Try.underlying3
  a3 := Try.isAgg3
  z3 := Try.sizeOf3
  v3 := Try.zeroValue3
  t4 := Try.underlying4
  a4 := Try.isAgg4
  z4 := Try.sizeOf4
  v4 := Try.zeroValue4
  t5 := Try.underlying5
  a5 := Try.isAgg5
  z5 := Try.sizeOf5
  v5 := Try.zeroValue5
  t9 := Try.underlying9
  a9 := Try.isAgg9
  z9 := Try.sizeOf9
  v9 := Try.zeroValue9
  t22 := Try.underlying76
  a22 := Try.isAgg76
  z22 := Try.sizeOf76
  v22 := Try.zeroValue76
  t25 := Try.underlying136
  a25 := Try.isAgg136
  z25 := Try.sizeOf136
  v25 := Try.zeroValue136
  t39 := Try.underlying150
  a39 := Try.isAgg150
  z39 := Try.sizeOf150
  v39 := Try.zeroValue150
  t45 := Try.underlying159
  a45 := Try.isAgg159
  z45 := Try.sizeOf159
  v45 := Try.zeroValue159
  t46 := Try.underlying160
  a46 := Try.isAgg160
  z46 := Try.sizeOf160
  v46 := Try.zeroValue160
  t50 := Try.underlying124
  a50 := Try.isAgg124
  z50 := Try.sizeOf124
  v50 := Try.zeroValue124
  t53 := Try.underlying166
  a53 := Try.isAgg166
  z53 := Try.sizeOf166
  v53 := Try.zeroValue166
  t55 := Try.underlying168
  a55 := Try.isAgg168
  z55 := Try.sizeOf168
  v55 := Try.zeroValue168
  t66 := Try.underlying180
  a66 := Try.isAgg180
  z66 := Try.sizeOf180
  v66 := Try.zeroValue180
  t70 := Try.underlying184
  a70 := Try.isAgg184
  z70 := Try.sizeOf184
  v70 := Try.zeroValue184
  t76 := Try.underlying198
  a76 := Try.isAgg198
  z76 := Try.sizeOf198
  v76 := Try.zeroValue198
  t77 := Try.underlying199
  a77 := Try.isAgg199
  z77 := Try.sizeOf199
  v77 := Try.zeroValue199 }
end Go.Proofs
namespace Go.Proofs.Ytimcfgokocihnaa
open Abs Go.RowKit Go.Sort Go.Lib Go.Shelf
theorem swo_cmp {ι : Type} (f : ι → Fct) : SWO (ltOf fun i k => cmpF (f i) (f k)) := by
  have h := cmpF_cmp.sto.swo
  exact ⟨fun x => h.irrefl (f x), fun x y z h1 h2 => h.trans (f x) (f y) (f z) h1 h2, fun x y z h1 h2 => h.ntrans (f x) (f y) (f z) h1 h2⟩
theorem slSortF.ctx (b : List ABox) (j : Nat) (es : List (List AV)) (xs : List Fct) (hj : b[j]? = some (.cells (.row 80 2) es.flatten)) (hl : es.length = xs.length) (hs : ∀ e ∈ es, e.length = 2) (h0 : 0 < xs.length) (hn : xs.length ≤ 1048576)
    (hz : ∀ x ∈ xs, tFct.size x ≤ 1048576) (hv : ∀ (i : Nat) e x, es[i]? = some e → xs[i]? = some x → ∀ bx, (∀ k, k ≠ j → bx[k]? = b[k]?) → SeesL (SeesB bx) e (oldL (tFct.q x))) :
    slSortF.Ctx b [.bsl j xs.length, .clo 126 [] []] (fun r b1 => r = .tup [] ∧ ∃ idx : List Nat, idx.Perm (List.range xs.length) ∧
      ((idx.map fun i => xs.getD i default).Pairwise fun x y => ¬ cmpF y x < 0) ∧ b1 = b.set j (.cells (.row 80 2) (idx.map fun i => es.getD i []).flatten)) :=
  sort_ctx (fS := 125) tFct 2 80 rfl cmpF 126 (by kernel_rfl) b j es xs hj hl hs h0
    (fun x hx y hy => pCompareFacts.ret x y (hz x hx) (hz y hy)) hv
    (fun ι _ enc f blk cap d w _ hk h1 hds hc hH hblk =>
      AnyQ.slices_SortFunc Try.sortF 2 Try.isAgg80 Try.sizeOf80 enc hk h1 (fun i k => cmpF (f i) (f k)) (swo_cmp f) 126 #[] blk 0 cap d w
        (enters_of Try.func126 (by kernel_rfl) rfl) hc hH hblk (by omega))
end Go.Proofs.Ytimcfgokocihnaa
namespace Go.Proofs.Ytimcfgokocihnaa
open Abs
theorem ownP_fcts (l : List Fct) (v : Bool) : ∃ ts, OwnA (tFcts.fr l) [.p [fctsT l, .v (.bool v)]] [.tup [.list (some (0 + (frs tFct l).length)) (tks tFct l 0), .val (.bool v)]] ts ∧ ts.Nodup := by
  obtain ⟨ts, h1, p1⟩ := tFcts.hown l 0 (tFcts.fr l) (fun i x hi => by rw [Nat.zero_add]; exact hi)
  have h2 : OwnA (tFcts.fr l) [fctsT l, .v (.bool v)] [.list (some (0 + (frs tFct l).length)) (tks tFct l 0), .val (.bool v)] (ts ++ []) := OwnA.append h1 (.v _ rfl .nil)
  have h3 := OwnA.p _ _ h2 .nil
  exact ⟨_, h3, by rw [List.append_nil, List.append_nil]; exact p1.symm.nodup (List.nodup_range' _)⟩
theorem gvL_one (f : Fct) (n : Nat) : gvL (tFct.q f) n = [.str f.1, .bsl n f.2.length] := by
  have := gvLL_fct [f] n
  simpa [gvLL, mcells] using this
theorem gb_one (f : Fct) (n : Nat) : gb (.a (tFct.q f)) n = [mbox f] := by
  have := gbLL_fct [f] n
  rw [gb]
  simpa [gbLL] using this
theorem mcells_snoc (f : Fct) : ∀ (l : List Fct) (n : Nat), mcells (l ++ [f]) n = mcells l n ++ [.str f.1, .bsl (n + l.length) f.2.length]
  | [], n => by simp [mcells]
  | x :: l, n => by
    simp only [List.cons_append, mcells, mcells_snoc f l, List.length_cons]
    rw [show n + 1 + l.length = n + (l.length + 1) by omega]
theorem mcells_fact : ∀ (l : List Fct) (n : Nat), mcells l n = factCells l (List.range' n l.length)
  | [], _ => rfl
  | x :: l, n => by rw [mcells, List.length_cons, List.range'_succ, factCells, mcells_fact l]
def factEls : List Fct → List Nat → List (List AV)
  | x :: xs, k :: ks => [.str x.1, .bsl k x.2.length] :: factEls xs ks
  | [], _ => []
  | _ :: _, [] => []
theorem factEls_flat : ∀ (xs : List Fct) (ks : List Nat), (factEls xs ks).flatten = factCells xs ks
  | [], _ => rfl
  | _ :: _, [] => rfl
  | x :: xs, k :: ks => by rw [factEls, List.flatten_cons, factEls_flat xs, factCells]; rfl
theorem factEls_len : ∀ (xs : List Fct) (ks : List Nat), ks.length = xs.length → (factEls xs ks).length = xs.length
  | [], _, _ => rfl
  | x :: xs, k :: ks, h => by rw [factEls, List.length_cons, List.length_cons, factEls_len xs ks (by simpa using h)]
theorem factEls_get : ∀ (xs : List Fct) (ks : List Nat) (i : Nat) e, ks.length = xs.length → (factEls xs ks)[i]? = some e → ∃ x k, xs[i]? = some x ∧ ks[i]? = some k ∧ e = [.str x.1, .bsl k x.2.length]
  | [], _, i, e, _, h => by simp [factEls] at h
  | x :: xs, k :: ks, 0, e, _, h => by simp [factEls] at h; exact ⟨x, k, rfl, rfl, h.symm⟩
  | x :: xs, k :: ks, i + 1, e, hl, h => by
    rw [factEls, List.getElem?_cons_succ] at h
    obtain ⟨x', k', h1, h2, h3⟩ := factEls_get xs ks i e (by simpa using hl) h
    exact ⟨x', k', by simpa using h1, by simpa using h2, h3⟩
theorem Abs.Lends.app {a a0 b b0 : List ABox} (h : Lends a a0) (h' : Lends b b0) : Lends (a ++ b) (a0 ++ b0) := by
  induction h with
  | nil => exact h'
  | hide x _ ih => exact .hide x ih
  | lend k cs hc _ ih => exact .lend k cs hc ih
  | map m _ ih => exact .map m ih
theorem lends_mbox : ∀ l : List Fct, Lends (l.map mbox) (l.map mbox)
  | [] => .nil
  | x :: l => .lend _ _ noTk_texts (lends_mbox l)
theorem noTk_facts : ∀ (xs : List Fct) (ks : List Nat), ∀ c ∈ factCells xs ks, noTk c = true
  | [], _, c, h => by cases h
  | _ :: _, [], c, h => by cases h
  | x :: xs, k :: ks, c, h => by
    rw [factCells] at h
    rcases List.mem_cons.1 h with rfl | h
    · rfl
    rcases List.mem_cons.1 h with rfl | h
    · rfl
    exact noTk_facts xs ks c h
theorem merge_mbox (b b0 b1 : List ABox) : ∀ l : List Fct, merge (l.map mbox ++ b) (l.map mbox ++ b0) (l.map mbox ++ b1) = l.map mbox ++ merge b b0 b1
  | [] => rfl
  | x :: l => by
    have := merge_mbox b b0 b1 l
    show mbox x :: merge (l.map mbox ++ b) (l.map mbox ++ b0) (l.map mbox ++ b1) = _
    rw [this]; rfl
theorem Abs.FreezeD.eqs {one : AV → List ABox → Fr → (AV → List ABox → Fr → Prop) → Prop} {b b' : List ABox} {f : Fr} {j j' n n' : Nat} {k : AV → List ABox → Fr → Prop} (e1 : b = b') (e2 : j = j') (e3 : n = n') (h : FreezeD one b' f j' n' k) : FreezeD one b f j n k := by rw [e1, e2, e3]; exact h
theorem elemsK_last {b : List ABox} {t sz sz' m : Nat} {cs : List AV} {k : List AV → Nat → Prop} (h1 : sz' = sz) (h2 : cs.length = m * sz) (hk : k cs m) : elemsK (b ++ [.cells (.row t sz') cs]) sz (.bsl b.length m) k := by
  unfold elemsK
  simp only [List.getElem?_append_right (Nat.le_refl _), Nat.sub_self, List.getElem?_cons_zero]
  exact Need.mk h1 (Need.mk h2 hk)
theorem Abs.ACall.ctxE {C : Con} {f : Nat} {vs vs' : List AV} {b b' : List ABox} {fr : Fr} {k : AV → List ABox → Fr → Prop} (e1 : b = b') (e2 : vs = vs') (h : ACall C true f vs' b' fr k) : ACall C true f vs b fr k := by rw [e1, e2]; exact h
theorem areF_asc {l : List Fct} (h : areF l = true) : Asc flt l := by
  have adj : ∀ i, i + 1 < l.length → flt (l.getD i default) (l.getD (i + 1) default) = true := fun i hi => by
    cases hb : badAt l (i + 1) with
    | true => rw [areF_no hi hb] at h; cases h
    | false =>
      unfold badAt at hb
      rw [Bool.or_eq_false_iff, Bool.and_eq_false_iff, decide_eq_false_iff_not, decide_eq_false_iff_not] at hb
      rcases hb.2 with h1 | h1
      · omega
      · rw [Nat.add_sub_cancel] at h1
        unfold flt ltC
        rw [decide_eq_true_eq]; omega
  have hs : ∀ d i, i + d + 1 < l.length → flt (l.getD i default) (l.getD (i + d + 1) default) = true := by
    intro d
    induction d with
    | zero => exact adj
    | succ d ih => exact fun i hi => flt_sto.trans _ _ _ (ih i (by omega)) (adj (i + d + 1) hi)
  rw [Asc, List.pairwise_iff_getElem]
  intro i j hi hj hij
  have := hs (j - i - 1) i (by omega)
  rw [show i + (j - i - 1) + 1 = j by omega] at this
  simpa [List.getD, hi, hj] using this
theorem findF_not (f : Fct) : ∀ (l : List Fct) (n : Int), 0 ≤ n → findF l f n < 0 → f ∉ l
  | [], _, _, _ => by simp
  | g :: l, n, hn, h => by
    rw [findF] at h
    split at h
    · omega
    · rename_i hg
      intro hm
      rcases List.mem_cons.1 hm with rfl | hm
      · exact hg rfl
      · exact findF_not f l (n + 1) (by omega) h hm
theorem map_getD_range (l : List Fct) : (List.range l.length).map (fun i => l.getD i default) = l := by
  refine List.ext_getElem (by simp) fun i h1 h2 => ?_
  simp [List.getD, h2]
theorem addF_sorted {l : List Fct} {f : Fct} {idx : List Nat} (ha : areF l = true) (hf : findF l f 0 < 0) (hp : idx.Perm (List.range (l ++ [f]).length))
    (hs : (idx.map fun i => (l ++ [f]).getD i default).Pairwise fun x y => ¬ cmpF y x < 0) : (idx.map fun i => (l ++ [f]).getD i default) = ins flt f false l := by
  have hal := areF_asc ha
  have hpm : (idx.map fun i => (l ++ [f]).getD i default).Perm (l ++ [f]) := by
    have := hp.map (fun i => (l ++ [f]).getD i default)
    rwa [map_getD_range] at this
  have hnd : (l ++ [f]).Nodup := by
    refine List.nodup_append.2 ⟨Asc.nodup flt_sto hal, by simp, fun a ha b hb => ?_⟩
    rintro rfl
    exact findF_not f l 0 (Int.le_refl _) hf ((List.mem_singleton.1 hb) ▸ ha)
  refine Asc.unique flt_sto ?_ (ins_asc flt_sto f l hal) fun x => ?_
  · refine (hs.and (hpm.symm.nodup hnd)).imp fun {x y} hxy => ?_
    cases h1 : flt x y with
    | true => rfl
    | false => exact absurd (flt_sto.tri x y h1 (by unfold flt ltC; exact decide_eq_false hxy.1)) hxy.2
  · rw [hpm.mem_iff, ins_mem flt_sto]; simp [or_comm]
theorem factEls_idx (xs : List Fct) (ks : List Nat) (hl : ks.length = xs.length) : ∀ (idx : List Nat), (∀ i ∈ idx, i < xs.length) →
    (idx.map fun i => (factEls xs ks).getD i []).flatten = factCells (idx.map fun i => xs.getD i default) (idx.map fun i => ks.getD i 0)
  | [], _ => rfl
  | i :: idx, h => by
    have hi := h i List.mem_cons_self
    have h1 : (factEls xs ks)[i]? = some ((factEls xs ks).getD i []) := by
      have : i < (factEls xs ks).length := by rw [factEls_len xs ks hl]; exact hi
      simp [List.getD, this]
    obtain ⟨x, k, hx, hk, he⟩ := factEls_get xs ks i _ hl h1
    rw [List.map_cons, List.flatten_cons, List.map_cons, List.map_cons, factCells, factEls_idx xs ks hl idx fun j hj => h j (List.mem_cons_of_mem _ hj), he]
    simp [List.getD, hx, hk]
theorem kill_get : ∀ (ks : List Nat) (b : List ABox) (j : Nat), j ∉ ks → (kill b ks)[j]? = b[j]?
  | [], _, _, _ => rfl
  | k :: ks, b, j, h => by
    rw [kill, kill_get ks _ j fun hm => h (List.mem_cons_of_mem _ hm), List.getElem?_set, if_neg fun (e : k = j) => h (by rw [e]; exact List.mem_cons_self)]
theorem kill_len : ∀ (ks : List Nat) (b : List ABox), (kill b ks).length = b.length
  | [], _ => rfl
  | k :: ks, b => by rw [kill, kill_len ks, List.length_set]
theorem merge_fact (l : List Fct) (x y : ABox) (t m : Nat) (c c' : List AV) (n : Nat) (hn : n = l.length + 3) :
    merge (([x, .dead] : List ABox) ++ l.map mbox ++ ([y] : List ABox) ++ ([.cells (.row t m) c] : List ABox)) (([.dead, .dead] : List ABox) ++ l.map mbox ++ ([.dead] : List ABox) ++ ([.cells (.row t m) c] : List ABox))
      ((([.dead, .dead] : List ABox) ++ l.map mbox ++ ([.dead] : List ABox) ++ ([.cells (.row t m) c] : List ABox)).set n (.cells (.row t m) c')) =
    ([x, .dead] : List ABox) ++ l.map mbox ++ ([y] : List ABox) ++ ([.cells (.row t m) c'] : List ABox) := by
  subst hn
  rw [List.set_append, if_neg (by simp), show l.length + 3 - (([.dead, .dead] : List ABox) ++ l.map mbox ++ ([.dead] : List ABox)).length = 0 from by simp]
  simp only [List.append_assoc]
  show x :: ABox.dead :: merge (l.map mbox ++ _) (l.map mbox ++ _) (l.map mbox ++ _) = _
  rw [merge_mbox]
  rfl
set_option maxHeartbeats 4000000 in
theorem pAddFact.own (l : List Fct) (f : Fct) (h : tFcts.size l + tFct.size f ≤ 1048576) : pAddFact.Own [.list none (facts l), .agg (oldL (tFct.q f))] (.p [fctsT (addF l f), .v (.bool (addOk l f))]) := by
  refine Own.of_irP (code := pAddFact.code) (rs := pAddFact.res) (K := pAddFact.keep) Try.func58 rfl (by kernel_rfl) (Nat.le_of_ble_eq_true rfl) (by kernel_rfl) (by kernel_rfl) ?_
  have hc : pcopyFacts.Ret [.list none (facts l)] (.list (some (0 + (frs tFct l).length)) (tks tFct l 0)) (tFcts.fr l) := by
    have := pcopyFacts.ret l (by omega)
    rw [Nat.zero_add]; exact this
  have hf := pFindFact.ret l f (by omega) (by omega)
  have ha := pAreFacts.ret l (by omega)
  have hi := pIsFact.ret f (by omega)
  have hfl : (facts l).length = l.length := length_rows _ _
  have hcond : (!areF l || !isFactF f || decide (0 ≤ findF l f 0) || ((facts l).length : Int) == 24) = !addOk l f := by
    rw [hfl]; unfold addOk
    have e1 : decide (0 ≤ findF l f 0) = !decide (findF l f 0 < 0) := by
      by_cases h1 : findF l f 0 < 0
      · rw [decide_eq_true h1, decide_eq_false (by omega)]; rfl
      · rw [decide_eq_false h1, decide_eq_true (by omega)]; rfl
    have e2 : ((l.length : Int) == 24) = decide ((l.length : Int) = 24) := rfl
    rw [e1, e2]
    cases areF l <;> cases isFactF f <;> cases decide (findF l f 0 < 0) <;> cases decide ((l.length : Int) = 24) <;> rfl
  unfold addF
  cases hok : addOk l f with
  | false =>
    rw [hok] at hcond
    rw [if_neg (by simp)]
    repeat' first
      | contradiction | exact trivial
      | (conv => whnf
         first | refine Need.mk (fun h => h) ?_ | refine Need.mk rfl ?_ | refine Need.mk ⟨rfl, Nat.le_of_ble_eq_true rfl⟩ ?_ | refine Need.mk (Nat.le_of_ble_eq_true rfl) ?_ | refine Need.fin ?_ | refine Need.mk ?_ ?_ | refine Ix.strsF rfl ?_ | refine Ix.strs rfl ?_ ?_ | refine Cut.strs rfl ?_ ?_ | refine Ix.mapF (fun _ => rfl) ?_ | refine Ix.map (fun _ => rfl) ?_ ?_ | refine Cut.map (fun _ => rfl) ?_ ?_ | refine Fork.yes (by assumption) ?_ | refine Fork.no (by assumption) ?_ | refine Fork.decYes (by omega) ?_ | refine Fork.decNo (by omega) ?_ | refine Fork.dec (fun _ => ?_) (fun _ => ?_) | refine Fork.bne (fun _ => ?_) (fun _ => ?_) | refine Fork.beq (fun _ => ?_) (fun _ => ?_) | refine Fork.seq (fun _ => ?_) (fun _ => ?_) | refine Fork.sne (fun _ => ?_) (fun _ => ?_) | refine Fork.neg (fun _ => ?_) (fun _ => ?_) | refine Fork.mk (fun _ => ?_) (fun _ => ?_) | refine HAlt.mk ?_ ?_ | apply HJoin.mk3 | exact HEnd.mk rfl rfl rfl | refine HEnd.mk ?_ ?_ ?_ | refine Round.mk ?_ | refine NilQ.mk (fun b hb => ?_) | refine forceK_of ?_ | refine forceBx_of ?_ | refine unG_old ?_ | refine unG_gv ?_ | refine Lit.read rfl ?_ | refine FinVal.keep ?_ | refine FinAgg.keep ?_ | refine Final.mk rfl rfl | refine Final.mk ?_ rfl | refine Final.mk ?_ ?_ | refine FinalT.mk ?_ ?_ | refine FinalC.allA ?_ | refine ACall.scalA _ _ (ha) rfl ?_ | refine AQCall.mkA _ _ (fun hg => ha) rfl ?_ | refine AGCall.mkA _ _ (fun hg => ha) rfl ?_ | refine ACall.scalA _ _ (hi) rfl ?_ | refine AQCall.mkA _ _ (fun hg => hi) rfl ?_ | refine AGCall.mkA _ _ (fun hg => hi) rfl ?_ | refine ACall.scalA _ _ (hf) rfl ?_ | refine AQCall.mkA _ _ (fun hg => hf) rfl ?_ | refine AGCall.mkA _ _ (fun hg => hf) rfl ?_ | refine ACall.mkFcts _ _ (hc) (by repeat' first | exact SeesL.nil | refine SeesL.cons ?_ ?_ | exact SeesB.of0 (Sees0.val _) | exact SeesB.of0 (Sees0.str _) | exact SeesB.of0 (Sees0.olds _ _) | exact SeesB.of0 (Sees0.old _) | exact SeesB.of0 (Sees0.oldagg _) | exact SeesB.of0 Sees0.nil | exact Sees0.val _ | exact Sees0.str _ | exact Sees0.olds _ _ | exact Sees0.old _ | exact Sees0.oldagg _ | exact Sees0.nil | exact SeesB.of0 (Sees0.any _) | assumption | exact sees_gv _ _ _ (by assumption) (by first | assumption | exact BoxIn.last _ _ | exact BoxIn.more (BoxIn.last _ _) _) | refine SeesB.agg ?_ | refine Sees0.agg ?_ | exact SeesB.of0 (Sees0.clo SeesL.nil SeesL.nil) | exact Sees0.clo SeesL.nil SeesL.nil | exact SeesB.of0 (Sees0.list rfl) | exact Sees0.list rfl) ?_)
      | refine AV.bool_congr ?_ | refine AV.int_congr ?_ | refine AV.str_congr ?_ | refine AV.list_congr ?_ | with_reducible rfl | refine fr1 ?_ | refine fr2 ?_ ?_
    conv => whnf
    exact ownP_fcts l false
  | true =>
    rw [hok] at hcond
    rw [if_pos rfl]
    have hco := pcopyFacts.own l (by omega)
    obtain ⟨haf, hff, h24⟩ : areF l = true ∧ findF l f 0 < 0 ∧ l.length ≤ 24 := by
      have h1 := hok
      unfold addOk at h1
      rw [Bool.and_eq_true, Bool.and_eq_true, Bool.and_eq_true, decide_eq_true_eq] at h1
      refine ⟨h1.1.1.1, h1.1.2, ?_⟩
      rcases Nat.lt_or_ge 24 l.length with h2 | h2
      · have h3 := h1.1.1.1
        rw [areF_long (by omega)] at h3; cases h3
      · exact h2
    have hcf : pcopyFact.Own [.agg (oldL (tFct.q f))] (.a (tFct.q f)) := Ty.ownA tFct (pcopyFact.ret f (by omega))
    repeat' first
      | contradiction | exact trivial
      | (conv => whnf
         first | refine Need.mk (fun h => h) ?_ | refine Need.mk rfl ?_ | refine Need.mk ⟨rfl, Nat.le_of_ble_eq_true rfl⟩ ?_ | refine Need.mk (Nat.le_of_ble_eq_true rfl) ?_ | refine Need.fin ?_ | refine Need.mk ?_ ?_ | refine Ix.strsF rfl ?_ | refine Ix.strs rfl ?_ ?_ | refine Cut.strs rfl ?_ ?_ | refine Ix.mapF (fun _ => rfl) ?_ | refine Ix.map (fun _ => rfl) ?_ ?_ | refine Cut.map (fun _ => rfl) ?_ ?_ | refine Fork.yes (by assumption) ?_ | refine Fork.no (by assumption) ?_ | refine Fork.decYes (by omega) ?_ | refine Fork.decNo (by omega) ?_ | refine Fork.dec (fun _ => ?_) (fun _ => ?_) | refine Fork.bne (fun _ => ?_) (fun _ => ?_) | refine Fork.beq (fun _ => ?_) (fun _ => ?_) | refine Fork.seq (fun _ => ?_) (fun _ => ?_) | refine Fork.sne (fun _ => ?_) (fun _ => ?_) | refine Fork.neg (fun _ => ?_) (fun _ => ?_) | refine Fork.mk (fun _ => ?_) (fun _ => ?_) | refine HAlt.mk ?_ ?_ | apply HJoin.mk3 | exact HEnd.mk rfl rfl rfl | refine HEnd.mk ?_ ?_ ?_ | refine Round.mk ?_ | refine NilQ.mk (fun b hb => ?_) | refine forceK_of ?_ | refine forceBx_of ?_ | refine unG_old ?_ | refine unG_gv ?_ | refine Lit.read rfl ?_ | refine FinVal.keep ?_ | refine FinAgg.keep ?_ | refine Final.mk rfl rfl | refine Final.mk ?_ rfl | refine Final.mk ?_ ?_ | refine FinalT.mk ?_ ?_ | refine FinalC.allA ?_)
      | refine AV.bool_congr ?_ | refine AV.int_congr ?_ | refine AV.str_congr ?_ | refine AV.list_congr ?_ | with_reducible rfl | refine fr1 ?_ | refine fr2 ?_ ?_
    conv => whnf
    refine ACall.unb [.list none (facts l)] (fctsT l) hco (.cons (SeesB.of0 (Sees0.olds _ _)) .nil) ?_
    rw [gv_fctsT, gb_fctsT]
    repeat' first
      | contradiction | exact trivial
      | (conv => whnf
         first | refine Need.mk (fun h => h) ?_ | refine Need.mk rfl ?_ | refine Need.mk ⟨rfl, Nat.le_of_ble_eq_true rfl⟩ ?_ | refine Need.mk (Nat.le_of_ble_eq_true rfl) ?_ | refine Need.fin ?_ | refine Need.mk ?_ ?_ | refine Ix.strsF rfl ?_ | refine Ix.strs rfl ?_ ?_ | refine Cut.strs rfl ?_ ?_ | refine Ix.mapF (fun _ => rfl) ?_ | refine Ix.map (fun _ => rfl) ?_ ?_ | refine Cut.map (fun _ => rfl) ?_ ?_ | refine Fork.yes (by assumption) ?_ | refine Fork.no (by assumption) ?_ | refine Fork.decYes (by omega) ?_ | refine Fork.decNo (by omega) ?_ | refine Fork.dec (fun _ => ?_) (fun _ => ?_) | refine Fork.bne (fun _ => ?_) (fun _ => ?_) | refine Fork.beq (fun _ => ?_) (fun _ => ?_) | refine Fork.seq (fun _ => ?_) (fun _ => ?_) | refine Fork.sne (fun _ => ?_) (fun _ => ?_) | refine Fork.neg (fun _ => ?_) (fun _ => ?_) | refine Fork.mk (fun _ => ?_) (fun _ => ?_) | refine HAlt.mk ?_ ?_ | apply HJoin.mk3 | exact HEnd.mk rfl rfl rfl | refine HEnd.mk ?_ ?_ ?_ | refine Round.mk ?_ | refine NilQ.mk (fun b hb => ?_) | refine forceK_of ?_ | refine forceBx_of ?_ | refine unG_old ?_ | refine unG_gv ?_ | refine Lit.read rfl ?_ | refine FinVal.keep ?_ | refine FinAgg.keep ?_ | refine Final.mk rfl rfl | refine Final.mk ?_ rfl | refine Final.mk ?_ ?_ | refine FinalT.mk ?_ ?_ | refine FinalC.allA ?_ | refine ACall.scalA _ _ (ha) rfl ?_ | refine AQCall.mkA _ _ (fun hg => ha) rfl ?_ | refine AGCall.mkA _ _ (fun hg => ha) rfl ?_ | refine ACall.scalA _ _ (hi) rfl ?_ | refine AQCall.mkA _ _ (fun hg => hi) rfl ?_ | refine AGCall.mkA _ _ (fun hg => hi) rfl ?_ | refine ACall.scalA _ _ (hf) rfl ?_ | refine AQCall.mkA _ _ (fun hg => hf) rfl ?_ | refine AGCall.mkA _ _ (fun hg => hf) rfl ?_ | refine ACall.unbA _ _ (hcf) ?_)
      | refine AV.bool_congr ?_ | refine AV.int_congr ?_ | refine AV.str_congr ?_ | refine AV.list_congr ?_ | with_reducible rfl | refine fr1 ?_ | refine fr2 ?_ ?_
    conv => whnf
    refine Lit.box ?_
    repeat' first
      | contradiction | exact trivial
      | (conv => whnf
         first | refine Need.mk (fun h => h) ?_ | refine Need.mk rfl ?_ | refine Need.mk ⟨rfl, Nat.le_of_ble_eq_true rfl⟩ ?_ | refine Need.mk (Nat.le_of_ble_eq_true rfl) ?_ | refine Need.fin ?_ | refine Need.mk ?_ ?_ | refine Ix.strsF rfl ?_ | refine Ix.strs rfl ?_ ?_ | refine Cut.strs rfl ?_ ?_ | refine Ix.mapF (fun _ => rfl) ?_ | refine Ix.map (fun _ => rfl) ?_ ?_ | refine Cut.map (fun _ => rfl) ?_ ?_ | refine Fork.yes (by assumption) ?_ | refine Fork.no (by assumption) ?_ | refine Fork.decYes (by omega) ?_ | refine Fork.decNo (by omega) ?_ | refine Fork.dec (fun _ => ?_) (fun _ => ?_) | refine Fork.bne (fun _ => ?_) (fun _ => ?_) | refine Fork.beq (fun _ => ?_) (fun _ => ?_) | refine Fork.seq (fun _ => ?_) (fun _ => ?_) | refine Fork.sne (fun _ => ?_) (fun _ => ?_) | refine Fork.neg (fun _ => ?_) (fun _ => ?_) | refine Fork.mk (fun _ => ?_) (fun _ => ?_) | refine HAlt.mk ?_ ?_ | apply HJoin.mk3 | exact HEnd.mk rfl rfl rfl | refine HEnd.mk ?_ ?_ ?_ | refine Round.mk ?_ | refine NilQ.mk (fun b hb => ?_) | refine forceK_of ?_ | refine forceBx_of ?_ | refine unG_old ?_ | refine unG_gv ?_ | refine Lit.read rfl ?_ | refine FinVal.keep ?_ | refine FinAgg.keep ?_ | refine Final.mk rfl rfl | refine Final.mk ?_ rfl | refine Final.mk ?_ ?_ | refine FinalT.mk ?_ ?_ | refine FinalC.allA ?_)
      | refine AV.bool_congr ?_ | refine AV.int_congr ?_ | refine AV.str_congr ?_ | refine AV.list_congr ?_ | with_reducible rfl | refine fr1 ?_ | refine fr2 ?_ ?_
    · exact length_mcells _ _
    refine elemsK_last rfl ?_ ?_
    · rfl
    have hln : l.length ≤ 1048576 := by have := tFcts_size l; omega
    repeat' first
      | contradiction | exact trivial
      | (conv => whnf
         first | refine Need.mk (fun h => h) ?_ | refine Need.mk rfl ?_ | refine Need.mk ⟨rfl, Nat.le_of_ble_eq_true rfl⟩ ?_ | refine Need.mk (Nat.le_of_ble_eq_true rfl) ?_ | refine Need.fin ?_ | refine Need.mk ?_ ?_ | refine Ix.strsF rfl ?_ | refine Ix.strs rfl ?_ ?_ | refine Cut.strs rfl ?_ ?_ | refine Ix.mapF (fun _ => rfl) ?_ | refine Ix.map (fun _ => rfl) ?_ ?_ | refine Cut.map (fun _ => rfl) ?_ ?_ | refine Fork.yes (by assumption) ?_ | refine Fork.no (by assumption) ?_ | refine Fork.decYes (by omega) ?_ | refine Fork.decNo (by omega) ?_ | refine Fork.dec (fun _ => ?_) (fun _ => ?_) | refine Fork.bne (fun _ => ?_) (fun _ => ?_) | refine Fork.beq (fun _ => ?_) (fun _ => ?_) | refine Fork.seq (fun _ => ?_) (fun _ => ?_) | refine Fork.sne (fun _ => ?_) (fun _ => ?_) | refine Fork.neg (fun _ => ?_) (fun _ => ?_) | refine Fork.mk (fun _ => ?_) (fun _ => ?_) | refine HAlt.mk ?_ ?_ | apply HJoin.mk3 | exact HEnd.mk rfl rfl rfl | refine HEnd.mk ?_ ?_ ?_ | refine Round.mk ?_ | refine NilQ.mk (fun b hb => ?_) | refine forceK_of ?_ | refine forceBx_of ?_ | refine unG_old ?_ | refine unG_gv ?_ | refine Lit.read rfl ?_ | refine FinVal.keep ?_ | refine FinAgg.keep ?_ | refine Final.mk rfl rfl | refine Final.mk ?_ rfl | refine Final.mk ?_ ?_ | refine FinalT.mk ?_ ?_ | refine FinalC.allA ?_)
      | refine AV.bool_congr ?_ | refine AV.int_congr ?_ | refine AV.str_congr ?_ | refine AV.list_congr ?_ | with_reducible rfl | refine fr1 ?_ | refine fr2 ?_ ?_
    · simp only [List.length_singleton]; omega
    conv => whnf
    refine ACall.ctxE (b' := [.cells .var (oldL (tFct.q f)), .dead] ++ (l ++ [f]).map mbox ++ [.cells (.row 80 2) [.str f.1, .bsl (l.length + 2) f.2.length]] ++ [.cells (.row 80 2) (factCells (l ++ [f]) (List.range' 2 (l.length + 1)))])
      (vs' := [.bsl (l.length + 4) (l.length + 1), .clo 126 [] []]) ?_ ?_ ?_
    · rw [gb_one, gvL_one]
      have e1 := mcells_snoc f l 2
      have e2 := mcells_fact (l ++ [f]) 2
      rw [List.length_append, List.length_singleton] at e2
      rw [← e2, e1]
      simp [List.set_append, Nat.add_comm]
      omega
    · rw [gb_one]; simp
    obtain ⟨ks, hks⟩ : ∃ ks, ks = List.range' 2 (l.length + 1) := ⟨_, rfl⟩
    have hkl : ks.length = (l ++ [f]).length := by rw [hks]; simp
    rw [← hks]
    have hll : (l ++ [f]).length = l.length + 1 := by rw [List.length_append, List.length_singleton]
    obtain ⟨B0, hB0⟩ : ∃ B0 : List ABox, B0 = ([.dead, .dead] : List ABox) ++ (l ++ [f]).map mbox ++ ([.dead] : List ABox) ++ ([.cells (.row 80 2) (factCells (l ++ [f]) ks)] : List ABox) := ⟨_, rfl⟩
    have hj : B0[l.length + 4]? = some (.cells (.row 80 2) (factEls (l ++ [f]) ks).flatten) := by
      rw [hB0, factEls_flat, List.getElem?_append_right (by simp)]
      simp
    have hes : ∀ e ∈ factEls (l ++ [f]) ks, e.length = 2 := fun e he => by
      obtain ⟨i, hi⟩ := List.getElem?_of_mem he
      obtain ⟨x, k, _, _, rfl⟩ := factEls_get _ _ i e hkl hi
      rfl
    have hz : ∀ x ∈ l ++ [f], tFct.size x ≤ 1048576 := fun x hx => by
      rcases List.mem_append.1 hx with hx | hx
      · have := listSize_mem tFct hx; have := tFcts_size l; omega
      · rw [List.mem_singleton.1 hx]; omega
    have hv : ∀ (i : Nat) e x, (factEls (l ++ [f]) ks)[i]? = some e → (l ++ [f])[i]? = some x → ∀ bx, (∀ k, k ≠ l.length + 4 → bx[k]? = B0[k]?) → SeesL (SeesB bx) e (oldL (tFct.q x)) := by
      intro i e x he hx bx hbx
      obtain ⟨x', k, hx', hk, rfl⟩ := factEls_get _ _ i e hkl he
      obtain rfl : x' = x := by rw [hx] at hx'; cases hx'; rfl
      have hi := getElem?_lt hx
      have hk2 : k = 2 + i := by rw [hks, List.getElem?_range' (by omega)] at hk; cases hk; omega
      have hbk : bx[k]? = some (mbox x') := by
        rw [hbx k (by omega), hB0, hk2, List.getElem?_append_left (by simp; omega), List.getElem?_append_left (by simp; omega), List.getElem?_append_right (by simp), show 2 + i - ([ABox.dead, ABox.dead] : List ABox).length = i from by show 2 + i - 2 = i; omega, List.getElem?_map, hx]
        rfl
      have h2 : SeesB bx (.bsl k x'.2.length) (.list none (Abs.strs x'.2)) := SeesB.strs (t := 9) (hbk.trans (by rw [mbox, strs_flatten]))
      exact .cons (SeesB.of0 (Sees0.str _)) (.cons h2 .nil)
    have hcx := slSortF.ctx B0 (l.length + 4) (factEls (l ++ [f]) ks) (l ++ [f]) hj (factEls_len _ _ hkl) hes (by rw [hll]; omega) (by rw [hll]; omega) hz hv
    refine ACall.ctx rfl B0 _ _ hcx
      (by rw [hB0]; exact Lends.app (Lends.app (Lends.app (.hide _ (.hide _ .nil)) (lends_mbox _)) (.hide _ .nil)) (.lend _ _ (noTk_facts _ _) .nil)) (.cons (.inl ⟨by rw [hll], rfl⟩) (.cons (.inl ⟨rfl, rfl⟩) .nil)) ?_
    rintro r b1 ⟨rfl, idx, hperm, hsorted, rfl⟩
    have hin : ∀ i ∈ idx, i < (l ++ [f]).length := fun i hi => List.mem_range.1 (hperm.mem_iff.1 hi)
    have hlx : idx.length = l.length + 1 := by rw [hperm.length_eq, List.length_range, hll]
    rw [factEls_idx (l ++ [f]) ks hkl idx hin, addF_sorted haf hff hperm hsorted]
    obtain ⟨kx, hkx⟩ : ∃ kx, kx = idx.map fun i => ks.getD i 0 := ⟨_, rfl⟩
    obtain ⟨ys, hys⟩ : ∃ ys, ys = ins flt f false l := ⟨_, rfl⟩
    have hyl : ys.length = l.length + 1 := by rw [hys, ← addF_sorted haf hff hperm hsorted, List.length_map, hlx]
    have hkxl : kx.length = ys.length := by rw [hkx, List.length_map, hyl, hlx]
    have hysi : ys = idx.map fun i => (l ++ [f]).getD i default := by rw [hys, addF_sorted haf hff hperm hsorted]
    have hkj : ∀ j, j < l.length + 1 → ks.getD j 0 = 2 + j := fun j hj => by
      rw [hks, List.getD, List.getElem?_range' hj]; simp
    have hkx2 : kx = idx.map (2 + ·) := by
      rw [hkx]
      exact List.map_congr_left fun i hi => hkj i (by have := hin i hi; rw [hll] at this; exact this)
    have hnd : kx.Nodup := by
      rw [hkx2]
      exact List.Pairwise.map (2 + ·) (fun a b (hab : a ≠ b) e => hab (by simpa using e)) (hperm.symm.nodup List.nodup_range)
    have hbx : ∀ (i : Nat) k x, kx[i]? = some k → ys[i]? = some x → (([.cells .var (oldL (tFct.q f)), .dead] : List ABox) ++ (l ++ [f]).map mbox ++ ([.cells (.row 80 2) [.str f.1, .bsl (l.length + 2) f.2.length]] : List ABox) ++ ([.cells (.row 80 2) (factCells ys kx)] : List ABox))[k]? = some (mbox x) := by
      intro i k x hk hx
      rw [hkx2, List.getElem?_map] at hk
      rw [hysi, List.getElem?_map] at hx
      cases hj : idx[i]? with
      | none => rw [hj] at hk; cases hk
      | some j =>
        rw [hj] at hk hx
        have hjl := hin j (List.mem_of_getElem? hj)
        obtain rfl : 2 + j = k := by simpa using hk
        obtain rfl : (l ++ [f]).getD j default = x := by simpa using hx
        rw [List.getElem?_append_left (by simp; rw [hll] at hjl; omega), List.getElem?_append_left (by simp; rw [hll] at hjl; omega), List.getElem?_append_right (by simp), show 2 + j - ([ABox.cells RK.var (oldL (tFct.q f)), ABox.dead] : List ABox).length = j from by show 2 + j - 2 = j; omega, List.getElem?_map]
        rw [List.getD, List.getElem?_eq_getElem hjl]; rfl
    have hjx : l.length + 4 ∉ kx := fun hm => by
      rw [hkx2] at hm
      obtain ⟨i, hi, he⟩ := List.mem_map.1 hm
      have := hin i hi
      rw [hll] at this; omega
    rw [← hkx, ← hys]
    rw [hB0, merge_fact (l ++ [f]) _ _ _ _ _ _ (l.length + 4) (by rw [hll])]
    conv => whnf
    repeat' first
      | contradiction | exact trivial
      | (conv => whnf
         first | refine Need.mk (fun h => h) ?_ | refine Need.mk rfl ?_ | refine Need.mk ⟨rfl, Nat.le_of_ble_eq_true rfl⟩ ?_ | refine Need.mk (Nat.le_of_ble_eq_true rfl) ?_ | refine Need.fin ?_ | refine Need.mk ?_ ?_ | refine Ix.strsF rfl ?_ | refine Ix.strs rfl ?_ ?_ | refine Cut.strs rfl ?_ ?_ | refine Ix.mapF (fun _ => rfl) ?_ | refine Ix.map (fun _ => rfl) ?_ ?_ | refine Cut.map (fun _ => rfl) ?_ ?_ | refine Fork.yes (by assumption) ?_ | refine Fork.no (by assumption) ?_ | refine Fork.decYes (by omega) ?_ | refine Fork.decNo (by omega) ?_ | refine Fork.dec (fun _ => ?_) (fun _ => ?_) | refine Fork.bne (fun _ => ?_) (fun _ => ?_) | refine Fork.beq (fun _ => ?_) (fun _ => ?_) | refine Fork.seq (fun _ => ?_) (fun _ => ?_) | refine Fork.sne (fun _ => ?_) (fun _ => ?_) | refine Fork.neg (fun _ => ?_) (fun _ => ?_) | refine Fork.mk (fun _ => ?_) (fun _ => ?_) | refine HAlt.mk ?_ ?_ | apply HJoin.mk3 | exact HEnd.mk rfl rfl rfl | refine HEnd.mk ?_ ?_ ?_ | refine Round.mk ?_ | refine NilQ.mk (fun b hb => ?_) | refine forceK_of ?_ | refine forceBx_of ?_ | refine unG_old ?_ | refine unG_gv ?_ | refine Lit.read rfl ?_ | refine FinVal.keep ?_ | refine FinAgg.keep ?_ | refine Final.mk rfl rfl | refine Final.mk ?_ rfl | refine Final.mk ?_ ?_ | refine FinalT.mk ?_ ?_ | refine FinalC.allA ?_)
      | refine AV.bool_congr ?_ | refine AV.int_congr ?_ | refine AV.str_congr ?_ | refine AV.list_congr ?_ | with_reducible rfl | refine fr1 ?_ | refine fr2 ?_ ?_
    refine FreezeD.eqs (b' := ([.cells .var (oldL (tFct.q f)), .dead] : List ABox) ++ (l ++ [f]).map mbox ++ ([.cells (.row 80 2) [.str f.1, .bsl (l.length + 2) f.2.length]] : List ABox) ++ ([.cells (.row 80 2) (factCells ys kx)] : List ABox)) (j' := l.length + 4) (n' := l.length + 1) rfl ?_ ?_ (FreezeD.deep 80 2 (factCells ys kx) ?_ ?_)
    · rw [gb_one]; simp
    · rfl
    · rw [List.getElem?_append_right (by simp)]; simp
    refine finL_facts _ ys kx _ _ _ hkxl hnd hbx ⟨?_, ?_⟩
    · rw [kill_get _ _ _ hjx, List.getElem?_append_right (by simp)]; simp
    refine Freeze.mk (tks tFct ys 0) _ 80 2 ?_ rfl (by rw [length_tks, hyl]) (tks_sz tFct ys 0) (tks_nr tFct ys 0) ?_
    · rw [List.getElem?_set, if_pos rfl, if_pos (by rw [kill_len]; simp)]
      rfl
    repeat' first
      | contradiction | exact trivial
      | (conv => whnf
         first | refine Need.mk (fun h => h) ?_ | refine Need.mk rfl ?_ | refine Need.mk ⟨rfl, Nat.le_of_ble_eq_true rfl⟩ ?_ | refine Need.mk (Nat.le_of_ble_eq_true rfl) ?_ | refine Need.fin ?_ | refine Need.mk ?_ ?_ | refine Ix.strsF rfl ?_ | refine Ix.strs rfl ?_ ?_ | refine Cut.strs rfl ?_ ?_ | refine Ix.mapF (fun _ => rfl) ?_ | refine Ix.map (fun _ => rfl) ?_ ?_ | refine Cut.map (fun _ => rfl) ?_ ?_ | refine Fork.yes (by assumption) ?_ | refine Fork.no (by assumption) ?_ | refine Fork.decYes (by omega) ?_ | refine Fork.decNo (by omega) ?_ | refine Fork.dec (fun _ => ?_) (fun _ => ?_) | refine Fork.bne (fun _ => ?_) (fun _ => ?_) | refine Fork.beq (fun _ => ?_) (fun _ => ?_) | refine Fork.seq (fun _ => ?_) (fun _ => ?_) | refine Fork.sne (fun _ => ?_) (fun _ => ?_) | refine Fork.neg (fun _ => ?_) (fun _ => ?_) | refine Fork.mk (fun _ => ?_) (fun _ => ?_) | refine HAlt.mk ?_ ?_ | apply HJoin.mk3 | exact HEnd.mk rfl rfl rfl | refine HEnd.mk ?_ ?_ ?_ | refine Round.mk ?_ | refine NilQ.mk (fun b hb => ?_) | refine forceK_of ?_ | refine forceBx_of ?_ | refine unG_old ?_ | refine unG_gv ?_ | refine Lit.read rfl ?_ | refine FinVal.keep ?_ | refine FinAgg.keep ?_ | refine Final.mk rfl rfl | refine Final.mk ?_ rfl | refine Final.mk ?_ ?_ | refine FinalT.mk ?_ ?_ | refine FinalC.allA ?_)
      | refine AV.bool_congr ?_ | refine AV.int_congr ?_ | refine AV.str_congr ?_ | refine AV.list_congr ?_ | with_reducible rfl | refine fr1 ?_ | refine fr2 ?_ ?_
    conv => whnf
    have hend := ownP_fcts ys true
    rw [show tFcts.fr ys = frs tFct ys ++ [(80, 2, ys.length)] from rfl, hyl, Nat.zero_add] at hend
    exact hend
end Go.Proofs.Ytimcfgokocihnaa
namespace Go.Proofs.Ytimcfgokocihnaa
open Abs
theorem ins_sizeF (f : Fct) : ∀ (d : Bool) (l : List Fct), listSize tFct (ins flt f d l) ≤ listSize tFct l + tFct.size f
  | true, l => by rw [ins_true]; omega
  | false, [] => by simp [ins, listSize]
  | false, x :: l => by
    have := ins_sizeF f false l
    rw [ins]
    split
    · simp only [listSize] at *; omega
    · split
      · rw [ins_true]; simp only [listSize] at *; omega
      · rw [ins_true]; simp only [listSize] at *; omega
theorem lawExactAddFact.ret (a0 : List Fct) (a1 : Fct) (hb0 : tFcts.bd a0) (hb1 : tFct.bd a1) : lawExactAddFact.Ret [.list none (rows tFct a0), .agg (oldL (tFct.q a1))] (.val (.bool true)) [] := by
  refine lawExactAddFact.of_own a0 a1 hb0 hb1 fun h => ⟨addF a0 a1, addOk a0 a1, ?_, sAddFact.own a0 a1 h, pAddFact.own a0 a1 h⟩
  rw [tFcts_size] at h ⊢
  have h1 := ins_sizeF a1 false a0
  have h2 := ins_len (lt := flt) a1 false a0
  unfold addF
  split <;> omega
end Go.Proofs.Ytimcfgokocihnaa
namespace Go.Proofs.Ytimcfgokocihnaa
def headSigns : List Nat := [104, 97, 114, 110, 101, 115, 115, 32, 54, 51, 102, 101, 54, 51, 49, 48, 50, 53, 99, 49, 50, 55, 57, 102, 102, 49, 98, 50, 52, 102, 101, 97, 51, 57, 56, 50, 48, 52, 57, 51, 50, 99, 102, 57, 48, 48, 51, 52, 97, 50, 49, 55, 50, 51, 101, 56, 98, 54, 99, 101, 57, 55, 99, 54, 57, 57, 102, 54, 97, 53, 99, 53, 32, 99, 117, 116, 32, 97, 116, 32, 108, 111, 111, 112, 46, 101, 120, 97, 109, 112, 108, 101, 47, 103, 48, 51, 48, 49, 53, 47, 108, 97, 119, 115, 46, 70, 110, 69, 120, 97, 99, 116, 73, 115, 65, 99, 116, 105, 111, 110, 32, 108, 111, 111, 112, 46, 101, 120, 97, 109, 112, 108, 101, 47, 103, 48, 51, 48, 49, 53, 47, 108, 97, 119, 115, 46, 70, 110, 69, 120, 97, 99, 116, 66, 111, 117, 110, 100, 86, 97, 114, 115, 32, 108, 111, 111, 112, 46, 101, 120, 97, 109, 112, 108, 101, 47, 103, 48, 51, 48, 49, 53, 47, 108, 97, 119, 115, 46, 70, 110, 69, 120, 97, 99, 116, 82, 117, 108, 101, 86, 97, 114, 115, 32, 108, 111, 111, 112, 46, 101, 120, 97, 109, 112, 108, 101, 47, 103, 48, 51, 48, 49, 53, 47, 108, 97, 119, 115, 46, 70, 110, 69, 120, 97, 99, 116, 70, 105, 110, 100, 82, 117, 108, 101, 32, 108, 111, 111, 112, 46, 101, 120, 97, 109, 112, 108, 101, 47, 103, 48, 51, 48, 49, 53, 47, 108, 97, 119, 115, 46, 70, 110, 69, 120, 97, 99, 116, 83, 112, 101, 99, 105, 102, 105, 99, 105, 116, 121, 32, 108, 111, 111, 112, 46, 101, 120, 97, 109, 112, 108, 101, 47, 103, 48, 51, 48, 49, 53, 47, 108, 97, 119, 115, 46, 70, 110, 69, 120, 97, 99, 116, 82, 101, 97, 100, 115, 79, 102, 32, 108, 111, 111, 112, 46, 101, 120, 97, 109, 112, 108, 101, 47, 103, 48, 51, 48, 49, 53, 47, 108, 97, 119, 115, 46, 70, 110, 69, 120, 97, 99, 116, 87, 114, 105, 116, 101, 115, 79, 102, 32, 108, 111, 111, 112, 46, 101, 120, 97, 109, 112, 108, 101, 47, 103, 48, 51, 48, 49, 53, 47, 108, 97, 119, 115, 46, 70, 110, 69, 120, 97, 99, 116, 70, 111, 114, 109, 97, 116, 65, 99, 116, 105, 111, 110, 32, 108, 111, 111, 112, 46, 101, 120, 97, 109, 112, 108, 101, 47, 103, 48, 51, 48, 49, 53, 47, 108, 97, 119, 115, 46, 70, 110, 69, 120, 97, 99, 116, 83, 97, 109, 101, 82, 117, 108, 101, 32, 108, 111, 111, 112, 46, 101, 120, 97, 109, 112, 108, 101, 47, 103, 48, 51, 48, 49, 53, 47, 108, 97, 119, 115, 46, 70, 110, 69, 120, 97, 99, 116, 69, 120, 116, 101, 110, 100, 32, 108, 111, 111, 112, 46, 101, 120, 97, 109, 112, 108, 101, 47, 103, 48, 51, 48, 49, 53, 47, 108, 97, 119, 115, 46, 70, 110, 69, 120, 97, 99, 116, 65, 100, 100, 70, 97, 99, 116, 32, 108, 111, 111, 112, 46, 101, 120, 97, 109, 112, 108, 101, 47, 103, 48, 51, 48, 49, 53, 47, 108, 97, 119, 115, 46, 70, 110, 69, 120, 97, 99, 116, 82, 101, 109, 111, 118, 101, 70, 97, 99, 116]
theorem Abs.head : Try.prog.initOrder = String.ofList (headSigns.map Char.ofNat) := by kernel_rfl
theorem Abs.signs : Try.prog.initOrder.toList = headSigns.map Char.ofNat := by rw [Abs.head, String.toList_ofList]
def headWords : List (List Nat) := [[99, 117, 116], [97, 116], [108, 111, 111, 112, 46, 101, 120, 97, 109, 112, 108, 101, 47, 103, 48, 51, 48, 49, 53, 47, 108, 97, 119, 115, 46, 70, 110, 69, 120, 97, 99, 116, 73, 115, 65, 99, 116, 105, 111, 110], [108, 111, 111, 112, 46, 101, 120, 97, 109, 112, 108, 101, 47, 103, 48, 51, 48, 49, 53, 47, 108, 97, 119, 115, 46, 70, 110, 69, 120, 97, 99, 116, 66, 111, 117, 110, 100, 86, 97, 114, 115], [108, 111, 111, 112, 46, 101, 120, 97, 109, 112, 108, 101, 47, 103, 48, 51, 48, 49, 53, 47, 108, 97, 119, 115, 46, 70, 110, 69, 120, 97, 99, 116, 82, 117, 108, 101, 86, 97, 114, 115], [108, 111, 111, 112, 46, 101, 120, 97, 109, 112, 108, 101, 47, 103, 48, 51, 48, 49, 53, 47, 108, 97, 119, 115, 46, 70, 110, 69, 120, 97, 99, 116, 70, 105, 110, 100, 82, 117, 108, 101], [108, 111, 111, 112, 46, 101, 120, 97, 109, 112, 108, 101, 47, 103, 48, 51, 48, 49, 53, 47, 108, 97, 119, 115, 46, 70, 110, 69, 120, 97, 99, 116, 83, 112, 101, 99, 105, 102, 105, 99, 105, 116, 121], [108, 111, 111, 112, 46, 101, 120, 97, 109, 112, 108, 101, 47, 103, 48, 51, 48, 49, 53, 47, 108, 97, 119, 115, 46, 70, 110, 69, 120, 97, 99, 116, 82, 101, 97, 100, 115, 79, 102], [108, 111, 111, 112, 46, 101, 120, 97, 109, 112, 108, 101, 47, 103, 48, 51, 48, 49, 53, 47, 108, 97, 119, 115, 46, 70, 110, 69, 120, 97, 99, 116, 87, 114, 105, 116, 101, 115, 79, 102], [108, 111, 111, 112, 46, 101, 120, 97, 109, 112, 108, 101, 47, 103, 48, 51, 48, 49, 53, 47, 108, 97, 119, 115, 46, 70, 110, 69, 120, 97, 99, 116, 70, 111, 114, 109, 97, 116, 65, 99, 116, 105, 111, 110], [108, 111, 111, 112, 46, 101, 120, 97, 109, 112, 108, 101, 47, 103, 48, 51, 48, 49, 53, 47, 108, 97, 119, 115, 46, 70, 110, 69, 120, 97, 99, 116, 83, 97, 109, 101, 82, 117, 108, 101], [108, 111, 111, 112, 46, 101, 120, 97, 109, 112, 108, 101, 47, 103, 48, 51, 48, 49, 53, 47, 108, 97, 119, 115, 46, 70, 110, 69, 120, 97, 99, 116, 69, 120, 116, 101, 110, 100], [108, 111, 111, 112, 46, 101, 120, 97, 109, 112, 108, 101, 47, 103, 48, 51, 48, 49, 53, 47, 108, 97, 119, 115, 46, 70, 110, 69, 120, 97, 99, 116, 65, 100, 100, 70, 97, 99, 116], [108, 111, 111, 112, 46, 101, 120, 97, 109, 112, 108, 101, 47, 103, 48, 51, 48, 49, 53, 47, 108, 97, 119, 115, 46, 70, 110, 69, 120, 97, 99, 116, 82, 101, 109, 111, 118, 101, 70, 97, 99, 116]]
theorem Abs.words : behindMainWord (wordsSigns (headSigns.map Char.ofNat)) = headWords.map fun w => w.map Char.ofNat := by kernel_rfl
theorem Abs.heads : behindMainWord (wordsSigns Try.prog.initOrder.toList) = headWords.map fun w => w.map Char.ofNat := by rw [Abs.signs, Abs.words]
theorem enters_gen (P : Program) (h : behindMainWord (wordsSigns P.initOrder.toList) = headWords.map fun w => w.map Char.ofNat) (h1 : P.laysLater = false) (h2 : P.bearsReflect = false) (h3 : P.doorFits [] = true) : P.mayEnter = true := by
  have h4 : stripLifts liftWords (headWords.map fun w => w.map Char.ofNat) = ([], headWords.map fun w => w.map Char.ofNat) := by kernel_rfl
  have h5 : (headWords.map fun w => w.map Char.ofNat) = (headWords.headD []).map Char.ofNat :: (headWords.tail.map fun w => w.map Char.ofNat) := rfl
  unfold Program.mayEnter
  rw [h, h1, h2, h5]
  simp only []
  rw [← h5, h4]
  simp only []
  rw [h3]
  rfl
theorem final_gen (P : Program) (h : behindMainWord (wordsSigns P.initOrder.toList) = headWords.map fun w => w.map Char.ofNat) : P.liftsFinal = false := by
  unfold Program.liftsFinal Program.headLifts
  rw [h]
  kernel_rfl
theorem made_gen (P : Program) (h : behindMainWord (wordsSigns P.initOrder.toList) = headWords.map fun w => w.map Char.ofNat) : P.make = some .cut := by
  unfold Program.make
  rw [h]
  rfl
theorem Abs.enters : Try.prog.mayEnter = true := enters_gen _ Abs.heads (by kernel_rfl) (by kernel_rfl) (by kernel_rfl)
theorem Abs.final : Try.prog.liftsFinal = false := final_gen _ Abs.heads
theorem Abs.made : Try.prog.make = some .cut := made_gen _ Abs.heads
theorem Abs.rowed : mapsRowed Try.prog = true := by kernel_rfl
theorem Abs.laidOut : laidOutB Try.prog = true := by kernel_rfl
/-- the closed facts of a row, without what is known already -/
def joinedLess (P : Program) (f : FuncId) (fn : Func) (s : ChangeSpec) (c : OpenClaim) (h1 : P.mayEnter = true) (h2 : P.liftsFinal = false) (h3 : P.make = some .cut) (h4 : mapsRowed P = true) (h5 : laidOutB P = true) : {b : Bool // joinedFacts P f fn s c = b} := by
  refine ⟨?b, ?h⟩
  case h =>
    unfold joinedFacts
    rw [h1, h2, h3, h4, h5]
theorem Abs.closed {f : FuncId} {fn : Func} {s : ChangeSpec} {c : OpenClaim} (h : (joinedLess Try.prog f fn s c Abs.enters Abs.final Abs.made Abs.rowed Abs.laidOut).1 = true) : joinedFacts Try.prog f fn s c = true :=
  (joinedLess Try.prog f fn s c Abs.enters Abs.final Abs.made Abs.rowed Abs.laidOut).2.trans h
end Go.Proofs.Ytimcfgokocihnaa
namespace Go.Proofs.Ytimcfgokocihnaa
namespace Abs
variable {mo : Bool}
open Go.ChangeShapes Go.WideShapes Go.ChangeAt Go.RowKit
section
variable {H : Type} {enc : TypeId × Value → H} {P : Program}
theorem trodAll_stays {base : Nat} (hl : laidOutB P = true) {W W' : World} {sp' : Nat → Bool} : ∀ {ts : List TypeId} {vs : List Value} {ds : List (DataW H)} {ps : List MemPlace},
    (∀ t ∈ ts, P.readableRec t = true ∧ t < P.types.size) → DataW.TrodAll enc P W base (fun _ => true) true ts vs ds ps → (∀ p ∈ ps, W.sameAt W' p) → (∀ p ∈ ps, sp' p.block = true) →
    DataW.TrodAll enc P W' base sp' true ts vs ds ps
  | [], [], [], _, _, h, _, _ => h
  | t :: ts, v :: vs, d :: ds, _, ht, h, hs, hp => by
    obtain ⟨p, q, h1, h2, rfl⟩ := h
    exact ⟨p, q, WideElems.Trod_stays hl (ht t (by simp)).1 (ht t (by simp)).2 h1 (fun x hx => hs x (by simp [hx])) (fun x hx => hp x (by simp [hx])),
      trodAll_stays hl (fun t h => ht t (by simp [h])) h2 (fun x hx => hs x (by simp [hx])) (fun x hx => hp x (by simp [hx])), rfl⟩
/-- a law that says yes, and leaves what was there alone -/
theorem law_post {f : Func} {s : ChangeSpec} {apart fresh handsOn again : Bool} {W W' : World} {args : Array Value} {ds gs : List (DataW H)} {before : List MemPlace} {tb : TypeId}
    (hl : laidOutB P = true) (hv : s.vars = []) (hp : ∀ t ∈ f.params.toList, P.readableRec t = true ∧ t < P.types.size) (hr : f.resultTypes = #[tb]) (htb : P.underlying tb = some .bool)
    (hW : DataW.Whole enc P f.params.toList s.vars apart W args.toList ds gs before) (hb : Bel mo W.heap.size W W')
    (hfn : s.fn H (ds ++ gs) = { results := [.lit (.bool true)], args := ds }) : s.post enc P f apart fresh handsOn again W args (.bool true) W' := by
  have hlt : ∀ p ∈ before, p.block < W.heap.size := fun p hp => hW.lt p hp
  have hW' := hW
  obtain ⟨p, q, hA, hV, hpq, hz, hn⟩ := hW
  rw [hv] at hV
  obtain ⟨hg, hq⟩ : gs = [] ∧ q = [] := trodVars_none hV
  subst hg; subst hq
  simp only [List.append_nil] at hpq hfn hz hn
  subst hpq
  have hargs : ∀ sp : Nat → Bool, (∀ x ∈ before, sp x.block = true) → DataW.TrodAll enc P W' 0 sp true f.params.toList args.toList ds before :=
    fun sp hsp => trodAll_stays hl hp hA (fun x hx => hb.same (hlt x hx)) hsp
  have hres : ∀ (b : Nat) (sp : Nat → Bool) (hd : Bool), DataW.TrodAll enc P W' b sp hd f.resultTypes.toList ((Value.bool true).resultList f.resultTypes.size) [.lit (.bool true)] [] := fun b sp hd => by
    rw [hr]
    exact trodAll_mk1 (shut_bool htb true)
  have hvars : ∀ sp : Nat → Bool, DataW.TrodVars enc P W' sp s.vars [] [] := fun sp => by rw [hv]; rfl
  have hfn' : s.fn H (ds ++ []) = { results := [.lit (.bool true)], args := ds } := by rw [List.append_nil]; exact hfn
  refine ⟨ds, [], before, [], before, [], hW', by rw [hfn']; exact hres _ _ _, by rw [hfn']; exact hargs _ (fun x hx => by simpa using hlt x hx), by rw [hfn']; exact hvars _, hb.frame _, fun _ => ?_⟩
  refine ⟨ok_one hr rfl (okWide_bool_mk htb true), _, _, ([] ++ before) ++ [], ⟨[] ++ before, [], trodAll_append (hargs _ (fun _ _ => rfl)) (hres _ _ _), hvars _, rfl, ?_, ?_⟩, ?_⟩
  · intro b off hp'
    have hm : MemPlace.cell b off ∈ before := by simpa using hp'
    rw [hb.frozen (hlt _ hm)]
    exact hz b off hm
  · intro ha
    simpa using hn ha
  · intro x hx _
    simpa using hx
end
/-- the call's own result -/
theorem law_ret {P : Program} {fid : Nat} {avs : List AV} {args : Array Value} {W : World} (h : Ret mo P fid avs (.val (.bool true)) []) (hB : Both (Rep W.heap.size W (allF W) [] [] []) avs args.toList) :
    Calls P fid args W fun e w' => e = .returned (.bool true) ∧ Bel mo W.heap.size W w' := by
  rw [Ret_eq] at h
  obtain ⟨_, hR⟩ := h
  refine (hR W (allF W) args (fun b hb => allF_out W b hb) hB).mono ?_
  rintro e W' ⟨v, F', tok, box, rfl, hb, _, _, _, _, _, hrep⟩
  cases hrep
  exact ⟨rfl, hb⟩
theorem both_nil {R : AV → Value → Prop} : Both R [] [] := ⟨rfl, by simp⟩
end Abs
theorem Abs.own : ownKnob Try.prog.godebug = none := by kernel_rfl
end Go.Proofs.Ytimcfgokocihnaa
