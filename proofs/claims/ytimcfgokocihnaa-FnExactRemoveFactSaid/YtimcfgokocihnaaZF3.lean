/-
  What stands below some laws' proofs, part 3: contracts of functions, by an evaluator.
-/
import Derived.Test.YtimcfgokocihnaaZF2
namespace Go.Proofs.Ytimcfgokocihnaa
open Abs
theorem slCompareFunc.ret (l m : List Str) (h : tStrs.size l ≤ 1048576) (h' : tStrs.size m ≤ 1048576) :
    slCompareFunc.Ret [.list none (strs l), .list none (strs m), .clo 159 [] []] (.val (.int .i64 (cmpArgs l m))) [] := by
  refine slCompareFunc.of rfl ?_
  rw [tStrs_size] at h h'
  repeat' first
    | contradiction | exact trivial
    | (conv => whnf
       first | refine Need.mk (fun h => h) ?_ | refine Need.mk rfl ?_ | refine Need.mk ⟨rfl, Nat.le_of_ble_eq_true rfl⟩ ?_ | refine Need.mk (Nat.le_of_ble_eq_true rfl) ?_ | refine Need.fin ?_ | refine Need.mk ?_ ?_ | refine Ix.strsF rfl ?_ | refine Ix.strs rfl ?_ ?_ | refine Cut.strs rfl ?_ ?_ | refine Ix.mapF (fun _ => rfl) ?_ | refine Ix.map (fun _ => rfl) ?_ ?_ | refine Cut.map (fun _ => rfl) ?_ ?_ | refine Fork.yes (by assumption) ?_ | refine Fork.no (by assumption) ?_ | refine Fork.decYes (by omega) ?_ | refine Fork.decNo (by omega) ?_ | refine Fork.dec (fun _ => ?_) (fun _ => ?_) | refine Fork.bne (fun _ => ?_) (fun _ => ?_) | refine Fork.beq (fun _ => ?_) (fun _ => ?_) | refine Fork.seq (fun _ => ?_) (fun _ => ?_) | refine Fork.sne (fun _ => ?_) (fun _ => ?_) | refine Fork.neg (fun _ => ?_) (fun _ => ?_) | refine Fork.mk (fun _ => ?_) (fun _ => ?_) | refine HAlt.mk ?_ ?_ | apply HJoin.mk3 | exact HEnd.mk rfl rfl rfl | refine HEnd.mk ?_ ?_ ?_ | refine Round.mk ?_ | refine NilQ.mk (fun b hb => ?_) | refine forceK_of ?_ | refine forceBx_of ?_ | refine unG_old ?_ | refine unG_gv ?_ | refine Lit.read rfl ?_ | refine FinVal.keep ?_ | refine FinAgg.keep ?_ | refine Final.mk rfl rfl | refine Final.mk ?_ rfl | refine Final.mk ?_ ?_ | refine FinalT.mk ?_ ?_ | refine FinalC.allA ?_)
    | refine AV.bool_congr ?_ | refine AV.int_congr ?_ | refine AV.str_congr ?_ | refine AV.list_congr ?_ | with_reducible rfl | refine fr1 ?_ | refine fr2 ?_ ?_
  refine ALoop.mk Nat (fun i => ⟨[(0, .list none (strs l)), (1, .list none (strs m)), (2, .clo 159 [] []), (11, .list none (strs l)), (12, .val (.int .i64 l.length)), (13, .val (.int .i64 i))], [], []⟩) (fun i => i ≤ l.length ∧ i ≤ m.length ∧ cmpArgs (l.drop i) (m.drop i) = cmpArgs l m) (fun i => l.length - i) ⟨0, ⟨Nat.zero_le _, Nat.zero_le _, rfl⟩, ?_⟩ (fun i hi => ?_)
  · repeat' first
      | exact trivial | refine Weak.mk ?_ ?_ ?_ ?_ (Or.inl (Nat.le_of_ble_eq_true rfl)) | refine Weak.mk ?_ ?_ ?_ ?_ (Or.inr ⟨(by repeat' first | exact trivial | exact Nat.le_of_ble_eq_true rfl | refine And.intro ?_ ?_), (by repeat' first | exact trivial | exact Nat.le_of_ble_eq_true rfl | refine And.intro ?_ ?_)⟩) | refine Weak.mk ?_ ?_ ?_ ?_ ?_ | refine And.intro ?_ ?_ | with_reducible rfl | exact Nat.le_of_ble_eq_true rfl | refine fr1 ?_ | refine fr2 ?_ ?_ | refine AV.int_congr ?_ | refine AV.bool_congr ?_ | refine AV.str_congr ?_ | refine AV.list_congr ?_ | refine AV.bsl_congr ?_ ?_ | (apply rfl)
    simp
  obtain ⟨hi1, hi2, hi3⟩ := hi
  repeat' first
    | contradiction | exact trivial
    | (conv => whnf
       first | refine Need.mk (fun h => h) ?_ | refine Need.mk rfl ?_ | refine Need.mk ⟨rfl, Nat.le_of_ble_eq_true rfl⟩ ?_ | refine Need.mk (Nat.le_of_ble_eq_true rfl) ?_ | refine Need.fin ?_ | refine Need.mk ?_ ?_ | refine Ix.strsF rfl ?_ | refine Ix.strs rfl ?_ ?_ | refine Cut.strs rfl ?_ ?_ | refine Ix.mapF (fun _ => rfl) ?_ | refine Ix.map (fun _ => rfl) ?_ ?_ | refine Cut.map (fun _ => rfl) ?_ ?_ | refine Fork.yes (by assumption) ?_ | refine Fork.no (by assumption) ?_ | refine Fork.decYes (by omega) ?_ | refine Fork.decNo (by omega) ?_ | refine Fork.dec (fun _ => ?_) (fun _ => ?_) | refine Fork.bne (fun _ => ?_) (fun _ => ?_) | refine Fork.beq (fun _ => ?_) (fun _ => ?_) | refine Fork.seq (fun _ => ?_) (fun _ => ?_) | refine Fork.sne (fun _ => ?_) (fun _ => ?_) | refine Fork.neg (fun _ => ?_) (fun _ => ?_) | refine Fork.mk (fun _ => ?_) (fun _ => ?_) | refine HAlt.mk ?_ ?_ | apply HJoin.mk3 | exact HEnd.mk rfl rfl rfl | refine HEnd.mk ?_ ?_ ?_ | refine Round.mk ?_ | refine NilQ.mk (fun b hb => ?_) | refine forceK_of ?_ | refine forceBx_of ?_ | refine unG_old ?_ | refine unG_gv ?_ | refine Lit.read rfl ?_ | refine FinVal.keep ?_ | refine FinAgg.keep ?_ | refine Final.mk rfl rfl | refine Final.mk ?_ rfl | refine Final.mk ?_ ?_ | refine FinalT.mk ?_ ?_ | refine FinalC.allA ?_ | refine ACall.scalA _ _ (pCompareAtoms.ret _ _ ?_ ?_) rfl ?_ | refine AQCall.mkA _ _ (fun hg => pCompareAtoms.ret _ _ ?_ ?_) rfl ?_ | refine AGCall.mkA _ _ (fun hg => pCompareAtoms.ret _ _ ?_ ?_) rfl ?_)
    | refine AV.bool_congr ?_ | refine AV.int_congr ?_ | refine AV.str_congr ?_ | refine AV.list_congr ?_ | with_reducible rfl | refine fr1 ?_ | refine fr2 ?_ ?_
  all_goals try simp only [length_rows, length_strs, length_oldLL, List.length_map, Int.toNat_natCast] at *
  · rw [← hi3, cmpArgs_end (by rw [List.drop_eq_nil_iff, List.drop_eq_nil_iff]; omega)]
    simp only [List.length_drop]
    (repeat' split) <;> omega
  · have := str_le (l := l) (i := i) (by omega); omega
  · have := str_le (l := m) (i := i) (by omega); omega
  · rename_i h1 h2 h3
    rw [← hi3, cmpArgs_drop (by omega) (by omega), if_pos h2]
  · rename_i h1 h2 h3
    refine ⟨i + 1, ⟨by omega, by omega, ?_⟩, ?_, by omega⟩
    · rw [cmpArgs_drop (by omega) (by omega), if_neg (by simpa using h2)] at hi3; exact hi3
    · repeat' first
        | exact trivial | refine Weak.mk ?_ ?_ ?_ ?_ (Or.inl (Nat.le_of_ble_eq_true rfl)) | refine Weak.mk ?_ ?_ ?_ ?_ (Or.inr ⟨(by repeat' first | exact trivial | exact Nat.le_of_ble_eq_true rfl | refine And.intro ?_ ?_), (by repeat' first | exact trivial | exact Nat.le_of_ble_eq_true rfl | refine And.intro ?_ ?_)⟩) | refine Weak.mk ?_ ?_ ?_ ?_ ?_ | refine And.intro ?_ ?_ | with_reducible rfl | exact Nat.le_of_ble_eq_true rfl | refine fr1 ?_ | refine fr2 ?_ ?_ | refine AV.int_congr ?_ | refine AV.bool_congr ?_ | refine AV.str_congr ?_ | refine AV.list_congr ?_ | refine AV.bsl_congr ?_ ?_ | (apply rfl)
      rw [wrap64 (by omega) (by omega)]; rfl
  all_goals rename_i h1 h2
  all_goals rw [← hi3, cmpArgs_end (by rw [List.drop_eq_nil_iff, List.drop_eq_nil_iff]; omega)]
  all_goals simp only [List.length_drop]
  all_goals ((repeat' split) <;> omega)
theorem pCompareFacts.ret (f g : Fct) (h : tFct.size f ≤ 1048576) (h' : tFct.size g ≤ 1048576) : pCompareFacts.Ret [.agg (oldL (tFct.q f)), .agg (oldL (tFct.q g))] (.val (.int .i64 (cmpF f g))) [] := by
  refine pCompareFacts.of rfl ?_
  rw [tFct_size] at h h'
  repeat' first
    | contradiction | exact trivial
    | (conv => whnf
       first | refine Need.mk (fun h => h) ?_ | refine Need.mk rfl ?_ | refine Need.mk ⟨rfl, Nat.le_of_ble_eq_true rfl⟩ ?_ | refine Need.mk (Nat.le_of_ble_eq_true rfl) ?_ | refine Need.fin ?_ | refine Need.mk ?_ ?_ | refine Ix.strsF rfl ?_ | refine Ix.strs rfl ?_ ?_ | refine Cut.strs rfl ?_ ?_ | refine Ix.mapF (fun _ => rfl) ?_ | refine Ix.map (fun _ => rfl) ?_ ?_ | refine Cut.map (fun _ => rfl) ?_ ?_ | refine Fork.yes (by assumption) ?_ | refine Fork.no (by assumption) ?_ | refine Fork.decYes (by omega) ?_ | refine Fork.decNo (by omega) ?_ | refine Fork.dec (fun _ => ?_) (fun _ => ?_) | refine Fork.bne (fun _ => ?_) (fun _ => ?_) | refine Fork.beq (fun _ => ?_) (fun _ => ?_) | refine Fork.seq (fun _ => ?_) (fun _ => ?_) | refine Fork.sne (fun _ => ?_) (fun _ => ?_) | refine Fork.neg (fun _ => ?_) (fun _ => ?_) | refine Fork.mk (fun _ => ?_) (fun _ => ?_) | refine HAlt.mk ?_ ?_ | apply HJoin.mk3 | exact HEnd.mk rfl rfl rfl | refine HEnd.mk ?_ ?_ ?_ | refine Round.mk ?_ | refine NilQ.mk (fun b hb => ?_) | refine forceK_of ?_ | refine forceBx_of ?_ | refine unG_old ?_ | refine unG_gv ?_ | refine Lit.read rfl ?_ | refine FinVal.keep ?_ | refine FinAgg.keep ?_ | refine Final.mk rfl rfl | refine Final.mk ?_ rfl | refine Final.mk ?_ ?_ | refine FinalT.mk ?_ ?_ | refine FinalC.allA ?_ | refine ACall.scalA _ _ (cmpString.ret _ _) rfl ?_ | refine AQCall.mkA _ _ (fun hg => cmpString.ret _ _) rfl ?_ | refine AGCall.mkA _ _ (fun hg => cmpString.ret _ _) rfl ?_ | refine ACall.scalA _ _ (slCompareFunc.ret _ _ ?_ ?_) rfl ?_ | refine AQCall.mkA _ _ (fun hg => slCompareFunc.ret _ _ ?_ ?_) rfl ?_ | refine AGCall.mkA _ _ (fun hg => slCompareFunc.ret _ _ ?_ ?_) rfl ?_)
    | refine AV.bool_congr ?_ | refine AV.int_congr ?_ | refine AV.str_congr ?_ | refine AV.list_congr ?_ | with_reducible rfl | refine fr1 ?_ | refine fr2 ?_ ?_
  · rename_i h1
    unfold cmpF; rw [if_neg (fun e => h1 (scmp_zero.2 e))]
  · omega
  · omega
  · rename_i h1
    unfold cmpF; rw [if_pos (scmp_zero.1 (by simpa using h1))]
theorem slEqual.ret (l m : List Str) (hl : l.length ≤ 1099511627776) : slEqual.Ret [.list none (strs l), .list none (strs m)] (.val (.bool (decide (l = m)))) [] := by
  refine slEqual.of rfl ?_
  repeat' first
    | contradiction | exact trivial
    | (conv => whnf
       first | refine Need.mk (fun h => h) ?_ | refine Need.mk rfl ?_ | refine Need.mk ⟨rfl, Nat.le_of_ble_eq_true rfl⟩ ?_ | refine Need.mk (Nat.le_of_ble_eq_true rfl) ?_ | refine Need.fin ?_ | refine Need.mk ?_ ?_ | refine Ix.strsF rfl ?_ | refine Ix.strs rfl ?_ ?_ | refine Cut.strs rfl ?_ ?_ | refine Ix.mapF (fun _ => rfl) ?_ | refine Ix.map (fun _ => rfl) ?_ ?_ | refine Cut.map (fun _ => rfl) ?_ ?_ | refine Fork.yes (by assumption) ?_ | refine Fork.no (by assumption) ?_ | refine Fork.decYes (by omega) ?_ | refine Fork.decNo (by omega) ?_ | refine Fork.dec (fun _ => ?_) (fun _ => ?_) | refine Fork.bne (fun _ => ?_) (fun _ => ?_) | refine Fork.beq (fun _ => ?_) (fun _ => ?_) | refine Fork.seq (fun _ => ?_) (fun _ => ?_) | refine Fork.sne (fun _ => ?_) (fun _ => ?_) | refine Fork.neg (fun _ => ?_) (fun _ => ?_) | refine Fork.mk (fun _ => ?_) (fun _ => ?_) | refine HAlt.mk ?_ ?_ | apply HJoin.mk3 | exact HEnd.mk rfl rfl rfl | refine HEnd.mk ?_ ?_ ?_ | refine Round.mk ?_ | refine NilQ.mk (fun b hb => ?_) | refine forceK_of ?_ | refine forceBx_of ?_ | refine unG_old ?_ | refine unG_gv ?_ | refine Lit.read rfl ?_ | refine FinVal.keep ?_ | refine FinAgg.keep ?_ | refine Final.mk rfl rfl | refine Final.mk ?_ rfl | refine Final.mk ?_ ?_ | refine FinalT.mk ?_ ?_ | refine FinalC.allA ?_)
    | refine AV.bool_congr ?_ | refine AV.int_congr ?_ | refine AV.str_congr ?_ | refine AV.list_congr ?_ | with_reducible rfl | refine fr1 ?_ | refine fr2 ?_ ?_
  · rename_i h
    rw [length_strs, length_strs] at h
    have h3 : ¬ l = m := fun e => h (by rw [e])
    simp [h3]
  rename_i h
  rw [length_strs, length_strs] at h
  have h : l.length = m.length := by omega
  repeat' first
    | contradiction | exact trivial
    | (conv => whnf
       first | refine Need.mk (fun h => h) ?_ | refine Need.mk rfl ?_ | refine Need.mk ⟨rfl, Nat.le_of_ble_eq_true rfl⟩ ?_ | refine Need.mk (Nat.le_of_ble_eq_true rfl) ?_ | refine Need.fin ?_ | refine Need.mk ?_ ?_ | refine Ix.strsF rfl ?_ | refine Ix.strs rfl ?_ ?_ | refine Cut.strs rfl ?_ ?_ | refine Ix.mapF (fun _ => rfl) ?_ | refine Ix.map (fun _ => rfl) ?_ ?_ | refine Cut.map (fun _ => rfl) ?_ ?_ | refine Fork.yes (by assumption) ?_ | refine Fork.no (by assumption) ?_ | refine Fork.decYes (by omega) ?_ | refine Fork.decNo (by omega) ?_ | refine Fork.dec (fun _ => ?_) (fun _ => ?_) | refine Fork.bne (fun _ => ?_) (fun _ => ?_) | refine Fork.beq (fun _ => ?_) (fun _ => ?_) | refine Fork.seq (fun _ => ?_) (fun _ => ?_) | refine Fork.sne (fun _ => ?_) (fun _ => ?_) | refine Fork.neg (fun _ => ?_) (fun _ => ?_) | refine Fork.mk (fun _ => ?_) (fun _ => ?_) | refine HAlt.mk ?_ ?_ | apply HJoin.mk3 | exact HEnd.mk rfl rfl rfl | refine HEnd.mk ?_ ?_ ?_ | refine Round.mk ?_ | refine NilQ.mk (fun b hb => ?_) | refine forceK_of ?_ | refine forceBx_of ?_ | refine unG_old ?_ | refine unG_gv ?_ | refine Lit.read rfl ?_ | refine FinVal.keep ?_ | refine FinAgg.keep ?_ | refine Final.mk rfl rfl | refine Final.mk ?_ rfl | refine Final.mk ?_ ?_ | refine FinalT.mk ?_ ?_ | refine FinalC.allA ?_)
    | refine AV.bool_congr ?_ | refine AV.int_congr ?_ | refine AV.str_congr ?_ | refine AV.list_congr ?_ | with_reducible rfl | refine fr1 ?_ | refine fr2 ?_ ?_
  refine ALoop.mk Nat (fun i => ⟨[(0, .list none (strs l)), (1, .list none (strs m)), (12, .val (.int .i64 l.length)), (13, .val (.int .i64 i))], [], []⟩) (fun i => i ≤ l.length ∧ l.take i = m.take i) (fun i => l.length - i) ⟨0, ⟨Nat.zero_le _, rfl⟩, ?_⟩ (fun i hi => ?_)
  · repeat' first
      | exact trivial | refine Weak.mk ?_ ?_ ?_ ?_ (Or.inl (Nat.le_of_ble_eq_true rfl)) | refine Weak.mk ?_ ?_ ?_ ?_ (Or.inr ⟨(by repeat' first | exact trivial | exact Nat.le_of_ble_eq_true rfl | refine And.intro ?_ ?_), (by repeat' first | exact trivial | exact Nat.le_of_ble_eq_true rfl | refine And.intro ?_ ?_)⟩) | refine Weak.mk ?_ ?_ ?_ ?_ ?_ | refine And.intro ?_ ?_ | with_reducible rfl | exact Nat.le_of_ble_eq_true rfl | refine fr1 ?_ | refine fr2 ?_ ?_ | refine AV.int_congr ?_ | refine AV.bool_congr ?_ | refine AV.str_congr ?_ | refine AV.list_congr ?_ | refine AV.bsl_congr ?_ ?_ | (apply rfl)
    simp
  repeat' first
    | contradiction | exact trivial
    | (conv => whnf
       first | refine Need.mk (fun h => h) ?_ | refine Need.mk rfl ?_ | refine Need.mk ⟨rfl, Nat.le_of_ble_eq_true rfl⟩ ?_ | refine Need.mk (Nat.le_of_ble_eq_true rfl) ?_ | refine Need.fin ?_ | refine Need.mk ?_ ?_ | refine Ix.strsF rfl ?_ | refine Ix.strs rfl ?_ ?_ | refine Cut.strs rfl ?_ ?_ | refine Ix.mapF (fun _ => rfl) ?_ | refine Ix.map (fun _ => rfl) ?_ ?_ | refine Cut.map (fun _ => rfl) ?_ ?_ | refine Fork.yes (by assumption) ?_ | refine Fork.no (by assumption) ?_ | refine Fork.decYes (by omega) ?_ | refine Fork.decNo (by omega) ?_ | refine Fork.dec (fun _ => ?_) (fun _ => ?_) | refine Fork.bne (fun _ => ?_) (fun _ => ?_) | refine Fork.beq (fun _ => ?_) (fun _ => ?_) | refine Fork.seq (fun _ => ?_) (fun _ => ?_) | refine Fork.sne (fun _ => ?_) (fun _ => ?_) | refine Fork.neg (fun _ => ?_) (fun _ => ?_) | refine Fork.mk (fun _ => ?_) (fun _ => ?_) | refine HAlt.mk ?_ ?_ | apply HJoin.mk3 | exact HEnd.mk rfl rfl rfl | refine HEnd.mk ?_ ?_ ?_ | refine Round.mk ?_ | refine NilQ.mk (fun b hb => ?_) | refine forceK_of ?_ | refine forceBx_of ?_ | refine unG_old ?_ | refine unG_gv ?_ | refine Lit.read rfl ?_ | refine FinVal.keep ?_ | refine FinAgg.keep ?_ | refine Final.mk rfl rfl | refine Final.mk ?_ rfl | refine Final.mk ?_ ?_ | refine FinalT.mk ?_ ?_ | refine FinalC.allA ?_)
    | refine AV.bool_congr ?_ | refine AV.int_congr ?_ | refine AV.str_congr ?_ | refine AV.list_congr ?_ | with_reducible rfl | refine fr1 ?_ | refine fr2 ?_ ?_
  · rename_i h1 h2
    have h3 : ¬ l = m := fun e => h2 (by rw [e])
    simp [h3]
  · rename_i h1 h2
    refine ⟨i + 1, ⟨by omega, ?_⟩, ?_, by omega⟩
    · rw [take_succ' [] (by omega), take_succ' (l := m) [] (by omega), hi.2]
      rw [Int.toNat_natCast] at h2
      have h2' : l.getD i [] = m.getD i [] := h2
      rw [h2']
    · repeat' first
        | exact trivial | refine Weak.mk ?_ ?_ ?_ ?_ (Or.inl (Nat.le_of_ble_eq_true rfl)) | refine Weak.mk ?_ ?_ ?_ ?_ (Or.inr ⟨(by repeat' first | exact trivial | exact Nat.le_of_ble_eq_true rfl | refine And.intro ?_ ?_), (by repeat' first | exact trivial | exact Nat.le_of_ble_eq_true rfl | refine And.intro ?_ ?_)⟩) | refine Weak.mk ?_ ?_ ?_ ?_ ?_ | refine And.intro ?_ ?_ | with_reducible rfl | exact Nat.le_of_ble_eq_true rfl | refine fr1 ?_ | refine fr2 ?_ ?_ | refine AV.int_congr ?_ | refine AV.bool_congr ?_ | refine AV.str_congr ?_ | refine AV.list_congr ?_ | refine AV.bsl_congr ?_ ?_ | (apply rfl)
      rw [wrap64 (by omega) (by omega)]; rfl
  · rename_i h1
    have h2 := hi.2
    rw [List.take_of_length_le (by omega), List.take_of_length_le (by omega)] at h2
    simp [h2]
theorem sSameTexts.ret (l m : List Str) (hl : l.length ≤ 1099511627776) : sSameTexts.Ret [.list none (strs l), .list none (strs m)] (.val (.bool (decide (l = m)))) [] := by
  refine sSameTexts.of rfl ?_
  repeat' first
    | contradiction | exact trivial
    | (conv => whnf
       first | refine Need.mk (fun h => h) ?_ | refine Need.mk rfl ?_ | refine Need.mk ⟨rfl, Nat.le_of_ble_eq_true rfl⟩ ?_ | refine Need.mk (Nat.le_of_ble_eq_true rfl) ?_ | refine Need.fin ?_ | refine Need.mk ?_ ?_ | refine Ix.strsF rfl ?_ | refine Ix.strs rfl ?_ ?_ | refine Cut.strs rfl ?_ ?_ | refine Ix.mapF (fun _ => rfl) ?_ | refine Ix.map (fun _ => rfl) ?_ ?_ | refine Cut.map (fun _ => rfl) ?_ ?_ | refine Fork.yes (by assumption) ?_ | refine Fork.no (by assumption) ?_ | refine Fork.decYes (by omega) ?_ | refine Fork.decNo (by omega) ?_ | refine Fork.dec (fun _ => ?_) (fun _ => ?_) | refine Fork.bne (fun _ => ?_) (fun _ => ?_) | refine Fork.beq (fun _ => ?_) (fun _ => ?_) | refine Fork.seq (fun _ => ?_) (fun _ => ?_) | refine Fork.sne (fun _ => ?_) (fun _ => ?_) | refine Fork.neg (fun _ => ?_) (fun _ => ?_) | refine Fork.mk (fun _ => ?_) (fun _ => ?_) | refine HAlt.mk ?_ ?_ | apply HJoin.mk3 | exact HEnd.mk rfl rfl rfl | refine HEnd.mk ?_ ?_ ?_ | refine Round.mk ?_ | refine NilQ.mk (fun b hb => ?_) | refine forceK_of ?_ | refine forceBx_of ?_ | refine unG_old ?_ | refine unG_gv ?_ | refine Lit.read rfl ?_ | refine FinVal.keep ?_ | refine FinAgg.keep ?_ | refine Final.mk rfl rfl | refine Final.mk ?_ rfl | refine Final.mk ?_ ?_ | refine FinalT.mk ?_ ?_ | refine FinalC.allA ?_)
    | refine AV.bool_congr ?_ | refine AV.int_congr ?_ | refine AV.str_congr ?_ | refine AV.list_congr ?_ | with_reducible rfl | refine fr1 ?_ | refine fr2 ?_ ?_
  · rename_i h
    rw [length_strs, length_strs] at h
    have h3 : ¬ l = m := fun e => h (by rw [e])
    simp [h3]
  rename_i h
  rw [length_strs, length_strs] at h
  have h : l.length = m.length := by omega
  repeat' first
    | contradiction | exact trivial
    | (conv => whnf
       first | refine Need.mk (fun h => h) ?_ | refine Need.mk rfl ?_ | refine Need.mk ⟨rfl, Nat.le_of_ble_eq_true rfl⟩ ?_ | refine Need.mk (Nat.le_of_ble_eq_true rfl) ?_ | refine Need.fin ?_ | refine Need.mk ?_ ?_ | refine Ix.strsF rfl ?_ | refine Ix.strs rfl ?_ ?_ | refine Cut.strs rfl ?_ ?_ | refine Ix.mapF (fun _ => rfl) ?_ | refine Ix.map (fun _ => rfl) ?_ ?_ | refine Cut.map (fun _ => rfl) ?_ ?_ | refine Fork.yes (by assumption) ?_ | refine Fork.no (by assumption) ?_ | refine Fork.decYes (by omega) ?_ | refine Fork.decNo (by omega) ?_ | refine Fork.dec (fun _ => ?_) (fun _ => ?_) | refine Fork.bne (fun _ => ?_) (fun _ => ?_) | refine Fork.beq (fun _ => ?_) (fun _ => ?_) | refine Fork.seq (fun _ => ?_) (fun _ => ?_) | refine Fork.sne (fun _ => ?_) (fun _ => ?_) | refine Fork.neg (fun _ => ?_) (fun _ => ?_) | refine Fork.mk (fun _ => ?_) (fun _ => ?_) | refine HAlt.mk ?_ ?_ | apply HJoin.mk3 | exact HEnd.mk rfl rfl rfl | refine HEnd.mk ?_ ?_ ?_ | refine Round.mk ?_ | refine NilQ.mk (fun b hb => ?_) | refine forceK_of ?_ | refine forceBx_of ?_ | refine unG_old ?_ | refine unG_gv ?_ | refine Lit.read rfl ?_ | refine FinVal.keep ?_ | refine FinAgg.keep ?_ | refine Final.mk rfl rfl | refine Final.mk ?_ rfl | refine Final.mk ?_ ?_ | refine FinalT.mk ?_ ?_ | refine FinalC.allA ?_)
    | refine AV.bool_congr ?_ | refine AV.int_congr ?_ | refine AV.str_congr ?_ | refine AV.list_congr ?_ | with_reducible rfl | refine fr1 ?_ | refine fr2 ?_ ?_
  refine ALoop.mk Nat (fun i => ⟨[(0, .list none (strs l)), (1, .list none (strs m)), (5, .val (.int .i64 i))], [], []⟩) (fun i => i ≤ l.length ∧ l.take i = m.take i) (fun i => l.length - i) ⟨0, ⟨Nat.zero_le _, rfl⟩, ?_⟩ (fun i hi => ?_)
  · repeat' first
      | exact trivial | refine Weak.mk ?_ ?_ ?_ ?_ (Or.inl (Nat.le_of_ble_eq_true rfl)) | refine Weak.mk ?_ ?_ ?_ ?_ (Or.inr ⟨(by repeat' first | exact trivial | exact Nat.le_of_ble_eq_true rfl | refine And.intro ?_ ?_), (by repeat' first | exact trivial | exact Nat.le_of_ble_eq_true rfl | refine And.intro ?_ ?_)⟩) | refine Weak.mk ?_ ?_ ?_ ?_ ?_ | refine And.intro ?_ ?_ | with_reducible rfl | exact Nat.le_of_ble_eq_true rfl | refine fr1 ?_ | refine fr2 ?_ ?_ | refine AV.int_congr ?_ | refine AV.bool_congr ?_ | refine AV.str_congr ?_ | refine AV.list_congr ?_ | refine AV.bsl_congr ?_ ?_ | (apply rfl)
  repeat' first
    | contradiction | exact trivial
    | (conv => whnf
       first | refine Need.mk (fun h => h) ?_ | refine Need.mk rfl ?_ | refine Need.mk ⟨rfl, Nat.le_of_ble_eq_true rfl⟩ ?_ | refine Need.mk (Nat.le_of_ble_eq_true rfl) ?_ | refine Need.fin ?_ | refine Need.mk ?_ ?_ | refine Ix.strsF rfl ?_ | refine Ix.strs rfl ?_ ?_ | refine Cut.strs rfl ?_ ?_ | refine Ix.mapF (fun _ => rfl) ?_ | refine Ix.map (fun _ => rfl) ?_ ?_ | refine Cut.map (fun _ => rfl) ?_ ?_ | refine Fork.yes (by assumption) ?_ | refine Fork.no (by assumption) ?_ | refine Fork.decYes (by omega) ?_ | refine Fork.decNo (by omega) ?_ | refine Fork.dec (fun _ => ?_) (fun _ => ?_) | refine Fork.bne (fun _ => ?_) (fun _ => ?_) | refine Fork.beq (fun _ => ?_) (fun _ => ?_) | refine Fork.seq (fun _ => ?_) (fun _ => ?_) | refine Fork.sne (fun _ => ?_) (fun _ => ?_) | refine Fork.neg (fun _ => ?_) (fun _ => ?_) | refine Fork.mk (fun _ => ?_) (fun _ => ?_) | refine HAlt.mk ?_ ?_ | apply HJoin.mk3 | exact HEnd.mk rfl rfl rfl | refine HEnd.mk ?_ ?_ ?_ | refine Round.mk ?_ | refine NilQ.mk (fun b hb => ?_) | refine forceK_of ?_ | refine forceBx_of ?_ | refine unG_old ?_ | refine unG_gv ?_ | refine Lit.read rfl ?_ | refine FinVal.keep ?_ | refine FinAgg.keep ?_ | refine Final.mk rfl rfl | refine Final.mk ?_ rfl | refine Final.mk ?_ ?_ | refine FinalT.mk ?_ ?_ | refine FinalC.allA ?_)
    | refine AV.bool_congr ?_ | refine AV.int_congr ?_ | refine AV.str_congr ?_ | refine AV.list_congr ?_ | with_reducible rfl | refine fr1 ?_ | refine fr2 ?_ ?_
  · rename_i h1 h2
    have h3 : ¬ l = m := fun e => h2 (by rw [e])
    simp [h3]
  · rename_i h1 h2
    rw [length_strs] at h1
    refine ⟨i + 1, ⟨by omega, ?_⟩, ?_, by omega⟩
    · rw [take_succ' [] (by omega), take_succ' (l := m) [] (by omega), hi.2]
      rw [Int.toNat_natCast] at h2
      have h2' : l.getD i [] = m.getD i [] := h2
      rw [h2']
    · repeat' first
        | exact trivial | refine Weak.mk ?_ ?_ ?_ ?_ (Or.inl (Nat.le_of_ble_eq_true rfl)) | refine Weak.mk ?_ ?_ ?_ ?_ (Or.inr ⟨(by repeat' first | exact trivial | exact Nat.le_of_ble_eq_true rfl | refine And.intro ?_ ?_), (by repeat' first | exact trivial | exact Nat.le_of_ble_eq_true rfl | refine And.intro ?_ ?_)⟩) | refine Weak.mk ?_ ?_ ?_ ?_ ?_ | refine And.intro ?_ ?_ | with_reducible rfl | exact Nat.le_of_ble_eq_true rfl | refine fr1 ?_ | refine fr2 ?_ ?_ | refine AV.int_congr ?_ | refine AV.bool_congr ?_ | refine AV.str_congr ?_ | refine AV.list_congr ?_ | refine AV.bsl_congr ?_ ?_ | (apply rfl)
      rw [wrap64 (by omega) (by omega)]; rfl
  · rename_i h1
    rw [length_strs] at h1
    have h2 := hi.2
    rw [List.take_of_length_le (by omega), List.take_of_length_le (by omega)] at h2
    simp [h2]
theorem sSame.ret (f g : Fct) (h : tFct.size f ≤ 1048576) : sSame.Ret [.agg (oldL (tFct.q f)), .agg (oldL (tFct.q g))] (.val (.bool (decide (f = g)))) [] := by
  refine sSame.of rfl ?_
  rw [tFct_size, tStrs_size] at h
  repeat' first
    | contradiction | exact trivial
    | (conv => whnf
       first | refine Need.mk (fun h => h) ?_ | refine Need.mk rfl ?_ | refine Need.mk ⟨rfl, Nat.le_of_ble_eq_true rfl⟩ ?_ | refine Need.mk (Nat.le_of_ble_eq_true rfl) ?_ | refine Need.fin ?_ | refine Need.mk ?_ ?_ | refine Ix.strsF rfl ?_ | refine Ix.strs rfl ?_ ?_ | refine Cut.strs rfl ?_ ?_ | refine Ix.mapF (fun _ => rfl) ?_ | refine Ix.map (fun _ => rfl) ?_ ?_ | refine Cut.map (fun _ => rfl) ?_ ?_ | refine Fork.yes (by assumption) ?_ | refine Fork.no (by assumption) ?_ | refine Fork.decYes (by omega) ?_ | refine Fork.decNo (by omega) ?_ | refine Fork.dec (fun _ => ?_) (fun _ => ?_) | refine Fork.bne (fun _ => ?_) (fun _ => ?_) | refine Fork.beq (fun _ => ?_) (fun _ => ?_) | refine Fork.seq (fun _ => ?_) (fun _ => ?_) | refine Fork.sne (fun _ => ?_) (fun _ => ?_) | refine Fork.neg (fun _ => ?_) (fun _ => ?_) | refine Fork.mk (fun _ => ?_) (fun _ => ?_) | refine HAlt.mk ?_ ?_ | apply HJoin.mk3 | exact HEnd.mk rfl rfl rfl | refine HEnd.mk ?_ ?_ ?_ | refine Round.mk ?_ | refine NilQ.mk (fun b hb => ?_) | refine forceK_of ?_ | refine forceBx_of ?_ | refine unG_old ?_ | refine unG_gv ?_ | refine Lit.read rfl ?_ | refine FinVal.keep ?_ | refine FinAgg.keep ?_ | refine Final.mk rfl rfl | refine Final.mk ?_ rfl | refine Final.mk ?_ ?_ | refine FinalT.mk ?_ ?_ | refine FinalC.allA ?_ | refine ACall.scalA _ _ (sSameTexts.ret _ _ ?_) rfl ?_ | refine AQCall.mkA _ _ (fun hg => sSameTexts.ret _ _ ?_) rfl ?_ | refine AGCall.mkA _ _ (fun hg => sSameTexts.ret _ _ ?_) rfl ?_)
    | refine AV.bool_congr ?_ | refine AV.int_congr ?_ | refine AV.str_congr ?_ | refine AV.list_congr ?_ | with_reducible rfl | refine fr1 ?_ | refine fr2 ?_ ?_
  · omega
  · obtain ⟨r, l⟩ := f; obtain ⟨r', l'⟩ := g
    rw [Bool.eq_iff_iff]; simp
theorem psameFact.ret (f g : Fct) (h : tFct.size f ≤ 1048576) : psameFact.Ret [.agg (oldL (tFct.q f)), .agg (oldL (tFct.q g))] (.val (.bool (decide (f = g)))) [] := by
  refine psameFact.of rfl ?_
  rw [tFct_size, tStrs_size] at h
  repeat' first
    | contradiction | exact trivial
    | (conv => whnf
       first | refine Need.mk (fun h => h) ?_ | refine Need.mk rfl ?_ | refine Need.mk ⟨rfl, Nat.le_of_ble_eq_true rfl⟩ ?_ | refine Need.mk (Nat.le_of_ble_eq_true rfl) ?_ | refine Need.fin ?_ | refine Need.mk ?_ ?_ | refine Ix.strsF rfl ?_ | refine Ix.strs rfl ?_ ?_ | refine Cut.strs rfl ?_ ?_ | refine Ix.mapF (fun _ => rfl) ?_ | refine Ix.map (fun _ => rfl) ?_ ?_ | refine Cut.map (fun _ => rfl) ?_ ?_ | refine Fork.yes (by assumption) ?_ | refine Fork.no (by assumption) ?_ | refine Fork.decYes (by omega) ?_ | refine Fork.decNo (by omega) ?_ | refine Fork.dec (fun _ => ?_) (fun _ => ?_) | refine Fork.bne (fun _ => ?_) (fun _ => ?_) | refine Fork.beq (fun _ => ?_) (fun _ => ?_) | refine Fork.seq (fun _ => ?_) (fun _ => ?_) | refine Fork.sne (fun _ => ?_) (fun _ => ?_) | refine Fork.neg (fun _ => ?_) (fun _ => ?_) | refine Fork.mk (fun _ => ?_) (fun _ => ?_) | refine HAlt.mk ?_ ?_ | apply HJoin.mk3 | exact HEnd.mk rfl rfl rfl | refine HEnd.mk ?_ ?_ ?_ | refine Round.mk ?_ | refine NilQ.mk (fun b hb => ?_) | refine forceK_of ?_ | refine forceBx_of ?_ | refine unG_old ?_ | refine unG_gv ?_ | refine Lit.read rfl ?_ | refine FinVal.keep ?_ | refine FinAgg.keep ?_ | refine Final.mk rfl rfl | refine Final.mk ?_ rfl | refine Final.mk ?_ ?_ | refine FinalT.mk ?_ ?_ | refine FinalC.allA ?_ | refine ACall.scalA _ _ (slEqual.ret _ _ ?_) rfl ?_ | refine AQCall.mkA _ _ (fun hg => slEqual.ret _ _ ?_) rfl ?_ | refine AGCall.mkA _ _ (fun hg => slEqual.ret _ _ ?_) rfl ?_)
    | refine AV.bool_congr ?_ | refine AV.int_congr ?_ | refine AV.str_congr ?_ | refine AV.list_congr ?_ | with_reducible rfl | refine fr1 ?_ | refine fr2 ?_ ?_
  · omega
  · obtain ⟨r, l⟩ := f; obtain ⟨r', l'⟩ := g
    rw [Bool.eq_iff_iff]; simp
theorem fct_le {l : List Fct} {i : Nat} (hi : i < l.length) : tFct.size (l.getD i default) ≤ listSize tFct l :=
  listSize_mem tFct (List.mem_of_getElem? (facts_get hi))
theorem fct_le' {l : List Fct} (i : Nat) : tFct.size (l.getD i default) ≤ listSize tFct l := by
  rcases Nat.lt_or_ge i l.length with h | h
  · exact fct_le h
  · have : l.getD i default = default := by simp [List.getD, List.getElem?_eq_none h]
    rw [this]; exact Nat.zero_le _
def findF : List Fct → Fct → Int → Int
  | [], _, _ => -1
  | g :: l, f, n => if g = f then n else findF l f (n + 1)
theorem findF_drop {l : List Fct} {f : Fct} {i : Nat} (hi : i < l.length) : findF (l.drop i) f i = if l.getD i default = f then (i : Int) else findF (l.drop (i + 1)) f ((i + 1 : Nat) : Int) := by
  rw [List.drop_eq_getElem_cons hi, findF]
  simp [List.getD, hi]
theorem sFindFact.ret (l : List Fct) (f : Fct) (h : tFcts.size l ≤ 1048576) (h' : tFct.size f ≤ 1048576) : sFindFact.Ret [.list none (facts l), .agg (oldL (tFct.q f))] (.val (.int .i64 (findF l f 0))) [] := by
  refine sFindFact.of rfl ?_
  rw [tFcts_size] at h
  repeat' first
    | contradiction | exact trivial
    | (conv => whnf
       first | refine Need.mk (fun h => h) ?_ | refine Need.mk rfl ?_ | refine Need.mk ⟨rfl, Nat.le_of_ble_eq_true rfl⟩ ?_ | refine Need.mk (Nat.le_of_ble_eq_true rfl) ?_ | refine Need.fin ?_ | refine Need.mk ?_ ?_ | refine Ix.strsF rfl ?_ | refine Ix.strs rfl ?_ ?_ | refine Cut.strs rfl ?_ ?_ | refine Ix.mapF (fun _ => rfl) ?_ | refine Ix.map (fun _ => rfl) ?_ ?_ | refine Cut.map (fun _ => rfl) ?_ ?_ | refine Fork.yes (by assumption) ?_ | refine Fork.no (by assumption) ?_ | refine Fork.decYes (by omega) ?_ | refine Fork.decNo (by omega) ?_ | refine Fork.dec (fun _ => ?_) (fun _ => ?_) | refine Fork.bne (fun _ => ?_) (fun _ => ?_) | refine Fork.beq (fun _ => ?_) (fun _ => ?_) | refine Fork.seq (fun _ => ?_) (fun _ => ?_) | refine Fork.sne (fun _ => ?_) (fun _ => ?_) | refine Fork.neg (fun _ => ?_) (fun _ => ?_) | refine Fork.mk (fun _ => ?_) (fun _ => ?_) | refine HAlt.mk ?_ ?_ | apply HJoin.mk3 | exact HEnd.mk rfl rfl rfl | refine HEnd.mk ?_ ?_ ?_ | refine Round.mk ?_ | refine NilQ.mk (fun b hb => ?_) | refine forceK_of ?_ | refine forceBx_of ?_ | refine unG_old ?_ | refine unG_gv ?_ | refine Lit.read rfl ?_ | refine FinVal.keep ?_ | refine FinAgg.keep ?_ | refine Final.mk rfl rfl | refine Final.mk ?_ rfl | refine Final.mk ?_ ?_ | refine FinalT.mk ?_ ?_ | refine FinalC.allA ?_)
    | refine AV.bool_congr ?_ | refine AV.int_congr ?_ | refine AV.str_congr ?_ | refine AV.list_congr ?_ | with_reducible rfl | refine fr1 ?_ | refine fr2 ?_ ?_
  refine ALoop.mk Nat (fun i => ⟨[(0, .list none (facts l)), (3, .bptr 0 0), (5, .val (.int .i64 i))], [.cells .var (oldL (tFct.q f))], []⟩) (fun i => i ≤ l.length ∧ findF (l.drop i) f i = findF l f 0) (fun i => l.length - i) ⟨0, ⟨Nat.zero_le _, rfl⟩, ?_⟩ (fun i hi => ?_)
  · repeat' first
      | exact trivial | refine Weak.mk ?_ ?_ ?_ ?_ (Or.inl (Nat.le_of_ble_eq_true rfl)) | refine Weak.mk ?_ ?_ ?_ ?_ (Or.inr ⟨(by repeat' first | exact trivial | exact Nat.le_of_ble_eq_true rfl | refine And.intro ?_ ?_), (by repeat' first | exact trivial | exact Nat.le_of_ble_eq_true rfl | refine And.intro ?_ ?_)⟩) | refine Weak.mk ?_ ?_ ?_ ?_ ?_ | refine And.intro ?_ ?_ | with_reducible rfl | exact Nat.le_of_ble_eq_true rfl | refine fr1 ?_ | refine fr2 ?_ ?_ | refine AV.int_congr ?_ | refine AV.bool_congr ?_ | refine AV.str_congr ?_ | refine AV.list_congr ?_ | refine AV.bsl_congr ?_ ?_ | (apply rfl)
  repeat' first
    | contradiction | exact trivial
    | (conv => whnf
       first | refine Need.mk (fun h => h) ?_ | refine Need.mk rfl ?_ | refine Need.mk ⟨rfl, Nat.le_of_ble_eq_true rfl⟩ ?_ | refine Need.mk (Nat.le_of_ble_eq_true rfl) ?_ | refine Need.fin ?_ | refine Need.mk ?_ ?_ | refine Ix.strsF rfl ?_ | refine Ix.strs rfl ?_ ?_ | refine Cut.strs rfl ?_ ?_ | refine Ix.mapF (fun _ => rfl) ?_ | refine Ix.map (fun _ => rfl) ?_ ?_ | refine Cut.map (fun _ => rfl) ?_ ?_ | refine Fork.yes (by assumption) ?_ | refine Fork.no (by assumption) ?_ | refine Fork.decYes (by omega) ?_ | refine Fork.decNo (by omega) ?_ | refine Fork.dec (fun _ => ?_) (fun _ => ?_) | refine Fork.bne (fun _ => ?_) (fun _ => ?_) | refine Fork.beq (fun _ => ?_) (fun _ => ?_) | refine Fork.seq (fun _ => ?_) (fun _ => ?_) | refine Fork.sne (fun _ => ?_) (fun _ => ?_) | refine Fork.neg (fun _ => ?_) (fun _ => ?_) | refine Fork.mk (fun _ => ?_) (fun _ => ?_) | refine HAlt.mk ?_ ?_ | apply HJoin.mk3 | exact HEnd.mk rfl rfl rfl | refine HEnd.mk ?_ ?_ ?_ | refine Round.mk ?_ | refine NilQ.mk (fun b hb => ?_) | refine forceK_of ?_ | refine forceBx_of ?_ | refine unG_old ?_ | refine unG_gv ?_ | refine Lit.read rfl ?_ | refine FinVal.keep ?_ | refine FinAgg.keep ?_ | refine Final.mk rfl rfl | refine Final.mk ?_ rfl | refine Final.mk ?_ ?_ | refine FinalT.mk ?_ ?_ | refine FinalC.allA ?_ | refine ACall.scalA _ _ (sSame.ret _ _ ?_) rfl ?_ | refine AQCall.mkA _ _ (fun hg => sSame.ret _ _ ?_) rfl ?_ | refine AGCall.mkA _ _ (fun hg => sSame.ret _ _ ?_) rfl ?_)
    | refine AV.bool_congr ?_ | refine AV.int_congr ?_ | refine AV.str_congr ?_ | refine AV.list_congr ?_ | with_reducible rfl | refine fr1 ?_ | refine fr2 ?_ ?_
  all_goals try simp only [length_rows, length_strs, length_oldLL, List.length_map, Int.toNat_natCast] at *
  · have := fct_le (l := l) (i := i) (by omega); omega
  · rename_i h1 h2
    have h3 := findF_drop (l := l) (f := f) (i := i) (by omega)
    rw [if_pos (by simpa using h1), hi.2] at h3
    exact h3.symm
  · rename_i h1 h2
    have h3 := findF_drop (l := l) (f := f) (i := i) (by omega)
    rw [if_neg (by simpa using h1), hi.2] at h3
    refine ⟨i + 1, ⟨by omega, h3.symm⟩, ?_, by omega⟩
    repeat' first
      | exact trivial | refine Weak.mk ?_ ?_ ?_ ?_ (Or.inl (Nat.le_of_ble_eq_true rfl)) | refine Weak.mk ?_ ?_ ?_ ?_ (Or.inr ⟨(by repeat' first | exact trivial | exact Nat.le_of_ble_eq_true rfl | refine And.intro ?_ ?_), (by repeat' first | exact trivial | exact Nat.le_of_ble_eq_true rfl | refine And.intro ?_ ?_)⟩) | refine Weak.mk ?_ ?_ ?_ ?_ ?_ | refine And.intro ?_ ?_ | with_reducible rfl | exact Nat.le_of_ble_eq_true rfl | refine fr1 ?_ | refine fr2 ?_ ?_ | refine AV.int_congr ?_ | refine AV.bool_congr ?_ | refine AV.str_congr ?_ | refine AV.list_congr ?_ | refine AV.bsl_congr ?_ ?_ | (apply rfl)
    rw [wrap64 (by omega) (by omega)]; rfl
  · have := hi.2
    rw [List.drop_eq_nil_of_le (by omega)] at this
    rw [← this]; rfl
theorem pFindFact.ret (l : List Fct) (f : Fct) (h : tFcts.size l ≤ 1048576) (h' : tFct.size f ≤ 1048576) : pFindFact.Ret [.list none (facts l), .agg (oldL (tFct.q f))] (.val (.int .i64 (findF l f 0))) [] := by
  refine pFindFact.of rfl ?_
  rw [tFcts_size] at h
  repeat' first
    | contradiction | exact trivial
    | (conv => whnf
       first | refine Need.mk (fun h => h) ?_ | refine Need.mk rfl ?_ | refine Need.mk ⟨rfl, Nat.le_of_ble_eq_true rfl⟩ ?_ | refine Need.mk (Nat.le_of_ble_eq_true rfl) ?_ | refine Need.fin ?_ | refine Need.mk ?_ ?_ | refine Ix.strsF rfl ?_ | refine Ix.strs rfl ?_ ?_ | refine Cut.strs rfl ?_ ?_ | refine Ix.mapF (fun _ => rfl) ?_ | refine Ix.map (fun _ => rfl) ?_ ?_ | refine Cut.map (fun _ => rfl) ?_ ?_ | refine Fork.yes (by assumption) ?_ | refine Fork.no (by assumption) ?_ | refine Fork.decYes (by omega) ?_ | refine Fork.decNo (by omega) ?_ | refine Fork.dec (fun _ => ?_) (fun _ => ?_) | refine Fork.bne (fun _ => ?_) (fun _ => ?_) | refine Fork.beq (fun _ => ?_) (fun _ => ?_) | refine Fork.seq (fun _ => ?_) (fun _ => ?_) | refine Fork.sne (fun _ => ?_) (fun _ => ?_) | refine Fork.neg (fun _ => ?_) (fun _ => ?_) | refine Fork.mk (fun _ => ?_) (fun _ => ?_) | refine HAlt.mk ?_ ?_ | apply HJoin.mk3 | exact HEnd.mk rfl rfl rfl | refine HEnd.mk ?_ ?_ ?_ | refine Round.mk ?_ | refine NilQ.mk (fun b hb => ?_) | refine forceK_of ?_ | refine forceBx_of ?_ | refine unG_old ?_ | refine unG_gv ?_ | refine Lit.read rfl ?_ | refine FinVal.keep ?_ | refine FinAgg.keep ?_ | refine Final.mk rfl rfl | refine Final.mk ?_ rfl | refine Final.mk ?_ ?_ | refine FinalT.mk ?_ ?_ | refine FinalC.allA ?_)
    | refine AV.bool_congr ?_ | refine AV.int_congr ?_ | refine AV.str_congr ?_ | refine AV.list_congr ?_ | with_reducible rfl | refine fr1 ?_ | refine fr2 ?_ ?_
  refine ALoop.mk Nat (fun i => ⟨[(0, .list none (facts l)), (3, .bptr 0 0), (7, .list none (facts l)), (8, .val (.int .i64 l.length)), (9, .val (.int .i64 i))], [.cells .var (oldL (tFct.q f))], []⟩) (fun i => i ≤ l.length ∧ findF (l.drop i) f i = findF l f 0) (fun i => l.length - i) ⟨0, ⟨Nat.zero_le _, rfl⟩, ?_⟩ (fun i hi => ?_)
  · repeat' first
      | exact trivial | refine Weak.mk ?_ ?_ ?_ ?_ (Or.inl (Nat.le_of_ble_eq_true rfl)) | refine Weak.mk ?_ ?_ ?_ ?_ (Or.inr ⟨(by repeat' first | exact trivial | exact Nat.le_of_ble_eq_true rfl | refine And.intro ?_ ?_), (by repeat' first | exact trivial | exact Nat.le_of_ble_eq_true rfl | refine And.intro ?_ ?_)⟩) | refine Weak.mk ?_ ?_ ?_ ?_ ?_ | refine And.intro ?_ ?_ | with_reducible rfl | exact Nat.le_of_ble_eq_true rfl | refine fr1 ?_ | refine fr2 ?_ ?_ | refine AV.int_congr ?_ | refine AV.bool_congr ?_ | refine AV.str_congr ?_ | refine AV.list_congr ?_ | refine AV.bsl_congr ?_ ?_ | (apply rfl)
    simp
  repeat' first
    | contradiction | exact trivial
    | (conv => whnf
       first | refine Need.mk (fun h => h) ?_ | refine Need.mk rfl ?_ | refine Need.mk ⟨rfl, Nat.le_of_ble_eq_true rfl⟩ ?_ | refine Need.mk (Nat.le_of_ble_eq_true rfl) ?_ | refine Need.fin ?_ | refine Need.mk ?_ ?_ | refine Ix.strsF rfl ?_ | refine Ix.strs rfl ?_ ?_ | refine Cut.strs rfl ?_ ?_ | refine Ix.mapF (fun _ => rfl) ?_ | refine Ix.map (fun _ => rfl) ?_ ?_ | refine Cut.map (fun _ => rfl) ?_ ?_ | refine Fork.yes (by assumption) ?_ | refine Fork.no (by assumption) ?_ | refine Fork.decYes (by omega) ?_ | refine Fork.decNo (by omega) ?_ | refine Fork.dec (fun _ => ?_) (fun _ => ?_) | refine Fork.bne (fun _ => ?_) (fun _ => ?_) | refine Fork.beq (fun _ => ?_) (fun _ => ?_) | refine Fork.seq (fun _ => ?_) (fun _ => ?_) | refine Fork.sne (fun _ => ?_) (fun _ => ?_) | refine Fork.neg (fun _ => ?_) (fun _ => ?_) | refine Fork.mk (fun _ => ?_) (fun _ => ?_) | refine HAlt.mk ?_ ?_ | apply HJoin.mk3 | exact HEnd.mk rfl rfl rfl | refine HEnd.mk ?_ ?_ ?_ | refine Round.mk ?_ | refine NilQ.mk (fun b hb => ?_) | refine forceK_of ?_ | refine forceBx_of ?_ | refine unG_old ?_ | refine unG_gv ?_ | refine Lit.read rfl ?_ | refine FinVal.keep ?_ | refine FinAgg.keep ?_ | refine Final.mk rfl rfl | refine Final.mk ?_ rfl | refine Final.mk ?_ ?_ | refine FinalT.mk ?_ ?_ | refine FinalC.allA ?_ | refine ACall.scalA _ _ (psameFact.ret _ _ ?_) rfl ?_ | refine AQCall.mkA _ _ (fun hg => psameFact.ret _ _ ?_) rfl ?_ | refine AGCall.mkA _ _ (fun hg => psameFact.ret _ _ ?_) rfl ?_)
    | refine AV.bool_congr ?_ | refine AV.int_congr ?_ | refine AV.str_congr ?_ | refine AV.list_congr ?_ | with_reducible rfl | refine fr1 ?_ | refine fr2 ?_ ?_
  all_goals try simp only [length_rows, length_strs, length_oldLL, List.length_map, Int.toNat_natCast] at *
  · have := fct_le (l := l) (i := i) (by omega); omega
  · rename_i h1 h2
    have h3 := findF_drop (l := l) (f := f) (i := i) (by omega)
    rw [if_pos (by simpa using h2), hi.2] at h3
    exact h3.symm
  · rename_i h1 h2
    have h3 := findF_drop (l := l) (f := f) (i := i) (by omega)
    rw [if_neg (by simpa using h2), hi.2] at h3
    refine ⟨i + 1, ⟨by omega, h3.symm⟩, ?_, by omega⟩
    repeat' first
      | exact trivial | refine Weak.mk ?_ ?_ ?_ ?_ (Or.inl (Nat.le_of_ble_eq_true rfl)) | refine Weak.mk ?_ ?_ ?_ ?_ (Or.inr ⟨(by repeat' first | exact trivial | exact Nat.le_of_ble_eq_true rfl | refine And.intro ?_ ?_), (by repeat' first | exact trivial | exact Nat.le_of_ble_eq_true rfl | refine And.intro ?_ ?_)⟩) | refine Weak.mk ?_ ?_ ?_ ?_ ?_ | refine And.intro ?_ ?_ | with_reducible rfl | exact Nat.le_of_ble_eq_true rfl | refine fr1 ?_ | refine fr2 ?_ ?_ | refine AV.int_congr ?_ | refine AV.bool_congr ?_ | refine AV.str_congr ?_ | refine AV.list_congr ?_ | refine AV.bsl_congr ?_ ?_ | (apply rfl)
    rw [wrap64 (by omega) (by omega)]; rfl
  · have := hi.2
    rw [List.drop_eq_nil_of_le (by omega)] at this
    rw [← this]; rfl
def badAt (l : List Fct) (i : Nat) : Bool := !isFactF (l.getD i default) || (decide ((0 : Int) < i) && decide (0 ≤ cmpF (l.getD (i - 1) default) (l.getD i default)))
@[irreducible] def areF (l : List Fct) : Bool := decide ((l.length : Int) ≤ 24) && (List.range l.length).all fun i => !badAt l i
theorem areF_no {l : List Fct} {i : Nat} (hi : i < l.length) (h : badAt l i = true) : areF l = false := by
  have : ((List.range l.length).all fun i => !badAt l i) = false := by
    rw [List.all_eq_false]
    exact ⟨i, List.mem_range.2 hi, by simp [h]⟩
  unfold areF; rw [this, Bool.and_false]
theorem areF_yes {l : List Fct} (h : ∀ j, j < l.length → badAt l j = false) : areF l = decide ((l.length : Int) ≤ 24) := by
  have : ((List.range l.length).all fun i => !badAt l i) = true := by
    rw [List.all_eq_true]
    intro j hj
    simp [h j (List.mem_range.1 hj)]
  unfold areF; rw [this, Bool.and_true]
theorem badAt_step {l : List Fct} {i : Nat} {x : Int} (hi : i < l.length) (hx : x = (i : Int) - 1) :
    (!isFactF (l.getD i default) || (decide ((0 : Int) < (i : Int)) && decide (0 ≤ cmpF (l.getD x.toNat default) (l.getD i default)))) = badAt l i := by
  subst hx
  unfold badAt
  rw [show ((i : Int) - 1).toNat = i - 1 by omega]
theorem sAreFacts.ret (l : List Fct) (h : tFcts.size l ≤ 1048576) : sAreFacts.Ret [.list none (facts l)] (.val (.bool (areF l))) [] := by
  refine sAreFacts.of rfl ?_
  rw [tFcts_size] at h
  repeat' first
    | contradiction | exact trivial
    | (conv => whnf
       first | refine Need.mk (fun h => h) ?_ | refine Need.mk rfl ?_ | refine Need.mk ⟨rfl, Nat.le_of_ble_eq_true rfl⟩ ?_ | refine Need.mk (Nat.le_of_ble_eq_true rfl) ?_ | refine Need.fin ?_ | refine Need.mk ?_ ?_ | refine Ix.strsF rfl ?_ | refine Ix.strs rfl ?_ ?_ | refine Cut.strs rfl ?_ ?_ | refine Ix.mapF (fun _ => rfl) ?_ | refine Ix.map (fun _ => rfl) ?_ ?_ | refine Cut.map (fun _ => rfl) ?_ ?_ | refine Fork.yes (by assumption) ?_ | refine Fork.no (by assumption) ?_ | refine Fork.decYes (by omega) ?_ | refine Fork.decNo (by omega) ?_ | refine Fork.dec (fun _ => ?_) (fun _ => ?_) | refine Fork.bne (fun _ => ?_) (fun _ => ?_) | refine Fork.beq (fun _ => ?_) (fun _ => ?_) | refine Fork.seq (fun _ => ?_) (fun _ => ?_) | refine Fork.sne (fun _ => ?_) (fun _ => ?_) | refine Fork.neg (fun _ => ?_) (fun _ => ?_) | refine Fork.mk (fun _ => ?_) (fun _ => ?_) | refine HAlt.mk ?_ ?_ | apply HJoin.mk3 | exact HEnd.mk rfl rfl rfl | refine HEnd.mk ?_ ?_ ?_ | refine Round.mk ?_ | refine NilQ.mk (fun b hb => ?_) | refine forceK_of ?_ | refine forceBx_of ?_ | refine unG_old ?_ | refine unG_gv ?_ | refine Lit.read rfl ?_ | refine FinVal.keep ?_ | refine FinAgg.keep ?_ | refine Final.mk rfl rfl | refine Final.mk ?_ rfl | refine Final.mk ?_ ?_ | refine FinalT.mk ?_ ?_ | refine FinalC.allA ?_)
    | refine AV.bool_congr ?_ | refine AV.int_congr ?_ | refine AV.str_congr ?_ | refine AV.list_congr ?_ | with_reducible rfl | refine fr1 ?_ | refine fr2 ?_ ?_
  refine ALoop.mk Nat (fun i => ⟨[(0, .list none (facts l)), (3, .val (.int .i64 i))], [], []⟩) (fun i => i ≤ l.length ∧ ∀ j, j < i → badAt l j = false) (fun i => l.length - i) ⟨0, ⟨Nat.zero_le _, by omega⟩, ?_⟩ (fun i hi => ?_)
  · repeat' first
      | exact trivial | refine Weak.mk ?_ ?_ ?_ ?_ (Or.inl (Nat.le_of_ble_eq_true rfl)) | refine Weak.mk ?_ ?_ ?_ ?_ (Or.inr ⟨(by repeat' first | exact trivial | exact Nat.le_of_ble_eq_true rfl | refine And.intro ?_ ?_), (by repeat' first | exact trivial | exact Nat.le_of_ble_eq_true rfl | refine And.intro ?_ ?_)⟩) | refine Weak.mk ?_ ?_ ?_ ?_ ?_ | refine And.intro ?_ ?_ | with_reducible rfl | exact Nat.le_of_ble_eq_true rfl | refine fr1 ?_ | refine fr2 ?_ ?_ | refine AV.int_congr ?_ | refine AV.bool_congr ?_ | refine AV.str_congr ?_ | refine AV.list_congr ?_ | refine AV.bsl_congr ?_ ?_ | (apply rfl)
  have hw : i < l.length → IntKind.i64.wrap ((i : Int) - 1) = (i : Int) - 1 := fun h => wrap64 (by omega) (by omega)
  repeat' first
    | contradiction | exact trivial
    | (conv => whnf
       first | refine Need.mk (fun h => h) ?_ | refine Need.mk rfl ?_ | refine Need.mk ⟨rfl, Nat.le_of_ble_eq_true rfl⟩ ?_ | refine Need.mk (Nat.le_of_ble_eq_true rfl) ?_ | refine Need.fin ?_ | refine Need.mk ?_ ?_ | refine Ix.strsF rfl ?_ | refine Ix.strs rfl ?_ ?_ | refine Cut.strs rfl ?_ ?_ | refine Ix.mapF (fun _ => rfl) ?_ | refine Ix.map (fun _ => rfl) ?_ ?_ | refine Cut.map (fun _ => rfl) ?_ ?_ | refine Fork.yes (by assumption) ?_ | refine Fork.no (by assumption) ?_ | refine Fork.decYes (by omega) ?_ | refine Fork.decNo (by omega) ?_ | refine Fork.dec (fun _ => ?_) (fun _ => ?_) | refine Fork.bne (fun _ => ?_) (fun _ => ?_) | refine Fork.beq (fun _ => ?_) (fun _ => ?_) | refine Fork.seq (fun _ => ?_) (fun _ => ?_) | refine Fork.sne (fun _ => ?_) (fun _ => ?_) | refine Fork.neg (fun _ => ?_) (fun _ => ?_) | refine Fork.mk (fun _ => ?_) (fun _ => ?_) | refine HAlt.mk ?_ ?_ | apply HJoin.mk3 | exact HEnd.mk rfl rfl rfl | refine HEnd.mk ?_ ?_ ?_ | refine Round.mk ?_ | refine NilQ.mk (fun b hb => ?_) | refine forceK_of ?_ | refine forceBx_of ?_ | refine unG_old ?_ | refine unG_gv ?_ | refine Lit.read rfl ?_ | refine FinVal.keep ?_ | refine FinAgg.keep ?_ | refine Final.mk rfl rfl | refine Final.mk ?_ rfl | refine Final.mk ?_ ?_ | refine FinalT.mk ?_ ?_ | refine FinalC.allA ?_ | refine ACall.scalA _ _ (sIsFact.ret _ ?_) rfl ?_ | refine AQCall.mkA _ _ (fun hg => sIsFact.ret _ ?_) rfl ?_ | refine AGCall.mkA _ _ (fun hg => sIsFact.ret _ ?_) rfl ?_ | refine ACall.scalA _ _ (sCompareFacts.ret _ _ ?_ ?_) rfl ?_ | refine AQCall.mkA _ _ (fun hg => sCompareFacts.ret _ _ ?_ ?_) rfl ?_ | refine AGCall.mkA _ _ (fun hg => sCompareFacts.ret _ _ ?_ ?_) rfl ?_)
    | refine AV.bool_congr ?_ | refine AV.int_congr ?_ | refine AV.str_congr ?_ | refine AV.list_congr ?_ | with_reducible rfl | refine fr1 ?_ | refine fr2 ?_ ?_
  all_goals try simp only [length_rows, length_strs, length_oldLL, List.length_map, Int.toNat_natCast] at *
  · exact Nat.le_trans (fct_le' _) (by omega)
  · exact Nat.le_trans (fct_le' _) (by omega)
  · exact Nat.le_trans (fct_le' _) (by omega)
  · rename_i h1 h2
    rw [badAt_step (by omega) (hw (by omega))] at h1
    rw [areF_no (by omega) h1]
  · rename_i h1 h2
    rw [badAt_step (by omega) (hw (by omega))] at h1
    refine ⟨i + 1, ⟨by omega, fun j hj => ?_⟩, ?_, by omega⟩
    · rcases Nat.lt_or_ge j i with h | h
      · exact hi.2 j h
      · have : j = i := by omega
        subst this; exact h1
    · repeat' first
        | exact trivial | refine Weak.mk ?_ ?_ ?_ ?_ (Or.inl (Nat.le_of_ble_eq_true rfl)) | refine Weak.mk ?_ ?_ ?_ ?_ (Or.inr ⟨(by repeat' first | exact trivial | exact Nat.le_of_ble_eq_true rfl | refine And.intro ?_ ?_), (by repeat' first | exact trivial | exact Nat.le_of_ble_eq_true rfl | refine And.intro ?_ ?_)⟩) | refine Weak.mk ?_ ?_ ?_ ?_ ?_ | refine And.intro ?_ ?_ | with_reducible rfl | exact Nat.le_of_ble_eq_true rfl | refine fr1 ?_ | refine fr2 ?_ ?_ | refine AV.int_congr ?_ | refine AV.bool_congr ?_ | refine AV.str_congr ?_ | refine AV.list_congr ?_ | refine AV.bsl_congr ?_ ?_ | (apply rfl)
      rw [wrap64 (by omega) (by omega)]; rfl
  · rw [areF_yes (fun j hj => hi.2 j (by omega))]
theorem areF_long {l : List Fct} (h : ¬ (l.length : Int) ≤ 24) : areF l = false := by unfold areF; simp [h]
theorem pAreFacts.ret (l : List Fct) (h : tFcts.size l ≤ 1048576) : pAreFacts.Ret [.list none (facts l)] (.val (.bool (areF l))) [] := by
  refine pAreFacts.of rfl ?_
  rw [tFcts_size] at h
  repeat' first
    | contradiction | exact trivial
    | (conv => whnf
       first | refine Need.mk (fun h => h) ?_ | refine Need.mk rfl ?_ | refine Need.mk ⟨rfl, Nat.le_of_ble_eq_true rfl⟩ ?_ | refine Need.mk (Nat.le_of_ble_eq_true rfl) ?_ | refine Need.fin ?_ | refine Need.mk ?_ ?_ | refine Ix.strsF rfl ?_ | refine Ix.strs rfl ?_ ?_ | refine Cut.strs rfl ?_ ?_ | refine Ix.mapF (fun _ => rfl) ?_ | refine Ix.map (fun _ => rfl) ?_ ?_ | refine Cut.map (fun _ => rfl) ?_ ?_ | refine Fork.yes (by assumption) ?_ | refine Fork.no (by assumption) ?_ | refine Fork.decYes (by omega) ?_ | refine Fork.decNo (by omega) ?_ | refine Fork.dec (fun _ => ?_) (fun _ => ?_) | refine Fork.bne (fun _ => ?_) (fun _ => ?_) | refine Fork.beq (fun _ => ?_) (fun _ => ?_) | refine Fork.seq (fun _ => ?_) (fun _ => ?_) | refine Fork.sne (fun _ => ?_) (fun _ => ?_) | refine Fork.neg (fun _ => ?_) (fun _ => ?_) | refine Fork.mk (fun _ => ?_) (fun _ => ?_) | refine HAlt.mk ?_ ?_ | apply HJoin.mk3 | exact HEnd.mk rfl rfl rfl | refine HEnd.mk ?_ ?_ ?_ | refine Round.mk ?_ | refine NilQ.mk (fun b hb => ?_) | refine forceK_of ?_ | refine forceBx_of ?_ | refine unG_old ?_ | refine unG_gv ?_ | refine Lit.read rfl ?_ | refine FinVal.keep ?_ | refine FinAgg.keep ?_ | refine Final.mk rfl rfl | refine Final.mk ?_ rfl | refine Final.mk ?_ ?_ | refine FinalT.mk ?_ ?_ | refine FinalC.allA ?_)
    | refine AV.bool_congr ?_ | refine AV.int_congr ?_ | refine AV.str_congr ?_ | refine AV.list_congr ?_ | with_reducible rfl | refine fr1 ?_ | refine fr2 ?_ ?_
  · rename_i h1
    rw [length_rows] at h1
    rw [areF_long (by omega)]
  rename_i h24
  rw [length_rows] at h24
  repeat' first
    | contradiction | exact trivial
    | (conv => whnf
       first | refine Need.mk (fun h => h) ?_ | refine Need.mk rfl ?_ | refine Need.mk ⟨rfl, Nat.le_of_ble_eq_true rfl⟩ ?_ | refine Need.mk (Nat.le_of_ble_eq_true rfl) ?_ | refine Need.fin ?_ | refine Need.mk ?_ ?_ | refine Ix.strsF rfl ?_ | refine Ix.strs rfl ?_ ?_ | refine Cut.strs rfl ?_ ?_ | refine Ix.mapF (fun _ => rfl) ?_ | refine Ix.map (fun _ => rfl) ?_ ?_ | refine Cut.map (fun _ => rfl) ?_ ?_ | refine Fork.yes (by assumption) ?_ | refine Fork.no (by assumption) ?_ | refine Fork.decYes (by omega) ?_ | refine Fork.decNo (by omega) ?_ | refine Fork.dec (fun _ => ?_) (fun _ => ?_) | refine Fork.bne (fun _ => ?_) (fun _ => ?_) | refine Fork.beq (fun _ => ?_) (fun _ => ?_) | refine Fork.seq (fun _ => ?_) (fun _ => ?_) | refine Fork.sne (fun _ => ?_) (fun _ => ?_) | refine Fork.neg (fun _ => ?_) (fun _ => ?_) | refine Fork.mk (fun _ => ?_) (fun _ => ?_) | refine HAlt.mk ?_ ?_ | apply HJoin.mk3 | exact HEnd.mk rfl rfl rfl | refine HEnd.mk ?_ ?_ ?_ | refine Round.mk ?_ | refine NilQ.mk (fun b hb => ?_) | refine forceK_of ?_ | refine forceBx_of ?_ | refine unG_old ?_ | refine unG_gv ?_ | refine Lit.read rfl ?_ | refine FinVal.keep ?_ | refine FinAgg.keep ?_ | refine Final.mk rfl rfl | refine Final.mk ?_ rfl | refine Final.mk ?_ ?_ | refine FinalT.mk ?_ ?_ | refine FinalC.allA ?_)
    | refine AV.bool_congr ?_ | refine AV.int_congr ?_ | refine AV.str_congr ?_ | refine AV.list_congr ?_ | with_reducible rfl | refine fr1 ?_ | refine fr2 ?_ ?_
  refine ALoop.mk Nat (fun i => ⟨[(0, .list none (facts l)), (8, .list none (facts l)), (9, .val (.int .i64 l.length)), (10, .val (.int .i64 i))], [], []⟩) (fun i => i ≤ l.length ∧ ∀ j, j < i → badAt l j = false) (fun i => l.length - i) ⟨0, ⟨Nat.zero_le _, by omega⟩, ?_⟩ (fun i hi => ?_)
  · repeat' first
      | exact trivial | refine Weak.mk ?_ ?_ ?_ ?_ (Or.inl (Nat.le_of_ble_eq_true rfl)) | refine Weak.mk ?_ ?_ ?_ ?_ (Or.inr ⟨(by repeat' first | exact trivial | exact Nat.le_of_ble_eq_true rfl | refine And.intro ?_ ?_), (by repeat' first | exact trivial | exact Nat.le_of_ble_eq_true rfl | refine And.intro ?_ ?_)⟩) | refine Weak.mk ?_ ?_ ?_ ?_ ?_ | refine And.intro ?_ ?_ | with_reducible rfl | exact Nat.le_of_ble_eq_true rfl | refine fr1 ?_ | refine fr2 ?_ ?_ | refine AV.int_congr ?_ | refine AV.bool_congr ?_ | refine AV.str_congr ?_ | refine AV.list_congr ?_ | refine AV.bsl_congr ?_ ?_ | (apply rfl)
    simp
  have hw : i < l.length → IntKind.i64.wrap ((i : Int) - 1) = (i : Int) - 1 := fun h => wrap64 (by omega) (by omega)
  repeat' first
    | contradiction | exact trivial
    | (conv => whnf
       first | refine Need.mk (fun h => h) ?_ | refine Need.mk rfl ?_ | refine Need.mk ⟨rfl, Nat.le_of_ble_eq_true rfl⟩ ?_ | refine Need.mk (Nat.le_of_ble_eq_true rfl) ?_ | refine Need.fin ?_ | refine Need.mk ?_ ?_ | refine Ix.strsF rfl ?_ | refine Ix.strs rfl ?_ ?_ | refine Cut.strs rfl ?_ ?_ | refine Ix.mapF (fun _ => rfl) ?_ | refine Ix.map (fun _ => rfl) ?_ ?_ | refine Cut.map (fun _ => rfl) ?_ ?_ | refine Fork.yes (by assumption) ?_ | refine Fork.no (by assumption) ?_ | refine Fork.decYes (by omega) ?_ | refine Fork.decNo (by omega) ?_ | refine Fork.dec (fun _ => ?_) (fun _ => ?_) | refine Fork.bne (fun _ => ?_) (fun _ => ?_) | refine Fork.beq (fun _ => ?_) (fun _ => ?_) | refine Fork.seq (fun _ => ?_) (fun _ => ?_) | refine Fork.sne (fun _ => ?_) (fun _ => ?_) | refine Fork.neg (fun _ => ?_) (fun _ => ?_) | refine Fork.mk (fun _ => ?_) (fun _ => ?_) | refine HAlt.mk ?_ ?_ | apply HJoin.mk3 | exact HEnd.mk rfl rfl rfl | refine HEnd.mk ?_ ?_ ?_ | refine Round.mk ?_ | refine NilQ.mk (fun b hb => ?_) | refine forceK_of ?_ | refine forceBx_of ?_ | refine unG_old ?_ | refine unG_gv ?_ | refine Lit.read rfl ?_ | refine FinVal.keep ?_ | refine FinAgg.keep ?_ | refine Final.mk rfl rfl | refine Final.mk ?_ rfl | refine Final.mk ?_ ?_ | refine FinalT.mk ?_ ?_ | refine FinalC.allA ?_ | refine ACall.scalA _ _ (pIsFact.ret _ ?_) rfl ?_ | refine AQCall.mkA _ _ (fun hg => pIsFact.ret _ ?_) rfl ?_ | refine AGCall.mkA _ _ (fun hg => pIsFact.ret _ ?_) rfl ?_ | refine ACall.scalA _ _ (pCompareFacts.ret _ _ ?_ ?_) rfl ?_ | refine AQCall.mkA _ _ (fun hg => pCompareFacts.ret _ _ ?_ ?_) rfl ?_ | refine AGCall.mkA _ _ (fun hg => pCompareFacts.ret _ _ ?_ ?_) rfl ?_)
    | refine AV.bool_congr ?_ | refine AV.int_congr ?_ | refine AV.str_congr ?_ | refine AV.list_congr ?_ | with_reducible rfl | refine fr1 ?_ | refine fr2 ?_ ?_
  all_goals try simp only [length_rows, length_strs, length_oldLL, List.length_map, Int.toNat_natCast] at *
  · exact Nat.le_trans (fct_le' _) (by omega)
  · exact Nat.le_trans (fct_le' _) (by omega)
  · exact Nat.le_trans (fct_le' _) (by omega)
  · rename_i h2 h1
    rw [badAt_step (by omega) (hw (by omega))] at h1
    rw [areF_no (by omega) h1]
  · rename_i h2 h1
    rw [badAt_step (by omega) (hw (by omega))] at h1
    refine ⟨i + 1, ⟨by omega, fun j hj => ?_⟩, ?_, by omega⟩
    · rcases Nat.lt_or_ge j i with h | h
      · exact hi.2 j h
      · have : j = i := by omega
        subst this; exact h1
    · repeat' first
        | exact trivial | refine Weak.mk ?_ ?_ ?_ ?_ (Or.inl (Nat.le_of_ble_eq_true rfl)) | refine Weak.mk ?_ ?_ ?_ ?_ (Or.inr ⟨(by repeat' first | exact trivial | exact Nat.le_of_ble_eq_true rfl | refine And.intro ?_ ?_), (by repeat' first | exact trivial | exact Nat.le_of_ble_eq_true rfl | refine And.intro ?_ ?_)⟩) | refine Weak.mk ?_ ?_ ?_ ?_ ?_ | refine And.intro ?_ ?_ | with_reducible rfl | exact Nat.le_of_ble_eq_true rfl | refine fr1 ?_ | refine fr2 ?_ ?_ | refine AV.int_congr ?_ | refine AV.bool_congr ?_ | refine AV.str_congr ?_ | refine AV.list_congr ?_ | refine AV.bsl_congr ?_ ?_ | (apply rfl)
      rw [wrap64 (by omega) (by omega)]; rfl
  · rw [areF_yes (fun j hj => hi.2 j (by omega))]; simp; omega
end Go.Proofs.Ytimcfgokocihnaa
namespace Go.Proofs.Ytimcfgokocihnaa
open Abs
theorem takeAV_one {n : Nat} {cs : List AV} {k : AV → Prop} (c : AV) (r : List AV) (h : cs = c :: r) (hk : k c) : takeAV false n cs k := by subst h; exact hk
theorem gbL_fct (f : Fct) (n : Nat) : gb (.a (tFct.q f)) n = gb (strT f.2) n := by
  show gb (.s f.1) n ++ (gb (strT f.2) (n + 0) ++ []) = _
  rw [List.append_nil]; rfl
theorem nb_fct (f : Fct) : nb (.a (tFct.q f)) = 1 := by
  show 0 + (nb (strT f.2) + 0) = 1
  rw [nb_strT]
def mcells : List Fct → Nat → List AV
  | [], _ => []
  | f :: l, n => .str f.1 :: .bsl n f.2.length :: mcells l (n + 1)
def mbox (f : Fct) : ABox := .cells (.row 9 1) (f.2.map AV.str)
theorem gvLL_fct : ∀ (l : List Fct) (n : Nat), gvLL (l.map tFct.q) n = mcells l n
  | [], _ => rfl
  | f :: l, n => by
    have h1 : gvL (tFct.q f) n = [.str f.1, .bsl n f.2.length] := by
      show [AV.str f.1, gv (strT f.2) (n + 0)] = _
      rw [gv_strT]; rfl
    have h2 : nbL (tFct.q f) = 1 := nb_fct f
    rw [List.map_cons, gvLL, h1, h2, gvLL_fct l]; rfl
theorem gbLL_fct : ∀ (l : List Fct) (n : Nat), gbLL (l.map tFct.q) n = l.map mbox
  | [], _ => rfl
  | f :: l, n => by
    have h1 : gbL (tFct.q f) n = [mbox f] := (gbL_fct f n).trans (gb_strT f.2 n)
    have h2 : nbL (tFct.q f) = 1 := nb_fct f
    rw [List.map_cons, gbLL, h1, h2, gbLL_fct l]; rfl
def fctsT (l : List Fct) : Tr := .l 80 2 (l.map tFct.q)
theorem gb_fctsT (l : List Fct) (n : Nat) : gb (fctsT l) n = .cells (.row 80 2) (mcells l (n + 1)) :: l.map mbox := by rw [fctsT, gb, gvLL_fct, gbLL_fct]
theorem gv_fctsT (l : List Fct) (n : Nat) : gv (fctsT l) n = .bsl n l.length := by rw [fctsT, gv, List.length_map]
theorem length_mcells : ∀ (l : List Fct) (n : Nat), (mcells l n).length = l.length * 2
  | [], _ => rfl
  | f :: l, n => by simp only [mcells, List.length_cons, length_mcells l]; omega
end Go.Proofs.Ytimcfgokocihnaa
namespace Go.Proofs.Ytimcfgokocihnaa
namespace Abs
variable {mo : Bool}
open Go.RowKit Go.Sort
/-- a row that is lent has been turned; nothing else has -/
theorem gpost_row {w w' : World} {F : Nat → Nat} {box0 : List BId} {b0 : List ABox} {Φ : AV → List ABox → Prop} (hout : ∀ b, w.heap.size ≤ b → F b = 0) (hbl : box0.length = b0.length)
    (hbi : ∀ (j b c : Nat), box0[j]? = some (.blk b c) → b < w.heap.size ∧ (live b0 j → F b = 0))
    (hbj : ∀ (i j b c c' : Nat), box0[i]? = some (.blk b c) → box0[j]? = some (.blk b c') → live b0 i → live b0 j → i = j)
    (hB : BoxesOk w.heap.size w F [] [] box0 b0) {j blk cap : Nat} {k : RK} {cs cs' : List AV} (hj : box0[j]? = some (.blk blk cap)) (hl : b0[j]? = some (.cells k cs))
    (hdr : w.drawn ≤ w'.drawn) (hos : w'.os = w.os) (htape : w'.tape = w.tape) (hou : w'.output = w.output) (hsz : w.heap.size ≤ w'.heap.size) (hk : ∀ k, k < w.heap.size → k ≠ blk → w'.heap[k]? = w.heap[k]?)
    (hx : (∀ y v, Rep w.heap.size w F [] [] box0 y v → Rep w.heap.size w' F [] [] box0 y v) → BoxOk w.heap.size w' F [] [] box0 (.blk blk cap) (.cells k cs'))
    {e : Ending} {v : Value} {r : AV} (hv : e = .returned v) (hr : Rep w.heap.size w' F [] [] box0 r v) (hΦ : Φ r (b0.set j (.cells k cs'))) :
    ∃ (v : Value) (F' : Nat → Nat) (box1 : List BId) (r : AV) (b1 : List ABox), Φ r b1 ∧ e = .returned v ∧ Keep mo (mask b0 box0) w w' ∧ (∀ b, b < w.heap.size → F' b = F b) ∧ (∀ b, w'.heap.size ≤ b → F' b = 0) ∧
      (∀ (j : Nat) d, box0[j]? = some d → box1[j]? = some d) ∧ box1.length = b1.length ∧
      (∀ (j b c : Nat), box0.length ≤ j → box1[j]? = some (.blk b c) → (w.heap.size ≤ b ∨ ∃ i : Nat, live b0 i ∧ box0[i]? = some (.blk b c)) ∧ b < w'.heap.size) ∧
      (∀ (j b c : Nat), box1[j]? = some (.blk b c) → live b1 j → (box0.length ≤ j ∨ live b0 j) → F' b = 0) ∧
      (∀ (i j b c c' : Nat), box1[i]? = some (.blk b c) → box1[j]? = some (.blk b c') → live b1 i → live b1 j → (box0.length ≤ i ∨ live b0 i) → (box0.length ≤ j ∨ live b0 j) → i = j) ∧
      (∀ (j : Nat) d x, box1[j]? = some d → b1[j]? = some x → (box0.length ≤ j ∨ live b0 j) → BoxOk w.heap.size w' F' [] [] box1 d x) ∧ Rep w.heap.size w' F' [] [] box1 r v := by
  have hlive : live b0 j := fun h => by rw [hl] at h; cases h
  have hF0 := (hbi j blk cap hj).2 hlive
  have hjl := getElem?_lt hl
  have L : Later w F [] [] w' F [] [] := by
    refine ⟨fun b i hi => World.cell?_of_block (w := w) (hk b ?_ (fun h => by rw [h, hF0] at hi; omega)), fun _ => Nat.le_refl _, fun k t s n h => by simp at h⟩
    rcases Nat.lt_or_ge b w.heap.size with h | h
    · exact h
    · rw [hout b h] at hi; omega
  have ld : ∀ {i : Nat}, live (b0.set j (.cells k cs')) i ↔ live b0 i := live_set (by simp) hlive
  refine ⟨v, F, box0, r, _, hΦ, hv, ⟨fun _ => hdr, hos, htape, hou, hsz, fun q hq hn => hk q hq (fun h => ?_)⟩, fun _ _ => rfl, fun b hb => hout b (Nat.le_trans hsz hb), fun _ _ h => h, by simpa using hbl,
    fun i b c hi h => (by have := getElem?_lt h; omega), fun i b c hi hli _ => (hbi i b c hi).2 (ld.1 hli), fun i i' b c c' h1 h2 l1 l2 _ _ => hbj i i' b c c' h1 h2 (ld.1 l1) (ld.1 l2), fun i d x hd hx' hin => ?_, hr⟩
  · subst h
    refine hn j cap ?_
    clear hx hΦ hv hr ld L
    induction b0 generalizing box0 j with
    | nil => simp at hl
    | cons x b ih =>
      cases box0 with
      | nil => simp at hj
      | cons d box =>
        cases j with
        | zero =>
          simp at hl hj
          subst hl; subst hj
          simp [mask]
        | succ j =>
          have h1 : b[j]? = some (.cells k cs) := by simpa using hl
          have h2 : box[j]? = some (.blk q cap) := by simpa using hj
          have aux : ∀ (b : List ABox) (box : List BId) (j : Nat), b[j]? = some (.cells k cs) → box[j]? = some (.blk q cap) → (mask b box)[j]? = some (.blk q cap) := by
            intro b
            induction b with
            | nil => intro box j h; simp at h
            | cons x b ih =>
              intro box j h1 h2
              cases box with
              | nil => simp at h2
              | cons d box =>
                cases j with
                | zero => simp at h1 h2; subst h1; subst h2; simp [mask]
                | succ j => cases x <;> simpa [mask] using ih box j (by simpa using h1) (by simpa using h2)
          cases x <;> simpa [mask] using aux b box j h1 h2
  · rw [List.getElem?_set] at hx'
    by_cases hij : j = i
    · subst hij
      rw [if_pos rfl, if_pos hjl] at hx'
      rw [hj] at hd
      cases hx'; cases hd
      exact hx (fun y v h => h.later L (fun _ _ h => h))
    · rw [if_neg hij] at hx'
      refine (hB i d x hd hx').later L (fun _ _ h => h) (fun b c he hnd => ?_)
      subst he
      refine hk b (hbi i b c hd).1 (fun h => ?_)
      subst h
      exact hij (hbj j i b cap c hj hd hlive (fun h => hnd (by rw [hx'] at h; exact Option.some.inj h)))
end Abs
end Go.Proofs.Ytimcfgokocihnaa
namespace Go.Proofs.Ytimcfgokocihnaa
namespace Abs
open Go.ChangeShapes Go.WideShapes Go.RowKit
def clF (P : Program) (g : TypeId → Option (List Cl)) : Nat → List Field → Option (List Cl)
  | _, [] => some []
  | off, f :: fs => match g f.type with
    | some cs => if f.offset = off ∧ cs.length = P.cellsOf f.type then
        (match clF P g (off + cs.length) fs with | some r => some (cs ++ r) | none => none) else none
    | none => none
def clOf (P : Program) : Nat → TypeId → Option (List Cl)
  | 0, _ => none
  | n + 1, t => match P.underlying t with
    | some .string => some [.str]
    | some .bool => some [.bool]
    | some (.int k) => some [.int k]
    | some (.slice e) => match clOf P n e with
      | some cs => if cs.length = P.cellsOf e ∧ 0 < P.cellsOf e then some [.sl e (P.cellsOf e) cs] else none
      | none => none
    | some (.struct fs) => match clF P (clOf P n) 0 fs.toList with
      | some cs => if cs.length = P.cellsOf t then some cs else none
      | none => none
    | _ => none
theorem Both.app {R : AV → Value → Prop} {xs ys : List AV} {us vs : List Value} (h : Both R xs us) (h' : Both R ys vs) : Both R (xs ++ ys) (us ++ vs) := by
  refine ⟨by simp [h.1, h'.1], fun i x v hx hv => ?_⟩
  rw [List.getElem?_append] at hx hv
  rw [h.1] at hx
  split at hx
  · rename_i hi; rw [if_pos hi] at hv; exact h.2 i x v hx hv
  · rename_i hi; rw [if_neg hi] at hv; exact h'.2 _ x v hx hv
/-- the cells of all blocks that are there -/
def allF (w : World) (b : Nat) : Nat := match w.heap[b]? with | some (.cells c _ _) => c.size | _ => 0
theorem allF_out (w : World) (b : Nat) (h : w.heap.size ≤ b) : allF w b = 0 := by
  unfold allF; rw [Array.getElem?_eq_none h]
section
variable {H : Type} {enc : TypeId × Value → H} {P : Program} {w : World} {base : Nat} {spare : Nat → Bool} {held : Bool}
def Opens (B : Nat) (w : World) (cls : List Cl) (cs : List Value) : Prop :=
  ∃ trs, FitsL cls trs ∧ Both (Rep B w (allF w) [] [] []) (oldL trs) cs ∧ ∀ v ∈ cs, v.oneCell' = true
theorem Opens.one {B : Nat} {cl : Cl} {v : Value} (x : Tr) (h : FitsL [cl] [x]) (hr : Rep B w (allF w) [] [] [] (old x) v) (h1 : v.oneCell' = true) : Opens B w [cl] [v] :=
  ⟨[x], h, Both.cons.2 ⟨hr, rfl, by simp [oldL]⟩, by simp [h1]⟩
theorem open_fields {fuel : Nat} {cs : List Value} (B : Nat) (g : TypeId → Option (List Cl))
    (ih : ∀ t cs x cls, g t = some cls → DataW.trod enc P w base spare held fuel t cs = some x → Opens B w cls cs) :
    ∀ (fs : List Field) (off : Nat) (cls : List Cl), clF P g off fs = some cls → (∀ f ∈ fs, ∃ x, DataW.trod enc P w base spare held fuel f.type ((cs.drop f.offset).take (P.cellsOf f.type)) = some x) →
      Opens B w cls ((cs.drop off).take cls.length)
  | [], off, cls, h, _ => by
    simp only [clF, Option.some.injEq] at h
    subst h
    exact ⟨[], .nil, by simp [Both, oldL], by simp⟩
  | f :: fs, off, cls, h, hx => by
    unfold clF at h
    cases hg : g f.type with
    | none => rw [hg] at h; cases h
    | some c =>
      rw [hg] at h
      simp only at h
      split at h
      · rename_i hc
        obtain ⟨rfl, hc⟩ := hc
        cases hr : clF P g (f.offset + c.length) fs with
        | none => rw [hr] at h; cases h
        | some r =>
          rw [hr] at h
          simp only [Option.some.injEq] at h
          subst h
          obtain ⟨x, hx1⟩ := hx f (by simp)
          obtain ⟨t1, f1, b1, o1⟩ := ih _ _ _ _ hg hx1
          obtain ⟨t2, f2, b2, o2⟩ := open_fields B g ih fs _ r hr (fun f' hf' => hx f' (by simp [hf']))
          have hsplit : (cs.drop f.offset).take (c ++ r).length = (cs.drop f.offset).take c.length ++ (cs.drop (f.offset + c.length)).take r.length := by
            rw [List.length_append, List.take_add, List.drop_drop]
          rw [hsplit, hc]
          rw [hc] at b2 o2
          refine ⟨t1 ++ t2, f1.append f2, ?_, fun v hv => ?_⟩
          · rw [oldL_eq, List.map_append, ← oldL_eq, ← oldL_eq]; exact b1.app b2
          · rcases List.mem_append.1 hv with h | h
            · exact o1 v h
            · exact o2 v h
      · cases h
theorem open_cells (B : Nat) : ∀ (n fuel : Nat) (t : TypeId) (cs : List Value) (x : DataW H × List MemPlace) (cls : List Cl), clOf P n t = some cls → DataW.trod enc P w base spare held fuel t cs = some x → Opens B w cls cs
  | 0, _, _, _, _, _, h, _ => by cases h
  | n + 1, fuel, t, cs, x, cls, h, hx => by
    unfold clOf at h
    cases ht : P.underlying t with
    | none => rw [ht] at h; cases h
    | some u =>
      rw [ht] at h
      cases u with
      | string =>
        simp only [Option.some.injEq] at h; subst h
        obtain ⟨s, rfl, _, hs⟩ := DataW.trod_string ht hx
        exact Opens.one (.s s.data.toList) (.str _ hs .nil) (rep_string s) rfl
      | bool =>
        simp only [Option.some.injEq] at h; subst h
        cases fuel with
        | zero => simp [DataW.trod] at hx
        | succ m =>
          unfold DataW.trod at hx
          rw [ht] at hx
          split at hx <;> simp_all
          exact Opens.one (.v (.bool _)) (.bool _ .nil) (.val _) rfl
      | int k =>
        simp only [Option.some.injEq] at h; subst h
        obtain ⟨m, rfl, _, hm⟩ := DataW.trod_int ht hx
        exact Opens.one (.v (.int k m)) (.int _ _ hm .nil) (.val _) rfl
      | slice e =>
        simp only at h
        cases hc : clOf P n e with
        | none => rw [hc] at h; cases h
        | some c =>
          rw [hc] at h
          simp only at h
          split at h
          · rename_i hsz
            obtain ⟨hsz, hpos⟩ := hsz
            simp only [Option.some.injEq] at h; subst h
            rcases Go.Deep.open_slice ht hx with ⟨rfl, _⟩ | ⟨a, len, cap, m, k, D, Pl, rfl, _, hl, hm, hmm, _, hel⟩
            · refine Opens.one (.l e (P.cellsOf e) []) (.sl _ _ _ [] (Nat.zero_le _) hsz (by simp) .nil) ?_ rfl
              exact .list none [] none 0 0 0 0 (fun _ _ => undef) (Nat.le_refl _) (fun h => absurd rfl h) (by simp) (fun h => absurd rfl h) (by simp) (by simp) (fun k hk => by cases hk)
            · have hlm : len ≤ m := by rw [hmm]; split <;> omega
              obtain ⟨T, hT⟩ := Go.Deep.choose_lt (α := List Value × List Tr) (n := len) (p := fun i q => w.cells? base (a.add (i * P.cellsOf e)) (P.cellsOf e) = some q.1 ∧ FitsL c q.2 ∧
                  Both (Rep B w (allF w) [] [] []) (oldL q.2) q.1 ∧ ∀ v ∈ q.1, v.oneCell' = true) (fun i hi => by
                obtain ⟨cs', h1, h2⟩ := hel i (by omega)
                obtain ⟨trs, h3, h4, h5⟩ := open_cells B n k e cs' _ c hc h2
                exact ⟨(cs', trs), h1, h3, h4, h5⟩)
              have hlen : ((List.range len).map fun i => (T i).2).length = len := by simp
              refine Opens.one (.l e (P.cellsOf e) ((List.range len).map fun i => (T i).2)) (.sl _ _ _ _ (by rw [hlen]; omega) hsz (fun x hx => ?_) .nil) ?_ rfl
              · obtain ⟨i, hi, rfl⟩ := List.mem_map.1 hx
                exact (hT i (List.mem_range.1 hi)).2.1
              · have hol : (oldLL ((List.range len).map fun i => (T i).2)).length = len := by rw [length_oldLL, hlen]
                have hget : ∀ i e', (oldLL ((List.range len).map fun i => (T i).2))[i]? = some e' → i < len ∧ e' = oldL (T i).2 := by
                  intro i e' he
                  have hi : i < len := by have := getElem?_lt he; omega
                  rw [oldLL_eq] at he
                  simp [hi] at he
                  exact ⟨hi, by rw [oldL_eq]; exact he.symm⟩
                have hlenT : ∀ i, i < len → (oldL (T i).2).length = P.cellsOf e := fun i hi => by rw [oldL_eq, List.length_map, (hT i hi).2.1.length, hsz]
                have hcell : ∀ i j, i < len → j < P.cellsOf e → w.cell? ⟨a.block, a.off + i * P.cellsOf e + j, none⟩ = (T i).1[j]? ∧ a.spot = none := by
                  intro i j hi hj
                  obtain ⟨_, hl', hc'⟩ := World.cells?_some (hT i hi).1
                  have h0 : a.spot = none := by
                    obtain ⟨_, hl0, hc0⟩ := World.cells?_some (hT 0 (by omega)).1
                    have := hc0 0 hpos
                    rw [List.getElem?_eq_getElem (by omega)] at this
                    simp only [Nat.zero_mul, Addr.add, if_true] at this
                    unfold World.cell? at this
                    cases hs : a.spot with
                    | none => rfl
                    | some _ => rw [hs] at this; split at this <;> simp at this
                  refine ⟨?_, h0⟩
                  rw [← hc' j hj, Go.Deep.add_add]
                  unfold Addr.add
                  split
                  · rename_i hz
                    rw [show a.off + i * P.cellsOf e + j = a.off by omega]
                    cases a; simp only at h0; subst h0; rfl
                  · rw [Nat.add_assoc]
                have hrep := Rep.list (B := B) (w := w) (F := allF w) (tok := []) (fr := []) (box := []) none (oldLL ((List.range len).map fun i => (T i).2)) (some a) cap (P.cellsOf e) a.block a.off
                  (fun i j => (T i).1.getD j undef) (by rw [hol]; exact hl)
                  (fun hne => by
                    have : 0 < len := by
                      rcases Nat.eq_zero_or_pos len with h0 | h0
                      · subst h0; exact absurd rfl hne
                      · exact h0
                    have := (hcell 0 0 this hpos).2
                    cases a; simp only at this; subst this; rfl)
                  (fun e' he' => by
                    obtain ⟨i, hi⟩ := List.getElem?_of_mem he'
                    obtain ⟨h1, h2⟩ := hget i e' hi
                    rw [h2]; exact hlenT i h1)
                  (fun hne => by
                    have h0 : 0 < len := by
                      rcases Nat.eq_zero_or_pos len with h0 | h0
                      · subst h0; exact absurd rfl hne
                      · exact h0
                    rw [hol]
                    have hc := (hcell (len - 1) (P.cellsOf e - 1) (by omega) (by omega)).1
                    have hl1 : (T (len - 1)).1.length = P.cellsOf e := (World.cells?_some (hT (len - 1) (by omega)).1).2.1
                    rw [List.getElem?_eq_getElem (by omega)] at hc
                    unfold World.cell? at hc
                    unfold allF
                    simp only at hc
                    split at hc
                    · simp only [Option.isSome_none, Bool.false_eq_true, if_false] at hc
                      have hlt := (Array.getElem?_eq_some_iff.1 hc).1
                      have hmul : (len - 1) * P.cellsOf e + P.cellsOf e = len * P.cellsOf e := by
                        obtain ⟨q, rfl⟩ : ∃ q, len = q + 1 := ⟨len - 1, by omega⟩
                        rw [Nat.add_sub_cancel, Nat.add_mul]; omega
                      rename_i he
                      rw [he]
                      simp only
                      omega
                    · cases hc)
                  (fun i e' j c' hi hj => by
                    obtain ⟨h1, rfl⟩ := hget i e' hi
                    have hj' := getElem?_lt hj
                    rw [hlenT i h1] at hj'
                    have hl1 : (T i).1.length = P.cellsOf e := (World.cells?_some (hT i h1).1).2.1
                    have hg : (T i).1[j]? = some ((T i).1.getD j undef) := by simp [List.getD, hl1, hj']
                    exact ⟨by rw [(hcell i j h1 hj').1, hg], (hT i h1).2.2.2 _ (List.mem_of_getElem? hg)⟩)
                  (fun i e' j c' hi hj => by
                    obtain ⟨h1, rfl⟩ := hget i e' hi
                    have hj' := getElem?_lt hj
                    rw [hlenT i h1] at hj'
                    have hl1 : (T i).1.length = P.cellsOf e := (World.cells?_some (hT i h1).1).2.1
                    have hg : (T i).1[j]? = some ((T i).1.getD j undef) := by simp [List.getD, hl1, hj']
                    exact (hT i h1).2.2.1.2 j c' _ hj hg)
                  (fun k hk => by cases hk)
                rw [hol] at hrep
                exact hrep
          · cases h
      | struct fs =>
        simp only at h
        cases hc : clF P (clOf P n) 0 fs.toList with
        | none => rw [hc] at h; cases h
        | some c =>
          rw [hc] at h
          simp only at h
          split at h
          · rename_i hsz
            simp only [Option.some.injEq] at h; subst h
            obtain ⟨xs, m, rfl, _, hl, hfl, hel⟩ := DataW.trod_struct ht hx
            have := open_fields (fuel := m) (cs := cs) B (clOf P n) (fun t cs x cls h1 h2 => open_cells B n m t cs x cls h1 h2) fs.toList 0 c hc (fun f hf => by
              obtain ⟨i, hi⟩ := List.getElem?_of_mem hf
              have hi' : fs[i]? = some f := by simpa using hi
              have := hel i f hi'
              have hlt : i < xs.length := by have := getElem?_lt hi; simp at this; omega
              exact ⟨_, by rw [this, List.getElem?_eq_getElem hlt]⟩)
            rw [List.drop_zero, hsz, ← hl, List.take_length] at this
            exact this
          · cases h
      | _ => simp only at h; cases h
/-- an argument that is no struct -/
theorem open_arg {t : TypeId} {v : Value} {d : DataW H} {ps : List MemPlace} {r : Reach} {b0 : Nat} (B n : Nat) {cl : Cl} (hc : clOf P n t = some [cl]) (hs : ∀ fs, P.underlying t ≠ some (.struct fs)) (hval : Value.okWide P w r b0 t v)
    (h : DataW.Trod enc P w base spare held t v d ps) : ∃ x, FitsL [cl] [x] ∧ Rep B w (allF w) [] [] [] (old x) v := by
  obtain ⟨fuel, h⟩ := h
  obtain ⟨trs, h1, h2, h3⟩ := open_cells B n fuel t _ _ _ hc h
  have hv : v.cells.toList = [v] := by
    cases v with
    | agg cs =>
      exfalso
      unfold Value.okWide at hval
      cases n with
      | zero => cases hc
      | succ n =>
        unfold clOf at hc
        cases hu : P.underlying t with
        | none => rw [hu] at hc; cases hc
        | some u =>
          rw [hu] at hc hval hs
          cases u <;> first | cases hc; done | exact absurd rfl (hs _) | (simp only [Cell.okWide, hu, Cell.ok] at hval)
    | _ => rfl
  rw [hv] at h2
  cases trs with
  | nil => exact absurd h1.length (by simp)
  | cons x xs =>
    cases xs with
    | cons _ _ => exact absurd h1.length (by simp)
    | nil => exact ⟨x, h1, (Both.cons.1 h2).1⟩
/-- an argument that is a struct -/
theorem open_argS {t : TypeId} {v : Value} {d : DataW H} {ps : List MemPlace} {r : Reach} {b0 : Nat} (B n : Nat) {cls : List Cl} (hc : clOf P n t = some cls) {fs : Array Field} (hs : P.underlying t = some (.struct fs)) (hval : Value.okWide P w r b0 t v)
    (h : DataW.Trod enc P w base spare held t v d ps) : ∃ xs, FitsL cls xs ∧ Rep B w (allF w) [] [] [] (old (.a xs)) v := by
  obtain ⟨fuel, h⟩ := h
  obtain ⟨trs, h1, h2, h3⟩ := open_cells B n fuel t _ _ _ hc h
  unfold Value.okWide at hval
  rw [hs] at hval
  obtain ⟨cs, rfl, _, _⟩ := hval
  refine ⟨trs, h1, ?_⟩
  have hg : ∀ i, i < cs.size → cs.toList[i]? = some (cs.getD i undef) := fun i hi => by simp [Array.getD, hi]
  have hl : (oldL trs).length = cs.size := by have := h2.1; simpa [Value.cells] using this
  exact .agg _ _ hl (fun i hi => h3 _ (List.mem_of_getElem? (hg i hi))) (fun i c hc => h2.2 i c _ hc (hg i (by have := getElem?_lt hc; omega)))
end
end Abs
end Go.Proofs.Ytimcfgokocihnaa
namespace Go.Lib
variable {P : Program}
theorem zeroCells_size (z : Array Value) (n : Nat) : (Builtin.zeroCells z n).toList.length = n * z.size := by simp [Builtin.zeroCells]
theorem zeroCells_mem (z : Array Value) (n : Nat) (u : Value) (h : u ∈ (Builtin.zeroCells z n).toList) (h1 : ∀ v ∈ z.toList, v.oneCell' = true) : u.oneCell' = true := by
  simp [Builtin.zeroCells] at h
  obtain ⟨a, ha, rfl⟩ := h
  have hs : 0 < z.size := by
    rcases Nat.eq_zero_or_pos z.size with h0 | h0
    · rw [h0] at ha; omega
    · exact h0
  have hm := Nat.mod_lt a hs
  refine h1 _ ?_
  rw [getElem!_pos z _ hm]
  simp
/-- 'clear(s)', elements of several cells -/
theorem run_clear_sliceK (w : World) (t e ty : TypeId) (z : Value) (ht : P.underlying t = some (.slice e)) (hv : ∀ w, (zeroValue e).run P w = .ok z w) (h1 : ∀ v ∈ z.cells.toList, v.oneCell' = true) (b o n c : Nat) (hn : 0 < n)
    (hc : ∀ j, j < n * z.cells.size → (w.cell? ⟨b, o + j, none⟩).isSome = true) (hf : ∀ j, j < n * z.cells.size → w.frozen? ⟨b, o + j, none⟩ = false) :
    (Builtin.clear_ #[t] ty #[.slice (some ⟨b, o, none⟩) n c]).run P w = .ok (.tuple #[]) (w.setCells b o (Builtin.zeroCells z.cells n).toList) := by
  have hst := run_storeCells_cells (P := P) b o (Builtin.zeroCells z.cells n).toList 0 w (by rw [zeroCells_size]; simpa using hc) (by rw [zeroCells_size]; simpa using hf) (fun v hv' => zeroCells_mem _ _ v hv' h1)
  simp only [Nat.add_zero] at hst
  obtain ⟨m, rfl⟩ : ∃ m, n = m + 1 := ⟨n - 1, by omega⟩
  simp [Builtin.clear_, run_underlying ht, hv, hst]
end Go.Lib
namespace Go.Proofs
open Go.Shelf Go.RowKit Go.Lib Go.Sort
variable {P : Program} {ρ : Ren}
set_option maxHeartbeats 4000000 in
set_option maxRecDepth 1000000 in
theorem delete_raw (K : Nat) (hK : 0 < K)
    (mixed : P.follows .mixedOrders = true) (f45 : Bears P (ρ.f 45) (SlBodyN.n45 ρ))
    (t0 : P.underlying (ρ.t 0) = some (TypeDesc.tuple #[])) (a0 : ∀ w, (isAgg (ρ.t 0)).run P w = .ok false w) (z0 : ∀ w, (Go.sizeOf (ρ.t 0)).run P w = .ok 1 w) (v0 : ∀ w, (zeroValue (ρ.t 0)).run P w = .ok (Value.tuple #[]) w)
    (t3 : P.underlying (ρ.t 3) = some (TypeDesc.int IntKind.i64)) (a3 : ∀ w, (isAgg (ρ.t 3)).run P w = .ok false w) (z3 : ∀ w, (Go.sizeOf (ρ.t 3)).run P w = .ok 1 w) (v3 : ∀ w, (zeroValue (ρ.t 3)).run P w = .ok (Value.int IntKind.i64 0) w)
    (t4 : P.underlying (ρ.t 4) = some (TypeDesc.bool)) (a4 : ∀ w, (isAgg (ρ.t 4)).run P w = .ok false w) (z4 : ∀ w, (Go.sizeOf (ρ.t 4)).run P w = .ok 1 w) (v4 : ∀ w, (zeroValue (ρ.t 4)).run P w = .ok (Value.bool false) w)
    (t22 : P.underlying (ρ.t 22) = some (TypeDesc.slice (ρ.t 23))) (a22 : ∀ w, (isAgg (ρ.t 22)).run P w = .ok false w) (z22 : ∀ w, (Go.sizeOf (ρ.t 22)).run P w = .ok 1 w) (v22 : ∀ w, (zeroValue (ρ.t 22)).run P w = .ok (Value.slice none 0 0) w)
    (z23 : ∀ w, (Go.sizeOf (ρ.t 23)).run P w = .ok K w) (zv : Value) (v23 : ∀ w, (zeroValue (ρ.t 23)).run P w = .ok zv w) (hzs : zv.cells.size = K) (hz1 : ∀ v ∈ zv.cells.toList, v.oneCell' = true) (i0 : TypeInfo) (hi0 : P.info? (ρ.t 23) = some i0) (hi1 : i0.size = K)
    (blk n cap i j : Nat) (cs : List Value) (w : World) (hlen : cs.length = n * K) (hH : ∀ t u, cs[t]? = some u → w.cell? ⟨blk, t, none⟩ = some u ∧ w.frozen? ⟨blk, t, none⟩ = false) (h1 : ∀ u ∈ cs, u.oneCell' = true)
    (hcap : n ≤ cap) (hm : cap ≤ 9223372036854775807) (hij : i < j) (hj : j ≤ n) :
    Calls P (ρ.f 45) #[.slice (some ⟨blk, 0, none⟩) n cap, .int .i64 i, .int .i64 j] w fun e w' => e = .returned (.slice (some ⟨blk, 0, none⟩) (n - (j - i)) cap) ∧
      w' = (w.drew.setCells blk (i * K) (cs.drop (j * K))).setCells blk ((i + (n - j)) * K) (Builtin.zeroCells zv.cells (j - i)).toList := by
  obtain ⟨news, hnews⟩ : ∃ news, news = cs.drop (j * K) := ⟨_, rfl⟩
  have hjn : j * K ≤ n * K := Nat.mul_le_mul_right K hj
  have hlen' : news.length = (n - j) * K := by rw [hnews, List.length_drop, hlen, Nat.sub_mul]
  obtain ⟨A, hA, hsrc⟩ : ∃ A : Addr, (if cap = j then some (⟨blk, 0, none⟩ : Addr) else some ⟨blk, 0 + j * K, none⟩) = some A ∧ Hid (∀ t u, news[t]? = some u → w.drew.cell? (A.add t) = some u) := by
    by_cases h : cap = j
    · refine ⟨⟨blk, 0, none⟩, by simp [h], fun t u hu => ?_⟩
      have h0 : news.length = 0 := by rw [hlen', show n - j = 0 by omega, Nat.zero_mul]
      rw [List.length_eq_zero_iff.1 h0] at hu
      simp at hu
    · refine ⟨⟨blk, 0 + j * K, none⟩, by simp [h], fun t u hu => ?_⟩
      rw [hnews, List.getElem?_drop] at hu
      rw [Addr.add_lit, Nat.zero_add]
      exact (hH _ _ hu).1
  have hin : ∀ t, t < n * K → (w.cell? ⟨blk, t, none⟩).isSome = true ∧ w.frozen? ⟨blk, t, none⟩ = false := fun t ht => by
    have := hH t _ (List.getElem?_eq_getElem (l := cs) (by omega))
    exact ⟨by rw [this.1]; rfl, this.2⟩
  have hsum : i * K + (n - j) * K ≤ n * K := by rw [← Nat.add_mul]; exact Nat.mul_le_mul_right K (by omega)
  have s1 : Hid (news.length = (n - j) * K) := hlen'
  have s2 : Hid (∀ u ∈ news, u.oneCell' = true) := fun u hu => h1 u (List.mem_of_mem_drop (hnews ▸ hu))
  have s3 : Hid (∀ t, t < news.length → (w.drew.cell? ⟨blk, 0 + i * K + t, none⟩).isSome = true ∧ w.drew.frozen? ⟨blk, 0 + i * K + t, none⟩ = false) := by
    intro t ht
    rw [Nat.zero_add]
    exact hin _ (by omega)
  obtain ⟨W1, hW1⟩ : ∃ W1, W1 = w.drew.setCells blk (0 + i * K) news := ⟨_, rfl⟩
  have hin1 : ∀ t, t < n * K → (W1.cell? ⟨blk, t, none⟩).isSome = true ∧ W1.frozen? ⟨blk, t, none⟩ = false := fun t ht => by
    rw [hW1, World.frozen?_setCells]
    exact ⟨World.isSome_setCells blk news _ _ _ (hin t ht).1, (hin t ht).2⟩
  obtain ⟨zl, hzl⟩ : ∃ zl, zl = (Builtin.zeroCells zv.cells (j - i)).toList := ⟨_, rfl⟩
  have hcl : ∀ ty c, (Builtin.clear_ #[ρ.t 22] ty #[.slice (some ⟨blk, (i + (n - j)) * K, none⟩) (j - i) c]).run P W1 = .ok (.tuple #[]) (W1.setCells blk ((i + (n - j)) * K) zl) := by
    intro ty c
    rw [hzl]
    have hb : (i + (n - j)) * K + (j - i) * K ≤ n * K := by rw [← Nat.add_mul]; exact Nat.mul_le_mul_right K (by omega)
    refine Lib.run_clear_sliceK W1 _ _ ty _ t22 v23 hz1 blk ((i + (n - j)) * K) _ _ (by omega) (fun t ht => ?_) (fun t ht => ?_)
    · rw [hzs] at ht; exact (hin1 _ (by omega)).1
    · rw [hzs] at ht; exact (hin1 _ (by omega)).2
  have hres : Aside (W1.setCells blk ((i + (n - j)) * K) zl = (w.drew.setCells blk (i * K) (cs.drop (j * K))).setCells blk ((i + (n - j)) * K) zl) := by
    show _ = _
    rw [hW1, hnews, Nat.zero_add]
  have hW : Hid (W1 = w.drew.setCells blk (0 + i * K) news) := hW1
  have hend : n - (i + (n - j)) = j - i := by omega
  have hic : i ≤ cap := by omega
  have hjc : j ≤ cap := by omega
  rw [← hzl]
  clear hzl v23 hzs hz1
  clear hW1 hH hin hin1 hnews hlen' h1 hlen hsum hjn
  obtain ⟨_, _, FG⟩ := f45
  go_enter FG, SlBodyN.n45_ntmps ρ
  go_wp2_with fail
  go_region_law_o (refine step_append_room rfl (.tmp 22) (.tmp 25) (ρ.t 22) rfl (ρ.t 23) i0 K t22 hi0 hi1 blk 0 i cap (by simp [Act.eval, Act.put]) A (n - j) (cap - j) news (by simp [Act.eval, Act.put]; simpa using hA) s1.out hsrc.out s2.out (by omega) s3.out ?_; rw [← hW.out])
  go_wp2
  all_goals go_ret
  all_goals exact ⟨by rw [show n - (j - i) = i + (n - j) by omega]; rfl, hres.out⟩
end Go.Proofs
namespace Go.Proofs.Ytimcfgokocihnaa
open Abs Go.RowKit Go.Sort Go.Lib Go.Shelf
theorem setCells_facts (b t : Nat) (z : Nat × Nat) : ∀ (vs : List Value) (o : Nat) (w : World) (c : Array Value), w.heap[b]? = some (.cells c t z) →
    ∃ c', (w.setCells b o vs).heap[b]? = some (.cells c' t z) ∧ c'.size = c.size ∧ (∀ q, (q < o ∨ o + vs.length ≤ q) → c'.getD q undef = c.getD q undef) ∧ (∀ q, q < vs.length → o + q < c.size → c'.getD (o + q) undef = vs.getD q undef) ∧
      ((w.setCells b o vs).drawn = w.drawn ∧ (w.setCells b o vs).os = w.os ∧ (w.setCells b o vs).tape = w.tape ∧ (w.setCells b o vs).output = w.output ∧ (w.setCells b o vs).heap.size = w.heap.size) ∧ (∀ k, k ≠ b → (w.setCells b o vs).heap[k]? = w.heap[k]?)
  | [], o, w, c, h => ⟨c, h, rfl, fun _ _ => rfl, by intro q hq; simp at hq, ⟨rfl, rfl, rfl, rfl, rfl⟩, fun _ _ => rfl⟩
  | v :: r, o, w, c, h => by
    have h1 : (w.setCell ⟨b, o, none⟩ v).heap[b]? = some (.cells (c.setIfInBounds o v) t z) := by simp [World.setCell, Array.getElem?_modify, h]
    obtain ⟨c', a1, a2, a3, a4, ⟨a5, a6, a7, a8, a9⟩, a10⟩ := setCells_facts b t z r (o + 1) _ _ h1
    refine ⟨c', a1, by rw [a2]; simp, fun q hq => ?_, fun q hq hc => ?_, ⟨a5.trans rfl, a6.trans rfl, a7.trans rfl, a8.trans rfl, a9.trans (by simp [World.setCell])⟩, fun k hk => (a10 k hk).trans (by simp [World.setCell, Array.getElem?_modify, Ne.symm hk])⟩
    · rw [a3 q (by simp at hq; omega)]
      have : o ≠ q := by simp at hq; omega
      simp [Array.getD_eq_getD_getElem?, Array.getElem?_setIfInBounds, this]
    · cases q with
      | zero =>
        rw [Nat.add_zero, a3 o (by omega)]
        have : o < c.size := by omega
        simp [Array.getD_eq_getD_getElem?, Array.getElem?_setIfInBounds, this]
      | succ q =>
        have := a4 q (by simpa using hq) (by simp; omega)
        rw [show o + (q + 1) = o + 1 + q by omega, this]
        simp
/-- one element taken out of a row that is lent -/
theorem delete_ctx {P : Program} {fS : Nat} (K t : Nat) (hokS : okFn P fS = true) (b : List ABox) (j n i : Nat) (cs : List AV) (hj : b[j]? = some (.cells (.row t K) cs)) (hl : cs.length = n * K) (hi : i < n)
    (zl : List Value) (hzl : zl.length = K)
    (hD : ∀ (blk cap : Nat) (vs : List Value) (w : World), vs.length = n * K → (∀ t u, vs[t]? = some u → w.cell? ⟨blk, t, none⟩ = some u ∧ w.frozen? ⟨blk, t, none⟩ = false) → (∀ u ∈ vs, u.oneCell' = true) → n ≤ cap → cap ≤ 9223372036854775807 →
      Calls P fS #[.slice (some ⟨blk, 0, none⟩) n cap, .int .i64 i, .int .i64 ((i + 1 : Nat) : Int)] w fun e w' => e = .returned (.slice (some ⟨blk, 0, none⟩) (n - 1) cap) ∧ w' = (w.drew.setCells blk (i * K) (vs.drop ((i + 1) * K))).setCells blk ((n - 1) * K) zl) :
    Abs.Ctx true P fS b [.bsl j n, .val (.int .i64 i), .val (.int .i64 ((i + 1 : Nat) : Int))] (fun r b1 => r = .bsl j (n - 1) ∧ b1 = b.set j (.cells (.row t K) (cs.take (i * K) ++ cs.drop ((i + 1) * K)))) := by
  rw [Ctx_eq]
  refine ⟨hokS, fun w F vs box0 hout hbl hbi hbj hB hargs => ?_⟩
  obtain ⟨v0, v1, v2, rfl⟩ : ∃ v0 v1 v2, vs = #[v0, v1, v2] := by
    have := hargs.1
    match vs, this with
    | ⟨[a, b, c]⟩, _ => exact ⟨a, b, c, rfl⟩
  obtain ⟨h0', h1⟩ := Both.cons.1 hargs
  obtain ⟨h1, h2⟩ := Both.cons.1 h1
  obtain ⟨h2, _⟩ := Both.cons.1 h2
  obtain rfl := h1.val_inv
  obtain rfl := h2.val_inv
  rcases h0'.bsl_inv with ⟨bl, cap, hb, hcap, rfl⟩ | ⟨hb, hz, rfl⟩
  rotate_left
  · omega
  obtain ⟨c, t', hh, hle, hr, rfl, hcs, hcm⟩ := hB j _ _ hb hj
  obtain ⟨vals, hvals⟩ : ∃ vals : List Value, vals = (List.range (n * K)).map fun q => c.getD q undef := ⟨_, rfl⟩
  have hvl : vals.length = n * K := by rw [hvals]; simp
  have hvg : ∀ q u, vals[q]? = some u → q < n * K ∧ u = c.getD q undef := fun q u h => by
    have hq := getElem?_lt h
    rw [hvl] at hq
    rw [hvals, List.getElem?_map, List.getElem?_range hq] at h
    exact ⟨hq, by simpa using h.symm⟩
  have hone : ∀ u ∈ vals, u.oneCell' = true := fun u hu => by
    obtain ⟨q, hq⟩ := List.getElem?_of_mem hu
    obtain ⟨h3, rfl⟩ := hvg q u hq
    exact (hr q _ (List.getElem?_eq_getElem (by omega))).2
  have hcall := hD bl cap vals w hvl (fun q u hq => by
    obtain ⟨h3, rfl⟩ := hvg q u hq
    have hqc : q < c.size := by omega
    refine ⟨by rw [cell_of_row w bl q c t' (0, 0) hh]; simp [Array.getD, hqc], ?_⟩
    simp [World.frozen?, hh]) hone hcap (by have : maxLen ≤ 9223372036854775807 := by decide
                                            omega)
  refine hcall.mono ?_
  rintro e w' ⟨rfl, rfl⟩
  have hnc : n * K ≤ c.size := by rw [hcs]; exact Nat.mul_le_mul_right K hcap
  have him : (i + 1) * K ≤ n * K := Nat.mul_le_mul_right K (by omega)
  have hi1 : (i + 1) * K = i * K + K := Nat.succ_mul i K
  have hn1 : (n - 1) * K + K = n * K := by have := Nat.succ_mul (n - 1) K; rw [show (n - 1).succ = n by omega] at this; exact this.symm
  obtain ⟨c1, a1, a2, a3, a4, ⟨a5, a6, a7, a8, a9⟩, a10⟩ := setCells_facts bl t' (0, 0) (vals.drop ((i + 1) * K)) (i * K) w.drew c hh
  obtain ⟨c2, e1, e2, e3, e4, ⟨e5, e6, e7, e8, e9⟩, e10⟩ := setCells_facts bl t' (0, 0) zl ((n - 1) * K) _ c1 a1
  have hdl : (vals.drop ((i + 1) * K)).length = n * K - (i + 1) * K := by rw [List.length_drop, hvl]
  refine gpost_row (Φ := fun r b1 => r = .bsl j (n - 1) ∧ b1 = b.set j (.cells (.row t' K) (cs.take (i * K) ++ cs.drop ((i + 1) * K)))) (r := .bsl j (n - 1)) hout hbl hbi hbj hB hb hj
    (by rw [e5, a5]; exact Nat.le_succ _) (by rw [e6, a6]; rfl) (by rw [e7, a7]; rfl) (by rw [e8, a8]; rfl) (by rw [e9, a9]; exact Nat.le_refl _) (fun k hk hkb => by rw [e10 k hkb, a10 k hkb]; rfl) (fun later => ?_) rfl (.bsl j _ bl cap hb (by omega)) ⟨rfl, rfl⟩
  refine ⟨c2, t', e1, ?_, fun q x hx => ?_, rfl, by rw [e2, a2, hcs], hcm⟩
  · rw [e2, a2, List.length_append, List.length_take, List.length_drop]; omega
  have hql : q < (n - 1) * K := by
    have := getElem?_lt hx
    rw [List.length_append, List.length_take, List.length_drop] at this; omega
  have hc2 : c2.getD q undef = c1.getD q undef := e3 q (Or.inl hql)
  rw [hc2]
  rcases Nat.lt_or_ge q (i * K) with hq | hq
  · rw [a3 q (Or.inl hq)]
    rw [List.getElem?_append_left (by rw [List.length_take]; omega), List.getElem?_take_of_lt hq] at hx
    have := hr q x hx
    exact ⟨later _ _ this.1, this.2⟩
  · have hq2 : c1.getD q undef = c.getD (q + K) undef := by
      have := a4 (q - i * K) (by rw [hdl]; omega) (by omega)
      rw [show i * K + (q - i * K) = q by omega] at this
      rw [this, List.getD_eq_getElem?_getD, List.getElem?_drop, show (i + 1) * K + (q - i * K) = q + K by omega, hvals, List.getElem?_map, List.getElem?_range (by omega)]
      rfl
    rw [hq2]
    have htl : (cs.take (i * K)).length = i * K := by rw [List.length_take]; omega
    rw [List.getElem?_append_right (by rw [htl]; exact hq), htl, List.getElem?_drop, show (i + 1) * K + (q - i * K) = q + K by omega] at hx
    have := hr (q + K) x hx
    exact ⟨later _ _ this.1, this.2⟩
end Go.Proofs.Ytimcfgokocihnaa
namespace Go.Proofs.Ytimcfgokocihnaa
open Abs
theorem sTexts.ret (l : List Str) (h : l.length ≤ 1048576) : sTexts.Ret [.list none (strs l)] (.list (some 0) (strs l)) [(9, 1, l.length)] := by
  refine sTexts.of rfl ?_
  repeat' first
    | contradiction | exact trivial
    | (conv => whnf
       first | refine Need.mk (fun h => h) ?_ | refine Need.mk rfl ?_ | refine Need.mk ⟨rfl, Nat.le_of_ble_eq_true rfl⟩ ?_ | refine Need.mk (Nat.le_of_ble_eq_true rfl) ?_ | refine Need.fin ?_ | refine Need.mk ?_ ?_ | refine Ix.strsF rfl ?_ | refine Ix.strs rfl ?_ ?_ | refine Cut.strs rfl ?_ ?_ | refine Ix.mapF (fun _ => rfl) ?_ | refine Ix.map (fun _ => rfl) ?_ ?_ | refine Cut.map (fun _ => rfl) ?_ ?_ | refine Fork.yes (by assumption) ?_ | refine Fork.no (by assumption) ?_ | refine Fork.decYes (by omega) ?_ | refine Fork.decNo (by omega) ?_ | refine Fork.dec (fun _ => ?_) (fun _ => ?_) | refine Fork.bne (fun _ => ?_) (fun _ => ?_) | refine Fork.beq (fun _ => ?_) (fun _ => ?_) | refine Fork.seq (fun _ => ?_) (fun _ => ?_) | refine Fork.sne (fun _ => ?_) (fun _ => ?_) | refine Fork.neg (fun _ => ?_) (fun _ => ?_) | refine Fork.mk (fun _ => ?_) (fun _ => ?_) | refine HAlt.mk ?_ ?_ | apply HJoin.mk3 | exact HEnd.mk rfl rfl rfl | refine HEnd.mk ?_ ?_ ?_ | refine Round.mk ?_ | refine NilQ.mk (fun b hb => ?_) | refine forceK_of ?_ | refine forceBx_of ?_ | refine unG_old ?_ | refine unG_gv ?_ | refine Lit.read rfl ?_ | refine FinVal.keep ?_ | refine FinAgg.keep ?_ | refine Final.mk rfl rfl | refine Final.mk ?_ rfl | refine Final.mk ?_ ?_ | refine FinalT.mk ?_ ?_ | refine FinalC.allA ?_)
    | refine AV.bool_congr ?_ | refine AV.int_congr ?_ | refine AV.str_congr ?_ | refine AV.list_congr ?_ | with_reducible rfl | refine fr1 ?_ | refine fr2 ?_ ?_
  · exact strs_sz l
  · simp; omega
  · rfl
  · simp
theorem slClone.ret (l : List Str) (h : l.length ≤ 1048576) : slClone.Ret [.list none (strs l)] (.list (some 0) (strs l)) [(9, 1, l.length)] := by
  refine slClone.of rfl ?_
  repeat' first
    | contradiction | exact trivial
    | (conv => whnf
       first | refine Need.mk (fun h => h) ?_ | refine Need.mk rfl ?_ | refine Need.mk ⟨rfl, Nat.le_of_ble_eq_true rfl⟩ ?_ | refine Need.mk (Nat.le_of_ble_eq_true rfl) ?_ | refine Need.fin ?_ | refine Need.mk ?_ ?_ | refine Ix.strsF rfl ?_ | refine Ix.strs rfl ?_ ?_ | refine Cut.strs rfl ?_ ?_ | refine Ix.mapF (fun _ => rfl) ?_ | refine Ix.map (fun _ => rfl) ?_ ?_ | refine Cut.map (fun _ => rfl) ?_ ?_ | refine Fork.yes (by assumption) ?_ | refine Fork.no (by assumption) ?_ | refine Fork.decYes (by omega) ?_ | refine Fork.decNo (by omega) ?_ | refine Fork.dec (fun _ => ?_) (fun _ => ?_) | refine Fork.bne (fun _ => ?_) (fun _ => ?_) | refine Fork.beq (fun _ => ?_) (fun _ => ?_) | refine Fork.seq (fun _ => ?_) (fun _ => ?_) | refine Fork.sne (fun _ => ?_) (fun _ => ?_) | refine Fork.neg (fun _ => ?_) (fun _ => ?_) | refine Fork.mk (fun _ => ?_) (fun _ => ?_) | refine HAlt.mk ?_ ?_ | apply HJoin.mk3 | exact HEnd.mk rfl rfl rfl | refine HEnd.mk ?_ ?_ ?_ | refine Round.mk ?_ | refine NilQ.mk (fun b hb => ?_) | refine forceK_of ?_ | refine forceBx_of ?_ | refine unG_old ?_ | refine unG_gv ?_ | refine Lit.read rfl ?_ | refine FinVal.nil 9 1 rfl ?_ | refine FinVal.keep ?_ | refine FinAgg.keep ?_ | refine Final.mk rfl rfl | refine Final.mk ?_ rfl | refine Final.mk ?_ ?_ | refine FinalT.mk ?_ ?_ | refine FinalC.allA ?_)
    | refine AV.bool_congr ?_ | refine AV.int_congr ?_ | refine AV.str_congr ?_ | refine AV.list_congr ?_ | with_reducible rfl | refine fr1 ?_ | refine fr2 ?_ ?_
  · rename_i h1
    have hl : l = [] := List.eq_nil_of_length_eq_zero (by rw [length_strs] at hb; exact hb (by revert h1; cases b <;> simp))
    subst hl; rfl
  · rename_i h1
    have hl : l = [] := List.eq_nil_of_length_eq_zero (by rw [length_strs] at hb; exact hb (by revert h1; cases b <;> simp))
    subst hl; rfl
  · exact strs_sz l
  · simp; omega
  · rfl
  · simp
theorem sCopy.ret (f : Fct) (h : tFct.size f ≤ 1048576) : sCopy.Ret [.agg (oldL (tFct.q f))] (.agg (tFct.tk f 0)) (tFct.fr f) := by
  refine sCopy.of rfl ?_
  rw [tFct_size, tStrs_size] at h
  repeat' first
    | contradiction | exact trivial
    | (conv => whnf
       first | refine Need.mk (fun h => h) ?_ | refine Need.mk rfl ?_ | refine Need.mk ⟨rfl, Nat.le_of_ble_eq_true rfl⟩ ?_ | refine Need.mk (Nat.le_of_ble_eq_true rfl) ?_ | refine Need.fin ?_ | refine Need.mk ?_ ?_ | refine Ix.strsF rfl ?_ | refine Ix.strs rfl ?_ ?_ | refine Cut.strs rfl ?_ ?_ | refine Ix.mapF (fun _ => rfl) ?_ | refine Ix.map (fun _ => rfl) ?_ ?_ | refine Cut.map (fun _ => rfl) ?_ ?_ | refine Fork.yes (by assumption) ?_ | refine Fork.no (by assumption) ?_ | refine Fork.decYes (by omega) ?_ | refine Fork.decNo (by omega) ?_ | refine Fork.dec (fun _ => ?_) (fun _ => ?_) | refine Fork.bne (fun _ => ?_) (fun _ => ?_) | refine Fork.beq (fun _ => ?_) (fun _ => ?_) | refine Fork.seq (fun _ => ?_) (fun _ => ?_) | refine Fork.sne (fun _ => ?_) (fun _ => ?_) | refine Fork.neg (fun _ => ?_) (fun _ => ?_) | refine Fork.mk (fun _ => ?_) (fun _ => ?_) | refine HAlt.mk ?_ ?_ | apply HJoin.mk3 | exact HEnd.mk rfl rfl rfl | refine HEnd.mk ?_ ?_ ?_ | refine Round.mk ?_ | refine NilQ.mk (fun b hb => ?_) | refine forceK_of ?_ | refine forceBx_of ?_ | refine unG_old ?_ | refine unG_gv ?_ | refine Lit.read rfl ?_ | refine FinVal.keep ?_ | refine FinAgg.keep ?_ | refine Final.mk rfl rfl | refine Final.mk ?_ rfl | refine Final.mk ?_ ?_ | refine FinalT.mk ?_ ?_ | refine FinalC.allA ?_ | refine ACall.mkStrs _ _ (sTexts.ret _ ?_) (by repeat' first | exact SeesL.nil | refine SeesL.cons ?_ ?_ | exact SeesB.of0 (Sees0.val _) | exact SeesB.of0 (Sees0.str _) | exact SeesB.of0 (Sees0.olds _ _) | exact SeesB.of0 (Sees0.old _) | exact SeesB.of0 (Sees0.oldagg _) | exact SeesB.of0 Sees0.nil | exact Sees0.val _ | exact Sees0.str _ | exact Sees0.olds _ _ | exact Sees0.old _ | exact Sees0.oldagg _ | exact Sees0.nil | exact SeesB.of0 (Sees0.any _) | assumption | exact sees_gv _ _ _ (by assumption) (by first | assumption | exact BoxIn.last _ _ | exact BoxIn.more (BoxIn.last _ _) _) | refine SeesB.agg ?_ | refine Sees0.agg ?_ | exact SeesB.of0 (Sees0.clo SeesL.nil SeesL.nil) | exact Sees0.clo SeesL.nil SeesL.nil | exact SeesB.of0 (Sees0.list rfl) | exact Sees0.list rfl) ?_)
    | refine AV.bool_congr ?_ | refine AV.int_congr ?_ | refine AV.str_congr ?_ | refine AV.list_congr ?_ | with_reducible rfl | refine fr1 ?_ | refine fr2 ?_ ?_
  omega
theorem pcopyFact.ret (f : Fct) (h : tFct.size f ≤ 1048576) : pcopyFact.Ret [.agg (oldL (tFct.q f))] (.agg (tFct.tk f 0)) (tFct.fr f) := by
  refine pcopyFact.of rfl ?_
  rw [tFct_size, tStrs_size] at h
  repeat' first
    | contradiction | exact trivial
    | (conv => whnf
       first | refine Need.mk (fun h => h) ?_ | refine Need.mk rfl ?_ | refine Need.mk ⟨rfl, Nat.le_of_ble_eq_true rfl⟩ ?_ | refine Need.mk (Nat.le_of_ble_eq_true rfl) ?_ | refine Need.fin ?_ | refine Need.mk ?_ ?_ | refine Ix.strsF rfl ?_ | refine Ix.strs rfl ?_ ?_ | refine Cut.strs rfl ?_ ?_ | refine Ix.mapF (fun _ => rfl) ?_ | refine Ix.map (fun _ => rfl) ?_ ?_ | refine Cut.map (fun _ => rfl) ?_ ?_ | refine Fork.yes (by assumption) ?_ | refine Fork.no (by assumption) ?_ | refine Fork.decYes (by omega) ?_ | refine Fork.decNo (by omega) ?_ | refine Fork.dec (fun _ => ?_) (fun _ => ?_) | refine Fork.bne (fun _ => ?_) (fun _ => ?_) | refine Fork.beq (fun _ => ?_) (fun _ => ?_) | refine Fork.seq (fun _ => ?_) (fun _ => ?_) | refine Fork.sne (fun _ => ?_) (fun _ => ?_) | refine Fork.neg (fun _ => ?_) (fun _ => ?_) | refine Fork.mk (fun _ => ?_) (fun _ => ?_) | refine HAlt.mk ?_ ?_ | apply HJoin.mk3 | exact HEnd.mk rfl rfl rfl | refine HEnd.mk ?_ ?_ ?_ | refine Round.mk ?_ | refine NilQ.mk (fun b hb => ?_) | refine forceK_of ?_ | refine forceBx_of ?_ | refine unG_old ?_ | refine unG_gv ?_ | refine Lit.read rfl ?_ | refine FinVal.keep ?_ | refine FinAgg.keep ?_ | refine Final.mk rfl rfl | refine Final.mk ?_ rfl | refine Final.mk ?_ ?_ | refine FinalT.mk ?_ ?_ | refine FinalC.allA ?_ | refine ACall.mkStrs _ _ (slClone.ret _ ?_) (by repeat' first | exact SeesL.nil | refine SeesL.cons ?_ ?_ | exact SeesB.of0 (Sees0.val _) | exact SeesB.of0 (Sees0.str _) | exact SeesB.of0 (Sees0.olds _ _) | exact SeesB.of0 (Sees0.old _) | exact SeesB.of0 (Sees0.oldagg _) | exact SeesB.of0 Sees0.nil | exact Sees0.val _ | exact Sees0.str _ | exact Sees0.olds _ _ | exact Sees0.old _ | exact Sees0.oldagg _ | exact Sees0.nil | exact SeesB.of0 (Sees0.any _) | assumption | exact sees_gv _ _ _ (by assumption) (by first | assumption | exact BoxIn.last _ _ | exact BoxIn.more (BoxIn.last _ _) _) | refine SeesB.agg ?_ | refine Sees0.agg ?_ | exact SeesB.of0 (Sees0.clo SeesL.nil SeesL.nil) | exact Sees0.clo SeesL.nil SeesL.nil | exact SeesB.of0 (Sees0.list rfl) | exact Sees0.list rfl) ?_)
    | refine AV.bool_congr ?_ | refine AV.int_congr ?_ | refine AV.str_congr ?_ | refine AV.list_congr ?_ | with_reducible rfl | refine fr1 ?_ | refine fr2 ?_ ?_
  omega
/-- a list of facts that is built by appending: its own slice first, then the facts' -/
def accFr (l : List Fct) : Fr := (80, 2, l.length) :: frs tFct l
theorem accFr_snoc (l : List Fct) (f : Fct) : (accFr l ++ tFct.fr f).set 0 (80, 2, l.length + 1) = accFr (l ++ [f]) := by
  simp [accFr, frs]
theorem acc_snoc (l : List Fct) (f : Fct) : tks tFct l 1 ++ [tFct.tk f (accFr l).length] = tks tFct (l ++ [f]) 1 := by
  rw [tks_append]
  congr 1
  show _ = [tFct.tk f _]
  rw [accFr, List.length_cons, Nat.add_comm]
end Go.Proofs.Ytimcfgokocihnaa
namespace Go.Proofs.Ytimcfgokocihnaa
open Abs
structure STO {α : Type} (lt : α → α → Bool) : Prop where
  irrefl : ∀ x, lt x x = false
  trans : ∀ x y z, lt x y = true → lt y z = true → lt x z = true
  tri : ∀ x y, lt x y = false → lt y x = false → x = y
section
variable {α : Type} {lt : α → α → Bool}
theorem STO.asymm (h : STO lt) {x y : α} (hxy : lt x y = true) : lt y x = false := by
  cases hyx : lt y x with
  | false => rfl
  | true => have := h.trans x y x hxy hyx; rw [h.irrefl] at this; cases this
def Asc (lt : α → α → Bool) (l : List α) : Prop := l.Pairwise fun x y => lt x y = true
theorem Asc.nodup (h : STO lt) {l : List α} (hl : Asc lt l) : l.Nodup := hl.imp fun {x y} hxy e => by subst e; rw [h.irrefl] at hxy; cases hxy
variable [Inhabited α] [DecidableEq α]
end
def blt (a b : Str) : Bool := Op.bytesLess a b
theorem blt_eq : ∀ a b : Str, blt a b = decide (a < b)
  | _, [] => by simp [blt, Op.bytesLess]
  | [], _ :: _ => by simp [blt, Op.bytesLess]
  | a :: x, b :: y => by
    have ih := blt_eq x y
    rw [blt] at ih ⊢
    rw [Op.bytesLess, ih]
    rw [Bool.eq_iff_iff]
    simp only [Bool.or_eq_true, Bool.and_eq_true, decide_eq_true_eq, beq_iff_eq]
    rw [List.cons_lt_cons_iff]
theorem blt_sto : STO blt where
  irrefl x := by rw [blt_eq]; simp [List.lt_irrefl]
  trans x y z h1 h2 := by rw [blt_eq, decide_eq_true_eq] at *; exact List.lt_trans h1 h2
  tri x y h1 h2 := by
    rw [blt_eq, decide_eq_false_iff_not] at *
    exact List.le_antisymm (List.not_lt.1 h2) (List.not_lt.1 h1)
structure CMP {α : Type} (c : α → α → Int) : Prop where
  zero : ∀ x y, c x y = 0 ↔ x = y
  anti : ∀ x y, c x y < 0 ↔ 0 < c y x
  trans : ∀ x y z, c x y < 0 → c y z < 0 → c x z < 0
def ltC {α : Type} (c : α → α → Int) (x y : α) : Bool := decide (c x y < 0)
theorem CMP.sto {α : Type} {c : α → α → Int} (h : CMP c) : STO (ltC c) where
  irrefl x := by unfold ltC; rw [(h.zero x x).2 rfl]; rfl
  trans x y z h1 h2 := by unfold ltC at *; rw [decide_eq_true_eq] at *; exact h.trans x y z h1 h2
  tri x y h1 h2 := by
    unfold ltC at *
    rw [decide_eq_false_iff_not] at *
    have := h.anti y x
    exact (h.zero x y).1 (by omega)
theorem scmp_cmp : CMP scmp where
  zero _ _ := scmp_zero
  anti x y := by
    have h1 := scmp_zero (a := x) (b := y)
    unfold scmp at h1 ⊢
    have b1 := @STO.asymm _ _ blt_sto x y
    have b2 := blt_sto.tri x y
    unfold blt at b1 b2
    by_cases e : x = y
    · subst e; simp [bl_irrefl]
    · have e' : ¬ y = x := fun h => e h.symm
      cases hx : Op.bytesLess x y <;> cases hy : Op.bytesLess y x <;> simp [e, e']
      · exact e (b2 hx hy)
      · have := b1 hx; rw [this] at hy; cases hy
  trans x y z h1 h2 := by
    have b := blt_sto.trans x y z
    unfold blt at b
    unfold scmp at *
    split at h1
    · rename_i hx
      split at h2
      · rename_i hy; rw [if_pos (b hx hy)]; omega
      · split at h2 <;> omega
    · split at h1 <;> omega
theorem cmpA_cmp : CMP cmpA where
  zero x y := by
    unfold cmpA
    by_cases hx : numF x = true <;> by_cases hy : numF y = true
    · rw [parseF_yes hx, parseF_yes hy]
      simp only [if_true]
      unfold icmp
      have ex : fmt (valA 0 x) = x := fmt_of_isNum (by unfold numF at hx; simp at hx; exact hx.1)
      have ey : fmt (valA 0 y) = y := fmt_of_isNum (by unfold numF at hy; simp at hy; exact hy.1)
      constructor
      · intro h
        split at h
        · omega
        · split at h
          · rename_i h2; rw [← ex, ← ey, show valA 0 x = valA 0 y by omega]
          · omega
      · rintro rfl; simp
    · rw [parseF_yes hx, parseF_no (by simpa using hy)]
      simp only [if_true]
      refine ⟨fun h => by simp at h, fun h => ?_⟩
      subst h; exact absurd hx hy
    · rw [parseF_no (by simpa using hx), parseF_yes hy]
      simp only [if_true]
      refine ⟨fun h => by simp at h, fun h => ?_⟩
      subst h; exact absurd hy hx
    · rw [parseF_no (by simpa using hx), parseF_no (by simpa using hy)]
      exact scmp_zero
  anti x y := by
    unfold cmpA
    have hs := scmp_cmp.anti x y
    cases hx : (parseF x).2 <;> cases hy : (parseF y).2 <;> simp only [if_true, Bool.false_eq_true, if_false]
    · exact hs
    · omega
    · omega
    · unfold icmp; split <;> split <;> (try split) <;> omega
  trans x y z := by
    unfold cmpA
    have hs := scmp_cmp.trans x y z
    cases hx : (parseF x).2 <;> cases hy : (parseF y).2 <;> cases hz : (parseF z).2 <;> simp only [if_true, Bool.false_eq_true, if_false]
    · exact hs
    all_goals (try (intro h1 h2; omega))
    intro h1 h2
    unfold icmp at *
    split at h1
    · split at h2
      · rw [if_pos (by omega)]; omega
      · split at h2 <;> omega
    · split at h1 <;> omega
theorem cmpArgs_cmp : CMP cmpArgs where
  zero x y := by
    induction x generalizing y with
    | nil => cases y <;> simp [cmpArgs]
    | cons a x ih =>
      cases y with
      | nil => simp [cmpArgs]
      | cons b y =>
        rw [cmpArgs]
        have hz := cmpA_cmp.zero a b
        split
        · rename_i h; exact ⟨fun e => absurd e h, fun e => absurd (hz.2 (List.cons.inj e).1) h⟩
        · rename_i h
          have e : a = b := hz.1 (Decidable.not_not.1 h)
          subst e
          rw [ih]; simp
  anti x y := by
    induction x generalizing y with
    | nil => cases y <;> simp [cmpArgs]
    | cons a x ih =>
      cases y with
      | nil => simp [cmpArgs]
      | cons b y =>
        rw [cmpArgs, cmpArgs]
        have hz := cmpA_cmp.zero a b
        have hz' := cmpA_cmp.zero b a
        have ha := cmpA_cmp.anti a b
        by_cases h : a = b
        · subst h
          rw [if_neg (by simp [hz]), if_neg (by simp [hz])]; exact ih y
        · rw [if_pos (fun e => h (hz.1 e)), if_pos (fun e => h (hz'.1 e).symm)]; exact ha
  trans x y z := by
    induction x generalizing y z with
    | nil =>
      cases y <;> cases z <;> simp [cmpArgs]
    | cons a x ih =>
      cases y with
      | nil => simp [cmpArgs]
      | cons b y =>
        cases z with
        | nil => simp [cmpArgs]
        | cons c z =>
          rw [cmpArgs, cmpArgs, cmpArgs]
          have hz := fun a b => cmpA_cmp.zero a b
          have ht := cmpA_cmp.trans a b c
          by_cases h1 : a = b
          · subst h1
            rw [if_neg (by simp [hz])]
            by_cases h2 : a = c
            · subst h2
              rw [if_neg (by simp [hz]), if_neg (by simp [hz])]; exact ih y z
            · rw [if_pos (fun e => h2 ((hz _ _).1 e)), if_pos (fun e => h2 ((hz _ _).1 e))]; exact fun _ h => h
          · rw [if_pos (fun e => h1 ((hz _ _).1 e))]
            by_cases h2 : b = c
            · subst h2
              rw [if_neg (by simp [hz]), if_pos (fun e => h1 ((hz _ _).1 e))]; exact fun h _ => h
            · rw [if_pos (fun e => h2 ((hz _ _).1 e))]
              intro h3 h4
              have h5 := ht h3 h4
              rw [if_pos (by omega)]; exact h5
theorem cmpF_cmp : CMP cmpF where
  zero x y := by
    unfold cmpF
    split
    · rename_i h; rw [cmpArgs_cmp.zero]; exact ⟨fun e => Prod.ext h e, fun e => by rw [e]⟩
    · rename_i h; exact ⟨fun e => absurd (scmp_zero.1 e) h, fun e => absurd (by rw [e]) h⟩
  anti x y := by
    unfold cmpF
    by_cases h : x.1 = y.1
    · rw [if_pos h, if_pos h.symm]; exact cmpArgs_cmp.anti _ _
    · rw [if_neg h, if_neg (fun e => h e.symm)]; exact scmp_cmp.anti _ _
  trans x y z := by
    unfold cmpF
    by_cases h1 : x.1 = y.1 <;> by_cases h2 : y.1 = z.1
    · rw [if_pos h1, if_pos h2, if_pos (h1.trans h2)]; exact cmpArgs_cmp.trans _ _ _
    · rw [if_pos h1, if_neg h2, if_neg (fun e => h2 (h1.symm.trans e)), h1]; exact fun _ h => h
    · rw [if_neg h1, if_pos h2, if_neg (fun e => h1 (e.trans h2.symm)), h2]; exact fun h _ => h
    · rw [if_neg h1, if_neg h2]
      intro h3 h4
      have h5 := scmp_cmp.trans _ _ _ h3 h4
      have h6 : x.1 ≠ z.1 := fun e => by have := scmp_zero.2 e; omega
      rw [if_neg h6]; exact h5
end Go.Proofs.Ytimcfgokocihnaa
namespace Go.Proofs.Ytimcfgokocihnaa
open Abs
theorem sCopies.ret (l : List Fct) (h : tFcts.size l ≤ 1048576) : sCopies.Ret [.list none (facts l)] (.list (some 0) (tks tFct l 1)) (accFr l) := by
  refine sCopies.of rfl ?_
  rw [tFcts_size] at h
  repeat' first
    | contradiction | exact trivial
    | (conv => whnf
       first | refine Need.mk (fun h => h) ?_ | refine Need.mk rfl ?_ | refine Need.mk ⟨rfl, Nat.le_of_ble_eq_true rfl⟩ ?_ | refine Need.mk (Nat.le_of_ble_eq_true rfl) ?_ | refine Need.fin ?_ | refine Need.mk ?_ ?_ | refine Ix.strsF rfl ?_ | refine Ix.strs rfl ?_ ?_ | refine Cut.strs rfl ?_ ?_ | refine Ix.mapF (fun _ => rfl) ?_ | refine Ix.map (fun _ => rfl) ?_ ?_ | refine Cut.map (fun _ => rfl) ?_ ?_ | refine Fork.yes (by assumption) ?_ | refine Fork.no (by assumption) ?_ | refine Fork.decYes (by omega) ?_ | refine Fork.decNo (by omega) ?_ | refine Fork.dec (fun _ => ?_) (fun _ => ?_) | refine Fork.bne (fun _ => ?_) (fun _ => ?_) | refine Fork.beq (fun _ => ?_) (fun _ => ?_) | refine Fork.seq (fun _ => ?_) (fun _ => ?_) | refine Fork.sne (fun _ => ?_) (fun _ => ?_) | refine Fork.neg (fun _ => ?_) (fun _ => ?_) | refine Fork.mk (fun _ => ?_) (fun _ => ?_) | refine HAlt.mk ?_ ?_ | apply HJoin.mk3 | exact HEnd.mk rfl rfl rfl | refine HEnd.mk ?_ ?_ ?_ | refine Round.mk ?_ | refine NilQ.mk (fun b hb => ?_) | refine forceK_of ?_ | refine forceBx_of ?_ | refine unG_old ?_ | refine unG_gv ?_ | refine Lit.read rfl ?_ | refine FinVal.keep ?_ | refine FinAgg.keep ?_ | refine Final.mk rfl rfl | refine Final.mk ?_ rfl | refine Final.mk ?_ ?_ | refine FinalT.mk ?_ ?_ | refine FinalC.allA ?_)
    | refine AV.bool_congr ?_ | refine AV.int_congr ?_ | refine AV.str_congr ?_ | refine AV.list_congr ?_ | with_reducible rfl | refine fr1 ?_ | refine fr2 ?_ ?_
  refine ALoop.mk Nat (fun i => ⟨[(0, .list none (facts l)), (3, .list (some 0) (tks tFct (l.take i) 1)), (4, .val (.int .i64 i))], [], accFr (l.take i)⟩) (fun i => i ≤ l.length) (fun i => l.length - i) ⟨0, Nat.zero_le _, ?_⟩ (fun i hi => ?_)
  · repeat' first
      | exact trivial | refine Weak.mk ?_ ?_ ?_ ?_ (Or.inl (Nat.le_of_ble_eq_true rfl)) | refine Weak.mk ?_ ?_ ?_ ?_ (Or.inr ⟨(by repeat' first | exact trivial | exact Nat.le_of_ble_eq_true rfl | refine And.intro ?_ ?_), (by repeat' first | exact trivial | exact Nat.le_of_ble_eq_true rfl | refine And.intro ?_ ?_)⟩) | refine Weak.mk ?_ ?_ ?_ ?_ ?_ | refine And.intro ?_ ?_ | with_reducible rfl | exact Nat.le_of_ble_eq_true rfl | refine fr1 ?_ | refine fr2 ?_ ?_ | refine AV.int_congr ?_ | refine AV.bool_congr ?_ | refine AV.str_congr ?_ | refine AV.list_congr ?_ | refine AV.bsl_congr ?_ ?_ | (apply rfl)
  have hlen : (l.take i).length ≤ l.length := by rw [List.length_take]; omega
  repeat' first
    | contradiction | exact trivial
    | (conv => whnf
       first | refine Need.mk (fun h => h) ?_ | refine Need.mk rfl ?_ | refine Need.mk ⟨rfl, Nat.le_of_ble_eq_true rfl⟩ ?_ | refine Need.mk (Nat.le_of_ble_eq_true rfl) ?_ | refine Need.fin ?_ | refine Need.mk ?_ ?_ | refine Ix.strsF rfl ?_ | refine Ix.strs rfl ?_ ?_ | refine Cut.strs rfl ?_ ?_ | refine Ix.mapF (fun _ => rfl) ?_ | refine Ix.map (fun _ => rfl) ?_ ?_ | refine Cut.map (fun _ => rfl) ?_ ?_ | refine Fork.yes (by assumption) ?_ | refine Fork.no (by assumption) ?_ | refine Fork.decYes (by omega) ?_ | refine Fork.decNo (by omega) ?_ | refine Fork.dec (fun _ => ?_) (fun _ => ?_) | refine Fork.bne (fun _ => ?_) (fun _ => ?_) | refine Fork.beq (fun _ => ?_) (fun _ => ?_) | refine Fork.seq (fun _ => ?_) (fun _ => ?_) | refine Fork.sne (fun _ => ?_) (fun _ => ?_) | refine Fork.neg (fun _ => ?_) (fun _ => ?_) | refine Fork.mk (fun _ => ?_) (fun _ => ?_) | refine HAlt.mk ?_ ?_ | apply HJoin.mk3 | exact HEnd.mk rfl rfl rfl | refine HEnd.mk ?_ ?_ ?_ | refine Round.mk ?_ | refine NilQ.mk (fun b hb => ?_) | refine forceK_of ?_ | refine forceBx_of ?_ | refine unG_old ?_ | refine unG_gv ?_ | refine Lit.read rfl ?_ | refine FinVal.keep ?_ | refine FinAgg.keep ?_ | refine Final.mk rfl rfl | refine Final.mk ?_ rfl | refine Final.mk ?_ ?_ | refine FinalT.mk ?_ ?_ | refine FinalC.allA ?_ | refine ACall.mkFct _ _ (sCopy.ret _ ?_) (by repeat' first | exact SeesL.nil | refine SeesL.cons ?_ ?_ | exact SeesB.of0 (Sees0.val _) | exact SeesB.of0 (Sees0.str _) | exact SeesB.of0 (Sees0.olds _ _) | exact SeesB.of0 (Sees0.old _) | exact SeesB.of0 (Sees0.oldagg _) | exact SeesB.of0 Sees0.nil | exact Sees0.val _ | exact Sees0.str _ | exact Sees0.olds _ _ | exact Sees0.old _ | exact Sees0.oldagg _ | exact Sees0.nil | exact SeesB.of0 (Sees0.any _) | assumption | exact sees_gv _ _ _ (by assumption) (by first | assumption | exact BoxIn.last _ _ | exact BoxIn.more (BoxIn.last _ _) _) | refine SeesB.agg ?_ | refine Sees0.agg ?_ | exact SeesB.of0 (Sees0.clo SeesL.nil SeesL.nil) | exact Sees0.clo SeesL.nil SeesL.nil | exact SeesB.of0 (Sees0.list rfl) | exact Sees0.list rfl) ?_)
    | refine AV.bool_congr ?_ | refine AV.int_congr ?_ | refine AV.str_congr ?_ | refine AV.list_congr ?_ | with_reducible rfl | refine fr1 ?_ | refine fr2 ?_ ?_
  all_goals try simp only [length_rows, length_strs, length_oldLL, List.length_map, Int.toNat_natCast] at *
  · have := fct_le (l := l) (i := i) (by omega); omega
  · rw [length_tks]
  · intro c hc; rw [List.mem_singleton.1 hc]; exact tFct.htk _ _
  · rw [length_tks]; simp; omega
  · refine ⟨i + 1, by omega, ?_, by omega⟩
    repeat' first
      | exact trivial | refine Weak.mk ?_ ?_ ?_ ?_ (Or.inl (Nat.le_of_ble_eq_true rfl)) | refine Weak.mk ?_ ?_ ?_ ?_ (Or.inr ⟨(by repeat' first | exact trivial | exact Nat.le_of_ble_eq_true rfl | refine And.intro ?_ ?_), (by repeat' first | exact trivial | exact Nat.le_of_ble_eq_true rfl | refine And.intro ?_ ?_)⟩) | refine Weak.mk ?_ ?_ ?_ ?_ ?_ | refine And.intro ?_ ?_ | with_reducible rfl | exact Nat.le_of_ble_eq_true rfl | refine fr1 ?_ | refine fr2 ?_ ?_ | refine AV.int_congr ?_ | refine AV.bool_congr ?_ | refine AV.str_congr ?_ | refine AV.list_congr ?_ | refine AV.bsl_congr ?_ ?_ | (apply rfl)
    · rw [acc_snoc, take_succ' default (by omega)]
    · rw [wrap64 (by omega) (by omega)]; rfl
    · show (accFr (l.take i) ++ tFct.fr (l.getD i default)).set 0 (_, _, (tks tFct (l.take i) 1).length + 1) = accFr (l.take (i + 1))
      rw [length_tks, take_succ' default (by omega)]; exact accFr_snoc _ _
  · rw [List.take_of_length_le (by omega)]
  · rw [List.take_of_length_le (by omega)]
abbrev flt : Fct → Fct → Bool := ltC cmpF
theorem flt_sto : STO flt := cmpF_cmp.sto
def outF (f : Fct) (l : List Fct) : List Fct := l.filter fun g => !decide (g = f)
theorem outF_yes {f : Fct} {l : List Fct} {i : Nat} (hi : i < l.length) (h : l.getD i default ≠ f) : outF f (l.take (i + 1)) = outF f (l.take i) ++ [l.getD i default] := by
  rw [take_succ' default hi, outF, List.filter_append, List.filter_cons, decide_eq_false h]; rfl
theorem outF_no {f : Fct} {l : List Fct} {i : Nat} (hi : i < l.length) (h : l.getD i default = f) : outF f (l.take (i + 1)) = outF f (l.take i) := by
  rw [take_succ' default hi, outF, List.filter_append, List.filter_cons, decide_eq_true h]; simp [outF]
theorem outF_len (f : Fct) (l : List Fct) (i : Nat) : (outF f (l.take i)).length ≤ l.length := by
  refine Nat.le_trans (List.length_filter_le _ _) ?_
  rw [List.length_take]; omega
set_option maxHeartbeats 2000000 in
theorem sWithout.ret (l : List Fct) (f : Fct) (h : tFcts.size l ≤ 1048576) (h' : tFct.size f ≤ 1048576) : sWithout.Ret [.list none (facts l), .agg (oldL (tFct.q f))] (.list (some 0) (tks tFct (outF f l) 1)) (accFr (outF f l)) := by
  refine sWithout.of rfl ?_
  rw [tFcts_size] at h
  repeat' first
    | contradiction | exact trivial
    | (conv => whnf
       first | refine Need.mk (fun h => h) ?_ | refine Need.mk rfl ?_ | refine Need.mk ⟨rfl, Nat.le_of_ble_eq_true rfl⟩ ?_ | refine Need.mk (Nat.le_of_ble_eq_true rfl) ?_ | refine Need.fin ?_ | refine Need.mk ?_ ?_ | refine Ix.strsF rfl ?_ | refine Ix.strs rfl ?_ ?_ | refine Cut.strs rfl ?_ ?_ | refine Ix.mapF (fun _ => rfl) ?_ | refine Ix.map (fun _ => rfl) ?_ ?_ | refine Cut.map (fun _ => rfl) ?_ ?_ | refine Fork.yes (by assumption) ?_ | refine Fork.no (by assumption) ?_ | refine Fork.decYes (by omega) ?_ | refine Fork.decNo (by omega) ?_ | refine Fork.dec (fun _ => ?_) (fun _ => ?_) | refine Fork.bne (fun _ => ?_) (fun _ => ?_) | refine Fork.beq (fun _ => ?_) (fun _ => ?_) | refine Fork.seq (fun _ => ?_) (fun _ => ?_) | refine Fork.sne (fun _ => ?_) (fun _ => ?_) | refine Fork.neg (fun _ => ?_) (fun _ => ?_) | refine Fork.mk (fun _ => ?_) (fun _ => ?_) | refine HAlt.mk ?_ ?_ | apply HJoin.mk3 | exact HEnd.mk rfl rfl rfl | refine HEnd.mk ?_ ?_ ?_ | refine Round.mk ?_ | refine NilQ.mk (fun b hb => ?_) | refine forceK_of ?_ | refine forceBx_of ?_ | refine unG_old ?_ | refine unG_gv ?_ | refine Lit.read rfl ?_ | refine FinVal.keep ?_ | refine FinAgg.keep ?_ | refine Final.mk rfl rfl | refine Final.mk ?_ rfl | refine Final.mk ?_ ?_ | refine FinalT.mk ?_ ?_ | refine FinalC.allA ?_)
    | refine AV.bool_congr ?_ | refine AV.int_congr ?_ | refine AV.str_congr ?_ | refine AV.list_congr ?_ | with_reducible rfl | refine fr1 ?_ | refine fr2 ?_ ?_
  refine ALoop.mk Nat (fun i => ⟨[(0, .list none (facts l)), (3, .bptr 0 0), (5, .list (some 0) (tks tFct (outF f (l.take i)) 1)), (6, .val (.int .i64 i))], [.cells .var (oldL (tFct.q f))], accFr (outF f (l.take i))⟩) (fun i => i ≤ l.length) (fun i => l.length - i) ⟨0, Nat.zero_le _, ?_⟩ (fun i hi => ?_)
  · repeat' first
      | exact trivial | refine Weak.mk ?_ ?_ ?_ ?_ (Or.inl (Nat.le_of_ble_eq_true rfl)) | refine Weak.mk ?_ ?_ ?_ ?_ (Or.inr ⟨(by repeat' first | exact trivial | exact Nat.le_of_ble_eq_true rfl | refine And.intro ?_ ?_), (by repeat' first | exact trivial | exact Nat.le_of_ble_eq_true rfl | refine And.intro ?_ ?_)⟩) | refine Weak.mk ?_ ?_ ?_ ?_ ?_ | refine And.intro ?_ ?_ | with_reducible rfl | exact Nat.le_of_ble_eq_true rfl | refine fr1 ?_ | refine fr2 ?_ ?_ | refine AV.int_congr ?_ | refine AV.bool_congr ?_ | refine AV.str_congr ?_ | refine AV.list_congr ?_ | refine AV.bsl_congr ?_ ?_ | (apply rfl)
  have hlen := outF_len f l i
  have hle' : ∀ i, tFct.size (l.getD i default) ≤ 1048576 := fun i => Nat.le_trans (fct_le' i) (by omega)
  have e0 : l.getD (i : Int).toNat default = l.getD i default := by rw [Int.toNat_natCast]
  have snoc : ∀ (o : List Fct) (f : Fct), (accFr o ++ tFct.fr f).set 0 (80, 2, (tks tFct o 1).length + 1) = accFr (o ++ [f]) := fun o f => by rw [length_tks]; exact accFr_snoc _ _
  repeat' first
    | contradiction | exact trivial
    | (conv => whnf
       first | refine Need.mk (fun h => h) ?_ | refine Need.mk rfl ?_ | refine Need.mk ⟨rfl, Nat.le_of_ble_eq_true rfl⟩ ?_ | refine Need.mk (Nat.le_of_ble_eq_true rfl) ?_ | refine Need.fin ?_ | refine Need.mk ?_ ?_ | refine Ix.strsF rfl ?_ | refine Ix.strs rfl ?_ ?_ | refine Cut.strs rfl ?_ ?_ | refine Ix.mapF (fun _ => rfl) ?_ | refine Ix.map (fun _ => rfl) ?_ ?_ | refine Cut.map (fun _ => rfl) ?_ ?_ | refine Fork.yes (by assumption) ?_ | refine Fork.no (by assumption) ?_ | refine Fork.decYes (by omega) ?_ | refine Fork.decNo (by omega) ?_ | refine Fork.dec (fun _ => ?_) (fun _ => ?_) | refine Fork.bne (fun _ => ?_) (fun _ => ?_) | refine Fork.beq (fun _ => ?_) (fun _ => ?_) | refine Fork.seq (fun _ => ?_) (fun _ => ?_) | refine Fork.sne (fun _ => ?_) (fun _ => ?_) | refine Fork.neg (fun _ => ?_) (fun _ => ?_) | refine Fork.mk (fun _ => ?_) (fun _ => ?_) | refine HAlt.mk ?_ ?_ | apply HJoin.mk3 | exact HEnd.mk rfl rfl rfl | refine HEnd.mk ?_ ?_ ?_ | refine Round.mk ?_ | refine NilQ.mk (fun b hb => ?_) | refine forceK_of ?_ | refine forceBx_of ?_ | refine unG_old ?_ | refine unG_gv ?_ | refine Lit.read rfl ?_ | refine FinVal.keep ?_ | refine FinAgg.keep ?_ | refine Final.mk rfl rfl | refine Final.mk ?_ rfl | refine Final.mk ?_ ?_ | refine FinalT.mk ?_ ?_ | refine FinalC.allA ?_ | refine ACall.mkFct _ _ (sCopy.ret _ ?_) (by repeat' first | exact SeesL.nil | refine SeesL.cons ?_ ?_ | exact SeesB.of0 (Sees0.val _) | exact SeesB.of0 (Sees0.str _) | exact SeesB.of0 (Sees0.olds _ _) | exact SeesB.of0 (Sees0.old _) | exact SeesB.of0 (Sees0.oldagg _) | exact SeesB.of0 Sees0.nil | exact Sees0.val _ | exact Sees0.str _ | exact Sees0.olds _ _ | exact Sees0.old _ | exact Sees0.oldagg _ | exact Sees0.nil | exact SeesB.of0 (Sees0.any _) | assumption | exact sees_gv _ _ _ (by assumption) (by first | assumption | exact BoxIn.last _ _ | exact BoxIn.more (BoxIn.last _ _) _) | refine SeesB.agg ?_ | refine Sees0.agg ?_ | exact SeesB.of0 (Sees0.clo SeesL.nil SeesL.nil) | exact Sees0.clo SeesL.nil SeesL.nil | exact SeesB.of0 (Sees0.list rfl) | exact Sees0.list rfl) ?_ | refine ACall.scalA _ _ (sSame.ret _ _ ?_) rfl ?_ | refine AQCall.mkA _ _ (fun hg => sSame.ret _ _ ?_) rfl ?_ | refine AGCall.mkA _ _ (fun hg => sSame.ret _ _ ?_) rfl ?_)
    | refine AV.bool_congr ?_ | refine AV.int_congr ?_ | refine AV.str_congr ?_ | refine AV.list_congr ?_ | with_reducible rfl | refine fr1 ?_ | refine fr2 ?_ ?_
  all_goals try simp only [length_rows, length_strs, length_oldLL, List.length_map, Int.toNat_natCast] at *
  all_goals try exact hle' _
  · rw [length_tks]
  · intro c hc; rw [List.mem_singleton.1 hc]; exact tFct.htk _ _
  · rw [length_tks]; simp; omega
  · rename_i h1 h2
    have h3 : l.getD i default ≠ f := by first | simpa using h1 | simpa using h2
    refine ⟨i + 1, by omega, ?_, by omega⟩
    repeat' first
      | exact trivial | refine Weak.mk ?_ ?_ ?_ ?_ (Or.inl (Nat.le_of_ble_eq_true rfl)) | refine Weak.mk ?_ ?_ ?_ ?_ (Or.inr ⟨(by repeat' first | exact trivial | exact Nat.le_of_ble_eq_true rfl | refine And.intro ?_ ?_), (by repeat' first | exact trivial | exact Nat.le_of_ble_eq_true rfl | refine And.intro ?_ ?_)⟩) | refine Weak.mk ?_ ?_ ?_ ?_ ?_ | refine And.intro ?_ ?_ | with_reducible rfl | exact Nat.le_of_ble_eq_true rfl | refine fr1 ?_ | refine fr2 ?_ ?_ | refine AV.int_congr ?_ | refine AV.bool_congr ?_ | refine AV.str_congr ?_ | refine AV.list_congr ?_ | refine AV.bsl_congr ?_ ?_ | (apply rfl)
    · rw [acc_snoc, outF_yes (by omega) h3]
    · rw [wrap64 (by omega) (by omega)]; rfl
    · show (accFr (outF f (l.take i)) ++ tFct.fr (l.getD i default)).set 0 (_, _, (tks tFct (outF f (l.take i)) 1).length + 1) = _
      rw [snoc, outF_yes (by omega) h3]
  · rename_i h1 h2
    have h3 : l.getD i default = f := by first | simpa using h1 | simpa using h2
    refine ⟨i + 1, by omega, ?_, by omega⟩
    repeat' first
      | exact trivial | refine Weak.mk ?_ ?_ ?_ ?_ (Or.inl (Nat.le_of_ble_eq_true rfl)) | refine Weak.mk ?_ ?_ ?_ ?_ (Or.inr ⟨(by repeat' first | exact trivial | exact Nat.le_of_ble_eq_true rfl | refine And.intro ?_ ?_), (by repeat' first | exact trivial | exact Nat.le_of_ble_eq_true rfl | refine And.intro ?_ ?_)⟩) | refine Weak.mk ?_ ?_ ?_ ?_ ?_ | refine And.intro ?_ ?_ | with_reducible rfl | exact Nat.le_of_ble_eq_true rfl | refine fr1 ?_ | refine fr2 ?_ ?_ | refine AV.int_congr ?_ | refine AV.bool_congr ?_ | refine AV.str_congr ?_ | refine AV.list_congr ?_ | refine AV.bsl_congr ?_ ?_ | (apply rfl)
    · rw [outF_no (by omega) h3]
    · rw [wrap64 (by omega) (by omega)]; rfl
    · rw [outF_no (by omega) h3]
  · rw [List.take_of_length_le (by omega)]
  · rw [List.take_of_length_le (by omega)]
def dropOk (l : List Fct) (f : Fct) : Bool := areF l && decide (0 ≤ findF l f 0)
def dropF (l : List Fct) (f : Fct) : List Fct := if dropOk l f then outF f l else l
theorem Abs.ACall.mk_acc {C : Con} {lend : Bool} {f : Nat} {vs : List AV} {b : List ABox} {fr : Fr} {k : AV → List ABox → Fr → Prop} (ys : List AV) (l : List Fct) (h : C.ret f ys (.list (some 0) (tks tFct l 1)) (accFr l)) (hv : SeesL Sees0 vs ys)
    (hk : k (.list (some (0 + fr.length)) (tks tFct l (1 + fr.length))) b (fr ++ accFr l)) : ACall C lend f vs b fr k :=
  .mk ys _ _ h hv (by rw [shift_eq, mapT, tks_sh]; exact hk)
theorem acc_ownP {mo : Bool} {P : Program} {f : Nat} {args : List AV} {l : List Fct} {v : Bool} (h : Ret mo P f args (.tup [.list (some 0) (tks tFct l 1), .val (.bool v)]) (accFr l)) : Own mo P f args (.p [fctsT l, .v (.bool v)]) := by
  obtain ⟨ts, h1, p1⟩ := tks_own tFct (accFr l) l 1 (fun i x hi => by rw [accFr, Nat.add_comm, List.getElem?_cons_succ]; exact hi)
  have h2 : OwnA (accFr l) [fctsT l, .v (.bool v)] [.list (some 0) (tks tFct l 1), .val (.bool v)] (0 :: ts ++ []) :=
    .l 80 2 _ 0 _ (by simp [accFr]) (by rw [length_tks, List.length_map]) (fun e he => by obtain ⟨a, _, rfl⟩ := List.mem_map.1 he; exact tFct.hq a) (tks_sz tFct l 1) h1 (.v _ rfl .nil)
  refine h.own _ (.p _ _ h2 .nil) ?_
  rw [List.append_nil, List.append_nil]
  refine List.nodup_cons.2 ⟨fun hm => ?_, p1.symm.nodup (List.nodup_range' _)⟩
  have := (p1.mem_iff).1 hm
  rw [List.mem_range'_1] at this
  omega
set_option maxHeartbeats 4000000 in
theorem sRemoveFact.own (l : List Fct) (f : Fct) (h : tFcts.size l + tFct.size f ≤ 1048576) : sRemoveFact.Own [.list none (facts l), .agg (oldL (tFct.q f))] (.p [fctsT (dropF l f), .v (.bool (dropOk l f))]) := by
  refine acc_ownP (sRemoveFact.of rfl ?_)
  have hc := sCopies.ret l (by omega)
  have hw := sWithout.ret l f (by omega) (by omega)
  have hf := sFindFact.ret l f (by omega) (by omega)
  have ha := sAreFacts.ret l (by omega)
  unfold dropF dropOk
  cases h1 : areF l with
  | false =>
    rw [h1] at ha
    rw [if_neg (by simp)]
    repeat' first
      | contradiction | exact trivial
      | (conv => whnf
         first | refine Need.mk (fun h => h) ?_ | refine Need.mk rfl ?_ | refine Need.mk ⟨rfl, Nat.le_of_ble_eq_true rfl⟩ ?_ | refine Need.mk (Nat.le_of_ble_eq_true rfl) ?_ | refine Need.fin ?_ | refine Need.mk ?_ ?_ | refine Ix.strsF rfl ?_ | refine Ix.strs rfl ?_ ?_ | refine Cut.strs rfl ?_ ?_ | refine Ix.mapF (fun _ => rfl) ?_ | refine Ix.map (fun _ => rfl) ?_ ?_ | refine Cut.map (fun _ => rfl) ?_ ?_ | refine Fork.yes (by assumption) ?_ | refine Fork.no (by assumption) ?_ | refine Fork.decYes (by omega) ?_ | refine Fork.decNo (by omega) ?_ | refine Fork.dec (fun _ => ?_) (fun _ => ?_) | refine Fork.bne (fun _ => ?_) (fun _ => ?_) | refine Fork.beq (fun _ => ?_) (fun _ => ?_) | refine Fork.seq (fun _ => ?_) (fun _ => ?_) | refine Fork.sne (fun _ => ?_) (fun _ => ?_) | refine Fork.neg (fun _ => ?_) (fun _ => ?_) | refine Fork.mk (fun _ => ?_) (fun _ => ?_) | refine HAlt.mk ?_ ?_ | apply HJoin.mk3 | exact HEnd.mk rfl rfl rfl | refine HEnd.mk ?_ ?_ ?_ | refine Round.mk ?_ | refine NilQ.mk (fun b hb => ?_) | refine forceK_of ?_ | refine forceBx_of ?_ | refine unG_old ?_ | refine unG_gv ?_ | refine Lit.read rfl ?_ | refine FinVal.keep ?_ | refine FinAgg.keep ?_ | refine Final.mk rfl rfl | refine Final.mk ?_ rfl | refine Final.mk ?_ ?_ | refine FinalT.mk ?_ ?_ | refine FinalC.allA ?_ | refine ACall.scalA _ _ (ha) rfl ?_ | refine AQCall.mkA _ _ (fun hg => ha) rfl ?_ | refine AGCall.mkA _ _ (fun hg => ha) rfl ?_ | refine ACall.scalA _ _ (hf) rfl ?_ | refine AQCall.mkA _ _ (fun hg => hf) rfl ?_ | refine AGCall.mkA _ _ (fun hg => hf) rfl ?_ | refine ACall.mk_acc _ _ (hc) (by repeat' first | exact SeesL.nil | refine SeesL.cons ?_ ?_ | exact SeesB.of0 (Sees0.val _) | exact SeesB.of0 (Sees0.str _) | exact SeesB.of0 (Sees0.olds _ _) | exact SeesB.of0 (Sees0.old _) | exact SeesB.of0 (Sees0.oldagg _) | exact SeesB.of0 Sees0.nil | exact Sees0.val _ | exact Sees0.str _ | exact Sees0.olds _ _ | exact Sees0.old _ | exact Sees0.oldagg _ | exact Sees0.nil | exact SeesB.of0 (Sees0.any _) | assumption | exact sees_gv _ _ _ (by assumption) (by first | assumption | exact BoxIn.last _ _ | exact BoxIn.more (BoxIn.last _ _) _) | refine SeesB.agg ?_ | refine Sees0.agg ?_ | exact SeesB.of0 (Sees0.clo SeesL.nil SeesL.nil) | exact Sees0.clo SeesL.nil SeesL.nil | exact SeesB.of0 (Sees0.list rfl) | exact Sees0.list rfl) ?_ | refine ACall.mk_acc _ _ (hw) (by repeat' first | exact SeesL.nil | refine SeesL.cons ?_ ?_ | exact SeesB.of0 (Sees0.val _) | exact SeesB.of0 (Sees0.str _) | exact SeesB.of0 (Sees0.olds _ _) | exact SeesB.of0 (Sees0.old _) | exact SeesB.of0 (Sees0.oldagg _) | exact SeesB.of0 Sees0.nil | exact Sees0.val _ | exact Sees0.str _ | exact Sees0.olds _ _ | exact Sees0.old _ | exact Sees0.oldagg _ | exact Sees0.nil | exact SeesB.of0 (Sees0.any _) | assumption | exact sees_gv _ _ _ (by assumption) (by first | assumption | exact BoxIn.last _ _ | exact BoxIn.more (BoxIn.last _ _) _) | refine SeesB.agg ?_ | refine Sees0.agg ?_ | exact SeesB.of0 (Sees0.clo SeesL.nil SeesL.nil) | exact Sees0.clo SeesL.nil SeesL.nil | exact SeesB.of0 (Sees0.list rfl) | exact Sees0.list rfl) ?_)
      | refine AV.bool_congr ?_ | refine AV.int_congr ?_ | refine AV.str_congr ?_ | refine AV.list_congr ?_ | with_reducible rfl | refine fr1 ?_ | refine fr2 ?_ ?_
    all_goals first
      | (exfalso; rename_i hx; simp at hx; omega)
      | (refine AV.tup2_congr rfl (AV.bool_congr ?_); simp; omega)
      | rfl
  | true =>
    rw [h1] at ha
    by_cases h2 : findF l f 0 < 0
    · rw [if_neg (by simp; omega)]
      repeat' first
        | contradiction | exact trivial
        | (conv => whnf
           first | refine Need.mk (fun h => h) ?_ | refine Need.mk rfl ?_ | refine Need.mk ⟨rfl, Nat.le_of_ble_eq_true rfl⟩ ?_ | refine Need.mk (Nat.le_of_ble_eq_true rfl) ?_ | refine Need.fin ?_ | refine Need.mk ?_ ?_ | refine Ix.strsF rfl ?_ | refine Ix.strs rfl ?_ ?_ | refine Cut.strs rfl ?_ ?_ | refine Ix.mapF (fun _ => rfl) ?_ | refine Ix.map (fun _ => rfl) ?_ ?_ | refine Cut.map (fun _ => rfl) ?_ ?_ | refine Fork.yes (by assumption) ?_ | refine Fork.no (by assumption) ?_ | refine Fork.decYes (by omega) ?_ | refine Fork.decNo (by omega) ?_ | refine Fork.dec (fun _ => ?_) (fun _ => ?_) | refine Fork.bne (fun _ => ?_) (fun _ => ?_) | refine Fork.beq (fun _ => ?_) (fun _ => ?_) | refine Fork.seq (fun _ => ?_) (fun _ => ?_) | refine Fork.sne (fun _ => ?_) (fun _ => ?_) | refine Fork.neg (fun _ => ?_) (fun _ => ?_) | refine Fork.mk (fun _ => ?_) (fun _ => ?_) | refine HAlt.mk ?_ ?_ | apply HJoin.mk3 | exact HEnd.mk rfl rfl rfl | refine HEnd.mk ?_ ?_ ?_ | refine Round.mk ?_ | refine NilQ.mk (fun b hb => ?_) | refine forceK_of ?_ | refine forceBx_of ?_ | refine unG_old ?_ | refine unG_gv ?_ | refine Lit.read rfl ?_ | refine FinVal.keep ?_ | refine FinAgg.keep ?_ | refine Final.mk rfl rfl | refine Final.mk ?_ rfl | refine Final.mk ?_ ?_ | refine FinalT.mk ?_ ?_ | refine FinalC.allA ?_ | refine ACall.scalA _ _ (ha) rfl ?_ | refine AQCall.mkA _ _ (fun hg => ha) rfl ?_ | refine AGCall.mkA _ _ (fun hg => ha) rfl ?_ | refine ACall.scalA _ _ (hf) rfl ?_ | refine AQCall.mkA _ _ (fun hg => hf) rfl ?_ | refine AGCall.mkA _ _ (fun hg => hf) rfl ?_ | refine ACall.mk_acc _ _ (hc) (by repeat' first | exact SeesL.nil | refine SeesL.cons ?_ ?_ | exact SeesB.of0 (Sees0.val _) | exact SeesB.of0 (Sees0.str _) | exact SeesB.of0 (Sees0.olds _ _) | exact SeesB.of0 (Sees0.old _) | exact SeesB.of0 (Sees0.oldagg _) | exact SeesB.of0 Sees0.nil | exact Sees0.val _ | exact Sees0.str _ | exact Sees0.olds _ _ | exact Sees0.old _ | exact Sees0.oldagg _ | exact Sees0.nil | exact SeesB.of0 (Sees0.any _) | assumption | exact sees_gv _ _ _ (by assumption) (by first | assumption | exact BoxIn.last _ _ | exact BoxIn.more (BoxIn.last _ _) _) | refine SeesB.agg ?_ | refine Sees0.agg ?_ | exact SeesB.of0 (Sees0.clo SeesL.nil SeesL.nil) | exact Sees0.clo SeesL.nil SeesL.nil | exact SeesB.of0 (Sees0.list rfl) | exact Sees0.list rfl) ?_ | refine ACall.mk_acc _ _ (hw) (by repeat' first | exact SeesL.nil | refine SeesL.cons ?_ ?_ | exact SeesB.of0 (Sees0.val _) | exact SeesB.of0 (Sees0.str _) | exact SeesB.of0 (Sees0.olds _ _) | exact SeesB.of0 (Sees0.old _) | exact SeesB.of0 (Sees0.oldagg _) | exact SeesB.of0 Sees0.nil | exact Sees0.val _ | exact Sees0.str _ | exact Sees0.olds _ _ | exact Sees0.old _ | exact Sees0.oldagg _ | exact Sees0.nil | exact SeesB.of0 (Sees0.any _) | assumption | exact sees_gv _ _ _ (by assumption) (by first | assumption | exact BoxIn.last _ _ | exact BoxIn.more (BoxIn.last _ _) _) | refine SeesB.agg ?_ | refine Sees0.agg ?_ | exact SeesB.of0 (Sees0.clo SeesL.nil SeesL.nil) | exact Sees0.clo SeesL.nil SeesL.nil | exact SeesB.of0 (Sees0.list rfl) | exact Sees0.list rfl) ?_)
        | refine AV.bool_congr ?_ | refine AV.int_congr ?_ | refine AV.str_congr ?_ | refine AV.list_congr ?_ | with_reducible rfl | refine fr1 ?_ | refine fr2 ?_ ?_
      all_goals first
        | (exfalso; rename_i hx; simp at hx; omega)
        | (refine AV.tup2_congr rfl (AV.bool_congr ?_); simp; omega)
        | rfl
    · rw [if_pos (by simp; omega)]
      repeat' first
        | contradiction | exact trivial
        | (conv => whnf
           first | refine Need.mk (fun h => h) ?_ | refine Need.mk rfl ?_ | refine Need.mk ⟨rfl, Nat.le_of_ble_eq_true rfl⟩ ?_ | refine Need.mk (Nat.le_of_ble_eq_true rfl) ?_ | refine Need.fin ?_ | refine Need.mk ?_ ?_ | refine Ix.strsF rfl ?_ | refine Ix.strs rfl ?_ ?_ | refine Cut.strs rfl ?_ ?_ | refine Ix.mapF (fun _ => rfl) ?_ | refine Ix.map (fun _ => rfl) ?_ ?_ | refine Cut.map (fun _ => rfl) ?_ ?_ | refine Fork.yes (by assumption) ?_ | refine Fork.no (by assumption) ?_ | refine Fork.decYes (by omega) ?_ | refine Fork.decNo (by omega) ?_ | refine Fork.dec (fun _ => ?_) (fun _ => ?_) | refine Fork.bne (fun _ => ?_) (fun _ => ?_) | refine Fork.beq (fun _ => ?_) (fun _ => ?_) | refine Fork.seq (fun _ => ?_) (fun _ => ?_) | refine Fork.sne (fun _ => ?_) (fun _ => ?_) | refine Fork.neg (fun _ => ?_) (fun _ => ?_) | refine Fork.mk (fun _ => ?_) (fun _ => ?_) | refine HAlt.mk ?_ ?_ | apply HJoin.mk3 | exact HEnd.mk rfl rfl rfl | refine HEnd.mk ?_ ?_ ?_ | refine Round.mk ?_ | refine NilQ.mk (fun b hb => ?_) | refine forceK_of ?_ | refine forceBx_of ?_ | refine unG_old ?_ | refine unG_gv ?_ | refine Lit.read rfl ?_ | refine FinVal.keep ?_ | refine FinAgg.keep ?_ | refine Final.mk rfl rfl | refine Final.mk ?_ rfl | refine Final.mk ?_ ?_ | refine FinalT.mk ?_ ?_ | refine FinalC.allA ?_ | refine ACall.scalA _ _ (ha) rfl ?_ | refine AQCall.mkA _ _ (fun hg => ha) rfl ?_ | refine AGCall.mkA _ _ (fun hg => ha) rfl ?_ | refine ACall.scalA _ _ (hf) rfl ?_ | refine AQCall.mkA _ _ (fun hg => hf) rfl ?_ | refine AGCall.mkA _ _ (fun hg => hf) rfl ?_ | refine ACall.mk_acc _ _ (hc) (by repeat' first | exact SeesL.nil | refine SeesL.cons ?_ ?_ | exact SeesB.of0 (Sees0.val _) | exact SeesB.of0 (Sees0.str _) | exact SeesB.of0 (Sees0.olds _ _) | exact SeesB.of0 (Sees0.old _) | exact SeesB.of0 (Sees0.oldagg _) | exact SeesB.of0 Sees0.nil | exact Sees0.val _ | exact Sees0.str _ | exact Sees0.olds _ _ | exact Sees0.old _ | exact Sees0.oldagg _ | exact Sees0.nil | exact SeesB.of0 (Sees0.any _) | assumption | exact sees_gv _ _ _ (by assumption) (by first | assumption | exact BoxIn.last _ _ | exact BoxIn.more (BoxIn.last _ _) _) | refine SeesB.agg ?_ | refine Sees0.agg ?_ | exact SeesB.of0 (Sees0.clo SeesL.nil SeesL.nil) | exact Sees0.clo SeesL.nil SeesL.nil | exact SeesB.of0 (Sees0.list rfl) | exact Sees0.list rfl) ?_ | refine ACall.mk_acc _ _ (hw) (by repeat' first | exact SeesL.nil | refine SeesL.cons ?_ ?_ | exact SeesB.of0 (Sees0.val _) | exact SeesB.of0 (Sees0.str _) | exact SeesB.of0 (Sees0.olds _ _) | exact SeesB.of0 (Sees0.old _) | exact SeesB.of0 (Sees0.oldagg _) | exact SeesB.of0 Sees0.nil | exact Sees0.val _ | exact Sees0.str _ | exact Sees0.olds _ _ | exact Sees0.old _ | exact Sees0.oldagg _ | exact Sees0.nil | exact SeesB.of0 (Sees0.any _) | assumption | exact sees_gv _ _ _ (by assumption) (by first | assumption | exact BoxIn.last _ _ | exact BoxIn.more (BoxIn.last _ _) _) | refine SeesB.agg ?_ | refine Sees0.agg ?_ | exact SeesB.of0 (Sees0.clo SeesL.nil SeesL.nil) | exact Sees0.clo SeesL.nil SeesL.nil | exact SeesB.of0 (Sees0.list rfl) | exact Sees0.list rfl) ?_)
        | refine AV.bool_congr ?_ | refine AV.int_congr ?_ | refine AV.str_congr ?_ | refine AV.list_congr ?_ | with_reducible rfl | refine fr1 ?_ | refine fr2 ?_ ?_
      all_goals first
        | (exfalso; rename_i hx; simp at hx; omega)
        | (refine AV.tup2_congr rfl (AV.bool_congr ?_); simp; omega)
        | rfl
end Go.Proofs.Ytimcfgokocihnaa
namespace Go.Proofs.Ytimcfgokocihnaa
open Abs
theorem SeesB.strs {bx : List ABox} {j t : Nat} {l : List Str} (hj : bx[j]? = some (.cells (.row t 1) (strs l).flatten)) : SeesB bx (.bsl j l.length) (.list none (Abs.strs l)) := by
  refine SeesB.bsl hj (by simp) (strs_sz l) ?_
  rw [strs_eq]
  clear hj
  induction l with
  | nil => exact .nil
  | cons s l ih => exact .cons (SeesB.of0 (Sees0.str s)) ih
theorem inBL_of {m : Nat} : ∀ {cs : List AV}, (∀ c ∈ cs, inB m c) → inB.inBL m cs
  | [], _ => trivial
  | c :: cs, h => ⟨h c (by simp), inBL_of fun d hd => h d (by simp [hd])⟩
end Go.Proofs.Ytimcfgokocihnaa
namespace Go.Proofs.Ytimcfgokocihnaa
open Abs
/-- the variables among some texts -/
def vs (l : List Str) : List Str := l.filter varF
theorem filter_size {α : Type} (T : Ty α) (p : α → Bool) : ∀ l : List α, listSize T (l.filter p) ≤ listSize T l
  | [] => Nat.le_refl _
  | x :: l => by
    have := filter_size T p l
    rw [List.filter_cons]
    split
    · show T.size x + _ ≤ T.size x + _; omega
    · show _ ≤ T.size x + _; omega
end Go.Proofs.Ytimcfgokocihnaa
namespace Go.Proofs.Ytimcfgokocihnaa
open Abs
theorem Abs.Need.finN {p q : Prop} (k : q) (h : p := by intros; (try simp only [length_strs] at *); (try simp only [length_rows] at *); (try simp only [length_oldLL, List.length_map, Int.toNat_natCast] at *); (try simp only [Bool.and_eq_true, decide_eq_true_eq] at *); omega) : Need p q := ⟨h, k⟩
theorem Abs.Ix.strsN {gd : Bool} {l : List Str} {i : Int} {sz : Nat} {k : List AV → Prop} (hs : 1 = sz) (hk : k [.str (l.getD i.toNat [])]) (h : gd = true → 0 ≤ i ∧ i < l.length := by intros; (try simp only [length_strs] at *); (try simp only [length_rows] at *); (try simp only [length_oldLL, List.length_map, Int.toNat_natCast] at *); (try simp only [Bool.and_eq_true, decide_eq_true_eq] at *); omega) : Ix gd (Abs.strs l) i sz k := Ix.strs hs h hk
theorem Abs.Ix.mapN {α : Type} [Inhabited α] {gd : Bool} {l : List α} {q : α → List Tr} {i : Int} {sz : Nat} {k : List AV → Prop} (hs : ∀ a, (q a).length = sz) (hk : k (oldL (q (l.getD i.toNat default)))) (h : gd = true → 0 ≤ i ∧ i < l.length := by intros; (try simp only [length_strs] at *); (try simp only [length_rows] at *); (try simp only [length_oldLL, List.length_map, Int.toNat_natCast] at *); (try simp only [Bool.and_eq_true, decide_eq_true_eq] at *); omega) : Ix gd (oldLL (l.map q)) i sz k := Ix.map hs h hk
theorem Abs.Fork.decY {c : Prop} [Decidable c] {p q : Prop} (k : p) (h : c := by (try simp only [length_oldLL, length_rows, length_strs, length_tks, List.length_map, Int.toNat_natCast]); omega) : Fork (decide c) p q := .decYes h k
theorem Abs.Fork.decN {c : Prop} [Decidable c] {p q : Prop} (k : q) (h : ¬ c := by (try simp only [length_oldLL, length_rows, length_strs, length_tks, List.length_map, Int.toNat_natCast]); omega) : Fork (decide c) p q := .decNo h k
theorem Abs.Fork.andY {a b : Prop} [Decidable a] [Decidable b] {p q : Prop} (k : p) (h : a ∧ b := by (try simp only [length_oldLL, length_rows, length_strs, length_tks, List.length_map, Int.toNat_natCast]); omega) : Fork (decide a && decide b) p q := .yes (by simp [h.1, h.2]) k
theorem Abs.Fork.andN {a b : Prop} [Decidable a] [Decidable b] {p q : Prop} (k : q) (h : ¬ (a ∧ b) := by (try simp only [length_oldLL, length_rows, length_strs, length_tks, List.length_map, Int.toNat_natCast]); omega) : Fork (decide a && decide b) p q := .no (by rw [← Bool.decide_and]; exact decide_eq_false h) k
section
variable {α : Type}
end
end Go.Proofs.Ytimcfgokocihnaa
namespace Go.Proofs.Ytimcfgokocihnaa
open Abs Go.RowKit
theorem fget {l : List Fct} {i : Nat} (hi : i < l.length) : l[i]? = some (l.getD i default) := by simp [List.getD, hi]
def zf : List AV := [.str [], .val (.slice none 0 0)]
theorem tks_mem {α : Type} (T : Ty α) {c : AV} : ∀ {l : List α} {n : Nat}, c ∈ (tks T l n).flatten → ∃ a m, c ∈ T.tk a m
  | [], _, h => by cases h
  | a :: l, n, h => by
    rw [tks, List.flatten_cons, List.mem_append] at h
    rcases h with h | h
    · exact ⟨a, n, h⟩
    · exact tks_mem T h
theorem part_inF (m : Nat) (l : List Fct) (i : Nat) : inB.inBL m (part zf (tks tFct l 0) i) := by
  refine inBL_of fun c hc => ?_
  rw [part, List.mem_append] at hc
  rcases hc with h | h
  · obtain ⟨x, hx, hc⟩ := List.mem_flatten.1 h
    obtain ⟨a, n, ha⟩ := tks_mem tFct (List.mem_flatten.2 ⟨x, List.mem_of_mem_take hx, hc⟩)
    have ha : c ∈ [AV.str a.1, .list (some n) (strs a.2)] := ha
    rcases List.mem_cons.1 ha with rfl | ha
    · trivial
    · rw [List.mem_singleton.1 ha]; trivial
  · obtain ⟨x, hx, hc⟩ := List.mem_flatten.1 h
    rw [List.eq_of_mem_replicate hx] at hc
    rcases List.mem_cons.1 hc with rfl | hc
    · trivial
    · rw [List.mem_singleton.1 hc]; trivial
theorem pcopyFacts.ret (l : List Fct) (h : tFcts.size l ≤ 1048576) : pcopyFacts.Ret [.list none (facts l)] (.list (some (frs tFct l).length) (tks tFct l 0)) (frs tFct l ++ [(80, 2, l.length)]) := by
  refine pcopyFacts.of rfl ?_
  rw [tFcts_size] at h
  have hfl : (facts l).length = l.length := length_rows _ _
  repeat' first
    | contradiction | exact trivial
    | (conv => whnf
       first | refine Need.mk (fun h => h) ?_ | refine Need.mk rfl ?_ | refine Need.mk ⟨rfl, Nat.le_of_ble_eq_true rfl⟩ ?_ | refine Need.mk (Nat.le_of_ble_eq_true rfl) ?_ | refine Need.fin ?_ | refine Need.mk ?_ ?_ | refine Ix.strsF rfl ?_ | refine Ix.strs rfl ?_ ?_ | refine Cut.strs rfl ?_ ?_ | refine Ix.mapF (fun _ => rfl) ?_ | refine Ix.map (fun _ => rfl) ?_ ?_ | refine Cut.map (fun _ => rfl) ?_ ?_ | refine Fork.yes (by assumption) ?_ | refine Fork.no (by assumption) ?_ | refine Fork.decYes (by omega) ?_ | refine Fork.decNo (by omega) ?_ | refine Fork.dec (fun _ => ?_) (fun _ => ?_) | refine Fork.bne (fun _ => ?_) (fun _ => ?_) | refine Fork.beq (fun _ => ?_) (fun _ => ?_) | refine Fork.seq (fun _ => ?_) (fun _ => ?_) | refine Fork.sne (fun _ => ?_) (fun _ => ?_) | refine Fork.neg (fun _ => ?_) (fun _ => ?_) | refine Fork.mk (fun _ => ?_) (fun _ => ?_) | refine HAlt.mk ?_ ?_ | apply HJoin.mk3 | exact HEnd.mk rfl rfl rfl | refine HEnd.mk ?_ ?_ ?_ | refine Round.mk ?_ | refine NilQ.mk (fun b hb => ?_) | refine forceK_of ?_ | refine forceBx_of ?_ | refine unG_old ?_ | refine unG_gv ?_ | refine Lit.read rfl ?_ | refine FinVal.keep ?_ | refine FinAgg.keep ?_ | refine Final.mk rfl rfl | refine Final.mk ?_ rfl | refine Final.mk ?_ ?_ | refine FinalT.mk ?_ ?_ | refine FinalC.allA ?_)
    | refine AV.bool_congr ?_ | refine AV.int_congr ?_ | refine AV.str_congr ?_ | refine AV.list_congr ?_ | with_reducible rfl | refine fr1 ?_ | refine fr2 ?_ ?_
  refine ALoop.mk Nat (fun i => ⟨[(3, .bsl 0 l.length), (9, .list none (facts l)), (10, .val (.int .i64 l.length)), (11, .val (.int .i64 i))], [.cells (.row 80 2) (part zf (tks tFct l 0) i)], frs tFct (l.take i)⟩) (fun i => i ≤ l.length) (fun i => l.length - i) ⟨0, Nat.zero_le _, ?_⟩ (fun i hi => ?_)
  · repeat' first
      | exact trivial | refine Weak.mk ?_ ?_ ?_ ?_ (Or.inl (Nat.le_of_ble_eq_true rfl)) | refine Weak.mk ?_ ?_ ?_ ?_ (Or.inr ⟨(by repeat' first | exact trivial | exact Nat.le_of_ble_eq_true rfl | refine And.intro ?_ ?_), (by repeat' first | exact trivial | exact Nat.le_of_ble_eq_true rfl | refine And.intro ?_ ?_)⟩) | refine Weak.mk ?_ ?_ ?_ ?_ ?_ | refine And.intro ?_ ?_ | with_reducible rfl | exact Nat.le_of_ble_eq_true rfl | refine fr1 ?_ | refine fr2 ?_ ?_ | refine AV.int_congr ?_ | refine AV.bool_congr ?_ | refine AV.str_congr ?_ | refine AV.list_congr ?_ | refine AV.bsl_congr ?_ ?_ | (apply rfl)
    · rw [hfl, Int.toNat_natCast]
    · rw [hfl]
    · simp only [List.nil_append, List.cons_append, List.length_cons, List.length_nil, List.take_succ_cons, List.take_zero]
      rw [part_made (xs := tks tFct l 0) (sz := 2) rfl (by decide) (by rw [length_tks, hfl, Int.toNat_natCast])]; rfl
  by_cases hi' : i < l.length
  rotate_left
  · have hil : i = l.length := by omega
    subst hil
    have hall := part_all zf (tks tFct l 0)
    rw [length_tks] at hall
    rw [List.take_length, hall]
    repeat' first
      | contradiction | exact trivial
      | (conv => whnf
         first | refine Need.mk (fun h => h) ?_ | refine Need.mk rfl ?_ | refine Need.mk ⟨rfl, Nat.le_of_ble_eq_true rfl⟩ ?_ | refine Need.mk (Nat.le_of_ble_eq_true rfl) ?_ | refine Need.finN ?_ | refine Need.mk ?_ ?_ | refine Ix.strsN rfl ?_ | refine Ix.strs rfl ?_ ?_ | refine Cut.strs rfl ?_ ?_ | refine Ix.mapN (fun _ => rfl) ?_ | refine Ix.map (fun _ => rfl) ?_ ?_ | refine Cut.map (fun _ => rfl) ?_ ?_ | refine Fork.yes (by assumption) ?_ | refine Fork.no (by assumption) ?_ | refine Fork.decY ?_ | refine Fork.andY ?_ | refine Fork.andN ?_ | refine Fork.decN ?_ | refine Fork.dec (fun _ => ?_) (fun _ => ?_) | refine Fork.bne (fun _ => ?_) (fun _ => ?_) | refine Fork.beq (fun _ => ?_) (fun _ => ?_) | refine Fork.seq (fun _ => ?_) (fun _ => ?_) | refine Fork.sne (fun _ => ?_) (fun _ => ?_) | refine Fork.neg (fun _ => ?_) (fun _ => ?_) | refine Fork.mk (fun _ => ?_) (fun _ => ?_) | refine HAlt.mk ?_ ?_ | apply HJoin.mk3 | exact HEnd.mk rfl rfl rfl | refine HEnd.mk ?_ ?_ ?_ | refine Round.mk ?_ | refine NilQ.mk (fun b hb => ?_) | refine forceK_of ?_ | refine forceBx_of ?_ | refine unG_old ?_ | refine unG_gv ?_ | refine Lit.read rfl ?_ | refine FinVal.keep ?_ | refine FinAgg.keep ?_ | refine Final.mk rfl rfl | refine Final.mk ?_ rfl | refine Final.mk ?_ ?_ | refine FinalT.mk ?_ ?_ | refine FinalC.allA ?_)
      | refine AV.bool_congr ?_ | refine AV.int_congr ?_ | refine AV.str_congr ?_ | refine AV.list_congr ?_ | with_reducible rfl | refine fr1 ?_ | refine fr2 ?_ ?_
    conv => whnf
    refine FreezeD.flat (Freeze.mk (tks tFct l 0) _ 80 2 rfl rfl (length_tks _ _ _) (tks_sz tFct l 0) (tks_nr tFct l 0) ?_)
    repeat' first
      | contradiction | exact trivial
      | (conv => whnf
         first | refine Need.mk (fun h => h) ?_ | refine Need.mk rfl ?_ | refine Need.mk ⟨rfl, Nat.le_of_ble_eq_true rfl⟩ ?_ | refine Need.mk (Nat.le_of_ble_eq_true rfl) ?_ | refine Need.finN ?_ | refine Need.mk ?_ ?_ | refine Ix.strsN rfl ?_ | refine Ix.strs rfl ?_ ?_ | refine Cut.strs rfl ?_ ?_ | refine Ix.mapN (fun _ => rfl) ?_ | refine Ix.map (fun _ => rfl) ?_ ?_ | refine Cut.map (fun _ => rfl) ?_ ?_ | refine Fork.yes (by assumption) ?_ | refine Fork.no (by assumption) ?_ | refine Fork.decY ?_ | refine Fork.andY ?_ | refine Fork.andN ?_ | refine Fork.decN ?_ | refine Fork.dec (fun _ => ?_) (fun _ => ?_) | refine Fork.bne (fun _ => ?_) (fun _ => ?_) | refine Fork.beq (fun _ => ?_) (fun _ => ?_) | refine Fork.seq (fun _ => ?_) (fun _ => ?_) | refine Fork.sne (fun _ => ?_) (fun _ => ?_) | refine Fork.neg (fun _ => ?_) (fun _ => ?_) | refine Fork.mk (fun _ => ?_) (fun _ => ?_) | refine HAlt.mk ?_ ?_ | apply HJoin.mk3 | exact HEnd.mk rfl rfl rfl | refine HEnd.mk ?_ ?_ ?_ | refine Round.mk ?_ | refine NilQ.mk (fun b hb => ?_) | refine forceK_of ?_ | refine forceBx_of ?_ | refine unG_old ?_ | refine unG_gv ?_ | refine Lit.read rfl ?_ | refine FinVal.keep ?_ | refine FinAgg.keep ?_ | refine Final.mk rfl rfl | refine Final.mk ?_ rfl | refine Final.mk ?_ ?_ | refine FinalT.mk ?_ ?_ | refine FinalC.allA ?_)
      | refine AV.bool_congr ?_ | refine AV.int_congr ?_ | refine AV.str_congr ?_ | refine AV.list_congr ?_ | with_reducible rfl | refine fr1 ?_ | refine fr2 ?_ ?_
  have hsz := fct_le hi'
  have hget := tks_get tFct 0 (fget hi')
  rw [Nat.zero_add] at hget
  repeat' first
    | contradiction | exact trivial
    | (conv => whnf
       first | refine Need.mk (fun h => h) ?_ | refine Need.mk rfl ?_ | refine Need.mk ⟨rfl, Nat.le_of_ble_eq_true rfl⟩ ?_ | refine Need.mk (Nat.le_of_ble_eq_true rfl) ?_ | refine Need.finN ?_ | refine Need.mk ?_ ?_ | refine Ix.strsN rfl ?_ | refine Ix.strs rfl ?_ ?_ | refine Cut.strs rfl ?_ ?_ | refine Ix.mapN (fun _ => rfl) ?_ | refine Ix.map (fun _ => rfl) ?_ ?_ | refine Cut.map (fun _ => rfl) ?_ ?_ | refine Fork.yes (by assumption) ?_ | refine Fork.no (by assumption) ?_ | refine Fork.decY ?_ | refine Fork.andY ?_ | refine Fork.andN ?_ | refine Fork.decN ?_ | refine Fork.dec (fun _ => ?_) (fun _ => ?_) | refine Fork.bne (fun _ => ?_) (fun _ => ?_) | refine Fork.beq (fun _ => ?_) (fun _ => ?_) | refine Fork.seq (fun _ => ?_) (fun _ => ?_) | refine Fork.sne (fun _ => ?_) (fun _ => ?_) | refine Fork.neg (fun _ => ?_) (fun _ => ?_) | refine Fork.mk (fun _ => ?_) (fun _ => ?_) | refine HAlt.mk ?_ ?_ | apply HJoin.mk3 | exact HEnd.mk rfl rfl rfl | refine HEnd.mk ?_ ?_ ?_ | refine Round.mk ?_ | refine NilQ.mk (fun b hb => ?_) | refine forceK_of ?_ | refine forceBx_of ?_ | refine unG_old ?_ | refine unG_gv ?_ | refine Lit.read rfl ?_ | refine FinVal.keep ?_ | refine FinAgg.keep ?_ | refine Final.mk rfl rfl | refine Final.mk ?_ rfl | refine Final.mk ?_ ?_ | refine FinalT.mk ?_ ?_ | refine FinalC.allA ?_ | refine ACall.mkFct _ _ (pcopyFact.ret _ ?_) (by repeat' first | exact SeesL.nil | refine SeesL.cons ?_ ?_ | exact SeesB.of0 (Sees0.val _) | exact SeesB.of0 (Sees0.str _) | exact SeesB.of0 (Sees0.olds _ _) | exact SeesB.of0 (Sees0.old _) | exact SeesB.of0 (Sees0.oldagg _) | exact SeesB.of0 Sees0.nil | exact Sees0.val _ | exact Sees0.str _ | exact Sees0.olds _ _ | exact Sees0.old _ | exact Sees0.oldagg _ | exact Sees0.nil | exact SeesB.of0 (Sees0.any _) | assumption | exact sees_gv _ _ _ (by assumption) (by first | assumption | exact BoxIn.last _ _ | exact BoxIn.more (BoxIn.last _ _) _) | refine SeesB.agg ?_ | refine Sees0.agg ?_ | exact SeesB.of0 (Sees0.clo SeesL.nil SeesL.nil) | exact Sees0.clo SeesL.nil SeesL.nil | exact SeesB.of0 (Sees0.list rfl) | exact Sees0.list rfl) ?_)
    | refine AV.bool_congr ?_ | refine AV.int_congr ?_ | refine AV.str_congr ?_ | refine AV.list_congr ?_ | with_reducible rfl | refine fr1 ?_ | refine fr2 ?_ ?_
  · rw [Int.toNat_natCast]; omega
  · rw [tFct.htk, part_len (sz := 2) rfl (tks_sz tFct l 0) (by rw [length_tks]; omega), length_tks, Int.toNat_natCast]
    exact ⟨rfl, by omega⟩
  · refine ⟨i + 1, by omega, ?_, by omega⟩
    refine ⟨?_, ?_, ?_, Nat.le_of_ble_eq_true rfl, Or.inr ⟨?_, part_inF 1 l (i + 1), trivial⟩⟩
    rotate_right
    · exact ⟨Nat.zero_lt_one, trivial, trivial, trivial, trivial⟩
    · repeat' first
        | exact trivial | refine Weak.mk ?_ ?_ ?_ ?_ (Or.inl (Nat.le_of_ble_eq_true rfl)) | refine Weak.mk ?_ ?_ ?_ ?_ (Or.inr ⟨(by repeat' first | exact trivial | exact Nat.le_of_ble_eq_true rfl | refine And.intro ?_ ?_), (by repeat' first | exact trivial | exact Nat.le_of_ble_eq_true rfl | refine And.intro ?_ ?_)⟩) | refine Weak.mk ?_ ?_ ?_ ?_ ?_ | refine And.intro ?_ ?_ | with_reducible rfl | exact Nat.le_of_ble_eq_true rfl | refine fr1 ?_ | refine fr2 ?_ ?_ | refine AV.int_congr ?_ | refine AV.bool_congr ?_ | refine AV.str_congr ?_ | refine AV.list_congr ?_ | refine AV.bsl_congr ?_ ?_ | (apply rfl)
      rw [wrap64 (by omega) (by omega)]; rfl
    · have := part_set (z := zf) (sz := 2) rfl (tks_sz tFct l 0) hget
      exact congrArg (fun c => [ABox.cells (.row 80 2) c]) this
    · show frs tFct (l.take i) ++ tFct.fr (l.getD ((i : Int)).toNat default) = frs tFct (l.take (i + 1))
      rw [take_succ' default hi', frs_append, Int.toNat_natCast]
      simp [frs]
theorem pcopyFacts.own (l : List Fct) (h : tFcts.size l ≤ 1048576) : pcopyFacts.Own [.list none (facts l)] (fctsT l) := by
  have h1 := pcopyFacts.ret l h
  refine Ty.ownV tFcts (a := l) rfl rfl ?_
  rw [Nat.zero_add]; exact h1
end Go.Proofs.Ytimcfgokocihnaa
namespace Go.Proofs.Ytimcfgokocihnaa
open Abs
def factCells : List Fct → List Nat → List AV
  | x :: xs, k :: ks => .str x.1 :: .bsl k x.2.length :: factCells xs ks
  | [], _ => []
  | _ :: _, [] => []
def kill (b : List ABox) : List Nat → List ABox
  | [] => b
  | k :: ks => kill (b.set k .dead) ks
theorem finL_facts (one : AV → List ABox → Fr → (AV → List ABox → Fr → Prop) → Prop) : ∀ (xs : List Fct) (ks : List Nat) (b : List ABox) (f : Fr) (K : List AV → List ABox → Fr → Prop), ks.length = xs.length → ks.Nodup →
    (∀ (i : Nat) k x, ks[i]? = some k → xs[i]? = some x → b[k]? = some (mbox x)) → K (tks tFct xs f.length).flatten (kill b ks) (f ++ frs tFct xs) → finL (finS one) (factCells xs ks) b f K
  | [], [], b, f, K, _, _, _, h => by
    rw [factCells, finL]
    simpa [tks, kill, frs] using h
  | [], _ :: _, _, _, _, hl, _, _, _ => by cases hl
  | _ :: _, [], _, _, _, hl, _, _, _ => by cases hl
  | x :: xs, k :: ks, b, f, K, hl, hn, hb, h => by
    rw [factCells, finL]
    refine (show finL (finS one) (.bsl k x.2.length :: factCells xs ks) b f (fun cs b f => K (.str x.1 :: cs) b f) from ?_)
    rw [finL]
    have h1 := hb 0 k x rfl rfl
    refine FreezeD.flat (Freeze.mk (strs x.2) _ 9 1 h1 (strs_flatten _).symm (by simp) (strs_sz _) (fun c hc => ?_) ?_)
    · obtain ⟨s, _, rfl⟩ := List.mem_map.1 hc; rfl
    obtain ⟨n1, n2⟩ := List.nodup_cons.1 hn
    refine finL_facts one xs ks _ _ _ (by simpa using hl) n2 (fun i k' x' hk' hx' => ?_) ?_
    · have hne : k ≠ k' := fun e => n1 (e ▸ List.mem_of_getElem? hk')
      rw [List.getElem?_set, if_neg hne]
      exact hb (i + 1) k' x' (by simpa using hk') (by simpa using hx')
    · rw [show f ++ [(9, 1, x.2.length)] ++ frs tFct xs = f ++ frs tFct (x :: xs) by rw [List.append_assoc]; rfl]
      rw [List.length_append]
      exact h
end Go.Proofs.Ytimcfgokocihnaa
namespace Go.Proofs.Ytimcfgokocihnaa
open Abs
theorem ownP_fcts (l : List Fct) (v : Bool) : ∃ ts, OwnA (tFcts.fr l) [.p [fctsT l, .v (.bool v)]] [.tup [.list (some (0 + (frs tFct l).length)) (tks tFct l 0), .val (.bool v)]] ts ∧ ts.Nodup := by
  obtain ⟨ts, h1, p1⟩ := tFcts.hown l 0 (tFcts.fr l) (fun i x hi => by rw [Nat.zero_add]; exact hi)
  have h2 : OwnA (tFcts.fr l) [fctsT l, .v (.bool v)] [.list (some (0 + (frs tFct l).length)) (tks tFct l 0), .val (.bool v)] (ts ++ []) := OwnA.append h1 (.v _ rfl .nil)
  have h3 := OwnA.p _ _ h2 .nil
  exact ⟨_, h3, by rw [List.append_nil, List.append_nil]; exact p1.symm.nodup (List.nodup_range' _)⟩
theorem mcells_fact : ∀ (l : List Fct) (n : Nat), mcells l n = factCells l (List.range' n l.length)
  | [], _ => rfl
  | x :: l, n => by rw [mcells, List.length_cons, List.range'_succ, factCells, mcells_fact l]
theorem Abs.Lends.app {a a0 b b0 : List ABox} (h : Lends a a0) (h' : Lends b b0) : Lends (a ++ b) (a0 ++ b0) := by
  induction h with
  | nil => exact h'
  | hide x _ ih => exact .hide x ih
  | lend k cs hc _ ih => exact .lend k cs hc ih
  | map m _ ih => exact .map m ih
theorem lends_mbox : ∀ l : List Fct, Lends (l.map mbox) (l.map mbox)
  | [] => .nil
  | x :: l => .lend _ _ noTk_texts (lends_mbox l)
theorem noTk_facts : ∀ (xs : List Fct) (ks : List Nat), ∀ c ∈ factCells xs ks, noTk c = true
  | [], _, c, h => by cases h
  | _ :: _, [], c, h => by cases h
  | x :: xs, k :: ks, c, h => by
    rw [factCells] at h
    rcases List.mem_cons.1 h with rfl | h
    · rfl
    rcases List.mem_cons.1 h with rfl | h
    · rfl
    exact noTk_facts xs ks c h
theorem merge_mbox (b b0 b1 : List ABox) : ∀ l : List Fct, merge (l.map mbox ++ b) (l.map mbox ++ b0) (l.map mbox ++ b1) = l.map mbox ++ merge b b0 b1
  | [] => rfl
  | x :: l => by
    have := merge_mbox b b0 b1 l
    show mbox x :: merge (l.map mbox ++ b) (l.map mbox ++ b0) (l.map mbox ++ b1) = _
    rw [this]; rfl
theorem Abs.FreezeD.eqs {one : AV → List ABox → Fr → (AV → List ABox → Fr → Prop) → Prop} {b b' : List ABox} {f : Fr} {j j' n n' : Nat} {k : AV → List ABox → Fr → Prop} (e1 : b = b') (e2 : j = j') (e3 : n = n') (h : FreezeD one b' f j' n' k) : FreezeD one b f j n k := by rw [e1, e2, e3]; exact h
theorem Abs.ACall.ctxE {C : Con} {f : Nat} {vs vs' : List AV} {b b' : List ABox} {fr : Fr} {k : AV → List ABox → Fr → Prop} (e1 : b = b') (e2 : vs = vs') (h : ACall C true f vs' b' fr k) : ACall C true f vs b fr k := by rw [e1, e2]; exact h
theorem areF_asc {l : List Fct} (h : areF l = true) : Asc flt l := by
  have adj : ∀ i, i + 1 < l.length → flt (l.getD i default) (l.getD (i + 1) default) = true := fun i hi => by
    cases hb : badAt l (i + 1) with
    | true => rw [areF_no hi hb] at h; cases h
    | false =>
      unfold badAt at hb
      rw [Bool.or_eq_false_iff, Bool.and_eq_false_iff, decide_eq_false_iff_not, decide_eq_false_iff_not] at hb
      rcases hb.2 with h1 | h1
      · omega
      · rw [Nat.add_sub_cancel] at h1
        unfold flt ltC
        rw [decide_eq_true_eq]; omega
  have hs : ∀ d i, i + d + 1 < l.length → flt (l.getD i default) (l.getD (i + d + 1) default) = true := by
    intro d
    induction d with
    | zero => exact adj
    | succ d ih => exact fun i hi => flt_sto.trans _ _ _ (ih i (by omega)) (adj (i + d + 1) hi)
  rw [Asc, List.pairwise_iff_getElem]
  intro i j hi hj hij
  have := hs (j - i - 1) i (by omega)
  rw [show i + (j - i - 1) + 1 = j by omega] at this
  simpa [List.getD, hi, hj] using this
theorem kill_get : ∀ (ks : List Nat) (b : List ABox) (j : Nat), j ∉ ks → (kill b ks)[j]? = b[j]?
  | [], _, _, _ => rfl
  | k :: ks, b, j, h => by
    rw [kill, kill_get ks _ j fun hm => h (List.mem_cons_of_mem _ hm), List.getElem?_set, if_neg fun (e : k = j) => h (by rw [e]; exact List.mem_cons_self)]
theorem kill_len : ∀ (ks : List Nat) (b : List ABox), (kill b ks).length = b.length
  | [], _ => rfl
  | k :: ks, b => by rw [kill, kill_len ks, List.length_set]
end Go.Proofs.Ytimcfgokocihnaa
namespace Go.Proofs.Ytimcfgokocihnaa
open Abs Go.RowKit Go.Sort Go.Lib Go.Shelf
def delR : Go.Shelf.Ren := ⟨fun | 45 => 128 | n => n, fun | 0 => 0 | 3 => 3 | 4 => 4 | 22 => 76 | 23 => 80 | n => n, fun n => n⟩
theorem del_f45 : Bears Try.prog (delR.f 45) (SlBodyN.n45 delR) := ⟨Try.f128.name, by decide, Try.func128.trans (congrArg some (by kernel_rfl))⟩
def zFact : Value := .agg #[.string ⟨#[]⟩, .slice none 0 0]
theorem zFact_zero (w : World) : (zeroValue 80).run Try.prog w = .ok zFact w := Try.zeroValue80 w
theorem del_info : ∃ i0, Try.prog.info? 80 = some i0 ∧ i0.size = 2 := by
  have h : (Try.prog.info? 80).map (·.size) = some 2 := by kernel_rfl
  cases hi : Try.prog.info? 80 with
  | none => rw [hi] at h; cases h
  | some i0 => rw [hi] at h; exact ⟨i0, rfl, by simpa using h⟩
theorem slDeleteF.ctx (b : List ABox) (j n i : Nat) (cs : List AV) (hj : b[j]? = some (.cells (.row 80 2) cs)) (hl : cs.length = n * 2) (hi : i < n) :
    slDeleteF.Ctx b [.bsl j n, .val (.int .i64 i), .val (.int .i64 ((i + 1 : Nat) : Int))] (fun r b1 => r = .bsl j (n - 1) ∧ b1 = b.set j (.cells (.row 80 2) (cs.take (i * 2) ++ cs.drop ((i + 1) * 2)))) := by
  refine delete_ctx (fS := 128) 2 80 (by kernel_rfl) b j n i cs hj hl hi (Builtin.zeroCells zFact.cells 1).toList (by rw [zeroCells_size]; rfl) fun blk cap vs w h1 h2 h3 h4 h5 => ?_
  obtain ⟨i0, hi0, hi1⟩ := del_info
  have h := delete_raw (P := Try.prog) (ρ := delR) 2 (by decide) (by kernel_rfl) del_f45 Try.underlying0 Try.isAgg0 Try.sizeOf0 Try.zeroValue0 Try.underlying3 Try.isAgg3 Try.sizeOf3 Try.zeroValue3 Try.underlying4 Try.isAgg4 Try.sizeOf4 Try.zeroValue4
    Try.underlying76 Try.isAgg76 Try.sizeOf76 Try.zeroValue76 Try.sizeOf80 zFact zFact_zero (by rfl) (by decide) i0 hi0 hi1 blk n cap i (i + 1) vs w h1 h2 h3 h4 h5 (by omega) (by omega)
  rw [show n - (i + 1 - i) = n - 1 by omega, show i + (n - (i + 1)) = n - 1 by omega, show i + 1 - i = 1 by omega] at h
  exact h
end Go.Proofs.Ytimcfgokocihnaa
namespace Go.Proofs.Ytimcfgokocihnaa
open Abs
theorem factCells_erase : ∀ (l : List Fct) (ks : List Nat) (i : Nat), ks.length = l.length → i < l.length → factCells (l.eraseIdx i) (ks.eraseIdx i) = (factCells l ks).take (i * 2) ++ (factCells l ks).drop ((i + 1) * 2)
  | [], _, _, _, h => by simp at h
  | x :: l, [], _, h, _ => by simp at h
  | x :: l, k :: ks, 0, _, _ => by simp [factCells]
  | x :: l, k :: ks, i + 1, h1, h2 => by
    rw [List.eraseIdx_cons_succ, List.eraseIdx_cons_succ, factCells, factCells_erase l ks i (by simpa using h1) (by simpa using h2), factCells]
    rw [show (i + 1) * 2 = i * 2 + 1 + 1 by omega, show (i + 1 + 1) * 2 = (i + 1) * 2 + 1 + 1 by omega, List.take_succ_cons, List.take_succ_cons, List.drop_succ_cons, List.drop_succ_cons]
    rw [show (i + 1) * 2 = i * 2 + 1 + 1 by omega]
    rfl
theorem findF_some (f : Fct) : ∀ (l : List Fct) (n : Int), 0 ≤ n → l.Nodup → 0 ≤ findF l f n → ∃ i, i < l.length ∧ findF l f n = n + (i : Nat) ∧ outF f l = l.eraseIdx i
  | [], n, _, _, h => by rw [findF] at h; omega
  | g :: l, n, hn, hd, h => by
    obtain ⟨d1, d2⟩ := List.nodup_cons.1 hd
    rw [findF] at h ⊢
    by_cases hg : g = f
    · subst hg
      refine ⟨0, by simp, by simp, ?_⟩
      have : ∀ x ∈ l, (!decide (x = g)) = true := fun x hx => by
        have : x ≠ g := fun e => d1 (e ▸ hx)
        simp [this]
      rw [outF, List.filter_cons, if_neg (by simp), List.filter_eq_self.2 this]
      simp
    · rw [if_neg hg] at h ⊢
      obtain ⟨i, h1, h2, h3⟩ := findF_some f l (n + 1) (by omega) d2 h
      refine ⟨i + 1, by simpa using h1, by rw [h2]; omega, ?_⟩
      rw [List.eraseIdx_cons_succ, ← h3, outF, outF, List.filter_cons, if_pos (by simp [hg])]
theorem merge_del (l : List Fct) (x : ABox) (t m : Nat) (c c' : List AV) :
    merge (([x] : List ABox) ++ ([.cells (.row t m) c] : List ABox) ++ l.map mbox) (([.dead] : List ABox) ++ ([.cells (.row t m) c] : List ABox) ++ l.map mbox)
      ((([.dead] : List ABox) ++ ([.cells (.row t m) c] : List ABox) ++ l.map mbox).set 1 (.cells (.row t m) c')) =
    ([x] : List ABox) ++ ([.cells (.row t m) c'] : List ABox) ++ l.map mbox := by
  have := merge_mbox [] [] [] l
  simp only [List.append_nil] at this
  show x :: ABox.cells (.row t m) c' :: merge (l.map mbox) (l.map mbox) (l.map mbox) = _
  rw [this]; simp [merge]
set_option maxHeartbeats 4000000 in
theorem pRemoveFact.own (l : List Fct) (f : Fct) (h : tFcts.size l + tFct.size f ≤ 1048576) : pRemoveFact.Own [.list none (facts l), .agg (oldL (tFct.q f))] (.p [fctsT (dropF l f), .v (.bool (dropOk l f))]) := by
  refine Own.of_irP (code := pRemoveFact.code) (rs := pRemoveFact.res) (K := pRemoveFact.keep) Try.func65 rfl (by kernel_rfl) (Nat.le_of_ble_eq_true rfl) (by kernel_rfl) (by kernel_rfl) ?_
  have hc : pcopyFacts.Ret [.list none (facts l)] (.list (some (0 + (frs tFct l).length)) (tks tFct l 0)) (tFcts.fr l) := by
    have := pcopyFacts.ret l (by omega)
    rw [Nat.zero_add]; exact this
  have hf := pFindFact.ret l f (by omega) (by omega)
  have ha := pAreFacts.ret l (by omega)
  have hfl : (facts l).length = l.length := length_rows _ _
  have hcond : (!areF l || decide (findF l f 0 < 0)) = !dropOk l f := by
    unfold dropOk
    have e1 : decide (0 ≤ findF l f 0) = !decide (findF l f 0 < 0) := by
      by_cases h1 : findF l f 0 < 0
      · rw [decide_eq_true h1, decide_eq_false (by omega)]; rfl
      · rw [decide_eq_false h1, decide_eq_true (by omega)]; rfl
    rw [e1]
    cases areF l <;> cases decide (findF l f 0 < 0) <;> rfl
  unfold dropF
  cases hok : dropOk l f with
  | false =>
    rw [hok] at hcond
    rw [if_neg (by simp)]
    repeat' first
      | contradiction | exact trivial
      | (conv => whnf
         first | refine Need.mk (fun h => h) ?_ | refine Need.mk rfl ?_ | refine Need.mk ⟨rfl, Nat.le_of_ble_eq_true rfl⟩ ?_ | refine Need.mk (Nat.le_of_ble_eq_true rfl) ?_ | refine Need.fin ?_ | refine Need.mk ?_ ?_ | refine Ix.strsF rfl ?_ | refine Ix.strs rfl ?_ ?_ | refine Cut.strs rfl ?_ ?_ | refine Ix.mapF (fun _ => rfl) ?_ | refine Ix.map (fun _ => rfl) ?_ ?_ | refine Cut.map (fun _ => rfl) ?_ ?_ | refine Fork.yes (by assumption) ?_ | refine Fork.no (by assumption) ?_ | refine Fork.decYes (by omega) ?_ | refine Fork.decNo (by omega) ?_ | refine Fork.dec (fun _ => ?_) (fun _ => ?_) | refine Fork.bne (fun _ => ?_) (fun _ => ?_) | refine Fork.beq (fun _ => ?_) (fun _ => ?_) | refine Fork.seq (fun _ => ?_) (fun _ => ?_) | refine Fork.sne (fun _ => ?_) (fun _ => ?_) | refine Fork.neg (fun _ => ?_) (fun _ => ?_) | refine Fork.mk (fun _ => ?_) (fun _ => ?_) | refine HAlt.mk ?_ ?_ | apply HJoin.mk3 | exact HEnd.mk rfl rfl rfl | refine HEnd.mk ?_ ?_ ?_ | refine Round.mk ?_ | refine NilQ.mk (fun b hb => ?_) | refine forceK_of ?_ | refine forceBx_of ?_ | refine unG_old ?_ | refine unG_gv ?_ | refine Lit.read rfl ?_ | refine FinVal.keep ?_ | refine FinAgg.keep ?_ | refine Final.mk rfl rfl | refine Final.mk ?_ rfl | refine Final.mk ?_ ?_ | refine FinalT.mk ?_ ?_ | refine FinalC.allA ?_ | refine ACall.scalA _ _ (ha) rfl ?_ | refine AQCall.mkA _ _ (fun hg => ha) rfl ?_ | refine AGCall.mkA _ _ (fun hg => ha) rfl ?_ | refine ACall.scalA _ _ (hf) rfl ?_ | refine AQCall.mkA _ _ (fun hg => hf) rfl ?_ | refine AGCall.mkA _ _ (fun hg => hf) rfl ?_ | refine ACall.mkFcts _ _ (hc) (by repeat' first | exact SeesL.nil | refine SeesL.cons ?_ ?_ | exact SeesB.of0 (Sees0.val _) | exact SeesB.of0 (Sees0.str _) | exact SeesB.of0 (Sees0.olds _ _) | exact SeesB.of0 (Sees0.old _) | exact SeesB.of0 (Sees0.oldagg _) | exact SeesB.of0 Sees0.nil | exact Sees0.val _ | exact Sees0.str _ | exact Sees0.olds _ _ | exact Sees0.old _ | exact Sees0.oldagg _ | exact Sees0.nil | exact SeesB.of0 (Sees0.any _) | assumption | exact sees_gv _ _ _ (by assumption) (by first | assumption | exact BoxIn.last _ _ | exact BoxIn.more (BoxIn.last _ _) _) | refine SeesB.agg ?_ | refine Sees0.agg ?_ | exact SeesB.of0 (Sees0.clo SeesL.nil SeesL.nil) | exact Sees0.clo SeesL.nil SeesL.nil | exact SeesB.of0 (Sees0.list rfl) | exact Sees0.list rfl) ?_)
      | refine AV.bool_congr ?_ | refine AV.int_congr ?_ | refine AV.str_congr ?_ | refine AV.list_congr ?_ | with_reducible rfl | refine fr1 ?_ | refine fr2 ?_ ?_
    conv => whnf
    exact ownP_fcts l false
  | true =>
    rw [hok] at hcond
    rw [if_pos rfl]
    obtain ⟨haf, hff⟩ : areF l = true ∧ 0 ≤ findF l f 0 := by
      have h1 := hok
      unfold dropOk at h1
      rw [Bool.and_eq_true, decide_eq_true_eq] at h1
      exact h1
    obtain ⟨i, hi, hfi, hout⟩ := findF_some f l 0 (Int.le_refl _) (Asc.nodup flt_sto (areF_asc haf)) hff
    rw [Int.zero_add] at hfi
    rw [hfi] at hf hcond
    have hln : l.length ≤ 1048576 := by have := tFcts_size l; omega
    have hco := pcopyFacts.own l (by omega)
    repeat' first
      | contradiction | exact trivial
      | (conv => whnf
         first | refine Need.mk (fun h => h) ?_ | refine Need.mk rfl ?_ | refine Need.mk ⟨rfl, Nat.le_of_ble_eq_true rfl⟩ ?_ | refine Need.mk (Nat.le_of_ble_eq_true rfl) ?_ | refine Need.fin ?_ | refine Need.mk ?_ ?_ | refine Ix.strsF rfl ?_ | refine Ix.strs rfl ?_ ?_ | refine Cut.strs rfl ?_ ?_ | refine Ix.mapF (fun _ => rfl) ?_ | refine Ix.map (fun _ => rfl) ?_ ?_ | refine Cut.map (fun _ => rfl) ?_ ?_ | refine Fork.yes (by assumption) ?_ | refine Fork.no (by assumption) ?_ | refine Fork.decYes (by omega) ?_ | refine Fork.decNo (by omega) ?_ | refine Fork.dec (fun _ => ?_) (fun _ => ?_) | refine Fork.bne (fun _ => ?_) (fun _ => ?_) | refine Fork.beq (fun _ => ?_) (fun _ => ?_) | refine Fork.seq (fun _ => ?_) (fun _ => ?_) | refine Fork.sne (fun _ => ?_) (fun _ => ?_) | refine Fork.neg (fun _ => ?_) (fun _ => ?_) | refine Fork.mk (fun _ => ?_) (fun _ => ?_) | refine HAlt.mk ?_ ?_ | apply HJoin.mk3 | exact HEnd.mk rfl rfl rfl | refine HEnd.mk ?_ ?_ ?_ | refine Round.mk ?_ | refine NilQ.mk (fun b hb => ?_) | refine forceK_of ?_ | refine forceBx_of ?_ | refine unG_old ?_ | refine unG_gv ?_ | refine Lit.read rfl ?_ | refine FinVal.keep ?_ | refine FinAgg.keep ?_ | refine Final.mk rfl rfl | refine Final.mk ?_ rfl | refine Final.mk ?_ ?_ | refine FinalT.mk ?_ ?_ | refine FinalC.allA ?_)
      | refine AV.bool_congr ?_ | refine AV.int_congr ?_ | refine AV.str_congr ?_ | refine AV.list_congr ?_ | with_reducible rfl | refine fr1 ?_ | refine fr2 ?_ ?_
    conv => whnf
    refine ACall.unb [.list none (facts l)] (fctsT l) hco (.cons (SeesB.of0 (Sees0.olds _ _)) .nil) ?_
    rw [gv_fctsT, gb_fctsT]
    repeat' first
      | contradiction | exact trivial
      | (conv => whnf
         first | refine Need.mk (fun h => h) ?_ | refine Need.mk rfl ?_ | refine Need.mk ⟨rfl, Nat.le_of_ble_eq_true rfl⟩ ?_ | refine Need.mk (Nat.le_of_ble_eq_true rfl) ?_ | refine Need.fin ?_ | refine Need.mk ?_ ?_ | refine Ix.strsF rfl ?_ | refine Ix.strs rfl ?_ ?_ | refine Cut.strs rfl ?_ ?_ | refine Ix.mapF (fun _ => rfl) ?_ | refine Ix.map (fun _ => rfl) ?_ ?_ | refine Cut.map (fun _ => rfl) ?_ ?_ | refine Fork.yes (by assumption) ?_ | refine Fork.no (by assumption) ?_ | refine Fork.decYes (by omega) ?_ | refine Fork.decNo (by omega) ?_ | refine Fork.dec (fun _ => ?_) (fun _ => ?_) | refine Fork.bne (fun _ => ?_) (fun _ => ?_) | refine Fork.beq (fun _ => ?_) (fun _ => ?_) | refine Fork.seq (fun _ => ?_) (fun _ => ?_) | refine Fork.sne (fun _ => ?_) (fun _ => ?_) | refine Fork.neg (fun _ => ?_) (fun _ => ?_) | refine Fork.mk (fun _ => ?_) (fun _ => ?_) | refine HAlt.mk ?_ ?_ | apply HJoin.mk3 | exact HEnd.mk rfl rfl rfl | refine HEnd.mk ?_ ?_ ?_ | refine Round.mk ?_ | refine NilQ.mk (fun b hb => ?_) | refine forceK_of ?_ | refine forceBx_of ?_ | refine unG_old ?_ | refine unG_gv ?_ | refine Lit.read rfl ?_ | refine FinVal.keep ?_ | refine FinAgg.keep ?_ | refine Final.mk rfl rfl | refine Final.mk ?_ rfl | refine Final.mk ?_ ?_ | refine FinalT.mk ?_ ?_ | refine FinalC.allA ?_ | refine ACall.scalA _ _ (ha) rfl ?_ | refine AQCall.mkA _ _ (fun hg => ha) rfl ?_ | refine AGCall.mkA _ _ (fun hg => ha) rfl ?_ | refine ACall.scalA _ _ (hf) rfl ?_ | refine AQCall.mkA _ _ (fun hg => hf) rfl ?_ | refine AGCall.mkA _ _ (fun hg => hf) rfl ?_)
      | refine AV.bool_congr ?_ | refine AV.int_congr ?_ | refine AV.str_congr ?_ | refine AV.list_congr ?_ | with_reducible rfl | refine fr1 ?_ | refine fr2 ?_ ?_
    conv => whnf
    obtain ⟨ks, hks⟩ : ∃ ks, ks = List.range' 2 l.length := ⟨_, rfl⟩
    have hkl : ks.length = l.length := by rw [hks]; simp
    obtain ⟨B0, hB0⟩ : ∃ B0 : List ABox, B0 = ([.dead] : List ABox) ++ ([.cells (.row 80 2) (factCells l ks)] : List ABox) ++ l.map mbox := ⟨_, rfl⟩
    have hcl : (factCells l ks).length = l.length * 2 := by rw [hks, ← mcells_fact]; exact length_mcells _ _
    have hj : B0[1]? = some (.cells (.row 80 2) (factCells l ks)) := by rw [hB0]; rfl
    have hcx := slDeleteF.ctx B0 1 l.length i (factCells l ks) hj hcl hi
    obtain ⟨kx, hkx⟩ : ∃ kx, kx = ks.eraseIdx i := ⟨_, rfl⟩
    obtain ⟨ys, hys⟩ : ∃ ys, ys = outF f l := ⟨_, rfl⟩
    have hyl : ys.length = l.length - 1 := by rw [hys, hout, List.length_eraseIdx, if_pos hi]
    have hkxl : kx.length = ys.length := by rw [hkx, hyl, List.length_eraseIdx, if_pos (by rw [hkl]; exact hi), hkl]
    have hnd : kx.Nodup := by
      rw [hkx, hks]
      exact (List.nodup_range' (step := 1) (h := by decide)).sublist (List.eraseIdx_sublist _ _)
    have hbx : ∀ (q : Nat) k x, kx[q]? = some k → ys[q]? = some x → (([.cells .var (oldL (tFct.q f))] : List ABox) ++ ([.cells (.row 80 2) (factCells ys kx)] : List ABox) ++ l.map mbox)[k]? = some (mbox x) := by
      have key : ∀ (p : Nat) k x, ks[p]? = some k → l[p]? = some x → (([.cells .var (oldL (tFct.q f))] : List ABox) ++ ([.cells (.row 80 2) (factCells ys kx)] : List ABox) ++ l.map mbox)[k]? = some (mbox x) := by
        intro p k x hk hx
        have hp := getElem?_lt hx
        obtain rfl : k = 2 + p := by rw [hks, List.getElem?_range' hp] at hk; cases hk; omega
        rw [List.getElem?_append_right (by simp), show 2 + p - (([.cells .var (oldL (tFct.q f))] : List ABox) ++ ([.cells (.row 80 2) (factCells ys kx)] : List ABox)).length = p from by show 2 + p - 2 = p; omega, List.getElem?_map, hx]
        rfl
      intro q k x hk hx
      rw [hkx, List.getElem?_eraseIdx] at hk
      rw [hys, hout, List.getElem?_eraseIdx] at hx
      split at hk
      · rename_i hq
        rw [if_pos hq] at hx
        exact key q k x hk hx
      · rename_i hq
        rw [if_neg hq] at hx
        exact key (q + 1) k x hk hx
    have hjx : 1 ∉ kx := fun hm => by
      rw [hkx, hks] at hm
      have := (List.eraseIdx_sublist (List.range' 2 l.length) i).subset hm
      rw [List.mem_range'] at this
      obtain ⟨q, _, hq⟩ := this
      omega
    refine ACall.ctxE (b' := ([.cells .var (oldL (tFct.q f))] : List ABox) ++ ([.cells (.row 80 2) (factCells l ks)] : List ABox) ++ l.map mbox) (vs' := [.bsl 1 l.length, .val (.int .i64 (i : Int)), .val (.int .i64 ((i + 1 : Nat) : Int))]) ?_ ?_ ?_
    · rw [hks, ← mcells_fact]; rfl
    · rw [wrap64 (by omega) (by omega)]; rfl
    refine ACall.ctx rfl B0 _ _ hcx
      (by rw [hB0]; exact Lends.app (Lends.app (.hide _ .nil) (.lend _ _ (noTk_facts _ _) .nil)) (lends_mbox _)) (.cons (.inl ⟨rfl, rfl⟩) (.cons (.inl ⟨rfl, rfl⟩) (.cons (.inl ⟨rfl, rfl⟩) .nil))) ?_
    rintro r b1 ⟨rfl, rfl⟩
    rw [hB0, merge_del, ← factCells_erase l ks i hkl hi, ← hout]
    repeat' first
      | contradiction | exact trivial
      | (conv => whnf
         first | refine Need.mk (fun h => h) ?_ | refine Need.mk rfl ?_ | refine Need.mk ⟨rfl, Nat.le_of_ble_eq_true rfl⟩ ?_ | refine Need.mk (Nat.le_of_ble_eq_true rfl) ?_ | refine Need.fin ?_ | refine Need.mk ?_ ?_ | refine Ix.strsF rfl ?_ | refine Ix.strs rfl ?_ ?_ | refine Cut.strs rfl ?_ ?_ | refine Ix.mapF (fun _ => rfl) ?_ | refine Ix.map (fun _ => rfl) ?_ ?_ | refine Cut.map (fun _ => rfl) ?_ ?_ | refine Fork.yes (by assumption) ?_ | refine Fork.no (by assumption) ?_ | refine Fork.decYes (by omega) ?_ | refine Fork.decNo (by omega) ?_ | refine Fork.dec (fun _ => ?_) (fun _ => ?_) | refine Fork.bne (fun _ => ?_) (fun _ => ?_) | refine Fork.beq (fun _ => ?_) (fun _ => ?_) | refine Fork.seq (fun _ => ?_) (fun _ => ?_) | refine Fork.sne (fun _ => ?_) (fun _ => ?_) | refine Fork.neg (fun _ => ?_) (fun _ => ?_) | refine Fork.mk (fun _ => ?_) (fun _ => ?_) | refine HAlt.mk ?_ ?_ | apply HJoin.mk3 | exact HEnd.mk rfl rfl rfl | refine HEnd.mk ?_ ?_ ?_ | refine Round.mk ?_ | refine NilQ.mk (fun b hb => ?_) | refine forceK_of ?_ | refine forceBx_of ?_ | refine unG_old ?_ | refine unG_gv ?_ | refine Lit.read rfl ?_ | refine FinVal.keep ?_ | refine FinAgg.keep ?_ | refine Final.mk rfl rfl | refine Final.mk ?_ rfl | refine Final.mk ?_ ?_ | refine FinalT.mk ?_ ?_ | refine FinalC.allA ?_)
      | refine AV.bool_congr ?_ | refine AV.int_congr ?_ | refine AV.str_congr ?_ | refine AV.list_congr ?_ | with_reducible rfl | refine fr1 ?_ | refine fr2 ?_ ?_
    conv => whnf
    rw [← hys, ← hkx]
    refine FreezeD.eqs (b' := ([.cells .var (oldL (tFct.q f))] : List ABox) ++ ([.cells (.row 80 2) (factCells ys kx)] : List ABox) ++ l.map mbox) (j' := 1) (n' := l.length - 1) rfl rfl rfl (FreezeD.deep 80 2 (factCells ys kx) rfl ?_)
    refine finL_facts _ ys kx _ _ _ hkxl hnd hbx ⟨?_, ?_⟩
    · rw [kill_get _ _ _ hjx]; rfl
    refine Freeze.mk (tks tFct ys 0) _ 80 2 ?_ rfl (by rw [length_tks, hyl]) (tks_sz tFct ys 0) (tks_nr tFct ys 0) ?_
    · rw [List.getElem?_set, if_pos rfl, if_pos (by rw [kill_len]; simp)]
      rfl
    repeat' first
      | contradiction | exact trivial
      | (conv => whnf
         first | refine Need.mk (fun h => h) ?_ | refine Need.mk rfl ?_ | refine Need.mk ⟨rfl, Nat.le_of_ble_eq_true rfl⟩ ?_ | refine Need.mk (Nat.le_of_ble_eq_true rfl) ?_ | refine Need.fin ?_ | refine Need.mk ?_ ?_ | refine Ix.strsF rfl ?_ | refine Ix.strs rfl ?_ ?_ | refine Cut.strs rfl ?_ ?_ | refine Ix.mapF (fun _ => rfl) ?_ | refine Ix.map (fun _ => rfl) ?_ ?_ | refine Cut.map (fun _ => rfl) ?_ ?_ | refine Fork.yes (by assumption) ?_ | refine Fork.no (by assumption) ?_ | refine Fork.decYes (by omega) ?_ | refine Fork.decNo (by omega) ?_ | refine Fork.dec (fun _ => ?_) (fun _ => ?_) | refine Fork.bne (fun _ => ?_) (fun _ => ?_) | refine Fork.beq (fun _ => ?_) (fun _ => ?_) | refine Fork.seq (fun _ => ?_) (fun _ => ?_) | refine Fork.sne (fun _ => ?_) (fun _ => ?_) | refine Fork.neg (fun _ => ?_) (fun _ => ?_) | refine Fork.mk (fun _ => ?_) (fun _ => ?_) | refine HAlt.mk ?_ ?_ | apply HJoin.mk3 | exact HEnd.mk rfl rfl rfl | refine HEnd.mk ?_ ?_ ?_ | refine Round.mk ?_ | refine NilQ.mk (fun b hb => ?_) | refine forceK_of ?_ | refine forceBx_of ?_ | refine unG_old ?_ | refine unG_gv ?_ | refine Lit.read rfl ?_ | refine FinVal.keep ?_ | refine FinAgg.keep ?_ | refine Final.mk rfl rfl | refine Final.mk ?_ rfl | refine Final.mk ?_ ?_ | refine FinalT.mk ?_ ?_ | refine FinalC.allA ?_)
      | refine AV.bool_congr ?_ | refine AV.int_congr ?_ | refine AV.str_congr ?_ | refine AV.list_congr ?_ | with_reducible rfl | refine fr1 ?_ | refine fr2 ?_ ?_
    conv => whnf
    have hend := ownP_fcts ys true
    rw [show tFcts.fr ys = frs tFct ys ++ [(80, 2, ys.length)] from rfl, hyl, Nat.zero_add] at hend
    exact hend
end Go.Proofs.Ytimcfgokocihnaa
namespace Go.Proofs.Ytimcfgokocihnaa
open Abs
theorem lawExactRemoveFact.ret (a0 : List Fct) (a1 : Fct) (hb0 : tFcts.bd a0) (hb1 : tFct.bd a1) : lawExactRemoveFact.Ret [.list none (rows tFct a0), .agg (oldL (tFct.q a1))] (.val (.bool true)) [] := by
  refine lawExactRemoveFact.of_own a0 a1 hb0 hb1 fun h => ⟨dropF a0 a1, dropOk a0 a1, ?_, sRemoveFact.own a0 a1 h, pRemoveFact.own a0 a1 h⟩
  rw [tFcts_size] at h ⊢
  have h1 := filter_size tFct (fun g => !decide (g = a1)) a0
  have h2 := List.length_filter_le (fun g => !decide (g = a1)) a0
  unfold dropF outF
  split <;> omega
end Go.Proofs.Ytimcfgokocihnaa
namespace Go.Proofs.Ytimcfgokocihnaa
def headSigns : List Nat := [104, 97, 114, 110, 101, 115, 115, 32, 54, 51, 102, 101, 54, 51, 49, 48, 50, 53, 99, 49, 50, 55, 57, 102, 102, 49, 98, 50, 52, 102, 101, 97, 51, 57, 56, 50, 48, 52, 57, 51, 50, 99, 102, 57, 48, 48, 51, 52, 97, 50, 49, 55, 50, 51, 101, 56, 98, 54, 99, 101, 57, 55, 99, 54, 57, 57, 102, 54, 97, 53, 99, 53, 32, 99, 117, 116, 32, 97, 116, 32, 108, 111, 111, 112, 46, 101, 120, 97, 109, 112, 108, 101, 47, 103, 48, 51, 48, 49, 53, 47, 108, 97, 119, 115, 46, 70, 110, 69, 120, 97, 99, 116, 73, 115, 65, 99, 116, 105, 111, 110, 32, 108, 111, 111, 112, 46, 101, 120, 97, 109, 112, 108, 101, 47, 103, 48, 51, 48, 49, 53, 47, 108, 97, 119, 115, 46, 70, 110, 69, 120, 97, 99, 116, 66, 111, 117, 110, 100, 86, 97, 114, 115, 32, 108, 111, 111, 112, 46, 101, 120, 97, 109, 112, 108, 101, 47, 103, 48, 51, 48, 49, 53, 47, 108, 97, 119, 115, 46, 70, 110, 69, 120, 97, 99, 116, 82, 117, 108, 101, 86, 97, 114, 115, 32, 108, 111, 111, 112, 46, 101, 120, 97, 109, 112, 108, 101, 47, 103, 48, 51, 48, 49, 53, 47, 108, 97, 119, 115, 46, 70, 110, 69, 120, 97, 99, 116, 70, 105, 110, 100, 82, 117, 108, 101, 32, 108, 111, 111, 112, 46, 101, 120, 97, 109, 112, 108, 101, 47, 103, 48, 51, 48, 49, 53, 47, 108, 97, 119, 115, 46, 70, 110, 69, 120, 97, 99, 116, 83, 112, 101, 99, 105, 102, 105, 99, 105, 116, 121, 32, 108, 111, 111, 112, 46, 101, 120, 97, 109, 112, 108, 101, 47, 103, 48, 51, 48, 49, 53, 47, 108, 97, 119, 115, 46, 70, 110, 69, 120, 97, 99, 116, 82, 101, 97, 100, 115, 79, 102, 32, 108, 111, 111, 112, 46, 101, 120, 97, 109, 112, 108, 101, 47, 103, 48, 51, 48, 49, 53, 47, 108, 97, 119, 115, 46, 70, 110, 69, 120, 97, 99, 116, 87, 114, 105, 116, 101, 115, 79, 102, 32, 108, 111, 111, 112, 46, 101, 120, 97, 109, 112, 108, 101, 47, 103, 48, 51, 48, 49, 53, 47, 108, 97, 119, 115, 46, 70, 110, 69, 120, 97, 99, 116, 70, 111, 114, 109, 97, 116, 65, 99, 116, 105, 111, 110, 32, 108, 111, 111, 112, 46, 101, 120, 97, 109, 112, 108, 101, 47, 103, 48, 51, 48, 49, 53, 47, 108, 97, 119, 115, 46, 70, 110, 69, 120, 97, 99, 116, 83, 97, 109, 101, 82, 117, 108, 101, 32, 108, 111, 111, 112, 46, 101, 120, 97, 109, 112, 108, 101, 47, 103, 48, 51, 48, 49, 53, 47, 108, 97, 119, 115, 46, 70, 110, 69, 120, 97, 99, 116, 69, 120, 116, 101, 110, 100, 32, 108, 111, 111, 112, 46, 101, 120, 97, 109, 112, 108, 101, 47, 103, 48, 51, 48, 49, 53, 47, 108, 97, 119, 115, 46, 70, 110, 69, 120, 97, 99, 116, 65, 100, 100, 70, 97, 99, 116, 32, 108, 111, 111, 112, 46, 101, 120, 97, 109, 112, 108, 101, 47, 103, 48, 51, 48, 49, 53, 47, 108, 97, 119, 115, 46, 70, 110, 69, 120, 97, 99, 116, 82, 101, 109, 111, 118, 101, 70, 97, 99, 116]
theorem Abs.head : Try.prog.initOrder = String.ofList (headSigns.map Char.ofNat) := by kernel_rfl
theorem Abs.signs : Try.prog.initOrder.toList = headSigns.map Char.ofNat := by rw [Abs.head, String.toList_ofList]
def headWords : List (List Nat) := [[99, 117, 116], [97, 116], [108, 111, 111, 112, 46, 101, 120, 97, 109, 112, 108, 101, 47, 103, 48, 51, 48, 49, 53, 47, 108, 97, 119, 115, 46, 70, 110, 69, 120, 97, 99, 116, 73, 115, 65, 99, 116, 105, 111, 110], [108, 111, 111, 112, 46, 101, 120, 97, 109, 112, 108, 101, 47, 103, 48, 51, 48, 49, 53, 47, 108, 97, 119, 115, 46, 70, 110, 69, 120, 97, 99, 116, 66, 111, 117, 110, 100, 86, 97, 114, 115], [108, 111, 111, 112, 46, 101, 120, 97, 109, 112, 108, 101, 47, 103, 48, 51, 48, 49, 53, 47, 108, 97, 119, 115, 46, 70, 110, 69, 120, 97, 99, 116, 82, 117, 108, 101, 86, 97, 114, 115], [108, 111, 111, 112, 46, 101, 120, 97, 109, 112, 108, 101, 47, 103, 48, 51, 48, 49, 53, 47, 108, 97, 119, 115, 46, 70, 110, 69, 120, 97, 99, 116, 70, 105, 110, 100, 82, 117, 108, 101], [108, 111, 111, 112, 46, 101, 120, 97, 109, 112, 108, 101, 47, 103, 48, 51, 48, 49, 53, 47, 108, 97, 119, 115, 46, 70, 110, 69, 120, 97, 99, 116, 83, 112, 101, 99, 105, 102, 105, 99, 105, 116, 121], [108, 111, 111, 112, 46, 101, 120, 97, 109, 112, 108, 101, 47, 103, 48, 51, 48, 49, 53, 47, 108, 97, 119, 115, 46, 70, 110, 69, 120, 97, 99, 116, 82, 101, 97, 100, 115, 79, 102], [108, 111, 111, 112, 46, 101, 120, 97, 109, 112, 108, 101, 47, 103, 48, 51, 48, 49, 53, 47, 108, 97, 119, 115, 46, 70, 110, 69, 120, 97, 99, 116, 87, 114, 105, 116, 101, 115, 79, 102], [108, 111, 111, 112, 46, 101, 120, 97, 109, 112, 108, 101, 47, 103, 48, 51, 48, 49, 53, 47, 108, 97, 119, 115, 46, 70, 110, 69, 120, 97, 99, 116, 70, 111, 114, 109, 97, 116, 65, 99, 116, 105, 111, 110], [108, 111, 111, 112, 46, 101, 120, 97, 109, 112, 108, 101, 47, 103, 48, 51, 48, 49, 53, 47, 108, 97, 119, 115, 46, 70, 110, 69, 120, 97, 99, 116, 83, 97, 109, 101, 82, 117, 108, 101], [108, 111, 111, 112, 46, 101, 120, 97, 109, 112, 108, 101, 47, 103, 48, 51, 48, 49, 53, 47, 108, 97, 119, 115, 46, 70, 110, 69, 120, 97, 99, 116, 69, 120, 116, 101, 110, 100], [108, 111, 111, 112, 46, 101, 120, 97, 109, 112, 108, 101, 47, 103, 48, 51, 48, 49, 53, 47, 108, 97, 119, 115, 46, 70, 110, 69, 120, 97, 99, 116, 65, 100, 100, 70, 97, 99, 116], [108, 111, 111, 112, 46, 101, 120, 97, 109, 112, 108, 101, 47, 103, 48, 51, 48, 49, 53, 47, 108, 97, 119, 115, 46, 70, 110, 69, 120, 97, 99, 116, 82, 101, 109, 111, 118, 101, 70, 97, 99, 116]]
theorem Abs.words : behindMainWord (wordsSigns (headSigns.map Char.ofNat)) = headWords.map fun w => w.map Char.ofNat := by kernel_rfl
theorem Abs.heads : behindMainWord (wordsSigns Try.prog.initOrder.toList) = headWords.map fun w => w.map Char.ofNat := by rw [Abs.signs, Abs.words]
theorem enters_gen (P : Program) (h : behindMainWord (wordsSigns P.initOrder.toList) = headWords.map fun w => w.map Char.ofNat) (h1 : P.laysLater = false) (h2 : P.bearsReflect = false) (h3 : P.doorFits [] = true) : P.mayEnter = true := by
  have h4 : stripLifts liftWords (headWords.map fun w => w.map Char.ofNat) = ([], headWords.map fun w => w.map Char.ofNat) := by kernel_rfl
  have h5 : (headWords.map fun w => w.map Char.ofNat) = (headWords.headD []).map Char.ofNat :: (headWords.tail.map fun w => w.map Char.ofNat) := rfl
  unfold Program.mayEnter
  rw [h, h1, h2, h5]
  simp only []
  rw [← h5, h4]
  simp only []
  rw [h3]
  rfl
theorem final_gen (P : Program) (h : behindMainWord (wordsSigns P.initOrder.toList) = headWords.map fun w => w.map Char.ofNat) : P.liftsFinal = false := by
  unfold Program.liftsFinal Program.headLifts
  rw [h]
  kernel_rfl
theorem made_gen (P : Program) (h : behindMainWord (wordsSigns P.initOrder.toList) = headWords.map fun w => w.map Char.ofNat) : P.make = some .cut := by
  unfold Program.make
  rw [h]
  rfl
theorem Abs.enters : Try.prog.mayEnter = true := enters_gen _ Abs.heads (by kernel_rfl) (by kernel_rfl) (by kernel_rfl)
theorem Abs.final : Try.prog.liftsFinal = false := final_gen _ Abs.heads
theorem Abs.made : Try.prog.make = some .cut := made_gen _ Abs.heads
theorem Abs.rowed : mapsRowed Try.prog = true := by kernel_rfl
theorem Abs.laidOut : laidOutB Try.prog = true := by kernel_rfl
/-- the closed facts of a row, without what is known already -/
def joinedLess (P : Program) (f : FuncId) (fn : Func) (s : ChangeSpec) (c : OpenClaim) (h1 : P.mayEnter = true) (h2 : P.liftsFinal = false) (h3 : P.make = some .cut) (h4 : mapsRowed P = true) (h5 : laidOutB P = true) : {b : Bool // joinedFacts P f fn s c = b} := by
  refine ⟨?b, ?h⟩
  case h =>
    unfold joinedFacts
    rw [h1, h2, h3, h4, h5]
theorem Abs.closed {f : FuncId} {fn : Func} {s : ChangeSpec} {c : OpenClaim} (h : (joinedLess Try.prog f fn s c Abs.enters Abs.final Abs.made Abs.rowed Abs.laidOut).1 = true) : joinedFacts Try.prog f fn s c = true :=
  (joinedLess Try.prog f fn s c Abs.enters Abs.final Abs.made Abs.rowed Abs.laidOut).2.trans h
end Go.Proofs.Ytimcfgokocihnaa
namespace Go.Proofs.Ytimcfgokocihnaa
namespace Abs
variable {mo : Bool}
open Go.ChangeShapes Go.WideShapes Go.ChangeAt Go.RowKit
section
variable {H : Type} {enc : TypeId × Value → H} {P : Program}
theorem trodAll_stays {base : Nat} (hl : laidOutB P = true) {W W' : World} {sp' : Nat → Bool} : ∀ {ts : List TypeId} {vs : List Value} {ds : List (DataW H)} {ps : List MemPlace},
    (∀ t ∈ ts, P.readableRec t = true ∧ t < P.types.size) → DataW.TrodAll enc P W base (fun _ => true) true ts vs ds ps → (∀ p ∈ ps, W.sameAt W' p) → (∀ p ∈ ps, sp' p.block = true) →
    DataW.TrodAll enc P W' base sp' true ts vs ds ps
  | [], [], [], _, _, h, _, _ => h
  | t :: ts, v :: vs, d :: ds, _, ht, h, hs, hp => by
    obtain ⟨p, q, h1, h2, rfl⟩ := h
    exact ⟨p, q, WideElems.Trod_stays hl (ht t (by simp)).1 (ht t (by simp)).2 h1 (fun x hx => hs x (by simp [hx])) (fun x hx => hp x (by simp [hx])),
      trodAll_stays hl (fun t h => ht t (by simp [h])) h2 (fun x hx => hs x (by simp [hx])) (fun x hx => hp x (by simp [hx])), rfl⟩
/-- a law that says yes, and leaves what was there alone -/
theorem law_post {f : Func} {s : ChangeSpec} {apart fresh handsOn again : Bool} {W W' : World} {args : Array Value} {ds gs : List (DataW H)} {before : List MemPlace} {tb : TypeId}
    (hl : laidOutB P = true) (hv : s.vars = []) (hp : ∀ t ∈ f.params.toList, P.readableRec t = true ∧ t < P.types.size) (hr : f.resultTypes = #[tb]) (htb : P.underlying tb = some .bool)
    (hW : DataW.Whole enc P f.params.toList s.vars apart W args.toList ds gs before) (hb : Bel mo W.heap.size W W')
    (hfn : s.fn H (ds ++ gs) = { results := [.lit (.bool true)], args := ds }) : s.post enc P f apart fresh handsOn again W args (.bool true) W' := by
  have hlt : ∀ p ∈ before, p.block < W.heap.size := fun p hp => hW.lt p hp
  have hW' := hW
  obtain ⟨p, q, hA, hV, hpq, hz, hn⟩ := hW
  rw [hv] at hV
  obtain ⟨hg, hq⟩ : gs = [] ∧ q = [] := trodVars_none hV
  subst hg; subst hq
  simp only [List.append_nil] at hpq hfn hz hn
  subst hpq
  have hargs : ∀ sp : Nat → Bool, (∀ x ∈ before, sp x.block = true) → DataW.TrodAll enc P W' 0 sp true f.params.toList args.toList ds before :=
    fun sp hsp => trodAll_stays hl hp hA (fun x hx => hb.same (hlt x hx)) hsp
  have hres : ∀ (b : Nat) (sp : Nat → Bool) (hd : Bool), DataW.TrodAll enc P W' b sp hd f.resultTypes.toList ((Value.bool true).resultList f.resultTypes.size) [.lit (.bool true)] [] := fun b sp hd => by
    rw [hr]
    exact trodAll_mk1 (shut_bool htb true)
  have hvars : ∀ sp : Nat → Bool, DataW.TrodVars enc P W' sp s.vars [] [] := fun sp => by rw [hv]; rfl
  have hfn' : s.fn H (ds ++ []) = { results := [.lit (.bool true)], args := ds } := by rw [List.append_nil]; exact hfn
  refine ⟨ds, [], before, [], before, [], hW', by rw [hfn']; exact hres _ _ _, by rw [hfn']; exact hargs _ (fun x hx => by simpa using hlt x hx), by rw [hfn']; exact hvars _, hb.frame _, fun _ => ?_⟩
  refine ⟨ok_one hr rfl (okWide_bool_mk htb true), _, _, ([] ++ before) ++ [], ⟨[] ++ before, [], trodAll_append (hargs _ (fun _ _ => rfl)) (hres _ _ _), hvars _, rfl, ?_, ?_⟩, ?_⟩
  · intro b off hp'
    have hm : MemPlace.cell b off ∈ before := by simpa using hp'
    rw [hb.frozen (hlt _ hm)]
    exact hz b off hm
  · intro ha
    simpa using hn ha
  · intro x hx _
    simpa using hx
end
/-- the call's own result -/
theorem law_ret {P : Program} {fid : Nat} {avs : List AV} {args : Array Value} {W : World} (h : Ret mo P fid avs (.val (.bool true)) []) (hB : Both (Rep W.heap.size W (allF W) [] [] []) avs args.toList) :
    Calls P fid args W fun e w' => e = .returned (.bool true) ∧ Bel mo W.heap.size W w' := by
  rw [Ret_eq] at h
  obtain ⟨_, hR⟩ := h
  refine (hR W (allF W) args (fun b hb => allF_out W b hb) hB).mono ?_
  rintro e W' ⟨v, F', tok, box, rfl, hb, _, _, _, _, _, hrep⟩
  cases hrep
  exact ⟨rfl, hb⟩
theorem both_nil {R : AV → Value → Prop} : Both R [] [] := ⟨rfl, by simp⟩
end Abs
theorem Abs.own : ownKnob Try.prog.godebug = none := by kernel_rfl
end Go.Proofs.Ytimcfgokocihnaa
