/-
  Chapter 2: laws of facts whose answers are plain.
-/
import Derived.Test.YtamcaplpgmloiaaC12
namespace Go.Proofs.Ytamcaplpgmloiaa
open Abs

theorem left_ok {a : Int} {n : Nat} (h : ¬ left a n < 0) : (n : Int) ≤ a ∧ left a n = a - n := by
  unfold left at h ⊢
  split at h
  · omega
  · exact ⟨by omega, if_neg ‹_›⟩
theorem lawExactIsFact.ret (f : Fct) (hb : tFct.bd f) : lawExactIsFact.Ret [.agg (oldL (tFct.q f))] (.val (.bool true)) [] := by
  refine lawExactIsFact.ofS rfl rfl ?_
  repeat' first
    | contradiction
    | (conv => whnf
       first
         | refine Need.mk (fun h => h) ?_
         | refine Need.mk rfl ?_
         | refine Need.mk ⟨rfl, Nat.le_of_ble_eq_true rfl⟩ ?_
         | refine Need.mk (Nat.le_of_ble_eq_true rfl) ?_
         | refine Need.mk (by intros; (try simp only [length_strs] at *); (try simp only [length_rows] at *); (try simp only [length_oldLL, List.length_map] at *); (try simp only [Bool.and_eq_true, decide_eq_true_eq] at *); omega) ?_
         | refine Need.mk ?_ ?_
         | refine Ix.strs rfl (by intros; (try simp only [length_strs] at *); (try simp only [length_rows] at *); (try simp only [length_oldLL, List.length_map] at *); (try simp only [Bool.and_eq_true, decide_eq_true_eq] at *); omega) ?_
         | refine Ix.strs rfl ?_ ?_
         | refine Cut.strs rfl ?_ ?_
         | refine Ix.map (fun _ => rfl) (by intros; (try simp only [length_strs] at *); (try simp only [length_rows] at *); (try simp only [length_oldLL, List.length_map] at *); (try simp only [Bool.and_eq_true, decide_eq_true_eq] at *); omega) ?_
         | refine Ix.map (fun _ => rfl) ?_ ?_
         | refine Cut.map (fun _ => rfl) ?_ ?_
         | refine Fork.yes (by assumption) ?_
         | refine Fork.no (by assumption) ?_
         | refine Fork.decYes (by omega) ?_
         | refine Fork.decNo (by omega) ?_
         | refine Fork.dec (fun _ => ?_) (fun _ => ?_)
         | refine Fork.bne (fun _ => ?_) (fun _ => ?_)
         | refine Fork.beq (fun _ => ?_) (fun _ => ?_)
         | refine Fork.seq (fun _ => ?_) (fun _ => ?_)
         | refine Fork.sne (fun _ => ?_) (fun _ => ?_)
         | refine Fork.neg (fun _ => ?_) (fun _ => ?_)
         | refine Fork.mk (fun _ => ?_) (fun _ => ?_)
         | refine Round.mk ?_
         | refine forceK_of ?_
         | refine forceBx_of ?_
         | refine unG_old ?_
         | refine unG_gv ?_
         | refine FinAgg.keep ?_
         | refine Final.mk rfl rfl
         | refine Final.mk ?_ rfl
         | refine Final.mk ?_ ?_
         | refine FinalT.mk ?_ ?_
         | refine ACall.scal _ _ (szFact.ret _ _ ?_ ?_ ?_) rfl (by repeat' first | exact SeesL.nil | refine SeesL.cons ?_ ?_ | exact SeesB.of0 (Sees0.val _) | exact SeesB.of0 (Sees0.str _) | exact SeesB.of0 (Sees0.olds _ _) | exact SeesB.of0 (Sees0.old _) | exact SeesB.of0 (Sees0.oldagg _) | exact SeesB.of0 Sees0.nil | exact Sees0.val _ | exact Sees0.str _ | exact Sees0.olds _ _ | exact Sees0.old _ | exact Sees0.oldagg _ | exact Sees0.nil | exact SeesB.of0 (Sees0.any _) | refine SeesB.agg ?_ | refine Sees0.agg ?_ | exact SeesB.of0 (Sees0.clo SeesL.nil SeesL.nil) | exact Sees0.clo SeesL.nil SeesL.nil) ?_
         | refine AQCall.mk _ _ (fun hg => szFact.ret _ _ ?_ ?_ ?_) rfl (fun _ => (by repeat' first | exact SeesL.nil | refine SeesL.cons ?_ ?_ | exact SeesB.of0 (Sees0.val _) | exact SeesB.of0 (Sees0.str _) | exact SeesB.of0 (Sees0.olds _ _) | exact SeesB.of0 (Sees0.old _) | exact SeesB.of0 (Sees0.oldagg _) | exact SeesB.of0 Sees0.nil | exact Sees0.val _ | exact Sees0.str _ | exact Sees0.olds _ _ | exact Sees0.old _ | exact Sees0.oldagg _ | exact Sees0.nil | exact SeesB.of0 (Sees0.any _) | refine SeesB.agg ?_ | refine Sees0.agg ?_ | exact SeesB.of0 (Sees0.clo SeesL.nil SeesL.nil) | exact Sees0.clo SeesL.nil SeesL.nil)) ?_)
    | refine AV.bool_congr ?_
    | refine AV.int_congr ?_
    | refine AV.str_congr ?_
    | refine AV.list_congr ?_
    | with_reducible rfl
    | refine fr1 ?_
    | refine fr2 ?_ ?_
  · omega
  · omega
  · exact hb
  rename_i hl
  have hz := (left_ok hl).1
  repeat' first
    | contradiction
    | (conv => whnf
       first
         | refine Need.mk (fun h => h) ?_
         | refine Need.mk rfl ?_
         | refine Need.mk ⟨rfl, Nat.le_of_ble_eq_true rfl⟩ ?_
         | refine Need.mk (Nat.le_of_ble_eq_true rfl) ?_
         | refine Need.mk (by intros; (try simp only [] at *); (try simp only [] at *); (try simp only [] at *); (try simp only [decide_eq_true_eq] at *); omega) ?_
         | refine Need.mk ?_ ?_
         | refine Ix.strs rfl (by intros; (try simp only [] at *); (try simp only [] at *); (try simp only [] at *); (try simp only [decide_eq_true_eq] at *); omega) ?_
         | refine Ix.strs rfl ?_ ?_
         | refine Cut.strs rfl ?_ ?_
         | refine Ix.map (fun _ => rfl) (by intros; (try simp only [] at *); (try simp only [] at *); (try simp only [] at *); (try simp only [decide_eq_true_eq] at *); omega) ?_
         | refine Ix.map (fun _ => rfl) ?_ ?_
         | refine Cut.map (fun _ => rfl) ?_ ?_
         | refine Fork.yes (by assumption) ?_
         | refine Fork.no (by assumption) ?_
         | refine Fork.decYes (by omega) ?_
         | refine Fork.decNo (by omega) ?_
         | refine Fork.dec (fun _ => ?_) (fun _ => ?_)
         | refine Fork.bne (fun _ => ?_) (fun _ => ?_)
         | refine Fork.beq (fun _ => ?_) (fun _ => ?_)
         | refine Fork.seq (fun _ => ?_) (fun _ => ?_)
         | refine Fork.sne (fun _ => ?_) (fun _ => ?_)
         | refine Fork.neg (fun _ => ?_) (fun _ => ?_)
         | refine Fork.mk (fun _ => ?_) (fun _ => ?_)
         | refine Round.mk ?_
         | refine forceK_of ?_
         | refine forceBx_of ?_
         | refine unG_old ?_
         | refine unG_gv ?_
         | refine FinAgg.keep ?_
         | refine Final.mk rfl rfl
         | refine Final.mk ?_ rfl
         | refine Final.mk ?_ ?_
         | refine FinalT.mk ?_ ?_
         | refine ACall.old _ _ (toFact.own _ ?_) (by repeat' first | exact SeesL.nil | refine SeesL.cons ?_ ?_ | exact SeesB.of0 (Sees0.val _) | exact SeesB.of0 (Sees0.str _) | exact SeesB.of0 (Sees0.olds _ _) | exact SeesB.of0 (Sees0.old _) | exact SeesB.of0 (Sees0.oldagg _) | exact SeesB.of0 Sees0.nil | exact Sees0.val _ | exact Sees0.str _ | exact Sees0.olds _ _ | exact Sees0.old _ | exact Sees0.oldagg _ | exact Sees0.nil | exact SeesB.of0 (Sees0.any _) | refine SeesB.agg ?_ | refine Sees0.agg ?_ | exact SeesB.of0 (Sees0.clo SeesL.nil SeesL.nil) | exact Sees0.clo SeesL.nil SeesL.nil) (by first | exact Ty.hok _ _ | exact ok_list _ _ _ | (simp [okT, okTL, ok_list, Ty.hok]; done)) ?_
         | refine ACall.scal _ _ (sIsFact.ret _ ?_) rfl (by repeat' first | exact SeesL.nil | refine SeesL.cons ?_ ?_ | exact SeesB.of0 (Sees0.val _) | exact SeesB.of0 (Sees0.str _) | exact SeesB.of0 (Sees0.olds _ _) | exact SeesB.of0 (Sees0.old _) | exact SeesB.of0 (Sees0.oldagg _) | exact SeesB.of0 Sees0.nil | exact Sees0.val _ | exact Sees0.str _ | exact Sees0.olds _ _ | exact Sees0.old _ | exact Sees0.oldagg _ | exact Sees0.nil | exact SeesB.of0 (Sees0.any _) | refine SeesB.agg ?_ | refine Sees0.agg ?_ | exact SeesB.of0 (Sees0.clo SeesL.nil SeesL.nil) | exact Sees0.clo SeesL.nil SeesL.nil) ?_
         | refine AQCall.mk _ _ (fun hg => sIsFact.ret _ ?_) rfl (fun _ => (by repeat' first | exact SeesL.nil | refine SeesL.cons ?_ ?_ | exact SeesB.of0 (Sees0.val _) | exact SeesB.of0 (Sees0.str _) | exact SeesB.of0 (Sees0.olds _ _) | exact SeesB.of0 (Sees0.old _) | exact SeesB.of0 (Sees0.oldagg _) | exact SeesB.of0 Sees0.nil | exact Sees0.val _ | exact Sees0.str _ | exact Sees0.olds _ _ | exact Sees0.old _ | exact Sees0.oldagg _ | exact Sees0.nil | exact SeesB.of0 (Sees0.any _) | refine SeesB.agg ?_ | refine Sees0.agg ?_ | exact SeesB.of0 (Sees0.clo SeesL.nil SeesL.nil) | exact Sees0.clo SeesL.nil SeesL.nil)) ?_
         | refine ACall.scal _ _ (pIsFact.ret _ ?_) rfl (by repeat' first | exact SeesL.nil | refine SeesL.cons ?_ ?_ | exact SeesB.of0 (Sees0.val _) | exact SeesB.of0 (Sees0.str _) | exact SeesB.of0 (Sees0.olds _ _) | exact SeesB.of0 (Sees0.old _) | exact SeesB.of0 (Sees0.oldagg _) | exact SeesB.of0 Sees0.nil | exact Sees0.val _ | exact Sees0.str _ | exact Sees0.olds _ _ | exact Sees0.old _ | exact Sees0.oldagg _ | exact Sees0.nil | exact SeesB.of0 (Sees0.any _) | refine SeesB.agg ?_ | refine Sees0.agg ?_ | exact SeesB.of0 (Sees0.clo SeesL.nil SeesL.nil) | exact Sees0.clo SeesL.nil SeesL.nil) ?_
         | refine AQCall.mk _ _ (fun hg => pIsFact.ret _ ?_) rfl (fun _ => (by repeat' first | exact SeesL.nil | refine SeesL.cons ?_ ?_ | exact SeesB.of0 (Sees0.val _) | exact SeesB.of0 (Sees0.str _) | exact SeesB.of0 (Sees0.olds _ _) | exact SeesB.of0 (Sees0.old _) | exact SeesB.of0 (Sees0.oldagg _) | exact SeesB.of0 Sees0.nil | exact Sees0.val _ | exact Sees0.str _ | exact Sees0.olds _ _ | exact Sees0.old _ | exact Sees0.oldagg _ | exact Sees0.nil | exact SeesB.of0 (Sees0.any _) | refine SeesB.agg ?_ | refine Sees0.agg ?_ | exact SeesB.of0 (Sees0.clo SeesL.nil SeesL.nil) | exact Sees0.clo SeesL.nil SeesL.nil)) ?_
         | refine ACall.scal _ _ (eqFact.ret _ _ ?_) rfl (by repeat' first | exact SeesL.nil | refine SeesL.cons ?_ ?_ | exact SeesB.of0 (Sees0.val _) | exact SeesB.of0 (Sees0.str _) | exact SeesB.of0 (Sees0.olds _ _) | exact SeesB.of0 (Sees0.old _) | exact SeesB.of0 (Sees0.oldagg _) | exact SeesB.of0 Sees0.nil | exact Sees0.val _ | exact Sees0.str _ | exact Sees0.olds _ _ | exact Sees0.old _ | exact Sees0.oldagg _ | exact Sees0.nil | exact SeesB.of0 (Sees0.any _) | refine SeesB.agg ?_ | refine Sees0.agg ?_ | exact SeesB.of0 (Sees0.clo SeesL.nil SeesL.nil) | exact Sees0.clo SeesL.nil SeesL.nil) ?_
         | refine AQCall.mk _ _ (fun hg => eqFact.ret _ _ ?_) rfl (fun _ => (by repeat' first | exact SeesL.nil | refine SeesL.cons ?_ ?_ | exact SeesB.of0 (Sees0.val _) | exact SeesB.of0 (Sees0.str _) | exact SeesB.of0 (Sees0.olds _ _) | exact SeesB.of0 (Sees0.old _) | exact SeesB.of0 (Sees0.oldagg _) | exact SeesB.of0 Sees0.nil | exact Sees0.val _ | exact Sees0.str _ | exact Sees0.olds _ _ | exact Sees0.old _ | exact Sees0.oldagg _ | exact Sees0.nil | exact SeesB.of0 (Sees0.any _) | refine SeesB.agg ?_ | refine Sees0.agg ?_ | exact SeesB.of0 (Sees0.clo SeesL.nil SeesL.nil) | exact Sees0.clo SeesL.nil SeesL.nil)) ?_)
    | refine AV.bool_congr ?_
    | refine AV.int_congr ?_
    | refine AV.str_congr ?_
    | refine AV.list_congr ?_
    | with_reducible rfl
    | refine fr1 ?_
    | refine fr2 ?_ ?_
  all_goals first
    | exact hz
    | exact hz2
    | omega
    | contradiction
    | (rename_i h; simp at h; done)
    | (rename_i h h'; simp at h; done)
theorem lawExactCompareFacts.ret (f g : Fct) (hb : tFct.bd f) (hb2 : tFct.bd g) : lawExactCompareFacts.Ret [.agg (oldL (tFct.q f)), .agg (oldL (tFct.q g))] (.val (.bool true)) [] := by
  refine lawExactCompareFacts.ofS rfl rfl ?_
  repeat' first
    | contradiction
    | (conv => whnf
       first
         | refine Need.mk (fun h => h) ?_
         | refine Need.mk rfl ?_
         | refine Need.mk ⟨rfl, Nat.le_of_ble_eq_true rfl⟩ ?_
         | refine Need.mk (Nat.le_of_ble_eq_true rfl) ?_
         | refine Need.mk (by intros; (try simp only [length_strs] at *); (try simp only [length_rows] at *); (try simp only [length_oldLL, List.length_map] at *); (try simp only [Bool.and_eq_true, decide_eq_true_eq] at *); omega) ?_
         | refine Need.mk ?_ ?_
         | refine Ix.strs rfl (by intros; (try simp only [length_strs] at *); (try simp only [length_rows] at *); (try simp only [length_oldLL, List.length_map] at *); (try simp only [Bool.and_eq_true, decide_eq_true_eq] at *); omega) ?_
         | refine Ix.strs rfl ?_ ?_
         | refine Cut.strs rfl ?_ ?_
         | refine Ix.map (fun _ => rfl) (by intros; (try simp only [length_strs] at *); (try simp only [length_rows] at *); (try simp only [length_oldLL, List.length_map] at *); (try simp only [Bool.and_eq_true, decide_eq_true_eq] at *); omega) ?_
         | refine Ix.map (fun _ => rfl) ?_ ?_
         | refine Cut.map (fun _ => rfl) ?_ ?_
         | refine Fork.yes (by assumption) ?_
         | refine Fork.no (by assumption) ?_
         | refine Fork.decYes (by omega) ?_
         | refine Fork.decNo (by omega) ?_
         | refine Fork.dec (fun _ => ?_) (fun _ => ?_)
         | refine Fork.bne (fun _ => ?_) (fun _ => ?_)
         | refine Fork.beq (fun _ => ?_) (fun _ => ?_)
         | refine Fork.seq (fun _ => ?_) (fun _ => ?_)
         | refine Fork.sne (fun _ => ?_) (fun _ => ?_)
         | refine Fork.neg (fun _ => ?_) (fun _ => ?_)
         | refine Fork.mk (fun _ => ?_) (fun _ => ?_)
         | refine Round.mk ?_
         | refine forceK_of ?_
         | refine forceBx_of ?_
         | refine unG_old ?_
         | refine unG_gv ?_
         | refine FinAgg.keep ?_
         | refine Final.mk rfl rfl
         | refine Final.mk ?_ rfl
         | refine Final.mk ?_ ?_
         | refine FinalT.mk ?_ ?_
         | refine ACall.scal _ _ (szFact.ret _ _ ?_ ?_ ?_) rfl (by repeat' first | exact SeesL.nil | refine SeesL.cons ?_ ?_ | exact SeesB.of0 (Sees0.val _) | exact SeesB.of0 (Sees0.str _) | exact SeesB.of0 (Sees0.olds _ _) | exact SeesB.of0 (Sees0.old _) | exact SeesB.of0 (Sees0.oldagg _) | exact SeesB.of0 Sees0.nil | exact Sees0.val _ | exact Sees0.str _ | exact Sees0.olds _ _ | exact Sees0.old _ | exact Sees0.oldagg _ | exact Sees0.nil | exact SeesB.of0 (Sees0.any _) | refine SeesB.agg ?_ | refine Sees0.agg ?_ | exact SeesB.of0 (Sees0.clo SeesL.nil SeesL.nil) | exact Sees0.clo SeesL.nil SeesL.nil) ?_
         | refine AQCall.mk _ _ (fun hg => szFact.ret _ _ ?_ ?_ ?_) rfl (fun _ => (by repeat' first | exact SeesL.nil | refine SeesL.cons ?_ ?_ | exact SeesB.of0 (Sees0.val _) | exact SeesB.of0 (Sees0.str _) | exact SeesB.of0 (Sees0.olds _ _) | exact SeesB.of0 (Sees0.old _) | exact SeesB.of0 (Sees0.oldagg _) | exact SeesB.of0 Sees0.nil | exact Sees0.val _ | exact Sees0.str _ | exact Sees0.olds _ _ | exact Sees0.old _ | exact Sees0.oldagg _ | exact Sees0.nil | exact SeesB.of0 (Sees0.any _) | refine SeesB.agg ?_ | refine Sees0.agg ?_ | exact SeesB.of0 (Sees0.clo SeesL.nil SeesL.nil) | exact Sees0.clo SeesL.nil SeesL.nil)) ?_)
    | refine AV.bool_congr ?_
    | refine AV.int_congr ?_
    | refine AV.str_congr ?_
    | refine AV.list_congr ?_
    | with_reducible rfl
    | refine fr1 ?_
    | refine fr2 ?_ ?_
  · omega
  · omega
  · exact hb
  · rename_i hl; omega
  · rename_i hl; rw [(left_ok hl).2]; omega
  · exact hb2
  rename_i hl hl2
  have hz := (left_ok hl).1
  have hz2 := (left_ok hl2).1
  rw [(left_ok hl).2] at hz2
  repeat' first
    | contradiction
    | (conv => whnf
       first
         | refine Need.mk (fun h => h) ?_
         | refine Need.mk rfl ?_
         | refine Need.mk ⟨rfl, Nat.le_of_ble_eq_true rfl⟩ ?_
         | refine Need.mk (Nat.le_of_ble_eq_true rfl) ?_
         | refine Need.mk (by intros; (try simp only [] at *); (try simp only [] at *); (try simp only [] at *); (try simp only [decide_eq_true_eq] at *); omega) ?_
         | refine Need.mk ?_ ?_
         | refine Ix.strs rfl (by intros; (try simp only [] at *); (try simp only [] at *); (try simp only [] at *); (try simp only [decide_eq_true_eq] at *); omega) ?_
         | refine Ix.strs rfl ?_ ?_
         | refine Cut.strs rfl ?_ ?_
         | refine Ix.map (fun _ => rfl) (by intros; (try simp only [] at *); (try simp only [] at *); (try simp only [] at *); (try simp only [decide_eq_true_eq] at *); omega) ?_
         | refine Ix.map (fun _ => rfl) ?_ ?_
         | refine Cut.map (fun _ => rfl) ?_ ?_
         | refine Fork.yes (by assumption) ?_
         | refine Fork.no (by assumption) ?_
         | refine Fork.decYes (by omega) ?_
         | refine Fork.decNo (by omega) ?_
         | refine Fork.dec (fun _ => ?_) (fun _ => ?_)
         | refine Fork.bne (fun _ => ?_) (fun _ => ?_)
         | refine Fork.beq (fun _ => ?_) (fun _ => ?_)
         | refine Fork.seq (fun _ => ?_) (fun _ => ?_)
         | refine Fork.sne (fun _ => ?_) (fun _ => ?_)
         | refine Fork.neg (fun _ => ?_) (fun _ => ?_)
         | refine Fork.mk (fun _ => ?_) (fun _ => ?_)
         | refine Round.mk ?_
         | refine forceK_of ?_
         | refine forceBx_of ?_
         | refine unG_old ?_
         | refine unG_gv ?_
         | refine FinAgg.keep ?_
         | refine Final.mk rfl rfl
         | refine Final.mk ?_ rfl
         | refine Final.mk ?_ ?_
         | refine FinalT.mk ?_ ?_
         | refine ACall.old _ _ (toFact.own _ ?_) (by repeat' first | exact SeesL.nil | refine SeesL.cons ?_ ?_ | exact SeesB.of0 (Sees0.val _) | exact SeesB.of0 (Sees0.str _) | exact SeesB.of0 (Sees0.olds _ _) | exact SeesB.of0 (Sees0.old _) | exact SeesB.of0 (Sees0.oldagg _) | exact SeesB.of0 Sees0.nil | exact Sees0.val _ | exact Sees0.str _ | exact Sees0.olds _ _ | exact Sees0.old _ | exact Sees0.oldagg _ | exact Sees0.nil | exact SeesB.of0 (Sees0.any _) | refine SeesB.agg ?_ | refine Sees0.agg ?_ | exact SeesB.of0 (Sees0.clo SeesL.nil SeesL.nil) | exact Sees0.clo SeesL.nil SeesL.nil) (by first | exact Ty.hok _ _ | exact ok_list _ _ _ | (simp [okT, okTL, ok_list, Ty.hok]; done)) ?_
         | refine ACall.scal _ _ (sCompareFacts.ret _ _ ?_ ?_) rfl (by repeat' first | exact SeesL.nil | refine SeesL.cons ?_ ?_ | exact SeesB.of0 (Sees0.val _) | exact SeesB.of0 (Sees0.str _) | exact SeesB.of0 (Sees0.olds _ _) | exact SeesB.of0 (Sees0.old _) | exact SeesB.of0 (Sees0.oldagg _) | exact SeesB.of0 Sees0.nil | exact Sees0.val _ | exact Sees0.str _ | exact Sees0.olds _ _ | exact Sees0.old _ | exact Sees0.oldagg _ | exact Sees0.nil | exact SeesB.of0 (Sees0.any _) | refine SeesB.agg ?_ | refine Sees0.agg ?_ | exact SeesB.of0 (Sees0.clo SeesL.nil SeesL.nil) | exact Sees0.clo SeesL.nil SeesL.nil) ?_
         | refine AQCall.mk _ _ (fun hg => sCompareFacts.ret _ _ ?_ ?_) rfl (fun _ => (by repeat' first | exact SeesL.nil | refine SeesL.cons ?_ ?_ | exact SeesB.of0 (Sees0.val _) | exact SeesB.of0 (Sees0.str _) | exact SeesB.of0 (Sees0.olds _ _) | exact SeesB.of0 (Sees0.old _) | exact SeesB.of0 (Sees0.oldagg _) | exact SeesB.of0 Sees0.nil | exact Sees0.val _ | exact Sees0.str _ | exact Sees0.olds _ _ | exact Sees0.old _ | exact Sees0.oldagg _ | exact Sees0.nil | exact SeesB.of0 (Sees0.any _) | refine SeesB.agg ?_ | refine Sees0.agg ?_ | exact SeesB.of0 (Sees0.clo SeesL.nil SeesL.nil) | exact Sees0.clo SeesL.nil SeesL.nil)) ?_
         | refine ACall.scal _ _ (pCompareFacts.ret _ _ ?_ ?_) rfl (by repeat' first | exact SeesL.nil | refine SeesL.cons ?_ ?_ | exact SeesB.of0 (Sees0.val _) | exact SeesB.of0 (Sees0.str _) | exact SeesB.of0 (Sees0.olds _ _) | exact SeesB.of0 (Sees0.old _) | exact SeesB.of0 (Sees0.oldagg _) | exact SeesB.of0 Sees0.nil | exact Sees0.val _ | exact Sees0.str _ | exact Sees0.olds _ _ | exact Sees0.old _ | exact Sees0.oldagg _ | exact Sees0.nil | exact SeesB.of0 (Sees0.any _) | refine SeesB.agg ?_ | refine Sees0.agg ?_ | exact SeesB.of0 (Sees0.clo SeesL.nil SeesL.nil) | exact Sees0.clo SeesL.nil SeesL.nil) ?_
         | refine AQCall.mk _ _ (fun hg => pCompareFacts.ret _ _ ?_ ?_) rfl (fun _ => (by repeat' first | exact SeesL.nil | refine SeesL.cons ?_ ?_ | exact SeesB.of0 (Sees0.val _) | exact SeesB.of0 (Sees0.str _) | exact SeesB.of0 (Sees0.olds _ _) | exact SeesB.of0 (Sees0.old _) | exact SeesB.of0 (Sees0.oldagg _) | exact SeesB.of0 Sees0.nil | exact Sees0.val _ | exact Sees0.str _ | exact Sees0.olds _ _ | exact Sees0.old _ | exact Sees0.oldagg _ | exact Sees0.nil | exact SeesB.of0 (Sees0.any _) | refine SeesB.agg ?_ | refine Sees0.agg ?_ | exact SeesB.of0 (Sees0.clo SeesL.nil SeesL.nil) | exact Sees0.clo SeesL.nil SeesL.nil)) ?_
         | refine ACall.scal _ _ (eqFact.ret _ _ ?_) rfl (by repeat' first | exact SeesL.nil | refine SeesL.cons ?_ ?_ | exact SeesB.of0 (Sees0.val _) | exact SeesB.of0 (Sees0.str _) | exact SeesB.of0 (Sees0.olds _ _) | exact SeesB.of0 (Sees0.old _) | exact SeesB.of0 (Sees0.oldagg _) | exact SeesB.of0 Sees0.nil | exact Sees0.val _ | exact Sees0.str _ | exact Sees0.olds _ _ | exact Sees0.old _ | exact Sees0.oldagg _ | exact Sees0.nil | exact SeesB.of0 (Sees0.any _) | refine SeesB.agg ?_ | refine Sees0.agg ?_ | exact SeesB.of0 (Sees0.clo SeesL.nil SeesL.nil) | exact Sees0.clo SeesL.nil SeesL.nil) ?_
         | refine AQCall.mk _ _ (fun hg => eqFact.ret _ _ ?_) rfl (fun _ => (by repeat' first | exact SeesL.nil | refine SeesL.cons ?_ ?_ | exact SeesB.of0 (Sees0.val _) | exact SeesB.of0 (Sees0.str _) | exact SeesB.of0 (Sees0.olds _ _) | exact SeesB.of0 (Sees0.old _) | exact SeesB.of0 (Sees0.oldagg _) | exact SeesB.of0 Sees0.nil | exact Sees0.val _ | exact Sees0.str _ | exact Sees0.olds _ _ | exact Sees0.old _ | exact Sees0.oldagg _ | exact Sees0.nil | exact SeesB.of0 (Sees0.any _) | refine SeesB.agg ?_ | refine Sees0.agg ?_ | exact SeesB.of0 (Sees0.clo SeesL.nil SeesL.nil) | exact Sees0.clo SeesL.nil SeesL.nil)) ?_)
    | refine AV.bool_congr ?_
    | refine AV.int_congr ?_
    | refine AV.str_congr ?_
    | refine AV.list_congr ?_
    | with_reducible rfl
    | refine fr1 ?_
    | refine fr2 ?_ ?_
  all_goals first
    | exact hz
    | exact hz2
    | omega
    | contradiction
    | (rename_i h; simp at h; done)
    | (rename_i h h'; simp at h; done)
theorem lawExactAreFacts.ret (l : List Fct) (hb : tFcts.bd l) : lawExactAreFacts.Ret [.list none (facts l)] (.val (.bool true)) [] := by
  refine lawExactAreFacts.ofS rfl rfl ?_
  repeat' first
    | contradiction
    | (conv => whnf
       first
         | refine Need.mk (fun h => h) ?_
         | refine Need.mk rfl ?_
         | refine Need.mk ⟨rfl, Nat.le_of_ble_eq_true rfl⟩ ?_
         | refine Need.mk (Nat.le_of_ble_eq_true rfl) ?_
         | refine Need.mk (by intros; (try simp only [length_strs] at *); (try simp only [length_rows] at *); (try simp only [length_oldLL, List.length_map] at *); (try simp only [Bool.and_eq_true, decide_eq_true_eq] at *); omega) ?_
         | refine Need.mk ?_ ?_
         | refine Ix.strs rfl (by intros; (try simp only [length_strs] at *); (try simp only [length_rows] at *); (try simp only [length_oldLL, List.length_map] at *); (try simp only [Bool.and_eq_true, decide_eq_true_eq] at *); omega) ?_
         | refine Ix.strs rfl ?_ ?_
         | refine Cut.strs rfl ?_ ?_
         | refine Ix.map (fun _ => rfl) (by intros; (try simp only [length_strs] at *); (try simp only [length_rows] at *); (try simp only [length_oldLL, List.length_map] at *); (try simp only [Bool.and_eq_true, decide_eq_true_eq] at *); omega) ?_
         | refine Ix.map (fun _ => rfl) ?_ ?_
         | refine Cut.map (fun _ => rfl) ?_ ?_
         | refine Fork.yes (by assumption) ?_
         | refine Fork.no (by assumption) ?_
         | refine Fork.decYes (by omega) ?_
         | refine Fork.decNo (by omega) ?_
         | refine Fork.dec (fun _ => ?_) (fun _ => ?_)
         | refine Fork.bne (fun _ => ?_) (fun _ => ?_)
         | refine Fork.beq (fun _ => ?_) (fun _ => ?_)
         | refine Fork.seq (fun _ => ?_) (fun _ => ?_)
         | refine Fork.sne (fun _ => ?_) (fun _ => ?_)
         | refine Fork.neg (fun _ => ?_) (fun _ => ?_)
         | refine Fork.mk (fun _ => ?_) (fun _ => ?_)
         | refine Round.mk ?_
         | refine forceK_of ?_
         | refine forceBx_of ?_
         | refine unG_old ?_
         | refine unG_gv ?_
         | refine FinAgg.keep ?_
         | refine Final.mk rfl rfl
         | refine Final.mk ?_ rfl
         | refine Final.mk ?_ ?_
         | refine FinalT.mk ?_ ?_
         | refine ACall.scal _ _ (szFactS.ret _ _ ?_ ?_ ?_) rfl (by repeat' first | exact SeesL.nil | refine SeesL.cons ?_ ?_ | exact SeesB.of0 (Sees0.val _) | exact SeesB.of0 (Sees0.str _) | exact SeesB.of0 (Sees0.olds _ _) | exact SeesB.of0 (Sees0.old _) | exact SeesB.of0 (Sees0.oldagg _) | exact SeesB.of0 Sees0.nil | exact Sees0.val _ | exact Sees0.str _ | exact Sees0.olds _ _ | exact Sees0.old _ | exact Sees0.oldagg _ | exact Sees0.nil | exact SeesB.of0 (Sees0.any _) | refine SeesB.agg ?_ | refine Sees0.agg ?_ | exact SeesB.of0 (Sees0.clo SeesL.nil SeesL.nil) | exact Sees0.clo SeesL.nil SeesL.nil) ?_
         | refine AQCall.mk _ _ (fun hg => szFactS.ret _ _ ?_ ?_ ?_) rfl (fun _ => (by repeat' first | exact SeesL.nil | refine SeesL.cons ?_ ?_ | exact SeesB.of0 (Sees0.val _) | exact SeesB.of0 (Sees0.str _) | exact SeesB.of0 (Sees0.olds _ _) | exact SeesB.of0 (Sees0.old _) | exact SeesB.of0 (Sees0.oldagg _) | exact SeesB.of0 Sees0.nil | exact Sees0.val _ | exact Sees0.str _ | exact Sees0.olds _ _ | exact Sees0.old _ | exact Sees0.oldagg _ | exact Sees0.nil | exact SeesB.of0 (Sees0.any _) | refine SeesB.agg ?_ | refine Sees0.agg ?_ | exact SeesB.of0 (Sees0.clo SeesL.nil SeesL.nil) | exact Sees0.clo SeesL.nil SeesL.nil)) ?_)
    | refine AV.bool_congr ?_
    | refine AV.int_congr ?_
    | refine AV.str_congr ?_
    | refine AV.list_congr ?_
    | with_reducible rfl
    | refine fr1 ?_
    | refine fr2 ?_ ?_
  · omega
  · omega
  · exact hb
  rename_i hl
  have hz := (left_ok hl).1
  repeat' first
    | contradiction
    | (conv => whnf
       first
         | refine Need.mk (fun h => h) ?_
         | refine Need.mk rfl ?_
         | refine Need.mk ⟨rfl, Nat.le_of_ble_eq_true rfl⟩ ?_
         | refine Need.mk (Nat.le_of_ble_eq_true rfl) ?_
         | refine Need.mk (by intros; (try simp only [] at *); (try simp only [] at *); (try simp only [] at *); (try simp only [decide_eq_true_eq] at *); omega) ?_
         | refine Need.mk ?_ ?_
         | refine Ix.strs rfl (by intros; (try simp only [] at *); (try simp only [] at *); (try simp only [] at *); (try simp only [decide_eq_true_eq] at *); omega) ?_
         | refine Ix.strs rfl ?_ ?_
         | refine Cut.strs rfl ?_ ?_
         | refine Ix.map (fun _ => rfl) (by intros; (try simp only [] at *); (try simp only [] at *); (try simp only [] at *); (try simp only [decide_eq_true_eq] at *); omega) ?_
         | refine Ix.map (fun _ => rfl) ?_ ?_
         | refine Cut.map (fun _ => rfl) ?_ ?_
         | refine Fork.yes (by assumption) ?_
         | refine Fork.no (by assumption) ?_
         | refine Fork.decYes (by omega) ?_
         | refine Fork.decNo (by omega) ?_
         | refine Fork.dec (fun _ => ?_) (fun _ => ?_)
         | refine Fork.bne (fun _ => ?_) (fun _ => ?_)
         | refine Fork.beq (fun _ => ?_) (fun _ => ?_)
         | refine Fork.seq (fun _ => ?_) (fun _ => ?_)
         | refine Fork.sne (fun _ => ?_) (fun _ => ?_)
         | refine Fork.neg (fun _ => ?_) (fun _ => ?_)
         | refine Fork.mk (fun _ => ?_) (fun _ => ?_)
         | refine Round.mk ?_
         | refine forceK_of ?_
         | refine forceBx_of ?_
         | refine unG_old ?_
         | refine unG_gv ?_
         | refine FinAgg.keep ?_
         | refine Final.mk rfl rfl
         | refine Final.mk ?_ rfl
         | refine Final.mk ?_ ?_
         | refine FinalT.mk ?_ ?_
         | refine ACall.old _ _ (toFactS.own _ ?_) (by repeat' first | exact SeesL.nil | refine SeesL.cons ?_ ?_ | exact SeesB.of0 (Sees0.val _) | exact SeesB.of0 (Sees0.str _) | exact SeesB.of0 (Sees0.olds _ _) | exact SeesB.of0 (Sees0.old _) | exact SeesB.of0 (Sees0.oldagg _) | exact SeesB.of0 Sees0.nil | exact Sees0.val _ | exact Sees0.str _ | exact Sees0.olds _ _ | exact Sees0.old _ | exact Sees0.oldagg _ | exact Sees0.nil | exact SeesB.of0 (Sees0.any _) | refine SeesB.agg ?_ | refine Sees0.agg ?_ | exact SeesB.of0 (Sees0.clo SeesL.nil SeesL.nil) | exact Sees0.clo SeesL.nil SeesL.nil) (by first | exact Ty.hok _ _ | exact ok_list _ _ _ | (simp [okT, okTL, ok_list, Ty.hok]; done)) ?_
         | refine ACall.scal _ _ (sAreFacts.ret _ ?_) rfl (by repeat' first | exact SeesL.nil | refine SeesL.cons ?_ ?_ | exact SeesB.of0 (Sees0.val _) | exact SeesB.of0 (Sees0.str _) | exact SeesB.of0 (Sees0.olds _ _) | exact SeesB.of0 (Sees0.old _) | exact SeesB.of0 (Sees0.oldagg _) | exact SeesB.of0 Sees0.nil | exact Sees0.val _ | exact Sees0.str _ | exact Sees0.olds _ _ | exact Sees0.old _ | exact Sees0.oldagg _ | exact Sees0.nil | exact SeesB.of0 (Sees0.any _) | refine SeesB.agg ?_ | refine Sees0.agg ?_ | exact SeesB.of0 (Sees0.clo SeesL.nil SeesL.nil) | exact Sees0.clo SeesL.nil SeesL.nil) ?_
         | refine AQCall.mk _ _ (fun hg => sAreFacts.ret _ ?_) rfl (fun _ => (by repeat' first | exact SeesL.nil | refine SeesL.cons ?_ ?_ | exact SeesB.of0 (Sees0.val _) | exact SeesB.of0 (Sees0.str _) | exact SeesB.of0 (Sees0.olds _ _) | exact SeesB.of0 (Sees0.old _) | exact SeesB.of0 (Sees0.oldagg _) | exact SeesB.of0 Sees0.nil | exact Sees0.val _ | exact Sees0.str _ | exact Sees0.olds _ _ | exact Sees0.old _ | exact Sees0.oldagg _ | exact Sees0.nil | exact SeesB.of0 (Sees0.any _) | refine SeesB.agg ?_ | refine Sees0.agg ?_ | exact SeesB.of0 (Sees0.clo SeesL.nil SeesL.nil) | exact Sees0.clo SeesL.nil SeesL.nil)) ?_
         | refine ACall.scal _ _ (pAreFacts.ret _ ?_) rfl (by repeat' first | exact SeesL.nil | refine SeesL.cons ?_ ?_ | exact SeesB.of0 (Sees0.val _) | exact SeesB.of0 (Sees0.str _) | exact SeesB.of0 (Sees0.olds _ _) | exact SeesB.of0 (Sees0.old _) | exact SeesB.of0 (Sees0.oldagg _) | exact SeesB.of0 Sees0.nil | exact Sees0.val _ | exact Sees0.str _ | exact Sees0.olds _ _ | exact Sees0.old _ | exact Sees0.oldagg _ | exact Sees0.nil | exact SeesB.of0 (Sees0.any _) | refine SeesB.agg ?_ | refine Sees0.agg ?_ | exact SeesB.of0 (Sees0.clo SeesL.nil SeesL.nil) | exact Sees0.clo SeesL.nil SeesL.nil) ?_
         | refine AQCall.mk _ _ (fun hg => pAreFacts.ret _ ?_) rfl (fun _ => (by repeat' first | exact SeesL.nil | refine SeesL.cons ?_ ?_ | exact SeesB.of0 (Sees0.val _) | exact SeesB.of0 (Sees0.str _) | exact SeesB.of0 (Sees0.olds _ _) | exact SeesB.of0 (Sees0.old _) | exact SeesB.of0 (Sees0.oldagg _) | exact SeesB.of0 Sees0.nil | exact Sees0.val _ | exact Sees0.str _ | exact Sees0.olds _ _ | exact Sees0.old _ | exact Sees0.oldagg _ | exact Sees0.nil | exact SeesB.of0 (Sees0.any _) | refine SeesB.agg ?_ | refine Sees0.agg ?_ | exact SeesB.of0 (Sees0.clo SeesL.nil SeesL.nil) | exact Sees0.clo SeesL.nil SeesL.nil)) ?_
         | refine ACall.scal _ _ (eqFactS.ret _ _ ?_) rfl (by repeat' first | exact SeesL.nil | refine SeesL.cons ?_ ?_ | exact SeesB.of0 (Sees0.val _) | exact SeesB.of0 (Sees0.str _) | exact SeesB.of0 (Sees0.olds _ _) | exact SeesB.of0 (Sees0.old _) | exact SeesB.of0 (Sees0.oldagg _) | exact SeesB.of0 Sees0.nil | exact Sees0.val _ | exact Sees0.str _ | exact Sees0.olds _ _ | exact Sees0.old _ | exact Sees0.oldagg _ | exact Sees0.nil | exact SeesB.of0 (Sees0.any _) | refine SeesB.agg ?_ | refine Sees0.agg ?_ | exact SeesB.of0 (Sees0.clo SeesL.nil SeesL.nil) | exact Sees0.clo SeesL.nil SeesL.nil) ?_
         | refine AQCall.mk _ _ (fun hg => eqFactS.ret _ _ ?_) rfl (fun _ => (by repeat' first | exact SeesL.nil | refine SeesL.cons ?_ ?_ | exact SeesB.of0 (Sees0.val _) | exact SeesB.of0 (Sees0.str _) | exact SeesB.of0 (Sees0.olds _ _) | exact SeesB.of0 (Sees0.old _) | exact SeesB.of0 (Sees0.oldagg _) | exact SeesB.of0 Sees0.nil | exact Sees0.val _ | exact Sees0.str _ | exact Sees0.olds _ _ | exact Sees0.old _ | exact Sees0.oldagg _ | exact Sees0.nil | exact SeesB.of0 (Sees0.any _) | refine SeesB.agg ?_ | refine Sees0.agg ?_ | exact SeesB.of0 (Sees0.clo SeesL.nil SeesL.nil) | exact Sees0.clo SeesL.nil SeesL.nil)) ?_)
    | refine AV.bool_congr ?_
    | refine AV.int_congr ?_
    | refine AV.str_congr ?_
    | refine AV.list_congr ?_
    | with_reducible rfl
    | refine fr1 ?_
    | refine fr2 ?_ ?_
  all_goals first
    | exact hz
    | exact hz2
    | omega
    | contradiction
    | (rename_i h; simp at h; done)
    | (rename_i h h'; simp at h; done)
theorem lawExactFindFact.ret (l : List Fct) (g : Fct) (hb : tFcts.bd l) (hb2 : tFct.bd g) : lawExactFindFact.Ret [.list none (facts l), .agg (oldL (tFct.q g))] (.val (.bool true)) [] := by
  refine lawExactFindFact.ofS rfl rfl ?_
  repeat' first
    | contradiction
    | (conv => whnf
       first
         | refine Need.mk (fun h => h) ?_
         | refine Need.mk rfl ?_
         | refine Need.mk ⟨rfl, Nat.le_of_ble_eq_true rfl⟩ ?_
         | refine Need.mk (Nat.le_of_ble_eq_true rfl) ?_
         | refine Need.mk (by intros; (try simp only [length_strs] at *); (try simp only [length_rows] at *); (try simp only [length_oldLL, List.length_map] at *); (try simp only [Bool.and_eq_true, decide_eq_true_eq] at *); omega) ?_
         | refine Need.mk ?_ ?_
         | refine Ix.strs rfl (by intros; (try simp only [length_strs] at *); (try simp only [length_rows] at *); (try simp only [length_oldLL, List.length_map] at *); (try simp only [Bool.and_eq_true, decide_eq_true_eq] at *); omega) ?_
         | refine Ix.strs rfl ?_ ?_
         | refine Cut.strs rfl ?_ ?_
         | refine Ix.map (fun _ => rfl) (by intros; (try simp only [length_strs] at *); (try simp only [length_rows] at *); (try simp only [length_oldLL, List.length_map] at *); (try simp only [Bool.and_eq_true, decide_eq_true_eq] at *); omega) ?_
         | refine Ix.map (fun _ => rfl) ?_ ?_
         | refine Cut.map (fun _ => rfl) ?_ ?_
         | refine Fork.yes (by assumption) ?_
         | refine Fork.no (by assumption) ?_
         | refine Fork.decYes (by omega) ?_
         | refine Fork.decNo (by omega) ?_
         | refine Fork.dec (fun _ => ?_) (fun _ => ?_)
         | refine Fork.bne (fun _ => ?_) (fun _ => ?_)
         | refine Fork.beq (fun _ => ?_) (fun _ => ?_)
         | refine Fork.seq (fun _ => ?_) (fun _ => ?_)
         | refine Fork.sne (fun _ => ?_) (fun _ => ?_)
         | refine Fork.neg (fun _ => ?_) (fun _ => ?_)
         | refine Fork.mk (fun _ => ?_) (fun _ => ?_)
         | refine Round.mk ?_
         | refine forceK_of ?_
         | refine forceBx_of ?_
         | refine unG_old ?_
         | refine unG_gv ?_
         | refine FinAgg.keep ?_
         | refine Final.mk rfl rfl
         | refine Final.mk ?_ rfl
         | refine Final.mk ?_ ?_
         | refine FinalT.mk ?_ ?_
         | refine ACall.scal _ _ (szFactS.ret _ _ ?_ ?_ ?_) rfl (by repeat' first | exact SeesL.nil | refine SeesL.cons ?_ ?_ | exact SeesB.of0 (Sees0.val _) | exact SeesB.of0 (Sees0.str _) | exact SeesB.of0 (Sees0.olds _ _) | exact SeesB.of0 (Sees0.old _) | exact SeesB.of0 (Sees0.oldagg _) | exact SeesB.of0 Sees0.nil | exact Sees0.val _ | exact Sees0.str _ | exact Sees0.olds _ _ | exact Sees0.old _ | exact Sees0.oldagg _ | exact Sees0.nil | exact SeesB.of0 (Sees0.any _) | refine SeesB.agg ?_ | refine Sees0.agg ?_ | exact SeesB.of0 (Sees0.clo SeesL.nil SeesL.nil) | exact Sees0.clo SeesL.nil SeesL.nil) ?_
         | refine AQCall.mk _ _ (fun hg => szFactS.ret _ _ ?_ ?_ ?_) rfl (fun _ => (by repeat' first | exact SeesL.nil | refine SeesL.cons ?_ ?_ | exact SeesB.of0 (Sees0.val _) | exact SeesB.of0 (Sees0.str _) | exact SeesB.of0 (Sees0.olds _ _) | exact SeesB.of0 (Sees0.old _) | exact SeesB.of0 (Sees0.oldagg _) | exact SeesB.of0 Sees0.nil | exact Sees0.val _ | exact Sees0.str _ | exact Sees0.olds _ _ | exact Sees0.old _ | exact Sees0.oldagg _ | exact Sees0.nil | exact SeesB.of0 (Sees0.any _) | refine SeesB.agg ?_ | refine Sees0.agg ?_ | exact SeesB.of0 (Sees0.clo SeesL.nil SeesL.nil) | exact Sees0.clo SeesL.nil SeesL.nil)) ?_)
    | refine AV.bool_congr ?_
    | refine AV.int_congr ?_
    | refine AV.str_congr ?_
    | refine AV.list_congr ?_
    | with_reducible rfl
    | refine fr1 ?_
    | refine fr2 ?_ ?_
  · omega
  · omega
  · exact hb
  rename_i hl
  have hz := (left_ok hl).1
  repeat' first
    | contradiction
    | (conv => whnf
       first
         | refine Need.mk (fun h => h) ?_
         | refine Need.mk rfl ?_
         | refine Need.mk ⟨rfl, Nat.le_of_ble_eq_true rfl⟩ ?_
         | refine Need.mk (Nat.le_of_ble_eq_true rfl) ?_
         | refine Need.mk (by intros; (try simp only [length_strs] at *); (try simp only [length_rows] at *); (try simp only [length_oldLL, List.length_map] at *); (try simp only [Bool.and_eq_true, decide_eq_true_eq] at *); omega) ?_
         | refine Need.mk ?_ ?_
         | refine Ix.strs rfl (by intros; (try simp only [length_strs] at *); (try simp only [length_rows] at *); (try simp only [length_oldLL, List.length_map] at *); (try simp only [Bool.and_eq_true, decide_eq_true_eq] at *); omega) ?_
         | refine Ix.strs rfl ?_ ?_
         | refine Cut.strs rfl ?_ ?_
         | refine Ix.map (fun _ => rfl) (by intros; (try simp only [length_strs] at *); (try simp only [length_rows] at *); (try simp only [length_oldLL, List.length_map] at *); (try simp only [Bool.and_eq_true, decide_eq_true_eq] at *); omega) ?_
         | refine Ix.map (fun _ => rfl) ?_ ?_
         | refine Cut.map (fun _ => rfl) ?_ ?_
         | refine Fork.yes (by assumption) ?_
         | refine Fork.no (by assumption) ?_
         | refine Fork.decYes (by omega) ?_
         | refine Fork.decNo (by omega) ?_
         | refine Fork.dec (fun _ => ?_) (fun _ => ?_)
         | refine Fork.bne (fun _ => ?_) (fun _ => ?_)
         | refine Fork.beq (fun _ => ?_) (fun _ => ?_)
         | refine Fork.seq (fun _ => ?_) (fun _ => ?_)
         | refine Fork.sne (fun _ => ?_) (fun _ => ?_)
         | refine Fork.neg (fun _ => ?_) (fun _ => ?_)
         | refine Fork.mk (fun _ => ?_) (fun _ => ?_)
         | refine Round.mk ?_
         | refine forceK_of ?_
         | refine forceBx_of ?_
         | refine unG_old ?_
         | refine unG_gv ?_
         | refine FinAgg.keep ?_
         | refine Final.mk rfl rfl
         | refine Final.mk ?_ rfl
         | refine Final.mk ?_ ?_
         | refine FinalT.mk ?_ ?_
         | refine ACall.scal _ _ (szFact.ret _ _ ?_ ?_ ?_) rfl (by repeat' first | exact SeesL.nil | refine SeesL.cons ?_ ?_ | exact SeesB.of0 (Sees0.val _) | exact SeesB.of0 (Sees0.str _) | exact SeesB.of0 (Sees0.olds _ _) | exact SeesB.of0 (Sees0.old _) | exact SeesB.of0 (Sees0.oldagg _) | exact SeesB.of0 Sees0.nil | exact Sees0.val _ | exact Sees0.str _ | exact Sees0.olds _ _ | exact Sees0.old _ | exact Sees0.oldagg _ | exact Sees0.nil | exact SeesB.of0 (Sees0.any _) | refine SeesB.agg ?_ | refine Sees0.agg ?_ | exact SeesB.of0 (Sees0.clo SeesL.nil SeesL.nil) | exact Sees0.clo SeesL.nil SeesL.nil) ?_
         | refine AQCall.mk _ _ (fun hg => szFact.ret _ _ ?_ ?_ ?_) rfl (fun _ => (by repeat' first | exact SeesL.nil | refine SeesL.cons ?_ ?_ | exact SeesB.of0 (Sees0.val _) | exact SeesB.of0 (Sees0.str _) | exact SeesB.of0 (Sees0.olds _ _) | exact SeesB.of0 (Sees0.old _) | exact SeesB.of0 (Sees0.oldagg _) | exact SeesB.of0 Sees0.nil | exact Sees0.val _ | exact Sees0.str _ | exact Sees0.olds _ _ | exact Sees0.old _ | exact Sees0.oldagg _ | exact Sees0.nil | exact SeesB.of0 (Sees0.any _) | refine SeesB.agg ?_ | refine Sees0.agg ?_ | exact SeesB.of0 (Sees0.clo SeesL.nil SeesL.nil) | exact Sees0.clo SeesL.nil SeesL.nil)) ?_)
    | refine AV.bool_congr ?_
    | refine AV.int_congr ?_
    | refine AV.str_congr ?_
    | refine AV.list_congr ?_
    | with_reducible rfl
    | refine fr1 ?_
    | refine fr2 ?_ ?_
  · omega
  · rw [(left_ok hl).2]; omega
  · exact hb2
  rename_i hl2
  have hz2 := (left_ok hl2).1
  rw [(left_ok hl).2] at hz2
  repeat' first
    | contradiction
    | (conv => whnf
       first
         | refine Need.mk (fun h => h) ?_
         | refine Need.mk rfl ?_
         | refine Need.mk ⟨rfl, Nat.le_of_ble_eq_true rfl⟩ ?_
         | refine Need.mk (Nat.le_of_ble_eq_true rfl) ?_
         | refine Need.mk (by intros; (try simp only [] at *); (try simp only [] at *); (try simp only [] at *); (try simp only [decide_eq_true_eq] at *); omega) ?_
         | refine Need.mk ?_ ?_
         | refine Ix.strs rfl (by intros; (try simp only [] at *); (try simp only [] at *); (try simp only [] at *); (try simp only [decide_eq_true_eq] at *); omega) ?_
         | refine Ix.strs rfl ?_ ?_
         | refine Cut.strs rfl ?_ ?_
         | refine Ix.map (fun _ => rfl) (by intros; (try simp only [] at *); (try simp only [] at *); (try simp only [] at *); (try simp only [decide_eq_true_eq] at *); omega) ?_
         | refine Ix.map (fun _ => rfl) ?_ ?_
         | refine Cut.map (fun _ => rfl) ?_ ?_
         | refine Fork.yes (by assumption) ?_
         | refine Fork.no (by assumption) ?_
         | refine Fork.decYes (by omega) ?_
         | refine Fork.decNo (by omega) ?_
         | refine Fork.dec (fun _ => ?_) (fun _ => ?_)
         | refine Fork.bne (fun _ => ?_) (fun _ => ?_)
         | refine Fork.beq (fun _ => ?_) (fun _ => ?_)
         | refine Fork.seq (fun _ => ?_) (fun _ => ?_)
         | refine Fork.sne (fun _ => ?_) (fun _ => ?_)
         | refine Fork.neg (fun _ => ?_) (fun _ => ?_)
         | refine Fork.mk (fun _ => ?_) (fun _ => ?_)
         | refine Round.mk ?_
         | refine forceK_of ?_
         | refine forceBx_of ?_
         | refine unG_old ?_
         | refine unG_gv ?_
         | refine FinAgg.keep ?_
         | refine Final.mk rfl rfl
         | refine Final.mk ?_ rfl
         | refine Final.mk ?_ ?_
         | refine FinalT.mk ?_ ?_
         | refine ACall.old _ _ (toFactS.own _ ?_) (by repeat' first | exact SeesL.nil | refine SeesL.cons ?_ ?_ | exact SeesB.of0 (Sees0.val _) | exact SeesB.of0 (Sees0.str _) | exact SeesB.of0 (Sees0.olds _ _) | exact SeesB.of0 (Sees0.old _) | exact SeesB.of0 (Sees0.oldagg _) | exact SeesB.of0 Sees0.nil | exact Sees0.val _ | exact Sees0.str _ | exact Sees0.olds _ _ | exact Sees0.old _ | exact Sees0.oldagg _ | exact Sees0.nil | exact SeesB.of0 (Sees0.any _) | refine SeesB.agg ?_ | refine Sees0.agg ?_ | exact SeesB.of0 (Sees0.clo SeesL.nil SeesL.nil) | exact Sees0.clo SeesL.nil SeesL.nil) (by first | exact Ty.hok _ _ | exact ok_list _ _ _ | (simp [okT, okTL, ok_list, Ty.hok]; done)) ?_
         | refine ACall.old _ _ (toFact.own _ ?_) (by repeat' first | exact SeesL.nil | refine SeesL.cons ?_ ?_ | exact SeesB.of0 (Sees0.val _) | exact SeesB.of0 (Sees0.str _) | exact SeesB.of0 (Sees0.olds _ _) | exact SeesB.of0 (Sees0.old _) | exact SeesB.of0 (Sees0.oldagg _) | exact SeesB.of0 Sees0.nil | exact Sees0.val _ | exact Sees0.str _ | exact Sees0.olds _ _ | exact Sees0.old _ | exact Sees0.oldagg _ | exact Sees0.nil | exact SeesB.of0 (Sees0.any _) | refine SeesB.agg ?_ | refine Sees0.agg ?_ | exact SeesB.of0 (Sees0.clo SeesL.nil SeesL.nil) | exact Sees0.clo SeesL.nil SeesL.nil) (by first | exact Ty.hok _ _ | exact ok_list _ _ _ | (simp [okT, okTL, ok_list, Ty.hok]; done)) ?_
         | refine ACall.scal _ _ (sFindFact.ret _ _ ?_ ?_) rfl (by repeat' first | exact SeesL.nil | refine SeesL.cons ?_ ?_ | exact SeesB.of0 (Sees0.val _) | exact SeesB.of0 (Sees0.str _) | exact SeesB.of0 (Sees0.olds _ _) | exact SeesB.of0 (Sees0.old _) | exact SeesB.of0 (Sees0.oldagg _) | exact SeesB.of0 Sees0.nil | exact Sees0.val _ | exact Sees0.str _ | exact Sees0.olds _ _ | exact Sees0.old _ | exact Sees0.oldagg _ | exact Sees0.nil | exact SeesB.of0 (Sees0.any _) | refine SeesB.agg ?_ | refine Sees0.agg ?_ | exact SeesB.of0 (Sees0.clo SeesL.nil SeesL.nil) | exact Sees0.clo SeesL.nil SeesL.nil) ?_
         | refine AQCall.mk _ _ (fun hg => sFindFact.ret _ _ ?_ ?_) rfl (fun _ => (by repeat' first | exact SeesL.nil | refine SeesL.cons ?_ ?_ | exact SeesB.of0 (Sees0.val _) | exact SeesB.of0 (Sees0.str _) | exact SeesB.of0 (Sees0.olds _ _) | exact SeesB.of0 (Sees0.old _) | exact SeesB.of0 (Sees0.oldagg _) | exact SeesB.of0 Sees0.nil | exact Sees0.val _ | exact Sees0.str _ | exact Sees0.olds _ _ | exact Sees0.old _ | exact Sees0.oldagg _ | exact Sees0.nil | exact SeesB.of0 (Sees0.any _) | refine SeesB.agg ?_ | refine Sees0.agg ?_ | exact SeesB.of0 (Sees0.clo SeesL.nil SeesL.nil) | exact Sees0.clo SeesL.nil SeesL.nil)) ?_
         | refine ACall.scal _ _ (pFindFact.ret _ _ ?_ ?_) rfl (by repeat' first | exact SeesL.nil | refine SeesL.cons ?_ ?_ | exact SeesB.of0 (Sees0.val _) | exact SeesB.of0 (Sees0.str _) | exact SeesB.of0 (Sees0.olds _ _) | exact SeesB.of0 (Sees0.old _) | exact SeesB.of0 (Sees0.oldagg _) | exact SeesB.of0 Sees0.nil | exact Sees0.val _ | exact Sees0.str _ | exact Sees0.olds _ _ | exact Sees0.old _ | exact Sees0.oldagg _ | exact Sees0.nil | exact SeesB.of0 (Sees0.any _) | refine SeesB.agg ?_ | refine Sees0.agg ?_ | exact SeesB.of0 (Sees0.clo SeesL.nil SeesL.nil) | exact Sees0.clo SeesL.nil SeesL.nil) ?_
         | refine AQCall.mk _ _ (fun hg => pFindFact.ret _ _ ?_ ?_) rfl (fun _ => (by repeat' first | exact SeesL.nil | refine SeesL.cons ?_ ?_ | exact SeesB.of0 (Sees0.val _) | exact SeesB.of0 (Sees0.str _) | exact SeesB.of0 (Sees0.olds _ _) | exact SeesB.of0 (Sees0.old _) | exact SeesB.of0 (Sees0.oldagg _) | exact SeesB.of0 Sees0.nil | exact Sees0.val _ | exact Sees0.str _ | exact Sees0.olds _ _ | exact Sees0.old _ | exact Sees0.oldagg _ | exact Sees0.nil | exact SeesB.of0 (Sees0.any _) | refine SeesB.agg ?_ | refine Sees0.agg ?_ | exact SeesB.of0 (Sees0.clo SeesL.nil SeesL.nil) | exact Sees0.clo SeesL.nil SeesL.nil)) ?_
         | refine ACall.scal _ _ (eqFactS.ret _ _ ?_) rfl (by repeat' first | exact SeesL.nil | refine SeesL.cons ?_ ?_ | exact SeesB.of0 (Sees0.val _) | exact SeesB.of0 (Sees0.str _) | exact SeesB.of0 (Sees0.olds _ _) | exact SeesB.of0 (Sees0.old _) | exact SeesB.of0 (Sees0.oldagg _) | exact SeesB.of0 Sees0.nil | exact Sees0.val _ | exact Sees0.str _ | exact Sees0.olds _ _ | exact Sees0.old _ | exact Sees0.oldagg _ | exact Sees0.nil | exact SeesB.of0 (Sees0.any _) | refine SeesB.agg ?_ | refine Sees0.agg ?_ | exact SeesB.of0 (Sees0.clo SeesL.nil SeesL.nil) | exact Sees0.clo SeesL.nil SeesL.nil) ?_
         | refine AQCall.mk _ _ (fun hg => eqFactS.ret _ _ ?_) rfl (fun _ => (by repeat' first | exact SeesL.nil | refine SeesL.cons ?_ ?_ | exact SeesB.of0 (Sees0.val _) | exact SeesB.of0 (Sees0.str _) | exact SeesB.of0 (Sees0.olds _ _) | exact SeesB.of0 (Sees0.old _) | exact SeesB.of0 (Sees0.oldagg _) | exact SeesB.of0 Sees0.nil | exact Sees0.val _ | exact Sees0.str _ | exact Sees0.olds _ _ | exact Sees0.old _ | exact Sees0.oldagg _ | exact Sees0.nil | exact SeesB.of0 (Sees0.any _) | refine SeesB.agg ?_ | refine Sees0.agg ?_ | exact SeesB.of0 (Sees0.clo SeesL.nil SeesL.nil) | exact Sees0.clo SeesL.nil SeesL.nil)) ?_
         | refine ACall.scal _ _ (eqFact.ret _ _ ?_) rfl (by repeat' first | exact SeesL.nil | refine SeesL.cons ?_ ?_ | exact SeesB.of0 (Sees0.val _) | exact SeesB.of0 (Sees0.str _) | exact SeesB.of0 (Sees0.olds _ _) | exact SeesB.of0 (Sees0.old _) | exact SeesB.of0 (Sees0.oldagg _) | exact SeesB.of0 Sees0.nil | exact Sees0.val _ | exact Sees0.str _ | exact Sees0.olds _ _ | exact Sees0.old _ | exact Sees0.oldagg _ | exact Sees0.nil | exact SeesB.of0 (Sees0.any _) | refine SeesB.agg ?_ | refine Sees0.agg ?_ | exact SeesB.of0 (Sees0.clo SeesL.nil SeesL.nil) | exact Sees0.clo SeesL.nil SeesL.nil) ?_
         | refine AQCall.mk _ _ (fun hg => eqFact.ret _ _ ?_) rfl (fun _ => (by repeat' first | exact SeesL.nil | refine SeesL.cons ?_ ?_ | exact SeesB.of0 (Sees0.val _) | exact SeesB.of0 (Sees0.str _) | exact SeesB.of0 (Sees0.olds _ _) | exact SeesB.of0 (Sees0.old _) | exact SeesB.of0 (Sees0.oldagg _) | exact SeesB.of0 Sees0.nil | exact Sees0.val _ | exact Sees0.str _ | exact Sees0.olds _ _ | exact Sees0.old _ | exact Sees0.oldagg _ | exact Sees0.nil | exact SeesB.of0 (Sees0.any _) | refine SeesB.agg ?_ | refine Sees0.agg ?_ | exact SeesB.of0 (Sees0.clo SeesL.nil SeesL.nil) | exact Sees0.clo SeesL.nil SeesL.nil)) ?_)
    | refine AV.bool_congr ?_
    | refine AV.int_congr ?_
    | refine AV.str_congr ?_
    | refine AV.list_congr ?_
    | with_reducible rfl
    | refine fr1 ?_
    | refine fr2 ?_ ?_
  all_goals first
    | exact hz
    | exact hz2
    | omega
    | contradiction
    | (rename_i h; simp at h; done)
    | (rename_i h h'; simp at h; done)
theorem lawExactSameFacts.ret (l m : List Fct) (hb : tFcts.bd l) (hb2 : tFcts.bd m) : lawExactSameFacts.Ret [.list none (facts l), .list none (facts m)] (.val (.bool true)) [] := by
  refine lawExactSameFacts.ofS rfl rfl ?_
  repeat' first
    | contradiction
    | (conv => whnf
       first
         | refine Need.mk (fun h => h) ?_
         | refine Need.mk rfl ?_
         | refine Need.mk ⟨rfl, Nat.le_of_ble_eq_true rfl⟩ ?_
         | refine Need.mk (Nat.le_of_ble_eq_true rfl) ?_
         | refine Need.mk (by intros; (try simp only [length_strs] at *); (try simp only [length_rows] at *); (try simp only [length_oldLL, List.length_map] at *); (try simp only [Bool.and_eq_true, decide_eq_true_eq] at *); omega) ?_
         | refine Need.mk ?_ ?_
         | refine Ix.strs rfl (by intros; (try simp only [length_strs] at *); (try simp only [length_rows] at *); (try simp only [length_oldLL, List.length_map] at *); (try simp only [Bool.and_eq_true, decide_eq_true_eq] at *); omega) ?_
         | refine Ix.strs rfl ?_ ?_
         | refine Cut.strs rfl ?_ ?_
         | refine Ix.map (fun _ => rfl) (by intros; (try simp only [length_strs] at *); (try simp only [length_rows] at *); (try simp only [length_oldLL, List.length_map] at *); (try simp only [Bool.and_eq_true, decide_eq_true_eq] at *); omega) ?_
         | refine Ix.map (fun _ => rfl) ?_ ?_
         | refine Cut.map (fun _ => rfl) ?_ ?_
         | refine Fork.yes (by assumption) ?_
         | refine Fork.no (by assumption) ?_
         | refine Fork.decYes (by omega) ?_
         | refine Fork.decNo (by omega) ?_
         | refine Fork.dec (fun _ => ?_) (fun _ => ?_)
         | refine Fork.bne (fun _ => ?_) (fun _ => ?_)
         | refine Fork.beq (fun _ => ?_) (fun _ => ?_)
         | refine Fork.seq (fun _ => ?_) (fun _ => ?_)
         | refine Fork.sne (fun _ => ?_) (fun _ => ?_)
         | refine Fork.neg (fun _ => ?_) (fun _ => ?_)
         | refine Fork.mk (fun _ => ?_) (fun _ => ?_)
         | refine Round.mk ?_
         | refine forceK_of ?_
         | refine forceBx_of ?_
         | refine unG_old ?_
         | refine unG_gv ?_
         | refine FinAgg.keep ?_
         | refine Final.mk rfl rfl
         | refine Final.mk ?_ rfl
         | refine Final.mk ?_ ?_
         | refine FinalT.mk ?_ ?_
         | refine ACall.scal _ _ (szFactS.ret _ _ ?_ ?_ ?_) rfl (by repeat' first | exact SeesL.nil | refine SeesL.cons ?_ ?_ | exact SeesB.of0 (Sees0.val _) | exact SeesB.of0 (Sees0.str _) | exact SeesB.of0 (Sees0.olds _ _) | exact SeesB.of0 (Sees0.old _) | exact SeesB.of0 (Sees0.oldagg _) | exact SeesB.of0 Sees0.nil | exact Sees0.val _ | exact Sees0.str _ | exact Sees0.olds _ _ | exact Sees0.old _ | exact Sees0.oldagg _ | exact Sees0.nil | exact SeesB.of0 (Sees0.any _) | refine SeesB.agg ?_ | refine Sees0.agg ?_ | exact SeesB.of0 (Sees0.clo SeesL.nil SeesL.nil) | exact Sees0.clo SeesL.nil SeesL.nil) ?_
         | refine AQCall.mk _ _ (fun hg => szFactS.ret _ _ ?_ ?_ ?_) rfl (fun _ => (by repeat' first | exact SeesL.nil | refine SeesL.cons ?_ ?_ | exact SeesB.of0 (Sees0.val _) | exact SeesB.of0 (Sees0.str _) | exact SeesB.of0 (Sees0.olds _ _) | exact SeesB.of0 (Sees0.old _) | exact SeesB.of0 (Sees0.oldagg _) | exact SeesB.of0 Sees0.nil | exact Sees0.val _ | exact Sees0.str _ | exact Sees0.olds _ _ | exact Sees0.old _ | exact Sees0.oldagg _ | exact Sees0.nil | exact SeesB.of0 (Sees0.any _) | refine SeesB.agg ?_ | refine Sees0.agg ?_ | exact SeesB.of0 (Sees0.clo SeesL.nil SeesL.nil) | exact Sees0.clo SeesL.nil SeesL.nil)) ?_)
    | refine AV.bool_congr ?_
    | refine AV.int_congr ?_
    | refine AV.str_congr ?_
    | refine AV.list_congr ?_
    | with_reducible rfl
    | refine fr1 ?_
    | refine fr2 ?_ ?_
  · omega
  · omega
  · exact hb
  · rename_i hl; omega
  · rename_i hl; rw [(left_ok hl).2]; omega
  · exact hb2
  rename_i hl hl2
  have hz := (left_ok hl).1
  have hz2 := (left_ok hl2).1
  rw [(left_ok hl).2] at hz2
  repeat' first
    | contradiction
    | (conv => whnf
       first
         | refine Need.mk (fun h => h) ?_
         | refine Need.mk rfl ?_
         | refine Need.mk ⟨rfl, Nat.le_of_ble_eq_true rfl⟩ ?_
         | refine Need.mk (Nat.le_of_ble_eq_true rfl) ?_
         | refine Need.mk (by intros; (try simp only [] at *); (try simp only [] at *); (try simp only [] at *); (try simp only [decide_eq_true_eq] at *); omega) ?_
         | refine Need.mk ?_ ?_
         | refine Ix.strs rfl (by intros; (try simp only [] at *); (try simp only [] at *); (try simp only [] at *); (try simp only [decide_eq_true_eq] at *); omega) ?_
         | refine Ix.strs rfl ?_ ?_
         | refine Cut.strs rfl ?_ ?_
         | refine Ix.map (fun _ => rfl) (by intros; (try simp only [] at *); (try simp only [] at *); (try simp only [] at *); (try simp only [decide_eq_true_eq] at *); omega) ?_
         | refine Ix.map (fun _ => rfl) ?_ ?_
         | refine Cut.map (fun _ => rfl) ?_ ?_
         | refine Fork.yes (by assumption) ?_
         | refine Fork.no (by assumption) ?_
         | refine Fork.decYes (by omega) ?_
         | refine Fork.decNo (by omega) ?_
         | refine Fork.dec (fun _ => ?_) (fun _ => ?_)
         | refine Fork.bne (fun _ => ?_) (fun _ => ?_)
         | refine Fork.beq (fun _ => ?_) (fun _ => ?_)
         | refine Fork.seq (fun _ => ?_) (fun _ => ?_)
         | refine Fork.sne (fun _ => ?_) (fun _ => ?_)
         | refine Fork.neg (fun _ => ?_) (fun _ => ?_)
         | refine Fork.mk (fun _ => ?_) (fun _ => ?_)
         | refine Round.mk ?_
         | refine forceK_of ?_
         | refine forceBx_of ?_
         | refine unG_old ?_
         | refine unG_gv ?_
         | refine FinAgg.keep ?_
         | refine Final.mk rfl rfl
         | refine Final.mk ?_ rfl
         | refine Final.mk ?_ ?_
         | refine FinalT.mk ?_ ?_
         | refine ACall.old _ _ (toFactS.own _ ?_) (by repeat' first | exact SeesL.nil | refine SeesL.cons ?_ ?_ | exact SeesB.of0 (Sees0.val _) | exact SeesB.of0 (Sees0.str _) | exact SeesB.of0 (Sees0.olds _ _) | exact SeesB.of0 (Sees0.old _) | exact SeesB.of0 (Sees0.oldagg _) | exact SeesB.of0 Sees0.nil | exact Sees0.val _ | exact Sees0.str _ | exact Sees0.olds _ _ | exact Sees0.old _ | exact Sees0.oldagg _ | exact Sees0.nil | exact SeesB.of0 (Sees0.any _) | refine SeesB.agg ?_ | refine Sees0.agg ?_ | exact SeesB.of0 (Sees0.clo SeesL.nil SeesL.nil) | exact Sees0.clo SeesL.nil SeesL.nil) (by first | exact Ty.hok _ _ | exact ok_list _ _ _ | (simp [okT, okTL, ok_list, Ty.hok]; done)) ?_
         | refine ACall.scal _ _ (sSameFacts.ret _ _ ?_) rfl (by repeat' first | exact SeesL.nil | refine SeesL.cons ?_ ?_ | exact SeesB.of0 (Sees0.val _) | exact SeesB.of0 (Sees0.str _) | exact SeesB.of0 (Sees0.olds _ _) | exact SeesB.of0 (Sees0.old _) | exact SeesB.of0 (Sees0.oldagg _) | exact SeesB.of0 Sees0.nil | exact Sees0.val _ | exact Sees0.str _ | exact Sees0.olds _ _ | exact Sees0.old _ | exact Sees0.oldagg _ | exact Sees0.nil | exact SeesB.of0 (Sees0.any _) | refine SeesB.agg ?_ | refine Sees0.agg ?_ | exact SeesB.of0 (Sees0.clo SeesL.nil SeesL.nil) | exact Sees0.clo SeesL.nil SeesL.nil) ?_
         | refine AQCall.mk _ _ (fun hg => sSameFacts.ret _ _ ?_) rfl (fun _ => (by repeat' first | exact SeesL.nil | refine SeesL.cons ?_ ?_ | exact SeesB.of0 (Sees0.val _) | exact SeesB.of0 (Sees0.str _) | exact SeesB.of0 (Sees0.olds _ _) | exact SeesB.of0 (Sees0.old _) | exact SeesB.of0 (Sees0.oldagg _) | exact SeesB.of0 Sees0.nil | exact Sees0.val _ | exact Sees0.str _ | exact Sees0.olds _ _ | exact Sees0.old _ | exact Sees0.oldagg _ | exact Sees0.nil | exact SeesB.of0 (Sees0.any _) | refine SeesB.agg ?_ | refine Sees0.agg ?_ | exact SeesB.of0 (Sees0.clo SeesL.nil SeesL.nil) | exact Sees0.clo SeesL.nil SeesL.nil)) ?_
         | refine ACall.scal _ _ (pSameFacts.ret _ _ ?_) rfl (by repeat' first | exact SeesL.nil | refine SeesL.cons ?_ ?_ | exact SeesB.of0 (Sees0.val _) | exact SeesB.of0 (Sees0.str _) | exact SeesB.of0 (Sees0.olds _ _) | exact SeesB.of0 (Sees0.old _) | exact SeesB.of0 (Sees0.oldagg _) | exact SeesB.of0 Sees0.nil | exact Sees0.val _ | exact Sees0.str _ | exact Sees0.olds _ _ | exact Sees0.old _ | exact Sees0.oldagg _ | exact Sees0.nil | exact SeesB.of0 (Sees0.any _) | refine SeesB.agg ?_ | refine Sees0.agg ?_ | exact SeesB.of0 (Sees0.clo SeesL.nil SeesL.nil) | exact Sees0.clo SeesL.nil SeesL.nil) ?_
         | refine AQCall.mk _ _ (fun hg => pSameFacts.ret _ _ ?_) rfl (fun _ => (by repeat' first | exact SeesL.nil | refine SeesL.cons ?_ ?_ | exact SeesB.of0 (Sees0.val _) | exact SeesB.of0 (Sees0.str _) | exact SeesB.of0 (Sees0.olds _ _) | exact SeesB.of0 (Sees0.old _) | exact SeesB.of0 (Sees0.oldagg _) | exact SeesB.of0 Sees0.nil | exact Sees0.val _ | exact Sees0.str _ | exact Sees0.olds _ _ | exact Sees0.old _ | exact Sees0.oldagg _ | exact Sees0.nil | exact SeesB.of0 (Sees0.any _) | refine SeesB.agg ?_ | refine Sees0.agg ?_ | exact SeesB.of0 (Sees0.clo SeesL.nil SeesL.nil) | exact Sees0.clo SeesL.nil SeesL.nil)) ?_
         | refine ACall.scal _ _ (eqFactS.ret _ _ ?_) rfl (by repeat' first | exact SeesL.nil | refine SeesL.cons ?_ ?_ | exact SeesB.of0 (Sees0.val _) | exact SeesB.of0 (Sees0.str _) | exact SeesB.of0 (Sees0.olds _ _) | exact SeesB.of0 (Sees0.old _) | exact SeesB.of0 (Sees0.oldagg _) | exact SeesB.of0 Sees0.nil | exact Sees0.val _ | exact Sees0.str _ | exact Sees0.olds _ _ | exact Sees0.old _ | exact Sees0.oldagg _ | exact Sees0.nil | exact SeesB.of0 (Sees0.any _) | refine SeesB.agg ?_ | refine Sees0.agg ?_ | exact SeesB.of0 (Sees0.clo SeesL.nil SeesL.nil) | exact Sees0.clo SeesL.nil SeesL.nil) ?_
         | refine AQCall.mk _ _ (fun hg => eqFactS.ret _ _ ?_) rfl (fun _ => (by repeat' first | exact SeesL.nil | refine SeesL.cons ?_ ?_ | exact SeesB.of0 (Sees0.val _) | exact SeesB.of0 (Sees0.str _) | exact SeesB.of0 (Sees0.olds _ _) | exact SeesB.of0 (Sees0.old _) | exact SeesB.of0 (Sees0.oldagg _) | exact SeesB.of0 Sees0.nil | exact Sees0.val _ | exact Sees0.str _ | exact Sees0.olds _ _ | exact Sees0.old _ | exact Sees0.oldagg _ | exact Sees0.nil | exact SeesB.of0 (Sees0.any _) | refine SeesB.agg ?_ | refine Sees0.agg ?_ | exact SeesB.of0 (Sees0.clo SeesL.nil SeesL.nil) | exact Sees0.clo SeesL.nil SeesL.nil)) ?_)
    | refine AV.bool_congr ?_
    | refine AV.int_congr ?_
    | refine AV.str_congr ?_
    | refine AV.list_congr ?_
    | with_reducible rfl
    | refine fr1 ?_
    | refine fr2 ?_ ?_
  all_goals first
    | exact hz
    | exact hz2
    | omega
    | contradiction
    | (rename_i h; simp at h; done)
    | (rename_i h h'; simp at h; done)
def tFctsL : Ty (List Fct) := Ty.list 44 tFct
end Go.Proofs.Ytamcaplpgmloiaa
