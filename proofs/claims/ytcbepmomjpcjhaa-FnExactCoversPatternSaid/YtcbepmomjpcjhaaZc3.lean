/-
  What stands below some laws' proofs, part 3: contracts of functions, by an evaluator.
-/
import Derived.Test.YtcbepmomjpcjhaaZc2
namespace Go.Proofs.Ytcbepmomjpcjhaa
open Abs
abbrev pairs (b : List VPair) : List (List AV) := rows tPair b
theorem pr_le {l : List VPair} (i : Nat) : (l.getD i default).1.length + (l.getD i default).2.length ≤ listSize tPair l := by
  rcases Nat.lt_or_ge i l.length with h | h
  · exact tPair_le h
  · have : l.getD i default = default := by simp [List.getD, List.getElem?_eq_none h]
    rw [this]; exact Nat.zero_le _
def badB (b : List VPair) (i : Nat) : Bool := !varF (b.getD i default).1 || !atomF (b.getD i default).2 || decide ((0 : Int) < i) && !Op.bytesLess (b.getD (i - 1) default).1 (b.getD i default).1
theorem badB_step {b : List VPair} {i : Nat} {x : Int} (hx : x = (i : Int) - 1) :
    (!varF (b.getD i default).1 || !atomF (b.getD i default).2 || decide ((0 : Int) < i) && !Op.bytesLess (b.getD x.toNat default).1 (b.getD i default).1) = badB b i := by
  subst hx
  unfold badB
  rw [show ((i : Int) - 1).toNat = i - 1 by omega]
@[irreducible] def bindF (b : List VPair) : Bool := decide ((b.length : Int) ≤ 6) && (List.range b.length).all fun i => !badB b i
theorem bindF_no {b : List VPair} {i : Nat} (hi : i < b.length) (h : badB b i = true) : bindF b = false := by
  have : ((List.range b.length).all fun i => !badB b i) = false := by
    rw [List.all_eq_false]
    exact ⟨i, List.mem_range.2 hi, by simp [h]⟩
  unfold bindF; rw [this, Bool.and_false]
theorem bindF_yes {b : List VPair} (h : ∀ j, j < b.length → badB b j = false) : bindF b = decide ((b.length : Int) ≤ 6) := by
  have : ((List.range b.length).all fun i => !badB b i) = true := by
    rw [List.all_eq_true]
    intro j hj
    simp [h j (List.mem_range.1 hj)]
  unfold bindF; rw [this, Bool.and_true]
theorem bindF_long {b : List VPair} (h : ¬ (b.length : Int) ≤ 6) : bindF b = false := by unfold bindF; simp [h]
theorem sIsBinding.ret (b : List VPair) (h : tPairs.size b ≤ 1048576) : sIsBinding.Ret [.list none (pairs b)] (.val (.bool (bindF b))) [] := by
  refine sIsBinding.of rfl ?_
  rw [tPairs_sz] at h
  repeat' first
    | contradiction
    | (conv => whnf
       first
         | refine Need.mk (fun h => h) ?_
         | refine Need.mk rfl ?_
         | refine Need.mk ⟨rfl, Nat.le_of_ble_eq_true rfl⟩ ?_
         | refine Need.mk (Nat.le_of_ble_eq_true rfl) ?_
         | refine Need.mk (by intros; (try simp only [length_strs] at *); (try simp only [length_rows] at *); (try simp only [length_oldLL, List.length_map] at *); (try simp only [Bool.and_eq_true, decide_eq_true_eq] at *); omega) ?_
         | refine Need.mk ?_ ?_
         | refine Ix.strs rfl (by intros; (try simp only [length_strs] at *); (try simp only [length_rows] at *); (try simp only [length_oldLL, List.length_map] at *); (try simp only [Bool.and_eq_true, decide_eq_true_eq] at *); omega) ?_
         | refine Ix.strs rfl ?_ ?_
         | refine Cut.strs rfl ?_ ?_
         | refine Ix.map (fun _ => rfl) (by intros; (try simp only [length_strs] at *); (try simp only [length_rows] at *); (try simp only [length_oldLL, List.length_map] at *); (try simp only [Bool.and_eq_true, decide_eq_true_eq] at *); omega) ?_
         | refine Ix.map (fun _ => rfl) ?_ ?_
         | refine Cut.map (fun _ => rfl) ?_ ?_
         | refine Fork.yes (by assumption) ?_
         | refine Fork.no (by assumption) ?_
         | refine Fork.decYes (by omega) ?_
         | refine Fork.decNo (by omega) ?_
         | refine Fork.dec (fun _ => ?_) (fun _ => ?_)
         | refine Fork.bne (fun _ => ?_) (fun _ => ?_)
         | refine Fork.beq (fun _ => ?_) (fun _ => ?_)
         | refine Fork.seq (fun _ => ?_) (fun _ => ?_)
         | refine Fork.sne (fun _ => ?_) (fun _ => ?_)
         | refine Fork.neg (fun _ => ?_) (fun _ => ?_)
         | refine Fork.mk (fun _ => ?_) (fun _ => ?_)
         | refine Round.mk ?_
         | refine NilQ.mk (fun b hb => ?_)
         | refine forceK_of ?_
         | refine forceBx_of ?_
         | refine unG_old ?_
         | refine unG_gv ?_
         | refine Lit.read rfl ?_
         | refine FinVal.keep ?_
         | refine FinAgg.keep ?_
         | refine Final.mk rfl rfl
         | refine Final.mk ?_ rfl
         | refine Final.mk ?_ ?_
         | refine FinalT.mk ?_ ?_
         | refine FinalC.all (by repeat' first | exact Lends.nil | refine Lends.map _ ?_ | refine Lends.lend _ _ (by first | exact hx.1 | exact hy.1 | exact noTk_old _ | (intro c hc; rw [List.mem_singleton.1 hc]; rfl) | (intro c hc; cases hc; done)) ?_) ?_)
    | refine AV.bool_congr ?_
    | refine AV.int_congr ?_
    | refine AV.str_congr ?_
    | refine AV.list_congr ?_
    | with_reducible rfl
    | refine fr1 ?_
    | refine fr2 ?_ ?_
  refine ALoop.mk Nat (fun i => ⟨[(0, .list none (pairs b)), (3, .val (.int .i64 i))], [], []⟩) (fun i => i ≤ b.length ∧ ∀ j, j < i → badB b j = false) (fun i => b.length - i) ⟨0, ⟨Nat.zero_le _, by omega⟩, ?_⟩ (fun i hi => ?_)
  · repeat' first
      | exact trivial
      | refine Weak.mk ?_ ?_ ?_ ?_ (Or.inl (Nat.le_of_ble_eq_true rfl))
      | refine Weak.mk ?_ ?_ ?_ ?_ (Or.inr ⟨(by repeat' first | exact trivial | exact Nat.le_of_ble_eq_true rfl | refine And.intro ?_ ?_), (by repeat' first | exact trivial | exact Nat.le_of_ble_eq_true rfl | refine And.intro ?_ ?_)⟩)
      | refine Weak.mk ?_ ?_ ?_ ?_ ?_
      | refine And.intro ?_ ?_
      | with_reducible rfl
      | exact Nat.le_of_ble_eq_true rfl
      | refine fr1 ?_
      | refine fr2 ?_ ?_
      | refine AV.int_congr ?_
      | refine AV.bool_congr ?_
      | refine AV.str_congr ?_
      | refine AV.list_congr ?_
      | refine AV.bsl_congr ?_ ?_
      | (apply rfl)
  have hw : i < b.length → IntKind.i64.wrap ((i : Int) - 1) = (i : Int) - 1 := fun h => wrap64 (by omega) (by omega)
  have hp := pr_le (l := b) i
  have hp' := pr_le (l := b) (i - 1)
  repeat' first
    | contradiction
    | (conv => whnf
       first
         | refine Need.mk (fun h => h) ?_
         | refine Need.mk rfl ?_
         | refine Need.mk ⟨rfl, Nat.le_of_ble_eq_true rfl⟩ ?_
         | refine Need.mk (Nat.le_of_ble_eq_true rfl) ?_
         | refine Need.mk (by intros; (try simp only [length_strs] at *); (try simp only [length_rows] at *); (try simp only [length_oldLL, List.length_map] at *); (try simp only [Bool.and_eq_true, decide_eq_true_eq] at *); omega) ?_
         | refine Need.mk ?_ ?_
         | refine Ix.strs rfl (by intros; (try simp only [length_strs] at *); (try simp only [length_rows] at *); (try simp only [length_oldLL, List.length_map] at *); (try simp only [Bool.and_eq_true, decide_eq_true_eq] at *); omega) ?_
         | refine Ix.strs rfl ?_ ?_
         | refine Cut.strs rfl ?_ ?_
         | refine Ix.map (fun _ => rfl) (by intros; (try simp only [length_strs] at *); (try simp only [length_rows] at *); (try simp only [length_oldLL, List.length_map] at *); (try simp only [Bool.and_eq_true, decide_eq_true_eq] at *); omega) ?_
         | refine Ix.map (fun _ => rfl) ?_ ?_
         | refine Cut.map (fun _ => rfl) ?_ ?_
         | refine Fork.yes (by assumption) ?_
         | refine Fork.no (by assumption) ?_
         | refine Fork.decYes (by omega) ?_
         | refine Fork.decNo (by omega) ?_
         | refine Fork.dec (fun _ => ?_) (fun _ => ?_)
         | refine Fork.bne (fun _ => ?_) (fun _ => ?_)
         | refine Fork.beq (fun _ => ?_) (fun _ => ?_)
         | refine Fork.seq (fun _ => ?_) (fun _ => ?_)
         | refine Fork.sne (fun _ => ?_) (fun _ => ?_)
         | refine Fork.neg (fun _ => ?_) (fun _ => ?_)
         | refine Fork.mk (fun _ => ?_) (fun _ => ?_)
         | refine Round.mk ?_
         | refine NilQ.mk (fun b hb => ?_)
         | refine forceK_of ?_
         | refine forceBx_of ?_
         | refine unG_old ?_
         | refine unG_gv ?_
         | refine Lit.read rfl ?_
         | refine FinVal.keep ?_
         | refine FinAgg.keep ?_
         | refine Final.mk rfl rfl
         | refine Final.mk ?_ rfl
         | refine Final.mk ?_ ?_
         | refine FinalT.mk ?_ ?_
         | refine FinalC.all (by repeat' first | exact Lends.nil | refine Lends.map _ ?_ | refine Lends.lend _ _ (by first | exact hx.1 | exact hy.1 | exact noTk_old _ | (intro c hc; rw [List.mem_singleton.1 hc]; rfl) | (intro c hc; cases hc; done)) ?_) ?_
         | refine ACall.scal _ _ (sIsVar.ret _ ?_) rfl (by repeat' first | exact SeesL.nil | refine SeesL.cons ?_ ?_ | exact SeesB.of0 (Sees0.val _) | exact SeesB.of0 (Sees0.str _) | exact SeesB.of0 (Sees0.olds _ _) | exact SeesB.of0 (Sees0.old _) | exact SeesB.of0 (Sees0.oldagg _) | exact SeesB.of0 Sees0.nil | exact Sees0.val _ | exact Sees0.str _ | exact Sees0.olds _ _ | exact Sees0.old _ | exact Sees0.oldagg _ | exact Sees0.nil | exact SeesB.of0 (Sees0.any _) | assumption | exact sees_gv _ _ _ (by assumption) (by first | assumption | exact BoxIn.last _ _ | exact BoxIn.more (BoxIn.last _ _) _) | refine SeesB.agg ?_ | refine Sees0.agg ?_ | exact SeesB.of0 (Sees0.clo SeesL.nil SeesL.nil) | exact Sees0.clo SeesL.nil SeesL.nil) ?_
         | refine AQCall.mk _ _ (fun hg => sIsVar.ret _ ?_) rfl (fun _ => (by repeat' first | exact SeesL.nil | refine SeesL.cons ?_ ?_ | exact SeesB.of0 (Sees0.val _) | exact SeesB.of0 (Sees0.str _) | exact SeesB.of0 (Sees0.olds _ _) | exact SeesB.of0 (Sees0.old _) | exact SeesB.of0 (Sees0.oldagg _) | exact SeesB.of0 Sees0.nil | exact Sees0.val _ | exact Sees0.str _ | exact Sees0.olds _ _ | exact Sees0.old _ | exact Sees0.oldagg _ | exact Sees0.nil | exact SeesB.of0 (Sees0.any _) | assumption | exact sees_gv _ _ _ (by assumption) (by first | assumption | exact BoxIn.last _ _ | exact BoxIn.more (BoxIn.last _ _) _) | refine SeesB.agg ?_ | refine Sees0.agg ?_ | exact SeesB.of0 (Sees0.clo SeesL.nil SeesL.nil) | exact Sees0.clo SeesL.nil SeesL.nil)) ?_
         | refine ACall.scal _ _ (sIsAtom.ret _ ?_) rfl (by repeat' first | exact SeesL.nil | refine SeesL.cons ?_ ?_ | exact SeesB.of0 (Sees0.val _) | exact SeesB.of0 (Sees0.str _) | exact SeesB.of0 (Sees0.olds _ _) | exact SeesB.of0 (Sees0.old _) | exact SeesB.of0 (Sees0.oldagg _) | exact SeesB.of0 Sees0.nil | exact Sees0.val _ | exact Sees0.str _ | exact Sees0.olds _ _ | exact Sees0.old _ | exact Sees0.oldagg _ | exact Sees0.nil | exact SeesB.of0 (Sees0.any _) | assumption | exact sees_gv _ _ _ (by assumption) (by first | assumption | exact BoxIn.last _ _ | exact BoxIn.more (BoxIn.last _ _) _) | refine SeesB.agg ?_ | refine Sees0.agg ?_ | exact SeesB.of0 (Sees0.clo SeesL.nil SeesL.nil) | exact Sees0.clo SeesL.nil SeesL.nil) ?_
         | refine AQCall.mk _ _ (fun hg => sIsAtom.ret _ ?_) rfl (fun _ => (by repeat' first | exact SeesL.nil | refine SeesL.cons ?_ ?_ | exact SeesB.of0 (Sees0.val _) | exact SeesB.of0 (Sees0.str _) | exact SeesB.of0 (Sees0.olds _ _) | exact SeesB.of0 (Sees0.old _) | exact SeesB.of0 (Sees0.oldagg _) | exact SeesB.of0 Sees0.nil | exact Sees0.val _ | exact Sees0.str _ | exact Sees0.olds _ _ | exact Sees0.old _ | exact Sees0.oldagg _ | exact Sees0.nil | exact SeesB.of0 (Sees0.any _) | assumption | exact sees_gv _ _ _ (by assumption) (by first | assumption | exact BoxIn.last _ _ | exact BoxIn.more (BoxIn.last _ _) _) | refine SeesB.agg ?_ | refine Sees0.agg ?_ | exact SeesB.of0 (Sees0.clo SeesL.nil SeesL.nil) | exact Sees0.clo SeesL.nil SeesL.nil)) ?_)
    | refine AV.bool_congr ?_
    | refine AV.int_congr ?_
    | refine AV.str_congr ?_
    | refine AV.list_congr ?_
    | with_reducible rfl
    | refine fr1 ?_
    | refine fr2 ?_ ?_
  all_goals try simp only [length_rows, length_strs, length_oldLL, List.length_map, Int.toNat_natCast] at *
  all_goals try omega
  · rename_i h1 h2
    rw [badB_step (hw (by omega))] at h1
    rw [bindF_no (by omega) h1]
  · rename_i h1 h2
    rw [badB_step (hw (by omega))] at h1
    refine ⟨i + 1, ⟨by omega, fun j hj => ?_⟩, ?_, by omega⟩
    · rcases Nat.lt_or_ge j i with h | h
      · exact hi.2 j h
      · have : j = i := by omega
        subst this; exact h1
    · repeat' first
        | exact trivial
        | refine Weak.mk ?_ ?_ ?_ ?_ (Or.inl (Nat.le_of_ble_eq_true rfl))
        | refine Weak.mk ?_ ?_ ?_ ?_ (Or.inr ⟨(by repeat' first | exact trivial | exact Nat.le_of_ble_eq_true rfl | refine And.intro ?_ ?_), (by repeat' first | exact trivial | exact Nat.le_of_ble_eq_true rfl | refine And.intro ?_ ?_)⟩)
        | refine Weak.mk ?_ ?_ ?_ ?_ ?_
        | refine And.intro ?_ ?_
        | with_reducible rfl
        | exact Nat.le_of_ble_eq_true rfl
        | refine fr1 ?_
        | refine fr2 ?_ ?_
        | refine AV.int_congr ?_
        | refine AV.bool_congr ?_
        | refine AV.str_congr ?_
        | refine AV.list_congr ?_
        | refine AV.bsl_congr ?_ ?_
        | (apply rfl)
      rw [wrap64 (by omega) (by omega)]; rfl
  · rw [bindF_yes (fun j hj => hi.2 j (by omega))]
theorem pIsBinding.ret (b : List VPair) (h : tPairs.size b ≤ 1048576) : pIsBinding.Ret [.list none (pairs b)] (.val (.bool (bindF b))) [] := by
  refine pIsBinding.of rfl ?_
  rw [tPairs_sz] at h
  repeat' first
    | contradiction
    | (conv => whnf
       first
         | refine Need.mk (fun h => h) ?_
         | refine Need.mk rfl ?_
         | refine Need.mk ⟨rfl, Nat.le_of_ble_eq_true rfl⟩ ?_
         | refine Need.mk (Nat.le_of_ble_eq_true rfl) ?_
         | refine Need.mk (by intros; (try simp only [length_strs] at *); (try simp only [length_rows] at *); (try simp only [length_oldLL, List.length_map] at *); (try simp only [Bool.and_eq_true, decide_eq_true_eq] at *); omega) ?_
         | refine Need.mk ?_ ?_
         | refine Ix.strs rfl (by intros; (try simp only [length_strs] at *); (try simp only [length_rows] at *); (try simp only [length_oldLL, List.length_map] at *); (try simp only [Bool.and_eq_true, decide_eq_true_eq] at *); omega) ?_
         | refine Ix.strs rfl ?_ ?_
         | refine Cut.strs rfl ?_ ?_
         | refine Ix.map (fun _ => rfl) (by intros; (try simp only [length_strs] at *); (try simp only [length_rows] at *); (try simp only [length_oldLL, List.length_map] at *); (try simp only [Bool.and_eq_true, decide_eq_true_eq] at *); omega) ?_
         | refine Ix.map (fun _ => rfl) ?_ ?_
         | refine Cut.map (fun _ => rfl) ?_ ?_
         | refine Fork.yes (by assumption) ?_
         | refine Fork.no (by assumption) ?_
         | refine Fork.decYes (by omega) ?_
         | refine Fork.decNo (by omega) ?_
         | refine Fork.dec (fun _ => ?_) (fun _ => ?_)
         | refine Fork.bne (fun _ => ?_) (fun _ => ?_)
         | refine Fork.beq (fun _ => ?_) (fun _ => ?_)
         | refine Fork.seq (fun _ => ?_) (fun _ => ?_)
         | refine Fork.sne (fun _ => ?_) (fun _ => ?_)
         | refine Fork.neg (fun _ => ?_) (fun _ => ?_)
         | refine Fork.mk (fun _ => ?_) (fun _ => ?_)
         | refine Round.mk ?_
         | refine NilQ.mk (fun b hb => ?_)
         | refine forceK_of ?_
         | refine forceBx_of ?_
         | refine unG_old ?_
         | refine unG_gv ?_
         | refine Lit.read rfl ?_
         | refine FinVal.keep ?_
         | refine FinAgg.keep ?_
         | refine Final.mk rfl rfl
         | refine Final.mk ?_ rfl
         | refine Final.mk ?_ ?_
         | refine FinalT.mk ?_ ?_
         | refine FinalC.all (by repeat' first | exact Lends.nil | refine Lends.map _ ?_ | refine Lends.lend _ _ (by first | exact hx.1 | exact hy.1 | exact noTk_old _ | (intro c hc; rw [List.mem_singleton.1 hc]; rfl) | (intro c hc; cases hc; done)) ?_) ?_)
    | refine AV.bool_congr ?_
    | refine AV.int_congr ?_
    | refine AV.str_congr ?_
    | refine AV.list_congr ?_
    | with_reducible rfl
    | refine fr1 ?_
    | refine fr2 ?_ ?_
  · rename_i h1
    rw [length_rows] at h1
    rw [bindF_long (by omega)]
  rename_i h6
  rw [length_rows] at h6
  repeat' first
    | contradiction
    | (conv => whnf
       first
         | refine Need.mk (fun h => h) ?_
         | refine Need.mk rfl ?_
         | refine Need.mk ⟨rfl, Nat.le_of_ble_eq_true rfl⟩ ?_
         | refine Need.mk (Nat.le_of_ble_eq_true rfl) ?_
         | refine Need.mk (by intros; (try simp only [length_strs] at *); (try simp only [length_rows] at *); (try simp only [length_oldLL, List.length_map] at *); (try simp only [Bool.and_eq_true, decide_eq_true_eq] at *); omega) ?_
         | refine Need.mk ?_ ?_
         | refine Ix.strs rfl (by intros; (try simp only [length_strs] at *); (try simp only [length_rows] at *); (try simp only [length_oldLL, List.length_map] at *); (try simp only [Bool.and_eq_true, decide_eq_true_eq] at *); omega) ?_
         | refine Ix.strs rfl ?_ ?_
         | refine Cut.strs rfl ?_ ?_
         | refine Ix.map (fun _ => rfl) (by intros; (try simp only [length_strs] at *); (try simp only [length_rows] at *); (try simp only [length_oldLL, List.length_map] at *); (try simp only [Bool.and_eq_true, decide_eq_true_eq] at *); omega) ?_
         | refine Ix.map (fun _ => rfl) ?_ ?_
         | refine Cut.map (fun _ => rfl) ?_ ?_
         | refine Fork.yes (by assumption) ?_
         | refine Fork.no (by assumption) ?_
         | refine Fork.decYes (by omega) ?_
         | refine Fork.decNo (by omega) ?_
         | refine Fork.dec (fun _ => ?_) (fun _ => ?_)
         | refine Fork.bne (fun _ => ?_) (fun _ => ?_)
         | refine Fork.beq (fun _ => ?_) (fun _ => ?_)
         | refine Fork.seq (fun _ => ?_) (fun _ => ?_)
         | refine Fork.sne (fun _ => ?_) (fun _ => ?_)
         | refine Fork.neg (fun _ => ?_) (fun _ => ?_)
         | refine Fork.mk (fun _ => ?_) (fun _ => ?_)
         | refine Round.mk ?_
         | refine NilQ.mk (fun b hb => ?_)
         | refine forceK_of ?_
         | refine forceBx_of ?_
         | refine unG_old ?_
         | refine unG_gv ?_
         | refine Lit.read rfl ?_
         | refine FinVal.keep ?_
         | refine FinAgg.keep ?_
         | refine Final.mk rfl rfl
         | refine Final.mk ?_ rfl
         | refine Final.mk ?_ ?_
         | refine FinalT.mk ?_ ?_
         | refine FinalC.all (by repeat' first | exact Lends.nil | refine Lends.map _ ?_ | refine Lends.lend _ _ (by first | exact hx.1 | exact hy.1 | exact noTk_old _ | (intro c hc; rw [List.mem_singleton.1 hc]; rfl) | (intro c hc; cases hc; done)) ?_) ?_)
    | refine AV.bool_congr ?_
    | refine AV.int_congr ?_
    | refine AV.str_congr ?_
    | refine AV.list_congr ?_
    | with_reducible rfl
    | refine fr1 ?_
    | refine fr2 ?_ ?_
  refine ALoop.mk Nat (fun i => ⟨[(0, .list none (pairs b)), (8, .list none (pairs b)), (9, .val (.int .i64 b.length)), (10, .val (.int .i64 i))], [], []⟩) (fun i => i ≤ b.length ∧ ∀ j, j < i → badB b j = false) (fun i => b.length - i) ⟨0, ⟨Nat.zero_le _, by omega⟩, ?_⟩ (fun i hi => ?_)
  · repeat' first
      | exact trivial
      | refine Weak.mk ?_ ?_ ?_ ?_ (Or.inl (Nat.le_of_ble_eq_true rfl))
      | refine Weak.mk ?_ ?_ ?_ ?_ (Or.inr ⟨(by repeat' first | exact trivial | exact Nat.le_of_ble_eq_true rfl | refine And.intro ?_ ?_), (by repeat' first | exact trivial | exact Nat.le_of_ble_eq_true rfl | refine And.intro ?_ ?_)⟩)
      | refine Weak.mk ?_ ?_ ?_ ?_ ?_
      | refine And.intro ?_ ?_
      | with_reducible rfl
      | exact Nat.le_of_ble_eq_true rfl
      | refine fr1 ?_
      | refine fr2 ?_ ?_
      | refine AV.int_congr ?_
      | refine AV.bool_congr ?_
      | refine AV.str_congr ?_
      | refine AV.list_congr ?_
      | refine AV.bsl_congr ?_ ?_
      | (apply rfl)
    simp
  have hw : i < b.length → IntKind.i64.wrap ((i : Int) - 1) = (i : Int) - 1 := fun h => wrap64 (by omega) (by omega)
  have hp := pr_le (l := b) i
  have hp' := pr_le (l := b) (i - 1)
  repeat' first
    | contradiction
    | (conv => whnf
       first
         | refine Need.mk (fun h => h) ?_
         | refine Need.mk rfl ?_
         | refine Need.mk ⟨rfl, Nat.le_of_ble_eq_true rfl⟩ ?_
         | refine Need.mk (Nat.le_of_ble_eq_true rfl) ?_
         | refine Need.mk (by intros; (try simp only [length_strs] at *); (try simp only [length_rows] at *); (try simp only [length_oldLL, List.length_map] at *); (try simp only [Bool.and_eq_true, decide_eq_true_eq] at *); omega) ?_
         | refine Need.mk ?_ ?_
         | refine Ix.strs rfl (by intros; (try simp only [length_strs] at *); (try simp only [length_rows] at *); (try simp only [length_oldLL, List.length_map] at *); (try simp only [Bool.and_eq_true, decide_eq_true_eq] at *); omega) ?_
         | refine Ix.strs rfl ?_ ?_
         | refine Cut.strs rfl ?_ ?_
         | refine Ix.map (fun _ => rfl) (by intros; (try simp only [length_strs] at *); (try simp only [length_rows] at *); (try simp only [length_oldLL, List.length_map] at *); (try simp only [Bool.and_eq_true, decide_eq_true_eq] at *); omega) ?_
         | refine Ix.map (fun _ => rfl) ?_ ?_
         | refine Cut.map (fun _ => rfl) ?_ ?_
         | refine Fork.yes (by assumption) ?_
         | refine Fork.no (by assumption) ?_
         | refine Fork.decYes (by omega) ?_
         | refine Fork.decNo (by omega) ?_
         | refine Fork.dec (fun _ => ?_) (fun _ => ?_)
         | refine Fork.bne (fun _ => ?_) (fun _ => ?_)
         | refine Fork.beq (fun _ => ?_) (fun _ => ?_)
         | refine Fork.seq (fun _ => ?_) (fun _ => ?_)
         | refine Fork.sne (fun _ => ?_) (fun _ => ?_)
         | refine Fork.neg (fun _ => ?_) (fun _ => ?_)
         | refine Fork.mk (fun _ => ?_) (fun _ => ?_)
         | refine Round.mk ?_
         | refine NilQ.mk (fun b hb => ?_)
         | refine forceK_of ?_
         | refine forceBx_of ?_
         | refine unG_old ?_
         | refine unG_gv ?_
         | refine Lit.read rfl ?_
         | refine FinVal.keep ?_
         | refine FinAgg.keep ?_
         | refine Final.mk rfl rfl
         | refine Final.mk ?_ rfl
         | refine Final.mk ?_ ?_
         | refine FinalT.mk ?_ ?_
         | refine FinalC.all (by repeat' first | exact Lends.nil | refine Lends.map _ ?_ | refine Lends.lend _ _ (by first | exact hx.1 | exact hy.1 | exact noTk_old _ | (intro c hc; rw [List.mem_singleton.1 hc]; rfl) | (intro c hc; cases hc; done)) ?_) ?_
         | refine ACall.scal _ _ (pIsVar.ret _ ?_) rfl (by repeat' first | exact SeesL.nil | refine SeesL.cons ?_ ?_ | exact SeesB.of0 (Sees0.val _) | exact SeesB.of0 (Sees0.str _) | exact SeesB.of0 (Sees0.olds _ _) | exact SeesB.of0 (Sees0.old _) | exact SeesB.of0 (Sees0.oldagg _) | exact SeesB.of0 Sees0.nil | exact Sees0.val _ | exact Sees0.str _ | exact Sees0.olds _ _ | exact Sees0.old _ | exact Sees0.oldagg _ | exact Sees0.nil | exact SeesB.of0 (Sees0.any _) | assumption | exact sees_gv _ _ _ (by assumption) (by first | assumption | exact BoxIn.last _ _ | exact BoxIn.more (BoxIn.last _ _) _) | refine SeesB.agg ?_ | refine Sees0.agg ?_ | exact SeesB.of0 (Sees0.clo SeesL.nil SeesL.nil) | exact Sees0.clo SeesL.nil SeesL.nil) ?_
         | refine AQCall.mk _ _ (fun hg => pIsVar.ret _ ?_) rfl (fun _ => (by repeat' first | exact SeesL.nil | refine SeesL.cons ?_ ?_ | exact SeesB.of0 (Sees0.val _) | exact SeesB.of0 (Sees0.str _) | exact SeesB.of0 (Sees0.olds _ _) | exact SeesB.of0 (Sees0.old _) | exact SeesB.of0 (Sees0.oldagg _) | exact SeesB.of0 Sees0.nil | exact Sees0.val _ | exact Sees0.str _ | exact Sees0.olds _ _ | exact Sees0.old _ | exact Sees0.oldagg _ | exact Sees0.nil | exact SeesB.of0 (Sees0.any _) | assumption | exact sees_gv _ _ _ (by assumption) (by first | assumption | exact BoxIn.last _ _ | exact BoxIn.more (BoxIn.last _ _) _) | refine SeesB.agg ?_ | refine Sees0.agg ?_ | exact SeesB.of0 (Sees0.clo SeesL.nil SeesL.nil) | exact Sees0.clo SeesL.nil SeesL.nil)) ?_
         | refine ACall.scal _ _ (pIsAtom.ret _ ?_) rfl (by repeat' first | exact SeesL.nil | refine SeesL.cons ?_ ?_ | exact SeesB.of0 (Sees0.val _) | exact SeesB.of0 (Sees0.str _) | exact SeesB.of0 (Sees0.olds _ _) | exact SeesB.of0 (Sees0.old _) | exact SeesB.of0 (Sees0.oldagg _) | exact SeesB.of0 Sees0.nil | exact Sees0.val _ | exact Sees0.str _ | exact Sees0.olds _ _ | exact Sees0.old _ | exact Sees0.oldagg _ | exact Sees0.nil | exact SeesB.of0 (Sees0.any _) | assumption | exact sees_gv _ _ _ (by assumption) (by first | assumption | exact BoxIn.last _ _ | exact BoxIn.more (BoxIn.last _ _) _) | refine SeesB.agg ?_ | refine Sees0.agg ?_ | exact SeesB.of0 (Sees0.clo SeesL.nil SeesL.nil) | exact Sees0.clo SeesL.nil SeesL.nil) ?_
         | refine AQCall.mk _ _ (fun hg => pIsAtom.ret _ ?_) rfl (fun _ => (by repeat' first | exact SeesL.nil | refine SeesL.cons ?_ ?_ | exact SeesB.of0 (Sees0.val _) | exact SeesB.of0 (Sees0.str _) | exact SeesB.of0 (Sees0.olds _ _) | exact SeesB.of0 (Sees0.old _) | exact SeesB.of0 (Sees0.oldagg _) | exact SeesB.of0 Sees0.nil | exact Sees0.val _ | exact Sees0.str _ | exact Sees0.olds _ _ | exact Sees0.old _ | exact Sees0.oldagg _ | exact Sees0.nil | exact SeesB.of0 (Sees0.any _) | assumption | exact sees_gv _ _ _ (by assumption) (by first | assumption | exact BoxIn.last _ _ | exact BoxIn.more (BoxIn.last _ _) _) | refine SeesB.agg ?_ | refine Sees0.agg ?_ | exact SeesB.of0 (Sees0.clo SeesL.nil SeesL.nil) | exact Sees0.clo SeesL.nil SeesL.nil)) ?_)
    | refine AV.bool_congr ?_
    | refine AV.int_congr ?_
    | refine AV.str_congr ?_
    | refine AV.list_congr ?_
    | with_reducible rfl
    | refine fr1 ?_
    | refine fr2 ?_ ?_
  all_goals try simp only [length_rows, length_strs, length_oldLL, List.length_map, Int.toNat_natCast] at *
  all_goals try omega
  · rename_i h2 h1
    rw [badB_step (hw (by omega))] at h1
    rw [bindF_no (by omega) h1]
  · rename_i h2 h1
    rw [badB_step (hw (by omega))] at h1
    refine ⟨i + 1, ⟨by omega, fun j hj => ?_⟩, ?_, by omega⟩
    · rcases Nat.lt_or_ge j i with h | h
      · exact hi.2 j h
      · have : j = i := by omega
        subst this; exact h1
    · repeat' first
        | exact trivial
        | refine Weak.mk ?_ ?_ ?_ ?_ (Or.inl (Nat.le_of_ble_eq_true rfl))
        | refine Weak.mk ?_ ?_ ?_ ?_ (Or.inr ⟨(by repeat' first | exact trivial | exact Nat.le_of_ble_eq_true rfl | refine And.intro ?_ ?_), (by repeat' first | exact trivial | exact Nat.le_of_ble_eq_true rfl | refine And.intro ?_ ?_)⟩)
        | refine Weak.mk ?_ ?_ ?_ ?_ ?_
        | refine And.intro ?_ ?_
        | with_reducible rfl
        | exact Nat.le_of_ble_eq_true rfl
        | refine fr1 ?_
        | refine fr2 ?_ ?_
        | refine AV.int_congr ?_
        | refine AV.bool_congr ?_
        | refine AV.str_congr ?_
        | refine AV.list_congr ?_
        | refine AV.bsl_congr ?_ ?_
        | (apply rfl)
      rw [wrap64 (by omega) (by omega)]; rfl
  · rw [bindF_yes (fun j hj => hi.2 j (by omega))]; simp; omega
def lookV : List VPair → Str → Option Str
  | [], _ => none
  | p :: b, t => if p.1 = t then some p.2 else lookV b t
theorem lookV_drop {b : List VPair} {t : Str} {i : Nat} (hi : i < b.length) : lookV (b.drop i) t = if (b.getD i default).1 = t then some (b.getD i default).2 else lookV (b.drop (i + 1)) t := by
  rw [List.drop_eq_getElem_cons hi, lookV]
  simp [List.getD, hi]
@[irreducible] def valF (b : List VPair) (t : Str) : Str × Bool := if atomF t then (t, true) else if varF t then (match lookV b t with | some v => (v, true) | none => ([], false)) else ([], false)
theorem valF_hit {b : List VPair} {t v : Str} (h1 : atomF t = false) (h2 : varF t = true) (h : lookV b t = some v) : valF b t = (v, true) := by
  unfold valF; rw [if_neg (by simp [h1]), if_pos h2, h]
theorem valF_miss {b : List VPair} {t : Str} (h1 : atomF t = false) (h : varF t = true → lookV b t = none) : valF b t = ([], false) := by
  unfold valF; rw [if_neg (by simp [h1])]
  split
  · rename_i hv; rw [h hv]
  · rfl
theorem sValueOf.ret (b : List VPair) (t : Str) (h : tPairs.size b ≤ 1048576) (ht : t.length ≤ 1048576) : sValueOf.Ret [.list none (pairs b), .str t] (.tup [.str (valF b t).1, .val (.bool (valF b t).2)]) [] := by
  refine sValueOf.ofS rfl rfl ?_
  rw [tPairs_sz] at h
  repeat' first
    | contradiction
    | (conv => whnf
       first
         | refine Need.mk (fun h => h) ?_
         | refine Need.mk rfl ?_
         | refine Need.mk ⟨rfl, Nat.le_of_ble_eq_true rfl⟩ ?_
         | refine Need.mk (Nat.le_of_ble_eq_true rfl) ?_
         | refine Need.mk (by intros; (try simp only [length_strs] at *); (try simp only [length_rows] at *); (try simp only [length_oldLL, List.length_map] at *); (try simp only [Bool.and_eq_true, decide_eq_true_eq] at *); omega) ?_
         | refine Need.mk ?_ ?_
         | refine Ix.strs rfl (by intros; (try simp only [length_strs] at *); (try simp only [length_rows] at *); (try simp only [length_oldLL, List.length_map] at *); (try simp only [Bool.and_eq_true, decide_eq_true_eq] at *); omega) ?_
         | refine Ix.strs rfl ?_ ?_
         | refine Cut.strs rfl ?_ ?_
         | refine Ix.map (fun _ => rfl) (by intros; (try simp only [length_strs] at *); (try simp only [length_rows] at *); (try simp only [length_oldLL, List.length_map] at *); (try simp only [Bool.and_eq_true, decide_eq_true_eq] at *); omega) ?_
         | refine Ix.map (fun _ => rfl) ?_ ?_
         | refine Cut.map (fun _ => rfl) ?_ ?_
         | refine Fork.yes (by assumption) ?_
         | refine Fork.no (by assumption) ?_
         | refine Fork.decYes (by omega) ?_
         | refine Fork.decNo (by omega) ?_
         | refine Fork.dec (fun _ => ?_) (fun _ => ?_)
         | refine Fork.bne (fun _ => ?_) (fun _ => ?_)
         | refine Fork.beq (fun _ => ?_) (fun _ => ?_)
         | refine Fork.seq (fun _ => ?_) (fun _ => ?_)
         | refine Fork.sne (fun _ => ?_) (fun _ => ?_)
         | refine Fork.neg (fun _ => ?_) (fun _ => ?_)
         | refine Fork.mk (fun _ => ?_) (fun _ => ?_)
         | refine Round.mk ?_
         | refine NilQ.mk (fun b hb => ?_)
         | refine forceK_of ?_
         | refine forceBx_of ?_
         | refine unG_old ?_
         | refine unG_gv ?_
         | refine Lit.read rfl ?_
         | refine FinVal.keep ?_
         | refine FinAgg.keep ?_
         | refine Final.mk rfl rfl
         | refine Final.mk ?_ rfl
         | refine Final.mk ?_ ?_
         | refine FinalT.mk ?_ ?_
         | refine FinalC.all (by repeat' first | exact Lends.nil | refine Lends.map _ ?_ | refine Lends.lend _ _ (by first | exact hx.1 | exact hy.1 | exact noTk_old _ | (intro c hc; rw [List.mem_singleton.1 hc]; rfl) | (intro c hc; cases hc; done)) ?_) ?_
         | refine ACall.scal _ _ (sIsAtom.ret _ ?_) rfl (by repeat' first | exact SeesL.nil | refine SeesL.cons ?_ ?_ | exact SeesB.of0 (Sees0.val _) | exact SeesB.of0 (Sees0.str _) | exact SeesB.of0 (Sees0.olds _ _) | exact SeesB.of0 (Sees0.old _) | exact SeesB.of0 (Sees0.oldagg _) | exact SeesB.of0 Sees0.nil | exact Sees0.val _ | exact Sees0.str _ | exact Sees0.olds _ _ | exact Sees0.old _ | exact Sees0.oldagg _ | exact Sees0.nil | exact SeesB.of0 (Sees0.any _) | assumption | exact sees_gv _ _ _ (by assumption) (by first | assumption | exact BoxIn.last _ _ | exact BoxIn.more (BoxIn.last _ _) _) | refine SeesB.agg ?_ | refine Sees0.agg ?_ | exact SeesB.of0 (Sees0.clo SeesL.nil SeesL.nil) | exact Sees0.clo SeesL.nil SeesL.nil) ?_
         | refine AQCall.mk _ _ (fun hg => sIsAtom.ret _ ?_) rfl (fun _ => (by repeat' first | exact SeesL.nil | refine SeesL.cons ?_ ?_ | exact SeesB.of0 (Sees0.val _) | exact SeesB.of0 (Sees0.str _) | exact SeesB.of0 (Sees0.olds _ _) | exact SeesB.of0 (Sees0.old _) | exact SeesB.of0 (Sees0.oldagg _) | exact SeesB.of0 Sees0.nil | exact Sees0.val _ | exact Sees0.str _ | exact Sees0.olds _ _ | exact Sees0.old _ | exact Sees0.oldagg _ | exact Sees0.nil | exact SeesB.of0 (Sees0.any _) | assumption | exact sees_gv _ _ _ (by assumption) (by first | assumption | exact BoxIn.last _ _ | exact BoxIn.more (BoxIn.last _ _) _) | refine SeesB.agg ?_ | refine Sees0.agg ?_ | exact SeesB.of0 (Sees0.clo SeesL.nil SeesL.nil) | exact Sees0.clo SeesL.nil SeesL.nil)) ?_)
    | refine AV.bool_congr ?_
    | refine AV.int_congr ?_
    | refine AV.str_congr ?_
    | refine AV.list_congr ?_
    | with_reducible rfl
    | refine fr1 ?_
    | refine fr2 ?_ ?_
  · exact ht
  · rename_i h1; unfold valF; rw [if_pos h1]
  rename_i h1
  refine ALoop.mk Nat (fun i => ⟨[(0, .list none (pairs b)), (1, .str t), (6, .val (.int .i64 i))], [], []⟩) (fun i => i ≤ b.length ∧ (varF t = true → lookV (b.drop i) t = lookV b t)) (fun i => b.length - i) ⟨0, ⟨Nat.zero_le _, fun _ => rfl⟩, ?_⟩ (fun i hi => ?_)
  · repeat' first
      | exact trivial
      | refine Weak.mk ?_ ?_ ?_ ?_ (Or.inl (Nat.le_of_ble_eq_true rfl))
      | refine Weak.mk ?_ ?_ ?_ ?_ (Or.inr ⟨(by repeat' first | exact trivial | exact Nat.le_of_ble_eq_true rfl | refine And.intro ?_ ?_), (by repeat' first | exact trivial | exact Nat.le_of_ble_eq_true rfl | refine And.intro ?_ ?_)⟩)
      | refine Weak.mk ?_ ?_ ?_ ?_ ?_
      | refine And.intro ?_ ?_
      | with_reducible rfl
      | exact Nat.le_of_ble_eq_true rfl
      | refine fr1 ?_
      | refine fr2 ?_ ?_
      | refine AV.int_congr ?_
      | refine AV.bool_congr ?_
      | refine AV.str_congr ?_
      | refine AV.list_congr ?_
      | refine AV.bsl_congr ?_ ?_
      | (apply rfl)
  repeat' first
    | contradiction
    | (conv => whnf
       first
         | refine Need.mk (fun h => h) ?_
         | refine Need.mk rfl ?_
         | refine Need.mk ⟨rfl, Nat.le_of_ble_eq_true rfl⟩ ?_
         | refine Need.mk (Nat.le_of_ble_eq_true rfl) ?_
         | refine Need.mk (by intros; (try simp only [length_strs] at *); (try simp only [length_rows] at *); (try simp only [length_oldLL, List.length_map] at *); (try simp only [Bool.and_eq_true, decide_eq_true_eq] at *); omega) ?_
         | refine Need.mk ?_ ?_
         | refine Ix.strs rfl (by intros; (try simp only [length_strs] at *); (try simp only [length_rows] at *); (try simp only [length_oldLL, List.length_map] at *); (try simp only [Bool.and_eq_true, decide_eq_true_eq] at *); omega) ?_
         | refine Ix.strs rfl ?_ ?_
         | refine Cut.strs rfl ?_ ?_
         | refine Ix.map (fun _ => rfl) (by intros; (try simp only [length_strs] at *); (try simp only [length_rows] at *); (try simp only [length_oldLL, List.length_map] at *); (try simp only [Bool.and_eq_true, decide_eq_true_eq] at *); omega) ?_
         | refine Ix.map (fun _ => rfl) ?_ ?_
         | refine Cut.map (fun _ => rfl) ?_ ?_
         | refine Fork.yes (by assumption) ?_
         | refine Fork.no (by assumption) ?_
         | refine Fork.decYes (by omega) ?_
         | refine Fork.decNo (by omega) ?_
         | refine Fork.dec (fun _ => ?_) (fun _ => ?_)
         | refine Fork.bne (fun _ => ?_) (fun _ => ?_)
         | refine Fork.beq (fun _ => ?_) (fun _ => ?_)
         | refine Fork.seq (fun _ => ?_) (fun _ => ?_)
         | refine Fork.sne (fun _ => ?_) (fun _ => ?_)
         | refine Fork.neg (fun _ => ?_) (fun _ => ?_)
         | refine Fork.mk (fun _ => ?_) (fun _ => ?_)
         | refine Round.mk ?_
         | refine NilQ.mk (fun b hb => ?_)
         | refine forceK_of ?_
         | refine forceBx_of ?_
         | refine unG_old ?_
         | refine unG_gv ?_
         | refine Lit.read rfl ?_
         | refine FinVal.keep ?_
         | refine FinAgg.keep ?_
         | refine Final.mk rfl rfl
         | refine Final.mk ?_ rfl
         | refine Final.mk ?_ ?_
         | refine FinalT.mk ?_ ?_
         | refine FinalC.all (by repeat' first | exact Lends.nil | refine Lends.map _ ?_ | refine Lends.lend _ _ (by first | exact hx.1 | exact hy.1 | exact noTk_old _ | (intro c hc; rw [List.mem_singleton.1 hc]; rfl) | (intro c hc; cases hc; done)) ?_) ?_
         | refine ACall.scal _ _ (sIsVar.ret _ ?_) rfl (by repeat' first | exact SeesL.nil | refine SeesL.cons ?_ ?_ | exact SeesB.of0 (Sees0.val _) | exact SeesB.of0 (Sees0.str _) | exact SeesB.of0 (Sees0.olds _ _) | exact SeesB.of0 (Sees0.old _) | exact SeesB.of0 (Sees0.oldagg _) | exact SeesB.of0 Sees0.nil | exact Sees0.val _ | exact Sees0.str _ | exact Sees0.olds _ _ | exact Sees0.old _ | exact Sees0.oldagg _ | exact Sees0.nil | exact SeesB.of0 (Sees0.any _) | assumption | exact sees_gv _ _ _ (by assumption) (by first | assumption | exact BoxIn.last _ _ | exact BoxIn.more (BoxIn.last _ _) _) | refine SeesB.agg ?_ | refine Sees0.agg ?_ | exact SeesB.of0 (Sees0.clo SeesL.nil SeesL.nil) | exact Sees0.clo SeesL.nil SeesL.nil) ?_
         | refine AQCall.mk _ _ (fun hg => sIsVar.ret _ ?_) rfl (fun _ => (by repeat' first | exact SeesL.nil | refine SeesL.cons ?_ ?_ | exact SeesB.of0 (Sees0.val _) | exact SeesB.of0 (Sees0.str _) | exact SeesB.of0 (Sees0.olds _ _) | exact SeesB.of0 (Sees0.old _) | exact SeesB.of0 (Sees0.oldagg _) | exact SeesB.of0 Sees0.nil | exact Sees0.val _ | exact Sees0.str _ | exact Sees0.olds _ _ | exact Sees0.old _ | exact Sees0.oldagg _ | exact Sees0.nil | exact SeesB.of0 (Sees0.any _) | assumption | exact sees_gv _ _ _ (by assumption) (by first | assumption | exact BoxIn.last _ _ | exact BoxIn.more (BoxIn.last _ _) _) | refine SeesB.agg ?_ | refine Sees0.agg ?_ | exact SeesB.of0 (Sees0.clo SeesL.nil SeesL.nil) | exact Sees0.clo SeesL.nil SeesL.nil)) ?_)
    | refine AV.bool_congr ?_
    | refine AV.int_congr ?_
    | refine AV.str_congr ?_
    | refine AV.list_congr ?_
    | with_reducible rfl
    | refine fr1 ?_
    | refine fr2 ?_ ?_
  all_goals try simp only [length_rows, length_strs, length_oldLL, List.length_map, Int.toNat_natCast] at *
  · exact ht
  · rename_i h2 h3
    simp only [Bool.and_eq_true, beq_iff_eq] at h2
    have h4 := lookV_drop (b := b) (t := t) (i := i) (by omega)
    rw [if_pos h2.1, hi.2 h2.2] at h4
    rw [valF_hit h1 h2.2 h4]
  · rename_i h2 h3
    have h4 := lookV_drop (b := b) (t := t) (i := i) (by omega)
    refine ⟨i + 1, ⟨by omega, fun hv => ?_⟩, ?_, by omega⟩
    · rw [hv] at h2
      rw [if_neg (by simpa using h2), hi.2 hv] at h4
      exact h4.symm
    repeat' first
      | exact trivial
      | refine Weak.mk ?_ ?_ ?_ ?_ (Or.inl (Nat.le_of_ble_eq_true rfl))
      | refine Weak.mk ?_ ?_ ?_ ?_ (Or.inr ⟨(by repeat' first | exact trivial | exact Nat.le_of_ble_eq_true rfl | refine And.intro ?_ ?_), (by repeat' first | exact trivial | exact Nat.le_of_ble_eq_true rfl | refine And.intro ?_ ?_)⟩)
      | refine Weak.mk ?_ ?_ ?_ ?_ ?_
      | refine And.intro ?_ ?_
      | with_reducible rfl
      | exact Nat.le_of_ble_eq_true rfl
      | refine fr1 ?_
      | refine fr2 ?_ ?_
      | refine AV.int_congr ?_
      | refine AV.bool_congr ?_
      | refine AV.str_congr ?_
      | refine AV.list_congr ?_
      | refine AV.bsl_congr ?_ ?_
      | (apply rfl)
    rw [wrap64 (by omega) (by omega)]; rfl
  · rw [valF_miss h1 (fun hv => by rw [← hi.2 hv, List.drop_eq_nil_of_le (by omega)]; rfl)]
end Go.Proofs.Ytcbepmomjpcjhaa
namespace Go.Proofs
open Go.Shelf
def Try.lays190_ren : Go.Shelf.Ren := ⟨fun | 190 => 126 | 125 => 145 | 258 => 147 | 128 => 167 | 129 => 168 | 302 => 170 | 303 => 171 | 304 => 172 | 305 => 173 | 306 => 174 | 307 => 175 | 308 => 176 | 309 => 177 | 310 => 178 | 333 => 190 | 329 => 186 | 330 => 187 | 334 => 191 | 335 => 192 | 336 => 148 | 344 => 196 | n => n, fun | 31 => 22 | 9 => 9 | 3 => 3 | 46 => 116 | 0 => 0 | 51 => 147 | 53 => 149 | 4 => 4 | 183 => 141 | 182 => 140 | 131 => 93 | 5 => 5 | 218 => 160 | 222 => 164 | 228 => 171 | 229 => 172 | n => n, fun | n => n⟩
theorem Try.lays190 : Go.Proofs.Lays.n190 Try.prog Try.lays190_ren := {
  mixed := by kernel_rfl
  f125 := Try.func145.trans (congrArg some (by kernel_rfl))
  f128 := Try.func167.trans (congrArg some (by kernel_rfl))
  f129 := Try.func168.trans (congrArg some (by kernel_rfl))
  f190 := Try.func126.trans (congrArg some (by kernel_rfl))
  f258 := Try.func147.trans (congrArg some (by kernel_rfl))
  f302 := Try.func170.trans (congrArg some (by kernel_rfl))
  f303 := Try.func171.trans (congrArg some (by kernel_rfl))
  f304 := Try.func172.trans (congrArg some (by kernel_rfl))
  f305 := Try.func173.trans (congrArg some (by kernel_rfl))
  f306 := Try.func174.trans (congrArg some (by kernel_rfl))
  f307 := Try.func175.trans (congrArg some (by kernel_rfl))
  f308 := Try.func176.trans (congrArg some (by kernel_rfl))
  f309 := Try.func177.trans (congrArg some (by kernel_rfl))
  f310 := Try.func178.trans (congrArg some (by kernel_rfl))
  f329 := Try.func186.trans (congrArg some (by kernel_rfl))
  f330 := Try.func187.trans (congrArg some (by kernel_rfl))
  f333 := Try.func190.trans (congrArg some (by kernel_rfl))
  f334 := Try.func191.trans (congrArg some (by kernel_rfl))
  f335 := Try.func192.trans (congrArg some (by kernel_rfl))
  f336 := Try.func148.trans (congrArg some (by kernel_rfl))
  f344 := Try.func196.trans (congrArg some (by kernel_rfl))
  t0 := Try.underlying0
  a0 := Try.isAgg0
  z0 := Try.sizeOf0
  v0 := Try.zeroValue0
  t3 := Try.underlying3
  a3 := Try.isAgg3
  z3 := Try.sizeOf3
  v3 := Try.zeroValue3
  t4 := Try.underlying4
  a4 := Try.isAgg4
  z4 := Try.sizeOf4
  v4 := Try.zeroValue4
  t5 := Try.underlying5
  a5 := Try.isAgg5
  z5 := Try.sizeOf5
  v5 := Try.zeroValue5
  t9 := Try.underlying9
  a9 := Try.isAgg9
  z9 := Try.sizeOf9
  v9 := Try.zeroValue9
  t31 := Try.underlying22
  a31 := Try.isAgg22
  z31 := Try.sizeOf22
  v31 := Try.zeroValue22
  t46 := Try.underlying116
  a46 := Try.isAgg116
  z46 := Try.sizeOf116
  v46 := Try.zeroValue116
  t51 := Try.underlying147
  a51 := Try.isAgg147
  z51 := Try.sizeOf147
  v51 := Try.zeroValue147
  t53 := Try.underlying149
  a53 := Try.isAgg149
  z53 := Try.sizeOf149
  v53 := Try.zeroValue149
  t131 := Try.underlying93
  a131 := Try.isAgg93
  z131 := Try.sizeOf93
  v131 := Try.zeroValue93
  t182 := Try.underlying140
  a182 := Try.isAgg140
  z182 := Try.sizeOf140
  v182 := Try.zeroValue140
  t183 := Try.underlying141
  a183 := Try.isAgg141
  z183 := Try.sizeOf141
  v183 := Try.zeroValue141
  t218 := Try.underlying160
  a218 := Try.isAgg160
  z218 := Try.sizeOf160
  v218 := Try.zeroValue160
  t222 := Try.underlying164
  a222 := Try.isAgg164
  z222 := Try.sizeOf164
  v222 := Try.zeroValue164
  t228 := Try.underlying171
  a228 := Try.isAgg171
  z228 := Try.sizeOf171
  v228 := Try.zeroValue171
  t229 := Try.underlying172
  a229 := Try.isAgg172
  z229 := Try.sizeOf172
  v229 := Try.zeroValue172 }
open Go.Sort Go.RowKit in
theorem Try.slices_Sort_string (blk off cap : Nat) (ss : List (List UInt8)) (w : World) (hH : Holds encStr w blk off ss.toArray) (hblk : blk < w.heap.size) (hsz : ss.length < 4611686018427387904) :
    Calls Try.prog 126 #[.slice (some ⟨blk, off, none⟩) ss.length cap] w fun e w' =>
      e = .returned (.tuple #[]) ∧ ∃ n os, w' = grow (putRow encStr (Sort.ahead w n) blk off (ss.mergeSort fun x y => decide (x ≤ y)).toArray) os := Any.slices_Sort_string Try.lays190 blk off cap ss w hH hblk hsz
open Go.RowKit Go.Lib Go.Sort in
open Go.RowKit Go.Lib Go.Sort in
open Go.RowKit Go.Sort in
theorem Try.slices_Sort_string_none (p : Option Addr) (cap : Nat) (w : World) :
    Calls Try.prog 126 #[.slice p 0 cap] w fun e w' => e = .returned (.tuple #[]) ∧ w' = w := Any.slices_Sort_string_none Try.lays190 p cap w
end Go.Proofs
namespace Go.Proofs.Ytcbepmomjpcjhaa
open Abs Go.RowKit Go.Sort
/-- ascending, byte by byte -/
def srt (ss : List Str) : List Str := ss.mergeSort fun x y => decide (x ≤ y)
end Go.Proofs.Ytcbepmomjpcjhaa
namespace Go.Proofs.Ytcbepmomjpcjhaa
open Abs
structure STO {α : Type} (lt : α → α → Bool) : Prop where
  irrefl : ∀ x, lt x x = false
  trans : ∀ x y z, lt x y = true → lt y z = true → lt x z = true
  tri : ∀ x y, lt x y = false → lt y x = false → x = y
section
variable {α : Type} {lt : α → α → Bool}
theorem STO.asymm (h : STO lt) {x y : α} (hxy : lt x y = true) : lt y x = false := by
  cases hyx : lt y x with
  | false => rfl
  | true => have := h.trans x y x hxy hyx; rw [h.irrefl] at this; cases this
variable [Inhabited α] [DecidableEq α]
end
def blt (a b : Str) : Bool := Op.bytesLess a b
theorem blt_eq : ∀ a b : Str, blt a b = decide (a < b)
  | _, [] => by simp [blt, Op.bytesLess]
  | [], _ :: _ => by simp [blt, Op.bytesLess]
  | a :: x, b :: y => by
    have ih := blt_eq x y
    rw [blt] at ih ⊢
    rw [Op.bytesLess, ih]
    rw [Bool.eq_iff_iff]
    simp only [Bool.or_eq_true, Bool.and_eq_true, decide_eq_true_eq, beq_iff_eq]
    rw [List.cons_lt_cons_iff]
theorem blt_sto : STO blt where
  irrefl x := by rw [blt_eq]; simp [List.lt_irrefl]
  trans x y z h1 h2 := by rw [blt_eq, decide_eq_true_eq] at *; exact List.lt_trans h1 h2
  tri x y h1 h2 := by
    rw [blt_eq, decide_eq_false_iff_not] at *
    exact List.le_antisymm (List.not_lt.1 h2) (List.not_lt.1 h1)
end Go.Proofs.Ytcbepmomjpcjhaa
namespace Go.Proofs.Ytcbepmomjpcjhaa
open Abs
/-- the variables among some texts -/
def vs (l : List Str) : List Str := l.filter varF
end Go.Proofs.Ytcbepmomjpcjhaa
namespace Go.Proofs
open Go.RowKit Go.Maps Go.Sort Go.Shelf
def Try.keys134_ren : Go.Shelf.Ren := ⟨fun | 7 => 134 | 10 => 151 | n => n, fun | 23 => 97 | 26 => 9 | 3 => 9 | 28 => 121 | 0 => 0 | 27 => 120 | 33 => 81 | 4 => 4 | n => n, fun | n => n⟩
theorem Try.keys134 : Go.Proofs.SlLaysZ.n7 Try.prog Try.keys134_ren := {
  mixed := by kernel_rfl
  f7 := ⟨Try.f134.name, by decide, Try.func134.trans (congrArg some (by kernel_rfl))⟩
  f10 := ⟨Try.f151.name, by decide, Try.func151.trans (congrArg some (by kernel_rfl))⟩
  t0 := Try.underlying0
  a0 := Try.isAgg0
  z0 := Try.sizeOf0
  v0 := Try.zeroValue0
  t4 := Try.underlying4
  a4 := Try.isAgg4
  z4 := Try.sizeOf4
  v4 := Try.zeroValue4
  t23 := Try.underlying97
  a23 := Try.isAgg97
  z23 := Try.sizeOf97
  v23 := Try.zeroValue97
  t26 := Try.underlying9
  a26 := Try.isAgg9
  z26 := Try.sizeOf9
  v26 := Try.zeroValue9
  t27 := Try.underlying120
  a27 := Try.isAgg120
  z27 := Try.sizeOf120
  v27 := Try.zeroValue120
  t28 := Try.underlying121
  a28 := Try.isAgg121
  z28 := Try.sizeOf121
  v28 := Try.zeroValue121
  t33 := Try.underlying81
  a33 := Try.isAgg81
  z33 := Try.sizeOf81
  v33 := Try.zeroValue81 }
def Try.sorted133_ren : Go.Shelf.Ren := ⟨fun | 6 => 133 | 8 => 150 | 9 => 126 | 11 => 180 | 13 => 145 | 12 => 147 | 23 => 167 | 24 => 168 | 14 => 170 | 15 => 171 | 16 => 172 | 17 => 173 | 18 => 174 | 19 => 175 | 20 => 176 | 21 => 177 | 22 => 178 | 25 => 190 | 26 => 186 | 27 => 187 | 28 => 191 | 29 => 192 | 30 => 148 | 31 => 196 | n => n, fun | 26 => 9 | 28 => 121 | 24 => 22 | 0 => 0 | 3 => 3 | 37 => 116 | 48 => 147 | 50 => 149 | 4 => 4 | 40 => 141 | 39 => 140 | 45 => 93 | 5 => 5 | 9 => 9 | 51 => 160 | 55 => 164 | 57 => 171 | 58 => 172 | 33 => 81 | n => n, fun | n => n⟩
theorem Try.sorted133 : Go.Proofs.SlLaysZ.n6 Try.prog Try.sorted133_ren := {
  mixed := by kernel_rfl
  f6 := ⟨Try.f133.name, by decide, Try.func133.trans (congrArg some (by kernel_rfl))⟩
  f8 := ⟨Try.f150.name, by decide, Try.func150.trans (congrArg some (by kernel_rfl))⟩
  f11 := ⟨Try.f180.name, by decide, Try.func180.trans (congrArg some (by kernel_rfl))⟩
  t0 := Try.underlying0
  a0 := Try.isAgg0
  z0 := Try.sizeOf0
  v0 := Try.zeroValue0
  t24 := Try.underlying22
  a24 := Try.isAgg22
  z24 := Try.sizeOf22
  v24 := Try.zeroValue22
  t26 := Try.underlying9
  a26 := Try.isAgg9
  z26 := Try.sizeOf9
  v26 := Try.zeroValue9
  t28 := Try.underlying121
  a28 := Try.isAgg121
  z28 := Try.sizeOf121
  v28 := Try.zeroValue121
  i26 := by kernel_rfl }
def Try.sort126_ren : Go.Shelf.Ren := ⟨fun | 6 => 126 | 8 => 145 | 9 => 147 | 19 => 167 | 20 => 168 | 21 => 170 | 22 => 171 | 23 => 172 | 24 => 173 | 25 => 174 | 26 => 175 | 27 => 176 | 28 => 177 | 29 => 178 | 36 => 190 | 31 => 186 | 32 => 187 | 37 => 191 | 38 => 192 | 39 => 148 | 41 => 196 | n => n, fun | 27 => 22 | 29 => 9 | 3 => 3 | 32 => 116 | 26 => 22 | 0 => 0 | 44 => 147 | 46 => 149 | 4 => 4 | 36 => 141 | 35 => 140 | 41 => 93 | 5 => 5 | 9 => 9 | 53 => 160 | 57 => 164 | 63 => 171 | 64 => 172 | n => n, fun | n => n⟩
theorem Try.sort126 : Go.Proofs.SlLaysM.n6 Try.prog Try.sort126_ren := {
  mixed := by kernel_rfl
  f6 := ⟨Try.f126.name, by decide, Try.func126.trans (congrArg some (by kernel_rfl))⟩
  f8 := Try.func145.trans (congrArg some (by kernel_rfl))
  f9 := ⟨Try.f147.name, by decide, Try.func147.trans (congrArg some (by kernel_rfl))⟩
  f19 := Try.func167.trans (congrArg some (by kernel_rfl))
  f20 := Try.func168.trans (congrArg some (by kernel_rfl))
  f21 := ⟨Try.f170.name, by decide, Try.func170.trans (congrArg some (by kernel_rfl))⟩
  f22 := ⟨Try.f171.name, by decide, Try.func171.trans (congrArg some (by kernel_rfl))⟩
  f23 := ⟨Try.f172.name, by decide, Try.func172.trans (congrArg some (by kernel_rfl))⟩
  f24 := ⟨Try.f173.name, by decide, Try.func173.trans (congrArg some (by kernel_rfl))⟩
  f25 := ⟨Try.f174.name, by decide, Try.func174.trans (congrArg some (by kernel_rfl))⟩
  f26 := ⟨Try.f175.name, by decide, Try.func175.trans (congrArg some (by kernel_rfl))⟩
  f27 := ⟨Try.f176.name, by decide, Try.func176.trans (congrArg some (by kernel_rfl))⟩
  f28 := ⟨Try.f177.name, by decide, Try.func177.trans (congrArg some (by kernel_rfl))⟩
  f29 := ⟨Try.f178.name, by decide, Try.func178.trans (congrArg some (by kernel_rfl))⟩
  f31 := Try.func186.trans (congrArg some (by kernel_rfl))
  f32 := Try.func187.trans (congrArg some (by kernel_rfl))
  f36 := ⟨Try.f190.name, by decide, Try.func190.trans (congrArg some (by kernel_rfl))⟩
  f37 := ⟨Try.f191.name, by decide, Try.func191.trans (congrArg some (by kernel_rfl))⟩
  f38 := ⟨Try.f192.name, by decide, Try.func192.trans (congrArg some (by kernel_rfl))⟩
  f39 := ⟨Try.f148.name, by decide, Try.func148.trans (congrArg some (by kernel_rfl))⟩
  f41 := ⟨Try.f196.name, by decide, Try.func196.trans (congrArg some (by kernel_rfl))⟩
  t0 := Try.underlying0
  a0 := Try.isAgg0
  z0 := Try.sizeOf0
  v0 := Try.zeroValue0
  t3 := Try.underlying3
  a3 := Try.isAgg3
  z3 := Try.sizeOf3
  v3 := Try.zeroValue3
  t4 := Try.underlying4
  a4 := Try.isAgg4
  z4 := Try.sizeOf4
  v4 := Try.zeroValue4
  t5 := Try.underlying5
  a5 := Try.isAgg5
  z5 := Try.sizeOf5
  v5 := Try.zeroValue5
  t9 := Try.underlying9
  a9 := Try.isAgg9
  z9 := Try.sizeOf9
  v9 := Try.zeroValue9
  t26 := Try.underlying22
  a26 := Try.isAgg22
  z26 := Try.sizeOf22
  v26 := Try.zeroValue22
  t27 := Try.underlying22
  a27 := Try.isAgg22
  z27 := Try.sizeOf22
  v27 := Try.zeroValue22
  t29 := Try.underlying9
  a29 := Try.isAgg9
  z29 := Try.sizeOf9
  v29 := Try.zeroValue9
  t32 := Try.underlying116
  a32 := Try.isAgg116
  z32 := Try.sizeOf116
  v32 := Try.zeroValue116
  t35 := Try.underlying140
  a35 := Try.isAgg140
  z35 := Try.sizeOf140
  v35 := Try.zeroValue140
  t36 := Try.underlying141
  a36 := Try.isAgg141
  z36 := Try.sizeOf141
  v36 := Try.zeroValue141
  t41 := Try.underlying93
  a41 := Try.isAgg93
  z41 := Try.sizeOf93
  v41 := Try.zeroValue93
  t44 := Try.underlying147
  a44 := Try.isAgg147
  z44 := Try.sizeOf147
  v44 := Try.zeroValue147
  t46 := Try.underlying149
  a46 := Try.isAgg149
  z46 := Try.sizeOf149
  v46 := Try.zeroValue149
  t53 := Try.underlying160
  a53 := Try.isAgg160
  z53 := Try.sizeOf160
  v53 := Try.zeroValue160
  t57 := Try.underlying164
  a57 := Try.isAgg164
  z57 := Try.sizeOf164
  v57 := Try.zeroValue164
  t63 := Try.underlying171
  a63 := Try.isAgg171
  z63 := Try.sizeOf171
  v63 := Try.zeroValue171
  t64 := Try.underlying172
  a64 := Try.isAgg172
  z64 := Try.sizeOf172
  v64 := Try.zeroValue172 }
theorem Try.sorts133 (m : Nat) : AnyZ.SortsIn Try.prog Try.sorted133_ren Fence.wide m :=
  ⟨fun blk off cap ss W hH hblk hsz => callsIn_wide.2 (AnyM.slices_Sort_string Try.sort126 blk off cap ss W hH hblk hsz),
   fun p cap W => callsIn_wide.2 (AnyM.slices_Sort_string_none Try.sort126 p cap W)⟩
set_option maxHeartbeats 1000000 in
theorem Try.sortedKeysAt {H : Type} (c b nn : Nat) (D0 : DataW H) (R : Value → Option (DataW H × List MemPlace)) (w : World) (hcs : c < w.heap.size) (hc : w.cell? ⟨c, 0, none⟩ = some (.map (some b))) (hown : w.ownsMap Try.prog 9 R b nn D0) (hmax : Maps.size D0 ≤ maxLen) (hbytes : Maps.size D0 * 16 ≤ 140737488355328) :
    CallsIn Fence.wide 5 Try.prog 133 #[.func (.func 151) #[] #[.pointer (some ⟨c, 0, none⟩)]] w fun e w' => ∃ (v : Value) (ss : List (List UInt8)), e = .returned v ∧ ss.Perm (strKeys D0) ∧
      w'.ownsRow w.heap.size 9 1 v ss.length ((ss.mergeSort (fun x y => decide (x ≤ y))).map encStr) ∧ (v = .slice none 0 0 ↔ ss = []) ∧ Below w.heap.size w w' := by
  have hseq : SeqGives Fence.wide 2 Try.prog 151 #[.pointer (some ⟨c, 0, none⟩)] encStr (fun ss => ss.Perm (strKeys D0)) (Maps.size D0) w :=
    AnyZ.keys_gives (ρ := Try.keys134_ren) { Try.keys134 with } Fence.wide _ trivial rfl (by omega) c b nn D0 w hcs hc hown
  exact AnyZ.sorted_in Try.sorted133 Fence.wide 5 trivial trivial trivial trivial rfl (by omega) (Try.sorts133 _) (enters_of Try.func126 (by kernel_rfl) rfl) 151 #[.pointer (some ⟨c, 0, none⟩)] trivial (enters_of Try.func151 (by kernel_rfl) rfl) _ _ hmax hbytes _ hseq
end Go.Proofs
namespace Go.Proofs.Ytcbepmomjpcjhaa
namespace Abs
theorem bx_cons {x y : ABox} {l l' : List ABox} (h : x = y) (h' : l = l') : x :: l = y :: l' := by rw [h, h']
theorem bx_map {m m' : List (Str × Str)} (h : m = m') : ABox.map m = ABox.map m' := by rw [h]
theorem FinalC.all {Φ : AV → List ABox → Fr → Prop} {r : AV} {b : List ABox} {f : Fr} (h : Lends b b) (hk : Φ r b f) : FinalC Φ r b f := ⟨b, h, hk⟩
theorem Lent.weak {mo : Bool} {P : Program} {f : Nat} {b0 : List ABox} {args : List AV} {Φ : AV → List ABox → Fr → Prop} (h : Lent true P f b0 args Φ) : Lent mo P f b0 args Φ := by
  rw [Lent_eq] at *
  exact ⟨h.1, fun w F vs box0 a b c d e g => (h.2 w F vs box0 a b c d e g).mono (by rintro en w' ⟨v, F', box1, tok, frs, r, b1, h1, h2, h3, h4⟩; exact ⟨v, F', box1, tok, frs, r, b1, h1, h2, h3.weak, h4⟩)⟩
theorem ACall.lentE {C : Con} {f : Nat} {vs : List AV} {b : List ABox} {fr : Fr} {k : AV → List ABox → Fr → Prop} (b0 : List ABox) (ys : List AV) (r : AV) (b1 : List ABox) (f1 : Fr) (h : C.lent f b0 ys (fun x y z => x = r ∧ y = b1 ∧ z = f1)) (hb : Lends b b0) (hv : SeesL SeesC vs ys)
    (hk : k (shiftK fr.length r) (merge b b0 b1) (fr ++ f1)) : ACall C true f vs b fr k :=
  .lent rfl b0 ys _ h hb hv (by rintro _ _ _ ⟨rfl, rfl, rfl⟩; exact hk)
theorem ACall.lentS {C : Con} {f : Nat} {vs : List AV} {b : List ABox} {fr : Fr} {k : AV → List ABox → Fr → Prop} (b0 : List ABox) (ys : List AV) (l : List Str) (b1 : List ABox) (f1 : Fr) (h : C.lent f b0 ys (fun x y z => x = .list (some 0) (strs l) ∧ y = b1 ∧ z = f1)) (hb : Lends b b0) (hv : SeesL SeesC vs ys)
    (hk : k (.list (some fr.length) (strs l)) (merge b b0 b1) (fr ++ f1)) : ACall C true f vs b fr k := by
  refine .lent rfl b0 ys _ h hb hv ?_
  rintro _ _ _ ⟨rfl, rfl, rfl⟩
  have e : shiftK fr.length (.list (some 0) (strs l)) = .list (some fr.length) (strs l) := by
    cases fr.length with
    | zero => rfl
    | succ n =>
      show AV.list (some (0 + (n + 1))) (mapTLL _ (strs l)) = _
      rw [strs, mapTLL_old, Nat.zero_add]
  rw [e]; exact hk
section
variable {mo : Bool} {P : Program}
theorem own_post {B : Nat} {w' : World} {F' : Nat → Nat} {tok : List (Option Nat)} {box : List BId} {frs : Fr} {x : Tr} {r : AV} {v : Value} {ts : List Nat} (hrep : Rep B w' F' tok frs box r v) (ho : OwnA frs [x] [r] ts) (hn : ts.Nodup)
    (htin : ∀ (k b : Nat), tok[k]? = some (some b) → B ≤ b ∧ b < w'.heap.size) (htinj : ∀ (k l b : Nat), tok[k]? = some (some b) → tok[l]? = some (some b) → k = l) : ∃ ds, OwnL w' [x] [v] ds ∧ ds.Nodup ∧ ∀ d ∈ ds, B ≤ d ∧ d < w'.heap.size := by
  have hget : ∀ d, d ∈ ts.filterMap (fun k => (tok[k]?).join) → ∃ k ∈ ts, tok[k]? = some (some d) := fun d hd => by
    obtain ⟨k, hk, he⟩ := List.mem_filterMap.1 hd
    cases h : tok[k]? with
    | none => rw [h] at he; cases he
    | some o => rw [h] at he; cases o with
      | none => cases he
      | some b => cases he; exact ⟨k, hk, h⟩
  refine ⟨ts.filterMap fun k => (tok[k]?).join, ho.own (F := F') (box := box) (Both.cons.2 ⟨hrep, rfl, by simp⟩), ?_, fun d hd => ?_⟩
  · clear hrep ho
    induction ts with
    | nil => simp
    | cons k ts ih =>
      obtain ⟨n1, n2⟩ := List.nodup_cons.1 hn
      have hget' : ∀ d, d ∈ ts.filterMap (fun k => (tok[k]?).join) → ∃ k ∈ ts, tok[k]? = some (some d) := fun d hd => by
        obtain ⟨k, hk, he⟩ := List.mem_filterMap.1 hd
        cases h : tok[k]? with
        | none => rw [h] at he; cases he
        | some o => rw [h] at he; cases o with
          | none => cases he
          | some b => cases he; exact ⟨k, hk, h⟩
      rw [List.filterMap_cons]
      split
      · exact ih n2 hget'
      · rename_i b hb'
        refine List.nodup_cons.2 ⟨fun hm => ?_, ih n2 hget'⟩
        obtain ⟨k', hk', he'⟩ := hget' b hm
        have he : tok[k]? = some (some b) := by
          cases h : tok[k]? with
          | none => rw [h] at hb'; cases hb'
          | some o => rw [h] at hb'; cases o with
            | none => cases hb'
            | some b => cases hb'; rfl
        exact n1 (htinj k k' b he he' ▸ hk')
  · obtain ⟨k, _, hk⟩ := hget d hd
    exact htin k d hk
theorem Own.of_irP {fid : Nat} {fn : Func} {code : ACode} {rs : List RRes} {K : List Nat} {args : List AV} {x : Tr} (hf : P.funcs[fid]? = some fn) (hb : fn.body.isSome = true) (hm : (fn.name == "runtime.NumGoroutine") = false)
    (hn : args.length ≤ fn.ntmps) (hc : cCode P fn.ntmps (fn.body.getD .skip) = code) (hrs : fn.results.toList.map (cRes P) = rs)
    (h : aCode (Kn mo P) K 0 code (doneG rs fun r _ f => ∃ ts, OwnA f [x] [r] ts ∧ ts.Nodup) ⟨argEnv 0 args, [], []⟩) : Own mo P fid args x := by
  rw [Kn_eq] at h; rw [Own_eq]
  obtain ⟨c, hc'⟩ := Option.isSome_iff_exists.1 hb
  rw [hc', Option.getD_some] at hc
  rw [← hc, ← hrs] at h
  refine ⟨okFn_of hf hb hm, fun w F vs hout hargs => (calls_of_code hf hc' hn K h w F vs hout hargs).mono ?_⟩
  rintro e w' ⟨v, F', tok, box, r, b, frs, ⟨ts, ho, hnd⟩, rfl, hb, hold, ho', htl, htin, htinj, hrep⟩
  obtain ⟨ds, h1, h2, h3⟩ := own_post hrep ho hnd htin htinj
  exact ⟨v, ds, rfl, hb, h1, h2, h3⟩
end
end Abs
open Abs Go.RowKit
theorem strs_get2 {l : List Str} {i j : Nat} {e : List AV} {c : AV} (hi : (strs l)[i]? = some e) (hj : e[j]? = some c) : ∃ s, l[i]? = some s ∧ j = 0 ∧ c = .str s := by
  rw [strs_eq, List.getElem?_map] at hi
  obtain ⟨s, hs, rfl⟩ := Option.map_eq_some_iff.1 hi
  cases j with
  | zero => simp at hj; exact ⟨s, hs, rfl, hj.symm⟩
  | succ j => simp at hj
/-- a row of texts that a call owns, as a list of its own -/
theorem lent_strs {T : TypeId} {w w' : World} {F : Nat → Nat} {box0 : List BId} {b0 : List ABox} {Φ : AV → List ABox → Fr → Prop} {v : Value} {l : List Str} (hd : noDead b0 = true)
    (hout : ∀ b, w.heap.size ≤ b → F b = 0) (hbl : box0.length = b0.length) (hbi : ∀ (j b c : Nat), box0[j]? = some (.blk b c) → b < w.heap.size ∧ (live b0 j → F b = 0))
    (hbj : ∀ (i j b c c' : Nat), box0[i]? = some (.blk b c) → box0[j]? = some (.blk b c') → live b0 i → live b0 j → i = j) (hB : BoxesOk w.heap.size w F [] [] box0 b0)
    (hrow : w'.ownsRow w.heap.size T 1 v l.length (l.map encStr)) (hw : Below w.heap.size w w') (hΦ : Φ (.list (some 0) (strs l)) b0 [(T, 1, l.length)]) :
    ∃ (u : Value) (F' : Nat → Nat) (box1 : List BId) (tok : List (Option Nat)) (frs : Fr) (r : AV) (b1 : List ABox), Φ r b1 frs ∧ Ending.returned v = .returned u ∧ Keep false (mask b0 box0) w w' ∧ (∀ b, b < w.heap.size → F' b = F b) ∧ (∀ b, w'.heap.size ≤ b → F' b = 0) ∧
      (∀ (j : Nat) d, box0[j]? = some d → box1[j]? = some d) ∧ box1.length = b1.length ∧
      (∀ (j b c : Nat), box0.length ≤ j → box1[j]? = some (.blk b c) → (w.heap.size ≤ b ∨ ∃ i : Nat, live b0 i ∧ box0[i]? = some (.blk b c)) ∧ b < w'.heap.size) ∧
      (∀ (j b c : Nat), box1[j]? = some (.blk b c) → live b1 j → (box0.length ≤ j ∨ live b0 j) → F' b = 0) ∧
      (∀ (i j b c c' : Nat), box1[i]? = some (.blk b c) → box1[j]? = some (.blk b c') → live b1 i → live b1 j → (box0.length ≤ i ∨ live b0 i) → (box0.length ≤ j ∨ live b0 j) → i = j) ∧
      (∀ (j : Nat) d x, box1[j]? = some d → b1[j]? = some x → (box0.length ≤ j ∨ live b0 j) → BoxOk w.heap.size w' F' [] [] box1 d x) ∧
      tok.length = frs.length ∧ (∀ (k b : Nat), tok[k]? = some (some b) → w.heap.size ≤ b ∧ b < w'.heap.size) ∧ (∀ (k l b : Nat), tok[k]? = some (some b) → tok[l]? = some (some b) → k = l) ∧
      (∀ (k b j c : Nat), tok[k]? = some (some b) → box1[j]? = some (.blk b c) → ¬ live b1 j) ∧ Rep w.heap.size w' F' tok frs box1 r u := by
  have hlv := noDead_live hd
  have hk : Keep false (mask b0 box0) w w' := ⟨(fun h => nomatch h), hw.os, hw.tape, hw.output, hw.size, fun k hk _ => hw.block k hk⟩
  obtain ⟨a, cap, hv, hcap, hnew, hne⟩ : ∃ (a : Option Addr) (cap : Nat), v = .slice a l.length cap ∧ l.length ≤ cap ∧ (∀ g, a.map (·.block) = some g → w.heap.size ≤ g ∧ g < w'.heap.size) ∧ (l ≠ [] → ∃ g cur, a = some ⟨g, 0, none⟩ ∧ w'.heap[g]? = some (.cells cur T (0, 0)) ∧ cur.toList.take l.length = l.map encStr) := by
    rcases hrow.2 with ⟨hv, hn⟩ | ⟨g, cap, cur, hv, hbase, hh, h1, h2, h3, h4⟩
    · have hl : l = [] := List.eq_nil_of_length_eq_zero hn
      subst hl
      exact ⟨none, 0, hv, Nat.le_refl _, by simp, fun h => (h rfl).elim⟩
    · refine ⟨some ⟨g, 0, none⟩, cap, hv, h1, fun b hb => ?_, fun _ => ⟨g, cur, rfl, hh, by simpa using h4⟩⟩
      cases hb
      exact ⟨hbase, (Array.getElem?_eq_some_iff.1 hh).1⟩
  subst hv
  obtain ⟨F', hF'⟩ : ∃ F' : Nat → Nat, ∀ b, F' b = if a.map (·.block) = some b then l.length else F b := ⟨_, fun _ => rfl⟩
  refine ⟨_, F', box0, [a.map (·.block)], [(T, 1, l.length)], _, b0, hΦ, rfl, hk, fun b hb => ?_, fun b hb => ?_, fun _ _ h => h, hbl, fun j b c h1 h2 => ?_, fun j b c h1 h2 _ => ?_, fun i j b c c' h1 h2 h3 h4 _ _ => hbj i j b c c' h1 h2 h3 h4, fun j d x hd' hx _ => ?_, rfl, fun k b hkb => ?_, fun k q b h1 h2 => ?_, fun k b j c h1 h2 => ?_, ?_⟩
  · rw [hF']; split
    · rename_i h; have := (hnew b h).1; omega
    · rfl
  · rw [hF']; split
    · rename_i h; have := (hnew b h).2; omega
    · exact hout b (Nat.le_trans hw.size hb)
  · have := getElem?_lt h2; omega
  · have := hbi j b c h1
    rw [hF']; split
    · rename_i h; have := (hnew b h).1; omega
    · exact this.2 (hlv j)
  · refine (hB j d x hd' hx).later (F := F) ⟨fun b i hi => ?_, fun b => ?_, fun k t s n h => by simp at h⟩ (fun _ _ h => h) (fun b c he _ => hw.block b (hbi j b c (he ▸ hd')).1)
    · have hlt : b < w.heap.size := by
        rcases Nat.lt_or_ge b w.heap.size with h | h
        · exact h
        · rw [hout b h] at hi; omega
      exact World.cell?_of_block (w := w) (hw.block b hlt)
    · rw [hF']; split
      · rename_i h; rw [hout b (hnew b h).1]; exact Nat.zero_le _
      · exact Nat.le_refl _
  · cases k with
    | zero => simp at hkb; exact hnew b (by simpa using hkb)
    | succ k => simp at hkb
  · cases k <;> cases q <;> simp at h1 h2 ⊢
  · cases k with
    | zero => simp at h1; have := (hbi j b c h2).1; have := (hnew b (by simpa using h1)).1; omega
    | succ k => simp at h1
  · have hlen : (strs l).length = l.length := length_strs l
    rw [← hlen]
    have hcell : ∀ i s, l[i]? = some s → ∃ g, a = some ⟨g, 0, none⟩ ∧ w'.cell? ⟨g, i, none⟩ = some (mkS s) := fun i s hs => by
      obtain ⟨g, cur, hg, hh, ht⟩ := hne (by rintro rfl; simp at hs)
      refine ⟨g, hg, ?_⟩
      have h1 : (cur.toList.take l.length)[i]? = some (mkS s) := by rw [ht, List.getElem?_map, hs]; rfl
      rw [List.getElem?_take, if_pos (getElem?_lt hs)] at h1
      simp [World.cell?, hh]
      simpa using h1
    refine .list (some 0) (strs l) a cap 1 ((a.map (·.block)).getD 0) 0 (fun i _ => mkS (l.getD i [])) (by omega) (fun hx => ?_) (fun e he => ?_) (fun hx => ?_) (fun i e j c hi hj => ?_) (fun i e j c hi hj => ?_) (fun k hk' => ?_)
    · obtain ⟨g, cur, hg, _, _⟩ := hne (by rintro rfl; exact hx rfl)
      rw [hg]; rfl
    · rw [strs_eq] at he; obtain ⟨s, _, rfl⟩ := List.mem_map.1 he; rfl
    · obtain ⟨g, cur, hg, _, _⟩ := hne (by rintro rfl; exact hx rfl)
      rw [hF', hg]; simp
    · obtain ⟨s, hs, rfl, rfl⟩ := strs_get2 hi hj
      obtain ⟨g, hg, hc⟩ := hcell i s hs
      have e1 : l.getD i [] = s := by simp [List.getD, hs]
      simp only [hg, Option.map_some, Option.getD_some, Nat.zero_add, Nat.mul_one, Nat.add_zero, e1]
      exact ⟨hc, rfl⟩
    · obtain ⟨s, hs, rfl, rfl⟩ := strs_get2 hi hj
      have e1 : l.getD i [] = s := by simp [List.getD, hs]
      simp only [e1]; exact .str s
    · cases hk'
      refine ⟨T, 1, (strs l).length, rfl, Nat.le_refl _, fun _ => ⟨rfl, ⟨l.map encStr, ?_⟩, rfl, fun b hb => ?_⟩⟩
      · rw [hlen]; exact hrow
      · rw [hF', if_pos hb]; simp [hlen]
section
open Go.WideElems (rd rg Fit rg_of)
theorem rd_at {P : Program} {k e : TypeId} {es : Array MapEntry} {clock : Nat} {m : List (Str × Str)} (hk : P.underlying k = some .string) (he : P.underlying e = some .string) (h : MapIs es clock m) {j : Nat} {x : MapEntry} (hx : es.toList[j]? = some x) :
    ∃ p, m[j]? = some p ∧ rd (H := Unit) P k (plainElem P e) x = some (.string p.1, .lit (.string p.2)) := by
  obtain ⟨p, hp, h1, h2⟩ := h.get hx
  obtain ⟨l1, l2⟩ := h.len p (List.mem_of_getElem? hp)
  refine ⟨p, hp, ?_⟩
  have e1 : keyOf P k x.key = some (.string p.1) := by
    rw [h1]; exact WideMaps.keyOf_string_mk hk (s := ⟨p.1.toArray⟩) l1
  have e2 : plainElem (H := Unit) P e x.val = some (.lit (.string p.2), []) := by
    rw [h2]; exact plainElem_string he (s := ⟨p.2.toArray⟩) l2
  simp [rd, e1, e2]
theorem map_owns {P : Program} {k e : TypeId} {w : World} {b : Nat} {es : Array MapEntry} {clock : Nat} {m : List (Str × Str)} (hk : P.underlying k = some .string) (he : P.underlying e = some .string) (h : MapIs es clock m) (hb : w.heap[b]? = some (.map es clock)) :
    ∃ D0 : DataW Unit, w.ownsMap P k (plainElem P e) b m.length D0 ∧ Maps.size D0 = m.length ∧ (strKeys D0).Perm (m.map (·.1)) := by
  have hrg : es.toList.map (rg (H := Unit) P k (plainElem P e)) = m.map fun p => (Lit.string p.1, DataW.lit (.string p.2)) := by
    apply List.ext_getElem?
    intro j
    rw [List.getElem?_map, List.getElem?_map]
    cases hx : es.toList[j]? with
    | none =>
      have : m[j]? = none := by
        have hl := h.length
        rw [List.getElem?_eq_none_iff] at hx ⊢
        simp only [Array.length_toList] at hx; omega
      rw [this]; rfl
    | some x =>
      obtain ⟨p, hp, hr⟩ := rd_at hk he h hx
      rw [hp, Option.map_some, Option.map_some, rg_of hr]
  refine ⟨_, ⟨es, clock, hb, ⟨by rw [h.length]; exact h.size, h.stamped, fun x hx => ?_⟩, by rw [h.length]; exact Nat.le_refl _, rfl⟩, ?_, ?_⟩
  · obtain ⟨j, hj⟩ := List.getElem?_of_mem hx
    obtain ⟨p, _, hr⟩ := rd_at hk he h hj
    exact ⟨_, hr⟩
  · rw [hrg]
    show (List.foldr DataW.insert [] _).length = _
    rw [length_sorted, List.length_map]
  · rw [hrg]
    refine ((WideShapes.sorted_perm _).map _).trans ?_
    rw [List.map_map]
    exact List.Perm.refl _
end
theorem slSortedS.lent (b0 : List ABox) (c j : Nat) (m : List (Str × Str)) (hd : noDead b0 = true) (hc : b0[c]? = some (.cells .var [.bmap j])) (hj : b0[j]? = some (.map m)) (hm : m.length ≤ 1048576) :
    Abs.Lent false Try.prog 133 b0 [.clo 151 [] [.bptr c 0]] (fun x y z => x = .list (some 0) (strs (srt (m.map (·.1)))) ∧ y = b0 ∧ z = [(9, 1, m.length)]) := by
  rw [Lent_eq]
  refine ⟨by kernel_rfl, fun w F vs box0 hout hbl hbi hbj hB hargs => ?_⟩
  obtain ⟨v0, rfl⟩ : ∃ v0, vs = #[v0] := by
    have := hargs.1
    match vs, this with
    | ⟨[a]⟩, _ => exact ⟨a, rfl⟩
  obtain ⟨h0, _⟩ := Both.cons.1 hargs
  have hbx : ∀ q x, b0[q]? = some x → ∃ d, box0[q]? = some d := fun q x hx => ⟨_, List.getElem?_eq_getElem (by have := getElem?_lt hx; omega)⟩
  obtain ⟨d1, hd1⟩ := hbx c _ hc
  obtain ⟨d2, hd2⟩ := hbx j _ hj
  have o1 := hB c _ _ hd1 hc
  have o2 := hB j _ _ hd2 hj
  cases d2 with
  | nil => exact o2.elim
  | blk bm cm =>
  cases d1 with
  | nil => exact absurd o1 (by simp [BoxOk])
  | blk bc cc =>
  obtain ⟨arr, t, hh, hsz, hcell, _⟩ := o1
  obtain ⟨r1, _⟩ := hcell 0 _ rfl
  obtain ⟨es, clock, hmh, hM⟩ := o2
  have hv : arr.getD 0 undef = .map (some bm) := by
    generalize arr.getD 0 undef = u at r1
    cases r1 with
    | bmap _ b cap hb => rw [hd2] at hb; cases hb; rfl
  have hlt : bc < w.heap.size := (Array.getElem?_eq_some_iff.1 hh).1
  have hcl : w.cell? ⟨bc, 0, none⟩ = some (.map (some bm)) := by
    have h1 : 0 < arr.size := by simp at hsz; omega
    have h2 : arr[0]? = some (.map (some bm)) := by rw [← hv]; simp [Array.getD, h1]
    simp [World.cell?, hh, h2]
  have hv0 : v0 = .func (.func 151) #[] #[.pointer (some ⟨bc, 0, none⟩)] := by
    cases h0 with
    | clo f xs ys vf vc h1 h2 hr1 hr2 =>
      have e1 : vf = #[] := Array.eq_empty_of_size_eq_zero (by simpa using h1.symm)
      obtain ⟨u, rfl⟩ : ∃ u, vc = #[u] := by
        match vc, h2 with
        | ⟨[u]⟩, _ => exact ⟨u, rfl⟩
      have h3 := hr2 0 _ rfl
      obtain ⟨b, cap, hb, hu⟩ := h3.bptr_inv
      rw [hd1] at hb; cases hb
      have : u = .pointer (some ⟨bc, 0, none⟩) := hu
      rw [e1, this]
  obtain ⟨D0, hown, hDs, hperm⟩ := map_owns (P := Try.prog) (k := 9) (e := 9) Try.underlying9 Try.underlying9 hM hmh
  rw [hv0]
  refine (callsIn_wide.1 (Try.sortedKeysAt bc bm m.length D0 (plainElem Try.prog 9) w hlt hcl hown (by rw [hDs]; unfold maxLen; omega) (by rw [hDs]; omega))).mono ?_
  rintro e w' ⟨v, ss, rfl, hs, hrow, _, hbw⟩
  have hp := hs.trans hperm
  have hl : (srt (m.map (·.1))).length = m.length := by simp [srt]
  have e1 : ss.mergeSort (fun x y => decide (x ≤ y)) = srt (m.map (·.1)) := mergeSort_of_perm hp
  have e2 : ss.length = (srt (m.map (·.1))).length := by rw [hl, hp.length_eq, List.length_map]
  rw [e1, e2] at hrow
  exact lent_strs hd hout hbl hbi hbj hB hrow hbw ⟨rfl, rfl, by rw [hl]⟩
end Go.Proofs.Ytcbepmomjpcjhaa
namespace Go.Proofs.Ytcbepmomjpcjhaa
open Abs
mutual
theorem old_ok : ∀ (x : Tr) (m : Nat), noTk (old x) = true ∧ inB m (old x)
  | .v _, _ => ⟨rfl, trivial⟩
  | .s _, _ => ⟨rfl, trivial⟩
  | .l _ _ xs, _ => ⟨oldLL_ok xs, trivial⟩
  | .a fs, m => inBL_all (oldL_ok fs m)
  | .p fs, m => inBL_all (oldL_ok fs m)
theorem oldL_ok : ∀ (xs : List Tr) (m : Nat), ∀ c ∈ oldL xs, noTk c = true ∧ inB m c
  | [], _, c, hc => by simp [oldL] at hc
  | x :: xs, m, c, hc => by
    rw [oldL] at hc
    rcases List.mem_cons.1 hc with rfl | hc
    · exact old_ok x m
    · exact oldL_ok xs m c hc
theorem oldLL_ok : ∀ (xs : List (List Tr)), noTkLL (oldLL xs) = true
  | [] => rfl
  | x :: xs => by
    rw [oldLL, noTkLL, (inBL_all (oldL_ok x 0)).1, oldLL_ok xs]; rfl
end
theorem noTk_old (xs : List Tr) : ∀ c ∈ oldL xs, noTk c = true := fun c hc => (oldL_ok xs 0 c hc).1
/-- cells without slices of the call's own, and without boxes -/
def PlainC (x : List AV) : Prop := (∀ c ∈ x, noTk c = true) ∧ ∀ m, inB.inBL m x
theorem plainC_old (xs : List Tr) : PlainC (oldL xs) := ⟨noTk_old xs, fun m => (inBL_all (oldL_ok xs m)).2⟩
theorem bindF_lt {b : List VPair} (h : bindF b = true) {j : Nat} (hj : j < b.length) : badB b j = false := by
  cases hb : badB b j with
  | false => rfl
  | true => rw [bindF_no hj hb] at h; cases h
theorem bindF_len {b : List VPair} (h : bindF b = true) : b.length ≤ 6 := by
  rcases Nat.lt_or_ge 6 b.length with h1 | h1
  · rw [bindF_long (by omega)] at h; cases h
  · exact h1
theorem bindF_asc {b : List VPair} (h : bindF b = true) : ∀ (j : Nat), j + 1 < b.length → Op.bytesLess (b.getD j default).1 (b.getD (j + 1) default).1 = true := fun j hj => by
  have := bindF_lt h hj
  unfold badB at this
  simp only [Bool.or_eq_false_iff, Bool.and_eq_false_iff, decide_eq_false_iff_not, Bool.not_eq_false', Nat.add_sub_cancel] at this
  rcases this.2 with h1 | h1
  · omega
  · exact h1
theorem bindF_sorted {b : List VPair} (h : bindF b = true) : ∀ (d i : Nat), i + d + 1 < b.length → Op.bytesLess (b.getD i default).1 (b.getD (i + d + 1) default).1 = true
  | 0, i, hi => bindF_asc h i hi
  | d + 1, i, hi => blt_sto.trans _ _ _ (bindF_sorted h d i (by omega)) (bindF_asc h (i + d + 1) hi)
theorem bindF_apart {b : List VPair} (h : bindF b = true) {i j : Nat} (hij : i < j) (hj : j < b.length) : (b.getD i default).1 ≠ (b.getD j default).1 := fun e => by
  have := bindF_sorted h (j - i - 1) i (by omega)
  rw [show i + (j - i - 1) + 1 = j by omega, e, bl_irrefl] at this
  cases this
theorem mput_bind {b : List VPair} (h : bindF b = true) {i : Nat} (hi : i < b.length) : mput (b.take i) (b.getD i default).1 (b.getD i default).2 = b.take (i + 1) := by
  have hn : ∀ p ∈ b.take i, p.1 ≠ (b.getD i default).1 := fun p hp => by
    obtain ⟨j, hj⟩ := List.getElem?_of_mem hp
    rw [List.getElem?_take] at hj
    split at hj
    · rename_i hji
      have e : b.getD j default = p := by simp [List.getD, hj]
      rw [← e]; exact bindF_apart h hji hi
    · cases hj
  rw [(mget_no hn).2, take_succ' default hi]
theorem pmapOfPairs.lent (x y : List AV) (hx : PlainC x) (hy : PlainC y) (b : List VPair) (h : tPairs.size b ≤ 1048576) (hb : bindF b = true) :
    pmapOfPairs.Lent [.cells .var x, .cells .var y] [.list none (pairs b)] (fun r b1 f1 => r = .bmap 2 ∧ b1 = [.cells .var x, .cells .var y, .map b] ∧ f1 = []) := by
  refine pmapOfPairs.ofL rfl rfl ?_
  rw [tPairs_sz] at h
  repeat' first
    | contradiction
    | (conv => whnf
       first
         | refine Need.mk (fun h => h) ?_
         | refine Need.mk rfl ?_
         | refine Need.mk ⟨rfl, Nat.le_of_ble_eq_true rfl⟩ ?_
         | refine Need.mk (Nat.le_of_ble_eq_true rfl) ?_
         | refine Need.mk (by intros; (try simp only [length_strs] at *); (try simp only [length_rows] at *); (try simp only [length_oldLL, List.length_map] at *); (try simp only [Bool.and_eq_true, decide_eq_true_eq] at *); omega) ?_
         | refine Need.mk ?_ ?_
         | refine Ix.strs rfl (by intros; (try simp only [length_strs] at *); (try simp only [length_rows] at *); (try simp only [length_oldLL, List.length_map] at *); (try simp only [Bool.and_eq_true, decide_eq_true_eq] at *); omega) ?_
         | refine Ix.strs rfl ?_ ?_
         | refine Cut.strs rfl ?_ ?_
         | refine Ix.map (fun _ => rfl) (by intros; (try simp only [length_strs] at *); (try simp only [length_rows] at *); (try simp only [length_oldLL, List.length_map] at *); (try simp only [Bool.and_eq_true, decide_eq_true_eq] at *); omega) ?_
         | refine Ix.map (fun _ => rfl) ?_ ?_
         | refine Cut.map (fun _ => rfl) ?_ ?_
         | refine Fork.yes (by assumption) ?_
         | refine Fork.no (by assumption) ?_
         | refine Fork.decYes (by omega) ?_
         | refine Fork.decNo (by omega) ?_
         | refine Fork.dec (fun _ => ?_) (fun _ => ?_)
         | refine Fork.bne (fun _ => ?_) (fun _ => ?_)
         | refine Fork.beq (fun _ => ?_) (fun _ => ?_)
         | refine Fork.seq (fun _ => ?_) (fun _ => ?_)
         | refine Fork.sne (fun _ => ?_) (fun _ => ?_)
         | refine Fork.neg (fun _ => ?_) (fun _ => ?_)
         | refine Fork.mk (fun _ => ?_) (fun _ => ?_)
         | refine Round.mk ?_
         | refine NilQ.mk (fun b hb => ?_)
         | refine forceK_of ?_
         | refine forceBx_of ?_
         | refine unG_old ?_
         | refine unG_gv ?_
         | refine Lit.read rfl ?_
         | refine FinVal.keep ?_
         | refine FinAgg.keep ?_
         | refine Final.mk rfl rfl
         | refine Final.mk ?_ rfl
         | refine Final.mk ?_ ?_
         | refine FinalT.mk ?_ ?_
         | refine FinalC.all (by repeat' first | exact Lends.nil | refine Lends.map _ ?_ | refine Lends.lend _ _ (by first | exact hx.1 | exact hy.1 | exact noTk_old _ | (intro c hc; rw [List.mem_singleton.1 hc]; rfl) | (intro c hc; cases hc; done)) ?_) ?_)
    | refine AV.bool_congr ?_
    | refine AV.int_congr ?_
    | refine AV.str_congr ?_
    | refine AV.list_congr ?_
    | with_reducible rfl
    | refine fr1 ?_
    | refine fr2 ?_ ?_
  refine ALoop.mk Nat (fun i => ⟨[(0, .list none (pairs b)), (3, .bmap 2), (7, .list none (pairs b)), (8, .val (.int .i64 b.length)), (9, .val (.int .i64 i))], [.cells .var x, .cells .var y, .map (b.take i)], []⟩) (fun i => i ≤ b.length) (fun i => b.length - i) ⟨0, Nat.zero_le _, ?_⟩ (fun i hi => ?_)
  · repeat' first
      | exact trivial
      | refine Weak.mk ?_ ?_ ?_ ?_ (Or.inl (Nat.le_of_ble_eq_true rfl))
      | refine Weak.mk ?_ ?_ ?_ ?_ (Or.inr ⟨(by repeat' first | exact trivial | exact Nat.le_of_ble_eq_true rfl | refine And.intro ?_ ?_ | exact hx.2 _ | exact hy.2 _), (by repeat' first | exact trivial | exact Nat.le_of_ble_eq_true rfl | refine And.intro ?_ ?_ | exact hx.2 _ | exact hy.2 _)⟩)
      | refine Weak.mk ?_ ?_ ?_ ?_ ?_
      | refine And.intro ?_ ?_
      | with_reducible rfl
      | exact Nat.le_of_ble_eq_true rfl
      | refine fr1 ?_
      | refine fr2 ?_ ?_
      | refine AV.int_congr ?_
      | refine AV.bool_congr ?_
      | refine AV.str_congr ?_
      | refine AV.list_congr ?_
      | refine AV.bsl_congr ?_ ?_
      | (apply rfl)
      | refine bx_cons ?_ ?_
      | refine bx_map ?_
    simp
  repeat' first
    | contradiction
    | (conv => whnf
       first
         | refine Need.mk (fun h => h) ?_
         | refine Need.mk rfl ?_
         | refine Need.mk ⟨rfl, Nat.le_of_ble_eq_true rfl⟩ ?_
         | refine Need.mk (Nat.le_of_ble_eq_true rfl) ?_
         | refine Need.mk (by intros; (try simp only [length_strs] at *); (try simp only [length_rows] at *); (try simp only [length_oldLL, List.length_map] at *); (try simp only [Bool.and_eq_true, decide_eq_true_eq] at *); omega) ?_
         | refine Need.mk ?_ ?_
         | refine Ix.strs rfl (by intros; (try simp only [length_strs] at *); (try simp only [length_rows] at *); (try simp only [length_oldLL, List.length_map] at *); (try simp only [Bool.and_eq_true, decide_eq_true_eq] at *); omega) ?_
         | refine Ix.strs rfl ?_ ?_
         | refine Cut.strs rfl ?_ ?_
         | refine Ix.map (fun _ => rfl) (by intros; (try simp only [length_strs] at *); (try simp only [length_rows] at *); (try simp only [length_oldLL, List.length_map] at *); (try simp only [Bool.and_eq_true, decide_eq_true_eq] at *); omega) ?_
         | refine Ix.map (fun _ => rfl) ?_ ?_
         | refine Cut.map (fun _ => rfl) ?_ ?_
         | refine Fork.yes (by assumption) ?_
         | refine Fork.no (by assumption) ?_
         | refine Fork.decYes (by omega) ?_
         | refine Fork.decNo (by omega) ?_
         | refine Fork.dec (fun _ => ?_) (fun _ => ?_)
         | refine Fork.bne (fun _ => ?_) (fun _ => ?_)
         | refine Fork.beq (fun _ => ?_) (fun _ => ?_)
         | refine Fork.seq (fun _ => ?_) (fun _ => ?_)
         | refine Fork.sne (fun _ => ?_) (fun _ => ?_)
         | refine Fork.neg (fun _ => ?_) (fun _ => ?_)
         | refine Fork.mk (fun _ => ?_) (fun _ => ?_)
         | refine Round.mk ?_
         | refine NilQ.mk (fun b hb => ?_)
         | refine forceK_of ?_
         | refine forceBx_of ?_
         | refine unG_old ?_
         | refine unG_gv ?_
         | refine Lit.read rfl ?_
         | refine FinVal.keep ?_
         | refine FinAgg.keep ?_
         | refine Final.mk rfl rfl
         | refine Final.mk ?_ rfl
         | refine Final.mk ?_ ?_
         | refine FinalT.mk ?_ ?_
         | refine FinalC.all (by repeat' first | exact Lends.nil | refine Lends.map _ ?_ | refine Lends.lend _ _ (by first | exact hx.1 | exact hy.1 | exact noTk_old _ | (intro c hc; rw [List.mem_singleton.1 hc]; rfl) | (intro c hc; cases hc; done)) ?_) ?_)
    | refine AV.bool_congr ?_
    | refine AV.int_congr ?_
    | refine AV.str_congr ?_
    | refine AV.list_congr ?_
    | with_reducible rfl
    | refine fr1 ?_
    | refine fr2 ?_ ?_
  all_goals try simp only [length_rows, length_strs, length_oldLL, List.length_map, Int.toNat_natCast] at *
  · have := pr_le (l := b) i
    have h2 : (b.take i).length ≤ b.length := by simp; omega
    unfold maxLen; omega
  · refine ⟨i + 1, by omega, ?_, by omega⟩
    repeat' first
      | exact trivial
      | refine Weak.mk ?_ ?_ ?_ ?_ (Or.inl (Nat.le_of_ble_eq_true rfl))
      | refine Weak.mk ?_ ?_ ?_ ?_ (Or.inr ⟨(by repeat' first | exact trivial | exact Nat.le_of_ble_eq_true rfl | refine And.intro ?_ ?_ | exact hx.2 _ | exact hy.2 _), (by repeat' first | exact trivial | exact Nat.le_of_ble_eq_true rfl | refine And.intro ?_ ?_ | exact hx.2 _ | exact hy.2 _)⟩)
      | refine Weak.mk ?_ ?_ ?_ ?_ ?_
      | refine And.intro ?_ ?_
      | with_reducible rfl
      | exact Nat.le_of_ble_eq_true rfl
      | refine fr1 ?_
      | refine fr2 ?_ ?_
      | refine AV.int_congr ?_
      | refine AV.bool_congr ?_
      | refine AV.str_congr ?_
      | refine AV.list_congr ?_
      | refine AV.bsl_congr ?_ ?_
      | (apply rfl)
      | refine bx_cons ?_ ?_
      | refine bx_map ?_
    · rw [wrap64 (by omega) (by omega)]; rfl
    · show mput (b.take i) (b.getD i default).1 (b.getD i default).2 = _
      rw [mput_bind hb (by omega)]
  · simp [List.take_of_length_le (show b.length ≤ i by omega)]
def turnStep (m : List VPair) (p : Str × Str) : Option (List VPair) :=
  if varF p.1 then (match mget m p.1 with | some v => if v = p.2 then some m else none | none => some (mput m p.1 p.2)) else if p.1 = p.2 then some m else none
def turnS (m : List VPair) : List (Str × Str) → Option (List VPair)
  | [] => some m
  | p :: l => match turnStep m p with | some m' => turnS m' l | none => none
def turnF (m : List VPair) (a x : List Str) : Option (List VPair) := if a.length = x.length then turnS m (a.zip x) else none
theorem step_no {m : List VPair} {t x : Str} (h : varF t = false) (h' : t ≠ x) : turnStep m (t, x) = none := by simp [turnStep, h, h']
theorem step_eq {m : List VPair} {t x : Str} (h : varF t = false) (h' : t = x) : turnStep m (t, x) = some m := by subst h'; simp [turnStep, h]
theorem step_new {m : List VPair} {t x : Str} (h : varF t = true) (h' : mget m t = none) : turnStep m (t, x) = some (mput m t x) := by simp [turnStep, h, h']
theorem step_bad {m : List VPair} {t x v : Str} (h : varF t = true) (h' : mget m t = some v) (h2 : v ≠ x) : turnStep m (t, x) = none := by simp [turnStep, h, h', h2]
theorem step_old {m : List VPair} {t x v : Str} (h : varF t = true) (h' : mget m t = some v) (h2 : v = x) : turnStep m (t, x) = some m := by simp [turnStep, h, h', h2]
theorem zip_drop {a x : List Str} {i : Nat} (h1 : i < a.length) (h2 : i < x.length) : (a.zip x).drop i = (a.getD i [], x.getD i []) :: (a.zip x).drop (i + 1) := by
  have h : i < (a.zip x).length := by simp; omega
  rw [List.drop_eq_getElem_cons h]
  simp [List.getD, h1, h2]
theorem str_le' (l : List Str) (i : Nat) : (l.getD i []).length ≤ listSize Ty.str l := by
  rcases Nat.lt_or_ge i l.length with h | h
  · exact str_le h
  · have : l.getD i [] = [] := by simp [List.getD, List.getElem?_eq_none h]
    rw [this]; exact Nat.zero_le _
theorem mput_len (m : List VPair) (k v : Str) : (mput m k v).length ≤ m.length + 1 := by
  induction m with
  | nil => simp [mput]
  | cons p m ih =>
    rw [mput]; split
    · simp
    · simp; exact ih
theorem pturnInto.lent (x y : List AV) (hx : PlainC x) (hy : PlainC y) (m : List VPair) (a z : List Str) (ha : a.length + listSize Ty.str a ≤ 1048576) (hz : z.length + listSize Ty.str z ≤ 1048576) (hm : m.length ≤ 1048576) :
    pturnInto.Lent [.cells .var x, .cells .var y, .map m] [.list none (strs a), .list none (strs z), .bmap 2]
      (fun r b1 f1 => ∃ m', r = .val (.bool (turnF m a z).isSome) ∧ b1 = [.cells .var x, .cells .var y, .map m'] ∧ f1 = [] ∧ ∀ m0, turnF m a z = some m0 → m' = m0) := by
  refine pturnInto.ofL rfl rfl ?_
  repeat' first
    | contradiction
    | (conv => whnf
       first
         | refine Need.mk (fun h => h) ?_
         | refine Need.mk rfl ?_
         | refine Need.mk ⟨rfl, Nat.le_of_ble_eq_true rfl⟩ ?_
         | refine Need.mk (Nat.le_of_ble_eq_true rfl) ?_
         | refine Need.mk (by intros; (try simp only [length_strs] at *); (try simp only [length_rows] at *); (try simp only [length_oldLL, List.length_map] at *); (try simp only [Bool.and_eq_true, decide_eq_true_eq] at *); omega) ?_
         | refine Need.mk ?_ ?_
         | refine Ix.strs rfl (by intros; (try simp only [length_strs] at *); (try simp only [length_rows] at *); (try simp only [length_oldLL, List.length_map] at *); (try simp only [Bool.and_eq_true, decide_eq_true_eq] at *); omega) ?_
         | refine Ix.strs rfl ?_ ?_
         | refine Cut.strs rfl ?_ ?_
         | refine Ix.map (fun _ => rfl) (by intros; (try simp only [length_strs] at *); (try simp only [length_rows] at *); (try simp only [length_oldLL, List.length_map] at *); (try simp only [Bool.and_eq_true, decide_eq_true_eq] at *); omega) ?_
         | refine Ix.map (fun _ => rfl) ?_ ?_
         | refine Cut.map (fun _ => rfl) ?_ ?_
         | refine Fork.yes (by assumption) ?_
         | refine Fork.no (by assumption) ?_
         | refine Fork.decYes (by omega) ?_
         | refine Fork.decNo (by omega) ?_
         | refine Fork.dec (fun _ => ?_) (fun _ => ?_)
         | refine Fork.bne (fun _ => ?_) (fun _ => ?_)
         | refine Fork.beq (fun _ => ?_) (fun _ => ?_)
         | refine Fork.seq (fun _ => ?_) (fun _ => ?_)
         | refine Fork.sne (fun _ => ?_) (fun _ => ?_)
         | refine Fork.neg (fun _ => ?_) (fun _ => ?_)
         | refine Fork.mk (fun _ => ?_) (fun _ => ?_)
         | refine Round.mk ?_
         | refine NilQ.mk (fun b hb => ?_)
         | refine forceK_of ?_
         | refine forceBx_of ?_
         | refine unG_old ?_
         | refine unG_gv ?_
         | refine Lit.read rfl ?_
         | refine FinVal.keep ?_
         | refine FinAgg.keep ?_
         | refine Final.mk rfl rfl
         | refine Final.mk ?_ rfl
         | refine Final.mk ?_ ?_
         | refine FinalT.mk ?_ ?_
         | refine FinalC.all (by repeat' first | exact Lends.nil | refine Lends.map _ ?_ | refine Lends.lend _ _ (by first | exact hx.1 | exact hy.1 | exact noTk_old _ | (intro c hc; rw [List.mem_singleton.1 hc]; rfl) | (intro c hc; cases hc; done)) ?_) ?_)
    | refine AV.bool_congr ?_
    | refine AV.int_congr ?_
    | refine AV.str_congr ?_
    | refine AV.list_congr ?_
    | with_reducible rfl
    | refine fr1 ?_
    | refine fr2 ?_ ?_
  all_goals try simp only [length_strs] at *
  · rename_i h
    have h : ¬ a.length = z.length := by omega
    exact ⟨m, by simp [turnF, h], by first | rfl | trivial, by first | rfl | trivial, by simp [turnF, h]⟩
  rename_i h
  have h : a.length = z.length := by omega
  refine ALoop.mk (Nat × List VPair) (fun i => ⟨[(0, .list none (strs a)), (1, .list none (strs z)), (2, .bmap 2), (16, .list none (strs a)), (17, .val (.int .i64 a.length)), (18, .val (.int .i64 i.1))], [.cells .var x, .cells .var y, .map i.2], []⟩)
    (fun i => i.1 ≤ a.length ∧ i.2.length ≤ m.length + i.1 ∧ turnS i.2 ((a.zip z).drop i.1) = turnS m (a.zip z)) (fun i => a.length - i.1) ⟨(0, m), ⟨Nat.zero_le _, by simp, rfl⟩, ?_⟩ (fun i hi => ?_)
  · repeat' first
      | exact trivial
      | refine Weak.mk ?_ ?_ ?_ ?_ (Or.inl (Nat.le_of_ble_eq_true rfl))
      | refine Weak.mk ?_ ?_ ?_ ?_ (Or.inr ⟨(by repeat' first | exact trivial | exact Nat.le_of_ble_eq_true rfl | refine And.intro ?_ ?_ | exact hx.2 _ | exact hy.2 _), (by repeat' first | exact trivial | exact Nat.le_of_ble_eq_true rfl | refine And.intro ?_ ?_ | exact hx.2 _ | exact hy.2 _)⟩)
      | refine Weak.mk ?_ ?_ ?_ ?_ ?_
      | refine And.intro ?_ ?_
      | with_reducible rfl
      | exact Nat.le_of_ble_eq_true rfl
      | refine fr1 ?_
      | refine fr2 ?_ ?_
      | refine AV.int_congr ?_
      | refine AV.bool_congr ?_
      | refine AV.str_congr ?_
      | refine AV.list_congr ?_
      | refine AV.bsl_congr ?_ ?_
      | (apply rfl)
      | refine bx_cons ?_ ?_
      | refine bx_map ?_
    simp
  obtain ⟨i, m'⟩ := i
  obtain ⟨hi, hml, ht⟩ := hi
  simp only at hi hml ht
  have fails : i < a.length → turnStep m' (a.getD i [], z.getD i []) = none → turnF m a z = none := fun hlt hs => by
    rw [zip_drop hlt (by omega), turnS, hs] at ht
    rw [turnF, if_pos h, ← ht]
  have goes : ∀ m'', i < a.length → turnStep m' (a.getD i [], z.getD i []) = some m'' → turnS m'' ((a.zip z).drop (i + 1)) = turnS m (a.zip z) := fun m'' hlt hs => by
    rw [zip_drop hlt (by omega), turnS, hs] at ht
    exact ht
  have hal := str_le' a i
  have hzl := str_le' z i
  repeat' first
    | contradiction
    | (conv => whnf
       first
         | refine Need.mk (fun h => h) ?_
         | refine Need.mk rfl ?_
         | refine Need.mk ⟨rfl, Nat.le_of_ble_eq_true rfl⟩ ?_
         | refine Need.mk (Nat.le_of_ble_eq_true rfl) ?_
         | refine Need.mk (by intros; (try simp only [length_strs] at *); (try simp only [length_rows] at *); (try simp only [length_oldLL, List.length_map] at *); (try simp only [Bool.and_eq_true, decide_eq_true_eq] at *); omega) ?_
         | refine Need.mk ?_ ?_
         | refine Ix.strs rfl (by intros; (try simp only [length_strs] at *); (try simp only [length_rows] at *); (try simp only [length_oldLL, List.length_map] at *); (try simp only [Bool.and_eq_true, decide_eq_true_eq] at *); omega) ?_
         | refine Ix.strs rfl ?_ ?_
         | refine Cut.strs rfl ?_ ?_
         | refine Ix.map (fun _ => rfl) (by intros; (try simp only [length_strs] at *); (try simp only [length_rows] at *); (try simp only [length_oldLL, List.length_map] at *); (try simp only [Bool.and_eq_true, decide_eq_true_eq] at *); omega) ?_
         | refine Ix.map (fun _ => rfl) ?_ ?_
         | refine Cut.map (fun _ => rfl) ?_ ?_
         | refine Fork.yes (by assumption) ?_
         | refine Fork.no (by assumption) ?_
         | refine Fork.decYes (by omega) ?_
         | refine Fork.decNo (by omega) ?_
         | refine Fork.dec (fun _ => ?_) (fun _ => ?_)
         | refine Fork.bne (fun _ => ?_) (fun _ => ?_)
         | refine Fork.beq (fun _ => ?_) (fun _ => ?_)
         | refine Fork.seq (fun _ => ?_) (fun _ => ?_)
         | refine Fork.sne (fun _ => ?_) (fun _ => ?_)
         | refine Fork.neg (fun _ => ?_) (fun _ => ?_)
         | refine Fork.mk (fun _ => ?_) (fun _ => ?_)
         | refine Round.mk ?_
         | refine NilQ.mk (fun b hb => ?_)
         | refine forceK_of ?_
         | refine forceBx_of ?_
         | refine unG_old ?_
         | refine unG_gv ?_
         | refine Lit.read rfl ?_
         | refine FinVal.keep ?_
         | refine FinAgg.keep ?_
         | refine Final.mk rfl rfl
         | refine Final.mk ?_ rfl
         | refine Final.mk ?_ ?_
         | refine FinalT.mk ?_ ?_
         | refine FinalC.all (by repeat' first | exact Lends.nil | refine Lends.map _ ?_ | refine Lends.lend _ _ (by first | exact hx.1 | exact hy.1 | exact noTk_old _ | (intro c hc; rw [List.mem_singleton.1 hc]; rfl) | (intro c hc; cases hc; done)) ?_) ?_
         | refine ACall.scal _ _ (pIsVar.ret _ ?_) rfl (by repeat' first | exact SeesL.nil | refine SeesL.cons ?_ ?_ | exact SeesB.of0 (Sees0.val _) | exact SeesB.of0 (Sees0.str _) | exact SeesB.of0 (Sees0.olds _ _) | exact SeesB.of0 (Sees0.old _) | exact SeesB.of0 (Sees0.oldagg _) | exact SeesB.of0 Sees0.nil | exact Sees0.val _ | exact Sees0.str _ | exact Sees0.olds _ _ | exact Sees0.old _ | exact Sees0.oldagg _ | exact Sees0.nil | exact SeesB.of0 (Sees0.any _) | assumption | exact sees_gv _ _ _ (by assumption) (by first | assumption | exact BoxIn.last _ _ | exact BoxIn.more (BoxIn.last _ _) _) | refine SeesB.agg ?_ | refine Sees0.agg ?_ | exact SeesB.of0 (Sees0.clo SeesL.nil SeesL.nil) | exact Sees0.clo SeesL.nil SeesL.nil) ?_
         | refine AQCall.mk _ _ (fun hg => pIsVar.ret _ ?_) rfl (fun _ => (by repeat' first | exact SeesL.nil | refine SeesL.cons ?_ ?_ | exact SeesB.of0 (Sees0.val _) | exact SeesB.of0 (Sees0.str _) | exact SeesB.of0 (Sees0.olds _ _) | exact SeesB.of0 (Sees0.old _) | exact SeesB.of0 (Sees0.oldagg _) | exact SeesB.of0 Sees0.nil | exact Sees0.val _ | exact Sees0.str _ | exact Sees0.olds _ _ | exact Sees0.old _ | exact Sees0.oldagg _ | exact Sees0.nil | exact SeesB.of0 (Sees0.any _) | assumption | exact sees_gv _ _ _ (by assumption) (by first | assumption | exact BoxIn.last _ _ | exact BoxIn.more (BoxIn.last _ _) _) | refine SeesB.agg ?_ | refine Sees0.agg ?_ | exact SeesB.of0 (Sees0.clo SeesL.nil SeesL.nil) | exact Sees0.clo SeesL.nil SeesL.nil)) ?_)
    | refine AV.bool_congr ?_
    | refine AV.int_congr ?_
    | refine AV.str_congr ?_
    | refine AV.list_congr ?_
    | with_reducible rfl
    | refine fr1 ?_
    | refine fr2 ?_ ?_
  all_goals try simp only [length_rows, length_strs, length_oldLL, List.length_map, Int.toNat_natCast] at *
  · intro _; unfold maxLen; omega
  · omega
  · rename_i h1 h2 h3
    have hf := fails (by omega) (step_no h2 h3)
    exact ⟨m', by rw [hf]; rfl, by first | rfl | trivial, by first | rfl | trivial, by simp [hf]⟩
  · rename_i h1 h2 h3
    refine ⟨(i + 1, m'), ⟨by simp only; omega, by simp only; omega, goes m' (by omega) (step_eq h2 h3)⟩, ?_, by simp only; omega⟩
    repeat' first
      | exact trivial
      | refine Weak.mk ?_ ?_ ?_ ?_ (Or.inl (Nat.le_of_ble_eq_true rfl))
      | refine Weak.mk ?_ ?_ ?_ ?_ (Or.inr ⟨(by repeat' first | exact trivial | exact Nat.le_of_ble_eq_true rfl | refine And.intro ?_ ?_ | exact hx.2 _ | exact hy.2 _), (by repeat' first | exact trivial | exact Nat.le_of_ble_eq_true rfl | refine And.intro ?_ ?_ | exact hx.2 _ | exact hy.2 _)⟩)
      | refine Weak.mk ?_ ?_ ?_ ?_ ?_
      | refine And.intro ?_ ?_
      | with_reducible rfl
      | exact Nat.le_of_ble_eq_true rfl
      | refine fr1 ?_
      | refine fr2 ?_ ?_
      | refine AV.int_congr ?_
      | refine AV.bool_congr ?_
      | refine AV.str_congr ?_
      | refine AV.list_congr ?_
      | refine AV.bsl_congr ?_ ?_
      | (apply rfl)
      | refine bx_cons ?_ ?_
      | refine bx_map ?_
    rw [wrap64 (by omega) (by omega)]; rfl
  · unfold maxLen; omega
  · rename_i h1 h2 h3 h4
    have h3 : mget m' (a.getD i []) = none := by simpa using h3
    have hl := mput_len m' (a.getD i []) (z.getD i [])
    refine ⟨(i + 1, mput m' (a.getD i []) (z.getD i [])), ⟨by simp only; omega, by simp only; omega, goes _ (by omega) (step_new h2 h3)⟩, ?_, by simp only; omega⟩
    repeat' first
      | exact trivial
      | refine Weak.mk ?_ ?_ ?_ ?_ (Or.inl (Nat.le_of_ble_eq_true rfl))
      | refine Weak.mk ?_ ?_ ?_ ?_ (Or.inr ⟨(by repeat' first | exact trivial | exact Nat.le_of_ble_eq_true rfl | refine And.intro ?_ ?_ | exact hx.2 _ | exact hy.2 _), (by repeat' first | exact trivial | exact Nat.le_of_ble_eq_true rfl | refine And.intro ?_ ?_ | exact hx.2 _ | exact hy.2 _)⟩)
      | refine Weak.mk ?_ ?_ ?_ ?_ ?_
      | refine And.intro ?_ ?_
      | with_reducible rfl
      | exact Nat.le_of_ble_eq_true rfl
      | refine fr1 ?_
      | refine fr2 ?_ ?_
      | refine AV.int_congr ?_
      | refine AV.bool_congr ?_
      | refine AV.str_congr ?_
      | refine AV.list_congr ?_
      | refine AV.bsl_congr ?_ ?_
      | (apply rfl)
      | refine bx_cons ?_ ?_
      | refine bx_map ?_
    rw [wrap64 (by omega) (by omega)]; rfl
  · rename_i h1 h2 h3 h4
    obtain ⟨v, hv⟩ := Option.isSome_iff_exists.1 h3
    rw [hv] at h4
    have h4 : v ≠ z.getD i [] := h4
    have hf := fails (by omega) (step_bad h2 hv h4)
    exact ⟨m', by rw [hf]; rfl, by first | rfl | trivial, by first | rfl | trivial, by simp [hf]⟩
  · rename_i h1 h2 h3 h4
    obtain ⟨v, hv⟩ := Option.isSome_iff_exists.1 h3
    rw [hv] at h4
    have h4 : v = z.getD i [] := h4
    refine ⟨(i + 1, m'), ⟨by simp only; omega, by simp only; omega, goes m' (by omega) (step_old h2 hv h4)⟩, ?_, by simp only; omega⟩
    repeat' first
      | exact trivial
      | refine Weak.mk ?_ ?_ ?_ ?_ (Or.inl (Nat.le_of_ble_eq_true rfl))
      | refine Weak.mk ?_ ?_ ?_ ?_ (Or.inr ⟨(by repeat' first | exact trivial | exact Nat.le_of_ble_eq_true rfl | refine And.intro ?_ ?_ | exact hx.2 _ | exact hy.2 _), (by repeat' first | exact trivial | exact Nat.le_of_ble_eq_true rfl | refine And.intro ?_ ?_ | exact hx.2 _ | exact hy.2 _)⟩)
      | refine Weak.mk ?_ ?_ ?_ ?_ ?_
      | refine And.intro ?_ ?_
      | with_reducible rfl
      | exact Nat.le_of_ble_eq_true rfl
      | refine fr1 ?_
      | refine fr2 ?_ ?_
      | refine AV.int_congr ?_
      | refine AV.bool_congr ?_
      | refine AV.str_congr ?_
      | refine AV.list_congr ?_
      | refine AV.bsl_congr ?_ ?_
      | (apply rfl)
      | refine bx_cons ?_ ?_
      | refine bx_map ?_
    rw [wrap64 (by omega) (by omega)]; rfl
  · have e : (a.zip z).drop i = [] := List.drop_eq_nil_of_le (by simp; omega)
    rw [e, turnS] at ht
    have hf : turnF m a z = some m' := by rw [turnF, if_pos h, ← ht]
    exact ⟨m', by rw [hf]; rfl, by first | rfl | trivial, by first | rfl | trivial, by rw [hf]; intro m0 e; cases e; rfl⟩
def pairsM (m : List VPair) : List VPair := (srt (m.map (·.1))).map fun k => (k, (mget m k).getD [])
theorem srt_len (l : List Str) : (srt l).length = l.length := by simp [srt]
theorem slKeys.lent (x y : List AV) (hx : PlainC x) (hy : PlainC y) (m : List VPair) :
    slKeys.Lent [.cells .var x, .cells .var y, .map m] [.bmap 2] (fun r b1 f1 => r = .clo 151 [] [.bptr 3 0] ∧ b1 = [.cells .var x, .cells .var y, .map m, .cells .var [.bmap 2]] ∧ f1 = []) := by
  refine slKeys.ofL rfl rfl ?_
  repeat' first
    | contradiction
    | (conv => whnf
       first
         | refine Need.mk (fun h => h) ?_
         | refine Need.mk rfl ?_
         | refine Need.mk ⟨rfl, Nat.le_of_ble_eq_true rfl⟩ ?_
         | refine Need.mk (Nat.le_of_ble_eq_true rfl) ?_
         | refine Need.mk (by intros; (try simp only [length_strs] at *); (try simp only [length_rows] at *); (try simp only [length_oldLL, List.length_map] at *); (try simp only [Bool.and_eq_true, decide_eq_true_eq] at *); omega) ?_
         | refine Need.mk ?_ ?_
         | refine Ix.strs rfl (by intros; (try simp only [length_strs] at *); (try simp only [length_rows] at *); (try simp only [length_oldLL, List.length_map] at *); (try simp only [Bool.and_eq_true, decide_eq_true_eq] at *); omega) ?_
         | refine Ix.strs rfl ?_ ?_
         | refine Cut.strs rfl ?_ ?_
         | refine Ix.map (fun _ => rfl) (by intros; (try simp only [length_strs] at *); (try simp only [length_rows] at *); (try simp only [length_oldLL, List.length_map] at *); (try simp only [Bool.and_eq_true, decide_eq_true_eq] at *); omega) ?_
         | refine Ix.map (fun _ => rfl) ?_ ?_
         | refine Cut.map (fun _ => rfl) ?_ ?_
         | refine Fork.yes (by assumption) ?_
         | refine Fork.no (by assumption) ?_
         | refine Fork.decYes (by omega) ?_
         | refine Fork.decNo (by omega) ?_
         | refine Fork.dec (fun _ => ?_) (fun _ => ?_)
         | refine Fork.bne (fun _ => ?_) (fun _ => ?_)
         | refine Fork.beq (fun _ => ?_) (fun _ => ?_)
         | refine Fork.seq (fun _ => ?_) (fun _ => ?_)
         | refine Fork.sne (fun _ => ?_) (fun _ => ?_)
         | refine Fork.neg (fun _ => ?_) (fun _ => ?_)
         | refine Fork.mk (fun _ => ?_) (fun _ => ?_)
         | refine Round.mk ?_
         | refine NilQ.mk (fun b hb => ?_)
         | refine forceK_of ?_
         | refine forceBx_of ?_
         | refine unG_old ?_
         | refine unG_gv ?_
         | refine Lit.read rfl ?_
         | refine FinVal.keep ?_
         | refine FinAgg.keep ?_
         | refine Final.mk rfl rfl
         | refine Final.mk ?_ rfl
         | refine Final.mk ?_ ?_
         | refine FinalT.mk ?_ ?_
         | refine FinalC.all (by repeat' first | exact Lends.nil | refine Lends.map _ ?_ | refine Lends.lend _ _ (by first | exact hx.1 | exact hy.1 | exact noTk_old _ | (intro c hc; rw [List.mem_singleton.1 hc]; rfl) | (intro c hc; cases hc; done)) ?_) ?_)
    | refine AV.bool_congr ?_
    | refine AV.int_congr ?_
    | refine AV.str_congr ?_
    | refine AV.list_congr ?_
    | with_reducible rfl
    | refine fr1 ?_
    | refine fr2 ?_ ?_
  · exact ⟨rfl, rfl⟩
  · exact ⟨rfl, rfl, rfl⟩
theorem srt_in {l : List Str} {s : Str} (h : s ∈ srt l) : s ∈ l := by simpa [srt] using h
theorem ppairsOfMap.lent (x y : List AV) (hx : PlainC x) (hy : PlainC y) (m : List VPair) (hm : m.length ≤ 1048576) (hl : ∀ p ∈ m, p.1.length ≤ 1048576) :
    Abs.Lent false Try.prog 103 [.cells .var x, .cells .var y, .map m] [.bmap 2]
      (fun r b1 f1 => r = .list (some 0) (pairs (pairsM m)) ∧ b1 = [.cells .var x, .cells .var y, .map m, .cells .var [.bmap 2]] ∧ f1 = [(88, 2, m.length), (9, 1, m.length)]) := by
  refine ppairsOfMap.ofL rfl rfl ?_
  have hk := slKeys.lent x y hx hy m
  have hs := slSortedS.lent [.cells .var x, .cells .var y, .map m, .cells .var [.bmap 2]] 3 2 m rfl rfl rfl hm
  have hlen : (srt (m.map (·.1))).length = m.length := by simp [srt]
  have hsl : ∀ i, ((srt (m.map (·.1))).getD i []).length ≤ 1048576 := fun i => by
    rcases Nat.lt_or_ge i (srt (m.map (·.1))).length with h | h
    · have h1 : (srt (m.map (·.1))).getD i [] ∈ srt (m.map (·.1)) := by simp [List.getD, h]
      obtain ⟨p, hp, e⟩ := List.mem_map.1 (srt_in h1)
      rw [← e]; exact hl p hp
    · have : (srt (m.map (·.1))).getD i [] = [] := by simp [List.getD, List.getElem?_eq_none h]
      rw [this]; exact Nat.zero_le _
  generalize hks : srt (m.map (·.1)) = ks at hs hlen hsl
  have hpm : pairsM m = ks.map fun k => (k, (mget m k).getD []) := by rw [pairsM, hks]
  repeat' first
    | contradiction
    | (conv => whnf
       first
         | refine Need.mk (fun h => h) ?_
         | refine Need.mk rfl ?_
         | refine Need.mk ⟨rfl, Nat.le_of_ble_eq_true rfl⟩ ?_
         | refine Need.mk (Nat.le_of_ble_eq_true rfl) ?_
         | refine Need.mk (by intros; (try simp only [length_strs] at *); (try simp only [length_rows] at *); (try simp only [length_oldLL, List.length_map] at *); (try simp only [Bool.and_eq_true, decide_eq_true_eq] at *); omega) ?_
         | refine Need.mk ?_ ?_
         | refine Ix.strs rfl (by intros; (try simp only [length_strs] at *); (try simp only [length_rows] at *); (try simp only [length_oldLL, List.length_map] at *); (try simp only [Bool.and_eq_true, decide_eq_true_eq] at *); omega) ?_
         | refine Ix.strs rfl ?_ ?_
         | refine Cut.strs rfl ?_ ?_
         | refine Ix.map (fun _ => rfl) (by intros; (try simp only [length_strs] at *); (try simp only [length_rows] at *); (try simp only [length_oldLL, List.length_map] at *); (try simp only [Bool.and_eq_true, decide_eq_true_eq] at *); omega) ?_
         | refine Ix.map (fun _ => rfl) ?_ ?_
         | refine Cut.map (fun _ => rfl) ?_ ?_
         | refine Fork.yes (by assumption) ?_
         | refine Fork.no (by assumption) ?_
         | refine Fork.decYes (by omega) ?_
         | refine Fork.decNo (by omega) ?_
         | refine Fork.dec (fun _ => ?_) (fun _ => ?_)
         | refine Fork.bne (fun _ => ?_) (fun _ => ?_)
         | refine Fork.beq (fun _ => ?_) (fun _ => ?_)
         | refine Fork.seq (fun _ => ?_) (fun _ => ?_)
         | refine Fork.sne (fun _ => ?_) (fun _ => ?_)
         | refine Fork.neg (fun _ => ?_) (fun _ => ?_)
         | refine Fork.mk (fun _ => ?_) (fun _ => ?_)
         | refine Round.mk ?_
         | refine NilQ.mk (fun b hb => ?_)
         | refine forceK_of ?_
         | refine forceBx_of ?_
         | refine unG_old ?_
         | refine unG_gv ?_
         | refine Lit.read rfl ?_
         | refine FinVal.keep ?_
         | refine FinAgg.keep ?_
         | refine Final.mk rfl rfl
         | refine Final.mk ?_ rfl
         | refine Final.mk ?_ ?_
         | refine FinalT.mk ?_ ?_
         | refine FinalC.all (by repeat' first | exact Lends.nil | refine Lends.map _ ?_ | refine Lends.lend _ _ (by first | exact hx.1 | exact hy.1 | exact noTk_old _ | (intro c hc; rw [List.mem_singleton.1 hc]; rfl) | (intro c hc; cases hc; done)) ?_) ?_
         | refine ACall.lentE _ _ _ _ _ (Lent.weak (hk)) (by repeat' first | exact Lends.nil | refine Lends.map _ ?_ | refine Lends.lend _ _ (by first | exact hx.1 | exact hy.1 | exact noTk_old _ | (intro c hc; rw [List.mem_singleton.1 hc]; rfl) | (intro c hc; cases hc; done)) ?_) (by repeat' first | exact SeesL.nil | refine SeesL.cons ?_ ?_ | exact Or.inl ⟨rfl, rfl⟩ | exact Or.inr (Sees0.str _) | exact Or.inr (Sees0.val _) | exact Or.inr (Sees0.olds _ _) | exact Or.inr (Sees0.old _) | exact Or.inr (Sees0.oldagg _)) ?_
         | refine ACall.lentS _ _ _ _ _ (hs) (by repeat' first | exact Lends.nil | refine Lends.map _ ?_ | refine Lends.lend _ _ (by first | exact hx.1 | exact hy.1 | exact noTk_old _ | (intro c hc; rw [List.mem_singleton.1 hc]; rfl) | (intro c hc; cases hc; done)) ?_) (by repeat' first | exact SeesL.nil | refine SeesL.cons ?_ ?_ | exact Or.inl ⟨rfl, rfl⟩ | exact Or.inr (Sees0.str _) | exact Or.inr (Sees0.val _) | exact Or.inr (Sees0.olds _ _) | exact Or.inr (Sees0.old _) | exact Or.inr (Sees0.oldagg _)) ?_)
    | refine AV.bool_congr ?_
    | refine AV.int_congr ?_
    | refine AV.str_congr ?_
    | refine AV.list_congr ?_
    | with_reducible rfl
    | refine fr1 ?_
    | refine fr2 ?_ ?_
  refine ALoop.mk Nat (fun i => ⟨[(0, .bmap 2), (3, .list (some 0) (pairs ((ks.take i).map fun k => (k, (mget m k).getD [])))), (9, .list (some 1) (strs ks)), (10, .val (.int .i64 ks.length)), (11, .val (.int .i64 i))], [.cells .var x, .cells .var y, .map m, .cells .var [.bmap 2]], [(88, 2, ((ks.take i).map fun k => (k, (mget m k).getD [])).length), (9, 1, m.length)]⟩)
    (fun i => i ≤ ks.length) (fun i => ks.length - i) ⟨0, Nat.zero_le _, ?_⟩ (fun i hi => ?_)
  · repeat' first
      | exact trivial
      | refine Weak.mk ?_ ?_ ?_ ?_ (Or.inl (Nat.le_of_ble_eq_true rfl))
      | refine Weak.mk ?_ ?_ ?_ ?_ (Or.inr ⟨(by repeat' first | exact trivial | exact Nat.le_of_ble_eq_true rfl | refine And.intro ?_ ?_ | exact hx.2 _ | exact hy.2 _), (by repeat' first | exact trivial | exact Nat.le_of_ble_eq_true rfl | refine And.intro ?_ ?_ | exact hx.2 _ | exact hy.2 _)⟩)
      | refine Weak.mk ?_ ?_ ?_ ?_ ?_
      | refine And.intro ?_ ?_
      | with_reducible rfl
      | exact Nat.le_of_ble_eq_true rfl
      | refine fr1 ?_
      | refine fr2 ?_ ?_
      | refine AV.int_congr ?_
      | refine AV.bool_congr ?_
      | refine AV.str_congr ?_
      | refine AV.list_congr ?_
      | refine AV.bsl_congr ?_ ?_
      | (apply rfl)
      | refine bx_cons ?_ ?_
      | refine bx_map ?_
    simp
  have hkn : i < ks.length → (ks.take (i + 1)).map (fun k => (k, (mget m k).getD [])) = (ks.take i).map (fun k => (k, (mget m k).getD [])) ++ [(ks.getD i [], (mget m (ks.getD i [])).getD [])] := fun h => by
    rw [take_succ' [] h, List.map_append]; rfl
  have hsi := hsl i
  have htl : ((ks.take i).map fun k => (k, (mget m k).getD [])).length ≤ ks.length := by simp; omega
  repeat' first
    | contradiction
    | (conv => whnf
       first
         | refine Need.mk (fun h => h) ?_
         | refine Need.mk rfl ?_
         | refine Need.mk ⟨rfl, Nat.le_of_ble_eq_true rfl⟩ ?_
         | refine Need.mk (Nat.le_of_ble_eq_true rfl) ?_
         | refine Need.mk (by intros; (try simp only [length_strs] at *); (try simp only [length_rows] at *); (try simp only [length_oldLL, List.length_map] at *); (try simp only [Bool.and_eq_true, decide_eq_true_eq] at *); omega) ?_
         | refine Need.mk ?_ ?_
         | refine Ix.strs rfl (by intros; (try simp only [length_strs] at *); (try simp only [length_rows] at *); (try simp only [length_oldLL, List.length_map] at *); (try simp only [Bool.and_eq_true, decide_eq_true_eq] at *); omega) ?_
         | refine Ix.strs rfl ?_ ?_
         | refine Cut.strs rfl ?_ ?_
         | refine Ix.map (fun _ => rfl) (by intros; (try simp only [length_strs] at *); (try simp only [length_rows] at *); (try simp only [length_oldLL, List.length_map] at *); (try simp only [Bool.and_eq_true, decide_eq_true_eq] at *); omega) ?_
         | refine Ix.map (fun _ => rfl) ?_ ?_
         | refine Cut.map (fun _ => rfl) ?_ ?_
         | refine Fork.yes (by assumption) ?_
         | refine Fork.no (by assumption) ?_
         | refine Fork.decYes (by omega) ?_
         | refine Fork.decNo (by omega) ?_
         | refine Fork.dec (fun _ => ?_) (fun _ => ?_)
         | refine Fork.bne (fun _ => ?_) (fun _ => ?_)
         | refine Fork.beq (fun _ => ?_) (fun _ => ?_)
         | refine Fork.seq (fun _ => ?_) (fun _ => ?_)
         | refine Fork.sne (fun _ => ?_) (fun _ => ?_)
         | refine Fork.neg (fun _ => ?_) (fun _ => ?_)
         | refine Fork.mk (fun _ => ?_) (fun _ => ?_)
         | refine Round.mk ?_
         | refine NilQ.mk (fun b hb => ?_)
         | refine forceK_of ?_
         | refine forceBx_of ?_
         | refine unG_old ?_
         | refine unG_gv ?_
         | refine Lit.read rfl ?_
         | refine FinVal.keep ?_
         | refine FinAgg.keep ?_
         | refine Final.mk rfl rfl
         | refine Final.mk ?_ rfl
         | refine Final.mk ?_ ?_
         | refine FinalT.mk ?_ ?_
         | refine FinalC.all (by repeat' first | exact Lends.nil | refine Lends.map _ ?_ | refine Lends.lend _ _ (by first | exact hx.1 | exact hy.1 | exact noTk_old _ | (intro c hc; rw [List.mem_singleton.1 hc]; rfl) | (intro c hc; cases hc; done)) ?_) ?_)
    | refine AV.bool_congr ?_
    | refine AV.int_congr ?_
    | refine AV.str_congr ?_
    | refine AV.list_congr ?_
    | with_reducible rfl
    | refine fr1 ?_
    | refine fr2 ?_ ?_
  all_goals try simp only [length_rows, length_strs, length_oldLL, List.length_map, Int.toNat_natCast] at *
  · intro _; unfold maxLen; omega
  · intro c hc; rw [List.mem_singleton.1 hc]; rfl
  · simp only [List.length_singleton]; omega
  · refine ⟨i + 1, by omega, ?_, by omega⟩
    repeat' first
      | exact trivial
      | refine Weak.mk ?_ ?_ ?_ ?_ (Or.inl (Nat.le_of_ble_eq_true rfl))
      | refine Weak.mk ?_ ?_ ?_ ?_ (Or.inr ⟨(by repeat' first | exact trivial | exact Nat.le_of_ble_eq_true rfl | refine And.intro ?_ ?_ | exact hx.2 _ | exact hy.2 _), (by repeat' first | exact trivial | exact Nat.le_of_ble_eq_true rfl | refine And.intro ?_ ?_ | exact hx.2 _ | exact hy.2 _)⟩)
      | refine Weak.mk ?_ ?_ ?_ ?_ ?_
      | refine And.intro ?_ ?_
      | with_reducible rfl
      | exact Nat.le_of_ble_eq_true rfl
      | refine fr1 ?_
      | refine fr2 ?_ ?_
      | refine AV.int_congr ?_
      | refine AV.bool_congr ?_
      | refine AV.str_congr ?_
      | refine AV.list_congr ?_
      | refine AV.bsl_congr ?_ ?_
      | (apply rfl)
      | refine bx_cons ?_ ?_
      | refine bx_map ?_
    · rw [hkn (by omega)]; exact rows_snoc tPair ((ks.take i).map fun k => (k, (mget m k).getD [])) (ks.getD i [], (mget m (ks.getD i [])).getD [])
    · rw [wrap64 (by omega) (by omega)]; rfl
    · simp only [List.length_take, List.length_singleton]; omega
  · have e : ks.take i = ks := List.take_of_length_le (by omega)
    simp [e, hpm, hlen]
end Go.Proofs.Ytcbepmomjpcjhaa
namespace Go.Proofs.Ytcbepmomjpcjhaa
open Abs
def setR (v x : Str) : List VPair → List VPair
  | [] => [(v, x)]
  | p :: b => if blt v p.1 then (v, x) :: p :: b else p :: setR v x b
def extF (b : List VPair) (v x : Str) : Option (List VPair) :=
  if bindF b && varF v && atomF x then (if (valF b v).2 && decide ((valF b v).1 = x) then some b else if (valF b v).2 || decide (b.length = 6) then none else some (setR v x b)) else none
def matS (e : List VPair) : List (Str × Str) → Option (List VPair)
  | [] => some e
  | q :: l => if atomF q.1 then (if q.1 = q.2 then matS e l else none) else (match extF e q.1 q.2 with | some e' => matS e' l | none => none)
abbrev AscP (b : List VPair) : Prop := b.Pairwise fun p q => p.1 < q.1
theorem bindF_iff (b : List VPair) : bindF b = true ↔ b.length ≤ 6 ∧ (∀ p ∈ b, varF p.1 = true ∧ atomF p.2 = true) ∧ AscP b := by
  constructor
  · intro h
    refine ⟨bindF_len h, fun p hp => ?_, ?_⟩
    · obtain ⟨j, hj⟩ := List.getElem?_of_mem hp
      have hb := bindF_lt h (getElem?_lt hj)
      have e : b.getD j default = p := by simp [List.getD, hj]
      unfold badB at hb
      rw [e] at hb
      simp only [Bool.or_eq_false_iff, Bool.not_eq_false'] at hb
      exact hb.1
    · rw [AscP, List.pairwise_iff_getElem]
      intro i j hi hj hij
      have := bindF_sorted h (j - i - 1) i (by omega)
      rw [show i + (j - i - 1) + 1 = j by omega] at this
      have h2 : blt (b.getD i default).1 (b.getD j default).1 = true := this
      rw [blt_eq, decide_eq_true_eq] at h2
      simpa [List.getD, hi, hj] using h2
  · rintro ⟨h1, h2, h3⟩
    rw [bindF_yes (fun j hj => ?_)]
    · simp; omega
    · have hm : b.getD j default ∈ b := by simp [List.getD, hj]
      obtain ⟨v1, v2⟩ := h2 _ hm
      unfold badB
      rw [v1, v2]
      simp only [Bool.not_true, Bool.false_or, Bool.and_eq_false_iff, decide_eq_false_iff_not, Bool.not_eq_false']
      rcases Nat.eq_zero_or_pos j with rfl | hp
      · left; omega
      · right
        have h4 := List.pairwise_iff_getElem.1 h3 (j - 1) j (by omega) hj (by omega)
        have : blt (b.getD (j - 1) default).1 (b.getD j default).1 = true := by
          rw [blt_eq, decide_eq_true_eq]
          have hj1 : j - 1 < b.length := by omega
          simpa [List.getD, hj, hj1] using h4
        exact this
theorem atom_novar {t : Str} (h : atomF t = true) : varF t = false := by
  cases t with
  | nil => rfl
  | cons c t =>
    have hc : alnum c = true := by
      unfold atomF at h
      rw [List.all_cons, Bool.and_eq_true, Bool.and_eq_true] at h
      exact h.1.1
    cases hv : varF (c :: t) with
    | false => rfl
    | true =>
      unfold varF at hv
      simp only [Bool.and_eq_true, beq_iff_eq, List.getD_cons_zero] at hv
      have h63 : c.toNat = 63 := by have := hv.1.2; omega
      have : c = 63 := UInt8.toNat_inj.1 h63
      rw [this] at hc
      exact absurd hc (by decide)
theorem lookV_mem : ∀ {b : List VPair} {k v : Str}, lookV b k = some v → (k, v) ∈ b
  | [], _, _, h => by cases h
  | p :: b, k, v, h => by
    rw [lookV] at h
    split at h
    · rename_i e; cases h; subst e; simp
    · exact List.mem_cons_of_mem _ (lookV_mem h)
theorem lookV_none : ∀ {b : List VPair} {k : Str}, lookV b k = none → ∀ p ∈ b, p.1 ≠ k
  | [], _, _, p, hp => by simp at hp
  | q :: b, k, h, p, hp => by
    rw [lookV] at h
    split at h
    · cases h
    · rename_i e
      rcases List.mem_cons.1 hp with rfl | hp
      · exact e
      · exact lookV_none h p hp
/-- the list is the map's pairs, in order -/
structure Like (e m : List VPair) : Prop where
  asc : AscP e
  perm : (e.map (·.1)).Perm (m.map (·.1))
  val : ∀ p ∈ e, mget m p.1 = some p.2
theorem mget_key : ∀ {m : List VPair} {k v : Str}, mget m k = some v → k ∈ m.map (·.1)
  | [], _, _, h => by cases h
  | p :: m, k, v, h => by
    rw [mget] at h
    split at h
    · rename_i e; subst e; simp
    · exact List.mem_cons_of_mem _ (mget_key h)
theorem Like.len {e m : List VPair} (h : Like e m) : e.length = m.length := by simpa using h.perm.length_eq
theorem Like.look {e m : List VPair} (h : Like e m) (k : Str) : lookV e k = mget m k := by
  cases h1 : lookV e k with
  | some v => exact (h.val _ (lookV_mem h1)).symm
  | none =>
    cases h2 : mget m k with
    | none => rfl
    | some v =>
      obtain ⟨p, hp, hk⟩ := List.mem_map.1 (h.perm.symm.mem_iff.1 (mget_key h2))
      exact absurd hk (lookV_none h1 p hp)
theorem srt_fix {l : List Str} (h : l.Pairwise fun a b => a < b) : srt l = l := by
  refine List.mergeSort_of_pairwise (h.imp fun hab => ?_)
  simp only [decide_eq_true_eq]
  exact List.le_of_lt hab
theorem Like.eq {e m : List VPair} (h : Like e m) : e = pairsM m := by
  have h1 : srt (m.map (·.1)) = e.map (·.1) := by
    have h2 : srt (m.map (·.1)) = srt (e.map (·.1)) := (mergeSort_of_perm h.perm.symm : _)
    rw [h2, srt_fix (List.pairwise_map.2 h.asc)]
  rw [pairsM, h1, List.map_map]
  have h3 : ∀ p ∈ e, ((fun k => (k, (mget m k).getD [])) ∘ fun p : VPair => p.1) p = id p := fun p hp => by
    show (p.1, (mget m p.1).getD []) = p
    rw [h.val p hp]; rfl
  rw [List.map_congr_left h3, List.map_id]
theorem mem_setR {v x : Str} : ∀ {b : List VPair} {p : VPair}, p ∈ setR v x b ↔ p = (v, x) ∨ p ∈ b
  | [], p => by simp [setR]
  | q :: b, p => by
    rw [setR]
    split
    · simp
    · simp only [List.mem_cons, mem_setR (b := b)]
      constructor
      · rintro (h | h | h) <;> simp [h]
      · rintro (h | h | h) <;> simp [h]
theorem setR_perm {v x : Str} : ∀ b : List VPair, (setR v x b).Perm (b ++ [(v, x)])
  | [] => List.Perm.refl _
  | q :: b => by
    rw [setR]
    split
    · exact (List.perm_append_singleton (v, x) (q :: b)).symm
    · exact (setR_perm b).cons q
theorem setR_asc {v x : Str} : ∀ {b : List VPair}, AscP b → (∀ p ∈ b, p.1 ≠ v) → AscP (setR v x b)
  | [], _, _ => by simp [setR]
  | q :: b, h, hn => by
    obtain ⟨h1, h2⟩ := List.pairwise_cons.1 h
    rw [setR]
    split
    · rename_i hlt
      rw [blt_eq, decide_eq_true_eq] at hlt
      refine List.pairwise_cons.2 ⟨fun p hp => ?_, h⟩
      rcases List.mem_cons.1 hp with rfl | hp
      · exact hlt
      · exact List.lt_trans hlt (h1 p hp)
    · rename_i hlt
      have hlt : blt v q.1 = false := by simpa using hlt
      have h3 : q.1 < v := by
        cases h4 : blt q.1 v with
        | true => rwa [blt_eq, decide_eq_true_eq] at h4
        | false => exact absurd (blt_sto.tri _ _ h4 hlt) (hn q (by simp))
      refine List.pairwise_cons.2 ⟨fun p hp => ?_, setR_asc h2 (fun p hp => hn p (by simp [hp]))⟩
      rcases mem_setR.1 hp with rfl | hp
      · exact h3
      · exact h1 p hp
theorem mget_snoc {m : List VPair} {v x : Str} : ∀ {k : Str}, mget (m ++ [(v, x)]) k = (match mget m k with | some u => some u | none => if v = k then some x else none) := by
  induction m with
  | nil => intro k; rfl
  | cons p m ih =>
    intro k
    rw [List.cons_append, mget, mget]
    split
    · rfl
    · exact ih
theorem Like.set {e m : List VPair} (h : Like e m) {v x : Str} (hn : mget m v = none) : Like (setR v x e) (mput m v x) := by
  have hm : mput m v x = m ++ [(v, x)] := by
    refine (mget_no fun p hp he => ?_).2 x
    have hl : lookV e v = none := by rw [h.look]; exact hn
    obtain ⟨q, hq, hk⟩ := List.mem_map.1 (h.perm.symm.mem_iff.1 (List.mem_map.2 ⟨p, hp, rfl⟩))
    exact lookV_none hl q hq (hk.trans he)
  have hl : lookV e v = none := by rw [h.look]; exact hn
  rw [hm]
  refine ⟨setR_asc h.asc (lookV_none hl), ?_, fun p hp => ?_⟩
  · refine ((setR_perm e).map _).trans ?_
    rw [List.map_append, List.map_append]
    exact h.perm.append (List.Perm.refl _)
  · rw [mget_snoc]
    rcases mem_setR.1 hp with rfl | hp
    · rw [hn]; simp
    · rw [h.val p hp]
theorem turnS_len : ∀ {l : List (Str × Str)} {m m' : List VPair}, turnS m l = some m' → m.length ≤ m'.length
  | [], m, m', h => by cases h; exact Nat.le_refl _
  | q :: l, m, m', h => by
    rw [turnS] at h
    split at h
    · rename_i m1 h1
      refine Nat.le_trans ?_ (turnS_len h)
      unfold turnStep at h1
      split at h1
      · split at h1
        · split at h1
          · cases h1; exact Nat.le_refl _
          · cases h1
        · cases h1
          have : ∀ (m : List VPair) k v, m.length ≤ (mput m k v).length := fun m k v => by
            induction m with
            | nil => simp [mput]
            | cons p m ih => rw [mput]; split <;> simp; exact ih
          exact this _ _ _
      · split at h1
        · cases h1; exact Nat.le_refl _
        · cases h1
    · cases h
def fin6 (o : Option (List VPair)) : Option (List VPair) := match o with | some m => if m.length ≤ 6 then some (pairsM m) else none | none => none
theorem matS_eq : ∀ (l : List (Str × Str)) {e m : List VPair}, Like e m → bindF e = true → (∀ q ∈ l, termF q.1 = true ∧ atomF q.2 = true) → matS e l = fin6 (turnS m l)
  | [], e, m, h, hb, _ => by
    have := h.len
    have := bindF_len hb
    rw [matS, turnS, fin6, if_pos (by omega), ← h.eq]
  | q :: l, e, m, h, hb, hq => by
    obtain ⟨q1, q2⟩ := hq q (by simp)
    have hl := fun r hr => hq r (List.mem_cons_of_mem q hr)
    obtain ⟨t, x⟩ := q
    simp only at q1 q2
    rw [matS, turnS]
    simp only
    by_cases ha : atomF t = true
    · have hv : varF t = false := atom_novar ha
      rw [if_pos ha]
      by_cases htx : t = x
      · rw [if_pos htx, step_eq hv htx]; exact matS_eq l h hb hl
      · rw [if_neg htx, step_no hv htx]; rfl
    · have hv : varF t = true := by simpa [termF, ha] using q1
      have ha : atomF t = false := by simpa using ha
      rw [if_neg (by simp [ha])]
      have hval : valF e t = match mget m t with | some v => (v, true) | none => ([], false) := by
        unfold valF; rw [if_neg (by simp [ha]), if_pos hv, h.look] <;> (cases mget m t <;> rfl)
      unfold extF
      rw [hb, hv, q2, hval]
      cases hg : mget m t with
      | some v =>
        by_cases hvx : v = x
        · rw [step_old hv hg hvx]; simp [hvx]; exact matS_eq l h hb hl
        · rw [step_bad hv hg hvx]; simp [hvx, fin6]
      | none =>
        rw [step_new hv hg]
        by_cases h6 : e.length = 6
        · simp only [Bool.true_and, Bool.false_and, Bool.false_or, h6, decide_true, if_true]
          simp only [Bool.false_eq_true, if_false]
          cases ht : turnS (mput m t x) l with
          | none => rfl
          | some m' =>
            have h1 := turnS_len ht
            have h2 := h.len
            have h3 := (h.set (x := x) hg).len
            have h4 := (setR_perm (v := t) (x := x) e).length_eq
            rw [List.length_append, List.length_singleton] at h4
            rw [fin6, if_neg (by omega)]
        · simp only [Bool.true_and, Bool.false_and, Bool.false_or, h6, decide_false, Bool.false_eq_true, if_false, if_true]
          obtain ⟨b1, b2, b3⟩ := (bindF_iff e).1 hb
          have hn : lookV e t = none := by rw [h.look]; exact hg
          refine matS_eq l (h.set hg) ((bindF_iff _).2 ⟨?_, fun p hp => ?_, (h.set (x := x) hg).asc⟩) hl
          · have h4 := (setR_perm (v := t) (x := x) e).length_eq
            rw [List.length_append, List.length_singleton] at h4
            omega
          · rcases mem_setR.1 hp with rfl | hp
            · exact ⟨hv, q2⟩
            · exact b2 p hp
theorem like_self {b : List VPair} (h : bindF b = true) : Like b b := by
  obtain ⟨_, _, h3⟩ := (bindF_iff b).1 h
  refine ⟨h3, List.Perm.refl _, fun p hp => ?_⟩
  obtain ⟨j, hj⟩ := List.getElem?_of_mem hp
  refine (mget_at ?_ (show b[j]? = some (p.1, p.2) from hj)).1
  refine List.pairwise_map.2 (h3.imp fun hlt he => ?_)
  rw [he] at hlt
  exact List.lt_irrefl _ hlt
theorem var_len {x : Str} (h : varF x = true) : x.length ≤ 9 := by
  unfold varF at h
  simp only [Bool.and_eq_true] at h
  have h2 := h.2
  unfold atomF at h2
  simp only [Bool.and_eq_true, decide_eq_true_eq, List.length_drop] at h2
  have := h2.2.2
  omega
theorem mput_key {k v : Str} : ∀ {m : List VPair} {p : VPair}, p ∈ mput m k v → p.1 = k ∨ p ∈ m
  | [], p, h => by rw [mput] at h; left; rw [List.mem_singleton.1 h]
  | q :: m, p, h => by
    rw [mput] at h
    split at h
    · rcases List.mem_cons.1 h with rfl | h
      · exact .inl rfl
      · exact .inr (List.mem_cons_of_mem _ h)
    · rcases List.mem_cons.1 h with rfl | h
      · exact .inr (by simp)
      · rcases mput_key h with h | h
        · exact .inl h
        · exact .inr (List.mem_cons_of_mem _ h)
theorem turnS_var : ∀ {l : List (Str × Str)} {m m' : List VPair}, turnS m l = some m' → (∀ p ∈ m, varF p.1 = true) → ∀ p ∈ m', varF p.1 = true
  | [], m, m', h, hm => by cases h; exact hm
  | q :: l, m, m', h, hm => by
    rw [turnS] at h
    split at h
    · rename_i m1 h1
      refine turnS_var h ?_
      unfold turnStep at h1
      split at h1
      · rename_i hv
        split at h1
        · split at h1
          · cases h1; exact hm
          · cases h1
        · cases h1
          intro p hp
          rcases mput_key hp with he | hp
          · rw [he]; exact hv
          · exact hm p hp
      · split at h1
        · cases h1; exact hm
        · cases h1
    · cases h
theorem turnF_var {m m' : List VPair} {a x : List Str} (h : turnF m a x = some m') (hm : bindF m = true) : ∀ p ∈ m', p.1.length ≤ 1048576 := fun p hp => by
  unfold turnF at h
  split at h
  · have := var_len (turnS_var h (fun p hp => (((bindF_iff m).1 hm).2.1 p hp).1) p hp)
    omega
  · cases h
theorem extF_bind {b e : List VPair} {v x : Str} (h : extF b v x = some e) : bindF e = true := by
  unfold extF at h
  split at h
  · rename_i hc
    simp only [Bool.and_eq_true] at hc
    obtain ⟨⟨hb, hv⟩, hx⟩ := hc
    split at h
    · cases h; exact hb
    · rename_i h1
      split at h
      · cases h
      · rename_i h2
        cases h
        simp only [Bool.or_eq_true, decide_eq_true_eq, not_or] at h2
        obtain ⟨b1, b2, b3⟩ := (bindF_iff b).1 hb
        have ha : atomF v = false := by
          cases ha : atomF v with
          | false => rfl
          | true => rw [atom_novar ha] at hv; cases hv
        have hn : lookV b v = none := by
          have h3 := h2.1
          unfold valF at h3
          rw [if_neg (by simp [ha]), if_pos hv] at h3
          cases hl : lookV b v with
          | none => rfl
          | some u => rw [hl] at h3; simp at h3
        refine (bindF_iff _).2 ⟨?_, fun p hp => ?_, setR_asc b3 (lookV_none hn)⟩
        · have h4 := (setR_perm (v := v) (x := x) b).length_eq
          rw [List.length_append, List.length_singleton] at h4
          omega
        · rcases mem_setR.1 hp with rfl | hp
          · exact ⟨hv, hx⟩
          · exact b2 p hp
  · cases h
theorem pairs_size : ∀ {b : List VPair}, (∀ p ∈ b, varF p.1 = true ∧ atomF p.2 = true) → listSize tPair b ≤ 17 * b.length
  | [], _ => Nat.zero_le _
  | p :: b, h => by
    have h1 := pairs_size (b := b) (fun q hq => h q (by simp [hq]))
    obtain ⟨hv, ha⟩ := h p (by simp)
    have h2 := var_len hv
    unfold atomF at ha
    simp only [Bool.and_eq_true, decide_eq_true_eq] at ha
    have h3 := ha.2.2
    show (p.1.length + p.2.length) + listSize tPair b ≤ 17 * (b.length + 1)
    omega
theorem bind_size {b : List VPair} (h : bindF b = true) : tPairs.size b ≤ 1048576 := by
  obtain ⟨h1, h2, _⟩ := (bindF_iff b).1 h
  have := pairs_size h2
  rw [tPairs_sz]; omega
end Go.Proofs.Ytcbepmomjpcjhaa
namespace Go.Proofs.Ytcbepmomjpcjhaa
open Abs
def matF (p : VPattern) (f : Fct) (b : List VPair) : Option (List VPair) :=
  if decide (p.1 = f.1) && isPatF p && isFactF f && bindF b then fin6 (turnF b p.2 f.2) else none
theorem own_tup {α : Type} (T : Ty α) (hf : ∀ a, T.fr a = []) (e : ∀ a, T.tk a 0 = oldL (T.q a)) {F : Fr} {t k : Nat} {l : List α} (v : Value) (hv : plainV v = true) (hk : F[k]? = some (t, T.sz, l.length)) :
    ∃ ts, OwnA F [.p [.l t T.sz (l.map T.q), .v v]] [.tup [.list (some k) (rows T l), .val v]] ts ∧ ts.Nodup := by
  have := OwnA.p _ _ (plain_ownA T hf e F t k l hk (.v v hv .nil)) .nil
  rw [List.append_nil] at this
  exact ⟨[k], this, by simp⟩
theorem pMatchFact.own (p : VPattern) (f : Fct) (b : List VPair) (h1 : tPattern.size p ≤ 1048576) (h2 : tFct.size f ≤ 1048576) (h3 : tPairs.size b ≤ 1048576) :
    Abs.Own false Try.prog 46 [.agg (oldL (tPattern.q p)), .agg (oldL (tFct.q f)), .list none (pairs b)] (.p [.l 88 2 (((matF p f b).getD []).map tPair.q), .v (.bool (matF p f b).isSome)]) := by
  refine Own.of_irP (code := pMatchFact.code) (rs := pMatchFact.res) (K := pMatchFact.keep) Try.func46 rfl (by kernel_rfl) (Nat.le_of_ble_eq_true rfl) (by kernel_rfl) (by kernel_rfl) ?_
  have hx := plainC_old (tPattern.q p)
  have hy := plainC_old (tFct.q f)
  have s1 : tFct.size p ≤ 1048576 := h1
  have s2 := h2
  have s3 := h3
  rw [tFct_size, tStrs_size] at s1 s2
  rw [tPairs_sz] at s3
  generalize ho : matF p f b = o
  repeat' first
    | contradiction
    | (conv => whnf
       first
         | refine Need.mk (fun h => h) ?_
         | refine Need.mk rfl ?_
         | refine Need.mk ⟨rfl, Nat.le_of_ble_eq_true rfl⟩ ?_
         | refine Need.mk (Nat.le_of_ble_eq_true rfl) ?_
         | refine Need.mk (by intros; (try simp only [length_strs] at *); (try simp only [length_rows] at *); (try simp only [length_oldLL, List.length_map] at *); (try simp only [Bool.and_eq_true, decide_eq_true_eq] at *); omega) ?_
         | refine Need.mk ?_ ?_
         | refine Ix.strs rfl (by intros; (try simp only [length_strs] at *); (try simp only [length_rows] at *); (try simp only [length_oldLL, List.length_map] at *); (try simp only [Bool.and_eq_true, decide_eq_true_eq] at *); omega) ?_
         | refine Ix.strs rfl ?_ ?_
         | refine Cut.strs rfl ?_ ?_
         | refine Ix.map (fun _ => rfl) (by intros; (try simp only [length_strs] at *); (try simp only [length_rows] at *); (try simp only [length_oldLL, List.length_map] at *); (try simp only [Bool.and_eq_true, decide_eq_true_eq] at *); omega) ?_
         | refine Ix.map (fun _ => rfl) ?_ ?_
         | refine Cut.map (fun _ => rfl) ?_ ?_
         | refine Fork.yes (by assumption) ?_
         | refine Fork.no (by assumption) ?_
         | refine Fork.decYes (by omega) ?_
         | refine Fork.decNo (by omega) ?_
         | refine Fork.dec (fun _ => ?_) (fun _ => ?_)
         | refine Fork.bne (fun _ => ?_) (fun _ => ?_)
         | refine Fork.beq (fun _ => ?_) (fun _ => ?_)
         | refine Fork.seq (fun _ => ?_) (fun _ => ?_)
         | refine Fork.sne (fun _ => ?_) (fun _ => ?_)
         | refine Fork.neg (fun _ => ?_) (fun _ => ?_)
         | refine Fork.mk (fun _ => ?_) (fun _ => ?_)
         | refine Round.mk ?_
         | refine NilQ.mk (fun b hb => ?_)
         | refine forceK_of ?_
         | refine forceBx_of ?_
         | refine unG_old ?_
         | refine unG_gv ?_
         | refine Lit.read rfl ?_
         | refine FinVal.keep ?_
         | refine FinAgg.keep ?_
         | refine Final.mk rfl rfl
         | refine Final.mk ?_ rfl
         | refine Final.mk ?_ ?_
         | refine FinalT.mk ?_ ?_
         | refine FinalC.all (by repeat' first | exact Lends.nil | refine Lends.map _ ?_ | refine Lends.lend _ _ (by first | exact hx.1 | exact hy.1 | exact noTk_old _ | (intro c hc; rw [List.mem_singleton.1 hc]; rfl) | (intro c hc; cases hc; done)) ?_) ?_
         | refine ACall.scal _ _ (Ret.weak (pIsPattern.ret _ ?_)) rfl (by repeat' first | exact SeesL.nil | refine SeesL.cons ?_ ?_ | exact SeesB.of0 (Sees0.val _) | exact SeesB.of0 (Sees0.str _) | exact SeesB.of0 (Sees0.olds _ _) | exact SeesB.of0 (Sees0.old _) | exact SeesB.of0 (Sees0.oldagg _) | exact SeesB.of0 Sees0.nil | exact Sees0.val _ | exact Sees0.str _ | exact Sees0.olds _ _ | exact Sees0.old _ | exact Sees0.oldagg _ | exact Sees0.nil | exact SeesB.of0 (Sees0.any _) | assumption | exact sees_gv _ _ _ (by assumption) (by first | assumption | exact BoxIn.last _ _ | exact BoxIn.more (BoxIn.last _ _) _) | refine SeesB.agg ?_ | refine Sees0.agg ?_ | exact SeesB.of0 (Sees0.clo SeesL.nil SeesL.nil) | exact Sees0.clo SeesL.nil SeesL.nil) ?_
         | refine AQCall.mk _ _ (fun hg => Ret.weak (pIsPattern.ret _ ?_)) rfl (fun _ => (by repeat' first | exact SeesL.nil | refine SeesL.cons ?_ ?_ | exact SeesB.of0 (Sees0.val _) | exact SeesB.of0 (Sees0.str _) | exact SeesB.of0 (Sees0.olds _ _) | exact SeesB.of0 (Sees0.old _) | exact SeesB.of0 (Sees0.oldagg _) | exact SeesB.of0 Sees0.nil | exact Sees0.val _ | exact Sees0.str _ | exact Sees0.olds _ _ | exact Sees0.old _ | exact Sees0.oldagg _ | exact Sees0.nil | exact SeesB.of0 (Sees0.any _) | assumption | exact sees_gv _ _ _ (by assumption) (by first | assumption | exact BoxIn.last _ _ | exact BoxIn.more (BoxIn.last _ _) _) | refine SeesB.agg ?_ | refine Sees0.agg ?_ | exact SeesB.of0 (Sees0.clo SeesL.nil SeesL.nil) | exact Sees0.clo SeesL.nil SeesL.nil)) ?_
         | refine ACall.scal _ _ (Ret.weak (pIsFact.ret _ ?_)) rfl (by repeat' first | exact SeesL.nil | refine SeesL.cons ?_ ?_ | exact SeesB.of0 (Sees0.val _) | exact SeesB.of0 (Sees0.str _) | exact SeesB.of0 (Sees0.olds _ _) | exact SeesB.of0 (Sees0.old _) | exact SeesB.of0 (Sees0.oldagg _) | exact SeesB.of0 Sees0.nil | exact Sees0.val _ | exact Sees0.str _ | exact Sees0.olds _ _ | exact Sees0.old _ | exact Sees0.oldagg _ | exact Sees0.nil | exact SeesB.of0 (Sees0.any _) | assumption | exact sees_gv _ _ _ (by assumption) (by first | assumption | exact BoxIn.last _ _ | exact BoxIn.more (BoxIn.last _ _) _) | refine SeesB.agg ?_ | refine Sees0.agg ?_ | exact SeesB.of0 (Sees0.clo SeesL.nil SeesL.nil) | exact Sees0.clo SeesL.nil SeesL.nil) ?_
         | refine AQCall.mk _ _ (fun hg => Ret.weak (pIsFact.ret _ ?_)) rfl (fun _ => (by repeat' first | exact SeesL.nil | refine SeesL.cons ?_ ?_ | exact SeesB.of0 (Sees0.val _) | exact SeesB.of0 (Sees0.str _) | exact SeesB.of0 (Sees0.olds _ _) | exact SeesB.of0 (Sees0.old _) | exact SeesB.of0 (Sees0.oldagg _) | exact SeesB.of0 Sees0.nil | exact Sees0.val _ | exact Sees0.str _ | exact Sees0.olds _ _ | exact Sees0.old _ | exact Sees0.oldagg _ | exact Sees0.nil | exact SeesB.of0 (Sees0.any _) | assumption | exact sees_gv _ _ _ (by assumption) (by first | assumption | exact BoxIn.last _ _ | exact BoxIn.more (BoxIn.last _ _) _) | refine SeesB.agg ?_ | refine Sees0.agg ?_ | exact SeesB.of0 (Sees0.clo SeesL.nil SeesL.nil) | exact Sees0.clo SeesL.nil SeesL.nil)) ?_
         | refine ACall.scal _ _ (Ret.weak (pIsBinding.ret _ ?_)) rfl (by repeat' first | exact SeesL.nil | refine SeesL.cons ?_ ?_ | exact SeesB.of0 (Sees0.val _) | exact SeesB.of0 (Sees0.str _) | exact SeesB.of0 (Sees0.olds _ _) | exact SeesB.of0 (Sees0.old _) | exact SeesB.of0 (Sees0.oldagg _) | exact SeesB.of0 Sees0.nil | exact Sees0.val _ | exact Sees0.str _ | exact Sees0.olds _ _ | exact Sees0.old _ | exact Sees0.oldagg _ | exact Sees0.nil | exact SeesB.of0 (Sees0.any _) | assumption | exact sees_gv _ _ _ (by assumption) (by first | assumption | exact BoxIn.last _ _ | exact BoxIn.more (BoxIn.last _ _) _) | refine SeesB.agg ?_ | refine Sees0.agg ?_ | exact SeesB.of0 (Sees0.clo SeesL.nil SeesL.nil) | exact Sees0.clo SeesL.nil SeesL.nil) ?_
         | refine AQCall.mk _ _ (fun hg => Ret.weak (pIsBinding.ret _ ?_)) rfl (fun _ => (by repeat' first | exact SeesL.nil | refine SeesL.cons ?_ ?_ | exact SeesB.of0 (Sees0.val _) | exact SeesB.of0 (Sees0.str _) | exact SeesB.of0 (Sees0.olds _ _) | exact SeesB.of0 (Sees0.old _) | exact SeesB.of0 (Sees0.oldagg _) | exact SeesB.of0 Sees0.nil | exact Sees0.val _ | exact Sees0.str _ | exact Sees0.olds _ _ | exact Sees0.old _ | exact Sees0.oldagg _ | exact Sees0.nil | exact SeesB.of0 (Sees0.any _) | assumption | exact sees_gv _ _ _ (by assumption) (by first | assumption | exact BoxIn.last _ _ | exact BoxIn.more (BoxIn.last _ _) _) | refine SeesB.agg ?_ | refine Sees0.agg ?_ | exact SeesB.of0 (Sees0.clo SeesL.nil SeesL.nil) | exact Sees0.clo SeesL.nil SeesL.nil)) ?_)
    | refine AV.bool_congr ?_
    | refine AV.int_congr ?_
    | refine AV.str_congr ?_
    | refine AV.list_congr ?_
    | with_reducible rfl
    | refine fr1 ?_
    | refine fr2 ?_ ?_
  · exact h1
  · exact h2
  · exact h3
  · rename_i hc
    have : o = none := by
      rw [← ho, matF, if_neg (fun hn => ?_)]
      revert hc hn
      cases hp : decide (p.1 = f.1) <;> cases isPatF p <;> cases isFactF f <;> cases bindF b <;> simp_all
    subst this
    exact own_tup tPair (fun _ => rfl) (fun _ => rfl) (.bool false) rfl rfl
  rename_i hc
  have hc : (decide (p.1 = f.1) && isPatF p && isFactF f && bindF b) = true := by
    revert hc
    cases isPatF p <;> cases isFactF f <;> cases bindF b <;> simp_all
  rw [matF, if_pos hc] at ho
  have hb : bindF b = true := by simp only [Bool.and_eq_true] at hc; exact hc.2
  have hbl := bindF_len hb
  have hmo := pmapOfPairs.lent _ _ hx hy b h3 hb
  have htu := pturnInto.lent _ _ hx hy b p.2 f.2 (by omega) (by omega) (by omega)
  repeat' first
    | contradiction
    | (conv => whnf
       first
         | refine Need.mk (fun h => h) ?_
         | refine Need.mk rfl ?_
         | refine Need.mk ⟨rfl, Nat.le_of_ble_eq_true rfl⟩ ?_
         | refine Need.mk (Nat.le_of_ble_eq_true rfl) ?_
         | refine Need.mk (by intros; (try simp only [length_strs] at *); (try simp only [length_rows] at *); (try simp only [length_oldLL, List.length_map] at *); (try simp only [Bool.and_eq_true, decide_eq_true_eq] at *); omega) ?_
         | refine Need.mk ?_ ?_
         | refine Ix.strs rfl (by intros; (try simp only [length_strs] at *); (try simp only [length_rows] at *); (try simp only [length_oldLL, List.length_map] at *); (try simp only [Bool.and_eq_true, decide_eq_true_eq] at *); omega) ?_
         | refine Ix.strs rfl ?_ ?_
         | refine Cut.strs rfl ?_ ?_
         | refine Ix.map (fun _ => rfl) (by intros; (try simp only [length_strs] at *); (try simp only [length_rows] at *); (try simp only [length_oldLL, List.length_map] at *); (try simp only [Bool.and_eq_true, decide_eq_true_eq] at *); omega) ?_
         | refine Ix.map (fun _ => rfl) ?_ ?_
         | refine Cut.map (fun _ => rfl) ?_ ?_
         | refine Fork.yes (by assumption) ?_
         | refine Fork.no (by assumption) ?_
         | refine Fork.decYes (by omega) ?_
         | refine Fork.decNo (by omega) ?_
         | refine Fork.dec (fun _ => ?_) (fun _ => ?_)
         | refine Fork.bne (fun _ => ?_) (fun _ => ?_)
         | refine Fork.beq (fun _ => ?_) (fun _ => ?_)
         | refine Fork.seq (fun _ => ?_) (fun _ => ?_)
         | refine Fork.sne (fun _ => ?_) (fun _ => ?_)
         | refine Fork.neg (fun _ => ?_) (fun _ => ?_)
         | refine Fork.mk (fun _ => ?_) (fun _ => ?_)
         | refine Round.mk ?_
         | refine NilQ.mk (fun b hb => ?_)
         | refine forceK_of ?_
         | refine forceBx_of ?_
         | refine unG_old ?_
         | refine unG_gv ?_
         | refine Lit.read rfl ?_
         | refine FinVal.keep ?_
         | refine FinAgg.keep ?_
         | refine Final.mk rfl rfl
         | refine Final.mk ?_ rfl
         | refine Final.mk ?_ ?_
         | refine FinalT.mk ?_ ?_
         | refine FinalC.all (by repeat' first | exact Lends.nil | refine Lends.map _ ?_ | refine Lends.lend _ _ (by first | exact hx.1 | exact hy.1 | exact noTk_old _ | (intro c hc; rw [List.mem_singleton.1 hc]; rfl) | (intro c hc; cases hc; done)) ?_) ?_
         | refine ACall.lentE _ _ _ _ _ (Lent.weak (hmo)) (by repeat' first | exact Lends.nil | refine Lends.map _ ?_ | refine Lends.lend _ _ (by first | exact hx.1 | exact hy.1 | exact noTk_old _ | (intro c hc; rw [List.mem_singleton.1 hc]; rfl) | (intro c hc; cases hc; done)) ?_) (by repeat' first | exact SeesL.nil | refine SeesL.cons ?_ ?_ | exact Or.inl ⟨rfl, rfl⟩ | exact Or.inr (Sees0.str _) | exact Or.inr (Sees0.val _) | exact Or.inr (Sees0.olds _ _) | exact Or.inr (Sees0.old _) | exact Or.inr (Sees0.oldagg _)) ?_
         | refine ACall.lent rfl _ _ _ (Lent.weak (htu)) (by repeat' first | exact Lends.nil | refine Lends.map _ ?_ | refine Lends.lend _ _ (by first | exact hx.1 | exact hy.1 | exact noTk_old _ | (intro c hc; rw [List.mem_singleton.1 hc]; rfl) | (intro c hc; cases hc; done)) ?_) (by repeat' first | exact SeesL.nil | refine SeesL.cons ?_ ?_ | exact Or.inl ⟨rfl, rfl⟩ | exact Or.inr (Sees0.str _) | exact Or.inr (Sees0.val _) | exact Or.inr (Sees0.olds _ _) | exact Or.inr (Sees0.old _) | exact Or.inr (Sees0.oldagg _)) ?_)
    | refine AV.bool_congr ?_
    | refine AV.int_congr ?_
    | refine AV.str_congr ?_
    | refine AV.list_congr ?_
    | with_reducible rfl
    | refine fr1 ?_
    | refine fr2 ?_ ?_
  rintro _ _ _ ⟨m', rfl, rfl, rfl, hm'⟩
  cases ht : turnF b p.2 f.2 with
  | none =>
    rw [ht] at ho
    have ho : none = o := ho
    subst ho
    repeat' first
      | contradiction
      | (conv => whnf
         first
           | refine Need.mk (fun h => h) ?_
           | refine Need.mk rfl ?_
           | refine Need.mk ⟨rfl, Nat.le_of_ble_eq_true rfl⟩ ?_
           | refine Need.mk (Nat.le_of_ble_eq_true rfl) ?_
           | refine Need.mk (by intros; (try simp only [length_strs] at *); (try simp only [length_rows] at *); (try simp only [length_oldLL, List.length_map] at *); (try simp only [Bool.and_eq_true, decide_eq_true_eq] at *); omega) ?_
           | refine Need.mk ?_ ?_
           | refine Ix.strs rfl (by intros; (try simp only [length_strs] at *); (try simp only [length_rows] at *); (try simp only [length_oldLL, List.length_map] at *); (try simp only [Bool.and_eq_true, decide_eq_true_eq] at *); omega) ?_
           | refine Ix.strs rfl ?_ ?_
           | refine Cut.strs rfl ?_ ?_
           | refine Ix.map (fun _ => rfl) (by intros; (try simp only [length_strs] at *); (try simp only [length_rows] at *); (try simp only [length_oldLL, List.length_map] at *); (try simp only [Bool.and_eq_true, decide_eq_true_eq] at *); omega) ?_
           | refine Ix.map (fun _ => rfl) ?_ ?_
           | refine Cut.map (fun _ => rfl) ?_ ?_
           | refine Fork.yes (by assumption) ?_
           | refine Fork.no (by assumption) ?_
           | refine Fork.decYes (by omega) ?_
           | refine Fork.decNo (by omega) ?_
           | refine Fork.dec (fun _ => ?_) (fun _ => ?_)
           | refine Fork.bne (fun _ => ?_) (fun _ => ?_)
           | refine Fork.beq (fun _ => ?_) (fun _ => ?_)
           | refine Fork.seq (fun _ => ?_) (fun _ => ?_)
           | refine Fork.sne (fun _ => ?_) (fun _ => ?_)
           | refine Fork.neg (fun _ => ?_) (fun _ => ?_)
           | refine Fork.mk (fun _ => ?_) (fun _ => ?_)
           | refine Round.mk ?_
           | refine NilQ.mk (fun b hb => ?_)
           | refine forceK_of ?_
           | refine forceBx_of ?_
           | refine unG_old ?_
           | refine unG_gv ?_
           | refine Lit.read rfl ?_
           | refine FinVal.keep ?_
           | refine FinAgg.keep ?_
           | refine Final.mk rfl rfl
           | refine Final.mk ?_ rfl
           | refine Final.mk ?_ ?_
           | refine FinalT.mk ?_ ?_
           | refine FinalC.all (by repeat' first | exact Lends.nil | refine Lends.map _ ?_ | refine Lends.lend _ _ (by first | exact hx.1 | exact hy.1 | exact noTk_old _ | (intro c hc; rw [List.mem_singleton.1 hc]; rfl) | (intro c hc; cases hc; done)) ?_) ?_)
      | refine AV.bool_congr ?_
      | refine AV.int_congr ?_
      | refine AV.str_congr ?_
      | refine AV.list_congr ?_
      | with_reducible rfl
      | refine fr1 ?_
      | refine fr2 ?_ ?_
    all_goals exact own_tup tPair (fun _ => rfl) (fun _ => rfl) (.bool false) rfl rfl
  | some m0 =>
    have e := hm' m0 ht
    subst e
    rw [ht] at ho
    have hkl := turnF_var ht hb
    repeat' first
      | contradiction
      | (conv => whnf
         first
           | refine Need.mk (fun h => h) ?_
           | refine Need.mk rfl ?_
           | refine Need.mk ⟨rfl, Nat.le_of_ble_eq_true rfl⟩ ?_
           | refine Need.mk (Nat.le_of_ble_eq_true rfl) ?_
           | refine Need.mk (by intros; (try simp only [length_strs] at *); (try simp only [length_rows] at *); (try simp only [length_oldLL, List.length_map] at *); (try simp only [Bool.and_eq_true, decide_eq_true_eq] at *); omega) ?_
           | refine Need.mk ?_ ?_
           | refine Ix.strs rfl (by intros; (try simp only [length_strs] at *); (try simp only [length_rows] at *); (try simp only [length_oldLL, List.length_map] at *); (try simp only [Bool.and_eq_true, decide_eq_true_eq] at *); omega) ?_
           | refine Ix.strs rfl ?_ ?_
           | refine Cut.strs rfl ?_ ?_
           | refine Ix.map (fun _ => rfl) (by intros; (try simp only [length_strs] at *); (try simp only [length_rows] at *); (try simp only [length_oldLL, List.length_map] at *); (try simp only [Bool.and_eq_true, decide_eq_true_eq] at *); omega) ?_
           | refine Ix.map (fun _ => rfl) ?_ ?_
           | refine Cut.map (fun _ => rfl) ?_ ?_
           | refine Fork.yes (by assumption) ?_
           | refine Fork.no (by assumption) ?_
           | refine Fork.decYes (by omega) ?_
           | refine Fork.decNo (by omega) ?_
           | refine Fork.dec (fun _ => ?_) (fun _ => ?_)
           | refine Fork.bne (fun _ => ?_) (fun _ => ?_)
           | refine Fork.beq (fun _ => ?_) (fun _ => ?_)
           | refine Fork.seq (fun _ => ?_) (fun _ => ?_)
           | refine Fork.sne (fun _ => ?_) (fun _ => ?_)
           | refine Fork.neg (fun _ => ?_) (fun _ => ?_)
           | refine Fork.mk (fun _ => ?_) (fun _ => ?_)
           | refine Round.mk ?_
           | refine NilQ.mk (fun b hb => ?_)
           | refine forceK_of ?_
           | refine forceBx_of ?_
           | refine unG_old ?_
           | refine unG_gv ?_
           | refine Lit.read rfl ?_
           | refine FinVal.keep ?_
           | refine FinAgg.keep ?_
           | refine Final.mk rfl rfl
           | refine Final.mk ?_ rfl
           | refine Final.mk ?_ ?_
           | refine FinalT.mk ?_ ?_
           | refine FinalC.all (by repeat' first | exact Lends.nil | refine Lends.map _ ?_ | refine Lends.lend _ _ (by first | exact hx.1 | exact hy.1 | exact noTk_old _ | (intro c hc; rw [List.mem_singleton.1 hc]; rfl) | (intro c hc; cases hc; done)) ?_) ?_)
      | refine AV.bool_congr ?_
      | refine AV.int_congr ?_
      | refine AV.str_congr ?_
      | refine AV.list_congr ?_
      | with_reducible rfl
      | refine fr1 ?_
      | refine fr2 ?_ ?_
    · rename_i hc2
      have : o = none := by
        rw [← ho, fin6, if_neg (fun hl => ?_)]
        revert hc2; simp; omega
      subst this
      exact own_tup tPair (fun _ => rfl) (fun _ => rfl) (.bool false) rfl rfl
    rename_i hc2
    have hl6 : m'.length ≤ 6 := by revert hc2; simp; omega
    rw [fin6, if_pos hl6] at ho
    subst ho
    have hpp := ppairsOfMap.lent _ _ hx hy m' (by omega) hkl
    have hpl : (pairsM m').length = m'.length := by rw [pairsM, List.length_map, srt_len, List.length_map]
    repeat' first
      | contradiction
      | (conv => whnf
         first
           | refine Need.mk (fun h => h) ?_
           | refine Need.mk rfl ?_
           | refine Need.mk ⟨rfl, Nat.le_of_ble_eq_true rfl⟩ ?_
           | refine Need.mk (Nat.le_of_ble_eq_true rfl) ?_
           | refine Need.mk (by intros; (try simp only [length_strs] at *); (try simp only [length_rows] at *); (try simp only [length_oldLL, List.length_map] at *); (try simp only [Bool.and_eq_true, decide_eq_true_eq] at *); omega) ?_
           | refine Need.mk ?_ ?_
           | refine Ix.strs rfl (by intros; (try simp only [length_strs] at *); (try simp only [length_rows] at *); (try simp only [length_oldLL, List.length_map] at *); (try simp only [Bool.and_eq_true, decide_eq_true_eq] at *); omega) ?_
           | refine Ix.strs rfl ?_ ?_
           | refine Cut.strs rfl ?_ ?_
           | refine Ix.map (fun _ => rfl) (by intros; (try simp only [length_strs] at *); (try simp only [length_rows] at *); (try simp only [length_oldLL, List.length_map] at *); (try simp only [Bool.and_eq_true, decide_eq_true_eq] at *); omega) ?_
           | refine Ix.map (fun _ => rfl) ?_ ?_
           | refine Cut.map (fun _ => rfl) ?_ ?_
           | refine Fork.yes (by assumption) ?_
           | refine Fork.no (by assumption) ?_
           | refine Fork.decYes (by omega) ?_
           | refine Fork.decNo (by omega) ?_
           | refine Fork.dec (fun _ => ?_) (fun _ => ?_)
           | refine Fork.bne (fun _ => ?_) (fun _ => ?_)
           | refine Fork.beq (fun _ => ?_) (fun _ => ?_)
           | refine Fork.seq (fun _ => ?_) (fun _ => ?_)
           | refine Fork.sne (fun _ => ?_) (fun _ => ?_)
           | refine Fork.neg (fun _ => ?_) (fun _ => ?_)
           | refine Fork.mk (fun _ => ?_) (fun _ => ?_)
           | refine Round.mk ?_
           | refine NilQ.mk (fun b hb => ?_)
           | refine forceK_of ?_
           | refine forceBx_of ?_
           | refine unG_old ?_
           | refine unG_gv ?_
           | refine Lit.read rfl ?_
           | refine FinVal.keep ?_
           | refine FinAgg.keep ?_
           | refine Final.mk rfl rfl
           | refine Final.mk ?_ rfl
           | refine Final.mk ?_ ?_
           | refine FinalT.mk ?_ ?_
           | refine FinalC.all (by repeat' first | exact Lends.nil | refine Lends.map _ ?_ | refine Lends.lend _ _ (by first | exact hx.1 | exact hy.1 | exact noTk_old _ | (intro c hc; rw [List.mem_singleton.1 hc]; rfl) | (intro c hc; cases hc; done)) ?_) ?_
           | refine ACall.lentE _ _ _ _ _ (hpp) (by repeat' first | exact Lends.nil | refine Lends.map _ ?_ | refine Lends.lend _ _ (by first | exact hx.1 | exact hy.1 | exact noTk_old _ | (intro c hc; rw [List.mem_singleton.1 hc]; rfl) | (intro c hc; cases hc; done)) ?_) (by repeat' first | exact SeesL.nil | refine SeesL.cons ?_ ?_ | exact Or.inl ⟨rfl, rfl⟩ | exact Or.inr (Sees0.str _) | exact Or.inr (Sees0.val _) | exact Or.inr (Sees0.olds _ _) | exact Or.inr (Sees0.old _) | exact Or.inr (Sees0.oldagg _)) ?_)
      | refine AV.bool_congr ?_
      | refine AV.int_congr ?_
      | refine AV.str_congr ?_
      | refine AV.list_congr ?_
      | with_reducible rfl
      | refine fr1 ?_
      | refine fr2 ?_ ?_
    exact own_tup tPair (fun _ => rfl) (fun _ => rfl) (l := pairsM m') (k := 0) (.bool true) rfl (by rw [hpl]; rfl)
def covF (p q : VPattern) : Bool := decide (p.1 = q.1) && isPatF p && isPatF q && (turnF [] p.2 q.2).isSome
theorem pCoversPattern.ret (p q : VPattern) (h1 : tPattern.size p ≤ 1048576) (h2 : tPattern.size q ≤ 1048576) :
    pCoversPattern.Ret [.agg (oldL (tPattern.q p)), .agg (oldL (tPattern.q q))] (.val (.bool (covF p q))) [] := by
  refine pCoversPattern.ofS rfl rfl ?_
  have hx := plainC_old (tPattern.q p)
  have hy := plainC_old (tPattern.q q)
  have s1 : tFct.size p ≤ 1048576 := h1
  have s2 : tFct.size q ≤ 1048576 := h2
  rw [tFct_size, tStrs_size] at s1 s2
  generalize ho : covF p q = o
  have htu := pturnInto.lent _ _ hx hy [] p.2 q.2 (by omega) (by omega) (by simp)
  repeat' first
    | contradiction
    | (conv => whnf
       first
         | refine Need.mk (fun h => h) ?_
         | refine Need.mk rfl ?_
         | refine Need.mk ⟨rfl, Nat.le_of_ble_eq_true rfl⟩ ?_
         | refine Need.mk (Nat.le_of_ble_eq_true rfl) ?_
         | refine Need.mk (by intros; (try simp only [length_strs] at *); (try simp only [length_rows] at *); (try simp only [length_oldLL, List.length_map] at *); (try simp only [Bool.and_eq_true, decide_eq_true_eq] at *); omega) ?_
         | refine Need.mk ?_ ?_
         | refine Ix.strs rfl (by intros; (try simp only [length_strs] at *); (try simp only [length_rows] at *); (try simp only [length_oldLL, List.length_map] at *); (try simp only [Bool.and_eq_true, decide_eq_true_eq] at *); omega) ?_
         | refine Ix.strs rfl ?_ ?_
         | refine Cut.strs rfl ?_ ?_
         | refine Ix.map (fun _ => rfl) (by intros; (try simp only [length_strs] at *); (try simp only [length_rows] at *); (try simp only [length_oldLL, List.length_map] at *); (try simp only [Bool.and_eq_true, decide_eq_true_eq] at *); omega) ?_
         | refine Ix.map (fun _ => rfl) ?_ ?_
         | refine Cut.map (fun _ => rfl) ?_ ?_
         | refine Fork.yes (by assumption) ?_
         | refine Fork.no (by assumption) ?_
         | refine Fork.decYes (by omega) ?_
         | refine Fork.decNo (by omega) ?_
         | refine Fork.dec (fun _ => ?_) (fun _ => ?_)
         | refine Fork.bne (fun _ => ?_) (fun _ => ?_)
         | refine Fork.beq (fun _ => ?_) (fun _ => ?_)
         | refine Fork.seq (fun _ => ?_) (fun _ => ?_)
         | refine Fork.sne (fun _ => ?_) (fun _ => ?_)
         | refine Fork.neg (fun _ => ?_) (fun _ => ?_)
         | refine Fork.mk (fun _ => ?_) (fun _ => ?_)
         | refine Round.mk ?_
         | refine NilQ.mk (fun b hb => ?_)
         | refine forceK_of ?_
         | refine forceBx_of ?_
         | refine unG_old ?_
         | refine unG_gv ?_
         | refine Lit.read rfl ?_
         | refine FinVal.keep ?_
         | refine FinAgg.keep ?_
         | refine Final.mk rfl rfl
         | refine Final.mk ?_ rfl
         | refine Final.mk ?_ ?_
         | refine FinalT.mk ?_ ?_
         | refine FinalC.all (by repeat' first | exact Lends.nil | refine Lends.map _ ?_ | refine Lends.lend _ _ (by first | exact hx.1 | exact hy.1 | exact noTk_old _ | (intro c hc; rw [List.mem_singleton.1 hc]; rfl) | (intro c hc; cases hc; done)) ?_) ?_
         | refine ACall.scal _ _ (pIsPattern.ret _ ?_) rfl (by repeat' first | exact SeesL.nil | refine SeesL.cons ?_ ?_ | exact SeesB.of0 (Sees0.val _) | exact SeesB.of0 (Sees0.str _) | exact SeesB.of0 (Sees0.olds _ _) | exact SeesB.of0 (Sees0.old _) | exact SeesB.of0 (Sees0.oldagg _) | exact SeesB.of0 Sees0.nil | exact Sees0.val _ | exact Sees0.str _ | exact Sees0.olds _ _ | exact Sees0.old _ | exact Sees0.oldagg _ | exact Sees0.nil | exact SeesB.of0 (Sees0.any _) | assumption | exact sees_gv _ _ _ (by assumption) (by first | assumption | exact BoxIn.last _ _ | exact BoxIn.more (BoxIn.last _ _) _) | refine SeesB.agg ?_ | refine Sees0.agg ?_ | exact SeesB.of0 (Sees0.clo SeesL.nil SeesL.nil) | exact Sees0.clo SeesL.nil SeesL.nil) ?_
         | refine AQCall.mk _ _ (fun hg => pIsPattern.ret _ ?_) rfl (fun _ => (by repeat' first | exact SeesL.nil | refine SeesL.cons ?_ ?_ | exact SeesB.of0 (Sees0.val _) | exact SeesB.of0 (Sees0.str _) | exact SeesB.of0 (Sees0.olds _ _) | exact SeesB.of0 (Sees0.old _) | exact SeesB.of0 (Sees0.oldagg _) | exact SeesB.of0 Sees0.nil | exact Sees0.val _ | exact Sees0.str _ | exact Sees0.olds _ _ | exact Sees0.old _ | exact Sees0.oldagg _ | exact Sees0.nil | exact SeesB.of0 (Sees0.any _) | assumption | exact sees_gv _ _ _ (by assumption) (by first | assumption | exact BoxIn.last _ _ | exact BoxIn.more (BoxIn.last _ _) _) | refine SeesB.agg ?_ | refine Sees0.agg ?_ | exact SeesB.of0 (Sees0.clo SeesL.nil SeesL.nil) | exact Sees0.clo SeesL.nil SeesL.nil)) ?_
         | refine ACall.lent rfl _ _ _ (htu) (by repeat' first | exact Lends.nil | refine Lends.map _ ?_ | refine Lends.lend _ _ (by first | exact hx.1 | exact hy.1 | exact noTk_old _ | (intro c hc; rw [List.mem_singleton.1 hc]; rfl) | (intro c hc; cases hc; done)) ?_) (by repeat' first | exact SeesL.nil | refine SeesL.cons ?_ ?_ | exact Or.inl ⟨rfl, rfl⟩ | exact Or.inr (Sees0.str _) | exact Or.inr (Sees0.val _) | exact Or.inr (Sees0.olds _ _) | exact Or.inr (Sees0.old _) | exact Or.inr (Sees0.oldagg _)) ?_)
    | refine AV.bool_congr ?_
    | refine AV.int_congr ?_
    | refine AV.str_congr ?_
    | refine AV.list_congr ?_
    | with_reducible rfl
    | refine fr1 ?_
    | refine fr2 ?_ ?_
  · exact h1
  · exact h2
  · rename_i hc
    rw [← ho]; unfold covF; revert hc
    cases isPatF p <;> cases isPatF q <;> simp_all
  rename_i hc
  rintro _ _ _ ⟨m', rfl, rfl, rfl, _⟩
  repeat' first
    | contradiction
    | (conv => whnf
       first
         | refine Need.mk (fun h => h) ?_
         | refine Need.mk rfl ?_
         | refine Need.mk ⟨rfl, Nat.le_of_ble_eq_true rfl⟩ ?_
         | refine Need.mk (Nat.le_of_ble_eq_true rfl) ?_
         | refine Need.mk (by intros; (try simp only [length_strs] at *); (try simp only [length_rows] at *); (try simp only [length_oldLL, List.length_map] at *); (try simp only [Bool.and_eq_true, decide_eq_true_eq] at *); omega) ?_
         | refine Need.mk ?_ ?_
         | refine Ix.strs rfl (by intros; (try simp only [length_strs] at *); (try simp only [length_rows] at *); (try simp only [length_oldLL, List.length_map] at *); (try simp only [Bool.and_eq_true, decide_eq_true_eq] at *); omega) ?_
         | refine Ix.strs rfl ?_ ?_
         | refine Cut.strs rfl ?_ ?_
         | refine Ix.map (fun _ => rfl) (by intros; (try simp only [length_strs] at *); (try simp only [length_rows] at *); (try simp only [length_oldLL, List.length_map] at *); (try simp only [Bool.and_eq_true, decide_eq_true_eq] at *); omega) ?_
         | refine Ix.map (fun _ => rfl) ?_ ?_
         | refine Cut.map (fun _ => rfl) ?_ ?_
         | refine Fork.yes (by assumption) ?_
         | refine Fork.no (by assumption) ?_
         | refine Fork.decYes (by omega) ?_
         | refine Fork.decNo (by omega) ?_
         | refine Fork.dec (fun _ => ?_) (fun _ => ?_)
         | refine Fork.bne (fun _ => ?_) (fun _ => ?_)
         | refine Fork.beq (fun _ => ?_) (fun _ => ?_)
         | refine Fork.seq (fun _ => ?_) (fun _ => ?_)
         | refine Fork.sne (fun _ => ?_) (fun _ => ?_)
         | refine Fork.neg (fun _ => ?_) (fun _ => ?_)
         | refine Fork.mk (fun _ => ?_) (fun _ => ?_)
         | refine Round.mk ?_
         | refine NilQ.mk (fun b hb => ?_)
         | refine forceK_of ?_
         | refine forceBx_of ?_
         | refine unG_old ?_
         | refine unG_gv ?_
         | refine Lit.read rfl ?_
         | refine FinVal.keep ?_
         | refine FinAgg.keep ?_
         | refine Final.mk rfl rfl
         | refine Final.mk ?_ rfl
         | refine Final.mk ?_ ?_
         | refine FinalT.mk ?_ ?_
         | refine FinalC.all (by repeat' first | exact Lends.nil | refine Lends.map _ ?_ | refine Lends.lend _ _ (by first | exact hx.1 | exact hy.1 | exact noTk_old _ | (intro c hc; rw [List.mem_singleton.1 hc]; rfl) | (intro c hc; cases hc; done)) ?_) ?_)
    | refine AV.bool_congr ?_
    | refine AV.int_congr ?_
    | refine AV.str_congr ?_
    | refine AV.list_congr ?_
    | with_reducible rfl
    | refine fr1 ?_
    | refine fr2 ?_ ?_
  rw [← ho]; unfold covF; revert hc
  cases isPatF p <;> cases isPatF q <;> simp_all
end Go.Proofs.Ytcbepmomjpcjhaa
namespace Go.Proofs.Ytcbepmomjpcjhaa
open Abs
abbrev gt (l : List Str) (i : Nat) : Str := l.getD i []
def apart2 (a x : List Str) (i k : Nat) : Bool := decide (gt a i = gt a k) && !decide (gt x i = gt x k)
def badC (a x : List Str) (i : Nat) : Bool := atomF (gt a i) && !decide (gt a i = gt x i) || (List.range i).any fun k => apart2 a x i k
def goodC (a x : List Str) (n : Nat) : Bool := (List.range n).all fun i => !badC a x i
theorem goodC_no {a x : List Str} {n i : Nat} (hi : i < n) (h : badC a x i = true) : goodC a x n = false := by
  unfold goodC; rw [List.all_eq_false]
  exact ⟨i, List.mem_range.2 hi, by simp [h]⟩
theorem goodC_succ {a x : List Str} {i : Nat} (h : goodC a x i = true) (hb : badC a x i = false) : goodC a x (i + 1) = true := by
  unfold goodC at h ⊢; rw [List.range_succ, List.all_append, h]; simp [hb]
theorem goodC_at {a x : List Str} {n i : Nat} (h : goodC a x n = true) (hi : i < n) : badC a x i = false := by
  unfold goodC at h
  have := List.all_eq_true.1 h i (List.mem_range.2 hi)
  simpa using this
theorem turnS_app : ∀ (l l' : List (Str × Str)) (m : List VPair), turnS m (l ++ l') = (turnS m l).bind fun m' => turnS m' l'
  | [], _, _ => rfl
  | q :: l, l', m => by
    rw [List.cons_append, turnS, turnS]
    cases turnStep m q with
    | none => rfl
    | some m' => exact turnS_app l l' m'
theorem mget_mput {m : List VPair} {k v : Str} : ∀ {t : Str}, mget (mput m k v) t = if k = t then some v else mget m t := by
  induction m with
  | nil => intro t; rfl
  | cons p m ih =>
    intro t
    rw [mput]
    split
    · rename_i h
      rw [mget, mget]
      by_cases hk : k = t
      · rw [if_pos hk, if_pos hk]
      · rw [if_neg hk, if_neg hk, if_neg (by rw [h]; exact hk)]
    · rename_i h
      rw [mget, mget, ih]
      by_cases hp : p.1 = t
      · rw [if_pos hp, if_pos hp, if_neg (by rintro rfl; exact h hp)]
      · rw [if_neg hp, if_neg hp]
/-- the map knows what the terms before became -/
def Knows (a x : List Str) (i : Nat) (m : List VPair) : Prop := ∀ t v, varF t = true → (mget m t = some v ↔ ∃ k, k < i ∧ gt a k = t ∧ gt x k = v)
theorem turn_good {a x : List Str} (hl : a.length = x.length) (ht : ∀ i, i < a.length → termF (gt a i) = true) : ∀ (i : Nat), i ≤ a.length →
    (goodC a x i = true → ∃ m, turnS [] ((a.zip x).take i) = some m ∧ Knows a x i m) ∧ (goodC a x i = false → turnS [] ((a.zip x).take i) = none)
  | 0, _ => ⟨fun _ => ⟨[], rfl, fun t v _ => ⟨fun h => by simp [mget] at h, fun ⟨k, hk, _⟩ => by omega⟩⟩, fun h => by simp [goodC] at h⟩
  | i + 1, hi => by
    obtain ⟨h1, h2⟩ := turn_good hl ht i (by omega)
    have hz : (a.zip x).take (i + 1) = (a.zip x).take i ++ [(gt a i, gt x i)] := by
      have hlt : i < (a.zip x).length := by simp; omega
      have e : (a.zip x)[i] = (gt a i, gt x i) := by
        have h3 : i < a.length := by omega
        have h4 : i < x.length := by omega
        simp [gt, List.getD, h3, h4]
      rw [List.take_succ_eq_append_getElem hlt, e]
    have hs : turnS [] ((a.zip x).take (i + 1)) = (turnS [] ((a.zip x).take i)).bind fun m => turnStep m (gt a i, gt x i) := by
      rw [hz, turnS_app]
      congr 1
      funext m
      rw [turnS]
      cases turnStep m (gt a i, gt x i) <;> rfl
    rw [hs]
    cases hg : goodC a x i with
    | false =>
      rw [h2 hg]
      refine ⟨fun h => ?_, fun _ => rfl⟩
      have : goodC a x i = true := by
        unfold goodC at h ⊢
        rw [List.range_succ, List.all_append, Bool.and_eq_true] at h
        exact h.1
      rw [hg] at this; cases this
    | true =>
      obtain ⟨m, hm, hk⟩ := h1 hg
      rw [hm]
      show (_ → ∃ m', turnStep m (gt a i, gt x i) = some m' ∧ _) ∧ (_ → turnStep m (gt a i, gt x i) = none)
      have bad : badC a x i = true → goodC a x (i + 1) = false := fun h => goodC_no (Nat.lt_succ_self i) h
      have good : badC a x i = false → goodC a x (i + 1) = true := goodC_succ hg
      -- what is known already goes on
      have keep : (∀ t v, varF t = true → gt a i = t → gt x i = v → ∃ k, k < i ∧ gt a k = t ∧ gt x k = v) → Knows a x (i + 1) m := fun hh t v hv => by
        rw [hk t v hv]
        constructor
        · rintro ⟨k, h, h'⟩; exact ⟨k, by omega, h'⟩
        · rintro ⟨k, h, e1, e2⟩
          rcases Nat.lt_or_ge k i with h' | h'
          · exact ⟨k, h', e1, e2⟩
          · have : k = i := by omega
            subst this; exact hh t v hv e1 e2
      cases hv : varF (gt a i) with
      | false =>
        have ha : atomF (gt a i) = true := by
          have := ht i (by omega); unfold termF at this; rw [hv, Bool.or_false] at this; exact this
        by_cases he : gt a i = gt x i
        · have hb : badC a x i = false := by
            unfold badC
            rw [ha, decide_eq_true he]
            simp only [Bool.not_true, Bool.and_false, Bool.false_or]
            rw [List.any_eq_false]
            intro k hk'
            have hki := List.mem_range.1 hk'
            unfold apart2
            simp only [Bool.and_eq_true, decide_eq_true_eq, Bool.not_eq_true', decide_eq_false_iff_not, not_and, Classical.not_not]
            intro e1
            have hbk := goodC_at hg hki
            unfold badC at hbk
            simp only [Bool.or_eq_false_iff, Bool.and_eq_false_iff, Bool.not_eq_false', decide_eq_true_eq] at hbk
            rcases hbk.1 with h | h
            · rw [← e1, ha] at h; cases h
            · rw [← he, e1, h]
          rw [step_eq hv he]
          exact ⟨fun _ => ⟨m, rfl, keep fun t v hv' e1 _ => (by rw [e1, hv'] at hv; cases hv)⟩, fun h => (by rw [good hb] at h; cases h)⟩
        · rw [step_no hv he]
          have hb : badC a x i = true := by unfold badC; rw [ha, decide_eq_false he]; rfl
          exact ⟨fun h => (by rw [bad hb] at h; cases h), fun _ => rfl⟩
      | true =>
        have hna : atomF (gt a i) = false := by
          cases h : atomF (gt a i) with
          | false => rfl
          | true => rw [atom_novar h] at hv; cases hv
        cases hgm : mget m (gt a i) with
        | none =>
          have hnew : ∀ k, k < i → gt a k ≠ gt a i := fun k hki e => by
            have := (hk (gt a i) (gt x k) hv).2 ⟨k, hki, e, rfl⟩
            rw [hgm] at this; cases this
          have hb : badC a x i = false := by
            unfold badC
            rw [hna]
            simp only [Bool.false_and, Bool.false_or]
            rw [List.any_eq_false]
            intro k hk'
            unfold apart2
            rw [decide_eq_false (fun e => hnew k (List.mem_range.1 hk') e.symm)]
            simp
          rw [step_new hv hgm]
          refine ⟨fun _ => ⟨_, rfl, fun t v hv' => ?_⟩, fun h => (by rw [good hb] at h; cases h)⟩
          rw [mget_mput]
          split
          · rename_i e
            constructor
            · intro h; cases h; exact ⟨i, by omega, e, rfl⟩
            · rintro ⟨k, h, e1, e2⟩
              have : k = i := by
                rcases Nat.lt_or_ge k i with h' | h'
                · exact absurd (e1.trans e.symm) (hnew k h')
                · omega
              subst this; rw [e2]
          · rename_i e
            rw [hk t v hv']
            constructor
            · rintro ⟨k, h, h'⟩; exact ⟨k, by omega, h'⟩
            · rintro ⟨k, h, e1, e2⟩
              rcases Nat.lt_or_ge k i with h' | h'
              · exact ⟨k, h', e1, e2⟩
              · have : k = i := by omega
                subst this; exact absurd e1 e
        | some v =>
          obtain ⟨k0, hk0, e1, e2⟩ := (hk (gt a i) v hv).1 hgm
          by_cases hvx : v = gt x i
          · rw [step_old hv hgm hvx]
            have hb : badC a x i = false := by
              unfold badC
              rw [hna]
              simp only [Bool.false_and, Bool.false_or]
              rw [List.any_eq_false]
              intro k hk'
              unfold apart2
              simp only [Bool.and_eq_true, decide_eq_true_eq, Bool.not_eq_true', decide_eq_false_iff_not, not_and, Classical.not_not]
              intro e3
              have := (hk (gt a i) (gt x k) hv).2 ⟨k, List.mem_range.1 hk', e3.symm, rfl⟩
              rw [hgm] at this; cases this; exact hvx.symm
            exact ⟨fun _ => ⟨m, rfl, keep fun t u _ e3 e4 => ⟨k0, hk0, e1.trans e3, by rw [e2, hvx, e4]⟩⟩, fun h => (by rw [good hb] at h; cases h)⟩
          · rw [step_bad hv hgm hvx]
            have hb : badC a x i = true := by
              unfold badC
              rw [Bool.or_eq_true]
              right
              rw [List.any_eq_true]
              refine ⟨k0, List.mem_range.2 hk0, ?_⟩
              unfold apart2
              rw [decide_eq_true e1.symm, decide_eq_false (fun e => hvx (by rw [← e2, e]))]; rfl
            exact ⟨fun h => (by rw [bad hb] at h; cases h), fun _ => rfl⟩
theorem turn_goodC {a x : List Str} (hl : a.length = x.length) (ht : ∀ i, i < a.length → termF (gt a i) = true) : (turnS [] (a.zip x)).isSome = goodC a x a.length := by
  obtain ⟨h1, h2⟩ := turn_good hl ht a.length (Nat.le_refl _)
  rw [List.take_of_length_le (by simp; omega)] at h1 h2
  cases hg : goodC a x a.length with
  | true => obtain ⟨m, hm, _⟩ := h1 hg; rw [hm]; rfl
  | false => rw [h2 hg]; rfl
end Go.Proofs.Ytcbepmomjpcjhaa
namespace Go.Proofs.Ytcbepmomjpcjhaa
open Abs
def covM (p q : VPattern) : Bool := isPatF p && isPatF q && decide (p.1 = q.1) && decide (p.2.length = q.2.length) && goodC p.2 q.2 p.2.length
theorem sCoversPattern.ret (p q : VPattern) (h1 : tPattern.size p ≤ 1048576) (h2 : tPattern.size q ≤ 1048576) :
    sCoversPattern.Ret [.agg (oldL (tPattern.q p)), .agg (oldL (tPattern.q q))] (.val (.bool (covM p q))) [] := by
  refine sCoversPattern.ofS rfl rfl ?_
  have s1 : tFct.size p ≤ 1048576 := h1
  have s2 : tFct.size q ≤ 1048576 := h2
  rw [tFct_size, tStrs_size] at s1 s2
  have ecast : ((p.2.length : Int) != (q.2.length : Int)) = (p.2.length != q.2.length) := by rw [Bool.eq_iff_iff]; simp; omega
  generalize ho : covM p q = o
  repeat' first
    | contradiction
    | (conv => whnf
       first
         | refine Need.mk (fun h => h) ?_
         | refine Need.mk rfl ?_
         | refine Need.mk ⟨rfl, Nat.le_of_ble_eq_true rfl⟩ ?_
         | refine Need.mk (Nat.le_of_ble_eq_true rfl) ?_
         | refine Need.mk (by intros; (try simp only [length_strs] at *); (try simp only [length_rows] at *); (try simp only [length_oldLL, List.length_map] at *); (try simp only [Bool.and_eq_true, decide_eq_true_eq] at *); omega) ?_
         | refine Need.mk ?_ ?_
         | refine Ix.strs rfl (by intros; (try simp only [length_strs] at *); (try simp only [length_rows] at *); (try simp only [length_oldLL, List.length_map] at *); (try simp only [Bool.and_eq_true, decide_eq_true_eq] at *); omega) ?_
         | refine Ix.strs rfl ?_ ?_
         | refine Cut.strs rfl ?_ ?_
         | refine Ix.map (fun _ => rfl) (by intros; (try simp only [length_strs] at *); (try simp only [length_rows] at *); (try simp only [length_oldLL, List.length_map] at *); (try simp only [Bool.and_eq_true, decide_eq_true_eq] at *); omega) ?_
         | refine Ix.map (fun _ => rfl) ?_ ?_
         | refine Cut.map (fun _ => rfl) ?_ ?_
         | refine Fork.yes (by assumption) ?_
         | refine Fork.no (by assumption) ?_
         | refine Fork.decYes (by omega) ?_
         | refine Fork.decNo (by omega) ?_
         | refine Fork.dec (fun _ => ?_) (fun _ => ?_)
         | refine Fork.bne (fun _ => ?_) (fun _ => ?_)
         | refine Fork.beq (fun _ => ?_) (fun _ => ?_)
         | refine Fork.seq (fun _ => ?_) (fun _ => ?_)
         | refine Fork.sne (fun _ => ?_) (fun _ => ?_)
         | refine Fork.neg (fun _ => ?_) (fun _ => ?_)
         | refine Fork.mk (fun _ => ?_) (fun _ => ?_)
         | refine Round.mk ?_
         | refine NilQ.mk (fun b hb => ?_)
         | refine forceK_of ?_
         | refine forceBx_of ?_
         | refine unG_old ?_
         | refine unG_gv ?_
         | refine Lit.read rfl ?_
         | refine FinVal.keep ?_
         | refine FinAgg.keep ?_
         | refine Final.mk rfl rfl
         | refine Final.mk ?_ rfl
         | refine Final.mk ?_ ?_
         | refine FinalT.mk ?_ ?_
         | refine FinalC.all (by repeat' first | exact Lends.nil | refine Lends.map _ ?_ | refine Lends.lend _ _ (by first | exact hx.1 | exact hy.1 | exact noTk_old _ | (intro c hc; rw [List.mem_singleton.1 hc]; rfl) | (intro c hc; cases hc; done)) ?_) ?_
         | refine ACall.scal _ _ (sIsPattern.ret _ ?_) rfl (by repeat' first | exact SeesL.nil | refine SeesL.cons ?_ ?_ | exact SeesB.of0 (Sees0.val _) | exact SeesB.of0 (Sees0.str _) | exact SeesB.of0 (Sees0.olds _ _) | exact SeesB.of0 (Sees0.old _) | exact SeesB.of0 (Sees0.oldagg _) | exact SeesB.of0 Sees0.nil | exact Sees0.val _ | exact Sees0.str _ | exact Sees0.olds _ _ | exact Sees0.old _ | exact Sees0.oldagg _ | exact Sees0.nil | exact SeesB.of0 (Sees0.any _) | assumption | exact sees_gv _ _ _ (by assumption) (by first | assumption | exact BoxIn.last _ _ | exact BoxIn.more (BoxIn.last _ _) _) | refine SeesB.agg ?_ | refine Sees0.agg ?_ | exact SeesB.of0 (Sees0.clo SeesL.nil SeesL.nil) | exact Sees0.clo SeesL.nil SeesL.nil) ?_
         | refine AQCall.mk _ _ (fun hg => sIsPattern.ret _ ?_) rfl (fun _ => (by repeat' first | exact SeesL.nil | refine SeesL.cons ?_ ?_ | exact SeesB.of0 (Sees0.val _) | exact SeesB.of0 (Sees0.str _) | exact SeesB.of0 (Sees0.olds _ _) | exact SeesB.of0 (Sees0.old _) | exact SeesB.of0 (Sees0.oldagg _) | exact SeesB.of0 Sees0.nil | exact Sees0.val _ | exact Sees0.str _ | exact Sees0.olds _ _ | exact Sees0.old _ | exact Sees0.oldagg _ | exact Sees0.nil | exact SeesB.of0 (Sees0.any _) | assumption | exact sees_gv _ _ _ (by assumption) (by first | assumption | exact BoxIn.last _ _ | exact BoxIn.more (BoxIn.last _ _) _) | refine SeesB.agg ?_ | refine Sees0.agg ?_ | exact SeesB.of0 (Sees0.clo SeesL.nil SeesL.nil) | exact Sees0.clo SeesL.nil SeesL.nil)) ?_)
    | refine AV.bool_congr ?_
    | refine AV.int_congr ?_
    | refine AV.str_congr ?_
    | refine AV.list_congr ?_
    | with_reducible rfl
    | refine fr1 ?_
    | refine fr2 ?_ ?_
  · exact h1
  · exact h2
  · rename_i hc
    simp only [length_oldLL, List.length_map, ecast] at hc
    rw [← ho]; unfold covM; revert hc
    cases isPatF p <;> cases isPatF q <;> simp_all
    rintro (h | h) h3 h4
    · exact absurd h3 h
    · exact absurd h4 h
  rename_i hc
  simp only [length_oldLL, List.length_map, ecast] at hc
  have hc : (isPatF p && isPatF q && decide (p.1 = q.1) && decide (p.2.length = q.2.length)) = true := by
    revert hc
    cases isPatF p <;> cases isPatF q <;> simp_all
  have ho' : goodC p.2 q.2 p.2.length = o := by rw [← ho, covM, hc, Bool.true_and]
  have hlen : p.2.length = q.2.length := by simp only [Bool.and_eq_true, decide_eq_true_eq] at hc; exact hc.2
  refine ALoop.mk Nat (fun i => ⟨[(0, .agg (oldL (tPattern.q p))), (1, .agg (oldL (tPattern.q q))), (2, .bptr 0 0), (3, .bptr 1 0), (5, .val (.int .i64 i))], [.cells .var (oldL (tPattern.q p)), .cells .var (oldL (tPattern.q q))], []⟩)
    (fun i => i ≤ p.2.length ∧ goodC p.2 q.2 i = true) (fun i => p.2.length - i) ⟨0, ⟨Nat.zero_le _, rfl⟩, ?_⟩ (fun i hi => ?_)
  · repeat' first
      | exact trivial
      | refine Weak.mk ?_ ?_ ?_ ?_ (Or.inl (Nat.le_of_ble_eq_true rfl))
      | refine Weak.mk ?_ ?_ ?_ ?_ (Or.inr ⟨(by repeat' first | exact trivial | exact Nat.le_of_ble_eq_true rfl | refine And.intro ?_ ?_), (by repeat' first | exact trivial | exact Nat.le_of_ble_eq_true rfl | refine And.intro ?_ ?_)⟩)
      | refine Weak.mk ?_ ?_ ?_ ?_ ?_
      | refine And.intro ?_ ?_
      | with_reducible rfl
      | exact Nat.le_of_ble_eq_true rfl
      | refine fr1 ?_
      | refine fr2 ?_ ?_
      | refine AV.int_congr ?_
      | refine AV.bool_congr ?_
      | refine AV.str_congr ?_
      | refine AV.list_congr ?_
      | refine AV.bsl_congr ?_ ?_
      | (apply rfl)
  obtain ⟨hi, hgood⟩ := hi
  have hal := str_le' p.2 i
  repeat' first
    | contradiction
    | (conv => whnf
       first
         | refine Need.mk (fun h => h) ?_
         | refine Need.mk rfl ?_
         | refine Need.mk ⟨rfl, Nat.le_of_ble_eq_true rfl⟩ ?_
         | refine Need.mk (Nat.le_of_ble_eq_true rfl) ?_
         | refine Need.mk (by intros; (try simp only [length_strs] at *); (try simp only [length_rows] at *); (try simp only [length_oldLL, List.length_map] at *); (try simp only [Bool.and_eq_true, decide_eq_true_eq] at *); omega) ?_
         | refine Need.mk ?_ ?_
         | refine Ix.strs rfl (by intros; (try simp only [length_strs] at *); (try simp only [length_rows] at *); (try simp only [length_oldLL, List.length_map] at *); (try simp only [Bool.and_eq_true, decide_eq_true_eq] at *); omega) ?_
         | refine Ix.strs rfl ?_ ?_
         | refine Cut.strs rfl ?_ ?_
         | refine Ix.map (fun _ => rfl) (by intros; (try simp only [length_strs] at *); (try simp only [length_rows] at *); (try simp only [length_oldLL, List.length_map] at *); (try simp only [Bool.and_eq_true, decide_eq_true_eq] at *); omega) ?_
         | refine Ix.map (fun _ => rfl) ?_ ?_
         | refine Cut.map (fun _ => rfl) ?_ ?_
         | refine Fork.yes (by assumption) ?_
         | refine Fork.no (by assumption) ?_
         | refine Fork.decYes (by omega) ?_
         | refine Fork.decNo (by omega) ?_
         | refine Fork.dec (fun _ => ?_) (fun _ => ?_)
         | refine Fork.bne (fun _ => ?_) (fun _ => ?_)
         | refine Fork.beq (fun _ => ?_) (fun _ => ?_)
         | refine Fork.seq (fun _ => ?_) (fun _ => ?_)
         | refine Fork.sne (fun _ => ?_) (fun _ => ?_)
         | refine Fork.neg (fun _ => ?_) (fun _ => ?_)
         | refine Fork.mk (fun _ => ?_) (fun _ => ?_)
         | refine Round.mk ?_
         | refine NilQ.mk (fun b hb => ?_)
         | refine forceK_of ?_
         | refine forceBx_of ?_
         | refine unG_old ?_
         | refine unG_gv ?_
         | refine Lit.read rfl ?_
         | refine FinVal.keep ?_
         | refine FinAgg.keep ?_
         | refine Final.mk rfl rfl
         | refine Final.mk ?_ rfl
         | refine Final.mk ?_ ?_
         | refine FinalT.mk ?_ ?_
         | refine FinalC.all (by repeat' first | exact Lends.nil | refine Lends.map _ ?_ | refine Lends.lend _ _ (by first | exact hx.1 | exact hy.1 | exact noTk_old _ | (intro c hc; rw [List.mem_singleton.1 hc]; rfl) | (intro c hc; cases hc; done)) ?_) ?_
         | refine ACall.scal _ _ (sIsAtom.ret _ ?_) rfl (by repeat' first | exact SeesL.nil | refine SeesL.cons ?_ ?_ | exact SeesB.of0 (Sees0.val _) | exact SeesB.of0 (Sees0.str _) | exact SeesB.of0 (Sees0.olds _ _) | exact SeesB.of0 (Sees0.old _) | exact SeesB.of0 (Sees0.oldagg _) | exact SeesB.of0 Sees0.nil | exact Sees0.val _ | exact Sees0.str _ | exact Sees0.olds _ _ | exact Sees0.old _ | exact Sees0.oldagg _ | exact Sees0.nil | exact SeesB.of0 (Sees0.any _) | assumption | exact sees_gv _ _ _ (by assumption) (by first | assumption | exact BoxIn.last _ _ | exact BoxIn.more (BoxIn.last _ _) _) | refine SeesB.agg ?_ | refine Sees0.agg ?_ | exact SeesB.of0 (Sees0.clo SeesL.nil SeesL.nil) | exact Sees0.clo SeesL.nil SeesL.nil) ?_
         | refine AQCall.mk _ _ (fun hg => sIsAtom.ret _ ?_) rfl (fun _ => (by repeat' first | exact SeesL.nil | refine SeesL.cons ?_ ?_ | exact SeesB.of0 (Sees0.val _) | exact SeesB.of0 (Sees0.str _) | exact SeesB.of0 (Sees0.olds _ _) | exact SeesB.of0 (Sees0.old _) | exact SeesB.of0 (Sees0.oldagg _) | exact SeesB.of0 Sees0.nil | exact Sees0.val _ | exact Sees0.str _ | exact Sees0.olds _ _ | exact Sees0.old _ | exact Sees0.oldagg _ | exact Sees0.nil | exact SeesB.of0 (Sees0.any _) | assumption | exact sees_gv _ _ _ (by assumption) (by first | assumption | exact BoxIn.last _ _ | exact BoxIn.more (BoxIn.last _ _) _) | refine SeesB.agg ?_ | refine Sees0.agg ?_ | exact SeesB.of0 (Sees0.clo SeesL.nil SeesL.nil) | exact Sees0.clo SeesL.nil SeesL.nil)) ?_)
    | refine AV.bool_congr ?_
    | refine AV.int_congr ?_
    | refine AV.str_congr ?_
    | refine AV.list_congr ?_
    | with_reducible rfl
    | refine fr1 ?_
    | refine fr2 ?_ ?_
  all_goals (try simp only [length_oldLL, List.length_map, Int.toNat_natCast] at *)
  · omega
  · rename_i hb hlt
    rw [← ho', goodC_no (i := i) (by omega) (by unfold badC; rw [Bool.or_eq_true]; left; exact (by simpa using hb))]
  · rename_i hb hlt
    have hi' : i < p.2.length := by omega
    have hb : (atomF (gt p.2 i) && !decide (gt p.2 i = gt q.2 i)) = false := by
      simpa using hb
    refine ALoop.mk Nat (fun k => ⟨[(0, .agg (oldL (tPattern.q p))), (1, .agg (oldL (tPattern.q q))), (2, .bptr 0 0), (3, .bptr 1 0), (5, .val (.int .i64 i)), (6, .val (.int .i64 k))], [.cells .var (oldL (tPattern.q p)), .cells .var (oldL (tPattern.q q))], []⟩)
      (fun k => k ≤ i ∧ ∀ j, j < k → apart2 p.2 q.2 i j = false) (fun k => i - k) ⟨0, ⟨Nat.zero_le _, fun j hj => by omega⟩, ?_⟩ (fun k hk => ?_)
    · repeat' first
        | exact trivial
        | refine Weak.mk ?_ ?_ ?_ ?_ (Or.inl (Nat.le_of_ble_eq_true rfl))
        | refine Weak.mk ?_ ?_ ?_ ?_ (Or.inr ⟨(by repeat' first | exact trivial | exact Nat.le_of_ble_eq_true rfl | refine And.intro ?_ ?_), (by repeat' first | exact trivial | exact Nat.le_of_ble_eq_true rfl | refine And.intro ?_ ?_)⟩)
        | refine Weak.mk ?_ ?_ ?_ ?_ ?_
        | refine And.intro ?_ ?_
        | with_reducible rfl
        | exact Nat.le_of_ble_eq_true rfl
        | refine fr1 ?_
        | refine fr2 ?_ ?_
        | refine AV.int_congr ?_
        | refine AV.bool_congr ?_
        | refine AV.str_congr ?_
        | refine AV.list_congr ?_
        | refine AV.bsl_congr ?_ ?_
        | (apply rfl)
    obtain ⟨hk, hap⟩ := hk
    repeat' first
      | contradiction
      | (conv => whnf
         first
           | refine Need.mk (fun h => h) ?_
           | refine Need.mk rfl ?_
           | refine Need.mk ⟨rfl, Nat.le_of_ble_eq_true rfl⟩ ?_
           | refine Need.mk (Nat.le_of_ble_eq_true rfl) ?_
           | refine Need.mk (by intros; (try simp only [length_strs] at *); (try simp only [length_rows] at *); (try simp only [length_oldLL, List.length_map] at *); (try simp only [Bool.and_eq_true, decide_eq_true_eq] at *); omega) ?_
           | refine Need.mk ?_ ?_
           | refine Ix.strs rfl (by intros; (try simp only [length_strs] at *); (try simp only [length_rows] at *); (try simp only [length_oldLL, List.length_map] at *); (try simp only [Bool.and_eq_true, decide_eq_true_eq] at *); omega) ?_
           | refine Ix.strs rfl ?_ ?_
           | refine Cut.strs rfl ?_ ?_
           | refine Ix.map (fun _ => rfl) (by intros; (try simp only [length_strs] at *); (try simp only [length_rows] at *); (try simp only [length_oldLL, List.length_map] at *); (try simp only [Bool.and_eq_true, decide_eq_true_eq] at *); omega) ?_
           | refine Ix.map (fun _ => rfl) ?_ ?_
           | refine Cut.map (fun _ => rfl) ?_ ?_
           | refine Fork.yes (by assumption) ?_
           | refine Fork.no (by assumption) ?_
           | refine Fork.decYes (by omega) ?_
           | refine Fork.decNo (by omega) ?_
           | refine Fork.dec (fun _ => ?_) (fun _ => ?_)
           | refine Fork.bne (fun _ => ?_) (fun _ => ?_)
           | refine Fork.beq (fun _ => ?_) (fun _ => ?_)
           | refine Fork.seq (fun _ => ?_) (fun _ => ?_)
           | refine Fork.sne (fun _ => ?_) (fun _ => ?_)
           | refine Fork.neg (fun _ => ?_) (fun _ => ?_)
           | refine Fork.mk (fun _ => ?_) (fun _ => ?_)
           | refine Round.mk ?_
           | refine NilQ.mk (fun b hb => ?_)
           | refine forceK_of ?_
           | refine forceBx_of ?_
           | refine unG_old ?_
           | refine unG_gv ?_
           | refine Lit.read rfl ?_
           | refine FinVal.keep ?_
           | refine FinAgg.keep ?_
           | refine Final.mk rfl rfl
           | refine Final.mk ?_ rfl
           | refine Final.mk ?_ ?_
           | refine FinalT.mk ?_ ?_
           | refine FinalC.all (by repeat' first | exact Lends.nil | refine Lends.map _ ?_ | refine Lends.lend _ _ (by first | exact hx.1 | exact hy.1 | exact noTk_old _ | (intro c hc; rw [List.mem_singleton.1 hc]; rfl) | (intro c hc; cases hc; done)) ?_) ?_)
      | refine AV.bool_congr ?_
      | refine AV.int_congr ?_
      | refine AV.str_congr ?_
      | refine AV.list_congr ?_
      | with_reducible rfl
      | refine fr1 ?_
      | refine fr2 ?_ ?_
    all_goals (try simp only [Int.toNat_natCast] at *)
    · rename_i hki hx
      have hx : apart2 p.2 q.2 i k = true := by unfold apart2; simpa using hx
      rw [← ho', goodC_no hi' (by unfold badC; rw [Bool.or_eq_true]; right; exact List.any_eq_true.2 ⟨k, List.mem_range.2 (by omega), hx⟩)]
    · rename_i hki hx
      have hx : apart2 p.2 q.2 i k = false := by unfold apart2; simpa using hx
      refine ⟨k + 1, ⟨by omega, fun j hj => ?_⟩, ?_, by omega⟩
      · rcases Nat.lt_or_ge j k with h | h
        · exact hap j h
        · have : j = k := by omega
          rw [this]; exact hx
      repeat' first
        | exact trivial
        | refine Weak.mk ?_ ?_ ?_ ?_ (Or.inl (Nat.le_of_ble_eq_true rfl))
        | refine Weak.mk ?_ ?_ ?_ ?_ (Or.inr ⟨(by repeat' first | exact trivial | exact Nat.le_of_ble_eq_true rfl | refine And.intro ?_ ?_), (by repeat' first | exact trivial | exact Nat.le_of_ble_eq_true rfl | refine And.intro ?_ ?_)⟩)
        | refine Weak.mk ?_ ?_ ?_ ?_ ?_
        | refine And.intro ?_ ?_
        | with_reducible rfl
        | exact Nat.le_of_ble_eq_true rfl
        | refine fr1 ?_
        | refine fr2 ?_ ?_
        | refine AV.int_congr ?_
        | refine AV.bool_congr ?_
        | refine AV.str_congr ?_
        | refine AV.list_congr ?_
        | refine AV.bsl_congr ?_ ?_
        | (apply rfl)
      rw [wrap64 (by omega) (by omega)]; rfl
    · rename_i hki
      refine ⟨i + 1, ⟨by omega, goodC_succ hgood ?_⟩, ?_, by omega⟩
      · unfold badC
        rw [hb, Bool.false_or, List.any_eq_false]
        intro j hj
        rw [hap j (by have := List.mem_range.1 hj; omega)]; simp
      repeat' first
        | exact trivial
        | refine Weak.mk ?_ ?_ ?_ ?_ (Or.inl (Nat.le_of_ble_eq_true rfl))
        | refine Weak.mk ?_ ?_ ?_ ?_ (Or.inr ⟨(by repeat' first | exact trivial | exact Nat.le_of_ble_eq_true rfl | refine And.intro ?_ ?_), (by repeat' first | exact trivial | exact Nat.le_of_ble_eq_true rfl | refine And.intro ?_ ?_)⟩)
        | refine Weak.mk ?_ ?_ ?_ ?_ ?_
        | refine And.intro ?_ ?_
        | with_reducible rfl
        | exact Nat.le_of_ble_eq_true rfl
        | refine fr1 ?_
        | refine fr2 ?_ ?_
        | refine AV.int_congr ?_
        | refine AV.bool_congr ?_
        | refine AV.str_congr ?_
        | refine AV.list_congr ?_
        | refine AV.bsl_congr ?_ ?_
        | (apply rfl)
      rw [wrap64 (by omega) (by omega)]; rfl
  · rename_i hlt
    rw [← ho']
    have e : i = p.2.length := by omega
    subst e; exact hgood.symm
end Go.Proofs.Ytcbepmomjpcjhaa
namespace Go.Proofs.Ytcbepmomjpcjhaa
open Abs
theorem tFact_size (a : Fct) : tFct.size a = a.1.length + tStrs.size a.2 := rfl
theorem tFct_cn : CnB tFct 2 := CnB.pair CnB.str (CnB.plain CnB.str _ _ _)
theorem tFct_cnA (f : Fct) : cn (.a (tFct.q f)) ≤ cnC (tFct.q f) := by
  show 0 + (cn (.l 9 1 (f.2.map Ty.str.q)) + (0)) ≤ 1 + (cn (.l 9 1 (f.2.map Ty.str.q)) + (0))
  omega
theorem eqFact.big (f g : Fct) (h : tFct.size f ≤ 1099511627775) : eqFact.Ret [.agg (oldL (tFct.q f)), .agg (oldL (tFct.q g))] (.val (.bool (decide (f = g)))) [] := by
  refine eqFact.of rfl ?_
  have hz := tFact_size f
  repeat' first
    | contradiction
    | (conv => whnf
       first
         | refine Need.mk (fun h => h) ?_
         | refine Need.mk rfl ?_
         | refine Need.mk ⟨rfl, Nat.le_of_ble_eq_true rfl⟩ ?_
         | refine Need.mk (Nat.le_of_ble_eq_true rfl) ?_
         | refine Need.mk (by intros; (try simp only [length_strs] at *); (try simp only [length_rows] at *); (try simp only [length_oldLL, List.length_map] at *); (try simp only [Bool.and_eq_true, decide_eq_true_eq] at *); omega) ?_
         | refine Need.mk ?_ ?_
         | refine Ix.strs rfl (by intros; (try simp only [length_strs] at *); (try simp only [length_rows] at *); (try simp only [length_oldLL, List.length_map] at *); (try simp only [Bool.and_eq_true, decide_eq_true_eq] at *); omega) ?_
         | refine Ix.strs rfl ?_ ?_
         | refine Cut.strs rfl ?_ ?_
         | refine Ix.map (fun _ => rfl) (by intros; (try simp only [length_strs] at *); (try simp only [length_rows] at *); (try simp only [length_oldLL, List.length_map] at *); (try simp only [Bool.and_eq_true, decide_eq_true_eq] at *); omega) ?_
         | refine Ix.map (fun _ => rfl) ?_ ?_
         | refine Cut.map (fun _ => rfl) ?_ ?_
         | refine Fork.yes (by assumption) ?_
         | refine Fork.no (by assumption) ?_
         | refine Fork.decYes (by omega) ?_
         | refine Fork.decNo (by omega) ?_
         | refine Fork.dec (fun _ => ?_) (fun _ => ?_)
         | refine Fork.bne (fun _ => ?_) (fun _ => ?_)
         | refine Fork.beq (fun _ => ?_) (fun _ => ?_)
         | refine Fork.seq (fun _ => ?_) (fun _ => ?_)
         | refine Fork.sne (fun _ => ?_) (fun _ => ?_)
         | refine Fork.neg (fun _ => ?_) (fun _ => ?_)
         | refine Fork.mk (fun _ => ?_) (fun _ => ?_)
         | refine Round.mk ?_
         | refine NilQ.mk (fun b hb => ?_)
         | refine forceK_of ?_
         | refine forceBx_of ?_
         | refine unG_old ?_
         | refine unG_gv ?_
         | refine Lit.read rfl ?_
         | refine FinVal.keep ?_
         | refine FinAgg.keep ?_
         | refine Final.mk rfl rfl
         | refine Final.mk ?_ rfl
         | refine Final.mk ?_ ?_
         | refine FinalT.mk ?_ ?_
         | refine FinalC.all (by repeat' first | exact Lends.nil | refine Lends.map _ ?_ | refine Lends.lend _ _ (by first | exact hx.1 | exact hy.1 | exact noTk_old _ | (intro c hc; rw [List.mem_singleton.1 hc]; rfl) | (intro c hc; cases hc; done)) ?_) ?_
         | refine ACall.scal _ _ (eqStringS.big _ _ ?_) rfl (by repeat' first | exact SeesL.nil | refine SeesL.cons ?_ ?_ | exact SeesB.of0 (Sees0.val _) | exact SeesB.of0 (Sees0.str _) | exact SeesB.of0 (Sees0.olds _ _) | exact SeesB.of0 (Sees0.old _) | exact SeesB.of0 (Sees0.oldagg _) | exact SeesB.of0 Sees0.nil | exact Sees0.val _ | exact Sees0.str _ | exact Sees0.olds _ _ | exact Sees0.old _ | exact Sees0.oldagg _ | exact Sees0.nil | exact SeesB.of0 (Sees0.any _) | assumption | exact sees_gv _ _ _ (by assumption) (by first | assumption | exact BoxIn.last _ _ | exact BoxIn.more (BoxIn.last _ _) _) | refine SeesB.agg ?_ | refine Sees0.agg ?_ | exact SeesB.of0 (Sees0.clo SeesL.nil SeesL.nil) | exact Sees0.clo SeesL.nil SeesL.nil) ?_
         | refine AQCall.mk _ _ (fun hg => eqStringS.big _ _ ?_) rfl (fun _ => (by repeat' first | exact SeesL.nil | refine SeesL.cons ?_ ?_ | exact SeesB.of0 (Sees0.val _) | exact SeesB.of0 (Sees0.str _) | exact SeesB.of0 (Sees0.olds _ _) | exact SeesB.of0 (Sees0.old _) | exact SeesB.of0 (Sees0.oldagg _) | exact SeesB.of0 Sees0.nil | exact Sees0.val _ | exact Sees0.str _ | exact Sees0.olds _ _ | exact Sees0.old _ | exact Sees0.oldagg _ | exact Sees0.nil | exact SeesB.of0 (Sees0.any _) | assumption | exact sees_gv _ _ _ (by assumption) (by first | assumption | exact BoxIn.last _ _ | exact BoxIn.more (BoxIn.last _ _) _) | refine SeesB.agg ?_ | refine Sees0.agg ?_ | exact SeesB.of0 (Sees0.clo SeesL.nil SeesL.nil) | exact Sees0.clo SeesL.nil SeesL.nil)) ?_)
    | refine AV.bool_congr ?_
    | refine AV.int_congr ?_
    | refine AV.str_congr ?_
    | refine AV.list_congr ?_
    | with_reducible rfl
    | refine fr1 ?_
    | refine fr2 ?_ ?_
  all_goals first
    | omega
    | (simp only [tStrs_size, tInts_size] at *; omega)
    | (obtain ⟨x0, x1⟩ := f; obtain ⟨y0, y1⟩ := g; simp_all)
theorem markFact.tn (f : Fct) (k : Nat) (hs : tFct.size f ≤ 1099511627775) (hk : k + cn (.a (tFct.q f)) ≤ 1099511627775) :
    markFact.Turn (gb (.a (tFct.q f)) 0) [gv (.a (tFct.q f)) 0, .val (.int .i64 k)] (.val (.int .i64 ((k + cn (.a (tFct.q f)) : Nat)))) (gb (mk (.a (tFct.q f)) k) 0) := by
  refine markFact.ofT rfl rfl (by rw [length_gb, nb_mk]) ?_
  have hz1 := tFact_size f
  obtain ⟨cs, hcs⟩ : ∃ cs : List Tr, cs = [.s f.1, .l 9 1 (f.2.map Ty.str.q)] := ⟨_, rfl⟩
  have hun : tFct.q f = unA cs := by rw [hcs]; rfl
  have hc0 : cs[0]? = some (.s f.1) := by rw [hcs]; rfl
  have hc1 : cs[1]? = some (.l 9 1 (f.2.map Ty.str.q)) := by rw [hcs]; rfl
  have hka : k + cnA cs ≤ 1099511627775 := by rw [← cnA_unA, ← hun]; exact hk
  have hcl : cs.length = 2 := by rw [hcs]; rfl
  have e1 : gb (.a (tFct.q f)) 0 = gbL (sa cs k 0) 0 := by rw [gb, hun, gbL_unA]; rfl
  have e2 : gb (mk (.a (tFct.q f)) k) 0 = gbL (sa cs k 2) 0 := by rw [mk, gb, hun, mkA_unA, gbL_unA, sa_all cs k hcl.symm]
  have e3 : cn (.a (tFct.q f)) = cnA (cs.take 2) := by rw [cn, hun, cnA_unA, List.take_of_length_le (by omega)]
  rw [e1, e2, e3]
  obtain ⟨nz, hnz⟩ : ∃ nz, nz = (gbL (sa cs k 0) 0).length := ⟨_, rfl⟩
  have hlb : ∀ p, (gbL (sa cs k p) 0).length = nz := fun p => by rw [hnz, length_gbL, length_gbL, nbL_sa, nbL_sa]
  have hat : ∀ p : Nat, (gbL (sa cs k p) 0 ++ [.cells .var (gvL (tFct.q f) 0)])[(gbL (sa cs k 0) 0).length]? = some (.cells .var (gvL (tFct.q f) 0)) := fun p => by
    rw [← hnz, List.getElem?_append_right (by rw [hlb]; exact Nat.le_refl _), hlb, Nat.sub_self]; rfl
  have n0 : cnA (cs.take 1) = cnA (cs.take 0) := cnA_succ hc0
  have s0 : gbL (sa cs k 1) 0 = gbL (sa cs k 0) 0 := by rw [sa_succ k hc0, sa_at k hc0]; rfl
  have n1 : cnA (cs.take 2) = cnA (cs.take 1) + cn (.l 9 1 (f.2.map Ty.str.q)) := cnA_succ hc1
  have l1 := cnA_take_le cs 2
  clear e1 e2 e3
  repeat' first
    | contradiction
    | (conv => whnf
       first
         | refine Need.mk (fun h => h) ?_
         | refine Need.mk rfl ?_
         | refine Need.mk ⟨rfl, Nat.le_of_ble_eq_true rfl⟩ ?_
         | refine Need.mk (Nat.le_of_ble_eq_true rfl) ?_
         | refine Need.mk (by intros; (try simp only [length_strs] at *); (try simp only [length_rows] at *); (try simp only [length_oldLL, List.length_map] at *); (try simp only [Bool.and_eq_true, decide_eq_true_eq] at *); omega) ?_
         | refine Need.mk ⟨rfl, by simp only [length_setAt, List.length_set, length_gvL, length_st, Int.toNat_natCast]; omega⟩ ?_
         | refine Need.mk ?_ ?_
         | refine Ix.strs rfl (by intros; (try simp only [length_strs] at *); (try simp only [length_rows] at *); (try simp only [length_oldLL, List.length_map] at *); (try simp only [Bool.and_eq_true, decide_eq_true_eq] at *); omega) ?_
         | refine Ix.strs rfl ?_ ?_
         | refine Cut.strs rfl ?_ ?_
         | refine Ix.map (fun _ => rfl) (by intros; (try simp only [length_strs] at *); (try simp only [length_rows] at *); (try simp only [length_oldLL, List.length_map] at *); (try simp only [Bool.and_eq_true, decide_eq_true_eq] at *); omega) ?_
         | refine Ix.map (fun _ => rfl) ?_ ?_
         | refine Cut.map (fun _ => rfl) ?_ ?_
         | refine Fork.yes (by assumption) ?_
         | refine Fork.no (by assumption) ?_
         | refine Fork.decYes (by omega) ?_
         | refine Fork.decNo (by omega) ?_
         | refine Fork.dec (fun _ => ?_) (fun _ => ?_)
         | refine Fork.bne (fun _ => ?_) (fun _ => ?_)
         | refine Fork.beq (fun _ => ?_) (fun _ => ?_)
         | refine Fork.seq (fun _ => ?_) (fun _ => ?_)
         | refine Fork.sne (fun _ => ?_) (fun _ => ?_)
         | refine Fork.neg (fun _ => ?_) (fun _ => ?_)
         | refine Fork.mk (fun _ => ?_) (fun _ => ?_)
         | refine Round.mk ?_
         | refine NilQ.mk (fun b hb => ?_)
         | refine forceK_of ?_
         | refine forceBx_of ?_
         | refine unG_old ?_
         | refine unG_gv ?_
         | refine Lit.read rfl ?_
         | refine FinVal.keep ?_
         | refine FinAgg.keep ?_
         | refine Final.mk rfl rfl
         | refine Final.mk ?_ rfl
         | refine Final.mk ?_ ?_
         | refine FinalT.mk ?_ ?_
         | refine FinalC.all (by repeat' first | exact Lends.nil | refine Lends.map _ ?_ | refine Lends.lend _ _ (by first | exact hx.1 | exact hy.1 | exact noTk_old _ | (intro c hc; rw [List.mem_singleton.1 hc]; rfl) | (intro c hc; cases hc; done)) ?_) ?_)
    | refine AV.bool_congr ?_
    | refine AV.int_congr ?_
    | refine AV.str_congr ?_
    | refine AV.list_congr ?_
    | with_reducible rfl
    | refine fr1 ?_
    | refine fr2 ?_ ?_
  have t1 : markStringS.Turn (gb (.l 9 1 (f.2.map Ty.str.q)) 0) [gv (.l 9 1 (f.2.map Ty.str.q)) 0, .val (.int .i64 ((k + cnA (cs.take 1) : Nat)))] (.val (.int .i64 ((k + cnA (cs.take 2) : Nat)))) (gb (mk (.l 9 1 (f.2.map Ty.str.q)) (k + cnA (cs.take 1))) 0) := by
    have h := markStringS.tn f.2 (k + cnA (cs.take 1)) (by omega) (by have := n1; change _ = _ + cn (.l 9 1 (f.2.map Ty.str.q)) at this; omega)
    rw [Nat.add_assoc] at h
    change markStringS.Turn _ _ (.val (.int .i64 ((k + (cnA (cs.take 1) + cn (.l 9 1 (f.2.map Ty.str.q))) : Nat)))) _ at h
    rw [← n1] at h; exact h
  have hk1 : ((k + cnA (cs.take 1) : Nat) : Int) = (k : Int) := by rw [n0, List.take_zero]; rfl
  conv => whnf
  refine ld_at _ _ (hat 0) rfl ?_
  conv => whnf
  refine ACall.turn' (gbL (sa cs k 2) 0 ++ [.cells .var (gvL (tFct.q f) 0)]) [gv (.l 9 1 (f.2.map Ty.str.q)) 0, .val (.int .i64 ((k + cnA (cs.take 1) : Nat)))] (.l 9 1 (f.2.map Ty.str.q)) (mk (.l 9 1 (f.2.map Ty.str.q)) (k + cnA (cs.take 1))) _ (gbL (mkA (cs.take 1) k) 0) (gbL (cs.drop 2) (nbL (cs.take 1) + nb (.l 9 1 (f.2.map Ty.str.q))) ++ [.cells .var (gvL (tFct.q f) 0)]) t1 rfl ?_ (nb_mk _ _) (.cons (.inl ⟨?_, rfl⟩) (.cons (.inr (by rw [hk1]; exact Sees0.val _)) .nil)) ?_ ?_
  · rw [← s0]; rw [bx_sa k hc1, List.append_assoc, List.append_assoc, List.append_assoc]
  · rw [length_gbL, nbL_mkA, hcs]
    refine AV.bsl_congr (j := 0 + 0) (j' := 0 + (0)) ?_ rfl
    simp only [Nat.add_zero, Nat.zero_add, Nat.add_assoc]
  · rw [bx_sa' k hc1, List.append_assoc, List.append_assoc, List.append_assoc]
  repeat' first
    | contradiction
    | (conv => whnf
       first
         | refine Need.mk (fun h => h) ?_
         | refine Need.mk rfl ?_
         | refine Need.mk ⟨rfl, Nat.le_of_ble_eq_true rfl⟩ ?_
         | refine Need.mk (Nat.le_of_ble_eq_true rfl) ?_
         | refine Need.mk (by intros; (try simp only [length_strs] at *); (try simp only [length_rows] at *); (try simp only [length_oldLL, List.length_map] at *); (try simp only [Bool.and_eq_true, decide_eq_true_eq] at *); omega) ?_
         | refine Need.mk ⟨rfl, by simp only [length_setAt, List.length_set, length_gvL, length_st, Int.toNat_natCast]; omega⟩ ?_
         | refine Need.mk ?_ ?_
         | refine Ix.strs rfl (by intros; (try simp only [length_strs] at *); (try simp only [length_rows] at *); (try simp only [length_oldLL, List.length_map] at *); (try simp only [Bool.and_eq_true, decide_eq_true_eq] at *); omega) ?_
         | refine Ix.strs rfl ?_ ?_
         | refine Cut.strs rfl ?_ ?_
         | refine Ix.map (fun _ => rfl) (by intros; (try simp only [length_strs] at *); (try simp only [length_rows] at *); (try simp only [length_oldLL, List.length_map] at *); (try simp only [Bool.and_eq_true, decide_eq_true_eq] at *); omega) ?_
         | refine Ix.map (fun _ => rfl) ?_ ?_
         | refine Cut.map (fun _ => rfl) ?_ ?_
         | refine Fork.yes (by assumption) ?_
         | refine Fork.no (by assumption) ?_
         | refine Fork.decYes (by omega) ?_
         | refine Fork.decNo (by omega) ?_
         | refine Fork.dec (fun _ => ?_) (fun _ => ?_)
         | refine Fork.bne (fun _ => ?_) (fun _ => ?_)
         | refine Fork.beq (fun _ => ?_) (fun _ => ?_)
         | refine Fork.seq (fun _ => ?_) (fun _ => ?_)
         | refine Fork.sne (fun _ => ?_) (fun _ => ?_)
         | refine Fork.neg (fun _ => ?_) (fun _ => ?_)
         | refine Fork.mk (fun _ => ?_) (fun _ => ?_)
         | refine Round.mk ?_
         | refine NilQ.mk (fun b hb => ?_)
         | refine forceK_of ?_
         | refine forceBx_of ?_
         | refine unG_old ?_
         | refine unG_gv ?_
         | refine Lit.read rfl ?_
         | refine FinVal.keep ?_
         | refine FinAgg.keep ?_
         | refine Final.mk rfl rfl
         | refine Final.mk ?_ rfl
         | refine Final.mk ?_ ?_
         | refine FinalT.mk ?_ ?_
         | refine FinalC.all (by repeat' first | exact Lends.nil | refine Lends.map _ ?_ | refine Lends.lend _ _ (by first | exact hx.1 | exact hy.1 | exact noTk_old _ | (intro c hc; rw [List.mem_singleton.1 hc]; rfl) | (intro c hc; cases hc; done)) ?_) ?_)
    | refine AV.bool_congr ?_
    | refine AV.int_congr ?_
    | refine AV.str_congr ?_
    | refine AV.list_congr ?_
    | with_reducible rfl
    | refine fr1 ?_
    | refine fr2 ?_ ?_
  all_goals first
    | (simp [hlb]; done)
    | rfl
    | (rw [Nat.add_zero]; done)
    | (rw [List.take_append_of_le_length (by rw [hlb, hlb]; exact Nat.le_refl _), List.take_of_length_le (by rw [hlb, hlb]; exact Nat.le_refl _)]; done)
end Go.Proofs.Ytcbepmomjpcjhaa
