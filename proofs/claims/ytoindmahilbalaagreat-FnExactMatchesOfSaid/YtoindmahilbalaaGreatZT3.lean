/-
  What stands below some laws' proofs, part 3: contracts of functions, by an evaluator.
-/
import Derived.Test.YtoindmahilbalaaGreatZT2
namespace Go.Proofs.YtoindmahilbalaaGreat
open Abs
theorem slCompareFunc.ret (l m : List Str) (h : tStrs.size l ≤ 1048576) (h' : tStrs.size m ≤ 1048576) :
    slCompareFunc.Ret [.list none (strs l), .list none (strs m), .clo 149 [] []] (.val (.int .i64 (cmpArgs l m))) [] := by
  refine slCompareFunc.ir.of rfl ?_
  rw [tStrs_size] at h h'
  skip
  refine ALoop.mk Nat (fun i => ⟨[(0, .list none (strs l)), (1, .list none (strs m)), (2, .clo 149 [] []), (11, .list none (strs l)), (12, .val (.int .i64 l.length)), (13, .val (.int .i64 i))], [], []⟩) (fun i => i ≤ l.length ∧ i ≤ m.length ∧ cmpArgs (l.drop i) (m.drop i) = cmpArgs l m) (fun i => l.length - i) ⟨0, ⟨Nat.zero_le _, Nat.zero_le _, rfl⟩, ?_⟩ (fun i hi => ?_)
  · repeat' first
      | exact trivial | refine wl_ ?_ ?_ ?_ ?_ | refine And.intro ?_ ?_ | with_reducible rfl | exact ble_ | refine AV.int_congr ?_ | refine AV.list_congr ?_ | (apply rfl)
    simp
  obtain ⟨hi1, hi2, hi3⟩ := hi
  repeat' first
    | (conv => whnf
       first | refine Need.mk rfl ?_ | refine Ix.strsF rfl ?_ | refine Fork.dec (fun _ => ?_) (fun _ => ?_) | refine Fork.bne (fun _ => ?_) (fun _ => ?_) | refine Round.mk ?_ | refine FinVal.keep ?_ | refine Final.mk ?_ rfl | refine ACall.scalA _ _ (pCompareAtoms.ret _ _ ?_ ?_) rfl ?_)
    | refine AV.int_congr ?_
  all_goals try simp only [length_rows, length_strs, length_oldLL, List.length_map, Int.toNat_natCast] at *
  · rw [← hi3, cmpArgs_end (by rw [List.drop_eq_nil_iff, List.drop_eq_nil_iff]; omega)]
    simp only [List.length_drop]
    (repeat' split) <;> omega
  · have := str_le (l := l) (i := i) (by omega); omega
  · have := str_le (l := m) (i := i) (by omega); omega
  · rename_i h1 h2 h3
    rw [← hi3, cmpArgs_drop (by omega) (by omega), if_pos h2]
  · rename_i h1 h2 h3
    refine ⟨i + 1, ⟨by omega, by omega, ?_⟩, ?_, by omega⟩
    · rw [cmpArgs_drop (by omega) (by omega), if_neg (by simpa using h2)] at hi3; exact hi3
    · repeat' first
        | exact trivial | refine wl_ ?_ ?_ ?_ ?_ | refine And.intro ?_ ?_ | with_reducible rfl | exact ble_ | refine AV.int_congr ?_ | refine AV.list_congr ?_ | (apply rfl)
      rw [wrap64 (by omega) (by omega)]; rfl
  all_goals rename_i h1 h2
  all_goals rw [← hi3, cmpArgs_end (by rw [List.drop_eq_nil_iff, List.drop_eq_nil_iff]; omega)]
  all_goals simp only [List.length_drop]
  all_goals ((repeat' split) <;> omega)
theorem pCompareFacts.ret (f g : Fct) (h : tFct.size f ≤ 1048576) (h' : tFct.size g ≤ 1048576) : pCompareFacts.Ret [.agg (oldL (tFct.q f)), .agg (oldL (tFct.q g))] (.val (.int .i64 (cmpF f g))) [] := by
  refine pCompareFacts.ir.of rfl ?_
  rw [tFct_size] at h h'
  repeat' first
    | (conv => whnf
       first | refine Need.mk rfl ?_ | refine Fork.bne (fun _ => ?_) (fun _ => ?_) | refine FinVal.keep ?_ | refine Final.mk ?_ rfl | refine ACall.scalA _ _ (cmpString.ret _ _) rfl ?_ | refine ACall.scalA _ _ (slCompareFunc.ret _ _ ?_ ?_) rfl ?_)
    | refine AV.int_congr ?_
  · rename_i h1
    unfold cmpF; rw [if_neg (fun e => h1 (scmp_zero.2 e))]
  · omega
  · omega
  · rename_i h1
    unfold cmpF; rw [if_pos (scmp_zero.1 (by simpa using h1))]
theorem slEqual.ret (l m : List Str) (hl : l.length ≤ 1099511627776) : slEqual.Ret [.list none (strs l), .list none (strs m)] (.val (.bool (decide (l = m)))) [] := by
  refine slEqual.ir.of rfl ?_
  repeat' first
    | (conv => whnf
       first | refine Need.mk rfl ?_ | refine Fork.bne (fun _ => ?_) (fun _ => ?_) | refine FinVal.keep ?_ | refine Final.mk ?_ rfl)
    | refine AV.bool_congr ?_
  · rename_i h
    rw [length_strs, length_strs] at h
    have h3 : ¬ l = m := fun e => h (by rw [e])
    simp [h3]
  rename_i h
  rw [length_strs, length_strs] at h
  have h : l.length = m.length := by omega
  skip
  refine ALoop.mk Nat (fun i => ⟨[(0, .list none (strs l)), (1, .list none (strs m)), (12, .val (.int .i64 l.length)), (13, .val (.int .i64 i))], [], []⟩) (fun i => i ≤ l.length ∧ l.take i = m.take i) (fun i => l.length - i) ⟨0, ⟨Nat.zero_le _, rfl⟩, ?_⟩ (fun i hi => ?_)
  · repeat' first
      | exact trivial | refine wl_ ?_ ?_ ?_ ?_ | refine And.intro ?_ ?_ | with_reducible rfl | exact ble_ | refine AV.int_congr ?_ | refine AV.list_congr ?_ | (apply rfl)
    simp
  repeat' first
    | (conv => whnf
       first | refine Need.mk rfl ?_ | refine Ix.strsF rfl ?_ | refine Fork.dec (fun _ => ?_) (fun _ => ?_) | refine Fork.sne (fun _ => ?_) (fun _ => ?_) | refine Round.mk ?_ | refine FinVal.keep ?_ | refine Final.mk ?_ rfl)
    | refine AV.bool_congr ?_
  · rename_i h1 h2
    have h3 : ¬ l = m := fun e => h2 (by rw [e])
    simp [h3]
  · rename_i h1 h2
    refine ⟨i + 1, ⟨by omega, ?_⟩, ?_, by omega⟩
    · rw [take_succ' [] (by omega), take_succ' (l := m) [] (by omega), hi.2]
      rw [Int.toNat_natCast] at h2
      have h2' : l.getD i [] = m.getD i [] := h2
      rw [h2']
    · repeat' first
        | exact trivial | refine wl_ ?_ ?_ ?_ ?_ | refine And.intro ?_ ?_ | with_reducible rfl | exact ble_ | refine AV.int_congr ?_ | refine AV.list_congr ?_ | (apply rfl)
      rw [wrap64 (by omega) (by omega)]; rfl
  · rename_i h1
    have h2 := hi.2
    rw [List.take_of_length_le (by omega), List.take_of_length_le (by omega)] at h2
    simp [h2]
theorem fct_le {l : List Fct} {i : Nat} (hi : i < l.length) : tFct.size (l.getD i default) ≤ listSize tFct l :=
  listSize_mem tFct (List.mem_of_getElem? (facts_get hi))
theorem fct_le' {l : List Fct} (i : Nat) : tFct.size (l.getD i default) ≤ listSize tFct l := by
  rcases Nat.lt_or_ge i l.length with h | h
  · exact fct_le h
  · have : l.getD i default = default := by simp [List.getD, List.getElem?_eq_none h]
    rw [this]; exact Nat.zero_le _
def badAt (l : List Fct) (i : Nat) : Bool := !isFactF (l.getD i default) || (decide ((0 : Int) < i) && decide (0 ≤ cmpF (l.getD (i - 1) default) (l.getD i default)))
@[irreducible] def areF (l : List Fct) : Bool := decide ((l.length : Int) ≤ 24) && (List.range l.length).all fun i => !badAt l i
theorem areF_no {l : List Fct} {i : Nat} (hi : i < l.length) (h : badAt l i = true) : areF l = false := by
  have : ((List.range l.length).all fun i => !badAt l i) = false := by
    rw [List.all_eq_false]
    exact ⟨i, List.mem_range.2 hi, by simp [h]⟩
  unfold areF; rw [this, Bool.and_false]
theorem areF_yes {l : List Fct} (h : ∀ j, j < l.length → badAt l j = false) : areF l = decide ((l.length : Int) ≤ 24) := by
  have : ((List.range l.length).all fun i => !badAt l i) = true := by
    rw [List.all_eq_true]
    intro j hj
    simp [h j (List.mem_range.1 hj)]
  unfold areF; rw [this, Bool.and_true]
theorem badAt_step {l : List Fct} {i : Nat} {x : Int} (hi : i < l.length) (hx : x = (i : Int) - 1) :
    (!isFactF (l.getD i default) || (decide ((0 : Int) < (i : Int)) && decide (0 ≤ cmpF (l.getD x.toNat default) (l.getD i default)))) = badAt l i := by
  subst hx
  unfold badAt
  rw [show ((i : Int) - 1).toNat = i - 1 by omega]
theorem sAreFacts.ret (l : List Fct) (h : tFcts.size l ≤ 1048576) : sAreFacts.Ret [.list none (facts l)] (.val (.bool (areF l))) [] := by
  refine sAreFacts.ir.of rfl ?_
  rw [tFcts_size] at h
  skip
  refine ALoop.mk Nat (fun i => ⟨[(0, .list none (facts l)), (3, .val (.int .i64 i))], [], []⟩) (fun i => i ≤ l.length ∧ ∀ j, j < i → badAt l j = false) (fun i => l.length - i) ⟨0, ⟨Nat.zero_le _, by omega⟩, ?_⟩ (fun i hi => ?_)
  · repeat' first
      | exact trivial | refine wl_ ?_ ?_ ?_ ?_ | refine And.intro ?_ ?_ | with_reducible rfl | exact ble_ | refine AV.int_congr ?_ | refine AV.list_congr ?_ | (apply rfl)
  have hw : i < l.length → IntKind.i64.wrap ((i : Int) - 1) = (i : Int) - 1 := fun h => wrap64 (by omega) (by omega)
  repeat' first
    | (conv => whnf
       first | refine Need.mk (fun h => h) ?_ | refine Need.mk rfl ?_ | refine nb_ ?_ | refine Ix.mapF (fun _ => rfl) ?_ | refine Fork.dec (fun _ => ?_) (fun _ => ?_) | refine Fork.mk (fun _ => ?_) (fun _ => ?_) | refine Round.mk ?_ | refine FinVal.keep ?_ | refine Final.mk ?_ rfl | refine AQCall.mkA _ _ (fun hg => sIsFact.ret _ ?_) rfl ?_ | refine AQCall.mkA _ _ (fun hg => sCompareFacts.ret _ _ ?_ ?_) rfl ?_)
    | refine AV.bool_congr ?_
  all_goals try simp only [length_rows, length_strs, length_oldLL, List.length_map, Int.toNat_natCast] at *
  · exact Nat.le_trans (fct_le' _) (by omega)
  · exact Nat.le_trans (fct_le' _) (by omega)
  · exact Nat.le_trans (fct_le' _) (by omega)
  · rename_i h1 h2
    rw [badAt_step (by omega) (hw (by omega))] at h1
    rw [areF_no (by omega) h1]
  · rename_i h1 h2
    rw [badAt_step (by omega) (hw (by omega))] at h1
    refine ⟨i + 1, ⟨by omega, fun j hj => ?_⟩, ?_, by omega⟩
    · rcases Nat.lt_or_ge j i with h | h
      · exact hi.2 j h
      · have : j = i := by omega
        subst this; exact h1
    · repeat' first
        | exact trivial | refine wl_ ?_ ?_ ?_ ?_ | refine And.intro ?_ ?_ | with_reducible rfl | exact ble_ | refine AV.int_congr ?_ | refine AV.list_congr ?_ | (apply rfl)
      rw [wrap64 (by omega) (by omega)]; rfl
  · rw [areF_yes (fun j hj => hi.2 j (by omega))]
theorem areF_long {l : List Fct} (h : ¬ (l.length : Int) ≤ 24) : areF l = false := by unfold areF; simp [h]
theorem pAreFacts.ret (l : List Fct) (h : tFcts.size l ≤ 1048576) : pAreFacts.Ret [.list none (facts l)] (.val (.bool (areF l))) [] := by
  refine pAreFacts.ir.of rfl ?_
  rw [tFcts_size] at h
  repeat' first
    | (conv => whnf
       first | refine Need.mk rfl ?_ | refine Fork.dec (fun _ => ?_) (fun _ => ?_) | refine FinVal.keep ?_ | refine Final.mk ?_ rfl)
    | refine AV.bool_congr ?_
  · rename_i h1
    rw [length_rows] at h1
    rw [areF_long (by omega)]
  rename_i h24
  rw [length_rows] at h24
  skip
  refine ALoop.mk Nat (fun i => ⟨[(0, .list none (facts l)), (8, .list none (facts l)), (9, .val (.int .i64 l.length)), (10, .val (.int .i64 i))], [], []⟩) (fun i => i ≤ l.length ∧ ∀ j, j < i → badAt l j = false) (fun i => l.length - i) ⟨0, ⟨Nat.zero_le _, by omega⟩, ?_⟩ (fun i hi => ?_)
  · repeat' first
      | exact trivial | refine wl_ ?_ ?_ ?_ ?_ | refine And.intro ?_ ?_ | with_reducible rfl | exact ble_ | refine AV.int_congr ?_ | refine AV.list_congr ?_ | (apply rfl)
    simp
  have hw : i < l.length → IntKind.i64.wrap ((i : Int) - 1) = (i : Int) - 1 := fun h => wrap64 (by omega) (by omega)
  repeat' first
    | (conv => whnf
       first | refine Need.mk (fun h => h) ?_ | refine Need.mk rfl ?_ | refine Need.mk ⟨rfl, Nat.le_of_ble_eq_true rfl⟩ ?_ | refine nb_ ?_ | refine Ix.mapF (fun _ => rfl) ?_ | refine Fork.dec (fun _ => ?_) (fun _ => ?_) | refine Fork.mk (fun _ => ?_) (fun _ => ?_) | refine Round.mk ?_ | refine FinVal.keep ?_ | refine Final.mk ?_ rfl | refine AQCall.mkA _ _ (fun hg => pIsFact.ret _ ?_) rfl ?_ | refine AQCall.mkA _ _ (fun hg => pCompareFacts.ret _ _ ?_ ?_) rfl ?_)
    | refine AV.bool_congr ?_
  all_goals try simp only [length_rows, length_strs, length_oldLL, List.length_map, Int.toNat_natCast] at *
  · exact Nat.le_trans (fct_le' _) (by omega)
  · exact Nat.le_trans (fct_le' _) (by omega)
  · exact Nat.le_trans (fct_le' _) (by omega)
  · rename_i h2 h1
    rw [badAt_step (by omega) (hw (by omega))] at h1
    rw [areF_no (by omega) h1]
  · rename_i h2 h1
    rw [badAt_step (by omega) (hw (by omega))] at h1
    refine ⟨i + 1, ⟨by omega, fun j hj => ?_⟩, ?_, by omega⟩
    · rcases Nat.lt_or_ge j i with h | h
      · exact hi.2 j h
      · have : j = i := by omega
        subst this; exact h1
    · repeat' first
        | exact trivial | refine wr_ ?_ ?_ ?_ ?_ | refine And.intro ?_ ?_ | with_reducible rfl | exact ble_ | refine AV.int_congr ?_ | refine AV.list_congr ?_ | (apply rfl)
      rw [wrap64 (by omega) (by omega)]; rfl
  · rw [areF_yes (fun j hj => hi.2 j (by omega))]; simp; omega
end Go.Proofs.YtoindmahilbalaaGreat
namespace Go.Proofs.YtoindmahilbalaaGreat
open Abs
abbrev pairs (b : List VPair) : List (List AV) := rows tPair b
theorem pr_le {l : List VPair} (i : Nat) : (l.getD i default).1.length + (l.getD i default).2.length ≤ listSize tPair l := by
  rcases Nat.lt_or_ge i l.length with h | h
  · exact tPair_le h
  · have : l.getD i default = default := by simp [List.getD, List.getElem?_eq_none h]
    rw [this]; exact Nat.zero_le _
def badB (b : List VPair) (i : Nat) : Bool := !varF (b.getD i default).1 || !atomF (b.getD i default).2 || decide ((0 : Int) < i) && !Op.bytesLess (b.getD (i - 1) default).1 (b.getD i default).1
theorem badB_step {b : List VPair} {i : Nat} {x : Int} (hx : x = (i : Int) - 1) :
    (!varF (b.getD i default).1 || !atomF (b.getD i default).2 || decide ((0 : Int) < i) && !Op.bytesLess (b.getD x.toNat default).1 (b.getD i default).1) = badB b i := by
  subst hx
  unfold badB
  rw [show ((i : Int) - 1).toNat = i - 1 by omega]
@[irreducible] def bindF (b : List VPair) : Bool := decide ((b.length : Int) ≤ 6) && (List.range b.length).all fun i => !badB b i
theorem bindF_no {b : List VPair} {i : Nat} (hi : i < b.length) (h : badB b i = true) : bindF b = false := by
  have : ((List.range b.length).all fun i => !badB b i) = false := by
    rw [List.all_eq_false]
    exact ⟨i, List.mem_range.2 hi, by simp [h]⟩
  unfold bindF; rw [this, Bool.and_false]
theorem bindF_yes {b : List VPair} (h : ∀ j, j < b.length → badB b j = false) : bindF b = decide ((b.length : Int) ≤ 6) := by
  have : ((List.range b.length).all fun i => !badB b i) = true := by
    rw [List.all_eq_true]
    intro j hj
    simp [h j (List.mem_range.1 hj)]
  unfold bindF; rw [this, Bool.and_true]
theorem bindF_long {b : List VPair} (h : ¬ (b.length : Int) ≤ 6) : bindF b = false := by unfold bindF; simp [h]
theorem sIsBinding.ret (b : List VPair) (h : tPairs.size b ≤ 1048576) : sIsBinding.Ret [.list none (pairs b)] (.val (.bool (bindF b))) [] := by
  refine sIsBinding.ir.of rfl ?_
  rw [tPairs_sz] at h
  skip
  refine ALoop.mk Nat (fun i => ⟨[(0, .list none (pairs b)), (3, .val (.int .i64 i))], [], []⟩) (fun i => i ≤ b.length ∧ ∀ j, j < i → badB b j = false) (fun i => b.length - i) ⟨0, ⟨Nat.zero_le _, by omega⟩, ?_⟩ (fun i hi => ?_)
  · repeat' first
      | exact trivial | refine wl_ ?_ ?_ ?_ ?_ | refine And.intro ?_ ?_ | with_reducible rfl | exact ble_ | refine AV.int_congr ?_ | refine AV.list_congr ?_ | (apply rfl)
  have hw : i < b.length → IntKind.i64.wrap ((i : Int) - 1) = (i : Int) - 1 := fun h => wrap64 (by omega) (by omega)
  have hp := pr_le (l := b) i
  have hp' := pr_le (l := b) (i - 1)
  repeat' first
    | (conv => whnf
       first | refine Need.mk (fun h => h) ?_ | refine Need.mk rfl ?_ | refine Ix.mapF (fun _ => rfl) ?_ | refine Fork.dec (fun _ => ?_) (fun _ => ?_) | refine Fork.mk (fun _ => ?_) (fun _ => ?_) | refine Round.mk ?_ | refine FinVal.keep ?_ | refine Final.mk ?_ rfl | refine AQCall.mkA _ _ (fun hg => sIsVar.ret _ ?_) rfl ?_ | refine AQCall.mkA _ _ (fun hg => sIsAtom.ret _ ?_) rfl ?_)
    | refine AV.bool_congr ?_
  all_goals try simp only [length_rows, length_strs, length_oldLL, List.length_map, Int.toNat_natCast] at *
  all_goals try omega
  · rename_i h1 h2
    rw [badB_step (hw (by omega))] at h1
    rw [bindF_no (by omega) h1]
  · rename_i h1 h2
    rw [badB_step (hw (by omega))] at h1
    refine ⟨i + 1, ⟨by omega, fun j hj => ?_⟩, ?_, by omega⟩
    · rcases Nat.lt_or_ge j i with h | h
      · exact hi.2 j h
      · have : j = i := by omega
        subst this; exact h1
    · repeat' first
        | exact trivial | refine wl_ ?_ ?_ ?_ ?_ | refine And.intro ?_ ?_ | with_reducible rfl | exact ble_ | refine AV.int_congr ?_ | refine AV.list_congr ?_ | (apply rfl)
      rw [wrap64 (by omega) (by omega)]; rfl
  · rw [bindF_yes (fun j hj => hi.2 j (by omega))]
theorem pIsBinding.ret (b : List VPair) (h : tPairs.size b ≤ 1048576) : pIsBinding.Ret [.list none (pairs b)] (.val (.bool (bindF b))) [] := by
  refine pIsBinding.ir.of rfl ?_
  rw [tPairs_sz] at h
  repeat' first
    | (conv => whnf
       first | refine Need.mk rfl ?_ | refine Fork.dec (fun _ => ?_) (fun _ => ?_) | refine FinVal.keep ?_ | refine Final.mk ?_ rfl)
    | refine AV.bool_congr ?_
  · rename_i h1
    rw [length_rows] at h1
    rw [bindF_long (by omega)]
  rename_i h6
  rw [length_rows] at h6
  skip
  refine ALoop.mk Nat (fun i => ⟨[(0, .list none (pairs b)), (8, .list none (pairs b)), (9, .val (.int .i64 b.length)), (10, .val (.int .i64 i))], [], []⟩) (fun i => i ≤ b.length ∧ ∀ j, j < i → badB b j = false) (fun i => b.length - i) ⟨0, ⟨Nat.zero_le _, by omega⟩, ?_⟩ (fun i hi => ?_)
  · repeat' first
      | exact trivial | refine wl_ ?_ ?_ ?_ ?_ | refine And.intro ?_ ?_ | with_reducible rfl | exact ble_ | refine AV.int_congr ?_ | refine AV.list_congr ?_ | (apply rfl)
    simp
  have hw : i < b.length → IntKind.i64.wrap ((i : Int) - 1) = (i : Int) - 1 := fun h => wrap64 (by omega) (by omega)
  have hp := pr_le (l := b) i
  have hp' := pr_le (l := b) (i - 1)
  repeat' first
    | (conv => whnf
       first | refine Need.mk (fun h => h) ?_ | refine Need.mk rfl ?_ | refine Need.mk ⟨rfl, Nat.le_of_ble_eq_true rfl⟩ ?_ | refine nb_ ?_ | refine Ix.mapF (fun _ => rfl) ?_ | refine Fork.dec (fun _ => ?_) (fun _ => ?_) | refine Fork.mk (fun _ => ?_) (fun _ => ?_) | refine Round.mk ?_ | refine FinVal.keep ?_ | refine Final.mk ?_ rfl | refine AQCall.mkA _ _ (fun hg => pIsVar.ret _ ?_) rfl ?_ | refine AQCall.mkA _ _ (fun hg => pIsAtom.ret _ ?_) rfl ?_)
    | refine AV.bool_congr ?_
  all_goals try simp only [length_rows, length_strs, length_oldLL, List.length_map, Int.toNat_natCast] at *
  all_goals try omega
  · rename_i h2 h1
    rw [badB_step (hw (by omega))] at h1
    rw [bindF_no (by omega) h1]
  · rename_i h2 h1
    rw [badB_step (hw (by omega))] at h1
    refine ⟨i + 1, ⟨by omega, fun j hj => ?_⟩, ?_, by omega⟩
    · rcases Nat.lt_or_ge j i with h | h
      · exact hi.2 j h
      · have : j = i := by omega
        subst this; exact h1
    · repeat' first
        | exact trivial | refine wr_ ?_ ?_ ?_ ?_ | refine And.intro ?_ ?_ | with_reducible rfl | exact ble_ | refine AV.int_congr ?_ | refine AV.list_congr ?_ | (apply rfl)
      rw [wrap64 (by omega) (by omega)]; rfl
  · rw [bindF_yes (fun j hj => hi.2 j (by omega))]; simp; omega
def lookV : List VPair → Str → Option Str
  | [], _ => none
  | p :: b, t => if p.1 = t then some p.2 else lookV b t
theorem lookV_drop {b : List VPair} {t : Str} {i : Nat} (hi : i < b.length) : lookV (b.drop i) t = if (b.getD i default).1 = t then some (b.getD i default).2 else lookV (b.drop (i + 1)) t := by
  rw [List.drop_eq_getElem_cons hi, lookV]
  simp [List.getD, hi]
@[irreducible] def valF (b : List VPair) (t : Str) : Str × Bool := if atomF t then (t, true) else if varF t then (match lookV b t with | some v => (v, true) | none => ([], false)) else ([], false)
theorem valF_hit {b : List VPair} {t v : Str} (h1 : atomF t = false) (h2 : varF t = true) (h : lookV b t = some v) : valF b t = (v, true) := by
  unfold valF; rw [if_neg (by simp [h1]), if_pos h2, h]
theorem valF_miss {b : List VPair} {t : Str} (h1 : atomF t = false) (h : varF t = true → lookV b t = none) : valF b t = ([], false) := by
  unfold valF; rw [if_neg (by simp [h1])]
  split
  · rename_i hv; rw [h hv]
  · rfl
theorem sValueOf.ret (b : List VPair) (t : Str) (h : tPairs.size b ≤ 1048576) (ht : t.length ≤ 1048576) : sValueOf.Ret [.list none (pairs b), .str t] (.tup [.str (valF b t).1, .val (.bool (valF b t).2)]) [] := by
  refine sValueOf.ir.ofS rfl rfl ?_
  rw [tPairs_sz] at h
  repeat' first
    | (conv => whnf
       first | refine Fork.mk (fun _ => ?_) (fun _ => ?_) | refine FinVal.keep ?_ | refine Final.mk ?_ rfl | refine ACall.scalA _ _ (sIsAtom.ret _ ?_) rfl ?_)
  · exact ht
  · rename_i h1; unfold valF; rw [if_pos h1]
  rename_i h1
  refine ALoop.mk Nat (fun i => ⟨[(0, .list none (pairs b)), (1, .str t), (6, .val (.int .i64 i))], [], []⟩) (fun i => i ≤ b.length ∧ (varF t = true → lookV (b.drop i) t = lookV b t)) (fun i => b.length - i) ⟨0, ⟨Nat.zero_le _, fun _ => rfl⟩, ?_⟩ (fun i hi => ?_)
  · repeat' first
      | exact trivial | refine wl_ ?_ ?_ ?_ ?_ | refine And.intro ?_ ?_ | with_reducible rfl | exact ble_ | refine AV.int_congr ?_ | refine AV.str_congr ?_ | refine AV.list_congr ?_ | (apply rfl)
  repeat' first
    | (conv => whnf
       first | refine Need.mk (fun h => h) ?_ | refine Need.mk rfl ?_ | refine Ix.mapF (fun _ => rfl) ?_ | refine Fork.dec (fun _ => ?_) (fun _ => ?_) | refine Fork.mk (fun _ => ?_) (fun _ => ?_) | refine Round.mk ?_ | refine FinVal.keep ?_ | refine Final.mk ?_ rfl | refine AGCall.mkA _ _ (fun hg => sIsVar.ret _ ?_) rfl ?_)
  all_goals try simp only [length_rows, length_strs, length_oldLL, List.length_map, Int.toNat_natCast] at *
  · exact ht
  · rename_i h2 h3
    simp only [Bool.and_eq_true, beq_iff_eq] at h2
    have h4 := lookV_drop (b := b) (t := t) (i := i) (by omega)
    rw [if_pos h2.1, hi.2 h2.2] at h4
    rw [valF_hit h1 h2.2 h4]
  · rename_i h2 h3
    have h4 := lookV_drop (b := b) (t := t) (i := i) (by omega)
    refine ⟨i + 1, ⟨by omega, fun hv => ?_⟩, ?_, by omega⟩
    · rw [hv] at h2
      rw [if_neg (by simpa using h2), hi.2 hv] at h4
      exact h4.symm
    repeat' first
      | exact trivial | refine wl_ ?_ ?_ ?_ ?_ | refine And.intro ?_ ?_ | with_reducible rfl | exact ble_ | refine AV.int_congr ?_ | refine AV.str_congr ?_ | refine AV.list_congr ?_ | (apply rfl)
    rw [wrap64 (by omega) (by omega)]; rfl
  · rw [valF_miss h1 (fun hv => by rw [← hi.2 hv, List.drop_eq_nil_of_le (by omega)]; rfl)]
theorem pValueOf.ret (b : List VPair) (t : Str) (h : tPairs.size b ≤ 1048576) (ht : t.length ≤ 1048576) : pValueOf.Ret [.list none (pairs b), .str t] (.tup [.str (valF b t).1, .val (.bool (valF b t).2)]) [] := by
  refine pValueOf.ir.ofS rfl rfl ?_
  rw [tPairs_sz] at h
  repeat' first
    | (conv => whnf
       first | refine Fork.neg (fun _ => ?_) (fun _ => ?_) | refine Fork.mk (fun _ => ?_) (fun _ => ?_) | refine FinVal.keep ?_ | refine Final.mk ?_ rfl | refine ACall.scalA _ _ (pIsAtom.ret _ ?_) rfl ?_ | refine ACall.scalA _ _ (pIsVar.ret _ ?_) rfl ?_)
  · exact ht
  · rename_i h1; unfold valF; rw [if_pos h1]
  · exact ht
  · rename_i h1 h2; unfold valF; rw [if_neg (by simpa using h1), if_neg (by simpa using h2)]
  rename_i h1 h2
  refine ALoop.mk Nat (fun i => ⟨[(0, .list none (pairs b)), (1, .str t), (14, .list none (pairs b)), (15, .val (.int .i64 b.length)), (16, .val (.int .i64 i))], [], []⟩) (fun i => i ≤ b.length ∧ lookV (b.drop i) t = lookV b t) (fun i => b.length - i) ⟨0, ⟨Nat.zero_le _, rfl⟩, ?_⟩ (fun i hi => ?_)
  · repeat' first
      | exact trivial | refine wl_ ?_ ?_ ?_ ?_ | refine And.intro ?_ ?_ | with_reducible rfl | exact ble_ | refine AV.int_congr ?_ | refine AV.str_congr ?_ | refine AV.list_congr ?_ | (apply rfl)
    simp
  repeat' first
    | (conv => whnf
       first | refine Need.mk rfl ?_ | refine Need.mk ⟨rfl, Nat.le_of_ble_eq_true rfl⟩ ?_ | refine nb_ ?_ | refine Ix.mapF (fun _ => rfl) ?_ | refine Fork.dec (fun _ => ?_) (fun _ => ?_) | refine Fork.seq (fun _ => ?_) (fun _ => ?_) | refine Round.mk ?_ | refine FinVal.keep ?_ | refine Final.mk ?_ rfl)
  all_goals try simp only [length_rows, length_strs, length_oldLL, List.length_map, Int.toNat_natCast] at *
  · rename_i h3 h4
    have h5 := lookV_drop (b := b) (t := t) (i := i) (by omega)
    rw [if_pos h4, hi.2] at h5
    rw [valF_hit h1 h2 h5]
  · rename_i h3 h4
    have h5 := lookV_drop (b := b) (t := t) (i := i) (by omega)
    rw [if_neg h4, hi.2] at h5
    refine ⟨i + 1, ⟨by omega, h5.symm⟩, ?_, by omega⟩
    repeat' first
      | exact trivial | refine wr_ ?_ ?_ ?_ ?_ | refine And.intro ?_ ?_ | with_reducible rfl | exact ble_ | refine AV.int_congr ?_ | refine AV.str_congr ?_ | refine AV.list_congr ?_ | (apply rfl)
    rw [wrap64 (by omega) (by omega)]; rfl
  · rw [valF_miss h1 (fun _ => by rw [← hi.2, List.drop_eq_nil_of_le (by omega)]; rfl)]
theorem pSamePattern.ret (f g : VPattern) (h : tPattern.size f ≤ 1048576) : pSamePattern.Ret [.agg (oldL (tPattern.q f)), .agg (oldL (tPattern.q g))] (.val (.bool (decide (f = g)))) [] := by
  refine pSamePattern.ir.of rfl ?_
  have h : tFct.size f ≤ 1048576 := h
  rw [tFct_size, tStrs_size] at h
  repeat' first
    | (conv => whnf
       first | refine Need.mk (fun h => h) ?_ | refine FinVal.keep ?_ | refine Final.mk ?_ rfl | refine AGCall.mkA _ _ (fun hg => slEqual.ret _ _ ?_) rfl ?_)
    | refine AV.bool_congr ?_
  · omega
  · obtain ⟨r, l⟩ := f; obtain ⟨r', l'⟩ := g
    rw [Bool.eq_iff_iff]; simp
end Go.Proofs.YtoindmahilbalaaGreat
namespace Go.Proofs.YtoindmahilbalaaGreat
open Abs
def sHoldsCond.code : ACode := (q_ (r_ [s 3 (.box (t 0)), s 6 (.mv (.const (.bool false)))]) (q_ (.seq (r_ [s 7 (a_ 5 3), s 8 (.call 83 [(t 7)]), s 9 (.not (t 8)), v_ 10 9, g 10 false 11 (.mv (t 1)), g 10 false 12 (.call 161 [(t 11)]), g 10 false 13 (.not (t 12)), s 14 (.or (t 10) (t 13))]) (.cond (t 14) (q_ (r_ [s 6 (.mv (.const (.bool false)))]) .ret) .skip)) (q_ (.seq (r_ [s 15 (f_ 0 3), s 16 (l_ 15)]) (.block 0 (q_ (r_ [s 18 (.bin .eql (t 16) (i_ 1)), v_ 17 18]) (.cond (t 17) (q_ (r_ [s 19 (f_ 1 3), s 20 (a_ 2 19), v_ 21 1, v_ 22 2, s 23 (.call 162 [(t 20), (t 21), (t 22)]), s 24 (.len false (t 23)), s 25 (.bin .gtr (t 24) (i_ 0)), v_ 6 25]) .ret) (q_ (r_ [s 27 (.bin .eql (t 16) (i_ 2)), v_ 26 27]) (.cond (t 26) (q_ (r_ [s 28 (f_ 1 3), s 29 (a_ 2 28), v_ 30 1, v_ 31 2, s 32 (.call 162 [(t 29), (t 30), (t 31)]), s 33 (.len false (t 32)), s 34 (.bin .eql (t 33) (i_ 0)), v_ 6 34]) .ret) .skip)))))) (q_ (r_ [s 35 (a_ 5 3), v_ 36 1, s 37 (.call 163 [(t 35), (t 36)]), v_ 6 37]) .ret))))
theorem sHoldsCond.ir : IrAt Tryz.prog 127 sHoldsCond.code [0, 1, 2, 3, 6, 16] [.tmp 6] Tryz.f127.ntmps := ir_ Tryz.func127
abbrev sHoldsCond.Ret (args : List AV) (r : AV) (frs : Fr) : Prop := Abs.Ret true Tryz.prog 127 args r frs
def pHoldsCond.code : ACode := (q_ (r_ [s 3 (.box (t 0)), s 6 (.mv (.const (.bool false)))]) (q_ (.seq (r_ [s 7 (a_ 5 3), s 8 (.call 136 [(t 7)]), s 9 (.not (t 8)), v_ 10 9, g 10 false 11 (.mv (t 1)), g 10 false 12 (.call 185 [(t 11)]), g 10 false 13 (.not (t 12)), s 14 (.or (t 10) (t 13))]) (.cond (t 14) (q_ (r_ [s 6 (.mv (.const (.bool false)))]) .ret) .skip)) (q_ (.seq (r_ [s 15 (f_ 0 3), s 16 (l_ 15)]) (.block 0 (q_ (r_ [s 18 (.bin .eql (t 16) (i_ 1)), v_ 17 18]) (.cond (t 17) (q_ (r_ [s 19 (f_ 1 3), s 20 (a_ 2 19), v_ 21 1, v_ 22 2, s 23 (.call 186 [(t 20), (t 21), (t 22)]), s 24 (.len false (t 23)), s 25 (.bin .gtr (t 24) (i_ 0)), v_ 6 25]) .ret) (q_ (r_ [s 27 (.bin .eql (t 16) (i_ 2)), v_ 26 27]) (.cond (t 26) (q_ (r_ [s 28 (f_ 1 3), s 29 (a_ 2 28), v_ 30 1, v_ 31 2, s 32 (.call 186 [(t 29), (t 30), (t 31)]), s 33 (.len false (t 32)), s 34 (.bin .eql (t 33) (i_ 0)), v_ 6 34]) .ret) .skip)))))) (q_ (r_ [s 35 (a_ 5 3), v_ 36 1, s 37 (.call 187 [(t 35), (t 36)]), v_ 6 37]) .ret))))
theorem pHoldsCond.ir : IrAt Tryz.prog 150 pHoldsCond.code [0, 1, 2, 3, 6, 16] [.tmp 6] Tryz.f150.ntmps := ir_ Tryz.func150
abbrev pHoldsCond.RetN (args : List AV) (r : AV) (frs : Fr) : Prop := Abs.Ret false Tryz.prog 150 args r frs
def sIsCond.code : ACode := (q_ (r_ [s 1 (.box (t 0)), s 2 (.mv (.const (.bool false)))]) (q_ (.seq (r_ [s 3 (f_ 0 1), s 4 (l_ 3)]) (.block 0 (q_ (.seq (r_ [s 6 (.bin .eql (t 4) (i_ 1)), v_ 5 6]) (.cond (t 5) .skip (r_ [s 7 (.bin .eql (t 4) (i_ 2)), v_ 5 7]))) (.cond (t 5) (q_ (r_ [s 8 (f_ 1 1), s 9 (a_ 2 8), s 10 (.call 122 [(t 9)]), v_ 11 10, g 11 true 12 (f_ 3 1), g 11 true 13 (l_ 12), g 11 true 14 (.bin .eql (t 13) (.const (.string (.mk #[])))), s 15 (.and (t 11) (t 14)), v_ 16 15, g 16 true 17 (f_ 4 1), g 16 true 18 (l_ 17), g 16 true 19 (.bin .eql (t 18) (.const (.string (.mk #[])))), s 20 (.and (t 16) (t 19)), v_ 2 20]) .ret) (q_ (.seq (r_ [s 22 (.bin .eql (t 4) (i_ 3)), v_ 21 22]) (.cond (t 21) .skip (q_ (r_ [s 23 (.bin .eql (t 4) (i_ 4)), v_ 21 23]) (.cond (t 21) .skip (r_ [s 24 (.bin .eql (t 4) (i_ 5)), v_ 21 24]))))) (.cond (t 21) (q_ (r_ [s 25 (f_ 1 1), s 26 (f_ 0 25), s 27 (l_ 26), s 28 (.bin .eql (t 27) (.const (.string (.mk #[])))), v_ 29 28, g 29 true 30 (f_ 1 1), g 29 true 31 (f_ 1 30), g 29 true 32 (l_ 31), g 29 true 33 (.len false (t 32)), g 29 true 34 (.bin .eql (t 33) (i_ 0)), s 35 (.and (t 29) (t 34)), v_ 36 35, g 36 true 37 (f_ 3 1), g 36 true 38 (l_ 37), g 36 true 39 (.call 123 [(t 38)]), s 40 (.and (t 36) (t 39)), v_ 41 40, g 41 true 42 (f_ 4 1), g 41 true 43 (l_ 42), g 41 true 44 (.call 123 [(t 43)]), s 45 (.and (t 41) (t 44)), v_ 2 45]) .ret) .skip)))))) (q_ (r_ [s 2 (.mv (.const (.bool false)))]) .ret)))
theorem sIsCond.ir : IrAt Tryz.prog 83 sIsCond.code [0, 1, 2, 4, 5, 21] [.tmp 2] Tryz.f83.ntmps := ir_ Tryz.func83
abbrev sIsCond.Ret (args : List AV) (r : AV) (frs : Fr) : Prop := Abs.Ret true Tryz.prog 83 args r frs
def pIsCond.code : ACode := (q_ (r_ [s 1 (.box (t 0)), s 2 (.mv (.const (.bool false)))]) (q_ (.seq (r_ [s 3 (f_ 0 1), s 4 (l_ 3)]) (.block 0 (q_ (.seq (r_ [s 6 (.bin .eql (t 4) (i_ 1)), v_ 5 6]) (.cond (t 5) .skip (r_ [s 7 (.bin .eql (t 4) (i_ 2)), v_ 5 7]))) (.cond (t 5) (q_ (r_ [s 8 (f_ 1 1), s 9 (a_ 2 8), s 10 (.call 168 [(t 9)]), v_ 11 10, g 11 true 12 (f_ 3 1), g 11 true 13 (l_ 12), g 11 true 14 (.bin .eql (t 13) (.const (.string (.mk #[])))), s 15 (.and (t 11) (t 14)), v_ 16 15, g 16 true 17 (f_ 4 1), g 16 true 18 (l_ 17), g 16 true 19 (.bin .eql (t 18) (.const (.string (.mk #[])))), s 20 (.and (t 16) (t 19)), v_ 2 20]) .ret) .skip)))) (q_ (r_ [s 21 (a_ 5 1), s 22 (.call 169 [(t 21)]), v_ 2 22]) .ret)))
theorem pIsCond.ir : IrAt Tryz.prog 136 pIsCond.code [0, 1, 2, 4, 5] [.tmp 2] Tryz.f136.ntmps := ir_ Tryz.func136
abbrev pIsCond.Ret (args : List AV) (r : AV) (frs : Fr) : Prop := Abs.Ret true Tryz.prog 136 args r frs
def sIsTest.code : ACode := (q_ (r_ [s 1 (.box (t 0)), s 2 (.mv (.const (.bool false)))]) (q_ (r_ [s 3 (a_ 5 1), s 4 (.call 83 [(t 3)]), v_ 5 4, g 5 true 6 (f_ 0 1), g 5 true 7 (l_ 6), g 5 true 8 (.bin .geq (t 7) (i_ 3)), s 9 (.and (t 5) (t 8)), v_ 2 9]) .ret))
theorem sIsTest.ir : IrAt Tryz.prog 86 sIsTest.code [0, 1, 2] [.tmp 2] Tryz.f86.ntmps := ir_ Tryz.func86
abbrev sIsTest.Ret (args : List AV) (r : AV) (frs : Fr) : Prop := Abs.Ret true Tryz.prog 86 args r frs
def pIsTest.code : ACode := (q_ (r_ [s 1 (.box (t 0)), s 2 (.mv (.const (.bool false)))]) (q_ (r_ [s 6 (f_ 0 1), s 7 (l_ 6), s 8 (.call 198 [(t 7)]), v_ 5 8, s 9 (.extract (t 5) 0), s 10 (.extract (t 5) 1), s 3 (.alloc [(.int .i64 (.ofNat 0)), (.string (.mk (.mk []))), .nilFunc]), ⟨none, none, (.store 3 (t 3) (t 9))⟩, v_ 4 10]) (q_ (r_ [v_ 11 4, v_ 12 11, g 12 true 13 (f_ 3 1), g 12 true 14 (l_ 13), g 12 true 15 (.call 197 [(t 14)]), s 16 (.and (t 12) (t 15)), v_ 17 16, g 17 true 18 (f_ 4 1), g 17 true 19 (l_ 18), g 17 true 20 (.call 197 [(t 19)]), s 21 (.and (t 17) (t 20)), v_ 22 21, g 22 true 23 (f_ 1 1), g 22 true 24 (a_ 2 23), g 22 true 25 (.build [(.string (.mk (.mk []))), (.slice none 0 0)] [] []), g 22 true 26 (.call 170 [(t 24), (t 25)]), s 27 (.and (t 22) (t 26)), v_ 2 27]) .ret)))
theorem pIsTest.ir : IrAt Tryz.prog 169 pIsTest.code [0, 1, 2, 4] [.tmp 2] Tryz.f169.ntmps := ir_ Tryz.func169
abbrev pIsTest.Ret (args : List AV) (r : AV) (frs : Fr) : Prop := Abs.Ret true Tryz.prog 169 args r frs
def sCondVars.code : ACode := (q_ (r_ [s 1 (.box (t 0)), s 2 (.mv (.const (.slice none 0 0)))]) (q_ (r_ [s 4 (f_ 1 1), s 5 (a_ 2 4), s 6 (.call 89 [(t 5)]), v_ 3 6]) (q_ (.seq (r_ [s 7 (f_ 3 1), s 8 (l_ 7), s 9 (.call 124 [(t 8)])]) (.cond (t 9) (r_ [v_ 10 3, s 11 (f_ 3 1), s 12 (l_ 11), s 13 (.call 121 [(t 10), (t 12)]), v_ 3 13]) .skip)) (q_ (.seq (r_ [s 14 (f_ 4 1), s 15 (l_ 14), s 16 (.call 124 [(t 15)])]) (.cond (t 16) (r_ [v_ 17 3, s 18 (f_ 4 1), s 19 (l_ 18), s 20 (.call 121 [(t 17), (t 19)]), v_ 3 20]) .skip)) (q_ (r_ [v_ 21 3, v_ 2 21]) .ret)))))
theorem sCondVars.ir : IrAt Tryz.prog 84 sCondVars.code [0, 1, 2, 3] [.tmp 2] Tryz.f84.ntmps := ir_ Tryz.func84
abbrev sCondVars.Own (args : List AV) (x : Tr) : Prop := Abs.Own true Tryz.prog 84 args x
def pCondVars.code : ACode := (q_ (r_ [s 1 (.box (t 0)), s 2 (.mv (.const (.slice none 0 0)))]) (q_ (r_ [s 3 (f_ 1 1), s 4 (f_ 1 3), s 5 (l_ 4), s 6 (f_ 3 1), s 7 (l_ 6), s 8 (f_ 4 1), s 9 (l_ 8), s 10 (.bslice 9 1 true [(t 7), (t 9)]), s 11 (.bslice 77 1 true [(t 5), (t 10)]), s 12 (.call 178 [(t 11)]), s 13 (.call 177 [(t 12)]), v_ 2 13]) .ret))
theorem pCondVars.ir : IrAt Tryz.prog 144 pCondVars.code [0, 1, 2] [.tmp 2] Tryz.f144.ntmps := ir_ Tryz.func144
abbrev pCondVars.Own (args : List AV) (x : Tr) : Prop := Abs.Own true Tryz.prog 144 args x
abbrev pCondVars.Ret (args : List AV) (r : AV) (frs : Fr) : Prop := Abs.Ret true Tryz.prog 144 args r frs
def sHoldsTest.code : ACode := (q_ (r_ [s 2 (.box (t 0)), s 4 (.mv (.const (.bool false)))]) (q_ (.seq (r_ [s 9 (a_ 5 2), s 10 (.call 86 [(t 9)]), s 11 (.not (t 10)), v_ 12 11, g 12 false 13 (.mv (t 1)), g 12 false 14 (.call 161 [(t 13)]), g 12 false 15 (.not (t 14)), s 16 (.or (t 12) (t 15))]) (.cond (t 16) (q_ (r_ [s 4 (.mv (.const (.bool false)))]) .ret) .skip)) (q_ (r_ [v_ 18 1, s 19 (f_ 3 2), s 20 (l_ 19), s 21 (.call 194 [(t 18), (t 20)]), v_ 17 21, s 22 (.extract (t 17) 0), s 23 (.extract (t 17) 1), v_ 5 22, v_ 6 23]) (q_ (r_ [v_ 25 1, s 26 (f_ 4 2), s 27 (l_ 26), s 28 (.call 194 [(t 25), (t 27)]), v_ 24 28, s 29 (.extract (t 24) 0), s 30 (.extract (t 24) 1), v_ 7 29, v_ 8 30]) (q_ (.seq (r_ [v_ 31 6, s 32 (.not (t 31)), v_ 33 32, g 33 false 34 (.mv (t 8)), g 33 false 35 (.not (t 34)), s 36 (.or (t 33) (t 35))]) (.cond (t 36) (q_ (r_ [s 4 (.mv (.const (.bool false)))]) .ret) .skip)) (q_ (.seq (r_ [s 37 (f_ 0 2), s 38 (l_ 37)]) (.block 0 (q_ (r_ [s 40 (.bin .eql (t 38) (i_ 3)), v_ 39 40]) (.cond (t 39) (q_ (r_ [v_ 41 5, v_ 42 7, s 43 (.bin .eql (t 41) (t 42)), v_ 4 43]) .ret) (q_ (r_ [s 45 (.bin .eql (t 38) (i_ 4)), v_ 44 45]) (.cond (t 44) (q_ (r_ [v_ 46 5, v_ 47 7, s 48 (.bin .neq (t 46) (t 47)), v_ 4 48]) .ret) .skip)))))) (q_ (r_ [v_ 49 5, s 50 (.call 195 [(t 49)]), v_ 51 50, g 51 true 52 (.mv (t 7)), g 51 true 53 (.call 195 [(t 52)]), s 54 (.and (t 51) (t 53)), v_ 55 54, g 55 true 56 (.mv (t 5)), g 55 true 57 (.mv (t 7)), g 55 true 58 (.call 126 [(t 56), (t 57)]), g 55 true 59 (.bin .lss (t 58) (i_ 0)), s 60 (.and (t 55) (t 59)), v_ 4 60]) .ret)))))))
theorem sHoldsTest.ir : IrAt Tryz.prog 163 sHoldsTest.code [0, 1, 2, 4, 5, 6, 7, 8, 38] [.tmp 4] Tryz.f163.ntmps := ir_ Tryz.func163
abbrev sHoldsTest.Ret (args : List AV) (r : AV) (frs : Fr) : Prop := Abs.Ret true Tryz.prog 163 args r frs
def pHoldsTest.code : ACode := (q_ (r_ [s 2 (.box (t 0)), s 4 (.mv (.const (.bool false)))]) (q_ (.seq (r_ [s 11 (a_ 5 2), s 12 (.call 169 [(t 11)]), s 13 (.not (t 12)), v_ 14 13, g 14 false 15 (.mv (t 1)), g 14 false 16 (.call 185 [(t 15)]), g 14 false 17 (.not (t 16)), s 18 (.or (t 14) (t 17))]) (.cond (t 18) (q_ (r_ [s 4 (.mv (.const (.bool false)))]) .ret) .skip)) (q_ (r_ [v_ 20 1, s 21 (f_ 3 2), s 22 (l_ 21), s 23 (.call 206 [(t 20), (t 22)]), v_ 19 23, s 24 (.extract (t 19) 0), s 25 (.extract (t 19) 1), v_ 5 24, v_ 6 25]) (q_ (r_ [v_ 27 1, s 28 (f_ 4 2), s 29 (l_ 28), s 30 (.call 206 [(t 27), (t 29)]), v_ 26 30, s 31 (.extract (t 26) 0), s 32 (.extract (t 26) 1), v_ 7 31, v_ 8 32]) (q_ (.seq (r_ [v_ 33 6, s 34 (.not (t 33)), v_ 35 34, g 35 false 36 (.mv (t 8)), g 35 false 37 (.not (t 36)), s 38 (.or (t 35) (t 37))]) (.cond (t 38) (q_ (r_ [s 4 (.mv (.const (.bool false)))]) .ret) .skip)) (q_ (r_ [s 40 (f_ 0 2), s 41 (l_ 40), s 42 (.call 198 [(t 41)]), v_ 39 42, s 43 (.extract (t 39) 0), s 44 (.extract (t 39) 1), s 9 (.alloc [(.int .i64 (.ofNat 0)), (.string (.mk (.mk []))), .nilFunc]), ⟨none, none, (.store 3 (t 9) (t 43))⟩, v_ 10 44]) (q_ (r_ [s 45 (f_ 2 9), s 46 (l_ 45), v_ 47 5, v_ 48 7, s 49 (.callv (t 46) [(t 47), (t 48)]), v_ 4 49]) .ret)))))))
theorem pHoldsTest.ir : IrAt Tryz.prog 187 pHoldsTest.code [0, 1, 2, 4, 5, 6, 7, 8, 9] [.tmp 4] Tryz.f187.ntmps := ir_ Tryz.func187
abbrev pHoldsTest.Ret (args : List AV) (r : AV) (frs : Fr) : Prop := Abs.Ret true Tryz.prog 187 args r frs
def sMatchingFacts.code : ACode := (q_ (r_ [s 3 (.box (t 0)), s 6 (.mv (.const (.slice none 0 0)))]) (q_ (r_ [s 11 (.bslice 86 2 true []), v_ 7 11]) (q_ (.seq (r_ [s 8 (.mv (i_ 0))]) (.block 0 (.loop (q_ (.seq (r_ [v_ 12 8, v_ 13 2, s 14 (.len false (t 13)), s 15 (.bin .lss (t 12) (t 14))]) (.cond (t 15) .skip (.exit 0))) (q_ (.block 1 (q_ (.held [s 19 (a_ 2 3), v_ 20 2, v_ 21 8, s 22 (.iadr 2 (t 20) (t 21)), s 23 (a_ 2 22), v_ 24 1, s 25 (.call 129 [(t 19), (t 23), (t 24)]), v_ 18 25, s 26 (.extract (t 18) 0), s 27 (.extract (t 18) 1), v_ 9 26] [v_ 10 27]) (q_ (r_ [v_ 28 10]) (.cond (t 28) (r_ [v_ 29 7, v_ 30 2, v_ 31 8, s 32 (.iadr 2 (t 30) (t 31)), s 33 (a_ 2 32), s 34 (.call 131 [(t 33)]), s 35 (.bslice 86 2 false [(t 34)]), s 36 (.append 86 2 40 (t 29) (t 35)), v_ 7 36]) .skip)))) (r_ [v_ 16 8, s 17 (.bin .add (t 16) (i_ 1)), v_ 8 17])))))) (q_ (r_ [v_ 37 7, v_ 6 37]) .ret))))
theorem sMatchingFacts.ir : IrAt Tryz.prog 162 sMatchingFacts.code [0, 1, 2, 3, 6, 7, 8, 10] [.tmp 6] Tryz.f162.ntmps := ir_ Tryz.func162
abbrev sMatchingFacts.Own (args : List AV) (x : Tr) : Prop := Abs.Own true Tryz.prog 162 args x
abbrev sMatchingFacts.Ret (args : List AV) (r : AV) (frs : Fr) : Prop := Abs.Ret true Tryz.prog 162 args r frs
def pMatchingFacts.code : ACode := (q_ (r_ [s 3 (.box (t 0)), s 6 (.mv (.const (.slice none 0 0)))]) (q_ (r_ [s 12 (.bslice 86 2 true []), v_ 7 12]) (q_ (.seq (r_ [v_ 13 2, s 14 (.len false (t 13)), s 15 (.mv (i_ 0))]) (.block 0 (.loop (q_ (r_ [s 16 (.bin .lss (t 15) (t 14))]) (q_ (.cond (t 16) .skip (.exit 0)) (q_ (.block 1 (q_ (r_ [s 17 (.iadr 2 (t 13) (t 15)), s 18 (a_ 2 17), s 9 (.alloc [(.string (.mk (.mk []))), (.slice none 0 0)]), ⟨none, none, (.store 2 (t 9) (t 18))⟩]) (q_ (r_ [s 20 (a_ 2 3), s 21 (a_ 2 9), v_ 22 1, s 23 (.call 151 [(t 20), (t 21), (t 22)]), v_ 19 23, s 24 (.extract (t 19) 0), s 25 (.extract (t 19) 1), v_ 10 24, v_ 11 25]) (q_ (r_ [v_ 26 11]) (.cond (t 26) (r_ [v_ 27 7, s 28 (a_ 2 9), s 29 (.call 153 [(t 28)]), s 30 (.bslice 86 2 false [(t 29)]), s 31 (.append 86 2 40 (t 27) (t 30)), v_ 7 31]) .skip))))) (r_ [s 32 (.bin .add (t 15) (i_ 1)), v_ 15 32]))))))) (q_ (r_ [v_ 33 7, v_ 6 33]) .ret))))
theorem pMatchingFacts.ir : IrAt Tryz.prog 186 pMatchingFacts.code [0, 1, 2, 3, 6, 7, 9, 11, 13, 14, 15, 16] [.tmp 6] Tryz.f186.ntmps := ir_ Tryz.func186
abbrev pMatchingFacts.OwnN (args : List AV) (x : Tr) : Prop := Abs.Own false Tryz.prog 186 args x
abbrev pMatchingFacts.RetN (args : List AV) (r : AV) (frs : Fr) : Prop := Abs.Ret false Tryz.prog 186 args r frs
def pcomparisons.code : ACode := (q_ (r_ [s 0 (.mv (.const (.slice none 0 0)))]) (q_ (r_ [s 1 (.build [(.int .i64 (.ofNat 0)), (.string (.mk (.mk []))), .nilFunc] [(0, 1), (1, 1), (2, 1)] [(i_ 3), (.const (.string (.mk #[61]))), (.func 224)]), s 2 (.build [(.int .i64 (.ofNat 0)), (.string (.mk (.mk []))), .nilFunc] [(0, 1), (1, 1), (2, 1)] [(i_ 4), (.const (.string (.mk #[33, 61]))), (.func 225)]), s 3 (.build [(.int .i64 (.ofNat 0)), (.string (.mk (.mk []))), .nilFunc] [(0, 1), (1, 1), (2, 1)] [(i_ 5), (.const (.string (.mk #[60]))), (.func 226)]), s 4 (.bslice 189 3 true [(t 1), (t 2), (t 3)]), v_ 0 4]) .ret))
theorem pcomparisons.ir : IrAt Tryz.prog 209 pcomparisons.code [0] [.tmp 0] Tryz.f209.ntmps := ir_ Tryz.func209
abbrev pcomparisons.Ret (args : List AV) (r : AV) (frs : Fr) : Prop := Abs.Ret true Tryz.prog 209 args r frs
def pcomparisonOf.code : ACode := (q_ (r_ [s 2 (.alloc [(.int .i64 (.ofNat 0)), (.string (.mk (.mk []))), .nilFunc]), s 3 (.mv (.const (.bool false)))]) (q_ (.seq (r_ [s 6 (.call 209 []), s 7 (.len false (t 6)), s 8 (.mv (i_ 0))]) (.block 0 (.loop (q_ (r_ [s 9 (.bin .lss (t 8) (t 7))]) (q_ (.cond (t 9) .skip (.exit 0)) (q_ (.block 1 (q_ (r_ [s 10 (.iadr 3 (t 6) (t 8)), s 11 (a_ 3 10), s 5 (.alloc [(.int .i64 (.ofNat 0)), (.string (.mk (.mk []))), .nilFunc]), ⟨none, none, (.store 3 (t 5) (t 11))⟩]) (q_ (r_ [s 12 (f_ 0 5), s 13 (l_ 12), v_ 14 0, s 15 (.bin .eql (t 13) (t 14))]) (.cond (t 15) (q_ (r_ [s 16 (a_ 3 5), ⟨none, none, (.store 3 (t 2) (t 16))⟩, s 3 (.mv (.const (.bool true)))]) .ret) .skip)))) (r_ [s 17 (.bin .add (t 8) (i_ 1)), v_ 8 17]))))))) (q_ (r_ [s 18 (.build [(.int .i64 (.ofNat 0)), (.string (.mk (.mk []))), .nilFunc] [] []), ⟨none, none, (.store 3 (t 2) (t 18))⟩, s 3 (.mv (.const (.bool false)))]) .ret)))
theorem pcomparisonOf.ir : IrAt Tryz.prog 198 pcomparisonOf.code [0, 2, 3, 5, 6, 7, 8, 9] [.cell 2 true 3, .tmp 3] Tryz.f198.ntmps := ir_ Tryz.func198
abbrev pcomparisonOf.Ret (args : List AV) (r : AV) (frs : Fr) : Prop := Abs.Ret true Tryz.prog 198 args r frs
def pcmp1.code : ACode := (q_ (r_ [s 4 (.mv (.const (.bool false)))]) (q_ (r_ [v_ 5 0, v_ 6 1, s 7 (.bin .eql (t 5) (t 6)), v_ 4 7]) .ret))
theorem pcmp1.ir : IrAt Tryz.prog 224 pcmp1.code [0, 1, 4] [.tmp 4] Tryz.f224.ntmps := ir_ Tryz.func224
abbrev pcmp1.Ret (args : List AV) (r : AV) (frs : Fr) : Prop := Abs.Ret true Tryz.prog 224 args r frs
def pcmp2.code : ACode := (q_ (r_ [s 4 (.mv (.const (.bool false)))]) (q_ (r_ [v_ 5 0, v_ 6 1, s 7 (.bin .neq (t 5) (t 6)), v_ 4 7]) .ret))
theorem pcmp2.ir : IrAt Tryz.prog 225 pcmp2.code [0, 1, 4] [.tmp 4] Tryz.f225.ntmps := ir_ Tryz.func225
abbrev pcmp2.Ret (args : List AV) (r : AV) (frs : Fr) : Prop := Abs.Ret true Tryz.prog 225 args r frs
def pisLessNumber.code : ACode := (q_ (r_ [s 4 (.mv (.const (.bool false)))]) (q_ (r_ [v_ 10 0, s 11 (.call 183 [(t 10)]), v_ 9 11, s 12 (.extract (t 9) 0), s 13 (.extract (t 9) 1), v_ 5 12, v_ 6 13]) (q_ (r_ [v_ 15 1, s 16 (.call 183 [(t 15)]), v_ 14 16, s 17 (.extract (t 14) 0), s 18 (.extract (t 14) 1), v_ 7 17, v_ 8 18]) (q_ (r_ [v_ 19 6, v_ 20 19, g 20 true 21 (.mv (t 8)), s 22 (.and (t 20) (t 21)), v_ 23 22, g 23 true 24 (.mv (t 5)), g 23 true 25 (.mv (t 7)), g 23 true 26 (.bin .lss (t 24) (t 25)), s 27 (.and (t 23) (t 26)), v_ 4 27]) .ret))))
theorem pisLessNumber.ir : IrAt Tryz.prog 226 pisLessNumber.code [0, 1, 4, 5, 6, 7, 8] [.tmp 4] Tryz.f226.ntmps := ir_ Tryz.func226
abbrev pisLessNumber.Ret (args : List AV) (r : AV) (frs : Fr) : Prop := Abs.Ret true Tryz.prog 226 args r frs
def pvarsAmong.code : ACode := (q_ (r_ [s 2 (.mv (.const (.slice none 0 0)))]) (q_ (r_ [s 6 (.bslice 9 1 true []), v_ 3 6]) (q_ (.seq (r_ [v_ 7 0, s 8 (.len false (t 7)), s 9 (.mv (i_ 0))]) (.block 0 (.loop (q_ (r_ [s 10 (.bin .lss (t 9) (t 8))]) (q_ (.cond (t 10) .skip (.exit 0)) (q_ (.block 1 (q_ (r_ [s 11 (.iadr 1 (t 7) (t 9)), s 12 (l_ 11), v_ 5 12]) (q_ (r_ [v_ 13 5, s 14 (.call 201 [(t 13)])]) (.cond (t 14) (r_ [v_ 15 3, v_ 16 5, s 17 (.bslice 9 1 false [(t 16)]), s 18 (.append 9 1 16 (t 15) (t 17)), v_ 3 18]) .skip)))) (r_ [s 19 (.bin .add (t 9) (i_ 1)), v_ 9 19]))))))) (q_ (r_ [v_ 20 3, s 21 (.call 145 [(t 20)]), v_ 2 21]) .ret))))
theorem pvarsAmong.ir : IrAt Tryz.prog 177 pvarsAmong.code [0, 2, 3, 5, 7, 8, 9, 10] [.tmp 2] Tryz.f177.ntmps := ir_ Tryz.func177
abbrev pvarsAmong.Ret (args : List AV) (r : AV) (frs : Fr) : Prop := Abs.Ret true Tryz.prog 177 args r frs
def slConcat.code : ACode := (q_ (r_ [s 2 (.mv (.const (.slice none 0 0)))]) (q_ (r_ [s 3 (.mv (i_ 0))]) (q_ (.seq (r_ [v_ 9 0, s 10 (.len false (t 9)), s 11 (.mv (i_ 0))]) (.block 0 (.loop (q_ (r_ [s 12 (.bin .lss (t 11) (t 10))]) (q_ (.cond (t 12) .skip (.exit 0)) (q_ (.block 1 (q_ (r_ [s 13 (.iadr 1 (t 9) (t 11)), s 14 (l_ 13), v_ 5 14]) (q_ (r_ [v_ 15 3, v_ 16 5, s 17 (.len false (t 16)), s 18 (.bin .add (t 15) (t 17)), v_ 3 18]) (q_ (r_ [v_ 19 3, s 20 (.bin .lss (t 19) (i_ 0))]) (.cond (t 20) (r_ [s 21 .other, ⟨none, none, .other⟩]) .skip))))) (r_ [s 22 (.bin .add (t 11) (i_ 1)), v_ 11 22]))))))) (q_ (r_ [v_ 23 3, s 24 (.call 202 [(.const (.slice none 0 0)), (t 23)]), v_ 6 24]) (q_ (.seq (r_ [v_ 25 0, s 26 (.len false (t 25)), s 27 (.mv (i_ 0))]) (.block 2 (.loop (q_ (r_ [s 28 (.bin .lss (t 27) (t 26))]) (q_ (.cond (t 28) .skip (.exit 2)) (q_ (.block 3 (q_ (r_ [s 29 (.iadr 1 (t 25) (t 27)), s 30 (l_ 29), v_ 8 30]) (r_ [v_ 31 6, v_ 32 8, s 33 (.append 9 1 16 (t 31) (t 32)), v_ 6 33]))) (r_ [s 34 (.bin .add (t 27) (i_ 1)), v_ 27 34]))))))) (q_ (r_ [v_ 35 6, v_ 2 35]) .ret))))))
theorem slConcat.ir : IrAt Tryz.prog 178 slConcat.code [0, 2, 3, 5, 6, 8, 9, 10, 11, 12, 25, 26, 27, 28] [.tmp 2] Tryz.f178.ntmps := ir_ Tryz.func178
abbrev slConcat.Ret (args : List AV) (r : AV) (frs : Fr) : Prop := Abs.Ret true Tryz.prog 178 args r frs
abbrev slGrow.Ret (args : List AV) (r : AV) (frs : Fr) : Prop := Abs.Ret true Tryz.prog 202 args r frs
end Go.Proofs.YtoindmahilbalaaGreat
namespace Go.Proofs.YtoindmahilbalaaGreat
open Abs
def testKind (k : Int) : Bool := k == 3 || k == 4 || k == 5
def zeroP (p : VPattern) : Bool := p.1 == [] && (p.2.length : Int) == 0
def isTestF (x : VCond) : Bool := testKind x.1 && (zeroP x.2.1 && termF x.2.2.1 && termF x.2.2.2)
def hasKind (k : Int) : Bool := k == 1 || k == 2
def isCondF (x : VCond) : Bool := if hasKind x.1 then isPatF x.2.1 && x.2.2.1 == [] && x.2.2.2 == [] else isTestF x
theorem tCond_sz (x : VCond) : tCond.size x = x.2.1.1.length + (x.2.1.2.length + listSize Ty.str x.2.1.2) + (x.2.2.1.length + x.2.2.2.length) := by
  have h : tCond.size x = 0 + (tFct.size x.2.1 + (x.2.2.1.length + x.2.2.2.length)) := rfl
  rw [h, tFct_size, tStrs_size]; omega
theorem tCond_pat (x : VCond) : tPattern.size x.2.1 ≤ tCond.size x := by
  have h : tCond.size x = 0 + (tPattern.size x.2.1 + (x.2.2.1.length + x.2.2.2.length)) := rfl
  omega
theorem zero_pat (p : VPattern) : decide (p = ([], [])) = zeroP p := by
  obtain ⟨r, l⟩ := p
  rw [Bool.eq_iff_iff]; simp [zeroP]
theorem cond_has {x : VCond} (h : hasKind x.1 = true) : (isPatF x.2.1 && x.2.2.1 == [] && x.2.2.2 == []) = isCondF x := by rw [isCondF, if_pos h]
theorem cond_test {x : VCond} (h : hasKind x.1 = false) (h' : testKind x.1 = true) : (zeroP x.2.1 && termF x.2.2.1 && termF x.2.2.2) = isCondF x := by
  rw [isCondF, if_neg (by simp [h]), isTestF, h']; simp
theorem cond_no {x : VCond} (h : hasKind x.1 = false) (h' : testKind x.1 = false) : false = isCondF x := by
  rw [isCondF, if_neg (by simp [h]), isTestF, h']; simp
theorem test_ge (x : VCond) : (isCondF x && decide (3 ≤ x.1)) = isTestF x := by
  unfold isCondF
  cases h : hasKind x.1
  · rw [if_neg (by simp)]
    cases h' : testKind x.1
    · unfold isTestF; rw [h']; simp
    · have : 3 ≤ x.1 := by simp only [testKind, Bool.or_eq_true, beq_iff_eq] at h'; omega
      simp [this]
  · simp only [hasKind, Bool.or_eq_true, beq_iff_eq] at h
    have h1 : ¬ 3 ≤ x.1 := by omega
    have h2 : testKind x.1 = false := by
      simp only [testKind, Bool.or_eq_false_iff, beq_eq_false_iff_ne]; omega
    simp [isTestF, h1, h2]
theorem pcomparisons.ret : pcomparisons.Ret [] (.list (some 0) [[.val (.int .i64 3), .str [61], .clo 224 [] []], [.val (.int .i64 4), .str [33, 61], .clo 225 [] []], [.val (.int .i64 5), .str [60], .clo 226 [] []]]) [(189, 3, 3)] := by
  refine pcomparisons.ir.of rfl ?_
  repeat' first
    | (conv => whnf
       first | refine Need.mk rfl ?_ | refine Final.mk rfl rfl)
def cmpRows : List (List AV) := [[.val (.int .i64 3), .str [61], .clo 224 [] []], [.val (.int .i64 4), .str [33, 61], .clo 225 [] []], [.val (.int .i64 5), .str [60], .clo 226 [] []]]
def cmpRow (k : Int) : List AV := if k = 3 then [.val (.int .i64 3), .str [61], .clo 224 [] []] else if k = 4 then [.val (.int .i64 4), .str [33, 61], .clo 225 [] []] else if k = 5 then [.val (.int .i64 5), .str [60], .clo 226 [] []] else [.val (.int .i64 0), .str [], .val .nilFunc]
set_option maxHeartbeats 1000000 in
theorem pcomparisonOf.ret (k : Int) : pcomparisonOf.Ret [.val (.int .i64 k)] (.tup [.agg (cmpRow k), .val (.bool (testKind k))]) [(189, 3, 3)] := by
  refine pcomparisonOf.ir.of rfl ?_
  repeat' first
    | (conv => whnf
       first | refine ACall.mkR _ _ _ (pcomparisons.ret) ?_)
  refine ALoop.mk Nat (fun i => ⟨[(0, .val (.int .i64 k)), (2, .bptr 0 0), (6, .list (some 0) cmpRows), (7, .val (.int .i64 3)), (8, .val (.int .i64 i))], [.cells .var [.val (.int .i64 0), .str [], .val .nilFunc]], [(189, 3, 3)]⟩) (fun i => i ≤ 3 ∧ (0 < i → k ≠ 3) ∧ (1 < i → k ≠ 4) ∧ (2 < i → k ≠ 5)) (fun i => 3 - i) ⟨0, ⟨by omega, by omega, by omega, by omega⟩, ?_⟩ (fun i hi => ?_)
  · repeat' first
      | exact trivial | refine wl_ ?_ ?_ ?_ ?_ | refine And.intro ?_ ?_ | with_reducible rfl | exact ble_ | refine fr1 ?_ | refine AV.int_congr ?_ | refine AV.list_congr ?_ | (apply rfl)
  obtain ⟨hi, h3, h4, h5⟩ := hi
  have hc : i = 0 ∨ i = 1 ∨ i = 2 ∨ i = 3 := by omega
  rcases hc with rfl | rfl | rfl | rfl
  · have hix : (0 : Int) ≤ (0 : Nat) ∧ cmpRows[((0 : Nat) : Int).toNat]? = some [.val (.int .i64 3), .str [61], .clo 224 [] []] ∧ 3 = 3 := ⟨by omega, rfl, rfl⟩
    repeat' first
      | (conv => whnf
         first | refine Need.mk rfl ?_ | refine Need.mk ⟨rfl, Nat.le_of_ble_eq_true rfl⟩ ?_ | refine nb_ ?_ | refine Ix.mk _ (fun _ => hix) ?_ | refine Fork.decYes (by omega) ?_ | refine Fork.dec (fun _ => ?_) (fun _ => ?_) | refine Round.mk ?_ | refine FinVal.keep ?_ | refine FinAgg.keep ?_ | refine Final.mk ?_ rfl)
    · rename_i h; subst h; rfl
    · rename_i h
      refine ⟨1, ⟨by omega, fun _ => by omega, fun _ => by omega, fun _ => by omega⟩, ?_, by omega⟩
      repeat' first
        | exact trivial | refine wr_ ?_ ?_ ?_ ?_ | refine And.intro ?_ ?_ | with_reducible rfl | exact ble_ | refine AV.int_congr ?_ | refine AV.list_congr ?_ | (apply rfl)
  · have hix : (0 : Int) ≤ (1 : Nat) ∧ cmpRows[((1 : Nat) : Int).toNat]? = some [.val (.int .i64 4), .str [33, 61], .clo 225 [] []] ∧ 3 = 3 := ⟨by omega, rfl, rfl⟩
    repeat' first
      | (conv => whnf
         first | refine Need.mk rfl ?_ | refine Need.mk ⟨rfl, Nat.le_of_ble_eq_true rfl⟩ ?_ | refine nb_ ?_ | refine Ix.mk _ (fun _ => hix) ?_ | refine Fork.decYes (by omega) ?_ | refine Fork.dec (fun _ => ?_) (fun _ => ?_) | refine Round.mk ?_ | refine FinVal.keep ?_ | refine FinAgg.keep ?_ | refine Final.mk ?_ rfl)
    · rename_i h; subst h; rfl
    · rename_i h
      refine ⟨2, ⟨by omega, fun _ => by omega, fun _ => by omega, fun _ => by omega⟩, ?_, by omega⟩
      repeat' first
        | exact trivial | refine wr_ ?_ ?_ ?_ ?_ | refine And.intro ?_ ?_ | with_reducible rfl | exact ble_ | refine AV.int_congr ?_ | refine AV.list_congr ?_ | (apply rfl)
  · have hix : (0 : Int) ≤ (2 : Nat) ∧ cmpRows[((2 : Nat) : Int).toNat]? = some [.val (.int .i64 5), .str [60], .clo 226 [] []] ∧ 3 = 3 := ⟨by omega, rfl, rfl⟩
    repeat' first
      | (conv => whnf
         first | refine Need.mk rfl ?_ | refine Need.mk ⟨rfl, Nat.le_of_ble_eq_true rfl⟩ ?_ | refine nb_ ?_ | refine Ix.mk _ (fun _ => hix) ?_ | refine Fork.decYes (by omega) ?_ | refine Fork.dec (fun _ => ?_) (fun _ => ?_) | refine Round.mk ?_ | refine FinVal.keep ?_ | refine FinAgg.keep ?_ | refine Final.mk ?_ rfl)
    · rename_i h; subst h; rfl
    · rename_i h
      refine ⟨3, ⟨by omega, fun _ => by omega, fun _ => by omega, fun _ => by omega⟩, ?_, by omega⟩
      repeat' first
        | exact trivial | refine wr_ ?_ ?_ ?_ ?_ | refine And.intro ?_ ?_ | with_reducible rfl | exact ble_ | refine AV.int_congr ?_ | refine AV.list_congr ?_ | (apply rfl)
  · have h3 := h3 (by omega)
    have h4 := h4 (by omega)
    have h5 := h5 (by omega)
    have e1 : cmpRow k = [.val (.int .i64 0), .str [], .val .nilFunc] := by rw [cmpRow, if_neg h3, if_neg h4, if_neg h5]
    have e2 : testKind k = false := by simp [testKind, h3, h4, h5]
    rw [e1, e2]
    repeat' first
      | (conv => whnf
         first | refine Need.mk rfl ?_ | refine Need.mk ⟨rfl, Nat.le_of_ble_eq_true rfl⟩ ?_ | refine nb_ ?_ | refine Fork.decNo (by omega) ?_ | refine FinVal.keep ?_ | refine FinAgg.keep ?_ | refine Final.mk rfl rfl)
theorem cmp3 : pcomparisonOf.Ret [.val (.int .i64 3)] (.tup [.agg [.val (.int .i64 3), .str [61], .clo 224 [] []], .val (.bool true)]) [(189, 3, 3)] := pcomparisonOf.ret 3
theorem cmp4 : pcomparisonOf.Ret [.val (.int .i64 4)] (.tup [.agg [.val (.int .i64 4), .str [33, 61], .clo 225 [] []], .val (.bool true)]) [(189, 3, 3)] := pcomparisonOf.ret 4
theorem cmp5 : pcomparisonOf.Ret [.val (.int .i64 5)] (.tup [.agg [.val (.int .i64 5), .str [60], .clo 226 [] []], .val (.bool true)]) [(189, 3, 3)] := pcomparisonOf.ret 5
theorem cmpNo {k : Int} (h : testKind k = false) : pcomparisonOf.Ret [.val (.int .i64 k)] (.tup [.agg [.val (.int .i64 0), .str [], .val .nilFunc], .val (.bool false)]) [(189, 3, 3)] := by
  have h' := pcomparisonOf.ret k
  have h3 : k ≠ 3 := by rintro rfl; cases h
  have h4 : k ≠ 4 := by rintro rfl; cases h
  have h5 : k ≠ 5 := by rintro rfl; cases h
  have e1 : cmpRow k = [.val (.int .i64 0), .str [], .val .nilFunc] := by rw [cmpRow, if_neg h3, if_neg h4, if_neg h5]
  rwa [h, e1] at h'
theorem sIsCond.ret (x : VCond) (h : tCond.size x ≤ 1048576) : sIsCond.Ret [.agg (oldL (tCond.q x))] (.val (.bool (isCondF x))) [] := by
  refine sIsCond.ir.of rfl ?_
  have hp := tCond_pat x
  have hz := tCond_sz x
  repeat' first
    | (conv => whnf
       first | refine Need.mk (fun h => h) ?_ | refine Need.mk rfl ?_ | refine nb_ ?_ | refine Fork.decYes (by omega) ?_ | refine Fork.dec (fun _ => ?_) (fun _ => ?_) | refine FinVal.keep ?_ | refine Final.mk ?_ rfl | refine ACall.scalA _ _ (sIsPattern.ret _ ?_) rfl ?_ | refine AGCall.mkA _ _ (fun hg => sIsTerm.ret _ ?_) rfl ?_)
    | refine AV.bool_congr ?_
  all_goals first
    | omega
    | (refine (cond_has ?_) ; simp [hasKind, *]; done)
    | (rw [length_oldLL, List.length_map]; refine (cond_test ?_ ?_) <;> (simp [hasKind, testKind, *]; done))
    | (refine (cond_no ?_ ?_) <;> (simp [hasKind, testKind, *]; done))
theorem sIsTest.ret (x : VCond) (h : tCond.size x ≤ 1048576) : sIsTest.Ret [.agg (oldL (tCond.q x))] (.val (.bool (isTestF x))) [] := by
  refine sIsTest.ir.of rfl ?_
  repeat' first
    | (conv => whnf
       first | refine Need.mk (fun h => h) ?_ | refine Need.mk rfl ?_ | refine nb_ ?_ | refine FinVal.keep ?_ | refine Final.mk ?_ rfl | refine ACall.scalA _ _ (sIsCond.ret _ ?_) rfl ?_)
    | refine AV.bool_congr ?_
  · exact h
  · exact test_ge x
theorem pzero.ret (p : VPattern) (h : tPattern.size p ≤ 1048576) : pSamePattern.Ret [.agg (oldL (tPattern.q p)), .agg [.str [], .list none []]] (.val (.bool (zeroP p))) [] := by
  have h' := pSamePattern.ret p ([], []) h
  rwa [zero_pat] at h'
theorem test_eq {k : Int} {p : VPattern} {l r : Str} (h : testKind k = true) : (termF l && termF r && zeroP p) = isTestF (k, p, l, r) := by
  simp only [isTestF, h]
  cases zeroP p <;> cases termF l <;> cases termF r <;> rfl
theorem test_no {k : Int} {p : VPattern} {l r : Str} (h : testKind k = false) : false = isTestF (k, p, l, r) := by simp [isTestF, h]
theorem pIsTest.ret (x : VCond) (h : tCond.size x ≤ 1048576) : pIsTest.Ret [.agg (oldL (tCond.q x))] (.val (.bool (isTestF x))) [] := by
  refine pIsTest.ir.ofS rfl rfl ?_
  have hp := tCond_pat x
  have hz := tCond_sz x
  obtain ⟨k, p, l, r⟩ := x
  simp only at hp hz
  have hl : l.length ≤ 1048576 := by omega
  have hr : r.length ≤ 1048576 := by omega
  have hzp := pzero.ret p (by omega)
  by_cases h3 : k = 3
  · subst h3
    repeat' first
      | (conv => whnf
         first | refine Need.mk (fun h => h) ?_ | refine Need.mk rfl ?_ | refine Need.mk ⟨rfl, Nat.le_of_ble_eq_true rfl⟩ ?_ | refine nb_ ?_ | refine FinVal.keep ?_ | refine Final.mk ?_ rfl | refine ACall.mkR _ _ _ (cmp3) ?_ | refine AGCall.mkA _ _ (fun hg => pIsTerm.ret _ ?_) rfl ?_ | refine AGCall.mkA _ _ (fun hg => hzp) rfl ?_)
      | refine AV.bool_congr ?_
    all_goals first
      | assumption
      | exact test_eq rfl
  by_cases h4 : k = 4
  · subst h4
    repeat' first
      | (conv => whnf
         first | refine Need.mk (fun h => h) ?_ | refine Need.mk rfl ?_ | refine Need.mk ⟨rfl, Nat.le_of_ble_eq_true rfl⟩ ?_ | refine nb_ ?_ | refine FinVal.keep ?_ | refine Final.mk ?_ rfl | refine ACall.mkR _ _ _ (cmp4) ?_ | refine AGCall.mkA _ _ (fun hg => pIsTerm.ret _ ?_) rfl ?_ | refine AGCall.mkA _ _ (fun hg => hzp) rfl ?_)
      | refine AV.bool_congr ?_
    all_goals first
      | assumption
      | exact test_eq rfl
  by_cases h5 : k = 5
  · subst h5
    repeat' first
      | (conv => whnf
         first | refine Need.mk (fun h => h) ?_ | refine Need.mk rfl ?_ | refine Need.mk ⟨rfl, Nat.le_of_ble_eq_true rfl⟩ ?_ | refine nb_ ?_ | refine FinVal.keep ?_ | refine Final.mk ?_ rfl | refine ACall.mkR _ _ _ (cmp5) ?_ | refine AGCall.mkA _ _ (fun hg => pIsTerm.ret _ ?_) rfl ?_ | refine AGCall.mkA _ _ (fun hg => hzp) rfl ?_)
      | refine AV.bool_congr ?_
    all_goals first
      | assumption
      | exact test_eq rfl
  have hk : testKind k = false := by simp [testKind, *]
  have hcn := cmpNo hk
  repeat' first
    | contradiction
    | (conv => whnf
       first | refine Need.mk (fun h => h) ?_ | refine Need.mk rfl ?_ | refine Need.mk ⟨rfl, Nat.le_of_ble_eq_true rfl⟩ ?_ | refine nb_ ?_ | refine FinVal.keep ?_ | refine Final.mk ?_ rfl | refine ACall.mkR _ _ _ (hcn) ?_ | refine AGCall.mkA _ _ (fun hg => pIsTerm.ret _ ?_) rfl ?_ | refine AGCall.mkA _ _ (fun hg => hzp) rfl ?_)
    | refine AV.bool_congr ?_
  all_goals first
    | assumption
    | exact test_no hk
theorem pIsCond.ret (x : VCond) (h : tCond.size x ≤ 1048576) : pIsCond.Ret [.agg (oldL (tCond.q x))] (.val (.bool (isCondF x))) [] := by
  refine pIsCond.ir.ofS rfl rfl ?_
  have hp := tCond_pat x
  have hz := tCond_sz x
  repeat' first
    | (conv => whnf
       first | refine Need.mk (fun h => h) ?_ | refine Need.mk rfl ?_ | refine nb_ ?_ | refine Fork.decYes (by omega) ?_ | refine Fork.dec (fun _ => ?_) (fun _ => ?_) | refine FinVal.keep ?_ | refine Final.mk ?_ rfl | refine ACall.scalA _ _ (pIsPattern.ret _ ?_) rfl ?_ | refine ACall.scalA _ _ (pIsTest.ret _ ?_) rfl ?_)
    | refine AV.bool_congr ?_
  all_goals first
    | omega
    | (refine (cond_has ?_) ; simp [hasKind, *]; done)
    | (rw [isCondF, if_neg]; simp [hasKind, *]; done)
end Go.Proofs.YtoindmahilbalaaGreat
namespace Go.Proofs.YtoindmahilbalaaGreat
open Abs
def lessF (a b : Str) : Bool := (parseF a).2 && (parseF b).2 && decide ((parseF a).1 < (parseF b).1)
theorem less_cmp (a b : Str) : ((parseF a).2 && (parseF b).2 && decide (cmpA a b < 0)) = lessF a b := by
  unfold lessF cmpA
  cases ha : (parseF a).2 <;> cases hb : (parseF b).2 <;> simp
  unfold icmp
  split
  · rename_i h; simp [h]
  · split
    · rename_i h; simp [h]
    · rename_i h _; simp; omega
theorem valF_len (b : List VPair) (t : Str) (h : tPairs.size b ≤ 1048576) (ht : t.length ≤ 1048576) : (valF b t).1.length ≤ 1048576 := by
  rw [tPairs_sz] at h
  unfold valF
  split
  · exact ht
  split
  · cases hl : lookV b t with
    | none => simp
    | some v =>
      have : v.length ≤ listSize tPair b := by
        clear h
        induction b with
        | nil => cases hl
        | cons p b ih =>
          rw [lookV] at hl
          have e : listSize tPair (p :: b) = (p.1.length + p.2.length) + listSize tPair b := rfl
          split at hl
          · cases hl; omega
          · have := ih hl; omega
      simp; omega
  · simp
def opF (k : Int) (a b : Str) : Bool := if k = 3 then a == b else if k = 4 then !(a == b) else lessF a b
def holdsTF (x : VCond) (b : List VPair) : Bool := isTestF x && bindF b && (valF b x.2.2.1).2 && (valF b x.2.2.2).2 && opF x.1 (valF b x.2.2.1).1 (valF b x.2.2.2).1
theorem holds_no1 {x : VCond} {b : List VPair} (h : (!isTestF x || !bindF b) = true) : false = holdsTF x b := by
  unfold holdsTF; revert h; cases isTestF x <;> cases bindF b <;> simp
theorem holds_no2 {x : VCond} {b : List VPair} (h : (!(valF b x.2.2.1).2 || !(valF b x.2.2.2).2) = true) : false = holdsTF x b := by
  unfold holdsTF; revert h; cases (valF b x.2.2.1).2 <;> cases (valF b x.2.2.2).2 <;> simp
theorem holds_at {x : VCond} {b : List VPair} (h : (!isTestF x || !bindF b) = false) (h' : (!(valF b x.2.2.1).2 || !(valF b x.2.2.2).2) = false) : opF x.1 (valF b x.2.2.1).1 (valF b x.2.2.2).1 = holdsTF x b := by
  unfold holdsTF; revert h h'; cases isTestF x <;> cases bindF b <;> cases (valF b x.2.2.1).2 <;> cases (valF b x.2.2.2).2 <;> simp
theorem sHoldsTest.ret (x : VCond) (b : List VPair) (h : tCond.size x ≤ 1048576) (hb : tPairs.size b ≤ 1048576) : sHoldsTest.Ret [.agg (oldL (tCond.q x)), .list none (pairs b)] (.val (.bool (holdsTF x b))) [] := by
  refine sHoldsTest.ir.ofS rfl rfl ?_
  have hz := tCond_sz x
  have hl : x.2.2.1.length ≤ 1048576 := by omega
  have hr : x.2.2.2.length ≤ 1048576 := by omega
  have hvl := valF_len b _ hb hl
  have hvr := valF_len b _ hb hr
  repeat' first
    | (conv => whnf
       first | refine Need.mk (fun h => h) ?_ | refine Need.mk rfl ?_ | refine nb_ ?_ | refine Fork.dec (fun _ => ?_) (fun _ => ?_) | refine Fork.mk (fun _ => ?_) (fun _ => ?_) | refine FinVal.keep ?_ | refine Final.mk ?_ rfl | refine ACall.scalA _ _ (sIsTest.ret _ ?_) rfl ?_ | refine AGCall.mkA _ _ (fun hg => sIsBinding.ret _ ?_) rfl ?_ | refine ACall.scalA _ _ (sValueOf.ret _ _ ?_ ?_) rfl ?_ | refine ACall.scalA _ _ (sIsNumber.ret _ ?_) rfl ?_ | refine AGCall.mkA _ _ (fun hg => sIsNumber.ret _ ?_) rfl ?_ | refine AGCall.mkA _ _ (fun hg => sCompareAtoms.ret _ _ ?_ ?_) rfl ?_)
    | refine AV.bool_congr ?_
  all_goals first
    | assumption
    | exact holds_no1 (by assumption)
    | exact holds_no2 (by assumption)
    | (rw [← holds_at (by assumption) (by assumption), opF, if_pos (by assumption)])
    | (rw [← holds_at (by assumption) (by assumption), opF, if_neg (by assumption), if_pos (by assumption)])
    | (rw [← holds_at (by assumption) (by assumption), opF, if_neg (by assumption), if_neg (by assumption), less_cmp])
theorem pcmp1.ret (a b : Str) : pcmp1.Ret [.str a, .str b] (.val (.bool (a == b))) [] := by
  refine pcmp1.ir.of rfl ?_
  repeat' first
    | (conv => whnf
       first | refine FinVal.keep ?_ | refine Final.mk rfl rfl)
theorem pcmp2.ret (a b : Str) : pcmp2.Ret [.str a, .str b] (.val (.bool (!(a == b)))) [] := by
  refine pcmp2.ir.of rfl ?_
  repeat' first
    | (conv => whnf
       first | refine FinVal.keep ?_ | refine Final.mk rfl rfl)
theorem pisLessNumber.ret (a b : Str) (ha : a.length ≤ 1048576) (hb : b.length ≤ 1048576) : pisLessNumber.Ret [.str a, .str b] (.val (.bool (lessF a b))) [] := by
  refine pisLessNumber.ir.of rfl ?_
  repeat' first
    | (conv => whnf
       first | refine Need.mk (fun h => h) ?_ | refine Need.mk rfl ?_ | refine FinVal.keep ?_ | refine Final.mk rfl rfl | refine ACall.scalA _ _ (pParseInt.ret _ ?_) rfl ?_)
  all_goals first
    | assumption
    | rfl
theorem test_kind {x : VCond} {b : List VPair} (h : (!isTestF x || !bindF b) = false) : x.1 = 3 ∨ x.1 = 4 ∨ x.1 = 5 := by
  have h1 : isTestF x = true := by revert h; cases isTestF x <;> simp
  unfold isTestF at h1
  rw [Bool.and_eq_true] at h1
  have h2 := h1.1
  simp only [testKind, Bool.or_eq_true, beq_iff_eq] at h2
  omega
theorem pHoldsTest.ret (x : VCond) (b : List VPair) (h : tCond.size x ≤ 1048576) (hb : tPairs.size b ≤ 1048576) : pHoldsTest.Ret [.agg (oldL (tCond.q x)), .list none (pairs b)] (.val (.bool (holdsTF x b))) [] := by
  refine pHoldsTest.ir.ofS rfl rfl ?_
  have hz := tCond_sz x
  have hl : x.2.2.1.length ≤ 1048576 := by omega
  have hr : x.2.2.2.length ≤ 1048576 := by omega
  have hvl := valF_len b _ hb hl
  have hvr := valF_len b _ hb hr
  by_cases hno : (!isTestF x || !bindF b) = true
  · repeat' first
      | (conv => whnf
         first | refine Need.mk (fun h => h) ?_ | refine nb_ ?_ | refine Fork.yes (by assumption) ?_ | refine FinVal.keep ?_ | refine Final.mk ?_ rfl | refine ACall.scalA _ _ (pIsTest.ret _ ?_) rfl ?_ | refine AGCall.mkA _ _ (fun hg => pIsBinding.ret _ ?_) rfl ?_)
      | refine AV.bool_congr ?_
    all_goals first
      | assumption
      | exact holds_no1 (by assumption)
      | contradiction
  have hyes : (!isTestF x || !bindF b) = false := by simpa using hno
  by_cases hno2 : (!(valF b x.2.2.1).2 || !(valF b x.2.2.2).2) = true
  · repeat' first
      | (conv => whnf
         first | refine Need.mk (fun h => h) ?_ | refine nb_ ?_ | refine Fork.yes (by assumption) ?_ | refine Fork.no (by assumption) ?_ | refine FinVal.keep ?_ | refine Final.mk ?_ rfl | refine ACall.scalA _ _ (pIsTest.ret _ ?_) rfl ?_ | refine AGCall.mkA _ _ (fun hg => pIsBinding.ret _ ?_) rfl ?_ | refine ACall.scalA _ _ (pValueOf.ret _ _ ?_ ?_) rfl ?_)
      | refine AV.bool_congr ?_
    all_goals first
      | assumption
      | exact holds_no1 (by assumption)
      | exact holds_no2 (by assumption)
      | contradiction
  have hyes2 : (!(valF b x.2.2.1).2 || !(valF b x.2.2.2).2) = false := by simpa using hno2
  rcases test_kind hyes with hk | hk | hk
  · have hc : pcomparisonOf.Ret [.val (.int .i64 x.1)] (.tup [.agg [.val (.int .i64 3), .str [61], .clo 224 [] []], .val (.bool true)]) [(189, 3, 3)] := by rw [hk]; exact cmp3
    repeat' first
      | (conv => whnf
         first | refine Need.mk (fun h => h) ?_ | refine Need.mk ⟨rfl, Nat.le_of_ble_eq_true rfl⟩ ?_ | refine nb_ ?_ | refine Fork.no (by assumption) ?_ | refine FinVal.keep ?_ | refine Final.mk ?_ rfl | refine ACall.scalA _ _ (pIsTest.ret _ ?_) rfl ?_ | refine AGCall.mkA _ _ (fun hg => pIsBinding.ret _ ?_) rfl ?_ | refine ACall.scalA _ _ (pValueOf.ret _ _ ?_ ?_) rfl ?_ | refine ACall.mkR _ _ _ (hc) ?_ | refine ACall.scalA _ _ (pcmp1.ret _ _) rfl ?_)
      | refine AV.bool_congr ?_
    all_goals first
      | assumption
      | contradiction
      | (rw [← holds_at hyes hyes2, opF, if_pos hk])
  · have hc : pcomparisonOf.Ret [.val (.int .i64 x.1)] (.tup [.agg [.val (.int .i64 4), .str [33, 61], .clo 225 [] []], .val (.bool true)]) [(189, 3, 3)] := by rw [hk]; exact cmp4
    repeat' first
      | (conv => whnf
         first | refine Need.mk (fun h => h) ?_ | refine Need.mk ⟨rfl, Nat.le_of_ble_eq_true rfl⟩ ?_ | refine nb_ ?_ | refine Fork.no (by assumption) ?_ | refine FinVal.keep ?_ | refine Final.mk ?_ rfl | refine ACall.scalA _ _ (pIsTest.ret _ ?_) rfl ?_ | refine AGCall.mkA _ _ (fun hg => pIsBinding.ret _ ?_) rfl ?_ | refine ACall.scalA _ _ (pValueOf.ret _ _ ?_ ?_) rfl ?_ | refine ACall.mkR _ _ _ (hc) ?_ | refine ACall.scalA _ _ (pcmp2.ret _ _) rfl ?_)
      | refine AV.bool_congr ?_
    all_goals first
      | assumption
      | contradiction
      | (rw [← holds_at hyes hyes2, opF, if_neg (by omega), if_pos hk])
  · have hc : pcomparisonOf.Ret [.val (.int .i64 x.1)] (.tup [.agg [.val (.int .i64 5), .str [60], .clo 226 [] []], .val (.bool true)]) [(189, 3, 3)] := by rw [hk]; exact cmp5
    repeat' first
      | (conv => whnf
         first | refine Need.mk (fun h => h) ?_ | refine Need.mk ⟨rfl, Nat.le_of_ble_eq_true rfl⟩ ?_ | refine nb_ ?_ | refine Fork.no (by assumption) ?_ | refine FinVal.keep ?_ | refine Final.mk ?_ rfl | refine ACall.scalA _ _ (pIsTest.ret _ ?_) rfl ?_ | refine AGCall.mkA _ _ (fun hg => pIsBinding.ret _ ?_) rfl ?_ | refine ACall.scalA _ _ (pValueOf.ret _ _ ?_ ?_) rfl ?_ | refine ACall.mkR _ _ _ (hc) ?_ | refine ACall.scalA _ _ (pisLessNumber.ret _ _ ?_ ?_) rfl ?_)
      | refine AV.bool_congr ?_
    all_goals first
      | assumption
      | contradiction
      | (rw [← holds_at hyes hyes2, opF, if_neg (by omega), if_neg (by omega)])
end Go.Proofs.YtoindmahilbalaaGreat
namespace Go.Proofs.YtoindmahilbalaaGreat
open Abs
theorem takeAV_one {n : Nat} {cs : List AV} {k : AV → Prop} (c : AV) (r : List AV) (h : cs = c :: r) (hk : k c) : takeAV false n cs k := by subst h; exact hk
def fctsT (l : List Fct) : Tr := .l 86 2 (l.map tFct.q)
end Go.Proofs.YtoindmahilbalaaGreat
namespace Go.Proofs.YtoindmahilbalaaGreat
open Abs
theorem sTexts.ret (l : List Str) (h : l.length ≤ 1048576) : sTexts.Ret [.list none (strs l)] (.list (some 0) (strs l)) [(9, 1, l.length)] := by
  refine sTexts.ir.of rfl ?_
  repeat' first
    | (conv => whnf
       first | refine Need.mk rfl ?_ | refine Need.mk ?_ ?_ | refine Final.mk ?_ ?_)
    | refine AV.list_congr ?_ | refine fr1 ?_
  · exact strs_sz l
  · simp; omega
  · rfl
  · simp
theorem slClone.ret (l : List Str) (h : l.length ≤ 1048576) : slClone.Ret [.list none (strs l)] (.list (some 0) (strs l)) [(9, 1, l.length)] := by
  refine slClone.ir.of rfl ?_
  repeat' first
    | (conv => whnf
       first | refine Need.mk rfl ?_ | refine Need.mk ?_ ?_ | refine Fork.neg (fun _ => ?_) (fun _ => ?_) | refine NilQ.mk (fun b hb => ?_) | refine FinVal.nil 9 1 rfl ?_ | refine Final.mk ?_ ?_)
    | refine AV.list_congr ?_ | refine fr1 ?_
  · rename_i h1
    have hl : l = [] := List.eq_nil_of_length_eq_zero (by rw [length_strs] at hb; exact hb (by revert h1; cases b <;> simp))
    subst hl; rfl
  · rename_i h1
    have hl : l = [] := List.eq_nil_of_length_eq_zero (by rw [length_strs] at hb; exact hb (by revert h1; cases b <;> simp))
    subst hl; rfl
  · exact strs_sz l
  · simp; omega
  · rfl
  · simp
theorem sCopy.ret (f : Fct) (h : tFct.size f ≤ 1048576) : sCopy.Ret [.agg (oldL (tFct.q f))] (.agg (tFct.tk f 0)) (tFct.fr f) := by
  refine sCopy.ir.of rfl ?_
  rw [tFct_size, tStrs_size] at h
  repeat' first
    | (conv => whnf
       first | refine Need.mk rfl ?_ | refine Need.mk ⟨rfl, Nat.le_of_ble_eq_true rfl⟩ ?_ | refine nb_ ?_ | refine FinAgg.keep ?_ | refine Final.mk rfl rfl | refine ACall.mkStrs _ _ (sTexts.ret _ ?_) (by repeat' first | exact SeesL.nil | refine SeesL.cons ?_ ?_ | exact SeesB.of0 (Sees0.val _) | exact SeesB.of0 (Sees0.str _) | exact SeesB.of0 (Sees0.olds _ _) | exact SeesB.of0 (Sees0.old _) | exact SeesB.of0 (Sees0.oldagg _) | exact SeesB.of0 Sees0.nil | exact Sees0.val _ | exact Sees0.str _ | exact Sees0.olds _ _ | exact Sees0.old _ | exact Sees0.oldagg _ | exact Sees0.nil | exact SeesB.of0 (Sees0.any _) | assumption | exact sees_gv _ _ _ (by assumption) (by first | assumption | exact BoxIn.last _ _ | exact BoxIn.more (BoxIn.last _ _) _) | refine SeesB.agg ?_ | refine Sees0.agg ?_ | exact SeesB.of0 (Sees0.clo SeesL.nil SeesL.nil) | exact Sees0.clo SeesL.nil SeesL.nil | exact SeesB.of0 (Sees0.list rfl) | exact Sees0.list rfl) ?_)
  omega
theorem pcopyFact.ret (f : Fct) (h : tFct.size f ≤ 1048576) : pcopyFact.Ret [.agg (oldL (tFct.q f))] (.agg (tFct.tk f 0)) (tFct.fr f) := by
  refine pcopyFact.ir.of rfl ?_
  rw [tFct_size, tStrs_size] at h
  repeat' first
    | (conv => whnf
       first | refine Need.mk rfl ?_ | refine Need.mk ⟨rfl, Nat.le_of_ble_eq_true rfl⟩ ?_ | refine nb_ ?_ | refine FinAgg.keep ?_ | refine Final.mk rfl rfl | refine ACall.mkStrs _ _ (slClone.ret _ ?_) (by repeat' first | exact SeesL.nil | refine SeesL.cons ?_ ?_ | exact SeesB.of0 (Sees0.val _) | exact SeesB.of0 (Sees0.str _) | exact SeesB.of0 (Sees0.olds _ _) | exact SeesB.of0 (Sees0.old _) | exact SeesB.of0 (Sees0.oldagg _) | exact SeesB.of0 Sees0.nil | exact Sees0.val _ | exact Sees0.str _ | exact Sees0.olds _ _ | exact Sees0.old _ | exact Sees0.oldagg _ | exact Sees0.nil | exact SeesB.of0 (Sees0.any _) | assumption | exact sees_gv _ _ _ (by assumption) (by first | assumption | exact BoxIn.last _ _ | exact BoxIn.more (BoxIn.last _ _) _) | refine SeesB.agg ?_ | refine Sees0.agg ?_ | exact SeesB.of0 (Sees0.clo SeesL.nil SeesL.nil) | exact Sees0.clo SeesL.nil SeesL.nil | exact SeesB.of0 (Sees0.list rfl) | exact Sees0.list rfl) ?_)
  omega
def accFr (l : List Fct) : Fr := (86, 2, l.length) :: frs tFct l
theorem accFr_snoc (l : List Fct) (f : Fct) : (accFr l ++ tFct.fr f).set 0 (86, 2, l.length + 1) = accFr (l ++ [f]) := by
  simp [accFr, frs]
theorem acc_snoc (l : List Fct) (f : Fct) : tks tFct l 1 ++ [tFct.tk f (accFr l).length] = tks tFct (l ++ [f]) 1 := by
  rw [tks_append]
  congr 1
  show _ = [tFct.tk f _]
  rw [accFr, List.length_cons, Nat.add_comm]
theorem acc_own {mo : Bool} {P : Program} {f : Nat} {args : List AV} {l : List Fct} (h : Ret mo P f args (.list (some 0) (tks tFct l 1)) (accFr l)) : Own mo P f args (.l 86 2 (l.map tFct.q)) := by
  obtain ⟨ts, h1, p1⟩ := tks_own tFct (accFr l) l 1 (fun i x hi => by rw [accFr, Nat.add_comm, List.getElem?_cons_succ]; exact hi)
  have h2 : OwnA (accFr l) [.l 86 2 (l.map tFct.q)] [.list (some 0) (tks tFct l 1)] (0 :: ts ++ []) :=
    .l 86 2 _ 0 _ (by simp [accFr]) (by rw [length_tks, List.length_map]) (fun e he => by obtain ⟨a, _, rfl⟩ := List.mem_map.1 he; exact tFct.hq a) (tks_sz tFct l 1) h1 .nil
  refine h.own _ h2 ?_
  rw [List.append_nil]
  refine List.nodup_cons.2 ⟨fun hm => ?_, p1.symm.nodup (List.nodup_range' _)⟩
  have := (p1.mem_iff).1 hm
  rw [List.mem_range'_1] at this
  omega
end Go.Proofs.YtoindmahilbalaaGreat
namespace Go.Proofs.YtoindmahilbalaaGreat
namespace Abs
variable {mo : Bool}
open Go.RowKit Go.Sort
theorem heap_putRow {α : Type} [Inhabited α] (enc : α → Value) (w : World) (blk off : Nat) (d : Array α) (c : Array Value) (t : TypeId) (z : Nat × Nat) (h : w.heap[blk]? = some (.cells c t z)) :
    (putRow enc w blk off d).heap[blk]? = some (.cells (putCells enc off d c) t z) := by
  simp [putRow, mapBlock, Array.getElem?_modify, h, onCells]
theorem heap_putRow_other {α : Type} [Inhabited α] (enc : α → Value) (w : World) (blk off : Nat) (d : Array α) (k : Nat) (h : k ≠ blk) : (putRow enc w blk off d).heap[k]? = w.heap[k]? := by
  simp [putRow, mapBlock, Array.getElem?_modify, Ne.symm h]
theorem heap_grow (w : World) (os : Array Obj) (k : Nat) (h : k < w.heap.size) : (grow w os).heap[k]? = w.heap[k]? := by
  simp [grow, Array.getElem?_append, h]
theorem gpost_row {w w' : World} {F : Nat → Nat} {box0 : List BId} {b0 : List ABox} {Φ : AV → List ABox → Prop} (hout : ∀ b, w.heap.size ≤ b → F b = 0) (hbl : box0.length = b0.length)
    (hbi : ∀ (j b c : Nat), box0[j]? = some (.blk b c) → b < w.heap.size ∧ (live b0 j → F b = 0))
    (hbj : ∀ (i j b c c' : Nat), box0[i]? = some (.blk b c) → box0[j]? = some (.blk b c') → live b0 i → live b0 j → i = j)
    (hB : BoxesOk w.heap.size w F [] [] box0 b0) {j blk cap : Nat} {k : RK} {cs cs' : List AV} (hj : box0[j]? = some (.blk blk cap)) (hl : b0[j]? = some (.cells k cs))
    (hdr : w.drawn ≤ w'.drawn) (hos : w'.os = w.os) (htape : w'.tape = w.tape) (hou : w'.output = w.output) (hsz : w.heap.size ≤ w'.heap.size) (hk : ∀ k, k < w.heap.size → k ≠ blk → w'.heap[k]? = w.heap[k]?)
    (hx : (∀ y v, Rep w.heap.size w F [] [] box0 y v → Rep w.heap.size w' F [] [] box0 y v) → BoxOk w.heap.size w' F [] [] box0 (.blk blk cap) (.cells k cs'))
    {e : Ending} {v : Value} {r : AV} (hv : e = .returned v) (hr : Rep w.heap.size w' F [] [] box0 r v) (hΦ : Φ r (b0.set j (.cells k cs'))) :
    ∃ (v : Value) (F' : Nat → Nat) (box1 : List BId) (r : AV) (b1 : List ABox), Φ r b1 ∧ e = .returned v ∧ Keep mo (mask b0 box0) w w' ∧ (∀ b, b < w.heap.size → F' b = F b) ∧ (∀ b, w'.heap.size ≤ b → F' b = 0) ∧
      (∀ (j : Nat) d, box0[j]? = some d → box1[j]? = some d) ∧ box1.length = b1.length ∧
      (∀ (j b c : Nat), box0.length ≤ j → box1[j]? = some (.blk b c) → (w.heap.size ≤ b ∨ ∃ i : Nat, live b0 i ∧ box0[i]? = some (.blk b c)) ∧ b < w'.heap.size) ∧
      (∀ (j b c : Nat), box1[j]? = some (.blk b c) → live b1 j → (box0.length ≤ j ∨ live b0 j) → F' b = 0) ∧
      (∀ (i j b c c' : Nat), box1[i]? = some (.blk b c) → box1[j]? = some (.blk b c') → live b1 i → live b1 j → (box0.length ≤ i ∨ live b0 i) → (box0.length ≤ j ∨ live b0 j) → i = j) ∧
      (∀ (j : Nat) d x, box1[j]? = some d → b1[j]? = some x → (box0.length ≤ j ∨ live b0 j) → BoxOk w.heap.size w' F' [] [] box1 d x) ∧ Rep w.heap.size w' F' [] [] box1 r v := by
  have hlive : live b0 j := fun h => by rw [hl] at h; cases h
  have hF0 := (hbi j blk cap hj).2 hlive
  have hjl := getElem?_lt hl
  have L : Later w F [] [] w' F [] [] := by
    refine ⟨fun b i hi => World.cell?_of_block (w := w) (hk b ?_ (fun h => by rw [h, hF0] at hi; omega)), fun _ => Nat.le_refl _, fun k t s n h => by simp at h⟩
    rcases Nat.lt_or_ge b w.heap.size with h | h
    · exact h
    · rw [hout b h] at hi; omega
  have ld : ∀ {i : Nat}, live (b0.set j (.cells k cs')) i ↔ live b0 i := live_set (by simp) hlive
  refine ⟨v, F, box0, r, _, hΦ, hv, ⟨fun _ => hdr, hos, htape, hou, hsz, fun q hq hn => hk q hq (fun h => ?_)⟩, fun _ _ => rfl, fun b hb => hout b (Nat.le_trans hsz hb), fun _ _ h => h, by simpa using hbl,
    fun i b c hi h => (by have := getElem?_lt h; omega), fun i b c hi hli _ => (hbi i b c hi).2 (ld.1 hli), fun i i' b c c' h1 h2 l1 l2 _ _ => hbj i i' b c c' h1 h2 (ld.1 l1) (ld.1 l2), fun i d x hd hx' hin => ?_, hr⟩
  · subst h
    refine hn j cap ?_
    clear hx hΦ hv hr ld L
    induction b0 generalizing box0 j with
    | nil => simp at hl
    | cons x b ih =>
      cases box0 with
      | nil => simp at hj
      | cons d box =>
        cases j with
        | zero =>
          simp at hl hj
          subst hl; subst hj
          simp [mask]
        | succ j =>
          have h1 : b[j]? = some (.cells k cs) := by simpa using hl
          have h2 : box[j]? = some (.blk q cap) := by simpa using hj
          have aux : ∀ (b : List ABox) (box : List BId) (j : Nat), b[j]? = some (.cells k cs) → box[j]? = some (.blk q cap) → (mask b box)[j]? = some (.blk q cap) := by
            intro b
            induction b with
            | nil => intro box j h; simp at h
            | cons x b ih =>
              intro box j h1 h2
              cases box with
              | nil => simp at h2
              | cons d box =>
                cases j with
                | zero => simp at h1 h2; subst h1; subst h2; simp [mask]
                | succ j => cases x <;> simpa [mask] using ih box j (by simpa using h1) (by simpa using h2)
          cases x <;> simpa [mask] using aux b box j h1 h2
  · rw [List.getElem?_set] at hx'
    by_cases hij : j = i
    · subst hij
      rw [if_pos rfl, if_pos hjl] at hx'
      rw [hj] at hd
      cases hx'; cases hd
      exact hx (fun y v h => h.later L (fun _ _ h => h))
    · rw [if_neg hij] at hx'
      refine (hB i d x hd hx').later L (fun _ _ h => h) (fun b c he hnd => ?_)
      subst he
      refine hk b (hbi i b c hd).1 (fun h => ?_)
      subst h
      exact hij (hbj j i b cap c hj hd hlive (fun h => hnd (by rw [hx'] at h; exact Option.some.inj h)))
theorem gpost_same {w : World} {F : Nat → Nat} {box0 : List BId} {b0 : List ABox} {Φ : AV → List ABox → Prop} (hout : ∀ b, w.heap.size ≤ b → F b = 0) (hbl : box0.length = b0.length)
    (hbi : ∀ (j b c : Nat), box0[j]? = some (.blk b c) → b < w.heap.size ∧ (live b0 j → F b = 0))
    (hbj : ∀ (i j b c c' : Nat), box0[i]? = some (.blk b c) → box0[j]? = some (.blk b c') → live b0 i → live b0 j → i = j)
    (hB : BoxesOk w.heap.size w F [] [] box0 b0) {e : Ending} {v : Value} {r : AV} (hv : e = .returned v) (hr : Rep w.heap.size w F [] [] box0 r v) (hΦ : Φ r b0) :
    ∃ (v : Value) (F' : Nat → Nat) (box1 : List BId) (r : AV) (b1 : List ABox), Φ r b1 ∧ e = .returned v ∧ Keep mo (mask b0 box0) w w ∧ (∀ b, b < w.heap.size → F' b = F b) ∧ (∀ b, w.heap.size ≤ b → F' b = 0) ∧
      (∀ (j : Nat) d, box0[j]? = some d → box1[j]? = some d) ∧ box1.length = b1.length ∧
      (∀ (j b c : Nat), box0.length ≤ j → box1[j]? = some (.blk b c) → (w.heap.size ≤ b ∨ ∃ i : Nat, live b0 i ∧ box0[i]? = some (.blk b c)) ∧ b < w.heap.size) ∧
      (∀ (j b c : Nat), box1[j]? = some (.blk b c) → live b1 j → (box0.length ≤ j ∨ live b0 j) → F' b = 0) ∧
      (∀ (i j b c c' : Nat), box1[i]? = some (.blk b c) → box1[j]? = some (.blk b c') → live b1 i → live b1 j → (box0.length ≤ i ∨ live b0 i) → (box0.length ≤ j ∨ live b0 j) → i = j) ∧
      (∀ (j : Nat) d x, box1[j]? = some d → b1[j]? = some x → (box0.length ≤ j ∨ live b0 j) → BoxOk w.heap.size w F' [] [] box1 d x) ∧ Rep w.heap.size w F' [] [] box1 r v :=
  ⟨v, F, box0, r, b0, hΦ, hv, Keep.refl _ _, fun _ _ => rfl, hout, fun _ _ h => h, hbl, fun i b c hi h => (by have := getElem?_lt h; omega), fun i b c hi hl _ => (hbi i b c hi).2 hl,
    fun i j b c c' h1 h2 l1 l2 _ _ => hbj i j b c c' h1 h2 l1 l2, fun i d x hd hx _ => hB i d x hd hx, hr⟩
theorem putCells_zero {α : Type} [Inhabited α] (enc : α → Value) (d : Array α) (c : Array Value) (h : d.size ≤ c.size) : (putCells enc 0 d c).toList = d.toList.map enc ++ c.toList.drop d.size := by
  apply List.ext_getElem?
  intro i
  rw [Array.getElem?_toList, putCells, Array.getElem?_mapIdx, List.getElem?_append, List.length_map, Array.length_toList]
  by_cases hi : i < d.size
  · have hc : i < c.size := by omega
    simp [hi, hc, getElem!_pos d i hi]
  · rw [if_neg hi, List.getElem?_drop, show d.size + (i - d.size) = i by omega, Array.getElem?_toList]
    cases c[i]? with
    | none => rfl
    | some x => simp [hi]
theorem set_self {α : Type} {l : List α} {j : Nat} {x : α} (h : l[j]? = some x) : l.set j x = l := by
  apply List.ext_getElem?
  intro i
  rw [List.getElem?_set]
  split
  · rename_i hij; subst hij; rw [if_pos (getElem?_lt h), h]
  · rfl
theorem texts_of_box {B : Nat} {w : World} {F : Nat → Nat} {box : List BId} {b cap t : Nat} {ss : List Str} (h : BoxOk B w F [] [] box (.blk b cap) (.cells (.row t 1) (ss.map .str))) :
    ∃ c : Array Value, w.heap[b]? = some (.cells c t (0, 0)) ∧ ss.length ≤ c.size ∧ (∀ (i : Nat) s, ss[i]? = some s → c[i]? = some (mkS s)) ∧ c.size = cap ∧ cap ≤ maxLen := by
  obtain ⟨c, t', hh, hle, hr, rfl, hcs, hcm⟩ := h
  rw [List.length_map] at hle
  refine ⟨c, hh, hle, fun i s hi => ?_, by omega, hcm⟩
  have hlt := getElem?_lt hi
  have hx := (hr i (.str s) (by rw [List.getElem?_map, hi]; rfl)).1
  have hc : c[i]? = some (c.getD i undef) := by simp [Array.getD, show i < c.size by omega]
  rw [hc]
  generalize c.getD i undef = u at hx
  cases hx; rfl
theorem texts_both {B : Nat} {w : World} {F : Nat → Nat} {box : List BId} (ss : List Str) : Both (Rep B w F [] [] box) (ss.map .str) (ss.map mkS) := by
  refine ⟨by simp, fun i x y hx hy => ?_⟩
  rw [List.getElem?_map] at hx hy
  cases hi : ss[i]? with
  | none => rw [hi] at hx; cases hx
  | some s => rw [hi] at hx hy; cases hx; cases hy; exact .str s
end Abs
end Go.Proofs.YtoindmahilbalaaGreat
namespace Go.Proofs
open Go.Shelf
open Go.Shelf
def Tryz.lays190_ren : Go.Shelf.Ren := ⟨fun | 190 => 180 | 125 => 204 | 258 => 203 | 128 => 220 | 129 => 221 | 302 => 211 | 303 => 212 | 304 => 213 | 305 => 214 | 306 => 215 | 307 => 216 | 308 => 217 | 309 => 218 | 310 => 219 | 333 => 228 | 329 => 229 | 330 => 230 | 334 => 231 | 335 => 232 | 336 => 182 | 344 => 235 | n => n, fun | 31 => 77 | 9 => 9 | 3 => 3 | 46 => 199 | 0 => 0 | 51 => 216 | 53 => 218 | 4 => 4 | 183 => 210 | 182 => 209 | 131 => 168 | 5 => 5 | 218 => 219 | 222 => 223 | 228 => 226 | 229 => 227 | n => n, fun | n => n⟩
theorem Tryz.lays190 : Go.Proofs.Lays.n190 Tryz.prog Tryz.lays190_ren := {
  mixed := by kernel_rfl
  f125 := Tryz.func204.trans (congrArg some (by kernel_rfl))
  f128 := Tryz.func220.trans (congrArg some (by kernel_rfl))
  f129 := Tryz.func221.trans (congrArg some (by kernel_rfl))
  f190 := Tryz.func180.trans (congrArg some (by kernel_rfl))
  f258 := Tryz.func203.trans (congrArg some (by kernel_rfl))
  f302 := Tryz.func211.trans (congrArg some (by kernel_rfl))
  f303 := Tryz.func212.trans (congrArg some (by kernel_rfl))
  f304 := Tryz.func213.trans (congrArg some (by kernel_rfl))
  f305 := Tryz.func214.trans (congrArg some (by kernel_rfl))
  f306 := Tryz.func215.trans (congrArg some (by kernel_rfl))
  f307 := Tryz.func216.trans (congrArg some (by kernel_rfl))
  f308 := Tryz.func217.trans (congrArg some (by kernel_rfl))
  f309 := Tryz.func218.trans (congrArg some (by kernel_rfl))
  f310 := Tryz.func219.trans (congrArg some (by kernel_rfl))
  f329 := Tryz.func229.trans (congrArg some (by kernel_rfl))
  f330 := Tryz.func230.trans (congrArg some (by kernel_rfl))
  f333 := Tryz.func228.trans (congrArg some (by kernel_rfl))
  f334 := Tryz.func231.trans (congrArg some (by kernel_rfl))
  f335 := Tryz.func232.trans (congrArg some (by kernel_rfl))
  f336 := Tryz.func182.trans (congrArg some (by kernel_rfl))
  f344 := Tryz.func235.trans (congrArg some (by kernel_rfl))
  t0 := Tryz.underlying0
  a0 := Tryz.isAgg0
  z0 := Tryz.sizeOf0
  v0 := Tryz.zeroValue0
  t3 := Tryz.underlying3
  a3 := Tryz.isAgg3
  z3 := Tryz.sizeOf3
  v3 := Tryz.zeroValue3
  t4 := Tryz.underlying4
  a4 := Tryz.isAgg4
  z4 := Tryz.sizeOf4
  v4 := Tryz.zeroValue4
  t5 := Tryz.underlying5
  a5 := Tryz.isAgg5
  z5 := Tryz.sizeOf5
  v5 := Tryz.zeroValue5
  t9 := Tryz.underlying9
  a9 := Tryz.isAgg9
  z9 := Tryz.sizeOf9
  v9 := Tryz.zeroValue9
  t31 := Tryz.underlying77
  a31 := Tryz.isAgg77
  z31 := Tryz.sizeOf77
  v31 := Tryz.zeroValue77
  t46 := Tryz.underlying199
  a46 := Tryz.isAgg199
  z46 := Tryz.sizeOf199
  v46 := Tryz.zeroValue199
  t51 := Tryz.underlying216
  a51 := Tryz.isAgg216
  z51 := Tryz.sizeOf216
  v51 := Tryz.zeroValue216
  t53 := Tryz.underlying218
  a53 := Tryz.isAgg218
  z53 := Tryz.sizeOf218
  v53 := Tryz.zeroValue218
  t131 := Tryz.underlying168
  a131 := Tryz.isAgg168
  z131 := Tryz.sizeOf168
  v131 := Tryz.zeroValue168
  t182 := Tryz.underlying209
  a182 := Tryz.isAgg209
  z182 := Tryz.sizeOf209
  v182 := Tryz.zeroValue209
  t183 := Tryz.underlying210
  a183 := Tryz.isAgg210
  z183 := Tryz.sizeOf210
  v183 := Tryz.zeroValue210
  t218 := Tryz.underlying219
  a218 := Tryz.isAgg219
  z218 := Tryz.sizeOf219
  v218 := Tryz.zeroValue219
  t222 := Tryz.underlying223
  a222 := Tryz.isAgg223
  z222 := Tryz.sizeOf223
  v222 := Tryz.zeroValue223
  t228 := Tryz.underlying226
  a228 := Tryz.isAgg226
  z228 := Tryz.sizeOf226
  v228 := Tryz.zeroValue226
  t229 := Tryz.underlying227
  a229 := Tryz.isAgg227
  z229 := Tryz.sizeOf227
  v229 := Tryz.zeroValue227 }
open Go.Sort Go.RowKit in
theorem Tryz.slices_Sort_string (blk off cap : Nat) (ss : List (List UInt8)) (w : World) (hH : Holds encStr w blk off ss.toArray) (hblk : blk < w.heap.size) (hsz : ss.length < 4611686018427387904) :
    Calls Tryz.prog 180 #[.slice (some ⟨blk, off, none⟩) ss.length cap] w fun e w' =>
      e = .returned (.tuple #[]) ∧ ∃ n os, w' = grow (putRow encStr (Sort.ahead w n) blk off (ss.mergeSort fun x y => decide (x ≤ y)).toArray) os := Any.slices_Sort_string Tryz.lays190 blk off cap ss w hH hblk hsz
def Tryz.lays194_ren : Go.Shelf.Ren := ⟨fun | 194 => 181 | n => n, fun | 31 => 77 | 9 => 9 | 3 => 3 | 4 => 4 | 0 => 0 | n => n, fun | n => n⟩
theorem Tryz.lays194 : Go.Proofs.Lays.n194 Tryz.prog Tryz.lays194_ren := {
  mixed := by kernel_rfl
  f194 := Tryz.func181.trans (congrArg some (by kernel_rfl))
  t0 := Tryz.underlying0
  a0 := Tryz.isAgg0
  z0 := Tryz.sizeOf0
  v0 := Tryz.zeroValue0
  t3 := Tryz.underlying3
  a3 := Tryz.isAgg3
  z3 := Tryz.sizeOf3
  v3 := Tryz.zeroValue3
  t4 := Tryz.underlying4
  a4 := Tryz.isAgg4
  z4 := Tryz.sizeOf4
  v4 := Tryz.zeroValue4
  t9 := Tryz.underlying9
  a9 := Tryz.isAgg9
  z9 := Tryz.sizeOf9
  v9 := Tryz.zeroValue9
  t31 := Tryz.underlying77
  a31 := Tryz.isAgg77
  z31 := Tryz.sizeOf77
  v31 := Tryz.zeroValue77 }
open Go.RowKit Go.Lib Go.Sort in
theorem Tryz.slices_Compact_string (blk off cap : Nat) (zs : List (List UInt8)) (w : World) (hH : Holds encStr w blk off zs.toArray) (hsz : zs.length ≤ 9223372036854775807) (hcap : zs.length ≤ cap) :
    Calls Tryz.prog 181 #[.slice (some ⟨blk, off, none⟩) zs.length cap] w fun e w' => e = .returned (.slice (some ⟨blk, off, none⟩) (Lib.compact zs).length cap) ∧ ∃ q, w' = putRow encStr (Sort.ahead w q) blk off (Lib.compact zs ++ List.replicate (zs.length - (Lib.compact zs).length) []).toArray := Any.slices_Compact_string Tryz.lays194 blk off cap zs w hH hsz hcap
open Go.RowKit Go.Lib Go.Sort in
theorem Tryz.slices_Compact_string_empty (a : Option Addr) (cap : Nat) (w : World) :
    Calls Tryz.prog 181 #[.slice a 0 cap] w fun e w' => e = .returned (.slice a 0 cap) ∧ w' = w := Any.slices_Compact_string_empty Tryz.lays194 a cap w
open Go.RowKit Go.Sort in
theorem Tryz.slices_Sort_string_none (p : Option Addr) (cap : Nat) (w : World) :
    Calls Tryz.prog 180 #[.slice p 0 cap] w fun e w' => e = .returned (.tuple #[]) ∧ w' = w := Any.slices_Sort_string_none Tryz.lays190 p cap w
end Go.Proofs
namespace Go.Proofs.YtoindmahilbalaaGreat
open Abs Go.RowKit Go.Sort
def srt (ss : List Str) : List Str := ss.mergeSort fun x y => decide (x ≤ y)
theorem compact_nil : Lib.compact ([] : List Str) = [] := rfl
theorem compact_len (ss : List Str) : (Lib.compact ss).length ≤ ss.length := by
  rw [Lib.compact, Lib.compactUpTo, List.length_map]
  exact Nat.le_trans (List.length_filter_le _ _) (by simp)
theorem holds_texts {w : World} {b t : Nat} {ss : List Str} {c : Array Value} (hh : w.heap[b]? = some (.cells c t (0, 0))) (hc : ∀ (i : Nat) s, ss[i]? = some s → c[i]? = some (mkS s)) : Holds encStr w b 0 ss.toArray := by
  intro i hi
  have hi' : i < ss.length := by simpa using hi
  have h1 := hc i _ (List.getElem?_eq_getElem hi')
  have e1 : ss.toArray[i]! = ss[i] := by simp [hi']
  rw [e1, Nat.zero_add]
  refine ⟨by rw [cell_of_row w b i c t (0, 0) hh, h1]; rfl, ?_⟩
  simp [World.frozen?, hh]
theorem slSort.ctx (b : List ABox) (j : Nat) (ss : List Str) (hj : b[j]? = some (.cells (.row 9 1) (ss.map .str))) (hn : ss.length ≤ 1099511627776) :
    slSort.Ctx b [.bsl j ss.length] (fun r b1 => r = .tup [] ∧ b1 = b.set j (.cells (.row 9 1) ((srt ss).map .str))) := by
  unfold slSort.Ctx
  rw [Ctx_eq]
  refine ⟨by kernel_rfl, fun w F vs box0 hout hbl hbi hbj hB hargs => ?_⟩
  obtain ⟨v0, rfl⟩ : ∃ v0, vs = #[v0] := by
    have := hargs.1
    match vs, this with
    | ⟨[a]⟩, _ => exact ⟨a, rfl⟩
  obtain ⟨h0, _⟩ := Both.cons.1 hargs
  rcases h0.bsl_inv with ⟨bl, cap, hb, hcap, rfl⟩ | ⟨hb, hz, rfl⟩
  · obtain ⟨c, hh, hle, hc, hcs, hcm⟩ := texts_of_box (hB j _ _ hb hj)
    refine (Tryz.slices_Sort_string bl 0 cap ss w (holds_texts hh hc) (hbi j bl cap hb).1 (by omega)).mono ?_
    rintro e w' ⟨rfl, n, os, hw⟩
    have hlen : (srt ss).length = ss.length := List.length_mergeSort _
    have hh' : w'.heap[bl]? = some (.cells (putCells encStr 0 (srt ss).toArray c) 9 (0, 0)) := by
      rw [hw, heap_grow _ _ _ (by simpa using (hbi j bl cap hb).1)]
      exact heap_putRow encStr (Sort.ahead w n) bl 0 (srt ss).toArray c _ (0, 0) hh
    have hk : ∀ k, k < w.heap.size → k ≠ bl → w'.heap[k]? = w.heap[k]? := fun k hk hkb => by
      rw [hw, heap_grow _ _ _ (by simpa using hk), heap_putRow_other _ _ _ _ _ _ hkb]; rfl
    refine gpost_row (w' := w') (Φ := fun r b1 => r = .tup [] ∧ b1 = b.set j (.cells (.row 9 1) ((srt ss).map .str))) (v := .tuple #[]) (r := .tup []) hout hbl hbi hbj hB hb hj
      (by rw [hw]; simp [grow, putRow, mapBlock, Sort.ahead]) (by rw [hw]; rfl) (by rw [hw]; rfl) (by rw [hw]; rfl) (by rw [hw]; simp) hk (fun _ => ?_) rfl (.tup [] #[] rfl (by simp)) ⟨rfl, rfl⟩
    refine boxOk_row (c := putCells encStr 0 (srt ss).toArray c) (vals := (srt ss).map mkS) (rest := c.toList.drop (srt ss).length) hh' ?_ (texts_both _) (fun u hu => ?_) ?_ hcm
    · rw [putCells_zero _ _ _ (by simp [hlen]; exact hle)]; simp; intro a _; rfl
    · obtain ⟨s, _, rfl⟩ := List.mem_map.1 hu; rfl
    · simp [hlen]; omega
  · have h0 : ss = [] := List.eq_nil_of_length_eq_zero hz
    subst h0
    refine (Tryz.slices_Sort_string_none none 0 w).mono ?_
    rintro e w' ⟨rfl, rfl⟩
    exact gpost_same hout hbl hbi hbj hB rfl (.tup [] #[] rfl (by simp)) ⟨rfl, by rw [show srt [] = [] by simp [srt], set_self hj]⟩
theorem slCompact.ctx (b : List ABox) (j : Nat) (ss : List Str) (hj : b[j]? = some (.cells (.row 9 1) (ss.map .str))) (hn : ss.length ≤ 1099511627776) :
    slCompact.Ctx b [.bsl j ss.length] (fun r b1 => r = .bsl j (Lib.compact ss).length ∧ b1 = b.set j (.cells (.row 9 1) ((Lib.compact ss).map .str))) := by
  unfold slCompact.Ctx
  rw [Ctx_eq]
  refine ⟨by kernel_rfl, fun w F vs box0 hout hbl hbi hbj hB hargs => ?_⟩
  obtain ⟨v0, rfl⟩ : ∃ v0, vs = #[v0] := by
    have := hargs.1
    match vs, this with
    | ⟨[a]⟩, _ => exact ⟨a, rfl⟩
  obtain ⟨h0, _⟩ := Both.cons.1 hargs
  rcases h0.bsl_inv with ⟨bl, cap, hb, hcap, rfl⟩ | ⟨hb, hz, rfl⟩
  · obtain ⟨c, hh, hle, hc, hcs, hcm⟩ := texts_of_box (hB j _ _ hb hj)
    have hcl := compact_len ss
    refine (Tryz.slices_Compact_string bl 0 cap ss w (holds_texts hh hc) (by omega) hcap).mono ?_
    rintro e w' ⟨rfl, n, hw⟩
    have hh' : w'.heap[bl]? = some (.cells (putCells encStr 0 (Lib.compact ss ++ List.replicate (ss.length - (Lib.compact ss).length) []).toArray c) 9 (0, 0)) := by
      rw [hw]; exact heap_putRow encStr (Sort.ahead w n) bl 0 _ c _ (0, 0) hh
    have hk : ∀ k, k < w.heap.size → k ≠ bl → w'.heap[k]? = w.heap[k]? := fun k hk hkb => by
      rw [hw, heap_putRow_other _ _ _ _ _ _ hkb]; rfl
    refine gpost_row (w' := w') (Φ := fun r b1 => r = .bsl j (Lib.compact ss).length ∧ b1 = b.set j (.cells (.row 9 1) ((Lib.compact ss).map .str))) (r := .bsl j (Lib.compact ss).length) hout hbl hbi hbj hB hb hj
      (by rw [hw]; simp [putRow, mapBlock, Sort.ahead]) (by rw [hw]; rfl) (by rw [hw]; rfl) (by rw [hw]; rfl) (by rw [hw]; simp) hk (fun _ => ?_) rfl (.bsl j _ bl cap hb (by omega)) ⟨rfl, rfl⟩
    refine boxOk_row (vals := (Lib.compact ss).map mkS) (rest := List.replicate (ss.length - (Lib.compact ss).length) (mkS []) ++ c.toList.drop ss.length) hh' ?_ (texts_both _) (fun u hu => ?_) ?_ hcm
    · rw [putCells_zero _ _ _ (by simp; omega)]
      simp only [List.map_append, List.map_replicate, List.append_assoc, List.size_toArray, List.length_append, List.length_replicate, Nat.add_sub_cancel' hcl]
      rfl
    · obtain ⟨s, _, rfl⟩ := List.mem_map.1 hu; rfl
    · simp; omega
  · have h0 : ss = [] := List.eq_nil_of_length_eq_zero hz
    subst h0
    refine (Tryz.slices_Compact_string_empty none 0 w).mono ?_
    rintro e w' ⟨rfl, rfl⟩
    exact gpost_same hout hbl hbi hbj hB rfl (.bnil j hb) ⟨by rw [compact_nil]; rfl, by rw [compact_nil, set_self hj]⟩
end Go.Proofs.YtoindmahilbalaaGreat
namespace Go.Proofs.YtoindmahilbalaaGreat
open Abs
structure STO {α : Type} (lt : α → α → Bool) : Prop where
  irrefl : ∀ x, lt x x = false
  trans : ∀ x y z, lt x y = true → lt y z = true → lt x z = true
  tri : ∀ x y, lt x y = false → lt y x = false → x = y
section
variable {α : Type} {lt : α → α → Bool}
theorem STO.asymm (h : STO lt) {x y : α} (hxy : lt x y = true) : lt y x = false := by
  cases hyx : lt y x with
  | false => rfl
  | true => have := h.trans x y x hxy hyx; rw [h.irrefl] at this; cases this
def Asc (lt : α → α → Bool) (l : List α) : Prop := l.Pairwise fun x y => lt x y = true
theorem Asc.nodup (h : STO lt) {l : List α} (hl : Asc lt l) : l.Nodup := hl.imp fun {x y} hxy e => by subst e; rw [h.irrefl] at hxy; cases hxy
theorem Asc.unique (h : STO lt) : ∀ {l m : List α}, Asc lt l → Asc lt m → (∀ x, x ∈ l ↔ x ∈ m) → l = m
  | [], [], _, _, _ => rfl
  | [], y :: m, _, _, hm => absurd ((hm y).2 (by simp)) (by simp)
  | x :: l, [], _, _, hm => absurd ((hm x).1 (by simp)) (by simp)
  | x :: l, y :: m, hl, hr, hm => by
    obtain ⟨h1, h2⟩ := List.pairwise_cons.1 hl
    obtain ⟨h3, h4⟩ := List.pairwise_cons.1 hr
    have hxy : x = y := by
      rcases List.mem_cons.1 ((hm x).1 (by simp)) with e | hx
      · exact e
      · rcases List.mem_cons.1 ((hm y).2 (by simp)) with e | hy
        · exact e.symm
        · have := h.asymm (h3 x hx); rw [h1 y hy] at this; cases this
    subst hxy
    congr 1
    refine Asc.unique h h2 h4 fun z => ⟨fun hz => ?_, fun hz => ?_⟩
    · rcases List.mem_cons.1 ((hm z).1 (by simp [hz])) with e | hz'
      · subst e; have := h1 z hz; rw [h.irrefl] at this; cases this
      · exact hz'
    · rcases List.mem_cons.1 ((hm z).2 (by simp [hz])) with e | hz'
      · subst e; have := h3 z hz; rw [h.irrefl] at this; cases this
      · exact hz'
def ins (lt : α → α → Bool) (s : α) : Bool → List α → List α
  | d, [] => if d then [] else [s]
  | true, x :: l => x :: ins lt s true l
  | false, x :: l => if lt x s then x :: ins lt s false l else if lt s x then s :: x :: ins lt s true l else x :: ins lt s true l
theorem ins_true (s : α) : ∀ l, ins lt s true l = l
  | [] => rfl
  | x :: l => by rw [ins, ins_true s l]
theorem ins_mem (h : STO lt) (s : α) : ∀ l x, x ∈ ins lt s false l ↔ x = s ∨ x ∈ l
  | [], x => by simp [ins]
  | y :: l, x => by
    rw [ins]
    split
    · rw [List.mem_cons, ins_mem h s l x, List.mem_cons]
      exact ⟨fun h => by rcases h with h | h | h <;> simp [h], fun h => by rcases h with h | h | h <;> simp [h]⟩
    · rename_i h1
      split
      · rw [ins_true]; simp
      · rename_i h2
        rw [ins_true]
        have : y = s := h.tri y s (by simpa using h1) (by simpa using h2)
        subst this; simp
theorem ins_asc (h : STO lt) (s : α) : ∀ l, Asc lt l → Asc lt (ins lt s false l)
  | [], _ => by simp [ins, Asc]
  | y :: l, hl => by
    obtain ⟨h1, h2⟩ := List.pairwise_cons.1 hl
    rw [ins]
    split
    · rename_i hy
      refine List.pairwise_cons.2 ⟨fun z hz => ?_, ins_asc h s l h2⟩
      rcases (ins_mem h s l z).1 hz with rfl | hz
      · exact hy
      · exact h1 z hz
    · split
      · rename_i hs
        rw [ins_true]
        refine List.pairwise_cons.2 ⟨fun z hz => ?_, hl⟩
        rcases List.mem_cons.1 hz with rfl | hz
        · exact hs
        · exact h.trans _ _ _ hs (h1 z hz)
      · rw [ins_true]; exact hl
theorem ins_len (s : α) : ∀ (d : Bool) (l : List α), (ins lt s d l).length ≤ l.length + 1
  | true, l => by rw [ins_true]; omega
  | false, [] => by simp [ins]
  | false, y :: l => by
    have := ins_len s false l
    rw [ins]
    split
    · simp only [List.length_cons]; omega
    · split <;> simp [ins_true]
def insAll (lt : α → α → Bool) (l : List α) : List α := l.foldl (fun a s => ins lt s false a) []
theorem insAll_take_succ {l : List α} {i : Nat} (d : α) (h : i < l.length) : insAll lt (l.take (i + 1)) = ins lt (l.getD i d) false (insAll lt (l.take i)) := by
  unfold insAll; exact foldl_take_succ d _ _ h
theorem insAll_asc (h : STO lt) (l : List α) : Asc lt (insAll lt l) := by
  have : ∀ (l a : List α), Asc lt a → Asc lt (l.foldl (fun a s => ins lt s false a) a) := fun l => by
    induction l with
    | nil => exact fun a ha => ha
    | cons x l ih => exact fun a ha => ih _ (ins_asc h x a ha)
  exact this l [] .nil
theorem insAll_mem (h : STO lt) (l : List α) (x : α) : x ∈ insAll lt l ↔ x ∈ l := by
  have : ∀ (l a : List α), x ∈ l.foldl (fun a s => ins lt s false a) a ↔ x ∈ l ∨ x ∈ a := fun l => by
    induction l with
    | nil => simp
    | cons y l ih =>
      intro a
      rw [List.foldl_cons, ih, ins_mem h, List.mem_cons]
      exact ⟨fun h => by rcases h with h | h | h <;> simp [h], fun h => by rcases h with (h | h) | h <;> simp [h]⟩
  unfold insAll; simpa using this l []
theorem insAll_len (l : List α) : (insAll lt l).length ≤ l.length := by
  have : ∀ (l a : List α), (l.foldl (fun a s => ins lt s false a) a).length ≤ a.length + l.length := fun l => by
    induction l with
    | nil => simp
    | cons x l ih => intro a; have := ih (ins lt x false a); have := ins_len (lt := lt) x false a; simp only [List.foldl_cons, List.length_cons] at *; omega
  unfold insAll; simpa using this l []
variable [Inhabited α] [DecidableEq α]
theorem compact_asc (h : STO lt) (l : List α) (hs : l.Pairwise fun x y => lt y x = false) : Asc lt (Lib.compact l) ∧ ∀ x, x ∈ Lib.compact l ↔ x ∈ l := by
  have key : ∀ m, m ≤ l.length → Asc lt (Lib.compactUpTo l.toArray m) ∧ (∀ x, x ∈ Lib.compactUpTo l.toArray m ↔ x ∈ l.take m) := by
    intro m
    induction m with
    | zero => intro _; simp [Lib.compactUpTo, Asc]
    | succ m ih =>
      intro hm
      obtain ⟨i1, i2⟩ := ih (by omega)
      have hml : m < l.length := by omega
      have hgm : l.toArray[m]! = l[m] := by simp [hml]
      have htake : l.take (m + 1) = l.take m ++ [l[m]] := by rw [List.take_succ_eq_append_getElem hml]
      rw [Lib.compactUpTo_succ, htake]
      by_cases hk : Lib.keeps l.toArray m = true
      · rw [if_pos hk, hgm]
        refine ⟨List.pairwise_append.2 ⟨i1, by simp, fun x hx y hy => ?_⟩, fun x => by rw [List.mem_append, List.mem_append, i2]⟩
        simp only [List.mem_singleton] at hy; subst hy
        have hx' := (i2 x).1 hx
        obtain ⟨i, hi, hix⟩ := List.getElem_of_mem hx'
        have him : i < m := by simp at hi; omega
        have hil : i < l.length := by omega
        have hxl : l[i] = x := by rw [← hix]; simp
        have hpw := List.pairwise_iff_getElem.1 hs
        -- the one before is another one
        have hne : l[m] ≠ l[m - 1] := by
          simp only [Lib.keeps, decide_eq_true_eq] at hk
          rcases hk with hk | hk
          · omega
          · rw [hgm] at hk
            have : l.toArray[m - 1]! = l[m - 1] := by simp [show m - 1 < l.length by omega]
            rwa [this] at hk
        have hle1 : lt l[m] l[m - 1] = false := hpw (m - 1) m (by omega) hml (by omega)
        have hlt1 : lt l[m - 1] l[m] = true := by
          cases hc : lt l[m - 1] l[m] with
          | true => rfl
          | false => exact absurd (h.tri _ _ hle1 hc) hne
        by_cases him1 : i = m - 1
        · subst him1; rw [← hxl]; exact hlt1
        · have hle2 : lt l[m - 1] l[i] = false := hpw i (m - 1) hil (by omega) (by omega)
          cases hc : lt x l[m] with
          | true => rfl
          | false =>
            exfalso
            rw [← hxl] at hc
            cases hd : lt l[i] l[m - 1] with
            | true => have := h.trans _ _ _ hd hlt1; rw [this] at hc; cases hc
            | false => have := h.tri _ _ hd hle2; rw [this, hlt1] at hc; cases hc
      · rw [if_neg hk, List.append_nil]
        refine ⟨i1, fun x => ?_⟩
        rw [List.mem_append, i2, List.mem_singleton]
        refine ⟨.inl, fun hx => ?_⟩
        rcases hx with hx | rfl
        · exact hx
        · simp only [Lib.keeps, decide_eq_true_eq, not_or, Decidable.not_not] at hk
          have h2 : l.toArray[m - 1]! = l[m - 1] := by simp [show m - 1 < l.length by omega]
          rw [hgm, h2] at hk
          rw [hk.2]
          have h3 : m - 1 < (l.take m).length := by simp; omega
          have h4 : (l.take m)[m - 1] = l[m - 1] := by simp
          rw [← h4]; exact List.getElem_mem h3
  have := key l.length (Nat.le_refl _)
  rw [List.take_length] at this
  exact this
end
def blt (a b : Str) : Bool := Op.bytesLess a b
theorem blt_eq : ∀ a b : Str, blt a b = decide (a < b)
  | _, [] => by simp [blt, Op.bytesLess]
  | [], _ :: _ => by simp [blt, Op.bytesLess]
  | a :: x, b :: y => by
    have ih := blt_eq x y
    rw [blt] at ih ⊢
    rw [Op.bytesLess, ih]
    rw [Bool.eq_iff_iff]
    simp only [Bool.or_eq_true, Bool.and_eq_true, decide_eq_true_eq, beq_iff_eq]
    rw [List.cons_lt_cons_iff]
theorem blt_sto : STO blt where
  irrefl x := by rw [blt_eq]; simp [List.lt_irrefl]
  trans x y z h1 h2 := by rw [blt_eq, decide_eq_true_eq] at *; exact List.lt_trans h1 h2
  tri x y h1 h2 := by
    rw [blt_eq, decide_eq_false_iff_not] at *
    exact List.le_antisymm (List.not_lt.1 h2) (List.not_lt.1 h1)
end Go.Proofs.YtoindmahilbalaaGreat
namespace Go.Proofs.YtoindmahilbalaaGreat
open Abs
theorem ins_drop {α : Type} {lt : α → α → Bool} {s : α} {l : List α} {i : Nat} (e : α) (d : Bool) (hi : i < l.length) :
    ins lt s d (l.drop i) = if d then l.getD i e :: ins lt s true (l.drop (i + 1)) else if lt (l.getD i e) s then l.getD i e :: ins lt s false (l.drop (i + 1)) else if lt s (l.getD i e) then s :: l.getD i e :: ins lt s true (l.drop (i + 1)) else l.getD i e :: ins lt s true (l.drop (i + 1)) := by
  rw [List.drop_eq_getElem_cons hi]
  have : l.getD i e = l[i] := by simp [List.getD, hi]
  rw [this]
  cases d <;> rfl
theorem sPut.ret (l : List Str) (s : Str) (h : l.length ≤ 1048576) : sPut.Ret [.list none (strs l), .str s] (.list (some 0) (strs (ins blt s false l))) [(9, 1, (ins blt s false l).length)] := by
  refine sPut.ir.of rfl ?_
  repeat' first
    | (conv => whnf
       first | refine Need.mk rfl ?_)
  refine ALoop.mk (Nat × List Str × Bool) (fun a => ⟨[(0, .list none (strs l)), (1, .str s), (5, .list (some 0) (strs a.2.1)), (6, .val (.bool a.2.2)), (7, .val (.int .i64 a.1))], [], [(9, 1, a.2.1.length)]⟩)
    (fun a => a.1 ≤ l.length ∧ (a.2.1.length ≤ a.1 + 1 ∧ (a.2.2 = false → a.2.1.length ≤ a.1)) ∧ a.2.1 ++ ins blt s a.2.2 (l.drop a.1) = ins blt s false l) (fun a => l.length - a.1) ⟨(0, [], false), ⟨Nat.zero_le _, ⟨Nat.zero_le _, fun _ => Nat.zero_le _⟩, rfl⟩, ?_⟩ (fun a ha => ?_)
  · repeat' first
      | exact trivial | refine wl_ ?_ ?_ ?_ ?_ | refine And.intro ?_ ?_ | with_reducible rfl | exact ble_ | refine fr1 ?_ | refine AV.int_congr ?_ | refine AV.bool_congr ?_ | refine AV.str_congr ?_ | refine AV.list_congr ?_ | (apply rfl)
  obtain ⟨i, o, d⟩ := a
  obtain ⟨h1, h2, h3⟩ := ha
  simp only at h1 h2 h3 ⊢
  repeat' first
    | (conv => whnf
       first | refine Need.mk (fun h => h) ?_ | refine Need.mk rfl ?_ | refine Need.mk ?_ ?_ | refine Ix.strsF rfl ?_ | refine Fork.dec (fun _ => ?_) (fun _ => ?_) | refine Fork.sne (fun _ => ?_) (fun _ => ?_) | refine Fork.neg (fun _ => ?_) (fun _ => ?_) | refine Fork.mk (fun _ => ?_) (fun _ => ?_) | refine Round.mk ?_ | refine Lit.read rfl ?_ | refine Final.mk ?_ ?_)
    | refine AV.list_congr ?_ | refine fr1 ?_
  all_goals try simp only [length_strs, List.length_append, List.length_singleton, List.length_cons, List.length_nil, Int.toNat_natCast] at *
  all_goals try (intro c hc; rw [List.mem_singleton.1 hc]; rfl)
  all_goals try (cases d with
    | true => simp at *; done
    | false => have h4 := h2.2 rfl; constructor <;> omega)
  all_goals try (constructor <;> omega)
  · have hb := ‹(!d && !Op.bytesLess (l.getD i []) s) = true›
    have hne := ‹l.getD i [] ≠ s›
    obtain ⟨rfl, hlt⟩ : d = false ∧ blt (l.getD i []) s = false := by revert hb; cases d <;> simp [blt]
    rw [ins_drop [] false (by omega), if_neg (by simp), if_neg (by rw [hlt]; simp)] at h3
    have hgt : blt s (l.getD i []) = true := by
      cases hc : blt s (l.getD i []) with
      | true => rfl
      | false => exact absurd (blt_sto.tri _ _ hlt hc) hne
    rw [if_pos hgt] at h3
    refine ⟨(i + 1, o ++ [s] ++ [l.getD i []], true), ⟨by omega, ⟨by have := h2.2 rfl; simp; omega, by simp⟩, by simpa using h3⟩, ?_, by simp only; omega⟩
    repeat' first
      | exact trivial | refine wl_ ?_ ?_ ?_ ?_ | refine And.intro ?_ ?_ | with_reducible rfl | exact ble_ | refine fr1 ?_ | refine AV.int_congr ?_ | refine AV.bool_congr ?_ | refine AV.str_congr ?_ | refine AV.list_congr ?_ | (apply rfl)
    · rw [strs_append, strs_append]; rfl
    · rw [wrap64 (by omega) (by omega)]; rfl
    · simp
  · have hb := ‹(!d && !Op.bytesLess (l.getD i []) s) = true›
    have he := ‹l.getD i [] = s›
    obtain ⟨rfl, hlt⟩ : d = false ∧ blt (l.getD i []) s = false := by revert hb; cases d <;> simp [blt]
    rw [ins_drop [] false (by omega), if_neg (by simp), if_neg (by rw [hlt]; simp), if_neg (by rw [he, blt_sto.irrefl]; simp)] at h3
    refine ⟨(i + 1, o ++ [l.getD i []], true), ⟨by omega, ⟨by have := h2.2 rfl; simp; omega, by simp⟩, by simpa using h3⟩, ?_, by simp only; omega⟩
    repeat' first
      | exact trivial | refine wl_ ?_ ?_ ?_ ?_ | refine And.intro ?_ ?_ | with_reducible rfl | exact ble_ | refine fr1 ?_ | refine AV.int_congr ?_ | refine AV.bool_congr ?_ | refine AV.str_congr ?_ | refine AV.list_congr ?_ | (apply rfl)
    · rw [strs_append]; rfl
    · rw [wrap64 (by omega) (by omega)]; rfl
    · simp
  · have hb := ‹(!d && !Op.bytesLess (l.getD i []) s) = false›
    rw [ins_drop [] d (by omega)] at h3
    refine ⟨(i + 1, o ++ [l.getD i []], d), ⟨by omega, ⟨by simp; omega, fun hd => by have := h2.2 hd; simp; omega⟩, ?_⟩, ?_, by simp only; omega⟩
    · cases d with
      | true => rw [if_pos rfl] at h3; simpa using h3
      | false =>
        have hlt : blt (l.getD i []) s = true := by revert hb; simp [blt]
        rw [if_neg (by simp), if_pos hlt] at h3; simpa using h3
    repeat' first
      | exact trivial | refine wl_ ?_ ?_ ?_ ?_ | refine And.intro ?_ ?_ | with_reducible rfl | exact ble_ | refine fr1 ?_ | refine AV.int_congr ?_ | refine AV.bool_congr ?_ | refine AV.str_congr ?_ | refine AV.list_congr ?_ | (apply rfl)
    · rw [strs_append]; rfl
    · rw [wrap64 (by omega) (by omega)]; rfl
    · simp
  all_goals rw [List.drop_of_length_le (by omega)] at h3
  · have hd := ‹d = false›
    subst hd
    rw [← h3, strs_append]; rfl
  · have hd := ‹d = false›
    subst hd
    rw [← h3]; simp [ins]
  · have hd := ‹d = true›
    subst hd
    rw [← h3]; simp [ins]
  · have hd := ‹d = true›
    subst hd
    rw [← h3]; simp [ins]
def accS (l : List Str) (i : Nat) : List Str := insAll blt (l.take i)
def frS (l : List Str) (i : Nat) : Fr := (List.range (i + 1)).map fun k => (9, 1, (accS l k).length)
theorem frS_succ (l : List Str) (i : Nat) : frS l (i + 1) = frS l i ++ [(9, 1, (accS l (i + 1)).length)] := by
  unfold frS; rw [List.range_succ (n := i + 1), List.map_append]; rfl
theorem frS_len (l : List Str) (i : Nat) : (frS l i).length = i + 1 := by simp [frS]
theorem srt_asc (l : List Str) : (srt l).Pairwise fun x y => blt y x = false := by
  have h := List.pairwise_mergeSort (le := fun x y : Str => decide (x ≤ y)) (fun a b c h1 h2 => by simp at *; exact List.le_trans h1 h2) (fun a b => by simp; exact List.le_total a b) l
  exact h.imp fun {x y} hxy => by rw [blt_eq, decide_eq_false_iff_not]; simpa using hxy
theorem srt_mem (l : List Str) (x : Str) : x ∈ srt l ↔ x ∈ l := List.mem_mergeSort
theorem compact_srt (l : List Str) : Lib.compact (srt l) = insAll blt l := by
  obtain ⟨h1, h2⟩ := compact_asc blt_sto (srt l) (srt_asc l)
  exact Asc.unique blt_sto h1 (insAll_asc blt_sto l) fun x => by rw [h2, srt_mem, insAll_mem blt_sto]
theorem slClone.own (l : List Str) (h : l.length ≤ 1048576) : slClone.Own [.list none (strs l)] (strT l) :=
  (slClone.ret l h).own [0] (.l _ _ _ 0 (strs l) (by simp) (by simp) (fun e he => by obtain ⟨s, _, rfl⟩ := List.mem_map.1 he; rfl) (strs_sz _) (own_strs _ l) .nil) (by simp)
theorem pSortedTexts.ret (l : List Str) (h : l.length ≤ 1048576) : pSortedTexts.Ret [.list none (strs l)] (.list (some 0) (strs (insAll blt l))) [(9, 1, (insAll blt l).length)] := by
  refine pSortedTexts.ir.of rfl ?_
  conv => whnf
  refine ACall.unb [.list none (strs l)] (strT l) (slClone.own l h) (.cons (SeesB.of0 (Sees0.olds _ _)) .nil) ?_
  rw [gv_strT, gb_strT]
  conv => whnf
  refine ACall.ctx rfl _ _ _ (slSort.ctx [.cells (.row 9 1) (l.map .str)] 0 l rfl (by omega)) (.lend _ _ noTk_texts .nil) (.cons (.inl ⟨rfl, rfl⟩) .nil) ?_
  rintro r b1 ⟨rfl, rfl⟩
  have hlen : (srt l).length = l.length := List.length_mergeSort _
  conv => whnf
  refine ACall.ctx rfl _ _ _ (slCompact.ctx [.cells (.row 9 1) ((srt l).map .str)] 0 (srt l) rfl (by omega)) (.lend _ _ noTk_texts .nil) (.cons (.inl ⟨by rw [hlen]; rfl, rfl⟩) .nil) ?_
  rintro r b1 ⟨rfl, rfl⟩
  rw [compact_srt]
  conv => whnf
  refine FreezeD.flat (Freeze.mk (strs (insAll blt l)) ((insAll blt l).map .str) 9 1 rfl (strs_flatten _).symm (by simp) (strs_sz _) (fun c hc => ?_) ?_)
  · obtain ⟨s, _, rfl⟩ := List.mem_map.1 hc; rfl
  · exact Final.mk rfl rfl
end Go.Proofs.YtoindmahilbalaaGreat
namespace Go.Proofs.YtoindmahilbalaaGreat
open Abs
theorem frS_snoc (m : List Str) (x : Str) : frS (m ++ [x]) (m.length + 1) = frS m m.length ++ [(9, 1, (insAll blt (m ++ [x])).length)] := by
  have h1 : (m ++ [x]).length = m.length + 1 := by simp
  rw [frS_succ]
  congr 1
  · unfold frS
    refine List.map_congr_left fun k hk => ?_
    have : k ≤ m.length := by have := List.mem_range.1 hk; omega
    simp only [accS, List.take_append_of_le_length this]
  · rw [accS, ← h1, List.take_length]
theorem ins_snoc (m : List Str) (x : Str) : insAll blt (m ++ [x]) = ins blt x false (insAll blt m) := by
  have h := insAll_take_succ (lt := blt) (l := m ++ [x]) (i := m.length) [] (by simp)
  rw [List.take_of_length_le (by simp), List.take_append_of_le_length (Nat.le_refl _), List.take_length] at h
  rw [h]; simp
def vs (l : List Str) : List Str := l.filter varF
theorem vs_yes {l : List Str} {i : Nat} (hi : i < l.length) (h : varF (l.getD i []) = true) : vs (l.take (i + 1)) = vs (l.take i) ++ [l.getD i []] := by
  rw [take_succ' [] hi, vs, List.filter_append]
  simp only [List.filter_cons, h]; simp [vs]
theorem vs_no {l : List Str} {i : Nat} (hi : i < l.length) (h : varF (l.getD i []) = false) : vs (l.take (i + 1)) = vs (l.take i) := by
  rw [take_succ' [] hi, vs, List.filter_append]
  simp only [List.filter_cons, h]; simp [vs]
theorem vs_len (l : List Str) (i : Nat) : (vs (l.take i)).length ≤ l.length := by
  refine Nat.le_trans (List.length_filter_le _ _) ?_
  rw [List.length_take]; omega
theorem insAll_le (l : List Str) : (insAll blt l).length ≤ l.length := insAll_len l
theorem own_row {mo : Bool} {P : Program} {f : Nat} {args : List AV} {F : Fr} {l : List Str} {k : Nat} (hk : F[k]? = some (9, 1, l.length)) (h : Abs.Ret mo P f args (.list (some k) (strs l)) F) : Abs.Own mo P f args (strT l) := by
  refine h.own [k] ?_ (by simp)
  exact .l _ _ _ k (strs l) (by simpa using hk) (by simp) (fun e he => by obtain ⟨s, _, rfl⟩ := List.mem_map.1 he; rfl) (strs_sz _) (own_strs F l) .nil
theorem sVarsOf.ret (f : VPattern) (h : tPattern.size f ≤ 1048576) : sVarsOf.Ret [.agg (oldL (tPattern.q f))] (.list (some (vs f.2).length) (strs (insAll blt (vs f.2)))) (frS (vs f.2) (vs f.2).length) := by
  refine sVarsOf.ir.of rfl ?_
  have h : tFct.size f ≤ 1048576 := h
  rw [tFct_size, tStrs_size] at h
  repeat' first
    | (conv => whnf
       first | refine Need.mk rfl ?_)
  refine ALoop.mk Nat (fun i => ⟨[(1, .bptr 0 0), (3, .list (some (vs (f.2.take i)).length) (strs (insAll blt (vs (f.2.take i))))), (4, .val (.int .i64 i))], [.cells .var (oldL (tPattern.q f))], frS (vs (f.2.take i)) (vs (f.2.take i)).length⟩) (fun i => i ≤ f.2.length) (fun i => f.2.length - i) ⟨0, Nat.zero_le _, ?_⟩ (fun i hi => ?_)
  · repeat' first
      | exact trivial | refine wl_ ?_ ?_ ?_ ?_ | refine And.intro ?_ ?_ | exact ble_ | refine fr1 ?_ | refine AV.int_congr ?_ | refine AV.list_congr ?_ | (apply rfl)
  have hlen := vs_len f.2 i
  have hil := insAll_le (vs (f.2.take i))
  repeat' first
    | (conv => whnf
       first | refine Need.mk rfl ?_ | refine Ix.strsF rfl ?_ | refine Fork.dec (fun _ => ?_) (fun _ => ?_) | refine Fork.mk (fun _ => ?_) (fun _ => ?_) | refine Round.mk ?_ | refine Final.mk ?_ ?_ | refine ACall.scalA _ _ (sIsVar.ret _ ?_) rfl ?_ | refine ACall.mkStrs _ _ (sPut.ret _ _ ?_) (by repeat' first | exact SeesL.nil | refine SeesL.cons ?_ ?_ | exact SeesB.of0 (Sees0.val _) | exact SeesB.of0 (Sees0.str _) | exact SeesB.of0 (Sees0.olds _ _) | exact SeesB.of0 (Sees0.old _) | exact SeesB.of0 (Sees0.oldagg _) | exact SeesB.of0 Sees0.nil | exact Sees0.val _ | exact Sees0.str _ | exact Sees0.olds _ _ | exact Sees0.old _ | exact Sees0.oldagg _ | exact Sees0.nil | exact SeesB.of0 (Sees0.any _) | assumption | exact sees_gv _ _ _ (by assumption) (by first | assumption | exact BoxIn.last _ _ | exact BoxIn.more (BoxIn.last _ _) _) | refine SeesB.agg ?_ | refine Sees0.agg ?_ | exact SeesB.of0 (Sees0.clo SeesL.nil SeesL.nil) | exact Sees0.clo SeesL.nil SeesL.nil | exact SeesB.of0 (Sees0.list rfl) | exact Sees0.list rfl) ?_)
  all_goals try simp only [length_rows, length_strs, length_oldLL, List.length_map, Int.toNat_natCast] at *
  · have := str_le (l := f.2) (i := i) (by omega); omega
  · omega
  · rename_i h1 h2
    refine ⟨i + 1, by omega, ?_, by omega⟩
    have hs : (vs (f.2.take i) ++ [f.2.getD i []]).length = (vs (f.2.take i)).length + 1 := by simp
    repeat' first
      | exact trivial | refine wl_ ?_ ?_ ?_ ?_ | refine And.intro ?_ ?_ | exact ble_ | refine AV.int_congr ?_ | (apply rfl)
    · show AV.list (some (frS (vs (f.2.take i)) (vs (f.2.take i)).length).length) (strs (ins blt (f.2.getD i []) false (insAll blt (vs (f.2.take i))))) = _
      rw [vs_yes (by omega) h1, ins_snoc, frS_len, hs]
    · rw [wrap64 (by omega) (by omega)]; rfl
    · rw [vs_yes (by omega) h1, hs, frS_snoc, ins_snoc]
  · rename_i h1 h2
    refine ⟨i + 1, by omega, ?_, by omega⟩
    repeat' first
      | exact trivial | refine wl_ ?_ ?_ ?_ ?_ | refine And.intro ?_ ?_ | exact ble_ | refine AV.int_congr ?_ | (apply rfl)
    · rw [vs_no (by omega) h1] <;> rfl
    · rw [wrap64 (by omega) (by omega)]; rfl
    · rw [vs_no (by omega) h1]
  · rw [List.take_of_length_le (by omega)]
  · rw [List.take_of_length_le (by omega)]
theorem sVarsOf.own (f : VPattern) (h : tPattern.size f ≤ 1048576) : sVarsOf.Own [.agg (oldL (tPattern.q f))] (strT (insAll blt (vs f.2))) := own_row (by simp [frS, accS]) (sVarsOf.ret f h)
theorem vs_sz : ∀ l : List Str, (vs l).length ≤ listSize Ty.str l
  | [] => Nat.le_refl _
  | x :: l => by
    have ih := vs_sz l
    have e : listSize Ty.str (x :: l) = x.length + listSize Ty.str l := rfl
    rw [vs, List.filter_cons, e]
    split
    · rename_i hv
      have : 1 < x.length := by
        unfold varF at hv
        simp only [Bool.and_eq_true, decide_eq_true_eq] at hv
        omega
      rw [List.length_cons]
      have ih : (List.filter varF l).length ≤ _ := ih
      omega
    · have ih : (List.filter varF l).length ≤ _ := ih
      omega
theorem pvarsAmong.ret (l : List Str) (h : l.length ≤ 2097152) (hz : listSize Ty.str l ≤ 1048576) : pvarsAmong.Ret [.list none (strs l)] (.list (some 1) (strs (insAll blt (vs l)))) [(9, 1, (vs l).length), (9, 1, (insAll blt (vs l)).length)] := by
  refine pvarsAmong.ir.of rfl ?_
  repeat' first
    | (conv => whnf
       first | refine Need.mk rfl ?_)
  refine ALoop.mk Nat (fun i => ⟨[(0, .list none (strs l)), (3, .list (some 0) (strs (vs (l.take i)))), (7, .list none (strs l)), (8, .val (.int .i64 l.length)), (9, .val (.int .i64 i))], [], [(9, 1, (vs (l.take i)).length)]⟩) (fun i => i ≤ l.length) (fun i => l.length - i) ⟨0, Nat.zero_le _, ?_⟩ (fun i hi => ?_)
  · repeat' first
      | exact trivial | refine wl_ ?_ ?_ ?_ ?_ | refine And.intro ?_ ?_ | with_reducible rfl | exact ble_ | refine fr1 ?_ | refine AV.int_congr ?_ | refine AV.list_congr ?_ | (apply rfl)
    simp
  have hlen := vs_len l i
  have hvz := Nat.le_trans (vs_sz (l.take i)) (listSize_take_le Ty.str l i)
  repeat' first
    | (conv => whnf
       first | refine Need.mk rfl ?_ | refine Need.mk ?_ ?_ | refine Ix.strsF rfl ?_ | refine Fork.dec (fun _ => ?_) (fun _ => ?_) | refine Fork.mk (fun _ => ?_) (fun _ => ?_) | refine Round.mk ?_ | refine Lit.read rfl ?_ | refine Final.mk ?_ ?_ | refine ACall.scalA _ _ (pIsVar.ret _ ?_) rfl ?_ | refine ACall.mkStrs _ _ (pSortedTexts.ret _ ?_) (by repeat' first | exact SeesL.nil | refine SeesL.cons ?_ ?_ | exact SeesB.of0 (Sees0.val _) | exact SeesB.of0 (Sees0.str _) | exact SeesB.of0 (Sees0.olds _ _) | exact SeesB.of0 (Sees0.old _) | exact SeesB.of0 (Sees0.oldagg _) | exact SeesB.of0 Sees0.nil | exact Sees0.val _ | exact Sees0.str _ | exact Sees0.olds _ _ | exact Sees0.old _ | exact Sees0.oldagg _ | exact Sees0.nil | exact SeesB.of0 (Sees0.any _) | assumption | exact sees_gv _ _ _ (by assumption) (by first | assumption | exact BoxIn.last _ _ | exact BoxIn.more (BoxIn.last _ _) _) | refine SeesB.agg ?_ | refine Sees0.agg ?_ | exact SeesB.of0 (Sees0.clo SeesL.nil SeesL.nil) | exact Sees0.clo SeesL.nil SeesL.nil | exact SeesB.of0 (Sees0.list rfl) | exact Sees0.list rfl) ?_)
    | refine AV.list_congr ?_ | refine fr2 ?_ ?_
  all_goals try simp only [length_rows, length_strs, length_oldLL, List.length_map, Int.toNat_natCast] at *
  · have := str_le (l := l) (i := i) (by omega); omega
  · intro c hc; rw [List.mem_singleton.1 hc]; rfl
  · simp only [List.length_singleton]; omega
  · rename_i h1 h2
    refine ⟨i + 1, by omega, ?_, by omega⟩
    repeat' first
      | exact trivial | refine wl_ ?_ ?_ ?_ ?_ | refine And.intro ?_ ?_ | with_reducible rfl | exact ble_ | refine fr1 ?_ | refine AV.int_congr ?_ | refine AV.list_congr ?_ | (apply rfl)
    · rw [vs_yes (by omega) h2, strs_append] <;> rfl
    · rw [wrap64 (by omega) (by omega)]; rfl
    · rw [vs_yes (by omega) h2, List.length_append] <;> rfl
  · rename_i h1 h2
    refine ⟨i + 1, by omega, ?_, by omega⟩
    repeat' first
      | exact trivial | refine wl_ ?_ ?_ ?_ ?_ | refine And.intro ?_ ?_ | with_reducible rfl | exact ble_ | refine fr1 ?_ | refine AV.int_congr ?_ | refine AV.list_congr ?_ | (apply rfl)
    · rw [vs_no (by omega) h2] <;> rfl
    · rw [wrap64 (by omega) (by omega)]; rfl
    · rw [vs_no (by omega) h2]
  · omega
  all_goals rw [List.take_of_length_le (by omega)]
theorem pVarsOf.ret (f : VPattern) (h : tPattern.size f ≤ 1048576) : pVarsOf.Ret [.agg (oldL (tPattern.q f))] (.list (some 1) (strs (insAll blt (vs f.2)))) [(9, 1, (vs f.2).length), (9, 1, (insAll blt (vs f.2)).length)] := by
  refine pVarsOf.ir.of rfl ?_
  have h : tFct.size f ≤ 1048576 := h
  rw [tFct_size, tStrs_size] at h
  repeat' first
    | (conv => whnf
       first | refine Final.mk ?_ rfl | refine ACall.mkR _ _ _ (pvarsAmong.ret _ ?_ ?_) ?_)
    | refine AV.list_congr ?_
  · omega
  · omega
  · exact mapTLL_old _ _
theorem pVarsOf.own (f : VPattern) (h : tPattern.size f ≤ 1048576) : pVarsOf.Own [.agg (oldL (tPattern.q f))] (strT (insAll blt (vs f.2))) := own_row rfl (pVarsOf.ret f h)
theorem notin_succ {l : List Str} {x : Str} {i : Nat} (hi : i < l.length) (h : x ∉ l.take i) (hc : l.getD i [] ≠ x) : x ∉ l.take (i + 1) := by
  rw [take_succ' [] hi, List.mem_append, List.mem_singleton]
  rintro (h1 | h1)
  · exact h h1
  · exact hc h1.symm
theorem in_of {l : List Str} {x : Str} {i : Nat} (hi : i < l.length) (h : l.getD i [] = x) : x ∈ l := by
  rw [← h]; simp [List.getD, hi]
theorem sHasText.ret (l : List Str) (x : Str) (h : l.length ≤ 1048576) : sHasText.Ret [.list none (strs l), .str x] (.val (.bool (decide (x ∈ l)))) [] := by
  refine sHasText.ir.of rfl ?_
  skip
  refine ALoop.mk Nat (fun i => ⟨[(0, .list none (strs l)), (1, .str x), (5, .val (.int .i64 i))], [], []⟩) (fun i => i ≤ l.length ∧ x ∉ l.take i) (fun i => l.length - i) ⟨0, ⟨Nat.zero_le _, by simp⟩, ?_⟩ (fun i hi => ?_)
  · repeat' first
      | exact trivial | refine wl_ ?_ ?_ ?_ ?_ | refine And.intro ?_ ?_ | with_reducible rfl | exact ble_ | refine AV.int_congr ?_ | refine AV.str_congr ?_ | refine AV.list_congr ?_ | (apply rfl)
  repeat' first
    | (conv => whnf
       first | refine Need.mk rfl ?_ | refine Ix.strsF rfl ?_ | refine Fork.dec (fun _ => ?_) (fun _ => ?_) | refine Fork.seq (fun _ => ?_) (fun _ => ?_) | refine Round.mk ?_ | refine FinVal.keep ?_ | refine Final.mk ?_ rfl)
    | refine AV.bool_congr ?_
  all_goals try simp only [length_rows, length_strs, length_oldLL, List.length_map, Int.toNat_natCast] at *
  · rename_i h1 h2
    simp [in_of (by omega) h1]
  · rename_i h1 h2
    refine ⟨i + 1, ⟨by omega, notin_succ (by omega) hi.2 h1⟩, ?_, by omega⟩
    repeat' first
      | exact trivial | refine wl_ ?_ ?_ ?_ ?_ | refine And.intro ?_ ?_ | with_reducible rfl | exact ble_ | refine AV.int_congr ?_ | refine AV.str_congr ?_ | refine AV.list_congr ?_ | (apply rfl)
    rw [wrap64 (by omega) (by omega)]; rfl
  · have := hi.2
    rw [List.take_of_length_le (by omega)] at this
    simp [this]
def idxS : List Str → Str → Int → Int
  | [], _, _ => -1
  | g :: l, f, n => if g = f then n else idxS l f (n + 1)
theorem idxS_drop {l : List Str} {f : Str} {i : Nat} (hi : i < l.length) : idxS (l.drop i) f i = if l.getD i [] = f then (i : Int) else idxS (l.drop (i + 1)) f ((i + 1 : Nat) : Int) := by
  rw [List.drop_eq_getElem_cons hi, idxS]
  simp [List.getD, hi]
theorem idxS_in : ∀ (l : List Str) (x : Str) (n : Int), 0 ≤ n → (0 ≤ idxS l x n ↔ x ∈ l)
  | [], _, _, _ => by simp [idxS]
  | g :: l, x, n, hn => by
    rw [idxS]
    split
    · rename_i h; simp [h, hn]
    · rename_i h; rw [idxS_in l x (n + 1) (by omega)]; simp [Ne.symm h]
theorem slIndex.ret (l : List Str) (x : Str) (h : l.length ≤ 1048576) : slIndex.Ret [.list none (strs l), .str x] (.val (.int .i64 (idxS l x 0))) [] := by
  refine slIndex.ir.of rfl ?_
  skip
  refine ALoop.mk Nat (fun i => ⟨[(0, .list none (strs l)), (1, .str x), (7, .val (.int .i64 l.length)), (8, .val (.int .i64 i))], [], []⟩) (fun i => i ≤ l.length ∧ idxS (l.drop i) x i = idxS l x 0) (fun i => l.length - i) ⟨0, ⟨Nat.zero_le _, rfl⟩, ?_⟩ (fun i hi => ?_)
  · repeat' first
      | exact trivial | refine wl_ ?_ ?_ ?_ ?_ | refine And.intro ?_ ?_ | with_reducible rfl | exact ble_ | refine AV.int_congr ?_ | refine AV.str_congr ?_ | refine AV.list_congr ?_ | (apply rfl)
    simp
  repeat' first
    | (conv => whnf
       first | refine Need.mk rfl ?_ | refine Ix.strsF rfl ?_ | refine Fork.dec (fun _ => ?_) (fun _ => ?_) | refine Fork.seq (fun _ => ?_) (fun _ => ?_) | refine Round.mk ?_ | refine FinVal.keep ?_ | refine Final.mk ?_ rfl)
    | refine AV.int_congr ?_
  all_goals try simp only [length_rows, length_strs, length_oldLL, List.length_map, Int.toNat_natCast] at *
  · rename_i h1 h2
    rw [← hi.2, idxS_drop (by omega), if_pos h2.symm]
  · rename_i h1 h2
    have h3 := hi.2
    rw [idxS_drop (by omega), if_neg (fun e => h2 e.symm)] at h3
    refine ⟨i + 1, ⟨by omega, h3⟩, ?_, by omega⟩
    repeat' first
      | exact trivial | refine wl_ ?_ ?_ ?_ ?_ | refine And.intro ?_ ?_ | with_reducible rfl | exact ble_ | refine AV.int_congr ?_ | refine AV.str_congr ?_ | refine AV.list_congr ?_ | (apply rfl)
    rw [wrap64 (by omega) (by omega)]; rfl
  · rw [← hi.2, List.drop_eq_nil_of_le (by omega)]; rfl
theorem slContains.ret (l : List Str) (x : Str) (h : l.length ≤ 1048576) : slContains.Ret [.list none (strs l), .str x] (.val (.bool (decide (x ∈ l)))) [] := by
  refine slContains.ir.of rfl ?_
  repeat' first
    | (conv => whnf
       first | refine Need.mk rfl ?_ | refine FinVal.keep ?_ | refine Final.mk ?_ rfl | refine ACall.scalA _ _ (slIndex.ret _ _ ?_) rfl ?_)
    | refine AV.bool_congr ?_
  · exact h
  · rw [Bool.eq_iff_iff]; simpa using idxS_in l x 0 (by omega)
end Go.Proofs.YtoindmahilbalaaGreat
namespace Go.Proofs
open Go.RowKit Go.Maps Go.Sort Go.Shelf
def Tryz.keys208_ren : Go.Shelf.Ren := ⟨fun | 7 => 208 | 10 => 223 | n => n, fun | 23 => 180 | 26 => 9 | 3 => 9 | 28 => 203 | 0 => 0 | 27 => 202 | 33 => 112 | 4 => 4 | n => n, fun | n => n⟩
theorem Tryz.keys208 : Go.Proofs.SlLaysZ.n7 Tryz.prog Tryz.keys208_ren := {
  mixed := by kernel_rfl
  f7 := ⟨Tryz.f208.name, by decide, Tryz.func208.trans (congrArg some (by kernel_rfl))⟩
  f10 := ⟨Tryz.f223.name, by decide, Tryz.func223.trans (congrArg some (by kernel_rfl))⟩
  t0 := Tryz.underlying0
  a0 := Tryz.isAgg0
  z0 := Tryz.sizeOf0
  v0 := Tryz.zeroValue0
  t4 := Tryz.underlying4
  a4 := Tryz.isAgg4
  z4 := Tryz.sizeOf4
  v4 := Tryz.zeroValue4
  t23 := Tryz.underlying180
  a23 := Tryz.isAgg180
  z23 := Tryz.sizeOf180
  v23 := Tryz.zeroValue180
  t26 := Tryz.underlying9
  a26 := Tryz.isAgg9
  z26 := Tryz.sizeOf9
  v26 := Tryz.zeroValue9
  t27 := Tryz.underlying202
  a27 := Tryz.isAgg202
  z27 := Tryz.sizeOf202
  v27 := Tryz.zeroValue202
  t28 := Tryz.underlying203
  a28 := Tryz.isAgg203
  z28 := Tryz.sizeOf203
  v28 := Tryz.zeroValue203
  t33 := Tryz.underlying112
  a33 := Tryz.isAgg112
  z33 := Tryz.sizeOf112
  v33 := Tryz.zeroValue112 }
def Tryz.sorted207_ren : Go.Shelf.Ren := ⟨fun | 6 => 207 | 8 => 222 | 9 => 180 | 11 => 233 | 13 => 204 | 12 => 203 | 23 => 220 | 24 => 221 | 14 => 211 | 15 => 212 | 16 => 213 | 17 => 214 | 18 => 215 | 19 => 216 | 20 => 217 | 21 => 218 | 22 => 219 | 25 => 228 | 26 => 229 | 27 => 230 | 28 => 231 | 29 => 232 | 30 => 182 | 31 => 235 | n => n, fun | 26 => 9 | 28 => 203 | 24 => 77 | 0 => 0 | 3 => 3 | 37 => 199 | 48 => 216 | 50 => 218 | 4 => 4 | 40 => 210 | 39 => 209 | 45 => 168 | 5 => 5 | 9 => 9 | 51 => 219 | 55 => 223 | 57 => 226 | 58 => 227 | 33 => 112 | n => n, fun | n => n⟩
theorem Tryz.sorted207 : Go.Proofs.SlLaysZ.n6 Tryz.prog Tryz.sorted207_ren := {
  mixed := by kernel_rfl
  f6 := ⟨Tryz.f207.name, by decide, Tryz.func207.trans (congrArg some (by kernel_rfl))⟩
  f8 := ⟨Tryz.f222.name, by decide, Tryz.func222.trans (congrArg some (by kernel_rfl))⟩
  f11 := ⟨Tryz.f233.name, by decide, Tryz.func233.trans (congrArg some (by kernel_rfl))⟩
  t0 := Tryz.underlying0
  a0 := Tryz.isAgg0
  z0 := Tryz.sizeOf0
  v0 := Tryz.zeroValue0
  t24 := Tryz.underlying77
  a24 := Tryz.isAgg77
  z24 := Tryz.sizeOf77
  v24 := Tryz.zeroValue77
  t26 := Tryz.underlying9
  a26 := Tryz.isAgg9
  z26 := Tryz.sizeOf9
  v26 := Tryz.zeroValue9
  t28 := Tryz.underlying203
  a28 := Tryz.isAgg203
  z28 := Tryz.sizeOf203
  v28 := Tryz.zeroValue203
  i26 := by kernel_rfl }
def Tryz.sort180_ren : Go.Shelf.Ren := ⟨fun | 6 => 180 | 8 => 204 | 9 => 203 | 19 => 220 | 20 => 221 | 21 => 211 | 22 => 212 | 23 => 213 | 24 => 214 | 25 => 215 | 26 => 216 | 27 => 217 | 28 => 218 | 29 => 219 | 36 => 228 | 31 => 229 | 32 => 230 | 37 => 231 | 38 => 232 | 39 => 182 | 41 => 235 | n => n, fun | 27 => 77 | 29 => 9 | 3 => 3 | 32 => 199 | 26 => 77 | 0 => 0 | 44 => 216 | 46 => 218 | 4 => 4 | 36 => 210 | 35 => 209 | 41 => 168 | 5 => 5 | 9 => 9 | 53 => 219 | 57 => 223 | 63 => 226 | 64 => 227 | n => n, fun | n => n⟩
theorem Tryz.sort180 : Go.Proofs.SlLaysM.n6 Tryz.prog Tryz.sort180_ren := {
  mixed := by kernel_rfl
  f6 := ⟨Tryz.f180.name, by decide, Tryz.func180.trans (congrArg some (by kernel_rfl))⟩
  f8 := Tryz.func204.trans (congrArg some (by kernel_rfl))
  f9 := ⟨Tryz.f203.name, by decide, Tryz.func203.trans (congrArg some (by kernel_rfl))⟩
  f19 := Tryz.func220.trans (congrArg some (by kernel_rfl))
  f20 := Tryz.func221.trans (congrArg some (by kernel_rfl))
  f21 := ⟨Tryz.f211.name, by decide, Tryz.func211.trans (congrArg some (by kernel_rfl))⟩
  f22 := ⟨Tryz.f212.name, by decide, Tryz.func212.trans (congrArg some (by kernel_rfl))⟩
  f23 := ⟨Tryz.f213.name, by decide, Tryz.func213.trans (congrArg some (by kernel_rfl))⟩
  f24 := ⟨Tryz.f214.name, by decide, Tryz.func214.trans (congrArg some (by kernel_rfl))⟩
  f25 := ⟨Tryz.f215.name, by decide, Tryz.func215.trans (congrArg some (by kernel_rfl))⟩
  f26 := ⟨Tryz.f216.name, by decide, Tryz.func216.trans (congrArg some (by kernel_rfl))⟩
  f27 := ⟨Tryz.f217.name, by decide, Tryz.func217.trans (congrArg some (by kernel_rfl))⟩
  f28 := ⟨Tryz.f218.name, by decide, Tryz.func218.trans (congrArg some (by kernel_rfl))⟩
  f29 := ⟨Tryz.f219.name, by decide, Tryz.func219.trans (congrArg some (by kernel_rfl))⟩
  f31 := Tryz.func229.trans (congrArg some (by kernel_rfl))
  f32 := Tryz.func230.trans (congrArg some (by kernel_rfl))
  f36 := ⟨Tryz.f228.name, by decide, Tryz.func228.trans (congrArg some (by kernel_rfl))⟩
  f37 := ⟨Tryz.f231.name, by decide, Tryz.func231.trans (congrArg some (by kernel_rfl))⟩
  f38 := ⟨Tryz.f232.name, by decide, Tryz.func232.trans (congrArg some (by kernel_rfl))⟩
  f39 := ⟨Tryz.f182.name, by decide, Tryz.func182.trans (congrArg some (by kernel_rfl))⟩
  f41 := ⟨Tryz.f235.name, by decide, Tryz.func235.trans (congrArg some (by kernel_rfl))⟩
  t0 := Tryz.underlying0
  a0 := Tryz.isAgg0
  z0 := Tryz.sizeOf0
  v0 := Tryz.zeroValue0
  t3 := Tryz.underlying3
  a3 := Tryz.isAgg3
  z3 := Tryz.sizeOf3
  v3 := Tryz.zeroValue3
  t4 := Tryz.underlying4
  a4 := Tryz.isAgg4
  z4 := Tryz.sizeOf4
  v4 := Tryz.zeroValue4
  t5 := Tryz.underlying5
  a5 := Tryz.isAgg5
  z5 := Tryz.sizeOf5
  v5 := Tryz.zeroValue5
  t9 := Tryz.underlying9
  a9 := Tryz.isAgg9
  z9 := Tryz.sizeOf9
  v9 := Tryz.zeroValue9
  t26 := Tryz.underlying77
  a26 := Tryz.isAgg77
  z26 := Tryz.sizeOf77
  v26 := Tryz.zeroValue77
  t27 := Tryz.underlying77
  a27 := Tryz.isAgg77
  z27 := Tryz.sizeOf77
  v27 := Tryz.zeroValue77
  t29 := Tryz.underlying9
  a29 := Tryz.isAgg9
  z29 := Tryz.sizeOf9
  v29 := Tryz.zeroValue9
  t32 := Tryz.underlying199
  a32 := Tryz.isAgg199
  z32 := Tryz.sizeOf199
  v32 := Tryz.zeroValue199
  t35 := Tryz.underlying209
  a35 := Tryz.isAgg209
  z35 := Tryz.sizeOf209
  v35 := Tryz.zeroValue209
  t36 := Tryz.underlying210
  a36 := Tryz.isAgg210
  z36 := Tryz.sizeOf210
  v36 := Tryz.zeroValue210
  t41 := Tryz.underlying168
  a41 := Tryz.isAgg168
  z41 := Tryz.sizeOf168
  v41 := Tryz.zeroValue168
  t44 := Tryz.underlying216
  a44 := Tryz.isAgg216
  z44 := Tryz.sizeOf216
  v44 := Tryz.zeroValue216
  t46 := Tryz.underlying218
  a46 := Tryz.isAgg218
  z46 := Tryz.sizeOf218
  v46 := Tryz.zeroValue218
  t53 := Tryz.underlying219
  a53 := Tryz.isAgg219
  z53 := Tryz.sizeOf219
  v53 := Tryz.zeroValue219
  t57 := Tryz.underlying223
  a57 := Tryz.isAgg223
  z57 := Tryz.sizeOf223
  v57 := Tryz.zeroValue223
  t63 := Tryz.underlying226
  a63 := Tryz.isAgg226
  z63 := Tryz.sizeOf226
  v63 := Tryz.zeroValue226
  t64 := Tryz.underlying227
  a64 := Tryz.isAgg227
  z64 := Tryz.sizeOf227
  v64 := Tryz.zeroValue227 }
theorem Tryz.sorts207 (m : Nat) : AnyZ.SortsIn Tryz.prog Tryz.sorted207_ren Fence.wide m :=
  ⟨fun blk off cap ss W hH hblk hsz => callsIn_wide.2 (AnyM.slices_Sort_string Tryz.sort180 blk off cap ss W hH hblk hsz),
   fun p cap W => callsIn_wide.2 (AnyM.slices_Sort_string_none Tryz.sort180 p cap W)⟩
set_option maxHeartbeats 1000000 in
theorem Tryz.sortedKeysAt {H : Type} (c b nn : Nat) (D0 : DataW H) (R : Value → Option (DataW H × List MemPlace)) (w : World) (hcs : c < w.heap.size) (hc : w.cell? ⟨c, 0, none⟩ = some (.map (some b))) (hown : w.ownsMap Tryz.prog 9 R b nn D0) (hmax : Maps.size D0 ≤ maxLen) (hbytes : Maps.size D0 * 16 ≤ 140737488355328) :
    CallsIn Fence.wide 5 Tryz.prog 207 #[.func (.func 223) #[] #[.pointer (some ⟨c, 0, none⟩)]] w fun e w' => ∃ (v : Value) (ss : List (List UInt8)), e = .returned v ∧ ss.Perm (strKeys D0) ∧
      w'.ownsRow w.heap.size 9 1 v ss.length ((ss.mergeSort (fun x y => decide (x ≤ y))).map encStr) ∧ (v = .slice none 0 0 ↔ ss = []) ∧ Below w.heap.size w w' := by
  have hseq : SeqGives Fence.wide 2 Tryz.prog 223 #[.pointer (some ⟨c, 0, none⟩)] encStr (fun ss => ss.Perm (strKeys D0)) (Maps.size D0) w :=
    AnyZ.keys_gives (ρ := Tryz.keys208_ren) { Tryz.keys208 with } Fence.wide _ trivial rfl (by omega) c b nn D0 w hcs hc hown
  exact AnyZ.sorted_in Tryz.sorted207 Fence.wide 5 trivial trivial trivial trivial rfl (by omega) (Tryz.sorts207 _) (enters_of Tryz.func180 (by kernel_rfl) rfl) 223 #[.pointer (some ⟨c, 0, none⟩)] trivial (enters_of Tryz.func223 (by kernel_rfl) rfl) _ _ hmax hbytes _ hseq
end Go.Proofs
namespace Go.Proofs.YtoindmahilbalaaGreat
open Abs Go.RowKit
theorem strs_get2 {l : List Str} {i j : Nat} {e : List AV} {c : AV} (hi : (strs l)[i]? = some e) (hj : e[j]? = some c) : ∃ s, l[i]? = some s ∧ j = 0 ∧ c = .str s := by
  rw [strs_eq, List.getElem?_map] at hi
  obtain ⟨s, hs, rfl⟩ := Option.map_eq_some_iff.1 hi
  cases j with
  | zero => simp at hj; exact ⟨s, hs, rfl, hj.symm⟩
  | succ j => simp at hj
theorem lent_strs {T : TypeId} {w w' : World} {F : Nat → Nat} {box0 : List BId} {b0 : List ABox} {Φ : AV → List ABox → Fr → Prop} {v : Value} {l : List Str} (hd : noDead b0 = true)
    (hout : ∀ b, w.heap.size ≤ b → F b = 0) (hbl : box0.length = b0.length) (hbi : ∀ (j b c : Nat), box0[j]? = some (.blk b c) → b < w.heap.size ∧ (live b0 j → F b = 0))
    (hbj : ∀ (i j b c c' : Nat), box0[i]? = some (.blk b c) → box0[j]? = some (.blk b c') → live b0 i → live b0 j → i = j) (hB : BoxesOk w.heap.size w F [] [] box0 b0)
    (hrow : w'.ownsRow w.heap.size T 1 v l.length (l.map encStr)) (hw : Below w.heap.size w w') (hΦ : Φ (.list (some 0) (strs l)) b0 [(T, 1, l.length)]) :
    ∃ (u : Value) (F' : Nat → Nat) (box1 : List BId) (tok : List (Option Nat)) (frs : Fr) (r : AV) (b1 : List ABox), Φ r b1 frs ∧ Ending.returned v = .returned u ∧ Keep false (mask b0 box0) w w' ∧ (∀ b, b < w.heap.size → F' b = F b) ∧ (∀ b, w'.heap.size ≤ b → F' b = 0) ∧
      (∀ (j : Nat) d, box0[j]? = some d → box1[j]? = some d) ∧ box1.length = b1.length ∧
      (∀ (j b c : Nat), box0.length ≤ j → box1[j]? = some (.blk b c) → (w.heap.size ≤ b ∨ ∃ i : Nat, live b0 i ∧ box0[i]? = some (.blk b c)) ∧ b < w'.heap.size) ∧
      (∀ (j b c : Nat), box1[j]? = some (.blk b c) → live b1 j → (box0.length ≤ j ∨ live b0 j) → F' b = 0) ∧
      (∀ (i j b c c' : Nat), box1[i]? = some (.blk b c) → box1[j]? = some (.blk b c') → live b1 i → live b1 j → (box0.length ≤ i ∨ live b0 i) → (box0.length ≤ j ∨ live b0 j) → i = j) ∧
      (∀ (j : Nat) d x, box1[j]? = some d → b1[j]? = some x → (box0.length ≤ j ∨ live b0 j) → BoxOk w.heap.size w' F' [] [] box1 d x) ∧
      tok.length = frs.length ∧ (∀ (k b : Nat), tok[k]? = some (some b) → w.heap.size ≤ b ∧ b < w'.heap.size) ∧ (∀ (k l b : Nat), tok[k]? = some (some b) → tok[l]? = some (some b) → k = l) ∧
      (∀ (k b j c : Nat), tok[k]? = some (some b) → box1[j]? = some (.blk b c) → ¬ live b1 j) ∧ Rep w.heap.size w' F' tok frs box1 r u := by
  have hlv := noDead_live hd
  have hk : Keep false (mask b0 box0) w w' := ⟨(fun h => nomatch h), hw.os, hw.tape, hw.output, hw.size, fun k hk _ => hw.block k hk⟩
  obtain ⟨a, cap, hv, hcap, hnew, hne⟩ : ∃ (a : Option Addr) (cap : Nat), v = .slice a l.length cap ∧ l.length ≤ cap ∧ (∀ g, a.map (·.block) = some g → w.heap.size ≤ g ∧ g < w'.heap.size) ∧ (l ≠ [] → ∃ g cur, a = some ⟨g, 0, none⟩ ∧ w'.heap[g]? = some (.cells cur T (0, 0)) ∧ cur.toList.take l.length = l.map encStr) := by
    rcases hrow.2 with ⟨hv, hn⟩ | ⟨g, cap, cur, hv, hbase, hh, h1, h2, h3, h4⟩
    · have hl : l = [] := List.eq_nil_of_length_eq_zero hn
      subst hl
      exact ⟨none, 0, hv, Nat.le_refl _, by simp, fun h => (h rfl).elim⟩
    · refine ⟨some ⟨g, 0, none⟩, cap, hv, h1, fun b hb => ?_, fun _ => ⟨g, cur, rfl, hh, by simpa using h4⟩⟩
      cases hb
      exact ⟨hbase, (Array.getElem?_eq_some_iff.1 hh).1⟩
  subst hv
  obtain ⟨F', hF'⟩ : ∃ F' : Nat → Nat, ∀ b, F' b = if a.map (·.block) = some b then l.length else F b := ⟨_, fun _ => rfl⟩
  refine ⟨_, F', box0, [a.map (·.block)], [(T, 1, l.length)], _, b0, hΦ, rfl, hk, fun b hb => ?_, fun b hb => ?_, fun _ _ h => h, hbl, fun j b c h1 h2 => ?_, fun j b c h1 h2 _ => ?_, fun i j b c c' h1 h2 h3 h4 _ _ => hbj i j b c c' h1 h2 h3 h4, fun j d x hd' hx _ => ?_, rfl, fun k b hkb => ?_, fun k q b h1 h2 => ?_, fun k b j c h1 h2 => ?_, ?_⟩
  · rw [hF']; split
    · rename_i h; have := (hnew b h).1; omega
    · rfl
  · rw [hF']; split
    · rename_i h; have := (hnew b h).2; omega
    · exact hout b (Nat.le_trans hw.size hb)
  · have := getElem?_lt h2; omega
  · have := hbi j b c h1
    rw [hF']; split
    · rename_i h; have := (hnew b h).1; omega
    · exact this.2 (hlv j)
  · refine (hB j d x hd' hx).later (F := F) ⟨fun b i hi => ?_, fun b => ?_, fun k t s n h => by simp at h⟩ (fun _ _ h => h) (fun b c he _ => hw.block b (hbi j b c (he ▸ hd')).1)
    · have hlt : b < w.heap.size := by
        rcases Nat.lt_or_ge b w.heap.size with h | h
        · exact h
        · rw [hout b h] at hi; omega
      exact World.cell?_of_block (w := w) (hw.block b hlt)
    · rw [hF']; split
      · rename_i h; rw [hout b (hnew b h).1]; exact Nat.zero_le _
      · exact Nat.le_refl _
  · cases k with
    | zero => simp at hkb; exact hnew b (by simpa using hkb)
    | succ k => simp at hkb
  · cases k <;> cases q <;> simp at h1 h2 ⊢
  · cases k with
    | zero => simp at h1; have := (hbi j b c h2).1; have := (hnew b (by simpa using h1)).1; omega
    | succ k => simp at h1
  · have hlen : (strs l).length = l.length := length_strs l
    rw [← hlen]
    have hcell : ∀ i s, l[i]? = some s → ∃ g, a = some ⟨g, 0, none⟩ ∧ w'.cell? ⟨g, i, none⟩ = some (mkS s) := fun i s hs => by
      obtain ⟨g, cur, hg, hh, ht⟩ := hne (by rintro rfl; simp at hs)
      refine ⟨g, hg, ?_⟩
      have h1 : (cur.toList.take l.length)[i]? = some (mkS s) := by rw [ht, List.getElem?_map, hs]; rfl
      rw [List.getElem?_take, if_pos (getElem?_lt hs)] at h1
      simp [World.cell?, hh]
      simpa using h1
    refine .list (some 0) (strs l) a cap 1 ((a.map (·.block)).getD 0) 0 (fun i _ => mkS (l.getD i [])) (by omega) (fun hx => ?_) (fun e he => ?_) (fun hx => ?_) (fun i e j c hi hj => ?_) (fun i e j c hi hj => ?_) (fun k hk' => ?_)
    · obtain ⟨g, cur, hg, _, _⟩ := hne (by rintro rfl; exact hx rfl)
      rw [hg]; rfl
    · rw [strs_eq] at he; obtain ⟨s, _, rfl⟩ := List.mem_map.1 he; rfl
    · obtain ⟨g, cur, hg, _, _⟩ := hne (by rintro rfl; exact hx rfl)
      rw [hF', hg]; simp
    · obtain ⟨s, hs, rfl, rfl⟩ := strs_get2 hi hj
      obtain ⟨g, hg, hc⟩ := hcell i s hs
      have e1 : l.getD i [] = s := by simp [List.getD, hs]
      simp only [hg, Option.map_some, Option.getD_some, Nat.zero_add, Nat.mul_one, Nat.add_zero, e1]
      exact ⟨hc, rfl⟩
    · obtain ⟨s, hs, rfl, rfl⟩ := strs_get2 hi hj
      have e1 : l.getD i [] = s := by simp [List.getD, hs]
      simp only [e1]; exact .str s
    · cases hk'
      refine ⟨T, 1, (strs l).length, rfl, Nat.le_refl _, fun _ => ⟨rfl, ⟨l.map encStr, ?_⟩, rfl, fun b hb => ?_⟩⟩
      · rw [hlen]; exact hrow
      · rw [hF', if_pos hb]; simp [hlen]
section
open Go.WideElems (rd rg Fit rg_of)
theorem rd_at {P : Program} {k e : TypeId} {es : Array MapEntry} {clock : Nat} {m : List (Str × Str)} (hk : P.underlying k = some .string) (he : P.underlying e = some .string) (h : MapIs es clock m) {j : Nat} {x : MapEntry} (hx : es.toList[j]? = some x) :
    ∃ p, m[j]? = some p ∧ rd (H := Unit) P k (plainElem P e) x = some (.string p.1, .lit (.string p.2)) := by
  obtain ⟨p, hp, h1, h2⟩ := h.get hx
  obtain ⟨l1, l2⟩ := h.len p (List.mem_of_getElem? hp)
  refine ⟨p, hp, ?_⟩
  have e1 : keyOf P k x.key = some (.string p.1) := by
    rw [h1]; exact WideMaps.keyOf_string_mk hk (s := ⟨p.1.toArray⟩) l1
  have e2 : plainElem (H := Unit) P e x.val = some (.lit (.string p.2), []) := by
    rw [h2]; exact plainElem_string he (s := ⟨p.2.toArray⟩) l2
  simp [rd, e1, e2]
theorem map_owns {P : Program} {k e : TypeId} {w : World} {b : Nat} {es : Array MapEntry} {clock : Nat} {m : List (Str × Str)} (hk : P.underlying k = some .string) (he : P.underlying e = some .string) (h : MapIs es clock m) (hb : w.heap[b]? = some (.map es clock)) :
    ∃ D0 : DataW Unit, w.ownsMap P k (plainElem P e) b m.length D0 ∧ Maps.size D0 = m.length ∧ (strKeys D0).Perm (m.map (·.1)) := by
  have hrg : es.toList.map (rg (H := Unit) P k (plainElem P e)) = m.map fun p => (Lit.string p.1, DataW.lit (.string p.2)) := by
    apply List.ext_getElem?
    intro j
    rw [List.getElem?_map, List.getElem?_map]
    cases hx : es.toList[j]? with
    | none =>
      have : m[j]? = none := by
        have hl := h.length
        rw [List.getElem?_eq_none_iff] at hx ⊢
        simp only [Array.length_toList] at hx; omega
      rw [this]; rfl
    | some x =>
      obtain ⟨p, hp, hr⟩ := rd_at hk he h hx
      rw [hp, Option.map_some, Option.map_some, rg_of hr]
  refine ⟨_, ⟨es, clock, hb, ⟨by rw [h.length]; exact h.size, h.stamped, fun x hx => ?_⟩, by rw [h.length]; exact Nat.le_refl _, rfl⟩, ?_, ?_⟩
  · obtain ⟨j, hj⟩ := List.getElem?_of_mem hx
    obtain ⟨p, _, hr⟩ := rd_at hk he h hj
    exact ⟨_, hr⟩
  · rw [hrg]
    show (List.foldr DataW.insert [] _).length = _
    rw [length_sorted, List.length_map]
  · rw [hrg]
    refine ((WideShapes.sorted_perm _).map _).trans ?_
    rw [List.map_map]
    exact List.Perm.refl _
end
theorem slSortedS.lent (b0 : List ABox) (c j : Nat) (m : List (Str × Str)) (hd : noDead b0 = true) (hc : b0[c]? = some (.cells .var [.bmap j])) (hj : b0[j]? = some (.map m)) (hm : m.length ≤ 1048576) :
    Abs.Lent false Tryz.prog 207 b0 [.clo 223 [] [.bptr c 0]] (fun x y z => x = .list (some 0) (strs (srt (m.map (·.1)))) ∧ y = b0 ∧ z = [(9, 1, m.length)]) := by
  rw [Lent_eq]
  refine ⟨by kernel_rfl, fun w F vs box0 hout hbl hbi hbj hB hargs => ?_⟩
  obtain ⟨v0, rfl⟩ : ∃ v0, vs = #[v0] := by
    have := hargs.1
    match vs, this with
    | ⟨[a]⟩, _ => exact ⟨a, rfl⟩
  obtain ⟨h0, _⟩ := Both.cons.1 hargs
  have hbx : ∀ q x, b0[q]? = some x → ∃ d, box0[q]? = some d := fun q x hx => ⟨_, List.getElem?_eq_getElem (by have := getElem?_lt hx; omega)⟩
  obtain ⟨d1, hd1⟩ := hbx c _ hc
  obtain ⟨d2, hd2⟩ := hbx j _ hj
  have o1 := hB c _ _ hd1 hc
  have o2 := hB j _ _ hd2 hj
  cases d2 with
  | nil => exact o2.elim
  | blk bm cm =>
  cases d1 with
  | nil => exact absurd o1 (by simp [BoxOk])
  | blk bc cc =>
  obtain ⟨arr, t, hh, hsz, hcell, _⟩ := o1
  obtain ⟨r1, _⟩ := hcell 0 _ rfl
  obtain ⟨es, clock, hmh, hM⟩ := o2
  have hv : arr.getD 0 undef = .map (some bm) := by
    generalize arr.getD 0 undef = u at r1
    cases r1 with
    | bmap _ b cap hb => rw [hd2] at hb; cases hb; rfl
  have hlt : bc < w.heap.size := (Array.getElem?_eq_some_iff.1 hh).1
  have hcl : w.cell? ⟨bc, 0, none⟩ = some (.map (some bm)) := by
    have h1 : 0 < arr.size := by simp at hsz; omega
    have h2 : arr[0]? = some (.map (some bm)) := by rw [← hv]; simp [Array.getD, h1]
    simp [World.cell?, hh, h2]
  have hv0 : v0 = .func (.func 223) #[] #[.pointer (some ⟨bc, 0, none⟩)] := by
    cases h0 with
    | clo f xs ys vf vc h1 h2 hr1 hr2 =>
      have e1 : vf = #[] := Array.eq_empty_of_size_eq_zero (by simpa using h1.symm)
      obtain ⟨u, rfl⟩ : ∃ u, vc = #[u] := by
        match vc, h2 with
        | ⟨[u]⟩, _ => exact ⟨u, rfl⟩
      have h3 := hr2 0 _ rfl
      obtain ⟨b, cap, hb, hu⟩ := h3.bptr_inv
      rw [hd1] at hb; cases hb
      have : u = .pointer (some ⟨bc, 0, none⟩) := hu
      rw [e1, this]
  obtain ⟨D0, hown, hDs, hperm⟩ := map_owns (P := Tryz.prog) (k := 9) (e := 9) Tryz.underlying9 Tryz.underlying9 hM hmh
  rw [hv0]
  refine (callsIn_wide.1 (Tryz.sortedKeysAt bc bm m.length D0 (plainElem Tryz.prog 9) w hlt hcl hown (by rw [hDs]; unfold maxLen; omega) (by rw [hDs]; omega))).mono ?_
  rintro e w' ⟨v, ss, rfl, hs, hrow, _, hbw⟩
  have hp := hs.trans hperm
  have hl : (srt (m.map (·.1))).length = m.length := by simp [srt]
  have e1 : ss.mergeSort (fun x y => decide (x ≤ y)) = srt (m.map (·.1)) := mergeSort_of_perm hp
  have e2 : ss.length = (srt (m.map (·.1))).length := by rw [hl, hp.length_eq, List.length_map]
  rw [e1, e2] at hrow
  exact lent_strs hd hout hbl hbi hbj hB hrow hbw ⟨rfl, rfl, by rw [hl]⟩
end Go.Proofs.YtoindmahilbalaaGreat
namespace Go.Proofs.YtoindmahilbalaaGreat
open Abs
mutual
theorem old_ok : ∀ (x : Tr) (m : Nat), noTk (old x) = true ∧ inB m (old x)
  | .v _, _ => ⟨rfl, trivial⟩
  | .s _, _ => ⟨rfl, trivial⟩
  | .l _ _ xs, _ => ⟨oldLL_ok xs, trivial⟩
  | .a fs, m => inBL_all (oldL_ok fs m)
  | .p fs, m => inBL_all (oldL_ok fs m)
theorem oldL_ok : ∀ (xs : List Tr) (m : Nat), ∀ c ∈ oldL xs, noTk c = true ∧ inB m c
  | [], _, c, hc => by simp [oldL] at hc
  | x :: xs, m, c, hc => by
    rw [oldL] at hc
    rcases List.mem_cons.1 hc with rfl | hc
    · exact old_ok x m
    · exact oldL_ok xs m c hc
theorem oldLL_ok : ∀ (xs : List (List Tr)), noTkLL (oldLL xs) = true
  | [] => rfl
  | x :: xs => by
    rw [oldLL, noTkLL, (inBL_all (oldL_ok x 0)).1, oldLL_ok xs]; rfl
end
theorem noTk_old (xs : List Tr) : ∀ c ∈ oldL xs, noTk c = true := fun c hc => (oldL_ok xs 0 c hc).1
def PlainC (x : List AV) : Prop := (∀ c ∈ x, noTk c = true) ∧ ∀ m, inB.inBL m x
theorem plainC_old (xs : List Tr) : PlainC (oldL xs) := ⟨noTk_old xs, fun m => (inBL_all (oldL_ok xs m)).2⟩
theorem bindF_lt {b : List VPair} (h : bindF b = true) {j : Nat} (hj : j < b.length) : badB b j = false := by
  cases hb : badB b j with
  | false => rfl
  | true => rw [bindF_no hj hb] at h; cases h
theorem bindF_len {b : List VPair} (h : bindF b = true) : b.length ≤ 6 := by
  rcases Nat.lt_or_ge 6 b.length with h1 | h1
  · rw [bindF_long (by omega)] at h; cases h
  · exact h1
theorem bindF_asc {b : List VPair} (h : bindF b = true) : ∀ (j : Nat), j + 1 < b.length → Op.bytesLess (b.getD j default).1 (b.getD (j + 1) default).1 = true := fun j hj => by
  have := bindF_lt h hj
  unfold badB at this
  simp only [Bool.or_eq_false_iff, Bool.and_eq_false_iff, decide_eq_false_iff_not, Bool.not_eq_false', Nat.add_sub_cancel] at this
  rcases this.2 with h1 | h1
  · omega
  · exact h1
theorem bindF_sorted {b : List VPair} (h : bindF b = true) : ∀ (d i : Nat), i + d + 1 < b.length → Op.bytesLess (b.getD i default).1 (b.getD (i + d + 1) default).1 = true
  | 0, i, hi => bindF_asc h i hi
  | d + 1, i, hi => blt_sto.trans _ _ _ (bindF_sorted h d i (by omega)) (bindF_asc h (i + d + 1) hi)
theorem bindF_apart {b : List VPair} (h : bindF b = true) {i j : Nat} (hij : i < j) (hj : j < b.length) : (b.getD i default).1 ≠ (b.getD j default).1 := fun e => by
  have := bindF_sorted h (j - i - 1) i (by omega)
  rw [show i + (j - i - 1) + 1 = j by omega, e, bl_irrefl] at this
  cases this
theorem mput_bind {b : List VPair} (h : bindF b = true) {i : Nat} (hi : i < b.length) : mput (b.take i) (b.getD i default).1 (b.getD i default).2 = b.take (i + 1) := by
  have hn : ∀ p ∈ b.take i, p.1 ≠ (b.getD i default).1 := fun p hp => by
    obtain ⟨j, hj⟩ := List.getElem?_of_mem hp
    rw [List.getElem?_take] at hj
    split at hj
    · rename_i hji
      have e : b.getD j default = p := by simp [List.getD, hj]
      rw [← e]; exact bindF_apart h hji hi
    · cases hj
  rw [(mget_no hn).2, take_succ' default hi]
theorem pmapOfPairs.lent (x y : List AV) (hx : PlainC x) (hy : PlainC y) (b : List VPair) (h : tPairs.size b ≤ 1048576) (hb : bindF b = true) :
    pmapOfPairs.Lent [.cells .var x, .cells .var y] [.list none (pairs b)] (fun r b1 f1 => r = .bmap 2 ∧ b1 = [.cells .var x, .cells .var y, .map b] ∧ f1 = []) := by
  refine pmapOfPairs.ofL rfl rfl ?_
  rw [tPairs_sz] at h
  skip
  refine ALoop.mk Nat (fun i => ⟨[(0, .list none (pairs b)), (3, .bmap 2), (7, .list none (pairs b)), (8, .val (.int .i64 b.length)), (9, .val (.int .i64 i))], [.cells .var x, .cells .var y, .map (b.take i)], []⟩) (fun i => i ≤ b.length) (fun i => b.length - i) ⟨0, Nat.zero_le _, ?_⟩ (fun i hi => ?_)
  · repeat' first
      | exact trivial | refine wl_ ?_ ?_ ?_ ?_ | refine And.intro ?_ ?_ | with_reducible rfl | exact ble_ | refine AV.int_congr ?_ | refine AV.list_congr ?_ | (apply rfl)
    simp
  repeat' first
    | (conv => whnf
       first | refine Need.mk rfl ?_ | refine Need.mk ⟨rfl, Nat.le_of_ble_eq_true rfl⟩ ?_ | refine nb_ ?_ | refine Need.mk ?_ ?_ | refine Ix.mapF (fun _ => rfl) ?_ | refine Fork.dec (fun _ => ?_) (fun _ => ?_) | refine Round.mk ?_ | refine FinalC.allA ?_)
  all_goals try simp only [length_rows, length_strs, length_oldLL, List.length_map, Int.toNat_natCast] at *
  · have := pr_le (l := b) i
    have h2 : (b.take i).length ≤ b.length := by simp; omega
    unfold maxLen; omega
  · refine ⟨i + 1, by omega, ?_, by omega⟩
    repeat' first
      | exact trivial | refine Weak.mk ?_ ?_ ?_ ?_ (Or.inr ⟨(by repeat' first | exact trivial | exact ble_ | refine And.intro ?_ ?_ | exact hx.2 _ | exact hy.2 _), (by repeat' first | exact trivial | exact ble_ | refine And.intro ?_ ?_ | exact hx.2 _ | exact hy.2 _)⟩) | refine And.intro ?_ ?_ | with_reducible rfl | exact ble_ | refine AV.int_congr ?_ | refine AV.list_congr ?_ | (apply rfl) | refine bx_cons ?_ ?_ | refine bx_map ?_
    · rw [wrap64 (by omega) (by omega)]; rfl
    · show mput (b.take i) (b.getD i default).1 (b.getD i default).2 = _
      rw [mput_bind hb (by omega)]
  · simp [List.take_of_length_le (show b.length ≤ i by omega)]
def turnStep (m : List VPair) (p : Str × Str) : Option (List VPair) :=
  if varF p.1 then (match mget m p.1 with | some v => if v = p.2 then some m else none | none => some (mput m p.1 p.2)) else if p.1 = p.2 then some m else none
def turnS (m : List VPair) : List (Str × Str) → Option (List VPair)
  | [] => some m
  | p :: l => match turnStep m p with | some m' => turnS m' l | none => none
def turnF (m : List VPair) (a x : List Str) : Option (List VPair) := if a.length = x.length then turnS m (a.zip x) else none
theorem step_no {m : List VPair} {t x : Str} (h : varF t = false) (h' : t ≠ x) : turnStep m (t, x) = none := by simp [turnStep, h, h']
theorem step_eq {m : List VPair} {t x : Str} (h : varF t = false) (h' : t = x) : turnStep m (t, x) = some m := by subst h'; simp [turnStep, h]
theorem step_new {m : List VPair} {t x : Str} (h : varF t = true) (h' : mget m t = none) : turnStep m (t, x) = some (mput m t x) := by simp [turnStep, h, h']
theorem step_bad {m : List VPair} {t x v : Str} (h : varF t = true) (h' : mget m t = some v) (h2 : v ≠ x) : turnStep m (t, x) = none := by simp [turnStep, h, h', h2]
theorem step_old {m : List VPair} {t x v : Str} (h : varF t = true) (h' : mget m t = some v) (h2 : v = x) : turnStep m (t, x) = some m := by simp [turnStep, h, h', h2]
theorem zip_drop {a x : List Str} {i : Nat} (h1 : i < a.length) (h2 : i < x.length) : (a.zip x).drop i = (a.getD i [], x.getD i []) :: (a.zip x).drop (i + 1) := by
  have h : i < (a.zip x).length := by simp; omega
  rw [List.drop_eq_getElem_cons h]
  simp [List.getD, h1, h2]
theorem mput_len (m : List VPair) (k v : Str) : (mput m k v).length ≤ m.length + 1 := by
  induction m with
  | nil => simp [mput]
  | cons p m ih =>
    rw [mput]; split
    · simp
    · simp; exact ih
theorem pturnInto.lent (x y : List AV) (hx : PlainC x) (hy : PlainC y) (m : List VPair) (a z : List Str) (ha : a.length + listSize Ty.str a ≤ 1048576) (hz : z.length + listSize Ty.str z ≤ 1048576) (hm : m.length ≤ 1048576) :
    pturnInto.Lent [.cells .var x, .cells .var y, .map m] [.list none (strs a), .list none (strs z), .bmap 2]
      (fun r b1 f1 => ∃ m', r = .val (.bool (turnF m a z).isSome) ∧ b1 = [.cells .var x, .cells .var y, .map m'] ∧ f1 = [] ∧ ∀ m0, turnF m a z = some m0 → m' = m0) := by
  refine pturnInto.ofL rfl rfl ?_
  repeat' first
    | (conv => whnf
       first | refine Need.mk rfl ?_ | refine Fork.bne (fun _ => ?_) (fun _ => ?_) | refine FinalC.allA ?_)
  all_goals try simp only [length_strs] at *
  · rename_i h
    have h : ¬ a.length = z.length := by omega
    exact ⟨m, by simp [turnF, h], by first | rfl | trivial, by first | rfl | trivial, by simp [turnF, h]⟩
  rename_i h
  have h : a.length = z.length := by omega
  refine ALoop.mk (Nat × List VPair) (fun i => ⟨[(0, .list none (strs a)), (1, .list none (strs z)), (2, .bmap 2), (16, .list none (strs a)), (17, .val (.int .i64 a.length)), (18, .val (.int .i64 i.1))], [.cells .var x, .cells .var y, .map i.2], []⟩)
    (fun i => i.1 ≤ a.length ∧ i.2.length ≤ m.length + i.1 ∧ turnS i.2 ((a.zip z).drop i.1) = turnS m (a.zip z)) (fun i => a.length - i.1) ⟨(0, m), ⟨Nat.zero_le _, by simp, rfl⟩, ?_⟩ (fun i hi => ?_)
  · repeat' first
      | exact trivial | refine wl_ ?_ ?_ ?_ ?_ | refine And.intro ?_ ?_ | with_reducible rfl | exact ble_ | refine AV.int_congr ?_ | refine AV.list_congr ?_ | (apply rfl)
    simp
  obtain ⟨i, m'⟩ := i
  obtain ⟨hi, hml, ht⟩ := hi
  simp only at hi hml ht
  have fails : i < a.length → turnStep m' (a.getD i [], z.getD i []) = none → turnF m a z = none := fun hlt hs => by
    rw [zip_drop hlt (by omega), turnS, hs] at ht
    rw [turnF, if_pos h, ← ht]
  have goes : ∀ m'', i < a.length → turnStep m' (a.getD i [], z.getD i []) = some m'' → turnS m'' ((a.zip z).drop (i + 1)) = turnS m (a.zip z) := fun m'' hlt hs => by
    rw [zip_drop hlt (by omega), turnS, hs] at ht
    exact ht
  have hal := str_le' a i
  have hzl := str_le' z i
  repeat' first
    | contradiction
    | (conv => whnf
       first | refine Need.mk rfl ?_ | refine Need.mk ?_ ?_ | refine Ix.strsF rfl ?_ | refine Fork.dec (fun _ => ?_) (fun _ => ?_) | refine Fork.sne (fun _ => ?_) (fun _ => ?_) | refine Fork.neg (fun _ => ?_) (fun _ => ?_) | refine Round.mk ?_ | refine FinalC.allA ?_ | refine ACall.scalA _ _ (pIsVar.ret _ ?_) rfl ?_)
  all_goals try simp only [length_rows, length_strs, length_oldLL, List.length_map, Int.toNat_natCast] at *
  · intro _; unfold maxLen; omega
  · omega
  · rename_i h1 h2 h3
    have hf := fails (by omega) (step_no h2 h3)
    exact ⟨m', by rw [hf]; rfl, by first | rfl | trivial, by first | rfl | trivial, by simp [hf]⟩
  · rename_i h1 h2 h3
    refine ⟨(i + 1, m'), ⟨by simp only; omega, by simp only; omega, goes m' (by omega) (step_eq h2 h3)⟩, ?_, by simp only; omega⟩
    repeat' first
      | exact trivial | refine wl_ ?_ ?_ ?_ ?_ | refine And.intro ?_ ?_ | with_reducible rfl | exact ble_ | refine AV.int_congr ?_ | refine AV.list_congr ?_ | (apply rfl)
    rw [wrap64 (by omega) (by omega)]; rfl
  · unfold maxLen; omega
  · rename_i h1 h2 h3 h4
    have h3 : mget m' (a.getD i []) = none := by simpa using h3
    have hl := mput_len m' (a.getD i []) (z.getD i [])
    refine ⟨(i + 1, mput m' (a.getD i []) (z.getD i [])), ⟨by simp only; omega, by simp only; omega, goes _ (by omega) (step_new h2 h3)⟩, ?_, by simp only; omega⟩
    repeat' first
      | exact trivial | refine wl_ ?_ ?_ ?_ ?_ | refine And.intro ?_ ?_ | with_reducible rfl | exact ble_ | refine AV.int_congr ?_ | refine AV.list_congr ?_ | (apply rfl)
    rw [wrap64 (by omega) (by omega)]; rfl
  · rename_i h1 h2 h3 h4
    obtain ⟨v, hv⟩ := Option.isSome_iff_exists.1 h3
    rw [hv] at h4
    have h4 : v ≠ z.getD i [] := h4
    have hf := fails (by omega) (step_bad h2 hv h4)
    exact ⟨m', by rw [hf]; rfl, by first | rfl | trivial, by first | rfl | trivial, by simp [hf]⟩
  · rename_i h1 h2 h3 h4
    obtain ⟨v, hv⟩ := Option.isSome_iff_exists.1 h3
    rw [hv] at h4
    have h4 : v = z.getD i [] := h4
    refine ⟨(i + 1, m'), ⟨by simp only; omega, by simp only; omega, goes m' (by omega) (step_old h2 hv h4)⟩, ?_, by simp only; omega⟩
    repeat' first
      | exact trivial | refine wl_ ?_ ?_ ?_ ?_ | refine And.intro ?_ ?_ | with_reducible rfl | exact ble_ | refine AV.int_congr ?_ | refine AV.list_congr ?_ | (apply rfl)
    rw [wrap64 (by omega) (by omega)]; rfl
  · have e : (a.zip z).drop i = [] := List.drop_eq_nil_of_le (by simp; omega)
    rw [e, turnS] at ht
    have hf : turnF m a z = some m' := by rw [turnF, if_pos h, ← ht]
    exact ⟨m', by rw [hf]; rfl, by first | rfl | trivial, by first | rfl | trivial, by rw [hf]; intro m0 e; cases e; rfl⟩
def pairsM (m : List VPair) : List VPair := (srt (m.map (·.1))).map fun k => (k, (mget m k).getD [])
theorem srt_len (l : List Str) : (srt l).length = l.length := by simp [srt]
theorem slKeys.lent (x y : List AV) (hx : PlainC x) (hy : PlainC y) (m : List VPair) :
    slKeys.Lent [.cells .var x, .cells .var y, .map m] [.bmap 2] (fun r b1 f1 => r = .clo 223 [] [.bptr 3 0] ∧ b1 = [.cells .var x, .cells .var y, .map m, .cells .var [.bmap 2]] ∧ f1 = []) := by
  refine slKeys.ofL rfl rfl ?_
  repeat' first
    | (conv => whnf
       first | refine Need.mk rfl ?_ | refine Need.mk ?_ ?_ | refine FinalC.allA ?_)
  · exact ⟨rfl, rfl⟩
  · exact ⟨rfl, rfl, rfl⟩
theorem srt_in {l : List Str} {s : Str} (h : s ∈ srt l) : s ∈ l := by simpa [srt] using h
theorem ppairsOfMap.lent (x y : List AV) (hx : PlainC x) (hy : PlainC y) (m : List VPair) (hm : m.length ≤ 1048576) (hl : ∀ p ∈ m, p.1.length ≤ 1048576) :
    Abs.Lent false Tryz.prog 190 [.cells .var x, .cells .var y, .map m] [.bmap 2]
      (fun r b1 f1 => r = .list (some 0) (pairs (pairsM m)) ∧ b1 = [.cells .var x, .cells .var y, .map m, .cells .var [.bmap 2]] ∧ f1 = [(141, 2, m.length), (9, 1, m.length)]) := by
  refine ppairsOfMap.ofL rfl rfl ?_
  have hk := slKeys.lent x y hx hy m
  have hs := slSortedS.lent [.cells .var x, .cells .var y, .map m, .cells .var [.bmap 2]] 3 2 m rfl rfl rfl hm
  have hlen : (srt (m.map (·.1))).length = m.length := by simp [srt]
  have hsl : ∀ i, ((srt (m.map (·.1))).getD i []).length ≤ 1048576 := fun i => by
    rcases Nat.lt_or_ge i (srt (m.map (·.1))).length with h | h
    · have h1 : (srt (m.map (·.1))).getD i [] ∈ srt (m.map (·.1)) := by simp [List.getD, h]
      obtain ⟨p, hp, e⟩ := List.mem_map.1 (srt_in h1)
      rw [← e]; exact hl p hp
    · have : (srt (m.map (·.1))).getD i [] = [] := by simp [List.getD, List.getElem?_eq_none h]
      rw [this]; exact Nat.zero_le _
  generalize hks : srt (m.map (·.1)) = ks at hs hlen hsl
  have hpm : pairsM m = ks.map fun k => (k, (mget m k).getD []) := by rw [pairsM, hks]
  repeat' first
    | (conv => whnf
       first | refine Need.mk rfl ?_ | refine ACall.lentE _ _ _ _ _ (Lent.weak (hk)) (by repeat' first | exact Lends.nil | refine Lends.map _ ?_ | refine Lends.lend _ _ (by first | exact hx.1 | exact hy.1 | exact noTk_old _ | (intro c hc; rw [List.mem_singleton.1 hc]; rfl) | (intro c hc; cases hc; done)) ?_) (by repeat' first | exact SeesL.nil | refine SeesL.cons ?_ ?_ | exact Or.inl ⟨rfl, rfl⟩ | exact Or.inr (Sees0.str _) | exact Or.inr (Sees0.val _) | exact Or.inr (Sees0.olds _ _) | exact Or.inr (Sees0.old _) | exact Or.inr (Sees0.oldagg _)) ?_ | refine ACall.lentS _ _ _ _ _ (hs) (by repeat' first | exact Lends.nil | refine Lends.map _ ?_ | refine Lends.lend _ _ (by first | exact hx.1 | exact hy.1 | exact noTk_old _ | (intro c hc; rw [List.mem_singleton.1 hc]; rfl) | (intro c hc; cases hc; done)) ?_) (by repeat' first | exact SeesL.nil | refine SeesL.cons ?_ ?_ | exact Or.inl ⟨rfl, rfl⟩ | exact Or.inr (Sees0.str _) | exact Or.inr (Sees0.val _) | exact Or.inr (Sees0.olds _ _) | exact Or.inr (Sees0.old _) | exact Or.inr (Sees0.oldagg _)) ?_)
  refine ALoop.mk Nat (fun i => ⟨[(0, .bmap 2), (3, .list (some 0) (pairs ((ks.take i).map fun k => (k, (mget m k).getD [])))), (9, .list (some 1) (strs ks)), (10, .val (.int .i64 ks.length)), (11, .val (.int .i64 i))], [.cells .var x, .cells .var y, .map m, .cells .var [.bmap 2]], [(141, 2, ((ks.take i).map fun k => (k, (mget m k).getD [])).length), (9, 1, m.length)]⟩)
    (fun i => i ≤ ks.length) (fun i => ks.length - i) ⟨0, Nat.zero_le _, ?_⟩ (fun i hi => ?_)
  · repeat' first
      | exact trivial | refine wl_ ?_ ?_ ?_ ?_ | refine And.intro ?_ ?_ | with_reducible rfl | exact ble_ | refine fr2 ?_ ?_ | refine AV.int_congr ?_ | refine AV.list_congr ?_ | (apply rfl)
    simp
  have hkn : i < ks.length → (ks.take (i + 1)).map (fun k => (k, (mget m k).getD [])) = (ks.take i).map (fun k => (k, (mget m k).getD [])) ++ [(ks.getD i [], (mget m (ks.getD i [])).getD [])] := fun h => by
    rw [take_succ' [] h, List.map_append]; rfl
  have hsi := hsl i
  have htl : ((ks.take i).map fun k => (k, (mget m k).getD [])).length ≤ ks.length := by simp; omega
  repeat' first
    | (conv => whnf
       first | refine Need.mk rfl ?_ | refine Need.mk ?_ ?_ | refine Ix.strsF rfl ?_ | refine Fork.dec (fun _ => ?_) (fun _ => ?_) | refine Round.mk ?_ | refine Lit.read rfl ?_ | refine FinalC.allA ?_)
  all_goals try simp only [length_rows, length_strs, length_oldLL, List.length_map, Int.toNat_natCast] at *
  · intro _; unfold maxLen; omega
  · intro c hc; rw [List.mem_singleton.1 hc]; rfl
  · simp only [List.length_singleton]; omega
  · refine ⟨i + 1, by omega, ?_, by omega⟩
    repeat' first
      | exact trivial | refine wl_ ?_ ?_ ?_ ?_ | refine And.intro ?_ ?_ | with_reducible rfl | exact ble_ | refine fr2 ?_ ?_ | refine AV.int_congr ?_ | refine AV.list_congr ?_ | (apply rfl)
    · rw [hkn (by omega)]; exact rows_snoc tPair ((ks.take i).map fun k => (k, (mget m k).getD [])) (ks.getD i [], (mget m (ks.getD i [])).getD [])
    · rw [wrap64 (by omega) (by omega)]; rfl
    · simp only [List.length_take, List.length_singleton]; omega
  · have e : ks.take i = ks := List.take_of_length_le (by omega)
    simp [e, hpm, hlen]
end Go.Proofs.YtoindmahilbalaaGreat
namespace Go.Proofs.YtoindmahilbalaaGreat
open Abs
def setR (v x : Str) : List VPair → List VPair
  | [] => [(v, x)]
  | p :: b => if blt v p.1 then (v, x) :: p :: b else p :: setR v x b
def extF (b : List VPair) (v x : Str) : Option (List VPair) :=
  if bindF b && varF v && atomF x then (if (valF b v).2 && decide ((valF b v).1 = x) then some b else if (valF b v).2 || decide (b.length = 6) then none else some (setR v x b)) else none
def matS (e : List VPair) : List (Str × Str) → Option (List VPair)
  | [] => some e
  | q :: l => if atomF q.1 then (if q.1 = q.2 then matS e l else none) else (match extF e q.1 q.2 with | some e' => matS e' l | none => none)
abbrev AscP (b : List VPair) : Prop := b.Pairwise fun p q => p.1 < q.1
theorem bindF_iff (b : List VPair) : bindF b = true ↔ b.length ≤ 6 ∧ (∀ p ∈ b, varF p.1 = true ∧ atomF p.2 = true) ∧ AscP b := by
  constructor
  · intro h
    refine ⟨bindF_len h, fun p hp => ?_, ?_⟩
    · obtain ⟨j, hj⟩ := List.getElem?_of_mem hp
      have hb := bindF_lt h (getElem?_lt hj)
      have e : b.getD j default = p := by simp [List.getD, hj]
      unfold badB at hb
      rw [e] at hb
      simp only [Bool.or_eq_false_iff, Bool.not_eq_false'] at hb
      exact hb.1
    · rw [AscP, List.pairwise_iff_getElem]
      intro i j hi hj hij
      have := bindF_sorted h (j - i - 1) i (by omega)
      rw [show i + (j - i - 1) + 1 = j by omega] at this
      have h2 : blt (b.getD i default).1 (b.getD j default).1 = true := this
      rw [blt_eq, decide_eq_true_eq] at h2
      simpa [List.getD, hi, hj] using h2
  · rintro ⟨h1, h2, h3⟩
    rw [bindF_yes (fun j hj => ?_)]
    · simp; omega
    · have hm : b.getD j default ∈ b := by simp [List.getD, hj]
      obtain ⟨v1, v2⟩ := h2 _ hm
      unfold badB
      rw [v1, v2]
      simp only [Bool.not_true, Bool.false_or, Bool.and_eq_false_iff, decide_eq_false_iff_not, Bool.not_eq_false']
      rcases Nat.eq_zero_or_pos j with rfl | hp
      · left; omega
      · right
        have h4 := List.pairwise_iff_getElem.1 h3 (j - 1) j (by omega) hj (by omega)
        have : blt (b.getD (j - 1) default).1 (b.getD j default).1 = true := by
          rw [blt_eq, decide_eq_true_eq]
          have hj1 : j - 1 < b.length := by omega
          simpa [List.getD, hj, hj1] using h4
        exact this
theorem atom_novar {t : Str} (h : atomF t = true) : varF t = false := by
  cases t with
  | nil => rfl
  | cons c t =>
    have hc : alnum c = true := by
      unfold atomF at h
      rw [List.all_cons, Bool.and_eq_true, Bool.and_eq_true] at h
      exact h.1.1
    cases hv : varF (c :: t) with
    | false => rfl
    | true =>
      unfold varF at hv
      simp only [Bool.and_eq_true, beq_iff_eq, List.getD_cons_zero] at hv
      have h63 : c.toNat = 63 := by have := hv.1.2; omega
      have : c = 63 := UInt8.toNat_inj.1 h63
      rw [this] at hc
      exact absurd hc (by decide)
theorem lookV_mem : ∀ {b : List VPair} {k v : Str}, lookV b k = some v → (k, v) ∈ b
  | [], _, _, h => by cases h
  | p :: b, k, v, h => by
    rw [lookV] at h
    split at h
    · rename_i e; cases h; subst e; simp
    · exact List.mem_cons_of_mem _ (lookV_mem h)
theorem lookV_none : ∀ {b : List VPair} {k : Str}, lookV b k = none → ∀ p ∈ b, p.1 ≠ k
  | [], _, _, p, hp => by simp at hp
  | q :: b, k, h, p, hp => by
    rw [lookV] at h
    split at h
    · cases h
    · rename_i e
      rcases List.mem_cons.1 hp with rfl | hp
      · exact e
      · exact lookV_none h p hp
structure Like (e m : List VPair) : Prop where
  asc : AscP e
  perm : (e.map (·.1)).Perm (m.map (·.1))
  val : ∀ p ∈ e, mget m p.1 = some p.2
theorem mget_key : ∀ {m : List VPair} {k v : Str}, mget m k = some v → k ∈ m.map (·.1)
  | [], _, _, h => by cases h
  | p :: m, k, v, h => by
    rw [mget] at h
    split at h
    · rename_i e; subst e; simp
    · exact List.mem_cons_of_mem _ (mget_key h)
theorem Like.len {e m : List VPair} (h : Like e m) : e.length = m.length := by simpa using h.perm.length_eq
theorem Like.look {e m : List VPair} (h : Like e m) (k : Str) : lookV e k = mget m k := by
  cases h1 : lookV e k with
  | some v => exact (h.val _ (lookV_mem h1)).symm
  | none =>
    cases h2 : mget m k with
    | none => rfl
    | some v =>
      obtain ⟨p, hp, hk⟩ := List.mem_map.1 (h.perm.symm.mem_iff.1 (mget_key h2))
      exact absurd hk (lookV_none h1 p hp)
theorem srt_fix {l : List Str} (h : l.Pairwise fun a b => a < b) : srt l = l := by
  refine List.mergeSort_of_pairwise (h.imp fun hab => ?_)
  simp only [decide_eq_true_eq]
  exact List.le_of_lt hab
theorem Like.eq {e m : List VPair} (h : Like e m) : e = pairsM m := by
  have h1 : srt (m.map (·.1)) = e.map (·.1) := by
    have h2 : srt (m.map (·.1)) = srt (e.map (·.1)) := (mergeSort_of_perm h.perm.symm : _)
    rw [h2, srt_fix (List.pairwise_map.2 h.asc)]
  rw [pairsM, h1, List.map_map]
  have h3 : ∀ p ∈ e, ((fun k => (k, (mget m k).getD [])) ∘ fun p : VPair => p.1) p = id p := fun p hp => by
    show (p.1, (mget m p.1).getD []) = p
    rw [h.val p hp]; rfl
  rw [List.map_congr_left h3, List.map_id]
theorem mem_setR {v x : Str} : ∀ {b : List VPair} {p : VPair}, p ∈ setR v x b ↔ p = (v, x) ∨ p ∈ b
  | [], p => by simp [setR]
  | q :: b, p => by
    rw [setR]
    split
    · simp
    · simp only [List.mem_cons, mem_setR (b := b)]
      constructor
      · rintro (h | h | h) <;> simp [h]
      · rintro (h | h | h) <;> simp [h]
theorem setR_perm {v x : Str} : ∀ b : List VPair, (setR v x b).Perm (b ++ [(v, x)])
  | [] => List.Perm.refl _
  | q :: b => by
    rw [setR]
    split
    · exact (List.perm_append_singleton (v, x) (q :: b)).symm
    · exact (setR_perm b).cons q
theorem setR_asc {v x : Str} : ∀ {b : List VPair}, AscP b → (∀ p ∈ b, p.1 ≠ v) → AscP (setR v x b)
  | [], _, _ => by simp [setR]
  | q :: b, h, hn => by
    obtain ⟨h1, h2⟩ := List.pairwise_cons.1 h
    rw [setR]
    split
    · rename_i hlt
      rw [blt_eq, decide_eq_true_eq] at hlt
      refine List.pairwise_cons.2 ⟨fun p hp => ?_, h⟩
      rcases List.mem_cons.1 hp with rfl | hp
      · exact hlt
      · exact List.lt_trans hlt (h1 p hp)
    · rename_i hlt
      have hlt : blt v q.1 = false := by simpa using hlt
      have h3 : q.1 < v := by
        cases h4 : blt q.1 v with
        | true => rwa [blt_eq, decide_eq_true_eq] at h4
        | false => exact absurd (blt_sto.tri _ _ h4 hlt) (hn q (by simp))
      refine List.pairwise_cons.2 ⟨fun p hp => ?_, setR_asc h2 (fun p hp => hn p (by simp [hp]))⟩
      rcases mem_setR.1 hp with rfl | hp
      · exact h3
      · exact h1 p hp
theorem mget_snoc {m : List VPair} {v x : Str} : ∀ {k : Str}, mget (m ++ [(v, x)]) k = (match mget m k with | some u => some u | none => if v = k then some x else none) := by
  induction m with
  | nil => intro k; rfl
  | cons p m ih =>
    intro k
    rw [List.cons_append, mget, mget]
    split
    · rfl
    · exact ih
theorem Like.set {e m : List VPair} (h : Like e m) {v x : Str} (hn : mget m v = none) : Like (setR v x e) (mput m v x) := by
  have hm : mput m v x = m ++ [(v, x)] := by
    refine (mget_no fun p hp he => ?_).2 x
    have hl : lookV e v = none := by rw [h.look]; exact hn
    obtain ⟨q, hq, hk⟩ := List.mem_map.1 (h.perm.symm.mem_iff.1 (List.mem_map.2 ⟨p, hp, rfl⟩))
    exact lookV_none hl q hq (hk.trans he)
  have hl : lookV e v = none := by rw [h.look]; exact hn
  rw [hm]
  refine ⟨setR_asc h.asc (lookV_none hl), ?_, fun p hp => ?_⟩
  · refine ((setR_perm e).map _).trans ?_
    rw [List.map_append, List.map_append]
    exact h.perm.append (List.Perm.refl _)
  · rw [mget_snoc]
    rcases mem_setR.1 hp with rfl | hp
    · rw [hn]; simp
    · rw [h.val p hp]
theorem turnS_len : ∀ {l : List (Str × Str)} {m m' : List VPair}, turnS m l = some m' → m.length ≤ m'.length
  | [], m, m', h => by cases h; exact Nat.le_refl _
  | q :: l, m, m', h => by
    rw [turnS] at h
    split at h
    · rename_i m1 h1
      refine Nat.le_trans ?_ (turnS_len h)
      unfold turnStep at h1
      split at h1
      · split at h1
        · split at h1
          · cases h1; exact Nat.le_refl _
          · cases h1
        · cases h1
          have : ∀ (m : List VPair) k v, m.length ≤ (mput m k v).length := fun m k v => by
            induction m with
            | nil => simp [mput]
            | cons p m ih => rw [mput]; split <;> simp; exact ih
          exact this _ _ _
      · split at h1
        · cases h1; exact Nat.le_refl _
        · cases h1
    · cases h
def fin6 (o : Option (List VPair)) : Option (List VPair) := match o with | some m => if m.length ≤ 6 then some (pairsM m) else none | none => none
theorem matS_eq : ∀ (l : List (Str × Str)) {e m : List VPair}, Like e m → bindF e = true → (∀ q ∈ l, termF q.1 = true ∧ atomF q.2 = true) → matS e l = fin6 (turnS m l)
  | [], e, m, h, hb, _ => by
    have := h.len
    have := bindF_len hb
    rw [matS, turnS, fin6, if_pos (by omega), ← h.eq]
  | q :: l, e, m, h, hb, hq => by
    obtain ⟨q1, q2⟩ := hq q (by simp)
    have hl := fun r hr => hq r (List.mem_cons_of_mem q hr)
    obtain ⟨t, x⟩ := q
    simp only at q1 q2
    rw [matS, turnS]
    simp only
    by_cases ha : atomF t = true
    · have hv : varF t = false := atom_novar ha
      rw [if_pos ha]
      by_cases htx : t = x
      · rw [if_pos htx, step_eq hv htx]; exact matS_eq l h hb hl
      · rw [if_neg htx, step_no hv htx]; rfl
    · have hv : varF t = true := by simpa [termF, ha] using q1
      have ha : atomF t = false := by simpa using ha
      rw [if_neg (by simp [ha])]
      have hval : valF e t = match mget m t with | some v => (v, true) | none => ([], false) := by
        unfold valF; rw [if_neg (by simp [ha]), if_pos hv, h.look] <;> (cases mget m t <;> rfl)
      unfold extF
      rw [hb, hv, q2, hval]
      cases hg : mget m t with
      | some v =>
        by_cases hvx : v = x
        · rw [step_old hv hg hvx]; simp [hvx]; exact matS_eq l h hb hl
        · rw [step_bad hv hg hvx]; simp [hvx, fin6]
      | none =>
        rw [step_new hv hg]
        by_cases h6 : e.length = 6
        · simp only [Bool.true_and, Bool.false_and, Bool.false_or, h6, decide_true, if_true]
          simp only [Bool.false_eq_true, if_false]
          cases ht : turnS (mput m t x) l with
          | none => rfl
          | some m' =>
            have h1 := turnS_len ht
            have h2 := h.len
            have h3 := (h.set (x := x) hg).len
            have h4 := (setR_perm (v := t) (x := x) e).length_eq
            rw [List.length_append, List.length_singleton] at h4
            rw [fin6, if_neg (by omega)]
        · simp only [Bool.true_and, Bool.false_and, Bool.false_or, h6, decide_false, Bool.false_eq_true, if_false, if_true]
          obtain ⟨b1, b2, b3⟩ := (bindF_iff e).1 hb
          have hn : lookV e t = none := by rw [h.look]; exact hg
          refine matS_eq l (h.set hg) ((bindF_iff _).2 ⟨?_, fun p hp => ?_, (h.set (x := x) hg).asc⟩) hl
          · have h4 := (setR_perm (v := t) (x := x) e).length_eq
            rw [List.length_append, List.length_singleton] at h4
            omega
          · rcases mem_setR.1 hp with rfl | hp
            · exact ⟨hv, q2⟩
            · exact b2 p hp
theorem like_self {b : List VPair} (h : bindF b = true) : Like b b := by
  obtain ⟨_, _, h3⟩ := (bindF_iff b).1 h
  refine ⟨h3, List.Perm.refl _, fun p hp => ?_⟩
  obtain ⟨j, hj⟩ := List.getElem?_of_mem hp
  refine (mget_at ?_ (show b[j]? = some (p.1, p.2) from hj)).1
  refine List.pairwise_map.2 (h3.imp fun hlt he => ?_)
  rw [he] at hlt
  exact List.lt_irrefl _ hlt
theorem var_len {x : Str} (h : varF x = true) : x.length ≤ 9 := by
  unfold varF at h
  simp only [Bool.and_eq_true] at h
  have h2 := h.2
  unfold atomF at h2
  simp only [Bool.and_eq_true, decide_eq_true_eq, List.length_drop] at h2
  have := h2.2.2
  omega
theorem mput_key {k v : Str} : ∀ {m : List VPair} {p : VPair}, p ∈ mput m k v → p.1 = k ∨ p ∈ m
  | [], p, h => by rw [mput] at h; left; rw [List.mem_singleton.1 h]
  | q :: m, p, h => by
    rw [mput] at h
    split at h
    · rcases List.mem_cons.1 h with rfl | h
      · exact .inl rfl
      · exact .inr (List.mem_cons_of_mem _ h)
    · rcases List.mem_cons.1 h with rfl | h
      · exact .inr (by simp)
      · rcases mput_key h with h | h
        · exact .inl h
        · exact .inr (List.mem_cons_of_mem _ h)
theorem turnS_var : ∀ {l : List (Str × Str)} {m m' : List VPair}, turnS m l = some m' → (∀ p ∈ m, varF p.1 = true) → ∀ p ∈ m', varF p.1 = true
  | [], m, m', h, hm => by cases h; exact hm
  | q :: l, m, m', h, hm => by
    rw [turnS] at h
    split at h
    · rename_i m1 h1
      refine turnS_var h ?_
      unfold turnStep at h1
      split at h1
      · rename_i hv
        split at h1
        · split at h1
          · cases h1; exact hm
          · cases h1
        · cases h1
          intro p hp
          rcases mput_key hp with he | hp
          · rw [he]; exact hv
          · exact hm p hp
      · split at h1
        · cases h1; exact hm
        · cases h1
    · cases h
theorem turnF_var {m m' : List VPair} {a x : List Str} (h : turnF m a x = some m') (hm : bindF m = true) : ∀ p ∈ m', p.1.length ≤ 1048576 := fun p hp => by
  unfold turnF at h
  split at h
  · have := var_len (turnS_var h (fun p hp => (((bindF_iff m).1 hm).2.1 p hp).1) p hp)
    omega
  · cases h
theorem extF_bind {b e : List VPair} {v x : Str} (h : extF b v x = some e) : bindF e = true := by
  unfold extF at h
  split at h
  · rename_i hc
    simp only [Bool.and_eq_true] at hc
    obtain ⟨⟨hb, hv⟩, hx⟩ := hc
    split at h
    · cases h; exact hb
    · rename_i h1
      split at h
      · cases h
      · rename_i h2
        cases h
        simp only [Bool.or_eq_true, decide_eq_true_eq, not_or] at h2
        obtain ⟨b1, b2, b3⟩ := (bindF_iff b).1 hb
        have ha : atomF v = false := by
          cases ha : atomF v with
          | false => rfl
          | true => rw [atom_novar ha] at hv; cases hv
        have hn : lookV b v = none := by
          have h3 := h2.1
          unfold valF at h3
          rw [if_neg (by simp [ha]), if_pos hv] at h3
          cases hl : lookV b v with
          | none => rfl
          | some u => rw [hl] at h3; simp at h3
        refine (bindF_iff _).2 ⟨?_, fun p hp => ?_, setR_asc b3 (lookV_none hn)⟩
        · have h4 := (setR_perm (v := v) (x := x) b).length_eq
          rw [List.length_append, List.length_singleton] at h4
          omega
        · rcases mem_setR.1 hp with rfl | hp
          · exact ⟨hv, hx⟩
          · exact b2 p hp
  · cases h
theorem pairs_size : ∀ {b : List VPair}, (∀ p ∈ b, varF p.1 = true ∧ atomF p.2 = true) → listSize tPair b ≤ 17 * b.length
  | [], _ => Nat.zero_le _
  | p :: b, h => by
    have h1 := pairs_size (b := b) (fun q hq => h q (by simp [hq]))
    obtain ⟨hv, ha⟩ := h p (by simp)
    have h2 := var_len hv
    unfold atomF at ha
    simp only [Bool.and_eq_true, decide_eq_true_eq] at ha
    have h3 := ha.2.2
    show (p.1.length + p.2.length) + listSize tPair b ≤ 17 * (b.length + 1)
    omega
theorem bind_size {b : List VPair} (h : bindF b = true) : tPairs.size b ≤ 1048576 := by
  obtain ⟨h1, h2, _⟩ := (bindF_iff b).1 h
  have := pairs_size h2
  rw [tPairs_sz]; omega
end Go.Proofs.YtoindmahilbalaaGreat
namespace Go.Proofs.YtoindmahilbalaaGreat
open Abs
def matF (p : VPattern) (f : Fct) (b : List VPair) : Option (List VPair) :=
  if decide (p.1 = f.1) && isPatF p && isFactF f && bindF b then fin6 (turnF b p.2 f.2) else none
theorem own_tup {α : Type} (T : Ty α) (hf : ∀ a, T.fr a = []) (e : ∀ a, T.tk a 0 = oldL (T.q a)) {F : Fr} {t k : Nat} {l : List α} (v : Value) (hv : plainV v = true) (hk : F[k]? = some (t, T.sz, l.length)) :
    ∃ ts, OwnA F [.p [.l t T.sz (l.map T.q), .v v]] [.tup [.list (some k) (rows T l), .val v]] ts ∧ ts.Nodup := by
  have := OwnA.p _ _ (plain_ownA T hf e F t k l hk (.v v hv .nil)) .nil
  rw [List.append_nil] at this
  exact ⟨[k], this, by simp⟩
theorem pMatchFact.own (p : VPattern) (f : Fct) (b : List VPair) (h1 : tPattern.size p ≤ 1048576) (h2 : tFct.size f ≤ 1048576) (h3 : tPairs.size b ≤ 1048576) :
    Abs.Own false Tryz.prog 151 [.agg (oldL (tPattern.q p)), .agg (oldL (tFct.q f)), .list none (pairs b)] (.p [.l 141 2 (((matF p f b).getD []).map tPair.q), .v (.bool (matF p f b).isSome)]) := by
  refine Abs.IrAt.ownP pMatchFact.ir rfl ?_
  have hx := plainC_old (tPattern.q p)
  have hy := plainC_old (tFct.q f)
  have s1 : tFct.size p ≤ 1048576 := h1
  have s2 := h2
  have s3 := h3
  rw [tFct_size, tStrs_size] at s1 s2
  rw [tPairs_sz] at s3
  generalize ho : matF p f b = o
  repeat' first
    | (conv => whnf
       first | refine Need.mk (fun h => h) ?_ | refine Need.mk rfl ?_ | refine nb_ ?_ | refine Fork.mk (fun _ => ?_) (fun _ => ?_) | refine FinVal.keep ?_ | refine AGCall.mkA _ _ (fun hg => Ret.weak (pIsPattern.ret _ ?_)) rfl ?_ | refine AGCall.mkA _ _ (fun hg => Ret.weak (pIsFact.ret _ ?_)) rfl ?_ | refine AGCall.mkA _ _ (fun hg => Ret.weak (pIsBinding.ret _ ?_)) rfl ?_)
  · exact h1
  · exact h2
  · exact h3
  · rename_i hc
    have : o = none := by
      rw [← ho, matF, if_neg (fun hn => ?_)]
      revert hc hn
      cases hp : decide (p.1 = f.1) <;> cases isPatF p <;> cases isFactF f <;> cases bindF b <;> simp_all
    subst this
    exact own_tup tPair (fun _ => rfl) (fun _ => rfl) (.bool false) rfl rfl
  rename_i hc
  have hc : (decide (p.1 = f.1) && isPatF p && isFactF f && bindF b) = true := by
    revert hc
    cases isPatF p <;> cases isFactF f <;> cases bindF b <;> simp_all
  rw [matF, if_pos hc] at ho
  have hb : bindF b = true := by simp only [Bool.and_eq_true] at hc; exact hc.2
  have hbl := bindF_len hb
  have hmo := pmapOfPairs.lent _ _ hx hy b h3 hb
  have htu := pturnInto.lent _ _ hx hy b p.2 f.2 (by omega) (by omega) (by omega)
  repeat' first
    | (conv => whnf
       first | refine ACall.lentE _ _ _ _ _ (Lent.weak (hmo)) (by repeat' first | exact Lends.nil | refine Lends.map _ ?_ | refine Lends.lend _ _ (by first | exact hx.1 | exact hy.1 | exact noTk_old _ | (intro c hc; rw [List.mem_singleton.1 hc]; rfl) | (intro c hc; cases hc; done)) ?_) (by repeat' first | exact SeesL.nil | refine SeesL.cons ?_ ?_ | exact Or.inl ⟨rfl, rfl⟩ | exact Or.inr (Sees0.str _) | exact Or.inr (Sees0.val _) | exact Or.inr (Sees0.olds _ _) | exact Or.inr (Sees0.old _) | exact Or.inr (Sees0.oldagg _)) ?_ | refine ACall.lent rfl _ _ _ (Lent.weak (htu)) (by repeat' first | exact Lends.nil | refine Lends.map _ ?_ | refine Lends.lend _ _ (by first | exact hx.1 | exact hy.1 | exact noTk_old _ | (intro c hc; rw [List.mem_singleton.1 hc]; rfl) | (intro c hc; cases hc; done)) ?_) (by repeat' first | exact SeesL.nil | refine SeesL.cons ?_ ?_ | exact Or.inl ⟨rfl, rfl⟩ | exact Or.inr (Sees0.str _) | exact Or.inr (Sees0.val _) | exact Or.inr (Sees0.olds _ _) | exact Or.inr (Sees0.old _) | exact Or.inr (Sees0.oldagg _)) ?_)
  rintro _ _ _ ⟨m', rfl, rfl, rfl, hm'⟩
  cases ht : turnF b p.2 f.2 with
  | none =>
    rw [ht] at ho
    have ho : none = o := ho
    subst ho
    repeat' first
      | (conv => whnf
         first | refine Need.mk (fun h => h) ?_ | refine Need.mk rfl ?_ | refine Fork.decYes (by omega) ?_ | refine FinVal.keep ?_)
    all_goals exact own_tup tPair (fun _ => rfl) (fun _ => rfl) (.bool false) rfl rfl
  | some m0 =>
    have e := hm' m0 ht
    subst e
    rw [ht] at ho
    have hkl := turnF_var ht hb
    repeat' first
      | (conv => whnf
         first | refine Need.mk (fun h => h) ?_ | refine Need.mk rfl ?_ | refine Fork.dec (fun _ => ?_) (fun _ => ?_) | refine FinVal.keep ?_)
    · rename_i hc2
      have : o = none := by
        rw [← ho, fin6, if_neg (fun hl => ?_)]
        revert hc2; simp; omega
      subst this
      exact own_tup tPair (fun _ => rfl) (fun _ => rfl) (.bool false) rfl rfl
    rename_i hc2
    have hl6 : m'.length ≤ 6 := by revert hc2; simp; omega
    rw [fin6, if_pos hl6] at ho
    subst ho
    have hpp := ppairsOfMap.lent _ _ hx hy m' (by omega) hkl
    have hpl : (pairsM m').length = m'.length := by rw [pairsM, List.length_map, srt_len, List.length_map]
    repeat' first
      | (conv => whnf
         first | refine FinVal.keep ?_ | refine ACall.lentE _ _ _ _ _ (hpp) (by repeat' first | exact Lends.nil | refine Lends.map _ ?_ | refine Lends.lend _ _ (by first | exact hx.1 | exact hy.1 | exact noTk_old _ | (intro c hc; rw [List.mem_singleton.1 hc]; rfl) | (intro c hc; cases hc; done)) ?_) (by repeat' first | exact SeesL.nil | refine SeesL.cons ?_ ?_ | exact Or.inl ⟨rfl, rfl⟩ | exact Or.inr (Sees0.str _) | exact Or.inr (Sees0.val _) | exact Or.inr (Sees0.olds _ _) | exact Or.inr (Sees0.old _) | exact Or.inr (Sees0.oldagg _)) ?_)
    exact own_tup tPair (fun _ => rfl) (fun _ => rfl) (l := pairsM m') (k := 0) (.bool true) rfl (by rw [hpl]; rfl)
end Go.Proofs.YtoindmahilbalaaGreat
namespace Go.Proofs.YtoindmahilbalaaGreat
namespace Abs
theorem ACall.mkTB {α : Type} (T : Ty α) {C : Con} {lend : Bool} {f : Nat} {vs : List AV} {b : List ABox} {fr : Fr} {k : AV → List ABox → Fr → Prop} (ys : List AV) (l : List α) (v : Value) (F : Fr) (h : C.ret f ys (.tup [.list (some 0) (rows T l), .val v]) F) (hv : SeesL Sees0 vs ys)
    (hk : k (.tup [.list (some fr.length) (rows T l), .val v]) b (fr ++ F)) : ACall C lend f vs b fr k :=
  .mk ys _ _ h hv (by
    show k (.tup [.list (some (0 + fr.length)) (mapTLL _ (rows T l)), .val v]) _ _
    rw [rows, mapTLL_old, Nat.zero_add]; exact hk)
end Abs
open Abs
theorem sCopyB.ret (b : List VPair) (h : tPairs.size b ≤ 1048576) : sCopyB.Ret [.list none (pairs b)] (.list (some 0) (pairs b)) [(141, 2, b.length)] := by
  refine sCopyB.ir.of rfl ?_
  rw [tPairs_sz] at h
  repeat' first
    | (conv => whnf
       first | refine Need.mk rfl ?_ | refine Need.mk ?_ ?_ | refine Final.mk ?_ ?_)
    | refine AV.list_congr ?_ | refine fr1 ?_
  all_goals try simp only [length_rows, length_strs, length_oldLL, List.length_map, Int.toNat_natCast] at *
  · exact rows_cut tPair b
  · simp only [List.length_nil]; omega
  · rfl
  · simp
theorem gtr_blt (a v : Str) : (!(Op.bytesLess a v || a == v)) = blt v a := by
  show (!(blt a v || a == v)) = blt v a
  cases h : blt v a with
  | true =>
    have h1 := STO.asymm blt_sto h
    have h2 : (a == v) = false := by
      rw [beq_eq_false_iff_ne]; rintro rfl; rw [blt_sto.irrefl] at h; cases h
    rw [h1, h2]; rfl
  | false =>
    cases h1 : blt a v with
    | true => rfl
    | false =>
      have := blt_sto.tri a v h1 h
      subst this; simp
theorem sSet.ret (b : List VPair) (v x : Str) (h : tPairs.size b ≤ 1048576) : sSet.Ret [.list none (pairs b), .str v, .str x] (.list (some 0) (pairs (setR v x b))) [(141, 2, (setR v x b).length)] := by
  refine sSet.ir.of rfl ?_
  rw [tPairs_sz] at h
  have hsl := (setR_perm (v := v) (x := x) b).length_eq
  rw [List.length_append, List.length_singleton] at hsl
  repeat' first
    | (conv => whnf
       first | refine Need.mk rfl ?_)
  refine ALoop.mk (Nat × List VPair × Bool) (fun i => ⟨[(0, .list none (pairs b)), (1, .str v), (2, .str x), (7, .list (some 0) (pairs i.2.1)), (8, .val (.bool i.2.2)), (9, .val (.int .i64 i.1))], [], [(141, 2, i.2.1.length)]⟩)
    (fun i => i.1 ≤ b.length ∧ i.2.1 ++ (if i.2.2 then b.drop i.1 else setR v x (b.drop i.1)) = setR v x b) (fun i => b.length - i.1) ⟨(0, [], false), ⟨Nat.zero_le _, rfl⟩, ?_⟩ (fun i hi => ?_)
  · repeat' first
      | exact trivial | refine wl_ ?_ ?_ ?_ ?_ | refine And.intro ?_ ?_ | with_reducible rfl | exact ble_ | refine fr1 ?_ | refine AV.int_congr ?_ | refine AV.bool_congr ?_ | refine AV.str_congr ?_ | refine AV.list_congr ?_ | (apply rfl)
  obtain ⟨i, o, d⟩ := i
  obtain ⟨hi, ho⟩ := hi
  simp only at hi ho
  have hol : o.length ≤ b.length + 1 := by
    have := congrArg List.length ho
    rw [List.length_append, hsl] at this; omega
  have hdr : i < b.length → b.drop i = b.getD i default :: b.drop (i + 1) := fun hlt => by
    rw [List.drop_eq_getElem_cons hlt]; simp [List.getD, hlt]
  repeat' first
    | (conv => whnf
       first | refine Need.mk (fun h => h) ?_ | refine Need.mk rfl ?_ | refine nb_ ?_ | refine Need.mk ?_ ?_ | refine Ix.mapF (fun _ => rfl) ?_ | refine Fork.dec (fun _ => ?_) (fun _ => ?_) | refine Fork.neg (fun _ => ?_) (fun _ => ?_) | refine Fork.mk (fun _ => ?_) (fun _ => ?_) | refine Round.mk ?_ | refine Lit.read rfl ?_ | refine Final.mk ?_ ?_)
    | refine AV.list_congr ?_ | refine fr1 ?_
  all_goals try simp only [length_rows, length_strs, length_oldLL, List.length_map, Int.toNat_natCast] at *
  · intro c hc; rw [List.mem_singleton.1 hc]; rfl
  · simp only [List.length_singleton]; omega
  · simp
  · intro c hc; rw [List.mem_singleton.1 hc]; rfl
  · simp only [List.length_append, List.length_singleton, length_rows]; omega
  · rename_i hc h1
    rw [gtr_blt, Bool.and_eq_true, Bool.not_eq_true'] at hc
    obtain ⟨hd, hb⟩ := hc
    subst hd
    refine ⟨(i + 1, (o ++ [(v, x)]) ++ [b.getD i default], true), ⟨by simp only; omega, ?_⟩, ?_, by simp only; omega⟩
    · rw [hdr (by omega)] at ho
      simp only [Bool.false_eq_true, if_false, setR, hb, if_true] at ho
      simp only [if_true, List.append_assoc, List.singleton_append]
      exact ho
    · repeat' first
        | exact trivial | refine wl_ ?_ ?_ ?_ ?_ | refine And.intro ?_ ?_ | with_reducible rfl | exact ble_ | refine fr1 ?_ | refine AV.int_congr ?_ | refine AV.bool_congr ?_ | refine AV.str_congr ?_ | refine AV.list_congr ?_ | (apply rfl)
      · exact (congrArg (· ++ _) (rows_snoc tPair o (v, x))).trans (rows_snoc tPair (o ++ [(v, x)]) _)
      · rw [wrap64 (by omega) (by omega)]; rfl
      · simp [length_rows]
  · intro c hc; rw [List.mem_singleton.1 hc]; rfl
  · simp only [List.length_singleton]; omega
  · rename_i hc h1
    refine ⟨(i + 1, o ++ [b.getD i default], d), ⟨by simp only; omega, ?_⟩, ?_, by simp only; omega⟩
    · rw [hdr (by omega)] at ho
      cases d with
      | true => simpa using ho
      | false =>
        rw [gtr_blt] at hc
        have hb : blt v (b.getD i default).1 = false := by simpa using hc
        simp only [Bool.false_eq_true, if_false, setR, hb] at ho
        simp only [Bool.false_eq_true, if_false, List.append_assoc, List.singleton_append]
        exact ho
    · repeat' first
        | exact trivial | refine wl_ ?_ ?_ ?_ ?_ | refine And.intro ?_ ?_ | with_reducible rfl | exact ble_ | refine fr1 ?_ | refine AV.int_congr ?_ | refine AV.bool_congr ?_ | refine AV.str_congr ?_ | refine AV.list_congr ?_ | (apply rfl)
      · exact rows_snoc tPair o _
      · rw [wrap64 (by omega) (by omega)]; rfl
      · simp
  · intro c hc; rw [List.mem_singleton.1 hc]; rfl
  · simp only [List.length_singleton]; omega
  · rename_i hd h1
    subst hd
    have e : b.drop i = [] := List.drop_eq_nil_of_le (by omega)
    rw [e] at ho
    have ho : o ++ [(v, x)] = setR v x b := ho
    rw [← ho]; exact rows_snoc tPair o (v, x)
  · rename_i hd h1
    subst hd
    have e : b.drop i = [] := List.drop_eq_nil_of_le (by omega)
    rw [e] at ho
    have ho : o ++ [(v, x)] = setR v x b := ho
    rw [← ho, List.length_append]; rfl
  · rename_i hd h1
    subst hd
    have e : b.drop i = [] := List.drop_eq_nil_of_le (by omega)
    rw [e] at ho
    have ho : o ++ [] = setR v x b := ho
    rw [← ho, List.append_nil]
  · rename_i hd h1
    subst hd
    have e : b.drop i = [] := List.drop_eq_nil_of_le (by omega)
    rw [e] at ho
    have ho : o ++ [] = setR v x b := ho
    rw [← ho, List.append_nil]
theorem ext_none {b : List VPair} {v x : Str} (h : (!bindF b || !varF v || !atomF x) = true) : extF b v x = none := by
  unfold extF
  rw [if_neg]
  intro hc
  simp only [Bool.and_eq_true] at hc
  simp [hc.1.1, hc.1.2, hc.2] at h
theorem ext_ok {b : List VPair} {v x : Str} (h : (!bindF b || !varF v || !atomF x) = false) : extF b v x = if (valF b v).2 && decide ((valF b v).1 = x) then some b else if (valF b v).2 || decide (b.length = 6) then none else some (setR v x b) := by
  unfold extF
  rw [if_pos]
  simpa using h
theorem ext_same {b : List VPair} {v x : Str} (h : (!bindF b || !varF v || !atomF x) = false) (hs : ((valF b v).2 && (valF b v).1 == x) = true) : extF b v x = some b := by
  rw [ext_ok h, if_pos (by simpa using hs)]
theorem ext_full {b : List VPair} {v x : Str} (h : (!bindF b || !varF v || !atomF x) = false) (hs : ((valF b v).2 && (valF b v).1 == x) = false) (h6 : ((valF b v).2 || (b.length : Int) == 6) = true) : extF b v x = none := by
  rw [ext_ok h, if_neg (by simpa using hs), if_pos]
  simp only [Bool.or_eq_true, decide_eq_true_eq, beq_iff_eq] at h6 ⊢
  exact h6.imp id (by omega)
theorem ext_new {b : List VPair} {v x : Str} (h : (!bindF b || !varF v || !atomF x) = false) (hs : ((valF b v).2 && (valF b v).1 == x) = false) (h6 : ((valF b v).2 || (b.length : Int) == 6) = false) : extF b v x = some (setR v x b) := by
  rw [ext_ok h, if_neg (by simpa using hs), if_neg]
  simp only [Bool.or_eq_true, decide_eq_true_eq, Bool.or_eq_false_iff, beq_eq_false_iff_ne] at h6 ⊢
  rintro (h7 | h7)
  · rw [h6.1] at h7; cases h7
  · exact h6.2 (by omega)
theorem sExtend.ret (b : List VPair) (v x : Str) (h : tPairs.size b ≤ 1048576) (hv : v.length ≤ 1048576) (hx : x.length ≤ 1048576) :
    sExtend.Ret [.list none (pairs b), .str v, .str x] (.tup [.list (some 0) (pairs ((extF b v x).getD [])), .val (.bool (extF b v x).isSome)]) [(141, 2, ((extF b v x).getD []).length)] := by
  refine sExtend.ir.of rfl ?_
  generalize ho : extF b v x = o
  repeat' first
    | (conv => whnf
       first | refine Need.mk (fun h => h) ?_ | refine Need.mk rfl ?_ | refine Fork.mk (fun _ => ?_) (fun _ => ?_) | refine FinVal.keep ?_ | refine Final.mk ?_ ?_ | refine ACall.scalA _ _ (sIsBinding.ret _ ?_) rfl ?_ | refine AGCall.mkA _ _ (fun hg => sIsVar.ret _ ?_) rfl ?_ | refine AGCall.mkA _ _ (fun hg => sIsAtom.ret _ ?_) rfl ?_ | refine ACall.scalA _ _ (sValueOf.ret _ _ ?_ ?_) rfl ?_ | refine ACall.mkLA _ _ _ _ (sCopyB.ret _ ?_) ?_ | refine ACall.mkLA _ _ _ _ (sSet.ret _ _ _ ?_) ?_)
    | refine fr1 ?_
  · exact h
  · exact hv
  · exact hx
  · rename_i hc; rw [ext_none hc] at ho; subst ho; rfl
  · rename_i hc; rw [ext_none hc] at ho; subst ho; rfl
  · exact h
  · exact hv
  · exact h
  · rename_i hc hs; rw [ext_same hc hs] at ho; subst ho; rfl
  · rename_i hc hs; rw [ext_same hc hs] at ho; subst ho; rfl
  all_goals (try simp only [length_rows] at *)
  · rename_i hc hs h6; rw [ext_full hc hs h6] at ho; subst ho; rfl
  · rename_i hc hs h6; rw [ext_full hc hs h6] at ho; subst ho; rfl
  · exact h
  · rename_i hc hs h6; rw [ext_new hc hs h6] at ho; subst ho; rfl
  · rename_i hc hs h6; rw [ext_new hc hs h6] at ho; subst ho; rfl
theorem matS_no {e : List VPair} {t x : Str} {l : List (Str × Str)} (ha : atomF t = true) (h : t ≠ x) : matS e ((t, x) :: l) = none := by simp [matS, ha, h]
theorem matS_at {e : List VPair} {t x : Str} {l : List (Str × Str)} (ha : atomF t = true) (h : t = x) : matS e ((t, x) :: l) = matS e l := by subst h; simp [matS, ha]
theorem matS_var {e : List VPair} {t x : Str} {l : List (Str × Str)} (ha : atomF t = false) : matS e ((t, x) :: l) = match extF e t x with | some e' => matS e' l | none => none := by simp only [matS, ha, Bool.false_eq_true, if_false] <;> (cases extF e t x <;> rfl)
def matM (p : VPattern) (f : Fct) (b : List VPair) : Option (List VPair) :=
  if isPatF p && isFactF f && bindF b && decide (p.1 = f.1) && decide (p.2.length = f.2.length) then matS b (p.2.zip f.2) else none
theorem own_tup' {α : Type} (T : Ty α) (hf : ∀ a, T.fr a = []) (e : ∀ a, T.tk a 0 = oldL (T.q a)) {F : Fr} {t k : Nat} {l : List α} (v : Value) (hv : plainV v = true) (hk : F[k]? = some (t, T.sz, l.length)) :
    ∃ ts, OwnA F [.p [.l t T.sz (l.map T.q), .v v]] [.tup [.list (some k) (rows T l), .val v]] ts ∧ ts.Nodup := by
  have := OwnA.p _ _ (plain_ownA T hf e F t k l hk (.v v hv .nil)) .nil
  rw [List.append_nil] at this
  exact ⟨[k], this, by simp⟩
theorem sMatchFact.own (p : VPattern) (f : Fct) (b : List VPair) (h1 : tPattern.size p ≤ 1048576) (h2 : tFct.size f ≤ 1048576) (h3 : tPairs.size b ≤ 1048576) :
    sMatchFact.Own [.agg (oldL (tPattern.q p)), .agg (oldL (tFct.q f)), .list none (pairs b)] (.p [.l 141 2 (((matM p f b).getD []).map tPair.q), .v (.bool (matM p f b).isSome)]) := by
  refine Abs.IrAt.ownP sMatchFact.ir rfl ?_
  have s1 : tFct.size p ≤ 1048576 := h1
  have s2 := h2
  have s3 := h3
  rw [tFct_size, tStrs_size] at s1 s2
  rw [tPairs_sz] at s3
  generalize ho : matM p f b = o
  have ecast : ((p.2.length : Int) != (f.2.length : Int)) = (p.2.length != f.2.length) := by rw [Bool.eq_iff_iff]; simp; omega
  repeat' first
    | (conv => whnf
       first | refine Need.mk (fun h => h) ?_ | refine Need.mk rfl ?_ | refine nb_ ?_ | refine Fork.mk (fun _ => ?_) (fun _ => ?_) | refine FinVal.keep ?_ | refine ACall.scalA _ _ (sIsPattern.ret _ ?_) rfl ?_ | refine AGCall.mkA _ _ (fun hg => sIsFact.ret _ ?_) rfl ?_ | refine AGCall.mkA _ _ (fun hg => sIsBinding.ret _ ?_) rfl ?_ | refine ACall.mkLA _ _ _ _ (sCopyB.ret _ ?_) ?_)
  · exact h1
  · exact h2
  · exact h3
  · rename_i hc
    simp only [length_oldLL, List.length_map, ecast] at hc
    have : o = none := by
      rw [← ho, matM, if_neg (fun hn => ?_)]
      revert hc hn
      cases isPatF p <;> cases isFactF f <;> cases bindF b <;> simp_all
      rintro (h | h) h'
      · exact absurd h' h
      · exact h
    subst this
    exact own_tup' tPair (fun _ => rfl) (fun _ => rfl) (.bool false) rfl rfl
  · exact h3
  rename_i hc
  simp only [length_oldLL, List.length_map, ecast] at hc
  have hc : (isPatF p && isFactF f && bindF b && decide (p.1 = f.1) && decide (p.2.length = f.2.length)) = true := by
    revert hc
    cases isPatF p <;> cases isFactF f <;> cases bindF b <;> simp_all
  rw [matM, if_pos hc] at ho
  simp only [Bool.and_eq_true, decide_eq_true_eq] at hc
  obtain ⟨⟨⟨⟨hpat, hfct⟩, hb⟩, _⟩, hlen⟩ := hc
  refine ALoop.mk (Nat × Fr × Nat × List VPair) (fun i => ⟨[(0, .agg (oldL (tPattern.q p))), (1, .agg (oldL (tFct.q f))), (2, .list none (pairs b)), (3, .bptr 0 0), (4, .bptr 1 0), (8, .list (some i.2.2.1) (pairs i.2.2.2)), (9, .val (.int .i64 i.1))], [.cells .var (oldL (tPattern.q p)), .cells .var (oldL (tFct.q f))], i.2.1⟩)
    (fun i => i.1 ≤ p.2.length ∧ i.2.1[i.2.2.1]? = some (141, 2, i.2.2.2.length) ∧ bindF i.2.2.2 = true ∧ matS i.2.2.2 ((p.2.zip f.2).drop i.1) = o) (fun i => p.2.length - i.1) ⟨(0, [(141, 2, b.length)], 0, b), ⟨Nat.zero_le _, rfl, hb, ho⟩, ?_⟩ (fun i hi => ?_)
  · repeat' first
      | exact trivial | refine wl_ ?_ ?_ ?_ ?_ | refine And.intro ?_ ?_ | with_reducible rfl | exact ble_ | refine fr1 ?_ | refine AV.int_congr ?_ | refine AV.list_congr ?_ | (apply rfl)
  obtain ⟨i, F, k, e⟩ := i
  obtain ⟨hi, hF, hbe, hm⟩ := hi
  simp only at hi hF hbe hm
  have hal := str_le' p.2 i
  have hzl := str_le' f.2 i
  repeat' first
    | (conv => whnf
       first | refine Need.mk rfl ?_ | refine Ix.strsF rfl ?_ | refine Fork.dec (fun _ => ?_) (fun _ => ?_) | refine Fork.sne (fun _ => ?_) (fun _ => ?_) | refine Fork.neg (fun _ => ?_) (fun _ => ?_) | refine Fork.mk (fun _ => ?_) (fun _ => ?_) | refine Round.mk ?_ | refine FinVal.keep ?_ | refine ACall.scalA _ _ (sIsAtom.ret _ ?_) rfl ?_ | refine ACall.mkTB tPair _ _ _ _ (sExtend.ret _ _ _ ?_ ?_ ?_) (by repeat' first | exact SeesL.nil | refine SeesL.cons ?_ ?_ | exact SeesB.of0 (Sees0.val _) | exact SeesB.of0 (Sees0.str _) | exact SeesB.of0 (Sees0.olds _ _) | exact SeesB.of0 (Sees0.old _) | exact SeesB.of0 (Sees0.oldagg _) | exact SeesB.of0 Sees0.nil | exact Sees0.val _ | exact Sees0.str _ | exact Sees0.olds _ _ | exact Sees0.old _ | exact Sees0.oldagg _ | exact Sees0.nil | exact SeesB.of0 (Sees0.any _) | assumption | exact sees_gv _ _ _ (by assumption) (by first | assumption | exact BoxIn.last _ _ | exact BoxIn.more (BoxIn.last _ _) _) | refine SeesB.agg ?_ | refine Sees0.agg ?_ | exact SeesB.of0 (Sees0.clo SeesL.nil SeesL.nil) | exact Sees0.clo SeesL.nil SeesL.nil | exact SeesB.of0 (Sees0.list rfl) | exact Sees0.list rfl) ?_)
  all_goals (try simp only [length_oldLL, List.length_map, Int.toNat_natCast] at *)
  · omega
  · rename_i ha hne hlt
    rw [zip_drop (by omega) (by omega), matS_no ha hne] at hm
    subst hm
    exact own_tup' tPair (fun _ => rfl) (fun _ => rfl) (.bool false) rfl (by simp; rfl)
  · rename_i ha heq hlt
    rw [zip_drop (by omega) (by omega), matS_at ha heq] at hm
    refine ⟨(i + 1, F, k, e), ⟨by simp only; omega, hF, hbe, hm⟩, ?_, by simp only; omega⟩
    repeat' first
      | exact trivial | refine wl_ ?_ ?_ ?_ ?_ | refine And.intro ?_ ?_ | with_reducible rfl | exact ble_ | refine AV.int_congr ?_ | refine AV.list_congr ?_ | (apply rfl)
    rw [wrap64 (by omega) (by omega)]; rfl
  · exact bind_size hbe
  · omega
  · omega
  · rename_i ha hno hlt
    have hx := Option.isSome_eq_false_iff.1 hno
    rw [zip_drop (by omega) (by omega), matS_var ha, Option.isNone_iff_eq_none.1 hx] at hm
    have hm : none = o := hm
    subst hm
    exact own_tup' tPair (fun _ => rfl) (fun _ => rfl) (.bool false) rfl (by simp; rfl)
  · rename_i ha hso hlt
    obtain ⟨e', he⟩ := Option.isSome_iff_exists.1 hso
    rw [zip_drop (by omega) (by omega), matS_var ha, he] at hm
    have hm : matS e' ((p.2.zip f.2).drop (i + 1)) = o := hm
    refine ⟨(i + 1, F ++ [(141, 2, e'.length)], F.length, e'), ⟨by simp only; omega, by simp, extF_bind he, hm⟩, ?_, by simp only; omega⟩
    rw [he]
    repeat' first
      | exact trivial | refine wl_ ?_ ?_ ?_ ?_ | refine And.intro ?_ ?_ | with_reducible rfl | exact ble_ | refine AV.int_congr ?_ | refine AV.list_congr ?_ | (apply rfl)
    rw [wrap64 (by omega) (by omega)]; rfl
  · have e0 : (p.2.zip f.2).drop i = [] := List.drop_eq_nil_of_le (by simp; omega)
    rw [e0, matS] at hm
    subst hm
    exact own_tup' tPair (fun _ => rfl) (fun _ => rfl) (l := e) (.bool true) rfl hF
end Go.Proofs.YtoindmahilbalaaGreat
namespace Go.Proofs.YtoindmahilbalaaGreat
open Abs
theorem matM_eq (p : VPattern) (f : Fct) (b : List VPair) : matM p f b = matF p f b := by
  unfold matM matF
  by_cases hc : (decide (p.1 = f.1) && isPatF p && isFactF f && bindF b) = true
  · rw [if_pos hc]
    have hc' := hc
    simp only [Bool.and_eq_true] at hc'
    obtain ⟨⟨⟨h1, h2⟩, h3⟩, h4⟩ := hc'
    rw [h1, h2, h3, h4]
    simp only [Bool.true_and, decide_eq_true_eq]
    unfold turnF
    by_cases hl : p.2.length = f.2.length
    · rw [if_pos hl, if_pos hl]
      refine matS_eq _ (like_self h4) h4 (fun q hq => ?_)
      have h5 : p.2.all termF = true := by
        unfold isPatF tupF at h2; simp only [Bool.and_eq_true] at h2; exact h2.2
      have h6 : f.2.all atomF = true := by
        unfold isFactF at h3; simp only [Bool.and_eq_true] at h3; exact h3.2
      obtain ⟨t, x⟩ := q
      have h7 := List.of_mem_zip hq
      exact ⟨List.all_eq_true.1 h5 t h7.1, List.all_eq_true.1 h6 x h7.2⟩
    · rw [if_neg hl, if_neg hl]; rfl
  · rw [if_neg hc, if_neg]
    intro hn
    apply hc
    simp only [Bool.and_eq_true] at hn ⊢
    obtain ⟨⟨⟨⟨a, b⟩, c⟩, d⟩, _⟩ := hn
    exact ⟨⟨⟨d, a⟩, b⟩, c⟩
end Go.Proofs.YtoindmahilbalaaGreat
namespace Go.Proofs.YtoindmahilbalaaGreat
open Abs
def mchF (p : VPattern) (b : List VPair) (l : List Fct) : List Fct := l.filter fun f => (matM p f b).isSome
theorem mch_yes {p : VPattern} {b : List VPair} {l : List Fct} {i : Nat} (hi : i < l.length) (h : (matM p (l.getD i default) b).isSome = true) : mchF p b (l.take (i + 1)) = mchF p b (l.take i) ++ [l.getD i default] := by
  rw [take_succ' default hi, mchF, List.filter_append]
  simp only [List.filter_cons, h]; simp [mchF]
theorem mch_no {p : VPattern} {b : List VPair} {l : List Fct} {i : Nat} (hi : i < l.length) (h : (matM p (l.getD i default) b).isSome = false) : mchF p b (l.take (i + 1)) = mchF p b (l.take i) := by
  rw [take_succ' default hi, mchF, List.filter_append]
  simp only [List.filter_cons, h]; simp [mchF]
theorem mch_len (p : VPattern) (b : List VPair) (l : List Fct) (i : Nat) : (mchF p b (l.take i)).length ≤ l.length := by
  refine Nat.le_trans (List.length_filter_le _ _) ?_
  rw [List.length_take]; omega
theorem ok_mat (l : List VPair) (v : Bool) : okT (.p [.l 141 2 (l.map tPair.q), .v (.bool v)]) = true := by
  have := ok_list tPair 141 l
  simp [okT, okTL] at this ⊢
  exact this
theorem sMatchingFacts.ret (p : VPattern) (b : List VPair) (l : List Fct) (h1 : tPattern.size p ≤ 1048576) (h2 : tPairs.size b ≤ 1048576) (h : tFcts.size l ≤ 1048576) :
    sMatchingFacts.Ret [.agg (oldL (tPattern.q p)), .list none (pairs b), .list none (facts l)] (.list (some 0) (tks tFct (mchF p b l) 1)) (accFr (mchF p b l)) := by
  refine sMatchingFacts.ir.of rfl ?_
  rw [tFcts_size] at h
  repeat' first
    | (conv => whnf
       first | refine Need.mk rfl ?_)
  refine ALoop.mk Nat (fun i => ⟨[(0, .agg (oldL (tPattern.q p))), (1, .list none (pairs b)), (2, .list none (facts l)), (3, .bptr 0 0), (7, .list (some 0) (tks tFct (mchF p b (l.take i)) 1)), (8, .val (.int .i64 i))], [.cells .var (oldL (tPattern.q p))], accFr (mchF p b (l.take i))⟩) (fun i => i ≤ l.length) (fun i => l.length - i) ⟨0, Nat.zero_le _, ?_⟩ (fun i hi => ?_)
  · repeat' first
      | exact trivial | refine wl_ ?_ ?_ ?_ ?_ | refine And.intro ?_ ?_ | with_reducible rfl | exact ble_ | refine fr1 ?_ | refine AV.int_congr ?_ | refine AV.list_congr ?_ | (apply rfl)
  have hlen := mch_len p b l i
  have hsz : i < l.length → tFct.size (l.getD i default) ≤ 1048576 := fun hi => by have := fct_le hi; omega
  by_cases hi' : i < l.length
  rotate_left
  · repeat' first
      | (conv => whnf
         first | refine Need.mk rfl ?_ | refine nb_ ?_ | refine Ix.mapF (fun _ => rfl) ?_ | refine Fork.dec (fun _ => ?_) (fun _ => ?_) | refine Final.mk ?_ ?_)
      | refine AV.list_congr ?_
    all_goals try simp only [length_rows, length_strs, length_oldLL, List.length_map, Int.toNat_natCast] at *
    all_goals first
      | omega
      | (rw [List.take_of_length_le (by omega)]; done)
      | (rename_i h9; omega)
  have hm := sMatchFact.own p (l.getD i default) b h1 (hsz hi') h2
  have hok := ok_mat ((matM p (l.getD i default) b).getD []) (matM p (l.getD i default) b).isSome
  repeat' first
    | (conv => whnf
       first | refine Need.mk rfl ?_ | refine nb_ ?_ | refine Need.mk ?_ ?_ | refine Ix.mapF (fun _ => rfl) ?_ | refine Fork.dec (fun _ => ?_) (fun _ => ?_) | refine Fork.mk (fun _ => ?_) (fun _ => ?_) | refine Round.mk ?_ | refine Lit.read rfl ?_ | refine Final.mk ?_ ?_ | refine ACall.oldA _ _ (hm) ?_ | refine ACall.mkFct _ _ (sCopy.ret _ ?_) (by repeat' first | exact SeesL.nil | refine SeesL.cons ?_ ?_ | exact SeesB.of0 (Sees0.val _) | exact SeesB.of0 (Sees0.str _) | exact SeesB.of0 (Sees0.olds _ _) | exact SeesB.of0 (Sees0.old _) | exact SeesB.of0 (Sees0.oldagg _) | exact SeesB.of0 Sees0.nil | exact Sees0.val _ | exact Sees0.str _ | exact Sees0.olds _ _ | exact Sees0.old _ | exact Sees0.oldagg _ | exact Sees0.nil | exact SeesB.of0 (Sees0.any _) | assumption | exact sees_gv _ _ _ (by assumption) (by first | assumption | exact BoxIn.last _ _ | exact BoxIn.more (BoxIn.last _ _) _) | refine SeesB.agg ?_ | refine Sees0.agg ?_ | exact SeesB.of0 (Sees0.clo SeesL.nil SeesL.nil) | exact Sees0.clo SeesL.nil SeesL.nil | exact SeesB.of0 (Sees0.list rfl) | exact Sees0.list rfl) ?_)
    | refine AV.list_congr ?_
  all_goals try simp only [length_rows, length_strs, length_oldLL, List.length_map, Int.toNat_natCast] at *
  · exact hsz hi'
  · rw [length_tks]
  · intro c hc; rw [List.mem_singleton.1 hc]; exact tFct.htk _ _
  · rw [length_tks]; simp only [List.length_singleton]; omega
  · have h1 : (matM p (l.getD i default) b).isSome = true := by assumption
    refine ⟨i + 1, by omega, ?_, by omega⟩
    repeat' first
      | exact trivial | refine wl_ ?_ ?_ ?_ ?_ | refine And.intro ?_ ?_ | with_reducible rfl | exact ble_ | refine AV.int_congr ?_ | refine AV.list_congr ?_ | (apply rfl)
    · rw [acc_snoc, mch_yes hi' h1]
    · rw [wrap64 (by omega) (by omega)]; rfl
    · rw [length_tks, mch_yes hi' h1]; exact accFr_snoc _ _
  · have h1 : (matM p (l.getD i default) b).isSome = false := by assumption
    refine ⟨i + 1, by omega, ?_, by omega⟩
    repeat' first
      | exact trivial | refine wl_ ?_ ?_ ?_ ?_ | refine And.intro ?_ ?_ | with_reducible rfl | exact ble_ | refine AV.int_congr ?_ | refine AV.list_congr ?_ | (apply rfl)
    · rw [mch_no hi' h1]
    · rw [wrap64 (by omega) (by omega)]; rfl
    · rw [mch_no hi' h1]
  all_goals (exfalso; omega)
theorem pMatchingFacts.ret (p : VPattern) (b : List VPair) (l : List Fct) (h1 : tPattern.size p ≤ 1048576) (h2 : tPairs.size b ≤ 1048576) (h : tFcts.size l ≤ 1048576) :
    pMatchingFacts.RetN [.agg (oldL (tPattern.q p)), .list none (pairs b), .list none (facts l)] (.list (some 0) (tks tFct (mchF p b l) 1)) (accFr (mchF p b l)) := by
  refine pMatchingFacts.ir.of rfl ?_
  rw [tFcts_size] at h
  repeat' first
    | (conv => whnf
       first | refine Need.mk rfl ?_)
  refine ALoop.mk Nat (fun i => ⟨[(0, .agg (oldL (tPattern.q p))), (1, .list none (pairs b)), (2, .list none (facts l)), (3, .bptr 0 0), (7, .list (some 0) (tks tFct (mchF p b (l.take i)) 1)), (13, .list none (facts l)), (14, .val (.int .i64 l.length)), (15, .val (.int .i64 i))], [.cells .var (oldL (tPattern.q p))], accFr (mchF p b (l.take i))⟩) (fun i => i ≤ l.length) (fun i => l.length - i) ⟨0, Nat.zero_le _, ?_⟩ (fun i hi => ?_)
  · repeat' first
      | exact trivial | refine wl_ ?_ ?_ ?_ ?_ | refine And.intro ?_ ?_ | with_reducible rfl | exact ble_ | refine fr1 ?_ | refine AV.int_congr ?_ | refine AV.list_congr ?_ | (apply rfl)
    simp
  have hlen := mch_len p b l i
  have hsz : i < l.length → tFct.size (l.getD i default) ≤ 1048576 := fun hi => by have := fct_le hi; omega
  by_cases hi' : i < l.length
  rotate_left
  · repeat' first
      | (conv => whnf
         first | refine Need.mk rfl ?_ | refine Fork.decNo (by omega) ?_ | refine Final.mk ?_ ?_)
      | refine AV.list_congr ?_
    all_goals try simp only [length_rows, length_strs, length_oldLL, List.length_map, Int.toNat_natCast] at *
    all_goals first
      | omega
      | (rw [List.take_of_length_le (by omega)]; done)
      | (rename_i h9; omega)
  have hm := (matM_eq p (l.getD i default) b).symm ▸ pMatchFact.own p (l.getD i default) b h1 (hsz hi') h2
  have hok := ok_mat ((matM p (l.getD i default) b).getD []) (matM p (l.getD i default) b).isSome
  repeat' first
    | (conv => whnf
       first | refine Need.mk rfl ?_ | refine Need.mk ⟨rfl, Nat.le_of_ble_eq_true rfl⟩ ?_ | refine nb_ ?_ | refine Need.mk ?_ ?_ | refine Ix.mapF (fun _ => rfl) ?_ | refine Fork.decYes (by omega) ?_ | refine Fork.mk (fun _ => ?_) (fun _ => ?_) | refine Round.mk ?_ | refine Lit.read rfl ?_ | refine ACall.oldA _ _ (hm) ?_ | refine ACall.mkFct _ _ (Ret.weak (pcopyFact.ret _ ?_)) (by repeat' first | exact SeesL.nil | refine SeesL.cons ?_ ?_ | exact SeesB.of0 (Sees0.val _) | exact SeesB.of0 (Sees0.str _) | exact SeesB.of0 (Sees0.olds _ _) | exact SeesB.of0 (Sees0.old _) | exact SeesB.of0 (Sees0.oldagg _) | exact SeesB.of0 Sees0.nil | exact Sees0.val _ | exact Sees0.str _ | exact Sees0.olds _ _ | exact Sees0.old _ | exact Sees0.oldagg _ | exact Sees0.nil | exact SeesB.of0 (Sees0.any _) | assumption | exact sees_gv _ _ _ (by assumption) (by first | assumption | exact BoxIn.last _ _ | exact BoxIn.more (BoxIn.last _ _) _) | refine SeesB.agg ?_ | refine Sees0.agg ?_ | exact SeesB.of0 (Sees0.clo SeesL.nil SeesL.nil) | exact Sees0.clo SeesL.nil SeesL.nil | exact SeesB.of0 (Sees0.list rfl) | exact Sees0.list rfl) ?_)
  all_goals try simp only [length_rows, length_strs, length_oldLL, List.length_map, Int.toNat_natCast] at *
  · exact hsz hi'
  · rw [length_tks]
  · intro c hc; rw [List.mem_singleton.1 hc]; exact tFct.htk _ _
  · rw [length_tks]; simp only [List.length_singleton]; omega
  · have h1 : (matM p (l.getD i default) b).isSome = true := by assumption
    refine ⟨i + 1, by omega, ?_, by omega⟩
    repeat' first
      | exact trivial | refine wr_ ?_ ?_ ?_ ?_ | refine And.intro ?_ ?_ | with_reducible rfl | exact ble_ | refine AV.int_congr ?_ | refine AV.list_congr ?_ | (apply rfl)
    · rw [acc_snoc, mch_yes hi' h1]
    · rw [wrap64 (by omega) (by omega)]; rfl
    · rw [length_tks, mch_yes hi' h1]; exact accFr_snoc _ _
  · have h1 : (matM p (l.getD i default) b).isSome = false := by assumption
    refine ⟨i + 1, by omega, ?_, by omega⟩
    repeat' first
      | exact trivial | refine wr_ ?_ ?_ ?_ ?_ | refine And.intro ?_ ?_ | with_reducible rfl | exact ble_ | refine AV.int_congr ?_ | refine AV.list_congr ?_ | (apply rfl)
    · rw [mch_no hi' h1]
    · rw [wrap64 (by omega) (by omega)]; rfl
    · rw [mch_no hi' h1]
  all_goals (exfalso; omega)
theorem sMatchingFacts.own (p : VPattern) (b : List VPair) (l : List Fct) (h1 : tPattern.size p ≤ 1048576) (h2 : tPairs.size b ≤ 1048576) (h : tFcts.size l ≤ 1048576) :
    sMatchingFacts.Own [.agg (oldL (tPattern.q p)), .list none (pairs b), .list none (facts l)] (fctsT (mchF p b l)) := acc_own (sMatchingFacts.ret p b l h1 h2 h)
theorem pMatchingFacts.own (p : VPattern) (b : List VPair) (l : List Fct) (h1 : tPattern.size p ≤ 1048576) (h2 : tPairs.size b ≤ 1048576) (h : tFcts.size l ≤ 1048576) :
    pMatchingFacts.OwnN [.agg (oldL (tPattern.q p)), .list none (pairs b), .list none (facts l)] (fctsT (mchF p b l)) := acc_own (pMatchingFacts.ret p b l h1 h2 h)
end Go.Proofs.YtoindmahilbalaaGreat
namespace Go.Proofs.YtoindmahilbalaaGreat
open Abs
def holdsCF (x : VCond) (b : List VPair) (l : List Fct) : Bool := isCondF x && bindF b && (if x.1 = 1 then decide (0 < ((mchF x.2.1 b l).length : Int)) else if x.1 = 2 then ((mchF x.2.1 b l).length : Int) == 0 else holdsTF x b)
theorem hcond_no {x : VCond} {b : List VPair} {l : List Fct} (h : (!isCondF x || !bindF b) = true) : false = holdsCF x b l := by
  unfold holdsCF; revert h; cases isCondF x <;> cases bindF b <;> simp
theorem hcond_at {x : VCond} {b : List VPair} {l : List Fct} (h : (!isCondF x || !bindF b) = false) : (if x.1 = 1 then decide (0 < ((mchF x.2.1 b l).length : Int)) else if x.1 = 2 then ((mchF x.2.1 b l).length : Int) == 0 else holdsTF x b) = holdsCF x b l := by
  unfold holdsCF; revert h; cases isCondF x <;> cases bindF b <;> simp
theorem sHoldsCond.ret (x : VCond) (b : List VPair) (l : List Fct) (h1 : tCond.size x ≤ 1048576) (h2 : tPairs.size b ≤ 1048576) (h : tFcts.size l ≤ 1048576) :
    sHoldsCond.Ret [.agg (oldL (tCond.q x)), .list none (pairs b), .list none (facts l)] (.val (.bool (holdsCF x b l))) [] := by
  refine sHoldsCond.ir.ofS rfl rfl ?_
  have hp := tCond_pat x
  have hm := sMatchingFacts.own x.2.1 b l (by omega) h2 h
  have hok : okT (fctsT (mchF x.2.1 b l)) = true := ok_list tFct _ _
  repeat' first
    | (conv => whnf
       first | refine Need.mk (fun h => h) ?_ | refine Need.mk rfl ?_ | refine nb_ ?_ | refine Fork.dec (fun _ => ?_) (fun _ => ?_) | refine Fork.mk (fun _ => ?_) (fun _ => ?_) | refine FinVal.keep ?_ | refine Final.mk ?_ rfl | refine ACall.scalA _ _ (sIsCond.ret _ ?_) rfl ?_ | refine AGCall.mkA _ _ (fun hg => sIsBinding.ret _ ?_) rfl ?_ | refine ACall.oldA _ _ (hm) ?_ | refine ACall.scalA _ _ (sHoldsTest.ret _ _ ?_ ?_) rfl ?_)
    | refine AV.bool_congr ?_
  all_goals first
    | assumption
    | exact hcond_no (by assumption)
    | (rw [length_oldLL, List.length_map, ← hcond_at (by assumption), if_pos (by assumption)])
    | (rw [length_oldLL, List.length_map, ← hcond_at (by assumption), if_neg (by assumption), if_pos (by assumption)])
    | (rw [← hcond_at (by assumption), if_neg (by assumption), if_neg (by assumption)])
theorem pHoldsCond.ret (x : VCond) (b : List VPair) (l : List Fct) (h1 : tCond.size x ≤ 1048576) (h2 : tPairs.size b ≤ 1048576) (h : tFcts.size l ≤ 1048576) :
    pHoldsCond.RetN [.agg (oldL (tCond.q x)), .list none (pairs b), .list none (facts l)] (.val (.bool (holdsCF x b l))) [] := by
  refine pHoldsCond.ir.ofS rfl rfl ?_
  have hp := tCond_pat x
  have hm := pMatchingFacts.own x.2.1 b l (by omega) h2 h
  have hok : okT (fctsT (mchF x.2.1 b l)) = true := ok_list tFct _ _
  repeat' first
    | (conv => whnf
       first | refine Need.mk (fun h => h) ?_ | refine Need.mk rfl ?_ | refine nb_ ?_ | refine Fork.dec (fun _ => ?_) (fun _ => ?_) | refine Fork.mk (fun _ => ?_) (fun _ => ?_) | refine FinVal.keep ?_ | refine Final.mk ?_ rfl | refine ACall.scalA _ _ (Ret.weak (pIsCond.ret _ ?_)) rfl ?_ | refine AGCall.mkA _ _ (fun hg => Ret.weak (pIsBinding.ret _ ?_)) rfl ?_ | refine ACall.oldA _ _ (hm) ?_ | refine ACall.scalA _ _ (Ret.weak (pHoldsTest.ret _ _ ?_ ?_)) rfl ?_)
    | refine AV.bool_congr ?_
  all_goals first
    | assumption
    | exact hcond_no (by assumption)
    | (rw [length_oldLL, List.length_map, ← hcond_at (by assumption), if_pos (by assumption)])
    | (rw [length_oldLL, List.length_map, ← hcond_at (by assumption), if_neg (by assumption), if_pos (by assumption)])
    | (rw [← hcond_at (by assumption), if_neg (by assumption), if_neg (by assumption)])
end Go.Proofs.YtoindmahilbalaaGreat
