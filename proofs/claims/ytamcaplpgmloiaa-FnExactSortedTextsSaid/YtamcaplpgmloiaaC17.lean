/-
  Sorted texts, by the model and by the program.
-/
import Derived.Test.YtamcaplpgmloiaaC14
import Derived.Test.YtamcaplpgmloiaaC16
import Derived.Test.YtamcaplpgmloiaaOrd
namespace Go.Proofs.Ytamcaplpgmloiaa
open Abs

theorem ins_drop {α : Type} {lt : α → α → Bool} {s : α} {l : List α} {i : Nat} (e : α) (d : Bool) (hi : i < l.length) :
    ins lt s d (l.drop i) = if d then l.getD i e :: ins lt s true (l.drop (i + 1)) else if lt (l.getD i e) s then l.getD i e :: ins lt s false (l.drop (i + 1)) else if lt s (l.getD i e) then s :: l.getD i e :: ins lt s true (l.drop (i + 1)) else l.getD i e :: ins lt s true (l.drop (i + 1)) := by
  rw [List.drop_eq_getElem_cons hi]
  have : l.getD i e = l[i] := by simp [List.getD, hi]
  rw [this]
  cases d <;> rfl
theorem sPut.ret (l : List Str) (s : Str) (h : l.length ≤ 1048576) : sPut.Ret [.list none (strs l), .str s] (.list (some 0) (strs (ins blt s false l))) [(9, 1, (ins blt s false l).length)] := by
  refine sPut.of rfl ?_
  repeat' first
    | contradiction
    | (conv => whnf
       first
         | refine Need.mk (fun h => h) ?_
         | refine Need.mk rfl ?_
         | refine Need.mk ⟨rfl, Nat.le_of_ble_eq_true rfl⟩ ?_
         | refine Need.mk (Nat.le_of_ble_eq_true rfl) ?_
         | refine Need.mk (by intros; (try simp only [length_strs] at *); (try simp only [length_rows] at *); (try simp only [length_oldLL, List.length_map] at *); (try simp only [Bool.and_eq_true, decide_eq_true_eq] at *); omega) ?_
         | refine Need.mk ?_ ?_
         | refine Ix.strs rfl (by intros; (try simp only [length_strs] at *); (try simp only [length_rows] at *); (try simp only [length_oldLL, List.length_map] at *); (try simp only [Bool.and_eq_true, decide_eq_true_eq] at *); omega) ?_
         | refine Ix.strs rfl ?_ ?_
         | refine Cut.strs rfl ?_ ?_
         | refine Ix.map (fun _ => rfl) (by intros; (try simp only [length_strs] at *); (try simp only [length_rows] at *); (try simp only [length_oldLL, List.length_map] at *); (try simp only [Bool.and_eq_true, decide_eq_true_eq] at *); omega) ?_
         | refine Ix.map (fun _ => rfl) ?_ ?_
         | refine Cut.map (fun _ => rfl) ?_ ?_
         | refine Fork.yes (by assumption) ?_
         | refine Fork.no (by assumption) ?_
         | refine Fork.decYes (by omega) ?_
         | refine Fork.decNo (by omega) ?_
         | refine Fork.dec (fun _ => ?_) (fun _ => ?_)
         | refine Fork.bne (fun _ => ?_) (fun _ => ?_)
         | refine Fork.beq (fun _ => ?_) (fun _ => ?_)
         | refine Fork.seq (fun _ => ?_) (fun _ => ?_)
         | refine Fork.sne (fun _ => ?_) (fun _ => ?_)
         | refine Fork.neg (fun _ => ?_) (fun _ => ?_)
         | refine Fork.mk (fun _ => ?_) (fun _ => ?_)
         | refine Round.mk ?_
         | refine NilQ.mk (fun b hb => ?_)
         | refine forceK_of ?_
         | refine forceBx_of ?_
         | refine unG_old ?_
         | refine unG_gv ?_
         | refine Lit.read rfl ?_
         | refine FinVal.keep ?_
         | refine FinAgg.keep ?_
         | refine Final.mk rfl rfl
         | refine Final.mk ?_ rfl
         | refine Final.mk ?_ ?_
         | refine FinalT.mk ?_ ?_)
    | refine AV.bool_congr ?_
    | refine AV.int_congr ?_
    | refine AV.str_congr ?_
    | refine AV.list_congr ?_
    | with_reducible rfl
    | refine fr1 ?_
    | refine fr2 ?_ ?_
  refine ALoop.mk (Nat × List Str × Bool) (fun a => ⟨[(0, .list none (strs l)), (1, .str s), (5, .list (some 0) (strs a.2.1)), (6, .val (.bool a.2.2)), (7, .val (.int .i64 a.1))], [], [(9, 1, a.2.1.length)]⟩)
    (fun a => a.1 ≤ l.length ∧ (a.2.1.length ≤ a.1 + 1 ∧ (a.2.2 = false → a.2.1.length ≤ a.1)) ∧ a.2.1 ++ ins blt s a.2.2 (l.drop a.1) = ins blt s false l) (fun a => l.length - a.1) ⟨(0, [], false), ⟨Nat.zero_le _, ⟨Nat.zero_le _, fun _ => Nat.zero_le _⟩, rfl⟩, ?_⟩ (fun a ha => ?_)
  · repeat' first
      | exact trivial
      | refine Weak.mk ?_ ?_ ?_ ?_ (Or.inl (Nat.le_of_ble_eq_true rfl))
      | refine Weak.mk ?_ ?_ ?_ ?_ (Or.inr ⟨(by repeat' first | exact trivial | exact Nat.le_of_ble_eq_true rfl | refine And.intro ?_ ?_), (by repeat' first | exact trivial | exact Nat.le_of_ble_eq_true rfl | refine And.intro ?_ ?_)⟩)
      | refine Weak.mk ?_ ?_ ?_ ?_ ?_
      | refine And.intro ?_ ?_
      | with_reducible rfl
      | exact Nat.le_of_ble_eq_true rfl
      | refine fr1 ?_
      | refine fr2 ?_ ?_
      | refine AV.int_congr ?_
      | refine AV.bool_congr ?_
      | refine AV.str_congr ?_
      | refine AV.list_congr ?_
      | refine AV.bsl_congr ?_ ?_
      | (apply rfl)
  obtain ⟨i, o, d⟩ := a
  obtain ⟨h1, h2, h3⟩ := ha
  simp only at h1 h2 h3 ⊢
  repeat' first
    | contradiction
    | (conv => whnf
       first
         | refine Need.mk (fun h => h) ?_
         | refine Need.mk rfl ?_
         | refine Need.mk ⟨rfl, Nat.le_of_ble_eq_true rfl⟩ ?_
         | refine Need.mk (Nat.le_of_ble_eq_true rfl) ?_
         | refine Need.mk (by intros; (try simp only [length_strs] at *); (try simp only [length_rows] at *); (try simp only [length_oldLL, List.length_map] at *); (try simp only [Bool.and_eq_true, decide_eq_true_eq] at *); omega) ?_
         | refine Need.mk ?_ ?_
         | refine Ix.strs rfl (by intros; (try simp only [length_strs] at *); (try simp only [length_rows] at *); (try simp only [length_oldLL, List.length_map] at *); (try simp only [Bool.and_eq_true, decide_eq_true_eq] at *); omega) ?_
         | refine Ix.strs rfl ?_ ?_
         | refine Cut.strs rfl ?_ ?_
         | refine Ix.map (fun _ => rfl) (by intros; (try simp only [length_strs] at *); (try simp only [length_rows] at *); (try simp only [length_oldLL, List.length_map] at *); (try simp only [Bool.and_eq_true, decide_eq_true_eq] at *); omega) ?_
         | refine Ix.map (fun _ => rfl) ?_ ?_
         | refine Cut.map (fun _ => rfl) ?_ ?_
         | refine Fork.yes (by assumption) ?_
         | refine Fork.no (by assumption) ?_
         | refine Fork.decYes (by omega) ?_
         | refine Fork.decNo (by omega) ?_
         | refine Fork.dec (fun _ => ?_) (fun _ => ?_)
         | refine Fork.bne (fun _ => ?_) (fun _ => ?_)
         | refine Fork.beq (fun _ => ?_) (fun _ => ?_)
         | refine Fork.seq (fun _ => ?_) (fun _ => ?_)
         | refine Fork.sne (fun _ => ?_) (fun _ => ?_)
         | refine Fork.neg (fun _ => ?_) (fun _ => ?_)
         | refine Fork.mk (fun _ => ?_) (fun _ => ?_)
         | refine Round.mk ?_
         | refine NilQ.mk (fun b hb => ?_)
         | refine forceK_of ?_
         | refine forceBx_of ?_
         | refine unG_old ?_
         | refine unG_gv ?_
         | refine Lit.read rfl ?_
         | refine FinVal.keep ?_
         | refine FinAgg.keep ?_
         | refine Final.mk rfl rfl
         | refine Final.mk ?_ rfl
         | refine Final.mk ?_ ?_
         | refine FinalT.mk ?_ ?_)
    | refine AV.bool_congr ?_
    | refine AV.int_congr ?_
    | refine AV.str_congr ?_
    | refine AV.list_congr ?_
    | with_reducible rfl
    | refine fr1 ?_
    | refine fr2 ?_ ?_
  all_goals try simp only [length_strs, List.length_append, List.length_singleton, List.length_cons, List.length_nil, Int.toNat_natCast] at *
  all_goals try (intro c hc; rw [List.mem_singleton.1 hc]; rfl)
  all_goals try (cases d with
    | true => simp at *; done
    | false => have h4 := h2.2 rfl; constructor <;> omega)
  all_goals try (constructor <;> omega)
  · have hb := ‹(!d && !Op.bytesLess (l.getD i []) s) = true›
    have hne := ‹l.getD i [] ≠ s›
    obtain ⟨rfl, hlt⟩ : d = false ∧ blt (l.getD i []) s = false := by revert hb; cases d <;> simp [blt]
    rw [ins_drop [] false (by omega), if_neg (by simp), if_neg (by rw [hlt]; simp)] at h3
    have hgt : blt s (l.getD i []) = true := by
      cases hc : blt s (l.getD i []) with
      | true => rfl
      | false => exact absurd (blt_sto.tri _ _ hlt hc) hne
    rw [if_pos hgt] at h3
    refine ⟨(i + 1, o ++ [s] ++ [l.getD i []], true), ⟨by omega, ⟨by have := h2.2 rfl; simp; omega, by simp⟩, by simpa using h3⟩, ?_, by simp only; omega⟩
    repeat' first
      | exact trivial
      | refine Weak.mk ?_ ?_ ?_ ?_ (Or.inl (Nat.le_of_ble_eq_true rfl))
      | refine Weak.mk ?_ ?_ ?_ ?_ (Or.inr ⟨(by repeat' first | exact trivial | exact Nat.le_of_ble_eq_true rfl | refine And.intro ?_ ?_), (by repeat' first | exact trivial | exact Nat.le_of_ble_eq_true rfl | refine And.intro ?_ ?_)⟩)
      | refine Weak.mk ?_ ?_ ?_ ?_ ?_
      | refine And.intro ?_ ?_
      | with_reducible rfl
      | exact Nat.le_of_ble_eq_true rfl
      | refine fr1 ?_
      | refine fr2 ?_ ?_
      | refine AV.int_congr ?_
      | refine AV.bool_congr ?_
      | refine AV.str_congr ?_
      | refine AV.list_congr ?_
      | refine AV.bsl_congr ?_ ?_
      | (apply rfl)
    · rw [strs_append, strs_append]; rfl
    · rw [wrap64 (by omega) (by omega)]; rfl
    · simp
  · have hb := ‹(!d && !Op.bytesLess (l.getD i []) s) = true›
    have he := ‹l.getD i [] = s›
    obtain ⟨rfl, hlt⟩ : d = false ∧ blt (l.getD i []) s = false := by revert hb; cases d <;> simp [blt]
    rw [ins_drop [] false (by omega), if_neg (by simp), if_neg (by rw [hlt]; simp), if_neg (by rw [he, blt_sto.irrefl]; simp)] at h3
    refine ⟨(i + 1, o ++ [l.getD i []], true), ⟨by omega, ⟨by have := h2.2 rfl; simp; omega, by simp⟩, by simpa using h3⟩, ?_, by simp only; omega⟩
    repeat' first
      | exact trivial
      | refine Weak.mk ?_ ?_ ?_ ?_ (Or.inl (Nat.le_of_ble_eq_true rfl))
      | refine Weak.mk ?_ ?_ ?_ ?_ (Or.inr ⟨(by repeat' first | exact trivial | exact Nat.le_of_ble_eq_true rfl | refine And.intro ?_ ?_), (by repeat' first | exact trivial | exact Nat.le_of_ble_eq_true rfl | refine And.intro ?_ ?_)⟩)
      | refine Weak.mk ?_ ?_ ?_ ?_ ?_
      | refine And.intro ?_ ?_
      | with_reducible rfl
      | exact Nat.le_of_ble_eq_true rfl
      | refine fr1 ?_
      | refine fr2 ?_ ?_
      | refine AV.int_congr ?_
      | refine AV.bool_congr ?_
      | refine AV.str_congr ?_
      | refine AV.list_congr ?_
      | refine AV.bsl_congr ?_ ?_
      | (apply rfl)
    · rw [strs_append]; rfl
    · rw [wrap64 (by omega) (by omega)]; rfl
    · simp
  · have hb := ‹(!d && !Op.bytesLess (l.getD i []) s) = false›
    rw [ins_drop [] d (by omega)] at h3
    refine ⟨(i + 1, o ++ [l.getD i []], d), ⟨by omega, ⟨by simp; omega, fun hd => by have := h2.2 hd; simp; omega⟩, ?_⟩, ?_, by simp only; omega⟩
    · cases d with
      | true => rw [if_pos rfl] at h3; simpa using h3
      | false =>
        have hlt : blt (l.getD i []) s = true := by revert hb; simp [blt]
        rw [if_neg (by simp), if_pos hlt] at h3; simpa using h3
    repeat' first
      | exact trivial
      | refine Weak.mk ?_ ?_ ?_ ?_ (Or.inl (Nat.le_of_ble_eq_true rfl))
      | refine Weak.mk ?_ ?_ ?_ ?_ (Or.inr ⟨(by repeat' first | exact trivial | exact Nat.le_of_ble_eq_true rfl | refine And.intro ?_ ?_), (by repeat' first | exact trivial | exact Nat.le_of_ble_eq_true rfl | refine And.intro ?_ ?_)⟩)
      | refine Weak.mk ?_ ?_ ?_ ?_ ?_
      | refine And.intro ?_ ?_
      | with_reducible rfl
      | exact Nat.le_of_ble_eq_true rfl
      | refine fr1 ?_
      | refine fr2 ?_ ?_
      | refine AV.int_congr ?_
      | refine AV.bool_congr ?_
      | refine AV.str_congr ?_
      | refine AV.list_congr ?_
      | refine AV.bsl_congr ?_ ?_
      | (apply rfl)
    · rw [strs_append]; rfl
    · rw [wrap64 (by omega) (by omega)]; rfl
    · simp
  all_goals rw [List.drop_of_length_le (by omega)] at h3
  · have hd := ‹d = false›
    subst hd
    rw [← h3, strs_append]; rfl
  · have hd := ‹d = false›
    subst hd
    rw [← h3]; simp [ins]
  · have hd := ‹d = true›
    subst hd
    rw [← h3]; simp [ins]
  · have hd := ‹d = true›
    subst hd
    rw [← h3]; simp [ins]

/-- the texts so far, one list for each round -/
def accS (l : List Str) (i : Nat) : List Str := insAll blt (l.take i)
def frS (l : List Str) (i : Nat) : Fr := (List.range (i + 1)).map fun k => (9, 1, (accS l k).length)
theorem accS_succ {l : List Str} {i : Nat} (h : i < l.length) : accS l (i + 1) = ins blt (l.getD i []) false (accS l i) := insAll_take_succ [] h
theorem accS_len (l : List Str) (i : Nat) : (accS l i).length ≤ l.length := by
  have := insAll_len (lt := blt) (l.take i)
  unfold accS; simp at this ⊢; omega
theorem frS_succ (l : List Str) (i : Nat) : frS l (i + 1) = frS l i ++ [(9, 1, (accS l (i + 1)).length)] := by
  unfold frS; rw [List.range_succ (n := i + 1), List.map_append]; rfl
theorem frS_len (l : List Str) (i : Nat) : (frS l i).length = i + 1 := by simp [frS]
theorem sSortedTexts.ret (l : List Str) (h : l.length ≤ 1048576) : sSortedTexts.Ret [.list none (strs l)] (.list (some l.length) (strs (insAll blt l))) (frS l l.length) := by
  refine sSortedTexts.of rfl ?_
  repeat' first
    | contradiction
    | (conv => whnf
       first
         | refine Need.mk (fun h => h) ?_
         | refine Need.mk rfl ?_
         | refine Need.mk ⟨rfl, Nat.le_of_ble_eq_true rfl⟩ ?_
         | refine Need.mk (Nat.le_of_ble_eq_true rfl) ?_
         | refine Need.mk (by intros; (try simp only [length_strs] at *); (try simp only [length_rows] at *); (try simp only [length_oldLL, List.length_map] at *); (try simp only [Bool.and_eq_true, decide_eq_true_eq] at *); omega) ?_
         | refine Need.mk ?_ ?_
         | refine Ix.strs rfl (by intros; (try simp only [length_strs] at *); (try simp only [length_rows] at *); (try simp only [length_oldLL, List.length_map] at *); (try simp only [Bool.and_eq_true, decide_eq_true_eq] at *); omega) ?_
         | refine Ix.strs rfl ?_ ?_
         | refine Cut.strs rfl ?_ ?_
         | refine Ix.map (fun _ => rfl) (by intros; (try simp only [length_strs] at *); (try simp only [length_rows] at *); (try simp only [length_oldLL, List.length_map] at *); (try simp only [Bool.and_eq_true, decide_eq_true_eq] at *); omega) ?_
         | refine Ix.map (fun _ => rfl) ?_ ?_
         | refine Cut.map (fun _ => rfl) ?_ ?_
         | refine Fork.yes (by assumption) ?_
         | refine Fork.no (by assumption) ?_
         | refine Fork.decYes (by omega) ?_
         | refine Fork.decNo (by omega) ?_
         | refine Fork.dec (fun _ => ?_) (fun _ => ?_)
         | refine Fork.bne (fun _ => ?_) (fun _ => ?_)
         | refine Fork.beq (fun _ => ?_) (fun _ => ?_)
         | refine Fork.seq (fun _ => ?_) (fun _ => ?_)
         | refine Fork.sne (fun _ => ?_) (fun _ => ?_)
         | refine Fork.neg (fun _ => ?_) (fun _ => ?_)
         | refine Fork.mk (fun _ => ?_) (fun _ => ?_)
         | refine Round.mk ?_
         | refine NilQ.mk (fun b hb => ?_)
         | refine forceK_of ?_
         | refine forceBx_of ?_
         | refine unG_old ?_
         | refine unG_gv ?_
         | refine Lit.read rfl ?_
         | refine FinVal.keep ?_
         | refine FinAgg.keep ?_
         | refine Final.mk rfl rfl
         | refine Final.mk ?_ rfl
         | refine Final.mk ?_ ?_
         | refine FinalT.mk ?_ ?_)
    | refine AV.bool_congr ?_
    | refine AV.int_congr ?_
    | refine AV.str_congr ?_
    | refine AV.list_congr ?_
    | with_reducible rfl
    | refine fr1 ?_
    | refine fr2 ?_ ?_
  refine ALoop.mk Nat (fun i => ⟨[(0, .list none (strs l)), (3, .list (some i) (strs (accS l i))), (4, .val (.int .i64 i))], [], frS l i⟩) (fun i => i ≤ l.length) (fun i => l.length - i) ⟨0, Nat.zero_le _, ?_⟩ (fun i hi => ?_)
  · repeat' first
      | exact trivial
      | refine Weak.mk ?_ ?_ ?_ ?_ (Or.inl (Nat.le_of_ble_eq_true rfl))
      | refine Weak.mk ?_ ?_ ?_ ?_ (Or.inr ⟨(by repeat' first | exact trivial | exact Nat.le_of_ble_eq_true rfl | refine And.intro ?_ ?_), (by repeat' first | exact trivial | exact Nat.le_of_ble_eq_true rfl | refine And.intro ?_ ?_)⟩)
      | refine Weak.mk ?_ ?_ ?_ ?_ ?_
      | refine And.intro ?_ ?_
      | with_reducible rfl
      | exact Nat.le_of_ble_eq_true rfl
      | refine fr1 ?_
      | refine fr2 ?_ ?_
      | refine AV.int_congr ?_
      | refine AV.bool_congr ?_
      | refine AV.str_congr ?_
      | refine AV.list_congr ?_
      | refine AV.bsl_congr ?_ ?_
      | (apply rfl)
  have hlen := accS_len l i
  repeat' first
    | contradiction
    | (conv => whnf
       first
         | refine Need.mk (fun h => h) ?_
         | refine Need.mk rfl ?_
         | refine Need.mk ⟨rfl, Nat.le_of_ble_eq_true rfl⟩ ?_
         | refine Need.mk (Nat.le_of_ble_eq_true rfl) ?_
         | refine Need.mk (by intros; (try simp only [length_strs] at *); (try simp only [length_rows] at *); (try simp only [length_oldLL, List.length_map] at *); (try simp only [Bool.and_eq_true, decide_eq_true_eq] at *); omega) ?_
         | refine Need.mk ?_ ?_
         | refine Ix.strs rfl (by intros; (try simp only [length_strs] at *); (try simp only [length_rows] at *); (try simp only [length_oldLL, List.length_map] at *); (try simp only [Bool.and_eq_true, decide_eq_true_eq] at *); omega) ?_
         | refine Ix.strs rfl ?_ ?_
         | refine Cut.strs rfl ?_ ?_
         | refine Ix.map (fun _ => rfl) (by intros; (try simp only [length_strs] at *); (try simp only [length_rows] at *); (try simp only [length_oldLL, List.length_map] at *); (try simp only [Bool.and_eq_true, decide_eq_true_eq] at *); omega) ?_
         | refine Ix.map (fun _ => rfl) ?_ ?_
         | refine Cut.map (fun _ => rfl) ?_ ?_
         | refine Fork.yes (by assumption) ?_
         | refine Fork.no (by assumption) ?_
         | refine Fork.decYes (by omega) ?_
         | refine Fork.decNo (by omega) ?_
         | refine Fork.dec (fun _ => ?_) (fun _ => ?_)
         | refine Fork.bne (fun _ => ?_) (fun _ => ?_)
         | refine Fork.beq (fun _ => ?_) (fun _ => ?_)
         | refine Fork.seq (fun _ => ?_) (fun _ => ?_)
         | refine Fork.sne (fun _ => ?_) (fun _ => ?_)
         | refine Fork.neg (fun _ => ?_) (fun _ => ?_)
         | refine Fork.mk (fun _ => ?_) (fun _ => ?_)
         | refine Round.mk ?_
         | refine NilQ.mk (fun b hb => ?_)
         | refine forceK_of ?_
         | refine forceBx_of ?_
         | refine unG_old ?_
         | refine unG_gv ?_
         | refine Lit.read rfl ?_
         | refine FinVal.keep ?_
         | refine FinAgg.keep ?_
         | refine Final.mk rfl rfl
         | refine Final.mk ?_ rfl
         | refine Final.mk ?_ ?_
         | refine FinalT.mk ?_ ?_
         | refine ACall.mkStrs _ _ (sPut.ret _ _ ?_) (by repeat' first | exact SeesL.nil | refine SeesL.cons ?_ ?_ | exact SeesB.of0 (Sees0.val _) | exact SeesB.of0 (Sees0.str _) | exact SeesB.of0 (Sees0.olds _ _) | exact SeesB.of0 (Sees0.old _) | exact SeesB.of0 (Sees0.oldagg _) | exact SeesB.of0 Sees0.nil | exact Sees0.val _ | exact Sees0.str _ | exact Sees0.olds _ _ | exact Sees0.old _ | exact Sees0.oldagg _ | exact Sees0.nil | exact SeesB.of0 (Sees0.any _) | assumption | exact sees_gv _ _ _ (by assumption) (by first | assumption | exact BoxIn.last _ _ | exact BoxIn.more (BoxIn.last _ _) _) | refine SeesB.agg ?_ | refine Sees0.agg ?_ | exact SeesB.of0 (Sees0.clo SeesL.nil SeesL.nil) | exact Sees0.clo SeesL.nil SeesL.nil) ?_)
    | refine AV.bool_congr ?_
    | refine AV.int_congr ?_
    | refine AV.str_congr ?_
    | refine AV.list_congr ?_
    | with_reducible rfl
    | refine fr1 ?_
    | refine fr2 ?_ ?_
  all_goals try simp only [length_rows, length_strs, length_oldLL, List.length_map, Int.toNat_natCast] at *
  · omega
  · refine ⟨i + 1, by omega, ?_, by omega⟩
    repeat' first
      | exact trivial
      | refine Weak.mk ?_ ?_ ?_ ?_ (Or.inl (Nat.le_of_ble_eq_true rfl))
      | refine Weak.mk ?_ ?_ ?_ ?_ (Or.inr ⟨(by repeat' first | exact trivial | exact Nat.le_of_ble_eq_true rfl | refine And.intro ?_ ?_), (by repeat' first | exact trivial | exact Nat.le_of_ble_eq_true rfl | refine And.intro ?_ ?_)⟩)
      | refine Weak.mk ?_ ?_ ?_ ?_ ?_
      | refine And.intro ?_ ?_
      | with_reducible rfl
      | exact Nat.le_of_ble_eq_true rfl
      | refine fr1 ?_
      | refine fr2 ?_ ?_
      | refine AV.int_congr ?_
      | refine AV.bool_congr ?_
      | refine AV.str_congr ?_
      | refine AV.list_congr ?_
      | refine AV.bsl_congr ?_ ?_
      | (apply rfl)
    · show AV.list (some (frS l i).length) (strs (ins blt (l.getD i []) false (accS l i))) = AV.list (some (i + 1)) (strs (accS l (i + 1)))
      rw [frS_len, accS_succ (by omega)]
    · rw [wrap64 (by omega) (by omega)]; rfl
    · rw [frS_succ, accS_succ (by omega)]
  · rename_i hlt
    have : i = l.length := by omega
    subst this
    rw [accS, List.take_length]
  · rename_i hlt
    have : i = l.length := by omega
    rw [this]
theorem sSortedTexts.own (l : List Str) (h : l.length ≤ 1048576) : sSortedTexts.Own [.list none (strs l)] (strT (insAll blt l)) := by
  refine (sSortedTexts.ret l h).own [l.length] ?_ (by simp)
  have := own_strs (frS l l.length) (insAll blt l)
  refine .l _ _ _ l.length (strs (insAll blt l)) ?_ (by simp) (fun e he => ?_) (strs_sz _) this .nil
  · simp [frS, accS]
  · obtain ⟨s, _, rfl⟩ := List.mem_map.1 he; rfl

theorem srt_asc (l : List Str) : (srt l).Pairwise fun x y => blt y x = false := by
  have h := List.pairwise_mergeSort (le := fun x y : Str => decide (x ≤ y)) (fun a b c h1 h2 => by simp at *; exact List.le_trans h1 h2) (fun a b => by simp; exact List.le_total a b) l
  exact h.imp fun {x y} hxy => by rw [blt_eq, decide_eq_false_iff_not]; simpa using hxy
theorem srt_mem (l : List Str) (x : Str) : x ∈ srt l ↔ x ∈ l := List.mem_mergeSort
theorem compact_srt (l : List Str) : Lib.compact (srt l) = insAll blt l := by
  obtain ⟨h1, h2⟩ := compact_asc blt_sto (srt l) (srt_asc l)
  exact Asc.unique blt_sto h1 (insAll_asc blt_sto l) fun x => by rw [h2, srt_mem, insAll_mem blt_sto]
theorem strs_flatten (l : List Str) : (strs l).flatten = l.map .str := by
  rw [strs_eq]; induction l with
  | nil => rfl
  | cons s l ih => rw [List.map_cons, List.flatten_cons, ih]; rfl
theorem noTk_texts {l : List Str} : ∀ c ∈ l.map AV.str, noTk c = true := fun c hc => by obtain ⟨s, _, rfl⟩ := List.mem_map.1 hc; rfl
theorem slClone.own (l : List Str) (h : l.length ≤ 1048576) : slClone.Own [.list none (strs l)] (strT l) :=
  (slClone.ret l h).own [0] (.l _ _ _ 0 (strs l) (by simp) (by simp) (fun e he => by obtain ⟨s, _, rfl⟩ := List.mem_map.1 he; rfl) (strs_sz _) (own_strs _ l) .nil) (by simp)
theorem pSortedTexts.ret (l : List Str) (h : l.length ≤ 1048576) : pSortedTexts.Ret [.list none (strs l)] (.list (some 0) (strs (insAll blt l))) [(9, 1, (insAll blt l).length)] := by
  refine pSortedTexts.of rfl ?_
  conv => whnf
  refine ACall.unb [.list none (strs l)] (strT l) (slClone.own l h) (.cons (SeesB.of0 (Sees0.olds _ _)) .nil) ?_
  rw [gv_strT, gb_strT]
  conv => whnf
  refine ACall.ctx rfl _ _ _ (slSort.ctx [.cells (.row 9 1) (l.map .str)] 0 l rfl (by omega)) (.lend _ _ noTk_texts .nil) (.cons (.inl ⟨rfl, rfl⟩) .nil) ?_
  rintro r b1 ⟨rfl, rfl⟩
  have hlen : (srt l).length = l.length := List.length_mergeSort _
  conv => whnf
  refine ACall.ctx rfl _ _ _ (slCompact.ctx [.cells (.row 9 1) ((srt l).map .str)] 0 (srt l) rfl (by omega)) (.lend _ _ noTk_texts .nil) (.cons (.inl ⟨by rw [hlen]; rfl, rfl⟩) .nil) ?_
  rintro r b1 ⟨rfl, rfl⟩
  rw [compact_srt]
  conv => whnf
  refine FreezeD.flat (Freeze.mk (strs (insAll blt l)) ((insAll blt l).map .str) 9 1 rfl (strs_flatten _).symm (by simp) (strs_sz _) (fun c hc => ?_) ?_)
  · obtain ⟨s, _, rfl⟩ := List.mem_map.1 hc; rfl
  · exact Final.mk rfl rfl
theorem pSortedTexts.own (l : List Str) (h : l.length ≤ 1048576) : pSortedTexts.Own [.list none (strs l)] (strT (insAll blt l)) :=
  (pSortedTexts.ret l h).own [0] (.l _ _ _ 0 (strs _) (by simp) (by simp) (fun e he => by obtain ⟨s, _, rfl⟩ := List.mem_map.1 he; rfl) (strs_sz _) (own_strs _ _) .nil) (by simp)
end Go.Proofs.Ytamcaplpgmloiaa
