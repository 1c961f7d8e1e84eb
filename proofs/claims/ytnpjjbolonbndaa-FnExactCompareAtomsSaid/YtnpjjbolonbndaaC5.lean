/-
  Chapter 1: the order of atoms.
-/
import Derived.Test.YtnpjjbolonbndaaC4
namespace Go.Proofs.Ytnpjjbolonbndaa
open Abs

attribute [local irreducible] parseF
@[irreducible] def scmp (a b : Str) : Int := if Op.bytesLess a b then -1 else if a = b then 0 else 1
@[irreducible] def icmp (a b : Int) : Int := if a < b then -1 else if a = b then 0 else 1
def cmpA (a b : Str) : Int :=
  if (parseF a).2 then (if (parseF b).2 then icmp (parseF a).1 (parseF b).1 else -1) else (if (parseF b).2 then 1 else scmp a b)

theorem l1Cmp.ret (a b : Str) : l1Cmp.Ret [.str a, .str b] (.val (.int .i64 (scmp a b))) [] := by
  refine l1Cmp.of rfl ?_
  repeat' first
    | contradiction
    | (conv => whnf
       first
         | refine Need.mk (fun h => h) ?_
         | refine Need.mk rfl ?_
         | refine Need.mk (by intros; omega) ?_
         | refine Need.mk ?_ ?_
         | refine Ix.strs rfl (by intros; omega) ?_
         | refine Ix.strs rfl ?_ ?_
         | refine Cut.strs rfl ?_ ?_
         | refine Fork.yes (by assumption) ?_
         | refine Fork.no (by assumption) ?_
         | refine Fork.decYes (by omega) ?_
         | refine Fork.decNo (by omega) ?_
         | refine Fork.dec (fun _ => ?_) (fun _ => ?_)
         | refine Fork.bne (fun _ => ?_) (fun _ => ?_)
         | refine Fork.beq (fun _ => ?_) (fun _ => ?_)
         | refine Fork.seq (fun _ => ?_) (fun _ => ?_)
         | refine Fork.sne (fun _ => ?_) (fun _ => ?_)
         | refine Fork.neg (fun _ => ?_) (fun _ => ?_)
         | refine Fork.mk (fun _ => ?_) (fun _ => ?_)
         | refine Round.mk ?_
         | refine Final.mk ?_ rfl
         | refine Final.mk ?_ ?_)
    | refine AV.bool_congr ?_
    | refine AV.int_congr ?_
    | refine AV.str_congr ?_
    | refine AV.list_congr ?_
    | with_reducible rfl
    | refine fr1 ?_
    | refine fr2 ?_ ?_
  · rename_i h; simp [scmp, h]
  · rename_i h1 h; simp only [Bool.or_eq_false_iff, beq_eq_false_iff_ne] at h; simp [scmp, h1, h.2]
  · rename_i h1 h; simp only [h1, Bool.false_or, beq_iff_eq] at h; subst h; simp [scmp, bl_irrefl]
theorem isNaNInt.ret (a : Int) : isNaNInt.Ret [.val (.int .i64 a)] (.val (.bool false)) [] := by
  refine isNaNInt.of rfl ?_
  repeat' first
    | contradiction
    | (conv => whnf
       first
         | refine Need.mk (fun h => h) ?_
         | refine Need.mk rfl ?_
         | refine Need.mk (by intros; omega) ?_
         | refine Need.mk ?_ ?_
         | refine Ix.strs rfl (by intros; omega) ?_
         | refine Ix.strs rfl ?_ ?_
         | refine Cut.strs rfl ?_ ?_
         | refine Fork.yes (by assumption) ?_
         | refine Fork.no (by assumption) ?_
         | refine Fork.decYes (by omega) ?_
         | refine Fork.decNo (by omega) ?_
         | refine Fork.dec (fun _ => ?_) (fun _ => ?_)
         | refine Fork.bne (fun _ => ?_) (fun _ => ?_)
         | refine Fork.beq (fun _ => ?_) (fun _ => ?_)
         | refine Fork.seq (fun _ => ?_) (fun _ => ?_)
         | refine Fork.sne (fun _ => ?_) (fun _ => ?_)
         | refine Fork.neg (fun _ => ?_) (fun _ => ?_)
         | refine Fork.mk (fun _ => ?_) (fun _ => ?_)
         | refine Round.mk ?_
         | refine Final.mk ?_ rfl
         | refine Final.mk ?_ ?_)
    | refine AV.bool_congr ?_
    | refine AV.int_congr ?_
    | refine AV.str_congr ?_
    | refine AV.list_congr ?_
    | with_reducible rfl
    | refine fr1 ?_
    | refine fr2 ?_ ?_
  simp
theorem isNaNString.ret (a : Str) : isNaNString.Ret [.str a] (.val (.bool false)) [] := by
  refine isNaNString.of rfl ?_
  repeat' first
    | contradiction
    | (conv => whnf
       first
         | refine Need.mk (fun h => h) ?_
         | refine Need.mk rfl ?_
         | refine Need.mk (by intros; omega) ?_
         | refine Need.mk ?_ ?_
         | refine Ix.strs rfl (by intros; omega) ?_
         | refine Ix.strs rfl ?_ ?_
         | refine Cut.strs rfl ?_ ?_
         | refine Fork.yes (by assumption) ?_
         | refine Fork.no (by assumption) ?_
         | refine Fork.decYes (by omega) ?_
         | refine Fork.decNo (by omega) ?_
         | refine Fork.dec (fun _ => ?_) (fun _ => ?_)
         | refine Fork.bne (fun _ => ?_) (fun _ => ?_)
         | refine Fork.beq (fun _ => ?_) (fun _ => ?_)
         | refine Fork.seq (fun _ => ?_) (fun _ => ?_)
         | refine Fork.sne (fun _ => ?_) (fun _ => ?_)
         | refine Fork.neg (fun _ => ?_) (fun _ => ?_)
         | refine Fork.mk (fun _ => ?_) (fun _ => ?_)
         | refine Round.mk ?_
         | refine Final.mk ?_ rfl
         | refine Final.mk ?_ ?_)
    | refine AV.bool_congr ?_
    | refine AV.int_congr ?_
    | refine AV.str_congr ?_
    | refine AV.list_congr ?_
    | with_reducible rfl
    | refine fr1 ?_
    | refine fr2 ?_ ?_
  simp
theorem cmpInt.ret (a b : Int) : cmpInt.Ret [.val (.int .i64 a), .val (.int .i64 b)] (.val (.int .i64 (icmp a b))) [] := by
  refine cmpInt.of rfl ?_
  repeat' first
    | contradiction
    | (conv => whnf
       first
         | refine Need.mk (fun h => h) ?_
         | refine Need.mk rfl ?_
         | refine Need.mk (by intros; omega) ?_
         | refine Need.mk ?_ ?_
         | refine Ix.strs rfl (by intros; omega) ?_
         | refine Ix.strs rfl ?_ ?_
         | refine Cut.strs rfl ?_ ?_
         | refine Fork.yes (by assumption) ?_
         | refine Fork.no (by assumption) ?_
         | refine Fork.decYes (by omega) ?_
         | refine Fork.decNo (by omega) ?_
         | refine Fork.dec (fun _ => ?_) (fun _ => ?_)
         | refine Fork.bne (fun _ => ?_) (fun _ => ?_)
         | refine Fork.beq (fun _ => ?_) (fun _ => ?_)
         | refine Fork.seq (fun _ => ?_) (fun _ => ?_)
         | refine Fork.sne (fun _ => ?_) (fun _ => ?_)
         | refine Fork.neg (fun _ => ?_) (fun _ => ?_)
         | refine Fork.mk (fun _ => ?_) (fun _ => ?_)
         | refine Round.mk ?_
         | refine Final.mk ?_ rfl
         | refine Final.mk ?_ ?_
         | refine ACall.mk _ _ (fun hg => isNaNInt.ret _) ?_)
    | refine AV.bool_congr ?_
    | refine AV.int_congr ?_
    | refine AV.str_congr ?_
    | refine AV.list_congr ?_
    | with_reducible rfl
    | refine fr1 ?_
    | refine fr2 ?_ ?_
  · rename_i h; simp [icmp, h]
  · rename_i h1 h; simp only [icmp]; split <;> (try split) <;> omega
  · rename_i h1 h; simp only [icmp]; split <;> (try split) <;> omega
theorem cmpString.ret (a b : Str) : cmpString.Ret [.str a, .str b] (.val (.int .i64 (scmp a b))) [] := by
  refine cmpString.of rfl ?_
  repeat' first
    | contradiction
    | (conv => whnf
       first
         | refine Need.mk (fun h => h) ?_
         | refine Need.mk rfl ?_
         | refine Need.mk (by intros; omega) ?_
         | refine Need.mk ?_ ?_
         | refine Ix.strs rfl (by intros; omega) ?_
         | refine Ix.strs rfl ?_ ?_
         | refine Cut.strs rfl ?_ ?_
         | refine Fork.yes (by assumption) ?_
         | refine Fork.no (by assumption) ?_
         | refine Fork.decYes (by omega) ?_
         | refine Fork.decNo (by omega) ?_
         | refine Fork.dec (fun _ => ?_) (fun _ => ?_)
         | refine Fork.bne (fun _ => ?_) (fun _ => ?_)
         | refine Fork.beq (fun _ => ?_) (fun _ => ?_)
         | refine Fork.seq (fun _ => ?_) (fun _ => ?_)
         | refine Fork.sne (fun _ => ?_) (fun _ => ?_)
         | refine Fork.neg (fun _ => ?_) (fun _ => ?_)
         | refine Fork.mk (fun _ => ?_) (fun _ => ?_)
         | refine Round.mk ?_
         | refine Final.mk ?_ rfl
         | refine Final.mk ?_ ?_
         | refine ACall.mk _ _ (fun hg => isNaNString.ret _) ?_)
    | refine AV.bool_congr ?_
    | refine AV.int_congr ?_
    | refine AV.str_congr ?_
    | refine AV.list_congr ?_
    | with_reducible rfl
    | refine fr1 ?_
    | refine fr2 ?_ ?_
  · rename_i h; simp [scmp, h]
  · rename_i h1 h; simp only [Bool.or_eq_false_iff, beq_eq_false_iff_ne] at h; simp [scmp, h1, h.2]
  · rename_i h1 h; simp only [h1, Bool.false_or, beq_iff_eq] at h; subst h; simp [scmp, bl_irrefl]
theorem sCmpAtoms.ret (a b : Str) (ha : a.length ≤ 1048576) (hb : b.length ≤ 1048576) : sCmpAtoms.Ret [.str a, .str b] (.val (.int .i64 (cmpA a b))) [] := by
  refine sCmpAtoms.of rfl ?_
  repeat' first
    | contradiction
    | (conv => whnf
       first
         | refine Need.mk (fun h => h) ?_
         | refine Need.mk rfl ?_
         | refine Need.mk (by intros; omega) ?_
         | refine Need.mk ?_ ?_
         | refine Ix.strs rfl (by intros; omega) ?_
         | refine Ix.strs rfl ?_ ?_
         | refine Cut.strs rfl ?_ ?_
         | refine Fork.yes (by assumption) ?_
         | refine Fork.no (by assumption) ?_
         | refine Fork.decYes (by omega) ?_
         | refine Fork.decNo (by omega) ?_
         | refine Fork.dec (fun _ => ?_) (fun _ => ?_)
         | refine Fork.bne (fun _ => ?_) (fun _ => ?_)
         | refine Fork.beq (fun _ => ?_) (fun _ => ?_)
         | refine Fork.seq (fun _ => ?_) (fun _ => ?_)
         | refine Fork.sne (fun _ => ?_) (fun _ => ?_)
         | refine Fork.neg (fun _ => ?_) (fun _ => ?_)
         | refine Fork.mk (fun _ => ?_) (fun _ => ?_)
         | refine Round.mk ?_
         | refine Final.mk ?_ rfl
         | refine Final.mk ?_ ?_
         | refine ACall.mk _ _ (fun hg => sParseInt.ret _ ?_) ?_
         | refine ACall.mk _ _ (fun hg => l1Cmp.ret _ _) ?_)
    | refine AV.bool_congr ?_
    | refine AV.int_congr ?_
    | refine AV.str_congr ?_
    | refine AV.list_congr ?_
    | with_reducible rfl
    | refine fr1 ?_
    | refine fr2 ?_ ?_
  · exact ha
  · exact hb
  all_goals unfold cmpA icmp
  all_goals (cases hp : (parseF a).2 <;> cases hq : (parseF b).2)
  all_goals simp only [hp, hq, Bool.true_and, Bool.false_and, Bool.and_true, Bool.and_false, Bool.not_true, Bool.not_false, decide_eq_true_eq, decide_eq_false_iff_not, Bool.false_eq_true, Bool.true_eq_false, reduceIte] at *
  all_goals (first | rfl | (split <;> (try split) <;> omega))
theorem pCmpAtoms.ret (a b : Str) (ha : a.length ≤ 1048576) (hb : b.length ≤ 1048576) : pCmpAtoms.Ret [.str a, .str b] (.val (.int .i64 (cmpA a b))) [] := by
  refine pCmpAtoms.of rfl ?_
  repeat' first
    | contradiction
    | (conv => whnf
       first
         | refine Need.mk (fun h => h) ?_
         | refine Need.mk rfl ?_
         | refine Need.mk (by intros; omega) ?_
         | refine Need.mk ?_ ?_
         | refine Ix.strs rfl (by intros; omega) ?_
         | refine Ix.strs rfl ?_ ?_
         | refine Cut.strs rfl ?_ ?_
         | refine Fork.yes (by assumption) ?_
         | refine Fork.no (by assumption) ?_
         | refine Fork.decYes (by omega) ?_
         | refine Fork.decNo (by omega) ?_
         | refine Fork.dec (fun _ => ?_) (fun _ => ?_)
         | refine Fork.bne (fun _ => ?_) (fun _ => ?_)
         | refine Fork.beq (fun _ => ?_) (fun _ => ?_)
         | refine Fork.seq (fun _ => ?_) (fun _ => ?_)
         | refine Fork.sne (fun _ => ?_) (fun _ => ?_)
         | refine Fork.neg (fun _ => ?_) (fun _ => ?_)
         | refine Fork.mk (fun _ => ?_) (fun _ => ?_)
         | refine Round.mk ?_
         | refine Final.mk ?_ rfl
         | refine Final.mk ?_ ?_
         | refine ACall.mk _ _ (fun hg => pParseInt.ret _ ?_) ?_
         | refine ACall.mk _ _ (fun hg => cmpInt.ret _ _) ?_
         | refine ACall.mk _ _ (fun hg => cmpString.ret _ _) ?_)
    | refine AV.bool_congr ?_
    | refine AV.int_congr ?_
    | refine AV.str_congr ?_
    | refine AV.list_congr ?_
    | with_reducible rfl
    | refine fr1 ?_
    | refine fr2 ?_ ?_
  · exact ha
  · exact hb
  all_goals simp_all [cmpA]
theorem lawCmpAtoms.ret (a b : Str) : lawCmpAtoms.Ret [.str a, .str b] (.val (.bool true)) [] := by
  refine lawCmpAtoms.of rfl ?_
  repeat' first
    | contradiction
    | (conv => whnf
       first
         | refine Need.mk (fun h => h) ?_
         | refine Need.mk rfl ?_
         | refine Need.mk (by intros; omega) ?_
         | refine Need.mk ?_ ?_
         | refine Ix.strs rfl (by intros; omega) ?_
         | refine Ix.strs rfl ?_ ?_
         | refine Cut.strs rfl ?_ ?_
         | refine Fork.yes (by assumption) ?_
         | refine Fork.no (by assumption) ?_
         | refine Fork.decYes (by omega) ?_
         | refine Fork.decNo (by omega) ?_
         | refine Fork.dec (fun _ => ?_) (fun _ => ?_)
         | refine Fork.bne (fun _ => ?_) (fun _ => ?_)
         | refine Fork.beq (fun _ => ?_) (fun _ => ?_)
         | refine Fork.seq (fun _ => ?_) (fun _ => ?_)
         | refine Fork.sne (fun _ => ?_) (fun _ => ?_)
         | refine Fork.neg (fun _ => ?_) (fun _ => ?_)
         | refine Fork.mk (fun _ => ?_) (fun _ => ?_)
         | refine Round.mk ?_
         | refine Final.mk ?_ rfl
         | refine Final.mk ?_ ?_
         | refine ACall.mk _ _ (fun hg => sCmpAtoms.ret _ _ ?_ ?_) ?_
         | refine ACall.mk _ _ (fun hg => pCmpAtoms.ret _ _ ?_ ?_) ?_)
    | refine AV.bool_congr ?_
    | refine AV.int_congr ?_
    | refine AV.str_congr ?_
    | refine AV.list_congr ?_
    | with_reducible rfl
    | refine fr1 ?_
    | refine fr2 ?_ ?_
  all_goals first | omega | (rename_i h; simp at h)
end Go.Proofs.Ytnpjjbolonbndaa
