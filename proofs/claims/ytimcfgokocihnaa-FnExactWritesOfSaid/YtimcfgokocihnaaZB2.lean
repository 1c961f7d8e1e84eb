/-
  What stands below some laws' proofs, part 2: contracts of functions, by an evaluator.
-/
import Derived.Test.YtimcfgokocihnaaZB1
namespace Go.Proofs.Ytimcfgokocihnaa
open Abs
abbrev VCond := Int × VPattern × Str × Str
instance : DecidableEq VCond := instDecidableEqProd
def tCond : Ty VCond := Ty.pair Ty.int (Ty.pair tPattern (Ty.pair Ty.str Ty.str))
theorem tCond_size (a : VCond) : tCond.size a = 0 + (tPattern.size a.2.1 + (a.2.2.1.length + a.2.2.2.length)) := rfl
theorem tCond_cn : CnB tCond 5 := CnB.pair CnB.int (CnB.pair tPattern_cn (CnB.pair CnB.str CnB.str))
def tConds : Ty (List VCond) := Ty.list 94 tCond
theorem tConds_sz (l : List VCond) : tConds.size l = l.length + listSize tCond l := rfl
theorem tCond_get {l : List VCond} {i : Nat} (hi : i < l.length) : l[i]? = some (l.getD i default) := by simp [List.getD, hi]
theorem tCond_le {l : List VCond} {i : Nat} (hi : i < l.length) : tCond.size (l.getD i default) ≤ listSize tCond l := listSize_mem tCond (List.mem_of_getElem? (tCond_get hi))
theorem Abs.ACall.mk_Cond {C : Con} {lend : Bool} {f : Nat} {vs : List AV} {b : List ABox} {fr : Fr} {k : AV → List ABox → Fr → Prop} (ys : List AV) (a : VCond) (h : C.ret f ys (.agg (tCond.tk a 0)) (tCond.fr a)) (hv : SeesL Sees0 vs ys)
    (hk : k (.agg (tCond.tk a fr.length)) b (fr ++ tCond.fr a)) : ACall C lend f vs b fr k := ACall.mkA tCond ys a h hv hk
theorem Abs.ACall.mk_CondS {C : Con} {lend : Bool} {f : Nat} {vs : List AV} {b : List ABox} {fr : Fr} {k : AV → List ABox → Fr → Prop} (ys : List AV) (l : List VCond) (h : C.ret f ys (.list (some (0 + (frs tCond l).length)) (tks tCond l 0)) (tConds.fr l)) (hv : SeesL Sees0 vs ys)
    (hk : k (.list (some (fr.length + (frs tCond l).length)) (tks tCond l fr.length)) b (fr ++ tConds.fr l)) : ACall C lend f vs b fr k :=
  ACall.mkV tConds ys l (fun n => .list (some (n + (frs tCond l).length)) (tks tCond l n)) (fun _ => rfl) h hv hk
theorem toCond.ret (a : VCond) (h : tCond.size a ≤ 1048576) : toCond.Ret [.agg (oldL (tCond.q a))] (.agg (tCond.tk a 0)) (tCond.fr a) := by
  refine toCond.of rfl ?_
  rw [tCond_size] at h
  repeat' first
    | contradiction | exact trivial
    | (conv => whnf
       first | refine Need.mk (fun h => h) ?_ | refine Need.mk rfl ?_ | refine Need.mk ⟨rfl, Nat.le_of_ble_eq_true rfl⟩ ?_ | refine Need.mk (Nat.le_of_ble_eq_true rfl) ?_ | refine Need.fin ?_ | refine Need.mk ?_ ?_ | refine Ix.strsF rfl ?_ | refine Ix.strs rfl ?_ ?_ | refine Cut.strs rfl ?_ ?_ | refine Ix.mapF (fun _ => rfl) ?_ | refine Ix.map (fun _ => rfl) ?_ ?_ | refine Cut.map (fun _ => rfl) ?_ ?_ | refine Fork.yes (by assumption) ?_ | refine Fork.no (by assumption) ?_ | refine Fork.decYes (by omega) ?_ | refine Fork.decNo (by omega) ?_ | refine Fork.dec (fun _ => ?_) (fun _ => ?_) | refine Fork.bne (fun _ => ?_) (fun _ => ?_) | refine Fork.beq (fun _ => ?_) (fun _ => ?_) | refine Fork.seq (fun _ => ?_) (fun _ => ?_) | refine Fork.sne (fun _ => ?_) (fun _ => ?_) | refine Fork.neg (fun _ => ?_) (fun _ => ?_) | refine Fork.mk (fun _ => ?_) (fun _ => ?_) | refine HAlt.mk ?_ ?_ | apply HJoin.mk3 | exact HEnd.mk rfl rfl rfl | refine HEnd.mk ?_ ?_ ?_ | refine Round.mk ?_ | refine NilQ.mk (fun b hb => ?_) | refine forceK_of ?_ | refine forceBx_of ?_ | refine unG_old ?_ | refine unG_gv ?_ | refine Lit.read rfl ?_ | refine FinVal.keep ?_ | refine FinAgg.keep ?_ | refine Final.mk rfl rfl | refine Final.mk ?_ rfl | refine Final.mk ?_ ?_ | refine FinalT.mk ?_ ?_ | refine FinalC.allA ?_ | refine ACall.mk_Pattern _ _ (toPattern.ret _ ?_) (by repeat' first | exact SeesL.nil | refine SeesL.cons ?_ ?_ | exact SeesB.of0 (Sees0.val _) | exact SeesB.of0 (Sees0.str _) | exact SeesB.of0 (Sees0.olds _ _) | exact SeesB.of0 (Sees0.old _) | exact SeesB.of0 (Sees0.oldagg _) | exact SeesB.of0 Sees0.nil | exact Sees0.val _ | exact Sees0.str _ | exact Sees0.olds _ _ | exact Sees0.old _ | exact Sees0.oldagg _ | exact Sees0.nil | exact SeesB.of0 (Sees0.any _) | assumption | exact sees_gv _ _ _ (by assumption) (by first | assumption | exact BoxIn.last _ _ | exact BoxIn.more (BoxIn.last _ _) _) | refine SeesB.agg ?_ | refine Sees0.agg ?_ | exact SeesB.of0 (Sees0.clo SeesL.nil SeesL.nil) | exact Sees0.clo SeesL.nil SeesL.nil | exact SeesB.of0 (Sees0.list rfl) | exact Sees0.list rfl) ?_)
    | refine AV.bool_congr ?_ | refine AV.int_congr ?_ | refine AV.str_congr ?_ | refine AV.list_congr ?_ | with_reducible rfl | refine fr1 ?_ | refine fr2 ?_ ?_
  all_goals first
    | omega
    | (refine congrArg AV.agg ?_
       repeat' first
         | refine cons_congr ?_ ?_
         | refine tok_congr ?_ ?_
         | refine congrArg (tks _ _) ?_
         | rfl
       all_goals (simp [Ty.pair, Ty.str, Ty.int, Ty.bool, Nat.add_assoc]; done))
    | (simp [tCond, Ty.pair, Ty.str, Ty.int, Ty.bool, List.append_assoc, Nat.add_assoc]; done)
theorem szCond.ret (f : VCond) (a : Int) (h0 : 0 ≤ a) (ha : a ≤ 1048576) (hb : tCond.bd f) :
    szCond.Ret [.agg (oldL (tCond.q f)), .val (.int .i64 a)] (.val (.int .i64 (left a (tCond.size f)))) [] := by
  refine szCond.of rfl ?_
  have hz := tCond_size f
  obtain ⟨hb0, hb1, hb2, hb3⟩ := hb
  have hb2 : f.2.2.1.length ≤ 9223372036854775807 := hb2
  have hb3 : f.2.2.2.length ≤ 9223372036854775807 := hb3
  by_cases c1 : a < (tPattern.size f.2.1 : Int)
  · have e0 : left a (tPattern.size f.2.1) = -1 := by rw [left, if_pos (by omega)]
    repeat' first
      | contradiction | exact trivial
      | (conv => whnf
         first | refine Need.mk (fun h => h) ?_ | refine Need.mk rfl ?_ | refine Need.mk ⟨rfl, Nat.le_of_ble_eq_true rfl⟩ ?_ | refine Need.mk (Nat.le_of_ble_eq_true rfl) ?_ | refine Need.fin ?_ | refine Need.mk ?_ ?_ | refine Ix.strsF rfl ?_ | refine Ix.strs rfl ?_ ?_ | refine Cut.strs rfl ?_ ?_ | refine Ix.mapF (fun _ => rfl) ?_ | refine Ix.map (fun _ => rfl) ?_ ?_ | refine Cut.map (fun _ => rfl) ?_ ?_ | refine Fork.yes (by assumption) ?_ | refine Fork.no (by assumption) ?_ | refine Fork.decYes (by omega) ?_ | refine Fork.decNo (by omega) ?_ | refine Fork.dec (fun _ => ?_) (fun _ => ?_) | refine Fork.bne (fun _ => ?_) (fun _ => ?_) | refine Fork.beq (fun _ => ?_) (fun _ => ?_) | refine Fork.seq (fun _ => ?_) (fun _ => ?_) | refine Fork.sne (fun _ => ?_) (fun _ => ?_) | refine Fork.neg (fun _ => ?_) (fun _ => ?_) | refine Fork.mk (fun _ => ?_) (fun _ => ?_) | refine HAlt.mk ?_ ?_ | apply HJoin.mk3 | exact HEnd.mk rfl rfl rfl | refine HEnd.mk ?_ ?_ ?_ | refine Round.mk ?_ | refine NilQ.mk (fun b hb => ?_) | refine forceK_of ?_ | refine forceBx_of ?_ | refine unG_old ?_ | refine unG_gv ?_ | refine Lit.read rfl ?_ | refine FinVal.keep ?_ | refine FinAgg.keep ?_ | refine Final.mk rfl rfl | refine Final.mk ?_ rfl | refine Final.mk ?_ ?_ | refine FinalT.mk ?_ ?_ | refine FinalC.allA ?_ | refine ACall.scalA _ _ (szPattern.ret _ _ ?_ ?_ ?_) rfl ?_ | refine AQCall.mkA _ _ (fun hg => szPattern.ret _ _ ?_ ?_ ?_) rfl ?_ | refine AGCall.mkA _ _ (fun hg => szPattern.ret _ _ ?_ ?_ ?_) rfl ?_)
      | refine AV.bool_congr ?_ | refine AV.int_congr ?_ | refine AV.str_congr ?_ | refine AV.list_congr ?_ | with_reducible rfl | refine fr1 ?_ | refine fr2 ?_ ?_
    all_goals first
      | assumption
      | omega
      | exact left_eq (by omega)
  by_cases c2 : a < (tPattern.size f.2.1 : Int) + (f.2.2.1.length : Int)
  · have e0 : left a (tPattern.size f.2.1) = a - (tPattern.size f.2.1 : Int) := by rw [left, if_neg (by omega)]
    have e1 : IntKind.i64.wrap (left a (tPattern.size f.2.1) - (f.2.2.1.length : Int)) = a - (tPattern.size f.2.1 : Int) - (f.2.2.1.length : Int) := by rw [e0, wrap64 (by omega) (by omega)]
    repeat' first
      | contradiction | exact trivial
      | (conv => whnf
         first | refine Need.mk (fun h => h) ?_ | refine Need.mk rfl ?_ | refine Need.mk ⟨rfl, Nat.le_of_ble_eq_true rfl⟩ ?_ | refine Need.mk (Nat.le_of_ble_eq_true rfl) ?_ | refine Need.fin ?_ | refine Need.mk ?_ ?_ | refine Ix.strsF rfl ?_ | refine Ix.strs rfl ?_ ?_ | refine Cut.strs rfl ?_ ?_ | refine Ix.mapF (fun _ => rfl) ?_ | refine Ix.map (fun _ => rfl) ?_ ?_ | refine Cut.map (fun _ => rfl) ?_ ?_ | refine Fork.yes (by assumption) ?_ | refine Fork.no (by assumption) ?_ | refine Fork.decYes (by omega) ?_ | refine Fork.decNo (by omega) ?_ | refine Fork.dec (fun _ => ?_) (fun _ => ?_) | refine Fork.bne (fun _ => ?_) (fun _ => ?_) | refine Fork.beq (fun _ => ?_) (fun _ => ?_) | refine Fork.seq (fun _ => ?_) (fun _ => ?_) | refine Fork.sne (fun _ => ?_) (fun _ => ?_) | refine Fork.neg (fun _ => ?_) (fun _ => ?_) | refine Fork.mk (fun _ => ?_) (fun _ => ?_) | refine HAlt.mk ?_ ?_ | apply HJoin.mk3 | exact HEnd.mk rfl rfl rfl | refine HEnd.mk ?_ ?_ ?_ | refine Round.mk ?_ | refine NilQ.mk (fun b hb => ?_) | refine forceK_of ?_ | refine forceBx_of ?_ | refine unG_old ?_ | refine unG_gv ?_ | refine Lit.read rfl ?_ | refine FinVal.keep ?_ | refine FinAgg.keep ?_ | refine Final.mk rfl rfl | refine Final.mk ?_ rfl | refine Final.mk ?_ ?_ | refine FinalT.mk ?_ ?_ | refine FinalC.allA ?_ | refine ACall.scalA _ _ (szPattern.ret _ _ ?_ ?_ ?_) rfl ?_ | refine AQCall.mkA _ _ (fun hg => szPattern.ret _ _ ?_ ?_ ?_) rfl ?_ | refine AGCall.mkA _ _ (fun hg => szPattern.ret _ _ ?_ ?_ ?_) rfl ?_)
      | refine AV.bool_congr ?_ | refine AV.int_congr ?_ | refine AV.str_congr ?_ | refine AV.list_congr ?_ | with_reducible rfl | refine fr1 ?_ | refine fr2 ?_ ?_
    all_goals first
      | assumption
      | omega
      | exact left_eq (by omega)
  by_cases c3 : a < (tPattern.size f.2.1 : Int) + (f.2.2.1.length : Int) + (f.2.2.2.length : Int)
  · have e0 : left a (tPattern.size f.2.1) = a - (tPattern.size f.2.1 : Int) := by rw [left, if_neg (by omega)]
    have e1 : IntKind.i64.wrap (left a (tPattern.size f.2.1) - (f.2.2.1.length : Int)) = a - (tPattern.size f.2.1 : Int) - (f.2.2.1.length : Int) := by rw [e0, wrap64 (by omega) (by omega)]
    have e2 : IntKind.i64.wrap (IntKind.i64.wrap (left a (tPattern.size f.2.1) - (f.2.2.1.length : Int)) - (f.2.2.2.length : Int)) = a - (tPattern.size f.2.1 : Int) - (f.2.2.1.length : Int) - (f.2.2.2.length : Int) := by rw [e1, wrap64 (by omega) (by omega)]
    repeat' first
      | contradiction | exact trivial
      | (conv => whnf
         first | refine Need.mk (fun h => h) ?_ | refine Need.mk rfl ?_ | refine Need.mk ⟨rfl, Nat.le_of_ble_eq_true rfl⟩ ?_ | refine Need.mk (Nat.le_of_ble_eq_true rfl) ?_ | refine Need.fin ?_ | refine Need.mk ?_ ?_ | refine Ix.strsF rfl ?_ | refine Ix.strs rfl ?_ ?_ | refine Cut.strs rfl ?_ ?_ | refine Ix.mapF (fun _ => rfl) ?_ | refine Ix.map (fun _ => rfl) ?_ ?_ | refine Cut.map (fun _ => rfl) ?_ ?_ | refine Fork.yes (by assumption) ?_ | refine Fork.no (by assumption) ?_ | refine Fork.decYes (by omega) ?_ | refine Fork.decNo (by omega) ?_ | refine Fork.dec (fun _ => ?_) (fun _ => ?_) | refine Fork.bne (fun _ => ?_) (fun _ => ?_) | refine Fork.beq (fun _ => ?_) (fun _ => ?_) | refine Fork.seq (fun _ => ?_) (fun _ => ?_) | refine Fork.sne (fun _ => ?_) (fun _ => ?_) | refine Fork.neg (fun _ => ?_) (fun _ => ?_) | refine Fork.mk (fun _ => ?_) (fun _ => ?_) | refine HAlt.mk ?_ ?_ | apply HJoin.mk3 | exact HEnd.mk rfl rfl rfl | refine HEnd.mk ?_ ?_ ?_ | refine Round.mk ?_ | refine NilQ.mk (fun b hb => ?_) | refine forceK_of ?_ | refine forceBx_of ?_ | refine unG_old ?_ | refine unG_gv ?_ | refine Lit.read rfl ?_ | refine FinVal.keep ?_ | refine FinAgg.keep ?_ | refine Final.mk rfl rfl | refine Final.mk ?_ rfl | refine Final.mk ?_ ?_ | refine FinalT.mk ?_ ?_ | refine FinalC.allA ?_ | refine ACall.scalA _ _ (szPattern.ret _ _ ?_ ?_ ?_) rfl ?_ | refine AQCall.mkA _ _ (fun hg => szPattern.ret _ _ ?_ ?_ ?_) rfl ?_ | refine AGCall.mkA _ _ (fun hg => szPattern.ret _ _ ?_ ?_ ?_) rfl ?_)
      | refine AV.bool_congr ?_ | refine AV.int_congr ?_ | refine AV.str_congr ?_ | refine AV.list_congr ?_ | with_reducible rfl | refine fr1 ?_ | refine fr2 ?_ ?_
    all_goals first
      | assumption
      | omega
      | exact left_eq (by omega)
  have e0 : left a (tPattern.size f.2.1) = a - (tPattern.size f.2.1 : Int) := by rw [left, if_neg (by omega)]
  have e1 : IntKind.i64.wrap (left a (tPattern.size f.2.1) - (f.2.2.1.length : Int)) = a - (tPattern.size f.2.1 : Int) - (f.2.2.1.length : Int) := by rw [e0, wrap64 (by omega) (by omega)]
  have e2 : IntKind.i64.wrap (IntKind.i64.wrap (left a (tPattern.size f.2.1) - (f.2.2.1.length : Int)) - (f.2.2.2.length : Int)) = a - (tPattern.size f.2.1 : Int) - (f.2.2.1.length : Int) - (f.2.2.2.length : Int) := by rw [e1, wrap64 (by omega) (by omega)]
  repeat' first
    | contradiction | exact trivial
    | (conv => whnf
       first | refine Need.mk (fun h => h) ?_ | refine Need.mk rfl ?_ | refine Need.mk ⟨rfl, Nat.le_of_ble_eq_true rfl⟩ ?_ | refine Need.mk (Nat.le_of_ble_eq_true rfl) ?_ | refine Need.fin ?_ | refine Need.mk ?_ ?_ | refine Ix.strsF rfl ?_ | refine Ix.strs rfl ?_ ?_ | refine Cut.strs rfl ?_ ?_ | refine Ix.mapF (fun _ => rfl) ?_ | refine Ix.map (fun _ => rfl) ?_ ?_ | refine Cut.map (fun _ => rfl) ?_ ?_ | refine Fork.yes (by assumption) ?_ | refine Fork.no (by assumption) ?_ | refine Fork.decYes (by omega) ?_ | refine Fork.decNo (by omega) ?_ | refine Fork.dec (fun _ => ?_) (fun _ => ?_) | refine Fork.bne (fun _ => ?_) (fun _ => ?_) | refine Fork.beq (fun _ => ?_) (fun _ => ?_) | refine Fork.seq (fun _ => ?_) (fun _ => ?_) | refine Fork.sne (fun _ => ?_) (fun _ => ?_) | refine Fork.neg (fun _ => ?_) (fun _ => ?_) | refine Fork.mk (fun _ => ?_) (fun _ => ?_) | refine HAlt.mk ?_ ?_ | apply HJoin.mk3 | exact HEnd.mk rfl rfl rfl | refine HEnd.mk ?_ ?_ ?_ | refine Round.mk ?_ | refine NilQ.mk (fun b hb => ?_) | refine forceK_of ?_ | refine forceBx_of ?_ | refine unG_old ?_ | refine unG_gv ?_ | refine Lit.read rfl ?_ | refine FinVal.keep ?_ | refine FinAgg.keep ?_ | refine Final.mk rfl rfl | refine Final.mk ?_ rfl | refine Final.mk ?_ ?_ | refine FinalT.mk ?_ ?_ | refine FinalC.allA ?_ | refine ACall.scalA _ _ (szPattern.ret _ _ ?_ ?_ ?_) rfl ?_ | refine AQCall.mkA _ _ (fun hg => szPattern.ret _ _ ?_ ?_ ?_) rfl ?_ | refine AGCall.mkA _ _ (fun hg => szPattern.ret _ _ ?_ ?_ ?_) rfl ?_)
    | refine AV.bool_congr ?_ | refine AV.int_congr ?_ | refine AV.str_congr ?_ | refine AV.list_congr ?_ | with_reducible rfl | refine fr1 ?_ | refine fr2 ?_ ?_
  all_goals first
    | assumption
    | omega
    | exact left_eq (by omega)
theorem eqCond.big (f g : VCond) (h : tCond.size f ≤ 1099511627775) : eqCond.Ret [.agg (oldL (tCond.q f)), .agg (oldL (tCond.q g))] (.val (.bool (decide (f = g)))) [] := by
  refine eqCond.of rfl ?_
  have hz := tCond_size f
  repeat' first
    | contradiction | exact trivial
    | (conv => whnf
       first | refine Need.mk (fun h => h) ?_ | refine Need.mk rfl ?_ | refine Need.mk ⟨rfl, Nat.le_of_ble_eq_true rfl⟩ ?_ | refine Need.mk (Nat.le_of_ble_eq_true rfl) ?_ | refine Need.fin ?_ | refine Need.mk ?_ ?_ | refine Ix.strsF rfl ?_ | refine Ix.strs rfl ?_ ?_ | refine Cut.strs rfl ?_ ?_ | refine Ix.mapF (fun _ => rfl) ?_ | refine Ix.map (fun _ => rfl) ?_ ?_ | refine Cut.map (fun _ => rfl) ?_ ?_ | refine Fork.yes (by assumption) ?_ | refine Fork.no (by assumption) ?_ | refine Fork.decYes (by omega) ?_ | refine Fork.decNo (by omega) ?_ | refine Fork.dec (fun _ => ?_) (fun _ => ?_) | refine Fork.bne (fun _ => ?_) (fun _ => ?_) | refine Fork.beq (fun _ => ?_) (fun _ => ?_) | refine Fork.seq (fun _ => ?_) (fun _ => ?_) | refine Fork.sne (fun _ => ?_) (fun _ => ?_) | refine Fork.neg (fun _ => ?_) (fun _ => ?_) | refine Fork.mk (fun _ => ?_) (fun _ => ?_) | refine HAlt.mk ?_ ?_ | apply HJoin.mk3 | exact HEnd.mk rfl rfl rfl | refine HEnd.mk ?_ ?_ ?_ | refine Round.mk ?_ | refine NilQ.mk (fun b hb => ?_) | refine forceK_of ?_ | refine forceBx_of ?_ | refine unG_old ?_ | refine unG_gv ?_ | refine Lit.read rfl ?_ | refine FinVal.keep ?_ | refine FinAgg.keep ?_ | refine Final.mk rfl rfl | refine Final.mk ?_ rfl | refine Final.mk ?_ ?_ | refine FinalT.mk ?_ ?_ | refine FinalC.allA ?_ | refine ACall.scalA _ _ (eqPattern.big _ _ ?_) rfl ?_ | refine AQCall.mkA _ _ (fun hg => eqPattern.big _ _ ?_) rfl ?_ | refine AGCall.mkA _ _ (fun hg => eqPattern.big _ _ ?_) rfl ?_)
    | refine AV.bool_congr ?_ | refine AV.int_congr ?_ | refine AV.str_congr ?_ | refine AV.list_congr ?_ | with_reducible rfl | refine fr1 ?_ | refine fr2 ?_ ?_
  all_goals first
    | omega
    | (simp only [tStrs_size, tInts_size] at *; omega)
    | (obtain ⟨x0, ⟨x10, x11⟩, x2, x3⟩ := f; obtain ⟨y0, ⟨y10, y11⟩, y2, y3⟩ := g; simp_all)
theorem toCondS.ret (l : List VCond) (h : tConds.size l ≤ 1048576) : toCondS.Ret [.list none (rows tCond l)] (.list (some (0 + (frs tCond l).length)) (tks tCond l 0)) (tConds.fr l) := by
  refine toCondS.of rfl ?_
  rw [tConds_sz] at h
  repeat' first
    | contradiction | exact trivial
    | (conv => whnf
       first | refine Need.mk (fun h => h) ?_ | refine Need.mk rfl ?_ | refine Need.mk ⟨rfl, Nat.le_of_ble_eq_true rfl⟩ ?_ | refine Need.mk (Nat.le_of_ble_eq_true rfl) ?_ | refine Need.fin ?_ | refine Need.mk ?_ ?_ | refine Ix.strsF rfl ?_ | refine Ix.strs rfl ?_ ?_ | refine Cut.strs rfl ?_ ?_ | refine Ix.mapF (fun _ => rfl) ?_ | refine Ix.map (fun _ => rfl) ?_ ?_ | refine Cut.map (fun _ => rfl) ?_ ?_ | refine Fork.yes (by assumption) ?_ | refine Fork.no (by assumption) ?_ | refine Fork.decYes (by omega) ?_ | refine Fork.decNo (by omega) ?_ | refine Fork.dec (fun _ => ?_) (fun _ => ?_) | refine Fork.bne (fun _ => ?_) (fun _ => ?_) | refine Fork.beq (fun _ => ?_) (fun _ => ?_) | refine Fork.seq (fun _ => ?_) (fun _ => ?_) | refine Fork.sne (fun _ => ?_) (fun _ => ?_) | refine Fork.neg (fun _ => ?_) (fun _ => ?_) | refine Fork.mk (fun _ => ?_) (fun _ => ?_) | refine HAlt.mk ?_ ?_ | apply HJoin.mk3 | exact HEnd.mk rfl rfl rfl | refine HEnd.mk ?_ ?_ ?_ | refine Round.mk ?_ | refine NilQ.mk (fun b hb => ?_) | refine forceK_of ?_ | refine forceBx_of ?_ | refine unG_old ?_ | refine unG_gv ?_ | refine Lit.read rfl ?_ | refine FinVal.keep ?_ | refine FinAgg.keep ?_ | refine Final.mk rfl rfl | refine Final.mk ?_ rfl | refine Final.mk ?_ ?_ | refine FinalT.mk ?_ ?_ | refine FinalC.allA ?_)
    | refine AV.bool_congr ?_ | refine AV.int_congr ?_ | refine AV.str_congr ?_ | refine AV.list_congr ?_ | with_reducible rfl | refine fr1 ?_ | refine fr2 ?_ ?_
  refine ALoop.mk Nat (fun i => ⟨[(0, .list none (rows tCond l)), (3, .bsl 0 l.length), (4, .val (.int .i64 i))], [.cells (.row 94 5) (part [.val (.int .i64 0), .str [], .val (.slice none 0 0), .str [], .str []] (tks tCond l 0) i)], frs tCond (l.take i)⟩) (fun i => i ≤ l.length) (fun i => l.length - i) ⟨0, Nat.zero_le _, ?_⟩ (fun i hi => ?_)
  · repeat' first
      | exact trivial | refine Weak.mk ?_ ?_ ?_ ?_ (Or.inl (Nat.le_of_ble_eq_true rfl)) | refine Weak.mk ?_ ?_ ?_ ?_ (Or.inr ⟨(by repeat' first | exact trivial | exact Nat.le_of_ble_eq_true rfl | refine And.intro ?_ ?_), (by repeat' first | exact trivial | exact Nat.le_of_ble_eq_true rfl | refine And.intro ?_ ?_)⟩) | refine Weak.mk ?_ ?_ ?_ ?_ ?_ | refine And.intro ?_ ?_ | with_reducible rfl | exact Nat.le_of_ble_eq_true rfl | refine fr1 ?_ | refine fr2 ?_ ?_ | refine AV.int_congr ?_ | refine AV.bool_congr ?_ | refine AV.str_congr ?_ | refine AV.list_congr ?_ | refine AV.bsl_congr ?_ ?_ | (apply rfl)
    · simp
    · simp only [List.nil_append, List.length_cons, List.length_nil, List.take_succ_cons, List.take_zero]
      rw [part_made (xs := tks tCond l 0) (sz := 5) rfl (by decide) (by simp [length_tks])]; rfl
  repeat' first
    | contradiction | exact trivial
    | (conv => whnf
       first | refine Need.mk (fun h => h) ?_ | refine Need.mk rfl ?_ | refine Need.mk ⟨rfl, Nat.le_of_ble_eq_true rfl⟩ ?_ | refine Need.mk (Nat.le_of_ble_eq_true rfl) ?_ | refine Need.fin ?_ | refine Need.mk ?_ ?_ | refine Ix.strsF rfl ?_ | refine Ix.strs rfl ?_ ?_ | refine Cut.strs rfl ?_ ?_ | refine Ix.mapF (fun _ => rfl) ?_ | refine Ix.map (fun _ => rfl) ?_ ?_ | refine Cut.map (fun _ => rfl) ?_ ?_ | refine Fork.yes (by assumption) ?_ | refine Fork.no (by assumption) ?_ | refine Fork.decYes (by omega) ?_ | refine Fork.decNo (by omega) ?_ | refine Fork.dec (fun _ => ?_) (fun _ => ?_) | refine Fork.bne (fun _ => ?_) (fun _ => ?_) | refine Fork.beq (fun _ => ?_) (fun _ => ?_) | refine Fork.seq (fun _ => ?_) (fun _ => ?_) | refine Fork.sne (fun _ => ?_) (fun _ => ?_) | refine Fork.neg (fun _ => ?_) (fun _ => ?_) | refine Fork.mk (fun _ => ?_) (fun _ => ?_) | refine HAlt.mk ?_ ?_ | apply HJoin.mk3 | exact HEnd.mk rfl rfl rfl | refine HEnd.mk ?_ ?_ ?_ | refine Round.mk ?_ | refine NilQ.mk (fun b hb => ?_) | refine forceK_of ?_ | refine forceBx_of ?_ | refine unG_old ?_ | refine unG_gv ?_ | refine Lit.read rfl ?_ | refine FinVal.keep ?_ | refine FinAgg.keep ?_ | refine Final.mk rfl rfl | refine Final.mk ?_ rfl | refine Final.mk ?_ ?_ | refine FinalT.mk ?_ ?_ | refine FinalC.allA ?_ | refine ACall.mk_Cond _ _ (toCond.ret _ ?_) (by repeat' first | exact SeesL.nil | refine SeesL.cons ?_ ?_ | exact SeesB.of0 (Sees0.val _) | exact SeesB.of0 (Sees0.str _) | exact SeesB.of0 (Sees0.olds _ _) | exact SeesB.of0 (Sees0.old _) | exact SeesB.of0 (Sees0.oldagg _) | exact SeesB.of0 Sees0.nil | exact Sees0.val _ | exact Sees0.str _ | exact Sees0.olds _ _ | exact Sees0.old _ | exact Sees0.oldagg _ | exact Sees0.nil | exact SeesB.of0 (Sees0.any _) | assumption | exact sees_gv _ _ _ (by assumption) (by first | assumption | exact BoxIn.last _ _ | exact BoxIn.more (BoxIn.last _ _) _) | refine SeesB.agg ?_ | refine Sees0.agg ?_ | exact SeesB.of0 (Sees0.clo SeesL.nil SeesL.nil) | exact Sees0.clo SeesL.nil SeesL.nil | exact SeesB.of0 (Sees0.list rfl) | exact Sees0.list rfl) ?_)
    | refine AV.bool_congr ?_ | refine AV.int_congr ?_ | refine AV.str_congr ?_ | refine AV.list_congr ?_ | with_reducible rfl | refine fr1 ?_ | refine fr2 ?_ ?_
  · rename_i h1
    rw [length_rows] at h1
    have := listSize_mem tCond (List.mem_of_getElem? (tCond_get (l := l) (i := i) (by omega)))
    rw [Int.toNat_natCast]; omega
  · rename_i h1
    rw [length_rows] at h1
    rw [part_len (sz := 5) rfl (tks_sz tCond l 0) (by rw [length_tks]; exact hi), Int.toNat_natCast, length_tks]
    exact ⟨rfl, by omega⟩
  · rename_i h1
    rw [length_rows] at h1
    refine ⟨i + 1, by omega, ?_, by omega⟩
    repeat' first
      | exact trivial | refine Weak.mk ?_ ?_ ?_ ?_ (Or.inl (Nat.le_of_ble_eq_true rfl)) | refine Weak.mk ?_ ?_ ?_ ?_ (Or.inr ⟨(by repeat' first | exact trivial | exact Nat.le_of_ble_eq_true rfl | refine And.intro ?_ ?_), (by repeat' first | exact trivial | exact Nat.le_of_ble_eq_true rfl | refine And.intro ?_ ?_)⟩) | refine Weak.mk ?_ ?_ ?_ ?_ ?_ | refine And.intro ?_ ?_ | with_reducible rfl | exact Nat.le_of_ble_eq_true rfl | refine fr1 ?_ | refine fr2 ?_ ?_ | refine AV.int_congr ?_ | refine AV.bool_congr ?_ | refine AV.str_congr ?_ | refine AV.list_congr ?_ | refine AV.bsl_congr ?_ ?_ | (apply rfl)
    · rw [wrap64 (by omega) (by omega)]; rfl
    · have := part_set (z := [.val (.int .i64 0), .str [], .val (.slice none 0 0), .str [], .str []]) (sz := 5) rfl (tks_sz tCond l 0) (tks_get tCond 0 (tCond_get (l := l) (i := i) (by omega)))
      rw [Nat.zero_add] at this
      simp only [List.set_cons_zero, List.take_succ_cons, List.take_zero, List.length_cons, List.length_nil, Int.toNat_natCast, this]
    · show frs tCond (l.take i) ++ tCond.fr (l.getD (i : Int).toNat default) = frs tCond (l.take (i + 1))
      rw [Int.toNat_natCast, take_succ' default (by omega), frs_append]; simp [frs]
  · rename_i h1
    rw [length_rows] at h1
    conv => whnf
    have : i = l.length := by omega
    subst this
    have hall := part_all [.val (.int .i64 0), .str [], .val (.slice none 0 0), .str [], .str []] (tks tCond l 0)
    rw [length_tks] at hall
    refine FreezeD.flat (Freeze.mk (tks tCond l 0) _ 94 5 rfl hall (length_tks _ _ _) (tks_sz tCond l 0) (fun c hc => ?_) ?_)
    · rw [hall] at hc; exact tks_nr tCond l 0 c hc
    · refine Final.mk ?_ ?_
      · rw [List.take_length, Nat.zero_add]
      · rw [List.take_length]; rfl
theorem szCondS.ret (l : List VCond) (a : Int) (h0 : 0 ≤ a) (ha : a ≤ 1048576) (hb : tConds.bd l) :
    szCondS.Ret [.list none (rows tCond l), .val (.int .i64 a)] (.val (.int .i64 (left a (tConds.size l)))) [] := by
  refine szCondS.of rfl ?_
  obtain ⟨hl, hb⟩ := hb
  have hw : IntKind.i64.wrap (a - ((rows tCond l).length : Int)) = a - l.length := by rw [length_rows]; exact wrap64 (by omega) (by omega)
  have hz := tConds_sz l
  repeat' first
    | contradiction | exact trivial
    | (conv => whnf
       first | refine Need.mk (fun h => h) ?_ | refine Need.mk rfl ?_ | refine Need.mk ⟨rfl, Nat.le_of_ble_eq_true rfl⟩ ?_ | refine Need.mk (Nat.le_of_ble_eq_true rfl) ?_ | refine Need.fin ?_ | refine Need.mk ?_ ?_ | refine Ix.strsF rfl ?_ | refine Ix.strs rfl ?_ ?_ | refine Cut.strs rfl ?_ ?_ | refine Ix.mapF (fun _ => rfl) ?_ | refine Ix.map (fun _ => rfl) ?_ ?_ | refine Cut.map (fun _ => rfl) ?_ ?_ | refine Fork.yes (by assumption) ?_ | refine Fork.no (by assumption) ?_ | refine Fork.decYes (by omega) ?_ | refine Fork.decNo (by omega) ?_ | refine Fork.dec (fun _ => ?_) (fun _ => ?_) | refine Fork.bne (fun _ => ?_) (fun _ => ?_) | refine Fork.beq (fun _ => ?_) (fun _ => ?_) | refine Fork.seq (fun _ => ?_) (fun _ => ?_) | refine Fork.sne (fun _ => ?_) (fun _ => ?_) | refine Fork.neg (fun _ => ?_) (fun _ => ?_) | refine Fork.mk (fun _ => ?_) (fun _ => ?_) | refine HAlt.mk ?_ ?_ | apply HJoin.mk3 | exact HEnd.mk rfl rfl rfl | refine HEnd.mk ?_ ?_ ?_ | refine Round.mk ?_ | refine NilQ.mk (fun b hb => ?_) | refine forceK_of ?_ | refine forceBx_of ?_ | refine unG_old ?_ | refine unG_gv ?_ | refine Lit.read rfl ?_ | refine FinVal.keep ?_ | refine FinAgg.keep ?_ | refine Final.mk rfl rfl | refine Final.mk ?_ rfl | refine Final.mk ?_ ?_ | refine FinalT.mk ?_ ?_ | refine FinalC.allA ?_)
    | refine AV.bool_congr ?_ | refine AV.int_congr ?_ | refine AV.str_congr ?_ | refine AV.list_congr ?_ | with_reducible rfl | refine fr1 ?_ | refine fr2 ?_ ?_
  · rename_i h
    rw [hw] at h
    rw [left, if_pos (by omega)]
  rename_i h
  rw [hw] at h
  repeat' first
    | contradiction | exact trivial
    | (conv => whnf
       first | refine Need.mk (fun h => h) ?_ | refine Need.mk rfl ?_ | refine Need.mk ⟨rfl, Nat.le_of_ble_eq_true rfl⟩ ?_ | refine Need.mk (Nat.le_of_ble_eq_true rfl) ?_ | refine Need.fin ?_ | refine Need.mk ?_ ?_ | refine Ix.strsF rfl ?_ | refine Ix.strs rfl ?_ ?_ | refine Cut.strs rfl ?_ ?_ | refine Ix.mapF (fun _ => rfl) ?_ | refine Ix.map (fun _ => rfl) ?_ ?_ | refine Cut.map (fun _ => rfl) ?_ ?_ | refine Fork.yes (by assumption) ?_ | refine Fork.no (by assumption) ?_ | refine Fork.decYes (by omega) ?_ | refine Fork.decNo (by omega) ?_ | refine Fork.dec (fun _ => ?_) (fun _ => ?_) | refine Fork.bne (fun _ => ?_) (fun _ => ?_) | refine Fork.beq (fun _ => ?_) (fun _ => ?_) | refine Fork.seq (fun _ => ?_) (fun _ => ?_) | refine Fork.sne (fun _ => ?_) (fun _ => ?_) | refine Fork.neg (fun _ => ?_) (fun _ => ?_) | refine Fork.mk (fun _ => ?_) (fun _ => ?_) | refine HAlt.mk ?_ ?_ | apply HJoin.mk3 | exact HEnd.mk rfl rfl rfl | refine HEnd.mk ?_ ?_ ?_ | refine Round.mk ?_ | refine NilQ.mk (fun b hb => ?_) | refine forceK_of ?_ | refine forceBx_of ?_ | refine unG_old ?_ | refine unG_gv ?_ | refine Lit.read rfl ?_ | refine FinVal.keep ?_ | refine FinAgg.keep ?_ | refine Final.mk rfl rfl | refine Final.mk ?_ rfl | refine Final.mk ?_ ?_ | refine FinalT.mk ?_ ?_ | refine FinalC.allA ?_)
    | refine AV.bool_congr ?_ | refine AV.int_congr ?_ | refine AV.str_congr ?_ | refine AV.list_congr ?_ | with_reducible rfl | refine fr1 ?_ | refine fr2 ?_ ?_
  refine ALoop.mk Nat (fun i => ⟨[(0, .list none (rows tCond l)), (1, .val (.int .i64 (a - l.length - listSize tCond (l.take i)))), (5, .val (.int .i64 i))], [], []⟩) (fun i => i ≤ l.length ∧ (0 : Int) ≤ a - l.length - listSize tCond (l.take i)) (fun i => l.length - i) ⟨0, ⟨Nat.zero_le _, by simp [listSize]; omega⟩, ?_⟩ (fun i hi => ?_)
  · repeat' first
      | exact trivial | refine Weak.mk ?_ ?_ ?_ ?_ (Or.inl (Nat.le_of_ble_eq_true rfl)) | refine Weak.mk ?_ ?_ ?_ ?_ (Or.inr ⟨(by repeat' first | exact trivial | exact Nat.le_of_ble_eq_true rfl | refine And.intro ?_ ?_), (by repeat' first | exact trivial | exact Nat.le_of_ble_eq_true rfl | refine And.intro ?_ ?_)⟩) | refine Weak.mk ?_ ?_ ?_ ?_ ?_ | refine And.intro ?_ ?_ | with_reducible rfl | exact Nat.le_of_ble_eq_true rfl | refine fr1 ?_ | refine fr2 ?_ ?_ | refine AV.int_congr ?_ | refine AV.bool_congr ?_ | refine AV.str_congr ?_ | refine AV.list_congr ?_ | refine AV.bsl_congr ?_ ?_ | (apply rfl)
    rw [hw]; simp [listSize]
  obtain ⟨hp1, hp2⟩ := hi
  have hle := listSize_take_le tCond l (i + 1)
  have hbi : i < l.length → tCond.bd (l.getD i default) := fun h => hb _ (List.mem_of_getElem? (tCond_get h))
  have hsz : i < l.length → listSize tCond (l.take (i + 1)) = listSize tCond (l.take i) + tCond.size (l.getD i default) := fun h => listSize_take_succ tCond (tCond_get h)
  repeat' first
    | contradiction | exact trivial
    | (conv => whnf
       first | refine Need.mk (fun h => h) ?_ | refine Need.mk rfl ?_ | refine Need.mk ⟨rfl, Nat.le_of_ble_eq_true rfl⟩ ?_ | refine Need.mk (Nat.le_of_ble_eq_true rfl) ?_ | refine Need.fin ?_ | refine Need.mk ?_ ?_ | refine Ix.strsF rfl ?_ | refine Ix.strs rfl ?_ ?_ | refine Cut.strs rfl ?_ ?_ | refine Ix.mapF (fun _ => rfl) ?_ | refine Ix.map (fun _ => rfl) ?_ ?_ | refine Cut.map (fun _ => rfl) ?_ ?_ | refine Fork.yes (by assumption) ?_ | refine Fork.no (by assumption) ?_ | refine Fork.decYes (by omega) ?_ | refine Fork.decNo (by omega) ?_ | refine Fork.dec (fun _ => ?_) (fun _ => ?_) | refine Fork.bne (fun _ => ?_) (fun _ => ?_) | refine Fork.beq (fun _ => ?_) (fun _ => ?_) | refine Fork.seq (fun _ => ?_) (fun _ => ?_) | refine Fork.sne (fun _ => ?_) (fun _ => ?_) | refine Fork.neg (fun _ => ?_) (fun _ => ?_) | refine Fork.mk (fun _ => ?_) (fun _ => ?_) | refine HAlt.mk ?_ ?_ | apply HJoin.mk3 | exact HEnd.mk rfl rfl rfl | refine HEnd.mk ?_ ?_ ?_ | refine Round.mk ?_ | refine NilQ.mk (fun b hb => ?_) | refine forceK_of ?_ | refine forceBx_of ?_ | refine unG_old ?_ | refine unG_gv ?_ | refine Lit.read rfl ?_ | refine FinVal.keep ?_ | refine FinAgg.keep ?_ | refine Final.mk rfl rfl | refine Final.mk ?_ rfl | refine Final.mk ?_ ?_ | refine FinalT.mk ?_ ?_ | refine FinalC.allA ?_ | refine ACall.scalA _ _ (szCond.ret _ _ ?_ ?_ ?_) rfl ?_ | refine AQCall.mkA _ _ (fun hg => szCond.ret _ _ ?_ ?_ ?_) rfl ?_ | refine AGCall.mkA _ _ (fun hg => szCond.ret _ _ ?_ ?_ ?_) rfl ?_)
    | refine AV.bool_congr ?_ | refine AV.int_congr ?_ | refine AV.str_congr ?_ | refine AV.list_congr ?_ | with_reducible rfl | refine fr1 ?_ | refine fr2 ?_ ?_
  · exact hp2
  · omega
  · rename_i h1
    rw [length_rows] at h1
    rw [Int.toNat_natCast]; exact hbi (by omega)
  · rename_i h1 h2
    rw [length_rows] at h1
    rw [Int.toNat_natCast] at h2
    have := hsz (by omega)
    unfold left at h2 ⊢
    split at h2
    · rw [if_pos (by omega)]
    · omega
  · rename_i h1 h2
    rw [length_rows] at h1
    rw [Int.toNat_natCast] at h2
    have := hsz (by omega)
    have e : left (a - ↑l.length - ↑(listSize tCond (l.take i))) (tCond.size (l.getD i default)) = a - ↑l.length - ↑(listSize tCond (l.take (i + 1))) := by
      unfold left at h2 ⊢
      split at h2
      · omega
      · rw [if_neg ‹_›]; omega
    refine ⟨i + 1, ⟨by omega, ?_⟩, ?_, by omega⟩
    · rw [← e]; omega
    · repeat' first
        | exact trivial | refine Weak.mk ?_ ?_ ?_ ?_ (Or.inl (Nat.le_of_ble_eq_true rfl)) | refine Weak.mk ?_ ?_ ?_ ?_ (Or.inr ⟨(by repeat' first | exact trivial | exact Nat.le_of_ble_eq_true rfl | refine And.intro ?_ ?_), (by repeat' first | exact trivial | exact Nat.le_of_ble_eq_true rfl | refine And.intro ?_ ?_)⟩) | refine Weak.mk ?_ ?_ ?_ ?_ ?_ | refine And.intro ?_ ?_ | with_reducible rfl | exact Nat.le_of_ble_eq_true rfl | refine fr1 ?_ | refine fr2 ?_ ?_ | refine AV.int_congr ?_ | refine AV.bool_congr ?_ | refine AV.str_congr ?_ | refine AV.list_congr ?_ | refine AV.bsl_congr ?_ ?_ | (apply rfl)
      · rw [Int.toNat_natCast]; exact e
      · rw [wrap64 (by omega) (by omega)]; rfl
  · rename_i h1
    rw [length_rows] at h1
    rw [List.take_of_length_le (by omega)] at hp2 ⊢
    rw [left, if_neg (by omega)]; omega
theorem eqCondS.big (l m : List VCond) (h : tConds.size l ≤ 1099511627775) : eqCondS.Ret [.list none (rows tCond l), .list none (rows tCond m)] (.val (.bool (decide (l = m)))) [] := by
  refine eqCondS.of rfl ?_
  rw [tConds_sz] at h
  repeat' first
    | contradiction | exact trivial
    | (conv => whnf
       first | refine Need.mk (fun h => h) ?_ | refine Need.mk rfl ?_ | refine Need.mk ⟨rfl, Nat.le_of_ble_eq_true rfl⟩ ?_ | refine Need.mk (Nat.le_of_ble_eq_true rfl) ?_ | refine Need.fin ?_ | refine Need.mk ?_ ?_ | refine Ix.strsF rfl ?_ | refine Ix.strs rfl ?_ ?_ | refine Cut.strs rfl ?_ ?_ | refine Ix.mapF (fun _ => rfl) ?_ | refine Ix.map (fun _ => rfl) ?_ ?_ | refine Cut.map (fun _ => rfl) ?_ ?_ | refine Fork.yes (by assumption) ?_ | refine Fork.no (by assumption) ?_ | refine Fork.decYes (by omega) ?_ | refine Fork.decNo (by omega) ?_ | refine Fork.dec (fun _ => ?_) (fun _ => ?_) | refine Fork.bne (fun _ => ?_) (fun _ => ?_) | refine Fork.beq (fun _ => ?_) (fun _ => ?_) | refine Fork.seq (fun _ => ?_) (fun _ => ?_) | refine Fork.sne (fun _ => ?_) (fun _ => ?_) | refine Fork.neg (fun _ => ?_) (fun _ => ?_) | refine Fork.mk (fun _ => ?_) (fun _ => ?_) | refine HAlt.mk ?_ ?_ | apply HJoin.mk3 | exact HEnd.mk rfl rfl rfl | refine HEnd.mk ?_ ?_ ?_ | refine Round.mk ?_ | refine NilQ.mk (fun b hb => ?_) | refine forceK_of ?_ | refine forceBx_of ?_ | refine unG_old ?_ | refine unG_gv ?_ | refine Lit.read rfl ?_ | refine FinVal.keep ?_ | refine FinAgg.keep ?_ | refine Final.mk rfl rfl | refine Final.mk ?_ rfl | refine Final.mk ?_ ?_ | refine FinalT.mk ?_ ?_ | refine FinalC.allA ?_)
    | refine AV.bool_congr ?_ | refine AV.int_congr ?_ | refine AV.str_congr ?_ | refine AV.list_congr ?_ | with_reducible rfl | refine fr1 ?_ | refine fr2 ?_ ?_
  · rename_i h
    rw [length_rows, length_rows] at h
    have h3 : ¬ l = m := fun e => h (by rw [e])
    simp [h3]
  rename_i h
  rw [length_rows, length_rows] at h
  have h : l.length = m.length := by omega
  repeat' first
    | contradiction | exact trivial
    | (conv => whnf
       first | refine Need.mk (fun h => h) ?_ | refine Need.mk rfl ?_ | refine Need.mk ⟨rfl, Nat.le_of_ble_eq_true rfl⟩ ?_ | refine Need.mk (Nat.le_of_ble_eq_true rfl) ?_ | refine Need.fin ?_ | refine Need.mk ?_ ?_ | refine Ix.strsF rfl ?_ | refine Ix.strs rfl ?_ ?_ | refine Cut.strs rfl ?_ ?_ | refine Ix.mapF (fun _ => rfl) ?_ | refine Ix.map (fun _ => rfl) ?_ ?_ | refine Cut.map (fun _ => rfl) ?_ ?_ | refine Fork.yes (by assumption) ?_ | refine Fork.no (by assumption) ?_ | refine Fork.decYes (by omega) ?_ | refine Fork.decNo (by omega) ?_ | refine Fork.dec (fun _ => ?_) (fun _ => ?_) | refine Fork.bne (fun _ => ?_) (fun _ => ?_) | refine Fork.beq (fun _ => ?_) (fun _ => ?_) | refine Fork.seq (fun _ => ?_) (fun _ => ?_) | refine Fork.sne (fun _ => ?_) (fun _ => ?_) | refine Fork.neg (fun _ => ?_) (fun _ => ?_) | refine Fork.mk (fun _ => ?_) (fun _ => ?_) | refine HAlt.mk ?_ ?_ | apply HJoin.mk3 | exact HEnd.mk rfl rfl rfl | refine HEnd.mk ?_ ?_ ?_ | refine Round.mk ?_ | refine NilQ.mk (fun b hb => ?_) | refine forceK_of ?_ | refine forceBx_of ?_ | refine unG_old ?_ | refine unG_gv ?_ | refine Lit.read rfl ?_ | refine FinVal.keep ?_ | refine FinAgg.keep ?_ | refine Final.mk rfl rfl | refine Final.mk ?_ rfl | refine Final.mk ?_ ?_ | refine FinalT.mk ?_ ?_ | refine FinalC.allA ?_)
    | refine AV.bool_congr ?_ | refine AV.int_congr ?_ | refine AV.str_congr ?_ | refine AV.list_congr ?_ | with_reducible rfl | refine fr1 ?_ | refine fr2 ?_ ?_
  refine ALoop.mk Nat (fun i => ⟨[(0, .list none (rows tCond l)), (1, .list none (rows tCond m)), (5, .val (.int .i64 i))], [], []⟩) (fun i => i ≤ l.length ∧ l.take i = m.take i) (fun i => l.length - i) ⟨0, ⟨Nat.zero_le _, rfl⟩, ?_⟩ (fun i hi => ?_)
  · repeat' first
      | exact trivial | refine Weak.mk ?_ ?_ ?_ ?_ (Or.inl (Nat.le_of_ble_eq_true rfl)) | refine Weak.mk ?_ ?_ ?_ ?_ (Or.inr ⟨(by repeat' first | exact trivial | exact Nat.le_of_ble_eq_true rfl | refine And.intro ?_ ?_), (by repeat' first | exact trivial | exact Nat.le_of_ble_eq_true rfl | refine And.intro ?_ ?_)⟩) | refine Weak.mk ?_ ?_ ?_ ?_ ?_ | refine And.intro ?_ ?_ | with_reducible rfl | exact Nat.le_of_ble_eq_true rfl | refine fr1 ?_ | refine fr2 ?_ ?_ | refine AV.int_congr ?_ | refine AV.bool_congr ?_ | refine AV.str_congr ?_ | refine AV.list_congr ?_ | refine AV.bsl_congr ?_ ?_ | (apply rfl)
  repeat' first
    | contradiction | exact trivial
    | (conv => whnf
       first | refine Need.mk (fun h => h) ?_ | refine Need.mk rfl ?_ | refine Need.mk ⟨rfl, Nat.le_of_ble_eq_true rfl⟩ ?_ | refine Need.mk (Nat.le_of_ble_eq_true rfl) ?_ | refine Need.fin ?_ | refine Need.mk ?_ ?_ | refine Ix.strsF rfl ?_ | refine Ix.strs rfl ?_ ?_ | refine Cut.strs rfl ?_ ?_ | refine Ix.mapF (fun _ => rfl) ?_ | refine Ix.map (fun _ => rfl) ?_ ?_ | refine Cut.map (fun _ => rfl) ?_ ?_ | refine Fork.yes (by assumption) ?_ | refine Fork.no (by assumption) ?_ | refine Fork.decYes (by omega) ?_ | refine Fork.decNo (by omega) ?_ | refine Fork.dec (fun _ => ?_) (fun _ => ?_) | refine Fork.bne (fun _ => ?_) (fun _ => ?_) | refine Fork.beq (fun _ => ?_) (fun _ => ?_) | refine Fork.seq (fun _ => ?_) (fun _ => ?_) | refine Fork.sne (fun _ => ?_) (fun _ => ?_) | refine Fork.neg (fun _ => ?_) (fun _ => ?_) | refine Fork.mk (fun _ => ?_) (fun _ => ?_) | refine HAlt.mk ?_ ?_ | apply HJoin.mk3 | exact HEnd.mk rfl rfl rfl | refine HEnd.mk ?_ ?_ ?_ | refine Round.mk ?_ | refine NilQ.mk (fun b hb => ?_) | refine forceK_of ?_ | refine forceBx_of ?_ | refine unG_old ?_ | refine unG_gv ?_ | refine Lit.read rfl ?_ | refine FinVal.keep ?_ | refine FinAgg.keep ?_ | refine Final.mk rfl rfl | refine Final.mk ?_ rfl | refine Final.mk ?_ ?_ | refine FinalT.mk ?_ ?_ | refine FinalC.allA ?_ | refine ACall.scalA _ _ (eqCond.big _ _ ?_) rfl ?_ | refine AQCall.mkA _ _ (fun hg => eqCond.big _ _ ?_) rfl ?_ | refine AGCall.mkA _ _ (fun hg => eqCond.big _ _ ?_) rfl ?_)
    | refine AV.bool_congr ?_ | refine AV.int_congr ?_ | refine AV.str_congr ?_ | refine AV.list_congr ?_ | with_reducible rfl | refine fr1 ?_ | refine fr2 ?_ ?_
  · rename_i h1
    rw [length_rows] at h1
    have := listSize_mem tCond (List.mem_of_getElem? (tCond_get (l := l) (i := i) (by omega)))
    rw [Int.toNat_natCast]; omega
  · rename_i h1 h2
    have h3 : ¬ l = m := fun e => of_decide_eq_false h2 (by rw [e])
    simp [h3]
  · rename_i h1 h2
    rw [length_rows] at h1
    rw [Int.toNat_natCast] at h2
    refine ⟨i + 1, ⟨by omega, ?_⟩, ?_, by omega⟩
    · rw [take_succ' default (by omega), take_succ' (l := m) default (by omega), hi.2, of_decide_eq_true h2]
    · repeat' first
        | exact trivial | refine Weak.mk ?_ ?_ ?_ ?_ (Or.inl (Nat.le_of_ble_eq_true rfl)) | refine Weak.mk ?_ ?_ ?_ ?_ (Or.inr ⟨(by repeat' first | exact trivial | exact Nat.le_of_ble_eq_true rfl | refine And.intro ?_ ?_), (by repeat' first | exact trivial | exact Nat.le_of_ble_eq_true rfl | refine And.intro ?_ ?_)⟩) | refine Weak.mk ?_ ?_ ?_ ?_ ?_ | refine And.intro ?_ ?_ | with_reducible rfl | exact Nat.le_of_ble_eq_true rfl | refine fr1 ?_ | refine fr2 ?_ ?_ | refine AV.int_congr ?_ | refine AV.bool_congr ?_ | refine AV.str_congr ?_ | refine AV.list_congr ?_ | refine AV.bsl_congr ?_ ?_ | (apply rfl)
      rw [wrap64 (by omega) (by omega)]; rfl
  · rename_i h1
    rw [length_rows] at h1
    have h2 := hi.2
    rw [List.take_of_length_le (by omega), List.take_of_length_le (by omega)] at h2
    simp [h2]
theorem markCondS.tn (l : List VCond) (k : Nat) (hs : tConds.size l ≤ 1099511627775) (hk : k + cn (.l 94 5 (l.map tCond.q)) ≤ 1099511627775) :
    markCondS.Turn (gb (.l 94 5 (l.map tCond.q)) 0) [gv (.l 94 5 (l.map tCond.q)) 0, .val (.int .i64 k)] (.val (.int .i64 ((k + cn (.l 94 5 (l.map tCond.q)) : Nat)))) (gb (mk (.l 94 5 (l.map tCond.q)) k) 0) := by
  refine markCondS.ofT rfl rfl (by rw [length_gb, nb_mk]) ?_
  obtain ⟨cs, hcs⟩ : ∃ cs, cs = (l.map tCond.q).flatten := ⟨_, rfl⟩
  have hlen : cs.length = l.length * 5 := by rw [hcs]; exact flat_len _ 5 tCond.hq l
  have hc0 : ∀ i, i < l.length → cs[i * 5 + 0]? = some (.v (.int .i64 (l.getD i default).1)) := fun i hi => by rw [hcs]; exact cell_at tCond.q 5 tCond.hq hi rfl
  have hc1 : ∀ i, i < l.length → cs[i * 5 + 1]? = some (.s (l.getD i default).2.1.1) := fun i hi => by rw [hcs]; exact cell_at tCond.q 5 tCond.hq hi rfl
  have hc2 : ∀ i, i < l.length → cs[i * 5 + 2]? = some (.l 9 1 ((l.getD i default).2.1.2.map Ty.str.q)) := fun i hi => by rw [hcs]; exact cell_at tCond.q 5 tCond.hq hi rfl
  have hc3 : ∀ i, i < l.length → cs[i * 5 + 3]? = some (.s (l.getD i default).2.2.1) := fun i hi => by rw [hcs]; exact cell_at tCond.q 5 tCond.hq hi rfl
  have hc4 : ∀ i, i < l.length → cs[i * 5 + 4]? = some (.s (l.getD i default).2.2.2) := fun i hi => by rw [hcs]; exact cell_at tCond.q 5 tCond.hq hi rfl
  rw [gb_mk_l0, gb_l0, cn_l, gv, List.length_map, ← hcs]
  rw [cn_l, ← hcs] at hk
  clear hcs
  repeat' first
    | contradiction | exact trivial
    | (conv => whnf
       first | refine Need.mk (fun h => h) ?_ | refine Need.mk rfl ?_ | refine Need.mk ⟨rfl, Nat.le_of_ble_eq_true rfl⟩ ?_ | refine Need.mk (Nat.le_of_ble_eq_true rfl) ?_ | refine Need.fin ?_ | refine Need.mk ⟨rfl, by simp only [length_setAt, List.length_set, length_gvL, length_st, Int.toNat_natCast]; omega⟩ ?_ | refine Need.mk ?_ ?_ | refine Ix.strsF rfl ?_ | refine Ix.strs rfl ?_ ?_ | refine Cut.strs rfl ?_ ?_ | refine Ix.mapF (fun _ => rfl) ?_ | refine Ix.map (fun _ => rfl) ?_ ?_ | refine Cut.map (fun _ => rfl) ?_ ?_ | refine Fork.yes (by assumption) ?_ | refine Fork.no (by assumption) ?_ | refine Fork.decYes (by omega) ?_ | refine Fork.decNo (by omega) ?_ | refine Fork.dec (fun _ => ?_) (fun _ => ?_) | refine Fork.bne (fun _ => ?_) (fun _ => ?_) | refine Fork.beq (fun _ => ?_) (fun _ => ?_) | refine Fork.seq (fun _ => ?_) (fun _ => ?_) | refine Fork.sne (fun _ => ?_) (fun _ => ?_) | refine Fork.neg (fun _ => ?_) (fun _ => ?_) | refine Fork.mk (fun _ => ?_) (fun _ => ?_) | refine HAlt.mk ?_ ?_ | apply HJoin.mk3 | exact HEnd.mk rfl rfl rfl | refine HEnd.mk ?_ ?_ ?_ | refine Round.mk ?_ | refine NilQ.mk (fun b hb => ?_) | refine forceK_of ?_ | refine forceBx_of ?_ | refine unG_old ?_ | refine unG_gv ?_ | refine Lit.read rfl ?_ | refine FinVal.keep ?_ | refine FinAgg.keep ?_ | refine Final.mk rfl rfl | refine Final.mk ?_ rfl | refine Final.mk ?_ ?_ | refine FinalT.mk ?_ ?_ | refine FinalC.allA ?_)
    | refine AV.bool_congr ?_ | refine AV.int_congr ?_ | refine AV.str_congr ?_ | refine AV.list_congr ?_ | with_reducible rfl | refine fr1 ?_ | refine fr2 ?_ ?_
  refine ALoop.mk Nat (fun i => ⟨[(0, .bsl 0 l.length), (1, .val (.int .i64 ((k + cnC (cs.take (i * 5)) : Nat)))), (5, .val (.int .i64 i))], .cells (.row 94 5) (gvL (st cs k (i * 5)) 1) :: gbL (st cs k (i * 5)) 1, []⟩) (fun i => i ≤ l.length) (fun i => l.length - i) ⟨0, Nat.zero_le _, ?_⟩ (fun i hi => ?_)
  · refine weak_st ⟨rfl, ?_, rfl, trivial⟩ ?_ ?_ rfl ?_
    · rw [Nat.zero_mul]; rfl
    · rw [Nat.zero_mul, st_zero]
    · rw [Nat.zero_mul, st_zero]
    · rw [Nat.zero_mul, st_zero, List.length_cons]; exact Nat.le_refl _
  have hle := cn_take_le cs (i * 5)
  rw [tConds_sz] at hs
  rcases Nat.lt_or_ge i l.length with hlt | hge
  rotate_left
  · have hiw : i * 5 = cs.length := by omega
    repeat' first
      | contradiction | exact trivial
      | (conv => whnf
         first | refine Need.mk (fun h => h) ?_ | refine Need.mk rfl ?_ | refine Need.mk ⟨rfl, Nat.le_of_ble_eq_true rfl⟩ ?_ | refine Need.mk (Nat.le_of_ble_eq_true rfl) ?_ | refine Need.fin ?_ | refine Need.mk ⟨rfl, by simp only [length_setAt, List.length_set, length_gvL, length_st, Int.toNat_natCast]; omega⟩ ?_ | refine Need.mk ?_ ?_ | refine Ix.strsF rfl ?_ | refine Ix.strs rfl ?_ ?_ | refine Cut.strs rfl ?_ ?_ | refine Ix.mapF (fun _ => rfl) ?_ | refine Ix.map (fun _ => rfl) ?_ ?_ | refine Cut.map (fun _ => rfl) ?_ ?_ | refine Fork.yes (by assumption) ?_ | refine Fork.no (by assumption) ?_ | refine Fork.decYes (by omega) ?_ | refine Fork.decNo (by omega) ?_ | refine Fork.dec (fun _ => ?_) (fun _ => ?_) | refine Fork.bne (fun _ => ?_) (fun _ => ?_) | refine Fork.beq (fun _ => ?_) (fun _ => ?_) | refine Fork.seq (fun _ => ?_) (fun _ => ?_) | refine Fork.sne (fun _ => ?_) (fun _ => ?_) | refine Fork.neg (fun _ => ?_) (fun _ => ?_) | refine Fork.mk (fun _ => ?_) (fun _ => ?_) | refine HAlt.mk ?_ ?_ | apply HJoin.mk3 | exact HEnd.mk rfl rfl rfl | refine HEnd.mk ?_ ?_ ?_ | refine Round.mk ?_ | refine NilQ.mk (fun b hb => ?_) | refine forceK_of ?_ | refine forceBx_of ?_ | refine unG_old ?_ | refine unG_gv ?_ | refine Lit.read rfl ?_ | refine FinVal.keep ?_ | refine FinAgg.keep ?_ | refine Final.mk rfl rfl | refine Final.mk ?_ rfl | refine Final.mk ?_ ?_ | refine FinalT.mk ?_ ?_ | refine FinalC.allA ?_)
      | refine AV.bool_congr ?_ | refine AV.int_congr ?_ | refine AV.str_congr ?_ | refine AV.list_congr ?_ | with_reducible rfl | refine fr1 ?_ | refine fr2 ?_ ?_
    · rw [hiw, List.take_length]
    · rw [hiw, st_all cs k rfl]; exact take_all (by rw [List.length_cons, List.length_cons, length_gbL, length_gbL, nbL_mkC]; exact Nat.le_refl _)
  have hi1 : (i + 1) * 5 = i * 5 + 5 := by omega
  have hsz := tCond_le hlt
  have hz13 := tCond_size (l.getD i default)
  have hz14 := tPattern_size (l.getD i default).2.1
  have l0 := cn_take_le cs (i * 5 + 1)
  have n0 : cnC (cs.take (i * 5 + 1)) = cnC (cs.take (i * 5)) + 1 := cn_succ (hc0 i hlt)
  have w0 : IntKind.i64.wrap (((k + cnC (cs.take (i * 5)) : Nat) : Int) + 1) = ((k + cnC (cs.take (i * 5 + 1)) : Nat) : Int) := by rw [wrap64 (by omega) (by omega)]; omega
  have b0 : gbL (st cs k (i * 5 + 1)) 1 = gbL (st cs k (i * 5)) 1 := gbL_st k 1 (hc0 i hlt) rfl
  have g0 : gvL (st cs k (i * 5 + 1)) 1 = (gvL (st cs k (i * 5)) 1).set (i * 5) (.val (.int .i64 (((k + cnC (cs.take (i * 5)) : Nat) : Int)))) := gvL_st k 1 (hc0 i hlt)
  have l1 := cn_take_le cs (i * 5 + 2)
  have n1 : cnC (cs.take (i * 5 + 2)) = cnC (cs.take (i * 5 + 1)) + 1 := cn_succ (hc1 i hlt)
  have w1 : IntKind.i64.wrap (IntKind.i64.wrap (((k + cnC (cs.take (i * 5)) : Nat) : Int) + 1) + 1) = ((k + cnC (cs.take (i * 5 + 2)) : Nat) : Int) := by rw [w0, wrap64 (by omega) (by omega)]; omega
  have b1 : gbL (st cs k (i * 5 + 2)) 1 = gbL (st cs k (i * 5 + 1)) 1 := gbL_st k 1 (hc1 i hlt) rfl
  have g1 : gvL (st cs k (i * 5 + 2)) 1 = (gvL (st cs k (i * 5 + 1)) 1).set (i * 5 + 1) (.str (markF (k + cnC (cs.take (i * 5 + 1))))) := gvL_st k 1 (hc1 i hlt)
  repeat' first
    | contradiction | exact trivial
    | (conv => whnf
       first | refine Need.mk (fun h => h) ?_ | refine Need.mk rfl ?_ | refine Need.mk ⟨rfl, Nat.le_of_ble_eq_true rfl⟩ ?_ | refine Need.mk (Nat.le_of_ble_eq_true rfl) ?_ | refine Need.fin ?_ | refine Need.mk ⟨rfl, by simp only [length_setAt, List.length_set, length_gvL, length_st, Int.toNat_natCast]; omega⟩ ?_ | refine Need.mk ?_ ?_ | refine Ix.strsF rfl ?_ | refine Ix.strs rfl ?_ ?_ | refine Cut.strs rfl ?_ ?_ | refine Ix.mapF (fun _ => rfl) ?_ | refine Ix.map (fun _ => rfl) ?_ ?_ | refine Cut.map (fun _ => rfl) ?_ ?_ | refine Fork.yes (by assumption) ?_ | refine Fork.no (by assumption) ?_ | refine Fork.decYes (by omega) ?_ | refine Fork.decNo (by omega) ?_ | refine Fork.dec (fun _ => ?_) (fun _ => ?_) | refine Fork.bne (fun _ => ?_) (fun _ => ?_) | refine Fork.beq (fun _ => ?_) (fun _ => ?_) | refine Fork.seq (fun _ => ?_) (fun _ => ?_) | refine Fork.sne (fun _ => ?_) (fun _ => ?_) | refine Fork.neg (fun _ => ?_) (fun _ => ?_) | refine Fork.mk (fun _ => ?_) (fun _ => ?_) | refine HAlt.mk ?_ ?_ | apply HJoin.mk3 | exact HEnd.mk rfl rfl rfl | refine HEnd.mk ?_ ?_ ?_ | refine Round.mk ?_ | refine NilQ.mk (fun b hb => ?_) | refine forceK_of ?_ | refine forceBx_of ?_ | refine unG_old ?_ | refine unG_gv ?_ | refine Lit.read rfl ?_ | refine FinVal.keep ?_ | refine FinAgg.keep ?_ | refine Final.mk rfl rfl | refine Final.mk ?_ rfl | refine Final.mk ?_ ?_ | refine FinalT.mk ?_ ?_ | refine FinalC.allA ?_)
    | refine AV.bool_congr ?_ | refine AV.int_congr ?_ | refine AV.str_congr ?_ | refine AV.list_congr ?_ | with_reducible rfl | refine fr1 ?_ | refine fr2 ?_ ?_
  conv => whnf
  refine ACall.scal [.val (.int .i64 ((k + cnC (cs.take (i * 5 + 1)) : Nat)))] _ (markText.ret (k + cnC (cs.take (i * 5 + 1))) (by omega)) rfl (.cons (SeesB.of0 (by rw [w0]; exact Sees0.val _)) .nil) ?_
  repeat' first
    | contradiction | exact trivial
    | (conv => whnf
       first | refine Need.mk (fun h => h) ?_ | refine Need.mk rfl ?_ | refine Need.mk ⟨rfl, Nat.le_of_ble_eq_true rfl⟩ ?_ | refine Need.mk (Nat.le_of_ble_eq_true rfl) ?_ | refine Need.fin ?_ | refine Need.mk ⟨rfl, by simp only [length_setAt, List.length_set, length_gvL, length_st, Int.toNat_natCast]; omega⟩ ?_ | refine Need.mk ?_ ?_ | refine Ix.strsF rfl ?_ | refine Ix.strs rfl ?_ ?_ | refine Cut.strs rfl ?_ ?_ | refine Ix.mapF (fun _ => rfl) ?_ | refine Ix.map (fun _ => rfl) ?_ ?_ | refine Cut.map (fun _ => rfl) ?_ ?_ | refine Fork.yes (by assumption) ?_ | refine Fork.no (by assumption) ?_ | refine Fork.decYes (by omega) ?_ | refine Fork.decNo (by omega) ?_ | refine Fork.dec (fun _ => ?_) (fun _ => ?_) | refine Fork.bne (fun _ => ?_) (fun _ => ?_) | refine Fork.beq (fun _ => ?_) (fun _ => ?_) | refine Fork.seq (fun _ => ?_) (fun _ => ?_) | refine Fork.sne (fun _ => ?_) (fun _ => ?_) | refine Fork.neg (fun _ => ?_) (fun _ => ?_) | refine Fork.mk (fun _ => ?_) (fun _ => ?_) | refine HAlt.mk ?_ ?_ | apply HJoin.mk3 | exact HEnd.mk rfl rfl rfl | refine HEnd.mk ?_ ?_ ?_ | refine Round.mk ?_ | refine NilQ.mk (fun b hb => ?_) | refine forceK_of ?_ | refine forceBx_of ?_ | refine unG_old ?_ | refine unG_gv ?_ | refine Lit.read rfl ?_ | refine FinVal.keep ?_ | refine FinAgg.keep ?_ | refine Final.mk rfl rfl | refine Final.mk ?_ rfl | refine Final.mk ?_ ?_ | refine FinalT.mk ?_ ?_ | refine FinalC.allA ?_)
    | refine AV.bool_congr ?_ | refine AV.int_congr ?_ | refine AV.str_congr ?_ | refine AV.list_congr ?_ | with_reducible rfl | refine fr1 ?_ | refine fr2 ?_ ?_
  have l2 := cn_take_le cs (i * 5 + 3)
  have n2 : cnC (cs.take (i * 5 + 3)) = cnC (cs.take (i * 5 + 2)) + cn (.l 9 1 ((l.getD i default).2.1.2.map Ty.str.q)) := cn_succ (hc2 i hlt)
  have g2 : gvL (st cs k (i * 5 + 3)) 1 = gvL (st cs k (i * 5 + 2)) 1 := gvL_stL k 1 (hc2 i hlt)
  have t2 : markStringS.Turn (gb (.l 9 1 ((l.getD i default).2.1.2.map Ty.str.q)) 0) [gv (.l 9 1 ((l.getD i default).2.1.2.map Ty.str.q)) 0, .val (.int .i64 ((k + cnC (cs.take (i * 5 + 2)) : Nat)))] (.val (.int .i64 ((k + cnC (cs.take (i * 5 + 3)) : Nat)))) (gb (mk (.l 9 1 ((l.getD i default).2.1.2.map Ty.str.q)) (k + cnC (cs.take (i * 5 + 2)))) 0) := by
    have h := markStringS.tn (l.getD i default).2.1.2 (k + cnC (cs.take (i * 5 + 2))) (by omega) (by omega)
    rw [Nat.add_assoc, ← n2] at h; exact h
  have d2 : (((gvL (st cs k (i * 5)) 1).set (i * 5) (.val (.int .i64 (((k + cnC (cs.take (i * 5)) : Nat) : Int))))).set (i * 5 + 1) (.str (markF (k + cnC (cs.take (i * 5 + 1)))))).drop (i * 5 + 2) = gv (.l 9 1 ((l.getD i default).2.1.2.map Ty.str.q)) (1 + nbL (cs.take (i * 5 + 2))) :: gvL (cs.drop (i * 5 + 2 + 1)) (1 + nbL (cs.take (i * 5 + 2)) + nb (.l 9 1 ((l.getD i default).2.1.2.map Ty.str.q))) := by
    have h := ld_st k 1 (hc2 i hlt)
    try simp only [Nat.add_zero] at h
    rw [g1, g0] at h
    exact h
  conv => whnf
  refine takeAV_one (n := 1) _ _ d2 ?_
  conv => whnf
  refine ACall.turn' (.cells (.row 94 5) (((gvL (st cs k (i * 5)) 1).set (i * 5) (.val (.int .i64 (((k + cnC (cs.take (i * 5)) : Nat) : Int))))).set (i * 5 + 1) (.str (markF (k + cnC (cs.take (i * 5 + 1)))))) :: gbL (st cs k (i * 5 + 3)) 1) [gv (.l 9 1 ((l.getD i default).2.1.2.map Ty.str.q)) 0, .val (.int .i64 ((k + cnC (cs.take (i * 5 + 2)) : Nat)))] (.l 9 1 ((l.getD i default).2.1.2.map Ty.str.q)) (mk (.l 9 1 ((l.getD i default).2.1.2.map Ty.str.q)) (k + cnC (cs.take (i * 5 + 2)))) _ (.cells (.row 94 5) (((gvL (st cs k (i * 5)) 1).set (i * 5) (.val (.int .i64 (((k + cnC (cs.take (i * 5)) : Nat) : Int))))).set (i * 5 + 1) (.str (markF (k + cnC (cs.take (i * 5 + 1)))))) :: gbL (mkC (cs.take (i * 5 + 2)) k) 1) (gbL (cs.drop (i * 5 + 2 + 1)) (1 + nbL (cs.take (i * 5 + 2)) + nb (.l 9 1 ((l.getD i default).2.1.2.map Ty.str.q)))) t2 rfl ?_ (nb_mk _ _) (.cons (.inl ⟨by rw [pre_st]; rfl, rfl⟩) (.cons (.inr (by rw [w1]; exact Sees0.val _)) .nil)) ?_ ?_
  · rw [← b0]; rw [← b1]; exact bx_st k (hc2 i hlt) _
  · exact bx_st' k (hc2 i hlt) _
  repeat' first
    | contradiction | exact trivial
    | (conv => whnf
       first | refine Need.mk (fun h => h) ?_ | refine Need.mk rfl ?_ | refine Need.mk ⟨rfl, Nat.le_of_ble_eq_true rfl⟩ ?_ | refine Need.mk (Nat.le_of_ble_eq_true rfl) ?_ | refine Need.fin ?_ | refine Need.mk ⟨rfl, by simp only [length_setAt, List.length_set, length_gvL, length_st, Int.toNat_natCast]; omega⟩ ?_ | refine Need.mk ?_ ?_ | refine Ix.strsF rfl ?_ | refine Ix.strs rfl ?_ ?_ | refine Cut.strs rfl ?_ ?_ | refine Ix.mapF (fun _ => rfl) ?_ | refine Ix.map (fun _ => rfl) ?_ ?_ | refine Cut.map (fun _ => rfl) ?_ ?_ | refine Fork.yes (by assumption) ?_ | refine Fork.no (by assumption) ?_ | refine Fork.decYes (by omega) ?_ | refine Fork.decNo (by omega) ?_ | refine Fork.dec (fun _ => ?_) (fun _ => ?_) | refine Fork.bne (fun _ => ?_) (fun _ => ?_) | refine Fork.beq (fun _ => ?_) (fun _ => ?_) | refine Fork.seq (fun _ => ?_) (fun _ => ?_) | refine Fork.sne (fun _ => ?_) (fun _ => ?_) | refine Fork.neg (fun _ => ?_) (fun _ => ?_) | refine Fork.mk (fun _ => ?_) (fun _ => ?_) | refine HAlt.mk ?_ ?_ | apply HJoin.mk3 | exact HEnd.mk rfl rfl rfl | refine HEnd.mk ?_ ?_ ?_ | refine Round.mk ?_ | refine NilQ.mk (fun b hb => ?_) | refine forceK_of ?_ | refine forceBx_of ?_ | refine unG_old ?_ | refine unG_gv ?_ | refine Lit.read rfl ?_ | refine FinVal.keep ?_ | refine FinAgg.keep ?_ | refine Final.mk rfl rfl | refine Final.mk ?_ rfl | refine Final.mk ?_ ?_ | refine FinalT.mk ?_ ?_ | refine FinalC.allA ?_)
    | refine AV.bool_congr ?_ | refine AV.int_congr ?_ | refine AV.str_congr ?_ | refine AV.list_congr ?_ | with_reducible rfl | refine fr1 ?_ | refine fr2 ?_ ?_
  have l3 := cn_take_le cs (i * 5 + 4)
  have n3 : cnC (cs.take (i * 5 + 4)) = cnC (cs.take (i * 5 + 3)) + 1 := cn_succ (hc3 i hlt)
  have w3 : IntKind.i64.wrap (((k + cnC (cs.take (i * 5 + 3)) : Nat) : Int) + 1) = ((k + cnC (cs.take (i * 5 + 4)) : Nat) : Int) := by rw [wrap64 (by omega) (by omega)]; omega
  have b3 : gbL (st cs k (i * 5 + 4)) 1 = gbL (st cs k (i * 5 + 3)) 1 := gbL_st k 1 (hc3 i hlt) rfl
  have g3 : gvL (st cs k (i * 5 + 4)) 1 = (gvL (st cs k (i * 5 + 3)) 1).set (i * 5 + 3) (.str (markF (k + cnC (cs.take (i * 5 + 3))))) := gvL_st k 1 (hc3 i hlt)
  conv => whnf
  refine ACall.scal [.val (.int .i64 ((k + cnC (cs.take (i * 5 + 3)) : Nat)))] _ (markText.ret (k + cnC (cs.take (i * 5 + 3))) (by omega)) rfl (.cons (SeesB.of0 (by exact Sees0.val _)) .nil) ?_
  repeat' first
    | contradiction | exact trivial
    | (conv => whnf
       first | refine Need.mk (fun h => h) ?_ | refine Need.mk rfl ?_ | refine Need.mk ⟨rfl, Nat.le_of_ble_eq_true rfl⟩ ?_ | refine Need.mk (Nat.le_of_ble_eq_true rfl) ?_ | refine Need.fin ?_ | refine Need.mk ⟨rfl, by simp only [length_setAt, List.length_set, length_gvL, length_st, Int.toNat_natCast]; omega⟩ ?_ | refine Need.mk ?_ ?_ | refine Ix.strsF rfl ?_ | refine Ix.strs rfl ?_ ?_ | refine Cut.strs rfl ?_ ?_ | refine Ix.mapF (fun _ => rfl) ?_ | refine Ix.map (fun _ => rfl) ?_ ?_ | refine Cut.map (fun _ => rfl) ?_ ?_ | refine Fork.yes (by assumption) ?_ | refine Fork.no (by assumption) ?_ | refine Fork.decYes (by omega) ?_ | refine Fork.decNo (by omega) ?_ | refine Fork.dec (fun _ => ?_) (fun _ => ?_) | refine Fork.bne (fun _ => ?_) (fun _ => ?_) | refine Fork.beq (fun _ => ?_) (fun _ => ?_) | refine Fork.seq (fun _ => ?_) (fun _ => ?_) | refine Fork.sne (fun _ => ?_) (fun _ => ?_) | refine Fork.neg (fun _ => ?_) (fun _ => ?_) | refine Fork.mk (fun _ => ?_) (fun _ => ?_) | refine HAlt.mk ?_ ?_ | apply HJoin.mk3 | exact HEnd.mk rfl rfl rfl | refine HEnd.mk ?_ ?_ ?_ | refine Round.mk ?_ | refine NilQ.mk (fun b hb => ?_) | refine forceK_of ?_ | refine forceBx_of ?_ | refine unG_old ?_ | refine unG_gv ?_ | refine Lit.read rfl ?_ | refine FinVal.keep ?_ | refine FinAgg.keep ?_ | refine Final.mk rfl rfl | refine Final.mk ?_ rfl | refine Final.mk ?_ ?_ | refine FinalT.mk ?_ ?_ | refine FinalC.allA ?_)
    | refine AV.bool_congr ?_ | refine AV.int_congr ?_ | refine AV.str_congr ?_ | refine AV.list_congr ?_ | with_reducible rfl | refine fr1 ?_ | refine fr2 ?_ ?_
  have l4 := cn_take_le cs (i * 5 + 5)
  have n4 : cnC (cs.take (i * 5 + 5)) = cnC (cs.take (i * 5 + 4)) + 1 := cn_succ (hc4 i hlt)
  have w4 : IntKind.i64.wrap (IntKind.i64.wrap (((k + cnC (cs.take (i * 5 + 3)) : Nat) : Int) + 1) + 1) = ((k + cnC (cs.take (i * 5 + 5)) : Nat) : Int) := by rw [w3, wrap64 (by omega) (by omega)]; omega
  have b4 : gbL (st cs k (i * 5 + 5)) 1 = gbL (st cs k (i * 5 + 4)) 1 := gbL_st k 1 (hc4 i hlt) rfl
  have g4 : gvL (st cs k (i * 5 + 5)) 1 = (gvL (st cs k (i * 5 + 4)) 1).set (i * 5 + 4) (.str (markF (k + cnC (cs.take (i * 5 + 4))))) := gvL_st k 1 (hc4 i hlt)
  conv => whnf
  refine ACall.scal [.val (.int .i64 ((k + cnC (cs.take (i * 5 + 4)) : Nat)))] _ (markText.ret (k + cnC (cs.take (i * 5 + 4))) (by omega)) rfl (.cons (SeesB.of0 (by rw [w3]; exact Sees0.val _)) .nil) ?_
  repeat' first
    | contradiction | exact trivial
    | (conv => whnf
       first | refine Need.mk (fun h => h) ?_ | refine Need.mk rfl ?_ | refine Need.mk ⟨rfl, Nat.le_of_ble_eq_true rfl⟩ ?_ | refine Need.mk (Nat.le_of_ble_eq_true rfl) ?_ | refine Need.fin ?_ | refine Need.mk ⟨rfl, by simp only [length_setAt, List.length_set, length_gvL, length_st, Int.toNat_natCast]; omega⟩ ?_ | refine Need.mk ?_ ?_ | refine Ix.strsF rfl ?_ | refine Ix.strs rfl ?_ ?_ | refine Cut.strs rfl ?_ ?_ | refine Ix.mapF (fun _ => rfl) ?_ | refine Ix.map (fun _ => rfl) ?_ ?_ | refine Cut.map (fun _ => rfl) ?_ ?_ | refine Fork.yes (by assumption) ?_ | refine Fork.no (by assumption) ?_ | refine Fork.decYes (by omega) ?_ | refine Fork.decNo (by omega) ?_ | refine Fork.dec (fun _ => ?_) (fun _ => ?_) | refine Fork.bne (fun _ => ?_) (fun _ => ?_) | refine Fork.beq (fun _ => ?_) (fun _ => ?_) | refine Fork.seq (fun _ => ?_) (fun _ => ?_) | refine Fork.sne (fun _ => ?_) (fun _ => ?_) | refine Fork.neg (fun _ => ?_) (fun _ => ?_) | refine Fork.mk (fun _ => ?_) (fun _ => ?_) | refine HAlt.mk ?_ ?_ | apply HJoin.mk3 | exact HEnd.mk rfl rfl rfl | refine HEnd.mk ?_ ?_ ?_ | refine Round.mk ?_ | refine NilQ.mk (fun b hb => ?_) | refine forceK_of ?_ | refine forceBx_of ?_ | refine unG_old ?_ | refine unG_gv ?_ | refine Lit.read rfl ?_ | refine FinVal.keep ?_ | refine FinAgg.keep ?_ | refine Final.mk rfl rfl | refine Final.mk ?_ rfl | refine Final.mk ?_ ?_ | refine FinalT.mk ?_ ?_ | refine FinalC.allA ?_)
    | refine AV.bool_congr ?_ | refine AV.int_congr ?_ | refine AV.str_congr ?_ | refine AV.list_congr ?_ | with_reducible rfl | refine fr1 ?_ | refine fr2 ?_ ?_
  refine ⟨i + 1, by omega, weak_st ⟨rfl, AV.int_congr ?_, AV.int_congr ?_, trivial⟩ (congrArg (ABox.cells (.row 94 5)) ?_) ?_ rfl ?_, by omega⟩
  · rw [hi1]; exact w4
  · rw [wrap64 (by omega) (by omega)]; rfl
  · rw [hi1, g4, g3, g2, g1, g0]
    try rfl
  · rw [hi1, b4, b3]
  · simp only [hi1, List.length_cons, length_gbL, nbL_st, Nat.le_refl]
end Go.Proofs.Ytimcfgokocihnaa
namespace Go.Proofs.Ytimcfgokocihnaa
open Abs
abbrev VRule := Str × Int × List VCond × List VAction
instance : DecidableEq VRule := instDecidableEqProd
def tRule : Ty VRule := Ty.pair Ty.str (Ty.pair Ty.int (Ty.pair tConds tActions))
theorem tRule_size (a : VRule) : tRule.size a = a.1.length + (0 + (tConds.size a.2.2.1 + tActions.size a.2.2.2)) := rfl
theorem tRule_cn : CnB tRule 10 := CnB.pair CnB.str (CnB.pair CnB.int (CnB.pair (CnB.list tCond_cn _) (CnB.list tAction_cn _)))
theorem tRule_cnA (f : VRule) : cn (.a (tRule.q f)) ≤ cnC (tRule.q f) := by
  show 0 + (0 + (cn (.l 94 5 (f.2.2.1.map tCond.q)) + (cn (.l 31 3 (f.2.2.2.map tAction.q)) + (0)))) ≤ 1 + (1 + (cn (.l 94 5 (f.2.2.1.map tCond.q)) + (cn (.l 31 3 (f.2.2.2.map tAction.q)) + (0))))
  omega
theorem toRule.ret (a : VRule) (h : tRule.size a ≤ 1048576) : toRule.Ret [.agg (oldL (tRule.q a))] (.agg (tRule.tk a 0)) (tRule.fr a) := by
  refine toRule.of rfl ?_
  rw [tRule_size] at h
  repeat' first
    | contradiction | exact trivial
    | (conv => whnf
       first | refine Need.mk (fun h => h) ?_ | refine Need.mk rfl ?_ | refine Need.mk ⟨rfl, Nat.le_of_ble_eq_true rfl⟩ ?_ | refine Need.mk (Nat.le_of_ble_eq_true rfl) ?_ | refine Need.fin ?_ | refine Need.mk ?_ ?_ | refine Ix.strsF rfl ?_ | refine Ix.strs rfl ?_ ?_ | refine Cut.strs rfl ?_ ?_ | refine Ix.mapF (fun _ => rfl) ?_ | refine Ix.map (fun _ => rfl) ?_ ?_ | refine Cut.map (fun _ => rfl) ?_ ?_ | refine Fork.yes (by assumption) ?_ | refine Fork.no (by assumption) ?_ | refine Fork.decYes (by omega) ?_ | refine Fork.decNo (by omega) ?_ | refine Fork.dec (fun _ => ?_) (fun _ => ?_) | refine Fork.bne (fun _ => ?_) (fun _ => ?_) | refine Fork.beq (fun _ => ?_) (fun _ => ?_) | refine Fork.seq (fun _ => ?_) (fun _ => ?_) | refine Fork.sne (fun _ => ?_) (fun _ => ?_) | refine Fork.neg (fun _ => ?_) (fun _ => ?_) | refine Fork.mk (fun _ => ?_) (fun _ => ?_) | refine HAlt.mk ?_ ?_ | apply HJoin.mk3 | exact HEnd.mk rfl rfl rfl | refine HEnd.mk ?_ ?_ ?_ | refine Round.mk ?_ | refine NilQ.mk (fun b hb => ?_) | refine forceK_of ?_ | refine forceBx_of ?_ | refine unG_old ?_ | refine unG_gv ?_ | refine Lit.read rfl ?_ | refine FinVal.keep ?_ | refine FinAgg.keep ?_ | refine Final.mk rfl rfl | refine Final.mk ?_ rfl | refine Final.mk ?_ ?_ | refine FinalT.mk ?_ ?_ | refine FinalC.allA ?_ | refine ACall.mk_CondS _ _ (toCondS.ret _ ?_) (by repeat' first | exact SeesL.nil | refine SeesL.cons ?_ ?_ | exact SeesB.of0 (Sees0.val _) | exact SeesB.of0 (Sees0.str _) | exact SeesB.of0 (Sees0.olds _ _) | exact SeesB.of0 (Sees0.old _) | exact SeesB.of0 (Sees0.oldagg _) | exact SeesB.of0 Sees0.nil | exact Sees0.val _ | exact Sees0.str _ | exact Sees0.olds _ _ | exact Sees0.old _ | exact Sees0.oldagg _ | exact Sees0.nil | exact SeesB.of0 (Sees0.any _) | assumption | exact sees_gv _ _ _ (by assumption) (by first | assumption | exact BoxIn.last _ _ | exact BoxIn.more (BoxIn.last _ _) _) | refine SeesB.agg ?_ | refine Sees0.agg ?_ | exact SeesB.of0 (Sees0.clo SeesL.nil SeesL.nil) | exact Sees0.clo SeesL.nil SeesL.nil | exact SeesB.of0 (Sees0.list rfl) | exact Sees0.list rfl) ?_ | refine ACall.mk_ActionS _ _ (toActionS.ret _ ?_) (by repeat' first | exact SeesL.nil | refine SeesL.cons ?_ ?_ | exact SeesB.of0 (Sees0.val _) | exact SeesB.of0 (Sees0.str _) | exact SeesB.of0 (Sees0.olds _ _) | exact SeesB.of0 (Sees0.old _) | exact SeesB.of0 (Sees0.oldagg _) | exact SeesB.of0 Sees0.nil | exact Sees0.val _ | exact Sees0.str _ | exact Sees0.olds _ _ | exact Sees0.old _ | exact Sees0.oldagg _ | exact Sees0.nil | exact SeesB.of0 (Sees0.any _) | assumption | exact sees_gv _ _ _ (by assumption) (by first | assumption | exact BoxIn.last _ _ | exact BoxIn.more (BoxIn.last _ _) _) | refine SeesB.agg ?_ | refine Sees0.agg ?_ | exact SeesB.of0 (Sees0.clo SeesL.nil SeesL.nil) | exact Sees0.clo SeesL.nil SeesL.nil | exact SeesB.of0 (Sees0.list rfl) | exact Sees0.list rfl) ?_)
    | refine AV.bool_congr ?_ | refine AV.int_congr ?_ | refine AV.str_congr ?_ | refine AV.list_congr ?_ | with_reducible rfl | refine fr1 ?_ | refine fr2 ?_ ?_
  all_goals first
    | omega
    | (refine congrArg AV.agg ?_
       repeat' first
         | refine cons_congr ?_ ?_
         | refine tok_congr ?_ ?_
         | refine congrArg (tks _ _) ?_
         | rfl
       all_goals (simp [Ty.pair, Ty.str, Ty.int, Ty.bool, Nat.add_assoc]; done))
    | (simp [tRule, Ty.pair, Ty.str, Ty.int, Ty.bool, List.append_assoc, Nat.add_assoc]; done)
theorem toRule.own (a : VRule) (h : tRule.size a ≤ 1048576) : toRule.Own [.agg (oldL (tRule.q a))] (.a (tRule.q a)) := Ty.ownA tRule (toRule.ret a h)
theorem szRule.ret (f : VRule) (a : Int) (h0 : 0 ≤ a) (ha : a ≤ 1048576) (hb : tRule.bd f) :
    szRule.Ret [.agg (oldL (tRule.q f)), .val (.int .i64 a)] (.val (.int .i64 (left a (tRule.size f)))) [] := by
  refine szRule.of rfl ?_
  have hz := tRule_size f
  obtain ⟨hb0, hb1, hb2, hb3⟩ := hb
  have hb0 : f.1.length ≤ 9223372036854775807 := hb0
  by_cases c1 : a < (f.1.length : Int)
  · have e0 : IntKind.i64.wrap (a - (f.1.length : Int)) = a - (f.1.length : Int) := by rw [wrap64 (by omega) (by omega)]
    repeat' first
      | contradiction | exact trivial
      | (conv => whnf
         first | refine Need.mk (fun h => h) ?_ | refine Need.mk rfl ?_ | refine Need.mk ⟨rfl, Nat.le_of_ble_eq_true rfl⟩ ?_ | refine Need.mk (Nat.le_of_ble_eq_true rfl) ?_ | refine Need.fin ?_ | refine Need.mk ?_ ?_ | refine Ix.strsF rfl ?_ | refine Ix.strs rfl ?_ ?_ | refine Cut.strs rfl ?_ ?_ | refine Ix.mapF (fun _ => rfl) ?_ | refine Ix.map (fun _ => rfl) ?_ ?_ | refine Cut.map (fun _ => rfl) ?_ ?_ | refine Fork.yes (by assumption) ?_ | refine Fork.no (by assumption) ?_ | refine Fork.decYes (by omega) ?_ | refine Fork.decNo (by omega) ?_ | refine Fork.dec (fun _ => ?_) (fun _ => ?_) | refine Fork.bne (fun _ => ?_) (fun _ => ?_) | refine Fork.beq (fun _ => ?_) (fun _ => ?_) | refine Fork.seq (fun _ => ?_) (fun _ => ?_) | refine Fork.sne (fun _ => ?_) (fun _ => ?_) | refine Fork.neg (fun _ => ?_) (fun _ => ?_) | refine Fork.mk (fun _ => ?_) (fun _ => ?_) | refine HAlt.mk ?_ ?_ | apply HJoin.mk3 | exact HEnd.mk rfl rfl rfl | refine HEnd.mk ?_ ?_ ?_ | refine Round.mk ?_ | refine NilQ.mk (fun b hb => ?_) | refine forceK_of ?_ | refine forceBx_of ?_ | refine unG_old ?_ | refine unG_gv ?_ | refine Lit.read rfl ?_ | refine FinVal.keep ?_ | refine FinAgg.keep ?_ | refine Final.mk rfl rfl | refine Final.mk ?_ rfl | refine Final.mk ?_ ?_ | refine FinalT.mk ?_ ?_ | refine FinalC.allA ?_ | refine ACall.scalA _ _ (szCondS.ret _ _ ?_ ?_ ?_) rfl ?_ | refine AQCall.mkA _ _ (fun hg => szCondS.ret _ _ ?_ ?_ ?_) rfl ?_ | refine AGCall.mkA _ _ (fun hg => szCondS.ret _ _ ?_ ?_ ?_) rfl ?_ | refine ACall.scalA _ _ (szActionS.ret _ _ ?_ ?_ ?_) rfl ?_ | refine AQCall.mkA _ _ (fun hg => szActionS.ret _ _ ?_ ?_ ?_) rfl ?_ | refine AGCall.mkA _ _ (fun hg => szActionS.ret _ _ ?_ ?_ ?_) rfl ?_)
      | refine AV.bool_congr ?_ | refine AV.int_congr ?_ | refine AV.str_congr ?_ | refine AV.list_congr ?_ | with_reducible rfl | refine fr1 ?_ | refine fr2 ?_ ?_
    all_goals first
      | assumption
      | omega
      | exact left_eq (by omega)
  by_cases c2 : a < (f.1.length : Int) + (tConds.size f.2.2.1 : Int)
  · have e0 : IntKind.i64.wrap (a - (f.1.length : Int)) = a - (f.1.length : Int) := by rw [wrap64 (by omega) (by omega)]
    have e1 : left (IntKind.i64.wrap (a - (f.1.length : Int))) (tConds.size f.2.2.1) = -1 := by rw [e0, left, if_pos (by omega)]
    repeat' first
      | contradiction | exact trivial
      | (conv => whnf
         first | refine Need.mk (fun h => h) ?_ | refine Need.mk rfl ?_ | refine Need.mk ⟨rfl, Nat.le_of_ble_eq_true rfl⟩ ?_ | refine Need.mk (Nat.le_of_ble_eq_true rfl) ?_ | refine Need.fin ?_ | refine Need.mk ?_ ?_ | refine Ix.strsF rfl ?_ | refine Ix.strs rfl ?_ ?_ | refine Cut.strs rfl ?_ ?_ | refine Ix.mapF (fun _ => rfl) ?_ | refine Ix.map (fun _ => rfl) ?_ ?_ | refine Cut.map (fun _ => rfl) ?_ ?_ | refine Fork.yes (by assumption) ?_ | refine Fork.no (by assumption) ?_ | refine Fork.decYes (by omega) ?_ | refine Fork.decNo (by omega) ?_ | refine Fork.dec (fun _ => ?_) (fun _ => ?_) | refine Fork.bne (fun _ => ?_) (fun _ => ?_) | refine Fork.beq (fun _ => ?_) (fun _ => ?_) | refine Fork.seq (fun _ => ?_) (fun _ => ?_) | refine Fork.sne (fun _ => ?_) (fun _ => ?_) | refine Fork.neg (fun _ => ?_) (fun _ => ?_) | refine Fork.mk (fun _ => ?_) (fun _ => ?_) | refine HAlt.mk ?_ ?_ | apply HJoin.mk3 | exact HEnd.mk rfl rfl rfl | refine HEnd.mk ?_ ?_ ?_ | refine Round.mk ?_ | refine NilQ.mk (fun b hb => ?_) | refine forceK_of ?_ | refine forceBx_of ?_ | refine unG_old ?_ | refine unG_gv ?_ | refine Lit.read rfl ?_ | refine FinVal.keep ?_ | refine FinAgg.keep ?_ | refine Final.mk rfl rfl | refine Final.mk ?_ rfl | refine Final.mk ?_ ?_ | refine FinalT.mk ?_ ?_ | refine FinalC.allA ?_ | refine ACall.scalA _ _ (szCondS.ret _ _ ?_ ?_ ?_) rfl ?_ | refine AQCall.mkA _ _ (fun hg => szCondS.ret _ _ ?_ ?_ ?_) rfl ?_ | refine AGCall.mkA _ _ (fun hg => szCondS.ret _ _ ?_ ?_ ?_) rfl ?_ | refine ACall.scalA _ _ (szActionS.ret _ _ ?_ ?_ ?_) rfl ?_ | refine AQCall.mkA _ _ (fun hg => szActionS.ret _ _ ?_ ?_ ?_) rfl ?_ | refine AGCall.mkA _ _ (fun hg => szActionS.ret _ _ ?_ ?_ ?_) rfl ?_)
      | refine AV.bool_congr ?_ | refine AV.int_congr ?_ | refine AV.str_congr ?_ | refine AV.list_congr ?_ | with_reducible rfl | refine fr1 ?_ | refine fr2 ?_ ?_
    all_goals first
      | assumption
      | omega
      | exact left_eq (by omega)
  by_cases c3 : a < (f.1.length : Int) + (tConds.size f.2.2.1 : Int) + (tActions.size f.2.2.2 : Int)
  · have e0 : IntKind.i64.wrap (a - (f.1.length : Int)) = a - (f.1.length : Int) := by rw [wrap64 (by omega) (by omega)]
    have e1 : left (IntKind.i64.wrap (a - (f.1.length : Int))) (tConds.size f.2.2.1) = a - (f.1.length : Int) - (tConds.size f.2.2.1 : Int) := by rw [e0, left, if_neg (by omega)]
    have e2 : left (left (IntKind.i64.wrap (a - (f.1.length : Int))) (tConds.size f.2.2.1)) (tActions.size f.2.2.2) = -1 := by rw [e1, left, if_pos (by omega)]
    repeat' first
      | contradiction | exact trivial
      | (conv => whnf
         first | refine Need.mk (fun h => h) ?_ | refine Need.mk rfl ?_ | refine Need.mk ⟨rfl, Nat.le_of_ble_eq_true rfl⟩ ?_ | refine Need.mk (Nat.le_of_ble_eq_true rfl) ?_ | refine Need.fin ?_ | refine Need.mk ?_ ?_ | refine Ix.strsF rfl ?_ | refine Ix.strs rfl ?_ ?_ | refine Cut.strs rfl ?_ ?_ | refine Ix.mapF (fun _ => rfl) ?_ | refine Ix.map (fun _ => rfl) ?_ ?_ | refine Cut.map (fun _ => rfl) ?_ ?_ | refine Fork.yes (by assumption) ?_ | refine Fork.no (by assumption) ?_ | refine Fork.decYes (by omega) ?_ | refine Fork.decNo (by omega) ?_ | refine Fork.dec (fun _ => ?_) (fun _ => ?_) | refine Fork.bne (fun _ => ?_) (fun _ => ?_) | refine Fork.beq (fun _ => ?_) (fun _ => ?_) | refine Fork.seq (fun _ => ?_) (fun _ => ?_) | refine Fork.sne (fun _ => ?_) (fun _ => ?_) | refine Fork.neg (fun _ => ?_) (fun _ => ?_) | refine Fork.mk (fun _ => ?_) (fun _ => ?_) | refine HAlt.mk ?_ ?_ | apply HJoin.mk3 | exact HEnd.mk rfl rfl rfl | refine HEnd.mk ?_ ?_ ?_ | refine Round.mk ?_ | refine NilQ.mk (fun b hb => ?_) | refine forceK_of ?_ | refine forceBx_of ?_ | refine unG_old ?_ | refine unG_gv ?_ | refine Lit.read rfl ?_ | refine FinVal.keep ?_ | refine FinAgg.keep ?_ | refine Final.mk rfl rfl | refine Final.mk ?_ rfl | refine Final.mk ?_ ?_ | refine FinalT.mk ?_ ?_ | refine FinalC.allA ?_ | refine ACall.scalA _ _ (szCondS.ret _ _ ?_ ?_ ?_) rfl ?_ | refine AQCall.mkA _ _ (fun hg => szCondS.ret _ _ ?_ ?_ ?_) rfl ?_ | refine AGCall.mkA _ _ (fun hg => szCondS.ret _ _ ?_ ?_ ?_) rfl ?_ | refine ACall.scalA _ _ (szActionS.ret _ _ ?_ ?_ ?_) rfl ?_ | refine AQCall.mkA _ _ (fun hg => szActionS.ret _ _ ?_ ?_ ?_) rfl ?_ | refine AGCall.mkA _ _ (fun hg => szActionS.ret _ _ ?_ ?_ ?_) rfl ?_)
      | refine AV.bool_congr ?_ | refine AV.int_congr ?_ | refine AV.str_congr ?_ | refine AV.list_congr ?_ | with_reducible rfl | refine fr1 ?_ | refine fr2 ?_ ?_
    all_goals first
      | assumption
      | omega
      | exact left_eq (by omega)
  have e0 : IntKind.i64.wrap (a - (f.1.length : Int)) = a - (f.1.length : Int) := by rw [wrap64 (by omega) (by omega)]
  have e1 : left (IntKind.i64.wrap (a - (f.1.length : Int))) (tConds.size f.2.2.1) = a - (f.1.length : Int) - (tConds.size f.2.2.1 : Int) := by rw [e0, left, if_neg (by omega)]
  have e2 : left (left (IntKind.i64.wrap (a - (f.1.length : Int))) (tConds.size f.2.2.1)) (tActions.size f.2.2.2) = a - (f.1.length : Int) - (tConds.size f.2.2.1 : Int) - (tActions.size f.2.2.2 : Int) := by rw [e1, left, if_neg (by omega)]
  repeat' first
    | contradiction | exact trivial
    | (conv => whnf
       first | refine Need.mk (fun h => h) ?_ | refine Need.mk rfl ?_ | refine Need.mk ⟨rfl, Nat.le_of_ble_eq_true rfl⟩ ?_ | refine Need.mk (Nat.le_of_ble_eq_true rfl) ?_ | refine Need.fin ?_ | refine Need.mk ?_ ?_ | refine Ix.strsF rfl ?_ | refine Ix.strs rfl ?_ ?_ | refine Cut.strs rfl ?_ ?_ | refine Ix.mapF (fun _ => rfl) ?_ | refine Ix.map (fun _ => rfl) ?_ ?_ | refine Cut.map (fun _ => rfl) ?_ ?_ | refine Fork.yes (by assumption) ?_ | refine Fork.no (by assumption) ?_ | refine Fork.decYes (by omega) ?_ | refine Fork.decNo (by omega) ?_ | refine Fork.dec (fun _ => ?_) (fun _ => ?_) | refine Fork.bne (fun _ => ?_) (fun _ => ?_) | refine Fork.beq (fun _ => ?_) (fun _ => ?_) | refine Fork.seq (fun _ => ?_) (fun _ => ?_) | refine Fork.sne (fun _ => ?_) (fun _ => ?_) | refine Fork.neg (fun _ => ?_) (fun _ => ?_) | refine Fork.mk (fun _ => ?_) (fun _ => ?_) | refine HAlt.mk ?_ ?_ | apply HJoin.mk3 | exact HEnd.mk rfl rfl rfl | refine HEnd.mk ?_ ?_ ?_ | refine Round.mk ?_ | refine NilQ.mk (fun b hb => ?_) | refine forceK_of ?_ | refine forceBx_of ?_ | refine unG_old ?_ | refine unG_gv ?_ | refine Lit.read rfl ?_ | refine FinVal.keep ?_ | refine FinAgg.keep ?_ | refine Final.mk rfl rfl | refine Final.mk ?_ rfl | refine Final.mk ?_ ?_ | refine FinalT.mk ?_ ?_ | refine FinalC.allA ?_ | refine ACall.scalA _ _ (szCondS.ret _ _ ?_ ?_ ?_) rfl ?_ | refine AQCall.mkA _ _ (fun hg => szCondS.ret _ _ ?_ ?_ ?_) rfl ?_ | refine AGCall.mkA _ _ (fun hg => szCondS.ret _ _ ?_ ?_ ?_) rfl ?_ | refine ACall.scalA _ _ (szActionS.ret _ _ ?_ ?_ ?_) rfl ?_ | refine AQCall.mkA _ _ (fun hg => szActionS.ret _ _ ?_ ?_ ?_) rfl ?_ | refine AGCall.mkA _ _ (fun hg => szActionS.ret _ _ ?_ ?_ ?_) rfl ?_)
    | refine AV.bool_congr ?_ | refine AV.int_congr ?_ | refine AV.str_congr ?_ | refine AV.list_congr ?_ | with_reducible rfl | refine fr1 ?_ | refine fr2 ?_ ?_
  all_goals first
    | assumption
    | omega
    | exact left_eq (by omega)
theorem eqRule.big (f g : VRule) (h : tRule.size f ≤ 1099511627775) : eqRule.Ret [.agg (oldL (tRule.q f)), .agg (oldL (tRule.q g))] (.val (.bool (decide (f = g)))) [] := by
  refine eqRule.of rfl ?_
  have hz := tRule_size f
  repeat' first
    | contradiction | exact trivial
    | (conv => whnf
       first | refine Need.mk (fun h => h) ?_ | refine Need.mk rfl ?_ | refine Need.mk ⟨rfl, Nat.le_of_ble_eq_true rfl⟩ ?_ | refine Need.mk (Nat.le_of_ble_eq_true rfl) ?_ | refine Need.fin ?_ | refine Need.mk ?_ ?_ | refine Ix.strsF rfl ?_ | refine Ix.strs rfl ?_ ?_ | refine Cut.strs rfl ?_ ?_ | refine Ix.mapF (fun _ => rfl) ?_ | refine Ix.map (fun _ => rfl) ?_ ?_ | refine Cut.map (fun _ => rfl) ?_ ?_ | refine Fork.yes (by assumption) ?_ | refine Fork.no (by assumption) ?_ | refine Fork.decYes (by omega) ?_ | refine Fork.decNo (by omega) ?_ | refine Fork.dec (fun _ => ?_) (fun _ => ?_) | refine Fork.bne (fun _ => ?_) (fun _ => ?_) | refine Fork.beq (fun _ => ?_) (fun _ => ?_) | refine Fork.seq (fun _ => ?_) (fun _ => ?_) | refine Fork.sne (fun _ => ?_) (fun _ => ?_) | refine Fork.neg (fun _ => ?_) (fun _ => ?_) | refine Fork.mk (fun _ => ?_) (fun _ => ?_) | refine HAlt.mk ?_ ?_ | apply HJoin.mk3 | exact HEnd.mk rfl rfl rfl | refine HEnd.mk ?_ ?_ ?_ | refine Round.mk ?_ | refine NilQ.mk (fun b hb => ?_) | refine forceK_of ?_ | refine forceBx_of ?_ | refine unG_old ?_ | refine unG_gv ?_ | refine Lit.read rfl ?_ | refine FinVal.keep ?_ | refine FinAgg.keep ?_ | refine Final.mk rfl rfl | refine Final.mk ?_ rfl | refine Final.mk ?_ ?_ | refine FinalT.mk ?_ ?_ | refine FinalC.allA ?_ | refine ACall.scalA _ _ (eqCondS.big _ _ ?_) rfl ?_ | refine AQCall.mkA _ _ (fun hg => eqCondS.big _ _ ?_) rfl ?_ | refine AGCall.mkA _ _ (fun hg => eqCondS.big _ _ ?_) rfl ?_ | refine ACall.scalA _ _ (eqActionS.big _ _ ?_) rfl ?_ | refine AQCall.mkA _ _ (fun hg => eqActionS.big _ _ ?_) rfl ?_ | refine AGCall.mkA _ _ (fun hg => eqActionS.big _ _ ?_) rfl ?_)
    | refine AV.bool_congr ?_ | refine AV.int_congr ?_ | refine AV.str_congr ?_ | refine AV.list_congr ?_ | with_reducible rfl | refine fr1 ?_ | refine fr2 ?_ ?_
  all_goals first
    | omega
    | (simp only [tStrs_size, tInts_size] at *; omega)
    | (obtain ⟨x0, x1, x2, x3⟩ := f; obtain ⟨y0, y1, y2, y3⟩ := g; simp_all)
theorem markRule.tn (f : VRule) (k : Nat) (hs : tRule.size f ≤ 1099511627775) (hk : k + cn (.a (tRule.q f)) ≤ 1099511627775) :
    markRule.Turn (gb (.a (tRule.q f)) 0) [gv (.a (tRule.q f)) 0, .val (.int .i64 k)] (.val (.int .i64 ((k + cn (.a (tRule.q f)) : Nat)))) (gb (mk (.a (tRule.q f)) k) 0) := by
  refine markRule.ofT rfl rfl (by rw [length_gb, nb_mk]) ?_
  have hz21 := tRule_size f
  obtain ⟨cs, hcs⟩ : ∃ cs : List Tr, cs = [.s f.1, .v (.int .i64 f.2.1), .l 94 5 (f.2.2.1.map tCond.q), .l 31 3 (f.2.2.2.map tAction.q)] := ⟨_, rfl⟩
  have hun : tRule.q f = unA cs := by rw [hcs]; rfl
  have hc0 : cs[0]? = some (.s f.1) := by rw [hcs]; rfl
  have hc1 : cs[1]? = some (.v (.int .i64 f.2.1)) := by rw [hcs]; rfl
  have hc2 : cs[2]? = some (.l 94 5 (f.2.2.1.map tCond.q)) := by rw [hcs]; rfl
  have hc3 : cs[3]? = some (.l 31 3 (f.2.2.2.map tAction.q)) := by rw [hcs]; rfl
  have hka : k + cnA cs ≤ 1099511627775 := by rw [← cnA_unA, ← hun]; exact hk
  have hcl : cs.length = 4 := by rw [hcs]; rfl
  have e1 : gb (.a (tRule.q f)) 0 = gbL (sa cs k 0) 0 := by rw [gb, hun, gbL_unA]; rfl
  have e2 : gb (mk (.a (tRule.q f)) k) 0 = gbL (sa cs k 4) 0 := by rw [mk, gb, hun, mkA_unA, gbL_unA, sa_all cs k hcl.symm]
  have e3 : cn (.a (tRule.q f)) = cnA (cs.take 4) := by rw [cn, hun, cnA_unA, List.take_of_length_le (by omega)]
  rw [e1, e2, e3]
  obtain ⟨nz, hnz⟩ : ∃ nz, nz = (gbL (sa cs k 0) 0).length := ⟨_, rfl⟩
  have hlb : ∀ p, (gbL (sa cs k p) 0).length = nz := fun p => by rw [hnz, length_gbL, length_gbL, nbL_sa, nbL_sa]
  have hat : ∀ p : Nat, (gbL (sa cs k p) 0 ++ [.cells .var (gvL (tRule.q f) 0)])[(gbL (sa cs k 0) 0).length]? = some (.cells .var (gvL (tRule.q f) 0)) := fun p => by
    rw [← hnz, List.getElem?_append_right (by rw [hlb]; exact Nat.le_refl _), hlb, Nat.sub_self]; rfl
  have n0 : cnA (cs.take 1) = cnA (cs.take 0) := cnA_succ hc0
  have s0 : gbL (sa cs k 1) 0 = gbL (sa cs k 0) 0 := by rw [sa_succ k hc0, sa_at k hc0]; rfl
  have n1 : cnA (cs.take 2) = cnA (cs.take 1) := cnA_succ hc1
  have s1 : gbL (sa cs k 2) 0 = gbL (sa cs k 1) 0 := by rw [sa_succ k hc1, sa_at k hc1]; rfl
  have n2 : cnA (cs.take 3) = cnA (cs.take 2) + cn (.l 94 5 (f.2.2.1.map tCond.q)) := cnA_succ hc2
  have l2 := cnA_take_le cs 3
  have n3 : cnA (cs.take 4) = cnA (cs.take 3) + cn (.l 31 3 (f.2.2.2.map tAction.q)) := cnA_succ hc3
  have l3 := cnA_take_le cs 4
  clear e1 e2 e3
  repeat' first
    | contradiction | exact trivial
    | (conv => whnf
       first | refine Need.mk (fun h => h) ?_ | refine Need.mk rfl ?_ | refine Need.mk ⟨rfl, Nat.le_of_ble_eq_true rfl⟩ ?_ | refine Need.mk (Nat.le_of_ble_eq_true rfl) ?_ | refine Need.fin ?_ | refine Need.mk ⟨rfl, by simp only [length_setAt, List.length_set, length_gvL, length_st, Int.toNat_natCast]; omega⟩ ?_ | refine Need.mk ?_ ?_ | refine Ix.strsF rfl ?_ | refine Ix.strs rfl ?_ ?_ | refine Cut.strs rfl ?_ ?_ | refine Ix.mapF (fun _ => rfl) ?_ | refine Ix.map (fun _ => rfl) ?_ ?_ | refine Cut.map (fun _ => rfl) ?_ ?_ | refine Fork.yes (by assumption) ?_ | refine Fork.no (by assumption) ?_ | refine Fork.decYes (by omega) ?_ | refine Fork.decNo (by omega) ?_ | refine Fork.dec (fun _ => ?_) (fun _ => ?_) | refine Fork.bne (fun _ => ?_) (fun _ => ?_) | refine Fork.beq (fun _ => ?_) (fun _ => ?_) | refine Fork.seq (fun _ => ?_) (fun _ => ?_) | refine Fork.sne (fun _ => ?_) (fun _ => ?_) | refine Fork.neg (fun _ => ?_) (fun _ => ?_) | refine Fork.mk (fun _ => ?_) (fun _ => ?_) | refine HAlt.mk ?_ ?_ | apply HJoin.mk3 | exact HEnd.mk rfl rfl rfl | refine HEnd.mk ?_ ?_ ?_ | refine Round.mk ?_ | refine NilQ.mk (fun b hb => ?_) | refine forceK_of ?_ | refine forceBx_of ?_ | refine unG_old ?_ | refine unG_gv ?_ | refine Lit.read rfl ?_ | refine FinVal.keep ?_ | refine FinAgg.keep ?_ | refine Final.mk rfl rfl | refine Final.mk ?_ rfl | refine Final.mk ?_ ?_ | refine FinalT.mk ?_ ?_ | refine FinalC.allA ?_)
    | refine AV.bool_congr ?_ | refine AV.int_congr ?_ | refine AV.str_congr ?_ | refine AV.list_congr ?_ | with_reducible rfl | refine fr1 ?_ | refine fr2 ?_ ?_
  have t2 : markCondS.Turn (gb (.l 94 5 (f.2.2.1.map tCond.q)) 0) [gv (.l 94 5 (f.2.2.1.map tCond.q)) 0, .val (.int .i64 ((k + cnA (cs.take 2) : Nat)))] (.val (.int .i64 ((k + cnA (cs.take 3) : Nat)))) (gb (mk (.l 94 5 (f.2.2.1.map tCond.q)) (k + cnA (cs.take 2))) 0) := by
    have h := markCondS.tn f.2.2.1 (k + cnA (cs.take 2)) (by omega) (by have := n2; change _ = _ + cn (.l 94 5 (f.2.2.1.map tCond.q)) at this; omega)
    rw [Nat.add_assoc] at h
    change markCondS.Turn _ _ (.val (.int .i64 ((k + (cnA (cs.take 2) + cn (.l 94 5 (f.2.2.1.map tCond.q))) : Nat)))) _ at h
    rw [← n2] at h; exact h
  have hk2 : ((k + cnA (cs.take 2) : Nat) : Int) = (k : Int) := by rw [n1, n0, List.take_zero]; rfl
  conv => whnf
  refine ld_at _ _ (hat 0) rfl ?_
  conv => whnf
  refine ACall.turn' (gbL (sa cs k 3) 0 ++ [.cells .var (gvL (tRule.q f) 0)]) [gv (.l 94 5 (f.2.2.1.map tCond.q)) 0, .val (.int .i64 ((k + cnA (cs.take 2) : Nat)))] (.l 94 5 (f.2.2.1.map tCond.q)) (mk (.l 94 5 (f.2.2.1.map tCond.q)) (k + cnA (cs.take 2))) _ (gbL (mkA (cs.take 2) k) 0) (gbL (cs.drop 3) (nbL (cs.take 2) + nb (.l 94 5 (f.2.2.1.map tCond.q))) ++ [.cells .var (gvL (tRule.q f) 0)]) t2 rfl ?_ (nb_mk _ _) (.cons (.inl ⟨?_, rfl⟩) (.cons (.inr (by rw [hk2]; exact Sees0.val _)) .nil)) ?_ ?_
  · rw [← s0]; rw [← s1]; rw [bx_sa k hc2, List.append_assoc, List.append_assoc, List.append_assoc]
  · rw [length_gbL, nbL_mkA, hcs]
    refine AV.bsl_congr (j := 0 + 0 + 0) (j' := 0 + (0 + (0))) ?_ rfl
    simp only [Nat.add_zero, Nat.zero_add, Nat.add_assoc]
  · rw [bx_sa' k hc2, List.append_assoc, List.append_assoc, List.append_assoc]
  repeat' first
    | contradiction | exact trivial
    | (conv => whnf
       first | refine Need.mk (fun h => h) ?_ | refine Need.mk rfl ?_ | refine Need.mk ⟨rfl, Nat.le_of_ble_eq_true rfl⟩ ?_ | refine Need.mk (Nat.le_of_ble_eq_true rfl) ?_ | refine Need.fin ?_ | refine Need.mk ⟨rfl, by simp only [length_setAt, List.length_set, length_gvL, length_st, Int.toNat_natCast]; omega⟩ ?_ | refine Need.mk ?_ ?_ | refine Ix.strsF rfl ?_ | refine Ix.strs rfl ?_ ?_ | refine Cut.strs rfl ?_ ?_ | refine Ix.mapF (fun _ => rfl) ?_ | refine Ix.map (fun _ => rfl) ?_ ?_ | refine Cut.map (fun _ => rfl) ?_ ?_ | refine Fork.yes (by assumption) ?_ | refine Fork.no (by assumption) ?_ | refine Fork.decYes (by omega) ?_ | refine Fork.decNo (by omega) ?_ | refine Fork.dec (fun _ => ?_) (fun _ => ?_) | refine Fork.bne (fun _ => ?_) (fun _ => ?_) | refine Fork.beq (fun _ => ?_) (fun _ => ?_) | refine Fork.seq (fun _ => ?_) (fun _ => ?_) | refine Fork.sne (fun _ => ?_) (fun _ => ?_) | refine Fork.neg (fun _ => ?_) (fun _ => ?_) | refine Fork.mk (fun _ => ?_) (fun _ => ?_) | refine HAlt.mk ?_ ?_ | apply HJoin.mk3 | exact HEnd.mk rfl rfl rfl | refine HEnd.mk ?_ ?_ ?_ | refine Round.mk ?_ | refine NilQ.mk (fun b hb => ?_) | refine forceK_of ?_ | refine forceBx_of ?_ | refine unG_old ?_ | refine unG_gv ?_ | refine Lit.read rfl ?_ | refine FinVal.keep ?_ | refine FinAgg.keep ?_ | refine Final.mk rfl rfl | refine Final.mk ?_ rfl | refine Final.mk ?_ ?_ | refine FinalT.mk ?_ ?_ | refine FinalC.allA ?_)
    | refine AV.bool_congr ?_ | refine AV.int_congr ?_ | refine AV.str_congr ?_ | refine AV.list_congr ?_ | with_reducible rfl | refine fr1 ?_ | refine fr2 ?_ ?_
  have t3 : markActionS.Turn (gb (.l 31 3 (f.2.2.2.map tAction.q)) 0) [gv (.l 31 3 (f.2.2.2.map tAction.q)) 0, .val (.int .i64 ((k + cnA (cs.take 3) : Nat)))] (.val (.int .i64 ((k + cnA (cs.take 4) : Nat)))) (gb (mk (.l 31 3 (f.2.2.2.map tAction.q)) (k + cnA (cs.take 3))) 0) := by
    have h := markActionS.tn f.2.2.2 (k + cnA (cs.take 3)) (by omega) (by have := n3; change _ = _ + cn (.l 31 3 (f.2.2.2.map tAction.q)) at this; omega)
    rw [Nat.add_assoc] at h
    change markActionS.Turn _ _ (.val (.int .i64 ((k + (cnA (cs.take 3) + cn (.l 31 3 (f.2.2.2.map tAction.q))) : Nat)))) _ at h
    rw [← n3] at h; exact h
  conv => whnf
  refine ld_at _ _ (hat 3) rfl ?_
  conv => whnf
  refine ACall.turn' (gbL (sa cs k 4) 0 ++ [.cells .var (gvL (tRule.q f) 0)]) [gv (.l 31 3 (f.2.2.2.map tAction.q)) 0, .val (.int .i64 ((k + cnA (cs.take 3) : Nat)))] (.l 31 3 (f.2.2.2.map tAction.q)) (mk (.l 31 3 (f.2.2.2.map tAction.q)) (k + cnA (cs.take 3))) _ (gbL (mkA (cs.take 3) k) 0) (gbL (cs.drop 4) (nbL (cs.take 3) + nb (.l 31 3 (f.2.2.2.map tAction.q))) ++ [.cells .var (gvL (tRule.q f) 0)]) t3 rfl ?_ (nb_mk _ _) (.cons (.inl ⟨?_, rfl⟩) (.cons (.inr (by exact Sees0.val _)) .nil)) ?_ ?_
  · rw [bx_sa k hc3, List.append_assoc, List.append_assoc, List.append_assoc]
  · rw [length_gbL, nbL_mkA, hcs]
    refine AV.bsl_congr (j := 0 + 0 + 0 + nb (.l 94 5 (f.2.2.1.map tCond.q))) (j' := 0 + (0 + (nb (.l 94 5 (f.2.2.1.map tCond.q)) + (0)))) ?_ rfl
    simp only [Nat.add_zero, Nat.zero_add, Nat.add_assoc]
  · rw [bx_sa' k hc3, List.append_assoc, List.append_assoc, List.append_assoc]
  repeat' first
    | contradiction | exact trivial
    | (conv => whnf
       first | refine Need.mk (fun h => h) ?_ | refine Need.mk rfl ?_ | refine Need.mk ⟨rfl, Nat.le_of_ble_eq_true rfl⟩ ?_ | refine Need.mk (Nat.le_of_ble_eq_true rfl) ?_ | refine Need.fin ?_ | refine Need.mk ⟨rfl, by simp only [length_setAt, List.length_set, length_gvL, length_st, Int.toNat_natCast]; omega⟩ ?_ | refine Need.mk ?_ ?_ | refine Ix.strsF rfl ?_ | refine Ix.strs rfl ?_ ?_ | refine Cut.strs rfl ?_ ?_ | refine Ix.mapF (fun _ => rfl) ?_ | refine Ix.map (fun _ => rfl) ?_ ?_ | refine Cut.map (fun _ => rfl) ?_ ?_ | refine Fork.yes (by assumption) ?_ | refine Fork.no (by assumption) ?_ | refine Fork.decYes (by omega) ?_ | refine Fork.decNo (by omega) ?_ | refine Fork.dec (fun _ => ?_) (fun _ => ?_) | refine Fork.bne (fun _ => ?_) (fun _ => ?_) | refine Fork.beq (fun _ => ?_) (fun _ => ?_) | refine Fork.seq (fun _ => ?_) (fun _ => ?_) | refine Fork.sne (fun _ => ?_) (fun _ => ?_) | refine Fork.neg (fun _ => ?_) (fun _ => ?_) | refine Fork.mk (fun _ => ?_) (fun _ => ?_) | refine HAlt.mk ?_ ?_ | apply HJoin.mk3 | exact HEnd.mk rfl rfl rfl | refine HEnd.mk ?_ ?_ ?_ | refine Round.mk ?_ | refine NilQ.mk (fun b hb => ?_) | refine forceK_of ?_ | refine forceBx_of ?_ | refine unG_old ?_ | refine unG_gv ?_ | refine Lit.read rfl ?_ | refine FinVal.keep ?_ | refine FinAgg.keep ?_ | refine Final.mk rfl rfl | refine Final.mk ?_ rfl | refine Final.mk ?_ ?_ | refine FinalT.mk ?_ ?_ | refine FinalC.allA ?_)
    | refine AV.bool_congr ?_ | refine AV.int_congr ?_ | refine AV.str_congr ?_ | refine AV.list_congr ?_ | with_reducible rfl | refine fr1 ?_ | refine fr2 ?_ ?_
  all_goals first
    | (simp [hlb]; done)
    | rfl
    | (rw [Nat.add_zero]; done)
    | (rw [List.take_append_of_le_length (by rw [hlb, hlb]; exact Nat.le_refl _), List.take_of_length_le (by rw [hlb, hlb]; exact Nat.le_refl _)]; done)
end Go.Proofs.Ytimcfgokocihnaa
namespace Go.Proofs.Ytimcfgokocihnaa
open Abs
set_option maxRecDepth 20000 in
set_option maxHeartbeats 4000000 in
theorem lawExactReadsOf.of_own (a0 : VRule) (hb0 : tRule.bd a0)
    (h : tRule.size a0 ≤ 1048576 → ∃ (r0 : List Str), tStrs.size r0 ≤ 1073741824 ∧ (sReadsOf.Own [.agg (oldL (tRule.q a0))] (.l 9 1 (r0.map Ty.str.q)) ∧ pReadsOf.Own [.agg (oldL (tRule.q a0))] (.l 9 1 (r0.map Ty.str.q)))) :
    lawExactReadsOf.Ret [.agg (oldL (tRule.q a0))] (.val (.bool true)) [] := by
  refine lawExactReadsOf.ofS rfl rfl ?_
  by_cases c1 : (1048576 : Int) < (tRule.size a0 : Int)
  · have e0 : left 1048576 (tRule.size a0) = -1 := by rw [left, if_pos (by omega)]
    repeat' first
      | contradiction | exact trivial
      | (conv => whnf
         first | refine Need.mk (fun h => h) ?_ | refine Need.mk rfl ?_ | refine Need.mk ⟨rfl, Nat.le_of_ble_eq_true rfl⟩ ?_ | refine Need.mk (Nat.le_of_ble_eq_true rfl) ?_ | refine Need.fin ?_ | refine Need.mk ?_ ?_ | refine Ix.strsF rfl ?_ | refine Ix.strs rfl ?_ ?_ | refine Cut.strs rfl ?_ ?_ | refine Ix.mapF (fun _ => rfl) ?_ | refine Ix.map (fun _ => rfl) ?_ ?_ | refine Cut.map (fun _ => rfl) ?_ ?_ | refine Fork.yes (by assumption) ?_ | refine Fork.no (by assumption) ?_ | refine Fork.decYes (by omega) ?_ | refine Fork.decNo (by omega) ?_ | refine Fork.dec (fun _ => ?_) (fun _ => ?_) | refine Fork.bne (fun _ => ?_) (fun _ => ?_) | refine Fork.beq (fun _ => ?_) (fun _ => ?_) | refine Fork.seq (fun _ => ?_) (fun _ => ?_) | refine Fork.sne (fun _ => ?_) (fun _ => ?_) | refine Fork.neg (fun _ => ?_) (fun _ => ?_) | refine Fork.mk (fun _ => ?_) (fun _ => ?_) | refine HAlt.mk ?_ ?_ | apply HJoin.mk3 | exact HEnd.mk rfl rfl rfl | refine HEnd.mk ?_ ?_ ?_ | refine Round.mk ?_ | refine NilQ.mk (fun b hb => ?_) | refine forceK_of ?_ | refine forceBx_of ?_ | refine unG_old ?_ | refine unG_gv ?_ | refine Lit.read rfl ?_ | refine FinVal.keep ?_ | refine FinAgg.keep ?_ | refine Final.mk rfl rfl | refine Final.mk ?_ rfl | refine Final.mk ?_ ?_ | refine FinalT.mk ?_ ?_ | refine FinalC.allA ?_ | refine ACall.scalA _ _ (szRule.ret _ _ ?_ ?_ ?_) rfl ?_ | refine AQCall.mkA _ _ (fun hg => szRule.ret _ _ ?_ ?_ ?_) rfl ?_ | refine AGCall.mkA _ _ (fun hg => szRule.ret _ _ ?_ ?_ ?_) rfl ?_)
      | refine AV.bool_congr ?_ | refine AV.int_congr ?_ | refine AV.str_congr ?_ | refine AV.list_congr ?_ | with_reducible rfl | refine fr1 ?_ | refine fr2 ?_ ?_
    all_goals first
      | assumption
      | omega
  have e0 : left 1048576 (tRule.size a0) = 1048576 - (tRule.size a0 : Int) := by rw [left, if_neg (by omega)]
  obtain ⟨r0, hg0, hs, hp⟩ := h (by omega)
  have hcX0 : cn (.a (tRule.q a0)) ≤ 10 * (1 + tRule.size a0) := Nat.le_trans (tRule_cnA a0) (tRule_cn a0)
  have hcX0e : cn (.a [.s a0.1, .v (.int .i64 a0.2.1), .l 94 5 (a0.2.2.1.map tCond.q), .l 31 3 (a0.2.2.2.map tAction.q)]) ≤ 10 * (1 + tRule.size a0) := hcX0
  have hcG0 : cn (.l 9 1 (r0.map Ty.str.q)) ≤ 1 * (1 + tStrs.size r0) := Nat.le_trans (CnB.l CnB.str _ _ r0) (Nat.mul_le_mul_left _ (Nat.le_add_left _ _))
  obtain ⟨X0_2, eX0_2⟩ : ∃ x, x = Tr.l 94 5 (a0.2.2.1.map tCond.q) := ⟨_, rfl⟩
  obtain ⟨X0_3, eX0_3⟩ : ∃ x, x = Tr.l 31 3 (a0.2.2.2.map tAction.q) := ⟨_, rfl⟩
  obtain ⟨G0, eG0⟩ : ∃ x, x = Tr.l 9 1 (r0.map Ty.str.q) := ⟨_, rfl⟩
  have okX0 : okT (.a [.s a0.1, .v (.int .i64 a0.2.1), X0_2, X0_3]) = true := by
    rw [eX0_2, eX0_3]
    exact okT_a tRule a0
  have hto0 : toRule.Own [.agg (oldL (tRule.q a0))] (.a [.s a0.1, .v (.int .i64 a0.2.1), X0_2, X0_3]) := by
    rw [eX0_2, eX0_3]
    exact toRule.own a0 (by omega)
  have heX0 : eqRule.Ret [old (.a [.s a0.1, .v (.int .i64 a0.2.1), X0_2, X0_3]), old (.a [.s a0.1, .v (.int .i64 a0.2.1), X0_2, X0_3])] (.val (.bool true)) [] := by
    rw [eX0_2, eX0_3]
    have := eqRule.big a0 a0 (by omega)
    simp only [decide_true] at this
    exact this
  have hmX0 : markRule.Turn (gb (.a [.s a0.1, .v (.int .i64 a0.2.1), X0_2, X0_3]) 0) [gv (.a [.s a0.1, .v (.int .i64 a0.2.1), X0_2, X0_3]) 0, .val (.int .i64 ((1 : Nat)))] (.val (.int .i64 ((1 + cn (.a [.s a0.1, .v (.int .i64 a0.2.1), X0_2, X0_3]) : Nat)))) (gb (mk (.a [.s a0.1, .v (.int .i64 a0.2.1), X0_2, X0_3]) (1)) 0) := by
    rw [eX0_2, eX0_3]
    exact markRule.tn a0 _ (by omega) (by omega)
  have okG0 : okT (G0) = true := by
    rw [eG0]
    exact ok_list Ty.str _ r0
  have heG0 : eqStringS.Ret [old (G0), old (G0)] (.val (.bool true)) [] := by
    rw [eG0]
    have := eqStringS.big r0 r0 (by omega)
    simp only [decide_true] at this
    exact this
  have hmG0 : markStringS.Turn (gb (G0) 0) [gv (G0) 0, .val (.int .i64 ((1 : Nat)))] (.val (.int .i64 ((1 + cn (G0) : Nat)))) (gb (mk (G0) (1)) 0) := by
    rw [eG0]
    exact markStringS.tn r0 _ (by omega) (by omega)
  have hhG0 : heldStringS.Ret [old (mk (G0) (1)), .val (.int .i64 ((1 : Nat)))] (.val (.int .i64 ((1 + cn (G0) : Nat)))) [] := by
    rw [eG0]
    exact heldStringS.hd r0 _ (by omega) (by omega)
  have hs' : sReadsOf.Own [old (.a [.s a0.1, .v (.int .i64 a0.2.1), X0_2, X0_3])] (G0) := by
    rw [eX0_2, eX0_3, eG0]
    exact hs
  have hp' : pReadsOf.Own [old (.a [.s a0.1, .v (.int .i64 a0.2.1), X0_2, X0_3])] (G0) := by
    rw [eX0_2, eX0_3, eG0]
    exact hp
  clear hs hp eX0_2 eX0_3 eG0
  obtain ⟨B0, hB0⟩ : ∃ B0 : List ABox, B0 = [ABox.cells .var (oldL (tRule.q a0))] := ⟨_, rfl⟩
  have hB0l : B0.length = 1 := by rw [hB0]; rfl
  have hat0 : B0[0]? = some (ABox.cells .var (oldL (tRule.q a0))) := by rw [hB0]; rfl
  repeat' first
    | contradiction | exact trivial
    | (conv => whnf
       first | refine Need.mk (fun h => h) ?_ | refine Need.mk rfl ?_ | refine Need.mk ⟨rfl, Nat.le_of_ble_eq_true rfl⟩ ?_ | refine Need.mk (Nat.le_of_ble_eq_true rfl) ?_ | refine Need.fin ?_ | refine Need.mk ?_ ?_ | refine Ix.strsF rfl ?_ | refine Ix.strs rfl ?_ ?_ | refine Cut.strs rfl ?_ ?_ | refine Ix.mapF (fun _ => rfl) ?_ | refine Ix.map (fun _ => rfl) ?_ ?_ | refine Cut.map (fun _ => rfl) ?_ ?_ | refine Fork.yes (by assumption) ?_ | refine Fork.no (by assumption) ?_ | refine Fork.decYes (by omega) ?_ | refine Fork.decNo (by omega) ?_ | refine Fork.dec (fun _ => ?_) (fun _ => ?_) | refine Fork.bne (fun _ => ?_) (fun _ => ?_) | refine Fork.beq (fun _ => ?_) (fun _ => ?_) | refine Fork.seq (fun _ => ?_) (fun _ => ?_) | refine Fork.sne (fun _ => ?_) (fun _ => ?_) | refine Fork.neg (fun _ => ?_) (fun _ => ?_) | refine Fork.mk (fun _ => ?_) (fun _ => ?_) | refine HAlt.mk ?_ ?_ | apply HJoin.mk3 | exact HEnd.mk rfl rfl rfl | refine HEnd.mk ?_ ?_ ?_ | refine Round.mk ?_ | refine NilQ.mk (fun b hb => ?_) | refine forceK_of ?_ | refine forceBx_of ?_ | refine unG_old ?_ | refine unG_gv ?_ | refine Lit.read rfl ?_ | refine FinVal.keep ?_ | refine FinAgg.keep ?_ | refine Final.mk rfl rfl | refine Final.mk ?_ rfl | refine Final.mk ?_ ?_ | refine FinalT.mk ?_ ?_ | refine FinalC.allA ?_ | refine ACall.scalA _ _ (szRule.ret _ _ ?_ ?_ ?_) rfl ?_ | refine AQCall.mkA _ _ (fun hg => szRule.ret _ _ ?_ ?_ ?_) rfl ?_ | refine AGCall.mkA _ _ (fun hg => szRule.ret _ _ ?_ ?_ ?_) rfl ?_)
    | refine AV.bool_congr ?_ | refine AV.int_congr ?_ | refine AV.str_congr ?_ | refine AV.list_congr ?_ | with_reducible rfl | refine fr1 ?_ | refine fr2 ?_ ?_
  all_goals first
    | assumption
    | omega
    | skip
  conv => whnf
  refine ACall.old [.agg (oldL (tRule.q a0))] (.a [.s a0.1, .v (.int .i64 a0.2.1), X0_2, X0_3]) hto0 (.cons (SeesB.of0 (Sees0.cut (ys := tRule.q a0) (by rfl))) .nil) okX0 ?_
  repeat' first
    | contradiction | exact trivial
    | (conv => whnf
       first | refine Need.mk (fun h => h) ?_ | refine Need.mk rfl ?_ | refine Need.mk ⟨rfl, Nat.le_of_ble_eq_true rfl⟩ ?_ | refine Need.mk (Nat.le_of_ble_eq_true rfl) ?_ | refine Need.fin ?_ | refine Need.mk ?_ ?_ | refine Ix.strsF rfl ?_ | refine Ix.strs rfl ?_ ?_ | refine Cut.strs rfl ?_ ?_ | refine Ix.mapF (fun _ => rfl) ?_ | refine Ix.map (fun _ => rfl) ?_ ?_ | refine Cut.map (fun _ => rfl) ?_ ?_ | refine Fork.yes (by assumption) ?_ | refine Fork.no (by assumption) ?_ | refine Fork.decYes (by omega) ?_ | refine Fork.decNo (by omega) ?_ | refine Fork.dec (fun _ => ?_) (fun _ => ?_) | refine Fork.bne (fun _ => ?_) (fun _ => ?_) | refine Fork.beq (fun _ => ?_) (fun _ => ?_) | refine Fork.seq (fun _ => ?_) (fun _ => ?_) | refine Fork.sne (fun _ => ?_) (fun _ => ?_) | refine Fork.neg (fun _ => ?_) (fun _ => ?_) | refine Fork.mk (fun _ => ?_) (fun _ => ?_) | refine HAlt.mk ?_ ?_ | apply HJoin.mk3 | exact HEnd.mk rfl rfl rfl | refine HEnd.mk ?_ ?_ ?_ | refine Round.mk ?_ | refine NilQ.mk (fun b hb => ?_) | refine forceK_of ?_ | refine forceBx_of ?_ | refine unG_old ?_ | refine unG_gv ?_ | refine Lit.read rfl ?_ | refine FinVal.keep ?_ | refine FinAgg.keep ?_ | refine Final.mk rfl rfl | refine Final.mk ?_ rfl | refine Final.mk ?_ ?_ | refine FinalT.mk ?_ ?_ | refine FinalC.allA ?_)
    | refine AV.bool_congr ?_ | refine AV.int_congr ?_ | refine AV.str_congr ?_ | refine AV.list_congr ?_ | with_reducible rfl | refine fr1 ?_ | refine fr2 ?_ ?_
  have okR := okG0
  conv => whnf
  refine ACall.old [old (.a [.s a0.1, .v (.int .i64 a0.2.1), X0_2, X0_3])] (G0) hs' (.cons (SeesB.of0 (Sees0.old (.a [.s a0.1, .v (.int .i64 a0.2.1), X0_2, X0_3]))) .nil) okR ?_
  repeat' first
    | contradiction | exact trivial
    | (conv => whnf
       first | refine Need.mk (fun h => h) ?_ | refine Need.mk rfl ?_ | refine Need.mk ⟨rfl, Nat.le_of_ble_eq_true rfl⟩ ?_ | refine Need.mk (Nat.le_of_ble_eq_true rfl) ?_ | refine Need.fin ?_ | refine Need.mk ?_ ?_ | refine Ix.strsF rfl ?_ | refine Ix.strs rfl ?_ ?_ | refine Cut.strs rfl ?_ ?_ | refine Ix.mapF (fun _ => rfl) ?_ | refine Ix.map (fun _ => rfl) ?_ ?_ | refine Cut.map (fun _ => rfl) ?_ ?_ | refine Fork.yes (by assumption) ?_ | refine Fork.no (by assumption) ?_ | refine Fork.decYes (by omega) ?_ | refine Fork.decNo (by omega) ?_ | refine Fork.dec (fun _ => ?_) (fun _ => ?_) | refine Fork.bne (fun _ => ?_) (fun _ => ?_) | refine Fork.beq (fun _ => ?_) (fun _ => ?_) | refine Fork.seq (fun _ => ?_) (fun _ => ?_) | refine Fork.sne (fun _ => ?_) (fun _ => ?_) | refine Fork.neg (fun _ => ?_) (fun _ => ?_) | refine Fork.mk (fun _ => ?_) (fun _ => ?_) | refine HAlt.mk ?_ ?_ | apply HJoin.mk3 | exact HEnd.mk rfl rfl rfl | refine HEnd.mk ?_ ?_ ?_ | refine Round.mk ?_ | refine NilQ.mk (fun b hb => ?_) | refine forceK_of ?_ | refine forceBx_of ?_ | refine unG_old ?_ | refine unG_gv ?_ | refine Lit.read rfl ?_ | refine FinVal.keep ?_ | refine FinAgg.keep ?_ | refine Final.mk rfl rfl | refine Final.mk ?_ rfl | refine Final.mk ?_ ?_ | refine FinalT.mk ?_ ?_ | refine FinalC.allA ?_)
    | refine AV.bool_congr ?_ | refine AV.int_congr ?_ | refine AV.str_congr ?_ | refine AV.list_congr ?_ | with_reducible rfl | refine fr1 ?_ | refine fr2 ?_ ?_
  conv => whnf
  refine ACall.unbN' (1) (B0 ++ gb (.a [.s a0.1, .v (.int .i64 a0.2.1), X0_2, X0_3]) (1)) [.agg (oldL (tRule.q a0))] (.a [.s a0.1, .v (.int .i64 a0.2.1), X0_2, X0_3]) hto0 (.cons (SeesB.of0 (Sees0.cut (ys := tRule.q a0) (by rfl))) .nil) (by rfl) (by subst hB0; rfl) ?_
  refine aOps_new (1 + nb (.a [.s a0.1, .v (.int .i64 a0.2.1), X0_2, X0_3])) (gvL [.s a0.1, .v (.int .i64 a0.2.1), X0_2, X0_3] (1)) (by (try simp only [List.length_append, List.length_cons, List.length_nil, length_gb, nb_mk, Nat.zero_add, hB0l]) <;> omega) rfl (by decide) rfl rfl ?_
  repeat' first
    | contradiction | exact trivial
    | (conv => whnf
       first | refine Need.mk (fun h => h) ?_ | refine Need.mk rfl ?_ | refine Need.mk ⟨rfl, Nat.le_of_ble_eq_true rfl⟩ ?_ | refine Need.mk (Nat.le_of_ble_eq_true rfl) ?_ | refine Need.fin ?_ | refine Need.mk ?_ ?_ | refine Ix.strsF rfl ?_ | refine Ix.strs rfl ?_ ?_ | refine Cut.strs rfl ?_ ?_ | refine Ix.mapF (fun _ => rfl) ?_ | refine Ix.map (fun _ => rfl) ?_ ?_ | refine Cut.map (fun _ => rfl) ?_ ?_ | refine Fork.yes (by assumption) ?_ | refine Fork.no (by assumption) ?_ | refine Fork.decYes (by omega) ?_ | refine Fork.decNo (by omega) ?_ | refine Fork.dec (fun _ => ?_) (fun _ => ?_) | refine Fork.bne (fun _ => ?_) (fun _ => ?_) | refine Fork.beq (fun _ => ?_) (fun _ => ?_) | refine Fork.seq (fun _ => ?_) (fun _ => ?_) | refine Fork.sne (fun _ => ?_) (fun _ => ?_) | refine Fork.neg (fun _ => ?_) (fun _ => ?_) | refine Fork.mk (fun _ => ?_) (fun _ => ?_) | refine HAlt.mk ?_ ?_ | apply HJoin.mk3 | exact HEnd.mk rfl rfl rfl | refine HEnd.mk ?_ ?_ ?_ | refine Round.mk ?_ | refine NilQ.mk (fun b hb => ?_) | refine forceK_of ?_ | refine forceBx_of ?_ | refine unG_old ?_ | refine unG_gv ?_ | refine Lit.read rfl ?_ | refine FinVal.keep ?_ | refine FinAgg.keep ?_ | refine Final.mk rfl rfl | refine Final.mk ?_ rfl | refine Final.mk ?_ ?_ | refine FinalT.mk ?_ ?_ | refine FinalC.allA ?_)
    | refine AV.bool_congr ?_ | refine AV.int_congr ?_ | refine AV.str_congr ?_ | refine AV.list_congr ?_ | with_reducible rfl | refine fr1 ?_ | refine fr2 ?_ ?_
  conv => whnf
  refine ld_agg (by repeat' first | (refine at_here ?_; (try simp only [List.length_append, List.length_cons, List.length_nil, length_gb, nb_mk, Nat.zero_add, hB0l]) <;> omega) | exact hat0 | refine at_more ?_) (by first | exact Nat.le_of_ble_eq_true rfl | ((simp only [List.drop_zero, List.length_cons, List.length_nil, length_gvL]) <;> decide)) ?_
  repeat' first
    | contradiction | exact trivial
    | (conv => whnf
       first | refine Need.mk (fun h => h) ?_ | refine Need.mk rfl ?_ | refine Need.mk ⟨rfl, Nat.le_of_ble_eq_true rfl⟩ ?_ | refine Need.mk (Nat.le_of_ble_eq_true rfl) ?_ | refine Need.fin ?_ | refine Need.mk ?_ ?_ | refine Ix.strsF rfl ?_ | refine Ix.strs rfl ?_ ?_ | refine Cut.strs rfl ?_ ?_ | refine Ix.mapF (fun _ => rfl) ?_ | refine Ix.map (fun _ => rfl) ?_ ?_ | refine Cut.map (fun _ => rfl) ?_ ?_ | refine Fork.yes (by assumption) ?_ | refine Fork.no (by assumption) ?_ | refine Fork.decYes (by omega) ?_ | refine Fork.decNo (by omega) ?_ | refine Fork.dec (fun _ => ?_) (fun _ => ?_) | refine Fork.bne (fun _ => ?_) (fun _ => ?_) | refine Fork.beq (fun _ => ?_) (fun _ => ?_) | refine Fork.seq (fun _ => ?_) (fun _ => ?_) | refine Fork.sne (fun _ => ?_) (fun _ => ?_) | refine Fork.neg (fun _ => ?_) (fun _ => ?_) | refine Fork.mk (fun _ => ?_) (fun _ => ?_) | refine HAlt.mk ?_ ?_ | apply HJoin.mk3 | exact HEnd.mk rfl rfl rfl | refine HEnd.mk ?_ ?_ ?_ | refine Round.mk ?_ | refine NilQ.mk (fun b hb => ?_) | refine forceK_of ?_ | refine forceBx_of ?_ | refine unG_old ?_ | refine unG_gv ?_ | refine Lit.read rfl ?_ | refine FinVal.keep ?_ | refine FinAgg.keep ?_ | refine Final.mk rfl rfl | refine Final.mk ?_ rfl | refine Final.mk ?_ ?_ | refine FinalT.mk ?_ ?_ | refine FinalC.allA ?_)
    | refine AV.bool_congr ?_ | refine AV.int_congr ?_ | refine AV.str_congr ?_ | refine AV.list_congr ?_ | with_reducible rfl | refine fr1 ?_ | refine fr2 ?_ ?_
  conv => whnf
  refine ACall.unbN (1 + nb (.a [.s a0.1, .v (.int .i64 a0.2.1), X0_2, X0_3]) + 1) [old (.a [.s a0.1, .v (.int .i64 a0.2.1), X0_2, X0_3])] (G0) hp' (.cons (sees_gv (.a [.s a0.1, .v (.int .i64 a0.2.1), X0_2, X0_3]) _ (1) okX0 (by repeat' first | (refine BoxIn.here ?_; (try simp only [List.length_append, List.length_cons, List.length_nil, length_gb, nb_mk, Nat.zero_add, hB0l]) <;> omega) | refine BoxIn.more ?_ _)) .nil) (by (try simp only [List.length_append, List.length_cons, List.length_nil, length_gb, nb_mk, Nat.zero_add, hB0l]) <;> omega) ?_
  repeat' first
    | contradiction | exact trivial
    | (conv => whnf
       first | refine Need.mk (fun h => h) ?_ | refine Need.mk rfl ?_ | refine Need.mk ⟨rfl, Nat.le_of_ble_eq_true rfl⟩ ?_ | refine Need.mk (Nat.le_of_ble_eq_true rfl) ?_ | refine Need.fin ?_ | refine Need.mk ?_ ?_ | refine Ix.strsF rfl ?_ | refine Ix.strs rfl ?_ ?_ | refine Cut.strs rfl ?_ ?_ | refine Ix.mapF (fun _ => rfl) ?_ | refine Ix.map (fun _ => rfl) ?_ ?_ | refine Cut.map (fun _ => rfl) ?_ ?_ | refine Fork.yes (by assumption) ?_ | refine Fork.no (by assumption) ?_ | refine Fork.decYes (by omega) ?_ | refine Fork.decNo (by omega) ?_ | refine Fork.dec (fun _ => ?_) (fun _ => ?_) | refine Fork.bne (fun _ => ?_) (fun _ => ?_) | refine Fork.beq (fun _ => ?_) (fun _ => ?_) | refine Fork.seq (fun _ => ?_) (fun _ => ?_) | refine Fork.sne (fun _ => ?_) (fun _ => ?_) | refine Fork.neg (fun _ => ?_) (fun _ => ?_) | refine Fork.mk (fun _ => ?_) (fun _ => ?_) | refine HAlt.mk ?_ ?_ | apply HJoin.mk3 | exact HEnd.mk rfl rfl rfl | refine HEnd.mk ?_ ?_ ?_ | refine Round.mk ?_ | refine NilQ.mk (fun b hb => ?_) | refine forceK_of ?_ | refine forceBx_of ?_ | refine unG_old ?_ | refine unG_gv ?_ | refine Lit.read rfl ?_ | refine FinVal.keep ?_ | refine FinAgg.keep ?_ | refine Final.mk rfl rfl | refine Final.mk ?_ rfl | refine Final.mk ?_ ?_ | refine FinalT.mk ?_ ?_ | refine FinalC.allA ?_)
    | refine AV.bool_congr ?_ | refine AV.int_congr ?_ | refine AV.str_congr ?_ | refine AV.list_congr ?_ | with_reducible rfl | refine fr1 ?_ | refine fr2 ?_ ?_
  conv => whnf
  (try refine AGCall.scal ?_)
  first
    | refine ACall.scal [old (G0), old (G0)] _ heG0 rfl (.cons (sees_gv (G0) _ (1 + nb (.a [.s a0.1, .v (.int .i64 a0.2.1), X0_2, X0_3]) + 1) okG0 (by repeat' first | (refine BoxIn.here ?_; (try simp only [List.length_append, List.length_cons, List.length_nil, length_gb, nb_mk, Nat.zero_add, hB0l]) <;> omega) | refine BoxIn.more ?_ _)) (.cons (SeesB.of0 (Sees0.old (G0))) .nil)) ?_
    | refine AQCall.mk [old (G0), old (G0)] _ (fun _ => heG0) rfl (fun _ => .cons (sees_gv (G0) _ (1 + nb (.a [.s a0.1, .v (.int .i64 a0.2.1), X0_2, X0_3]) + 1) okG0 (by repeat' first | (refine BoxIn.here ?_; (try simp only [List.length_append, List.length_cons, List.length_nil, length_gb, nb_mk, Nat.zero_add, hB0l]) <;> omega) | refine BoxIn.more ?_ _)) (.cons (SeesB.of0 (Sees0.old (G0))) .nil)) ?_
  repeat' first
    | contradiction | exact trivial
    | (conv => whnf
       first | refine Need.mk (fun h => h) ?_ | refine Need.mk rfl ?_ | refine Need.mk ⟨rfl, Nat.le_of_ble_eq_true rfl⟩ ?_ | refine Need.mk (Nat.le_of_ble_eq_true rfl) ?_ | refine Need.fin ?_ | refine Need.mk ?_ ?_ | refine Ix.strsF rfl ?_ | refine Ix.strs rfl ?_ ?_ | refine Cut.strs rfl ?_ ?_ | refine Ix.mapF (fun _ => rfl) ?_ | refine Ix.map (fun _ => rfl) ?_ ?_ | refine Cut.map (fun _ => rfl) ?_ ?_ | refine Fork.yes (by assumption) ?_ | refine Fork.no (by assumption) ?_ | refine Fork.decYes (by omega) ?_ | refine Fork.decNo (by omega) ?_ | refine Fork.dec (fun _ => ?_) (fun _ => ?_) | refine Fork.bne (fun _ => ?_) (fun _ => ?_) | refine Fork.beq (fun _ => ?_) (fun _ => ?_) | refine Fork.seq (fun _ => ?_) (fun _ => ?_) | refine Fork.sne (fun _ => ?_) (fun _ => ?_) | refine Fork.neg (fun _ => ?_) (fun _ => ?_) | refine Fork.mk (fun _ => ?_) (fun _ => ?_) | refine HAlt.mk ?_ ?_ | apply HJoin.mk3 | exact HEnd.mk rfl rfl rfl | refine HEnd.mk ?_ ?_ ?_ | refine Round.mk ?_ | refine NilQ.mk (fun b hb => ?_) | refine forceK_of ?_ | refine forceBx_of ?_ | refine unG_old ?_ | refine unG_gv ?_ | refine Lit.read rfl ?_ | refine FinVal.keep ?_ | refine FinAgg.keep ?_ | refine Final.mk rfl rfl | refine Final.mk ?_ rfl | refine Final.mk ?_ ?_ | refine FinalT.mk ?_ ?_ | refine FinalC.allA ?_)
    | refine AV.bool_congr ?_ | refine AV.int_congr ?_ | refine AV.str_congr ?_ | refine AV.list_congr ?_ | with_reducible rfl | refine fr1 ?_ | refine fr2 ?_ ?_
  all_goals try (exfalso; rename_i hx; simp at hx; done)
  conv => whnf
  refine ld_agg (by repeat' first | (refine at_here ?_; (try simp only [List.length_append, List.length_cons, List.length_nil, length_gb, nb_mk, Nat.zero_add, hB0l]) <;> omega) | exact hat0 | refine at_more ?_) (by first | exact Nat.le_of_ble_eq_true rfl | ((simp only [List.drop_zero, List.length_cons, List.length_nil, length_gvL]) <;> decide)) ?_
  repeat' first
    | contradiction | exact trivial
    | (conv => whnf
       first | refine Need.mk (fun h => h) ?_ | refine Need.mk rfl ?_ | refine Need.mk ⟨rfl, Nat.le_of_ble_eq_true rfl⟩ ?_ | refine Need.mk (Nat.le_of_ble_eq_true rfl) ?_ | refine Need.fin ?_ | refine Need.mk ?_ ?_ | refine Ix.strsF rfl ?_ | refine Ix.strs rfl ?_ ?_ | refine Cut.strs rfl ?_ ?_ | refine Ix.mapF (fun _ => rfl) ?_ | refine Ix.map (fun _ => rfl) ?_ ?_ | refine Cut.map (fun _ => rfl) ?_ ?_ | refine Fork.yes (by assumption) ?_ | refine Fork.no (by assumption) ?_ | refine Fork.decYes (by omega) ?_ | refine Fork.decNo (by omega) ?_ | refine Fork.dec (fun _ => ?_) (fun _ => ?_) | refine Fork.bne (fun _ => ?_) (fun _ => ?_) | refine Fork.beq (fun _ => ?_) (fun _ => ?_) | refine Fork.seq (fun _ => ?_) (fun _ => ?_) | refine Fork.sne (fun _ => ?_) (fun _ => ?_) | refine Fork.neg (fun _ => ?_) (fun _ => ?_) | refine Fork.mk (fun _ => ?_) (fun _ => ?_) | refine HAlt.mk ?_ ?_ | apply HJoin.mk3 | exact HEnd.mk rfl rfl rfl | refine HEnd.mk ?_ ?_ ?_ | refine Round.mk ?_ | refine NilQ.mk (fun b hb => ?_) | refine forceK_of ?_ | refine forceBx_of ?_ | refine unG_old ?_ | refine unG_gv ?_ | refine Lit.read rfl ?_ | refine FinVal.keep ?_ | refine FinAgg.keep ?_ | refine Final.mk rfl rfl | refine Final.mk ?_ rfl | refine Final.mk ?_ ?_ | refine FinalT.mk ?_ ?_ | refine FinalC.allA ?_)
    | refine AV.bool_congr ?_ | refine AV.int_congr ?_ | refine AV.str_congr ?_ | refine AV.list_congr ?_ | with_reducible rfl | refine fr1 ?_ | refine fr2 ?_ ?_
  conv => whnf
  refine ld_agg (by repeat' first | (refine at_here ?_; (try simp only [List.length_append, List.length_cons, List.length_nil, length_gb, nb_mk, Nat.zero_add, hB0l]) <;> omega) | exact hat0 | refine at_more ?_) (by first | exact Nat.le_of_ble_eq_true rfl | ((simp only [List.drop_zero, List.length_cons, List.length_nil, length_gvL]) <;> decide)) ?_
  repeat' first
    | contradiction | exact trivial
    | (conv => whnf
       first | refine Need.mk (fun h => h) ?_ | refine Need.mk rfl ?_ | refine Need.mk ⟨rfl, Nat.le_of_ble_eq_true rfl⟩ ?_ | refine Need.mk (Nat.le_of_ble_eq_true rfl) ?_ | refine Need.fin ?_ | refine Need.mk ?_ ?_ | refine Ix.strsF rfl ?_ | refine Ix.strs rfl ?_ ?_ | refine Cut.strs rfl ?_ ?_ | refine Ix.mapF (fun _ => rfl) ?_ | refine Ix.map (fun _ => rfl) ?_ ?_ | refine Cut.map (fun _ => rfl) ?_ ?_ | refine Fork.yes (by assumption) ?_ | refine Fork.no (by assumption) ?_ | refine Fork.decYes (by omega) ?_ | refine Fork.decNo (by omega) ?_ | refine Fork.dec (fun _ => ?_) (fun _ => ?_) | refine Fork.bne (fun _ => ?_) (fun _ => ?_) | refine Fork.beq (fun _ => ?_) (fun _ => ?_) | refine Fork.seq (fun _ => ?_) (fun _ => ?_) | refine Fork.sne (fun _ => ?_) (fun _ => ?_) | refine Fork.neg (fun _ => ?_) (fun _ => ?_) | refine Fork.mk (fun _ => ?_) (fun _ => ?_) | refine HAlt.mk ?_ ?_ | apply HJoin.mk3 | exact HEnd.mk rfl rfl rfl | refine HEnd.mk ?_ ?_ ?_ | refine Round.mk ?_ | refine NilQ.mk (fun b hb => ?_) | refine forceK_of ?_ | refine forceBx_of ?_ | refine unG_old ?_ | refine unG_gv ?_ | refine Lit.read rfl ?_ | refine FinVal.keep ?_ | refine FinAgg.keep ?_ | refine Final.mk rfl rfl | refine Final.mk ?_ rfl | refine Final.mk ?_ ?_ | refine FinalT.mk ?_ ?_ | refine FinalC.allA ?_)
    | refine AV.bool_congr ?_ | refine AV.int_congr ?_ | refine AV.str_congr ?_ | refine AV.list_congr ?_ | with_reducible rfl | refine fr1 ?_ | refine fr2 ?_ ?_
  conv => whnf
  refine ACall.old [.agg (oldL (tRule.q a0))] (.a [.s a0.1, .v (.int .i64 a0.2.1), X0_2, X0_3]) hto0 (.cons (SeesB.of0 (Sees0.cut (ys := tRule.q a0) (by rfl))) .nil) okX0 ?_
  repeat' first
    | contradiction | exact trivial
    | (conv => whnf
       first | refine Need.mk (fun h => h) ?_ | refine Need.mk rfl ?_ | refine Need.mk ⟨rfl, Nat.le_of_ble_eq_true rfl⟩ ?_ | refine Need.mk (Nat.le_of_ble_eq_true rfl) ?_ | refine Need.fin ?_ | refine Need.mk ?_ ?_ | refine Ix.strsF rfl ?_ | refine Ix.strs rfl ?_ ?_ | refine Cut.strs rfl ?_ ?_ | refine Ix.mapF (fun _ => rfl) ?_ | refine Ix.map (fun _ => rfl) ?_ ?_ | refine Cut.map (fun _ => rfl) ?_ ?_ | refine Fork.yes (by assumption) ?_ | refine Fork.no (by assumption) ?_ | refine Fork.decYes (by omega) ?_ | refine Fork.decNo (by omega) ?_ | refine Fork.dec (fun _ => ?_) (fun _ => ?_) | refine Fork.bne (fun _ => ?_) (fun _ => ?_) | refine Fork.beq (fun _ => ?_) (fun _ => ?_) | refine Fork.seq (fun _ => ?_) (fun _ => ?_) | refine Fork.sne (fun _ => ?_) (fun _ => ?_) | refine Fork.neg (fun _ => ?_) (fun _ => ?_) | refine Fork.mk (fun _ => ?_) (fun _ => ?_) | refine HAlt.mk ?_ ?_ | apply HJoin.mk3 | exact HEnd.mk rfl rfl rfl | refine HEnd.mk ?_ ?_ ?_ | refine Round.mk ?_ | refine NilQ.mk (fun b hb => ?_) | refine forceK_of ?_ | refine forceBx_of ?_ | refine unG_old ?_ | refine unG_gv ?_ | refine Lit.read rfl ?_ | refine FinVal.keep ?_ | refine FinAgg.keep ?_ | refine Final.mk rfl rfl | refine Final.mk ?_ rfl | refine Final.mk ?_ ?_ | refine FinalT.mk ?_ ?_ | refine FinalC.allA ?_)
    | refine AV.bool_congr ?_ | refine AV.int_congr ?_ | refine AV.str_congr ?_ | refine AV.list_congr ?_ | with_reducible rfl | refine fr1 ?_ | refine fr2 ?_ ?_
  conv => whnf
  refine ACall.scal [old (.a [.s a0.1, .v (.int .i64 a0.2.1), X0_2, X0_3]), old (.a [.s a0.1, .v (.int .i64 a0.2.1), X0_2, X0_3])] _ heX0 rfl (.cons (sees_gv (.a [.s a0.1, .v (.int .i64 a0.2.1), X0_2, X0_3]) _ (1) okX0 (by repeat' first | (refine BoxIn.here ?_; (try simp only [List.length_append, List.length_cons, List.length_nil, length_gb, nb_mk, Nat.zero_add, hB0l]) <;> omega) | refine BoxIn.more ?_ _)) (.cons (SeesB.of0 (Sees0.old (.a [.s a0.1, .v (.int .i64 a0.2.1), X0_2, X0_3]))) .nil)) ?_
  repeat' first
    | contradiction | exact trivial
    | (conv => whnf
       first | refine Need.mk (fun h => h) ?_ | refine Need.mk rfl ?_ | refine Need.mk ⟨rfl, Nat.le_of_ble_eq_true rfl⟩ ?_ | refine Need.mk (Nat.le_of_ble_eq_true rfl) ?_ | refine Need.fin ?_ | refine Need.mk ?_ ?_ | refine Ix.strsF rfl ?_ | refine Ix.strs rfl ?_ ?_ | refine Cut.strs rfl ?_ ?_ | refine Ix.mapF (fun _ => rfl) ?_ | refine Ix.map (fun _ => rfl) ?_ ?_ | refine Cut.map (fun _ => rfl) ?_ ?_ | refine Fork.yes (by assumption) ?_ | refine Fork.no (by assumption) ?_ | refine Fork.decYes (by omega) ?_ | refine Fork.decNo (by omega) ?_ | refine Fork.dec (fun _ => ?_) (fun _ => ?_) | refine Fork.bne (fun _ => ?_) (fun _ => ?_) | refine Fork.beq (fun _ => ?_) (fun _ => ?_) | refine Fork.seq (fun _ => ?_) (fun _ => ?_) | refine Fork.sne (fun _ => ?_) (fun _ => ?_) | refine Fork.neg (fun _ => ?_) (fun _ => ?_) | refine Fork.mk (fun _ => ?_) (fun _ => ?_) | refine HAlt.mk ?_ ?_ | apply HJoin.mk3 | exact HEnd.mk rfl rfl rfl | refine HEnd.mk ?_ ?_ ?_ | refine Round.mk ?_ | refine NilQ.mk (fun b hb => ?_) | refine forceK_of ?_ | refine forceBx_of ?_ | refine unG_old ?_ | refine unG_gv ?_ | refine Lit.read rfl ?_ | refine FinVal.keep ?_ | refine FinAgg.keep ?_ | refine Final.mk rfl rfl | refine Final.mk ?_ rfl | refine Final.mk ?_ ?_ | refine FinalT.mk ?_ ?_ | refine FinalC.allA ?_)
    | refine AV.bool_congr ?_ | refine AV.int_congr ?_ | refine AV.str_congr ?_ | refine AV.list_congr ?_ | with_reducible rfl | refine fr1 ?_ | refine fr2 ?_ ?_
  conv => whnf
  refine ld_agg (by repeat' first | (refine at_here ?_; (try simp only [List.length_append, List.length_cons, List.length_nil, length_gb, nb_mk, Nat.zero_add, hB0l]) <;> omega) | exact hat0 | refine at_more ?_) (by first | exact Nat.le_of_ble_eq_true rfl | ((simp only [List.drop_zero, List.length_cons, List.length_nil, length_gvL]) <;> decide)) ?_
  repeat' first
    | contradiction | exact trivial
    | (conv => whnf
       first | refine Need.mk (fun h => h) ?_ | refine Need.mk rfl ?_ | refine Need.mk ⟨rfl, Nat.le_of_ble_eq_true rfl⟩ ?_ | refine Need.mk (Nat.le_of_ble_eq_true rfl) ?_ | refine Need.fin ?_ | refine Need.mk ?_ ?_ | refine Ix.strsF rfl ?_ | refine Ix.strs rfl ?_ ?_ | refine Cut.strs rfl ?_ ?_ | refine Ix.mapF (fun _ => rfl) ?_ | refine Ix.map (fun _ => rfl) ?_ ?_ | refine Cut.map (fun _ => rfl) ?_ ?_ | refine Fork.yes (by assumption) ?_ | refine Fork.no (by assumption) ?_ | refine Fork.decYes (by omega) ?_ | refine Fork.decNo (by omega) ?_ | refine Fork.dec (fun _ => ?_) (fun _ => ?_) | refine Fork.bne (fun _ => ?_) (fun _ => ?_) | refine Fork.beq (fun _ => ?_) (fun _ => ?_) | refine Fork.seq (fun _ => ?_) (fun _ => ?_) | refine Fork.sne (fun _ => ?_) (fun _ => ?_) | refine Fork.neg (fun _ => ?_) (fun _ => ?_) | refine Fork.mk (fun _ => ?_) (fun _ => ?_) | refine HAlt.mk ?_ ?_ | apply HJoin.mk3 | exact HEnd.mk rfl rfl rfl | refine HEnd.mk ?_ ?_ ?_ | refine Round.mk ?_ | refine NilQ.mk (fun b hb => ?_) | refine forceK_of ?_ | refine forceBx_of ?_ | refine unG_old ?_ | refine unG_gv ?_ | refine Lit.read rfl ?_ | refine FinVal.keep ?_ | refine FinAgg.keep ?_ | refine Final.mk rfl rfl | refine Final.mk ?_ rfl | refine Final.mk ?_ ?_ | refine FinalT.mk ?_ ?_ | refine FinalC.allA ?_)
    | refine AV.bool_congr ?_ | refine AV.int_congr ?_ | refine AV.str_congr ?_ | refine AV.list_congr ?_ | with_reducible rfl | refine fr1 ?_ | refine fr2 ?_ ?_
  conv => whnf
  refine ACall.turnT (1) _ [gv (.a [.s a0.1, .v (.int .i64 a0.2.1), X0_2, X0_3]) 0, .val (.int .i64 ((1 : Nat)))] (.a [.s a0.1, .v (.int .i64 a0.2.1), X0_2, X0_3]) (mk (.a [.s a0.1, .v (.int .i64 a0.2.1), X0_2, X0_3]) (1)) _ hmX0 rfl (nb_mk _ _) (.cons (.inl ⟨rfl, rfl⟩) (.cons (.inr (Sees0.val _)) .nil)) (by repeat' first | (refine TAt.here ?_; (try simp only [List.length_append, List.length_cons, List.length_nil, length_gb, nb_mk, Nat.zero_add, hB0l]) <;> omega) | apply TAt.more) ?_
  repeat' first
    | contradiction | exact trivial
    | (conv => whnf
       first | refine Need.mk (fun h => h) ?_ | refine Need.mk rfl ?_ | refine Need.mk ⟨rfl, Nat.le_of_ble_eq_true rfl⟩ ?_ | refine Need.mk (Nat.le_of_ble_eq_true rfl) ?_ | refine Need.fin ?_ | refine Need.mk ?_ ?_ | refine Ix.strsF rfl ?_ | refine Ix.strs rfl ?_ ?_ | refine Cut.strs rfl ?_ ?_ | refine Ix.mapF (fun _ => rfl) ?_ | refine Ix.map (fun _ => rfl) ?_ ?_ | refine Cut.map (fun _ => rfl) ?_ ?_ | refine Fork.yes (by assumption) ?_ | refine Fork.no (by assumption) ?_ | refine Fork.decYes (by omega) ?_ | refine Fork.decNo (by omega) ?_ | refine Fork.dec (fun _ => ?_) (fun _ => ?_) | refine Fork.bne (fun _ => ?_) (fun _ => ?_) | refine Fork.beq (fun _ => ?_) (fun _ => ?_) | refine Fork.seq (fun _ => ?_) (fun _ => ?_) | refine Fork.sne (fun _ => ?_) (fun _ => ?_) | refine Fork.neg (fun _ => ?_) (fun _ => ?_) | refine Fork.mk (fun _ => ?_) (fun _ => ?_) | refine HAlt.mk ?_ ?_ | apply HJoin.mk3 | exact HEnd.mk rfl rfl rfl | refine HEnd.mk ?_ ?_ ?_ | refine Round.mk ?_ | refine NilQ.mk (fun b hb => ?_) | refine forceK_of ?_ | refine forceBx_of ?_ | refine unG_old ?_ | refine unG_gv ?_ | refine Lit.read rfl ?_ | refine FinVal.keep ?_ | refine FinAgg.keep ?_ | refine Final.mk rfl rfl | refine Final.mk ?_ rfl | refine Final.mk ?_ ?_ | refine FinalT.mk ?_ ?_ | refine FinalC.allA ?_)
    | refine AV.bool_congr ?_ | refine AV.int_congr ?_ | refine AV.str_congr ?_ | refine AV.list_congr ?_ | with_reducible rfl | refine fr1 ?_ | refine fr2 ?_ ?_
  conv => whnf
  (try refine AGCall.scal ?_)
  first
    | refine ACall.scal [old (G0), old (G0)] _ heG0 rfl (.cons (sees_gv (G0) _ (1 + nb (.a [.s a0.1, .v (.int .i64 a0.2.1), X0_2, X0_3]) + 1) okG0 (by repeat' first | (refine BoxIn.here ?_; (try simp only [List.length_append, List.length_cons, List.length_nil, length_gb, nb_mk, Nat.zero_add, hB0l]) <;> omega) | refine BoxIn.more ?_ _)) (.cons (SeesB.of0 (Sees0.old (G0))) .nil)) ?_
    | refine AQCall.mk [old (G0), old (G0)] _ (fun _ => heG0) rfl (fun _ => .cons (sees_gv (G0) _ (1 + nb (.a [.s a0.1, .v (.int .i64 a0.2.1), X0_2, X0_3]) + 1) okG0 (by repeat' first | (refine BoxIn.here ?_; (try simp only [List.length_append, List.length_cons, List.length_nil, length_gb, nb_mk, Nat.zero_add, hB0l]) <;> omega) | refine BoxIn.more ?_ _)) (.cons (SeesB.of0 (Sees0.old (G0))) .nil)) ?_
  repeat' first
    | contradiction | exact trivial
    | (conv => whnf
       first | refine Need.mk (fun h => h) ?_ | refine Need.mk rfl ?_ | refine Need.mk ⟨rfl, Nat.le_of_ble_eq_true rfl⟩ ?_ | refine Need.mk (Nat.le_of_ble_eq_true rfl) ?_ | refine Need.fin ?_ | refine Need.mk ?_ ?_ | refine Ix.strsF rfl ?_ | refine Ix.strs rfl ?_ ?_ | refine Cut.strs rfl ?_ ?_ | refine Ix.mapF (fun _ => rfl) ?_ | refine Ix.map (fun _ => rfl) ?_ ?_ | refine Cut.map (fun _ => rfl) ?_ ?_ | refine Fork.yes (by assumption) ?_ | refine Fork.no (by assumption) ?_ | refine Fork.decYes (by omega) ?_ | refine Fork.decNo (by omega) ?_ | refine Fork.dec (fun _ => ?_) (fun _ => ?_) | refine Fork.bne (fun _ => ?_) (fun _ => ?_) | refine Fork.beq (fun _ => ?_) (fun _ => ?_) | refine Fork.seq (fun _ => ?_) (fun _ => ?_) | refine Fork.sne (fun _ => ?_) (fun _ => ?_) | refine Fork.neg (fun _ => ?_) (fun _ => ?_) | refine Fork.mk (fun _ => ?_) (fun _ => ?_) | refine HAlt.mk ?_ ?_ | apply HJoin.mk3 | exact HEnd.mk rfl rfl rfl | refine HEnd.mk ?_ ?_ ?_ | refine Round.mk ?_ | refine NilQ.mk (fun b hb => ?_) | refine forceK_of ?_ | refine forceBx_of ?_ | refine unG_old ?_ | refine unG_gv ?_ | refine Lit.read rfl ?_ | refine FinVal.keep ?_ | refine FinAgg.keep ?_ | refine Final.mk rfl rfl | refine Final.mk ?_ rfl | refine Final.mk ?_ ?_ | refine FinalT.mk ?_ ?_ | refine FinalC.allA ?_)
    | refine AV.bool_congr ?_ | refine AV.int_congr ?_ | refine AV.str_congr ?_ | refine AV.list_congr ?_ | with_reducible rfl | refine fr1 ?_ | refine fr2 ?_ ?_
  all_goals try (exfalso; rename_i hx; simp at hx; done)
  conv => whnf
  refine ACall.turnT (1 + nb (.a [.s a0.1, .v (.int .i64 a0.2.1), X0_2, X0_3]) + 1) _ [gv (G0) 0, .val (.int .i64 ((1 : Nat)))] (G0) (mk (G0) (1)) _ hmG0 rfl (nb_mk _ _) (.cons (.inl ⟨rfl, rfl⟩) (.cons (.inr (Sees0.val _)) .nil)) (by repeat' first | (refine TAt.here ?_; (try simp only [List.length_append, List.length_cons, List.length_nil, length_gb, nb_mk, Nat.zero_add, hB0l]) <;> omega) | apply TAt.more) ?_
  repeat' first
    | contradiction | exact trivial
    | (conv => whnf
       first | refine Need.mk (fun h => h) ?_ | refine Need.mk rfl ?_ | refine Need.mk ⟨rfl, Nat.le_of_ble_eq_true rfl⟩ ?_ | refine Need.mk (Nat.le_of_ble_eq_true rfl) ?_ | refine Need.fin ?_ | refine Need.mk ?_ ?_ | refine Ix.strsF rfl ?_ | refine Ix.strs rfl ?_ ?_ | refine Cut.strs rfl ?_ ?_ | refine Ix.mapF (fun _ => rfl) ?_ | refine Ix.map (fun _ => rfl) ?_ ?_ | refine Cut.map (fun _ => rfl) ?_ ?_ | refine Fork.yes (by assumption) ?_ | refine Fork.no (by assumption) ?_ | refine Fork.decYes (by omega) ?_ | refine Fork.decNo (by omega) ?_ | refine Fork.dec (fun _ => ?_) (fun _ => ?_) | refine Fork.bne (fun _ => ?_) (fun _ => ?_) | refine Fork.beq (fun _ => ?_) (fun _ => ?_) | refine Fork.seq (fun _ => ?_) (fun _ => ?_) | refine Fork.sne (fun _ => ?_) (fun _ => ?_) | refine Fork.neg (fun _ => ?_) (fun _ => ?_) | refine Fork.mk (fun _ => ?_) (fun _ => ?_) | refine HAlt.mk ?_ ?_ | apply HJoin.mk3 | exact HEnd.mk rfl rfl rfl | refine HEnd.mk ?_ ?_ ?_ | refine Round.mk ?_ | refine NilQ.mk (fun b hb => ?_) | refine forceK_of ?_ | refine forceBx_of ?_ | refine unG_old ?_ | refine unG_gv ?_ | refine Lit.read rfl ?_ | refine FinVal.keep ?_ | refine FinAgg.keep ?_ | refine Final.mk rfl rfl | refine Final.mk ?_ rfl | refine Final.mk ?_ ?_ | refine FinalT.mk ?_ ?_ | refine FinalC.allA ?_)
    | refine AV.bool_congr ?_ | refine AV.int_congr ?_ | refine AV.str_congr ?_ | refine AV.list_congr ?_ | with_reducible rfl | refine fr1 ?_ | refine fr2 ?_ ?_
  conv => whnf
  refine ACall.scal [old (mk (G0) (1)), .val (.int .i64 ((1 : Nat)))] _ hhG0 rfl (.cons (sees_mk (G0) (1) _ (1 + nb (.a [.s a0.1, .v (.int .i64 a0.2.1), X0_2, X0_3]) + 1) okG0 (by repeat' first | (refine BoxIn.here ?_; (try simp only [List.length_append, List.length_cons, List.length_nil, length_gb, nb_mk, Nat.zero_add, hB0l]) <;> omega) | refine BoxIn.more ?_ _)) (.cons (SeesB.of0 (Sees0.val _)) .nil)) ?_
  repeat' first
    | contradiction | exact trivial
    | (conv => whnf
       first | refine Need.mk (fun h => h) ?_ | refine Need.mk rfl ?_ | refine Need.mk ⟨rfl, Nat.le_of_ble_eq_true rfl⟩ ?_ | refine Need.mk (Nat.le_of_ble_eq_true rfl) ?_ | refine Need.fin ?_ | refine Need.mk ?_ ?_ | refine Ix.strsF rfl ?_ | refine Ix.strs rfl ?_ ?_ | refine Cut.strs rfl ?_ ?_ | refine Ix.mapF (fun _ => rfl) ?_ | refine Ix.map (fun _ => rfl) ?_ ?_ | refine Cut.map (fun _ => rfl) ?_ ?_ | refine Fork.yes (by assumption) ?_ | refine Fork.no (by assumption) ?_ | refine Fork.decYes (by omega) ?_ | refine Fork.decNo (by omega) ?_ | refine Fork.dec (fun _ => ?_) (fun _ => ?_) | refine Fork.bne (fun _ => ?_) (fun _ => ?_) | refine Fork.beq (fun _ => ?_) (fun _ => ?_) | refine Fork.seq (fun _ => ?_) (fun _ => ?_) | refine Fork.sne (fun _ => ?_) (fun _ => ?_) | refine Fork.neg (fun _ => ?_) (fun _ => ?_) | refine Fork.mk (fun _ => ?_) (fun _ => ?_) | refine HAlt.mk ?_ ?_ | apply HJoin.mk3 | exact HEnd.mk rfl rfl rfl | refine HEnd.mk ?_ ?_ ?_ | refine Round.mk ?_ | refine NilQ.mk (fun b hb => ?_) | refine forceK_of ?_ | refine forceBx_of ?_ | refine unG_old ?_ | refine unG_gv ?_ | refine Lit.read rfl ?_ | refine FinVal.keep ?_ | refine FinAgg.keep ?_ | refine Final.mk rfl rfl | refine Final.mk ?_ rfl | refine Final.mk ?_ ?_ | refine FinalT.mk ?_ ?_ | refine FinalC.allA ?_)
    | refine AV.bool_congr ?_ | refine AV.int_congr ?_ | refine AV.str_congr ?_ | refine AV.list_congr ?_ | with_reducible rfl | refine fr1 ?_ | refine fr2 ?_ ?_
  conv => whnf
  refine ld_agg (by repeat' first | (refine at_here ?_; (try simp only [List.length_append, List.length_cons, List.length_nil, length_gb, nb_mk, Nat.zero_add, hB0l]) <;> omega) | exact hat0 | refine at_more ?_) (by first | exact Nat.le_of_ble_eq_true rfl | ((simp only [List.drop_zero, List.length_cons, List.length_nil, length_gvL]) <;> decide)) ?_
  repeat' first
    | contradiction | exact trivial
    | (conv => whnf
       first | refine Need.mk (fun h => h) ?_ | refine Need.mk rfl ?_ | refine Need.mk ⟨rfl, Nat.le_of_ble_eq_true rfl⟩ ?_ | refine Need.mk (Nat.le_of_ble_eq_true rfl) ?_ | refine Need.fin ?_ | refine Need.mk ?_ ?_ | refine Ix.strsF rfl ?_ | refine Ix.strs rfl ?_ ?_ | refine Cut.strs rfl ?_ ?_ | refine Ix.mapF (fun _ => rfl) ?_ | refine Ix.map (fun _ => rfl) ?_ ?_ | refine Cut.map (fun _ => rfl) ?_ ?_ | refine Fork.yes (by assumption) ?_ | refine Fork.no (by assumption) ?_ | refine Fork.decYes (by omega) ?_ | refine Fork.decNo (by omega) ?_ | refine Fork.dec (fun _ => ?_) (fun _ => ?_) | refine Fork.bne (fun _ => ?_) (fun _ => ?_) | refine Fork.beq (fun _ => ?_) (fun _ => ?_) | refine Fork.seq (fun _ => ?_) (fun _ => ?_) | refine Fork.sne (fun _ => ?_) (fun _ => ?_) | refine Fork.neg (fun _ => ?_) (fun _ => ?_) | refine Fork.mk (fun _ => ?_) (fun _ => ?_) | refine HAlt.mk ?_ ?_ | apply HJoin.mk3 | exact HEnd.mk rfl rfl rfl | refine HEnd.mk ?_ ?_ ?_ | refine Round.mk ?_ | refine NilQ.mk (fun b hb => ?_) | refine forceK_of ?_ | refine forceBx_of ?_ | refine unG_old ?_ | refine unG_gv ?_ | refine Lit.read rfl ?_ | refine FinVal.keep ?_ | refine FinAgg.keep ?_ | refine Final.mk rfl rfl | refine Final.mk ?_ rfl | refine Final.mk ?_ ?_ | refine FinalT.mk ?_ ?_ | refine FinalC.allA ?_)
    | refine AV.bool_congr ?_ | refine AV.int_congr ?_ | refine AV.str_congr ?_ | refine AV.list_congr ?_ | with_reducible rfl | refine fr1 ?_ | refine fr2 ?_ ?_
  conv => whnf
  refine ACall.old [.agg (oldL (tRule.q a0))] (.a [.s a0.1, .v (.int .i64 a0.2.1), X0_2, X0_3]) hto0 (.cons (SeesB.of0 (Sees0.cut (ys := tRule.q a0) (by rfl))) .nil) okX0 ?_
  repeat' first
    | contradiction | exact trivial
    | (conv => whnf
       first | refine Need.mk (fun h => h) ?_ | refine Need.mk rfl ?_ | refine Need.mk ⟨rfl, Nat.le_of_ble_eq_true rfl⟩ ?_ | refine Need.mk (Nat.le_of_ble_eq_true rfl) ?_ | refine Need.fin ?_ | refine Need.mk ?_ ?_ | refine Ix.strsF rfl ?_ | refine Ix.strs rfl ?_ ?_ | refine Cut.strs rfl ?_ ?_ | refine Ix.mapF (fun _ => rfl) ?_ | refine Ix.map (fun _ => rfl) ?_ ?_ | refine Cut.map (fun _ => rfl) ?_ ?_ | refine Fork.yes (by assumption) ?_ | refine Fork.no (by assumption) ?_ | refine Fork.decYes (by omega) ?_ | refine Fork.decNo (by omega) ?_ | refine Fork.dec (fun _ => ?_) (fun _ => ?_) | refine Fork.bne (fun _ => ?_) (fun _ => ?_) | refine Fork.beq (fun _ => ?_) (fun _ => ?_) | refine Fork.seq (fun _ => ?_) (fun _ => ?_) | refine Fork.sne (fun _ => ?_) (fun _ => ?_) | refine Fork.neg (fun _ => ?_) (fun _ => ?_) | refine Fork.mk (fun _ => ?_) (fun _ => ?_) | refine HAlt.mk ?_ ?_ | apply HJoin.mk3 | exact HEnd.mk rfl rfl rfl | refine HEnd.mk ?_ ?_ ?_ | refine Round.mk ?_ | refine NilQ.mk (fun b hb => ?_) | refine forceK_of ?_ | refine forceBx_of ?_ | refine unG_old ?_ | refine unG_gv ?_ | refine Lit.read rfl ?_ | refine FinVal.keep ?_ | refine FinAgg.keep ?_ | refine Final.mk rfl rfl | refine Final.mk ?_ rfl | refine Final.mk ?_ ?_ | refine FinalT.mk ?_ ?_ | refine FinalC.allA ?_)
    | refine AV.bool_congr ?_ | refine AV.int_congr ?_ | refine AV.str_congr ?_ | refine AV.list_congr ?_ | with_reducible rfl | refine fr1 ?_ | refine fr2 ?_ ?_
  conv => whnf
  refine ACall.old [old (.a [.s a0.1, .v (.int .i64 a0.2.1), X0_2, X0_3])] (G0) hp' (.cons (SeesB.of0 (Sees0.old (.a [.s a0.1, .v (.int .i64 a0.2.1), X0_2, X0_3]))) .nil) okR ?_
  repeat' first
    | contradiction | exact trivial
    | (conv => whnf
       first | refine Need.mk (fun h => h) ?_ | refine Need.mk rfl ?_ | refine Need.mk ⟨rfl, Nat.le_of_ble_eq_true rfl⟩ ?_ | refine Need.mk (Nat.le_of_ble_eq_true rfl) ?_ | refine Need.fin ?_ | refine Need.mk ?_ ?_ | refine Ix.strsF rfl ?_ | refine Ix.strs rfl ?_ ?_ | refine Cut.strs rfl ?_ ?_ | refine Ix.mapF (fun _ => rfl) ?_ | refine Ix.map (fun _ => rfl) ?_ ?_ | refine Cut.map (fun _ => rfl) ?_ ?_ | refine Fork.yes (by assumption) ?_ | refine Fork.no (by assumption) ?_ | refine Fork.decYes (by omega) ?_ | refine Fork.decNo (by omega) ?_ | refine Fork.dec (fun _ => ?_) (fun _ => ?_) | refine Fork.bne (fun _ => ?_) (fun _ => ?_) | refine Fork.beq (fun _ => ?_) (fun _ => ?_) | refine Fork.seq (fun _ => ?_) (fun _ => ?_) | refine Fork.sne (fun _ => ?_) (fun _ => ?_) | refine Fork.neg (fun _ => ?_) (fun _ => ?_) | refine Fork.mk (fun _ => ?_) (fun _ => ?_) | refine HAlt.mk ?_ ?_ | apply HJoin.mk3 | exact HEnd.mk rfl rfl rfl | refine HEnd.mk ?_ ?_ ?_ | refine Round.mk ?_ | refine NilQ.mk (fun b hb => ?_) | refine forceK_of ?_ | refine forceBx_of ?_ | refine unG_old ?_ | refine unG_gv ?_ | refine Lit.read rfl ?_ | refine FinVal.keep ?_ | refine FinAgg.keep ?_ | refine Final.mk rfl rfl | refine Final.mk ?_ rfl | refine Final.mk ?_ ?_ | refine FinalT.mk ?_ ?_ | refine FinalC.allA ?_)
    | refine AV.bool_congr ?_ | refine AV.int_congr ?_ | refine AV.str_congr ?_ | refine AV.list_congr ?_ | with_reducible rfl | refine fr1 ?_ | refine fr2 ?_ ?_
  conv => whnf
  (try refine AGCall.scal ?_)
  first
    | refine ACall.scal [old (G0), old (G0)] _ heG0 rfl (.cons (SeesB.of0 (Sees0.old (G0))) (.cons (SeesB.of0 (Sees0.old (G0))) .nil)) ?_
    | refine AQCall.mk [old (G0), old (G0)] _ (fun _ => heG0) rfl (fun _ => .cons (SeesB.of0 (Sees0.old (G0))) (.cons (SeesB.of0 (Sees0.old (G0))) .nil)) ?_
  repeat' first
    | contradiction | exact trivial
    | (conv => whnf
       first | refine Need.mk (fun h => h) ?_ | refine Need.mk rfl ?_ | refine Need.mk ⟨rfl, Nat.le_of_ble_eq_true rfl⟩ ?_ | refine Need.mk (Nat.le_of_ble_eq_true rfl) ?_ | refine Need.fin ?_ | refine Need.mk ?_ ?_ | refine Ix.strsF rfl ?_ | refine Ix.strs rfl ?_ ?_ | refine Cut.strs rfl ?_ ?_ | refine Ix.mapF (fun _ => rfl) ?_ | refine Ix.map (fun _ => rfl) ?_ ?_ | refine Cut.map (fun _ => rfl) ?_ ?_ | refine Fork.yes (by assumption) ?_ | refine Fork.no (by assumption) ?_ | refine Fork.decYes (by omega) ?_ | refine Fork.decNo (by omega) ?_ | refine Fork.dec (fun _ => ?_) (fun _ => ?_) | refine Fork.bne (fun _ => ?_) (fun _ => ?_) | refine Fork.beq (fun _ => ?_) (fun _ => ?_) | refine Fork.seq (fun _ => ?_) (fun _ => ?_) | refine Fork.sne (fun _ => ?_) (fun _ => ?_) | refine Fork.neg (fun _ => ?_) (fun _ => ?_) | refine Fork.mk (fun _ => ?_) (fun _ => ?_) | refine HAlt.mk ?_ ?_ | apply HJoin.mk3 | exact HEnd.mk rfl rfl rfl | refine HEnd.mk ?_ ?_ ?_ | refine Round.mk ?_ | refine NilQ.mk (fun b hb => ?_) | refine forceK_of ?_ | refine forceBx_of ?_ | refine unG_old ?_ | refine unG_gv ?_ | refine Lit.read rfl ?_ | refine FinVal.keep ?_ | refine FinAgg.keep ?_ | refine Final.mk rfl rfl | refine Final.mk ?_ rfl | refine Final.mk ?_ ?_ | refine FinalT.mk ?_ ?_ | refine FinalC.allA ?_)
    | refine AV.bool_congr ?_ | refine AV.int_congr ?_ | refine AV.str_congr ?_ | refine AV.list_congr ?_ | with_reducible rfl | refine fr1 ?_ | refine fr2 ?_ ?_
  all_goals try (exfalso; rename_i hx; simp at hx; done)
  conv => whnf
  refine ACall.scal [old (mk (G0) (1)), .val (.int .i64 ((1 : Nat)))] _ hhG0 rfl (.cons (sees_mk (G0) (1) _ (1 + nb (.a [.s a0.1, .v (.int .i64 a0.2.1), X0_2, X0_3]) + 1) okG0 (by repeat' first | (refine BoxIn.here ?_; (try simp only [List.length_append, List.length_cons, List.length_nil, length_gb, nb_mk, Nat.zero_add, hB0l]) <;> omega) | refine BoxIn.more ?_ _)) (.cons (SeesB.of0 (Sees0.val _)) .nil)) ?_
  repeat' first
    | contradiction | exact trivial
    | (conv => whnf
       first | refine Need.mk (fun h => h) ?_ | refine Need.mk rfl ?_ | refine Need.mk ⟨rfl, Nat.le_of_ble_eq_true rfl⟩ ?_ | refine Need.mk (Nat.le_of_ble_eq_true rfl) ?_ | refine Need.fin ?_ | refine Need.mk ?_ ?_ | refine Ix.strsF rfl ?_ | refine Ix.strs rfl ?_ ?_ | refine Cut.strs rfl ?_ ?_ | refine Ix.mapF (fun _ => rfl) ?_ | refine Ix.map (fun _ => rfl) ?_ ?_ | refine Cut.map (fun _ => rfl) ?_ ?_ | refine Fork.yes (by assumption) ?_ | refine Fork.no (by assumption) ?_ | refine Fork.decYes (by omega) ?_ | refine Fork.decNo (by omega) ?_ | refine Fork.dec (fun _ => ?_) (fun _ => ?_) | refine Fork.bne (fun _ => ?_) (fun _ => ?_) | refine Fork.beq (fun _ => ?_) (fun _ => ?_) | refine Fork.seq (fun _ => ?_) (fun _ => ?_) | refine Fork.sne (fun _ => ?_) (fun _ => ?_) | refine Fork.neg (fun _ => ?_) (fun _ => ?_) | refine Fork.mk (fun _ => ?_) (fun _ => ?_) | refine HAlt.mk ?_ ?_ | apply HJoin.mk3 | exact HEnd.mk rfl rfl rfl | refine HEnd.mk ?_ ?_ ?_ | refine Round.mk ?_ | refine NilQ.mk (fun b hb => ?_) | refine forceK_of ?_ | refine forceBx_of ?_ | refine unG_old ?_ | refine unG_gv ?_ | refine Lit.read rfl ?_ | refine FinVal.keep ?_ | refine FinAgg.keep ?_ | refine Final.mk rfl rfl | refine Final.mk ?_ rfl | refine Final.mk ?_ ?_ | refine FinalT.mk ?_ ?_ | refine FinalC.allA ?_)
    | refine AV.bool_congr ?_ | refine AV.int_congr ?_ | refine AV.str_congr ?_ | refine AV.list_congr ?_ | with_reducible rfl | refine fr1 ?_ | refine fr2 ?_ ?_
end Go.Proofs.Ytimcfgokocihnaa
namespace Go.Proofs.Ytimcfgokocihnaa
open Abs
set_option maxRecDepth 20000 in
set_option maxHeartbeats 4000000 in
theorem lawExactWritesOf.of_own (a0 : VRule) (hb0 : tRule.bd a0)
    (h : tRule.size a0 ≤ 1048576 → ∃ (r0 : List Str), tStrs.size r0 ≤ 1073741824 ∧ (sWritesOf.Own [.agg (oldL (tRule.q a0))] (.l 9 1 (r0.map Ty.str.q)) ∧ pWritesOf.Own [.agg (oldL (tRule.q a0))] (.l 9 1 (r0.map Ty.str.q)))) :
    lawExactWritesOf.Ret [.agg (oldL (tRule.q a0))] (.val (.bool true)) [] := by
  refine lawExactWritesOf.ofS rfl rfl ?_
  by_cases c1 : (1048576 : Int) < (tRule.size a0 : Int)
  · have e0 : left 1048576 (tRule.size a0) = -1 := by rw [left, if_pos (by omega)]
    repeat' first
      | contradiction | exact trivial
      | (conv => whnf
         first | refine Need.mk (fun h => h) ?_ | refine Need.mk rfl ?_ | refine Need.mk ⟨rfl, Nat.le_of_ble_eq_true rfl⟩ ?_ | refine Need.mk (Nat.le_of_ble_eq_true rfl) ?_ | refine Need.fin ?_ | refine Need.mk ?_ ?_ | refine Ix.strsF rfl ?_ | refine Ix.strs rfl ?_ ?_ | refine Cut.strs rfl ?_ ?_ | refine Ix.mapF (fun _ => rfl) ?_ | refine Ix.map (fun _ => rfl) ?_ ?_ | refine Cut.map (fun _ => rfl) ?_ ?_ | refine Fork.yes (by assumption) ?_ | refine Fork.no (by assumption) ?_ | refine Fork.decYes (by omega) ?_ | refine Fork.decNo (by omega) ?_ | refine Fork.dec (fun _ => ?_) (fun _ => ?_) | refine Fork.bne (fun _ => ?_) (fun _ => ?_) | refine Fork.beq (fun _ => ?_) (fun _ => ?_) | refine Fork.seq (fun _ => ?_) (fun _ => ?_) | refine Fork.sne (fun _ => ?_) (fun _ => ?_) | refine Fork.neg (fun _ => ?_) (fun _ => ?_) | refine Fork.mk (fun _ => ?_) (fun _ => ?_) | refine HAlt.mk ?_ ?_ | apply HJoin.mk3 | exact HEnd.mk rfl rfl rfl | refine HEnd.mk ?_ ?_ ?_ | refine Round.mk ?_ | refine NilQ.mk (fun b hb => ?_) | refine forceK_of ?_ | refine forceBx_of ?_ | refine unG_old ?_ | refine unG_gv ?_ | refine Lit.read rfl ?_ | refine FinVal.keep ?_ | refine FinAgg.keep ?_ | refine Final.mk rfl rfl | refine Final.mk ?_ rfl | refine Final.mk ?_ ?_ | refine FinalT.mk ?_ ?_ | refine FinalC.allA ?_ | refine ACall.scalA _ _ (szRule.ret _ _ ?_ ?_ ?_) rfl ?_ | refine AQCall.mkA _ _ (fun hg => szRule.ret _ _ ?_ ?_ ?_) rfl ?_ | refine AGCall.mkA _ _ (fun hg => szRule.ret _ _ ?_ ?_ ?_) rfl ?_)
      | refine AV.bool_congr ?_ | refine AV.int_congr ?_ | refine AV.str_congr ?_ | refine AV.list_congr ?_ | with_reducible rfl | refine fr1 ?_ | refine fr2 ?_ ?_
    all_goals first
      | assumption
      | omega
  have e0 : left 1048576 (tRule.size a0) = 1048576 - (tRule.size a0 : Int) := by rw [left, if_neg (by omega)]
  obtain ⟨r0, hg0, hs, hp⟩ := h (by omega)
  have hcX0 : cn (.a (tRule.q a0)) ≤ 10 * (1 + tRule.size a0) := Nat.le_trans (tRule_cnA a0) (tRule_cn a0)
  have hcX0e : cn (.a [.s a0.1, .v (.int .i64 a0.2.1), .l 94 5 (a0.2.2.1.map tCond.q), .l 31 3 (a0.2.2.2.map tAction.q)]) ≤ 10 * (1 + tRule.size a0) := hcX0
  have hcG0 : cn (.l 9 1 (r0.map Ty.str.q)) ≤ 1 * (1 + tStrs.size r0) := Nat.le_trans (CnB.l CnB.str _ _ r0) (Nat.mul_le_mul_left _ (Nat.le_add_left _ _))
  obtain ⟨X0_2, eX0_2⟩ : ∃ x, x = Tr.l 94 5 (a0.2.2.1.map tCond.q) := ⟨_, rfl⟩
  obtain ⟨X0_3, eX0_3⟩ : ∃ x, x = Tr.l 31 3 (a0.2.2.2.map tAction.q) := ⟨_, rfl⟩
  obtain ⟨G0, eG0⟩ : ∃ x, x = Tr.l 9 1 (r0.map Ty.str.q) := ⟨_, rfl⟩
  have okX0 : okT (.a [.s a0.1, .v (.int .i64 a0.2.1), X0_2, X0_3]) = true := by
    rw [eX0_2, eX0_3]
    exact okT_a tRule a0
  have hto0 : toRule.Own [.agg (oldL (tRule.q a0))] (.a [.s a0.1, .v (.int .i64 a0.2.1), X0_2, X0_3]) := by
    rw [eX0_2, eX0_3]
    exact toRule.own a0 (by omega)
  have heX0 : eqRule.Ret [old (.a [.s a0.1, .v (.int .i64 a0.2.1), X0_2, X0_3]), old (.a [.s a0.1, .v (.int .i64 a0.2.1), X0_2, X0_3])] (.val (.bool true)) [] := by
    rw [eX0_2, eX0_3]
    have := eqRule.big a0 a0 (by omega)
    simp only [decide_true] at this
    exact this
  have hmX0 : markRule.Turn (gb (.a [.s a0.1, .v (.int .i64 a0.2.1), X0_2, X0_3]) 0) [gv (.a [.s a0.1, .v (.int .i64 a0.2.1), X0_2, X0_3]) 0, .val (.int .i64 ((1 : Nat)))] (.val (.int .i64 ((1 + cn (.a [.s a0.1, .v (.int .i64 a0.2.1), X0_2, X0_3]) : Nat)))) (gb (mk (.a [.s a0.1, .v (.int .i64 a0.2.1), X0_2, X0_3]) (1)) 0) := by
    rw [eX0_2, eX0_3]
    exact markRule.tn a0 _ (by omega) (by omega)
  have okG0 : okT (G0) = true := by
    rw [eG0]
    exact ok_list Ty.str _ r0
  have heG0 : eqStringS.Ret [old (G0), old (G0)] (.val (.bool true)) [] := by
    rw [eG0]
    have := eqStringS.big r0 r0 (by omega)
    simp only [decide_true] at this
    exact this
  have hmG0 : markStringS.Turn (gb (G0) 0) [gv (G0) 0, .val (.int .i64 ((1 : Nat)))] (.val (.int .i64 ((1 + cn (G0) : Nat)))) (gb (mk (G0) (1)) 0) := by
    rw [eG0]
    exact markStringS.tn r0 _ (by omega) (by omega)
  have hhG0 : heldStringS.Ret [old (mk (G0) (1)), .val (.int .i64 ((1 : Nat)))] (.val (.int .i64 ((1 + cn (G0) : Nat)))) [] := by
    rw [eG0]
    exact heldStringS.hd r0 _ (by omega) (by omega)
  have hs' : sWritesOf.Own [old (.a [.s a0.1, .v (.int .i64 a0.2.1), X0_2, X0_3])] (G0) := by
    rw [eX0_2, eX0_3, eG0]
    exact hs
  have hp' : pWritesOf.Own [old (.a [.s a0.1, .v (.int .i64 a0.2.1), X0_2, X0_3])] (G0) := by
    rw [eX0_2, eX0_3, eG0]
    exact hp
  clear hs hp eX0_2 eX0_3 eG0
  obtain ⟨B0, hB0⟩ : ∃ B0 : List ABox, B0 = [ABox.cells .var (oldL (tRule.q a0))] := ⟨_, rfl⟩
  have hB0l : B0.length = 1 := by rw [hB0]; rfl
  have hat0 : B0[0]? = some (ABox.cells .var (oldL (tRule.q a0))) := by rw [hB0]; rfl
  repeat' first
    | contradiction | exact trivial
    | (conv => whnf
       first | refine Need.mk (fun h => h) ?_ | refine Need.mk rfl ?_ | refine Need.mk ⟨rfl, Nat.le_of_ble_eq_true rfl⟩ ?_ | refine Need.mk (Nat.le_of_ble_eq_true rfl) ?_ | refine Need.fin ?_ | refine Need.mk ?_ ?_ | refine Ix.strsF rfl ?_ | refine Ix.strs rfl ?_ ?_ | refine Cut.strs rfl ?_ ?_ | refine Ix.mapF (fun _ => rfl) ?_ | refine Ix.map (fun _ => rfl) ?_ ?_ | refine Cut.map (fun _ => rfl) ?_ ?_ | refine Fork.yes (by assumption) ?_ | refine Fork.no (by assumption) ?_ | refine Fork.decYes (by omega) ?_ | refine Fork.decNo (by omega) ?_ | refine Fork.dec (fun _ => ?_) (fun _ => ?_) | refine Fork.bne (fun _ => ?_) (fun _ => ?_) | refine Fork.beq (fun _ => ?_) (fun _ => ?_) | refine Fork.seq (fun _ => ?_) (fun _ => ?_) | refine Fork.sne (fun _ => ?_) (fun _ => ?_) | refine Fork.neg (fun _ => ?_) (fun _ => ?_) | refine Fork.mk (fun _ => ?_) (fun _ => ?_) | refine HAlt.mk ?_ ?_ | apply HJoin.mk3 | exact HEnd.mk rfl rfl rfl | refine HEnd.mk ?_ ?_ ?_ | refine Round.mk ?_ | refine NilQ.mk (fun b hb => ?_) | refine forceK_of ?_ | refine forceBx_of ?_ | refine unG_old ?_ | refine unG_gv ?_ | refine Lit.read rfl ?_ | refine FinVal.keep ?_ | refine FinAgg.keep ?_ | refine Final.mk rfl rfl | refine Final.mk ?_ rfl | refine Final.mk ?_ ?_ | refine FinalT.mk ?_ ?_ | refine FinalC.allA ?_ | refine ACall.scalA _ _ (szRule.ret _ _ ?_ ?_ ?_) rfl ?_ | refine AQCall.mkA _ _ (fun hg => szRule.ret _ _ ?_ ?_ ?_) rfl ?_ | refine AGCall.mkA _ _ (fun hg => szRule.ret _ _ ?_ ?_ ?_) rfl ?_)
    | refine AV.bool_congr ?_ | refine AV.int_congr ?_ | refine AV.str_congr ?_ | refine AV.list_congr ?_ | with_reducible rfl | refine fr1 ?_ | refine fr2 ?_ ?_
  all_goals first
    | assumption
    | omega
    | skip
  conv => whnf
  refine ACall.old [.agg (oldL (tRule.q a0))] (.a [.s a0.1, .v (.int .i64 a0.2.1), X0_2, X0_3]) hto0 (.cons (SeesB.of0 (Sees0.cut (ys := tRule.q a0) (by rfl))) .nil) okX0 ?_
  repeat' first
    | contradiction | exact trivial
    | (conv => whnf
       first | refine Need.mk (fun h => h) ?_ | refine Need.mk rfl ?_ | refine Need.mk ⟨rfl, Nat.le_of_ble_eq_true rfl⟩ ?_ | refine Need.mk (Nat.le_of_ble_eq_true rfl) ?_ | refine Need.fin ?_ | refine Need.mk ?_ ?_ | refine Ix.strsF rfl ?_ | refine Ix.strs rfl ?_ ?_ | refine Cut.strs rfl ?_ ?_ | refine Ix.mapF (fun _ => rfl) ?_ | refine Ix.map (fun _ => rfl) ?_ ?_ | refine Cut.map (fun _ => rfl) ?_ ?_ | refine Fork.yes (by assumption) ?_ | refine Fork.no (by assumption) ?_ | refine Fork.decYes (by omega) ?_ | refine Fork.decNo (by omega) ?_ | refine Fork.dec (fun _ => ?_) (fun _ => ?_) | refine Fork.bne (fun _ => ?_) (fun _ => ?_) | refine Fork.beq (fun _ => ?_) (fun _ => ?_) | refine Fork.seq (fun _ => ?_) (fun _ => ?_) | refine Fork.sne (fun _ => ?_) (fun _ => ?_) | refine Fork.neg (fun _ => ?_) (fun _ => ?_) | refine Fork.mk (fun _ => ?_) (fun _ => ?_) | refine HAlt.mk ?_ ?_ | apply HJoin.mk3 | exact HEnd.mk rfl rfl rfl | refine HEnd.mk ?_ ?_ ?_ | refine Round.mk ?_ | refine NilQ.mk (fun b hb => ?_) | refine forceK_of ?_ | refine forceBx_of ?_ | refine unG_old ?_ | refine unG_gv ?_ | refine Lit.read rfl ?_ | refine FinVal.keep ?_ | refine FinAgg.keep ?_ | refine Final.mk rfl rfl | refine Final.mk ?_ rfl | refine Final.mk ?_ ?_ | refine FinalT.mk ?_ ?_ | refine FinalC.allA ?_)
    | refine AV.bool_congr ?_ | refine AV.int_congr ?_ | refine AV.str_congr ?_ | refine AV.list_congr ?_ | with_reducible rfl | refine fr1 ?_ | refine fr2 ?_ ?_
  have okR := okG0
  conv => whnf
  refine ACall.old [old (.a [.s a0.1, .v (.int .i64 a0.2.1), X0_2, X0_3])] (G0) hs' (.cons (SeesB.of0 (Sees0.old (.a [.s a0.1, .v (.int .i64 a0.2.1), X0_2, X0_3]))) .nil) okR ?_
  repeat' first
    | contradiction | exact trivial
    | (conv => whnf
       first | refine Need.mk (fun h => h) ?_ | refine Need.mk rfl ?_ | refine Need.mk ⟨rfl, Nat.le_of_ble_eq_true rfl⟩ ?_ | refine Need.mk (Nat.le_of_ble_eq_true rfl) ?_ | refine Need.fin ?_ | refine Need.mk ?_ ?_ | refine Ix.strsF rfl ?_ | refine Ix.strs rfl ?_ ?_ | refine Cut.strs rfl ?_ ?_ | refine Ix.mapF (fun _ => rfl) ?_ | refine Ix.map (fun _ => rfl) ?_ ?_ | refine Cut.map (fun _ => rfl) ?_ ?_ | refine Fork.yes (by assumption) ?_ | refine Fork.no (by assumption) ?_ | refine Fork.decYes (by omega) ?_ | refine Fork.decNo (by omega) ?_ | refine Fork.dec (fun _ => ?_) (fun _ => ?_) | refine Fork.bne (fun _ => ?_) (fun _ => ?_) | refine Fork.beq (fun _ => ?_) (fun _ => ?_) | refine Fork.seq (fun _ => ?_) (fun _ => ?_) | refine Fork.sne (fun _ => ?_) (fun _ => ?_) | refine Fork.neg (fun _ => ?_) (fun _ => ?_) | refine Fork.mk (fun _ => ?_) (fun _ => ?_) | refine HAlt.mk ?_ ?_ | apply HJoin.mk3 | exact HEnd.mk rfl rfl rfl | refine HEnd.mk ?_ ?_ ?_ | refine Round.mk ?_ | refine NilQ.mk (fun b hb => ?_) | refine forceK_of ?_ | refine forceBx_of ?_ | refine unG_old ?_ | refine unG_gv ?_ | refine Lit.read rfl ?_ | refine FinVal.keep ?_ | refine FinAgg.keep ?_ | refine Final.mk rfl rfl | refine Final.mk ?_ rfl | refine Final.mk ?_ ?_ | refine FinalT.mk ?_ ?_ | refine FinalC.allA ?_)
    | refine AV.bool_congr ?_ | refine AV.int_congr ?_ | refine AV.str_congr ?_ | refine AV.list_congr ?_ | with_reducible rfl | refine fr1 ?_ | refine fr2 ?_ ?_
  conv => whnf
  refine ACall.unbN' (1) (B0 ++ gb (.a [.s a0.1, .v (.int .i64 a0.2.1), X0_2, X0_3]) (1)) [.agg (oldL (tRule.q a0))] (.a [.s a0.1, .v (.int .i64 a0.2.1), X0_2, X0_3]) hto0 (.cons (SeesB.of0 (Sees0.cut (ys := tRule.q a0) (by rfl))) .nil) (by rfl) (by subst hB0; rfl) ?_
  refine aOps_new (1 + nb (.a [.s a0.1, .v (.int .i64 a0.2.1), X0_2, X0_3])) (gvL [.s a0.1, .v (.int .i64 a0.2.1), X0_2, X0_3] (1)) (by (try simp only [List.length_append, List.length_cons, List.length_nil, length_gb, nb_mk, Nat.zero_add, hB0l]) <;> omega) rfl (by decide) rfl rfl ?_
  repeat' first
    | contradiction | exact trivial
    | (conv => whnf
       first | refine Need.mk (fun h => h) ?_ | refine Need.mk rfl ?_ | refine Need.mk ⟨rfl, Nat.le_of_ble_eq_true rfl⟩ ?_ | refine Need.mk (Nat.le_of_ble_eq_true rfl) ?_ | refine Need.fin ?_ | refine Need.mk ?_ ?_ | refine Ix.strsF rfl ?_ | refine Ix.strs rfl ?_ ?_ | refine Cut.strs rfl ?_ ?_ | refine Ix.mapF (fun _ => rfl) ?_ | refine Ix.map (fun _ => rfl) ?_ ?_ | refine Cut.map (fun _ => rfl) ?_ ?_ | refine Fork.yes (by assumption) ?_ | refine Fork.no (by assumption) ?_ | refine Fork.decYes (by omega) ?_ | refine Fork.decNo (by omega) ?_ | refine Fork.dec (fun _ => ?_) (fun _ => ?_) | refine Fork.bne (fun _ => ?_) (fun _ => ?_) | refine Fork.beq (fun _ => ?_) (fun _ => ?_) | refine Fork.seq (fun _ => ?_) (fun _ => ?_) | refine Fork.sne (fun _ => ?_) (fun _ => ?_) | refine Fork.neg (fun _ => ?_) (fun _ => ?_) | refine Fork.mk (fun _ => ?_) (fun _ => ?_) | refine HAlt.mk ?_ ?_ | apply HJoin.mk3 | exact HEnd.mk rfl rfl rfl | refine HEnd.mk ?_ ?_ ?_ | refine Round.mk ?_ | refine NilQ.mk (fun b hb => ?_) | refine forceK_of ?_ | refine forceBx_of ?_ | refine unG_old ?_ | refine unG_gv ?_ | refine Lit.read rfl ?_ | refine FinVal.keep ?_ | refine FinAgg.keep ?_ | refine Final.mk rfl rfl | refine Final.mk ?_ rfl | refine Final.mk ?_ ?_ | refine FinalT.mk ?_ ?_ | refine FinalC.allA ?_)
    | refine AV.bool_congr ?_ | refine AV.int_congr ?_ | refine AV.str_congr ?_ | refine AV.list_congr ?_ | with_reducible rfl | refine fr1 ?_ | refine fr2 ?_ ?_
  conv => whnf
  refine ld_agg (by repeat' first | (refine at_here ?_; (try simp only [List.length_append, List.length_cons, List.length_nil, length_gb, nb_mk, Nat.zero_add, hB0l]) <;> omega) | exact hat0 | refine at_more ?_) (by first | exact Nat.le_of_ble_eq_true rfl | ((simp only [List.drop_zero, List.length_cons, List.length_nil, length_gvL]) <;> decide)) ?_
  repeat' first
    | contradiction | exact trivial
    | (conv => whnf
       first | refine Need.mk (fun h => h) ?_ | refine Need.mk rfl ?_ | refine Need.mk ⟨rfl, Nat.le_of_ble_eq_true rfl⟩ ?_ | refine Need.mk (Nat.le_of_ble_eq_true rfl) ?_ | refine Need.fin ?_ | refine Need.mk ?_ ?_ | refine Ix.strsF rfl ?_ | refine Ix.strs rfl ?_ ?_ | refine Cut.strs rfl ?_ ?_ | refine Ix.mapF (fun _ => rfl) ?_ | refine Ix.map (fun _ => rfl) ?_ ?_ | refine Cut.map (fun _ => rfl) ?_ ?_ | refine Fork.yes (by assumption) ?_ | refine Fork.no (by assumption) ?_ | refine Fork.decYes (by omega) ?_ | refine Fork.decNo (by omega) ?_ | refine Fork.dec (fun _ => ?_) (fun _ => ?_) | refine Fork.bne (fun _ => ?_) (fun _ => ?_) | refine Fork.beq (fun _ => ?_) (fun _ => ?_) | refine Fork.seq (fun _ => ?_) (fun _ => ?_) | refine Fork.sne (fun _ => ?_) (fun _ => ?_) | refine Fork.neg (fun _ => ?_) (fun _ => ?_) | refine Fork.mk (fun _ => ?_) (fun _ => ?_) | refine HAlt.mk ?_ ?_ | apply HJoin.mk3 | exact HEnd.mk rfl rfl rfl | refine HEnd.mk ?_ ?_ ?_ | refine Round.mk ?_ | refine NilQ.mk (fun b hb => ?_) | refine forceK_of ?_ | refine forceBx_of ?_ | refine unG_old ?_ | refine unG_gv ?_ | refine Lit.read rfl ?_ | refine FinVal.keep ?_ | refine FinAgg.keep ?_ | refine Final.mk rfl rfl | refine Final.mk ?_ rfl | refine Final.mk ?_ ?_ | refine FinalT.mk ?_ ?_ | refine FinalC.allA ?_)
    | refine AV.bool_congr ?_ | refine AV.int_congr ?_ | refine AV.str_congr ?_ | refine AV.list_congr ?_ | with_reducible rfl | refine fr1 ?_ | refine fr2 ?_ ?_
  conv => whnf
  refine ACall.unbN (1 + nb (.a [.s a0.1, .v (.int .i64 a0.2.1), X0_2, X0_3]) + 1) [old (.a [.s a0.1, .v (.int .i64 a0.2.1), X0_2, X0_3])] (G0) hp' (.cons (sees_gv (.a [.s a0.1, .v (.int .i64 a0.2.1), X0_2, X0_3]) _ (1) okX0 (by repeat' first | (refine BoxIn.here ?_; (try simp only [List.length_append, List.length_cons, List.length_nil, length_gb, nb_mk, Nat.zero_add, hB0l]) <;> omega) | refine BoxIn.more ?_ _)) .nil) (by (try simp only [List.length_append, List.length_cons, List.length_nil, length_gb, nb_mk, Nat.zero_add, hB0l]) <;> omega) ?_
  repeat' first
    | contradiction | exact trivial
    | (conv => whnf
       first | refine Need.mk (fun h => h) ?_ | refine Need.mk rfl ?_ | refine Need.mk ⟨rfl, Nat.le_of_ble_eq_true rfl⟩ ?_ | refine Need.mk (Nat.le_of_ble_eq_true rfl) ?_ | refine Need.fin ?_ | refine Need.mk ?_ ?_ | refine Ix.strsF rfl ?_ | refine Ix.strs rfl ?_ ?_ | refine Cut.strs rfl ?_ ?_ | refine Ix.mapF (fun _ => rfl) ?_ | refine Ix.map (fun _ => rfl) ?_ ?_ | refine Cut.map (fun _ => rfl) ?_ ?_ | refine Fork.yes (by assumption) ?_ | refine Fork.no (by assumption) ?_ | refine Fork.decYes (by omega) ?_ | refine Fork.decNo (by omega) ?_ | refine Fork.dec (fun _ => ?_) (fun _ => ?_) | refine Fork.bne (fun _ => ?_) (fun _ => ?_) | refine Fork.beq (fun _ => ?_) (fun _ => ?_) | refine Fork.seq (fun _ => ?_) (fun _ => ?_) | refine Fork.sne (fun _ => ?_) (fun _ => ?_) | refine Fork.neg (fun _ => ?_) (fun _ => ?_) | refine Fork.mk (fun _ => ?_) (fun _ => ?_) | refine HAlt.mk ?_ ?_ | apply HJoin.mk3 | exact HEnd.mk rfl rfl rfl | refine HEnd.mk ?_ ?_ ?_ | refine Round.mk ?_ | refine NilQ.mk (fun b hb => ?_) | refine forceK_of ?_ | refine forceBx_of ?_ | refine unG_old ?_ | refine unG_gv ?_ | refine Lit.read rfl ?_ | refine FinVal.keep ?_ | refine FinAgg.keep ?_ | refine Final.mk rfl rfl | refine Final.mk ?_ rfl | refine Final.mk ?_ ?_ | refine FinalT.mk ?_ ?_ | refine FinalC.allA ?_)
    | refine AV.bool_congr ?_ | refine AV.int_congr ?_ | refine AV.str_congr ?_ | refine AV.list_congr ?_ | with_reducible rfl | refine fr1 ?_ | refine fr2 ?_ ?_
  conv => whnf
  (try refine AGCall.scal ?_)
  first
    | refine ACall.scal [old (G0), old (G0)] _ heG0 rfl (.cons (sees_gv (G0) _ (1 + nb (.a [.s a0.1, .v (.int .i64 a0.2.1), X0_2, X0_3]) + 1) okG0 (by repeat' first | (refine BoxIn.here ?_; (try simp only [List.length_append, List.length_cons, List.length_nil, length_gb, nb_mk, Nat.zero_add, hB0l]) <;> omega) | refine BoxIn.more ?_ _)) (.cons (SeesB.of0 (Sees0.old (G0))) .nil)) ?_
    | refine AQCall.mk [old (G0), old (G0)] _ (fun _ => heG0) rfl (fun _ => .cons (sees_gv (G0) _ (1 + nb (.a [.s a0.1, .v (.int .i64 a0.2.1), X0_2, X0_3]) + 1) okG0 (by repeat' first | (refine BoxIn.here ?_; (try simp only [List.length_append, List.length_cons, List.length_nil, length_gb, nb_mk, Nat.zero_add, hB0l]) <;> omega) | refine BoxIn.more ?_ _)) (.cons (SeesB.of0 (Sees0.old (G0))) .nil)) ?_
  repeat' first
    | contradiction | exact trivial
    | (conv => whnf
       first | refine Need.mk (fun h => h) ?_ | refine Need.mk rfl ?_ | refine Need.mk ⟨rfl, Nat.le_of_ble_eq_true rfl⟩ ?_ | refine Need.mk (Nat.le_of_ble_eq_true rfl) ?_ | refine Need.fin ?_ | refine Need.mk ?_ ?_ | refine Ix.strsF rfl ?_ | refine Ix.strs rfl ?_ ?_ | refine Cut.strs rfl ?_ ?_ | refine Ix.mapF (fun _ => rfl) ?_ | refine Ix.map (fun _ => rfl) ?_ ?_ | refine Cut.map (fun _ => rfl) ?_ ?_ | refine Fork.yes (by assumption) ?_ | refine Fork.no (by assumption) ?_ | refine Fork.decYes (by omega) ?_ | refine Fork.decNo (by omega) ?_ | refine Fork.dec (fun _ => ?_) (fun _ => ?_) | refine Fork.bne (fun _ => ?_) (fun _ => ?_) | refine Fork.beq (fun _ => ?_) (fun _ => ?_) | refine Fork.seq (fun _ => ?_) (fun _ => ?_) | refine Fork.sne (fun _ => ?_) (fun _ => ?_) | refine Fork.neg (fun _ => ?_) (fun _ => ?_) | refine Fork.mk (fun _ => ?_) (fun _ => ?_) | refine HAlt.mk ?_ ?_ | apply HJoin.mk3 | exact HEnd.mk rfl rfl rfl | refine HEnd.mk ?_ ?_ ?_ | refine Round.mk ?_ | refine NilQ.mk (fun b hb => ?_) | refine forceK_of ?_ | refine forceBx_of ?_ | refine unG_old ?_ | refine unG_gv ?_ | refine Lit.read rfl ?_ | refine FinVal.keep ?_ | refine FinAgg.keep ?_ | refine Final.mk rfl rfl | refine Final.mk ?_ rfl | refine Final.mk ?_ ?_ | refine FinalT.mk ?_ ?_ | refine FinalC.allA ?_)
    | refine AV.bool_congr ?_ | refine AV.int_congr ?_ | refine AV.str_congr ?_ | refine AV.list_congr ?_ | with_reducible rfl | refine fr1 ?_ | refine fr2 ?_ ?_
  all_goals try (exfalso; rename_i hx; simp at hx; done)
  conv => whnf
  refine ld_agg (by repeat' first | (refine at_here ?_; (try simp only [List.length_append, List.length_cons, List.length_nil, length_gb, nb_mk, Nat.zero_add, hB0l]) <;> omega) | exact hat0 | refine at_more ?_) (by first | exact Nat.le_of_ble_eq_true rfl | ((simp only [List.drop_zero, List.length_cons, List.length_nil, length_gvL]) <;> decide)) ?_
  repeat' first
    | contradiction | exact trivial
    | (conv => whnf
       first | refine Need.mk (fun h => h) ?_ | refine Need.mk rfl ?_ | refine Need.mk ⟨rfl, Nat.le_of_ble_eq_true rfl⟩ ?_ | refine Need.mk (Nat.le_of_ble_eq_true rfl) ?_ | refine Need.fin ?_ | refine Need.mk ?_ ?_ | refine Ix.strsF rfl ?_ | refine Ix.strs rfl ?_ ?_ | refine Cut.strs rfl ?_ ?_ | refine Ix.mapF (fun _ => rfl) ?_ | refine Ix.map (fun _ => rfl) ?_ ?_ | refine Cut.map (fun _ => rfl) ?_ ?_ | refine Fork.yes (by assumption) ?_ | refine Fork.no (by assumption) ?_ | refine Fork.decYes (by omega) ?_ | refine Fork.decNo (by omega) ?_ | refine Fork.dec (fun _ => ?_) (fun _ => ?_) | refine Fork.bne (fun _ => ?_) (fun _ => ?_) | refine Fork.beq (fun _ => ?_) (fun _ => ?_) | refine Fork.seq (fun _ => ?_) (fun _ => ?_) | refine Fork.sne (fun _ => ?_) (fun _ => ?_) | refine Fork.neg (fun _ => ?_) (fun _ => ?_) | refine Fork.mk (fun _ => ?_) (fun _ => ?_) | refine HAlt.mk ?_ ?_ | apply HJoin.mk3 | exact HEnd.mk rfl rfl rfl | refine HEnd.mk ?_ ?_ ?_ | refine Round.mk ?_ | refine NilQ.mk (fun b hb => ?_) | refine forceK_of ?_ | refine forceBx_of ?_ | refine unG_old ?_ | refine unG_gv ?_ | refine Lit.read rfl ?_ | refine FinVal.keep ?_ | refine FinAgg.keep ?_ | refine Final.mk rfl rfl | refine Final.mk ?_ rfl | refine Final.mk ?_ ?_ | refine FinalT.mk ?_ ?_ | refine FinalC.allA ?_)
    | refine AV.bool_congr ?_ | refine AV.int_congr ?_ | refine AV.str_congr ?_ | refine AV.list_congr ?_ | with_reducible rfl | refine fr1 ?_ | refine fr2 ?_ ?_
  conv => whnf
  refine ld_agg (by repeat' first | (refine at_here ?_; (try simp only [List.length_append, List.length_cons, List.length_nil, length_gb, nb_mk, Nat.zero_add, hB0l]) <;> omega) | exact hat0 | refine at_more ?_) (by first | exact Nat.le_of_ble_eq_true rfl | ((simp only [List.drop_zero, List.length_cons, List.length_nil, length_gvL]) <;> decide)) ?_
  repeat' first
    | contradiction | exact trivial
    | (conv => whnf
       first | refine Need.mk (fun h => h) ?_ | refine Need.mk rfl ?_ | refine Need.mk ⟨rfl, Nat.le_of_ble_eq_true rfl⟩ ?_ | refine Need.mk (Nat.le_of_ble_eq_true rfl) ?_ | refine Need.fin ?_ | refine Need.mk ?_ ?_ | refine Ix.strsF rfl ?_ | refine Ix.strs rfl ?_ ?_ | refine Cut.strs rfl ?_ ?_ | refine Ix.mapF (fun _ => rfl) ?_ | refine Ix.map (fun _ => rfl) ?_ ?_ | refine Cut.map (fun _ => rfl) ?_ ?_ | refine Fork.yes (by assumption) ?_ | refine Fork.no (by assumption) ?_ | refine Fork.decYes (by omega) ?_ | refine Fork.decNo (by omega) ?_ | refine Fork.dec (fun _ => ?_) (fun _ => ?_) | refine Fork.bne (fun _ => ?_) (fun _ => ?_) | refine Fork.beq (fun _ => ?_) (fun _ => ?_) | refine Fork.seq (fun _ => ?_) (fun _ => ?_) | refine Fork.sne (fun _ => ?_) (fun _ => ?_) | refine Fork.neg (fun _ => ?_) (fun _ => ?_) | refine Fork.mk (fun _ => ?_) (fun _ => ?_) | refine HAlt.mk ?_ ?_ | apply HJoin.mk3 | exact HEnd.mk rfl rfl rfl | refine HEnd.mk ?_ ?_ ?_ | refine Round.mk ?_ | refine NilQ.mk (fun b hb => ?_) | refine forceK_of ?_ | refine forceBx_of ?_ | refine unG_old ?_ | refine unG_gv ?_ | refine Lit.read rfl ?_ | refine FinVal.keep ?_ | refine FinAgg.keep ?_ | refine Final.mk rfl rfl | refine Final.mk ?_ rfl | refine Final.mk ?_ ?_ | refine FinalT.mk ?_ ?_ | refine FinalC.allA ?_)
    | refine AV.bool_congr ?_ | refine AV.int_congr ?_ | refine AV.str_congr ?_ | refine AV.list_congr ?_ | with_reducible rfl | refine fr1 ?_ | refine fr2 ?_ ?_
  conv => whnf
  refine ACall.old [.agg (oldL (tRule.q a0))] (.a [.s a0.1, .v (.int .i64 a0.2.1), X0_2, X0_3]) hto0 (.cons (SeesB.of0 (Sees0.cut (ys := tRule.q a0) (by rfl))) .nil) okX0 ?_
  repeat' first
    | contradiction | exact trivial
    | (conv => whnf
       first | refine Need.mk (fun h => h) ?_ | refine Need.mk rfl ?_ | refine Need.mk ⟨rfl, Nat.le_of_ble_eq_true rfl⟩ ?_ | refine Need.mk (Nat.le_of_ble_eq_true rfl) ?_ | refine Need.fin ?_ | refine Need.mk ?_ ?_ | refine Ix.strsF rfl ?_ | refine Ix.strs rfl ?_ ?_ | refine Cut.strs rfl ?_ ?_ | refine Ix.mapF (fun _ => rfl) ?_ | refine Ix.map (fun _ => rfl) ?_ ?_ | refine Cut.map (fun _ => rfl) ?_ ?_ | refine Fork.yes (by assumption) ?_ | refine Fork.no (by assumption) ?_ | refine Fork.decYes (by omega) ?_ | refine Fork.decNo (by omega) ?_ | refine Fork.dec (fun _ => ?_) (fun _ => ?_) | refine Fork.bne (fun _ => ?_) (fun _ => ?_) | refine Fork.beq (fun _ => ?_) (fun _ => ?_) | refine Fork.seq (fun _ => ?_) (fun _ => ?_) | refine Fork.sne (fun _ => ?_) (fun _ => ?_) | refine Fork.neg (fun _ => ?_) (fun _ => ?_) | refine Fork.mk (fun _ => ?_) (fun _ => ?_) | refine HAlt.mk ?_ ?_ | apply HJoin.mk3 | exact HEnd.mk rfl rfl rfl | refine HEnd.mk ?_ ?_ ?_ | refine Round.mk ?_ | refine NilQ.mk (fun b hb => ?_) | refine forceK_of ?_ | refine forceBx_of ?_ | refine unG_old ?_ | refine unG_gv ?_ | refine Lit.read rfl ?_ | refine FinVal.keep ?_ | refine FinAgg.keep ?_ | refine Final.mk rfl rfl | refine Final.mk ?_ rfl | refine Final.mk ?_ ?_ | refine FinalT.mk ?_ ?_ | refine FinalC.allA ?_)
    | refine AV.bool_congr ?_ | refine AV.int_congr ?_ | refine AV.str_congr ?_ | refine AV.list_congr ?_ | with_reducible rfl | refine fr1 ?_ | refine fr2 ?_ ?_
  conv => whnf
  refine ACall.scal [old (.a [.s a0.1, .v (.int .i64 a0.2.1), X0_2, X0_3]), old (.a [.s a0.1, .v (.int .i64 a0.2.1), X0_2, X0_3])] _ heX0 rfl (.cons (sees_gv (.a [.s a0.1, .v (.int .i64 a0.2.1), X0_2, X0_3]) _ (1) okX0 (by repeat' first | (refine BoxIn.here ?_; (try simp only [List.length_append, List.length_cons, List.length_nil, length_gb, nb_mk, Nat.zero_add, hB0l]) <;> omega) | refine BoxIn.more ?_ _)) (.cons (SeesB.of0 (Sees0.old (.a [.s a0.1, .v (.int .i64 a0.2.1), X0_2, X0_3]))) .nil)) ?_
  repeat' first
    | contradiction | exact trivial
    | (conv => whnf
       first | refine Need.mk (fun h => h) ?_ | refine Need.mk rfl ?_ | refine Need.mk ⟨rfl, Nat.le_of_ble_eq_true rfl⟩ ?_ | refine Need.mk (Nat.le_of_ble_eq_true rfl) ?_ | refine Need.fin ?_ | refine Need.mk ?_ ?_ | refine Ix.strsF rfl ?_ | refine Ix.strs rfl ?_ ?_ | refine Cut.strs rfl ?_ ?_ | refine Ix.mapF (fun _ => rfl) ?_ | refine Ix.map (fun _ => rfl) ?_ ?_ | refine Cut.map (fun _ => rfl) ?_ ?_ | refine Fork.yes (by assumption) ?_ | refine Fork.no (by assumption) ?_ | refine Fork.decYes (by omega) ?_ | refine Fork.decNo (by omega) ?_ | refine Fork.dec (fun _ => ?_) (fun _ => ?_) | refine Fork.bne (fun _ => ?_) (fun _ => ?_) | refine Fork.beq (fun _ => ?_) (fun _ => ?_) | refine Fork.seq (fun _ => ?_) (fun _ => ?_) | refine Fork.sne (fun _ => ?_) (fun _ => ?_) | refine Fork.neg (fun _ => ?_) (fun _ => ?_) | refine Fork.mk (fun _ => ?_) (fun _ => ?_) | refine HAlt.mk ?_ ?_ | apply HJoin.mk3 | exact HEnd.mk rfl rfl rfl | refine HEnd.mk ?_ ?_ ?_ | refine Round.mk ?_ | refine NilQ.mk (fun b hb => ?_) | refine forceK_of ?_ | refine forceBx_of ?_ | refine unG_old ?_ | refine unG_gv ?_ | refine Lit.read rfl ?_ | refine FinVal.keep ?_ | refine FinAgg.keep ?_ | refine Final.mk rfl rfl | refine Final.mk ?_ rfl | refine Final.mk ?_ ?_ | refine FinalT.mk ?_ ?_ | refine FinalC.allA ?_)
    | refine AV.bool_congr ?_ | refine AV.int_congr ?_ | refine AV.str_congr ?_ | refine AV.list_congr ?_ | with_reducible rfl | refine fr1 ?_ | refine fr2 ?_ ?_
  conv => whnf
  refine ld_agg (by repeat' first | (refine at_here ?_; (try simp only [List.length_append, List.length_cons, List.length_nil, length_gb, nb_mk, Nat.zero_add, hB0l]) <;> omega) | exact hat0 | refine at_more ?_) (by first | exact Nat.le_of_ble_eq_true rfl | ((simp only [List.drop_zero, List.length_cons, List.length_nil, length_gvL]) <;> decide)) ?_
  repeat' first
    | contradiction | exact trivial
    | (conv => whnf
       first | refine Need.mk (fun h => h) ?_ | refine Need.mk rfl ?_ | refine Need.mk ⟨rfl, Nat.le_of_ble_eq_true rfl⟩ ?_ | refine Need.mk (Nat.le_of_ble_eq_true rfl) ?_ | refine Need.fin ?_ | refine Need.mk ?_ ?_ | refine Ix.strsF rfl ?_ | refine Ix.strs rfl ?_ ?_ | refine Cut.strs rfl ?_ ?_ | refine Ix.mapF (fun _ => rfl) ?_ | refine Ix.map (fun _ => rfl) ?_ ?_ | refine Cut.map (fun _ => rfl) ?_ ?_ | refine Fork.yes (by assumption) ?_ | refine Fork.no (by assumption) ?_ | refine Fork.decYes (by omega) ?_ | refine Fork.decNo (by omega) ?_ | refine Fork.dec (fun _ => ?_) (fun _ => ?_) | refine Fork.bne (fun _ => ?_) (fun _ => ?_) | refine Fork.beq (fun _ => ?_) (fun _ => ?_) | refine Fork.seq (fun _ => ?_) (fun _ => ?_) | refine Fork.sne (fun _ => ?_) (fun _ => ?_) | refine Fork.neg (fun _ => ?_) (fun _ => ?_) | refine Fork.mk (fun _ => ?_) (fun _ => ?_) | refine HAlt.mk ?_ ?_ | apply HJoin.mk3 | exact HEnd.mk rfl rfl rfl | refine HEnd.mk ?_ ?_ ?_ | refine Round.mk ?_ | refine NilQ.mk (fun b hb => ?_) | refine forceK_of ?_ | refine forceBx_of ?_ | refine unG_old ?_ | refine unG_gv ?_ | refine Lit.read rfl ?_ | refine FinVal.keep ?_ | refine FinAgg.keep ?_ | refine Final.mk rfl rfl | refine Final.mk ?_ rfl | refine Final.mk ?_ ?_ | refine FinalT.mk ?_ ?_ | refine FinalC.allA ?_)
    | refine AV.bool_congr ?_ | refine AV.int_congr ?_ | refine AV.str_congr ?_ | refine AV.list_congr ?_ | with_reducible rfl | refine fr1 ?_ | refine fr2 ?_ ?_
  conv => whnf
  refine ACall.turnT (1) _ [gv (.a [.s a0.1, .v (.int .i64 a0.2.1), X0_2, X0_3]) 0, .val (.int .i64 ((1 : Nat)))] (.a [.s a0.1, .v (.int .i64 a0.2.1), X0_2, X0_3]) (mk (.a [.s a0.1, .v (.int .i64 a0.2.1), X0_2, X0_3]) (1)) _ hmX0 rfl (nb_mk _ _) (.cons (.inl ⟨rfl, rfl⟩) (.cons (.inr (Sees0.val _)) .nil)) (by repeat' first | (refine TAt.here ?_; (try simp only [List.length_append, List.length_cons, List.length_nil, length_gb, nb_mk, Nat.zero_add, hB0l]) <;> omega) | apply TAt.more) ?_
  repeat' first
    | contradiction | exact trivial
    | (conv => whnf
       first | refine Need.mk (fun h => h) ?_ | refine Need.mk rfl ?_ | refine Need.mk ⟨rfl, Nat.le_of_ble_eq_true rfl⟩ ?_ | refine Need.mk (Nat.le_of_ble_eq_true rfl) ?_ | refine Need.fin ?_ | refine Need.mk ?_ ?_ | refine Ix.strsF rfl ?_ | refine Ix.strs rfl ?_ ?_ | refine Cut.strs rfl ?_ ?_ | refine Ix.mapF (fun _ => rfl) ?_ | refine Ix.map (fun _ => rfl) ?_ ?_ | refine Cut.map (fun _ => rfl) ?_ ?_ | refine Fork.yes (by assumption) ?_ | refine Fork.no (by assumption) ?_ | refine Fork.decYes (by omega) ?_ | refine Fork.decNo (by omega) ?_ | refine Fork.dec (fun _ => ?_) (fun _ => ?_) | refine Fork.bne (fun _ => ?_) (fun _ => ?_) | refine Fork.beq (fun _ => ?_) (fun _ => ?_) | refine Fork.seq (fun _ => ?_) (fun _ => ?_) | refine Fork.sne (fun _ => ?_) (fun _ => ?_) | refine Fork.neg (fun _ => ?_) (fun _ => ?_) | refine Fork.mk (fun _ => ?_) (fun _ => ?_) | refine HAlt.mk ?_ ?_ | apply HJoin.mk3 | exact HEnd.mk rfl rfl rfl | refine HEnd.mk ?_ ?_ ?_ | refine Round.mk ?_ | refine NilQ.mk (fun b hb => ?_) | refine forceK_of ?_ | refine forceBx_of ?_ | refine unG_old ?_ | refine unG_gv ?_ | refine Lit.read rfl ?_ | refine FinVal.keep ?_ | refine FinAgg.keep ?_ | refine Final.mk rfl rfl | refine Final.mk ?_ rfl | refine Final.mk ?_ ?_ | refine FinalT.mk ?_ ?_ | refine FinalC.allA ?_)
    | refine AV.bool_congr ?_ | refine AV.int_congr ?_ | refine AV.str_congr ?_ | refine AV.list_congr ?_ | with_reducible rfl | refine fr1 ?_ | refine fr2 ?_ ?_
  conv => whnf
  (try refine AGCall.scal ?_)
  first
    | refine ACall.scal [old (G0), old (G0)] _ heG0 rfl (.cons (sees_gv (G0) _ (1 + nb (.a [.s a0.1, .v (.int .i64 a0.2.1), X0_2, X0_3]) + 1) okG0 (by repeat' first | (refine BoxIn.here ?_; (try simp only [List.length_append, List.length_cons, List.length_nil, length_gb, nb_mk, Nat.zero_add, hB0l]) <;> omega) | refine BoxIn.more ?_ _)) (.cons (SeesB.of0 (Sees0.old (G0))) .nil)) ?_
    | refine AQCall.mk [old (G0), old (G0)] _ (fun _ => heG0) rfl (fun _ => .cons (sees_gv (G0) _ (1 + nb (.a [.s a0.1, .v (.int .i64 a0.2.1), X0_2, X0_3]) + 1) okG0 (by repeat' first | (refine BoxIn.here ?_; (try simp only [List.length_append, List.length_cons, List.length_nil, length_gb, nb_mk, Nat.zero_add, hB0l]) <;> omega) | refine BoxIn.more ?_ _)) (.cons (SeesB.of0 (Sees0.old (G0))) .nil)) ?_
  repeat' first
    | contradiction | exact trivial
    | (conv => whnf
       first | refine Need.mk (fun h => h) ?_ | refine Need.mk rfl ?_ | refine Need.mk ⟨rfl, Nat.le_of_ble_eq_true rfl⟩ ?_ | refine Need.mk (Nat.le_of_ble_eq_true rfl) ?_ | refine Need.fin ?_ | refine Need.mk ?_ ?_ | refine Ix.strsF rfl ?_ | refine Ix.strs rfl ?_ ?_ | refine Cut.strs rfl ?_ ?_ | refine Ix.mapF (fun _ => rfl) ?_ | refine Ix.map (fun _ => rfl) ?_ ?_ | refine Cut.map (fun _ => rfl) ?_ ?_ | refine Fork.yes (by assumption) ?_ | refine Fork.no (by assumption) ?_ | refine Fork.decYes (by omega) ?_ | refine Fork.decNo (by omega) ?_ | refine Fork.dec (fun _ => ?_) (fun _ => ?_) | refine Fork.bne (fun _ => ?_) (fun _ => ?_) | refine Fork.beq (fun _ => ?_) (fun _ => ?_) | refine Fork.seq (fun _ => ?_) (fun _ => ?_) | refine Fork.sne (fun _ => ?_) (fun _ => ?_) | refine Fork.neg (fun _ => ?_) (fun _ => ?_) | refine Fork.mk (fun _ => ?_) (fun _ => ?_) | refine HAlt.mk ?_ ?_ | apply HJoin.mk3 | exact HEnd.mk rfl rfl rfl | refine HEnd.mk ?_ ?_ ?_ | refine Round.mk ?_ | refine NilQ.mk (fun b hb => ?_) | refine forceK_of ?_ | refine forceBx_of ?_ | refine unG_old ?_ | refine unG_gv ?_ | refine Lit.read rfl ?_ | refine FinVal.keep ?_ | refine FinAgg.keep ?_ | refine Final.mk rfl rfl | refine Final.mk ?_ rfl | refine Final.mk ?_ ?_ | refine FinalT.mk ?_ ?_ | refine FinalC.allA ?_)
    | refine AV.bool_congr ?_ | refine AV.int_congr ?_ | refine AV.str_congr ?_ | refine AV.list_congr ?_ | with_reducible rfl | refine fr1 ?_ | refine fr2 ?_ ?_
  all_goals try (exfalso; rename_i hx; simp at hx; done)
  conv => whnf
  refine ACall.turnT (1 + nb (.a [.s a0.1, .v (.int .i64 a0.2.1), X0_2, X0_3]) + 1) _ [gv (G0) 0, .val (.int .i64 ((1 : Nat)))] (G0) (mk (G0) (1)) _ hmG0 rfl (nb_mk _ _) (.cons (.inl ⟨rfl, rfl⟩) (.cons (.inr (Sees0.val _)) .nil)) (by repeat' first | (refine TAt.here ?_; (try simp only [List.length_append, List.length_cons, List.length_nil, length_gb, nb_mk, Nat.zero_add, hB0l]) <;> omega) | apply TAt.more) ?_
  repeat' first
    | contradiction | exact trivial
    | (conv => whnf
       first | refine Need.mk (fun h => h) ?_ | refine Need.mk rfl ?_ | refine Need.mk ⟨rfl, Nat.le_of_ble_eq_true rfl⟩ ?_ | refine Need.mk (Nat.le_of_ble_eq_true rfl) ?_ | refine Need.fin ?_ | refine Need.mk ?_ ?_ | refine Ix.strsF rfl ?_ | refine Ix.strs rfl ?_ ?_ | refine Cut.strs rfl ?_ ?_ | refine Ix.mapF (fun _ => rfl) ?_ | refine Ix.map (fun _ => rfl) ?_ ?_ | refine Cut.map (fun _ => rfl) ?_ ?_ | refine Fork.yes (by assumption) ?_ | refine Fork.no (by assumption) ?_ | refine Fork.decYes (by omega) ?_ | refine Fork.decNo (by omega) ?_ | refine Fork.dec (fun _ => ?_) (fun _ => ?_) | refine Fork.bne (fun _ => ?_) (fun _ => ?_) | refine Fork.beq (fun _ => ?_) (fun _ => ?_) | refine Fork.seq (fun _ => ?_) (fun _ => ?_) | refine Fork.sne (fun _ => ?_) (fun _ => ?_) | refine Fork.neg (fun _ => ?_) (fun _ => ?_) | refine Fork.mk (fun _ => ?_) (fun _ => ?_) | refine HAlt.mk ?_ ?_ | apply HJoin.mk3 | exact HEnd.mk rfl rfl rfl | refine HEnd.mk ?_ ?_ ?_ | refine Round.mk ?_ | refine NilQ.mk (fun b hb => ?_) | refine forceK_of ?_ | refine forceBx_of ?_ | refine unG_old ?_ | refine unG_gv ?_ | refine Lit.read rfl ?_ | refine FinVal.keep ?_ | refine FinAgg.keep ?_ | refine Final.mk rfl rfl | refine Final.mk ?_ rfl | refine Final.mk ?_ ?_ | refine FinalT.mk ?_ ?_ | refine FinalC.allA ?_)
    | refine AV.bool_congr ?_ | refine AV.int_congr ?_ | refine AV.str_congr ?_ | refine AV.list_congr ?_ | with_reducible rfl | refine fr1 ?_ | refine fr2 ?_ ?_
  conv => whnf
  refine ACall.scal [old (mk (G0) (1)), .val (.int .i64 ((1 : Nat)))] _ hhG0 rfl (.cons (sees_mk (G0) (1) _ (1 + nb (.a [.s a0.1, .v (.int .i64 a0.2.1), X0_2, X0_3]) + 1) okG0 (by repeat' first | (refine BoxIn.here ?_; (try simp only [List.length_append, List.length_cons, List.length_nil, length_gb, nb_mk, Nat.zero_add, hB0l]) <;> omega) | refine BoxIn.more ?_ _)) (.cons (SeesB.of0 (Sees0.val _)) .nil)) ?_
  repeat' first
    | contradiction | exact trivial
    | (conv => whnf
       first | refine Need.mk (fun h => h) ?_ | refine Need.mk rfl ?_ | refine Need.mk ⟨rfl, Nat.le_of_ble_eq_true rfl⟩ ?_ | refine Need.mk (Nat.le_of_ble_eq_true rfl) ?_ | refine Need.fin ?_ | refine Need.mk ?_ ?_ | refine Ix.strsF rfl ?_ | refine Ix.strs rfl ?_ ?_ | refine Cut.strs rfl ?_ ?_ | refine Ix.mapF (fun _ => rfl) ?_ | refine Ix.map (fun _ => rfl) ?_ ?_ | refine Cut.map (fun _ => rfl) ?_ ?_ | refine Fork.yes (by assumption) ?_ | refine Fork.no (by assumption) ?_ | refine Fork.decYes (by omega) ?_ | refine Fork.decNo (by omega) ?_ | refine Fork.dec (fun _ => ?_) (fun _ => ?_) | refine Fork.bne (fun _ => ?_) (fun _ => ?_) | refine Fork.beq (fun _ => ?_) (fun _ => ?_) | refine Fork.seq (fun _ => ?_) (fun _ => ?_) | refine Fork.sne (fun _ => ?_) (fun _ => ?_) | refine Fork.neg (fun _ => ?_) (fun _ => ?_) | refine Fork.mk (fun _ => ?_) (fun _ => ?_) | refine HAlt.mk ?_ ?_ | apply HJoin.mk3 | exact HEnd.mk rfl rfl rfl | refine HEnd.mk ?_ ?_ ?_ | refine Round.mk ?_ | refine NilQ.mk (fun b hb => ?_) | refine forceK_of ?_ | refine forceBx_of ?_ | refine unG_old ?_ | refine unG_gv ?_ | refine Lit.read rfl ?_ | refine FinVal.keep ?_ | refine FinAgg.keep ?_ | refine Final.mk rfl rfl | refine Final.mk ?_ rfl | refine Final.mk ?_ ?_ | refine FinalT.mk ?_ ?_ | refine FinalC.allA ?_)
    | refine AV.bool_congr ?_ | refine AV.int_congr ?_ | refine AV.str_congr ?_ | refine AV.list_congr ?_ | with_reducible rfl | refine fr1 ?_ | refine fr2 ?_ ?_
  conv => whnf
  refine ld_agg (by repeat' first | (refine at_here ?_; (try simp only [List.length_append, List.length_cons, List.length_nil, length_gb, nb_mk, Nat.zero_add, hB0l]) <;> omega) | exact hat0 | refine at_more ?_) (by first | exact Nat.le_of_ble_eq_true rfl | ((simp only [List.drop_zero, List.length_cons, List.length_nil, length_gvL]) <;> decide)) ?_
  repeat' first
    | contradiction | exact trivial
    | (conv => whnf
       first | refine Need.mk (fun h => h) ?_ | refine Need.mk rfl ?_ | refine Need.mk ⟨rfl, Nat.le_of_ble_eq_true rfl⟩ ?_ | refine Need.mk (Nat.le_of_ble_eq_true rfl) ?_ | refine Need.fin ?_ | refine Need.mk ?_ ?_ | refine Ix.strsF rfl ?_ | refine Ix.strs rfl ?_ ?_ | refine Cut.strs rfl ?_ ?_ | refine Ix.mapF (fun _ => rfl) ?_ | refine Ix.map (fun _ => rfl) ?_ ?_ | refine Cut.map (fun _ => rfl) ?_ ?_ | refine Fork.yes (by assumption) ?_ | refine Fork.no (by assumption) ?_ | refine Fork.decYes (by omega) ?_ | refine Fork.decNo (by omega) ?_ | refine Fork.dec (fun _ => ?_) (fun _ => ?_) | refine Fork.bne (fun _ => ?_) (fun _ => ?_) | refine Fork.beq (fun _ => ?_) (fun _ => ?_) | refine Fork.seq (fun _ => ?_) (fun _ => ?_) | refine Fork.sne (fun _ => ?_) (fun _ => ?_) | refine Fork.neg (fun _ => ?_) (fun _ => ?_) | refine Fork.mk (fun _ => ?_) (fun _ => ?_) | refine HAlt.mk ?_ ?_ | apply HJoin.mk3 | exact HEnd.mk rfl rfl rfl | refine HEnd.mk ?_ ?_ ?_ | refine Round.mk ?_ | refine NilQ.mk (fun b hb => ?_) | refine forceK_of ?_ | refine forceBx_of ?_ | refine unG_old ?_ | refine unG_gv ?_ | refine Lit.read rfl ?_ | refine FinVal.keep ?_ | refine FinAgg.keep ?_ | refine Final.mk rfl rfl | refine Final.mk ?_ rfl | refine Final.mk ?_ ?_ | refine FinalT.mk ?_ ?_ | refine FinalC.allA ?_)
    | refine AV.bool_congr ?_ | refine AV.int_congr ?_ | refine AV.str_congr ?_ | refine AV.list_congr ?_ | with_reducible rfl | refine fr1 ?_ | refine fr2 ?_ ?_
  conv => whnf
  refine ACall.old [.agg (oldL (tRule.q a0))] (.a [.s a0.1, .v (.int .i64 a0.2.1), X0_2, X0_3]) hto0 (.cons (SeesB.of0 (Sees0.cut (ys := tRule.q a0) (by rfl))) .nil) okX0 ?_
  repeat' first
    | contradiction | exact trivial
    | (conv => whnf
       first | refine Need.mk (fun h => h) ?_ | refine Need.mk rfl ?_ | refine Need.mk ⟨rfl, Nat.le_of_ble_eq_true rfl⟩ ?_ | refine Need.mk (Nat.le_of_ble_eq_true rfl) ?_ | refine Need.fin ?_ | refine Need.mk ?_ ?_ | refine Ix.strsF rfl ?_ | refine Ix.strs rfl ?_ ?_ | refine Cut.strs rfl ?_ ?_ | refine Ix.mapF (fun _ => rfl) ?_ | refine Ix.map (fun _ => rfl) ?_ ?_ | refine Cut.map (fun _ => rfl) ?_ ?_ | refine Fork.yes (by assumption) ?_ | refine Fork.no (by assumption) ?_ | refine Fork.decYes (by omega) ?_ | refine Fork.decNo (by omega) ?_ | refine Fork.dec (fun _ => ?_) (fun _ => ?_) | refine Fork.bne (fun _ => ?_) (fun _ => ?_) | refine Fork.beq (fun _ => ?_) (fun _ => ?_) | refine Fork.seq (fun _ => ?_) (fun _ => ?_) | refine Fork.sne (fun _ => ?_) (fun _ => ?_) | refine Fork.neg (fun _ => ?_) (fun _ => ?_) | refine Fork.mk (fun _ => ?_) (fun _ => ?_) | refine HAlt.mk ?_ ?_ | apply HJoin.mk3 | exact HEnd.mk rfl rfl rfl | refine HEnd.mk ?_ ?_ ?_ | refine Round.mk ?_ | refine NilQ.mk (fun b hb => ?_) | refine forceK_of ?_ | refine forceBx_of ?_ | refine unG_old ?_ | refine unG_gv ?_ | refine Lit.read rfl ?_ | refine FinVal.keep ?_ | refine FinAgg.keep ?_ | refine Final.mk rfl rfl | refine Final.mk ?_ rfl | refine Final.mk ?_ ?_ | refine FinalT.mk ?_ ?_ | refine FinalC.allA ?_)
    | refine AV.bool_congr ?_ | refine AV.int_congr ?_ | refine AV.str_congr ?_ | refine AV.list_congr ?_ | with_reducible rfl | refine fr1 ?_ | refine fr2 ?_ ?_
  conv => whnf
  refine ACall.old [old (.a [.s a0.1, .v (.int .i64 a0.2.1), X0_2, X0_3])] (G0) hp' (.cons (SeesB.of0 (Sees0.old (.a [.s a0.1, .v (.int .i64 a0.2.1), X0_2, X0_3]))) .nil) okR ?_
  repeat' first
    | contradiction | exact trivial
    | (conv => whnf
       first | refine Need.mk (fun h => h) ?_ | refine Need.mk rfl ?_ | refine Need.mk ⟨rfl, Nat.le_of_ble_eq_true rfl⟩ ?_ | refine Need.mk (Nat.le_of_ble_eq_true rfl) ?_ | refine Need.fin ?_ | refine Need.mk ?_ ?_ | refine Ix.strsF rfl ?_ | refine Ix.strs rfl ?_ ?_ | refine Cut.strs rfl ?_ ?_ | refine Ix.mapF (fun _ => rfl) ?_ | refine Ix.map (fun _ => rfl) ?_ ?_ | refine Cut.map (fun _ => rfl) ?_ ?_ | refine Fork.yes (by assumption) ?_ | refine Fork.no (by assumption) ?_ | refine Fork.decYes (by omega) ?_ | refine Fork.decNo (by omega) ?_ | refine Fork.dec (fun _ => ?_) (fun _ => ?_) | refine Fork.bne (fun _ => ?_) (fun _ => ?_) | refine Fork.beq (fun _ => ?_) (fun _ => ?_) | refine Fork.seq (fun _ => ?_) (fun _ => ?_) | refine Fork.sne (fun _ => ?_) (fun _ => ?_) | refine Fork.neg (fun _ => ?_) (fun _ => ?_) | refine Fork.mk (fun _ => ?_) (fun _ => ?_) | refine HAlt.mk ?_ ?_ | apply HJoin.mk3 | exact HEnd.mk rfl rfl rfl | refine HEnd.mk ?_ ?_ ?_ | refine Round.mk ?_ | refine NilQ.mk (fun b hb => ?_) | refine forceK_of ?_ | refine forceBx_of ?_ | refine unG_old ?_ | refine unG_gv ?_ | refine Lit.read rfl ?_ | refine FinVal.keep ?_ | refine FinAgg.keep ?_ | refine Final.mk rfl rfl | refine Final.mk ?_ rfl | refine Final.mk ?_ ?_ | refine FinalT.mk ?_ ?_ | refine FinalC.allA ?_)
    | refine AV.bool_congr ?_ | refine AV.int_congr ?_ | refine AV.str_congr ?_ | refine AV.list_congr ?_ | with_reducible rfl | refine fr1 ?_ | refine fr2 ?_ ?_
  conv => whnf
  (try refine AGCall.scal ?_)
  first
    | refine ACall.scal [old (G0), old (G0)] _ heG0 rfl (.cons (SeesB.of0 (Sees0.old (G0))) (.cons (SeesB.of0 (Sees0.old (G0))) .nil)) ?_
    | refine AQCall.mk [old (G0), old (G0)] _ (fun _ => heG0) rfl (fun _ => .cons (SeesB.of0 (Sees0.old (G0))) (.cons (SeesB.of0 (Sees0.old (G0))) .nil)) ?_
  repeat' first
    | contradiction | exact trivial
    | (conv => whnf
       first | refine Need.mk (fun h => h) ?_ | refine Need.mk rfl ?_ | refine Need.mk ⟨rfl, Nat.le_of_ble_eq_true rfl⟩ ?_ | refine Need.mk (Nat.le_of_ble_eq_true rfl) ?_ | refine Need.fin ?_ | refine Need.mk ?_ ?_ | refine Ix.strsF rfl ?_ | refine Ix.strs rfl ?_ ?_ | refine Cut.strs rfl ?_ ?_ | refine Ix.mapF (fun _ => rfl) ?_ | refine Ix.map (fun _ => rfl) ?_ ?_ | refine Cut.map (fun _ => rfl) ?_ ?_ | refine Fork.yes (by assumption) ?_ | refine Fork.no (by assumption) ?_ | refine Fork.decYes (by omega) ?_ | refine Fork.decNo (by omega) ?_ | refine Fork.dec (fun _ => ?_) (fun _ => ?_) | refine Fork.bne (fun _ => ?_) (fun _ => ?_) | refine Fork.beq (fun _ => ?_) (fun _ => ?_) | refine Fork.seq (fun _ => ?_) (fun _ => ?_) | refine Fork.sne (fun _ => ?_) (fun _ => ?_) | refine Fork.neg (fun _ => ?_) (fun _ => ?_) | refine Fork.mk (fun _ => ?_) (fun _ => ?_) | refine HAlt.mk ?_ ?_ | apply HJoin.mk3 | exact HEnd.mk rfl rfl rfl | refine HEnd.mk ?_ ?_ ?_ | refine Round.mk ?_ | refine NilQ.mk (fun b hb => ?_) | refine forceK_of ?_ | refine forceBx_of ?_ | refine unG_old ?_ | refine unG_gv ?_ | refine Lit.read rfl ?_ | refine FinVal.keep ?_ | refine FinAgg.keep ?_ | refine Final.mk rfl rfl | refine Final.mk ?_ rfl | refine Final.mk ?_ ?_ | refine FinalT.mk ?_ ?_ | refine FinalC.allA ?_)
    | refine AV.bool_congr ?_ | refine AV.int_congr ?_ | refine AV.str_congr ?_ | refine AV.list_congr ?_ | with_reducible rfl | refine fr1 ?_ | refine fr2 ?_ ?_
  all_goals try (exfalso; rename_i hx; simp at hx; done)
  conv => whnf
  refine ACall.scal [old (mk (G0) (1)), .val (.int .i64 ((1 : Nat)))] _ hhG0 rfl (.cons (sees_mk (G0) (1) _ (1 + nb (.a [.s a0.1, .v (.int .i64 a0.2.1), X0_2, X0_3]) + 1) okG0 (by repeat' first | (refine BoxIn.here ?_; (try simp only [List.length_append, List.length_cons, List.length_nil, length_gb, nb_mk, Nat.zero_add, hB0l]) <;> omega) | refine BoxIn.more ?_ _)) (.cons (SeesB.of0 (Sees0.val _)) .nil)) ?_
  repeat' first
    | contradiction | exact trivial
    | (conv => whnf
       first | refine Need.mk (fun h => h) ?_ | refine Need.mk rfl ?_ | refine Need.mk ⟨rfl, Nat.le_of_ble_eq_true rfl⟩ ?_ | refine Need.mk (Nat.le_of_ble_eq_true rfl) ?_ | refine Need.fin ?_ | refine Need.mk ?_ ?_ | refine Ix.strsF rfl ?_ | refine Ix.strs rfl ?_ ?_ | refine Cut.strs rfl ?_ ?_ | refine Ix.mapF (fun _ => rfl) ?_ | refine Ix.map (fun _ => rfl) ?_ ?_ | refine Cut.map (fun _ => rfl) ?_ ?_ | refine Fork.yes (by assumption) ?_ | refine Fork.no (by assumption) ?_ | refine Fork.decYes (by omega) ?_ | refine Fork.decNo (by omega) ?_ | refine Fork.dec (fun _ => ?_) (fun _ => ?_) | refine Fork.bne (fun _ => ?_) (fun _ => ?_) | refine Fork.beq (fun _ => ?_) (fun _ => ?_) | refine Fork.seq (fun _ => ?_) (fun _ => ?_) | refine Fork.sne (fun _ => ?_) (fun _ => ?_) | refine Fork.neg (fun _ => ?_) (fun _ => ?_) | refine Fork.mk (fun _ => ?_) (fun _ => ?_) | refine HAlt.mk ?_ ?_ | apply HJoin.mk3 | exact HEnd.mk rfl rfl rfl | refine HEnd.mk ?_ ?_ ?_ | refine Round.mk ?_ | refine NilQ.mk (fun b hb => ?_) | refine forceK_of ?_ | refine forceBx_of ?_ | refine unG_old ?_ | refine unG_gv ?_ | refine Lit.read rfl ?_ | refine FinVal.keep ?_ | refine FinAgg.keep ?_ | refine Final.mk rfl rfl | refine Final.mk ?_ rfl | refine Final.mk ?_ ?_ | refine FinalT.mk ?_ ?_ | refine FinalC.allA ?_)
    | refine AV.bool_congr ?_ | refine AV.int_congr ?_ | refine AV.str_congr ?_ | refine AV.list_congr ?_ | with_reducible rfl | refine fr1 ?_ | refine fr2 ?_ ?_
end Go.Proofs.Ytimcfgokocihnaa
namespace Go.Proofs.Ytimcfgokocihnaa
namespace Abs
theorem FinalC.all {Φ : AV → List ABox → Fr → Prop} {r : AV} {b : List ABox} {f : Fr} (h : Lends b b) (hk : Φ r b f) : FinalC Φ r b f := ⟨b, h, hk⟩
theorem FinalC.allA {Φ : AV → List ABox → Fr → Prop} {r : AV} {b : List ABox} {f : Fr} (hk : Φ r b f) (h : Lends b b := by repeat' first | exact Lends.nil | refine Lends.map _ ?_ | refine Lends.lend _ _ (by first | exact hx.1 | exact hy.1 | exact noTk_old _ | (intro c hc; rw [List.mem_singleton.1 hc]; rfl) | (intro c hc; cases hc; done)) ?_) : FinalC Φ r b f := ⟨b, h, hk⟩
section
variable {mo : Bool} {P : Program}
theorem own_post {B : Nat} {w' : World} {F' : Nat → Nat} {tok : List (Option Nat)} {box : List BId} {frs : Fr} {x : Tr} {r : AV} {v : Value} {ts : List Nat} (hrep : Rep B w' F' tok frs box r v) (ho : OwnA frs [x] [r] ts) (hn : ts.Nodup)
    (htin : ∀ (k b : Nat), tok[k]? = some (some b) → B ≤ b ∧ b < w'.heap.size) (htinj : ∀ (k l b : Nat), tok[k]? = some (some b) → tok[l]? = some (some b) → k = l) : ∃ ds, OwnL w' [x] [v] ds ∧ ds.Nodup ∧ ∀ d ∈ ds, B ≤ d ∧ d < w'.heap.size := by
  have hget : ∀ d, d ∈ ts.filterMap (fun k => (tok[k]?).join) → ∃ k ∈ ts, tok[k]? = some (some d) := fun d hd => by
    obtain ⟨k, hk, he⟩ := List.mem_filterMap.1 hd
    cases h : tok[k]? with
    | none => rw [h] at he; cases he
    | some o => rw [h] at he; cases o with
      | none => cases he
      | some b => cases he; exact ⟨k, hk, h⟩
  refine ⟨ts.filterMap fun k => (tok[k]?).join, ho.own (F := F') (box := box) (Both.cons.2 ⟨hrep, rfl, by simp⟩), ?_, fun d hd => ?_⟩
  · clear hrep ho
    induction ts with
    | nil => simp
    | cons k ts ih =>
      obtain ⟨n1, n2⟩ := List.nodup_cons.1 hn
      have hget' : ∀ d, d ∈ ts.filterMap (fun k => (tok[k]?).join) → ∃ k ∈ ts, tok[k]? = some (some d) := fun d hd => by
        obtain ⟨k, hk, he⟩ := List.mem_filterMap.1 hd
        cases h : tok[k]? with
        | none => rw [h] at he; cases he
        | some o => rw [h] at he; cases o with
          | none => cases he
          | some b => cases he; exact ⟨k, hk, h⟩
      rw [List.filterMap_cons]
      split
      · exact ih n2 hget'
      · rename_i b hb'
        refine List.nodup_cons.2 ⟨fun hm => ?_, ih n2 hget'⟩
        obtain ⟨k', hk', he'⟩ := hget' b hm
        have he : tok[k]? = some (some b) := by
          cases h : tok[k]? with
          | none => rw [h] at hb'; cases hb'
          | some o => rw [h] at hb'; cases o with
            | none => cases hb'
            | some b => cases hb'; rfl
        exact n1 (htinj k k' b he he' ▸ hk')
  · obtain ⟨k, _, hk⟩ := hget d hd
    exact htin k d hk
theorem Own.of_irP {fid : Nat} {fn : Func} {code : ACode} {rs : List RRes} {K : List Nat} {args : List AV} {x : Tr} (hf : P.funcs[fid]? = some fn) (hb : fn.body.isSome = true) (hm : (fn.name == "runtime.NumGoroutine") = false)
    (hn : args.length ≤ fn.ntmps) (hc : cCode P fn.ntmps (fn.body.getD .skip) = code) (hrs : fn.results.toList.map (cRes P) = rs)
    (h : aCode (Kn mo P) K 0 code (doneG rs fun r _ f => ∃ ts, OwnA f [x] [r] ts ∧ ts.Nodup) ⟨argEnv 0 args, [], []⟩) : Own mo P fid args x := by
  rw [Kn_eq] at h; rw [Own_eq]
  obtain ⟨c, hc'⟩ := Option.isSome_iff_exists.1 hb
  rw [hc', Option.getD_some] at hc
  rw [← hc, ← hrs] at h
  refine ⟨okFn_of hf hb hm, fun w F vs hout hargs => (calls_of_code hf hc' hn K h w F vs hout hargs).mono ?_⟩
  rintro e w' ⟨v, F', tok, box, r, b, frs, ⟨ts, ho, hnd⟩, rfl, hb, hold, ho', htl, htin, htinj, hrep⟩
  obtain ⟨ds, h1, h2, h3⟩ := own_post hrep ho hnd htin htinj
  exact ⟨v, ds, rfl, hb, h1, h2, h3⟩
end
end Abs
open Abs
theorem strs_flatten (l : List Str) : (strs l).flatten = l.map .str := by
  rw [strs_eq]; induction l with
  | nil => rfl
  | cons s l ih => rw [List.map_cons, List.flatten_cons, ih]; rfl
theorem noTk_texts {l : List Str} : ∀ c ∈ l.map AV.str, noTk c = true := fun c hc => by obtain ⟨s, _, rfl⟩ := List.mem_map.1 hc; rfl
end Go.Proofs.Ytimcfgokocihnaa
namespace Go.Proofs.Ytimcfgokocihnaa
open Abs
def sPut.code : ACode := (.seq (.region false [s 4 (.mv (.const (.slice none 0 0)))]) (.seq (.region false [s 8 (.bslice 9 1 true []), s 5 (.mv (t 8))]) (.seq (.region false [s 6 (.mv (.const (.bool false)))]) (.seq (.seq (.region false [s 7 (.mv (.const (.int .i64 0)))]) (.block 0 (.loop (.seq (.seq (.region false [s 9 (.mv (t 7)), s 10 (.mv (t 0)), s 11 (.len false (t 10)), s 12 (.bin .lss (t 9) (t 11))]) (.cond (t 12) .skip (.exit 0))) (.seq (.block 1 (.seq (.seq (.region false [s 15 (.mv (t 6)), s 16 (.not (t 15)), s 17 (.mv (t 16)), g 17 true 18 (.mv (t 0)), g 17 true 19 (.mv (t 7)), g 17 true 20 (.iadr 1 (t 18) (t 19)), g 17 true 21 (.load false 1 (t 20)), g 17 true 22 (.mv (t 1)), g 17 true 23 (.bin .geq (t 21) (t 22)), s 24 (.and (t 17) (t 23))]) (.cond (t 24) (.seq (.region false [s 6 (.mv (.const (.bool true)))]) (.seq (.region false [s 25 (.mv (t 0)), s 26 (.mv (t 7)), s 27 (.iadr 1 (t 25) (t 26)), s 28 (.load false 1 (t 27)), s 29 (.mv (t 1)), s 30 (.bin .neq (t 28) (t 29))]) (.cond (t 30) (.region false [s 31 (.mv (t 5)), s 32 (.mv (t 1)), s 33 (.bslice 9 1 false [(t 32)]), s 34 (.append 9 1 16 (t 31) (t 33)), s 5 (.mv (t 34))]) .skip))) .skip)) (.region false [s 35 (.mv (t 5)), s 36 (.mv (t 0)), s 37 (.mv (t 7)), s 38 (.iadr 1 (t 36) (t 37)), s 39 (.load false 1 (t 38)), s 40 (.bslice 9 1 false [(t 39)]), s 41 (.append 9 1 16 (t 35) (t 40)), s 5 (.mv (t 41))]))) (.region false [s 13 (.mv (t 7)), s 14 (.bin .add (t 13) (.const (.int .i64 1))), s 7 (.mv (t 14))])))))) (.seq (.seq (.region false [s 42 (.mv (t 6)), s 43 (.not (t 42))]) (.cond (t 43) (.region false [s 44 (.mv (t 5)), s 45 (.mv (t 1)), s 46 (.bslice 9 1 false [(t 45)]), s 47 (.append 9 1 16 (t 44) (t 46)), s 5 (.mv (t 47))]) .skip)) (.seq (.region false [s 48 (.mv (t 5)), s 4 (.mv (t 48))]) .ret))))))
def sPut.keep : List Nat := [0, 1, 4, 5, 6, 7]
def sPut.res : List RRes := [.tmp 4]
theorem sPut.of {mo : Bool} {args : List AV} {r : AV} {frs : Fr} (hn : Nat.ble args.length Try.f75.ntmps = true) (h : aCode (Kn mo Try.prog) sPut.keep 0 sPut.code (doneK sPut.res r frs) ⟨argEnv 0 args, [], []⟩) : Abs.Ret mo Try.prog 75 args r frs :=
  Abs.Ret.of_ir Try.func75 rfl (by kernel_rfl) (Nat.le_of_ble_eq_true hn) (by kernel_rfl) (by kernel_rfl) h
abbrev sPut.Ret (args : List AV) (r : AV) (frs : Fr) : Prop := Abs.Ret true Try.prog 75 args r frs
def pSortedTexts.code : ACode := (.seq (.region false [s 2 (.mv (.const (.slice none 0 0)))]) (.seq (.region false [s 4 (.mv (t 0)), s 5 (.call 137 [(t 4)]), s 3 (.mv (t 5))]) (.seq (.region false [s 6 (.mv (t 3)), s 7 (.call 138 [(t 6)])]) (.seq (.region false [s 8 (.mv (t 3)), s 9 (.call 139 [(t 8)]), s 2 (.mv (t 9))]) .ret))))
def pSortedTexts.keep : List Nat := [0, 2, 3]
def pSortedTexts.res : List RRes := [.tmp 2]
theorem pSortedTexts.of {mo : Bool} {args : List AV} {r : AV} {frs : Fr} (hn : Nat.ble args.length Try.f79.ntmps = true) (h : aCode (Kn mo Try.prog) pSortedTexts.keep 0 pSortedTexts.code (doneK pSortedTexts.res r frs) ⟨argEnv 0 args, [], []⟩) : Abs.Ret mo Try.prog 79 args r frs :=
  Abs.Ret.of_ir Try.func79 rfl (by kernel_rfl) (Nat.le_of_ble_eq_true hn) (by kernel_rfl) (by kernel_rfl) h
abbrev pSortedTexts.Ret (args : List AV) (r : AV) (frs : Fr) : Prop := Abs.Ret true Try.prog 79 args r frs
def slClone.code : ACode := (.seq (.region false [s 2 (.mv (.const (.slice none 0 0)))]) (.seq (.seq (.region false [s 3 (.mv (t 0)), s 4 (.nilq false (t 3))]) (.cond (t 4) (.seq (.region false [s 2 (.mv (.const (.slice none 0 0)))]) .ret) .skip)) (.seq (.region false [s 5 (.bslice 9 1 true []), s 6 (.mv (t 0)), s 7 (.append 9 1 16 (t 5) (t 6)), s 2 (.mv (t 7))]) .ret)))
def slClone.keep : List Nat := [0, 2]
def slClone.res : List RRes := [.tmp 2]
theorem slClone.of {mo : Bool} {args : List AV} {r : AV} {frs : Fr} (hn : Nat.ble args.length Try.f137.ntmps = true) (h : aCode (Kn mo Try.prog) slClone.keep 0 slClone.code (doneK slClone.res r frs) ⟨argEnv 0 args, [], []⟩) : Abs.Ret mo Try.prog 137 args r frs :=
  Abs.Ret.of_ir Try.func137 rfl (by kernel_rfl) (Nat.le_of_ble_eq_true hn) (by kernel_rfl) (by kernel_rfl) h
abbrev slClone.Own (args : List AV) (x : Tr) : Prop := Abs.Own true Try.prog 137 args x
abbrev slClone.Ret (args : List AV) (r : AV) (frs : Fr) : Prop := Abs.Ret true Try.prog 137 args r frs
abbrev slSort.Ctx (b0 : List ABox) (args : List AV) (Φ : AV → List ABox → Prop) : Prop := Abs.Ctx true Try.prog 138 b0 args Φ
abbrev slCompact.Ctx (b0 : List ABox) (args : List AV) (Φ : AV → List ABox → Prop) : Prop := Abs.Ctx true Try.prog 139 b0 args Φ
end Go.Proofs.Ytimcfgokocihnaa
namespace Go.Proofs.Ytimcfgokocihnaa
open Abs
def letter (c : Int) : Bool := decide (97 ≤ c) && decide (c ≤ 122)
def digit (c : Int) : Bool := decide (48 ≤ c) && decide (c ≤ 57)
def alnum (c : UInt8) : Bool := letter c.toNat || digit c.toNat
def atomF (s : Str) : Bool := s.all alnum && (decide (1 ≤ (s.length : Int)) && decide ((s.length : Int) ≤ 8))
end Go.Proofs.Ytimcfgokocihnaa
namespace Go.Proofs.Ytimcfgokocihnaa
open Abs
def varF (x : Str) : Bool := decide (1 < (x.length : Int)) && ((x.getD 0 0).toNat : Int) == 63 && atomF (x.drop 1)
end Go.Proofs.Ytimcfgokocihnaa
namespace Go.Proofs.Ytimcfgokocihnaa
open Abs
theorem takeAV_one {n : Nat} {cs : List AV} {k : AV → Prop} (c : AV) (r : List AV) (h : cs = c :: r) (hk : k c) : takeAV false n cs k := by subst h; exact hk
end Go.Proofs.Ytimcfgokocihnaa
namespace Go.Proofs.Ytimcfgokocihnaa
open Abs
theorem slClone.ret (l : List Str) (h : l.length ≤ 1048576) : slClone.Ret [.list none (strs l)] (.list (some 0) (strs l)) [(9, 1, l.length)] := by
  refine slClone.of rfl ?_
  repeat' first
    | contradiction | exact trivial
    | (conv => whnf
       first | refine Need.mk (fun h => h) ?_ | refine Need.mk rfl ?_ | refine Need.mk ⟨rfl, Nat.le_of_ble_eq_true rfl⟩ ?_ | refine Need.mk (Nat.le_of_ble_eq_true rfl) ?_ | refine Need.fin ?_ | refine Need.mk ?_ ?_ | refine Ix.strsF rfl ?_ | refine Ix.strs rfl ?_ ?_ | refine Cut.strs rfl ?_ ?_ | refine Ix.mapF (fun _ => rfl) ?_ | refine Ix.map (fun _ => rfl) ?_ ?_ | refine Cut.map (fun _ => rfl) ?_ ?_ | refine Fork.yes (by assumption) ?_ | refine Fork.no (by assumption) ?_ | refine Fork.decYes (by omega) ?_ | refine Fork.decNo (by omega) ?_ | refine Fork.dec (fun _ => ?_) (fun _ => ?_) | refine Fork.bne (fun _ => ?_) (fun _ => ?_) | refine Fork.beq (fun _ => ?_) (fun _ => ?_) | refine Fork.seq (fun _ => ?_) (fun _ => ?_) | refine Fork.sne (fun _ => ?_) (fun _ => ?_) | refine Fork.neg (fun _ => ?_) (fun _ => ?_) | refine Fork.mk (fun _ => ?_) (fun _ => ?_) | refine HAlt.mk ?_ ?_ | apply HJoin.mk3 | exact HEnd.mk rfl rfl rfl | refine HEnd.mk ?_ ?_ ?_ | refine Round.mk ?_ | refine NilQ.mk (fun b hb => ?_) | refine forceK_of ?_ | refine forceBx_of ?_ | refine unG_old ?_ | refine unG_gv ?_ | refine Lit.read rfl ?_ | refine FinVal.nil 9 1 rfl ?_ | refine FinVal.keep ?_ | refine FinAgg.keep ?_ | refine Final.mk rfl rfl | refine Final.mk ?_ rfl | refine Final.mk ?_ ?_ | refine FinalT.mk ?_ ?_ | refine FinalC.allA ?_)
    | refine AV.bool_congr ?_ | refine AV.int_congr ?_ | refine AV.str_congr ?_ | refine AV.list_congr ?_ | with_reducible rfl | refine fr1 ?_ | refine fr2 ?_ ?_
  · rename_i h1
    have hl : l = [] := List.eq_nil_of_length_eq_zero (by rw [length_strs] at hb; exact hb (by revert h1; cases b <;> simp))
    subst hl; rfl
  · rename_i h1
    have hl : l = [] := List.eq_nil_of_length_eq_zero (by rw [length_strs] at hb; exact hb (by revert h1; cases b <;> simp))
    subst hl; rfl
  · exact strs_sz l
  · simp; omega
  · rfl
  · simp
end Go.Proofs.Ytimcfgokocihnaa
namespace Go.Proofs.Ytimcfgokocihnaa
namespace Abs
variable {mo : Bool}
open Go.RowKit Go.Sort
theorem heap_putRow {α : Type} [Inhabited α] (enc : α → Value) (w : World) (blk off : Nat) (d : Array α) (c : Array Value) (t : TypeId) (z : Nat × Nat) (h : w.heap[blk]? = some (.cells c t z)) :
    (putRow enc w blk off d).heap[blk]? = some (.cells (putCells enc off d c) t z) := by
  simp [putRow, mapBlock, Array.getElem?_modify, h, onCells]
theorem heap_putRow_other {α : Type} [Inhabited α] (enc : α → Value) (w : World) (blk off : Nat) (d : Array α) (k : Nat) (h : k ≠ blk) : (putRow enc w blk off d).heap[k]? = w.heap[k]? := by
  simp [putRow, mapBlock, Array.getElem?_modify, Ne.symm h]
theorem heap_grow (w : World) (os : Array Obj) (k : Nat) (h : k < w.heap.size) : (grow w os).heap[k]? = w.heap[k]? := by
  simp [grow, Array.getElem?_append, h]
/-- a row that is lent has been turned; nothing else has -/
theorem gpost_row {w w' : World} {F : Nat → Nat} {box0 : List BId} {b0 : List ABox} {Φ : AV → List ABox → Prop} (hout : ∀ b, w.heap.size ≤ b → F b = 0) (hbl : box0.length = b0.length)
    (hbi : ∀ (j b c : Nat), box0[j]? = some (.blk b c) → b < w.heap.size ∧ (live b0 j → F b = 0))
    (hbj : ∀ (i j b c c' : Nat), box0[i]? = some (.blk b c) → box0[j]? = some (.blk b c') → live b0 i → live b0 j → i = j)
    (hB : BoxesOk w.heap.size w F [] [] box0 b0) {j blk cap : Nat} {k : RK} {cs cs' : List AV} (hj : box0[j]? = some (.blk blk cap)) (hl : b0[j]? = some (.cells k cs))
    (hdr : w.drawn ≤ w'.drawn) (hos : w'.os = w.os) (htape : w'.tape = w.tape) (hou : w'.output = w.output) (hsz : w.heap.size ≤ w'.heap.size) (hk : ∀ k, k < w.heap.size → k ≠ blk → w'.heap[k]? = w.heap[k]?)
    (hx : (∀ y v, Rep w.heap.size w F [] [] box0 y v → Rep w.heap.size w' F [] [] box0 y v) → BoxOk w.heap.size w' F [] [] box0 (.blk blk cap) (.cells k cs'))
    {e : Ending} {v : Value} {r : AV} (hv : e = .returned v) (hr : Rep w.heap.size w' F [] [] box0 r v) (hΦ : Φ r (b0.set j (.cells k cs'))) :
    ∃ (v : Value) (F' : Nat → Nat) (box1 : List BId) (r : AV) (b1 : List ABox), Φ r b1 ∧ e = .returned v ∧ Keep mo (mask b0 box0) w w' ∧ (∀ b, b < w.heap.size → F' b = F b) ∧ (∀ b, w'.heap.size ≤ b → F' b = 0) ∧
      (∀ (j : Nat) d, box0[j]? = some d → box1[j]? = some d) ∧ box1.length = b1.length ∧
      (∀ (j b c : Nat), box0.length ≤ j → box1[j]? = some (.blk b c) → (w.heap.size ≤ b ∨ ∃ i : Nat, live b0 i ∧ box0[i]? = some (.blk b c)) ∧ b < w'.heap.size) ∧
      (∀ (j b c : Nat), box1[j]? = some (.blk b c) → live b1 j → (box0.length ≤ j ∨ live b0 j) → F' b = 0) ∧
      (∀ (i j b c c' : Nat), box1[i]? = some (.blk b c) → box1[j]? = some (.blk b c') → live b1 i → live b1 j → (box0.length ≤ i ∨ live b0 i) → (box0.length ≤ j ∨ live b0 j) → i = j) ∧
      (∀ (j : Nat) d x, box1[j]? = some d → b1[j]? = some x → (box0.length ≤ j ∨ live b0 j) → BoxOk w.heap.size w' F' [] [] box1 d x) ∧ Rep w.heap.size w' F' [] [] box1 r v := by
  have hlive : live b0 j := fun h => by rw [hl] at h; cases h
  have hF0 := (hbi j blk cap hj).2 hlive
  have hjl := getElem?_lt hl
  have L : Later w F [] [] w' F [] [] := by
    refine ⟨fun b i hi => World.cell?_of_block (w := w) (hk b ?_ (fun h => by rw [h, hF0] at hi; omega)), fun _ => Nat.le_refl _, fun k t s n h => by simp at h⟩
    rcases Nat.lt_or_ge b w.heap.size with h | h
    · exact h
    · rw [hout b h] at hi; omega
  have ld : ∀ {i : Nat}, live (b0.set j (.cells k cs')) i ↔ live b0 i := live_set (by simp) hlive
  refine ⟨v, F, box0, r, _, hΦ, hv, ⟨fun _ => hdr, hos, htape, hou, hsz, fun q hq hn => hk q hq (fun h => ?_)⟩, fun _ _ => rfl, fun b hb => hout b (Nat.le_trans hsz hb), fun _ _ h => h, by simpa using hbl,
    fun i b c hi h => (by have := getElem?_lt h; omega), fun i b c hi hli _ => (hbi i b c hi).2 (ld.1 hli), fun i i' b c c' h1 h2 l1 l2 _ _ => hbj i i' b c c' h1 h2 (ld.1 l1) (ld.1 l2), fun i d x hd hx' hin => ?_, hr⟩
  · subst h
    refine hn j cap ?_
    clear hx hΦ hv hr ld L
    induction b0 generalizing box0 j with
    | nil => simp at hl
    | cons x b ih =>
      cases box0 with
      | nil => simp at hj
      | cons d box =>
        cases j with
        | zero =>
          simp at hl hj
          subst hl; subst hj
          simp [mask]
        | succ j =>
          have h1 : b[j]? = some (.cells k cs) := by simpa using hl
          have h2 : box[j]? = some (.blk q cap) := by simpa using hj
          have aux : ∀ (b : List ABox) (box : List BId) (j : Nat), b[j]? = some (.cells k cs) → box[j]? = some (.blk q cap) → (mask b box)[j]? = some (.blk q cap) := by
            intro b
            induction b with
            | nil => intro box j h; simp at h
            | cons x b ih =>
              intro box j h1 h2
              cases box with
              | nil => simp at h2
              | cons d box =>
                cases j with
                | zero => simp at h1 h2; subst h1; subst h2; simp [mask]
                | succ j => cases x <;> simpa [mask] using ih box j (by simpa using h1) (by simpa using h2)
          cases x <;> simpa [mask] using aux b box j h1 h2
  · rw [List.getElem?_set] at hx'
    by_cases hij : j = i
    · subst hij
      rw [if_pos rfl, if_pos hjl] at hx'
      rw [hj] at hd
      cases hx'; cases hd
      exact hx (fun y v h => h.later L (fun _ _ h => h))
    · rw [if_neg hij] at hx'
      refine (hB i d x hd hx').later L (fun _ _ h => h) (fun b c he hnd => ?_)
      subst he
      refine hk b (hbi i b c hd).1 (fun h => ?_)
      subst h
      exact hij (hbj j i b cap c hj hd hlive (fun h => hnd (by rw [hx'] at h; exact Option.some.inj h)))
/-- nothing has been turned -/
theorem gpost_same {w : World} {F : Nat → Nat} {box0 : List BId} {b0 : List ABox} {Φ : AV → List ABox → Prop} (hout : ∀ b, w.heap.size ≤ b → F b = 0) (hbl : box0.length = b0.length)
    (hbi : ∀ (j b c : Nat), box0[j]? = some (.blk b c) → b < w.heap.size ∧ (live b0 j → F b = 0))
    (hbj : ∀ (i j b c c' : Nat), box0[i]? = some (.blk b c) → box0[j]? = some (.blk b c') → live b0 i → live b0 j → i = j)
    (hB : BoxesOk w.heap.size w F [] [] box0 b0) {e : Ending} {v : Value} {r : AV} (hv : e = .returned v) (hr : Rep w.heap.size w F [] [] box0 r v) (hΦ : Φ r b0) :
    ∃ (v : Value) (F' : Nat → Nat) (box1 : List BId) (r : AV) (b1 : List ABox), Φ r b1 ∧ e = .returned v ∧ Keep mo (mask b0 box0) w w ∧ (∀ b, b < w.heap.size → F' b = F b) ∧ (∀ b, w.heap.size ≤ b → F' b = 0) ∧
      (∀ (j : Nat) d, box0[j]? = some d → box1[j]? = some d) ∧ box1.length = b1.length ∧
      (∀ (j b c : Nat), box0.length ≤ j → box1[j]? = some (.blk b c) → (w.heap.size ≤ b ∨ ∃ i : Nat, live b0 i ∧ box0[i]? = some (.blk b c)) ∧ b < w.heap.size) ∧
      (∀ (j b c : Nat), box1[j]? = some (.blk b c) → live b1 j → (box0.length ≤ j ∨ live b0 j) → F' b = 0) ∧
      (∀ (i j b c c' : Nat), box1[i]? = some (.blk b c) → box1[j]? = some (.blk b c') → live b1 i → live b1 j → (box0.length ≤ i ∨ live b0 i) → (box0.length ≤ j ∨ live b0 j) → i = j) ∧
      (∀ (j : Nat) d x, box1[j]? = some d → b1[j]? = some x → (box0.length ≤ j ∨ live b0 j) → BoxOk w.heap.size w F' [] [] box1 d x) ∧ Rep w.heap.size w F' [] [] box1 r v :=
  ⟨v, F, box0, r, b0, hΦ, hv, Keep.refl _ _, fun _ _ => rfl, hout, fun _ _ h => h, hbl, fun i b c hi h => (by have := getElem?_lt h; omega), fun i b c hi hl _ => (hbi i b c hi).2 hl,
    fun i j b c c' h1 h2 l1 l2 _ _ => hbj i j b c c' h1 h2 l1 l2, fun i d x hd hx _ => hB i d x hd hx, hr⟩
theorem putCells_zero {α : Type} [Inhabited α] (enc : α → Value) (d : Array α) (c : Array Value) (h : d.size ≤ c.size) : (putCells enc 0 d c).toList = d.toList.map enc ++ c.toList.drop d.size := by
  apply List.ext_getElem?
  intro i
  rw [Array.getElem?_toList, putCells, Array.getElem?_mapIdx, List.getElem?_append, List.length_map, Array.length_toList]
  by_cases hi : i < d.size
  · have hc : i < c.size := by omega
    simp [hi, hc, getElem!_pos d i hi]
  · rw [if_neg hi, List.getElem?_drop, show d.size + (i - d.size) = i by omega, Array.getElem?_toList]
    cases c[i]? with
    | none => rfl
    | some x => simp [hi]
theorem set_self {α : Type} {l : List α} {j : Nat} {x : α} (h : l[j]? = some x) : l.set j x = l := by
  apply List.ext_getElem?
  intro i
  rw [List.getElem?_set]
  split
  · rename_i hij; subst hij; rw [if_pos (getElem?_lt h), h]
  · rfl
/-- a row of texts -/
theorem texts_of_box {B : Nat} {w : World} {F : Nat → Nat} {box : List BId} {b cap t : Nat} {ss : List Str} (h : BoxOk B w F [] [] box (.blk b cap) (.cells (.row t 1) (ss.map .str))) :
    ∃ c : Array Value, w.heap[b]? = some (.cells c t (0, 0)) ∧ ss.length ≤ c.size ∧ (∀ (i : Nat) s, ss[i]? = some s → c[i]? = some (mkS s)) ∧ c.size = cap ∧ cap ≤ maxLen := by
  obtain ⟨c, t', hh, hle, hr, rfl, hcs, hcm⟩ := h
  rw [List.length_map] at hle
  refine ⟨c, hh, hle, fun i s hi => ?_, by omega, hcm⟩
  have hlt := getElem?_lt hi
  have hx := (hr i (.str s) (by rw [List.getElem?_map, hi]; rfl)).1
  have hc : c[i]? = some (c.getD i undef) := by simp [Array.getD, show i < c.size by omega]
  rw [hc]
  generalize c.getD i undef = u at hx
  cases hx; rfl
theorem texts_both {B : Nat} {w : World} {F : Nat → Nat} {box : List BId} (ss : List Str) : Both (Rep B w F [] [] box) (ss.map .str) (ss.map mkS) := by
  refine ⟨by simp, fun i x y hx hy => ?_⟩
  rw [List.getElem?_map] at hx hy
  cases hi : ss[i]? with
  | none => rw [hi] at hx; cases hx
  | some s => rw [hi] at hx hy; cases hx; cases hy; exact .str s
end Abs
end Go.Proofs.Ytimcfgokocihnaa
namespace Go.Proofs
open Go.Shelf
def Try.lays190_ren : Go.Shelf.Ren := ⟨fun | 190 => 138 | 125 => 157 | 258 => 161 | 128 => 178 | 129 => 179 | 302 => 182 | 303 => 183 | 304 => 184 | 305 => 185 | 306 => 186 | 307 => 187 | 308 => 188 | 309 => 189 | 310 => 190 | 333 => 202 | 329 => 197 | 330 => 198 | 334 => 203 | 335 => 204 | 336 => 165 | 344 => 210 | n => n, fun | 31 => 22 | 9 => 9 | 3 => 3 | 46 => 150 | 0 => 0 | 51 => 166 | 53 => 168 | 4 => 4 | 183 => 160 | 182 => 159 | 131 => 124 | 5 => 5 | 218 => 180 | 222 => 184 | 228 => 198 | 229 => 199 | n => n, fun | n => n⟩
theorem Try.lays190 : Go.Proofs.Lays.n190 Try.prog Try.lays190_ren := {
  mixed := by kernel_rfl
  f125 := Try.func157.trans (congrArg some (by kernel_rfl))
  f128 := Try.func178.trans (congrArg some (by kernel_rfl))
  f129 := Try.func179.trans (congrArg some (by kernel_rfl))
  f190 := Try.func138.trans (congrArg some (by kernel_rfl))
  f258 := Try.func161.trans (congrArg some (by kernel_rfl))
  f302 := Try.func182.trans (congrArg some (by kernel_rfl))
  f303 := Try.func183.trans (congrArg some (by kernel_rfl))
  f304 := Try.func184.trans (congrArg some (by kernel_rfl))
  f305 := Try.func185.trans (congrArg some (by kernel_rfl))
  f306 := Try.func186.trans (congrArg some (by kernel_rfl))
  f307 := Try.func187.trans (congrArg some (by kernel_rfl))
  f308 := Try.func188.trans (congrArg some (by kernel_rfl))
  f309 := Try.func189.trans (congrArg some (by kernel_rfl))
  f310 := Try.func190.trans (congrArg some (by kernel_rfl))
  f329 := Try.func197.trans (congrArg some (by kernel_rfl))
  f330 := Try.func198.trans (congrArg some (by kernel_rfl))
  f333 := Try.func202.trans (congrArg some (by kernel_rfl))
  f334 := Try.func203.trans (congrArg some (by kernel_rfl))
  f335 := Try.func204.trans (congrArg some (by kernel_rfl))
  f336 := Try.func165.trans (congrArg some (by kernel_rfl))
  f344 := Try.func210.trans (congrArg some (by kernel_rfl))
  t0 := Try.underlying0
  a0 := Try.isAgg0
  z0 := Try.sizeOf0
  v0 := Try.zeroValue0
  t3 := Try.underlying3
  a3 := Try.isAgg3
  z3 := Try.sizeOf3
  v3 := Try.zeroValue3
  t4 := Try.underlying4
  a4 := Try.isAgg4
  z4 := Try.sizeOf4
  v4 := Try.zeroValue4
  t5 := Try.underlying5
  a5 := Try.isAgg5
  z5 := Try.sizeOf5
  v5 := Try.zeroValue5
  t9 := Try.underlying9
  a9 := Try.isAgg9
  z9 := Try.sizeOf9
  v9 := Try.zeroValue9
  t31 := Try.underlying22
  a31 := Try.isAgg22
  z31 := Try.sizeOf22
  v31 := Try.zeroValue22
  t46 := Try.underlying150
  a46 := Try.isAgg150
  z46 := Try.sizeOf150
  v46 := Try.zeroValue150
  t51 := Try.underlying166
  a51 := Try.isAgg166
  z51 := Try.sizeOf166
  v51 := Try.zeroValue166
  t53 := Try.underlying168
  a53 := Try.isAgg168
  z53 := Try.sizeOf168
  v53 := Try.zeroValue168
  t131 := Try.underlying124
  a131 := Try.isAgg124
  z131 := Try.sizeOf124
  v131 := Try.zeroValue124
  t182 := Try.underlying159
  a182 := Try.isAgg159
  z182 := Try.sizeOf159
  v182 := Try.zeroValue159
  t183 := Try.underlying160
  a183 := Try.isAgg160
  z183 := Try.sizeOf160
  v183 := Try.zeroValue160
  t218 := Try.underlying180
  a218 := Try.isAgg180
  z218 := Try.sizeOf180
  v218 := Try.zeroValue180
  t222 := Try.underlying184
  a222 := Try.isAgg184
  z222 := Try.sizeOf184
  v222 := Try.zeroValue184
  t228 := Try.underlying198
  a228 := Try.isAgg198
  z228 := Try.sizeOf198
  v228 := Try.zeroValue198
  t229 := Try.underlying199
  a229 := Try.isAgg199
  z229 := Try.sizeOf199
  v229 := Try.zeroValue199 }
open Go.Sort Go.RowKit in
theorem Try.slices_Sort_string (blk off cap : Nat) (ss : List (List UInt8)) (w : World) (hH : Holds encStr w blk off ss.toArray) (hblk : blk < w.heap.size) (hsz : ss.length < 4611686018427387904) :
    Calls Try.prog 138 #[.slice (some ⟨blk, off, none⟩) ss.length cap] w fun e w' =>
      e = .returned (.tuple #[]) ∧ ∃ n os, w' = grow (putRow encStr (Sort.ahead w n) blk off (ss.mergeSort fun x y => decide (x ≤ y)).toArray) os := Any.slices_Sort_string Try.lays190 blk off cap ss w hH hblk hsz
def Try.lays194_ren : Go.Shelf.Ren := ⟨fun | 194 => 139 | n => n, fun | 31 => 22 | 9 => 9 | 3 => 3 | 4 => 4 | 0 => 0 | n => n, fun | n => n⟩
theorem Try.lays194 : Go.Proofs.Lays.n194 Try.prog Try.lays194_ren := {
  mixed := by kernel_rfl
  f194 := Try.func139.trans (congrArg some (by kernel_rfl))
  t0 := Try.underlying0
  a0 := Try.isAgg0
  z0 := Try.sizeOf0
  v0 := Try.zeroValue0
  t3 := Try.underlying3
  a3 := Try.isAgg3
  z3 := Try.sizeOf3
  v3 := Try.zeroValue3
  t4 := Try.underlying4
  a4 := Try.isAgg4
  z4 := Try.sizeOf4
  v4 := Try.zeroValue4
  t9 := Try.underlying9
  a9 := Try.isAgg9
  z9 := Try.sizeOf9
  v9 := Try.zeroValue9
  t31 := Try.underlying22
  a31 := Try.isAgg22
  z31 := Try.sizeOf22
  v31 := Try.zeroValue22 }
open Go.RowKit Go.Lib Go.Sort in
theorem Try.slices_Compact_string (blk off cap : Nat) (zs : List (List UInt8)) (w : World) (hH : Holds encStr w blk off zs.toArray) (hsz : zs.length ≤ 9223372036854775807) (hcap : zs.length ≤ cap) :
    Calls Try.prog 139 #[.slice (some ⟨blk, off, none⟩) zs.length cap] w fun e w' => e = .returned (.slice (some ⟨blk, off, none⟩) (Lib.compact zs).length cap) ∧ ∃ q, w' = putRow encStr (Sort.ahead w q) blk off (Lib.compact zs ++ List.replicate (zs.length - (Lib.compact zs).length) []).toArray := Any.slices_Compact_string Try.lays194 blk off cap zs w hH hsz hcap
open Go.RowKit Go.Lib Go.Sort in
theorem Try.slices_Compact_string_empty (a : Option Addr) (cap : Nat) (w : World) :
    Calls Try.prog 139 #[.slice a 0 cap] w fun e w' => e = .returned (.slice a 0 cap) ∧ w' = w := Any.slices_Compact_string_empty Try.lays194 a cap w
open Go.RowKit Go.Sort in
theorem Try.slices_Sort_string_none (p : Option Addr) (cap : Nat) (w : World) :
    Calls Try.prog 138 #[.slice p 0 cap] w fun e w' => e = .returned (.tuple #[]) ∧ w' = w := Any.slices_Sort_string_none Try.lays190 p cap w
end Go.Proofs
namespace Go.Proofs.Ytimcfgokocihnaa
open Abs Go.RowKit Go.Sort
/-- ascending, byte by byte -/
def srt (ss : List Str) : List Str := ss.mergeSort fun x y => decide (x ≤ y)
theorem compact_nil : Lib.compact ([] : List Str) = [] := rfl
theorem compact_len (ss : List Str) : (Lib.compact ss).length ≤ ss.length := by
  rw [Lib.compact, Lib.compactUpTo, List.length_map]
  exact Nat.le_trans (List.length_filter_le _ _) (by simp)
theorem holds_texts {w : World} {b t : Nat} {ss : List Str} {c : Array Value} (hh : w.heap[b]? = some (.cells c t (0, 0))) (hc : ∀ (i : Nat) s, ss[i]? = some s → c[i]? = some (mkS s)) : Holds encStr w b 0 ss.toArray := by
  intro i hi
  have hi' : i < ss.length := by simpa using hi
  have h1 := hc i _ (List.getElem?_eq_getElem hi')
  have e1 : ss.toArray[i]! = ss[i] := by simp [hi']
  rw [e1, Nat.zero_add]
  refine ⟨by rw [cell_of_row w b i c t (0, 0) hh, h1]; rfl, ?_⟩
  simp [World.frozen?, hh]
theorem slSort.ctx (b : List ABox) (j : Nat) (ss : List Str) (hj : b[j]? = some (.cells (.row 9 1) (ss.map .str))) (hn : ss.length ≤ 1099511627776) :
    slSort.Ctx b [.bsl j ss.length] (fun r b1 => r = .tup [] ∧ b1 = b.set j (.cells (.row 9 1) ((srt ss).map .str))) := by
  unfold slSort.Ctx
  rw [Ctx_eq]
  refine ⟨by kernel_rfl, fun w F vs box0 hout hbl hbi hbj hB hargs => ?_⟩
  obtain ⟨v0, rfl⟩ : ∃ v0, vs = #[v0] := by
    have := hargs.1
    match vs, this with
    | ⟨[a]⟩, _ => exact ⟨a, rfl⟩
  obtain ⟨h0, _⟩ := Both.cons.1 hargs
  rcases h0.bsl_inv with ⟨bl, cap, hb, hcap, rfl⟩ | ⟨hb, hz, rfl⟩
  · obtain ⟨c, hh, hle, hc, hcs, hcm⟩ := texts_of_box (hB j _ _ hb hj)
    refine (Try.slices_Sort_string bl 0 cap ss w (holds_texts hh hc) (hbi j bl cap hb).1 (by omega)).mono ?_
    rintro e w' ⟨rfl, n, os, hw⟩
    have hlen : (srt ss).length = ss.length := List.length_mergeSort _
    have hh' : w'.heap[bl]? = some (.cells (putCells encStr 0 (srt ss).toArray c) 9 (0, 0)) := by
      rw [hw, heap_grow _ _ _ (by simpa using (hbi j bl cap hb).1)]
      exact heap_putRow encStr (Sort.ahead w n) bl 0 (srt ss).toArray c _ (0, 0) hh
    have hk : ∀ k, k < w.heap.size → k ≠ bl → w'.heap[k]? = w.heap[k]? := fun k hk hkb => by
      rw [hw, heap_grow _ _ _ (by simpa using hk), heap_putRow_other _ _ _ _ _ _ hkb]; rfl
    refine gpost_row (w' := w') (Φ := fun r b1 => r = .tup [] ∧ b1 = b.set j (.cells (.row 9 1) ((srt ss).map .str))) (v := .tuple #[]) (r := .tup []) hout hbl hbi hbj hB hb hj
      (by rw [hw]; simp [grow, putRow, mapBlock, Sort.ahead]) (by rw [hw]; rfl) (by rw [hw]; rfl) (by rw [hw]; rfl) (by rw [hw]; simp) hk (fun _ => ?_) rfl (.tup [] #[] rfl (by simp)) ⟨rfl, rfl⟩
    refine boxOk_row (c := putCells encStr 0 (srt ss).toArray c) (vals := (srt ss).map mkS) (rest := c.toList.drop (srt ss).length) hh' ?_ (texts_both _) (fun u hu => ?_) ?_ hcm
    · rw [putCells_zero _ _ _ (by simp [hlen]; exact hle)]; simp; intro a _; rfl
    · obtain ⟨s, _, rfl⟩ := List.mem_map.1 hu; rfl
    · simp [hlen]; omega
  · have h0 : ss = [] := List.eq_nil_of_length_eq_zero hz
    subst h0
    refine (Try.slices_Sort_string_none none 0 w).mono ?_
    rintro e w' ⟨rfl, rfl⟩
    exact gpost_same hout hbl hbi hbj hB rfl (.tup [] #[] rfl (by simp)) ⟨rfl, by rw [show srt [] = [] by simp [srt], set_self hj]⟩
theorem slCompact.ctx (b : List ABox) (j : Nat) (ss : List Str) (hj : b[j]? = some (.cells (.row 9 1) (ss.map .str))) (hn : ss.length ≤ 1099511627776) :
    slCompact.Ctx b [.bsl j ss.length] (fun r b1 => r = .bsl j (Lib.compact ss).length ∧ b1 = b.set j (.cells (.row 9 1) ((Lib.compact ss).map .str))) := by
  unfold slCompact.Ctx
  rw [Ctx_eq]
  refine ⟨by kernel_rfl, fun w F vs box0 hout hbl hbi hbj hB hargs => ?_⟩
  obtain ⟨v0, rfl⟩ : ∃ v0, vs = #[v0] := by
    have := hargs.1
    match vs, this with
    | ⟨[a]⟩, _ => exact ⟨a, rfl⟩
  obtain ⟨h0, _⟩ := Both.cons.1 hargs
  rcases h0.bsl_inv with ⟨bl, cap, hb, hcap, rfl⟩ | ⟨hb, hz, rfl⟩
  · obtain ⟨c, hh, hle, hc, hcs, hcm⟩ := texts_of_box (hB j _ _ hb hj)
    have hcl := compact_len ss
    refine (Try.slices_Compact_string bl 0 cap ss w (holds_texts hh hc) (by omega) hcap).mono ?_
    rintro e w' ⟨rfl, n, hw⟩
    have hh' : w'.heap[bl]? = some (.cells (putCells encStr 0 (Lib.compact ss ++ List.replicate (ss.length - (Lib.compact ss).length) []).toArray c) 9 (0, 0)) := by
      rw [hw]; exact heap_putRow encStr (Sort.ahead w n) bl 0 _ c _ (0, 0) hh
    have hk : ∀ k, k < w.heap.size → k ≠ bl → w'.heap[k]? = w.heap[k]? := fun k hk hkb => by
      rw [hw, heap_putRow_other _ _ _ _ _ _ hkb]; rfl
    refine gpost_row (w' := w') (Φ := fun r b1 => r = .bsl j (Lib.compact ss).length ∧ b1 = b.set j (.cells (.row 9 1) ((Lib.compact ss).map .str))) (r := .bsl j (Lib.compact ss).length) hout hbl hbi hbj hB hb hj
      (by rw [hw]; simp [putRow, mapBlock, Sort.ahead]) (by rw [hw]; rfl) (by rw [hw]; rfl) (by rw [hw]; rfl) (by rw [hw]; simp) hk (fun _ => ?_) rfl (.bsl j _ bl cap hb (by omega)) ⟨rfl, rfl⟩
    refine boxOk_row (vals := (Lib.compact ss).map mkS) (rest := List.replicate (ss.length - (Lib.compact ss).length) (mkS []) ++ c.toList.drop ss.length) hh' ?_ (texts_both _) (fun u hu => ?_) ?_ hcm
    · rw [putCells_zero _ _ _ (by simp; omega)]
      simp only [List.map_append, List.map_replicate, List.append_assoc, List.size_toArray, List.length_append, List.length_replicate, Nat.add_sub_cancel' hcl]
      rfl
    · obtain ⟨s, _, rfl⟩ := List.mem_map.1 hu; rfl
    · simp; omega
  · have h0 : ss = [] := List.eq_nil_of_length_eq_zero hz
    subst h0
    refine (Try.slices_Compact_string_empty none 0 w).mono ?_
    rintro e w' ⟨rfl, rfl⟩
    exact gpost_same hout hbl hbi hbj hB rfl (.bnil j hb) ⟨by rw [compact_nil]; rfl, by rw [compact_nil, set_self hj]⟩
end Go.Proofs.Ytimcfgokocihnaa
namespace Go.Proofs.Ytimcfgokocihnaa
open Abs
structure STO {α : Type} (lt : α → α → Bool) : Prop where
  irrefl : ∀ x, lt x x = false
  trans : ∀ x y z, lt x y = true → lt y z = true → lt x z = true
  tri : ∀ x y, lt x y = false → lt y x = false → x = y
section
variable {α : Type} {lt : α → α → Bool}
theorem STO.asymm (h : STO lt) {x y : α} (hxy : lt x y = true) : lt y x = false := by
  cases hyx : lt y x with
  | false => rfl
  | true => have := h.trans x y x hxy hyx; rw [h.irrefl] at this; cases this
def Asc (lt : α → α → Bool) (l : List α) : Prop := l.Pairwise fun x y => lt x y = true
/-- ascending lists with the same members are one -/
theorem Asc.unique (h : STO lt) : ∀ {l m : List α}, Asc lt l → Asc lt m → (∀ x, x ∈ l ↔ x ∈ m) → l = m
  | [], [], _, _, _ => rfl
  | [], y :: m, _, _, hm => absurd ((hm y).2 (by simp)) (by simp)
  | x :: l, [], _, _, hm => absurd ((hm x).1 (by simp)) (by simp)
  | x :: l, y :: m, hl, hr, hm => by
    obtain ⟨h1, h2⟩ := List.pairwise_cons.1 hl
    obtain ⟨h3, h4⟩ := List.pairwise_cons.1 hr
    have hxy : x = y := by
      rcases List.mem_cons.1 ((hm x).1 (by simp)) with e | hx
      · exact e
      · rcases List.mem_cons.1 ((hm y).2 (by simp)) with e | hy
        · exact e.symm
        · have := h.asymm (h3 x hx); rw [h1 y hy] at this; cases this
    subst hxy
    congr 1
    refine Asc.unique h h2 h4 fun z => ⟨fun hz => ?_, fun hz => ?_⟩
    · rcases List.mem_cons.1 ((hm z).1 (by simp [hz])) with e | hz'
      · subst e; have := h1 z hz; rw [h.irrefl] at this; cases this
      · exact hz'
    · rcases List.mem_cons.1 ((hm z).2 (by simp [hz])) with e | hz'
      · subst e; have := h3 z hz; rw [h.irrefl] at this; cases this
      · exact hz'
/-- put in at its place, unless it is there -/
def ins (lt : α → α → Bool) (s : α) : Bool → List α → List α
  | d, [] => if d then [] else [s]
  | true, x :: l => x :: ins lt s true l
  | false, x :: l => if lt x s then x :: ins lt s false l else if lt s x then s :: x :: ins lt s true l else x :: ins lt s true l
theorem ins_true (s : α) : ∀ l, ins lt s true l = l
  | [] => rfl
  | x :: l => by rw [ins, ins_true s l]
theorem ins_mem (h : STO lt) (s : α) : ∀ l x, x ∈ ins lt s false l ↔ x = s ∨ x ∈ l
  | [], x => by simp [ins]
  | y :: l, x => by
    rw [ins]
    split
    · rw [List.mem_cons, ins_mem h s l x, List.mem_cons]
      exact ⟨fun h => by rcases h with h | h | h <;> simp [h], fun h => by rcases h with h | h | h <;> simp [h]⟩
    · rename_i h1
      split
      · rw [ins_true]; simp
      · rename_i h2
        rw [ins_true]
        have : y = s := h.tri y s (by simpa using h1) (by simpa using h2)
        subst this; simp
theorem ins_asc (h : STO lt) (s : α) : ∀ l, Asc lt l → Asc lt (ins lt s false l)
  | [], _ => by simp [ins, Asc]
  | y :: l, hl => by
    obtain ⟨h1, h2⟩ := List.pairwise_cons.1 hl
    rw [ins]
    split
    · rename_i hy
      refine List.pairwise_cons.2 ⟨fun z hz => ?_, ins_asc h s l h2⟩
      rcases (ins_mem h s l z).1 hz with rfl | hz
      · exact hy
      · exact h1 z hz
    · split
      · rename_i hs
        rw [ins_true]
        refine List.pairwise_cons.2 ⟨fun z hz => ?_, hl⟩
        rcases List.mem_cons.1 hz with rfl | hz
        · exact hs
        · exact h.trans _ _ _ hs (h1 z hz)
      · rw [ins_true]; exact hl
theorem ins_len (s : α) : ∀ (d : Bool) (l : List α), (ins lt s d l).length ≤ l.length + 1
  | true, l => by rw [ins_true]; omega
  | false, [] => by simp [ins]
  | false, y :: l => by
    have := ins_len s false l
    rw [ins]
    split
    · simp only [List.length_cons]; omega
    · split <;> simp [ins_true]
/-- one by one -/
def insAll (lt : α → α → Bool) (l : List α) : List α := l.foldl (fun a s => ins lt s false a) []
theorem insAll_take_succ {l : List α} {i : Nat} (d : α) (h : i < l.length) : insAll lt (l.take (i + 1)) = ins lt (l.getD i d) false (insAll lt (l.take i)) := by
  unfold insAll; exact foldl_take_succ d _ _ h
theorem insAll_asc (h : STO lt) (l : List α) : Asc lt (insAll lt l) := by
  have : ∀ (l a : List α), Asc lt a → Asc lt (l.foldl (fun a s => ins lt s false a) a) := fun l => by
    induction l with
    | nil => exact fun a ha => ha
    | cons x l ih => exact fun a ha => ih _ (ins_asc h x a ha)
  exact this l [] .nil
theorem insAll_mem (h : STO lt) (l : List α) (x : α) : x ∈ insAll lt l ↔ x ∈ l := by
  have : ∀ (l a : List α), x ∈ l.foldl (fun a s => ins lt s false a) a ↔ x ∈ l ∨ x ∈ a := fun l => by
    induction l with
    | nil => simp
    | cons y l ih =>
      intro a
      rw [List.foldl_cons, ih, ins_mem h, List.mem_cons]
      exact ⟨fun h => by rcases h with h | h | h <;> simp [h], fun h => by rcases h with (h | h) | h <;> simp [h]⟩
  unfold insAll; simpa using this l []
theorem insAll_len (l : List α) : (insAll lt l).length ≤ l.length := by
  have : ∀ (l a : List α), (l.foldl (fun a s => ins lt s false a) a).length ≤ a.length + l.length := fun l => by
    induction l with
    | nil => simp
    | cons x l ih => intro a; have := ih (ins lt x false a); have := ins_len (lt := lt) x false a; simp only [List.foldl_cons, List.length_cons] at *; omega
  unfold insAll; simpa using this l []
variable [Inhabited α] [DecidableEq α]
/-- what is kept of a sorted list ascends, and nothing is lost -/
theorem compact_asc (h : STO lt) (l : List α) (hs : l.Pairwise fun x y => lt y x = false) : Asc lt (Lib.compact l) ∧ ∀ x, x ∈ Lib.compact l ↔ x ∈ l := by
  have key : ∀ m, m ≤ l.length → Asc lt (Lib.compactUpTo l.toArray m) ∧ (∀ x, x ∈ Lib.compactUpTo l.toArray m ↔ x ∈ l.take m) := by
    intro m
    induction m with
    | zero => intro _; simp [Lib.compactUpTo, Asc]
    | succ m ih =>
      intro hm
      obtain ⟨i1, i2⟩ := ih (by omega)
      have hml : m < l.length := by omega
      have hgm : l.toArray[m]! = l[m] := by simp [hml]
      have htake : l.take (m + 1) = l.take m ++ [l[m]] := by rw [List.take_succ_eq_append_getElem hml]
      rw [Lib.compactUpTo_succ, htake]
      by_cases hk : Lib.keeps l.toArray m = true
      · rw [if_pos hk, hgm]
        refine ⟨List.pairwise_append.2 ⟨i1, by simp, fun x hx y hy => ?_⟩, fun x => by rw [List.mem_append, List.mem_append, i2]⟩
        simp only [List.mem_singleton] at hy; subst hy
        have hx' := (i2 x).1 hx
        obtain ⟨i, hi, hix⟩ := List.getElem_of_mem hx'
        have him : i < m := by simp at hi; omega
        have hil : i < l.length := by omega
        have hxl : l[i] = x := by rw [← hix]; simp
        have hpw := List.pairwise_iff_getElem.1 hs
        -- the one before is another one
        have hne : l[m] ≠ l[m - 1] := by
          simp only [Lib.keeps, decide_eq_true_eq] at hk
          rcases hk with hk | hk
          · omega
          · rw [hgm] at hk
            have : l.toArray[m - 1]! = l[m - 1] := by simp [show m - 1 < l.length by omega]
            rwa [this] at hk
        have hle1 : lt l[m] l[m - 1] = false := hpw (m - 1) m (by omega) hml (by omega)
        have hlt1 : lt l[m - 1] l[m] = true := by
          cases hc : lt l[m - 1] l[m] with
          | true => rfl
          | false => exact absurd (h.tri _ _ hle1 hc) hne
        by_cases him1 : i = m - 1
        · subst him1; rw [← hxl]; exact hlt1
        · have hle2 : lt l[m - 1] l[i] = false := hpw i (m - 1) hil (by omega) (by omega)
          cases hc : lt x l[m] with
          | true => rfl
          | false =>
            exfalso
            rw [← hxl] at hc
            cases hd : lt l[i] l[m - 1] with
            | true => have := h.trans _ _ _ hd hlt1; rw [this] at hc; cases hc
            | false => have := h.tri _ _ hd hle2; rw [this, hlt1] at hc; cases hc
      · rw [if_neg hk, List.append_nil]
        refine ⟨i1, fun x => ?_⟩
        rw [List.mem_append, i2, List.mem_singleton]
        refine ⟨.inl, fun hx => ?_⟩
        rcases hx with hx | rfl
        · exact hx
        · simp only [Lib.keeps, decide_eq_true_eq, not_or, Decidable.not_not] at hk
          have h2 : l.toArray[m - 1]! = l[m - 1] := by simp [show m - 1 < l.length by omega]
          rw [hgm, h2] at hk
          rw [hk.2]
          have h3 : m - 1 < (l.take m).length := by simp; omega
          have h4 : (l.take m)[m - 1] = l[m - 1] := by simp
          rw [← h4]; exact List.getElem_mem h3
  have := key l.length (Nat.le_refl _)
  rw [List.take_length] at this
  exact this
end
def blt (a b : Str) : Bool := Op.bytesLess a b
theorem blt_eq : ∀ a b : Str, blt a b = decide (a < b)
  | _, [] => by simp [blt, Op.bytesLess]
  | [], _ :: _ => by simp [blt, Op.bytesLess]
  | a :: x, b :: y => by
    have ih := blt_eq x y
    rw [blt] at ih ⊢
    rw [Op.bytesLess, ih]
    rw [Bool.eq_iff_iff]
    simp only [Bool.or_eq_true, Bool.and_eq_true, decide_eq_true_eq, beq_iff_eq]
    rw [List.cons_lt_cons_iff]
theorem blt_sto : STO blt where
  irrefl x := by rw [blt_eq]; simp [List.lt_irrefl]
  trans x y z h1 h2 := by rw [blt_eq, decide_eq_true_eq] at *; exact List.lt_trans h1 h2
  tri x y h1 h2 := by
    rw [blt_eq, decide_eq_false_iff_not] at *
    exact List.le_antisymm (List.not_lt.1 h2) (List.not_lt.1 h1)
end Go.Proofs.Ytimcfgokocihnaa
namespace Go.Proofs.Ytimcfgokocihnaa
open Abs
theorem ins_drop {α : Type} {lt : α → α → Bool} {s : α} {l : List α} {i : Nat} (e : α) (d : Bool) (hi : i < l.length) :
    ins lt s d (l.drop i) = if d then l.getD i e :: ins lt s true (l.drop (i + 1)) else if lt (l.getD i e) s then l.getD i e :: ins lt s false (l.drop (i + 1)) else if lt s (l.getD i e) then s :: l.getD i e :: ins lt s true (l.drop (i + 1)) else l.getD i e :: ins lt s true (l.drop (i + 1)) := by
  rw [List.drop_eq_getElem_cons hi]
  have : l.getD i e = l[i] := by simp [List.getD, hi]
  rw [this]
  cases d <;> rfl
theorem sPut.ret (l : List Str) (s : Str) (h : l.length ≤ 1048576) : sPut.Ret [.list none (strs l), .str s] (.list (some 0) (strs (ins blt s false l))) [(9, 1, (ins blt s false l).length)] := by
  refine sPut.of rfl ?_
  repeat' first
    | contradiction | exact trivial
    | (conv => whnf
       first | refine Need.mk (fun h => h) ?_ | refine Need.mk rfl ?_ | refine Need.mk ⟨rfl, Nat.le_of_ble_eq_true rfl⟩ ?_ | refine Need.mk (Nat.le_of_ble_eq_true rfl) ?_ | refine Need.fin ?_ | refine Need.mk ?_ ?_ | refine Ix.strsF rfl ?_ | refine Ix.strs rfl ?_ ?_ | refine Cut.strs rfl ?_ ?_ | refine Ix.mapF (fun _ => rfl) ?_ | refine Ix.map (fun _ => rfl) ?_ ?_ | refine Cut.map (fun _ => rfl) ?_ ?_ | refine Fork.yes (by assumption) ?_ | refine Fork.no (by assumption) ?_ | refine Fork.decYes (by omega) ?_ | refine Fork.decNo (by omega) ?_ | refine Fork.dec (fun _ => ?_) (fun _ => ?_) | refine Fork.bne (fun _ => ?_) (fun _ => ?_) | refine Fork.beq (fun _ => ?_) (fun _ => ?_) | refine Fork.seq (fun _ => ?_) (fun _ => ?_) | refine Fork.sne (fun _ => ?_) (fun _ => ?_) | refine Fork.neg (fun _ => ?_) (fun _ => ?_) | refine Fork.mk (fun _ => ?_) (fun _ => ?_) | refine HAlt.mk ?_ ?_ | apply HJoin.mk3 | exact HEnd.mk rfl rfl rfl | refine HEnd.mk ?_ ?_ ?_ | refine Round.mk ?_ | refine NilQ.mk (fun b hb => ?_) | refine forceK_of ?_ | refine forceBx_of ?_ | refine unG_old ?_ | refine unG_gv ?_ | refine Lit.read rfl ?_ | refine FinVal.keep ?_ | refine FinAgg.keep ?_ | refine Final.mk rfl rfl | refine Final.mk ?_ rfl | refine Final.mk ?_ ?_ | refine FinalT.mk ?_ ?_ | refine FinalC.allA ?_)
    | refine AV.bool_congr ?_ | refine AV.int_congr ?_ | refine AV.str_congr ?_ | refine AV.list_congr ?_ | with_reducible rfl | refine fr1 ?_ | refine fr2 ?_ ?_
  refine ALoop.mk (Nat × List Str × Bool) (fun a => ⟨[(0, .list none (strs l)), (1, .str s), (5, .list (some 0) (strs a.2.1)), (6, .val (.bool a.2.2)), (7, .val (.int .i64 a.1))], [], [(9, 1, a.2.1.length)]⟩)
    (fun a => a.1 ≤ l.length ∧ (a.2.1.length ≤ a.1 + 1 ∧ (a.2.2 = false → a.2.1.length ≤ a.1)) ∧ a.2.1 ++ ins blt s a.2.2 (l.drop a.1) = ins blt s false l) (fun a => l.length - a.1) ⟨(0, [], false), ⟨Nat.zero_le _, ⟨Nat.zero_le _, fun _ => Nat.zero_le _⟩, rfl⟩, ?_⟩ (fun a ha => ?_)
  · repeat' first
      | exact trivial | refine Weak.mk ?_ ?_ ?_ ?_ (Or.inl (Nat.le_of_ble_eq_true rfl)) | refine Weak.mk ?_ ?_ ?_ ?_ (Or.inr ⟨(by repeat' first | exact trivial | exact Nat.le_of_ble_eq_true rfl | refine And.intro ?_ ?_), (by repeat' first | exact trivial | exact Nat.le_of_ble_eq_true rfl | refine And.intro ?_ ?_)⟩) | refine Weak.mk ?_ ?_ ?_ ?_ ?_ | refine And.intro ?_ ?_ | with_reducible rfl | exact Nat.le_of_ble_eq_true rfl | refine fr1 ?_ | refine fr2 ?_ ?_ | refine AV.int_congr ?_ | refine AV.bool_congr ?_ | refine AV.str_congr ?_ | refine AV.list_congr ?_ | refine AV.bsl_congr ?_ ?_ | (apply rfl)
  obtain ⟨i, o, d⟩ := a
  obtain ⟨h1, h2, h3⟩ := ha
  simp only at h1 h2 h3 ⊢
  repeat' first
    | contradiction | exact trivial
    | (conv => whnf
       first | refine Need.mk (fun h => h) ?_ | refine Need.mk rfl ?_ | refine Need.mk ⟨rfl, Nat.le_of_ble_eq_true rfl⟩ ?_ | refine Need.mk (Nat.le_of_ble_eq_true rfl) ?_ | refine Need.fin ?_ | refine Need.mk ?_ ?_ | refine Ix.strsF rfl ?_ | refine Ix.strs rfl ?_ ?_ | refine Cut.strs rfl ?_ ?_ | refine Ix.mapF (fun _ => rfl) ?_ | refine Ix.map (fun _ => rfl) ?_ ?_ | refine Cut.map (fun _ => rfl) ?_ ?_ | refine Fork.yes (by assumption) ?_ | refine Fork.no (by assumption) ?_ | refine Fork.decYes (by omega) ?_ | refine Fork.decNo (by omega) ?_ | refine Fork.dec (fun _ => ?_) (fun _ => ?_) | refine Fork.bne (fun _ => ?_) (fun _ => ?_) | refine Fork.beq (fun _ => ?_) (fun _ => ?_) | refine Fork.seq (fun _ => ?_) (fun _ => ?_) | refine Fork.sne (fun _ => ?_) (fun _ => ?_) | refine Fork.neg (fun _ => ?_) (fun _ => ?_) | refine Fork.mk (fun _ => ?_) (fun _ => ?_) | refine HAlt.mk ?_ ?_ | apply HJoin.mk3 | exact HEnd.mk rfl rfl rfl | refine HEnd.mk ?_ ?_ ?_ | refine Round.mk ?_ | refine NilQ.mk (fun b hb => ?_) | refine forceK_of ?_ | refine forceBx_of ?_ | refine unG_old ?_ | refine unG_gv ?_ | refine Lit.read rfl ?_ | refine FinVal.keep ?_ | refine FinAgg.keep ?_ | refine Final.mk rfl rfl | refine Final.mk ?_ rfl | refine Final.mk ?_ ?_ | refine FinalT.mk ?_ ?_ | refine FinalC.allA ?_)
    | refine AV.bool_congr ?_ | refine AV.int_congr ?_ | refine AV.str_congr ?_ | refine AV.list_congr ?_ | with_reducible rfl | refine fr1 ?_ | refine fr2 ?_ ?_
  all_goals try simp only [length_strs, List.length_append, List.length_singleton, List.length_cons, List.length_nil, Int.toNat_natCast] at *
  all_goals try (intro c hc; rw [List.mem_singleton.1 hc]; rfl)
  all_goals try (cases d with
    | true => simp at *; done
    | false => have h4 := h2.2 rfl; constructor <;> omega)
  all_goals try (constructor <;> omega)
  · have hb := ‹(!d && !Op.bytesLess (l.getD i []) s) = true›
    have hne := ‹l.getD i [] ≠ s›
    obtain ⟨rfl, hlt⟩ : d = false ∧ blt (l.getD i []) s = false := by revert hb; cases d <;> simp [blt]
    rw [ins_drop [] false (by omega), if_neg (by simp), if_neg (by rw [hlt]; simp)] at h3
    have hgt : blt s (l.getD i []) = true := by
      cases hc : blt s (l.getD i []) with
      | true => rfl
      | false => exact absurd (blt_sto.tri _ _ hlt hc) hne
    rw [if_pos hgt] at h3
    refine ⟨(i + 1, o ++ [s] ++ [l.getD i []], true), ⟨by omega, ⟨by have := h2.2 rfl; simp; omega, by simp⟩, by simpa using h3⟩, ?_, by simp only; omega⟩
    repeat' first
      | exact trivial | refine Weak.mk ?_ ?_ ?_ ?_ (Or.inl (Nat.le_of_ble_eq_true rfl)) | refine Weak.mk ?_ ?_ ?_ ?_ (Or.inr ⟨(by repeat' first | exact trivial | exact Nat.le_of_ble_eq_true rfl | refine And.intro ?_ ?_), (by repeat' first | exact trivial | exact Nat.le_of_ble_eq_true rfl | refine And.intro ?_ ?_)⟩) | refine Weak.mk ?_ ?_ ?_ ?_ ?_ | refine And.intro ?_ ?_ | with_reducible rfl | exact Nat.le_of_ble_eq_true rfl | refine fr1 ?_ | refine fr2 ?_ ?_ | refine AV.int_congr ?_ | refine AV.bool_congr ?_ | refine AV.str_congr ?_ | refine AV.list_congr ?_ | refine AV.bsl_congr ?_ ?_ | (apply rfl)
    · rw [strs_append, strs_append]; rfl
    · rw [wrap64 (by omega) (by omega)]; rfl
    · simp
  · have hb := ‹(!d && !Op.bytesLess (l.getD i []) s) = true›
    have he := ‹l.getD i [] = s›
    obtain ⟨rfl, hlt⟩ : d = false ∧ blt (l.getD i []) s = false := by revert hb; cases d <;> simp [blt]
    rw [ins_drop [] false (by omega), if_neg (by simp), if_neg (by rw [hlt]; simp), if_neg (by rw [he, blt_sto.irrefl]; simp)] at h3
    refine ⟨(i + 1, o ++ [l.getD i []], true), ⟨by omega, ⟨by have := h2.2 rfl; simp; omega, by simp⟩, by simpa using h3⟩, ?_, by simp only; omega⟩
    repeat' first
      | exact trivial | refine Weak.mk ?_ ?_ ?_ ?_ (Or.inl (Nat.le_of_ble_eq_true rfl)) | refine Weak.mk ?_ ?_ ?_ ?_ (Or.inr ⟨(by repeat' first | exact trivial | exact Nat.le_of_ble_eq_true rfl | refine And.intro ?_ ?_), (by repeat' first | exact trivial | exact Nat.le_of_ble_eq_true rfl | refine And.intro ?_ ?_)⟩) | refine Weak.mk ?_ ?_ ?_ ?_ ?_ | refine And.intro ?_ ?_ | with_reducible rfl | exact Nat.le_of_ble_eq_true rfl | refine fr1 ?_ | refine fr2 ?_ ?_ | refine AV.int_congr ?_ | refine AV.bool_congr ?_ | refine AV.str_congr ?_ | refine AV.list_congr ?_ | refine AV.bsl_congr ?_ ?_ | (apply rfl)
    · rw [strs_append]; rfl
    · rw [wrap64 (by omega) (by omega)]; rfl
    · simp
  · have hb := ‹(!d && !Op.bytesLess (l.getD i []) s) = false›
    rw [ins_drop [] d (by omega)] at h3
    refine ⟨(i + 1, o ++ [l.getD i []], d), ⟨by omega, ⟨by simp; omega, fun hd => by have := h2.2 hd; simp; omega⟩, ?_⟩, ?_, by simp only; omega⟩
    · cases d with
      | true => rw [if_pos rfl] at h3; simpa using h3
      | false =>
        have hlt : blt (l.getD i []) s = true := by revert hb; simp [blt]
        rw [if_neg (by simp), if_pos hlt] at h3; simpa using h3
    repeat' first
      | exact trivial | refine Weak.mk ?_ ?_ ?_ ?_ (Or.inl (Nat.le_of_ble_eq_true rfl)) | refine Weak.mk ?_ ?_ ?_ ?_ (Or.inr ⟨(by repeat' first | exact trivial | exact Nat.le_of_ble_eq_true rfl | refine And.intro ?_ ?_), (by repeat' first | exact trivial | exact Nat.le_of_ble_eq_true rfl | refine And.intro ?_ ?_)⟩) | refine Weak.mk ?_ ?_ ?_ ?_ ?_ | refine And.intro ?_ ?_ | with_reducible rfl | exact Nat.le_of_ble_eq_true rfl | refine fr1 ?_ | refine fr2 ?_ ?_ | refine AV.int_congr ?_ | refine AV.bool_congr ?_ | refine AV.str_congr ?_ | refine AV.list_congr ?_ | refine AV.bsl_congr ?_ ?_ | (apply rfl)
    · rw [strs_append]; rfl
    · rw [wrap64 (by omega) (by omega)]; rfl
    · simp
  all_goals rw [List.drop_of_length_le (by omega)] at h3
  · have hd := ‹d = false›
    subst hd
    rw [← h3, strs_append]; rfl
  · have hd := ‹d = false›
    subst hd
    rw [← h3]; simp [ins]
  · have hd := ‹d = true›
    subst hd
    rw [← h3]; simp [ins]
  · have hd := ‹d = true›
    subst hd
    rw [← h3]; simp [ins]
theorem srt_asc (l : List Str) : (srt l).Pairwise fun x y => blt y x = false := by
  have h := List.pairwise_mergeSort (le := fun x y : Str => decide (x ≤ y)) (fun a b c h1 h2 => by simp at *; exact List.le_trans h1 h2) (fun a b => by simp; exact List.le_total a b) l
  exact h.imp fun {x y} hxy => by rw [blt_eq, decide_eq_false_iff_not]; simpa using hxy
theorem srt_mem (l : List Str) (x : Str) : x ∈ srt l ↔ x ∈ l := List.mem_mergeSort
theorem compact_srt (l : List Str) : Lib.compact (srt l) = insAll blt l := by
  obtain ⟨h1, h2⟩ := compact_asc blt_sto (srt l) (srt_asc l)
  exact Asc.unique blt_sto h1 (insAll_asc blt_sto l) fun x => by rw [h2, srt_mem, insAll_mem blt_sto]
theorem slClone.own (l : List Str) (h : l.length ≤ 1048576) : slClone.Own [.list none (strs l)] (strT l) :=
  (slClone.ret l h).own [0] (.l _ _ _ 0 (strs l) (by simp) (by simp) (fun e he => by obtain ⟨s, _, rfl⟩ := List.mem_map.1 he; rfl) (strs_sz _) (own_strs _ l) .nil) (by simp)
theorem pSortedTexts.ret (l : List Str) (h : l.length ≤ 1048576) : pSortedTexts.Ret [.list none (strs l)] (.list (some 0) (strs (insAll blt l))) [(9, 1, (insAll blt l).length)] := by
  refine pSortedTexts.of rfl ?_
  conv => whnf
  refine ACall.unb [.list none (strs l)] (strT l) (slClone.own l h) (.cons (SeesB.of0 (Sees0.olds _ _)) .nil) ?_
  rw [gv_strT, gb_strT]
  conv => whnf
  refine ACall.ctx rfl _ _ _ (slSort.ctx [.cells (.row 9 1) (l.map .str)] 0 l rfl (by omega)) (.lend _ _ noTk_texts .nil) (.cons (.inl ⟨rfl, rfl⟩) .nil) ?_
  rintro r b1 ⟨rfl, rfl⟩
  have hlen : (srt l).length = l.length := List.length_mergeSort _
  conv => whnf
  refine ACall.ctx rfl _ _ _ (slCompact.ctx [.cells (.row 9 1) ((srt l).map .str)] 0 (srt l) rfl (by omega)) (.lend _ _ noTk_texts .nil) (.cons (.inl ⟨by rw [hlen]; rfl, rfl⟩) .nil) ?_
  rintro r b1 ⟨rfl, rfl⟩
  rw [compact_srt]
  conv => whnf
  refine FreezeD.flat (Freeze.mk (strs (insAll blt l)) ((insAll blt l).map .str) 9 1 rfl (strs_flatten _).symm (by simp) (strs_sz _) (fun c hc => ?_) ?_)
  · obtain ⟨s, _, rfl⟩ := List.mem_map.1 hc; rfl
  · exact Final.mk rfl rfl
end Go.Proofs.Ytimcfgokocihnaa
namespace Go.Proofs.Ytimcfgokocihnaa
open Abs
theorem ins_snoc (m : List Str) (x : Str) : insAll blt (m ++ [x]) = ins blt x false (insAll blt m) := by
  have h := insAll_take_succ (lt := blt) (l := m ++ [x]) (i := m.length) [] (by simp)
  rw [List.take_of_length_le (by simp), List.take_append_of_le_length (Nat.le_refl _), List.take_length] at h
  rw [h]; simp
/-- the variables among some texts -/
def vs (l : List Str) : List Str := l.filter varF
theorem insAll_le (l : List Str) : (insAll blt l).length ≤ l.length := insAll_len l
theorem own_row {mo : Bool} {P : Program} {f : Nat} {args : List AV} {F : Fr} {l : List Str} {k : Nat} (hk : F[k]? = some (9, 1, l.length)) (h : Abs.Ret mo P f args (.list (some k) (strs l)) F) : Abs.Own mo P f args (strT l) := by
  refine h.own [k] ?_ (by simp)
  exact .l _ _ _ k (strs l) (by simpa using hk) (by simp) (fun e he => by obtain ⟨s, _, rfl⟩ := List.mem_map.1 he; rfl) (strs_sz _) (own_strs F l) .nil
theorem ins_size (x : Str) : ∀ (d : Bool) (l : List Str), listSize Ty.str (ins blt x d l) ≤ listSize Ty.str l + x.length
  | true, l => by rw [ins_true]; exact Nat.le_add_right _ _
  | false, [] => by rw [ins, if_neg (by simp)]; show x.length + 0 ≤ 0 + x.length; omega
  | false, y :: l => by
    have h1 := ins_size x false l
    have h2 := ins_size x true l
    rw [ins_true] at h2
    rw [ins]
    simp only [ins_true]
    split
    · show y.length + _ ≤ y.length + listSize Ty.str l + x.length; omega
    · split
      · show x.length + (y.length + listSize Ty.str l) ≤ y.length + listSize Ty.str l + x.length; omega
      · show y.length + listSize Ty.str l ≤ y.length + listSize Ty.str l + x.length; omega
theorem insAll_size (l : List Str) : listSize Ty.str (insAll blt l) ≤ listSize Ty.str l := by
  have : ∀ (l a : List Str), listSize Ty.str (l.foldl (fun a s => ins blt s false a) a) ≤ listSize Ty.str a + listSize Ty.str l := fun l => by
    induction l with
    | nil => intro a; exact Nat.le_refl _
    | cons x l ih =>
      intro a
      have h1 := ih (ins blt x false a)
      have h2 := ins_size x false a
      show _ ≤ _ + (x.length + listSize Ty.str l)
      rw [List.foldl_cons]; omega
  have h := this l []
  show _ ≤ _
  rw [show listSize Ty.str [] = 0 from rfl, Nat.zero_add] at h
  exact h
end Go.Proofs.Ytimcfgokocihnaa
namespace Go.Proofs.Ytimcfgokocihnaa
open Abs
def hasKind (k : Int) : Bool := k == 1 || k == 2
theorem tCond_sz (x : VCond) : tCond.size x = x.2.1.1.length + (x.2.1.2.length + listSize Ty.str x.2.1.2) + (x.2.2.1.length + x.2.2.2.length) := by
  have h : tCond.size x = 0 + (tFct.size x.2.1 + (x.2.2.1.length + x.2.2.2.length)) := rfl
  rw [h, tFct_size, tStrs_size]; omega
end Go.Proofs.Ytimcfgokocihnaa
namespace Go.Proofs.Ytimcfgokocihnaa
open Abs Go.RowKit Go.Shelf
theorem own_rowF {F : Fr} {l l' : List Str} {k : Nat} (hk : F[k]? = some (9, 1, l.length)) (e : l = l') : ∃ ts, OwnA F [strT l'] [.list (some k) (strs l)] ts ∧ ts.Nodup := by
  subst e
  exact ⟨[k], .l _ _ _ k (strs l) (by simpa using hk) (by simp) (fun e he => by obtain ⟨s, _, rfl⟩ := List.mem_map.1 he; rfl) (strs_sz _) (own_strs F l) .nil, by simp⟩
end Go.Proofs.Ytimcfgokocihnaa
namespace Go.Proofs.Ytimcfgokocihnaa
open Abs
theorem SeesB.strs {bx : List ABox} {j t : Nat} {l : List Str} (hj : bx[j]? = some (.cells (.row t 1) (strs l).flatten)) : SeesB bx (.bsl j l.length) (.list none (Abs.strs l)) := by
  refine SeesB.bsl hj (by simp) (strs_sz l) ?_
  rw [strs_eq]
  clear hj
  induction l with
  | nil => exact .nil
  | cons s l ih => exact .cons (SeesB.of0 (Sees0.str s)) ih
end Go.Proofs.Ytimcfgokocihnaa
