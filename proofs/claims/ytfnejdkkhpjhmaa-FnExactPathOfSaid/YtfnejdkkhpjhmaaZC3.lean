/-
  What stands below some laws' proofs, part 3: contracts of functions, by an evaluator.
-/
import Derived.Test.YtfnejdkkhpjhmaaZC2
namespace Go.Proofs.Ytfnejdkkhpjhmaa
open Abs
abbrev VNode := Int × VCond × Int × List VToken
instance : DecidableEq VNode := instDecidableEqProd
def tNode : Ty VNode := Ty.pair Ty.int (Ty.pair tCond (Ty.pair Ty.int tTokens))
theorem tNode_size (a : VNode) : tNode.size a = 0 + (tCond.size a.2.1 + (0 + tTokens.size a.2.2.2)) := rfl
theorem tNode_cn : CnB tNode 11 := CnB.pair CnB.int (CnB.pair tCond_cn (CnB.pair CnB.int (CnB.list tToken_cn _)))
def tNodes : Ty (List VNode) := Ty.list 87 tNode
theorem tNodes_sz (l : List VNode) : tNodes.size l = l.length + listSize tNode l := rfl
theorem tNode_get {l : List VNode} {i : Nat} (hi : i < l.length) : l[i]? = some (l.getD i default) := by simp [List.getD, hi]
theorem tNode_le {l : List VNode} {i : Nat} (hi : i < l.length) : tNode.size (l.getD i default) ≤ listSize tNode l := listSize_mem tNode (List.mem_of_getElem? (tNode_get hi))
theorem Abs.ACall.mk_Node {C : Con} {lend : Bool} {f : Nat} {vs : List AV} {b : List ABox} {fr : Fr} {k : AV → List ABox → Fr → Prop} (ys : List AV) (a : VNode) (h : C.ret f ys (.agg (tNode.tk a 0)) (tNode.fr a)) (hv : SeesL Sees0 vs ys)
    (hk : k (.agg (tNode.tk a fr.length)) b (fr ++ tNode.fr a)) : ACall C lend f vs b fr k := ACall.mkA tNode ys a h hv hk
theorem Abs.ACall.mk_NodeS {C : Con} {lend : Bool} {f : Nat} {vs : List AV} {b : List ABox} {fr : Fr} {k : AV → List ABox → Fr → Prop} (ys : List AV) (l : List VNode) (h : C.ret f ys (.list (some (0 + (frs tNode l).length)) (tks tNode l 0)) (tNodes.fr l)) (hv : SeesL Sees0 vs ys)
    (hk : k (.list (some (fr.length + (frs tNode l).length)) (tks tNode l fr.length)) b (fr ++ tNodes.fr l)) : ACall C lend f vs b fr k :=
  ACall.mkV tNodes ys l (fun n => .list (some (n + (frs tNode l).length)) (tks tNode l n)) (fun _ => rfl) h hv hk
theorem toNode.ret (a : VNode) (h : tNode.size a ≤ 1048576) : toNode.Ret [.agg (oldL (tNode.q a))] (.agg (tNode.tk a 0)) (tNode.fr a) := by
  refine toNode.of rfl ?_
  rw [tNode_size] at h
  repeat' first
    | contradiction | exact trivial
    | (conv => whnf
       first | refine Need.mk (fun h => h) ?_ | refine Need.mk rfl ?_ | refine Need.mk ⟨rfl, Nat.le_of_ble_eq_true rfl⟩ ?_ | refine Need.mk (Nat.le_of_ble_eq_true rfl) ?_ | refine Need.fin ?_ | refine Need.mk ?_ ?_ | refine Ix.strsF rfl ?_ | refine Ix.strs rfl ?_ ?_ | refine Cut.strs rfl ?_ ?_ | refine Ix.mapF (fun _ => rfl) ?_ | refine Ix.map (fun _ => rfl) ?_ ?_ | refine Cut.map (fun _ => rfl) ?_ ?_ | refine Fork.yes (by assumption) ?_ | refine Fork.no (by assumption) ?_ | refine Fork.decYes (by omega) ?_ | refine Fork.decNo (by omega) ?_ | refine Fork.dec (fun _ => ?_) (fun _ => ?_) | refine Fork.bne (fun _ => ?_) (fun _ => ?_) | refine Fork.beq (fun _ => ?_) (fun _ => ?_) | refine Fork.seq (fun _ => ?_) (fun _ => ?_) | refine Fork.sne (fun _ => ?_) (fun _ => ?_) | refine Fork.neg (fun _ => ?_) (fun _ => ?_) | refine Fork.mk (fun _ => ?_) (fun _ => ?_) | refine HAlt.mk ?_ ?_ | apply HJoin.mk3 | exact HEnd.mk rfl rfl rfl | refine HEnd.mk ?_ ?_ ?_ | refine Round.mk ?_ | refine NilQ.mk (fun b hb => ?_) | refine forceK_of ?_ | refine forceBx_of ?_ | refine unG_old ?_ | refine unG_gv ?_ | refine Lit.read rfl ?_ | refine LitO.own rfl ?_ | refine FinVal.keep ?_ | refine FinAgg.keep ?_ | refine Final.mk rfl rfl | refine Final.mk ?_ rfl | refine Final.mk ?_ ?_ | refine FinalT.mk ?_ ?_ | refine FinalI.mk ?_ | refine FinalC.allA ?_ | refine ACall.mk_Cond _ _ (toCond.ret _ ?_) (by repeat' first | exact SeesL.nil | refine SeesL.cons ?_ ?_ | exact SeesB.of0 (Sees0.val _) | exact SeesB.of0 (Sees0.str _) | exact SeesB.of0 (Sees0.olds _ _) | exact SeesB.of0 (Sees0.old _) | exact SeesB.of0 (Sees0.oldagg _) | exact SeesB.of0 Sees0.nil | exact Sees0.val _ | exact Sees0.str _ | exact Sees0.olds _ _ | exact Sees0.old _ | exact Sees0.oldagg _ | exact Sees0.nil | exact SeesB.of0 (Sees0.any _) | assumption | exact sees_gv _ _ _ (by assumption) (by first | assumption | exact BoxIn.last _ _ | exact BoxIn.more (BoxIn.last _ _) _) | refine SeesB.agg ?_ | refine Sees0.agg ?_ | exact SeesB.of0 (Sees0.clo SeesL.nil SeesL.nil) | exact Sees0.clo SeesL.nil SeesL.nil | exact SeesB.of0 (Sees0.list rfl) | exact Sees0.list rfl) ?_ | refine ACall.mk_TokenS _ _ (toTokenS.ret _ ?_) (by repeat' first | exact SeesL.nil | refine SeesL.cons ?_ ?_ | exact SeesB.of0 (Sees0.val _) | exact SeesB.of0 (Sees0.str _) | exact SeesB.of0 (Sees0.olds _ _) | exact SeesB.of0 (Sees0.old _) | exact SeesB.of0 (Sees0.oldagg _) | exact SeesB.of0 Sees0.nil | exact Sees0.val _ | exact Sees0.str _ | exact Sees0.olds _ _ | exact Sees0.old _ | exact Sees0.oldagg _ | exact Sees0.nil | exact SeesB.of0 (Sees0.any _) | assumption | exact sees_gv _ _ _ (by assumption) (by first | assumption | exact BoxIn.last _ _ | exact BoxIn.more (BoxIn.last _ _) _) | refine SeesB.agg ?_ | refine Sees0.agg ?_ | exact SeesB.of0 (Sees0.clo SeesL.nil SeesL.nil) | exact Sees0.clo SeesL.nil SeesL.nil | exact SeesB.of0 (Sees0.list rfl) | exact Sees0.list rfl) ?_)
    | refine AV.bool_congr ?_ | refine AV.int_congr ?_ | refine AV.str_congr ?_ | refine AV.list_congr ?_ | with_reducible rfl | refine fr1 ?_ | refine fr2 ?_ ?_
  all_goals first
    | omega
    | (refine congrArg AV.agg ?_
       repeat' first
         | refine cons_congr ?_ ?_
         | refine tok_congr ?_ ?_
         | refine congrArg (tks _ _) ?_
         | rfl
       all_goals (simp [Ty.pair, Ty.str, Ty.int, Ty.bool, Nat.add_assoc]; done))
    | (simp [tNode, Ty.pair, Ty.str, Ty.int, Ty.bool, List.append_assoc, Nat.add_assoc]; done)
theorem szNode.ret (f : VNode) (a : Int) (h0 : 0 ≤ a) (ha : a ≤ 1048576) (hb : tNode.bd f) :
    szNode.Ret [.agg (oldL (tNode.q f)), .val (.int .i64 a)] (.val (.int .i64 (left a (tNode.size f)))) [] := by
  refine szNode.of rfl ?_
  have hz := tNode_size f
  obtain ⟨hb0, hb1, hb2, hb3⟩ := hb
  by_cases c1 : a < (tCond.size f.2.1 : Int)
  · have e0 : left a (tCond.size f.2.1) = -1 := by rw [left, if_pos (by omega)]
    repeat' first
      | contradiction | exact trivial
      | (conv => whnf
         first | refine Need.mk (fun h => h) ?_ | refine Need.mk rfl ?_ | refine Need.mk ⟨rfl, Nat.le_of_ble_eq_true rfl⟩ ?_ | refine Need.mk (Nat.le_of_ble_eq_true rfl) ?_ | refine Need.fin ?_ | refine Need.mk ?_ ?_ | refine Ix.strsF rfl ?_ | refine Ix.strs rfl ?_ ?_ | refine Cut.strs rfl ?_ ?_ | refine Ix.mapF (fun _ => rfl) ?_ | refine Ix.map (fun _ => rfl) ?_ ?_ | refine Cut.map (fun _ => rfl) ?_ ?_ | refine Fork.yes (by assumption) ?_ | refine Fork.no (by assumption) ?_ | refine Fork.decYes (by omega) ?_ | refine Fork.decNo (by omega) ?_ | refine Fork.dec (fun _ => ?_) (fun _ => ?_) | refine Fork.bne (fun _ => ?_) (fun _ => ?_) | refine Fork.beq (fun _ => ?_) (fun _ => ?_) | refine Fork.seq (fun _ => ?_) (fun _ => ?_) | refine Fork.sne (fun _ => ?_) (fun _ => ?_) | refine Fork.neg (fun _ => ?_) (fun _ => ?_) | refine Fork.mk (fun _ => ?_) (fun _ => ?_) | refine HAlt.mk ?_ ?_ | apply HJoin.mk3 | exact HEnd.mk rfl rfl rfl | refine HEnd.mk ?_ ?_ ?_ | refine Round.mk ?_ | refine NilQ.mk (fun b hb => ?_) | refine forceK_of ?_ | refine forceBx_of ?_ | refine unG_old ?_ | refine unG_gv ?_ | refine Lit.read rfl ?_ | refine LitO.own rfl ?_ | refine FinVal.keep ?_ | refine FinAgg.keep ?_ | refine Final.mk rfl rfl | refine Final.mk ?_ rfl | refine Final.mk ?_ ?_ | refine FinalT.mk ?_ ?_ | refine FinalI.mk ?_ | refine FinalC.allA ?_ | refine ACall.scalA _ _ (szCond.ret _ _ ?_ ?_ ?_) rfl ?_ | refine AQCall.mkA _ _ (fun hg => szCond.ret _ _ ?_ ?_ ?_) rfl ?_ | refine AGCall.mkA _ _ (fun hg => szCond.ret _ _ ?_ ?_ ?_) rfl ?_ | refine ACall.scalA _ _ (szTokenS.ret _ _ ?_ ?_ ?_) rfl ?_ | refine AQCall.mkA _ _ (fun hg => szTokenS.ret _ _ ?_ ?_ ?_) rfl ?_ | refine AGCall.mkA _ _ (fun hg => szTokenS.ret _ _ ?_ ?_ ?_) rfl ?_)
      | refine AV.bool_congr ?_ | refine AV.int_congr ?_ | refine AV.str_congr ?_ | refine AV.list_congr ?_ | with_reducible rfl | refine fr1 ?_ | refine fr2 ?_ ?_
    all_goals first
      | assumption
      | omega
      | exact left_eq (by omega)
  by_cases c2 : a < (tCond.size f.2.1 : Int) + (tTokens.size f.2.2.2 : Int)
  · have e0 : left a (tCond.size f.2.1) = a - (tCond.size f.2.1 : Int) := by rw [left, if_neg (by omega)]
    have e1 : left (left a (tCond.size f.2.1)) (tTokens.size f.2.2.2) = -1 := by rw [e0, left, if_pos (by omega)]
    repeat' first
      | contradiction | exact trivial
      | (conv => whnf
         first | refine Need.mk (fun h => h) ?_ | refine Need.mk rfl ?_ | refine Need.mk ⟨rfl, Nat.le_of_ble_eq_true rfl⟩ ?_ | refine Need.mk (Nat.le_of_ble_eq_true rfl) ?_ | refine Need.fin ?_ | refine Need.mk ?_ ?_ | refine Ix.strsF rfl ?_ | refine Ix.strs rfl ?_ ?_ | refine Cut.strs rfl ?_ ?_ | refine Ix.mapF (fun _ => rfl) ?_ | refine Ix.map (fun _ => rfl) ?_ ?_ | refine Cut.map (fun _ => rfl) ?_ ?_ | refine Fork.yes (by assumption) ?_ | refine Fork.no (by assumption) ?_ | refine Fork.decYes (by omega) ?_ | refine Fork.decNo (by omega) ?_ | refine Fork.dec (fun _ => ?_) (fun _ => ?_) | refine Fork.bne (fun _ => ?_) (fun _ => ?_) | refine Fork.beq (fun _ => ?_) (fun _ => ?_) | refine Fork.seq (fun _ => ?_) (fun _ => ?_) | refine Fork.sne (fun _ => ?_) (fun _ => ?_) | refine Fork.neg (fun _ => ?_) (fun _ => ?_) | refine Fork.mk (fun _ => ?_) (fun _ => ?_) | refine HAlt.mk ?_ ?_ | apply HJoin.mk3 | exact HEnd.mk rfl rfl rfl | refine HEnd.mk ?_ ?_ ?_ | refine Round.mk ?_ | refine NilQ.mk (fun b hb => ?_) | refine forceK_of ?_ | refine forceBx_of ?_ | refine unG_old ?_ | refine unG_gv ?_ | refine Lit.read rfl ?_ | refine LitO.own rfl ?_ | refine FinVal.keep ?_ | refine FinAgg.keep ?_ | refine Final.mk rfl rfl | refine Final.mk ?_ rfl | refine Final.mk ?_ ?_ | refine FinalT.mk ?_ ?_ | refine FinalI.mk ?_ | refine FinalC.allA ?_ | refine ACall.scalA _ _ (szCond.ret _ _ ?_ ?_ ?_) rfl ?_ | refine AQCall.mkA _ _ (fun hg => szCond.ret _ _ ?_ ?_ ?_) rfl ?_ | refine AGCall.mkA _ _ (fun hg => szCond.ret _ _ ?_ ?_ ?_) rfl ?_ | refine ACall.scalA _ _ (szTokenS.ret _ _ ?_ ?_ ?_) rfl ?_ | refine AQCall.mkA _ _ (fun hg => szTokenS.ret _ _ ?_ ?_ ?_) rfl ?_ | refine AGCall.mkA _ _ (fun hg => szTokenS.ret _ _ ?_ ?_ ?_) rfl ?_)
      | refine AV.bool_congr ?_ | refine AV.int_congr ?_ | refine AV.str_congr ?_ | refine AV.list_congr ?_ | with_reducible rfl | refine fr1 ?_ | refine fr2 ?_ ?_
    all_goals first
      | assumption
      | omega
      | exact left_eq (by omega)
  have e0 : left a (tCond.size f.2.1) = a - (tCond.size f.2.1 : Int) := by rw [left, if_neg (by omega)]
  have e1 : left (left a (tCond.size f.2.1)) (tTokens.size f.2.2.2) = a - (tCond.size f.2.1 : Int) - (tTokens.size f.2.2.2 : Int) := by rw [e0, left, if_neg (by omega)]
  repeat' first
    | contradiction | exact trivial
    | (conv => whnf
       first | refine Need.mk (fun h => h) ?_ | refine Need.mk rfl ?_ | refine Need.mk ⟨rfl, Nat.le_of_ble_eq_true rfl⟩ ?_ | refine Need.mk (Nat.le_of_ble_eq_true rfl) ?_ | refine Need.fin ?_ | refine Need.mk ?_ ?_ | refine Ix.strsF rfl ?_ | refine Ix.strs rfl ?_ ?_ | refine Cut.strs rfl ?_ ?_ | refine Ix.mapF (fun _ => rfl) ?_ | refine Ix.map (fun _ => rfl) ?_ ?_ | refine Cut.map (fun _ => rfl) ?_ ?_ | refine Fork.yes (by assumption) ?_ | refine Fork.no (by assumption) ?_ | refine Fork.decYes (by omega) ?_ | refine Fork.decNo (by omega) ?_ | refine Fork.dec (fun _ => ?_) (fun _ => ?_) | refine Fork.bne (fun _ => ?_) (fun _ => ?_) | refine Fork.beq (fun _ => ?_) (fun _ => ?_) | refine Fork.seq (fun _ => ?_) (fun _ => ?_) | refine Fork.sne (fun _ => ?_) (fun _ => ?_) | refine Fork.neg (fun _ => ?_) (fun _ => ?_) | refine Fork.mk (fun _ => ?_) (fun _ => ?_) | refine HAlt.mk ?_ ?_ | apply HJoin.mk3 | exact HEnd.mk rfl rfl rfl | refine HEnd.mk ?_ ?_ ?_ | refine Round.mk ?_ | refine NilQ.mk (fun b hb => ?_) | refine forceK_of ?_ | refine forceBx_of ?_ | refine unG_old ?_ | refine unG_gv ?_ | refine Lit.read rfl ?_ | refine LitO.own rfl ?_ | refine FinVal.keep ?_ | refine FinAgg.keep ?_ | refine Final.mk rfl rfl | refine Final.mk ?_ rfl | refine Final.mk ?_ ?_ | refine FinalT.mk ?_ ?_ | refine FinalI.mk ?_ | refine FinalC.allA ?_ | refine ACall.scalA _ _ (szCond.ret _ _ ?_ ?_ ?_) rfl ?_ | refine AQCall.mkA _ _ (fun hg => szCond.ret _ _ ?_ ?_ ?_) rfl ?_ | refine AGCall.mkA _ _ (fun hg => szCond.ret _ _ ?_ ?_ ?_) rfl ?_ | refine ACall.scalA _ _ (szTokenS.ret _ _ ?_ ?_ ?_) rfl ?_ | refine AQCall.mkA _ _ (fun hg => szTokenS.ret _ _ ?_ ?_ ?_) rfl ?_ | refine AGCall.mkA _ _ (fun hg => szTokenS.ret _ _ ?_ ?_ ?_) rfl ?_)
    | refine AV.bool_congr ?_ | refine AV.int_congr ?_ | refine AV.str_congr ?_ | refine AV.list_congr ?_ | with_reducible rfl | refine fr1 ?_ | refine fr2 ?_ ?_
  all_goals first
    | assumption
    | omega
    | exact left_eq (by omega)
theorem eqNode.big (f g : VNode) (h : tNode.size f ≤ 1099511627775) : eqNode.Ret [.agg (oldL (tNode.q f)), .agg (oldL (tNode.q g))] (.val (.bool (decide (f = g)))) [] := by
  refine eqNode.of rfl ?_
  have hz := tNode_size f
  repeat' first
    | contradiction | exact trivial
    | (conv => whnf
       first | refine Need.mk (fun h => h) ?_ | refine Need.mk rfl ?_ | refine Need.mk ⟨rfl, Nat.le_of_ble_eq_true rfl⟩ ?_ | refine Need.mk (Nat.le_of_ble_eq_true rfl) ?_ | refine Need.fin ?_ | refine Need.mk ?_ ?_ | refine Ix.strsF rfl ?_ | refine Ix.strs rfl ?_ ?_ | refine Cut.strs rfl ?_ ?_ | refine Ix.mapF (fun _ => rfl) ?_ | refine Ix.map (fun _ => rfl) ?_ ?_ | refine Cut.map (fun _ => rfl) ?_ ?_ | refine Fork.yes (by assumption) ?_ | refine Fork.no (by assumption) ?_ | refine Fork.decYes (by omega) ?_ | refine Fork.decNo (by omega) ?_ | refine Fork.dec (fun _ => ?_) (fun _ => ?_) | refine Fork.bne (fun _ => ?_) (fun _ => ?_) | refine Fork.beq (fun _ => ?_) (fun _ => ?_) | refine Fork.seq (fun _ => ?_) (fun _ => ?_) | refine Fork.sne (fun _ => ?_) (fun _ => ?_) | refine Fork.neg (fun _ => ?_) (fun _ => ?_) | refine Fork.mk (fun _ => ?_) (fun _ => ?_) | refine HAlt.mk ?_ ?_ | apply HJoin.mk3 | exact HEnd.mk rfl rfl rfl | refine HEnd.mk ?_ ?_ ?_ | refine Round.mk ?_ | refine NilQ.mk (fun b hb => ?_) | refine forceK_of ?_ | refine forceBx_of ?_ | refine unG_old ?_ | refine unG_gv ?_ | refine Lit.read rfl ?_ | refine LitO.own rfl ?_ | refine FinVal.keep ?_ | refine FinAgg.keep ?_ | refine Final.mk rfl rfl | refine Final.mk ?_ rfl | refine Final.mk ?_ ?_ | refine FinalT.mk ?_ ?_ | refine FinalI.mk ?_ | refine FinalC.allA ?_ | refine ACall.scalA _ _ (eqCond.big _ _ ?_) rfl ?_ | refine AQCall.mkA _ _ (fun hg => eqCond.big _ _ ?_) rfl ?_ | refine AGCall.mkA _ _ (fun hg => eqCond.big _ _ ?_) rfl ?_ | refine ACall.scalA _ _ (eqTokenS.big _ _ ?_) rfl ?_ | refine AQCall.mkA _ _ (fun hg => eqTokenS.big _ _ ?_) rfl ?_ | refine AGCall.mkA _ _ (fun hg => eqTokenS.big _ _ ?_) rfl ?_)
    | refine AV.bool_congr ?_ | refine AV.int_congr ?_ | refine AV.str_congr ?_ | refine AV.list_congr ?_ | with_reducible rfl | refine fr1 ?_ | refine fr2 ?_ ?_
  all_goals first
    | omega
    | (simp only [tStrs_size, tInts_size] at *; omega)
    | (obtain ⟨x0, ⟨x10, ⟨x110, x111⟩, x12, x13⟩, x2, x3⟩ := f; obtain ⟨y0, ⟨y10, ⟨y110, y111⟩, y12, y13⟩, y2, y3⟩ := g; simp_all)
theorem toNodeS.ret (l : List VNode) (h : tNodes.size l ≤ 1048576) : toNodeS.Ret [.list none (rows tNode l)] (.list (some (0 + (frs tNode l).length)) (tks tNode l 0)) (tNodes.fr l) := by
  refine toNodeS.of rfl ?_
  rw [tNodes_sz] at h
  repeat' first
    | contradiction | exact trivial
    | (conv => whnf
       first | refine Need.mk (fun h => h) ?_ | refine Need.mk rfl ?_ | refine Need.mk ⟨rfl, Nat.le_of_ble_eq_true rfl⟩ ?_ | refine Need.mk (Nat.le_of_ble_eq_true rfl) ?_ | refine Need.fin ?_ | refine Need.mk ?_ ?_ | refine Ix.strsF rfl ?_ | refine Ix.strs rfl ?_ ?_ | refine Cut.strs rfl ?_ ?_ | refine Ix.mapF (fun _ => rfl) ?_ | refine Ix.map (fun _ => rfl) ?_ ?_ | refine Cut.map (fun _ => rfl) ?_ ?_ | refine Fork.yes (by assumption) ?_ | refine Fork.no (by assumption) ?_ | refine Fork.decYes (by omega) ?_ | refine Fork.decNo (by omega) ?_ | refine Fork.dec (fun _ => ?_) (fun _ => ?_) | refine Fork.bne (fun _ => ?_) (fun _ => ?_) | refine Fork.beq (fun _ => ?_) (fun _ => ?_) | refine Fork.seq (fun _ => ?_) (fun _ => ?_) | refine Fork.sne (fun _ => ?_) (fun _ => ?_) | refine Fork.neg (fun _ => ?_) (fun _ => ?_) | refine Fork.mk (fun _ => ?_) (fun _ => ?_) | refine HAlt.mk ?_ ?_ | apply HJoin.mk3 | exact HEnd.mk rfl rfl rfl | refine HEnd.mk ?_ ?_ ?_ | refine Round.mk ?_ | refine NilQ.mk (fun b hb => ?_) | refine forceK_of ?_ | refine forceBx_of ?_ | refine unG_old ?_ | refine unG_gv ?_ | refine Lit.read rfl ?_ | refine LitO.own rfl ?_ | refine FinVal.keep ?_ | refine FinAgg.keep ?_ | refine Final.mk rfl rfl | refine Final.mk ?_ rfl | refine Final.mk ?_ ?_ | refine FinalT.mk ?_ ?_ | refine FinalI.mk ?_ | refine FinalC.allA ?_)
    | refine AV.bool_congr ?_ | refine AV.int_congr ?_ | refine AV.str_congr ?_ | refine AV.list_congr ?_ | with_reducible rfl | refine fr1 ?_ | refine fr2 ?_ ?_
  refine ALoop.mk Nat (fun i => ⟨[(0, .list none (rows tNode l)), (3, .bsl 0 l.length), (4, .val (.int .i64 i))], [.cells (.row 87 8) (part [.val (.int .i64 0), .val (.int .i64 0), .str [], .val (.slice none 0 0), .str [], .str [], .val (.int .i64 0), .val (.slice none 0 0)] (tks tNode l 0) i)], frs tNode (l.take i)⟩) (fun i => i ≤ l.length) (fun i => l.length - i) ⟨0, Nat.zero_le _, ?_⟩ (fun i hi => ?_)
  · repeat' first
      | exact trivial | refine Weak.mk ?_ ?_ ?_ ?_ (Or.inl (Nat.le_of_ble_eq_true rfl)) | refine Weak.mk ?_ ?_ ?_ ?_ (Or.inr ⟨(by repeat' first | exact trivial | exact Nat.le_of_ble_eq_true rfl | refine And.intro ?_ ?_), (by repeat' first | exact trivial | exact Nat.le_of_ble_eq_true rfl | refine And.intro ?_ ?_)⟩) | refine Weak.mk ?_ ?_ ?_ ?_ ?_ | refine And.intro ?_ ?_ | with_reducible rfl | exact Nat.le_of_ble_eq_true rfl | refine fr1 ?_ | refine fr2 ?_ ?_ | refine AV.int_congr ?_ | refine AV.bool_congr ?_ | refine AV.str_congr ?_ | refine AV.list_congr ?_ | refine AV.bsl_congr ?_ ?_ | (apply rfl)
    · simp
    · simp only [List.nil_append, List.length_cons, List.length_nil, List.take_succ_cons, List.take_zero]
      rw [part_made (xs := tks tNode l 0) (sz := 8) rfl (by decide) (by simp [length_tks])]; rfl
  repeat' first
    | contradiction | exact trivial
    | (conv => whnf
       first | refine Need.mk (fun h => h) ?_ | refine Need.mk rfl ?_ | refine Need.mk ⟨rfl, Nat.le_of_ble_eq_true rfl⟩ ?_ | refine Need.mk (Nat.le_of_ble_eq_true rfl) ?_ | refine Need.fin ?_ | refine Need.mk ?_ ?_ | refine Ix.strsF rfl ?_ | refine Ix.strs rfl ?_ ?_ | refine Cut.strs rfl ?_ ?_ | refine Ix.mapF (fun _ => rfl) ?_ | refine Ix.map (fun _ => rfl) ?_ ?_ | refine Cut.map (fun _ => rfl) ?_ ?_ | refine Fork.yes (by assumption) ?_ | refine Fork.no (by assumption) ?_ | refine Fork.decYes (by omega) ?_ | refine Fork.decNo (by omega) ?_ | refine Fork.dec (fun _ => ?_) (fun _ => ?_) | refine Fork.bne (fun _ => ?_) (fun _ => ?_) | refine Fork.beq (fun _ => ?_) (fun _ => ?_) | refine Fork.seq (fun _ => ?_) (fun _ => ?_) | refine Fork.sne (fun _ => ?_) (fun _ => ?_) | refine Fork.neg (fun _ => ?_) (fun _ => ?_) | refine Fork.mk (fun _ => ?_) (fun _ => ?_) | refine HAlt.mk ?_ ?_ | apply HJoin.mk3 | exact HEnd.mk rfl rfl rfl | refine HEnd.mk ?_ ?_ ?_ | refine Round.mk ?_ | refine NilQ.mk (fun b hb => ?_) | refine forceK_of ?_ | refine forceBx_of ?_ | refine unG_old ?_ | refine unG_gv ?_ | refine Lit.read rfl ?_ | refine LitO.own rfl ?_ | refine FinVal.keep ?_ | refine FinAgg.keep ?_ | refine Final.mk rfl rfl | refine Final.mk ?_ rfl | refine Final.mk ?_ ?_ | refine FinalT.mk ?_ ?_ | refine FinalI.mk ?_ | refine FinalC.allA ?_ | refine ACall.mk_Node _ _ (toNode.ret _ ?_) (by repeat' first | exact SeesL.nil | refine SeesL.cons ?_ ?_ | exact SeesB.of0 (Sees0.val _) | exact SeesB.of0 (Sees0.str _) | exact SeesB.of0 (Sees0.olds _ _) | exact SeesB.of0 (Sees0.old _) | exact SeesB.of0 (Sees0.oldagg _) | exact SeesB.of0 Sees0.nil | exact Sees0.val _ | exact Sees0.str _ | exact Sees0.olds _ _ | exact Sees0.old _ | exact Sees0.oldagg _ | exact Sees0.nil | exact SeesB.of0 (Sees0.any _) | assumption | exact sees_gv _ _ _ (by assumption) (by first | assumption | exact BoxIn.last _ _ | exact BoxIn.more (BoxIn.last _ _) _) | refine SeesB.agg ?_ | refine Sees0.agg ?_ | exact SeesB.of0 (Sees0.clo SeesL.nil SeesL.nil) | exact Sees0.clo SeesL.nil SeesL.nil | exact SeesB.of0 (Sees0.list rfl) | exact Sees0.list rfl) ?_)
    | refine AV.bool_congr ?_ | refine AV.int_congr ?_ | refine AV.str_congr ?_ | refine AV.list_congr ?_ | with_reducible rfl | refine fr1 ?_ | refine fr2 ?_ ?_
  · rename_i h1
    rw [length_rows] at h1
    have := listSize_mem tNode (List.mem_of_getElem? (tNode_get (l := l) (i := i) (by omega)))
    rw [Int.toNat_natCast]; omega
  · rename_i h1
    rw [length_rows] at h1
    rw [part_len (sz := 8) rfl (tks_sz tNode l 0) (by rw [length_tks]; exact hi), Int.toNat_natCast, length_tks]
    exact ⟨rfl, by omega⟩
  · rename_i h1
    rw [length_rows] at h1
    refine ⟨i + 1, by omega, ?_, by omega⟩
    repeat' first
      | exact trivial | refine Weak.mk ?_ ?_ ?_ ?_ (Or.inl (Nat.le_of_ble_eq_true rfl)) | refine Weak.mk ?_ ?_ ?_ ?_ (Or.inr ⟨(by repeat' first | exact trivial | exact Nat.le_of_ble_eq_true rfl | refine And.intro ?_ ?_), (by repeat' first | exact trivial | exact Nat.le_of_ble_eq_true rfl | refine And.intro ?_ ?_)⟩) | refine Weak.mk ?_ ?_ ?_ ?_ ?_ | refine And.intro ?_ ?_ | with_reducible rfl | exact Nat.le_of_ble_eq_true rfl | refine fr1 ?_ | refine fr2 ?_ ?_ | refine AV.int_congr ?_ | refine AV.bool_congr ?_ | refine AV.str_congr ?_ | refine AV.list_congr ?_ | refine AV.bsl_congr ?_ ?_ | (apply rfl)
    · rw [wrap64 (by omega) (by omega)]; rfl
    · have := part_set (z := [.val (.int .i64 0), .val (.int .i64 0), .str [], .val (.slice none 0 0), .str [], .str [], .val (.int .i64 0), .val (.slice none 0 0)]) (sz := 8) rfl (tks_sz tNode l 0) (tks_get tNode 0 (tNode_get (l := l) (i := i) (by omega)))
      rw [Nat.zero_add] at this
      simp only [List.set_cons_zero, List.take_succ_cons, List.take_zero, List.length_cons, List.length_nil, Int.toNat_natCast, this]
    · show frs tNode (l.take i) ++ tNode.fr (l.getD (i : Int).toNat default) = frs tNode (l.take (i + 1))
      rw [Int.toNat_natCast, take_succ' default (by omega), frs_append]; simp [frs]
  · rename_i h1
    rw [length_rows] at h1
    conv => whnf
    have : i = l.length := by omega
    subst this
    have hall := part_all [.val (.int .i64 0), .val (.int .i64 0), .str [], .val (.slice none 0 0), .str [], .str [], .val (.int .i64 0), .val (.slice none 0 0)] (tks tNode l 0)
    rw [length_tks] at hall
    refine FreezeD.flat (Freeze.mk (tks tNode l 0) _ 87 8 rfl hall (length_tks _ _ _) (tks_sz tNode l 0) (fun c hc => ?_) ?_)
    · rw [hall] at hc; exact tks_nr tNode l 0 c hc
    · refine Final.mk ?_ ?_
      · rw [List.take_length, Nat.zero_add]
      · rw [List.take_length]; rfl
theorem szNodeS.ret (l : List VNode) (a : Int) (h0 : 0 ≤ a) (ha : a ≤ 1048576) (hb : tNodes.bd l) :
    szNodeS.Ret [.list none (rows tNode l), .val (.int .i64 a)] (.val (.int .i64 (left a (tNodes.size l)))) [] := by
  refine szNodeS.of rfl ?_
  obtain ⟨hl, hb⟩ := hb
  have hw : IntKind.i64.wrap (a - ((rows tNode l).length : Int)) = a - l.length := by rw [length_rows]; exact wrap64 (by omega) (by omega)
  have hz := tNodes_sz l
  repeat' first
    | contradiction | exact trivial
    | (conv => whnf
       first | refine Need.mk (fun h => h) ?_ | refine Need.mk rfl ?_ | refine Need.mk ⟨rfl, Nat.le_of_ble_eq_true rfl⟩ ?_ | refine Need.mk (Nat.le_of_ble_eq_true rfl) ?_ | refine Need.fin ?_ | refine Need.mk ?_ ?_ | refine Ix.strsF rfl ?_ | refine Ix.strs rfl ?_ ?_ | refine Cut.strs rfl ?_ ?_ | refine Ix.mapF (fun _ => rfl) ?_ | refine Ix.map (fun _ => rfl) ?_ ?_ | refine Cut.map (fun _ => rfl) ?_ ?_ | refine Fork.yes (by assumption) ?_ | refine Fork.no (by assumption) ?_ | refine Fork.decYes (by omega) ?_ | refine Fork.decNo (by omega) ?_ | refine Fork.dec (fun _ => ?_) (fun _ => ?_) | refine Fork.bne (fun _ => ?_) (fun _ => ?_) | refine Fork.beq (fun _ => ?_) (fun _ => ?_) | refine Fork.seq (fun _ => ?_) (fun _ => ?_) | refine Fork.sne (fun _ => ?_) (fun _ => ?_) | refine Fork.neg (fun _ => ?_) (fun _ => ?_) | refine Fork.mk (fun _ => ?_) (fun _ => ?_) | refine HAlt.mk ?_ ?_ | apply HJoin.mk3 | exact HEnd.mk rfl rfl rfl | refine HEnd.mk ?_ ?_ ?_ | refine Round.mk ?_ | refine NilQ.mk (fun b hb => ?_) | refine forceK_of ?_ | refine forceBx_of ?_ | refine unG_old ?_ | refine unG_gv ?_ | refine Lit.read rfl ?_ | refine LitO.own rfl ?_ | refine FinVal.keep ?_ | refine FinAgg.keep ?_ | refine Final.mk rfl rfl | refine Final.mk ?_ rfl | refine Final.mk ?_ ?_ | refine FinalT.mk ?_ ?_ | refine FinalI.mk ?_ | refine FinalC.allA ?_)
    | refine AV.bool_congr ?_ | refine AV.int_congr ?_ | refine AV.str_congr ?_ | refine AV.list_congr ?_ | with_reducible rfl | refine fr1 ?_ | refine fr2 ?_ ?_
  · rename_i h
    rw [hw] at h
    rw [left, if_pos (by omega)]
  rename_i h
  rw [hw] at h
  repeat' first
    | contradiction | exact trivial
    | (conv => whnf
       first | refine Need.mk (fun h => h) ?_ | refine Need.mk rfl ?_ | refine Need.mk ⟨rfl, Nat.le_of_ble_eq_true rfl⟩ ?_ | refine Need.mk (Nat.le_of_ble_eq_true rfl) ?_ | refine Need.fin ?_ | refine Need.mk ?_ ?_ | refine Ix.strsF rfl ?_ | refine Ix.strs rfl ?_ ?_ | refine Cut.strs rfl ?_ ?_ | refine Ix.mapF (fun _ => rfl) ?_ | refine Ix.map (fun _ => rfl) ?_ ?_ | refine Cut.map (fun _ => rfl) ?_ ?_ | refine Fork.yes (by assumption) ?_ | refine Fork.no (by assumption) ?_ | refine Fork.decYes (by omega) ?_ | refine Fork.decNo (by omega) ?_ | refine Fork.dec (fun _ => ?_) (fun _ => ?_) | refine Fork.bne (fun _ => ?_) (fun _ => ?_) | refine Fork.beq (fun _ => ?_) (fun _ => ?_) | refine Fork.seq (fun _ => ?_) (fun _ => ?_) | refine Fork.sne (fun _ => ?_) (fun _ => ?_) | refine Fork.neg (fun _ => ?_) (fun _ => ?_) | refine Fork.mk (fun _ => ?_) (fun _ => ?_) | refine HAlt.mk ?_ ?_ | apply HJoin.mk3 | exact HEnd.mk rfl rfl rfl | refine HEnd.mk ?_ ?_ ?_ | refine Round.mk ?_ | refine NilQ.mk (fun b hb => ?_) | refine forceK_of ?_ | refine forceBx_of ?_ | refine unG_old ?_ | refine unG_gv ?_ | refine Lit.read rfl ?_ | refine LitO.own rfl ?_ | refine FinVal.keep ?_ | refine FinAgg.keep ?_ | refine Final.mk rfl rfl | refine Final.mk ?_ rfl | refine Final.mk ?_ ?_ | refine FinalT.mk ?_ ?_ | refine FinalI.mk ?_ | refine FinalC.allA ?_)
    | refine AV.bool_congr ?_ | refine AV.int_congr ?_ | refine AV.str_congr ?_ | refine AV.list_congr ?_ | with_reducible rfl | refine fr1 ?_ | refine fr2 ?_ ?_
  refine ALoop.mk Nat (fun i => ⟨[(0, .list none (rows tNode l)), (1, .val (.int .i64 (a - l.length - listSize tNode (l.take i)))), (5, .val (.int .i64 i))], [], []⟩) (fun i => i ≤ l.length ∧ (0 : Int) ≤ a - l.length - listSize tNode (l.take i)) (fun i => l.length - i) ⟨0, ⟨Nat.zero_le _, by simp [listSize]; omega⟩, ?_⟩ (fun i hi => ?_)
  · repeat' first
      | exact trivial | refine Weak.mk ?_ ?_ ?_ ?_ (Or.inl (Nat.le_of_ble_eq_true rfl)) | refine Weak.mk ?_ ?_ ?_ ?_ (Or.inr ⟨(by repeat' first | exact trivial | exact Nat.le_of_ble_eq_true rfl | refine And.intro ?_ ?_), (by repeat' first | exact trivial | exact Nat.le_of_ble_eq_true rfl | refine And.intro ?_ ?_)⟩) | refine Weak.mk ?_ ?_ ?_ ?_ ?_ | refine And.intro ?_ ?_ | with_reducible rfl | exact Nat.le_of_ble_eq_true rfl | refine fr1 ?_ | refine fr2 ?_ ?_ | refine AV.int_congr ?_ | refine AV.bool_congr ?_ | refine AV.str_congr ?_ | refine AV.list_congr ?_ | refine AV.bsl_congr ?_ ?_ | (apply rfl)
    rw [hw]; simp [listSize]
  obtain ⟨hp1, hp2⟩ := hi
  have hle := listSize_take_le tNode l (i + 1)
  have hbi : i < l.length → tNode.bd (l.getD i default) := fun h => hb _ (List.mem_of_getElem? (tNode_get h))
  have hsz : i < l.length → listSize tNode (l.take (i + 1)) = listSize tNode (l.take i) + tNode.size (l.getD i default) := fun h => listSize_take_succ tNode (tNode_get h)
  repeat' first
    | contradiction | exact trivial
    | (conv => whnf
       first | refine Need.mk (fun h => h) ?_ | refine Need.mk rfl ?_ | refine Need.mk ⟨rfl, Nat.le_of_ble_eq_true rfl⟩ ?_ | refine Need.mk (Nat.le_of_ble_eq_true rfl) ?_ | refine Need.fin ?_ | refine Need.mk ?_ ?_ | refine Ix.strsF rfl ?_ | refine Ix.strs rfl ?_ ?_ | refine Cut.strs rfl ?_ ?_ | refine Ix.mapF (fun _ => rfl) ?_ | refine Ix.map (fun _ => rfl) ?_ ?_ | refine Cut.map (fun _ => rfl) ?_ ?_ | refine Fork.yes (by assumption) ?_ | refine Fork.no (by assumption) ?_ | refine Fork.decYes (by omega) ?_ | refine Fork.decNo (by omega) ?_ | refine Fork.dec (fun _ => ?_) (fun _ => ?_) | refine Fork.bne (fun _ => ?_) (fun _ => ?_) | refine Fork.beq (fun _ => ?_) (fun _ => ?_) | refine Fork.seq (fun _ => ?_) (fun _ => ?_) | refine Fork.sne (fun _ => ?_) (fun _ => ?_) | refine Fork.neg (fun _ => ?_) (fun _ => ?_) | refine Fork.mk (fun _ => ?_) (fun _ => ?_) | refine HAlt.mk ?_ ?_ | apply HJoin.mk3 | exact HEnd.mk rfl rfl rfl | refine HEnd.mk ?_ ?_ ?_ | refine Round.mk ?_ | refine NilQ.mk (fun b hb => ?_) | refine forceK_of ?_ | refine forceBx_of ?_ | refine unG_old ?_ | refine unG_gv ?_ | refine Lit.read rfl ?_ | refine LitO.own rfl ?_ | refine FinVal.keep ?_ | refine FinAgg.keep ?_ | refine Final.mk rfl rfl | refine Final.mk ?_ rfl | refine Final.mk ?_ ?_ | refine FinalT.mk ?_ ?_ | refine FinalI.mk ?_ | refine FinalC.allA ?_ | refine ACall.scalA _ _ (szNode.ret _ _ ?_ ?_ ?_) rfl ?_ | refine AQCall.mkA _ _ (fun hg => szNode.ret _ _ ?_ ?_ ?_) rfl ?_ | refine AGCall.mkA _ _ (fun hg => szNode.ret _ _ ?_ ?_ ?_) rfl ?_)
    | refine AV.bool_congr ?_ | refine AV.int_congr ?_ | refine AV.str_congr ?_ | refine AV.list_congr ?_ | with_reducible rfl | refine fr1 ?_ | refine fr2 ?_ ?_
  · exact hp2
  · omega
  · rename_i h1
    rw [length_rows] at h1
    rw [Int.toNat_natCast]; exact hbi (by omega)
  · rename_i h1 h2
    rw [length_rows] at h1
    rw [Int.toNat_natCast] at h2
    have := hsz (by omega)
    unfold left at h2 ⊢
    split at h2
    · rw [if_pos (by omega)]
    · omega
  · rename_i h1 h2
    rw [length_rows] at h1
    rw [Int.toNat_natCast] at h2
    have := hsz (by omega)
    have e : left (a - ↑l.length - ↑(listSize tNode (l.take i))) (tNode.size (l.getD i default)) = a - ↑l.length - ↑(listSize tNode (l.take (i + 1))) := by
      unfold left at h2 ⊢
      split at h2
      · omega
      · rw [if_neg ‹_›]; omega
    refine ⟨i + 1, ⟨by omega, ?_⟩, ?_, by omega⟩
    · rw [← e]; omega
    · repeat' first
        | exact trivial | refine Weak.mk ?_ ?_ ?_ ?_ (Or.inl (Nat.le_of_ble_eq_true rfl)) | refine Weak.mk ?_ ?_ ?_ ?_ (Or.inr ⟨(by repeat' first | exact trivial | exact Nat.le_of_ble_eq_true rfl | refine And.intro ?_ ?_), (by repeat' first | exact trivial | exact Nat.le_of_ble_eq_true rfl | refine And.intro ?_ ?_)⟩) | refine Weak.mk ?_ ?_ ?_ ?_ ?_ | refine And.intro ?_ ?_ | with_reducible rfl | exact Nat.le_of_ble_eq_true rfl | refine fr1 ?_ | refine fr2 ?_ ?_ | refine AV.int_congr ?_ | refine AV.bool_congr ?_ | refine AV.str_congr ?_ | refine AV.list_congr ?_ | refine AV.bsl_congr ?_ ?_ | (apply rfl)
      · rw [Int.toNat_natCast]; exact e
      · rw [wrap64 (by omega) (by omega)]; rfl
  · rename_i h1
    rw [length_rows] at h1
    rw [List.take_of_length_le (by omega)] at hp2 ⊢
    rw [left, if_neg (by omega)]; omega
theorem eqNodeS.big (l m : List VNode) (h : tNodes.size l ≤ 1099511627775) : eqNodeS.Ret [.list none (rows tNode l), .list none (rows tNode m)] (.val (.bool (decide (l = m)))) [] := by
  refine eqNodeS.of rfl ?_
  rw [tNodes_sz] at h
  repeat' first
    | contradiction | exact trivial
    | (conv => whnf
       first | refine Need.mk (fun h => h) ?_ | refine Need.mk rfl ?_ | refine Need.mk ⟨rfl, Nat.le_of_ble_eq_true rfl⟩ ?_ | refine Need.mk (Nat.le_of_ble_eq_true rfl) ?_ | refine Need.fin ?_ | refine Need.mk ?_ ?_ | refine Ix.strsF rfl ?_ | refine Ix.strs rfl ?_ ?_ | refine Cut.strs rfl ?_ ?_ | refine Ix.mapF (fun _ => rfl) ?_ | refine Ix.map (fun _ => rfl) ?_ ?_ | refine Cut.map (fun _ => rfl) ?_ ?_ | refine Fork.yes (by assumption) ?_ | refine Fork.no (by assumption) ?_ | refine Fork.decYes (by omega) ?_ | refine Fork.decNo (by omega) ?_ | refine Fork.dec (fun _ => ?_) (fun _ => ?_) | refine Fork.bne (fun _ => ?_) (fun _ => ?_) | refine Fork.beq (fun _ => ?_) (fun _ => ?_) | refine Fork.seq (fun _ => ?_) (fun _ => ?_) | refine Fork.sne (fun _ => ?_) (fun _ => ?_) | refine Fork.neg (fun _ => ?_) (fun _ => ?_) | refine Fork.mk (fun _ => ?_) (fun _ => ?_) | refine HAlt.mk ?_ ?_ | apply HJoin.mk3 | exact HEnd.mk rfl rfl rfl | refine HEnd.mk ?_ ?_ ?_ | refine Round.mk ?_ | refine NilQ.mk (fun b hb => ?_) | refine forceK_of ?_ | refine forceBx_of ?_ | refine unG_old ?_ | refine unG_gv ?_ | refine Lit.read rfl ?_ | refine LitO.own rfl ?_ | refine FinVal.keep ?_ | refine FinAgg.keep ?_ | refine Final.mk rfl rfl | refine Final.mk ?_ rfl | refine Final.mk ?_ ?_ | refine FinalT.mk ?_ ?_ | refine FinalI.mk ?_ | refine FinalC.allA ?_)
    | refine AV.bool_congr ?_ | refine AV.int_congr ?_ | refine AV.str_congr ?_ | refine AV.list_congr ?_ | with_reducible rfl | refine fr1 ?_ | refine fr2 ?_ ?_
  · rename_i h
    rw [length_rows, length_rows] at h
    have h3 : ¬ l = m := fun e => h (by rw [e])
    simp [h3]
  rename_i h
  rw [length_rows, length_rows] at h
  have h : l.length = m.length := by omega
  repeat' first
    | contradiction | exact trivial
    | (conv => whnf
       first | refine Need.mk (fun h => h) ?_ | refine Need.mk rfl ?_ | refine Need.mk ⟨rfl, Nat.le_of_ble_eq_true rfl⟩ ?_ | refine Need.mk (Nat.le_of_ble_eq_true rfl) ?_ | refine Need.fin ?_ | refine Need.mk ?_ ?_ | refine Ix.strsF rfl ?_ | refine Ix.strs rfl ?_ ?_ | refine Cut.strs rfl ?_ ?_ | refine Ix.mapF (fun _ => rfl) ?_ | refine Ix.map (fun _ => rfl) ?_ ?_ | refine Cut.map (fun _ => rfl) ?_ ?_ | refine Fork.yes (by assumption) ?_ | refine Fork.no (by assumption) ?_ | refine Fork.decYes (by omega) ?_ | refine Fork.decNo (by omega) ?_ | refine Fork.dec (fun _ => ?_) (fun _ => ?_) | refine Fork.bne (fun _ => ?_) (fun _ => ?_) | refine Fork.beq (fun _ => ?_) (fun _ => ?_) | refine Fork.seq (fun _ => ?_) (fun _ => ?_) | refine Fork.sne (fun _ => ?_) (fun _ => ?_) | refine Fork.neg (fun _ => ?_) (fun _ => ?_) | refine Fork.mk (fun _ => ?_) (fun _ => ?_) | refine HAlt.mk ?_ ?_ | apply HJoin.mk3 | exact HEnd.mk rfl rfl rfl | refine HEnd.mk ?_ ?_ ?_ | refine Round.mk ?_ | refine NilQ.mk (fun b hb => ?_) | refine forceK_of ?_ | refine forceBx_of ?_ | refine unG_old ?_ | refine unG_gv ?_ | refine Lit.read rfl ?_ | refine LitO.own rfl ?_ | refine FinVal.keep ?_ | refine FinAgg.keep ?_ | refine Final.mk rfl rfl | refine Final.mk ?_ rfl | refine Final.mk ?_ ?_ | refine FinalT.mk ?_ ?_ | refine FinalI.mk ?_ | refine FinalC.allA ?_)
    | refine AV.bool_congr ?_ | refine AV.int_congr ?_ | refine AV.str_congr ?_ | refine AV.list_congr ?_ | with_reducible rfl | refine fr1 ?_ | refine fr2 ?_ ?_
  refine ALoop.mk Nat (fun i => ⟨[(0, .list none (rows tNode l)), (1, .list none (rows tNode m)), (5, .val (.int .i64 i))], [], []⟩) (fun i => i ≤ l.length ∧ l.take i = m.take i) (fun i => l.length - i) ⟨0, ⟨Nat.zero_le _, rfl⟩, ?_⟩ (fun i hi => ?_)
  · repeat' first
      | exact trivial | refine Weak.mk ?_ ?_ ?_ ?_ (Or.inl (Nat.le_of_ble_eq_true rfl)) | refine Weak.mk ?_ ?_ ?_ ?_ (Or.inr ⟨(by repeat' first | exact trivial | exact Nat.le_of_ble_eq_true rfl | refine And.intro ?_ ?_), (by repeat' first | exact trivial | exact Nat.le_of_ble_eq_true rfl | refine And.intro ?_ ?_)⟩) | refine Weak.mk ?_ ?_ ?_ ?_ ?_ | refine And.intro ?_ ?_ | with_reducible rfl | exact Nat.le_of_ble_eq_true rfl | refine fr1 ?_ | refine fr2 ?_ ?_ | refine AV.int_congr ?_ | refine AV.bool_congr ?_ | refine AV.str_congr ?_ | refine AV.list_congr ?_ | refine AV.bsl_congr ?_ ?_ | (apply rfl)
  repeat' first
    | contradiction | exact trivial
    | (conv => whnf
       first | refine Need.mk (fun h => h) ?_ | refine Need.mk rfl ?_ | refine Need.mk ⟨rfl, Nat.le_of_ble_eq_true rfl⟩ ?_ | refine Need.mk (Nat.le_of_ble_eq_true rfl) ?_ | refine Need.fin ?_ | refine Need.mk ?_ ?_ | refine Ix.strsF rfl ?_ | refine Ix.strs rfl ?_ ?_ | refine Cut.strs rfl ?_ ?_ | refine Ix.mapF (fun _ => rfl) ?_ | refine Ix.map (fun _ => rfl) ?_ ?_ | refine Cut.map (fun _ => rfl) ?_ ?_ | refine Fork.yes (by assumption) ?_ | refine Fork.no (by assumption) ?_ | refine Fork.decYes (by omega) ?_ | refine Fork.decNo (by omega) ?_ | refine Fork.dec (fun _ => ?_) (fun _ => ?_) | refine Fork.bne (fun _ => ?_) (fun _ => ?_) | refine Fork.beq (fun _ => ?_) (fun _ => ?_) | refine Fork.seq (fun _ => ?_) (fun _ => ?_) | refine Fork.sne (fun _ => ?_) (fun _ => ?_) | refine Fork.neg (fun _ => ?_) (fun _ => ?_) | refine Fork.mk (fun _ => ?_) (fun _ => ?_) | refine HAlt.mk ?_ ?_ | apply HJoin.mk3 | exact HEnd.mk rfl rfl rfl | refine HEnd.mk ?_ ?_ ?_ | refine Round.mk ?_ | refine NilQ.mk (fun b hb => ?_) | refine forceK_of ?_ | refine forceBx_of ?_ | refine unG_old ?_ | refine unG_gv ?_ | refine Lit.read rfl ?_ | refine LitO.own rfl ?_ | refine FinVal.keep ?_ | refine FinAgg.keep ?_ | refine Final.mk rfl rfl | refine Final.mk ?_ rfl | refine Final.mk ?_ ?_ | refine FinalT.mk ?_ ?_ | refine FinalI.mk ?_ | refine FinalC.allA ?_ | refine ACall.scalA _ _ (eqNode.big _ _ ?_) rfl ?_ | refine AQCall.mkA _ _ (fun hg => eqNode.big _ _ ?_) rfl ?_ | refine AGCall.mkA _ _ (fun hg => eqNode.big _ _ ?_) rfl ?_)
    | refine AV.bool_congr ?_ | refine AV.int_congr ?_ | refine AV.str_congr ?_ | refine AV.list_congr ?_ | with_reducible rfl | refine fr1 ?_ | refine fr2 ?_ ?_
  · rename_i h1
    rw [length_rows] at h1
    have := listSize_mem tNode (List.mem_of_getElem? (tNode_get (l := l) (i := i) (by omega)))
    rw [Int.toNat_natCast]; omega
  · rename_i h1 h2
    have h3 : ¬ l = m := fun e => of_decide_eq_false h2 (by rw [e])
    simp [h3]
  · rename_i h1 h2
    rw [length_rows] at h1
    rw [Int.toNat_natCast] at h2
    refine ⟨i + 1, ⟨by omega, ?_⟩, ?_, by omega⟩
    · rw [take_succ' default (by omega), take_succ' (l := m) default (by omega), hi.2, of_decide_eq_true h2]
    · repeat' first
        | exact trivial | refine Weak.mk ?_ ?_ ?_ ?_ (Or.inl (Nat.le_of_ble_eq_true rfl)) | refine Weak.mk ?_ ?_ ?_ ?_ (Or.inr ⟨(by repeat' first | exact trivial | exact Nat.le_of_ble_eq_true rfl | refine And.intro ?_ ?_), (by repeat' first | exact trivial | exact Nat.le_of_ble_eq_true rfl | refine And.intro ?_ ?_)⟩) | refine Weak.mk ?_ ?_ ?_ ?_ ?_ | refine And.intro ?_ ?_ | with_reducible rfl | exact Nat.le_of_ble_eq_true rfl | refine fr1 ?_ | refine fr2 ?_ ?_ | refine AV.int_congr ?_ | refine AV.bool_congr ?_ | refine AV.str_congr ?_ | refine AV.list_congr ?_ | refine AV.bsl_congr ?_ ?_ | (apply rfl)
      rw [wrap64 (by omega) (by omega)]; rfl
  · rename_i h1
    rw [length_rows] at h1
    have h2 := hi.2
    rw [List.take_of_length_le (by omega), List.take_of_length_le (by omega)] at h2
    simp [h2]
set_option maxHeartbeats 2000000 in
theorem markNodeS.tn (l : List VNode) (k : Nat) (hs : tNodes.size l ≤ 1099511627775) (hk : k + cn (.l 87 8 (l.map tNode.q)) ≤ 1099511627775) :
    markNodeS.Turn (gb (.l 87 8 (l.map tNode.q)) 0) [gv (.l 87 8 (l.map tNode.q)) 0, .val (.int .i64 k)] (.val (.int .i64 ((k + cn (.l 87 8 (l.map tNode.q)) : Nat)))) (gb (mk (.l 87 8 (l.map tNode.q)) k) 0) := by
  refine markNodeS.ofT rfl rfl (by rw [length_gb, nb_mk]) ?_
  obtain ⟨cs, hcs⟩ : ∃ cs, cs = (l.map tNode.q).flatten := ⟨_, rfl⟩
  have hlen : cs.length = l.length * 8 := by rw [hcs]; exact flat_len _ 8 tNode.hq l
  have hc0 : ∀ i, i < l.length → cs[i * 8 + 0]? = some (.v (.int .i64 (l.getD i default).1)) := fun i hi => by rw [hcs]; exact cell_at tNode.q 8 tNode.hq hi rfl
  have hc1 : ∀ i, i < l.length → cs[i * 8 + 1]? = some (.v (.int .i64 (l.getD i default).2.1.1)) := fun i hi => by rw [hcs]; exact cell_at tNode.q 8 tNode.hq hi rfl
  have hc2 : ∀ i, i < l.length → cs[i * 8 + 2]? = some (.s (l.getD i default).2.1.2.1.1) := fun i hi => by rw [hcs]; exact cell_at tNode.q 8 tNode.hq hi rfl
  have hc3 : ∀ i, i < l.length → cs[i * 8 + 3]? = some (.l 9 1 ((l.getD i default).2.1.2.1.2.map Ty.str.q)) := fun i hi => by rw [hcs]; exact cell_at tNode.q 8 tNode.hq hi rfl
  have hc4 : ∀ i, i < l.length → cs[i * 8 + 4]? = some (.s (l.getD i default).2.1.2.2.1) := fun i hi => by rw [hcs]; exact cell_at tNode.q 8 tNode.hq hi rfl
  have hc5 : ∀ i, i < l.length → cs[i * 8 + 5]? = some (.s (l.getD i default).2.1.2.2.2) := fun i hi => by rw [hcs]; exact cell_at tNode.q 8 tNode.hq hi rfl
  have hc6 : ∀ i, i < l.length → cs[i * 8 + 6]? = some (.v (.int .i64 (l.getD i default).2.2.1)) := fun i hi => by rw [hcs]; exact cell_at tNode.q 8 tNode.hq hi rfl
  have hc7 : ∀ i, i < l.length → cs[i * 8 + 7]? = some (.l 154 2 ((l.getD i default).2.2.2.map tToken.q)) := fun i hi => by rw [hcs]; exact cell_at tNode.q 8 tNode.hq hi rfl
  rw [gb_mk_l0, gb_l0, cn_l, gv, List.length_map, ← hcs]
  rw [cn_l, ← hcs] at hk
  clear hcs
  repeat' first
    | contradiction | exact trivial
    | (conv => whnf
       first | refine Need.mk (fun h => h) ?_ | refine Need.mk rfl ?_ | refine Need.mk ⟨rfl, Nat.le_of_ble_eq_true rfl⟩ ?_ | refine Need.mk (Nat.le_of_ble_eq_true rfl) ?_ | refine Need.fin ?_ | refine Need.mk ⟨rfl, by simp only [length_setAt, List.length_set, length_gvL, length_st, Int.toNat_natCast]; omega⟩ ?_ | refine Need.mk ?_ ?_ | refine Ix.strsF rfl ?_ | refine Ix.strs rfl ?_ ?_ | refine Cut.strs rfl ?_ ?_ | refine Ix.mapF (fun _ => rfl) ?_ | refine Ix.map (fun _ => rfl) ?_ ?_ | refine Cut.map (fun _ => rfl) ?_ ?_ | refine Fork.yes (by assumption) ?_ | refine Fork.no (by assumption) ?_ | refine Fork.decYes (by omega) ?_ | refine Fork.decNo (by omega) ?_ | refine Fork.dec (fun _ => ?_) (fun _ => ?_) | refine Fork.bne (fun _ => ?_) (fun _ => ?_) | refine Fork.beq (fun _ => ?_) (fun _ => ?_) | refine Fork.seq (fun _ => ?_) (fun _ => ?_) | refine Fork.sne (fun _ => ?_) (fun _ => ?_) | refine Fork.neg (fun _ => ?_) (fun _ => ?_) | refine Fork.mk (fun _ => ?_) (fun _ => ?_) | refine HAlt.mk ?_ ?_ | apply HJoin.mk3 | exact HEnd.mk rfl rfl rfl | refine HEnd.mk ?_ ?_ ?_ | refine Round.mk ?_ | refine NilQ.mk (fun b hb => ?_) | refine forceK_of ?_ | refine forceBx_of ?_ | refine unG_old ?_ | refine unG_gv ?_ | refine Lit.read rfl ?_ | refine LitO.own rfl ?_ | refine FinVal.keep ?_ | refine FinAgg.keep ?_ | refine Final.mk rfl rfl | refine Final.mk ?_ rfl | refine Final.mk ?_ ?_ | refine FinalT.mk ?_ ?_ | refine FinalI.mk ?_ | refine FinalC.allA ?_)
    | refine AV.bool_congr ?_ | refine AV.int_congr ?_ | refine AV.str_congr ?_ | refine AV.list_congr ?_ | with_reducible rfl | refine fr1 ?_ | refine fr2 ?_ ?_
  refine ALoop.mk Nat (fun i => ⟨[(0, .bsl 0 l.length), (1, .val (.int .i64 ((k + cnC (cs.take (i * 8)) : Nat)))), (5, .val (.int .i64 i))], .cells (.row 87 8) (gvL (st cs k (i * 8)) 1) :: gbL (st cs k (i * 8)) 1, []⟩) (fun i => i ≤ l.length) (fun i => l.length - i) ⟨0, Nat.zero_le _, ?_⟩ (fun i hi => ?_)
  · refine weak_st ⟨rfl, ?_, rfl, trivial⟩ ?_ ?_ rfl ?_
    · rw [Nat.zero_mul]; rfl
    · rw [Nat.zero_mul, st_zero]
    · rw [Nat.zero_mul, st_zero]
    · rw [Nat.zero_mul, st_zero, List.length_cons]; exact Nat.le_refl _
  have hle := cn_take_le cs (i * 8)
  rw [tNodes_sz] at hs
  rcases Nat.lt_or_ge i l.length with hlt | hge
  rotate_left
  · have hiw : i * 8 = cs.length := by omega
    repeat' first
      | contradiction | exact trivial
      | (conv => whnf
         first | refine Need.mk (fun h => h) ?_ | refine Need.mk rfl ?_ | refine Need.mk ⟨rfl, Nat.le_of_ble_eq_true rfl⟩ ?_ | refine Need.mk (Nat.le_of_ble_eq_true rfl) ?_ | refine Need.fin ?_ | refine Need.mk ⟨rfl, by simp only [length_setAt, List.length_set, length_gvL, length_st, Int.toNat_natCast]; omega⟩ ?_ | refine Need.mk ?_ ?_ | refine Ix.strsF rfl ?_ | refine Ix.strs rfl ?_ ?_ | refine Cut.strs rfl ?_ ?_ | refine Ix.mapF (fun _ => rfl) ?_ | refine Ix.map (fun _ => rfl) ?_ ?_ | refine Cut.map (fun _ => rfl) ?_ ?_ | refine Fork.yes (by assumption) ?_ | refine Fork.no (by assumption) ?_ | refine Fork.decYes (by omega) ?_ | refine Fork.decNo (by omega) ?_ | refine Fork.dec (fun _ => ?_) (fun _ => ?_) | refine Fork.bne (fun _ => ?_) (fun _ => ?_) | refine Fork.beq (fun _ => ?_) (fun _ => ?_) | refine Fork.seq (fun _ => ?_) (fun _ => ?_) | refine Fork.sne (fun _ => ?_) (fun _ => ?_) | refine Fork.neg (fun _ => ?_) (fun _ => ?_) | refine Fork.mk (fun _ => ?_) (fun _ => ?_) | refine HAlt.mk ?_ ?_ | apply HJoin.mk3 | exact HEnd.mk rfl rfl rfl | refine HEnd.mk ?_ ?_ ?_ | refine Round.mk ?_ | refine NilQ.mk (fun b hb => ?_) | refine forceK_of ?_ | refine forceBx_of ?_ | refine unG_old ?_ | refine unG_gv ?_ | refine Lit.read rfl ?_ | refine LitO.own rfl ?_ | refine FinVal.keep ?_ | refine FinAgg.keep ?_ | refine Final.mk rfl rfl | refine Final.mk ?_ rfl | refine Final.mk ?_ ?_ | refine FinalT.mk ?_ ?_ | refine FinalI.mk ?_ | refine FinalC.allA ?_)
      | refine AV.bool_congr ?_ | refine AV.int_congr ?_ | refine AV.str_congr ?_ | refine AV.list_congr ?_ | with_reducible rfl | refine fr1 ?_ | refine fr2 ?_ ?_
    · rw [hiw, List.take_length]
    · rw [hiw, st_all cs k rfl]; exact take_all (by rw [List.length_cons, List.length_cons, length_gbL, length_gbL, nbL_mkC]; exact Nat.le_refl _)
  have hi1 : (i + 1) * 8 = i * 8 + 8 := by omega
  have hsz := tNode_le hlt
  have hz35 := tNode_size (l.getD i default)
  have hz36 := tCond_size (l.getD i default).2.1
  have hz37 := tPattern_size (l.getD i default).2.1.2.1
  have l0 := cn_take_le cs (i * 8 + 1)
  have n0 : cnC (cs.take (i * 8 + 1)) = cnC (cs.take (i * 8)) + 1 := cn_succ (hc0 i hlt)
  have w0 : IntKind.i64.wrap (((k + cnC (cs.take (i * 8)) : Nat) : Int) + 1) = ((k + cnC (cs.take (i * 8 + 1)) : Nat) : Int) := by rw [wrap64 (by omega) (by omega)]; omega
  have b0 : gbL (st cs k (i * 8 + 1)) 1 = gbL (st cs k (i * 8)) 1 := gbL_st k 1 (hc0 i hlt) rfl
  have g0 : gvL (st cs k (i * 8 + 1)) 1 = (gvL (st cs k (i * 8)) 1).set (i * 8) (.val (.int .i64 (((k + cnC (cs.take (i * 8)) : Nat) : Int)))) := gvL_st k 1 (hc0 i hlt)
  have l1 := cn_take_le cs (i * 8 + 2)
  have n1 : cnC (cs.take (i * 8 + 2)) = cnC (cs.take (i * 8 + 1)) + 1 := cn_succ (hc1 i hlt)
  have w1 : IntKind.i64.wrap (IntKind.i64.wrap (((k + cnC (cs.take (i * 8)) : Nat) : Int) + 1) + 1) = ((k + cnC (cs.take (i * 8 + 2)) : Nat) : Int) := by rw [w0, wrap64 (by omega) (by omega)]; omega
  have b1 : gbL (st cs k (i * 8 + 2)) 1 = gbL (st cs k (i * 8 + 1)) 1 := gbL_st k 1 (hc1 i hlt) rfl
  have g1 : gvL (st cs k (i * 8 + 2)) 1 = (gvL (st cs k (i * 8 + 1)) 1).set (i * 8 + 1) (.val (.int .i64 (IntKind.i64.wrap (((k + cnC (cs.take (i * 8)) : Nat) : Int) + 1)))) := by rw [w0]; exact gvL_st k 1 (hc1 i hlt)
  have l2 := cn_take_le cs (i * 8 + 3)
  have n2 : cnC (cs.take (i * 8 + 3)) = cnC (cs.take (i * 8 + 2)) + 1 := cn_succ (hc2 i hlt)
  have w2 : IntKind.i64.wrap (IntKind.i64.wrap (IntKind.i64.wrap (((k + cnC (cs.take (i * 8)) : Nat) : Int) + 1) + 1) + 1) = ((k + cnC (cs.take (i * 8 + 3)) : Nat) : Int) := by rw [w1, wrap64 (by omega) (by omega)]; omega
  have b2 : gbL (st cs k (i * 8 + 3)) 1 = gbL (st cs k (i * 8 + 2)) 1 := gbL_st k 1 (hc2 i hlt) rfl
  have g2 : gvL (st cs k (i * 8 + 3)) 1 = (gvL (st cs k (i * 8 + 2)) 1).set (i * 8 + 2) (.str (markF (k + cnC (cs.take (i * 8 + 2))))) := gvL_st k 1 (hc2 i hlt)
  repeat' first
    | contradiction | exact trivial
    | (conv => whnf
       first | refine Need.mk (fun h => h) ?_ | refine Need.mk rfl ?_ | refine Need.mk ⟨rfl, Nat.le_of_ble_eq_true rfl⟩ ?_ | refine Need.mk (Nat.le_of_ble_eq_true rfl) ?_ | refine Need.fin ?_ | refine Need.mk ⟨rfl, by simp only [length_setAt, List.length_set, length_gvL, length_st, Int.toNat_natCast]; omega⟩ ?_ | refine Need.mk ?_ ?_ | refine Ix.strsF rfl ?_ | refine Ix.strs rfl ?_ ?_ | refine Cut.strs rfl ?_ ?_ | refine Ix.mapF (fun _ => rfl) ?_ | refine Ix.map (fun _ => rfl) ?_ ?_ | refine Cut.map (fun _ => rfl) ?_ ?_ | refine Fork.yes (by assumption) ?_ | refine Fork.no (by assumption) ?_ | refine Fork.decYes (by omega) ?_ | refine Fork.decNo (by omega) ?_ | refine Fork.dec (fun _ => ?_) (fun _ => ?_) | refine Fork.bne (fun _ => ?_) (fun _ => ?_) | refine Fork.beq (fun _ => ?_) (fun _ => ?_) | refine Fork.seq (fun _ => ?_) (fun _ => ?_) | refine Fork.sne (fun _ => ?_) (fun _ => ?_) | refine Fork.neg (fun _ => ?_) (fun _ => ?_) | refine Fork.mk (fun _ => ?_) (fun _ => ?_) | refine HAlt.mk ?_ ?_ | apply HJoin.mk3 | exact HEnd.mk rfl rfl rfl | refine HEnd.mk ?_ ?_ ?_ | refine Round.mk ?_ | refine NilQ.mk (fun b hb => ?_) | refine forceK_of ?_ | refine forceBx_of ?_ | refine unG_old ?_ | refine unG_gv ?_ | refine Lit.read rfl ?_ | refine LitO.own rfl ?_ | refine FinVal.keep ?_ | refine FinAgg.keep ?_ | refine Final.mk rfl rfl | refine Final.mk ?_ rfl | refine Final.mk ?_ ?_ | refine FinalT.mk ?_ ?_ | refine FinalI.mk ?_ | refine FinalC.allA ?_)
    | refine AV.bool_congr ?_ | refine AV.int_congr ?_ | refine AV.str_congr ?_ | refine AV.list_congr ?_ | with_reducible rfl | refine fr1 ?_ | refine fr2 ?_ ?_
  conv => whnf
  refine ACall.scal [.val (.int .i64 ((k + cnC (cs.take (i * 8 + 2)) : Nat)))] _ (markText.ret (k + cnC (cs.take (i * 8 + 2))) (by omega)) rfl (.cons (SeesB.of0 (by rw [w1]; exact Sees0.val _)) .nil) ?_
  repeat' first
    | contradiction | exact trivial
    | (conv => whnf
       first | refine Need.mk (fun h => h) ?_ | refine Need.mk rfl ?_ | refine Need.mk ⟨rfl, Nat.le_of_ble_eq_true rfl⟩ ?_ | refine Need.mk (Nat.le_of_ble_eq_true rfl) ?_ | refine Need.fin ?_ | refine Need.mk ⟨rfl, by simp only [length_setAt, List.length_set, length_gvL, length_st, Int.toNat_natCast]; omega⟩ ?_ | refine Need.mk ?_ ?_ | refine Ix.strsF rfl ?_ | refine Ix.strs rfl ?_ ?_ | refine Cut.strs rfl ?_ ?_ | refine Ix.mapF (fun _ => rfl) ?_ | refine Ix.map (fun _ => rfl) ?_ ?_ | refine Cut.map (fun _ => rfl) ?_ ?_ | refine Fork.yes (by assumption) ?_ | refine Fork.no (by assumption) ?_ | refine Fork.decYes (by omega) ?_ | refine Fork.decNo (by omega) ?_ | refine Fork.dec (fun _ => ?_) (fun _ => ?_) | refine Fork.bne (fun _ => ?_) (fun _ => ?_) | refine Fork.beq (fun _ => ?_) (fun _ => ?_) | refine Fork.seq (fun _ => ?_) (fun _ => ?_) | refine Fork.sne (fun _ => ?_) (fun _ => ?_) | refine Fork.neg (fun _ => ?_) (fun _ => ?_) | refine Fork.mk (fun _ => ?_) (fun _ => ?_) | refine HAlt.mk ?_ ?_ | apply HJoin.mk3 | exact HEnd.mk rfl rfl rfl | refine HEnd.mk ?_ ?_ ?_ | refine Round.mk ?_ | refine NilQ.mk (fun b hb => ?_) | refine forceK_of ?_ | refine forceBx_of ?_ | refine unG_old ?_ | refine unG_gv ?_ | refine Lit.read rfl ?_ | refine LitO.own rfl ?_ | refine FinVal.keep ?_ | refine FinAgg.keep ?_ | refine Final.mk rfl rfl | refine Final.mk ?_ rfl | refine Final.mk ?_ ?_ | refine FinalT.mk ?_ ?_ | refine FinalI.mk ?_ | refine FinalC.allA ?_)
    | refine AV.bool_congr ?_ | refine AV.int_congr ?_ | refine AV.str_congr ?_ | refine AV.list_congr ?_ | with_reducible rfl | refine fr1 ?_ | refine fr2 ?_ ?_
  have l3 := cn_take_le cs (i * 8 + 4)
  have n3 : cnC (cs.take (i * 8 + 4)) = cnC (cs.take (i * 8 + 3)) + cn (.l 9 1 ((l.getD i default).2.1.2.1.2.map Ty.str.q)) := cn_succ (hc3 i hlt)
  have g3 : gvL (st cs k (i * 8 + 4)) 1 = gvL (st cs k (i * 8 + 3)) 1 := gvL_stL k 1 (hc3 i hlt)
  have t3 : markStringS.Turn (gb (.l 9 1 ((l.getD i default).2.1.2.1.2.map Ty.str.q)) 0) [gv (.l 9 1 ((l.getD i default).2.1.2.1.2.map Ty.str.q)) 0, .val (.int .i64 ((k + cnC (cs.take (i * 8 + 3)) : Nat)))] (.val (.int .i64 ((k + cnC (cs.take (i * 8 + 4)) : Nat)))) (gb (mk (.l 9 1 ((l.getD i default).2.1.2.1.2.map Ty.str.q)) (k + cnC (cs.take (i * 8 + 3)))) 0) := by
    have h := markStringS.tn (l.getD i default).2.1.2.1.2 (k + cnC (cs.take (i * 8 + 3))) (by omega) (by omega)
    rw [Nat.add_assoc, ← n3] at h; exact h
  have d3 : ((((gvL (st cs k (i * 8)) 1).set (i * 8) (.val (.int .i64 (((k + cnC (cs.take (i * 8)) : Nat) : Int))))).set (i * 8 + 1) (.val (.int .i64 (IntKind.i64.wrap (((k + cnC (cs.take (i * 8)) : Nat) : Int) + 1))))).set (i * 8 + 2) (.str (markF (k + cnC (cs.take (i * 8 + 2)))))).drop (i * 8 + 3) = gv (.l 9 1 ((l.getD i default).2.1.2.1.2.map Ty.str.q)) (1 + nbL (cs.take (i * 8 + 3))) :: gvL (cs.drop (i * 8 + 3 + 1)) (1 + nbL (cs.take (i * 8 + 3)) + nb (.l 9 1 ((l.getD i default).2.1.2.1.2.map Ty.str.q))) := by
    have h := ld_st k 1 (hc3 i hlt)
    try simp only [Nat.add_zero] at h
    rw [g2, g1, g0] at h
    exact h
  conv => whnf
  refine takeAV_one (n := 1) _ _ d3 ?_
  conv => whnf
  refine ACall.turn' (.cells (.row 87 8) ((((gvL (st cs k (i * 8)) 1).set (i * 8) (.val (.int .i64 (((k + cnC (cs.take (i * 8)) : Nat) : Int))))).set (i * 8 + 1) (.val (.int .i64 (IntKind.i64.wrap (((k + cnC (cs.take (i * 8)) : Nat) : Int) + 1))))).set (i * 8 + 2) (.str (markF (k + cnC (cs.take (i * 8 + 2)))))) :: gbL (st cs k (i * 8 + 4)) 1) [gv (.l 9 1 ((l.getD i default).2.1.2.1.2.map Ty.str.q)) 0, .val (.int .i64 ((k + cnC (cs.take (i * 8 + 3)) : Nat)))] (.l 9 1 ((l.getD i default).2.1.2.1.2.map Ty.str.q)) (mk (.l 9 1 ((l.getD i default).2.1.2.1.2.map Ty.str.q)) (k + cnC (cs.take (i * 8 + 3)))) _ (.cells (.row 87 8) ((((gvL (st cs k (i * 8)) 1).set (i * 8) (.val (.int .i64 (((k + cnC (cs.take (i * 8)) : Nat) : Int))))).set (i * 8 + 1) (.val (.int .i64 (IntKind.i64.wrap (((k + cnC (cs.take (i * 8)) : Nat) : Int) + 1))))).set (i * 8 + 2) (.str (markF (k + cnC (cs.take (i * 8 + 2)))))) :: gbL (mkC (cs.take (i * 8 + 3)) k) 1) (gbL (cs.drop (i * 8 + 3 + 1)) (1 + nbL (cs.take (i * 8 + 3)) + nb (.l 9 1 ((l.getD i default).2.1.2.1.2.map Ty.str.q)))) t3 rfl ?_ (nb_mk _ _) (.cons (.inl ⟨by rw [pre_st]; rfl, rfl⟩) (.cons (.inr (by rw [w2]; exact Sees0.val _)) .nil)) ?_ ?_
  · rw [← b0]; rw [← b1]; rw [← b2]; exact bx_st k (hc3 i hlt) _
  · exact bx_st' k (hc3 i hlt) _
  repeat' first
    | contradiction | exact trivial
    | (conv => whnf
       first | refine Need.mk (fun h => h) ?_ | refine Need.mk rfl ?_ | refine Need.mk ⟨rfl, Nat.le_of_ble_eq_true rfl⟩ ?_ | refine Need.mk (Nat.le_of_ble_eq_true rfl) ?_ | refine Need.fin ?_ | refine Need.mk ⟨rfl, by simp only [length_setAt, List.length_set, length_gvL, length_st, Int.toNat_natCast]; omega⟩ ?_ | refine Need.mk ?_ ?_ | refine Ix.strsF rfl ?_ | refine Ix.strs rfl ?_ ?_ | refine Cut.strs rfl ?_ ?_ | refine Ix.mapF (fun _ => rfl) ?_ | refine Ix.map (fun _ => rfl) ?_ ?_ | refine Cut.map (fun _ => rfl) ?_ ?_ | refine Fork.yes (by assumption) ?_ | refine Fork.no (by assumption) ?_ | refine Fork.decYes (by omega) ?_ | refine Fork.decNo (by omega) ?_ | refine Fork.dec (fun _ => ?_) (fun _ => ?_) | refine Fork.bne (fun _ => ?_) (fun _ => ?_) | refine Fork.beq (fun _ => ?_) (fun _ => ?_) | refine Fork.seq (fun _ => ?_) (fun _ => ?_) | refine Fork.sne (fun _ => ?_) (fun _ => ?_) | refine Fork.neg (fun _ => ?_) (fun _ => ?_) | refine Fork.mk (fun _ => ?_) (fun _ => ?_) | refine HAlt.mk ?_ ?_ | apply HJoin.mk3 | exact HEnd.mk rfl rfl rfl | refine HEnd.mk ?_ ?_ ?_ | refine Round.mk ?_ | refine NilQ.mk (fun b hb => ?_) | refine forceK_of ?_ | refine forceBx_of ?_ | refine unG_old ?_ | refine unG_gv ?_ | refine Lit.read rfl ?_ | refine LitO.own rfl ?_ | refine FinVal.keep ?_ | refine FinAgg.keep ?_ | refine Final.mk rfl rfl | refine Final.mk ?_ rfl | refine Final.mk ?_ ?_ | refine FinalT.mk ?_ ?_ | refine FinalI.mk ?_ | refine FinalC.allA ?_)
    | refine AV.bool_congr ?_ | refine AV.int_congr ?_ | refine AV.str_congr ?_ | refine AV.list_congr ?_ | with_reducible rfl | refine fr1 ?_ | refine fr2 ?_ ?_
  have l4 := cn_take_le cs (i * 8 + 5)
  have n4 : cnC (cs.take (i * 8 + 5)) = cnC (cs.take (i * 8 + 4)) + 1 := cn_succ (hc4 i hlt)
  have w4 : IntKind.i64.wrap (((k + cnC (cs.take (i * 8 + 4)) : Nat) : Int) + 1) = ((k + cnC (cs.take (i * 8 + 5)) : Nat) : Int) := by rw [wrap64 (by omega) (by omega)]; omega
  have b4 : gbL (st cs k (i * 8 + 5)) 1 = gbL (st cs k (i * 8 + 4)) 1 := gbL_st k 1 (hc4 i hlt) rfl
  have g4 : gvL (st cs k (i * 8 + 5)) 1 = (gvL (st cs k (i * 8 + 4)) 1).set (i * 8 + 4) (.str (markF (k + cnC (cs.take (i * 8 + 4))))) := gvL_st k 1 (hc4 i hlt)
  conv => whnf
  refine ACall.scal [.val (.int .i64 ((k + cnC (cs.take (i * 8 + 4)) : Nat)))] _ (markText.ret (k + cnC (cs.take (i * 8 + 4))) (by omega)) rfl (.cons (SeesB.of0 (by exact Sees0.val _)) .nil) ?_
  repeat' first
    | contradiction | exact trivial
    | (conv => whnf
       first | refine Need.mk (fun h => h) ?_ | refine Need.mk rfl ?_ | refine Need.mk ⟨rfl, Nat.le_of_ble_eq_true rfl⟩ ?_ | refine Need.mk (Nat.le_of_ble_eq_true rfl) ?_ | refine Need.fin ?_ | refine Need.mk ⟨rfl, by simp only [length_setAt, List.length_set, length_gvL, length_st, Int.toNat_natCast]; omega⟩ ?_ | refine Need.mk ?_ ?_ | refine Ix.strsF rfl ?_ | refine Ix.strs rfl ?_ ?_ | refine Cut.strs rfl ?_ ?_ | refine Ix.mapF (fun _ => rfl) ?_ | refine Ix.map (fun _ => rfl) ?_ ?_ | refine Cut.map (fun _ => rfl) ?_ ?_ | refine Fork.yes (by assumption) ?_ | refine Fork.no (by assumption) ?_ | refine Fork.decYes (by omega) ?_ | refine Fork.decNo (by omega) ?_ | refine Fork.dec (fun _ => ?_) (fun _ => ?_) | refine Fork.bne (fun _ => ?_) (fun _ => ?_) | refine Fork.beq (fun _ => ?_) (fun _ => ?_) | refine Fork.seq (fun _ => ?_) (fun _ => ?_) | refine Fork.sne (fun _ => ?_) (fun _ => ?_) | refine Fork.neg (fun _ => ?_) (fun _ => ?_) | refine Fork.mk (fun _ => ?_) (fun _ => ?_) | refine HAlt.mk ?_ ?_ | apply HJoin.mk3 | exact HEnd.mk rfl rfl rfl | refine HEnd.mk ?_ ?_ ?_ | refine Round.mk ?_ | refine NilQ.mk (fun b hb => ?_) | refine forceK_of ?_ | refine forceBx_of ?_ | refine unG_old ?_ | refine unG_gv ?_ | refine Lit.read rfl ?_ | refine LitO.own rfl ?_ | refine FinVal.keep ?_ | refine FinAgg.keep ?_ | refine Final.mk rfl rfl | refine Final.mk ?_ rfl | refine Final.mk ?_ ?_ | refine FinalT.mk ?_ ?_ | refine FinalI.mk ?_ | refine FinalC.allA ?_)
    | refine AV.bool_congr ?_ | refine AV.int_congr ?_ | refine AV.str_congr ?_ | refine AV.list_congr ?_ | with_reducible rfl | refine fr1 ?_ | refine fr2 ?_ ?_
  have l5 := cn_take_le cs (i * 8 + 6)
  have n5 : cnC (cs.take (i * 8 + 6)) = cnC (cs.take (i * 8 + 5)) + 1 := cn_succ (hc5 i hlt)
  have w5 : IntKind.i64.wrap (IntKind.i64.wrap (((k + cnC (cs.take (i * 8 + 4)) : Nat) : Int) + 1) + 1) = ((k + cnC (cs.take (i * 8 + 6)) : Nat) : Int) := by rw [w4, wrap64 (by omega) (by omega)]; omega
  have b5 : gbL (st cs k (i * 8 + 6)) 1 = gbL (st cs k (i * 8 + 5)) 1 := gbL_st k 1 (hc5 i hlt) rfl
  have g5 : gvL (st cs k (i * 8 + 6)) 1 = (gvL (st cs k (i * 8 + 5)) 1).set (i * 8 + 5) (.str (markF (k + cnC (cs.take (i * 8 + 5))))) := gvL_st k 1 (hc5 i hlt)
  conv => whnf
  refine ACall.scal [.val (.int .i64 ((k + cnC (cs.take (i * 8 + 5)) : Nat)))] _ (markText.ret (k + cnC (cs.take (i * 8 + 5))) (by omega)) rfl (.cons (SeesB.of0 (by rw [w4]; exact Sees0.val _)) .nil) ?_
  repeat' first
    | contradiction | exact trivial
    | (conv => whnf
       first | refine Need.mk (fun h => h) ?_ | refine Need.mk rfl ?_ | refine Need.mk ⟨rfl, Nat.le_of_ble_eq_true rfl⟩ ?_ | refine Need.mk (Nat.le_of_ble_eq_true rfl) ?_ | refine Need.fin ?_ | refine Need.mk ⟨rfl, by simp only [length_setAt, List.length_set, length_gvL, length_st, Int.toNat_natCast]; omega⟩ ?_ | refine Need.mk ?_ ?_ | refine Ix.strsF rfl ?_ | refine Ix.strs rfl ?_ ?_ | refine Cut.strs rfl ?_ ?_ | refine Ix.mapF (fun _ => rfl) ?_ | refine Ix.map (fun _ => rfl) ?_ ?_ | refine Cut.map (fun _ => rfl) ?_ ?_ | refine Fork.yes (by assumption) ?_ | refine Fork.no (by assumption) ?_ | refine Fork.decYes (by omega) ?_ | refine Fork.decNo (by omega) ?_ | refine Fork.dec (fun _ => ?_) (fun _ => ?_) | refine Fork.bne (fun _ => ?_) (fun _ => ?_) | refine Fork.beq (fun _ => ?_) (fun _ => ?_) | refine Fork.seq (fun _ => ?_) (fun _ => ?_) | refine Fork.sne (fun _ => ?_) (fun _ => ?_) | refine Fork.neg (fun _ => ?_) (fun _ => ?_) | refine Fork.mk (fun _ => ?_) (fun _ => ?_) | refine HAlt.mk ?_ ?_ | apply HJoin.mk3 | exact HEnd.mk rfl rfl rfl | refine HEnd.mk ?_ ?_ ?_ | refine Round.mk ?_ | refine NilQ.mk (fun b hb => ?_) | refine forceK_of ?_ | refine forceBx_of ?_ | refine unG_old ?_ | refine unG_gv ?_ | refine Lit.read rfl ?_ | refine LitO.own rfl ?_ | refine FinVal.keep ?_ | refine FinAgg.keep ?_ | refine Final.mk rfl rfl | refine Final.mk ?_ rfl | refine Final.mk ?_ ?_ | refine FinalT.mk ?_ ?_ | refine FinalI.mk ?_ | refine FinalC.allA ?_)
    | refine AV.bool_congr ?_ | refine AV.int_congr ?_ | refine AV.str_congr ?_ | refine AV.list_congr ?_ | with_reducible rfl | refine fr1 ?_ | refine fr2 ?_ ?_
  have l6 := cn_take_le cs (i * 8 + 7)
  have n6 : cnC (cs.take (i * 8 + 7)) = cnC (cs.take (i * 8 + 6)) + 1 := cn_succ (hc6 i hlt)
  have w6 : IntKind.i64.wrap (IntKind.i64.wrap (IntKind.i64.wrap (((k + cnC (cs.take (i * 8 + 4)) : Nat) : Int) + 1) + 1) + 1) = ((k + cnC (cs.take (i * 8 + 7)) : Nat) : Int) := by rw [w5, wrap64 (by omega) (by omega)]; omega
  have b6 : gbL (st cs k (i * 8 + 7)) 1 = gbL (st cs k (i * 8 + 6)) 1 := gbL_st k 1 (hc6 i hlt) rfl
  have g6 : gvL (st cs k (i * 8 + 7)) 1 = (gvL (st cs k (i * 8 + 6)) 1).set (i * 8 + 6) (.val (.int .i64 (IntKind.i64.wrap (IntKind.i64.wrap (((k + cnC (cs.take (i * 8 + 4)) : Nat) : Int) + 1) + 1)))) := by rw [w5]; exact gvL_st k 1 (hc6 i hlt)
  have l7 := cn_take_le cs (i * 8 + 8)
  have n7 : cnC (cs.take (i * 8 + 8)) = cnC (cs.take (i * 8 + 7)) + cn (.l 154 2 ((l.getD i default).2.2.2.map tToken.q)) := cn_succ (hc7 i hlt)
  have g7 : gvL (st cs k (i * 8 + 8)) 1 = gvL (st cs k (i * 8 + 7)) 1 := gvL_stL k 1 (hc7 i hlt)
  have t7 : markTokenS.Turn (gb (.l 154 2 ((l.getD i default).2.2.2.map tToken.q)) 0) [gv (.l 154 2 ((l.getD i default).2.2.2.map tToken.q)) 0, .val (.int .i64 ((k + cnC (cs.take (i * 8 + 7)) : Nat)))] (.val (.int .i64 ((k + cnC (cs.take (i * 8 + 8)) : Nat)))) (gb (mk (.l 154 2 ((l.getD i default).2.2.2.map tToken.q)) (k + cnC (cs.take (i * 8 + 7)))) 0) := by
    have h := markTokenS.tn (l.getD i default).2.2.2 (k + cnC (cs.take (i * 8 + 7))) (by omega) (by omega)
    rw [Nat.add_assoc, ← n7] at h; exact h
  have d7 : (((((((gvL (st cs k (i * 8)) 1).set (i * 8) (.val (.int .i64 (((k + cnC (cs.take (i * 8)) : Nat) : Int))))).set (i * 8 + 1) (.val (.int .i64 (IntKind.i64.wrap (((k + cnC (cs.take (i * 8)) : Nat) : Int) + 1))))).set (i * 8 + 2) (.str (markF (k + cnC (cs.take (i * 8 + 2)))))).set (i * 8 + 4) (.str (markF (k + cnC (cs.take (i * 8 + 4)))))).set (i * 8 + 5) (.str (markF (k + cnC (cs.take (i * 8 + 5)))))).set (i * 8 + 6) (.val (.int .i64 (IntKind.i64.wrap (IntKind.i64.wrap (((k + cnC (cs.take (i * 8 + 4)) : Nat) : Int) + 1) + 1))))).drop (i * 8 + 7) = gv (.l 154 2 ((l.getD i default).2.2.2.map tToken.q)) (1 + nbL (cs.take (i * 8 + 7))) :: gvL (cs.drop (i * 8 + 7 + 1)) (1 + nbL (cs.take (i * 8 + 7)) + nb (.l 154 2 ((l.getD i default).2.2.2.map tToken.q))) := by
    have h := ld_st k 1 (hc7 i hlt)
    try simp only [Nat.add_zero] at h
    rw [g6, g5, g4, g3, g2, g1, g0] at h
    exact h
  conv => whnf
  refine takeAV_one (n := 1) _ _ d7 ?_
  conv => whnf
  refine ACall.turn' (.cells (.row 87 8) (((((((gvL (st cs k (i * 8)) 1).set (i * 8) (.val (.int .i64 (((k + cnC (cs.take (i * 8)) : Nat) : Int))))).set (i * 8 + 1) (.val (.int .i64 (IntKind.i64.wrap (((k + cnC (cs.take (i * 8)) : Nat) : Int) + 1))))).set (i * 8 + 2) (.str (markF (k + cnC (cs.take (i * 8 + 2)))))).set (i * 8 + 4) (.str (markF (k + cnC (cs.take (i * 8 + 4)))))).set (i * 8 + 5) (.str (markF (k + cnC (cs.take (i * 8 + 5)))))).set (i * 8 + 6) (.val (.int .i64 (IntKind.i64.wrap (IntKind.i64.wrap (((k + cnC (cs.take (i * 8 + 4)) : Nat) : Int) + 1) + 1))))) :: gbL (st cs k (i * 8 + 8)) 1) [gv (.l 154 2 ((l.getD i default).2.2.2.map tToken.q)) 0, .val (.int .i64 ((k + cnC (cs.take (i * 8 + 7)) : Nat)))] (.l 154 2 ((l.getD i default).2.2.2.map tToken.q)) (mk (.l 154 2 ((l.getD i default).2.2.2.map tToken.q)) (k + cnC (cs.take (i * 8 + 7)))) _ (.cells (.row 87 8) (((((((gvL (st cs k (i * 8)) 1).set (i * 8) (.val (.int .i64 (((k + cnC (cs.take (i * 8)) : Nat) : Int))))).set (i * 8 + 1) (.val (.int .i64 (IntKind.i64.wrap (((k + cnC (cs.take (i * 8)) : Nat) : Int) + 1))))).set (i * 8 + 2) (.str (markF (k + cnC (cs.take (i * 8 + 2)))))).set (i * 8 + 4) (.str (markF (k + cnC (cs.take (i * 8 + 4)))))).set (i * 8 + 5) (.str (markF (k + cnC (cs.take (i * 8 + 5)))))).set (i * 8 + 6) (.val (.int .i64 (IntKind.i64.wrap (IntKind.i64.wrap (((k + cnC (cs.take (i * 8 + 4)) : Nat) : Int) + 1) + 1))))) :: gbL (mkC (cs.take (i * 8 + 7)) k) 1) (gbL (cs.drop (i * 8 + 7 + 1)) (1 + nbL (cs.take (i * 8 + 7)) + nb (.l 154 2 ((l.getD i default).2.2.2.map tToken.q)))) t7 rfl ?_ (nb_mk _ _) (.cons (.inl ⟨by rw [pre_st]; rfl, rfl⟩) (.cons (.inr (by rw [w6]; exact Sees0.val _)) .nil)) ?_ ?_
  · rw [← b4]; rw [← b5]; rw [← b6]; exact bx_st k (hc7 i hlt) _
  · exact bx_st' k (hc7 i hlt) _
  repeat' first
    | contradiction | exact trivial
    | (conv => whnf
       first | refine Need.mk (fun h => h) ?_ | refine Need.mk rfl ?_ | refine Need.mk ⟨rfl, Nat.le_of_ble_eq_true rfl⟩ ?_ | refine Need.mk (Nat.le_of_ble_eq_true rfl) ?_ | refine Need.fin ?_ | refine Need.mk ⟨rfl, by simp only [length_setAt, List.length_set, length_gvL, length_st, Int.toNat_natCast]; omega⟩ ?_ | refine Need.mk ?_ ?_ | refine Ix.strsF rfl ?_ | refine Ix.strs rfl ?_ ?_ | refine Cut.strs rfl ?_ ?_ | refine Ix.mapF (fun _ => rfl) ?_ | refine Ix.map (fun _ => rfl) ?_ ?_ | refine Cut.map (fun _ => rfl) ?_ ?_ | refine Fork.yes (by assumption) ?_ | refine Fork.no (by assumption) ?_ | refine Fork.decYes (by omega) ?_ | refine Fork.decNo (by omega) ?_ | refine Fork.dec (fun _ => ?_) (fun _ => ?_) | refine Fork.bne (fun _ => ?_) (fun _ => ?_) | refine Fork.beq (fun _ => ?_) (fun _ => ?_) | refine Fork.seq (fun _ => ?_) (fun _ => ?_) | refine Fork.sne (fun _ => ?_) (fun _ => ?_) | refine Fork.neg (fun _ => ?_) (fun _ => ?_) | refine Fork.mk (fun _ => ?_) (fun _ => ?_) | refine HAlt.mk ?_ ?_ | apply HJoin.mk3 | exact HEnd.mk rfl rfl rfl | refine HEnd.mk ?_ ?_ ?_ | refine Round.mk ?_ | refine NilQ.mk (fun b hb => ?_) | refine forceK_of ?_ | refine forceBx_of ?_ | refine unG_old ?_ | refine unG_gv ?_ | refine Lit.read rfl ?_ | refine LitO.own rfl ?_ | refine FinVal.keep ?_ | refine FinAgg.keep ?_ | refine Final.mk rfl rfl | refine Final.mk ?_ rfl | refine Final.mk ?_ ?_ | refine FinalT.mk ?_ ?_ | refine FinalI.mk ?_ | refine FinalC.allA ?_)
    | refine AV.bool_congr ?_ | refine AV.int_congr ?_ | refine AV.str_congr ?_ | refine AV.list_congr ?_ | with_reducible rfl | refine fr1 ?_ | refine fr2 ?_ ?_
  refine ⟨i + 1, by omega, weak_st ⟨rfl, AV.int_congr ?_, AV.int_congr ?_, trivial⟩ (congrArg (ABox.cells (.row 87 8)) ?_) ?_ rfl ?_, by omega⟩
  · rw [hi1]
  · rw [wrap64 (by omega) (by omega)]; rfl
  · rw [hi1, g7, g6, g5, g4, g3, g2, g1, g0]
    try rfl
  · rw [hi1]
  · simp only [hi1, List.length_cons, length_gbL, nbL_st, Nat.le_refl]
end Go.Proofs.Ytfnejdkkhpjhmaa
namespace Go.Proofs.Ytfnejdkkhpjhmaa
open Abs
def tInts : Ty (List Int) := Ty.plain 3 Ty.int (fun _ => rfl) (fun _ => rfl)
theorem tInts_size (l : List Int) : tInts.size l = l.length + listSize Ty.int l := rfl
theorem szI_zero : ∀ l : List Int, listSize Ty.int l = 0
  | [] => rfl
  | a :: l => by rw [listSize, szI_zero l]; rfl
theorem szI_eq (l : List Int) : l.length = tInts.size l := by rw [tInts_size, szI_zero, Nat.add_zero]
theorem ints_get {l : List Int} {i : Nat} (hi : i < l.length) : l[i]? = some (l.getD i default) := by simp [List.getD, hi]
theorem Abs.ACall.mk_IntS {C : Con} {lend : Bool} {f : Nat} {vs : List AV} {b : List ABox} {fr : Fr} {k : AV → List ABox → Fr → Prop} (ys : List AV) (l : List Int) (h : C.ret f ys (.list (some 0) (rows Ty.int l)) [(3, 1, l.length)]) (hv : SeesL Sees0 vs ys)
    (hk : k (.list (some fr.length) (rows Ty.int l)) b (fr ++ [(3, 1, l.length)])) : ACall C lend f vs b fr k :=
  ACall.mkV tInts ys l (fun n => .list (some n) (rows Ty.int l)) (fun _ => rfl) h hv hk
theorem toIntS.ret (l : List Int) (hl : l.length ≤ 1048576) : toIntS.Ret [.list none (rows Ty.int l)] (.list (some 0) (rows Ty.int l)) [(3, 1, l.length)] := by
  refine toIntS.of rfl ?_
  have hsz : ∀ c ∈ rows Ty.int l, c.length = 1 := oldLL_sz Ty.int.hq
  repeat' first
    | contradiction | exact trivial
    | (conv => whnf
       first | refine Need.mk (fun h => h) ?_ | refine Need.mk rfl ?_ | refine Need.mk ⟨rfl, Nat.le_of_ble_eq_true rfl⟩ ?_ | refine Need.mk (Nat.le_of_ble_eq_true rfl) ?_ | refine Need.fin ?_ | refine Need.mk ?_ ?_ | refine Ix.strsF rfl ?_ | refine Ix.strs rfl ?_ ?_ | refine Cut.strs rfl ?_ ?_ | refine Ix.mapF (fun _ => rfl) ?_ | refine Ix.map (fun _ => rfl) ?_ ?_ | refine Cut.map (fun _ => rfl) ?_ ?_ | refine Fork.yes (by assumption) ?_ | refine Fork.no (by assumption) ?_ | refine Fork.decYes (by omega) ?_ | refine Fork.decNo (by omega) ?_ | refine Fork.dec (fun _ => ?_) (fun _ => ?_) | refine Fork.bne (fun _ => ?_) (fun _ => ?_) | refine Fork.beq (fun _ => ?_) (fun _ => ?_) | refine Fork.seq (fun _ => ?_) (fun _ => ?_) | refine Fork.sne (fun _ => ?_) (fun _ => ?_) | refine Fork.neg (fun _ => ?_) (fun _ => ?_) | refine Fork.mk (fun _ => ?_) (fun _ => ?_) | refine HAlt.mk ?_ ?_ | apply HJoin.mk3 | exact HEnd.mk rfl rfl rfl | refine HEnd.mk ?_ ?_ ?_ | refine Round.mk ?_ | refine NilQ.mk (fun b hb => ?_) | refine forceK_of ?_ | refine forceBx_of ?_ | refine unG_old ?_ | refine unG_gv ?_ | refine Lit.read rfl ?_ | refine LitO.own rfl ?_ | refine FinVal.keep ?_ | refine FinAgg.keep ?_ | refine Final.mk rfl rfl | refine Final.mk ?_ rfl | refine Final.mk ?_ ?_ | refine FinalT.mk ?_ ?_ | refine FinalI.mk ?_ | refine FinalC.allA ?_)
    | refine AV.bool_congr ?_ | refine AV.int_congr ?_ | refine AV.str_congr ?_ | refine AV.list_congr ?_ | with_reducible rfl | refine fr1 ?_ | refine fr2 ?_ ?_
  refine ALoop.mk Nat (fun i => ⟨[(0, .list none (rows Ty.int l)), (3, .bsl 0 l.length), (4, .val (.int .i64 i))], [.cells (.row 3 1) (part [.val (.int .i64 0)] (rows Ty.int l) i)], []⟩) (fun i => i ≤ l.length) (fun i => l.length - i) ⟨0, Nat.zero_le _, ?_⟩ (fun i hi => ?_)
  · repeat' first
      | exact trivial | refine Weak.mk ?_ ?_ ?_ ?_ (Or.inl (Nat.le_of_ble_eq_true rfl)) | refine Weak.mk ?_ ?_ ?_ ?_ (Or.inr ⟨(by repeat' first | exact trivial | exact Nat.le_of_ble_eq_true rfl | refine And.intro ?_ ?_), (by repeat' first | exact trivial | exact Nat.le_of_ble_eq_true rfl | refine And.intro ?_ ?_)⟩) | refine Weak.mk ?_ ?_ ?_ ?_ ?_ | refine And.intro ?_ ?_ | with_reducible rfl | exact Nat.le_of_ble_eq_true rfl | refine fr1 ?_ | refine fr2 ?_ ?_ | refine AV.int_congr ?_ | refine AV.bool_congr ?_ | refine AV.str_congr ?_ | refine AV.list_congr ?_ | refine AV.bsl_congr ?_ ?_ | (apply rfl)
    · simp
    · simp only [List.nil_append, List.length_cons, List.length_nil, List.take_succ_cons, List.take_zero]
      rw [part_made (xs := rows Ty.int l) (sz := 1) rfl (by decide) (by simp)]; rfl
  repeat' first
    | contradiction | exact trivial
    | (conv => whnf
       first | refine Need.mk (fun h => h) ?_ | refine Need.mk rfl ?_ | refine Need.mk ⟨rfl, Nat.le_of_ble_eq_true rfl⟩ ?_ | refine Need.mk (Nat.le_of_ble_eq_true rfl) ?_ | refine Need.fin ?_ | refine Need.mk ?_ ?_ | refine Ix.strsF rfl ?_ | refine Ix.strs rfl ?_ ?_ | refine Cut.strs rfl ?_ ?_ | refine Ix.mapF (fun _ => rfl) ?_ | refine Ix.map (fun _ => rfl) ?_ ?_ | refine Cut.map (fun _ => rfl) ?_ ?_ | refine Fork.yes (by assumption) ?_ | refine Fork.no (by assumption) ?_ | refine Fork.decYes (by omega) ?_ | refine Fork.decNo (by omega) ?_ | refine Fork.dec (fun _ => ?_) (fun _ => ?_) | refine Fork.bne (fun _ => ?_) (fun _ => ?_) | refine Fork.beq (fun _ => ?_) (fun _ => ?_) | refine Fork.seq (fun _ => ?_) (fun _ => ?_) | refine Fork.sne (fun _ => ?_) (fun _ => ?_) | refine Fork.neg (fun _ => ?_) (fun _ => ?_) | refine Fork.mk (fun _ => ?_) (fun _ => ?_) | refine HAlt.mk ?_ ?_ | apply HJoin.mk3 | exact HEnd.mk rfl rfl rfl | refine HEnd.mk ?_ ?_ ?_ | refine Round.mk ?_ | refine NilQ.mk (fun b hb => ?_) | refine forceK_of ?_ | refine forceBx_of ?_ | refine unG_old ?_ | refine unG_gv ?_ | refine Lit.read rfl ?_ | refine LitO.own rfl ?_ | refine FinVal.keep ?_ | refine FinAgg.keep ?_ | refine Final.mk rfl rfl | refine Final.mk ?_ rfl | refine Final.mk ?_ ?_ | refine FinalT.mk ?_ ?_ | refine FinalI.mk ?_ | refine FinalC.allA ?_)
    | refine AV.bool_congr ?_ | refine AV.int_congr ?_ | refine AV.str_congr ?_ | refine AV.list_congr ?_ | with_reducible rfl | refine fr1 ?_ | refine fr2 ?_ ?_
  · rename_i h
    rw [length_rows] at h
    rw [part_len (sz := 1) rfl hsz (by simp; exact hi), Int.toNat_natCast, length_rows]
    exact ⟨rfl, by omega⟩
  · rename_i h
    rw [length_rows] at h
    refine ⟨i + 1, by omega, ?_, by omega⟩
    repeat' first
      | exact trivial | refine Weak.mk ?_ ?_ ?_ ?_ (Or.inl (Nat.le_of_ble_eq_true rfl)) | refine Weak.mk ?_ ?_ ?_ ?_ (Or.inr ⟨(by repeat' first | exact trivial | exact Nat.le_of_ble_eq_true rfl | refine And.intro ?_ ?_), (by repeat' first | exact trivial | exact Nat.le_of_ble_eq_true rfl | refine And.intro ?_ ?_)⟩) | refine Weak.mk ?_ ?_ ?_ ?_ ?_ | refine And.intro ?_ ?_ | with_reducible rfl | exact Nat.le_of_ble_eq_true rfl | refine fr1 ?_ | refine fr2 ?_ ?_ | refine AV.int_congr ?_ | refine AV.bool_congr ?_ | refine AV.str_congr ?_ | refine AV.list_congr ?_ | refine AV.bsl_congr ?_ ?_ | (apply rfl)
    · rw [wrap64 (by omega) (by omega)]; rfl
    · have hg : (rows Ty.int l)[i]? = some (oldL (Ty.int.q (l.getD i default))) := by rw [rows, oldLL_eq, List.getElem?_map, List.getElem?_map, ints_get (by omega), oldL_eq]; rfl
      have := part_set (z := [.val (.int .i64 0)]) (sz := 1) rfl hsz hg
      simp only [List.set_cons_zero, List.take_succ_cons, List.take_zero, List.length_cons, List.length_nil, Int.toNat_natCast]
      exact congrArg (fun c => [ABox.cells (.row 3 1) c]) this
  · rename_i h
    rw [length_rows] at h
    conv => whnf
    have : i = l.length := by omega
    subst this
    have hall := part_all [.val (.int .i64 0)] (rows Ty.int l)
    rw [length_rows] at hall
    refine FreezeD.flat (Freeze.mk (rows Ty.int l) _ 3 1 rfl hall (length_rows _ _) hsz (fun c hc => ?_) ?_)
    · rw [hall, ← rowsP_tks Ty.int (fun _ => rfl) (fun _ => rfl)] at hc; exact tks_nr Ty.int l 0 c hc
    · exact Final.mk rfl rfl
theorem szIntS.ret (l : List Int) (a : Int) (h0 : 0 ≤ a) (ha : a ≤ 1048576) (hl : l.length ≤ 9223372036854775807) :
    szIntS.Ret [.list none (rows Ty.int l), .val (.int .i64 a)] (.val (.int .i64 (left a l.length))) [] := by
  refine szIntS.of rfl ?_
  have hw : IntKind.i64.wrap (a - ((rows Ty.int l).length : Int)) = a - l.length := by rw [length_rows]; exact wrap64 (by omega) (by omega)
  repeat' first
    | contradiction | exact trivial
    | (conv => whnf
       first | refine Need.mk (fun h => h) ?_ | refine Need.mk rfl ?_ | refine Need.mk ⟨rfl, Nat.le_of_ble_eq_true rfl⟩ ?_ | refine Need.mk (Nat.le_of_ble_eq_true rfl) ?_ | refine Need.fin ?_ | refine Need.mk ?_ ?_ | refine Ix.strsF rfl ?_ | refine Ix.strs rfl ?_ ?_ | refine Cut.strs rfl ?_ ?_ | refine Ix.mapF (fun _ => rfl) ?_ | refine Ix.map (fun _ => rfl) ?_ ?_ | refine Cut.map (fun _ => rfl) ?_ ?_ | refine Fork.yes (by assumption) ?_ | refine Fork.no (by assumption) ?_ | refine Fork.decYes (by omega) ?_ | refine Fork.decNo (by omega) ?_ | refine Fork.dec (fun _ => ?_) (fun _ => ?_) | refine Fork.bne (fun _ => ?_) (fun _ => ?_) | refine Fork.beq (fun _ => ?_) (fun _ => ?_) | refine Fork.seq (fun _ => ?_) (fun _ => ?_) | refine Fork.sne (fun _ => ?_) (fun _ => ?_) | refine Fork.neg (fun _ => ?_) (fun _ => ?_) | refine Fork.mk (fun _ => ?_) (fun _ => ?_) | refine HAlt.mk ?_ ?_ | apply HJoin.mk3 | exact HEnd.mk rfl rfl rfl | refine HEnd.mk ?_ ?_ ?_ | refine Round.mk ?_ | refine NilQ.mk (fun b hb => ?_) | refine forceK_of ?_ | refine forceBx_of ?_ | refine unG_old ?_ | refine unG_gv ?_ | refine Lit.read rfl ?_ | refine LitO.own rfl ?_ | refine FinVal.keep ?_ | refine FinAgg.keep ?_ | refine Final.mk rfl rfl | refine Final.mk ?_ rfl | refine Final.mk ?_ ?_ | refine FinalT.mk ?_ ?_ | refine FinalI.mk ?_ | refine FinalC.allA ?_)
    | refine AV.bool_congr ?_ | refine AV.int_congr ?_ | refine AV.str_congr ?_ | refine AV.list_congr ?_ | with_reducible rfl | refine fr1 ?_ | refine fr2 ?_ ?_
  all_goals rename_i h
  all_goals rw [hw] at h
  · rw [left, if_pos (by omega)]
  · rw [hw, left, if_neg (by omega)]
theorem eqIntS.big (l m : List Int) (h : tInts.size l ≤ 1099511627775) : eqIntS.Ret [.list none (rows Ty.int l), .list none (rows Ty.int m)] (.val (.bool (decide (l = m)))) [] := by
  refine eqIntS.of rfl ?_
  rw [← szI_eq] at h
  repeat' first
    | (conv => whnf
       first | refine Need.mk rfl ?_ | refine Fork.bne (fun _ => ?_) (fun _ => ?_) | refine LitO.own rfl ?_ | refine FinVal.keep ?_ | refine Final.mk ?_ rfl)
    | refine AV.bool_congr ?_
  · rename_i h
    rw [length_rows, length_rows] at h
    have h3 : ¬ l = m := fun e => h (by rw [e])
    simp [h3]
  rename_i h
  rw [length_rows, length_rows] at h
  have h : l.length = m.length := by omega
  skip
  refine ALoop.mk Nat (fun i => ⟨[(0, .list none (rows Ty.int l)), (1, .list none (rows Ty.int m)), (5, .val (.int .i64 i))], [], []⟩) (fun i => i ≤ l.length ∧ l.take i = m.take i) (fun i => l.length - i) ⟨0, ⟨Nat.zero_le _, rfl⟩, ?_⟩ (fun i hi => ?_)
  · repeat' first
      | exact trivial | refine Weak.mk ?_ ?_ ?_ ?_ (Or.inl (Nat.le_of_ble_eq_true rfl)) | refine And.intro ?_ ?_ | with_reducible rfl | exact Nat.le_of_ble_eq_true rfl | refine AV.int_congr ?_ | refine AV.list_congr ?_ | (apply rfl)
  repeat' first
    | (conv => whnf
       first | refine Need.mk rfl ?_ | refine Ix.mapF (fun _ => rfl) ?_ | refine Fork.dec (fun _ => ?_) (fun _ => ?_) | refine Fork.bne (fun _ => ?_) (fun _ => ?_) | refine Round.mk ?_ | refine LitO.own rfl ?_ | refine FinVal.keep ?_ | refine Final.mk ?_ rfl)
    | refine AV.bool_congr ?_
  · rename_i h1 h2
    have h3 : ¬ l = m := fun e => h2 (by rw [e])
    simp [h3]
  · rename_i h1 h2
    rw [length_rows] at h1
    refine ⟨i + 1, ⟨by omega, ?_⟩, ?_, by omega⟩
    · rw [take_succ' default (by omega), take_succ' (l := m) default (by omega), hi.2]
      rw [Int.toNat_natCast] at h2
      have h2' : l.getD i default = m.getD i default := h2
      rw [h2']
    · repeat' first
        | exact trivial | refine Weak.mk ?_ ?_ ?_ ?_ (Or.inl (Nat.le_of_ble_eq_true rfl)) | refine And.intro ?_ ?_ | with_reducible rfl | exact Nat.le_of_ble_eq_true rfl | refine AV.int_congr ?_ | refine AV.list_congr ?_ | (apply rfl)
      rw [wrap64 (by omega) (by omega)]; rfl
  · rename_i h1
    rw [length_rows] at h1
    have h2 := hi.2
    rw [List.take_of_length_le (by omega), List.take_of_length_le (by omega)] at h2
    simp [h2]
theorem cnLL_int : ∀ (l : List Int), cnLL (l.map Ty.int.q) = l.length
  | [] => rfl
  | s :: l => by rw [List.map_cons, cnLL, cnLL_int l, List.length_cons]; show 1 + 0 + _ = _; omega
theorem markIntS.tn (l : List Int) (k : Nat) (_hs : tInts.size l ≤ 1099511627775) (hk : k + cn (.l 3 1 (l.map Ty.int.q)) ≤ 1099511627775) :
    markIntS.Turn (gb (.l 3 1 (l.map Ty.int.q)) 0) [gv (.l 3 1 (l.map Ty.int.q)) 0, .val (.int .i64 k)] (.val (.int .i64 ((k + cn (.l 3 1 (l.map Ty.int.q)) : Nat)))) (gb (mk (.l 3 1 (l.map Ty.int.q)) k) 0) := by
  refine markIntS.ofT rfl rfl (by rw [length_gb, nb_mk]) ?_
  obtain ⟨cs, hcs⟩ : ∃ cs, cs = (l.map Ty.int.q).flatten := ⟨_, rfl⟩
  have hlen : cs.length = l.length * 1 := by rw [hcs]; exact flat_len _ 1 Ty.int.hq l
  have hc0 : ∀ i, i < l.length → cs[i * 1 + 0]? = some (.v (.int .i64 (l.getD i default))) := fun i hi => by rw [hcs]; exact cell_at Ty.int.q 1 Ty.int.hq hi rfl
  have hcl : cnC cs = l.length := by rw [hcs, ← cnLL_flatten, cnLL_int]
  rw [gb_mk_l0, gb_l0, cn_l, gv, List.length_map, ← hcs]
  rw [cn_l, ← hcs] at hk
  clear hcs
  skip
  refine ALoop.mk Nat (fun i => ⟨[(0, .bsl 0 l.length), (1, .val (.int .i64 ((k + cnC (cs.take (i * 1)) : Nat)))), (5, .val (.int .i64 i))], .cells (.row 3 1) (gvL (st cs k (i * 1)) 1) :: gbL (st cs k (i * 1)) 1, []⟩) (fun i => i ≤ l.length) (fun i => l.length - i) ⟨0, Nat.zero_le _, ?_⟩ (fun i hi => ?_)
  · refine weak_st ⟨rfl, ?_, rfl, trivial⟩ ?_ ?_ rfl ?_
    · rw [Nat.zero_mul]; rfl
    · rw [Nat.zero_mul, st_zero]
    · rw [Nat.zero_mul, st_zero]
    · rw [Nat.zero_mul, st_zero, List.length_cons]; exact Nat.le_refl _
  have hle := cn_take_le cs (i * 1)
  rcases Nat.lt_or_ge i l.length with hlt | hge
  rotate_left
  · have hiw : i * 1 = cs.length := by omega
    repeat' first
      | (conv => whnf
         first | refine Need.mk rfl ?_ | refine Fork.decNo (by omega) ?_ | refine forceBx_of ?_ | refine LitO.own rfl ?_ | refine FinalT.mk ?_ ?_)
      | refine AV.int_congr ?_
    · rw [hiw, List.take_length]
    · rw [hiw, st_all cs k rfl]; exact take_all (by rw [List.length_cons, List.length_cons, length_gbL, length_gbL, nbL_mkC]; exact Nat.le_refl _)
  have hi1 : (i + 1) * 1 = i * 1 + 1 := by omega
  have l0 := cn_take_le cs (i * 1 + 1)
  have n0 : cnC (cs.take (i * 1 + 1)) = cnC (cs.take (i * 1)) + 1 := cn_succ (hc0 i hlt)
  have w0 : IntKind.i64.wrap (((k + cnC (cs.take (i * 1)) : Nat) : Int) + 1) = ((k + cnC (cs.take (i * 1 + 1)) : Nat) : Int) := by rw [wrap64 (by omega) (by omega)]; omega
  have b0 : gbL (st cs k (i * 1 + 1)) 1 = gbL (st cs k (i * 1)) 1 := gbL_st k 1 (hc0 i hlt) rfl
  have g0 : gvL (st cs k (i * 1 + 1)) 1 = (gvL (st cs k (i * 1)) 1).set (i * 1) (.val (.int .i64 (((k + cnC (cs.take (i * 1)) : Nat) : Int)))) := gvL_st k 1 (hc0 i hlt)
  repeat' first
    | (conv => whnf
       first | refine Need.mk rfl ?_ | refine Need.fin ?_ | refine Need.mk ⟨rfl, by simp only [length_setAt, List.length_set, length_gvL, length_st, Int.toNat_natCast]; omega⟩ ?_ | refine Fork.decYes (by omega) ?_ | refine Round.mk ?_ | refine forceBx_of ?_ | refine LitO.own rfl ?_)
  refine ⟨i + 1, by omega, weak_st ⟨rfl, AV.int_congr ?_, AV.int_congr ?_, trivial⟩ (congrArg (ABox.cells (.row 3 1)) ?_) ?_ rfl ?_, by omega⟩
  · rw [hi1]; exact w0
  · rw [wrap64 (by omega) (by omega)]; rfl
  · rw [hi1, g0]
    try rfl
  · rw [hi1, b0]
  · simp only [hi1, List.length_cons, length_gbL, nbL_st, Nat.le_refl]
end Go.Proofs.Ytfnejdkkhpjhmaa
namespace Go.Proofs.Ytfnejdkkhpjhmaa
open Abs
abbrev VNetwork := List VRule × List Int × List VAlpha × List VNode × List Fct × Int
instance : DecidableEq VNetwork := instDecidableEqProd
def tNetwork : Ty VNetwork := Ty.pair tRules (Ty.pair tInts (Ty.pair tAlphas (Ty.pair tNodes (Ty.pair tFcts Ty.int))))
theorem tNetwork_size (a : VNetwork) : tNetwork.size a = tRules.size a.1 + (tInts.size a.2.1 + (tAlphas.size a.2.2.1 + (tNodes.size a.2.2.2.1 + (tFcts.size a.2.2.2.2.1 + 0)))) := rfl
theorem tNetwork_cn : CnB tNetwork 29 := CnB.pair (CnB.list tRule_cn _) (CnB.pair (CnB.plain CnB.int _ _ _) (CnB.pair (CnB.list tAlpha_cn _) (CnB.pair (CnB.list tNode_cn _) (CnB.pair (CnB.list tFct_cn _) CnB.int))))
theorem tNetwork_cnA (f : VNetwork) : cn (.a (tNetwork.q f)) ≤ cnC (tNetwork.q f) := by
  show cn (.l 110 4 (f.1.map tRule.q)) + (cn (.l 3 1 (f.2.1.map Ty.int.q)) + (cn (.l 106 3 (f.2.2.1.map tAlpha.q)) + (cn (.l 87 8 (f.2.2.2.1.map tNode.q)) + (cn (.l 144 2 (f.2.2.2.2.1.map tFct.q)) + (0 + (0)))))) ≤ cn (.l 110 4 (f.1.map tRule.q)) + (cn (.l 3 1 (f.2.1.map Ty.int.q)) + (cn (.l 106 3 (f.2.2.1.map tAlpha.q)) + (cn (.l 87 8 (f.2.2.2.1.map tNode.q)) + (cn (.l 144 2 (f.2.2.2.2.1.map tFct.q)) + (1 + (0))))))
  omega
set_option maxHeartbeats 4000000 in
theorem toNetwork.ret (a : VNetwork) (h : tNetwork.size a ≤ 1048576) : toNetwork.Ret [.agg (oldL (tNetwork.q a))] (.agg (tNetwork.tk a 0)) (tNetwork.fr a) := by
  refine toNetwork.of rfl ?_
  rw [tNetwork_size] at h
  have hf1 := szI_eq a.2.1
  repeat' first
    | contradiction | exact trivial
    | (conv => whnf
       first | refine Need.mk (fun h => h) ?_ | refine Need.mk rfl ?_ | refine Need.mk ⟨rfl, Nat.le_of_ble_eq_true rfl⟩ ?_ | refine Need.mk (Nat.le_of_ble_eq_true rfl) ?_ | refine Need.fin ?_ | refine Need.mk ?_ ?_ | refine Ix.strsF rfl ?_ | refine Ix.strs rfl ?_ ?_ | refine Cut.strs rfl ?_ ?_ | refine Ix.mapF (fun _ => rfl) ?_ | refine Ix.map (fun _ => rfl) ?_ ?_ | refine Cut.map (fun _ => rfl) ?_ ?_ | refine Fork.yes (by assumption) ?_ | refine Fork.no (by assumption) ?_ | refine Fork.decYes (by omega) ?_ | refine Fork.decNo (by omega) ?_ | refine Fork.dec (fun _ => ?_) (fun _ => ?_) | refine Fork.bne (fun _ => ?_) (fun _ => ?_) | refine Fork.beq (fun _ => ?_) (fun _ => ?_) | refine Fork.seq (fun _ => ?_) (fun _ => ?_) | refine Fork.sne (fun _ => ?_) (fun _ => ?_) | refine Fork.neg (fun _ => ?_) (fun _ => ?_) | refine Fork.mk (fun _ => ?_) (fun _ => ?_) | refine HAlt.mk ?_ ?_ | apply HJoin.mk3 | exact HEnd.mk rfl rfl rfl | refine HEnd.mk ?_ ?_ ?_ | refine Round.mk ?_ | refine NilQ.mk (fun b hb => ?_) | refine forceK_of ?_ | refine forceBx_of ?_ | refine unG_old ?_ | refine unG_gv ?_ | refine Lit.read rfl ?_ | refine LitO.own rfl ?_ | refine FinVal.keep ?_ | refine FinAgg.keep ?_ | refine Final.mk rfl rfl | refine Final.mk ?_ rfl | refine Final.mk ?_ ?_ | refine FinalT.mk ?_ ?_ | refine FinalI.mk ?_ | refine FinalC.allA ?_ | refine ACall.mk_RuleS _ _ (toRuleS.ret _ ?_) (by repeat' first | exact SeesL.nil | refine SeesL.cons ?_ ?_ | exact SeesB.of0 (Sees0.val _) | exact SeesB.of0 (Sees0.str _) | exact SeesB.of0 (Sees0.olds _ _) | exact SeesB.of0 (Sees0.old _) | exact SeesB.of0 (Sees0.oldagg _) | exact SeesB.of0 Sees0.nil | exact Sees0.val _ | exact Sees0.str _ | exact Sees0.olds _ _ | exact Sees0.old _ | exact Sees0.oldagg _ | exact Sees0.nil | exact SeesB.of0 (Sees0.any _) | assumption | exact sees_gv _ _ _ (by assumption) (by first | assumption | exact BoxIn.last _ _ | exact BoxIn.more (BoxIn.last _ _) _) | refine SeesB.agg ?_ | refine Sees0.agg ?_ | exact SeesB.of0 (Sees0.clo SeesL.nil SeesL.nil) | exact Sees0.clo SeesL.nil SeesL.nil | exact SeesB.of0 (Sees0.list rfl) | exact Sees0.list rfl) ?_ | refine ACall.mk_IntS _ _ (toIntS.ret _ ?_) (by repeat' first | exact SeesL.nil | refine SeesL.cons ?_ ?_ | exact SeesB.of0 (Sees0.val _) | exact SeesB.of0 (Sees0.str _) | exact SeesB.of0 (Sees0.olds _ _) | exact SeesB.of0 (Sees0.old _) | exact SeesB.of0 (Sees0.oldagg _) | exact SeesB.of0 Sees0.nil | exact Sees0.val _ | exact Sees0.str _ | exact Sees0.olds _ _ | exact Sees0.old _ | exact Sees0.oldagg _ | exact Sees0.nil | exact SeesB.of0 (Sees0.any _) | assumption | exact sees_gv _ _ _ (by assumption) (by first | assumption | exact BoxIn.last _ _ | exact BoxIn.more (BoxIn.last _ _) _) | refine SeesB.agg ?_ | refine Sees0.agg ?_ | exact SeesB.of0 (Sees0.clo SeesL.nil SeesL.nil) | exact Sees0.clo SeesL.nil SeesL.nil | exact SeesB.of0 (Sees0.list rfl) | exact Sees0.list rfl) ?_ | refine ACall.mk_AlphaS _ _ (toAlphaS.ret _ ?_) (by repeat' first | exact SeesL.nil | refine SeesL.cons ?_ ?_ | exact SeesB.of0 (Sees0.val _) | exact SeesB.of0 (Sees0.str _) | exact SeesB.of0 (Sees0.olds _ _) | exact SeesB.of0 (Sees0.old _) | exact SeesB.of0 (Sees0.oldagg _) | exact SeesB.of0 Sees0.nil | exact Sees0.val _ | exact Sees0.str _ | exact Sees0.olds _ _ | exact Sees0.old _ | exact Sees0.oldagg _ | exact Sees0.nil | exact SeesB.of0 (Sees0.any _) | assumption | exact sees_gv _ _ _ (by assumption) (by first | assumption | exact BoxIn.last _ _ | exact BoxIn.more (BoxIn.last _ _) _) | refine SeesB.agg ?_ | refine Sees0.agg ?_ | exact SeesB.of0 (Sees0.clo SeesL.nil SeesL.nil) | exact Sees0.clo SeesL.nil SeesL.nil | exact SeesB.of0 (Sees0.list rfl) | exact Sees0.list rfl) ?_ | refine ACall.mk_NodeS _ _ (toNodeS.ret _ ?_) (by repeat' first | exact SeesL.nil | refine SeesL.cons ?_ ?_ | exact SeesB.of0 (Sees0.val _) | exact SeesB.of0 (Sees0.str _) | exact SeesB.of0 (Sees0.olds _ _) | exact SeesB.of0 (Sees0.old _) | exact SeesB.of0 (Sees0.oldagg _) | exact SeesB.of0 Sees0.nil | exact Sees0.val _ | exact Sees0.str _ | exact Sees0.olds _ _ | exact Sees0.old _ | exact Sees0.oldagg _ | exact Sees0.nil | exact SeesB.of0 (Sees0.any _) | assumption | exact sees_gv _ _ _ (by assumption) (by first | assumption | exact BoxIn.last _ _ | exact BoxIn.more (BoxIn.last _ _) _) | refine SeesB.agg ?_ | refine Sees0.agg ?_ | exact SeesB.of0 (Sees0.clo SeesL.nil SeesL.nil) | exact Sees0.clo SeesL.nil SeesL.nil | exact SeesB.of0 (Sees0.list rfl) | exact Sees0.list rfl) ?_ | refine ACall.mk_FactS _ _ (toFactS.ret _ ?_) (by repeat' first | exact SeesL.nil | refine SeesL.cons ?_ ?_ | exact SeesB.of0 (Sees0.val _) | exact SeesB.of0 (Sees0.str _) | exact SeesB.of0 (Sees0.olds _ _) | exact SeesB.of0 (Sees0.old _) | exact SeesB.of0 (Sees0.oldagg _) | exact SeesB.of0 Sees0.nil | exact Sees0.val _ | exact Sees0.str _ | exact Sees0.olds _ _ | exact Sees0.old _ | exact Sees0.oldagg _ | exact Sees0.nil | exact SeesB.of0 (Sees0.any _) | assumption | exact sees_gv _ _ _ (by assumption) (by first | assumption | exact BoxIn.last _ _ | exact BoxIn.more (BoxIn.last _ _) _) | refine SeesB.agg ?_ | refine Sees0.agg ?_ | exact SeesB.of0 (Sees0.clo SeesL.nil SeesL.nil) | exact Sees0.clo SeesL.nil SeesL.nil | exact SeesB.of0 (Sees0.list rfl) | exact Sees0.list rfl) ?_)
    | refine AV.bool_congr ?_ | refine AV.int_congr ?_ | refine AV.str_congr ?_ | refine AV.list_congr ?_ | with_reducible rfl | refine fr1 ?_ | refine fr2 ?_ ?_
  all_goals first
    | omega
    | (refine congrArg AV.agg ?_
       repeat' first
         | refine cons_congr ?_ ?_
         | refine tok_congr ?_ ?_
         | refine congrArg (tks _ _) ?_
         | rfl
       all_goals first
         | rfl
         | (have e : ∀ l, (tInts.fr l).length = 1 := fun _ => rfl
            simp only [List.length_append, List.length_nil, List.length_cons, e] <;> omega))
    | (simp [tNetwork, Ty.pair, Ty.str, Ty.int, Ty.bool, List.append_assoc, Nat.add_assoc, Ty.plain, tInts]; done)
set_option maxHeartbeats 4000000 in
theorem toNetwork.own (a : VNetwork) (h : tNetwork.size a ≤ 1048576) : toNetwork.Own [.agg (oldL (tNetwork.q a))] (.a (tNetwork.q a)) := Ty.ownA tNetwork (toNetwork.ret a h)
set_option maxHeartbeats 4000000 in
theorem szNetwork.ret (f : VNetwork) (a : Int) (h0 : 0 ≤ a) (ha : a ≤ 1048576) (hb : tNetwork.bd f) :
    szNetwork.Ret [.agg (oldL (tNetwork.q f)), .val (.int .i64 a)] (.val (.int .i64 (left a (tNetwork.size f)))) [] := by
  refine szNetwork.of rfl ?_
  have hz := tNetwork_size f
  obtain ⟨hb0, hb1, hb2, hb3, hb4, hb5⟩ := hb
  obtain ⟨hbl1, hbe1⟩ := hb1
  have hy1 := szI_eq f.2.1
  by_cases c1 : a < (tRules.size f.1 : Int)
  · have e0 : left a (tRules.size f.1) = -1 := by rw [left, if_pos (by omega)]
    repeat' first
      | contradiction | exact trivial
      | (conv => whnf
         first | refine Need.mk (fun h => h) ?_ | refine Need.mk rfl ?_ | refine Need.mk ⟨rfl, Nat.le_of_ble_eq_true rfl⟩ ?_ | refine Need.mk (Nat.le_of_ble_eq_true rfl) ?_ | refine Need.fin ?_ | refine Need.mk ?_ ?_ | refine Ix.strsF rfl ?_ | refine Ix.strs rfl ?_ ?_ | refine Cut.strs rfl ?_ ?_ | refine Ix.mapF (fun _ => rfl) ?_ | refine Ix.map (fun _ => rfl) ?_ ?_ | refine Cut.map (fun _ => rfl) ?_ ?_ | refine Fork.yes (by assumption) ?_ | refine Fork.no (by assumption) ?_ | refine Fork.decYes (by omega) ?_ | refine Fork.decNo (by omega) ?_ | refine Fork.dec (fun _ => ?_) (fun _ => ?_) | refine Fork.bne (fun _ => ?_) (fun _ => ?_) | refine Fork.beq (fun _ => ?_) (fun _ => ?_) | refine Fork.seq (fun _ => ?_) (fun _ => ?_) | refine Fork.sne (fun _ => ?_) (fun _ => ?_) | refine Fork.neg (fun _ => ?_) (fun _ => ?_) | refine Fork.mk (fun _ => ?_) (fun _ => ?_) | refine HAlt.mk ?_ ?_ | apply HJoin.mk3 | exact HEnd.mk rfl rfl rfl | refine HEnd.mk ?_ ?_ ?_ | refine Round.mk ?_ | refine NilQ.mk (fun b hb => ?_) | refine forceK_of ?_ | refine forceBx_of ?_ | refine unG_old ?_ | refine unG_gv ?_ | refine Lit.read rfl ?_ | refine LitO.own rfl ?_ | refine FinVal.keep ?_ | refine FinAgg.keep ?_ | refine Final.mk rfl rfl | refine Final.mk ?_ rfl | refine Final.mk ?_ ?_ | refine FinalT.mk ?_ ?_ | refine FinalI.mk ?_ | refine FinalC.allA ?_ | refine ACall.scalA _ _ (szRuleS.ret _ _ ?_ ?_ ?_) rfl ?_ | refine AQCall.mkA _ _ (fun hg => szRuleS.ret _ _ ?_ ?_ ?_) rfl ?_ | refine AGCall.mkA _ _ (fun hg => szRuleS.ret _ _ ?_ ?_ ?_) rfl ?_ | refine ACall.scalA _ _ (szIntS.ret _ _ ?_ ?_ ?_) rfl ?_ | refine AQCall.mkA _ _ (fun hg => szIntS.ret _ _ ?_ ?_ ?_) rfl ?_ | refine AGCall.mkA _ _ (fun hg => szIntS.ret _ _ ?_ ?_ ?_) rfl ?_ | refine ACall.scalA _ _ (szAlphaS.ret _ _ ?_ ?_ ?_) rfl ?_ | refine AQCall.mkA _ _ (fun hg => szAlphaS.ret _ _ ?_ ?_ ?_) rfl ?_ | refine AGCall.mkA _ _ (fun hg => szAlphaS.ret _ _ ?_ ?_ ?_) rfl ?_ | refine ACall.scalA _ _ (szNodeS.ret _ _ ?_ ?_ ?_) rfl ?_ | refine AQCall.mkA _ _ (fun hg => szNodeS.ret _ _ ?_ ?_ ?_) rfl ?_ | refine AGCall.mkA _ _ (fun hg => szNodeS.ret _ _ ?_ ?_ ?_) rfl ?_ | refine ACall.scalA _ _ (szFactS.ret _ _ ?_ ?_ ?_) rfl ?_ | refine AQCall.mkA _ _ (fun hg => szFactS.ret _ _ ?_ ?_ ?_) rfl ?_ | refine AGCall.mkA _ _ (fun hg => szFactS.ret _ _ ?_ ?_ ?_) rfl ?_)
      | refine AV.bool_congr ?_ | refine AV.int_congr ?_ | refine AV.str_congr ?_ | refine AV.list_congr ?_ | with_reducible rfl | refine fr1 ?_ | refine fr2 ?_ ?_
    all_goals first
      | assumption
      | omega
      | exact left_eq (by omega)
  by_cases c2 : a < (tRules.size f.1 : Int) + (f.2.1.length : Int)
  · have e0 : left a (tRules.size f.1) = a - (tRules.size f.1 : Int) := by rw [left, if_neg (by omega)]
    have e1 : left (left a (tRules.size f.1)) (f.2.1.length) = -1 := by rw [e0, left, if_pos (by omega)]
    repeat' first
      | contradiction | exact trivial
      | (conv => whnf
         first | refine Need.mk (fun h => h) ?_ | refine Need.mk rfl ?_ | refine Need.mk ⟨rfl, Nat.le_of_ble_eq_true rfl⟩ ?_ | refine Need.mk (Nat.le_of_ble_eq_true rfl) ?_ | refine Need.fin ?_ | refine Need.mk ?_ ?_ | refine Ix.strsF rfl ?_ | refine Ix.strs rfl ?_ ?_ | refine Cut.strs rfl ?_ ?_ | refine Ix.mapF (fun _ => rfl) ?_ | refine Ix.map (fun _ => rfl) ?_ ?_ | refine Cut.map (fun _ => rfl) ?_ ?_ | refine Fork.yes (by assumption) ?_ | refine Fork.no (by assumption) ?_ | refine Fork.decYes (by omega) ?_ | refine Fork.decNo (by omega) ?_ | refine Fork.dec (fun _ => ?_) (fun _ => ?_) | refine Fork.bne (fun _ => ?_) (fun _ => ?_) | refine Fork.beq (fun _ => ?_) (fun _ => ?_) | refine Fork.seq (fun _ => ?_) (fun _ => ?_) | refine Fork.sne (fun _ => ?_) (fun _ => ?_) | refine Fork.neg (fun _ => ?_) (fun _ => ?_) | refine Fork.mk (fun _ => ?_) (fun _ => ?_) | refine HAlt.mk ?_ ?_ | apply HJoin.mk3 | exact HEnd.mk rfl rfl rfl | refine HEnd.mk ?_ ?_ ?_ | refine Round.mk ?_ | refine NilQ.mk (fun b hb => ?_) | refine forceK_of ?_ | refine forceBx_of ?_ | refine unG_old ?_ | refine unG_gv ?_ | refine Lit.read rfl ?_ | refine LitO.own rfl ?_ | refine FinVal.keep ?_ | refine FinAgg.keep ?_ | refine Final.mk rfl rfl | refine Final.mk ?_ rfl | refine Final.mk ?_ ?_ | refine FinalT.mk ?_ ?_ | refine FinalI.mk ?_ | refine FinalC.allA ?_ | refine ACall.scalA _ _ (szRuleS.ret _ _ ?_ ?_ ?_) rfl ?_ | refine AQCall.mkA _ _ (fun hg => szRuleS.ret _ _ ?_ ?_ ?_) rfl ?_ | refine AGCall.mkA _ _ (fun hg => szRuleS.ret _ _ ?_ ?_ ?_) rfl ?_ | refine ACall.scalA _ _ (szIntS.ret _ _ ?_ ?_ ?_) rfl ?_ | refine AQCall.mkA _ _ (fun hg => szIntS.ret _ _ ?_ ?_ ?_) rfl ?_ | refine AGCall.mkA _ _ (fun hg => szIntS.ret _ _ ?_ ?_ ?_) rfl ?_ | refine ACall.scalA _ _ (szAlphaS.ret _ _ ?_ ?_ ?_) rfl ?_ | refine AQCall.mkA _ _ (fun hg => szAlphaS.ret _ _ ?_ ?_ ?_) rfl ?_ | refine AGCall.mkA _ _ (fun hg => szAlphaS.ret _ _ ?_ ?_ ?_) rfl ?_ | refine ACall.scalA _ _ (szNodeS.ret _ _ ?_ ?_ ?_) rfl ?_ | refine AQCall.mkA _ _ (fun hg => szNodeS.ret _ _ ?_ ?_ ?_) rfl ?_ | refine AGCall.mkA _ _ (fun hg => szNodeS.ret _ _ ?_ ?_ ?_) rfl ?_ | refine ACall.scalA _ _ (szFactS.ret _ _ ?_ ?_ ?_) rfl ?_ | refine AQCall.mkA _ _ (fun hg => szFactS.ret _ _ ?_ ?_ ?_) rfl ?_ | refine AGCall.mkA _ _ (fun hg => szFactS.ret _ _ ?_ ?_ ?_) rfl ?_)
      | refine AV.bool_congr ?_ | refine AV.int_congr ?_ | refine AV.str_congr ?_ | refine AV.list_congr ?_ | with_reducible rfl | refine fr1 ?_ | refine fr2 ?_ ?_
    all_goals first
      | assumption
      | omega
      | exact left_eq (by omega)
  by_cases c3 : a < (tRules.size f.1 : Int) + (f.2.1.length : Int) + (tAlphas.size f.2.2.1 : Int)
  · have e0 : left a (tRules.size f.1) = a - (tRules.size f.1 : Int) := by rw [left, if_neg (by omega)]
    have e1 : left (left a (tRules.size f.1)) (f.2.1.length) = a - (tRules.size f.1 : Int) - (f.2.1.length : Int) := by rw [e0, left, if_neg (by omega)]
    have e2 : left (left (left a (tRules.size f.1)) (f.2.1.length)) (tAlphas.size f.2.2.1) = -1 := by rw [e1, left, if_pos (by omega)]
    repeat' first
      | contradiction | exact trivial
      | (conv => whnf
         first | refine Need.mk (fun h => h) ?_ | refine Need.mk rfl ?_ | refine Need.mk ⟨rfl, Nat.le_of_ble_eq_true rfl⟩ ?_ | refine Need.mk (Nat.le_of_ble_eq_true rfl) ?_ | refine Need.fin ?_ | refine Need.mk ?_ ?_ | refine Ix.strsF rfl ?_ | refine Ix.strs rfl ?_ ?_ | refine Cut.strs rfl ?_ ?_ | refine Ix.mapF (fun _ => rfl) ?_ | refine Ix.map (fun _ => rfl) ?_ ?_ | refine Cut.map (fun _ => rfl) ?_ ?_ | refine Fork.yes (by assumption) ?_ | refine Fork.no (by assumption) ?_ | refine Fork.decYes (by omega) ?_ | refine Fork.decNo (by omega) ?_ | refine Fork.dec (fun _ => ?_) (fun _ => ?_) | refine Fork.bne (fun _ => ?_) (fun _ => ?_) | refine Fork.beq (fun _ => ?_) (fun _ => ?_) | refine Fork.seq (fun _ => ?_) (fun _ => ?_) | refine Fork.sne (fun _ => ?_) (fun _ => ?_) | refine Fork.neg (fun _ => ?_) (fun _ => ?_) | refine Fork.mk (fun _ => ?_) (fun _ => ?_) | refine HAlt.mk ?_ ?_ | apply HJoin.mk3 | exact HEnd.mk rfl rfl rfl | refine HEnd.mk ?_ ?_ ?_ | refine Round.mk ?_ | refine NilQ.mk (fun b hb => ?_) | refine forceK_of ?_ | refine forceBx_of ?_ | refine unG_old ?_ | refine unG_gv ?_ | refine Lit.read rfl ?_ | refine LitO.own rfl ?_ | refine FinVal.keep ?_ | refine FinAgg.keep ?_ | refine Final.mk rfl rfl | refine Final.mk ?_ rfl | refine Final.mk ?_ ?_ | refine FinalT.mk ?_ ?_ | refine FinalI.mk ?_ | refine FinalC.allA ?_ | refine ACall.scalA _ _ (szRuleS.ret _ _ ?_ ?_ ?_) rfl ?_ | refine AQCall.mkA _ _ (fun hg => szRuleS.ret _ _ ?_ ?_ ?_) rfl ?_ | refine AGCall.mkA _ _ (fun hg => szRuleS.ret _ _ ?_ ?_ ?_) rfl ?_ | refine ACall.scalA _ _ (szIntS.ret _ _ ?_ ?_ ?_) rfl ?_ | refine AQCall.mkA _ _ (fun hg => szIntS.ret _ _ ?_ ?_ ?_) rfl ?_ | refine AGCall.mkA _ _ (fun hg => szIntS.ret _ _ ?_ ?_ ?_) rfl ?_ | refine ACall.scalA _ _ (szAlphaS.ret _ _ ?_ ?_ ?_) rfl ?_ | refine AQCall.mkA _ _ (fun hg => szAlphaS.ret _ _ ?_ ?_ ?_) rfl ?_ | refine AGCall.mkA _ _ (fun hg => szAlphaS.ret _ _ ?_ ?_ ?_) rfl ?_ | refine ACall.scalA _ _ (szNodeS.ret _ _ ?_ ?_ ?_) rfl ?_ | refine AQCall.mkA _ _ (fun hg => szNodeS.ret _ _ ?_ ?_ ?_) rfl ?_ | refine AGCall.mkA _ _ (fun hg => szNodeS.ret _ _ ?_ ?_ ?_) rfl ?_ | refine ACall.scalA _ _ (szFactS.ret _ _ ?_ ?_ ?_) rfl ?_ | refine AQCall.mkA _ _ (fun hg => szFactS.ret _ _ ?_ ?_ ?_) rfl ?_ | refine AGCall.mkA _ _ (fun hg => szFactS.ret _ _ ?_ ?_ ?_) rfl ?_)
      | refine AV.bool_congr ?_ | refine AV.int_congr ?_ | refine AV.str_congr ?_ | refine AV.list_congr ?_ | with_reducible rfl | refine fr1 ?_ | refine fr2 ?_ ?_
    all_goals first
      | assumption
      | omega
      | exact left_eq (by omega)
  by_cases c4 : a < (tRules.size f.1 : Int) + (f.2.1.length : Int) + (tAlphas.size f.2.2.1 : Int) + (tNodes.size f.2.2.2.1 : Int)
  · have e0 : left a (tRules.size f.1) = a - (tRules.size f.1 : Int) := by rw [left, if_neg (by omega)]
    have e1 : left (left a (tRules.size f.1)) (f.2.1.length) = a - (tRules.size f.1 : Int) - (f.2.1.length : Int) := by rw [e0, left, if_neg (by omega)]
    have e2 : left (left (left a (tRules.size f.1)) (f.2.1.length)) (tAlphas.size f.2.2.1) = a - (tRules.size f.1 : Int) - (f.2.1.length : Int) - (tAlphas.size f.2.2.1 : Int) := by rw [e1, left, if_neg (by omega)]
    have e3 : left (left (left (left a (tRules.size f.1)) (f.2.1.length)) (tAlphas.size f.2.2.1)) (tNodes.size f.2.2.2.1) = -1 := by rw [e2, left, if_pos (by omega)]
    repeat' first
      | contradiction | exact trivial
      | (conv => whnf
         first | refine Need.mk (fun h => h) ?_ | refine Need.mk rfl ?_ | refine Need.mk ⟨rfl, Nat.le_of_ble_eq_true rfl⟩ ?_ | refine Need.mk (Nat.le_of_ble_eq_true rfl) ?_ | refine Need.fin ?_ | refine Need.mk ?_ ?_ | refine Ix.strsF rfl ?_ | refine Ix.strs rfl ?_ ?_ | refine Cut.strs rfl ?_ ?_ | refine Ix.mapF (fun _ => rfl) ?_ | refine Ix.map (fun _ => rfl) ?_ ?_ | refine Cut.map (fun _ => rfl) ?_ ?_ | refine Fork.yes (by assumption) ?_ | refine Fork.no (by assumption) ?_ | refine Fork.decYes (by omega) ?_ | refine Fork.decNo (by omega) ?_ | refine Fork.dec (fun _ => ?_) (fun _ => ?_) | refine Fork.bne (fun _ => ?_) (fun _ => ?_) | refine Fork.beq (fun _ => ?_) (fun _ => ?_) | refine Fork.seq (fun _ => ?_) (fun _ => ?_) | refine Fork.sne (fun _ => ?_) (fun _ => ?_) | refine Fork.neg (fun _ => ?_) (fun _ => ?_) | refine Fork.mk (fun _ => ?_) (fun _ => ?_) | refine HAlt.mk ?_ ?_ | apply HJoin.mk3 | exact HEnd.mk rfl rfl rfl | refine HEnd.mk ?_ ?_ ?_ | refine Round.mk ?_ | refine NilQ.mk (fun b hb => ?_) | refine forceK_of ?_ | refine forceBx_of ?_ | refine unG_old ?_ | refine unG_gv ?_ | refine Lit.read rfl ?_ | refine LitO.own rfl ?_ | refine FinVal.keep ?_ | refine FinAgg.keep ?_ | refine Final.mk rfl rfl | refine Final.mk ?_ rfl | refine Final.mk ?_ ?_ | refine FinalT.mk ?_ ?_ | refine FinalI.mk ?_ | refine FinalC.allA ?_ | refine ACall.scalA _ _ (szRuleS.ret _ _ ?_ ?_ ?_) rfl ?_ | refine AQCall.mkA _ _ (fun hg => szRuleS.ret _ _ ?_ ?_ ?_) rfl ?_ | refine AGCall.mkA _ _ (fun hg => szRuleS.ret _ _ ?_ ?_ ?_) rfl ?_ | refine ACall.scalA _ _ (szIntS.ret _ _ ?_ ?_ ?_) rfl ?_ | refine AQCall.mkA _ _ (fun hg => szIntS.ret _ _ ?_ ?_ ?_) rfl ?_ | refine AGCall.mkA _ _ (fun hg => szIntS.ret _ _ ?_ ?_ ?_) rfl ?_ | refine ACall.scalA _ _ (szAlphaS.ret _ _ ?_ ?_ ?_) rfl ?_ | refine AQCall.mkA _ _ (fun hg => szAlphaS.ret _ _ ?_ ?_ ?_) rfl ?_ | refine AGCall.mkA _ _ (fun hg => szAlphaS.ret _ _ ?_ ?_ ?_) rfl ?_ | refine ACall.scalA _ _ (szNodeS.ret _ _ ?_ ?_ ?_) rfl ?_ | refine AQCall.mkA _ _ (fun hg => szNodeS.ret _ _ ?_ ?_ ?_) rfl ?_ | refine AGCall.mkA _ _ (fun hg => szNodeS.ret _ _ ?_ ?_ ?_) rfl ?_ | refine ACall.scalA _ _ (szFactS.ret _ _ ?_ ?_ ?_) rfl ?_ | refine AQCall.mkA _ _ (fun hg => szFactS.ret _ _ ?_ ?_ ?_) rfl ?_ | refine AGCall.mkA _ _ (fun hg => szFactS.ret _ _ ?_ ?_ ?_) rfl ?_)
      | refine AV.bool_congr ?_ | refine AV.int_congr ?_ | refine AV.str_congr ?_ | refine AV.list_congr ?_ | with_reducible rfl | refine fr1 ?_ | refine fr2 ?_ ?_
    all_goals first
      | assumption
      | omega
      | exact left_eq (by omega)
  by_cases c5 : a < (tRules.size f.1 : Int) + (f.2.1.length : Int) + (tAlphas.size f.2.2.1 : Int) + (tNodes.size f.2.2.2.1 : Int) + (tFcts.size f.2.2.2.2.1 : Int)
  · have e0 : left a (tRules.size f.1) = a - (tRules.size f.1 : Int) := by rw [left, if_neg (by omega)]
    have e1 : left (left a (tRules.size f.1)) (f.2.1.length) = a - (tRules.size f.1 : Int) - (f.2.1.length : Int) := by rw [e0, left, if_neg (by omega)]
    have e2 : left (left (left a (tRules.size f.1)) (f.2.1.length)) (tAlphas.size f.2.2.1) = a - (tRules.size f.1 : Int) - (f.2.1.length : Int) - (tAlphas.size f.2.2.1 : Int) := by rw [e1, left, if_neg (by omega)]
    have e3 : left (left (left (left a (tRules.size f.1)) (f.2.1.length)) (tAlphas.size f.2.2.1)) (tNodes.size f.2.2.2.1) = a - (tRules.size f.1 : Int) - (f.2.1.length : Int) - (tAlphas.size f.2.2.1 : Int) - (tNodes.size f.2.2.2.1 : Int) := by rw [e2, left, if_neg (by omega)]
    have e4 : left (left (left (left (left a (tRules.size f.1)) (f.2.1.length)) (tAlphas.size f.2.2.1)) (tNodes.size f.2.2.2.1)) (tFcts.size f.2.2.2.2.1) = -1 := by rw [e3, left, if_pos (by omega)]
    repeat' first
      | contradiction | exact trivial
      | (conv => whnf
         first | refine Need.mk (fun h => h) ?_ | refine Need.mk rfl ?_ | refine Need.mk ⟨rfl, Nat.le_of_ble_eq_true rfl⟩ ?_ | refine Need.mk (Nat.le_of_ble_eq_true rfl) ?_ | refine Need.fin ?_ | refine Need.mk ?_ ?_ | refine Ix.strsF rfl ?_ | refine Ix.strs rfl ?_ ?_ | refine Cut.strs rfl ?_ ?_ | refine Ix.mapF (fun _ => rfl) ?_ | refine Ix.map (fun _ => rfl) ?_ ?_ | refine Cut.map (fun _ => rfl) ?_ ?_ | refine Fork.yes (by assumption) ?_ | refine Fork.no (by assumption) ?_ | refine Fork.decYes (by omega) ?_ | refine Fork.decNo (by omega) ?_ | refine Fork.dec (fun _ => ?_) (fun _ => ?_) | refine Fork.bne (fun _ => ?_) (fun _ => ?_) | refine Fork.beq (fun _ => ?_) (fun _ => ?_) | refine Fork.seq (fun _ => ?_) (fun _ => ?_) | refine Fork.sne (fun _ => ?_) (fun _ => ?_) | refine Fork.neg (fun _ => ?_) (fun _ => ?_) | refine Fork.mk (fun _ => ?_) (fun _ => ?_) | refine HAlt.mk ?_ ?_ | apply HJoin.mk3 | exact HEnd.mk rfl rfl rfl | refine HEnd.mk ?_ ?_ ?_ | refine Round.mk ?_ | refine NilQ.mk (fun b hb => ?_) | refine forceK_of ?_ | refine forceBx_of ?_ | refine unG_old ?_ | refine unG_gv ?_ | refine Lit.read rfl ?_ | refine LitO.own rfl ?_ | refine FinVal.keep ?_ | refine FinAgg.keep ?_ | refine Final.mk rfl rfl | refine Final.mk ?_ rfl | refine Final.mk ?_ ?_ | refine FinalT.mk ?_ ?_ | refine FinalI.mk ?_ | refine FinalC.allA ?_ | refine ACall.scalA _ _ (szRuleS.ret _ _ ?_ ?_ ?_) rfl ?_ | refine AQCall.mkA _ _ (fun hg => szRuleS.ret _ _ ?_ ?_ ?_) rfl ?_ | refine AGCall.mkA _ _ (fun hg => szRuleS.ret _ _ ?_ ?_ ?_) rfl ?_ | refine ACall.scalA _ _ (szIntS.ret _ _ ?_ ?_ ?_) rfl ?_ | refine AQCall.mkA _ _ (fun hg => szIntS.ret _ _ ?_ ?_ ?_) rfl ?_ | refine AGCall.mkA _ _ (fun hg => szIntS.ret _ _ ?_ ?_ ?_) rfl ?_ | refine ACall.scalA _ _ (szAlphaS.ret _ _ ?_ ?_ ?_) rfl ?_ | refine AQCall.mkA _ _ (fun hg => szAlphaS.ret _ _ ?_ ?_ ?_) rfl ?_ | refine AGCall.mkA _ _ (fun hg => szAlphaS.ret _ _ ?_ ?_ ?_) rfl ?_ | refine ACall.scalA _ _ (szNodeS.ret _ _ ?_ ?_ ?_) rfl ?_ | refine AQCall.mkA _ _ (fun hg => szNodeS.ret _ _ ?_ ?_ ?_) rfl ?_ | refine AGCall.mkA _ _ (fun hg => szNodeS.ret _ _ ?_ ?_ ?_) rfl ?_ | refine ACall.scalA _ _ (szFactS.ret _ _ ?_ ?_ ?_) rfl ?_ | refine AQCall.mkA _ _ (fun hg => szFactS.ret _ _ ?_ ?_ ?_) rfl ?_ | refine AGCall.mkA _ _ (fun hg => szFactS.ret _ _ ?_ ?_ ?_) rfl ?_)
      | refine AV.bool_congr ?_ | refine AV.int_congr ?_ | refine AV.str_congr ?_ | refine AV.list_congr ?_ | with_reducible rfl | refine fr1 ?_ | refine fr2 ?_ ?_
    all_goals first
      | assumption
      | omega
      | exact left_eq (by omega)
  have e0 : left a (tRules.size f.1) = a - (tRules.size f.1 : Int) := by rw [left, if_neg (by omega)]
  have e1 : left (left a (tRules.size f.1)) (f.2.1.length) = a - (tRules.size f.1 : Int) - (f.2.1.length : Int) := by rw [e0, left, if_neg (by omega)]
  have e2 : left (left (left a (tRules.size f.1)) (f.2.1.length)) (tAlphas.size f.2.2.1) = a - (tRules.size f.1 : Int) - (f.2.1.length : Int) - (tAlphas.size f.2.2.1 : Int) := by rw [e1, left, if_neg (by omega)]
  have e3 : left (left (left (left a (tRules.size f.1)) (f.2.1.length)) (tAlphas.size f.2.2.1)) (tNodes.size f.2.2.2.1) = a - (tRules.size f.1 : Int) - (f.2.1.length : Int) - (tAlphas.size f.2.2.1 : Int) - (tNodes.size f.2.2.2.1 : Int) := by rw [e2, left, if_neg (by omega)]
  have e4 : left (left (left (left (left a (tRules.size f.1)) (f.2.1.length)) (tAlphas.size f.2.2.1)) (tNodes.size f.2.2.2.1)) (tFcts.size f.2.2.2.2.1) = a - (tRules.size f.1 : Int) - (f.2.1.length : Int) - (tAlphas.size f.2.2.1 : Int) - (tNodes.size f.2.2.2.1 : Int) - (tFcts.size f.2.2.2.2.1 : Int) := by rw [e3, left, if_neg (by omega)]
  repeat' first
    | contradiction | exact trivial
    | (conv => whnf
       first | refine Need.mk (fun h => h) ?_ | refine Need.mk rfl ?_ | refine Need.mk ⟨rfl, Nat.le_of_ble_eq_true rfl⟩ ?_ | refine Need.mk (Nat.le_of_ble_eq_true rfl) ?_ | refine Need.fin ?_ | refine Need.mk ?_ ?_ | refine Ix.strsF rfl ?_ | refine Ix.strs rfl ?_ ?_ | refine Cut.strs rfl ?_ ?_ | refine Ix.mapF (fun _ => rfl) ?_ | refine Ix.map (fun _ => rfl) ?_ ?_ | refine Cut.map (fun _ => rfl) ?_ ?_ | refine Fork.yes (by assumption) ?_ | refine Fork.no (by assumption) ?_ | refine Fork.decYes (by omega) ?_ | refine Fork.decNo (by omega) ?_ | refine Fork.dec (fun _ => ?_) (fun _ => ?_) | refine Fork.bne (fun _ => ?_) (fun _ => ?_) | refine Fork.beq (fun _ => ?_) (fun _ => ?_) | refine Fork.seq (fun _ => ?_) (fun _ => ?_) | refine Fork.sne (fun _ => ?_) (fun _ => ?_) | refine Fork.neg (fun _ => ?_) (fun _ => ?_) | refine Fork.mk (fun _ => ?_) (fun _ => ?_) | refine HAlt.mk ?_ ?_ | apply HJoin.mk3 | exact HEnd.mk rfl rfl rfl | refine HEnd.mk ?_ ?_ ?_ | refine Round.mk ?_ | refine NilQ.mk (fun b hb => ?_) | refine forceK_of ?_ | refine forceBx_of ?_ | refine unG_old ?_ | refine unG_gv ?_ | refine Lit.read rfl ?_ | refine LitO.own rfl ?_ | refine FinVal.keep ?_ | refine FinAgg.keep ?_ | refine Final.mk rfl rfl | refine Final.mk ?_ rfl | refine Final.mk ?_ ?_ | refine FinalT.mk ?_ ?_ | refine FinalI.mk ?_ | refine FinalC.allA ?_ | refine ACall.scalA _ _ (szRuleS.ret _ _ ?_ ?_ ?_) rfl ?_ | refine AQCall.mkA _ _ (fun hg => szRuleS.ret _ _ ?_ ?_ ?_) rfl ?_ | refine AGCall.mkA _ _ (fun hg => szRuleS.ret _ _ ?_ ?_ ?_) rfl ?_ | refine ACall.scalA _ _ (szIntS.ret _ _ ?_ ?_ ?_) rfl ?_ | refine AQCall.mkA _ _ (fun hg => szIntS.ret _ _ ?_ ?_ ?_) rfl ?_ | refine AGCall.mkA _ _ (fun hg => szIntS.ret _ _ ?_ ?_ ?_) rfl ?_ | refine ACall.scalA _ _ (szAlphaS.ret _ _ ?_ ?_ ?_) rfl ?_ | refine AQCall.mkA _ _ (fun hg => szAlphaS.ret _ _ ?_ ?_ ?_) rfl ?_ | refine AGCall.mkA _ _ (fun hg => szAlphaS.ret _ _ ?_ ?_ ?_) rfl ?_ | refine ACall.scalA _ _ (szNodeS.ret _ _ ?_ ?_ ?_) rfl ?_ | refine AQCall.mkA _ _ (fun hg => szNodeS.ret _ _ ?_ ?_ ?_) rfl ?_ | refine AGCall.mkA _ _ (fun hg => szNodeS.ret _ _ ?_ ?_ ?_) rfl ?_ | refine ACall.scalA _ _ (szFactS.ret _ _ ?_ ?_ ?_) rfl ?_ | refine AQCall.mkA _ _ (fun hg => szFactS.ret _ _ ?_ ?_ ?_) rfl ?_ | refine AGCall.mkA _ _ (fun hg => szFactS.ret _ _ ?_ ?_ ?_) rfl ?_)
    | refine AV.bool_congr ?_ | refine AV.int_congr ?_ | refine AV.str_congr ?_ | refine AV.list_congr ?_ | with_reducible rfl | refine fr1 ?_ | refine fr2 ?_ ?_
  all_goals first
    | assumption
    | omega
    | exact left_eq (by omega)
set_option maxHeartbeats 4000000 in
theorem eqNetwork.big (f g : VNetwork) (h : tNetwork.size f ≤ 1099511627775) : eqNetwork.Ret [.agg (oldL (tNetwork.q f)), .agg (oldL (tNetwork.q g))] (.val (.bool (decide (f = g)))) [] := by
  refine eqNetwork.of rfl ?_
  have hz := tNetwork_size f
  repeat' first
    | contradiction | exact trivial
    | (conv => whnf
       first | refine Need.mk (fun h => h) ?_ | refine Need.mk rfl ?_ | refine Need.mk ⟨rfl, Nat.le_of_ble_eq_true rfl⟩ ?_ | refine Need.mk (Nat.le_of_ble_eq_true rfl) ?_ | refine Need.fin ?_ | refine Need.mk ?_ ?_ | refine Ix.strsF rfl ?_ | refine Ix.strs rfl ?_ ?_ | refine Cut.strs rfl ?_ ?_ | refine Ix.mapF (fun _ => rfl) ?_ | refine Ix.map (fun _ => rfl) ?_ ?_ | refine Cut.map (fun _ => rfl) ?_ ?_ | refine Fork.yes (by assumption) ?_ | refine Fork.no (by assumption) ?_ | refine Fork.decYes (by omega) ?_ | refine Fork.decNo (by omega) ?_ | refine Fork.dec (fun _ => ?_) (fun _ => ?_) | refine Fork.bne (fun _ => ?_) (fun _ => ?_) | refine Fork.beq (fun _ => ?_) (fun _ => ?_) | refine Fork.seq (fun _ => ?_) (fun _ => ?_) | refine Fork.sne (fun _ => ?_) (fun _ => ?_) | refine Fork.neg (fun _ => ?_) (fun _ => ?_) | refine Fork.mk (fun _ => ?_) (fun _ => ?_) | refine HAlt.mk ?_ ?_ | apply HJoin.mk3 | exact HEnd.mk rfl rfl rfl | refine HEnd.mk ?_ ?_ ?_ | refine Round.mk ?_ | refine NilQ.mk (fun b hb => ?_) | refine forceK_of ?_ | refine forceBx_of ?_ | refine unG_old ?_ | refine unG_gv ?_ | refine Lit.read rfl ?_ | refine LitO.own rfl ?_ | refine FinVal.keep ?_ | refine FinAgg.keep ?_ | refine Final.mk rfl rfl | refine Final.mk ?_ rfl | refine Final.mk ?_ ?_ | refine FinalT.mk ?_ ?_ | refine FinalI.mk ?_ | refine FinalC.allA ?_ | refine ACall.scalA _ _ (eqRuleS.big _ _ ?_) rfl ?_ | refine AQCall.mkA _ _ (fun hg => eqRuleS.big _ _ ?_) rfl ?_ | refine AGCall.mkA _ _ (fun hg => eqRuleS.big _ _ ?_) rfl ?_ | refine ACall.scalA _ _ (eqIntS.big _ _ ?_) rfl ?_ | refine AQCall.mkA _ _ (fun hg => eqIntS.big _ _ ?_) rfl ?_ | refine AGCall.mkA _ _ (fun hg => eqIntS.big _ _ ?_) rfl ?_ | refine ACall.scalA _ _ (eqAlphaS.big _ _ ?_) rfl ?_ | refine AQCall.mkA _ _ (fun hg => eqAlphaS.big _ _ ?_) rfl ?_ | refine AGCall.mkA _ _ (fun hg => eqAlphaS.big _ _ ?_) rfl ?_ | refine ACall.scalA _ _ (eqNodeS.big _ _ ?_) rfl ?_ | refine AQCall.mkA _ _ (fun hg => eqNodeS.big _ _ ?_) rfl ?_ | refine AGCall.mkA _ _ (fun hg => eqNodeS.big _ _ ?_) rfl ?_ | refine ACall.scalA _ _ (eqFactS.big _ _ ?_) rfl ?_ | refine AQCall.mkA _ _ (fun hg => eqFactS.big _ _ ?_) rfl ?_ | refine AGCall.mkA _ _ (fun hg => eqFactS.big _ _ ?_) rfl ?_)
    | refine AV.bool_congr ?_ | refine AV.int_congr ?_ | refine AV.str_congr ?_ | refine AV.list_congr ?_ | with_reducible rfl | refine fr1 ?_ | refine fr2 ?_ ?_
  all_goals first
    | omega
    | (simp only [tStrs_size, tInts_size] at *; omega)
    | (obtain ⟨x0, x1, x2, x3, x4, x5⟩ := f; obtain ⟨y0, y1, y2, y3, y4, y5⟩ := g; simp_all)
set_option maxHeartbeats 4000000 in
theorem markNetwork.tn (f : VNetwork) (k : Nat) (hs : tNetwork.size f ≤ 1099511627775) (hk : k + cn (.a (tNetwork.q f)) ≤ 1099511627775) :
    markNetwork.Turn (gb (.a (tNetwork.q f)) 0) [gv (.a (tNetwork.q f)) 0, .val (.int .i64 k)] (.val (.int .i64 ((k + cn (.a (tNetwork.q f)) : Nat)))) (gb (mk (.a (tNetwork.q f)) k) 0) := by
  refine markNetwork.ofT rfl rfl (by rw [length_gb, nb_mk]) ?_
  have hz41 := tNetwork_size f
  obtain ⟨cs, hcs⟩ : ∃ cs : List Tr, cs = [.l 110 4 (f.1.map tRule.q), .l 3 1 (f.2.1.map Ty.int.q), .l 106 3 (f.2.2.1.map tAlpha.q), .l 87 8 (f.2.2.2.1.map tNode.q), .l 144 2 (f.2.2.2.2.1.map tFct.q), .v (.int .i64 f.2.2.2.2.2)] := ⟨_, rfl⟩
  have hun : tNetwork.q f = unA cs := by rw [hcs]; rfl
  have hc0 : cs[0]? = some (.l 110 4 (f.1.map tRule.q)) := by rw [hcs]; rfl
  have hc1 : cs[1]? = some (.l 3 1 (f.2.1.map Ty.int.q)) := by rw [hcs]; rfl
  have hc2 : cs[2]? = some (.l 106 3 (f.2.2.1.map tAlpha.q)) := by rw [hcs]; rfl
  have hc3 : cs[3]? = some (.l 87 8 (f.2.2.2.1.map tNode.q)) := by rw [hcs]; rfl
  have hc4 : cs[4]? = some (.l 144 2 (f.2.2.2.2.1.map tFct.q)) := by rw [hcs]; rfl
  have hc5 : cs[5]? = some (.v (.int .i64 f.2.2.2.2.2)) := by rw [hcs]; rfl
  have hka : k + cnA cs ≤ 1099511627775 := by rw [← cnA_unA, ← hun]; exact hk
  have hcl : cs.length = 6 := by rw [hcs]; rfl
  have e1 : gb (.a (tNetwork.q f)) 0 = gbL (sa cs k 0) 0 := by rw [gb, hun, gbL_unA]; rfl
  have e2 : gb (mk (.a (tNetwork.q f)) k) 0 = gbL (sa cs k 6) 0 := by rw [mk, gb, hun, mkA_unA, gbL_unA, sa_all cs k hcl.symm]
  have e3 : cn (.a (tNetwork.q f)) = cnA (cs.take 6) := by rw [cn, hun, cnA_unA, List.take_of_length_le (by omega)]
  rw [e1, e2, e3]
  obtain ⟨nz, hnz⟩ : ∃ nz, nz = (gbL (sa cs k 0) 0).length := ⟨_, rfl⟩
  have hlb : ∀ p, (gbL (sa cs k p) 0).length = nz := fun p => by rw [hnz, length_gbL, length_gbL, nbL_sa, nbL_sa]
  have hat : ∀ p : Nat, (gbL (sa cs k p) 0 ++ [.cells .var (gvL (tNetwork.q f) 0)])[(gbL (sa cs k 0) 0).length]? = some (.cells .var (gvL (tNetwork.q f) 0)) := fun p => by
    rw [← hnz, List.getElem?_append_right (by rw [hlb]; exact Nat.le_refl _), hlb, Nat.sub_self]; rfl
  have n0 : cnA (cs.take 1) = cnA (cs.take 0) + cn (.l 110 4 (f.1.map tRule.q)) := cnA_succ hc0
  have l0 := cnA_take_le cs 1
  have n1 : cnA (cs.take 2) = cnA (cs.take 1) + cn (.l 3 1 (f.2.1.map Ty.int.q)) := cnA_succ hc1
  have l1 := cnA_take_le cs 2
  have n2 : cnA (cs.take 3) = cnA (cs.take 2) + cn (.l 106 3 (f.2.2.1.map tAlpha.q)) := cnA_succ hc2
  have l2 := cnA_take_le cs 3
  have n3 : cnA (cs.take 4) = cnA (cs.take 3) + cn (.l 87 8 (f.2.2.2.1.map tNode.q)) := cnA_succ hc3
  have l3 := cnA_take_le cs 4
  have n4 : cnA (cs.take 5) = cnA (cs.take 4) + cn (.l 144 2 (f.2.2.2.2.1.map tFct.q)) := cnA_succ hc4
  have l4 := cnA_take_le cs 5
  have n5 : cnA (cs.take 6) = cnA (cs.take 5) := cnA_succ hc5
  have s5 : gbL (sa cs k 6) 0 = gbL (sa cs k 5) 0 := by rw [sa_succ k hc5, sa_at k hc5]; rfl
  clear e1 e2 e3
  repeat' first
    | contradiction | exact trivial
    | (conv => whnf
       first | refine Need.mk (fun h => h) ?_ | refine Need.mk rfl ?_ | refine Need.mk ⟨rfl, Nat.le_of_ble_eq_true rfl⟩ ?_ | refine Need.mk (Nat.le_of_ble_eq_true rfl) ?_ | refine Need.fin ?_ | refine Need.mk ⟨rfl, by simp only [length_setAt, List.length_set, length_gvL, length_st, Int.toNat_natCast]; omega⟩ ?_ | refine Need.mk ?_ ?_ | refine Ix.strsF rfl ?_ | refine Ix.strs rfl ?_ ?_ | refine Cut.strs rfl ?_ ?_ | refine Ix.mapF (fun _ => rfl) ?_ | refine Ix.map (fun _ => rfl) ?_ ?_ | refine Cut.map (fun _ => rfl) ?_ ?_ | refine Fork.yes (by assumption) ?_ | refine Fork.no (by assumption) ?_ | refine Fork.decYes (by omega) ?_ | refine Fork.decNo (by omega) ?_ | refine Fork.dec (fun _ => ?_) (fun _ => ?_) | refine Fork.bne (fun _ => ?_) (fun _ => ?_) | refine Fork.beq (fun _ => ?_) (fun _ => ?_) | refine Fork.seq (fun _ => ?_) (fun _ => ?_) | refine Fork.sne (fun _ => ?_) (fun _ => ?_) | refine Fork.neg (fun _ => ?_) (fun _ => ?_) | refine Fork.mk (fun _ => ?_) (fun _ => ?_) | refine HAlt.mk ?_ ?_ | apply HJoin.mk3 | exact HEnd.mk rfl rfl rfl | refine HEnd.mk ?_ ?_ ?_ | refine Round.mk ?_ | refine NilQ.mk (fun b hb => ?_) | refine forceK_of ?_ | refine forceBx_of ?_ | refine unG_old ?_ | refine unG_gv ?_ | refine Lit.read rfl ?_ | refine LitO.own rfl ?_ | refine FinVal.keep ?_ | refine FinAgg.keep ?_ | refine Final.mk rfl rfl | refine Final.mk ?_ rfl | refine Final.mk ?_ ?_ | refine FinalT.mk ?_ ?_ | refine FinalI.mk ?_ | refine FinalC.allA ?_)
    | refine AV.bool_congr ?_ | refine AV.int_congr ?_ | refine AV.str_congr ?_ | refine AV.list_congr ?_ | with_reducible rfl | refine fr1 ?_ | refine fr2 ?_ ?_
  have t0 : markRuleS.Turn (gb (.l 110 4 (f.1.map tRule.q)) 0) [gv (.l 110 4 (f.1.map tRule.q)) 0, .val (.int .i64 ((k + cnA (cs.take 0) : Nat)))] (.val (.int .i64 ((k + cnA (cs.take 1) : Nat)))) (gb (mk (.l 110 4 (f.1.map tRule.q)) (k + cnA (cs.take 0))) 0) := by
    have h := markRuleS.tn f.1 (k + cnA (cs.take 0)) (by omega) (by have := n0; change _ = _ + cn (.l 110 4 (f.1.map tRule.q)) at this; omega)
    rw [Nat.add_assoc] at h
    change markRuleS.Turn _ _ (.val (.int .i64 ((k + (cnA (cs.take 0) + cn (.l 110 4 (f.1.map tRule.q))) : Nat)))) _ at h
    rw [← n0] at h; exact h
  have hk0 : ((k + cnA (cs.take 0) : Nat) : Int) = (k : Int) := by rw [List.take_zero]; rfl
  conv => whnf
  refine ld_at _ _ (hat 0) rfl ?_
  conv => whnf
  refine ACall.turn' (gbL (sa cs k 1) 0 ++ [.cells .var (gvL (tNetwork.q f) 0)]) [gv (.l 110 4 (f.1.map tRule.q)) 0, .val (.int .i64 ((k + cnA (cs.take 0) : Nat)))] (.l 110 4 (f.1.map tRule.q)) (mk (.l 110 4 (f.1.map tRule.q)) (k + cnA (cs.take 0))) _ (gbL (mkA (cs.take 0) k) 0) (gbL (cs.drop 1) (nbL (cs.take 0) + nb (.l 110 4 (f.1.map tRule.q))) ++ [.cells .var (gvL (tNetwork.q f) 0)]) t0 rfl ?_ (nb_mk _ _) (.cons (.inl ⟨?_, rfl⟩) (.cons (.inr (by rw [hk0]; exact Sees0.val _)) .nil)) ?_ ?_
  · rw [bx_sa k hc0, List.append_assoc, List.append_assoc, List.append_assoc]
  · rw [length_gbL, nbL_mkA, hcs]
    refine AV.bsl_congr (j := 0) (j' := 0) ?_ rfl
    simp only [Nat.add_zero, Nat.zero_add, Nat.add_assoc]
  · rw [bx_sa' k hc0, List.append_assoc, List.append_assoc, List.append_assoc]
  repeat' first
    | contradiction | exact trivial
    | (conv => whnf
       first | refine Need.mk (fun h => h) ?_ | refine Need.mk rfl ?_ | refine Need.mk ⟨rfl, Nat.le_of_ble_eq_true rfl⟩ ?_ | refine Need.mk (Nat.le_of_ble_eq_true rfl) ?_ | refine Need.fin ?_ | refine Need.mk ⟨rfl, by simp only [length_setAt, List.length_set, length_gvL, length_st, Int.toNat_natCast]; omega⟩ ?_ | refine Need.mk ?_ ?_ | refine Ix.strsF rfl ?_ | refine Ix.strs rfl ?_ ?_ | refine Cut.strs rfl ?_ ?_ | refine Ix.mapF (fun _ => rfl) ?_ | refine Ix.map (fun _ => rfl) ?_ ?_ | refine Cut.map (fun _ => rfl) ?_ ?_ | refine Fork.yes (by assumption) ?_ | refine Fork.no (by assumption) ?_ | refine Fork.decYes (by omega) ?_ | refine Fork.decNo (by omega) ?_ | refine Fork.dec (fun _ => ?_) (fun _ => ?_) | refine Fork.bne (fun _ => ?_) (fun _ => ?_) | refine Fork.beq (fun _ => ?_) (fun _ => ?_) | refine Fork.seq (fun _ => ?_) (fun _ => ?_) | refine Fork.sne (fun _ => ?_) (fun _ => ?_) | refine Fork.neg (fun _ => ?_) (fun _ => ?_) | refine Fork.mk (fun _ => ?_) (fun _ => ?_) | refine HAlt.mk ?_ ?_ | apply HJoin.mk3 | exact HEnd.mk rfl rfl rfl | refine HEnd.mk ?_ ?_ ?_ | refine Round.mk ?_ | refine NilQ.mk (fun b hb => ?_) | refine forceK_of ?_ | refine forceBx_of ?_ | refine unG_old ?_ | refine unG_gv ?_ | refine Lit.read rfl ?_ | refine LitO.own rfl ?_ | refine FinVal.keep ?_ | refine FinAgg.keep ?_ | refine Final.mk rfl rfl | refine Final.mk ?_ rfl | refine Final.mk ?_ ?_ | refine FinalT.mk ?_ ?_ | refine FinalI.mk ?_ | refine FinalC.allA ?_)
    | refine AV.bool_congr ?_ | refine AV.int_congr ?_ | refine AV.str_congr ?_ | refine AV.list_congr ?_ | with_reducible rfl | refine fr1 ?_ | refine fr2 ?_ ?_
  have t1 : markIntS.Turn (gb (.l 3 1 (f.2.1.map Ty.int.q)) 0) [gv (.l 3 1 (f.2.1.map Ty.int.q)) 0, .val (.int .i64 ((k + cnA (cs.take 1) : Nat)))] (.val (.int .i64 ((k + cnA (cs.take 2) : Nat)))) (gb (mk (.l 3 1 (f.2.1.map Ty.int.q)) (k + cnA (cs.take 1))) 0) := by
    have h := markIntS.tn f.2.1 (k + cnA (cs.take 1)) (by omega) (by have := n1; change _ = _ + cn (.l 3 1 (f.2.1.map Ty.int.q)) at this; omega)
    rw [Nat.add_assoc] at h
    change markIntS.Turn _ _ (.val (.int .i64 ((k + (cnA (cs.take 1) + cn (.l 3 1 (f.2.1.map Ty.int.q))) : Nat)))) _ at h
    rw [← n1] at h; exact h
  conv => whnf
  refine ld_at _ _ (hat 1) rfl ?_
  conv => whnf
  refine ACall.turn' (gbL (sa cs k 2) 0 ++ [.cells .var (gvL (tNetwork.q f) 0)]) [gv (.l 3 1 (f.2.1.map Ty.int.q)) 0, .val (.int .i64 ((k + cnA (cs.take 1) : Nat)))] (.l 3 1 (f.2.1.map Ty.int.q)) (mk (.l 3 1 (f.2.1.map Ty.int.q)) (k + cnA (cs.take 1))) _ (gbL (mkA (cs.take 1) k) 0) (gbL (cs.drop 2) (nbL (cs.take 1) + nb (.l 3 1 (f.2.1.map Ty.int.q))) ++ [.cells .var (gvL (tNetwork.q f) 0)]) t1 rfl ?_ (nb_mk _ _) (.cons (.inl ⟨?_, rfl⟩) (.cons (.inr (by exact Sees0.val _)) .nil)) ?_ ?_
  · rw [bx_sa k hc1, List.append_assoc, List.append_assoc, List.append_assoc]
  · rw [length_gbL, nbL_mkA, hcs]
    refine AV.bsl_congr (j := 0 + nb (.l 110 4 (f.1.map tRule.q))) (j' := nb (.l 110 4 (f.1.map tRule.q)) + (0)) ?_ rfl
    simp only [Nat.add_zero, Nat.zero_add, Nat.add_assoc]
  · rw [bx_sa' k hc1, List.append_assoc, List.append_assoc, List.append_assoc]
  repeat' first
    | contradiction | exact trivial
    | (conv => whnf
       first | refine Need.mk (fun h => h) ?_ | refine Need.mk rfl ?_ | refine Need.mk ⟨rfl, Nat.le_of_ble_eq_true rfl⟩ ?_ | refine Need.mk (Nat.le_of_ble_eq_true rfl) ?_ | refine Need.fin ?_ | refine Need.mk ⟨rfl, by simp only [length_setAt, List.length_set, length_gvL, length_st, Int.toNat_natCast]; omega⟩ ?_ | refine Need.mk ?_ ?_ | refine Ix.strsF rfl ?_ | refine Ix.strs rfl ?_ ?_ | refine Cut.strs rfl ?_ ?_ | refine Ix.mapF (fun _ => rfl) ?_ | refine Ix.map (fun _ => rfl) ?_ ?_ | refine Cut.map (fun _ => rfl) ?_ ?_ | refine Fork.yes (by assumption) ?_ | refine Fork.no (by assumption) ?_ | refine Fork.decYes (by omega) ?_ | refine Fork.decNo (by omega) ?_ | refine Fork.dec (fun _ => ?_) (fun _ => ?_) | refine Fork.bne (fun _ => ?_) (fun _ => ?_) | refine Fork.beq (fun _ => ?_) (fun _ => ?_) | refine Fork.seq (fun _ => ?_) (fun _ => ?_) | refine Fork.sne (fun _ => ?_) (fun _ => ?_) | refine Fork.neg (fun _ => ?_) (fun _ => ?_) | refine Fork.mk (fun _ => ?_) (fun _ => ?_) | refine HAlt.mk ?_ ?_ | apply HJoin.mk3 | exact HEnd.mk rfl rfl rfl | refine HEnd.mk ?_ ?_ ?_ | refine Round.mk ?_ | refine NilQ.mk (fun b hb => ?_) | refine forceK_of ?_ | refine forceBx_of ?_ | refine unG_old ?_ | refine unG_gv ?_ | refine Lit.read rfl ?_ | refine LitO.own rfl ?_ | refine FinVal.keep ?_ | refine FinAgg.keep ?_ | refine Final.mk rfl rfl | refine Final.mk ?_ rfl | refine Final.mk ?_ ?_ | refine FinalT.mk ?_ ?_ | refine FinalI.mk ?_ | refine FinalC.allA ?_)
    | refine AV.bool_congr ?_ | refine AV.int_congr ?_ | refine AV.str_congr ?_ | refine AV.list_congr ?_ | with_reducible rfl | refine fr1 ?_ | refine fr2 ?_ ?_
  have t2 : markAlphaS.Turn (gb (.l 106 3 (f.2.2.1.map tAlpha.q)) 0) [gv (.l 106 3 (f.2.2.1.map tAlpha.q)) 0, .val (.int .i64 ((k + cnA (cs.take 2) : Nat)))] (.val (.int .i64 ((k + cnA (cs.take 3) : Nat)))) (gb (mk (.l 106 3 (f.2.2.1.map tAlpha.q)) (k + cnA (cs.take 2))) 0) := by
    have h := markAlphaS.tn f.2.2.1 (k + cnA (cs.take 2)) (by omega) (by have := n2; change _ = _ + cn (.l 106 3 (f.2.2.1.map tAlpha.q)) at this; omega)
    rw [Nat.add_assoc] at h
    change markAlphaS.Turn _ _ (.val (.int .i64 ((k + (cnA (cs.take 2) + cn (.l 106 3 (f.2.2.1.map tAlpha.q))) : Nat)))) _ at h
    rw [← n2] at h; exact h
  conv => whnf
  refine ld_at _ _ (hat 2) rfl ?_
  conv => whnf
  refine ACall.turn' (gbL (sa cs k 3) 0 ++ [.cells .var (gvL (tNetwork.q f) 0)]) [gv (.l 106 3 (f.2.2.1.map tAlpha.q)) 0, .val (.int .i64 ((k + cnA (cs.take 2) : Nat)))] (.l 106 3 (f.2.2.1.map tAlpha.q)) (mk (.l 106 3 (f.2.2.1.map tAlpha.q)) (k + cnA (cs.take 2))) _ (gbL (mkA (cs.take 2) k) 0) (gbL (cs.drop 3) (nbL (cs.take 2) + nb (.l 106 3 (f.2.2.1.map tAlpha.q))) ++ [.cells .var (gvL (tNetwork.q f) 0)]) t2 rfl ?_ (nb_mk _ _) (.cons (.inl ⟨?_, rfl⟩) (.cons (.inr (by exact Sees0.val _)) .nil)) ?_ ?_
  · rw [bx_sa k hc2, List.append_assoc, List.append_assoc, List.append_assoc]
  · rw [length_gbL, nbL_mkA, hcs]
    refine AV.bsl_congr (j := 0 + nb (.l 110 4 (f.1.map tRule.q)) + nb (.l 3 1 (f.2.1.map Ty.int.q))) (j' := nb (.l 110 4 (f.1.map tRule.q)) + (nb (.l 3 1 (f.2.1.map Ty.int.q)) + (0))) ?_ rfl
    simp only [Nat.add_zero, Nat.zero_add, Nat.add_assoc]
  · rw [bx_sa' k hc2, List.append_assoc, List.append_assoc, List.append_assoc]
  repeat' first
    | contradiction | exact trivial
    | (conv => whnf
       first | refine Need.mk (fun h => h) ?_ | refine Need.mk rfl ?_ | refine Need.mk ⟨rfl, Nat.le_of_ble_eq_true rfl⟩ ?_ | refine Need.mk (Nat.le_of_ble_eq_true rfl) ?_ | refine Need.fin ?_ | refine Need.mk ⟨rfl, by simp only [length_setAt, List.length_set, length_gvL, length_st, Int.toNat_natCast]; omega⟩ ?_ | refine Need.mk ?_ ?_ | refine Ix.strsF rfl ?_ | refine Ix.strs rfl ?_ ?_ | refine Cut.strs rfl ?_ ?_ | refine Ix.mapF (fun _ => rfl) ?_ | refine Ix.map (fun _ => rfl) ?_ ?_ | refine Cut.map (fun _ => rfl) ?_ ?_ | refine Fork.yes (by assumption) ?_ | refine Fork.no (by assumption) ?_ | refine Fork.decYes (by omega) ?_ | refine Fork.decNo (by omega) ?_ | refine Fork.dec (fun _ => ?_) (fun _ => ?_) | refine Fork.bne (fun _ => ?_) (fun _ => ?_) | refine Fork.beq (fun _ => ?_) (fun _ => ?_) | refine Fork.seq (fun _ => ?_) (fun _ => ?_) | refine Fork.sne (fun _ => ?_) (fun _ => ?_) | refine Fork.neg (fun _ => ?_) (fun _ => ?_) | refine Fork.mk (fun _ => ?_) (fun _ => ?_) | refine HAlt.mk ?_ ?_ | apply HJoin.mk3 | exact HEnd.mk rfl rfl rfl | refine HEnd.mk ?_ ?_ ?_ | refine Round.mk ?_ | refine NilQ.mk (fun b hb => ?_) | refine forceK_of ?_ | refine forceBx_of ?_ | refine unG_old ?_ | refine unG_gv ?_ | refine Lit.read rfl ?_ | refine LitO.own rfl ?_ | refine FinVal.keep ?_ | refine FinAgg.keep ?_ | refine Final.mk rfl rfl | refine Final.mk ?_ rfl | refine Final.mk ?_ ?_ | refine FinalT.mk ?_ ?_ | refine FinalI.mk ?_ | refine FinalC.allA ?_)
    | refine AV.bool_congr ?_ | refine AV.int_congr ?_ | refine AV.str_congr ?_ | refine AV.list_congr ?_ | with_reducible rfl | refine fr1 ?_ | refine fr2 ?_ ?_
  have t3 : markNodeS.Turn (gb (.l 87 8 (f.2.2.2.1.map tNode.q)) 0) [gv (.l 87 8 (f.2.2.2.1.map tNode.q)) 0, .val (.int .i64 ((k + cnA (cs.take 3) : Nat)))] (.val (.int .i64 ((k + cnA (cs.take 4) : Nat)))) (gb (mk (.l 87 8 (f.2.2.2.1.map tNode.q)) (k + cnA (cs.take 3))) 0) := by
    have h := markNodeS.tn f.2.2.2.1 (k + cnA (cs.take 3)) (by omega) (by have := n3; change _ = _ + cn (.l 87 8 (f.2.2.2.1.map tNode.q)) at this; omega)
    rw [Nat.add_assoc] at h
    change markNodeS.Turn _ _ (.val (.int .i64 ((k + (cnA (cs.take 3) + cn (.l 87 8 (f.2.2.2.1.map tNode.q))) : Nat)))) _ at h
    rw [← n3] at h; exact h
  conv => whnf
  refine ld_at _ _ (hat 3) rfl ?_
  conv => whnf
  refine ACall.turn' (gbL (sa cs k 4) 0 ++ [.cells .var (gvL (tNetwork.q f) 0)]) [gv (.l 87 8 (f.2.2.2.1.map tNode.q)) 0, .val (.int .i64 ((k + cnA (cs.take 3) : Nat)))] (.l 87 8 (f.2.2.2.1.map tNode.q)) (mk (.l 87 8 (f.2.2.2.1.map tNode.q)) (k + cnA (cs.take 3))) _ (gbL (mkA (cs.take 3) k) 0) (gbL (cs.drop 4) (nbL (cs.take 3) + nb (.l 87 8 (f.2.2.2.1.map tNode.q))) ++ [.cells .var (gvL (tNetwork.q f) 0)]) t3 rfl ?_ (nb_mk _ _) (.cons (.inl ⟨?_, rfl⟩) (.cons (.inr (by exact Sees0.val _)) .nil)) ?_ ?_
  · rw [bx_sa k hc3, List.append_assoc, List.append_assoc, List.append_assoc]
  · rw [length_gbL, nbL_mkA, hcs]
    refine AV.bsl_congr (j := 0 + nb (.l 110 4 (f.1.map tRule.q)) + nb (.l 3 1 (f.2.1.map Ty.int.q)) + nb (.l 106 3 (f.2.2.1.map tAlpha.q))) (j' := nb (.l 110 4 (f.1.map tRule.q)) + (nb (.l 3 1 (f.2.1.map Ty.int.q)) + (nb (.l 106 3 (f.2.2.1.map tAlpha.q)) + (0)))) ?_ rfl
    simp only [Nat.add_zero, Nat.zero_add, Nat.add_assoc]
  · rw [bx_sa' k hc3, List.append_assoc, List.append_assoc, List.append_assoc]
  repeat' first
    | contradiction | exact trivial
    | (conv => whnf
       first | refine Need.mk (fun h => h) ?_ | refine Need.mk rfl ?_ | refine Need.mk ⟨rfl, Nat.le_of_ble_eq_true rfl⟩ ?_ | refine Need.mk (Nat.le_of_ble_eq_true rfl) ?_ | refine Need.fin ?_ | refine Need.mk ⟨rfl, by simp only [length_setAt, List.length_set, length_gvL, length_st, Int.toNat_natCast]; omega⟩ ?_ | refine Need.mk ?_ ?_ | refine Ix.strsF rfl ?_ | refine Ix.strs rfl ?_ ?_ | refine Cut.strs rfl ?_ ?_ | refine Ix.mapF (fun _ => rfl) ?_ | refine Ix.map (fun _ => rfl) ?_ ?_ | refine Cut.map (fun _ => rfl) ?_ ?_ | refine Fork.yes (by assumption) ?_ | refine Fork.no (by assumption) ?_ | refine Fork.decYes (by omega) ?_ | refine Fork.decNo (by omega) ?_ | refine Fork.dec (fun _ => ?_) (fun _ => ?_) | refine Fork.bne (fun _ => ?_) (fun _ => ?_) | refine Fork.beq (fun _ => ?_) (fun _ => ?_) | refine Fork.seq (fun _ => ?_) (fun _ => ?_) | refine Fork.sne (fun _ => ?_) (fun _ => ?_) | refine Fork.neg (fun _ => ?_) (fun _ => ?_) | refine Fork.mk (fun _ => ?_) (fun _ => ?_) | refine HAlt.mk ?_ ?_ | apply HJoin.mk3 | exact HEnd.mk rfl rfl rfl | refine HEnd.mk ?_ ?_ ?_ | refine Round.mk ?_ | refine NilQ.mk (fun b hb => ?_) | refine forceK_of ?_ | refine forceBx_of ?_ | refine unG_old ?_ | refine unG_gv ?_ | refine Lit.read rfl ?_ | refine LitO.own rfl ?_ | refine FinVal.keep ?_ | refine FinAgg.keep ?_ | refine Final.mk rfl rfl | refine Final.mk ?_ rfl | refine Final.mk ?_ ?_ | refine FinalT.mk ?_ ?_ | refine FinalI.mk ?_ | refine FinalC.allA ?_)
    | refine AV.bool_congr ?_ | refine AV.int_congr ?_ | refine AV.str_congr ?_ | refine AV.list_congr ?_ | with_reducible rfl | refine fr1 ?_ | refine fr2 ?_ ?_
  have t4 : markFactS.Turn (gb (.l 144 2 (f.2.2.2.2.1.map tFct.q)) 0) [gv (.l 144 2 (f.2.2.2.2.1.map tFct.q)) 0, .val (.int .i64 ((k + cnA (cs.take 4) : Nat)))] (.val (.int .i64 ((k + cnA (cs.take 5) : Nat)))) (gb (mk (.l 144 2 (f.2.2.2.2.1.map tFct.q)) (k + cnA (cs.take 4))) 0) := by
    have h := markFactS.tn f.2.2.2.2.1 (k + cnA (cs.take 4)) (by omega) (by have := n4; change _ = _ + cn (.l 144 2 (f.2.2.2.2.1.map tFct.q)) at this; omega)
    rw [Nat.add_assoc] at h
    change markFactS.Turn _ _ (.val (.int .i64 ((k + (cnA (cs.take 4) + cn (.l 144 2 (f.2.2.2.2.1.map tFct.q))) : Nat)))) _ at h
    rw [← n4] at h; exact h
  conv => whnf
  refine ld_at _ _ (hat 4) rfl ?_
  conv => whnf
  refine ACall.turn' (gbL (sa cs k 5) 0 ++ [.cells .var (gvL (tNetwork.q f) 0)]) [gv (.l 144 2 (f.2.2.2.2.1.map tFct.q)) 0, .val (.int .i64 ((k + cnA (cs.take 4) : Nat)))] (.l 144 2 (f.2.2.2.2.1.map tFct.q)) (mk (.l 144 2 (f.2.2.2.2.1.map tFct.q)) (k + cnA (cs.take 4))) _ (gbL (mkA (cs.take 4) k) 0) (gbL (cs.drop 5) (nbL (cs.take 4) + nb (.l 144 2 (f.2.2.2.2.1.map tFct.q))) ++ [.cells .var (gvL (tNetwork.q f) 0)]) t4 rfl ?_ (nb_mk _ _) (.cons (.inl ⟨?_, rfl⟩) (.cons (.inr (by exact Sees0.val _)) .nil)) ?_ ?_
  · rw [bx_sa k hc4, List.append_assoc, List.append_assoc, List.append_assoc]
  · rw [length_gbL, nbL_mkA, hcs]
    refine AV.bsl_congr (j := 0 + nb (.l 110 4 (f.1.map tRule.q)) + nb (.l 3 1 (f.2.1.map Ty.int.q)) + nb (.l 106 3 (f.2.2.1.map tAlpha.q)) + nb (.l 87 8 (f.2.2.2.1.map tNode.q))) (j' := nb (.l 110 4 (f.1.map tRule.q)) + (nb (.l 3 1 (f.2.1.map Ty.int.q)) + (nb (.l 106 3 (f.2.2.1.map tAlpha.q)) + (nb (.l 87 8 (f.2.2.2.1.map tNode.q)) + (0))))) ?_ rfl
    simp only [Nat.add_zero, Nat.zero_add, Nat.add_assoc]
  · rw [bx_sa' k hc4, List.append_assoc, List.append_assoc, List.append_assoc]
  repeat' first
    | contradiction | exact trivial
    | (conv => whnf
       first | refine Need.mk (fun h => h) ?_ | refine Need.mk rfl ?_ | refine Need.mk ⟨rfl, Nat.le_of_ble_eq_true rfl⟩ ?_ | refine Need.mk (Nat.le_of_ble_eq_true rfl) ?_ | refine Need.fin ?_ | refine Need.mk ⟨rfl, by simp only [length_setAt, List.length_set, length_gvL, length_st, Int.toNat_natCast]; omega⟩ ?_ | refine Need.mk ?_ ?_ | refine Ix.strsF rfl ?_ | refine Ix.strs rfl ?_ ?_ | refine Cut.strs rfl ?_ ?_ | refine Ix.mapF (fun _ => rfl) ?_ | refine Ix.map (fun _ => rfl) ?_ ?_ | refine Cut.map (fun _ => rfl) ?_ ?_ | refine Fork.yes (by assumption) ?_ | refine Fork.no (by assumption) ?_ | refine Fork.decYes (by omega) ?_ | refine Fork.decNo (by omega) ?_ | refine Fork.dec (fun _ => ?_) (fun _ => ?_) | refine Fork.bne (fun _ => ?_) (fun _ => ?_) | refine Fork.beq (fun _ => ?_) (fun _ => ?_) | refine Fork.seq (fun _ => ?_) (fun _ => ?_) | refine Fork.sne (fun _ => ?_) (fun _ => ?_) | refine Fork.neg (fun _ => ?_) (fun _ => ?_) | refine Fork.mk (fun _ => ?_) (fun _ => ?_) | refine HAlt.mk ?_ ?_ | apply HJoin.mk3 | exact HEnd.mk rfl rfl rfl | refine HEnd.mk ?_ ?_ ?_ | refine Round.mk ?_ | refine NilQ.mk (fun b hb => ?_) | refine forceK_of ?_ | refine forceBx_of ?_ | refine unG_old ?_ | refine unG_gv ?_ | refine Lit.read rfl ?_ | refine LitO.own rfl ?_ | refine FinVal.keep ?_ | refine FinAgg.keep ?_ | refine Final.mk rfl rfl | refine Final.mk ?_ rfl | refine Final.mk ?_ ?_ | refine FinalT.mk ?_ ?_ | refine FinalI.mk ?_ | refine FinalC.allA ?_)
    | refine AV.bool_congr ?_ | refine AV.int_congr ?_ | refine AV.str_congr ?_ | refine AV.list_congr ?_ | with_reducible rfl | refine fr1 ?_ | refine fr2 ?_ ?_
  all_goals first
    | (simp [hlb]; done)
    | rfl
    | (rw [n5]; done)
    | (rw [s5]; rw [List.take_append_of_le_length (by rw [hlb, hlb]; exact Nat.le_refl _), List.take_of_length_le (by rw [hlb, hlb]; exact Nat.le_refl _)]; done)
end Go.Proofs.Ytfnejdkkhpjhmaa
namespace Go.Proofs.Ytfnejdkkhpjhmaa
namespace Abs
open Go.RowKit
mutual
/-- the tree as a value, its tokens from n on: elements first -/
def tkT : Tr → Nat → AV
  | .v x, _ => .val x
  | .s x, _ => .str x
  | .l _ _ xs, n => .list (some (n + nbLL xs)) (tkLL xs n)
  | .a fs, n => .agg (tkL fs n)
  | .p fs, n => .tup (tkL fs n)
def tkL : List Tr → Nat → List AV
  | [], _ => []
  | x :: xs, n => tkT x n :: tkL xs (n + nb x)
def tkLL : List (List Tr) → Nat → List (List AV)
  | [], _ => []
  | x :: xs, n => tkL x n :: tkLL xs (n + nbL x)
end
mutual
def frT : Tr → Fr
  | .v _ => []
  | .s _ => []
  | .l t sz xs => frLL xs ++ [(t, sz, xs.length)]
  | .a fs => frL fs
  | .p fs => frL fs
def frL : List Tr → Fr
  | [] => []
  | x :: xs => frT x ++ frL xs
def frLL : List (List Tr) → Fr
  | [] => []
  | x :: xs => frL x ++ frLL xs
end
mutual
theorem length_frT : ∀ x : Tr, (frT x).length = nb x
  | .v _ => rfl
  | .s _ => rfl
  | .l _ _ xs => by rw [frT, nb, List.length_append, length_frLL xs]; rfl
  | .a fs => by rw [frT, nb, length_frL fs]
  | .p fs => by rw [frT, nb, length_frL fs]
theorem length_frL : ∀ x : List Tr, (frL x).length = nbL x
  | [] => rfl
  | x :: xs => by rw [frL, nbL, List.length_append, length_frT x, length_frL xs]
theorem length_frLL : ∀ x : List (List Tr), (frLL x).length = nbLL x
  | [] => rfl
  | x :: xs => by rw [frLL, nbLL, List.length_append, length_frL x, length_frLL xs]
end
theorem frL_append : ∀ xs ys, frL (xs ++ ys) = frL xs ++ frL ys
  | [], _ => rfl
  | x :: xs, ys => by rw [List.cons_append, frL, frL, frL_append xs, List.append_assoc]
theorem frLL_flatten : ∀ xs, frLL xs = frL xs.flatten
  | [] => rfl
  | x :: xs => by rw [frLL, List.flatten_cons, frL_append, frLL_flatten xs]
theorem tkL_append : ∀ xs ys n, tkL (xs ++ ys) n = tkL xs n ++ tkL ys (n + nbL xs)
  | [], ys, n => by rw [nbL]; rfl
  | x :: xs, ys, n => by rw [List.cons_append, tkL, tkL, tkL_append xs, nbL, Nat.add_assoc]; rfl
theorem tkLL_flatten : ∀ xs n, (tkLL xs n).flatten = tkL xs.flatten n
  | [], _ => rfl
  | x :: xs, n => by rw [tkLL, List.flatten_cons, List.flatten_cons, tkL_append, tkLL_flatten xs]
theorem length_tkL : ∀ xs n, (tkL xs n).length = xs.length
  | [], _ => rfl
  | x :: xs, n => by rw [tkL, List.length_cons, length_tkL xs]; rfl
theorem length_tkLL : ∀ xs n, (tkLL xs n).length = xs.length
  | [], _ => rfl
  | x :: xs, n => by rw [tkLL, List.length_cons, length_tkLL xs]; rfl
theorem tkLL_sz {sz : Nat} : ∀ xs n, (∀ e ∈ xs, e.length = sz) → ∀ e ∈ tkLL xs n, e.length = sz
  | [], _, _, e, he => by cases he
  | x :: xs, n, h, e, he => by
    rw [tkLL] at he
    rcases List.mem_cons.1 he with rfl | he
    · rw [length_tkL]; exact h x List.mem_cons_self
    · exact tkLL_sz xs _ (fun e he => h e (List.mem_cons_of_mem _ he)) e he
def TokOne (B : Nat) (w : World) (x : Tr) (v : Value) (d1 : List Nat) : Prop :=
  ∃ ids : List (Option Nat), ids.length = nb x ∧ (∀ (i b : Nat), ids[i]? = some (some b) → b ∈ d1) ∧ (d1.Nodup → ∀ (i j b : Nat), ids[i]? = some (some b) → ids[j]? = some (some b) → i = j) ∧
    ((∀ d ∈ d1, B ≤ d) → ∀ (n : Nat) (F : Nat → Nat) (tok : List (Option Nat)) (fr : Fr), (∀ (i : Nat) d, ids[i]? = some d → tok[n + i]? = some d) → (∀ (i : Nat) y, (frT x)[i]? = some y → fr[n + i]? = some y) →
      (∀ (i b t s m : Nat), ids[i]? = some (some b) → (frT x)[i]? = some (t, s, m) → F b = m * s) → ∀ box, Rep B w F tok fr box (tkT x n) v)
def TokAll (B : Nat) (w : World) (xs : List Tr) (vs : List Value) (d1 : List Nat) : Prop :=
  ∃ ids : List (Option Nat), ids.length = nbL xs ∧ (∀ (i b : Nat), ids[i]? = some (some b) → b ∈ d1) ∧ (d1.Nodup → ∀ (i j b : Nat), ids[i]? = some (some b) → ids[j]? = some (some b) → i = j) ∧
    ((∀ d ∈ d1, B ≤ d) → ∀ (n : Nat) (F : Nat → Nat) (tok : List (Option Nat)) (fr : Fr), (∀ (i : Nat) d, ids[i]? = some d → tok[n + i]? = some d) → (∀ (i : Nat) y, (frL xs)[i]? = some y → fr[n + i]? = some y) →
      (∀ (i b t s m : Nat), ids[i]? = some (some b) → (frL xs)[i]? = some (t, s, m) → F b = m * s) → ∀ (i : Nat) x v, (tkL xs n)[i]? = some x → vs[i]? = some v → ∀ box, Rep B w F tok fr box x v)
theorem TokAll.cons {B : Nat} {w : World} {x : Tr} {v : Value} {xs : List Tr} {vs : List Value} {d1 ds : List Nat} (h1 : TokOne B w x v d1) (h2 : TokAll B w xs vs ds) : TokAll B w (x :: xs) (v :: vs) (d1 ++ ds) := by
  obtain ⟨ids1, l1, m1, n1, r1⟩ := h1
  obtain ⟨ids2, l2, m2, n2, r2⟩ := h2
  refine ⟨ids1 ++ ids2, by rw [List.length_append, l1, l2, nbL], fun i b hi => ?_, fun hnd i j b hi hj => ?_, fun hB n F tok fr ht hf hF i y u hy hu box => ?_⟩
  · rw [List.getElem?_append] at hi
    split at hi
    · exact List.mem_append_left _ (m1 _ _ hi)
    · exact List.mem_append_right _ (m2 _ _ hi)
  · obtain ⟨e1, e2, e3⟩ := List.nodup_append.1 hnd
    rw [List.getElem?_append] at hi hj
    split at hi <;> split at hj
    · exact n1 e1 _ _ _ hi hj
    · exact absurd rfl (e3 b (m1 _ _ hi) b (m2 _ _ hj))
    · exact absurd rfl (e3 b (m1 _ _ hj) b (m2 _ _ hi))
    · have := n2 e2 _ _ _ hi hj; omega
  · have hfl : (frT x).length = ids1.length := by rw [length_frT, l1]
    cases i with
    | zero =>
      rw [tkL] at hy
      simp only [List.getElem?_cons_zero, Option.some.injEq] at hy hu
      subst hy; subst hu
      refine r1 (fun d hd => hB d (List.mem_append_left _ hd)) n F tok fr (fun i d hi => ht i d (by rw [List.getElem?_append_left (getElem?_lt hi)]; exact hi)) (fun i y hi => hf i y (by rw [frL, List.getElem?_append_left (getElem?_lt hi)]; exact hi)) (fun i b t s m hi hm => hF i b t s m ?_ ?_) box
      · rw [List.getElem?_append_left (getElem?_lt hi)]; exact hi
      · rw [frL, List.getElem?_append_left (getElem?_lt hm)]; exact hm
    | succ i =>
      rw [tkL] at hy
      refine r2 (fun d hd => hB d (List.mem_append_right _ hd)) (n + nb x) F tok fr (fun i d hi => ?_) (fun i y hi => ?_) (fun i b t s m hi hm => ?_) i y u (by simpa using hy) (by simpa using hu) box
      · rw [Nat.add_assoc]; refine ht (nb x + i) d ?_
        rw [List.getElem?_append_right (by omega), l1, Nat.add_sub_cancel_left]; exact hi
      · rw [Nat.add_assoc]; refine hf (nb x + i) y ?_
        rw [frL, List.getElem?_append_right (by rw [length_frT]; omega), length_frT, Nat.add_sub_cancel_left]; exact hi
      · refine hF (nb x + i) b t s m ?_ ?_
        · rw [List.getElem?_append_right (by omega), l1, Nat.add_sub_cancel_left]; exact hi
        · rw [frL, List.getElem?_append_right (by rw [length_frT]; omega), length_frT, Nat.add_sub_cancel_left]; exact hm
theorem TokOne.flat {B : Nat} {w : World} {x : Tr} {v : Value} (h0 : nb x = 0) (h : ∀ n F tok fr box, Rep B w F tok fr box (tkT x n) v) : TokOne B w x v [] :=
  ⟨[], by rw [h0]; rfl, by simp, by simp, fun _ n F tok fr _ _ _ box => h n F tok fr box⟩
theorem OwnL.toks {B : Nat} {w : World} {xs : List Tr} {vs : List Value} {ds : List Nat} (h : OwnL w xs vs ds) : TokAll B w xs vs ds := by
  induction h with
  | nil => exact ⟨[], rfl, by simp, by simp, fun _ n F tok fr _ _ _ i x v hx => by simp [tkL] at hx⟩
  | v x hp _ ih => exact TokAll.cons (d1 := []) (.flat rfl fun _ _ _ _ _ => .val _) ih
  | s x _ ih => exact TokAll.cons (d1 := []) (.flat rfl fun _ _ _ _ _ => .str _) ih
  | none t sz _ ih =>
    refine TokAll.cons (d1 := []) ⟨[Option.none], rfl, fun i b hi => ?_, fun _ i j b hi hj => ?_, fun _ n F tok fr ht hf _ box => ?_⟩ ih
    · cases i <;> simp at hi
    · cases i <;> simp at hi
    · refine .list (some (n + 0)) [] Option.none 0 sz 0 0 (fun _ _ => undef) (Nat.le_refl _) (fun h => absurd rfl h) (by simp) (fun h => absurd rfl h) (by simp) (by simp) (fun k hk => ?_)
      cases hk
      exact ⟨t, sz, 0, hf 0 _ rfl, Nat.le_refl _, fun _ => ⟨rfl, ⟨[], by simp, Or.inl ⟨rfl, rfl⟩⟩, ht 0 _ rfl, fun b hb => by cases hb⟩⟩
  | l t sz es b cap c us hb hc hl hm hs hu h1 he _ ih1 ih2 =>
    refine TokAll.cons (d1 := b :: _) ?_ ih2
    obtain ⟨ids, l1, m1, n1, r1⟩ := ih1
    rw [← nbLL_flatten] at l1
    have last : ∀ {i : Nat} {d : Option Nat}, (ids ++ [some b])[i]? = some d → ids[i]? = some d ∨ (i = ids.length ∧ d = some b) := fun {i d} hi => by
      rw [List.getElem?_append] at hi
      split at hi
      · exact .inl hi
      · rw [List.getElem?_singleton] at hi
        split at hi
        · cases hi; exact .inr ⟨by omega, rfl⟩
        · cases hi
    refine ⟨ids ++ [some b], by rw [List.length_append, l1, nb]; rfl, fun i b' hi => ?_, fun hnd i j b' hi hj => ?_, fun hB n F tok fr ht hf hF box => ?_⟩
    · rcases last hi with hi | ⟨_, hi⟩
      · exact List.mem_cons_of_mem _ (m1 _ _ hi)
      · cases hi; exact List.mem_cons_self
    · obtain ⟨e1, e2⟩ := List.nodup_cons.1 hnd
      rcases last hi with hi | ⟨hi, hi'⟩ <;> rcases last hj with hj | ⟨hj, hj'⟩
      · exact n1 e2 _ _ _ hi hj
      · cases hj'; exact absurd (m1 _ _ hi) e1
      · cases hi'; exact absurd (m1 _ _ hj) e1
      · omega
    · have hlast : (frT (.l t sz es))[nbLL es]? = some (t, sz, es.length) := by
        rw [frT, List.getElem?_append_right (by rw [length_frLL]; omega), length_frLL, Nat.sub_self]; rfl
      have hFb : F b = es.length * sz := hF (nbLL es) b t sz es.length (by rw [List.getElem?_append_right (by omega), l1, Nat.sub_self]; rfl) hlast
      have hin := r1 (fun d hd => hB d (List.mem_cons_of_mem _ hd)) n F tok fr (fun i d hi => ht i d (by rw [List.getElem?_append_left (getElem?_lt hi)]; exact hi))
        (fun i y hi => hf i y (by rw [frT, frLL_flatten, List.getElem?_append_left (getElem?_lt hi)]; exact hi))
        (fun i b' t' s' m' hi hm' => hF i b' t' s' m' (by rw [List.getElem?_append_left (getElem?_lt hi)]; exact hi) (by rw [frT, frLL_flatten, List.getElem?_append_left (getElem?_lt hm')]; exact hm'))
      have hlen : (tkLL es n).length = es.length := length_tkLL es n
      have hsz : ∀ e ∈ tkLL es n, e.length = sz := tkLL_sz es n hs
      have hcs : es.length * sz ≤ c.size := by rw [hc]; exact Nat.mul_le_mul_right _ hl
      have hul : us.length = es.length * sz := by rw [← hu]; simp; omega
      have key : ∀ (i : Nat) e (j : Nat) y, (tkLL es n)[i]? = some e → e[j]? = some y → i * sz + j < c.size ∧ us[i * sz + j]? = some (c.getD (i * sz + j) undef) ∧ Rep B w F tok fr [] y (c.getD (i * sz + j) undef) := fun i e j y hi hj => by
        have hf := flatten_get sz (tkLL es n) i j e y hsz hi hj
        rw [tkLL_flatten] at hf
        have hlt : i * sz + j < us.length := by
          have := getElem?_lt hf
          rw [length_tkL] at this
          rw [← he.length]; exact this
        obtain ⟨g1, g2⟩ := getD_take hu hlt
        exact ⟨g2, g1, hin _ y _ hf g1 []⟩
      show Rep B w F tok fr box (.list (some (n + nbLL es)) (tkLL es n)) (.slice (some ⟨b, 0, Option.none⟩) es.length cap)
      rw [← hlen]
      refine .list (some (n + nbLL es)) (tkLL es n) _ cap sz b 0 (fun i j => c.getD (i * sz + j) undef) (by omega) (fun _ => rfl) hsz (fun _ => ?_) (fun i e j y hi hj => ?_) (fun i e j y hi hj => (key i e j y hi hj).2.2) (fun k hk => ?_)
      · rw [hFb, hlen, Nat.zero_add]; exact Nat.le_refl _
      · obtain ⟨k1, k2, _⟩ := key i e j y hi hj
        exact ⟨by rw [Nat.zero_add]; simp [World.cell?, hb, k1, Array.getD], h1 _ (List.mem_of_getElem? k2)⟩
      · cases hk
        rw [hlen]
        refine ⟨t, sz, es.length, hf _ _ hlast, Nat.le_refl _, fun _ => ⟨rfl, ⟨us, hul, Or.inr ⟨b, cap, c, rfl, hB b List.mem_cons_self, hb, hl, hm, hc, hu⟩⟩, ?_, fun b' hb' => by cases hb'; exact hFb⟩⟩
        exact ht (nbLL es) _ (by rw [List.getElem?_append_right (by omega), l1, Nat.sub_self]; rfl)
  | a fs us h1 he _ ih1 ih2 =>
    refine TokAll.cons ?_ ih2
    obtain ⟨ids, l1, m1, n1, r1⟩ := ih1
    refine ⟨ids, by rw [l1, nb], m1, n1, fun hB n F tok fr ht hf hF box => ?_⟩
    have hin := r1 hB n F tok fr ht (by rw [frT] at hf; exact hf) (by rw [frT] at hF; exact hF)
    have hl := he.length
    have hg : ∀ i, i < us.size → us.toList[i]? = some (us.getD i undef) := fun i hi => by simp [Array.getD, hi]
    rw [tkT]
    refine .agg _ us (by rw [length_tkL]; simpa using hl) (fun i hi => h1 _ (List.mem_of_getElem? (hg i hi))) (fun i c hc => ?_)
    have := getElem?_lt hc
    rw [length_tkL] at this
    exact hin i c _ hc (hg i (by simp at hl; omega)) box
  | p fs us he _ ih1 ih2 =>
    refine TokAll.cons ?_ ih2
    obtain ⟨ids, l1, m1, n1, r1⟩ := ih1
    refine ⟨ids, by rw [l1, nb], m1, n1, fun hB n F tok fr ht hf hF box => ?_⟩
    have hin := r1 hB n F tok fr ht (by rw [frT] at hf; exact hf) (by rw [frT] at hF; exact hF)
    have hl := he.length
    have hg : ∀ i, i < us.size → us.toList[i]? = some (us.getD i undef) := fun i hi => by simp [Array.getD, hi]
    rw [tkT]
    refine .tup _ us (by rw [length_tkL]; simpa using hl) (fun i c hc => ?_)
    have := getElem?_lt hc
    rw [length_tkL] at this
    exact hin i c _ hc (hg i (by simp at hl; omega)) box
variable {mo : Bool}
theorem ORet.ret {P : Program} {f : Nat} {args : List AV} {x : Tr} (h : ORet mo P f args x) : ARet mo P f args (tkT x 0) (frT x) := by
  refine ⟨h.1, fun w F vs hcond hout hargs => (h.2 w F vs hcond hout hargs).mono ?_⟩
  rintro e w' ⟨v, ds, rfl, hb, hown, hnd, hds⟩
  obtain ⟨ids, l1, m1, n1, r1⟩ := hown.toks (B := w.heap.size)
  have hfl : frL [x] = frT x := by rw [frL, frL, List.append_nil]
  rw [show nbL [x] = nb x by rw [nbL, nbL, Nat.add_zero]] at l1
  -- what is known of a block's length
  let G : Nat → Option (Option Nat × (Nat × Nat × Nat)) := fun b => (ids.zip (frT x)).find? fun p => p.1 == some b
  have hG : ∀ b p, G b = some p → b ∈ ds := fun b p hp => by
    have h1 := List.find?_some hp
    have h2 := List.mem_of_find?_eq_some hp
    obtain ⟨i, hi⟩ := List.getElem?_of_mem (List.of_mem_zip h2).1
    rw [beq_iff_eq] at h1
    exact m1 i b (by rw [hi, h1])
  refine ⟨v, fun b => match G b with | some p => p.2.2.2 * p.2.2.1 | none => F b, ids, [], rfl, hb, fun b hlt => ?_, fun b hge => ?_, by rw [l1, length_frT], fun k b hk => hds b (m1 k b hk), fun k l b hk hl => n1 hnd k l b hk hl, ?_⟩
  · cases hg : G b with
    | none => simp only [hg]
    | some p => have := (hds b (hG b p hg)).1; omega
  · cases hg : G b with
    | none => simp only [hg]; exact hout b (Nat.le_trans hb.size hge)
    | some p => have := (hds b (hG b p hg)).2; omega
  · refine r1 (fun d hd => (hds d hd).1) 0 _ ids (frT x) (fun i d hi => by rw [Nat.zero_add]; exact hi) (fun i y hi => by rw [Nat.zero_add, ← hfl]; exact hi) (fun i b t s m hi hm => ?_) 0 _ v (by rw [tkL]; rfl) rfl []
    rw [hfl] at hm
    have hz : (ids.zip (frT x))[i]? = some (some b, (t, s, m)) := by rw [List.getElem?_zip_eq_some]; exact ⟨hi, hm⟩
    cases hg : G b with
    | none =>
      have := List.find?_eq_none.1 hg _ (List.mem_of_getElem? hz)
      simp at this
    | some p =>
      have h1 := List.find?_some hg
      obtain ⟨j, hj⟩ := List.getElem?_of_mem (List.mem_of_find?_eq_some hg)
      rw [beq_iff_eq] at h1
      obtain ⟨j1, j2⟩ := List.getElem?_zip_eq_some.1 hj
      rw [h1] at j1
      have := n1 hnd i j b hi j1
      subst this
      rw [hm] at j2
      simp only [hg]
      rw [← Option.some.inj j2]
theorem Own.ret {P : Program} {f : Nat} {args : List AV} {x : Tr} (h : Own mo P f args x) : Ret mo P f args (tkT x 0) (frT x) := by
  rw [Own_eq] at h; rw [Ret_eq]; exact h.ret
/-- a type whose values have their tokens as their trees have -/
def Canon {α : Type} (T : Ty α) : Prop := ∀ a, (∀ n, T.tk a n = tkL (T.q a) n) ∧ T.fr a = frL (T.q a)
mutual
theorem tkT_old : ∀ (x : Tr) (n : Nat), nb x = 0 → tkT x n = old x
  | .v _, _, _ => rfl
  | .s _, _, _ => rfl
  | .l _ _ xs, _, h => by rw [nb] at h; omega
  | .a fs, n, h => by rw [nb] at h; rw [tkT, old, tkL_old fs n h]
  | .p fs, n, h => by rw [nb] at h; rw [tkT, old, tkL_old fs n h]
theorem tkL_old : ∀ (x : List Tr) (n : Nat), nbL x = 0 → tkL x n = oldL x
  | [], _, _ => rfl
  | x :: xs, n, h => by rw [nbL] at h; rw [tkL, oldL, tkT_old x n (by omega), tkL_old xs _ (by omega)]
end
theorem tkLL_old : ∀ (x : List (List Tr)) (n : Nat), nbLL x = 0 → tkLL x n = oldLL x
  | [], _, _ => rfl
  | x :: xs, n, h => by rw [nbLL] at h; rw [tkLL, oldLL, tkL_old x n (by omega), tkLL_old xs _ (by omega)]
theorem Canon.fr {α : Type} {T : Ty α} (h : Canon T) (a : α) : (T.fr a).length = nbL (T.q a) := by rw [(h a).2, length_frL]
theorem Canon.str : Canon Ty.str := fun _ => ⟨fun _ => rfl, rfl⟩
theorem Canon.pair {α β : Type} {T : Ty α} {U : Ty β} (h : Canon T) (k : Canon U) : Canon (Ty.pair T U) := fun a => by
  refine ⟨fun n => ?_, ?_⟩
  · show T.tk a.1 n ++ U.tk a.2 (n + (T.fr a.1).length) = tkL (T.q a.1 ++ U.q a.2) n
    rw [tkL_append, (h a.1).1, (k a.2).1, h.fr]
  · show T.fr a.1 ++ U.fr a.2 = frL (T.q a.1 ++ U.q a.2)
    rw [frL_append, (h a.1).2, (k a.2).2]
theorem Canon.tks {α : Type} {T : Ty α} (h : Canon T) : ∀ (l : List α) (n : Nat), Abs.tks T l n = tkLL (l.map T.q) n
  | [], _ => rfl
  | a :: l, n => by rw [Abs.tks, List.map_cons, tkLL, (h a).1, h.fr, h.tks l]
theorem Canon.frs {α : Type} {T : Ty α} (h : Canon T) : ∀ (l : List α), Abs.frs T l = frLL (l.map T.q)
  | [] => rfl
  | a :: l => by
    rw [List.map_cons, frLL, ← h.frs l, ← (h a).2]; rfl
theorem Canon.list {α : Type} {T : Ty α} (t : Nat) (h : Canon T) : Canon (Ty.list t T) := fun l => by
  have hf := h.frs l
  refine ⟨fun n => ?_, ?_⟩
  · show [AV.list (some (n + (Abs.frs T l).length)) (Abs.tks T l n)] = tkL [.l t T.sz (l.map T.q)] n
    rw [tkL, tkL, tkT, h.tks, hf, length_frLL]
  · show Abs.frs T l ++ [(t, T.sz, l.length)] = frL [.l t T.sz (l.map T.q)]
    rw [frL, frL, frT, hf, List.append_nil, List.length_map]
theorem Canon.plain {α : Type} {T : Ty α} (t : Nat) (h : ∀ a, T.fr a = []) (e : ∀ a, T.tk a 0 = oldL (T.q a)) (hc : Canon T) : Canon (Ty.plain t T h e) := fun l => by
  have h0 : nbLL (l.map T.q) = 0 := by
    induction l with
    | nil => rfl
    | cons a l ih => rw [List.map_cons, nbLL, ih, ← hc.fr a, h]; rfl
  have hf : frLL (l.map T.q) = [] := List.eq_nil_of_length_eq_zero (by rw [length_frLL, h0])
  refine ⟨fun n => ?_, ?_⟩
  · show [AV.list (some n) (oldLL (l.map T.q))] = tkL [.l t T.sz (l.map T.q)] n
    rw [tkL, tkL, tkT, h0, tkLL_old _ _ h0]; rfl
  · show [(t, T.sz, l.length)] = frL [.l t T.sz (l.map T.q)]
    rw [frL, frL, frT, hf, List.length_map]; rfl
theorem Canon.ret {α : Type} {T : Ty α} (hc : Canon T) {P : Program} {f : Nat} {args : List AV} {a : α} {x : Tr} {r : AV} (hx : T.q a = [x]) (hr : T.tk a 0 = [r]) (h : Own mo P f args x) : Ret mo P f args r (T.fr a) := by
  have h1 := h.ret
  obtain ⟨c1, c2⟩ := hc a
  have e1 := c1 0
  rw [hr, hx, tkL, tkL] at e1
  rw [hx, frL, frL, List.append_nil] at c2
  rw [(List.cons.inj e1).1, c2]; exact h1
theorem Canon.retA {α : Type} {T : Ty α} (hc : Canon T) {P : Program} {f : Nat} {args : List AV} {a : α} (h : Own mo P f args (.a (T.q a))) : Ret mo P f args (.agg (T.tk a 0)) (T.fr a) := by
  have h1 := h.ret
  obtain ⟨c1, c2⟩ := hc a
  rw [c1, c2]; exact h1
end Abs
end Go.Proofs.Ytfnejdkkhpjhmaa
namespace Go.Proofs.Ytfnejdkkhpjhmaa
namespace Abs
variable {α : Type}
theorem OwnA.mono {F F' : Fr} {xs : List Tr} {cs : List AV} {ts : List Nat} (h : OwnA F xs cs ts) : (∀ k ∈ ts, F'[k]? = F[k]?) → OwnA F' xs cs ts := by
  induction h with
  | nil => exact fun _ => .nil
  | v x hp _ ih => exact fun hF => .v x hp (ih hF)
  | s x _ ih => exact fun hF => .s x (ih hF)
  | nils t sz _ ih => exact fun hF => .nils t sz (ih hF)
  | l t sz es k ys hk hl hs hy _ _ ih1 ih2 =>
    exact fun hF => .l t sz es k ys (by rw [hF k (by simp)]; exact hk) hl hs hy (ih1 fun j hj => hF j (by simp [hj])) (ih2 fun j hj => hF j (by simp [hj]))
  | a fs us _ _ ih1 ih2 => exact fun hF => .a fs us (ih1 fun j hj => hF j (by simp [hj])) (ih2 fun j hj => hF j (by simp [hj]))
  | av fs us h1 _ _ ih1 ih2 => exact fun hF => .av fs us h1 (ih1 fun j hj => hF j (by simp [hj])) (ih2 fun j hj => hF j (by simp [hj]))
  | p fs us _ _ ih1 ih2 => exact fun hF => .p fs us (ih1 fun j hj => hF j (by simp [hj])) (ih2 fun j hj => hF j (by simp [hj]))
theorem OwnA.lt {F : Fr} {xs : List Tr} {cs : List AV} {ts : List Nat} (h : OwnA F xs cs ts) : ∀ k ∈ ts, k < F.length := by
  induction h with
  | nil => simp
  | v _ _ _ ih => exact ih
  | s _ _ ih => exact ih
  | nils _ _ _ ih => exact ih
  | l t sz es k ys hk _ _ _ _ _ ih1 ih2 =>
    intro j hj
    simp only [List.cons_append, List.mem_cons, List.mem_append] at hj
    rcases hj with rfl | hj | hj
    · exact getElem?_lt hk
    · exact ih1 j hj
    · exact ih2 j hj
  | a _ _ _ _ ih1 ih2 => exact fun j hj => (List.mem_append.1 hj).elim (ih1 j) (ih2 j)
  | av _ _ _ _ _ ih1 ih2 => exact fun j hj => (List.mem_append.1 hj).elim (ih1 j) (ih2 j)
  | p _ _ _ _ ih1 ih2 => exact fun j hj => (List.mem_append.1 hj).elim (ih1 j) (ih2 j)
theorem OwnA.len {F : Fr} {xs : List Tr} {cs : List AV} {ts : List Nat} (h : OwnA F xs cs ts) : xs.length = cs.length := by
  induction h <;> simp_all
/-- slice k is the list al, with rows ys, whose tokens are ts -/
structure AccO (T : Ty α) (t k : Nat) (F : Fr) (al : List α) (ys : List (List AV)) (ts : List Nat) : Prop where
  hk : F[k]? = some (t, T.sz, al.length)
  hl : ys.length = al.length
  hs : ∀ y ∈ ys, y.length = T.sz
  own : OwnA F (al.map T.q).flatten ys.flatten ts
  nd : ts.Nodup
  kn : k ∉ ts
theorem AccO.nil {T : Ty α} {t k : Nat} {F : Fr} (hk : F[k]? = some (t, T.sz, 0)) : AccO T t k F [] [] [] := ⟨hk, rfl, by simp, .nil, List.nodup_nil, by simp⟩
theorem AccO.klt {T : Ty α} {t k : Nat} {F : Fr} {al : List α} {ys : List (List AV)} {ts : List Nat} (h : AccO T t k F al ys ts) : k < F.length := getElem?_lt h.hk
theorem AccO.app {T : Ty α} {t k : Nat} {F : Fr} {al : List α} {ys : List (List AV)} {ts : List Nat} (h : AccO T t k F al ys ts) {m : Nat} (bs : List α) (zs : List (List AV)) (us : List Nat) (hm : m = al.length + bs.length) (hl : zs.length = bs.length) (hs : ∀ z ∈ zs, z.length = T.sz)
    (ho : OwnA F (bs.map T.q).flatten zs.flatten us) (hn : us.Nodup) (hd : ∀ j ∈ us, j ≠ k ∧ j ∉ ts) : AccO T t k (F.set k (t, T.sz, m)) (al ++ bs) (ys ++ zs) (ts ++ us) where
  hk := by rw [List.getElem?_set, if_pos rfl, if_pos h.klt, hm, List.length_append]
  hl := by rw [List.length_append, List.length_append, h.hl, hl]
  hs y hy := (List.mem_append.1 hy).elim (h.hs y) (hs y)
  own := by
    rw [List.map_append, List.flatten_append, List.flatten_append]
    refine OwnA.append (h.own.mono fun j hj => ?_) (ho.mono fun j hj => ?_)
    · rw [List.getElem?_set, if_neg fun e => h.kn (by rw [e]; exact hj)]
    · rw [List.getElem?_set, if_neg fun e => (hd j hj).1 e.symm]
  nd := List.nodup_append.2 ⟨h.nd, hn, fun a ha b hb e => (hd b hb).2 (by rw [← e]; exact ha)⟩
  kn hm := (List.mem_append.1 hm).elim h.kn fun hm => (hd k hm).1 rfl
theorem AccO.final {T : Ty α} {t k : Nat} {F : Fr} {al : List α} {ys : List (List AV)} {ts : List Nat} (h : AccO T t k F al ys ts) : ∃ us, OwnA F [.l t T.sz (al.map T.q)] [.list (some k) ys] us ∧ us.Nodup := by
  refine ⟨k :: ts ++ [], .l t T.sz _ k ys (by rw [h.hk, List.length_map]) (by rw [h.hl, List.length_map]) (fun e he => ?_) h.hs h.own .nil, ?_⟩
  · obtain ⟨a, _, rfl⟩ := List.mem_map.1 he
    exact T.hq a
  · rw [List.append_nil]; exact List.nodup_cons.2 ⟨h.kn, h.nd⟩
/-- the tokens of a value that was handed back al one's own -/
theorem Ty.tkOwn (T : Ty α) (a : α) {n : Nat} {F : Fr} (h : ∀ (i : Nat) x, (T.fr a)[i]? = some x → F[n + i]? = some x) : ∃ us, OwnA F (T.q a) (T.tk a n) us ∧ us.Nodup ∧ ∀ j ∈ us, n ≤ j ∧ j < n + (T.fr a).length := by
  obtain ⟨us, h1, p1⟩ := T.hown a n F h
  exact ⟨us, h1, p1.symm.nodup (List.nodup_range' _), fun j hj => by have := (p1.mem_iff).1 hj; rw [List.mem_range'_1] at this; exact this⟩
theorem Sees0.vals {vs : Array Value} {ys : List AV} (h1 : vs.toList.all (·.oneCell') = true) (h : SeesL Sees0 (vs.toList.map constAV) ys) : Sees0 (.val (.agg vs)) (.agg ys) := fun {B w F tok fr box v} hx B' box' => by
  rw [hx.val_inv]
  have hg : ∀ i, i < vs.size → vs.toList[i]? = some (vs.getD i undef) := fun i hi => by simp [Array.getD, hi]
  refine .agg ys vs (by rw [← h.length]; simp) (fun i hi => List.all_eq_true.1 h1 _ (List.mem_of_getElem? (hg i hi))) (fun i c hc => ?_)
  obtain ⟨x, hx', hS⟩ := h.get' hc
  rw [List.getElem?_map] at hx'
  obtain ⟨u, hu, rfl⟩ := Option.map_eq_some_iff.1 hx'
  have hi := getElem?_lt hu
  rw [hg i (by simpa using hi)] at hu
  cases hu
  exact hS (.rep _ _ (constAV_rep (B := B') (w := w) (F := F) (tok := []) (fr := []) (box := box') _)) B' box'
/-- appending to a slice whose length is known -/
theorem appK_at {ti sz bytes j : Nat} {xs ys : List (List AV)} {o : Option Nat} {b : List ABox} {f : Fr} {k : AV → List ABox → Fr → Prop} (hf : f[j]? = some (ti, sz, xs.length)) (hs : ∀ c ∈ ys, c.length = sz)
    (hb : (xs.length + ys.length) * bytes ≤ 140737488355328 ∧ xs.length + ys.length ≤ 1099511627776) (hk : k (.list (some j) (xs ++ ys)) b (f.set j (ti, sz, xs.length + ys.length))) : appK ti sz bytes (.list (some j) xs) (.list o ys) b f k := by
  show (match f[j]? with
    | some (t', sz', n) => Need (t' = ti) (Need (sz' = sz) (Need (n = xs.length) (Need (∀ c ∈ ys, c.length = sz) (Need ((xs.length + ys.length) * bytes ≤ 140737488355328 ∧ xs.length + ys.length ≤ 1099511627776)
      (k (.list (some j) (xs ++ ys)) b (f.set j (ti, sz, xs.length + ys.length)))))))
    | none => Stop)
  rw [hf]
  exact Need.mk rfl (Need.mk rfl (Need.mk rfl (Need.mk hs (Need.mk hb hk))))
theorem aOps_append {C : Con} {k : Env → List ABox → Fr → Prop} {d ti sz bytes j : Nat} {x y : Operand} {rest : List AO} {e : Env} {xs ys : List (List AV)} {o : Option Nat} {b : List ABox} {f : Fr} (hx : ev e x = .list (some j) xs) (hy : ev e y = .list o ys) (hf : f[j]? = some (ti, sz, xs.length)) (hs : ∀ c ∈ ys, c.length = sz)
    (hb : (xs.length + ys.length) * bytes ≤ 140737488355328 ∧ xs.length + ys.length ≤ 1099511627776) (hk : aOps C k rest (put e (some d) (.list (some j) (xs ++ ys))) b (f.set j (ti, sz, xs.length + ys.length))) : aOps C k (s d (.append ti sz bytes x y) :: rest) e b f := by
  unfold s
  simp only [aOps, aOp, evG, hx, hy, unG]
  exact appK_at hf hs hb hk
end Abs
end Go.Proofs.Ytfnejdkkhpjhmaa
namespace Go.Proofs.Ytfnejdkkhpjhmaa
open Abs
theorem Canon.int : Canon Ty.int := fun _ => ⟨fun _ => rfl, rfl⟩
theorem tStrsC : Canon tStrs := Canon.plain _ _ _ Canon.str
theorem tPattern_canon : Canon tPattern := Canon.pair Canon.str tStrsC
theorem tCond_canon : Canon tCond := Canon.pair Canon.int (Canon.pair tPattern_canon (Canon.pair Canon.str Canon.str))
mutual
theorem Abs.inB_nr {m : Nat} : ∀ {x : AV}, noRef x = true → inB m x
  | .bptr _ _, h => by cases h
  | .bsl _ _, h => by cases h
  | .bmap _, h => by cases h
  | .tag _ x, h => inB_nr (x := x) h
  | .agg cs, h => inBL_nr (cs := cs) h
  | .tup cs, h => inBL_nr (cs := cs) h
  | .clo _ a b, h => by
    have h' : (noRef.noRefL a && noRef.noRefL b) = true := h
    rw [Bool.and_eq_true] at h'
    exact ⟨inBL_nr (cs := a) h'.1, inBL_nr (cs := b) h'.2⟩
  | .cond _ _, h => by cases h
  | .any, _ => trivial
  | .val _, _ => trivial
  | .str _, _ => trivial
  | .list _ _, _ => trivial
  | .rptr _, _ => trivial
theorem Abs.inBL_nr {m : Nat} : ∀ {cs : List AV}, noRef.noRefL cs = true → inB.inBL m cs
  | [], _ => trivial
  | c :: cs, h => by
    have h' : (noRef c && noRef.noRefL cs) = true := h
    rw [Bool.and_eq_true] at h'
    exact ⟨inB_nr (x := c) h'.1, inBL_nr (cs := cs) h'.2⟩
end
mutual
theorem Abs.nr_old : ∀ x : Tr, noRef (old x) = true
  | .v _ => rfl
  | .s _ => rfl
  | .l _ _ _ => rfl
  | .a fs => nr_oldL fs
  | .p fs => nr_oldL fs
theorem Abs.nr_oldL : ∀ xs : List Tr, noRef.noRefL (oldL xs) = true
  | [] => rfl
  | x :: xs => by
    show (noRef (old x) && noRef.noRefL (oldL xs)) = true
    rw [nr_old x, nr_oldL xs]; rfl
end
end Go.Proofs.Ytfnejdkkhpjhmaa
namespace Go.Proofs.Ytfnejdkkhpjhmaa
namespace Abs
theorem bx_cons {x y : ABox} {l l' : List ABox} (h : x = y) (h' : l = l') : x :: l = y :: l' := by rw [h, h']
theorem bx_map {m m' : List (Str × Str)} (h : m = m') : ABox.map m = ABox.map m' := by rw [h]
theorem FinalC.all {Φ : AV → List ABox → Fr → Prop} {r : AV} {b : List ABox} {f : Fr} (h : Lends b b) (hk : Φ r b f) : FinalC Φ r b f := ⟨b, h, hk⟩
theorem FinalC.allA {Φ : AV → List ABox → Fr → Prop} {r : AV} {b : List ABox} {f : Fr} (hk : Φ r b f) (h : Lends b b := by repeat' first | exact Lends.nil | refine Lends.map _ ?_ | refine Lends.lend _ _ (by first | exact hx.1 | exact hy.1 | exact noTk_old _ | (intro c hc; rw [List.mem_singleton.1 hc]; rfl) | (intro c hc; cases hc; done)) ?_) : FinalC Φ r b f := ⟨b, h, hk⟩
theorem ACall.insE {C : Con} {f : Nat} {vs : List AV} {b : List ABox} {fr : Fr} {k : AV → List ABox → Fr → Prop} (r : AV) (b1 : List ABox) (f1 : Fr) (h : C.ins f b fr vs (fun x y z => x = r ∧ y = b1 ∧ z = f1)) (hn : noCond vs = true) (hk : k r b1 f1) : ACall C true f vs b fr k :=
  .ins rfl _ h hn (by rintro _ _ _ ⟨rfl, rfl, rfl⟩; exact hk)
section
variable {mo : Bool} {P : Program}
theorem own_post {B : Nat} {w' : World} {F' : Nat → Nat} {tok : List (Option Nat)} {box : List BId} {frs : Fr} {x : Tr} {r : AV} {v : Value} {ts : List Nat} (hrep : Rep B w' F' tok frs box r v) (ho : OwnA frs [x] [r] ts) (hn : ts.Nodup)
    (htin : ∀ (k b : Nat), tok[k]? = some (some b) → B ≤ b ∧ b < w'.heap.size) (htinj : ∀ (k l b : Nat), tok[k]? = some (some b) → tok[l]? = some (some b) → k = l) : ∃ ds, OwnL w' [x] [v] ds ∧ ds.Nodup ∧ ∀ d ∈ ds, B ≤ d ∧ d < w'.heap.size := by
  have hget : ∀ d, d ∈ ts.filterMap (fun k => (tok[k]?).join) → ∃ k ∈ ts, tok[k]? = some (some d) := fun d hd => by
    obtain ⟨k, hk, he⟩ := List.mem_filterMap.1 hd
    cases h : tok[k]? with
    | none => rw [h] at he; cases he
    | some o => rw [h] at he; cases o with
      | none => cases he
      | some b => cases he; exact ⟨k, hk, h⟩
  refine ⟨ts.filterMap fun k => (tok[k]?).join, ho.own (F := F') (box := box) (Both.cons.2 ⟨hrep, rfl, by simp⟩), ?_, fun d hd => ?_⟩
  · clear hrep ho
    induction ts with
    | nil => simp
    | cons k ts ih =>
      obtain ⟨n1, n2⟩ := List.nodup_cons.1 hn
      have hget' : ∀ d, d ∈ ts.filterMap (fun k => (tok[k]?).join) → ∃ k ∈ ts, tok[k]? = some (some d) := fun d hd => by
        obtain ⟨k, hk, he⟩ := List.mem_filterMap.1 hd
        cases h : tok[k]? with
        | none => rw [h] at he; cases he
        | some o => rw [h] at he; cases o with
          | none => cases he
          | some b => cases he; exact ⟨k, hk, h⟩
      rw [List.filterMap_cons]
      split
      · exact ih n2 hget'
      · rename_i b hb'
        refine List.nodup_cons.2 ⟨fun hm => ?_, ih n2 hget'⟩
        obtain ⟨k', hk', he'⟩ := hget' b hm
        have he : tok[k]? = some (some b) := by
          cases h : tok[k]? with
          | none => rw [h] at hb'; cases hb'
          | some o => rw [h] at hb'; cases o with
            | none => cases hb'
            | some b => cases hb'; rfl
        exact n1 (htinj k k' b he he' ▸ hk')
  · obtain ⟨k, _, hk⟩ := hget d hd
    exact htin k d hk
theorem Own.of_irP {fid : Nat} {fn : Func} {code : ACode} {rs : List RRes} {K : List Nat} {args : List AV} {x : Tr} (hf : P.funcs[fid]? = some fn) (hb : fn.body.isSome = true) (hm : (fn.name == "runtime.NumGoroutine") = false)
    (hn : args.length ≤ fn.ntmps) (hc : cCode P fn.ntmps (fn.body.getD .skip) = code) (hrs : fn.results.toList.map (cRes P) = rs)
    (h : aCode (Kn mo P) K 0 code (doneG rs fun r _ f => ∃ ts, OwnA f [x] [r] ts ∧ ts.Nodup) ⟨argEnv 0 args, [], []⟩) : Own mo P fid args x := by
  rw [Kn_eq] at h; rw [Own_eq]
  obtain ⟨c, hc'⟩ := Option.isSome_iff_exists.1 hb
  rw [hc', Option.getD_some] at hc
  rw [← hc, ← hrs] at h
  refine ⟨okFn_of hf hb hm, fun w F vs hcond hout hargs => (calls_of_code hf hc' hn K h w F vs hcond hout hargs).mono ?_⟩
  rintro e w' ⟨v, F', tok, box, r, b, frs, ⟨ts, ho, hnd⟩, rfl, hb, hold, ho', htl, htin, htinj, hrep⟩
  obtain ⟨ds, h1, h2, h3⟩ := own_post hrep ho hnd htin htinj
  exact ⟨v, ds, rfl, hb, h1, h2, h3⟩
end
end Abs
open Abs
end Go.Proofs.Ytfnejdkkhpjhmaa
namespace Go.Proofs.Ytfnejdkkhpjhmaa
open Abs
def l1In.code : ACode := (.seq (.region false [s 6 (.mv (.const (.bool false)))]) (.seq (.region false [s 7 (.mv (t 0)), s 8 (.mv (t 1)), s 9 (.bin .geq (t 7) (t 8)), s 10 (.mv (t 9)), g 10 true 11 (.mv (t 0)), g 10 true 12 (.mv (t 2)), g 10 true 13 (.bin .leq (t 11) (t 12)), s 14 (.and (t 10) (t 13)), s 6 (.mv (t 14))]) .ret))
def l1In.keep : List Nat := [0, 1, 2, 6]
def l1In.res : List RRes := [.tmp 6]
theorem l1In.of {mo : Bool} {args : List AV} {r : AV} {frs : Fr} (hn : Nat.ble args.length Try.f49.ntmps = true) (h : aCode (Kn mo Try.prog) l1In.keep 0 l1In.code (doneK l1In.res r frs) ⟨argEnv 0 args, [], []⟩) : Abs.Ret mo Try.prog 49 args r frs :=
  Abs.Ret.of_ir Try.func49 rfl (by kernel_rfl) (Nat.le_of_ble_eq_true hn) (by kernel_rfl) (by kernel_rfl) h
abbrev l1In.Ret (args : List AV) (r : AV) (frs : Fr) : Prop := Abs.Ret true Try.prog 49 args r frs
def slClone.code : ACode := (.seq (.region false [s 2 (.mv (.const (.slice none 0 0)))]) (.seq (.seq (.region false [s 3 (.mv (t 0)), s 4 (.nilq false (t 3))]) (.cond (t 4) (.seq (.region false [s 2 (.mv (.const (.slice none 0 0)))]) .ret) .skip)) (.seq (.region false [s 5 (.bslice 9 1 true []), s 6 (.mv (t 0)), s 7 (.append 9 1 16 (t 5) (t 6)), s 2 (.mv (t 7))]) .ret)))
def slClone.keep : List Nat := [0, 2]
def slClone.res : List RRes := [.tmp 2]
theorem slClone.of {mo : Bool} {args : List AV} {r : AV} {frs : Fr} (hn : Nat.ble args.length Try.f98.ntmps = true) (h : aCode (Kn mo Try.prog) slClone.keep 0 slClone.code (doneK slClone.res r frs) ⟨argEnv 0 args, [], []⟩) : Abs.Ret mo Try.prog 98 args r frs :=
  Abs.Ret.of_ir Try.func98 rfl (by kernel_rfl) (Nat.le_of_ble_eq_true hn) (by kernel_rfl) (by kernel_rfl) h
abbrev slClone.Ret (args : List AV) (r : AV) (frs : Fr) : Prop := Abs.Ret true Try.prog 98 args r frs
end Go.Proofs.Ytfnejdkkhpjhmaa
namespace Go.Proofs.Ytfnejdkkhpjhmaa
open Abs
theorem l1In.ret (x a b : Int) : l1In.Ret [.val (.int .i64 x), .val (.int .i64 a), .val (.int .i64 b)] (.val (.bool (decide (a ≤ x) && decide (x ≤ b)))) [] := by
  refine l1In.of rfl ?_
  repeat' first
    | (conv => whnf
       first | refine Need.mk (fun h => h) ?_ | refine Need.mk rfl ?_ | refine LitO.own rfl ?_ | refine FinVal.keep ?_ | refine Final.mk rfl rfl)
end Go.Proofs.Ytfnejdkkhpjhmaa
namespace Go.Proofs.Ytfnejdkkhpjhmaa
open Abs
theorem takeAV_one {n : Nat} {cs : List AV} {k : AV → Prop} (c : AV) (r : List AV) (h : cs = c :: r) (hk : k c) : takeAV false n cs k := by subst h; exact hk
end Go.Proofs.Ytfnejdkkhpjhmaa
namespace Go.Proofs.Ytfnejdkkhpjhmaa
open Abs
theorem slClone.ret (l : List Str) (h : l.length ≤ 1048576) : slClone.Ret [.list none (strs l)] (.list (some 0) (strs l)) [(9, 1, l.length)] := by
  refine slClone.of rfl ?_
  repeat' first
    | (conv => whnf
       first | refine Need.mk rfl ?_ | refine Need.mk ?_ ?_ | refine Fork.neg (fun _ => ?_) (fun _ => ?_) | refine NilQ.mk (fun b hb => ?_) | refine LitO.own rfl ?_ | refine FinVal.nil 9 1 rfl ?_ | refine Final.mk ?_ ?_)
    | refine AV.list_congr ?_ | refine fr1 ?_
  · rename_i h1
    have hl : l = [] := List.eq_nil_of_length_eq_zero (by rw [length_strs] at hb; exact hb (by revert h1; cases b <;> simp))
    subst hl; rfl
  · rename_i h1
    have hl : l = [] := List.eq_nil_of_length_eq_zero (by rw [length_strs] at hb; exact hb (by revert h1; cases b <;> simp))
    subst hl; rfl
  · exact strs_sz l
  · simp; omega
  · rfl
  · simp
end Go.Proofs.Ytfnejdkkhpjhmaa
namespace Go.Proofs.Ytfnejdkkhpjhmaa
open Abs
abbrev pairs (b : List VPair) : List (List AV) := rows tPair b
def lookV : List VPair → Str → Option Str
  | [], _ => none
  | p :: b, t => if p.1 = t then some p.2 else lookV b t
theorem lookV_drop {b : List VPair} {t : Str} {i : Nat} (hi : i < b.length) : lookV (b.drop i) t = if (b.getD i default).1 = t then some (b.getD i default).2 else lookV (b.drop (i + 1)) t := by
  rw [List.drop_eq_getElem_cons hi, lookV]
  simp [List.getD, hi]
end Go.Proofs.Ytfnejdkkhpjhmaa
namespace Go.Proofs.Ytfnejdkkhpjhmaa
open Abs
def sRenameCond.code : ACode := (.seq (.region false [s 2 (.box (t 0)), s 4 (.alloc [(.int .i64 (.ofNat 0)), (.string (.mk (.mk []))), (.slice none 0 0), (.string (.mk (.mk []))), (.string (.mk (.mk [])))])]) (.seq (.heldT [7, 8, 9, 10, 11, 12, 13, 14, 15, 16, 17, 18, 19, 20, 21, 5] (.alt (s 7 (.fadr 0 (t 2))) (.alt (s 8 (.load false 1 (t 7))) (.alt (s 9 (.fadr 1 (t 2))) (.alt (s 10 (.fadr 0 (t 9))) (.alt (s 11 (.load false 1 (t 10))) (.alt (s 12 (.build [(.string (.mk (.mk []))), (.slice none 0 0)] [(0, 1)] [(t 11)])) (.alt (s 13 (.fadr 3 (t 2))) (.alt (s 14 (.load false 1 (t 13))) (.alt (s 15 (.mv (t 1))) (.alt (s 17 (.fadr 4 (t 2))) (.alt (s 18 (.load false 1 (t 17))) (.alt (s 19 (.mv (t 1))) (.alt (s 16 (.call 128 [(t 14), (t 15)])) (.alt (s 20 (.call 128 [(t 18), (t 19)])) (.alt (s 21 (.build [(.int .i64 (.ofNat 0)), (.string (.mk (.mk []))), (.slice none 0 0), (.string (.mk (.mk []))), (.string (.mk (.mk [])))] [(0, 1), (1, 2), (3, 1), (4, 1)] [(t 8), (t 12), (t 16), (t 20)])) (.alt (s 5 (.alloc [(.int .i64 (.ofNat 0)), (.string (.mk (.mk []))), (.slice none 0 0), (.string (.mk (.mk []))), (.string (.mk (.mk [])))])) .fin .none) .none) (.alt (s 5 (.alloc [(.int .i64 (.ofNat 0)), (.string (.mk (.mk []))), (.slice none 0 0), (.string (.mk (.mk []))), (.string (.mk (.mk [])))])) (.alt (s 20 (.call 128 [(t 18), (t 19)])) (.alt (s 21 (.build [(.int .i64 (.ofNat 0)), (.string (.mk (.mk []))), (.slice none 0 0), (.string (.mk (.mk []))), (.string (.mk (.mk [])))] [(0, 1), (1, 2), (3, 1), (4, 1)] [(t 8), (t 12), (t 16), (t 20)])) .fin .none) .none) .none)) (.alt (s 5 (.alloc [(.int .i64 (.ofNat 0)), (.string (.mk (.mk []))), (.slice none 0 0), (.string (.mk (.mk []))), (.string (.mk (.mk [])))])) (.alt (s 16 (.call 128 [(t 14), (t 15)])) (.alt (s 20 (.call 128 [(t 18), (t 19)])) (.alt (s 21 (.build [(.int .i64 (.ofNat 0)), (.string (.mk (.mk []))), (.slice none 0 0), (.string (.mk (.mk []))), (.string (.mk (.mk [])))] [(0, 1), (1, 2), (3, 1), (4, 1)] [(t 8), (t 12), (t 16), (t 20)])) .fin .none) .none) .none) .none)) .none) .none) .none) .none) .none) .none) .none) .none) .none) .none) .none) .none) [⟨none, none, (.store 5 (t 5) (t 21))⟩]) (.seq (.seq (.region false [s 6 (.mv (.const (.int .i64 0)))]) (.block 0 (.loop (.seq (.seq (.region false [s 22 (.mv (t 6)), s 23 (.fadr 1 (t 2)), s 24 (.fadr 1 (t 23)), s 25 (.load false 1 (t 24)), s 26 (.len false (t 25)), s 27 (.bin .lss (t 22) (t 26))]) (.cond (t 27) .skip (.exit 0))) (.seq (.block 1 (.held [s 30 (.fadr 1 (t 5)), s 31 (.fadr 1 (t 30)), s 32 (.load false 1 (t 31)), s 33 (.fadr 1 (t 2)), s 34 (.fadr 1 (t 33)), s 35 (.load false 1 (t 34)), s 36 (.mv (t 6)), s 37 (.iadr 1 (t 35) (t 36)), s 38 (.load false 1 (t 37)), s 39 (.mv (t 1)), s 40 (.call 128 [(t 38), (t 39)]), s 41 (.bslice 9 1 false [(t 40)])] [s 42 (.append 9 1 16 (t 32) (t 41)), s 43 (.fadr 1 (t 5)), s 44 (.fadr 1 (t 43)), ⟨none, none, (.store 1 (t 44) (t 42))⟩])) (.region false [s 28 (.mv (t 6)), s 29 (.bin .add (t 28) (.const (.int .i64 1))), s 6 (.mv (t 29))])))))) (.seq (.region false [s 45 (.load true 5 (t 5)), ⟨none, none, (.store 5 (t 4) (t 45))⟩]) .ret))))
def sRenameCond.keep : List Nat := [0, 1, 2, 4, 5, 6]
def sRenameCond.res : List RRes := [.cell 4 true 5]
abbrev sRenameCond.Own (args : List AV) (x : Tr) : Prop := Abs.Own true Try.prog 93 args x
def sRenamed.code : ACode := (.seq (.region false [s 4 (.mv (.const (.string (.mk #[]))))]) (.seq (.seq (.region false [s 5 (.mv (.const (.int .i64 0)))]) (.block 0 (.loop (.seq (.seq (.region false [s 6 (.mv (t 5)), s 7 (.mv (t 1)), s 8 (.len false (t 7)), s 9 (.bin .lss (t 6) (t 8))]) (.cond (t 9) .skip (.exit 0))) (.seq (.block 1 (.seq (.region false [s 12 (.mv (t 1)), s 13 (.mv (t 5)), s 14 (.iadr 2 (t 12) (t 13)), s 15 (.fadr 0 (t 14)), s 16 (.load false 1 (t 15)), s 17 (.mv (t 0)), s 18 (.bin .eql (t 16) (t 17))]) (.cond (t 18) (.seq (.region false [s 19 (.mv (t 1)), s 20 (.mv (t 5)), s 21 (.iadr 2 (t 19) (t 20)), s 22 (.fadr 1 (t 21)), s 23 (.load false 1 (t 22)), s 4 (.mv (t 23))]) .ret) .skip))) (.region false [s 10 (.mv (t 5)), s 11 (.bin .add (t 10) (.const (.int .i64 1))), s 5 (.mv (t 11))])))))) (.seq (.region false [s 24 (.mv (t 0)), s 4 (.mv (t 24))]) .ret)))
def sRenamed.keep : List Nat := [0, 1, 4, 5]
def sRenamed.res : List RRes := [.tmp 4]
theorem sRenamed.of {mo : Bool} {args : List AV} {r : AV} {frs : Fr} (hn : Nat.ble args.length Try.f128.ntmps = true) (h : aCode (Kn mo Try.prog) sRenamed.keep 0 sRenamed.code (doneK sRenamed.res r frs) ⟨argEnv 0 args, [], []⟩) : Abs.Ret mo Try.prog 128 args r frs :=
  Abs.Ret.of_ir Try.func128 rfl (by kernel_rfl) (Nat.le_of_ble_eq_true hn) (by kernel_rfl) (by kernel_rfl) h
abbrev sRenamed.Ret (args : List AV) (r : AV) (frs : Fr) : Prop := Abs.Ret true Try.prog 128 args r frs
end Go.Proofs.Ytfnejdkkhpjhmaa
namespace Go.Proofs.Ytfnejdkkhpjhmaa
open Abs
theorem tCond_sz (x : VCond) : tCond.size x = x.2.1.1.length + (x.2.1.2.length + listSize Ty.str x.2.1.2) + (x.2.2.1.length + x.2.2.2.length) := by
  have h : tCond.size x = 0 + (tFct.size x.2.1 + (x.2.2.1.length + x.2.2.2.length)) := rfl
  rw [h, tFct_size, tStrs_size]; omega
end Go.Proofs.Ytfnejdkkhpjhmaa
namespace Go.Proofs.Ytfnejdkkhpjhmaa
namespace Abs
variable {mo : Bool}
open Go.RowKit Go.Sort
theorem heap_putRow {α : Type} [Inhabited α] (enc : α → Value) (w : World) (blk off : Nat) (d : Array α) (c : Array Value) (t : TypeId) (z : Nat × Nat) (h : w.heap[blk]? = some (.cells c t z)) :
    (putRow enc w blk off d).heap[blk]? = some (.cells (putCells enc off d c) t z) := by
  simp [putRow, mapBlock, Array.getElem?_modify, h, onCells]
theorem heap_putRow_other {α : Type} [Inhabited α] (enc : α → Value) (w : World) (blk off : Nat) (d : Array α) (k : Nat) (h : k ≠ blk) : (putRow enc w blk off d).heap[k]? = w.heap[k]? := by
  simp [putRow, mapBlock, Array.getElem?_modify, Ne.symm h]
theorem putCells_zero {α : Type} [Inhabited α] (enc : α → Value) (d : Array α) (c : Array Value) (h : d.size ≤ c.size) : (putCells enc 0 d c).toList = d.toList.map enc ++ c.toList.drop d.size := by
  apply List.ext_getElem?
  intro i
  rw [Array.getElem?_toList, putCells, Array.getElem?_mapIdx, List.getElem?_append, List.length_map, Array.length_toList]
  by_cases hi : i < d.size
  · have hc : i < c.size := by omega
    simp [hi, hc, getElem!_pos d i hi]
  · rw [if_neg hi, List.getElem?_drop, show d.size + (i - d.size) = i by omega, Array.getElem?_toList]
    cases c[i]? with
    | none => rfl
    | some x => simp [hi]
end Abs
end Go.Proofs.Ytfnejdkkhpjhmaa
namespace Go.Proofs.Ytfnejdkkhpjhmaa
open Abs
structure STO {α : Type} (lt : α → α → Bool) : Prop where
  irrefl : ∀ x, lt x x = false
  trans : ∀ x y z, lt x y = true → lt y z = true → lt x z = true
  tri : ∀ x y, lt x y = false → lt y x = false → x = y
section
variable {α : Type} {lt : α → α → Bool}
def Asc (lt : α → α → Bool) (l : List α) : Prop := l.Pairwise fun x y => lt x y = true
theorem Asc.nodup (h : STO lt) {l : List α} (hl : Asc lt l) : l.Nodup := hl.imp fun {x y} hxy e => by subst e; rw [h.irrefl] at hxy; cases hxy
/-- put in at its place, unless it is there -/
def ins (lt : α → α → Bool) (s : α) : Bool → List α → List α
  | d, [] => if d then [] else [s]
  | true, x :: l => x :: ins lt s true l
  | false, x :: l => if lt x s then x :: ins lt s false l else if lt s x then s :: x :: ins lt s true l else x :: ins lt s true l
variable [Inhabited α] [DecidableEq α]
end
end Go.Proofs.Ytfnejdkkhpjhmaa
namespace Go.Proofs.Ytfnejdkkhpjhmaa
open Abs
def renF (to : List VPair) (s : Str) : Str := (lookV to s).getD s
theorem ren_drop {b : List VPair} {t : Str} {i : Nat} (hi : i < b.length) : renF (b.drop i) t = if (b.getD i default).1 = t then (b.getD i default).2 else renF (b.drop (i + 1)) t := by
  unfold renF
  rw [lookV_drop hi]
  split <;> rfl
theorem sRenamed.big (s : Str) (b : List VPair) (h : tPairs.size b ≤ 1099511627775) : sRenamed.Ret [.str s, .list none (pairs b)] (.str (renF b s)) [] := by
  refine sRenamed.of rfl ?_
  rw [tPairs_sz] at h
  repeat' first
    | contradiction | exact trivial
    | (conv => whnf
       first | refine Need.mk (fun h => h) ?_ | refine Need.mk rfl ?_ | refine Need.mk ⟨rfl, Nat.le_of_ble_eq_true rfl⟩ ?_ | refine Need.mk (Nat.le_of_ble_eq_true rfl) ?_ | refine Need.fin ?_ | refine Need.mk ?_ ?_ | refine Ix.strsF rfl ?_ | refine Ix.strs rfl ?_ ?_ | refine Cut.strs rfl ?_ ?_ | refine Ix.mapF (fun _ => rfl) ?_ | refine Ix.map (fun _ => rfl) ?_ ?_ | refine Cut.map (fun _ => rfl) ?_ ?_ | refine Fork.yes (by assumption) ?_ | refine Fork.no (by assumption) ?_ | refine Fork.decYes (by omega) ?_ | refine Fork.decNo (by omega) ?_ | refine Fork.dec (fun _ => ?_) (fun _ => ?_) | refine Fork.bne (fun _ => ?_) (fun _ => ?_) | refine Fork.beq (fun _ => ?_) (fun _ => ?_) | refine Fork.seq (fun _ => ?_) (fun _ => ?_) | refine Fork.sne (fun _ => ?_) (fun _ => ?_) | refine Fork.neg (fun _ => ?_) (fun _ => ?_) | refine Fork.mk (fun _ => ?_) (fun _ => ?_) | refine HAlt.mk ?_ ?_ | apply HJoin.mk3 | exact HEnd.mk rfl rfl rfl | refine HEnd.mk ?_ ?_ ?_ | refine Round.mk ?_ | refine NilQ.mk (fun b hb => ?_) | refine forceK_of ?_ | refine forceBx_of ?_ | refine unG_old ?_ | refine unG_gv ?_ | refine Lit.read rfl ?_ | refine LitO.own rfl ?_ | refine FinVal.keep ?_ | refine FinAgg.keep ?_ | refine Final.mk rfl rfl | refine Final.mk ?_ rfl | refine Final.mk ?_ ?_ | refine FinalT.mk ?_ ?_ | refine FinalI.mk ?_ | refine FinalC.allA ?_)
    | refine AV.bool_congr ?_ | refine AV.int_congr ?_ | refine AV.str_congr ?_ | refine AV.list_congr ?_ | with_reducible rfl | refine fr1 ?_ | refine fr2 ?_ ?_
  refine ALoop.mk Nat (fun i => ⟨[(0, .str s), (1, .list none (pairs b)), (5, .val (.int .i64 i))], [], []⟩) (fun i => i ≤ b.length ∧ renF (b.drop i) s = renF b s) (fun i => b.length - i) ⟨0, ⟨Nat.zero_le _, rfl⟩, ?_⟩ (fun i hi => ?_)
  · repeat' first
      | exact trivial | refine Weak.mk ?_ ?_ ?_ ?_ (Or.inl (Nat.le_of_ble_eq_true rfl)) | refine Weak.mk ?_ ?_ ?_ ?_ (Or.inr ⟨(by repeat' first | exact trivial | exact Nat.le_of_ble_eq_true rfl | refine And.intro ?_ ?_), (by repeat' first | exact trivial | exact Nat.le_of_ble_eq_true rfl | refine And.intro ?_ ?_)⟩) | refine Weak.mk ?_ ?_ ?_ ?_ ?_ | refine And.intro ?_ ?_ | with_reducible rfl | exact Nat.le_of_ble_eq_true rfl | refine fr1 ?_ | refine fr2 ?_ ?_ | refine AV.int_congr ?_ | refine AV.bool_congr ?_ | refine AV.str_congr ?_ | refine AV.list_congr ?_ | refine AV.bsl_congr ?_ ?_ | (apply rfl)
  repeat' first
    | contradiction | exact trivial
    | (conv => whnf
       first | refine Need.mk (fun h => h) ?_ | refine Need.mk rfl ?_ | refine Need.mk ⟨rfl, Nat.le_of_ble_eq_true rfl⟩ ?_ | refine Need.mk (Nat.le_of_ble_eq_true rfl) ?_ | refine Need.fin ?_ | refine Need.mk ?_ ?_ | refine Ix.strsF rfl ?_ | refine Ix.strs rfl ?_ ?_ | refine Cut.strs rfl ?_ ?_ | refine Ix.mapF (fun _ => rfl) ?_ | refine Ix.map (fun _ => rfl) ?_ ?_ | refine Cut.map (fun _ => rfl) ?_ ?_ | refine Fork.yes (by assumption) ?_ | refine Fork.no (by assumption) ?_ | refine Fork.decYes (by omega) ?_ | refine Fork.decNo (by omega) ?_ | refine Fork.dec (fun _ => ?_) (fun _ => ?_) | refine Fork.bne (fun _ => ?_) (fun _ => ?_) | refine Fork.beq (fun _ => ?_) (fun _ => ?_) | refine Fork.seq (fun _ => ?_) (fun _ => ?_) | refine Fork.sne (fun _ => ?_) (fun _ => ?_) | refine Fork.neg (fun _ => ?_) (fun _ => ?_) | refine Fork.mk (fun _ => ?_) (fun _ => ?_) | refine HAlt.mk ?_ ?_ | apply HJoin.mk3 | exact HEnd.mk rfl rfl rfl | refine HEnd.mk ?_ ?_ ?_ | refine Round.mk ?_ | refine NilQ.mk (fun b hb => ?_) | refine forceK_of ?_ | refine forceBx_of ?_ | refine unG_old ?_ | refine unG_gv ?_ | refine Lit.read rfl ?_ | refine LitO.own rfl ?_ | refine FinVal.keep ?_ | refine FinAgg.keep ?_ | refine Final.mk rfl rfl | refine Final.mk ?_ rfl | refine Final.mk ?_ ?_ | refine FinalT.mk ?_ ?_ | refine FinalI.mk ?_ | refine FinalC.allA ?_)
    | refine AV.bool_congr ?_ | refine AV.int_congr ?_ | refine AV.str_congr ?_ | refine AV.list_congr ?_ | with_reducible rfl | refine fr1 ?_ | refine fr2 ?_ ?_
  all_goals try simp only [length_rows, length_strs, length_oldLL, List.length_map, Int.toNat_natCast] at *
  · rename_i h2 h3
    have h5 := ren_drop (b := b) (t := s) (i := i) (by omega)
    rw [if_pos h2, hi.2] at h5
    exact h5.symm
  · rename_i h2 h3
    have h5 := ren_drop (b := b) (t := s) (i := i) (by omega)
    rw [if_neg h2, hi.2] at h5
    refine ⟨i + 1, ⟨by omega, h5.symm⟩, ?_, by omega⟩
    repeat' first
      | exact trivial | refine Weak.mk ?_ ?_ ?_ ?_ (Or.inl (Nat.le_of_ble_eq_true rfl)) | refine Weak.mk ?_ ?_ ?_ ?_ (Or.inr ⟨(by repeat' first | exact trivial | exact Nat.le_of_ble_eq_true rfl | refine And.intro ?_ ?_), (by repeat' first | exact trivial | exact Nat.le_of_ble_eq_true rfl | refine And.intro ?_ ?_)⟩) | refine Weak.mk ?_ ?_ ?_ ?_ ?_ | refine And.intro ?_ ?_ | with_reducible rfl | exact Nat.le_of_ble_eq_true rfl | refine fr1 ?_ | refine fr2 ?_ ?_ | refine AV.int_congr ?_ | refine AV.bool_congr ?_ | refine AV.str_congr ?_ | refine AV.list_congr ?_ | refine AV.bsl_congr ?_ ?_ | (apply rfl)
    rw [wrap64 (by omega) (by omega)]; rfl
  · rw [← hi.2, List.drop_eq_nil_of_le (by omega)]; rfl
def renC (x : VCond) (to : List VPair) : VCond := (x.1, (x.2.1.1, x.2.1.2.map (renF to)), renF to x.2.2.1, renF to x.2.2.2)
/-- the texts so far: nil before the first one -/
def accN : List Str → AV
  | [] => .val (.slice none 0 0)
  | x :: l => .list (some 0) (strs (x :: l))
def frN : List Str → Fr
  | [] => []
  | x :: l => [(9, 1, (x :: l).length)]
theorem accN_own {x : Int} {r : Str} {l : List Str} {c d : Str} : ∃ ts, OwnA (frN l) [.a (tCond.q (x, (r, l), c, d))] [.agg [.val (.int .i64 x), .str r, accN l, .str c, .str d]] ts ∧ ts.Nodup := by
  cases l with
  | nil => exact ⟨_, .a _ _ (.v _ rfl (.s _ (.nils _ _ (.s _ (.s _ .nil))))) .nil, by simp⟩
  | cons y l => exact ⟨_, .a _ _ (.v _ rfl (.s _ (.l _ _ _ 0 _ (by simp [frN]) (by simp) (fun e he => by obtain ⟨s, _, rfl⟩ := List.mem_map.1 he; rfl) (strs_sz _) (own_strs _ _) (.s _ (.s _ .nil))))) .nil, by simp⟩
theorem sRenameCond.big (x : VCond) (b : List VPair) (h1 : tCond.size x ≤ 1048576) (h2 : tPairs.size b ≤ 1099511627775) : sRenameCond.Own [.agg (oldL (tCond.q x)), .list none (pairs b)] (.a (tCond.q (renC x b))) := by
  refine Own.of_irP (code := sRenameCond.code) (rs := sRenameCond.res) (K := sRenameCond.keep) Try.func93 rfl (by kernel_rfl) (Nat.le_of_ble_eq_true rfl) (by kernel_rfl) (by kernel_rfl) ?_
  have hz := tCond_sz x
  repeat' first
    | contradiction | exact trivial
    | (conv => whnf
       first | refine Need.mk (fun h => h) ?_ | refine Need.mk rfl ?_ | refine Need.mk ⟨rfl, Nat.le_of_ble_eq_true rfl⟩ ?_ | refine Need.mk (Nat.le_of_ble_eq_true rfl) ?_ | refine Need.fin ?_ | refine Need.mk ?_ ?_ | refine Ix.strsF rfl ?_ | refine Ix.strs rfl ?_ ?_ | refine Cut.strs rfl ?_ ?_ | refine Ix.mapF (fun _ => rfl) ?_ | refine Ix.map (fun _ => rfl) ?_ ?_ | refine Cut.map (fun _ => rfl) ?_ ?_ | refine Fork.yes (by assumption) ?_ | refine Fork.no (by assumption) ?_ | refine Fork.decYes (by omega) ?_ | refine Fork.decNo (by omega) ?_ | refine Fork.dec (fun _ => ?_) (fun _ => ?_) | refine Fork.bne (fun _ => ?_) (fun _ => ?_) | refine Fork.beq (fun _ => ?_) (fun _ => ?_) | refine Fork.seq (fun _ => ?_) (fun _ => ?_) | refine Fork.sne (fun _ => ?_) (fun _ => ?_) | refine Fork.neg (fun _ => ?_) (fun _ => ?_) | refine Fork.mk (fun _ => ?_) (fun _ => ?_) | refine HAlt.mk ?_ ?_ | apply HJoin.mk3 | exact HEnd.mk rfl rfl rfl | refine HEnd.mk ?_ ?_ ?_ | refine Round.mk ?_ | refine NilQ.mk (fun b hb => ?_) | refine forceK_of ?_ | refine forceBx_of ?_ | refine unG_old ?_ | refine unG_gv ?_ | refine Lit.read rfl ?_ | refine LitO.own rfl ?_ | refine FinVal.keep ?_ | refine FinAgg.keep ?_ | refine Final.mk rfl rfl | refine Final.mk ?_ rfl | refine Final.mk ?_ ?_ | refine FinalT.mk ?_ ?_ | refine FinalI.mk ?_ | refine FinalC.allA ?_ | refine ACall.scalA _ _ (sRenamed.big _ _ ?_) rfl ?_ | refine AQCall.mkA _ _ (fun hg => sRenamed.big _ _ ?_) rfl ?_ | refine AGCall.mkA _ _ (fun hg => sRenamed.big _ _ ?_) rfl ?_)
    | refine AV.bool_congr ?_ | refine AV.int_congr ?_ | refine AV.str_congr ?_ | refine AV.list_congr ?_ | with_reducible rfl | refine fr1 ?_ | refine fr2 ?_ ?_
  all_goals try exact h2
  refine ALoop.mk Nat (fun i => ⟨[(0, .agg (oldL (tCond.q x))), (1, .list none (pairs b)), (2, .bptr 0 0), (4, .bptr 1 0), (5, .bptr 2 0), (6, .val (.int .i64 i))], [.cells .var (oldL (tCond.q x)), .cells .var [.val (.int .i64 0), .str [], .val (.slice none 0 0), .str [], .str []], .cells .var [.val (.int .i64 x.1), .str x.2.1.1, accN ((x.2.1.2.take i).map (renF b)), .str (renF b x.2.2.1), .str (renF b x.2.2.2)]], frN ((x.2.1.2.take i).map (renF b))⟩) (fun i => i ≤ x.2.1.2.length) (fun i => x.2.1.2.length - i) ⟨0, Nat.zero_le _, ?_⟩ (fun i hi => ?_)
  · repeat' first
      | exact trivial | refine Weak.mk ?_ ?_ ?_ ?_ (Or.inl (Nat.le_of_ble_eq_true rfl)) | refine Weak.mk ?_ ?_ ?_ ?_ (Or.inr ⟨(by repeat' first | exact trivial | exact Nat.le_of_ble_eq_true rfl | refine And.intro ?_ ?_ | exact hx.2 _ | exact hy.2 _), (by repeat' first | exact trivial | exact Nat.le_of_ble_eq_true rfl | refine And.intro ?_ ?_ | exact hx.2 _ | exact hy.2 _)⟩) | refine Weak.mk ?_ ?_ ?_ ?_ ?_ | refine And.intro ?_ ?_ | with_reducible rfl | exact Nat.le_of_ble_eq_true rfl | refine fr1 ?_ | refine fr2 ?_ ?_ | refine AV.int_congr ?_ | refine AV.bool_congr ?_ | refine AV.str_congr ?_ | refine AV.list_congr ?_ | refine AV.bsl_congr ?_ ?_ | (apply rfl) | refine bx_cons ?_ ?_ | refine bx_map ?_
  have hml : ((x.2.1.2.take i).map (renF b)).length = i := by simp; omega
  have hs : i < x.2.1.2.length → (x.2.1.2.take (i + 1)).map (renF b) = (x.2.1.2.take i).map (renF b) ++ [renF b (x.2.1.2.getD i [])] := fun h => by rw [take_succ' [] h, List.map_append]; rfl
  have he : ¬ i < x.2.1.2.length → (x.2.1.2.take i).map (renF b) = x.2.1.2.map (renF b) := fun h => by rw [List.take_of_length_le (by omega)]
  generalize hm : (x.2.1.2.take i).map (renF b) = m at hml hs he
  cases m with
  | nil =>
    repeat' first
      | contradiction | exact trivial
      | (conv => whnf
         first | refine Need.mk (fun h => h) ?_ | refine Need.mk rfl ?_ | refine Need.mk ⟨rfl, Nat.le_of_ble_eq_true rfl⟩ ?_ | refine Need.mk (Nat.le_of_ble_eq_true rfl) ?_ | refine Need.fin ?_ | refine Need.mk ?_ ?_ | refine Ix.strsF rfl ?_ | refine Ix.strs rfl ?_ ?_ | refine Cut.strs rfl ?_ ?_ | refine Ix.mapF (fun _ => rfl) ?_ | refine Ix.map (fun _ => rfl) ?_ ?_ | refine Cut.map (fun _ => rfl) ?_ ?_ | refine Fork.yes (by assumption) ?_ | refine Fork.no (by assumption) ?_ | refine Fork.decYes (by omega) ?_ | refine Fork.decNo (by omega) ?_ | refine Fork.dec (fun _ => ?_) (fun _ => ?_) | refine Fork.bne (fun _ => ?_) (fun _ => ?_) | refine Fork.beq (fun _ => ?_) (fun _ => ?_) | refine Fork.seq (fun _ => ?_) (fun _ => ?_) | refine Fork.sne (fun _ => ?_) (fun _ => ?_) | refine Fork.neg (fun _ => ?_) (fun _ => ?_) | refine Fork.mk (fun _ => ?_) (fun _ => ?_) | refine HAlt.mk ?_ ?_ | apply HJoin.mk3 | exact HEnd.mk rfl rfl rfl | refine HEnd.mk ?_ ?_ ?_ | refine Round.mk ?_ | refine NilQ.mk (fun b hb => ?_) | refine forceK_of ?_ | refine forceBx_of ?_ | refine unG_old ?_ | refine unG_gv ?_ | refine Lit.read rfl ?_ | refine LitO.own rfl ?_ | refine FinVal.keep ?_ | refine FinAgg.keep ?_ | refine Final.mk rfl rfl | refine Final.mk ?_ rfl | refine Final.mk ?_ ?_ | refine FinalT.mk ?_ ?_ | refine FinalI.mk ?_ | refine FinalC.allA ?_ | refine ACall.scalA _ _ (sRenamed.big _ _ ?_) rfl ?_ | refine AQCall.mkA _ _ (fun hg => sRenamed.big _ _ ?_) rfl ?_ | refine AGCall.mkA _ _ (fun hg => sRenamed.big _ _ ?_) rfl ?_)
      | refine AV.bool_congr ?_ | refine AV.int_congr ?_ | refine AV.str_congr ?_ | refine AV.list_congr ?_ | with_reducible rfl | refine fr1 ?_ | refine fr2 ?_ ?_
    all_goals try simp only [length_rows, length_strs, length_oldLL, List.length_map, Int.toNat_natCast] at *
    · exact h2
    · intro c hc; rw [List.mem_singleton.1 hc]; rfl
    · simp
    · rename_i hlt
      refine ⟨i + 1, by omega, ?_, by omega⟩
      repeat' first
        | exact trivial | refine Weak.mk ?_ ?_ ?_ ?_ (Or.inl (Nat.le_of_ble_eq_true rfl)) | refine Weak.mk ?_ ?_ ?_ ?_ (Or.inr ⟨(by repeat' first | exact trivial | exact Nat.le_of_ble_eq_true rfl | refine And.intro ?_ ?_ | exact hx.2 _ | exact hy.2 _), (by repeat' first | exact trivial | exact Nat.le_of_ble_eq_true rfl | refine And.intro ?_ ?_ | exact hx.2 _ | exact hy.2 _)⟩) | refine Weak.mk ?_ ?_ ?_ ?_ ?_ | refine And.intro ?_ ?_ | with_reducible rfl | exact Nat.le_of_ble_eq_true rfl | refine fr1 ?_ | refine fr2 ?_ ?_ | refine AV.int_congr ?_ | refine AV.bool_congr ?_ | refine AV.str_congr ?_ | refine AV.list_congr ?_ | refine AV.bsl_congr ?_ ?_ | (apply rfl) | refine bx_cons ?_ ?_ | refine bx_map ?_
      · rw [wrap64 (by omega) (by omega)]; rfl
      · rw [hs (by omega)]; rfl
      · show _ = frN _
        rw [hs (by omega)]; rfl
    · rename_i hlt
      have e : renC x b = (x.1, (x.2.1.1, []), renF b x.2.2.1, renF b x.2.2.2) := by rw [renC, ← he (by omega)]
      rw [e]
      exact accN_own (l := [])
  | cons y m =>
    repeat' first
      | contradiction | exact trivial
      | (conv => whnf
         first | refine Need.mk (fun h => h) ?_ | refine Need.mk rfl ?_ | refine Need.mk ⟨rfl, Nat.le_of_ble_eq_true rfl⟩ ?_ | refine Need.mk (Nat.le_of_ble_eq_true rfl) ?_ | refine Need.fin ?_ | refine Need.mk ?_ ?_ | refine Ix.strsF rfl ?_ | refine Ix.strs rfl ?_ ?_ | refine Cut.strs rfl ?_ ?_ | refine Ix.mapF (fun _ => rfl) ?_ | refine Ix.map (fun _ => rfl) ?_ ?_ | refine Cut.map (fun _ => rfl) ?_ ?_ | refine Fork.yes (by assumption) ?_ | refine Fork.no (by assumption) ?_ | refine Fork.decYes (by omega) ?_ | refine Fork.decNo (by omega) ?_ | refine Fork.dec (fun _ => ?_) (fun _ => ?_) | refine Fork.bne (fun _ => ?_) (fun _ => ?_) | refine Fork.beq (fun _ => ?_) (fun _ => ?_) | refine Fork.seq (fun _ => ?_) (fun _ => ?_) | refine Fork.sne (fun _ => ?_) (fun _ => ?_) | refine Fork.neg (fun _ => ?_) (fun _ => ?_) | refine Fork.mk (fun _ => ?_) (fun _ => ?_) | refine HAlt.mk ?_ ?_ | apply HJoin.mk3 | exact HEnd.mk rfl rfl rfl | refine HEnd.mk ?_ ?_ ?_ | refine Round.mk ?_ | refine NilQ.mk (fun b hb => ?_) | refine forceK_of ?_ | refine forceBx_of ?_ | refine unG_old ?_ | refine unG_gv ?_ | refine Lit.read rfl ?_ | refine LitO.own rfl ?_ | refine FinVal.keep ?_ | refine FinAgg.keep ?_ | refine Final.mk rfl rfl | refine Final.mk ?_ rfl | refine Final.mk ?_ ?_ | refine FinalT.mk ?_ ?_ | refine FinalI.mk ?_ | refine FinalC.allA ?_ | refine ACall.scalA _ _ (sRenamed.big _ _ ?_) rfl ?_ | refine AQCall.mkA _ _ (fun hg => sRenamed.big _ _ ?_) rfl ?_ | refine AGCall.mkA _ _ (fun hg => sRenamed.big _ _ ?_) rfl ?_)
      | refine AV.bool_congr ?_ | refine AV.int_congr ?_ | refine AV.str_congr ?_ | refine AV.list_congr ?_ | with_reducible rfl | refine fr1 ?_ | refine fr2 ?_ ?_
    all_goals try simp only [length_rows, length_strs, length_oldLL, List.length_map, Int.toNat_natCast] at *
    · exact h2
    · intro c hc; rw [List.mem_singleton.1 hc]; rfl
    · simp only [List.length_cons, List.length_nil] at *; omega
    · rename_i hlt
      refine ⟨i + 1, by omega, ?_, by omega⟩
      repeat' first
        | exact trivial | refine Weak.mk ?_ ?_ ?_ ?_ (Or.inl (Nat.le_of_ble_eq_true rfl)) | refine Weak.mk ?_ ?_ ?_ ?_ (Or.inr ⟨(by repeat' first | exact trivial | exact Nat.le_of_ble_eq_true rfl | refine And.intro ?_ ?_ | exact hx.2 _ | exact hy.2 _), (by repeat' first | exact trivial | exact Nat.le_of_ble_eq_true rfl | refine And.intro ?_ ?_ | exact hx.2 _ | exact hy.2 _)⟩) | refine Weak.mk ?_ ?_ ?_ ?_ ?_ | refine And.intro ?_ ?_ | with_reducible rfl | exact Nat.le_of_ble_eq_true rfl | refine fr1 ?_ | refine fr2 ?_ ?_ | refine AV.int_congr ?_ | refine AV.bool_congr ?_ | refine AV.str_congr ?_ | refine AV.list_congr ?_ | refine AV.bsl_congr ?_ ?_ | (apply rfl) | refine bx_cons ?_ ?_ | refine bx_map ?_
      · rw [wrap64 (by omega) (by omega)]; rfl
      · rw [hs (by omega)]; exact congrArg (fun c => ABox.cells RK.var [_, _, AV.list (some 0) c, _, _]) (strs_append (y :: m) [_]).symm
      · show _ = frN _
        rw [hs (by omega)]; simp [frN]
    · rename_i hlt
      have e : renC x b = (x.1, (x.2.1.1, y :: m), renF b x.2.2.1, renF b x.2.2.2) := by rw [renC, ← he (by omega)]
      rw [e]
      exact accN_own (l := y :: m)
end Go.Proofs.Ytfnejdkkhpjhmaa
namespace Go.Proofs.Ytfnejdkkhpjhmaa
open Abs
def sPathOf.code : ACode := (.seq (.region false [s 2 (.box (t 0)), s 4 (.mv (.const (.slice none 0 0)))]) (.seq (.region false [s 7 (.bslice 83 5 true []), s 5 (.mv (t 7))]) (.seq (.block 0 (.loop (.seq (.seq (.region false [s 8 (.mv (t 1)), s 9 (.fadr 3 (t 2)), s 10 (.load false 1 (t 9)), s 11 (.len false (t 10)), s 12 (.bin .sub (t 11) (.const (.int .i64 1))), s 13 (.call 49 [(t 8), (.const (.int .i64 1)), (t 12)])]) (.cond (t 13) .skip (.exit 0))) (.block 1 (.seq (.region false [s 14 (.fadr 3 (t 2)), s 15 (.load false 1 (t 14)), s 16 (.mv (t 1)), s 17 (.iadr 8 (t 15) (t 16)), s 18 (.fadr 1 (t 17)), s 19 (.load true 5 (t 18)), s 20 (.call 50 [(t 19)]), s 21 (.bslice 83 5 true [(t 20)]), s 22 (.mv (t 5)), s 23 (.append 83 5 80 (t 21) (t 22)), s 5 (.mv (t 23))]) (.seq (.region false [s 24 (.fadr 3 (t 2)), s 25 (.load false 1 (t 24)), s 26 (.mv (t 1)), s 27 (.iadr 8 (t 25) (t 26)), s 28 (.fadr 0 (t 27)), s 29 (.load false 1 (t 28)), s 6 (.mv (t 29))]) (.seq (.seq (.region false [s 30 (.mv (t 6)), s 31 (.mv (t 1)), s 32 (.bin .geq (t 30) (t 31))]) (.cond (t 32) (.exit 0) .skip)) (.region false [s 33 (.mv (t 6)), s 1 (.mv (t 33))])))))))) (.seq (.region false [s 34 (.mv (t 5)), s 4 (.mv (t 34))]) .ret))))
def sPathOf.keep : List Nat := [0, 1, 2, 4, 5, 6]
def sPathOf.res : List RRes := [.tmp 4]
abbrev sPathOf.Own (args : List AV) (x : Tr) : Prop := Abs.Own true Try.prog 15 args x
def pPathOf.code : ACode := (.seq (.region false [s 2 (.box (t 0)), s 4 (.mv (.const (.slice none 0 0)))]) (.seq (.region false [s 8 (.bslice 83 5 true []), s 5 (.mv (t 8))]) (.seq (.seq (.region true [s 9 (.mv (t 1)), s 10 (.fadr 3 (t 2)), s 11 (.load false 1 (t 10)), s 12 (.len false (t 11)), s 6 (.mv (t 9)), s 7 (.mv (t 12))]) (.block 0 (.loop (.seq (.seq (.region false [s 13 (.mv (t 6)), s 14 (.bin .lss (.const (.int .i64 0)) (t 13)), s 15 (.mv (t 14)), g 15 true 16 (.mv (t 6)), g 15 true 17 (.mv (t 7)), g 15 true 18 (.bin .lss (t 16) (t 17)), s 19 (.and (t 15) (t 18))]) (.cond (t 19) .skip (.exit 0))) (.seq (.block 1 (.region false [s 27 (.mv (t 5)), s 28 (.fadr 3 (t 2)), s 29 (.load false 1 (t 28)), s 30 (.mv (t 6)), s 31 (.iadr 8 (t 29) (t 30)), s 32 (.fadr 1 (t 31)), s 33 (.load true 5 (t 32)), s 34 (.call 56 [(t 33)]), s 35 (.bslice 83 5 false [(t 34)]), s 36 (.append 83 5 80 (t 27) (t 35)), s 5 (.mv (t 36))])) (.region false [s 20 (.fadr 3 (t 2)), s 21 (.load false 1 (t 20)), s 22 (.mv (t 6)), s 23 (.iadr 8 (t 21) (t 22)), s 24 (.fadr 0 (t 23)), s 25 (.load false 1 (t 24)), s 26 (.mv (t 6)), s 6 (.mv (t 25)), s 7 (.mv (t 26))])))))) (.seq (.region false [s 37 (.mv (t 5)), s 38 (.call 57 [(t 37)])]) (.seq (.region false [s 39 (.mv (t 5)), s 4 (.mv (t 39))]) .ret)))))
def pPathOf.keep : List Nat := [0, 1, 2, 4, 5, 6, 7]
def pPathOf.res : List RRes := [.tmp 4]
abbrev pPathOf.Own (args : List AV) (x : Tr) : Prop := Abs.Own true Try.prog 17 args x
def sCopyCond.code : ACode := (.seq (.region false [s 1 (.box (t 0)), s 2 (.alloc [(.int .i64 (.ofNat 0)), (.string (.mk (.mk []))), (.slice none 0 0), (.string (.mk (.mk []))), (.string (.mk (.mk [])))])]) (.seq (.region false [s 3 (.load true 5 (t 1)), s 4 (.call 93 [(t 3), (.const (.slice none 0 0))]), ⟨none, none, (.store 5 (t 2) (t 4))⟩]) .ret))
def sCopyCond.keep : List Nat := [0, 1, 2]
def sCopyCond.res : List RRes := [.cell 2 true 5]
theorem sCopyCond.of {mo : Bool} {args : List AV} {r : AV} {frs : Fr} (hn : Nat.ble args.length Try.f50.ntmps = true) (h : aCode (Kn mo Try.prog) sCopyCond.keep 0 sCopyCond.code (doneK sCopyCond.res r frs) ⟨argEnv 0 args, [], []⟩) : Abs.Ret mo Try.prog 50 args r frs :=
  Abs.Ret.of_ir Try.func50 rfl (by kernel_rfl) (Nat.le_of_ble_eq_true hn) (by kernel_rfl) (by kernel_rfl) h
abbrev sCopyCond.Ret (args : List AV) (r : AV) (frs : Fr) : Prop := Abs.Ret true Try.prog 50 args r frs
def pcopyCond.code : ACode := (.seq (.region false [s 1 (.box (t 0)), s 2 (.alloc [(.int .i64 (.ofNat 0)), (.string (.mk (.mk []))), (.slice none 0 0), (.string (.mk (.mk []))), (.string (.mk (.mk [])))])]) (.seq (.region false [s 3 (.fadr 1 (t 1)), s 4 (.fadr 1 (t 3)), s 5 (.load false 1 (t 4)), s 6 (.call 98 [(t 5)]), s 7 (.fadr 1 (t 1)), s 8 (.fadr 1 (t 7)), ⟨none, none, (.store 1 (t 8) (t 6))⟩]) (.seq (.region false [s 9 (.load true 5 (t 1)), ⟨none, none, (.store 5 (t 2) (t 9))⟩]) .ret)))
def pcopyCond.keep : List Nat := [0, 1, 2]
def pcopyCond.res : List RRes := [.cell 2 true 5]
theorem pcopyCond.of {mo : Bool} {args : List AV} {r : AV} {frs : Fr} (hn : Nat.ble args.length Try.f56.ntmps = true) (h : aCode (Kn mo Try.prog) pcopyCond.keep 0 pcopyCond.code (doneK pcopyCond.res r frs) ⟨argEnv 0 args, [], []⟩) : Abs.Ret mo Try.prog 56 args r frs :=
  Abs.Ret.of_ir Try.func56 rfl (by kernel_rfl) (Nat.le_of_ble_eq_true hn) (by kernel_rfl) (by kernel_rfl) h
abbrev pcopyCond.Ret (args : List AV) (r : AV) (frs : Fr) : Prop := Abs.Ret true Try.prog 56 args r frs
abbrev slReverseC.Ins (b0 : List ABox) (f0 : Fr) (args : List AV) (Φ : AV → List ABox → Fr → Prop) : Prop := Abs.Ins true Try.prog 57 b0 f0 args Φ
end Go.Proofs.Ytfnejdkkhpjhmaa
namespace Go.Proofs.Ytfnejdkkhpjhmaa
namespace Abs
open Go.ChangeShapes Go.WideShapes Go.RowKit
def clF (P : Program) (g : TypeId → Option (List Cl)) : Nat → List Field → Option (List Cl)
  | _, [] => some []
  | off, f :: fs => match g f.type with
    | some cs => if f.offset = off ∧ cs.length = P.cellsOf f.type then
        (match clF P g (off + cs.length) fs with | some r => some (cs ++ r) | none => none) else none
    | none => none
def clOf (P : Program) : Nat → TypeId → Option (List Cl)
  | 0, _ => none
  | n + 1, t => match P.underlying t with
    | some .string => some [.str]
    | some .bool => some [.bool]
    | some (.int k) => some [.int k]
    | some (.slice e) => match clOf P n e with
      | some cs => if cs.length = P.cellsOf e ∧ 0 < P.cellsOf e then some [.sl e (P.cellsOf e) cs] else none
      | none => none
    | some (.struct fs) => match clF P (clOf P n) 0 fs.toList with
      | some cs => if cs.length = P.cellsOf t then some cs else none
      | none => none
    | _ => none
theorem Both.app {R : AV → Value → Prop} {xs ys : List AV} {us vs : List Value} (h : Both R xs us) (h' : Both R ys vs) : Both R (xs ++ ys) (us ++ vs) := by
  refine ⟨by simp [h.1, h'.1], fun i x v hx hv => ?_⟩
  rw [List.getElem?_append] at hx hv
  rw [h.1] at hx
  split at hx
  · rename_i hi; rw [if_pos hi] at hv; exact h.2 i x v hx hv
  · rename_i hi; rw [if_neg hi] at hv; exact h'.2 _ x v hx hv
/-- the cells of all blocks that are there -/
def allF (w : World) (b : Nat) : Nat := match w.heap[b]? with | some (.cells c _ _) => c.size | _ => 0
theorem allF_out (w : World) (b : Nat) (h : w.heap.size ≤ b) : allF w b = 0 := by
  unfold allF; rw [Array.getElem?_eq_none h]
section
variable {H : Type} {enc : TypeId × Value → H} {P : Program} {w : World} {base : Nat} {spare : Nat → Bool} {held : Bool}
def Opens (B : Nat) (w : World) (cls : List Cl) (cs : List Value) : Prop :=
  ∃ trs, FitsL cls trs ∧ Both (Rep B w (allF w) [] [] []) (oldL trs) cs ∧ ∀ v ∈ cs, v.oneCell' = true
theorem Opens.one {B : Nat} {cl : Cl} {v : Value} (x : Tr) (h : FitsL [cl] [x]) (hr : Rep B w (allF w) [] [] [] (old x) v) (h1 : v.oneCell' = true) : Opens B w [cl] [v] :=
  ⟨[x], h, Both.cons.2 ⟨hr, rfl, by simp [oldL]⟩, by simp [h1]⟩
theorem open_fields {fuel : Nat} {cs : List Value} (B : Nat) (g : TypeId → Option (List Cl))
    (ih : ∀ t cs x cls, g t = some cls → DataW.trod enc P w base spare held fuel t cs = some x → Opens B w cls cs) :
    ∀ (fs : List Field) (off : Nat) (cls : List Cl), clF P g off fs = some cls → (∀ f ∈ fs, ∃ x, DataW.trod enc P w base spare held fuel f.type ((cs.drop f.offset).take (P.cellsOf f.type)) = some x) →
      Opens B w cls ((cs.drop off).take cls.length)
  | [], off, cls, h, _ => by
    simp only [clF, Option.some.injEq] at h
    subst h
    exact ⟨[], .nil, by simp [Both, oldL], by simp⟩
  | f :: fs, off, cls, h, hx => by
    unfold clF at h
    cases hg : g f.type with
    | none => rw [hg] at h; cases h
    | some c =>
      rw [hg] at h
      simp only at h
      split at h
      · rename_i hc
        obtain ⟨rfl, hc⟩ := hc
        cases hr : clF P g (f.offset + c.length) fs with
        | none => rw [hr] at h; cases h
        | some r =>
          rw [hr] at h
          simp only [Option.some.injEq] at h
          subst h
          obtain ⟨x, hx1⟩ := hx f (by simp)
          obtain ⟨t1, f1, b1, o1⟩ := ih _ _ _ _ hg hx1
          obtain ⟨t2, f2, b2, o2⟩ := open_fields B g ih fs _ r hr (fun f' hf' => hx f' (by simp [hf']))
          have hsplit : (cs.drop f.offset).take (c ++ r).length = (cs.drop f.offset).take c.length ++ (cs.drop (f.offset + c.length)).take r.length := by
            rw [List.length_append, List.take_add, List.drop_drop]
          rw [hsplit, hc]
          rw [hc] at b2 o2
          refine ⟨t1 ++ t2, f1.append f2, ?_, fun v hv => ?_⟩
          · rw [oldL_eq, List.map_append, ← oldL_eq, ← oldL_eq]; exact b1.app b2
          · rcases List.mem_append.1 hv with h | h
            · exact o1 v h
            · exact o2 v h
      · cases h
theorem open_cells (B : Nat) : ∀ (n fuel : Nat) (t : TypeId) (cs : List Value) (x : DataW H × List MemPlace) (cls : List Cl), clOf P n t = some cls → DataW.trod enc P w base spare held fuel t cs = some x → Opens B w cls cs
  | 0, _, _, _, _, _, h, _ => by cases h
  | n + 1, fuel, t, cs, x, cls, h, hx => by
    unfold clOf at h
    cases ht : P.underlying t with
    | none => rw [ht] at h; cases h
    | some u =>
      rw [ht] at h
      cases u with
      | string =>
        simp only [Option.some.injEq] at h; subst h
        obtain ⟨s, rfl, _, hs⟩ := DataW.trod_string ht hx
        exact Opens.one (.s s.data.toList) (.str _ hs .nil) (rep_string s) rfl
      | bool =>
        simp only [Option.some.injEq] at h; subst h
        cases fuel with
        | zero => simp [DataW.trod] at hx
        | succ m =>
          unfold DataW.trod at hx
          rw [ht] at hx
          split at hx <;> simp_all
          exact Opens.one (.v (.bool _)) (.bool _ .nil) (.val _) rfl
      | int k =>
        simp only [Option.some.injEq] at h; subst h
        obtain ⟨m, rfl, _, hm⟩ := DataW.trod_int ht hx
        exact Opens.one (.v (.int k m)) (.int _ _ hm .nil) (.val _) rfl
      | slice e =>
        simp only at h
        cases hc : clOf P n e with
        | none => rw [hc] at h; cases h
        | some c =>
          rw [hc] at h
          simp only at h
          split at h
          · rename_i hsz
            obtain ⟨hsz, hpos⟩ := hsz
            simp only [Option.some.injEq] at h; subst h
            rcases Go.Deep.open_slice ht hx with ⟨rfl, _⟩ | ⟨a, len, cap, m, k, D, Pl, rfl, _, hl, hm, hmm, _, hel⟩
            · refine Opens.one (.l e (P.cellsOf e) []) (.sl _ _ _ [] (Nat.zero_le _) hsz (by simp) .nil) ?_ rfl
              exact .list none [] none 0 0 0 0 (fun _ _ => undef) (Nat.le_refl _) (fun h => absurd rfl h) (by simp) (fun h => absurd rfl h) (by simp) (by simp) (fun k hk => by cases hk)
            · have hlm : len ≤ m := by rw [hmm]; split <;> omega
              obtain ⟨T, hT⟩ := Go.Deep.choose_lt (α := List Value × List Tr) (n := len) (p := fun i q => w.cells? base (a.add (i * P.cellsOf e)) (P.cellsOf e) = some q.1 ∧ FitsL c q.2 ∧
                  Both (Rep B w (allF w) [] [] []) (oldL q.2) q.1 ∧ ∀ v ∈ q.1, v.oneCell' = true) (fun i hi => by
                obtain ⟨cs', h1, h2⟩ := hel i (by omega)
                obtain ⟨trs, h3, h4, h5⟩ := open_cells B n k e cs' _ c hc h2
                exact ⟨(cs', trs), h1, h3, h4, h5⟩)
              have hlen : ((List.range len).map fun i => (T i).2).length = len := by simp
              refine Opens.one (.l e (P.cellsOf e) ((List.range len).map fun i => (T i).2)) (.sl _ _ _ _ (by rw [hlen]; omega) hsz (fun x hx => ?_) .nil) ?_ rfl
              · obtain ⟨i, hi, rfl⟩ := List.mem_map.1 hx
                exact (hT i (List.mem_range.1 hi)).2.1
              · have hol : (oldLL ((List.range len).map fun i => (T i).2)).length = len := by rw [length_oldLL, hlen]
                have hget : ∀ i e', (oldLL ((List.range len).map fun i => (T i).2))[i]? = some e' → i < len ∧ e' = oldL (T i).2 := by
                  intro i e' he
                  have hi : i < len := by have := getElem?_lt he; omega
                  rw [oldLL_eq] at he
                  simp [hi] at he
                  exact ⟨hi, by rw [oldL_eq]; exact he.symm⟩
                have hlenT : ∀ i, i < len → (oldL (T i).2).length = P.cellsOf e := fun i hi => by rw [oldL_eq, List.length_map, (hT i hi).2.1.length, hsz]
                have hcell : ∀ i j, i < len → j < P.cellsOf e → w.cell? ⟨a.block, a.off + i * P.cellsOf e + j, none⟩ = (T i).1[j]? ∧ a.spot = none := by
                  intro i j hi hj
                  obtain ⟨_, hl', hc'⟩ := World.cells?_some (hT i hi).1
                  have h0 : a.spot = none := by
                    obtain ⟨_, hl0, hc0⟩ := World.cells?_some (hT 0 (by omega)).1
                    have := hc0 0 hpos
                    rw [List.getElem?_eq_getElem (by omega)] at this
                    simp only [Nat.zero_mul, Addr.add, if_true] at this
                    unfold World.cell? at this
                    cases hs : a.spot with
                    | none => rfl
                    | some _ => rw [hs] at this; split at this <;> simp at this
                  refine ⟨?_, h0⟩
                  rw [← hc' j hj, Go.Deep.add_add]
                  unfold Addr.add
                  split
                  · rename_i hz
                    rw [show a.off + i * P.cellsOf e + j = a.off by omega]
                    cases a; simp only at h0; subst h0; rfl
                  · rw [Nat.add_assoc]
                have hrep := Rep.list (B := B) (w := w) (F := allF w) (tok := []) (fr := []) (box := []) none (oldLL ((List.range len).map fun i => (T i).2)) (some a) cap (P.cellsOf e) a.block a.off
                  (fun i j => (T i).1.getD j undef) (by rw [hol]; exact hl)
                  (fun hne => by
                    have : 0 < len := by
                      rcases Nat.eq_zero_or_pos len with h0 | h0
                      · subst h0; exact absurd rfl hne
                      · exact h0
                    have := (hcell 0 0 this hpos).2
                    cases a; simp only at this; subst this; rfl)
                  (fun e' he' => by
                    obtain ⟨i, hi⟩ := List.getElem?_of_mem he'
                    obtain ⟨h1, h2⟩ := hget i e' hi
                    rw [h2]; exact hlenT i h1)
                  (fun hne => by
                    have h0 : 0 < len := by
                      rcases Nat.eq_zero_or_pos len with h0 | h0
                      · subst h0; exact absurd rfl hne
                      · exact h0
                    rw [hol]
                    have hc := (hcell (len - 1) (P.cellsOf e - 1) (by omega) (by omega)).1
                    have hl1 : (T (len - 1)).1.length = P.cellsOf e := (World.cells?_some (hT (len - 1) (by omega)).1).2.1
                    rw [List.getElem?_eq_getElem (by omega)] at hc
                    unfold World.cell? at hc
                    unfold allF
                    simp only at hc
                    split at hc
                    · simp only [Option.isSome_none, Bool.false_eq_true, if_false] at hc
                      have hlt := (Array.getElem?_eq_some_iff.1 hc).1
                      have hmul : (len - 1) * P.cellsOf e + P.cellsOf e = len * P.cellsOf e := by
                        obtain ⟨q, rfl⟩ : ∃ q, len = q + 1 := ⟨len - 1, by omega⟩
                        rw [Nat.add_sub_cancel, Nat.add_mul]; omega
                      rename_i he
                      rw [he]
                      simp only
                      omega
                    · cases hc)
                  (fun i e' j c' hi hj => by
                    obtain ⟨h1, rfl⟩ := hget i e' hi
                    have hj' := getElem?_lt hj
                    rw [hlenT i h1] at hj'
                    have hl1 : (T i).1.length = P.cellsOf e := (World.cells?_some (hT i h1).1).2.1
                    have hg : (T i).1[j]? = some ((T i).1.getD j undef) := by simp [List.getD, hl1, hj']
                    exact ⟨by rw [(hcell i j h1 hj').1, hg], (hT i h1).2.2.2 _ (List.mem_of_getElem? hg)⟩)
                  (fun i e' j c' hi hj => by
                    obtain ⟨h1, rfl⟩ := hget i e' hi
                    have hj' := getElem?_lt hj
                    rw [hlenT i h1] at hj'
                    have hl1 : (T i).1.length = P.cellsOf e := (World.cells?_some (hT i h1).1).2.1
                    have hg : (T i).1[j]? = some ((T i).1.getD j undef) := by simp [List.getD, hl1, hj']
                    exact (hT i h1).2.2.1.2 j c' _ hj hg)
                  (fun k hk => by cases hk)
                rw [hol] at hrep
                exact hrep
          · cases h
      | struct fs =>
        simp only at h
        cases hc : clF P (clOf P n) 0 fs.toList with
        | none => rw [hc] at h; cases h
        | some c =>
          rw [hc] at h
          simp only at h
          split at h
          · rename_i hsz
            simp only [Option.some.injEq] at h; subst h
            obtain ⟨xs, m, rfl, _, hl, hfl, hel⟩ := DataW.trod_struct ht hx
            have := open_fields (fuel := m) (cs := cs) B (clOf P n) (fun t cs x cls h1 h2 => open_cells B n m t cs x cls h1 h2) fs.toList 0 c hc (fun f hf => by
              obtain ⟨i, hi⟩ := List.getElem?_of_mem hf
              have hi' : fs[i]? = some f := by simpa using hi
              have := hel i f hi'
              have hlt : i < xs.length := by have := getElem?_lt hi; simp at this; omega
              exact ⟨_, by rw [this, List.getElem?_eq_getElem hlt]⟩)
            rw [List.drop_zero, hsz, ← hl, List.take_length] at this
            exact this
          · cases h
      | _ => simp only at h; cases h
/-- an argument that is no struct -/
theorem open_arg {t : TypeId} {v : Value} {d : DataW H} {ps : List MemPlace} {r : Reach} {b0 : Nat} (B n : Nat) {cl : Cl} (hc : clOf P n t = some [cl]) (hs : ∀ fs, P.underlying t ≠ some (.struct fs)) (hval : Value.okWide P w r b0 t v)
    (h : DataW.Trod enc P w base spare held t v d ps) : ∃ x, FitsL [cl] [x] ∧ Rep B w (allF w) [] [] [] (old x) v := by
  obtain ⟨fuel, h⟩ := h
  obtain ⟨trs, h1, h2, h3⟩ := open_cells B n fuel t _ _ _ hc h
  have hv : v.cells.toList = [v] := by
    cases v with
    | agg cs =>
      exfalso
      unfold Value.okWide at hval
      cases n with
      | zero => cases hc
      | succ n =>
        unfold clOf at hc
        cases hu : P.underlying t with
        | none => rw [hu] at hc; cases hc
        | some u =>
          rw [hu] at hc hval hs
          cases u <;> first | cases hc; done | exact absurd rfl (hs _) | (simp only [Cell.okWide, hu, Cell.ok] at hval)
    | _ => rfl
  rw [hv] at h2
  cases trs with
  | nil => exact absurd h1.length (by simp)
  | cons x xs =>
    cases xs with
    | cons _ _ => exact absurd h1.length (by simp)
    | nil => exact ⟨x, h1, (Both.cons.1 h2).1⟩
/-- an argument that is a struct -/
theorem open_argS {t : TypeId} {v : Value} {d : DataW H} {ps : List MemPlace} {r : Reach} {b0 : Nat} (B n : Nat) {cls : List Cl} (hc : clOf P n t = some cls) {fs : Array Field} (hs : P.underlying t = some (.struct fs)) (hval : Value.okWide P w r b0 t v)
    (h : DataW.Trod enc P w base spare held t v d ps) : ∃ xs, FitsL cls xs ∧ Rep B w (allF w) [] [] [] (old (.a xs)) v := by
  obtain ⟨fuel, h⟩ := h
  obtain ⟨trs, h1, h2, h3⟩ := open_cells B n fuel t _ _ _ hc h
  unfold Value.okWide at hval
  rw [hs] at hval
  obtain ⟨cs, rfl, _, _⟩ := hval
  refine ⟨trs, h1, ?_⟩
  have hg : ∀ i, i < cs.size → cs.toList[i]? = some (cs.getD i undef) := fun i hi => by simp [Array.getD, hi]
  have hl : (oldL trs).length = cs.size := by have := h2.1; simpa [Value.cells] using this
  exact .agg _ _ hl (fun i hi => h3 _ (List.mem_of_getElem? (hg i hi))) (fun i c hc => h2.2 i c _ hc (hg i (by have := getElem?_lt hc; omega)))
end
end Abs
end Go.Proofs.Ytfnejdkkhpjhmaa
namespace Go.Proofs.Ytfnejdkkhpjhmaa
open Abs Go.RowKit Go.Sort Go.Lib Go.Shelf
theorem flatK_toList {α : Type} [Inhabited α] (enc : α → List Value) (k : Nat) (hk : ∀ x, (enc x).length = k) (d : Array α) : (flatK enc k d).toList = (d.toList.map enc).flatten := by
  have hlen : ∀ c ∈ d.toList.map enc, c.length = k := fun c hc => by obtain ⟨a, _, rfl⟩ := List.mem_map.1 hc; exact hk a
  apply List.ext_getElem?
  intro i
  by_cases hi : i < d.size * k
  · have hk0 : 0 < k := by rcases Nat.eq_zero_or_pos k with h | h
                           · rw [h] at hi; simp at hi
                           · exact h
    have h1 : i / k < d.size := (Nat.div_lt_iff_lt_mul hk0).2 hi
    have h2 : i % k < k := Nat.mod_lt _ hk0
    have h3 : i = i / k * k + i % k := by rw [Nat.mul_comm]; exact (Nat.div_add_mod _ _).symm
    have h4 : (d.toList.map enc)[i / k]? = some (enc d[i / k]!) := by
      rw [List.getElem?_map, Array.getElem?_toList, Array.getElem?_eq_getElem h1, getElem!_pos d _ h1]; rfl
    have h5 : (enc d[i / k]!)[i % k]? = some ((enc d[i / k]!)[i % k]!) := by
      have : i % k < (enc d[i / k]!).length := by rw [hk]; exact h2
      rw [List.getElem?_eq_getElem this, getElem!_pos (enc d[i / k]!) _ this]
    have h6 := flatten_get k _ _ _ _ _ hlen h4 h5
    rw [← h3] at h6
    rw [h6, Array.getElem?_toList]
    have h7 : i < (flatK enc k d).size := by rw [size_flatK]; exact hi
    rw [Array.getElem?_eq_getElem h7, ← getElem!_pos (flatK enc k d) _ h7, get_flatK _ _ _ _ hi]
  · have a1 : (flatK enc k d).toList[i]? = none := List.getElem?_eq_none (by simp; omega)
    have a2 : (d.toList.map enc).flatten[i]? = none := List.getElem?_eq_none (by rw [length_flatten' k _ hlen, List.length_map]; simp; omega)
    rw [a1, a2]
theorem both_flat {ι : Type} {R : AV → Value → Prop} (f : ι → List AV) (g : ι → List Value) : ∀ l : List ι, (∀ i ∈ l, Both R (f i) (g i)) → Both R (l.map f).flatten (l.map g).flatten
  | [], _ => ⟨rfl, fun i x u h => by simp at h⟩
  | i :: l, h => by
    rw [List.map_cons, List.map_cons, List.flatten_cons, List.flatten_cons]
    exact Both.app (h i (by simp)) (both_flat f g l fun k hk => h k (by simp [hk]))
end Go.Proofs.Ytfnejdkkhpjhmaa
namespace Go.Proofs.Ytfnejdkkhpjhmaa
open Abs Go.RowKit Go.Sort Go.Lib Go.Shelf
/-- A reversal of structs, as a call that works in the caller's own boxes: what the row's elements own goes with them. 'hS', 'hE': the library's contract, at elements and at none. -/
theorem rev_ins {P : Program} {fS : Nat} (K t : Nat) (hokS : okFn P fS = true)
    (b : List ABox) (fr0 : Fr) (j : Nat) (es : List (List AV)) (hj : b[j]? = some (.cells (.row t K) es.flatten)) (hs : ∀ e ∈ es, e.length = K)
    (hS : ∀ (ι : Type) (_ : Inhabited ι) (enc : ι → List Value) (blk cap : Nat) (d : Array ι) (w : World), (∀ x, (enc x).length = K) → (∀ x, ∀ v ∈ enc x, v.oneCell' = true) → d.size = es.length →
      HoldsK enc K w blk 0 d → Calls P fS #[.slice (some ⟨blk, 0, none⟩) d.size cap] w fun e w' => e = .returned (.tuple #[]) ∧ ∃ n, w' = putRowK enc K (Sort.ahead w n) blk 0 d.reverse)
    (hE : ∀ (a : Option Addr) (cap : Nat) (w : World), Calls P fS #[.slice a 0 cap] w fun e w' => e = .returned (.tuple #[]) ∧ w' = w) :
    Abs.Ins true P fS b fr0 [.bsl j es.length] (fun r b1 f1 => r = .tup [] ∧ b1 = b.set j (.cells (.row t K) es.reverse.flatten) ∧ f1 = fr0) := by
  rw [Ins_eq]
  refine ⟨hokS, fun w0 F0 box0 U g w vs hsim _ hargs => ?_⟩
  have hB := hsim.boxrep
  obtain ⟨v0, rfl⟩ : ∃ v0, vs = #[v0] := by
    have := hargs.1
    match vs, this with
    | ⟨[a]⟩, _ => exact ⟨a, rfl⟩
  obtain ⟨h0', _⟩ := Both.cons.1 hargs
  rcases Nat.eq_zero_or_pos es.length with h0 | h0
  · have he : es = [] := List.eq_nil_of_length_eq_zero h0
    obtain ⟨a, cap, hv⟩ : ∃ a cap, v0 = .slice a 0 cap := by
      rcases h0'.bsl_inv with ⟨bl, cap, _, _, rfl⟩ | ⟨_, _, rfl⟩
      · exact ⟨_, cap, by rw [h0]⟩
      · exact ⟨_, 0, rfl⟩
    subst hv
    have hset : b.set j (.cells (.row t K) es.reverse.flatten) = b := by
      apply List.ext_getElem?
      intro i
      rw [List.getElem?_set]
      split
      · rename_i h; subst h; rw [if_pos (getElem?_lt hj), hj, he]; rfl
      · rfl
    refine (hE a cap w).mono ?_
    rintro e w' ⟨rfl, rfl⟩
    exact ⟨_, g, .tup [], b, fr0, ⟨rfl, hset.symm, rfl⟩, rfl, hsim, .tup [] #[] rfl (by simp)⟩
  rcases h0'.bsl_inv with ⟨bl, cap, hb, hcap, rfl⟩ | ⟨hb, hz, rfl⟩
  rotate_left
  · omega
  obtain ⟨c, t', hh, hle, hr, rfl, hcs, hcm⟩ := hB j _ _ hb hj
  have hfl := length_flatten' K es hs
  -- elements by their places
  have hine : ∀ i : Fin es.length, ∃ e, es[i.val]? = some e ∧ e.length = K := fun i => ⟨_, List.getElem?_eq_getElem i.2, hs _ (List.getElem_mem _)⟩
  obtain ⟨enc, henc⟩ : ∃ enc : Fin es.length → List Value, enc = fun i => (List.range K).map fun q => c.getD (i.val * K + q) undef := ⟨_, rfl⟩
  have hk : ∀ i, (enc i).length = K := fun i => by rw [henc]; simp
  have hcell : ∀ (i : Fin es.length) e (q : Nat) x, es[i.val]? = some e → e[q]? = some x → Rep w0.heap.size w g.F g.tok fr0 g.box x (c.getD (i.val * K + q) undef) ∧ (c.getD (i.val * K + q) undef).oneCell' = true := fun i e q x he hq =>
    hr _ x (flatten_get K es i.val q e x hs he hq)
  have hboth : ∀ i : Fin es.length, Both (Rep w0.heap.size w g.F g.tok fr0 g.box) (es.getD i.val []) (enc i) := fun i => by
    obtain ⟨e, he, hel⟩ := hine i
    have e1 : es.getD i.val [] = e := by rw [List.getD_eq_getElem?_getD, he]; rfl
    rw [e1]
    refine ⟨by rw [hel, hk], fun q x u hx hu => ?_⟩
    have hq : q < K := by rw [← hel]; exact getElem?_lt hx
    rw [henc] at hu
    simp only [List.getElem?_map, List.getElem?_range hq, Option.map_some, Option.some.injEq] at hu
    subst hu
    exact (hcell i e q x he hx).1
  have hone : ∀ i, ∀ v ∈ enc i, v.oneCell' = true := fun i v hv' => by
    obtain ⟨e, he, hel⟩ := hine i
    rw [henc] at hv'
    obtain ⟨q, hq, rfl⟩ := List.mem_map.1 hv'
    have hq := List.mem_range.1 hq
    exact (hcell i e q _ he (List.getElem?_eq_getElem (by rw [hel]; exact hq))).2
  haveI hinh : Inhabited (Fin es.length) := ⟨⟨0, h0⟩⟩
  have hworld : ∀ (m : Nat) (dk : Array (Fin es.length)), dk.size = es.length →
      (∀ k, k ≠ bl → (putRowK enc K (Sort.ahead w m) bl 0 dk).heap[k]? = w.heap[k]?) ∧ w.heap.size ≤ (putRowK enc K (Sort.ahead w m) bl 0 dk).heap.size ∧
      ((∀ y v, Rep w0.heap.size w g.F g.tok fr0 g.box y v → Rep w0.heap.size (putRowK enc K (Sort.ahead w m) bl 0 dk) g.F g.tok fr0 g.box y v) → BoxOk w0.heap.size (putRowK enc K (Sort.ahead w m) bl 0 dk) g.F g.tok fr0 g.box (.blk bl cap) (.cells (.row t' K) (dk.toList.map fun i => es.getD i.val []).flatten)) := fun m dk hdk => by
    have hk1 : ∀ k, k ≠ bl → (putRowK enc K (Sort.ahead w m) bl 0 dk).heap[k]? = w.heap[k]? := fun k hkb => by
      unfold putRowK
      rw [heap_putRow_other _ _ _ _ _ _ hkb]; rfl
    have hsz : w.heap.size ≤ (putRowK enc K (Sort.ahead w m) bl 0 dk).heap.size := by
      unfold putRowK; simp [putRow, mapBlock, Sort.ahead]
    have hh' : (putRowK enc K (Sort.ahead w m) bl 0 dk).heap[bl]? = some (.cells (putCells id 0 (flatK enc K dk) c) t' (0, 0)) := by
      unfold putRowK
      exact heap_putRow id (Sort.ahead w m) bl 0 (flatK enc K dk) c _ (0, 0) hh
    refine ⟨hk1, hsz, fun later => ?_⟩
    have hvl : (dk.toList.map enc).flatten.length = es.length * K := by
      rw [length_flatten' K _ (fun c hc => by obtain ⟨a, _, rfl⟩ := List.mem_map.1 hc; exact hk a), List.length_map]; simp [hdk]
    have hnc : es.length * K ≤ c.size := by rw [hcs]; exact Nat.mul_le_mul_right K hcap
    refine boxOk_row (c := putCells id 0 (flatK enc K dk) c) (vals := (dk.toList.map enc).flatten) (rest := c.toList.drop (es.length * K)) hh' ?_ (both_flat _ _ _ fun i _ => ?_) (fun u hu => ?_) ?_ hcm
    · rw [putCells_zero _ _ _ (by rw [size_flatK, hdk]; exact hnc), List.map_id_fun, id, flatK_toList enc K hk, size_flatK, hdk]
    · have := hboth i
      exact ⟨this.1, fun q x u hx hu => later x u (this.2 q x u hx hu)⟩
    · obtain ⟨l, hl', hu⟩ := List.mem_flatten.1 hu
      obtain ⟨i, _, rfl⟩ := List.mem_map.1 hl'
      exact hone i u hu
    · rw [List.length_append, hvl, List.length_drop]; simp; omega
  obtain ⟨d, hd⟩ : ∃ d : Array (Fin es.length), d = Array.ofFn id := ⟨_, rfl⟩
  have hds : d.size = es.length := by rw [hd]; simp
  have hH : HoldsK enc K w bl 0 d := by
    intro q hq
    rw [size_flatK, hds] at hq
    have hq1 : q < (flatK enc K d).size := by rw [size_flatK, hds]; exact hq
    have hKp : 0 < K := by rcases Nat.eq_zero_or_pos K with h | h
                           · rw [h] at hq; simp at hq
                           · exact h
    have h1 : q / K < es.length := (Nat.div_lt_iff_lt_mul hKp).2 hq
    have h2 : q % K < K := Nat.mod_lt _ hKp
    have h3 : q / K * K + q % K = q := by rw [Nat.mul_comm]; exact Nat.div_add_mod _ _
    have hqc : q < c.size := by rw [hcs]; exact Nat.lt_of_lt_of_le hq (Nat.mul_le_mul_right K hcap)
    have e1 : (flatK enc K d)[q]! = c.getD q undef := by
      rw [get_flatK _ _ _ _ (by rw [hds]; exact hq)]
      have e2 : d[q / K]! = ⟨q / K, h1⟩ := by
        rw [getElem!_pos d _ (by rw [hds]; exact h1)]
        subst hd; simp
      rw [e2, henc]
      rw [getElem!_pos _ _ (by simpa using h2)]
      simp [h3]
    rw [e1, Nat.zero_add]
    refine ⟨by rw [cell_of_row w bl q c t' (0, 0) hh]; simp [Array.getD, hqc], ?_⟩
    simp [World.frozen?, hh]
  have hcall := hS (Fin es.length) hinh enc bl cap d w hk hone hds hH
  rw [hds] at hcall
  refine hcall.mono ?_
  rintro e w' ⟨rfl, m, rfl⟩
  obtain ⟨hk1, hsz, hbox⟩ := hworld m d.reverse (by rw [Array.size_reverse]; exact hds)
  have hrev : (d.reverse.toList.map fun i => es.getD i.val []) = es.reverse := by
    rw [Array.toList_reverse, List.map_reverse]
    congr 1
    apply List.ext_getElem
    · simp [hds]
    · intro i a1 a2
      subst hd
      simp [List.getElem?_eq_getElem a2]
  rw [hrev] at hbox
  have hlive : live b j := fun h => by rw [hj] at h; cases h
  have S := hsim.turnBox hb hlive (w' := putRowK enc K (Sort.ahead w m) bl 0 d.reverse) (x := .cells (.row t' K) es.reverse.flatten) (hxd := by simp) ⟨by unfold putRowK; simp [putRow, mapBlock, Sort.ahead], rfl, rfl, rfl, by unfold putRowK; simp [putRow, mapBlock, Sort.ahead], hk1⟩ hbox
  exact ⟨_, g, .tup [], _, fr0, ⟨rfl, rfl, rfl⟩, rfl, S, .tup [] #[] rfl (by simp)⟩
end Go.Proofs.Ytfnejdkkhpjhmaa
namespace Go.Proofs
open Go.RowKit Go.Shelf
def Try.revC_ren : Go.Shelf.Ren := ⟨fun | 35 => 57 | n => n, fun | 22 => 39 | 23 => 83 | 3 => 3 | 4 => 4 | 0 => 0 | n => n, fun | n => n⟩
theorem Try.revC : Go.Proofs.SlLaysE0.n35 Try.prog Try.revC_ren := {
  mixed := by kernel_rfl
  f35 := ⟨Try.f57.name, by decide, Try.func57.trans (congrArg some (by kernel_rfl))⟩
  t0 := Try.underlying0
  a0 := Try.isAgg0
  z0 := Try.sizeOf0
  v0 := Try.zeroValue0
  t3 := Try.underlying3
  a3 := Try.isAgg3
  z3 := Try.sizeOf3
  v3 := Try.zeroValue3
  t4 := Try.underlying4
  a4 := Try.isAgg4
  z4 := Try.sizeOf4
  v4 := Try.zeroValue4
  t22 := Try.underlying39
  a22 := Try.isAgg39
  z22 := Try.sizeOf39
  v22 := Try.zeroValue39 }
end Go.Proofs
