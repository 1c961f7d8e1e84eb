/-
  What stands below some laws' proofs, part 2: contracts of functions, by an evaluator.
-/
import Derived.Test.YtfnejdkkhpjhmaaGreatDoorZA1
namespace Go.Proofs.YtfnejdkkhpjhmaaGreatDoor
open Abs
abbrev VToken := List Fct × List VPair
instance : DecidableEq VToken := instDecidableEqProd
def tToken : Ty VToken := Ty.pair tFcts tPairs
theorem tToken_size (a : VToken) : tToken.size a = tFcts.size a.1 + tPairs.size a.2 := rfl
def tTokens : Ty (List VToken) := Ty.list 64 tToken
theorem tTokens_sz (l : List VToken) : tTokens.size l = l.length + listSize tToken l := rfl
theorem tToken_get {l : List VToken} {i : Nat} (hi : i < l.length) : l[i]? = some (l.getD i default) := by simp [List.getD, hi]
theorem Abs.ACall.mk_Token {C : Con} {lend : Bool} {f : Nat} {vs : List AV} {b : List ABox} {fr : Fr} {k : AV → List ABox → Fr → Prop} (ys : List AV) (a : VToken) (h : C.ret f ys (.agg (tToken.tk a 0)) (tToken.fr a)) (hv : SeesL Sees0 vs ys)
    (hk : k (.agg (tToken.tk a fr.length)) b (fr ++ tToken.fr a)) : ACall C lend f vs b fr k := ACall.mkA tToken ys a h hv hk
theorem Abs.ACall.mk_TokenS {C : Con} {lend : Bool} {f : Nat} {vs : List AV} {b : List ABox} {fr : Fr} {k : AV → List ABox → Fr → Prop} (ys : List AV) (l : List VToken) (h : C.ret f ys (.list (some (0 + (frs tToken l).length)) (tks tToken l 0)) (tTokens.fr l)) (hv : SeesL Sees0 vs ys)
    (hk : k (.list (some (fr.length + (frs tToken l).length)) (tks tToken l fr.length)) b (fr ++ tTokens.fr l)) : ACall C lend f vs b fr k :=
  ACall.mkV tTokens ys l (fun n => .list (some (n + (frs tToken l).length)) (tks tToken l n)) (fun _ => rfl) h hv hk
theorem toToken.ret (a : VToken) (h : tToken.size a ≤ 1048576) : toToken.Ret [.agg (oldL (tToken.q a))] (.agg (tToken.tk a 0)) (tToken.fr a) := by
  refine toToken.of rfl ?_
  rw [tToken_size] at h
  repeat' first
    | contradiction | exact trivial
    | (conv => whnf
       first | refine Need.mk (fun h => h) ?_ | refine Need.mk rfl ?_ | refine Need.mk ⟨rfl, Nat.le_of_ble_eq_true rfl⟩ ?_ | refine Need.mk (Nat.le_of_ble_eq_true rfl) ?_ | refine Need.fin ?_ | refine Need.mk ?_ ?_ | refine Ix.strsF rfl ?_ | refine Ix.strs rfl ?_ ?_ | refine Cut.strs rfl ?_ ?_ | refine Ix.mapF (fun _ => rfl) ?_ | refine Ix.map (fun _ => rfl) ?_ ?_ | refine Cut.map (fun _ => rfl) ?_ ?_ | refine Fork.yes (by assumption) ?_ | refine Fork.no (by assumption) ?_ | refine Fork.decYes (by omega) ?_ | refine Fork.decNo (by omega) ?_ | refine Fork.dec (fun _ => ?_) (fun _ => ?_) | refine Fork.bne (fun _ => ?_) (fun _ => ?_) | refine Fork.beq (fun _ => ?_) (fun _ => ?_) | refine Fork.seq (fun _ => ?_) (fun _ => ?_) | refine Fork.sne (fun _ => ?_) (fun _ => ?_) | refine Fork.neg (fun _ => ?_) (fun _ => ?_) | refine Fork.mk (fun _ => ?_) (fun _ => ?_) | refine HAlt.mk ?_ ?_ | apply HJoin.mk3 | exact HEnd.mk rfl rfl rfl | refine HEnd.mk ?_ ?_ ?_ | refine Round.mk ?_ | refine NilQ.mk (fun b hb => ?_) | refine forceK_of ?_ | refine forceBx_of ?_ | refine unG_old ?_ | refine unG_gv ?_ | refine Lit.read rfl ?_ | refine FinVal.keep ?_ | refine FinAgg.keep ?_ | refine Final.mk rfl rfl | refine Final.mk ?_ rfl | refine Final.mk ?_ ?_ | refine FinalT.mk ?_ ?_ | refine FinalI.mk ?_ | refine FinalC.allA ?_ | refine ACall.mk_FactS _ _ (toFactS.ret _ ?_) (by repeat' first | exact SeesL.nil | refine SeesL.cons ?_ ?_ | exact SeesB.of0 (Sees0.val _) | exact SeesB.of0 (Sees0.str _) | exact SeesB.of0 (Sees0.olds _ _) | exact SeesB.of0 (Sees0.old _) | exact SeesB.of0 (Sees0.oldagg _) | exact SeesB.of0 Sees0.nil | exact Sees0.val _ | exact Sees0.str _ | exact Sees0.olds _ _ | exact Sees0.old _ | exact Sees0.oldagg _ | exact Sees0.nil | exact SeesB.of0 (Sees0.any _) | assumption | exact sees_gv _ _ _ (by assumption) (by first | assumption | exact BoxIn.last _ _ | exact BoxIn.more (BoxIn.last _ _) _) | refine SeesB.agg ?_ | refine Sees0.agg ?_ | exact SeesB.of0 (Sees0.clo SeesL.nil SeesL.nil) | exact Sees0.clo SeesL.nil SeesL.nil | exact SeesB.of0 (Sees0.list rfl) | exact Sees0.list rfl) ?_ | refine ACall.mk_PairS _ _ (toPairS.ret _ ?_) (by repeat' first | exact SeesL.nil | refine SeesL.cons ?_ ?_ | exact SeesB.of0 (Sees0.val _) | exact SeesB.of0 (Sees0.str _) | exact SeesB.of0 (Sees0.olds _ _) | exact SeesB.of0 (Sees0.old _) | exact SeesB.of0 (Sees0.oldagg _) | exact SeesB.of0 Sees0.nil | exact Sees0.val _ | exact Sees0.str _ | exact Sees0.olds _ _ | exact Sees0.old _ | exact Sees0.oldagg _ | exact Sees0.nil | exact SeesB.of0 (Sees0.any _) | assumption | exact sees_gv _ _ _ (by assumption) (by first | assumption | exact BoxIn.last _ _ | exact BoxIn.more (BoxIn.last _ _) _) | refine SeesB.agg ?_ | refine Sees0.agg ?_ | exact SeesB.of0 (Sees0.clo SeesL.nil SeesL.nil) | exact Sees0.clo SeesL.nil SeesL.nil | exact SeesB.of0 (Sees0.list rfl) | exact Sees0.list rfl) ?_)
    | refine AV.bool_congr ?_ | refine AV.int_congr ?_ | refine AV.str_congr ?_ | refine AV.list_congr ?_ | with_reducible rfl | refine fr1 ?_ | refine fr2 ?_ ?_
  all_goals first
    | omega
    | (refine congrArg AV.agg ?_
       repeat' first
         | refine cons_congr ?_ ?_
         | refine tok_congr ?_ ?_
         | refine congrArg (tks _ _) ?_
         | rfl
       all_goals (simp [Ty.pair, Ty.str, Ty.int, Ty.bool, Nat.add_assoc, Ty.plain, tPairs]; done))
    | (simp [tToken, Ty.pair, Ty.str, Ty.int, Ty.bool, List.append_assoc, Nat.add_assoc, Ty.plain, tPairs]; done)
theorem szToken.ret (f : VToken) (a : Int) (h0 : 0 ≤ a) (ha : a ≤ 1048576) (hb : tToken.bd f) :
    szToken.Ret [.agg (oldL (tToken.q f)), .val (.int .i64 a)] (.val (.int .i64 (left a (tToken.size f)))) [] := by
  refine szToken.of rfl ?_
  have hz := tToken_size f
  obtain ⟨hb0, hb1⟩ := hb
  by_cases c1 : a < (tFcts.size f.1 : Int)
  · have e0 : left a (tFcts.size f.1) = -1 := by rw [left, if_pos (by omega)]
    repeat' first
      | contradiction | exact trivial
      | (conv => whnf
         first | refine Need.mk (fun h => h) ?_ | refine Need.mk rfl ?_ | refine Need.mk ⟨rfl, Nat.le_of_ble_eq_true rfl⟩ ?_ | refine Need.mk (Nat.le_of_ble_eq_true rfl) ?_ | refine Need.fin ?_ | refine Need.mk ?_ ?_ | refine Ix.strsF rfl ?_ | refine Ix.strs rfl ?_ ?_ | refine Cut.strs rfl ?_ ?_ | refine Ix.mapF (fun _ => rfl) ?_ | refine Ix.map (fun _ => rfl) ?_ ?_ | refine Cut.map (fun _ => rfl) ?_ ?_ | refine Fork.yes (by assumption) ?_ | refine Fork.no (by assumption) ?_ | refine Fork.decYes (by omega) ?_ | refine Fork.decNo (by omega) ?_ | refine Fork.dec (fun _ => ?_) (fun _ => ?_) | refine Fork.bne (fun _ => ?_) (fun _ => ?_) | refine Fork.beq (fun _ => ?_) (fun _ => ?_) | refine Fork.seq (fun _ => ?_) (fun _ => ?_) | refine Fork.sne (fun _ => ?_) (fun _ => ?_) | refine Fork.neg (fun _ => ?_) (fun _ => ?_) | refine Fork.mk (fun _ => ?_) (fun _ => ?_) | refine HAlt.mk ?_ ?_ | apply HJoin.mk3 | exact HEnd.mk rfl rfl rfl | refine HEnd.mk ?_ ?_ ?_ | refine Round.mk ?_ | refine NilQ.mk (fun b hb => ?_) | refine forceK_of ?_ | refine forceBx_of ?_ | refine unG_old ?_ | refine unG_gv ?_ | refine Lit.read rfl ?_ | refine FinVal.keep ?_ | refine FinAgg.keep ?_ | refine Final.mk rfl rfl | refine Final.mk ?_ rfl | refine Final.mk ?_ ?_ | refine FinalT.mk ?_ ?_ | refine FinalI.mk ?_ | refine FinalC.allA ?_ | refine ACall.scalA _ _ (szFactS.ret _ _ ?_ ?_ ?_) rfl ?_ | refine AQCall.mkA _ _ (fun hg => szFactS.ret _ _ ?_ ?_ ?_) rfl ?_ | refine AGCall.mkA _ _ (fun hg => szFactS.ret _ _ ?_ ?_ ?_) rfl ?_ | refine ACall.scalA _ _ (szPairS.ret _ _ ?_ ?_ ?_) rfl ?_ | refine AQCall.mkA _ _ (fun hg => szPairS.ret _ _ ?_ ?_ ?_) rfl ?_ | refine AGCall.mkA _ _ (fun hg => szPairS.ret _ _ ?_ ?_ ?_) rfl ?_)
      | refine AV.bool_congr ?_ | refine AV.int_congr ?_ | refine AV.str_congr ?_ | refine AV.list_congr ?_ | with_reducible rfl | refine fr1 ?_ | refine fr2 ?_ ?_
    all_goals first
      | assumption
      | omega
      | exact left_eq (by omega)
  by_cases c2 : a < (tFcts.size f.1 : Int) + (tPairs.size f.2 : Int)
  · have e0 : left a (tFcts.size f.1) = a - (tFcts.size f.1 : Int) := by rw [left, if_neg (by omega)]
    have e1 : left (left a (tFcts.size f.1)) (tPairs.size f.2) = -1 := by rw [e0, left, if_pos (by omega)]
    repeat' first
      | contradiction | exact trivial
      | (conv => whnf
         first | refine Need.mk (fun h => h) ?_ | refine Need.mk rfl ?_ | refine Need.mk ⟨rfl, Nat.le_of_ble_eq_true rfl⟩ ?_ | refine Need.mk (Nat.le_of_ble_eq_true rfl) ?_ | refine Need.fin ?_ | refine Need.mk ?_ ?_ | refine Ix.strsF rfl ?_ | refine Ix.strs rfl ?_ ?_ | refine Cut.strs rfl ?_ ?_ | refine Ix.mapF (fun _ => rfl) ?_ | refine Ix.map (fun _ => rfl) ?_ ?_ | refine Cut.map (fun _ => rfl) ?_ ?_ | refine Fork.yes (by assumption) ?_ | refine Fork.no (by assumption) ?_ | refine Fork.decYes (by omega) ?_ | refine Fork.decNo (by omega) ?_ | refine Fork.dec (fun _ => ?_) (fun _ => ?_) | refine Fork.bne (fun _ => ?_) (fun _ => ?_) | refine Fork.beq (fun _ => ?_) (fun _ => ?_) | refine Fork.seq (fun _ => ?_) (fun _ => ?_) | refine Fork.sne (fun _ => ?_) (fun _ => ?_) | refine Fork.neg (fun _ => ?_) (fun _ => ?_) | refine Fork.mk (fun _ => ?_) (fun _ => ?_) | refine HAlt.mk ?_ ?_ | apply HJoin.mk3 | exact HEnd.mk rfl rfl rfl | refine HEnd.mk ?_ ?_ ?_ | refine Round.mk ?_ | refine NilQ.mk (fun b hb => ?_) | refine forceK_of ?_ | refine forceBx_of ?_ | refine unG_old ?_ | refine unG_gv ?_ | refine Lit.read rfl ?_ | refine FinVal.keep ?_ | refine FinAgg.keep ?_ | refine Final.mk rfl rfl | refine Final.mk ?_ rfl | refine Final.mk ?_ ?_ | refine FinalT.mk ?_ ?_ | refine FinalI.mk ?_ | refine FinalC.allA ?_ | refine ACall.scalA _ _ (szFactS.ret _ _ ?_ ?_ ?_) rfl ?_ | refine AQCall.mkA _ _ (fun hg => szFactS.ret _ _ ?_ ?_ ?_) rfl ?_ | refine AGCall.mkA _ _ (fun hg => szFactS.ret _ _ ?_ ?_ ?_) rfl ?_ | refine ACall.scalA _ _ (szPairS.ret _ _ ?_ ?_ ?_) rfl ?_ | refine AQCall.mkA _ _ (fun hg => szPairS.ret _ _ ?_ ?_ ?_) rfl ?_ | refine AGCall.mkA _ _ (fun hg => szPairS.ret _ _ ?_ ?_ ?_) rfl ?_)
      | refine AV.bool_congr ?_ | refine AV.int_congr ?_ | refine AV.str_congr ?_ | refine AV.list_congr ?_ | with_reducible rfl | refine fr1 ?_ | refine fr2 ?_ ?_
    all_goals first
      | assumption
      | omega
      | exact left_eq (by omega)
  have e0 : left a (tFcts.size f.1) = a - (tFcts.size f.1 : Int) := by rw [left, if_neg (by omega)]
  have e1 : left (left a (tFcts.size f.1)) (tPairs.size f.2) = a - (tFcts.size f.1 : Int) - (tPairs.size f.2 : Int) := by rw [e0, left, if_neg (by omega)]
  repeat' first
    | contradiction | exact trivial
    | (conv => whnf
       first | refine Need.mk (fun h => h) ?_ | refine Need.mk rfl ?_ | refine Need.mk ⟨rfl, Nat.le_of_ble_eq_true rfl⟩ ?_ | refine Need.mk (Nat.le_of_ble_eq_true rfl) ?_ | refine Need.fin ?_ | refine Need.mk ?_ ?_ | refine Ix.strsF rfl ?_ | refine Ix.strs rfl ?_ ?_ | refine Cut.strs rfl ?_ ?_ | refine Ix.mapF (fun _ => rfl) ?_ | refine Ix.map (fun _ => rfl) ?_ ?_ | refine Cut.map (fun _ => rfl) ?_ ?_ | refine Fork.yes (by assumption) ?_ | refine Fork.no (by assumption) ?_ | refine Fork.decYes (by omega) ?_ | refine Fork.decNo (by omega) ?_ | refine Fork.dec (fun _ => ?_) (fun _ => ?_) | refine Fork.bne (fun _ => ?_) (fun _ => ?_) | refine Fork.beq (fun _ => ?_) (fun _ => ?_) | refine Fork.seq (fun _ => ?_) (fun _ => ?_) | refine Fork.sne (fun _ => ?_) (fun _ => ?_) | refine Fork.neg (fun _ => ?_) (fun _ => ?_) | refine Fork.mk (fun _ => ?_) (fun _ => ?_) | refine HAlt.mk ?_ ?_ | apply HJoin.mk3 | exact HEnd.mk rfl rfl rfl | refine HEnd.mk ?_ ?_ ?_ | refine Round.mk ?_ | refine NilQ.mk (fun b hb => ?_) | refine forceK_of ?_ | refine forceBx_of ?_ | refine unG_old ?_ | refine unG_gv ?_ | refine Lit.read rfl ?_ | refine FinVal.keep ?_ | refine FinAgg.keep ?_ | refine Final.mk rfl rfl | refine Final.mk ?_ rfl | refine Final.mk ?_ ?_ | refine FinalT.mk ?_ ?_ | refine FinalI.mk ?_ | refine FinalC.allA ?_ | refine ACall.scalA _ _ (szFactS.ret _ _ ?_ ?_ ?_) rfl ?_ | refine AQCall.mkA _ _ (fun hg => szFactS.ret _ _ ?_ ?_ ?_) rfl ?_ | refine AGCall.mkA _ _ (fun hg => szFactS.ret _ _ ?_ ?_ ?_) rfl ?_ | refine ACall.scalA _ _ (szPairS.ret _ _ ?_ ?_ ?_) rfl ?_ | refine AQCall.mkA _ _ (fun hg => szPairS.ret _ _ ?_ ?_ ?_) rfl ?_ | refine AGCall.mkA _ _ (fun hg => szPairS.ret _ _ ?_ ?_ ?_) rfl ?_)
    | refine AV.bool_congr ?_ | refine AV.int_congr ?_ | refine AV.str_congr ?_ | refine AV.list_congr ?_ | with_reducible rfl | refine fr1 ?_ | refine fr2 ?_ ?_
  all_goals first
    | assumption
    | omega
    | exact left_eq (by omega)
theorem eqToken.big (f g : VToken) (h : tToken.size f ≤ 1099511627775) : eqToken.Ret [.agg (oldL (tToken.q f)), .agg (oldL (tToken.q g))] (.val (.bool (decide (f = g)))) [] := by
  refine eqToken.of rfl ?_
  have hz := tToken_size f
  repeat' first
    | (conv => whnf
       first | refine Fork.neg (fun _ => ?_) (fun _ => ?_) | refine FinVal.keep ?_ | refine Final.mk ?_ rfl | refine ACall.scalA _ _ (eqFactS.big _ _ ?_) rfl ?_ | refine ACall.scalA _ _ (eqPairS.big _ _ ?_) rfl ?_)
    | refine AV.bool_congr ?_
  all_goals first
    | omega
    | (simp only [tStrs_size, tInts_size] at *; omega)
    | (obtain ⟨x0, x1⟩ := f; obtain ⟨y0, y1⟩ := g; simp_all)
theorem toTokenS.ret (l : List VToken) (h : tTokens.size l ≤ 1048576) : toTokenS.Ret [.list none (rows tToken l)] (.list (some (0 + (frs tToken l).length)) (tks tToken l 0)) (tTokens.fr l) := by
  refine toTokenS.of rfl ?_
  rw [tTokens_sz] at h
  repeat' first
    | contradiction | exact trivial
    | (conv => whnf
       first | refine Need.mk (fun h => h) ?_ | refine Need.mk rfl ?_ | refine Need.mk ⟨rfl, Nat.le_of_ble_eq_true rfl⟩ ?_ | refine Need.mk (Nat.le_of_ble_eq_true rfl) ?_ | refine Need.fin ?_ | refine Need.mk ?_ ?_ | refine Ix.strsF rfl ?_ | refine Ix.strs rfl ?_ ?_ | refine Cut.strs rfl ?_ ?_ | refine Ix.mapF (fun _ => rfl) ?_ | refine Ix.map (fun _ => rfl) ?_ ?_ | refine Cut.map (fun _ => rfl) ?_ ?_ | refine Fork.yes (by assumption) ?_ | refine Fork.no (by assumption) ?_ | refine Fork.decYes (by omega) ?_ | refine Fork.decNo (by omega) ?_ | refine Fork.dec (fun _ => ?_) (fun _ => ?_) | refine Fork.bne (fun _ => ?_) (fun _ => ?_) | refine Fork.beq (fun _ => ?_) (fun _ => ?_) | refine Fork.seq (fun _ => ?_) (fun _ => ?_) | refine Fork.sne (fun _ => ?_) (fun _ => ?_) | refine Fork.neg (fun _ => ?_) (fun _ => ?_) | refine Fork.mk (fun _ => ?_) (fun _ => ?_) | refine HAlt.mk ?_ ?_ | apply HJoin.mk3 | exact HEnd.mk rfl rfl rfl | refine HEnd.mk ?_ ?_ ?_ | refine Round.mk ?_ | refine NilQ.mk (fun b hb => ?_) | refine forceK_of ?_ | refine forceBx_of ?_ | refine unG_old ?_ | refine unG_gv ?_ | refine Lit.read rfl ?_ | refine FinVal.keep ?_ | refine FinAgg.keep ?_ | refine Final.mk rfl rfl | refine Final.mk ?_ rfl | refine Final.mk ?_ ?_ | refine FinalT.mk ?_ ?_ | refine FinalI.mk ?_ | refine FinalC.allA ?_)
    | refine AV.bool_congr ?_ | refine AV.int_congr ?_ | refine AV.str_congr ?_ | refine AV.list_congr ?_ | with_reducible rfl | refine fr1 ?_ | refine fr2 ?_ ?_
  refine ALoop.mk Nat (fun i => ⟨[(0, .list none (rows tToken l)), (3, .bsl 0 l.length), (4, .val (.int .i64 i))], [.cells (.row 64 2) (part [.val (.slice none 0 0), .val (.slice none 0 0)] (tks tToken l 0) i)], frs tToken (l.take i)⟩) (fun i => i ≤ l.length) (fun i => l.length - i) ⟨0, Nat.zero_le _, ?_⟩ (fun i hi => ?_)
  · repeat' first
      | exact trivial | refine Weak.mk ?_ ?_ ?_ ?_ (Or.inl (Nat.le_of_ble_eq_true rfl)) | refine Weak.mk ?_ ?_ ?_ ?_ (Or.inr ⟨(by repeat' first | exact trivial | exact Nat.le_of_ble_eq_true rfl | refine And.intro ?_ ?_), (by repeat' first | exact trivial | exact Nat.le_of_ble_eq_true rfl | refine And.intro ?_ ?_)⟩) | refine Weak.mk ?_ ?_ ?_ ?_ ?_ | refine And.intro ?_ ?_ | with_reducible rfl | exact Nat.le_of_ble_eq_true rfl | refine fr1 ?_ | refine fr2 ?_ ?_ | refine AV.int_congr ?_ | refine AV.bool_congr ?_ | refine AV.str_congr ?_ | refine AV.list_congr ?_ | refine AV.bsl_congr ?_ ?_ | (apply rfl)
    · simp
    · simp only [List.nil_append, List.length_cons, List.length_nil, List.take_succ_cons, List.take_zero]
      rw [part_made (xs := tks tToken l 0) (sz := 2) rfl (by decide) (by simp [length_tks])]; rfl
  repeat' first
    | contradiction | exact trivial
    | (conv => whnf
       first | refine Need.mk (fun h => h) ?_ | refine Need.mk rfl ?_ | refine Need.mk ⟨rfl, Nat.le_of_ble_eq_true rfl⟩ ?_ | refine Need.mk (Nat.le_of_ble_eq_true rfl) ?_ | refine Need.fin ?_ | refine Need.mk ?_ ?_ | refine Ix.strsF rfl ?_ | refine Ix.strs rfl ?_ ?_ | refine Cut.strs rfl ?_ ?_ | refine Ix.mapF (fun _ => rfl) ?_ | refine Ix.map (fun _ => rfl) ?_ ?_ | refine Cut.map (fun _ => rfl) ?_ ?_ | refine Fork.yes (by assumption) ?_ | refine Fork.no (by assumption) ?_ | refine Fork.decYes (by omega) ?_ | refine Fork.decNo (by omega) ?_ | refine Fork.dec (fun _ => ?_) (fun _ => ?_) | refine Fork.bne (fun _ => ?_) (fun _ => ?_) | refine Fork.beq (fun _ => ?_) (fun _ => ?_) | refine Fork.seq (fun _ => ?_) (fun _ => ?_) | refine Fork.sne (fun _ => ?_) (fun _ => ?_) | refine Fork.neg (fun _ => ?_) (fun _ => ?_) | refine Fork.mk (fun _ => ?_) (fun _ => ?_) | refine HAlt.mk ?_ ?_ | apply HJoin.mk3 | exact HEnd.mk rfl rfl rfl | refine HEnd.mk ?_ ?_ ?_ | refine Round.mk ?_ | refine NilQ.mk (fun b hb => ?_) | refine forceK_of ?_ | refine forceBx_of ?_ | refine unG_old ?_ | refine unG_gv ?_ | refine Lit.read rfl ?_ | refine FinVal.keep ?_ | refine FinAgg.keep ?_ | refine Final.mk rfl rfl | refine Final.mk ?_ rfl | refine Final.mk ?_ ?_ | refine FinalT.mk ?_ ?_ | refine FinalI.mk ?_ | refine FinalC.allA ?_ | refine ACall.mk_Token _ _ (toToken.ret _ ?_) (by repeat' first | exact SeesL.nil | refine SeesL.cons ?_ ?_ | exact SeesB.of0 (Sees0.val _) | exact SeesB.of0 (Sees0.str _) | exact SeesB.of0 (Sees0.olds _ _) | exact SeesB.of0 (Sees0.old _) | exact SeesB.of0 (Sees0.oldagg _) | exact SeesB.of0 Sees0.nil | exact Sees0.val _ | exact Sees0.str _ | exact Sees0.olds _ _ | exact Sees0.old _ | exact Sees0.oldagg _ | exact Sees0.nil | exact SeesB.of0 (Sees0.any _) | assumption | exact sees_gv _ _ _ (by assumption) (by first | assumption | exact BoxIn.last _ _ | exact BoxIn.more (BoxIn.last _ _) _) | refine SeesB.agg ?_ | refine Sees0.agg ?_ | exact SeesB.of0 (Sees0.clo SeesL.nil SeesL.nil) | exact Sees0.clo SeesL.nil SeesL.nil | exact SeesB.of0 (Sees0.list rfl) | exact Sees0.list rfl) ?_)
    | refine AV.bool_congr ?_ | refine AV.int_congr ?_ | refine AV.str_congr ?_ | refine AV.list_congr ?_ | with_reducible rfl | refine fr1 ?_ | refine fr2 ?_ ?_
  · rename_i h1
    rw [length_rows] at h1
    have := listSize_mem tToken (List.mem_of_getElem? (tToken_get (l := l) (i := i) (by omega)))
    rw [Int.toNat_natCast]; omega
  · rename_i h1
    rw [length_rows] at h1
    rw [part_len (sz := 2) rfl (tks_sz tToken l 0) (by rw [length_tks]; exact hi), Int.toNat_natCast, length_tks]
    exact ⟨rfl, by omega⟩
  · rename_i h1
    rw [length_rows] at h1
    refine ⟨i + 1, by omega, ?_, by omega⟩
    repeat' first
      | exact trivial | refine Weak.mk ?_ ?_ ?_ ?_ (Or.inl (Nat.le_of_ble_eq_true rfl)) | refine Weak.mk ?_ ?_ ?_ ?_ (Or.inr ⟨(by repeat' first | exact trivial | exact Nat.le_of_ble_eq_true rfl | refine And.intro ?_ ?_), (by repeat' first | exact trivial | exact Nat.le_of_ble_eq_true rfl | refine And.intro ?_ ?_)⟩) | refine Weak.mk ?_ ?_ ?_ ?_ ?_ | refine And.intro ?_ ?_ | with_reducible rfl | exact Nat.le_of_ble_eq_true rfl | refine fr1 ?_ | refine fr2 ?_ ?_ | refine AV.int_congr ?_ | refine AV.bool_congr ?_ | refine AV.str_congr ?_ | refine AV.list_congr ?_ | refine AV.bsl_congr ?_ ?_ | (apply rfl)
    · rw [wrap64 (by omega) (by omega)]; rfl
    · have := part_set (z := [.val (.slice none 0 0), .val (.slice none 0 0)]) (sz := 2) rfl (tks_sz tToken l 0) (tks_get tToken 0 (tToken_get (l := l) (i := i) (by omega)))
      rw [Nat.zero_add] at this
      simp only [List.set_cons_zero, List.take_succ_cons, List.take_zero, List.length_cons, List.length_nil, Int.toNat_natCast, this]
    · show frs tToken (l.take i) ++ tToken.fr (l.getD (i : Int).toNat default) = frs tToken (l.take (i + 1))
      rw [Int.toNat_natCast, take_succ' default (by omega), frs_append]; simp [frs]
  · rename_i h1
    rw [length_rows] at h1
    conv => whnf
    have : i = l.length := by omega
    subst this
    have hall := part_all [.val (.slice none 0 0), .val (.slice none 0 0)] (tks tToken l 0)
    rw [length_tks] at hall
    refine FreezeD.flat (Freeze.mk (tks tToken l 0) _ 64 2 rfl hall (length_tks _ _ _) (tks_sz tToken l 0) (fun c hc => ?_) ?_)
    · rw [hall] at hc; exact tks_nr tToken l 0 c hc
    · refine Final.mk ?_ ?_
      · rw [List.take_length, Nat.zero_add]
      · rw [List.take_length]; rfl
theorem szTokenS.ret (l : List VToken) (a : Int) (h0 : 0 ≤ a) (ha : a ≤ 1048576) (hb : tTokens.bd l) :
    szTokenS.Ret [.list none (rows tToken l), .val (.int .i64 a)] (.val (.int .i64 (left a (tTokens.size l)))) [] := by
  refine szTokenS.of rfl ?_
  obtain ⟨hl, hb⟩ := hb
  have hw : IntKind.i64.wrap (a - ((rows tToken l).length : Int)) = a - l.length := by rw [length_rows]; exact wrap64 (by omega) (by omega)
  have hz := tTokens_sz l
  repeat' first
    | contradiction | exact trivial
    | (conv => whnf
       first | refine Need.mk (fun h => h) ?_ | refine Need.mk rfl ?_ | refine Need.mk ⟨rfl, Nat.le_of_ble_eq_true rfl⟩ ?_ | refine Need.mk (Nat.le_of_ble_eq_true rfl) ?_ | refine Need.fin ?_ | refine Need.mk ?_ ?_ | refine Ix.strsF rfl ?_ | refine Ix.strs rfl ?_ ?_ | refine Cut.strs rfl ?_ ?_ | refine Ix.mapF (fun _ => rfl) ?_ | refine Ix.map (fun _ => rfl) ?_ ?_ | refine Cut.map (fun _ => rfl) ?_ ?_ | refine Fork.yes (by assumption) ?_ | refine Fork.no (by assumption) ?_ | refine Fork.decYes (by omega) ?_ | refine Fork.decNo (by omega) ?_ | refine Fork.dec (fun _ => ?_) (fun _ => ?_) | refine Fork.bne (fun _ => ?_) (fun _ => ?_) | refine Fork.beq (fun _ => ?_) (fun _ => ?_) | refine Fork.seq (fun _ => ?_) (fun _ => ?_) | refine Fork.sne (fun _ => ?_) (fun _ => ?_) | refine Fork.neg (fun _ => ?_) (fun _ => ?_) | refine Fork.mk (fun _ => ?_) (fun _ => ?_) | refine HAlt.mk ?_ ?_ | apply HJoin.mk3 | exact HEnd.mk rfl rfl rfl | refine HEnd.mk ?_ ?_ ?_ | refine Round.mk ?_ | refine NilQ.mk (fun b hb => ?_) | refine forceK_of ?_ | refine forceBx_of ?_ | refine unG_old ?_ | refine unG_gv ?_ | refine Lit.read rfl ?_ | refine FinVal.keep ?_ | refine FinAgg.keep ?_ | refine Final.mk rfl rfl | refine Final.mk ?_ rfl | refine Final.mk ?_ ?_ | refine FinalT.mk ?_ ?_ | refine FinalI.mk ?_ | refine FinalC.allA ?_)
    | refine AV.bool_congr ?_ | refine AV.int_congr ?_ | refine AV.str_congr ?_ | refine AV.list_congr ?_ | with_reducible rfl | refine fr1 ?_ | refine fr2 ?_ ?_
  · rename_i h
    rw [hw] at h
    rw [left, if_pos (by omega)]
  rename_i h
  rw [hw] at h
  repeat' first
    | contradiction | exact trivial
    | (conv => whnf
       first | refine Need.mk (fun h => h) ?_ | refine Need.mk rfl ?_ | refine Need.mk ⟨rfl, Nat.le_of_ble_eq_true rfl⟩ ?_ | refine Need.mk (Nat.le_of_ble_eq_true rfl) ?_ | refine Need.fin ?_ | refine Need.mk ?_ ?_ | refine Ix.strsF rfl ?_ | refine Ix.strs rfl ?_ ?_ | refine Cut.strs rfl ?_ ?_ | refine Ix.mapF (fun _ => rfl) ?_ | refine Ix.map (fun _ => rfl) ?_ ?_ | refine Cut.map (fun _ => rfl) ?_ ?_ | refine Fork.yes (by assumption) ?_ | refine Fork.no (by assumption) ?_ | refine Fork.decYes (by omega) ?_ | refine Fork.decNo (by omega) ?_ | refine Fork.dec (fun _ => ?_) (fun _ => ?_) | refine Fork.bne (fun _ => ?_) (fun _ => ?_) | refine Fork.beq (fun _ => ?_) (fun _ => ?_) | refine Fork.seq (fun _ => ?_) (fun _ => ?_) | refine Fork.sne (fun _ => ?_) (fun _ => ?_) | refine Fork.neg (fun _ => ?_) (fun _ => ?_) | refine Fork.mk (fun _ => ?_) (fun _ => ?_) | refine HAlt.mk ?_ ?_ | apply HJoin.mk3 | exact HEnd.mk rfl rfl rfl | refine HEnd.mk ?_ ?_ ?_ | refine Round.mk ?_ | refine NilQ.mk (fun b hb => ?_) | refine forceK_of ?_ | refine forceBx_of ?_ | refine unG_old ?_ | refine unG_gv ?_ | refine Lit.read rfl ?_ | refine FinVal.keep ?_ | refine FinAgg.keep ?_ | refine Final.mk rfl rfl | refine Final.mk ?_ rfl | refine Final.mk ?_ ?_ | refine FinalT.mk ?_ ?_ | refine FinalI.mk ?_ | refine FinalC.allA ?_)
    | refine AV.bool_congr ?_ | refine AV.int_congr ?_ | refine AV.str_congr ?_ | refine AV.list_congr ?_ | with_reducible rfl | refine fr1 ?_ | refine fr2 ?_ ?_
  refine ALoop.mk Nat (fun i => ⟨[(0, .list none (rows tToken l)), (1, .val (.int .i64 (a - l.length - listSize tToken (l.take i)))), (5, .val (.int .i64 i))], [], []⟩) (fun i => i ≤ l.length ∧ (0 : Int) ≤ a - l.length - listSize tToken (l.take i)) (fun i => l.length - i) ⟨0, ⟨Nat.zero_le _, by simp [listSize]; omega⟩, ?_⟩ (fun i hi => ?_)
  · repeat' first
      | exact trivial | refine Weak.mk ?_ ?_ ?_ ?_ (Or.inl (Nat.le_of_ble_eq_true rfl)) | refine Weak.mk ?_ ?_ ?_ ?_ (Or.inr ⟨(by repeat' first | exact trivial | exact Nat.le_of_ble_eq_true rfl | refine And.intro ?_ ?_), (by repeat' first | exact trivial | exact Nat.le_of_ble_eq_true rfl | refine And.intro ?_ ?_)⟩) | refine Weak.mk ?_ ?_ ?_ ?_ ?_ | refine And.intro ?_ ?_ | with_reducible rfl | exact Nat.le_of_ble_eq_true rfl | refine fr1 ?_ | refine fr2 ?_ ?_ | refine AV.int_congr ?_ | refine AV.bool_congr ?_ | refine AV.str_congr ?_ | refine AV.list_congr ?_ | refine AV.bsl_congr ?_ ?_ | (apply rfl)
    rw [hw]; simp [listSize]
  obtain ⟨hp1, hp2⟩ := hi
  have hle := listSize_take_le tToken l (i + 1)
  have hbi : i < l.length → tToken.bd (l.getD i default) := fun h => hb _ (List.mem_of_getElem? (tToken_get h))
  have hsz : i < l.length → listSize tToken (l.take (i + 1)) = listSize tToken (l.take i) + tToken.size (l.getD i default) := fun h => listSize_take_succ tToken (tToken_get h)
  repeat' first
    | contradiction | exact trivial
    | (conv => whnf
       first | refine Need.mk (fun h => h) ?_ | refine Need.mk rfl ?_ | refine Need.mk ⟨rfl, Nat.le_of_ble_eq_true rfl⟩ ?_ | refine Need.mk (Nat.le_of_ble_eq_true rfl) ?_ | refine Need.fin ?_ | refine Need.mk ?_ ?_ | refine Ix.strsF rfl ?_ | refine Ix.strs rfl ?_ ?_ | refine Cut.strs rfl ?_ ?_ | refine Ix.mapF (fun _ => rfl) ?_ | refine Ix.map (fun _ => rfl) ?_ ?_ | refine Cut.map (fun _ => rfl) ?_ ?_ | refine Fork.yes (by assumption) ?_ | refine Fork.no (by assumption) ?_ | refine Fork.decYes (by omega) ?_ | refine Fork.decNo (by omega) ?_ | refine Fork.dec (fun _ => ?_) (fun _ => ?_) | refine Fork.bne (fun _ => ?_) (fun _ => ?_) | refine Fork.beq (fun _ => ?_) (fun _ => ?_) | refine Fork.seq (fun _ => ?_) (fun _ => ?_) | refine Fork.sne (fun _ => ?_) (fun _ => ?_) | refine Fork.neg (fun _ => ?_) (fun _ => ?_) | refine Fork.mk (fun _ => ?_) (fun _ => ?_) | refine HAlt.mk ?_ ?_ | apply HJoin.mk3 | exact HEnd.mk rfl rfl rfl | refine HEnd.mk ?_ ?_ ?_ | refine Round.mk ?_ | refine NilQ.mk (fun b hb => ?_) | refine forceK_of ?_ | refine forceBx_of ?_ | refine unG_old ?_ | refine unG_gv ?_ | refine Lit.read rfl ?_ | refine FinVal.keep ?_ | refine FinAgg.keep ?_ | refine Final.mk rfl rfl | refine Final.mk ?_ rfl | refine Final.mk ?_ ?_ | refine FinalT.mk ?_ ?_ | refine FinalI.mk ?_ | refine FinalC.allA ?_ | refine ACall.scalA _ _ (szToken.ret _ _ ?_ ?_ ?_) rfl ?_ | refine AQCall.mkA _ _ (fun hg => szToken.ret _ _ ?_ ?_ ?_) rfl ?_ | refine AGCall.mkA _ _ (fun hg => szToken.ret _ _ ?_ ?_ ?_) rfl ?_)
    | refine AV.bool_congr ?_ | refine AV.int_congr ?_ | refine AV.str_congr ?_ | refine AV.list_congr ?_ | with_reducible rfl | refine fr1 ?_ | refine fr2 ?_ ?_
  · exact hp2
  · omega
  · rename_i h1
    rw [length_rows] at h1
    rw [Int.toNat_natCast]; exact hbi (by omega)
  · rename_i h1 h2
    rw [length_rows] at h1
    rw [Int.toNat_natCast] at h2
    have := hsz (by omega)
    unfold left at h2 ⊢
    split at h2
    · rw [if_pos (by omega)]
    · omega
  · rename_i h1 h2
    rw [length_rows] at h1
    rw [Int.toNat_natCast] at h2
    have := hsz (by omega)
    have e : left (a - ↑l.length - ↑(listSize tToken (l.take i))) (tToken.size (l.getD i default)) = a - ↑l.length - ↑(listSize tToken (l.take (i + 1))) := by
      unfold left at h2 ⊢
      split at h2
      · omega
      · rw [if_neg ‹_›]; omega
    refine ⟨i + 1, ⟨by omega, ?_⟩, ?_, by omega⟩
    · rw [← e]; omega
    · repeat' first
        | exact trivial | refine Weak.mk ?_ ?_ ?_ ?_ (Or.inl (Nat.le_of_ble_eq_true rfl)) | refine Weak.mk ?_ ?_ ?_ ?_ (Or.inr ⟨(by repeat' first | exact trivial | exact Nat.le_of_ble_eq_true rfl | refine And.intro ?_ ?_), (by repeat' first | exact trivial | exact Nat.le_of_ble_eq_true rfl | refine And.intro ?_ ?_)⟩) | refine Weak.mk ?_ ?_ ?_ ?_ ?_ | refine And.intro ?_ ?_ | with_reducible rfl | exact Nat.le_of_ble_eq_true rfl | refine fr1 ?_ | refine fr2 ?_ ?_ | refine AV.int_congr ?_ | refine AV.bool_congr ?_ | refine AV.str_congr ?_ | refine AV.list_congr ?_ | refine AV.bsl_congr ?_ ?_ | (apply rfl)
      · rw [Int.toNat_natCast]; exact e
      · rw [wrap64 (by omega) (by omega)]; rfl
  · rename_i h1
    rw [length_rows] at h1
    rw [List.take_of_length_le (by omega)] at hp2 ⊢
    rw [left, if_neg (by omega)]; omega
theorem eqTokenS.big (l m : List VToken) (h : tTokens.size l ≤ 1099511627775) : eqTokenS.Ret [.list none (rows tToken l), .list none (rows tToken m)] (.val (.bool (decide (l = m)))) [] := by
  refine eqTokenS.of rfl ?_
  rw [tTokens_sz] at h
  repeat' first
    | (conv => whnf
       first | refine Need.mk rfl ?_ | refine Fork.bne (fun _ => ?_) (fun _ => ?_) | refine FinVal.keep ?_ | refine Final.mk ?_ rfl)
    | refine AV.bool_congr ?_
  · rename_i h
    rw [length_rows, length_rows] at h
    have h3 : ¬ l = m := fun e => h (by rw [e])
    simp [h3]
  rename_i h
  rw [length_rows, length_rows] at h
  have h : l.length = m.length := by omega
  skip
  refine ALoop.mk Nat (fun i => ⟨[(0, .list none (rows tToken l)), (1, .list none (rows tToken m)), (5, .val (.int .i64 i))], [], []⟩) (fun i => i ≤ l.length ∧ l.take i = m.take i) (fun i => l.length - i) ⟨0, ⟨Nat.zero_le _, rfl⟩, ?_⟩ (fun i hi => ?_)
  · repeat' first
      | exact trivial | refine Weak.mk ?_ ?_ ?_ ?_ (Or.inl (Nat.le_of_ble_eq_true rfl)) | refine And.intro ?_ ?_ | with_reducible rfl | exact Nat.le_of_ble_eq_true rfl | refine AV.int_congr ?_ | refine AV.list_congr ?_ | (apply rfl)
  repeat' first
    | (conv => whnf
       first | refine Need.mk rfl ?_ | refine Need.mk (Nat.le_of_ble_eq_true rfl) ?_ | refine Ix.mapF (fun _ => rfl) ?_ | refine Fork.dec (fun _ => ?_) (fun _ => ?_) | refine Fork.neg (fun _ => ?_) (fun _ => ?_) | refine Round.mk ?_ | refine FinVal.keep ?_ | refine Final.mk ?_ rfl | refine AQCall.mkA _ _ (fun hg => eqToken.big _ _ ?_) rfl ?_)
    | refine AV.bool_congr ?_
  · rename_i h1
    rw [length_rows] at h1
    have := listSize_mem tToken (List.mem_of_getElem? (tToken_get (l := l) (i := i) (by omega)))
    rw [Int.toNat_natCast]; omega
  · rename_i h1 h2
    have h3 : ¬ l = m := fun e => of_decide_eq_false h2 (by rw [e])
    simp [h3]
  · rename_i h1 h2
    rw [length_rows] at h1
    rw [Int.toNat_natCast] at h2
    refine ⟨i + 1, ⟨by omega, ?_⟩, ?_, by omega⟩
    · rw [take_succ' default (by omega), take_succ' (l := m) default (by omega), hi.2, of_decide_eq_true h2]
    · repeat' first
        | exact trivial | refine Weak.mk ?_ ?_ ?_ ?_ (Or.inl (Nat.le_of_ble_eq_true rfl)) | refine And.intro ?_ ?_ | with_reducible rfl | exact Nat.le_of_ble_eq_true rfl | refine AV.int_congr ?_ | refine AV.list_congr ?_ | (apply rfl)
      rw [wrap64 (by omega) (by omega)]; rfl
  · rename_i h1
    rw [length_rows] at h1
    have h2 := hi.2
    rw [List.take_of_length_le (by omega), List.take_of_length_le (by omega)] at h2
    simp [h2]
end Go.Proofs.YtfnejdkkhpjhmaaGreatDoor
namespace Go.Proofs.YtfnejdkkhpjhmaaGreatDoor
open Abs
abbrev VNode := Int × VCond × Int × List VToken
instance : DecidableEq VNode := instDecidableEqProd
def tNode : Ty VNode := Ty.pair Ty.int (Ty.pair tCond (Ty.pair Ty.int tTokens))
theorem tNode_size (a : VNode) : tNode.size a = 0 + (tCond.size a.2.1 + (0 + tTokens.size a.2.2.2)) := rfl
def tNodes : Ty (List VNode) := Ty.list 72 tNode
theorem tNodes_sz (l : List VNode) : tNodes.size l = l.length + listSize tNode l := rfl
theorem tNode_get {l : List VNode} {i : Nat} (hi : i < l.length) : l[i]? = some (l.getD i default) := by simp [List.getD, hi]
theorem tNode_le {l : List VNode} {i : Nat} (hi : i < l.length) : tNode.size (l.getD i default) ≤ listSize tNode l := listSize_mem tNode (List.mem_of_getElem? (tNode_get hi))
theorem Abs.ACall.mk_Node {C : Con} {lend : Bool} {f : Nat} {vs : List AV} {b : List ABox} {fr : Fr} {k : AV → List ABox → Fr → Prop} (ys : List AV) (a : VNode) (h : C.ret f ys (.agg (tNode.tk a 0)) (tNode.fr a)) (hv : SeesL Sees0 vs ys)
    (hk : k (.agg (tNode.tk a fr.length)) b (fr ++ tNode.fr a)) : ACall C lend f vs b fr k := ACall.mkA tNode ys a h hv hk
theorem Abs.ACall.mk_NodeS {C : Con} {lend : Bool} {f : Nat} {vs : List AV} {b : List ABox} {fr : Fr} {k : AV → List ABox → Fr → Prop} (ys : List AV) (l : List VNode) (h : C.ret f ys (.list (some (0 + (frs tNode l).length)) (tks tNode l 0)) (tNodes.fr l)) (hv : SeesL Sees0 vs ys)
    (hk : k (.list (some (fr.length + (frs tNode l).length)) (tks tNode l fr.length)) b (fr ++ tNodes.fr l)) : ACall C lend f vs b fr k :=
  ACall.mkV tNodes ys l (fun n => .list (some (n + (frs tNode l).length)) (tks tNode l n)) (fun _ => rfl) h hv hk
theorem toNode.ret (a : VNode) (h : tNode.size a ≤ 1048576) : toNode.Ret [.agg (oldL (tNode.q a))] (.agg (tNode.tk a 0)) (tNode.fr a) := by
  refine toNode.of rfl ?_
  rw [tNode_size] at h
  repeat' first
    | contradiction | exact trivial
    | (conv => whnf
       first | refine Need.mk (fun h => h) ?_ | refine Need.mk rfl ?_ | refine Need.mk ⟨rfl, Nat.le_of_ble_eq_true rfl⟩ ?_ | refine Need.mk (Nat.le_of_ble_eq_true rfl) ?_ | refine Need.fin ?_ | refine Need.mk ?_ ?_ | refine Ix.strsF rfl ?_ | refine Ix.strs rfl ?_ ?_ | refine Cut.strs rfl ?_ ?_ | refine Ix.mapF (fun _ => rfl) ?_ | refine Ix.map (fun _ => rfl) ?_ ?_ | refine Cut.map (fun _ => rfl) ?_ ?_ | refine Fork.yes (by assumption) ?_ | refine Fork.no (by assumption) ?_ | refine Fork.decYes (by omega) ?_ | refine Fork.decNo (by omega) ?_ | refine Fork.dec (fun _ => ?_) (fun _ => ?_) | refine Fork.bne (fun _ => ?_) (fun _ => ?_) | refine Fork.beq (fun _ => ?_) (fun _ => ?_) | refine Fork.seq (fun _ => ?_) (fun _ => ?_) | refine Fork.sne (fun _ => ?_) (fun _ => ?_) | refine Fork.neg (fun _ => ?_) (fun _ => ?_) | refine Fork.mk (fun _ => ?_) (fun _ => ?_) | refine HAlt.mk ?_ ?_ | apply HJoin.mk3 | exact HEnd.mk rfl rfl rfl | refine HEnd.mk ?_ ?_ ?_ | refine Round.mk ?_ | refine NilQ.mk (fun b hb => ?_) | refine forceK_of ?_ | refine forceBx_of ?_ | refine unG_old ?_ | refine unG_gv ?_ | refine Lit.read rfl ?_ | refine FinVal.keep ?_ | refine FinAgg.keep ?_ | refine Final.mk rfl rfl | refine Final.mk ?_ rfl | refine Final.mk ?_ ?_ | refine FinalT.mk ?_ ?_ | refine FinalI.mk ?_ | refine FinalC.allA ?_ | refine ACall.mk_Cond _ _ (toCond.ret _ ?_) (by repeat' first | exact SeesL.nil | refine SeesL.cons ?_ ?_ | exact SeesB.of0 (Sees0.val _) | exact SeesB.of0 (Sees0.str _) | exact SeesB.of0 (Sees0.olds _ _) | exact SeesB.of0 (Sees0.old _) | exact SeesB.of0 (Sees0.oldagg _) | exact SeesB.of0 Sees0.nil | exact Sees0.val _ | exact Sees0.str _ | exact Sees0.olds _ _ | exact Sees0.old _ | exact Sees0.oldagg _ | exact Sees0.nil | exact SeesB.of0 (Sees0.any _) | assumption | exact sees_gv _ _ _ (by assumption) (by first | assumption | exact BoxIn.last _ _ | exact BoxIn.more (BoxIn.last _ _) _) | refine SeesB.agg ?_ | refine Sees0.agg ?_ | exact SeesB.of0 (Sees0.clo SeesL.nil SeesL.nil) | exact Sees0.clo SeesL.nil SeesL.nil | exact SeesB.of0 (Sees0.list rfl) | exact Sees0.list rfl) ?_ | refine ACall.mk_TokenS _ _ (toTokenS.ret _ ?_) (by repeat' first | exact SeesL.nil | refine SeesL.cons ?_ ?_ | exact SeesB.of0 (Sees0.val _) | exact SeesB.of0 (Sees0.str _) | exact SeesB.of0 (Sees0.olds _ _) | exact SeesB.of0 (Sees0.old _) | exact SeesB.of0 (Sees0.oldagg _) | exact SeesB.of0 Sees0.nil | exact Sees0.val _ | exact Sees0.str _ | exact Sees0.olds _ _ | exact Sees0.old _ | exact Sees0.oldagg _ | exact Sees0.nil | exact SeesB.of0 (Sees0.any _) | assumption | exact sees_gv _ _ _ (by assumption) (by first | assumption | exact BoxIn.last _ _ | exact BoxIn.more (BoxIn.last _ _) _) | refine SeesB.agg ?_ | refine Sees0.agg ?_ | exact SeesB.of0 (Sees0.clo SeesL.nil SeesL.nil) | exact Sees0.clo SeesL.nil SeesL.nil | exact SeesB.of0 (Sees0.list rfl) | exact Sees0.list rfl) ?_)
    | refine AV.bool_congr ?_ | refine AV.int_congr ?_ | refine AV.str_congr ?_ | refine AV.list_congr ?_ | with_reducible rfl | refine fr1 ?_ | refine fr2 ?_ ?_
  all_goals first
    | omega
    | (refine congrArg AV.agg ?_
       repeat' first
         | refine cons_congr ?_ ?_
         | refine tok_congr ?_ ?_
         | refine congrArg (tks _ _) ?_
         | rfl
       all_goals (simp [Ty.pair, Ty.str, Ty.int, Ty.bool, Nat.add_assoc]; done))
    | (simp [tNode, Ty.pair, Ty.str, Ty.int, Ty.bool, List.append_assoc, Nat.add_assoc]; done)
theorem szNode.ret (f : VNode) (a : Int) (h0 : 0 ≤ a) (ha : a ≤ 1048576) (hb : tNode.bd f) :
    szNode.Ret [.agg (oldL (tNode.q f)), .val (.int .i64 a)] (.val (.int .i64 (left a (tNode.size f)))) [] := by
  refine szNode.of rfl ?_
  have hz := tNode_size f
  obtain ⟨hb0, hb1, hb2, hb3⟩ := hb
  by_cases c1 : a < (tCond.size f.2.1 : Int)
  · have e0 : left a (tCond.size f.2.1) = -1 := by rw [left, if_pos (by omega)]
    repeat' first
      | contradiction | exact trivial
      | (conv => whnf
         first | refine Need.mk (fun h => h) ?_ | refine Need.mk rfl ?_ | refine Need.mk ⟨rfl, Nat.le_of_ble_eq_true rfl⟩ ?_ | refine Need.mk (Nat.le_of_ble_eq_true rfl) ?_ | refine Need.fin ?_ | refine Need.mk ?_ ?_ | refine Ix.strsF rfl ?_ | refine Ix.strs rfl ?_ ?_ | refine Cut.strs rfl ?_ ?_ | refine Ix.mapF (fun _ => rfl) ?_ | refine Ix.map (fun _ => rfl) ?_ ?_ | refine Cut.map (fun _ => rfl) ?_ ?_ | refine Fork.yes (by assumption) ?_ | refine Fork.no (by assumption) ?_ | refine Fork.decYes (by omega) ?_ | refine Fork.decNo (by omega) ?_ | refine Fork.dec (fun _ => ?_) (fun _ => ?_) | refine Fork.bne (fun _ => ?_) (fun _ => ?_) | refine Fork.beq (fun _ => ?_) (fun _ => ?_) | refine Fork.seq (fun _ => ?_) (fun _ => ?_) | refine Fork.sne (fun _ => ?_) (fun _ => ?_) | refine Fork.neg (fun _ => ?_) (fun _ => ?_) | refine Fork.mk (fun _ => ?_) (fun _ => ?_) | refine HAlt.mk ?_ ?_ | apply HJoin.mk3 | exact HEnd.mk rfl rfl rfl | refine HEnd.mk ?_ ?_ ?_ | refine Round.mk ?_ | refine NilQ.mk (fun b hb => ?_) | refine forceK_of ?_ | refine forceBx_of ?_ | refine unG_old ?_ | refine unG_gv ?_ | refine Lit.read rfl ?_ | refine FinVal.keep ?_ | refine FinAgg.keep ?_ | refine Final.mk rfl rfl | refine Final.mk ?_ rfl | refine Final.mk ?_ ?_ | refine FinalT.mk ?_ ?_ | refine FinalI.mk ?_ | refine FinalC.allA ?_ | refine ACall.scalA _ _ (szCond.ret _ _ ?_ ?_ ?_) rfl ?_ | refine AQCall.mkA _ _ (fun hg => szCond.ret _ _ ?_ ?_ ?_) rfl ?_ | refine AGCall.mkA _ _ (fun hg => szCond.ret _ _ ?_ ?_ ?_) rfl ?_ | refine ACall.scalA _ _ (szTokenS.ret _ _ ?_ ?_ ?_) rfl ?_ | refine AQCall.mkA _ _ (fun hg => szTokenS.ret _ _ ?_ ?_ ?_) rfl ?_ | refine AGCall.mkA _ _ (fun hg => szTokenS.ret _ _ ?_ ?_ ?_) rfl ?_)
      | refine AV.bool_congr ?_ | refine AV.int_congr ?_ | refine AV.str_congr ?_ | refine AV.list_congr ?_ | with_reducible rfl | refine fr1 ?_ | refine fr2 ?_ ?_
    all_goals first
      | assumption
      | omega
      | exact left_eq (by omega)
  by_cases c2 : a < (tCond.size f.2.1 : Int) + (tTokens.size f.2.2.2 : Int)
  · have e0 : left a (tCond.size f.2.1) = a - (tCond.size f.2.1 : Int) := by rw [left, if_neg (by omega)]
    have e1 : left (left a (tCond.size f.2.1)) (tTokens.size f.2.2.2) = -1 := by rw [e0, left, if_pos (by omega)]
    repeat' first
      | contradiction | exact trivial
      | (conv => whnf
         first | refine Need.mk (fun h => h) ?_ | refine Need.mk rfl ?_ | refine Need.mk ⟨rfl, Nat.le_of_ble_eq_true rfl⟩ ?_ | refine Need.mk (Nat.le_of_ble_eq_true rfl) ?_ | refine Need.fin ?_ | refine Need.mk ?_ ?_ | refine Ix.strsF rfl ?_ | refine Ix.strs rfl ?_ ?_ | refine Cut.strs rfl ?_ ?_ | refine Ix.mapF (fun _ => rfl) ?_ | refine Ix.map (fun _ => rfl) ?_ ?_ | refine Cut.map (fun _ => rfl) ?_ ?_ | refine Fork.yes (by assumption) ?_ | refine Fork.no (by assumption) ?_ | refine Fork.decYes (by omega) ?_ | refine Fork.decNo (by omega) ?_ | refine Fork.dec (fun _ => ?_) (fun _ => ?_) | refine Fork.bne (fun _ => ?_) (fun _ => ?_) | refine Fork.beq (fun _ => ?_) (fun _ => ?_) | refine Fork.seq (fun _ => ?_) (fun _ => ?_) | refine Fork.sne (fun _ => ?_) (fun _ => ?_) | refine Fork.neg (fun _ => ?_) (fun _ => ?_) | refine Fork.mk (fun _ => ?_) (fun _ => ?_) | refine HAlt.mk ?_ ?_ | apply HJoin.mk3 | exact HEnd.mk rfl rfl rfl | refine HEnd.mk ?_ ?_ ?_ | refine Round.mk ?_ | refine NilQ.mk (fun b hb => ?_) | refine forceK_of ?_ | refine forceBx_of ?_ | refine unG_old ?_ | refine unG_gv ?_ | refine Lit.read rfl ?_ | refine FinVal.keep ?_ | refine FinAgg.keep ?_ | refine Final.mk rfl rfl | refine Final.mk ?_ rfl | refine Final.mk ?_ ?_ | refine FinalT.mk ?_ ?_ | refine FinalI.mk ?_ | refine FinalC.allA ?_ | refine ACall.scalA _ _ (szCond.ret _ _ ?_ ?_ ?_) rfl ?_ | refine AQCall.mkA _ _ (fun hg => szCond.ret _ _ ?_ ?_ ?_) rfl ?_ | refine AGCall.mkA _ _ (fun hg => szCond.ret _ _ ?_ ?_ ?_) rfl ?_ | refine ACall.scalA _ _ (szTokenS.ret _ _ ?_ ?_ ?_) rfl ?_ | refine AQCall.mkA _ _ (fun hg => szTokenS.ret _ _ ?_ ?_ ?_) rfl ?_ | refine AGCall.mkA _ _ (fun hg => szTokenS.ret _ _ ?_ ?_ ?_) rfl ?_)
      | refine AV.bool_congr ?_ | refine AV.int_congr ?_ | refine AV.str_congr ?_ | refine AV.list_congr ?_ | with_reducible rfl | refine fr1 ?_ | refine fr2 ?_ ?_
    all_goals first
      | assumption
      | omega
      | exact left_eq (by omega)
  have e0 : left a (tCond.size f.2.1) = a - (tCond.size f.2.1 : Int) := by rw [left, if_neg (by omega)]
  have e1 : left (left a (tCond.size f.2.1)) (tTokens.size f.2.2.2) = a - (tCond.size f.2.1 : Int) - (tTokens.size f.2.2.2 : Int) := by rw [e0, left, if_neg (by omega)]
  repeat' first
    | contradiction | exact trivial
    | (conv => whnf
       first | refine Need.mk (fun h => h) ?_ | refine Need.mk rfl ?_ | refine Need.mk ⟨rfl, Nat.le_of_ble_eq_true rfl⟩ ?_ | refine Need.mk (Nat.le_of_ble_eq_true rfl) ?_ | refine Need.fin ?_ | refine Need.mk ?_ ?_ | refine Ix.strsF rfl ?_ | refine Ix.strs rfl ?_ ?_ | refine Cut.strs rfl ?_ ?_ | refine Ix.mapF (fun _ => rfl) ?_ | refine Ix.map (fun _ => rfl) ?_ ?_ | refine Cut.map (fun _ => rfl) ?_ ?_ | refine Fork.yes (by assumption) ?_ | refine Fork.no (by assumption) ?_ | refine Fork.decYes (by omega) ?_ | refine Fork.decNo (by omega) ?_ | refine Fork.dec (fun _ => ?_) (fun _ => ?_) | refine Fork.bne (fun _ => ?_) (fun _ => ?_) | refine Fork.beq (fun _ => ?_) (fun _ => ?_) | refine Fork.seq (fun _ => ?_) (fun _ => ?_) | refine Fork.sne (fun _ => ?_) (fun _ => ?_) | refine Fork.neg (fun _ => ?_) (fun _ => ?_) | refine Fork.mk (fun _ => ?_) (fun _ => ?_) | refine HAlt.mk ?_ ?_ | apply HJoin.mk3 | exact HEnd.mk rfl rfl rfl | refine HEnd.mk ?_ ?_ ?_ | refine Round.mk ?_ | refine NilQ.mk (fun b hb => ?_) | refine forceK_of ?_ | refine forceBx_of ?_ | refine unG_old ?_ | refine unG_gv ?_ | refine Lit.read rfl ?_ | refine FinVal.keep ?_ | refine FinAgg.keep ?_ | refine Final.mk rfl rfl | refine Final.mk ?_ rfl | refine Final.mk ?_ ?_ | refine FinalT.mk ?_ ?_ | refine FinalI.mk ?_ | refine FinalC.allA ?_ | refine ACall.scalA _ _ (szCond.ret _ _ ?_ ?_ ?_) rfl ?_ | refine AQCall.mkA _ _ (fun hg => szCond.ret _ _ ?_ ?_ ?_) rfl ?_ | refine AGCall.mkA _ _ (fun hg => szCond.ret _ _ ?_ ?_ ?_) rfl ?_ | refine ACall.scalA _ _ (szTokenS.ret _ _ ?_ ?_ ?_) rfl ?_ | refine AQCall.mkA _ _ (fun hg => szTokenS.ret _ _ ?_ ?_ ?_) rfl ?_ | refine AGCall.mkA _ _ (fun hg => szTokenS.ret _ _ ?_ ?_ ?_) rfl ?_)
    | refine AV.bool_congr ?_ | refine AV.int_congr ?_ | refine AV.str_congr ?_ | refine AV.list_congr ?_ | with_reducible rfl | refine fr1 ?_ | refine fr2 ?_ ?_
  all_goals first
    | assumption
    | omega
    | exact left_eq (by omega)
theorem eqNode.big (f g : VNode) (h : tNode.size f ≤ 1099511627775) : eqNode.Ret [.agg (oldL (tNode.q f)), .agg (oldL (tNode.q g))] (.val (.bool (decide (f = g)))) [] := by
  refine eqNode.of rfl ?_
  have hz := tNode_size f
  repeat' first
    | contradiction | exact trivial
    | (conv => whnf
       first | refine Need.mk (fun h => h) ?_ | refine Need.mk rfl ?_ | refine Need.mk ⟨rfl, Nat.le_of_ble_eq_true rfl⟩ ?_ | refine Need.mk (Nat.le_of_ble_eq_true rfl) ?_ | refine Need.fin ?_ | refine Need.mk ?_ ?_ | refine Ix.strsF rfl ?_ | refine Ix.strs rfl ?_ ?_ | refine Cut.strs rfl ?_ ?_ | refine Ix.mapF (fun _ => rfl) ?_ | refine Ix.map (fun _ => rfl) ?_ ?_ | refine Cut.map (fun _ => rfl) ?_ ?_ | refine Fork.yes (by assumption) ?_ | refine Fork.no (by assumption) ?_ | refine Fork.decYes (by omega) ?_ | refine Fork.decNo (by omega) ?_ | refine Fork.dec (fun _ => ?_) (fun _ => ?_) | refine Fork.bne (fun _ => ?_) (fun _ => ?_) | refine Fork.beq (fun _ => ?_) (fun _ => ?_) | refine Fork.seq (fun _ => ?_) (fun _ => ?_) | refine Fork.sne (fun _ => ?_) (fun _ => ?_) | refine Fork.neg (fun _ => ?_) (fun _ => ?_) | refine Fork.mk (fun _ => ?_) (fun _ => ?_) | refine HAlt.mk ?_ ?_ | apply HJoin.mk3 | exact HEnd.mk rfl rfl rfl | refine HEnd.mk ?_ ?_ ?_ | refine Round.mk ?_ | refine NilQ.mk (fun b hb => ?_) | refine forceK_of ?_ | refine forceBx_of ?_ | refine unG_old ?_ | refine unG_gv ?_ | refine Lit.read rfl ?_ | refine FinVal.keep ?_ | refine FinAgg.keep ?_ | refine Final.mk rfl rfl | refine Final.mk ?_ rfl | refine Final.mk ?_ ?_ | refine FinalT.mk ?_ ?_ | refine FinalI.mk ?_ | refine FinalC.allA ?_ | refine ACall.scalA _ _ (eqCond.big _ _ ?_) rfl ?_ | refine AQCall.mkA _ _ (fun hg => eqCond.big _ _ ?_) rfl ?_ | refine AGCall.mkA _ _ (fun hg => eqCond.big _ _ ?_) rfl ?_ | refine ACall.scalA _ _ (eqTokenS.big _ _ ?_) rfl ?_ | refine AQCall.mkA _ _ (fun hg => eqTokenS.big _ _ ?_) rfl ?_ | refine AGCall.mkA _ _ (fun hg => eqTokenS.big _ _ ?_) rfl ?_)
    | refine AV.bool_congr ?_ | refine AV.int_congr ?_ | refine AV.str_congr ?_ | refine AV.list_congr ?_ | with_reducible rfl | refine fr1 ?_ | refine fr2 ?_ ?_
  all_goals first
    | omega
    | (simp only [tStrs_size, tInts_size] at *; omega)
    | (obtain ⟨x0, ⟨x10, ⟨x110, x111⟩, x12, x13⟩, x2, x3⟩ := f; obtain ⟨y0, ⟨y10, ⟨y110, y111⟩, y12, y13⟩, y2, y3⟩ := g; simp_all)
theorem toNodeS.ret (l : List VNode) (h : tNodes.size l ≤ 1048576) : toNodeS.Ret [.list none (rows tNode l)] (.list (some (0 + (frs tNode l).length)) (tks tNode l 0)) (tNodes.fr l) := by
  refine toNodeS.of rfl ?_
  rw [tNodes_sz] at h
  repeat' first
    | contradiction | exact trivial
    | (conv => whnf
       first | refine Need.mk (fun h => h) ?_ | refine Need.mk rfl ?_ | refine Need.mk ⟨rfl, Nat.le_of_ble_eq_true rfl⟩ ?_ | refine Need.mk (Nat.le_of_ble_eq_true rfl) ?_ | refine Need.fin ?_ | refine Need.mk ?_ ?_ | refine Ix.strsF rfl ?_ | refine Ix.strs rfl ?_ ?_ | refine Cut.strs rfl ?_ ?_ | refine Ix.mapF (fun _ => rfl) ?_ | refine Ix.map (fun _ => rfl) ?_ ?_ | refine Cut.map (fun _ => rfl) ?_ ?_ | refine Fork.yes (by assumption) ?_ | refine Fork.no (by assumption) ?_ | refine Fork.decYes (by omega) ?_ | refine Fork.decNo (by omega) ?_ | refine Fork.dec (fun _ => ?_) (fun _ => ?_) | refine Fork.bne (fun _ => ?_) (fun _ => ?_) | refine Fork.beq (fun _ => ?_) (fun _ => ?_) | refine Fork.seq (fun _ => ?_) (fun _ => ?_) | refine Fork.sne (fun _ => ?_) (fun _ => ?_) | refine Fork.neg (fun _ => ?_) (fun _ => ?_) | refine Fork.mk (fun _ => ?_) (fun _ => ?_) | refine HAlt.mk ?_ ?_ | apply HJoin.mk3 | exact HEnd.mk rfl rfl rfl | refine HEnd.mk ?_ ?_ ?_ | refine Round.mk ?_ | refine NilQ.mk (fun b hb => ?_) | refine forceK_of ?_ | refine forceBx_of ?_ | refine unG_old ?_ | refine unG_gv ?_ | refine Lit.read rfl ?_ | refine FinVal.keep ?_ | refine FinAgg.keep ?_ | refine Final.mk rfl rfl | refine Final.mk ?_ rfl | refine Final.mk ?_ ?_ | refine FinalT.mk ?_ ?_ | refine FinalI.mk ?_ | refine FinalC.allA ?_)
    | refine AV.bool_congr ?_ | refine AV.int_congr ?_ | refine AV.str_congr ?_ | refine AV.list_congr ?_ | with_reducible rfl | refine fr1 ?_ | refine fr2 ?_ ?_
  refine ALoop.mk Nat (fun i => ⟨[(0, .list none (rows tNode l)), (3, .bsl 0 l.length), (4, .val (.int .i64 i))], [.cells (.row 72 8) (part [.val (.int .i64 0), .val (.int .i64 0), .str [], .val (.slice none 0 0), .str [], .str [], .val (.int .i64 0), .val (.slice none 0 0)] (tks tNode l 0) i)], frs tNode (l.take i)⟩) (fun i => i ≤ l.length) (fun i => l.length - i) ⟨0, Nat.zero_le _, ?_⟩ (fun i hi => ?_)
  · repeat' first
      | exact trivial | refine Weak.mk ?_ ?_ ?_ ?_ (Or.inl (Nat.le_of_ble_eq_true rfl)) | refine Weak.mk ?_ ?_ ?_ ?_ (Or.inr ⟨(by repeat' first | exact trivial | exact Nat.le_of_ble_eq_true rfl | refine And.intro ?_ ?_), (by repeat' first | exact trivial | exact Nat.le_of_ble_eq_true rfl | refine And.intro ?_ ?_)⟩) | refine Weak.mk ?_ ?_ ?_ ?_ ?_ | refine And.intro ?_ ?_ | with_reducible rfl | exact Nat.le_of_ble_eq_true rfl | refine fr1 ?_ | refine fr2 ?_ ?_ | refine AV.int_congr ?_ | refine AV.bool_congr ?_ | refine AV.str_congr ?_ | refine AV.list_congr ?_ | refine AV.bsl_congr ?_ ?_ | (apply rfl)
    · simp
    · simp only [List.nil_append, List.length_cons, List.length_nil, List.take_succ_cons, List.take_zero]
      rw [part_made (xs := tks tNode l 0) (sz := 8) rfl (by decide) (by simp [length_tks])]; rfl
  repeat' first
    | contradiction | exact trivial
    | (conv => whnf
       first | refine Need.mk (fun h => h) ?_ | refine Need.mk rfl ?_ | refine Need.mk ⟨rfl, Nat.le_of_ble_eq_true rfl⟩ ?_ | refine Need.mk (Nat.le_of_ble_eq_true rfl) ?_ | refine Need.fin ?_ | refine Need.mk ?_ ?_ | refine Ix.strsF rfl ?_ | refine Ix.strs rfl ?_ ?_ | refine Cut.strs rfl ?_ ?_ | refine Ix.mapF (fun _ => rfl) ?_ | refine Ix.map (fun _ => rfl) ?_ ?_ | refine Cut.map (fun _ => rfl) ?_ ?_ | refine Fork.yes (by assumption) ?_ | refine Fork.no (by assumption) ?_ | refine Fork.decYes (by omega) ?_ | refine Fork.decNo (by omega) ?_ | refine Fork.dec (fun _ => ?_) (fun _ => ?_) | refine Fork.bne (fun _ => ?_) (fun _ => ?_) | refine Fork.beq (fun _ => ?_) (fun _ => ?_) | refine Fork.seq (fun _ => ?_) (fun _ => ?_) | refine Fork.sne (fun _ => ?_) (fun _ => ?_) | refine Fork.neg (fun _ => ?_) (fun _ => ?_) | refine Fork.mk (fun _ => ?_) (fun _ => ?_) | refine HAlt.mk ?_ ?_ | apply HJoin.mk3 | exact HEnd.mk rfl rfl rfl | refine HEnd.mk ?_ ?_ ?_ | refine Round.mk ?_ | refine NilQ.mk (fun b hb => ?_) | refine forceK_of ?_ | refine forceBx_of ?_ | refine unG_old ?_ | refine unG_gv ?_ | refine Lit.read rfl ?_ | refine FinVal.keep ?_ | refine FinAgg.keep ?_ | refine Final.mk rfl rfl | refine Final.mk ?_ rfl | refine Final.mk ?_ ?_ | refine FinalT.mk ?_ ?_ | refine FinalI.mk ?_ | refine FinalC.allA ?_ | refine ACall.mk_Node _ _ (toNode.ret _ ?_) (by repeat' first | exact SeesL.nil | refine SeesL.cons ?_ ?_ | exact SeesB.of0 (Sees0.val _) | exact SeesB.of0 (Sees0.str _) | exact SeesB.of0 (Sees0.olds _ _) | exact SeesB.of0 (Sees0.old _) | exact SeesB.of0 (Sees0.oldagg _) | exact SeesB.of0 Sees0.nil | exact Sees0.val _ | exact Sees0.str _ | exact Sees0.olds _ _ | exact Sees0.old _ | exact Sees0.oldagg _ | exact Sees0.nil | exact SeesB.of0 (Sees0.any _) | assumption | exact sees_gv _ _ _ (by assumption) (by first | assumption | exact BoxIn.last _ _ | exact BoxIn.more (BoxIn.last _ _) _) | refine SeesB.agg ?_ | refine Sees0.agg ?_ | exact SeesB.of0 (Sees0.clo SeesL.nil SeesL.nil) | exact Sees0.clo SeesL.nil SeesL.nil | exact SeesB.of0 (Sees0.list rfl) | exact Sees0.list rfl) ?_)
    | refine AV.bool_congr ?_ | refine AV.int_congr ?_ | refine AV.str_congr ?_ | refine AV.list_congr ?_ | with_reducible rfl | refine fr1 ?_ | refine fr2 ?_ ?_
  · rename_i h1
    rw [length_rows] at h1
    have := listSize_mem tNode (List.mem_of_getElem? (tNode_get (l := l) (i := i) (by omega)))
    rw [Int.toNat_natCast]; omega
  · rename_i h1
    rw [length_rows] at h1
    rw [part_len (sz := 8) rfl (tks_sz tNode l 0) (by rw [length_tks]; exact hi), Int.toNat_natCast, length_tks]
    exact ⟨rfl, by omega⟩
  · rename_i h1
    rw [length_rows] at h1
    refine ⟨i + 1, by omega, ?_, by omega⟩
    repeat' first
      | exact trivial | refine Weak.mk ?_ ?_ ?_ ?_ (Or.inl (Nat.le_of_ble_eq_true rfl)) | refine Weak.mk ?_ ?_ ?_ ?_ (Or.inr ⟨(by repeat' first | exact trivial | exact Nat.le_of_ble_eq_true rfl | refine And.intro ?_ ?_), (by repeat' first | exact trivial | exact Nat.le_of_ble_eq_true rfl | refine And.intro ?_ ?_)⟩) | refine Weak.mk ?_ ?_ ?_ ?_ ?_ | refine And.intro ?_ ?_ | with_reducible rfl | exact Nat.le_of_ble_eq_true rfl | refine fr1 ?_ | refine fr2 ?_ ?_ | refine AV.int_congr ?_ | refine AV.bool_congr ?_ | refine AV.str_congr ?_ | refine AV.list_congr ?_ | refine AV.bsl_congr ?_ ?_ | (apply rfl)
    · rw [wrap64 (by omega) (by omega)]; rfl
    · have := part_set (z := [.val (.int .i64 0), .val (.int .i64 0), .str [], .val (.slice none 0 0), .str [], .str [], .val (.int .i64 0), .val (.slice none 0 0)]) (sz := 8) rfl (tks_sz tNode l 0) (tks_get tNode 0 (tNode_get (l := l) (i := i) (by omega)))
      rw [Nat.zero_add] at this
      simp only [List.set_cons_zero, List.take_succ_cons, List.take_zero, List.length_cons, List.length_nil, Int.toNat_natCast, this]
    · show frs tNode (l.take i) ++ tNode.fr (l.getD (i : Int).toNat default) = frs tNode (l.take (i + 1))
      rw [Int.toNat_natCast, take_succ' default (by omega), frs_append]; simp [frs]
  · rename_i h1
    rw [length_rows] at h1
    conv => whnf
    have : i = l.length := by omega
    subst this
    have hall := part_all [.val (.int .i64 0), .val (.int .i64 0), .str [], .val (.slice none 0 0), .str [], .str [], .val (.int .i64 0), .val (.slice none 0 0)] (tks tNode l 0)
    rw [length_tks] at hall
    refine FreezeD.flat (Freeze.mk (tks tNode l 0) _ 72 8 rfl hall (length_tks _ _ _) (tks_sz tNode l 0) (fun c hc => ?_) ?_)
    · rw [hall] at hc; exact tks_nr tNode l 0 c hc
    · refine Final.mk ?_ ?_
      · rw [List.take_length, Nat.zero_add]
      · rw [List.take_length]; rfl
theorem szNodeS.ret (l : List VNode) (a : Int) (h0 : 0 ≤ a) (ha : a ≤ 1048576) (hb : tNodes.bd l) :
    szNodeS.Ret [.list none (rows tNode l), .val (.int .i64 a)] (.val (.int .i64 (left a (tNodes.size l)))) [] := by
  refine szNodeS.of rfl ?_
  obtain ⟨hl, hb⟩ := hb
  have hw : IntKind.i64.wrap (a - ((rows tNode l).length : Int)) = a - l.length := by rw [length_rows]; exact wrap64 (by omega) (by omega)
  have hz := tNodes_sz l
  repeat' first
    | contradiction | exact trivial
    | (conv => whnf
       first | refine Need.mk (fun h => h) ?_ | refine Need.mk rfl ?_ | refine Need.mk ⟨rfl, Nat.le_of_ble_eq_true rfl⟩ ?_ | refine Need.mk (Nat.le_of_ble_eq_true rfl) ?_ | refine Need.fin ?_ | refine Need.mk ?_ ?_ | refine Ix.strsF rfl ?_ | refine Ix.strs rfl ?_ ?_ | refine Cut.strs rfl ?_ ?_ | refine Ix.mapF (fun _ => rfl) ?_ | refine Ix.map (fun _ => rfl) ?_ ?_ | refine Cut.map (fun _ => rfl) ?_ ?_ | refine Fork.yes (by assumption) ?_ | refine Fork.no (by assumption) ?_ | refine Fork.decYes (by omega) ?_ | refine Fork.decNo (by omega) ?_ | refine Fork.dec (fun _ => ?_) (fun _ => ?_) | refine Fork.bne (fun _ => ?_) (fun _ => ?_) | refine Fork.beq (fun _ => ?_) (fun _ => ?_) | refine Fork.seq (fun _ => ?_) (fun _ => ?_) | refine Fork.sne (fun _ => ?_) (fun _ => ?_) | refine Fork.neg (fun _ => ?_) (fun _ => ?_) | refine Fork.mk (fun _ => ?_) (fun _ => ?_) | refine HAlt.mk ?_ ?_ | apply HJoin.mk3 | exact HEnd.mk rfl rfl rfl | refine HEnd.mk ?_ ?_ ?_ | refine Round.mk ?_ | refine NilQ.mk (fun b hb => ?_) | refine forceK_of ?_ | refine forceBx_of ?_ | refine unG_old ?_ | refine unG_gv ?_ | refine Lit.read rfl ?_ | refine FinVal.keep ?_ | refine FinAgg.keep ?_ | refine Final.mk rfl rfl | refine Final.mk ?_ rfl | refine Final.mk ?_ ?_ | refine FinalT.mk ?_ ?_ | refine FinalI.mk ?_ | refine FinalC.allA ?_)
    | refine AV.bool_congr ?_ | refine AV.int_congr ?_ | refine AV.str_congr ?_ | refine AV.list_congr ?_ | with_reducible rfl | refine fr1 ?_ | refine fr2 ?_ ?_
  · rename_i h
    rw [hw] at h
    rw [left, if_pos (by omega)]
  rename_i h
  rw [hw] at h
  repeat' first
    | contradiction | exact trivial
    | (conv => whnf
       first | refine Need.mk (fun h => h) ?_ | refine Need.mk rfl ?_ | refine Need.mk ⟨rfl, Nat.le_of_ble_eq_true rfl⟩ ?_ | refine Need.mk (Nat.le_of_ble_eq_true rfl) ?_ | refine Need.fin ?_ | refine Need.mk ?_ ?_ | refine Ix.strsF rfl ?_ | refine Ix.strs rfl ?_ ?_ | refine Cut.strs rfl ?_ ?_ | refine Ix.mapF (fun _ => rfl) ?_ | refine Ix.map (fun _ => rfl) ?_ ?_ | refine Cut.map (fun _ => rfl) ?_ ?_ | refine Fork.yes (by assumption) ?_ | refine Fork.no (by assumption) ?_ | refine Fork.decYes (by omega) ?_ | refine Fork.decNo (by omega) ?_ | refine Fork.dec (fun _ => ?_) (fun _ => ?_) | refine Fork.bne (fun _ => ?_) (fun _ => ?_) | refine Fork.beq (fun _ => ?_) (fun _ => ?_) | refine Fork.seq (fun _ => ?_) (fun _ => ?_) | refine Fork.sne (fun _ => ?_) (fun _ => ?_) | refine Fork.neg (fun _ => ?_) (fun _ => ?_) | refine Fork.mk (fun _ => ?_) (fun _ => ?_) | refine HAlt.mk ?_ ?_ | apply HJoin.mk3 | exact HEnd.mk rfl rfl rfl | refine HEnd.mk ?_ ?_ ?_ | refine Round.mk ?_ | refine NilQ.mk (fun b hb => ?_) | refine forceK_of ?_ | refine forceBx_of ?_ | refine unG_old ?_ | refine unG_gv ?_ | refine Lit.read rfl ?_ | refine FinVal.keep ?_ | refine FinAgg.keep ?_ | refine Final.mk rfl rfl | refine Final.mk ?_ rfl | refine Final.mk ?_ ?_ | refine FinalT.mk ?_ ?_ | refine FinalI.mk ?_ | refine FinalC.allA ?_)
    | refine AV.bool_congr ?_ | refine AV.int_congr ?_ | refine AV.str_congr ?_ | refine AV.list_congr ?_ | with_reducible rfl | refine fr1 ?_ | refine fr2 ?_ ?_
  refine ALoop.mk Nat (fun i => ⟨[(0, .list none (rows tNode l)), (1, .val (.int .i64 (a - l.length - listSize tNode (l.take i)))), (5, .val (.int .i64 i))], [], []⟩) (fun i => i ≤ l.length ∧ (0 : Int) ≤ a - l.length - listSize tNode (l.take i)) (fun i => l.length - i) ⟨0, ⟨Nat.zero_le _, by simp [listSize]; omega⟩, ?_⟩ (fun i hi => ?_)
  · repeat' first
      | exact trivial | refine Weak.mk ?_ ?_ ?_ ?_ (Or.inl (Nat.le_of_ble_eq_true rfl)) | refine Weak.mk ?_ ?_ ?_ ?_ (Or.inr ⟨(by repeat' first | exact trivial | exact Nat.le_of_ble_eq_true rfl | refine And.intro ?_ ?_), (by repeat' first | exact trivial | exact Nat.le_of_ble_eq_true rfl | refine And.intro ?_ ?_)⟩) | refine Weak.mk ?_ ?_ ?_ ?_ ?_ | refine And.intro ?_ ?_ | with_reducible rfl | exact Nat.le_of_ble_eq_true rfl | refine fr1 ?_ | refine fr2 ?_ ?_ | refine AV.int_congr ?_ | refine AV.bool_congr ?_ | refine AV.str_congr ?_ | refine AV.list_congr ?_ | refine AV.bsl_congr ?_ ?_ | (apply rfl)
    rw [hw]; simp [listSize]
  obtain ⟨hp1, hp2⟩ := hi
  have hle := listSize_take_le tNode l (i + 1)
  have hbi : i < l.length → tNode.bd (l.getD i default) := fun h => hb _ (List.mem_of_getElem? (tNode_get h))
  have hsz : i < l.length → listSize tNode (l.take (i + 1)) = listSize tNode (l.take i) + tNode.size (l.getD i default) := fun h => listSize_take_succ tNode (tNode_get h)
  repeat' first
    | contradiction | exact trivial
    | (conv => whnf
       first | refine Need.mk (fun h => h) ?_ | refine Need.mk rfl ?_ | refine Need.mk ⟨rfl, Nat.le_of_ble_eq_true rfl⟩ ?_ | refine Need.mk (Nat.le_of_ble_eq_true rfl) ?_ | refine Need.fin ?_ | refine Need.mk ?_ ?_ | refine Ix.strsF rfl ?_ | refine Ix.strs rfl ?_ ?_ | refine Cut.strs rfl ?_ ?_ | refine Ix.mapF (fun _ => rfl) ?_ | refine Ix.map (fun _ => rfl) ?_ ?_ | refine Cut.map (fun _ => rfl) ?_ ?_ | refine Fork.yes (by assumption) ?_ | refine Fork.no (by assumption) ?_ | refine Fork.decYes (by omega) ?_ | refine Fork.decNo (by omega) ?_ | refine Fork.dec (fun _ => ?_) (fun _ => ?_) | refine Fork.bne (fun _ => ?_) (fun _ => ?_) | refine Fork.beq (fun _ => ?_) (fun _ => ?_) | refine Fork.seq (fun _ => ?_) (fun _ => ?_) | refine Fork.sne (fun _ => ?_) (fun _ => ?_) | refine Fork.neg (fun _ => ?_) (fun _ => ?_) | refine Fork.mk (fun _ => ?_) (fun _ => ?_) | refine HAlt.mk ?_ ?_ | apply HJoin.mk3 | exact HEnd.mk rfl rfl rfl | refine HEnd.mk ?_ ?_ ?_ | refine Round.mk ?_ | refine NilQ.mk (fun b hb => ?_) | refine forceK_of ?_ | refine forceBx_of ?_ | refine unG_old ?_ | refine unG_gv ?_ | refine Lit.read rfl ?_ | refine FinVal.keep ?_ | refine FinAgg.keep ?_ | refine Final.mk rfl rfl | refine Final.mk ?_ rfl | refine Final.mk ?_ ?_ | refine FinalT.mk ?_ ?_ | refine FinalI.mk ?_ | refine FinalC.allA ?_ | refine ACall.scalA _ _ (szNode.ret _ _ ?_ ?_ ?_) rfl ?_ | refine AQCall.mkA _ _ (fun hg => szNode.ret _ _ ?_ ?_ ?_) rfl ?_ | refine AGCall.mkA _ _ (fun hg => szNode.ret _ _ ?_ ?_ ?_) rfl ?_)
    | refine AV.bool_congr ?_ | refine AV.int_congr ?_ | refine AV.str_congr ?_ | refine AV.list_congr ?_ | with_reducible rfl | refine fr1 ?_ | refine fr2 ?_ ?_
  · exact hp2
  · omega
  · rename_i h1
    rw [length_rows] at h1
    rw [Int.toNat_natCast]; exact hbi (by omega)
  · rename_i h1 h2
    rw [length_rows] at h1
    rw [Int.toNat_natCast] at h2
    have := hsz (by omega)
    unfold left at h2 ⊢
    split at h2
    · rw [if_pos (by omega)]
    · omega
  · rename_i h1 h2
    rw [length_rows] at h1
    rw [Int.toNat_natCast] at h2
    have := hsz (by omega)
    have e : left (a - ↑l.length - ↑(listSize tNode (l.take i))) (tNode.size (l.getD i default)) = a - ↑l.length - ↑(listSize tNode (l.take (i + 1))) := by
      unfold left at h2 ⊢
      split at h2
      · omega
      · rw [if_neg ‹_›]; omega
    refine ⟨i + 1, ⟨by omega, ?_⟩, ?_, by omega⟩
    · rw [← e]; omega
    · repeat' first
        | exact trivial | refine Weak.mk ?_ ?_ ?_ ?_ (Or.inl (Nat.le_of_ble_eq_true rfl)) | refine Weak.mk ?_ ?_ ?_ ?_ (Or.inr ⟨(by repeat' first | exact trivial | exact Nat.le_of_ble_eq_true rfl | refine And.intro ?_ ?_), (by repeat' first | exact trivial | exact Nat.le_of_ble_eq_true rfl | refine And.intro ?_ ?_)⟩) | refine Weak.mk ?_ ?_ ?_ ?_ ?_ | refine And.intro ?_ ?_ | with_reducible rfl | exact Nat.le_of_ble_eq_true rfl | refine fr1 ?_ | refine fr2 ?_ ?_ | refine AV.int_congr ?_ | refine AV.bool_congr ?_ | refine AV.str_congr ?_ | refine AV.list_congr ?_ | refine AV.bsl_congr ?_ ?_ | (apply rfl)
      · rw [Int.toNat_natCast]; exact e
      · rw [wrap64 (by omega) (by omega)]; rfl
  · rename_i h1
    rw [length_rows] at h1
    rw [List.take_of_length_le (by omega)] at hp2 ⊢
    rw [left, if_neg (by omega)]; omega
theorem eqNodeS.big (l m : List VNode) (h : tNodes.size l ≤ 1099511627775) : eqNodeS.Ret [.list none (rows tNode l), .list none (rows tNode m)] (.val (.bool (decide (l = m)))) [] := by
  refine eqNodeS.of rfl ?_
  rw [tNodes_sz] at h
  repeat' first
    | contradiction | exact trivial
    | (conv => whnf
       first | refine Need.mk (fun h => h) ?_ | refine Need.mk rfl ?_ | refine Need.mk ⟨rfl, Nat.le_of_ble_eq_true rfl⟩ ?_ | refine Need.mk (Nat.le_of_ble_eq_true rfl) ?_ | refine Need.fin ?_ | refine Need.mk ?_ ?_ | refine Ix.strsF rfl ?_ | refine Ix.strs rfl ?_ ?_ | refine Cut.strs rfl ?_ ?_ | refine Ix.mapF (fun _ => rfl) ?_ | refine Ix.map (fun _ => rfl) ?_ ?_ | refine Cut.map (fun _ => rfl) ?_ ?_ | refine Fork.yes (by assumption) ?_ | refine Fork.no (by assumption) ?_ | refine Fork.decYes (by omega) ?_ | refine Fork.decNo (by omega) ?_ | refine Fork.dec (fun _ => ?_) (fun _ => ?_) | refine Fork.bne (fun _ => ?_) (fun _ => ?_) | refine Fork.beq (fun _ => ?_) (fun _ => ?_) | refine Fork.seq (fun _ => ?_) (fun _ => ?_) | refine Fork.sne (fun _ => ?_) (fun _ => ?_) | refine Fork.neg (fun _ => ?_) (fun _ => ?_) | refine Fork.mk (fun _ => ?_) (fun _ => ?_) | refine HAlt.mk ?_ ?_ | apply HJoin.mk3 | exact HEnd.mk rfl rfl rfl | refine HEnd.mk ?_ ?_ ?_ | refine Round.mk ?_ | refine NilQ.mk (fun b hb => ?_) | refine forceK_of ?_ | refine forceBx_of ?_ | refine unG_old ?_ | refine unG_gv ?_ | refine Lit.read rfl ?_ | refine FinVal.keep ?_ | refine FinAgg.keep ?_ | refine Final.mk rfl rfl | refine Final.mk ?_ rfl | refine Final.mk ?_ ?_ | refine FinalT.mk ?_ ?_ | refine FinalI.mk ?_ | refine FinalC.allA ?_)
    | refine AV.bool_congr ?_ | refine AV.int_congr ?_ | refine AV.str_congr ?_ | refine AV.list_congr ?_ | with_reducible rfl | refine fr1 ?_ | refine fr2 ?_ ?_
  · rename_i h
    rw [length_rows, length_rows] at h
    have h3 : ¬ l = m := fun e => h (by rw [e])
    simp [h3]
  rename_i h
  rw [length_rows, length_rows] at h
  have h : l.length = m.length := by omega
  repeat' first
    | contradiction | exact trivial
    | (conv => whnf
       first | refine Need.mk (fun h => h) ?_ | refine Need.mk rfl ?_ | refine Need.mk ⟨rfl, Nat.le_of_ble_eq_true rfl⟩ ?_ | refine Need.mk (Nat.le_of_ble_eq_true rfl) ?_ | refine Need.fin ?_ | refine Need.mk ?_ ?_ | refine Ix.strsF rfl ?_ | refine Ix.strs rfl ?_ ?_ | refine Cut.strs rfl ?_ ?_ | refine Ix.mapF (fun _ => rfl) ?_ | refine Ix.map (fun _ => rfl) ?_ ?_ | refine Cut.map (fun _ => rfl) ?_ ?_ | refine Fork.yes (by assumption) ?_ | refine Fork.no (by assumption) ?_ | refine Fork.decYes (by omega) ?_ | refine Fork.decNo (by omega) ?_ | refine Fork.dec (fun _ => ?_) (fun _ => ?_) | refine Fork.bne (fun _ => ?_) (fun _ => ?_) | refine Fork.beq (fun _ => ?_) (fun _ => ?_) | refine Fork.seq (fun _ => ?_) (fun _ => ?_) | refine Fork.sne (fun _ => ?_) (fun _ => ?_) | refine Fork.neg (fun _ => ?_) (fun _ => ?_) | refine Fork.mk (fun _ => ?_) (fun _ => ?_) | refine HAlt.mk ?_ ?_ | apply HJoin.mk3 | exact HEnd.mk rfl rfl rfl | refine HEnd.mk ?_ ?_ ?_ | refine Round.mk ?_ | refine NilQ.mk (fun b hb => ?_) | refine forceK_of ?_ | refine forceBx_of ?_ | refine unG_old ?_ | refine unG_gv ?_ | refine Lit.read rfl ?_ | refine FinVal.keep ?_ | refine FinAgg.keep ?_ | refine Final.mk rfl rfl | refine Final.mk ?_ rfl | refine Final.mk ?_ ?_ | refine FinalT.mk ?_ ?_ | refine FinalI.mk ?_ | refine FinalC.allA ?_)
    | refine AV.bool_congr ?_ | refine AV.int_congr ?_ | refine AV.str_congr ?_ | refine AV.list_congr ?_ | with_reducible rfl | refine fr1 ?_ | refine fr2 ?_ ?_
  refine ALoop.mk Nat (fun i => ⟨[(0, .list none (rows tNode l)), (1, .list none (rows tNode m)), (5, .val (.int .i64 i))], [], []⟩) (fun i => i ≤ l.length ∧ l.take i = m.take i) (fun i => l.length - i) ⟨0, ⟨Nat.zero_le _, rfl⟩, ?_⟩ (fun i hi => ?_)
  · repeat' first
      | exact trivial | refine Weak.mk ?_ ?_ ?_ ?_ (Or.inl (Nat.le_of_ble_eq_true rfl)) | refine Weak.mk ?_ ?_ ?_ ?_ (Or.inr ⟨(by repeat' first | exact trivial | exact Nat.le_of_ble_eq_true rfl | refine And.intro ?_ ?_), (by repeat' first | exact trivial | exact Nat.le_of_ble_eq_true rfl | refine And.intro ?_ ?_)⟩) | refine Weak.mk ?_ ?_ ?_ ?_ ?_ | refine And.intro ?_ ?_ | with_reducible rfl | exact Nat.le_of_ble_eq_true rfl | refine fr1 ?_ | refine fr2 ?_ ?_ | refine AV.int_congr ?_ | refine AV.bool_congr ?_ | refine AV.str_congr ?_ | refine AV.list_congr ?_ | refine AV.bsl_congr ?_ ?_ | (apply rfl)
  repeat' first
    | contradiction | exact trivial
    | (conv => whnf
       first | refine Need.mk (fun h => h) ?_ | refine Need.mk rfl ?_ | refine Need.mk ⟨rfl, Nat.le_of_ble_eq_true rfl⟩ ?_ | refine Need.mk (Nat.le_of_ble_eq_true rfl) ?_ | refine Need.fin ?_ | refine Need.mk ?_ ?_ | refine Ix.strsF rfl ?_ | refine Ix.strs rfl ?_ ?_ | refine Cut.strs rfl ?_ ?_ | refine Ix.mapF (fun _ => rfl) ?_ | refine Ix.map (fun _ => rfl) ?_ ?_ | refine Cut.map (fun _ => rfl) ?_ ?_ | refine Fork.yes (by assumption) ?_ | refine Fork.no (by assumption) ?_ | refine Fork.decYes (by omega) ?_ | refine Fork.decNo (by omega) ?_ | refine Fork.dec (fun _ => ?_) (fun _ => ?_) | refine Fork.bne (fun _ => ?_) (fun _ => ?_) | refine Fork.beq (fun _ => ?_) (fun _ => ?_) | refine Fork.seq (fun _ => ?_) (fun _ => ?_) | refine Fork.sne (fun _ => ?_) (fun _ => ?_) | refine Fork.neg (fun _ => ?_) (fun _ => ?_) | refine Fork.mk (fun _ => ?_) (fun _ => ?_) | refine HAlt.mk ?_ ?_ | apply HJoin.mk3 | exact HEnd.mk rfl rfl rfl | refine HEnd.mk ?_ ?_ ?_ | refine Round.mk ?_ | refine NilQ.mk (fun b hb => ?_) | refine forceK_of ?_ | refine forceBx_of ?_ | refine unG_old ?_ | refine unG_gv ?_ | refine Lit.read rfl ?_ | refine FinVal.keep ?_ | refine FinAgg.keep ?_ | refine Final.mk rfl rfl | refine Final.mk ?_ rfl | refine Final.mk ?_ ?_ | refine FinalT.mk ?_ ?_ | refine FinalI.mk ?_ | refine FinalC.allA ?_ | refine ACall.scalA _ _ (eqNode.big _ _ ?_) rfl ?_ | refine AQCall.mkA _ _ (fun hg => eqNode.big _ _ ?_) rfl ?_ | refine AGCall.mkA _ _ (fun hg => eqNode.big _ _ ?_) rfl ?_)
    | refine AV.bool_congr ?_ | refine AV.int_congr ?_ | refine AV.str_congr ?_ | refine AV.list_congr ?_ | with_reducible rfl | refine fr1 ?_ | refine fr2 ?_ ?_
  · rename_i h1
    rw [length_rows] at h1
    have := listSize_mem tNode (List.mem_of_getElem? (tNode_get (l := l) (i := i) (by omega)))
    rw [Int.toNat_natCast]; omega
  · rename_i h1 h2
    have h3 : ¬ l = m := fun e => of_decide_eq_false h2 (by rw [e])
    simp [h3]
  · rename_i h1 h2
    rw [length_rows] at h1
    rw [Int.toNat_natCast] at h2
    refine ⟨i + 1, ⟨by omega, ?_⟩, ?_, by omega⟩
    · rw [take_succ' default (by omega), take_succ' (l := m) default (by omega), hi.2, of_decide_eq_true h2]
    · repeat' first
        | exact trivial | refine Weak.mk ?_ ?_ ?_ ?_ (Or.inl (Nat.le_of_ble_eq_true rfl)) | refine Weak.mk ?_ ?_ ?_ ?_ (Or.inr ⟨(by repeat' first | exact trivial | exact Nat.le_of_ble_eq_true rfl | refine And.intro ?_ ?_), (by repeat' first | exact trivial | exact Nat.le_of_ble_eq_true rfl | refine And.intro ?_ ?_)⟩) | refine Weak.mk ?_ ?_ ?_ ?_ ?_ | refine And.intro ?_ ?_ | with_reducible rfl | exact Nat.le_of_ble_eq_true rfl | refine fr1 ?_ | refine fr2 ?_ ?_ | refine AV.int_congr ?_ | refine AV.bool_congr ?_ | refine AV.str_congr ?_ | refine AV.list_congr ?_ | refine AV.bsl_congr ?_ ?_ | (apply rfl)
      rw [wrap64 (by omega) (by omega)]; rfl
  · rename_i h1
    rw [length_rows] at h1
    have h2 := hi.2
    rw [List.take_of_length_le (by omega), List.take_of_length_le (by omega)] at h2
    simp [h2]
end Go.Proofs.YtfnejdkkhpjhmaaGreatDoor
namespace Go.Proofs.YtfnejdkkhpjhmaaGreatDoor
open Abs
def tInts : Ty (List Int) := Ty.plain 3 Ty.int (fun _ => rfl) (fun _ => rfl)
theorem tInts_size (l : List Int) : tInts.size l = l.length + listSize Ty.int l := rfl
theorem szI_zero : ∀ l : List Int, listSize Ty.int l = 0
  | [] => rfl
  | a :: l => by rw [listSize, szI_zero l]; rfl
theorem szI_eq (l : List Int) : l.length = tInts.size l := by rw [tInts_size, szI_zero, Nat.add_zero]
theorem ints_get {l : List Int} {i : Nat} (hi : i < l.length) : l[i]? = some (l.getD i default) := by simp [List.getD, hi]
theorem Abs.ACall.mk_IntS {C : Con} {lend : Bool} {f : Nat} {vs : List AV} {b : List ABox} {fr : Fr} {k : AV → List ABox → Fr → Prop} (ys : List AV) (l : List Int) (h : C.ret f ys (.list (some 0) (rows Ty.int l)) [(3, 1, l.length)]) (hv : SeesL Sees0 vs ys)
    (hk : k (.list (some fr.length) (rows Ty.int l)) b (fr ++ [(3, 1, l.length)])) : ACall C lend f vs b fr k :=
  ACall.mkV tInts ys l (fun n => .list (some n) (rows Ty.int l)) (fun _ => rfl) h hv hk
theorem toIntS.ret (l : List Int) (hl : l.length ≤ 1048576) : toIntS.Ret [.list none (rows Ty.int l)] (.list (some 0) (rows Ty.int l)) [(3, 1, l.length)] := by
  refine toIntS.of rfl ?_
  have hsz : ∀ c ∈ rows Ty.int l, c.length = 1 := oldLL_sz Ty.int.hq
  repeat' first
    | contradiction | exact trivial
    | (conv => whnf
       first | refine Need.mk (fun h => h) ?_ | refine Need.mk rfl ?_ | refine Need.mk ⟨rfl, Nat.le_of_ble_eq_true rfl⟩ ?_ | refine Need.mk (Nat.le_of_ble_eq_true rfl) ?_ | refine Need.fin ?_ | refine Need.mk ?_ ?_ | refine Ix.strsF rfl ?_ | refine Ix.strs rfl ?_ ?_ | refine Cut.strs rfl ?_ ?_ | refine Ix.mapF (fun _ => rfl) ?_ | refine Ix.map (fun _ => rfl) ?_ ?_ | refine Cut.map (fun _ => rfl) ?_ ?_ | refine Fork.yes (by assumption) ?_ | refine Fork.no (by assumption) ?_ | refine Fork.decYes (by omega) ?_ | refine Fork.decNo (by omega) ?_ | refine Fork.dec (fun _ => ?_) (fun _ => ?_) | refine Fork.bne (fun _ => ?_) (fun _ => ?_) | refine Fork.beq (fun _ => ?_) (fun _ => ?_) | refine Fork.seq (fun _ => ?_) (fun _ => ?_) | refine Fork.sne (fun _ => ?_) (fun _ => ?_) | refine Fork.neg (fun _ => ?_) (fun _ => ?_) | refine Fork.mk (fun _ => ?_) (fun _ => ?_) | refine HAlt.mk ?_ ?_ | apply HJoin.mk3 | exact HEnd.mk rfl rfl rfl | refine HEnd.mk ?_ ?_ ?_ | refine Round.mk ?_ | refine NilQ.mk (fun b hb => ?_) | refine forceK_of ?_ | refine forceBx_of ?_ | refine unG_old ?_ | refine unG_gv ?_ | refine Lit.read rfl ?_ | refine FinVal.keep ?_ | refine FinAgg.keep ?_ | refine Final.mk rfl rfl | refine Final.mk ?_ rfl | refine Final.mk ?_ ?_ | refine FinalT.mk ?_ ?_ | refine FinalI.mk ?_ | refine FinalC.allA ?_)
    | refine AV.bool_congr ?_ | refine AV.int_congr ?_ | refine AV.str_congr ?_ | refine AV.list_congr ?_ | with_reducible rfl | refine fr1 ?_ | refine fr2 ?_ ?_
  refine ALoop.mk Nat (fun i => ⟨[(0, .list none (rows Ty.int l)), (3, .bsl 0 l.length), (4, .val (.int .i64 i))], [.cells (.row 3 1) (part [.val (.int .i64 0)] (rows Ty.int l) i)], []⟩) (fun i => i ≤ l.length) (fun i => l.length - i) ⟨0, Nat.zero_le _, ?_⟩ (fun i hi => ?_)
  · repeat' first
      | exact trivial | refine Weak.mk ?_ ?_ ?_ ?_ (Or.inl (Nat.le_of_ble_eq_true rfl)) | refine Weak.mk ?_ ?_ ?_ ?_ (Or.inr ⟨(by repeat' first | exact trivial | exact Nat.le_of_ble_eq_true rfl | refine And.intro ?_ ?_), (by repeat' first | exact trivial | exact Nat.le_of_ble_eq_true rfl | refine And.intro ?_ ?_)⟩) | refine Weak.mk ?_ ?_ ?_ ?_ ?_ | refine And.intro ?_ ?_ | with_reducible rfl | exact Nat.le_of_ble_eq_true rfl | refine fr1 ?_ | refine fr2 ?_ ?_ | refine AV.int_congr ?_ | refine AV.bool_congr ?_ | refine AV.str_congr ?_ | refine AV.list_congr ?_ | refine AV.bsl_congr ?_ ?_ | (apply rfl)
    · simp
    · simp only [List.nil_append, List.length_cons, List.length_nil, List.take_succ_cons, List.take_zero]
      rw [part_made (xs := rows Ty.int l) (sz := 1) rfl (by decide) (by simp)]; rfl
  repeat' first
    | contradiction | exact trivial
    | (conv => whnf
       first | refine Need.mk (fun h => h) ?_ | refine Need.mk rfl ?_ | refine Need.mk ⟨rfl, Nat.le_of_ble_eq_true rfl⟩ ?_ | refine Need.mk (Nat.le_of_ble_eq_true rfl) ?_ | refine Need.fin ?_ | refine Need.mk ?_ ?_ | refine Ix.strsF rfl ?_ | refine Ix.strs rfl ?_ ?_ | refine Cut.strs rfl ?_ ?_ | refine Ix.mapF (fun _ => rfl) ?_ | refine Ix.map (fun _ => rfl) ?_ ?_ | refine Cut.map (fun _ => rfl) ?_ ?_ | refine Fork.yes (by assumption) ?_ | refine Fork.no (by assumption) ?_ | refine Fork.decYes (by omega) ?_ | refine Fork.decNo (by omega) ?_ | refine Fork.dec (fun _ => ?_) (fun _ => ?_) | refine Fork.bne (fun _ => ?_) (fun _ => ?_) | refine Fork.beq (fun _ => ?_) (fun _ => ?_) | refine Fork.seq (fun _ => ?_) (fun _ => ?_) | refine Fork.sne (fun _ => ?_) (fun _ => ?_) | refine Fork.neg (fun _ => ?_) (fun _ => ?_) | refine Fork.mk (fun _ => ?_) (fun _ => ?_) | refine HAlt.mk ?_ ?_ | apply HJoin.mk3 | exact HEnd.mk rfl rfl rfl | refine HEnd.mk ?_ ?_ ?_ | refine Round.mk ?_ | refine NilQ.mk (fun b hb => ?_) | refine forceK_of ?_ | refine forceBx_of ?_ | refine unG_old ?_ | refine unG_gv ?_ | refine Lit.read rfl ?_ | refine FinVal.keep ?_ | refine FinAgg.keep ?_ | refine Final.mk rfl rfl | refine Final.mk ?_ rfl | refine Final.mk ?_ ?_ | refine FinalT.mk ?_ ?_ | refine FinalI.mk ?_ | refine FinalC.allA ?_)
    | refine AV.bool_congr ?_ | refine AV.int_congr ?_ | refine AV.str_congr ?_ | refine AV.list_congr ?_ | with_reducible rfl | refine fr1 ?_ | refine fr2 ?_ ?_
  · rename_i h
    rw [length_rows] at h
    rw [part_len (sz := 1) rfl hsz (by simp; exact hi), Int.toNat_natCast, length_rows]
    exact ⟨rfl, by omega⟩
  · rename_i h
    rw [length_rows] at h
    refine ⟨i + 1, by omega, ?_, by omega⟩
    repeat' first
      | exact trivial | refine Weak.mk ?_ ?_ ?_ ?_ (Or.inl (Nat.le_of_ble_eq_true rfl)) | refine Weak.mk ?_ ?_ ?_ ?_ (Or.inr ⟨(by repeat' first | exact trivial | exact Nat.le_of_ble_eq_true rfl | refine And.intro ?_ ?_), (by repeat' first | exact trivial | exact Nat.le_of_ble_eq_true rfl | refine And.intro ?_ ?_)⟩) | refine Weak.mk ?_ ?_ ?_ ?_ ?_ | refine And.intro ?_ ?_ | with_reducible rfl | exact Nat.le_of_ble_eq_true rfl | refine fr1 ?_ | refine fr2 ?_ ?_ | refine AV.int_congr ?_ | refine AV.bool_congr ?_ | refine AV.str_congr ?_ | refine AV.list_congr ?_ | refine AV.bsl_congr ?_ ?_ | (apply rfl)
    · rw [wrap64 (by omega) (by omega)]; rfl
    · have hg : (rows Ty.int l)[i]? = some (oldL (Ty.int.q (l.getD i default))) := by rw [rows, oldLL_eq, List.getElem?_map, List.getElem?_map, ints_get (by omega), oldL_eq]; rfl
      have := part_set (z := [.val (.int .i64 0)]) (sz := 1) rfl hsz hg
      simp only [List.set_cons_zero, List.take_succ_cons, List.take_zero, List.length_cons, List.length_nil, Int.toNat_natCast]
      exact congrArg (fun c => [ABox.cells (.row 3 1) c]) this
  · rename_i h
    rw [length_rows] at h
    conv => whnf
    have : i = l.length := by omega
    subst this
    have hall := part_all [.val (.int .i64 0)] (rows Ty.int l)
    rw [length_rows] at hall
    refine FreezeD.flat (Freeze.mk (rows Ty.int l) _ 3 1 rfl hall (length_rows _ _) hsz (fun c hc => ?_) ?_)
    · rw [hall, ← rowsP_tks Ty.int (fun _ => rfl) (fun _ => rfl)] at hc; exact tks_nr Ty.int l 0 c hc
    · exact Final.mk rfl rfl
theorem szIntS.ret (l : List Int) (a : Int) (h0 : 0 ≤ a) (ha : a ≤ 1048576) (hl : l.length ≤ 9223372036854775807) :
    szIntS.Ret [.list none (rows Ty.int l), .val (.int .i64 a)] (.val (.int .i64 (left a l.length))) [] := by
  refine szIntS.of rfl ?_
  have hw : IntKind.i64.wrap (a - ((rows Ty.int l).length : Int)) = a - l.length := by rw [length_rows]; exact wrap64 (by omega) (by omega)
  repeat' first
    | contradiction | exact trivial
    | (conv => whnf
       first | refine Need.mk (fun h => h) ?_ | refine Need.mk rfl ?_ | refine Need.mk ⟨rfl, Nat.le_of_ble_eq_true rfl⟩ ?_ | refine Need.mk (Nat.le_of_ble_eq_true rfl) ?_ | refine Need.fin ?_ | refine Need.mk ?_ ?_ | refine Ix.strsF rfl ?_ | refine Ix.strs rfl ?_ ?_ | refine Cut.strs rfl ?_ ?_ | refine Ix.mapF (fun _ => rfl) ?_ | refine Ix.map (fun _ => rfl) ?_ ?_ | refine Cut.map (fun _ => rfl) ?_ ?_ | refine Fork.yes (by assumption) ?_ | refine Fork.no (by assumption) ?_ | refine Fork.decYes (by omega) ?_ | refine Fork.decNo (by omega) ?_ | refine Fork.dec (fun _ => ?_) (fun _ => ?_) | refine Fork.bne (fun _ => ?_) (fun _ => ?_) | refine Fork.beq (fun _ => ?_) (fun _ => ?_) | refine Fork.seq (fun _ => ?_) (fun _ => ?_) | refine Fork.sne (fun _ => ?_) (fun _ => ?_) | refine Fork.neg (fun _ => ?_) (fun _ => ?_) | refine Fork.mk (fun _ => ?_) (fun _ => ?_) | refine HAlt.mk ?_ ?_ | apply HJoin.mk3 | exact HEnd.mk rfl rfl rfl | refine HEnd.mk ?_ ?_ ?_ | refine Round.mk ?_ | refine NilQ.mk (fun b hb => ?_) | refine forceK_of ?_ | refine forceBx_of ?_ | refine unG_old ?_ | refine unG_gv ?_ | refine Lit.read rfl ?_ | refine FinVal.keep ?_ | refine FinAgg.keep ?_ | refine Final.mk rfl rfl | refine Final.mk ?_ rfl | refine Final.mk ?_ ?_ | refine FinalT.mk ?_ ?_ | refine FinalI.mk ?_ | refine FinalC.allA ?_)
    | refine AV.bool_congr ?_ | refine AV.int_congr ?_ | refine AV.str_congr ?_ | refine AV.list_congr ?_ | with_reducible rfl | refine fr1 ?_ | refine fr2 ?_ ?_
  all_goals rename_i h
  all_goals rw [hw] at h
  · rw [left, if_pos (by omega)]
  · rw [hw, left, if_neg (by omega)]
theorem eqIntS.big (l m : List Int) (h : tInts.size l ≤ 1099511627775) : eqIntS.Ret [.list none (rows Ty.int l), .list none (rows Ty.int m)] (.val (.bool (decide (l = m)))) [] := by
  refine eqIntS.of rfl ?_
  rw [← szI_eq] at h
  repeat' first
    | (conv => whnf
       first | refine Need.mk rfl ?_ | refine Fork.bne (fun _ => ?_) (fun _ => ?_) | refine FinVal.keep ?_ | refine Final.mk ?_ rfl)
    | refine AV.bool_congr ?_
  · rename_i h
    rw [length_rows, length_rows] at h
    have h3 : ¬ l = m := fun e => h (by rw [e])
    simp [h3]
  rename_i h
  rw [length_rows, length_rows] at h
  have h : l.length = m.length := by omega
  skip
  refine ALoop.mk Nat (fun i => ⟨[(0, .list none (rows Ty.int l)), (1, .list none (rows Ty.int m)), (5, .val (.int .i64 i))], [], []⟩) (fun i => i ≤ l.length ∧ l.take i = m.take i) (fun i => l.length - i) ⟨0, ⟨Nat.zero_le _, rfl⟩, ?_⟩ (fun i hi => ?_)
  · repeat' first
      | exact trivial | refine Weak.mk ?_ ?_ ?_ ?_ (Or.inl (Nat.le_of_ble_eq_true rfl)) | refine And.intro ?_ ?_ | with_reducible rfl | exact Nat.le_of_ble_eq_true rfl | refine AV.int_congr ?_ | refine AV.list_congr ?_ | (apply rfl)
  repeat' first
    | (conv => whnf
       first | refine Need.mk rfl ?_ | refine Ix.mapF (fun _ => rfl) ?_ | refine Fork.dec (fun _ => ?_) (fun _ => ?_) | refine Fork.bne (fun _ => ?_) (fun _ => ?_) | refine Round.mk ?_ | refine FinVal.keep ?_ | refine Final.mk ?_ rfl)
    | refine AV.bool_congr ?_
  · rename_i h1 h2
    have h3 : ¬ l = m := fun e => h2 (by rw [e])
    simp [h3]
  · rename_i h1 h2
    rw [length_rows] at h1
    refine ⟨i + 1, ⟨by omega, ?_⟩, ?_, by omega⟩
    · rw [take_succ' default (by omega), take_succ' (l := m) default (by omega), hi.2]
      rw [Int.toNat_natCast] at h2
      have h2' : l.getD i default = m.getD i default := h2
      rw [h2']
    · repeat' first
        | exact trivial | refine Weak.mk ?_ ?_ ?_ ?_ (Or.inl (Nat.le_of_ble_eq_true rfl)) | refine And.intro ?_ ?_ | with_reducible rfl | exact Nat.le_of_ble_eq_true rfl | refine AV.int_congr ?_ | refine AV.list_congr ?_ | (apply rfl)
      rw [wrap64 (by omega) (by omega)]; rfl
  · rename_i h1
    rw [length_rows] at h1
    have h2 := hi.2
    rw [List.take_of_length_le (by omega), List.take_of_length_le (by omega)] at h2
    simp [h2]
end Go.Proofs.YtfnejdkkhpjhmaaGreatDoor
namespace Go.Proofs.YtfnejdkkhpjhmaaGreatDoor
open Abs
abbrev VNetwork := List VRule × List Int × List VAlpha × List VNode × List Fct × Int
instance : DecidableEq VNetwork := instDecidableEqProd
def tNetwork : Ty VNetwork := Ty.pair tRules (Ty.pair tInts (Ty.pair tAlphas (Ty.pair tNodes (Ty.pair tFcts Ty.int))))
theorem tNetwork_size (a : VNetwork) : tNetwork.size a = tRules.size a.1 + (tInts.size a.2.1 + (tAlphas.size a.2.2.1 + (tNodes.size a.2.2.2.1 + (tFcts.size a.2.2.2.2.1 + 0)))) := rfl
set_option maxHeartbeats 4000000 in
theorem toNetwork.ret (a : VNetwork) (h : tNetwork.size a ≤ 1048576) : toNetwork.Ret [.agg (oldL (tNetwork.q a))] (.agg (tNetwork.tk a 0)) (tNetwork.fr a) := by
  refine toNetwork.of rfl ?_
  rw [tNetwork_size] at h
  have hf1 := szI_eq a.2.1
  repeat' first
    | contradiction | exact trivial
    | (conv => whnf
       first | refine Need.mk (fun h => h) ?_ | refine Need.mk rfl ?_ | refine Need.mk ⟨rfl, Nat.le_of_ble_eq_true rfl⟩ ?_ | refine Need.mk (Nat.le_of_ble_eq_true rfl) ?_ | refine Need.fin ?_ | refine Need.mk ?_ ?_ | refine Ix.strsF rfl ?_ | refine Ix.strs rfl ?_ ?_ | refine Cut.strs rfl ?_ ?_ | refine Ix.mapF (fun _ => rfl) ?_ | refine Ix.map (fun _ => rfl) ?_ ?_ | refine Cut.map (fun _ => rfl) ?_ ?_ | refine Fork.yes (by assumption) ?_ | refine Fork.no (by assumption) ?_ | refine Fork.decYes (by omega) ?_ | refine Fork.decNo (by omega) ?_ | refine Fork.dec (fun _ => ?_) (fun _ => ?_) | refine Fork.bne (fun _ => ?_) (fun _ => ?_) | refine Fork.beq (fun _ => ?_) (fun _ => ?_) | refine Fork.seq (fun _ => ?_) (fun _ => ?_) | refine Fork.sne (fun _ => ?_) (fun _ => ?_) | refine Fork.neg (fun _ => ?_) (fun _ => ?_) | refine Fork.mk (fun _ => ?_) (fun _ => ?_) | refine HAlt.mk ?_ ?_ | apply HJoin.mk3 | exact HEnd.mk rfl rfl rfl | refine HEnd.mk ?_ ?_ ?_ | refine Round.mk ?_ | refine NilQ.mk (fun b hb => ?_) | refine forceK_of ?_ | refine forceBx_of ?_ | refine unG_old ?_ | refine unG_gv ?_ | refine Lit.read rfl ?_ | refine FinVal.keep ?_ | refine FinAgg.keep ?_ | refine Final.mk rfl rfl | refine Final.mk ?_ rfl | refine Final.mk ?_ ?_ | refine FinalT.mk ?_ ?_ | refine FinalI.mk ?_ | refine FinalC.allA ?_ | refine ACall.mk_RuleS _ _ (toRuleS.ret _ ?_) (by repeat' first | exact SeesL.nil | refine SeesL.cons ?_ ?_ | exact SeesB.of0 (Sees0.val _) | exact SeesB.of0 (Sees0.str _) | exact SeesB.of0 (Sees0.olds _ _) | exact SeesB.of0 (Sees0.old _) | exact SeesB.of0 (Sees0.oldagg _) | exact SeesB.of0 Sees0.nil | exact Sees0.val _ | exact Sees0.str _ | exact Sees0.olds _ _ | exact Sees0.old _ | exact Sees0.oldagg _ | exact Sees0.nil | exact SeesB.of0 (Sees0.any _) | assumption | exact sees_gv _ _ _ (by assumption) (by first | assumption | exact BoxIn.last _ _ | exact BoxIn.more (BoxIn.last _ _) _) | refine SeesB.agg ?_ | refine Sees0.agg ?_ | exact SeesB.of0 (Sees0.clo SeesL.nil SeesL.nil) | exact Sees0.clo SeesL.nil SeesL.nil | exact SeesB.of0 (Sees0.list rfl) | exact Sees0.list rfl) ?_ | refine ACall.mk_IntS _ _ (toIntS.ret _ ?_) (by repeat' first | exact SeesL.nil | refine SeesL.cons ?_ ?_ | exact SeesB.of0 (Sees0.val _) | exact SeesB.of0 (Sees0.str _) | exact SeesB.of0 (Sees0.olds _ _) | exact SeesB.of0 (Sees0.old _) | exact SeesB.of0 (Sees0.oldagg _) | exact SeesB.of0 Sees0.nil | exact Sees0.val _ | exact Sees0.str _ | exact Sees0.olds _ _ | exact Sees0.old _ | exact Sees0.oldagg _ | exact Sees0.nil | exact SeesB.of0 (Sees0.any _) | assumption | exact sees_gv _ _ _ (by assumption) (by first | assumption | exact BoxIn.last _ _ | exact BoxIn.more (BoxIn.last _ _) _) | refine SeesB.agg ?_ | refine Sees0.agg ?_ | exact SeesB.of0 (Sees0.clo SeesL.nil SeesL.nil) | exact Sees0.clo SeesL.nil SeesL.nil | exact SeesB.of0 (Sees0.list rfl) | exact Sees0.list rfl) ?_ | refine ACall.mk_AlphaS _ _ (toAlphaS.ret _ ?_) (by repeat' first | exact SeesL.nil | refine SeesL.cons ?_ ?_ | exact SeesB.of0 (Sees0.val _) | exact SeesB.of0 (Sees0.str _) | exact SeesB.of0 (Sees0.olds _ _) | exact SeesB.of0 (Sees0.old _) | exact SeesB.of0 (Sees0.oldagg _) | exact SeesB.of0 Sees0.nil | exact Sees0.val _ | exact Sees0.str _ | exact Sees0.olds _ _ | exact Sees0.old _ | exact Sees0.oldagg _ | exact Sees0.nil | exact SeesB.of0 (Sees0.any _) | assumption | exact sees_gv _ _ _ (by assumption) (by first | assumption | exact BoxIn.last _ _ | exact BoxIn.more (BoxIn.last _ _) _) | refine SeesB.agg ?_ | refine Sees0.agg ?_ | exact SeesB.of0 (Sees0.clo SeesL.nil SeesL.nil) | exact Sees0.clo SeesL.nil SeesL.nil | exact SeesB.of0 (Sees0.list rfl) | exact Sees0.list rfl) ?_ | refine ACall.mk_NodeS _ _ (toNodeS.ret _ ?_) (by repeat' first | exact SeesL.nil | refine SeesL.cons ?_ ?_ | exact SeesB.of0 (Sees0.val _) | exact SeesB.of0 (Sees0.str _) | exact SeesB.of0 (Sees0.olds _ _) | exact SeesB.of0 (Sees0.old _) | exact SeesB.of0 (Sees0.oldagg _) | exact SeesB.of0 Sees0.nil | exact Sees0.val _ | exact Sees0.str _ | exact Sees0.olds _ _ | exact Sees0.old _ | exact Sees0.oldagg _ | exact Sees0.nil | exact SeesB.of0 (Sees0.any _) | assumption | exact sees_gv _ _ _ (by assumption) (by first | assumption | exact BoxIn.last _ _ | exact BoxIn.more (BoxIn.last _ _) _) | refine SeesB.agg ?_ | refine Sees0.agg ?_ | exact SeesB.of0 (Sees0.clo SeesL.nil SeesL.nil) | exact Sees0.clo SeesL.nil SeesL.nil | exact SeesB.of0 (Sees0.list rfl) | exact Sees0.list rfl) ?_ | refine ACall.mk_FactS _ _ (toFactS.ret _ ?_) (by repeat' first | exact SeesL.nil | refine SeesL.cons ?_ ?_ | exact SeesB.of0 (Sees0.val _) | exact SeesB.of0 (Sees0.str _) | exact SeesB.of0 (Sees0.olds _ _) | exact SeesB.of0 (Sees0.old _) | exact SeesB.of0 (Sees0.oldagg _) | exact SeesB.of0 Sees0.nil | exact Sees0.val _ | exact Sees0.str _ | exact Sees0.olds _ _ | exact Sees0.old _ | exact Sees0.oldagg _ | exact Sees0.nil | exact SeesB.of0 (Sees0.any _) | assumption | exact sees_gv _ _ _ (by assumption) (by first | assumption | exact BoxIn.last _ _ | exact BoxIn.more (BoxIn.last _ _) _) | refine SeesB.agg ?_ | refine Sees0.agg ?_ | exact SeesB.of0 (Sees0.clo SeesL.nil SeesL.nil) | exact Sees0.clo SeesL.nil SeesL.nil | exact SeesB.of0 (Sees0.list rfl) | exact Sees0.list rfl) ?_)
    | refine AV.bool_congr ?_ | refine AV.int_congr ?_ | refine AV.str_congr ?_ | refine AV.list_congr ?_ | with_reducible rfl | refine fr1 ?_ | refine fr2 ?_ ?_
  all_goals first
    | omega
    | (refine congrArg AV.agg ?_
       repeat' first
         | refine cons_congr ?_ ?_
         | refine tok_congr ?_ ?_
         | refine congrArg (tks _ _) ?_
         | rfl
       all_goals first
         | rfl
         | (have e : ∀ l, (tInts.fr l).length = 1 := fun _ => rfl
            simp only [List.length_append, List.length_nil, List.length_cons, e] <;> omega))
    | (simp [tNetwork, Ty.pair, Ty.str, Ty.int, Ty.bool, List.append_assoc, Nat.add_assoc, Ty.plain, tInts]; done)
set_option maxHeartbeats 4000000 in
theorem toNetwork.own (a : VNetwork) (h : tNetwork.size a ≤ 1048576) : toNetwork.Own [.agg (oldL (tNetwork.q a))] (.a (tNetwork.q a)) := Ty.ownA tNetwork (toNetwork.ret a h)
set_option maxHeartbeats 4000000 in
theorem szNetwork.ret (f : VNetwork) (a : Int) (h0 : 0 ≤ a) (ha : a ≤ 1048576) (hb : tNetwork.bd f) :
    szNetwork.Ret [.agg (oldL (tNetwork.q f)), .val (.int .i64 a)] (.val (.int .i64 (left a (tNetwork.size f)))) [] := by
  refine szNetwork.of rfl ?_
  have hz := tNetwork_size f
  obtain ⟨hb0, hb1, hb2, hb3, hb4, hb5⟩ := hb
  obtain ⟨hbl1, hbe1⟩ := hb1
  have hy1 := szI_eq f.2.1
  by_cases c1 : a < (tRules.size f.1 : Int)
  · have e0 : left a (tRules.size f.1) = -1 := by rw [left, if_pos (by omega)]
    repeat' first
      | contradiction | exact trivial
      | (conv => whnf
         first | refine Need.mk (fun h => h) ?_ | refine Need.mk rfl ?_ | refine Need.mk ⟨rfl, Nat.le_of_ble_eq_true rfl⟩ ?_ | refine Need.mk (Nat.le_of_ble_eq_true rfl) ?_ | refine Need.fin ?_ | refine Need.mk ?_ ?_ | refine Ix.strsF rfl ?_ | refine Ix.strs rfl ?_ ?_ | refine Cut.strs rfl ?_ ?_ | refine Ix.mapF (fun _ => rfl) ?_ | refine Ix.map (fun _ => rfl) ?_ ?_ | refine Cut.map (fun _ => rfl) ?_ ?_ | refine Fork.yes (by assumption) ?_ | refine Fork.no (by assumption) ?_ | refine Fork.decYes (by omega) ?_ | refine Fork.decNo (by omega) ?_ | refine Fork.dec (fun _ => ?_) (fun _ => ?_) | refine Fork.bne (fun _ => ?_) (fun _ => ?_) | refine Fork.beq (fun _ => ?_) (fun _ => ?_) | refine Fork.seq (fun _ => ?_) (fun _ => ?_) | refine Fork.sne (fun _ => ?_) (fun _ => ?_) | refine Fork.neg (fun _ => ?_) (fun _ => ?_) | refine Fork.mk (fun _ => ?_) (fun _ => ?_) | refine HAlt.mk ?_ ?_ | apply HJoin.mk3 | exact HEnd.mk rfl rfl rfl | refine HEnd.mk ?_ ?_ ?_ | refine Round.mk ?_ | refine NilQ.mk (fun b hb => ?_) | refine forceK_of ?_ | refine forceBx_of ?_ | refine unG_old ?_ | refine unG_gv ?_ | refine Lit.read rfl ?_ | refine FinVal.keep ?_ | refine FinAgg.keep ?_ | refine Final.mk rfl rfl | refine Final.mk ?_ rfl | refine Final.mk ?_ ?_ | refine FinalT.mk ?_ ?_ | refine FinalI.mk ?_ | refine FinalC.allA ?_ | refine ACall.scalA _ _ (szRuleS.ret _ _ ?_ ?_ ?_) rfl ?_ | refine AQCall.mkA _ _ (fun hg => szRuleS.ret _ _ ?_ ?_ ?_) rfl ?_ | refine AGCall.mkA _ _ (fun hg => szRuleS.ret _ _ ?_ ?_ ?_) rfl ?_ | refine ACall.scalA _ _ (szIntS.ret _ _ ?_ ?_ ?_) rfl ?_ | refine AQCall.mkA _ _ (fun hg => szIntS.ret _ _ ?_ ?_ ?_) rfl ?_ | refine AGCall.mkA _ _ (fun hg => szIntS.ret _ _ ?_ ?_ ?_) rfl ?_ | refine ACall.scalA _ _ (szAlphaS.ret _ _ ?_ ?_ ?_) rfl ?_ | refine AQCall.mkA _ _ (fun hg => szAlphaS.ret _ _ ?_ ?_ ?_) rfl ?_ | refine AGCall.mkA _ _ (fun hg => szAlphaS.ret _ _ ?_ ?_ ?_) rfl ?_ | refine ACall.scalA _ _ (szNodeS.ret _ _ ?_ ?_ ?_) rfl ?_ | refine AQCall.mkA _ _ (fun hg => szNodeS.ret _ _ ?_ ?_ ?_) rfl ?_ | refine AGCall.mkA _ _ (fun hg => szNodeS.ret _ _ ?_ ?_ ?_) rfl ?_ | refine ACall.scalA _ _ (szFactS.ret _ _ ?_ ?_ ?_) rfl ?_ | refine AQCall.mkA _ _ (fun hg => szFactS.ret _ _ ?_ ?_ ?_) rfl ?_ | refine AGCall.mkA _ _ (fun hg => szFactS.ret _ _ ?_ ?_ ?_) rfl ?_)
      | refine AV.bool_congr ?_ | refine AV.int_congr ?_ | refine AV.str_congr ?_ | refine AV.list_congr ?_ | with_reducible rfl | refine fr1 ?_ | refine fr2 ?_ ?_
    all_goals first
      | assumption
      | omega
      | exact left_eq (by omega)
  by_cases c2 : a < (tRules.size f.1 : Int) + (f.2.1.length : Int)
  · have e0 : left a (tRules.size f.1) = a - (tRules.size f.1 : Int) := by rw [left, if_neg (by omega)]
    have e1 : left (left a (tRules.size f.1)) (f.2.1.length) = -1 := by rw [e0, left, if_pos (by omega)]
    repeat' first
      | contradiction | exact trivial
      | (conv => whnf
         first | refine Need.mk (fun h => h) ?_ | refine Need.mk rfl ?_ | refine Need.mk ⟨rfl, Nat.le_of_ble_eq_true rfl⟩ ?_ | refine Need.mk (Nat.le_of_ble_eq_true rfl) ?_ | refine Need.fin ?_ | refine Need.mk ?_ ?_ | refine Ix.strsF rfl ?_ | refine Ix.strs rfl ?_ ?_ | refine Cut.strs rfl ?_ ?_ | refine Ix.mapF (fun _ => rfl) ?_ | refine Ix.map (fun _ => rfl) ?_ ?_ | refine Cut.map (fun _ => rfl) ?_ ?_ | refine Fork.yes (by assumption) ?_ | refine Fork.no (by assumption) ?_ | refine Fork.decYes (by omega) ?_ | refine Fork.decNo (by omega) ?_ | refine Fork.dec (fun _ => ?_) (fun _ => ?_) | refine Fork.bne (fun _ => ?_) (fun _ => ?_) | refine Fork.beq (fun _ => ?_) (fun _ => ?_) | refine Fork.seq (fun _ => ?_) (fun _ => ?_) | refine Fork.sne (fun _ => ?_) (fun _ => ?_) | refine Fork.neg (fun _ => ?_) (fun _ => ?_) | refine Fork.mk (fun _ => ?_) (fun _ => ?_) | refine HAlt.mk ?_ ?_ | apply HJoin.mk3 | exact HEnd.mk rfl rfl rfl | refine HEnd.mk ?_ ?_ ?_ | refine Round.mk ?_ | refine NilQ.mk (fun b hb => ?_) | refine forceK_of ?_ | refine forceBx_of ?_ | refine unG_old ?_ | refine unG_gv ?_ | refine Lit.read rfl ?_ | refine FinVal.keep ?_ | refine FinAgg.keep ?_ | refine Final.mk rfl rfl | refine Final.mk ?_ rfl | refine Final.mk ?_ ?_ | refine FinalT.mk ?_ ?_ | refine FinalI.mk ?_ | refine FinalC.allA ?_ | refine ACall.scalA _ _ (szRuleS.ret _ _ ?_ ?_ ?_) rfl ?_ | refine AQCall.mkA _ _ (fun hg => szRuleS.ret _ _ ?_ ?_ ?_) rfl ?_ | refine AGCall.mkA _ _ (fun hg => szRuleS.ret _ _ ?_ ?_ ?_) rfl ?_ | refine ACall.scalA _ _ (szIntS.ret _ _ ?_ ?_ ?_) rfl ?_ | refine AQCall.mkA _ _ (fun hg => szIntS.ret _ _ ?_ ?_ ?_) rfl ?_ | refine AGCall.mkA _ _ (fun hg => szIntS.ret _ _ ?_ ?_ ?_) rfl ?_ | refine ACall.scalA _ _ (szAlphaS.ret _ _ ?_ ?_ ?_) rfl ?_ | refine AQCall.mkA _ _ (fun hg => szAlphaS.ret _ _ ?_ ?_ ?_) rfl ?_ | refine AGCall.mkA _ _ (fun hg => szAlphaS.ret _ _ ?_ ?_ ?_) rfl ?_ | refine ACall.scalA _ _ (szNodeS.ret _ _ ?_ ?_ ?_) rfl ?_ | refine AQCall.mkA _ _ (fun hg => szNodeS.ret _ _ ?_ ?_ ?_) rfl ?_ | refine AGCall.mkA _ _ (fun hg => szNodeS.ret _ _ ?_ ?_ ?_) rfl ?_ | refine ACall.scalA _ _ (szFactS.ret _ _ ?_ ?_ ?_) rfl ?_ | refine AQCall.mkA _ _ (fun hg => szFactS.ret _ _ ?_ ?_ ?_) rfl ?_ | refine AGCall.mkA _ _ (fun hg => szFactS.ret _ _ ?_ ?_ ?_) rfl ?_)
      | refine AV.bool_congr ?_ | refine AV.int_congr ?_ | refine AV.str_congr ?_ | refine AV.list_congr ?_ | with_reducible rfl | refine fr1 ?_ | refine fr2 ?_ ?_
    all_goals first
      | assumption
      | omega
      | exact left_eq (by omega)
  by_cases c3 : a < (tRules.size f.1 : Int) + (f.2.1.length : Int) + (tAlphas.size f.2.2.1 : Int)
  · have e0 : left a (tRules.size f.1) = a - (tRules.size f.1 : Int) := by rw [left, if_neg (by omega)]
    have e1 : left (left a (tRules.size f.1)) (f.2.1.length) = a - (tRules.size f.1 : Int) - (f.2.1.length : Int) := by rw [e0, left, if_neg (by omega)]
    have e2 : left (left (left a (tRules.size f.1)) (f.2.1.length)) (tAlphas.size f.2.2.1) = -1 := by rw [e1, left, if_pos (by omega)]
    repeat' first
      | contradiction | exact trivial
      | (conv => whnf
         first | refine Need.mk (fun h => h) ?_ | refine Need.mk rfl ?_ | refine Need.mk ⟨rfl, Nat.le_of_ble_eq_true rfl⟩ ?_ | refine Need.mk (Nat.le_of_ble_eq_true rfl) ?_ | refine Need.fin ?_ | refine Need.mk ?_ ?_ | refine Ix.strsF rfl ?_ | refine Ix.strs rfl ?_ ?_ | refine Cut.strs rfl ?_ ?_ | refine Ix.mapF (fun _ => rfl) ?_ | refine Ix.map (fun _ => rfl) ?_ ?_ | refine Cut.map (fun _ => rfl) ?_ ?_ | refine Fork.yes (by assumption) ?_ | refine Fork.no (by assumption) ?_ | refine Fork.decYes (by omega) ?_ | refine Fork.decNo (by omega) ?_ | refine Fork.dec (fun _ => ?_) (fun _ => ?_) | refine Fork.bne (fun _ => ?_) (fun _ => ?_) | refine Fork.beq (fun _ => ?_) (fun _ => ?_) | refine Fork.seq (fun _ => ?_) (fun _ => ?_) | refine Fork.sne (fun _ => ?_) (fun _ => ?_) | refine Fork.neg (fun _ => ?_) (fun _ => ?_) | refine Fork.mk (fun _ => ?_) (fun _ => ?_) | refine HAlt.mk ?_ ?_ | apply HJoin.mk3 | exact HEnd.mk rfl rfl rfl | refine HEnd.mk ?_ ?_ ?_ | refine Round.mk ?_ | refine NilQ.mk (fun b hb => ?_) | refine forceK_of ?_ | refine forceBx_of ?_ | refine unG_old ?_ | refine unG_gv ?_ | refine Lit.read rfl ?_ | refine FinVal.keep ?_ | refine FinAgg.keep ?_ | refine Final.mk rfl rfl | refine Final.mk ?_ rfl | refine Final.mk ?_ ?_ | refine FinalT.mk ?_ ?_ | refine FinalI.mk ?_ | refine FinalC.allA ?_ | refine ACall.scalA _ _ (szRuleS.ret _ _ ?_ ?_ ?_) rfl ?_ | refine AQCall.mkA _ _ (fun hg => szRuleS.ret _ _ ?_ ?_ ?_) rfl ?_ | refine AGCall.mkA _ _ (fun hg => szRuleS.ret _ _ ?_ ?_ ?_) rfl ?_ | refine ACall.scalA _ _ (szIntS.ret _ _ ?_ ?_ ?_) rfl ?_ | refine AQCall.mkA _ _ (fun hg => szIntS.ret _ _ ?_ ?_ ?_) rfl ?_ | refine AGCall.mkA _ _ (fun hg => szIntS.ret _ _ ?_ ?_ ?_) rfl ?_ | refine ACall.scalA _ _ (szAlphaS.ret _ _ ?_ ?_ ?_) rfl ?_ | refine AQCall.mkA _ _ (fun hg => szAlphaS.ret _ _ ?_ ?_ ?_) rfl ?_ | refine AGCall.mkA _ _ (fun hg => szAlphaS.ret _ _ ?_ ?_ ?_) rfl ?_ | refine ACall.scalA _ _ (szNodeS.ret _ _ ?_ ?_ ?_) rfl ?_ | refine AQCall.mkA _ _ (fun hg => szNodeS.ret _ _ ?_ ?_ ?_) rfl ?_ | refine AGCall.mkA _ _ (fun hg => szNodeS.ret _ _ ?_ ?_ ?_) rfl ?_ | refine ACall.scalA _ _ (szFactS.ret _ _ ?_ ?_ ?_) rfl ?_ | refine AQCall.mkA _ _ (fun hg => szFactS.ret _ _ ?_ ?_ ?_) rfl ?_ | refine AGCall.mkA _ _ (fun hg => szFactS.ret _ _ ?_ ?_ ?_) rfl ?_)
      | refine AV.bool_congr ?_ | refine AV.int_congr ?_ | refine AV.str_congr ?_ | refine AV.list_congr ?_ | with_reducible rfl | refine fr1 ?_ | refine fr2 ?_ ?_
    all_goals first
      | assumption
      | omega
      | exact left_eq (by omega)
  by_cases c4 : a < (tRules.size f.1 : Int) + (f.2.1.length : Int) + (tAlphas.size f.2.2.1 : Int) + (tNodes.size f.2.2.2.1 : Int)
  · have e0 : left a (tRules.size f.1) = a - (tRules.size f.1 : Int) := by rw [left, if_neg (by omega)]
    have e1 : left (left a (tRules.size f.1)) (f.2.1.length) = a - (tRules.size f.1 : Int) - (f.2.1.length : Int) := by rw [e0, left, if_neg (by omega)]
    have e2 : left (left (left a (tRules.size f.1)) (f.2.1.length)) (tAlphas.size f.2.2.1) = a - (tRules.size f.1 : Int) - (f.2.1.length : Int) - (tAlphas.size f.2.2.1 : Int) := by rw [e1, left, if_neg (by omega)]
    have e3 : left (left (left (left a (tRules.size f.1)) (f.2.1.length)) (tAlphas.size f.2.2.1)) (tNodes.size f.2.2.2.1) = -1 := by rw [e2, left, if_pos (by omega)]
    repeat' first
      | contradiction | exact trivial
      | (conv => whnf
         first | refine Need.mk (fun h => h) ?_ | refine Need.mk rfl ?_ | refine Need.mk ⟨rfl, Nat.le_of_ble_eq_true rfl⟩ ?_ | refine Need.mk (Nat.le_of_ble_eq_true rfl) ?_ | refine Need.fin ?_ | refine Need.mk ?_ ?_ | refine Ix.strsF rfl ?_ | refine Ix.strs rfl ?_ ?_ | refine Cut.strs rfl ?_ ?_ | refine Ix.mapF (fun _ => rfl) ?_ | refine Ix.map (fun _ => rfl) ?_ ?_ | refine Cut.map (fun _ => rfl) ?_ ?_ | refine Fork.yes (by assumption) ?_ | refine Fork.no (by assumption) ?_ | refine Fork.decYes (by omega) ?_ | refine Fork.decNo (by omega) ?_ | refine Fork.dec (fun _ => ?_) (fun _ => ?_) | refine Fork.bne (fun _ => ?_) (fun _ => ?_) | refine Fork.beq (fun _ => ?_) (fun _ => ?_) | refine Fork.seq (fun _ => ?_) (fun _ => ?_) | refine Fork.sne (fun _ => ?_) (fun _ => ?_) | refine Fork.neg (fun _ => ?_) (fun _ => ?_) | refine Fork.mk (fun _ => ?_) (fun _ => ?_) | refine HAlt.mk ?_ ?_ | apply HJoin.mk3 | exact HEnd.mk rfl rfl rfl | refine HEnd.mk ?_ ?_ ?_ | refine Round.mk ?_ | refine NilQ.mk (fun b hb => ?_) | refine forceK_of ?_ | refine forceBx_of ?_ | refine unG_old ?_ | refine unG_gv ?_ | refine Lit.read rfl ?_ | refine FinVal.keep ?_ | refine FinAgg.keep ?_ | refine Final.mk rfl rfl | refine Final.mk ?_ rfl | refine Final.mk ?_ ?_ | refine FinalT.mk ?_ ?_ | refine FinalI.mk ?_ | refine FinalC.allA ?_ | refine ACall.scalA _ _ (szRuleS.ret _ _ ?_ ?_ ?_) rfl ?_ | refine AQCall.mkA _ _ (fun hg => szRuleS.ret _ _ ?_ ?_ ?_) rfl ?_ | refine AGCall.mkA _ _ (fun hg => szRuleS.ret _ _ ?_ ?_ ?_) rfl ?_ | refine ACall.scalA _ _ (szIntS.ret _ _ ?_ ?_ ?_) rfl ?_ | refine AQCall.mkA _ _ (fun hg => szIntS.ret _ _ ?_ ?_ ?_) rfl ?_ | refine AGCall.mkA _ _ (fun hg => szIntS.ret _ _ ?_ ?_ ?_) rfl ?_ | refine ACall.scalA _ _ (szAlphaS.ret _ _ ?_ ?_ ?_) rfl ?_ | refine AQCall.mkA _ _ (fun hg => szAlphaS.ret _ _ ?_ ?_ ?_) rfl ?_ | refine AGCall.mkA _ _ (fun hg => szAlphaS.ret _ _ ?_ ?_ ?_) rfl ?_ | refine ACall.scalA _ _ (szNodeS.ret _ _ ?_ ?_ ?_) rfl ?_ | refine AQCall.mkA _ _ (fun hg => szNodeS.ret _ _ ?_ ?_ ?_) rfl ?_ | refine AGCall.mkA _ _ (fun hg => szNodeS.ret _ _ ?_ ?_ ?_) rfl ?_ | refine ACall.scalA _ _ (szFactS.ret _ _ ?_ ?_ ?_) rfl ?_ | refine AQCall.mkA _ _ (fun hg => szFactS.ret _ _ ?_ ?_ ?_) rfl ?_ | refine AGCall.mkA _ _ (fun hg => szFactS.ret _ _ ?_ ?_ ?_) rfl ?_)
      | refine AV.bool_congr ?_ | refine AV.int_congr ?_ | refine AV.str_congr ?_ | refine AV.list_congr ?_ | with_reducible rfl | refine fr1 ?_ | refine fr2 ?_ ?_
    all_goals first
      | assumption
      | omega
      | exact left_eq (by omega)
  by_cases c5 : a < (tRules.size f.1 : Int) + (f.2.1.length : Int) + (tAlphas.size f.2.2.1 : Int) + (tNodes.size f.2.2.2.1 : Int) + (tFcts.size f.2.2.2.2.1 : Int)
  · have e0 : left a (tRules.size f.1) = a - (tRules.size f.1 : Int) := by rw [left, if_neg (by omega)]
    have e1 : left (left a (tRules.size f.1)) (f.2.1.length) = a - (tRules.size f.1 : Int) - (f.2.1.length : Int) := by rw [e0, left, if_neg (by omega)]
    have e2 : left (left (left a (tRules.size f.1)) (f.2.1.length)) (tAlphas.size f.2.2.1) = a - (tRules.size f.1 : Int) - (f.2.1.length : Int) - (tAlphas.size f.2.2.1 : Int) := by rw [e1, left, if_neg (by omega)]
    have e3 : left (left (left (left a (tRules.size f.1)) (f.2.1.length)) (tAlphas.size f.2.2.1)) (tNodes.size f.2.2.2.1) = a - (tRules.size f.1 : Int) - (f.2.1.length : Int) - (tAlphas.size f.2.2.1 : Int) - (tNodes.size f.2.2.2.1 : Int) := by rw [e2, left, if_neg (by omega)]
    have e4 : left (left (left (left (left a (tRules.size f.1)) (f.2.1.length)) (tAlphas.size f.2.2.1)) (tNodes.size f.2.2.2.1)) (tFcts.size f.2.2.2.2.1) = -1 := by rw [e3, left, if_pos (by omega)]
    repeat' first
      | contradiction | exact trivial
      | (conv => whnf
         first | refine Need.mk (fun h => h) ?_ | refine Need.mk rfl ?_ | refine Need.mk ⟨rfl, Nat.le_of_ble_eq_true rfl⟩ ?_ | refine Need.mk (Nat.le_of_ble_eq_true rfl) ?_ | refine Need.fin ?_ | refine Need.mk ?_ ?_ | refine Ix.strsF rfl ?_ | refine Ix.strs rfl ?_ ?_ | refine Cut.strs rfl ?_ ?_ | refine Ix.mapF (fun _ => rfl) ?_ | refine Ix.map (fun _ => rfl) ?_ ?_ | refine Cut.map (fun _ => rfl) ?_ ?_ | refine Fork.yes (by assumption) ?_ | refine Fork.no (by assumption) ?_ | refine Fork.decYes (by omega) ?_ | refine Fork.decNo (by omega) ?_ | refine Fork.dec (fun _ => ?_) (fun _ => ?_) | refine Fork.bne (fun _ => ?_) (fun _ => ?_) | refine Fork.beq (fun _ => ?_) (fun _ => ?_) | refine Fork.seq (fun _ => ?_) (fun _ => ?_) | refine Fork.sne (fun _ => ?_) (fun _ => ?_) | refine Fork.neg (fun _ => ?_) (fun _ => ?_) | refine Fork.mk (fun _ => ?_) (fun _ => ?_) | refine HAlt.mk ?_ ?_ | apply HJoin.mk3 | exact HEnd.mk rfl rfl rfl | refine HEnd.mk ?_ ?_ ?_ | refine Round.mk ?_ | refine NilQ.mk (fun b hb => ?_) | refine forceK_of ?_ | refine forceBx_of ?_ | refine unG_old ?_ | refine unG_gv ?_ | refine Lit.read rfl ?_ | refine FinVal.keep ?_ | refine FinAgg.keep ?_ | refine Final.mk rfl rfl | refine Final.mk ?_ rfl | refine Final.mk ?_ ?_ | refine FinalT.mk ?_ ?_ | refine FinalI.mk ?_ | refine FinalC.allA ?_ | refine ACall.scalA _ _ (szRuleS.ret _ _ ?_ ?_ ?_) rfl ?_ | refine AQCall.mkA _ _ (fun hg => szRuleS.ret _ _ ?_ ?_ ?_) rfl ?_ | refine AGCall.mkA _ _ (fun hg => szRuleS.ret _ _ ?_ ?_ ?_) rfl ?_ | refine ACall.scalA _ _ (szIntS.ret _ _ ?_ ?_ ?_) rfl ?_ | refine AQCall.mkA _ _ (fun hg => szIntS.ret _ _ ?_ ?_ ?_) rfl ?_ | refine AGCall.mkA _ _ (fun hg => szIntS.ret _ _ ?_ ?_ ?_) rfl ?_ | refine ACall.scalA _ _ (szAlphaS.ret _ _ ?_ ?_ ?_) rfl ?_ | refine AQCall.mkA _ _ (fun hg => szAlphaS.ret _ _ ?_ ?_ ?_) rfl ?_ | refine AGCall.mkA _ _ (fun hg => szAlphaS.ret _ _ ?_ ?_ ?_) rfl ?_ | refine ACall.scalA _ _ (szNodeS.ret _ _ ?_ ?_ ?_) rfl ?_ | refine AQCall.mkA _ _ (fun hg => szNodeS.ret _ _ ?_ ?_ ?_) rfl ?_ | refine AGCall.mkA _ _ (fun hg => szNodeS.ret _ _ ?_ ?_ ?_) rfl ?_ | refine ACall.scalA _ _ (szFactS.ret _ _ ?_ ?_ ?_) rfl ?_ | refine AQCall.mkA _ _ (fun hg => szFactS.ret _ _ ?_ ?_ ?_) rfl ?_ | refine AGCall.mkA _ _ (fun hg => szFactS.ret _ _ ?_ ?_ ?_) rfl ?_)
      | refine AV.bool_congr ?_ | refine AV.int_congr ?_ | refine AV.str_congr ?_ | refine AV.list_congr ?_ | with_reducible rfl | refine fr1 ?_ | refine fr2 ?_ ?_
    all_goals first
      | assumption
      | omega
      | exact left_eq (by omega)
  have e0 : left a (tRules.size f.1) = a - (tRules.size f.1 : Int) := by rw [left, if_neg (by omega)]
  have e1 : left (left a (tRules.size f.1)) (f.2.1.length) = a - (tRules.size f.1 : Int) - (f.2.1.length : Int) := by rw [e0, left, if_neg (by omega)]
  have e2 : left (left (left a (tRules.size f.1)) (f.2.1.length)) (tAlphas.size f.2.2.1) = a - (tRules.size f.1 : Int) - (f.2.1.length : Int) - (tAlphas.size f.2.2.1 : Int) := by rw [e1, left, if_neg (by omega)]
  have e3 : left (left (left (left a (tRules.size f.1)) (f.2.1.length)) (tAlphas.size f.2.2.1)) (tNodes.size f.2.2.2.1) = a - (tRules.size f.1 : Int) - (f.2.1.length : Int) - (tAlphas.size f.2.2.1 : Int) - (tNodes.size f.2.2.2.1 : Int) := by rw [e2, left, if_neg (by omega)]
  have e4 : left (left (left (left (left a (tRules.size f.1)) (f.2.1.length)) (tAlphas.size f.2.2.1)) (tNodes.size f.2.2.2.1)) (tFcts.size f.2.2.2.2.1) = a - (tRules.size f.1 : Int) - (f.2.1.length : Int) - (tAlphas.size f.2.2.1 : Int) - (tNodes.size f.2.2.2.1 : Int) - (tFcts.size f.2.2.2.2.1 : Int) := by rw [e3, left, if_neg (by omega)]
  repeat' first
    | contradiction | exact trivial
    | (conv => whnf
       first | refine Need.mk (fun h => h) ?_ | refine Need.mk rfl ?_ | refine Need.mk ⟨rfl, Nat.le_of_ble_eq_true rfl⟩ ?_ | refine Need.mk (Nat.le_of_ble_eq_true rfl) ?_ | refine Need.fin ?_ | refine Need.mk ?_ ?_ | refine Ix.strsF rfl ?_ | refine Ix.strs rfl ?_ ?_ | refine Cut.strs rfl ?_ ?_ | refine Ix.mapF (fun _ => rfl) ?_ | refine Ix.map (fun _ => rfl) ?_ ?_ | refine Cut.map (fun _ => rfl) ?_ ?_ | refine Fork.yes (by assumption) ?_ | refine Fork.no (by assumption) ?_ | refine Fork.decYes (by omega) ?_ | refine Fork.decNo (by omega) ?_ | refine Fork.dec (fun _ => ?_) (fun _ => ?_) | refine Fork.bne (fun _ => ?_) (fun _ => ?_) | refine Fork.beq (fun _ => ?_) (fun _ => ?_) | refine Fork.seq (fun _ => ?_) (fun _ => ?_) | refine Fork.sne (fun _ => ?_) (fun _ => ?_) | refine Fork.neg (fun _ => ?_) (fun _ => ?_) | refine Fork.mk (fun _ => ?_) (fun _ => ?_) | refine HAlt.mk ?_ ?_ | apply HJoin.mk3 | exact HEnd.mk rfl rfl rfl | refine HEnd.mk ?_ ?_ ?_ | refine Round.mk ?_ | refine NilQ.mk (fun b hb => ?_) | refine forceK_of ?_ | refine forceBx_of ?_ | refine unG_old ?_ | refine unG_gv ?_ | refine Lit.read rfl ?_ | refine FinVal.keep ?_ | refine FinAgg.keep ?_ | refine Final.mk rfl rfl | refine Final.mk ?_ rfl | refine Final.mk ?_ ?_ | refine FinalT.mk ?_ ?_ | refine FinalI.mk ?_ | refine FinalC.allA ?_ | refine ACall.scalA _ _ (szRuleS.ret _ _ ?_ ?_ ?_) rfl ?_ | refine AQCall.mkA _ _ (fun hg => szRuleS.ret _ _ ?_ ?_ ?_) rfl ?_ | refine AGCall.mkA _ _ (fun hg => szRuleS.ret _ _ ?_ ?_ ?_) rfl ?_ | refine ACall.scalA _ _ (szIntS.ret _ _ ?_ ?_ ?_) rfl ?_ | refine AQCall.mkA _ _ (fun hg => szIntS.ret _ _ ?_ ?_ ?_) rfl ?_ | refine AGCall.mkA _ _ (fun hg => szIntS.ret _ _ ?_ ?_ ?_) rfl ?_ | refine ACall.scalA _ _ (szAlphaS.ret _ _ ?_ ?_ ?_) rfl ?_ | refine AQCall.mkA _ _ (fun hg => szAlphaS.ret _ _ ?_ ?_ ?_) rfl ?_ | refine AGCall.mkA _ _ (fun hg => szAlphaS.ret _ _ ?_ ?_ ?_) rfl ?_ | refine ACall.scalA _ _ (szNodeS.ret _ _ ?_ ?_ ?_) rfl ?_ | refine AQCall.mkA _ _ (fun hg => szNodeS.ret _ _ ?_ ?_ ?_) rfl ?_ | refine AGCall.mkA _ _ (fun hg => szNodeS.ret _ _ ?_ ?_ ?_) rfl ?_ | refine ACall.scalA _ _ (szFactS.ret _ _ ?_ ?_ ?_) rfl ?_ | refine AQCall.mkA _ _ (fun hg => szFactS.ret _ _ ?_ ?_ ?_) rfl ?_ | refine AGCall.mkA _ _ (fun hg => szFactS.ret _ _ ?_ ?_ ?_) rfl ?_)
    | refine AV.bool_congr ?_ | refine AV.int_congr ?_ | refine AV.str_congr ?_ | refine AV.list_congr ?_ | with_reducible rfl | refine fr1 ?_ | refine fr2 ?_ ?_
  all_goals first
    | assumption
    | omega
    | exact left_eq (by omega)
set_option maxHeartbeats 4000000 in
theorem eqNetwork.big (f g : VNetwork) (h : tNetwork.size f ≤ 1099511627775) : eqNetwork.Ret [.agg (oldL (tNetwork.q f)), .agg (oldL (tNetwork.q g))] (.val (.bool (decide (f = g)))) [] := by
  refine eqNetwork.of rfl ?_
  have hz := tNetwork_size f
  repeat' first
    | contradiction | exact trivial
    | (conv => whnf
       first | refine Need.mk (fun h => h) ?_ | refine Need.mk rfl ?_ | refine Need.mk ⟨rfl, Nat.le_of_ble_eq_true rfl⟩ ?_ | refine Need.mk (Nat.le_of_ble_eq_true rfl) ?_ | refine Need.fin ?_ | refine Need.mk ?_ ?_ | refine Ix.strsF rfl ?_ | refine Ix.strs rfl ?_ ?_ | refine Cut.strs rfl ?_ ?_ | refine Ix.mapF (fun _ => rfl) ?_ | refine Ix.map (fun _ => rfl) ?_ ?_ | refine Cut.map (fun _ => rfl) ?_ ?_ | refine Fork.yes (by assumption) ?_ | refine Fork.no (by assumption) ?_ | refine Fork.decYes (by omega) ?_ | refine Fork.decNo (by omega) ?_ | refine Fork.dec (fun _ => ?_) (fun _ => ?_) | refine Fork.bne (fun _ => ?_) (fun _ => ?_) | refine Fork.beq (fun _ => ?_) (fun _ => ?_) | refine Fork.seq (fun _ => ?_) (fun _ => ?_) | refine Fork.sne (fun _ => ?_) (fun _ => ?_) | refine Fork.neg (fun _ => ?_) (fun _ => ?_) | refine Fork.mk (fun _ => ?_) (fun _ => ?_) | refine HAlt.mk ?_ ?_ | apply HJoin.mk3 | exact HEnd.mk rfl rfl rfl | refine HEnd.mk ?_ ?_ ?_ | refine Round.mk ?_ | refine NilQ.mk (fun b hb => ?_) | refine forceK_of ?_ | refine forceBx_of ?_ | refine unG_old ?_ | refine unG_gv ?_ | refine Lit.read rfl ?_ | refine FinVal.keep ?_ | refine FinAgg.keep ?_ | refine Final.mk rfl rfl | refine Final.mk ?_ rfl | refine Final.mk ?_ ?_ | refine FinalT.mk ?_ ?_ | refine FinalI.mk ?_ | refine FinalC.allA ?_ | refine ACall.scalA _ _ (eqRuleS.big _ _ ?_) rfl ?_ | refine AQCall.mkA _ _ (fun hg => eqRuleS.big _ _ ?_) rfl ?_ | refine AGCall.mkA _ _ (fun hg => eqRuleS.big _ _ ?_) rfl ?_ | refine ACall.scalA _ _ (eqIntS.big _ _ ?_) rfl ?_ | refine AQCall.mkA _ _ (fun hg => eqIntS.big _ _ ?_) rfl ?_ | refine AGCall.mkA _ _ (fun hg => eqIntS.big _ _ ?_) rfl ?_ | refine ACall.scalA _ _ (eqAlphaS.big _ _ ?_) rfl ?_ | refine AQCall.mkA _ _ (fun hg => eqAlphaS.big _ _ ?_) rfl ?_ | refine AGCall.mkA _ _ (fun hg => eqAlphaS.big _ _ ?_) rfl ?_ | refine ACall.scalA _ _ (eqNodeS.big _ _ ?_) rfl ?_ | refine AQCall.mkA _ _ (fun hg => eqNodeS.big _ _ ?_) rfl ?_ | refine AGCall.mkA _ _ (fun hg => eqNodeS.big _ _ ?_) rfl ?_ | refine ACall.scalA _ _ (eqFactS.big _ _ ?_) rfl ?_ | refine AQCall.mkA _ _ (fun hg => eqFactS.big _ _ ?_) rfl ?_ | refine AGCall.mkA _ _ (fun hg => eqFactS.big _ _ ?_) rfl ?_)
    | refine AV.bool_congr ?_ | refine AV.int_congr ?_ | refine AV.str_congr ?_ | refine AV.list_congr ?_ | with_reducible rfl | refine fr1 ?_ | refine fr2 ?_ ?_
  all_goals first
    | omega
    | (simp only [tStrs_size, tInts_size] at *; omega)
    | (obtain ⟨x0, x1, x2, x3, x4, x5⟩ := f; obtain ⟨y0, y1, y2, y3, y4, y5⟩ := g; simp_all)
end Go.Proofs.YtfnejdkkhpjhmaaGreatDoor
namespace Go.Proofs.YtfnejdkkhpjhmaaGreatDoor
open Abs
def l1In.code : ACode := (.seq (.region false [s 6 (.mv (.const (.bool false)))]) (.seq (.region false [s 7 (.mv (t 0)), s 8 (.mv (t 1)), s 9 (.bin .geq (t 7) (t 8)), s 10 (.mv (t 9)), g 10 true 11 (.mv (t 0)), g 10 true 12 (.mv (t 2)), g 10 true 13 (.bin .leq (t 11) (t 12)), s 14 (.and (t 10) (t 13)), s 6 (.mv (t 14))]) .ret))
def l1In.keep : List Nat := [0, 1, 2, 6]
def l1In.res : List RRes := [.tmp 6]
theorem l1In.of {mo : Bool} {args : List AV} {r : AV} {frs : Fr} (hn : Nat.ble args.length Tryz.f81.ntmps = true) (h : aCode (Kn mo Tryz.prog) l1In.keep 0 l1In.code (doneK l1In.res r frs) ⟨argEnv 0 args, [], []⟩) : Abs.Ret mo Tryz.prog 81 args r frs :=
  Abs.Ret.of_ir Tryz.func81 rfl (by kernel_rfl) (Nat.le_of_ble_eq_true hn) (by kernel_rfl) (by kernel_rfl) h
abbrev l1In.Ret (args : List AV) (r : AV) (frs : Fr) : Prop := Abs.Ret true Tryz.prog 81 args r frs
def isDigit.code : ACode := (.seq (.region false [s 2 (.mv (.const (.bool false)))]) (.seq (.region false [s 3 (.mv (t 0)), s 4 (.bin .leq (.const (.int .i32 48)) (t 3)), s 5 (.mv (t 4)), g 5 true 6 (.mv (t 0)), g 5 true 7 (.bin .leq (t 6) (.const (.int .i32 57))), s 8 (.and (t 5) (t 7)), s 2 (.mv (t 8))]) .ret))
def isDigit.keep : List Nat := [0, 2]
def isDigit.res : List RRes := [.tmp 2]
theorem isDigit.of {mo : Bool} {args : List AV} {r : AV} {frs : Fr} (hn : Nat.ble args.length Tryz.f259.ntmps = true) (h : aCode (Kn mo Tryz.prog) isDigit.keep 0 isDigit.code (doneK isDigit.res r frs) ⟨argEnv 0 args, [], []⟩) : Abs.Ret mo Tryz.prog 259 args r frs :=
  Abs.Ret.of_ir Tryz.func259 rfl (by kernel_rfl) (Nat.le_of_ble_eq_true hn) (by kernel_rfl) (by kernel_rfl) h
abbrev isDigit.Ret (args : List AV) (r : AV) (frs : Fr) : Prop := Abs.Ret true Tryz.prog 259 args r frs
def isLetter.code : ACode := (.seq (.region false [s 2 (.mv (.const (.bool false)))]) (.seq (.region false [s 3 (.mv (t 0)), s 4 (.bin .leq (.const (.int .i32 97)) (t 3)), s 5 (.mv (t 4)), g 5 true 6 (.mv (t 0)), g 5 true 7 (.bin .leq (t 6) (.const (.int .i32 122))), s 8 (.and (t 5) (t 7)), s 2 (.mv (t 8))]) .ret))
def isLetter.keep : List Nat := [0, 2]
def isLetter.res : List RRes := [.tmp 2]
theorem isLetter.of {mo : Bool} {args : List AV} {r : AV} {frs : Fr} (hn : Nat.ble args.length Tryz.f235.ntmps = true) (h : aCode (Kn mo Tryz.prog) isLetter.keep 0 isLetter.code (doneK isLetter.res r frs) ⟨argEnv 0 args, [], []⟩) : Abs.Ret mo Tryz.prog 235 args r frs :=
  Abs.Ret.of_ir Tryz.func235 rfl (by kernel_rfl) (Nat.le_of_ble_eq_true hn) (by kernel_rfl) (by kernel_rfl) h
abbrev isLetter.Ret (args : List AV) (r : AV) (frs : Fr) : Prop := Abs.Ret true Tryz.prog 235 args r frs
def sIsAtom.code : ACode := (.seq (.region false [s 2 (.mv (.const (.bool false)))]) (.seq (.seq (.region false [s 3 (.mv (.const (.int .i64 0)))]) (.block 0 (.loop (.seq (.seq (.region false [s 4 (.mv (t 3)), s 5 (.mv (t 0)), s 6 (.len true (t 5)), s 7 (.bin .lss (t 4) (t 6))]) (.cond (t 7) .skip (.exit 0))) (.seq (.block 1 (.seq (.region false [s 10 (.mv (t 0)), s 11 (.mv (t 3)), s 12 (.index (t 10) (t 11)), s 13 (.conv .i64 (t 12)), s 14 (.call 81 [(t 13), (.const (.int .i64 97)), (.const (.int .i64 122))]), s 15 (.not (t 14)), s 16 (.mv (t 15)), g 16 true 17 (.mv (t 0)), g 16 true 18 (.mv (t 3)), g 16 true 19 (.index (t 17) (t 18)), g 16 true 20 (.conv .i64 (t 19)), g 16 true 21 (.call 81 [(t 20), (.const (.int .i64 48)), (.const (.int .i64 57))]), g 16 true 22 (.not (t 21)), s 23 (.and (t 16) (t 22))]) (.cond (t 23) (.seq (.region false [s 2 (.mv (.const (.bool false)))]) .ret) .skip))) (.region false [s 8 (.mv (t 3)), s 9 (.bin .add (t 8) (.const (.int .i64 1))), s 3 (.mv (t 9))])))))) (.seq (.region false [s 24 (.mv (t 0)), s 25 (.len true (t 24)), s 26 (.call 81 [(t 25), (.const (.int .i64 1)), (.const (.int .i64 8))]), s 2 (.mv (t 26))]) .ret)))
def sIsAtom.keep : List Nat := [0, 2, 3]
def sIsAtom.res : List RRes := [.tmp 2]
theorem sIsAtom.of {mo : Bool} {args : List AV} {r : AV} {frs : Fr} (hn : Nat.ble args.length Tryz.f192.ntmps = true) (h : aCode (Kn mo Tryz.prog) sIsAtom.keep 0 sIsAtom.code (doneK sIsAtom.res r frs) ⟨argEnv 0 args, [], []⟩) : Abs.Ret mo Tryz.prog 192 args r frs :=
  Abs.Ret.of_ir Tryz.func192 rfl (by kernel_rfl) (Nat.le_of_ble_eq_true hn) (by kernel_rfl) (by kernel_rfl) h
abbrev sIsAtom.Ret (args : List AV) (r : AV) (frs : Fr) : Prop := Abs.Ret true Tryz.prog 192 args r frs
def pIsAtom.code : ACode := (.seq (.region false [s 2 (.mv (.const (.bool false)))]) (.seq (.seq (.region false [s 5 (.mv (t 0)), s 6 (.bin .eql (t 5) (.const (.string (.mk #[])))), s 7 (.mv (t 6)), g 7 false 8 (.mv (t 0)), g 7 false 9 (.len true (t 8)), g 7 false 10 (.bin .gtr (t 9) (.const (.int .i64 8))), s 11 (.or (t 7) (t 10))]) (.cond (t 11) (.seq (.region false [s 2 (.mv (.const (.bool false)))]) .ret) .skip)) (.seq (.seq (.region false [s 12 (.mv (t 0)), s 13 (.range (t 12))]) (.block 0 (.loop (.seq (.region false [s 14 (.next (t 13)), s 15 (.extract (t 14) 0)]) (.seq (.cond (t 15) .skip (.exit 0)) (.block 1 (.seq (.region false [s 16 (.extract (t 14) 2), s 4 (.mv (t 16))]) (.seq (.region false [s 17 (.mv (t 4)), s 18 (.call 235 [(t 17)]), s 19 (.not (t 18)), s 20 (.mv (t 19)), g 20 true 21 (.mv (t 4)), g 20 true 22 (.call 259 [(t 21)]), g 20 true 23 (.not (t 22)), s 24 (.and (t 20) (t 23))]) (.cond (t 24) (.seq (.region false [s 2 (.mv (.const (.bool false)))]) .ret) .skip))))))))) (.seq (.region false [s 2 (.mv (.const (.bool true)))]) .ret))))
def pIsAtom.keep : List Nat := [0, 2, 4, 13, 14, 15]
def pIsAtom.res : List RRes := [.tmp 2]
theorem pIsAtom.of {mo : Bool} {args : List AV} {r : AV} {frs : Fr} (hn : Nat.ble args.length Tryz.f207.ntmps = true) (h : aCode (Kn mo Tryz.prog) pIsAtom.keep 0 pIsAtom.code (doneK pIsAtom.res r frs) ⟨argEnv 0 args, [], []⟩) : Abs.Ret mo Tryz.prog 207 args r frs :=
  Abs.Ret.of_ir Tryz.func207 rfl (by kernel_rfl) (Nat.le_of_ble_eq_true hn) (by kernel_rfl) (by kernel_rfl) h
abbrev pIsAtom.Ret (args : List AV) (r : AV) (frs : Fr) : Prop := Abs.Ret true Tryz.prog 207 args r frs
def sIsName.code : ACode := (.seq (.region false [s 2 (.mv (.const (.bool false)))]) (.seq (.region false [s 3 (.mv (t 0)), s 4 (.call 192 [(t 3)]), s 5 (.mv (t 4)), g 5 true 6 (.mv (t 0)), g 5 true 7 (.index (t 6) (.const (.int .i64 0))), g 5 true 8 (.conv .i64 (t 7)), g 5 true 9 (.call 81 [(t 8), (.const (.int .i64 97)), (.const (.int .i64 122))]), s 10 (.and (t 5) (t 9)), s 2 (.mv (t 10))]) .ret))
def sIsName.keep : List Nat := [0, 2]
def sIsName.res : List RRes := [.tmp 2]
theorem sIsName.of {mo : Bool} {args : List AV} {r : AV} {frs : Fr} (hn : Nat.ble args.length Tryz.f159.ntmps = true) (h : aCode (Kn mo Tryz.prog) sIsName.keep 0 sIsName.code (doneK sIsName.res r frs) ⟨argEnv 0 args, [], []⟩) : Abs.Ret mo Tryz.prog 159 args r frs :=
  Abs.Ret.of_ir Tryz.func159 rfl (by kernel_rfl) (Nat.le_of_ble_eq_true hn) (by kernel_rfl) (by kernel_rfl) h
abbrev sIsName.Ret (args : List AV) (r : AV) (frs : Fr) : Prop := Abs.Ret true Tryz.prog 159 args r frs
def pIsName.code : ACode := (.seq (.region false [s 2 (.mv (.const (.bool false)))]) (.seq (.region false [s 3 (.mv (t 0)), s 4 (.call 207 [(t 3)]), s 5 (.mv (t 4)), g 5 true 6 (.mv (t 0)), g 5 true 7 (.index (t 6) (.const (.int .i64 0))), g 5 true 8 (.conv .i32 (t 7)), g 5 true 9 (.call 235 [(t 8)]), s 10 (.and (t 5) (t 9)), s 2 (.mv (t 10))]) .ret))
def pIsName.keep : List Nat := [0, 2]
def pIsName.res : List RRes := [.tmp 2]
theorem pIsName.of {mo : Bool} {args : List AV} {r : AV} {frs : Fr} (hn : Nat.ble args.length Tryz.f172.ntmps = true) (h : aCode (Kn mo Tryz.prog) pIsName.keep 0 pIsName.code (doneK pIsName.res r frs) ⟨argEnv 0 args, [], []⟩) : Abs.Ret mo Tryz.prog 172 args r frs :=
  Abs.Ret.of_ir Tryz.func172 rfl (by kernel_rfl) (Nat.le_of_ble_eq_true hn) (by kernel_rfl) (by kernel_rfl) h
abbrev pIsName.Ret (args : List AV) (r : AV) (frs : Fr) : Prop := Abs.Ret true Tryz.prog 172 args r frs
def sIsVar.code : ACode := (.seq (.region false [s 2 (.mv (.const (.bool false)))]) (.seq (.region false [s 3 (.mv (t 0)), s 4 (.len true (t 3)), s 5 (.bin .gtr (t 4) (.const (.int .i64 1))), s 6 (.mv (t 5)), g 6 true 7 (.mv (t 0)), g 6 true 8 (.index (t 7) (.const (.int .i64 0))), g 6 true 9 (.bin .eql (t 8) (.const (.int .u8 63))), s 10 (.and (t 6) (t 9)), s 11 (.mv (t 10)), g 11 true 12 (.mv (t 0)), g 11 true 13 (.slice true 0 (t 12) (some (.const (.int .i64 1))) none), g 11 true 14 (.call 192 [(t 13)]), s 15 (.and (t 11) (t 14)), s 2 (.mv (t 15))]) .ret))
def sIsVar.keep : List Nat := [0, 2]
def sIsVar.res : List RRes := [.tmp 2]
theorem sIsVar.of {mo : Bool} {args : List AV} {r : AV} {frs : Fr} (hn : Nat.ble args.length Tryz.f219.ntmps = true) (h : aCode (Kn mo Tryz.prog) sIsVar.keep 0 sIsVar.code (doneK sIsVar.res r frs) ⟨argEnv 0 args, [], []⟩) : Abs.Ret mo Tryz.prog 219 args r frs :=
  Abs.Ret.of_ir Tryz.func219 rfl (by kernel_rfl) (Nat.le_of_ble_eq_true hn) (by kernel_rfl) (by kernel_rfl) h
abbrev sIsVar.Ret (args : List AV) (r : AV) (frs : Fr) : Prop := Abs.Ret true Tryz.prog 219 args r frs
def pIsVar.code : ACode := (.seq (.region false [s 2 (.mv (.const (.bool false)))]) (.seq (.region false [s 6 (.mv (t 0)), s 7 (.call 264 [(t 6), (.const (.string (.mk #[63])))]), s 5 (.mv (t 7)), s 8 (.extract (t 5) 0), s 9 (.extract (t 5) 1), s 3 (.mv (t 8)), s 4 (.mv (t 9))]) (.seq (.region false [s 10 (.mv (t 4)), s 11 (.mv (t 10)), g 11 true 12 (.mv (t 3)), g 11 true 13 (.call 207 [(t 12)]), s 14 (.and (t 11) (t 13)), s 2 (.mv (t 14))]) .ret)))
def pIsVar.keep : List Nat := [0, 2, 3, 4]
def pIsVar.res : List RRes := [.tmp 2]
theorem pIsVar.of {mo : Bool} {args : List AV} {r : AV} {frs : Fr} (hn : Nat.ble args.length Tryz.f220.ntmps = true) (h : aCode (Kn mo Tryz.prog) pIsVar.keep 0 pIsVar.code (doneK pIsVar.res r frs) ⟨argEnv 0 args, [], []⟩) : Abs.Ret mo Tryz.prog 220 args r frs :=
  Abs.Ret.of_ir Tryz.func220 rfl (by kernel_rfl) (Nat.le_of_ble_eq_true hn) (by kernel_rfl) (by kernel_rfl) h
abbrev pIsVar.Ret (args : List AV) (r : AV) (frs : Fr) : Prop := Abs.Ret true Tryz.prog 220 args r frs
def sIsTerm.code : ACode := (.seq (.region false [s 2 (.mv (.const (.bool false)))]) (.seq (.region false [s 3 (.mv (t 0)), s 4 (.call 192 [(t 3)]), s 5 (.mv (t 4)), g 5 false 6 (.mv (t 0)), g 5 false 7 (.call 219 [(t 6)]), s 8 (.or (t 5) (t 7)), s 2 (.mv (t 8))]) .ret))
def sIsTerm.keep : List Nat := [0, 2]
def sIsTerm.res : List RRes := [.tmp 2]
theorem sIsTerm.of {mo : Bool} {args : List AV} {r : AV} {frs : Fr} (hn : Nat.ble args.length Tryz.f226.ntmps = true) (h : aCode (Kn mo Tryz.prog) sIsTerm.keep 0 sIsTerm.code (doneK sIsTerm.res r frs) ⟨argEnv 0 args, [], []⟩) : Abs.Ret mo Tryz.prog 226 args r frs :=
  Abs.Ret.of_ir Tryz.func226 rfl (by kernel_rfl) (Nat.le_of_ble_eq_true hn) (by kernel_rfl) (by kernel_rfl) h
abbrev sIsTerm.Ret (args : List AV) (r : AV) (frs : Fr) : Prop := Abs.Ret true Tryz.prog 226 args r frs
def pIsTerm.code : ACode := (.seq (.region false [s 2 (.mv (.const (.bool false)))]) (.seq (.region false [s 3 (.mv (t 0)), s 4 (.call 207 [(t 3)]), s 5 (.mv (t 4)), g 5 false 6 (.mv (t 0)), g 5 false 7 (.call 220 [(t 6)]), s 8 (.or (t 5) (t 7)), s 2 (.mv (t 8))]) .ret))
def pIsTerm.keep : List Nat := [0, 2]
def pIsTerm.res : List RRes := [.tmp 2]
theorem pIsTerm.of {mo : Bool} {args : List AV} {r : AV} {frs : Fr} (hn : Nat.ble args.length Tryz.f276.ntmps = true) (h : aCode (Kn mo Tryz.prog) pIsTerm.keep 0 pIsTerm.code (doneK pIsTerm.res r frs) ⟨argEnv 0 args, [], []⟩) : Abs.Ret mo Tryz.prog 276 args r frs :=
  Abs.Ret.of_ir Tryz.func276 rfl (by kernel_rfl) (Nat.le_of_ble_eq_true hn) (by kernel_rfl) (by kernel_rfl) h
abbrev pIsTerm.Ret (args : List AV) (r : AV) (frs : Fr) : Prop := Abs.Ret true Tryz.prog 276 args r frs
def cutPrefix.code : ACode := (.seq (.region false [s 4 (.mv (.const (.string (.mk #[])))), s 5 (.mv (.const (.bool false)))]) (.seq (.region false [s 6 (.mv (t 0)), s 7 (.mv (t 1)), s 8 (.call 304 [(t 6), (t 7)]), s 9 (.extract (t 8) 0), s 10 (.extract (t 8) 1), s 4 (.mv (t 9)), s 5 (.mv (t 10))]) .ret))
def cutPrefix.keep : List Nat := [0, 1, 4, 5]
def cutPrefix.res : List RRes := [.tmp 4, .tmp 5]
theorem cutPrefix.of {mo : Bool} {args : List AV} {r : AV} {frs : Fr} (hn : Nat.ble args.length Tryz.f264.ntmps = true) (h : aCode (Kn mo Tryz.prog) cutPrefix.keep 0 cutPrefix.code (doneK cutPrefix.res r frs) ⟨argEnv 0 args, [], []⟩) : Abs.Ret mo Tryz.prog 264 args r frs :=
  Abs.Ret.of_ir Tryz.func264 rfl (by kernel_rfl) (Nat.le_of_ble_eq_true hn) (by kernel_rfl) (by kernel_rfl) h
abbrev cutPrefix.Ret (args : List AV) (r : AV) (frs : Fr) : Prop := Abs.Ret true Tryz.prog 264 args r frs
def slCutPrefix.code : ACode := (.seq (.region false [s 4 (.mv (.const (.string (.mk #[])))), s 5 (.mv (.const (.bool false)))]) (.seq (.seq (.region false [s 6 (.mv (t 0)), s 7 (.mv (t 1)), s 8 (.call 325 [(t 6), (t 7)]), s 9 (.not (t 8))]) (.cond (t 9) (.seq (.region false [s 10 (.mv (t 0)), s 4 (.mv (t 10)), s 5 (.mv (.const (.bool false)))]) .ret) .skip)) (.seq (.region false [s 11 (.mv (t 0)), s 12 (.mv (t 1)), s 13 (.len true (t 12)), s 14 (.slice true 0 (t 11) (some (t 13)) none), s 4 (.mv (t 14)), s 5 (.mv (.const (.bool true)))]) .ret)))
def slCutPrefix.keep : List Nat := [0, 1, 4, 5]
def slCutPrefix.res : List RRes := [.tmp 4, .tmp 5]
theorem slCutPrefix.of {mo : Bool} {args : List AV} {r : AV} {frs : Fr} (hn : Nat.ble args.length Tryz.f304.ntmps = true) (h : aCode (Kn mo Tryz.prog) slCutPrefix.keep 0 slCutPrefix.code (doneK slCutPrefix.res r frs) ⟨argEnv 0 args, [], []⟩) : Abs.Ret mo Tryz.prog 304 args r frs :=
  Abs.Ret.of_ir Tryz.func304 rfl (by kernel_rfl) (Nat.le_of_ble_eq_true hn) (by kernel_rfl) (by kernel_rfl) h
abbrev slCutPrefix.Ret (args : List AV) (r : AV) (frs : Fr) : Prop := Abs.Ret true Tryz.prog 304 args r frs
def slHasPrefix.code : ACode := (.seq (.region false [s 4 (.mv (.const (.bool false)))]) (.seq (.region false [s 5 (.mv (t 0)), s 6 (.len true (t 5)), s 7 (.mv (t 1)), s 8 (.len true (t 7)), s 9 (.bin .geq (t 6) (t 8)), s 10 (.mv (t 9)), g 10 true 11 (.mv (t 0)), g 10 true 12 (.mv (t 1)), g 10 true 13 (.len true (t 12)), g 10 true 14 (.slice true 0 (t 11) none (some (t 13))), g 10 true 15 (.mv (t 1)), g 10 true 16 (.bin .eql (t 14) (t 15)), s 17 (.and (t 10) (t 16)), s 4 (.mv (t 17))]) .ret))
def slHasPrefix.keep : List Nat := [0, 1, 4]
def slHasPrefix.res : List RRes := [.tmp 4]
theorem slHasPrefix.of {mo : Bool} {args : List AV} {r : AV} {frs : Fr} (hn : Nat.ble args.length Tryz.f325.ntmps = true) (h : aCode (Kn mo Tryz.prog) slHasPrefix.keep 0 slHasPrefix.code (doneK slHasPrefix.res r frs) ⟨argEnv 0 args, [], []⟩) : Abs.Ret mo Tryz.prog 325 args r frs :=
  Abs.Ret.of_ir Tryz.func325 rfl (by kernel_rfl) (Nat.le_of_ble_eq_true hn) (by kernel_rfl) (by kernel_rfl) h
abbrev slHasPrefix.Ret (args : List AV) (r : AV) (frs : Fr) : Prop := Abs.Ret true Tryz.prog 325 args r frs
def sFormatInt.code : ACode := (.seq (.region false [s 2 (.mv (.const (.string (.mk #[]))))]) (.seq (.seq (.region false [s 4 (.mv (t 0)), s 5 (.bin .eql (t 4) (.const (.int .i64 (-9223372036854775808))))]) (.cond (t 5) (.seq (.region false [s 2 (.mv (.const (.string (.mk #[45, 57, 50, 50, 51, 51, 55, 50, 48, 51, 54, 56, 53, 52, 55, 55, 53, 56, 48, 56]))))]) .ret) .skip)) (.seq (.seq (.region false [s 6 (.mv (t 0)), s 7 (.bin .lss (t 6) (.const (.int .i64 0)))]) (.cond (t 7) (.seq (.region false [s 8 (.mv (t 0)), s 9 (.neg (t 8)), s 10 (.call 82 [(t 9)]), s 11 (.bin .add (.const (.string (.mk #[45]))) (t 10)), s 2 (.mv (t 11))]) .ret) .skip)) (.seq (.region false [s 3 (.mv (.const (.string (.mk #[]))))]) (.block 0 (.loop (.block 1 (.seq (.region false [s 12 (.mv (t 0)), s 13 (.bin .rem (t 12) (.const (.int .i64 10))), s 14 (.bin .add (.const (.int .i64 48)) (t 13)), s 15 (.conv .u8 (t 14)), s 16 (.bslice 5 1 true [(t 15)]), s 17 (.b2s (t 16)), s 18 (.mv (t 3)), s 19 (.bin .add (t 17) (t 18)), s 3 (.mv (t 19))]) (.seq (.region false [s 20 (.mv (t 0)), s 21 (.bin .quo (t 20) (.const (.int .i64 10))), s 0 (.mv (t 21))]) (.seq (.region false [s 22 (.mv (t 0)), s 23 (.bin .eql (t 22) (.const (.int .i64 0)))]) (.cond (t 23) (.seq (.region false [s 24 (.mv (t 3)), s 2 (.mv (t 24))]) .ret) .skip)))))))))))
def sFormatInt.keep : List Nat := [0, 2, 3]
def sFormatInt.res : List RRes := [.tmp 2]
theorem sFormatInt.ofS {mo : Bool} {args : List AV} {r : AV} (hr : isScalR r = true) (hn : Nat.ble args.length Tryz.f82.ntmps = true) (h : aCode (Kn mo Tryz.prog) sFormatInt.keep 0 sFormatInt.code (doneS sFormatInt.res r) ⟨argEnv 0 args, [], []⟩) : Abs.Ret mo Tryz.prog 82 args r [] :=
  Abs.Ret.of_irS hr Tryz.func82 rfl (by kernel_rfl) (Nat.le_of_ble_eq_true hn) (by kernel_rfl) (by kernel_rfl) h
abbrev sFormatInt.Ret (args : List AV) (r : AV) (frs : Fr) : Prop := Abs.Ret true Tryz.prog 82 args r frs
def sJoin.code : ACode := (.seq (.region false [s 4 (.mv (.const (.string (.mk #[]))))]) (.seq (.region false [s 5 (.mv (.const (.string (.mk #[]))))]) (.seq (.seq (.region false [s 6 (.mv (.const (.int .i64 0)))]) (.block 0 (.loop (.seq (.seq (.region false [s 7 (.mv (t 6)), s 8 (.mv (t 0)), s 9 (.len false (t 8)), s 10 (.bin .lss (t 7) (t 9))]) (.cond (t 10) .skip (.exit 0))) (.seq (.block 1 (.seq (.seq (.region false [s 13 (.mv (t 6)), s 14 (.bin .gtr (t 13) (.const (.int .i64 0)))]) (.cond (t 14) (.region false [s 15 (.mv (t 5)), s 16 (.mv (t 1)), s 17 (.bin .add (t 15) (t 16)), s 5 (.mv (t 17))]) .skip)) (.region false [s 18 (.mv (t 5)), s 19 (.mv (t 0)), s 20 (.mv (t 6)), s 21 (.iadr 1 (t 19) (t 20)), s 22 (.load false 1 (t 21)), s 23 (.bin .add (t 18) (t 22)), s 5 (.mv (t 23))]))) (.region false [s 11 (.mv (t 6)), s 12 (.bin .add (t 11) (.const (.int .i64 1))), s 6 (.mv (t 12))])))))) (.seq (.region false [s 24 (.mv (t 5)), s 4 (.mv (t 24))]) .ret))))
def sJoin.keep : List Nat := [0, 1, 4, 5, 6]
def sJoin.res : List RRes := [.tmp 4]
theorem sJoin.of {mo : Bool} {args : List AV} {r : AV} {frs : Fr} (hn : Nat.ble args.length Tryz.f227.ntmps = true) (h : aCode (Kn mo Tryz.prog) sJoin.keep 0 sJoin.code (doneK sJoin.res r frs) ⟨argEnv 0 args, [], []⟩) : Abs.Ret mo Tryz.prog 227 args r frs :=
  Abs.Ret.of_ir Tryz.func227 rfl (by kernel_rfl) (Nat.le_of_ble_eq_true hn) (by kernel_rfl) (by kernel_rfl) h
abbrev sJoin.Ret (args : List AV) (r : AV) (frs : Fr) : Prop := Abs.Ret true Tryz.prog 227 args r frs
def pJoin.code : ACode := (.seq (.region false [s 4 (.mv (.const (.string (.mk #[]))))]) (.seq (.region false [s 5 (.mv (t 0)), s 6 (.mv (t 1)), s 7 (.call 233 [(t 5), (t 6)]), s 4 (.mv (t 7))]) .ret))
def pJoin.keep : List Nat := [0, 1, 4]
def pJoin.res : List RRes := [.tmp 4]
theorem pJoin.of {mo : Bool} {args : List AV} {r : AV} {frs : Fr} (hn : Nat.ble args.length Tryz.f156.ntmps = true) (h : aCode (Kn mo Tryz.prog) pJoin.keep 0 pJoin.code (doneK pJoin.res r frs) ⟨argEnv 0 args, [], []⟩) : Abs.Ret mo Tryz.prog 156 args r frs :=
  Abs.Ret.of_ir Tryz.func156 rfl (by kernel_rfl) (Nat.le_of_ble_eq_true hn) (by kernel_rfl) (by kernel_rfl) h
abbrev pJoin.RetN (args : List AV) (r : AV) (frs : Fr) : Prop := Abs.Ret false Tryz.prog 156 args r frs
def slEqual.code : ACode := (.seq (.region false [s 4 (.mv (.const (.bool false)))]) (.seq (.seq (.region false [s 6 (.mv (t 0)), s 7 (.len false (t 6)), s 8 (.mv (t 1)), s 9 (.len false (t 8)), s 10 (.bin .neq (t 7) (t 9))]) (.cond (t 10) (.seq (.region false [s 4 (.mv (.const (.bool false)))]) .ret) .skip)) (.seq (.seq (.region false [s 11 (.mv (t 0)), s 12 (.len false (t 11)), s 13 (.mv (.const (.int .i64 0)))]) (.block 0 (.loop (.seq (.region false [s 14 (.bin .lss (t 13) (t 12))]) (.seq (.cond (t 14) .skip (.exit 0)) (.seq (.block 1 (.seq (.region false [s 15 (.mv (t 13)), s 5 (.mv (t 15))]) (.seq (.region true [s 16 (.mv (t 0)), s 17 (.mv (t 5)), s 18 (.iadr 1 (t 16) (t 17)), s 19 (.load false 1 (t 18)), s 20 (.mv (t 1)), s 21 (.mv (t 5)), s 22 (.iadr 1 (t 20) (t 21)), s 23 (.load false 1 (t 22)), s 24 (.bin .neq (t 19) (t 23))]) (.cond (t 24) (.seq (.region false [s 4 (.mv (.const (.bool false)))]) .ret) .skip)))) (.region false [s 25 (.bin .add (t 13) (.const (.int .i64 1))), s 13 (.mv (t 25))]))))))) (.seq (.region false [s 4 (.mv (.const (.bool true)))]) .ret))))
def slEqual.keep : List Nat := [0, 1, 4, 5, 12, 13, 14]
def slEqual.res : List RRes := [.tmp 4]
theorem slEqual.of {mo : Bool} {args : List AV} {r : AV} {frs : Fr} (hn : Nat.ble args.length Tryz.f262.ntmps = true) (h : aCode (Kn mo Tryz.prog) slEqual.keep 0 slEqual.code (doneK slEqual.res r frs) ⟨argEnv 0 args, [], []⟩) : Abs.Ret mo Tryz.prog 262 args r frs :=
  Abs.Ret.of_ir Tryz.func262 rfl (by kernel_rfl) (Nat.le_of_ble_eq_true hn) (by kernel_rfl) (by kernel_rfl) h
abbrev slEqual.Ret (args : List AV) (r : AV) (frs : Fr) : Prop := Abs.Ret true Tryz.prog 262 args r frs
end Go.Proofs.YtfnejdkkhpjhmaaGreatDoor
namespace Go.Proofs.YtfnejdkkhpjhmaaGreatDoor
open Abs
theorem l1In.ret (x a b : Int) : l1In.Ret [.val (.int .i64 x), .val (.int .i64 a), .val (.int .i64 b)] (.val (.bool (decide (a ≤ x) && decide (x ≤ b)))) [] := by
  refine l1In.of rfl ?_
  repeat' first
    | (conv => whnf
       first | refine Need.mk (fun h => h) ?_ | refine Need.mk rfl ?_ | refine FinVal.keep ?_ | refine Final.mk rfl rfl)
def letter (c : Int) : Bool := decide (97 ≤ c) && decide (c ≤ 122)
def digit (c : Int) : Bool := decide (48 ≤ c) && decide (c ≤ 57)
theorem isLetter.ret (x : Int) : isLetter.Ret [.val (.int .i32 x)] (.val (.bool (letter x))) [] := by
  refine isLetter.of rfl ?_; unfold letter
  repeat' first
    | (conv => whnf
       first | refine Need.mk (fun h => h) ?_ | refine Need.mk rfl ?_ | refine FinVal.keep ?_ | refine Final.mk rfl rfl)
theorem isDigit.ret (x : Int) : isDigit.Ret [.val (.int .i32 x)] (.val (.bool (digit x))) [] := by
  refine isDigit.of rfl ?_; unfold digit
  repeat' first
    | (conv => whnf
       first | refine Need.mk (fun h => h) ?_ | refine Need.mk rfl ?_ | refine FinVal.keep ?_ | refine Final.mk rfl rfl)
def alnum (c : UInt8) : Bool := letter c.toNat || digit c.toNat
def atomF (s : Str) : Bool := s.all alnum && (decide (1 ≤ (s.length : Int)) && decide ((s.length : Int) ≤ 8))
theorem wrap64_byte (c : UInt8) : IntKind.i64.wrap (c.toNat : Int) = c.toNat := wrap64 (by omega) (by have := c.toNat_lt; omega)
theorem wrap32_byte (c : UInt8) : IntKind.i32.wrap (c.toNat : Int) = c.toNat := by have h := c.toNat_lt; exact Go.IntWalk.i32_in _ ⟨by omega, by omega⟩
theorem atomF_no {x : Str} {i : Nat} (hi : i < x.length) (h : alnum (x.getD i 0) = false) : atomF x = false := by
  have : x.all alnum = false := by
    rw [List.all_eq_false]
    refine ⟨x.getD i 0, ?_, by rw [h]; simp⟩
    simp [List.getD, hi]
  simp [atomF, this]
theorem all_succ {x : Str} {i : Nat} (hi : i < x.length) (h : (x.take i).all alnum = true) (hc : alnum (x.getD i 0) = true) : (x.take (i + 1)).all alnum = true := by
  rw [take_succ' 0 hi, List.all_append, h]; simpa using hc
theorem all_end {x : Str} {i : Nat} (hi : x.length ≤ i) (h : (x.take i).all alnum = true) : x.all alnum = true := by
  rwa [List.take_of_length_le hi] at h
theorem nor {p q : Bool} (h : (!p && !q) = true) : (p || q) = false := by cases p <;> cases q <;> simp_all
theorem nor' {p q : Bool} (h : (!p && !q) = false) : (p || q) = true := by cases p <;> cases q <;> simp_all
theorem dec_cases (x : Str) (i : Nat) (hi : i < x.length) :
    ((x.getD i 0).toNat < 128 ∧ decodeS x i = ((x.getD i 0).toNat, 1)) ∨ (128 ≤ (x.getD i 0).toNat ∧ 128 ≤ (decodeS x i).1) := by
  have hs : i < (⟨x.toArray⟩ : ByteArray).size := hi
  have he : (⟨x.toArray⟩ : ByteArray)[i]'hs = x.getD i 0 := by
    have : (⟨x.toArray⟩ : ByteArray)[i]'hs = x[i] := rfl
    rw [this]; simp [List.getD, hi]
  rcases Nat.lt_or_ge (x.getD i 0).toNat 128 with h | h
  · exact .inl ⟨h, by unfold decodeS; rw [decode_ascii _ _ hs (by rw [he]; exact h), he]⟩
  · exact .inr ⟨h, (decode_high _ _ hs (by rw [he]; exact h)).1⟩
theorem sIsAtom.ret (x : Str) (hx : x.length ≤ 1048576) : sIsAtom.Ret [.str x] (.val (.bool (atomF x))) [] := by
  refine sIsAtom.of rfl ?_
  skip
  refine ALoop.mk Nat (fun i => ⟨[(0, .str x), (3, .val (.int .i64 i))], [], []⟩) (fun i => i ≤ x.length ∧ (x.take i).all alnum = true) (fun i => x.length - i) ⟨0, ⟨Nat.zero_le _, rfl⟩, ?_⟩ (fun i hi => ?_)
  · repeat' first
      | exact trivial | refine Weak.mk ?_ ?_ ?_ ?_ (Or.inl (Nat.le_of_ble_eq_true rfl)) | refine And.intro ?_ ?_ | with_reducible rfl | exact Nat.le_of_ble_eq_true rfl | refine AV.int_congr ?_ | refine AV.str_congr ?_ | (apply rfl)
  repeat' first
    | (conv => whnf
       first | refine Need.mk (fun h => h) ?_ | refine Need.mk rfl ?_ | refine Need.fin ?_ | refine Fork.dec (fun _ => ?_) (fun _ => ?_) | refine Fork.mk (fun _ => ?_) (fun _ => ?_) | refine Round.mk ?_ | refine FinVal.keep ?_ | refine Final.mk ?_ rfl | refine ACall.scalA _ _ (l1In.ret _ _ _) rfl ?_ | refine AGCall.mkA _ _ (fun hg => l1In.ret _ _ _) rfl ?_)
    | refine AV.bool_congr ?_
  · rename_i h0 h1
    rw [atomF_no (i := i) (by omega) (by simp only [wrap64_byte, Int.toNat_natCast] at h1; exact nor h1)]
  · rename_i h0 h1
    refine ⟨i + 1, ⟨by omega, all_succ (by omega) hi.2 ?_⟩, ?_, by omega⟩
    · simp only [wrap64_byte, Int.toNat_natCast] at h1; exact nor' h1
    · repeat' first
        | exact trivial | refine Weak.mk ?_ ?_ ?_ ?_ (Or.inl (Nat.le_of_ble_eq_true rfl)) | refine And.intro ?_ ?_ | with_reducible rfl | exact Nat.le_of_ble_eq_true rfl | refine AV.int_congr ?_ | refine AV.str_congr ?_ | (apply rfl)
      rw [wrap64 (by omega) (by omega)]; rfl
  · simp [atomF, all_end (by omega) hi.2]
theorem pIsAtom.ret (x : Str) (hx : x.length ≤ 1048576) : pIsAtom.Ret [.str x] (.val (.bool (atomF x))) [] := by
  refine pIsAtom.of rfl ?_
  repeat' first
    | (conv => whnf
       first | refine Need.mk (fun h => h) ?_ | refine Need.mk rfl ?_ | refine Fork.mk (fun _ => ?_) (fun _ => ?_) | refine FinVal.keep ?_ | refine Final.mk ?_ rfl)
    | refine AV.bool_congr ?_
  all_goals try refine ALoop.mk Nat (fun i => ⟨[(0, .str x), (13, .bptr 0 0)], [.iter x i], []⟩) (fun i => i ≤ x.length ∧ (x.take i).all alnum = true) (fun i => x.length - i) ⟨0, ⟨Nat.zero_le _, rfl⟩, ?_⟩ (fun i hi => ?_)
  rotate_left
  · repeat' first
      | exact trivial | refine Weak.mk ?_ ?_ ?_ ?_ (Or.inl (Nat.le_of_ble_eq_true rfl)) | refine And.intro ?_ ?_ | with_reducible rfl | exact Nat.le_of_ble_eq_true rfl | refine AV.str_congr ?_ | (apply rfl)
  repeat' first
    | contradiction
    | (conv => whnf
       first | refine Need.mk (fun h => h) ?_ | refine Fork.dec (fun _ => ?_) (fun _ => ?_) | refine Fork.mk (fun _ => ?_) (fun _ => ?_) | refine Round.mk ?_ | refine FinVal.keep ?_ | refine Final.mk ?_ rfl | refine ACall.scalA _ _ (isLetter.ret _) rfl ?_ | refine AGCall.mkA _ _ (fun hg => isDigit.ret _) rfl ?_)
    | refine AV.bool_congr ?_
  · rename_i h0 _ h1
    refine (atomF_no h0 ?_).symm
    rcases dec_cases x i h0 with ⟨_, h⟩ | ⟨h, _⟩
    · rw [h] at h1; exact nor h1
    · rw [List.getD_eq_getElem?_getD] at h; simp [alnum, letter, digit]; omega
  · rename_i h0 _ h1
    rcases dec_cases x i h0 with ⟨_, h⟩ | ⟨_, h⟩
    · rw [h] at h1
      refine ⟨i + 1, ⟨h0, all_succ h0 hi.2 (nor' h1)⟩, ?_, by omega⟩
      repeat' first
        | exact trivial | refine Weak.mk ?_ ?_ ?_ ?_ (Or.inl (Nat.le_of_ble_eq_true rfl)) | refine And.intro ?_ ?_ | with_reducible rfl | exact Nat.le_of_ble_eq_true rfl | refine AV.str_congr ?_ | (apply rfl)
      simp [h]
    · exfalso
      revert h1; simp [letter, digit]; omega
  · rename_i h1 h2 _
    simp only [Bool.or_eq_false_iff, decide_eq_false_iff_not] at h1
    have h3 : x ≠ [] := by simpa using h1.1
    have h4 : 0 < x.length := List.length_pos_iff.2 h3
    have h5 : (1 : Int) ≤ x.length := by omega
    have h6 : (x.length : Int) ≤ 8 := by omega
    simp [atomF, all_end (by omega) hi.2, h5, h6]
  · rename_i h1
    rcases Bool.or_eq_true_iff.1 h1 with h | h
    · have h3 : x = [] := by simpa using h
      subst h3; rfl
    · have : ¬ ((x.length : Int) ≤ 8) := by have := of_decide_eq_true h; omega
      simp [atomF, this]
end Go.Proofs.YtfnejdkkhpjhmaaGreatDoor
namespace Go.Proofs.YtfnejdkkhpjhmaaGreatDoor
open Abs
def fmt (n : Nat) : Str := if h : n < 10 then [UInt8.ofNat (48 + n)] else fmt (n / 10) ++ [UInt8.ofNat (48 + n % 10)]
termination_by n
decreasing_by omega
def dval (n : Nat) (c : UInt8) : Nat := 10 * n + (c.toNat - 48)
def valA (a : Nat) (s : Str) : Nat := s.foldl dval a
def dig (c : UInt8) : Bool := digit c.toNat
theorem dig_range {c : UInt8} (h : dig c = true) : 48 ≤ c.toNat ∧ c.toNat ≤ 57 := by
  simp [dig, digit] at h; omega
theorem fmt_small {n : Nat} (h : n < 10) : fmt n = [UInt8.ofNat (48 + n)] := by rw [fmt, dif_pos h]
theorem fmt_big {n : Nat} (h : 10 ≤ n) : fmt n = fmt (n / 10) ++ [UInt8.ofNat (48 + n % 10)] := by rw [fmt, dif_neg (by omega)]
theorem ofNat_dig {c : UInt8} (h : dig c = true) : UInt8.ofNat (48 + (c.toNat - 48)) = c := by
  have := dig_range h
  have e : 48 + (c.toNat - 48) = c.toNat := by omega
  rw [e]; exact UInt8.ofNat_toNat
theorem fmt_valA {s : Str} (h : s.all dig = true) (a : Nat) (ha : 0 < a) : fmt (valA a s) = fmt a ++ s := by
  induction s generalizing a with
  | nil => simp [valA]
  | cons c s ih =>
    simp only [List.all_cons, Bool.and_eq_true] at h
    have h2 := dig_range h.1
    show fmt (valA (dval a c) s) = _
    rw [ih h.2 (dval a c) (by unfold dval; omega)]
    have h3 : dval a c / 10 = a := by unfold dval; omega
    have h4 : dval a c % 10 = c.toNat - 48 := by unfold dval; omega
    rw [fmt_big (n := dval a c) (by unfold dval; omega), h3, h4, ofNat_dig h.1]
    simp
/-- a text that is a number, as it is written -/
def isNum (s : Str) : Bool := match s with
  | [] => false
  | [c] => dig c
  | c :: d :: s => (c :: d :: s).all dig && c != 48
theorem fmt_of_isNum {s : Str} (h : isNum s = true) : fmt (valA 0 s) = s := by
  match s, h with
  | [c], h =>
    have h2 := dig_range h
    have e : valA 0 [c] = c.toNat - 48 := by simp [valA, dval]
    rw [e, fmt_small (by omega), ofNat_dig h]
  | c :: d :: s, h =>
    simp only [isNum, Bool.and_eq_true, bne_iff_ne, ne_eq] at h
    have hc : dig c = true := by have := h.1; simp only [List.all_cons, Bool.and_eq_true] at this; exact this.1
    have hs : (d :: s).all dig = true := by have := h.1; rw [List.all_cons, Bool.and_eq_true] at this; exact this.2
    have h2 := dig_range hc
    have h3 : c.toNat ≠ 48 := fun e => h.2 (by rw [← UInt8.ofNat_toNat (x := c), e]; rfl)
    show fmt (valA (dval 0 c) (d :: s)) = _
    have e : dval 0 c = c.toNat - 48 := by simp [dval]
    rw [e, fmt_valA hs _ (by omega), fmt_small (by omega), ofNat_dig hc]
    rfl
end Go.Proofs.YtfnejdkkhpjhmaaGreatDoor
namespace Go.Proofs
open Go.Shelf
def Tryz.laysM171_ren : Go.Shelf.Ren := ⟨fun | 171 => 152 | 243 => 228 | 246 => 275 | 283 => 310 | 284 => 311 | 285 => 312 | 286 => 313 | 129 => 274 | 317 => 327 | 318 => 328 | 319 => 329 | 320 => 330 | 337 => 344 | 338 => 345 | n => n, fun | 3 => 3 | 9 => 9 | 2 => 2 | 4 => 4 | 171 => 292 | 0 => 0 | 53 => 264 | 37 => 138 | 5 => 5 | 173 => 294 | 212 => 315 | 51 => 262 | 20 => 20 | 213 => 316 | 46 => 230 | 232 => 328 | 233 => 329 | n => n, fun | 17 => 0 | 18 => 2 | 19 => 3 | n => n⟩
theorem Tryz.laysM171 : Go.Proofs.LaysM.n171 Tryz.prog Tryz.laysM171_ren := {
  mixed := by kernel_rfl
  f129 := Tryz.func274.trans (congrArg some (by kernel_rfl))
  f171 := Tryz.func152.trans (congrArg some (by kernel_rfl))
  f243 := Tryz.func228.trans (congrArg some (by kernel_rfl))
  f246 := Tryz.func275.trans (congrArg some (by kernel_rfl))
  f283 := Tryz.func310.trans (congrArg some (by kernel_rfl))
  f284 := Tryz.func311.trans (congrArg some (by kernel_rfl))
  f285 := Tryz.func312.trans (congrArg some (by kernel_rfl))
  f286 := Tryz.func313.trans (congrArg some (by kernel_rfl))
  f317 := Tryz.func327.trans (congrArg some (by kernel_rfl))
  f318 := Tryz.func328.trans (congrArg some (by kernel_rfl))
  f319 := Tryz.func329.trans (congrArg some (by kernel_rfl))
  f320 := Tryz.func330.trans (congrArg some (by kernel_rfl))
  f337 := Tryz.func344.trans (congrArg some (by kernel_rfl))
  f338 := Tryz.func345.trans (congrArg some (by kernel_rfl))
  t0 := Tryz.underlying0
  a0 := Tryz.isAgg0
  z0 := Tryz.sizeOf0
  v0 := Tryz.zeroValue0
  t2 := Tryz.underlying2
  a2 := Tryz.isAgg2
  z2 := Tryz.sizeOf2
  v2 := Tryz.zeroValue2
  t3 := Tryz.underlying3
  a3 := Tryz.isAgg3
  z3 := Tryz.sizeOf3
  v3 := Tryz.zeroValue3
  t4 := Tryz.underlying4
  a4 := Tryz.isAgg4
  z4 := Tryz.sizeOf4
  v4 := Tryz.zeroValue4
  t5 := Tryz.underlying5
  a5 := Tryz.isAgg5
  z5 := Tryz.sizeOf5
  v5 := Tryz.zeroValue5
  t9 := Tryz.underlying9
  a9 := Tryz.isAgg9
  z9 := Tryz.sizeOf9
  v9 := Tryz.zeroValue9
  t20 := Tryz.underlying20
  a20 := Tryz.isAgg20
  z20 := Tryz.sizeOf20
  v20 := Tryz.zeroValue20
  t37 := Tryz.underlying138
  a37 := Tryz.isAgg138
  z37 := Tryz.sizeOf138
  v37 := Tryz.zeroValue138
  t46 := Tryz.underlying230
  a46 := Tryz.isAgg230
  z46 := Tryz.sizeOf230
  v46 := Tryz.zeroValue230
  t51 := Tryz.underlying262
  a51 := Tryz.isAgg262
  z51 := Tryz.sizeOf262
  v51 := Tryz.zeroValue262
  t53 := Tryz.underlying264
  a53 := Tryz.isAgg264
  z53 := Tryz.sizeOf264
  v53 := Tryz.zeroValue264
  t171 := Tryz.underlying292
  a171 := Tryz.isAgg292
  z171 := Tryz.sizeOf292
  v171 := Tryz.zeroValue292
  t173 := Tryz.underlying294
  a173 := Tryz.isAgg294
  z173 := Tryz.sizeOf294
  v173 := Tryz.zeroValue294
  t212 := Tryz.underlying315
  a212 := Tryz.isAgg315
  z212 := Tryz.sizeOf315
  v212 := Tryz.zeroValue315
  t213 := Tryz.underlying316
  a213 := Tryz.isAgg316
  z213 := Tryz.sizeOf316
  t232 := Tryz.underlying328
  a232 := Tryz.isAgg328
  z232 := Tryz.sizeOf328
  v232 := Tryz.zeroValue328
  t233 := Tryz.underlying329
  a233 := Tryz.isAgg329
  z233 := Tryz.sizeOf329
  v233 := Tryz.zeroValue329
  g17 := by kernel_rfl
  g18 := by kernel_rfl
  g19 := by kernel_rfl
  i0 := by kernel_rfl
  i2 := by kernel_rfl
  i3 := by kernel_rfl
  i4 := by kernel_rfl
  i5 := by kernel_rfl
  i9 := by kernel_rfl
  i20 := by kernel_rfl
  i37 := by kernel_rfl
  i46 := by kernel_rfl
  i51 := by kernel_rfl
  i53 := by kernel_rfl
  i171 := by kernel_rfl
  i173 := by kernel_rfl
  i212 := by kernel_rfl
  i232 := by kernel_rfl
  i233 := by kernel_rfl
  m17 := by kernel_rfl
  m18 := by kernel_rfl
  m19 := by kernel_rfl }
open Go.RowKit Go.Sort Go.Lib in
theorem Tryz.strconv_Itoa (n : Int) (h0 : -9223372036854775808 ≤ n) (h1 : n ≤ 9223372036854775807) (w : World) (htab : Lib.TabIs Tryz.prog w "internal/strconv.uint64pow10" .u64 Lib.pow10Tab) :
    Calls Tryz.prog 152 #[.int .i64 n] w fun e w' => e = .returned (.string ⟨(Lib.itoa n).toArray⟩) ∧ ∃ k os, w' = grow (w.drewN k) os := Any.strconv_Itoa Tryz.laysM171 n h0 h1 w htab
end Go.Proofs
namespace Go.Proofs.YtfnejdkkhpjhmaaGreatDoor
open Abs
def pFormatInt.code : ACode := (.seq (.region false [s 2 (.mv (.const (.string (.mk #[]))))]) (.seq (.region false [s 3 (.mv (t 0)), s 4 (.call 152 [(t 3)]), s 2 (.mv (t 4))]) .ret))
def pFormatInt.keep : List Nat := [0, 2]
def pFormatInt.res : List RRes := [.tmp 2]
theorem pFormatInt.ofS {mo : Bool} {args : List AV} {r : AV} (hr : isScalR r = true) (hn : Nat.ble args.length Tryz.f84.ntmps = true) (h : aCode (Kn mo Tryz.prog) pFormatInt.keep 0 pFormatInt.code (doneS pFormatInt.res r) ⟨argEnv 0 args, [], []⟩) : Abs.Ret mo Tryz.prog 84 args r [] :=
  Abs.Ret.of_irS hr Tryz.func84 rfl (by kernel_rfl) (Nat.le_of_ble_eq_true hn) (by kernel_rfl) (by kernel_rfl) h
abbrev pFormatInt.Ret (args : List AV) (r : AV) (frs : Fr) : Prop := Abs.Ret true Tryz.prog 84 args r frs
def sNodeLine.code : ACode := (.seq (.region false [s 2 (.box (t 0)), s 4 (.mv (.const (.string (.mk #[]))))]) (.seq (.seq (.region false [s 7 (.mv (t 1)), s 8 (.fadr 3 (t 2)), s 9 (.load false 1 (t 8)), s 10 (.len false (t 9)), s 11 (.bin .sub (t 10) (.const (.int .i64 1))), s 12 (.call 81 [(t 7), (.const (.int .i64 0)), (t 11)]), s 13 (.not (t 12))]) (.cond (t 13) (.seq (.region false [s 4 (.mv (.const (.string (.mk #[]))))]) .ret) .skip)) (.seq (.region false [s 14 (.fadr 3 (t 2)), s 15 (.load false 1 (t 14)), s 16 (.mv (t 1)), s 17 (.iadr 8 (t 15) (t 16)), s 18 (.load true 8 (t 17)), s 5 (.alloc [(.int .i64 (.ofNat 0)), (.int .i64 (.ofNat 0)), (.string (.mk (.mk []))), (.slice none 0 0), (.string (.mk (.mk []))), (.string (.mk (.mk []))), (.int .i64 (.ofNat 0)), (.slice none 0 0)]), ⟨none, none, (.store 8 (t 5) (t 18))⟩]) (.seq (.region true [s 19 (.mv (t 1)), s 20 (.call 82 [(t 19)]), s 21 (.bin .add (t 20) (.const (.string (.mk #[32, 60, 45, 32])))), s 22 (.fadr 0 (t 5)), s 23 (.load false 1 (t 22)), s 24 (.call 82 [(t 23)]), s 25 (.bin .add (t 21) (t 24)), s 26 (.bin .add (t 25) (.const (.string (.mk #[58, 32])))), s 6 (.mv (t 26))]) (.seq (.seq (.region false [s 27 (.mv (t 1)), s 28 (.bin .eql (t 27) (.const (.int .i64 0)))]) (.cond (t 28) (.region false [s 6 (.mv (.const (.string (.mk #[48, 58, 32]))))]) (.region false [s 29 (.mv (t 6)), s 30 (.fadr 1 (t 5)), s 31 (.load true 5 (t 30)), s 32 (.call 83 [(t 31)]), s 33 (.bin .add (t 29) (t 32)), s 34 (.bin .add (t 33) (.const (.string (.mk #[32])))), s 6 (.mv (t 34))]))) (.seq (.region false [s 35 (.mv (t 6)), s 36 (.bin .add (t 35) (.const (.string (.mk #[91])))), s 37 (.fadr 7 (t 5)), s 38 (.load false 1 (t 37)), s 39 (.len false (t 38)), s 40 (.call 82 [(t 39)]), s 41 (.bin .add (t 36) (t 40)), s 42 (.bin .add (t 41) (.const (.string (.mk #[93])))), s 4 (.mv (t 42))]) .ret))))))
def sNodeLine.keep : List Nat := [0, 1, 2, 4, 5, 6]
def sNodeLine.res : List RRes := [.tmp 4]
theorem sNodeLine.ofS {mo : Bool} {args : List AV} {r : AV} (hr : isScalR r = true) (hn : Nat.ble args.length Tryz.f28.ntmps = true) (h : aCode (Kn mo Tryz.prog) sNodeLine.keep 0 sNodeLine.code (doneS sNodeLine.res r) ⟨argEnv 0 args, [], []⟩) : Abs.Ret mo Tryz.prog 28 args r [] :=
  Abs.Ret.of_irS hr Tryz.func28 rfl (by kernel_rfl) (Nat.le_of_ble_eq_true hn) (by kernel_rfl) (by kernel_rfl) h
abbrev sNodeLine.Ret (args : List AV) (r : AV) (frs : Fr) : Prop := Abs.Ret true Tryz.prog 28 args r frs
def pNodeLine.code : ACode := (.seq (.region false [s 2 (.box (t 0)), s 4 (.mv (.const (.string (.mk #[]))))]) (.seq (.seq (.region false [s 8 (.mv (t 1)), s 9 (.bin .lss (t 8) (.const (.int .i64 0))), s 10 (.mv (t 9)), g 10 false 11 (.mv (t 1)), g 10 false 12 (.fadr 3 (t 2)), g 10 false 13 (.load false 1 (t 12)), g 10 false 14 (.len false (t 13)), g 10 false 15 (.bin .geq (t 11) (t 14)), s 16 (.or (t 10) (t 15))]) (.cond (t 16) (.seq (.region false [s 4 (.mv (.const (.string (.mk #[]))))]) .ret) .skip)) (.seq (.region false [s 17 (.fadr 3 (t 2)), s 18 (.load false 1 (t 17)), s 19 (.mv (t 1)), s 20 (.iadr 8 (t 18) (t 19)), s 5 (.mv (t 20))]) (.seq (.held [s 21 (.mv (t 1)), s 23 (.mv (t 5)), s 24 (.fadr 0 (t 23)), s 25 (.fadr 7 (t 24)), s 26 (.load false 1 (t 25)), s 27 (.len false (t 26)), s 22 (.call 84 [(t 21)]), s 28 (.call 84 [(t 27)]), s 6 (.mv (t 22)), s 29 (.bin .add (.const (.string (.mk #[91]))) (t 28)), s 30 (.bin .add (t 29) (.const (.string (.mk #[93]))))] [s 7 (.mv (t 30))]) (.seq (.seq (.region false [s 31 (.mv (t 1)), s 32 (.bin .eql (t 31) (.const (.int .i64 0)))]) (.cond (t 32) (.seq (.region false [s 33 (.mv (t 6)), s 34 (.bin .add (t 33) (.const (.string (.mk #[58, 32])))), s 35 (.mv (t 7)), s 36 (.bin .add (t 34) (t 35)), s 4 (.mv (t 36))]) .ret) .skip)) (.seq (.region true [s 37 (.mv (t 6)), s 38 (.bin .add (t 37) (.const (.string (.mk #[32, 60, 45, 32])))), s 39 (.mv (t 5)), s 40 (.fadr 0 (t 39)), s 41 (.fadr 0 (t 40)), s 42 (.load false 1 (t 41)), s 43 (.call 84 [(t 42)]), s 44 (.bin .add (t 38) (t 43)), s 45 (.bin .add (t 44) (.const (.string (.mk #[58, 32])))), s 46 (.mv (t 5)), s 47 (.fadr 0 (t 46)), s 48 (.fadr 1 (t 47)), s 49 (.load true 5 (t 48)), s 50 (.call 85 [(t 49)]), s 51 (.bin .add (t 45) (t 50)), s 52 (.bin .add (t 51) (.const (.string (.mk #[32])))), s 53 (.mv (t 7)), s 54 (.bin .add (t 52) (t 53)), s 4 (.mv (t 54))]) .ret))))))
def pNodeLine.keep : List Nat := [0, 1, 2, 4, 5, 6, 7]
def pNodeLine.res : List RRes := [.tmp 4]
theorem pNodeLine.ofS {mo : Bool} {args : List AV} {r : AV} (hr : isScalR r = true) (hn : Nat.ble args.length Tryz.f29.ntmps = true) (h : aCode (Kn mo Tryz.prog) pNodeLine.keep 0 pNodeLine.code (doneS pNodeLine.res r) ⟨argEnv 0 args, [], []⟩) : Abs.Ret mo Tryz.prog 29 args r [] :=
  Abs.Ret.of_irS hr Tryz.func29 rfl (by kernel_rfl) (Nat.le_of_ble_eq_true hn) (by kernel_rfl) (by kernel_rfl) h
abbrev pNodeLine.RetN (args : List AV) (r : AV) (frs : Fr) : Prop := Abs.Ret false Tryz.prog 29 args r frs
end Go.Proofs.YtfnejdkkhpjhmaaGreatDoor
namespace Go.Proofs.YtfnejdkkhpjhmaaGreatDoor
open Abs
variable {mo : Bool}
theorem fmt_dec (n : Nat) : Lib.decDigits n = fmt n := by
  induction n using Nat.strongRecOn with
  | _ n ih =>
    rw [Lib.decDigits, fmt]
    split
    · rfl
    · rw [ih _ (by omega)]
theorem fmt_len (k : Nat) : ∀ n : Nat, n < 10 ^ (k + 1) → (fmt n).length ≤ k + 1 := by
  induction k with
  | zero => intro n h; rw [fmt_small (by simpa using h)]; simp
  | succ k ih =>
    intro n h
    by_cases h10 : n < 10
    · rw [fmt_small h10]; simp
    · rw [fmt_big (by omega), List.length_append]
      have := ih (n / 10) (by rw [Nat.pow_succ] at h; omega)
      simp only [List.length_cons, List.length_nil]; omega
theorem itoa_nat (n : Nat) : Lib.itoa (n : Int) = fmt n := by
  unfold Lib.itoa
  rw [if_neg (by omega), fmt_dec]; rfl
theorem itoa_neg {n : Int} (h : n < 0) : Lib.itoa n = 45 :: fmt (-n).toNat := by
  unfold Lib.itoa
  rw [if_pos h, fmt_dec]
  congr 2
  omega
theorem itoa_len {n : Int} (h0 : -9223372036854775808 ≤ n) (h1 : n ≤ 9223372036854775807) : (Lib.itoa n).length ≤ 20 := by
  by_cases h : n < 0
  · rw [itoa_neg h, List.length_cons]
    have := fmt_len 18 (-n).toNat (by omega)
    omega
  · obtain ⟨m, rfl⟩ : ∃ m : Nat, n = m := ⟨n.toNat, by omega⟩
    rw [itoa_nat]
    have := fmt_len 18 m (by omega)
    omega
theorem below_grow {B : Nat} {a w : World} (h : Go.RowKit.Below B a w) (hB : B ≤ w.heap.size) (os : Array Obj) : Go.RowKit.Below B a (Sort.grow w os) :=
  h.trans ⟨rfl, rfl, rfl, by simp [Sort.grow], fun k hk => by simp only [Sort.grow]; rw [Array.getElem?_append_left (by omega)]⟩
theorem tab_pow {w : World} {box : List BId} (h : CondB w box) : Lib.TabIs Tryz.prog w "internal/strconv.uint64pow10" .u64 Lib.pow10Tab := by
  obtain ⟨⟨t, m, h1⟩, _⟩ := h _ (List.mem_singleton.2 rfl)
  unfold Lib.TabIs World.var?
  rw [show Tryz.prog.globalNamed "internal/strconv.uint64pow10" = some 0 by kernel_rfl]
  simp only [Option.bind_some, h1]
theorem libItoa.ret (n : Int) (h0 : -9223372036854775808 ≤ n) (h1 : n ≤ 9223372036854775807) : Abs.Ret mo Tryz.prog 152 [.val (.int .i64 n)] (.str (Lib.itoa n)) [] := by
  rw [Ret_eq]
  refine ⟨by kernel_rfl, fun w F vs hcond hout hB => ?_⟩
  obtain ⟨v0, rfl⟩ : ∃ v0, vs = #[v0] := by
    have := hB.1
    match vs, this with
    | ⟨[a]⟩, _ => exact ⟨a, rfl⟩
  obtain ⟨h2, _⟩ := Both.cons.1 hB
  cases h2
  refine (Tryz.strconv_Itoa n h0 h1 w (tab_pow hcond)).mono ?_
  rintro e w' ⟨rfl, k, os, rfl⟩
  refine ⟨_, F, [], [], rfl, ⟨below_grow (below_drewN (Go.RowKit.Below.refl _ _) k) (Nat.le_refl _) os, fun _ => Nat.le_add_right _ _⟩, fun _ _ => rfl, fun b h => hout b (Nat.le_trans (by simp [Sort.grow, World.drewN]) h), rfl, by simp, by simp, .str _⟩
theorem sFormatInt.nat (n : Nat) (h : n ≤ 9223372036854775807) : sFormatInt.Ret [.val (.int .i64 n)] (.str (fmt n)) [] := by
  refine sFormatInt.ofS rfl rfl ?_
  repeat' first
    | contradiction | exact trivial
    | (conv => whnf
       first | refine Need.mk (fun h => h) ?_ | refine Need.mk rfl ?_ | refine Need.mk ⟨rfl, Nat.le_of_ble_eq_true rfl⟩ ?_ | refine Need.mk (Nat.le_of_ble_eq_true rfl) ?_ | refine Need.fin ?_ | refine Need.mk ?_ ?_ | refine Ix.strsF rfl ?_ | refine Ix.strs rfl ?_ ?_ | refine Cut.strs rfl ?_ ?_ | refine Ix.mapF (fun _ => rfl) ?_ | refine Ix.map (fun _ => rfl) ?_ ?_ | refine Cut.map (fun _ => rfl) ?_ ?_ | refine Fork.yes (by assumption) ?_ | refine Fork.no (by assumption) ?_ | refine Fork.decYes (by omega) ?_ | refine Fork.decNo (by omega) ?_ | refine Fork.dec (fun _ => ?_) (fun _ => ?_) | refine Fork.bne (fun _ => ?_) (fun _ => ?_) | refine Fork.beq (fun _ => ?_) (fun _ => ?_) | refine Fork.seq (fun _ => ?_) (fun _ => ?_) | refine Fork.sne (fun _ => ?_) (fun _ => ?_) | refine Fork.neg (fun _ => ?_) (fun _ => ?_) | refine Fork.mk (fun _ => ?_) (fun _ => ?_) | refine HAlt.mk ?_ ?_ | apply HJoin.mk3 | exact HEnd.mk rfl rfl rfl | refine HEnd.mk ?_ ?_ ?_ | refine Round.mk ?_ | refine NilQ.mk (fun b hb => ?_) | refine forceK_of ?_ | refine forceBx_of ?_ | refine unG_old ?_ | refine unG_gv ?_ | refine Lit.read rfl ?_ | refine FinVal.keep ?_ | refine FinAgg.keep ?_ | refine Final.mk rfl rfl | refine Final.mk ?_ rfl | refine Final.mk ?_ ?_ | refine FinalT.mk ?_ ?_ | refine FinalI.mk ?_ | refine FinalC.allA ?_)
    | refine AV.bool_congr ?_ | refine AV.int_congr ?_ | refine AV.str_congr ?_ | refine AV.list_congr ?_ | with_reducible rfl | refine fr1 ?_ | refine fr2 ?_ ?_
  refine ALoop.mk (Nat × Str × Fr) (fun a => ⟨[(0, .val (.int .i64 a.1)), (3, .str a.2.1)], [], a.2.2⟩) (fun a => fmt a.1 ++ a.2.1 = fmt n ∧ a.1 ≤ 9223372036854775807) (fun a => a.1) ⟨(n, [], []), ⟨by simp, h⟩, ?_⟩ (fun a ha => ?_)
  · repeat' first
      | exact trivial | refine Weak.mk ?_ ?_ ?_ ?_ (Or.inl (Nat.le_of_ble_eq_true rfl)) | refine Weak.mk ?_ ?_ ?_ ?_ (Or.inr ⟨(by repeat' first | exact trivial | exact Nat.le_of_ble_eq_true rfl | refine And.intro ?_ ?_), (by repeat' first | exact trivial | exact Nat.le_of_ble_eq_true rfl | refine And.intro ?_ ?_)⟩) | refine Weak.mk ?_ ?_ ?_ ?_ ?_ | refine And.intro ?_ ?_ | with_reducible rfl | exact Nat.le_of_ble_eq_true rfl | refine fr1 ?_ | refine fr2 ?_ ?_ | refine AV.int_congr ?_ | refine AV.bool_congr ?_ | refine AV.str_congr ?_ | refine AV.list_congr ?_ | refine AV.bsl_congr ?_ ?_ | (apply rfl)
  repeat' first
    | contradiction | exact trivial
    | (conv => whnf
       first | refine Need.mk (fun h => h) ?_ | refine Need.mk rfl ?_ | refine Need.mk ⟨rfl, Nat.le_of_ble_eq_true rfl⟩ ?_ | refine Need.mk (Nat.le_of_ble_eq_true rfl) ?_ | refine Need.fin ?_ | refine Need.mk ?_ ?_ | refine Ix.strsF rfl ?_ | refine Ix.strs rfl ?_ ?_ | refine Cut.strs rfl ?_ ?_ | refine Ix.mapF (fun _ => rfl) ?_ | refine Ix.map (fun _ => rfl) ?_ ?_ | refine Cut.map (fun _ => rfl) ?_ ?_ | refine Fork.yes (by assumption) ?_ | refine Fork.no (by assumption) ?_ | refine Fork.decYes (by omega) ?_ | refine Fork.decNo (by omega) ?_ | refine Fork.dec (fun _ => ?_) (fun _ => ?_) | refine Fork.bne (fun _ => ?_) (fun _ => ?_) | refine Fork.beq (fun _ => ?_) (fun _ => ?_) | refine Fork.seq (fun _ => ?_) (fun _ => ?_) | refine Fork.sne (fun _ => ?_) (fun _ => ?_) | refine Fork.neg (fun _ => ?_) (fun _ => ?_) | refine Fork.mk (fun _ => ?_) (fun _ => ?_) | refine HAlt.mk ?_ ?_ | apply HJoin.mk3 | exact HEnd.mk rfl rfl rfl | refine HEnd.mk ?_ ?_ ?_ | refine Round.mk ?_ | refine NilQ.mk (fun b hb => ?_) | refine forceK_of ?_ | refine forceBx_of ?_ | refine unG_old ?_ | refine unG_gv ?_ | refine Lit.read rfl ?_ | refine FinVal.keep ?_ | refine FinAgg.keep ?_ | refine Final.mk rfl rfl | refine Final.mk ?_ rfl | refine Final.mk ?_ ?_ | refine FinalT.mk ?_ ?_ | refine FinalI.mk ?_ | refine FinalC.allA ?_)
    | refine AV.bool_congr ?_ | refine AV.int_congr ?_ | refine AV.str_congr ?_ | refine AV.list_congr ?_ | with_reducible rfl | refine fr1 ?_ | refine fr2 ?_ ?_
  conv => whnf
  have hd : (↑a.1 : Int).tmod 10 = (a.1 % 10 : Nat) := by rw [Int.tmod_eq_emod_of_nonneg (by omega)]; omega
  have hq : IntKind.i64.wrap ((↑a.1 : Int).tdiv 10) = (a.1 / 10 : Nat) := by rw [Int.tdiv_eq_ediv_of_nonneg (by omega), wrap64 (by omega) (by omega)]; omega
  have hl : a.2.1.length ≤ 20 := by
    have h1 := congrArg List.length ha.1
    have h2 := fmt_len 18 n (by omega)
    rw [List.length_append] at h1
    omega
  refine Bytes.mk [UInt8.ofNat (48 + a.1 % 10)] ?_ ?_
  · rw [hd, wrap64 (by omega) (by omega)]
    simp only [List.map_cons, List.map_nil, byteCell]
    rw [Go.IntWalk.u8_in _ ⟨by omega, by omega⟩]
    congr 4
    simp
    omega
  repeat' first
    | contradiction | exact trivial
    | (conv => whnf
       first | refine Need.mk (fun h => h) ?_ | refine Need.mk rfl ?_ | refine Need.mk ⟨rfl, Nat.le_of_ble_eq_true rfl⟩ ?_ | refine Need.mk (Nat.le_of_ble_eq_true rfl) ?_ | refine Need.fin ?_ | refine Need.mk ?_ ?_ | refine Ix.strsF rfl ?_ | refine Ix.strs rfl ?_ ?_ | refine Cut.strs rfl ?_ ?_ | refine Ix.mapF (fun _ => rfl) ?_ | refine Ix.map (fun _ => rfl) ?_ ?_ | refine Cut.map (fun _ => rfl) ?_ ?_ | refine Fork.yes (by assumption) ?_ | refine Fork.no (by assumption) ?_ | refine Fork.decYes (by omega) ?_ | refine Fork.decNo (by omega) ?_ | refine Fork.dec (fun _ => ?_) (fun _ => ?_) | refine Fork.bne (fun _ => ?_) (fun _ => ?_) | refine Fork.beq (fun _ => ?_) (fun _ => ?_) | refine Fork.seq (fun _ => ?_) (fun _ => ?_) | refine Fork.sne (fun _ => ?_) (fun _ => ?_) | refine Fork.neg (fun _ => ?_) (fun _ => ?_) | refine Fork.mk (fun _ => ?_) (fun _ => ?_) | refine HAlt.mk ?_ ?_ | apply HJoin.mk3 | exact HEnd.mk rfl rfl rfl | refine HEnd.mk ?_ ?_ ?_ | refine Round.mk ?_ | refine NilQ.mk (fun b hb => ?_) | refine forceK_of ?_ | refine forceBx_of ?_ | refine unG_old ?_ | refine unG_gv ?_ | refine Lit.read rfl ?_ | refine FinVal.keep ?_ | refine FinAgg.keep ?_ | refine Final.mk rfl rfl | refine Final.mk ?_ rfl | refine Final.mk ?_ ?_ | refine FinalT.mk ?_ ?_ | refine FinalI.mk ?_ | refine FinalC.allA ?_)
    | refine AV.bool_congr ?_ | refine AV.int_congr ?_ | refine AV.str_congr ?_ | refine AV.list_congr ?_ | with_reducible rfl | refine fr1 ?_ | refine fr2 ?_ ?_
  · simp only [List.length_cons, List.length_nil]; omega
  · rename_i h1
    rw [hq] at h1
    rw [← ha.1, fmt_small (by omega)]
    have : a.1 % 10 = a.1 := by omega
    rw [this]
  · rename_i h1
    rw [hq] at h1
    refine ⟨(a.1 / 10, [UInt8.ofNat (48 + a.1 % 10)] ++ a.2.1, a.2.2 ++ [(5, 1, 1)]), ⟨?_, by show a.1 / 10 ≤ 9223372036854775807; omega⟩, ?_, by show a.1 / 10 < a.1; omega⟩
    · rw [← ha.1, fmt_big (n := a.1) (by omega), List.append_assoc]
    · repeat' first
        | exact trivial | refine Weak.mk ?_ ?_ ?_ ?_ (Or.inl (Nat.le_of_ble_eq_true rfl)) | refine Weak.mk ?_ ?_ ?_ ?_ (Or.inr ⟨(by repeat' first | exact trivial | exact Nat.le_of_ble_eq_true rfl | refine And.intro ?_ ?_), (by repeat' first | exact trivial | exact Nat.le_of_ble_eq_true rfl | refine And.intro ?_ ?_)⟩) | refine Weak.mk ?_ ?_ ?_ ?_ ?_ | refine And.intro ?_ ?_ | with_reducible rfl | exact Nat.le_of_ble_eq_true rfl | refine fr1 ?_ | refine fr2 ?_ ?_ | refine AV.int_congr ?_ | refine AV.bool_congr ?_ | refine AV.str_congr ?_ | refine AV.list_congr ?_ | refine AV.bsl_congr ?_ ?_ | (apply rfl)
      exact hq
theorem itoa_least : Lib.itoa (-9223372036854775808) = [45, 57, 50, 50, 51, 51, 55, 50, 48, 51, 54, 56, 53, 52, 55, 55, 53, 56, 48, 56] := by
  rw [itoa_neg (by decide)]
  have h := fmt_of_isNum (s := [57, 50, 50, 51, 51, 55, 50, 48, 51, 54, 56, 53, 52, 55, 55, 53, 56, 48, 56]) (by decide +kernel)
  rw [show (- -9223372036854775808 : Int).toNat = valA 0 [57, 50, 50, 51, 51, 55, 50, 48, 51, 54, 56, 53, 52, 55, 55, 53, 56, 48, 56] by decide +kernel, h]
theorem sFormatInt.all (n : Int) (h0 : -9223372036854775808 ≤ n) (h1 : n ≤ 9223372036854775807) : sFormatInt.Ret [.val (.int .i64 n)] (.str (Lib.itoa n)) [] := by
  by_cases hn : 0 ≤ n
  · obtain ⟨m, rfl⟩ : ∃ m : Nat, n = m := ⟨n.toNat, by omega⟩
    rw [itoa_nat]
    exact sFormatInt.nat m (by omega)
  · by_cases hm : n = -9223372036854775808
    · subst hm
      rw [itoa_least]
      refine sFormatInt.ofS rfl rfl ?_
      repeat' first
        | contradiction | exact trivial
        | (conv => whnf
           first | refine Need.mk (fun h => h) ?_ | refine Need.mk rfl ?_ | refine Need.mk ⟨rfl, Nat.le_of_ble_eq_true rfl⟩ ?_ | refine Need.mk (Nat.le_of_ble_eq_true rfl) ?_ | refine Need.fin ?_ | refine Need.mk ?_ ?_ | refine Ix.strsF rfl ?_ | refine Ix.strs rfl ?_ ?_ | refine Cut.strs rfl ?_ ?_ | refine Ix.mapF (fun _ => rfl) ?_ | refine Ix.map (fun _ => rfl) ?_ ?_ | refine Cut.map (fun _ => rfl) ?_ ?_ | refine Fork.yes (by assumption) ?_ | refine Fork.no (by assumption) ?_ | refine Fork.decYes (by omega) ?_ | refine Fork.decNo (by omega) ?_ | refine Fork.dec (fun _ => ?_) (fun _ => ?_) | refine Fork.bne (fun _ => ?_) (fun _ => ?_) | refine Fork.beq (fun _ => ?_) (fun _ => ?_) | refine Fork.seq (fun _ => ?_) (fun _ => ?_) | refine Fork.sne (fun _ => ?_) (fun _ => ?_) | refine Fork.neg (fun _ => ?_) (fun _ => ?_) | refine Fork.mk (fun _ => ?_) (fun _ => ?_) | refine HAlt.mk ?_ ?_ | apply HJoin.mk3 | exact HEnd.mk rfl rfl rfl | refine HEnd.mk ?_ ?_ ?_ | refine Round.mk ?_ | refine NilQ.mk (fun b hb => ?_) | refine forceK_of ?_ | refine forceBx_of ?_ | refine unG_old ?_ | refine unG_gv ?_ | refine Lit.read rfl ?_ | refine FinVal.keep ?_ | refine FinAgg.keep ?_ | refine Final.mk rfl rfl | refine Final.mk ?_ rfl | refine Final.mk ?_ ?_ | refine FinalT.mk ?_ ?_ | refine FinalI.mk ?_ | refine FinalC.allA ?_)
        | refine AV.bool_congr ?_ | refine AV.int_congr ?_ | refine AV.str_congr ?_ | refine AV.list_congr ?_ | with_reducible rfl | refine fr1 ?_ | refine fr2 ?_ ?_
    · have hc := sFormatInt.nat (-n).toNat (by omega)
      have he : (((-n).toNat : Nat) : Int) = -n := by omega
      rw [he] at hc
      have hc' : sFormatInt.Ret [.val (.int .i64 (IntKind.i64.wrap (-n)))] (.str (fmt (-n).toNat)) [] := by rw [wrap64 (x := -n) (by omega) (by omega)]; exact hc
      have hl := itoa_len h0 h1
      rw [itoa_neg (by omega)] at hl ⊢
      rw [List.length_cons] at hl
      refine sFormatInt.ofS rfl rfl ?_
      repeat' first
        | contradiction | exact trivial
        | (conv => whnf
           first | refine Need.mk (fun h => h) ?_ | refine Need.mk rfl ?_ | refine Need.mk ⟨rfl, Nat.le_of_ble_eq_true rfl⟩ ?_ | refine Need.mk (Nat.le_of_ble_eq_true rfl) ?_ | refine Need.fin ?_ | refine Need.mk ?_ ?_ | refine Ix.strsF rfl ?_ | refine Ix.strs rfl ?_ ?_ | refine Cut.strs rfl ?_ ?_ | refine Ix.mapF (fun _ => rfl) ?_ | refine Ix.map (fun _ => rfl) ?_ ?_ | refine Cut.map (fun _ => rfl) ?_ ?_ | refine Fork.yes (by assumption) ?_ | refine Fork.no (by assumption) ?_ | refine Fork.decYes (by omega) ?_ | refine Fork.decNo (by omega) ?_ | refine Fork.dec (fun _ => ?_) (fun _ => ?_) | refine Fork.bne (fun _ => ?_) (fun _ => ?_) | refine Fork.beq (fun _ => ?_) (fun _ => ?_) | refine Fork.seq (fun _ => ?_) (fun _ => ?_) | refine Fork.sne (fun _ => ?_) (fun _ => ?_) | refine Fork.neg (fun _ => ?_) (fun _ => ?_) | refine Fork.mk (fun _ => ?_) (fun _ => ?_) | refine HAlt.mk ?_ ?_ | apply HJoin.mk3 | exact HEnd.mk rfl rfl rfl | refine HEnd.mk ?_ ?_ ?_ | refine Round.mk ?_ | refine NilQ.mk (fun b hb => ?_) | refine forceK_of ?_ | refine forceBx_of ?_ | refine unG_old ?_ | refine unG_gv ?_ | refine Lit.read rfl ?_ | refine FinVal.keep ?_ | refine FinAgg.keep ?_ | refine Final.mk rfl rfl | refine Final.mk ?_ rfl | refine Final.mk ?_ ?_ | refine FinalT.mk ?_ ?_ | refine FinalI.mk ?_ | refine FinalC.allA ?_ | refine ACall.scalA _ _ (hc') rfl ?_ | refine AQCall.mkA _ _ (fun hg => hc') rfl ?_ | refine AGCall.mkA _ _ (fun hg => hc') rfl ?_)
        | refine AV.bool_congr ?_ | refine AV.int_congr ?_ | refine AV.str_congr ?_ | refine AV.list_congr ?_ | with_reducible rfl | refine fr1 ?_ | refine fr2 ?_ ?_
      show 1 + _ ≤ 1099511627776
      omega
theorem pFormatInt.all (n : Int) (h0 : -9223372036854775808 ≤ n) (h1 : n ≤ 9223372036854775807) : pFormatInt.Ret [.val (.int .i64 n)] (.str (Lib.itoa n)) [] := by
  refine pFormatInt.ofS rfl rfl ?_
  repeat' first
    | contradiction | exact trivial
    | (conv => whnf
       first | refine Need.mk (fun h => h) ?_ | refine Need.mk rfl ?_ | refine Need.mk ⟨rfl, Nat.le_of_ble_eq_true rfl⟩ ?_ | refine Need.mk (Nat.le_of_ble_eq_true rfl) ?_ | refine Need.fin ?_ | refine Need.mk ?_ ?_ | refine Ix.strsF rfl ?_ | refine Ix.strs rfl ?_ ?_ | refine Cut.strs rfl ?_ ?_ | refine Ix.mapF (fun _ => rfl) ?_ | refine Ix.map (fun _ => rfl) ?_ ?_ | refine Cut.map (fun _ => rfl) ?_ ?_ | refine Fork.yes (by assumption) ?_ | refine Fork.no (by assumption) ?_ | refine Fork.decYes (by omega) ?_ | refine Fork.decNo (by omega) ?_ | refine Fork.dec (fun _ => ?_) (fun _ => ?_) | refine Fork.bne (fun _ => ?_) (fun _ => ?_) | refine Fork.beq (fun _ => ?_) (fun _ => ?_) | refine Fork.seq (fun _ => ?_) (fun _ => ?_) | refine Fork.sne (fun _ => ?_) (fun _ => ?_) | refine Fork.neg (fun _ => ?_) (fun _ => ?_) | refine Fork.mk (fun _ => ?_) (fun _ => ?_) | refine HAlt.mk ?_ ?_ | apply HJoin.mk3 | exact HEnd.mk rfl rfl rfl | refine HEnd.mk ?_ ?_ ?_ | refine Round.mk ?_ | refine NilQ.mk (fun b hb => ?_) | refine forceK_of ?_ | refine forceBx_of ?_ | refine unG_old ?_ | refine unG_gv ?_ | refine Lit.read rfl ?_ | refine FinVal.keep ?_ | refine FinAgg.keep ?_ | refine Final.mk rfl rfl | refine Final.mk ?_ rfl | refine Final.mk ?_ ?_ | refine FinalT.mk ?_ ?_ | refine FinalI.mk ?_ | refine FinalC.allA ?_ | refine ACall.scalA _ _ (libItoa.ret _ ?_ ?_) rfl ?_ | refine AQCall.mkA _ _ (fun hg => libItoa.ret _ ?_ ?_) rfl ?_ | refine AGCall.mkA _ _ (fun hg => libItoa.ret _ ?_ ?_) rfl ?_)
    | refine AV.bool_congr ?_ | refine AV.int_congr ?_ | refine AV.str_congr ?_ | refine AV.list_congr ?_ | with_reducible rfl | refine fr1 ?_ | refine fr2 ?_ ?_
  · exact h0
  · exact h1
end Go.Proofs.YtfnejdkkhpjhmaaGreatDoor
namespace Go.Proofs.YtfnejdkkhpjhmaaGreatDoor
namespace Abs
theorem FinalC.all {Φ : AV → List ABox → Fr → Prop} {r : AV} {b : List ABox} {f : Fr} (h : Lends b b) (hk : Φ r b f) : FinalC Φ r b f := ⟨b, h, hk⟩
theorem FinalC.allA {Φ : AV → List ABox → Fr → Prop} {r : AV} {b : List ABox} {f : Fr} (hk : Φ r b f) (h : Lends b b := by repeat' first | exact Lends.nil | refine Lends.map _ ?_ | refine Lends.lend _ _ (by first | exact hx.1 | exact hy.1 | exact noTk_old _ | (intro c hc; rw [List.mem_singleton.1 hc]; rfl) | (intro c hc; cases hc; done)) ?_) : FinalC Φ r b f := ⟨b, h, hk⟩
theorem Lent.weak {mo : Bool} {P : Program} {f : Nat} {b0 : List ABox} {args : List AV} {Φ : AV → List ABox → Fr → Prop} (h : Lent true P f b0 args Φ) : Lent mo P f b0 args Φ := by
  rw [Lent_eq] at *
  exact ⟨h.1, fun w F vs box0 q a b c d e g => (h.2 w F vs box0 q a b c d e g).mono (by rintro en w' ⟨v, F', box1, tok, frs, r, b1, h1, h2, h3, h4⟩; exact ⟨v, F', box1, tok, frs, r, b1, h1, h2, h3.weak, h4⟩)⟩
section
variable {mo : Bool} {P : Program}
end
end Abs
open Abs
theorem str_le {l : List Str} {i : Nat} (hi : i < l.length) : (l.getD i []).length ≤ listSize Ty.str l :=
  listSize_mem Ty.str (List.mem_of_getElem? (by simp [List.getD, hi] : l[i]? = some (l.getD i [])))
end Go.Proofs.YtfnejdkkhpjhmaaGreatDoor
namespace Go.Proofs.YtfnejdkkhpjhmaaGreatDoor
open Abs
def nameF (x : Str) : Bool := atomF x && letter (x.getD 0 0).toNat
def varF (x : Str) : Bool := decide (1 < (x.length : Int)) && ((x.getD 0 0).toNat : Int) == 63 && atomF (x.drop 1)
theorem atomF_pos {x : Str} (h : atomF x = true) : 1 ≤ x.length := by
  simp only [atomF, Bool.and_eq_true, decide_eq_true_eq] at h; omega
theorem sIsName.ret (x : Str) (hx : x.length ≤ 1048576) : sIsName.Ret [.str x] (.val (.bool (nameF x))) [] := by
  refine sIsName.of rfl ?_
  repeat' first
    | (conv => whnf
       first | refine Need.mk (fun h => h) ?_ | refine Need.mk ?_ ?_ | refine FinVal.keep ?_ | refine Final.mk ?_ rfl | refine ACall.scalA _ _ (sIsAtom.ret _ ?_) rfl ?_ | refine AGCall.mkA _ _ (fun hg => l1In.ret _ _ _) rfl ?_)
    | refine AV.bool_congr ?_
  · exact hx
  · intro h; have := atomF_pos h; omega
  · simp only [nameF, letter, wrap64_byte]; rfl
theorem pIsName.ret (x : Str) (hx : x.length ≤ 1048576) : pIsName.Ret [.str x] (.val (.bool (nameF x))) [] := by
  refine pIsName.of rfl ?_
  repeat' first
    | (conv => whnf
       first | refine Need.mk (fun h => h) ?_ | refine Need.mk ?_ ?_ | refine FinVal.keep ?_ | refine Final.mk ?_ rfl | refine ACall.scalA _ _ (pIsAtom.ret _ ?_) rfl ?_ | refine AGCall.mkA _ _ (fun hg => isLetter.ret _) rfl ?_)
    | refine AV.bool_congr ?_
  · exact hx
  · intro h; have := atomF_pos h; omega
  · simp only [nameF, wrap32_byte]; rfl
end Go.Proofs.YtfnejdkkhpjhmaaGreatDoor
namespace Go.Proofs.YtfnejdkkhpjhmaaGreatDoor
open Abs
theorem sIsVar.ret (x : Str) (hx : x.length ≤ 1048576) : sIsVar.Ret [.str x] (.val (.bool (varF x))) [] := by
  refine sIsVar.of rfl ?_
  repeat' first
    | (conv => whnf
       first | refine Need.mk (fun h => h) ?_ | refine Need.mk rfl ?_ | refine Need.fin ?_ | refine FinVal.keep ?_ | refine Final.mk ?_ rfl | refine AGCall.mkA _ _ (fun hg => sIsAtom.ret _ ?_) rfl ?_)
    | refine AV.bool_congr ?_
  · simp; omega
  · simp [varF]
def hasP (x p : Str) : Bool := decide ((p.length : Int) ≤ x.length) && x.take p.length == p
def cutP (x p : Str) : Str := if hasP x p then x.drop p.length else x
theorem slHasPrefix.ret (x p : Str) : slHasPrefix.Ret [.str x, .str p] (.val (.bool (hasP x p))) [] := by
  refine slHasPrefix.of rfl ?_
  repeat' first
    | (conv => whnf
       first | refine Need.mk (fun h => h) ?_ | refine Need.mk rfl ?_ | refine Need.fin ?_ | refine FinVal.keep ?_ | refine Final.mk rfl rfl)
  all_goals simp [hasP]
theorem slCutPrefix.ret (x p : Str) : slCutPrefix.Ret [.str x, .str p] (.tup [.str (cutP x p), .val (.bool (hasP x p))]) [] := by
  refine slCutPrefix.of rfl ?_
  repeat' first
    | (conv => whnf
       first | refine Need.mk ?_ ?_ | refine Fork.neg (fun _ => ?_) (fun _ => ?_) | refine FinVal.keep ?_ | refine Final.mk ?_ rfl | refine ACall.scalA _ _ (slHasPrefix.ret _ _) rfl ?_)
  · rename_i h; simp [cutP, h]
  all_goals first
    | (rename_i h; simp only [hasP, Bool.and_eq_true, decide_eq_true_eq] at h; simp; omega)
    | (rename_i h; simp [cutP, h]; done)
    | (rename_i h; simp only [hasP, Bool.and_eq_true, decide_eq_true_eq] at h; omega)
theorem cutPrefix.ret (x p : Str) : cutPrefix.Ret [.str x, .str p] (.tup [.str (cutP x p), .val (.bool (hasP x p))]) [] := by
  refine cutPrefix.of rfl ?_
  repeat' first
    | (conv => whnf
       first | refine FinVal.keep ?_ | refine Final.mk rfl rfl | refine ACall.scalA _ _ (slCutPrefix.ret _ _) rfl ?_)
theorem var_eq (x : Str) : (hasP x [63] && atomF (cutP x [63])) = varF x := by
  match x with
  | [] => rfl
  | [c] =>
    have : varF [c] = false := by simp [varF]
    rw [this]
    cases h : hasP [c] [63] with
    | false => rfl
    | true => simp [cutP, h, atomF]
  | c :: d :: x =>
    by_cases hc : c = 63
    · subst hc
      have h : hasP (63 :: d :: x) [63] = true := by simp [hasP]; omega
      simp [h, cutP, varF]; omega
    · have h : hasP (c :: d :: x) [63] = false := by simp [hasP, hc]
      have h2 : ¬ (c.toNat : Int) = 63 := fun e => hc (by
        have : c.toNat = 63 := by omega
        rw [← UInt8.ofNat_toNat (x := c), this]; rfl)
      simp [h, varF, h2]
theorem pIsVar.ret (x : Str) (hx : x.length ≤ 1048576) : pIsVar.Ret [.str x] (.val (.bool (varF x))) [] := by
  refine pIsVar.of rfl ?_
  repeat' first
    | (conv => whnf
       first | refine Need.mk (fun h => h) ?_ | refine FinVal.keep ?_ | refine Final.mk ?_ rfl | refine AGCall.mkA _ _ (fun hg => pIsAtom.ret _ ?_) rfl ?_ | refine ACall.scalA _ _ (cutPrefix.ret _ _) rfl ?_)
    | refine AV.bool_congr ?_
  · simp only [cutP]; split <;> simp <;> omega
  · exact var_eq x
theorem sIsTerm.ret (x : Str) (hx : x.length ≤ 1048576) : sIsTerm.Ret [.str x] (.val (.bool (atomF x || varF x))) [] := by
  refine sIsTerm.of rfl ?_
  repeat' first
    | (conv => whnf
       first | refine Need.mk (fun h => h) ?_ | refine FinVal.keep ?_ | refine Final.mk rfl rfl | refine ACall.scalA _ _ (sIsAtom.ret _ ?_) rfl ?_ | refine AGCall.mkA _ _ (fun hg => sIsVar.ret _ ?_) rfl ?_)
  all_goals exact hx
theorem pIsTerm.ret (x : Str) (hx : x.length ≤ 1048576) : pIsTerm.Ret [.str x] (.val (.bool (atomF x || varF x))) [] := by
  refine pIsTerm.of rfl ?_
  repeat' first
    | (conv => whnf
       first | refine Need.mk (fun h => h) ?_ | refine FinVal.keep ?_ | refine Final.mk rfl rfl | refine ACall.scalA _ _ (pIsAtom.ret _ ?_) rfl ?_ | refine AGCall.mkA _ _ (fun hg => pIsVar.ret _ ?_) rfl ?_)
  all_goals exact hx
end Go.Proofs.YtfnejdkkhpjhmaaGreatDoor
namespace Go.Proofs.YtfnejdkkhpjhmaaGreatDoor
open Abs
def sIsPattern.code : ACode := (.seq (.region false [s 1 (.box (t 0)), s 2 (.mv (.const (.bool false)))]) (.seq (.seq (.region false [s 3 (.mv (.const (.int .i64 0)))]) (.block 0 (.loop (.seq (.seq (.region false [s 4 (.mv (t 3)), s 5 (.fadr 1 (t 1)), s 6 (.load false 1 (t 5)), s 7 (.len false (t 6)), s 8 (.bin .lss (t 4) (t 7))]) (.cond (t 8) .skip (.exit 0))) (.seq (.block 1 (.seq (.region false [s 11 (.fadr 1 (t 1)), s 12 (.load false 1 (t 11)), s 13 (.mv (t 3)), s 14 (.iadr 1 (t 12) (t 13)), s 15 (.load false 1 (t 14)), s 16 (.call 226 [(t 15)]), s 17 (.not (t 16))]) (.cond (t 17) (.seq (.region false [s 2 (.mv (.const (.bool false)))]) .ret) .skip))) (.region false [s 9 (.mv (t 3)), s 10 (.bin .add (t 9) (.const (.int .i64 1))), s 3 (.mv (t 10))])))))) (.seq (.region false [s 18 (.fadr 0 (t 1)), s 19 (.load false 1 (t 18)), s 20 (.call 159 [(t 19)]), s 21 (.mv (t 20)), g 21 true 22 (.fadr 1 (t 1)), g 21 true 23 (.load false 1 (t 22)), g 21 true 24 (.len false (t 23)), g 21 true 25 (.bin .leq (t 24) (.const (.int .i64 3))), s 26 (.and (t 21) (t 25)), s 2 (.mv (t 26))]) .ret)))
def sIsPattern.keep : List Nat := [0, 1, 2, 3]
def sIsPattern.res : List RRes := [.tmp 2]
theorem sIsPattern.of {mo : Bool} {args : List AV} {r : AV} {frs : Fr} (hn : Nat.ble args.length Tryz.f196.ntmps = true) (h : aCode (Kn mo Tryz.prog) sIsPattern.keep 0 sIsPattern.code (doneK sIsPattern.res r frs) ⟨argEnv 0 args, [], []⟩) : Abs.Ret mo Tryz.prog 196 args r frs :=
  Abs.Ret.of_ir Tryz.func196 rfl (by kernel_rfl) (Nat.le_of_ble_eq_true hn) (by kernel_rfl) (by kernel_rfl) h
abbrev sIsPattern.Ret (args : List AV) (r : AV) (frs : Fr) : Prop := Abs.Ret true Tryz.prog 196 args r frs
def pIsPattern.code : ACode := (.seq (.region false [s 1 (.box (t 0)), s 2 (.mv (.const (.bool false)))]) (.seq (.region false [s 3 (.fadr 0 (t 1)), s 4 (.load false 1 (t 3)), s 5 (.fadr 1 (t 1)), s 6 (.load false 1 (t 5)), s 7 (.call 206 [(t 4), (t 6), (.func 276)]), s 2 (.mv (t 7))]) .ret))
def pIsPattern.keep : List Nat := [0, 1, 2]
def pIsPattern.res : List RRes := [.tmp 2]
theorem pIsPattern.of {mo : Bool} {args : List AV} {r : AV} {frs : Fr} (hn : Nat.ble args.length Tryz.f229.ntmps = true) (h : aCode (Kn mo Tryz.prog) pIsPattern.keep 0 pIsPattern.code (doneK pIsPattern.res r frs) ⟨argEnv 0 args, [], []⟩) : Abs.Ret mo Tryz.prog 229 args r frs :=
  Abs.Ret.of_ir Tryz.func229 rfl (by kernel_rfl) (Nat.le_of_ble_eq_true hn) (by kernel_rfl) (by kernel_rfl) h
abbrev pIsPattern.Ret (args : List AV) (r : AV) (frs : Fr) : Prop := Abs.Ret true Tryz.prog 229 args r frs
def sFormatPattern.code : ACode := (.seq (.region false [s 1 (.box (t 0)), s 2 (.mv (.const (.string (.mk #[]))))]) (.seq (.seq (.region false [s 3 (.load true 2 (t 1)), s 4 (.call 196 [(t 3)]), s 5 (.not (t 4))]) (.cond (t 5) (.seq (.region false [s 2 (.mv (.const (.string (.mk #[]))))]) .ret) .skip)) (.seq (.region true [s 6 (.fadr 0 (t 1)), s 7 (.load false 1 (t 6)), s 8 (.bin .add (t 7) (.const (.string (.mk #[40])))), s 9 (.fadr 1 (t 1)), s 10 (.load false 1 (t 9)), s 11 (.call 227 [(t 10), (.const (.string (.mk #[44])))]), s 12 (.bin .add (t 8) (t 11)), s 13 (.bin .add (t 12) (.const (.string (.mk #[41])))), s 2 (.mv (t 13))]) .ret)))
def sFormatPattern.keep : List Nat := [0, 1, 2]
def sFormatPattern.res : List RRes := [.tmp 2]
theorem sFormatPattern.of {mo : Bool} {args : List AV} {r : AV} {frs : Fr} (hn : Nat.ble args.length Tryz.f150.ntmps = true) (h : aCode (Kn mo Tryz.prog) sFormatPattern.keep 0 sFormatPattern.code (doneK sFormatPattern.res r frs) ⟨argEnv 0 args, [], []⟩) : Abs.Ret mo Tryz.prog 150 args r frs :=
  Abs.Ret.of_ir Tryz.func150 rfl (by kernel_rfl) (Nat.le_of_ble_eq_true hn) (by kernel_rfl) (by kernel_rfl) h
abbrev sFormatPattern.Ret (args : List AV) (r : AV) (frs : Fr) : Prop := Abs.Ret true Tryz.prog 150 args r frs
def pFormatPattern.code : ACode := (.seq (.region false [s 1 (.box (t 0)), s 2 (.mv (.const (.string (.mk #[]))))]) (.seq (.seq (.region false [s 3 (.load true 2 (t 1)), s 4 (.call 229 [(t 3)]), s 5 (.not (t 4))]) (.cond (t 5) (.seq (.region false [s 2 (.mv (.const (.string (.mk #[]))))]) .ret) .skip)) (.seq (.region false [s 6 (.fadr 0 (t 1)), s 7 (.load false 1 (t 6)), s 8 (.fadr 1 (t 1)), s 9 (.load false 1 (t 8)), s 10 (.call 231 [(t 7), (t 9)]), s 2 (.mv (t 10))]) .ret)))
def pFormatPattern.keep : List Nat := [0, 1, 2]
def pFormatPattern.res : List RRes := [.tmp 2]
theorem pFormatPattern.of {mo : Bool} {args : List AV} {r : AV} {frs : Fr} (hn : Nat.ble args.length Tryz.f154.ntmps = true) (h : aCode (Kn mo Tryz.prog) pFormatPattern.keep 0 pFormatPattern.code (doneK pFormatPattern.res r frs) ⟨argEnv 0 args, [], []⟩) : Abs.Ret mo Tryz.prog 154 args r frs :=
  Abs.Ret.of_ir Tryz.func154 rfl (by kernel_rfl) (Nat.le_of_ble_eq_true hn) (by kernel_rfl) (by kernel_rfl) h
abbrev pFormatPattern.RetN (args : List AV) (r : AV) (frs : Fr) : Prop := Abs.Ret false Tryz.prog 154 args r frs
def pSamePattern.code : ACode := (.seq (.region false [s 2 (.box (t 0)), s 3 (.box (t 1)), s 4 (.mv (.const (.bool false)))]) (.seq (.region false [s 5 (.fadr 0 (t 2)), s 6 (.load false 1 (t 5)), s 7 (.fadr 0 (t 3)), s 8 (.load false 1 (t 7)), s 9 (.bin .eql (t 6) (t 8)), s 10 (.mv (t 9)), g 10 true 11 (.fadr 1 (t 2)), g 10 true 12 (.load false 1 (t 11)), g 10 true 13 (.fadr 1 (t 3)), g 10 true 14 (.load false 1 (t 13)), g 10 true 15 (.call 262 [(t 12), (t 14)]), s 16 (.and (t 10) (t 15)), s 4 (.mv (t 16))]) .ret))
def pSamePattern.keep : List Nat := [0, 1, 2, 3, 4]
def pSamePattern.res : List RRes := [.tmp 4]
theorem pSamePattern.of {mo : Bool} {args : List AV} {r : AV} {frs : Fr} (hn : Nat.ble args.length Tryz.f214.ntmps = true) (h : aCode (Kn mo Tryz.prog) pSamePattern.keep 0 pSamePattern.code (doneK pSamePattern.res r frs) ⟨argEnv 0 args, [], []⟩) : Abs.Ret mo Tryz.prog 214 args r frs :=
  Abs.Ret.of_ir Tryz.func214 rfl (by kernel_rfl) (Nat.le_of_ble_eq_true hn) (by kernel_rfl) (by kernel_rfl) h
abbrev pSamePattern.Ret (args : List AV) (r : AV) (frs : Fr) : Prop := Abs.Ret true Tryz.prog 214 args r frs
def pisTuple.code : ACode := (.seq (.region false [s 6 (.mv (.const (.bool false)))]) (.seq (.seq (.region false [s 9 (.mv (t 0)), s 10 (.call 172 [(t 9)]), s 11 (.not (t 10)), s 12 (.mv (t 11)), g 12 false 13 (.mv (t 1)), g 12 false 14 (.len false (t 13)), g 12 false 15 (.bin .gtr (t 14) (.const (.int .i64 3))), s 16 (.or (t 12) (t 15))]) (.cond (t 16) (.seq (.region false [s 6 (.mv (.const (.bool false)))]) .ret) .skip)) (.seq (.seq (.region false [s 17 (.mv (t 1)), s 18 (.len false (t 17)), s 19 (.mv (.const (.int .i64 0)))]) (.block 0 (.loop (.seq (.region false [s 20 (.bin .lss (t 19) (t 18))]) (.seq (.cond (t 20) .skip (.exit 0)) (.seq (.block 1 (.seq (.region false [s 21 (.iadr 1 (t 17) (t 19)), s 22 (.load false 1 (t 21)), s 8 (.mv (t 22))]) (.seq (.region false [s 23 (.mv (t 2)), s 24 (.mv (t 8)), s 25 (.callv (t 23) [(t 24)]), s 26 (.not (t 25))]) (.cond (t 26) (.seq (.region false [s 6 (.mv (.const (.bool false)))]) .ret) .skip)))) (.region false [s 27 (.bin .add (t 19) (.const (.int .i64 1))), s 19 (.mv (t 27))]))))))) (.seq (.region false [s 6 (.mv (.const (.bool true)))]) .ret))))
def pisTuple.keep : List Nat := [0, 1, 2, 6, 8, 17, 18, 19, 20]
def pisTuple.res : List RRes := [.tmp 6]
theorem pisTuple.of {mo : Bool} {args : List AV} {r : AV} {frs : Fr} (hn : Nat.ble args.length Tryz.f206.ntmps = true) (h : aCode (Kn mo Tryz.prog) pisTuple.keep 0 pisTuple.code (doneK pisTuple.res r frs) ⟨argEnv 0 args, [], []⟩) : Abs.Ret mo Tryz.prog 206 args r frs :=
  Abs.Ret.of_ir Tryz.func206 rfl (by kernel_rfl) (Nat.le_of_ble_eq_true hn) (by kernel_rfl) (by kernel_rfl) h
abbrev pisTuple.Ret (args : List AV) (r : AV) (frs : Fr) : Prop := Abs.Ret true Tryz.prog 206 args r frs
def pformatTuple.code : ACode := (.seq (.region false [s 4 (.mv (.const (.string (.mk #[]))))]) (.seq (.region false [s 5 (.mv (t 0)), s 6 (.bin .add (t 5) (.const (.string (.mk #[40])))), s 7 (.mv (t 1)), s 8 (.call 156 [(t 7), (.const (.string (.mk #[44])))]), s 9 (.bin .add (t 6) (t 8)), s 10 (.bin .add (t 9) (.const (.string (.mk #[41])))), s 4 (.mv (t 10))]) .ret))
def pformatTuple.keep : List Nat := [0, 1, 4]
def pformatTuple.res : List RRes := [.tmp 4]
theorem pformatTuple.of {mo : Bool} {args : List AV} {r : AV} {frs : Fr} (hn : Nat.ble args.length Tryz.f231.ntmps = true) (h : aCode (Kn mo Tryz.prog) pformatTuple.keep 0 pformatTuple.code (doneK pformatTuple.res r frs) ⟨argEnv 0 args, [], []⟩) : Abs.Ret mo Tryz.prog 231 args r frs :=
  Abs.Ret.of_ir Tryz.func231 rfl (by kernel_rfl) (Nat.le_of_ble_eq_true hn) (by kernel_rfl) (by kernel_rfl) h
abbrev pformatTuple.RetN (args : List AV) (r : AV) (frs : Fr) : Prop := Abs.Ret false Tryz.prog 231 args r frs
end Go.Proofs.YtfnejdkkhpjhmaaGreatDoor
namespace Go.Proofs.YtfnejdkkhpjhmaaGreatDoor
open Abs
def termF (x : Str) : Bool := atomF x || varF x
theorem allQ_no {q : Str → Bool} {x : List Str} {i : Nat} (hi : i < x.length) (h : q (x.getD i []) = false) : x.all q = false := by
  rw [List.all_eq_false]
  refine ⟨x.getD i [], ?_, by rw [h]; simp⟩
  simp [List.getD, hi]
theorem allQ_succ {q : Str → Bool} {x : List Str} {i : Nat} (hi : i < x.length) (h : (x.take i).all q = true) (hc : q (x.getD i []) = true) : (x.take (i + 1)).all q = true := by
  rw [take_succ' [] hi, List.all_append, h]; simpa using hc
def tupF (q : Str → Bool) (f : Fct) : Bool := nameF f.1 && decide ((f.2.length : Int) ≤ 3) && f.2.all q
abbrev isPatF (f : VPattern) : Bool := tupF termF f
theorem pisTuple.ret (q : Str → Bool) (F : Nat) (hq : ∀ s : Str, s.length ≤ 1048576 → Abs.Ret true Tryz.prog F [.str s] (.val (.bool (q s))) []) (r : Str) (l : List Str) (h : r.length + listSize Ty.str l ≤ 1048576) (hl : l.length ≤ 1048576) :
    pisTuple.Ret [.str r, .list none (strs l), .clo F [] []] (.val (.bool (tupF q (r, l)))) [] := by
  refine pisTuple.of rfl ?_
  repeat' first
    | (conv => whnf
       first | refine Need.mk (fun h => h) ?_ | refine Need.mk rfl ?_ | refine Fork.mk (fun _ => ?_) (fun _ => ?_) | refine FinVal.keep ?_ | refine Final.mk ?_ rfl | refine ACall.scalA _ _ (pIsName.ret _ ?_) rfl ?_)
    | refine AV.bool_congr ?_
  · omega
  · rename_i h1
    simp only [length_strs] at h1
    unfold tupF
    cases hn : nameF r
    · simp
    · rw [hn] at h1
      have : ¬ (l.length : Int) ≤ 3 := by simp at h1; omega
      simp [this]
  rename_i h1
  simp only [length_strs] at h1
  have hn : nameF r = true := by revert h1; cases nameF r <;> simp
  have hl3 : (l.length : Int) ≤ 3 := by rw [hn] at h1; simp at h1; omega
  skip
  refine ALoop.mk Nat (fun i => ⟨[(0, .str r), (1, .list none (strs l)), (2, .clo F [] []), (17, .list none (strs l)), (18, .val (.int .i64 l.length)), (19, .val (.int .i64 i))], [], []⟩) (fun i => i ≤ l.length ∧ (l.take i).all q = true) (fun i => l.length - i) ⟨0, ⟨Nat.zero_le _, rfl⟩, ?_⟩ (fun i hi => ?_)
  · repeat' first
      | exact trivial | refine Weak.mk ?_ ?_ ?_ ?_ (Or.inl (Nat.le_of_ble_eq_true rfl)) | refine And.intro ?_ ?_ | with_reducible rfl | exact Nat.le_of_ble_eq_true rfl | refine AV.int_congr ?_ | refine AV.str_congr ?_ | refine AV.list_congr ?_ | (apply rfl)
    simp
  repeat' first
    | (conv => whnf
       first | refine Need.mk rfl ?_ | refine Ix.strsF rfl ?_ | refine Fork.dec (fun _ => ?_) (fun _ => ?_) | refine Fork.neg (fun _ => ?_) (fun _ => ?_) | refine Round.mk ?_ | refine FinVal.keep ?_ | refine Final.mk ?_ rfl | refine ACall.scalA _ _ (hq _ ?_) rfl ?_)
    | refine AV.bool_congr ?_
  all_goals try simp only [length_rows, length_strs, length_oldLL, List.length_map, Int.toNat_natCast] at *
  · have := str_le (l := l) (i := i) (by omega); omega
  · rename_i h1 h2
    simp [tupF, allQ_no (by omega) h2]
  · rename_i h1 h2
    refine ⟨i + 1, ⟨by omega, allQ_succ (by omega) hi.2 h2⟩, ?_, by omega⟩
    repeat' first
      | exact trivial | refine Weak.mk ?_ ?_ ?_ ?_ (Or.inl (Nat.le_of_ble_eq_true rfl)) | refine And.intro ?_ ?_ | with_reducible rfl | exact Nat.le_of_ble_eq_true rfl | refine AV.int_congr ?_ | refine AV.str_congr ?_ | refine AV.list_congr ?_ | (apply rfl)
    rw [wrap64 (by omega) (by omega)]; rfl
  · have := hi.2
    rw [List.take_of_length_le (by omega)] at this
    simp [tupF, this, hn, hl3]
theorem pIsPattern.ret (f : VPattern) (h : tPattern.size f ≤ 1048576) : pIsPattern.Ret [.agg (oldL (tPattern.q f))] (.val (.bool (isPatF f))) [] := by
  refine pIsPattern.of rfl ?_
  have h : tFct.size f ≤ 1048576 := h
  rw [tFct_size, tStrs_size] at h
  have ht : pisTuple.Ret [.str f.1, .list none (strs f.2), .clo 276 [] []] (.val (.bool (isPatF f))) [] := pisTuple.ret termF _ (fun s hs => pIsTerm.ret s hs) f.1 f.2 (by omega) (by omega)
  repeat' first
    | (conv => whnf
       first | refine FinVal.keep ?_ | refine Final.mk rfl rfl | refine ACall.scalA _ _ (ht) rfl ?_)
theorem sIsPattern.ret (f : VPattern) (h : tPattern.size f ≤ 1048576) : sIsPattern.Ret [.agg (oldL (tPattern.q f))] (.val (.bool (isPatF f))) [] := by
  refine sIsPattern.of rfl ?_
  have h : tFct.size f ≤ 1048576 := h
  rw [tFct_size, tStrs_size] at h
  skip
  refine ALoop.mk Nat (fun i => ⟨[(1, .bptr 0 0), (3, .val (.int .i64 i))], [.cells .var (oldL (tPattern.q f))], []⟩) (fun i => i ≤ f.2.length ∧ (f.2.take i).all termF = true) (fun i => f.2.length - i) ⟨0, ⟨Nat.zero_le _, rfl⟩, ?_⟩ (fun i hi => ?_)
  · repeat' first
      | exact trivial | refine Weak.mk ?_ ?_ ?_ ?_ (Or.inl (Nat.le_of_ble_eq_true rfl)) | refine And.intro ?_ ?_ | with_reducible rfl | exact Nat.le_of_ble_eq_true rfl | refine AV.int_congr ?_ | (apply rfl)
  repeat' first
    | (conv => whnf
       first | refine Need.mk (fun h => h) ?_ | refine Need.mk rfl ?_ | refine Ix.strsF rfl ?_ | refine Fork.dec (fun _ => ?_) (fun _ => ?_) | refine Fork.neg (fun _ => ?_) (fun _ => ?_) | refine Round.mk ?_ | refine FinVal.keep ?_ | refine Final.mk ?_ rfl | refine ACall.scalA _ _ (sIsTerm.ret _ ?_) rfl ?_ | refine ACall.scalA _ _ (sIsName.ret _ ?_) rfl ?_)
    | refine AV.bool_congr ?_
  all_goals try simp only [length_rows, length_strs, length_oldLL, List.length_map, Int.toNat_natCast] at *
  · have := str_le (l := f.2) (i := i) (by omega); omega
  · rename_i h2 h1
    have h2 : termF (f.2.getD i []) = false := h2
    simp [tupF, allQ_no (by omega) h2]
  · rename_i h2 h1
    refine ⟨i + 1, ⟨by omega, allQ_succ (by omega) hi.2 h2⟩, ?_, by omega⟩
    repeat' first
      | exact trivial | refine Weak.mk ?_ ?_ ?_ ?_ (Or.inl (Nat.le_of_ble_eq_true rfl)) | refine And.intro ?_ ?_ | with_reducible rfl | exact Nat.le_of_ble_eq_true rfl | refine AV.int_congr ?_ | (apply rfl)
    rw [wrap64 (by omega) (by omega)]; rfl
  · omega
  · have := hi.2
    rw [List.take_of_length_le (by omega)] at this
    simp [tupF, this]
end Go.Proofs.YtfnejdkkhpjhmaaGreatDoor
namespace Go.Proofs.YtfnejdkkhpjhmaaGreatDoor
open Abs
theorem slEqual.ret (l m : List Str) (hl : l.length ≤ 1099511627776) : slEqual.Ret [.list none (strs l), .list none (strs m)] (.val (.bool (decide (l = m)))) [] := by
  refine slEqual.of rfl ?_
  repeat' first
    | (conv => whnf
       first | refine Need.mk rfl ?_ | refine Fork.bne (fun _ => ?_) (fun _ => ?_) | refine FinVal.keep ?_ | refine Final.mk ?_ rfl)
    | refine AV.bool_congr ?_
  · rename_i h
    rw [length_strs, length_strs] at h
    have h3 : ¬ l = m := fun e => h (by rw [e])
    simp [h3]
  rename_i h
  rw [length_strs, length_strs] at h
  have h : l.length = m.length := by omega
  skip
  refine ALoop.mk Nat (fun i => ⟨[(0, .list none (strs l)), (1, .list none (strs m)), (12, .val (.int .i64 l.length)), (13, .val (.int .i64 i))], [], []⟩) (fun i => i ≤ l.length ∧ l.take i = m.take i) (fun i => l.length - i) ⟨0, ⟨Nat.zero_le _, rfl⟩, ?_⟩ (fun i hi => ?_)
  · repeat' first
      | exact trivial | refine Weak.mk ?_ ?_ ?_ ?_ (Or.inl (Nat.le_of_ble_eq_true rfl)) | refine And.intro ?_ ?_ | with_reducible rfl | exact Nat.le_of_ble_eq_true rfl | refine AV.int_congr ?_ | refine AV.list_congr ?_ | (apply rfl)
    simp
  repeat' first
    | (conv => whnf
       first | refine Need.mk rfl ?_ | refine Ix.strsF rfl ?_ | refine Fork.dec (fun _ => ?_) (fun _ => ?_) | refine Fork.sne (fun _ => ?_) (fun _ => ?_) | refine Round.mk ?_ | refine FinVal.keep ?_ | refine Final.mk ?_ rfl)
    | refine AV.bool_congr ?_
  · rename_i h1 h2
    have h3 : ¬ l = m := fun e => h2 (by rw [e])
    simp [h3]
  · rename_i h1 h2
    refine ⟨i + 1, ⟨by omega, ?_⟩, ?_, by omega⟩
    · rw [take_succ' [] (by omega), take_succ' (l := m) [] (by omega), hi.2]
      rw [Int.toNat_natCast] at h2
      have h2' : l.getD i [] = m.getD i [] := h2
      rw [h2']
    · repeat' first
        | exact trivial | refine Weak.mk ?_ ?_ ?_ ?_ (Or.inl (Nat.le_of_ble_eq_true rfl)) | refine And.intro ?_ ?_ | with_reducible rfl | exact Nat.le_of_ble_eq_true rfl | refine AV.int_congr ?_ | refine AV.list_congr ?_ | (apply rfl)
      rw [wrap64 (by omega) (by omega)]; rfl
  · rename_i h1
    have h2 := hi.2
    rw [List.take_of_length_le (by omega), List.take_of_length_le (by omega)] at h2
    simp [h2]
end Go.Proofs.YtfnejdkkhpjhmaaGreatDoor
namespace Go.Proofs.YtfnejdkkhpjhmaaGreatDoor
open Abs
theorem pSamePattern.ret (f g : VPattern) (h : tPattern.size f ≤ 1048576) : pSamePattern.Ret [.agg (oldL (tPattern.q f)), .agg (oldL (tPattern.q g))] (.val (.bool (decide (f = g)))) [] := by
  refine pSamePattern.of rfl ?_
  have h : tFct.size f ≤ 1048576 := h
  rw [tFct_size, tStrs_size] at h
  repeat' first
    | (conv => whnf
       first | refine Need.mk (fun h => h) ?_ | refine FinVal.keep ?_ | refine Final.mk ?_ rfl | refine AGCall.mkA _ _ (fun hg => slEqual.ret _ _ ?_) rfl ?_)
    | refine AV.bool_congr ?_
  · omega
  · obtain ⟨r, l⟩ := f; obtain ⟨r', l'⟩ := g
    rw [Bool.eq_iff_iff]; simp
end Go.Proofs.YtfnejdkkhpjhmaaGreatDoor
namespace Go.Proofs.YtfnejdkkhpjhmaaGreatDoor
open Abs
def sIsCond.code : ACode := (.seq (.region false [s 1 (.box (t 0)), s 2 (.mv (.const (.bool false)))]) (.seq (.seq (.region false [s 3 (.fadr 0 (t 1)), s 4 (.load false 1 (t 3))]) (.block 0 (.seq (.seq (.region false [s 6 (.bin .eql (t 4) (.const (.int .i64 1))), s 5 (.mv (t 6))]) (.cond (t 5) .skip (.region false [s 7 (.bin .eql (t 4) (.const (.int .i64 2))), s 5 (.mv (t 7))]))) (.cond (t 5) (.seq (.region false [s 8 (.fadr 1 (t 1)), s 9 (.load true 2 (t 8)), s 10 (.call 196 [(t 9)]), s 11 (.mv (t 10)), g 11 true 12 (.fadr 3 (t 1)), g 11 true 13 (.load false 1 (t 12)), g 11 true 14 (.bin .eql (t 13) (.const (.string (.mk #[])))), s 15 (.and (t 11) (t 14)), s 16 (.mv (t 15)), g 16 true 17 (.fadr 4 (t 1)), g 16 true 18 (.load false 1 (t 17)), g 16 true 19 (.bin .eql (t 18) (.const (.string (.mk #[])))), s 20 (.and (t 16) (t 19)), s 2 (.mv (t 20))]) .ret) (.seq (.seq (.region false [s 22 (.bin .eql (t 4) (.const (.int .i64 3))), s 21 (.mv (t 22))]) (.cond (t 21) .skip (.seq (.region false [s 23 (.bin .eql (t 4) (.const (.int .i64 4))), s 21 (.mv (t 23))]) (.cond (t 21) .skip (.region false [s 24 (.bin .eql (t 4) (.const (.int .i64 5))), s 21 (.mv (t 24))]))))) (.cond (t 21) (.seq (.region false [s 25 (.fadr 1 (t 1)), s 26 (.fadr 0 (t 25)), s 27 (.load false 1 (t 26)), s 28 (.bin .eql (t 27) (.const (.string (.mk #[])))), s 29 (.mv (t 28)), g 29 true 30 (.fadr 1 (t 1)), g 29 true 31 (.fadr 1 (t 30)), g 29 true 32 (.load false 1 (t 31)), g 29 true 33 (.len false (t 32)), g 29 true 34 (.bin .eql (t 33) (.const (.int .i64 0))), s 35 (.and (t 29) (t 34)), s 36 (.mv (t 35)), g 36 true 37 (.fadr 3 (t 1)), g 36 true 38 (.load false 1 (t 37)), g 36 true 39 (.call 226 [(t 38)]), s 40 (.and (t 36) (t 39)), s 41 (.mv (t 40)), g 41 true 42 (.fadr 4 (t 1)), g 41 true 43 (.load false 1 (t 42)), g 41 true 44 (.call 226 [(t 43)]), s 45 (.and (t 41) (t 44)), s 2 (.mv (t 45))]) .ret) .skip)))))) (.seq (.region false [s 2 (.mv (.const (.bool false)))]) .ret)))
def sIsCond.keep : List Nat := [0, 1, 2, 4, 5, 21]
def sIsCond.res : List RRes := [.tmp 2]
theorem sIsCond.of {mo : Bool} {args : List AV} {r : AV} {frs : Fr} (hn : Nat.ble args.length Tryz.f149.ntmps = true) (h : aCode (Kn mo Tryz.prog) sIsCond.keep 0 sIsCond.code (doneK sIsCond.res r frs) ⟨argEnv 0 args, [], []⟩) : Abs.Ret mo Tryz.prog 149 args r frs :=
  Abs.Ret.of_ir Tryz.func149 rfl (by kernel_rfl) (Nat.le_of_ble_eq_true hn) (by kernel_rfl) (by kernel_rfl) h
abbrev sIsCond.Ret (args : List AV) (r : AV) (frs : Fr) : Prop := Abs.Ret true Tryz.prog 149 args r frs
def pIsCond.code : ACode := (.seq (.region false [s 1 (.box (t 0)), s 2 (.mv (.const (.bool false)))]) (.seq (.seq (.region false [s 3 (.fadr 0 (t 1)), s 4 (.load false 1 (t 3))]) (.block 0 (.seq (.seq (.region false [s 6 (.bin .eql (t 4) (.const (.int .i64 1))), s 5 (.mv (t 6))]) (.cond (t 5) .skip (.region false [s 7 (.bin .eql (t 4) (.const (.int .i64 2))), s 5 (.mv (t 7))]))) (.cond (t 5) (.seq (.region false [s 8 (.fadr 1 (t 1)), s 9 (.load true 2 (t 8)), s 10 (.call 229 [(t 9)]), s 11 (.mv (t 10)), g 11 true 12 (.fadr 3 (t 1)), g 11 true 13 (.load false 1 (t 12)), g 11 true 14 (.bin .eql (t 13) (.const (.string (.mk #[])))), s 15 (.and (t 11) (t 14)), s 16 (.mv (t 15)), g 16 true 17 (.fadr 4 (t 1)), g 16 true 18 (.load false 1 (t 17)), g 16 true 19 (.bin .eql (t 18) (.const (.string (.mk #[])))), s 20 (.and (t 16) (t 19)), s 2 (.mv (t 20))]) .ret) .skip)))) (.seq (.region false [s 21 (.load true 5 (t 1)), s 22 (.call 230 [(t 21)]), s 2 (.mv (t 22))]) .ret)))
def pIsCond.keep : List Nat := [0, 1, 2, 4, 5]
def pIsCond.res : List RRes := [.tmp 2]
theorem pIsCond.ofS {mo : Bool} {args : List AV} {r : AV} (hr : isScalR r = true) (hn : Nat.ble args.length Tryz.f153.ntmps = true) (h : aCode (Kn mo Tryz.prog) pIsCond.keep 0 pIsCond.code (doneS pIsCond.res r) ⟨argEnv 0 args, [], []⟩) : Abs.Ret mo Tryz.prog 153 args r [] :=
  Abs.Ret.of_irS hr Tryz.func153 rfl (by kernel_rfl) (Nat.le_of_ble_eq_true hn) (by kernel_rfl) (by kernel_rfl) h
abbrev pIsCond.Ret (args : List AV) (r : AV) (frs : Fr) : Prop := Abs.Ret true Tryz.prog 153 args r frs
def pIsTest.code : ACode := (.seq (.region false [s 1 (.box (t 0)), s 2 (.mv (.const (.bool false)))]) (.seq (.region false [s 6 (.fadr 0 (t 1)), s 7 (.load false 1 (t 6)), s 8 (.call 155 [(t 7)]), s 5 (.mv (t 8)), s 9 (.extract (t 5) 0), s 10 (.extract (t 5) 1), s 3 (.alloc [(.int .i64 (.ofNat 0)), (.string (.mk (.mk []))), .nilFunc]), ⟨none, none, (.store 3 (t 3) (t 9))⟩, s 4 (.mv (t 10))]) (.seq (.region false [s 11 (.mv (t 4)), s 12 (.mv (t 11)), g 12 true 13 (.fadr 3 (t 1)), g 12 true 14 (.load false 1 (t 13)), g 12 true 15 (.call 276 [(t 14)]), s 16 (.and (t 12) (t 15)), s 17 (.mv (t 16)), g 17 true 18 (.fadr 4 (t 1)), g 17 true 19 (.load false 1 (t 18)), g 17 true 20 (.call 276 [(t 19)]), s 21 (.and (t 17) (t 20)), s 22 (.mv (t 21)), g 22 true 23 (.fadr 1 (t 1)), g 22 true 24 (.load true 2 (t 23)), g 22 true 25 (.build [(.string (.mk (.mk []))), (.slice none 0 0)] [] []), g 22 true 26 (.call 214 [(t 24), (t 25)]), s 27 (.and (t 22) (t 26)), s 2 (.mv (t 27))]) .ret)))
def pIsTest.keep : List Nat := [0, 1, 2, 4]
def pIsTest.res : List RRes := [.tmp 2]
theorem pIsTest.ofS {mo : Bool} {args : List AV} {r : AV} (hr : isScalR r = true) (hn : Nat.ble args.length Tryz.f230.ntmps = true) (h : aCode (Kn mo Tryz.prog) pIsTest.keep 0 pIsTest.code (doneS pIsTest.res r) ⟨argEnv 0 args, [], []⟩) : Abs.Ret mo Tryz.prog 230 args r [] :=
  Abs.Ret.of_irS hr Tryz.func230 rfl (by kernel_rfl) (Nat.le_of_ble_eq_true hn) (by kernel_rfl) (by kernel_rfl) h
abbrev pIsTest.Ret (args : List AV) (r : AV) (frs : Fr) : Prop := Abs.Ret true Tryz.prog 230 args r frs
def sFormatCond.code : ACode := (.seq (.region false [s 1 (.box (t 0)), s 2 (.mv (.const (.string (.mk #[]))))]) (.seq (.seq (.region false [s 3 (.load true 5 (t 1)), s 4 (.call 149 [(t 3)]), s 5 (.not (t 4))]) (.cond (t 5) (.seq (.region false [s 2 (.mv (.const (.string (.mk #[]))))]) .ret) .skip)) (.seq (.seq (.region false [s 6 (.fadr 0 (t 1)), s 7 (.load false 1 (t 6))]) (.block 0 (.seq (.region false [s 9 (.bin .eql (t 7) (.const (.int .i64 1))), s 8 (.mv (t 9))]) (.cond (t 8) (.seq (.region false [s 10 (.fadr 1 (t 1)), s 11 (.load true 2 (t 10)), s 12 (.call 150 [(t 11)]), s 2 (.mv (t 12))]) .ret) (.seq (.region false [s 14 (.bin .eql (t 7) (.const (.int .i64 2))), s 13 (.mv (t 14))]) (.cond (t 13) (.seq (.region false [s 15 (.fadr 1 (t 1)), s 16 (.load true 2 (t 15)), s 17 (.call 150 [(t 16)]), s 18 (.bin .add (.const (.string (.mk #[110, 111, 116, 32]))) (t 17)), s 2 (.mv (t 18))]) .ret) .skip)))))) (.seq (.region true [s 19 (.fadr 3 (t 1)), s 20 (.load false 1 (t 19)), s 21 (.fadr 0 (t 1)), s 22 (.load false 1 (t 21)), s 23 (.call 151 [(t 22)]), s 24 (.bin .add (t 20) (t 23)), s 25 (.fadr 4 (t 1)), s 26 (.load false 1 (t 25)), s 27 (.bin .add (t 24) (t 26)), s 2 (.mv (t 27))]) .ret))))
def sFormatCond.keep : List Nat := [0, 1, 2, 7]
def sFormatCond.res : List RRes := [.tmp 2]
theorem sFormatCond.of {mo : Bool} {args : List AV} {r : AV} {frs : Fr} (hn : Nat.ble args.length Tryz.f83.ntmps = true) (h : aCode (Kn mo Tryz.prog) sFormatCond.keep 0 sFormatCond.code (doneK sFormatCond.res r frs) ⟨argEnv 0 args, [], []⟩) : Abs.Ret mo Tryz.prog 83 args r frs :=
  Abs.Ret.of_ir Tryz.func83 rfl (by kernel_rfl) (Nat.le_of_ble_eq_true hn) (by kernel_rfl) (by kernel_rfl) h
abbrev sFormatCond.Ret (args : List AV) (r : AV) (frs : Fr) : Prop := Abs.Ret true Tryz.prog 83 args r frs
def pFormatCond.code : ACode := (.seq (.region false [s 1 (.box (t 0)), s 2 (.mv (.const (.string (.mk #[]))))]) (.seq (.seq (.region false [s 5 (.load true 5 (t 1)), s 6 (.call 153 [(t 5)]), s 7 (.not (t 6))]) (.cond (t 7) (.seq (.region false [s 2 (.mv (.const (.string (.mk #[]))))]) .ret) .skip)) (.seq (.seq (.region false [s 8 (.fadr 0 (t 1)), s 9 (.load false 1 (t 8))]) (.block 0 (.seq (.region false [s 11 (.bin .eql (t 9) (.const (.int .i64 1))), s 10 (.mv (t 11))]) (.cond (t 10) (.seq (.region false [s 12 (.fadr 1 (t 1)), s 13 (.load true 2 (t 12)), s 14 (.call 154 [(t 13)]), s 2 (.mv (t 14))]) .ret) (.seq (.region false [s 16 (.bin .eql (t 9) (.const (.int .i64 2))), s 15 (.mv (t 16))]) (.cond (t 15) (.seq (.region false [s 17 (.fadr 1 (t 1)), s 18 (.load true 2 (t 17)), s 19 (.call 154 [(t 18)]), s 20 (.bin .add (.const (.string (.mk #[110, 111, 116, 32]))) (t 19)), s 2 (.mv (t 20))]) .ret) .skip)))))) (.seq (.region false [s 22 (.fadr 0 (t 1)), s 23 (.load false 1 (t 22)), s 24 (.call 155 [(t 23)]), s 21 (.mv (t 24)), s 25 (.extract (t 21) 0), s 26 (.extract (t 21) 1), s 3 (.alloc [(.int .i64 (.ofNat 0)), (.string (.mk (.mk []))), .nilFunc]), ⟨none, none, (.store 3 (t 3) (t 25))⟩, s 4 (.mv (t 26))]) (.seq (.region false [s 27 (.fadr 3 (t 1)), s 28 (.load false 1 (t 27)), s 29 (.fadr 1 (t 3)), s 30 (.load false 1 (t 29)), s 31 (.fadr 4 (t 1)), s 32 (.load false 1 (t 31)), s 33 (.bslice 9 1 true [(t 28), (t 30), (t 32)]), s 34 (.call 156 [(t 33), (.const (.string (.mk #[32])))]), s 2 (.mv (t 34))]) .ret)))))
def pFormatCond.keep : List Nat := [0, 1, 2, 3, 9]
def pFormatCond.res : List RRes := [.tmp 2]
theorem pFormatCond.ofS {mo : Bool} {args : List AV} {r : AV} (hr : isScalR r = true) (hn : Nat.ble args.length Tryz.f85.ntmps = true) (h : aCode (Kn mo Tryz.prog) pFormatCond.keep 0 pFormatCond.code (doneS pFormatCond.res r) ⟨argEnv 0 args, [], []⟩) : Abs.Ret mo Tryz.prog 85 args r [] :=
  Abs.Ret.of_irS hr Tryz.func85 rfl (by kernel_rfl) (Nat.le_of_ble_eq_true hn) (by kernel_rfl) (by kernel_rfl) h
abbrev pFormatCond.RetN (args : List AV) (r : AV) (frs : Fr) : Prop := Abs.Ret false Tryz.prog 85 args r frs
def sSign.code : ACode := (.seq (.region false [s 2 (.mv (.const (.string (.mk #[]))))]) (.seq (.seq (.region false [s 3 (.mv (t 0))]) (.block 0 (.seq (.region false [s 5 (.bin .eql (t 3) (.const (.int .i64 3))), s 4 (.mv (t 5))]) (.cond (t 4) (.seq (.region false [s 2 (.mv (.const (.string (.mk #[32, 61, 32]))))]) .ret) (.seq (.region false [s 7 (.bin .eql (t 3) (.const (.int .i64 4))), s 6 (.mv (t 7))]) (.cond (t 6) (.seq (.region false [s 2 (.mv (.const (.string (.mk #[32, 33, 61, 32]))))]) .ret) .skip)))))) (.seq (.region false [s 2 (.mv (.const (.string (.mk #[32, 60, 32]))))]) .ret)))
def sSign.keep : List Nat := [0, 2, 3]
def sSign.res : List RRes := [.tmp 2]
theorem sSign.of {mo : Bool} {args : List AV} {r : AV} {frs : Fr} (hn : Nat.ble args.length Tryz.f151.ntmps = true) (h : aCode (Kn mo Tryz.prog) sSign.keep 0 sSign.code (doneK sSign.res r frs) ⟨argEnv 0 args, [], []⟩) : Abs.Ret mo Tryz.prog 151 args r frs :=
  Abs.Ret.of_ir Tryz.func151 rfl (by kernel_rfl) (Nat.le_of_ble_eq_true hn) (by kernel_rfl) (by kernel_rfl) h
abbrev sSign.Ret (args : List AV) (r : AV) (frs : Fr) : Prop := Abs.Ret true Tryz.prog 151 args r frs
def pcomparisons.code : ACode := (.seq (.region false [s 0 (.mv (.const (.slice none 0 0)))]) (.seq (.region false [s 1 (.build [(.int .i64 (.ofNat 0)), (.string (.mk (.mk []))), .nilFunc] [(0, 1), (1, 1), (2, 1)] [(.const (.int .i64 3)), (.const (.string (.mk #[61]))), (.func 277)]), s 2 (.build [(.int .i64 (.ofNat 0)), (.string (.mk (.mk []))), .nilFunc] [(0, 1), (1, 1), (2, 1)] [(.const (.int .i64 4)), (.const (.string (.mk #[33, 61]))), (.func 278)]), s 3 (.build [(.int .i64 (.ofNat 0)), (.string (.mk (.mk []))), .nilFunc] [(0, 1), (1, 1), (2, 1)] [(.const (.int .i64 5)), (.const (.string (.mk #[60]))), (.func 279)]), s 4 (.bslice 183 3 true [(t 1), (t 2), (t 3)]), s 0 (.mv (t 4))]) .ret))
def pcomparisons.keep : List Nat := [0]
def pcomparisons.res : List RRes := [.tmp 0]
theorem pcomparisons.of {mo : Bool} {args : List AV} {r : AV} {frs : Fr} (hn : Nat.ble args.length Tryz.f232.ntmps = true) (h : aCode (Kn mo Tryz.prog) pcomparisons.keep 0 pcomparisons.code (doneK pcomparisons.res r frs) ⟨argEnv 0 args, [], []⟩) : Abs.Ret mo Tryz.prog 232 args r frs :=
  Abs.Ret.of_ir Tryz.func232 rfl (by kernel_rfl) (Nat.le_of_ble_eq_true hn) (by kernel_rfl) (by kernel_rfl) h
abbrev pcomparisons.Ret (args : List AV) (r : AV) (frs : Fr) : Prop := Abs.Ret true Tryz.prog 232 args r frs
def pcomparisonOf.code : ACode := (.seq (.region false [s 2 (.alloc [(.int .i64 (.ofNat 0)), (.string (.mk (.mk []))), .nilFunc]), s 3 (.mv (.const (.bool false)))]) (.seq (.seq (.region false [s 6 (.call 232 []), s 7 (.len false (t 6)), s 8 (.mv (.const (.int .i64 0)))]) (.block 0 (.loop (.seq (.region false [s 9 (.bin .lss (t 8) (t 7))]) (.seq (.cond (t 9) .skip (.exit 0)) (.seq (.block 1 (.seq (.region false [s 10 (.iadr 3 (t 6) (t 8)), s 11 (.load true 3 (t 10)), s 5 (.alloc [(.int .i64 (.ofNat 0)), (.string (.mk (.mk []))), .nilFunc]), ⟨none, none, (.store 3 (t 5) (t 11))⟩]) (.seq (.region false [s 12 (.fadr 0 (t 5)), s 13 (.load false 1 (t 12)), s 14 (.mv (t 0)), s 15 (.bin .eql (t 13) (t 14))]) (.cond (t 15) (.seq (.region false [s 16 (.load true 3 (t 5)), ⟨none, none, (.store 3 (t 2) (t 16))⟩, s 3 (.mv (.const (.bool true)))]) .ret) .skip)))) (.region false [s 17 (.bin .add (t 8) (.const (.int .i64 1))), s 8 (.mv (t 17))]))))))) (.seq (.region false [s 18 (.build [(.int .i64 (.ofNat 0)), (.string (.mk (.mk []))), .nilFunc] [] []), ⟨none, none, (.store 3 (t 2) (t 18))⟩, s 3 (.mv (.const (.bool false)))]) .ret)))
def pcomparisonOf.keep : List Nat := [0, 2, 3, 5, 6, 7, 8, 9]
def pcomparisonOf.res : List RRes := [.cell 2 true 3, .tmp 3]
theorem pcomparisonOf.of {mo : Bool} {args : List AV} {r : AV} {frs : Fr} (hn : Nat.ble args.length Tryz.f155.ntmps = true) (h : aCode (Kn mo Tryz.prog) pcomparisonOf.keep 0 pcomparisonOf.code (doneK pcomparisonOf.res r frs) ⟨argEnv 0 args, [], []⟩) : Abs.Ret mo Tryz.prog 155 args r frs :=
  Abs.Ret.of_ir Tryz.func155 rfl (by kernel_rfl) (Nat.le_of_ble_eq_true hn) (by kernel_rfl) (by kernel_rfl) h
abbrev pcomparisonOf.Ret (args : List AV) (r : AV) (frs : Fr) : Prop := Abs.Ret true Tryz.prog 155 args r frs
abbrev pcomparisonOf.RetN (args : List AV) (r : AV) (frs : Fr) : Prop := Abs.Ret false Tryz.prog 155 args r frs
end Go.Proofs.YtfnejdkkhpjhmaaGreatDoor
namespace Go.Proofs.YtfnejdkkhpjhmaaGreatDoor
open Abs
def testKind (k : Int) : Bool := k == 3 || k == 4 || k == 5
def zeroP (p : VPattern) : Bool := p.1 == [] && (p.2.length : Int) == 0
def isTestF (x : VCond) : Bool := testKind x.1 && (zeroP x.2.1 && termF x.2.2.1 && termF x.2.2.2)
def hasKind (k : Int) : Bool := k == 1 || k == 2
def isCondF (x : VCond) : Bool := if hasKind x.1 then isPatF x.2.1 && x.2.2.1 == [] && x.2.2.2 == [] else isTestF x
theorem tCond_sz (x : VCond) : tCond.size x = x.2.1.1.length + (x.2.1.2.length + listSize Ty.str x.2.1.2) + (x.2.2.1.length + x.2.2.2.length) := by
  have h : tCond.size x = 0 + (tFct.size x.2.1 + (x.2.2.1.length + x.2.2.2.length)) := rfl
  rw [h, tFct_size, tStrs_size]; omega
theorem tCond_pat (x : VCond) : tPattern.size x.2.1 ≤ tCond.size x := by
  have h : tCond.size x = 0 + (tPattern.size x.2.1 + (x.2.2.1.length + x.2.2.2.length)) := rfl
  omega
theorem zero_pat (p : VPattern) : decide (p = ([], [])) = zeroP p := by
  obtain ⟨r, l⟩ := p
  rw [Bool.eq_iff_iff]; simp [zeroP]
theorem cond_has {x : VCond} (h : hasKind x.1 = true) : (isPatF x.2.1 && x.2.2.1 == [] && x.2.2.2 == []) = isCondF x := by rw [isCondF, if_pos h]
theorem cond_test {x : VCond} (h : hasKind x.1 = false) (h' : testKind x.1 = true) : (zeroP x.2.1 && termF x.2.2.1 && termF x.2.2.2) = isCondF x := by
  rw [isCondF, if_neg (by simp [h]), isTestF, h']; simp
theorem cond_no {x : VCond} (h : hasKind x.1 = false) (h' : testKind x.1 = false) : false = isCondF x := by
  rw [isCondF, if_neg (by simp [h]), isTestF, h']; simp
theorem pcomparisons.ret : pcomparisons.Ret [] (.list (some 0) [[.val (.int .i64 3), .str [61], .clo 277 [] []], [.val (.int .i64 4), .str [33, 61], .clo 278 [] []], [.val (.int .i64 5), .str [60], .clo 279 [] []]]) [(183, 3, 3)] := by
  refine pcomparisons.of rfl ?_
  repeat' first
    | (conv => whnf
       first | refine Need.mk rfl ?_ | refine Final.mk rfl rfl)
def cmpRows : List (List AV) := [[.val (.int .i64 3), .str [61], .clo 277 [] []], [.val (.int .i64 4), .str [33, 61], .clo 278 [] []], [.val (.int .i64 5), .str [60], .clo 279 [] []]]
def cmpRow (k : Int) : List AV := if k = 3 then [.val (.int .i64 3), .str [61], .clo 277 [] []] else if k = 4 then [.val (.int .i64 4), .str [33, 61], .clo 278 [] []] else if k = 5 then [.val (.int .i64 5), .str [60], .clo 279 [] []] else [.val (.int .i64 0), .str [], .val .nilFunc]
set_option maxHeartbeats 1000000 in
theorem pcomparisonOf.ret (k : Int) : pcomparisonOf.Ret [.val (.int .i64 k)] (.tup [.agg (cmpRow k), .val (.bool (testKind k))]) [(183, 3, 3)] := by
  refine pcomparisonOf.of rfl ?_
  repeat' first
    | (conv => whnf
       first | refine ACall.mkR _ _ _ (pcomparisons.ret) ?_)
  refine ALoop.mk Nat (fun i => ⟨[(0, .val (.int .i64 k)), (2, .bptr 0 0), (6, .list (some 0) cmpRows), (7, .val (.int .i64 3)), (8, .val (.int .i64 i))], [.cells .var [.val (.int .i64 0), .str [], .val .nilFunc]], [(183, 3, 3)]⟩) (fun i => i ≤ 3 ∧ (0 < i → k ≠ 3) ∧ (1 < i → k ≠ 4) ∧ (2 < i → k ≠ 5)) (fun i => 3 - i) ⟨0, ⟨by omega, by omega, by omega, by omega⟩, ?_⟩ (fun i hi => ?_)
  · repeat' first
      | exact trivial | refine Weak.mk ?_ ?_ ?_ ?_ (Or.inl (Nat.le_of_ble_eq_true rfl)) | refine And.intro ?_ ?_ | with_reducible rfl | exact Nat.le_of_ble_eq_true rfl | refine fr1 ?_ | refine AV.int_congr ?_ | refine AV.list_congr ?_ | (apply rfl)
  obtain ⟨hi, h3, h4, h5⟩ := hi
  have hc : i = 0 ∨ i = 1 ∨ i = 2 ∨ i = 3 := by omega
  rcases hc with rfl | rfl | rfl | rfl
  · have hix : (0 : Int) ≤ (0 : Nat) ∧ cmpRows[((0 : Nat) : Int).toNat]? = some [.val (.int .i64 3), .str [61], .clo 277 [] []] ∧ 3 = 3 := ⟨by omega, rfl, rfl⟩
    repeat' first
      | (conv => whnf
         first | refine Need.mk rfl ?_ | refine Need.mk ⟨rfl, Nat.le_of_ble_eq_true rfl⟩ ?_ | refine Need.mk (Nat.le_of_ble_eq_true rfl) ?_ | refine Ix.mk _ (fun _ => hix) ?_ | refine Fork.decYes (by omega) ?_ | refine Fork.dec (fun _ => ?_) (fun _ => ?_) | refine Round.mk ?_ | refine FinVal.keep ?_ | refine FinAgg.keep ?_ | refine Final.mk ?_ rfl)
    · rename_i h; subst h; rfl
    · rename_i h
      refine ⟨1, ⟨by omega, fun _ => by omega, fun _ => by omega, fun _ => by omega⟩, ?_, by omega⟩
      repeat' first
        | exact trivial | refine Weak.mk ?_ ?_ ?_ ?_ (Or.inr ⟨(by repeat' first | exact trivial | exact Nat.le_of_ble_eq_true rfl | refine And.intro ?_ ?_), (by repeat' first | exact trivial | exact Nat.le_of_ble_eq_true rfl | refine And.intro ?_ ?_)⟩) | refine And.intro ?_ ?_ | with_reducible rfl | exact Nat.le_of_ble_eq_true rfl | refine AV.int_congr ?_ | refine AV.list_congr ?_ | (apply rfl)
  · have hix : (0 : Int) ≤ (1 : Nat) ∧ cmpRows[((1 : Nat) : Int).toNat]? = some [.val (.int .i64 4), .str [33, 61], .clo 278 [] []] ∧ 3 = 3 := ⟨by omega, rfl, rfl⟩
    repeat' first
      | (conv => whnf
         first | refine Need.mk rfl ?_ | refine Need.mk ⟨rfl, Nat.le_of_ble_eq_true rfl⟩ ?_ | refine Need.mk (Nat.le_of_ble_eq_true rfl) ?_ | refine Ix.mk _ (fun _ => hix) ?_ | refine Fork.decYes (by omega) ?_ | refine Fork.dec (fun _ => ?_) (fun _ => ?_) | refine Round.mk ?_ | refine FinVal.keep ?_ | refine FinAgg.keep ?_ | refine Final.mk ?_ rfl)
    · rename_i h; subst h; rfl
    · rename_i h
      refine ⟨2, ⟨by omega, fun _ => by omega, fun _ => by omega, fun _ => by omega⟩, ?_, by omega⟩
      repeat' first
        | exact trivial | refine Weak.mk ?_ ?_ ?_ ?_ (Or.inr ⟨(by repeat' first | exact trivial | exact Nat.le_of_ble_eq_true rfl | refine And.intro ?_ ?_), (by repeat' first | exact trivial | exact Nat.le_of_ble_eq_true rfl | refine And.intro ?_ ?_)⟩) | refine And.intro ?_ ?_ | with_reducible rfl | exact Nat.le_of_ble_eq_true rfl | refine AV.int_congr ?_ | refine AV.list_congr ?_ | (apply rfl)
  · have hix : (0 : Int) ≤ (2 : Nat) ∧ cmpRows[((2 : Nat) : Int).toNat]? = some [.val (.int .i64 5), .str [60], .clo 279 [] []] ∧ 3 = 3 := ⟨by omega, rfl, rfl⟩
    repeat' first
      | (conv => whnf
         first | refine Need.mk rfl ?_ | refine Need.mk ⟨rfl, Nat.le_of_ble_eq_true rfl⟩ ?_ | refine Need.mk (Nat.le_of_ble_eq_true rfl) ?_ | refine Ix.mk _ (fun _ => hix) ?_ | refine Fork.decYes (by omega) ?_ | refine Fork.dec (fun _ => ?_) (fun _ => ?_) | refine Round.mk ?_ | refine FinVal.keep ?_ | refine FinAgg.keep ?_ | refine Final.mk ?_ rfl)
    · rename_i h; subst h; rfl
    · rename_i h
      refine ⟨3, ⟨by omega, fun _ => by omega, fun _ => by omega, fun _ => by omega⟩, ?_, by omega⟩
      repeat' first
        | exact trivial | refine Weak.mk ?_ ?_ ?_ ?_ (Or.inr ⟨(by repeat' first | exact trivial | exact Nat.le_of_ble_eq_true rfl | refine And.intro ?_ ?_), (by repeat' first | exact trivial | exact Nat.le_of_ble_eq_true rfl | refine And.intro ?_ ?_)⟩) | refine And.intro ?_ ?_ | with_reducible rfl | exact Nat.le_of_ble_eq_true rfl | refine AV.int_congr ?_ | refine AV.list_congr ?_ | (apply rfl)
  · have h3 := h3 (by omega)
    have h4 := h4 (by omega)
    have h5 := h5 (by omega)
    have e1 : cmpRow k = [.val (.int .i64 0), .str [], .val .nilFunc] := by rw [cmpRow, if_neg h3, if_neg h4, if_neg h5]
    have e2 : testKind k = false := by simp [testKind, h3, h4, h5]
    rw [e1, e2]
    repeat' first
      | (conv => whnf
         first | refine Need.mk rfl ?_ | refine Need.mk ⟨rfl, Nat.le_of_ble_eq_true rfl⟩ ?_ | refine Need.mk (Nat.le_of_ble_eq_true rfl) ?_ | refine Fork.decNo (by omega) ?_ | refine FinVal.keep ?_ | refine FinAgg.keep ?_ | refine Final.mk rfl rfl)
theorem cmp3 : pcomparisonOf.Ret [.val (.int .i64 3)] (.tup [.agg [.val (.int .i64 3), .str [61], .clo 277 [] []], .val (.bool true)]) [(183, 3, 3)] := pcomparisonOf.ret 3
theorem cmp4 : pcomparisonOf.Ret [.val (.int .i64 4)] (.tup [.agg [.val (.int .i64 4), .str [33, 61], .clo 278 [] []], .val (.bool true)]) [(183, 3, 3)] := pcomparisonOf.ret 4
theorem cmp5 : pcomparisonOf.Ret [.val (.int .i64 5)] (.tup [.agg [.val (.int .i64 5), .str [60], .clo 279 [] []], .val (.bool true)]) [(183, 3, 3)] := pcomparisonOf.ret 5
theorem cmpNo {k : Int} (h : testKind k = false) : pcomparisonOf.Ret [.val (.int .i64 k)] (.tup [.agg [.val (.int .i64 0), .str [], .val .nilFunc], .val (.bool false)]) [(183, 3, 3)] := by
  have h' := pcomparisonOf.ret k
  have h3 : k ≠ 3 := by rintro rfl; cases h
  have h4 : k ≠ 4 := by rintro rfl; cases h
  have h5 : k ≠ 5 := by rintro rfl; cases h
  have e1 : cmpRow k = [.val (.int .i64 0), .str [], .val .nilFunc] := by rw [cmpRow, if_neg h3, if_neg h4, if_neg h5]
  rwa [h, e1] at h'
theorem sIsCond.ret (x : VCond) (h : tCond.size x ≤ 1048576) : sIsCond.Ret [.agg (oldL (tCond.q x))] (.val (.bool (isCondF x))) [] := by
  refine sIsCond.of rfl ?_
  have hp := tCond_pat x
  have hz := tCond_sz x
  repeat' first
    | (conv => whnf
       first | refine Need.mk (fun h => h) ?_ | refine Need.mk rfl ?_ | refine Need.mk (Nat.le_of_ble_eq_true rfl) ?_ | refine Fork.decYes (by omega) ?_ | refine Fork.dec (fun _ => ?_) (fun _ => ?_) | refine FinVal.keep ?_ | refine Final.mk ?_ rfl | refine ACall.scalA _ _ (sIsPattern.ret _ ?_) rfl ?_ | refine AGCall.mkA _ _ (fun hg => sIsTerm.ret _ ?_) rfl ?_)
    | refine AV.bool_congr ?_
  all_goals first
    | omega
    | (refine (cond_has ?_) ; simp [hasKind, *]; done)
    | (rw [length_oldLL, List.length_map]; refine (cond_test ?_ ?_) <;> (simp [hasKind, testKind, *]; done))
    | (refine (cond_no ?_ ?_) <;> (simp [hasKind, testKind, *]; done))
theorem pzero.ret (p : VPattern) (h : tPattern.size p ≤ 1048576) : pSamePattern.Ret [.agg (oldL (tPattern.q p)), .agg [.str [], .list none []]] (.val (.bool (zeroP p))) [] := by
  have h' := pSamePattern.ret p ([], []) h
  rwa [zero_pat] at h'
theorem test_eq {k : Int} {p : VPattern} {l r : Str} (h : testKind k = true) : (termF l && termF r && zeroP p) = isTestF (k, p, l, r) := by
  simp only [isTestF, h]
  cases zeroP p <;> cases termF l <;> cases termF r <;> rfl
theorem test_no {k : Int} {p : VPattern} {l r : Str} (h : testKind k = false) : false = isTestF (k, p, l, r) := by simp [isTestF, h]
theorem pIsTest.ret (x : VCond) (h : tCond.size x ≤ 1048576) : pIsTest.Ret [.agg (oldL (tCond.q x))] (.val (.bool (isTestF x))) [] := by
  refine pIsTest.ofS rfl rfl ?_
  have hp := tCond_pat x
  have hz := tCond_sz x
  obtain ⟨k, p, l, r⟩ := x
  simp only at hp hz
  have hl : l.length ≤ 1048576 := by omega
  have hr : r.length ≤ 1048576 := by omega
  have hzp := pzero.ret p (by omega)
  by_cases h3 : k = 3
  · subst h3
    repeat' first
      | (conv => whnf
         first | refine Need.mk (fun h => h) ?_ | refine Need.mk rfl ?_ | refine Need.mk ⟨rfl, Nat.le_of_ble_eq_true rfl⟩ ?_ | refine Need.mk (Nat.le_of_ble_eq_true rfl) ?_ | refine FinVal.keep ?_ | refine Final.mk ?_ rfl | refine ACall.mkR _ _ _ (cmp3) ?_ | refine AGCall.mkA _ _ (fun hg => pIsTerm.ret _ ?_) rfl ?_ | refine AGCall.mkA _ _ (fun hg => hzp) rfl ?_)
      | refine AV.bool_congr ?_
    all_goals first
      | assumption
      | exact test_eq rfl
  by_cases h4 : k = 4
  · subst h4
    repeat' first
      | (conv => whnf
         first | refine Need.mk (fun h => h) ?_ | refine Need.mk rfl ?_ | refine Need.mk ⟨rfl, Nat.le_of_ble_eq_true rfl⟩ ?_ | refine Need.mk (Nat.le_of_ble_eq_true rfl) ?_ | refine FinVal.keep ?_ | refine Final.mk ?_ rfl | refine ACall.mkR _ _ _ (cmp4) ?_ | refine AGCall.mkA _ _ (fun hg => pIsTerm.ret _ ?_) rfl ?_ | refine AGCall.mkA _ _ (fun hg => hzp) rfl ?_)
      | refine AV.bool_congr ?_
    all_goals first
      | assumption
      | exact test_eq rfl
  by_cases h5 : k = 5
  · subst h5
    repeat' first
      | (conv => whnf
         first | refine Need.mk (fun h => h) ?_ | refine Need.mk rfl ?_ | refine Need.mk ⟨rfl, Nat.le_of_ble_eq_true rfl⟩ ?_ | refine Need.mk (Nat.le_of_ble_eq_true rfl) ?_ | refine FinVal.keep ?_ | refine Final.mk ?_ rfl | refine ACall.mkR _ _ _ (cmp5) ?_ | refine AGCall.mkA _ _ (fun hg => pIsTerm.ret _ ?_) rfl ?_ | refine AGCall.mkA _ _ (fun hg => hzp) rfl ?_)
      | refine AV.bool_congr ?_
    all_goals first
      | assumption
      | exact test_eq rfl
  have hk : testKind k = false := by simp [testKind, *]
  have hcn := cmpNo hk
  repeat' first
    | contradiction
    | (conv => whnf
       first | refine Need.mk (fun h => h) ?_ | refine Need.mk rfl ?_ | refine Need.mk ⟨rfl, Nat.le_of_ble_eq_true rfl⟩ ?_ | refine Need.mk (Nat.le_of_ble_eq_true rfl) ?_ | refine FinVal.keep ?_ | refine Final.mk ?_ rfl | refine ACall.mkR _ _ _ (hcn) ?_ | refine AGCall.mkA _ _ (fun hg => pIsTerm.ret _ ?_) rfl ?_ | refine AGCall.mkA _ _ (fun hg => hzp) rfl ?_)
    | refine AV.bool_congr ?_
  all_goals first
    | assumption
    | exact test_no hk
theorem pIsCond.ret (x : VCond) (h : tCond.size x ≤ 1048576) : pIsCond.Ret [.agg (oldL (tCond.q x))] (.val (.bool (isCondF x))) [] := by
  refine pIsCond.ofS rfl rfl ?_
  have hp := tCond_pat x
  have hz := tCond_sz x
  repeat' first
    | (conv => whnf
       first | refine Need.mk (fun h => h) ?_ | refine Need.mk rfl ?_ | refine Need.mk (Nat.le_of_ble_eq_true rfl) ?_ | refine Fork.decYes (by omega) ?_ | refine Fork.dec (fun _ => ?_) (fun _ => ?_) | refine FinVal.keep ?_ | refine Final.mk ?_ rfl | refine ACall.scalA _ _ (pIsPattern.ret _ ?_) rfl ?_ | refine ACall.scalA _ _ (pIsTest.ret _ ?_) rfl ?_)
    | refine AV.bool_congr ?_
  all_goals first
    | omega
    | (refine (cond_has ?_) ; simp [hasKind, *]; done)
    | (rw [isCondF, if_neg]; simp [hasKind, *]; done)
end Go.Proofs.YtfnejdkkhpjhmaaGreatDoor
namespace Go.Proofs
open Go.Shelf
def Tryz.lays156_ren : Go.Shelf.Ren := ⟨fun | 156 => 233 | 165 => 280 | 166 => 281 | 169 => 282 | 240 => 314 | 241 => 315 | 276 => 331 | 277 => 332 | n => n, fun | 31 => 66 | 9 => 9 | 3 => 3 | 4 => 4 | 0 => 0 | 20 => 20 | 72 => 268 | 76 => 272 | 70 => 266 | 37 => 138 | 75 => 271 | 127 => 296 | 164 => 317 | 5 => 5 | 80 => 274 | n => n, fun | n => n⟩
theorem Tryz.lays156 : Go.Proofs.Lays.n156 Tryz.prog Tryz.lays156_ren := {
  mixed := by kernel_rfl
  f156 := Tryz.func233.trans (congrArg some (by kernel_rfl))
  f165 := Tryz.func280.trans (congrArg some (by kernel_rfl))
  f166 := Tryz.func281.trans (congrArg some (by kernel_rfl))
  f169 := Tryz.func282.trans (congrArg some (by kernel_rfl))
  f240 := Tryz.func314.trans (congrArg some (by kernel_rfl))
  f241 := Tryz.func315.trans (congrArg some (by kernel_rfl))
  f276 := Tryz.func331.trans (congrArg some (by kernel_rfl))
  f277 := Tryz.func332.trans (congrArg some (by kernel_rfl))
  t0 := Tryz.underlying0
  a0 := Tryz.isAgg0
  z0 := Tryz.sizeOf0
  v0 := Tryz.zeroValue0
  t3 := Tryz.underlying3
  a3 := Tryz.isAgg3
  z3 := Tryz.sizeOf3
  v3 := Tryz.zeroValue3
  t4 := Tryz.underlying4
  a4 := Tryz.isAgg4
  z4 := Tryz.sizeOf4
  v4 := Tryz.zeroValue4
  t9 := Tryz.underlying9
  a9 := Tryz.isAgg9
  z9 := Tryz.sizeOf9
  v9 := Tryz.zeroValue9
  t20 := Tryz.underlying20
  a20 := Tryz.isAgg20
  z20 := Tryz.sizeOf20
  v20 := Tryz.zeroValue20
  t31 := Tryz.underlying66
  a31 := Tryz.isAgg66
  z31 := Tryz.sizeOf66
  v31 := Tryz.zeroValue66
  t37 := Tryz.underlying138
  a37 := Tryz.isAgg138
  z37 := Tryz.sizeOf138
  v37 := Tryz.zeroValue138
  t70 := Tryz.underlying266
  a70 := Tryz.isAgg266
  z70 := Tryz.sizeOf266
  v70 := Tryz.zeroValue266
  t72 := Tryz.underlying268
  a72 := Tryz.isAgg268
  z72 := Tryz.sizeOf268
  v72 := Tryz.zeroValue268
  t75 := Tryz.underlying271
  a75 := Tryz.isAgg271
  z75 := Tryz.sizeOf271
  v75 := Tryz.zeroValue271
  t76 := Tryz.underlying272
  a76 := Tryz.isAgg272
  z76 := Tryz.sizeOf272
  v76 := Tryz.zeroValue272
  t127 := Tryz.underlying296
  a127 := Tryz.isAgg296
  z127 := Tryz.sizeOf296
  v127 := Tryz.zeroValue296
  t164 := Tryz.underlying317
  a164 := Tryz.isAgg317
  z164 := Tryz.sizeOf317
  v164 := Tryz.zeroValue317 }
theorem Tryz.Builder_Extra_156 : Builder.Extra Tryz.prog Tryz.lays156_ren := {
  sizeBuilder := by kernel_rfl
  liesBuilder := by kernel_rfl
  t5 := Tryz.underlying5
  a5 := Tryz.isAgg5
  z5 := Tryz.sizeOf5
  v5 := Tryz.zeroValue5
  infoByte := by kernel_rfl
  cellsByte := by kernel_rfl
  sizeByte := by kernel_rfl
  neB5 := by decide }
open Go.RowKit in
theorem Tryz.strings_Join_none (a : Option Addr) (c : Nat) (sep : ByteArray) (w : World) :
    Calls Tryz.prog 233 #[.slice a 0 c, .string sep] w fun e w' => e = .returned (.string ⟨#[]⟩) ∧ w' = w := Any.strings_Join_none Tryz.lays156 Tryz.Builder_Extra_156 a c sep w
open Go.RowKit in
theorem Tryz.strings_Join (bk o c : Nat) (xs : List ByteArray) (sep : ByteArray) (w : World) (hcells : ∀ (j : Nat) x, xs[j]? = some x → w.cell? ⟨bk, o + j, none⟩ = some (.string x)) (hbk : bk < w.heap.size) (hN : xs.length ≤ 140737488355328) (hcap : xs.length ≤ c) (hlen : (Lib.join (xs.map (·.data.toList)) sep.data.toList).length ≤ 140737488355328) :
    Calls Tryz.prog 233 #[.slice (some ⟨bk, o, none⟩) xs.length c, .string sep] w fun e w' => e = .returned (.string ⟨(Lib.join (xs.map (·.data.toList)) sep.data.toList).toArray⟩) ∧ Below w.heap.size w w' := Any.strings_Join Tryz.lays156 Tryz.Builder_Extra_156 bk o c xs sep w hcells hbk hN hcap hlen
end Go.Proofs
namespace Go.Proofs.YtfnejdkkhpjhmaaGreatDoor
open Abs Go.RowKit
def jn (sep : Str) : List Str → Str
  | [] => []
  | s :: l => s ++ l.flatMap (sep ++ ·)
theorem jn_succ {sep : Str} {l : List Str} {i : Nat} (h0 : 0 < i) (hi : i < l.length) : jn sep (l.take (i + 1)) = jn sep (l.take i) ++ sep ++ l.getD i [] := by
  rw [take_succ' [] hi]
  match l, i, h0 with
  | s :: l, i + 1, _ => simp [jn]
theorem jn_one {sep : Str} {l : List Str} (h : 0 < l.length) : jn sep (l.take 1) = l.getD 0 [] := by
  match l, h with
  | s :: l, _ => simp [jn]
theorem jnT_len (sep : Str) (l : List Str) : (l.flatMap (sep ++ ·)).length = l.length * sep.length + listSize Ty.str l := by
  induction l with
  | nil => simp [listSize]
  | cons x l ih =>
    rw [List.flatMap_cons, List.length_append, ih, List.length_append, List.length_cons, Nat.add_mul]
    show sep.length + x.length + _ = _ + (x.length + _)
    omega
theorem jn_len (sep : Str) : ∀ l : List Str, (jn sep l).length ≤ l.length * sep.length + listSize Ty.str l
  | [] => Nat.zero_le _
  | s :: l => by
    rw [jn, List.length_append, jnT_len, List.length_cons, Nat.add_mul]
    show s.length + _ ≤ _ + (s.length + _)
    omega
theorem jn_mono (sep : Str) (l : List Str) (k : Nat) : (jn sep (l.take k)).length ≤ (jn sep l).length := by
  match l, k with
  | [], k => simp
  | s :: l, 0 => simp [jn]
  | s :: l, k + 1 =>
    rw [List.take_succ_cons, jn, jn, List.length_append, List.length_append, jnT_len, jnT_len]
    have h1 := listSize_take_le Ty.str l k
    have h2 : (l.take k).length * sep.length ≤ l.length * sep.length := Nat.mul_le_mul_right _ (by rw [List.length_take]; omega)
    omega
/-- the joined text stays below this -/
def jnB (l : List Str) (sep : Str) : Prop := (jn sep l).length ≤ 1099511627776 ∧ l.length ≤ 1048576
theorem sJoin.ret (l : List Str) (sep : Str) (hb : jnB l sep) : sJoin.Ret [.list none (strs l), .str sep] (.str (jn sep l)) [] := by
  refine sJoin.of rfl ?_
  obtain ⟨hb, hl⟩ := hb
  repeat' first
    | contradiction | exact trivial
    | (conv => whnf
       first | refine Need.mk (fun h => h) ?_ | refine Need.mk rfl ?_ | refine Need.mk ⟨rfl, Nat.le_of_ble_eq_true rfl⟩ ?_ | refine Need.mk (Nat.le_of_ble_eq_true rfl) ?_ | refine Need.fin ?_ | refine Need.mk ?_ ?_ | refine Ix.strsF rfl ?_ | refine Ix.strs rfl ?_ ?_ | refine Cut.strs rfl ?_ ?_ | refine Ix.mapF (fun _ => rfl) ?_ | refine Ix.map (fun _ => rfl) ?_ ?_ | refine Cut.map (fun _ => rfl) ?_ ?_ | refine Fork.yes (by assumption) ?_ | refine Fork.no (by assumption) ?_ | refine Fork.decYes (by omega) ?_ | refine Fork.decNo (by omega) ?_ | refine Fork.dec (fun _ => ?_) (fun _ => ?_) | refine Fork.bne (fun _ => ?_) (fun _ => ?_) | refine Fork.beq (fun _ => ?_) (fun _ => ?_) | refine Fork.seq (fun _ => ?_) (fun _ => ?_) | refine Fork.sne (fun _ => ?_) (fun _ => ?_) | refine Fork.neg (fun _ => ?_) (fun _ => ?_) | refine Fork.mk (fun _ => ?_) (fun _ => ?_) | refine HAlt.mk ?_ ?_ | apply HJoin.mk3 | exact HEnd.mk rfl rfl rfl | refine HEnd.mk ?_ ?_ ?_ | refine Round.mk ?_ | refine NilQ.mk (fun b hb => ?_) | refine forceK_of ?_ | refine forceBx_of ?_ | refine unG_old ?_ | refine unG_gv ?_ | refine Lit.read rfl ?_ | refine FinVal.keep ?_ | refine FinAgg.keep ?_ | refine Final.mk rfl rfl | refine Final.mk ?_ rfl | refine Final.mk ?_ ?_ | refine FinalT.mk ?_ ?_ | refine FinalI.mk ?_ | refine FinalC.allA ?_)
    | refine AV.bool_congr ?_ | refine AV.int_congr ?_ | refine AV.str_congr ?_ | refine AV.list_congr ?_ | with_reducible rfl | refine fr1 ?_ | refine fr2 ?_ ?_
  refine ALoop.mk Nat (fun i => ⟨[(0, .list none (strs l)), (1, .str sep), (5, .str (jn sep (l.take i))), (6, .val (.int .i64 i))], [], []⟩) (fun i => i ≤ l.length) (fun i => l.length - i) ⟨0, Nat.zero_le _, ?_⟩ (fun i hi => ?_)
  · repeat' first
      | exact trivial | refine Weak.mk ?_ ?_ ?_ ?_ (Or.inl (Nat.le_of_ble_eq_true rfl)) | refine Weak.mk ?_ ?_ ?_ ?_ (Or.inr ⟨(by repeat' first | exact trivial | exact Nat.le_of_ble_eq_true rfl | refine And.intro ?_ ?_), (by repeat' first | exact trivial | exact Nat.le_of_ble_eq_true rfl | refine And.intro ?_ ?_)⟩) | refine Weak.mk ?_ ?_ ?_ ?_ ?_ | refine And.intro ?_ ?_ | with_reducible rfl | exact Nat.le_of_ble_eq_true rfl | refine fr1 ?_ | refine fr2 ?_ ?_ | refine AV.int_congr ?_ | refine AV.bool_congr ?_ | refine AV.str_congr ?_ | refine AV.list_congr ?_ | refine AV.bsl_congr ?_ ?_ | (apply rfl)
  have h5 := jn_mono sep l (i + 1)
  have h6 : 0 < i → i < l.length → (jn sep (l.take (i + 1))).length = (jn sep (l.take i)).length + sep.length + (l.getD i []).length := fun h0 h => by rw [jn_succ h0 h]; simp only [List.length_append]
  have h7 : 0 < l.length → (jn sep (l.take 1)).length = (l.getD 0 []).length := fun h => by rw [jn_one h]
  repeat' first
    | contradiction | exact trivial
    | (conv => whnf
       first | refine Need.mk (fun h => h) ?_ | refine Need.mk rfl ?_ | refine Need.mk ⟨rfl, Nat.le_of_ble_eq_true rfl⟩ ?_ | refine Need.mk (Nat.le_of_ble_eq_true rfl) ?_ | refine Need.fin ?_ | refine Need.mk ?_ ?_ | refine Ix.strsF rfl ?_ | refine Ix.strs rfl ?_ ?_ | refine Cut.strs rfl ?_ ?_ | refine Ix.mapF (fun _ => rfl) ?_ | refine Ix.map (fun _ => rfl) ?_ ?_ | refine Cut.map (fun _ => rfl) ?_ ?_ | refine Fork.yes (by assumption) ?_ | refine Fork.no (by assumption) ?_ | refine Fork.decYes (by omega) ?_ | refine Fork.decNo (by omega) ?_ | refine Fork.dec (fun _ => ?_) (fun _ => ?_) | refine Fork.bne (fun _ => ?_) (fun _ => ?_) | refine Fork.beq (fun _ => ?_) (fun _ => ?_) | refine Fork.seq (fun _ => ?_) (fun _ => ?_) | refine Fork.sne (fun _ => ?_) (fun _ => ?_) | refine Fork.neg (fun _ => ?_) (fun _ => ?_) | refine Fork.mk (fun _ => ?_) (fun _ => ?_) | refine HAlt.mk ?_ ?_ | apply HJoin.mk3 | exact HEnd.mk rfl rfl rfl | refine HEnd.mk ?_ ?_ ?_ | refine Round.mk ?_ | refine NilQ.mk (fun b hb => ?_) | refine forceK_of ?_ | refine forceBx_of ?_ | refine unG_old ?_ | refine unG_gv ?_ | refine Lit.read rfl ?_ | refine FinVal.keep ?_ | refine FinAgg.keep ?_ | refine Final.mk rfl rfl | refine Final.mk ?_ rfl | refine Final.mk ?_ ?_ | refine FinalT.mk ?_ ?_ | refine FinalI.mk ?_ | refine FinalC.allA ?_)
    | refine AV.bool_congr ?_ | refine AV.int_congr ?_ | refine AV.str_congr ?_ | refine AV.list_congr ?_ | with_reducible rfl | refine fr1 ?_ | refine fr2 ?_ ?_
  all_goals try simp only [length_rows, length_strs, length_oldLL, List.length_map, Int.toNat_natCast] at *
  · rw [List.length_append]; have := h6 (by omega) (by omega); omega
  · rename_i h1 h2
    refine ⟨i + 1, by omega, ?_, by omega⟩
    repeat' first
      | exact trivial | refine Weak.mk ?_ ?_ ?_ ?_ (Or.inl (Nat.le_of_ble_eq_true rfl)) | refine Weak.mk ?_ ?_ ?_ ?_ (Or.inr ⟨(by repeat' first | exact trivial | exact Nat.le_of_ble_eq_true rfl | refine And.intro ?_ ?_), (by repeat' first | exact trivial | exact Nat.le_of_ble_eq_true rfl | refine And.intro ?_ ?_)⟩) | refine Weak.mk ?_ ?_ ?_ ?_ ?_ | refine And.intro ?_ ?_ | with_reducible rfl | exact Nat.le_of_ble_eq_true rfl | refine fr1 ?_ | refine fr2 ?_ ?_ | refine AV.int_congr ?_ | refine AV.bool_congr ?_ | refine AV.str_congr ?_ | refine AV.list_congr ?_ | refine AV.bsl_congr ?_ ?_ | (apply rfl)
    · rw [jn_succ (by omega) (by omega)]
    · rw [wrap64 (by omega) (by omega)]; rfl
  · have h8 : i = 0 := by omega
    subst h8
    have := h7 (by omega)
    have := jn_mono sep l 1
    rw [List.take_zero]; show 0 + _ ≤ _; omega
  · rename_i h1 h2
    have h3 : i = 0 := by omega
    subst h3
    refine ⟨1, by omega, ?_, by omega⟩
    repeat' first
      | exact trivial | refine Weak.mk ?_ ?_ ?_ ?_ (Or.inl (Nat.le_of_ble_eq_true rfl)) | refine Weak.mk ?_ ?_ ?_ ?_ (Or.inr ⟨(by repeat' first | exact trivial | exact Nat.le_of_ble_eq_true rfl | refine And.intro ?_ ?_), (by repeat' first | exact trivial | exact Nat.le_of_ble_eq_true rfl | refine And.intro ?_ ?_)⟩) | refine Weak.mk ?_ ?_ ?_ ?_ ?_ | refine And.intro ?_ ?_ | with_reducible rfl | exact Nat.le_of_ble_eq_true rfl | refine fr1 ?_ | refine fr2 ?_ ?_ | refine AV.int_congr ?_ | refine AV.bool_congr ?_ | refine AV.str_congr ?_ | refine AV.list_congr ?_ | refine AV.bsl_congr ?_ ?_ | (apply rfl)
    rw [jn_one (by omega)]
    rfl
  · rw [List.take_of_length_le (by omega)]
theorem lib_join (sep : Str) (l : List Str) : Lib.join l sep = jn sep l := by
  cases l with
  | nil => rfl
  | cons s l => rw [Lib.join_cons, jn, Lib.joinTail, List.flatMap_def]
theorem stringsJoin.ret (l : List Str) (sep : Str) (hb : jnB l sep) : Abs.Ret false Tryz.prog 233 [.list none (strs l), .str sep] (.str (jn sep l)) [] := by
  obtain ⟨hb, hl⟩ := hb
  rw [Ret_eq]
  refine ⟨by kernel_rfl, fun w F vs hcond hout hB => ?_⟩
  obtain ⟨v0, v1, rfl⟩ : ∃ v0 v1, vs = #[v0, v1] := by
    have := hB.1
    match vs, this with
    | ⟨[a, b]⟩, _ => exact ⟨a, b, rfl⟩
  obtain ⟨h0, h1, _⟩ := Both.cons.1 hB |>.imp_right Both.cons.1
  have e1 : v1 = mkS sep := by cases h1; rfl
  subst e1
  have done : ∀ {e : Ending} {w' : World}, (e = .returned (mkS (jn sep l)) ∧ Below w.heap.size w w') → ∃ (v : Value) (F' : Nat → Nat) (tok : List (Option Nat)) (box : List BId), e = .returned v ∧ Bel false w.heap.size w w' ∧ (∀ b, b < w.heap.size → F' b = F b) ∧
      (∀ b, w'.heap.size ≤ b → F' b = 0) ∧ tok.length = 0 ∧ (∀ (k b : Nat), tok[k]? = some (some b) → w.heap.size ≤ b ∧ b < w'.heap.size) ∧
      (∀ (k l b : Nat), tok[k]? = some (some b) → tok[l]? = some (some b) → k = l) ∧ Rep w.heap.size w' F' tok [] box (.str (jn sep l)) v := by
    rintro e w' ⟨rfl, hbw⟩
    exact ⟨_, F, [], [], rfl, ⟨hbw, fun h => by cases h⟩, fun _ _ => rfl, fun b h => hout b (Nat.le_trans hbw.size h), rfl, by simp, by simp, .str _⟩
  generalize hx : strs l = xs at h0
  cases h0 with
  | list _ _ ad cap sz b off vs' hcap ha hsz hF hc hr ho =>
    subst hx
    rw [length_strs] at hcap ⊢
    cases hl0 : l with
    | nil =>
      subst hl0
      refine (Tryz.strings_Join_none ad cap ⟨sep.toArray⟩ w).mono ?_
      rintro e w' ⟨rfl, rfl⟩
      exact done ⟨rfl, Below.refl _ _⟩
    | cons s0 l0 =>
      rw [← hl0]
      have hne : strs l ≠ [] := by rw [hl0]; simp [strs_eq]
      rw [ha hne]
      have hget : ∀ (j : Nat) x, (l.map fun s => (⟨s.toArray⟩ : ByteArray))[j]? = some x → w.cell? ⟨b, off + j, none⟩ = some (.string x) := by
        intro j x hj
        rw [List.getElem?_map] at hj
        cases hlj : l[j]? with
        | none => rw [hlj] at hj; cases hj
        | some s =>
          rw [hlj] at hj
          cases hj
          have h1 : (strs l)[j]? = some [.str s] := by rw [strs_eq, List.getElem?_map, hlj]; rfl
          have hs1 : sz = 1 := by have := hsz _ (List.mem_of_getElem? h1); simpa using this.symm
          have h2 := (hc j _ 0 _ h1 rfl).1
          have h3 := hr j _ 0 _ h1 rfl
          rw [hs1, Nat.mul_one, Nat.add_zero] at h2
          rw [h2]
          generalize vs' j 0 = u at h3
          cases h3; rfl
      have hlt : b < w.heap.size := by
        have h1 := hget 0 ⟨s0.toArray⟩ (by rw [hl0]; rfl)
        rcases Nat.lt_or_ge b w.heap.size with h | h
        · exact h
        · unfold World.cell? at h1; rw [Array.getElem?_eq_none h] at h1; cases h1
      have hmap : (l.map fun s => (⟨s.toArray⟩ : ByteArray)).map (·.data.toList) = l := by rw [List.map_map]; exact (List.map_congr_left fun _ _ => rfl).trans (List.map_id l)
      have := Tryz.strings_Join b off cap (l.map fun s => ⟨s.toArray⟩) ⟨sep.toArray⟩ w hget hlt (by rw [List.length_map]; omega) (by rw [List.length_map]; exact hcap) (by
        rw [hmap]
        show (Lib.join l sep).length ≤ _
        rw [lib_join]; omega)
      rw [List.length_map, hmap] at this
      refine this.mono ?_
      rintro e w' ⟨rfl, hbw⟩
      refine done ⟨?_, hbw⟩
      show _ = Ending.returned (mkS (jn sep l))
      rw [← lib_join]; rfl
theorem pJoin.ret (l : List Str) (sep : Str) (hb : jnB l sep) : pJoin.RetN [.list none (strs l), .str sep] (.str (jn sep l)) [] := by
  refine pJoin.of rfl ?_
  repeat' first
    | contradiction | exact trivial
    | (conv => whnf
       first | refine Need.mk (fun h => h) ?_ | refine Need.mk rfl ?_ | refine Need.mk ⟨rfl, Nat.le_of_ble_eq_true rfl⟩ ?_ | refine Need.mk (Nat.le_of_ble_eq_true rfl) ?_ | refine Need.fin ?_ | refine Need.mk ?_ ?_ | refine Ix.strsF rfl ?_ | refine Ix.strs rfl ?_ ?_ | refine Cut.strs rfl ?_ ?_ | refine Ix.mapF (fun _ => rfl) ?_ | refine Ix.map (fun _ => rfl) ?_ ?_ | refine Cut.map (fun _ => rfl) ?_ ?_ | refine Fork.yes (by assumption) ?_ | refine Fork.no (by assumption) ?_ | refine Fork.decYes (by omega) ?_ | refine Fork.decNo (by omega) ?_ | refine Fork.dec (fun _ => ?_) (fun _ => ?_) | refine Fork.bne (fun _ => ?_) (fun _ => ?_) | refine Fork.beq (fun _ => ?_) (fun _ => ?_) | refine Fork.seq (fun _ => ?_) (fun _ => ?_) | refine Fork.sne (fun _ => ?_) (fun _ => ?_) | refine Fork.neg (fun _ => ?_) (fun _ => ?_) | refine Fork.mk (fun _ => ?_) (fun _ => ?_) | refine HAlt.mk ?_ ?_ | apply HJoin.mk3 | exact HEnd.mk rfl rfl rfl | refine HEnd.mk ?_ ?_ ?_ | refine Round.mk ?_ | refine NilQ.mk (fun b hb => ?_) | refine forceK_of ?_ | refine forceBx_of ?_ | refine unG_old ?_ | refine unG_gv ?_ | refine Lit.read rfl ?_ | refine FinVal.keep ?_ | refine FinAgg.keep ?_ | refine Final.mk rfl rfl | refine Final.mk ?_ rfl | refine Final.mk ?_ ?_ | refine FinalT.mk ?_ ?_ | refine FinalI.mk ?_ | refine FinalC.allA ?_ | refine ACall.scalA _ _ (stringsJoin.ret _ _ ?_) rfl ?_ | refine AQCall.mkA _ _ (fun hg => stringsJoin.ret _ _ ?_) rfl ?_ | refine AGCall.mkA _ _ (fun hg => stringsJoin.ret _ _ ?_) rfl ?_)
    | refine AV.bool_congr ?_ | refine AV.int_congr ?_ | refine AV.str_congr ?_ | refine AV.list_congr ?_ | with_reducible rfl | refine fr1 ?_ | refine fr2 ?_ ?_
  exact hb
end Go.Proofs.YtfnejdkkhpjhmaaGreatDoor
