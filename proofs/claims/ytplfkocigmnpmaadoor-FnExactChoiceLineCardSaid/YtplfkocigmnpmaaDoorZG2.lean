/-
  What stands below some laws' proofs, part 2: contracts of functions, by an evaluator.
-/
import Derived.Test.YtplfkocigmnpmaaDoorZG1
namespace Go.Proofs.YtplfkocigmnpmaaDoor
open Abs
abbrev VMatch := Str × List Fct × List VPair
instance : DecidableEq VMatch := instDecidableEqProd
def tMatch : Ty VMatch := Ty.pair Ty.str (Ty.pair tFcts tPairs)
theorem tMatch_size (a : VMatch) : tMatch.size a = a.1.length + (tFcts.size a.2.1 + tPairs.size a.2.2) := rfl
theorem Abs.ACall.mk_Match {C : Con} {lend : Bool} {f : Nat} {vs : List AV} {b : List ABox} {fr : Fr} {k : AV → List ABox → Fr → Prop} (ys : List AV) (a : VMatch) (h : C.ret f ys (.agg (tMatch.tk a 0)) (tMatch.fr a)) (hv : SeesL Sees0 vs ys)
    (hk : k (.agg (tMatch.tk a fr.length)) b (fr ++ tMatch.fr a)) : ACall C lend f vs b fr k := ACall.mkA tMatch ys a h hv hk
theorem toMatch.ret (a : VMatch) (h : tMatch.size a ≤ 1048576) : toMatch.Ret [.agg (oldL (tMatch.q a))] (.agg (tMatch.tk a 0)) (tMatch.fr a) := by
  refine toMatch.of rfl ?_
  rw [tMatch_size] at h
  repeat' first
    | (conv => whnf
       first | refine Need.mk ⟨rfl, Nat.le_of_ble_eq_true rfl⟩ ?_ | refine Need.mk (Nat.le_of_ble_eq_true rfl) ?_ | refine FinAgg.keep ?_ | refine Final.mk ?_ rfl | refine ACall.mk_FactS _ _ (toFactS.ret _ ?_) (by repeat' first | exact SeesL.nil | refine SeesL.cons ?_ ?_ | exact SeesB.of0 (Sees0.val _) | exact SeesB.of0 (Sees0.str _) | exact SeesB.of0 (Sees0.olds _ _) | exact SeesB.of0 (Sees0.old _) | exact SeesB.of0 (Sees0.oldagg _) | exact SeesB.of0 Sees0.nil | exact Sees0.val _ | exact Sees0.str _ | exact Sees0.olds _ _ | exact Sees0.old _ | exact Sees0.oldagg _ | exact Sees0.nil | exact SeesB.of0 (Sees0.any _) | assumption | exact sees_gv _ _ _ (by assumption) (by first | assumption | exact BoxIn.last _ _ | exact BoxIn.more (BoxIn.last _ _) _) | refine SeesB.agg ?_ | refine Sees0.agg ?_ | exact SeesB.of0 (Sees0.clo SeesL.nil SeesL.nil) | exact Sees0.clo SeesL.nil SeesL.nil | exact SeesB.of0 (Sees0.list rfl) | exact Sees0.list rfl) ?_ | refine ACall.mk_PairS _ _ (toPairS.ret _ ?_) (by repeat' first | exact SeesL.nil | refine SeesL.cons ?_ ?_ | exact SeesB.of0 (Sees0.val _) | exact SeesB.of0 (Sees0.str _) | exact SeesB.of0 (Sees0.olds _ _) | exact SeesB.of0 (Sees0.old _) | exact SeesB.of0 (Sees0.oldagg _) | exact SeesB.of0 Sees0.nil | exact Sees0.val _ | exact Sees0.str _ | exact Sees0.olds _ _ | exact Sees0.old _ | exact Sees0.oldagg _ | exact Sees0.nil | exact SeesB.of0 (Sees0.any _) | assumption | exact sees_gv _ _ _ (by assumption) (by first | assumption | exact BoxIn.last _ _ | exact BoxIn.more (BoxIn.last _ _) _) | refine SeesB.agg ?_ | refine Sees0.agg ?_ | exact SeesB.of0 (Sees0.clo SeesL.nil SeesL.nil) | exact Sees0.clo SeesL.nil SeesL.nil | exact SeesB.of0 (Sees0.list rfl) | exact Sees0.list rfl) ?_)
  all_goals first
    | omega
    | (refine congrArg AV.agg ?_
       repeat' first
         | refine cons_congr ?_ ?_
         | refine tok_congr ?_ ?_
         | refine congrArg (tks _ _) ?_
         | rfl
       all_goals (simp [Ty.pair, Ty.str, Ty.int, Ty.bool, Nat.add_assoc, Ty.plain, tPairs]; done))
    | (simp [tMatch, Ty.pair, Ty.str, Ty.int, Ty.bool, List.append_assoc, Nat.add_assoc, Ty.plain, tPairs]; done)
theorem szMatch.ret (f : VMatch) (a : Int) (h0 : 0 ≤ a) (ha : a ≤ 1048576) (hb : tMatch.bd f) :
    szMatch.Ret [.agg (oldL (tMatch.q f)), .val (.int .i64 a)] (.val (.int .i64 (left a (tMatch.size f)))) [] := by
  refine szMatch.of rfl ?_
  have hz := tMatch_size f
  obtain ⟨hb0, hb1, hb2⟩ := hb
  have hb0 : f.1.length ≤ 9223372036854775807 := hb0
  by_cases c1 : a < (f.1.length : Int)
  · have e0 : IntKind.i64.wrap (a - (f.1.length : Int)) = a - (f.1.length : Int) := by rw [wrap64 (by omega) (by omega)]
    repeat' first
      | (conv => whnf
         first | refine Need.mk rfl ?_ | refine Fork.decYes (by omega) ?_ | refine LitO.own rfl ?_ | refine FinVal.keep ?_ | refine Final.mk ?_ rfl)
      | refine AV.int_congr ?_
    all_goals first
      | assumption
      | omega
      | exact left_eq (by omega)
  by_cases c2 : a < (f.1.length : Int) + (tFcts.size f.2.1 : Int)
  · have e0 : IntKind.i64.wrap (a - (f.1.length : Int)) = a - (f.1.length : Int) := by rw [wrap64 (by omega) (by omega)]
    have e1 : left (IntKind.i64.wrap (a - (f.1.length : Int))) (tFcts.size f.2.1) = -1 := by rw [e0, left, if_pos (by omega)]
    repeat' first
      | (conv => whnf
         first | refine Need.mk rfl ?_ | refine Fork.decYes (by omega) ?_ | refine Fork.decNo (by omega) ?_ | refine LitO.own rfl ?_ | refine FinVal.keep ?_ | refine Final.mk ?_ rfl | refine ACall.scalA _ _ (szFactS.ret _ _ ?_ ?_ ?_) rfl ?_)
      | refine AV.int_congr ?_
    all_goals first
      | assumption
      | omega
      | exact left_eq (by omega)
  by_cases c3 : a < (f.1.length : Int) + (tFcts.size f.2.1 : Int) + (tPairs.size f.2.2 : Int)
  · have e0 : IntKind.i64.wrap (a - (f.1.length : Int)) = a - (f.1.length : Int) := by rw [wrap64 (by omega) (by omega)]
    have e1 : left (IntKind.i64.wrap (a - (f.1.length : Int))) (tFcts.size f.2.1) = a - (f.1.length : Int) - (tFcts.size f.2.1 : Int) := by rw [e0, left, if_neg (by omega)]
    have e2 : left (left (IntKind.i64.wrap (a - (f.1.length : Int))) (tFcts.size f.2.1)) (tPairs.size f.2.2) = -1 := by rw [e1, left, if_pos (by omega)]
    repeat' first
      | (conv => whnf
         first | refine Need.mk rfl ?_ | refine Fork.decYes (by omega) ?_ | refine Fork.decNo (by omega) ?_ | refine LitO.own rfl ?_ | refine FinVal.keep ?_ | refine Final.mk ?_ rfl | refine ACall.scalA _ _ (szFactS.ret _ _ ?_ ?_ ?_) rfl ?_ | refine ACall.scalA _ _ (szPairS.ret _ _ ?_ ?_ ?_) rfl ?_)
      | refine AV.int_congr ?_
    all_goals first
      | assumption
      | omega
      | exact left_eq (by omega)
  have e0 : IntKind.i64.wrap (a - (f.1.length : Int)) = a - (f.1.length : Int) := by rw [wrap64 (by omega) (by omega)]
  have e1 : left (IntKind.i64.wrap (a - (f.1.length : Int))) (tFcts.size f.2.1) = a - (f.1.length : Int) - (tFcts.size f.2.1 : Int) := by rw [e0, left, if_neg (by omega)]
  have e2 : left (left (IntKind.i64.wrap (a - (f.1.length : Int))) (tFcts.size f.2.1)) (tPairs.size f.2.2) = a - (f.1.length : Int) - (tFcts.size f.2.1 : Int) - (tPairs.size f.2.2 : Int) := by rw [e1, left, if_neg (by omega)]
  repeat' first
    | (conv => whnf
       first | refine Need.mk rfl ?_ | refine Fork.decNo (by omega) ?_ | refine LitO.own rfl ?_ | refine FinVal.keep ?_ | refine Final.mk ?_ rfl | refine ACall.scalA _ _ (szFactS.ret _ _ ?_ ?_ ?_) rfl ?_ | refine ACall.scalA _ _ (szPairS.ret _ _ ?_ ?_ ?_) rfl ?_)
    | refine AV.int_congr ?_
  all_goals first
    | assumption
    | omega
    | exact left_eq (by omega)
theorem eqMatch.big (f g : VMatch) (h : tMatch.size f ≤ 1099511627775) : eqMatch.Ret [.agg (oldL (tMatch.q f)), .agg (oldL (tMatch.q g))] (.val (.bool (decide (f = g)))) [] := by
  refine eqMatch.of rfl ?_
  have hz := tMatch_size f
  repeat' first
    | (conv => whnf
       first | refine Fork.sne (fun _ => ?_) (fun _ => ?_) | refine Fork.neg (fun _ => ?_) (fun _ => ?_) | refine FinVal.keep ?_ | refine Final.mk ?_ rfl | refine ACall.scalA _ _ (eqFactS.big _ _ ?_) rfl ?_ | refine ACall.scalA _ _ (eqPairS.big _ _ ?_) rfl ?_)
    | refine AV.bool_congr ?_
  all_goals first
    | omega
    | (simp only [tStrs_size, tInts_size] at *; omega)
    | (obtain ⟨x0, x1, x2⟩ := f; obtain ⟨y0, y1, y2⟩ := g; simp_all)
end Go.Proofs.YtplfkocigmnpmaaDoor
namespace Go.Proofs.YtplfkocigmnpmaaDoor
open Abs
def sFormatMatch.code : ACode := (.seq (.region false [s 1 (.box (t 0)), s 2 (.mv (.const (.string (.mk #[]))))]) (.seq (.region false [s 4 (.fadr 1 (t 1)), s 5 (.load false 1 (t 4)), s 6 (.call 25 [(t 5)]), s 3 (.mv (t 6))]) (.seq (.seq (.region false [s 7 (.fadr 0 (t 1)), s 8 (.load false 1 (t 7)), s 9 (.call 26 [(t 8)]), s 10 (.not (t 9)), s 11 (.mv (t 10)), g 11 false 12 (.mv (t 3)), g 11 false 13 (.bin .eql (t 12) (.const (.string (.mk #[])))), s 14 (.or (t 11) (t 13))]) (.cond (t 14) (.seq (.region false [s 2 (.mv (.const (.string (.mk #[]))))]) .ret) .skip)) (.seq (.region false [s 15 (.fadr 0 (t 1)), s 16 (.load false 1 (t 15)), s 17 (.bin .add (t 16) (.const (.string (.mk #[58, 32])))), s 18 (.mv (t 3)), s 19 (.bin .add (t 17) (t 18)), s 2 (.mv (t 19))]) .ret))))
def sFormatMatch.keep : List Nat := [0, 1, 2, 3]
def sFormatMatch.res : List RRes := [.tmp 2]
theorem sFormatMatch.ofS {mo : Bool} {args : List AV} {r : AV} (hr : isScalR r = true) (hn : Nat.ble args.length Tryd.f11.ntmps = true) (h : aCode (Kn mo Tryd.prog) sFormatMatch.keep 0 sFormatMatch.code (doneS sFormatMatch.res r) ⟨argEnv 0 args, [], []⟩) : Abs.Ret mo Tryd.prog 11 args r [] :=
  Abs.Ret.of_irS hr Tryd.func11 rfl (by kernel_rfl) (Nat.le_of_ble_eq_true hn) (by kernel_rfl) (by kernel_rfl) h
abbrev sFormatMatch.Ret (args : List AV) (r : AV) (frs : Fr) : Prop := Abs.Ret true Tryd.prog 11 args r frs
def pFormatMatch.code : ACode := (.seq (.region false [s 1 (.box (t 0)), s 2 (.mv (.const (.string (.mk #[]))))]) (.seq (.region false [s 4 (.fadr 1 (t 1)), s 5 (.load false 1 (t 4)), s 6 (.call 29 [(t 5)]), s 3 (.mv (t 6))]) (.seq (.seq (.region false [s 7 (.fadr 0 (t 1)), s 8 (.load false 1 (t 7)), s 9 (.call 30 [(t 8)]), s 10 (.not (t 9)), s 11 (.mv (t 10)), g 11 false 12 (.mv (t 3)), g 11 false 13 (.bin .eql (t 12) (.const (.string (.mk #[])))), s 14 (.or (t 11) (t 13))]) (.cond (t 14) (.seq (.region false [s 2 (.mv (.const (.string (.mk #[]))))]) .ret) .skip)) (.seq (.region false [s 15 (.fadr 0 (t 1)), s 16 (.load false 1 (t 15)), s 17 (.bin .add (t 16) (.const (.string (.mk #[58, 32])))), s 18 (.mv (t 3)), s 19 (.bin .add (t 17) (t 18)), s 2 (.mv (t 19))]) .ret))))
def pFormatMatch.keep : List Nat := [0, 1, 2, 3]
def pFormatMatch.res : List RRes := [.tmp 2]
theorem pFormatMatch.ofS {mo : Bool} {args : List AV} {r : AV} (hr : isScalR r = true) (hn : Nat.ble args.length Tryd.f17.ntmps = true) (h : aCode (Kn mo Tryd.prog) pFormatMatch.keep 0 pFormatMatch.code (doneS pFormatMatch.res r) ⟨argEnv 0 args, [], []⟩) : Abs.Ret mo Tryd.prog 17 args r [] :=
  Abs.Ret.of_irS hr Tryd.func17 rfl (by kernel_rfl) (Nat.le_of_ble_eq_true hn) (by kernel_rfl) (by kernel_rfl) h
abbrev pFormatMatch.RetN (args : List AV) (r : AV) (frs : Fr) : Prop := Abs.Ret false Tryd.prog 17 args r frs
end Go.Proofs.YtplfkocigmnpmaaDoor
namespace Go.Proofs.YtplfkocigmnpmaaDoor
open Abs
theorem fmtFs_le (l : List Fct) (h : tFcts.size l ≤ 1048576) : (fmtFs l).length ≤ 1073741824 := by
  unfold fmtFs
  split
  · simp
  split
  · have h1 := jn_len [32] (l.map fmtF)
    have h2 := texts_size l
    rw [tFcts_size] at h
    rw [List.length_map] at h1
    simp only [List.length_singleton] at h1
    omega
  · simp
def fmtM (m : VMatch) : Str := if (!nameF m.1 || fmtFs m.2.1 == []) = true then [] else m.1 ++ [58, 32] ++ fmtFs m.2.1
theorem sFormatMatch.ret (m : VMatch) (h : tMatch.size m ≤ 1048576) : sFormatMatch.Ret [.agg (oldL (tMatch.q m))] (.str (fmtM m)) [] := by
  refine sFormatMatch.ofS rfl rfl ?_
  rw [tMatch_size] at h
  have h1 := sFormatFacts.ret m.2.1 (by omega)
  have h2 := sIsName.ret m.1 (by omega)
  have h3 := fmtFs_le m.2.1 (by omega)
  repeat' first
    | contradiction | exact trivial
    | (conv => whnf
       first | refine Need.mk (fun h => h) ?_ | refine Need.mk rfl ?_ | refine Need.mk ⟨rfl, Nat.le_of_ble_eq_true rfl⟩ ?_ | refine Need.mk (Nat.le_of_ble_eq_true rfl) ?_ | refine Need.fin ?_ | refine Need.mk ?_ ?_ | refine Ix.strsF rfl ?_ | refine Ix.strs rfl ?_ ?_ | refine Cut.strs rfl ?_ ?_ | refine Ix.mapF (fun _ => rfl) ?_ | refine Ix.map (fun _ => rfl) ?_ ?_ | refine Cut.map (fun _ => rfl) ?_ ?_ | refine Fork.yes (by assumption) ?_ | refine Fork.no (by assumption) ?_ | refine Fork.decYes (by omega) ?_ | refine Fork.decNo (by omega) ?_ | refine Fork.dec (fun _ => ?_) (fun _ => ?_) | refine Fork.bne (fun _ => ?_) (fun _ => ?_) | refine Fork.beq (fun _ => ?_) (fun _ => ?_) | refine Fork.seq (fun _ => ?_) (fun _ => ?_) | refine Fork.sne (fun _ => ?_) (fun _ => ?_) | refine Fork.neg (fun _ => ?_) (fun _ => ?_) | refine Fork.mk (fun _ => ?_) (fun _ => ?_) | refine HAlt.mk ?_ ?_ | apply HJoin.mk3 | exact HEnd.mk rfl rfl rfl | refine HEnd.mk ?_ ?_ ?_ | refine Round.mk ?_ | refine NilQ.mk (fun b hb => ?_) | refine forceK_of ?_ | refine forceBx_of ?_ | refine unG_old ?_ | refine unG_gv ?_ | refine Lit.read rfl ?_ | refine LitO.own rfl ?_ | refine FinVal.keep ?_ | refine FinAgg.keep ?_ | refine Final.mk rfl rfl | refine Final.mk ?_ rfl | refine Final.mk ?_ ?_ | refine FinalT.mk ?_ ?_ | refine FinalI.mk ?_ | refine FinalC.allA ?_ | refine ACall.scalA _ _ (h1) rfl ?_ | refine AQCall.mkA _ _ (fun hg => h1) rfl ?_ | refine AGCall.mkA _ _ (fun hg => h1) rfl ?_ | refine ACall.scalA _ _ (h2) rfl ?_ | refine AQCall.mkA _ _ (fun hg => h2) rfl ?_ | refine AGCall.mkA _ _ (fun hg => h2) rfl ?_)
    | refine AV.bool_congr ?_ | refine AV.int_congr ?_ | refine AV.str_congr ?_ | refine AV.list_congr ?_ | with_reducible rfl | refine fr1 ?_ | refine fr2 ?_ ?_
  · rename_i hc
    have hc : (!nameF m.1 || fmtFs m.2.1 == []) = true := hc
    rw [fmtM, if_pos hc]
  · show m.1.length + 2 ≤ _; omega
  · rw [List.length_append]
    show m.1.length + 2 + _ ≤ _; omega
  · rename_i hc
    have hc : (!nameF m.1 || fmtFs m.2.1 == []) = false := hc
    rw [fmtM, if_neg (by rw [hc]; simp)]
theorem pFormatMatch.ret (m : VMatch) (h : tMatch.size m ≤ 1048576) : pFormatMatch.RetN [.agg (oldL (tMatch.q m))] (.str (fmtM m)) [] := by
  refine pFormatMatch.ofS rfl rfl ?_
  rw [tMatch_size] at h
  have h1 := pFormatFacts.ret m.2.1 (by omega)
  have h2 := pIsName.ret m.1 (by omega)
  have h3 := fmtFs_le m.2.1 (by omega)
  repeat' first
    | contradiction | exact trivial
    | (conv => whnf
       first | refine Need.mk (fun h => h) ?_ | refine Need.mk rfl ?_ | refine Need.mk ⟨rfl, Nat.le_of_ble_eq_true rfl⟩ ?_ | refine Need.mk (Nat.le_of_ble_eq_true rfl) ?_ | refine Need.fin ?_ | refine Need.mk ?_ ?_ | refine Ix.strsF rfl ?_ | refine Ix.strs rfl ?_ ?_ | refine Cut.strs rfl ?_ ?_ | refine Ix.mapF (fun _ => rfl) ?_ | refine Ix.map (fun _ => rfl) ?_ ?_ | refine Cut.map (fun _ => rfl) ?_ ?_ | refine Fork.yes (by assumption) ?_ | refine Fork.no (by assumption) ?_ | refine Fork.decYes (by omega) ?_ | refine Fork.decNo (by omega) ?_ | refine Fork.dec (fun _ => ?_) (fun _ => ?_) | refine Fork.bne (fun _ => ?_) (fun _ => ?_) | refine Fork.beq (fun _ => ?_) (fun _ => ?_) | refine Fork.seq (fun _ => ?_) (fun _ => ?_) | refine Fork.sne (fun _ => ?_) (fun _ => ?_) | refine Fork.neg (fun _ => ?_) (fun _ => ?_) | refine Fork.mk (fun _ => ?_) (fun _ => ?_) | refine HAlt.mk ?_ ?_ | apply HJoin.mk3 | exact HEnd.mk rfl rfl rfl | refine HEnd.mk ?_ ?_ ?_ | refine Round.mk ?_ | refine NilQ.mk (fun b hb => ?_) | refine forceK_of ?_ | refine forceBx_of ?_ | refine unG_old ?_ | refine unG_gv ?_ | refine Lit.read rfl ?_ | refine LitO.own rfl ?_ | refine FinVal.keep ?_ | refine FinAgg.keep ?_ | refine Final.mk rfl rfl | refine Final.mk ?_ rfl | refine Final.mk ?_ ?_ | refine FinalT.mk ?_ ?_ | refine FinalI.mk ?_ | refine FinalC.allA ?_ | refine ACall.scalA _ _ (h1) rfl ?_ | refine AQCall.mkA _ _ (fun hg => h1) rfl ?_ | refine AGCall.mkA _ _ (fun hg => h1) rfl ?_ | refine ACall.scalA _ _ (Ret.weak (h2)) rfl ?_ | refine AQCall.mkA _ _ (fun hg => Ret.weak (h2)) rfl ?_ | refine AGCall.mkA _ _ (fun hg => Ret.weak (h2)) rfl ?_)
    | refine AV.bool_congr ?_ | refine AV.int_congr ?_ | refine AV.str_congr ?_ | refine AV.list_congr ?_ | with_reducible rfl | refine fr1 ?_ | refine fr2 ?_ ?_
  · rename_i hc
    have hc : (!nameF m.1 || fmtFs m.2.1 == []) = true := hc
    rw [fmtM, if_pos hc]
  · show m.1.length + 2 ≤ _; omega
  · rw [List.length_append]
    show m.1.length + 2 + _ ≤ _; omega
  · rename_i hc
    have hc : (!nameF m.1 || fmtFs m.2.1 == []) = false := hc
    rw [fmtM, if_neg (by rw [hc]; simp)]
end Go.Proofs.YtplfkocigmnpmaaDoor
namespace Go.Proofs.YtplfkocigmnpmaaDoor
open Abs
def pFormatInt.code : ACode := (.seq (.region false [s 2 (.mv (.const (.string (.mk #[]))))]) (.seq (.region false [s 3 (.mv (t 0)), s 4 (.call 34 [(t 3)]), s 2 (.mv (t 4))]) .ret))
def pFormatInt.keep : List Nat := [0, 2]
def pFormatInt.res : List RRes := [.tmp 2]
theorem pFormatInt.ofS {mo : Bool} {args : List AV} {r : AV} (hr : isScalR r = true) (hn : Nat.ble args.length Tryd.f19.ntmps = true) (h : aCode (Kn mo Tryd.prog) pFormatInt.keep 0 pFormatInt.code (doneS pFormatInt.res r) ⟨argEnv 0 args, [], []⟩) : Abs.Ret mo Tryd.prog 19 args r [] :=
  Abs.Ret.of_irS hr Tryd.func19 rfl (by kernel_rfl) (Nat.le_of_ble_eq_true hn) (by kernel_rfl) (by kernel_rfl) h
abbrev pFormatInt.Ret (args : List AV) (r : AV) (frs : Fr) : Prop := Abs.Ret true Tryd.prog 19 args r frs
end Go.Proofs.YtplfkocigmnpmaaDoor
namespace Go.Proofs.YtplfkocigmnpmaaDoor
open Abs
abbrev VChoice := VMatch × Int × List Int × Int × Int
instance : DecidableEq VChoice := instDecidableEqProd
def tChoice : Ty VChoice := Ty.pair tMatch (Ty.pair Ty.int (Ty.pair tInts (Ty.pair Ty.int Ty.int)))
theorem tChoice_size (a : VChoice) : tChoice.size a = tMatch.size a.1 + (0 + (tInts.size a.2.2.1 + (0 + 0))) := rfl
theorem toChoice.ret (a : VChoice) (h : tChoice.size a ≤ 1048576) : toChoice.Ret [.agg (oldL (tChoice.q a))] (.agg (tChoice.tk a 0)) (tChoice.fr a) := by
  refine toChoice.of rfl ?_
  rw [tChoice_size] at h
  have hf2 := szI_eq a.2.2.1
  repeat' first
    | contradiction | exact trivial
    | (conv => whnf
       first | refine Need.mk (fun h => h) ?_ | refine Need.mk rfl ?_ | refine Need.mk ⟨rfl, Nat.le_of_ble_eq_true rfl⟩ ?_ | refine Need.mk (Nat.le_of_ble_eq_true rfl) ?_ | refine Need.fin ?_ | refine Need.mk ?_ ?_ | refine Ix.strsF rfl ?_ | refine Ix.strs rfl ?_ ?_ | refine Cut.strs rfl ?_ ?_ | refine Ix.mapF (fun _ => rfl) ?_ | refine Ix.map (fun _ => rfl) ?_ ?_ | refine Cut.map (fun _ => rfl) ?_ ?_ | refine Fork.yes (by assumption) ?_ | refine Fork.no (by assumption) ?_ | refine Fork.decYes (by omega) ?_ | refine Fork.decNo (by omega) ?_ | refine Fork.dec (fun _ => ?_) (fun _ => ?_) | refine Fork.bne (fun _ => ?_) (fun _ => ?_) | refine Fork.beq (fun _ => ?_) (fun _ => ?_) | refine Fork.seq (fun _ => ?_) (fun _ => ?_) | refine Fork.sne (fun _ => ?_) (fun _ => ?_) | refine Fork.neg (fun _ => ?_) (fun _ => ?_) | refine Fork.mk (fun _ => ?_) (fun _ => ?_) | refine HAlt.mk ?_ ?_ | apply HJoin.mk3 | exact HEnd.mk rfl rfl rfl | refine HEnd.mk ?_ ?_ ?_ | refine Round.mk ?_ | refine NilQ.mk (fun b hb => ?_) | refine forceK_of ?_ | refine forceBx_of ?_ | refine unG_old ?_ | refine unG_gv ?_ | refine Lit.read rfl ?_ | refine LitO.own rfl ?_ | refine FinVal.keep ?_ | refine FinAgg.keep ?_ | refine Final.mk rfl rfl | refine Final.mk ?_ rfl | refine Final.mk ?_ ?_ | refine FinalT.mk ?_ ?_ | refine FinalI.mk ?_ | refine FinalC.allA ?_ | refine ACall.mk_Match _ _ (toMatch.ret _ ?_) (by repeat' first | exact SeesL.nil | refine SeesL.cons ?_ ?_ | exact SeesB.of0 (Sees0.val _) | exact SeesB.of0 (Sees0.str _) | exact SeesB.of0 (Sees0.olds _ _) | exact SeesB.of0 (Sees0.old _) | exact SeesB.of0 (Sees0.oldagg _) | exact SeesB.of0 Sees0.nil | exact Sees0.val _ | exact Sees0.str _ | exact Sees0.olds _ _ | exact Sees0.old _ | exact Sees0.oldagg _ | exact Sees0.nil | exact SeesB.of0 (Sees0.any _) | assumption | exact sees_gv _ _ _ (by assumption) (by first | assumption | exact BoxIn.last _ _ | exact BoxIn.more (BoxIn.last _ _) _) | refine SeesB.agg ?_ | refine Sees0.agg ?_ | exact SeesB.of0 (Sees0.clo SeesL.nil SeesL.nil) | exact Sees0.clo SeesL.nil SeesL.nil | exact SeesB.of0 (Sees0.list rfl) | exact Sees0.list rfl) ?_ | refine ACall.mk_IntS _ _ (toIntS.ret _ ?_) (by repeat' first | exact SeesL.nil | refine SeesL.cons ?_ ?_ | exact SeesB.of0 (Sees0.val _) | exact SeesB.of0 (Sees0.str _) | exact SeesB.of0 (Sees0.olds _ _) | exact SeesB.of0 (Sees0.old _) | exact SeesB.of0 (Sees0.oldagg _) | exact SeesB.of0 Sees0.nil | exact Sees0.val _ | exact Sees0.str _ | exact Sees0.olds _ _ | exact Sees0.old _ | exact Sees0.oldagg _ | exact Sees0.nil | exact SeesB.of0 (Sees0.any _) | assumption | exact sees_gv _ _ _ (by assumption) (by first | assumption | exact BoxIn.last _ _ | exact BoxIn.more (BoxIn.last _ _) _) | refine SeesB.agg ?_ | refine Sees0.agg ?_ | exact SeesB.of0 (Sees0.clo SeesL.nil SeesL.nil) | exact Sees0.clo SeesL.nil SeesL.nil | exact SeesB.of0 (Sees0.list rfl) | exact Sees0.list rfl) ?_)
    | refine AV.bool_congr ?_ | refine AV.int_congr ?_ | refine AV.str_congr ?_ | refine AV.list_congr ?_ | with_reducible rfl | refine fr1 ?_ | refine fr2 ?_ ?_
  all_goals first
    | omega
    | (refine congrArg AV.agg ?_
       repeat' first
         | refine cons_congr ?_ ?_
         | refine tok_congr ?_ ?_
         | refine congrArg (tks _ _) ?_
         | rfl
       all_goals (simp [Ty.pair, Ty.str, Ty.int, Ty.bool, Nat.add_assoc, Ty.plain, tInts]; done))
    | (simp [tChoice, Ty.pair, Ty.str, Ty.int, Ty.bool, List.append_assoc, Nat.add_assoc, Ty.plain, tInts]; done)
theorem toChoice.own (a : VChoice) (h : tChoice.size a ≤ 1048576) : toChoice.Own [.agg (oldL (tChoice.q a))] (.a (tChoice.q a)) := Ty.ownA tChoice (toChoice.ret a h)
theorem szChoice.ret (f : VChoice) (a : Int) (h0 : 0 ≤ a) (ha : a ≤ 1048576) (hb : tChoice.bd f) :
    szChoice.Ret [.agg (oldL (tChoice.q f)), .val (.int .i64 a)] (.val (.int .i64 (left a (tChoice.size f)))) [] := by
  refine szChoice.of rfl ?_
  have hz := tChoice_size f
  obtain ⟨hb0, hb1, hb2, hb3, hb4⟩ := hb
  obtain ⟨hbl2, hbe2⟩ := hb2
  have hy2 := szI_eq f.2.2.1
  by_cases c1 : a < (tMatch.size f.1 : Int)
  · have e0 : left a (tMatch.size f.1) = -1 := by rw [left, if_pos (by omega)]
    repeat' first
      | contradiction | exact trivial
      | (conv => whnf
         first | refine Need.mk (fun h => h) ?_ | refine Need.mk rfl ?_ | refine Need.mk ⟨rfl, Nat.le_of_ble_eq_true rfl⟩ ?_ | refine Need.mk (Nat.le_of_ble_eq_true rfl) ?_ | refine Need.fin ?_ | refine Need.mk ?_ ?_ | refine Ix.strsF rfl ?_ | refine Ix.strs rfl ?_ ?_ | refine Cut.strs rfl ?_ ?_ | refine Ix.mapF (fun _ => rfl) ?_ | refine Ix.map (fun _ => rfl) ?_ ?_ | refine Cut.map (fun _ => rfl) ?_ ?_ | refine Fork.yes (by assumption) ?_ | refine Fork.no (by assumption) ?_ | refine Fork.decYes (by omega) ?_ | refine Fork.decNo (by omega) ?_ | refine Fork.dec (fun _ => ?_) (fun _ => ?_) | refine Fork.bne (fun _ => ?_) (fun _ => ?_) | refine Fork.beq (fun _ => ?_) (fun _ => ?_) | refine Fork.seq (fun _ => ?_) (fun _ => ?_) | refine Fork.sne (fun _ => ?_) (fun _ => ?_) | refine Fork.neg (fun _ => ?_) (fun _ => ?_) | refine Fork.mk (fun _ => ?_) (fun _ => ?_) | refine HAlt.mk ?_ ?_ | apply HJoin.mk3 | exact HEnd.mk rfl rfl rfl | refine HEnd.mk ?_ ?_ ?_ | refine Round.mk ?_ | refine NilQ.mk (fun b hb => ?_) | refine forceK_of ?_ | refine forceBx_of ?_ | refine unG_old ?_ | refine unG_gv ?_ | refine Lit.read rfl ?_ | refine LitO.own rfl ?_ | refine FinVal.keep ?_ | refine FinAgg.keep ?_ | refine Final.mk rfl rfl | refine Final.mk ?_ rfl | refine Final.mk ?_ ?_ | refine FinalT.mk ?_ ?_ | refine FinalI.mk ?_ | refine FinalC.allA ?_ | refine ACall.scalA _ _ (szMatch.ret _ _ ?_ ?_ ?_) rfl ?_ | refine AQCall.mkA _ _ (fun hg => szMatch.ret _ _ ?_ ?_ ?_) rfl ?_ | refine AGCall.mkA _ _ (fun hg => szMatch.ret _ _ ?_ ?_ ?_) rfl ?_ | refine ACall.scalA _ _ (szIntS.ret _ _ ?_ ?_ ?_) rfl ?_ | refine AQCall.mkA _ _ (fun hg => szIntS.ret _ _ ?_ ?_ ?_) rfl ?_ | refine AGCall.mkA _ _ (fun hg => szIntS.ret _ _ ?_ ?_ ?_) rfl ?_)
      | refine AV.bool_congr ?_ | refine AV.int_congr ?_ | refine AV.str_congr ?_ | refine AV.list_congr ?_ | with_reducible rfl | refine fr1 ?_ | refine fr2 ?_ ?_
    all_goals first
      | assumption
      | omega
      | exact left_eq (by omega)
  by_cases c2 : a < (tMatch.size f.1 : Int) + (f.2.2.1.length : Int)
  · have e0 : left a (tMatch.size f.1) = a - (tMatch.size f.1 : Int) := by rw [left, if_neg (by omega)]
    have e1 : left (left a (tMatch.size f.1)) (f.2.2.1.length) = -1 := by rw [e0, left, if_pos (by omega)]
    repeat' first
      | contradiction | exact trivial
      | (conv => whnf
         first | refine Need.mk (fun h => h) ?_ | refine Need.mk rfl ?_ | refine Need.mk ⟨rfl, Nat.le_of_ble_eq_true rfl⟩ ?_ | refine Need.mk (Nat.le_of_ble_eq_true rfl) ?_ | refine Need.fin ?_ | refine Need.mk ?_ ?_ | refine Ix.strsF rfl ?_ | refine Ix.strs rfl ?_ ?_ | refine Cut.strs rfl ?_ ?_ | refine Ix.mapF (fun _ => rfl) ?_ | refine Ix.map (fun _ => rfl) ?_ ?_ | refine Cut.map (fun _ => rfl) ?_ ?_ | refine Fork.yes (by assumption) ?_ | refine Fork.no (by assumption) ?_ | refine Fork.decYes (by omega) ?_ | refine Fork.decNo (by omega) ?_ | refine Fork.dec (fun _ => ?_) (fun _ => ?_) | refine Fork.bne (fun _ => ?_) (fun _ => ?_) | refine Fork.beq (fun _ => ?_) (fun _ => ?_) | refine Fork.seq (fun _ => ?_) (fun _ => ?_) | refine Fork.sne (fun _ => ?_) (fun _ => ?_) | refine Fork.neg (fun _ => ?_) (fun _ => ?_) | refine Fork.mk (fun _ => ?_) (fun _ => ?_) | refine HAlt.mk ?_ ?_ | apply HJoin.mk3 | exact HEnd.mk rfl rfl rfl | refine HEnd.mk ?_ ?_ ?_ | refine Round.mk ?_ | refine NilQ.mk (fun b hb => ?_) | refine forceK_of ?_ | refine forceBx_of ?_ | refine unG_old ?_ | refine unG_gv ?_ | refine Lit.read rfl ?_ | refine LitO.own rfl ?_ | refine FinVal.keep ?_ | refine FinAgg.keep ?_ | refine Final.mk rfl rfl | refine Final.mk ?_ rfl | refine Final.mk ?_ ?_ | refine FinalT.mk ?_ ?_ | refine FinalI.mk ?_ | refine FinalC.allA ?_ | refine ACall.scalA _ _ (szMatch.ret _ _ ?_ ?_ ?_) rfl ?_ | refine AQCall.mkA _ _ (fun hg => szMatch.ret _ _ ?_ ?_ ?_) rfl ?_ | refine AGCall.mkA _ _ (fun hg => szMatch.ret _ _ ?_ ?_ ?_) rfl ?_ | refine ACall.scalA _ _ (szIntS.ret _ _ ?_ ?_ ?_) rfl ?_ | refine AQCall.mkA _ _ (fun hg => szIntS.ret _ _ ?_ ?_ ?_) rfl ?_ | refine AGCall.mkA _ _ (fun hg => szIntS.ret _ _ ?_ ?_ ?_) rfl ?_)
      | refine AV.bool_congr ?_ | refine AV.int_congr ?_ | refine AV.str_congr ?_ | refine AV.list_congr ?_ | with_reducible rfl | refine fr1 ?_ | refine fr2 ?_ ?_
    all_goals first
      | assumption
      | omega
      | exact left_eq (by omega)
  have e0 : left a (tMatch.size f.1) = a - (tMatch.size f.1 : Int) := by rw [left, if_neg (by omega)]
  have e1 : left (left a (tMatch.size f.1)) (f.2.2.1.length) = a - (tMatch.size f.1 : Int) - (f.2.2.1.length : Int) := by rw [e0, left, if_neg (by omega)]
  repeat' first
    | contradiction | exact trivial
    | (conv => whnf
       first | refine Need.mk (fun h => h) ?_ | refine Need.mk rfl ?_ | refine Need.mk ⟨rfl, Nat.le_of_ble_eq_true rfl⟩ ?_ | refine Need.mk (Nat.le_of_ble_eq_true rfl) ?_ | refine Need.fin ?_ | refine Need.mk ?_ ?_ | refine Ix.strsF rfl ?_ | refine Ix.strs rfl ?_ ?_ | refine Cut.strs rfl ?_ ?_ | refine Ix.mapF (fun _ => rfl) ?_ | refine Ix.map (fun _ => rfl) ?_ ?_ | refine Cut.map (fun _ => rfl) ?_ ?_ | refine Fork.yes (by assumption) ?_ | refine Fork.no (by assumption) ?_ | refine Fork.decYes (by omega) ?_ | refine Fork.decNo (by omega) ?_ | refine Fork.dec (fun _ => ?_) (fun _ => ?_) | refine Fork.bne (fun _ => ?_) (fun _ => ?_) | refine Fork.beq (fun _ => ?_) (fun _ => ?_) | refine Fork.seq (fun _ => ?_) (fun _ => ?_) | refine Fork.sne (fun _ => ?_) (fun _ => ?_) | refine Fork.neg (fun _ => ?_) (fun _ => ?_) | refine Fork.mk (fun _ => ?_) (fun _ => ?_) | refine HAlt.mk ?_ ?_ | apply HJoin.mk3 | exact HEnd.mk rfl rfl rfl | refine HEnd.mk ?_ ?_ ?_ | refine Round.mk ?_ | refine NilQ.mk (fun b hb => ?_) | refine forceK_of ?_ | refine forceBx_of ?_ | refine unG_old ?_ | refine unG_gv ?_ | refine Lit.read rfl ?_ | refine LitO.own rfl ?_ | refine FinVal.keep ?_ | refine FinAgg.keep ?_ | refine Final.mk rfl rfl | refine Final.mk ?_ rfl | refine Final.mk ?_ ?_ | refine FinalT.mk ?_ ?_ | refine FinalI.mk ?_ | refine FinalC.allA ?_ | refine ACall.scalA _ _ (szMatch.ret _ _ ?_ ?_ ?_) rfl ?_ | refine AQCall.mkA _ _ (fun hg => szMatch.ret _ _ ?_ ?_ ?_) rfl ?_ | refine AGCall.mkA _ _ (fun hg => szMatch.ret _ _ ?_ ?_ ?_) rfl ?_ | refine ACall.scalA _ _ (szIntS.ret _ _ ?_ ?_ ?_) rfl ?_ | refine AQCall.mkA _ _ (fun hg => szIntS.ret _ _ ?_ ?_ ?_) rfl ?_ | refine AGCall.mkA _ _ (fun hg => szIntS.ret _ _ ?_ ?_ ?_) rfl ?_)
    | refine AV.bool_congr ?_ | refine AV.int_congr ?_ | refine AV.str_congr ?_ | refine AV.list_congr ?_ | with_reducible rfl | refine fr1 ?_ | refine fr2 ?_ ?_
  all_goals first
    | assumption
    | omega
    | exact left_eq (by omega)
theorem eqChoice.big (f g : VChoice) (h : tChoice.size f ≤ 1099511627775) : eqChoice.Ret [.agg (oldL (tChoice.q f)), .agg (oldL (tChoice.q g))] (.val (.bool (decide (f = g)))) [] := by
  refine eqChoice.of rfl ?_
  have hz := tChoice_size f
  repeat' first
    | contradiction | exact trivial
    | (conv => whnf
       first | refine Need.mk (fun h => h) ?_ | refine Need.mk rfl ?_ | refine Need.mk ⟨rfl, Nat.le_of_ble_eq_true rfl⟩ ?_ | refine Need.mk (Nat.le_of_ble_eq_true rfl) ?_ | refine Need.fin ?_ | refine Need.mk ?_ ?_ | refine Ix.strsF rfl ?_ | refine Ix.strs rfl ?_ ?_ | refine Cut.strs rfl ?_ ?_ | refine Ix.mapF (fun _ => rfl) ?_ | refine Ix.map (fun _ => rfl) ?_ ?_ | refine Cut.map (fun _ => rfl) ?_ ?_ | refine Fork.yes (by assumption) ?_ | refine Fork.no (by assumption) ?_ | refine Fork.decYes (by omega) ?_ | refine Fork.decNo (by omega) ?_ | refine Fork.dec (fun _ => ?_) (fun _ => ?_) | refine Fork.bne (fun _ => ?_) (fun _ => ?_) | refine Fork.beq (fun _ => ?_) (fun _ => ?_) | refine Fork.seq (fun _ => ?_) (fun _ => ?_) | refine Fork.sne (fun _ => ?_) (fun _ => ?_) | refine Fork.neg (fun _ => ?_) (fun _ => ?_) | refine Fork.mk (fun _ => ?_) (fun _ => ?_) | refine HAlt.mk ?_ ?_ | apply HJoin.mk3 | exact HEnd.mk rfl rfl rfl | refine HEnd.mk ?_ ?_ ?_ | refine Round.mk ?_ | refine NilQ.mk (fun b hb => ?_) | refine forceK_of ?_ | refine forceBx_of ?_ | refine unG_old ?_ | refine unG_gv ?_ | refine Lit.read rfl ?_ | refine LitO.own rfl ?_ | refine FinVal.keep ?_ | refine FinAgg.keep ?_ | refine Final.mk rfl rfl | refine Final.mk ?_ rfl | refine Final.mk ?_ ?_ | refine FinalT.mk ?_ ?_ | refine FinalI.mk ?_ | refine FinalC.allA ?_ | refine ACall.scalA _ _ (eqMatch.big _ _ ?_) rfl ?_ | refine AQCall.mkA _ _ (fun hg => eqMatch.big _ _ ?_) rfl ?_ | refine AGCall.mkA _ _ (fun hg => eqMatch.big _ _ ?_) rfl ?_ | refine ACall.scalA _ _ (eqIntS.big _ _ ?_) rfl ?_ | refine AQCall.mkA _ _ (fun hg => eqIntS.big _ _ ?_) rfl ?_ | refine AGCall.mkA _ _ (fun hg => eqIntS.big _ _ ?_) rfl ?_)
    | refine AV.bool_congr ?_ | refine AV.int_congr ?_ | refine AV.str_congr ?_ | refine AV.list_congr ?_ | with_reducible rfl | refine fr1 ?_ | refine fr2 ?_ ?_
  all_goals first
    | omega
    | (simp only [tStrs_size, tInts_size] at *; omega)
    | (obtain ⟨⟨x00, x01, x02⟩, x1, x2, x3, x4⟩ := f; obtain ⟨⟨y00, y01, y02⟩, y1, y2, y3, y4⟩ := g; simp_all)
end Go.Proofs.YtplfkocigmnpmaaDoor
namespace Go.Proofs.YtplfkocigmnpmaaDoor
open Abs Go.RowKit
def cmpN (a b : Int) : Int := if a < b then -1 else if b < a then 1 else 0
theorem nanI (x : Int) : isNaNInt.Ret [.val (.int .i64 x)] (.val (.bool false)) [] := by
  refine isNaNInt.ofS rfl rfl ?_
  repeat' first
    | contradiction | exact trivial
    | (conv => whnf
       first | refine Need.mk (fun h => h) ?_ | refine Need.mk rfl ?_ | refine Need.mk ⟨rfl, Nat.le_of_ble_eq_true rfl⟩ ?_ | refine Need.mk (Nat.le_of_ble_eq_true rfl) ?_ | refine Need.fin ?_ | refine Need.mk ?_ ?_ | refine Ix.strsF rfl ?_ | refine Ix.strs rfl ?_ ?_ | refine Cut.strs rfl ?_ ?_ | refine Ix.mapF (fun _ => rfl) ?_ | refine Ix.map (fun _ => rfl) ?_ ?_ | refine Cut.map (fun _ => rfl) ?_ ?_ | refine Fork.yes (by assumption) ?_ | refine Fork.no (by assumption) ?_ | refine Fork.decYes (by omega) ?_ | refine Fork.decNo (by omega) ?_ | refine Fork.dec (fun _ => ?_) (fun _ => ?_) | refine Fork.bne (fun _ => ?_) (fun _ => ?_) | refine Fork.beq (fun _ => ?_) (fun _ => ?_) | refine Fork.seq (fun _ => ?_) (fun _ => ?_) | refine Fork.sne (fun _ => ?_) (fun _ => ?_) | refine Fork.neg (fun _ => ?_) (fun _ => ?_) | refine Fork.mk (fun _ => ?_) (fun _ => ?_) | refine HAlt.mk ?_ ?_ | apply HJoin.mk3 | exact HEnd.mk rfl rfl rfl | refine HEnd.mk ?_ ?_ ?_ | refine Round.mk ?_ | refine NilQ.mk (fun b hb => ?_) | refine forceK_of ?_ | refine forceBx_of ?_ | refine unG_old ?_ | refine unG_gv ?_ | refine Lit.read rfl ?_ | refine LitO.own rfl ?_ | refine FinVal.keep ?_ | refine FinAgg.keep ?_ | refine Final.mk rfl rfl | refine Final.mk ?_ rfl | refine Final.mk ?_ ?_ | refine FinalT.mk ?_ ?_ | refine FinalI.mk ?_ | refine FinalC.allA ?_)
    | refine AV.bool_congr ?_ | refine AV.int_congr ?_ | refine AV.str_congr ?_ | refine AV.list_congr ?_ | with_reducible rfl | refine fr1 ?_ | refine fr2 ?_ ?_
  simp
theorem cmpInt9.ret (a b : Int) : cmpInt.Ret [.val (.int .i64 a), .val (.int .i64 b)] (.val (.int .i64 (cmpN a b))) [] := by
  refine cmpInt.ofS rfl rfl ?_
  unfold cmpN
  by_cases h1 : a < b
  · rw [if_pos h1]
    repeat' first
      | contradiction | exact trivial
      | (conv => whnf
         first | refine Need.mk (fun h => h) ?_ | refine Need.mk rfl ?_ | refine Need.mk ⟨rfl, Nat.le_of_ble_eq_true rfl⟩ ?_ | refine Need.mk (Nat.le_of_ble_eq_true rfl) ?_ | refine Need.finN ?_ | refine Need.mk ?_ ?_ | refine Ix.strsN rfl ?_ | refine Ix.strs rfl ?_ ?_ | refine Cut.strs rfl ?_ ?_ | refine Ix.mapN (fun _ => rfl) ?_ | refine Ix.map (fun _ => rfl) ?_ ?_ | refine Cut.map (fun _ => rfl) ?_ ?_ | refine Fork.yes (by assumption) ?_ | refine Fork.no (by assumption) ?_ | refine Fork.decY ?_ | refine Fork.andY ?_ | refine Fork.andN ?_ | refine Fork.decN ?_ | refine Fork.dec (fun _ => ?_) (fun _ => ?_) | refine Fork.bne (fun _ => ?_) (fun _ => ?_) | refine Fork.beq (fun _ => ?_) (fun _ => ?_) | refine Fork.seq (fun _ => ?_) (fun _ => ?_) | refine Fork.sne (fun _ => ?_) (fun _ => ?_) | refine Fork.neg (fun _ => ?_) (fun _ => ?_) | refine Fork.mk (fun _ => ?_) (fun _ => ?_) | refine HAlt.mk ?_ ?_ | apply HJoin.mk3 | exact HEnd.mk rfl rfl rfl | refine HEnd.mk ?_ ?_ ?_ | refine Round.mk ?_ | refine NilQ.mk (fun b hb => ?_) | refine forceK_of ?_ | refine forceBx_of ?_ | refine unG_old ?_ | refine unG_gv ?_ | refine Lit.read rfl ?_ | refine LitO.own rfl ?_ | refine FinVal.keep ?_ | refine FinAgg.keep ?_ | refine Final.mk rfl rfl | refine Final.mk ?_ rfl | refine Final.mk ?_ ?_ | refine FinalT.mk ?_ ?_ | refine FinalI.mk ?_ | refine FinalC.allA ?_ | refine ACall.scalA _ _ (nanI _) rfl ?_ | refine AQCall.mkA _ _ (fun hg => nanI _) rfl ?_ | refine AGCall.mkA _ _ (fun hg => nanI _) rfl ?_)
      | refine AV.bool_congr ?_ | refine AV.int_congr ?_ | refine AV.str_congr ?_ | refine AV.list_congr ?_ | with_reducible rfl | refine fr1 ?_ | refine fr2 ?_ ?_
  rw [if_neg h1]
  by_cases h2 : b < a
  · rw [if_pos h2]
    repeat' first
      | contradiction | exact trivial
      | (conv => whnf
         first | refine Need.mk (fun h => h) ?_ | refine Need.mk rfl ?_ | refine Need.mk ⟨rfl, Nat.le_of_ble_eq_true rfl⟩ ?_ | refine Need.mk (Nat.le_of_ble_eq_true rfl) ?_ | refine Need.finN ?_ | refine Need.mk ?_ ?_ | refine Ix.strsN rfl ?_ | refine Ix.strs rfl ?_ ?_ | refine Cut.strs rfl ?_ ?_ | refine Ix.mapN (fun _ => rfl) ?_ | refine Ix.map (fun _ => rfl) ?_ ?_ | refine Cut.map (fun _ => rfl) ?_ ?_ | refine Fork.yes (by assumption) ?_ | refine Fork.no (by assumption) ?_ | refine Fork.decY ?_ | refine Fork.andY ?_ | refine Fork.andN ?_ | refine Fork.decN ?_ | refine Fork.dec (fun _ => ?_) (fun _ => ?_) | refine Fork.bne (fun _ => ?_) (fun _ => ?_) | refine Fork.beq (fun _ => ?_) (fun _ => ?_) | refine Fork.seq (fun _ => ?_) (fun _ => ?_) | refine Fork.sne (fun _ => ?_) (fun _ => ?_) | refine Fork.neg (fun _ => ?_) (fun _ => ?_) | refine Fork.mk (fun _ => ?_) (fun _ => ?_) | refine HAlt.mk ?_ ?_ | apply HJoin.mk3 | exact HEnd.mk rfl rfl rfl | refine HEnd.mk ?_ ?_ ?_ | refine Round.mk ?_ | refine NilQ.mk (fun b hb => ?_) | refine forceK_of ?_ | refine forceBx_of ?_ | refine unG_old ?_ | refine unG_gv ?_ | refine Lit.read rfl ?_ | refine LitO.own rfl ?_ | refine FinVal.keep ?_ | refine FinAgg.keep ?_ | refine Final.mk rfl rfl | refine Final.mk ?_ rfl | refine Final.mk ?_ ?_ | refine FinalT.mk ?_ ?_ | refine FinalI.mk ?_ | refine FinalC.allA ?_ | refine ACall.scalA _ _ (nanI _) rfl ?_ | refine AQCall.mkA _ _ (fun hg => nanI _) rfl ?_ | refine AGCall.mkA _ _ (fun hg => nanI _) rfl ?_)
      | refine AV.bool_congr ?_ | refine AV.int_congr ?_ | refine AV.str_congr ?_ | refine AV.list_congr ?_ | with_reducible rfl | refine fr1 ?_ | refine fr2 ?_ ?_
  · rw [if_neg h2]
    repeat' first
      | contradiction | exact trivial
      | (conv => whnf
         first | refine Need.mk (fun h => h) ?_ | refine Need.mk rfl ?_ | refine Need.mk ⟨rfl, Nat.le_of_ble_eq_true rfl⟩ ?_ | refine Need.mk (Nat.le_of_ble_eq_true rfl) ?_ | refine Need.finN ?_ | refine Need.mk ?_ ?_ | refine Ix.strsN rfl ?_ | refine Ix.strs rfl ?_ ?_ | refine Cut.strs rfl ?_ ?_ | refine Ix.mapN (fun _ => rfl) ?_ | refine Ix.map (fun _ => rfl) ?_ ?_ | refine Cut.map (fun _ => rfl) ?_ ?_ | refine Fork.yes (by assumption) ?_ | refine Fork.no (by assumption) ?_ | refine Fork.decY ?_ | refine Fork.andY ?_ | refine Fork.andN ?_ | refine Fork.decN ?_ | refine Fork.dec (fun _ => ?_) (fun _ => ?_) | refine Fork.bne (fun _ => ?_) (fun _ => ?_) | refine Fork.beq (fun _ => ?_) (fun _ => ?_) | refine Fork.seq (fun _ => ?_) (fun _ => ?_) | refine Fork.sne (fun _ => ?_) (fun _ => ?_) | refine Fork.neg (fun _ => ?_) (fun _ => ?_) | refine Fork.mk (fun _ => ?_) (fun _ => ?_) | refine HAlt.mk ?_ ?_ | apply HJoin.mk3 | exact HEnd.mk rfl rfl rfl | refine HEnd.mk ?_ ?_ ?_ | refine Round.mk ?_ | refine NilQ.mk (fun b hb => ?_) | refine forceK_of ?_ | refine forceBx_of ?_ | refine unG_old ?_ | refine unG_gv ?_ | refine Lit.read rfl ?_ | refine LitO.own rfl ?_ | refine FinVal.keep ?_ | refine FinAgg.keep ?_ | refine Final.mk rfl rfl | refine Final.mk ?_ rfl | refine Final.mk ?_ ?_ | refine FinalT.mk ?_ ?_ | refine FinalI.mk ?_ | refine FinalC.allA ?_ | refine ACall.scalA _ _ (nanI _) rfl ?_ | refine AQCall.mkA _ _ (fun hg => nanI _) rfl ?_ | refine AGCall.mkA _ _ (fun hg => nanI _) rfl ?_)
      | refine AV.bool_congr ?_ | refine AV.int_congr ?_ | refine AV.str_congr ?_ | refine AV.list_congr ?_ | with_reducible rfl | refine fr1 ?_ | refine fr2 ?_ ?_
theorem pgreaterFirst.ret (a b : Int) : pgreaterFirst.Ret [.val (.int .i64 a), .val (.int .i64 b)] (.val (.int .i64 (cmpN b a))) [] := by
  refine pgreaterFirst.ofS rfl rfl ?_
  have h := cmpInt9.ret b a
  repeat' first
    | contradiction | exact trivial
    | (conv => whnf
       first | refine Need.mk (fun h => h) ?_ | refine Need.mk rfl ?_ | refine Need.mk ⟨rfl, Nat.le_of_ble_eq_true rfl⟩ ?_ | refine Need.mk (Nat.le_of_ble_eq_true rfl) ?_ | refine Need.fin ?_ | refine Need.mk ?_ ?_ | refine Ix.strsF rfl ?_ | refine Ix.strs rfl ?_ ?_ | refine Cut.strs rfl ?_ ?_ | refine Ix.mapF (fun _ => rfl) ?_ | refine Ix.map (fun _ => rfl) ?_ ?_ | refine Cut.map (fun _ => rfl) ?_ ?_ | refine Fork.yes (by assumption) ?_ | refine Fork.no (by assumption) ?_ | refine Fork.decYes (by omega) ?_ | refine Fork.decNo (by omega) ?_ | refine Fork.dec (fun _ => ?_) (fun _ => ?_) | refine Fork.bne (fun _ => ?_) (fun _ => ?_) | refine Fork.beq (fun _ => ?_) (fun _ => ?_) | refine Fork.seq (fun _ => ?_) (fun _ => ?_) | refine Fork.sne (fun _ => ?_) (fun _ => ?_) | refine Fork.neg (fun _ => ?_) (fun _ => ?_) | refine Fork.mk (fun _ => ?_) (fun _ => ?_) | refine HAlt.mk ?_ ?_ | apply HJoin.mk3 | exact HEnd.mk rfl rfl rfl | refine HEnd.mk ?_ ?_ ?_ | refine Round.mk ?_ | refine NilQ.mk (fun b hb => ?_) | refine forceK_of ?_ | refine forceBx_of ?_ | refine unG_old ?_ | refine unG_gv ?_ | refine Lit.read rfl ?_ | refine LitO.own rfl ?_ | refine FinVal.keep ?_ | refine FinAgg.keep ?_ | refine Final.mk rfl rfl | refine Final.mk ?_ rfl | refine Final.mk ?_ ?_ | refine FinalT.mk ?_ ?_ | refine FinalI.mk ?_ | refine FinalC.allA ?_ | refine ACall.scalA _ _ (h) rfl ?_ | refine AQCall.mkA _ _ (fun hg => h) rfl ?_ | refine AGCall.mkA _ _ (fun hg => h) rfl ?_)
    | refine AV.bool_congr ?_ | refine AV.int_congr ?_ | refine AV.str_congr ?_ | refine AV.list_congr ?_ | with_reducible rfl | refine fr1 ?_ | refine fr2 ?_ ?_
end Go.Proofs.YtplfkocigmnpmaaDoor
namespace Go.Proofs
namespace Stb
open Go.Sort
variable {α : Type} [Inhabited α]
variable {R : α → α → Prop}
omit [Inhabited α] in
theorem put_in {V1 V2 : List α} {u : α} (hV : (V1 ++ V2).Pairwise R) (h1 : ∀ v ∈ V1, R v u) (h2 : ∀ v ∈ V2, R u v) : (V1 ++ u :: V2).Pairwise R := by
  obtain ⟨a, b, c⟩ := List.pairwise_append.1 hV
  refine List.pairwise_append.2 ⟨a, List.pairwise_cons.2 ⟨h2, b⟩, fun x hx y hy => ?_⟩
  rcases List.mem_cons.1 hy with rfl | hy
  · exact h1 x hx
  · exact c x hx y hy
/-- what lies before h in a sorted list -/
theorem before {V : List α} {h k : Nat} (hV : V.Pairwise R) (hk : k < h) (hh : h < V.length) : R (V.getD k default) (V.getD h default) := by
  have e : ∀ i (hi : i < V.length), V.getD i default = V[i] := fun i hi => by simp [List.getD, hi]
  rw [e k (by omega), e h hh]
  exact List.pairwise_iff_getElem.1 hV k h (by omega) hh hk
section ins
variable {c : α → α → Bool}
end ins
end Stb
end Go.Proofs
namespace Go.Proofs.YtplfkocigmnpmaaDoor
open Abs Go.RowKit
abbrev Fall (l : List Int) : Prop := l.Pairwise (fun a b => b ≤ a)
theorem fall_unique : ∀ {A B : List Int}, A.Perm B → Fall A → Fall B → A = B
  | [], B, h, _, _ => (List.Perm.nil_eq h)
  | a :: A, B, h, hA, hB => by
    cases B with
    | nil => exact absurd h.length_eq (by simp)
    | cons b B =>
      have h1 : b ≤ a := by
        rcases List.mem_cons.1 (h.symm.mem_iff.1 (List.mem_cons_self : b ∈ b :: B)) with e | hb
        · omega
        · exact (List.pairwise_cons.1 hA).1 b hb
      have h2 : a ≤ b := by
        rcases List.mem_cons.1 (h.mem_iff.1 (List.mem_cons_self : a ∈ a :: A)) with e | ha
        · omega
        · exact (List.pairwise_cons.1 hB).1 a ha
      have e : a = b := by omega
      subst e
      rw [fall_unique ((List.perm_cons a).1 h) (List.pairwise_cons.1 hA).2 (List.pairwise_cons.1 hB).2]
def fallF (l : List Int) : List Int := l.mergeSort fun a b => decide (b ≤ a)
theorem fallF_perm (l : List Int) : (fallF l).Perm l := List.mergeSort_perm l _
theorem fallF_fall (l : List Int) : Fall (fallF l) := by
  have := List.pairwise_mergeSort (le := fun a b : Int => decide (b ≤ a)) (fun a b c h1 h2 => by simp at *; omega) (fun a b => by simp; omega) l
  exact this.imp fun h => by simpa using h
theorem fallF_len (l : List Int) : (fallF l).length = l.length := (fallF_perm l).length_eq
theorem fallF_is {l S : List Int} (h : S.Perm l) (hf : Fall S) : S = fallF l := fall_unique (h.trans (fallF_perm l).symm) hf (fallF_fall l)
/-- the cells of numbers -/
def ci (l : List Int) : List AV := l.map fun n => .val (.int .i64 n)
theorem ci_rows (l : List Int) : (rows Ty.int l).flatten = ci l := by
  induction l with
  | nil => rfl
  | cons a l ih =>
    show (oldL (Ty.int.q a) :: rows Ty.int l).flatten = _
    rw [List.flatten_cons, ih]; rfl
theorem ci_len (l : List Int) : (ci l).length = l.length := by simp [ci]
theorem ci_set {A B : List Int} {a v : Int} {k : Nat} (hk : k = A.length) : (ci (A ++ a :: B)).set k (.val (.int .i64 v)) = ci (A ++ v :: B) := by
  subst hk
  simp [ci, List.map_append]
theorem ci_drop {A B : List Int} {a : Int} {k : Nat} (hk : k = A.length) : (ci (A ++ a :: B)).drop k = .val (.int .i64 a) :: ci B := by
  subst hk
  simp [ci, List.map_append]
theorem ci_nr (l : List Int) : ∀ c ∈ ci l, noRef c = true := fun c hc => by
  obtain ⟨n, _, rfl⟩ := List.mem_map.1 hc; rfl
theorem inner_nr (l : List Int) : noRef.noRefL (ci l) = true := by rw [noRefL_all, List.all_eq_true]; exact ci_nr l
theorem sFalling.own (l : List Int) (h : l.length ≤ 1048576) : sFalling.Own [.list none (rows Ty.int l)] (.l 3 1 ((fallF l).map Ty.int.q)) := by
  refine plain_own Ty.int (fun _ => rfl) (fun _ => rfl) 3 0 (l := fallF l) (F := [(3, 1, l.length)]) (by rw [fallF_len]; rfl) ?_
  refine sFalling.of rfl ?_
  repeat' first
    | contradiction | exact trivial
    | (conv => whnf
       first | refine Need.mk (fun h => h) ?_ | refine Need.mk rfl ?_ | refine Need.mk ⟨rfl, Nat.le_of_ble_eq_true rfl⟩ ?_ | refine Need.mk (Nat.le_of_ble_eq_true rfl) ?_ | refine Need.fin ?_ | refine Need.mk ?_ ?_ | refine Ix.strsF rfl ?_ | refine Ix.strs rfl ?_ ?_ | refine Cut.strs rfl ?_ ?_ | refine Ix.mapF (fun _ => rfl) ?_ | refine Ix.map (fun _ => rfl) ?_ ?_ | refine Cut.map (fun _ => rfl) ?_ ?_ | refine Fork.yes (by assumption) ?_ | refine Fork.no (by assumption) ?_ | refine Fork.decYes (by omega) ?_ | refine Fork.decNo (by omega) ?_ | refine Fork.dec (fun _ => ?_) (fun _ => ?_) | refine Fork.bne (fun _ => ?_) (fun _ => ?_) | refine Fork.beq (fun _ => ?_) (fun _ => ?_) | refine Fork.seq (fun _ => ?_) (fun _ => ?_) | refine Fork.sne (fun _ => ?_) (fun _ => ?_) | refine Fork.neg (fun _ => ?_) (fun _ => ?_) | refine Fork.mk (fun _ => ?_) (fun _ => ?_) | refine HAlt.mk ?_ ?_ | apply HJoin.mk3 | exact HEnd.mk rfl rfl rfl | refine HEnd.mk ?_ ?_ ?_ | refine Round.mk ?_ | refine NilQ.mk (fun b hb => ?_) | refine forceK_of ?_ | refine forceBx_of ?_ | refine unG_old ?_ | refine unG_gv ?_ | refine Lit.read rfl ?_ | refine LitO.box ?_ | refine FinVal.keep ?_ | refine FinAgg.keep ?_ | refine Final.mk rfl rfl | refine Final.mk ?_ rfl | refine Final.mk ?_ ?_ | refine FinalT.mk ?_ ?_ | refine FinalI.mk ?_ | refine FinalC.allA ?_)
    | refine AV.bool_congr ?_ | refine AV.int_congr ?_ | refine AV.str_congr ?_ | refine AV.list_congr ?_ | with_reducible rfl | refine fr1 ?_ | refine fr2 ?_ ?_
  refine ALoop.ren (Nat × List Int) (fun p => ⟨[(0, .list none (rows Ty.int l)), (3, .bsl 0 p.1), (4, .val (.int .i64 p.1))], [.cells (.row 3 1) (ci p.2)], []⟩) (fun p => p.1 ≤ l.length ∧ p.2.length = p.1 ∧ p.2.Perm (l.take p.1) ∧ Fall p.2) (fun p => l.length - p.1) ⟨(0, []), ⟨Nat.zero_le _, rfl, .refl _, .nil⟩, ?_⟩ (fun p hp => ?_)
  · refine ⟨[0], ?_, ?_, ?_, ⟨Nat.le_of_ble_eq_true rfl, rfl⟩, by decide, ?_⟩
    · repeat' first
        | exact trivial
        | refine And.intro ?_ ?_
        | with_reducible rfl
        | refine AV.int_congr ?_
        | refine AV.bool_congr ?_
        | refine AV.str_congr ?_
        | refine AV.list_congr ?_
        | (apply rfl)
    · exact ⟨⟨_, rfl, .cells _ _ rfl⟩, trivial⟩
    · rfl
    · exact ⟨⟨trivial, Nat.zero_lt_one, trivial, trivial⟩, trivial, trivial⟩
  obtain ⟨i, S⟩ := p
  obtain ⟨hi, hl, hperm, hfall⟩ := hp
  simp only at hi hl hperm
  by_cases hi' : i < l.length
  rotate_left
  · have e : i = l.length := by omega
    subst e
    rw [List.take_of_length_le (Nat.le_refl _)] at hperm
    have hS := fallF_is hperm hfall
    subst hS
    repeat' first
      | contradiction | exact trivial
      | (conv => whnf
         first | refine Need.mk (fun h => h) ?_ | refine Need.mk rfl ?_ | refine Need.mk ⟨rfl, Nat.le_of_ble_eq_true rfl⟩ ?_ | refine Need.mk (Nat.le_of_ble_eq_true rfl) ?_ | refine Need.finN ?_ | refine Need.mk ?_ ?_ | refine Ix.strsN rfl ?_ | refine Ix.strs rfl ?_ ?_ | refine Cut.strs rfl ?_ ?_ | refine Ix.mapN (fun _ => rfl) ?_ | refine Ix.map (fun _ => rfl) ?_ ?_ | refine Cut.map (fun _ => rfl) ?_ ?_ | refine Fork.yes (by assumption) ?_ | refine Fork.no (by assumption) ?_ | refine Fork.decY ?_ | refine Fork.andY ?_ | refine Fork.andN ?_ | refine Fork.decN ?_ | refine Fork.dec (fun _ => ?_) (fun _ => ?_) | refine Fork.bne (fun _ => ?_) (fun _ => ?_) | refine Fork.beq (fun _ => ?_) (fun _ => ?_) | refine Fork.seq (fun _ => ?_) (fun _ => ?_) | refine Fork.sne (fun _ => ?_) (fun _ => ?_) | refine Fork.neg (fun _ => ?_) (fun _ => ?_) | refine Fork.mk (fun _ => ?_) (fun _ => ?_) | refine HAlt.mk ?_ ?_ | apply HJoin.mk3 | exact HEnd.mk rfl rfl rfl | refine HEnd.mk ?_ ?_ ?_ | refine Round.mk ?_ | refine NilQ.mk (fun b hb => ?_) | refine forceK_of ?_ | refine forceBx_of ?_ | refine unG_old ?_ | refine unG_gv ?_ | refine Lit.read rfl ?_ | refine LitO.own rfl ?_ | refine FinVal.keep ?_ | refine FinAgg.keep ?_ | refine Final.mk rfl rfl | refine Final.mk ?_ rfl | refine Final.mk ?_ ?_ | refine FinalT.mk ?_ ?_ | refine FinalI.mk ?_ | refine FinalC.allA ?_)
      | refine AV.bool_congr ?_ | refine AV.int_congr ?_ | refine AV.str_congr ?_ | refine AV.list_congr ?_ | with_reducible rfl | refine fr1 ?_ | refine fr2 ?_ ?_
    conv => whnf
    refine FreezeD.flat (Freeze.mk (rows Ty.int (fallF l)) _ 3 1 rfl (by rw [ci_rows]) (by rw [length_rows, fallF_len]) (by rw [← tks_ints]; exact tks_sz Ty.int _ 0) (ci_nr _) ?_)
    repeat' first
      | contradiction | exact trivial
      | (conv => whnf
         first | refine Need.mk (fun h => h) ?_ | refine Need.mk rfl ?_ | refine Need.mk ⟨rfl, Nat.le_of_ble_eq_true rfl⟩ ?_ | refine Need.mk (Nat.le_of_ble_eq_true rfl) ?_ | refine Need.finN ?_ | refine Need.mk ?_ ?_ | refine Ix.strsN rfl ?_ | refine Ix.strs rfl ?_ ?_ | refine Cut.strs rfl ?_ ?_ | refine Ix.mapN (fun _ => rfl) ?_ | refine Ix.map (fun _ => rfl) ?_ ?_ | refine Cut.map (fun _ => rfl) ?_ ?_ | refine Fork.yes (by assumption) ?_ | refine Fork.no (by assumption) ?_ | refine Fork.decY ?_ | refine Fork.andY ?_ | refine Fork.andN ?_ | refine Fork.decN ?_ | refine Fork.dec (fun _ => ?_) (fun _ => ?_) | refine Fork.bne (fun _ => ?_) (fun _ => ?_) | refine Fork.beq (fun _ => ?_) (fun _ => ?_) | refine Fork.seq (fun _ => ?_) (fun _ => ?_) | refine Fork.sne (fun _ => ?_) (fun _ => ?_) | refine Fork.neg (fun _ => ?_) (fun _ => ?_) | refine Fork.mk (fun _ => ?_) (fun _ => ?_) | refine HAlt.mk ?_ ?_ | apply HJoin.mk3 | exact HEnd.mk rfl rfl rfl | refine HEnd.mk ?_ ?_ ?_ | refine Round.mk ?_ | refine NilQ.mk (fun b hb => ?_) | refine forceK_of ?_ | refine forceBx_of ?_ | refine unG_old ?_ | refine unG_gv ?_ | refine Lit.read rfl ?_ | refine LitO.own rfl ?_ | refine FinVal.keep ?_ | refine FinAgg.keep ?_ | refine Final.mk rfl rfl | refine Final.mk ?_ rfl | refine Final.mk ?_ ?_ | refine FinalT.mk ?_ ?_ | refine FinalI.mk ?_ | refine FinalC.allA ?_)
      | refine AV.bool_congr ?_ | refine AV.int_congr ?_ | refine AV.str_congr ?_ | refine AV.list_congr ?_ | with_reducible rfl | refine fr1 ?_ | refine fr2 ?_ ?_
  have hcl := ci_len S
  obtain ⟨x, hx⟩ : ∃ x, x = l.getD i default := ⟨_, rfl⟩
  have t1 : S.take i = S := List.take_of_length_le (by omega)
  have t2 : S.drop i = [] := List.drop_of_length_le (by omega)
  repeat' first
    | contradiction | exact trivial
    | (conv => whnf
       first | refine Need.mk (fun h => h) ?_ | refine Need.mk rfl ?_ | refine Need.mk ⟨rfl, Nat.le_of_ble_eq_true rfl⟩ ?_ | refine Need.mk (Nat.le_of_ble_eq_true rfl) ?_ | refine Need.finN ?_ | refine Need.mk ?_ ?_ | refine Ix.strsN rfl ?_ | refine Ix.strs rfl ?_ ?_ | refine Cut.strs rfl ?_ ?_ | refine Ix.mapN (fun _ => rfl) ?_ | refine Ix.map (fun _ => rfl) ?_ ?_ | refine Cut.map (fun _ => rfl) ?_ ?_ | refine Fork.yes (by assumption) ?_ | refine Fork.no (by assumption) ?_ | refine Fork.decY ?_ | refine Fork.andY ?_ | refine Fork.andN ?_ | refine Fork.decN ?_ | refine Fork.dec (fun _ => ?_) (fun _ => ?_) | refine Fork.bne (fun _ => ?_) (fun _ => ?_) | refine Fork.beq (fun _ => ?_) (fun _ => ?_) | refine Fork.seq (fun _ => ?_) (fun _ => ?_) | refine Fork.sne (fun _ => ?_) (fun _ => ?_) | refine Fork.neg (fun _ => ?_) (fun _ => ?_) | refine Fork.mk (fun _ => ?_) (fun _ => ?_) | refine HAlt.mk ?_ ?_ | apply HJoin.mk3 | exact HEnd.mk rfl rfl rfl | refine HEnd.mk ?_ ?_ ?_ | refine Round.mk ?_ | refine NilQ.mk (fun b hb => ?_) | refine forceK_of ?_ | refine forceBx_of ?_ | refine unG_old ?_ | refine unG_gv ?_ | refine Lit.read rfl ?_ | refine LitO.own rfl ?_ | refine FinVal.keep ?_ | refine FinAgg.keep ?_ | refine Final.mk rfl rfl | refine Final.mk ?_ rfl | refine Final.mk ?_ ?_ | refine FinalT.mk ?_ ?_ | refine FinalI.mk ?_ | refine FinalC.allA ?_)
    | refine AV.bool_congr ?_ | refine AV.int_congr ?_ | refine AV.str_congr ?_ | refine AV.list_congr ?_ | with_reducible rfl | refine fr1 ?_ | refine fr2 ?_ ?_
  · intro c hc; rw [List.mem_singleton.1 hc]; rfl
  · simp only [List.length_singleton]; omega
  refine ALoop.mk (Nat × Int) (fun q => ⟨[(0, .list none (rows Ty.int l)), (3, .bsl 1 (i + 1)), (4, .val (.int .i64 i)), (5, .val (.int .i64 q.1))], [.dead, .cells (.row 3 1) (ci (S.take q.1 ++ q.2 :: S.drop q.1))], []⟩) (fun q => q.1 ≤ i ∧ ∀ y ∈ S.drop q.1, y < x) (fun q => q.1) ⟨(i, x), ⟨Nat.le_refl _, by rw [List.drop_of_length_le (by omega)]; simp⟩, ?_⟩ (fun q hq => ?_)
  · repeat' first
      | exact trivial | refine Weak.mk ?_ ?_ ?_ ?_ (Or.inl (Nat.le_of_ble_eq_true rfl)) | refine Weak.mk ?_ ?_ ?_ ?_ (Or.inr ⟨(by repeat' first | exact trivial | exact Nat.le_of_ble_eq_true rfl | refine And.intro ?_ ?_), (by repeat' first | exact trivial | exact Nat.le_of_ble_eq_true rfl | refine And.intro ?_ ?_)⟩) | refine Weak.mk ?_ ?_ ?_ ?_ ?_ | refine And.intro ?_ ?_ | with_reducible rfl | exact Nat.le_of_ble_eq_true rfl | refine fr1 ?_ | refine fr2 ?_ ?_ | refine AV.int_congr ?_ | refine AV.bool_congr ?_ | refine AV.str_congr ?_ | refine AV.list_congr ?_ | refine AV.bsl_congr ?_ ?_ | (apply rfl)
    show [ABox.dead, ABox.cells _ (ci S ++ [AV.val (.int .i64 (l.getD ((i : Int)).toNat default))])] = [ABox.dead, ABox.cells _ (ci (S.take i ++ x :: S.drop i))]
    rw [t1, t2, Int.toNat_natCast, ← hx]
    simp [ci]
  obtain ⟨k, a⟩ := q
  obtain ⟨hk, hlt⟩ := hq
  simp only at hk hlt
  have hST : (S.take k).length = k := by rw [List.length_take]; omega
  have hfin : (∀ y ∈ S.take k, x ≤ y) → (S.take k ++ x :: S.drop k).Perm (l.take (i + 1)) ∧ Fall (S.take k ++ x :: S.drop k) := fun hge => by
    refine ⟨?_, Stb.put_in (R := fun a b : Int => b ≤ a) (by rw [List.take_append_drop]; exact hfall) (fun v hv => hge v hv) (fun v hv => by have := hlt v hv; omega)⟩
    rw [take_succ' default hi', ← hx]
    have h1 : (S.take k ++ x :: S.drop k).Perm (x :: (S.take k ++ S.drop k)) := List.perm_middle
    rw [List.take_append_drop] at h1
    refine h1.trans ?_
    refine (List.Perm.cons x hperm).trans ?_
    exact (List.perm_append_comm (l₁ := [x]) (l₂ := l.take i))
  cases k with
  | zero =>
    obtain ⟨f1, f2⟩ := hfin (by simp)
    repeat' first
      | contradiction | exact trivial
      | (conv => whnf
         first | refine Need.mk (fun h => h) ?_ | refine Need.mk rfl ?_ | refine Need.mk ⟨rfl, Nat.le_of_ble_eq_true rfl⟩ ?_ | refine Need.mk (Nat.le_of_ble_eq_true rfl) ?_ | refine Need.finN ?_ | refine Need.mk ?_ ?_ | refine Ix.strsN rfl ?_ | refine Ix.strs rfl ?_ ?_ | refine Cut.strs rfl ?_ ?_ | refine Ix.mapN (fun _ => rfl) ?_ | refine Ix.map (fun _ => rfl) ?_ ?_ | refine Cut.map (fun _ => rfl) ?_ ?_ | refine Fork.yes (by assumption) ?_ | refine Fork.no (by assumption) ?_ | refine Fork.decY ?_ | refine Fork.andY ?_ | refine Fork.andN ?_ | refine Fork.decN ?_ | refine Fork.dec (fun _ => ?_) (fun _ => ?_) | refine Fork.bne (fun _ => ?_) (fun _ => ?_) | refine Fork.beq (fun _ => ?_) (fun _ => ?_) | refine Fork.seq (fun _ => ?_) (fun _ => ?_) | refine Fork.sne (fun _ => ?_) (fun _ => ?_) | refine Fork.neg (fun _ => ?_) (fun _ => ?_) | refine Fork.mk (fun _ => ?_) (fun _ => ?_) | refine HAlt.mk ?_ ?_ | apply HJoin.mk3 | exact HEnd.mk rfl rfl rfl | refine HEnd.mk ?_ ?_ ?_ | refine Round.mk ?_ | refine NilQ.mk (fun b hb => ?_) | refine forceK_of ?_ | refine forceBx_of ?_ | refine unG_old ?_ | refine unG_gv ?_ | refine Lit.read rfl ?_ | refine LitO.own rfl ?_ | refine FinVal.keep ?_ | refine FinAgg.keep ?_ | refine Final.mk rfl rfl | refine Final.mk ?_ rfl | refine Final.mk ?_ ?_ | refine FinalT.mk ?_ ?_ | refine FinalI.mk ?_ | refine FinalC.allA ?_)
      | refine AV.bool_congr ?_ | refine AV.int_congr ?_ | refine AV.str_congr ?_ | refine AV.list_congr ?_ | with_reducible rfl | refine fr1 ?_ | refine fr2 ?_ ?_
    refine ⟨(i + 1, S.take 0 ++ x :: S.drop 0), ⟨hi', by simp; omega, f1, f2⟩, ?_, by simp; omega⟩
    refine ⟨[1], ?_, ?_, ?_, ⟨Nat.le_of_ble_eq_true rfl, rfl⟩, by decide, ?_⟩
    · repeat' first
        | exact trivial
        | refine And.intro ?_ ?_
        | with_reducible rfl
        | refine AV.int_congr ?_
        | refine AV.bool_congr ?_
        | refine AV.str_congr ?_
        | refine AV.list_congr ?_
        | (apply rfl)
      rw [wrap64 (by omega) (by omega)]; rfl
    · refine ⟨⟨.cells (.row 3 1) (ci (S.take 0 ++ x :: S.drop 0)), congrArg (fun c => some (ABox.cells (.row 3 1) c)) ?_, .cells _ _ (inner_nr _)⟩, trivial⟩
      rw [hx]
      exact ci_set (A := S.take 0) rfl
    · rfl
    · exact ⟨⟨trivial, Nat.zero_lt_one, trivial, trivial⟩, inBL_nr (inner_nr _), trivial⟩
  | succ m =>
    have hm : m < S.length := by omega
    have hw : IntKind.i64.wrap (((m + 1 : Nat) : Int) - 1) = (m : Int) := by rw [wrap64 (by omega) (by omega)]; omega
    have hw2 : (IntKind.i64.wrap (((m + 1 : Nat) : Int) - 1)).toNat * 1 = m := by rw [hw]; omega
    have htk : S.take (m + 1) = S.take m ++ [S.getD m default] := take_succ' default hm
    have hdr : S.drop m = S.getD m default :: S.drop (m + 1) := by rw [List.drop_eq_getElem_cons hm]; simp [List.getD, hm]
    have hd : (ci (S.take (m + 1) ++ a :: S.drop (m + 1))).drop ((IntKind.i64.wrap (((m + 1 : Nat) : Int) - 1)).toNat * 1) = .val (.int .i64 (S.getD m default)) :: ci (a :: S.drop (m + 1)) := by
      rw [hw2, htk, List.append_assoc]
      exact ci_drop (by rw [List.length_take]; omega)
    by_cases hc : S.getD m default < x
    · have hxx : S.getD m default < l.getD i default := hx ▸ hc
      repeat' first
        | contradiction | exact trivial
        | (conv => whnf
           first | refine Need.mk (fun h => h) ?_ | refine Need.mk rfl ?_ | refine Need.mk ⟨rfl, Nat.le_of_ble_eq_true rfl⟩ ?_ | refine Need.mk (Nat.le_of_ble_eq_true rfl) ?_ | refine Need.finN ?_ | refine Need.mk ?_ ?_ | refine Ix.strsN rfl ?_ | refine Ix.strs rfl ?_ ?_ | refine Cut.strs rfl ?_ ?_ | refine Ix.mapN (fun _ => rfl) ?_ | refine Ix.map (fun _ => rfl) ?_ ?_ | refine Cut.map (fun _ => rfl) ?_ ?_ | refine Fork.yes (by assumption) ?_ | refine Fork.no (by assumption) ?_ | refine Fork.decY ?_ | refine Fork.andY ?_ | refine Fork.andN ?_ | refine Fork.decN ?_ | refine Fork.dec (fun _ => ?_) (fun _ => ?_) | refine Fork.bne (fun _ => ?_) (fun _ => ?_) | refine Fork.beq (fun _ => ?_) (fun _ => ?_) | refine Fork.seq (fun _ => ?_) (fun _ => ?_) | refine Fork.sne (fun _ => ?_) (fun _ => ?_) | refine Fork.neg (fun _ => ?_) (fun _ => ?_) | refine Fork.mk (fun _ => ?_) (fun _ => ?_) | refine HAlt.mk ?_ ?_ | apply HJoin.mk3 | exact HEnd.mk rfl rfl rfl | refine HEnd.mk ?_ ?_ ?_ | refine Round.mk ?_ | refine NilQ.mk (fun b hb => ?_) | refine forceK_of ?_ | refine forceBx_of ?_ | refine unG_old ?_ | refine unG_gv ?_ | refine Lit.read rfl ?_ | refine LitO.own rfl ?_ | refine FinVal.keep ?_ | refine FinAgg.keep ?_ | refine Final.mk rfl rfl | refine Final.mk ?_ rfl | refine Final.mk ?_ ?_ | refine FinalT.mk ?_ ?_ | refine FinalI.mk ?_ | refine FinalC.allA ?_)
        | refine AV.bool_congr ?_ | refine AV.int_congr ?_ | refine AV.str_congr ?_ | refine AV.list_congr ?_ | with_reducible rfl | refine fr1 ?_ | refine fr2 ?_ ?_
      conv => whnf
      refine takeAV_one (n := 1) _ _ hd ?_
      repeat' first
        | contradiction | exact trivial
        | (conv => whnf
           first | refine Need.mk (fun h => h) ?_ | refine Need.mk rfl ?_ | refine Need.mk ⟨rfl, Nat.le_of_ble_eq_true rfl⟩ ?_ | refine Need.mk (Nat.le_of_ble_eq_true rfl) ?_ | refine Need.finN ?_ | refine Need.mk ?_ ?_ | refine Ix.strsN rfl ?_ | refine Ix.strs rfl ?_ ?_ | refine Cut.strs rfl ?_ ?_ | refine Ix.mapN (fun _ => rfl) ?_ | refine Ix.map (fun _ => rfl) ?_ ?_ | refine Cut.map (fun _ => rfl) ?_ ?_ | refine Fork.yes (by assumption) ?_ | refine Fork.no (by assumption) ?_ | refine Fork.decY ?_ | refine Fork.andY ?_ | refine Fork.andN ?_ | refine Fork.decN ?_ | refine Fork.dec (fun _ => ?_) (fun _ => ?_) | refine Fork.bne (fun _ => ?_) (fun _ => ?_) | refine Fork.beq (fun _ => ?_) (fun _ => ?_) | refine Fork.seq (fun _ => ?_) (fun _ => ?_) | refine Fork.sne (fun _ => ?_) (fun _ => ?_) | refine Fork.neg (fun _ => ?_) (fun _ => ?_) | refine Fork.mk (fun _ => ?_) (fun _ => ?_) | refine HAlt.mk ?_ ?_ | apply HJoin.mk3 | exact HEnd.mk rfl rfl rfl | refine HEnd.mk ?_ ?_ ?_ | refine Round.mk ?_ | refine NilQ.mk (fun b hb => ?_) | refine forceK_of ?_ | refine forceBx_of ?_ | refine unG_old ?_ | refine unG_gv ?_ | refine Lit.read rfl ?_ | refine LitO.own rfl ?_ | refine FinVal.keep ?_ | refine FinAgg.keep ?_ | refine Final.mk rfl rfl | refine Final.mk ?_ rfl | refine Final.mk ?_ ?_ | refine FinalT.mk ?_ ?_ | refine FinalI.mk ?_ | refine FinalC.allA ?_)
        | refine AV.bool_congr ?_ | refine AV.int_congr ?_ | refine AV.str_congr ?_ | refine AV.list_congr ?_ | with_reducible rfl | refine fr1 ?_ | refine fr2 ?_ ?_
      conv => whnf
      refine takeAV_one (n := 1) _ _ hd ?_
      repeat' first
        | contradiction | exact trivial
        | (conv => whnf
           first | refine Need.mk (fun h => h) ?_ | refine Need.mk rfl ?_ | refine Need.mk ⟨rfl, Nat.le_of_ble_eq_true rfl⟩ ?_ | refine Need.mk (Nat.le_of_ble_eq_true rfl) ?_ | refine Need.finN ?_ | refine Need.mk ?_ ?_ | refine Ix.strsN rfl ?_ | refine Ix.strs rfl ?_ ?_ | refine Cut.strs rfl ?_ ?_ | refine Ix.mapN (fun _ => rfl) ?_ | refine Ix.map (fun _ => rfl) ?_ ?_ | refine Cut.map (fun _ => rfl) ?_ ?_ | refine Fork.yes (by assumption) ?_ | refine Fork.no (by assumption) ?_ | refine Fork.decY ?_ | refine Fork.andY ?_ | refine Fork.andN ?_ | refine Fork.decN ?_ | refine Fork.dec (fun _ => ?_) (fun _ => ?_) | refine Fork.bne (fun _ => ?_) (fun _ => ?_) | refine Fork.beq (fun _ => ?_) (fun _ => ?_) | refine Fork.seq (fun _ => ?_) (fun _ => ?_) | refine Fork.sne (fun _ => ?_) (fun _ => ?_) | refine Fork.neg (fun _ => ?_) (fun _ => ?_) | refine Fork.mk (fun _ => ?_) (fun _ => ?_) | refine HAlt.mk ?_ ?_ | apply HJoin.mk3 | exact HEnd.mk rfl rfl rfl | refine HEnd.mk ?_ ?_ ?_ | refine Round.mk ?_ | refine NilQ.mk (fun b hb => ?_) | refine forceK_of ?_ | refine forceBx_of ?_ | refine unG_old ?_ | refine unG_gv ?_ | refine Lit.read rfl ?_ | refine LitO.own rfl ?_ | refine FinVal.keep ?_ | refine FinAgg.keep ?_ | refine Final.mk rfl rfl | refine Final.mk ?_ rfl | refine Final.mk ?_ ?_ | refine FinalT.mk ?_ ?_ | refine FinalI.mk ?_ | refine FinalC.allA ?_)
        | refine AV.bool_congr ?_ | refine AV.int_congr ?_ | refine AV.str_congr ?_ | refine AV.list_congr ?_ | with_reducible rfl | refine fr1 ?_ | refine fr2 ?_ ?_
      · refine ⟨rfl, ?_⟩
        show (((m + 1 : Nat) : Int)).toNat * 1 + 1 ≤ (ci (S.take (m + 1) ++ a :: S.drop (m + 1))).length
        rw [ci_len, List.length_append, List.length_cons, hST]; omega
      refine ⟨(m, S.getD m default), ⟨by simp only; omega, fun y hy => ?_⟩, ?_, Nat.lt_succ_self m⟩
      · simp only at hy
        rw [hdr] at hy
        rcases List.mem_cons.1 hy with rfl | hy
        · exact hc
        · exact hlt y hy
      · repeat' first
          | exact trivial | refine Weak.mk ?_ ?_ ?_ ?_ (Or.inl (Nat.le_of_ble_eq_true rfl)) | refine Weak.mk ?_ ?_ ?_ ?_ (Or.inr ⟨(by repeat' first | exact trivial | exact Nat.le_of_ble_eq_true rfl | refine And.intro ?_ ?_), (by repeat' first | exact trivial | exact Nat.le_of_ble_eq_true rfl | refine And.intro ?_ ?_)⟩) | refine Weak.mk ?_ ?_ ?_ ?_ ?_ | refine And.intro ?_ ?_ | with_reducible rfl | exact Nat.le_of_ble_eq_true rfl | refine fr1 ?_ | refine fr2 ?_ ?_ | refine AV.int_congr ?_ | refine AV.bool_congr ?_ | refine AV.str_congr ?_ | refine AV.list_congr ?_ | refine AV.bsl_congr ?_ ?_ | (apply rfl)
        · exact hw
        · show [ABox.dead, ABox.cells _ ((ci (S.take (m + 1) ++ a :: S.drop (m + 1))).set ((((m + 1 : Nat) : Int)).toNat * 1) (.val (.int .i64 (S.getD m default))))] = [ABox.dead, ABox.cells _ (ci (S.take m ++ S.getD m default :: S.drop m))]
          rw [ci_set (by rw [hST]; omega), htk, hdr, List.append_assoc]; rfl
    · have hxx : ¬ S.getD m default < l.getD i default := hx ▸ hc
      obtain ⟨f1, f2⟩ := hfin (fun y hy => by
        rw [htk] at hy
        rcases List.mem_append.1 hy with hy | hy
        · have h5 : Fall (S.take m ++ S.drop m) := by rw [List.take_append_drop]; exact hfall
          rw [hdr] at h5
          have := (List.pairwise_append.1 h5).2.2 y hy (S.getD m default) (by simp)
          omega
        · rw [List.mem_singleton.1 hy]; omega)
      repeat' first
        | contradiction | exact trivial
        | (conv => whnf
           first | refine Need.mk (fun h => h) ?_ | refine Need.mk rfl ?_ | refine Need.mk ⟨rfl, Nat.le_of_ble_eq_true rfl⟩ ?_ | refine Need.mk (Nat.le_of_ble_eq_true rfl) ?_ | refine Need.finN ?_ | refine Need.mk ?_ ?_ | refine Ix.strsN rfl ?_ | refine Ix.strs rfl ?_ ?_ | refine Cut.strs rfl ?_ ?_ | refine Ix.mapN (fun _ => rfl) ?_ | refine Ix.map (fun _ => rfl) ?_ ?_ | refine Cut.map (fun _ => rfl) ?_ ?_ | refine Fork.yes (by assumption) ?_ | refine Fork.no (by assumption) ?_ | refine Fork.decY ?_ | refine Fork.andY ?_ | refine Fork.andN ?_ | refine Fork.decN ?_ | refine Fork.dec (fun _ => ?_) (fun _ => ?_) | refine Fork.bne (fun _ => ?_) (fun _ => ?_) | refine Fork.beq (fun _ => ?_) (fun _ => ?_) | refine Fork.seq (fun _ => ?_) (fun _ => ?_) | refine Fork.sne (fun _ => ?_) (fun _ => ?_) | refine Fork.neg (fun _ => ?_) (fun _ => ?_) | refine Fork.mk (fun _ => ?_) (fun _ => ?_) | refine HAlt.mk ?_ ?_ | apply HJoin.mk3 | exact HEnd.mk rfl rfl rfl | refine HEnd.mk ?_ ?_ ?_ | refine Round.mk ?_ | refine NilQ.mk (fun b hb => ?_) | refine forceK_of ?_ | refine forceBx_of ?_ | refine unG_old ?_ | refine unG_gv ?_ | refine Lit.read rfl ?_ | refine LitO.own rfl ?_ | refine FinVal.keep ?_ | refine FinAgg.keep ?_ | refine Final.mk rfl rfl | refine Final.mk ?_ rfl | refine Final.mk ?_ ?_ | refine FinalT.mk ?_ ?_ | refine FinalI.mk ?_ | refine FinalC.allA ?_)
        | refine AV.bool_congr ?_ | refine AV.int_congr ?_ | refine AV.str_congr ?_ | refine AV.list_congr ?_ | with_reducible rfl | refine fr1 ?_ | refine fr2 ?_ ?_
      conv => whnf
      refine takeAV_one (n := 1) _ _ hd ?_
      repeat' first
        | contradiction | exact trivial
        | (conv => whnf
           first | refine Need.mk (fun h => h) ?_ | refine Need.mk rfl ?_ | refine Need.mk ⟨rfl, Nat.le_of_ble_eq_true rfl⟩ ?_ | refine Need.mk (Nat.le_of_ble_eq_true rfl) ?_ | refine Need.finN ?_ | refine Need.mk ?_ ?_ | refine Ix.strsN rfl ?_ | refine Ix.strs rfl ?_ ?_ | refine Cut.strs rfl ?_ ?_ | refine Ix.mapN (fun _ => rfl) ?_ | refine Ix.map (fun _ => rfl) ?_ ?_ | refine Cut.map (fun _ => rfl) ?_ ?_ | refine Fork.yes (by assumption) ?_ | refine Fork.no (by assumption) ?_ | refine Fork.decY ?_ | refine Fork.andY ?_ | refine Fork.andN ?_ | refine Fork.decN ?_ | refine Fork.dec (fun _ => ?_) (fun _ => ?_) | refine Fork.bne (fun _ => ?_) (fun _ => ?_) | refine Fork.beq (fun _ => ?_) (fun _ => ?_) | refine Fork.seq (fun _ => ?_) (fun _ => ?_) | refine Fork.sne (fun _ => ?_) (fun _ => ?_) | refine Fork.neg (fun _ => ?_) (fun _ => ?_) | refine Fork.mk (fun _ => ?_) (fun _ => ?_) | refine HAlt.mk ?_ ?_ | apply HJoin.mk3 | exact HEnd.mk rfl rfl rfl | refine HEnd.mk ?_ ?_ ?_ | refine Round.mk ?_ | refine NilQ.mk (fun b hb => ?_) | refine forceK_of ?_ | refine forceBx_of ?_ | refine unG_old ?_ | refine unG_gv ?_ | refine Lit.read rfl ?_ | refine LitO.own rfl ?_ | refine FinVal.keep ?_ | refine FinAgg.keep ?_ | refine Final.mk rfl rfl | refine Final.mk ?_ rfl | refine Final.mk ?_ ?_ | refine FinalT.mk ?_ ?_ | refine FinalI.mk ?_ | refine FinalC.allA ?_)
        | refine AV.bool_congr ?_ | refine AV.int_congr ?_ | refine AV.str_congr ?_ | refine AV.list_congr ?_ | with_reducible rfl | refine fr1 ?_ | refine fr2 ?_ ?_
      · refine ⟨rfl, ?_⟩
        show (((m + 1 : Nat) : Int)).toNat * 1 + 1 ≤ (ci (S.take (m + 1) ++ a :: S.drop (m + 1))).length
        rw [ci_len, List.length_append, List.length_cons, hST]; omega
      refine ⟨(i + 1, S.take (m + 1) ++ x :: S.drop (m + 1)), ⟨hi', by simp; omega, f1, f2⟩, ?_, by simp; omega⟩
      refine ⟨[1], ?_, ?_, ?_, ⟨Nat.le_of_ble_eq_true rfl, rfl⟩, by decide, ?_⟩
      · repeat' first
          | exact trivial
          | refine And.intro ?_ ?_
          | with_reducible rfl
          | refine AV.int_congr ?_
          | refine AV.bool_congr ?_
          | refine AV.str_congr ?_
          | refine AV.list_congr ?_
          | (apply rfl)
        rw [wrap64 (by omega) (by omega)]; rfl
      · refine ⟨⟨.cells (.row 3 1) (ci (S.take (m + 1) ++ x :: S.drop (m + 1))), congrArg (fun c => some (ABox.cells (.row 3 1) c)) ?_, .cells _ _ (inner_nr _)⟩, trivial⟩
        rw [hx]
        exact ci_set (by rw [hST]; simp)
      · rfl
      · exact ⟨⟨trivial, Nat.zero_lt_one, trivial, trivial⟩, inBL_nr (inner_nr _), trivial⟩
end Go.Proofs.YtplfkocigmnpmaaDoor
namespace Go.Proofs
open Go.RowKit Go.Shelf
def Tryd.sortI_ren : Go.Shelf.Ren := ⟨fun | 6 => 32 | 15 => 51 | 14 => 50 | 28 => 72 | 29 => 73 | 20 => 64 | 21 => 65 | 22 => 66 | 23 => 67 | 24 => 68 | 25 => 69 | 26 => 70 | 27 => 71 | 46 => 79 | 47 => 80 | 48 => 81 | 49 => 82 | 50 => 83 | 57 => 90 | n => n, fun | 22 => 26 | 24 => 3 | 25 => 58 | 3 => 3 | 39 => 77 | 0 => 0 | 53 => 102 | 55 => 104 | 4 => 4 | 46 => 95 | 45 => 94 | 50 => 99 | 5 => 5 | 9 => 9 | 66 => 109 | 70 => 113 | 76 => 122 | 77 => 123 | n => n, fun | n => n⟩
theorem Tryd.sortI : Go.Proofs.SlLaysF.n6 Tryd.prog Tryd.sortI_ren := {
  mixed := by kernel_rfl
  f6 := ⟨Tryd.f32.name, by decide, Tryd.func32.trans (congrArg some (by kernel_rfl))⟩
  f14 := ⟨Tryd.f50.name, by decide, Tryd.func50.trans (congrArg some (by kernel_rfl))⟩
  f15 := Tryd.func51.trans (congrArg some (by kernel_rfl))
  f20 := ⟨Tryd.f64.name, by decide, Tryd.func64.trans (congrArg some (by kernel_rfl))⟩
  f21 := ⟨Tryd.f65.name, by decide, Tryd.func65.trans (congrArg some (by kernel_rfl))⟩
  f22 := ⟨Tryd.f66.name, by decide, Tryd.func66.trans (congrArg some (by kernel_rfl))⟩
  f23 := ⟨Tryd.f67.name, by decide, Tryd.func67.trans (congrArg some (by kernel_rfl))⟩
  f24 := ⟨Tryd.f68.name, by decide, Tryd.func68.trans (congrArg some (by kernel_rfl))⟩
  f25 := ⟨Tryd.f69.name, by decide, Tryd.func69.trans (congrArg some (by kernel_rfl))⟩
  f26 := ⟨Tryd.f70.name, by decide, Tryd.func70.trans (congrArg some (by kernel_rfl))⟩
  f27 := ⟨Tryd.f71.name, by decide, Tryd.func71.trans (congrArg some (by kernel_rfl))⟩
  f28 := Tryd.func72.trans (congrArg some (by kernel_rfl))
  f29 := Tryd.func73.trans (congrArg some (by kernel_rfl))
  f46 := ⟨Tryd.f79.name, by decide, Tryd.func79.trans (congrArg some (by kernel_rfl))⟩
  f47 := Tryd.func80.trans (congrArg some (by kernel_rfl))
  f48 := Tryd.func81.trans (congrArg some (by kernel_rfl))
  f49 := ⟨Tryd.f82.name, by decide, Tryd.func82.trans (congrArg some (by kernel_rfl))⟩
  f50 := ⟨Tryd.f83.name, by decide, Tryd.func83.trans (congrArg some (by kernel_rfl))⟩
  f57 := ⟨Tryd.f90.name, by decide, Tryd.func90.trans (congrArg some (by kernel_rfl))⟩
  t0 := Tryd.underlying0
  a0 := Tryd.isAgg0
  z0 := Tryd.sizeOf0
  v0 := Tryd.zeroValue0
  t3 := Tryd.underlying3
  a3 := Tryd.isAgg3
  z3 := Tryd.sizeOf3
  v3 := Tryd.zeroValue3
  t4 := Tryd.underlying4
  a4 := Tryd.isAgg4
  z4 := Tryd.sizeOf4
  v4 := Tryd.zeroValue4
  t5 := Tryd.underlying5
  a5 := Tryd.isAgg5
  z5 := Tryd.sizeOf5
  v5 := Tryd.zeroValue5
  t9 := Tryd.underlying9
  a9 := Tryd.isAgg9
  z9 := Tryd.sizeOf9
  v9 := Tryd.zeroValue9
  t22 := Tryd.underlying26
  a22 := Tryd.isAgg26
  z22 := Tryd.sizeOf26
  v22 := Tryd.zeroValue26
  a24 := Tryd.isAgg3
  z24 := Tryd.sizeOf3
  t25 := Tryd.underlying58
  a25 := Tryd.isAgg58
  z25 := Tryd.sizeOf58
  v25 := Tryd.zeroValue58
  t39 := Tryd.underlying77
  a39 := Tryd.isAgg77
  z39 := Tryd.sizeOf77
  v39 := Tryd.zeroValue77
  t45 := Tryd.underlying94
  a45 := Tryd.isAgg94
  z45 := Tryd.sizeOf94
  v45 := Tryd.zeroValue94
  t46 := Tryd.underlying95
  a46 := Tryd.isAgg95
  z46 := Tryd.sizeOf95
  v46 := Tryd.zeroValue95
  t50 := Tryd.underlying99
  a50 := Tryd.isAgg99
  z50 := Tryd.sizeOf99
  v50 := Tryd.zeroValue99
  t53 := Tryd.underlying102
  a53 := Tryd.isAgg102
  z53 := Tryd.sizeOf102
  v53 := Tryd.zeroValue102
  t55 := Tryd.underlying104
  a55 := Tryd.isAgg104
  z55 := Tryd.sizeOf104
  v55 := Tryd.zeroValue104
  t66 := Tryd.underlying109
  a66 := Tryd.isAgg109
  z66 := Tryd.sizeOf109
  v66 := Tryd.zeroValue109
  t70 := Tryd.underlying113
  a70 := Tryd.isAgg113
  z70 := Tryd.sizeOf113
  v70 := Tryd.zeroValue113
  t76 := Tryd.underlying122
  a76 := Tryd.isAgg122
  z76 := Tryd.sizeOf122
  v76 := Tryd.zeroValue122
  t77 := Tryd.underlying123
  a77 := Tryd.isAgg123
  z77 := Tryd.sizeOf123
  v77 := Tryd.zeroValue123 }
end Go.Proofs
namespace Go.Proofs.YtplfkocigmnpmaaDoor
open Abs Go.RowKit Go.Sort Go.Lib Go.Shelf
theorem grow_of_bel9 {W w' : World} (h : Bel true W.heap.size W w') : ∃ q os', w' = grow (W.drewN q) os' := by
  refine ⟨w'.drawn - W.drawn, w'.heap.extract W.heap.size w'.heap.size, ?_⟩
  have hd := h.drawn rfl
  have hs := h.size
  have hh : w'.heap = W.heap ++ w'.heap.extract W.heap.size w'.heap.size := by
    apply Array.ext
    · simp; omega
    · intro i h1 h2
      by_cases hi : i < W.heap.size
      · rw [Array.getElem_append_left hi]
        have := h.block i hi
        rw [Array.getElem?_eq_getElem h1, Array.getElem?_eq_getElem hi] at this
        exact Option.some.inj this
      · rw [Array.getElem_append_right (by omega), Array.getElem_extract]
        congr 1; omega
  have e1 := h.os
  have e2 := h.tape
  have e3 := h.output
  cases w' with
  | mk heap tape drawn os output =>
    simp only [grow, World.drewN] at *
    rw [← hh, e1, e2, e3]
    congr 1; omega
def encI (n : Int) : Value := .int .i64 n
theorem ints_of_box {B : Nat} {w : World} {F : Nat → Nat} {box : List BId} {b cap t : Nat} {ss : List Int} (h : BoxOk B w F [] [] box (.blk b cap) (.cells (.row t 1) (ci ss))) :
    ∃ c : Array Value, w.heap[b]? = some (.cells c t (0, 0)) ∧ ss.length ≤ c.size ∧ (∀ (i : Nat) s, ss[i]? = some s → c[i]? = some (encI s)) ∧ c.size = cap ∧ cap ≤ maxLen := by
  obtain ⟨c, t', hh, hle, hr, rfl, hcs, hcm⟩ := h
  rw [ci_len] at hle
  refine ⟨c, hh, hle, fun i s hi => ?_, by omega, hcm⟩
  have hlt := getElem?_lt hi
  have hx := (hr i (.val (.int .i64 s)) (by rw [ci, List.getElem?_map, hi]; rfl)).1
  have hc : c[i]? = some (c.getD i undef) := by simp [Array.getD, show i < c.size by omega]
  rw [hc, hx.val_inv]; rfl
theorem ints_both {B : Nat} {w : World} {F : Nat → Nat} {box : List BId} (ss : List Int) : Both (Rep B w F [] [] box) (ci ss) (ss.map encI) := by
  refine ⟨by simp [ci], fun i x y hx hy => ?_⟩
  rw [ci, List.getElem?_map] at hx
  rw [List.getElem?_map] at hy
  cases hi : ss[i]? with
  | none => rw [hi] at hx; cases hx
  | some s => rw [hi] at hx hy; cases hx; cases hy; exact .val _
theorem holds_ints {w : World} {b t : Nat} {ss : List Int} {c : Array Value} (hh : w.heap[b]? = some (.cells c t (0, 0))) (hc : ∀ (i : Nat) s, ss[i]? = some s → c[i]? = some (encI s)) : Holds encI w b 0 ss.toArray := by
  intro i hi
  have hi' : i < ss.length := by simpa using hi
  have h1 := hc i _ (List.getElem?_eq_getElem hi')
  have e1 : ss.toArray[i]! = ss[i] := by simp [hi']
  rw [e1, Nat.zero_add]
  refine ⟨by rw [cell_of_row w b i c t (0, 0) hh, h1], ?_⟩
  simp [World.frozen?, hh]
theorem cmpN_neg (a b : Int) : cmpN a b < 0 ↔ a < b := by
  unfold cmpN
  split
  · simp_all
  · split <;> simp_all
theorem swo_fall : SWO (ltOf fun a b : Int => cmpN b a) := by
  have e : ∀ a b : Int, ltOf (fun a b : Int => cmpN b a) a b = decide (b < a) := fun a b => by
    unfold ltOf; rw [Bool.eq_iff_iff]; simp [cmpN_neg]
  refine ⟨fun x => by rw [e]; simp, fun x y z h1 h2 => ?_, fun x y z h1 h2 => ?_⟩
  · rw [e] at *; simp at *; omega
  · rw [e] at *; simp at *; omega
theorem slSortI.ctx (b : List ABox) (j : Nat) (ss : List Int) (hj : b[j]? = some (.cells (.row 3 1) (ci ss))) (hn : ss.length ≤ 1048576) :
    slSortI.Ctx b [.bsl j ss.length, .clo 33 [] []] (fun r b1 => r = .tup [] ∧ b1 = b.set j (.cells (.row 3 1) (ci (fallF ss)))) := by
  unfold slSortI.Ctx
  rw [Ctx_eq]
  refine ⟨by kernel_rfl, fun w F vs box0 hcond hout hbl hbi hbj hB hargs => ?_⟩
  obtain ⟨v0, v1, rfl⟩ : ∃ v0 v1, vs = #[v0, v1] := by
    have := hargs.1
    match vs, this with
    | ⟨[a, b]⟩, _ => exact ⟨a, b, rfl⟩
  obtain ⟨h0', h1⟩ := Both.cons.1 hargs
  obtain ⟨h1, _⟩ := Both.cons.1 h1
  obtain rfl : v1 = .func (.func 33) #[] #[] := by
    cases h1 with
    | clo _ _ _ vf vc e1 e2 _ _ =>
      have : vf = #[] := Array.eq_empty_of_size_eq_zero e1.symm
      have : vc = #[] := Array.eq_empty_of_size_eq_zero e2.symm
      subst_vars; rfl
  by_cases h0 : 0 < ss.length
  rotate_left
  · have hs0 : ss = [] := List.eq_nil_of_length_eq_zero (by omega)
    subst hs0
    have hnone : ∀ (p : Option Addr) (cap : Nat), v0 = .slice p 0 cap → Calls Tryd.prog 32 #[v0, .func (.func 33) #[] #[]] w fun e w' => e = .returned (.tuple #[]) ∧ w' = w := fun p cap e => by
      subst e; exact AnyF.slices_SortFunc_none { Tryd.sortI with } p cap _ w
    have hn2 : Calls Tryd.prog 32 #[v0, .func (.func 33) #[] #[]] w fun e w' => e = .returned (.tuple #[]) ∧ w' = w := by
      rcases h0'.bsl_inv with ⟨bl, cap, hb, hcap, e⟩ | ⟨hb, hz, e⟩
      · exact hnone _ _ e
      · exact hnone _ _ e
    refine hn2.mono ?_
    rintro e w' ⟨rfl, rfl⟩
    exact gpost_same hout hbl hbi hbj hB rfl (.tup [] #[] rfl (by simp)) ⟨rfl, by rw [show fallF [] = [] from List.eq_nil_of_length_eq_zero (fallF_len []), set_self hj]⟩
  rcases h0'.bsl_inv with ⟨bl, cap, hb, hcap, rfl⟩ | ⟨hb, hz, rfl⟩
  rotate_left
  · omega
  obtain ⟨c, hh, hle, hc, hcs, hcm⟩ := ints_of_box (hB j _ _ hb hj)
  have hblk := (hbi j bl cap hb).1
  have hW : ∀ (m : Nat) (os : Array Obj) (dk : Array Int), ∀ k, k < w.heap.size → k ≠ bl → (sortWorld encI w bl 0 m dk os).heap[k]? = w.heap[k]? := fun m os dk k hk hkb => by
    unfold sortWorld
    rw [heap_grow _ _ _ (by simpa using hk), heap_putRow_other _ _ _ _ _ _ hkb]; rfl
  have hWs : ∀ (m : Nat) (os : Array Obj) (dk : Array Int), w.heap.size ≤ (sortWorld encI w bl 0 m dk os).heap.size := fun m os dk => by
    unfold sortWorld; simp [grow, putRow, mapBlock, Sort.ahead]
  have hcw : ∀ (m : Nat) (os : Array Obj) (dk : Array Int), CondB (sortWorld encI w bl 0 m dk os) [] := fun m os dk p hp => by
    obtain ⟨⟨t, z, e⟩, hnb⟩ := hcond p hp
    refine ⟨⟨t, z, ?_⟩, fun j c hj => by simp at hj⟩
    rw [hW m os dk p.1 (Array.getElem?_eq_some_iff.1 e).1 (fun he => hnb j cap (he ▸ hb))]; exact e
  have hcmp : CmpLays1 Tryd.prog 33 #[] encI (fun a b : Int => cmpN b a) bl 0 ss.toArray.size w := fun m os dk _ x y => by
    have h := pgreaterFirst.ret x y
    unfold pgreaterFirst.Ret at h
    rw [Ret_eq] at h
    refine (h.2 (sortWorld encI w bl 0 m dk os) (fun _ => 0) #[encI x, encI y] (hcw m os dk) (fun _ _ => rfl) (Both.cons.2 ⟨.val _, Both.cons.2 ⟨.val _, rfl, fun i x u h => by simp at h⟩⟩)).mono ?_
    rintro e w' ⟨v, F', tok, box, rfl, hbel, _, _, _, _, _, hrep⟩
    exact ⟨by rw [hrep.val_inv], grow_of_bel9 hbel⟩
  have hcall := Any.slices_SortFunc Tryd.sortI encI (fun _ => rfl) (fun a b : Int => cmpN b a) swo_fall 33 #[] bl 0 cap ss.toArray w
    (enters_of Tryd.func33 (by kernel_rfl) rfl) hcmp (holds_ints hh hc) hblk (by simp; omega)
  simp only [List.size_toArray] at hcall
  refine hcall.mono ?_
  rintro e w' ⟨rfl, d', n, os, hp, hsd, hw⟩
  have hds : d'.size = ss.length := by simpa using hp.1
  have hS : d'.toList = fallF ss := by
    refine fallF_is ?_ ?_
    · have ex : ∀ (n : Nat) (a : Array Int), a.size = n → a.extract 0 n = a := fun n a h => by subst h; simp
      have hp2 := hp.2.2
      rw [ex _ _ (by simpa using hds), ex _ _ (by simp)] at hp2
      simpa using hp2
    · unfold Fall
      rw [List.pairwise_iff_getElem]
      intro i k hi hk hik
      simp only [Array.length_toList] at hi hk
      have h := hsd i k (Nat.zero_le _) hik (by omega)
      rw [getElem!_pos d' k hk, getElem!_pos d' i hi] at h
      have h := of_decide_eq_false h
      rw [cmpN_neg] at h
      simp only [Array.getElem_toList]
      omega
  have hh' : w'.heap[bl]? = some (.cells (putCells encI 0 d' c) 3 (0, 0)) := by
    rw [hw]
    unfold sortWorld
    rw [heap_grow _ _ _ (by simpa using hblk)]
    exact heap_putRow encI (Sort.ahead w n) bl 0 d' c _ (0, 0) hh
  have hk : ∀ k, k < w.heap.size → k ≠ bl → w'.heap[k]? = w.heap[k]? := fun k hk hkb => by rw [hw]; exact hW n os d' k hk hkb
  refine gpost_row (w' := w') (Φ := fun r b1 => r = .tup [] ∧ b1 = b.set j (.cells (.row 3 1) (ci (fallF ss)))) (v := .tuple #[]) (r := .tup []) hout hbl hbi hbj hB hb hj
    (by rw [hw]; unfold sortWorld; simp [grow, putRow, mapBlock, Sort.ahead]) (by rw [hw]; rfl) (by rw [hw]; rfl) (by rw [hw]; rfl) (by rw [hw]; exact hWs n os d') hk (fun _ => ?_) rfl (.tup [] #[] rfl (by simp)) ⟨rfl, rfl⟩
  refine boxOk_row (c := putCells encI 0 d' c) (vals := (fallF ss).map encI) (rest := c.toList.drop (fallF ss).length) hh' ?_ (ints_both _) (fun u hu => ?_) ?_ hcm
  · rw [putCells_zero _ _ _ (by omega), hS, fallF_len, hds]
  · obtain ⟨s, _, rfl⟩ := List.mem_map.1 hu; rfl
  · simp [fallF_len]; omega
theorem slCloneI.ret (l : List Int) (h : l.length ≤ 1048576) : slCloneI.Ret [.list none (rows Ty.int l)] (.list (some 0) (rows Ty.int l)) [(3, 1, l.length)] := by
  refine slCloneI.of rfl ?_
  have hrl : (rows Ty.int l).length = l.length := length_rows _ _
  repeat' first
    | contradiction | exact trivial
    | (conv => whnf
       first | refine Need.mk (fun h => h) ?_ | refine Need.mk rfl ?_ | refine Need.mk ⟨rfl, Nat.le_of_ble_eq_true rfl⟩ ?_ | refine Need.mk (Nat.le_of_ble_eq_true rfl) ?_ | refine Need.fin ?_ | refine Need.mk ?_ ?_ | refine Ix.strsF rfl ?_ | refine Ix.strs rfl ?_ ?_ | refine Cut.strs rfl ?_ ?_ | refine Ix.mapF (fun _ => rfl) ?_ | refine Ix.map (fun _ => rfl) ?_ ?_ | refine Cut.map (fun _ => rfl) ?_ ?_ | refine Fork.yes (by assumption) ?_ | refine Fork.no (by assumption) ?_ | refine Fork.decYes (by omega) ?_ | refine Fork.decNo (by omega) ?_ | refine Fork.dec (fun _ => ?_) (fun _ => ?_) | refine Fork.bne (fun _ => ?_) (fun _ => ?_) | refine Fork.beq (fun _ => ?_) (fun _ => ?_) | refine Fork.seq (fun _ => ?_) (fun _ => ?_) | refine Fork.sne (fun _ => ?_) (fun _ => ?_) | refine Fork.neg (fun _ => ?_) (fun _ => ?_) | refine Fork.mk (fun _ => ?_) (fun _ => ?_) | refine HAlt.mk ?_ ?_ | apply HJoin.mk3 | exact HEnd.mk rfl rfl rfl | refine HEnd.mk ?_ ?_ ?_ | refine Round.mk ?_ | refine NilQ.mk (fun b hb => ?_) | refine forceK_of ?_ | refine forceBx_of ?_ | refine unG_old ?_ | refine unG_gv ?_ | refine Lit.read rfl ?_ | refine LitO.own rfl ?_ | refine FinVal.nil 3 1 rfl ?_ | refine FinVal.keep ?_ | refine FinAgg.keep ?_ | refine Final.mk rfl rfl | refine Final.mk ?_ rfl | refine Final.mk ?_ ?_ | refine FinalT.mk ?_ ?_ | refine FinalI.mk ?_ | refine FinalC.allA ?_)
    | refine AV.bool_congr ?_ | refine AV.int_congr ?_ | refine AV.str_congr ?_ | refine AV.list_congr ?_ | with_reducible rfl | refine fr1 ?_ | refine fr2 ?_ ?_
  · rename_i h1
    have hl : l = [] := List.eq_nil_of_length_eq_zero (by rw [hrl] at hb; exact hb (by revert h1; cases b <;> simp))
    subst hl; rfl
  · rename_i h1
    have hl : l = [] := List.eq_nil_of_length_eq_zero (by rw [hrl] at hb; exact hb (by revert h1; cases b <;> simp))
    subst hl; rfl
  · exact rows_cut Ty.int l
  · simp only [hrl, List.length_nil]; omega
  · rfl
  · simp only [hrl, List.length_nil]; omega
def intT (l : List Int) : Tr := .l 3 1 (l.map Ty.int.q)
theorem gvLL_ints : ∀ (l : List Int) (n : Nat), gvLL (l.map Ty.int.q) n = ci l
  | [], _ => rfl
  | a :: l, n => by
    have h := gvLL_ints l n
    show gvL [Tr.v (.int .i64 a)] n ++ gvLL (l.map Ty.int.q) (n + 0) = AV.val (.int .i64 a) :: ci l
    rw [Nat.add_zero, h]; rfl
theorem gbLL_ints : ∀ (l : List Int) (n : Nat), gbLL (l.map Ty.int.q) n = []
  | [], _ => rfl
  | a :: l, n => by
    show gbL [Tr.v (.int .i64 a)] n ++ gbLL (l.map Ty.int.q) (n + 0) = []
    rw [gbLL_ints]; rfl
theorem gv_intT (l : List Int) (n : Nat) : gv (intT l) n = .bsl n l.length := by rw [intT, gv, List.length_map]
theorem gb_intT (l : List Int) (n : Nat) : gb (intT l) n = [.cells (.row 3 1) (ci l)] := by rw [intT, gb, gvLL_ints, gbLL_ints]
theorem slCloneI.own (l : List Int) (h : l.length ≤ 1048576) : slCloneI.Own [.list none (rows Ty.int l)] (intT l) :=
  plain_own Ty.int (fun _ => rfl) (fun _ => rfl) 3 0 rfl (slCloneI.ret l h)
theorem noTk_ci (l : List Int) : ∀ c ∈ ci l, noTk c = true := fun c hc => by
  obtain ⟨n, _, rfl⟩ := List.mem_map.1 hc; rfl
theorem pFalling.ret (l : List Int) (h : l.length ≤ 1048576) : pFalling.Ret [.list none (rows Ty.int l)] (.list (some 0) (rows Ty.int (fallF l))) [(3, 1, (fallF l).length)] := by
  refine pFalling.of rfl ?_
  conv => whnf
  refine ACall.unb [.list none (rows Ty.int l)] (intT l) (slCloneI.own l h) (.cons (SeesB.of0 (Sees0.olds _ _)) .nil) ?_
  rw [gv_intT, gb_intT]
  conv => whnf
  refine ACall.ctx rfl _ _ _ (slSortI.ctx [.cells (.row 3 1) (ci l)] 0 l rfl h) (.lend _ _ (noTk_ci l) .nil) (.cons (.inl ⟨rfl, rfl⟩) (.cons (.inl ⟨rfl, rfl⟩) .nil)) ?_
  rintro r b1 ⟨rfl, rfl⟩
  conv => whnf
  refine FreezeD.flat (Freeze.mk (rows Ty.int (fallF l)) (ci (fallF l)) 3 1 rfl (ci_rows _).symm (by rw [length_rows, fallF_len]) (rows_cut Ty.int _) (ci_nr _) ?_)
  · repeat' first
      | contradiction | exact trivial
      | (conv => whnf
         first | refine Need.mk (fun h => h) ?_ | refine Need.mk rfl ?_ | refine Need.mk ⟨rfl, Nat.le_of_ble_eq_true rfl⟩ ?_ | refine Need.mk (Nat.le_of_ble_eq_true rfl) ?_ | refine Need.finN ?_ | refine Need.mk ?_ ?_ | refine Ix.strsN rfl ?_ | refine Ix.strs rfl ?_ ?_ | refine Cut.strs rfl ?_ ?_ | refine Ix.mapN (fun _ => rfl) ?_ | refine Ix.map (fun _ => rfl) ?_ ?_ | refine Cut.map (fun _ => rfl) ?_ ?_ | refine Fork.yes (by assumption) ?_ | refine Fork.no (by assumption) ?_ | refine Fork.decY ?_ | refine Fork.andY ?_ | refine Fork.andN ?_ | refine Fork.decN ?_ | refine Fork.dec (fun _ => ?_) (fun _ => ?_) | refine Fork.bne (fun _ => ?_) (fun _ => ?_) | refine Fork.beq (fun _ => ?_) (fun _ => ?_) | refine Fork.seq (fun _ => ?_) (fun _ => ?_) | refine Fork.sne (fun _ => ?_) (fun _ => ?_) | refine Fork.neg (fun _ => ?_) (fun _ => ?_) | refine Fork.mk (fun _ => ?_) (fun _ => ?_) | refine HAlt.mk ?_ ?_ | apply HJoin.mk3 | exact HEnd.mk rfl rfl rfl | refine HEnd.mk ?_ ?_ ?_ | refine Round.mk ?_ | refine NilQ.mk (fun b hb => ?_) | refine forceK_of ?_ | refine forceBx_of ?_ | refine unG_old ?_ | refine unG_gv ?_ | refine Lit.read rfl ?_ | refine LitO.own rfl ?_ | refine FinVal.keep ?_ | refine FinAgg.keep ?_ | refine Final.mk rfl rfl | refine Final.mk ?_ rfl | refine Final.mk ?_ ?_ | refine FinalT.mk ?_ ?_ | refine FinalI.mk ?_ | refine FinalC.allA ?_)
      | refine AV.bool_congr ?_ | refine AV.int_congr ?_ | refine AV.str_congr ?_ | refine AV.list_congr ?_ | with_reducible rfl | refine fr1 ?_ | refine fr2 ?_ ?_
    rw [fallF_len]
theorem pFalling.own (l : List Int) (h : l.length ≤ 1048576) : pFalling.Own [.list none (rows Ty.int l)] (.l 3 1 ((fallF l).map Ty.int.q)) :=
  plain_own Ty.int (fun _ => rfl) (fun _ => rfl) 3 0 rfl (pFalling.ret l h)
end Go.Proofs.YtplfkocigmnpmaaDoor
namespace Go.Proofs
open Go.Shelf
def Tryd.laysM171_ren : Go.Shelf.Ren := ⟨fun | 171 => 34 | 243 => 53 | 246 => 75 | 283 => 84 | 284 => 85 | 285 => 86 | 286 => 87 | 129 => 73 | 317 => 91 | 318 => 92 | 319 => 93 | 320 => 94 | 337 => 95 | 338 => 96 | n => n, fun | 3 => 3 | 9 => 9 | 2 => 2 | 4 => 4 | 171 => 115 | 0 => 0 | 53 => 104 | 37 => 54 | 5 => 5 | 173 => 117 | 212 => 127 | 51 => 102 | 20 => 20 | 213 => 128 | 46 => 77 | 232 => 129 | 233 => 130 | n => n, fun | 17 => 0 | 18 => 2 | 19 => 3 | n => n⟩
theorem Tryd.laysM171 : Go.Proofs.LaysM.n171 Tryd.prog Tryd.laysM171_ren := {
  mixed := by kernel_rfl
  f129 := Tryd.func73.trans (congrArg some (by kernel_rfl))
  f171 := Tryd.func34.trans (congrArg some (by kernel_rfl))
  f243 := Tryd.func53.trans (congrArg some (by kernel_rfl))
  f246 := Tryd.func75.trans (congrArg some (by kernel_rfl))
  f283 := Tryd.func84.trans (congrArg some (by kernel_rfl))
  f284 := Tryd.func85.trans (congrArg some (by kernel_rfl))
  f285 := Tryd.func86.trans (congrArg some (by kernel_rfl))
  f286 := Tryd.func87.trans (congrArg some (by kernel_rfl))
  f317 := Tryd.func91.trans (congrArg some (by kernel_rfl))
  f318 := Tryd.func92.trans (congrArg some (by kernel_rfl))
  f319 := Tryd.func93.trans (congrArg some (by kernel_rfl))
  f320 := Tryd.func94.trans (congrArg some (by kernel_rfl))
  f337 := Tryd.func95.trans (congrArg some (by kernel_rfl))
  f338 := Tryd.func96.trans (congrArg some (by kernel_rfl))
  t0 := Tryd.underlying0
  a0 := Tryd.isAgg0
  z0 := Tryd.sizeOf0
  v0 := Tryd.zeroValue0
  t2 := Tryd.underlying2
  a2 := Tryd.isAgg2
  z2 := Tryd.sizeOf2
  v2 := Tryd.zeroValue2
  t3 := Tryd.underlying3
  a3 := Tryd.isAgg3
  z3 := Tryd.sizeOf3
  v3 := Tryd.zeroValue3
  t4 := Tryd.underlying4
  a4 := Tryd.isAgg4
  z4 := Tryd.sizeOf4
  v4 := Tryd.zeroValue4
  t5 := Tryd.underlying5
  a5 := Tryd.isAgg5
  z5 := Tryd.sizeOf5
  v5 := Tryd.zeroValue5
  t9 := Tryd.underlying9
  a9 := Tryd.isAgg9
  z9 := Tryd.sizeOf9
  v9 := Tryd.zeroValue9
  t20 := Tryd.underlying20
  a20 := Tryd.isAgg20
  z20 := Tryd.sizeOf20
  v20 := Tryd.zeroValue20
  t37 := Tryd.underlying54
  a37 := Tryd.isAgg54
  z37 := Tryd.sizeOf54
  v37 := Tryd.zeroValue54
  t46 := Tryd.underlying77
  a46 := Tryd.isAgg77
  z46 := Tryd.sizeOf77
  v46 := Tryd.zeroValue77
  t51 := Tryd.underlying102
  a51 := Tryd.isAgg102
  z51 := Tryd.sizeOf102
  v51 := Tryd.zeroValue102
  t53 := Tryd.underlying104
  a53 := Tryd.isAgg104
  z53 := Tryd.sizeOf104
  v53 := Tryd.zeroValue104
  t171 := Tryd.underlying115
  a171 := Tryd.isAgg115
  z171 := Tryd.sizeOf115
  v171 := Tryd.zeroValue115
  t173 := Tryd.underlying117
  a173 := Tryd.isAgg117
  z173 := Tryd.sizeOf117
  v173 := Tryd.zeroValue117
  t212 := Tryd.underlying127
  a212 := Tryd.isAgg127
  z212 := Tryd.sizeOf127
  v212 := Tryd.zeroValue127
  t213 := Tryd.underlying128
  a213 := Tryd.isAgg128
  z213 := Tryd.sizeOf128
  t232 := Tryd.underlying129
  a232 := Tryd.isAgg129
  z232 := Tryd.sizeOf129
  v232 := Tryd.zeroValue129
  t233 := Tryd.underlying130
  a233 := Tryd.isAgg130
  z233 := Tryd.sizeOf130
  v233 := Tryd.zeroValue130
  g17 := by kernel_rfl
  g18 := by kernel_rfl
  g19 := by kernel_rfl
  i0 := by kernel_rfl
  i2 := by kernel_rfl
  i3 := by kernel_rfl
  i4 := by kernel_rfl
  i5 := by kernel_rfl
  i9 := by kernel_rfl
  i20 := by kernel_rfl
  i37 := by kernel_rfl
  i46 := by kernel_rfl
  i51 := by kernel_rfl
  i53 := by kernel_rfl
  i171 := by kernel_rfl
  i173 := by kernel_rfl
  i212 := by kernel_rfl
  i232 := by kernel_rfl
  i233 := by kernel_rfl
  m17 := by kernel_rfl
  m18 := by kernel_rfl
  m19 := by kernel_rfl }
open Go.RowKit Go.Sort Go.Lib in
theorem Tryd.strconv_Itoa (n : Int) (h0 : -9223372036854775808 ≤ n) (h1 : n ≤ 9223372036854775807) (w : World) (htab : Lib.TabIs Tryd.prog w "internal/strconv.uint64pow10" .u64 Lib.pow10Tab) :
    Calls Tryd.prog 34 #[.int .i64 n] w fun e w' => e = .returned (.string ⟨(Lib.itoa n).toArray⟩) ∧ ∃ k os, w' = grow (w.drewN k) os := Any.strconv_Itoa Tryd.laysM171 n h0 h1 w htab
end Go.Proofs
namespace Go.Proofs.YtplfkocigmnpmaaDoor
open Abs
variable {mo : Bool}
theorem fmt_dec (n : Nat) : Lib.decDigits n = fmt n := by
  induction n using Nat.strongRecOn with
  | _ n ih =>
    rw [Lib.decDigits, fmt]
    split
    · rfl
    · rw [ih _ (by omega)]
theorem fmt_len (k : Nat) : ∀ n : Nat, n < 10 ^ (k + 1) → (fmt n).length ≤ k + 1 := by
  induction k with
  | zero => intro n h; rw [fmt_small (by simpa using h)]; simp
  | succ k ih =>
    intro n h
    by_cases h10 : n < 10
    · rw [fmt_small h10]; simp
    · rw [fmt_big (by omega), List.length_append]
      have := ih (n / 10) (by rw [Nat.pow_succ] at h; omega)
      simp only [List.length_cons, List.length_nil]; omega
theorem itoa_nat (n : Nat) : Lib.itoa (n : Int) = fmt n := by
  unfold Lib.itoa
  rw [if_neg (by omega), fmt_dec]; rfl
theorem itoa_neg {n : Int} (h : n < 0) : Lib.itoa n = 45 :: fmt (-n).toNat := by
  unfold Lib.itoa
  rw [if_pos h, fmt_dec]
  congr 2
  omega
theorem itoa_len {n : Int} (h0 : -9223372036854775808 ≤ n) (h1 : n ≤ 9223372036854775807) : (Lib.itoa n).length ≤ 20 := by
  by_cases h : n < 0
  · rw [itoa_neg h, List.length_cons]
    have := fmt_len 18 (-n).toNat (by omega)
    omega
  · obtain ⟨m, rfl⟩ : ∃ m : Nat, n = m := ⟨n.toNat, by omega⟩
    rw [itoa_nat]
    have := fmt_len 18 m (by omega)
    omega
theorem below_grow {B : Nat} {a w : World} (h : Go.RowKit.Below B a w) (hB : B ≤ w.heap.size) (os : Array Obj) : Go.RowKit.Below B a (Sort.grow w os) :=
  h.trans ⟨rfl, rfl, rfl, by simp [Sort.grow], fun k hk => by simp only [Sort.grow]; rw [Array.getElem?_append_left (by omega)]⟩
theorem tab_pow {w : World} {box : List BId} (h : CondB w box) : Lib.TabIs Tryd.prog w "internal/strconv.uint64pow10" .u64 Lib.pow10Tab := by
  obtain ⟨⟨t, m, h1⟩, _⟩ := h _ (List.mem_singleton.2 rfl)
  unfold Lib.TabIs World.var?
  rw [show Tryd.prog.globalNamed "internal/strconv.uint64pow10" = some 0 by kernel_rfl]
  simp only [Option.bind_some, h1]
theorem libItoa.ret (n : Int) (h0 : -9223372036854775808 ≤ n) (h1 : n ≤ 9223372036854775807) : Abs.Ret mo Tryd.prog 34 [.val (.int .i64 n)] (.str (Lib.itoa n)) [] := by
  rw [Ret_eq]
  refine ⟨by kernel_rfl, fun w F vs hcond hout hB => ?_⟩
  obtain ⟨v0, rfl⟩ : ∃ v0, vs = #[v0] := by
    have := hB.1
    match vs, this with
    | ⟨[a]⟩, _ => exact ⟨a, rfl⟩
  obtain ⟨h2, _⟩ := Both.cons.1 hB
  cases h2
  refine (Tryd.strconv_Itoa n h0 h1 w (tab_pow hcond)).mono ?_
  rintro e w' ⟨rfl, k, os, rfl⟩
  refine ⟨_, F, [], [], rfl, ⟨below_grow (below_drewN (Go.RowKit.Below.refl _ _) k) (Nat.le_refl _) os, fun _ => Nat.le_add_right _ _⟩, fun _ _ => rfl, fun b h => hout b (Nat.le_trans (by simp [Sort.grow, World.drewN]) h), rfl, by simp, by simp, .str _⟩
theorem sFormatInt.nat (n : Nat) (h : n ≤ 9223372036854775807) : sFormatInt.Ret [.val (.int .i64 n)] (.str (fmt n)) [] := by
  refine sFormatInt.ofS rfl rfl ?_
  repeat' first
    | contradiction | exact trivial
    | (conv => whnf
       first | refine Need.mk (fun h => h) ?_ | refine Need.mk rfl ?_ | refine Need.mk ⟨rfl, Nat.le_of_ble_eq_true rfl⟩ ?_ | refine Need.mk (Nat.le_of_ble_eq_true rfl) ?_ | refine Need.fin ?_ | refine Need.mk ?_ ?_ | refine Ix.strsF rfl ?_ | refine Ix.strs rfl ?_ ?_ | refine Cut.strs rfl ?_ ?_ | refine Ix.mapF (fun _ => rfl) ?_ | refine Ix.map (fun _ => rfl) ?_ ?_ | refine Cut.map (fun _ => rfl) ?_ ?_ | refine Fork.yes (by assumption) ?_ | refine Fork.no (by assumption) ?_ | refine Fork.decYes (by omega) ?_ | refine Fork.decNo (by omega) ?_ | refine Fork.dec (fun _ => ?_) (fun _ => ?_) | refine Fork.bne (fun _ => ?_) (fun _ => ?_) | refine Fork.beq (fun _ => ?_) (fun _ => ?_) | refine Fork.seq (fun _ => ?_) (fun _ => ?_) | refine Fork.sne (fun _ => ?_) (fun _ => ?_) | refine Fork.neg (fun _ => ?_) (fun _ => ?_) | refine Fork.mk (fun _ => ?_) (fun _ => ?_) | refine HAlt.mk ?_ ?_ | apply HJoin.mk3 | exact HEnd.mk rfl rfl rfl | refine HEnd.mk ?_ ?_ ?_ | refine Round.mk ?_ | refine NilQ.mk (fun b hb => ?_) | refine forceK_of ?_ | refine forceBx_of ?_ | refine unG_old ?_ | refine unG_gv ?_ | refine Lit.read rfl ?_ | refine LitO.own rfl ?_ | refine FinVal.keep ?_ | refine FinAgg.keep ?_ | refine Final.mk rfl rfl | refine Final.mk ?_ rfl | refine Final.mk ?_ ?_ | refine FinalT.mk ?_ ?_ | refine FinalI.mk ?_ | refine FinalC.allA ?_)
    | refine AV.bool_congr ?_ | refine AV.int_congr ?_ | refine AV.str_congr ?_ | refine AV.list_congr ?_ | with_reducible rfl | refine fr1 ?_ | refine fr2 ?_ ?_
  refine ALoop.mk (Nat × Str × Fr) (fun a => ⟨[(0, .val (.int .i64 a.1)), (3, .str a.2.1)], [], a.2.2⟩) (fun a => fmt a.1 ++ a.2.1 = fmt n ∧ a.1 ≤ 9223372036854775807) (fun a => a.1) ⟨(n, [], []), ⟨by simp, h⟩, ?_⟩ (fun a ha => ?_)
  · repeat' first
      | exact trivial | refine Weak.mk ?_ ?_ ?_ ?_ (Or.inl (Nat.le_of_ble_eq_true rfl)) | refine Weak.mk ?_ ?_ ?_ ?_ (Or.inr ⟨(by repeat' first | exact trivial | exact Nat.le_of_ble_eq_true rfl | refine And.intro ?_ ?_), (by repeat' first | exact trivial | exact Nat.le_of_ble_eq_true rfl | refine And.intro ?_ ?_)⟩) | refine Weak.mk ?_ ?_ ?_ ?_ ?_ | refine And.intro ?_ ?_ | with_reducible rfl | exact Nat.le_of_ble_eq_true rfl | refine fr1 ?_ | refine fr2 ?_ ?_ | refine AV.int_congr ?_ | refine AV.bool_congr ?_ | refine AV.str_congr ?_ | refine AV.list_congr ?_ | refine AV.bsl_congr ?_ ?_ | (apply rfl)
  repeat' first
    | contradiction | exact trivial
    | (conv => whnf
       first | refine Need.mk (fun h => h) ?_ | refine Need.mk rfl ?_ | refine Need.mk ⟨rfl, Nat.le_of_ble_eq_true rfl⟩ ?_ | refine Need.mk (Nat.le_of_ble_eq_true rfl) ?_ | refine Need.fin ?_ | refine Need.mk ?_ ?_ | refine Ix.strsF rfl ?_ | refine Ix.strs rfl ?_ ?_ | refine Cut.strs rfl ?_ ?_ | refine Ix.mapF (fun _ => rfl) ?_ | refine Ix.map (fun _ => rfl) ?_ ?_ | refine Cut.map (fun _ => rfl) ?_ ?_ | refine Fork.yes (by assumption) ?_ | refine Fork.no (by assumption) ?_ | refine Fork.decYes (by omega) ?_ | refine Fork.decNo (by omega) ?_ | refine Fork.dec (fun _ => ?_) (fun _ => ?_) | refine Fork.bne (fun _ => ?_) (fun _ => ?_) | refine Fork.beq (fun _ => ?_) (fun _ => ?_) | refine Fork.seq (fun _ => ?_) (fun _ => ?_) | refine Fork.sne (fun _ => ?_) (fun _ => ?_) | refine Fork.neg (fun _ => ?_) (fun _ => ?_) | refine Fork.mk (fun _ => ?_) (fun _ => ?_) | refine HAlt.mk ?_ ?_ | apply HJoin.mk3 | exact HEnd.mk rfl rfl rfl | refine HEnd.mk ?_ ?_ ?_ | refine Round.mk ?_ | refine NilQ.mk (fun b hb => ?_) | refine forceK_of ?_ | refine forceBx_of ?_ | refine unG_old ?_ | refine unG_gv ?_ | refine Lit.read rfl ?_ | refine LitO.own rfl ?_ | refine FinVal.keep ?_ | refine FinAgg.keep ?_ | refine Final.mk rfl rfl | refine Final.mk ?_ rfl | refine Final.mk ?_ ?_ | refine FinalT.mk ?_ ?_ | refine FinalI.mk ?_ | refine FinalC.allA ?_)
    | refine AV.bool_congr ?_ | refine AV.int_congr ?_ | refine AV.str_congr ?_ | refine AV.list_congr ?_ | with_reducible rfl | refine fr1 ?_ | refine fr2 ?_ ?_
  conv => whnf
  have hd : (↑a.1 : Int).tmod 10 = (a.1 % 10 : Nat) := by rw [Int.tmod_eq_emod_of_nonneg (by omega)]; omega
  have hq : IntKind.i64.wrap ((↑a.1 : Int).tdiv 10) = (a.1 / 10 : Nat) := by rw [Int.tdiv_eq_ediv_of_nonneg (by omega), wrap64 (by omega) (by omega)]; omega
  have hl : a.2.1.length ≤ 20 := by
    have h1 := congrArg List.length ha.1
    have h2 := fmt_len 18 n (by omega)
    rw [List.length_append] at h1
    omega
  refine Bytes.mk [UInt8.ofNat (48 + a.1 % 10)] ?_ ?_
  · rw [hd, wrap64 (by omega) (by omega)]
    simp only [List.map_cons, List.map_nil, byteCell]
    rw [Go.IntWalk.u8_in _ ⟨by omega, by omega⟩]
    congr 4
    simp
    omega
  repeat' first
    | contradiction | exact trivial
    | (conv => whnf
       first | refine Need.mk (fun h => h) ?_ | refine Need.mk rfl ?_ | refine Need.mk ⟨rfl, Nat.le_of_ble_eq_true rfl⟩ ?_ | refine Need.mk (Nat.le_of_ble_eq_true rfl) ?_ | refine Need.fin ?_ | refine Need.mk ?_ ?_ | refine Ix.strsF rfl ?_ | refine Ix.strs rfl ?_ ?_ | refine Cut.strs rfl ?_ ?_ | refine Ix.mapF (fun _ => rfl) ?_ | refine Ix.map (fun _ => rfl) ?_ ?_ | refine Cut.map (fun _ => rfl) ?_ ?_ | refine Fork.yes (by assumption) ?_ | refine Fork.no (by assumption) ?_ | refine Fork.decYes (by omega) ?_ | refine Fork.decNo (by omega) ?_ | refine Fork.dec (fun _ => ?_) (fun _ => ?_) | refine Fork.bne (fun _ => ?_) (fun _ => ?_) | refine Fork.beq (fun _ => ?_) (fun _ => ?_) | refine Fork.seq (fun _ => ?_) (fun _ => ?_) | refine Fork.sne (fun _ => ?_) (fun _ => ?_) | refine Fork.neg (fun _ => ?_) (fun _ => ?_) | refine Fork.mk (fun _ => ?_) (fun _ => ?_) | refine HAlt.mk ?_ ?_ | apply HJoin.mk3 | exact HEnd.mk rfl rfl rfl | refine HEnd.mk ?_ ?_ ?_ | refine Round.mk ?_ | refine NilQ.mk (fun b hb => ?_) | refine forceK_of ?_ | refine forceBx_of ?_ | refine unG_old ?_ | refine unG_gv ?_ | refine Lit.read rfl ?_ | refine LitO.own rfl ?_ | refine FinVal.keep ?_ | refine FinAgg.keep ?_ | refine Final.mk rfl rfl | refine Final.mk ?_ rfl | refine Final.mk ?_ ?_ | refine FinalT.mk ?_ ?_ | refine FinalI.mk ?_ | refine FinalC.allA ?_)
    | refine AV.bool_congr ?_ | refine AV.int_congr ?_ | refine AV.str_congr ?_ | refine AV.list_congr ?_ | with_reducible rfl | refine fr1 ?_ | refine fr2 ?_ ?_
  · simp only [List.length_cons, List.length_nil]; omega
  · rename_i h1
    rw [hq] at h1
    rw [← ha.1, fmt_small (by omega)]
    have : a.1 % 10 = a.1 := by omega
    rw [this]
  · rename_i h1
    rw [hq] at h1
    refine ⟨(a.1 / 10, [UInt8.ofNat (48 + a.1 % 10)] ++ a.2.1, a.2.2 ++ [(5, 1, 1)]), ⟨?_, by show a.1 / 10 ≤ 9223372036854775807; omega⟩, ?_, by show a.1 / 10 < a.1; omega⟩
    · rw [← ha.1, fmt_big (n := a.1) (by omega), List.append_assoc]
    · repeat' first
        | exact trivial | refine Weak.mk ?_ ?_ ?_ ?_ (Or.inl (Nat.le_of_ble_eq_true rfl)) | refine Weak.mk ?_ ?_ ?_ ?_ (Or.inr ⟨(by repeat' first | exact trivial | exact Nat.le_of_ble_eq_true rfl | refine And.intro ?_ ?_), (by repeat' first | exact trivial | exact Nat.le_of_ble_eq_true rfl | refine And.intro ?_ ?_)⟩) | refine Weak.mk ?_ ?_ ?_ ?_ ?_ | refine And.intro ?_ ?_ | with_reducible rfl | exact Nat.le_of_ble_eq_true rfl | refine fr1 ?_ | refine fr2 ?_ ?_ | refine AV.int_congr ?_ | refine AV.bool_congr ?_ | refine AV.str_congr ?_ | refine AV.list_congr ?_ | refine AV.bsl_congr ?_ ?_ | (apply rfl)
      exact hq
theorem itoa_least : Lib.itoa (-9223372036854775808) = [45, 57, 50, 50, 51, 51, 55, 50, 48, 51, 54, 56, 53, 52, 55, 55, 53, 56, 48, 56] := by
  rw [itoa_neg (by decide)]
  have h := fmt_of_isNum (s := [57, 50, 50, 51, 51, 55, 50, 48, 51, 54, 56, 53, 52, 55, 55, 53, 56, 48, 56]) (by decide +kernel)
  rw [show (- -9223372036854775808 : Int).toNat = valA 0 [57, 50, 50, 51, 51, 55, 50, 48, 51, 54, 56, 53, 52, 55, 55, 53, 56, 48, 56] by decide +kernel, h]
theorem sFormatInt.all (n : Int) (h0 : -9223372036854775808 ≤ n) (h1 : n ≤ 9223372036854775807) : sFormatInt.Ret [.val (.int .i64 n)] (.str (Lib.itoa n)) [] := by
  by_cases hn : 0 ≤ n
  · obtain ⟨m, rfl⟩ : ∃ m : Nat, n = m := ⟨n.toNat, by omega⟩
    rw [itoa_nat]
    exact sFormatInt.nat m (by omega)
  · by_cases hm : n = -9223372036854775808
    · subst hm
      rw [itoa_least]
      refine sFormatInt.ofS rfl rfl ?_
      repeat' first
        | contradiction | exact trivial
        | (conv => whnf
           first | refine Need.mk (fun h => h) ?_ | refine Need.mk rfl ?_ | refine Need.mk ⟨rfl, Nat.le_of_ble_eq_true rfl⟩ ?_ | refine Need.mk (Nat.le_of_ble_eq_true rfl) ?_ | refine Need.fin ?_ | refine Need.mk ?_ ?_ | refine Ix.strsF rfl ?_ | refine Ix.strs rfl ?_ ?_ | refine Cut.strs rfl ?_ ?_ | refine Ix.mapF (fun _ => rfl) ?_ | refine Ix.map (fun _ => rfl) ?_ ?_ | refine Cut.map (fun _ => rfl) ?_ ?_ | refine Fork.yes (by assumption) ?_ | refine Fork.no (by assumption) ?_ | refine Fork.decYes (by omega) ?_ | refine Fork.decNo (by omega) ?_ | refine Fork.dec (fun _ => ?_) (fun _ => ?_) | refine Fork.bne (fun _ => ?_) (fun _ => ?_) | refine Fork.beq (fun _ => ?_) (fun _ => ?_) | refine Fork.seq (fun _ => ?_) (fun _ => ?_) | refine Fork.sne (fun _ => ?_) (fun _ => ?_) | refine Fork.neg (fun _ => ?_) (fun _ => ?_) | refine Fork.mk (fun _ => ?_) (fun _ => ?_) | refine HAlt.mk ?_ ?_ | apply HJoin.mk3 | exact HEnd.mk rfl rfl rfl | refine HEnd.mk ?_ ?_ ?_ | refine Round.mk ?_ | refine NilQ.mk (fun b hb => ?_) | refine forceK_of ?_ | refine forceBx_of ?_ | refine unG_old ?_ | refine unG_gv ?_ | refine Lit.read rfl ?_ | refine LitO.own rfl ?_ | refine FinVal.keep ?_ | refine FinAgg.keep ?_ | refine Final.mk rfl rfl | refine Final.mk ?_ rfl | refine Final.mk ?_ ?_ | refine FinalT.mk ?_ ?_ | refine FinalI.mk ?_ | refine FinalC.allA ?_)
        | refine AV.bool_congr ?_ | refine AV.int_congr ?_ | refine AV.str_congr ?_ | refine AV.list_congr ?_ | with_reducible rfl | refine fr1 ?_ | refine fr2 ?_ ?_
    · have hc := sFormatInt.nat (-n).toNat (by omega)
      have he : (((-n).toNat : Nat) : Int) = -n := by omega
      rw [he] at hc
      have hc' : sFormatInt.Ret [.val (.int .i64 (IntKind.i64.wrap (-n)))] (.str (fmt (-n).toNat)) [] := by rw [wrap64 (x := -n) (by omega) (by omega)]; exact hc
      have hl := itoa_len h0 h1
      rw [itoa_neg (by omega)] at hl ⊢
      rw [List.length_cons] at hl
      refine sFormatInt.ofS rfl rfl ?_
      repeat' first
        | contradiction | exact trivial
        | (conv => whnf
           first | refine Need.mk (fun h => h) ?_ | refine Need.mk rfl ?_ | refine Need.mk ⟨rfl, Nat.le_of_ble_eq_true rfl⟩ ?_ | refine Need.mk (Nat.le_of_ble_eq_true rfl) ?_ | refine Need.fin ?_ | refine Need.mk ?_ ?_ | refine Ix.strsF rfl ?_ | refine Ix.strs rfl ?_ ?_ | refine Cut.strs rfl ?_ ?_ | refine Ix.mapF (fun _ => rfl) ?_ | refine Ix.map (fun _ => rfl) ?_ ?_ | refine Cut.map (fun _ => rfl) ?_ ?_ | refine Fork.yes (by assumption) ?_ | refine Fork.no (by assumption) ?_ | refine Fork.decYes (by omega) ?_ | refine Fork.decNo (by omega) ?_ | refine Fork.dec (fun _ => ?_) (fun _ => ?_) | refine Fork.bne (fun _ => ?_) (fun _ => ?_) | refine Fork.beq (fun _ => ?_) (fun _ => ?_) | refine Fork.seq (fun _ => ?_) (fun _ => ?_) | refine Fork.sne (fun _ => ?_) (fun _ => ?_) | refine Fork.neg (fun _ => ?_) (fun _ => ?_) | refine Fork.mk (fun _ => ?_) (fun _ => ?_) | refine HAlt.mk ?_ ?_ | apply HJoin.mk3 | exact HEnd.mk rfl rfl rfl | refine HEnd.mk ?_ ?_ ?_ | refine Round.mk ?_ | refine NilQ.mk (fun b hb => ?_) | refine forceK_of ?_ | refine forceBx_of ?_ | refine unG_old ?_ | refine unG_gv ?_ | refine Lit.read rfl ?_ | refine LitO.own rfl ?_ | refine FinVal.keep ?_ | refine FinAgg.keep ?_ | refine Final.mk rfl rfl | refine Final.mk ?_ rfl | refine Final.mk ?_ ?_ | refine FinalT.mk ?_ ?_ | refine FinalI.mk ?_ | refine FinalC.allA ?_ | refine ACall.scalA _ _ (hc') rfl ?_ | refine AQCall.mkA _ _ (fun hg => hc') rfl ?_ | refine AGCall.mkA _ _ (fun hg => hc') rfl ?_)
        | refine AV.bool_congr ?_ | refine AV.int_congr ?_ | refine AV.str_congr ?_ | refine AV.list_congr ?_ | with_reducible rfl | refine fr1 ?_ | refine fr2 ?_ ?_
      show 1 + _ ≤ 1099511627776
      omega
theorem pFormatInt.all (n : Int) (h0 : -9223372036854775808 ≤ n) (h1 : n ≤ 9223372036854775807) : pFormatInt.Ret [.val (.int .i64 n)] (.str (Lib.itoa n)) [] := by
  refine pFormatInt.ofS rfl rfl ?_
  repeat' first
    | contradiction | exact trivial
    | (conv => whnf
       first | refine Need.mk (fun h => h) ?_ | refine Need.mk rfl ?_ | refine Need.mk ⟨rfl, Nat.le_of_ble_eq_true rfl⟩ ?_ | refine Need.mk (Nat.le_of_ble_eq_true rfl) ?_ | refine Need.fin ?_ | refine Need.mk ?_ ?_ | refine Ix.strsF rfl ?_ | refine Ix.strs rfl ?_ ?_ | refine Cut.strs rfl ?_ ?_ | refine Ix.mapF (fun _ => rfl) ?_ | refine Ix.map (fun _ => rfl) ?_ ?_ | refine Cut.map (fun _ => rfl) ?_ ?_ | refine Fork.yes (by assumption) ?_ | refine Fork.no (by assumption) ?_ | refine Fork.decYes (by omega) ?_ | refine Fork.decNo (by omega) ?_ | refine Fork.dec (fun _ => ?_) (fun _ => ?_) | refine Fork.bne (fun _ => ?_) (fun _ => ?_) | refine Fork.beq (fun _ => ?_) (fun _ => ?_) | refine Fork.seq (fun _ => ?_) (fun _ => ?_) | refine Fork.sne (fun _ => ?_) (fun _ => ?_) | refine Fork.neg (fun _ => ?_) (fun _ => ?_) | refine Fork.mk (fun _ => ?_) (fun _ => ?_) | refine HAlt.mk ?_ ?_ | apply HJoin.mk3 | exact HEnd.mk rfl rfl rfl | refine HEnd.mk ?_ ?_ ?_ | refine Round.mk ?_ | refine NilQ.mk (fun b hb => ?_) | refine forceK_of ?_ | refine forceBx_of ?_ | refine unG_old ?_ | refine unG_gv ?_ | refine Lit.read rfl ?_ | refine LitO.own rfl ?_ | refine FinVal.keep ?_ | refine FinAgg.keep ?_ | refine Final.mk rfl rfl | refine Final.mk ?_ rfl | refine Final.mk ?_ ?_ | refine FinalT.mk ?_ ?_ | refine FinalI.mk ?_ | refine FinalC.allA ?_ | refine ACall.scalA _ _ (libItoa.ret _ ?_ ?_) rfl ?_ | refine AQCall.mkA _ _ (fun hg => libItoa.ret _ ?_ ?_) rfl ?_ | refine AGCall.mkA _ _ (fun hg => libItoa.ret _ ?_ ?_) rfl ?_)
    | refine AV.bool_congr ?_ | refine AV.int_congr ?_ | refine AV.str_congr ?_ | refine AV.list_congr ?_ | with_reducible rfl | refine fr1 ?_ | refine fr2 ?_ ?_
  · exact h0
  · exact h1
end Go.Proofs.YtplfkocigmnpmaaDoor
namespace Go.Proofs.YtplfkocigmnpmaaDoor
open Abs Go.RowKit
abbrev inI (n : Int) : Prop := -9223372036854775808 ≤ n ∧ n ≤ 9223372036854775807
def numsF (l : List Int) : List Str := (fallF l).map Lib.itoa
def chlF (x : VChoice) : Str := if fmtM x.1 == [] then [] else fmtM x.1 ++ [32, 40] ++ Lib.itoa x.2.1 ++ [59, 32] ++ jn [44] (numsF x.2.2.1) ++ [59, 32] ++ Lib.itoa x.2.2.2.1 ++ [41]
theorem numsF_len (l : List Int) : (numsF l).length = l.length := by rw [numsF, List.length_map, fallF_len]
theorem nums_bd {l : List Int} (h : ∀ n ∈ l, inI n) : ∀ n ∈ fallF l, inI n := fun n hn => h n ((fallF_perm l).mem_iff.1 hn)
theorem nums_sz : ∀ {l : List Int}, (∀ n ∈ l, inI n) → listSize Ty.str (l.map Lib.itoa) ≤ 20 * l.length
  | [], _ => Nat.zero_le _
  | n :: l, h => by
    have h1 := nums_sz (l := l) fun m hm => h m (by simp [hm])
    have h2 := itoa_len (h n (by simp)).1 (h n (by simp)).2
    show (Lib.itoa n).length + listSize Ty.str (l.map Lib.itoa) ≤ 20 * (l.length + 1)
    omega
theorem nums_jn {l : List Int} (h : ∀ n ∈ l, inI n) : (jn [44] (numsF l)).length ≤ 21 * l.length := by
  have h1 := jn_len [44] (numsF l)
  have h2 := nums_sz (nums_bd h)
  rw [fallF_len] at h2
  rw [numsF_len] at h1
  simp only [List.length_singleton] at h1
  have : listSize Ty.str (numsF l) = listSize Ty.str ((fallF l).map Lib.itoa) := rfl
  omega
theorem fmtM_len (m : VMatch) (h : tMatch.size m ≤ 1048576) : (fmtM m).length ≤ 1075000000 := by
  rw [tMatch_size] at h
  have h1 := fmtFs_le m.2.1 (by omega)
  unfold fmtM
  split
  · exact Nat.zero_le _
  · simp only [List.length_append, List.length_cons, List.length_nil]; omega
theorem fget9 {l : List Int} {i : Nat} (hi : i < l.length) : l.getD i default ∈ l := by simp [List.getD, hi]
set_option maxHeartbeats 2000000 in
theorem sChoiceLine.ret (x : VChoice) (h : tChoice.size x ≤ 1048576) (h1 : inI x.2.1) (h2 : ∀ n ∈ x.2.2.1, inI n) (h3 : inI x.2.2.2.1) : sChoiceLine.Ret [.agg (oldL (tChoice.q x))] (.str (chlF x)) [] := by
  refine sChoiceLine.ofS rfl rfl ?_
  rw [tChoice_size, tInts_size] at h
  have hm := sFormatMatch.ret x.1 (by omega)
  have hml := fmtM_len x.1 (by omega)
  have hjl := nums_jn h2
  have hnl := numsF_len x.2.2.1
  have hi1 := itoa_len h1.1 h1.2
  have hi3 := itoa_len h3.1 h3.2
  have hfa := sFalling.own x.2.2.1 (by omega)
  have hok : okT (.l 3 1 ((fallF x.2.2.1).map Ty.int.q)) = true := ok_list Ty.int _ _
  have hfl := fallF_len x.2.2.1
  have hfb := nums_bd h2
  have hj := sJoin.ret (numsF x.2.2.1) [44] ⟨by omega, by omega⟩
  cases hc : (fmtM x.1 == []) with
  | true =>
    have e0 : fmtM x.1 = [] := by simpa using hc
    rw [chlF, hc, if_pos rfl]
    rw [e0] at hm
    repeat' first
      | contradiction | exact trivial
      | (conv => whnf
         first | refine Need.mk (fun h => h) ?_ | refine Need.mk rfl ?_ | refine Need.mk ⟨rfl, Nat.le_of_ble_eq_true rfl⟩ ?_ | refine Need.mk (Nat.le_of_ble_eq_true rfl) ?_ | refine Need.finN ?_ | refine Need.mk ?_ ?_ | refine Ix.strsN rfl ?_ | refine Ix.strs rfl ?_ ?_ | refine Cut.strs rfl ?_ ?_ | refine Ix.mapN (fun _ => rfl) ?_ | refine Ix.map (fun _ => rfl) ?_ ?_ | refine Cut.map (fun _ => rfl) ?_ ?_ | refine Fork.yes (by assumption) ?_ | refine Fork.no (by assumption) ?_ | refine Fork.decY ?_ | refine Fork.andY ?_ | refine Fork.andN ?_ | refine Fork.decN ?_ | refine Fork.dec (fun _ => ?_) (fun _ => ?_) | refine Fork.bne (fun _ => ?_) (fun _ => ?_) | refine Fork.beq (fun _ => ?_) (fun _ => ?_) | refine Fork.seq (fun _ => ?_) (fun _ => ?_) | refine Fork.sne (fun _ => ?_) (fun _ => ?_) | refine Fork.neg (fun _ => ?_) (fun _ => ?_) | refine Fork.mk (fun _ => ?_) (fun _ => ?_) | refine HAlt.mk ?_ ?_ | apply HJoin.mk3 | exact HEnd.mk rfl rfl rfl | refine HEnd.mk ?_ ?_ ?_ | refine Round.mk ?_ | refine NilQ.mk (fun b hb => ?_) | refine forceK_of ?_ | refine forceBx_of ?_ | refine unG_old ?_ | refine unG_gv ?_ | refine Lit.read rfl ?_ | refine LitO.own rfl ?_ | refine FinVal.keep ?_ | refine FinAgg.keep ?_ | refine Final.mk rfl rfl | refine Final.mk ?_ rfl | refine Final.mk ?_ ?_ | refine FinalT.mk ?_ ?_ | refine FinalI.mk ?_ | refine FinalC.allA ?_ | refine ACall.scalA _ _ (hm) rfl ?_ | refine AQCall.mkA _ _ (fun hg => hm) rfl ?_ | refine AGCall.mkA _ _ (fun hg => hm) rfl ?_)
      | refine AV.bool_congr ?_ | refine AV.int_congr ?_ | refine AV.str_congr ?_ | refine AV.list_congr ?_ | with_reducible rfl | refine fr1 ?_ | refine fr2 ?_ ?_
  | false =>
  have e0 : ¬ fmtM x.1 = [] := by simpa using hc
  have hx : chlF x = fmtM x.1 ++ [32, 40] ++ Lib.itoa x.2.1 ++ [59, 32] ++ jn [44] (numsF x.2.2.1) ++ [59, 32] ++ Lib.itoa x.2.2.2.1 ++ [41] := by rw [chlF, hc, if_neg (by simp)]
  rw [hx]
  clear hx
  repeat' first
    | contradiction | exact trivial
    | (conv => whnf
       first | refine Need.mk (fun h => h) ?_ | refine Need.mk rfl ?_ | refine Need.mk ⟨rfl, Nat.le_of_ble_eq_true rfl⟩ ?_ | refine Need.mk (Nat.le_of_ble_eq_true rfl) ?_ | refine Need.finN ?_ | refine Need.mk ?_ ?_ | refine Ix.strsN rfl ?_ | refine Ix.strs rfl ?_ ?_ | refine Cut.strs rfl ?_ ?_ | refine Ix.mapN (fun _ => rfl) ?_ | refine Ix.map (fun _ => rfl) ?_ ?_ | refine Cut.map (fun _ => rfl) ?_ ?_ | refine Fork.yes (by assumption) ?_ | refine Fork.no (by assumption) ?_ | refine Fork.decY ?_ | refine Fork.andY ?_ | refine Fork.andN ?_ | refine Fork.decN ?_ | refine Fork.dec (fun _ => ?_) (fun _ => ?_) | refine Fork.bne (fun _ => ?_) (fun _ => ?_) | refine Fork.beq (fun _ => ?_) (fun _ => ?_) | refine Fork.seq (fun _ => ?_) (fun _ => ?_) | refine Fork.sne (fun _ => ?_) (fun _ => ?_) | refine Fork.neg (fun _ => ?_) (fun _ => ?_) | refine Fork.mk (fun _ => ?_) (fun _ => ?_) | refine HAlt.mk ?_ ?_ | apply HJoin.mk3 | exact HEnd.mk rfl rfl rfl | refine HEnd.mk ?_ ?_ ?_ | refine Round.mk ?_ | refine NilQ.mk (fun b hb => ?_) | refine forceK_of ?_ | refine forceBx_of ?_ | refine unG_old ?_ | refine unG_gv ?_ | refine Lit.read rfl ?_ | refine LitO.own rfl ?_ | refine FinVal.keep ?_ | refine FinAgg.keep ?_ | refine Final.mk rfl rfl | refine Final.mk ?_ rfl | refine Final.mk ?_ ?_ | refine FinalT.mk ?_ ?_ | refine FinalI.mk ?_ | refine FinalC.allA ?_ | refine ACall.scalA _ _ (hm) rfl ?_ | refine AQCall.mkA _ _ (fun hg => hm) rfl ?_ | refine AGCall.mkA _ _ (fun hg => hm) rfl ?_ | refine ACall.oldA _ _ (hfa) ?_ | refine AGCall.oldA _ _ (fun hg => hfa) ?_)
    | refine AV.bool_congr ?_ | refine AV.int_congr ?_ | refine AV.str_congr ?_ | refine AV.list_congr ?_ | with_reducible rfl | refine fr1 ?_ | refine fr2 ?_ ?_
  refine ALoop.mk Nat (fun i => ⟨[(1, .bptr 0 0), (3, .str (fmtM x.1)), (4, .list (some 0) (strs ((numsF x.2.2.1).take i))), (5, .list none (rows Ty.int (fallF x.2.2.1))), (6, .val (.int .i64 i))], [.cells .var (oldL (tChoice.q x))], [(9, 1, i)]⟩) (fun i => i ≤ x.2.2.1.length) (fun i => x.2.2.1.length - i) ⟨0, Nat.zero_le _, ?_⟩ (fun i hi => ?_)
  · repeat' first
      | exact trivial | refine Weak.mk ?_ ?_ ?_ ?_ (Or.inl (Nat.le_of_ble_eq_true rfl)) | refine Weak.mk ?_ ?_ ?_ ?_ (Or.inr ⟨(by repeat' first | exact trivial | exact Nat.le_of_ble_eq_true rfl | refine And.intro ?_ ?_), (by repeat' first | exact trivial | exact Nat.le_of_ble_eq_true rfl | refine And.intro ?_ ?_)⟩) | refine Weak.mk ?_ ?_ ?_ ?_ ?_ | refine And.intro ?_ ?_ | with_reducible rfl | exact Nat.le_of_ble_eq_true rfl | refine fr1 ?_ | refine fr2 ?_ ?_ | refine AV.int_congr ?_ | refine AV.bool_congr ?_ | refine AV.str_congr ?_ | refine AV.list_congr ?_ | refine AV.bsl_congr ?_ ?_ | (apply rfl)
  by_cases hi' : i < x.2.2.1.length
  rotate_left
  · have hil : i = x.2.2.1.length := by omega
    have htk : (numsF x.2.2.1).take i = numsF x.2.2.1 := List.take_of_length_le (by omega)
    rw [htk]
    have hj' : sJoin.Ret [.list none (strs (numsF x.2.2.1)), .str [44]] (.str (jn [44] (numsF x.2.2.1))) [] := hj
    repeat' first
      | contradiction | exact trivial
      | (conv => whnf
         first | refine Need.mk (fun h => h) ?_ | refine Need.mk rfl ?_ | refine Need.mk ⟨rfl, Nat.le_of_ble_eq_true rfl⟩ ?_ | refine Need.mk (Nat.le_of_ble_eq_true rfl) ?_ | refine Need.finN ?_ | refine Need.mk ?_ ?_ | refine Ix.strsN rfl ?_ | refine Ix.strs rfl ?_ ?_ | refine Cut.strs rfl ?_ ?_ | refine Ix.mapN (fun _ => rfl) ?_ | refine Ix.map (fun _ => rfl) ?_ ?_ | refine Cut.map (fun _ => rfl) ?_ ?_ | refine Fork.yes (by assumption) ?_ | refine Fork.no (by assumption) ?_ | refine Fork.decY ?_ | refine Fork.andY ?_ | refine Fork.andN ?_ | refine Fork.decN ?_ | refine Fork.dec (fun _ => ?_) (fun _ => ?_) | refine Fork.bne (fun _ => ?_) (fun _ => ?_) | refine Fork.beq (fun _ => ?_) (fun _ => ?_) | refine Fork.seq (fun _ => ?_) (fun _ => ?_) | refine Fork.sne (fun _ => ?_) (fun _ => ?_) | refine Fork.neg (fun _ => ?_) (fun _ => ?_) | refine Fork.mk (fun _ => ?_) (fun _ => ?_) | refine HAlt.mk ?_ ?_ | apply HJoin.mk3 | exact HEnd.mk rfl rfl rfl | refine HEnd.mk ?_ ?_ ?_ | refine Round.mk ?_ | refine NilQ.mk (fun b hb => ?_) | refine forceK_of ?_ | refine forceBx_of ?_ | refine unG_old ?_ | refine unG_gv ?_ | refine Lit.read rfl ?_ | refine LitO.own rfl ?_ | refine FinVal.keep ?_ | refine FinAgg.keep ?_ | refine Final.mk rfl rfl | refine Final.mk ?_ rfl | refine Final.mk ?_ ?_ | refine FinalT.mk ?_ ?_ | refine FinalI.mk ?_ | refine FinalC.allA ?_ | refine ACall.scalA _ _ (hj') rfl ?_ | refine AQCall.mkA _ _ (fun hg => hj') rfl ?_ | refine AGCall.mkA _ _ (fun hg => hj') rfl ?_ | refine ACall.scalA _ _ (sFormatInt.all _ ?_ ?_) rfl ?_ | refine AQCall.mkA _ _ (fun hg => sFormatInt.all _ ?_ ?_) rfl ?_ | refine AGCall.mkA _ _ (fun hg => sFormatInt.all _ ?_ ?_) rfl ?_)
      | refine AV.bool_congr ?_ | refine AV.int_congr ?_ | refine AV.str_congr ?_ | refine AV.list_congr ?_ | with_reducible rfl | refine fr1 ?_ | refine fr2 ?_ ?_
    all_goals first
      | exact h1.1
      | exact h1.2
      | exact h3.1
      | exact h3.2
      | (simp only [List.length_append, List.toList_toArray, List.length_cons, List.length_nil]; omega)
      | rfl
  have hbi := hfb _ (fget9 (l := fallF x.2.2.1) (i := i) (by omega))
  have hit := itoa_len hbi.1 hbi.2
  have hget : (numsF x.2.2.1).take (i + 1) = (numsF x.2.2.1).take i ++ [Lib.itoa ((fallF x.2.2.1).getD i default)] := by
    rw [List.take_add_one, numsF, List.getElem?_map]
    simp [List.getD, show i < (fallF x.2.2.1).length by omega]
  have hsl : (strs ((numsF x.2.2.1).take i)).length = i := by rw [length_strs, List.length_take]; omega
  have hfi := sFormatInt.all ((fallF x.2.2.1).getD i default) hbi.1 hbi.2
  repeat' first
    | contradiction | exact trivial
    | (conv => whnf
       first | refine Need.mk (fun h => h) ?_ | refine Need.mk rfl ?_ | refine Need.mk ⟨rfl, Nat.le_of_ble_eq_true rfl⟩ ?_ | refine Need.mk (Nat.le_of_ble_eq_true rfl) ?_ | refine Need.finN ?_ | refine Need.mk ?_ ?_ | refine Ix.strsN rfl ?_ | refine Ix.strs rfl ?_ ?_ | refine Cut.strs rfl ?_ ?_ | refine Ix.mapN (fun _ => rfl) ?_ | refine Ix.map (fun _ => rfl) ?_ ?_ | refine Cut.map (fun _ => rfl) ?_ ?_ | refine Fork.yes (by assumption) ?_ | refine Fork.no (by assumption) ?_ | refine Fork.decY ?_ | refine Fork.andY ?_ | refine Fork.andN ?_ | refine Fork.decN ?_ | refine Fork.dec (fun _ => ?_) (fun _ => ?_) | refine Fork.bne (fun _ => ?_) (fun _ => ?_) | refine Fork.beq (fun _ => ?_) (fun _ => ?_) | refine Fork.seq (fun _ => ?_) (fun _ => ?_) | refine Fork.sne (fun _ => ?_) (fun _ => ?_) | refine Fork.neg (fun _ => ?_) (fun _ => ?_) | refine Fork.mk (fun _ => ?_) (fun _ => ?_) | refine HAlt.mk ?_ ?_ | apply HJoin.mk3 | exact HEnd.mk rfl rfl rfl | refine HEnd.mk ?_ ?_ ?_ | refine Round.mk ?_ | refine NilQ.mk (fun b hb => ?_) | refine forceK_of ?_ | refine forceBx_of ?_ | refine unG_old ?_ | refine unG_gv ?_ | refine Lit.read rfl ?_ | refine LitO.own rfl ?_ | refine FinVal.keep ?_ | refine FinAgg.keep ?_ | refine Final.mk rfl rfl | refine Final.mk ?_ rfl | refine Final.mk ?_ ?_ | refine FinalT.mk ?_ ?_ | refine FinalI.mk ?_ | refine FinalC.allA ?_ | refine ACall.scalA _ _ (hfi) rfl ?_ | refine AQCall.mkA _ _ (fun hg => hfi) rfl ?_ | refine AGCall.mkA _ _ (fun hg => hfi) rfl ?_)
    | refine AV.bool_congr ?_ | refine AV.int_congr ?_ | refine AV.str_congr ?_ | refine AV.list_congr ?_ | with_reducible rfl | refine fr1 ?_ | refine fr2 ?_ ?_
  · intro c hc; rw [List.mem_singleton.1 hc]; rfl
  · rw [hsl, List.length_singleton]; omega
  · refine ⟨i + 1, by omega, ?_, by omega⟩
    repeat' first
      | exact trivial | refine Weak.mk ?_ ?_ ?_ ?_ (Or.inl (Nat.le_of_ble_eq_true rfl)) | refine Weak.mk ?_ ?_ ?_ ?_ (Or.inr ⟨(by repeat' first | exact trivial | exact Nat.le_of_ble_eq_true rfl | refine And.intro ?_ ?_), (by repeat' first | exact trivial | exact Nat.le_of_ble_eq_true rfl | refine And.intro ?_ ?_)⟩) | refine Weak.mk ?_ ?_ ?_ ?_ ?_ | refine And.intro ?_ ?_ | with_reducible rfl | exact Nat.le_of_ble_eq_true rfl | refine fr1 ?_ | refine fr2 ?_ ?_ | refine AV.int_congr ?_ | refine AV.bool_congr ?_ | refine AV.str_congr ?_ | refine AV.list_congr ?_ | refine AV.bsl_congr ?_ ?_ | (apply rfl)
    · rw [hget]; simp [strs_eq]
    · rw [wrap64 (by omega) (by omega)]; rfl
    · rw [hsl]; rfl
set_option maxHeartbeats 2000000 in
theorem pChoiceLine.ret (x : VChoice) (h : tChoice.size x ≤ 1048576) (h1 : inI x.2.1) (h2 : ∀ n ∈ x.2.2.1, inI n) (h3 : inI x.2.2.2.1) : pChoiceLine.RetN [.agg (oldL (tChoice.q x))] (.str (chlF x)) [] := by
  refine pChoiceLine.ofS rfl rfl ?_
  rw [tChoice_size, tInts_size] at h
  have hm := pFormatMatch.ret x.1 (by omega)
  have hml := fmtM_len x.1 (by omega)
  have hjl := nums_jn h2
  have hnl := numsF_len x.2.2.1
  have hi1 := itoa_len h1.1 h1.2
  have hi3 := itoa_len h3.1 h3.2
  have hfa := Own.weak (mo := false) (pFalling.own x.2.2.1 (by omega))
  have hok : okT (.l 3 1 ((fallF x.2.2.1).map Ty.int.q)) = true := ok_list Ty.int _ _
  have hfl := fallF_len x.2.2.1
  have hfb := nums_bd h2
  have hj := pJoin.ret (numsF x.2.2.1) [44] ⟨by omega, by omega⟩
  have hfo := fun (n : Int) (hn : inI n) => Ret.weak (mo := false) (pFormatInt.all n hn.1 hn.2)
  cases hc : (fmtM x.1 == []) with
  | true =>
    have e0 : fmtM x.1 = [] := by simpa using hc
    rw [chlF, hc, if_pos rfl]
    rw [e0] at hm
    repeat' first
      | contradiction | exact trivial
      | (conv => whnf
         first | refine Need.mk (fun h => h) ?_ | refine Need.mk rfl ?_ | refine Need.mk ⟨rfl, Nat.le_of_ble_eq_true rfl⟩ ?_ | refine Need.mk (Nat.le_of_ble_eq_true rfl) ?_ | refine Need.finN ?_ | refine Need.mk ?_ ?_ | refine Ix.strsN rfl ?_ | refine Ix.strs rfl ?_ ?_ | refine Cut.strs rfl ?_ ?_ | refine Ix.mapN (fun _ => rfl) ?_ | refine Ix.map (fun _ => rfl) ?_ ?_ | refine Cut.map (fun _ => rfl) ?_ ?_ | refine Fork.yes (by assumption) ?_ | refine Fork.no (by assumption) ?_ | refine Fork.decY ?_ | refine Fork.andY ?_ | refine Fork.andN ?_ | refine Fork.decN ?_ | refine Fork.dec (fun _ => ?_) (fun _ => ?_) | refine Fork.bne (fun _ => ?_) (fun _ => ?_) | refine Fork.beq (fun _ => ?_) (fun _ => ?_) | refine Fork.seq (fun _ => ?_) (fun _ => ?_) | refine Fork.sne (fun _ => ?_) (fun _ => ?_) | refine Fork.neg (fun _ => ?_) (fun _ => ?_) | refine Fork.mk (fun _ => ?_) (fun _ => ?_) | refine HAlt.mk ?_ ?_ | apply HJoin.mk3 | exact HEnd.mk rfl rfl rfl | refine HEnd.mk ?_ ?_ ?_ | refine Round.mk ?_ | refine NilQ.mk (fun b hb => ?_) | refine forceK_of ?_ | refine forceBx_of ?_ | refine unG_old ?_ | refine unG_gv ?_ | refine Lit.read rfl ?_ | refine LitO.own rfl ?_ | refine FinVal.keep ?_ | refine FinAgg.keep ?_ | refine Final.mk rfl rfl | refine Final.mk ?_ rfl | refine Final.mk ?_ ?_ | refine FinalT.mk ?_ ?_ | refine FinalI.mk ?_ | refine FinalC.allA ?_ | refine ACall.scalA _ _ (hm) rfl ?_ | refine AQCall.mkA _ _ (fun hg => hm) rfl ?_ | refine AGCall.mkA _ _ (fun hg => hm) rfl ?_)
      | refine AV.bool_congr ?_ | refine AV.int_congr ?_ | refine AV.str_congr ?_ | refine AV.list_congr ?_ | with_reducible rfl | refine fr1 ?_ | refine fr2 ?_ ?_
  | false =>
  have e0 : ¬ fmtM x.1 = [] := by simpa using hc
  have hx : chlF x = fmtM x.1 ++ [32, 40] ++ Lib.itoa x.2.1 ++ [59, 32] ++ jn [44] (numsF x.2.2.1) ++ [59, 32] ++ Lib.itoa x.2.2.2.1 ++ [41] := by rw [chlF, hc, if_neg (by simp)]
  rw [hx]
  clear hx
  have hrl : ((rows Ty.int x.2.2.1).length : Int) = x.2.2.1.length := by rw [length_rows]
  have hrf : ((oldLL ((fallF x.2.2.1).map Ty.int.q)).length : Int) = x.2.2.1.length := by rw [length_oldLL, List.length_map, hfl]
  repeat' first
    | contradiction | exact trivial
    | (conv => whnf
       first | refine Need.mk (fun h => h) ?_ | refine Need.mk rfl ?_ | refine Need.mk ⟨rfl, Nat.le_of_ble_eq_true rfl⟩ ?_ | refine Need.mk (Nat.le_of_ble_eq_true rfl) ?_ | refine Need.finN ?_ | refine Need.mk ?_ ?_ | refine Ix.strsN rfl ?_ | refine Ix.strs rfl ?_ ?_ | refine Cut.strs rfl ?_ ?_ | refine Ix.mapN (fun _ => rfl) ?_ | refine Ix.map (fun _ => rfl) ?_ ?_ | refine Cut.map (fun _ => rfl) ?_ ?_ | refine Fork.yes (by assumption) ?_ | refine Fork.no (by assumption) ?_ | refine Fork.decY ?_ | refine Fork.andY ?_ | refine Fork.andN ?_ | refine Fork.decN ?_ | refine Fork.dec (fun _ => ?_) (fun _ => ?_) | refine Fork.bne (fun _ => ?_) (fun _ => ?_) | refine Fork.beq (fun _ => ?_) (fun _ => ?_) | refine Fork.seq (fun _ => ?_) (fun _ => ?_) | refine Fork.sne (fun _ => ?_) (fun _ => ?_) | refine Fork.neg (fun _ => ?_) (fun _ => ?_) | refine Fork.mk (fun _ => ?_) (fun _ => ?_) | refine HAlt.mk ?_ ?_ | apply HJoin.mk3 | exact HEnd.mk rfl rfl rfl | refine HEnd.mk ?_ ?_ ?_ | refine Round.mk ?_ | refine NilQ.mk (fun b hb => ?_) | refine forceK_of ?_ | refine forceBx_of ?_ | refine unG_old ?_ | refine unG_gv ?_ | refine Lit.read rfl ?_ | refine LitO.own rfl ?_ | refine FinVal.keep ?_ | refine FinAgg.keep ?_ | refine Final.mk rfl rfl | refine Final.mk ?_ rfl | refine Final.mk ?_ ?_ | refine FinalT.mk ?_ ?_ | refine FinalI.mk ?_ | refine FinalC.allA ?_ | refine ACall.scalA _ _ (hm) rfl ?_ | refine AQCall.mkA _ _ (fun hg => hm) rfl ?_ | refine AGCall.mkA _ _ (fun hg => hm) rfl ?_ | refine ACall.oldA _ _ (hfa) ?_ | refine AGCall.oldA _ _ (fun hg => hfa) ?_)
    | refine AV.bool_congr ?_ | refine AV.int_congr ?_ | refine AV.str_congr ?_ | refine AV.list_congr ?_ | with_reducible rfl | refine fr1 ?_ | refine fr2 ?_ ?_
  refine ALoop.mk Nat (fun i => ⟨[(1, .bptr 0 0), (3, .str (fmtM x.1)), (4, .bsl 1 x.2.2.1.length), (18, .list none (rows Ty.int (fallF x.2.2.1))), (19, .val (.int .i64 x.2.2.1.length)), (20, .val (.int .i64 i))], [.cells .var (oldL (tChoice.q x)), .cells (.row 9 1) (part [.str []] (strs (numsF x.2.2.1)) i)], []⟩) (fun i => i ≤ x.2.2.1.length) (fun i => x.2.2.1.length - i) ⟨0, Nat.zero_le _, ?_⟩ (fun i hi => ?_)
  · repeat' first
      | exact trivial | refine Weak.mk ?_ ?_ ?_ ?_ (Or.inl (Nat.le_of_ble_eq_true rfl)) | refine Weak.mk ?_ ?_ ?_ ?_ (Or.inr ⟨(by repeat' first | exact trivial | exact Nat.le_of_ble_eq_true rfl | refine And.intro ?_ ?_), (by repeat' first | exact trivial | exact Nat.le_of_ble_eq_true rfl | refine And.intro ?_ ?_)⟩) | refine Weak.mk ?_ ?_ ?_ ?_ ?_ | refine And.intro ?_ ?_ | with_reducible rfl | exact Nat.le_of_ble_eq_true rfl | refine fr1 ?_ | refine fr2 ?_ ?_ | refine AV.int_congr ?_ | refine AV.bool_congr ?_ | refine AV.str_congr ?_ | refine AV.list_congr ?_ | refine AV.bsl_congr ?_ ?_ | (apply rfl)
    · rw [length_oldLL, List.length_map, Int.toNat_natCast]
    · exact hrf
    · simp only [List.nil_append, List.cons_append, List.length_cons, List.length_nil, List.take_succ_cons, List.take_zero]
      rw [part_made (xs := strs (numsF x.2.2.1)) (sz := 1) rfl (by decide) (by rw [length_oldLL, List.length_map, Int.toNat_natCast, length_strs, hnl])]; rfl
  by_cases hi' : i < x.2.2.1.length
  rotate_left
  · have hil : i = x.2.2.1.length := by omega
    have hall := part_all [.str []] (strs (numsF x.2.2.1))
    rw [length_strs, hnl] at hall
    rw [hil, hall]
    repeat' first
      | contradiction | exact trivial
      | (conv => whnf
         first | refine Need.mk (fun h => h) ?_ | refine Need.mk rfl ?_ | refine Need.mk ⟨rfl, Nat.le_of_ble_eq_true rfl⟩ ?_ | refine Need.mk (Nat.le_of_ble_eq_true rfl) ?_ | refine Need.finN ?_ | refine Need.mk ?_ ?_ | refine Ix.strsN rfl ?_ | refine Ix.strs rfl ?_ ?_ | refine Cut.strs rfl ?_ ?_ | refine Ix.mapN (fun _ => rfl) ?_ | refine Ix.map (fun _ => rfl) ?_ ?_ | refine Cut.map (fun _ => rfl) ?_ ?_ | refine Fork.yes (by assumption) ?_ | refine Fork.no (by assumption) ?_ | refine Fork.decY ?_ | refine Fork.andY ?_ | refine Fork.andN ?_ | refine Fork.decN ?_ | refine Fork.dec (fun _ => ?_) (fun _ => ?_) | refine Fork.bne (fun _ => ?_) (fun _ => ?_) | refine Fork.beq (fun _ => ?_) (fun _ => ?_) | refine Fork.seq (fun _ => ?_) (fun _ => ?_) | refine Fork.sne (fun _ => ?_) (fun _ => ?_) | refine Fork.neg (fun _ => ?_) (fun _ => ?_) | refine Fork.mk (fun _ => ?_) (fun _ => ?_) | refine HAlt.mk ?_ ?_ | apply HJoin.mk3 | exact HEnd.mk rfl rfl rfl | refine HEnd.mk ?_ ?_ ?_ | refine Round.mk ?_ | refine NilQ.mk (fun b hb => ?_) | refine forceK_of ?_ | refine forceBx_of ?_ | refine unG_old ?_ | refine unG_gv ?_ | refine Lit.read rfl ?_ | refine LitO.own rfl ?_ | refine FinVal.keep ?_ | refine FinAgg.keep ?_ | refine Final.mk rfl rfl | refine Final.mk ?_ rfl | refine Final.mk ?_ ?_ | refine FinalT.mk ?_ ?_ | refine FinalI.mk ?_ | refine FinalC.allA ?_ | refine ACall.scalA _ _ (hfo _ ?_) rfl ?_ | refine AQCall.mkA _ _ (fun hg => hfo _ ?_) rfl ?_ | refine AGCall.mkA _ _ (fun hg => hfo _ ?_) rfl ?_)
      | refine AV.bool_congr ?_ | refine AV.int_congr ?_ | refine AV.str_congr ?_ | refine AV.list_congr ?_ | with_reducible rfl | refine fr1 ?_ | refine fr2 ?_ ?_
    all_goals try exact h1
    all_goals try (simp only [List.length_append, List.toList_toArray, List.length_cons, List.length_nil]; omega)
    conv => whnf
    refine AQCall.mk [.list none (strs (numsF x.2.2.1)), .str [44]] (.str (jn [44] (numsF x.2.2.1))) (fun _ => hj) rfl (fun _ => SeesL.cons ?_ (SeesL.cons (SeesB.of0 (Sees0.str _)) .nil)) ?_
    · have e : AV.bsl 1 x.2.2.1.length = AV.bsl 1 (numsF x.2.2.1).length := by rw [hnl]
      show SeesB [.cells .var (oldL (tChoice.q x)), .cells (.row 9 1) (strs (numsF x.2.2.1)).flatten] (.bsl 1 x.2.2.1.length) (.list none (strs (numsF x.2.2.1)))
      rw [e]
      exact SeesB.strs (t := 9) rfl
    repeat' first
      | contradiction | exact trivial
      | (conv => whnf
         first | refine Need.mk (fun h => h) ?_ | refine Need.mk rfl ?_ | refine Need.mk ⟨rfl, Nat.le_of_ble_eq_true rfl⟩ ?_ | refine Need.mk (Nat.le_of_ble_eq_true rfl) ?_ | refine Need.finN ?_ | refine Need.mk ?_ ?_ | refine Ix.strsN rfl ?_ | refine Ix.strs rfl ?_ ?_ | refine Cut.strs rfl ?_ ?_ | refine Ix.mapN (fun _ => rfl) ?_ | refine Ix.map (fun _ => rfl) ?_ ?_ | refine Cut.map (fun _ => rfl) ?_ ?_ | refine Fork.yes (by assumption) ?_ | refine Fork.no (by assumption) ?_ | refine Fork.decY ?_ | refine Fork.andY ?_ | refine Fork.andN ?_ | refine Fork.decN ?_ | refine Fork.dec (fun _ => ?_) (fun _ => ?_) | refine Fork.bne (fun _ => ?_) (fun _ => ?_) | refine Fork.beq (fun _ => ?_) (fun _ => ?_) | refine Fork.seq (fun _ => ?_) (fun _ => ?_) | refine Fork.sne (fun _ => ?_) (fun _ => ?_) | refine Fork.neg (fun _ => ?_) (fun _ => ?_) | refine Fork.mk (fun _ => ?_) (fun _ => ?_) | refine HAlt.mk ?_ ?_ | apply HJoin.mk3 | exact HEnd.mk rfl rfl rfl | refine HEnd.mk ?_ ?_ ?_ | refine Round.mk ?_ | refine NilQ.mk (fun b hb => ?_) | refine forceK_of ?_ | refine forceBx_of ?_ | refine unG_old ?_ | refine unG_gv ?_ | refine Lit.read rfl ?_ | refine LitO.own rfl ?_ | refine FinVal.keep ?_ | refine FinAgg.keep ?_ | refine Final.mk rfl rfl | refine Final.mk ?_ rfl | refine Final.mk ?_ ?_ | refine FinalT.mk ?_ ?_ | refine FinalI.mk ?_ | refine FinalC.allA ?_ | refine ACall.scalA _ _ (hfo _ ?_) rfl ?_ | refine AQCall.mkA _ _ (fun hg => hfo _ ?_) rfl ?_ | refine AGCall.mkA _ _ (fun hg => hfo _ ?_) rfl ?_)
      | refine AV.bool_congr ?_ | refine AV.int_congr ?_ | refine AV.str_congr ?_ | refine AV.list_congr ?_ | with_reducible rfl | refine fr1 ?_ | refine fr2 ?_ ?_
    all_goals first
      | exact h3
      | (simp only [List.length_append, List.toList_toArray, List.length_cons, List.length_nil]; omega)
      | rfl
  have hbi := hfb _ (fget9 (l := fallF x.2.2.1) (i := i) (by omega))
  have hit := itoa_len hbi.1 hbi.2
  have hfi := hfo _ hbi
  repeat' first
    | contradiction | exact trivial
    | (conv => whnf
       first | refine Need.mk (fun h => h) ?_ | refine Need.mk rfl ?_ | refine Need.mk ⟨rfl, Nat.le_of_ble_eq_true rfl⟩ ?_ | refine Need.mk (Nat.le_of_ble_eq_true rfl) ?_ | refine Need.finN ?_ | refine Need.mk ?_ ?_ | refine Ix.strsN rfl ?_ | refine Ix.strs rfl ?_ ?_ | refine Cut.strs rfl ?_ ?_ | refine Ix.mapN (fun _ => rfl) ?_ | refine Ix.map (fun _ => rfl) ?_ ?_ | refine Cut.map (fun _ => rfl) ?_ ?_ | refine Fork.yes (by assumption) ?_ | refine Fork.no (by assumption) ?_ | refine Fork.decY ?_ | refine Fork.andY ?_ | refine Fork.andN ?_ | refine Fork.decN ?_ | refine Fork.dec (fun _ => ?_) (fun _ => ?_) | refine Fork.bne (fun _ => ?_) (fun _ => ?_) | refine Fork.beq (fun _ => ?_) (fun _ => ?_) | refine Fork.seq (fun _ => ?_) (fun _ => ?_) | refine Fork.sne (fun _ => ?_) (fun _ => ?_) | refine Fork.neg (fun _ => ?_) (fun _ => ?_) | refine Fork.mk (fun _ => ?_) (fun _ => ?_) | refine HAlt.mk ?_ ?_ | apply HJoin.mk3 | exact HEnd.mk rfl rfl rfl | refine HEnd.mk ?_ ?_ ?_ | refine Round.mk ?_ | refine NilQ.mk (fun b hb => ?_) | refine forceK_of ?_ | refine forceBx_of ?_ | refine unG_old ?_ | refine unG_gv ?_ | refine Lit.read rfl ?_ | refine LitO.own rfl ?_ | refine FinVal.keep ?_ | refine FinAgg.keep ?_ | refine Final.mk rfl rfl | refine Final.mk ?_ rfl | refine Final.mk ?_ ?_ | refine FinalT.mk ?_ ?_ | refine FinalI.mk ?_ | refine FinalC.allA ?_ | refine ACall.scalA _ _ (hfi) rfl ?_ | refine AQCall.mkA _ _ (fun hg => hfi) rfl ?_ | refine AGCall.mkA _ _ (fun hg => hfi) rfl ?_)
    | refine AV.bool_congr ?_ | refine AV.int_congr ?_ | refine AV.str_congr ?_ | refine AV.list_congr ?_ | with_reducible rfl | refine fr1 ?_ | refine fr2 ?_ ?_
  · refine ⟨rfl, ?_⟩
    rw [part_len (sz := 1) rfl (strs_sz _) (by rw [length_strs, hnl]; omega), length_strs, hnl, Int.toNat_natCast]; omega
  · refine ⟨i + 1, by omega, ?_, by omega⟩
    refine ⟨?_, ?_, rfl, Nat.le_of_ble_eq_true rfl, Or.inr ⟨?_, ?_⟩⟩
    · repeat' first
        | exact trivial | refine Weak.mk ?_ ?_ ?_ ?_ (Or.inl (Nat.le_of_ble_eq_true rfl)) | refine Weak.mk ?_ ?_ ?_ ?_ (Or.inr ⟨(by repeat' first | exact trivial | exact Nat.le_of_ble_eq_true rfl | refine And.intro ?_ ?_), (by repeat' first | exact trivial | exact Nat.le_of_ble_eq_true rfl | refine And.intro ?_ ?_)⟩) | refine Weak.mk ?_ ?_ ?_ ?_ ?_ | refine And.intro ?_ ?_ | with_reducible rfl | exact Nat.le_of_ble_eq_true rfl | refine fr1 ?_ | refine fr2 ?_ ?_ | refine AV.int_congr ?_ | refine AV.bool_congr ?_ | refine AV.str_congr ?_ | refine AV.list_congr ?_ | refine AV.bsl_congr ?_ ?_ | (apply rfl)
      rw [wrap64 (by omega) (by omega)]; rfl
    · have := part_set (z := [.str []]) (sz := 1) rfl (strs_sz (numsF x.2.2.1)) (strs_get (l := numsF x.2.2.1) (i := i) (by omega))
      have e : (numsF x.2.2.1).getD i [] = Lib.itoa ((fallF x.2.2.1).getD i default) := by
        rw [numsF]; simp [List.getD, show i < (fallF x.2.2.1).length by omega]
      rw [e] at this
      exact congrArg (fun c => [ABox.cells .var (oldL (tChoice.q x)), ABox.cells (.row 9 1) c]) this
    · repeat' first | exact trivial | exact Nat.le_of_ble_eq_true rfl | refine And.intro ?_ ?_
    · exact ⟨inBL_nr (nr_oldL _), part_inB _ _ _, trivial⟩
end Go.Proofs.YtplfkocigmnpmaaDoor
namespace Go.Proofs.YtplfkocigmnpmaaDoor
namespace Abs
/-- the boxes of a tree are turned into another one's -/
def TAt (b : List ABox) (n : Nat) (X Y : Tr) (b' : List ABox) : Prop := ∃ pre post, pre.length = n ∧ b = pre ++ gb X n ++ post ∧ pre ++ gb Y n ++ post = b'
theorem TAt.more {A D A' : List ABox} {n : Nat} {X Y : Tr} (h : TAt A n X Y A') : TAt (A ++ D) n X Y (A' ++ D) := by
  obtain ⟨pre, post, h1, rfl, rfl⟩ := h
  exact ⟨pre, post ++ D, h1, by simp, by simp⟩
end Abs
end Go.Proofs.YtplfkocigmnpmaaDoor
namespace Go.Proofs.YtplfkocigmnpmaaDoor
open Abs
def lawExactChoiceLine.code : ACode := (.seq (.region false [s 1 (.box (t 0)), s 2 (.mv (.const (.bool false)))]) (.seq (.region false [s 3 (.mv (.const (.int .i64 1048576)))]) (.seq (.region false [s 7 (.load true 7 (t 1)), s 8 (.mv (t 3)), s 9 (.call 4 [(t 7), (t 8)]), s 3 (.mv (t 9))]) (.seq (.seq (.region false [s 10 (.mv (t 3)), s 11 (.bin .lss (t 10) (.const (.int .i64 0)))]) (.cond (t 11) (.seq (.region false [s 2 (.mv (.const (.bool true)))]) .ret) .skip)) (.seq (.region false [s 12 (.load true 7 (t 1)), s 13 (.call 6 [(t 12)]), s 14 (.call 5 [(t 13)]), s 4 (.mv (t 14))]) (.seq (.region false [s 15 (.load true 7 (t 1)), s 16 (.call 6 [(t 15)]), s 5 (.alloc [(.string (.mk (.mk []))), (.slice none 0 0), (.slice none 0 0), (.int .i64 (.ofNat 0)), (.slice none 0 0), (.int .i64 (.ofNat 0)), (.int .i64 (.ofNat 0))]), ⟨none, none, (.store 7 (t 5) (t 16))⟩]) (.seq (.region false [s 17 (.load true 7 (t 5)), s 18 (.call 7 [(t 17)]), s 6 (.mv (t 18))]) (.seq (.seq (.region false [s 19 (.mv (t 6)), s 20 (.mv (t 4)), s 21 (.bin .neq (t 19) (t 20))]) (.cond (t 21) (.seq (.region false [s 2 (.mv (.const (.bool false)))]) .ret) .skip)) (.seq (.seq (.held [s 22 (.load true 7 (t 5)), s 23 (.load true 7 (t 1)), s 24 (.call 6 [(t 23)])] [s 25 (.call 8 [(t 22), (t 24)]), s 26 (.not (t 25))]) (.cond (t 26) (.seq (.region false [s 2 (.mv (.const (.bool false)))]) .ret) .skip)) (.seq (.region false [s 2 (.mv (.const (.bool true)))]) .ret))))))))))
def lawExactChoiceLine.keep : List Nat := [0, 1, 2, 3, 4, 5, 6]
def lawExactChoiceLine.res : List RRes := [.tmp 2]
theorem lawExactChoiceLine.ofS {mo : Bool} {args : List AV} {r : AV} (hr : isScalR r = true) (hn : Nat.ble args.length Tryd.f3.ntmps = true) (h : aCode (Kn mo Tryd.prog) lawExactChoiceLine.keep 0 lawExactChoiceLine.code (doneS lawExactChoiceLine.res r) ⟨argEnv 0 args, [], []⟩) : Abs.Ret mo Tryd.prog 3 args r [] :=
  Abs.Ret.of_irS hr Tryd.func3 rfl (by kernel_rfl) (Nat.le_of_ble_eq_true hn) (by kernel_rfl) (by kernel_rfl) h
abbrev lawExactChoiceLine.RetN (args : List AV) (r : AV) (frs : Fr) : Prop := Abs.Ret false Tryd.prog 3 args r frs
end Go.Proofs.YtplfkocigmnpmaaDoor
namespace Go.Proofs.YtplfkocigmnpmaaDoor
open Abs
set_option maxRecDepth 20000 in
set_option maxHeartbeats 4000000 in
theorem lawExactChoiceLine.of_ret (a0 : VChoice) (hb0 : tChoice.bd a0)
    (h : tChoice.size a0 ≤ 1048576 → ∃ (r0 : Str), sChoiceLine.Ret [.agg (oldL (tChoice.q a0))] (.str r0) [] ∧ pChoiceLine.RetN [.agg (oldL (tChoice.q a0))] (.str r0) []) :
    lawExactChoiceLine.RetN [.agg (oldL (tChoice.q a0))] (.val (.bool true)) [] := by
  refine lawExactChoiceLine.ofS rfl rfl ?_
  by_cases c1 : (1048576 : Int) < (tChoice.size a0 : Int)
  · have e0 : left 1048576 (tChoice.size a0) = -1 := by rw [left, if_pos (by omega)]
    repeat' first
      | contradiction | exact trivial
      | (conv => whnf
         first | refine Need.mk (fun h => h) ?_ | refine Need.mk rfl ?_ | refine Need.mk ⟨rfl, Nat.le_of_ble_eq_true rfl⟩ ?_ | refine Need.mk (Nat.le_of_ble_eq_true rfl) ?_ | refine Need.fin ?_ | refine Need.mk ?_ ?_ | refine Ix.strsF rfl ?_ | refine Ix.strs rfl ?_ ?_ | refine Cut.strs rfl ?_ ?_ | refine Ix.mapF (fun _ => rfl) ?_ | refine Ix.map (fun _ => rfl) ?_ ?_ | refine Cut.map (fun _ => rfl) ?_ ?_ | refine Fork.yes (by assumption) ?_ | refine Fork.no (by assumption) ?_ | refine Fork.decYes (by omega) ?_ | refine Fork.decNo (by omega) ?_ | refine Fork.dec (fun _ => ?_) (fun _ => ?_) | refine Fork.bne (fun _ => ?_) (fun _ => ?_) | refine Fork.beq (fun _ => ?_) (fun _ => ?_) | refine Fork.seq (fun _ => ?_) (fun _ => ?_) | refine Fork.sne (fun _ => ?_) (fun _ => ?_) | refine Fork.neg (fun _ => ?_) (fun _ => ?_) | refine Fork.mk (fun _ => ?_) (fun _ => ?_) | refine HAlt.mk ?_ ?_ | apply HJoin.mk3 | exact HEnd.mk rfl rfl rfl | refine HEnd.mk ?_ ?_ ?_ | refine Round.mk ?_ | refine NilQ.mk (fun b hb => ?_) | refine forceK_of ?_ | refine forceBx_of ?_ | refine unG_old ?_ | refine unG_gv ?_ | refine Lit.read rfl ?_ | refine LitO.own rfl ?_ | refine FinVal.keep ?_ | refine FinAgg.keep ?_ | refine Final.mk rfl rfl | refine Final.mk ?_ rfl | refine Final.mk ?_ ?_ | refine FinalT.mk ?_ ?_ | refine FinalI.mk ?_ | refine FinalC.allA ?_ | refine ACall.scalA _ _ (Ret.weak (szChoice.ret _ _ ?_ ?_ ?_)) rfl ?_ | refine AQCall.mkA _ _ (fun hg => Ret.weak (szChoice.ret _ _ ?_ ?_ ?_)) rfl ?_ | refine AGCall.mkA _ _ (fun hg => Ret.weak (szChoice.ret _ _ ?_ ?_ ?_)) rfl ?_)
      | refine AV.bool_congr ?_ | refine AV.int_congr ?_ | refine AV.str_congr ?_ | refine AV.list_congr ?_ | with_reducible rfl | refine fr1 ?_ | refine fr2 ?_ ?_
    all_goals first
      | assumption
      | omega
  have e0 : left 1048576 (tChoice.size a0) = 1048576 - (tChoice.size a0 : Int) := by rw [left, if_neg (by omega)]
  obtain ⟨r0, hs, hp⟩ := h (by omega)
  repeat' first
    | contradiction | exact trivial
    | (conv => whnf
       first | refine Need.mk (fun h => h) ?_ | refine Need.mk rfl ?_ | refine Need.mk ⟨rfl, Nat.le_of_ble_eq_true rfl⟩ ?_ | refine Need.mk (Nat.le_of_ble_eq_true rfl) ?_ | refine Need.fin ?_ | refine Need.mk ?_ ?_ | refine Ix.strsF rfl ?_ | refine Ix.strs rfl ?_ ?_ | refine Cut.strs rfl ?_ ?_ | refine Ix.mapF (fun _ => rfl) ?_ | refine Ix.map (fun _ => rfl) ?_ ?_ | refine Cut.map (fun _ => rfl) ?_ ?_ | refine Fork.yes (by assumption) ?_ | refine Fork.no (by assumption) ?_ | refine Fork.decYes (by omega) ?_ | refine Fork.decNo (by omega) ?_ | refine Fork.dec (fun _ => ?_) (fun _ => ?_) | refine Fork.bne (fun _ => ?_) (fun _ => ?_) | refine Fork.beq (fun _ => ?_) (fun _ => ?_) | refine Fork.seq (fun _ => ?_) (fun _ => ?_) | refine Fork.sne (fun _ => ?_) (fun _ => ?_) | refine Fork.neg (fun _ => ?_) (fun _ => ?_) | refine Fork.mk (fun _ => ?_) (fun _ => ?_) | refine HAlt.mk ?_ ?_ | apply HJoin.mk3 | exact HEnd.mk rfl rfl rfl | refine HEnd.mk ?_ ?_ ?_ | refine Round.mk ?_ | refine NilQ.mk (fun b hb => ?_) | refine forceK_of ?_ | refine forceBx_of ?_ | refine unG_old ?_ | refine unG_gv ?_ | refine Lit.read rfl ?_ | refine LitO.own rfl ?_ | refine FinVal.keep ?_ | refine FinAgg.keep ?_ | refine Final.mk rfl rfl | refine Final.mk ?_ rfl | refine Final.mk ?_ ?_ | refine FinalT.mk ?_ ?_ | refine FinalI.mk ?_ | refine FinalC.allA ?_ | refine ACall.scalA _ _ (Ret.weak (szChoice.ret _ _ ?_ ?_ ?_)) rfl ?_ | refine AQCall.mkA _ _ (fun hg => Ret.weak (szChoice.ret _ _ ?_ ?_ ?_)) rfl ?_ | refine AGCall.mkA _ _ (fun hg => Ret.weak (szChoice.ret _ _ ?_ ?_ ?_)) rfl ?_ | refine ACall.scalA _ _ (Ret.weak (hs)) rfl ?_ | refine AQCall.mkA _ _ (fun hg => Ret.weak (hs)) rfl ?_ | refine AGCall.mkA _ _ (fun hg => Ret.weak (hs)) rfl ?_ | refine ACall.scalA _ _ (hp) rfl ?_ | refine AQCall.mkA _ _ (fun hg => hp) rfl ?_ | refine AGCall.mkA _ _ (fun hg => hp) rfl ?_ | refine ACall.oldA _ _ (Own.weak (toChoice.own _ ?_)) ?_ | refine AGCall.oldA _ _ (fun hg => Own.weak (toChoice.own _ ?_)) ?_ | refine ACall.scalA _ _ (Ret.weak (eqChoice.big _ _ ?_)) rfl ?_ | refine AQCall.mkA _ _ (fun hg => Ret.weak (eqChoice.big _ _ ?_)) rfl ?_ | refine AGCall.mkA _ _ (fun hg => Ret.weak (eqChoice.big _ _ ?_)) rfl ?_)
    | refine AV.bool_congr ?_ | refine AV.int_congr ?_ | refine AV.str_congr ?_ | refine AV.list_congr ?_ | with_reducible rfl | refine fr1 ?_ | refine fr2 ?_ ?_
  all_goals first
    | assumption
    | omega
    | contradiction
    | (rename_i hx; simp at hx; done)
    | (rename_i hx _; simp at hx; done)
end Go.Proofs.YtplfkocigmnpmaaDoor
namespace Go.Proofs.YtplfkocigmnpmaaDoor
open Abs
theorem inI_of {n : Int} (hn : Ty.int.bd n) : inI n := by
  have hb : (Lit.int .i64 n).wf = true := hn
  simp only [Lit.wf, Bool.and_eq_true, decide_eq_true_eq] at hb
  have h0 : IntKind.i64.min = -9223372036854775808 := rfl
  have h1 : IntKind.i64.max = 9223372036854775807 := rfl
  exact ⟨by omega, by omega⟩
theorem lawExactChoiceLine.ret (a0 : VChoice) (hb0 : tChoice.bd a0) : lawExactChoiceLine.RetN [.agg (oldL (tChoice.q a0))] (.val (.bool true)) [] :=
  lawExactChoiceLine.of_ret a0 hb0 fun h => ⟨_, sChoiceLine.ret a0 h (inI_of hb0.2.1) (fun n hn => inI_of (hb0.2.2.1.2 n hn)) (inI_of hb0.2.2.2.1), pChoiceLine.ret a0 h (inI_of hb0.2.1) (fun n hn => inI_of (hb0.2.2.1.2 n hn)) (inI_of hb0.2.2.2.1)⟩
end Go.Proofs.YtplfkocigmnpmaaDoor
namespace Go.Proofs.YtplfkocigmnpmaaDoor
def headSigns : List Nat := [104, 97, 114, 110, 101, 115, 115, 32, 52, 98, 52, 102, 49, 55, 100, 48, 49, 102, 51, 54, 51, 49, 49, 100, 55, 55, 99, 54, 98, 50, 100, 52, 49, 48, 52, 51, 48, 55, 97, 98, 56, 56, 54, 100, 55, 48, 102, 53, 101, 49, 48, 102, 101, 98, 101, 97, 102, 56, 52, 99, 49, 97, 102, 50, 54, 97, 53, 56, 99, 50, 56, 98, 32, 99, 117, 116, 32, 97, 116, 32, 108, 111, 111, 112, 46, 101, 120, 97, 109, 112, 108, 101, 47, 103, 48, 51, 48, 49, 53, 47, 108, 97, 119, 115, 46, 70, 110, 69, 120, 97, 99, 116, 67, 104, 111, 105, 99, 101, 76, 105, 110, 101]
theorem Abs.head : Tryd.prog.initOrder = String.ofList (headSigns.map Char.ofNat) := by kernel_rfl
theorem Abs.signs : Tryd.prog.initOrder.toList = headSigns.map Char.ofNat := by rw [Abs.head, String.toList_ofList]
def headWords : List (List Nat) := [[99, 117, 116], [97, 116], [108, 111, 111, 112, 46, 101, 120, 97, 109, 112, 108, 101, 47, 103, 48, 51, 48, 49, 53, 47, 108, 97, 119, 115, 46, 70, 110, 69, 120, 97, 99, 116, 67, 104, 111, 105, 99, 101, 76, 105, 110, 101]]
theorem Abs.words : behindMainWord (wordsSigns (headSigns.map Char.ofNat)) = headWords.map fun w => w.map Char.ofNat := by kernel_rfl
theorem Abs.heads : behindMainWord (wordsSigns Tryd.prog.initOrder.toList) = headWords.map fun w => w.map Char.ofNat := by rw [Abs.signs, Abs.words]
theorem enters_gen (P : Program) (h : behindMainWord (wordsSigns P.initOrder.toList) = headWords.map fun w => w.map Char.ofNat) (h1 : P.laysLater = false) (h2 : P.bearsReflect = false) (h3 : P.doorFits [] = true) : P.mayEnter = true := by
  have h4 : stripLifts liftWords (headWords.map fun w => w.map Char.ofNat) = ([], headWords.map fun w => w.map Char.ofNat) := by kernel_rfl
  have h5 : (headWords.map fun w => w.map Char.ofNat) = (headWords.headD []).map Char.ofNat :: (headWords.tail.map fun w => w.map Char.ofNat) := rfl
  unfold Program.mayEnter
  rw [h, h1, h2, h5]
  simp only []
  rw [← h5, h4]
  simp only []
  rw [h3]
  rfl
theorem final_gen (P : Program) (h : behindMainWord (wordsSigns P.initOrder.toList) = headWords.map fun w => w.map Char.ofNat) : P.liftsFinal = false := by
  unfold Program.liftsFinal Program.headLifts
  rw [h]
  kernel_rfl
theorem made_gen (P : Program) (h : behindMainWord (wordsSigns P.initOrder.toList) = headWords.map fun w => w.map Char.ofNat) : P.make = some .cut := by
  unfold Program.make
  rw [h]
  rfl
theorem Abs.enters : Tryd.prog.mayEnter = true := enters_gen _ Abs.heads (by kernel_rfl) (by kernel_rfl) (by kernel_rfl)
theorem Abs.final : Tryd.prog.liftsFinal = false := final_gen _ Abs.heads
theorem Abs.made : Tryd.prog.make = some .cut := made_gen _ Abs.heads
theorem main_gen (P : Program) (h : P.initOrder.toList = headSigns.map Char.ofNat) : P.mainIs = some (true, "4b4f17d01f36311d77c6b2d4104307ab886d70f5e10febeaf84c1af26a58c28b".toList) := by
  unfold Program.mainIs
  rw [h]
  kernel_rfl
theorem Abs.main : Tryd.prog.mainIs = some (true, "4b4f17d01f36311d77c6b2d4104307ab886d70f5e10febeaf84c1af26a58c28b".toList) := main_gen _ Abs.signs
theorem Abs.rowed : mapsRowed Tryd.prog = true := by kernel_rfl
theorem Abs.laidOut : laidOutB Tryd.prog = true := by kernel_rfl
/-- the closed facts of a row, without what is known already -/
def joinedLess (P : Program) (f : FuncId) (fn : Func) (s : ChangeSpec) (c : OpenClaim) (h1 : P.mayEnter = true) (h2 : P.liftsFinal = false) (h3 : P.make = some .cut) (h4 : mapsRowed P = true) (h5 : laidOutB P = true) : {b : Bool // joinedFacts P f fn s c = b} := by
  refine ⟨?b, ?h⟩
  case h =>
    unfold joinedFacts
    rw [h1, h2, h3, h4, h5]
theorem Abs.closed {f : FuncId} {fn : Func} {s : ChangeSpec} {c : OpenClaim} (h : (joinedLess Tryd.prog f fn s c Abs.enters Abs.final Abs.made Abs.rowed Abs.laidOut).1 = true) : joinedFacts Tryd.prog f fn s c = true :=
  (joinedLess Tryd.prog f fn s c Abs.enters Abs.final Abs.made Abs.rowed Abs.laidOut).2.trans h
end Go.Proofs.YtplfkocigmnpmaaDoor
namespace Go.Proofs.YtplfkocigmnpmaaDoor
namespace Abs
open Go.ChangeShapes Go.WideShapes Go.RowKit
def clF (P : Program) (g : TypeId → Option (List Cl)) : Nat → List Field → Option (List Cl)
  | _, [] => some []
  | off, f :: fs => match g f.type with
    | some cs => if f.offset = off ∧ cs.length = P.cellsOf f.type then
        (match clF P g (off + cs.length) fs with | some r => some (cs ++ r) | none => none) else none
    | none => none
def clOf (P : Program) : Nat → TypeId → Option (List Cl)
  | 0, _ => none
  | n + 1, t => match P.underlying t with
    | some .string => some [.str]
    | some .bool => some [.bool]
    | some (.int k) => some [.int k]
    | some (.slice e) => match clOf P n e with
      | some cs => if cs.length = P.cellsOf e ∧ 0 < P.cellsOf e then some [.sl e (P.cellsOf e) cs] else none
      | none => none
    | some (.struct fs) => match clF P (clOf P n) 0 fs.toList with
      | some cs => if cs.length = P.cellsOf t then some cs else none
      | none => none
    | _ => none
theorem Both.app {R : AV → Value → Prop} {xs ys : List AV} {us vs : List Value} (h : Both R xs us) (h' : Both R ys vs) : Both R (xs ++ ys) (us ++ vs) := by
  refine ⟨by simp [h.1, h'.1], fun i x v hx hv => ?_⟩
  rw [List.getElem?_append] at hx hv
  rw [h.1] at hx
  split at hx
  · rename_i hi; rw [if_pos hi] at hv; exact h.2 i x v hx hv
  · rename_i hi; rw [if_neg hi] at hv; exact h'.2 _ x v hx hv
/-- the cells of all blocks that are there -/
def allF (w : World) (b : Nat) : Nat := match w.heap[b]? with | some (.cells c _ _) => c.size | _ => 0
theorem allF_out (w : World) (b : Nat) (h : w.heap.size ≤ b) : allF w b = 0 := by
  unfold allF; rw [Array.getElem?_eq_none h]
section
variable {H : Type} {enc : TypeId × Value → H} {P : Program} {w : World} {base : Nat} {spare : Nat → Bool} {held : Bool}
def Opens (B : Nat) (w : World) (cls : List Cl) (cs : List Value) : Prop :=
  ∃ trs, FitsL cls trs ∧ Both (Rep B w (allF w) [] [] []) (oldL trs) cs ∧ ∀ v ∈ cs, v.oneCell' = true
theorem Opens.one {B : Nat} {cl : Cl} {v : Value} (x : Tr) (h : FitsL [cl] [x]) (hr : Rep B w (allF w) [] [] [] (old x) v) (h1 : v.oneCell' = true) : Opens B w [cl] [v] :=
  ⟨[x], h, Both.cons.2 ⟨hr, rfl, by simp [oldL]⟩, by simp [h1]⟩
theorem open_fields {fuel : Nat} {cs : List Value} (B : Nat) (g : TypeId → Option (List Cl))
    (ih : ∀ t cs x cls, g t = some cls → DataW.trod enc P w base spare held fuel t cs = some x → Opens B w cls cs) :
    ∀ (fs : List Field) (off : Nat) (cls : List Cl), clF P g off fs = some cls → (∀ f ∈ fs, ∃ x, DataW.trod enc P w base spare held fuel f.type ((cs.drop f.offset).take (P.cellsOf f.type)) = some x) →
      Opens B w cls ((cs.drop off).take cls.length)
  | [], off, cls, h, _ => by
    simp only [clF, Option.some.injEq] at h
    subst h
    exact ⟨[], .nil, by simp [Both, oldL], by simp⟩
  | f :: fs, off, cls, h, hx => by
    unfold clF at h
    cases hg : g f.type with
    | none => rw [hg] at h; cases h
    | some c =>
      rw [hg] at h
      simp only at h
      split at h
      · rename_i hc
        obtain ⟨rfl, hc⟩ := hc
        cases hr : clF P g (f.offset + c.length) fs with
        | none => rw [hr] at h; cases h
        | some r =>
          rw [hr] at h
          simp only [Option.some.injEq] at h
          subst h
          obtain ⟨x, hx1⟩ := hx f (by simp)
          obtain ⟨t1, f1, b1, o1⟩ := ih _ _ _ _ hg hx1
          obtain ⟨t2, f2, b2, o2⟩ := open_fields B g ih fs _ r hr (fun f' hf' => hx f' (by simp [hf']))
          have hsplit : (cs.drop f.offset).take (c ++ r).length = (cs.drop f.offset).take c.length ++ (cs.drop (f.offset + c.length)).take r.length := by
            rw [List.length_append, List.take_add, List.drop_drop]
          rw [hsplit, hc]
          rw [hc] at b2 o2
          refine ⟨t1 ++ t2, f1.append f2, ?_, fun v hv => ?_⟩
          · rw [oldL_eq, List.map_append, ← oldL_eq, ← oldL_eq]; exact b1.app b2
          · rcases List.mem_append.1 hv with h | h
            · exact o1 v h
            · exact o2 v h
      · cases h
theorem open_cells (B : Nat) : ∀ (n fuel : Nat) (t : TypeId) (cs : List Value) (x : DataW H × List MemPlace) (cls : List Cl), clOf P n t = some cls → DataW.trod enc P w base spare held fuel t cs = some x → Opens B w cls cs
  | 0, _, _, _, _, _, h, _ => by cases h
  | n + 1, fuel, t, cs, x, cls, h, hx => by
    unfold clOf at h
    cases ht : P.underlying t with
    | none => rw [ht] at h; cases h
    | some u =>
      rw [ht] at h
      cases u with
      | string =>
        simp only [Option.some.injEq] at h; subst h
        obtain ⟨s, rfl, _, hs⟩ := DataW.trod_string ht hx
        exact Opens.one (.s s.data.toList) (.str _ hs .nil) (rep_string s) rfl
      | bool =>
        simp only [Option.some.injEq] at h; subst h
        cases fuel with
        | zero => simp [DataW.trod] at hx
        | succ m =>
          unfold DataW.trod at hx
          rw [ht] at hx
          split at hx <;> simp_all
          exact Opens.one (.v (.bool _)) (.bool _ .nil) (.val _) rfl
      | int k =>
        simp only [Option.some.injEq] at h; subst h
        obtain ⟨m, rfl, _, hm⟩ := DataW.trod_int ht hx
        exact Opens.one (.v (.int k m)) (.int _ _ hm .nil) (.val _) rfl
      | slice e =>
        simp only at h
        cases hc : clOf P n e with
        | none => rw [hc] at h; cases h
        | some c =>
          rw [hc] at h
          simp only at h
          split at h
          · rename_i hsz
            obtain ⟨hsz, hpos⟩ := hsz
            simp only [Option.some.injEq] at h; subst h
            rcases Go.Deep.open_slice ht hx with ⟨rfl, _⟩ | ⟨a, len, cap, m, k, D, Pl, rfl, _, hl, hm, hmm, _, hel⟩
            · refine Opens.one (.l e (P.cellsOf e) []) (.sl _ _ _ [] (Nat.zero_le _) hsz (by simp) .nil) ?_ rfl
              exact .list none [] none 0 0 0 0 (fun _ _ => undef) (Nat.le_refl _) (fun h => absurd rfl h) (by simp) (fun h => absurd rfl h) (by simp) (by simp) (fun k hk => by cases hk)
            · have hlm : len ≤ m := by rw [hmm]; split <;> omega
              obtain ⟨T, hT⟩ := Go.Deep.choose_lt (α := List Value × List Tr) (n := len) (p := fun i q => w.cells? base (a.add (i * P.cellsOf e)) (P.cellsOf e) = some q.1 ∧ FitsL c q.2 ∧
                  Both (Rep B w (allF w) [] [] []) (oldL q.2) q.1 ∧ ∀ v ∈ q.1, v.oneCell' = true) (fun i hi => by
                obtain ⟨cs', h1, h2⟩ := hel i (by omega)
                obtain ⟨trs, h3, h4, h5⟩ := open_cells B n k e cs' _ c hc h2
                exact ⟨(cs', trs), h1, h3, h4, h5⟩)
              have hlen : ((List.range len).map fun i => (T i).2).length = len := by simp
              refine Opens.one (.l e (P.cellsOf e) ((List.range len).map fun i => (T i).2)) (.sl _ _ _ _ (by rw [hlen]; omega) hsz (fun x hx => ?_) .nil) ?_ rfl
              · obtain ⟨i, hi, rfl⟩ := List.mem_map.1 hx
                exact (hT i (List.mem_range.1 hi)).2.1
              · have hol : (oldLL ((List.range len).map fun i => (T i).2)).length = len := by rw [length_oldLL, hlen]
                have hget : ∀ i e', (oldLL ((List.range len).map fun i => (T i).2))[i]? = some e' → i < len ∧ e' = oldL (T i).2 := by
                  intro i e' he
                  have hi : i < len := by have := getElem?_lt he; omega
                  rw [oldLL_eq] at he
                  simp [hi] at he
                  exact ⟨hi, by rw [oldL_eq]; exact he.symm⟩
                have hlenT : ∀ i, i < len → (oldL (T i).2).length = P.cellsOf e := fun i hi => by rw [oldL_eq, List.length_map, (hT i hi).2.1.length, hsz]
                have hcell : ∀ i j, i < len → j < P.cellsOf e → w.cell? ⟨a.block, a.off + i * P.cellsOf e + j, none⟩ = (T i).1[j]? ∧ a.spot = none := by
                  intro i j hi hj
                  obtain ⟨_, hl', hc'⟩ := World.cells?_some (hT i hi).1
                  have h0 : a.spot = none := by
                    obtain ⟨_, hl0, hc0⟩ := World.cells?_some (hT 0 (by omega)).1
                    have := hc0 0 hpos
                    rw [List.getElem?_eq_getElem (by omega)] at this
                    simp only [Nat.zero_mul, Addr.add, if_true] at this
                    unfold World.cell? at this
                    cases hs : a.spot with
                    | none => rfl
                    | some _ => rw [hs] at this; split at this <;> simp at this
                  refine ⟨?_, h0⟩
                  rw [← hc' j hj, Go.Deep.add_add]
                  unfold Addr.add
                  split
                  · rename_i hz
                    rw [show a.off + i * P.cellsOf e + j = a.off by omega]
                    cases a; simp only at h0; subst h0; rfl
                  · rw [Nat.add_assoc]
                have hrep := Rep.list (B := B) (w := w) (F := allF w) (tok := []) (fr := []) (box := []) none (oldLL ((List.range len).map fun i => (T i).2)) (some a) cap (P.cellsOf e) a.block a.off
                  (fun i j => (T i).1.getD j undef) (by rw [hol]; exact hl)
                  (fun hne => by
                    have : 0 < len := by
                      rcases Nat.eq_zero_or_pos len with h0 | h0
                      · subst h0; exact absurd rfl hne
                      · exact h0
                    have := (hcell 0 0 this hpos).2
                    cases a; simp only at this; subst this; rfl)
                  (fun e' he' => by
                    obtain ⟨i, hi⟩ := List.getElem?_of_mem he'
                    obtain ⟨h1, h2⟩ := hget i e' hi
                    rw [h2]; exact hlenT i h1)
                  (fun hne => by
                    have h0 : 0 < len := by
                      rcases Nat.eq_zero_or_pos len with h0 | h0
                      · subst h0; exact absurd rfl hne
                      · exact h0
                    rw [hol]
                    have hc := (hcell (len - 1) (P.cellsOf e - 1) (by omega) (by omega)).1
                    have hl1 : (T (len - 1)).1.length = P.cellsOf e := (World.cells?_some (hT (len - 1) (by omega)).1).2.1
                    rw [List.getElem?_eq_getElem (by omega)] at hc
                    unfold World.cell? at hc
                    unfold allF
                    simp only at hc
                    split at hc
                    · simp only [Option.isSome_none, Bool.false_eq_true, if_false] at hc
                      have hlt := (Array.getElem?_eq_some_iff.1 hc).1
                      have hmul : (len - 1) * P.cellsOf e + P.cellsOf e = len * P.cellsOf e := by
                        obtain ⟨q, rfl⟩ : ∃ q, len = q + 1 := ⟨len - 1, by omega⟩
                        rw [Nat.add_sub_cancel, Nat.add_mul]; omega
                      rename_i he
                      rw [he]
                      simp only
                      omega
                    · cases hc)
                  (fun i e' j c' hi hj => by
                    obtain ⟨h1, rfl⟩ := hget i e' hi
                    have hj' := getElem?_lt hj
                    rw [hlenT i h1] at hj'
                    have hl1 : (T i).1.length = P.cellsOf e := (World.cells?_some (hT i h1).1).2.1
                    have hg : (T i).1[j]? = some ((T i).1.getD j undef) := by simp [List.getD, hl1, hj']
                    exact ⟨by rw [(hcell i j h1 hj').1, hg], (hT i h1).2.2.2 _ (List.mem_of_getElem? hg)⟩)
                  (fun i e' j c' hi hj => by
                    obtain ⟨h1, rfl⟩ := hget i e' hi
                    have hj' := getElem?_lt hj
                    rw [hlenT i h1] at hj'
                    have hl1 : (T i).1.length = P.cellsOf e := (World.cells?_some (hT i h1).1).2.1
                    have hg : (T i).1[j]? = some ((T i).1.getD j undef) := by simp [List.getD, hl1, hj']
                    exact (hT i h1).2.2.1.2 j c' _ hj hg)
                  (fun k hk => by cases hk)
                rw [hol] at hrep
                exact hrep
          · cases h
      | struct fs =>
        simp only at h
        cases hc : clF P (clOf P n) 0 fs.toList with
        | none => rw [hc] at h; cases h
        | some c =>
          rw [hc] at h
          simp only at h
          split at h
          · rename_i hsz
            simp only [Option.some.injEq] at h; subst h
            obtain ⟨xs, m, rfl, _, hl, hfl, hel⟩ := DataW.trod_struct ht hx
            have := open_fields (fuel := m) (cs := cs) B (clOf P n) (fun t cs x cls h1 h2 => open_cells B n m t cs x cls h1 h2) fs.toList 0 c hc (fun f hf => by
              obtain ⟨i, hi⟩ := List.getElem?_of_mem hf
              have hi' : fs[i]? = some f := by simpa using hi
              have := hel i f hi'
              have hlt : i < xs.length := by have := getElem?_lt hi; simp at this; omega
              exact ⟨_, by rw [this, List.getElem?_eq_getElem hlt]⟩)
            rw [List.drop_zero, hsz, ← hl, List.take_length] at this
            exact this
          · cases h
      | _ => simp only at h; cases h
/-- an argument that is a struct -/
theorem open_argS {t : TypeId} {v : Value} {d : DataW H} {ps : List MemPlace} {r : Reach} {b0 : Nat} (B n : Nat) {cls : List Cl} (hc : clOf P n t = some cls) {fs : Array Field} (hs : P.underlying t = some (.struct fs)) (hval : Value.okWide P w r b0 t v)
    (h : DataW.Trod enc P w base spare held t v d ps) : ∃ xs, FitsL cls xs ∧ Rep B w (allF w) [] [] [] (old (.a xs)) v := by
  obtain ⟨fuel, h⟩ := h
  obtain ⟨trs, h1, h2, h3⟩ := open_cells B n fuel t _ _ _ hc h
  unfold Value.okWide at hval
  rw [hs] at hval
  obtain ⟨cs, rfl, _, _⟩ := hval
  refine ⟨trs, h1, ?_⟩
  have hg : ∀ i, i < cs.size → cs.toList[i]? = some (cs.getD i undef) := fun i hi => by simp [Array.getD, hi]
  have hl : (oldL trs).length = cs.size := by have := h2.1; simpa [Value.cells] using this
  exact .agg _ _ hl (fun i hi => h3 _ (List.mem_of_getElem? (hg i hi))) (fun i c hc => h2.2 i c _ hc (hg i (by have := getElem?_lt hc; omega)))
end
end Abs
end Go.Proofs.YtplfkocigmnpmaaDoor
namespace Go.Proofs.YtplfkocigmnpmaaDoor
namespace Abs
variable {mo : Bool}
open Go.ChangeShapes Go.WideShapes Go.ChangeAt Go.RowKit
section
variable {H : Type} {enc : TypeId × Value → H} {P : Program}
theorem trodAll_stays {base : Nat} (hl : laidOutB P = true) {W W' : World} {sp' : Nat → Bool} : ∀ {ts : List TypeId} {vs : List Value} {ds : List (DataW H)} {ps : List MemPlace},
    (∀ t ∈ ts, P.readableRec t = true ∧ t < P.types.size) → DataW.TrodAll enc P W base (fun _ => true) true ts vs ds ps → (∀ p ∈ ps, W.sameAt W' p) → (∀ p ∈ ps, sp' p.block = true) →
    DataW.TrodAll enc P W' base sp' true ts vs ds ps
  | [], [], [], _, _, h, _, _ => h
  | t :: ts, v :: vs, d :: ds, _, ht, h, hs, hp => by
    obtain ⟨p, q, h1, h2, rfl⟩ := h
    exact ⟨p, q, WideElems.Trod_stays hl (ht t (by simp)).1 (ht t (by simp)).2 h1 (fun x hx => hs x (by simp [hx])) (fun x hx => hp x (by simp [hx])),
      trodAll_stays hl (fun t h => ht t (by simp [h])) h2 (fun x hx => hs x (by simp [hx])) (fun x hx => hp x (by simp [hx])), rfl⟩
/-- a law that says yes, and leaves what was there alone -/
theorem law_post {f : Func} {s : ChangeSpec} {apart fresh handsOn again : Bool} {W W' : World} {args : Array Value} {ds gs : List (DataW H)} {before : List MemPlace} {tb : TypeId}
    (hl : laidOutB P = true) (hv : s.vars = []) (hp : ∀ t ∈ f.params.toList, P.readableRec t = true ∧ t < P.types.size) (hr : f.resultTypes = #[tb]) (htb : P.underlying tb = some .bool)
    (hW : DataW.Whole enc P f.params.toList s.vars apart W args.toList ds gs before) (hb : Bel mo W.heap.size W W')
    (hfn : s.fn H (ds ++ gs) = { results := [.lit (.bool true)], args := ds }) : s.post enc P f apart fresh handsOn again W args (.bool true) W' := by
  have hlt : ∀ p ∈ before, p.block < W.heap.size := fun p hp => hW.lt p hp
  have hW' := hW
  obtain ⟨p, q, hA, hV, hpq, hz, hn⟩ := hW
  rw [hv] at hV
  obtain ⟨hg, hq⟩ : gs = [] ∧ q = [] := trodVars_none hV
  subst hg; subst hq
  simp only [List.append_nil] at hpq hfn hz hn
  subst hpq
  have hargs : ∀ sp : Nat → Bool, (∀ x ∈ before, sp x.block = true) → DataW.TrodAll enc P W' 0 sp true f.params.toList args.toList ds before :=
    fun sp hsp => trodAll_stays hl hp hA (fun x hx => hb.same (hlt x hx)) hsp
  have hres : ∀ (b : Nat) (sp : Nat → Bool) (hd : Bool), DataW.TrodAll enc P W' b sp hd f.resultTypes.toList ((Value.bool true).resultList f.resultTypes.size) [.lit (.bool true)] [] := fun b sp hd => by
    rw [hr]
    exact trodAll_mk1 (shut_bool htb true)
  have hvars : ∀ sp : Nat → Bool, DataW.TrodVars enc P W' sp s.vars [] [] := fun sp => by rw [hv]; rfl
  have hfn' : s.fn H (ds ++ []) = { results := [.lit (.bool true)], args := ds } := by rw [List.append_nil]; exact hfn
  refine ⟨ds, [], before, [], before, [], hW', by rw [hfn']; exact hres _ _ _, by rw [hfn']; exact hargs _ (fun x hx => by simpa using hlt x hx), by rw [hfn']; exact hvars _, hb.frame _, fun _ => ?_⟩
  refine ⟨ok_one hr rfl (okWide_bool_mk htb true), _, _, ([] ++ before) ++ [], ⟨[] ++ before, [], trodAll_append (hargs _ (fun _ _ => rfl)) (hres _ _ _), hvars _, rfl, ?_, ?_⟩, ?_⟩
  · intro b off hp'
    have hm : MemPlace.cell b off ∈ before := by simpa using hp'
    rw [hb.frozen (hlt _ hm)]
    exact hz b off hm
  · intro ha
    simpa using hn ha
  · intro x hx _
    simpa using hx
end
/-- the call's own result -/
theorem law_ret {P : Program} {fid : Nat} {avs : List AV} {args : Array Value} {W : World} (h : Ret mo P fid avs (.val (.bool true)) []) (hc : CondB W []) (hB : Both (Rep W.heap.size W (allF W) [] [] []) avs args.toList) :
    Calls P fid args W fun e w' => e = .returned (.bool true) ∧ Bel mo W.heap.size W w' := by
  rw [Ret_eq] at h
  obtain ⟨_, hR⟩ := h
  refine (hR W (allF W) args hc (fun b hb => allF_out W b hb) hB).mono ?_
  rintro e W' ⟨v, F', tok, box, rfl, hb, _, _, _, _, _, hrep⟩
  cases hrep
  exact ⟨rfl, hb⟩
theorem both_nil {R : AV → Value → Prop} : Both R [] [] := ⟨rfl, by simp⟩
end Abs
theorem Abs.own : ownKnob Tryd.prog.godebug = none := by kernel_rfl
end Go.Proofs.YtplfkocigmnpmaaDoor
namespace Go.Proofs.YtplfkocigmnpmaaDoor
open Abs
theorem Abs.pow_data : (Rows.laid_internal_strconv_uint64pow10 : DataW Unit) = Lib.tabData .u64 Lib.pow10Tab := by kernel_rfl
theorem Abs.cond_of {W : World} {cs : Array Value} {enc : TypeId × Value → Unit} {base : Nat} {sp : Nat → Bool} {held : Bool} {fuel : Nat} {q : List MemPlace} (hv : W.var? Tryd.prog "internal/strconv.uint64pow10" = some cs)
    (hd : DataW.trod enc Tryd.prog W base sp held fuel 127 cs.toList = some (Rows.laid_internal_strconv_uint64pow10, q)) : CondB W [] := by
  rw [Abs.pow_data] at hd
  have hc := Lib.cells_of_tab (n := 20) (e := 104) (by kernel_rfl) (by kernel_rfl) (by kernel_rfl) (by kernel_rfl) hd
  intro p hp
  rw [List.mem_singleton.1 hp]
  refine ⟨?_, fun j c hj => by simp at hj⟩
  unfold World.var? at hv
  rw [show Tryd.prog.globalNamed "internal/strconv.uint64pow10" = some 0 by kernel_rfl, Option.bind_some] at hv
  split at hv
  · rename_i c t m h
    cases hv
    exact ⟨t, m, by rw [h]; congr 2; rw [← hc]⟩
  · cases hv
end Go.Proofs.YtplfkocigmnpmaaDoor
